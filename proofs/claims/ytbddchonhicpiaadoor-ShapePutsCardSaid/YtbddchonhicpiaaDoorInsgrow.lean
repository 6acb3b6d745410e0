/-
  Walk: slices.Insert of one tuple into a row of tuples of the call's own: where there is no room; all roads together.
-/
import Derived.Test.YtbddchonhicpiaaDoorInsert
namespace Go.Proofs.YtbddchonhicpiaaDoor
open Go.RowKit Go.Lib

/-- The cells behind both stores. -/
theorem ins_cells {W : World} {b n i : Nat} {us : List Value} {y : Value} (hi : i ≤ n) (hul : us.length = n) (hsp : ∀ j, j < n + 1 → (W.cell? ⟨b, j, none⟩).isSome = true) (hlo : ∀ j u, j < i → us[j]? = some u → W.cell? ⟨b, j, none⟩ = some u) :
    (∀ j u, (us.take i ++ y :: us.drop i)[j]? = some u → ((W.setCells b (i + 1) (us.drop i)).setCells b i [y]).cell? ⟨b, j, none⟩ = some u) ∧
    (∀ W2 : World, (∀ x, W2.cell? x = (W.setCells b i [y]).cell? x) → ∀ j u, (us.take i ++ y :: us.drop i)[j]? = some u → (W2.setCells b (i + 1) (us.drop i)).cell? ⟨b, j, none⟩ = some u) := by
  have hdl : (us.drop i).length = n - i := by rw [List.length_drop, hul]
  constructor
  · intro j u h
    rcases ins_at (by omega) h with ⟨h1, h2⟩ | ⟨rfl, rfl⟩ | ⟨h1, h2⟩
    · rw [World.cell?_setCells_out b _ _ _ ⟨b, j, none⟩ (fun _ _ => .inl h1), World.cell?_setCells_out b _ _ _ ⟨b, j, none⟩ (fun _ _ => .inl (show j < i + 1 by omega))]
      exact hlo j u h1 h2
    · have := World.cell?_setCells_in b [u] j (W.setCells b (j + 1) (us.drop j)) (fun k hk => by
        simp at hk; subst hk
        exact isSome_setCells b _ _ _ (fun q hq => hsp _ (by omega)) _ (hsp _ (by omega))) 0 (by simp)
      simpa using this
    · rw [World.cell?_setCells_out b _ _ _ ⟨b, j, none⟩ (fun _ _ => .inr (by simp; omega))]
      have hq : j - (i + 1) < (us.drop i).length := (List.getElem?_eq_some_iff.1 h2).1
      have := World.cell?_setCells_in b (us.drop i) (i + 1) W (fun k hk => hsp _ (by omega)) (j - (i + 1)) hq
      rw [show i + 1 + (j - (i + 1)) = j by omega] at this
      rw [this, ← h2, List.getElem?_eq_getElem hq]
  · intro W2 hW2 j u h
    rcases ins_at (by omega) h with ⟨h1, h2⟩ | ⟨rfl, rfl⟩ | ⟨h1, h2⟩
    · rw [World.cell?_setCells_out b _ _ _ ⟨b, j, none⟩ (fun _ _ => .inl (show j < i + 1 by omega)), hW2, World.cell?_setCells_out b _ _ _ ⟨b, j, none⟩ (fun _ _ => .inl h1)]
      exact hlo j u h1 h2
    · rw [World.cell?_setCells_out b _ _ _ ⟨b, j, none⟩ (fun _ _ => .inl (show j < j + 1 by omega)), hW2]
      have := World.cell?_setCells_in b [u] j W (fun k hk => by simp at hk; subst hk; exact hsp _ (by omega)) 0 (by simp)
      simpa using this
    · have hq : j - (i + 1) < (us.drop i).length := (List.getElem?_eq_some_iff.1 h2).1
      have := World.cell?_setCells_in b (us.drop i) (i + 1) W2 (fun k hk => by rw [hW2]; exact isSome_setCells b _ _ _ (fun q hq => by simp at hq; subst hq; exact hsp _ (by omega)) _ (hsp _ (by omega))) (j - (i + 1)) hq
      rw [show i + 1 + (j - (i + 1)) = j by omega] at this
      rw [this, ← h2, List.getElem?_eq_getElem hq]

set_option maxRecDepth 100000 in
set_option maxHeartbeats 4000000 in
/-- In the midst, where there is no room: a new row. -/
theorem insert_grow (b n c i vb base : Nat) (us : List Value) (y : Value) (w : World) (hi : i < n) (hnc : n ≤ c) (hroom : c < n + 1) (hn : n ≤ 1000000) (hul : us.length = n) (hbw : b < w.heap.size) (hbase : base ≤ w.heap.size)
    (hcs : ∀ j u, us[j]? = some u → w.cell? ⟨b, j, none⟩ = some u) (hvb : Blk w vb 35 #[y]) (h1 : ∀ u ∈ us, u.oneCell' = true) (hy : y.oneCell' = true) :
    Calls Tryd.prog 64 #[.slice (some ⟨b, 0, none⟩) n c, .int .i64 i, .slice (some ⟨vb, 0, none⟩) 1 1] w fun e w' => ∃ v', e = .returned v' ∧ w'.ownsRow base 35 1 v' (n + 1) (us.take i ++ y :: us.drop i) ∧ w.grownBy w' none := by
  obtain ⟨i0, hi0, hz0, hzs, hzb⟩ := info_parts tups_info
  have hz2 : ¬ ((i : Int) = (n : Int)) := by omega
  have hz3 : (c : Int) < (n : Int) + 1 := by omega
  have hvw : vb < w.heap.size := hvb.lt
  have hkk : (n : Int) + 1 - (i : Int) = ((n + 1 - i : Nat) : Int) := by omega
  have hik : i + (n + 1 - i) = n + 1 := by omega
  have hold : (Builtin.firstCells i0.size i (.slice (some ⟨b, 0, none⟩) i c)).run Tryd.prog w.drew = .ok (us.take i).toArray w.drew := by
    rw [hzs]
    exact run_firstCells_some w.drew 1 i ⟨b, 0, none⟩ i c (us.take i) (by rw [List.length_take]; omega) (fun j v hj => by
      rw [Addr.add_lit, Nat.zero_add]
      rw [List.getElem?_take] at hj
      split at hj
      · exact hcs j v hj
      · cases hj)
  have hrz : ∀ ty, (Builtin.append_ #[49, 3] ty #[.slice (some ⟨b, 0, none⟩) i c, .int .i64 ((n : Int) + 1 - (i : Int))]).run Tryd.prog w =
      .ok (.slice (some ⟨w.heap.size, 0, none⟩) (n + 1) (grownCap w (n + 1) c 35)) (w.drew.alloc (.cells ((us.take i).toArray ++ Builtin.zeroCells (Value.slice none 0 0).cells (n + 1 - i) ++ Builtin.zeroCells (Value.slice none 0 0).cells (grownCap w (n + 1) c 35 - (n + 1))) 35)) := fun ty => by
    have h := Lib.run_append_grow_zeros w 49 3 ty 35 i0 _ .i64 .i64 Tryd.underlying49 Tryd.underlying3 hi0 hz0 (some ⟨b, 0, none⟩) i c (us.take i) hold (n + 1 - i) (by omega) (by omega) (by omega) (by omega) (by rw [hzb]; omega) (by rw [hzb, hik]; exact growslice_fits hroom (by omega))
    rw [hik] at h
    rw [hkk]
    exact h
  obtain ⟨G, hG⟩ : ∃ G, G = grownCap w (n + 1) c 35 := ⟨_, rfl⟩
  obtain ⟨ROW, hROW⟩ : ∃ ROW : Array Value, ROW = (us.take i).toArray ++ Builtin.zeroCells (Value.slice none 0 0).cells (n + 1 - i) ++ Builtin.zeroCells (Value.slice none 0 0).cells (G - (n + 1)) := ⟨_, rfl⟩
  rw [← hG] at hrz
  rw [← hROW] at hrz
  have hGn : n + 1 ≤ G := by rw [hG]; exact grownCap_ge w _ _ _
  have hRs : ROW.size = G := by
    rw [hROW]
    simp [Builtin.zeroCells, Value.cells]
    omega
  have hRlo : ∀ j u, j < i → us[j]? = some u → ROW[j]? = some u := fun j u hj hu => by
    have hlen : (us.take i).toArray.size = i := by rw [List.size_toArray, List.length_take]; omega
    rw [hROW, Array.getElem?_append_left (by rw [Array.size_append]; omega), Array.getElem?_append_left (by omega)]
    rw [List.getElem?_toArray, List.getElem?_take, if_pos hj]; exact hu
  have hGm : G ≤ maxLen := by rw [hG]; exact grownCap_le_maxLen w (n + 1) c _ (by unfold maxLen; omega)
  have hG63 : G ≤ 9223372036854775807 := by unfold maxLen at hGm; omega
  obtain ⟨W1, hW1⟩ : ∃ W1, W1 = w.drew.alloc (.cells ROW 35) := ⟨_, rfl⟩
  rw [← hW1] at hrz
  have hb1 : Blk W1 w.heap.size 35 ROW := by rw [hW1]; exact Blk.new w.drew 35 ROW
  have hN : ∀ j, j < n + 1 → (W1.cell? ⟨w.heap.size, j, none⟩).isSome = true := fun j hj => by rw [hb1.cell j, Array.getElem?_eq_getElem (by omega)]; rfl
  have hNf : ∀ j, W1.frozen? ⟨w.heap.size, j, none⟩ = false := fun j => hb1.frozen j
  have hOb : ∀ j v, w.cell? ⟨b, j, none⟩ = some v → W1.cell? ⟨b, j, none⟩ = some v := fun j v h => by rw [hW1, World.cell?_alloc_past (w := w.drew) _ b j hbw]; exact h
  have hOv : W1.cell? ⟨vb, 0, none⟩ = some y := by rw [hW1, World.cell?_alloc_past (w := w.drew) _ vb 0 hvw]; exact hvb.cell 0
  have hcpA : ∀ (W : World), (∀ x, W.cell? x = W1.cell? x) → (∀ x, W.frozen? x = W1.frozen? x) → ∀ ty dc, (Builtin.copy_ #[49, 49] ty #[.slice (some ⟨w.heap.size, i, none⟩) (n + 1 - i) dc, .slice (some ⟨vb, 0, none⟩) 1 1]).run Tryd.prog W = .ok (goInt [y].length) (W.setCells w.heap.size i [y]) := fun W hWc hWf ty dc =>
    run_copy_cells W _ _ ty 35 w.heap.size i (n + 1 - i) dc ⟨vb, 0, none⟩ 1 1 [y] Tryd.underlying49 tup_sz (by simp only [List.length_singleton, Nat.min_def]; split <;> omega)
      (fun j v hj => by
        rw [Addr.add_lit, hWc, Nat.zero_add]
        rcases j with _ | j
        · simp at hj; subst hj; exact hOv
        · simp at hj)
      (fun j hj => by rw [hWc]; exact hN _ (by simp at hj; omega)) (fun j hj => by rw [hWf]; exact hNf _) (fun u hu => by rw [List.mem_singleton] at hu; rw [hu]; exact hy)
  have hGi : ¬ (G = i) := by omega
  have hGim : ¬ (G = i + 1) := by omega
  have hci : ¬ (c = i) := by omega
  have hbN : b ≠ w.heap.size := by omega
  have hdl : (us.drop i).length = n - i := by rw [List.length_drop, hul]
  have hcpB : ∀ (W : World), (∀ x, W.cell? x = (W1.setCells w.heap.size i [y]).cell? x) → (∀ x, W.frozen? x = (W1.setCells w.heap.size i [y]).frozen? x) → ∀ ty dc sc, (Builtin.copy_ #[49, 49] ty #[.slice (some ⟨w.heap.size, i + 1, none⟩) (n - i) dc, .slice (some ⟨b, i, none⟩) (n - i) sc]).run Tryd.prog W = .ok (goInt (us.drop i).length) (W.setCells w.heap.size (i + 1) (us.drop i)) := fun W hWc hWf ty dc sc =>
    run_copy_cells W _ _ ty 35 w.heap.size (i + 1) (n - i) dc ⟨b, i, none⟩ (n - i) sc (us.drop i) Tryd.underlying49 tup_sz (by rw [hdl]; simp only [Nat.min_def]; split <;> omega)
      (fun j v hj => by
        rw [Addr.add_lit, hWc, World.cell?_setCells_out _ _ _ _ _ (fun h _ => absurd h hbN)]
        exact hOb _ v (hcs (i + j) v (by rwa [List.getElem?_drop] at hj)))
      (fun j hj => by rw [hWc]; exact isSome_setCells _ _ _ _ (fun t ht => hN _ (by simp at ht; omega)) _ (hN _ (by omega)))
      (fun j hj => by rw [hWf, World.frozen?_setCells]; exact hNf _) (fun v hv => h1 v (List.mem_of_mem_drop hv))
  have hbD : Blk (w.alloc (.cells ROW 35)).drew w.heap.size 35 ROW := (Blk.new w 35 ROW).drew
  have hic := ins_cells (W := (w.alloc (.cells ROW 35)).drew) (b := w.heap.size) (y := y) (Nat.le_of_lt hi) hul (fun j hj => by rw [hbD.cell j, Array.getElem?_eq_getElem (by omega)]; rfl) (fun j u hj hu => by rw [hbD.cell j]; exact hRlo j u hj hu)
  have hfin : ((((w.alloc (.cells ROW 35)).drew.setCells w.heap.size i [y]).drew).setCells w.heap.size (i + 1) (us.drop i)).ownsRow base 35 1 (.slice (some ⟨w.heap.size, 0, none⟩) (n + 1) G) (n + 1) (us.take i ++ y :: us.drop i) := by
    have hk1 : Blk (w.alloc (.cells ROW 35)).drew w.heap.size 35 ROW := (Blk.new w 35 ROW).drew
    obtain ⟨c1, hk2, hs2⟩ := blk_setCells w.heap.size 35 [y] i _ _ hk1
    obtain ⟨c2, hk3, hs3⟩ := blk_setCells w.heap.size 35 (us.drop i) (i + 1) _ _ hk2.drew
    refine own_of_cells hbase hk3 hGn hGm (by omega) (by simp; omega) (fun j u hu => ?_)
    exact hic.2 (((w.alloc (.cells ROW 35)).drew.setCells w.heap.size i [y]).drew) (fun _ => rfl) j u hu
  have hgr : w.grownBy ((((w.alloc (.cells ROW 35)).drew.setCells w.heap.size i [y]).drew).setCells w.heap.size (i + 1) (us.drop i)) none := by
    have g1 : w.grownBy (w.alloc (.cells ROW 35)) (some w.heap.size) := World.grownBy_alloc w _ _
    have g2 := grown_trans g1 (grown_trans (grown_drewN _ 1 _) (grown_trans (grown_setCells w.heap.size [y] i _) (grown_trans (grown_drewN _ 1 _) (grown_setCells w.heap.size (us.drop i) (i + 1) _))))
    exact ⟨g2.os, g2.tape, g2.output, g2.size, fun k hk _ => g2.block k hk (fun e => by injection e with e; omega)⟩
  subst hW1
  have hE1 : ∀ x, ((w.alloc (.cells ROW 35)).drew).cell? x = (w.drew.alloc (.cells ROW 35)).cell? x := fun x => rfl
  have hE2 : ∀ x, ((w.alloc (.cells ROW 35)).drew).frozen? x = (w.drew.alloc (.cells ROW 35)).frozen? x := fun x => rfl
  have hF1 : ∀ x, (((w.alloc (.cells ROW 35)).drew.setCells w.heap.size i [y]).drew).cell? x = ((w.drew.alloc (.cells ROW 35)).setCells w.heap.size i [y]).cell? x := fun x => rfl
  have hF2 : ∀ x, (((w.alloc (.cells ROW 35)).drew.setCells w.heap.size i [y]).drew).frozen? x = ((w.drew.alloc (.cells ROW 35)).setCells w.heap.size i [y]).frozen? x := fun x => rfl
  have hw1 : IntKind.i64.wrap ((i : Int) + 1) = (i : Int) + 1 := by rw [IntKind.wrap_i64]; omega
  have hb1' : (0 : Int) ≤ (i : Int) + 1 := by omega
  have hin : i ≤ n := by omega
  have htn : ((i : Int) + 1).toNat = i + 1 := by omega
  have hb3 : (i : Int) ≤ (n : Int) := by omega
  have Hfin := Lib.hid hfin
  have Hgr := Lib.hid hgr
  clear hkk hik hold hROW hG hRs hRlo hic hbD hb1 hN hNf hOb hOv hfin hgr hcs h1 hGm
  go_enter Tryd.func64, Tryd.ntmps64
  go_wp2_with (first
    | (at_builtin; refine Lib.wpList_append_run _ rfl _ _ _ _ rfl _ _ rfl rfl _ _ (hrz _) ?_)
    | (at_builtin; refine wpList_copy_runI _ rfl _ _ 49 49 rfl _ _ rfl rfl (hcpA _ hE1 hE2 _ _) ?_)
    | (at_builtin; refine wpList_copy_runI _ rfl _ _ 49 49 rfl _ _ rfl rfl (hcpB _ (fun _ => rfl) (fun _ => rfl) _ _ _) ?_))
  go_region_law (refine step_copy_runI rfl _ _ 49 49 rfl (.slice (some ⟨w.heap.size, i + 1, none⟩) (n - i) (G - (i + 1))) (.slice (some ⟨b, i, none⟩) (n - i) (c - i)) (by simp [Act.eval, Act.put]) (by simp [Act.eval, Act.put]) (hcpB _ hF1 hF2 3 (G - (i + 1)) (c - i)) ?_)
  go_wp2
  go_ret
  exact ⟨_, rfl, Hfin.out, Hgr.out⟩

/-- All roads. -/
theorem insert_any (v : Value) (n i : Nat) (us : List Value) (base : Nat) (w : World) (hi : i ≤ n) (hown : w.ownsRow base 35 1 v n us) (h1 : ∀ u ∈ us, u.oneCell' = true) (vb : Nat) (y : Value) (hvb : Blk w vb 35 #[y]) (hne : v.ownBlock ≠ some vb) (hy : y.oneCell' = true) (hn : n ≤ 1000000) (hbase : base ≤ w.heap.size) :
    Calls Tryd.prog 64 #[v, .int .i64 i, .slice (some ⟨vb, 0, none⟩) 1 1] w fun e w' => ∃ v', e = .returned v' ∧ w'.ownsRow base 35 1 v' (n + 1) (us.take i ++ y :: us.drop i) ∧ w.grownBy w' v.ownBlock := by
  have hul : us.length = n := by have := hown.1; omega
  by_cases hin : i = n
  · subst hin
    rw [List.take_of_length_le (by omega), List.drop_of_length_le (by omega)]
    exact insert_end v i us base w hown vb y hvb hy hn hbase
  · have hown' := hown
    rcases hown'.2 with ⟨rfl, rfl⟩ | ⟨g, cap, cur, rfl, hbg, hh, hnc, hcm, hcs, htk⟩
    · omega
    · have hblk : Blk w g 35 cur := hh
      have hcell : ∀ j u, us[j]? = some u → w.cell? ⟨g, j, none⟩ = some u := fun j u hu => by
        have := hown.cells (g := g) rfl j u hu
        rwa [Addr.add_lit, Nat.zero_add] at this
      by_cases hroom : n + 1 ≤ cap
      · refine (insert_room g n cap i vb us y cur w (by omega) hroom hcm (fun e => hne (by rw [e]; rfl)) hul hblk (by omega) hcell hvb h1 hy).mono ?_
        rintro e w' ⟨rfl, rfl⟩
        obtain ⟨c1, hk2, hs2⟩ := blk_setCells g 35 (us.drop i) (i + 1) _ _ hblk.drew
        obtain ⟨c2, hk3, hs3⟩ := blk_setCells g 35 [y] i _ _ hk2
        refine ⟨_, rfl, own_of_cells hbg hk3 hroom hcm (by omega) (by simp; omega) (ins_cells (W := w.drew) (by omega) hul (fun j hj => ?_) (fun j u _ hu => hcell j u hu)).1, ?_⟩
        · show (w.cell? ⟨g, j, none⟩).isSome = true
          rw [hblk.cell j, Array.getElem?_eq_getElem (by omega)]; rfl
        · exact grown_trans (grown_drewN w 1 (some g)) (grown_trans (grown_setCells g _ _ _) (grown_setCells g _ _ _))
      · refine (insert_grow g n cap i vb base us y w (by omega) hnc (by omega) hn hul hblk.lt hbase hcell hvb h1 hy).mono ?_
        rintro e w' ⟨v', rfl, ho, hg⟩
        exact ⟨v', rfl, ho, ⟨hg.os, hg.tape, hg.output, hg.size, fun k hk _ => hg.block k hk (by simp)⟩⟩

end Go.Proofs.YtbddchonhicpiaaDoor
