/-
  Walk: slices.Insert of one tuple into a row of tuples of the call's own.
-/
import Derived.Test.YtbddchonhicpiaaDoorRcopy
import Derived.Shelf.Spec.SlicesInsertGrow
import Derived.Deep.RegionLaw
import Derived.Laws.Rows
namespace Go.Proofs.YtbddchonhicpiaaDoor
open Go.RowKit Go.Lib

theorem grown_trans {a b c : World} {row : Option Nat} (h : a.grownBy b row) (k : b.grownBy c row) : a.grownBy c row :=
  ⟨k.os.trans h.os, k.tape.trans h.tape, k.output.trans h.output, Nat.le_trans h.size k.size, fun i hi hr => (k.block i (Nat.lt_of_lt_of_le hi h.size) hr).trans (h.block i hi hr)⟩
theorem grown_drewN (w : World) (n : Nat) (row : Option Nat) : w.grownBy (w.drewN n) row := ⟨rfl, rfl, rfl, Nat.le_refl _, fun _ _ _ => rfl⟩
theorem blk_shape {w : World} {g : Nat} {t : TypeId} {cs : Array Value} (h : Blk w g t cs) : w.shape? g = some (t, cs.size) := by
  unfold Blk at h
  simp [World.shape?, h]
/-- Stores into a block that is known whole. -/
theorem blk_setCells (g : Nat) (t : TypeId) : ∀ (vs : List Value) (o : Nat) (w : World) (cs : Array Value), Blk w g t cs → ∃ cs' : Array Value, Blk (w.setCells g o vs) g t cs' ∧ cs'.size = cs.size
  | [], o, w, cs, h => ⟨cs, h, rfl⟩
  | v :: r, o, w, cs, h => by
    obtain ⟨cs', h1, h2⟩ := blk_setCells g t r (o + 1) (w.setCell ⟨g, o, none⟩ v) _ (h.set_ o v)
    exact ⟨cs', h1, by rw [h2, Array.size_setIfInBounds]⟩
theorem grown_setCells (g : Nat) : ∀ (vs : List Value) (o : Nat) (w : World), w.grownBy (w.setCells g o vs) (some g)
  | [], _, w => World.grownBy.refl w _
  | v :: r, o, w => by
    have h1 : w.grownBy (w.setCell ⟨g, o, none⟩ v) (some g) := ⟨rfl, rfl, rfl, by simp [World.setCell], fun i _ hne => Below.heap_setCell _ _ _ _ (fun e => hne (by rw [e]))⟩
    exact grown_trans h1 (grown_setCells g r (o + 1) _)
/-- A row of the call's own, out of its block and its cells. -/
theorem own_of_cells {w : World} {base g cap n : Nat} {e : TypeId} {cur : Array Value} {xs : List Value} (hb : base ≤ g) (hh : Blk w g e cur) (hn : n ≤ cap) (hcap : cap ≤ maxLen) (hs : cur.size = cap) (hx : xs.length = n)
    (hc : ∀ j u, xs[j]? = some u → w.cell? ⟨g, j, none⟩ = some u) : w.ownsRow base e 1 (.slice (some ⟨g, 0, none⟩) n cap) n xs := by
  refine ⟨by omega, .inr ⟨g, cap, cur, rfl, hb, hh, hn, hcap, by omega, ?_⟩⟩
  rw [Nat.mul_one]
  apply List.ext_getElem?
  intro j
  rw [List.getElem?_take]
  split
  · rename_i hj
    have h1 := hc j xs[j] (List.getElem?_eq_getElem (by omega))
    rw [hh.cell j] at h1
    rw [Array.getElem?_toList, h1, List.getElem?_eq_getElem (by omega)]
  · rw [List.getElem?_eq_none (by omega)]

theorem ins_at {us : List Value} {y : Value} {i j : Nat} {u : Value} (hi : i ≤ us.length) (h : (us.take i ++ y :: us.drop i)[j]? = some u) : (j < i ∧ us[j]? = some u) ∨ (j = i ∧ u = y) ∨ (i < j ∧ (us.drop i)[j - (i + 1)]? = some u) := by
  have hl : (us.take i).length = i := by rw [List.length_take]; omega
  by_cases h1 : j < i
  · rw [List.getElem?_append_left (by omega), List.getElem?_take, if_pos h1] at h
    exact .inl ⟨h1, h⟩
  · rw [List.getElem?_append_right (by omega), hl] at h
    by_cases h2 : j = i
    · subst h2
      rw [Nat.sub_self] at h
      exact .inr (.inl ⟨rfl, (Option.some.inj h).symm⟩)
    · rw [show j - i = (j - (i + 1)) + 1 by omega, List.getElem?_cons_succ] at h
      exact .inr (.inr ⟨by omega, h⟩)

set_option maxRecDepth 100000 in
set_option maxHeartbeats 400000 in
/-- Behind the last. -/
theorem insert_end (v : Value) (n : Nat) (us : List Value) (base : Nat) (w : World) (hown : w.ownsRow base 35 1 v n us) (vb : Nat) (y : Value) (hvb : Blk w vb 35 #[y]) (hy : y.oneCell' = true) (hn : n ≤ 1000000) (hbase : base ≤ w.heap.size) :
    Calls Tryd.prog 64 #[v, .int .i64 n, .slice (some ⟨vb, 0, none⟩) 1 1] w fun e w' => ∃ v', e = .returned v' ∧ w'.ownsRow base 35 1 v' (n + 1) (us ++ [y]) ∧ w.grownBy w' v.ownBlock := by
  have hown' := hown
  rcases hown'.2 with ⟨rfl, rfl⟩ | ⟨g, cap, cur, rfl, -, -, hnc, hcm, -⟩
  · have Hown := Lib.hid hown; clear hown hown'
    go_enter Tryd.func64, Tryd.ntmps64
    go_wp2_with (at_builtin; refine append_tup _ rfl _ _ rfl base _ 0 us rfl Hown.out ⟨vb, 0, none⟩ 1 y rfl (hvb.cell 0) hy (by omega) hbase ?_; intro v' w' hown1 hg1)
    go_ret
    exact ⟨_, rfl, hown1, hg1⟩
  · have Hown := Lib.hid hown; clear hown hown'
    unfold maxLen at hcm
    by_cases hc : cap = n
    · subst hc
      go_enter Tryd.func64, Tryd.ntmps64
      go_wp2_with (at_builtin; refine append_tup _ rfl _ _ rfl base _ cap us rfl Hown.out ⟨vb, 0, none⟩ 1 y rfl (hvb.cell 0) hy (by omega) hbase ?_; intro v' w' hown1 hg1)
      go_ret
      exact ⟨_, rfl, hown1, hg1⟩
    · go_enter Tryd.func64, Tryd.ntmps64
      go_wp2_with (at_builtin; refine append_tup _ rfl _ _ rfl base _ n us rfl Hown.out ⟨vb, 0, none⟩ 1 y rfl (hvb.cell 0) hy (by omega) hbase ?_; intro v' w' hown1 hg1)
      go_ret
      exact ⟨_, rfl, hown1, hg1⟩

theorem tup_sizeOf (w : World) : (Go.sizeOf 35).run Tryd.prog w = .ok 1 w := by
  obtain ⟨i0, hi0, -, hz1, -⟩ := info_parts tups_info
  simp [sizeOf, typeInfo, hi0, hz1]
theorem tup_sz : (Tryd.prog.info? 35).map (·.size) = some 1 := by kernel_rfl

set_option maxRecDepth 100000 in
set_option maxHeartbeats 4000000 in
/-- In the midst, where there is room. -/
theorem insert_room (b n c i vb : Nat) (us : List Value) (y : Value) (cur : Array Value) (w : World) (hi : i < n) (hroom : n + 1 ≤ c) (hc63 : c ≤ maxLen) (hne : vb ≠ b) (hul : us.length = n) (hblk : Blk w b 35 cur) (hcur : cur.size = c)
    (hcs : ∀ j u, us[j]? = some u → w.cell? ⟨b, j, none⟩ = some u) (hvb : Blk w vb 35 #[y]) (h1 : ∀ u ∈ us, u.oneCell' = true) (hy : y.oneCell' = true) :
    Calls Tryd.prog 64 #[.slice (some ⟨b, 0, none⟩) n c, .int .i64 i, .slice (some ⟨vb, 0, none⟩) 1 1] w fun e w' =>
      e = .returned (.slice (some ⟨b, 0, none⟩) (n + 1) c) ∧ w' = (w.drew.setCells b (i + 1) (us.drop i)).setCells b i [y] := by
  unfold maxLen at hc63
  have hsp : ∀ j, j < n + 1 → (w.cell? ⟨b, j, none⟩).isSome = true := fun j hj => by
    rw [hblk.cell j, Array.getElem?_eq_getElem (by omega)]; rfl
  have hfz : ∀ j, w.frozen? ⟨b, j, none⟩ = false := fun j => hblk.frozen j
  have hz2 : ¬ ((i : Int) = (n : Int)) := by omega
  have hov : ∀ lb cb, (callFunc 86 #[.slice (some ⟨vb, 0, none⟩) 1 1, .slice (some ⟨b, i + 1, none⟩) lb cb]).run Tryd.prog w = .ok (.value (.bool false)) w := fun lb cb => by
    rw [run_callFunc_extern Tryd.func86 (by kernel_rfl) (by kernel_rfl) (by kernel_rfl) (e := Extern.SlicesOverlaps.overlaps #[49, 49] #[4]) (by kernel_rfl),
      Lib.run_overlaps_apart w 49 4 35 Tryd.underlying49 1 tup_sizeOf ⟨vb, 0, none⟩ ⟨b, i + 1, none⟩ 1 1 lb cb hne _ _ _ _ (blk_shape hvb) (blk_shape hblk) (by omega) (hvb.frozen 0) (hvb.frozen _)]
    rfl
  have hdl : (us.drop i).length = n - i := by rw [List.length_drop, hul]
  have hw1 : IntKind.i64.wrap ((i : Int) + 1) = (i : Int) + 1 := by rw [IntKind.wrap_i64]; omega
  have hb1 : (0 : Int) ≤ (i : Int) + 1 := by omega
  have hin : i ≤ n := by omega
  have htn : ((i : Int) + 1).toNat = i + 1 := by omega
  have hb2 : ¬ (c = i + 1) := by omega
  have hb3 : (i : Int) ≤ (n : Int) + 1 := by omega
  have hb4 : ¬ (c = i) := by omega
  have hcp1 : ∀ ty dc sc, (Builtin.copy_ #[49, 49] ty #[.slice (some ⟨b, i + 1, none⟩) (n - i) dc, .slice (some ⟨b, i, none⟩) (n + 1 - i) sc]).run Tryd.prog w.drew = .ok (goInt (us.drop i).length) (w.drew.setCells b (i + 1) (us.drop i)) := fun ty dc sc =>
    run_copy_cells w.drew _ _ ty 35 b (i + 1) (n - i) dc ⟨b, i, none⟩ (n + 1 - i) sc (us.drop i) Tryd.underlying49 tup_sz (by rw [hdl]; simp only [Nat.min_def]; split <;> omega)
      (fun j v hj => by rw [Addr.add_lit]; exact hcs (i + j) v (by rwa [List.getElem?_drop] at hj))
      (fun j hj => hsp (i + 1 + j) (by rw [hdl] at hj; omega)) (fun j hj => hfz _) (fun v hv => h1 v (List.mem_of_mem_drop hv))
  obtain ⟨W1, hW1⟩ : ∃ W1, W1 = w.drew.setCells b (i + 1) (us.drop i) := ⟨_, rfl⟩
  have hsp1 : ∀ k, k < n + 1 → (W1.cell? ⟨b, k, none⟩).isSome = true := fun k hk => by
    rw [hW1]
    exact isSome_setCells b (us.drop i) (i + 1) w.drew (fun j hj => hsp (i + 1 + j) (by rw [hdl] at hj; omega)) k (hsp k hk)
  have hcp2 : ∀ (W : World), (∀ x, W.cell? x = W1.cell? x) → (∀ x, W.frozen? x = W1.frozen? x) → ∀ ty dc, (Builtin.copy_ #[49, 49] ty #[.slice (some ⟨b, i, none⟩) (n + 1 - i) dc, .slice (some ⟨vb, 0, none⟩) 1 1]).run Tryd.prog W = .ok (goInt [y].length) (W.setCells b i [y]) := fun W hWc hWf ty dc =>
    run_copy_cells W _ _ ty 35 b i (n + 1 - i) dc ⟨vb, 0, none⟩ 1 1 [y] Tryd.underlying49 tup_sz (by simp only [List.length_singleton, Nat.min_def]; split <;> omega)
      (fun j v hj => by
        rw [Addr.add_lit, hWc, hW1, World.cell?_setCells_out b _ _ _ _ (fun h _ => absurd h hne), Nat.zero_add]
        rcases j with _ | j
        · simp at hj; subst hj; exact hvb.cell 0
        · simp at hj)
      (fun j hj => by rw [hWc]; exact hsp1 _ (by simp at hj; omega)) (fun j hj => by rw [hWf, hW1, World.frozen?_setCells]; exact hfz _) (fun u hu => by rw [List.mem_singleton] at hu; rw [hu]; exact hy)
  rw [← hW1] at hcp1
  clear hblk hcur hcs hvb h1 hsp hfz hsp1
  go_enter Tryd.func64, Tryd.ntmps64
  go_wp2_with (simp only [hov])
  go_region_law (refine step_copy_runI rfl _ _ 49 49 rfl _ _ (by simp [Act.eval, Act.put]) (by simp [Act.eval, Act.put]) (hcp1 _ _ _) ?_)
  go_wp2_with (at_builtin; refine wpList_copy_runI _ rfl _ _ 49 49 rfl _ _ rfl rfl (hcp2 _ (fun _ => rfl) (fun _ => rfl) _ _) ?_)
  go_ret
  first | exact ⟨rfl, rfl⟩ | exact ⟨rfl, by rw [hW1]⟩

end Go.Proofs.YtbddchonhicpiaaDoor
