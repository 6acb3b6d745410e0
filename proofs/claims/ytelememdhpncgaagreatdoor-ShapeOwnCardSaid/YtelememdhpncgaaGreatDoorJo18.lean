/-
  Texts joined: Keepv, Sres, Symown.
-/
import Derived.Test.YtelememdhpncgaaGreatDoorJo17
import Derived.Test.YtelememdhpncgaaGreatDoorJo14
import Derived.Test.YtelememdhpncgaaGreatDoorJo16
import Derived.Test.YtelememdhpncgaaGreatDoorJo8

/-
  Walk: shape.Keep at a valid structure.
-/
namespace Go.Proofs.YtelememdhpncgaaGreatDoor
open Go.RowKit
open Go.Maps (Keyed)
open Go.ChangeMaps Go.MapKept

/-- Of what lay below a's size, only blocks that E names may have turned. -/
def Near (a : World) (E : Nat → Prop) (W : World) : Prop := ∀ p : Addr, p.block < a.heap.size → ¬ E p.block → W.cell? p = a.cell? p
theorem Near.of_below {a W : World} {E : Nat → Prop} (h : Below a.heap.size a W) : Near a E W := fun _ hp _ => h.cell hp
theorem Near.grown {a W W' : World} {E : Nat → Prop} {row : Option Nat} (h : Near a E W) (hg : W.grownBy W' row) (hE : ∀ g, row = some g → E g) (hs : a.heap.size ≤ W.heap.size) : Near a E W' := fun p hp he =>
  (World.cell?_of_block (hg.block p.block (by omega) (fun e => he (hE _ e.symm)))).trans (h p hp he)
theorem Near.set {a W : World} {E : Nat → Prop} {b : Nat} (h : Near a E W) (hE : E b) (o : Nat) (u : Value) : Near a E (W.setCell ⟨b, o, none⟩ u) := fun p hp he =>
  (World.cell?_of_block (Below.heap_setCell W ⟨b, o, none⟩ u p.block (fun e => he (by rw [e]; exact hE)))).trans (h p hp he)

set_option maxRecDepth 100000 in
set_option maxHeartbeats 2000000 in
theorem keep_valid (f o : Bool) (size : Int) (v u : Value) (rs : List Sh.Rel) (ss : List (ByteArray × Int)) (w : World) (B : Nat) (hB : B ≤ w.heap.size) (h : Rels w B v rs) (g : Syms w B u ss) (hfit : SymFit ss) (hl : ss.length ≤ 1000)
    (hvb : Sh.validB ⟨size, rs⟩ = true) (hf : Sh.fitsB rs ss = f) (ho : Sh.onceB ss = o) :
    Calls Tryz.prog 15 #[.agg #[.int .i64 size, v], u] w (KeepPost f o size rs ss w) := by
  have h' := h
  obtain ⟨A, len, c, rfl, hlen, hmax, -⟩ := h'
  have g' := g
  obtain ⟨A', m, c', rfl, hm, hmm, -⟩ := g'
  have hl' : m ≤ 1000 := by omega
  clear hl
  have hcall := fun W (hW : Below w.heap.size w W) => valid_any size (.slice A len c) rs W B (Nat.le_trans hB hW.size) (h.below (hW.mono hB))
  rw [hvb] at hcall
  have Hcall := Lib.hid hcall; clear hcall
  have Hvb := Lib.hid hvb; clear hvb
  have Hf := Lib.hid hf; clear hf
  have Ho := Lib.hid ho; clear ho
  have Hlen := Lib.hid hlen; clear hlen
  have Hm := Lib.hid hm; clear hm
  have Hfit := Lib.hid hfit; clear hfit
  have hs := (Blk.new w 24 #[.int .i64 size, .slice A len c]).alloc (.cells #[.int .i64 0, .slice none 0 0] 24)
  have Hs := Lib.hid hs; clear hs
  have hz := Blk.new (w.alloc (.cells #[.int .i64 size, .slice A len c] 24)) 24 #[.int .i64 0, .slice none 0 0]
  rw [World.size_alloc] at hz
  have Hz := Lib.hid hz; clear hz
  have hb2 := ((Below.refl w.heap.size w).alloc (Nat.le_refl _) (.cells #[.int .i64 size, .slice A len c] 24)).alloc (by simp) (.cells #[.int .i64 0, .slice none 0 0] 24)
  have Hb2 := Lib.hid hb2; clear hb2
  have hmk := @run_makeMap Tryz.prog
  go_enter Tryz.func15, Tryz.ntmps15
  go_wp2_with (go_at_call 31
               refine (Hcall.out _ Hb2.out).mono ?_
               rintro e w1 ⟨rfl, hb1⟩)
  have hs1 := (Hs.out.below hb1 (by simp; omega)).alloc (.map #[] 0)
  have hz1 := (Hz.out.below hb1 (by simp)).alloc (.map #[] 0)
  have hw1 : w.heap.size + 2 ≤ w1.heap.size := by have := hb1.size; simp at this; omega
  have hbel1 := (Hb2.out.trans (hb1.mono (by simp; omega))).alloc (by omega) (.map #[] 0)
  have hset1 := NameSet.made w1
  have hMl : w1.heap.size < (w1.alloc (.map #[] 0)).heap.size := by simp
  clear hb1
  generalize (w1.alloc (.map #[] 0)) = W3 at *
  generalize w1.heap.size = M at *
  clear hmk
  go_loopw [19] (fun i wr => ∃ k : Nat, k ≤ m ∧ i = .int .i64 k ∧ Sh.fitsB rs (ss.take k) = true ∧ Blk wr w.heap.size 24 #[.int .i64 size, .slice A len c] ∧ Blk wr (w.heap.size + 1) 24 #[.int .i64 0, .slice none 0 0] ∧
      NameSet wr M k ((Sh.symNames ss).take k) ∧ Below w.heap.size w wr ∧ M < wr.heap.size) (fun i _ => m - (intOf i).toNat)
  case atStart => exact ⟨0, Nat.zero_le _, rfl, rfl, hs1, hz1, hset1, hbel1, hMl⟩
  case round =>
    obtain ⟨k, hk, rfl, hall, hs, hz, hset, hbel, hMl⟩ := hrel
    clear hs1 hz1 hset1 hbel1
    have Hset := Lib.hid hset; clear hset
    have Hall := Lib.hid hall; clear hall
    by_cases hlt : k < m
    · obtain ⟨ad, s, rfl, hb, hsy, c0, c1⟩ := (g.below (hbel.mono hB)).at_ hlt
      have hnz := Hfit.out s (List.mem_of_getElem? hsy)
      have hfs := fits_take (rs := rs) hsy
      rw [Hall.out, Bool.true_and] at hfs
      have hff := fits_false (rs := rs) hsy
      have hfd : Sh.fitB rs s = decide (0 ≤ Sh.findI s.1.toList s.2 rs) := rfl
      have hsn := take_snoc (Sh.symNames_at hsy)
      obtain ⟨nm, ar⟩ := s
      simp only at c0 c1 hnz hfd hsn
      have Hsn := Lib.hid hsn; clear hsn hsy
      have hbz := hbel.size
      have hkey : keyOf Tryz.prog 9 (.string nm) = some (.string nm.data.toList) := Go.WideMaps.keyOf_string_mk Tryz.underlying9 (by unfold maxLen; omega)
      have Hkey := Lib.hid hkey; clear hkey
      have hfind := find_any size (.slice A len c) rs nm ar (wr.alloc (.cells #[.string nm, .int .i64 ar] 72)) B (by simp; omega) (h.below ((hbel.alloc hbz _).mono hB))
      have hs0 : (wr.alloc (.cells #[.string nm, .int .i64 ar] 72)).cell? ⟨w.heap.size, 0, none⟩ = some (.int .i64 size) := (hs.alloc _).cell 0
      have hs1 : (wr.alloc (.cells #[.string nm, .int .i64 ar] 72)).cell? ⟨w.heap.size, 1, none⟩ = some (.slice A len c) := (hs.alloc _).cell 1
      generalize Sh.findI nm.toList ar rs = q at *
      by_cases hq : q < 0
      · have hff' := hff (hfd.trans (decide_eq_false (by omega)))
        rw [Hf.out] at hff'
        subst hff'
        have Hfind := Lib.hid hfind; clear hfind hfs hff hfd
        go_wp2_with (go_at_call 43
                     refine Hfind.out.mono ?_
                     rintro e w9 ⟨rfl, hb9⟩
                     have hz9 := (hz.alloc _).below hb9 (by simp; omega)
                     have hzc0 : w9.cell? ⟨w.heap.size + 1, 0, none⟩ = some (.int .i64 0) := hz9.cell 0
                     have hzc1 : w9.cell? ⟨w.heap.size + 1, 1, none⟩ = some (.slice none 0 0) := hz9.cell 1
                     have hzf0 := hz9.frozen 0
                     have hzf1 := hz9.frozen 1)
        refine bodyPost_ret (v := .tuple #[.agg #[.int .i64 0, .slice none 0 0], .int .i64 4]) (by simp [results, Tryz.results15, go_sem, hzc0, hzc1]) rfl ?_
        exact KeepPost.name ((((hbel.alloc hbz _).trans (hb9.mono (by simp; omega))).setCell (by simp) _).setCell (by simp) _)
      · have Hft := Lib.hid (hfs.trans (hfd.trans (decide_eq_true (show 0 ≤ q by omega))))
        have Hfind := Lib.hid hfind; clear hfind hfs hff hfd
        have hsn' : (Sh.symNames ss).take (k + 1) = (Sh.symNames ss).take k ++ [nm.data.toList] := by rw [Hsn.out, ByteArray.toList_eq]
        have Hsn' := Lib.hid hsn'; clear hsn'
        go_wp2_with (first
          | (go_at_call 43
             refine Hfind.out.mono ?_
             rintro e w9 ⟨rfl, hb9⟩
             have hs9 := (hs.alloc _).below hb9 (by simp; omega)
             have hz9 := (hz.alloc _).below hb9 (by simp; omega)
             have hset9 := (Hset.out.below (Below.alloc (Below.refl wr.heap.size _) (Nat.le_refl _) (.cells #[.string nm, .int .i64 ar] 72)) (by omega)).below hb9 (by simp; omega)
             have hbx9 := (Blk.new wr 72 #[.string nm, .int .i64 ar]).below hb9 (by simp)
             have hxc0 : w9.cell? ⟨wr.heap.size, 0, none⟩ = some (.string nm) := hbx9.cell 0
             have hbel9 := (hbel.alloc hbz _).trans (hb9.mono (by simp; omega))
             have hw9 : wr.heap.size + 1 ≤ w9.heap.size := by have := hb9.size; simp at this; exact this
             have Hset9 := Lib.hid hset9; clear hset9 hb9)
          | (at_mapUpdate; refine wpList_mapUpdate_own _ rfl _ _ _ 80 rfl 9 4 names_keyed Tryz.underlying80 _ M k _ rfl Hset9.out (by unfold maxLen; omega) _ _ _ rfl rfl Hkey.out _ [] (plainElem_bool Tryz.underlying4 true) ?_; intro w2 hown2 hgrow2))
        have hsz2 := hgrow2.size
        refine ⟨⟨k + 1, by omega, by go_num, Hft.out, hs9.grown hgrow2 (by simp; omega), hz9.grown hgrow2 (by simp; omega), ?_, hbel9.grown hgrow2 (by omega) (by intro g hg; injection hg with hg; omega), by omega⟩, by simp [intOf]; omega⟩
        rw [Hsn'.out]; unfold NameSet; rw [nameSet_snoc]; exact hown2
    · have hkm : k = m := by omega
      subst hkm
      have hft := Hall.out
      rw [List.take_of_length_le (by have := Hm.out; omega), Hf.out] at hft
      subst hft
      have hnl : (Sh.symNames ss).length = k := by unfold Sh.symNames; rw [List.length_map]; exact Hm.out.symm
      have htk : (Sh.symNames ss).take k = Sh.symNames ss := List.take_of_length_le (by omega)
      obtain ⟨hz1, hz2⟩ := nameSet_size (Sh.symNames ss) k (by omega)
      have hon : Sh.onceB ss = decide (Sh.symNames ss).Nodup := rfl
      rw [Ho.out] at hon
      rw [htk] at hz2
      have hset := Hset.out
      rw [htk] at hset hz1
      generalize hsz : Go.Maps.size (nameSet (Sh.symNames ss)) = z at *
      have Hset' := Lib.hid hset; clear hset
      cases o
      · have hzk : z < k := by
          have hnn : ¬ (Sh.symNames ss).Nodup := of_decide_eq_false hon.symm
          have : z ≠ k := fun e => hnn (hz2.2 e)
          omega
        have Hsz := Lib.hid hsz; clear hsz hz2 hon htk hnl
        have hzc0 : wr.cell? ⟨w.heap.size + 1, 0, none⟩ = some (.int .i64 0) := hz.cell 0
        have hzc1 : wr.cell? ⟨w.heap.size + 1, 1, none⟩ = some (.slice none 0 0) := hz.cell 1
        have hzf0 := hz.frozen 0
        have hzf1 := hz.frozen 1
        go_wp2_with (at_len; refine wpList_len_own _ rfl _ 80 rfl 9 4 Tryz.underlying80 _ M k _ rfl Hset'.out ?_; rw [Hsz.out])
        refine bodyPost_ret (v := .tuple #[.agg #[.int .i64 0, .slice none 0 0], .int .i64 2]) (by simp [results, Tryz.results15, go_sem, hzc0, hzc1]) rfl ?_
        exact KeepPost.arg ((hbel.setCell (by simp) _).setCell (by simp) _)
      · have hzk : ¬ z < k := by
          have hnn : (Sh.symNames ss).Nodup := of_decide_eq_true hon.symm
          have := hz2.1 hnn
          omega
        have Hsz := Lib.hid hsz; clear hsz hz2 hon htk hnl
        have hss0 : wr.cell? ⟨w.heap.size, 0, none⟩ = some (.int .i64 size) := hs.cell 0
        go_wp2_with (at_len; refine wpList_len_own _ rfl _ 80 rfl 9 4 Tryz.underlying80 _ M k _ rfl Hset'.out ?_; rw [Hsz.out])
        clear hz1 hzk
        have hK0 : w.heap.size + 2 ≤ wr.heap.size := by omega
        have hbel4 := hbel.alloc hbel.size (.cells #[.int .i64 size, .slice none 0 0] 24)
        have hs4 := hs.alloc (.cells #[.int .i64 size, .slice none 0 0] 24)
        have hz4 := hz.alloc (.cells #[.int .i64 size, .slice none 0 0] 24)
        have hc4 := Blk.new wr 24 #[.int .i64 size, .slice none 0 0]
        clear hbel hs hz hss0 Hset Hset' Hsz Hall Hcall Hs Hz Hb2
        generalize (wr.alloc (.cells #[.int .i64 size, .slice none 0 0] 24)) = W4 at *
        generalize wr.heap.size = K0 at *
        go_loopw [43] (fun i wr => ∃ (j : Nat) (tv : Value) (xs us : List Value), j ≤ k ∧ i = .int .i64 j ∧ Blk wr w.heap.size 24 #[.int .i64 size, .slice A len c] ∧ Blk wr (w.heap.size + 1) 24 #[.int .i64 0, .slice none 0 0] ∧
          Blk wr K0 24 #[.int .i64 size, tv] ∧ wr.ownsRow (K0 + 1) 57 3 tv j xs ∧ RCells xs us ((Sh.keepR rs ss).take j) ∧ RElems wr (K0 + 1) us ((Sh.keepR rs ss).take j) ∧ Below w.heap.size w wr) (fun i _ => k - (intOf i).toNat)
        case atStart => exact ⟨0, .slice none 0 0, [], [], Nat.zero_le _, rfl, hs4, hz4, hc4, World.ownsRow_nil _ _ _ _, RCells.nil, (fun j u t h => by simp at h), hbel4⟩
        case round =>
        obtain ⟨j, tv, xs, us, hj, rfl, hs, hz, hc, hown, hrc, hel, hbel⟩ := hrel
        clear hbel4 hs4 hz4 hc4
        have Hown := Lib.hid hown; clear hown
        have Hrc := Lib.hid hrc; clear hrc
        obtain ⟨TA, TC, rfl⟩ := own_slice Hown.out
        by_cases hltj : j < k
        · obtain ⟨ad, s, rfl, hb, hsy, c0, c1⟩ := (g.below (hbel.mono hB)).at_ hltj
          obtain ⟨q, r, hfj, hr, hko, hnme⟩ := Sh.fits_get Hf.out hsy
          have hkr := keepR_at (rs := rs) hsy
          rw [hko] at hkr
          have hql : q < len := by rw [Hlen.out]; exact (List.getElem?_eq_some_iff.1 hr).1
          obtain ⟨ad2, u2, r2, rfl, hb2, hr2, d0, d1, d2, htu, hrnz⟩ := (h.below (hbel.mono hB)).at_ hql
          obtain rfl : r2 = r := Option.some.inj (hr2.symm.trans hr)
          have htu' := htu
          obtain ⟨UA, UN, UC, rfl, -⟩ := htu'
          have hsm := Sh.relB_small (Sh.validB_rel Hvb.out hr)
          obtain ⟨nm, ar⟩ := s
          simp only at c0 c1 hfj
          have hbz := hbel.size
          have hsx := hs.alloc (.cells #[.string nm, .int .i64 ar] 72)
          have hzx := hz.alloc (.cells #[.string nm, .int .i64 ar] 72)
          have hcx := hc.alloc (.cells #[.string nm, .int .i64 ar] 72)
          have hxx := Blk.new wr 72 #[.string nm, .int .i64 ar]
          have hownx := Hown.out.alloc (.cells #[.string nm, .int .i64 ar] 72)
          have hownlt : ∀ b, (Value.slice TA j TC).ownBlock = some b → K0 + 1 ≤ b ∧ b < wr.heap.size := fun b e => Hown.out.lt b e
          have helx := hel.keep (Keeps.alloc (K0 + 1) [3, 25] wr (.cells #[.string nm, .int .i64 ar] 72))
          have hbelx := hbel.alloc hbz (.cells #[.string nm, .int .i64 ar] 72)
          have hwxs : (wr.alloc (.cells #[.string nm, .int .i64 ar] 72)).heap.size = wr.heap.size + 1 := by simp
          have hbx : Below wr.heap.size wr (wr.alloc (.cells #[.string nm, .int .i64 ar] 72)) := (Below.refl _ _).alloc (Nat.le_refl _) _
          have d0x := (hbx.cell (p := ad2.add (q * 3)) (by rw [block_of_add]; omega)).trans d0
          have d1x := (hbx.cell (p := ⟨(ad2.add (q * 3)).block, (ad2.add (q * 3)).off + 1, none⟩) (by show (ad2.add _).block < _; rw [block_of_add]; omega)).trans d1
          have d2x := (hbx.cell (p := ⟨(ad2.add (q * 3)).block, (ad2.add (q * 3)).off + 2, none⟩) (by show (ad2.add _).block < _; rw [block_of_add]; omega)).trans d2
          have htx : Tups (wr.alloc (.cells #[.string nm, .int .i64 ar] 72)) B (.slice UA UN UC) r2.tuples := htu.below (hbx.mono (by omega))
          have hKq := hc.lt
          have hadb : (ad2.add (q * 3)).block < B := by rw [block_of_add]; exact hb2
          clear hbx d0 d1 d2 htu hs hz hc
          go_wp2
          generalize (wr.alloc (.cells #[.string nm, .int .i64 ar] 72)) = wx at *
          generalize hX0 : wr.heap.size = X0 at *
          clear hX0
          have hwx := hbelx.size
          have hKx : K0 < wx.heap.size := by omega
          have hall : ∀ W, Near wx (fun b => b = K0 ∨ (Value.slice TA j TC).ownBlock = some b) W → (W.cell? ⟨w.heap.size, 0, none⟩ = some (.int .i64 size) ∧ W.cell? ⟨w.heap.size, 1, none⟩ = some (.slice (some ad2) len c) ∧ W.cell? ⟨X0, 0, none⟩ = some (.string nm) ∧ W.cell? ⟨X0, 1, none⟩ = some (.int .i64 ar) ∧ W.cell? (ad2.add (q * 3)) = some (.string r2.name) ∧ W.cell? ⟨(ad2.add (q * 3)).block, (ad2.add (q * 3)).off + 1, none⟩ = some (.int .i64 r2.arity) ∧ W.cell? ⟨(ad2.add (q * 3)).block, (ad2.add (q * 3)).off + 2, none⟩ = some (.slice UA UN UC)) := fun W hW =>
            ⟨(hW ⟨w.heap.size, 0, none⟩ hsx.lt (by rintro (e | e); exact absurd e (show w.heap.size ≠ K0 by omega); exact absurd (hownlt _ e).1 (show ¬ K0 + 1 ≤ w.heap.size by omega))).trans (hsx.cell 0),
             (hW ⟨w.heap.size, 1, none⟩ hsx.lt (by rintro (e | e); exact absurd e (show w.heap.size ≠ K0 by omega); exact absurd (hownlt _ e).1 (show ¬ K0 + 1 ≤ w.heap.size by omega))).trans (hsx.cell 1),
             (hW ⟨X0, 0, none⟩ hxx.lt (by rintro (e | e); exact absurd e (show X0 ≠ K0 by omega); exact absurd (hownlt _ e).2 (show ¬ X0 < X0 by omega))).trans (hxx.cell 0),
             (hW ⟨X0, 1, none⟩ hxx.lt (by rintro (e | e); exact absurd e (show X0 ≠ K0 by omega); exact absurd (hownlt _ e).2 (show ¬ X0 < X0 by omega))).trans (hxx.cell 1),
             (hW (ad2.add (q * 3)) (by omega) (by rintro (e | e); omega; have := (hownlt _ e).1; omega)).trans d0x,
             (hW ⟨(ad2.add (q * 3)).block, (ad2.add (q * 3)).off + 1, none⟩ (show (ad2.add (q * 3)).block < _ by omega) (by rintro (e | e); exact absurd e (show (ad2.add (q * 3)).block ≠ K0 by omega); have h9 := (hownlt _ e).1; exact absurd h9 (show ¬ K0 + 1 ≤ (ad2.add (q * 3)).block by omega))).trans d1x,
             (hW ⟨(ad2.add (q * 3)).block, (ad2.add (q * 3)).off + 2, none⟩ (show (ad2.add (q * 3)).block < _ by omega) (by rintro (e | e); exact absurd e (show (ad2.add (q * 3)).block ≠ K0 by omega); have h9 := (hownlt _ e).1; exact absurd h9 (show ¬ K0 + 1 ≤ (ad2.add (q * 3)).block by omega))).trans d2x⟩
          have hfind : ∀ W, Below wx.heap.size wx W → Calls Tryz.prog 43 #[.agg #[.int .i64 size, .slice (some ad2) len c], .agg #[.string nm, .int .i64 ar]] W fun e w' => e = .returned (.int .i64 q) ∧ Below W.heap.size W w' := fun W hW => by
            have hh := find_any size (.slice (some ad2) len c) rs nm ar W B (Nat.le_trans (by omega) hW.size) (h.below ((hbelx.trans (hW.mono hwx)).mono hB))
            rw [hfj] at hh
            exact hh
          have hcopy : ∀ W, Below wx.heap.size wx W → Calls Tryz.prog 44 #[.agg #[.string r2.name, .int .i64 r2.arity, .slice UA UN UC]] W fun e w' => ∃ u, e = .returned (.agg #[.string r2.name, .int .i64 r2.arity, u]) ∧ NTups w' W.heap.size u r2.tuples ∧ Below W.heap.size W w' := fun W hW =>
            copyrel_any r2 _ W B (Nat.le_trans (by omega) hW.size) (htx.below (hW.mono (by omega))) (by have := hsm.1; omega) (fun t ht => by have := hsm.2 t ht; omega)
          have hccx : wx.drew.cell? ⟨K0, 1, none⟩ = some (.slice TA j TC) := hcx.cell 1
          have Hall := Lib.hid hall; clear hall
          have Hfind := Lib.hid hfind; clear hfind hfj hnme hko hr hr2 hsy
          have Hcopy := Lib.hid hcopy; clear hcopy hsm htx
          have Hkr := Lib.hid hkr; clear hkr
          have Hsx := Lib.hid hsx; clear hsx
          have Hzx := Lib.hid hzx; clear hzx
          have Hc := Lib.hid hcx; clear hcx
          have Hxx := Lib.hid hxx; clear hxx
          have Hownx := Lib.hid hownx; clear hownx
          have Hownlt := Lib.hid hownlt; clear hownlt
          have Helx := Lib.hid helx; clear helx hel
          clear c0 c1 d0x d1x d2x
          refine wp_region_held_drew (S := fun W => W.cell? ⟨w.heap.size, 0, none⟩ = some (.int .i64 size) ∧ W.cell? ⟨w.heap.size, 1, none⟩ = some (.slice (some ad2) len c) ∧ W.cell? ⟨X0, 0, none⟩ = some (.string nm) ∧ W.cell? ⟨X0, 1, none⟩ = some (.int .i64 ar) ∧ W.cell? (ad2.add (q * 3)) = some (.string r2.name) ∧ W.cell? ⟨(ad2.add (q * 3)).block, (ad2.add (q * 3)).off + 1, none⟩ = some (.int .i64 r2.arity) ∧ W.cell? ⟨(ad2.add (q * 3)).block, (ad2.add (q * 3)).off + 2, none⟩ = some (.slice UA UN UC)) (by kernel_rfl) (Hall.out _ (Near.of_below (below_drewN (Below.refl _ _) 1))) (fun hHeld => ?_)
          refine wpAnyH_take (i := 0) (v := .pointer (some ⟨K0, 1, none⟩)) rfl (by kernel_rfl) (by kernel_rfl) (by kernel_rfl) (fun _ _ _ h => h) (Or.inl ⟨by rfl, ?_⟩) (by assumption) ?_
          · (intro w' hSw; (try dsimp only at hSw); go_simp)
          try simp only [Act.put, List.setIfInBounds_toArray, List.set_cons_zero, List.set_cons_succ]
          refine wpAnyH_take (i := 2) (v := .pointer (some ⟨w.heap.size, 1, none⟩)) rfl (by kernel_rfl) (by kernel_rfl) (by kernel_rfl) (fun _ _ _ h => h) (Or.inl ⟨by rfl, ?_⟩) (by assumption) ?_
          · (intro w' hSw; (try dsimp only at hSw); go_simp)
          try simp only [Act.put, List.setIfInBounds_toArray, List.set_cons_zero, List.set_cons_succ]
          refine wpAnyH_take (i := 3) (v := .slice (some ad2) len c) rfl (by kernel_rfl) (by kernel_rfl) (by kernel_rfl) (fun _ _ _ h => h) (Or.inl ⟨by rfl, ?_⟩) (by assumption) ?_
          · (intro w' hSw; (try dsimp only at hSw); go_simp)
          try simp only [Act.put, List.setIfInBounds_toArray, List.set_cons_zero, List.set_cons_succ]
          refine wpAnyH_take (i := 4) (v := .agg #[.int .i64 size, .slice (some ad2) len c]) rfl (by kernel_rfl) (by kernel_rfl) (by kernel_rfl) (fun _ _ _ h => h) (Or.inl ⟨by rfl, ?_⟩) (by assumption) ?_
          · (intro w' hSw; (try dsimp only at hSw); go_simp)
          try simp only [Act.put, List.setIfInBounds_toArray, List.set_cons_zero, List.set_cons_succ]
          refine wpAnyH_take (i := 5) (v := .agg #[.string nm, .int .i64 ar]) rfl (by kernel_rfl) (by kernel_rfl) (by kernel_rfl) (fun _ _ _ h => h) (Or.inl ⟨by rfl, ?_⟩) (by assumption) ?_
          · (intro w' hSw; (try dsimp only at hSw); go_simp)
          try simp only [Act.put, List.setIfInBounds_toArray, List.set_cons_zero, List.set_cons_succ]
          refine wpAnyH_ready (rs := [1, 6]) (by kernel_rfl) (by simp) ?_
          refine AllReadyH.cons rfl (fun K hK => ?_) (AllReadyH.cons rfl (fun K hK => ?_) AllReadyH.nil)
          · skip
            go_simp
            refine hK.out _ _ ?_ (fun hHeld => ?_)
            · exact Hall.out _ (Near.of_below (below_drewN (Below.refl _ _) 1))
            clear hK K
            try simp only [Act.put, List.setIfInBounds_toArray, List.set_cons_zero, List.set_cons_succ]
            refine wpAnyH_ready (rs := [6]) (by kernel_rfl) (by simp) ?_
            refine AllReadyH.cons rfl (fun K hK => ?_) AllReadyH.nil
            go_simp
            refine (Hfind.out _ (below_drewN (Below.refl _ _) 1)).mono ?_
            rintro e w6 ⟨rfl, hb6⟩
            have hbx6 : Below wx.heap.size wx w6 := (below_drewN (Below.refl wx.heap.size wx) 1).trans hb6
            have hc6 : Blk w6 K0 24 #[.int .i64 size, .slice TA j TC] := Hc.out.below hbx6 hKx
            have hcc6 : w6.cell? ⟨K0, 1, none⟩ = some (.slice TA j TC) := hc6.cell 1
            refine hK.out _ _ ?_ (fun hHeld => ?_)
            · exact Hall.out _ (Near.of_below hbx6)
            clear hK K
            try simp only [Act.put, List.setIfInBounds_toArray, List.set_cons_zero, List.set_cons_succ]
            refine wpAnyH_take (i := 7) (v := .pointer (some (ad2.add (q * 3)))) rfl (by kernel_rfl) (by kernel_rfl) (by kernel_rfl) (fun _ _ _ h => h) (Or.inl ⟨by rfl, ?_⟩) (by assumption) ?_
            · (intro w' hSw; (try dsimp only at hSw); go_simp)
            try simp only [Act.put, List.setIfInBounds_toArray, List.set_cons_zero, List.set_cons_succ]
            refine wpAnyH_take (i := 8) (v := .agg #[.string r2.name, .int .i64 r2.arity, .slice UA UN UC]) rfl (by kernel_rfl) (by kernel_rfl) (by kernel_rfl) (fun _ _ _ h => h) (Or.inl ⟨by rfl, ?_⟩) (by assumption) ?_
            · (intro w' hSw; (try dsimp only at hSw); go_simp)
            try simp only [Act.put, List.setIfInBounds_toArray, List.set_cons_zero, List.set_cons_succ]
            refine wpAnyH_ready (rs := [9]) (by kernel_rfl) (by simp) ?_
            refine AllReadyH.cons rfl (fun K hK => ?_) AllReadyH.nil
            go_simp
            refine (Hcopy.out _ hbx6).mono ?_
            rintro e w7 ⟨x, rfl, hnt, hb7⟩
            have hnt' := hnt
            obtain ⟨XA, XN, XC, rfl, -⟩ := hnt'
            have hbx7 : Below wx.heap.size wx w7 := hbx6.trans (hb7.mono hbx6.size)
            have hc7 : Blk w7 K0 24 #[.int .i64 size, .slice TA j TC] := Hc.out.below hbx7 hKx
            have hcc7 : w7.cell? ⟨K0, 1, none⟩ = some (.slice TA j TC) := hc7.cell 1
            have hcc7' : (w7.alloc (.cells #[.string r2.name, .int .i64 r2.arity, .slice XA XN XC] 57)).cell? ⟨K0, 1, none⟩ = some (.slice TA j TC) := (Blk.alloc hc7 _).cell 1
            have hown7 : (w7.alloc (.cells #[.string r2.name, .int .i64 r2.arity, .slice XA XN XC] 57)).ownsRow (K0 + 1) 57 3 (.slice TA j TC) j xs := World.ownsRow.alloc (own_below Hownx.out hbx7) _
            refine hK.out _ _ ?_ (fun hHeld => ?_)
            · exact Hall.out _ (Near.of_below hbx7)
            clear hK K
            try simp only [Act.put, List.setIfInBounds_toArray, List.set_cons_zero, List.set_cons_succ]
            refine wpAnyH_ready (rs := [10]) (by kernel_rfl) (by simp) ?_
            refine AllReadyH.cons rfl (fun K hK => ?_) AllReadyH.nil
            go_simp
            refine hK.out _ _ ?_ (fun hHeld => ?_)
            · exact Hall.out _ (Near.of_below (bel_alloc hbx7 _))
            clear hK K
            try simp only [Act.put, List.setIfInBounds_toArray, List.set_cons_zero, List.set_cons_succ]
            refine wpAnyH_ready (rs := [11]) (by kernel_rfl) (by simp) ?_
            refine AllReadyH.cons rfl (fun K hK => ?_) AllReadyH.nil
            refine step_append_rel _ rfl _ _ rfl (K0 + 1) _ j xs rfl hown7 w7.heap.size 1 _ _ _ rfl (Blk.new w7 57 #[.string r2.name, .int .i64 r2.arity, .slice XA XN XC]) rfl rfl rfl (by omega) (by have := hbx7.size; simp; omega) ?_
            intro v8 w8 hown8 hg8
            obtain ⟨VA, VC, rfl⟩ := own_slice hown8
            have hc8 : Blk w8 K0 24 #[.int .i64 size, .slice TA j TC] := Blk.grown (Blk.alloc hc7 _) hg8 (fun e => by have := (hown7.lt _ e.symm).1; omega)
            have hn8 : Near wx (fun b => b = K0 ∨ (Value.slice TA j TC).ownBlock = some b) w8 := Near.grown (Near.of_below (bel_alloc hbx7 _)) hg8 (fun g e => .inr e) (bel_alloc hbx7 _).size
            have hcc8 : w8.cell? ⟨K0, 1, none⟩ = some (.slice TA j TC) := hc8.cell 1
            have hcf8 := hc8.frozen 1
            refine hK.out _ _ ?_ (fun hHeld => ?_)
            · exact Hall.out _ (hn8)
            clear hK K
            try simp only [Act.put, List.setIfInBounds_toArray, List.set_cons_zero, List.set_cons_succ]
            refine wpAnyH_ready (rs := [12]) (by kernel_rfl) (by simp) ?_
            refine AllReadyH.cons rfl (fun K hK => ?_) AllReadyH.nil
            go_simp
            refine hK.out _ _ ?_ (fun hHeld => ?_)
            · exact Hall.out _ (hn8)
            clear hK K
            try simp only [Act.put, List.setIfInBounds_toArray, List.set_cons_zero, List.set_cons_succ]
            refine wpAnyH_ready (rs := [13]) (by kernel_rfl) (by simp) ?_
            refine AllReadyH.cons rfl (fun K hK => ?_) AllReadyH.nil
            go_simp
            refine hK.out _ _ ?_ (fun hHeld => ?_)
            · exact Hall.out _ (hn8.set (.inl rfl) _ _)
            clear hK K
            try simp only [Act.put, List.setIfInBounds_toArray, List.set_cons_zero, List.set_cons_succ]
            refine wpAnyH_done (by kernel_rfl) ?_ _
            go_wp2
            have hs7 : wx.heap.size ≤ w7.heap.size := hbx7.size
            have hg8' : (w7.alloc (.cells #[.string r2.name, .int .i64 r2.arity, .slice XA XN XC] 57)).grownBy w8 (Value.slice TA j TC).ownBlock := hg8
            have hbase : ∀ g, (Value.slice TA j TC).ownBlock = some g → K0 + 1 ≤ g := fun g e => (hown7.lt g e).1
            have hk7 : Keeps (K0 + 1) [3, 25] w7 (w8.setCell ⟨K0, 1, none⟩ (.slice VA (j + 1) VC)) :=
              (Keeps.alloc _ _ _ _).trans ((Keeps.own hg8' hown7 (by decide)).trans (Keeps.setCell (p := ⟨K0, 1, none⟩) hc8 (by decide) _))
            refine ⟨⟨j + 1, .slice VA (j + 1) VC, xs ++ [.string r2.name, .int .i64 r2.arity, .slice XA XN XC], us ++ [.slice XA XN XC], by omega, by go_num, ?_, ?_, hc8.set_ 1 _, own_set hown8 (Nat.lt_succ_self K0) _, by rw [take_snoc Hkr.out]; exact Hrc.out.snoc r2 _, ?_, ?_⟩, by simp [intOf]; omega⟩
            · exact Blk.far (Blk.grown (Blk.alloc (Hsx.out.below hbx7 Hsx.out.lt) _) hg8' (fun e => by have := hbase _ e.symm; omega)) (show w.heap.size ≠ K0 by omega) _
            · exact Blk.far (Blk.grown (Blk.alloc (Hzx.out.below hbx7 Hzx.out.lt) _) hg8' (fun e => by have := hbase _ e.symm; omega)) (show w.heap.size + 1 ≠ K0 by omega) _
            · rw [take_snoc Hkr.out]
              exact RElems.snoc ((Helx.out.keep (Keeps.of_below hbx7)).keep hk7) Hrc.out.2.1 ((hnt.more (by have := hbx6.size; omega)).keep hk7) hrnz
            · exact (((hbelx.trans (hbx7.mono hwx)).alloc (by omega) _).grown hg8' (by simp; omega) (fun g e => by have := hbase g e; omega)).setCell (show w.heap.size ≤ K0 by omega) _
          · skip
            go_simp
            refine (Hfind.out _ (below_drewN (Below.refl _ _) 1)).mono ?_
            rintro e w6 ⟨rfl, hb6⟩
            have hbx6 : Below wx.heap.size wx w6 := (below_drewN (Below.refl wx.heap.size wx) 1).trans hb6
            have hc6 : Blk w6 K0 24 #[.int .i64 size, .slice TA j TC] := Hc.out.below hbx6 hKx
            have hcc6 : w6.cell? ⟨K0, 1, none⟩ = some (.slice TA j TC) := hc6.cell 1
            refine hK.out _ _ ?_ (fun hHeld => ?_)
            · exact Hall.out _ (Near.of_below hbx6)
            clear hK K
            try simp only [Act.put, List.setIfInBounds_toArray, List.set_cons_zero, List.set_cons_succ]
            refine wpAnyH_take (i := 7) (v := .pointer (some (ad2.add (q * 3)))) rfl (by kernel_rfl) (by kernel_rfl) (by kernel_rfl) (fun _ _ _ h => h) (Or.inl ⟨by rfl, ?_⟩) (by assumption) ?_
            · (intro w' hSw; (try dsimp only at hSw); go_simp)
            try simp only [Act.put, List.setIfInBounds_toArray, List.set_cons_zero, List.set_cons_succ]
            refine wpAnyH_take (i := 8) (v := .agg #[.string r2.name, .int .i64 r2.arity, .slice UA UN UC]) rfl (by kernel_rfl) (by kernel_rfl) (by kernel_rfl) (fun _ _ _ h => h) (Or.inl ⟨by rfl, ?_⟩) (by assumption) ?_
            · (intro w' hSw; (try dsimp only at hSw); go_simp)
            try simp only [Act.put, List.setIfInBounds_toArray, List.set_cons_zero, List.set_cons_succ]
            refine wpAnyH_ready (rs := [1, 9]) (by kernel_rfl) (by simp) ?_
            refine AllReadyH.cons rfl (fun K hK => ?_) (AllReadyH.cons rfl (fun K hK => ?_) AllReadyH.nil)
            · skip
              go_simp
              refine hK.out _ _ ?_ (fun hHeld => ?_)
              · exact Hall.out _ (Near.of_below hbx6)
              clear hK K
              try simp only [Act.put, List.setIfInBounds_toArray, List.set_cons_zero, List.set_cons_succ]
              refine wpAnyH_ready (rs := [9]) (by kernel_rfl) (by simp) ?_
              refine AllReadyH.cons rfl (fun K hK => ?_) AllReadyH.nil
              go_simp
              refine (Hcopy.out _ hbx6).mono ?_
              rintro e w7 ⟨x, rfl, hnt, hb7⟩
              have hnt' := hnt
              obtain ⟨XA, XN, XC, rfl, -⟩ := hnt'
              have hbx7 : Below wx.heap.size wx w7 := hbx6.trans (hb7.mono hbx6.size)
              have hc7 : Blk w7 K0 24 #[.int .i64 size, .slice TA j TC] := Hc.out.below hbx7 hKx
              have hcc7 : w7.cell? ⟨K0, 1, none⟩ = some (.slice TA j TC) := hc7.cell 1
              have hcc7' : (w7.alloc (.cells #[.string r2.name, .int .i64 r2.arity, .slice XA XN XC] 57)).cell? ⟨K0, 1, none⟩ = some (.slice TA j TC) := (Blk.alloc hc7 _).cell 1
              have hown7 : (w7.alloc (.cells #[.string r2.name, .int .i64 r2.arity, .slice XA XN XC] 57)).ownsRow (K0 + 1) 57 3 (.slice TA j TC) j xs := World.ownsRow.alloc (own_below Hownx.out hbx7) _
              refine hK.out _ _ ?_ (fun hHeld => ?_)
              · exact Hall.out _ (Near.of_below hbx7)
              clear hK K
              try simp only [Act.put, List.setIfInBounds_toArray, List.set_cons_zero, List.set_cons_succ]
              refine wpAnyH_ready (rs := [10]) (by kernel_rfl) (by simp) ?_
              refine AllReadyH.cons rfl (fun K hK => ?_) AllReadyH.nil
              go_simp
              refine hK.out _ _ ?_ (fun hHeld => ?_)
              · exact Hall.out _ (Near.of_below (bel_alloc hbx7 _))
              clear hK K
              try simp only [Act.put, List.setIfInBounds_toArray, List.set_cons_zero, List.set_cons_succ]
              refine wpAnyH_ready (rs := [11]) (by kernel_rfl) (by simp) ?_
              refine AllReadyH.cons rfl (fun K hK => ?_) AllReadyH.nil
              refine step_append_rel _ rfl _ _ rfl (K0 + 1) _ j xs rfl hown7 w7.heap.size 1 _ _ _ rfl (Blk.new w7 57 #[.string r2.name, .int .i64 r2.arity, .slice XA XN XC]) rfl rfl rfl (by omega) (by have := hbx7.size; simp; omega) ?_
              intro v8 w8 hown8 hg8
              obtain ⟨VA, VC, rfl⟩ := own_slice hown8
              have hc8 : Blk w8 K0 24 #[.int .i64 size, .slice TA j TC] := Blk.grown (Blk.alloc hc7 _) hg8 (fun e => by have := (hown7.lt _ e.symm).1; omega)
              have hn8 : Near wx (fun b => b = K0 ∨ (Value.slice TA j TC).ownBlock = some b) w8 := Near.grown (Near.of_below (bel_alloc hbx7 _)) hg8 (fun g e => .inr e) (bel_alloc hbx7 _).size
              have hcc8 : w8.cell? ⟨K0, 1, none⟩ = some (.slice TA j TC) := hc8.cell 1
              have hcf8 := hc8.frozen 1
              refine hK.out _ _ ?_ (fun hHeld => ?_)
              · exact Hall.out _ (hn8)
              clear hK K
              try simp only [Act.put, List.setIfInBounds_toArray, List.set_cons_zero, List.set_cons_succ]
              refine wpAnyH_ready (rs := [12]) (by kernel_rfl) (by simp) ?_
              refine AllReadyH.cons rfl (fun K hK => ?_) AllReadyH.nil
              go_simp
              refine hK.out _ _ ?_ (fun hHeld => ?_)
              · exact Hall.out _ (hn8)
              clear hK K
              try simp only [Act.put, List.setIfInBounds_toArray, List.set_cons_zero, List.set_cons_succ]
              refine wpAnyH_ready (rs := [13]) (by kernel_rfl) (by simp) ?_
              refine AllReadyH.cons rfl (fun K hK => ?_) AllReadyH.nil
              go_simp
              refine hK.out _ _ ?_ (fun hHeld => ?_)
              · exact Hall.out _ (hn8.set (.inl rfl) _ _)
              clear hK K
              try simp only [Act.put, List.setIfInBounds_toArray, List.set_cons_zero, List.set_cons_succ]
              refine wpAnyH_done (by kernel_rfl) ?_ _
              go_wp2
              have hs7 : wx.heap.size ≤ w7.heap.size := hbx7.size
              have hg8' : (w7.alloc (.cells #[.string r2.name, .int .i64 r2.arity, .slice XA XN XC] 57)).grownBy w8 (Value.slice TA j TC).ownBlock := hg8
              have hbase : ∀ g, (Value.slice TA j TC).ownBlock = some g → K0 + 1 ≤ g := fun g e => (hown7.lt g e).1
              have hk7 : Keeps (K0 + 1) [3, 25] w7 (w8.setCell ⟨K0, 1, none⟩ (.slice VA (j + 1) VC)) :=
                (Keeps.alloc _ _ _ _).trans ((Keeps.own hg8' hown7 (by decide)).trans (Keeps.setCell (p := ⟨K0, 1, none⟩) hc8 (by decide) _))
              refine ⟨⟨j + 1, .slice VA (j + 1) VC, xs ++ [.string r2.name, .int .i64 r2.arity, .slice XA XN XC], us ++ [.slice XA XN XC], by omega, by go_num, ?_, ?_, hc8.set_ 1 _, own_set hown8 (Nat.lt_succ_self K0) _, by rw [take_snoc Hkr.out]; exact Hrc.out.snoc r2 _, ?_, ?_⟩, by simp [intOf]; omega⟩
              · exact Blk.far (Blk.grown (Blk.alloc (Hsx.out.below hbx7 Hsx.out.lt) _) hg8' (fun e => by have := hbase _ e.symm; omega)) (show w.heap.size ≠ K0 by omega) _
              · exact Blk.far (Blk.grown (Blk.alloc (Hzx.out.below hbx7 Hzx.out.lt) _) hg8' (fun e => by have := hbase _ e.symm; omega)) (show w.heap.size + 1 ≠ K0 by omega) _
              · rw [take_snoc Hkr.out]
                exact RElems.snoc ((Helx.out.keep (Keeps.of_below hbx7)).keep hk7) Hrc.out.2.1 ((hnt.more (by have := hbx6.size; omega)).keep hk7) hrnz
              · exact (((hbelx.trans (hbx7.mono hwx)).alloc (by omega) _).grown hg8' (by simp; omega) (fun g e => by have := hbase g e; omega)).setCell (show w.heap.size ≤ K0 by omega) _
            · skip
              go_simp
              refine (Hcopy.out _ hbx6).mono ?_
              rintro e w7 ⟨x, rfl, hnt, hb7⟩
              have hnt' := hnt
              obtain ⟨XA, XN, XC, rfl, -⟩ := hnt'
              have hbx7 : Below wx.heap.size wx w7 := hbx6.trans (hb7.mono hbx6.size)
              have hc7 : Blk w7 K0 24 #[.int .i64 size, .slice TA j TC] := Hc.out.below hbx7 hKx
              have hcc7 : w7.cell? ⟨K0, 1, none⟩ = some (.slice TA j TC) := hc7.cell 1
              have hcc7' : (w7.alloc (.cells #[.string r2.name, .int .i64 r2.arity, .slice XA XN XC] 57)).cell? ⟨K0, 1, none⟩ = some (.slice TA j TC) := (Blk.alloc hc7 _).cell 1
              have hown7 : (w7.alloc (.cells #[.string r2.name, .int .i64 r2.arity, .slice XA XN XC] 57)).ownsRow (K0 + 1) 57 3 (.slice TA j TC) j xs := World.ownsRow.alloc (own_below Hownx.out hbx7) _
              refine hK.out _ _ ?_ (fun hHeld => ?_)
              · exact Hall.out _ (Near.of_below hbx7)
              clear hK K
              try simp only [Act.put, List.setIfInBounds_toArray, List.set_cons_zero, List.set_cons_succ]
              refine wpAnyH_ready (rs := [1, 10]) (by kernel_rfl) (by simp) ?_
              refine AllReadyH.cons rfl (fun K hK => ?_) (AllReadyH.cons rfl (fun K hK => ?_) AllReadyH.nil)
              · skip
                go_simp
                refine hK.out _ _ ?_ (fun hHeld => ?_)
                · exact Hall.out _ (Near.of_below hbx7)
                clear hK K
                try simp only [Act.put, List.setIfInBounds_toArray, List.set_cons_zero, List.set_cons_succ]
                refine wpAnyH_ready (rs := [10]) (by kernel_rfl) (by simp) ?_
                refine AllReadyH.cons rfl (fun K hK => ?_) AllReadyH.nil
                go_simp
                refine hK.out _ _ ?_ (fun hHeld => ?_)
                · exact Hall.out _ (Near.of_below (bel_alloc hbx7 _))
                clear hK K
                try simp only [Act.put, List.setIfInBounds_toArray, List.set_cons_zero, List.set_cons_succ]
                refine wpAnyH_ready (rs := [11]) (by kernel_rfl) (by simp) ?_
                refine AllReadyH.cons rfl (fun K hK => ?_) AllReadyH.nil
                refine step_append_rel _ rfl _ _ rfl (K0 + 1) _ j xs rfl hown7 w7.heap.size 1 _ _ _ rfl (Blk.new w7 57 #[.string r2.name, .int .i64 r2.arity, .slice XA XN XC]) rfl rfl rfl (by omega) (by have := hbx7.size; simp; omega) ?_
                intro v8 w8 hown8 hg8
                obtain ⟨VA, VC, rfl⟩ := own_slice hown8
                have hc8 : Blk w8 K0 24 #[.int .i64 size, .slice TA j TC] := Blk.grown (Blk.alloc hc7 _) hg8 (fun e => by have := (hown7.lt _ e.symm).1; omega)
                have hn8 : Near wx (fun b => b = K0 ∨ (Value.slice TA j TC).ownBlock = some b) w8 := Near.grown (Near.of_below (bel_alloc hbx7 _)) hg8 (fun g e => .inr e) (bel_alloc hbx7 _).size
                have hcc8 : w8.cell? ⟨K0, 1, none⟩ = some (.slice TA j TC) := hc8.cell 1
                have hcf8 := hc8.frozen 1
                refine hK.out _ _ ?_ (fun hHeld => ?_)
                · exact Hall.out _ (hn8)
                clear hK K
                try simp only [Act.put, List.setIfInBounds_toArray, List.set_cons_zero, List.set_cons_succ]
                refine wpAnyH_ready (rs := [12]) (by kernel_rfl) (by simp) ?_
                refine AllReadyH.cons rfl (fun K hK => ?_) AllReadyH.nil
                go_simp
                refine hK.out _ _ ?_ (fun hHeld => ?_)
                · exact Hall.out _ (hn8)
                clear hK K
                try simp only [Act.put, List.setIfInBounds_toArray, List.set_cons_zero, List.set_cons_succ]
                refine wpAnyH_ready (rs := [13]) (by kernel_rfl) (by simp) ?_
                refine AllReadyH.cons rfl (fun K hK => ?_) AllReadyH.nil
                go_simp
                refine hK.out _ _ ?_ (fun hHeld => ?_)
                · exact Hall.out _ (hn8.set (.inl rfl) _ _)
                clear hK K
                try simp only [Act.put, List.setIfInBounds_toArray, List.set_cons_zero, List.set_cons_succ]
                refine wpAnyH_done (by kernel_rfl) ?_ _
                go_wp2
                have hs7 : wx.heap.size ≤ w7.heap.size := hbx7.size
                have hg8' : (w7.alloc (.cells #[.string r2.name, .int .i64 r2.arity, .slice XA XN XC] 57)).grownBy w8 (Value.slice TA j TC).ownBlock := hg8
                have hbase : ∀ g, (Value.slice TA j TC).ownBlock = some g → K0 + 1 ≤ g := fun g e => (hown7.lt g e).1
                have hk7 : Keeps (K0 + 1) [3, 25] w7 (w8.setCell ⟨K0, 1, none⟩ (.slice VA (j + 1) VC)) :=
                  (Keeps.alloc _ _ _ _).trans ((Keeps.own hg8' hown7 (by decide)).trans (Keeps.setCell (p := ⟨K0, 1, none⟩) hc8 (by decide) _))
                refine ⟨⟨j + 1, .slice VA (j + 1) VC, xs ++ [.string r2.name, .int .i64 r2.arity, .slice XA XN XC], us ++ [.slice XA XN XC], by omega, by go_num, ?_, ?_, hc8.set_ 1 _, own_set hown8 (Nat.lt_succ_self K0) _, by rw [take_snoc Hkr.out]; exact Hrc.out.snoc r2 _, ?_, ?_⟩, by simp [intOf]; omega⟩
                · exact Blk.far (Blk.grown (Blk.alloc (Hsx.out.below hbx7 Hsx.out.lt) _) hg8' (fun e => by have := hbase _ e.symm; omega)) (show w.heap.size ≠ K0 by omega) _
                · exact Blk.far (Blk.grown (Blk.alloc (Hzx.out.below hbx7 Hzx.out.lt) _) hg8' (fun e => by have := hbase _ e.symm; omega)) (show w.heap.size + 1 ≠ K0 by omega) _
                · rw [take_snoc Hkr.out]
                  exact RElems.snoc ((Helx.out.keep (Keeps.of_below hbx7)).keep hk7) Hrc.out.2.1 ((hnt.more (by have := hbx6.size; omega)).keep hk7) hrnz
                · exact (((hbelx.trans (hbx7.mono hwx)).alloc (by omega) _).grown hg8' (by simp; omega) (fun g e => by have := hbase g e; omega)).setCell (show w.heap.size ≤ K0 by omega) _
              · skip
                go_simp
                refine hK.out _ _ ?_ (fun hHeld => ?_)
                · exact Hall.out _ (Near.of_below (bel_alloc hbx7 _))
                clear hK K
                try simp only [Act.put, List.setIfInBounds_toArray, List.set_cons_zero, List.set_cons_succ]
                refine wpAnyH_ready (rs := [1]) (by kernel_rfl) (by simp) ?_
                refine AllReadyH.cons rfl (fun K hK => ?_) AllReadyH.nil
                go_simp
                refine hK.out _ _ ?_ (fun hHeld => ?_)
                · exact Hall.out _ (Near.of_below (bel_alloc hbx7 _))
                clear hK K
                try simp only [Act.put, List.setIfInBounds_toArray, List.set_cons_zero, List.set_cons_succ]
                refine wpAnyH_ready (rs := [11]) (by kernel_rfl) (by simp) ?_
                refine AllReadyH.cons rfl (fun K hK => ?_) AllReadyH.nil
                refine step_append_rel _ rfl _ _ rfl (K0 + 1) _ j xs rfl hown7 w7.heap.size 1 _ _ _ rfl (Blk.new w7 57 #[.string r2.name, .int .i64 r2.arity, .slice XA XN XC]) rfl rfl rfl (by omega) (by have := hbx7.size; simp; omega) ?_
                intro v8 w8 hown8 hg8
                obtain ⟨VA, VC, rfl⟩ := own_slice hown8
                have hc8 : Blk w8 K0 24 #[.int .i64 size, .slice TA j TC] := Blk.grown (Blk.alloc hc7 _) hg8 (fun e => by have := (hown7.lt _ e.symm).1; omega)
                have hn8 : Near wx (fun b => b = K0 ∨ (Value.slice TA j TC).ownBlock = some b) w8 := Near.grown (Near.of_below (bel_alloc hbx7 _)) hg8 (fun g e => .inr e) (bel_alloc hbx7 _).size
                have hcc8 : w8.cell? ⟨K0, 1, none⟩ = some (.slice TA j TC) := hc8.cell 1
                have hcf8 := hc8.frozen 1
                refine hK.out _ _ ?_ (fun hHeld => ?_)
                · exact Hall.out _ (hn8)
                clear hK K
                try simp only [Act.put, List.setIfInBounds_toArray, List.set_cons_zero, List.set_cons_succ]
                refine wpAnyH_ready (rs := [12]) (by kernel_rfl) (by simp) ?_
                refine AllReadyH.cons rfl (fun K hK => ?_) AllReadyH.nil
                go_simp
                refine hK.out _ _ ?_ (fun hHeld => ?_)
                · exact Hall.out _ (hn8)
                clear hK K
                try simp only [Act.put, List.setIfInBounds_toArray, List.set_cons_zero, List.set_cons_succ]
                refine wpAnyH_ready (rs := [13]) (by kernel_rfl) (by simp) ?_
                refine AllReadyH.cons rfl (fun K hK => ?_) AllReadyH.nil
                go_simp
                refine hK.out _ _ ?_ (fun hHeld => ?_)
                · exact Hall.out _ (hn8.set (.inl rfl) _ _)
                clear hK K
                try simp only [Act.put, List.setIfInBounds_toArray, List.set_cons_zero, List.set_cons_succ]
                refine wpAnyH_done (by kernel_rfl) ?_ _
                go_wp2
                have hs7 : wx.heap.size ≤ w7.heap.size := hbx7.size
                have hg8' : (w7.alloc (.cells #[.string r2.name, .int .i64 r2.arity, .slice XA XN XC] 57)).grownBy w8 (Value.slice TA j TC).ownBlock := hg8
                have hbase : ∀ g, (Value.slice TA j TC).ownBlock = some g → K0 + 1 ≤ g := fun g e => (hown7.lt g e).1
                have hk7 : Keeps (K0 + 1) [3, 25] w7 (w8.setCell ⟨K0, 1, none⟩ (.slice VA (j + 1) VC)) :=
                  (Keeps.alloc _ _ _ _).trans ((Keeps.own hg8' hown7 (by decide)).trans (Keeps.setCell (p := ⟨K0, 1, none⟩) hc8 (by decide) _))
                refine ⟨⟨j + 1, .slice VA (j + 1) VC, xs ++ [.string r2.name, .int .i64 r2.arity, .slice XA XN XC], us ++ [.slice XA XN XC], by omega, by go_num, ?_, ?_, hc8.set_ 1 _, own_set hown8 (Nat.lt_succ_self K0) _, by rw [take_snoc Hkr.out]; exact Hrc.out.snoc r2 _, ?_, ?_⟩, by simp [intOf]; omega⟩
                · exact Blk.far (Blk.grown (Blk.alloc (Hsx.out.below hbx7 Hsx.out.lt) _) hg8' (fun e => by have := hbase _ e.symm; omega)) (show w.heap.size ≠ K0 by omega) _
                · exact Blk.far (Blk.grown (Blk.alloc (Hzx.out.below hbx7 Hzx.out.lt) _) hg8' (fun e => by have := hbase _ e.symm; omega)) (show w.heap.size + 1 ≠ K0 by omega) _
                · rw [take_snoc Hkr.out]
                  exact RElems.snoc ((Helx.out.keep (Keeps.of_below hbx7)).keep hk7) Hrc.out.2.1 ((hnt.more (by have := hbx6.size; omega)).keep hk7) hrnz
                · exact (((hbelx.trans (hbx7.mono hwx)).alloc (by omega) _).grown hg8' (by simp; omega) (fun g e => by have := hbase g e; omega)).setCell (show w.heap.size ≤ K0 by omega) _
        · have hkj : j = k := by omega
          subst hkj
          have htk : (Sh.keepR rs ss).take j = Sh.keepR rs ss := List.take_of_length_le (by rw [keepR_len]; have := Hm.out; omega)
          have hrc' := Hrc.out
          rw [htk] at hel hrc'
          have hnt : NRels wr (K0 + 1) (.slice TA j TC) (Sh.keepR rs ss) := NRels.own Hown.out (Nat.le_refl _) (by omega) hrc' hel
          have hcc0 : wr.cell? ⟨K0, 0, none⟩ = some (.int .i64 size) := hc.cell 0
          have hcc1 : wr.cell? ⟨K0, 1, none⟩ = some (.slice TA j TC) := hc.cell 1
          have hzc0 : wr.cell? ⟨w.heap.size + 1, 0, none⟩ = some (.int .i64 0) := hz.cell 0
          have hzc1 : wr.cell? ⟨w.heap.size + 1, 1, none⟩ = some (.slice none 0 0) := hz.cell 1
          have hzf0 := hz.frozen 0
          have hzf1 := hz.frozen 1
          have Hnt := Lib.hid hnt; clear hnt htk hel hrc'
          go_wp2
          refine bodyPost_ret (v := .tuple #[.agg #[.int .i64 size, .slice TA j TC], .int .i64 0]) (by simp [results, Tryz.results15, go_sem, hzc0, hzc1]) rfl ?_
          have hk0 : Keeps (K0 + 1) [3, 25, 57] wr ((wr.setCell ⟨w.heap.size + 1, 0, none⟩ (.int .i64 size)).setCell ⟨w.heap.size + 1, 1, none⟩ (.slice TA j TC)) :=
            (Keeps.setCell (p := ⟨w.heap.size + 1, 0, none⟩) hz (by decide) _).trans (Keeps.setCell (p := ⟨w.heap.size + 1, 1, none⟩) (hz.set_ _ _) (by decide) _)
          exact KeepPost.ok ((hbel.setCell (by simp) _).setCell (by simp) _) ((Hnt.out.keep hk0).more (by omega))

end Go.Proofs.YtelememdhpncgaaGreatDoor

/-
  What Put, Permute, Keep and Make leave, in one form each: a function of what came in, and a structure of the call's own.
-/
namespace Go.Proofs.YtelememdhpncgaaGreatDoor
open Go.RowKit

namespace Sh
def resPut (size : Int) (rs : List Rel) (nm : List UInt8) (t : List Int) (is : Bool) : Int × List Rel :=
  if (relForE ⟨size, rs⟩ nm t.length).2 ≠ 0 then (0, []) else if inB size t = false then (0, []) else (size, putR rs (relForE ⟨size, rs⟩ nm t.length).1.toNat t is)
def resPerm (size : Int) (rs : List Rel) (p : List Int) : Int × List Rel := if validB ⟨size, rs⟩ = false then (0, []) else if permB size p = false then (0, []) else (size, renR p rs)
def resKeep (size : Int) (rs : List Rel) (ss : List (ByteArray × Int)) : Int × List Rel :=
  if validB ⟨size, rs⟩ = false then (0, []) else if fitsB rs ss = false then (0, []) else if onceB ss = false then (0, []) else (size, keepR rs ss)
def resMake (n : Int) (ss : List (ByteArray × Int)) : Int × List Rel := if validB ⟨n, madeR ss⟩ = false then (0, []) else (n, madeR ss)
/-- Small enough for every row. -/
def Tiny (rs : List Rel) : Prop := rs.length ≤ 1000000 ∧ ∀ r ∈ rs, r.tuples.length ≤ 1000000 ∧ ∀ t ∈ r.tuples, t.length ≤ 1000000
theorem Tiny.nil : Tiny [] := ⟨by simp, fun r h => by cases h⟩
theorem tiny_rel {size : Int} {r : Rel} (h : relB size r = true) : r.tuples.length ≤ 1000000 ∧ ∀ t ∈ r.tuples, t.length ≤ 1000000 := by
  have hs := relB_small h
  exact ⟨by have := hs.1; omega, fun t ht => by have := hs.2 t ht; omega⟩
theorem tiny_valid {size : Int} {rs : List Rel} (h : validB ⟨size, rs⟩ = true) : Tiny rs := by
  have hv := (validB_iff size rs).1 h
  exact ⟨by have := hv.2.2.1; omega, fun r hr => tiny_rel (hv.2.2.2.1 r hr)⟩
end Sh

def ResPost (r : Int × List Sh.Rel) (w : World) (e : Ending) (w' : World) : Prop :=
  ∃ x er, e = .returned (.tuple #[.agg #[.int .i64 r.1, x], er]) ∧ NRels w' w.heap.size x r.2 ∧ Sh.Tiny r.2 ∧ Below w.heap.size w w'
theorem ResPost.none {w w' : World} (er : Value) (hb : Below w.heap.size w w') : ResPost (0, []) w (.returned (.tuple #[.agg #[.int .i64 0, .slice none 0 0], er])) w' :=
  ⟨_, er, rfl, NRels.nil _ _, Sh.Tiny.nil, hb⟩

theorem put_res (size : Int) (v : Value) (rs : List Sh.Rel) (nm : ByteArray) (u : Value) (t : List Int) (is : Bool) (w : World) (B : Nat) (hB : B ≤ w.heap.size) (h : Rels w B v rs) (ht : Ints w B u t) :
    Calls Tryz.prog 14 #[.agg #[.int .i64 size, v], .string nm, u, .bool is] w (ResPost (Sh.resPut size rs nm.toList t is) w) := by
  unfold Sh.resPut
  by_cases he : (Sh.relForE ⟨size, rs⟩ nm.toList t.length).2 = 0
  · rw [if_neg (by rw [he]; simp)]
    obtain ⟨hv, j, r, h1, h2, h3, h4, h5⟩ := Sh.relFor_ok he
    cases hin : Sh.inB size t
    · rw [if_pos rfl]
      refine (put_arg size v rs nm u t is w B hB h ht he hin).mono ?_
      rintro e w' ⟨rfl, hb⟩
      exact ResPost.none _ hb
    · rw [if_neg (by simp), h1]
      refine (put_ok size v rs nm u t is j r w B hB h ht hv h1 h3 h5.symm hin).mono ?_
      rintro e w' ⟨x, rfl, hn, hb⟩
      exact ⟨x, _, rfl, by simpa using hn, Sh.tiny_valid (Sh.put_valid hv h3 h5.symm hin is), hb⟩
  · rw [if_pos he]
    refine (put_bad size v rs nm u t is w B hB h ht he).mono ?_
    rintro e w' ⟨rfl, hb⟩
    exact ResPost.none _ hb
theorem perm_res (size : Int) (v : Value) (rs : List Sh.Rel) (u : Value) (p : List Int) (w : World) (B : Nat) (hB : B ≤ w.heap.size) (h : Rels w B v rs) (hp : Ints w B u p) :
    Calls Tryz.prog 10 #[.agg #[.int .i64 size, v], u] w (ResPost (Sh.resPerm size rs p) w) := by
  unfold Sh.resPerm
  cases hv : Sh.validB ⟨size, rs⟩
  · rw [if_pos rfl]
    refine (permute_bad size v rs u p w B hB h hp hv).mono ?_
    rintro e w' ⟨rfl, hb⟩
    exact ResPost.none _ hb
  · rw [if_neg (by simp)]
    cases hq : Sh.permB size p
    · rw [if_pos rfl]
      refine (permute_arg size v rs u p w B hB h hp hv hq).mono ?_
      rintro e w' ⟨rfl, hb⟩
      exact ResPost.none _ hb
    · rw [if_neg (by simp)]
      refine (permute_fine size v rs u p w B hB h hp hv hq).mono ?_
      rintro e w' ⟨x, rfl, hn, hb⟩
      exact ⟨x, _, rfl, hn, Sh.tiny_valid (Sh.ren_valid hv hq), hb⟩
theorem keep_res (size : Int) (v u : Value) (rs : List Sh.Rel) (ss : List (ByteArray × Int)) (w : World) (B : Nat) (hB : B ≤ w.heap.size) (h : Rels w B v rs) (g : Syms w B u ss) (hfit : SymFit ss) (hl : ss.length ≤ 1000) :
    Calls Tryz.prog 15 #[.agg #[.int .i64 size, v], u] w (ResPost (Sh.resKeep size rs ss) w) := by
  unfold Sh.resKeep
  cases hv : Sh.validB ⟨size, rs⟩
  · rw [if_pos rfl]
    refine (keep_form size v u rs w B hB h hv).mono ?_
    rintro e w' ⟨rfl, hb⟩
    exact ResPost.none _ hb
  · rw [if_neg (by simp)]
    have hk := keep_valid (Sh.fitsB rs ss) (Sh.onceB ss) size v u rs ss w B hB h g hfit hl hv rfl rfl
    cases hf : Sh.fitsB rs ss
    · rw [if_pos rfl]
      rw [hf] at hk
      refine hk.mono ?_
      rintro e w' ⟨hb, rfl⟩
      exact ResPost.none _ hb
    · rw [if_neg (by simp)]
      rw [hf] at hk
      cases ho : Sh.onceB ss
      · rw [if_pos rfl]
        rw [ho] at hk
        refine hk.mono ?_
        rintro e w' ⟨hb, rfl⟩
        exact ResPost.none _ hb
      · rw [if_neg (by simp)]
        rw [ho] at hk
        refine hk.mono ?_
        rintro e w' ⟨hb, x, rfl, hn⟩
        refine ⟨x, _, rfl, hn, ⟨by unfold Sh.keepR; rw [List.length_map]; omega, fun r hr => ?_⟩, hb⟩
        obtain ⟨s, hs, rfl⟩ := List.mem_map.1 hr
        obtain ⟨k, hk, rfl⟩ := List.mem_iff_getElem.1 hs
        obtain ⟨j, r, h1, h2, h3, -⟩ := Sh.fits_get hf (List.getElem?_eq_getElem hk)
        rw [h3]
        exact (Sh.tiny_valid hv).2 r (List.mem_of_getElem? h2)
theorem make_res (n : Int) (v : Value) (ss : List (ByteArray × Int)) (w : World) (B : Nat) (hB : B ≤ w.heap.size) (h : Syms w B v ss) (hf : SymFit ss) (hl : ss.length ≤ 1000) :
    Calls Tryz.prog 16 #[.int .i64 n, v] w (ResPost (Sh.resMake n ss) w) := by
  unfold Sh.resMake
  cases hv : Sh.validB ⟨n, Sh.madeR ss⟩
  · rw [if_pos rfl]
    refine (make_any false n v ss w B hB h hf hl hv).mono ?_
    rintro e w' ⟨rfl, hb⟩
    exact ResPost.none _ hb
  · rw [if_neg (by simp)]
    refine (make_any true n v ss w B hB h hf hl hv).mono ?_
    rintro e w' ⟨x, rfl, hn, hb⟩
    exact ⟨x, _, rfl, hn, Sh.tiny_valid hv, hb⟩

end Go.Proofs.YtelememdhpncgaaGreatDoor

/-
  Walk: shape.Symbols: the row that it returns is its own.
-/
namespace Go.Proofs.YtelememdhpncgaaGreatDoor
open Go.RowKit

set_option maxRecDepth 100000 in
set_option maxHeartbeats 400000 in
theorem symbols_own (size : Int) (v : Value) (rs : List Sh.Rel) (w : World) (B : Nat) (hB : B ≤ w.heap.size) (h : Rels w B v rs) (hvb : Sh.validB ⟨size, rs⟩ = true) (hl : rs.length ≤ 1000) :
    Calls Tryz.prog 17 #[.agg #[.int .i64 size, v]] w fun e w' => ∃ u, e = .returned u ∧ Syms w' w'.heap.size u (symsOf rs) ∧ Below w.heap.size w w' ∧ ∃ xs, w'.ownsRow (w.heap.size + 1) 72 2 u rs.length xs := by
  have h' := h
  obtain ⟨A, len, c, rfl, hlen, -⟩ := h'
  have hb0 := (Below.refl w.heap.size w).alloc (Nat.le_refl _) (.cells #[.int .i64 size, .slice A len c] 24)
  have hcall := valid_any size (.slice A len c) rs (w.alloc (.cells #[.int .i64 size, .slice A len c] 24)) B (by simp; omega) (h.below (hb0.mono hB))
  have hbox := Blk.new w 24 #[.int .i64 size, .slice A len c]
  have Hcall := Lib.hid hcall; clear hcall
  have Hb0 := Lib.hid hb0; clear hb0
  have Hvb := Lib.hid hvb; clear hvb
  have Hbox := Lib.hid hbox; clear hbox
  have Hlen := Lib.hid hlen; clear hlen
  go_enter Tryz.func17, Tryz.ntmps17
  go_wp2_with (go_at_call 31; refine Hcall.out.mono ?_; rw [Hvb.out]; rintro e w1 ⟨rfl, hb1⟩
               have hbx := Hbox.out.below hb1 (by simp)
               have bx1 : w1.cell? ⟨w.heap.size, 1, none⟩ = some (.slice A len c) := hbx.cell 1
               have hs1 : w.heap.size + 1 ≤ w1.heap.size := by have := hb1.size; simp at this; exact this
               have Hb1 := Lib.hid (Hb0.out.trans (hb1.mono (by simp))); clear hb1 hbx)
  go_loopw [3, 12] (fun v i wr => ∃ k : Nat, k ≤ len ∧ i = .int .i64 k ∧ wr.ownsRow (w.heap.size + 1) 72 2 v k (symCells (rs.take k)) ∧ Below w.heap.size w wr ∧ w.heap.size + 1 ≤ wr.heap.size) (fun _ i _ => len - (intOf i).toNat)
  case atStart => exact ⟨0, Nat.zero_le _, rfl, by simpa [symCells] using World.ownsRow_nil _ _ _ _, Hb1.out, hs1⟩
  case round =>
    obtain ⟨k, hk, rfl, hown, hbel, hsz⟩ := hrel
    have Hown := Lib.hid hown; clear hown
    by_cases hlt : k < len
    · obtain ⟨ad, u, r, rfl, hb, hr, c0, c1, c2, htu, hn⟩ := (h.below (hbel.mono hB)).at_ hlt
      obtain ⟨UA, UN, UC, rfl, -⟩ := htu
      have htk : rs.take (k + 1) = rs.take k ++ [r] := by
        have hl' : k < rs.length := by have := Hlen.out; omega
        rw [List.take_succ_eq_append_getElem hl']
        rw [List.getElem?_eq_getElem hl'] at hr
        injection hr with hr
        rw [hr]
      have Htk := Lib.hid htk; clear htk
      have hk1000 : k ≤ 1000 := by have := Hlen.out; omega
      have Hr := Lib.hid hr; clear hr
      have Hbel := Lib.hid hbel; clear hbel
      go_wp2_with (at_builtin; refine append_sym _ rfl _ _ rfl (w.heap.size + 1) _ k (rs.take k) rfl ((Hown.out.alloc _).alloc _) (wr.heap.size + 1) 1 r rfl (by have hh := Blk.new (wr.alloc (.cells #[.string r.name, .int .i64 r.arity, .slice UA UN UC] 57)) 72 #[.string r.name, .int .i64 r.arity]; rw [World.size_alloc] at hh; exact hh) (by omega) (by simp only [World.size_alloc]; omega) ?_; intro v' w7 hown7 hg7)
      refine ⟨⟨k + 1, by omega, by go_num, by rw [Htk.out]; exact hown7, ?_, ?_⟩, by simp [intOf]; omega⟩
      · exact ((Hbel.out.alloc (by omega) _).alloc (by simp only [World.size_alloc]; omega) _).grown hg7 (by simp only [World.size_alloc]; omega) (fun g e => by have := (Hown.out.lt g e).1; omega)
      · have := hg7.size
        simp only [World.size_alloc] at this
        omega
    · have hkl : k = len := by omega
      subst hkl
      have htk : rs.take k = rs := List.take_of_length_le (by have := Hlen.out; omega)
      have hsy : Syms wr wr.heap.size _ (symsOf rs) := Syms.own (by have h1 := Hown.out; rw [htk] at h1; exact h1) Hlen.out (by have := Hlen.out; omega)
      have Hsy := Lib.hid hsy; clear hsy htk
      go_wp2
      go_ret
      exact ⟨_, rfl, Hsy.out, hbel, _, by have h1 := Hown.out; rw [Hlen.out] at h1; rw [show k = rs.length from Hlen.out]; exact h1⟩

end Go.Proofs.YtelememdhpncgaaGreatDoor
