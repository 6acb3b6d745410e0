/-
  Walk: shape.copyOf, with what it says of the rows' memory: each relation's tuples lie in a block of their own.
-/
import Derived.Test.YtbddchonhicpiaaDoorCopyrel
namespace Go.Proofs.YtbddchonhicpiaaDoor
open Go.RowKit

/-- The slices vs hold the relations' tuples, each in a row of the call's own, no two in one block. -/
def ROwn (w : World) (L : Nat) (vs : List Value) (rs : List Sh.Rel) : Prop :=
  (∀ (j : Nat) (u : Value) (r : Sh.Rel), vs[j]? = some u → rs[j]? = some r → r.name.size ≤ 140737488351232 ∧ r.tuples.length ≤ 1000000 ∧ ∃ us : List Value, us.length = r.tuples.length ∧ w.ownsRow L 35 1 u r.tuples.length us ∧ Elems w L us r.tuples) ∧
  ∀ (j k : Nat) (u u' : Value) (g : Nat), j < k → vs[j]? = some u → vs[k]? = some u' → u.ownBlock = some g → u'.ownBlock ≠ some g
theorem ROwn.nil (w : World) (L : Nat) : ROwn w L [] [] := ⟨fun j u r h => by simp at h, fun j k u u' g _ h => by simp at h⟩
theorem ROwn.keep {w w' : World} {L : Nat} {vs : List Value} {rs : List Sh.Rel} (h : ROwn w L vs rs) (hk : Keeps L [3, 35] w w') : ROwn w' L vs rs :=
  ⟨fun j u r h1 h2 => by
    obtain ⟨a, b, us, c, d, e⟩ := h.1 j u r h1 h2
    exact ⟨a, b, us, c, own_keeps d hk (Nat.le_refl _) (by simp), e.keep (hk.mono (by simp))⟩, h.2⟩
theorem ROwn.snoc {w : World} {L : Nat} {vs : List Value} {rs : List Sh.Rel} (h : ROwn w L vs rs) (hl : vs.length = rs.length) {u : Value} {r : Sh.Rel} {us : List Value} (hz : r.name.size ≤ 140737488351232) (ht : r.tuples.length ≤ 1000000)
    (hus : us.length = r.tuples.length) (ho : w.ownsRow L 35 1 u r.tuples.length us) (he : Elems w L us r.tuples) (hd : ∀ (j : Nat) (x : Value) (g : Nat), vs[j]? = some x → x.ownBlock = some g → u.ownBlock ≠ some g) : ROwn w L (vs ++ [u]) (rs ++ [r]) := by
  refine ⟨fun j u' r' h1 h2 => ?_, fun j k x x' g hjk h1 h2 hg => ?_⟩
  · by_cases hj : j < vs.length
    · rw [List.getElem?_append_left hj] at h1
      rw [List.getElem?_append_left (by omega)] at h2
      exact h.1 j u' r' h1 h2
    · rw [List.getElem?_append_right (by omega)] at h1
      rw [List.getElem?_append_right (by omega)] at h2
      have hj0 : j - vs.length = 0 := by
        have := (List.getElem?_eq_some_iff.1 h1).1
        simp at this; omega
      rw [hj0] at h1
      rw [show j - rs.length = 0 by omega] at h2
      simp at h1 h2
      subst h1 h2
      exact ⟨hz, ht, us, hus, ho, he⟩
  · have hkl : k < vs.length + 1 := by
      have := (List.getElem?_eq_some_iff.1 h2).1
      simpa using this
    have hj : j < vs.length := by omega
    rw [List.getElem?_append_left hj] at h1
    by_cases hk : k < vs.length
    · rw [List.getElem?_append_left hk] at h2
      exact h.2 j k x x' g hjk h1 h2 hg
    · rw [List.getElem?_append_right (by omega), show k - vs.length = 0 by omega] at h2
      simp at h2
      subst h2
      exact hd j x g h1 hg
theorem ROwn.elems {w : World} {L : Nat} {vs : List Value} {rs : List Sh.Rel} (h : ROwn w L vs rs) : RElems w L vs rs := fun j u r h1 h2 => by
  obtain ⟨a, b, us, c, d, e⟩ := h.1 j u r h1 h2
  exact ⟨NTups.own d (Nat.le_refl _) (by omega) c e, a⟩
theorem ROwn.more {w : World} {L L' : Nat} {vs : List Value} {rs : List Sh.Rel} (h : ROwn w L vs rs) (hL : L' ≤ L) : ROwn w L' vs rs :=
  ⟨fun j u r h1 h2 => by
    obtain ⟨a, b, us, c, d, e⟩ := h.1 j u r h1 h2
    exact ⟨a, b, us, c, own_base d hL, fun i x t g1 g2 => (e i x t g1 g2).more hL⟩, h.2⟩
theorem ROwn.lt {w : World} {L : Nat} {vs : List Value} {rs : List Sh.Rel} (h : ROwn w L vs rs) (hl : vs.length = rs.length) (j : Nat) (x : Value) (g : Nat) (h1 : vs[j]? = some x) (h2 : x.ownBlock = some g) : L ≤ g ∧ g < w.heap.size := by
  have hj : j < rs.length := by have := (List.getElem?_eq_some_iff.1 h1).1; omega
  obtain ⟨r, hr⟩ : ∃ r, rs[j]? = some r := ⟨_, List.getElem?_eq_getElem hj⟩
  obtain ⟨-, -, us, -, d, -⟩ := h.1 j x r h1 hr
  exact d.lt g h2
/-- The relations lie in a row of the call's own, their tuples too. -/
def OwnRels (w : World) (L : Nat) (v : Value) (rs : List Sh.Rel) : Prop := ∃ xs vs : List Value, w.ownsRow L 51 3 v rs.length xs ∧ RCells xs vs rs ∧ ROwn w L vs rs
theorem OwnRels.rels {w : World} {L : Nat} {v : Value} {rs : List Sh.Rel} (h : OwnRels w L v rs) (hl : rs.length ≤ 1000000) : NRels w L v rs := by
  obtain ⟨xs, vs, h1, h2, h3⟩ := h
  exact NRels.own h1 (Nat.le_refl _) (by omega) h2 h3.elems
theorem OwnRels.keep {w w' : World} {L : Nat} {v : Value} {rs : List Sh.Rel} (h : OwnRels w L v rs) (hk : Keeps L [3, 35, 51] w w') : OwnRels w' L v rs := by
  obtain ⟨xs, vs, h1, h2, h3⟩ := h
  exact ⟨xs, vs, own_keeps h1 hk (Nat.le_refl _) (by simp), h2, h3.keep (hk.mono (by simp))⟩

set_option maxRecDepth 100000 in
set_option maxHeartbeats 400000 in
theorem copyof_own (size : Int) (v : Value) (rs : List Sh.Rel) (w : World) (B : Nat) (hB : B ≤ w.heap.size) (h : Rels w B v rs) (hl : rs.length ≤ 1000000) (ht : ∀ r ∈ rs, r.tuples.length ≤ 1000000 ∧ ∀ t ∈ r.tuples, t.length ≤ 1000000) :
    Calls Tryd.prog 63 #[.agg #[.int .i64 size, v]] w fun e w' => ∃ u, e = .returned (.agg #[.int .i64 size, u]) ∧ OwnRels w' w.heap.size u rs ∧ Below w.heap.size w w' := by
  have h' := h
  obtain ⟨A, len, c, rfl, hlen, -⟩ := h'
  have hcall := fun (W : World) (u : Value) (r : Sh.Rel) (hu : Tups W B u r.tuples) (hW : B ≤ W.heap.size) (hm : r ∈ rs) => copyrel_own r u W B hW hu (ht r hm).1 (ht r hm).2
  have Hcall := Lib.hid hcall; clear hcall
  have Hlen := Lib.hid hlen; clear hlen
  have hl' : len ≤ 1000000 := by rw [Hlen.out]; exact hl
  have Ht := Lib.hid ht
  clear hl ht
  go_enter Tryd.func63, Tryd.ntmps63
  go_wp2
  have hb3 : Below w.heap.size w (((w.alloc (.cells #[.int .i64 size, .slice A len c] 24)).alloc (.cells #[.int .i64 0, .slice none 0 0] 24)).alloc (.cells #[.int .i64 size, .slice none 0 0] 24)) :=
    (((Below.refl _ _).alloc (Nat.le_refl _) _).alloc (by simp) _).alloc (by simp; omega) _
  have hz3 : Blk (((w.alloc (.cells #[.int .i64 size, .slice A len c] 24)).alloc (.cells #[.int .i64 0, .slice none 0 0] 24)).alloc (.cells #[.int .i64 size, .slice none 0 0] 24)) (w.heap.size + 1) 24 #[.int .i64 0, .slice none 0 0] := by
    have := Blk.new (w.alloc (.cells #[.int .i64 size, .slice A len c] 24)) 24 #[.int .i64 0, .slice none 0 0]
    rw [World.size_alloc] at this
    exact this.alloc _
  have hc3 : Blk (((w.alloc (.cells #[.int .i64 size, .slice A len c] 24)).alloc (.cells #[.int .i64 0, .slice none 0 0] 24)).alloc (.cells #[.int .i64 size, .slice none 0 0] 24)) (w.heap.size + 1 + 1) 24 #[.int .i64 size, .slice none 0 0] := by
    have := Blk.new ((w.alloc (.cells #[.int .i64 size, .slice A len c] 24)).alloc (.cells #[.int .i64 0, .slice none 0 0] 24)) 24 #[.int .i64 size, .slice none 0 0]
    rw [World.size_alloc, World.size_alloc] at this
    exact this
  generalize ((w.alloc (.cells #[.int .i64 size, .slice A len c] 24)).alloc (.cells #[.int .i64 0, .slice none 0 0] 24)).alloc (.cells #[.int .i64 size, .slice none 0 0] 24) = W3 at *
  go_loopw [12] (fun i wr => ∃ (k : Nat) (tv : Value) (xs us : List Value), k ≤ len ∧ i = .int .i64 k ∧ Blk wr (w.heap.size + 1) 24 #[.int .i64 0, .slice none 0 0] ∧
      Blk wr (w.heap.size + 1 + 1) 24 #[.int .i64 size, tv] ∧ wr.ownsRow (w.heap.size + 3) 51 3 tv k xs ∧ RCells xs us (rs.take k) ∧ ROwn wr (w.heap.size + 3) us (rs.take k) ∧ Below w.heap.size w wr) (fun i _ => len - (intOf i).toNat)
  case atStart => exact ⟨0, .slice none 0 0, [], [], Nat.zero_le _, rfl, hz3, hc3, World.ownsRow_nil _ _ _ _, RCells.nil, ROwn.nil _ _, hb3⟩
  case round =>
    obtain ⟨k, tv, xs, us, hk, rfl, hz, hc, hown, hrc, hel, hbel⟩ := hrel
    clear hb3 hz3 hc3
    have Hown := Lib.hid hown; clear hown
    have Hrc := Lib.hid hrc; clear hrc
    obtain ⟨TA, TC, rfl⟩ := own_slice Hown.out
    have hlt3 := hc.lt
    by_cases hlt : k < len
    · obtain ⟨ad, u, r, rfl, hb, hr, c0, c1, c2, htu, hnz⟩ := (h.below (hbel.mono hB)).at_ hlt
      have htu' := htu
      obtain ⟨UA, UN, UC, rfl, -⟩ := htu'
      have Hr := Lib.hid hr; clear hr
      have hbelz : w.heap.size ≤ wr.heap.size := hbel.size
      have htud : Tups (wr.alloc (.cells #[.string r.name, .int .i64 r.arity, .slice UA UN UC] 51)).drew B (.slice UA UN UC) r.tuples := htu.keep (fun p hp => World.cell?_alloc_lt _ _ _ (by omega))
      have hbx : Blk (wr.alloc (.cells #[.string r.name, .int .i64 r.arity, .slice UA UN UC] 51)).drew wr.heap.size 51 #[.string r.name, .int .i64 r.arity, .slice UA UN UC] := (Blk.new _ _ _).drew
      have hcd : Blk (wr.alloc (.cells #[.string r.name, .int .i64 r.arity, .slice UA UN UC] 51)).drew (w.heap.size + 1 + 1) 24 #[.int .i64 size, .slice TA k TC] := (hc.alloc _).drew
      have hcl2 : (wr.alloc (.cells #[.string r.name, .int .i64 r.arity, .slice UA UN UC] 51)).drew.cell? ⟨w.heap.size + 1 + 1, 1, none⟩ = some (.slice TA k TC) := hcd.cell 1
      have hownd : (wr.alloc (.cells #[.string r.name, .int .i64 r.arity, .slice UA UN UC] 51)).drew.ownsRow (w.heap.size + 3) 51 3 (.slice TA k TC) k xs := Hown.out.alloc _
      go_wp2
      have hx0 : (wr.alloc (.cells #[.string r.name, .int .i64 r.arity, .slice UA UN UC] 51)).drew.cell? ⟨wr.heap.size, 0, none⟩ = some (.string r.name) := hbx.cell 0
      have hx1 : (wr.alloc (.cells #[.string r.name, .int .i64 r.arity, .slice UA UN UC] 51)).drew.cell? ⟨wr.heap.size, 1, none⟩ = some (.int .i64 r.arity) := hbx.cell 1
      have hx2 : (wr.alloc (.cells #[.string r.name, .int .i64 r.arity, .slice UA UN UC] 51)).drew.cell? ⟨wr.heap.size, 2, none⟩ = some (.slice UA UN UC) := hbx.cell 2
      go_region_law (first
        | (go_simp
           go_at_call 71
           refine (Hcall.out _ _ r htud (by simp; omega) (List.mem_of_getElem? Hr.out)).mono ?_
           rintro e w7 ⟨x, ys, rfl, hyl, hxo, hye, hb7⟩
           obtain ⟨XA, XC, rfl⟩ := own_slice hxo
           have hc7 := hcd.below hb7 (by simp; omega)
           have hcc7 : w7.cell? ⟨w.heap.size + 1 + 1, 1, none⟩ = some (.slice TA k TC) := hc7.cell 1
           have hcc7' : (w7.alloc (.cells #[.string r.name, .int .i64 r.arity, .slice XA r.tuples.length XC] 51)).cell? ⟨w.heap.size + 1 + 1, 1, none⟩ = some (.slice TA k TC) := (Blk.alloc hc7 _).cell 1
           have hown7 : (w7.alloc (.cells #[.string r.name, .int .i64 r.arity, .slice XA r.tuples.length XC] 51)).ownsRow (w.heap.size + 3) 51 3 (.slice TA k TC) k xs := World.ownsRow.alloc (own_below hownd hb7) _)
        | (refine step_append_rel _ rfl _ _ rfl (w.heap.size + 3) _ k xs rfl hown7 w7.heap.size 1 _ _ _ rfl (Blk.new w7 51 #[.string r.name, .int .i64 r.arity, .slice XA r.tuples.length XC]) rfl rfl rfl (by omega) (by have := hb7.size; simp at this ⊢; omega) ?_
           intro v8 w8 hown8 hg8
           obtain ⟨VA, VC, rfl⟩ := own_slice hown8
           have hc8 : Blk w8 (w.heap.size + 1 + 1) 24 #[.int .i64 size, .slice TA k TC] := Blk.grown (Blk.alloc hc7 _) hg8 (fun e => by have := (hown7.lt _ e.symm).1; omega)
           have hcc8 : w8.cell? ⟨w.heap.size + 1 + 1, 1, none⟩ = some (.slice TA k TC) := hc8.cell 1
           have hcf8 := hc8.frozen 1))
      all_goals
        go_wp2
        have hs7 : wr.heap.size + 1 ≤ w7.heap.size := by have := hb7.size; simp at this; exact this
        have hg8' : (w7.alloc (.cells #[.string r.name, .int .i64 r.arity, .slice XA r.tuples.length XC] 51)).grownBy w8 (Value.slice TA k TC).ownBlock := hg8
        have hbase : ∀ g, (Value.slice TA k TC).ownBlock = some g → w.heap.size + 3 ≤ g := fun g e => (hown7.lt g e).1
        have hk7 : Keeps (w.heap.size + 3) [3, 35] w7 (w8.setCell ⟨w.heap.size + 1 + 1, 1, none⟩ (.slice VA (k + 1) VC)) :=
          (Keeps.alloc _ _ _ _).trans ((Keeps.own hg8' hown7 (by decide)).trans (Keeps.setCell (p := ⟨w.heap.size + 1 + 1, 1, none⟩) hc8 (by decide) _))
        refine ⟨⟨k + 1, .slice VA (k + 1) VC, xs ++ [.string r.name, .int .i64 r.arity, .slice XA r.tuples.length XC], us ++ [.slice XA r.tuples.length XC], by omega, by go_num, ?_, hc8.set_ 1 _, own_set hown8 (show w.heap.size + 1 + 1 < w.heap.size + 3 by omega) _, by rw [take_snoc Hr.out]; exact Hrc.out.snoc r _, ?_, ?_⟩, by simp [intOf]; omega⟩
        · exact Blk.far (Blk.grown (Blk.alloc (((hz.alloc _).drew).below hb7 (by simp; omega)) _) hg8' (fun e => by have := hbase _ e.symm; omega)) (by simp) _
        · rw [take_snoc Hr.out]
          have hlt7 := hel.lt Hrc.out.2.1
          refine ROwn.snoc ((hel.keep (((Keeps.alloc _ _ _ _).trans (Keeps.drewN _ _ _ 1)).trans (Keeps.of_below hb7))).keep hk7) Hrc.out.2.1 hnz (Ht.out r (List.mem_of_getElem? Hr.out)).1 hyl (own_keeps (own_base hxo (by simp; omega)) hk7 (Nat.le_refl _) (by simp)) (fun j x t h1 h2 => ((hye j x t h1 h2).more (by simp; omega)).keep (hk7.mono (by simp))) (fun j x g h1 h2 h3 => ?_)
          have h4 := (hlt7 j x g h1 h2).2
          have h5 := (hxo.lt g h3).1
          simp at h5
          omega
        · exact (((((hbel.alloc hbelz _).drew).trans (hb7.mono (by simp; omega))).alloc (by omega) _).grown hg8' (by simp; omega) (fun g e => by have := hbase g e; omega)).setCell (show w.heap.size ≤ w.heap.size + 1 + 1 by omega) _
    · have hkl : k = len := by omega
      subst hkl
      have htk : rs.take k = rs := List.take_of_length_le (by have := Hlen.out; omega)
      have hrc' := Hrc.out
      rw [htk] at hel hrc'
      have hown' := Hown.out
      have hkl' : k = rs.length := Hlen.out
      rw [hkl'] at hown'
      have hnt : OwnRels wr (w.heap.size + 3) (.slice TA rs.length TC) rs := ⟨xs, us, hown', hrc', hel⟩
      rw [← hkl'] at hnt
      have hcc0 : wr.cell? ⟨w.heap.size + 1 + 1, 0, none⟩ = some (.int .i64 size) := hc.cell 0
      have hcc1 : wr.cell? ⟨w.heap.size + 1 + 1, 1, none⟩ = some (.slice TA k TC) := hc.cell 1
      have hzc0 : wr.cell? ⟨w.heap.size + 1, 0, none⟩ = some (.int .i64 0) := hz.cell 0
      have hzc1 : wr.cell? ⟨w.heap.size + 1, 1, none⟩ = some (.slice none 0 0) := hz.cell 1
      have hzf0 := hz.frozen 0
      have hzf1 := hz.frozen 1
      have Hnt := Lib.hid hnt; clear hnt htk hel hrc' hown' hkl'
      go_wp2
      refine bodyPost_ret (v := .agg #[.int .i64 size, .slice TA k TC]) (by simp [results, Tryd.results63, go_sem, hzc0, hzc1]) rfl ?_
      have hk0 : Keeps (w.heap.size + 3) [3, 35, 51] wr ((wr.setCell ⟨w.heap.size + 1, 0, none⟩ (.int .i64 size)).setCell ⟨w.heap.size + 1, 1, none⟩ (.slice TA k TC)) :=
        (Keeps.setCell (p := ⟨w.heap.size + 1, 0, none⟩) hz (by decide) _).trans (Keeps.setCell (p := ⟨w.heap.size + 1, 1, none⟩) (hz.set_ _ _) (by decide) _)
      obtain ⟨xs', vs', g1, g2, g3⟩ := Hnt.out.keep hk0
      refine ⟨_, rfl, ⟨xs', vs', own_base g1 (by omega), g2, g3.more (by omega)⟩, ?_⟩
      exact (hbel.setCell (by simp) _).setCell (by simp) _

theorem copyof_any (size : Int) (v : Value) (rs : List Sh.Rel) (w : World) (B : Nat) (hB : B ≤ w.heap.size) (h : Rels w B v rs) (hl : rs.length ≤ 1000000) (ht : ∀ r ∈ rs, r.tuples.length ≤ 1000000 ∧ ∀ t ∈ r.tuples, t.length ≤ 1000000) :
    Calls Tryd.prog 63 #[.agg #[.int .i64 size, v]] w fun e w' => ∃ u, e = .returned (.agg #[.int .i64 size, u]) ∧ NRels w' w.heap.size u rs ∧ Below w.heap.size w w' :=
  (copyof_own size v rs w B hB h hl ht).mono fun _ _ ⟨u, he, ho, hb⟩ => ⟨u, he, ho.rels hl, hb⟩

end Go.Proofs.YtbddchonhicpiaaDoor
