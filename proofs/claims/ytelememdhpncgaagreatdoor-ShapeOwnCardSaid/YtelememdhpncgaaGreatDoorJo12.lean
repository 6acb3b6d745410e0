/-
  Texts joined: Copyof, Insert, Insgrow, Delete.
-/
import Derived.Test.YtelememdhpncgaaGreatDoorJo7
import Derived.Test.YtelememdhpncgaaGreatDoorJo9
import Derived.Shelf.Spec.SlicesInsertGrow
import Derived.Deep.RegionLaw
import Derived.Laws.Rows
import Derived.Lib.SliceRun

/-
  Walk: shape.copyOf, with what it says of the rows' memory: each relation's tuples lie in a block of their own.
-/
namespace Go.Proofs.YtelememdhpncgaaGreatDoor
open Go.RowKit

/-- The slices vs hold the relations' tuples, each in a row of the call's own, no two in one block. -/
def ROwn (w : World) (L : Nat) (vs : List Value) (rs : List Sh.Rel) : Prop :=
  (∀ (j : Nat) (u : Value) (r : Sh.Rel), vs[j]? = some u → rs[j]? = some r → r.name.size ≤ 140737488351232 ∧ r.tuples.length ≤ 1000000 ∧ ∃ us : List Value, us.length = r.tuples.length ∧ w.ownsRow L 25 1 u r.tuples.length us ∧ Elems w L us r.tuples) ∧
  ∀ (j k : Nat) (u u' : Value) (g : Nat), j < k → vs[j]? = some u → vs[k]? = some u' → u.ownBlock = some g → u'.ownBlock ≠ some g
theorem ROwn.nil (w : World) (L : Nat) : ROwn w L [] [] := ⟨fun j u r h => by simp at h, fun j k u u' g _ h => by simp at h⟩
theorem ROwn.keep {w w' : World} {L : Nat} {vs : List Value} {rs : List Sh.Rel} (h : ROwn w L vs rs) (hk : Keeps L [3, 25] w w') : ROwn w' L vs rs :=
  ⟨fun j u r h1 h2 => by
    obtain ⟨a, b, us, c, d, e⟩ := h.1 j u r h1 h2
    exact ⟨a, b, us, c, own_keeps d hk (Nat.le_refl _) (by simp), e.keep (hk.mono (by simp))⟩, h.2⟩
theorem ROwn.snoc {w : World} {L : Nat} {vs : List Value} {rs : List Sh.Rel} (h : ROwn w L vs rs) (hl : vs.length = rs.length) {u : Value} {r : Sh.Rel} {us : List Value} (hz : r.name.size ≤ 140737488351232) (ht : r.tuples.length ≤ 1000000)
    (hus : us.length = r.tuples.length) (ho : w.ownsRow L 25 1 u r.tuples.length us) (he : Elems w L us r.tuples) (hd : ∀ (j : Nat) (x : Value) (g : Nat), vs[j]? = some x → x.ownBlock = some g → u.ownBlock ≠ some g) : ROwn w L (vs ++ [u]) (rs ++ [r]) := by
  refine ⟨fun j u' r' h1 h2 => ?_, fun j k x x' g hjk h1 h2 hg => ?_⟩
  · by_cases hj : j < vs.length
    · rw [List.getElem?_append_left hj] at h1
      rw [List.getElem?_append_left (by omega)] at h2
      exact h.1 j u' r' h1 h2
    · rw [List.getElem?_append_right (by omega)] at h1
      rw [List.getElem?_append_right (by omega)] at h2
      have hj0 : j - vs.length = 0 := by
        have := (List.getElem?_eq_some_iff.1 h1).1
        simp at this; omega
      rw [hj0] at h1
      rw [show j - rs.length = 0 by omega] at h2
      simp at h1 h2
      subst h1 h2
      exact ⟨hz, ht, us, hus, ho, he⟩
  · have hkl : k < vs.length + 1 := by
      have := (List.getElem?_eq_some_iff.1 h2).1
      simpa using this
    have hj : j < vs.length := by omega
    rw [List.getElem?_append_left hj] at h1
    by_cases hk : k < vs.length
    · rw [List.getElem?_append_left hk] at h2
      exact h.2 j k x x' g hjk h1 h2 hg
    · rw [List.getElem?_append_right (by omega), show k - vs.length = 0 by omega] at h2
      simp at h2
      subst h2
      exact hd j x g h1 hg
theorem ROwn.elems {w : World} {L : Nat} {vs : List Value} {rs : List Sh.Rel} (h : ROwn w L vs rs) : RElems w L vs rs := fun j u r h1 h2 => by
  obtain ⟨a, b, us, c, d, e⟩ := h.1 j u r h1 h2
  exact ⟨NTups.own d (Nat.le_refl _) (by omega) c e, a⟩
theorem ROwn.more {w : World} {L L' : Nat} {vs : List Value} {rs : List Sh.Rel} (h : ROwn w L vs rs) (hL : L' ≤ L) : ROwn w L' vs rs :=
  ⟨fun j u r h1 h2 => by
    obtain ⟨a, b, us, c, d, e⟩ := h.1 j u r h1 h2
    exact ⟨a, b, us, c, own_base d hL, fun i x t g1 g2 => (e i x t g1 g2).more hL⟩, h.2⟩
theorem ROwn.lt {w : World} {L : Nat} {vs : List Value} {rs : List Sh.Rel} (h : ROwn w L vs rs) (hl : vs.length = rs.length) (j : Nat) (x : Value) (g : Nat) (h1 : vs[j]? = some x) (h2 : x.ownBlock = some g) : L ≤ g ∧ g < w.heap.size := by
  have hj : j < rs.length := by have := (List.getElem?_eq_some_iff.1 h1).1; omega
  obtain ⟨r, hr⟩ : ∃ r, rs[j]? = some r := ⟨_, List.getElem?_eq_getElem hj⟩
  obtain ⟨-, -, us, -, d, -⟩ := h.1 j x r h1 hr
  exact d.lt g h2
/-- The relations lie in a row of the call's own, their tuples too. -/
def OwnRels (w : World) (L : Nat) (v : Value) (rs : List Sh.Rel) : Prop := ∃ xs vs : List Value, w.ownsRow L 57 3 v rs.length xs ∧ RCells xs vs rs ∧ ROwn w L vs rs
theorem OwnRels.rels {w : World} {L : Nat} {v : Value} {rs : List Sh.Rel} (h : OwnRels w L v rs) (hl : rs.length ≤ 1000000) : NRels w L v rs := by
  obtain ⟨xs, vs, h1, h2, h3⟩ := h
  exact NRels.own h1 (Nat.le_refl _) (by omega) h2 h3.elems
theorem OwnRels.keep {w w' : World} {L : Nat} {v : Value} {rs : List Sh.Rel} (h : OwnRels w L v rs) (hk : Keeps L [3, 25, 57] w w') : OwnRels w' L v rs := by
  obtain ⟨xs, vs, h1, h2, h3⟩ := h
  exact ⟨xs, vs, own_keeps h1 hk (Nat.le_refl _) (by simp), h2, h3.keep (hk.mono (by simp))⟩

set_option maxRecDepth 100000 in
set_option maxHeartbeats 400000 in
theorem copyof_own (size : Int) (v : Value) (rs : List Sh.Rel) (w : World) (B : Nat) (hB : B ≤ w.heap.size) (h : Rels w B v rs) (hl : rs.length ≤ 1000000) (ht : ∀ r ∈ rs, r.tuples.length ≤ 1000000 ∧ ∀ t ∈ r.tuples, t.length ≤ 1000000) :
    Calls Tryz.prog 33 #[.agg #[.int .i64 size, v]] w fun e w' => ∃ u, e = .returned (.agg #[.int .i64 size, u]) ∧ OwnRels w' w.heap.size u rs ∧ Below w.heap.size w w' := by
  have h' := h
  obtain ⟨A, len, c, rfl, hlen, -⟩ := h'
  have hcall := fun (W : World) (u : Value) (r : Sh.Rel) (hu : Tups W B u r.tuples) (hW : B ≤ W.heap.size) (hm : r ∈ rs) => copyrel_own r u W B hW hu (ht r hm).1 (ht r hm).2
  have Hcall := Lib.hid hcall; clear hcall
  have Hlen := Lib.hid hlen; clear hlen
  have hl' : len ≤ 1000000 := by rw [Hlen.out]; exact hl
  have Ht := Lib.hid ht
  clear hl ht
  go_enter Tryz.func33, Tryz.ntmps33
  go_wp2
  have hb3 : Below w.heap.size w (((w.alloc (.cells #[.int .i64 size, .slice A len c] 24)).alloc (.cells #[.int .i64 0, .slice none 0 0] 24)).alloc (.cells #[.int .i64 size, .slice none 0 0] 24)) :=
    (((Below.refl _ _).alloc (Nat.le_refl _) _).alloc (by simp) _).alloc (by simp; omega) _
  have hz3 : Blk (((w.alloc (.cells #[.int .i64 size, .slice A len c] 24)).alloc (.cells #[.int .i64 0, .slice none 0 0] 24)).alloc (.cells #[.int .i64 size, .slice none 0 0] 24)) (w.heap.size + 1) 24 #[.int .i64 0, .slice none 0 0] := by
    have := Blk.new (w.alloc (.cells #[.int .i64 size, .slice A len c] 24)) 24 #[.int .i64 0, .slice none 0 0]
    rw [World.size_alloc] at this
    exact this.alloc _
  have hc3 : Blk (((w.alloc (.cells #[.int .i64 size, .slice A len c] 24)).alloc (.cells #[.int .i64 0, .slice none 0 0] 24)).alloc (.cells #[.int .i64 size, .slice none 0 0] 24)) (w.heap.size + 1 + 1) 24 #[.int .i64 size, .slice none 0 0] := by
    have := Blk.new ((w.alloc (.cells #[.int .i64 size, .slice A len c] 24)).alloc (.cells #[.int .i64 0, .slice none 0 0] 24)) 24 #[.int .i64 size, .slice none 0 0]
    rw [World.size_alloc, World.size_alloc] at this
    exact this
  generalize ((w.alloc (.cells #[.int .i64 size, .slice A len c] 24)).alloc (.cells #[.int .i64 0, .slice none 0 0] 24)).alloc (.cells #[.int .i64 size, .slice none 0 0] 24) = W3 at *
  go_loopw [12] (fun i wr => ∃ (k : Nat) (tv : Value) (xs us : List Value), k ≤ len ∧ i = .int .i64 k ∧ Blk wr (w.heap.size + 1) 24 #[.int .i64 0, .slice none 0 0] ∧
      Blk wr (w.heap.size + 1 + 1) 24 #[.int .i64 size, tv] ∧ wr.ownsRow (w.heap.size + 3) 57 3 tv k xs ∧ RCells xs us (rs.take k) ∧ ROwn wr (w.heap.size + 3) us (rs.take k) ∧ Below w.heap.size w wr) (fun i _ => len - (intOf i).toNat)
  case atStart => exact ⟨0, .slice none 0 0, [], [], Nat.zero_le _, rfl, hz3, hc3, World.ownsRow_nil _ _ _ _, RCells.nil, ROwn.nil _ _, hb3⟩
  case round =>
    obtain ⟨k, tv, xs, us, hk, rfl, hz, hc, hown, hrc, hel, hbel⟩ := hrel
    clear hb3 hz3 hc3
    have Hown := Lib.hid hown; clear hown
    have Hrc := Lib.hid hrc; clear hrc
    obtain ⟨TA, TC, rfl⟩ := own_slice Hown.out
    have hlt3 := hc.lt
    by_cases hlt : k < len
    · obtain ⟨ad, u, r, rfl, hb, hr, c0, c1, c2, htu, hnz⟩ := (h.below (hbel.mono hB)).at_ hlt
      have htu' := htu
      obtain ⟨UA, UN, UC, rfl, -⟩ := htu'
      have Hr := Lib.hid hr; clear hr
      have hbelz : w.heap.size ≤ wr.heap.size := hbel.size
      have htud : Tups (wr.alloc (.cells #[.string r.name, .int .i64 r.arity, .slice UA UN UC] 57)).drew B (.slice UA UN UC) r.tuples := htu.keep (fun p hp => World.cell?_alloc_lt _ _ _ (by omega))
      have hbx : Blk (wr.alloc (.cells #[.string r.name, .int .i64 r.arity, .slice UA UN UC] 57)).drew wr.heap.size 57 #[.string r.name, .int .i64 r.arity, .slice UA UN UC] := (Blk.new _ _ _).drew
      have hcd : Blk (wr.alloc (.cells #[.string r.name, .int .i64 r.arity, .slice UA UN UC] 57)).drew (w.heap.size + 1 + 1) 24 #[.int .i64 size, .slice TA k TC] := (hc.alloc _).drew
      have hcl2 : (wr.alloc (.cells #[.string r.name, .int .i64 r.arity, .slice UA UN UC] 57)).drew.cell? ⟨w.heap.size + 1 + 1, 1, none⟩ = some (.slice TA k TC) := hcd.cell 1
      have hownd : (wr.alloc (.cells #[.string r.name, .int .i64 r.arity, .slice UA UN UC] 57)).drew.ownsRow (w.heap.size + 3) 57 3 (.slice TA k TC) k xs := Hown.out.alloc _
      go_wp2
      have hx0 : (wr.alloc (.cells #[.string r.name, .int .i64 r.arity, .slice UA UN UC] 57)).drew.cell? ⟨wr.heap.size, 0, none⟩ = some (.string r.name) := hbx.cell 0
      have hx1 : (wr.alloc (.cells #[.string r.name, .int .i64 r.arity, .slice UA UN UC] 57)).drew.cell? ⟨wr.heap.size, 1, none⟩ = some (.int .i64 r.arity) := hbx.cell 1
      have hx2 : (wr.alloc (.cells #[.string r.name, .int .i64 r.arity, .slice UA UN UC] 57)).drew.cell? ⟨wr.heap.size, 2, none⟩ = some (.slice UA UN UC) := hbx.cell 2
      go_region_law (first
        | (go_simp
           go_at_call 44
           refine (Hcall.out _ _ r htud (by simp; omega) (List.mem_of_getElem? Hr.out)).mono ?_
           rintro e w7 ⟨x, ys, rfl, hyl, hxo, hye, hb7⟩
           obtain ⟨XA, XC, rfl⟩ := own_slice hxo
           have hc7 := hcd.below hb7 (by simp; omega)
           have hcc7 : w7.cell? ⟨w.heap.size + 1 + 1, 1, none⟩ = some (.slice TA k TC) := hc7.cell 1
           have hcc7' : (w7.alloc (.cells #[.string r.name, .int .i64 r.arity, .slice XA r.tuples.length XC] 57)).cell? ⟨w.heap.size + 1 + 1, 1, none⟩ = some (.slice TA k TC) := (Blk.alloc hc7 _).cell 1
           have hown7 : (w7.alloc (.cells #[.string r.name, .int .i64 r.arity, .slice XA r.tuples.length XC] 57)).ownsRow (w.heap.size + 3) 57 3 (.slice TA k TC) k xs := World.ownsRow.alloc (own_below hownd hb7) _)
        | (refine step_append_rel _ rfl _ _ rfl (w.heap.size + 3) _ k xs rfl hown7 w7.heap.size 1 _ _ _ rfl (Blk.new w7 57 #[.string r.name, .int .i64 r.arity, .slice XA r.tuples.length XC]) rfl rfl rfl (by omega) (by have := hb7.size; simp at this ⊢; omega) ?_
           intro v8 w8 hown8 hg8
           obtain ⟨VA, VC, rfl⟩ := own_slice hown8
           have hc8 : Blk w8 (w.heap.size + 1 + 1) 24 #[.int .i64 size, .slice TA k TC] := Blk.grown (Blk.alloc hc7 _) hg8 (fun e => by have := (hown7.lt _ e.symm).1; omega)
           have hcc8 : w8.cell? ⟨w.heap.size + 1 + 1, 1, none⟩ = some (.slice TA k TC) := hc8.cell 1
           have hcf8 := hc8.frozen 1))
      all_goals
        go_wp2
        have hs7 : wr.heap.size + 1 ≤ w7.heap.size := by have := hb7.size; simp at this; exact this
        have hg8' : (w7.alloc (.cells #[.string r.name, .int .i64 r.arity, .slice XA r.tuples.length XC] 57)).grownBy w8 (Value.slice TA k TC).ownBlock := hg8
        have hbase : ∀ g, (Value.slice TA k TC).ownBlock = some g → w.heap.size + 3 ≤ g := fun g e => (hown7.lt g e).1
        have hk7 : Keeps (w.heap.size + 3) [3, 25] w7 (w8.setCell ⟨w.heap.size + 1 + 1, 1, none⟩ (.slice VA (k + 1) VC)) :=
          (Keeps.alloc _ _ _ _).trans ((Keeps.own hg8' hown7 (by decide)).trans (Keeps.setCell (p := ⟨w.heap.size + 1 + 1, 1, none⟩) hc8 (by decide) _))
        refine ⟨⟨k + 1, .slice VA (k + 1) VC, xs ++ [.string r.name, .int .i64 r.arity, .slice XA r.tuples.length XC], us ++ [.slice XA r.tuples.length XC], by omega, by go_num, ?_, hc8.set_ 1 _, own_set hown8 (show w.heap.size + 1 + 1 < w.heap.size + 3 by omega) _, by rw [take_snoc Hr.out]; exact Hrc.out.snoc r _, ?_, ?_⟩, by simp [intOf]; omega⟩
        · exact Blk.far (Blk.grown (Blk.alloc (((hz.alloc _).drew).below hb7 (by simp; omega)) _) hg8' (fun e => by have := hbase _ e.symm; omega)) (by simp) _
        · rw [take_snoc Hr.out]
          have hlt7 := hel.lt Hrc.out.2.1
          refine ROwn.snoc ((hel.keep (((Keeps.alloc _ _ _ _).trans (Keeps.drewN _ _ _ 1)).trans (Keeps.of_below hb7))).keep hk7) Hrc.out.2.1 hnz (Ht.out r (List.mem_of_getElem? Hr.out)).1 hyl (own_keeps (own_base hxo (by simp; omega)) hk7 (Nat.le_refl _) (by simp)) (fun j x t h1 h2 => ((hye j x t h1 h2).more (by simp; omega)).keep (hk7.mono (by simp))) (fun j x g h1 h2 h3 => ?_)
          have h4 := (hlt7 j x g h1 h2).2
          have h5 := (hxo.lt g h3).1
          simp at h5
          omega
        · exact (((((hbel.alloc hbelz _).drew).trans (hb7.mono (by simp; omega))).alloc (by omega) _).grown hg8' (by simp; omega) (fun g e => by have := hbase g e; omega)).setCell (show w.heap.size ≤ w.heap.size + 1 + 1 by omega) _
    · have hkl : k = len := by omega
      subst hkl
      have htk : rs.take k = rs := List.take_of_length_le (by have := Hlen.out; omega)
      have hrc' := Hrc.out
      rw [htk] at hel hrc'
      have hown' := Hown.out
      have hkl' : k = rs.length := Hlen.out
      rw [hkl'] at hown'
      have hnt : OwnRels wr (w.heap.size + 3) (.slice TA rs.length TC) rs := ⟨xs, us, hown', hrc', hel⟩
      rw [← hkl'] at hnt
      have hcc0 : wr.cell? ⟨w.heap.size + 1 + 1, 0, none⟩ = some (.int .i64 size) := hc.cell 0
      have hcc1 : wr.cell? ⟨w.heap.size + 1 + 1, 1, none⟩ = some (.slice TA k TC) := hc.cell 1
      have hzc0 : wr.cell? ⟨w.heap.size + 1, 0, none⟩ = some (.int .i64 0) := hz.cell 0
      have hzc1 : wr.cell? ⟨w.heap.size + 1, 1, none⟩ = some (.slice none 0 0) := hz.cell 1
      have hzf0 := hz.frozen 0
      have hzf1 := hz.frozen 1
      have Hnt := Lib.hid hnt; clear hnt htk hel hrc' hown' hkl'
      go_wp2
      refine bodyPost_ret (v := .agg #[.int .i64 size, .slice TA k TC]) (by simp [results, Tryz.results33, go_sem, hzc0, hzc1]) rfl ?_
      have hk0 : Keeps (w.heap.size + 3) [3, 25, 57] wr ((wr.setCell ⟨w.heap.size + 1, 0, none⟩ (.int .i64 size)).setCell ⟨w.heap.size + 1, 1, none⟩ (.slice TA k TC)) :=
        (Keeps.setCell (p := ⟨w.heap.size + 1, 0, none⟩) hz (by decide) _).trans (Keeps.setCell (p := ⟨w.heap.size + 1, 1, none⟩) (hz.set_ _ _) (by decide) _)
      obtain ⟨xs', vs', g1, g2, g3⟩ := Hnt.out.keep hk0
      refine ⟨_, rfl, ⟨xs', vs', own_base g1 (by omega), g2, g3.more (by omega)⟩, ?_⟩
      exact (hbel.setCell (by simp) _).setCell (by simp) _

theorem copyof_any (size : Int) (v : Value) (rs : List Sh.Rel) (w : World) (B : Nat) (hB : B ≤ w.heap.size) (h : Rels w B v rs) (hl : rs.length ≤ 1000000) (ht : ∀ r ∈ rs, r.tuples.length ≤ 1000000 ∧ ∀ t ∈ r.tuples, t.length ≤ 1000000) :
    Calls Tryz.prog 33 #[.agg #[.int .i64 size, v]] w fun e w' => ∃ u, e = .returned (.agg #[.int .i64 size, u]) ∧ NRels w' w.heap.size u rs ∧ Below w.heap.size w w' :=
  (copyof_own size v rs w B hB h hl ht).mono fun _ _ ⟨u, he, ho, hb⟩ => ⟨u, he, ho.rels hl, hb⟩

end Go.Proofs.YtelememdhpncgaaGreatDoor

/-
  Walk: slices.Insert of one tuple into a row of tuples of the call's own.
-/
namespace Go.Proofs.YtelememdhpncgaaGreatDoor
open Go.RowKit Go.Lib

theorem grown_trans {a b c : World} {row : Option Nat} (h : a.grownBy b row) (k : b.grownBy c row) : a.grownBy c row :=
  ⟨k.os.trans h.os, k.tape.trans h.tape, k.output.trans h.output, Nat.le_trans h.size k.size, fun i hi hr => (k.block i (Nat.lt_of_lt_of_le hi h.size) hr).trans (h.block i hi hr)⟩
theorem grown_drewN (w : World) (n : Nat) (row : Option Nat) : w.grownBy (w.drewN n) row := ⟨rfl, rfl, rfl, Nat.le_refl _, fun _ _ _ => rfl⟩
theorem blk_shape {w : World} {g : Nat} {t : TypeId} {cs : Array Value} (h : Blk w g t cs) : w.shape? g = some (t, cs.size) := by
  unfold Blk at h
  simp [World.shape?, h]
/-- Stores into a block that is known whole. -/
theorem blk_setCells (g : Nat) (t : TypeId) : ∀ (vs : List Value) (o : Nat) (w : World) (cs : Array Value), Blk w g t cs → ∃ cs' : Array Value, Blk (w.setCells g o vs) g t cs' ∧ cs'.size = cs.size
  | [], o, w, cs, h => ⟨cs, h, rfl⟩
  | v :: r, o, w, cs, h => by
    obtain ⟨cs', h1, h2⟩ := blk_setCells g t r (o + 1) (w.setCell ⟨g, o, none⟩ v) _ (h.set_ o v)
    exact ⟨cs', h1, by rw [h2, Array.size_setIfInBounds]⟩
theorem grown_setCells (g : Nat) : ∀ (vs : List Value) (o : Nat) (w : World), w.grownBy (w.setCells g o vs) (some g)
  | [], _, w => World.grownBy.refl w _
  | v :: r, o, w => by
    have h1 : w.grownBy (w.setCell ⟨g, o, none⟩ v) (some g) := ⟨rfl, rfl, rfl, by simp [World.setCell], fun i _ hne => Below.heap_setCell _ _ _ _ (fun e => hne (by rw [e]))⟩
    exact grown_trans h1 (grown_setCells g r (o + 1) _)
/-- A row of the call's own, out of its block and its cells. -/
theorem own_of_cells {w : World} {base g cap n : Nat} {e : TypeId} {cur : Array Value} {xs : List Value} (hb : base ≤ g) (hh : Blk w g e cur) (hn : n ≤ cap) (hcap : cap ≤ maxLen) (hs : cur.size = cap) (hx : xs.length = n)
    (hc : ∀ j u, xs[j]? = some u → w.cell? ⟨g, j, none⟩ = some u) : w.ownsRow base e 1 (.slice (some ⟨g, 0, none⟩) n cap) n xs := by
  refine ⟨by omega, .inr ⟨g, cap, cur, rfl, hb, hh, hn, hcap, by omega, ?_⟩⟩
  rw [Nat.mul_one]
  apply List.ext_getElem?
  intro j
  rw [List.getElem?_take]
  split
  · rename_i hj
    have h1 := hc j xs[j] (List.getElem?_eq_getElem (by omega))
    rw [hh.cell j] at h1
    rw [Array.getElem?_toList, h1, List.getElem?_eq_getElem (by omega)]
  · rw [List.getElem?_eq_none (by omega)]

theorem ins_at {us : List Value} {y : Value} {i j : Nat} {u : Value} (hi : i ≤ us.length) (h : (us.take i ++ y :: us.drop i)[j]? = some u) : (j < i ∧ us[j]? = some u) ∨ (j = i ∧ u = y) ∨ (i < j ∧ (us.drop i)[j - (i + 1)]? = some u) := by
  have hl : (us.take i).length = i := by rw [List.length_take]; omega
  by_cases h1 : j < i
  · rw [List.getElem?_append_left (by omega), List.getElem?_take, if_pos h1] at h
    exact .inl ⟨h1, h⟩
  · rw [List.getElem?_append_right (by omega), hl] at h
    by_cases h2 : j = i
    · subst h2
      rw [Nat.sub_self] at h
      exact .inr (.inl ⟨rfl, (Option.some.inj h).symm⟩)
    · rw [show j - i = (j - (i + 1)) + 1 by omega, List.getElem?_cons_succ] at h
      exact .inr (.inr ⟨by omega, h⟩)

set_option maxRecDepth 100000 in
set_option maxHeartbeats 400000 in
/-- Behind the last. -/
theorem insert_end (v : Value) (n : Nat) (us : List Value) (base : Nat) (w : World) (hown : w.ownsRow base 25 1 v n us) (vb : Nat) (y : Value) (hvb : Blk w vb 25 #[y]) (hy : y.oneCell' = true) (hn : n ≤ 1000000) (hbase : base ≤ w.heap.size) :
    Calls Tryz.prog 40 #[v, .int .i64 n, .slice (some ⟨vb, 0, none⟩) 1 1] w fun e w' => ∃ v', e = .returned v' ∧ w'.ownsRow base 25 1 v' (n + 1) (us ++ [y]) ∧ w.grownBy w' v.ownBlock := by
  have hown' := hown
  rcases hown'.2 with ⟨rfl, rfl⟩ | ⟨g, cap, cur, rfl, -, -, hnc, hcm, -⟩
  · have Hown := Lib.hid hown; clear hown hown'
    go_enter Tryz.func40, Tryz.ntmps40
    go_wp2_with (at_builtin; refine append_tup _ rfl _ _ rfl base _ 0 us rfl Hown.out ⟨vb, 0, none⟩ 1 y rfl (hvb.cell 0) hy (by omega) hbase ?_; intro v' w' hown1 hg1)
    go_ret
    exact ⟨_, rfl, hown1, hg1⟩
  · have Hown := Lib.hid hown; clear hown hown'
    unfold maxLen at hcm
    by_cases hc : cap = n
    · subst hc
      go_enter Tryz.func40, Tryz.ntmps40
      go_wp2_with (at_builtin; refine append_tup _ rfl _ _ rfl base _ cap us rfl Hown.out ⟨vb, 0, none⟩ 1 y rfl (hvb.cell 0) hy (by omega) hbase ?_; intro v' w' hown1 hg1)
      go_ret
      exact ⟨_, rfl, hown1, hg1⟩
    · go_enter Tryz.func40, Tryz.ntmps40
      go_wp2_with (at_builtin; refine append_tup _ rfl _ _ rfl base _ n us rfl Hown.out ⟨vb, 0, none⟩ 1 y rfl (hvb.cell 0) hy (by omega) hbase ?_; intro v' w' hown1 hg1)
      go_ret
      exact ⟨_, rfl, hown1, hg1⟩

theorem tup_sizeOf (w : World) : (Go.sizeOf 25).run Tryz.prog w = .ok 1 w := by
  obtain ⟨i0, hi0, -, hz1, -⟩ := info_parts tups_info
  simp [sizeOf, typeInfo, hi0, hz1]
theorem tup_sz : (Tryz.prog.info? 25).map (·.size) = some 1 := by kernel_rfl

set_option maxRecDepth 100000 in
set_option maxHeartbeats 4000000 in
/-- In the midst, where there is room. -/
theorem insert_room (b n c i vb : Nat) (us : List Value) (y : Value) (cur : Array Value) (w : World) (hi : i < n) (hroom : n + 1 ≤ c) (hc63 : c ≤ maxLen) (hne : vb ≠ b) (hul : us.length = n) (hblk : Blk w b 25 cur) (hcur : cur.size = c)
    (hcs : ∀ j u, us[j]? = some u → w.cell? ⟨b, j, none⟩ = some u) (hvb : Blk w vb 25 #[y]) (h1 : ∀ u ∈ us, u.oneCell' = true) (hy : y.oneCell' = true) :
    Calls Tryz.prog 40 #[.slice (some ⟨b, 0, none⟩) n c, .int .i64 i, .slice (some ⟨vb, 0, none⟩) 1 1] w fun e w' =>
      e = .returned (.slice (some ⟨b, 0, none⟩) (n + 1) c) ∧ w' = (w.drew.setCells b (i + 1) (us.drop i)).setCells b i [y] := by
  unfold maxLen at hc63
  have hsp : ∀ j, j < n + 1 → (w.cell? ⟨b, j, none⟩).isSome = true := fun j hj => by
    rw [hblk.cell j, Array.getElem?_eq_getElem (by omega)]; rfl
  have hfz : ∀ j, w.frozen? ⟨b, j, none⟩ = false := fun j => hblk.frozen j
  have hz2 : ¬ ((i : Int) = (n : Int)) := by omega
  have hov : ∀ lb cb, (callFunc 58 #[.slice (some ⟨vb, 0, none⟩) 1 1, .slice (some ⟨b, i + 1, none⟩) lb cb]).run Tryz.prog w = .ok (.value (.bool false)) w := fun lb cb => by
    rw [run_callFunc_extern Tryz.func58 (by kernel_rfl) (by kernel_rfl) (by kernel_rfl) (e := Extern.SlicesOverlaps.overlaps #[55, 55] #[4]) (by kernel_rfl),
      Lib.run_overlaps_apart w 55 4 25 Tryz.underlying55 1 tup_sizeOf ⟨vb, 0, none⟩ ⟨b, i + 1, none⟩ 1 1 lb cb hne _ _ _ _ (blk_shape hvb) (blk_shape hblk) (by omega) (hvb.frozen 0) (hvb.frozen _)]
    rfl
  have hdl : (us.drop i).length = n - i := by rw [List.length_drop, hul]
  have hw1 : IntKind.i64.wrap ((i : Int) + 1) = (i : Int) + 1 := by rw [IntKind.wrap_i64]; omega
  have hb1 : (0 : Int) ≤ (i : Int) + 1 := by omega
  have hin : i ≤ n := by omega
  have htn : ((i : Int) + 1).toNat = i + 1 := by omega
  have hb2 : ¬ (c = i + 1) := by omega
  have hb3 : (i : Int) ≤ (n : Int) + 1 := by omega
  have hb4 : ¬ (c = i) := by omega
  have hcp1 : ∀ ty dc sc, (Builtin.copy_ #[55, 55] ty #[.slice (some ⟨b, i + 1, none⟩) (n - i) dc, .slice (some ⟨b, i, none⟩) (n + 1 - i) sc]).run Tryz.prog w.drew = .ok (goInt (us.drop i).length) (w.drew.setCells b (i + 1) (us.drop i)) := fun ty dc sc =>
    run_copy_cells w.drew _ _ ty 25 b (i + 1) (n - i) dc ⟨b, i, none⟩ (n + 1 - i) sc (us.drop i) Tryz.underlying55 tup_sz (by rw [hdl]; simp only [Nat.min_def]; split <;> omega)
      (fun j v hj => by rw [Addr.add_lit]; exact hcs (i + j) v (by rwa [List.getElem?_drop] at hj))
      (fun j hj => hsp (i + 1 + j) (by rw [hdl] at hj; omega)) (fun j hj => hfz _) (fun v hv => h1 v (List.mem_of_mem_drop hv))
  obtain ⟨W1, hW1⟩ : ∃ W1, W1 = w.drew.setCells b (i + 1) (us.drop i) := ⟨_, rfl⟩
  have hsp1 : ∀ k, k < n + 1 → (W1.cell? ⟨b, k, none⟩).isSome = true := fun k hk => by
    rw [hW1]
    exact isSome_setCells b (us.drop i) (i + 1) w.drew (fun j hj => hsp (i + 1 + j) (by rw [hdl] at hj; omega)) k (hsp k hk)
  have hcp2 : ∀ (W : World), (∀ x, W.cell? x = W1.cell? x) → (∀ x, W.frozen? x = W1.frozen? x) → ∀ ty dc, (Builtin.copy_ #[55, 55] ty #[.slice (some ⟨b, i, none⟩) (n + 1 - i) dc, .slice (some ⟨vb, 0, none⟩) 1 1]).run Tryz.prog W = .ok (goInt [y].length) (W.setCells b i [y]) := fun W hWc hWf ty dc =>
    run_copy_cells W _ _ ty 25 b i (n + 1 - i) dc ⟨vb, 0, none⟩ 1 1 [y] Tryz.underlying55 tup_sz (by simp only [List.length_singleton, Nat.min_def]; split <;> omega)
      (fun j v hj => by
        rw [Addr.add_lit, hWc, hW1, World.cell?_setCells_out b _ _ _ _ (fun h _ => absurd h hne), Nat.zero_add]
        rcases j with _ | j
        · simp at hj; subst hj; exact hvb.cell 0
        · simp at hj)
      (fun j hj => by rw [hWc]; exact hsp1 _ (by simp at hj; omega)) (fun j hj => by rw [hWf, hW1, World.frozen?_setCells]; exact hfz _) (fun u hu => by rw [List.mem_singleton] at hu; rw [hu]; exact hy)
  rw [← hW1] at hcp1
  clear hblk hcur hcs hvb h1 hsp hfz hsp1
  go_enter Tryz.func40, Tryz.ntmps40
  go_wp2_with (simp only [hov])
  go_region_law (refine step_copy_runI rfl _ _ 55 55 rfl _ _ (by simp [Act.eval, Act.put]) (by simp [Act.eval, Act.put]) (hcp1 _ _ _) ?_)
  go_wp2_with (at_builtin; refine wpList_copy_runI _ rfl _ _ 55 55 rfl _ _ rfl rfl (hcp2 _ (fun _ => rfl) (fun _ => rfl) _ _) ?_)
  go_ret
  first | exact ⟨rfl, rfl⟩ | exact ⟨rfl, by rw [hW1]⟩

end Go.Proofs.YtelememdhpncgaaGreatDoor

/-
  Walk: slices.Insert of one tuple into a row of tuples of the call's own: where there is no room; all roads together.
-/
namespace Go.Proofs.YtelememdhpncgaaGreatDoor
open Go.RowKit Go.Lib

/-- The cells behind both stores. -/
theorem ins_cells {W : World} {b n i : Nat} {us : List Value} {y : Value} (hi : i ≤ n) (hul : us.length = n) (hsp : ∀ j, j < n + 1 → (W.cell? ⟨b, j, none⟩).isSome = true) (hlo : ∀ j u, j < i → us[j]? = some u → W.cell? ⟨b, j, none⟩ = some u) :
    (∀ j u, (us.take i ++ y :: us.drop i)[j]? = some u → ((W.setCells b (i + 1) (us.drop i)).setCells b i [y]).cell? ⟨b, j, none⟩ = some u) ∧
    (∀ W2 : World, (∀ x, W2.cell? x = (W.setCells b i [y]).cell? x) → ∀ j u, (us.take i ++ y :: us.drop i)[j]? = some u → (W2.setCells b (i + 1) (us.drop i)).cell? ⟨b, j, none⟩ = some u) := by
  have hdl : (us.drop i).length = n - i := by rw [List.length_drop, hul]
  constructor
  · intro j u h
    rcases ins_at (by omega) h with ⟨h1, h2⟩ | ⟨rfl, rfl⟩ | ⟨h1, h2⟩
    · rw [World.cell?_setCells_out b _ _ _ ⟨b, j, none⟩ (fun _ _ => .inl h1), World.cell?_setCells_out b _ _ _ ⟨b, j, none⟩ (fun _ _ => .inl (show j < i + 1 by omega))]
      exact hlo j u h1 h2
    · have := World.cell?_setCells_in b [u] j (W.setCells b (j + 1) (us.drop j)) (fun k hk => by
        simp at hk; subst hk
        exact isSome_setCells b _ _ _ (fun q hq => hsp _ (by omega)) _ (hsp _ (by omega))) 0 (by simp)
      simpa using this
    · rw [World.cell?_setCells_out b _ _ _ ⟨b, j, none⟩ (fun _ _ => .inr (by simp; omega))]
      have hq : j - (i + 1) < (us.drop i).length := (List.getElem?_eq_some_iff.1 h2).1
      have := World.cell?_setCells_in b (us.drop i) (i + 1) W (fun k hk => hsp _ (by omega)) (j - (i + 1)) hq
      rw [show i + 1 + (j - (i + 1)) = j by omega] at this
      rw [this, ← h2, List.getElem?_eq_getElem hq]
  · intro W2 hW2 j u h
    rcases ins_at (by omega) h with ⟨h1, h2⟩ | ⟨rfl, rfl⟩ | ⟨h1, h2⟩
    · rw [World.cell?_setCells_out b _ _ _ ⟨b, j, none⟩ (fun _ _ => .inl (show j < i + 1 by omega)), hW2, World.cell?_setCells_out b _ _ _ ⟨b, j, none⟩ (fun _ _ => .inl h1)]
      exact hlo j u h1 h2
    · rw [World.cell?_setCells_out b _ _ _ ⟨b, j, none⟩ (fun _ _ => .inl (show j < j + 1 by omega)), hW2]
      have := World.cell?_setCells_in b [u] j W (fun k hk => by simp at hk; subst hk; exact hsp _ (by omega)) 0 (by simp)
      simpa using this
    · have hq : j - (i + 1) < (us.drop i).length := (List.getElem?_eq_some_iff.1 h2).1
      have := World.cell?_setCells_in b (us.drop i) (i + 1) W2 (fun k hk => by rw [hW2]; exact isSome_setCells b _ _ _ (fun q hq => by simp at hq; subst hq; exact hsp _ (by omega)) _ (hsp _ (by omega))) (j - (i + 1)) hq
      rw [show i + 1 + (j - (i + 1)) = j by omega] at this
      rw [this, ← h2, List.getElem?_eq_getElem hq]

set_option maxRecDepth 100000 in
set_option maxHeartbeats 4000000 in
/-- In the midst, where there is no room: a new row. -/
theorem insert_grow (b n c i vb base : Nat) (us : List Value) (y : Value) (w : World) (hi : i < n) (hnc : n ≤ c) (hroom : c < n + 1) (hn : n ≤ 1000000) (hul : us.length = n) (hbw : b < w.heap.size) (hbase : base ≤ w.heap.size)
    (hcs : ∀ j u, us[j]? = some u → w.cell? ⟨b, j, none⟩ = some u) (hvb : Blk w vb 25 #[y]) (h1 : ∀ u ∈ us, u.oneCell' = true) (hy : y.oneCell' = true) :
    Calls Tryz.prog 40 #[.slice (some ⟨b, 0, none⟩) n c, .int .i64 i, .slice (some ⟨vb, 0, none⟩) 1 1] w fun e w' => ∃ v', e = .returned v' ∧ w'.ownsRow base 25 1 v' (n + 1) (us.take i ++ y :: us.drop i) ∧ w.grownBy w' none := by
  obtain ⟨i0, hi0, hz0, hzs, hzb⟩ := info_parts tups_info
  have hz2 : ¬ ((i : Int) = (n : Int)) := by omega
  have hz3 : (c : Int) < (n : Int) + 1 := by omega
  have hvw : vb < w.heap.size := hvb.lt
  have hkk : (n : Int) + 1 - (i : Int) = ((n + 1 - i : Nat) : Int) := by omega
  have hik : i + (n + 1 - i) = n + 1 := by omega
  have hold : (Builtin.firstCells i0.size i (.slice (some ⟨b, 0, none⟩) i c)).run Tryz.prog w.drew = .ok (us.take i).toArray w.drew := by
    rw [hzs]
    exact run_firstCells_some w.drew 1 i ⟨b, 0, none⟩ i c (us.take i) (by rw [List.length_take]; omega) (fun j v hj => by
      rw [Addr.add_lit, Nat.zero_add]
      rw [List.getElem?_take] at hj
      split at hj
      · exact hcs j v hj
      · cases hj)
  have hrz : ∀ ty, (Builtin.append_ #[55, 3] ty #[.slice (some ⟨b, 0, none⟩) i c, .int .i64 ((n : Int) + 1 - (i : Int))]).run Tryz.prog w =
      .ok (.slice (some ⟨w.heap.size, 0, none⟩) (n + 1) (grownCap w (n + 1) c 25)) (w.drew.alloc (.cells ((us.take i).toArray ++ Builtin.zeroCells (Value.slice none 0 0).cells (n + 1 - i) ++ Builtin.zeroCells (Value.slice none 0 0).cells (grownCap w (n + 1) c 25 - (n + 1))) 25)) := fun ty => by
    have h := Lib.run_append_grow_zeros w 55 3 ty 25 i0 _ .i64 .i64 Tryz.underlying55 Tryz.underlying3 hi0 hz0 (some ⟨b, 0, none⟩) i c (us.take i) hold (n + 1 - i) (by omega) (by omega) (by omega) (by omega) (by rw [hzb]; omega) (by rw [hzb, hik]; exact growslice_fits hroom (by omega))
    rw [hik] at h
    rw [hkk]
    exact h
  obtain ⟨G, hG⟩ : ∃ G, G = grownCap w (n + 1) c 25 := ⟨_, rfl⟩
  obtain ⟨ROW, hROW⟩ : ∃ ROW : Array Value, ROW = (us.take i).toArray ++ Builtin.zeroCells (Value.slice none 0 0).cells (n + 1 - i) ++ Builtin.zeroCells (Value.slice none 0 0).cells (G - (n + 1)) := ⟨_, rfl⟩
  rw [← hG] at hrz
  rw [← hROW] at hrz
  have hGn : n + 1 ≤ G := by rw [hG]; exact grownCap_ge w _ _ _
  have hRs : ROW.size = G := by
    rw [hROW]
    simp [Builtin.zeroCells, Value.cells]
    omega
  have hRlo : ∀ j u, j < i → us[j]? = some u → ROW[j]? = some u := fun j u hj hu => by
    have hlen : (us.take i).toArray.size = i := by rw [List.size_toArray, List.length_take]; omega
    rw [hROW, Array.getElem?_append_left (by rw [Array.size_append]; omega), Array.getElem?_append_left (by omega)]
    rw [List.getElem?_toArray, List.getElem?_take, if_pos hj]; exact hu
  have hGm : G ≤ maxLen := by rw [hG]; exact grownCap_le_maxLen w (n + 1) c _ (by unfold maxLen; omega)
  have hG63 : G ≤ 9223372036854775807 := by unfold maxLen at hGm; omega
  obtain ⟨W1, hW1⟩ : ∃ W1, W1 = w.drew.alloc (.cells ROW 25) := ⟨_, rfl⟩
  rw [← hW1] at hrz
  have hb1 : Blk W1 w.heap.size 25 ROW := by rw [hW1]; exact Blk.new w.drew 25 ROW
  have hN : ∀ j, j < n + 1 → (W1.cell? ⟨w.heap.size, j, none⟩).isSome = true := fun j hj => by rw [hb1.cell j, Array.getElem?_eq_getElem (by omega)]; rfl
  have hNf : ∀ j, W1.frozen? ⟨w.heap.size, j, none⟩ = false := fun j => hb1.frozen j
  have hOb : ∀ j v, w.cell? ⟨b, j, none⟩ = some v → W1.cell? ⟨b, j, none⟩ = some v := fun j v h => by rw [hW1, World.cell?_alloc_past (w := w.drew) _ b j hbw]; exact h
  have hOv : W1.cell? ⟨vb, 0, none⟩ = some y := by rw [hW1, World.cell?_alloc_past (w := w.drew) _ vb 0 hvw]; exact hvb.cell 0
  have hcpA : ∀ (W : World), (∀ x, W.cell? x = W1.cell? x) → (∀ x, W.frozen? x = W1.frozen? x) → ∀ ty dc, (Builtin.copy_ #[55, 55] ty #[.slice (some ⟨w.heap.size, i, none⟩) (n + 1 - i) dc, .slice (some ⟨vb, 0, none⟩) 1 1]).run Tryz.prog W = .ok (goInt [y].length) (W.setCells w.heap.size i [y]) := fun W hWc hWf ty dc =>
    run_copy_cells W _ _ ty 25 w.heap.size i (n + 1 - i) dc ⟨vb, 0, none⟩ 1 1 [y] Tryz.underlying55 tup_sz (by simp only [List.length_singleton, Nat.min_def]; split <;> omega)
      (fun j v hj => by
        rw [Addr.add_lit, hWc, Nat.zero_add]
        rcases j with _ | j
        · simp at hj; subst hj; exact hOv
        · simp at hj)
      (fun j hj => by rw [hWc]; exact hN _ (by simp at hj; omega)) (fun j hj => by rw [hWf]; exact hNf _) (fun u hu => by rw [List.mem_singleton] at hu; rw [hu]; exact hy)
  have hGi : ¬ (G = i) := by omega
  have hGim : ¬ (G = i + 1) := by omega
  have hci : ¬ (c = i) := by omega
  have hbN : b ≠ w.heap.size := by omega
  have hdl : (us.drop i).length = n - i := by rw [List.length_drop, hul]
  have hcpB : ∀ (W : World), (∀ x, W.cell? x = (W1.setCells w.heap.size i [y]).cell? x) → (∀ x, W.frozen? x = (W1.setCells w.heap.size i [y]).frozen? x) → ∀ ty dc sc, (Builtin.copy_ #[55, 55] ty #[.slice (some ⟨w.heap.size, i + 1, none⟩) (n - i) dc, .slice (some ⟨b, i, none⟩) (n - i) sc]).run Tryz.prog W = .ok (goInt (us.drop i).length) (W.setCells w.heap.size (i + 1) (us.drop i)) := fun W hWc hWf ty dc sc =>
    run_copy_cells W _ _ ty 25 w.heap.size (i + 1) (n - i) dc ⟨b, i, none⟩ (n - i) sc (us.drop i) Tryz.underlying55 tup_sz (by rw [hdl]; simp only [Nat.min_def]; split <;> omega)
      (fun j v hj => by
        rw [Addr.add_lit, hWc, World.cell?_setCells_out _ _ _ _ _ (fun h _ => absurd h hbN)]
        exact hOb _ v (hcs (i + j) v (by rwa [List.getElem?_drop] at hj)))
      (fun j hj => by rw [hWc]; exact isSome_setCells _ _ _ _ (fun t ht => hN _ (by simp at ht; omega)) _ (hN _ (by omega)))
      (fun j hj => by rw [hWf, World.frozen?_setCells]; exact hNf _) (fun v hv => h1 v (List.mem_of_mem_drop hv))
  have hbD : Blk (w.alloc (.cells ROW 25)).drew w.heap.size 25 ROW := (Blk.new w 25 ROW).drew
  have hic := ins_cells (W := (w.alloc (.cells ROW 25)).drew) (b := w.heap.size) (y := y) (Nat.le_of_lt hi) hul (fun j hj => by rw [hbD.cell j, Array.getElem?_eq_getElem (by omega)]; rfl) (fun j u hj hu => by rw [hbD.cell j]; exact hRlo j u hj hu)
  have hfin : ((((w.alloc (.cells ROW 25)).drew.setCells w.heap.size i [y]).drew).setCells w.heap.size (i + 1) (us.drop i)).ownsRow base 25 1 (.slice (some ⟨w.heap.size, 0, none⟩) (n + 1) G) (n + 1) (us.take i ++ y :: us.drop i) := by
    have hk1 : Blk (w.alloc (.cells ROW 25)).drew w.heap.size 25 ROW := (Blk.new w 25 ROW).drew
    obtain ⟨c1, hk2, hs2⟩ := blk_setCells w.heap.size 25 [y] i _ _ hk1
    obtain ⟨c2, hk3, hs3⟩ := blk_setCells w.heap.size 25 (us.drop i) (i + 1) _ _ hk2.drew
    refine own_of_cells hbase hk3 hGn hGm (by omega) (by simp; omega) (fun j u hu => ?_)
    exact hic.2 (((w.alloc (.cells ROW 25)).drew.setCells w.heap.size i [y]).drew) (fun _ => rfl) j u hu
  have hgr : w.grownBy ((((w.alloc (.cells ROW 25)).drew.setCells w.heap.size i [y]).drew).setCells w.heap.size (i + 1) (us.drop i)) none := by
    have g1 : w.grownBy (w.alloc (.cells ROW 25)) (some w.heap.size) := World.grownBy_alloc w _ _
    have g2 := grown_trans g1 (grown_trans (grown_drewN _ 1 _) (grown_trans (grown_setCells w.heap.size [y] i _) (grown_trans (grown_drewN _ 1 _) (grown_setCells w.heap.size (us.drop i) (i + 1) _))))
    exact ⟨g2.os, g2.tape, g2.output, g2.size, fun k hk _ => g2.block k hk (fun e => by injection e with e; omega)⟩
  subst hW1
  have hE1 : ∀ x, ((w.alloc (.cells ROW 25)).drew).cell? x = (w.drew.alloc (.cells ROW 25)).cell? x := fun x => rfl
  have hE2 : ∀ x, ((w.alloc (.cells ROW 25)).drew).frozen? x = (w.drew.alloc (.cells ROW 25)).frozen? x := fun x => rfl
  have hF1 : ∀ x, (((w.alloc (.cells ROW 25)).drew.setCells w.heap.size i [y]).drew).cell? x = ((w.drew.alloc (.cells ROW 25)).setCells w.heap.size i [y]).cell? x := fun x => rfl
  have hF2 : ∀ x, (((w.alloc (.cells ROW 25)).drew.setCells w.heap.size i [y]).drew).frozen? x = ((w.drew.alloc (.cells ROW 25)).setCells w.heap.size i [y]).frozen? x := fun x => rfl
  have hw1 : IntKind.i64.wrap ((i : Int) + 1) = (i : Int) + 1 := by rw [IntKind.wrap_i64]; omega
  have hb1' : (0 : Int) ≤ (i : Int) + 1 := by omega
  have hin : i ≤ n := by omega
  have htn : ((i : Int) + 1).toNat = i + 1 := by omega
  have hb3 : (i : Int) ≤ (n : Int) := by omega
  have Hfin := Lib.hid hfin
  have Hgr := Lib.hid hgr
  clear hkk hik hold hROW hG hRs hRlo hic hbD hb1 hN hNf hOb hOv hfin hgr hcs h1 hGm
  go_enter Tryz.func40, Tryz.ntmps40
  go_wp2_with (first
    | (at_builtin; refine Lib.wpList_append_run _ rfl _ _ _ _ rfl _ _ rfl rfl _ _ (hrz _) ?_)
    | (at_builtin; refine wpList_copy_runI _ rfl _ _ 55 55 rfl _ _ rfl rfl (hcpA _ hE1 hE2 _ _) ?_)
    | (at_builtin; refine wpList_copy_runI _ rfl _ _ 55 55 rfl _ _ rfl rfl (hcpB _ (fun _ => rfl) (fun _ => rfl) _ _ _) ?_))
  go_region_law (refine step_copy_runI rfl _ _ 55 55 rfl (.slice (some ⟨w.heap.size, i + 1, none⟩) (n - i) (G - (i + 1))) (.slice (some ⟨b, i, none⟩) (n - i) (c - i)) (by simp [Act.eval, Act.put]) (by simp [Act.eval, Act.put]) (hcpB _ hF1 hF2 3 (G - (i + 1)) (c - i)) ?_)
  go_wp2
  go_ret
  exact ⟨_, rfl, Hfin.out, Hgr.out⟩

/-- All roads. -/
theorem insert_any (v : Value) (n i : Nat) (us : List Value) (base : Nat) (w : World) (hi : i ≤ n) (hown : w.ownsRow base 25 1 v n us) (h1 : ∀ u ∈ us, u.oneCell' = true) (vb : Nat) (y : Value) (hvb : Blk w vb 25 #[y]) (hne : v.ownBlock ≠ some vb) (hy : y.oneCell' = true) (hn : n ≤ 1000000) (hbase : base ≤ w.heap.size) :
    Calls Tryz.prog 40 #[v, .int .i64 i, .slice (some ⟨vb, 0, none⟩) 1 1] w fun e w' => ∃ v', e = .returned v' ∧ w'.ownsRow base 25 1 v' (n + 1) (us.take i ++ y :: us.drop i) ∧ w.grownBy w' v.ownBlock := by
  have hul : us.length = n := by have := hown.1; omega
  by_cases hin : i = n
  · subst hin
    rw [List.take_of_length_le (by omega), List.drop_of_length_le (by omega)]
    exact insert_end v i us base w hown vb y hvb hy hn hbase
  · have hown' := hown
    rcases hown'.2 with ⟨rfl, rfl⟩ | ⟨g, cap, cur, rfl, hbg, hh, hnc, hcm, hcs, htk⟩
    · omega
    · have hblk : Blk w g 25 cur := hh
      have hcell : ∀ j u, us[j]? = some u → w.cell? ⟨g, j, none⟩ = some u := fun j u hu => by
        have := hown.cells (g := g) rfl j u hu
        rwa [Addr.add_lit, Nat.zero_add] at this
      by_cases hroom : n + 1 ≤ cap
      · refine (insert_room g n cap i vb us y cur w (by omega) hroom hcm (fun e => hne (by rw [e]; rfl)) hul hblk (by omega) hcell hvb h1 hy).mono ?_
        rintro e w' ⟨rfl, rfl⟩
        obtain ⟨c1, hk2, hs2⟩ := blk_setCells g 25 (us.drop i) (i + 1) _ _ hblk.drew
        obtain ⟨c2, hk3, hs3⟩ := blk_setCells g 25 [y] i _ _ hk2
        refine ⟨_, rfl, own_of_cells hbg hk3 hroom hcm (by omega) (by simp; omega) (ins_cells (W := w.drew) (by omega) hul (fun j hj => ?_) (fun j u _ hu => hcell j u hu)).1, ?_⟩
        · show (w.cell? ⟨g, j, none⟩).isSome = true
          rw [hblk.cell j, Array.getElem?_eq_getElem (by omega)]; rfl
        · exact grown_trans (grown_drewN w 1 (some g)) (grown_trans (grown_setCells g _ _ _) (grown_setCells g _ _ _))
      · refine (insert_grow g n cap i vb base us y w (by omega) hnc (by omega) hn hul hblk.lt hbase hcell hvb h1 hy).mono ?_
        rintro e w' ⟨v', rfl, ho, hg⟩
        exact ⟨v', rfl, ho, ⟨hg.os, hg.tape, hg.output, hg.size, fun k hk _ => hg.block k hk (by simp)⟩⟩

end Go.Proofs.YtelememdhpncgaaGreatDoor

/-
  Walk: slices.Delete of one tuple out of a row of tuples of the call's own.
-/
namespace Go.Proofs.YtelememdhpncgaaGreatDoor
open Go.RowKit Go.Lib

theorem zero_tup (w : World) : (zeroValue 25).run Tryz.prog w = .ok (.slice none 0 0) w := by kernel_rfl

set_option maxHeartbeats 4000000 in
set_option maxRecDepth 1000000 in
theorem delete_cells (blk off cap n i j : Nat) (us : List Value) (w : World) (hul : us.length = n) (hH : ∀ k u, us[k]? = some u → w.cell? ⟨blk, off + k, none⟩ = some u) (hF : ∀ k, w.frozen? ⟨blk, k, none⟩ = false) (h1 : ∀ u ∈ us, u.oneCell' = true)
    (hcap : n ≤ cap) (hm : cap ≤ 9223372036854775807) (hij : i < j) (hj : j ≤ n) :
    Calls Tryz.prog 42 #[.slice (some ⟨blk, off, none⟩) n cap, .int .i64 i, .int .i64 j] w fun e w' => e = .returned (.slice (some ⟨blk, off, none⟩) (i + (n - j)) cap) ∧
      w' = (w.drew.setCells blk (off + i * 1) (us.drop j)).setCells blk (off + (i + (n - j))) (List.replicate (n - (i + (n - j))) (.slice none 0 0)) := by
  obtain ⟨i0, hi0, hz0, hz1, hz2⟩ := info_parts tups_info
  obtain ⟨news, hnews⟩ : ∃ news, news = us.drop j := ⟨_, rfl⟩
  have hlen : news.length = n - j := by rw [hnews]; simp; omega
  have hsome : ∀ k, k < n → (w.cell? ⟨blk, off + k, none⟩).isSome = true := fun k hk => by rw [hH k us[k] (List.getElem?_eq_getElem (by omega))]; rfl
  obtain ⟨A, hA, hsrc⟩ : ∃ A : Addr, (if cap = j then some (⟨blk, off, none⟩ : Addr) else some ⟨blk, off + j, none⟩) = some A ∧ Hid (∀ t u, news[t]? = some u → w.drew.cell? (A.add t) = some u) := by
    by_cases h : cap = j
    · refine ⟨⟨blk, off, none⟩, by simp [h], fun t u hu => ?_⟩
      have h0 : news.length = 0 := by rw [hlen]; omega
      rw [List.length_eq_zero_iff.1 h0] at hu
      simp at hu
    · refine ⟨⟨blk, off + j, none⟩, by simp [h], fun t u hu => ?_⟩
      rw [hnews, List.getElem?_drop] at hu
      rw [Addr.add_lit, show off + j + t = off + (j + t) by omega]
      exact hH _ u hu
  have s1 : Hid (news.length = (n - j) * 1) := by rw [Nat.mul_one]; exact hlen
  have s2 : Hid (∀ u ∈ news, u.oneCell' = true) := fun u hu => h1 u (List.mem_of_mem_drop (hnews ▸ hu))
  have s3 : Hid (∀ t, t < news.length → (w.drew.cell? ⟨blk, off + i * 1 + t, none⟩).isSome = true ∧ w.drew.frozen? ⟨blk, off + i * 1 + t, none⟩ = false) := by
    intro t ht
    rw [hlen] at ht
    rw [Nat.mul_one, Nat.add_assoc]
    exact ⟨hsome _ (by omega), hF _⟩
  obtain ⟨W1, hW1⟩ : ∃ W1, W1 = w.drew.setCells blk (off + i * 1) news := ⟨_, rfl⟩
  have hsome1 : ∀ k, k < n → (W1.cell? ⟨blk, off + k, none⟩).isSome = true := fun k hk => by
    rw [hW1]
    exact isSome_setCells blk _ _ _ (fun t ht => by rw [hlen] at ht; rw [Nat.mul_one, Nat.add_assoc]; exact hsome _ (by omega)) _ (hsome k hk)
  have hcl : ∀ ty, (Builtin.clear_ #[55] ty #[.slice (some ⟨blk, off + (i + (n - j)), none⟩) (n - (i + (n - j))) (cap - (i + (n - j)))]).run Tryz.prog W1 = .ok (.tuple #[]) (W1.setCells blk (off + (i + (n - j))) (List.replicate (n - (i + (n - j))) (.slice none 0 0))) :=
    fun ty => Lib.run_clear_slice W1 _ _ ty _ Tryz.underlying55 zero_tup rfl rfl blk (off + (i + (n - j))) _ _ (by omega) (fun t ht => by rw [show off + (i + (n - j)) + t = off + (i + (n - j) + t) by omega]; exact hsome1 _ (by omega)) (fun t ht => by rw [hW1, World.frozen?_setCells]; exact hF _)
  have hW : Hid (W1 = w.drew.setCells blk (off + i * 1) news) := hW1
  have hN : Hid (news = us.drop j) := hnews
  have hic : i ≤ cap := by omega
  have hjc : j ≤ cap := by omega
  have hne : ¬ i = j := by omega
  clear hW1 hH hF hnews hlen hsome hsome1 h1
  go_enter Tryz.func42, Tryz.ntmps42
  go_wp2_with fail
  go_region_law (refine step_append_room rfl (.tmp 22) (.tmp 25) 55 rfl 25 i0 1 Tryz.underlying55 hi0 hz1 blk off i cap (by simp [Act.eval, Act.put]) A (n - j) (cap - j) news (by simp [Act.eval, Act.put]) s1.out hsrc.out s2.out (by omega) s3.out ?_; rw [← hW.out])
  go_wp2
  go_ret
  exact ⟨rfl, by rw [hW.out, hN.out]⟩

/-- One element at i. -/
theorem delete_any (v : Value) (n i : Nat) (us : List Value) (base : Nat) (w : World) (hi : i < n) (hown : w.ownsRow base 25 1 v n us) (h1 : ∀ u ∈ us, u.oneCell' = true) :
    Calls Tryz.prog 42 #[v, .int .i64 i, .int .i64 ((i + 1 : Nat) : Int)] w fun e w' => ∃ v', e = .returned v' ∧ w'.ownsRow base 25 1 v' (n - 1) (us.take i ++ us.drop (i + 1)) ∧ w.grownBy w' v.ownBlock := by
  have hul : us.length = n := by have := hown.1; omega
  have hown' := hown
  rcases hown'.2 with ⟨rfl, rfl⟩ | ⟨g, cap, cur, rfl, hbg, hh, hnc, hcm, hcs, htk⟩
  · omega
  · have hblk : Blk w g 25 cur := hh
    have hcell : ∀ j u, us[j]? = some u → w.cell? ⟨g, j, none⟩ = some u := fun j u hu => by
      have := hown.cells (g := g) rfl j u hu
      rwa [Addr.add_lit, Nat.zero_add] at this
    have hm := hcm
    unfold maxLen at hm
    refine (delete_cells g 0 cap n i (i + 1) us w hul (fun k u hu => by rw [Nat.zero_add]; exact hcell k u hu) (fun k => hblk.frozen k) h1 hnc hm (by omega) (by omega)).mono ?_
    rintro e w' ⟨rfl, rfl⟩
    obtain ⟨c1, hk2, hs2⟩ := blk_setCells g 25 (us.drop (i + 1)) (0 + i * 1) _ _ hblk.drew
    obtain ⟨c2, hk3, hs3⟩ := blk_setCells g 25 (List.replicate (n - (i + (n - (i + 1)))) (.slice none 0 0)) (0 + (i + (n - (i + 1)))) _ _ hk2
    have e1 : i + (n - (i + 1)) = n - 1 := by omega
    refine ⟨_, rfl, ?_, grown_trans (grown_drewN w 1 (some g)) (grown_trans (grown_setCells g _ _ _) (grown_setCells g _ _ _))⟩
    rw [e1] at hk3 ⊢
    refine own_of_cells hbg hk3 (by omega) hcm (by omega) (by simp; omega) (fun j u hu => ?_)
    have hjl : j < n - 1 := by
      have := (List.getElem?_eq_some_iff.1 hu).1
      simp at this; omega
    rw [World.cell?_setCells_out g _ _ _ ⟨g, j, none⟩ (fun _ _ => .inl (show j < 0 + (n - 1) by omega))]
    have htl : (us.take i).length = i := by rw [List.length_take]; omega
    by_cases hji : j < i
    · rw [List.getElem?_append_left (by omega), List.getElem?_take, if_pos hji] at hu
      rw [World.cell?_setCells_out g _ _ _ ⟨g, j, none⟩ (fun _ _ => .inl (show j < 0 + i * 1 by omega))]
      exact hcell j u hu
    · rw [List.getElem?_append_right (by omega), htl] at hu
      have hq : j - i < (us.drop (i + 1)).length := (List.getElem?_eq_some_iff.1 hu).1
      have hdl : (us.drop (i + 1)).length = n - (i + 1) := by rw [List.length_drop, hul]
      have := World.cell?_setCells_in g (us.drop (i + 1)) (0 + i * 1) w.drew (fun k hk => by
        show (w.cell? _).isSome = true
        rw [hblk.cell, Array.getElem?_eq_getElem (by omega)]; rfl) (j - i) hq
      rw [show 0 + i * 1 + (j - i) = j by omega] at this
      rw [this, ← hu, List.getElem?_eq_getElem hq]

end Go.Proofs.YtelememdhpncgaaGreatDoor
