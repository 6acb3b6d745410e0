/-
  Texts joined: Put, Perms, Permf, Copya.
-/
import Derived.Test.YtelememdhpncgaaGreatDoorJo13
import Derived.Deep.CutRange
import Derived.Deep.RegionLaw
import Derived.Test.YtelememdhpncgaaGreatDoorJo7
import Derived.Test.YtelememdhpncgaaGreatDoorJo1
import Derived.Test.YtelememdhpncgaaGreatDoorJo12

/-
  Walk: shape.Put.
-/
namespace Go.Proofs.YtelememdhpncgaaGreatDoor
open Go.RowKit

set_option maxRecDepth 100000 in
set_option maxHeartbeats 400000 in
theorem put_bad (size : Int) (v : Value) (rs : List Sh.Rel) (nm : ByteArray) (u : Value) (t : List Int) (is : Bool) (w : World) (B : Nat) (hB : B ≤ w.heap.size) (h : Rels w B v rs) (ht : Ints w B u t) (he : (Sh.relForE ⟨size, rs⟩ nm.toList t.length).2 ≠ 0) :
    Calls Tryz.prog 14 #[.agg #[.int .i64 size, v], .string nm, u, .bool is] w fun e w' => e = .returned (.tuple #[.agg #[.int .i64 0, .slice none 0 0], .int .i64 (Sh.relForE ⟨size, rs⟩ nm.toList t.length).2]) ∧ Below w.heap.size w w' := by
  have h' := h
  obtain ⟨A, len, c, rfl, -⟩ := h'
  have ht' := ht
  obtain ⟨TA, TN, TC, rfl, -⟩ := ht'
  have hb2 := ((Below.refl w.heap.size w).alloc (Nat.le_refl _) (.cells #[.int .i64 size, .slice A len c] 24)).alloc (by simp) (.cells #[.int .i64 0, .slice none 0 0] 24)
  have hcall := relationFor_any size (.slice A len c) rs nm (.slice TA TN TC) t _ B (Nat.le_trans hB hb2.size) (h.below (hb2.mono hB)) (ht.below (hb2.mono hB))
  have hz := Blk.new (w.alloc (.cells #[.int .i64 size, .slice A len c] 24)) 24 #[.int .i64 0, .slice none 0 0]
  rw [World.size_alloc] at hz
  generalize Sh.relForE ⟨size, rs⟩ nm.toList t.length = re at *
  obtain ⟨i, e⟩ := re
  simp only at hcall he ⊢
  have Hcall := Lib.hid hcall; clear hcall
  have Hz := Lib.hid hz; clear hz
  have Hb2 := Lib.hid hb2; clear hb2
  have hne : (e == 0) = false := by simpa using he
  have hne' : (e != 0) = true := by simpa using he
  clear he
  go_enter Tryz.func14, Tryz.ntmps14
  go_wp2_with (go_at_call 37
               refine Hcall.out.mono ?_
               rintro e w9 ⟨rfl, hb9⟩
               have hz9 := Hz.out.below hb9 (by simp)
               have hzc0 : w9.cell? ⟨w.heap.size + 1, 0, none⟩ = some (.int .i64 0) := hz9.cell 0
               have hzc1 : w9.cell? ⟨w.heap.size + 1, 1, none⟩ = some (.slice none 0 0) := hz9.cell 1
               have hzf0 := hz9.frozen 0
               have hzf1 := hz9.frozen 1)
  refine bodyPost_ret (v := .tuple #[.agg #[.int .i64 0, .slice none 0 0], .int .i64 e]) (by simp [results, Tryz.results14, go_sem, hzc0, hzc1]) rfl ?_
  exact ⟨rfl, ((Hb2.out.trans (hb9.mono (by simp; omega))).setCell (by simp) _).setCell (by simp) _⟩

set_option maxRecDepth 100000 in
set_option maxHeartbeats 400000 in
theorem put_arg (size : Int) (v : Value) (rs : List Sh.Rel) (nm : ByteArray) (u : Value) (t : List Int) (is : Bool) (w : World) (B : Nat) (hB : B ≤ w.heap.size) (h : Rels w B v rs) (ht : Ints w B u t) (he : (Sh.relForE ⟨size, rs⟩ nm.toList t.length).2 = 0) (hin : Sh.inB size t = false) :
    Calls Tryz.prog 14 #[.agg #[.int .i64 size, v], .string nm, u, .bool is] w fun e w' => e = .returned (.tuple #[.agg #[.int .i64 0, .slice none 0 0], .int .i64 2]) ∧ Below w.heap.size w w' := by
  have h' := h
  obtain ⟨A, len, c, rfl, -⟩ := h'
  have ht' := ht
  obtain ⟨TA, TN, TC, rfl, -⟩ := ht'
  have hb2 := ((Below.refl w.heap.size w).alloc (Nat.le_refl _) (.cells #[.int .i64 size, .slice A len c] 24)).alloc (by simp) (.cells #[.int .i64 0, .slice none 0 0] 24)
  have hcall := relationFor_any size (.slice A len c) rs nm (.slice TA TN TC) t _ B (Nat.le_trans hB hb2.size) (h.below (hb2.mono hB)) (ht.below (hb2.mono hB))
  have hs := (Blk.new w 24 #[.int .i64 size, .slice A len c]).alloc (.cells #[.int .i64 0, .slice none 0 0] 24)
  have hz := Blk.new (w.alloc (.cells #[.int .i64 size, .slice A len c] 24)) 24 #[.int .i64 0, .slice none 0 0]
  rw [World.size_alloc] at hz
  have hel := fun W (hW : Below w.heap.size w W) => elements_any (.slice TA TN TC) t size W B (ht.below (hW.mono hB))
  rw [hin] at hel
  generalize Sh.relForE ⟨size, rs⟩ nm.toList t.length = re at *
  obtain ⟨i, e⟩ := re
  simp only at hcall he
  subst he
  have Hcall := Lib.hid hcall; clear hcall
  have Hel := Lib.hid hel; clear hel
  have Hs := Lib.hid hs; clear hs
  have Hz := Lib.hid hz; clear hz
  have Hb2 := Lib.hid hb2; clear hb2
  have Hin := Lib.hid hin; clear hin
  go_enter Tryz.func14, Tryz.ntmps14
  go_wp2_with (first
    | (go_at_call 37
       refine Hcall.out.mono ?_
       rintro e w9 ⟨rfl, hb9⟩
       have hz9 := Hz.out.below hb9 (by simp)
       have hs9 := Hs.out.below hb9 (by simp; omega)
       have hs0 : w9.cell? ⟨w.heap.size, 0, none⟩ = some (.int .i64 size) := hs9.cell 0
       have hzc0 : w9.cell? ⟨w.heap.size + 1, 0, none⟩ = some (.int .i64 0) := hz9.cell 0
       have hzc1 : w9.cell? ⟨w.heap.size + 1, 1, none⟩ = some (.slice none 0 0) := hz9.cell 1
       have hzf0 := hz9.frozen 0
       have hzf1 := hz9.frozen 1
       have Hb9 := Lib.hid (Hb2.out.trans (hb9.mono (by simp; omega)))
       clear hb9)
    | (go_at_call 38; refine (Hel.out _ Hb9.out).mono ?_; rintro e w' ⟨rfl, rfl⟩))
  refine bodyPost_ret (v := .tuple #[.agg #[.int .i64 0, .slice none 0 0], .int .i64 2]) (by simp [results, Tryz.results14, go_sem, hzc0, hzc1]) rfl ?_
  exact ⟨rfl, (Hb9.out.setCell (by simp) _).setCell (by simp) _⟩

set_option maxRecDepth 100000 in
set_option maxHeartbeats 2000000 in
theorem put_ok (size : Int) (v : Value) (rs : List Sh.Rel) (nm : ByteArray) (u : Value) (t : List Int) (is : Bool) (k : Nat) (r : Sh.Rel) (w : World) (B : Nat) (hB : B ≤ w.heap.size) (h : Rels w B v rs) (ht : Ints w B u t) (hvb : Sh.validB ⟨size, rs⟩ = true) (he : Sh.relForE ⟨size, rs⟩ nm.toList t.length = ((k : Int), 0)) (hr : rs[k]? = some r) (har : (t.length : Int) = r.arity) (hin : Sh.inB size t = true) :
    Calls Tryz.prog 14 #[.agg #[.int .i64 size, v], .string nm, u, .bool is] w fun e w' => ∃ x, e = .returned (.tuple #[.agg #[.int .i64 size, x], .int .i64 0]) ∧ NRels w' w.heap.size x (Sh.putR rs k t is) ∧ Below w.heap.size w w' := by
  have h' := h
  obtain ⟨A, len, c, rfl, hlen, -⟩ := h'
  have ht' := ht
  obtain ⟨TA, TN, TC, rfl, htn, -⟩ := ht'
  have hb2 := ((Below.refl w.heap.size w).alloc (Nat.le_refl _) (.cells #[.int .i64 size, .slice A len c] 24)).alloc (by simp) (.cells #[.int .i64 0, .slice none 0 0] 24)
  have hcall := relationFor_any size (.slice A len c) rs nm (.slice TA TN TC) t _ B (Nat.le_trans hB hb2.size) (h.below (hb2.mono hB)) (ht.below (hb2.mono hB))
  rw [he] at hcall
  simp only at hcall
  have hs := (Blk.new w 24 #[.int .i64 size, .slice A len c]).alloc (.cells #[.int .i64 0, .slice none 0 0] 24)
  have hz := Blk.new (w.alloc (.cells #[.int .i64 size, .slice A len c] 24)) 24 #[.int .i64 0, .slice none 0 0]
  rw [World.size_alloc] at hz
  have hel := fun W (hW : Below w.heap.size w W) => elements_any (.slice TA TN TC) t size W B (ht.below (hW.mono hB))
  rw [hin] at hel
  have hv8 := (Sh.validB_size hvb).2.2
  simp only at hv8
  have hsmall : ∀ r ∈ rs, r.tuples.length ≤ 1000000 ∧ ∀ t ∈ r.tuples, t.length ≤ 1000000 := fun r hm => by
    obtain ⟨j, hj, rfl⟩ := List.mem_iff_getElem.1 hm
    have hs := Sh.relB_small (Sh.validB_rel hvb (List.getElem?_eq_getElem hj))
    exact ⟨by have := hs.1; omega, fun t ht => by have := hs.2 t ht; omega⟩
  have hcopy := fun W (hW : Below w.heap.size w W) => copyof_own size (.slice A len c) rs W B (Nat.le_trans hB hW.size) (h.below (hW.mono hB)) (by omega) hsmall
  have hkl : k < rs.length := (List.getElem?_eq_some_iff.1 hr).1
  have hrb := Sh.validB_rel hvb hr
  have hmono := (Sh.relB_rising hrb).mono t
  have hlt12 := (Sh.relB_small hrb).1
  have htlen : t.length ≤ 12 := by
    obtain ⟨a, b, -, e2, hb, -, -⟩ := Sh.relB_arity hrb
    omega
  have Hcall := Lib.hid hcall; clear hcall
  have Hel := Lib.hid hel; clear hel
  have Hs := Lib.hid hs; clear hs
  have Hz := Lib.hid hz; clear hz
  have Hb2 := Lib.hid hb2; clear hb2
  have Hin := Lib.hid hin; clear hin
  have Hcopy := Lib.hid hcopy; clear hcopy hsmall
  have Hlen := Lib.hid hlen; clear hlen
  have Htn := Lib.hid htn; clear htn
  have Hr := Lib.hid hr; clear hr
  have Hmono := Lib.hid hmono; clear hmono
  have Hrb := Lib.hid hrb; clear hrb
  clear he hvb har

  go_enter Tryz.func14, Tryz.ntmps14
  go_upto_region 7 with (first
    | (go_at_call 37
       refine Hcall.out.mono ?_
       rintro e w1 ⟨rfl, hb1⟩
       have hs1 := Hs.out.below hb1 (by simp; omega)
       have hs0 : w1.cell? ⟨w.heap.size, 0, none⟩ = some (.int .i64 size) := hs1.cell 0
       have hs01 : w1.cell? ⟨w.heap.size, 1, none⟩ = some (.slice A len c) := hs1.cell 1
       have Hz1 := Lib.hid (Hz.out.below hb1 (by simp))
       have Hs1 := Lib.hid hs1
       have Hb1 := Lib.hid (Hb2.out.trans (hb1.mono (by simp; omega)))
       clear hb1 hs1)
    | (go_at_call 38; refine (Hel.out _ Hb1.out).mono ?_; rintro e w' ⟨rfl, rfl⟩)
    | (go_at_call 33
       refine (Hcopy.out _ Hb1.out).mono ?_
       rintro e w2 ⟨x, rfl, hox, hb2⟩
       have hs2 := Hs1.out.below hb2 Hs1.out.lt
       have hs20 : w2.cell? ⟨w.heap.size, 0, none⟩ = some (.int .i64 size) := hs2.cell 0
       have hs21 : w2.cell? ⟨w.heap.size, 1, none⟩ = some (.slice A len c) := hs2.cell 1
       have hsf0 := hs2.frozen 0
       have hsf1 := hs2.frozen 1
       obtain ⟨xs, vs, hxo, hxc, hxr⟩ := hox
       obtain ⟨XA, XC, rfl⟩ := own_slice hxo))
  have hs3 := (hs2.set_ 0 (.int .i64 size)).set_ 1 (.slice XA rs.length XC)
  have hz2 := Hz1.out.below hb2 Hz1.out.lt
  have hz3 := (hz2.far (p := ⟨w.heap.size, 0, none⟩) (show w.heap.size + 1 ≠ w.heap.size by omega) (.int .i64 size)).far (p := ⟨w.heap.size, 1, none⟩) (show w.heap.size + 1 ≠ w.heap.size by omega) (.slice XA rs.length XC)
  have hk3 : Keeps w1.heap.size [3, 25, 57] w2 ((w2.setCell ⟨w.heap.size, 0, none⟩ (.int .i64 size)).setCell ⟨w.heap.size, 1, none⟩ (.slice XA rs.length XC)) :=
    (Keeps.setCell (p := ⟨w.heap.size, 0, none⟩) hs2 (by decide) _).trans (Keeps.setCell (p := ⟨w.heap.size, 1, none⟩) (hs2.set_ 0 (.int .i64 size)) (by decide) _)
  have hxo3 := own_keeps hxo hk3 (Nat.le_refl _) (by simp)
  have hxr3 := hxr.keep (hk3.mono (by simp))
  have hbel3 : Below w.heap.size w ((w2.setCell ⟨w.heap.size, 0, none⟩ (.int .i64 size)).setCell ⟨w.heap.size, 1, none⟩ (.slice XA rs.length XC)) := ((Hb1.out.trans (hb2.mono Hb1.out.size)).setCell (p := ⟨w.heap.size, 0, none⟩) (Nat.le_refl _) _).setCell (p := ⟨w.heap.size, 1, none⟩) (Nat.le_refl _) _
  have hL3 : w1.heap.size ≤ ((w2.setCell ⟨w.heap.size, 0, none⟩ (.int .i64 size)).setCell ⟨w.heap.size, 1, none⟩ (.slice XA rs.length XC)).heap.size := Nat.le_trans hb2.size hk3.1
  have hL1 : w.heap.size + 1 < w1.heap.size := Hz1.out.lt
  clear hs20 hs21 hsf0 hsf1 hs0 hs01 hs2 hz2 hxo hxr hb2 hk3
  generalize ((w2.setCell ⟨w.heap.size, 0, none⟩ (.int .i64 size)).setCell ⟨w.heap.size, 1, none⟩ (.slice XA rs.length XC)) = W3 at *
  generalize w1.heap.size = L at *
  obtain ⟨g, cap, hXA, hLg, hgl⟩ := hxo3.form (by omega)
  injection hXA with hXA _ hcap
  subst hXA hcap
  have hvl : k < vs.length := by have := hxc.2.1; omega
  obtain ⟨vi, hvi⟩ : ∃ x, vs[k]? = some x := ⟨_, List.getElem?_eq_getElem hvl⟩
  obtain ⟨-, -, us, hul, hvo, hve⟩ := hxr3.1 k vi r hvi Hr.out
  have hx2 := (hxc.2.2 k r Hr.out).2.2
  rw [hvi] at hx2
  have hc2 : W3.cell? ⟨g, k * 3 + 2, none⟩ = some vi := by
    have := hxo3.cells (g := g) rfl _ _ hx2
    rwa [Addr.add_lit, Nat.zero_add] at this
  have hgb : ∃ cs, Blk W3 g 57 cs := by
    rcases hxo3.2 with ⟨h, -⟩ | ⟨g2, c2, k2, h, -, hh, -⟩
    · injection h with h _ _; cases h
    · injection h with h _ _
      have := Option.some.inj h
      injection this with this _ _
      subst this
      exact ⟨_, hh⟩
  obtain ⟨cs, hgb⟩ := hgb
  have hgv : some g ≠ vi.ownBlock := fun e => by
    rcases own_types hxo3 hvo (by decide) with h | h
    · cases h
    · exact h e
  have hplace := place_any vi (.slice TA TN TC) r.tuples t W3 W3.heap.size (NTups.own hvo (Nat.le_refl _) (by omega) hul hve).tups ((ht.below (hbel3.mono hB)).more (by have := hbel3.size; omega)) Hmono.out
  have hlb := Sh.lbN_le r.tuples t
  obtain ⟨VA, VC, rfl⟩ := own_slice hvo
  have hti3 := ht.below (hbel3.mono hB)
  have hputd : Sh.putR rs k t is = rs.set k ⟨r.name, r.arity, Sh.putT r.tuples t is⟩ := by
    unfold Sh.putR Sh.putRel
    rw [Sh.getD_get _ _ _ hkl]
    have := Hr.out
    rw [List.getElem?_eq_getElem hkl] at this
    rw [Option.some.inj this]
  have hputt : Sh.putT r.tuples t is = if is = true ∧ Sh.foundB r.tuples t = false then r.tuples.take (Sh.lbN r.tuples t) ++ t :: r.tuples.drop (Sh.lbN r.tuples t) else if is = false ∧ Sh.foundB r.tuples t = true then r.tuples.take (Sh.lbN r.tuples t) ++ r.tuples.drop (Sh.lbN r.tuples t + 1) else r.tuples := rfl
  have hfl : Sh.foundB r.tuples t = true → Sh.lbN r.tuples t < r.tuples.length := fun hh => by
    unfold Sh.foundB at hh
    simp only [Bool.and_eq_true, decide_eq_true_eq] at hh
    exact hh.1
  generalize Sh.lbN r.tuples t = lb at *
  generalize Sh.foundB r.tuples t = fb at *
  have Hplace := Lib.hid hplace; clear hplace
  have Hputd := Lib.hid hputd; clear hputd
  have Hputt := Lib.hid hputt; clear hputt
  have Hfl := Lib.hid hfl; clear hfl
  have Hxc := Lib.hid hxc; clear hxc
  have Hx := Lib.hid hxo3; clear hxo3
  have Hxr := Lib.hid hxr3; clear hxr3
  have Hvi := Lib.hid hvi; clear hvi hx2
  have Hvo := Lib.hid hvo; clear hvo
  have Hul := Lib.hid hul; clear hul
  have Hve := Lib.hid hve; clear hve
  have Hs3 := Lib.hid hs3
  have Hz3 := Lib.hid hz3
  have hs30 : W3.cell? ⟨w.heap.size, 0, none⟩ = some (.int .i64 size) := hs3.cell 0
  have hs31 : W3.cell? ⟨w.heap.size, 1, none⟩ = some (.slice (some ⟨g, 0, none⟩) rs.length XC) := hs3.cell 1
  clear hs3 hz3
  have hone := elems_one Hve.out Hul.out
  have Hone := Lib.hid hone; clear hone
  have Hgv := Lib.hid hgv; clear hgv
  cases is <;> cases fb
  · have Hp := Lib.hid (Hputd.out.trans (by rw [Hputt.out]; simp) : _ = rs.set k ⟨r.name, r.arity, r.tuples⟩)
    have hself : rs.set k ⟨r.name, r.arity, r.tuples⟩ = rs := by
      have e := Hr.out
      rw [List.getElem?_eq_getElem hkl] at e
      have e2 := Option.some.inj e
      subst e2
      exact List.set_getElem_self hkl
    have Hp := Lib.hid (Hp.out.trans hself); clear hself
    have hzc0 : W3.cell? ⟨w.heap.size + 1, 0, none⟩ = some (.int .i64 0) := (Hz3.out).cell 0
    have hzc1 : W3.cell? ⟨w.heap.size + 1, 1, none⟩ = some (.slice none 0 0) := (Hz3.out).cell 1
    have hzf0 := (Hz3.out).frozen 0
    have hzf1 := (Hz3.out).frozen 1
    go_wp2_with (go_at_call 39; refine Hplace.out.mono ?_; rintro e w' ⟨rfl, rfl⟩)
    refine bodyPost_ret (v := .tuple #[.agg #[.int .i64 size, .slice (some ⟨g, 0, none⟩) rs.length XC], .int .i64 0]) (by simp [results, Tryz.results14, go_sem, hzc0, hzc1]) rfl ?_
    have hk0 : Keeps L [3, 25, 57] W3 ((W3.setCell ⟨w.heap.size + 1, 0, none⟩ (.int .i64 size)).setCell ⟨w.heap.size + 1, 1, none⟩ (.slice (some ⟨g, 0, none⟩) rs.length XC)) :=
      (Keeps.setCell (p := ⟨w.heap.size + 1, 0, none⟩) (Hz3.out) (by decide) _).trans (Keeps.setCell (p := ⟨w.heap.size + 1, 1, none⟩) ((Hz3.out).set_ _ _) (by decide) _)
    refine ⟨_, rfl, ?_, ((hbel3).setCell (by simp) _).setCell (by simp) _⟩
    rw [Hp.out]
    exact ((OwnRels.rels (rs := rs) ⟨xs, vs, Hx.out, Hxc.out, Hxr.out⟩ (by omega)).keep hk0).more (by omega)
  · have Hp := Lib.hid (Hputd.out.trans (by rw [Hputt.out]; simp) : _ = rs.set k ⟨r.name, r.arity, r.tuples.take lb ++ r.tuples.drop (lb + 1)⟩)
    have hlt := Hfl.out rfl
    have hdel := delete_any _ r.tuples.length lb us L W3 hlt Hvo.out Hone.out
    rw [show ((lb + 1 : Nat) : Int) = (lb : Int) + 1 by simp] at hdel
    have Hdel := Lib.hid hdel; clear hdel
    generalize hvi0 : (Value.slice VA r.tuples.length VC) = vi0 at *
    have hvlt : ∀ b, vi0.ownBlock = some b → L ≤ b := fun b e => (Hvo.out.lt b e).1
    clear hvi0
    go_wp2_with (first
      | (go_at_call 39; refine Hplace.out.mono ?_; rintro e w' ⟨rfl, rfl⟩)
      | (go_at_call 42
         refine Hdel.out.mono ?_
         rintro e w8 ⟨v', rfl, ho8, hg8w⟩
         obtain ⟨NA, NC, rfl⟩ := own_slice ho8
         have hs8 := Hs3.out.grown hg8w (fun e => by have := hvlt _ e.symm; omega)
         have hz8 := Hz3.out.grown hg8w (fun e => by have := hvlt _ e.symm; omega)
         have hgb8 := hgb.grown hg8w Hgv.out
         have hfz8 := hgb8.frozen (k * 3 + 2)
         obtain ⟨z8, hcz8⟩ : ∃ z, w8.cell? ⟨g, k * 3 + 2, none⟩ = some z := ⟨vi0, (World.cell?_of_block (hg8w.block g hgb.lt Hgv.out)).trans hc2⟩
         have hs9 := hs8.far (p := ⟨g, k * 3 + 2, none⟩) (show w.heap.size ≠ g by omega) (.slice NA (r.tuples.length - 1) NC)
         have hz9 := hz8.far (p := ⟨g, k * 3 + 2, none⟩) (show w.heap.size + 1 ≠ g by omega) (.slice NA (r.tuples.length - 1) NC)
         have ys0 : (w8.setCell ⟨g, k * 3 + 2, none⟩ (.slice NA (r.tuples.length - 1) NC)).cell? ⟨w.heap.size, 0, none⟩ = some (.int .i64 size) := hs9.cell 0
         have ys1 : (w8.setCell ⟨g, k * 3 + 2, none⟩ (.slice NA (r.tuples.length - 1) NC)).cell? ⟨w.heap.size, 1, none⟩ = some (.slice (some ⟨g, 0, none⟩) rs.length XC) := hs9.cell 1
         have yz0 : (w8.setCell ⟨g, k * 3 + 2, none⟩ (.slice NA (r.tuples.length - 1) NC)).cell? ⟨w.heap.size + 1, 0, none⟩ = some (.int .i64 0) := hz9.cell 0
         have yz1 : (w8.setCell ⟨g, k * 3 + 2, none⟩ (.slice NA (r.tuples.length - 1) NC)).cell? ⟨w.heap.size + 1, 1, none⟩ = some (.slice none 0 0) := hz9.cell 1
         have yf0 : (w8.setCell ⟨g, k * 3 + 2, none⟩ (.slice NA (r.tuples.length - 1) NC)).frozen? ⟨w.heap.size + 1, 0, none⟩ = false := hz9.frozen 0
         have yf1 : (w8.setCell ⟨g, k * 3 + 2, none⟩ (.slice NA (r.tuples.length - 1) NC)).frozen? ⟨w.heap.size + 1, 1, none⟩ = false := hz9.frozen 1))
    have hzc0 := yz0
    have hzc1 := yz1
    have hnr := put_final (r' := ⟨r.name, r.arity, r.tuples.take lb ++ r.tuples.drop (lb + 1)⟩) rfl (by omega) Hx.out Hxc.out Hxr.out Hr.out Hvi.out rfl rfl hg8w ho8 (by omega) (by simp; have := Hul.out; omega) (elems_delete (Hve.out.keep (Keeps.own hg8w Hvo.out (by decide))) Hul.out (by have := Hul.out; omega))
    have hbel9 : Below w.heap.size w (w8.setCell ⟨g, k * 3 + 2, none⟩ (.slice NA (r.tuples.length - 1) NC)) := (hbel3.grown hg8w hbel3.size (fun b e => by have := hvlt b e; omega)).setCell (show w.heap.size ≤ g by omega) _
    refine bodyPost_ret (v := .tuple #[.agg #[.int .i64 size, .slice (some ⟨g, 0, none⟩) rs.length XC], .int .i64 0]) (by simp [results, Tryz.results14, go_sem, hzc0, hzc1]) rfl ?_
    have hk0 : Keeps L [3, 25, 57] (w8.setCell ⟨g, k * 3 + 2, none⟩ (.slice NA (r.tuples.length - 1) NC)) (((w8.setCell ⟨g, k * 3 + 2, none⟩ (.slice NA (r.tuples.length - 1) NC)).setCell ⟨w.heap.size + 1, 0, none⟩ (.int .i64 size)).setCell ⟨w.heap.size + 1, 1, none⟩ (.slice (some ⟨g, 0, none⟩) rs.length XC)) :=
      (Keeps.setCell (p := ⟨w.heap.size + 1, 0, none⟩) (hz9) (by decide) _).trans (Keeps.setCell (p := ⟨w.heap.size + 1, 1, none⟩) ((hz9).set_ _ _) (by decide) _)
    refine ⟨_, rfl, ?_, ((hbel9).setCell (by simp) _).setCell (by simp) _⟩
    rw [Hp.out]
    exact ((hnr).keep hk0).more (by omega)
  · have Hp := Lib.hid (Hputd.out.trans (by rw [Hputt.out]; simp) : _ = rs.set k ⟨r.name, r.arity, r.tuples.take lb ++ t :: r.tuples.drop lb⟩)
    generalize hvi0 : (Value.slice VA r.tuples.length VC) = vi0 at *
    have hvlt : ∀ b, vi0.ownBlock = some b → L ≤ b ∧ b < W3.heap.size := fun b e => Hvo.out.lt b e
    have hcp := copytuple_any (.slice TA TN TC) t W3.drew W3.heap.size (Nat.le_refl _) ((ht.below (hbel3.mono hB)).more (by have := hbel3.size; omega)) (by omega)
    have Hcp := Lib.hid hcp; clear hcp
    have hc2d : W3.drew.cell? ⟨g, k * 3 + 2, none⟩ = some vi0 := hc2
    go_wp2_with (go_at_call 39; refine Hplace.out.mono ?_; rintro e w' ⟨rfl, rfl⟩)
    go_region_law (first
      | (go_simp
         go_at_call 41
         refine Hcp.out.mono ?_
         rintro e w7 ⟨y, rfl, hny, hb7⟩
         have hny' := hny
         obtain ⟨YA, YN, YC, rfl, -⟩ := hny'
         have hs7 : W3.heap.size ≤ w7.heap.size := hb7.size
         have hgb7 := hgb.drew.below hb7 hgb.lt
         have hc7 : w7.cell? ⟨g, k * 3 + 2, none⟩ = some vi0 := (hb7.cell (p := ⟨g, k * 3 + 2, none⟩) hgb.lt).trans hc2d
         have hc7a : (w7.alloc (.cells #[.slice YA YN YC] 25)).cell? ⟨g, k * 3 + 2, none⟩ = some vi0 := (World.cell?_alloc_lt _ _ _ (show g < w7.heap.size by have := hgb.lt; omega)).trans hc7
         have ho7 := World.ownsRow.alloc (own_below (w := W3.drew) Hvo.out hb7) (.cells #[.slice YA YN YC] 25))
      | (go_simp
         go_at_call 40
         refine (insert_any _ r.tuples.length lb us L _ hlb ho7 Hone.out w7.heap.size (.slice YA YN YC) (Blk.new w7 25 #[.slice YA YN YC]) (fun e => by have := (hvlt _ e).2; omega) rfl (by omega) (by simp; omega)).mono ?_
         rintro e w8 ⟨v', rfl, ho8, hg8⟩
         obtain ⟨NA, NC, rfl⟩ := own_slice ho8
         have hg8w : W3.grownBy w8 vi0.ownBlock := grown_trans ⟨hb7.os, hb7.tape, hb7.output, hb7.size, fun i hi _ => hb7.block i hi⟩ (grown_trans (World.grownBy_alloc w7 _ _) hg8)
         have hvlt' := fun b e => (hvlt b e).1
         have hs8 := Hs3.out.grown hg8w (fun e => by have := hvlt' _ e.symm; omega)
         have hz8 := Hz3.out.grown hg8w (fun e => by have := hvlt' _ e.symm; omega)
         have hgb8 := hgb.grown hg8w Hgv.out
         have hfz8 := hgb8.frozen (k * 3 + 2)
         obtain ⟨z8, hcz8⟩ : ∃ z, w8.cell? ⟨g, k * 3 + 2, none⟩ = some z := ⟨vi0, (World.cell?_of_block (hg8w.block g hgb.lt Hgv.out)).trans hc2⟩
         have hs9 := hs8.far (p := ⟨g, k * 3 + 2, none⟩) (show w.heap.size ≠ g by omega) (.slice NA (r.tuples.length + 1) NC)
         have hz9 := hz8.far (p := ⟨g, k * 3 + 2, none⟩) (show w.heap.size + 1 ≠ g by omega) (.slice NA (r.tuples.length + 1) NC)
         have ys0 : (w8.setCell ⟨g, k * 3 + 2, none⟩ (.slice NA (r.tuples.length + 1) NC)).cell? ⟨w.heap.size, 0, none⟩ = some (.int .i64 size) := hs9.cell 0
         have ys1 : (w8.setCell ⟨g, k * 3 + 2, none⟩ (.slice NA (r.tuples.length + 1) NC)).cell? ⟨w.heap.size, 1, none⟩ = some (.slice (some ⟨g, 0, none⟩) rs.length XC) := hs9.cell 1
         have yz0 : (w8.setCell ⟨g, k * 3 + 2, none⟩ (.slice NA (r.tuples.length + 1) NC)).cell? ⟨w.heap.size + 1, 0, none⟩ = some (.int .i64 0) := hz9.cell 0
         have yz1 : (w8.setCell ⟨g, k * 3 + 2, none⟩ (.slice NA (r.tuples.length + 1) NC)).cell? ⟨w.heap.size + 1, 1, none⟩ = some (.slice none 0 0) := hz9.cell 1
         have yf0 : (w8.setCell ⟨g, k * 3 + 2, none⟩ (.slice NA (r.tuples.length + 1) NC)).frozen? ⟨w.heap.size + 1, 0, none⟩ = false := hz9.frozen 0
         have yf1 : (w8.setCell ⟨g, k * 3 + 2, none⟩ (.slice NA (r.tuples.length + 1) NC)).frozen? ⟨w.heap.size + 1, 1, none⟩ = false := hz9.frozen 1))
    all_goals
      go_wp2
      have hzc0 := yz0
      have hzc1 := yz1
      have hk78 : Keeps L [3] w7 w8 := (Keeps.alloc _ _ _ _).trans (Keeps.own hg8 ho7 (by decide))
      have hnr := put_final (r' := ⟨r.name, r.arity, r.tuples.take lb ++ t :: r.tuples.drop lb⟩) rfl (by omega) Hx.out Hxc.out Hxr.out Hr.out Hvi.out rfl rfl hg8w ho8 (by omega) (by simp; have := Hul.out; omega) (elems_insert (Hve.out.keep (Keeps.own hg8w Hvo.out (by decide))) Hul.out (by have := Hul.out; omega) ((hny.more hL3).keep hk78))
      have hbel9 : Below w.heap.size w (w8.setCell ⟨g, k * 3 + 2, none⟩ (.slice NA (r.tuples.length + 1) NC)) := (hbel3.grown hg8w hbel3.size (fun b e => by have := (hvlt b e).1; omega)).setCell (show w.heap.size ≤ g by omega) _
      refine bodyPost_ret (v := .tuple #[.agg #[.int .i64 size, .slice (some ⟨g, 0, none⟩) rs.length XC], .int .i64 0]) (by simp [results, Tryz.results14, go_sem, hzc0, hzc1]) rfl ?_
      have hk0 : Keeps L [3, 25, 57] (w8.setCell ⟨g, k * 3 + 2, none⟩ (.slice NA (r.tuples.length + 1) NC)) (((w8.setCell ⟨g, k * 3 + 2, none⟩ (.slice NA (r.tuples.length + 1) NC)).setCell ⟨w.heap.size + 1, 0, none⟩ (.int .i64 size)).setCell ⟨w.heap.size + 1, 1, none⟩ (.slice (some ⟨g, 0, none⟩) rs.length XC)) :=
        (Keeps.setCell (p := ⟨w.heap.size + 1, 0, none⟩) (hz9) (by decide) _).trans (Keeps.setCell (p := ⟨w.heap.size + 1, 1, none⟩) ((hz9).set_ _ _) (by decide) _)
      refine ⟨_, rfl, ?_, ((hbel9).setCell (by simp) _).setCell (by simp) _⟩
      rw [Hp.out]
      exact ((hnr).keep hk0).more (by omega)
  · have Hp := Lib.hid (Hputd.out.trans (by rw [Hputt.out]; simp) : _ = rs.set k ⟨r.name, r.arity, r.tuples⟩)
    have hself : rs.set k ⟨r.name, r.arity, r.tuples⟩ = rs := by
      have e := Hr.out
      rw [List.getElem?_eq_getElem hkl] at e
      have e2 := Option.some.inj e
      subst e2
      exact List.set_getElem_self hkl
    have Hp := Lib.hid (Hp.out.trans hself); clear hself
    have hzc0 : W3.cell? ⟨w.heap.size + 1, 0, none⟩ = some (.int .i64 0) := (Hz3.out).cell 0
    have hzc1 : W3.cell? ⟨w.heap.size + 1, 1, none⟩ = some (.slice none 0 0) := (Hz3.out).cell 1
    have hzf0 := (Hz3.out).frozen 0
    have hzf1 := (Hz3.out).frozen 1
    go_wp2_with (go_at_call 39; refine Hplace.out.mono ?_; rintro e w' ⟨rfl, rfl⟩)
    refine bodyPost_ret (v := .tuple #[.agg #[.int .i64 size, .slice (some ⟨g, 0, none⟩) rs.length XC], .int .i64 0]) (by simp [results, Tryz.results14, go_sem, hzc0, hzc1]) rfl ?_
    have hk0 : Keeps L [3, 25, 57] W3 ((W3.setCell ⟨w.heap.size + 1, 0, none⟩ (.int .i64 size)).setCell ⟨w.heap.size + 1, 1, none⟩ (.slice (some ⟨g, 0, none⟩) rs.length XC)) :=
      (Keeps.setCell (p := ⟨w.heap.size + 1, 0, none⟩) (Hz3.out) (by decide) _).trans (Keeps.setCell (p := ⟨w.heap.size + 1, 1, none⟩) ((Hz3.out).set_ _ _) (by decide) _)
    refine ⟨_, rfl, ?_, ((hbel3).setCell (by simp) _).setCell (by simp) _⟩
    rw [Hp.out]
    exact ((OwnRels.rels (rs := rs) ⟨xs, vs, Hx.out, Hxc.out, Hxr.out⟩ (by omega)).keep hk0).more (by omega)

end Go.Proofs.YtelememdhpncgaaGreatDoor

/-
  Walks: permutes; the reference's Perm comes later.
-/
namespace Go.Proofs.YtelememdhpncgaaGreatDoor
open Go.RowKit
open Go.Maps (Keyed)
open Go.ChangeMaps Go.MapKept

namespace Sh
/-- The list has each number from 0 to n - 1 exactly once. -/
def permB (n : Int) (p : List Int) : Bool := decide ((p.length : Int) = n) && inB n p && decide p.Nodup
end Sh

def numSet (l : List Int) : DataW Unit := l.foldl (fun D s => D.put (.int .i64 s) (.lit (.bool true))) (.map [])
theorem numSet_snoc (l : List Int) (s : Int) : numSet (l ++ [s]) = (numSet l).put (.int .i64 s) (.lit (.bool true)) := by
  unfold numSet; rw [List.foldl_append]; rfl
theorem numSet_tidy (l : List Int) : Go.Maps.Tidy (numSet l) := by
  have : ∀ (l : List Int) (D : DataW Unit), Go.Maps.Tidy D → Go.Maps.Tidy (l.foldl (fun D s => D.put (.int .i64 s) (.lit (.bool true))) D) := by
    intro l
    induction l with
    | nil => intro D h; exact h
    | cons x l ih => intro D h; exact ih _ (h.put (by trivial) _)
  exact this l _ Go.Maps.tidy_empty
theorem numSet_has (s : Int) (l : List Int) : Go.Maps.has (numSet l) (.int .i64 s) = l.contains s := by
  have : ∀ (l : List Int) (D : DataW Unit), Go.Maps.IsMap D → Go.Maps.has (l.foldl (fun D s => D.put (.int .i64 s) (.lit (.bool true))) D) (.int .i64 s) = (Go.Maps.has D (.int .i64 s) || l.contains s) := by
    intro l
    induction l with
    | nil => intro D _; simp
    | cons x l ih =>
      intro D h
      rw [List.foldl_cons, ih _ (h.put _ _), List.contains_cons]
      by_cases hx : s = x
      · subst hx
        rw [Go.Maps.has_put_same h (by trivial)]
        simp
      · rw [Go.Maps.has_put_other (by intro e; injection e with _ e; exact hx e)]
        have : (s == x) = false := by simpa using hx
        rw [this, Bool.false_or]
  have h := this l (.map []) Go.Maps.isMap_empty
  simpa [numSet, Go.Maps.has] using h
theorem int_nodup_succ {l : List Int} {k : Nat} {x : Int} (hk : l[k]? = some x) : (l.take (k + 1)).Nodup ↔ (l.take k).Nodup ∧ x ∉ l.take k := by
  rw [take_snoc hk, List.nodup_append]
  constructor
  · rintro ⟨h1, -, h3⟩
    exact ⟨h1, fun hm => h3 x hm x (List.mem_singleton.2 rfl) rfl⟩
  · rintro ⟨h1, h2⟩
    exact ⟨h1, by simp, fun a ha b hb e => h2 (by rw [List.mem_singleton] at hb; rw [← hb, ← e]; exact ha)⟩
theorem numSet_size (l : List Int) : ∀ k, k ≤ l.length → Go.Maps.size (numSet (l.take k)) ≤ k ∧ ((l.take k).Nodup ↔ Go.Maps.size (numSet (l.take k)) = k)
  | 0, _ => by simp [numSet, Go.Maps.size]
  | k + 1, h => by
    obtain ⟨h1, h2⟩ := numSet_size l k (by omega)
    have hk : l[k]? = some l[k] := List.getElem?_eq_getElem (by omega)
    rw [int_nodup_succ hk, take_snoc hk, numSet_snoc, Go.Maps.size_put (numSet_tidy _), numSet_has]
    cases hc : (l.take k).contains l[k] with
    | true =>
      rw [if_pos rfl]
      have hm := List.contains_iff_mem.1 hc
      exact ⟨by omega, ⟨fun hh => absurd hm hh.2, fun hh => by omega⟩⟩
    | false =>
      rw [if_neg (by simp)]
      have hm : l[k] ∉ l.take k := fun hm => by rw [List.contains_iff_mem.2 hm] at hc; cases hc
      exact ⟨by omega, ⟨fun hh => by rw [h2.1 hh.1], fun hh => ⟨h2.2 (by omega), hm⟩⟩⟩

theorem wf_small {x : Int} (h0 : 0 ≤ x) (h1 : x < 64) : (Lit.int .i64 x).wf = true := by
  have e1 : IntKind.i64.min = -9223372036854775808 := by decide
  have e2 : IntKind.i64.max = 9223372036854775807 := by decide
  unfold Lit.wf
  simp only [e1, e2, Bool.and_eq_true, decide_eq_true_eq]
  omega
theorem nums_keyed : Keyed Tryz.prog 3 := Go.Maps.int_keyed Tryz.underlying3
def NumSet (w : World) (b n : Nat) (l : List Int) : Prop := w.ownsMap Tryz.prog 3 (plainElem Tryz.prog 4) b n (numSet l)
theorem NumSet.made (w : World) : NumSet (w.alloc (.map #[] 0)) w.heap.size 0 [] := World.ownsMap_made _ _ _ _
theorem NumSet.below {w w' : World} {B b n : Nat} {l : List Int} (h : NumSet w b n l) (hb : Below B w w') (hB : b < B) : NumSet w' b n l := by
  obtain ⟨es, clock, h1, h2⟩ := h
  exact ⟨es, clock, (hb.block b hB).trans h1, h2⟩

set_option maxRecDepth 100000 in
set_option maxHeartbeats 1000000 in
theorem permutes_any (v : Value) (p : List Int) (n : Int) (w : World) (B : Nat) (hB : B ≤ w.heap.size) (h : Ints w B v p) (hn : n ≤ 64) :
    Calls Tryz.prog 32 #[v, .int .i64 n] w fun e w' => e = .returned (.bool (Sh.permB n p)) ∧ Below w.heap.size w w' := by
  have h' := h
  obtain ⟨A, len, c, rfl, hlen, hmax, -⟩ := h'
  have hel := fun W (hW : Below B w W) => elements_any (.slice A len c) p n W B (h.below hW)
  by_cases h1 : (len : Int) = n
  · have h1b : ((len : Int) != n) = false := by rw [h1]; simp
    cases h2 : Sh.inB n p
    · rw [h2] at hel
      have hf : Sh.permB n p = false := by unfold Sh.permB; rw [h2]; simp
      have Hf := Lib.hid hf; clear hf
      have Hel := Lib.hid hel; clear hel
      clear hlen h1 h2
      go_enter Tryz.func32, Tryz.ntmps32
      go_wp2_with (go_at_call 38; refine (Hel.out _ (Below.refl _ _)).mono ?_; rintro e w' ⟨rfl, rfl⟩)
      go_ret
      exact ⟨ret_bool Hf.out.symm, Below.refl _ _⟩
    · rw [h2] at hel
      have hpb : Sh.permB n p = decide p.Nodup := by unfold Sh.permB; rw [h2, ← hlen, decide_eq_true h1]; simp
      have hin : ∀ x ∈ p, 0 ≤ x ∧ x < n := fun x hx => of_decide_eq_true (List.all_eq_true.1 h2 x hx)
      have Hpb := Lib.hid hpb; clear hpb
      have Hel := Lib.hid hel; clear hel
      have Hin := Lib.hid hin; clear hin
      have Hlen := Lib.hid hlen; clear hlen
      have hl64 : len ≤ 64 := by omega
      have H1 := Lib.hid h1; clear h1 h2
      have hmm := @run_makeMap Tryz.prog
      go_enter Tryz.func32, Tryz.ntmps32
      go_wp2_with (go_at_call 38; refine (Hel.out _ (Below.refl _ _)).mono ?_; rintro e w' ⟨rfl, rfl⟩)
      go_loopw [21] (fun i wr => ∃ k : Nat, k ≤ len ∧ i = .int .i64 k ∧ NumSet wr w.heap.size k (p.take k) ∧ Below w.heap.size w wr) (fun i _ => len - (intOf i).toNat)
      case atStart =>
        refine ⟨0, Nat.zero_le _, rfl, ?_, (Below.refl _ _).alloc (Nat.le_refl _) _⟩
        simpa using NumSet.made w
      case round =>
        obtain ⟨k, hk, rfl, hset, hbel⟩ := hrel
        have Hset := Lib.hid hset; clear hset
        have Hbel := Lib.hid hbel; clear hbel
        by_cases hlt : k < len
        · obtain ⟨ad, rfl, hb, hc⟩ := (h.below (Hbel.out.mono hB)).at_ hlt
          have hxs : p[k]? = some (p.getD k 0) := getD_some (d := 0) (by rw [← Hlen.out]; exact hlt)
          have hx := Hin.out _ (List.mem_of_getElem? hxs)
          have htk := take_snoc hxs
          generalize p.getD k 0 = x at *
          have hkey : keyOf Tryz.prog 3 (.int .i64 x) = some (.int .i64 x) := Go.Maps.keyOf_int_mk Tryz.underlying3 (wf_small hx.1 (by omega))
          have Hkey := Lib.hid hkey; clear hkey
          have Htk := Lib.hid htk; clear htk hxs hx
          have hbz := Hbel.out.size
          go_wp2_with (at_mapUpdate; refine wpList_mapUpdate_own _ rfl _ _ _ 93 rfl 3 4 nums_keyed Tryz.underlying93 _ w.heap.size k _ rfl Hset.out (by unfold maxLen; omega) _ _ _ rfl rfl Hkey.out _ [] (plainElem_bool Tryz.underlying4 true) ?_; intro w2 hown2 hgrow2)
          refine ⟨⟨k + 1, by omega, by go_num, ?_, ?_⟩, by simp [intOf]; omega⟩
          · rw [Htk.out]; unfold NumSet; rw [numSet_snoc]; exact hown2
          · exact Hbel.out.grown hgrow2 (by omega) (by intro g hg; injection hg with hg; omega)
        · obtain rfl : k = len := by omega
          have htk : p.take k = p := List.take_of_length_le (by rw [Hlen.out]; exact Nat.le_refl _)
          have hsz := numSet_size p k (by rw [Hlen.out]; exact Nat.le_refl _)
          rw [htk] at hsz
          have hset := Hset.out
          rw [htk] at hset
          have Hset' := Lib.hid hset; clear hset
          have hfin : ((Go.Maps.size (numSet p) : Int) == n) = decide p.Nodup := by
            rw [← H1.out, Bool.eq_iff_iff]
            simp only [beq_iff_eq, decide_eq_true_eq]
            rw [hsz.2]
            omega
          have Hfin := Lib.hid hfin; clear hfin hsz htk
          go_wp2_with (at_len; refine wpList_len_own _ rfl _ 93 rfl 3 4 Tryz.underlying93 _ w.heap.size k _ rfl Hset'.out ?_)
          go_ret
          exact ⟨ret_bool (by rw [Hpb.out]; first | exact Hfin.out | (rw [← Hfin.out])), Hbel.out⟩
  · have h1b : ((len : Int) != n) = true := by rw [bne_iff_ne]; exact h1
    have hf : Sh.permB n p = false := by unfold Sh.permB; rw [← hlen, decide_eq_false h1]; simp
    have Hf := Lib.hid hf; clear hf hel
    clear hlen h1
    go_enter Tryz.func32, Tryz.ntmps32
    go_wp2
    go_ret
    exact ⟨ret_bool Hf.out.symm, Below.refl _ _⟩

end Go.Proofs.YtelememdhpncgaaGreatDoor

/-
  Walk: shape.Permute, where it refuses.
-/
namespace Go.Proofs.YtelememdhpncgaaGreatDoor
open Go.RowKit

set_option maxRecDepth 100000 in
set_option maxHeartbeats 400000 in
theorem permute_bad (size : Int) (v : Value) (rs : List Sh.Rel) (u : Value) (p : List Int) (w : World) (B : Nat) (hB : B ≤ w.heap.size) (h : Rels w B v rs) (hp : Ints w B u p) (hv : Sh.validB ⟨size, rs⟩ = false) :
    Calls Tryz.prog 10 #[.agg #[.int .i64 size, v], u] w fun e w' => e = .returned (.tuple #[.agg #[.int .i64 0, .slice none 0 0], .int .i64 1]) ∧ Below w.heap.size w w' := by
  have h' := h
  obtain ⟨A, len, c, rfl, -⟩ := h'
  have hp' := hp
  obtain ⟨PA, PN, PC, rfl, -⟩ := hp'
  have hb2 := ((Below.refl w.heap.size w).alloc (Nat.le_refl _) (.cells #[.int .i64 size, .slice A len c] 24)).alloc (by simp) (.cells #[.int .i64 0, .slice none 0 0] 24)
  have hcall := fun W (hW : Below w.heap.size w W) => valid_any size (.slice A len c) rs W B (Nat.le_trans hB hW.size) (h.below (hW.mono hB))
  rw [hv] at hcall
  have hz := Blk.new (w.alloc (.cells #[.int .i64 size, .slice A len c] 24)) 24 #[.int .i64 0, .slice none 0 0]
  rw [World.size_alloc] at hz
  have Hcall := Lib.hid hcall; clear hcall
  have Hz := Lib.hid hz; clear hz
  have Hb2 := Lib.hid hb2; clear hb2
  clear hv
  go_enter Tryz.func10, Tryz.ntmps10
  go_wp2_with (go_at_call 31
               refine (Hcall.out _ Hb2.out).mono ?_
               rintro e w9 ⟨rfl, hb9⟩
               have hz9 := Hz.out.below hb9 (by simp)
               have hzc0 : w9.cell? ⟨w.heap.size + 1, 0, none⟩ = some (.int .i64 0) := hz9.cell 0
               have hzc1 : w9.cell? ⟨w.heap.size + 1, 1, none⟩ = some (.slice none 0 0) := hz9.cell 1
               have hzf0 := hz9.frozen 0
               have hzf1 := hz9.frozen 1)
  refine bodyPost_ret (v := .tuple #[.agg #[.int .i64 0, .slice none 0 0], .int .i64 1]) (by simp [results, Tryz.results10, go_sem, hzc0, hzc1]) rfl ?_
  exact ⟨rfl, ((Hb2.out.trans (hb9.mono (by simp; omega))).setCell (by simp) _).setCell (by simp) _⟩

set_option maxRecDepth 100000 in
set_option maxHeartbeats 400000 in
theorem permute_arg (size : Int) (v : Value) (rs : List Sh.Rel) (u : Value) (p : List Int) (w : World) (B : Nat) (hB : B ≤ w.heap.size) (h : Rels w B v rs) (hp : Ints w B u p) (hv : Sh.validB ⟨size, rs⟩ = true) (hq : Sh.permB size p = false) :
    Calls Tryz.prog 10 #[.agg #[.int .i64 size, v], u] w fun e w' => e = .returned (.tuple #[.agg #[.int .i64 0, .slice none 0 0], .int .i64 2]) ∧ Below w.heap.size w w' := by
  have h' := h
  obtain ⟨A, len, c, rfl, -⟩ := h'
  have hp' := hp
  obtain ⟨PA, PN, PC, rfl, -⟩ := hp'
  have hsz := (Sh.validB_size hv).2.1
  simp only at hsz
  have hb2 := ((Below.refl w.heap.size w).alloc (Nat.le_refl _) (.cells #[.int .i64 size, .slice A len c] 24)).alloc (by simp) (.cells #[.int .i64 0, .slice none 0 0] 24)
  have hcall := fun W (hW : Below w.heap.size w W) => valid_any size (.slice A len c) rs W B (Nat.le_trans hB hW.size) (h.below (hW.mono hB))
  rw [hv] at hcall
  have hperm := fun W (hW : Below w.heap.size w W) => permutes_any (.slice PA PN PC) p size W B (Nat.le_trans hB hW.size) (hp.below (hW.mono hB)) hsz
  rw [hq] at hperm
  have hs := (Blk.new w 24 #[.int .i64 size, .slice A len c]).alloc (.cells #[.int .i64 0, .slice none 0 0] 24)
  have hz := Blk.new (w.alloc (.cells #[.int .i64 size, .slice A len c] 24)) 24 #[.int .i64 0, .slice none 0 0]
  rw [World.size_alloc] at hz
  have Hcall := Lib.hid hcall; clear hcall
  have Hperm := Lib.hid hperm; clear hperm
  have Hs := Lib.hid hs; clear hs
  have Hz := Lib.hid hz; clear hz
  have Hb2 := Lib.hid hb2; clear hb2
  clear hv hq hsz
  go_enter Tryz.func10, Tryz.ntmps10
  go_wp2_with (first
    | (go_at_call 31
       refine (Hcall.out _ Hb2.out).mono ?_
       rintro e w9 ⟨rfl, hb9⟩
       have hz9 := Hz.out.below hb9 (by simp)
       have hs9 := Hs.out.below hb9 (by simp; omega)
       have hs0 : w9.cell? ⟨w.heap.size, 0, none⟩ = some (.int .i64 size) := hs9.cell 0
       have Hz9 := Lib.hid hz9
       have Hb9 := Lib.hid (Hb2.out.trans (hb9.mono (by simp; omega)))
       clear hb9 hz9)
    | (go_at_call 32
       refine (Hperm.out _ Hb9.out).mono ?_
       rintro e w8 ⟨rfl, hb8⟩
       have hz8 := Hz9.out.below hb8 Hz9.out.lt
       have hzc0 : w8.cell? ⟨w.heap.size + 1, 0, none⟩ = some (.int .i64 0) := hz8.cell 0
       have hzc1 : w8.cell? ⟨w.heap.size + 1, 1, none⟩ = some (.slice none 0 0) := hz8.cell 1
       have hzf0 := hz8.frozen 0
       have hzf1 := hz8.frozen 1))
  refine bodyPost_ret (v := .tuple #[.agg #[.int .i64 0, .slice none 0 0], .int .i64 2]) (by simp [results, Tryz.results10, go_sem, hzc0, hzc1]) rfl ?_
  exact ⟨rfl, ((Hb9.out.trans (hb8.mono Hb9.out.size)).setCell (by simp) _).setCell (by simp) _⟩

end Go.Proofs.YtelememdhpncgaaGreatDoor

/-
  Walk: shape.copyRel, once more: what it says of the tuples' own blocks.
-/
namespace Go.Proofs.YtelememdhpncgaaGreatDoor
open Go.RowKit

/-- A tuple in a row of its own. -/
def OInts (w : World) (L : Nat) (v : Value) (t : List Int) : Prop := ∃ A n c, v = .slice A n c ∧ n = t.length ∧ w.ownsRow L 3 1 v n (t.map (Value.int .i64))
theorem OInts.keep {w w' : World} {L : Nat} {v : Value} {t : List Int} (h : OInts w L v t) (hk : Keeps L [3] w w') : OInts w' L v t := by
  obtain ⟨A, n, c, h1, h2, h3⟩ := h
  exact ⟨A, n, c, h1, h2, own_keeps h3 hk (Nat.le_refl _) (by simp)⟩
theorem OInts.more {w : World} {L L' : Nat} {v : Value} {t : List Int} (h : OInts w L v t) (hL : L' ≤ L) : OInts w L' v t := by
  obtain ⟨A, n, c, h1, h2, h3⟩ := h
  exact ⟨A, n, c, h1, h2, own_base h3 hL⟩
theorem OInts.ints {w : World} {L : Nat} {v : Value} {t : List Int} (h : OInts w L v t) (ht : t.length ≤ 1000000) : NInts w L v t := by
  obtain ⟨A, n, c, h1, h2, h3⟩ := h
  exact NInts.own h3 (Nat.le_refl _) (by omega)
theorem OInts.lt {w : World} {L g : Nat} {v : Value} {t : List Int} (h : OInts w L v t) (hg : v.ownBlock = some g) : L ≤ g ∧ g < w.heap.size := by
  obtain ⟨A, n, c, h1, h2, h3⟩ := h
  exact h3.lt g hg
/-- The values are tuples in rows of their own. -/
def OElems (w : World) (L : Nat) (us : List Value) (ts : List (List Int)) : Prop := ∀ (j : Nat) (u : Value) (t : List Int), us[j]? = some u → ts[j]? = some t → OInts w L u t
theorem OElems.keep {w w' : World} {L : Nat} {us : List Value} {ts : List (List Int)} (h : OElems w L us ts) (hk : Keeps L [3] w w') : OElems w' L us ts := fun j u t h1 h2 => (h j u t h1 h2).keep hk
theorem OElems.elems {w : World} {L : Nat} {us : List Value} {ts : List (List Int)} (h : OElems w L us ts) (ht : ∀ t ∈ ts, t.length ≤ 1000000) : Elems w L us ts := fun j u t h1 h2 => (h j u t h1 h2).ints (ht t (List.mem_of_getElem? h2))
theorem OElems.snoc {w : World} {L : Nat} {us : List Value} {ts : List (List Int)} (h : OElems w L us ts) (hl : us.length = ts.length) {u : Value} {t : List Int} (hu : OInts w L u t) : OElems w L (us ++ [u]) (ts ++ [t]) := by
  intro j u' t' h1 h2
  by_cases hj : j < us.length
  · rw [List.getElem?_append_left hj] at h1
    rw [List.getElem?_append_left (by omega)] at h2
    exact h j u' t' h1 h2
  · have hjl : j < (us ++ [u]).length := (List.getElem?_eq_some_iff.1 h1).1
    rw [List.length_append, List.length_singleton] at hjl
    obtain rfl : j = us.length := by omega
    rw [List.getElem?_append_right (by omega), Nat.sub_self] at h1
    rw [List.getElem?_append_right (by omega), hl, Nat.sub_self] at h2
    obtain rfl : u = u' := by simpa using h1
    obtain rfl : t = t' := by simpa using h2
    exact hu

/-- The values' own blocks are pairwise distinct, and lie from lo on, below hi. -/
def Apart (us : List Value) (lo hi : Nat) : Prop := (us.filterMap Value.ownBlock).Nodup ∧ ∀ g ∈ us.filterMap Value.ownBlock, lo ≤ g ∧ g < hi
theorem Apart.nil (lo hi : Nat) : Apart [] lo hi := ⟨List.nodup_nil, fun g h => by cases h⟩
theorem Apart.mono {us : List Value} {lo hi lo' hi' : Nat} (h : Apart us lo hi) (h1 : lo' ≤ lo) (h2 : hi ≤ hi') : Apart us lo' hi' := ⟨h.1, fun g hg => by have := h.2 g hg; omega⟩
theorem Apart.perm {us us' : List Value} {lo hi : Nat} (h : Apart us lo hi) (hp : us'.Perm us) : Apart us' lo hi :=
  have hq := hp.filterMap Value.ownBlock
  ⟨hq.nodup_iff.2 h.1, fun g hg => h.2 g (hq.mem_iff.1 hg)⟩
theorem Apart.snoc {us : List Value} {lo hi hi' : Nat} (h : Apart us lo hi) (h1 : lo ≤ hi) (h2 : hi ≤ hi') {u : Value} (hu : ∀ g, u.ownBlock = some g → hi ≤ g ∧ g < hi') : Apart (us ++ [u]) lo hi' := by
  unfold Apart
  rw [List.filterMap_append]
  cases ho : u.ownBlock with
  | none => 
    rw [show List.filterMap Value.ownBlock [u] = [] by simp [ho], List.append_nil]
    exact h.mono (Nat.le_refl _) h2
  | some g =>
    have hg := hu g ho
    rw [show List.filterMap Value.ownBlock [u] = [g] by simp [ho]]
    refine ⟨List.nodup_append.2 ⟨h.1, (by simp), fun a ha b hb => ?_⟩, fun a ha => ?_⟩
    · have := (h.2 a ha).2
      rw [List.mem_singleton] at hb
      omega
    · rcases List.mem_append.1 ha with ha | ha
      · have := h.2 a ha; omega
      · rw [List.mem_singleton] at ha; omega

set_option maxRecDepth 100000 in
set_option maxHeartbeats 400000 in
theorem copytuple_own (v : Value) (t : List Int) (w : World) (B : Nat) (hB : B ≤ w.heap.size) (h : Ints w B v t) (ht : t.length ≤ 1000000) :
    Calls Tryz.prog 41 #[v] w fun e w' => ∃ u, e = .returned u ∧ OInts w' w.heap.size u t ∧ Below w.heap.size w w' := by
  go_enter Tryz.func41, Tryz.ntmps41
  go_wp2_with (at_builtin; refine append_ints _ rfl _ _ rfl w.heap.size _ 0 [] rfl (own_empty w 3 1) B v t rfl (h.below (((Below.refl _ _).alloc (Nat.le_refl _) _).mono hB)) (by omega) ht (by simp) ?_; intro v' w' hown hg)
  go_ret
  have hown' : w'.ownsRow w.heap.size 3 1 v' t.length (t.map (Value.int .i64)) := by simpa using hown
  obtain ⟨A, c, rfl⟩ := own_slice hown'
  refine ⟨_, rfl, ⟨A, t.length, c, rfl, rfl, hown'⟩, ?_⟩
  exact ((Below.refl _ _).alloc (Nat.le_refl _) _).grown hg (by simp) (fun g e => Nat.le_of_eq (Option.some.inj (show some w.heap.size = some g from e)))

set_option maxRecDepth 100000 in
set_option maxHeartbeats 400000 in
theorem copyrel_apart (r : Sh.Rel) (v : Value) (w : World) (B : Nat) (hB : B ≤ w.heap.size) (h : Tups w B v r.tuples) (hl : r.tuples.length ≤ 1000000) (ht : ∀ t ∈ r.tuples, t.length ≤ 1000000) :
    Calls Tryz.prog 44 #[.agg #[.string r.name, .int .i64 r.arity, v]] w fun e w' => ∃ (u : Value) (us : List Value), e = .returned (.agg #[.string r.name, .int .i64 r.arity, u]) ∧ us.length = r.tuples.length ∧ w'.ownsRow w.heap.size 25 1 u r.tuples.length us ∧ OElems w' w.heap.size us r.tuples ∧ Below w.heap.size w w' ∧ Apart us w.heap.size w'.heap.size := by
  obtain ⟨name, arity, ts⟩ := r
  simp only at h hl ht ⊢
  have h' := h
  obtain ⟨A, len, c, rfl, hlen, -⟩ := h'
  have hcall := fun (W : World) (u : Value) (t : List Int) (hu : Ints W B u t) (hW : B ≤ W.heap.size) (hm : t ∈ ts) => copytuple_own u t W B hW hu (ht t hm)
  have Hcall := Lib.hid hcall; clear hcall
  have Hlen := Lib.hid hlen; clear hlen
  have hl' : len ≤ 1000000 := by rw [Hlen.out]; exact hl
  clear hl ht
  go_enter Tryz.func44, Tryz.ntmps44
  go_wp2
  have hb3 : Below w.heap.size w (((w.alloc (.cells #[.string name, .int .i64 arity, .slice A len c] 57)).alloc (.cells #[.string ⟨#[]⟩, .int .i64 0, .slice none 0 0] 57)).alloc (.cells #[.string name, .int .i64 arity, .slice none 0 0] 57)) :=
    (((Below.refl _ _).alloc (Nat.le_refl _) _).alloc (by simp) _).alloc (by simp; omega) _
  have hz3 : Blk (((w.alloc (.cells #[.string name, .int .i64 arity, .slice A len c] 57)).alloc (.cells #[.string ⟨#[]⟩, .int .i64 0, .slice none 0 0] 57)).alloc (.cells #[.string name, .int .i64 arity, .slice none 0 0] 57)) (w.heap.size + 1) 57 #[.string ⟨#[]⟩, .int .i64 0, .slice none 0 0] := by
    have := Blk.new (w.alloc (.cells #[.string name, .int .i64 arity, .slice A len c] 57)) 57 #[.string ⟨#[]⟩, .int .i64 0, .slice none 0 0]
    rw [World.size_alloc] at this
    exact this.alloc _
  have hc3 : Blk (((w.alloc (.cells #[.string name, .int .i64 arity, .slice A len c] 57)).alloc (.cells #[.string ⟨#[]⟩, .int .i64 0, .slice none 0 0] 57)).alloc (.cells #[.string name, .int .i64 arity, .slice none 0 0] 57)) (w.heap.size + 1 + 1) 57 #[.string name, .int .i64 arity, .slice none 0 0] := by
    have := Blk.new ((w.alloc (.cells #[.string name, .int .i64 arity, .slice A len c] 57)).alloc (.cells #[.string ⟨#[]⟩, .int .i64 0, .slice none 0 0] 57)) 57 #[.string name, .int .i64 arity, .slice none 0 0]
    rw [World.size_alloc, World.size_alloc] at this
    exact this
  generalize ((w.alloc (.cells #[.string name, .int .i64 arity, .slice A len c] 57)).alloc (.cells #[.string ⟨#[]⟩, .int .i64 0, .slice none 0 0] 57)).alloc (.cells #[.string name, .int .i64 arity, .slice none 0 0] 57) = W3 at *
  go_loopw [14] (fun i wr => ∃ (k : Nat) (tv : Value) (us : List Value), k ≤ len ∧ i = .int .i64 k ∧ us.length = k ∧ Blk wr (w.heap.size + 1) 57 #[.string ⟨#[]⟩, .int .i64 0, .slice none 0 0] ∧
      Blk wr (w.heap.size + 1 + 1) 57 #[.string name, .int .i64 arity, tv] ∧ wr.ownsRow (w.heap.size + 3) 25 1 tv k us ∧ OElems wr (w.heap.size + 3) us (ts.take k) ∧ Below w.heap.size w wr ∧ Apart us w.heap.size wr.heap.size) (fun i _ => len - (intOf i).toNat)
  case atStart => exact ⟨0, .slice none 0 0, [], Nat.zero_le _, rfl, rfl, hz3, hc3, World.ownsRow_nil _ _ _ _, (fun j u t h => by simp at h), hb3, Apart.nil _ _⟩
  case round =>
    obtain ⟨k, tv, us, hk, rfl, hus, hz, hc, hown, hel, hbel, hap⟩ := hrel
    clear hb3 hz3 hc3
    have Hown := Lib.hid hown; clear hown
    obtain ⟨TA, TC, rfl⟩ := own_slice Hown.out
    have hlt3 := hc.lt
    have Hus := Lib.hid hus; clear hus
    by_cases hlt : k < len
    · obtain ⟨ad, u, rfl, hb, hcu, hiu⟩ := (h.below (hbel.mono hB)).at_ hlt
      have hiu' := hiu
      obtain ⟨UA, UN, UC, rfl, -⟩ := hiu'
      have hts : ts[k]? = some (ts.getD k []) := getD_some (by rw [← Hlen.out]; exact hlt)
      have Hts := Lib.hid hts; clear hts
      have hcl2 : wr.drew.cell? ⟨w.heap.size + 1 + 1, 2, none⟩ = some (.slice TA k TC) := hc.cell 2
      have hiud : Ints wr.drew B (.slice UA UN UC) (ts.getD k []) := hiu
      have hbelz : w.heap.size ≤ wr.heap.size := hbel.size
      go_wp2
      go_region_law (first
        | (go_simp
           go_at_call 41
           refine (Hcall.out _ _ _ hiud (by simp; omega) (List.mem_of_getElem? Hts.out)).mono ?_
           rintro e w7 ⟨x, rfl, hni, hb7⟩
           have hni' := hni
           obtain ⟨XA, XN, XC, rfl, -⟩ := hni'
           have hc7 := (Blk.drew hc).below hb7 (by simp; omega)
           have hcc7 : w7.cell? ⟨w.heap.size + 1 + 1, 2, none⟩ = some (.slice TA k TC) := hc7.cell 2
           have hcc7' : (w7.alloc (.cells #[.slice XA XN XC] 25)).cell? ⟨w.heap.size + 1 + 1, 2, none⟩ = some (.slice TA k TC) := (Blk.alloc hc7 _).cell 2
           have hown7 : (w7.alloc (.cells #[.slice XA XN XC] 25)).ownsRow (w.heap.size + 3) 25 1 (.slice TA k TC) k us := World.ownsRow.alloc (own_below (w := wr.drew) Hown.out hb7) _)
        | (refine step_append_tup _ rfl _ _ rfl (w.heap.size + 3) _ k us rfl hown7 ⟨w7.heap.size, 0, none⟩ 1 (.slice XA XN XC) rfl ((Blk.new w7 25 #[.slice XA XN XC]).cell 0) rfl (by omega) (by have := hb7.size; simp at this ⊢; omega) ?_
           intro v8 w8 hown8 hg8
           obtain ⟨VA, VC, rfl⟩ := own_slice hown8
           have hc8 : Blk w8 (w.heap.size + 1 + 1) 57 #[.string name, .int .i64 arity, .slice TA k TC] := Blk.grown (Blk.alloc hc7 _) hg8 (fun e => by have := (hown7.lt _ e.symm).1; omega)
           have hcc8 : w8.cell? ⟨w.heap.size + 1 + 1, 2, none⟩ = some (.slice TA k TC) := hc8.cell 2
           have hcf8 := hc8.frozen 2))
      all_goals
        go_wp2
        have hs7 : wr.heap.size ≤ w7.heap.size := hb7.size
        have hg8' : (w7.alloc (.cells #[.slice XA XN XC] 25)).grownBy w8 (Value.slice TA k TC).ownBlock := hg8
        have hbase : ∀ g, (Value.slice TA k TC).ownBlock = some g → w.heap.size + 3 ≤ g := fun g e => (hown7.lt g e).1
        have hk7 : Keeps (w.heap.size + 3) [3] w7 (w8.setCell ⟨w.heap.size + 1 + 1, 2, none⟩ (.slice VA (k + 1) VC)) :=
          (Keeps.alloc _ _ _ _).trans ((Keeps.own hg8' hown7 (by decide)).trans (Keeps.setCell (p := ⟨w.heap.size + 1 + 1, 2, none⟩) hc8 (by decide) _))
        refine ⟨⟨k + 1, .slice VA (k + 1) VC, us ++ [.slice XA XN XC], by omega, by go_num, by rw [List.length_append, Hus.out]; rfl, ?_, hc8.set_ 2 _, own_set hown8 (show w.heap.size + 1 + 1 < w.heap.size + 3 by omega) _, ?_, ?_, ?_⟩, by simp [intOf]; omega⟩
        · exact Blk.far (Blk.grown (Blk.alloc ((Blk.drew hz).below hb7 (by simp; omega)) _) hg8' (fun e => by have := hbase _ e.symm; omega)) (by simp) _
        · rw [take_snoc Hts.out]
          exact OElems.snoc ((hel.keep ((Keeps.drewN _ _ wr 1).trans (Keeps.of_below hb7))).keep hk7) (by rw [Hus.out, List.length_take]; have := Hlen.out; omega) ((hni.more (by simp; omega)).keep hk7)
        · exact ((((hbel.drew).trans (hb7.mono hbelz)).alloc (by omega) _).grown hg8' (by simp; omega) (fun g e => by have := hbase g e; omega)).setCell (show w.heap.size ≤ w.heap.size + 1 + 1 by omega) _
        · have hs8 := hg8'.size
          rw [World.size_alloc] at hs8
          rw [World.size_setCell]
          refine hap.snoc (by omega) (by omega) fun g hg => ?_
          have h9 := hni.lt hg
          have h10 : wr.drew.heap.size = wr.heap.size := rfl
          omega
    · have hkl : k = len := by omega
      subst hkl
      have htk : ts.take k = ts := List.take_of_length_le (by have := Hlen.out; omega)
      rw [htk] at hel
      have hcc0 : wr.cell? ⟨w.heap.size + 1 + 1, 0, none⟩ = some (.string name) := hc.cell 0
      have hcc1 : wr.cell? ⟨w.heap.size + 1 + 1, 1, none⟩ = some (.int .i64 arity) := hc.cell 1
      have hcc2 : wr.cell? ⟨w.heap.size + 1 + 1, 2, none⟩ = some (.slice TA k TC) := hc.cell 2
      have hzc0 : wr.cell? ⟨w.heap.size + 1, 0, none⟩ = some (.string ⟨#[]⟩) := hz.cell 0
      have hzc1 : wr.cell? ⟨w.heap.size + 1, 1, none⟩ = some (.int .i64 0) := hz.cell 1
      have hzc2 : wr.cell? ⟨w.heap.size + 1, 2, none⟩ = some (.slice none 0 0) := hz.cell 2
      have hzf0 := hz.frozen 0
      have hzf1 := hz.frozen 1
      have hzf2 := hz.frozen 2
      have Hel := Lib.hid hel; clear htk hel
      go_wp2
      refine bodyPost_ret (v := .agg #[.string name, .int .i64 arity, .slice TA k TC]) (by simp [results, Tryz.results44, go_sem, hzc0, hzc1, hzc2]) rfl ?_
      have hk0 : Keeps (w.heap.size + 3) [3] wr (((wr.setCell ⟨w.heap.size + 1, 0, none⟩ (.string name)).setCell ⟨w.heap.size + 1, 1, none⟩ (.int .i64 arity)).setCell ⟨w.heap.size + 1, 2, none⟩ (.slice TA k TC)) :=
        (Keeps.setCell (p := ⟨w.heap.size + 1, 0, none⟩) hz (by decide) _).trans ((Keeps.setCell (p := ⟨w.heap.size + 1, 1, none⟩) (hz.set_ _ _) (by decide) _).trans (Keeps.setCell (p := ⟨w.heap.size + 1, 2, none⟩) ((hz.set_ _ _).set_ _ _) (by decide) _))
      have hlk : k = ts.length := Hlen.out
      refine ⟨_, us, rfl, by rw [Hus.out]; exact hlk, ?_, fun j x t h1 h2 => (Hel.out.keep hk0 j x t h1 h2).more (by omega), ?_, ?_⟩
      · have ho := own_set (own_set (own_set Hown.out (p := ⟨w.heap.size + 1, 0, none⟩) (show w.heap.size + 1 < w.heap.size + 3 by omega) (.string name)) (p := ⟨w.heap.size + 1, 1, none⟩) (show w.heap.size + 1 < w.heap.size + 3 by omega) (.int .i64 arity)) (p := ⟨w.heap.size + 1, 2, none⟩) (show w.heap.size + 1 < w.heap.size + 3 by omega) (.slice TA k TC)
        rw [← hlk]
        exact own_base ho (by omega)
      · exact ((hbel.setCell (by simp) _).setCell (by simp) _).setCell (by simp) _
      · rw [World.size_setCell, World.size_setCell, World.size_setCell]; exact hap

end Go.Proofs.YtelememdhpncgaaGreatDoor
