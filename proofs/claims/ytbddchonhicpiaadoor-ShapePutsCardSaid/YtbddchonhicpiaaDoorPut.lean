/-
  Walk: shape.Put.
-/
import Derived.Test.YtbddchonhicpiaaDoorPut0
import Derived.Test.YtbddchonhicpiaaDoorHas
import Derived.Deep.CutRange
import Derived.Deep.RegionLaw
namespace Go.Proofs.YtbddchonhicpiaaDoor
open Go.RowKit

set_option maxRecDepth 100000 in
set_option maxHeartbeats 400000 in
theorem put_bad (size : Int) (v : Value) (rs : List Sh.Rel) (nm : ByteArray) (u : Value) (t : List Int) (is : Bool) (w : World) (B : Nat) (hB : B ≤ w.heap.size) (h : Rels w B v rs) (ht : Ints w B u t) (he : (Sh.relForE ⟨size, rs⟩ nm.toList t.length).2 ≠ 0) :
    Calls Tryd.prog 34 #[.agg #[.int .i64 size, v], .string nm, u, .bool is] w fun e w' => e = .returned (.tuple #[.agg #[.int .i64 0, .slice none 0 0], .int .i64 (Sh.relForE ⟨size, rs⟩ nm.toList t.length).2]) ∧ Below w.heap.size w w' := by
  have h' := h
  obtain ⟨A, len, c, rfl, -⟩ := h'
  have ht' := ht
  obtain ⟨TA, TN, TC, rfl, -⟩ := ht'
  have hb2 := ((Below.refl w.heap.size w).alloc (Nat.le_refl _) (.cells #[.int .i64 size, .slice A len c] 24)).alloc (by simp) (.cells #[.int .i64 0, .slice none 0 0] 24)
  have hcall := relationFor_any size (.slice A len c) rs nm (.slice TA TN TC) t _ B (Nat.le_trans hB hb2.size) (h.below (hb2.mono hB)) (ht.below (hb2.mono hB))
  have hz := Blk.new (w.alloc (.cells #[.int .i64 size, .slice A len c] 24)) 24 #[.int .i64 0, .slice none 0 0]
  rw [World.size_alloc] at hz
  generalize Sh.relForE ⟨size, rs⟩ nm.toList t.length = re at *
  obtain ⟨i, e⟩ := re
  simp only at hcall he ⊢
  have Hcall := Lib.hid hcall; clear hcall
  have Hz := Lib.hid hz; clear hz
  have Hb2 := Lib.hid hb2; clear hb2
  have hne : (e == 0) = false := by simpa using he
  have hne' : (e != 0) = true := by simpa using he
  clear he
  go_enter Tryd.func34, Tryd.ntmps34
  go_wp2_with (go_at_call 61
               refine Hcall.out.mono ?_
               rintro e w9 ⟨rfl, hb9⟩
               have hz9 := Hz.out.below hb9 (by simp)
               have hzc0 : w9.cell? ⟨w.heap.size + 1, 0, none⟩ = some (.int .i64 0) := hz9.cell 0
               have hzc1 : w9.cell? ⟨w.heap.size + 1, 1, none⟩ = some (.slice none 0 0) := hz9.cell 1
               have hzf0 := hz9.frozen 0
               have hzf1 := hz9.frozen 1)
  refine bodyPost_ret (v := .tuple #[.agg #[.int .i64 0, .slice none 0 0], .int .i64 e]) (by simp [results, Tryd.results34, go_sem, hzc0, hzc1]) rfl ?_
  exact ⟨rfl, ((Hb2.out.trans (hb9.mono (by simp; omega))).setCell (by simp) _).setCell (by simp) _⟩

set_option maxRecDepth 100000 in
set_option maxHeartbeats 400000 in
theorem put_arg (size : Int) (v : Value) (rs : List Sh.Rel) (nm : ByteArray) (u : Value) (t : List Int) (is : Bool) (w : World) (B : Nat) (hB : B ≤ w.heap.size) (h : Rels w B v rs) (ht : Ints w B u t) (he : (Sh.relForE ⟨size, rs⟩ nm.toList t.length).2 = 0) (hin : Sh.inB size t = false) :
    Calls Tryd.prog 34 #[.agg #[.int .i64 size, v], .string nm, u, .bool is] w fun e w' => e = .returned (.tuple #[.agg #[.int .i64 0, .slice none 0 0], .int .i64 2]) ∧ Below w.heap.size w w' := by
  have h' := h
  obtain ⟨A, len, c, rfl, -⟩ := h'
  have ht' := ht
  obtain ⟨TA, TN, TC, rfl, -⟩ := ht'
  have hb2 := ((Below.refl w.heap.size w).alloc (Nat.le_refl _) (.cells #[.int .i64 size, .slice A len c] 24)).alloc (by simp) (.cells #[.int .i64 0, .slice none 0 0] 24)
  have hcall := relationFor_any size (.slice A len c) rs nm (.slice TA TN TC) t _ B (Nat.le_trans hB hb2.size) (h.below (hb2.mono hB)) (ht.below (hb2.mono hB))
  have hs := (Blk.new w 24 #[.int .i64 size, .slice A len c]).alloc (.cells #[.int .i64 0, .slice none 0 0] 24)
  have hz := Blk.new (w.alloc (.cells #[.int .i64 size, .slice A len c] 24)) 24 #[.int .i64 0, .slice none 0 0]
  rw [World.size_alloc] at hz
  have hel := fun W (hW : Below w.heap.size w W) => elements_any (.slice TA TN TC) t size W B (ht.below (hW.mono hB))
  rw [hin] at hel
  generalize Sh.relForE ⟨size, rs⟩ nm.toList t.length = re at *
  obtain ⟨i, e⟩ := re
  simp only at hcall he
  subst he
  have Hcall := Lib.hid hcall; clear hcall
  have Hel := Lib.hid hel; clear hel
  have Hs := Lib.hid hs; clear hs
  have Hz := Lib.hid hz; clear hz
  have Hb2 := Lib.hid hb2; clear hb2
  have Hin := Lib.hid hin; clear hin
  go_enter Tryd.func34, Tryd.ntmps34
  go_wp2_with (first
    | (go_at_call 61
       refine Hcall.out.mono ?_
       rintro e w9 ⟨rfl, hb9⟩
       have hz9 := Hz.out.below hb9 (by simp)
       have hs9 := Hs.out.below hb9 (by simp; omega)
       have hs0 : w9.cell? ⟨w.heap.size, 0, none⟩ = some (.int .i64 size) := hs9.cell 0
       have hzc0 : w9.cell? ⟨w.heap.size + 1, 0, none⟩ = some (.int .i64 0) := hz9.cell 0
       have hzc1 : w9.cell? ⟨w.heap.size + 1, 1, none⟩ = some (.slice none 0 0) := hz9.cell 1
       have hzf0 := hz9.frozen 0
       have hzf1 := hz9.frozen 1
       have Hb9 := Lib.hid (Hb2.out.trans (hb9.mono (by simp; omega)))
       clear hb9)
    | (go_at_call 60; refine (Hel.out _ Hb9.out).mono ?_; rintro e w' ⟨rfl, rfl⟩))
  refine bodyPost_ret (v := .tuple #[.agg #[.int .i64 0, .slice none 0 0], .int .i64 2]) (by simp [results, Tryd.results34, go_sem, hzc0, hzc1]) rfl ?_
  exact ⟨rfl, (Hb9.out.setCell (by simp) _).setCell (by simp) _⟩

set_option maxRecDepth 100000 in
set_option maxHeartbeats 2000000 in
theorem put_ok (size : Int) (v : Value) (rs : List Sh.Rel) (nm : ByteArray) (u : Value) (t : List Int) (is : Bool) (k : Nat) (r : Sh.Rel) (w : World) (B : Nat) (hB : B ≤ w.heap.size) (h : Rels w B v rs) (ht : Ints w B u t) (hvb : Sh.validB ⟨size, rs⟩ = true) (he : Sh.relForE ⟨size, rs⟩ nm.toList t.length = ((k : Int), 0)) (hr : rs[k]? = some r) (har : (t.length : Int) = r.arity) (hin : Sh.inB size t = true) :
    Calls Tryd.prog 34 #[.agg #[.int .i64 size, v], .string nm, u, .bool is] w fun e w' => ∃ x, e = .returned (.tuple #[.agg #[.int .i64 size, x], .int .i64 0]) ∧ NRels w' w.heap.size x (Sh.putR rs k t is) ∧ Below w.heap.size w w' := by
  have h' := h
  obtain ⟨A, len, c, rfl, hlen, -⟩ := h'
  have ht' := ht
  obtain ⟨TA, TN, TC, rfl, htn, -⟩ := ht'
  have hb2 := ((Below.refl w.heap.size w).alloc (Nat.le_refl _) (.cells #[.int .i64 size, .slice A len c] 24)).alloc (by simp) (.cells #[.int .i64 0, .slice none 0 0] 24)
  have hcall := relationFor_any size (.slice A len c) rs nm (.slice TA TN TC) t _ B (Nat.le_trans hB hb2.size) (h.below (hb2.mono hB)) (ht.below (hb2.mono hB))
  rw [he] at hcall
  simp only at hcall
  have hs := (Blk.new w 24 #[.int .i64 size, .slice A len c]).alloc (.cells #[.int .i64 0, .slice none 0 0] 24)
  have hz := Blk.new (w.alloc (.cells #[.int .i64 size, .slice A len c] 24)) 24 #[.int .i64 0, .slice none 0 0]
  rw [World.size_alloc] at hz
  have hel := fun W (hW : Below w.heap.size w W) => elements_any (.slice TA TN TC) t size W B (ht.below (hW.mono hB))
  rw [hin] at hel
  have hv8 := (Sh.validB_size hvb).2.2
  simp only at hv8
  have hsmall : ∀ r ∈ rs, r.tuples.length ≤ 1000000 ∧ ∀ t ∈ r.tuples, t.length ≤ 1000000 := fun r hm => by
    obtain ⟨j, hj, rfl⟩ := List.mem_iff_getElem.1 hm
    have hs := Sh.relB_small (Sh.validB_rel hvb (List.getElem?_eq_getElem hj))
    exact ⟨by have := hs.1; omega, fun t ht => by have := hs.2 t ht; omega⟩
  have hcopy := fun W (hW : Below w.heap.size w W) => copyof_own size (.slice A len c) rs W B (Nat.le_trans hB hW.size) (h.below (hW.mono hB)) (by omega) hsmall
  have hkl : k < rs.length := (List.getElem?_eq_some_iff.1 hr).1
  have hrb := Sh.validB_rel hvb hr
  have hmono := (Sh.relB_rising hrb).mono t
  have hlt12 := (Sh.relB_small hrb).1
  have htlen : t.length ≤ 12 := by
    obtain ⟨a, b, -, e2, hb, -, -⟩ := Sh.relB_arity hrb
    omega
  have Hcall := Lib.hid hcall; clear hcall
  have Hel := Lib.hid hel; clear hel
  have Hs := Lib.hid hs; clear hs
  have Hz := Lib.hid hz; clear hz
  have Hb2 := Lib.hid hb2; clear hb2
  have Hin := Lib.hid hin; clear hin
  have Hcopy := Lib.hid hcopy; clear hcopy hsmall
  have Hlen := Lib.hid hlen; clear hlen
  have Htn := Lib.hid htn; clear htn
  have Hr := Lib.hid hr; clear hr
  have Hmono := Lib.hid hmono; clear hmono
  have Hrb := Lib.hid hrb; clear hrb
  clear he hvb har

  go_enter Tryd.func34, Tryd.ntmps34
  go_upto_region 7 with (first
    | (go_at_call 61
       refine Hcall.out.mono ?_
       rintro e w1 ⟨rfl, hb1⟩
       have hs1 := Hs.out.below hb1 (by simp; omega)
       have hs0 : w1.cell? ⟨w.heap.size, 0, none⟩ = some (.int .i64 size) := hs1.cell 0
       have hs01 : w1.cell? ⟨w.heap.size, 1, none⟩ = some (.slice A len c) := hs1.cell 1
       have Hz1 := Lib.hid (Hz.out.below hb1 (by simp))
       have Hs1 := Lib.hid hs1
       have Hb1 := Lib.hid (Hb2.out.trans (hb1.mono (by simp; omega)))
       clear hb1 hs1)
    | (go_at_call 60; refine (Hel.out _ Hb1.out).mono ?_; rintro e w' ⟨rfl, rfl⟩)
    | (go_at_call 63
       refine (Hcopy.out _ Hb1.out).mono ?_
       rintro e w2 ⟨x, rfl, hox, hb2⟩
       have hs2 := Hs1.out.below hb2 Hs1.out.lt
       have hs20 : w2.cell? ⟨w.heap.size, 0, none⟩ = some (.int .i64 size) := hs2.cell 0
       have hs21 : w2.cell? ⟨w.heap.size, 1, none⟩ = some (.slice A len c) := hs2.cell 1
       have hsf0 := hs2.frozen 0
       have hsf1 := hs2.frozen 1
       obtain ⟨xs, vs, hxo, hxc, hxr⟩ := hox
       obtain ⟨XA, XC, rfl⟩ := own_slice hxo))
  have hs3 := (hs2.set_ 0 (.int .i64 size)).set_ 1 (.slice XA rs.length XC)
  have hz2 := Hz1.out.below hb2 Hz1.out.lt
  have hz3 := (hz2.far (p := ⟨w.heap.size, 0, none⟩) (show w.heap.size + 1 ≠ w.heap.size by omega) (.int .i64 size)).far (p := ⟨w.heap.size, 1, none⟩) (show w.heap.size + 1 ≠ w.heap.size by omega) (.slice XA rs.length XC)
  have hk3 : Keeps w1.heap.size [3, 35, 51] w2 ((w2.setCell ⟨w.heap.size, 0, none⟩ (.int .i64 size)).setCell ⟨w.heap.size, 1, none⟩ (.slice XA rs.length XC)) :=
    (Keeps.setCell (p := ⟨w.heap.size, 0, none⟩) hs2 (by decide) _).trans (Keeps.setCell (p := ⟨w.heap.size, 1, none⟩) (hs2.set_ 0 (.int .i64 size)) (by decide) _)
  have hxo3 := own_keeps hxo hk3 (Nat.le_refl _) (by simp)
  have hxr3 := hxr.keep (hk3.mono (by simp))
  have hbel3 : Below w.heap.size w ((w2.setCell ⟨w.heap.size, 0, none⟩ (.int .i64 size)).setCell ⟨w.heap.size, 1, none⟩ (.slice XA rs.length XC)) := ((Hb1.out.trans (hb2.mono Hb1.out.size)).setCell (p := ⟨w.heap.size, 0, none⟩) (Nat.le_refl _) _).setCell (p := ⟨w.heap.size, 1, none⟩) (Nat.le_refl _) _
  have hL3 : w1.heap.size ≤ ((w2.setCell ⟨w.heap.size, 0, none⟩ (.int .i64 size)).setCell ⟨w.heap.size, 1, none⟩ (.slice XA rs.length XC)).heap.size := Nat.le_trans hb2.size hk3.1
  have hL1 : w.heap.size + 1 < w1.heap.size := Hz1.out.lt
  clear hs20 hs21 hsf0 hsf1 hs0 hs01 hs2 hz2 hxo hxr hb2 hk3
  generalize ((w2.setCell ⟨w.heap.size, 0, none⟩ (.int .i64 size)).setCell ⟨w.heap.size, 1, none⟩ (.slice XA rs.length XC)) = W3 at *
  generalize w1.heap.size = L at *
  obtain ⟨g, cap, hXA, hLg, hgl⟩ := hxo3.form (by omega)
  injection hXA with hXA _ hcap
  subst hXA hcap
  have hvl : k < vs.length := by have := hxc.2.1; omega
  obtain ⟨vi, hvi⟩ : ∃ x, vs[k]? = some x := ⟨_, List.getElem?_eq_getElem hvl⟩
  obtain ⟨-, -, us, hul, hvo, hve⟩ := hxr3.1 k vi r hvi Hr.out
  have hx2 := (hxc.2.2 k r Hr.out).2.2
  rw [hvi] at hx2
  have hc2 : W3.cell? ⟨g, k * 3 + 2, none⟩ = some vi := by
    have := hxo3.cells (g := g) rfl _ _ hx2
    rwa [Addr.add_lit, Nat.zero_add] at this
  have hgb : ∃ cs, Blk W3 g 51 cs := by
    rcases hxo3.2 with ⟨h, -⟩ | ⟨g2, c2, k2, h, -, hh, -⟩
    · injection h with h _ _; cases h
    · injection h with h _ _
      have := Option.some.inj h
      injection this with this _ _
      subst this
      exact ⟨_, hh⟩
  obtain ⟨cs, hgb⟩ := hgb
  have hgv : some g ≠ vi.ownBlock := fun e => by
    rcases own_types hxo3 hvo (by decide) with h | h
    · cases h
    · exact h e
  have hplace := place_any vi (.slice TA TN TC) r.tuples t W3 W3.heap.size (NTups.own hvo (Nat.le_refl _) (by omega) hul hve).tups ((ht.below (hbel3.mono hB)).more (by have := hbel3.size; omega)) Hmono.out
  have hlb := Sh.lbN_le r.tuples t
  obtain ⟨VA, VC, rfl⟩ := own_slice hvo
  have hti3 := ht.below (hbel3.mono hB)
  have hputd : Sh.putR rs k t is = rs.set k ⟨r.name, r.arity, Sh.putT r.tuples t is⟩ := by
    unfold Sh.putR Sh.putRel
    rw [Sh.getD_get _ _ _ hkl]
    have := Hr.out
    rw [List.getElem?_eq_getElem hkl] at this
    rw [Option.some.inj this]
  have hputt : Sh.putT r.tuples t is = if is = true ∧ Sh.foundB r.tuples t = false then r.tuples.take (Sh.lbN r.tuples t) ++ t :: r.tuples.drop (Sh.lbN r.tuples t) else if is = false ∧ Sh.foundB r.tuples t = true then r.tuples.take (Sh.lbN r.tuples t) ++ r.tuples.drop (Sh.lbN r.tuples t + 1) else r.tuples := rfl
  have hfl : Sh.foundB r.tuples t = true → Sh.lbN r.tuples t < r.tuples.length := fun hh => by
    unfold Sh.foundB at hh
    simp only [Bool.and_eq_true, decide_eq_true_eq] at hh
    exact hh.1
  generalize Sh.lbN r.tuples t = lb at *
  generalize Sh.foundB r.tuples t = fb at *
  have Hplace := Lib.hid hplace; clear hplace
  have Hputd := Lib.hid hputd; clear hputd
  have Hputt := Lib.hid hputt; clear hputt
  have Hfl := Lib.hid hfl; clear hfl
  have Hxc := Lib.hid hxc; clear hxc
  have Hx := Lib.hid hxo3; clear hxo3
  have Hxr := Lib.hid hxr3; clear hxr3
  have Hvi := Lib.hid hvi; clear hvi hx2
  have Hvo := Lib.hid hvo; clear hvo
  have Hul := Lib.hid hul; clear hul
  have Hve := Lib.hid hve; clear hve
  have Hs3 := Lib.hid hs3
  have Hz3 := Lib.hid hz3
  have hs30 : W3.cell? ⟨w.heap.size, 0, none⟩ = some (.int .i64 size) := hs3.cell 0
  have hs31 : W3.cell? ⟨w.heap.size, 1, none⟩ = some (.slice (some ⟨g, 0, none⟩) rs.length XC) := hs3.cell 1
  clear hs3 hz3
  have hone := elems_one Hve.out Hul.out
  have Hone := Lib.hid hone; clear hone
  have Hgv := Lib.hid hgv; clear hgv
  cases is <;> cases fb
  · have Hp := Lib.hid (Hputd.out.trans (by rw [Hputt.out]; simp) : _ = rs.set k ⟨r.name, r.arity, r.tuples⟩)
    have hself : rs.set k ⟨r.name, r.arity, r.tuples⟩ = rs := by
      have e := Hr.out
      rw [List.getElem?_eq_getElem hkl] at e
      have e2 := Option.some.inj e
      subst e2
      exact List.set_getElem_self hkl
    have Hp := Lib.hid (Hp.out.trans hself); clear hself
    have hzc0 : W3.cell? ⟨w.heap.size + 1, 0, none⟩ = some (.int .i64 0) := (Hz3.out).cell 0
    have hzc1 : W3.cell? ⟨w.heap.size + 1, 1, none⟩ = some (.slice none 0 0) := (Hz3.out).cell 1
    have hzf0 := (Hz3.out).frozen 0
    have hzf1 := (Hz3.out).frozen 1
    go_wp2_with (go_at_call 62; refine Hplace.out.mono ?_; rintro e w' ⟨rfl, rfl⟩)
    refine bodyPost_ret (v := .tuple #[.agg #[.int .i64 size, .slice (some ⟨g, 0, none⟩) rs.length XC], .int .i64 0]) (by simp [results, Tryd.results34, go_sem, hzc0, hzc1]) rfl ?_
    have hk0 : Keeps L [3, 35, 51] W3 ((W3.setCell ⟨w.heap.size + 1, 0, none⟩ (.int .i64 size)).setCell ⟨w.heap.size + 1, 1, none⟩ (.slice (some ⟨g, 0, none⟩) rs.length XC)) :=
      (Keeps.setCell (p := ⟨w.heap.size + 1, 0, none⟩) (Hz3.out) (by decide) _).trans (Keeps.setCell (p := ⟨w.heap.size + 1, 1, none⟩) ((Hz3.out).set_ _ _) (by decide) _)
    refine ⟨_, rfl, ?_, ((hbel3).setCell (by simp) _).setCell (by simp) _⟩
    rw [Hp.out]
    exact ((OwnRels.rels (rs := rs) ⟨xs, vs, Hx.out, Hxc.out, Hxr.out⟩ (by omega)).keep hk0).more (by omega)
  · have Hp := Lib.hid (Hputd.out.trans (by rw [Hputt.out]; simp) : _ = rs.set k ⟨r.name, r.arity, r.tuples.take lb ++ r.tuples.drop (lb + 1)⟩)
    have hlt := Hfl.out rfl
    have hdel := delete_any _ r.tuples.length lb us L W3 hlt Hvo.out Hone.out
    rw [show ((lb + 1 : Nat) : Int) = (lb : Int) + 1 by simp] at hdel
    have Hdel := Lib.hid hdel; clear hdel
    generalize hvi0 : (Value.slice VA r.tuples.length VC) = vi0 at *
    have hvlt : ∀ b, vi0.ownBlock = some b → L ≤ b := fun b e => (Hvo.out.lt b e).1
    clear hvi0
    go_wp2_with (first
      | (go_at_call 62; refine Hplace.out.mono ?_; rintro e w' ⟨rfl, rfl⟩)
      | (go_at_call 66
         refine Hdel.out.mono ?_
         rintro e w8 ⟨v', rfl, ho8, hg8w⟩
         obtain ⟨NA, NC, rfl⟩ := own_slice ho8
         have hs8 := Hs3.out.grown hg8w (fun e => by have := hvlt _ e.symm; omega)
         have hz8 := Hz3.out.grown hg8w (fun e => by have := hvlt _ e.symm; omega)
         have hgb8 := hgb.grown hg8w Hgv.out
         have hfz8 := hgb8.frozen (k * 3 + 2)
         obtain ⟨z8, hcz8⟩ : ∃ z, w8.cell? ⟨g, k * 3 + 2, none⟩ = some z := ⟨vi0, (World.cell?_of_block (hg8w.block g hgb.lt Hgv.out)).trans hc2⟩
         have hs9 := hs8.far (p := ⟨g, k * 3 + 2, none⟩) (show w.heap.size ≠ g by omega) (.slice NA (r.tuples.length - 1) NC)
         have hz9 := hz8.far (p := ⟨g, k * 3 + 2, none⟩) (show w.heap.size + 1 ≠ g by omega) (.slice NA (r.tuples.length - 1) NC)
         have ys0 : (w8.setCell ⟨g, k * 3 + 2, none⟩ (.slice NA (r.tuples.length - 1) NC)).cell? ⟨w.heap.size, 0, none⟩ = some (.int .i64 size) := hs9.cell 0
         have ys1 : (w8.setCell ⟨g, k * 3 + 2, none⟩ (.slice NA (r.tuples.length - 1) NC)).cell? ⟨w.heap.size, 1, none⟩ = some (.slice (some ⟨g, 0, none⟩) rs.length XC) := hs9.cell 1
         have yz0 : (w8.setCell ⟨g, k * 3 + 2, none⟩ (.slice NA (r.tuples.length - 1) NC)).cell? ⟨w.heap.size + 1, 0, none⟩ = some (.int .i64 0) := hz9.cell 0
         have yz1 : (w8.setCell ⟨g, k * 3 + 2, none⟩ (.slice NA (r.tuples.length - 1) NC)).cell? ⟨w.heap.size + 1, 1, none⟩ = some (.slice none 0 0) := hz9.cell 1
         have yf0 : (w8.setCell ⟨g, k * 3 + 2, none⟩ (.slice NA (r.tuples.length - 1) NC)).frozen? ⟨w.heap.size + 1, 0, none⟩ = false := hz9.frozen 0
         have yf1 : (w8.setCell ⟨g, k * 3 + 2, none⟩ (.slice NA (r.tuples.length - 1) NC)).frozen? ⟨w.heap.size + 1, 1, none⟩ = false := hz9.frozen 1))
    have hzc0 := yz0
    have hzc1 := yz1
    have hnr := put_final (r' := ⟨r.name, r.arity, r.tuples.take lb ++ r.tuples.drop (lb + 1)⟩) rfl (by omega) Hx.out Hxc.out Hxr.out Hr.out Hvi.out rfl rfl hg8w ho8 (by omega) (by simp; have := Hul.out; omega) (elems_delete (Hve.out.keep (Keeps.own hg8w Hvo.out (by decide))) Hul.out (by have := Hul.out; omega))
    have hbel9 : Below w.heap.size w (w8.setCell ⟨g, k * 3 + 2, none⟩ (.slice NA (r.tuples.length - 1) NC)) := (hbel3.grown hg8w hbel3.size (fun b e => by have := hvlt b e; omega)).setCell (show w.heap.size ≤ g by omega) _
    refine bodyPost_ret (v := .tuple #[.agg #[.int .i64 size, .slice (some ⟨g, 0, none⟩) rs.length XC], .int .i64 0]) (by simp [results, Tryd.results34, go_sem, hzc0, hzc1]) rfl ?_
    have hk0 : Keeps L [3, 35, 51] (w8.setCell ⟨g, k * 3 + 2, none⟩ (.slice NA (r.tuples.length - 1) NC)) (((w8.setCell ⟨g, k * 3 + 2, none⟩ (.slice NA (r.tuples.length - 1) NC)).setCell ⟨w.heap.size + 1, 0, none⟩ (.int .i64 size)).setCell ⟨w.heap.size + 1, 1, none⟩ (.slice (some ⟨g, 0, none⟩) rs.length XC)) :=
      (Keeps.setCell (p := ⟨w.heap.size + 1, 0, none⟩) (hz9) (by decide) _).trans (Keeps.setCell (p := ⟨w.heap.size + 1, 1, none⟩) ((hz9).set_ _ _) (by decide) _)
    refine ⟨_, rfl, ?_, ((hbel9).setCell (by simp) _).setCell (by simp) _⟩
    rw [Hp.out]
    exact ((hnr).keep hk0).more (by omega)
  · have Hp := Lib.hid (Hputd.out.trans (by rw [Hputt.out]; simp) : _ = rs.set k ⟨r.name, r.arity, r.tuples.take lb ++ t :: r.tuples.drop lb⟩)
    generalize hvi0 : (Value.slice VA r.tuples.length VC) = vi0 at *
    have hvlt : ∀ b, vi0.ownBlock = some b → L ≤ b ∧ b < W3.heap.size := fun b e => Hvo.out.lt b e
    have hcp := copytuple_any (.slice TA TN TC) t W3.drew W3.heap.size (Nat.le_refl _) ((ht.below (hbel3.mono hB)).more (by have := hbel3.size; omega)) (by omega)
    have Hcp := Lib.hid hcp; clear hcp
    have hc2d : W3.drew.cell? ⟨g, k * 3 + 2, none⟩ = some vi0 := hc2
    go_wp2_with (go_at_call 62; refine Hplace.out.mono ?_; rintro e w' ⟨rfl, rfl⟩)
    go_region_law (first
      | (go_simp
         go_at_call 65
         refine Hcp.out.mono ?_
         rintro e w7 ⟨y, rfl, hny, hb7⟩
         have hny' := hny
         obtain ⟨YA, YN, YC, rfl, -⟩ := hny'
         have hs7 : W3.heap.size ≤ w7.heap.size := hb7.size
         have hgb7 := hgb.drew.below hb7 hgb.lt
         have hc7 : w7.cell? ⟨g, k * 3 + 2, none⟩ = some vi0 := (hb7.cell (p := ⟨g, k * 3 + 2, none⟩) hgb.lt).trans hc2d
         have hc7a : (w7.alloc (.cells #[.slice YA YN YC] 35)).cell? ⟨g, k * 3 + 2, none⟩ = some vi0 := (World.cell?_alloc_lt _ _ _ (show g < w7.heap.size by have := hgb.lt; omega)).trans hc7
         have ho7 := World.ownsRow.alloc (own_below (w := W3.drew) Hvo.out hb7) (.cells #[.slice YA YN YC] 35))
      | (go_simp
         go_at_call 64
         refine (insert_any _ r.tuples.length lb us L _ hlb ho7 Hone.out w7.heap.size (.slice YA YN YC) (Blk.new w7 35 #[.slice YA YN YC]) (fun e => by have := (hvlt _ e).2; omega) rfl (by omega) (by simp; omega)).mono ?_
         rintro e w8 ⟨v', rfl, ho8, hg8⟩
         obtain ⟨NA, NC, rfl⟩ := own_slice ho8
         have hg8w : W3.grownBy w8 vi0.ownBlock := grown_trans ⟨hb7.os, hb7.tape, hb7.output, hb7.size, fun i hi _ => hb7.block i hi⟩ (grown_trans (World.grownBy_alloc w7 _ _) hg8)
         have hvlt' := fun b e => (hvlt b e).1
         have hs8 := Hs3.out.grown hg8w (fun e => by have := hvlt' _ e.symm; omega)
         have hz8 := Hz3.out.grown hg8w (fun e => by have := hvlt' _ e.symm; omega)
         have hgb8 := hgb.grown hg8w Hgv.out
         have hfz8 := hgb8.frozen (k * 3 + 2)
         obtain ⟨z8, hcz8⟩ : ∃ z, w8.cell? ⟨g, k * 3 + 2, none⟩ = some z := ⟨vi0, (World.cell?_of_block (hg8w.block g hgb.lt Hgv.out)).trans hc2⟩
         have hs9 := hs8.far (p := ⟨g, k * 3 + 2, none⟩) (show w.heap.size ≠ g by omega) (.slice NA (r.tuples.length + 1) NC)
         have hz9 := hz8.far (p := ⟨g, k * 3 + 2, none⟩) (show w.heap.size + 1 ≠ g by omega) (.slice NA (r.tuples.length + 1) NC)
         have ys0 : (w8.setCell ⟨g, k * 3 + 2, none⟩ (.slice NA (r.tuples.length + 1) NC)).cell? ⟨w.heap.size, 0, none⟩ = some (.int .i64 size) := hs9.cell 0
         have ys1 : (w8.setCell ⟨g, k * 3 + 2, none⟩ (.slice NA (r.tuples.length + 1) NC)).cell? ⟨w.heap.size, 1, none⟩ = some (.slice (some ⟨g, 0, none⟩) rs.length XC) := hs9.cell 1
         have yz0 : (w8.setCell ⟨g, k * 3 + 2, none⟩ (.slice NA (r.tuples.length + 1) NC)).cell? ⟨w.heap.size + 1, 0, none⟩ = some (.int .i64 0) := hz9.cell 0
         have yz1 : (w8.setCell ⟨g, k * 3 + 2, none⟩ (.slice NA (r.tuples.length + 1) NC)).cell? ⟨w.heap.size + 1, 1, none⟩ = some (.slice none 0 0) := hz9.cell 1
         have yf0 : (w8.setCell ⟨g, k * 3 + 2, none⟩ (.slice NA (r.tuples.length + 1) NC)).frozen? ⟨w.heap.size + 1, 0, none⟩ = false := hz9.frozen 0
         have yf1 : (w8.setCell ⟨g, k * 3 + 2, none⟩ (.slice NA (r.tuples.length + 1) NC)).frozen? ⟨w.heap.size + 1, 1, none⟩ = false := hz9.frozen 1))
    all_goals
      go_wp2
      have hzc0 := yz0
      have hzc1 := yz1
      have hk78 : Keeps L [3] w7 w8 := (Keeps.alloc _ _ _ _).trans (Keeps.own hg8 ho7 (by decide))
      have hnr := put_final (r' := ⟨r.name, r.arity, r.tuples.take lb ++ t :: r.tuples.drop lb⟩) rfl (by omega) Hx.out Hxc.out Hxr.out Hr.out Hvi.out rfl rfl hg8w ho8 (by omega) (by simp; have := Hul.out; omega) (elems_insert (Hve.out.keep (Keeps.own hg8w Hvo.out (by decide))) Hul.out (by have := Hul.out; omega) ((hny.more hL3).keep hk78))
      have hbel9 : Below w.heap.size w (w8.setCell ⟨g, k * 3 + 2, none⟩ (.slice NA (r.tuples.length + 1) NC)) := (hbel3.grown hg8w hbel3.size (fun b e => by have := (hvlt b e).1; omega)).setCell (show w.heap.size ≤ g by omega) _
      refine bodyPost_ret (v := .tuple #[.agg #[.int .i64 size, .slice (some ⟨g, 0, none⟩) rs.length XC], .int .i64 0]) (by simp [results, Tryd.results34, go_sem, hzc0, hzc1]) rfl ?_
      have hk0 : Keeps L [3, 35, 51] (w8.setCell ⟨g, k * 3 + 2, none⟩ (.slice NA (r.tuples.length + 1) NC)) (((w8.setCell ⟨g, k * 3 + 2, none⟩ (.slice NA (r.tuples.length + 1) NC)).setCell ⟨w.heap.size + 1, 0, none⟩ (.int .i64 size)).setCell ⟨w.heap.size + 1, 1, none⟩ (.slice (some ⟨g, 0, none⟩) rs.length XC)) :=
        (Keeps.setCell (p := ⟨w.heap.size + 1, 0, none⟩) (hz9) (by decide) _).trans (Keeps.setCell (p := ⟨w.heap.size + 1, 1, none⟩) ((hz9).set_ _ _) (by decide) _)
      refine ⟨_, rfl, ?_, ((hbel9).setCell (by simp) _).setCell (by simp) _⟩
      rw [Hp.out]
      exact ((hnr).keep hk0).more (by omega)
  · have Hp := Lib.hid (Hputd.out.trans (by rw [Hputt.out]; simp) : _ = rs.set k ⟨r.name, r.arity, r.tuples⟩)
    have hself : rs.set k ⟨r.name, r.arity, r.tuples⟩ = rs := by
      have e := Hr.out
      rw [List.getElem?_eq_getElem hkl] at e
      have e2 := Option.some.inj e
      subst e2
      exact List.set_getElem_self hkl
    have Hp := Lib.hid (Hp.out.trans hself); clear hself
    have hzc0 : W3.cell? ⟨w.heap.size + 1, 0, none⟩ = some (.int .i64 0) := (Hz3.out).cell 0
    have hzc1 : W3.cell? ⟨w.heap.size + 1, 1, none⟩ = some (.slice none 0 0) := (Hz3.out).cell 1
    have hzf0 := (Hz3.out).frozen 0
    have hzf1 := (Hz3.out).frozen 1
    go_wp2_with (go_at_call 62; refine Hplace.out.mono ?_; rintro e w' ⟨rfl, rfl⟩)
    refine bodyPost_ret (v := .tuple #[.agg #[.int .i64 size, .slice (some ⟨g, 0, none⟩) rs.length XC], .int .i64 0]) (by simp [results, Tryd.results34, go_sem, hzc0, hzc1]) rfl ?_
    have hk0 : Keeps L [3, 35, 51] W3 ((W3.setCell ⟨w.heap.size + 1, 0, none⟩ (.int .i64 size)).setCell ⟨w.heap.size + 1, 1, none⟩ (.slice (some ⟨g, 0, none⟩) rs.length XC)) :=
      (Keeps.setCell (p := ⟨w.heap.size + 1, 0, none⟩) (Hz3.out) (by decide) _).trans (Keeps.setCell (p := ⟨w.heap.size + 1, 1, none⟩) ((Hz3.out).set_ _ _) (by decide) _)
    refine ⟨_, rfl, ?_, ((hbel3).setCell (by simp) _).setCell (by simp) _⟩
    rw [Hp.out]
    exact ((OwnRels.rels (rs := rs) ⟨xs, vs, Hx.out, Hxc.out, Hxr.out⟩ (by omega)).keep hk0).more (by omega)

end Go.Proofs.YtbddchonhicpiaaDoor
