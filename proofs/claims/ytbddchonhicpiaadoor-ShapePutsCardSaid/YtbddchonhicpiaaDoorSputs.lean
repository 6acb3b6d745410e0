/-
  Walk: ShapePuts.
-/
import Derived.Test.YtbddchonhicpiaaDoorRput
import Derived.Test.YtbddchonhicpiaaDoorPut
import Derived.Test.YtbddchonhicpiaaDoorRamong
import Derived.Test.YtbddchonhicpiaaDoorSame
import Derived.Test.YtbddchonhicpiaaDoorFew
import Derived.Test.YtbddchonhicpiaaDoorAlive
import Derived.Test.YtbddchonhicpiaaDoorRvalid
namespace Go.Proofs.YtbddchonhicpiaaDoor
open Go.RowKit

namespace Sh
/-- What the reference's tests say of a call: no such name, another arity, found. -/
theorem puts_cases (nm : List UInt8) (t : List Int) (rs : List Rel) : nameI nm rs = -1 ∨ (∃ (k : Nat) (r : Rel), nameI nm rs = k ∧ rs[k]? = some r ∧ r.name.toList = nm) := by
  unfold nameI
  cases h : rs.findIdx? (fun r => r.name.toList == nm) with
  | none => exact .inl rfl
  | some k =>
    obtain ⟨hk, he, -⟩ := List.findIdx?_eq_some_iff_getElem.1 h
    exact .inr ⟨k, rs[k], rfl, List.getElem?_eq_getElem hk, by simpa using he⟩
theorem nodup_valid {size : Int} {rs : List Rel} (h : validB ⟨size, rs⟩ = true) : (rs.map (·.name.toList)).Nodup := ((validB_iff size rs).1 h).2.2.2.2
theorem relFor_form {size : Int} {rs : List Rel} (h : validB ⟨size, rs⟩ = false) (nm : List UInt8) (k : Int) : relForE ⟨size, rs⟩ nm k = (0, 1) := by unfold relForE; rw [if_pos h]
theorem relFor_none {size : Int} {rs : List Rel} (h : validB ⟨size, rs⟩ = true) {nm : List UInt8} (hn : nameI nm rs = -1) (k : Int) : (relForE ⟨size, rs⟩ nm k).2 = 4 := by
  have hf : findI nm k rs < 0 := by
    unfold findI
    cases hq : rs.findIdx? (symB nm k) with
    | none => simp
    | some j =>
      obtain ⟨hj, he, -⟩ := List.findIdx?_eq_some_iff_getElem.1 hq
      unfold symB at he
      simp only [Bool.and_eq_true] at he
      unfold nameI at hn
      cases hx : rs.findIdx? (fun r => r.name.toList == nm) with
      | none =>
        rw [List.findIdx?_eq_none_iff] at hx
        have := hx rs[j] (List.getElem_mem hj)
        rw [he.1] at this
        cases this
      | some i => rw [hx] at hn; simp at hn
  unfold relForE
  rw [if_neg (by rw [h]; simp), if_pos hf]
theorem relFor_arity {size : Int} {rs : List Rel} (h : validB ⟨size, rs⟩ = true) {nm : List UInt8} {k : Nat} {r : Rel} (hr : rs[k]? = some r) (he : r.name.toList = nm) {n : Int} (ha : r.arity ≠ n) : (relForE ⟨size, rs⟩ nm n).2 = 4 := by
  have hf : findI nm n rs < 0 := by rw [find_name (nodup_valid h) hr he, if_neg ha]; decide
  unfold relForE
  rw [if_neg (by rw [h]; simp), if_pos hf]
theorem relFor_hit {size : Int} {rs : List Rel} (h : validB ⟨size, rs⟩ = true) {nm : List UInt8} {k : Nat} {r : Rel} (hr : rs[k]? = some r) (he : r.name.toList = nm) {n : Int} (ha : r.arity = n) : findI nm n rs = k := by rw [find_name (nodup_valid h) hr he, if_pos ha]
theorem hasE_bad {size : Int} {rs : List Rel} {nm : List UInt8} {t : List Int} {b : Int} (h : (relForE ⟨size, rs⟩ nm t.length).2 = b) (hb : b ≠ 0) : hasE ⟨size, rs⟩ nm t = (false, b) := by
  unfold hasE
  rw [if_pos (by rw [h]; exact hb), h]
end Sh

set_option maxRecDepth 100000 in
set_option maxHeartbeats 4000000 in
theorem sputs_form (size : Int) (v : Value) (rs : List Sh.Rel) (nm : ByteArray) (u : Value) (t : List Int) (is : Bool) (w : World) (h : Rels w w.heap.size v rs) (ht : Ints w w.heap.size u t) (hv : Vars w) (hw : 5 ≤ w.heap.size) (n : Int) (hni : Sh.nameI nm.toList rs = n) (hvb : Sh.validB ⟨size, rs⟩ = false) :
    Calls Tryd.prog 6 #[.agg #[.int .i64 size, v], .agg #[.string nm, u, .bool is]] w fun e w' => e = .returned (.bool true) ∧ Below w.heap.size w w' := by
  have h' := h
  obtain ⟨A, len, c, rfl, hlen, -⟩ := h'
  have ht' := ht
  obtain ⟨TA, TN, TC, rfl, htn, -⟩ := ht'
  have Htn := Lib.hid htn; clear htn
  have Hlen := Lib.hid hlen; clear hlen
  have hbad : (Sh.relForE ⟨size, rs⟩ nm.toList t.length).2 = 1 := by rw [Sh.relFor_form hvb]
  have hhas : Sh.hasE ⟨size, rs⟩ nm.toList t = (false, 1) := Sh.hasE_bad hbad (by decide)
  have Hbad := Lib.hid hbad; clear hbad
  have Hhas := Lib.hid hhas; clear hhas
  have Hni := Lib.hid hni; clear hni
  have Hvb := Lib.hid hvb; clear hvb
  go_enter Tryd.func6, Tryd.ntmps6
  go_wp2
  go_quiet (fail)
  have hbq : Below w.heap.size w (((w.alloc (.cells #[.int .i64 size, .slice A len c] 24)).alloc (.cells #[.string nm, .slice TA TN TC, .bool is] 47)).drewN nq) := below_drewN (((Below.refl w.heap.size w).alloc (Nat.le_refl _) _).alloc (by simp) _) nq
  have hsq : Blk (((w.alloc (.cells #[.int .i64 size, .slice A len c] 24)).alloc (.cells #[.string nm, .slice TA TN TC, .bool is] 47)).drewN nq) w.heap.size 24 #[.int .i64 size, .slice A len c] := ((Blk.new w 24 #[.int .i64 size, .slice A len c]).alloc _).drewN nq
  generalize ((w.alloc (.cells #[.int .i64 size, .slice A len c] 24)).alloc (.cells #[.string nm, .slice TA TN TC, .bool is] 47)).drewN nq = wq at *
  have hbel := hbq.alloc hbq.size (.cells #[.int .i64 size, .slice A len c] 24)
  have hsb := hsq.alloc (.cells #[.int .i64 size, .slice A len c] 24)
  have hvar := Blk.new wq 24 #[.int .i64 size, .slice A len c]
  have hrels := h.below hbel
  have hvs := hv.below hbel hw
  have q0 : wq.cell? ⟨w.heap.size, 0, none⟩ = some (.int .i64 size) := hsq.cell 0
  have q1 : wq.cell? ⟨w.heap.size, 1, none⟩ = some (.slice A len c) := hsq.cell 1
  have q2 : (wq.alloc (.cells #[.int .i64 size, .slice A len c] 24)).cell? ⟨w.heap.size, 0, none⟩ = some (.int .i64 size) := hsb.cell 0
  have q3 : (wq.alloc (.cells #[.int .i64 size, .slice A len c] 24)).cell? ⟨w.heap.size, 1, none⟩ = some (.slice A len c) := hsb.cell 1
  have Hs := Lib.hid hsb; clear hsb
  have Hbel := Lib.hid hbel; clear hbel
  have Hvar := Lib.hid hvar; clear hvar
  have Hrels := Lib.hid hrels; clear hrels
  have Hvs := Lib.hid hvs; clear hvs
  clear hbq hsq
  go_wp2_with (first
    | (go_at_call 12
       refine (few_any wq.heap.size size A len c _ rs _ Hvar.out Hrels.out).mono ?_
       rintro e w1 ⟨⟨b1, rfl⟩, rfl⟩)
    | (go_at_call 30
       refine (reffind_any size _ rs nm _ w.heap.size Hbel.out.size Hrels.out).mono ?_
       rw [Hni.out]
       rintro e w2 ⟨rfl, hb2⟩
       have Hs2 := Lib.hid (Hs.out.below hb2 Hs.out.lt)
       have Hbel2 := Lib.hid (Hbel.out.trans (hb2.mono Hbel.out.size))
       have x20 : w2.cell? ⟨w.heap.size, 0, none⟩ = some (.int .i64 size) := Hs2.out.cell 0
       have x21 : w2.cell? ⟨w.heap.size, 1, none⟩ = some (.slice A len c) := Hs2.out.cell 1
       clear hb2)
    | (go_at_call 14
       refine (refvalid_any size _ rs _ w.heap.size Hbel2.out.size (h.below Hbel2.out)).mono ?_
       rw [Hvb.out]
       rintro e w3 ⟨rfl, hb3⟩
       have Hs3 := Lib.hid (Hs2.out.below hb3 Hs2.out.lt)
       have Hbel3 := Lib.hid (Hbel2.out.trans (hb3.mono Hbel2.out.size))
       have x30 : w3.cell? ⟨w.heap.size, 0, none⟩ = some (.int .i64 size) := Hs3.out.cell 0
       have x31 : w3.cell? ⟨w.heap.size, 1, none⟩ = some (.slice A len c) := Hs3.out.cell 1
       skip
       clear hb3)
    | (go_at_call 31
       refine (has_any size _ rs nm _ t _ w.heap.size Hbel3.out.size (h.below Hbel3.out) (ht.below Hbel3.out)).mono ?_
       rw [Hhas.out]
       rintro e w4 ⟨rfl, hb4⟩
       have Hs4 := Lib.hid (Hs3.out.below hb4 Hs3.out.lt)
       have Hbel4 := Lib.hid (Hbel3.out.trans (hb4.mono Hbel3.out.size))
       have x40 : w4.cell? ⟨w.heap.size, 0, none⟩ = some (.int .i64 size) := Hs4.out.cell 0
       have x41 : w4.cell? ⟨w.heap.size, 1, none⟩ = some (.slice A len c) := Hs4.out.cell 1
       skip
       clear hb4)
    | (go_at_call 34
       refine (put_bad size _ rs nm _ t is _ w.heap.size Hbel4.out.size (h.below Hbel4.out) (ht.below Hbel4.out) (by rw [Hbad.out]; decide)).mono ?_
       rw [Hbad.out]
       rintro e w5 ⟨rfl, hb5⟩
       have Hbel5 := Lib.hid (((Hbel4.out.trans (hb5.mono Hbel4.out.size)).alloc (Nat.le_trans Hbel4.out.size hb5.size) (.cells #[.int .i64 0, .slice none 0 0] 24)).alloc (by simp; exact Nat.le_succ_of_le (Nat.le_trans Hbel4.out.size hb5.size)) (.cells #[.int .i64 0, .slice none 0 0] 24))
       clear hb5)
    | (go_at_call 36
       refine (is_bad 0 _ [] 1 (by decide) _ 0 (Rels.nil _ 0)).mono ?_
       rintro e w9 ⟨rfl, hb9⟩
       have Hbel9 := Lib.hid (Hbel5.out.trans (hb9.mono Hbel5.out.size)))
    | (go_at_call 13
       refine (alive_any _ (hv.below Hbel9.out hw) (Nat.le_trans hw (Below.size Hbel9.out))).mono ?_
       rintro e w12 ⟨rfl, hb12⟩
       have Hb12 := Lib.hid (Below.trans Hbel9.out (hb12.mono (Below.size Hbel9.out))))
    | (go_at_call 13
       refine (alive_any _ Hvs.out (Nat.le_trans hw (Below.size Hbel.out))).mono ?_
       rintro e w12 ⟨rfl, hb12⟩
       have Hb12 := Lib.hid (Below.trans Hbel.out (hb12.mono (Below.size Hbel.out)))))
  all_goals (
    refine ⟨rfl, .bool true, ?_, rfl, Hb12.out⟩
    simp [results, Tryd.results6, Tryd.f6, go_sem])

set_option maxRecDepth 100000 in
set_option maxHeartbeats 4000000 in
theorem sputs_none (size : Int) (v : Value) (rs : List Sh.Rel) (nm : ByteArray) (u : Value) (t : List Int) (is : Bool) (w : World) (h : Rels w w.heap.size v rs) (ht : Ints w w.heap.size u t) (hv : Vars w) (hw : 5 ≤ w.heap.size) (hni : Sh.nameI nm.toList rs = -1) (hvb : Sh.validB ⟨size, rs⟩ = true) :
    Calls Tryd.prog 6 #[.agg #[.int .i64 size, v], .agg #[.string nm, u, .bool is]] w fun e w' => e = .returned (.bool true) ∧ Below w.heap.size w w' := by
  have h' := h
  obtain ⟨A, len, c, rfl, hlen, -⟩ := h'
  have ht' := ht
  obtain ⟨TA, TN, TC, rfl, htn, -⟩ := ht'
  have Htn := Lib.hid htn; clear htn
  have Hlen := Lib.hid hlen; clear hlen
  have hbad : (Sh.relForE ⟨size, rs⟩ nm.toList t.length).2 = 4 := Sh.relFor_none hvb hni _
  have hhas : Sh.hasE ⟨size, rs⟩ nm.toList t = (false, 4) := Sh.hasE_bad hbad (by decide)
  have Hbad := Lib.hid hbad; clear hbad
  have Hhas := Lib.hid hhas; clear hhas
  have Hni := Lib.hid hni; clear hni
  have Hvb := Lib.hid hvb; clear hvb
  go_enter Tryd.func6, Tryd.ntmps6
  go_wp2
  go_quiet (fail)
  have hbq : Below w.heap.size w (((w.alloc (.cells #[.int .i64 size, .slice A len c] 24)).alloc (.cells #[.string nm, .slice TA TN TC, .bool is] 47)).drewN nq) := below_drewN (((Below.refl w.heap.size w).alloc (Nat.le_refl _) _).alloc (by simp) _) nq
  have hsq : Blk (((w.alloc (.cells #[.int .i64 size, .slice A len c] 24)).alloc (.cells #[.string nm, .slice TA TN TC, .bool is] 47)).drewN nq) w.heap.size 24 #[.int .i64 size, .slice A len c] := ((Blk.new w 24 #[.int .i64 size, .slice A len c]).alloc _).drewN nq
  generalize ((w.alloc (.cells #[.int .i64 size, .slice A len c] 24)).alloc (.cells #[.string nm, .slice TA TN TC, .bool is] 47)).drewN nq = wq at *
  have hbel := hbq.alloc hbq.size (.cells #[.int .i64 size, .slice A len c] 24)
  have hsb := hsq.alloc (.cells #[.int .i64 size, .slice A len c] 24)
  have hvar := Blk.new wq 24 #[.int .i64 size, .slice A len c]
  have hrels := h.below hbel
  have hvs := hv.below hbel hw
  have q0 : wq.cell? ⟨w.heap.size, 0, none⟩ = some (.int .i64 size) := hsq.cell 0
  have q1 : wq.cell? ⟨w.heap.size, 1, none⟩ = some (.slice A len c) := hsq.cell 1
  have q2 : (wq.alloc (.cells #[.int .i64 size, .slice A len c] 24)).cell? ⟨w.heap.size, 0, none⟩ = some (.int .i64 size) := hsb.cell 0
  have q3 : (wq.alloc (.cells #[.int .i64 size, .slice A len c] 24)).cell? ⟨w.heap.size, 1, none⟩ = some (.slice A len c) := hsb.cell 1
  have Hs := Lib.hid hsb; clear hsb
  have Hbel := Lib.hid hbel; clear hbel
  have Hvar := Lib.hid hvar; clear hvar
  have Hrels := Lib.hid hrels; clear hrels
  have Hvs := Lib.hid hvs; clear hvs
  clear hbq hsq
  go_wp2_with (first
    | (go_at_call 12
       refine (few_any wq.heap.size size A len c _ rs _ Hvar.out Hrels.out).mono ?_
       rintro e w1 ⟨⟨b1, rfl⟩, rfl⟩)
    | (go_at_call 30
       refine (reffind_any size _ rs nm _ w.heap.size Hbel.out.size Hrels.out).mono ?_
       rw [Hni.out]
       rintro e w2 ⟨rfl, hb2⟩
       have Hs2 := Lib.hid (Hs.out.below hb2 Hs.out.lt)
       have Hbel2 := Lib.hid (Hbel.out.trans (hb2.mono Hbel.out.size))
       have x20 : w2.cell? ⟨w.heap.size, 0, none⟩ = some (.int .i64 size) := Hs2.out.cell 0
       have x21 : w2.cell? ⟨w.heap.size, 1, none⟩ = some (.slice A len c) := Hs2.out.cell 1
       clear hb2)
    | (go_at_call 14
       refine (refvalid_any size _ rs _ w.heap.size Hbel2.out.size (h.below Hbel2.out)).mono ?_
       rw [Hvb.out]
       rintro e w3 ⟨rfl, hb3⟩
       have Hs3 := Lib.hid (Hs2.out.below hb3 Hs2.out.lt)
       have Hbel3 := Lib.hid (Hbel2.out.trans (hb3.mono Hbel2.out.size))
       have x30 : w3.cell? ⟨w.heap.size, 0, none⟩ = some (.int .i64 size) := Hs3.out.cell 0
       have x31 : w3.cell? ⟨w.heap.size, 1, none⟩ = some (.slice A len c) := Hs3.out.cell 1
       skip
       clear hb3)
    | (go_at_call 31
       refine (has_any size _ rs nm _ t _ w.heap.size Hbel3.out.size (h.below Hbel3.out) (ht.below Hbel3.out)).mono ?_
       rw [Hhas.out]
       rintro e w4 ⟨rfl, hb4⟩
       have Hs4 := Lib.hid (Hs3.out.below hb4 Hs3.out.lt)
       have Hbel4 := Lib.hid (Hbel3.out.trans (hb4.mono Hbel3.out.size))
       have x40 : w4.cell? ⟨w.heap.size, 0, none⟩ = some (.int .i64 size) := Hs4.out.cell 0
       have x41 : w4.cell? ⟨w.heap.size, 1, none⟩ = some (.slice A len c) := Hs4.out.cell 1
       skip
       clear hb4)
    | (go_at_call 34
       refine (put_bad size _ rs nm _ t is _ w.heap.size Hbel4.out.size (h.below Hbel4.out) (ht.below Hbel4.out) (by rw [Hbad.out]; decide)).mono ?_
       rw [Hbad.out]
       rintro e w5 ⟨rfl, hb5⟩
       have Hbel5 := Lib.hid (((Hbel4.out.trans (hb5.mono Hbel4.out.size)).alloc (Nat.le_trans Hbel4.out.size hb5.size) (.cells #[.int .i64 0, .slice none 0 0] 24)).alloc (by simp; exact Nat.le_succ_of_le (Nat.le_trans Hbel4.out.size hb5.size)) (.cells #[.int .i64 0, .slice none 0 0] 24))
       clear hb5)
    | (go_at_call 36
       refine (is_bad 0 _ [] 4 (by decide) _ 0 (Rels.nil _ 0)).mono ?_
       rintro e w9 ⟨rfl, hb9⟩
       have Hbel9 := Lib.hid (Hbel5.out.trans (hb9.mono Hbel5.out.size)))
    | (go_at_call 13
       refine (alive_any _ (hv.below Hbel9.out hw) (Nat.le_trans hw (Below.size Hbel9.out))).mono ?_
       rintro e w12 ⟨rfl, hb12⟩
       have Hb12 := Lib.hid (Below.trans Hbel9.out (hb12.mono (Below.size Hbel9.out))))
    | (go_at_call 13
       refine (alive_any _ Hvs.out (Nat.le_trans hw (Below.size Hbel.out))).mono ?_
       rintro e w12 ⟨rfl, hb12⟩
       have Hb12 := Lib.hid (Below.trans Hbel.out (hb12.mono (Below.size Hbel.out)))))
  all_goals (
    refine ⟨rfl, .bool true, ?_, rfl, Hb12.out⟩
    simp [results, Tryd.results6, Tryd.f6, go_sem])

set_option maxRecDepth 100000 in
set_option maxHeartbeats 4000000 in
theorem sputs_arity (size : Int) (v : Value) (rs : List Sh.Rel) (nm : ByteArray) (u : Value) (t : List Int) (is : Bool) (w : World) (h : Rels w w.heap.size v rs) (ht : Ints w w.heap.size u t) (hv : Vars w) (hw : 5 ≤ w.heap.size) (k : Nat) (r : Sh.Rel) (hni : Sh.nameI nm.toList rs = k) (hr : rs[k]? = some r) (hnr : r.name.toList = nm.toList) (har : r.arity ≠ t.length) (hvb : Sh.validB ⟨size, rs⟩ = true) :
    Calls Tryd.prog 6 #[.agg #[.int .i64 size, v], .agg #[.string nm, u, .bool is]] w fun e w' => e = .returned (.bool true) ∧ Below w.heap.size w w' := by
  have h' := h
  obtain ⟨A, len, c, rfl, hlen, -⟩ := h'
  have ht' := ht
  obtain ⟨TA, TN, TC, rfl, htn, -⟩ := ht'
  have Htn := Lib.hid htn; clear htn
  have Hlen := Lib.hid hlen; clear hlen
  have hkl : k < len := by have := (List.getElem?_eq_some_iff.1 hr).1; have := Hlen.out; omega
  have hbad : (Sh.relForE ⟨size, rs⟩ nm.toList t.length).2 = 4 := Sh.relFor_arity hvb hr hnr har
  have hhas : Sh.hasE ⟨size, rs⟩ nm.toList t = (false, 4) := Sh.hasE_bad hbad (by decide)
  have har2 : (r.arity != (TN : Int)) = true := by rw [Htn.out]; simpa using har
  have Hbad := Lib.hid hbad; clear hbad
  have Hhas := Lib.hid hhas; clear hhas
  have Hni := Lib.hid hni; clear hni
  have Hvb := Lib.hid hvb; clear hvb
  have Hr := Lib.hid hr; clear hr hnr har
  go_enter Tryd.func6, Tryd.ntmps6
  go_wp2
  go_quiet (fail)
  have hbq : Below w.heap.size w (((w.alloc (.cells #[.int .i64 size, .slice A len c] 24)).alloc (.cells #[.string nm, .slice TA TN TC, .bool is] 47)).drewN nq) := below_drewN (((Below.refl w.heap.size w).alloc (Nat.le_refl _) _).alloc (by simp) _) nq
  have hsq : Blk (((w.alloc (.cells #[.int .i64 size, .slice A len c] 24)).alloc (.cells #[.string nm, .slice TA TN TC, .bool is] 47)).drewN nq) w.heap.size 24 #[.int .i64 size, .slice A len c] := ((Blk.new w 24 #[.int .i64 size, .slice A len c]).alloc _).drewN nq
  generalize ((w.alloc (.cells #[.int .i64 size, .slice A len c] 24)).alloc (.cells #[.string nm, .slice TA TN TC, .bool is] 47)).drewN nq = wq at *
  have hbel := hbq.alloc hbq.size (.cells #[.int .i64 size, .slice A len c] 24)
  have hsb := hsq.alloc (.cells #[.int .i64 size, .slice A len c] 24)
  have hvar := Blk.new wq 24 #[.int .i64 size, .slice A len c]
  have hrels := h.below hbel
  have hvs := hv.below hbel hw
  have q0 : wq.cell? ⟨w.heap.size, 0, none⟩ = some (.int .i64 size) := hsq.cell 0
  have q1 : wq.cell? ⟨w.heap.size, 1, none⟩ = some (.slice A len c) := hsq.cell 1
  have q2 : (wq.alloc (.cells #[.int .i64 size, .slice A len c] 24)).cell? ⟨w.heap.size, 0, none⟩ = some (.int .i64 size) := hsb.cell 0
  have q3 : (wq.alloc (.cells #[.int .i64 size, .slice A len c] 24)).cell? ⟨w.heap.size, 1, none⟩ = some (.slice A len c) := hsb.cell 1
  have Hs := Lib.hid hsb; clear hsb
  have Hbel := Lib.hid hbel; clear hbel
  have Hvar := Lib.hid hvar; clear hvar
  have Hrels := Lib.hid hrels; clear hrels
  have Hvs := Lib.hid hvs; clear hvs
  clear hbq hsq
  go_wp2_with (first
    | (go_at_call 12
       refine (few_any wq.heap.size size A len c _ rs _ Hvar.out Hrels.out).mono ?_
       rintro e w1 ⟨⟨b1, rfl⟩, rfl⟩)
    | (go_at_call 30
       refine (reffind_any size _ rs nm _ w.heap.size Hbel.out.size Hrels.out).mono ?_
       rw [Hni.out]
       rintro e w2 ⟨rfl, hb2⟩
       have Hs2 := Lib.hid (Hs.out.below hb2 Hs.out.lt)
       have Hbel2 := Lib.hid (Hbel.out.trans (hb2.mono Hbel.out.size))
       have x20 : w2.cell? ⟨w.heap.size, 0, none⟩ = some (.int .i64 size) := Hs2.out.cell 0
       have x21 : w2.cell? ⟨w.heap.size, 1, none⟩ = some (.slice A len c) := Hs2.out.cell 1
       clear hb2)
    | (go_at_call 14
       refine (refvalid_any size _ rs _ w.heap.size Hbel2.out.size (h.below Hbel2.out)).mono ?_
       rw [Hvb.out]
       rintro e w3 ⟨rfl, hb3⟩
       have Hs3 := Lib.hid (Hs2.out.below hb3 Hs2.out.lt)
       have Hbel3 := Lib.hid (Hbel2.out.trans (hb3.mono Hbel2.out.size))
       have x30 : w3.cell? ⟨w.heap.size, 0, none⟩ = some (.int .i64 size) := Hs3.out.cell 0
       have x31 : w3.cell? ⟨w.heap.size, 1, none⟩ = some (.slice A len c) := Hs3.out.cell 1
       obtain ⟨ad, u3, r3, rfl, -, hr3, -, a31, a32, htu3, -⟩ := (h.below Hbel3.out).at_ (k := k) hkl
       obtain rfl : r3 = r := Option.some.inj (hr3.symm.trans Hr.out)
       have htu3' := htu3
       obtain ⟨UA, UN, UC, rfl, -⟩ := htu3'
       clear hr3
       have Htu3 := Lib.hid htu3; clear htu3
       clear hb3)
    | (go_at_call 31
       refine (has_any size _ rs nm _ t _ w.heap.size Hbel3.out.size (h.below Hbel3.out) (ht.below Hbel3.out)).mono ?_
       rw [Hhas.out]
       rintro e w4 ⟨rfl, hb4⟩
       have Hs4 := Lib.hid (Hs3.out.below hb4 Hs3.out.lt)
       have Hbel4 := Lib.hid (Hbel3.out.trans (hb4.mono Hbel3.out.size))
       have x40 : w4.cell? ⟨w.heap.size, 0, none⟩ = some (.int .i64 size) := Hs4.out.cell 0
       have x41 : w4.cell? ⟨w.heap.size, 1, none⟩ = some (.slice (some ad) len c) := Hs4.out.cell 1
       skip
       clear hb4)
    | (go_at_call 34
       refine (put_bad size _ rs nm _ t is _ w.heap.size Hbel4.out.size (h.below Hbel4.out) (ht.below Hbel4.out) (by rw [Hbad.out]; decide)).mono ?_
       rw [Hbad.out]
       rintro e w5 ⟨rfl, hb5⟩
       have Hbel5 := Lib.hid (((Hbel4.out.trans (hb5.mono Hbel4.out.size)).alloc (Nat.le_trans Hbel4.out.size hb5.size) (.cells #[.int .i64 0, .slice none 0 0] 24)).alloc (by simp; exact Nat.le_succ_of_le (Nat.le_trans Hbel4.out.size hb5.size)) (.cells #[.int .i64 0, .slice none 0 0] 24))
       clear hb5)
    | (go_at_call 36
       refine (is_bad 0 _ [] 4 (by decide) _ 0 (Rels.nil _ 0)).mono ?_
       rintro e w9 ⟨rfl, hb9⟩
       have Hbel9 := Lib.hid (Hbel5.out.trans (hb9.mono Hbel5.out.size)))
    | (go_at_call 13
       refine (alive_any _ (hv.below Hbel9.out hw) (Nat.le_trans hw (Below.size Hbel9.out))).mono ?_
       rintro e w12 ⟨rfl, hb12⟩
       have Hb12 := Lib.hid (Below.trans Hbel9.out (hb12.mono (Below.size Hbel9.out))))
    | (go_at_call 13
       refine (alive_any _ Hvs.out (Nat.le_trans hw (Below.size Hbel.out))).mono ?_
       rintro e w12 ⟨rfl, hb12⟩
       have Hb12 := Lib.hid (Below.trans Hbel.out (hb12.mono (Below.size Hbel.out)))))
  all_goals (
    refine ⟨rfl, .bool true, ?_, rfl, Hb12.out⟩
    simp [results, Tryd.results6, Tryd.f6, go_sem])

set_option maxRecDepth 100000 in
set_option maxHeartbeats 4000000 in
theorem sputs_arg (size : Int) (v : Value) (rs : List Sh.Rel) (nm : ByteArray) (u : Value) (t : List Int) (is : Bool) (w : World) (h : Rels w w.heap.size v rs) (ht : Ints w w.heap.size u t) (hv : Vars w) (hw : 5 ≤ w.heap.size) (k : Nat) (r : Sh.Rel) (hni : Sh.nameI nm.toList rs = k) (hr : rs[k]? = some r) (hnr : r.name.toList = nm.toList) (har : r.arity = t.length) (hin : Sh.inB size t = false) (hvb : Sh.validB ⟨size, rs⟩ = true) :
    Calls Tryd.prog 6 #[.agg #[.int .i64 size, v], .agg #[.string nm, u, .bool is]] w fun e w' => e = .returned (.bool true) ∧ Below w.heap.size w w' := by
  have h' := h
  obtain ⟨A, len, c, rfl, hlen, -⟩ := h'
  have ht' := ht
  obtain ⟨TA, TN, TC, rfl, htn, -⟩ := ht'
  have Htn := Lib.hid htn; clear htn
  have Hlen := Lib.hid hlen; clear hlen
  have hkl : k < len := by have := (List.getElem?_eq_some_iff.1 hr).1; have := Hlen.out; omega
  have hf : Sh.findI nm.toList t.length rs = k := Sh.relFor_hit hvb hr hnr har
  have hrel : Sh.relForE ⟨size, rs⟩ nm.toList t.length = ((k : Int), 0) := Sh.relFor_mk hvb hf
  have hhas : Sh.hasE ⟨size, rs⟩ nm.toList t = (decide (t ∈ r.tuples), 0) := Sh.hasE_mk hvb hf hr
  have har2 : r.arity = TN := by rw [Htn.out]; exact har
  have Hrel := Lib.hid hrel; clear hrel
  have Hhas := Lib.hid hhas; clear hhas
  have Hni := Lib.hid hni; clear hni
  have Hvb := Lib.hid hvb; clear hvb
  have Hr := Lib.hid hr; clear hr hnr
  have Hin := Lib.hid hin; clear hin
  have Har := Lib.hid har; clear har hf
  go_enter Tryd.func6, Tryd.ntmps6
  go_wp2
  go_quiet (fail)
  have hbq : Below w.heap.size w (((w.alloc (.cells #[.int .i64 size, .slice A len c] 24)).alloc (.cells #[.string nm, .slice TA TN TC, .bool is] 47)).drewN nq) := below_drewN (((Below.refl w.heap.size w).alloc (Nat.le_refl _) _).alloc (by simp) _) nq
  have hsq : Blk (((w.alloc (.cells #[.int .i64 size, .slice A len c] 24)).alloc (.cells #[.string nm, .slice TA TN TC, .bool is] 47)).drewN nq) w.heap.size 24 #[.int .i64 size, .slice A len c] := ((Blk.new w 24 #[.int .i64 size, .slice A len c]).alloc _).drewN nq
  generalize ((w.alloc (.cells #[.int .i64 size, .slice A len c] 24)).alloc (.cells #[.string nm, .slice TA TN TC, .bool is] 47)).drewN nq = wq at *
  have hbel := hbq.alloc hbq.size (.cells #[.int .i64 size, .slice A len c] 24)
  have hsb := hsq.alloc (.cells #[.int .i64 size, .slice A len c] 24)
  have hvar := Blk.new wq 24 #[.int .i64 size, .slice A len c]
  have hrels := h.below hbel
  have hvs := hv.below hbel hw
  have q0 : wq.cell? ⟨w.heap.size, 0, none⟩ = some (.int .i64 size) := hsq.cell 0
  have q1 : wq.cell? ⟨w.heap.size, 1, none⟩ = some (.slice A len c) := hsq.cell 1
  have q2 : (wq.alloc (.cells #[.int .i64 size, .slice A len c] 24)).cell? ⟨w.heap.size, 0, none⟩ = some (.int .i64 size) := hsb.cell 0
  have q3 : (wq.alloc (.cells #[.int .i64 size, .slice A len c] 24)).cell? ⟨w.heap.size, 1, none⟩ = some (.slice A len c) := hsb.cell 1
  have Hs := Lib.hid hsb; clear hsb
  have Hbel := Lib.hid hbel; clear hbel
  have Hvar := Lib.hid hvar; clear hvar
  have Hrels := Lib.hid hrels; clear hrels
  have Hvs := Lib.hid hvs; clear hvs
  clear hbq hsq
  go_wp2_with (first
    | (go_at_call 12
       refine (few_any wq.heap.size size A len c _ rs _ Hvar.out Hrels.out).mono ?_
       rintro e w1 ⟨⟨b1, rfl⟩, rfl⟩)
    | (go_at_call 30
       refine (reffind_any size _ rs nm _ w.heap.size Hbel.out.size Hrels.out).mono ?_
       rw [Hni.out]
       rintro e w2 ⟨rfl, hb2⟩
       have Hs2 := Lib.hid (Hs.out.below hb2 Hs.out.lt)
       have Hbel2 := Lib.hid (Hbel.out.trans (hb2.mono Hbel.out.size))
       have x20 : w2.cell? ⟨w.heap.size, 0, none⟩ = some (.int .i64 size) := Hs2.out.cell 0
       have x21 : w2.cell? ⟨w.heap.size, 1, none⟩ = some (.slice A len c) := Hs2.out.cell 1
       clear hb2)
    | (go_at_call 14
       refine (refvalid_any size _ rs _ w.heap.size Hbel2.out.size (h.below Hbel2.out)).mono ?_
       rw [Hvb.out]
       rintro e w3 ⟨rfl, hb3⟩
       have Hs3 := Lib.hid (Hs2.out.below hb3 Hs2.out.lt)
       have Hbel3 := Lib.hid (Hbel2.out.trans (hb3.mono Hbel2.out.size))
       have x30 : w3.cell? ⟨w.heap.size, 0, none⟩ = some (.int .i64 size) := Hs3.out.cell 0
       have x31 : w3.cell? ⟨w.heap.size, 1, none⟩ = some (.slice A len c) := Hs3.out.cell 1
       obtain ⟨ad, u3, r3, rfl, -, hr3, -, a31, a32, htu3, -⟩ := (h.below Hbel3.out).at_ (k := k) hkl
       obtain rfl : r3 = r := Option.some.inj (hr3.symm.trans Hr.out)
       have htu3' := htu3
       obtain ⟨UA, UN, UC, rfl, -⟩ := htu3'
       clear hr3
       have Htu3 := Lib.hid htu3; clear htu3
       clear hb3)
    | (go_at_call 31
       refine (has_any size _ rs nm _ t _ w.heap.size Hbel3.out.size (h.below Hbel3.out) (ht.below Hbel3.out)).mono ?_
       rw [Hhas.out]
       rintro e w4 ⟨rfl, hb4⟩
       have Hs4 := Lib.hid (Hs3.out.below hb4 Hs3.out.lt)
       have Hbel4 := Lib.hid (Hbel3.out.trans (hb4.mono Hbel3.out.size))
       have x40 : w4.cell? ⟨w.heap.size, 0, none⟩ = some (.int .i64 size) := Hs4.out.cell 0
       have x41 : w4.cell? ⟨w.heap.size, 1, none⟩ = some (.slice (some ad) len c) := Hs4.out.cell 1
       obtain ⟨ad4, u4, r4, had4, -, hr4, -, a41, a42, htu4, -⟩ := (h.below Hbel4.out).at_ (k := k) hkl
       obtain rfl := Option.some.inj had4
       obtain rfl : r4 = r3 := Option.some.inj (hr4.symm.trans Hr.out)
       have htu4' := htu4
       obtain ⟨VA, VN, VC, rfl, -⟩ := htu4'
       clear hr4
       have Htu4 := Lib.hid htu4; clear htu4
       clear hb4)
    | (go_at_call 32
       refine (among_any _ _ _ t _ w.heap.size Htu4.out (ht.below Hbel4.out)).mono ?_
       rintro e w6 ⟨rfl, n6, rfl⟩
       have x60 : (w4.drewN n6).cell? ⟨w.heap.size, 0, none⟩ = some (.int .i64 size) := x40
       have x61 : (w4.drewN n6).cell? ⟨w.heap.size, 1, none⟩ = some (.slice (some ad) len c) := x41
       have Hbel6 := Lib.hid (show Below w.heap.size w (w4.drewN n6) from below_drewN Hbel4.out n6)
       have Hs6 := Lib.hid (show Blk (w4.drewN n6) w.heap.size 24 #[.int .i64 size, .slice (some ad) len c] from Hs4.out))
    | (go_at_call 33
       refine (in_any _ t size _ w.heap.size (ht.below Hbel6.out)).mono ?_
       rw [Hin.out]
       rintro e w7 ⟨rfl, rfl⟩
       have Hbel7 := Hbel6
       have Hs7 := Hs6)
    | (go_at_call 34
       refine (put_arg size _ rs nm _ t is _ w.heap.size Hbel7.out.size (h.below Hbel7.out) (ht.below Hbel7.out) (by rw [Hrel.out]) Hin.out).mono ?_
       rintro e w5 ⟨rfl, hb5⟩
       have Hbel5 := Lib.hid (((Hbel7.out.trans (hb5.mono Hbel7.out.size)).alloc (Nat.le_trans Hbel7.out.size hb5.size) (.cells #[.int .i64 0, .slice none 0 0] 24)).alloc (by simp; exact Nat.le_succ_of_le (Nat.le_trans Hbel7.out.size hb5.size)) (.cells #[.int .i64 0, .slice none 0 0] 24))
       clear hb5)
    | (go_at_call 36
       refine (is_bad 0 _ [] 2 (by decide) _ 0 (Rels.nil _ 0)).mono ?_
       rintro e w9 ⟨rfl, hb9⟩
       have Hbel9 := Lib.hid (Hbel5.out.trans (hb9.mono Hbel5.out.size)))
    | (go_at_call 13
       refine (alive_any _ (hv.below Hbel9.out hw) (Nat.le_trans hw (Below.size Hbel9.out))).mono ?_
       rintro e w12 ⟨rfl, hb12⟩
       have Hb12 := Lib.hid (Below.trans Hbel9.out (hb12.mono (Below.size Hbel9.out))))
    | (go_at_call 13
       refine (alive_any _ Hvs.out (Nat.le_trans hw (Below.size Hbel.out))).mono ?_
       rintro e w12 ⟨rfl, hb12⟩
       have Hb12 := Lib.hid (Below.trans Hbel.out (hb12.mono (Below.size Hbel.out)))))
  all_goals (
    refine ⟨rfl, .bool true, ?_, rfl, Hb12.out⟩
    simp [results, Tryd.results6, Tryd.f6, go_sem])

set_option maxRecDepth 100000 in
set_option maxHeartbeats 4000000 in
theorem sputs_ok (size : Int) (v : Value) (rs : List Sh.Rel) (nm : ByteArray) (u : Value) (t : List Int) (is : Bool) (w : World) (h : Rels w w.heap.size v rs) (ht : Ints w w.heap.size u t) (hv : Vars w) (hw : 5 ≤ w.heap.size) (k : Nat) (r : Sh.Rel) (hni : Sh.nameI nm.toList rs = k) (hr : rs[k]? = some r) (hnr : r.name.toList = nm.toList) (har : r.arity = t.length) (hin : Sh.inB size t = true) (hvb : Sh.validB ⟨size, rs⟩ = true) :
    Calls Tryd.prog 6 #[.agg #[.int .i64 size, v], .agg #[.string nm, u, .bool is]] w fun e w' => e = .returned (.bool true) ∧ Below w.heap.size w w' := by
  have h' := h
  obtain ⟨A, len, c, rfl, hlen, -⟩ := h'
  have ht' := ht
  obtain ⟨TA, TN, TC, rfl, htn, -⟩ := ht'
  have Htn := Lib.hid htn; clear htn
  have Hlen := Lib.hid hlen; clear hlen
  have hkl : k < len := by have := (List.getElem?_eq_some_iff.1 hr).1; have := Hlen.out; omega
  have hf : Sh.findI nm.toList t.length rs = k := Sh.relFor_hit hvb hr hnr har
  have hrel : Sh.relForE ⟨size, rs⟩ nm.toList t.length = ((k : Int), 0) := Sh.relFor_mk hvb hf
  have hhas : Sh.hasE ⟨size, rs⟩ nm.toList t = (decide (t ∈ r.tuples), 0) := Sh.hasE_mk hvb hf hr
  have har2 : r.arity = TN := by rw [Htn.out]; exact har
  have Hrel := Lib.hid hrel; clear hrel
  have Hhas := Lib.hid hhas; clear hhas
  have Hni := Lib.hid hni; clear hni
  have Hvb := Lib.hid hvb; clear hvb
  have Hr := Lib.hid hr; clear hr hnr
  have Hin := Lib.hid hin; clear hin
  have Har := Lib.hid har; clear har hf
  go_enter Tryd.func6, Tryd.ntmps6
  go_wp2
  go_quiet (fail)
  have hbq : Below w.heap.size w (((w.alloc (.cells #[.int .i64 size, .slice A len c] 24)).alloc (.cells #[.string nm, .slice TA TN TC, .bool is] 47)).drewN nq) := below_drewN (((Below.refl w.heap.size w).alloc (Nat.le_refl _) _).alloc (by simp) _) nq
  have hsq : Blk (((w.alloc (.cells #[.int .i64 size, .slice A len c] 24)).alloc (.cells #[.string nm, .slice TA TN TC, .bool is] 47)).drewN nq) w.heap.size 24 #[.int .i64 size, .slice A len c] := ((Blk.new w 24 #[.int .i64 size, .slice A len c]).alloc _).drewN nq
  generalize ((w.alloc (.cells #[.int .i64 size, .slice A len c] 24)).alloc (.cells #[.string nm, .slice TA TN TC, .bool is] 47)).drewN nq = wq at *
  have hbel := hbq.alloc hbq.size (.cells #[.int .i64 size, .slice A len c] 24)
  have hsb := hsq.alloc (.cells #[.int .i64 size, .slice A len c] 24)
  have hvar := Blk.new wq 24 #[.int .i64 size, .slice A len c]
  have hrels := h.below hbel
  have hvs := hv.below hbel hw
  have q0 : wq.cell? ⟨w.heap.size, 0, none⟩ = some (.int .i64 size) := hsq.cell 0
  have q1 : wq.cell? ⟨w.heap.size, 1, none⟩ = some (.slice A len c) := hsq.cell 1
  have q2 : (wq.alloc (.cells #[.int .i64 size, .slice A len c] 24)).cell? ⟨w.heap.size, 0, none⟩ = some (.int .i64 size) := hsb.cell 0
  have q3 : (wq.alloc (.cells #[.int .i64 size, .slice A len c] 24)).cell? ⟨w.heap.size, 1, none⟩ = some (.slice A len c) := hsb.cell 1
  have Hs := Lib.hid hsb; clear hsb
  have Hbel := Lib.hid hbel; clear hbel
  have Hvar := Lib.hid hvar; clear hvar
  have Hrels := Lib.hid hrels; clear hrels
  have Hvs := Lib.hid hvs; clear hvs
  clear hbq hsq
  go_wp2_with (first
    | (go_at_call 12
       refine (few_any wq.heap.size size A len c _ rs _ Hvar.out Hrels.out).mono ?_
       rintro e w1 ⟨⟨b1, rfl⟩, rfl⟩)
    | (go_at_call 30
       refine (reffind_any size _ rs nm _ w.heap.size Hbel.out.size Hrels.out).mono ?_
       rw [Hni.out]
       rintro e w2 ⟨rfl, hb2⟩
       have Hs2 := Lib.hid (Hs.out.below hb2 Hs.out.lt)
       have Hbel2 := Lib.hid (Hbel.out.trans (hb2.mono Hbel.out.size))
       have x20 : w2.cell? ⟨w.heap.size, 0, none⟩ = some (.int .i64 size) := Hs2.out.cell 0
       have x21 : w2.cell? ⟨w.heap.size, 1, none⟩ = some (.slice A len c) := Hs2.out.cell 1
       clear hb2)
    | (go_at_call 14
       refine (refvalid_any size _ rs _ w.heap.size Hbel2.out.size (h.below Hbel2.out)).mono ?_
       rw [Hvb.out]
       rintro e w3 ⟨rfl, hb3⟩
       have Hs3 := Lib.hid (Hs2.out.below hb3 Hs2.out.lt)
       have Hbel3 := Lib.hid (Hbel2.out.trans (hb3.mono Hbel2.out.size))
       have x30 : w3.cell? ⟨w.heap.size, 0, none⟩ = some (.int .i64 size) := Hs3.out.cell 0
       have x31 : w3.cell? ⟨w.heap.size, 1, none⟩ = some (.slice A len c) := Hs3.out.cell 1
       obtain ⟨ad, u3, r3, rfl, -, hr3, -, a31, a32, htu3, -⟩ := (h.below Hbel3.out).at_ (k := k) hkl
       obtain rfl : r3 = r := Option.some.inj (hr3.symm.trans Hr.out)
       have htu3' := htu3
       obtain ⟨UA, UN, UC, rfl, -⟩ := htu3'
       clear hr3
       have Htu3 := Lib.hid htu3; clear htu3
       clear hb3)
    | (go_at_call 31
       refine (has_any size _ rs nm _ t _ w.heap.size Hbel3.out.size (h.below Hbel3.out) (ht.below Hbel3.out)).mono ?_
       rw [Hhas.out]
       rintro e w4 ⟨rfl, hb4⟩
       have Hs4 := Lib.hid (Hs3.out.below hb4 Hs3.out.lt)
       have Hbel4 := Lib.hid (Hbel3.out.trans (hb4.mono Hbel3.out.size))
       have x40 : w4.cell? ⟨w.heap.size, 0, none⟩ = some (.int .i64 size) := Hs4.out.cell 0
       have x41 : w4.cell? ⟨w.heap.size, 1, none⟩ = some (.slice (some ad) len c) := Hs4.out.cell 1
       obtain ⟨ad4, u4, r4, had4, -, hr4, -, a41, a42, htu4, -⟩ := (h.below Hbel4.out).at_ (k := k) hkl
       obtain rfl := Option.some.inj had4
       obtain rfl : r4 = r3 := Option.some.inj (hr4.symm.trans Hr.out)
       have htu4' := htu4
       obtain ⟨VA, VN, VC, rfl, -⟩ := htu4'
       clear hr4
       have Htu4 := Lib.hid htu4; clear htu4
       clear hb4)
    | (go_at_call 32
       refine (among_any _ _ _ t _ w.heap.size Htu4.out (ht.below Hbel4.out)).mono ?_
       rintro e w6 ⟨rfl, n6, rfl⟩
       have x60 : (w4.drewN n6).cell? ⟨w.heap.size, 0, none⟩ = some (.int .i64 size) := x40
       have x61 : (w4.drewN n6).cell? ⟨w.heap.size, 1, none⟩ = some (.slice (some ad) len c) := x41
       have Hbel6 := Lib.hid (show Below w.heap.size w (w4.drewN n6) from below_drewN Hbel4.out n6)
       have Hs6 := Lib.hid (show Blk (w4.drewN n6) w.heap.size 24 #[.int .i64 size, .slice (some ad) len c] from Hs4.out))
    | (go_at_call 33
       refine (in_any _ t size _ w.heap.size (ht.below Hbel6.out)).mono ?_
       rw [Hin.out]
       rintro e w7 ⟨rfl, rfl⟩
       have Hbel7 := Hbel6
       have Hs7 := Hs6)
    | (go_at_call 34
       refine (put_ok size _ rs nm _ t is k r4 _ w.heap.size Hbel7.out.size (h.below Hbel7.out) (ht.below Hbel7.out) Hvb.out Hrel.out Hr.out Har.out.symm Hin.out).mono ?_
       rintro e w5 ⟨x5, rfl, hn5, hb5⟩
       have hn5' := hn5
       obtain ⟨PA, PN, PC, rfl, -⟩ := hn5'
       have hwz4 : w.heap.size ≤ w5.heap.size := Nat.le_trans Hbel7.out.size hb5.size
       have hs5 := (Hs7.out.below hb5 Hs7.out.lt)
       have hbel5 := Hbel7.out.trans (hb5.mono Hbel7.out.size)
       have hs5b := (hs5.alloc (.cells #[.int .i64 size, .slice PA PN PC] 24)).alloc (.cells #[.int .i64 0, .slice none 0 0] 24)
       have hp5 := (Blk.new w5 24 #[.int .i64 size, .slice PA PN PC]).alloc (.cells #[.int .i64 0, .slice none 0 0] 24)
       have hw5 := Blk.new (w5.alloc (.cells #[.int .i64 size, .slice PA PN PC] 24)) 24 #[.int .i64 0, .slice none 0 0]
       rw [World.size_alloc] at hw5
       have Hbel5 := Lib.hid ((hbel5.alloc hbel5.size (.cells #[.int .i64 size, .slice PA PN PC] 24)).alloc (by simp; exact Nat.le_succ_of_le hbel5.size) (.cells #[.int .i64 0, .slice none 0 0] 24))
       have Hn5 := Lib.hid ((hn5.keep (Keeps.alloc _ _ w5 (.cells #[.int .i64 size, .slice PA PN PC] 24))).keep (Keeps.alloc _ _ _ (.cells #[.int .i64 0, .slice none 0 0] 24)))
       have x50 : ((w5.alloc (.cells #[.int .i64 size, .slice PA PN PC] 24)).alloc (.cells #[.int .i64 0, .slice none 0 0] 24)).cell? ⟨w.heap.size, 0, none⟩ = some (.int .i64 size) := hs5b.cell 0
       have x51 : ((w5.alloc (.cells #[.int .i64 size, .slice PA PN PC] 24)).alloc (.cells #[.int .i64 0, .slice none 0 0] 24)).cell? ⟨w.heap.size, 1, none⟩ = some (.slice (some ad) len c) := hs5b.cell 1
       have Hp5 := Lib.hid hp5
       have Hw5 := Lib.hid hw5
       clear hb5 hn5 hs5 hbel5 hs5b hp5 hw5)
    | (go_at_call 35
       refine (rput_any size _ rs nm _ t is k r4 _ w.heap.size Hbel5.out.size (h.below Hbel5.out) (ht.below Hbel5.out) Hvb.out Hni.out Hr.out Har.out.symm).mono ?_
       rintro e w8 ⟨x8, rfl, hn8, hb8⟩
       have hn8' := hn8
       obtain ⟨QA, QN, QC, rfl, -⟩ := hn8'
       have hp8 := Hp5.out.below hb8 Hp5.out.lt
       have hw8 := Hw5.out.below hb8 Hw5.out.lt
       have hf80 := hw8.frozen 0
       have hf81 := hw8.frozen 1
       have y80 : w8.cell? ⟨w5.heap.size, 0, none⟩ = some (.int .i64 size) := hp8.cell 0
       have y81 : w8.cell? ⟨w5.heap.size, 1, none⟩ = some (.slice PA PN PC) := hp8.cell 1
       have z80 : w8.cell? ⟨w5.heap.size + 1, 0, none⟩ = some (.int .i64 0) := hw8.cell 0
       have z81 : w8.cell? ⟨w5.heap.size + 1, 1, none⟩ = some (.slice none 0 0) := hw8.cell 1
       have hbel8 := Hbel5.out.trans (hb8.mono Hbel5.out.size)
       have hk9 : ∀ L, Keeps L [3, 35, 51] w8 ((w8.setCell ⟨w5.heap.size + 1, 0, none⟩ (.int .i64 size)).setCell ⟨w5.heap.size + 1, 1, none⟩ (.slice QA QN QC)) := fun L =>
         (Keeps.setCell (p := ⟨w5.heap.size + 1, 0, none⟩) hw8 (by decide) _).trans (Keeps.setCell (p := ⟨w5.heap.size + 1, 1, none⟩) (hw8.set_ _ _) (by decide) _)
       have hp9 := (hp8.far (p := ⟨w5.heap.size + 1, 0, none⟩) (show w5.heap.size ≠ w5.heap.size + 1 by omega) (.int .i64 size)).far (p := ⟨w5.heap.size + 1, 1, none⟩) (show w5.heap.size ≠ w5.heap.size + 1 by omega) (.slice QA QN QC)
       have hw9 := (hw8.set_ 0 (.int .i64 size)).set_ 1 (.slice QA QN QC)
       have y90 : ((w8.setCell ⟨w5.heap.size + 1, 0, none⟩ (.int .i64 size)).setCell ⟨w5.heap.size + 1, 1, none⟩ (.slice QA QN QC)).cell? ⟨w5.heap.size, 0, none⟩ = some (.int .i64 size) := hp9.cell 0
       have y91 : ((w8.setCell ⟨w5.heap.size + 1, 0, none⟩ (.int .i64 size)).setCell ⟨w5.heap.size + 1, 1, none⟩ (.slice QA QN QC)).cell? ⟨w5.heap.size, 1, none⟩ = some (.slice PA PN PC) := hp9.cell 1
       have z90 : ((w8.setCell ⟨w5.heap.size + 1, 0, none⟩ (.int .i64 size)).setCell ⟨w5.heap.size + 1, 1, none⟩ (.slice QA QN QC)).cell? ⟨w5.heap.size + 1, 0, none⟩ = some (.int .i64 size) := hw9.cell 0
       have z91 : ((w8.setCell ⟨w5.heap.size + 1, 0, none⟩ (.int .i64 size)).setCell ⟨w5.heap.size + 1, 1, none⟩ (.slice QA QN QC)).cell? ⟨w5.heap.size + 1, 1, none⟩ = some (.slice QA QN QC) := hw9.cell 1
       have hwz := hbel8.size
       have Hn59 := Lib.hid ((Hn5.out.keep (Keeps.of_below hb8)).keep (hk9 _)).rels
       have Hn89 := Lib.hid (hn8.keep (hk9 _)).rels
       have Hbel8 := Lib.hid ((hbel8.setCell (p := ⟨w5.heap.size + 1, 0, none⟩) (show w.heap.size ≤ w5.heap.size + 1 by omega) (.int .i64 size)).setCell (p := ⟨w5.heap.size + 1, 1, none⟩) (show w.heap.size ≤ w5.heap.size + 1 by omega) (.slice QA QN QC))
       clear hb8 hn8 hk9 hp9 hw9 hp8 hw8 hbel8)
    | (go_at_call 36
       refine (is_ok size _ _ (Sh.putR rs k t is) _ _ (Nat.le_refl _) Hn59.out Hn89.out).mono ?_
       rintro e w9 ⟨rfl, hb9⟩
       have Hbel9 := Lib.hid (Hbel8.out.trans (hb9.mono Hbel8.out.size)))
    | (go_at_call 13
       refine (alive_any _ (hv.below Hbel9.out hw) (Nat.le_trans hw (Below.size Hbel9.out))).mono ?_
       rintro e w12 ⟨rfl, hb12⟩
       have Hb12 := Lib.hid (Below.trans Hbel9.out (hb12.mono (Below.size Hbel9.out))))
    | (go_at_call 13
       refine (alive_any _ Hvs.out (Nat.le_trans hw (Below.size Hbel.out))).mono ?_
       rintro e w12 ⟨rfl, hb12⟩
       have Hb12 := Lib.hid (Below.trans Hbel.out (hb12.mono (Below.size Hbel.out)))))
  all_goals (
    refine ⟨rfl, .bool true, ?_, rfl, Hb12.out⟩
    simp [results, Tryd.results6, Tryd.f6, go_sem])

theorem sputs_any (size : Int) (v : Value) (rs : List Sh.Rel) (nm : ByteArray) (u : Value) (t : List Int) (is : Bool) (w : World) (h : Rels w w.heap.size v rs) (ht : Ints w w.heap.size u t) (hv : Vars w) (hw : 5 ≤ w.heap.size) :
    Calls Tryd.prog 6 #[.agg #[.int .i64 size, v], .agg #[.string nm, u, .bool is]] w fun e w' => e = .returned (.bool true) ∧ Below w.heap.size w w' := by
  cases hvb : Sh.validB ⟨size, rs⟩
  · exact sputs_form size v rs nm u t is w h ht hv hw _ rfl hvb
  · rcases Sh.puts_cases nm.toList t rs with hn | ⟨k, r, hn, hr, he⟩
    · exact sputs_none size v rs nm u t is w h ht hv hw hn hvb
    · by_cases ha : r.arity = t.length
      · cases hin : Sh.inB size t
        · exact sputs_arg size v rs nm u t is w h ht hv hw k r hn hr he ha hin hvb
        · exact sputs_ok size v rs nm u t is w h ht hv hw k r hn hr he ha hin hvb
      · exact sputs_arity size v rs nm u t is w h ht hv hw k r hn hr he ha hvb

end Go.Proofs.YtbddchonhicpiaaDoor
