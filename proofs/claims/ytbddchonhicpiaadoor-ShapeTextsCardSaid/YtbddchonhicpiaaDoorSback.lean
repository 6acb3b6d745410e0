/-
  Walk: ShapeBack.
-/
import Derived.Test.YtbddchonhicpiaaDoorTextw
import Derived.Test.YtbddchonhicpiaaDoorSame
import Derived.Test.YtbddchonhicpiaaDoorFew
import Derived.Test.YtbddchonhicpiaaDoorAlive
namespace Go.Proofs.YtbddchonhicpiaaDoor
open Go.RowKit

theorem ParsePost.hit {text : ByteArray} {w w' : World} {e : Ending} {s : Sh.Str} (h : ParsePost text w e w') (ht : parseP text.toList = some s) :
    ∃ u, e = .returned (.tuple #[.agg #[.int .i64 s.size, u], .int .i64 0]) ∧ NRels w' w.heap.size u s.rels ∧ Below w.heap.size w w' := by
  obtain ⟨hb, h⟩ := h
  rw [ht] at h
  obtain ⟨u, h1, h2⟩ := h
  exact ⟨u, h1, h2, hb⟩
theorem ParsePost.miss {text : ByteArray} {w w' : World} {e : Ending} (h : ParsePost text w e w') (ht : parseP text.toList = none) :
    e = .returned (.tuple #[.agg #[.int .i64 0, .slice none 0 0], .int .i64 3]) ∧ Below w.heap.size w w' := by
  obtain ⟨hb, h⟩ := h
  rw [ht] at h
  exact ⟨h, hb⟩

set_option maxRecDepth 100000 in
set_option maxHeartbeats 4000000 in
theorem sback_form_none (size : Int) (v : Value) (rs : List Sh.Rel) (text tx : ByteArray) (w : World) (h : Rels w w.heap.size v rs) (hz : text.size ≤ 140737488351232) (hv : Vars w) (hw : 5 ≤ w.heap.size) (hvb : Sh.validB ⟨size, rs⟩ = false) (htx : ∀ W B, B ≤ W.heap.size → Rels W B v rs → Calls Tryd.prog 48 #[.agg #[.int .i64 size, v]] W fun e w' => e = .returned (.tuple #[.string tx, .int .i64 1]) ∧ Below W.heap.size W w') (hpt : parseP text.toList = none) :
    Calls Tryd.prog 11 #[.agg #[.int .i64 size, v], .string text] w fun e w' => e = .returned (.bool true) ∧ Below w.heap.size w w' := by
  have h' := h
  obtain ⟨A, len, c, rfl, -⟩ := h'
  have hbel : Below w.heap.size w ((w.alloc (.cells #[.int .i64 size, .slice A len c] 24)).alloc (.cells #[.int .i64 size, .slice A len c] 24)) := ((Below.refl w.heap.size w).alloc (Nat.le_refl _) _).alloc (by simp) _
  have hsb : Blk ((w.alloc (.cells #[.int .i64 size, .slice A len c] 24)).alloc (.cells #[.int .i64 size, .slice A len c] 24)) w.heap.size 24 #[.int .i64 size, .slice A len c] := (Blk.new w 24 #[.int .i64 size, .slice A len c]).alloc _
  have hvar : Blk ((w.alloc (.cells #[.int .i64 size, .slice A len c] 24)).alloc (.cells #[.int .i64 size, .slice A len c] 24)) (w.heap.size + 1) 24 #[.int .i64 size, .slice A len c] := by
    have := Blk.new (w.alloc (.cells #[.int .i64 size, .slice A len c] 24)) 24 #[.int .i64 size, .slice A len c]
    rw [World.size_alloc] at this
    exact this
  have hrels := h.below hbel
  have q0 : ((w.alloc (.cells #[.int .i64 size, .slice A len c] 24)).alloc (.cells #[.int .i64 size, .slice A len c] 24)).cell? ⟨w.heap.size, 0, none⟩ = some (.int .i64 size) := hsb.cell 0
  have q1 : ((w.alloc (.cells #[.int .i64 size, .slice A len c] 24)).alloc (.cells #[.int .i64 size, .slice A len c] 24)).cell? ⟨w.heap.size, 1, none⟩ = some (.slice A len c) := hsb.cell 1
  have Hs := Lib.hid hsb; clear hsb
  have Hbel := Lib.hid hbel; clear hbel
  have Hvar := Lib.hid hvar; clear hvar
  have Hrels := Lib.hid hrels; clear hrels
  have Hvb := Lib.hid hvb; clear hvb
  have Htx := Lib.hid htx; clear htx
  have Hpt := Lib.hid hpt; clear hpt
  go_enter Tryd.func11, Tryd.ntmps11
  go_wp2_with (first
    | (go_at_call 12
       refine (few_any (w.heap.size + 1) size A len c _ rs _ Hvar.out Hrels.out).mono ?_
       rintro e w1 ⟨⟨b1, rfl⟩, rfl⟩)
    | (go_at_call_of 48 (Value.agg #[.int .i64 size, .slice A len c])
       refine (Htx.out _ w.heap.size Hbel.out.size Hrels.out).mono ?_
       rintro e w3 ⟨rfl, hb3⟩
       have Hs3 := Lib.hid (Hs.out.below hb3 Hs.out.lt)
       have Hbel3 := Lib.hid (Hbel.out.trans (hb3.mono Hbel.out.size))
       have x30 : w3.cell? ⟨w.heap.size, 0, none⟩ = some (.int .i64 size) := Hs3.out.cell 0
       have x31 : w3.cell? ⟨w.heap.size, 1, none⟩ = some (.slice A len c) := Hs3.out.cell 1
       clear hb3)
    | (go_at_call_of 16 (Value.agg #[.int .i64 size, .slice A len c])
       refine (valid_any size _ rs _ w.heap.size Hbel3.out.size (h.below Hbel3.out)).mono ?_
       rw [Hvb.out]
       rintro e w4 ⟨rfl, hb4⟩
       have Hbel6 := Lib.hid (Hbel3.out.trans (hb4.mono Hbel3.out.size))
       clear hb4)
    | (go_at_call_of 50 (Value.string text)
       refine (parse_any text _ hz (hv.below Hbel6.out hw) (Nat.le_trans hw (Below.size Hbel6.out))).mono ?_
       intro e w7 hp7
       obtain ⟨rfl, hb7⟩ := hp7.miss Hpt.out
       have hbel7 := Hbel6.out.trans (hb7.mono Hbel6.out.size)
       have Hbel9 := Lib.hid (hbel7.alloc hbel7.size (.cells #[.int .i64 0, .slice none 0 0] 24))
       clear hp7 hb7 hbel7)
    | (go_at_call 13
       refine (alive_any _ (hv.below Hbel9.out hw) (Nat.le_trans hw (Below.size Hbel9.out))).mono ?_
       rintro e w12 ⟨rfl, hb12⟩
       have Hb12 := Lib.hid (Below.trans Hbel9.out (hb12.mono (Below.size Hbel9.out))))
    | (go_at_call 13
       refine (alive_any _ (hv.below Hbel.out hw) (Nat.le_trans hw (Below.size Hbel.out))).mono ?_
       rintro e w12 ⟨rfl, hb12⟩
       have Hb12 := Lib.hid (Below.trans Hbel.out (hb12.mono (Below.size Hbel.out)))))
  all_goals (
    refine ⟨rfl, .bool true, ?_, rfl, Hb12.out⟩
    simp [results, Tryd.results11, Tryd.f11, go_sem])

set_option maxRecDepth 100000 in
set_option maxHeartbeats 4000000 in
theorem sback_form_some (size : Int) (v : Value) (rs : List Sh.Rel) (text tx : ByteArray) (w : World) (h : Rels w w.heap.size v rs) (hz : text.size ≤ 140737488351232) (hv : Vars w) (hw : 5 ≤ w.heap.size) (hvb : Sh.validB ⟨size, rs⟩ = false) (htx : ∀ W B, B ≤ W.heap.size → Rels W B v rs → Calls Tryd.prog 48 #[.agg #[.int .i64 size, v]] W fun e w' => e = .returned (.tuple #[.string tx, .int .i64 1]) ∧ Below W.heap.size W w') (size2 : Int) (rs2 : List Sh.Rel) (hpt : parseP text.toList = some ⟨size2, rs2⟩) (hvb2 : Sh.validB ⟨size2, rs2⟩ = true) (htx2 : ∀ W u B, B ≤ W.heap.size → Rels W B u rs2 → Calls Tryd.prog 48 #[.agg #[.int .i64 size2, u]] W fun e w' => e = .returned (.tuple #[.string text, .int .i64 0]) ∧ Below W.heap.size W w') :
    Calls Tryd.prog 11 #[.agg #[.int .i64 size, v], .string text] w fun e w' => e = .returned (.bool true) ∧ Below w.heap.size w w' := by
  have h' := h
  obtain ⟨A, len, c, rfl, -⟩ := h'
  have hbel : Below w.heap.size w ((w.alloc (.cells #[.int .i64 size, .slice A len c] 24)).alloc (.cells #[.int .i64 size, .slice A len c] 24)) := ((Below.refl w.heap.size w).alloc (Nat.le_refl _) _).alloc (by simp) _
  have hsb : Blk ((w.alloc (.cells #[.int .i64 size, .slice A len c] 24)).alloc (.cells #[.int .i64 size, .slice A len c] 24)) w.heap.size 24 #[.int .i64 size, .slice A len c] := (Blk.new w 24 #[.int .i64 size, .slice A len c]).alloc _
  have hvar : Blk ((w.alloc (.cells #[.int .i64 size, .slice A len c] 24)).alloc (.cells #[.int .i64 size, .slice A len c] 24)) (w.heap.size + 1) 24 #[.int .i64 size, .slice A len c] := by
    have := Blk.new (w.alloc (.cells #[.int .i64 size, .slice A len c] 24)) 24 #[.int .i64 size, .slice A len c]
    rw [World.size_alloc] at this
    exact this
  have hrels := h.below hbel
  have q0 : ((w.alloc (.cells #[.int .i64 size, .slice A len c] 24)).alloc (.cells #[.int .i64 size, .slice A len c] 24)).cell? ⟨w.heap.size, 0, none⟩ = some (.int .i64 size) := hsb.cell 0
  have q1 : ((w.alloc (.cells #[.int .i64 size, .slice A len c] 24)).alloc (.cells #[.int .i64 size, .slice A len c] 24)).cell? ⟨w.heap.size, 1, none⟩ = some (.slice A len c) := hsb.cell 1
  have Hs := Lib.hid hsb; clear hsb
  have Hbel := Lib.hid hbel; clear hbel
  have Hvar := Lib.hid hvar; clear hvar
  have Hrels := Lib.hid hrels; clear hrels
  have Hvb := Lib.hid hvb; clear hvb
  have Htx := Lib.hid htx; clear htx
  have Hpt := Lib.hid hpt; clear hpt
  have Hvb2 := Lib.hid hvb2; clear hvb2
  have Htx2 := Lib.hid htx2; clear htx2
  go_enter Tryd.func11, Tryd.ntmps11
  go_wp2_with (first
    | (go_at_call 12
       refine (few_any (w.heap.size + 1) size A len c _ rs _ Hvar.out Hrels.out).mono ?_
       rintro e w1 ⟨⟨b1, rfl⟩, rfl⟩)
    | (go_at_call_of 48 (Value.agg #[.int .i64 size, .slice A len c])
       refine (Htx.out _ w.heap.size Hbel.out.size Hrels.out).mono ?_
       rintro e w3 ⟨rfl, hb3⟩
       have Hs3 := Lib.hid (Hs.out.below hb3 Hs.out.lt)
       have Hbel3 := Lib.hid (Hbel.out.trans (hb3.mono Hbel.out.size))
       have x30 : w3.cell? ⟨w.heap.size, 0, none⟩ = some (.int .i64 size) := Hs3.out.cell 0
       have x31 : w3.cell? ⟨w.heap.size, 1, none⟩ = some (.slice A len c) := Hs3.out.cell 1
       clear hb3)
    | (go_at_call_of 16 (Value.agg #[.int .i64 size, .slice A len c])
       refine (valid_any size _ rs _ w.heap.size Hbel3.out.size (h.below Hbel3.out)).mono ?_
       rw [Hvb.out]
       rintro e w4 ⟨rfl, hb4⟩
       have Hbel6 := Lib.hid (Hbel3.out.trans (hb4.mono Hbel3.out.size))
       clear hb4)
    | (go_at_call_of 50 (Value.string text)
       refine (parse_any text _ hz (hv.below Hbel6.out hw) (Nat.le_trans hw (Below.size Hbel6.out))).mono ?_
       intro e w7 hp7
       obtain ⟨x7, rfl, hn7, hb7⟩ := hp7.hit Hpt.out
       have hn7' := hn7
       obtain ⟨QA, QN, QC, rfl, -⟩ := hn7'
       have hbel7 := Hbel6.out.trans (hb7.mono Hbel6.out.size)
       have hq7 := Blk.new w7 24 #[.int .i64 size2, .slice QA QN QC]
       have z70 : (w7.alloc (.cells #[.int .i64 size2, .slice QA QN QC] 24)).cell? ⟨w7.heap.size, 0, none⟩ = some (.int .i64 size2) := hq7.cell 0
       have z71 : (w7.alloc (.cells #[.int .i64 size2, .slice QA QN QC] 24)).cell? ⟨w7.heap.size, 1, none⟩ = some (.slice QA QN QC) := hq7.cell 1
       have Hbel7 := Lib.hid (hbel7.alloc hbel7.size (.cells #[.int .i64 size2, .slice QA QN QC] 24))
       have Hn7 := Lib.hid (hn7.keep (Keeps.alloc _ _ w7 (.cells #[.int .i64 size2, .slice QA QN QC] 24))).rels
       have Hq7 := Lib.hid hq7
       clear hp7 hb7 hn7 hbel7 hq7)
    | (go_at_call_of 48 (Value.agg #[.int .i64 size2, .slice QA QN QC])
       refine (Htx2.out _ _ _ (Nat.le_refl _) Hn7.out).mono ?_
       rintro e w8 ⟨rfl, hb8⟩
       have hq8 := Hq7.out.below hb8 Hq7.out.lt
       have z80 : w8.cell? ⟨w7.heap.size, 0, none⟩ = some (.int .i64 size2) := hq8.cell 0
       have z81 : w8.cell? ⟨w7.heap.size, 1, none⟩ = some (.slice QA QN QC) := hq8.cell 1
       have Hbel8 := Lib.hid (Hbel7.out.trans (hb8.mono Hbel7.out.size))
       have hz8 := hb8.size
       have Hn8 := Lib.hid (Hn7.out.below hb8)
       clear hb8 hq8)
    | (go_at_call_of 16 (Value.agg #[.int .i64 size2, .slice QA QN QC])
       refine (valid_any size2 _ rs2 _ _ hz8 Hn8.out).mono ?_
       rw [Hvb2.out]
       rintro e w9 ⟨rfl, hb9⟩
       have Hbel9 := Lib.hid (Hbel8.out.trans (hb9.mono Hbel8.out.size))
       clear hb9)
    | (go_at_call 13
       refine (alive_any _ (hv.below Hbel9.out hw) (Nat.le_trans hw (Below.size Hbel9.out))).mono ?_
       rintro e w12 ⟨rfl, hb12⟩
       have Hb12 := Lib.hid (Below.trans Hbel9.out (hb12.mono (Below.size Hbel9.out))))
    | (go_at_call 13
       refine (alive_any _ (hv.below Hbel.out hw) (Nat.le_trans hw (Below.size Hbel.out))).mono ?_
       rintro e w12 ⟨rfl, hb12⟩
       have Hb12 := Lib.hid (Below.trans Hbel.out (hb12.mono (Below.size Hbel.out)))))
  all_goals (
    refine ⟨rfl, .bool true, ?_, rfl, Hb12.out⟩
    simp [results, Tryd.results11, Tryd.f11, go_sem])

set_option maxRecDepth 100000 in
set_option maxHeartbeats 4000000 in
theorem sback_size_none (size : Int) (v : Value) (rs : List Sh.Rel) (text tx : ByteArray) (w : World) (h : Rels w w.heap.size v rs) (hz : text.size ≤ 140737488351232) (hv : Vars w) (hw : 5 ≤ w.heap.size) (hvb : Sh.validB ⟨size, rs⟩ = true) (htx : ∀ W B, B ≤ W.heap.size → Rels W B v rs → Calls Tryd.prog 48 #[.agg #[.int .i64 size, v]] W fun e w' => e = .returned (.tuple #[.string tx, .int .i64 5]) ∧ Below W.heap.size W w') (hpt : parseP text.toList = none) :
    Calls Tryd.prog 11 #[.agg #[.int .i64 size, v], .string text] w fun e w' => e = .returned (.bool true) ∧ Below w.heap.size w w' := by
  have h' := h
  obtain ⟨A, len, c, rfl, -⟩ := h'
  have hbel : Below w.heap.size w ((w.alloc (.cells #[.int .i64 size, .slice A len c] 24)).alloc (.cells #[.int .i64 size, .slice A len c] 24)) := ((Below.refl w.heap.size w).alloc (Nat.le_refl _) _).alloc (by simp) _
  have hsb : Blk ((w.alloc (.cells #[.int .i64 size, .slice A len c] 24)).alloc (.cells #[.int .i64 size, .slice A len c] 24)) w.heap.size 24 #[.int .i64 size, .slice A len c] := (Blk.new w 24 #[.int .i64 size, .slice A len c]).alloc _
  have hvar : Blk ((w.alloc (.cells #[.int .i64 size, .slice A len c] 24)).alloc (.cells #[.int .i64 size, .slice A len c] 24)) (w.heap.size + 1) 24 #[.int .i64 size, .slice A len c] := by
    have := Blk.new (w.alloc (.cells #[.int .i64 size, .slice A len c] 24)) 24 #[.int .i64 size, .slice A len c]
    rw [World.size_alloc] at this
    exact this
  have hrels := h.below hbel
  have q0 : ((w.alloc (.cells #[.int .i64 size, .slice A len c] 24)).alloc (.cells #[.int .i64 size, .slice A len c] 24)).cell? ⟨w.heap.size, 0, none⟩ = some (.int .i64 size) := hsb.cell 0
  have q1 : ((w.alloc (.cells #[.int .i64 size, .slice A len c] 24)).alloc (.cells #[.int .i64 size, .slice A len c] 24)).cell? ⟨w.heap.size, 1, none⟩ = some (.slice A len c) := hsb.cell 1
  have Hs := Lib.hid hsb; clear hsb
  have Hbel := Lib.hid hbel; clear hbel
  have Hvar := Lib.hid hvar; clear hvar
  have Hrels := Lib.hid hrels; clear hrels
  have Hvb := Lib.hid hvb; clear hvb
  have Htx := Lib.hid htx; clear htx
  have Hpt := Lib.hid hpt; clear hpt
  go_enter Tryd.func11, Tryd.ntmps11
  go_wp2_with (first
    | (go_at_call 12
       refine (few_any (w.heap.size + 1) size A len c _ rs _ Hvar.out Hrels.out).mono ?_
       rintro e w1 ⟨⟨b1, rfl⟩, rfl⟩)
    | (go_at_call_of 48 (Value.agg #[.int .i64 size, .slice A len c])
       refine (Htx.out _ w.heap.size Hbel.out.size Hrels.out).mono ?_
       rintro e w3 ⟨rfl, hb3⟩
       have Hs3 := Lib.hid (Hs.out.below hb3 Hs.out.lt)
       have Hbel3 := Lib.hid (Hbel.out.trans (hb3.mono Hbel.out.size))
       have x30 : w3.cell? ⟨w.heap.size, 0, none⟩ = some (.int .i64 size) := Hs3.out.cell 0
       have x31 : w3.cell? ⟨w.heap.size, 1, none⟩ = some (.slice A len c) := Hs3.out.cell 1
       clear hb3)
    | (go_at_call_of 16 (Value.agg #[.int .i64 size, .slice A len c])
       refine (valid_any size _ rs _ w.heap.size Hbel3.out.size (h.below Hbel3.out)).mono ?_
       rw [Hvb.out]
       rintro e w4 ⟨rfl, hb4⟩
       have Hbel6 := Lib.hid (Hbel3.out.trans (hb4.mono Hbel3.out.size))
       clear hb4)
    | (go_at_call_of 50 (Value.string text)
       refine (parse_any text _ hz (hv.below Hbel6.out hw) (Nat.le_trans hw (Below.size Hbel6.out))).mono ?_
       intro e w7 hp7
       obtain ⟨rfl, hb7⟩ := hp7.miss Hpt.out
       have hbel7 := Hbel6.out.trans (hb7.mono Hbel6.out.size)
       have Hbel9 := Lib.hid (hbel7.alloc hbel7.size (.cells #[.int .i64 0, .slice none 0 0] 24))
       clear hp7 hb7 hbel7)
    | (go_at_call 13
       refine (alive_any _ (hv.below Hbel9.out hw) (Nat.le_trans hw (Below.size Hbel9.out))).mono ?_
       rintro e w12 ⟨rfl, hb12⟩
       have Hb12 := Lib.hid (Below.trans Hbel9.out (hb12.mono (Below.size Hbel9.out))))
    | (go_at_call 13
       refine (alive_any _ (hv.below Hbel.out hw) (Nat.le_trans hw (Below.size Hbel.out))).mono ?_
       rintro e w12 ⟨rfl, hb12⟩
       have Hb12 := Lib.hid (Below.trans Hbel.out (hb12.mono (Below.size Hbel.out)))))
  all_goals (
    refine ⟨rfl, .bool true, ?_, rfl, Hb12.out⟩
    simp [results, Tryd.results11, Tryd.f11, go_sem])

set_option maxRecDepth 100000 in
set_option maxHeartbeats 4000000 in
theorem sback_size_some (size : Int) (v : Value) (rs : List Sh.Rel) (text tx : ByteArray) (w : World) (h : Rels w w.heap.size v rs) (hz : text.size ≤ 140737488351232) (hv : Vars w) (hw : 5 ≤ w.heap.size) (hvb : Sh.validB ⟨size, rs⟩ = true) (htx : ∀ W B, B ≤ W.heap.size → Rels W B v rs → Calls Tryd.prog 48 #[.agg #[.int .i64 size, v]] W fun e w' => e = .returned (.tuple #[.string tx, .int .i64 5]) ∧ Below W.heap.size W w') (size2 : Int) (rs2 : List Sh.Rel) (hpt : parseP text.toList = some ⟨size2, rs2⟩) (hvb2 : Sh.validB ⟨size2, rs2⟩ = true) (htx2 : ∀ W u B, B ≤ W.heap.size → Rels W B u rs2 → Calls Tryd.prog 48 #[.agg #[.int .i64 size2, u]] W fun e w' => e = .returned (.tuple #[.string text, .int .i64 0]) ∧ Below W.heap.size W w') :
    Calls Tryd.prog 11 #[.agg #[.int .i64 size, v], .string text] w fun e w' => e = .returned (.bool true) ∧ Below w.heap.size w w' := by
  have h' := h
  obtain ⟨A, len, c, rfl, -⟩ := h'
  have hbel : Below w.heap.size w ((w.alloc (.cells #[.int .i64 size, .slice A len c] 24)).alloc (.cells #[.int .i64 size, .slice A len c] 24)) := ((Below.refl w.heap.size w).alloc (Nat.le_refl _) _).alloc (by simp) _
  have hsb : Blk ((w.alloc (.cells #[.int .i64 size, .slice A len c] 24)).alloc (.cells #[.int .i64 size, .slice A len c] 24)) w.heap.size 24 #[.int .i64 size, .slice A len c] := (Blk.new w 24 #[.int .i64 size, .slice A len c]).alloc _
  have hvar : Blk ((w.alloc (.cells #[.int .i64 size, .slice A len c] 24)).alloc (.cells #[.int .i64 size, .slice A len c] 24)) (w.heap.size + 1) 24 #[.int .i64 size, .slice A len c] := by
    have := Blk.new (w.alloc (.cells #[.int .i64 size, .slice A len c] 24)) 24 #[.int .i64 size, .slice A len c]
    rw [World.size_alloc] at this
    exact this
  have hrels := h.below hbel
  have q0 : ((w.alloc (.cells #[.int .i64 size, .slice A len c] 24)).alloc (.cells #[.int .i64 size, .slice A len c] 24)).cell? ⟨w.heap.size, 0, none⟩ = some (.int .i64 size) := hsb.cell 0
  have q1 : ((w.alloc (.cells #[.int .i64 size, .slice A len c] 24)).alloc (.cells #[.int .i64 size, .slice A len c] 24)).cell? ⟨w.heap.size, 1, none⟩ = some (.slice A len c) := hsb.cell 1
  have Hs := Lib.hid hsb; clear hsb
  have Hbel := Lib.hid hbel; clear hbel
  have Hvar := Lib.hid hvar; clear hvar
  have Hrels := Lib.hid hrels; clear hrels
  have Hvb := Lib.hid hvb; clear hvb
  have Htx := Lib.hid htx; clear htx
  have Hpt := Lib.hid hpt; clear hpt
  have Hvb2 := Lib.hid hvb2; clear hvb2
  have Htx2 := Lib.hid htx2; clear htx2
  go_enter Tryd.func11, Tryd.ntmps11
  go_wp2_with (first
    | (go_at_call 12
       refine (few_any (w.heap.size + 1) size A len c _ rs _ Hvar.out Hrels.out).mono ?_
       rintro e w1 ⟨⟨b1, rfl⟩, rfl⟩)
    | (go_at_call_of 48 (Value.agg #[.int .i64 size, .slice A len c])
       refine (Htx.out _ w.heap.size Hbel.out.size Hrels.out).mono ?_
       rintro e w3 ⟨rfl, hb3⟩
       have Hs3 := Lib.hid (Hs.out.below hb3 Hs.out.lt)
       have Hbel3 := Lib.hid (Hbel.out.trans (hb3.mono Hbel.out.size))
       have x30 : w3.cell? ⟨w.heap.size, 0, none⟩ = some (.int .i64 size) := Hs3.out.cell 0
       have x31 : w3.cell? ⟨w.heap.size, 1, none⟩ = some (.slice A len c) := Hs3.out.cell 1
       clear hb3)
    | (go_at_call_of 16 (Value.agg #[.int .i64 size, .slice A len c])
       refine (valid_any size _ rs _ w.heap.size Hbel3.out.size (h.below Hbel3.out)).mono ?_
       rw [Hvb.out]
       rintro e w4 ⟨rfl, hb4⟩
       have Hbel6 := Lib.hid (Hbel3.out.trans (hb4.mono Hbel3.out.size))
       clear hb4)
    | (go_at_call_of 50 (Value.string text)
       refine (parse_any text _ hz (hv.below Hbel6.out hw) (Nat.le_trans hw (Below.size Hbel6.out))).mono ?_
       intro e w7 hp7
       obtain ⟨x7, rfl, hn7, hb7⟩ := hp7.hit Hpt.out
       have hn7' := hn7
       obtain ⟨QA, QN, QC, rfl, -⟩ := hn7'
       have hbel7 := Hbel6.out.trans (hb7.mono Hbel6.out.size)
       have hq7 := Blk.new w7 24 #[.int .i64 size2, .slice QA QN QC]
       have z70 : (w7.alloc (.cells #[.int .i64 size2, .slice QA QN QC] 24)).cell? ⟨w7.heap.size, 0, none⟩ = some (.int .i64 size2) := hq7.cell 0
       have z71 : (w7.alloc (.cells #[.int .i64 size2, .slice QA QN QC] 24)).cell? ⟨w7.heap.size, 1, none⟩ = some (.slice QA QN QC) := hq7.cell 1
       have Hbel7 := Lib.hid (hbel7.alloc hbel7.size (.cells #[.int .i64 size2, .slice QA QN QC] 24))
       have Hn7 := Lib.hid (hn7.keep (Keeps.alloc _ _ w7 (.cells #[.int .i64 size2, .slice QA QN QC] 24))).rels
       have Hq7 := Lib.hid hq7
       clear hp7 hb7 hn7 hbel7 hq7)
    | (go_at_call_of 48 (Value.agg #[.int .i64 size2, .slice QA QN QC])
       refine (Htx2.out _ _ _ (Nat.le_refl _) Hn7.out).mono ?_
       rintro e w8 ⟨rfl, hb8⟩
       have hq8 := Hq7.out.below hb8 Hq7.out.lt
       have z80 : w8.cell? ⟨w7.heap.size, 0, none⟩ = some (.int .i64 size2) := hq8.cell 0
       have z81 : w8.cell? ⟨w7.heap.size, 1, none⟩ = some (.slice QA QN QC) := hq8.cell 1
       have Hbel8 := Lib.hid (Hbel7.out.trans (hb8.mono Hbel7.out.size))
       have hz8 := hb8.size
       have Hn8 := Lib.hid (Hn7.out.below hb8)
       clear hb8 hq8)
    | (go_at_call_of 16 (Value.agg #[.int .i64 size2, .slice QA QN QC])
       refine (valid_any size2 _ rs2 _ _ hz8 Hn8.out).mono ?_
       rw [Hvb2.out]
       rintro e w9 ⟨rfl, hb9⟩
       have Hbel9 := Lib.hid (Hbel8.out.trans (hb9.mono Hbel8.out.size))
       clear hb9)
    | (go_at_call 13
       refine (alive_any _ (hv.below Hbel9.out hw) (Nat.le_trans hw (Below.size Hbel9.out))).mono ?_
       rintro e w12 ⟨rfl, hb12⟩
       have Hb12 := Lib.hid (Below.trans Hbel9.out (hb12.mono (Below.size Hbel9.out))))
    | (go_at_call 13
       refine (alive_any _ (hv.below Hbel.out hw) (Nat.le_trans hw (Below.size Hbel.out))).mono ?_
       rintro e w12 ⟨rfl, hb12⟩
       have Hb12 := Lib.hid (Below.trans Hbel.out (hb12.mono (Below.size Hbel.out)))))
  all_goals (
    refine ⟨rfl, .bool true, ?_, rfl, Hb12.out⟩
    simp [results, Tryd.results11, Tryd.f11, go_sem])

set_option maxRecDepth 100000 in
set_option maxHeartbeats 4000000 in
theorem sback_fine_none (size : Int) (v : Value) (rs : List Sh.Rel) (text tx : ByteArray) (w : World) (h : Rels w w.heap.size v rs) (hz : text.size ≤ 140737488351232) (hv : Vars w) (hw : 5 ≤ w.heap.size) (hvb : Sh.validB ⟨size, rs⟩ = true) (htz : tx.size ≤ 140737488351232) (hpx : parseP tx.toList = some ⟨size, rs⟩) (htx : ∀ W B, B ≤ W.heap.size → Rels W B v rs → Calls Tryd.prog 48 #[.agg #[.int .i64 size, v]] W fun e w' => e = .returned (.tuple #[.string tx, .int .i64 0]) ∧ Below W.heap.size W w') (hpt : parseP text.toList = none) :
    Calls Tryd.prog 11 #[.agg #[.int .i64 size, v], .string text] w fun e w' => e = .returned (.bool true) ∧ Below w.heap.size w w' := by
  have h' := h
  obtain ⟨A, len, c, rfl, -⟩ := h'
  have hbel : Below w.heap.size w ((w.alloc (.cells #[.int .i64 size, .slice A len c] 24)).alloc (.cells #[.int .i64 size, .slice A len c] 24)) := ((Below.refl w.heap.size w).alloc (Nat.le_refl _) _).alloc (by simp) _
  have hsb : Blk ((w.alloc (.cells #[.int .i64 size, .slice A len c] 24)).alloc (.cells #[.int .i64 size, .slice A len c] 24)) w.heap.size 24 #[.int .i64 size, .slice A len c] := (Blk.new w 24 #[.int .i64 size, .slice A len c]).alloc _
  have hvar : Blk ((w.alloc (.cells #[.int .i64 size, .slice A len c] 24)).alloc (.cells #[.int .i64 size, .slice A len c] 24)) (w.heap.size + 1) 24 #[.int .i64 size, .slice A len c] := by
    have := Blk.new (w.alloc (.cells #[.int .i64 size, .slice A len c] 24)) 24 #[.int .i64 size, .slice A len c]
    rw [World.size_alloc] at this
    exact this
  have hrels := h.below hbel
  have q0 : ((w.alloc (.cells #[.int .i64 size, .slice A len c] 24)).alloc (.cells #[.int .i64 size, .slice A len c] 24)).cell? ⟨w.heap.size, 0, none⟩ = some (.int .i64 size) := hsb.cell 0
  have q1 : ((w.alloc (.cells #[.int .i64 size, .slice A len c] 24)).alloc (.cells #[.int .i64 size, .slice A len c] 24)).cell? ⟨w.heap.size, 1, none⟩ = some (.slice A len c) := hsb.cell 1
  have Hs := Lib.hid hsb; clear hsb
  have Hbel := Lib.hid hbel; clear hbel
  have Hvar := Lib.hid hvar; clear hvar
  have Hrels := Lib.hid hrels; clear hrels
  have Hvb := Lib.hid hvb; clear hvb
  have Htx := Lib.hid htx; clear htx
  have Hpx := Lib.hid hpx; clear hpx
  have Hpt := Lib.hid hpt; clear hpt
  go_enter Tryd.func11, Tryd.ntmps11
  go_wp2_with (first
    | (go_at_call 12
       refine (few_any (w.heap.size + 1) size A len c _ rs _ Hvar.out Hrels.out).mono ?_
       rintro e w1 ⟨⟨b1, rfl⟩, rfl⟩)
    | (go_at_call_of 48 (Value.agg #[.int .i64 size, .slice A len c])
       refine (Htx.out _ w.heap.size Hbel.out.size Hrels.out).mono ?_
       rintro e w3 ⟨rfl, hb3⟩
       have Hs3 := Lib.hid (Hs.out.below hb3 Hs.out.lt)
       have Hbel3 := Lib.hid (Hbel.out.trans (hb3.mono Hbel.out.size))
       have x30 : w3.cell? ⟨w.heap.size, 0, none⟩ = some (.int .i64 size) := Hs3.out.cell 0
       have x31 : w3.cell? ⟨w.heap.size, 1, none⟩ = some (.slice A len c) := Hs3.out.cell 1
       clear hb3)
    | (go_at_call_of 50 (Value.string tx)
       refine (parse_any tx _ htz (hv.below Hbel3.out hw) (Nat.le_trans hw (Below.size Hbel3.out))).mono ?_
       intro e w4 hp4
       obtain ⟨x4, rfl, hn4, hb4⟩ := hp4.hit Hpx.out
       have hn4' := hn4
       obtain ⟨PA, PN, PC, rfl, -⟩ := hn4'
       have hbel4 := Hbel3.out.trans (hb4.mono Hbel3.out.size)
       have hs4 := (Hs3.out.below hb4 Hs3.out.lt).alloc (.cells #[.int .i64 size, .slice PA PN PC] 24)
       have hp4 := Blk.new w4 24 #[.int .i64 size, .slice PA PN PC]
       have x40 : (w4.alloc (.cells #[.int .i64 size, .slice PA PN PC] 24)).cell? ⟨w.heap.size, 0, none⟩ = some (.int .i64 size) := hs4.cell 0
       have x41 : (w4.alloc (.cells #[.int .i64 size, .slice PA PN PC] 24)).cell? ⟨w.heap.size, 1, none⟩ = some (.slice A len c) := hs4.cell 1
       have y40 : (w4.alloc (.cells #[.int .i64 size, .slice PA PN PC] 24)).cell? ⟨w4.heap.size, 0, none⟩ = some (.int .i64 size) := hp4.cell 0
       have y41 : (w4.alloc (.cells #[.int .i64 size, .slice PA PN PC] 24)).cell? ⟨w4.heap.size, 1, none⟩ = some (.slice PA PN PC) := hp4.cell 1
       have Hbel4 := Lib.hid (hbel4.alloc hbel4.size (.cells #[.int .i64 size, .slice PA PN PC] 24))
       have Hn4 := Lib.hid (hn4.keep (Keeps.alloc _ _ w4 (.cells #[.int .i64 size, .slice PA PN PC] 24))).rels
       clear hb4 hn4 hbel4 hs4 hp4)
    | (go_at_call 46
       refine (same_eq size _ _ rs _ _ (Nat.le_refl _) Hn4.out ((h.below Hbel4.out).more Hbel4.out.size)).mono ?_
       rintro e w5 ⟨rfl, hb5⟩
       have Hbel6 := Lib.hid (Hbel4.out.trans (hb5.mono Hbel4.out.size))
       clear hb5)
    | (go_at_call_of 50 (Value.string text)
       refine (parse_any text _ hz (hv.below Hbel6.out hw) (Nat.le_trans hw (Below.size Hbel6.out))).mono ?_
       intro e w7 hp7
       obtain ⟨rfl, hb7⟩ := hp7.miss Hpt.out
       have hbel7 := Hbel6.out.trans (hb7.mono Hbel6.out.size)
       have Hbel9 := Lib.hid (hbel7.alloc hbel7.size (.cells #[.int .i64 0, .slice none 0 0] 24))
       clear hp7 hb7 hbel7)
    | (go_at_call 13
       refine (alive_any _ (hv.below Hbel9.out hw) (Nat.le_trans hw (Below.size Hbel9.out))).mono ?_
       rintro e w12 ⟨rfl, hb12⟩
       have Hb12 := Lib.hid (Below.trans Hbel9.out (hb12.mono (Below.size Hbel9.out))))
    | (go_at_call 13
       refine (alive_any _ (hv.below Hbel.out hw) (Nat.le_trans hw (Below.size Hbel.out))).mono ?_
       rintro e w12 ⟨rfl, hb12⟩
       have Hb12 := Lib.hid (Below.trans Hbel.out (hb12.mono (Below.size Hbel.out)))))
  all_goals (
    refine ⟨rfl, .bool true, ?_, rfl, Hb12.out⟩
    simp [results, Tryd.results11, Tryd.f11, go_sem])

set_option maxRecDepth 100000 in
set_option maxHeartbeats 4000000 in
theorem sback_fine_some (size : Int) (v : Value) (rs : List Sh.Rel) (text tx : ByteArray) (w : World) (h : Rels w w.heap.size v rs) (hz : text.size ≤ 140737488351232) (hv : Vars w) (hw : 5 ≤ w.heap.size) (hvb : Sh.validB ⟨size, rs⟩ = true) (htz : tx.size ≤ 140737488351232) (hpx : parseP tx.toList = some ⟨size, rs⟩) (htx : ∀ W B, B ≤ W.heap.size → Rels W B v rs → Calls Tryd.prog 48 #[.agg #[.int .i64 size, v]] W fun e w' => e = .returned (.tuple #[.string tx, .int .i64 0]) ∧ Below W.heap.size W w') (size2 : Int) (rs2 : List Sh.Rel) (hpt : parseP text.toList = some ⟨size2, rs2⟩) (hvb2 : Sh.validB ⟨size2, rs2⟩ = true) (htx2 : ∀ W u B, B ≤ W.heap.size → Rels W B u rs2 → Calls Tryd.prog 48 #[.agg #[.int .i64 size2, u]] W fun e w' => e = .returned (.tuple #[.string text, .int .i64 0]) ∧ Below W.heap.size W w') :
    Calls Tryd.prog 11 #[.agg #[.int .i64 size, v], .string text] w fun e w' => e = .returned (.bool true) ∧ Below w.heap.size w w' := by
  have h' := h
  obtain ⟨A, len, c, rfl, -⟩ := h'
  have hbel : Below w.heap.size w ((w.alloc (.cells #[.int .i64 size, .slice A len c] 24)).alloc (.cells #[.int .i64 size, .slice A len c] 24)) := ((Below.refl w.heap.size w).alloc (Nat.le_refl _) _).alloc (by simp) _
  have hsb : Blk ((w.alloc (.cells #[.int .i64 size, .slice A len c] 24)).alloc (.cells #[.int .i64 size, .slice A len c] 24)) w.heap.size 24 #[.int .i64 size, .slice A len c] := (Blk.new w 24 #[.int .i64 size, .slice A len c]).alloc _
  have hvar : Blk ((w.alloc (.cells #[.int .i64 size, .slice A len c] 24)).alloc (.cells #[.int .i64 size, .slice A len c] 24)) (w.heap.size + 1) 24 #[.int .i64 size, .slice A len c] := by
    have := Blk.new (w.alloc (.cells #[.int .i64 size, .slice A len c] 24)) 24 #[.int .i64 size, .slice A len c]
    rw [World.size_alloc] at this
    exact this
  have hrels := h.below hbel
  have q0 : ((w.alloc (.cells #[.int .i64 size, .slice A len c] 24)).alloc (.cells #[.int .i64 size, .slice A len c] 24)).cell? ⟨w.heap.size, 0, none⟩ = some (.int .i64 size) := hsb.cell 0
  have q1 : ((w.alloc (.cells #[.int .i64 size, .slice A len c] 24)).alloc (.cells #[.int .i64 size, .slice A len c] 24)).cell? ⟨w.heap.size, 1, none⟩ = some (.slice A len c) := hsb.cell 1
  have Hs := Lib.hid hsb; clear hsb
  have Hbel := Lib.hid hbel; clear hbel
  have Hvar := Lib.hid hvar; clear hvar
  have Hrels := Lib.hid hrels; clear hrels
  have Hvb := Lib.hid hvb; clear hvb
  have Htx := Lib.hid htx; clear htx
  have Hpx := Lib.hid hpx; clear hpx
  have Hpt := Lib.hid hpt; clear hpt
  have Hvb2 := Lib.hid hvb2; clear hvb2
  have Htx2 := Lib.hid htx2; clear htx2
  go_enter Tryd.func11, Tryd.ntmps11
  go_wp2_with (first
    | (go_at_call 12
       refine (few_any (w.heap.size + 1) size A len c _ rs _ Hvar.out Hrels.out).mono ?_
       rintro e w1 ⟨⟨b1, rfl⟩, rfl⟩)
    | (go_at_call_of 48 (Value.agg #[.int .i64 size, .slice A len c])
       refine (Htx.out _ w.heap.size Hbel.out.size Hrels.out).mono ?_
       rintro e w3 ⟨rfl, hb3⟩
       have Hs3 := Lib.hid (Hs.out.below hb3 Hs.out.lt)
       have Hbel3 := Lib.hid (Hbel.out.trans (hb3.mono Hbel.out.size))
       have x30 : w3.cell? ⟨w.heap.size, 0, none⟩ = some (.int .i64 size) := Hs3.out.cell 0
       have x31 : w3.cell? ⟨w.heap.size, 1, none⟩ = some (.slice A len c) := Hs3.out.cell 1
       clear hb3)
    | (go_at_call_of 50 (Value.string tx)
       refine (parse_any tx _ htz (hv.below Hbel3.out hw) (Nat.le_trans hw (Below.size Hbel3.out))).mono ?_
       intro e w4 hp4
       obtain ⟨x4, rfl, hn4, hb4⟩ := hp4.hit Hpx.out
       have hn4' := hn4
       obtain ⟨PA, PN, PC, rfl, -⟩ := hn4'
       have hbel4 := Hbel3.out.trans (hb4.mono Hbel3.out.size)
       have hs4 := (Hs3.out.below hb4 Hs3.out.lt).alloc (.cells #[.int .i64 size, .slice PA PN PC] 24)
       have hp4 := Blk.new w4 24 #[.int .i64 size, .slice PA PN PC]
       have x40 : (w4.alloc (.cells #[.int .i64 size, .slice PA PN PC] 24)).cell? ⟨w.heap.size, 0, none⟩ = some (.int .i64 size) := hs4.cell 0
       have x41 : (w4.alloc (.cells #[.int .i64 size, .slice PA PN PC] 24)).cell? ⟨w.heap.size, 1, none⟩ = some (.slice A len c) := hs4.cell 1
       have y40 : (w4.alloc (.cells #[.int .i64 size, .slice PA PN PC] 24)).cell? ⟨w4.heap.size, 0, none⟩ = some (.int .i64 size) := hp4.cell 0
       have y41 : (w4.alloc (.cells #[.int .i64 size, .slice PA PN PC] 24)).cell? ⟨w4.heap.size, 1, none⟩ = some (.slice PA PN PC) := hp4.cell 1
       have Hbel4 := Lib.hid (hbel4.alloc hbel4.size (.cells #[.int .i64 size, .slice PA PN PC] 24))
       have Hn4 := Lib.hid (hn4.keep (Keeps.alloc _ _ w4 (.cells #[.int .i64 size, .slice PA PN PC] 24))).rels
       clear hb4 hn4 hbel4 hs4 hp4)
    | (go_at_call 46
       refine (same_eq size _ _ rs _ _ (Nat.le_refl _) Hn4.out ((h.below Hbel4.out).more Hbel4.out.size)).mono ?_
       rintro e w5 ⟨rfl, hb5⟩
       have Hbel6 := Lib.hid (Hbel4.out.trans (hb5.mono Hbel4.out.size))
       clear hb5)
    | (go_at_call_of 50 (Value.string text)
       refine (parse_any text _ hz (hv.below Hbel6.out hw) (Nat.le_trans hw (Below.size Hbel6.out))).mono ?_
       intro e w7 hp7
       obtain ⟨x7, rfl, hn7, hb7⟩ := hp7.hit Hpt.out
       have hn7' := hn7
       obtain ⟨QA, QN, QC, rfl, -⟩ := hn7'
       have hbel7 := Hbel6.out.trans (hb7.mono Hbel6.out.size)
       have hq7 := Blk.new w7 24 #[.int .i64 size2, .slice QA QN QC]
       have z70 : (w7.alloc (.cells #[.int .i64 size2, .slice QA QN QC] 24)).cell? ⟨w7.heap.size, 0, none⟩ = some (.int .i64 size2) := hq7.cell 0
       have z71 : (w7.alloc (.cells #[.int .i64 size2, .slice QA QN QC] 24)).cell? ⟨w7.heap.size, 1, none⟩ = some (.slice QA QN QC) := hq7.cell 1
       have Hbel7 := Lib.hid (hbel7.alloc hbel7.size (.cells #[.int .i64 size2, .slice QA QN QC] 24))
       have Hn7 := Lib.hid (hn7.keep (Keeps.alloc _ _ w7 (.cells #[.int .i64 size2, .slice QA QN QC] 24))).rels
       have Hq7 := Lib.hid hq7
       clear hp7 hb7 hn7 hbel7 hq7)
    | (go_at_call_of 48 (Value.agg #[.int .i64 size2, .slice QA QN QC])
       refine (Htx2.out _ _ _ (Nat.le_refl _) Hn7.out).mono ?_
       rintro e w8 ⟨rfl, hb8⟩
       have hq8 := Hq7.out.below hb8 Hq7.out.lt
       have z80 : w8.cell? ⟨w7.heap.size, 0, none⟩ = some (.int .i64 size2) := hq8.cell 0
       have z81 : w8.cell? ⟨w7.heap.size, 1, none⟩ = some (.slice QA QN QC) := hq8.cell 1
       have Hbel8 := Lib.hid (Hbel7.out.trans (hb8.mono Hbel7.out.size))
       have hz8 := hb8.size
       have Hn8 := Lib.hid (Hn7.out.below hb8)
       clear hb8 hq8)
    | (go_at_call_of 16 (Value.agg #[.int .i64 size2, .slice QA QN QC])
       refine (valid_any size2 _ rs2 _ _ hz8 Hn8.out).mono ?_
       rw [Hvb2.out]
       rintro e w9 ⟨rfl, hb9⟩
       have Hbel9 := Lib.hid (Hbel8.out.trans (hb9.mono Hbel8.out.size))
       clear hb9)
    | (go_at_call 13
       refine (alive_any _ (hv.below Hbel9.out hw) (Nat.le_trans hw (Below.size Hbel9.out))).mono ?_
       rintro e w12 ⟨rfl, hb12⟩
       have Hb12 := Lib.hid (Below.trans Hbel9.out (hb12.mono (Below.size Hbel9.out))))
    | (go_at_call 13
       refine (alive_any _ (hv.below Hbel.out hw) (Nat.le_trans hw (Below.size Hbel.out))).mono ?_
       rintro e w12 ⟨rfl, hb12⟩
       have Hb12 := Lib.hid (Below.trans Hbel.out (hb12.mono (Below.size Hbel.out)))))
  all_goals (
    refine ⟨rfl, .bool true, ?_, rfl, Hb12.out⟩
    simp [results, Tryd.results11, Tryd.f11, go_sem])

theorem sback_any (size : Int) (v : Value) (rs : List Sh.Rel) (text : ByteArray) (w : World) (h : Rels w w.heap.size v rs) (hz : text.size ≤ 140737488351232) (hv : Vars w) (hw : 5 ≤ w.heap.size) :
    Calls Tryd.prog 11 #[.agg #[.int .i64 size, v], .string text] w fun e w' => e = .returned (.bool true) ∧ Below w.heap.size w w' := by
  have htx : ∀ W B, B ≤ W.heap.size → Rels W B v rs → Calls Tryd.prog 48 #[.agg #[.int .i64 size, v]] W fun e w' => e = .returned (.tuple #[.string (Tx.textE ⟨size, rs⟩).1, .int .i64 (Tx.textE ⟨size, rs⟩).2]) ∧ Below W.heap.size W w' := fun W B hB hr => text_any size v rs W B hB hr
  cases hp : parseP text.toList with
  | none =>
    cases hvb : Sh.validB ⟨size, rs⟩
    · rw [Tx.textE_form hvb] at htx
      exact sback_form_none size v rs text _ w h hz hv hw hvb htx hp
    · by_cases hl : 40000 < (Tx.textS ⟨size, rs⟩).length
      · rw [Tx.textE_size hvb hl] at htx
        exact sback_size_none size v rs text _ w h hz hv hw hvb htx hp
      · rw [Tx.textE_ok hvb hl] at htx
        exact sback_fine_none size v rs text _ w h hz hv hw hvb (by show (Tx.textS ⟨size, rs⟩).toArray.size ≤ _; simp; omega) (by rw [ByteArray.toList_eq]; exact Tx.parse_text hvb (by omega)) htx hp
  | some s2 =>
    obtain ⟨size2, rs2⟩ := s2
    obtain ⟨he, hl2, hvb2⟩ := Tx.text_parse hp
    have htx2 : ∀ W u B, B ≤ W.heap.size → Rels W B u rs2 → Calls Tryd.prog 48 #[.agg #[.int .i64 size2, u]] W fun e w' => e = .returned (.tuple #[.string text, .int .i64 0]) ∧ Below W.heap.size W w' := fun W u B hB hr => by
      have := text_any size2 u rs2 W B hB hr
      rw [Tx.textE_ok hvb2 (by rw [← he]; omega), ← he] at this
      rw [ByteArray.toList_eq] at this
      exact this
    cases hvb : Sh.validB ⟨size, rs⟩
    · rw [Tx.textE_form hvb] at htx
      exact sback_form_some size v rs text _ w h hz hv hw hvb htx size2 rs2 hp hvb2 htx2
    · by_cases hl : 40000 < (Tx.textS ⟨size, rs⟩).length
      · rw [Tx.textE_size hvb hl] at htx
        exact sback_size_some size v rs text _ w h hz hv hw hvb htx size2 rs2 hp hvb2 htx2
      · rw [Tx.textE_ok hvb hl] at htx
        exact sback_fine_some size v rs text _ w h hz hv hw hvb (by show (Tx.textS ⟨size, rs⟩).toArray.size ≤ _; simp; omega) (by rw [ByteArray.toList_eq]; exact Tx.parse_text hvb (by omega)) htx size2 rs2 hp hvb2 htx2

end Go.Proofs.YtbddchonhicpiaaDoor
