/-
  Walk: ShapeTexts.
-/
import Derived.Test.YtbddchonhicpiaaDoorTextw
import Derived.Test.YtbddchonhicpiaaDoorRtext
import Derived.Test.YtbddchonhicpiaaDoorRparse
import Derived.Test.YtbddchonhicpiaaDoorSback
namespace Go.Proofs.YtbddchonhicpiaaDoor
open Go.RowKit

theorem rparse_any (text : ByteArray) (w : World) (hs : text.size ≤ 140737488351232) :
    Calls Tryd.prog 51 #[.string text] w (RParsePost text w) := by
  by_cases h : 40000 < text.size
  · exact rparse_big text w h hs
  · exact rparse_small text w (by omega)

set_option maxRecDepth 100000 in
set_option maxHeartbeats 4000000 in
theorem stexts_form_none (size : Int) (v : Value) (rs : List Sh.Rel) (text tw : ByteArray) (w : World) (h : Rels w w.heap.size v rs) (hz : text.size ≤ 140737488351232) (hv : Vars w) (hw : 5 ≤ w.heap.size) (hvb : Sh.validB ⟨size, rs⟩ = false) (htx : ∀ W B, B ≤ W.heap.size → Rels W B v rs → Calls Tryd.prog 48 #[.agg #[.int .i64 size, v]] W fun e w' => e = .returned (.tuple #[.string ⟨#[]⟩, .int .i64 1]) ∧ Below W.heap.size W w') (hpt : parseP text.toList = none) :
    Calls Tryd.prog 10 #[.agg #[.int .i64 size, v], .string text] w fun e w' => e = .returned (.bool true) ∧ Below w.heap.size w w' := by
  have h' := h
  obtain ⟨A, len, c, rfl, -⟩ := h'
  have hbel : Below w.heap.size w ((w.alloc (.cells #[.int .i64 size, .slice A len c] 24)).alloc (.cells #[.int .i64 size, .slice A len c] 24)) := ((Below.refl w.heap.size w).alloc (Nat.le_refl _) _).alloc (by simp) _
  have hsb : Blk ((w.alloc (.cells #[.int .i64 size, .slice A len c] 24)).alloc (.cells #[.int .i64 size, .slice A len c] 24)) w.heap.size 24 #[.int .i64 size, .slice A len c] := (Blk.new w 24 #[.int .i64 size, .slice A len c]).alloc _
  have hvar : Blk ((w.alloc (.cells #[.int .i64 size, .slice A len c] 24)).alloc (.cells #[.int .i64 size, .slice A len c] 24)) (w.heap.size + 1) 24 #[.int .i64 size, .slice A len c] := by
    have := Blk.new (w.alloc (.cells #[.int .i64 size, .slice A len c] 24)) 24 #[.int .i64 size, .slice A len c]
    rw [World.size_alloc] at this
    exact this
  have hrels := h.below hbel
  have q0 : ((w.alloc (.cells #[.int .i64 size, .slice A len c] 24)).alloc (.cells #[.int .i64 size, .slice A len c] 24)).cell? ⟨w.heap.size, 0, none⟩ = some (.int .i64 size) := hsb.cell 0
  have q1 : ((w.alloc (.cells #[.int .i64 size, .slice A len c] 24)).alloc (.cells #[.int .i64 size, .slice A len c] 24)).cell? ⟨w.heap.size, 1, none⟩ = some (.slice A len c) := hsb.cell 1
  have Hs := Lib.hid hsb; clear hsb
  have Hbel := Lib.hid hbel; clear hbel
  have Hvar := Lib.hid hvar; clear hvar
  have Hrels := Lib.hid hrels; clear hrels
  have Hvb := Lib.hid hvb; clear hvb
  have Htx := Lib.hid htx; clear htx
  have Hpt := Lib.hid hpt; clear hpt
  go_enter Tryd.func10, Tryd.ntmps10
  go_wp2_with (first
    | (go_at_call 12
       refine (few_any (w.heap.size + 1) size A len c _ rs _ Hvar.out Hrels.out).mono ?_
       rintro e w1 ⟨⟨b1, rfl⟩, rfl⟩)
    | (go_at_call 48
       refine (Htx.out _ w.heap.size Hbel.out.size Hrels.out).mono ?_
       rintro e w3 ⟨rfl, hb3⟩
       have Hs3 := Lib.hid (Hs.out.below hb3 Hs.out.lt)
       have Hbel3 := Lib.hid (Hbel.out.trans (hb3.mono Hbel.out.size))
       have x30 : w3.cell? ⟨w.heap.size, 0, none⟩ = some (.int .i64 size) := Hs3.out.cell 0
       have x31 : w3.cell? ⟨w.heap.size, 1, none⟩ = some (.slice A len c) := Hs3.out.cell 1
       clear hb3)
    | (go_at_call 14
       refine (refvalid_any size _ rs _ w.heap.size Hbel3.out.size (h.below Hbel3.out)).mono ?_
       rw [Hvb.out]
       rintro e w4 ⟨rfl, hb4⟩
       have Hs4 := Lib.hid (Hs3.out.below hb4 Hs3.out.lt)
       have Hbel6 := Lib.hid (Hbel3.out.trans (hb4.mono Hbel3.out.size))
       have x40 : w4.cell? ⟨w.heap.size, 0, none⟩ = some (.int .i64 size) := Hs4.out.cell 0
       have x41 : w4.cell? ⟨w.heap.size, 1, none⟩ = some (.slice A len c) := Hs4.out.cell 1
       clear hb4)
    | (go_at_call 50
       refine (parse_any text _ hz (hv.below Hbel6.out hw) (Nat.le_trans hw (Below.size Hbel6.out))).mono ?_
       intro e w7 hp7
       obtain ⟨rfl, hb7⟩ := hp7.miss Hpt.out
       have hbel7 := Hbel6.out.trans (hb7.mono Hbel6.out.size)
       have Hbel7 := Lib.hid (hbel7.alloc hbel7.size (.cells #[.int .i64 0, .slice none 0 0] 24))
       have Hp7 := Lib.hid (Blk.new w7 24 #[.int .i64 0, .slice none 0 0])
       clear hp7 hb7 hbel7)
    | (go_at_call 51
       refine (rparse_any text _ hz).mono ?_
       intro e w8 hp8
       obtain ⟨rfl, hb8⟩ := hp8.miss Hpt.out
       have hbel8 := Hbel7.out.trans (hb8.mono Hbel7.out.size)
       have Hbel8 := Lib.hid (hbel8.alloc hbel8.size (.cells #[.int .i64 0, .slice none 0 0] 24))
       have hpp8 := (Hp7.out.below hb8 Hp7.out.lt)
       have hp8a := hpp8.alloc (.cells #[.int .i64 0, .slice none 0 0] 24)
       have hx8a := Blk.new w8 24 #[.int .i64 0, .slice none 0 0]
       have y80 : (w8.alloc (.cells #[.int .i64 0, .slice none 0 0] 24)).cell? ⟨w7.heap.size, 0, none⟩ = some (.int .i64 0) := hp8a.cell 0
       have y81 : (w8.alloc (.cells #[.int .i64 0, .slice none 0 0] 24)).cell? ⟨w7.heap.size, 1, none⟩ = some (.slice none 0 0) := hp8a.cell 1
       have z80 : (w8.alloc (.cells #[.int .i64 0, .slice none 0 0] 24)).cell? ⟨w8.heap.size, 0, none⟩ = some (.int .i64 0) := hx8a.cell 0
       have z81 : (w8.alloc (.cells #[.int .i64 0, .slice none 0 0] 24)).cell? ⟨w8.heap.size, 1, none⟩ = some (.slice none 0 0) := hx8a.cell 1
       clear hp8 hb8 hbel8 hpp8 hp8a hx8a)
    | (go_at_call 36
       refine (is_bad 0 _ [] 3 (by decide) _ 0 (Rels.nil _ 0)).mono ?_
       rintro e w9 ⟨rfl, hb9⟩
       have Hbel9 := Lib.hid (Hbel8.out.trans (hb9.mono Hbel8.out.size)))
    | (go_at_call 13
       refine (alive_any _ (hv.below Hbel9.out hw) (Nat.le_trans hw (Below.size Hbel9.out))).mono ?_
       rintro e w12 ⟨rfl, hb12⟩
       have Hb12 := Lib.hid (Below.trans Hbel9.out (hb12.mono (Below.size Hbel9.out))))
    | (go_at_call 13
       refine (alive_any _ (hv.below Hbel.out hw) (Nat.le_trans hw (Below.size Hbel.out))).mono ?_
       rintro e w12 ⟨rfl, hb12⟩
       have Hb12 := Lib.hid (Below.trans Hbel.out (hb12.mono (Below.size Hbel.out)))))
  all_goals (
    refine ⟨rfl, .bool true, ?_, rfl, Hb12.out⟩
    simp [results, Tryd.results10, Tryd.f10, go_sem])

set_option maxRecDepth 100000 in
set_option maxHeartbeats 4000000 in
theorem stexts_form_some (size : Int) (v : Value) (rs : List Sh.Rel) (text tw : ByteArray) (w : World) (h : Rels w w.heap.size v rs) (hz : text.size ≤ 140737488351232) (hv : Vars w) (hw : 5 ≤ w.heap.size) (hvb : Sh.validB ⟨size, rs⟩ = false) (htx : ∀ W B, B ≤ W.heap.size → Rels W B v rs → Calls Tryd.prog 48 #[.agg #[.int .i64 size, v]] W fun e w' => e = .returned (.tuple #[.string ⟨#[]⟩, .int .i64 1]) ∧ Below W.heap.size W w') (size2 : Int) (rs2 : List Sh.Rel) (hpt : parseP text.toList = some ⟨size2, rs2⟩) :
    Calls Tryd.prog 10 #[.agg #[.int .i64 size, v], .string text] w fun e w' => e = .returned (.bool true) ∧ Below w.heap.size w w' := by
  have h' := h
  obtain ⟨A, len, c, rfl, -⟩ := h'
  have hbel : Below w.heap.size w ((w.alloc (.cells #[.int .i64 size, .slice A len c] 24)).alloc (.cells #[.int .i64 size, .slice A len c] 24)) := ((Below.refl w.heap.size w).alloc (Nat.le_refl _) _).alloc (by simp) _
  have hsb : Blk ((w.alloc (.cells #[.int .i64 size, .slice A len c] 24)).alloc (.cells #[.int .i64 size, .slice A len c] 24)) w.heap.size 24 #[.int .i64 size, .slice A len c] := (Blk.new w 24 #[.int .i64 size, .slice A len c]).alloc _
  have hvar : Blk ((w.alloc (.cells #[.int .i64 size, .slice A len c] 24)).alloc (.cells #[.int .i64 size, .slice A len c] 24)) (w.heap.size + 1) 24 #[.int .i64 size, .slice A len c] := by
    have := Blk.new (w.alloc (.cells #[.int .i64 size, .slice A len c] 24)) 24 #[.int .i64 size, .slice A len c]
    rw [World.size_alloc] at this
    exact this
  have hrels := h.below hbel
  have q0 : ((w.alloc (.cells #[.int .i64 size, .slice A len c] 24)).alloc (.cells #[.int .i64 size, .slice A len c] 24)).cell? ⟨w.heap.size, 0, none⟩ = some (.int .i64 size) := hsb.cell 0
  have q1 : ((w.alloc (.cells #[.int .i64 size, .slice A len c] 24)).alloc (.cells #[.int .i64 size, .slice A len c] 24)).cell? ⟨w.heap.size, 1, none⟩ = some (.slice A len c) := hsb.cell 1
  have Hs := Lib.hid hsb; clear hsb
  have Hbel := Lib.hid hbel; clear hbel
  have Hvar := Lib.hid hvar; clear hvar
  have Hrels := Lib.hid hrels; clear hrels
  have Hvb := Lib.hid hvb; clear hvb
  have Htx := Lib.hid htx; clear htx
  have Hpt := Lib.hid hpt; clear hpt
  go_enter Tryd.func10, Tryd.ntmps10
  go_wp2_with (first
    | (go_at_call 12
       refine (few_any (w.heap.size + 1) size A len c _ rs _ Hvar.out Hrels.out).mono ?_
       rintro e w1 ⟨⟨b1, rfl⟩, rfl⟩)
    | (go_at_call 48
       refine (Htx.out _ w.heap.size Hbel.out.size Hrels.out).mono ?_
       rintro e w3 ⟨rfl, hb3⟩
       have Hs3 := Lib.hid (Hs.out.below hb3 Hs.out.lt)
       have Hbel3 := Lib.hid (Hbel.out.trans (hb3.mono Hbel.out.size))
       have x30 : w3.cell? ⟨w.heap.size, 0, none⟩ = some (.int .i64 size) := Hs3.out.cell 0
       have x31 : w3.cell? ⟨w.heap.size, 1, none⟩ = some (.slice A len c) := Hs3.out.cell 1
       clear hb3)
    | (go_at_call 14
       refine (refvalid_any size _ rs _ w.heap.size Hbel3.out.size (h.below Hbel3.out)).mono ?_
       rw [Hvb.out]
       rintro e w4 ⟨rfl, hb4⟩
       have Hs4 := Lib.hid (Hs3.out.below hb4 Hs3.out.lt)
       have Hbel6 := Lib.hid (Hbel3.out.trans (hb4.mono Hbel3.out.size))
       have x40 : w4.cell? ⟨w.heap.size, 0, none⟩ = some (.int .i64 size) := Hs4.out.cell 0
       have x41 : w4.cell? ⟨w.heap.size, 1, none⟩ = some (.slice A len c) := Hs4.out.cell 1
       clear hb4)
    | (go_at_call 50
       refine (parse_any text _ hz (hv.below Hbel6.out hw) (Nat.le_trans hw (Below.size Hbel6.out))).mono ?_
       intro e w7 hp7
       obtain ⟨x7, rfl, hn7, hb7⟩ := hp7.hit Hpt.out
       have hn7' := hn7
       obtain ⟨PA, PN, PC, rfl, -⟩ := hn7'
       have hbel7 := Hbel6.out.trans (hb7.mono Hbel6.out.size)
       have Hbel7 := Lib.hid (hbel7.alloc hbel7.size (.cells #[.int .i64 size2, .slice PA PN PC] 24))
       have Hp7 := Lib.hid (Blk.new w7 24 #[.int .i64 size2, .slice PA PN PC])
       have Hn7 := Lib.hid (hn7.keep (Keeps.alloc _ _ w7 (.cells #[.int .i64 size2, .slice PA PN PC] 24))).rels
       clear hp7 hb7 hbel7 hn7)
    | (go_at_call 51
       refine (rparse_any text _ hz).mono ?_
       intro e w8 hp8
       obtain ⟨x8, rfl, hn8, hb8⟩ := hp8.hit Hpt.out
       have hn8' := hn8
       obtain ⟨QA, QN, QC, rfl, -⟩ := hn8'
       have hbel8 := Hbel7.out.trans (hb8.mono Hbel7.out.size)
       have Hbel8 := Lib.hid (hbel8.alloc hbel8.size (.cells #[.int .i64 size2, .slice QA QN QC] 24))
       have hb8z := hb8.size
       have hpp8 := (Hp7.out.below hb8 Hp7.out.lt)
       have hp8a := hpp8.alloc (.cells #[.int .i64 size2, .slice QA QN QC] 24)
       have hx8a := Blk.new w8 24 #[.int .i64 size2, .slice QA QN QC]
       have y80 : (w8.alloc (.cells #[.int .i64 size2, .slice QA QN QC] 24)).cell? ⟨w7.heap.size, 0, none⟩ = some (.int .i64 size2) := hp8a.cell 0
       have y81 : (w8.alloc (.cells #[.int .i64 size2, .slice QA QN QC] 24)).cell? ⟨w7.heap.size, 1, none⟩ = some (.slice PA PN PC) := hp8a.cell 1
       have z80 : (w8.alloc (.cells #[.int .i64 size2, .slice QA QN QC] 24)).cell? ⟨w8.heap.size, 0, none⟩ = some (.int .i64 size2) := hx8a.cell 0
       have z81 : (w8.alloc (.cells #[.int .i64 size2, .slice QA QN QC] 24)).cell? ⟨w8.heap.size, 1, none⟩ = some (.slice QA QN QC) := hx8a.cell 1
       have hal : Below w8.heap.size w8 (w8.alloc (.cells #[.int .i64 size2, .slice QA QN QC] 24)) := (Below.refl _ _).alloc (Nat.le_refl _) _
       have Hn78 := Lib.hid ((((Hn7.out.below hb8).more hb8z).below hal).more hal.size)
       have Hn88 := Lib.hid (hn8.keep (Keeps.alloc _ _ w8 (.cells #[.int .i64 size2, .slice QA QN QC] 24))).rels
       clear hp8 hb8 hbel8 hn8 hpp8 hp8a hx8a hal)
    | (go_at_call 36
       refine (is_ok size2 _ _ rs2 _ _ (Nat.le_refl _) Hn78.out Hn88.out).mono ?_
       rintro e w9 ⟨rfl, hb9⟩
       have Hbel9 := Lib.hid (Hbel8.out.trans (hb9.mono Hbel8.out.size)))
    | (go_at_call 13
       refine (alive_any _ (hv.below Hbel9.out hw) (Nat.le_trans hw (Below.size Hbel9.out))).mono ?_
       rintro e w12 ⟨rfl, hb12⟩
       have Hb12 := Lib.hid (Below.trans Hbel9.out (hb12.mono (Below.size Hbel9.out))))
    | (go_at_call 13
       refine (alive_any _ (hv.below Hbel.out hw) (Nat.le_trans hw (Below.size Hbel.out))).mono ?_
       rintro e w12 ⟨rfl, hb12⟩
       have Hb12 := Lib.hid (Below.trans Hbel.out (hb12.mono (Below.size Hbel.out)))))
  all_goals (
    refine ⟨rfl, .bool true, ?_, rfl, Hb12.out⟩
    simp [results, Tryd.results10, Tryd.f10, go_sem])

set_option maxRecDepth 100000 in
set_option maxHeartbeats 4000000 in
theorem stexts_size_none (size : Int) (v : Value) (rs : List Sh.Rel) (text tw : ByteArray) (w : World) (h : Rels w w.heap.size v rs) (hz : text.size ≤ 140737488351232) (hv : Vars w) (hw : 5 ≤ w.heap.size) (hvb : Sh.validB ⟨size, rs⟩ = true) (htz : 40000 < tw.size) (htx : ∀ W B, B ≤ W.heap.size → Rels W B v rs → Calls Tryd.prog 48 #[.agg #[.int .i64 size, v]] W fun e w' => e = .returned (.tuple #[.string ⟨#[]⟩, .int .i64 5]) ∧ Below W.heap.size W w') (hrt : ∀ W B, W.heap.size ≤ B → Rels W W.heap.size v rs → Calls Tryd.prog 49 #[.agg #[.int .i64 size, v]] W fun e w' => e = .returned (.string tw) ∧ Below W.heap.size W w') (hpt : parseP text.toList = none) :
    Calls Tryd.prog 10 #[.agg #[.int .i64 size, v], .string text] w fun e w' => e = .returned (.bool true) ∧ Below w.heap.size w w' := by
  have h' := h
  obtain ⟨A, len, c, rfl, -⟩ := h'
  have hbel : Below w.heap.size w ((w.alloc (.cells #[.int .i64 size, .slice A len c] 24)).alloc (.cells #[.int .i64 size, .slice A len c] 24)) := ((Below.refl w.heap.size w).alloc (Nat.le_refl _) _).alloc (by simp) _
  have hsb : Blk ((w.alloc (.cells #[.int .i64 size, .slice A len c] 24)).alloc (.cells #[.int .i64 size, .slice A len c] 24)) w.heap.size 24 #[.int .i64 size, .slice A len c] := (Blk.new w 24 #[.int .i64 size, .slice A len c]).alloc _
  have hvar : Blk ((w.alloc (.cells #[.int .i64 size, .slice A len c] 24)).alloc (.cells #[.int .i64 size, .slice A len c] 24)) (w.heap.size + 1) 24 #[.int .i64 size, .slice A len c] := by
    have := Blk.new (w.alloc (.cells #[.int .i64 size, .slice A len c] 24)) 24 #[.int .i64 size, .slice A len c]
    rw [World.size_alloc] at this
    exact this
  have hrels := h.below hbel
  have q0 : ((w.alloc (.cells #[.int .i64 size, .slice A len c] 24)).alloc (.cells #[.int .i64 size, .slice A len c] 24)).cell? ⟨w.heap.size, 0, none⟩ = some (.int .i64 size) := hsb.cell 0
  have q1 : ((w.alloc (.cells #[.int .i64 size, .slice A len c] 24)).alloc (.cells #[.int .i64 size, .slice A len c] 24)).cell? ⟨w.heap.size, 1, none⟩ = some (.slice A len c) := hsb.cell 1
  have Hs := Lib.hid hsb; clear hsb
  have Hbel := Lib.hid hbel; clear hbel
  have Hvar := Lib.hid hvar; clear hvar
  have Hrels := Lib.hid hrels; clear hrels
  have Hvb := Lib.hid hvb; clear hvb
  have Htx := Lib.hid htx; clear htx
  have Hrt := Lib.hid (fun W => hrt W W.heap.size); clear hrt
  have Hpt := Lib.hid hpt; clear hpt
  go_enter Tryd.func10, Tryd.ntmps10
  go_wp2_with (first
    | (go_at_call 12
       refine (few_any (w.heap.size + 1) size A len c _ rs _ Hvar.out Hrels.out).mono ?_
       rintro e w1 ⟨⟨b1, rfl⟩, rfl⟩)
    | (go_at_call 48
       refine (Htx.out _ w.heap.size Hbel.out.size Hrels.out).mono ?_
       rintro e w3 ⟨rfl, hb3⟩
       have Hs3 := Lib.hid (Hs.out.below hb3 Hs.out.lt)
       have Hbel3 := Lib.hid (Hbel.out.trans (hb3.mono Hbel.out.size))
       have x30 : w3.cell? ⟨w.heap.size, 0, none⟩ = some (.int .i64 size) := Hs3.out.cell 0
       have x31 : w3.cell? ⟨w.heap.size, 1, none⟩ = some (.slice A len c) := Hs3.out.cell 1
       clear hb3)
    | (go_at_call 14
       refine (refvalid_any size _ rs _ w.heap.size Hbel3.out.size (h.below Hbel3.out)).mono ?_
       rw [Hvb.out]
       rintro e w4 ⟨rfl, hb4⟩
       have Hs4 := Lib.hid (Hs3.out.below hb4 Hs3.out.lt)
       have Hbel4 := Lib.hid (Hbel3.out.trans (hb4.mono Hbel3.out.size))
       have x40 : w4.cell? ⟨w.heap.size, 0, none⟩ = some (.int .i64 size) := Hs4.out.cell 0
       have x41 : w4.cell? ⟨w.heap.size, 1, none⟩ = some (.slice A len c) := Hs4.out.cell 1
       clear hb4)
    | (go_at_call 49
       refine (Hrt.out _ (Nat.le_refl _) ((h.below Hbel4.out).more Hbel4.out.size)).mono ?_
       rintro e w5 ⟨rfl, hb5⟩
       have Hbel6 := Lib.hid (Hbel4.out.trans (hb5.mono Hbel4.out.size))
       clear hb5)
    | (go_at_call 50
       refine (parse_any text _ hz (hv.below Hbel6.out hw) (Nat.le_trans hw (Below.size Hbel6.out))).mono ?_
       intro e w7 hp7
       obtain ⟨rfl, hb7⟩ := hp7.miss Hpt.out
       have hbel7 := Hbel6.out.trans (hb7.mono Hbel6.out.size)
       have Hbel7 := Lib.hid (hbel7.alloc hbel7.size (.cells #[.int .i64 0, .slice none 0 0] 24))
       have Hp7 := Lib.hid (Blk.new w7 24 #[.int .i64 0, .slice none 0 0])
       clear hp7 hb7 hbel7)
    | (go_at_call 51
       refine (rparse_any text _ hz).mono ?_
       intro e w8 hp8
       obtain ⟨rfl, hb8⟩ := hp8.miss Hpt.out
       have hbel8 := Hbel7.out.trans (hb8.mono Hbel7.out.size)
       have Hbel8 := Lib.hid (hbel8.alloc hbel8.size (.cells #[.int .i64 0, .slice none 0 0] 24))
       have hpp8 := (Hp7.out.below hb8 Hp7.out.lt)
       have hp8a := hpp8.alloc (.cells #[.int .i64 0, .slice none 0 0] 24)
       have hx8a := Blk.new w8 24 #[.int .i64 0, .slice none 0 0]
       have y80 : (w8.alloc (.cells #[.int .i64 0, .slice none 0 0] 24)).cell? ⟨w7.heap.size, 0, none⟩ = some (.int .i64 0) := hp8a.cell 0
       have y81 : (w8.alloc (.cells #[.int .i64 0, .slice none 0 0] 24)).cell? ⟨w7.heap.size, 1, none⟩ = some (.slice none 0 0) := hp8a.cell 1
       have z80 : (w8.alloc (.cells #[.int .i64 0, .slice none 0 0] 24)).cell? ⟨w8.heap.size, 0, none⟩ = some (.int .i64 0) := hx8a.cell 0
       have z81 : (w8.alloc (.cells #[.int .i64 0, .slice none 0 0] 24)).cell? ⟨w8.heap.size, 1, none⟩ = some (.slice none 0 0) := hx8a.cell 1
       clear hp8 hb8 hbel8 hpp8 hp8a hx8a)
    | (go_at_call 36
       refine (is_bad 0 _ [] 3 (by decide) _ 0 (Rels.nil _ 0)).mono ?_
       rintro e w9 ⟨rfl, hb9⟩
       have Hbel9 := Lib.hid (Hbel8.out.trans (hb9.mono Hbel8.out.size)))
    | (go_at_call 13
       refine (alive_any _ (hv.below Hbel9.out hw) (Nat.le_trans hw (Below.size Hbel9.out))).mono ?_
       rintro e w12 ⟨rfl, hb12⟩
       have Hb12 := Lib.hid (Below.trans Hbel9.out (hb12.mono (Below.size Hbel9.out))))
    | (go_at_call 13
       refine (alive_any _ (hv.below Hbel.out hw) (Nat.le_trans hw (Below.size Hbel.out))).mono ?_
       rintro e w12 ⟨rfl, hb12⟩
       have Hb12 := Lib.hid (Below.trans Hbel.out (hb12.mono (Below.size Hbel.out)))))
  all_goals (
    refine ⟨rfl, .bool true, ?_, rfl, Hb12.out⟩
    simp [results, Tryd.results10, Tryd.f10, go_sem])

set_option maxRecDepth 100000 in
set_option maxHeartbeats 4000000 in
theorem stexts_size_some (size : Int) (v : Value) (rs : List Sh.Rel) (text tw : ByteArray) (w : World) (h : Rels w w.heap.size v rs) (hz : text.size ≤ 140737488351232) (hv : Vars w) (hw : 5 ≤ w.heap.size) (hvb : Sh.validB ⟨size, rs⟩ = true) (htz : 40000 < tw.size) (htx : ∀ W B, B ≤ W.heap.size → Rels W B v rs → Calls Tryd.prog 48 #[.agg #[.int .i64 size, v]] W fun e w' => e = .returned (.tuple #[.string ⟨#[]⟩, .int .i64 5]) ∧ Below W.heap.size W w') (hrt : ∀ W B, W.heap.size ≤ B → Rels W W.heap.size v rs → Calls Tryd.prog 49 #[.agg #[.int .i64 size, v]] W fun e w' => e = .returned (.string tw) ∧ Below W.heap.size W w') (size2 : Int) (rs2 : List Sh.Rel) (hpt : parseP text.toList = some ⟨size2, rs2⟩) :
    Calls Tryd.prog 10 #[.agg #[.int .i64 size, v], .string text] w fun e w' => e = .returned (.bool true) ∧ Below w.heap.size w w' := by
  have h' := h
  obtain ⟨A, len, c, rfl, -⟩ := h'
  have hbel : Below w.heap.size w ((w.alloc (.cells #[.int .i64 size, .slice A len c] 24)).alloc (.cells #[.int .i64 size, .slice A len c] 24)) := ((Below.refl w.heap.size w).alloc (Nat.le_refl _) _).alloc (by simp) _
  have hsb : Blk ((w.alloc (.cells #[.int .i64 size, .slice A len c] 24)).alloc (.cells #[.int .i64 size, .slice A len c] 24)) w.heap.size 24 #[.int .i64 size, .slice A len c] := (Blk.new w 24 #[.int .i64 size, .slice A len c]).alloc _
  have hvar : Blk ((w.alloc (.cells #[.int .i64 size, .slice A len c] 24)).alloc (.cells #[.int .i64 size, .slice A len c] 24)) (w.heap.size + 1) 24 #[.int .i64 size, .slice A len c] := by
    have := Blk.new (w.alloc (.cells #[.int .i64 size, .slice A len c] 24)) 24 #[.int .i64 size, .slice A len c]
    rw [World.size_alloc] at this
    exact this
  have hrels := h.below hbel
  have q0 : ((w.alloc (.cells #[.int .i64 size, .slice A len c] 24)).alloc (.cells #[.int .i64 size, .slice A len c] 24)).cell? ⟨w.heap.size, 0, none⟩ = some (.int .i64 size) := hsb.cell 0
  have q1 : ((w.alloc (.cells #[.int .i64 size, .slice A len c] 24)).alloc (.cells #[.int .i64 size, .slice A len c] 24)).cell? ⟨w.heap.size, 1, none⟩ = some (.slice A len c) := hsb.cell 1
  have Hs := Lib.hid hsb; clear hsb
  have Hbel := Lib.hid hbel; clear hbel
  have Hvar := Lib.hid hvar; clear hvar
  have Hrels := Lib.hid hrels; clear hrels
  have Hvb := Lib.hid hvb; clear hvb
  have Htx := Lib.hid htx; clear htx
  have Hrt := Lib.hid (fun W => hrt W W.heap.size); clear hrt
  have Hpt := Lib.hid hpt; clear hpt
  go_enter Tryd.func10, Tryd.ntmps10
  go_wp2_with (first
    | (go_at_call 12
       refine (few_any (w.heap.size + 1) size A len c _ rs _ Hvar.out Hrels.out).mono ?_
       rintro e w1 ⟨⟨b1, rfl⟩, rfl⟩)
    | (go_at_call 48
       refine (Htx.out _ w.heap.size Hbel.out.size Hrels.out).mono ?_
       rintro e w3 ⟨rfl, hb3⟩
       have Hs3 := Lib.hid (Hs.out.below hb3 Hs.out.lt)
       have Hbel3 := Lib.hid (Hbel.out.trans (hb3.mono Hbel.out.size))
       have x30 : w3.cell? ⟨w.heap.size, 0, none⟩ = some (.int .i64 size) := Hs3.out.cell 0
       have x31 : w3.cell? ⟨w.heap.size, 1, none⟩ = some (.slice A len c) := Hs3.out.cell 1
       clear hb3)
    | (go_at_call 14
       refine (refvalid_any size _ rs _ w.heap.size Hbel3.out.size (h.below Hbel3.out)).mono ?_
       rw [Hvb.out]
       rintro e w4 ⟨rfl, hb4⟩
       have Hs4 := Lib.hid (Hs3.out.below hb4 Hs3.out.lt)
       have Hbel4 := Lib.hid (Hbel3.out.trans (hb4.mono Hbel3.out.size))
       have x40 : w4.cell? ⟨w.heap.size, 0, none⟩ = some (.int .i64 size) := Hs4.out.cell 0
       have x41 : w4.cell? ⟨w.heap.size, 1, none⟩ = some (.slice A len c) := Hs4.out.cell 1
       clear hb4)
    | (go_at_call 49
       refine (Hrt.out _ (Nat.le_refl _) ((h.below Hbel4.out).more Hbel4.out.size)).mono ?_
       rintro e w5 ⟨rfl, hb5⟩
       have Hbel6 := Lib.hid (Hbel4.out.trans (hb5.mono Hbel4.out.size))
       clear hb5)
    | (go_at_call 50
       refine (parse_any text _ hz (hv.below Hbel6.out hw) (Nat.le_trans hw (Below.size Hbel6.out))).mono ?_
       intro e w7 hp7
       obtain ⟨x7, rfl, hn7, hb7⟩ := hp7.hit Hpt.out
       have hn7' := hn7
       obtain ⟨PA, PN, PC, rfl, -⟩ := hn7'
       have hbel7 := Hbel6.out.trans (hb7.mono Hbel6.out.size)
       have Hbel7 := Lib.hid (hbel7.alloc hbel7.size (.cells #[.int .i64 size2, .slice PA PN PC] 24))
       have Hp7 := Lib.hid (Blk.new w7 24 #[.int .i64 size2, .slice PA PN PC])
       have Hn7 := Lib.hid (hn7.keep (Keeps.alloc _ _ w7 (.cells #[.int .i64 size2, .slice PA PN PC] 24))).rels
       clear hp7 hb7 hbel7 hn7)
    | (go_at_call 51
       refine (rparse_any text _ hz).mono ?_
       intro e w8 hp8
       obtain ⟨x8, rfl, hn8, hb8⟩ := hp8.hit Hpt.out
       have hn8' := hn8
       obtain ⟨QA, QN, QC, rfl, -⟩ := hn8'
       have hbel8 := Hbel7.out.trans (hb8.mono Hbel7.out.size)
       have Hbel8 := Lib.hid (hbel8.alloc hbel8.size (.cells #[.int .i64 size2, .slice QA QN QC] 24))
       have hb8z := hb8.size
       have hpp8 := (Hp7.out.below hb8 Hp7.out.lt)
       have hp8a := hpp8.alloc (.cells #[.int .i64 size2, .slice QA QN QC] 24)
       have hx8a := Blk.new w8 24 #[.int .i64 size2, .slice QA QN QC]
       have y80 : (w8.alloc (.cells #[.int .i64 size2, .slice QA QN QC] 24)).cell? ⟨w7.heap.size, 0, none⟩ = some (.int .i64 size2) := hp8a.cell 0
       have y81 : (w8.alloc (.cells #[.int .i64 size2, .slice QA QN QC] 24)).cell? ⟨w7.heap.size, 1, none⟩ = some (.slice PA PN PC) := hp8a.cell 1
       have z80 : (w8.alloc (.cells #[.int .i64 size2, .slice QA QN QC] 24)).cell? ⟨w8.heap.size, 0, none⟩ = some (.int .i64 size2) := hx8a.cell 0
       have z81 : (w8.alloc (.cells #[.int .i64 size2, .slice QA QN QC] 24)).cell? ⟨w8.heap.size, 1, none⟩ = some (.slice QA QN QC) := hx8a.cell 1
       have hal : Below w8.heap.size w8 (w8.alloc (.cells #[.int .i64 size2, .slice QA QN QC] 24)) := (Below.refl _ _).alloc (Nat.le_refl _) _
       have Hn78 := Lib.hid ((((Hn7.out.below hb8).more hb8z).below hal).more hal.size)
       have Hn88 := Lib.hid (hn8.keep (Keeps.alloc _ _ w8 (.cells #[.int .i64 size2, .slice QA QN QC] 24))).rels
       clear hp8 hb8 hbel8 hn8 hpp8 hp8a hx8a hal)
    | (go_at_call 36
       refine (is_ok size2 _ _ rs2 _ _ (Nat.le_refl _) Hn78.out Hn88.out).mono ?_
       rintro e w9 ⟨rfl, hb9⟩
       have Hbel9 := Lib.hid (Hbel8.out.trans (hb9.mono Hbel8.out.size)))
    | (go_at_call 13
       refine (alive_any _ (hv.below Hbel9.out hw) (Nat.le_trans hw (Below.size Hbel9.out))).mono ?_
       rintro e w12 ⟨rfl, hb12⟩
       have Hb12 := Lib.hid (Below.trans Hbel9.out (hb12.mono (Below.size Hbel9.out))))
    | (go_at_call 13
       refine (alive_any _ (hv.below Hbel.out hw) (Nat.le_trans hw (Below.size Hbel.out))).mono ?_
       rintro e w12 ⟨rfl, hb12⟩
       have Hb12 := Lib.hid (Below.trans Hbel.out (hb12.mono (Below.size Hbel.out)))))
  all_goals (
    refine ⟨rfl, .bool true, ?_, rfl, Hb12.out⟩
    simp [results, Tryd.results10, Tryd.f10, go_sem])

set_option maxRecDepth 100000 in
set_option maxHeartbeats 4000000 in
theorem stexts_fine_none (size : Int) (v : Value) (rs : List Sh.Rel) (text tw : ByteArray) (w : World) (h : Rels w w.heap.size v rs) (hz : text.size ≤ 140737488351232) (hv : Vars w) (hw : 5 ≤ w.heap.size) (hvb : Sh.validB ⟨size, rs⟩ = true) (htz : ¬ 40000 < tw.size) (htx : ∀ W B, B ≤ W.heap.size → Rels W B v rs → Calls Tryd.prog 48 #[.agg #[.int .i64 size, v]] W fun e w' => e = .returned (.tuple #[.string tw, .int .i64 0]) ∧ Below W.heap.size W w') (hrt : ∀ W B, W.heap.size ≤ B → Rels W W.heap.size v rs → Calls Tryd.prog 49 #[.agg #[.int .i64 size, v]] W fun e w' => e = .returned (.string tw) ∧ Below W.heap.size W w') (hpt : parseP text.toList = none) :
    Calls Tryd.prog 10 #[.agg #[.int .i64 size, v], .string text] w fun e w' => e = .returned (.bool true) ∧ Below w.heap.size w w' := by
  have h' := h
  obtain ⟨A, len, c, rfl, -⟩ := h'
  have hbel : Below w.heap.size w ((w.alloc (.cells #[.int .i64 size, .slice A len c] 24)).alloc (.cells #[.int .i64 size, .slice A len c] 24)) := ((Below.refl w.heap.size w).alloc (Nat.le_refl _) _).alloc (by simp) _
  have hsb : Blk ((w.alloc (.cells #[.int .i64 size, .slice A len c] 24)).alloc (.cells #[.int .i64 size, .slice A len c] 24)) w.heap.size 24 #[.int .i64 size, .slice A len c] := (Blk.new w 24 #[.int .i64 size, .slice A len c]).alloc _
  have hvar : Blk ((w.alloc (.cells #[.int .i64 size, .slice A len c] 24)).alloc (.cells #[.int .i64 size, .slice A len c] 24)) (w.heap.size + 1) 24 #[.int .i64 size, .slice A len c] := by
    have := Blk.new (w.alloc (.cells #[.int .i64 size, .slice A len c] 24)) 24 #[.int .i64 size, .slice A len c]
    rw [World.size_alloc] at this
    exact this
  have hrels := h.below hbel
  have q0 : ((w.alloc (.cells #[.int .i64 size, .slice A len c] 24)).alloc (.cells #[.int .i64 size, .slice A len c] 24)).cell? ⟨w.heap.size, 0, none⟩ = some (.int .i64 size) := hsb.cell 0
  have q1 : ((w.alloc (.cells #[.int .i64 size, .slice A len c] 24)).alloc (.cells #[.int .i64 size, .slice A len c] 24)).cell? ⟨w.heap.size, 1, none⟩ = some (.slice A len c) := hsb.cell 1
  have Hs := Lib.hid hsb; clear hsb
  have Hbel := Lib.hid hbel; clear hbel
  have Hvar := Lib.hid hvar; clear hvar
  have Hrels := Lib.hid hrels; clear hrels
  have Hvb := Lib.hid hvb; clear hvb
  have Htx := Lib.hid htx; clear htx
  have Hrt := Lib.hid (fun W => hrt W W.heap.size); clear hrt
  have Hpt := Lib.hid hpt; clear hpt
  go_enter Tryd.func10, Tryd.ntmps10
  go_wp2_with (first
    | (go_at_call 12
       refine (few_any (w.heap.size + 1) size A len c _ rs _ Hvar.out Hrels.out).mono ?_
       rintro e w1 ⟨⟨b1, rfl⟩, rfl⟩)
    | (go_at_call 48
       refine (Htx.out _ w.heap.size Hbel.out.size Hrels.out).mono ?_
       rintro e w3 ⟨rfl, hb3⟩
       have Hs3 := Lib.hid (Hs.out.below hb3 Hs.out.lt)
       have Hbel3 := Lib.hid (Hbel.out.trans (hb3.mono Hbel.out.size))
       have x30 : w3.cell? ⟨w.heap.size, 0, none⟩ = some (.int .i64 size) := Hs3.out.cell 0
       have x31 : w3.cell? ⟨w.heap.size, 1, none⟩ = some (.slice A len c) := Hs3.out.cell 1
       clear hb3)
    | (go_at_call 14
       refine (refvalid_any size _ rs _ w.heap.size Hbel3.out.size (h.below Hbel3.out)).mono ?_
       rw [Hvb.out]
       rintro e w4 ⟨rfl, hb4⟩
       have Hs4 := Lib.hid (Hs3.out.below hb4 Hs3.out.lt)
       have Hbel4 := Lib.hid (Hbel3.out.trans (hb4.mono Hbel3.out.size))
       have x40 : w4.cell? ⟨w.heap.size, 0, none⟩ = some (.int .i64 size) := Hs4.out.cell 0
       have x41 : w4.cell? ⟨w.heap.size, 1, none⟩ = some (.slice A len c) := Hs4.out.cell 1
       clear hb4)
    | (go_at_call 49
       refine (Hrt.out _ (Nat.le_refl _) ((h.below Hbel4.out).more Hbel4.out.size)).mono ?_
       rintro e w5 ⟨rfl, hb5⟩
       have Hbel6 := Lib.hid (Hbel4.out.trans (hb5.mono Hbel4.out.size))
       clear hb5)
    | (go_at_call 50
       refine (parse_any text _ hz (hv.below Hbel6.out hw) (Nat.le_trans hw (Below.size Hbel6.out))).mono ?_
       intro e w7 hp7
       obtain ⟨rfl, hb7⟩ := hp7.miss Hpt.out
       have hbel7 := Hbel6.out.trans (hb7.mono Hbel6.out.size)
       have Hbel7 := Lib.hid (hbel7.alloc hbel7.size (.cells #[.int .i64 0, .slice none 0 0] 24))
       have Hp7 := Lib.hid (Blk.new w7 24 #[.int .i64 0, .slice none 0 0])
       clear hp7 hb7 hbel7)
    | (go_at_call 51
       refine (rparse_any text _ hz).mono ?_
       intro e w8 hp8
       obtain ⟨rfl, hb8⟩ := hp8.miss Hpt.out
       have hbel8 := Hbel7.out.trans (hb8.mono Hbel7.out.size)
       have Hbel8 := Lib.hid (hbel8.alloc hbel8.size (.cells #[.int .i64 0, .slice none 0 0] 24))
       have hpp8 := (Hp7.out.below hb8 Hp7.out.lt)
       have hp8a := hpp8.alloc (.cells #[.int .i64 0, .slice none 0 0] 24)
       have hx8a := Blk.new w8 24 #[.int .i64 0, .slice none 0 0]
       have y80 : (w8.alloc (.cells #[.int .i64 0, .slice none 0 0] 24)).cell? ⟨w7.heap.size, 0, none⟩ = some (.int .i64 0) := hp8a.cell 0
       have y81 : (w8.alloc (.cells #[.int .i64 0, .slice none 0 0] 24)).cell? ⟨w7.heap.size, 1, none⟩ = some (.slice none 0 0) := hp8a.cell 1
       have z80 : (w8.alloc (.cells #[.int .i64 0, .slice none 0 0] 24)).cell? ⟨w8.heap.size, 0, none⟩ = some (.int .i64 0) := hx8a.cell 0
       have z81 : (w8.alloc (.cells #[.int .i64 0, .slice none 0 0] 24)).cell? ⟨w8.heap.size, 1, none⟩ = some (.slice none 0 0) := hx8a.cell 1
       clear hp8 hb8 hbel8 hpp8 hp8a hx8a)
    | (go_at_call 36
       refine (is_bad 0 _ [] 3 (by decide) _ 0 (Rels.nil _ 0)).mono ?_
       rintro e w9 ⟨rfl, hb9⟩
       have Hbel9 := Lib.hid (Hbel8.out.trans (hb9.mono Hbel8.out.size)))
    | (go_at_call 13
       refine (alive_any _ (hv.below Hbel9.out hw) (Nat.le_trans hw (Below.size Hbel9.out))).mono ?_
       rintro e w12 ⟨rfl, hb12⟩
       have Hb12 := Lib.hid (Below.trans Hbel9.out (hb12.mono (Below.size Hbel9.out))))
    | (go_at_call 13
       refine (alive_any _ (hv.below Hbel.out hw) (Nat.le_trans hw (Below.size Hbel.out))).mono ?_
       rintro e w12 ⟨rfl, hb12⟩
       have Hb12 := Lib.hid (Below.trans Hbel.out (hb12.mono (Below.size Hbel.out)))))
  all_goals (
    refine ⟨rfl, .bool true, ?_, rfl, Hb12.out⟩
    simp [results, Tryd.results10, Tryd.f10, go_sem])

set_option maxRecDepth 100000 in
set_option maxHeartbeats 4000000 in
theorem stexts_fine_some (size : Int) (v : Value) (rs : List Sh.Rel) (text tw : ByteArray) (w : World) (h : Rels w w.heap.size v rs) (hz : text.size ≤ 140737488351232) (hv : Vars w) (hw : 5 ≤ w.heap.size) (hvb : Sh.validB ⟨size, rs⟩ = true) (htz : ¬ 40000 < tw.size) (htx : ∀ W B, B ≤ W.heap.size → Rels W B v rs → Calls Tryd.prog 48 #[.agg #[.int .i64 size, v]] W fun e w' => e = .returned (.tuple #[.string tw, .int .i64 0]) ∧ Below W.heap.size W w') (hrt : ∀ W B, W.heap.size ≤ B → Rels W W.heap.size v rs → Calls Tryd.prog 49 #[.agg #[.int .i64 size, v]] W fun e w' => e = .returned (.string tw) ∧ Below W.heap.size W w') (size2 : Int) (rs2 : List Sh.Rel) (hpt : parseP text.toList = some ⟨size2, rs2⟩) :
    Calls Tryd.prog 10 #[.agg #[.int .i64 size, v], .string text] w fun e w' => e = .returned (.bool true) ∧ Below w.heap.size w w' := by
  have h' := h
  obtain ⟨A, len, c, rfl, -⟩ := h'
  have hbel : Below w.heap.size w ((w.alloc (.cells #[.int .i64 size, .slice A len c] 24)).alloc (.cells #[.int .i64 size, .slice A len c] 24)) := ((Below.refl w.heap.size w).alloc (Nat.le_refl _) _).alloc (by simp) _
  have hsb : Blk ((w.alloc (.cells #[.int .i64 size, .slice A len c] 24)).alloc (.cells #[.int .i64 size, .slice A len c] 24)) w.heap.size 24 #[.int .i64 size, .slice A len c] := (Blk.new w 24 #[.int .i64 size, .slice A len c]).alloc _
  have hvar : Blk ((w.alloc (.cells #[.int .i64 size, .slice A len c] 24)).alloc (.cells #[.int .i64 size, .slice A len c] 24)) (w.heap.size + 1) 24 #[.int .i64 size, .slice A len c] := by
    have := Blk.new (w.alloc (.cells #[.int .i64 size, .slice A len c] 24)) 24 #[.int .i64 size, .slice A len c]
    rw [World.size_alloc] at this
    exact this
  have hrels := h.below hbel
  have q0 : ((w.alloc (.cells #[.int .i64 size, .slice A len c] 24)).alloc (.cells #[.int .i64 size, .slice A len c] 24)).cell? ⟨w.heap.size, 0, none⟩ = some (.int .i64 size) := hsb.cell 0
  have q1 : ((w.alloc (.cells #[.int .i64 size, .slice A len c] 24)).alloc (.cells #[.int .i64 size, .slice A len c] 24)).cell? ⟨w.heap.size, 1, none⟩ = some (.slice A len c) := hsb.cell 1
  have Hs := Lib.hid hsb; clear hsb
  have Hbel := Lib.hid hbel; clear hbel
  have Hvar := Lib.hid hvar; clear hvar
  have Hrels := Lib.hid hrels; clear hrels
  have Hvb := Lib.hid hvb; clear hvb
  have Htx := Lib.hid htx; clear htx
  have Hrt := Lib.hid (fun W => hrt W W.heap.size); clear hrt
  have Hpt := Lib.hid hpt; clear hpt
  go_enter Tryd.func10, Tryd.ntmps10
  go_wp2_with (first
    | (go_at_call 12
       refine (few_any (w.heap.size + 1) size A len c _ rs _ Hvar.out Hrels.out).mono ?_
       rintro e w1 ⟨⟨b1, rfl⟩, rfl⟩)
    | (go_at_call 48
       refine (Htx.out _ w.heap.size Hbel.out.size Hrels.out).mono ?_
       rintro e w3 ⟨rfl, hb3⟩
       have Hs3 := Lib.hid (Hs.out.below hb3 Hs.out.lt)
       have Hbel3 := Lib.hid (Hbel.out.trans (hb3.mono Hbel.out.size))
       have x30 : w3.cell? ⟨w.heap.size, 0, none⟩ = some (.int .i64 size) := Hs3.out.cell 0
       have x31 : w3.cell? ⟨w.heap.size, 1, none⟩ = some (.slice A len c) := Hs3.out.cell 1
       clear hb3)
    | (go_at_call 14
       refine (refvalid_any size _ rs _ w.heap.size Hbel3.out.size (h.below Hbel3.out)).mono ?_
       rw [Hvb.out]
       rintro e w4 ⟨rfl, hb4⟩
       have Hs4 := Lib.hid (Hs3.out.below hb4 Hs3.out.lt)
       have Hbel4 := Lib.hid (Hbel3.out.trans (hb4.mono Hbel3.out.size))
       have x40 : w4.cell? ⟨w.heap.size, 0, none⟩ = some (.int .i64 size) := Hs4.out.cell 0
       have x41 : w4.cell? ⟨w.heap.size, 1, none⟩ = some (.slice A len c) := Hs4.out.cell 1
       clear hb4)
    | (go_at_call 49
       refine (Hrt.out _ (Nat.le_refl _) ((h.below Hbel4.out).more Hbel4.out.size)).mono ?_
       rintro e w5 ⟨rfl, hb5⟩
       have Hbel6 := Lib.hid (Hbel4.out.trans (hb5.mono Hbel4.out.size))
       clear hb5)
    | (go_at_call 50
       refine (parse_any text _ hz (hv.below Hbel6.out hw) (Nat.le_trans hw (Below.size Hbel6.out))).mono ?_
       intro e w7 hp7
       obtain ⟨x7, rfl, hn7, hb7⟩ := hp7.hit Hpt.out
       have hn7' := hn7
       obtain ⟨PA, PN, PC, rfl, -⟩ := hn7'
       have hbel7 := Hbel6.out.trans (hb7.mono Hbel6.out.size)
       have Hbel7 := Lib.hid (hbel7.alloc hbel7.size (.cells #[.int .i64 size2, .slice PA PN PC] 24))
       have Hp7 := Lib.hid (Blk.new w7 24 #[.int .i64 size2, .slice PA PN PC])
       have Hn7 := Lib.hid (hn7.keep (Keeps.alloc _ _ w7 (.cells #[.int .i64 size2, .slice PA PN PC] 24))).rels
       clear hp7 hb7 hbel7 hn7)
    | (go_at_call 51
       refine (rparse_any text _ hz).mono ?_
       intro e w8 hp8
       obtain ⟨x8, rfl, hn8, hb8⟩ := hp8.hit Hpt.out
       have hn8' := hn8
       obtain ⟨QA, QN, QC, rfl, -⟩ := hn8'
       have hbel8 := Hbel7.out.trans (hb8.mono Hbel7.out.size)
       have Hbel8 := Lib.hid (hbel8.alloc hbel8.size (.cells #[.int .i64 size2, .slice QA QN QC] 24))
       have hb8z := hb8.size
       have hpp8 := (Hp7.out.below hb8 Hp7.out.lt)
       have hp8a := hpp8.alloc (.cells #[.int .i64 size2, .slice QA QN QC] 24)
       have hx8a := Blk.new w8 24 #[.int .i64 size2, .slice QA QN QC]
       have y80 : (w8.alloc (.cells #[.int .i64 size2, .slice QA QN QC] 24)).cell? ⟨w7.heap.size, 0, none⟩ = some (.int .i64 size2) := hp8a.cell 0
       have y81 : (w8.alloc (.cells #[.int .i64 size2, .slice QA QN QC] 24)).cell? ⟨w7.heap.size, 1, none⟩ = some (.slice PA PN PC) := hp8a.cell 1
       have z80 : (w8.alloc (.cells #[.int .i64 size2, .slice QA QN QC] 24)).cell? ⟨w8.heap.size, 0, none⟩ = some (.int .i64 size2) := hx8a.cell 0
       have z81 : (w8.alloc (.cells #[.int .i64 size2, .slice QA QN QC] 24)).cell? ⟨w8.heap.size, 1, none⟩ = some (.slice QA QN QC) := hx8a.cell 1
       have hal : Below w8.heap.size w8 (w8.alloc (.cells #[.int .i64 size2, .slice QA QN QC] 24)) := (Below.refl _ _).alloc (Nat.le_refl _) _
       have Hn78 := Lib.hid ((((Hn7.out.below hb8).more hb8z).below hal).more hal.size)
       have Hn88 := Lib.hid (hn8.keep (Keeps.alloc _ _ w8 (.cells #[.int .i64 size2, .slice QA QN QC] 24))).rels
       clear hp8 hb8 hbel8 hn8 hpp8 hp8a hx8a hal)
    | (go_at_call 36
       refine (is_ok size2 _ _ rs2 _ _ (Nat.le_refl _) Hn78.out Hn88.out).mono ?_
       rintro e w9 ⟨rfl, hb9⟩
       have Hbel9 := Lib.hid (Hbel8.out.trans (hb9.mono Hbel8.out.size)))
    | (go_at_call 13
       refine (alive_any _ (hv.below Hbel9.out hw) (Nat.le_trans hw (Below.size Hbel9.out))).mono ?_
       rintro e w12 ⟨rfl, hb12⟩
       have Hb12 := Lib.hid (Below.trans Hbel9.out (hb12.mono (Below.size Hbel9.out))))
    | (go_at_call 13
       refine (alive_any _ (hv.below Hbel.out hw) (Nat.le_trans hw (Below.size Hbel.out))).mono ?_
       rintro e w12 ⟨rfl, hb12⟩
       have Hb12 := Lib.hid (Below.trans Hbel.out (hb12.mono (Below.size Hbel.out)))))
  all_goals (
    refine ⟨rfl, .bool true, ?_, rfl, Hb12.out⟩
    simp [results, Tryd.results10, Tryd.f10, go_sem])

theorem stexts_any (size : Int) (v : Value) (rs : List Sh.Rel) (text : ByteArray) (w : World) (h : Rels w w.heap.size v rs) (hz : text.size ≤ 140737488351232) (hv : Vars w) (hw : 5 ≤ w.heap.size) :
    Calls Tryd.prog 10 #[.agg #[.int .i64 size, v], .string text] w fun e w' => e = .returned (.bool true) ∧ Below w.heap.size w w' := by
  have htx : ∀ W B, B ≤ W.heap.size → Rels W B v rs → Calls Tryd.prog 48 #[.agg #[.int .i64 size, v]] W fun e w' => e = .returned (.tuple #[.string (Tx.textE ⟨size, rs⟩).1, .int .i64 (Tx.textE ⟨size, rs⟩).2]) ∧ Below W.heap.size W w' := fun W B hB hr => text_any size v rs W B hB hr
  have hsz : (⟨(Tx.textS ⟨size, rs⟩).toArray⟩ : ByteArray).size = (Tx.textS ⟨size, rs⟩).length := by show (Tx.textS ⟨size, rs⟩).toArray.size = _; simp
  cases hvb : Sh.validB ⟨size, rs⟩
  · rw [Tx.textE_form hvb] at htx
    cases hp : parseP text.toList with
    | none => exact stexts_form_none size v rs text text w h hz hv hw hvb htx hp
    | some s2 => exact stexts_form_some size v rs text text w h hz hv hw hvb htx s2.size s2.rels hp
  · have hrt : ∀ W B, W.heap.size ≤ B → Rels W W.heap.size v rs → Calls Tryd.prog 49 #[.agg #[.int .i64 size, v]] W fun e w' => e = .returned (.string ⟨(Tx.textS ⟨size, rs⟩).toArray⟩) ∧ Below W.heap.size W w' := fun W _ _ hr => rtext_any size v rs W hr hvb
    by_cases hl : 40000 < (Tx.textS ⟨size, rs⟩).length
    · rw [Tx.textE_size hvb hl] at htx
      cases hp : parseP text.toList with
      | none => exact stexts_size_none size v rs text _ w h hz hv hw hvb (by rw [hsz]; exact hl) htx hrt hp
      | some s2 => exact stexts_size_some size v rs text _ w h hz hv hw hvb (by rw [hsz]; exact hl) htx hrt s2.size s2.rels hp
    · rw [Tx.textE_ok hvb hl] at htx
      cases hp : parseP text.toList with
      | none => exact stexts_fine_none size v rs text _ w h hz hv hw hvb (by rw [hsz]; exact hl) htx hrt hp
      | some s2 => exact stexts_fine_some size v rs text _ w h hz hv hw hvb (by rw [hsz]; exact hl) htx hrt s2.size s2.rels hp

end Go.Proofs.YtbddchonhicpiaaDoor
