/-
  Texts joined: Sown.
-/
import Derived.Test.YtelememdhpncgaaGreatDoorJo11
import Derived.Test.YtelememdhpncgaaGreatDoorJo18
import Derived.Test.YtelememdhpncgaaGreatDoorJo19
import Derived.Deep.CutRange

/-
  Walk: ShapeOwn, where it looks no further.
-/
namespace Go.Proofs.YtelememdhpncgaaGreatDoor
open Go.RowKit

set_option maxRecDepth 100000 in
set_option maxHeartbeats 4000000 in
theorem sown_offs (size : Int) (v : Value) (rs : List Sh.Rel) (nm : ByteArray) (tv : Value) (t : List Int) (is : Bool) (pv : Value) (p : List Int) (sv : Value) (ss : List (ByteArray × Int)) (w : World) (h : Rels w w.heap.size v rs) (ht : Ints w w.heap.size tv t) (hp : Ints w w.heap.size pv p) (hss : Syms w w.heap.size sv ss) (hfit : SymFit ss) (hv : Vars w) (hw : 5 ≤ w.heap.size) (hsel : 40 < ss.length) :
    Calls Tryz.prog 4 #[.agg #[.int .i64 size, v], .agg #[.string nm, tv, .bool is], .agg #[pv, sv]] w fun e w' => e = .returned (.bool true) ∧ Below w.heap.size w w' := by
  have h' := h
  obtain ⟨A, len, c, rfl, -⟩ := h'
  have ht' := ht
  obtain ⟨TA, TN, TC, rfl, htn, -⟩ := ht'
  have hp' := hp
  obtain ⟨PA, PN, PC, rfl, hpn, -⟩ := hp'
  have hss' := hss
  obtain ⟨QA, QN, QC, rfl, hqn, -⟩ := hss'
  have hb1 := (Below.refl w.heap.size w).alloc (Nat.le_refl _) (.cells #[.int .i64 size, .slice A len c] 24)
  have hb2 := hb1.alloc hb1.size (.cells #[.string nm, .slice TA TN TC, .bool is] 37)
  have hb3 := hb2.alloc hb2.size (.cells #[.slice PA PN PC, .slice QA QN QC] 40)
  have hbel := hb3.alloc hb3.size (.cells #[.int .i64 size, .slice A len c] 24)
  have hs4 := (((Blk.new w 24 #[.int .i64 size, .slice A len c]).alloc (.cells #[.string nm, .slice TA TN TC, .bool is] 37)).alloc (.cells #[.slice PA PN PC, .slice QA QN QC] 40)).alloc (.cells #[.int .i64 size, .slice A len c] 24)
  have hc4 := ((Blk.new (w.alloc (.cells #[.int .i64 size, .slice A len c] 24)) 37 #[.string nm, .slice TA TN TC, .bool is]).alloc (.cells #[.slice PA PN PC, .slice QA QN QC] 40)).alloc (.cells #[.int .i64 size, .slice A len c] 24)
  have ho4 := (Blk.new ((w.alloc (.cells #[.int .i64 size, .slice A len c] 24)).alloc (.cells #[.string nm, .slice TA TN TC, .bool is] 37)) 40 #[.slice PA PN PC, .slice QA QN QC]).alloc (.cells #[.int .i64 size, .slice A len c] 24)
  have hvar := Blk.new (((w.alloc (.cells #[.int .i64 size, .slice A len c] 24)).alloc (.cells #[.string nm, .slice TA TN TC, .bool is] 37)).alloc (.cells #[.slice PA PN PC, .slice QA QN QC] 40)) 24 #[.int .i64 size, .slice A len c]
  rw [World.size_alloc] at hc4
  rw [World.size_alloc, World.size_alloc] at ho4
  rw [World.size_alloc, World.size_alloc, World.size_alloc] at hvar
  have hrels := h.below hbel
  have hvs := hv.below hbel hw
  have hsy := hss.below hbel
  have x20 : ((((w.alloc (.cells #[.int .i64 size, .slice A len c] 24)).alloc (.cells #[.string nm, .slice TA TN TC, .bool is] 37)).alloc (.cells #[.slice PA PN PC, .slice QA QN QC] 40)).alloc (.cells #[.int .i64 size, .slice A len c] 24)).cell? ⟨w.heap.size + 1 + 1, 0, none⟩ = some (.slice PA PN PC) := ho4.cell 0
  have x21 : ((((w.alloc (.cells #[.int .i64 size, .slice A len c] 24)).alloc (.cells #[.string nm, .slice TA TN TC, .bool is] 37)).alloc (.cells #[.slice PA PN PC, .slice QA QN QC] 40)).alloc (.cells #[.int .i64 size, .slice A len c] 24)).cell? ⟨w.heap.size + 1 + 1, 1, none⟩ = some (.slice QA QN QC) := ho4.cell 1
  have x10 : ((((w.alloc (.cells #[.int .i64 size, .slice A len c] 24)).alloc (.cells #[.string nm, .slice TA TN TC, .bool is] 37)).alloc (.cells #[.slice PA PN PC, .slice QA QN QC] 40)).alloc (.cells #[.int .i64 size, .slice A len c] 24)).cell? ⟨w.heap.size + 1, 0, none⟩ = some (.string nm) := hc4.cell 0
  have x11 : ((((w.alloc (.cells #[.int .i64 size, .slice A len c] 24)).alloc (.cells #[.string nm, .slice TA TN TC, .bool is] 37)).alloc (.cells #[.slice PA PN PC, .slice QA QN QC] 40)).alloc (.cells #[.int .i64 size, .slice A len c] 24)).cell? ⟨w.heap.size + 1, 1, none⟩ = some (.slice TA TN TC) := hc4.cell 1
  have x00 : ((((w.alloc (.cells #[.int .i64 size, .slice A len c] 24)).alloc (.cells #[.string nm, .slice TA TN TC, .bool is] 37)).alloc (.cells #[.slice PA PN PC, .slice QA QN QC] 40)).alloc (.cells #[.int .i64 size, .slice A len c] 24)).cell? ⟨w.heap.size, 0, none⟩ = some (.int .i64 size) := hs4.cell 0
  have x01 : ((((w.alloc (.cells #[.int .i64 size, .slice A len c] 24)).alloc (.cells #[.string nm, .slice TA TN TC, .bool is] 37)).alloc (.cells #[.slice PA PN PC, .slice QA QN QC] 40)).alloc (.cells #[.int .i64 size, .slice A len c] 24)).cell? ⟨w.heap.size, 1, none⟩ = some (.slice A len c) := hs4.cell 1
  have Hbel := Lib.hid hbel; clear hbel hb1 hb2 hb3
  have Hvar := Lib.hid hvar; clear hvar
  have Hrels := Lib.hid hrels; clear hrels
  have Hvs := Lib.hid hvs; clear hvs
  have Hsy := Lib.hid hsy; clear hsy
  have Hs4 := Lib.hid hs4; clear hs4
  have Hc4 := Lib.hid hc4; clear hc4
  have Ho4 := Lib.hid ho4; clear ho4
  have Htn := Lib.hid htn; clear htn
  have Hpn := Lib.hid hpn; clear hpn
  have Hqn := Lib.hid hqn; clear hqn
  have h40 : 40 < ss.length := hsel
  go_enter Tryz.func4, Tryz.ntmps4
  go_wp2_with (first
      | (go_at_call 5
         refine (few_true (w.heap.size + 1 + 1 + 1) size A len c _ rs _ Hvar.out Hrels.out).mono ?_
         rintro e w1 ⟨⟨b1, rfl, hfb⟩, rfl⟩
         have Hfb := Lib.hid hfb; clear hfb)
      | (go_at_call 12
         refine (fewsyms_many _ ss _ w.heap.size Hsy.out hfit h40).mono ?_
         rintro e w1 ⟨rfl, rfl⟩)
      | (go_at_call 6
         refine (alive_any _ Hvs.out (Nat.le_trans hw (Below.size Hbel.out))).mono ?_
         rintro e w12 ⟨rfl, hb12⟩
         have Hb12 := Lib.hid (Below.trans Hbel.out (hb12.mono (Below.size Hbel.out)))))
  all_goals (
    refine ⟨rfl, .bool true, ?_, rfl, Hb12.out⟩
    simp [results, Tryz.results4, Tryz.f4, go_sem])

set_option maxRecDepth 100000 in
set_option maxHeartbeats 4000000 in
theorem sown_offn (size : Int) (v : Value) (rs : List Sh.Rel) (nm : ByteArray) (tv : Value) (t : List Int) (is : Bool) (pv : Value) (p : List Int) (sv : Value) (ss : List (ByteArray × Int)) (w : World) (h : Rels w w.heap.size v rs) (ht : Ints w w.heap.size tv t) (hp : Ints w w.heap.size pv p) (hss : Syms w w.heap.size sv ss) (hfit : SymFit ss) (hv : Vars w) (hw : 5 ≤ w.heap.size) (hsel : 1000 < nm.size) :
    Calls Tryz.prog 4 #[.agg #[.int .i64 size, v], .agg #[.string nm, tv, .bool is], .agg #[pv, sv]] w fun e w' => e = .returned (.bool true) ∧ Below w.heap.size w w' := by
  have h' := h
  obtain ⟨A, len, c, rfl, -⟩ := h'
  have ht' := ht
  obtain ⟨TA, TN, TC, rfl, htn, -⟩ := ht'
  have hp' := hp
  obtain ⟨PA, PN, PC, rfl, hpn, -⟩ := hp'
  have hss' := hss
  obtain ⟨QA, QN, QC, rfl, hqn, -⟩ := hss'
  have hb1 := (Below.refl w.heap.size w).alloc (Nat.le_refl _) (.cells #[.int .i64 size, .slice A len c] 24)
  have hb2 := hb1.alloc hb1.size (.cells #[.string nm, .slice TA TN TC, .bool is] 37)
  have hb3 := hb2.alloc hb2.size (.cells #[.slice PA PN PC, .slice QA QN QC] 40)
  have hbel := hb3.alloc hb3.size (.cells #[.int .i64 size, .slice A len c] 24)
  have hs4 := (((Blk.new w 24 #[.int .i64 size, .slice A len c]).alloc (.cells #[.string nm, .slice TA TN TC, .bool is] 37)).alloc (.cells #[.slice PA PN PC, .slice QA QN QC] 40)).alloc (.cells #[.int .i64 size, .slice A len c] 24)
  have hc4 := ((Blk.new (w.alloc (.cells #[.int .i64 size, .slice A len c] 24)) 37 #[.string nm, .slice TA TN TC, .bool is]).alloc (.cells #[.slice PA PN PC, .slice QA QN QC] 40)).alloc (.cells #[.int .i64 size, .slice A len c] 24)
  have ho4 := (Blk.new ((w.alloc (.cells #[.int .i64 size, .slice A len c] 24)).alloc (.cells #[.string nm, .slice TA TN TC, .bool is] 37)) 40 #[.slice PA PN PC, .slice QA QN QC]).alloc (.cells #[.int .i64 size, .slice A len c] 24)
  have hvar := Blk.new (((w.alloc (.cells #[.int .i64 size, .slice A len c] 24)).alloc (.cells #[.string nm, .slice TA TN TC, .bool is] 37)).alloc (.cells #[.slice PA PN PC, .slice QA QN QC] 40)) 24 #[.int .i64 size, .slice A len c]
  rw [World.size_alloc] at hc4
  rw [World.size_alloc, World.size_alloc] at ho4
  rw [World.size_alloc, World.size_alloc, World.size_alloc] at hvar
  have hrels := h.below hbel
  have hvs := hv.below hbel hw
  have hsy := hss.below hbel
  have x20 : ((((w.alloc (.cells #[.int .i64 size, .slice A len c] 24)).alloc (.cells #[.string nm, .slice TA TN TC, .bool is] 37)).alloc (.cells #[.slice PA PN PC, .slice QA QN QC] 40)).alloc (.cells #[.int .i64 size, .slice A len c] 24)).cell? ⟨w.heap.size + 1 + 1, 0, none⟩ = some (.slice PA PN PC) := ho4.cell 0
  have x21 : ((((w.alloc (.cells #[.int .i64 size, .slice A len c] 24)).alloc (.cells #[.string nm, .slice TA TN TC, .bool is] 37)).alloc (.cells #[.slice PA PN PC, .slice QA QN QC] 40)).alloc (.cells #[.int .i64 size, .slice A len c] 24)).cell? ⟨w.heap.size + 1 + 1, 1, none⟩ = some (.slice QA QN QC) := ho4.cell 1
  have x10 : ((((w.alloc (.cells #[.int .i64 size, .slice A len c] 24)).alloc (.cells #[.string nm, .slice TA TN TC, .bool is] 37)).alloc (.cells #[.slice PA PN PC, .slice QA QN QC] 40)).alloc (.cells #[.int .i64 size, .slice A len c] 24)).cell? ⟨w.heap.size + 1, 0, none⟩ = some (.string nm) := hc4.cell 0
  have x11 : ((((w.alloc (.cells #[.int .i64 size, .slice A len c] 24)).alloc (.cells #[.string nm, .slice TA TN TC, .bool is] 37)).alloc (.cells #[.slice PA PN PC, .slice QA QN QC] 40)).alloc (.cells #[.int .i64 size, .slice A len c] 24)).cell? ⟨w.heap.size + 1, 1, none⟩ = some (.slice TA TN TC) := hc4.cell 1
  have x00 : ((((w.alloc (.cells #[.int .i64 size, .slice A len c] 24)).alloc (.cells #[.string nm, .slice TA TN TC, .bool is] 37)).alloc (.cells #[.slice PA PN PC, .slice QA QN QC] 40)).alloc (.cells #[.int .i64 size, .slice A len c] 24)).cell? ⟨w.heap.size, 0, none⟩ = some (.int .i64 size) := hs4.cell 0
  have x01 : ((((w.alloc (.cells #[.int .i64 size, .slice A len c] 24)).alloc (.cells #[.string nm, .slice TA TN TC, .bool is] 37)).alloc (.cells #[.slice PA PN PC, .slice QA QN QC] 40)).alloc (.cells #[.int .i64 size, .slice A len c] 24)).cell? ⟨w.heap.size, 1, none⟩ = some (.slice A len c) := hs4.cell 1
  have Hbel := Lib.hid hbel; clear hbel hb1 hb2 hb3
  have Hvar := Lib.hid hvar; clear hvar
  have Hrels := Lib.hid hrels; clear hrels
  have Hvs := Lib.hid hvs; clear hvs
  have Hsy := Lib.hid hsy; clear hsy
  have Hs4 := Lib.hid hs4; clear hs4
  have Hc4 := Lib.hid hc4; clear hc4
  have Ho4 := Lib.hid ho4; clear ho4
  have Htn := Lib.hid htn; clear htn
  have Hpn := Lib.hid hpn; clear hpn
  have Hqn := Lib.hid hqn; clear hqn
  go_enter Tryz.func4, Tryz.ntmps4
  go_wp2_with (first
      | (go_at_call 5
         refine (few_true (w.heap.size + 1 + 1 + 1) size A len c _ rs _ Hvar.out Hrels.out).mono ?_
         rintro e w1 ⟨⟨b1, rfl, hfb⟩, rfl⟩
         have Hfb := Lib.hid hfb; clear hfb)
      | (go_at_call 12
         refine (fewsyms_some _ ss _ w.heap.size Hsy.out hfit).mono ?_
         rintro e w1 ⟨⟨b2, rfl⟩, rfl⟩)
      | (go_at_call 6
         refine (alive_any _ Hvs.out (Nat.le_trans hw (Below.size Hbel.out))).mono ?_
         rintro e w12 ⟨rfl, hb12⟩
         have Hb12 := Lib.hid (Below.trans Hbel.out (hb12.mono (Below.size Hbel.out)))))
  all_goals (
    refine ⟨rfl, .bool true, ?_, rfl, Hb12.out⟩
    simp [results, Tryz.results4, Tryz.f4, go_sem])

set_option maxRecDepth 100000 in
set_option maxHeartbeats 4000000 in
theorem sown_offt (size : Int) (v : Value) (rs : List Sh.Rel) (nm : ByteArray) (tv : Value) (t : List Int) (is : Bool) (pv : Value) (p : List Int) (sv : Value) (ss : List (ByteArray × Int)) (w : World) (h : Rels w w.heap.size v rs) (ht : Ints w w.heap.size tv t) (hp : Ints w w.heap.size pv p) (hss : Syms w w.heap.size sv ss) (hfit : SymFit ss) (hv : Vars w) (hw : 5 ≤ w.heap.size) (hsel : 60 < t.length) :
    Calls Tryz.prog 4 #[.agg #[.int .i64 size, v], .agg #[.string nm, tv, .bool is], .agg #[pv, sv]] w fun e w' => e = .returned (.bool true) ∧ Below w.heap.size w w' := by
  have h' := h
  obtain ⟨A, len, c, rfl, -⟩ := h'
  have ht' := ht
  obtain ⟨TA, TN, TC, rfl, htn, -⟩ := ht'
  have hp' := hp
  obtain ⟨PA, PN, PC, rfl, hpn, -⟩ := hp'
  have hss' := hss
  obtain ⟨QA, QN, QC, rfl, hqn, -⟩ := hss'
  rw [← htn] at hsel
  have hb1 := (Below.refl w.heap.size w).alloc (Nat.le_refl _) (.cells #[.int .i64 size, .slice A len c] 24)
  have hb2 := hb1.alloc hb1.size (.cells #[.string nm, .slice TA TN TC, .bool is] 37)
  have hb3 := hb2.alloc hb2.size (.cells #[.slice PA PN PC, .slice QA QN QC] 40)
  have hbel := hb3.alloc hb3.size (.cells #[.int .i64 size, .slice A len c] 24)
  have hs4 := (((Blk.new w 24 #[.int .i64 size, .slice A len c]).alloc (.cells #[.string nm, .slice TA TN TC, .bool is] 37)).alloc (.cells #[.slice PA PN PC, .slice QA QN QC] 40)).alloc (.cells #[.int .i64 size, .slice A len c] 24)
  have hc4 := ((Blk.new (w.alloc (.cells #[.int .i64 size, .slice A len c] 24)) 37 #[.string nm, .slice TA TN TC, .bool is]).alloc (.cells #[.slice PA PN PC, .slice QA QN QC] 40)).alloc (.cells #[.int .i64 size, .slice A len c] 24)
  have ho4 := (Blk.new ((w.alloc (.cells #[.int .i64 size, .slice A len c] 24)).alloc (.cells #[.string nm, .slice TA TN TC, .bool is] 37)) 40 #[.slice PA PN PC, .slice QA QN QC]).alloc (.cells #[.int .i64 size, .slice A len c] 24)
  have hvar := Blk.new (((w.alloc (.cells #[.int .i64 size, .slice A len c] 24)).alloc (.cells #[.string nm, .slice TA TN TC, .bool is] 37)).alloc (.cells #[.slice PA PN PC, .slice QA QN QC] 40)) 24 #[.int .i64 size, .slice A len c]
  rw [World.size_alloc] at hc4
  rw [World.size_alloc, World.size_alloc] at ho4
  rw [World.size_alloc, World.size_alloc, World.size_alloc] at hvar
  have hrels := h.below hbel
  have hvs := hv.below hbel hw
  have hsy := hss.below hbel
  have x20 : ((((w.alloc (.cells #[.int .i64 size, .slice A len c] 24)).alloc (.cells #[.string nm, .slice TA TN TC, .bool is] 37)).alloc (.cells #[.slice PA PN PC, .slice QA QN QC] 40)).alloc (.cells #[.int .i64 size, .slice A len c] 24)).cell? ⟨w.heap.size + 1 + 1, 0, none⟩ = some (.slice PA PN PC) := ho4.cell 0
  have x21 : ((((w.alloc (.cells #[.int .i64 size, .slice A len c] 24)).alloc (.cells #[.string nm, .slice TA TN TC, .bool is] 37)).alloc (.cells #[.slice PA PN PC, .slice QA QN QC] 40)).alloc (.cells #[.int .i64 size, .slice A len c] 24)).cell? ⟨w.heap.size + 1 + 1, 1, none⟩ = some (.slice QA QN QC) := ho4.cell 1
  have x10 : ((((w.alloc (.cells #[.int .i64 size, .slice A len c] 24)).alloc (.cells #[.string nm, .slice TA TN TC, .bool is] 37)).alloc (.cells #[.slice PA PN PC, .slice QA QN QC] 40)).alloc (.cells #[.int .i64 size, .slice A len c] 24)).cell? ⟨w.heap.size + 1, 0, none⟩ = some (.string nm) := hc4.cell 0
  have x11 : ((((w.alloc (.cells #[.int .i64 size, .slice A len c] 24)).alloc (.cells #[.string nm, .slice TA TN TC, .bool is] 37)).alloc (.cells #[.slice PA PN PC, .slice QA QN QC] 40)).alloc (.cells #[.int .i64 size, .slice A len c] 24)).cell? ⟨w.heap.size + 1, 1, none⟩ = some (.slice TA TN TC) := hc4.cell 1
  have x00 : ((((w.alloc (.cells #[.int .i64 size, .slice A len c] 24)).alloc (.cells #[.string nm, .slice TA TN TC, .bool is] 37)).alloc (.cells #[.slice PA PN PC, .slice QA QN QC] 40)).alloc (.cells #[.int .i64 size, .slice A len c] 24)).cell? ⟨w.heap.size, 0, none⟩ = some (.int .i64 size) := hs4.cell 0
  have x01 : ((((w.alloc (.cells #[.int .i64 size, .slice A len c] 24)).alloc (.cells #[.string nm, .slice TA TN TC, .bool is] 37)).alloc (.cells #[.slice PA PN PC, .slice QA QN QC] 40)).alloc (.cells #[.int .i64 size, .slice A len c] 24)).cell? ⟨w.heap.size, 1, none⟩ = some (.slice A len c) := hs4.cell 1
  have Hbel := Lib.hid hbel; clear hbel hb1 hb2 hb3
  have Hvar := Lib.hid hvar; clear hvar
  have Hrels := Lib.hid hrels; clear hrels
  have Hvs := Lib.hid hvs; clear hvs
  have Hsy := Lib.hid hsy; clear hsy
  have Hs4 := Lib.hid hs4; clear hs4
  have Hc4 := Lib.hid hc4; clear hc4
  have Ho4 := Lib.hid ho4; clear ho4
  have Htn := Lib.hid htn; clear htn
  have Hpn := Lib.hid hpn; clear hpn
  have Hqn := Lib.hid hqn; clear hqn
  go_enter Tryz.func4, Tryz.ntmps4
  go_wp2_with (first
      | (go_at_call 5
         refine (few_true (w.heap.size + 1 + 1 + 1) size A len c _ rs _ Hvar.out Hrels.out).mono ?_
         rintro e w1 ⟨⟨b1, rfl, hfb⟩, rfl⟩
         have Hfb := Lib.hid hfb; clear hfb)
      | (go_at_call 12
         refine (fewsyms_some _ ss _ w.heap.size Hsy.out hfit).mono ?_
         rintro e w1 ⟨⟨b2, rfl⟩, rfl⟩)
      | (go_at_call 6
         refine (alive_any _ Hvs.out (Nat.le_trans hw (Below.size Hbel.out))).mono ?_
         rintro e w12 ⟨rfl, hb12⟩
         have Hb12 := Lib.hid (Below.trans Hbel.out (hb12.mono (Below.size Hbel.out)))))
  all_goals (
    refine ⟨rfl, .bool true, ?_, rfl, Hb12.out⟩
    simp [results, Tryz.results4, Tryz.f4, go_sem])

set_option maxRecDepth 100000 in
set_option maxHeartbeats 4000000 in
theorem sown_offp (size : Int) (v : Value) (rs : List Sh.Rel) (nm : ByteArray) (tv : Value) (t : List Int) (is : Bool) (pv : Value) (p : List Int) (sv : Value) (ss : List (ByteArray × Int)) (w : World) (h : Rels w w.heap.size v rs) (ht : Ints w w.heap.size tv t) (hp : Ints w w.heap.size pv p) (hss : Syms w w.heap.size sv ss) (hfit : SymFit ss) (hv : Vars w) (hw : 5 ≤ w.heap.size) (hsel : 200 < p.length) :
    Calls Tryz.prog 4 #[.agg #[.int .i64 size, v], .agg #[.string nm, tv, .bool is], .agg #[pv, sv]] w fun e w' => e = .returned (.bool true) ∧ Below w.heap.size w w' := by
  have h' := h
  obtain ⟨A, len, c, rfl, -⟩ := h'
  have ht' := ht
  obtain ⟨TA, TN, TC, rfl, htn, -⟩ := ht'
  have hp' := hp
  obtain ⟨PA, PN, PC, rfl, hpn, -⟩ := hp'
  have hss' := hss
  obtain ⟨QA, QN, QC, rfl, hqn, -⟩ := hss'
  rw [← hpn] at hsel
  have hb1 := (Below.refl w.heap.size w).alloc (Nat.le_refl _) (.cells #[.int .i64 size, .slice A len c] 24)
  have hb2 := hb1.alloc hb1.size (.cells #[.string nm, .slice TA TN TC, .bool is] 37)
  have hb3 := hb2.alloc hb2.size (.cells #[.slice PA PN PC, .slice QA QN QC] 40)
  have hbel := hb3.alloc hb3.size (.cells #[.int .i64 size, .slice A len c] 24)
  have hs4 := (((Blk.new w 24 #[.int .i64 size, .slice A len c]).alloc (.cells #[.string nm, .slice TA TN TC, .bool is] 37)).alloc (.cells #[.slice PA PN PC, .slice QA QN QC] 40)).alloc (.cells #[.int .i64 size, .slice A len c] 24)
  have hc4 := ((Blk.new (w.alloc (.cells #[.int .i64 size, .slice A len c] 24)) 37 #[.string nm, .slice TA TN TC, .bool is]).alloc (.cells #[.slice PA PN PC, .slice QA QN QC] 40)).alloc (.cells #[.int .i64 size, .slice A len c] 24)
  have ho4 := (Blk.new ((w.alloc (.cells #[.int .i64 size, .slice A len c] 24)).alloc (.cells #[.string nm, .slice TA TN TC, .bool is] 37)) 40 #[.slice PA PN PC, .slice QA QN QC]).alloc (.cells #[.int .i64 size, .slice A len c] 24)
  have hvar := Blk.new (((w.alloc (.cells #[.int .i64 size, .slice A len c] 24)).alloc (.cells #[.string nm, .slice TA TN TC, .bool is] 37)).alloc (.cells #[.slice PA PN PC, .slice QA QN QC] 40)) 24 #[.int .i64 size, .slice A len c]
  rw [World.size_alloc] at hc4
  rw [World.size_alloc, World.size_alloc] at ho4
  rw [World.size_alloc, World.size_alloc, World.size_alloc] at hvar
  have hrels := h.below hbel
  have hvs := hv.below hbel hw
  have hsy := hss.below hbel
  have x20 : ((((w.alloc (.cells #[.int .i64 size, .slice A len c] 24)).alloc (.cells #[.string nm, .slice TA TN TC, .bool is] 37)).alloc (.cells #[.slice PA PN PC, .slice QA QN QC] 40)).alloc (.cells #[.int .i64 size, .slice A len c] 24)).cell? ⟨w.heap.size + 1 + 1, 0, none⟩ = some (.slice PA PN PC) := ho4.cell 0
  have x21 : ((((w.alloc (.cells #[.int .i64 size, .slice A len c] 24)).alloc (.cells #[.string nm, .slice TA TN TC, .bool is] 37)).alloc (.cells #[.slice PA PN PC, .slice QA QN QC] 40)).alloc (.cells #[.int .i64 size, .slice A len c] 24)).cell? ⟨w.heap.size + 1 + 1, 1, none⟩ = some (.slice QA QN QC) := ho4.cell 1
  have x10 : ((((w.alloc (.cells #[.int .i64 size, .slice A len c] 24)).alloc (.cells #[.string nm, .slice TA TN TC, .bool is] 37)).alloc (.cells #[.slice PA PN PC, .slice QA QN QC] 40)).alloc (.cells #[.int .i64 size, .slice A len c] 24)).cell? ⟨w.heap.size + 1, 0, none⟩ = some (.string nm) := hc4.cell 0
  have x11 : ((((w.alloc (.cells #[.int .i64 size, .slice A len c] 24)).alloc (.cells #[.string nm, .slice TA TN TC, .bool is] 37)).alloc (.cells #[.slice PA PN PC, .slice QA QN QC] 40)).alloc (.cells #[.int .i64 size, .slice A len c] 24)).cell? ⟨w.heap.size + 1, 1, none⟩ = some (.slice TA TN TC) := hc4.cell 1
  have x00 : ((((w.alloc (.cells #[.int .i64 size, .slice A len c] 24)).alloc (.cells #[.string nm, .slice TA TN TC, .bool is] 37)).alloc (.cells #[.slice PA PN PC, .slice QA QN QC] 40)).alloc (.cells #[.int .i64 size, .slice A len c] 24)).cell? ⟨w.heap.size, 0, none⟩ = some (.int .i64 size) := hs4.cell 0
  have x01 : ((((w.alloc (.cells #[.int .i64 size, .slice A len c] 24)).alloc (.cells #[.string nm, .slice TA TN TC, .bool is] 37)).alloc (.cells #[.slice PA PN PC, .slice QA QN QC] 40)).alloc (.cells #[.int .i64 size, .slice A len c] 24)).cell? ⟨w.heap.size, 1, none⟩ = some (.slice A len c) := hs4.cell 1
  have Hbel := Lib.hid hbel; clear hbel hb1 hb2 hb3
  have Hvar := Lib.hid hvar; clear hvar
  have Hrels := Lib.hid hrels; clear hrels
  have Hvs := Lib.hid hvs; clear hvs
  have Hsy := Lib.hid hsy; clear hsy
  have Hs4 := Lib.hid hs4; clear hs4
  have Hc4 := Lib.hid hc4; clear hc4
  have Ho4 := Lib.hid ho4; clear ho4
  have Htn := Lib.hid htn; clear htn
  have Hpn := Lib.hid hpn; clear hpn
  have Hqn := Lib.hid hqn; clear hqn
  go_enter Tryz.func4, Tryz.ntmps4
  go_wp2_with (first
      | (go_at_call 5
         refine (few_true (w.heap.size + 1 + 1 + 1) size A len c _ rs _ Hvar.out Hrels.out).mono ?_
         rintro e w1 ⟨⟨b1, rfl, hfb⟩, rfl⟩
         have Hfb := Lib.hid hfb; clear hfb)
      | (go_at_call 12
         refine (fewsyms_some _ ss _ w.heap.size Hsy.out hfit).mono ?_
         rintro e w1 ⟨⟨b2, rfl⟩, rfl⟩)
      | (go_at_call 6
         refine (alive_any _ Hvs.out (Nat.le_trans hw (Below.size Hbel.out))).mono ?_
         rintro e w12 ⟨rfl, hb12⟩
         have Hb12 := Lib.hid (Below.trans Hbel.out (hb12.mono (Below.size Hbel.out)))))
  all_goals (
    refine ⟨rfl, .bool true, ?_, rfl, Hb12.out⟩
    simp [results, Tryz.results4, Tryz.f4, go_sem])

end Go.Proofs.YtelememdhpncgaaGreatDoor
