/-
  Texts joined: Spermutes, Args.
-/
import Derived.Test.YtelememdhpncgaaGreatDoorJp12
import Derived.Test.YtelememdhpncgaaGreatDoorJp14
import Derived.Test.YtelememdhpncgaaGreatDoorJp7
import Derived.Deep.Strs

/-
  Walk: ShapePermutes.
-/
namespace Go.Proofs.YtelememdhpncgaaGreatDoor
open Go.RowKit

/-- The relations that Permute leaves are the renamed ones. -/
theorem turn_ren {size : Int} {rs : List Sh.Rel} {p : List Int} {tss : List (List (List Int))} (hv : Sh.validB ⟨size, rs⟩ = true) (hl : tss.length = rs.length)
    (h : ∀ (j : Nat) (r : Sh.Rel), rs[j]? = some r → ∃ ts, tss[j]? = some ts ∧ TurnedT (fun x => p.getD x.toNat 0) r.tuples ts) : turnR rs tss = Sh.renR p rs := by
  refine List.ext_getElem? fun j => ?_
  unfold turnR Sh.renR
  rw [List.getElem?_zipWith, List.getElem?_map]
  cases hr : rs[j]? with
  | none => rfl
  | some r =>
    obtain ⟨ts, ht, hp, hri⟩ := h j r hr
    rw [ht]
    have hrb := Sh.validB_rel hv hr
    show some (⟨r.name, r.arity, ts⟩ : Sh.Rel) = some (Sh.renRel p r)
    rw [Sh.ren_eq (Sh.rel_long hrb) hp hri]
    rfl
theorem permute_fine (size : Int) (v : Value) (rs : List Sh.Rel) (u : Value) (p : List Int) (w : World) (B : Nat) (hB : B ≤ w.heap.size) (h : Rels w B v rs) (hp : Ints w B u p) (hv : Sh.validB ⟨size, rs⟩ = true) (hq : Sh.permB size p = true) :
    Calls Tryz.prog 10 #[.agg #[.int .i64 size, v], u] w fun e w' => ∃ (x : Value), e = .returned (.tuple #[.agg #[.int .i64 size, x], .int .i64 0]) ∧ NRels w' w.heap.size x (Sh.renR p rs) ∧ Below w.heap.size w w' :=
  (permute_ok size v rs u p w B hB h hp hv hq (Sh.perm_in hv hq) (Sh.perm_nodup hv hq)).mono fun e w' ⟨x, tss, he, hl, ht, hn, hb⟩ => ⟨x, he, by rw [← turn_ren hv hl ht]; exact hn, hb⟩

set_option maxRecDepth 100000 in
set_option maxHeartbeats 4000000 in
theorem spermutes_form (size : Int) (v : Value) (rs : List Sh.Rel) (u : Value) (p : List Int) (w : World) (h : Rels w w.heap.size v rs) (hp : Ints w w.heap.size u p) (hv : Vars w) (hw : 5 ≤ w.heap.size) (hvb : Sh.validB ⟨size, rs⟩ = false) :
    Calls Tryz.prog 3 #[.agg #[.int .i64 size, v], u] w fun e w' => e = .returned (.bool true) ∧ Below w.heap.size w w' := by
  have h' := h
  obtain ⟨A, len, c, rfl, -⟩ := h'
  have hp' := hp
  obtain ⟨PA, PN, PC, rfl, -⟩ := hp'
  have hb1 := (Below.refl w.heap.size w).alloc (Nat.le_refl _) (.cells #[.int .i64 size, .slice A len c] 24)
  have hbel := hb1.alloc (by simp) (.cells #[.int .i64 size, .slice A len c] 24)
  have hsb := (Blk.new w 24 #[.int .i64 size, .slice A len c]).alloc (.cells #[.int .i64 size, .slice A len c] 24)
  have hvar := Blk.new (w.alloc (.cells #[.int .i64 size, .slice A len c] 24)) 24 #[.int .i64 size, .slice A len c]
  rw [World.size_alloc] at hvar
  have hrels := h.below hbel
  have hvs := hv.below hbel hw
  have hbel2 := hbel.alloc hbel.size (.cells #[.int .i64 0, .slice none 0 0] 24)
  have hsb2 := hsb.alloc (.cells #[.int .i64 0, .slice none 0 0] 24)
  have hz2 := Blk.new ((w.alloc (.cells #[.int .i64 size, .slice A len c] 24)).alloc (.cells #[.int .i64 size, .slice A len c] 24)) 24 #[.int .i64 0, .slice none 0 0]
  rw [World.size_alloc, World.size_alloc] at hz2
  have x20 : (((w.alloc (.cells #[.int .i64 size, .slice A len c] 24)).alloc (.cells #[.int .i64 size, .slice A len c] 24)).alloc (.cells #[.int .i64 0, .slice none 0 0] 24)).cell? ⟨w.heap.size, 0, none⟩ = some (.int .i64 size) := hsb2.cell 0
  have x21 : (((w.alloc (.cells #[.int .i64 size, .slice A len c] 24)).alloc (.cells #[.int .i64 size, .slice A len c] 24)).alloc (.cells #[.int .i64 0, .slice none 0 0] 24)).cell? ⟨w.heap.size, 1, none⟩ = some (.slice A len c) := hsb2.cell 1
  have Hbel := Lib.hid hbel; clear hbel hb1
  have Hvar := Lib.hid hvar; clear hvar hsb
  have Hrels := Lib.hid hrels; clear hrels
  have Hvs := Lib.hid hvs; clear hvs
  have Hbel2 := Lib.hid hbel2; clear hbel2
  have Hs2 := Lib.hid hsb2; clear hsb2
  have Hz2 := Lib.hid hz2; clear hz2
  have Hvb := Lib.hid hvb; clear hvb
  go_enter Tryz.func3, Tryz.ntmps3
  go_wp2_with (first
    | (go_at_call 5
       refine (few_any (w.heap.size + 1) size A len c _ rs _ Hvar.out Hrels.out).mono ?_
       rintro e w1 ⟨⟨b1, rfl⟩, rfl⟩)
    | (go_at_call 7
       refine (refvalid_any size _ rs _ w.heap.size Hbel2.out.size (h.below Hbel2.out)).mono ?_
       rw [Hvb.out]
       rintro e w3 ⟨rfl, hb3⟩
       have Hs3 := Lib.hid (Hs2.out.below hb3 Hs2.out.lt)
       have Hz3 := Lib.hid (Hz2.out.below hb3 Hz2.out.lt)
       have Hbel3 := Lib.hid (Hbel2.out.trans (hb3.mono Hbel2.out.size))
       have x30 : w3.cell? ⟨w.heap.size, 0, none⟩ = some (.int .i64 size) := Hs3.out.cell 0
       have x31 : w3.cell? ⟨w.heap.size, 1, none⟩ = some (.slice A len c) := Hs3.out.cell 1
       clear hb3)
    | (go_at_call 10
       refine (permute_bad size _ rs _ p _ w.heap.size Hbel3.out.size (h.below Hbel3.out) (hp.below Hbel3.out) Hvb.out).mono ?_
       rintro e w5 ⟨rfl, hb5⟩
       have hz5 := (Hz3.out.below hb5 Hz3.out.lt).alloc (.cells #[.int .i64 0, .slice none 0 0] 24)
       have hp5 := Blk.new w5 24 #[.int .i64 0, .slice none 0 0]
       have x50 : (w5.alloc (.cells #[.int .i64 0, .slice none 0 0] 24)).cell? ⟨w.heap.size + 1 + 1, 0, none⟩ = some (.int .i64 0) := hz5.cell 0
       have x51 : (w5.alloc (.cells #[.int .i64 0, .slice none 0 0] 24)).cell? ⟨w.heap.size + 1 + 1, 1, none⟩ = some (.slice none 0 0) := hz5.cell 1
       have Hbel5 := Lib.hid ((Hbel3.out.trans (hb5.mono Hbel3.out.size)).alloc (Nat.le_trans Hbel3.out.size hb5.size) (.cells #[.int .i64 0, .slice none 0 0] 24))
       clear hb5 hz5 hp5)
    | (go_at_call 11
       refine (is_bad 0 _ [] 1 (by decide) _ 0 (Rels.nil _ 0)).mono ?_
       rintro e w9 ⟨rfl, hb9⟩
       have Hbel9 := Lib.hid (Hbel5.out.trans (hb9.mono Hbel5.out.size)))
    | (go_at_call 6
       refine (alive_any _ (hv.below Hbel9.out hw) (Nat.le_trans hw (Below.size Hbel9.out))).mono ?_
       rintro e w12 ⟨rfl, hb12⟩
       have Hb12 := Lib.hid (Below.trans Hbel9.out (hb12.mono (Below.size Hbel9.out))))
    | (go_at_call 6
       refine (alive_any _ Hvs.out (Nat.le_trans hw (Below.size Hbel.out))).mono ?_
       rintro e w12 ⟨rfl, hb12⟩
       have Hb12 := Lib.hid (Below.trans Hbel.out (hb12.mono (Below.size Hbel.out)))))
  all_goals (
    refine ⟨rfl, .bool true, ?_, rfl, Hb12.out⟩
    simp [results, Tryz.results3, Tryz.f3, go_sem])

set_option maxRecDepth 100000 in
set_option maxHeartbeats 4000000 in
theorem spermutes_arg (size : Int) (v : Value) (rs : List Sh.Rel) (u : Value) (p : List Int) (w : World) (h : Rels w w.heap.size v rs) (hp : Ints w w.heap.size u p) (hv : Vars w) (hw : 5 ≤ w.heap.size) (hvb : Sh.validB ⟨size, rs⟩ = true) (hq : Sh.permB size p = false) :
    Calls Tryz.prog 3 #[.agg #[.int .i64 size, v], u] w fun e w' => e = .returned (.bool true) ∧ Below w.heap.size w w' := by
  have h' := h
  obtain ⟨A, len, c, rfl, -⟩ := h'
  have hp' := hp
  obtain ⟨PA, PN, PC, rfl, -⟩ := hp'
  have hb1 := (Below.refl w.heap.size w).alloc (Nat.le_refl _) (.cells #[.int .i64 size, .slice A len c] 24)
  have hbel := hb1.alloc (by simp) (.cells #[.int .i64 size, .slice A len c] 24)
  have hsb := (Blk.new w 24 #[.int .i64 size, .slice A len c]).alloc (.cells #[.int .i64 size, .slice A len c] 24)
  have hvar := Blk.new (w.alloc (.cells #[.int .i64 size, .slice A len c] 24)) 24 #[.int .i64 size, .slice A len c]
  rw [World.size_alloc] at hvar
  have hrels := h.below hbel
  have hvs := hv.below hbel hw
  have hbel2 := hbel.alloc hbel.size (.cells #[.int .i64 0, .slice none 0 0] 24)
  have hsb2 := hsb.alloc (.cells #[.int .i64 0, .slice none 0 0] 24)
  have hz2 := Blk.new ((w.alloc (.cells #[.int .i64 size, .slice A len c] 24)).alloc (.cells #[.int .i64 size, .slice A len c] 24)) 24 #[.int .i64 0, .slice none 0 0]
  rw [World.size_alloc, World.size_alloc] at hz2
  have x20 : (((w.alloc (.cells #[.int .i64 size, .slice A len c] 24)).alloc (.cells #[.int .i64 size, .slice A len c] 24)).alloc (.cells #[.int .i64 0, .slice none 0 0] 24)).cell? ⟨w.heap.size, 0, none⟩ = some (.int .i64 size) := hsb2.cell 0
  have x21 : (((w.alloc (.cells #[.int .i64 size, .slice A len c] 24)).alloc (.cells #[.int .i64 size, .slice A len c] 24)).alloc (.cells #[.int .i64 0, .slice none 0 0] 24)).cell? ⟨w.heap.size, 1, none⟩ = some (.slice A len c) := hsb2.cell 1
  have Hbel := Lib.hid hbel; clear hbel hb1
  have Hvar := Lib.hid hvar; clear hvar hsb
  have Hrels := Lib.hid hrels; clear hrels
  have Hvs := Lib.hid hvs; clear hvs
  have Hbel2 := Lib.hid hbel2; clear hbel2
  have Hs2 := Lib.hid hsb2; clear hsb2
  have Hz2 := Lib.hid hz2; clear hz2
  have Hvb := Lib.hid hvb; clear hvb
  have Hq := Lib.hid hq; clear hq
  go_enter Tryz.func3, Tryz.ntmps3
  go_wp2_with (first
    | (go_at_call 5
       refine (few_any (w.heap.size + 1) size A len c _ rs _ Hvar.out Hrels.out).mono ?_
       rintro e w1 ⟨⟨b1, rfl⟩, rfl⟩)
    | (go_at_call 7
       refine (refvalid_any size _ rs _ w.heap.size Hbel2.out.size (h.below Hbel2.out)).mono ?_
       rw [Hvb.out]
       rintro e w3 ⟨rfl, hb3⟩
       have Hs3 := Lib.hid (Hs2.out.below hb3 Hs2.out.lt)
       have Hz3 := Lib.hid (Hz2.out.below hb3 Hz2.out.lt)
       have Hbel3 := Lib.hid (Hbel2.out.trans (hb3.mono Hbel2.out.size))
       have x30 : w3.cell? ⟨w.heap.size, 0, none⟩ = some (.int .i64 size) := Hs3.out.cell 0
       have x31 : w3.cell? ⟨w.heap.size, 1, none⟩ = some (.slice A len c) := Hs3.out.cell 1
       clear hb3)
    | (go_at_call 8
       refine (refperm_any _ p size _ w.heap.size (hp.below Hbel3.out)).mono ?_
       rw [Hq.out]
       rintro e w4 ⟨rfl, n4, rfl⟩
       have Hs4 := Lib.hid (show Blk (w3.drewN n4) w.heap.size 24 #[.int .i64 size, .slice A len c] from Hs3.out)
       have Hz4 := Lib.hid (show Blk (w3.drewN n4) (w.heap.size + 1 + 1) 24 #[.int .i64 0, .slice none 0 0] from Hz3.out)
       have Hbel4 := Lib.hid (show Below w.heap.size w (w3.drewN n4) from below_drewN Hbel3.out n4)
       have x40 : (w3.drewN n4).cell? ⟨w.heap.size, 0, none⟩ = some (.int .i64 size) := x30
       have x41 : (w3.drewN n4).cell? ⟨w.heap.size, 1, none⟩ = some (.slice A len c) := x31)
    | (go_at_call 10
       refine (permute_arg size _ rs _ p _ w.heap.size Hbel4.out.size (h.below Hbel4.out) (hp.below Hbel4.out) Hvb.out Hq.out).mono ?_
       rintro e w5 ⟨rfl, hb5⟩
       have hz5 := (Hz4.out.below hb5 Hz4.out.lt).alloc (.cells #[.int .i64 0, .slice none 0 0] 24)
       have hp5 := Blk.new w5 24 #[.int .i64 0, .slice none 0 0]
       have x50 : (w5.alloc (.cells #[.int .i64 0, .slice none 0 0] 24)).cell? ⟨w.heap.size + 1 + 1, 0, none⟩ = some (.int .i64 0) := hz5.cell 0
       have x51 : (w5.alloc (.cells #[.int .i64 0, .slice none 0 0] 24)).cell? ⟨w.heap.size + 1 + 1, 1, none⟩ = some (.slice none 0 0) := hz5.cell 1
       have Hbel5 := Lib.hid ((Hbel4.out.trans (hb5.mono Hbel4.out.size)).alloc (Nat.le_trans Hbel4.out.size hb5.size) (.cells #[.int .i64 0, .slice none 0 0] 24))
       clear hb5 hz5 hp5)
    | (go_at_call 11
       refine (is_bad 0 _ [] 2 (by decide) _ 0 (Rels.nil _ 0)).mono ?_
       rintro e w9 ⟨rfl, hb9⟩
       have Hbel9 := Lib.hid (Hbel5.out.trans (hb9.mono Hbel5.out.size)))
    | (go_at_call 6
       refine (alive_any _ (hv.below Hbel9.out hw) (Nat.le_trans hw (Below.size Hbel9.out))).mono ?_
       rintro e w12 ⟨rfl, hb12⟩
       have Hb12 := Lib.hid (Below.trans Hbel9.out (hb12.mono (Below.size Hbel9.out))))
    | (go_at_call 6
       refine (alive_any _ Hvs.out (Nat.le_trans hw (Below.size Hbel.out))).mono ?_
       rintro e w12 ⟨rfl, hb12⟩
       have Hb12 := Lib.hid (Below.trans Hbel.out (hb12.mono (Below.size Hbel.out)))))
  all_goals (
    refine ⟨rfl, .bool true, ?_, rfl, Hb12.out⟩
    simp [results, Tryz.results3, Tryz.f3, go_sem])

set_option maxRecDepth 100000 in
set_option maxHeartbeats 4000000 in
theorem spermutes_ok (size : Int) (v : Value) (rs : List Sh.Rel) (u : Value) (p : List Int) (w : World) (h : Rels w w.heap.size v rs) (hp : Ints w w.heap.size u p) (hv : Vars w) (hw : 5 ≤ w.heap.size) (hvb : Sh.validB ⟨size, rs⟩ = true) (hq : Sh.permB size p = true) :
    Calls Tryz.prog 3 #[.agg #[.int .i64 size, v], u] w fun e w' => e = .returned (.bool true) ∧ Below w.heap.size w w' := by
  have h' := h
  obtain ⟨A, len, c, rfl, -⟩ := h'
  have hp' := hp
  obtain ⟨PA, PN, PC, rfl, -⟩ := hp'
  have hb1 := (Below.refl w.heap.size w).alloc (Nat.le_refl _) (.cells #[.int .i64 size, .slice A len c] 24)
  have hbel := hb1.alloc (by simp) (.cells #[.int .i64 size, .slice A len c] 24)
  have hsb := (Blk.new w 24 #[.int .i64 size, .slice A len c]).alloc (.cells #[.int .i64 size, .slice A len c] 24)
  have hvar := Blk.new (w.alloc (.cells #[.int .i64 size, .slice A len c] 24)) 24 #[.int .i64 size, .slice A len c]
  rw [World.size_alloc] at hvar
  have hrels := h.below hbel
  have hvs := hv.below hbel hw
  have hbel2 := hbel.alloc hbel.size (.cells #[.int .i64 0, .slice none 0 0] 24)
  have hsb2 := hsb.alloc (.cells #[.int .i64 0, .slice none 0 0] 24)
  have hz2 := Blk.new ((w.alloc (.cells #[.int .i64 size, .slice A len c] 24)).alloc (.cells #[.int .i64 size, .slice A len c] 24)) 24 #[.int .i64 0, .slice none 0 0]
  rw [World.size_alloc, World.size_alloc] at hz2
  have x20 : (((w.alloc (.cells #[.int .i64 size, .slice A len c] 24)).alloc (.cells #[.int .i64 size, .slice A len c] 24)).alloc (.cells #[.int .i64 0, .slice none 0 0] 24)).cell? ⟨w.heap.size, 0, none⟩ = some (.int .i64 size) := hsb2.cell 0
  have x21 : (((w.alloc (.cells #[.int .i64 size, .slice A len c] 24)).alloc (.cells #[.int .i64 size, .slice A len c] 24)).alloc (.cells #[.int .i64 0, .slice none 0 0] 24)).cell? ⟨w.heap.size, 1, none⟩ = some (.slice A len c) := hsb2.cell 1
  have Hbel := Lib.hid hbel; clear hbel hb1
  have Hvar := Lib.hid hvar; clear hvar hsb
  have Hrels := Lib.hid hrels; clear hrels
  have Hvs := Lib.hid hvs; clear hvs
  have Hbel2 := Lib.hid hbel2; clear hbel2
  have Hs2 := Lib.hid hsb2; clear hsb2
  have Hz2 := Lib.hid hz2; clear hz2
  have Hvb := Lib.hid hvb; clear hvb
  have Hq := Lib.hid hq; clear hq
  go_enter Tryz.func3, Tryz.ntmps3
  go_wp2_with (first
    | (go_at_call 5
       refine (few_any (w.heap.size + 1) size A len c _ rs _ Hvar.out Hrels.out).mono ?_
       rintro e w1 ⟨⟨b1, rfl⟩, rfl⟩)
    | (go_at_call 7
       refine (refvalid_any size _ rs _ w.heap.size Hbel2.out.size (h.below Hbel2.out)).mono ?_
       rw [Hvb.out]
       rintro e w3 ⟨rfl, hb3⟩
       have Hs3 := Lib.hid (Hs2.out.below hb3 Hs2.out.lt)
       have Hz3 := Lib.hid (Hz2.out.below hb3 Hz2.out.lt)
       have Hbel3 := Lib.hid (Hbel2.out.trans (hb3.mono Hbel2.out.size))
       have x30 : w3.cell? ⟨w.heap.size, 0, none⟩ = some (.int .i64 size) := Hs3.out.cell 0
       have x31 : w3.cell? ⟨w.heap.size, 1, none⟩ = some (.slice A len c) := Hs3.out.cell 1
       clear hb3)
    | (go_at_call 8
       refine (refperm_any _ p size _ w.heap.size (hp.below Hbel3.out)).mono ?_
       rw [Hq.out]
       rintro e w4 ⟨rfl, n4, rfl⟩
       have Hs4 := Lib.hid (show Blk (w3.drewN n4) w.heap.size 24 #[.int .i64 size, .slice A len c] from Hs3.out)
       have Hz4 := Lib.hid (show Blk (w3.drewN n4) (w.heap.size + 1 + 1) 24 #[.int .i64 0, .slice none 0 0] from Hz3.out)
       have Hbel4 := Lib.hid (show Below w.heap.size w (w3.drewN n4) from below_drewN Hbel3.out n4)
       have x40 : (w3.drewN n4).cell? ⟨w.heap.size, 0, none⟩ = some (.int .i64 size) := x30
       have x41 : (w3.drewN n4).cell? ⟨w.heap.size, 1, none⟩ = some (.slice A len c) := x31)
    | (go_at_call 9
       refine (rpermute_any size _ rs _ p _ w.heap.size Hbel4.out.size (h.below Hbel4.out) (hp.below Hbel4.out) Hvb.out Hq.out).mono ?_
       rintro e w8 ⟨x8, rfl, hn8, hb8⟩
       have hn8' := hn8
       obtain ⟨QA, QN, QC, rfl, -⟩ := hn8'
       have hs8 := Hs4.out.below hb8 Hs4.out.lt
       have hz8 := Hz4.out.below hb8 Hz4.out.lt
       have hbel8 := Hbel4.out.trans (hb8.mono Hbel4.out.size)
       have z80 : w8.cell? ⟨w.heap.size + 1 + 1, 0, none⟩ = some (.int .i64 0) := hz8.cell 0
       have z81 : w8.cell? ⟨w.heap.size + 1 + 1, 1, none⟩ = some (.slice none 0 0) := hz8.cell 1
       have hf80 := hz8.frozen 0
       have hf81 := hz8.frozen 1
       have hk9 : ∀ L, Keeps L [3, 25, 57] w8 ((w8.setCell ⟨w.heap.size + 1 + 1, 0, none⟩ (.int .i64 size)).setCell ⟨w.heap.size + 1 + 1, 1, none⟩ (.slice QA QN QC)) := fun L =>
         (Keeps.setCell (p := ⟨w.heap.size + 1 + 1, 0, none⟩) hz8 (by decide) _).trans (Keeps.setCell (p := ⟨w.heap.size + 1 + 1, 1, none⟩) (hz8.set_ _ _) (by decide) _)
       have hz9 := (hz8.set_ 0 (.int .i64 size)).set_ 1 (.slice QA QN QC)
       have hs9 := (hs8.far (p := ⟨w.heap.size + 1 + 1, 0, none⟩) (show w.heap.size ≠ w.heap.size + 1 + 1 by omega) (.int .i64 size)).far (p := ⟨w.heap.size + 1 + 1, 1, none⟩) (show w.heap.size ≠ w.heap.size + 1 + 1 by omega) (.slice QA QN QC)
       have y90 : ((w8.setCell ⟨w.heap.size + 1 + 1, 0, none⟩ (.int .i64 size)).setCell ⟨w.heap.size + 1 + 1, 1, none⟩ (.slice QA QN QC)).cell? ⟨w.heap.size, 0, none⟩ = some (.int .i64 size) := hs9.cell 0
       have y91 : ((w8.setCell ⟨w.heap.size + 1 + 1, 0, none⟩ (.int .i64 size)).setCell ⟨w.heap.size + 1 + 1, 1, none⟩ (.slice QA QN QC)).cell? ⟨w.heap.size, 1, none⟩ = some (.slice A len c) := hs9.cell 1
       have Hz9 := Lib.hid hz9
       have Hn9 := Lib.hid (hn8.keep (hk9 _)).rels
       have Hbel10 := Lib.hid ((hbel8.setCell (p := ⟨w.heap.size + 1 + 1, 0, none⟩) (show w.heap.size ≤ w.heap.size + 1 + 1 by omega) (.int .i64 size)).setCell (p := ⟨w.heap.size + 1 + 1, 1, none⟩) (show w.heap.size ≤ w.heap.size + 1 + 1 by omega) (.slice QA QN QC))
       clear hb8 hn8 hk9 hz9 hs9 hz8 hs8 hbel8)
    | (go_at_call 10
       refine (permute_fine size _ rs _ p _ w.heap.size Hbel10.out.size (h.below Hbel10.out) (hp.below Hbel10.out) Hvb.out Hq.out).mono ?_
       rintro e w5 ⟨x5, rfl, hn5, hb5⟩
       have hn5' := hn5
       obtain ⟨RA, RN, RC, rfl, -⟩ := hn5'
       have hz5 := (Hz9.out.below hb5 Hz9.out.lt).alloc (.cells #[.int .i64 size, .slice RA RN RC] 24)
       have hp5 := Blk.new w5 24 #[.int .i64 size, .slice RA RN RC]
       have x50 : (w5.alloc (.cells #[.int .i64 size, .slice RA RN RC] 24)).cell? ⟨w.heap.size + 1 + 1, 0, none⟩ = some (.int .i64 size) := hz5.cell 0
       have x51 : (w5.alloc (.cells #[.int .i64 size, .slice RA RN RC] 24)).cell? ⟨w.heap.size + 1 + 1, 1, none⟩ = some (.slice QA QN QC) := hz5.cell 1
       have Hbel5 := Lib.hid ((Hbel10.out.trans (hb5.mono Hbel10.out.size)).alloc (Nat.le_trans Hbel10.out.size hb5.size) (.cells #[.int .i64 size, .slice RA RN RC] 24))
       have Hn5 := Lib.hid (hn5.keep (Keeps.alloc _ _ w5 (.cells #[.int .i64 size, .slice RA RN RC] 24))).rels
       have Hn95 := Lib.hid (((Hn9.out.below hb5).more hb5.size).below ((Below.refl w5.heap.size w5).alloc (Nat.le_refl _) (.cells #[.int .i64 size, .slice RA RN RC] 24))|>.more (show w5.heap.size ≤ (w5.alloc (.cells #[.int .i64 size, .slice RA RN RC] 24)).heap.size by simp))
       clear hb5 hz5 hp5 hn5)
    | (go_at_call 11
       refine (is_ok size _ _ (Sh.renR p rs) _ _ (Nat.le_refl _) Hn5.out Hn95.out).mono ?_
       rintro e w9 ⟨rfl, hb9⟩
       have Hbel9 := Lib.hid (Hbel5.out.trans (hb9.mono Hbel5.out.size)))
    | (go_at_call 6
       refine (alive_any _ (hv.below Hbel9.out hw) (Nat.le_trans hw (Below.size Hbel9.out))).mono ?_
       rintro e w12 ⟨rfl, hb12⟩
       have Hb12 := Lib.hid (Below.trans Hbel9.out (hb12.mono (Below.size Hbel9.out))))
    | (go_at_call 6
       refine (alive_any _ Hvs.out (Nat.le_trans hw (Below.size Hbel.out))).mono ?_
       rintro e w12 ⟨rfl, hb12⟩
       have Hb12 := Lib.hid (Below.trans Hbel.out (hb12.mono (Below.size Hbel.out)))))
  all_goals (
    refine ⟨rfl, .bool true, ?_, rfl, Hb12.out⟩
    simp [results, Tryz.results3, Tryz.f3, go_sem])

theorem spermutes_any (size : Int) (v : Value) (rs : List Sh.Rel) (u : Value) (p : List Int) (w : World) (h : Rels w w.heap.size v rs) (hp : Ints w w.heap.size u p) (hv : Vars w) (hw : 5 ≤ w.heap.size) :
    Calls Tryz.prog 3 #[.agg #[.int .i64 size, v], u] w fun e w' => e = .returned (.bool true) ∧ Below w.heap.size w w' := by
  cases hvb : Sh.validB ⟨size, rs⟩
  · exact spermutes_form size v rs u p w h hp hv hw hvb
  · cases hq : Sh.permB size p
    · exact spermutes_arg size v rs u p w h hp hv hw hvb hq
    · exact spermutes_ok size v rs u p w h hp hv hw hvb hq

end Go.Proofs.YtelememdhpncgaaGreatDoor

/-
  An argument as numbers and lists: slices of ints, of tuples, of relations; a structure.
-/
namespace Go.Proofs.YtelememdhpncgaaGreatDoor
open Go.ChangeShapes Go.WideShapes Go.ChangeAt Go.RowKit Go.Deep

section
variable {H : Type} {enc : TypeId × Value → H} {W : World}

/-- No list is longer than the machine's reach. -/
def Fits (t : TypeId) (d : DataW H) : Prop := ∀ n ∈ d.weights Tryz.prog t, n ≤ 140737488351232

theorem weights_all {t : TypeId} {n : Nat} : ∀ {l : List (DataW H)} {i : Nat} {d : DataW H}, l[i]? = some d → n ∈ d.weights Tryz.prog t → n ∈ DataW.weightsAll Tryz.prog t l
  | [], i, d, h, _ => by simp at h
  | x :: l, 0, d, h, hn => by
    simp at h; subst h
    unfold DataW.weightsAll
    exact List.mem_append_left _ hn
  | x :: l, i + 1, d, h, hn => by
    unfold DataW.weightsAll
    exact List.mem_append_right _ (weights_all (by simpa using h) hn)
theorem Fits.elem {t e : TypeId} {es sp : List (DataW H)} (hu : Tryz.prog.underlying t = some (.slice e)) (h : Fits t (.slice es sp)) {i : Nat} {d : DataW H} (hd : es[i]? = some d) : Fits e d := fun n hn =>
  h n (by
    simp only [DataW.weights, hu]
    exact List.mem_cons_of_mem _ (List.mem_append_left _ (weights_all hd hn)))
theorem Fits.len {t e : TypeId} {es sp : List (DataW H)} (hu : Tryz.prog.underlying t = some (.slice e)) (h : Fits t (.slice es sp)) : (es.length + sp.length) * Tryz.prog.bytesOf e ≤ 140737488351232 :=
  h _ (by simp only [DataW.weights, hu]; exact List.mem_cons_self ..)

theorem exists_list {α : Type} {Q : Nat → α → Prop} : ∀ (n : Nat), (∀ i, i < n → ∃ a, Q i a) → ∃ l : List α, l.length = n ∧ ∀ i a, l[i]? = some a → Q i a
  | 0, _ => ⟨[], rfl, fun i a h => by simp at h⟩
  | n + 1, h => by
    obtain ⟨l, hl, hq⟩ := exists_list n (fun i hi => h i (by omega))
    obtain ⟨a, ha⟩ := h n (by omega)
    refine ⟨l ++ [a], by simp [hl], fun i x hx => ?_⟩
    by_cases hi : i < l.length
    · rw [List.getElem?_append_left hi] at hx
      exact hq i x hx
    · rw [List.getElem?_append_right (by omega)] at hx
      have : i = l.length := by
        rcases Nat.eq_or_lt_of_le (Nat.le_of_not_lt hi) with e | e
        · exact e.symm
        · rw [List.getElem?_eq_none (by simp; omega)] at hx; cases hx
      subst this
      simp at hx
      subst hx
      rw [hl]
      exact ha

set_option maxRecDepth 100000 in
theorem ints_read {fuel : Nat} {cs : List Value} {y : DataW H × List MemPlace} (h : DataW.trod enc Tryz.prog W 0 (fun _ => true) true fuel 25 cs = some y) (hz : Fits 25 y.1) : ∃ v t, cs = [v] ∧ Ints W W.heap.size v t := by
  rcases open_ints Tryz.underlying25 Tryz.underlying3 (by kernel_rfl) h with ⟨hcs, hx⟩ | ⟨ad, len, cap, zs, hcs, _, hl, _, hzs, hx, hcell, _⟩
  · exact ⟨_, [], hcs, _, _, _, rfl, rfl, by omega, .none_⟩
  · have hlz : len ≤ zs.length := by rw [hzs]; split <;> omega
    subst hx
    have hb := Fits.len Tryz.underlying25 hz
    rw [show Tryz.prog.bytesOf 3 = 8 by kernel_rfl] at hb
    simp only [lits, List.length_map, List.length_take, List.length_drop] at hb
    refine ⟨_, zs.take len, hcs, _, _, _, rfl, by simp; omega, by omega, by simp; omega, fun hn => ⟨ad, rfl, ?_, fun j u hu => ?_⟩⟩
    · have h0 := cellLt (hcell 0 (by omega))
      rw [block_of_add] at h0
      exact h0
    · rw [List.getElem?_map, List.getElem?_take] at hu
      split at hu
      · rename_i hj
        rw [hcell j (by omega), ← hu, List.getD_eq_getElem?_getD, List.getElem?_eq_getElem (by omega)]
        rfl
      · cases hu

set_option maxRecDepth 100000 in
theorem tups_read {fuel : Nat} {cs : List Value} {y : DataW H × List MemPlace} (h : DataW.trod enc Tryz.prog W 0 (fun _ => true) true fuel 55 cs = some y) (hz : Fits 55 y.1) : ∃ v ts, cs = [v] ∧ Tups W W.heap.size v ts := by
  rcases DataW.trod_slice Tryz.underlying55 h with ⟨hcs, hx⟩ | ⟨ad, len, cap, es, rest, n, _, hcs, hx, _, hl, _, hel, hes, _, _⟩
  · exact ⟨_, [], hcs, _, _, _, rfl, rfl, by omega, fun h => absurd h (by omega)⟩
  · subst hx
    have hb := Fits.len Tryz.underlying55 hz
    rw [show Tryz.prog.bytesOf 25 = 24 by kernel_rfl] at hb
    simp only [List.length_map] at hb
    have each : ∀ i, i < len → ∃ t : List Int, ∃ u, W.cell? (ad.add i) = some u ∧ Ints W W.heap.size u t := fun i hi => by
      have h1 := hes i hi
      rw [show Tryz.prog.cellsOf 25 = 1 by kernel_rfl, Nat.mul_one, List.getElem?_eq_getElem (by omega)] at h1
      obtain ⟨c, hc, h2⟩ := Option.bind_eq_some_iff.1 h1
      obtain ⟨u, t, rfl, ht⟩ := ints_read h2 (Fits.elem Tryz.underlying55 hz (i := i) (by rw [List.getElem?_map, List.getElem?_eq_getElem (by omega)]; rfl))
      exact ⟨t, u, cell_of_cells?_one hc, ht⟩
    obtain ⟨ts, hts, hq⟩ := exists_list len each
    refine ⟨_, ts, hcs, _, _, _, rfl, hts.symm, by omega, fun hn => ⟨ad, rfl, ?_, fun j t ht => hq j t ht⟩⟩
    obtain ⟨t, u, hc, _⟩ := each 0 hn
    have h0 := cellLt hc
    rw [block_of_add] at h0
    exact h0

set_option maxRecDepth 100000 in
theorem rel_read {fuel : Nat} {cs : List Value} {y : DataW H × List MemPlace} (h : DataW.trod enc Tryz.prog W 0 (fun _ => true) true fuel 57 cs = some y) (hz : Fits 57 y.1) :
    ∃ (r : Sh.Rel) (u : Value), cs = [.string r.name, .int .i64 r.arity, u] ∧ Tups W W.heap.size u r.tuples ∧ r.name.size ≤ 140737488351232 := by
  obtain ⟨y0, y1, y2, n, hx, hlen, h0, h1, h2⟩ := trod_struct3 Tryz.underlying57 h
  subst hx
  rw [show Tryz.prog.cellsOf 57 = 3 by kernel_rfl] at hlen
  obtain ⟨c0, c1, c2, rfl⟩ : ∃ a b c, cs = [a, b, c] := by
    match cs, hlen with
    | [a, b, c], _ => exact ⟨a, b, c, rfl⟩
  have hfit : ∀ n ∈ DataW.weightsEach Tryz.prog [9, 3, 55] [y0.1, y1.1, y2.1], n ≤ 140737488351232 := fun n hn => hz n (by
    simp only [DataW.weights, Tryz.underlying57]
    exact hn)
  simp only [show Tryz.prog.cellsOf 9 = 1 by kernel_rfl, show Tryz.prog.cellsOf 3 = 1 by kernel_rfl, show Tryz.prog.cellsOf 55 = 1 by kernel_rfl] at h0 h1 h2
  obtain ⟨s, e0, hs, -⟩ := DataW.trod_string Tryz.underlying9 h0
  obtain ⟨k, e1, -, -⟩ := DataW.trod_int Tryz.underlying3 h1
  obtain ⟨u, ts, e2, ht⟩ := tups_read h2 (fun n hn => hfit n (by
    simp only [DataW.weightsEach]
    exact List.mem_append_right _ (List.mem_append_right _ (List.mem_append_left _ hn))))
  simp at e0 e1 e2
  subst e0 e1 e2
  refine ⟨⟨s, k, ts⟩, _, rfl, ht, ?_⟩
  have := hfit s.data.toList.length (by
    rw [hs]
    simp only [DataW.weightsEach, DataW.weights]
    exact List.mem_append_left _ (List.mem_cons_self ..))
  simpa using this

set_option maxRecDepth 100000 in
theorem rels_read {fuel : Nat} {cs : List Value} {y : DataW H × List MemPlace} (h : DataW.trod enc Tryz.prog W 0 (fun _ => true) true fuel 22 cs = some y) (hz : Fits 22 y.1) : ∃ v rs, cs = [v] ∧ Rels W W.heap.size v rs := by
  rcases DataW.trod_slice Tryz.underlying22 h with ⟨hcs, hx⟩ | ⟨ad, len, cap, es, rest, n, _, hcs, hx, _, hl, _, hel, hes, _, _⟩
  · exact ⟨_, [], hcs, _, _, _, rfl, rfl, by omega, fun h => absurd h (by omega)⟩
  · subst hx
    have hb := Fits.len Tryz.underlying22 hz
    rw [show Tryz.prog.bytesOf 57 = 48 by kernel_rfl] at hb
    simp only [List.length_map] at hb
    have each : ∀ i, i < len → ∃ r : Sh.Rel, ∃ u, W.cell? (ad.add (i * 3)) = some (.string r.name) ∧ W.cell? (ad.add (i * 3 + 1)) = some (.int .i64 r.arity) ∧ W.cell? (ad.add (i * 3 + 2)) = some u ∧ Tups W W.heap.size u r.tuples ∧ r.name.size ≤ 140737488351232 := fun i hi => by
      have h1 := hes i hi
      rw [show Tryz.prog.cellsOf 57 = 3 by kernel_rfl, List.getElem?_eq_getElem (by omega)] at h1
      obtain ⟨c, hc, h2⟩ := Option.bind_eq_some_iff.1 h1
      obtain ⟨r, u, rfl, ht, hn⟩ := rel_read h2 (Fits.elem Tryz.underlying22 hz (i := i) (by rw [List.getElem?_map, List.getElem?_eq_getElem (by omega)]; rfl))
      obtain ⟨-, -, hcell⟩ := World.cells?_some hc
      have q0 := hcell 0 (by omega)
      have q1 := hcell 1 (by omega)
      have q2 := hcell 2 (by omega)
      rw [add_of_add] at q0 q1 q2
      exact ⟨r, u, q0, q1, q2, ht, hn⟩
    obtain ⟨rs, hrs, hq⟩ := exists_list len each
    refine ⟨_, rs, hcs, _, _, _, rfl, hrs.symm, by omega, fun hn => ⟨ad, rfl, ?_, fun j r hr => hq j r hr⟩⟩
    obtain ⟨r, u, hc, _⟩ := each 0 hn
    have h0 := cellLt hc
    rw [block_of_add] at h0
    exact h0

set_option maxRecDepth 100000 in
/-- An argument of type Structure. -/
theorem str_of_trod {v : Value} {d : DataW H} {p : List MemPlace} {r : Reach} {b0 : Nat} (hv : Value.okWide Tryz.prog W r b0 24 v) (h : DataW.Trod enc Tryz.prog W 0 (fun _ => true) true 24 v d p) (hz : Fits 24 d) :
    ∃ (size : Int) (u : Value) (rs : List Sh.Rel), v = .agg #[.int .i64 size, u] ∧ Rels W W.heap.size u rs := by
  obtain ⟨c0, c1, y0, y1, m, rfl, rfl, -, h0, h1⟩ := Joins.open_agg2 Tryz.underlying24 (by kernel_rfl) (by kernel_rfl) hv h
  have hfit : ∀ n ∈ DataW.weightsEach Tryz.prog [3, 22] [y0.1, y1.1], n ≤ 140737488351232 := fun n hn => hz n (by
    simp only [DataW.weights, Tryz.underlying24]
    exact hn)
  obtain ⟨k, e0, -, -⟩ := DataW.trod_int Tryz.underlying3 h0
  obtain ⟨u, rs, e1, hr⟩ := rels_read h1 (fun n hn => hfit n (by
    simp only [DataW.weightsEach]
    exact List.mem_append_right _ (List.mem_append_left _ hn)))
  simp at e0 e1
  subst e0 e1
  exact ⟨k, _, rs, rfl, hr⟩
end

end Go.Proofs.YtelememdhpncgaaGreatDoor
