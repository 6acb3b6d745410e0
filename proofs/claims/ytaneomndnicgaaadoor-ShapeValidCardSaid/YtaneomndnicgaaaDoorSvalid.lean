/-
  Walk: ShapeValid.
-/
import Derived.Test.YtaneomndnicgaaaDoorAlive
import Derived.Test.YtaneomndnicgaaaDoorFew
import Derived.Test.YtaneomndnicgaaaDoorRvalid
import Derived.Test.YtaneomndnicgaaaDoorRsyms
import Derived.Deep.RegionHeld3
namespace Go.Proofs.YtaneomndnicgaaaDoor
open Go.RowKit

/-- What every world of the last statement's holds. -/
structure HS (w : World) (S : Nat) (size : Int) (A : Option Addr) (len c : Nat) (want : Value) (ss : List (ByteArray × Int)) (W : World) : Prop where
  box : Blk W S 24 #[.int .i64 size, .slice A len c]
  bel : Below w.heap.size w W
  wnt : ∃ B, B ≤ W.heap.size ∧ Syms W B want ss
section
variable {w : World} {S : Nat} {size : Int} {A : Option Addr} {len c : Nat} {want : Value} {ss : List (ByteArray × Int)} {W W' : World}
theorem HS.step (h : HS w S size A len c want ss W) (hb : Below W.heap.size W W') : HS w S size A len c want ss W' := by
  obtain ⟨B, hB, hs⟩ := h.wnt
  exact ⟨h.box.below hb h.box.lt, h.bel.trans (hb.mono h.bel.size), ⟨B, Nat.le_trans hB hb.size, hs.below (hb.mono hB)⟩⟩
theorem HS.drew (h : HS w S size A len c want ss W) : HS w S size A len c want ss W.drew := ⟨h.box, h.bel.drew, h.wnt⟩
theorem HS.drewN (h : HS w S size A len c want ss W) (n : Nat) : HS w S size A len c want ss (W.drewN n) := ⟨h.box, below_drewN h.bel n, h.wnt⟩
theorem HS.all (h : HS w S size A len c want ss W) : W.cell? ⟨S, 0, none⟩ = some (.int .i64 size) ∧ W.cell? ⟨S, 1, none⟩ = some (.slice A len c) ∧ HS w S size A len c want ss W := ⟨h.box.cell 0, h.box.cell 1, h⟩
end

set_option maxRecDepth 100000 in
set_option maxHeartbeats 400000 in
theorem svalid_good (size : Int) (v : Value) (rs : List Sh.Rel) (name : ByteArray) (w : World) (h : Rels w w.heap.size v rs) (hn : name.size ≤ 140737488351232) (hv : Vars w) (hw : 5 ≤ w.heap.size) (hvb : Sh.validB ⟨size, rs⟩ = true) :
    Calls Tryd.prog 3 #[.agg #[.int .i64 size, v], .string name] w fun e w' => e = .returned (.bool true) ∧ Below w.heap.size w w' := by
  have h' := h
  obtain ⟨A, len, c, rfl, -⟩ := h'
  have hb1 := (Below.refl w.heap.size w).alloc (Nat.le_refl _) (.cells #[.int .i64 size, .slice A len c] 24)
  have hbx := Blk.alloc (Blk.new w 24 #[.int .i64 size, .slice A len c]) (.cells #[.int .i64 size, .slice A len c] 24)
  have hbel := (hb1.alloc (by simp) (.cells #[.int .i64 size, .slice A len c] 24))
  have hvar := Blk.new (w.alloc (.cells #[.int .i64 size, .slice A len c] 24)) 24 #[.int .i64 size, .slice A len c]
  rw [World.size_alloc] at hvar
  have hrels := h.below hbel
  have hvs := hv.below hbel hw
  have hl : Sh.validB ⟨size, rs⟩ = true → rs.length ≤ 1000 := fun hh => by
    unfold Sh.validB at hh
    simp at hh
    omega
  have Hbx := Lib.hid hbx; clear hbx
  have Hbel := Lib.hid hbel; clear hbel
  have Hvar := Lib.hid hvar; clear hvar
  have Hrels := Lib.hid hrels; clear hrels
  have Hvs := Lib.hid hvs; clear hvs
  clear hb1
  have Hl := Lib.hid (hl hvb); clear hl
  have Hvb := Lib.hid hvb; clear hvb
  go_enter Tryd.func3, Tryd.ntmps3
  go_wp2_with (first
    | (go_at_call 12; refine (few_any (w.heap.size + 1) size A len c _ rs _ Hvar.out Hrels.out).mono ?_; rintro e w1 ⟨⟨b, rfl⟩, rfl⟩)
    | (go_at_call 13; refine (alive_any _ Hvs.out (Nat.le_trans hw Hbel.out.size)).mono ?_; rintro e w2 ⟨rfl, hb2⟩; have Hb2 := Lib.hid (Hbel.out.trans (hb2.mono Hbel.out.size)))
    | (go_at_call 14
       refine (refvalid_any size _ rs _ w.heap.size Hbel.out.size Hrels.out).mono ?_
       rw [Hvb.out]
       rintro e w2 ⟨rfl, hb2⟩
       have hx2 := Blk.below Hbx.out hb2 (Blk.lt Hbx.out)
       have x20 : w2.cell? ⟨w.heap.size, 0, none⟩ = some (.int .i64 size) := hx2.cell 0
       have x21 : w2.cell? ⟨w.heap.size, 1, none⟩ = some (.slice A len c) := hx2.cell 1
       have hbel2 := Hbel.out.trans (hb2.mono Hbel.out.size)
       have Hx2 := Lib.hid hx2; clear hx2
       have Hbel2 := Lib.hid hbel2; clear hbel2 hb2)
    | (go_at_call 15
       refine (refsymbols_any size _ rs _ w.heap.size Hbel2.out.size (h.below Hbel2.out) Hl.out).mono ?_
       rintro e w3 ⟨want, rfl, hs3, hb3⟩
       have hS3 : HS w w.heap.size size A len c want (symsOf rs) w3 := ⟨Blk.below Hx2.out hb3 (Blk.lt Hx2.out), Hbel2.out.trans (hb3.mono Hbel2.out.size), ⟨_, Nat.le_refl _, hs3⟩⟩
       clear x20 x21 hb3 hs3))
  all_goals first
    | (refine ⟨rfl, .bool true, ?_, rfl, Hb2.out⟩
       simp [results, Tryd.results3, Tryd.f3, go_sem])
    | skip
  have hval : ∀ W : World, (W.cell? ⟨w.heap.size, 0, none⟩ = some (.int .i64 size) ∧ W.cell? ⟨w.heap.size, 1, none⟩ = some (.slice A len c) ∧ HS w w.heap.size size A len c want (symsOf rs) W) → Calls Tryd.prog 16 #[.agg #[.int .i64 size, .slice A len c]] W fun e w' => e = .returned (.bool true) ∧ w'.cell? ⟨w.heap.size, 0, none⟩ = some (.int .i64 size) ∧ w'.cell? ⟨w.heap.size, 1, none⟩ = some (.slice A len c) ∧ HS w w.heap.size size A len c want (symsOf rs) w' := fun W hc => by
    refine (valid_any size _ rs W w.heap.size hc.2.2.bel.size (h.below hc.2.2.bel)).mono ?_
    rw [Hvb.out]
    rintro e w' ⟨rfl, hb⟩
    exact ⟨rfl, (hc.2.2.step hb).all⟩
  have hrval : ∀ W : World, (W.cell? ⟨w.heap.size, 0, none⟩ = some (.int .i64 size) ∧ W.cell? ⟨w.heap.size, 1, none⟩ = some (.slice A len c) ∧ HS w w.heap.size size A len c want (symsOf rs) W) → Calls Tryd.prog 14 #[.agg #[.int .i64 size, .slice A len c]] W fun e w' => e = .returned (.bool true) ∧ w'.cell? ⟨w.heap.size, 0, none⟩ = some (.int .i64 size) ∧ w'.cell? ⟨w.heap.size, 1, none⟩ = some (.slice A len c) ∧ HS w w.heap.size size A len c want (symsOf rs) w' := fun W hc => by
    refine (refvalid_any size _ rs W w.heap.size hc.2.2.bel.size (h.below hc.2.2.bel)).mono ?_
    rw [Hvb.out]
    rintro e w' ⟨rfl, hb⟩
    exact ⟨rfl, (hc.2.2.step hb).all⟩
  have hnam : ∀ W : World, (W.cell? ⟨w.heap.size, 0, none⟩ = some (.int .i64 size) ∧ W.cell? ⟨w.heap.size, 1, none⟩ = some (.slice A len c) ∧ HS w w.heap.size size A len c want (symsOf rs) W) → Calls Tryd.prog 17 #[.string name] W fun e w' => e = .returned (.bool (Sh.nameB name.toList)) ∧ w'.cell? ⟨w.heap.size, 0, none⟩ = some (.int .i64 size) ∧ w'.cell? ⟨w.heap.size, 1, none⟩ = some (.slice A len c) ∧ HS w w.heap.size size A len c want (symsOf rs) w' := fun W hc => by
    refine (name_any name W hn).mono ?_
    rintro e w' ⟨rfl, hb⟩
    exact ⟨rfl, (hc.2.2.step hb).all⟩
  have hrnam : ∀ W : World, (W.cell? ⟨w.heap.size, 0, none⟩ = some (.int .i64 size) ∧ W.cell? ⟨w.heap.size, 1, none⟩ = some (.slice A len c) ∧ HS w w.heap.size size A len c want (symsOf rs) W) → Calls Tryd.prog 18 #[.string name] W fun e w' => e = .returned (.bool (Sh.nameB name.toList)) ∧ w'.cell? ⟨w.heap.size, 0, none⟩ = some (.int .i64 size) ∧ w'.cell? ⟨w.heap.size, 1, none⟩ = some (.slice A len c) ∧ HS w w.heap.size size A len c want (symsOf rs) w' := fun W hc => by
    refine (refname_any name W hn).mono ?_
    rintro e w' ⟨rfl, rfl⟩
    exact ⟨rfl, hc⟩
  have hsym : ∀ W : World, (W.cell? ⟨w.heap.size, 0, none⟩ = some (.int .i64 size) ∧ W.cell? ⟨w.heap.size, 1, none⟩ = some (.slice A len c) ∧ HS w w.heap.size size A len c want (symsOf rs) W) → Calls Tryd.prog 20 #[.agg #[.int .i64 size, .slice A len c]] W fun e w' => ∃ u, e = .returned u ∧ Syms w' w'.heap.size u (symsOf rs) ∧ w'.cell? ⟨w.heap.size, 0, none⟩ = some (.int .i64 size) ∧ w'.cell? ⟨w.heap.size, 1, none⟩ = some (.slice A len c) ∧ HS w w.heap.size size A len c want (symsOf rs) w' := fun W hc => by
    refine (symbols_ok size _ rs W w.heap.size hc.2.2.bel.size (h.below hc.2.2.bel) Hvb.out Hl.out).mono ?_
    rintro e w' ⟨u, rfl, hu, hb⟩
    exact ⟨u, rfl, hu, (hc.2.2.step hb).all⟩
  have hsame : ∀ (W : World) (u : Value), Syms W W.heap.size u (symsOf rs) → (W.cell? ⟨w.heap.size, 0, none⟩ = some (.int .i64 size) ∧ W.cell? ⟨w.heap.size, 1, none⟩ = some (.slice A len c) ∧ HS w w.heap.size size A len c want (symsOf rs) W) → Calls Tryd.prog 19 #[u, want] W fun e w' => e = .returned (.bool true) ∧ w'.cell? ⟨w.heap.size, 0, none⟩ = some (.int .i64 size) ∧ w'.cell? ⟨w.heap.size, 1, none⟩ = some (.slice A len c) ∧ HS w w.heap.size size A len c want (symsOf rs) w' := fun W u hu hc => by
    obtain ⟨B, hB, hwt⟩ := hc.2.2.wnt
    refine (same_symbols u want (symsOf rs) W W.heap.size hu (hwt.more hB)).mono ?_
    rintro e w' ⟨rfl, n, rfl⟩
    exact ⟨rfl, (hc.2.2.drewN n).all⟩
  have haliv : ∀ W : World, (W.cell? ⟨w.heap.size, 0, none⟩ = some (.int .i64 size) ∧ W.cell? ⟨w.heap.size, 1, none⟩ = some (.slice A len c) ∧ HS w w.heap.size size A len c want (symsOf rs) W) → Calls Tryd.prog 13 #[] W fun e w' => e = .returned (.bool true) ∧ w'.cell? ⟨w.heap.size, 0, none⟩ = some (.int .i64 size) ∧ w'.cell? ⟨w.heap.size, 1, none⟩ = some (.slice A len c) ∧ HS w w.heap.size size A len c want (symsOf rs) w' := fun W hc => by
    refine (alive_any W (hv.below hc.2.2.bel hw) (Nat.le_trans hw hc.2.2.bel.size)).mono ?_
    rintro e w' ⟨rfl, hb⟩
    exact ⟨rfl, (hc.2.2.step hb).all⟩
  have Hval := Lib.hid hval; clear hval
  have Hrval := Lib.hid hrval; clear hrval
  have Hnam := Lib.hid hnam; clear hnam
  have Hrnam := Lib.hid hrnam; clear hrnam
  have Hsym := Lib.hid hsym; clear hsym
  have Hsame := Lib.hid hsame; clear hsame
  have Haliv := Lib.hid haliv; clear haliv
  go_region_held3 (fun W => W.cell? ⟨w.heap.size, 0, none⟩ = some (.int .i64 size) ∧ W.cell? ⟨w.heap.size, 1, none⟩ = some (.slice A len c) ∧ HS w w.heap.size size A len c want (symsOf rs) W) (first | assumption | exact (HS.drew (by assumption)).all | exact HS.all (by assumption)) (first
    | (go_at_call 16; refine (Hval.out _ (by assumption)).mono ?_; rintro e w' ⟨rfl, hc'⟩)
    | (go_at_call 14; refine (Hrval.out _ (by assumption)).mono ?_; rintro e w' ⟨rfl, hc'⟩)
    | (go_at_call 17; refine (Hnam.out _ (by assumption)).mono ?_; rintro e w' ⟨rfl, hc'⟩)
    | (go_at_call 18; refine (Hrnam.out _ (by assumption)).mono ?_; rintro e w' ⟨rfl, hc'⟩)
    | (go_at_call 20; refine (Hsym.out _ (by assumption)).mono ?_; rintro e w' ⟨u, rfl, hu, hc'⟩)
    | (go_at_call 19; refine (Hsame.out _ _ (by assumption) (by assumption)).mono ?_; rintro e w' ⟨rfl, hc'⟩)
    | (go_at_call 13; refine (Haliv.out _ (by assumption)).mono ?_; rintro e w' ⟨rfl, hc'⟩))
  all_goals go_wp2
  all_goals (
       refine ⟨rfl, .bool true, ?_, rfl, HS.bel (S := w.heap.size) (size := size) (A := A) (len := len) (c := c) (want := want) (ss := symsOf rs) (by first | assumption | exact And.right (And.right (by assumption)))⟩
       simp [results, Tryd.results3, Tryd.f3, go_sem])

set_option maxRecDepth 100000 in
set_option maxHeartbeats 400000 in
theorem svalid_bad (size : Int) (v : Value) (rs : List Sh.Rel) (name : ByteArray) (w : World) (h : Rels w w.heap.size v rs) (hn : name.size ≤ 140737488351232) (hv : Vars w) (hw : 5 ≤ w.heap.size) (hvb : Sh.validB ⟨size, rs⟩ = false) :
    Calls Tryd.prog 3 #[.agg #[.int .i64 size, v], .string name] w fun e w' => e = .returned (.bool true) ∧ Below w.heap.size w w' := by
  have h' := h
  obtain ⟨A, len, c, rfl, -⟩ := h'
  have hb1 := (Below.refl w.heap.size w).alloc (Nat.le_refl _) (.cells #[.int .i64 size, .slice A len c] 24)
  have hbx := Blk.alloc (Blk.new w 24 #[.int .i64 size, .slice A len c]) (.cells #[.int .i64 size, .slice A len c] 24)
  have hbel := (hb1.alloc (by simp) (.cells #[.int .i64 size, .slice A len c] 24))
  have hvar := Blk.new (w.alloc (.cells #[.int .i64 size, .slice A len c] 24)) 24 #[.int .i64 size, .slice A len c]
  rw [World.size_alloc] at hvar
  have hrels := h.below hbel
  have hvs := hv.below hbel hw
  have Hbx := Lib.hid hbx; clear hbx
  have Hbel := Lib.hid hbel; clear hbel
  have Hvar := Lib.hid hvar; clear hvar
  have Hrels := Lib.hid hrels; clear hrels
  have Hvs := Lib.hid hvs; clear hvs
  clear hb1
  have Hvb := Lib.hid hvb; clear hvb
  go_enter Tryd.func3, Tryd.ntmps3
  go_wp2_with (first
    | (go_at_call 12; refine (few_any (w.heap.size + 1) size A len c _ rs _ Hvar.out Hrels.out).mono ?_; rintro e w1 ⟨⟨b, rfl⟩, rfl⟩)
    | (go_at_call 13; refine (alive_any _ Hvs.out (Nat.le_trans hw Hbel.out.size)).mono ?_; rintro e w2 ⟨rfl, hb2⟩; have Hb2 := Lib.hid (Hbel.out.trans (hb2.mono Hbel.out.size)))
    | (go_at_call 14
       refine (refvalid_any size _ rs _ w.heap.size Hbel.out.size Hrels.out).mono ?_
       rw [Hvb.out]
       rintro e w2 ⟨rfl, hb2⟩
       have hx2 := Blk.below Hbx.out hb2 (Blk.lt Hbx.out)
       have hS3 : HS w w.heap.size size A len c (.slice none 0 0) [] w2 := ⟨hx2, Hbel.out.trans (hb2.mono Hbel.out.size), ⟨0, Nat.zero_le _, Syms.nil⟩⟩
       clear hx2 hb2))
  all_goals first
    | (refine ⟨rfl, .bool true, ?_, rfl, Hb2.out⟩
       simp [results, Tryd.results3, Tryd.f3, go_sem])
    | skip
  have hval : ∀ W : World, (W.cell? ⟨w.heap.size, 0, none⟩ = some (.int .i64 size) ∧ W.cell? ⟨w.heap.size, 1, none⟩ = some (.slice A len c) ∧ HS w w.heap.size size A len c (.slice none 0 0) [] W) → Calls Tryd.prog 16 #[.agg #[.int .i64 size, .slice A len c]] W fun e w' => e = .returned (.bool false) ∧ w'.cell? ⟨w.heap.size, 0, none⟩ = some (.int .i64 size) ∧ w'.cell? ⟨w.heap.size, 1, none⟩ = some (.slice A len c) ∧ HS w w.heap.size size A len c (.slice none 0 0) [] w' := fun W hc => by
    refine (valid_any size _ rs W w.heap.size hc.2.2.bel.size (h.below hc.2.2.bel)).mono ?_
    rw [Hvb.out]
    rintro e w' ⟨rfl, hb⟩
    exact ⟨rfl, (hc.2.2.step hb).all⟩
  have hrval : ∀ W : World, (W.cell? ⟨w.heap.size, 0, none⟩ = some (.int .i64 size) ∧ W.cell? ⟨w.heap.size, 1, none⟩ = some (.slice A len c) ∧ HS w w.heap.size size A len c (.slice none 0 0) [] W) → Calls Tryd.prog 14 #[.agg #[.int .i64 size, .slice A len c]] W fun e w' => e = .returned (.bool false) ∧ w'.cell? ⟨w.heap.size, 0, none⟩ = some (.int .i64 size) ∧ w'.cell? ⟨w.heap.size, 1, none⟩ = some (.slice A len c) ∧ HS w w.heap.size size A len c (.slice none 0 0) [] w' := fun W hc => by
    refine (refvalid_any size _ rs W w.heap.size hc.2.2.bel.size (h.below hc.2.2.bel)).mono ?_
    rw [Hvb.out]
    rintro e w' ⟨rfl, hb⟩
    exact ⟨rfl, (hc.2.2.step hb).all⟩
  have hnam : ∀ W : World, (W.cell? ⟨w.heap.size, 0, none⟩ = some (.int .i64 size) ∧ W.cell? ⟨w.heap.size, 1, none⟩ = some (.slice A len c) ∧ HS w w.heap.size size A len c (.slice none 0 0) [] W) → Calls Tryd.prog 17 #[.string name] W fun e w' => e = .returned (.bool (Sh.nameB name.toList)) ∧ w'.cell? ⟨w.heap.size, 0, none⟩ = some (.int .i64 size) ∧ w'.cell? ⟨w.heap.size, 1, none⟩ = some (.slice A len c) ∧ HS w w.heap.size size A len c (.slice none 0 0) [] w' := fun W hc => by
    refine (name_any name W hn).mono ?_
    rintro e w' ⟨rfl, hb⟩
    exact ⟨rfl, (hc.2.2.step hb).all⟩
  have hrnam : ∀ W : World, (W.cell? ⟨w.heap.size, 0, none⟩ = some (.int .i64 size) ∧ W.cell? ⟨w.heap.size, 1, none⟩ = some (.slice A len c) ∧ HS w w.heap.size size A len c (.slice none 0 0) [] W) → Calls Tryd.prog 18 #[.string name] W fun e w' => e = .returned (.bool (Sh.nameB name.toList)) ∧ w'.cell? ⟨w.heap.size, 0, none⟩ = some (.int .i64 size) ∧ w'.cell? ⟨w.heap.size, 1, none⟩ = some (.slice A len c) ∧ HS w w.heap.size size A len c (.slice none 0 0) [] w' := fun W hc => by
    refine (refname_any name W hn).mono ?_
    rintro e w' ⟨rfl, rfl⟩
    exact ⟨rfl, hc⟩
  have hsym : ∀ W : World, (W.cell? ⟨w.heap.size, 0, none⟩ = some (.int .i64 size) ∧ W.cell? ⟨w.heap.size, 1, none⟩ = some (.slice A len c) ∧ HS w w.heap.size size A len c (.slice none 0 0) [] W) → Calls Tryd.prog 20 #[.agg #[.int .i64 size, .slice A len c]] W fun e w' => ∃ u, e = .returned u ∧ Syms w' w'.heap.size u [] ∧ w'.cell? ⟨w.heap.size, 0, none⟩ = some (.int .i64 size) ∧ w'.cell? ⟨w.heap.size, 1, none⟩ = some (.slice A len c) ∧ HS w w.heap.size size A len c (.slice none 0 0) [] w' := fun W hc => by
    refine (symbols_bad size _ rs W w.heap.size hc.2.2.bel.size (h.below hc.2.2.bel) Hvb.out).mono ?_
    rintro e w' ⟨rfl, hb⟩
    exact ⟨_, rfl, Syms.nil, (hc.2.2.step hb).all⟩
  have hsame : ∀ (W : World) (u : Value), Syms W W.heap.size u [] → (W.cell? ⟨w.heap.size, 0, none⟩ = some (.int .i64 size) ∧ W.cell? ⟨w.heap.size, 1, none⟩ = some (.slice A len c) ∧ HS w w.heap.size size A len c (.slice none 0 0) [] W) → Calls Tryd.prog 19 #[u, .slice none 0 0] W fun e w' => e = .returned (.bool true) ∧ w'.cell? ⟨w.heap.size, 0, none⟩ = some (.int .i64 size) ∧ w'.cell? ⟨w.heap.size, 1, none⟩ = some (.slice A len c) ∧ HS w w.heap.size size A len c (.slice none 0 0) [] w' := fun W u hu hc => by
    obtain ⟨B, hB, hwt⟩ := hc.2.2.wnt
    refine (same_symbols u (.slice none 0 0) [] W W.heap.size hu (hwt.more hB)).mono ?_
    rintro e w' ⟨rfl, n, rfl⟩
    exact ⟨rfl, (hc.2.2.drewN n).all⟩
  have haliv : ∀ W : World, (W.cell? ⟨w.heap.size, 0, none⟩ = some (.int .i64 size) ∧ W.cell? ⟨w.heap.size, 1, none⟩ = some (.slice A len c) ∧ HS w w.heap.size size A len c (.slice none 0 0) [] W) → Calls Tryd.prog 13 #[] W fun e w' => e = .returned (.bool true) ∧ w'.cell? ⟨w.heap.size, 0, none⟩ = some (.int .i64 size) ∧ w'.cell? ⟨w.heap.size, 1, none⟩ = some (.slice A len c) ∧ HS w w.heap.size size A len c (.slice none 0 0) [] w' := fun W hc => by
    refine (alive_any W (hv.below hc.2.2.bel hw) (Nat.le_trans hw hc.2.2.bel.size)).mono ?_
    rintro e w' ⟨rfl, hb⟩
    exact ⟨rfl, (hc.2.2.step hb).all⟩
  have Hval := Lib.hid hval; clear hval
  have Hrval := Lib.hid hrval; clear hrval
  have Hnam := Lib.hid hnam; clear hnam
  have Hrnam := Lib.hid hrnam; clear hrnam
  have Hsym := Lib.hid hsym; clear hsym
  have Hsame := Lib.hid hsame; clear hsame
  have Haliv := Lib.hid haliv; clear haliv
  go_region_held3 (fun W => W.cell? ⟨w.heap.size, 0, none⟩ = some (.int .i64 size) ∧ W.cell? ⟨w.heap.size, 1, none⟩ = some (.slice A len c) ∧ HS w w.heap.size size A len c (.slice none 0 0) [] W) (first | assumption | exact (HS.drew (by assumption)).all | exact HS.all (by assumption)) (first
    | (go_at_call 16; refine (Hval.out _ (by assumption)).mono ?_; rintro e w' ⟨rfl, hc'⟩)
    | (go_at_call 14; refine (Hrval.out _ (by assumption)).mono ?_; rintro e w' ⟨rfl, hc'⟩)
    | (go_at_call 17; refine (Hnam.out _ (by assumption)).mono ?_; rintro e w' ⟨rfl, hc'⟩)
    | (go_at_call 18; refine (Hrnam.out _ (by assumption)).mono ?_; rintro e w' ⟨rfl, hc'⟩)
    | (go_at_call 20; refine (Hsym.out _ (by assumption)).mono ?_; rintro e w' ⟨u, rfl, hu, hc'⟩)
    | (go_at_call 19; refine (Hsame.out _ _ (by assumption) (by assumption)).mono ?_; rintro e w' ⟨rfl, hc'⟩)
    | (go_at_call 13; refine (Haliv.out _ (by assumption)).mono ?_; rintro e w' ⟨rfl, hc'⟩))
  all_goals go_wp2
  all_goals (
       refine ⟨rfl, .bool true, ?_, rfl, HS.bel (S := w.heap.size) (size := size) (A := A) (len := len) (c := c) (want := .slice none 0 0) (ss := []) (by first | assumption | exact And.right (And.right (by assumption)))⟩
       simp [results, Tryd.results3, Tryd.f3, go_sem])


end Go.Proofs.YtaneomndnicgaaaDoor
