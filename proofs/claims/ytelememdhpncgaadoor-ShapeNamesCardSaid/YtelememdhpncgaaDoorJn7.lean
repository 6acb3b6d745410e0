/-
  Texts joined: Parse, Close, Copy, Copyrel, Perms.
-/
import Derived.Test.YtelememdhpncgaaDoorJn6
import Derived.Defers
import Derived.Recover
import Derived.Laws.Pointers
import Derived.Test.YtelememdhpncgaaDoorCards
import Derived.Test.YtelememdhpncgaaDoorTie
import Derived.WalkKit
import Derived.ProofKit
import Derived.OpenShut
import Derived.Deep.DeepHandedRow
import Derived.Deep.DeepWitnessRowRef
import Derived.Stop.LaidErr
import Derived.Lay
import Derived.Carry
import Derived.SizedLaws
import Derived.ChangeSlices
import Derived.Lib.SmallJoins
import Derived.Test.YtelememdhpncgaaDoorJn4
import Derived.Test.YtelememdhpncgaaDoorJn5
import Derived.Deep.RegionLaw
import Derived.Test.YtelememdhpncgaaDoorJn1

/-
  Walks: shape.Parse, its deferred literal.
-/
namespace Go.Proofs.YtelememdhpncgaaDoor
open Go.RowKit

theorem catch_panicking (a b : Nat) (x0 x1 y : Value) (older : List PanicEntry) (w : World) (h0 : w.cell? ⟨a, 0, none⟩ = some x0) (h1 : w.cell? ⟨a, 1, none⟩ = some x1) (h2 : w.cell? ⟨b, 0, none⟩ = some y)
    (f0 : w.frozen? ⟨a, 0, none⟩ = false) (f1 : w.frozen? ⟨a, 1, none⟩ = false) (f2 : w.frozen? ⟨b, 0, none⟩ = false) (hab : a ≠ b) :
    CallsD Tryd.prog 26 #[.pointer (some ⟨a, 0, none⟩), .pointer (some ⟨b, 0, none⟩)] (.panicking ({ v := .iface 30 (.int .i64 3), recovered := false } :: older)) w fun e u' w' =>
      e = .returned (.tuple #[]) ∧ u' = .panicking ({ v := .iface 30 (.int .i64 3), recovered := true } :: older) ∧
      w' = ((w.setCell ⟨a, 0, none⟩ (.int .i64 0)).setCell ⟨a, 1, none⟩ (.slice none 0 0)).setCell ⟨b, 0, none⟩ (.int .i64 3) := by
  refine callsD_of_wpS Tryd.func26 rfl fun c₀ cs hu => ?_
  apply wpS_seq
  apply wpS_region
  simp [wpOpsS, go_sem, recoverD, hu, Tryd.ntmps26, Exit.thenS]
  refine wpS_cond (t := true) (by simp [Act.eval, Array.replicate]) ?_
  simp only [if_true]
  apply wpS_region
  simp [wpOpsS, go_sem, h0, h1, h2, f0, f1, f2, hab, Ne.symm hab, bodyPostS, results, Tryd.results26]

theorem catch_idle (a b : Nat) (w : World) :
    CallsD Tryd.prog 26 #[.pointer (some ⟨a, 0, none⟩), .pointer (some ⟨b, 0, none⟩)] .returning w fun e u' w' => e = .returned (.tuple #[]) ∧ u' = .returning ∧ w' = w := by
  refine callsD_of_wpS Tryd.func26 rfl fun c₀ cs hu => ?_
  apply wpS_seq
  apply wpS_region
  simp [wpOpsS, go_sem, recoverD, hu, Tryd.ntmps26, Exit.thenS]
  refine wpS_cond (t := false) (by simp [Act.eval, Array.replicate]) ?_
  simp only [Bool.false_eq_true, if_false]
  refine wpS_of_wp (wp_skip ?_)
  cases c₀
  simp_all [bodyPostS, results, Tryd.results26]

/-- What Parse leaves: the structure, of the call's own memory, or the error. -/
def ParsePost (text : ByteArray) (w : World) (e : Ending) (w' : World) : Prop :=
  Below w.heap.size w w' ∧ match parseP text.toList with
    | some s => ∃ u, e = .returned (.tuple #[.agg #[.int .i64 s.size, u], .int .i64 0]) ∧ NRels w' w.heap.size u s.rels
    | none => e = .returned (.tuple #[.agg #[.int .i64 0, .slice none 0 0], .int .i64 3])
theorem ParsePost.bad {text : ByteArray} {w w' : World} (h : parseP text.toList = none) (hb : Below w.heap.size w w') : ParsePost text w (.returned (.tuple #[.agg #[.int .i64 0, .slice none 0 0], .int .i64 3])) w' :=
  ⟨hb, by rw [h]⟩
theorem ParsePost.ok {text : ByteArray} {w w' : World} {s : Sh.Str} {u : Value} (h : parseP text.toList = some s) (hb : Below w.heap.size w w') (hu : NRels w' w.heap.size u s.rels) :
    ParsePost text w (.returned (.tuple #[.agg #[.int .i64 s.size, u], .int .i64 0])) w' :=
  ⟨hb, by rw [h]; exact ⟨u, rfl, hu⟩⟩

theorem NRels.shape {w : World} {L : Nat} {v : Value} {rs : List Sh.Rel} (h : NRels w L v rs) : ∃ A n c, v = .slice A n c := by obtain ⟨A, n, c, h, -⟩ := h; exact ⟨A, n, c, h⟩
theorem Blk.cell0 {w : World} {g : Nat} {t : TypeId} {x : Value} {xs : List Value} (h : Blk w g t (List.toArray (x :: xs))) : w.cell? ⟨g, 0, none⟩ = some x := (Blk.cell h 0).trans (by simp)
theorem Blk.cell1 {w : World} {g : Nat} {t : TypeId} {x y : Value} {xs : List Value} (h : Blk w g t (List.toArray (x :: y :: xs))) : w.cell? ⟨g, 1, none⟩ = some y := (Blk.cell h 1).trans (by simp)
theorem StrPost.none_ {R : Nat} {text : ByteArray} {w w' : World} {e : Ending} (h : StrPost R 0 text w e w') (ht : strP text.toList = none) : w.grownBy w' (some R) ∧ e = .panicked errChain := by
  obtain ⟨hg, h⟩ := h
  rw [List.drop_zero, ht] at h
  exact ⟨hg, h⟩
theorem StrPost.some_ {R : Nat} {text : ByteArray} {w w' : World} {e : Ending} {s : Sh.Str} (h : StrPost R 0 text w e w') (ht : strP text.toList = some s) :
    w.grownBy w' (some R) ∧ ∃ u, e = .returned (.agg #[.int .i64 s.size, u]) ∧ NRels w' w.heap.size u s.rels := by
  obtain ⟨hg, h⟩ := h
  rw [List.drop_zero, ht] at h
  exact ⟨hg, h⟩

/-- The world after Parse's boxes. -/
abbrev boxed (w : World) (text : ByteArray) : World :=
  ((w.alloc (.cells #[.int .i64 0, .slice none 0 0] 24)).alloc (.cells #[.int .i64 0] 30)).alloc (.cells #[.string text, .int .i64 0] 62)

set_option maxRecDepth 100000 in
set_option maxHeartbeats 400000 in
theorem parse_any (text : ByteArray) (w : World) (hs : text.size ≤ 140737488351232) (hv : Vars w) (hw : 5 ≤ w.heap.size) :
    Calls Tryd.prog 12 #[.string text] w (ParsePost text w) := by
  have hmf : ∀ (fn : Fn) (first cap : Array Value) (w : World), (Instr.makeFunc fn first cap).run Tryd.prog w = .ok (.func fn first cap) w := fun _ _ _ _ => rfl
  by_cases hbig : 40000 < text.size
  · have hbad : parseP text.toList = none := by unfold parseP; rw [if_pos (by rw [length_bytes]; exact hbig)]
    have Hbad := Lib.hid hbad; clear hbad
    go_enter_defers Tryd.func12, Tryd.ntmps12
    go_wp2
    refine ⟨.tuple #[.agg #[.int .i64 0, .slice none 0 0], .int .i64 3], ?_, .bad Hbad.out (((Below.refl _ _).alloc (Nat.le_refl _) _).alloc (by simp) _)⟩
    simp [results, Tryd.results12, Tryd.f12, go_sem]
  · have hnb : ¬ 40000 < text.toList.length := by rw [length_bytes]; exact hbig
    have hcall : ∀ W : World, Rdr W (w.heap.size + 2) text 0 → Vars W → w.heap.size + 2 < W.heap.size → _ := fun W h1 h2 h3 => structure_any (w.heap.size + 2) 0 text W h1 (by omega) (by omega) h2 (by omega) (by omega) h3
    have hb0 : Blk (boxed w text) w.heap.size 24 #[.int .i64 0, .slice none 0 0] := Blk.alloc (Blk.alloc (Blk.new w _ _) _) _
    have hb1 : Blk (boxed w text) (w.heap.size + 1) 30 #[.int .i64 0] := by
      have h := Blk.new (w.alloc (.cells #[.int .i64 0, .slice none 0 0] 24)) 30 #[.int .i64 0]
      rw [World.size_alloc] at h
      exact Blk.alloc h _
    have hb2 : Rdr (boxed w text) (w.heap.size + 2) text 0 := by
      have h := Blk.new ((w.alloc (.cells #[.int .i64 0, .slice none 0 0] 24)).alloc (.cells #[.int .i64 0] 30)) 62 #[.string text, .int .i64 0]
      rw [World.size_alloc, World.size_alloc] at h
      exact h
    have hbel : Below w.heap.size w (boxed w text) := (((Below.refl _ _).alloc (Nat.le_refl _) _).alloc (by simp) _).alloc (by simp; omega) _
    have hbs : (boxed w text).heap.size = w.heap.size + 3 := by simp [boxed]
    have hbv : Vars (boxed w text) := hv.below hbel hw
    have Hcall := Lib.hid hcall; clear hcall
    have Hb0 := Lib.hid hb0; clear hb0
    have Hb1 := Lib.hid hb1; clear hb1
    have Hb2 := Lib.hid hb2; clear hb2
    have Hbel := Lib.hid hbel; clear hbel
    have Hbs := Lib.hid hbs; clear hbs
    have Hbv := Lib.hid hbv; clear hbv
    cases hst : strP text.toList with
    | none =>
      have hbad : parseP text.toList = none := by unfold parseP; rw [if_neg hnb, hst]
      have Hbad := Lib.hid hbad; clear hbad
      have Hst := Lib.hid hst; clear hst
      go_enter_defers Tryd.func12, Tryd.ntmps12
      go_wp2_with (go_at_call 27; refine (Hcall.out _ Hb2.out Hbv.out (Nat.lt_of_lt_of_eq (by omega) Hbs.out.symm)).mono ?_; rintro e w1 hp; obtain ⟨hg1, rfl⟩ := hp.none_ Hst.out)
      have k0 := Blk.grown Hb0.out hg1 (by simp)
      have k1 := Blk.grown Hb1.out hg1 (by simp)
      have bel1 : Below w.heap.size w w1 := Hbel.out.grown hg1 (Hbs.out ▸ Nat.le_add_right _ _) (by rintro k ⟨⟩; omega)
      refine leaves_cons (f := 26) (args := #[.pointer (some ⟨w.heap.size, 0, none⟩), .pointer (some ⟨w.heap.size + 1, 0, none⟩)]) (by simp) (by simp [go_sem]) ?_
      refine (catch_panicking w.heap.size (w.heap.size + 1) _ _ _ [] _ k0.cell0 k0.cell1 k1.cell0 (Blk.frozen k0 0) (Blk.frozen k0 1) (Blk.frozen k1 0) (by omega)).mono ?_
      rintro e u' w'' ⟨rfl, rfl, rfl⟩
      have z0 := ((Blk.set_ k0 0 (.int .i64 0)).set_ 1 (.slice none 0 0)).far (p := ⟨w.heap.size + 1, 0, none⟩) (by simp) (.int .i64 3)
      have z1 := ((k1.far (p := ⟨w.heap.size, 0, none⟩) (by simp) (.int .i64 0)).far (p := ⟨w.heap.size, 1, none⟩) (by simp) (.slice none 0 0)).set_ 0 (.int .i64 3)
      have c0 := Blk.cell z0 0
      have c1 := Blk.cell z0 1
      have c2 := Blk.cell z1 0
      simp at c0 c1 c2
      have bel2 : Below w.heap.size w (((w1.setCell ⟨w.heap.size, 0, none⟩ (.int .i64 0)).setCell ⟨w.heap.size, 1, none⟩ (.slice none 0 0)).setCell ⟨w.heap.size + 1, 0, none⟩ (.int .i64 3)) := ((bel1.setCell (Nat.le_refl _) _).setCell (Nat.le_refl _) _).setCell (Nat.le_succ _) _
      have hpost := ParsePost.bad Hbad.out bel2
      have Hpost := Lib.hid hpost; clear hpost
      refine ⟨_, ?_, Hpost.out⟩
      simp [results, Tryd.results12, Tryd.f12, go_sem, c0, c1, c2]
    | some s =>
      cases hvb : Sh.validB s
      · have hbad : parseP text.toList = none := by unfold parseP; rw [if_neg hnb, hst]; simp [hvb]
        have Hbad := Lib.hid hbad; clear hbad
        have Hst := Lib.hid hst; clear hst
        have Hvb := Lib.hid hvb; clear hvb
        go_enter_defers Tryd.func12, Tryd.ntmps12
        go_wp2_with (first
          | (go_at_call 27
             refine (Hcall.out _ Hb2.out Hbv.out (Nat.lt_of_lt_of_eq (by omega) Hbs.out.symm)).mono ?_
             rintro e w1 hp
             obtain ⟨hg1, u, rfl, hu1⟩ := hp.some_ Hst.out
             clear hp
             obtain ⟨UA, UN, UC, rfl⟩ := hu1.shape
             have k0 := Blk.grown Hb0.out hg1 (by simp)
             have k1 := Blk.grown Hb1.out hg1 (by simp)
             have bel1 : Below w.heap.size w w1 := Hbel.out.grown hg1 (Hbs.out ▸ Nat.le_add_right _ _) (by rintro k ⟨⟩; omega)
             have f00 := Blk.frozen k0 0
             have f01 := Blk.frozen k0 1
             have d00 := k0.cell0
             have d01 := k0.cell1
             have f02 : ∀ v, (w1.setCell ⟨w.heap.size, 0, none⟩ v).frozen? ⟨w.heap.size, 1, none⟩ = false := fun v => Blk.frozen (Blk.set_ k0 0 v) 1
             have d02 : ∀ v, (w1.setCell ⟨w.heap.size, 0, none⟩ v).cell? ⟨w.heap.size, 1, none⟩ = some (.slice none 0 0) := fun v => (Blk.cell (Blk.set_ k0 0 v) 1).trans (by simp)
             have Hg1 := Lib.hid hg1; clear hg1
             have Hu1 := Lib.hid hu1; clear hu1
             have K0 := Lib.hid k0; clear k0
             have K1 := Lib.hid k1; clear k1
             have Bel1 := Lib.hid bel1; clear bel1)
          | (go_at_call 5
             have k02 := ((Blk.set_ K0.out 0 (.int .i64 s.size)).set_ 1 (.slice UA UN UC))
             have k12 := ((K1.out.far (p := ⟨w.heap.size, 0, none⟩) (by simp) (.int .i64 s.size)).far (p := ⟨w.heap.size, 1, none⟩) (by simp) (.slice UA UN UC))
             have bel2 := (Bel1.out.setCell (p := ⟨w.heap.size, 0, none⟩) (Nat.le_refl _) (.int .i64 s.size)).setCell (p := ⟨w.heap.size, 1, none⟩) (Nat.le_refl _) (.slice UA UN UC)
             have hu2 := (Hu1.out.keep (Keeps.setCell (p := ⟨w.heap.size, 0, none⟩) K0.out (by decide) (.int .i64 s.size))).keep (Keeps.setCell (p := ⟨w.heap.size, 1, none⟩) (Blk.set_ K0.out 0 (.int .i64 s.size)) (by decide) (.slice UA UN UC))
             clear f00 f01 d00 d01 f02 d02
             generalize ((w1.setCell ⟨w.heap.size, 0, none⟩ (.int .i64 s.size)).setCell ⟨w.heap.size, 1, none⟩ (.slice UA UN UC)) = w2 at k02 k12 bel2 hu2 ⊢
             simp at k02
             refine (valid_any s.size (.slice UA UN UC) s.rels w2 _ (Nat.le_refl _) hu2.rels).mono ?_
             rintro e w3 ⟨rfl, hb3⟩
             have k0 := Blk.below k02 hb3 (Blk.lt k02)
             have k1 := Blk.below k12 hb3 (Blk.lt k12)
             have bel3 := bel2.trans (hb3.mono bel2.size)
             have hu3 := hu2.keep (Keeps.of_below hb3)
             have hvb' : Sh.validB ⟨s.size, s.rels⟩ = false := Hvb.out
             rw [hvb']
             clear k02 k12 bel2 hu2 hb3 hvb'
             have f00 := Blk.frozen k0 0
             have d00 := k0.cell0
             have d01 := k0.cell1
             have f02 : ∀ v, (w3.setCell ⟨w.heap.size, 0, none⟩ v).frozen? ⟨w.heap.size, 1, none⟩ = false := fun v => Blk.frozen (Blk.set_ k0 0 v) 1
             have d02 : ∀ v, (w3.setCell ⟨w.heap.size, 0, none⟩ v).cell? ⟨w.heap.size, 1, none⟩ = some (.slice UA UN UC) := fun v => (Blk.cell (Blk.set_ k0 0 v) 1).trans (by simp)
             have f03 : ∀ v u, ((w3.setCell ⟨w.heap.size, 0, none⟩ v).setCell ⟨w.heap.size, 1, none⟩ u).frozen? ⟨w.heap.size + 1, 0, none⟩ = false := fun v u => Blk.frozen ((Blk.far k1 (p := ⟨w.heap.size, 0, none⟩) (by simp) v).far (p := ⟨w.heap.size, 1, none⟩) (by simp) u) 0
             have d03 : ∀ v u, ((w3.setCell ⟨w.heap.size, 0, none⟩ v).setCell ⟨w.heap.size, 1, none⟩ u).cell? ⟨w.heap.size + 1, 0, none⟩ = some (.int .i64 0) := fun v u => ((Blk.far k1 (p := ⟨w.heap.size, 0, none⟩) (by simp) v).far (p := ⟨w.heap.size, 1, none⟩) (by simp) u).cell0
             have Hu3 := Lib.hid hu3; clear hu3
             have K0 := Lib.hid k0; clear k0
             have K1 := Lib.hid k1; clear k1
             have Bel3 := Lib.hid bel3; clear bel3))
        have k0 := K0.out
        have k1 := K1.out
        have bel2 := Bel3.out
        refine leaves_cons (f := 26) (args := #[.pointer (some ⟨w.heap.size, 0, none⟩), .pointer (some ⟨w.heap.size + 1, 0, none⟩)]) (by simp) (by simp [go_sem]) ?_
        refine (catch_panicking w.heap.size (w.heap.size + 1) _ _ _ [] _ k0.cell0 k0.cell1 k1.cell0 (Blk.frozen k0 0) (Blk.frozen k0 1) (Blk.frozen k1 0) (by omega)).mono ?_
        rintro e u' w'' ⟨rfl, rfl, rfl⟩
        have z0 := ((Blk.set_ k0 0 (.int .i64 0)).set_ 1 (.slice none 0 0)).far (p := ⟨w.heap.size + 1, 0, none⟩) (by simp) (.int .i64 3)
        have z1 := ((k1.far (p := ⟨w.heap.size, 0, none⟩) (by simp) (.int .i64 0)).far (p := ⟨w.heap.size, 1, none⟩) (by simp) (.slice none 0 0)).set_ 0 (.int .i64 3)
        have c0 := Blk.cell z0 0
        have c1 := Blk.cell z0 1
        have c2 := Blk.cell z1 0
        simp at c0 c1 c2
        have bel3 := ((bel2.setCell (p := ⟨w.heap.size, 0, none⟩) (Nat.le_refl _) (.int .i64 0)).setCell (p := ⟨w.heap.size, 1, none⟩) (Nat.le_refl _) (.slice none 0 0)).setCell (p := ⟨w.heap.size + 1, 0, none⟩) (Nat.le_succ _) (.int .i64 3)
        have hpost := ParsePost.bad Hbad.out bel3
        have Hpost := Lib.hid hpost; clear hpost
        refine ⟨_, ?_, Hpost.out⟩
        simp [results, Tryd.results12, Tryd.f12, go_sem, c0, c1, c2]
      · have hgood : parseP text.toList = some s := by unfold parseP; rw [if_neg hnb, hst]; simp [hvb]
        have Hgood := Lib.hid hgood; clear hgood
        have Hst := Lib.hid hst; clear hst
        have Hvb := Lib.hid hvb; clear hvb
        go_enter_defers Tryd.func12, Tryd.ntmps12
        go_wp2_with (first
          | (go_at_call 27
             refine (Hcall.out _ Hb2.out Hbv.out (Nat.lt_of_lt_of_eq (by omega) Hbs.out.symm)).mono ?_
             rintro e w1 hp
             obtain ⟨hg1, u, rfl, hu1⟩ := hp.some_ Hst.out
             clear hp
             obtain ⟨UA, UN, UC, rfl⟩ := hu1.shape
             have k0 := Blk.grown Hb0.out hg1 (by simp)
             have k1 := Blk.grown Hb1.out hg1 (by simp)
             have bel1 : Below w.heap.size w w1 := Hbel.out.grown hg1 (Hbs.out ▸ Nat.le_add_right _ _) (by rintro k ⟨⟩; omega)
             have f00 := Blk.frozen k0 0
             have f01 := Blk.frozen k0 1
             have d00 := k0.cell0
             have d01 := k0.cell1
             have f02 : ∀ v, (w1.setCell ⟨w.heap.size, 0, none⟩ v).frozen? ⟨w.heap.size, 1, none⟩ = false := fun v => Blk.frozen (Blk.set_ k0 0 v) 1
             have d02 : ∀ v, (w1.setCell ⟨w.heap.size, 0, none⟩ v).cell? ⟨w.heap.size, 1, none⟩ = some (.slice none 0 0) := fun v => (Blk.cell (Blk.set_ k0 0 v) 1).trans (by simp)
             have Hg1 := Lib.hid hg1; clear hg1
             have Hu1 := Lib.hid hu1; clear hu1
             have K0 := Lib.hid k0; clear k0
             have K1 := Lib.hid k1; clear k1
             have Bel1 := Lib.hid bel1; clear bel1)
          | (go_at_call 5
             have k02 := ((Blk.set_ K0.out 0 (.int .i64 s.size)).set_ 1 (.slice UA UN UC))
             have k12 := ((K1.out.far (p := ⟨w.heap.size, 0, none⟩) (by simp) (.int .i64 s.size)).far (p := ⟨w.heap.size, 1, none⟩) (by simp) (.slice UA UN UC))
             have bel2 := (Bel1.out.setCell (p := ⟨w.heap.size, 0, none⟩) (Nat.le_refl _) (.int .i64 s.size)).setCell (p := ⟨w.heap.size, 1, none⟩) (Nat.le_refl _) (.slice UA UN UC)
             have hu2 := (Hu1.out.keep (Keeps.setCell (p := ⟨w.heap.size, 0, none⟩) K0.out (by decide) (.int .i64 s.size))).keep (Keeps.setCell (p := ⟨w.heap.size, 1, none⟩) (Blk.set_ K0.out 0 (.int .i64 s.size)) (by decide) (.slice UA UN UC))
             clear f00 f01 d00 d01 f02 d02
             generalize ((w1.setCell ⟨w.heap.size, 0, none⟩ (.int .i64 s.size)).setCell ⟨w.heap.size, 1, none⟩ (.slice UA UN UC)) = w2 at k02 k12 bel2 hu2 ⊢
             simp at k02
             refine (valid_any s.size (.slice UA UN UC) s.rels w2 _ (Nat.le_refl _) hu2.rels).mono ?_
             rintro e w3 ⟨rfl, hb3⟩
             have k0 := Blk.below k02 hb3 (Blk.lt k02)
             have k1 := Blk.below k12 hb3 (Blk.lt k12)
             have bel3 := bel2.trans (hb3.mono bel2.size)
             have hu3 := hu2.keep (Keeps.of_below hb3)
             have hvb' : Sh.validB ⟨s.size, s.rels⟩ = true := Hvb.out
             rw [hvb']
             clear k02 k12 bel2 hu2 hb3 hvb'
             have f00 := Blk.frozen k0 0
             have d00 := k0.cell0
             have d01 := k0.cell1
             have f02 : ∀ v, (w3.setCell ⟨w.heap.size, 0, none⟩ v).frozen? ⟨w.heap.size, 1, none⟩ = false := fun v => Blk.frozen (Blk.set_ k0 0 v) 1
             have d02 : ∀ v, (w3.setCell ⟨w.heap.size, 0, none⟩ v).cell? ⟨w.heap.size, 1, none⟩ = some (.slice UA UN UC) := fun v => (Blk.cell (Blk.set_ k0 0 v) 1).trans (by simp)
             have f03 : ∀ v u, ((w3.setCell ⟨w.heap.size, 0, none⟩ v).setCell ⟨w.heap.size, 1, none⟩ u).frozen? ⟨w.heap.size + 1, 0, none⟩ = false := fun v u => Blk.frozen ((Blk.far k1 (p := ⟨w.heap.size, 0, none⟩) (by simp) v).far (p := ⟨w.heap.size, 1, none⟩) (by simp) u) 0
             have d03 : ∀ v u, ((w3.setCell ⟨w.heap.size, 0, none⟩ v).setCell ⟨w.heap.size, 1, none⟩ u).cell? ⟨w.heap.size + 1, 0, none⟩ = some (.int .i64 0) := fun v u => ((Blk.far k1 (p := ⟨w.heap.size, 0, none⟩) (by simp) v).far (p := ⟨w.heap.size, 1, none⟩) (by simp) u).cell0
             have Hu3 := Lib.hid hu3; clear hu3
             have K0 := Lib.hid k0; clear k0
             have K1 := Lib.hid k1; clear k1
             have Bel3 := Lib.hid bel3; clear bel3))
        refine leaves_cons (f := 26) (args := #[.pointer (some ⟨w.heap.size, 0, none⟩), .pointer (some ⟨w.heap.size + 1, 0, none⟩)]) (by simp) (by simp [go_sem]) ?_
        refine (catch_idle w.heap.size (w.heap.size + 1) _).mono ?_
        rintro e u' w'' ⟨rfl, rfl, rfl⟩
        have k03 := ((Blk.set_ K0.out 0 (.int .i64 s.size)).set_ 1 (.slice UA UN UC))
        have k13 := ((K1.out.far (p := ⟨w.heap.size, 0, none⟩) (by simp) (.int .i64 s.size)).far (p := ⟨w.heap.size, 1, none⟩) (by simp) (.slice UA UN UC))
        have z0 := k03.far (p := ⟨w.heap.size + 1, 0, none⟩) (by simp) (.int .i64 0)
        have z1 := k13.set_ 0 (.int .i64 0)
        have c0 := Blk.cell z0 0
        have c1 := Blk.cell z0 1
        have c2 := Blk.cell z1 0
        simp at c0 c1 c2
        have bel4 := ((Bel3.out.setCell (p := ⟨w.heap.size, 0, none⟩) (Nat.le_refl _) (.int .i64 s.size)).setCell (p := ⟨w.heap.size, 1, none⟩) (Nat.le_refl _) (.slice UA UN UC)).setCell (p := ⟨w.heap.size + 1, 0, none⟩) (Nat.le_succ _) (.int .i64 0)
        have hu4 := ((Hu3.out.keep (Keeps.setCell (p := ⟨w.heap.size, 0, none⟩) K0.out (by decide) (.int .i64 s.size))).keep (Keeps.setCell (p := ⟨w.heap.size, 1, none⟩) (Blk.set_ K0.out 0 (.int .i64 s.size)) (by decide) (.slice UA UN UC))).keep (Keeps.setCell (p := ⟨w.heap.size + 1, 0, none⟩) k13 (by decide) (.int .i64 0))
        have hpost := ParsePost.ok Hgood.out bel4 (hu4.more (Hbs.out ▸ Nat.le_add_right _ _))
        have Hpost := Lib.hid hpost; clear hpost
        refine ⟨_, ?_, Hpost.out⟩
        simp [results, Tryd.results12, Tryd.f12, go_sem, c0, c1, c2]


end Go.Proofs.YtelememdhpncgaaDoor

/-
  What closes a law of this seat: the listed variables' facts, the arguments as numbers and lists, the post-condition 'true, and every argument reads as it did', the witness's world.
-/
namespace Go.Proofs.YtelememdhpncgaaDoor
open Go.ChangeShapes Go.WideShapes Go.ChangeAt Go.RowKit

theorem own : ownKnob Tryd.prog.godebug = none := by kernel_rfl
theorem laidOut : laidOutB Tryd.prog = true := by kernel_rfl
theorem star : "*" ++ "errors.errorString" = "*errors.errorString" := by decide
theorem rowErr (u : TypeId) (h : Tryd.prog.typeName? 3 u = some "*errors.errorString") : u = 125 :=
  typeName_ptr_named (nm := "errors.errorString") (by rw [star]; kernel_rfl) (by kernel_rfl) (by decide) u (by rw [star]; exact h)

def laidList : List (String × DataW Unit) := [("math/bits.deBruijn32tab", Rows.laid_math_bits_deBruijn32tab), ("math/bits.deBruijn64tab", Rows.laid_math_bits_deBruijn64tab), ("internal/strconv.uint64pow10", Rows.laid_internal_strconv_uint64pow10), ("strconv.ErrRange", Rows.laid_strconv_ErrRange), ("strconv.ErrSyntax", Rows.laid_strconv_ErrSyntax)]

theorem vars_of_laid {W : World} (h : laidMet Tryd.prog laidList W) : Vars W ∧ 5 ≤ W.heap.size := by
  have h5 := h.tail.tail.tail
  obtain ⟨a0, s0, hv0, -⟩ := laid_sentinel (g := 1) h5 (by kernel_rfl) (by kernel_rfl) Tryd.underlying94 rowErr Tryd.underlying125 Tryd.underlying127 rfl rfl Tryd.underlying9 (by kernel_rfl) (by kernel_rfl)
  obtain ⟨a1, s1, hv1, -⟩ := laid_sentinel (g := 0) h5.tail (by kernel_rfl) (by kernel_rfl) Tryd.underlying94 rowErr Tryd.underlying125 Tryd.underlying127 rfl rfl Tryd.underlying9 (by kernel_rfl) (by kernel_rfl)
  refine ⟨⟨⟨_, _, hv1⟩, ⟨_, _, hv0⟩⟩, ?_⟩
  obtain ⟨ps, ⟨g, t, cs, fuel, p, q, hg, -, hv, -⟩, -⟩ := h.tail
  unfold World.var? at hv
  rw [show Tryd.prog.globalNamed "math/bits.deBruijn64tab" = some 4 by kernel_rfl, Option.bind_some] at hv
  rcases Nat.lt_or_ge 4 W.heap.size with hz | hz
  · omega
  · rw [Array.getElem?_eq_none hz] at hv; cases hv

theorem cellLt {w : World} {a : Addr} {v : Value} (h : w.cell? a = some v) : a.block < w.heap.size := by
  rcases Nat.lt_or_ge a.block w.heap.size with h' | h'
  · exact h'
  · unfold World.cell? at h
    rw [Array.getElem?_eq_none h'] at h
    cases h

section
variable {H : Type} {enc : TypeId × Value → H} {W W' : World}

/-- Every argument reads as it did, where below the heap's old size nothing has turned. -/
theorem args_keep (hb : Below W.heap.size W W') (sp : Nat → Bool) : ∀ (ts : List TypeId) (vs : List Value) (ds : List (DataW H)) (p : List MemPlace), DataW.TrodAll enc Tryd.prog W 0 (fun _ => true) true ts vs ds p →
    (∀ t ∈ ts, Tryd.prog.readableRec t = true ∧ t < Tryd.prog.types.size) → (∀ x ∈ p, x.block < W.heap.size) → (∀ x ∈ p, sp x.block = true) → DataW.TrodAll enc Tryd.prog W' 0 sp true ts vs ds p
  | [], vs, ds, p, h, _, _, _ => by
    obtain ⟨rfl, rfl, rfl⟩ := trodAll_nil h
    exact trodAll_mk0
  | t :: ts, vs, ds, p, h, hr, hl, hs => by
    obtain ⟨v0, vs0, d0, ds0, p0, q0, rfl, rfl, rfl, h0, r0⟩ := trodAll_cons h
    have ht := hr t (List.mem_cons_self ..)
    exact trodAll_cons_mk (WideElems.Trod_stays laidOut ht.1 ht.2 h0 (fun x hx => hb.same (hl x (List.mem_append_left _ hx))) (fun x hx => hs x (List.mem_append_left _ hx)))
      (args_keep hb sp ts vs0 ds0 q0 r0 (fun u hu => hr u (List.mem_cons_of_mem _ hu)) (fun x hx => hl x (List.mem_append_right _ hx)) (fun x hx => hs x (List.mem_append_right _ hx)))

theorem trodVars_nil_mk {sp : Nat → Bool} : DataW.TrodVars enc Tryd.prog W' sp [] [] [] := rfl

set_option maxRecDepth 100000 in
/-- The post-condition of every row here. -/
theorem post_true {f : Func} {s : ChangeSpec} {apart fresh handsOn again : Bool} {args : Array Value} {ds gs : List (DataW H)} {before : List MemPlace}
    (hf : f.resultTypes = #[4]) (hv : s.vars = []) (hs : s.fn H (ds ++ gs) = { results := [.lit (.bool true)], args := ds })
    (hr : ∀ t ∈ f.params.toList, Tryd.prog.readableRec t = true ∧ t < Tryd.prog.types.size)
    (hW : DataW.Whole enc Tryd.prog f.params.toList s.vars apart W args.toList ds gs before) (hb : Below W.heap.size W W') :
    s.post enc Tryd.prog f apart fresh handsOn again W args (.bool true) W' := by
  have hlt : ∀ x ∈ before, x.block < W.heap.size := fun x hx => hW.lt x hx
  have hW' := hW
  obtain ⟨p, q, hA, hV, hpq, hz, hn⟩ := hW
  rw [hv] at hV
  obtain ⟨rfl, rfl⟩ := trodVars_none hV
  rw [List.append_nil] at hpq
  subst hpq
  have hret : ∀ (b : Nat) (sp : Nat → Bool) (hd : Bool), DataW.TrodAll enc Tryd.prog W' b sp hd f.resultTypes.toList ((Value.bool true).resultList f.resultTypes.size) (s.fn H (ds ++ [])).results [] := fun b sp hd => by
    rw [hf, hs]; exact trodAll_cons_mk (shut_bool Tryd.underlying4 _) trodAll_mk0
  have hin : ∀ sp : Nat → Bool, (∀ x ∈ before, sp x.block = true) → DataW.TrodAll enc Tryd.prog W' 0 sp true f.params.toList args.toList (s.fn H (ds ++ [])).args before := fun sp hsp => by
    rw [hs]; exact args_keep hb sp _ _ _ _ hA hr hlt hsp
  have hvr : ∀ sp : Nat → Bool, DataW.TrodVars enc Tryd.prog W' sp s.vars (s.fn H (ds ++ [])).vars [] := fun sp => by
    rw [hs, hv]; exact trodVars_nil_mk
  have hok : ∀ (j : Nat) (t : TypeId) (r : Value), f.resultTypes[j]? = some t → ((Value.bool true).resultList f.resultTypes.size)[j]? = some r → Value.okWide Tryd.prog W' .any 0 t r :=
by
    intro j t r hj hr'
    rw [hf] at hj hr'
    match j, hj, hr' with
    | 0, hj, hr' =>
      simp [Value.resultList] at hj hr'
      subst hj; subst hr'
      exact okWide_bool_mk Tryd.underlying4 _
    | j + 1, hj, _ => simp at hj
  refine ⟨ds, [], before, [], before, [], hW', hret _ _ _, hin _ (fun x hx => by simpa using hlt x hx), hvr _, World.keptBut_mono (fun x hx => ⟨hx, Or.inr (by simpa using hx)⟩) (hb.frame (· ∈ before)), fun _ => ?_⟩
  refine ⟨hok, _, _, ([] ++ before) ++ [], ⟨[] ++ before, [], trodAll_append (hin _ (fun _ _ => rfl)) (hret _ _ _), hvr _, rfl, ?_, ?_⟩, ?_⟩
  · intro b off hp
    have hp' : MemPlace.cell b off ∈ before := by simpa using hp
    rw [hb.frozen (hlt _ hp')]
    exact hz b off hp'
  · intro ha
    simpa using hn ha
  · intro x hx _
    simpa using hx

set_option maxRecDepth 100000 in
/-- An argument of type []int. -/
theorem ints_of_trod {v : Value} {d : DataW H} {p : List MemPlace} {r : Reach} {b0 : Nat} (hv : Value.okWide Tryd.prog W r b0 26 v) (h : DataW.Trod enc Tryd.prog W 0 (fun _ => true) true 26 v d p)
    (hz : ∀ es sp, d = .slice es sp → (es.length + sp.length) * 8 ≤ 140737488351232) :
    ∃ t : List Int, Ints W W.heap.size v t := by
  obtain ⟨fuel, hf⟩ := h
  obtain ⟨A, n, c, rfl⟩ := okWide_slice Tryd.underlying26 hv
  rcases open_ints Tryd.underlying26 Tryd.underlying3 (by kernel_rfl) hf with ⟨hcs, hx⟩ | ⟨ad, len, cap, zs, hcs, _, hl, _, hzs, hx, hcell, _⟩
  · simp [Value.cells] at hcs
    obtain ⟨rfl, rfl, rfl⟩ := hcs
    exact ⟨[], _, _, _, rfl, rfl, by omega, .none_⟩
  · simp [Value.cells] at hcs
    obtain ⟨rfl, rfl, rfl⟩ := hcs
    have hlz : n ≤ zs.length := by rw [hzs]; split <;> omega
    simp only [Prod.mk.injEq] at hx
    have hb := hz _ _ hx.1
    simp only [lits, List.length_map, List.length_take, List.length_drop] at hb
    refine ⟨zs.take n, _, _, _, rfl, by simp; omega, by omega, by simp; omega, fun hn => ⟨ad, rfl, ?_, fun j u hu => ?_⟩⟩
    · have h0 := hcell 0 (by omega)
      have := cellLt h0
      rw [block_of_add] at this
      exact this
    · rw [List.getElem?_map, List.getElem?_take] at hu
      split at hu
      · rename_i hj
        rw [hcell j (by omega), ← hu, List.getD_eq_getElem?_getD, List.getElem?_eq_getElem (by omega)]
        rfl
      · cases hu
end

end Go.Proofs.YtelememdhpncgaaDoor

/-
  Walks: shape.copyTuple; append of a whole slice of ints that came in.
-/
namespace Go.Proofs.YtelememdhpncgaaDoor
open Go.RowKit

/-- Nothing is appended: the value and the world stay. -/
theorem run_append_none {P : Program} (w : World) (base : Nat) (t ty e : TypeId) (i : TypeInfo) (size : Nat) (ht : P.underlying t = some (.slice e)) (hi : P.info? e = some i)
    (v : Value) (n : Nat) (xs : List Value) (hown : w.ownsRow base e size v n xs) (c : Nat) : (Builtin.append_ #[t, t] ty #[v, .slice none 0 c]).run P w = .ok v w := by
  rcases hown.2 with ⟨rfl, rfl⟩ | ⟨g, cap, cur, rfl, -, -, hnc, -⟩
  · simp [Builtin.append_, run_underlying ht, sizeOf, typeInfo, hi, Builtin.lenOf, Builtin.firstCells]
  · simp [Builtin.append_, run_underlying ht, sizeOf, typeInfo, hi, Builtin.lenOf, Builtin.firstCells, hnc, storeCells]

/-- append of a slice of ints that came in (nil, empty or not) to a row of the call's own. -/
theorem append_ints {ops : Array Oper} {rest : List Oper} {o : Oper} {a : Act} {Q : Exit → Act → World → Prop} (w : World) (hgd : o.guard = none) (s x : Operand)
    (ho : o.op = .call { callee := .builtin .append, args := #[s, x], argTypes := #[26, 26] })
    (base : Nat) (v : Value) (n : Nat) (l : List Int) (hs : a.eval s = v) (hown : w.ownsRow base 3 1 v n (l.map (Value.int .i64)))
    (B : Nat) (u : Value) (t : List Int) (hx : a.eval x = u) (hu : Ints w B u t) (hn : n ≤ 1000000) (ht : t.length ≤ 1000000) (hbase : base ≤ w.heap.size)
    (h : ∀ v' w', w'.ownsRow base 3 1 v' (n + t.length) ((l ++ t).map (Value.int .i64)) → w.grownBy w' v.ownBlock → wpList Tryd.prog ops Q rest (a.put o.dst v') w') :
    wpList Tryd.prog ops Q (o :: rest) a w := by
  obtain ⟨i0, hi, hz0, hz1, hz2⟩ := info_parts int_info
  obtain ⟨A, m, c, rfl, rfl, -, hr⟩ := hu
  rcases A with _ | ad
  · have h0 : t = [] := by
      rcases t with _ | ⟨y, t⟩
      · rfl
      · obtain ⟨ad, e, -⟩ := hr.2 (by simp)
        cases e
    subst h0
    refine wpList_plain hgd fun K' hK' => ?_
    have hrun := run_append_none (P := Tryd.prog) w base 26 o.type 3 i0 1 Tryd.underlying26 hi v n _ hown c
    unfold Oper.wp execOp
    simp only [ho, resolve, invoke, builtin, Sem.run_bind, Sem.run_pure, Result.andThen_ok, List.map_toArray, List.map_cons, List.map_nil, hs, hx, List.length_nil, hrun]
    exact hK' _ _ (h v w (by simpa using hown) (World.grownBy.refl w _))
  · refine wpList_append_own w hgd s x 26 ho base 3 i0 _ 1 8 Tryd.underlying26 hi hz0 hz1 hz2 rfl (by decide) v n _ hs hown ad t.length c (t.map (Value.int .i64)) hx (by simp) ?_ ?_ (by unfold maxLen; omega) (by omega) hbase ?_
    · intro j y hy
      have hl : 0 < t.length := by
        have := (List.getElem?_eq_some_iff.1 hy).1
        rw [List.length_map] at this
        omega
      obtain ⟨ad', e, -, hc⟩ := hr.2 hl
      obtain rfl := Option.some.inj e
      exact hc j y hy
    · intro y hy
      obtain ⟨z, -, rfl⟩ := List.mem_map.1 hy
      rfl
    · intro v' w' h1 h2 _
      exact h v' w' (by rw [List.map_append]; exact h1) h2

theorem own_empty (w : World) (t : TypeId) (size : Nat) : (w.alloc (.cells #[] t)).ownsRow w.heap.size t size (.slice (some ⟨w.heap.size, 0, none⟩) 0 0) 0 [] := by
  refine ⟨by simp, .inr ⟨w.heap.size, 0, #[], rfl, Nat.le_refl _, heap_alloc_new w _, Nat.le_refl _, by unfold maxLen; omega, by simp, by simp⟩⟩

set_option maxRecDepth 100000 in
set_option maxHeartbeats 400000 in
theorem copytuple_any (v : Value) (t : List Int) (w : World) (B : Nat) (hB : B ≤ w.heap.size) (h : Ints w B v t) (ht : t.length ≤ 1000000) :
    Calls Tryd.prog 39 #[v] w fun e w' => ∃ u, e = .returned u ∧ NInts w' w.heap.size u t ∧ Below w.heap.size w w' := by
  go_enter Tryd.func39, Tryd.ntmps39
  go_wp2_with (at_builtin; refine append_ints _ rfl _ _ rfl w.heap.size _ 0 [] rfl (own_empty w 3 1) B v t rfl (h.below (((Below.refl _ _).alloc (Nat.le_refl _) _).mono hB)) (by omega) ht (by simp) ?_; intro v' w' hown hg)
  go_ret
  refine ⟨_, rfl, NInts.own (by simpa using hown) (Nat.le_refl _) (by omega), ?_⟩
  exact ((Below.refl _ _).alloc (Nat.le_refl _) _).grown hg (by simp) (fun g e => Nat.le_of_eq (Option.some.inj (show some w.heap.size = some g from e)))

end Go.Proofs.YtelememdhpncgaaDoor

/-
  Walk: shape.copyRel.
-/
namespace Go.Proofs.YtelememdhpncgaaDoor
open Go.RowKit

theorem take_snoc {α : Type} {l : List α} {k : Nat} {x : α} (h : l[k]? = some x) : l.take (k + 1) = l.take k ++ [x] := by
  obtain ⟨hk, rfl⟩ := List.getElem?_eq_some_iff.1 h
  exact List.take_succ_eq_append_getElem hk
theorem getD_some {α : Type} {l : List α} {k : Nat} {d : α} (h : k < l.length) : l[k]? = some (l.getD k d) := by
  rw [List.getD_eq_getElem?_getD, List.getElem?_eq_getElem h]; rfl
/-- A cell store into a block that is none of the row's. -/
theorem own_set {w : World} {base n size : Nat} {e : TypeId} {v : Value} {xs : List Value} (h : w.ownsRow base e size v n xs) {p : Addr} (hp : p.block < base) (u : Value) : (w.setCell p u).ownsRow base e size v n xs :=
  h.kept (row := some p.block) ⟨rfl, rfl, rfl, by simp [World.setCell], fun i _ hne => Below.heap_setCell _ _ _ _ (fun e => hne (by rw [e]))⟩ (by
    cases ho : v.ownBlock with
    | none => exact .inl rfl
    | some g => exact .inr (fun e => by injection e with e; have := (h.lt g ho).1; omega))
theorem own_below {w w' : World} {base n size : Nat} {e : TypeId} {v : Value} {xs : List Value} (h : w.ownsRow base e size v n xs) (hb : Below w.heap.size w w') : w'.ownsRow base e size v n xs :=
  h.kept (row := none) ⟨hb.os, hb.tape, hb.output, hb.size, fun i hi _ => hb.block i hi⟩ (by
    cases ho : v.ownBlock with
    | none => exact .inl rfl
    | some g => exact .inr (fun e => by cases e))

theorem own_base {w : World} {base base' n size : Nat} {e : TypeId} {v : Value} {xs : List Value} (h : w.ownsRow base e size v n xs) (hb : base' ≤ base) : w.ownsRow base' e size v n xs := by
  rcases h with ⟨h1, h2 | ⟨g, cap, cur, e1, e2, h3⟩⟩
  · exact ⟨h1, .inl h2⟩
  · exact ⟨h1, .inr ⟨g, cap, cur, e1, by omega, h3⟩⟩
theorem own_keeps {w w' : World} {L base n size : Nat} {e : TypeId} {ts : List TypeId} {v : Value} {xs : List Value} (h : w.ownsRow base e size v n xs) (hk : Keeps L ts w w') (hL : L ≤ base) (he : e ∈ ts) : w'.ownsRow base e size v n xs := by
  rcases h with ⟨h1, h2 | ⟨g, cap, cur, e1, e2, h3, h4⟩⟩
  · exact ⟨h1, .inl h2⟩
  · exact ⟨h1, .inr ⟨g, cap, cur, e1, e2, (hk.2 g cur e (by omega) he h3).trans h3, h4⟩⟩

set_option maxRecDepth 100000 in
set_option maxHeartbeats 400000 in
theorem copyrel_own (r : Sh.Rel) (v : Value) (w : World) (B : Nat) (hB : B ≤ w.heap.size) (h : Tups w B v r.tuples) (hl : r.tuples.length ≤ 1000000) (ht : ∀ t ∈ r.tuples, t.length ≤ 1000000) :
    Calls Tryd.prog 28 #[.agg #[.string r.name, .int .i64 r.arity, v]] w fun e w' => ∃ (u : Value) (us : List Value), e = .returned (.agg #[.string r.name, .int .i64 r.arity, u]) ∧ us.length = r.tuples.length ∧ w'.ownsRow w.heap.size 26 1 u r.tuples.length us ∧ Elems w' w.heap.size us r.tuples ∧ Below w.heap.size w w' := by
  obtain ⟨name, arity, ts⟩ := r
  simp only at h hl ht ⊢
  have h' := h
  obtain ⟨A, len, c, rfl, hlen, -⟩ := h'
  have hcall := fun (W : World) (u : Value) (t : List Int) (hu : Ints W B u t) (hW : B ≤ W.heap.size) (hm : t ∈ ts) => copytuple_any u t W B hW hu (ht t hm)
  have Hcall := Lib.hid hcall; clear hcall
  have Hlen := Lib.hid hlen; clear hlen
  have hl' : len ≤ 1000000 := by rw [Hlen.out]; exact hl
  clear hl ht
  go_enter Tryd.func28, Tryd.ntmps28
  go_wp2
  have hb3 : Below w.heap.size w (((w.alloc (.cells #[.string name, .int .i64 arity, .slice A len c] 36)).alloc (.cells #[.string ⟨#[]⟩, .int .i64 0, .slice none 0 0] 36)).alloc (.cells #[.string name, .int .i64 arity, .slice none 0 0] 36)) :=
    (((Below.refl _ _).alloc (Nat.le_refl _) _).alloc (by simp) _).alloc (by simp; omega) _
  have hz3 : Blk (((w.alloc (.cells #[.string name, .int .i64 arity, .slice A len c] 36)).alloc (.cells #[.string ⟨#[]⟩, .int .i64 0, .slice none 0 0] 36)).alloc (.cells #[.string name, .int .i64 arity, .slice none 0 0] 36)) (w.heap.size + 1) 36 #[.string ⟨#[]⟩, .int .i64 0, .slice none 0 0] := by
    have := Blk.new (w.alloc (.cells #[.string name, .int .i64 arity, .slice A len c] 36)) 36 #[.string ⟨#[]⟩, .int .i64 0, .slice none 0 0]
    rw [World.size_alloc] at this
    exact this.alloc _
  have hc3 : Blk (((w.alloc (.cells #[.string name, .int .i64 arity, .slice A len c] 36)).alloc (.cells #[.string ⟨#[]⟩, .int .i64 0, .slice none 0 0] 36)).alloc (.cells #[.string name, .int .i64 arity, .slice none 0 0] 36)) (w.heap.size + 1 + 1) 36 #[.string name, .int .i64 arity, .slice none 0 0] := by
    have := Blk.new ((w.alloc (.cells #[.string name, .int .i64 arity, .slice A len c] 36)).alloc (.cells #[.string ⟨#[]⟩, .int .i64 0, .slice none 0 0] 36)) 36 #[.string name, .int .i64 arity, .slice none 0 0]
    rw [World.size_alloc, World.size_alloc] at this
    exact this
  generalize ((w.alloc (.cells #[.string name, .int .i64 arity, .slice A len c] 36)).alloc (.cells #[.string ⟨#[]⟩, .int .i64 0, .slice none 0 0] 36)).alloc (.cells #[.string name, .int .i64 arity, .slice none 0 0] 36) = W3 at *
  go_loopw [14] (fun i wr => ∃ (k : Nat) (tv : Value) (us : List Value), k ≤ len ∧ i = .int .i64 k ∧ us.length = k ∧ Blk wr (w.heap.size + 1) 36 #[.string ⟨#[]⟩, .int .i64 0, .slice none 0 0] ∧
      Blk wr (w.heap.size + 1 + 1) 36 #[.string name, .int .i64 arity, tv] ∧ wr.ownsRow (w.heap.size + 3) 26 1 tv k us ∧ Elems wr (w.heap.size + 3) us (ts.take k) ∧ Below w.heap.size w wr) (fun i _ => len - (intOf i).toNat)
  case atStart => exact ⟨0, .slice none 0 0, [], Nat.zero_le _, rfl, rfl, hz3, hc3, World.ownsRow_nil _ _ _ _, (fun j u t h => by simp at h), hb3⟩
  case round =>
    obtain ⟨k, tv, us, hk, rfl, hus, hz, hc, hown, hel, hbel⟩ := hrel
    clear hb3 hz3 hc3
    have Hown := Lib.hid hown; clear hown
    obtain ⟨TA, TC, rfl⟩ := own_slice Hown.out
    have hlt3 := hc.lt
    have Hus := Lib.hid hus; clear hus
    by_cases hlt : k < len
    · obtain ⟨ad, u, rfl, hb, hcu, hiu⟩ := (h.below (hbel.mono hB)).at_ hlt
      have hiu' := hiu
      obtain ⟨UA, UN, UC, rfl, -⟩ := hiu'
      have hts : ts[k]? = some (ts.getD k []) := getD_some (by rw [← Hlen.out]; exact hlt)
      have Hts := Lib.hid hts; clear hts
      have hcl2 : wr.drew.cell? ⟨w.heap.size + 1 + 1, 2, none⟩ = some (.slice TA k TC) := hc.cell 2
      have hiud : Ints wr.drew B (.slice UA UN UC) (ts.getD k []) := hiu
      have hbelz : w.heap.size ≤ wr.heap.size := hbel.size
      go_wp2
      go_region_law (first
        | (go_simp
           go_at_call 39
           refine (Hcall.out _ _ _ hiud (by simp; omega) (List.mem_of_getElem? Hts.out)).mono ?_
           rintro e w7 ⟨x, rfl, hni, hb7⟩
           have hni' := hni
           obtain ⟨XA, XN, XC, rfl, -⟩ := hni'
           have hc7 := (Blk.drew hc).below hb7 (by simp; omega)
           have hcc7 : w7.cell? ⟨w.heap.size + 1 + 1, 2, none⟩ = some (.slice TA k TC) := hc7.cell 2
           have hcc7' : (w7.alloc (.cells #[.slice XA XN XC] 26)).cell? ⟨w.heap.size + 1 + 1, 2, none⟩ = some (.slice TA k TC) := (Blk.alloc hc7 _).cell 2
           have hown7 : (w7.alloc (.cells #[.slice XA XN XC] 26)).ownsRow (w.heap.size + 3) 26 1 (.slice TA k TC) k us := World.ownsRow.alloc (own_below (w := wr.drew) Hown.out hb7) _)
        | (refine step_append_tup _ rfl _ _ rfl (w.heap.size + 3) _ k us rfl hown7 ⟨w7.heap.size, 0, none⟩ 1 (.slice XA XN XC) rfl ((Blk.new w7 26 #[.slice XA XN XC]).cell 0) rfl (by omega) (by have := hb7.size; simp at this ⊢; omega) ?_
           intro v8 w8 hown8 hg8
           obtain ⟨VA, VC, rfl⟩ := own_slice hown8
           have hc8 : Blk w8 (w.heap.size + 1 + 1) 36 #[.string name, .int .i64 arity, .slice TA k TC] := Blk.grown (Blk.alloc hc7 _) hg8 (fun e => by have := (hown7.lt _ e.symm).1; omega)
           have hcc8 : w8.cell? ⟨w.heap.size + 1 + 1, 2, none⟩ = some (.slice TA k TC) := hc8.cell 2
           have hcf8 := hc8.frozen 2))
      all_goals
        go_wp2
        have hs7 : wr.heap.size ≤ w7.heap.size := hb7.size
        have hg8' : (w7.alloc (.cells #[.slice XA XN XC] 26)).grownBy w8 (Value.slice TA k TC).ownBlock := hg8
        have hbase : ∀ g, (Value.slice TA k TC).ownBlock = some g → w.heap.size + 3 ≤ g := fun g e => (hown7.lt g e).1
        have hk7 : Keeps (w.heap.size + 3) [3] w7 (w8.setCell ⟨w.heap.size + 1 + 1, 2, none⟩ (.slice VA (k + 1) VC)) :=
          (Keeps.alloc _ _ _ _).trans ((Keeps.own hg8' hown7 (by decide)).trans (Keeps.setCell (p := ⟨w.heap.size + 1 + 1, 2, none⟩) hc8 (by decide) _))
        refine ⟨⟨k + 1, .slice VA (k + 1) VC, us ++ [.slice XA XN XC], by omega, by go_num, by rw [List.length_append, Hus.out]; rfl, ?_, hc8.set_ 2 _, own_set hown8 (show w.heap.size + 1 + 1 < w.heap.size + 3 by omega) _, ?_, ?_⟩, by simp [intOf]; omega⟩
        · exact Blk.far (Blk.grown (Blk.alloc ((Blk.drew hz).below hb7 (by simp; omega)) _) hg8' (fun e => by have := hbase _ e.symm; omega)) (by simp) _
        · rw [take_snoc Hts.out]
          exact Elems.snoc ((hel.keep ((Keeps.drewN _ _ wr 1).trans (Keeps.of_below hb7))).keep hk7) (by rw [Hus.out, List.length_take]; have := Hlen.out; omega) ((hni.more (by simp; omega)).keep hk7)
        · exact ((((hbel.drew).trans (hb7.mono hbelz)).alloc (by omega) _).grown hg8' (by simp; omega) (fun g e => by have := hbase g e; omega)).setCell (show w.heap.size ≤ w.heap.size + 1 + 1 by omega) _
    · have hkl : k = len := by omega
      subst hkl
      have htk : ts.take k = ts := List.take_of_length_le (by have := Hlen.out; omega)
      rw [htk] at hel
      have hcc0 : wr.cell? ⟨w.heap.size + 1 + 1, 0, none⟩ = some (.string name) := hc.cell 0
      have hcc1 : wr.cell? ⟨w.heap.size + 1 + 1, 1, none⟩ = some (.int .i64 arity) := hc.cell 1
      have hcc2 : wr.cell? ⟨w.heap.size + 1 + 1, 2, none⟩ = some (.slice TA k TC) := hc.cell 2
      have hzc0 : wr.cell? ⟨w.heap.size + 1, 0, none⟩ = some (.string ⟨#[]⟩) := hz.cell 0
      have hzc1 : wr.cell? ⟨w.heap.size + 1, 1, none⟩ = some (.int .i64 0) := hz.cell 1
      have hzc2 : wr.cell? ⟨w.heap.size + 1, 2, none⟩ = some (.slice none 0 0) := hz.cell 2
      have hzf0 := hz.frozen 0
      have hzf1 := hz.frozen 1
      have hzf2 := hz.frozen 2
      have Hel := Lib.hid hel; clear htk hel
      go_wp2
      refine bodyPost_ret (v := .agg #[.string name, .int .i64 arity, .slice TA k TC]) (by simp [results, Tryd.results28, go_sem, hzc0, hzc1, hzc2]) rfl ?_
      have hk0 : Keeps (w.heap.size + 3) [3] wr (((wr.setCell ⟨w.heap.size + 1, 0, none⟩ (.string name)).setCell ⟨w.heap.size + 1, 1, none⟩ (.int .i64 arity)).setCell ⟨w.heap.size + 1, 2, none⟩ (.slice TA k TC)) :=
        (Keeps.setCell (p := ⟨w.heap.size + 1, 0, none⟩) hz (by decide) _).trans ((Keeps.setCell (p := ⟨w.heap.size + 1, 1, none⟩) (hz.set_ _ _) (by decide) _).trans (Keeps.setCell (p := ⟨w.heap.size + 1, 2, none⟩) ((hz.set_ _ _).set_ _ _) (by decide) _))
      have hlk : k = ts.length := Hlen.out
      refine ⟨_, us, rfl, by rw [Hus.out]; exact hlk, ?_, fun j x t h1 h2 => (Hel.out.keep hk0 j x t h1 h2).more (by omega), ?_⟩
      · have ho := own_set (own_set (own_set Hown.out (p := ⟨w.heap.size + 1, 0, none⟩) (show w.heap.size + 1 < w.heap.size + 3 by omega) (.string name)) (p := ⟨w.heap.size + 1, 1, none⟩) (show w.heap.size + 1 < w.heap.size + 3 by omega) (.int .i64 arity)) (p := ⟨w.heap.size + 1, 2, none⟩) (show w.heap.size + 1 < w.heap.size + 3 by omega) (.slice TA k TC)
        rw [← hlk]
        exact own_base ho (by omega)
      · exact ((hbel.setCell (by simp) _).setCell (by simp) _).setCell (by simp) _

theorem copyrel_any (r : Sh.Rel) (v : Value) (w : World) (B : Nat) (hB : B ≤ w.heap.size) (h : Tups w B v r.tuples) (hl : r.tuples.length ≤ 1000000) (ht : ∀ t ∈ r.tuples, t.length ≤ 1000000) :
    Calls Tryd.prog 28 #[.agg #[.string r.name, .int .i64 r.arity, v]] w fun e w' => ∃ u, e = .returned (.agg #[.string r.name, .int .i64 r.arity, u]) ∧ NTups w' w.heap.size u r.tuples ∧ Below w.heap.size w w' :=
  (copyrel_own r v w B hB h hl ht).mono fun _ _ ⟨u, us, he, hlen, ho, hel, hb⟩ => ⟨u, he, NTups.own ho (Nat.le_refl _) (by omega) hlen hel, hb⟩

end Go.Proofs.YtelememdhpncgaaDoor

/-
  Walks: permutes; the reference's Perm comes later.
-/
namespace Go.Proofs.YtelememdhpncgaaDoor
open Go.RowKit
open Go.Maps (Keyed)
open Go.ChangeMaps Go.MapKept

namespace Sh
/-- The list has each number from 0 to n - 1 exactly once. -/
def permB (n : Int) (p : List Int) : Bool := decide ((p.length : Int) = n) && inB n p && decide p.Nodup
end Sh

def numSet (l : List Int) : DataW Unit := l.foldl (fun D s => D.put (.int .i64 s) (.lit (.bool true))) (.map [])
theorem numSet_snoc (l : List Int) (s : Int) : numSet (l ++ [s]) = (numSet l).put (.int .i64 s) (.lit (.bool true)) := by
  unfold numSet; rw [List.foldl_append]; rfl
theorem numSet_tidy (l : List Int) : Go.Maps.Tidy (numSet l) := by
  have : ∀ (l : List Int) (D : DataW Unit), Go.Maps.Tidy D → Go.Maps.Tidy (l.foldl (fun D s => D.put (.int .i64 s) (.lit (.bool true))) D) := by
    intro l
    induction l with
    | nil => intro D h; exact h
    | cons x l ih => intro D h; exact ih _ (h.put (by trivial) _)
  exact this l _ Go.Maps.tidy_empty
theorem numSet_has (s : Int) (l : List Int) : Go.Maps.has (numSet l) (.int .i64 s) = l.contains s := by
  have : ∀ (l : List Int) (D : DataW Unit), Go.Maps.IsMap D → Go.Maps.has (l.foldl (fun D s => D.put (.int .i64 s) (.lit (.bool true))) D) (.int .i64 s) = (Go.Maps.has D (.int .i64 s) || l.contains s) := by
    intro l
    induction l with
    | nil => intro D _; simp
    | cons x l ih =>
      intro D h
      rw [List.foldl_cons, ih _ (h.put _ _), List.contains_cons]
      by_cases hx : s = x
      · subst hx
        rw [Go.Maps.has_put_same h (by trivial)]
        simp
      · rw [Go.Maps.has_put_other (by intro e; injection e with _ e; exact hx e)]
        have : (s == x) = false := by simpa using hx
        rw [this, Bool.false_or]
  have h := this l (.map []) Go.Maps.isMap_empty
  simpa [numSet, Go.Maps.has] using h
theorem int_nodup_succ {l : List Int} {k : Nat} {x : Int} (hk : l[k]? = some x) : (l.take (k + 1)).Nodup ↔ (l.take k).Nodup ∧ x ∉ l.take k := by
  rw [take_snoc hk, List.nodup_append]
  constructor
  · rintro ⟨h1, -, h3⟩
    exact ⟨h1, fun hm => h3 x hm x (List.mem_singleton.2 rfl) rfl⟩
  · rintro ⟨h1, h2⟩
    exact ⟨h1, by simp, fun a ha b hb e => h2 (by rw [List.mem_singleton] at hb; rw [← hb, ← e]; exact ha)⟩
theorem numSet_size (l : List Int) : ∀ k, k ≤ l.length → Go.Maps.size (numSet (l.take k)) ≤ k ∧ ((l.take k).Nodup ↔ Go.Maps.size (numSet (l.take k)) = k)
  | 0, _ => by simp [numSet, Go.Maps.size]
  | k + 1, h => by
    obtain ⟨h1, h2⟩ := numSet_size l k (by omega)
    have hk : l[k]? = some l[k] := List.getElem?_eq_getElem (by omega)
    rw [int_nodup_succ hk, take_snoc hk, numSet_snoc, Go.Maps.size_put (numSet_tidy _), numSet_has]
    cases hc : (l.take k).contains l[k] with
    | true =>
      rw [if_pos rfl]
      have hm := List.contains_iff_mem.1 hc
      exact ⟨by omega, ⟨fun hh => absurd hm hh.2, fun hh => by omega⟩⟩
    | false =>
      rw [if_neg (by simp)]
      have hm : l[k] ∉ l.take k := fun hm => by rw [List.contains_iff_mem.2 hm] at hc; cases hc
      exact ⟨by omega, ⟨fun hh => by rw [h2.1 hh.1], fun hh => ⟨h2.2 (by omega), hm⟩⟩⟩

theorem wf_small {x : Int} (h0 : 0 ≤ x) (h1 : x < 64) : (Lit.int .i64 x).wf = true := by
  have e1 : IntKind.i64.min = -9223372036854775808 := by decide
  have e2 : IntKind.i64.max = 9223372036854775807 := by decide
  unfold Lit.wf
  simp only [e1, e2, Bool.and_eq_true, decide_eq_true_eq]
  omega
theorem nums_keyed : Keyed Tryd.prog 3 := Go.Maps.int_keyed Tryd.underlying3
def NumSet (w : World) (b n : Nat) (l : List Int) : Prop := w.ownsMap Tryd.prog 3 (plainElem Tryd.prog 4) b n (numSet l)
theorem NumSet.made (w : World) : NumSet (w.alloc (.map #[] 0)) w.heap.size 0 [] := World.ownsMap_made _ _ _ _
theorem NumSet.below {w w' : World} {B b n : Nat} {l : List Int} (h : NumSet w b n l) (hb : Below B w w') (hB : b < B) : NumSet w' b n l := by
  obtain ⟨es, clock, h1, h2⟩ := h
  exact ⟨es, clock, (hb.block b hB).trans h1, h2⟩

set_option maxRecDepth 100000 in
set_option maxHeartbeats 1000000 in
theorem permutes_any (v : Value) (p : List Int) (n : Int) (w : World) (B : Nat) (hB : B ≤ w.heap.size) (h : Ints w B v p) (hn : n ≤ 64) :
    Calls Tryd.prog 16 #[v, .int .i64 n] w fun e w' => e = .returned (.bool (Sh.permB n p)) ∧ Below w.heap.size w w' := by
  have h' := h
  obtain ⟨A, len, c, rfl, hlen, hmax, -⟩ := h'
  have hel := fun W (hW : Below B w W) => elements_any (.slice A len c) p n W B (h.below hW)
  by_cases h1 : (len : Int) = n
  · have h1b : ((len : Int) != n) = false := by rw [h1]; simp
    cases h2 : Sh.inB n p
    · rw [h2] at hel
      have hf : Sh.permB n p = false := by unfold Sh.permB; rw [h2]; simp
      have Hf := Lib.hid hf; clear hf
      have Hel := Lib.hid hel; clear hel
      clear hlen h1 h2
      go_enter Tryd.func16, Tryd.ntmps16
      go_wp2_with (go_at_call 25; refine (Hel.out _ (Below.refl _ _)).mono ?_; rintro e w' ⟨rfl, rfl⟩)
      go_ret
      exact ⟨ret_bool Hf.out.symm, Below.refl _ _⟩
    · rw [h2] at hel
      have hpb : Sh.permB n p = decide p.Nodup := by unfold Sh.permB; rw [h2, ← hlen, decide_eq_true h1]; simp
      have hin : ∀ x ∈ p, 0 ≤ x ∧ x < n := fun x hx => of_decide_eq_true (List.all_eq_true.1 h2 x hx)
      have Hpb := Lib.hid hpb; clear hpb
      have Hel := Lib.hid hel; clear hel
      have Hin := Lib.hid hin; clear hin
      have Hlen := Lib.hid hlen; clear hlen
      have hl64 : len ≤ 64 := by omega
      have H1 := Lib.hid h1; clear h1 h2
      have hmm := @run_makeMap Tryd.prog
      go_enter Tryd.func16, Tryd.ntmps16
      go_wp2_with (go_at_call 25; refine (Hel.out _ (Below.refl _ _)).mono ?_; rintro e w' ⟨rfl, rfl⟩)
      go_loopw [21] (fun i wr => ∃ k : Nat, k ≤ len ∧ i = .int .i64 k ∧ NumSet wr w.heap.size k (p.take k) ∧ Below w.heap.size w wr) (fun i _ => len - (intOf i).toNat)
      case atStart =>
        refine ⟨0, Nat.zero_le _, rfl, ?_, (Below.refl _ _).alloc (Nat.le_refl _) _⟩
        simpa using NumSet.made w
      case round =>
        obtain ⟨k, hk, rfl, hset, hbel⟩ := hrel
        have Hset := Lib.hid hset; clear hset
        have Hbel := Lib.hid hbel; clear hbel
        by_cases hlt : k < len
        · obtain ⟨ad, rfl, hb, hc⟩ := (h.below (Hbel.out.mono hB)).at_ hlt
          have hxs : p[k]? = some (p.getD k 0) := getD_some (d := 0) (by rw [← Hlen.out]; exact hlt)
          have hx := Hin.out _ (List.mem_of_getElem? hxs)
          have htk := take_snoc hxs
          generalize p.getD k 0 = x at *
          have hkey : keyOf Tryd.prog 3 (.int .i64 x) = some (.int .i64 x) := Go.Maps.keyOf_int_mk Tryd.underlying3 (wf_small hx.1 (by omega))
          have Hkey := Lib.hid hkey; clear hkey
          have Htk := Lib.hid htk; clear htk hxs hx
          have hbz := Hbel.out.size
          go_wp2_with (at_mapUpdate; refine wpList_mapUpdate_own _ rfl _ _ _ 64 rfl 3 4 nums_keyed Tryd.underlying64 _ w.heap.size k _ rfl Hset.out (by unfold maxLen; omega) _ _ _ rfl rfl Hkey.out _ [] (plainElem_bool Tryd.underlying4 true) ?_; intro w2 hown2 hgrow2)
          refine ⟨⟨k + 1, by omega, by go_num, ?_, ?_⟩, by simp [intOf]; omega⟩
          · rw [Htk.out]; unfold NumSet; rw [numSet_snoc]; exact hown2
          · exact Hbel.out.grown hgrow2 (by omega) (by intro g hg; injection hg with hg; omega)
        · obtain rfl : k = len := by omega
          have htk : p.take k = p := List.take_of_length_le (by rw [Hlen.out]; exact Nat.le_refl _)
          have hsz := numSet_size p k (by rw [Hlen.out]; exact Nat.le_refl _)
          rw [htk] at hsz
          have hset := Hset.out
          rw [htk] at hset
          have Hset' := Lib.hid hset; clear hset
          have hfin : ((Go.Maps.size (numSet p) : Int) == n) = decide p.Nodup := by
            rw [← H1.out, Bool.eq_iff_iff]
            simp only [beq_iff_eq, decide_eq_true_eq]
            rw [hsz.2]
            omega
          have Hfin := Lib.hid hfin; clear hfin hsz htk
          go_wp2_with (at_len; refine wpList_len_own _ rfl _ 64 rfl 3 4 Tryd.underlying64 _ w.heap.size k _ rfl Hset'.out ?_)
          go_ret
          exact ⟨ret_bool (by rw [Hpb.out]; first | exact Hfin.out | (rw [← Hfin.out])), Hbel.out⟩
  · have h1b : ((len : Int) != n) = true := by rw [bne_iff_ne]; exact h1
    have hf : Sh.permB n p = false := by unfold Sh.permB; rw [← hlen, decide_eq_false h1]; simp
    have Hf := Lib.hid hf; clear hf hel
    clear hlen h1
    go_enter Tryd.func16, Tryd.ntmps16
    go_wp2
    go_ret
    exact ⟨ret_bool Hf.out.symm, Below.refl _ _⟩

end Go.Proofs.YtelememdhpncgaaDoor
