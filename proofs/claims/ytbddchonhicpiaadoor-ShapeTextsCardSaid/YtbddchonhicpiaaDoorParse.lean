/-
  Walks: shape.Parse, its deferred literal.
-/
import Derived.Test.YtbddchonhicpiaaDoorStruct
import Derived.Test.YtbddchonhicpiaaDoorValid
import Derived.Defers
import Derived.Recover
import Derived.Laws.Pointers
namespace Go.Proofs.YtbddchonhicpiaaDoor
open Go.RowKit

theorem catch_panicking (a b : Nat) (x0 x1 y : Value) (older : List PanicEntry) (w : World) (h0 : w.cell? ⟨a, 0, none⟩ = some x0) (h1 : w.cell? ⟨a, 1, none⟩ = some x1) (h2 : w.cell? ⟨b, 0, none⟩ = some y)
    (f0 : w.frozen? ⟨a, 0, none⟩ = false) (f1 : w.frozen? ⟨a, 1, none⟩ = false) (f2 : w.frozen? ⟨b, 0, none⟩ = false) (hab : a ≠ b) :
    CallsD Tryd.prog 81 #[.pointer (some ⟨a, 0, none⟩), .pointer (some ⟨b, 0, none⟩)] (.panicking ({ v := .iface 36 (.int .i64 3), recovered := false } :: older)) w fun e u' w' =>
      e = .returned (.tuple #[]) ∧ u' = .panicking ({ v := .iface 36 (.int .i64 3), recovered := true } :: older) ∧
      w' = ((w.setCell ⟨a, 0, none⟩ (.int .i64 0)).setCell ⟨a, 1, none⟩ (.slice none 0 0)).setCell ⟨b, 0, none⟩ (.int .i64 3) := by
  refine callsD_of_wpS Tryd.func81 rfl fun c₀ cs hu => ?_
  apply wpS_seq
  apply wpS_region
  simp [wpOpsS, go_sem, recoverD, hu, Tryd.ntmps81, Exit.thenS]
  refine wpS_cond (t := true) (by simp [Act.eval, Array.replicate]) ?_
  simp only [if_true]
  apply wpS_region
  simp [wpOpsS, go_sem, h0, h1, h2, f0, f1, f2, hab, Ne.symm hab, bodyPostS, results, Tryd.results81]

theorem catch_idle (a b : Nat) (w : World) :
    CallsD Tryd.prog 81 #[.pointer (some ⟨a, 0, none⟩), .pointer (some ⟨b, 0, none⟩)] .returning w fun e u' w' => e = .returned (.tuple #[]) ∧ u' = .returning ∧ w' = w := by
  refine callsD_of_wpS Tryd.func81 rfl fun c₀ cs hu => ?_
  apply wpS_seq
  apply wpS_region
  simp [wpOpsS, go_sem, recoverD, hu, Tryd.ntmps81, Exit.thenS]
  refine wpS_cond (t := false) (by simp [Act.eval, Array.replicate]) ?_
  simp only [Bool.false_eq_true, if_false]
  refine wpS_of_wp (wp_skip ?_)
  cases c₀
  simp_all [bodyPostS, results, Tryd.results81]

/-- What Parse leaves: the structure, of the call's own memory, or the error. -/
def ParsePost (text : ByteArray) (w : World) (e : Ending) (w' : World) : Prop :=
  Below w.heap.size w w' ∧ match parseP text.toList with
    | some s => ∃ u, e = .returned (.tuple #[.agg #[.int .i64 s.size, u], .int .i64 0]) ∧ NRels w' w.heap.size u s.rels
    | none => e = .returned (.tuple #[.agg #[.int .i64 0, .slice none 0 0], .int .i64 3])
theorem ParsePost.bad {text : ByteArray} {w w' : World} (h : parseP text.toList = none) (hb : Below w.heap.size w w') : ParsePost text w (.returned (.tuple #[.agg #[.int .i64 0, .slice none 0 0], .int .i64 3])) w' :=
  ⟨hb, by rw [h]⟩
theorem ParsePost.ok {text : ByteArray} {w w' : World} {s : Sh.Str} {u : Value} (h : parseP text.toList = some s) (hb : Below w.heap.size w w') (hu : NRels w' w.heap.size u s.rels) :
    ParsePost text w (.returned (.tuple #[.agg #[.int .i64 s.size, u], .int .i64 0])) w' :=
  ⟨hb, by rw [h]; exact ⟨u, rfl, hu⟩⟩

theorem NRels.shape {w : World} {L : Nat} {v : Value} {rs : List Sh.Rel} (h : NRels w L v rs) : ∃ A n c, v = .slice A n c := by obtain ⟨A, n, c, h, -⟩ := h; exact ⟨A, n, c, h⟩
theorem Blk.cell0 {w : World} {g : Nat} {t : TypeId} {x : Value} {xs : List Value} (h : Blk w g t (List.toArray (x :: xs))) : w.cell? ⟨g, 0, none⟩ = some x := (Blk.cell h 0).trans (by simp)
theorem Blk.cell1 {w : World} {g : Nat} {t : TypeId} {x y : Value} {xs : List Value} (h : Blk w g t (List.toArray (x :: y :: xs))) : w.cell? ⟨g, 1, none⟩ = some y := (Blk.cell h 1).trans (by simp)
theorem StrPost.none_ {R : Nat} {text : ByteArray} {w w' : World} {e : Ending} (h : StrPost R 0 text w e w') (ht : strP text.toList = none) : w.grownBy w' (some R) ∧ e = .panicked errChain := by
  obtain ⟨hg, h⟩ := h
  rw [List.drop_zero, ht] at h
  exact ⟨hg, h⟩
theorem StrPost.some_ {R : Nat} {text : ByteArray} {w w' : World} {e : Ending} {s : Sh.Str} (h : StrPost R 0 text w e w') (ht : strP text.toList = some s) :
    w.grownBy w' (some R) ∧ ∃ u, e = .returned (.agg #[.int .i64 s.size, u]) ∧ NRels w' w.heap.size u s.rels := by
  obtain ⟨hg, h⟩ := h
  rw [List.drop_zero, ht] at h
  exact ⟨hg, h⟩

/-- The world after Parse's boxes. -/
abbrev boxed (w : World) (text : ByteArray) : World :=
  ((w.alloc (.cells #[.int .i64 0, .slice none 0 0] 24)).alloc (.cells #[.int .i64 0] 36)).alloc (.cells #[.string text, .int .i64 0] 117)

set_option maxRecDepth 100000 in
set_option maxHeartbeats 400000 in
theorem parse_any (text : ByteArray) (w : World) (hs : text.size ≤ 140737488351232) (hv : Vars w) (hw : 5 ≤ w.heap.size) :
    Calls Tryd.prog 50 #[.string text] w (ParsePost text w) := by
  have hmf : ∀ (fn : Fn) (first cap : Array Value) (w : World), (Instr.makeFunc fn first cap).run Tryd.prog w = .ok (.func fn first cap) w := fun _ _ _ _ => rfl
  by_cases hbig : 40000 < text.size
  · have hbad : parseP text.toList = none := by unfold parseP; rw [if_pos (by rw [length_bytes]; exact hbig)]
    have Hbad := Lib.hid hbad; clear hbad
    go_enter_defers Tryd.func50, Tryd.ntmps50
    go_wp2
    refine ⟨.tuple #[.agg #[.int .i64 0, .slice none 0 0], .int .i64 3], ?_, .bad Hbad.out (((Below.refl _ _).alloc (Nat.le_refl _) _).alloc (by simp) _)⟩
    simp [results, Tryd.results50, Tryd.f50, go_sem]
  · have hnb : ¬ 40000 < text.toList.length := by rw [length_bytes]; exact hbig
    have hcall : ∀ W : World, Rdr W (w.heap.size + 2) text 0 → Vars W → w.heap.size + 2 < W.heap.size → _ := fun W h1 h2 h3 => structure_any (w.heap.size + 2) 0 text W h1 (by omega) (by omega) h2 (by omega) (by omega) h3
    have hb0 : Blk (boxed w text) w.heap.size 24 #[.int .i64 0, .slice none 0 0] := Blk.alloc (Blk.alloc (Blk.new w _ _) _) _
    have hb1 : Blk (boxed w text) (w.heap.size + 1) 36 #[.int .i64 0] := by
      have h := Blk.new (w.alloc (.cells #[.int .i64 0, .slice none 0 0] 24)) 36 #[.int .i64 0]
      rw [World.size_alloc] at h
      exact Blk.alloc h _
    have hb2 : Rdr (boxed w text) (w.heap.size + 2) text 0 := by
      have h := Blk.new ((w.alloc (.cells #[.int .i64 0, .slice none 0 0] 24)).alloc (.cells #[.int .i64 0] 36)) 117 #[.string text, .int .i64 0]
      rw [World.size_alloc, World.size_alloc] at h
      exact h
    have hbel : Below w.heap.size w (boxed w text) := (((Below.refl _ _).alloc (Nat.le_refl _) _).alloc (by simp) _).alloc (by simp; omega) _
    have hbs : (boxed w text).heap.size = w.heap.size + 3 := by simp [boxed]
    have hbv : Vars (boxed w text) := hv.below hbel hw
    have Hcall := Lib.hid hcall; clear hcall
    have Hb0 := Lib.hid hb0; clear hb0
    have Hb1 := Lib.hid hb1; clear hb1
    have Hb2 := Lib.hid hb2; clear hb2
    have Hbel := Lib.hid hbel; clear hbel
    have Hbs := Lib.hid hbs; clear hbs
    have Hbv := Lib.hid hbv; clear hbv
    cases hst : strP text.toList with
    | none =>
      have hbad : parseP text.toList = none := by unfold parseP; rw [if_neg hnb, hst]
      have Hbad := Lib.hid hbad; clear hbad
      have Hst := Lib.hid hst; clear hst
      go_enter_defers Tryd.func50, Tryd.ntmps50
      go_wp2_with (go_at_call 82; refine (Hcall.out _ Hb2.out Hbv.out (Nat.lt_of_lt_of_eq (by omega) Hbs.out.symm)).mono ?_; rintro e w1 hp; obtain ⟨hg1, rfl⟩ := hp.none_ Hst.out)
      have k0 := Blk.grown Hb0.out hg1 (by simp)
      have k1 := Blk.grown Hb1.out hg1 (by simp)
      have bel1 : Below w.heap.size w w1 := Hbel.out.grown hg1 (Hbs.out ▸ Nat.le_add_right _ _) (by rintro k ⟨⟩; omega)
      refine leaves_cons (f := 81) (args := #[.pointer (some ⟨w.heap.size, 0, none⟩), .pointer (some ⟨w.heap.size + 1, 0, none⟩)]) (by simp) (by simp [go_sem]) ?_
      refine (catch_panicking w.heap.size (w.heap.size + 1) _ _ _ [] _ k0.cell0 k0.cell1 k1.cell0 (Blk.frozen k0 0) (Blk.frozen k0 1) (Blk.frozen k1 0) (by omega)).mono ?_
      rintro e u' w'' ⟨rfl, rfl, rfl⟩
      have z0 := ((Blk.set_ k0 0 (.int .i64 0)).set_ 1 (.slice none 0 0)).far (p := ⟨w.heap.size + 1, 0, none⟩) (by simp) (.int .i64 3)
      have z1 := ((k1.far (p := ⟨w.heap.size, 0, none⟩) (by simp) (.int .i64 0)).far (p := ⟨w.heap.size, 1, none⟩) (by simp) (.slice none 0 0)).set_ 0 (.int .i64 3)
      have c0 := Blk.cell z0 0
      have c1 := Blk.cell z0 1
      have c2 := Blk.cell z1 0
      simp at c0 c1 c2
      have bel2 : Below w.heap.size w (((w1.setCell ⟨w.heap.size, 0, none⟩ (.int .i64 0)).setCell ⟨w.heap.size, 1, none⟩ (.slice none 0 0)).setCell ⟨w.heap.size + 1, 0, none⟩ (.int .i64 3)) := ((bel1.setCell (Nat.le_refl _) _).setCell (Nat.le_refl _) _).setCell (Nat.le_succ _) _
      have hpost := ParsePost.bad Hbad.out bel2
      have Hpost := Lib.hid hpost; clear hpost
      refine ⟨_, ?_, Hpost.out⟩
      simp [results, Tryd.results50, Tryd.f50, go_sem, c0, c1, c2]
    | some s =>
      cases hvb : Sh.validB s
      · have hbad : parseP text.toList = none := by unfold parseP; rw [if_neg hnb, hst]; simp [hvb]
        have Hbad := Lib.hid hbad; clear hbad
        have Hst := Lib.hid hst; clear hst
        have Hvb := Lib.hid hvb; clear hvb
        go_enter_defers Tryd.func50, Tryd.ntmps50
        go_wp2_with (first
          | (go_at_call 82
             refine (Hcall.out _ Hb2.out Hbv.out (Nat.lt_of_lt_of_eq (by omega) Hbs.out.symm)).mono ?_
             rintro e w1 hp
             obtain ⟨hg1, u, rfl, hu1⟩ := hp.some_ Hst.out
             clear hp
             obtain ⟨UA, UN, UC, rfl⟩ := hu1.shape
             have k0 := Blk.grown Hb0.out hg1 (by simp)
             have k1 := Blk.grown Hb1.out hg1 (by simp)
             have bel1 : Below w.heap.size w w1 := Hbel.out.grown hg1 (Hbs.out ▸ Nat.le_add_right _ _) (by rintro k ⟨⟩; omega)
             have f00 := Blk.frozen k0 0
             have f01 := Blk.frozen k0 1
             have d00 := k0.cell0
             have d01 := k0.cell1
             have f02 : ∀ v, (w1.setCell ⟨w.heap.size, 0, none⟩ v).frozen? ⟨w.heap.size, 1, none⟩ = false := fun v => Blk.frozen (Blk.set_ k0 0 v) 1
             have d02 : ∀ v, (w1.setCell ⟨w.heap.size, 0, none⟩ v).cell? ⟨w.heap.size, 1, none⟩ = some (.slice none 0 0) := fun v => (Blk.cell (Blk.set_ k0 0 v) 1).trans (by simp)
             have Hg1 := Lib.hid hg1; clear hg1
             have Hu1 := Lib.hid hu1; clear hu1
             have K0 := Lib.hid k0; clear k0
             have K1 := Lib.hid k1; clear k1
             have Bel1 := Lib.hid bel1; clear bel1)
          | (go_at_call 16
             have k02 := ((Blk.set_ K0.out 0 (.int .i64 s.size)).set_ 1 (.slice UA UN UC))
             have k12 := ((K1.out.far (p := ⟨w.heap.size, 0, none⟩) (by simp) (.int .i64 s.size)).far (p := ⟨w.heap.size, 1, none⟩) (by simp) (.slice UA UN UC))
             have bel2 := (Bel1.out.setCell (p := ⟨w.heap.size, 0, none⟩) (Nat.le_refl _) (.int .i64 s.size)).setCell (p := ⟨w.heap.size, 1, none⟩) (Nat.le_refl _) (.slice UA UN UC)
             have hu2 := (Hu1.out.keep (Keeps.setCell (p := ⟨w.heap.size, 0, none⟩) K0.out (by decide) (.int .i64 s.size))).keep (Keeps.setCell (p := ⟨w.heap.size, 1, none⟩) (Blk.set_ K0.out 0 (.int .i64 s.size)) (by decide) (.slice UA UN UC))
             clear f00 f01 d00 d01 f02 d02
             generalize ((w1.setCell ⟨w.heap.size, 0, none⟩ (.int .i64 s.size)).setCell ⟨w.heap.size, 1, none⟩ (.slice UA UN UC)) = w2 at k02 k12 bel2 hu2 ⊢
             simp at k02
             refine (valid_any s.size (.slice UA UN UC) s.rels w2 _ (Nat.le_refl _) hu2.rels).mono ?_
             rintro e w3 ⟨rfl, hb3⟩
             have k0 := Blk.below k02 hb3 (Blk.lt k02)
             have k1 := Blk.below k12 hb3 (Blk.lt k12)
             have bel3 := bel2.trans (hb3.mono bel2.size)
             have hu3 := hu2.keep (Keeps.of_below hb3)
             have hvb' : Sh.validB ⟨s.size, s.rels⟩ = false := Hvb.out
             rw [hvb']
             clear k02 k12 bel2 hu2 hb3 hvb'
             have f00 := Blk.frozen k0 0
             have d00 := k0.cell0
             have d01 := k0.cell1
             have f02 : ∀ v, (w3.setCell ⟨w.heap.size, 0, none⟩ v).frozen? ⟨w.heap.size, 1, none⟩ = false := fun v => Blk.frozen (Blk.set_ k0 0 v) 1
             have d02 : ∀ v, (w3.setCell ⟨w.heap.size, 0, none⟩ v).cell? ⟨w.heap.size, 1, none⟩ = some (.slice UA UN UC) := fun v => (Blk.cell (Blk.set_ k0 0 v) 1).trans (by simp)
             have f03 : ∀ v u, ((w3.setCell ⟨w.heap.size, 0, none⟩ v).setCell ⟨w.heap.size, 1, none⟩ u).frozen? ⟨w.heap.size + 1, 0, none⟩ = false := fun v u => Blk.frozen ((Blk.far k1 (p := ⟨w.heap.size, 0, none⟩) (by simp) v).far (p := ⟨w.heap.size, 1, none⟩) (by simp) u) 0
             have d03 : ∀ v u, ((w3.setCell ⟨w.heap.size, 0, none⟩ v).setCell ⟨w.heap.size, 1, none⟩ u).cell? ⟨w.heap.size + 1, 0, none⟩ = some (.int .i64 0) := fun v u => ((Blk.far k1 (p := ⟨w.heap.size, 0, none⟩) (by simp) v).far (p := ⟨w.heap.size, 1, none⟩) (by simp) u).cell0
             have Hu3 := Lib.hid hu3; clear hu3
             have K0 := Lib.hid k0; clear k0
             have K1 := Lib.hid k1; clear k1
             have Bel3 := Lib.hid bel3; clear bel3))
        have k0 := K0.out
        have k1 := K1.out
        have bel2 := Bel3.out
        refine leaves_cons (f := 81) (args := #[.pointer (some ⟨w.heap.size, 0, none⟩), .pointer (some ⟨w.heap.size + 1, 0, none⟩)]) (by simp) (by simp [go_sem]) ?_
        refine (catch_panicking w.heap.size (w.heap.size + 1) _ _ _ [] _ k0.cell0 k0.cell1 k1.cell0 (Blk.frozen k0 0) (Blk.frozen k0 1) (Blk.frozen k1 0) (by omega)).mono ?_
        rintro e u' w'' ⟨rfl, rfl, rfl⟩
        have z0 := ((Blk.set_ k0 0 (.int .i64 0)).set_ 1 (.slice none 0 0)).far (p := ⟨w.heap.size + 1, 0, none⟩) (by simp) (.int .i64 3)
        have z1 := ((k1.far (p := ⟨w.heap.size, 0, none⟩) (by simp) (.int .i64 0)).far (p := ⟨w.heap.size, 1, none⟩) (by simp) (.slice none 0 0)).set_ 0 (.int .i64 3)
        have c0 := Blk.cell z0 0
        have c1 := Blk.cell z0 1
        have c2 := Blk.cell z1 0
        simp at c0 c1 c2
        have bel3 := ((bel2.setCell (p := ⟨w.heap.size, 0, none⟩) (Nat.le_refl _) (.int .i64 0)).setCell (p := ⟨w.heap.size, 1, none⟩) (Nat.le_refl _) (.slice none 0 0)).setCell (p := ⟨w.heap.size + 1, 0, none⟩) (Nat.le_succ _) (.int .i64 3)
        have hpost := ParsePost.bad Hbad.out bel3
        have Hpost := Lib.hid hpost; clear hpost
        refine ⟨_, ?_, Hpost.out⟩
        simp [results, Tryd.results50, Tryd.f50, go_sem, c0, c1, c2]
      · have hgood : parseP text.toList = some s := by unfold parseP; rw [if_neg hnb, hst]; simp [hvb]
        have Hgood := Lib.hid hgood; clear hgood
        have Hst := Lib.hid hst; clear hst
        have Hvb := Lib.hid hvb; clear hvb
        go_enter_defers Tryd.func50, Tryd.ntmps50
        go_wp2_with (first
          | (go_at_call 82
             refine (Hcall.out _ Hb2.out Hbv.out (Nat.lt_of_lt_of_eq (by omega) Hbs.out.symm)).mono ?_
             rintro e w1 hp
             obtain ⟨hg1, u, rfl, hu1⟩ := hp.some_ Hst.out
             clear hp
             obtain ⟨UA, UN, UC, rfl⟩ := hu1.shape
             have k0 := Blk.grown Hb0.out hg1 (by simp)
             have k1 := Blk.grown Hb1.out hg1 (by simp)
             have bel1 : Below w.heap.size w w1 := Hbel.out.grown hg1 (Hbs.out ▸ Nat.le_add_right _ _) (by rintro k ⟨⟩; omega)
             have f00 := Blk.frozen k0 0
             have f01 := Blk.frozen k0 1
             have d00 := k0.cell0
             have d01 := k0.cell1
             have f02 : ∀ v, (w1.setCell ⟨w.heap.size, 0, none⟩ v).frozen? ⟨w.heap.size, 1, none⟩ = false := fun v => Blk.frozen (Blk.set_ k0 0 v) 1
             have d02 : ∀ v, (w1.setCell ⟨w.heap.size, 0, none⟩ v).cell? ⟨w.heap.size, 1, none⟩ = some (.slice none 0 0) := fun v => (Blk.cell (Blk.set_ k0 0 v) 1).trans (by simp)
             have Hg1 := Lib.hid hg1; clear hg1
             have Hu1 := Lib.hid hu1; clear hu1
             have K0 := Lib.hid k0; clear k0
             have K1 := Lib.hid k1; clear k1
             have Bel1 := Lib.hid bel1; clear bel1)
          | (go_at_call 16
             have k02 := ((Blk.set_ K0.out 0 (.int .i64 s.size)).set_ 1 (.slice UA UN UC))
             have k12 := ((K1.out.far (p := ⟨w.heap.size, 0, none⟩) (by simp) (.int .i64 s.size)).far (p := ⟨w.heap.size, 1, none⟩) (by simp) (.slice UA UN UC))
             have bel2 := (Bel1.out.setCell (p := ⟨w.heap.size, 0, none⟩) (Nat.le_refl _) (.int .i64 s.size)).setCell (p := ⟨w.heap.size, 1, none⟩) (Nat.le_refl _) (.slice UA UN UC)
             have hu2 := (Hu1.out.keep (Keeps.setCell (p := ⟨w.heap.size, 0, none⟩) K0.out (by decide) (.int .i64 s.size))).keep (Keeps.setCell (p := ⟨w.heap.size, 1, none⟩) (Blk.set_ K0.out 0 (.int .i64 s.size)) (by decide) (.slice UA UN UC))
             clear f00 f01 d00 d01 f02 d02
             generalize ((w1.setCell ⟨w.heap.size, 0, none⟩ (.int .i64 s.size)).setCell ⟨w.heap.size, 1, none⟩ (.slice UA UN UC)) = w2 at k02 k12 bel2 hu2 ⊢
             simp at k02
             refine (valid_any s.size (.slice UA UN UC) s.rels w2 _ (Nat.le_refl _) hu2.rels).mono ?_
             rintro e w3 ⟨rfl, hb3⟩
             have k0 := Blk.below k02 hb3 (Blk.lt k02)
             have k1 := Blk.below k12 hb3 (Blk.lt k12)
             have bel3 := bel2.trans (hb3.mono bel2.size)
             have hu3 := hu2.keep (Keeps.of_below hb3)
             have hvb' : Sh.validB ⟨s.size, s.rels⟩ = true := Hvb.out
             rw [hvb']
             clear k02 k12 bel2 hu2 hb3 hvb'
             have f00 := Blk.frozen k0 0
             have d00 := k0.cell0
             have d01 := k0.cell1
             have f02 : ∀ v, (w3.setCell ⟨w.heap.size, 0, none⟩ v).frozen? ⟨w.heap.size, 1, none⟩ = false := fun v => Blk.frozen (Blk.set_ k0 0 v) 1
             have d02 : ∀ v, (w3.setCell ⟨w.heap.size, 0, none⟩ v).cell? ⟨w.heap.size, 1, none⟩ = some (.slice UA UN UC) := fun v => (Blk.cell (Blk.set_ k0 0 v) 1).trans (by simp)
             have f03 : ∀ v u, ((w3.setCell ⟨w.heap.size, 0, none⟩ v).setCell ⟨w.heap.size, 1, none⟩ u).frozen? ⟨w.heap.size + 1, 0, none⟩ = false := fun v u => Blk.frozen ((Blk.far k1 (p := ⟨w.heap.size, 0, none⟩) (by simp) v).far (p := ⟨w.heap.size, 1, none⟩) (by simp) u) 0
             have d03 : ∀ v u, ((w3.setCell ⟨w.heap.size, 0, none⟩ v).setCell ⟨w.heap.size, 1, none⟩ u).cell? ⟨w.heap.size + 1, 0, none⟩ = some (.int .i64 0) := fun v u => ((Blk.far k1 (p := ⟨w.heap.size, 0, none⟩) (by simp) v).far (p := ⟨w.heap.size, 1, none⟩) (by simp) u).cell0
             have Hu3 := Lib.hid hu3; clear hu3
             have K0 := Lib.hid k0; clear k0
             have K1 := Lib.hid k1; clear k1
             have Bel3 := Lib.hid bel3; clear bel3))
        refine leaves_cons (f := 81) (args := #[.pointer (some ⟨w.heap.size, 0, none⟩), .pointer (some ⟨w.heap.size + 1, 0, none⟩)]) (by simp) (by simp [go_sem]) ?_
        refine (catch_idle w.heap.size (w.heap.size + 1) _).mono ?_
        rintro e u' w'' ⟨rfl, rfl, rfl⟩
        have k03 := ((Blk.set_ K0.out 0 (.int .i64 s.size)).set_ 1 (.slice UA UN UC))
        have k13 := ((K1.out.far (p := ⟨w.heap.size, 0, none⟩) (by simp) (.int .i64 s.size)).far (p := ⟨w.heap.size, 1, none⟩) (by simp) (.slice UA UN UC))
        have z0 := k03.far (p := ⟨w.heap.size + 1, 0, none⟩) (by simp) (.int .i64 0)
        have z1 := k13.set_ 0 (.int .i64 0)
        have c0 := Blk.cell z0 0
        have c1 := Blk.cell z0 1
        have c2 := Blk.cell z1 0
        simp at c0 c1 c2
        have bel4 := ((Bel3.out.setCell (p := ⟨w.heap.size, 0, none⟩) (Nat.le_refl _) (.int .i64 s.size)).setCell (p := ⟨w.heap.size, 1, none⟩) (Nat.le_refl _) (.slice UA UN UC)).setCell (p := ⟨w.heap.size + 1, 0, none⟩) (Nat.le_succ _) (.int .i64 0)
        have hu4 := ((Hu3.out.keep (Keeps.setCell (p := ⟨w.heap.size, 0, none⟩) K0.out (by decide) (.int .i64 s.size))).keep (Keeps.setCell (p := ⟨w.heap.size, 1, none⟩) (Blk.set_ K0.out 0 (.int .i64 s.size)) (by decide) (.slice UA UN UC))).keep (Keeps.setCell (p := ⟨w.heap.size + 1, 0, none⟩) k13 (by decide) (.int .i64 0))
        have hpost := ParsePost.ok Hgood.out bel4 (hu4.more (Hbs.out ▸ Nat.le_add_right _ _))
        have Hpost := Lib.hid hpost; clear hpost
        refine ⟨_, ?_, Hpost.out⟩
        simp [results, Tryd.results50, Tryd.f50, go_sem, c0, c1, c2]


end Go.Proofs.YtbddchonhicpiaaDoor
