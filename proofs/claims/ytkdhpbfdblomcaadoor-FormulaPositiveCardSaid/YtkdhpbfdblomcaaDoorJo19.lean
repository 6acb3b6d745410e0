/-
  Texts joined: Ffacts, Fposl, Fposm, Fclose, Fargs.
-/
import Derived.Test.YtkdhpbfdblomcaaDoorJo17
import Derived.Test.YtkdhpbfdblomcaaDoorJo18
import Derived.Test.YtkdhpbfdblomcaaDoorJo4
import Derived.Test.YtkdhpbfdblomcaaDoorCards
import Derived.Test.YtkdhpbfdblomcaaDoorTie
import Derived.WalkKit
import Derived.ProofKit
import Derived.OpenShut
import Derived.Deep.DeepHandedRow
import Derived.Deep.DeepWitnessRowRef
import Derived.Stop.LaidErr
import Derived.Lay
import Derived.Carry
import Derived.SizedLaws
import Derived.ChangeSlices
import Derived.Lib.SmallJoins
import Derived.Deep.Strs

/-
  What the queries of package formula return of a valid formula, in the words of the plain mathematics.
-/
namespace Go.Proofs.YtkdhpbfdblomcaaDoor
open Go.RowKit
open Fo (F St getM)

theorem fitK : ∀ (a : Int) (n : ByteArray) (vs as_ : List ByteArray) (k : Nat), Fo.fitP 0 a n vs as_ k = true → k = 0 := fun _ _ _ _ _ h => Fo.fit_kids h
theorem look_valid {f : FB} : (Fo.lookF Fo.fitP f).isSome = true ↔ Fo.Valid Fo.fitP f := by
  constructor
  · intro h
    refine Classical.byContradiction fun hn => ?_
    rw [Fo.look_none fitK hn] at h
    cases h
  · intro h
    obtain ⟨sy, fr, e, -⟩ := Fo.look_some fitK h
    rw [e]; rfl
theorem look_bool {f : FB} (b : Bool) (h : b = true ↔ Fo.Valid Fo.fitP f) : (Fo.lookF Fo.fitP f).isSome = b := by
  cases b
  · cases e : (Fo.lookF Fo.fitP f).isSome
    · rfl
    · exact absurd (h.2 (look_valid.1 e)) (by simp)
  · exact look_valid.2 (h.1 rfl)

mutual
theorem free_small {x : ByteArray} : ∀ (f : FB), Fo.shapes Fo.fitP f = true → Fo.freeB x f = true → x.size ≤ 12
  | .mk k a n vs ar ks, hs, h => by
    rw [Fo.shapes, Bool.and_eq_true] at hs
    rw [Fo.freeB, Bool.or_eq_true, Bool.and_eq_true] at h
    rcases h with h | ⟨-, h⟩
    · exact (fit_facts hs.1).2.2.2 x (of_decide_eq_true h)
    · exact freeL_small ks hs.2 h
theorem freeL_small {x : ByteArray} : ∀ (l : List FB), Fo.shapesL Fo.fitP l = true → Fo.freeLB x l = true → x.size ≤ 12
  | [], _, h => by rw [Fo.freeLB] at h; cases h
  | f :: l, hs, h => by
    rw [Fo.shapesL, Bool.and_eq_true] at hs
    rw [Fo.freeLB, Bool.or_eq_true] at h
    rcases h with h | h
    · exact free_small f hs.1 h
    · exact freeL_small l hs.2 h
end
mutual
theorem occ_small : ∀ (f : FB) (bd : List ByteArray), Fo.shapes Fo.fitP f = true → ∀ o ∈ Fo.occF f bd, o.1.size ≤ 12
  | .mk k a n vs ar ks, bd, hs, o, h => by
    rw [Fo.shapes, Bool.and_eq_true] at hs
    rw [Fo.occF] at h
    by_cases hk : k = 0
    · rw [if_pos hk] at h
      split at h
      · cases h
      · rw [List.mem_singleton] at h
        subst h hk
        have h2 := hs.1
        simp only [Fo.fitP, Bool.and_eq_true] at h2
        have h3 := h2.1.1.1.2
        simp only [Fo.namedB, if_neg (show ¬ (0 : Int) = 11 by decide), true_or, if_true, Bool.and_eq_true] at h3
        exact nmB_size h3.1
    · rw [if_neg hk] at h
      exact occL_small ks _ hs.2 o h
theorem occL_small : ∀ (l : List FB) (bd : List ByteArray), Fo.shapesL Fo.fitP l = true → ∀ o ∈ Fo.occFL l bd, o.1.size ≤ 12
  | [], bd, _, o, h => by rw [Fo.occFL] at h; cases h
  | f :: l, bd, hs, o, h => by
    rw [Fo.shapesL, Bool.and_eq_true] at hs
    rw [Fo.occFL, List.mem_append] at h
    rcases h with h | h
    · exact occ_small f bd hs.1 o h
    · exact occL_small l bd hs.2 o h
end

/-- A row of strings that the call owns. -/
def OwnStrs (w : World) (L : Nat) (v : Value) (l : List ByteArray) : Prop := w.ownsRow L 9 1 v l.length (l.map Value.string)
/-- What Free returns. -/
def FreeOk (f : FB) (w : World) (e : Ending) (w' : World) : Prop :=
  Below w.heap.size w w' ∧ ∃ v l, e = .returned v ∧ NStrs w' w.heap.size v l ∧ OwnStrs w' w.heap.size v l ∧ l.Pairwise (fun a b => a.toList < b.toList) ∧ (∀ x, x ∈ l ↔ Fo.freeB x f = true) ∧ l.length ≤ 1000000 ∧ (v = .slice none 0 0 ↔ l = [])
theorem free_ok {f : FB} {w w' : World} {e : Ending} (hv : Fo.Valid Fo.fitP f) (h : FreePost f w e w') : FreeOk f w e w' := by
  obtain ⟨hb, v, l, rfl, ho, hl, hnil, -, hr⟩ := h
  obtain ⟨sy, fr, e, -, -, hfr⟩ := Fo.look_some fitK hv
  obtain ⟨hp, hm⟩ := hr _ e
  have hm' : ∀ x, x ∈ l ↔ Fo.freeB x f = true := fun x => by
    rw [hm x, ← hfr x]
    unfold freG
    constructor
    · rintro ⟨h1, -⟩
      by_cases hx : x ∈ fr
      · exact hx
      · rw [if_neg hx] at h1; cases h1
    · intro hx
      rw [if_pos hx]
      refine ⟨rfl, ?_⟩
      have := free_small f hv.2.2.1 ((hfr x).1 hx)
      unfold maxLen; omega
  exact ⟨hb, v, l, rfl, NStrs.own ho hl (fun s hs => by have := free_small f hv.2.2.1 ((hm' s).1 hs); omega), ho, hp, hm', hl, hnil⟩

theorem symC_at (s : St ByteArray) : ∀ (l : List ByteArray) (j : Nat) (x : ByteArray), l[j]? = some x → (l.flatMap (symC s))[j * 2]? = some (.string x) ∧ (l.flatMap (symC s))[j * 2 + 1]? = some (.int .i64 (arI s x))
  | [], j, r, h => by simp at h
  | x :: l, 0, r, h => by simp at h; subst h; exact ⟨rfl, rfl⟩
  | x :: l, j + 1, r, h => by
    have h1 := symC_at s l j r (by simpa using h)
    rw [List.flatMap_cons, show (j + 1) * 2 = 2 + j * 2 by omega, show 2 + j * 2 + 1 = 2 + (j * 2 + 1) by omega]
    rw [List.getElem?_append_right (by simp [symC]), List.getElem?_append_right (by simp [symC])]
    simpa [symC] using h1
def symL (s : St ByteArray) (l : List ByteArray) : List (ByteArray × Int) := l.map fun x => (x, arI s x)
theorem syms_own {w : World} {base : Nat} {v : Value} {s : St ByteArray} {l : List ByteArray} (h : w.ownsRow base 47 2 v l.length (l.flatMap (symC s))) (hm : l.length ≤ 1000000) : Syms w w.heap.size v (symL s l) := by
  obtain ⟨A, c, rfl⟩ := own_slice h
  have hr := Reads.of_own h
  refine ⟨A, l.length, c, rfl, by simp [symL], by omega, fun h0 => ?_⟩
  obtain ⟨ad, hA, hb, hc⟩ := hr.2 h0
  refine ⟨ad, hA, hb, fun j p hp => ?_⟩
  unfold symL at hp
  rw [List.getElem?_map] at hp
  obtain ⟨x, hx, rfl⟩ := Option.map_eq_some_iff.1 hp
  obtain ⟨h1, h2⟩ := symC_at s l j x hx
  exact ⟨hc _ _ h1, hc _ _ h2⟩
/-- What Symbols returns. -/
def SymOk (f : FB) (w : World) (e : Ending) (w' : World) : Prop :=
  Below w.heap.size w w' ∧ ∃ v ss, e = .returned v ∧ Syms w' w'.heap.size v ss ∧ ss.Pairwise (fun a b => a.1.toList < b.1.toList) ∧ (∀ p, p ∈ ss ↔ p ∈ Fo.occF f []) ∧ ss.length ≤ 1000000 ∧ ∃ s l, ss = symL s l ∧ w'.ownsRow w.heap.size 47 2 v l.length (l.flatMap (symC s))
theorem sym_ok {f : FB} {w w' : World} {e : Ending} (hv : Fo.Valid Fo.fitP f) (h : SymPost f w e w') : SymOk f w e w' := by
  obtain ⟨hb, v, rfl, -, hr⟩ := h
  obtain ⟨sy, fr, e, hs, -, -⟩ := Fo.look_some fitK hv
  obtain ⟨l, hl, ⟨hp, hm⟩, ho⟩ := hr _ e
  refine ⟨hb, v, symL _ l, rfl, syms_own ho hl, ?_, fun p => ?_, by simpa [symL] using hl, _, l, rfl, ho⟩
  · unfold symL
    rw [List.pairwise_map]
    exact hp
  · have hocc := Fo.occP_occF f [] 0 0
    unfold symL
    rw [List.mem_map]
    constructor
    · rintro ⟨x, hx, rfl⟩
      have hg := ((hm x).1 hx).1
      unfold symG at hg
      cases hg2 : getM x sy with
      | none => rw [hg2] at hg; cases hg
      | some u =>
        have hk : x ∈ Fo.keysM sy := Classical.byContradiction fun hn => by rw [Fo.getM_none.2 hn] at hg2; cases hg2
        obtain ⟨o, ho1, rfl⟩ := (hs.keys x).1 hk
        have ha := hs.arity _ u hg2 o ho1 rfl
        rw [← hocc]
        refine List.mem_map.2 ⟨o, ho1, ?_⟩
        unfold arI
        rw [hg2, ha]
    · intro h
      have h' := h
      rw [← hocc] at h
      obtain ⟨o, ho1, rfl⟩ := List.mem_map.1 h
      have hk : o.1 ∈ Fo.keysM sy := (hs.keys _).2 ⟨o, ho1, rfl⟩
      cases hg2 : getM o.1 sy with
      | none => exact absurd hk (Fo.getM_none.1 hg2)
      | some u =>
        have ha := hs.arity _ u hg2 o ho1 rfl
        refine ⟨o.1, (hm _).2 ⟨by unfold symG; rw [hg2]; rfl, ?_⟩, ?_⟩
        · have := occ_small f [] hv.2.2.1 _ h'
          unfold maxLen; simp only at this; omega
        · unfold arI
          rw [hg2, ha]
theorem pos_ok {f : FB} {nm : ByteArray} {w w' : World} {e : Ending} (hv : Fo.Valid Fo.fitP f) (h : PosPost f nm w e w') : e = .returned (.tuple #[.bool (Fo.posF f nm false false), .int .i64 0]) ∧ Below w.heap.size w w' := by
  obtain ⟨hb, -, hr⟩ := h
  obtain ⟨sy, fr, e, hs, -, -⟩ := Fo.look_some fitK hv
  rw [hr _ e, Fo.look_pos hs nm]
  exact ⟨rfl, hb⟩
theorem size_ok {f : FB} (hv : Fo.Valid Fo.fitP f) : ((Fo.lookF Fo.fitP f).map (·.size)).getD 0 = Fo.size f := by
  obtain ⟨sy, fr, e, -, -, -⟩ := Fo.look_some fitK hv
  rw [e]; rfl
theorem depth_ok {f : FB} (hv : Fo.Valid Fo.fitP f) : ((Fo.lookF Fo.fitP f).map (·.depth)).getD 0 = Fo.depth f := by
  obtain ⟨sy, fr, e, -, -, -⟩ := Fo.look_some fitK hv
  rw [e]; rfl

end Go.Proofs.YtkdhpbfdblomcaaDoor

/-
  Walk: FormulaPositive.
-/
namespace Go.Proofs.YtkdhpbfdblomcaaDoor
open Go.RowKit
open Fo (F)

abbrev fObj (x0 x1 x2 x3 x4 x5 : Value) : Obj := .cells #[x0, x1, x2, x3, x4, x5] 31

/-- What a law's walk keeps: the argument's box, the words, and what lay there before. -/
structure PK (w : World) (x0 x1 x2 x3 x4 x5 : Value) (W : World) : Prop where
  bx : Bx w w.heap.size 31 #[x0, x1, x2, x3, x4, x5] W
  wds : HasW W
section
variable {w W W' : World} {x0 x1 x2 x3 x4 x5 : Value}
theorem PK.start (hw : HasW w) : PK w x0 x1 x2 x3 x4 x5 (w.alloc (.cells #[x0, x1, x2, x3, x4, x5] 31)) :=
  ⟨Bx.new w _ _, hw.below ((Below.refl _ _).alloc (Nat.le_refl _) _) (Nat.le_refl _)⟩
theorem PK.step (h : PK w x0 x1 x2 x3 x4 x5 W) (hb : Below W.heap.size W W') : PK w x0 x1 x2 x3 x4 x5 W' := ⟨h.bx.step hb, h.wds.below hb (Nat.le_refl _)⟩
theorem PK.alloc (h : PK w x0 x1 x2 x3 x4 x5 W) (o : Obj) : PK w x0 x1 x2 x3 x4 x5 (W.alloc o) := h.step ((Below.refl _ _).alloc (Nat.le_refl _) o)
theorem PK.six (h : PK w x0 x1 x2 x3 x4 x5 W) : W.cell? ⟨w.heap.size, 0, none⟩ = some x0 ∧ W.cell? ⟨w.heap.size, 1, none⟩ = some x1 ∧ W.cell? ⟨w.heap.size, 2, none⟩ = some x2 ∧ W.cell? ⟨w.heap.size, 3, none⟩ = some x3 ∧ W.cell? ⟨w.heap.size, 4, none⟩ = some x4 ∧ W.cell? ⟨w.heap.size, 5, none⟩ = some x5 := h.bx.six
theorem PK.val {f : FB} (h : PK w x0 x1 x2 x3 x4 x5 W) (hf : FVal w (· < w.heap.size) f [x0, x1, x2, x3, x4, x5]) : FVal W (· < w.heap.size) f [x0, x1, x2, x3, x4, x5] := hf.below h.bx.bel
end

theorem few_call (most : Int) {f : FB} {x0 x1 x2 x3 x4 x5 : Value} {w : World} (hf : FVal w (· < w.heap.size) f [x0, x1, x2, x3, x4, x5]) :
    Calls Tryd.prog 11 #[.int .i64 most, .slice (some ⟨w.heap.size + 1, 0, none⟩) 1 1] ((w.alloc (.cells #[x0, x1, x2, x3, x4, x5] 31)).alloc (.cells #[x0, x1, x2, x3, x4, x5] 31))
      fun e w' => IsBool e ∧ Below ((w.alloc (.cells #[x0, x1, x2, x3, x4, x5] 31)).alloc (.cells #[x0, x1, x2, x3, x4, x5] 31)).heap.size ((w.alloc (.cells #[x0, x1, x2, x3, x4, x5] 31)).alloc (.cells #[x0, x1, x2, x3, x4, x5] 31)) w' := by
  have hb : Below w.heap.size w ((w.alloc (.cells #[x0, x1, x2, x3, x4, x5] 31)).alloc (.cells #[x0, x1, x2, x3, x4, x5] 31)) := ((Below.refl _ _).alloc (Nat.le_refl _) _).alloc (by simp) _
  have hn := Blk.new (w.alloc (.cells #[x0, x1, x2, x3, x4, x5] 31)) 31 #[x0, x1, x2, x3, x4, x5]
  rw [World.size_alloc] at hn
  exact few1_any most f (w.heap.size + 1) x0 x1 x2 x3 x4 x5 w.heap.size _ hb.size (hf.below hb) hn

set_option maxRecDepth 100000 in
set_option maxHeartbeats 1000000 in
theorem fposl_bad (f : FB) (k a : Int) (n : ByteArray) (A3 : Option Addr) (n3 c3 : Nat) (A4 : Option Addr) (n4 c4 : Nat) (A : Option Addr) (m c : Nat) (nm : ByteArray) (w : World) (hf : FVal w (· < w.heap.size) f [.int .i64 k, .int .i64 a, .string n, .slice A3 n3 c3, .slice A4 n4 c4, .slice A m c])
    (hnm : nm.size ≤ 140737488351232) (hw : HasW w) (hv : (Fo.lookF Fo.fitP f).isSome = false) :
    Calls Tryd.prog 6 #[.agg #[.int .i64 k, .int .i64 a, .string n, .slice A3 n3 c3, .slice A4 n4 c4, .slice A m c], .string nm] w fun e w' => e = .returned (.bool true) ∧ Below w.heap.size w w' := by
  have Hfew := Lib.hid (few_call 600 hf)
  have Hk0 := Lib.hid (PK.start (x0 := .int .i64 k) (x1 := .int .i64 a) (x2 := .string n) (x3 := .slice A3 n3 c3) (x4 := .slice A4 n4 c4) (x5 := .slice A m c) hw)
  have Hf := Lib.hid hf; clear hf
  have hval := fun W (hk : PK w (.int .i64 k) (.int .i64 a) (.string n) (.slice A3 n3 c3) (.slice A4 n4 c4) (.slice A m c) W) => fvalid_any f _ W w.heap.size hk.bx.bel.size (hk.val Hf.out)
  rw [hv] at hval
  have Hval := Lib.hid hval; clear hval hv
  go_enter Tryd.func6, Tryd.ntmps6
  go_wp2_with (first
    | (go_at_call 11
       refine Hfew.out.mono ?_
       rintro e w1 ⟨⟨b, rfl⟩, hb1⟩
       have K1 := Lib.hid ((Hk0.out.alloc _).step hb1); clear hb1 Hfew
       obtain ⟨e0, e1, e2, e3, e4, e5⟩ := K1.out.six
       cases b)
    | (go_at_call 12
       refine (Hval.out _ K1.out).mono ?_
       rintro e w2 ⟨rfl, hb2⟩
       have K2 := Lib.hid (K1.out.step hb2); clear hb2 K1 e0 e1 e2 e3 e4 e5)
    | (go_at_call 7
       with_reducible refine (falive_any _ K1.out.wds).mono ?_
       rintro e w5 ⟨rfl, hb5⟩
       have K5 := Lib.hid (K1.out.step hb5))
    | (go_at_call 7
       refine (falive_any _ K2.out.wds).mono ?_
       rintro e w5 ⟨rfl, hb5⟩
       have K5 := Lib.hid (K2.out.step hb5)))
  all_goals (
    go_ret
    exact ⟨rfl, K5.out.bx.bel⟩)

theorem some_valid {f : FB} (hv : Fo.Valid Fo.fitP f) : (Fo.lookF Fo.fitP f).isSome = true := look_valid.2 hv

set_option maxRecDepth 100000 in
set_option maxHeartbeats 1000000 in
theorem fposl_big (f : FB) (k a : Int) (n : ByteArray) (A3 : Option Addr) (n3 c3 : Nat) (A4 : Option Addr) (n4 c4 : Nat) (A : Option Addr) (m c : Nat) (nm : ByteArray) (w : World) (hf : FVal w (· < w.heap.size) f [.int .i64 k, .int .i64 a, .string n, .slice A3 n3 c3, .slice A4 n4 c4, .slice A m c])
    (hnm : nm.size ≤ 140737488351232) (hw : HasW w) (hv : Fo.Valid Fo.fitP f) (hbig : 58 < Fo.depth f ∨ 3998 < Fo.size f) :
    Calls Tryd.prog 6 #[.agg #[.int .i64 k, .int .i64 a, .string n, .slice A3 n3 c3, .slice A4 n4 c4, .slice A m c], .string nm] w fun e w' => e = .returned (.bool true) ∧ Below w.heap.size w w' := by
  have Hfew := Lib.hid (few_call 600 hf)
  have Hk0 := Lib.hid (PK.start (x0 := .int .i64 k) (x1 := .int .i64 a) (x2 := .string n) (x3 := .slice A3 n3 c3) (x4 := .slice A4 n4 c4) (x5 := .slice A m c) hw)
  have Hf := Lib.hid hf; clear hf
  have hval := fun W (hk : PK w (.int .i64 k) (.int .i64 a) (.string n) (.slice A3 n3 c3) (.slice A4 n4 c4) (.slice A m c) W) => fvalid_any f _ W w.heap.size hk.bx.bel.size (hk.val Hf.out)
  rw [some_valid hv] at hval
  have hdep := fun W (hk : PK w (.int .i64 k) (.int .i64 a) (.string n) (.slice A3 n3 c3) (.slice A4 n4 c4) (.slice A m c) W) => fdepth_any f _ W w.heap.size hk.bx.bel.size (hk.val Hf.out)
  rw [depth_ok hv] at hdep
  have hsiz := fun W (hk : PK w (.int .i64 k) (.int .i64 a) (.string n) (.slice A3 n3 c3) (.slice A4 n4 c4) (.slice A m c) W) => fsize_any f _ W w.heap.size hk.bx.bel.size (hk.val Hf.out)
  rw [size_ok hv] at hsiz
  have hd60 := hv.2.1
  have hs40 := hv.1
  generalize Fo.depth f = dp at *
  generalize Fo.size f = sz at *
  have Hval := Lib.hid hval; clear hval
  have Hdep := Lib.hid hdep; clear hdep
  have Hsiz := Lib.hid hsiz; clear hsiz hv
  have hcase : 58 < dp ∨ (¬ 58 < dp ∧ 3998 < sz) := by omega
  clear hbig
  rcases hcase with hdp | ⟨hdp, hsz⟩
  all_goals (
    go_enter Tryd.func6, Tryd.ntmps6
    go_wp2_with (first
      | (go_at_call 11
         refine Hfew.out.mono ?_
         rintro e w1 ⟨⟨b, rfl⟩, hb1⟩
         have K1 := Lib.hid ((Hk0.out.alloc _).step hb1); clear hb1 Hfew
         obtain ⟨e0, e1, e2, e3, e4, e5⟩ := K1.out.six
         cases b)
      | (go_at_call 12
         refine (Hval.out _ K1.out).mono ?_
         rintro e w2 ⟨rfl, hb2⟩
         have K2 := Lib.hid (K1.out.step hb2); clear hb2 K1 e0 e1 e2 e3 e4 e5
         obtain ⟨e0, e1, e2, e3, e4, e5⟩ := K2.out.six)
      | (go_at_call 18
         refine (Hdep.out _ K2.out).mono ?_
         rintro e w3 ⟨rfl, hb3⟩
         have K3 := Lib.hid (K2.out.step hb3); clear hb3 K2 e0 e1 e2 e3 e4 e5
         obtain ⟨e0, e1, e2, e3, e4, e5⟩ := K3.out.six)
      | (go_at_call 19
         refine (Hsiz.out _ K3.out).mono ?_
         rintro e w4 ⟨rfl, hb4⟩
         have K4 := Lib.hid (K3.out.step hb4); clear hb4 K3 e0 e1 e2 e3 e4 e5)
      | (go_at_call 7
         with_reducible refine (falive_any _ K1.out.wds).mono ?_
         rintro e w5 ⟨rfl, hb5⟩
         have K5 := Lib.hid (K1.out.step hb5))
      | (go_at_call 7
         with_reducible refine (falive_any _ K2.out.wds).mono ?_
         rintro e w5 ⟨rfl, hb5⟩
         have K5 := Lib.hid (K2.out.step hb5))
      | (go_at_call 7
         with_reducible refine (falive_any _ K3.out.wds).mono ?_
         rintro e w5 ⟨rfl, hb5⟩
         have K5 := Lib.hid (K3.out.step hb5))
      | (go_at_call 7
         refine (falive_any _ K4.out.wds).mono ?_
         rintro e w5 ⟨rfl, hb5⟩
         have K5 := Lib.hid (K4.out.step hb5)))
    all_goals (
      go_ret
      exact ⟨rfl, K5.out.bx.bel⟩))

end Go.Proofs.YtkdhpbfdblomcaaDoor

/-
  Walk: FormulaPositive, where the formula's negations are formulas.
-/
namespace Go.Proofs.YtkdhpbfdblomcaaDoor
open Go.RowKit
open Fo (F)

abbrev notF (f : FB) : FB := .mk 3 0 ⟨#[]⟩ [] [] [f]
theorem not_val {W : World} {B K : Nat} {f : FB} {x0 x1 x2 x3 x4 x5 : Value} (hf : FVal W (· < B) f [x0, x1, x2, x3, x4, x5]) (hB : B ≤ K) (hb : Blk W K 31 #[x0, x1, x2, x3, x4, x5]) :
    FVal W (· < K + 1) (notF f) [.int .i64 3, .int .i64 0, .string ⟨#[]⟩, .slice none 0 0, .slice none 0 0, .slice (some ⟨K, 0, none⟩) 1 1] := by
  unfold FVal
  exact ⟨_, _, _, _, _, rfl, by decide, Strs.nil, Strs.nil, rfl, by omega, by omega, fun _ => ⟨_, rfl, Nat.lt_succ_self K, one_val (FVal.more (fun b h => Nat.lt_of_lt_of_le h (Nat.le_succ_of_le hB)) _ _ hf) hb⟩⟩

/-- What the walk keeps besides: the negation's kid and its box. -/
structure PN (w : World) (x0 x1 x2 x3 x4 x5 : Value) (K : Nat) (W : World) : Prop where
  pk : PK w x0 x1 x2 x3 x4 x5 W
  ge : w.heap.size ≤ K
  kid : Blk W K 31 #[x0, x1, x2, x3, x4, x5]
  no : Blk W (K + 1) 31 #[.int .i64 3, .int .i64 0, .string ⟨#[]⟩, .slice none 0 0, .slice none 0 0, .slice (some ⟨K, 0, none⟩) 1 1]
section
variable {w W W' : World} {x0 x1 x2 x3 x4 x5 : Value} {K : Nat}
theorem PN.start (h : PK w x0 x1 x2 x3 x4 x5 W) : PN w x0 x1 x2 x3 x4 x5 W.heap.size ((W.alloc (.cells #[x0, x1, x2, x3, x4, x5] 31)).alloc (.cells #[.int .i64 3, .int .i64 0, .string ⟨#[]⟩, .slice none 0 0, .slice none 0 0, .slice (some ⟨W.heap.size, 0, none⟩) 1 1] 31)) := by
  refine ⟨(h.alloc _).alloc _, h.bx.bel.size, (Blk.new W _ _).alloc _, ?_⟩
  have hn := Blk.new (W.alloc (.cells #[x0, x1, x2, x3, x4, x5] 31)) 31 #[.int .i64 3, .int .i64 0, .string ⟨#[]⟩, .slice none 0 0, .slice none 0 0, .slice (some ⟨W.heap.size, 0, none⟩) 1 1]
  rw [World.size_alloc] at hn
  exact hn
theorem PN.step (h : PN w x0 x1 x2 x3 x4 x5 K W) (hb : Below W.heap.size W W') : PN w x0 x1 x2 x3 x4 x5 K W' := ⟨h.pk.step hb, h.ge, Blk.below h.kid hb h.kid.lt, Blk.below h.no hb h.no.lt⟩
theorem PN.alloc (h : PN w x0 x1 x2 x3 x4 x5 K W) (o : Obj) : PN w x0 x1 x2 x3 x4 x5 K (W.alloc o) := h.step ((Below.refl _ _).alloc (Nat.le_refl _) o)
theorem PN.nval {f : FB} (h : PN w x0 x1 x2 x3 x4 x5 K W) (hf : FVal w (· < w.heap.size) f [x0, x1, x2, x3, x4, x5]) : FVal W (· < K + 1) (notF f) [.int .i64 3, .int .i64 0, .string ⟨#[]⟩, .slice none 0 0, .slice none 0 0, .slice (some ⟨K, 0, none⟩) 1 1] :=
  not_val (h.pk.val hf) h.ge h.kid
theorem PN.nnval {f : FB} (h : PN w x0 x1 x2 x3 x4 x5 K W) (hf : FVal w (· < w.heap.size) f [x0, x1, x2, x3, x4, x5]) :
    FVal (W.alloc (.cells #[.int .i64 3, .int .i64 0, .string ⟨#[]⟩, .slice none 0 0, .slice none 0 0, .slice (some ⟨K, 0, none⟩) 1 1] 31)) (· < W.heap.size + 1) (notF (notF f)) [.int .i64 3, .int .i64 0, .string ⟨#[]⟩, .slice none 0 0, .slice none 0 0, .slice (some ⟨W.heap.size, 0, none⟩) 1 1] :=
  not_val ((h.alloc _).nval hf) (by have := h.no.lt; omega) (Blk.new W _ _)
theorem PN.sixn (h : PN w x0 x1 x2 x3 x4 x5 K W) : W.cell? ⟨K + 1, 0, none⟩ = some (.int .i64 3) ∧ W.cell? ⟨K + 1, 1, none⟩ = some (.int .i64 0) ∧ W.cell? ⟨K + 1, 2, none⟩ = some (.string ⟨#[]⟩) ∧ W.cell? ⟨K + 1, 3, none⟩ = some (.slice none 0 0) ∧ W.cell? ⟨K + 1, 4, none⟩ = some (.slice none 0 0) ∧ W.cell? ⟨K + 1, 5, none⟩ = some (.slice (some ⟨K, 0, none⟩) 1 1) :=
  ⟨h.no.cell 0, h.no.cell 1, h.no.cell 2, h.no.cell 3, h.no.cell 4, h.no.cell 5⟩
end

/-- A name is one of the symbols' names. -/
def symB (nm : ByteArray) (ss : List (ByteArray × Int)) : Bool := ss.any fun p => decide (p.1 = nm)
theorem symB_snoc (nm : ByteArray) (ss : List (ByteArray × Int)) {k : Nat} {p : ByteArray × Int} (h : ss[k]? = some p) : symB nm (ss.take (k + 1)) = (symB nm (ss.take k) || decide (p.1 = nm)) := by
  unfold symB
  rw [take_snoc h, List.any_append]
  simp

set_option maxRecDepth 100000 in
set_option maxHeartbeats 1000000 in
theorem fposl_good (f : FB) (k a : Int) (n : ByteArray) (A3 : Option Addr) (n3 c3 : Nat) (A4 : Option Addr) (n4 c4 : Nat) (A : Option Addr) (m c : Nat) (nm : ByteArray) (w : World) (hf : FVal w (· < w.heap.size) f [.int .i64 k, .int .i64 a, .string n, .slice A3 n3 c3, .slice A4 n4 c4, .slice A m c])
    (hnm : nm.size ≤ 140737488351232) (hw : HasW w) (hv : Fo.Valid Fo.fitP f) (hdp : Fo.depth f ≤ 58) (hsz : Fo.size f ≤ 3998) :
    Calls Tryd.prog 6 #[.agg #[.int .i64 k, .int .i64 a, .string n, .slice A3 n3 c3, .slice A4 n4 c4, .slice A m c], .string nm] w fun e w' => e = .returned (.bool true) ∧ Below w.heap.size w w' := by
  have hv1 := Fo.valid_not hv (by omega) (by omega)
  have hv2 := Fo.valid_not hv1 (by simp [Fo.size, Fo.sizes]; omega) (by simp [Fo.depth, Fo.depths]; omega)
  have Hfew := Lib.hid (few_call 600 hf)
  have Hk0 := Lib.hid (PK.start (x0 := .int .i64 k) (x1 := .int .i64 a) (x2 := .string n) (x3 := .slice A3 n3 c3) (x4 := .slice A4 n4 c4) (x5 := .slice A m c) hw)
  have Hf := Lib.hid hf; clear hf
  have hmx : nm.size ≤ maxLen := by unfold maxLen; omega
  have hval := fun W (hk : PK w (.int .i64 k) (.int .i64 a) (.string n) (.slice A3 n3 c3) (.slice A4 n4 c4) (.slice A m c) W) => fvalid_any f _ W w.heap.size hk.bx.bel.size (hk.val Hf.out)
  rw [some_valid hv] at hval
  have hdep := fun W (hk : PK w (.int .i64 k) (.int .i64 a) (.string n) (.slice A3 n3 c3) (.slice A4 n4 c4) (.slice A m c) W) => fdepth_any f _ W w.heap.size hk.bx.bel.size (hk.val Hf.out)
  rw [depth_ok hv] at hdep
  have hsiz := fun W (hk : PK w (.int .i64 k) (.int .i64 a) (.string n) (.slice A3 n3 c3) (.slice A4 n4 c4) (.slice A m c) W) => fsize_any f _ W w.heap.size hk.bx.bel.size (hk.val Hf.out)
  rw [size_ok hv] at hsiz
  have hpos := fun K W (hk : PN w (.int .i64 k) (.int .i64 a) (.string n) (.slice A3 n3 c3) (.slice A4 n4 c4) (.slice A m c) K W) => fpositive_any f _ nm hmx W w.heap.size hk.pk.bx.bel.size (hk.pk.val Hf.out)
  have hpos1 := fun K W (hk : PN w (.int .i64 k) (.int .i64 a) (.string n) (.slice A3 n3 c3) (.slice A4 n4 c4) (.slice A m c) K W) => fpositive_any (notF f) _ nm hmx W (K + 1) (Nat.succ_le_of_lt hk.kid.lt) (hk.nval Hf.out)
  have hpos2 := fun K W (hk : PN w (.int .i64 k) (.int .i64 a) (.string n) (.slice A3 n3 c3) (.slice A4 n4 c4) (.slice A m c) K W) => fpositive_any (notF (notF f)) _ nm hmx _ (W.heap.size + 1) (by simp) (hk.nnval Hf.out)
  have hsym := fun K W (hk : PN w (.int .i64 k) (.int .i64 a) (.string n) (.slice A3 n3 c3) (.slice A4 n4 c4) (.slice A m c) K W) => fsymbols_any f _ W w.heap.size hk.pk.bx.bel.size (hk.pk.val Hf.out)
  have hok := fun W e w' (h : PosPost f nm W e w') => pos_ok hv h
  have hok1 := fun W e w' (h : PosPost (notF f) nm W e w') => pos_ok hv1 h
  rw [Fo.pos_not] at hok1
  have hok2 := fun W e w' (h : PosPost (notF (notF f)) nm W e w') => pos_ok hv2 h
  rw [Fo.pos_not, Bool.not_false, Fo.pos_not, Bool.not_true] at hok2
  rw [Bool.not_false] at hok1
  have hsk := fun W e w' (h : SymPost f W e w') => sym_ok hv h
  have hA : (∀ o ∈ Fo.occF f [], o.1 ≠ nm) → Fo.posF f nm false false = true ∧ Fo.posF f nm true false = true := fun h => ⟨Fo.pos_absent f nm false false [] (by simp) h, Fo.pos_absent f nm true false [] (by simp) h⟩
  have hB : Fo.posF f nm false false = true → Fo.posF f nm true false = true → ∀ o ∈ Fo.occF f [], o.1 ≠ nm := fun h1 h2 => Fo.pos_both f nm false false [] (by simp) h1 h2
  generalize Fo.posF f nm false false = P at *
  generalize Fo.posF f nm true false = Q at *
  generalize Fo.depth f = dp at *
  generalize Fo.size f = sz at *
  have hdp' : ¬ 58 < dp := by omega
  have hsz' : ¬ 3998 < sz := by omega
  clear hdp hsz
  have HA := Lib.hid hA; clear hA
  have HB := Lib.hid hB; clear hB
  have Hval := Lib.hid hval; clear hval
  have Hdep := Lib.hid hdep; clear hdep
  have Hsiz := Lib.hid hsiz; clear hsiz hv hv1 hv2
  have Hpos := Lib.hid hpos; clear hpos
  have Hpos1 := Lib.hid hpos1; clear hpos1
  have Hpos2 := Lib.hid hpos2; clear hpos2
  have Hsym := Lib.hid hsym; clear hsym
  have Hok := Lib.hid hok; clear hok
  have Hok1 := Lib.hid hok1; clear hok1
  have Hok2 := Lib.hid hok2; clear hok2
  have Hsk := Lib.hid hsk; clear hsk
  go_enter Tryd.func6, Tryd.ntmps6
  go_wp2_with (first
    | (go_at_call 11
       refine Hfew.out.mono ?_
       rintro e w1 ⟨⟨b, rfl⟩, hb1⟩
       have K1 := Lib.hid ((Hk0.out.alloc _).step hb1); clear hb1 Hfew
       obtain ⟨e0, e1, e2, e3, e4, e5⟩ := K1.out.six
       cases b)
    | (go_at_call 12
       refine (Hval.out _ K1.out).mono ?_
       rintro e w2 ⟨rfl, hb2⟩
       have K2 := Lib.hid (K1.out.step hb2); clear hb2 K1 e0 e1 e2 e3 e4 e5
       obtain ⟨e0, e1, e2, e3, e4, e5⟩ := K2.out.six)
    | (go_at_call 18
       refine (Hdep.out _ K2.out).mono ?_
       rintro e w3 ⟨rfl, hb3⟩
       have K3 := Lib.hid (K2.out.step hb3); clear hb3 K2 e0 e1 e2 e3 e4 e5
       obtain ⟨e0, e1, e2, e3, e4, e5⟩ := K3.out.six)
    | (go_at_call 19
       refine (Hsiz.out _ K3.out).mono ?_
       rintro e w4 ⟨rfl, hb4⟩
       have K4 := Lib.hid (K3.out.step hb4); clear hb4 K3 e0 e1 e2 e3 e4 e5
       obtain ⟨e0, e1, e2, e3, e4, e5⟩ := K4.out.six
       have N0 := Lib.hid (PN.start K4.out)
       obtain ⟨a0, a1, a2, a3, a4, a5⟩ := N0.out.pk.six)
    | (go_at_call 7
       with_reducible refine (falive_any _ K1.out.wds).mono ?_
       rintro e w5 ⟨rfl, hb5⟩
       have K5 := Lib.hid (K1.out.step hb5))
    | (go_at_call 7
       with_reducible refine (falive_any _ K3.out.wds).mono ?_
       rintro e w5 ⟨rfl, hb5⟩
       have K5 := Lib.hid (K3.out.step hb5))
    | (go_at_call 7
       with_reducible refine (falive_any _ K4.out.wds).mono ?_
       rintro e w5 ⟨rfl, hb5⟩
       have K5 := Lib.hid (K4.out.step hb5))
    | (go_at_call 20
       clear a0 a1 a2 a3 a4 a5
       generalize ((w4.alloc (.cells #[.int .i64 k, .int .i64 a, .string n, .slice A3 n3 c3, .slice A4 n4 c4, .slice A m c] 31)).alloc (.cells #[.int .i64 3, .int .i64 0, .string ⟨#[]⟩, .slice none 0 0, .slice none 0 0, .slice (some ⟨w4.heap.size, 0, none⟩) 1 1] 31)) = W5 at *
       with_reducible refine (Hpos.out _ _ N0.out).mono ?_
       rintro e w6 hpost
       obtain ⟨rfl, hb6⟩ := Hok.out _ _ _ hpost; clear hpost K4 e0 e1 e2 e3 e4 e5
       have N6 := Lib.hid (N0.out.step hb6); clear hb6 N0 Hpos
       generalize w4.heap.size = K at *
       obtain ⟨a0, a1, a2, a3, a4, a5⟩ := N6.out.sixn)
    | (go_at_call 20
       with_reducible refine (Hpos1.out _ _ N6.out).mono ?_
       rintro e w7 hpost
       obtain ⟨rfl, hb7⟩ := Hok1.out _ _ _ hpost; clear hpost a0 a1 a2 a3 a4 a5
       have N7 := Lib.hid (N6.out.step hb7); clear hb7 N6 Hpos1
       obtain ⟨a0, a1, a2, a3, a4, a5⟩ := N7.out.sixn)
    | (go_at_call 20
       with_reducible refine (Hpos2.out _ _ N7.out).mono ?_
       rintro e w8 hpost
       obtain ⟨rfl, hb8⟩ := Hok2.out _ _ _ hpost; clear hpost a0 a1 a2 a3 a4 a5
       have N8 := Lib.hid ((N7.out.alloc _).step hb8); clear hb8 N7 Hpos2
       obtain ⟨a0, a1, a2, a3, a4, a5⟩ := N8.out.pk.six)
    | (go_at_call 14
       refine (Hsym.out _ _ N8.out).mono ?_
       rintro e w9 hpost
       obtain ⟨hb9, v9, ss, rfl, hss, -, hmem, hlen, -⟩ := Hsk.out _ _ _ hpost; clear hpost a0 a1 a2 a3 a4 a5
       have N9 := Lib.hid (N8.out.step hb9); clear hb9 N8 Hsym
       have hss' := hss
       obtain ⟨AS, nS, cS, rfl, hnS, -⟩ := hss'
       have HnS := Lib.hid hnS; clear hnS
       have Hss := Lib.hid hss; clear hss
       have Hmem := Lib.hid hmem; clear hmem
       have hnb : nS ≤ 1000000 := by have := HnS.out; omega))
  all_goals first
    | (go_ret; exact ⟨rfl, K5.out.bx.bel⟩)
    | skip
  go_loop [12, 14] (fun y i => ∃ k : Nat, k ≤ nS ∧ y = .bool (symB nm (ss.take k)) ∧ i = .int .i64 k) (fun _ i => nS - (intOf i).toNat)
  case atStart => exact ⟨0, Nat.zero_le _, rfl, rfl⟩
  case round =>
    obtain ⟨j, hj, rfl, rfl⟩ := hrel
    by_cases hlt : j < nS
    · obtain ⟨ad, p, rfl, hb, hp, hc0, hc1⟩ := Hss.out.at_ hlt
      have hsn := symB_snoc nm ss hp
      have Hp := Lib.hid hp; clear hp
      generalize symB nm (ss.take j) = q at *
      have Hsn := Lib.hid hsn; clear hsn
      cases q
      · obtain ⟨pn, pa⟩ := p
        by_cases he : pn = nm
        · subst he
          have hs2 : symB pn (ss.take (j + 1)) = true := by rw [Hsn.out]; simp
          have Hs2 := Lib.hid hs2; clear hs2
          go_wp2
          exact ⟨⟨j + 1, by omega, by rw [Hs2.out], by go_num⟩, by simp [intOf]; omega⟩
        · have hs2 : symB nm (ss.take (j + 1)) = false := by rw [Hsn.out]; simp [he]
          have Hs2 := Lib.hid hs2; clear hs2
          have hbq := ne_bytes he
          go_wp2
          exact ⟨⟨j + 1, by omega, by rw [Hs2.out], by go_num⟩, by simp [intOf]; omega⟩
      · have hs2 : symB nm (ss.take (j + 1)) = true := by rw [Hsn.out]; rfl
        have Hs2 := Lib.hid hs2; clear hs2
        go_wp2
        exact ⟨⟨j + 1, by omega, by rw [Hs2.out], by go_num⟩, by simp [intOf]; omega⟩
    · have hall : ss.take j = ss := List.take_of_length_le (by have := HnS.out; omega)
      rw [hall]
      have hA := HA.out
      have hB := HB.out
      have hs1 : symB nm ss = false → ∀ o ∈ Fo.occF f [], o.1 ≠ nm := fun h o ho e => by
        have h2 : symB nm ss = true := List.any_eq_true.2 ⟨o, (Hmem.out o).2 ho, decide_eq_true e⟩
        rw [h] at h2; cases h2
      have hs2 : (∀ o ∈ Fo.occF f [], o.1 ≠ nm) → symB nm ss = false := fun h => by
        cases h2 : symB nm ss
        · rfl
        · obtain ⟨o, ho, e⟩ := List.any_eq_true.1 h2
          exact absurd (of_decide_eq_true e) (h o ((Hmem.out o).1 ho))
      have hcase : (symB nm ss = false ∧ P = true ∧ Q = true) ∨ (symB nm ss = true ∧ P = true ∧ Q = false) ∨ (symB nm ss = true ∧ P = false) := by
        cases hx : symB nm ss
        · exact .inl ⟨rfl, hA (hs1 hx)⟩
        · cases P
          · exact .inr (.inr ⟨rfl, rfl⟩)
          · cases Q
            · exact .inr (.inl ⟨rfl, rfl, rfl⟩)
            · have := hs2 (hB rfl rfl); rw [hx] at this; cases this
      generalize symB nm ss = y at *
      clear hA hB hs1 hs2 hall Hss Hmem
      have ha := falive_any _ N9.out.pk.wds
      have Ha := Lib.hid ha; clear ha
      rcases hcase with ⟨rfl, rfl, rfl⟩ | ⟨rfl, rfl, rfl⟩ | ⟨rfl, rfl⟩
      all_goals (
        go_wp2_with (go_at_call 7
                     refine (Ha.out).mono ?_
                     rintro e w10 ⟨rfl, hb10⟩
                     have N10 := Lib.hid (N9.out.step hb10); clear hb10 N9 Ha)
        go_ret
        exact ⟨rfl, N10.out.pk.bx.bel⟩)

end Go.Proofs.YtkdhpbfdblomcaaDoor

/-
  What closes a law of chapter 2: the listed variables' facts, the arguments as numbers and lists, the post-condition 'true, and every argument reads as it did', the witness's world.
-/
namespace Go.Proofs.YtkdhpbfdblomcaaDoor
open Go.ChangeShapes Go.WideShapes Go.ChangeAt Go.RowKit

theorem own : ownKnob Tryd.prog.godebug = none := by kernel_rfl
theorem laidOut : laidOutB Tryd.prog = true := by kernel_rfl
theorem star : "*" ++ "errors.errorString" = "*errors.errorString" := by decide
theorem rowErr (u : TypeId) (h : Tryd.prog.typeName? 3 u = some "*errors.errorString") : u = 148 :=
  typeName_ptr_named (nm := "errors.errorString") (by rw [star]; kernel_rfl) (by kernel_rfl) (by decide) u (by rw [star]; exact h)

def laidList : List (String × DataW Unit) := [("math/bits.deBruijn32tab", Rows.laid_math_bits_deBruijn32tab), ("math/bits.deBruijn64tab", Rows.laid_math_bits_deBruijn64tab), ("internal/strconv.uint64pow10", Rows.laid_internal_strconv_uint64pow10), ("strconv.ErrRange", Rows.laid_strconv_ErrRange), ("strconv.ErrSyntax", Rows.laid_strconv_ErrSyntax), ("paraphrast/formula.words", Rows.laid_paraphrast_formula_words)]

theorem words_len : wordsB.length = 12 := rfl
theorem words_lit : (Rows.laid_paraphrast_formula_words : DataW Unit) = .agg (wordsB.map fun s => .lit (.string s.data.toList)) := by kernel_rfl

set_option maxRecDepth 100000 in
theorem words_of_laid {W : World} (h : laidMet Tryd.prog laidList W) : HasW W := by
  obtain ⟨ps, ⟨g, t, cs, fuel, p, q, hg, ht, hv, htr, -⟩, -⟩ := h.tail.tail.tail.tail.tail
  have hg' : Tryd.prog.globalNamed "paraphrast/formula.words" = some 0 := by kernel_rfl
  obtain rfl := Option.some.inj (hg'.symm.trans hg)
  have ht' : (Tryd.prog.globals[0]?).map (·.type) = some 94 := by kernel_rfl
  obtain rfl := Option.some.inj (ht'.symm.trans ht)
  unfold World.var? at hv
  rw [hg', Option.bind_some] at hv
  have hb : ∃ t2 f2, W.heap[0]? = some (.cells cs t2 f2) := by
    split at hv
    · rename_i c2 t2 f2 he
      have e := Option.some.inj hv
      subst e
      exact ⟨t2, f2, he⟩
    · cases hv
  obtain ⟨t2, f2, he⟩ := hb
  have hlt : 0 < W.heap.size := by
    rcases Nat.lt_or_ge 0 W.heap.size with hz | hz
    · exact hz
    · rw [Array.getElem?_eq_none hz] at he; cases he
  refine ⟨fun j s hj => ?_, hlt⟩
  obtain ⟨xs, m, -, hx, hcl, hxl, hel⟩ := DataW.trod_array Tryd.underlying94 htr
  simp only [Prod.mk.injEq] at hx
  rw [words_lit] at hx
  have hx1 := hx.1
  injection hx1 with hx1
  have hj12 : j < 12 := by
    rcases Nat.lt_or_ge j 12 with h | h
    · exact h
    · rw [List.getElem?_eq_none (by rw [words_len]; exact h)] at hj; cases hj
  have h1 := hel j hj12
  rw [show Tryd.prog.cellsOf 9 = 1 by kernel_rfl, Nat.mul_one, List.getElem?_eq_getElem (by omega)] at h1
  obtain ⟨s', e0, e1, -⟩ := DataW.trod_string Tryd.underlying9 h1
  have e2 : (xs.map (·.1))[j]? = some (.lit (.string s'.data.toList)) := by
    rw [List.getElem?_map, List.getElem?_eq_getElem (by omega), Option.map_some, e1]
  rw [← hx1, List.getElem?_map, hj, Option.map_some] at e2
  have e3 : s.data.toList = s'.data.toList := by simpa using e2
  have e4 : s = s' := WideShapes.bytes_inj e3
  subst e4
  have hcs : cs[j]? = some (.string s) := by
    have h2 : (cs.toList.drop j).head? = some (.string s) := by
      have h3 : ((cs.toList.drop j).take 1).head? = some (.string s) := by rw [e0]; rfl
      rw [List.head?_take] at h3
      simpa using h3
    rw [List.head?_drop] at h2
    simpa using h2
  unfold World.cell?
  rw [he]
  simpa using hcs

theorem cellLt {w : World} {a : Addr} {v : Value} (h : w.cell? a = some v) : a.block < w.heap.size := by
  rcases Nat.lt_or_ge a.block w.heap.size with h' | h'
  · exact h'
  · unfold World.cell? at h
    rw [Array.getElem?_eq_none h'] at h
    cases h

section
variable {H : Type} {enc : TypeId × Value → H} {W W' : World}

/-- Every argument reads as it did, where below the heap's old size nothing has turned. -/
theorem args_keep (hb : Below W.heap.size W W') (sp : Nat → Bool) : ∀ (ts : List TypeId) (vs : List Value) (ds : List (DataW H)) (p : List MemPlace), DataW.TrodAll enc Tryd.prog W 0 (fun _ => true) true ts vs ds p →
    (∀ t ∈ ts, Tryd.prog.readableRec t = true ∧ t < Tryd.prog.types.size) → (∀ x ∈ p, x.block < W.heap.size) → (∀ x ∈ p, sp x.block = true) → DataW.TrodAll enc Tryd.prog W' 0 sp true ts vs ds p
  | [], vs, ds, p, h, _, _, _ => by
    obtain ⟨rfl, rfl, rfl⟩ := trodAll_nil h
    exact trodAll_mk0
  | t :: ts, vs, ds, p, h, hr, hl, hs => by
    obtain ⟨v0, vs0, d0, ds0, p0, q0, rfl, rfl, rfl, h0, r0⟩ := trodAll_cons h
    have ht := hr t (List.mem_cons_self ..)
    exact trodAll_cons_mk (WideElems.Trod_stays laidOut ht.1 ht.2 h0 (fun x hx => hb.same (hl x (List.mem_append_left _ hx))) (fun x hx => hs x (List.mem_append_left _ hx)))
      (args_keep hb sp ts vs0 ds0 q0 r0 (fun u hu => hr u (List.mem_cons_of_mem _ hu)) (fun x hx => hl x (List.mem_append_right _ hx)) (fun x hx => hs x (List.mem_append_right _ hx)))

theorem trodVars_nil_mk {sp : Nat → Bool} : DataW.TrodVars enc Tryd.prog W' sp [] [] [] := rfl

set_option maxRecDepth 100000 in
/-- The post-condition of every row here. -/
theorem post_true {f : Func} {s : ChangeSpec} {apart fresh handsOn again : Bool} {args : Array Value} {ds gs : List (DataW H)} {before : List MemPlace}
    (hf : f.resultTypes = #[4]) (hv : s.vars = []) (hs : s.fn H (ds ++ gs) = { results := [.lit (.bool true)], args := ds })
    (hr : ∀ t ∈ f.params.toList, Tryd.prog.readableRec t = true ∧ t < Tryd.prog.types.size)
    (hW : DataW.Whole enc Tryd.prog f.params.toList s.vars apart W args.toList ds gs before) (hb : Below W.heap.size W W') :
    s.post enc Tryd.prog f apart fresh handsOn again W args (.bool true) W' := by
  have hlt : ∀ x ∈ before, x.block < W.heap.size := fun x hx => hW.lt x hx
  have hW' := hW
  obtain ⟨p, q, hA, hV, hpq, hz, hn⟩ := hW
  rw [hv] at hV
  obtain ⟨rfl, rfl⟩ := trodVars_none hV
  rw [List.append_nil] at hpq
  subst hpq
  have hret : ∀ (b : Nat) (sp : Nat → Bool) (hd : Bool), DataW.TrodAll enc Tryd.prog W' b sp hd f.resultTypes.toList ((Value.bool true).resultList f.resultTypes.size) (s.fn H (ds ++ [])).results [] := fun b sp hd => by
    rw [hf, hs]; exact trodAll_cons_mk (shut_bool Tryd.underlying4 _) trodAll_mk0
  have hin : ∀ sp : Nat → Bool, (∀ x ∈ before, sp x.block = true) → DataW.TrodAll enc Tryd.prog W' 0 sp true f.params.toList args.toList (s.fn H (ds ++ [])).args before := fun sp hsp => by
    rw [hs]; exact args_keep hb sp _ _ _ _ hA hr hlt hsp
  have hvr : ∀ sp : Nat → Bool, DataW.TrodVars enc Tryd.prog W' sp s.vars (s.fn H (ds ++ [])).vars [] := fun sp => by
    rw [hs, hv]; exact trodVars_nil_mk
  have hok : ∀ (j : Nat) (t : TypeId) (r : Value), f.resultTypes[j]? = some t → ((Value.bool true).resultList f.resultTypes.size)[j]? = some r → Value.okWide Tryd.prog W' .any 0 t r :=
by
    intro j t r hj hr'
    rw [hf] at hj hr'
    match j, hj, hr' with
    | 0, hj, hr' =>
      simp [Value.resultList] at hj hr'
      subst hj; subst hr'
      exact okWide_bool_mk Tryd.underlying4 _
    | j + 1, hj, _ => simp at hj
  refine ⟨ds, [], before, [], before, [], hW', hret _ _ _, hin _ (fun x hx => by simpa using hlt x hx), hvr _, World.keptBut_mono (fun x hx => ⟨hx, Or.inr (by simpa using hx)⟩) (hb.frame (· ∈ before)), fun _ => ?_⟩
  refine ⟨hok, _, _, ([] ++ before) ++ [], ⟨[] ++ before, [], trodAll_append (hin _ (fun _ _ => rfl)) (hret _ _ _), hvr _, rfl, ?_, ?_⟩, ?_⟩
  · intro b off hp
    have hp' : MemPlace.cell b off ∈ before := by simpa using hp
    rw [hb.frozen (hlt _ hp')]
    exact hz b off hp'
  · intro ha
    simpa using hn ha
  · intro x hx _
    simpa using hx

end

end Go.Proofs.YtkdhpbfdblomcaaDoor

/-
  An argument as a formula.
-/
namespace Go.Proofs.YtkdhpbfdblomcaaDoor
open Go.ChangeShapes Go.WideShapes Go.ChangeAt Go.RowKit Go.Deep
open Fo (F)

section
variable {H : Type} {enc : TypeId × Value → H} {W : World}

/-- No list is longer than the machine's reach. -/
def Fits (t : TypeId) (d : DataW H) : Prop := ∀ n ∈ d.weights Tryd.prog t, n ≤ 140737488351232

theorem weights_all {t : TypeId} {n : Nat} : ∀ {l : List (DataW H)} {i : Nat} {d : DataW H}, l[i]? = some d → n ∈ d.weights Tryd.prog t → n ∈ DataW.weightsAll Tryd.prog t l
  | [], i, d, h, _ => by simp at h
  | x :: l, 0, d, h, hn => by
    simp at h; subst h
    unfold DataW.weightsAll
    exact List.mem_append_left _ hn
  | x :: l, i + 1, d, h, hn => by
    unfold DataW.weightsAll
    exact List.mem_append_right _ (weights_all (by simpa using h) hn)
theorem Fits.elem {t e : TypeId} {es sp : List (DataW H)} (hu : Tryd.prog.underlying t = some (.slice e)) (h : Fits t (.slice es sp)) {i : Nat} {d : DataW H} (hd : es[i]? = some d) : Fits e d := fun n hn =>
  h n (by
    simp only [DataW.weights, hu]
    exact List.mem_cons_of_mem _ (List.mem_append_left _ (weights_all hd hn)))
theorem Fits.len {t e : TypeId} {es sp : List (DataW H)} (hu : Tryd.prog.underlying t = some (.slice e)) (h : Fits t (.slice es sp)) : (es.length + sp.length) * Tryd.prog.bytesOf e ≤ 140737488351232 :=
  h _ (by simp only [DataW.weights, hu]; exact List.mem_cons_self ..)
theorem Fits.str {t : TypeId} {l : List UInt8} (h : Fits (H := H) t (.lit (.string l))) : l.length ≤ 140737488351232 := h _ (by simp only [DataW.weights]; exact List.mem_cons_self ..)

theorem exists_list {α : Type} {Q : Nat → α → Prop} : ∀ (n : Nat), (∀ i, i < n → ∃ a, Q i a) → ∃ l : List α, l.length = n ∧ ∀ i a, l[i]? = some a → Q i a
  | 0, _ => ⟨[], rfl, fun i a h => by simp at h⟩
  | n + 1, h => by
    obtain ⟨l, hl, hq⟩ := exists_list n (fun i hi => h i (by omega))
    obtain ⟨a, ha⟩ := h n (by omega)
    refine ⟨l ++ [a], by simp [hl], fun i x hx => ?_⟩
    by_cases hi : i < l.length
    · rw [List.getElem?_append_left hi] at hx
      exact hq i x hx
    · rw [List.getElem?_append_right (by omega)] at hx
      have : i = l.length := by
        rcases Nat.eq_or_lt_of_le (Nat.le_of_not_lt hi) with e | e
        · exact e.symm
        · rw [List.getElem?_eq_none (by simp; omega)] at hx; cases hx
      subst this
      simp at hx
      subst hx
      rw [hl]
      exact ha

set_option maxRecDepth 100000 in
theorem strs_read {fuel : Nat} {cs : List Value} {y : DataW H × List MemPlace} (h : DataW.trod enc Tryd.prog W 0 (fun _ => true) true fuel 28 cs = some y) (hz : Fits 28 y.1) : ∃ v l, cs = [v] ∧ Strs W (· < W.heap.size) v l := by
  rcases DataW.trod_slice Tryd.underlying28 h with ⟨hcs, hx⟩ | ⟨ad, len, cap, es, rest, n, _, hcs, hx, _, hlc, _, hel, hes, _, _⟩
  · exact ⟨_, [], hcs, Strs.nil⟩
  · subst hx
    have hb := Fits.len Tryd.underlying28 hz
    rw [show Tryd.prog.bytesOf 9 = 16 by kernel_rfl] at hb
    simp only [List.length_map] at hb
    have each : ∀ i, i < len → ∃ s : ByteArray, W.cell? (ad.add i) = some (.string s) ∧ s.size ≤ 140737488351232 := fun i hi => by
      have h1 := hes i hi
      rw [show Tryd.prog.cellsOf 9 = 1 by kernel_rfl, Nat.mul_one, List.getElem?_eq_getElem (by omega)] at h1
      obtain ⟨c, hc, h2⟩ := Option.bind_eq_some_iff.1 h1
      obtain ⟨s, rfl, e1, -⟩ := DataW.trod_string Tryd.underlying9 h2
      have hf := Fits.elem Tryd.underlying28 hz (i := i) (by rw [List.getElem?_map, List.getElem?_eq_getElem (by omega)]; rfl)
      rw [e1] at hf
      exact ⟨s, cell_of_cells?_one hc, by simpa using hf.str⟩
    obtain ⟨l, hl, hq⟩ := exists_list len each
    refine ⟨_, l, hcs, _, _, _, rfl, hl.symm, by omega, hlc, fun s hs => ?_, fun hn => ⟨ad, rfl, ?_, fun j s hs => (hq j s hs).1⟩⟩
    · obtain ⟨j, hj, rfl⟩ := List.mem_iff_getElem.1 hs
      exact (hq j _ (List.getElem?_eq_getElem hj)).2
    · obtain ⟨s, hc, _⟩ := each 0 hn
      have h0 := cellLt hc
      rw [block_of_add] at h0
      exact h0

theorem trod_struct6 {t : TypeId} {f0 f1 f2 f3 f4 f5 : Field} {fuel : Nat} {cs : List Value} {x : DataW H × List MemPlace} (ht : Tryd.prog.underlying t = some (.struct #[f0, f1, f2, f3, f4, f5])) (h : DataW.trod enc Tryd.prog W 0 (fun _ => true) true fuel t cs = some x) :
    ∃ y0 y1 y2 y3 y4 y5 n, fuel = n + 1 ∧ x.1 = .agg [y0.1, y1.1, y2.1, y3.1, y4.1, y5.1] ∧ cs.length = Tryd.prog.cellsOf t ∧
      DataW.trod enc Tryd.prog W 0 (fun _ => true) true n f0.type ((cs.drop f0.offset).take (Tryd.prog.cellsOf f0.type)) = some y0 ∧ DataW.trod enc Tryd.prog W 0 (fun _ => true) true n f1.type ((cs.drop f1.offset).take (Tryd.prog.cellsOf f1.type)) = some y1 ∧
      DataW.trod enc Tryd.prog W 0 (fun _ => true) true n f2.type ((cs.drop f2.offset).take (Tryd.prog.cellsOf f2.type)) = some y2 ∧ DataW.trod enc Tryd.prog W 0 (fun _ => true) true n f3.type ((cs.drop f3.offset).take (Tryd.prog.cellsOf f3.type)) = some y3 ∧
      DataW.trod enc Tryd.prog W 0 (fun _ => true) true n f4.type ((cs.drop f4.offset).take (Tryd.prog.cellsOf f4.type)) = some y4 ∧ DataW.trod enc Tryd.prog W 0 (fun _ => true) true n f5.type ((cs.drop f5.offset).take (Tryd.prog.cellsOf f5.type)) = some y5 := by
  obtain ⟨xs, n, hn, rfl, hl, hlen, hf⟩ := DataW.trod_struct ht h
  match xs, hlen with
  | [y0, y1, y2, y3, y4, y5], _ => exact ⟨y0, y1, y2, y3, y4, y5, n, hn, by simp, hl, by simpa using hf 0 f0 rfl, by simpa using hf 1 f1 rfl, by simpa using hf 2 f2 rfl, by simpa using hf 3 f3 rfl, by simpa using hf 4 f4 rfl, by simpa using hf 5 f5 rfl⟩

theorem FKids.mk {S : Nat → Prop} {ad : Addr} : ∀ (l : List FB) (j : Nat), (∀ i f, l[i]? = some f → ∃ x0 x1 x2 x3 x4 x5, W.cell? (ad.add ((j + i) * 6)) = some x0 ∧ W.cell? (ad.add ((j + i) * 6 + 1)) = some x1 ∧ W.cell? (ad.add ((j + i) * 6 + 2)) = some x2 ∧
      W.cell? (ad.add ((j + i) * 6 + 3)) = some x3 ∧ W.cell? (ad.add ((j + i) * 6 + 4)) = some x4 ∧ W.cell? (ad.add ((j + i) * 6 + 5)) = some x5 ∧ FVal W S f [x0, x1, x2, x3, x4, x5]) → FKids W S ad l j
  | [], j, _ => trivial
  | f :: l, j, h => by
    unfold FKids
    refine ⟨by simpa using h 0 f rfl, FKids.mk l (j + 1) fun i g hg => ?_⟩
    have := h (i + 1) g (by simpa using hg)
    rw [show j + (i + 1) = j + 1 + i by omega] at this
    exact this

set_option maxRecDepth 100000 in
theorem form_read : ∀ (N fuel : Nat), fuel ≤ N → ∀ (cs : List Value) (y : DataW H × List MemPlace), DataW.trod enc Tryd.prog W 0 (fun _ => true) true fuel 31 cs = some y → Fits 31 y.1 → ∃ f : FB, FVal W (· < W.heap.size) f cs
  | 0, fuel, hN, cs, y, h, _ => by
    obtain rfl : fuel = 0 := by omega
    simp [DataW.trod] at h
  | N + 1, fuel, hN, cs, y, h, hz => by
    obtain ⟨y0, y1, y2, y3, y4, y5, n, rfl, hx, hlen, h0, h1, h2, h3, h4, h5⟩ := trod_struct6 Tryd.underlying31 h
    rw [show Tryd.prog.cellsOf 31 = 6 by kernel_rfl] at hlen
    obtain ⟨c0, c1, c2, c3, c4, c5, rfl⟩ : ∃ a b c d e f, cs = [a, b, c, d, e, f] := by
      match cs, hlen with
      | [a, b, c, d, e, f], _ => exact ⟨a, b, c, d, e, f, rfl⟩
    have hfit : ∀ n ∈ DataW.weightsEach Tryd.prog [3, 3, 9, 28, 28, 29] [y0.1, y1.1, y2.1, y3.1, y4.1, y5.1], n ≤ 140737488351232 := fun n hn => hz n (by
      rw [hx]
      simp only [DataW.weights, Tryd.underlying31]
      exact hn)
    simp only [show Tryd.prog.cellsOf 9 = 1 by kernel_rfl, show Tryd.prog.cellsOf 3 = 1 by kernel_rfl, show Tryd.prog.cellsOf 28 = 1 by kernel_rfl, show Tryd.prog.cellsOf 29 = 1 by kernel_rfl] at h0 h1 h2 h3 h4 h5
    obtain ⟨k, e0, -, -⟩ := DataW.trod_int Tryd.underlying3 h0
    obtain ⟨a, e1, -, -⟩ := DataW.trod_int Tryd.underlying3 h1
    obtain ⟨s, e2, hs, -⟩ := DataW.trod_string Tryd.underlying9 h2
    obtain ⟨u3, vs, e3, hv3⟩ := strs_read h3 (fun n hn => hfit n (by
      simp only [DataW.weightsEach]
      exact List.mem_append_right _ (List.mem_append_right _ (List.mem_append_right _ (List.mem_append_left _ hn)))))
    obtain ⟨u4, ar, e4, hv4⟩ := strs_read h4 (fun n hn => hfit n (by
      simp only [DataW.weightsEach]
      exact List.mem_append_right _ (List.mem_append_right _ (List.mem_append_right _ (List.mem_append_right _ (List.mem_append_left _ hn))))))
    have hz5 : Fits 29 y5.1 := fun n hn => hfit n (by
      simp only [DataW.weightsEach]
      exact List.mem_append_right _ (List.mem_append_right _ (List.mem_append_right _ (List.mem_append_right _ (List.mem_append_right _ (List.mem_append_left _ hn))))))
    have hss : s.size ≤ 140737488351232 := by
      have := hfit s.data.toList.length (by
        rw [hs]
        simp only [DataW.weightsEach, DataW.weights]
        exact List.mem_append_right _ (List.mem_append_right _ (List.mem_append_left _ (List.mem_cons_self ..))))
      simpa using this
    simp at e0 e1 e2 e3 e4
    subst e0 e1 e2 e3 e4
    rcases DataW.trod_slice Tryd.underlying29 h5 with ⟨hcs, hx5⟩ | ⟨ad, len, cap, es, rest, n', hn', hcs, hx5, _, hlc, _, hel, hes, _, _⟩
    · simp at hcs
      subst hcs
      refine ⟨.mk k a s vs ar [], ?_⟩
      unfold FVal
      exact ⟨_, _, _, _, _, rfl, hss, hv3, hv4, rfl, by omega, by omega, fun h => absurd h (by omega)⟩
    · simp at hcs
      subst hcs hx5
      have hb := Fits.len Tryd.underlying29 hz5
      rw [show Tryd.prog.bytesOf 31 = 104 by kernel_rfl] at hb
      simp only [List.length_map] at hb
      have each : ∀ i, i < len → ∃ g : FB, ∃ x0 x1 x2 x3 x4 x5, W.cell? (ad.add (i * 6)) = some x0 ∧ W.cell? (ad.add (i * 6 + 1)) = some x1 ∧ W.cell? (ad.add (i * 6 + 2)) = some x2 ∧
          W.cell? (ad.add (i * 6 + 3)) = some x3 ∧ W.cell? (ad.add (i * 6 + 4)) = some x4 ∧ W.cell? (ad.add (i * 6 + 5)) = some x5 ∧ FVal W (· < W.heap.size) g [x0, x1, x2, x3, x4, x5] := fun i hi => by
        have h1 := hes i hi
        rw [show Tryd.prog.cellsOf 31 = 6 by kernel_rfl, List.getElem?_eq_getElem (by omega)] at h1
        obtain ⟨c, hc, h2⟩ := Option.bind_eq_some_iff.1 h1
        obtain ⟨g, hg⟩ := form_read N n' (by omega) c _ h2 (Fits.elem Tryd.underlying29 hz5 (i := i) (by rw [List.getElem?_map, List.getElem?_eq_getElem (by omega)]; rfl))
        obtain ⟨k', a', nm', ws', ar', ks'⟩ := g
        obtain ⟨B3, r3, s3, B4, r4, s4, B, r, s', hcs', -⟩ := hg.open_
        subst hcs'
        obtain ⟨-, -, hcell⟩ := World.cells?_some hc
        have q0 := hcell 0 (by omega)
        have q1 := hcell 1 (by omega)
        have q2 := hcell 2 (by omega)
        have q3 := hcell 3 (by omega)
        have q4 := hcell 4 (by omega)
        have q5 := hcell 5 (by omega)
        rw [add_of_add] at q0 q1 q2 q3 q4 q5
        exact ⟨_, _, _, _, _, _, _, q0, q1, q2, q3, q4, q5, hg⟩
      obtain ⟨ks, hks, hq⟩ := exists_list len each
      refine ⟨.mk k a s vs ar ks, ?_⟩
      unfold FVal
      refine ⟨_, _, _, _, _, rfl, hss, hv3, hv4, hks.symm, by omega, hlc, fun hn => ⟨ad, rfl, ?_, FKids.mk ks 0 fun i g hg => by rw [Nat.zero_add]; exact hq i g hg⟩⟩
      obtain ⟨g, x0, x1, x2, x3, x4, x5, hc, -⟩ := each 0 hn
      have h0 := cellLt hc
      rw [block_of_add] at h0
      exact h0

set_option maxRecDepth 100000 in
/-- An argument of type Formula. -/
theorem form_of_trod {v : Value} {d : DataW H} {p : List MemPlace} {r : Reach} {b0 : Nat} (hv : Value.okWide Tryd.prog W r b0 31 v) (h : DataW.Trod enc Tryd.prog W 0 (fun _ => true) true 31 v d p) (hz : Fits 31 d) :
    ∃ (f : FB) (cs : List Value), v = .agg cs.toArray ∧ FVal W (· < W.heap.size) f cs := by
  obtain ⟨cs, rfl, hsz⟩ := okWide_struct Tryd.underlying31 hv
  obtain ⟨fuel, hf⟩ := h
  obtain ⟨f, hfv⟩ := form_read fuel fuel (Nat.le_refl _) _ _ hf hz
  refine ⟨f, cs.toList, by simp, ?_⟩
  simpa [Value.cells] using hfv
end

end Go.Proofs.YtkdhpbfdblomcaaDoor
