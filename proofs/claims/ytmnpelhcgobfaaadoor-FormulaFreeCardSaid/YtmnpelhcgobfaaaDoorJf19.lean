/-
  Texts joined: Ffacts, Fposl, Frbind, Fhasl, Ffreel, Fstill.
-/
import Derived.Test.YtmnpelhcgobfaaaDoorJf17
import Derived.Test.YtmnpelhcgobfaaaDoorJf18
import Derived.Test.YtmnpelhcgobfaaaDoorJf4
import Derived.Test.YtmnpelhcgobfaaaDoorJf3
import Derived.Deep.CutBlock
import Derived.Deep.DeepCutAuto
import Derived.Deep.RegionHeld3
import Derived.StillTailTactics
import Derived.BigQuiet

/-
  What the queries of package formula return of a valid formula, in the words of the plain mathematics.
-/
namespace Go.Proofs.YtmnpelhcgobfaaaDoor
open Go.RowKit
open Fo (F St getM)

theorem fitK : ∀ (a : Int) (n : ByteArray) (vs as_ : List ByteArray) (k : Nat), Fo.fitP 0 a n vs as_ k = true → k = 0 := fun _ _ _ _ _ h => Fo.fit_kids h
theorem look_valid {f : FB} : (Fo.lookF Fo.fitP f).isSome = true ↔ Fo.Valid Fo.fitP f := by
  constructor
  · intro h
    refine Classical.byContradiction fun hn => ?_
    rw [Fo.look_none fitK hn] at h
    cases h
  · intro h
    obtain ⟨sy, fr, e, -⟩ := Fo.look_some fitK h
    rw [e]; rfl
theorem look_bool {f : FB} (b : Bool) (h : b = true ↔ Fo.Valid Fo.fitP f) : (Fo.lookF Fo.fitP f).isSome = b := by
  cases b
  · cases e : (Fo.lookF Fo.fitP f).isSome
    · rfl
    · exact absurd (h.2 (look_valid.1 e)) (by simp)
  · exact look_valid.2 (h.1 rfl)

mutual
theorem free_small {x : ByteArray} : ∀ (f : FB), Fo.shapes Fo.fitP f = true → Fo.freeB x f = true → x.size ≤ 12
  | .mk k a n vs ar ks, hs, h => by
    rw [Fo.shapes, Bool.and_eq_true] at hs
    rw [Fo.freeB, Bool.or_eq_true, Bool.and_eq_true] at h
    rcases h with h | ⟨-, h⟩
    · exact (fit_facts hs.1).2.2.2 x (of_decide_eq_true h)
    · exact freeL_small ks hs.2 h
theorem freeL_small {x : ByteArray} : ∀ (l : List FB), Fo.shapesL Fo.fitP l = true → Fo.freeLB x l = true → x.size ≤ 12
  | [], _, h => by rw [Fo.freeLB] at h; cases h
  | f :: l, hs, h => by
    rw [Fo.shapesL, Bool.and_eq_true] at hs
    rw [Fo.freeLB, Bool.or_eq_true] at h
    rcases h with h | h
    · exact free_small f hs.1 h
    · exact freeL_small l hs.2 h
end
mutual
theorem occ_small : ∀ (f : FB) (bd : List ByteArray), Fo.shapes Fo.fitP f = true → ∀ o ∈ Fo.occF f bd, o.1.size ≤ 12
  | .mk k a n vs ar ks, bd, hs, o, h => by
    rw [Fo.shapes, Bool.and_eq_true] at hs
    rw [Fo.occF] at h
    by_cases hk : k = 0
    · rw [if_pos hk] at h
      split at h
      · cases h
      · rw [List.mem_singleton] at h
        subst h hk
        have h2 := hs.1
        simp only [Fo.fitP, Bool.and_eq_true] at h2
        have h3 := h2.1.1.1.2
        simp only [Fo.namedB, if_neg (show ¬ (0 : Int) = 11 by decide), true_or, if_true, Bool.and_eq_true] at h3
        exact nmB_size h3.1
    · rw [if_neg hk] at h
      exact occL_small ks _ hs.2 o h
theorem occL_small : ∀ (l : List FB) (bd : List ByteArray), Fo.shapesL Fo.fitP l = true → ∀ o ∈ Fo.occFL l bd, o.1.size ≤ 12
  | [], bd, _, o, h => by rw [Fo.occFL] at h; cases h
  | f :: l, bd, hs, o, h => by
    rw [Fo.shapesL, Bool.and_eq_true] at hs
    rw [Fo.occFL, List.mem_append] at h
    rcases h with h | h
    · exact occ_small f bd hs.1 o h
    · exact occL_small l bd hs.2 o h
end

/-- A row of strings that the call owns. -/
def OwnStrs (w : World) (L : Nat) (v : Value) (l : List ByteArray) : Prop := w.ownsRow L 9 1 v l.length (l.map Value.string)
/-- What Free returns. -/
def FreeOk (f : FB) (w : World) (e : Ending) (w' : World) : Prop :=
  Below w.heap.size w w' ∧ ∃ v l, e = .returned v ∧ NStrs w' w.heap.size v l ∧ OwnStrs w' w.heap.size v l ∧ l.Pairwise (fun a b => a.toList < b.toList) ∧ (∀ x, x ∈ l ↔ Fo.freeB x f = true) ∧ l.length ≤ 1000000 ∧ (v = .slice none 0 0 ↔ l = [])
theorem free_ok {f : FB} {w w' : World} {e : Ending} (hv : Fo.Valid Fo.fitP f) (h : FreePost f w e w') : FreeOk f w e w' := by
  obtain ⟨hb, v, l, rfl, ho, hl, hnil, -, hr⟩ := h
  obtain ⟨sy, fr, e, -, -, hfr⟩ := Fo.look_some fitK hv
  obtain ⟨hp, hm⟩ := hr _ e
  have hm' : ∀ x, x ∈ l ↔ Fo.freeB x f = true := fun x => by
    rw [hm x, ← hfr x]
    unfold freG
    constructor
    · rintro ⟨h1, -⟩
      by_cases hx : x ∈ fr
      · exact hx
      · rw [if_neg hx] at h1; cases h1
    · intro hx
      rw [if_pos hx]
      refine ⟨rfl, ?_⟩
      have := free_small f hv.2.2.1 ((hfr x).1 hx)
      unfold maxLen; omega
  exact ⟨hb, v, l, rfl, NStrs.own ho hl (fun s hs => by have := free_small f hv.2.2.1 ((hm' s).1 hs); omega), ho, hp, hm', hl, hnil⟩

theorem symC_at (s : St ByteArray) : ∀ (l : List ByteArray) (j : Nat) (x : ByteArray), l[j]? = some x → (l.flatMap (symC s))[j * 2]? = some (.string x) ∧ (l.flatMap (symC s))[j * 2 + 1]? = some (.int .i64 (arI s x))
  | [], j, r, h => by simp at h
  | x :: l, 0, r, h => by simp at h; subst h; exact ⟨rfl, rfl⟩
  | x :: l, j + 1, r, h => by
    have h1 := symC_at s l j r (by simpa using h)
    rw [List.flatMap_cons, show (j + 1) * 2 = 2 + j * 2 by omega, show 2 + j * 2 + 1 = 2 + (j * 2 + 1) by omega]
    rw [List.getElem?_append_right (by simp [symC]), List.getElem?_append_right (by simp [symC])]
    simpa [symC] using h1
def symL (s : St ByteArray) (l : List ByteArray) : List (ByteArray × Int) := l.map fun x => (x, arI s x)
theorem syms_own {w : World} {base : Nat} {v : Value} {s : St ByteArray} {l : List ByteArray} (h : w.ownsRow base 47 2 v l.length (l.flatMap (symC s))) (hm : l.length ≤ 1000000) : Syms w w.heap.size v (symL s l) := by
  obtain ⟨A, c, rfl⟩ := own_slice h
  have hr := Reads.of_own h
  refine ⟨A, l.length, c, rfl, by simp [symL], by omega, fun h0 => ?_⟩
  obtain ⟨ad, hA, hb, hc⟩ := hr.2 h0
  refine ⟨ad, hA, hb, fun j p hp => ?_⟩
  unfold symL at hp
  rw [List.getElem?_map] at hp
  obtain ⟨x, hx, rfl⟩ := Option.map_eq_some_iff.1 hp
  obtain ⟨h1, h2⟩ := symC_at s l j x hx
  exact ⟨hc _ _ h1, hc _ _ h2⟩
/-- What Symbols returns. -/
def SymOk (f : FB) (w : World) (e : Ending) (w' : World) : Prop :=
  Below w.heap.size w w' ∧ ∃ v ss, e = .returned v ∧ Syms w' w'.heap.size v ss ∧ ss.Pairwise (fun a b => a.1.toList < b.1.toList) ∧ (∀ p, p ∈ ss ↔ p ∈ Fo.occF f []) ∧ ss.length ≤ 1000000 ∧ ∃ s l, ss = symL s l ∧ w'.ownsRow w.heap.size 47 2 v l.length (l.flatMap (symC s))
theorem sym_ok {f : FB} {w w' : World} {e : Ending} (hv : Fo.Valid Fo.fitP f) (h : SymPost f w e w') : SymOk f w e w' := by
  obtain ⟨hb, v, rfl, -, hr⟩ := h
  obtain ⟨sy, fr, e, hs, -, -⟩ := Fo.look_some fitK hv
  obtain ⟨l, hl, ⟨hp, hm⟩, ho⟩ := hr _ e
  refine ⟨hb, v, symL _ l, rfl, syms_own ho hl, ?_, fun p => ?_, by simpa [symL] using hl, _, l, rfl, ho⟩
  · unfold symL
    rw [List.pairwise_map]
    exact hp
  · have hocc := Fo.occP_occF f [] 0 0
    unfold symL
    rw [List.mem_map]
    constructor
    · rintro ⟨x, hx, rfl⟩
      have hg := ((hm x).1 hx).1
      unfold symG at hg
      cases hg2 : getM x sy with
      | none => rw [hg2] at hg; cases hg
      | some u =>
        have hk : x ∈ Fo.keysM sy := Classical.byContradiction fun hn => by rw [Fo.getM_none.2 hn] at hg2; cases hg2
        obtain ⟨o, ho1, rfl⟩ := (hs.keys x).1 hk
        have ha := hs.arity _ u hg2 o ho1 rfl
        rw [← hocc]
        refine List.mem_map.2 ⟨o, ho1, ?_⟩
        unfold arI
        rw [hg2, ha]
    · intro h
      have h' := h
      rw [← hocc] at h
      obtain ⟨o, ho1, rfl⟩ := List.mem_map.1 h
      have hk : o.1 ∈ Fo.keysM sy := (hs.keys _).2 ⟨o, ho1, rfl⟩
      cases hg2 : getM o.1 sy with
      | none => exact absurd hk (Fo.getM_none.1 hg2)
      | some u =>
        have ha := hs.arity _ u hg2 o ho1 rfl
        refine ⟨o.1, (hm _).2 ⟨by unfold symG; rw [hg2]; rfl, ?_⟩, ?_⟩
        · have := occ_small f [] hv.2.2.1 _ h'
          unfold maxLen; simp only at this; omega
        · unfold arI
          rw [hg2, ha]
theorem pos_ok {f : FB} {nm : ByteArray} {w w' : World} {e : Ending} (hv : Fo.Valid Fo.fitP f) (h : PosPost f nm w e w') : e = .returned (.tuple #[.bool (Fo.posF f nm false false), .int .i64 0]) ∧ Below w.heap.size w w' := by
  obtain ⟨hb, -, hr⟩ := h
  obtain ⟨sy, fr, e, hs, -, -⟩ := Fo.look_some fitK hv
  rw [hr _ e, Fo.look_pos hs nm]
  exact ⟨rfl, hb⟩
theorem size_ok {f : FB} (hv : Fo.Valid Fo.fitP f) : ((Fo.lookF Fo.fitP f).map (·.size)).getD 0 = Fo.size f := by
  obtain ⟨sy, fr, e, -, -, -⟩ := Fo.look_some fitK hv
  rw [e]; rfl
theorem depth_ok {f : FB} (hv : Fo.Valid Fo.fitP f) : ((Fo.lookF Fo.fitP f).map (·.depth)).getD 0 = Fo.depth f := by
  obtain ⟨sy, fr, e, -, -, -⟩ := Fo.look_some fitK hv
  rw [e]; rfl

end Go.Proofs.YtmnpelhcgobfaaaDoor

/-
  Walk: FormulaPositive.
-/
namespace Go.Proofs.YtmnpelhcgobfaaaDoor
open Go.RowKit
open Fo (F)

abbrev fObj (x0 x1 x2 x3 x4 x5 : Value) : Obj := .cells #[x0, x1, x2, x3, x4, x5] 31

/-- What a law's walk keeps: the argument's box, the words, and what lay there before. -/
structure PK (w : World) (x0 x1 x2 x3 x4 x5 : Value) (W : World) : Prop where
  bx : Bx w w.heap.size 31 #[x0, x1, x2, x3, x4, x5] W
  wds : HasW W
section
variable {w W W' : World} {x0 x1 x2 x3 x4 x5 : Value}
theorem PK.start (hw : HasW w) : PK w x0 x1 x2 x3 x4 x5 (w.alloc (.cells #[x0, x1, x2, x3, x4, x5] 31)) :=
  ⟨Bx.new w _ _, hw.below ((Below.refl _ _).alloc (Nat.le_refl _) _) (Nat.le_refl _)⟩
theorem PK.step (h : PK w x0 x1 x2 x3 x4 x5 W) (hb : Below W.heap.size W W') : PK w x0 x1 x2 x3 x4 x5 W' := ⟨h.bx.step hb, h.wds.below hb (Nat.le_refl _)⟩
theorem PK.alloc (h : PK w x0 x1 x2 x3 x4 x5 W) (o : Obj) : PK w x0 x1 x2 x3 x4 x5 (W.alloc o) := h.step ((Below.refl _ _).alloc (Nat.le_refl _) o)
theorem PK.six (h : PK w x0 x1 x2 x3 x4 x5 W) : W.cell? ⟨w.heap.size, 0, none⟩ = some x0 ∧ W.cell? ⟨w.heap.size, 1, none⟩ = some x1 ∧ W.cell? ⟨w.heap.size, 2, none⟩ = some x2 ∧ W.cell? ⟨w.heap.size, 3, none⟩ = some x3 ∧ W.cell? ⟨w.heap.size, 4, none⟩ = some x4 ∧ W.cell? ⟨w.heap.size, 5, none⟩ = some x5 := h.bx.six
theorem PK.val {f : FB} (h : PK w x0 x1 x2 x3 x4 x5 W) (hf : FVal w (· < w.heap.size) f [x0, x1, x2, x3, x4, x5]) : FVal W (· < w.heap.size) f [x0, x1, x2, x3, x4, x5] := hf.below h.bx.bel
end

theorem few_call (most : Int) {f : FB} {x0 x1 x2 x3 x4 x5 : Value} {w : World} (hf : FVal w (· < w.heap.size) f [x0, x1, x2, x3, x4, x5]) :
    Calls Tryd.prog 11 #[.int .i64 most, .slice (some ⟨w.heap.size + 1, 0, none⟩) 1 1] ((w.alloc (.cells #[x0, x1, x2, x3, x4, x5] 31)).alloc (.cells #[x0, x1, x2, x3, x4, x5] 31))
      fun e w' => IsBool e ∧ Below ((w.alloc (.cells #[x0, x1, x2, x3, x4, x5] 31)).alloc (.cells #[x0, x1, x2, x3, x4, x5] 31)).heap.size ((w.alloc (.cells #[x0, x1, x2, x3, x4, x5] 31)).alloc (.cells #[x0, x1, x2, x3, x4, x5] 31)) w' := by
  have hb : Below w.heap.size w ((w.alloc (.cells #[x0, x1, x2, x3, x4, x5] 31)).alloc (.cells #[x0, x1, x2, x3, x4, x5] 31)) := ((Below.refl _ _).alloc (Nat.le_refl _) _).alloc (by simp) _
  have hn := Blk.new (w.alloc (.cells #[x0, x1, x2, x3, x4, x5] 31)) 31 #[x0, x1, x2, x3, x4, x5]
  rw [World.size_alloc] at hn
  exact few1_any most f (w.heap.size + 1) x0 x1 x2 x3 x4 x5 w.heap.size _ hb.size (hf.below hb) hn

set_option maxRecDepth 100000 in
set_option maxHeartbeats 1000000 in
theorem fposl_bad (f : FB) (k a : Int) (n : ByteArray) (A3 : Option Addr) (n3 c3 : Nat) (A4 : Option Addr) (n4 c4 : Nat) (A : Option Addr) (m c : Nat) (nm : ByteArray) (w : World) (hf : FVal w (· < w.heap.size) f [.int .i64 k, .int .i64 a, .string n, .slice A3 n3 c3, .slice A4 n4 c4, .slice A m c])
    (_hnm : nm.size ≤ 140737488351232) (hw : HasW w) (hv : (Fo.lookF Fo.fitP f).isSome = false) :
    Calls Tryd.prog 6 #[.agg #[.int .i64 k, .int .i64 a, .string n, .slice A3 n3 c3, .slice A4 n4 c4, .slice A m c], .string nm] w fun e w' => e = .returned (.bool true) ∧ Below w.heap.size w w' := by
  have Hfew := Lib.hid (few_call 600 hf)
  have Hk0 := Lib.hid (PK.start (x0 := .int .i64 k) (x1 := .int .i64 a) (x2 := .string n) (x3 := .slice A3 n3 c3) (x4 := .slice A4 n4 c4) (x5 := .slice A m c) hw)
  have Hf := Lib.hid hf; clear hf
  have hval := fun W (hk : PK w (.int .i64 k) (.int .i64 a) (.string n) (.slice A3 n3 c3) (.slice A4 n4 c4) (.slice A m c) W) => fvalid_any f _ W w.heap.size hk.bx.bel.size (hk.val Hf.out)
  rw [hv] at hval
  have Hval := Lib.hid hval; clear hval hv
  go_enter Tryd.func6, Tryd.ntmps6
  go_wp2_with (first
    | (go_at_call 11
       refine Hfew.out.mono ?_
       rintro e w1 ⟨⟨b, rfl⟩, hb1⟩
       have K1 := Lib.hid ((Hk0.out.alloc _).step hb1); clear hb1 Hfew
       obtain ⟨e0, e1, e2, e3, e4, e5⟩ := K1.out.six
       cases b)
    | (go_at_call 12
       refine (Hval.out _ K1.out).mono ?_
       rintro e w2 ⟨rfl, hb2⟩
       have K2 := Lib.hid (K1.out.step hb2); clear hb2 K1 e0 e1 e2 e3 e4 e5)
    | (go_at_call 7
       with_reducible refine (falive_any _ K1.out.wds).mono ?_
       rintro e w5 ⟨rfl, hb5⟩
       have K5 := Lib.hid (K1.out.step hb5))
    | (go_at_call 7
       refine (falive_any _ K2.out.wds).mono ?_
       rintro e w5 ⟨rfl, hb5⟩
       have K5 := Lib.hid (K2.out.step hb5)))
  all_goals (
    go_ret
    exact ⟨rfl, K5.out.bx.bel⟩)

theorem some_valid {f : FB} (hv : Fo.Valid Fo.fitP f) : (Fo.lookF Fo.fitP f).isSome = true := look_valid.2 hv

set_option maxRecDepth 100000 in
set_option maxHeartbeats 1000000 in
theorem fposl_big (f : FB) (k a : Int) (n : ByteArray) (A3 : Option Addr) (n3 c3 : Nat) (A4 : Option Addr) (n4 c4 : Nat) (A : Option Addr) (m c : Nat) (nm : ByteArray) (w : World) (hf : FVal w (· < w.heap.size) f [.int .i64 k, .int .i64 a, .string n, .slice A3 n3 c3, .slice A4 n4 c4, .slice A m c])
    (_hnm : nm.size ≤ 140737488351232) (hw : HasW w) (hv : Fo.Valid Fo.fitP f) (hbig : 58 < Fo.depth f ∨ 3998 < Fo.size f) :
    Calls Tryd.prog 6 #[.agg #[.int .i64 k, .int .i64 a, .string n, .slice A3 n3 c3, .slice A4 n4 c4, .slice A m c], .string nm] w fun e w' => e = .returned (.bool true) ∧ Below w.heap.size w w' := by
  have Hfew := Lib.hid (few_call 600 hf)
  have Hk0 := Lib.hid (PK.start (x0 := .int .i64 k) (x1 := .int .i64 a) (x2 := .string n) (x3 := .slice A3 n3 c3) (x4 := .slice A4 n4 c4) (x5 := .slice A m c) hw)
  have Hf := Lib.hid hf; clear hf
  have hval := fun W (hk : PK w (.int .i64 k) (.int .i64 a) (.string n) (.slice A3 n3 c3) (.slice A4 n4 c4) (.slice A m c) W) => fvalid_any f _ W w.heap.size hk.bx.bel.size (hk.val Hf.out)
  rw [some_valid hv] at hval
  have hdep := fun W (hk : PK w (.int .i64 k) (.int .i64 a) (.string n) (.slice A3 n3 c3) (.slice A4 n4 c4) (.slice A m c) W) => fdepth_any f _ W w.heap.size hk.bx.bel.size (hk.val Hf.out)
  rw [depth_ok hv] at hdep
  have hsiz := fun W (hk : PK w (.int .i64 k) (.int .i64 a) (.string n) (.slice A3 n3 c3) (.slice A4 n4 c4) (.slice A m c) W) => fsize_any f _ W w.heap.size hk.bx.bel.size (hk.val Hf.out)
  rw [size_ok hv] at hsiz
  have hd60 := hv.2.1
  have hs40 := hv.1
  generalize Fo.depth f = dp at *
  generalize Fo.size f = sz at *
  have Hval := Lib.hid hval; clear hval
  have Hdep := Lib.hid hdep; clear hdep
  have Hsiz := Lib.hid hsiz; clear hsiz hv
  have hcase : 58 < dp ∨ (¬ 58 < dp ∧ 3998 < sz) := by omega
  clear hbig
  rcases hcase with hdp | ⟨hdp, hsz⟩
  all_goals (
    go_enter Tryd.func6, Tryd.ntmps6
    go_wp2_with (first
      | (go_at_call 11
         refine Hfew.out.mono ?_
         rintro e w1 ⟨⟨b, rfl⟩, hb1⟩
         have K1 := Lib.hid ((Hk0.out.alloc _).step hb1); clear hb1 Hfew
         obtain ⟨e0, e1, e2, e3, e4, e5⟩ := K1.out.six
         cases b)
      | (go_at_call 12
         refine (Hval.out _ K1.out).mono ?_
         rintro e w2 ⟨rfl, hb2⟩
         have K2 := Lib.hid (K1.out.step hb2); clear hb2 K1 e0 e1 e2 e3 e4 e5
         obtain ⟨e0, e1, e2, e3, e4, e5⟩ := K2.out.six)
      | (go_at_call 18
         refine (Hdep.out _ K2.out).mono ?_
         rintro e w3 ⟨rfl, hb3⟩
         have K3 := Lib.hid (K2.out.step hb3); clear hb3 K2 e0 e1 e2 e3 e4 e5
         obtain ⟨e0, e1, e2, e3, e4, e5⟩ := K3.out.six)
      | (go_at_call 19
         refine (Hsiz.out _ K3.out).mono ?_
         rintro e w4 ⟨rfl, hb4⟩
         have K4 := Lib.hid (K3.out.step hb4); clear hb4 K3 e0 e1 e2 e3 e4 e5)
      | (go_at_call 7
         with_reducible refine (falive_any _ K1.out.wds).mono ?_
         rintro e w5 ⟨rfl, hb5⟩
         have K5 := Lib.hid (K1.out.step hb5))
      | (go_at_call 7
         with_reducible refine (falive_any _ K2.out.wds).mono ?_
         rintro e w5 ⟨rfl, hb5⟩
         have K5 := Lib.hid (K2.out.step hb5))
      | (go_at_call 7
         with_reducible refine (falive_any _ K3.out.wds).mono ?_
         rintro e w5 ⟨rfl, hb5⟩
         have K5 := Lib.hid (K3.out.step hb5))
      | (go_at_call 7
         refine (falive_any _ K4.out.wds).mono ?_
         rintro e w5 ⟨rfl, hb5⟩
         have K5 := Lib.hid (K4.out.step hb5)))
    all_goals (
      go_ret
      exact ⟨rfl, K5.out.bx.bel⟩))

end Go.Proofs.YtmnpelhcgobfaaaDoor

/-
  Walk: the reference's Binds.
-/
namespace Go.Proofs.YtmnpelhcgobfaaaDoor
open Go.RowKit
open Fo (F)

def bindI (k a : Int) (n3 : Nat) : Int := if k = 8 ∨ k = 9 then n3 else if k = 11 then a else 0

set_option maxRecDepth 100000 in
set_option maxHeartbeats 1000000 in
theorem refbinds_any (k a : Int) (n : ByteArray) (A3 : Option Addr) (n3 c3 : Nat) (A4 : Option Addr) (n4 c4 : Nat) (A : Option Addr) (m c : Nat) (_hn3 : n3 ≤ 140737488351232) (w : World) :
    Calls Tryd.prog 15 #[.agg #[.int .i64 k, .int .i64 a, .string n, .slice A3 n3 c3, .slice A4 n4 c4, .slice A m c]] w
      fun e w' => e = .returned (.tuple #[.bool (Fo.bindsB k), .int .i64 (bindI k a n3)]) ∧ Below w.heap.size w w' := by
  have hbx := Bx.new w 31 #[.int .i64 k, .int .i64 a, .string n, .slice A3 n3 c3, .slice A4 n4 c4, .slice A m c]
  obtain ⟨e0, e1, e2, e3, e4, e5⟩ := hbx.six
  have Hb := Lib.hid hbx.bel
  clear hbx
  have hc : (k = 8 ∨ k = 9) ∨ k = 11 ∨ (¬ k = 8 ∧ ¬ k = 9 ∧ ¬ k = 11) := by omega
  rcases hc with (rfl | rfl) | rfl | ⟨h8, h9, h11⟩
  · go_enter Tryd.func15, Tryd.ntmps15
    go_wp2
    go_quiet (fail)
    go_wp2
    go_ret2
    exact ⟨rfl, below_drewN Hb.out _⟩
  · go_enter Tryd.func15, Tryd.ntmps15
    go_wp2
    go_quiet (fail)
    go_wp2
    go_ret2
    exact ⟨rfl, below_drewN Hb.out _⟩
  · go_enter Tryd.func15, Tryd.ntmps15
    go_wp2
    go_quiet (fail)
    go_wp2
    go_ret2
    exact ⟨rfl, below_drewN Hb.out _⟩
  · have hb : Fo.bindsB k = false := by simp [Fo.bindsB, h8, h9, h11]
    have hi : bindI k a n3 = 0 := by simp [bindI, h8, h9, h11]
    rw [hb, hi]
    go_enter Tryd.func15, Tryd.ntmps15
    go_wp2
    go_ret2
    exact ⟨rfl, Hb.out⟩

end Go.Proofs.YtmnpelhcgobfaaaDoor

/-
  Walk: has, of the statements of chapter 2, at a symbol that is in the list.
-/
namespace Go.Proofs.YtmnpelhcgobfaaaDoor
open Go.RowKit

set_option maxRecDepth 100000 in
set_option maxHeartbeats 400000 in
theorem fhas_any (v : Value) (ss : List (ByteArray × Int)) (pn : ByteArray) (pa : Int) (w : World) (B : Nat) (hB : B ≤ w.heap.size) (h : Syms w B v ss) (hp : (pn, pa) ∈ ss) :
    Calls Tryd.prog 17 #[v, .agg #[.string pn, .int .i64 pa]] w fun e w' => e = .returned (.bool true) ∧ Below w.heap.size w w' := by
  have h' := h
  obtain ⟨A, n, c, rfl, hn, hmx, -⟩ := h'
  have Hn := Lib.hid hn; clear hn
  have hb0 : Below w.heap.size w (w.alloc (.cells #[.string pn, .int .i64 pa] 47)) := (Below.refl _ _).alloc (Nat.le_refl _) _
  have hbk := Blk.new w 47 #[.string pn, .int .i64 pa]
  have H := Lib.hid (h.below (hb0.mono hB)); clear h
  have Hp := Lib.hid hp; clear hp
  go_enter Tryd.func17, Tryd.ntmps17
  go_wp2
  generalize w.alloc (.cells #[.string pn, .int .i64 pa] 47) = W1 at *
  have Hb0 := Lib.hid hb0; clear hb0
  have Hbk := Lib.hid hbk; clear hbk
  go_loopw [5] (fun i wr => ∃ k m : Nat, k ≤ n ∧ i = .int .i64 k ∧ (pn, pa) ∉ ss.take k ∧ wr = W1.drewN m) (fun i _ => n - (intOf i).toNat)
  case atStart => exact ⟨0, 0, Nat.zero_le _, rfl, by simp, rfl⟩
  case round =>
    obtain ⟨k, m, hk, rfl, hno, rfl⟩ := hrel
    have Hno := Lib.hid hno; clear hno
    by_cases hlt : k < n
    · obtain ⟨ad, s, rfl, -, hs, h1, h2⟩ := H.out.at_ hlt
      obtain ⟨sn, sa⟩ := s
      have c0 : W1.cell? ⟨w.heap.size, 0, none⟩ = some (.string pn) := Hbk.out.cell 0
      have c1 : W1.cell? ⟨w.heap.size, 1, none⟩ = some (.int .i64 pa) := Hbk.out.cell 1
      have Hs := Lib.hid hs; clear hs
      by_cases he : sn = pn
      · subst he
        by_cases ha : sa = pa
        · subst ha
          go_wp2
          go_quiet (fail)
          go_wp2
          go_ret
          exact ⟨rfl, below_drewN (below_drewN Hb0.out _) _⟩
        · have hn1 : (sn, pa) ∉ ss.take (k + 1) := by
            rw [take_snoc Hs.out, List.mem_append]
            rintro (h1 | h1)
            · exact Hno.out h1
            · rw [List.mem_singleton, Prod.mk.injEq] at h1; exact ha h1.2.symm
          have Hn1 := Lib.hid hn1; clear hn1
          go_wp2
          go_quiet (fail)
          go_wp2
          exact ⟨⟨k + 1, _, by omega, by go_num, Hn1.out, rfl⟩, by simp [intOf]; omega⟩
      · have hn1 : (pn, pa) ∉ ss.take (k + 1) := by
          rw [take_snoc Hs.out, List.mem_append]
          rintro (h1 | h1)
          · exact Hno.out h1
          · rw [List.mem_singleton, Prod.mk.injEq] at h1; exact he h1.1.symm
        have Hn1 := Lib.hid hn1; clear hn1
        have hbq := ne_bytes he
        go_wp2
        go_quiet (fail)
        go_wp2
        exact ⟨⟨k + 1, _, by omega, by go_num, Hn1.out, rfl⟩, by simp [intOf]; omega⟩
    · obtain rfl : k = n := by omega
      have hf : (pn, pa) ∉ ss := by have := Hno.out; rwa [List.take_of_length_le (by have := Hn.out; omega)] at this
      exact absurd Hp.out hf

end Go.Proofs.YtmnpelhcgobfaaaDoor

/-
  Walk: FormulaFree, its beginning.
-/
namespace Go.Proofs.YtmnpelhcgobfaaaDoor
open Go.RowKit
open Fo (F)

set_option maxRecDepth 100000 in
set_option maxHeartbeats 1000000 in
theorem ffreel_bad (f : FB) (k a : Int) (n : ByteArray) (A3 : Option Addr) (n3 c3 : Nat) (A4 : Option Addr) (n4 c4 : Nat) (A : Option Addr) (m c : Nat) (w : World) (hf : FVal w (· < w.heap.size) f [.int .i64 k, .int .i64 a, .string n, .slice A3 n3 c3, .slice A4 n4 c4, .slice A m c]) (hw : HasW w) (hv : (Fo.lookF Fo.fitP f).isSome = false) :
    Calls Tryd.prog 5 #[.agg #[.int .i64 k, .int .i64 a, .string n, .slice A3 n3 c3, .slice A4 n4 c4, .slice A m c]] w fun e w' => e = .returned (.bool true) ∧ Below w.heap.size w w' := by
  have Hfew := Lib.hid (few_call 600 hf)
  have Hk0 := Lib.hid (PK.start (x0 := .int .i64 k) (x1 := .int .i64 a) (x2 := .string n) (x3 := .slice A3 n3 c3) (x4 := .slice A4 n4 c4) (x5 := .slice A m c) hw)
  have Hf := Lib.hid hf; clear hf
  have hval := fun W (hk : PK w (.int .i64 k) (.int .i64 a) (.string n) (.slice A3 n3 c3) (.slice A4 n4 c4) (.slice A m c) W) => fvalid_any f _ W w.heap.size hk.bx.bel.size (hk.val Hf.out)
  rw [hv] at hval
  have Hval := Lib.hid hval; clear hval hv
  go_enter Tryd.func5, Tryd.ntmps5
  go_wp2_with (first
    | (go_at_call 11
       refine Hfew.out.mono ?_
       rintro e w1 ⟨⟨b, rfl⟩, hb1⟩
       have K1 := Lib.hid ((Hk0.out.alloc _).step hb1); clear hb1 Hfew
       obtain ⟨e0, e1, e2, e3, e4, e5⟩ := K1.out.six
       cases b)
    | (go_at_call 12
       refine (Hval.out _ K1.out).mono ?_
       rintro e w2 ⟨rfl, hb2⟩
       have K2 := Lib.hid (K1.out.step hb2); clear hb2 K1 e0 e1 e2 e3 e4 e5)
    | (go_at_call 7
       with_reducible refine (falive_any _ K1.out.wds).mono ?_
       rintro e w5 ⟨rfl, hb5⟩
       have K5 := Lib.hid (K1.out.step hb5))
    | (go_at_call 7
       refine (falive_any _ K2.out.wds).mono ?_
       rintro e w5 ⟨rfl, hb5⟩
       have K5 := Lib.hid (K2.out.step hb5)))
  all_goals (
    go_ret
    exact ⟨rfl, K5.out.bx.bel⟩)

/-- What FormulaFree keeps behind its first two calls. -/
structure FL (w : World) (x0 x1 x2 x3 x4 x5 : Value) (v1 : Value) (l1 : List ByteArray) (v2 : Value) (ss : List (ByteArray × Int)) (W : World) : Prop where
  pk : PK w x0 x1 x2 x3 x4 x5 W
  fr : Strs W (· < W.heap.size) v1 l1
  sy : Syms W W.heap.size v2 ss
theorem Strs.on {W W' : World} {v : Value} {l : List ByteArray} (h : Strs W (· < W.heap.size) v l) (hb : Below W.heap.size W W') : Strs W' (· < W'.heap.size) v l := (h.below hb).more fun _b hb' => Nat.lt_of_lt_of_le hb' hb.size
theorem Syms.on {W W' : World} {v : Value} {ss : List (ByteArray × Int)} (h : Syms W W.heap.size v ss) (hb : Below W.heap.size W W') : Syms W' W'.heap.size v ss := (h.below hb).more hb.size
theorem FL.step {w W W' : World} {x0 x1 x2 x3 x4 x5 v1 v2 : Value} {l1 : List ByteArray} {ss : List (ByteArray × Int)} (h : FL w x0 x1 x2 x3 x4 x5 v1 l1 v2 ss W) (hb : Below W.heap.size W W') : FL w x0 x1 x2 x3 x4 x5 v1 l1 v2 ss W' :=
  ⟨h.pk.step hb, h.fr.on hb, h.sy.on hb⟩
/-- What the two lists say of the formula. -/
structure Lists (f : FB) (l1 : List ByteArray) (ss : List (ByteArray × Int)) : Prop where
  fp : l1.Pairwise (fun a b => a.toList < b.toList)
  fm : ∀ x, x ∈ l1 ↔ Fo.freeB x f = true
  fl : l1.length ≤ 1000000
  sp : ss.Pairwise (fun a b => a.1.toList < b.1.toList)
  sm : ∀ p, p ∈ ss ↔ p ∈ Fo.occF f []
  sl : ss.length ≤ 1000000
/-- What Free and Symbols return, in a world that is as W was. -/
def FreeR (f : FB) (W W' : World) (v : Value) : Prop := Below W.heap.size W W' ∧ ∃ l, Strs W' (· < W'.heap.size) v l ∧ l.Pairwise (fun a b => a.toList < b.toList) ∧ (∀ x, x ∈ l ↔ Fo.freeB x f = true) ∧ l.length ≤ 1000000
def SymR (f : FB) (W W' : World) (v : Value) : Prop := Below W.heap.size W W' ∧ ∃ ss, Syms W' W'.heap.size v ss ∧ ss.Pairwise (fun a b => a.1.toList < b.1.toList) ∧ (∀ p, p ∈ ss ↔ p ∈ Fo.occF f []) ∧ ss.length ≤ 1000000
theorem free_r {f : FB} {cs : List Value} {W : World} {B : Nat} (hv : Fo.Valid Fo.fitP f) (hB : B ≤ W.heap.size) (hf : FVal W (· < B) f cs) :
    Calls Tryd.prog 13 #[.agg cs.toArray] W fun e w' => ∃ A n c, e = .returned (.slice A n c) ∧ FreeR f W w' (.slice A n c) :=
  (ffree_any f cs W B hB hf).mono fun e w' h => by
    obtain ⟨hb, v, l, rfl, hs, -, hp, hm, hl, -⟩ := free_ok hv h
    have hs' := hs
    obtain ⟨A, n, c, rfl, -⟩ := hs'
    exact ⟨A, n, c, rfl, hb, l, hs.more fun b h => h.2, hp, hm, hl⟩
theorem sym_r {f : FB} {cs : List Value} {W : World} {B : Nat} (hv : Fo.Valid Fo.fitP f) (hB : B ≤ W.heap.size) (hf : FVal W (· < B) f cs) :
    Calls Tryd.prog 14 #[.agg cs.toArray] W fun e w' => ∃ A n c, e = .returned (.slice A n c) ∧ SymR f W w' (.slice A n c) :=
  (fsymbols_any f cs W B hB hf).mono fun e w' h => by
    obtain ⟨hb, v, ss, rfl, hs, hp, hm, hl, -⟩ := sym_ok hv h
    have hs' := hs
    obtain ⟨A, n, c, rfl, -⟩ := hs'
    exact ⟨A, n, c, rfl, hb, ss, hs, hp, hm, hl⟩
theorem FL.of1 {f : FB} {w W W' W'' : World} {x0 x1 x2 x3 x4 x5 v1 v2 : Value} (h : PK w x0 x1 x2 x3 x4 x5 W) (h1 : FreeR f W W' v1) (h2 : SymR f W' W'' v2) : ∃ l1 ss, FL w x0 x1 x2 x3 x4 x5 v1 l1 v2 ss W'' ∧ Lists f l1 ss := by
  obtain ⟨hb1, l, a1, a2, a3, a4⟩ := h1
  obtain ⟨hb2, ss, b1, b2, b3, b4⟩ := h2
  exact ⟨l, ss, ⟨(h.step hb1).step hb2, a1.on hb2, b1⟩, ⟨a2, a3, a4, b2, b3, b4⟩⟩
theorem FL.of2 {f : FB} {w W W' W'' : World} {x0 x1 x2 x3 x4 x5 v1 v2 : Value} (h : PK w x0 x1 x2 x3 x4 x5 W) (h2 : SymR f W W' v2) (h1 : FreeR f W' W'' v1) : ∃ l1 ss, FL w x0 x1 x2 x3 x4 x5 v1 l1 v2 ss W'' ∧ Lists f l1 ss := by
  obtain ⟨hb1, l, a1, a2, a3, a4⟩ := h1
  obtain ⟨hb2, ss, b1, b2, b3, b4⟩ := h2
  exact ⟨l, ss, ⟨(h.step hb2).step hb1, a1, b1.on hb1⟩, ⟨a2, a3, a4, b2, b3, b4⟩⟩

/-- Besides, the two lists of a kid. -/
structure FM (w : World) (x0 x1 x2 x3 x4 x5 : Value) (v1 : Value) (l1 : List ByteArray) (v2 : Value) (ss : List (ByteArray × Int)) (u1 : Value) (m1 : List ByteArray) (u2 : Value) (s2 : List (ByteArray × Int)) (W : World) : Prop where
  fl : FL w x0 x1 x2 x3 x4 x5 v1 l1 v2 ss W
  kf : Strs W (· < W.heap.size) u1 m1
  kt : Syms W W.heap.size u2 s2
theorem FM.step {w W W' : World} {x0 x1 x2 x3 x4 x5 v1 v2 u1 u2 : Value} {l1 m1 : List ByteArray} {ss s2 : List (ByteArray × Int)} (h : FM w x0 x1 x2 x3 x4 x5 v1 l1 v2 ss u1 m1 u2 s2 W) (hb : Below W.heap.size W W') : FM w x0 x1 x2 x3 x4 x5 v1 l1 v2 ss u1 m1 u2 s2 W' :=
  ⟨h.fl.step hb, h.kf.on hb, h.kt.on hb⟩
theorem FM.of1 {g : FB} {w W W' W'' : World} {x0 x1 x2 x3 x4 x5 v1 v2 u1 u2 : Value} {l1 : List ByteArray} {ss : List (ByteArray × Int)} (h : FL w x0 x1 x2 x3 x4 x5 v1 l1 v2 ss W) (h1 : FreeR g W W' u1) (h2 : SymR g W' W'' u2) : ∃ m1 s2, FM w x0 x1 x2 x3 x4 x5 v1 l1 v2 ss u1 m1 u2 s2 W'' ∧ Lists g m1 s2 := by
  obtain ⟨hb1, l, a1, a2, a3, a4⟩ := h1
  obtain ⟨hb2, s2, b1, b2, b3, b4⟩ := h2
  exact ⟨l, s2, ⟨(h.step hb1).step hb2, a1.on hb2, b1⟩, ⟨a2, a3, a4, b2, b3, b4⟩⟩
/-- The lists of the kids ahead of t have been counted. -/
structure Done (ks : List FB) (t : Nat) (d1 : List ByteArray) (d2 : List (ByteArray × Int)) : Prop where
  h1 : ∀ j g, j < t → ks[j]? = some g → ∀ x, Fo.freeB x g = true → x ∈ d1
  h2 : ∀ j g, j < t → ks[j]? = some g → ∀ p ∈ Fo.occF g [], p ∈ d2
  l1 : d1.length ≤ t * 1000000
  l2 : d2.length ≤ t * 1000000
theorem Done.zero (ks : List FB) : Done ks 0 [] [] := ⟨fun j g h => absurd h (by omega), fun j g h => absurd h (by omega), by simp, by simp⟩
theorem Done.snoc {ks : List FB} {t : Nat} {d1 m1 : List ByteArray} {d2 s2 : List (ByteArray × Int)} {g : FB} (h : Done ks t d1 d2) (hg : ks[t]? = some g) (hl : Lists g m1 s2) : Done ks (t + 1) (d1 ++ m1) (d2 ++ s2) := by
  refine ⟨fun j g' hj hg' x hx => ?_, fun j g' hj hg' p hp => ?_, ?_, ?_⟩
  · rcases Nat.lt_or_ge j t with hlt | hge
    · exact List.mem_append_left _ (h.h1 j g' hlt hg' x hx)
    · obtain rfl : j = t := by omega
      rw [hg] at hg'; obtain rfl := Option.some.inj hg'
      exact List.mem_append_right _ ((hl.fm x).2 hx)
  · rcases Nat.lt_or_ge j t with hlt | hge
    · exact List.mem_append_left _ (h.h2 j g' hlt hg' p hp)
    · obtain rfl : j = t := by omega
      rw [hg] at hg'; obtain rfl := Option.some.inj hg'
      exact List.mem_append_right _ ((hl.sm p).2 hp)
  · have := h.l1; have := hl.fl; rw [List.length_append, Nat.add_mul]; omega
  · have := h.l2; have := hl.sl; rw [List.length_append, Nat.add_mul]; omega
theorem size_len : ∀ l : List FB, l.length ≤ Fo.sizes l
  | [] => Nat.zero_le _
  | f :: l => by have := size_len l; have := Fo.size_pos f; rw [Fo.sizes, List.length_cons]; omega
/-- The counts suffice. -/
theorem Done.counts {f : FB} {k a : Int} {n : ByteArray} {ws ar : List ByteArray} {ks : List FB} {l1 d1 : List ByteArray} {ss d2 : List (ByteArray × Int)} (hfe : f = .mk k a n ws ar ks) (hv : Fo.Valid Fo.fitP f) (hl : Lists f l1 ss) (hd : Done ks ks.length d1 d2) :
    l1.length ≤ ar.length + d1.length ∧ ss.length ≤ (if k = 0 then 1 else 0) + d2.length := by
  subst hfe
  constructor
  · rw [← List.length_append]
    refine Fo.nodup_length _ _ (hl.fp.imp fun h e => by subst e; exact List.lt_irrefl _ h) fun x hx => ?_
    rcases Fo.free_kids.1 ((hl.fm x).1 hx) with h | ⟨-, g, hg, h⟩
    · exact List.mem_append_left _ h
    · obtain ⟨j, hj, rfl⟩ := List.mem_iff_getElem.1 hg
      exact List.mem_append_right _ (hd.h1 j _ hj (List.getElem?_eq_getElem hj) x h)
  · have hnd : ss.Nodup := hl.sp.imp fun h e => by subst e; exact List.lt_irrefl _ h
    by_cases hk : k = 0
    · rw [if_pos hk]
      have h1 := Fo.nodup_length ss [(n, (ar.length : Int))] hnd fun p hp => by
        have := (hl.sm p).1 hp
        rw [Fo.occF, if_pos hk] at this
        simpa using this
      simp at h1
      omega
    · rw [if_neg hk, Nat.zero_add]
      refine Fo.nodup_length _ _ hnd fun p hp => ?_
      obtain ⟨g, hg, h, -⟩ := (Fo.occ_kids hk p).1 ((hl.sm p).1 hp)
      obtain ⟨j, hj, rfl⟩ := List.mem_iff_getElem.1 hg
      exact hd.h2 j _ hj (List.getElem?_eq_getElem hj) p h

end Go.Proofs.YtmnpelhcgobfaaaDoor

/-
  Plain: a quiet walk of the first operations of a region is a still walk of them, where the class of worlds has one member.
-/
namespace Go.Proofs.YtmnpelhcgobfaaaDoor
open Go

variable {P : Program} {ops : Array Oper} {C : World → Prop} {wd : World} {Q : Act → Prop}

theorem still_of_quiet (hC : C wd) (h1 : ∀ w', C w' → w' = wd) : ∀ (l : List Oper) (a : Act), wpQuiet P ops C Q l a → wpStill P ops wd Q l a
  | [], a, h => h
  | o :: rest, a, h => by
    unfold wpQuiet at h
    unfold wpStill
    cases hw : Region.wanted o (yielded ops a.tmps)
    · rw [hw] at h
      exact still_of_quiet hC h1 rest _ h
    · rw [hw] at h
      simp only [if_true] at h ⊢
      obtain ⟨v, hv, hn⟩ := h
      have hq := hv wd hC
      have hn' := still_of_quiet hC h1 rest _ hn
      unfold Oper.quietAt at hq
      unfold Oper.still
      generalize (execOp a.eval o).run P wd = r at hq
      match r, hq with
      | .ok (.value u) w', hq => obtain ⟨rfl, rfl⟩ := hq; exact ⟨rfl, hn'⟩
      | .ok .skip w', hq => obtain ⟨rfl, rfl⟩ := hq; exact ⟨rfl, hn'⟩
      | .ok (.enter f args) w', hq =>
        obtain ⟨rfl, hc⟩ := hq
        exact ⟨rfl, v, hc.mono fun e w'' hh => ⟨hh.1, h1 _ hh.2⟩, hn'⟩

/-- The class of the one world, in the words of the quiet walk. -/
theorem one_in (w : World) : ∃ n : Nat, w = w.drewN (0 * n) := ⟨0, rfl⟩
theorem one_only {w : World} : ∀ w' : World, (∃ n : Nat, w' = w.drewN (0 * n)) → w' = w := by
  rintro w' ⟨n, rfl⟩
  rw [Nat.zero_mul]
  rfl

theorem region_quiet_tail {id : Nat} {Q : Exit → Act → World → Prop} {a : Act} {w : World} {l : List Oper} (n : Nat) (hm : P.follows .mixedOrders = true) (hB : Region.lexTailB .any l.toArray n = true)
    (h : wpQuiet P l.toArray (fun w' => ∃ n : Nat, w' = (w.drew).drewN (0 * n)) (fun a' => wpList P l.toArray Q (l.drop n) a' w.drew) (l.take n) a) : (Code.region id l.toArray true).wp P Q a w :=
  wp_region_still_tail n hm hB (still_of_quiet (one_in _) one_only _ _ h)

end Go.Proofs.YtmnpelhcgobfaaaDoor
