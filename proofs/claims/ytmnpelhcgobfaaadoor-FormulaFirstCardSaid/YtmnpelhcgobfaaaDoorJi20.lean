/-
  Texts joined: Ffew, Syms, Ffacts, Fposl, Fblal, Ffirst.
-/
import Derived.Test.YtmnpelhcgobfaaaDoorJi18
import Derived.Test.YtmnpelhcgobfaaaDoorJi3
import Derived.Deep.CutBlock
import Derived.Deep.DeepCutAuto
import Derived.Test.YtmnpelhcgobfaaaDoorJi1
import Derived.Test.YtmnpelhcgobfaaaDoorJi17
import Derived.Test.YtmnpelhcgobfaaaDoorJi4
import Derived.Test.YtmnpelhcgobfaaaDoorJi19
import Derived.Test.YtmnpelhcgobfaaaDoorJi2

/-
  Walks: weigh and Few of one formula, of the statements of chapter 2: a truth value, and nothing turns.
-/
namespace Go.Proofs.YtmnpelhcgobfaaaDoor
open Go.RowKit
open Fo (F)

/-- It returns a number. -/
def IsInt (e : Ending) : Prop := ∃ E : Int, e = .returned (.int .i64 E)
/-- It returns a truth value. -/
def IsBool (e : Ending) : Prop := ∃ b, e = .returned (.bool b)

set_option maxRecDepth 100000 in
set_option maxHeartbeats 1000000 in
theorem weigh_any : ∀ (N : Nat) (f : FB) (cs : List Value) (B : Nat) (w : World) (n most : Int), Fo.size f ≤ N → B ≤ w.heap.size → FVal w (· < B) f cs →
    Calls Tryd.prog 26 #[.agg cs.toArray, .int .i64 n, .int .i64 most] w fun e w' => IsInt e ∧ Below w.heap.size w w'
  | 0, f, cs, B, w, n, most, hN, hB, hf => by have := Fo.size_pos f; omega
  | N + 1, .mk k a nm vs ar ks, cs, B, w, n, most, hN, hB, hf => by
    obtain ⟨A3, n3, c3, A4, n4, c4, A, m, c, rfl, -⟩ := hf.open_
    obtain ⟨hnn, h3, h4, hmk, hmm, hkc, hkid⟩ := six_of hf
    have ih := fun (g : FB) (ds : List Value) (W : World) (x y : Int) (hg : g ∈ ks) (hW : B ≤ W.heap.size) (hfv : FVal W (· < B) g ds) => weigh_any N g ds B W x y (by rw [Fo.size] at hN; have := Fo.sizes_mem hg; omega) hW hfv
    have hbx := Bx.new w 31 #[.int .i64 k, .int .i64 a, .string nm, .slice A3 n3 c3, .slice A4 n4 c4, .slice A m c]
    have Ih := Lib.hid ih; clear ih hN
    have Hkid := Lib.hid hkid; clear hkid
    have Hmk := Lib.hid hmk; clear hmk
    have hm3 : n3 ≤ 140737488351232 := by obtain ⟨_, _, _, e, _, h, -⟩ := h3; injection e with _ e; omega
    have hm4 : n4 ≤ 140737488351232 := by obtain ⟨_, _, _, e, _, h, -⟩ := h4; injection e with _ e; omega
    have Hbx := Lib.hid hbx; clear hbx
    go_enter Tryd.func26, Tryd.ntmps26
    go_upto_block 0 with fail
    generalize (w.alloc (.cells #[.int .i64 k, .int .i64 a, .string nm, .slice A3 n3 c3, .slice A4 n4 c4, .slice A m c] 31)) = W1 at *
    have H3 := Lib.hid (h3.below (Hbx.out.bel.mono hB))
    have H4 := Lib.hid (h4.below (Hbx.out.bel.mono hB))
    clear h3 h4 hf hnn hkc
    have HB := Lib.hid hB; clear hB
    have z3 : W1.cell? ⟨w.heap.size, 3, none⟩ = some (.slice A3 n3 c3) := Hbx.out.blk.cell 3
    have z4 : W1.cell? ⟨w.heap.size, 4, none⟩ = some (.slice A4 n4 c4) := Hbx.out.blk.cell 4
    have z5 : W1.cell? ⟨w.heap.size, 5, none⟩ = some (.slice A m c) := Hbx.out.blk.cell 5
    go_cut [1, 7] from 25 to 45 (fun e i wx => W1 = wx ∧ ∃ E I : Int, e = .int .i64 E ∧ i = .int .i64 I)
    case first =>
      go_wp2_with fail
      go_loop [1, 7] (fun e i => ∃ (E : Int) (j : Nat), j ≤ n3 ∧ e = .int .i64 E ∧ i = .int .i64 j) (fun _ i => n3 - (intOf i).toNat)
      case atStart => exact ⟨_, 0, Nat.zero_le _, rfl, rfl⟩
      case round =>
        obtain ⟨E, j, hj, rfl, rfl⟩ := hrel
        rcases (by omega : (j < n3 ∧ E ≤ most) ∨ (j < n3 ∧ ¬ E ≤ most) ∨ ¬ j < n3) with ⟨hlt, hle⟩ | ⟨hlt, hle⟩ | hlt
        · obtain ⟨ad, s, rfl, hb, hs, hc, hsz⟩ := H3.out.at_ hlt
          go_wp2
          exact ⟨⟨_, j + 1, by omega, rfl, by go_num⟩, by simp [intOf]; omega⟩
        all_goals (
          go_wp2
          go_meet
          exact ⟨rfl, _, _, rfl, rfl⟩)
    case rest =>
      obtain ⟨rfl, E, I, rfl, rfl⟩ := hcut
      clear z3
      go_upto_block 2 with fail
      go_cut [1, 8] from 46 to 66 (fun e i wx => W1 = wx ∧ ∃ E I : Int, e = .int .i64 E ∧ i = .int .i64 I)
      case first =>
        go_wp2_with fail
        go_loop [1, 8] (fun e i => ∃ (E : Int) (j : Nat), j ≤ n4 ∧ e = .int .i64 E ∧ i = .int .i64 j) (fun _ i => n4 - (intOf i).toNat)
        case atStart => exact ⟨_, 0, Nat.zero_le _, rfl, rfl⟩
        case round =>
          obtain ⟨E, j, hj, rfl, rfl⟩ := hrel
          rcases (by omega : (j < n4 ∧ E ≤ most) ∨ (j < n4 ∧ ¬ E ≤ most) ∨ ¬ j < n4) with ⟨hlt, hle⟩ | ⟨hlt, hle⟩ | hlt
          · obtain ⟨ad, s, rfl, hb, hs, hc, hsz⟩ := H4.out.at_ hlt
            go_wp2
            exact ⟨⟨_, j + 1, by omega, rfl, by go_num⟩, by simp [intOf]; omega⟩
          all_goals (
            go_wp2
            go_meet
            exact ⟨rfl, _, _, rfl, rfl⟩)
      case rest =>
        obtain ⟨rfl, E, I, rfl, rfl⟩ := hcut
        clear z4 H3 H4
        go_wp2
        go_loopw [1, 9] (fun e i wr => ∃ (E : Int) (j : Nat), j ≤ m ∧ e = .int .i64 E ∧ i = .int .i64 j ∧ Bx w w.heap.size 31 #[.int .i64 k, .int .i64 a, .string nm, .slice A3 n3 c3, .slice A4 n4 c4, .slice A m c] wr) (fun _ i _ => m - (intOf i).toNat)
        case atStart => exact ⟨_, 0, Nat.zero_le _, rfl, rfl, Hbx.out⟩
        case round =>
          obtain ⟨E3, t, ht, rfl, rfl, hbw⟩ := hrel
          have Hbw := Lib.hid hbw; clear hbw z5
          have v5 : wr.cell? ⟨w.heap.size, 5, none⟩ = some (.slice A m c) := Hbw.out.blk.cell 5
          rcases (by omega : (t < m ∧ E3 ≤ most) ∨ (t < m ∧ ¬ E3 ≤ most) ∨ ¬ t < m) with ⟨hlt3, hle3⟩ | ⟨hlt3, hle3⟩ | hlt3
          · obtain ⟨ad, rfl, had, hkids⟩ := Hkid.out (by omega)
            obtain ⟨g, hg⟩ : ∃ g, ks[t]? = some g := ⟨ks[t]'(by have := Hmk.out; omega), List.getElem?_eq_getElem _⟩
            obtain ⟨k', a', n', B3, r3, s3, B4, r4, s4, B', r, s, hkd⟩ := kid_at (wr := wr) hkids had hg (fun p hp => (Hbw.out.bel.mono HB.out).cell hp)
            have e0 := hkd.c0
            have e1 := hkd.c1
            have e2 := hkd.c2
            have e3 := hkd.c3
            have e4 := hkd.c4
            have e5 := hkd.c5
            have hcall := Ih.out g _ wr E3 most (List.mem_of_getElem? hg) (Nat.le_trans HB.out Hbw.out.bel.size) hkd.val
            have Hcall := Lib.hid hcall; clear hcall hkd hkids hg
            go_wp2_with (go_at_call 26; refine (Hcall.out).mono ?_; rintro e w4 ⟨⟨E4, rfl⟩, hb4⟩; have Hb4 := Lib.hid hb4; clear hb4)
            exact ⟨⟨_, t + 1, by omega, rfl, by go_num, Hbw.out.step Hb4.out⟩, by simp [intOf]; omega⟩
          all_goals (
            go_wp2
            go_ret
            exact ⟨⟨_, rfl⟩, Hbw.out.bel⟩)

theorem one_val {w : World} {S : Nat → Prop} {f : FB} {x0 x1 x2 x3 x4 x5 : Value} {g : Nat} (h : FVal w S f [x0, x1, x2, x3, x4, x5]) (hb : Blk w g 31 #[x0, x1, x2, x3, x4, x5]) : FKids w S ⟨g, 0, none⟩ [f] 0 :=
  ⟨⟨x0, x1, x2, x3, x4, x5, hb.cell 0, hb.cell 1, hb.cell 2, hb.cell 3, hb.cell 4, hb.cell 5, h⟩, trivial⟩

set_option maxRecDepth 100000 in
set_option maxHeartbeats 1000000 in
theorem few1_any (most : Int) (f : FB) (g : Nat) (x0 x1 x2 x3 x4 x5 : Value) (B : Nat) (w : World) (hB : B ≤ w.heap.size) (hf : FVal w (· < B) f [x0, x1, x2, x3, x4, x5]) (hb : Blk w g 31 #[x0, x1, x2, x3, x4, x5]) :
    Calls Tryd.prog 11 #[.int .i64 most, .slice (some ⟨g, 0, none⟩) 1 1] w fun e w' => IsBool e ∧ Below w.heap.size w w' := by
  have hcall := fun x => weigh_any (Fo.size f) f _ B w x most (Nat.le_refl _) hB hf
  have Hcall := Lib.hid hcall; clear hcall
  have e0 := hb.cell 0
  have e1 := hb.cell 1
  have e2 := hb.cell 2
  have e3 := hb.cell 3
  have e4 := hb.cell 4
  have e5 := hb.cell 5
  have hsix : ∃ k a n A3 n3 c3 A4 n4 c4 A m c, x0 = .int .i64 k ∧ x1 = .int .i64 a ∧ x2 = .string n ∧ x3 = .slice A3 n3 c3 ∧ x4 = .slice A4 n4 c4 ∧ x5 = .slice A m c := by
    obtain ⟨k', a', n', ws', ar', ks'⟩ := f
    obtain ⟨B3, r3, s3, B4, r4, s4, B, r, s, hcs, -⟩ := hf.open_
    simp only [List.cons.injEq, and_true] at hcs
    obtain ⟨rfl, rfl, rfl, rfl, rfl, rfl⟩ := hcs
    exact ⟨_, _, _, _, _, _, _, _, _, _, _, _, rfl, rfl, rfl, rfl, rfl, rfl⟩
  obtain ⟨k, a, n, A3, n3, c3, A4, n4, c4, A, m, c, rfl, rfl, rfl, rfl, rfl, rfl⟩ := hsix
  clear hb hf
  go_enter Tryd.func11, Tryd.ntmps11
  go_wp2
  go_loopw [5, 6] (fun e i wr => ∃ (E : Int) (j : Nat), j ≤ 1 ∧ e = .int .i64 E ∧ i = .int .i64 j ∧ (j = 0 → wr = w) ∧ Below w.heap.size w wr) (fun _ i _ => 1 - (intOf i).toNat)
  case atStart => exact ⟨0, 0, by omega, rfl, rfl, fun _ => rfl, Below.refl _ _⟩
  case round =>
    obtain ⟨E, j, hj, rfl, rfl, hw, hbw⟩ := hrel
    rcases (by omega : (j < 1 ∧ E ≤ most) ∨ (j < 1 ∧ ¬ E ≤ most) ∨ ¬ j < 1) with ⟨hlt, hle⟩ | ⟨hlt, hle⟩ | hlt
    · obtain rfl : j = 0 := by omega
      obtain rfl := hw rfl
      clear hbw
      go_wp2_with (go_at_call 26; refine (Hcall.out _).mono ?_; rintro e w4 ⟨⟨E4, rfl⟩, hb4⟩; have Hb4 := Lib.hid hb4; clear hb4)
      exact ⟨⟨_, 1, by omega, rfl, by go_num, fun h => absurd h (by decide), Hb4.out⟩, by simp [intOf]⟩
    all_goals (
      have Hbw := Lib.hid hbw; clear hbw hw
      go_wp2
      all_goals (
        go_ret
        exact ⟨⟨_, rfl⟩, Hbw.out⟩))
end Go.Proofs.YtmnpelhcgobfaaaDoor

/-
  Symbols in memory; walk: SameSymbols of two slices with the same symbols.
-/
namespace Go.Proofs.YtmnpelhcgobfaaaDoor
open Go.RowKit

/-- A value that is a slice of symbols. -/
def Syms (w : World) (B : Nat) (v : Value) (ss : List (ByteArray × Int)) : Prop :=
  ∃ A n c, v = .slice A n c ∧ n = ss.length ∧ n ≤ 140737488351232 ∧
    (0 < n → ∃ ad, A = some ad ∧ ad.block < B ∧ ∀ j s, ss[j]? = some s → w.cell? (ad.add (j * 2)) = some (.string s.1) ∧ w.cell? (ad.add (j * 2 + 1)) = some (.int .i64 s.2))
section
variable {w w' : World} {B B' : Nat} {v : Value} {ss : List (ByteArray × Int)}
theorem Syms.nil : Syms w B (.slice none 0 0) [] := ⟨_, _, _, rfl, rfl, by omega, fun h => absurd h (by omega)⟩
theorem Syms.keep (h : Syms w B v ss) (hk : ∀ p : Addr, p.block < B → w'.cell? p = w.cell? p) : Syms w' B v ss := by
  obtain ⟨A, n, c, h1, h2, h3, h4⟩ := h
  refine ⟨A, n, c, h1, h2, h3, fun hn => ?_⟩
  obtain ⟨ad, e, hb, hc⟩ := h4 hn
  exact ⟨ad, e, hb, fun j s hs => ⟨(hk _ (by rw [block_of_add]; exact hb)).trans (hc j s hs).1, (hk _ (by rw [block_of_add]; exact hb)).trans (hc j s hs).2⟩⟩
theorem Syms.below (h : Syms w B v ss) (hb : Below B w w') : Syms w' B v ss := h.keep fun _ hp => hb.cell hp
theorem Syms.more (h : Syms w B v ss) (hB : B ≤ B') : Syms w B' v ss := by
  obtain ⟨A, n, c, h1, h2, h3, h4⟩ := h
  refine ⟨A, n, c, h1, h2, h3, fun hn => ?_⟩
  obtain ⟨ad, e, hb, hc⟩ := h4 hn
  exact ⟨ad, e, by omega, hc⟩
theorem Syms.at_ {A : Option Addr} {n c k : Nat} (h : Syms w B (.slice A n c) ss) (hk : k < n) :
    ∃ ad s, A = some ad ∧ ad.block < B ∧ ss[k]? = some s ∧ w.cell? (ad.add (k * 2)) = some (.string s.1) ∧ w.cell? ⟨(ad.add (k * 2)).block, (ad.add (k * 2)).off + 1, none⟩ = some (.int .i64 s.2) := by
  obtain ⟨A', n', c', h1, h2, h3, h4⟩ := h
  injection h1 with e1 e2 e3
  subst e1 e2 e3
  obtain ⟨ad, hA, hb, hc⟩ := h4 (by omega)
  have hl : k < ss.length := by omega
  obtain ⟨h1, h2⟩ := hc k ss[k] (List.getElem?_eq_getElem hl)
  refine ⟨ad, ss[k], hA, hb, List.getElem?_eq_getElem hl, h1, ?_⟩
  rw [← add_field ad (k * 2) 0]; exact h2
end

end Go.Proofs.YtmnpelhcgobfaaaDoor

/-
  What the queries of package formula return of a valid formula, in the words of the plain mathematics.
-/
namespace Go.Proofs.YtmnpelhcgobfaaaDoor
open Go.RowKit
open Fo (F St getM)

theorem fitK : ∀ (a : Int) (n : ByteArray) (vs as_ : List ByteArray) (k : Nat), Fo.fitP 0 a n vs as_ k = true → k = 0 := fun _ _ _ _ _ h => Fo.fit_kids h
theorem look_valid {f : FB} : (Fo.lookF Fo.fitP f).isSome = true ↔ Fo.Valid Fo.fitP f := by
  constructor
  · intro h
    refine Classical.byContradiction fun hn => ?_
    rw [Fo.look_none fitK hn] at h
    cases h
  · intro h
    obtain ⟨sy, fr, e, -⟩ := Fo.look_some fitK h
    rw [e]; rfl
theorem look_bool {f : FB} (b : Bool) (h : b = true ↔ Fo.Valid Fo.fitP f) : (Fo.lookF Fo.fitP f).isSome = b := by
  cases b
  · cases e : (Fo.lookF Fo.fitP f).isSome
    · rfl
    · exact absurd (h.2 (look_valid.1 e)) (by simp)
  · exact look_valid.2 (h.1 rfl)

mutual
theorem free_small {x : ByteArray} : ∀ (f : FB), Fo.shapes Fo.fitP f = true → Fo.freeB x f = true → x.size ≤ 12
  | .mk k a n vs ar ks, hs, h => by
    rw [Fo.shapes, Bool.and_eq_true] at hs
    rw [Fo.freeB, Bool.or_eq_true, Bool.and_eq_true] at h
    rcases h with h | ⟨-, h⟩
    · exact (fit_facts hs.1).2.2.2 x (of_decide_eq_true h)
    · exact freeL_small ks hs.2 h
theorem freeL_small {x : ByteArray} : ∀ (l : List FB), Fo.shapesL Fo.fitP l = true → Fo.freeLB x l = true → x.size ≤ 12
  | [], _, h => by rw [Fo.freeLB] at h; cases h
  | f :: l, hs, h => by
    rw [Fo.shapesL, Bool.and_eq_true] at hs
    rw [Fo.freeLB, Bool.or_eq_true] at h
    rcases h with h | h
    · exact free_small f hs.1 h
    · exact freeL_small l hs.2 h
end
mutual
theorem occ_small : ∀ (f : FB) (bd : List ByteArray), Fo.shapes Fo.fitP f = true → ∀ o ∈ Fo.occF f bd, o.1.size ≤ 12
  | .mk k a n vs ar ks, bd, hs, o, h => by
    rw [Fo.shapes, Bool.and_eq_true] at hs
    rw [Fo.occF] at h
    by_cases hk : k = 0
    · rw [if_pos hk] at h
      split at h
      · cases h
      · rw [List.mem_singleton] at h
        subst h hk
        have h2 := hs.1
        simp only [Fo.fitP, Bool.and_eq_true] at h2
        have h3 := h2.1.1.1.2
        simp only [Fo.namedB, if_neg (show ¬ (0 : Int) = 11 by decide), true_or, if_true, Bool.and_eq_true] at h3
        exact nmB_size h3.1
    · rw [if_neg hk] at h
      exact occL_small ks _ hs.2 o h
theorem occL_small : ∀ (l : List FB) (bd : List ByteArray), Fo.shapesL Fo.fitP l = true → ∀ o ∈ Fo.occFL l bd, o.1.size ≤ 12
  | [], bd, _, o, h => by rw [Fo.occFL] at h; cases h
  | f :: l, bd, hs, o, h => by
    rw [Fo.shapesL, Bool.and_eq_true] at hs
    rw [Fo.occFL, List.mem_append] at h
    rcases h with h | h
    · exact occ_small f bd hs.1 o h
    · exact occL_small l bd hs.2 o h
end

/-- A row of strings that the call owns. -/
def OwnStrs (w : World) (L : Nat) (v : Value) (l : List ByteArray) : Prop := w.ownsRow L 9 1 v l.length (l.map Value.string)
/-- What Free returns. -/
def FreeOk (f : FB) (w : World) (e : Ending) (w' : World) : Prop :=
  Below w.heap.size w w' ∧ ∃ v l, e = .returned v ∧ NStrs w' w.heap.size v l ∧ OwnStrs w' w.heap.size v l ∧ l.Pairwise (fun a b => a.toList < b.toList) ∧ (∀ x, x ∈ l ↔ Fo.freeB x f = true) ∧ l.length ≤ 1000000 ∧ (v = .slice none 0 0 ↔ l = [])
theorem free_ok {f : FB} {w w' : World} {e : Ending} (hv : Fo.Valid Fo.fitP f) (h : FreePost f w e w') : FreeOk f w e w' := by
  obtain ⟨hb, v, l, rfl, ho, hl, hnil, -, hr⟩ := h
  obtain ⟨sy, fr, e, -, -, hfr⟩ := Fo.look_some fitK hv
  obtain ⟨hp, hm⟩ := hr _ e
  have hm' : ∀ x, x ∈ l ↔ Fo.freeB x f = true := fun x => by
    rw [hm x, ← hfr x]
    unfold freG
    constructor
    · rintro ⟨h1, -⟩
      by_cases hx : x ∈ fr
      · exact hx
      · rw [if_neg hx] at h1; cases h1
    · intro hx
      rw [if_pos hx]
      refine ⟨rfl, ?_⟩
      have := free_small f hv.2.2.1 ((hfr x).1 hx)
      unfold maxLen; omega
  exact ⟨hb, v, l, rfl, NStrs.own ho hl (fun s hs => by have := free_small f hv.2.2.1 ((hm' s).1 hs); omega), ho, hp, hm', hl, hnil⟩

theorem symC_at (s : St ByteArray) : ∀ (l : List ByteArray) (j : Nat) (x : ByteArray), l[j]? = some x → (l.flatMap (symC s))[j * 2]? = some (.string x) ∧ (l.flatMap (symC s))[j * 2 + 1]? = some (.int .i64 (arI s x))
  | [], j, r, h => by simp at h
  | x :: l, 0, r, h => by simp at h; subst h; exact ⟨rfl, rfl⟩
  | x :: l, j + 1, r, h => by
    have h1 := symC_at s l j r (by simpa using h)
    rw [List.flatMap_cons, show (j + 1) * 2 = 2 + j * 2 by omega, show 2 + j * 2 + 1 = 2 + (j * 2 + 1) by omega]
    rw [List.getElem?_append_right (by simp [symC]), List.getElem?_append_right (by simp [symC])]
    simpa [symC] using h1
def symL (s : St ByteArray) (l : List ByteArray) : List (ByteArray × Int) := l.map fun x => (x, arI s x)
theorem syms_own {w : World} {base : Nat} {v : Value} {s : St ByteArray} {l : List ByteArray} (h : w.ownsRow base 47 2 v l.length (l.flatMap (symC s))) (hm : l.length ≤ 1000000) : Syms w w.heap.size v (symL s l) := by
  obtain ⟨A, c, rfl⟩ := own_slice h
  have hr := Reads.of_own h
  refine ⟨A, l.length, c, rfl, by simp [symL], by omega, fun h0 => ?_⟩
  obtain ⟨ad, hA, hb, hc⟩ := hr.2 h0
  refine ⟨ad, hA, hb, fun j p hp => ?_⟩
  unfold symL at hp
  rw [List.getElem?_map] at hp
  obtain ⟨x, hx, rfl⟩ := Option.map_eq_some_iff.1 hp
  obtain ⟨h1, h2⟩ := symC_at s l j x hx
  exact ⟨hc _ _ h1, hc _ _ h2⟩
/-- What Symbols returns. -/
def SymOk (f : FB) (w : World) (e : Ending) (w' : World) : Prop :=
  Below w.heap.size w w' ∧ ∃ v ss, e = .returned v ∧ Syms w' w'.heap.size v ss ∧ ss.Pairwise (fun a b => a.1.toList < b.1.toList) ∧ (∀ p, p ∈ ss ↔ p ∈ Fo.occF f []) ∧ ss.length ≤ 1000000 ∧ ∃ s l, ss = symL s l ∧ w'.ownsRow w.heap.size 47 2 v l.length (l.flatMap (symC s))
theorem sym_ok {f : FB} {w w' : World} {e : Ending} (hv : Fo.Valid Fo.fitP f) (h : SymPost f w e w') : SymOk f w e w' := by
  obtain ⟨hb, v, rfl, -, hr⟩ := h
  obtain ⟨sy, fr, e, hs, -, -⟩ := Fo.look_some fitK hv
  obtain ⟨l, hl, ⟨hp, hm⟩, ho⟩ := hr _ e
  refine ⟨hb, v, symL _ l, rfl, syms_own ho hl, ?_, fun p => ?_, by simpa [symL] using hl, _, l, rfl, ho⟩
  · unfold symL
    rw [List.pairwise_map]
    exact hp
  · have hocc := Fo.occP_occF f [] 0 0
    unfold symL
    rw [List.mem_map]
    constructor
    · rintro ⟨x, hx, rfl⟩
      have hg := ((hm x).1 hx).1
      unfold symG at hg
      cases hg2 : getM x sy with
      | none => rw [hg2] at hg; cases hg
      | some u =>
        have hk : x ∈ Fo.keysM sy := Classical.byContradiction fun hn => by rw [Fo.getM_none.2 hn] at hg2; cases hg2
        obtain ⟨o, ho1, rfl⟩ := (hs.keys x).1 hk
        have ha := hs.arity _ u hg2 o ho1 rfl
        rw [← hocc]
        refine List.mem_map.2 ⟨o, ho1, ?_⟩
        unfold arI
        rw [hg2, ha]
    · intro h
      have h' := h
      rw [← hocc] at h
      obtain ⟨o, ho1, rfl⟩ := List.mem_map.1 h
      have hk : o.1 ∈ Fo.keysM sy := (hs.keys _).2 ⟨o, ho1, rfl⟩
      cases hg2 : getM o.1 sy with
      | none => exact absurd hk (Fo.getM_none.1 hg2)
      | some u =>
        have ha := hs.arity _ u hg2 o ho1 rfl
        refine ⟨o.1, (hm _).2 ⟨by unfold symG; rw [hg2]; rfl, ?_⟩, ?_⟩
        · have := occ_small f [] hv.2.2.1 _ h'
          unfold maxLen; simp only at this; omega
        · unfold arI
          rw [hg2, ha]
theorem pos_ok {f : FB} {nm : ByteArray} {w w' : World} {e : Ending} (hv : Fo.Valid Fo.fitP f) (h : PosPost f nm w e w') : e = .returned (.tuple #[.bool (Fo.posF f nm false false), .int .i64 0]) ∧ Below w.heap.size w w' := by
  obtain ⟨hb, -, hr⟩ := h
  obtain ⟨sy, fr, e, hs, -, -⟩ := Fo.look_some fitK hv
  rw [hr _ e, Fo.look_pos hs nm]
  exact ⟨rfl, hb⟩
theorem size_ok {f : FB} (hv : Fo.Valid Fo.fitP f) : ((Fo.lookF Fo.fitP f).map (·.size)).getD 0 = Fo.size f := by
  obtain ⟨sy, fr, e, -, -, -⟩ := Fo.look_some fitK hv
  rw [e]; rfl
theorem depth_ok {f : FB} (hv : Fo.Valid Fo.fitP f) : ((Fo.lookF Fo.fitP f).map (·.depth)).getD 0 = Fo.depth f := by
  obtain ⟨sy, fr, e, -, -, -⟩ := Fo.look_some fitK hv
  rw [e]; rfl

end Go.Proofs.YtmnpelhcgobfaaaDoor

/-
  Walk: FormulaPositive.
-/
namespace Go.Proofs.YtmnpelhcgobfaaaDoor
open Go.RowKit
open Fo (F)

abbrev fObj (x0 x1 x2 x3 x4 x5 : Value) : Obj := .cells #[x0, x1, x2, x3, x4, x5] 31

/-- What a law's walk keeps: the argument's box, the words, and what lay there before. -/
structure PK (w : World) (x0 x1 x2 x3 x4 x5 : Value) (W : World) : Prop where
  bx : Bx w w.heap.size 31 #[x0, x1, x2, x3, x4, x5] W
  wds : HasW W
section
variable {w W W' : World} {x0 x1 x2 x3 x4 x5 : Value}
theorem PK.start (hw : HasW w) : PK w x0 x1 x2 x3 x4 x5 (w.alloc (.cells #[x0, x1, x2, x3, x4, x5] 31)) :=
  ⟨Bx.new w _ _, hw.below ((Below.refl _ _).alloc (Nat.le_refl _) _) (Nat.le_refl _)⟩
theorem PK.step (h : PK w x0 x1 x2 x3 x4 x5 W) (hb : Below W.heap.size W W') : PK w x0 x1 x2 x3 x4 x5 W' := ⟨h.bx.step hb, h.wds.below hb (Nat.le_refl _)⟩
theorem PK.alloc (h : PK w x0 x1 x2 x3 x4 x5 W) (o : Obj) : PK w x0 x1 x2 x3 x4 x5 (W.alloc o) := h.step ((Below.refl _ _).alloc (Nat.le_refl _) o)
theorem PK.six (h : PK w x0 x1 x2 x3 x4 x5 W) : W.cell? ⟨w.heap.size, 0, none⟩ = some x0 ∧ W.cell? ⟨w.heap.size, 1, none⟩ = some x1 ∧ W.cell? ⟨w.heap.size, 2, none⟩ = some x2 ∧ W.cell? ⟨w.heap.size, 3, none⟩ = some x3 ∧ W.cell? ⟨w.heap.size, 4, none⟩ = some x4 ∧ W.cell? ⟨w.heap.size, 5, none⟩ = some x5 := h.bx.six
theorem PK.val {f : FB} (h : PK w x0 x1 x2 x3 x4 x5 W) (hf : FVal w (· < w.heap.size) f [x0, x1, x2, x3, x4, x5]) : FVal W (· < w.heap.size) f [x0, x1, x2, x3, x4, x5] := hf.below h.bx.bel
end

theorem few_call (most : Int) {f : FB} {x0 x1 x2 x3 x4 x5 : Value} {w : World} (hf : FVal w (· < w.heap.size) f [x0, x1, x2, x3, x4, x5]) :
    Calls Tryd.prog 11 #[.int .i64 most, .slice (some ⟨w.heap.size + 1, 0, none⟩) 1 1] ((w.alloc (.cells #[x0, x1, x2, x3, x4, x5] 31)).alloc (.cells #[x0, x1, x2, x3, x4, x5] 31))
      fun e w' => IsBool e ∧ Below ((w.alloc (.cells #[x0, x1, x2, x3, x4, x5] 31)).alloc (.cells #[x0, x1, x2, x3, x4, x5] 31)).heap.size ((w.alloc (.cells #[x0, x1, x2, x3, x4, x5] 31)).alloc (.cells #[x0, x1, x2, x3, x4, x5] 31)) w' := by
  have hb : Below w.heap.size w ((w.alloc (.cells #[x0, x1, x2, x3, x4, x5] 31)).alloc (.cells #[x0, x1, x2, x3, x4, x5] 31)) := ((Below.refl _ _).alloc (Nat.le_refl _) _).alloc (by simp) _
  have hn := Blk.new (w.alloc (.cells #[x0, x1, x2, x3, x4, x5] 31)) 31 #[x0, x1, x2, x3, x4, x5]
  rw [World.size_alloc] at hn
  exact few1_any most f (w.heap.size + 1) x0 x1 x2 x3 x4 x5 w.heap.size _ hb.size (hf.below hb) hn

set_option maxRecDepth 100000 in
set_option maxHeartbeats 1000000 in
theorem fposl_bad (f : FB) (k a : Int) (n : ByteArray) (A3 : Option Addr) (n3 c3 : Nat) (A4 : Option Addr) (n4 c4 : Nat) (A : Option Addr) (m c : Nat) (nm : ByteArray) (w : World) (hf : FVal w (· < w.heap.size) f [.int .i64 k, .int .i64 a, .string n, .slice A3 n3 c3, .slice A4 n4 c4, .slice A m c])
    (_hnm : nm.size ≤ 140737488351232) (hw : HasW w) (hv : (Fo.lookF Fo.fitP f).isSome = false) :
    Calls Tryd.prog 6 #[.agg #[.int .i64 k, .int .i64 a, .string n, .slice A3 n3 c3, .slice A4 n4 c4, .slice A m c], .string nm] w fun e w' => e = .returned (.bool true) ∧ Below w.heap.size w w' := by
  have Hfew := Lib.hid (few_call 600 hf)
  have Hk0 := Lib.hid (PK.start (x0 := .int .i64 k) (x1 := .int .i64 a) (x2 := .string n) (x3 := .slice A3 n3 c3) (x4 := .slice A4 n4 c4) (x5 := .slice A m c) hw)
  have Hf := Lib.hid hf; clear hf
  have hval := fun W (hk : PK w (.int .i64 k) (.int .i64 a) (.string n) (.slice A3 n3 c3) (.slice A4 n4 c4) (.slice A m c) W) => fvalid_any f _ W w.heap.size hk.bx.bel.size (hk.val Hf.out)
  rw [hv] at hval
  have Hval := Lib.hid hval; clear hval hv
  go_enter Tryd.func6, Tryd.ntmps6
  go_wp2_with (first
    | (go_at_call 11
       refine Hfew.out.mono ?_
       rintro e w1 ⟨⟨b, rfl⟩, hb1⟩
       have K1 := Lib.hid ((Hk0.out.alloc _).step hb1); clear hb1 Hfew
       obtain ⟨e0, e1, e2, e3, e4, e5⟩ := K1.out.six
       cases b)
    | (go_at_call 12
       refine (Hval.out _ K1.out).mono ?_
       rintro e w2 ⟨rfl, hb2⟩
       have K2 := Lib.hid (K1.out.step hb2); clear hb2 K1 e0 e1 e2 e3 e4 e5)
    | (go_at_call 7
       with_reducible refine (falive_any _ K1.out.wds).mono ?_
       rintro e w5 ⟨rfl, hb5⟩
       have K5 := Lib.hid (K1.out.step hb5))
    | (go_at_call 7
       refine (falive_any _ K2.out.wds).mono ?_
       rintro e w5 ⟨rfl, hb5⟩
       have K5 := Lib.hid (K2.out.step hb5)))
  all_goals (
    go_ret
    exact ⟨rfl, K5.out.bx.bel⟩)

theorem some_valid {f : FB} (hv : Fo.Valid Fo.fitP f) : (Fo.lookF Fo.fitP f).isSome = true := look_valid.2 hv

set_option maxRecDepth 100000 in
set_option maxHeartbeats 1000000 in
theorem fposl_big (f : FB) (k a : Int) (n : ByteArray) (A3 : Option Addr) (n3 c3 : Nat) (A4 : Option Addr) (n4 c4 : Nat) (A : Option Addr) (m c : Nat) (nm : ByteArray) (w : World) (hf : FVal w (· < w.heap.size) f [.int .i64 k, .int .i64 a, .string n, .slice A3 n3 c3, .slice A4 n4 c4, .slice A m c])
    (_hnm : nm.size ≤ 140737488351232) (hw : HasW w) (hv : Fo.Valid Fo.fitP f) (hbig : 58 < Fo.depth f ∨ 3998 < Fo.size f) :
    Calls Tryd.prog 6 #[.agg #[.int .i64 k, .int .i64 a, .string n, .slice A3 n3 c3, .slice A4 n4 c4, .slice A m c], .string nm] w fun e w' => e = .returned (.bool true) ∧ Below w.heap.size w w' := by
  have Hfew := Lib.hid (few_call 600 hf)
  have Hk0 := Lib.hid (PK.start (x0 := .int .i64 k) (x1 := .int .i64 a) (x2 := .string n) (x3 := .slice A3 n3 c3) (x4 := .slice A4 n4 c4) (x5 := .slice A m c) hw)
  have Hf := Lib.hid hf; clear hf
  have hval := fun W (hk : PK w (.int .i64 k) (.int .i64 a) (.string n) (.slice A3 n3 c3) (.slice A4 n4 c4) (.slice A m c) W) => fvalid_any f _ W w.heap.size hk.bx.bel.size (hk.val Hf.out)
  rw [some_valid hv] at hval
  have hdep := fun W (hk : PK w (.int .i64 k) (.int .i64 a) (.string n) (.slice A3 n3 c3) (.slice A4 n4 c4) (.slice A m c) W) => fdepth_any f _ W w.heap.size hk.bx.bel.size (hk.val Hf.out)
  rw [depth_ok hv] at hdep
  have hsiz := fun W (hk : PK w (.int .i64 k) (.int .i64 a) (.string n) (.slice A3 n3 c3) (.slice A4 n4 c4) (.slice A m c) W) => fsize_any f _ W w.heap.size hk.bx.bel.size (hk.val Hf.out)
  rw [size_ok hv] at hsiz
  have hd60 := hv.2.1
  have hs40 := hv.1
  generalize Fo.depth f = dp at *
  generalize Fo.size f = sz at *
  have Hval := Lib.hid hval; clear hval
  have Hdep := Lib.hid hdep; clear hdep
  have Hsiz := Lib.hid hsiz; clear hsiz hv
  have hcase : 58 < dp ∨ (¬ 58 < dp ∧ 3998 < sz) := by omega
  clear hbig
  rcases hcase with hdp | ⟨hdp, hsz⟩
  all_goals (
    go_enter Tryd.func6, Tryd.ntmps6
    go_wp2_with (first
      | (go_at_call 11
         refine Hfew.out.mono ?_
         rintro e w1 ⟨⟨b, rfl⟩, hb1⟩
         have K1 := Lib.hid ((Hk0.out.alloc _).step hb1); clear hb1 Hfew
         obtain ⟨e0, e1, e2, e3, e4, e5⟩ := K1.out.six
         cases b)
      | (go_at_call 12
         refine (Hval.out _ K1.out).mono ?_
         rintro e w2 ⟨rfl, hb2⟩
         have K2 := Lib.hid (K1.out.step hb2); clear hb2 K1 e0 e1 e2 e3 e4 e5
         obtain ⟨e0, e1, e2, e3, e4, e5⟩ := K2.out.six)
      | (go_at_call 18
         refine (Hdep.out _ K2.out).mono ?_
         rintro e w3 ⟨rfl, hb3⟩
         have K3 := Lib.hid (K2.out.step hb3); clear hb3 K2 e0 e1 e2 e3 e4 e5
         obtain ⟨e0, e1, e2, e3, e4, e5⟩ := K3.out.six)
      | (go_at_call 19
         refine (Hsiz.out _ K3.out).mono ?_
         rintro e w4 ⟨rfl, hb4⟩
         have K4 := Lib.hid (K3.out.step hb4); clear hb4 K3 e0 e1 e2 e3 e4 e5)
      | (go_at_call 7
         with_reducible refine (falive_any _ K1.out.wds).mono ?_
         rintro e w5 ⟨rfl, hb5⟩
         have K5 := Lib.hid (K1.out.step hb5))
      | (go_at_call 7
         with_reducible refine (falive_any _ K2.out.wds).mono ?_
         rintro e w5 ⟨rfl, hb5⟩
         have K5 := Lib.hid (K2.out.step hb5))
      | (go_at_call 7
         with_reducible refine (falive_any _ K3.out.wds).mono ?_
         rintro e w5 ⟨rfl, hb5⟩
         have K5 := Lib.hid (K3.out.step hb5))
      | (go_at_call 7
         refine (falive_any _ K4.out.wds).mono ?_
         rintro e w5 ⟨rfl, hb5⟩
         have K5 := Lib.hid (K4.out.step hb5)))
    all_goals (
      go_ret
      exact ⟨rfl, K5.out.bx.bel⟩))

end Go.Proofs.YtmnpelhcgobfaaaDoor

/-
  Walk: FormulaBlanks.
-/
namespace Go.Proofs.YtmnpelhcgobfaaaDoor
open Go.RowKit
open Fo (F)

/-- A token of the row of tokens, as a walk finds it. -/
theorem tok_at {W : World} {base : Nat} {ts : List Fo.Tok} {g cap k : Nat} {t : Fo.Tok} (h : W.ownsRow base 27 2 (.slice (some ⟨g, 0, none⟩) ts.length cap) ts.length (ts.flatMap tokC)) (ht : ts[k]? = some t) :
    W.cell? ⟨g, k * 2, none⟩ = some (.int .i64 (t.1 : Nat)) ∧ W.cell? ⟨g, k * 2 + 1, none⟩ = some (.string ⟨t.2.toArray⟩) := by
  have key : ∀ (l : List Fo.Tok) (k : Nat) (t : Fo.Tok), l[k]? = some t → (l.flatMap tokC)[k * 2]? = some (.int .i64 (t.1 : Nat)) ∧ (l.flatMap tokC)[k * 2 + 1]? = some (.string ⟨t.2.toArray⟩) := by
    intro l
    induction l with
    | nil => intro k t h; simp at h
    | cons x l ih =>
      intro k t h
      cases k with
      | zero =>
        simp only [List.getElem?_cons_zero, Option.some.injEq] at h
        subst h
        exact ⟨rfl, rfl⟩
      | succ k =>
        have h2 := ih k t (by simpa using h)
        rw [List.flatMap_cons]
        have e : (k + 1) * 2 = k * 2 + 2 := by omega
        rw [e]
        exact ⟨h2.1, h2.2⟩
  obtain ⟨k1, k2⟩ := key ts k t ht
  have c1 := h.cells (g := g) rfl _ _ k1
  have c2 := h.cells (g := g) rfl _ _ k2
  have e : ∀ j, (Addr.mk g 0 none).add j = ⟨g, j, none⟩ := fun j => by unfold Addr.add; split <;> simp_all
  rw [e] at c1 c2
  exact ⟨c1, c2⟩

theorem own_lt2 {W : World} {base n c : Nat} {e : TypeId} {size g k : Nat} {xs : List Value} (h : W.ownsRow base e size (.slice (some ⟨g, 0, none⟩) n c) k xs) : g < W.heap.size := by
  obtain ⟨-, cs, hc⟩ := own_block h (b := g) rfl
  exact (Array.getElem?_eq_some_iff.1 hc).1
theorem sum_mem : ∀ {l : List Nat} {x : Nat}, x ∈ l → x ≤ l.sum
  | y :: l, x, h => by
    rw [List.sum_cons]
    rcases List.mem_cons.1 h with rfl | h
    · omega
    · have := sum_mem h; omega

/-- The bytes that 'by' holds. -/
def ByA (W : World) (ad : Addr) (m : Nat) : Prop := ∀ j, j < m → ∃ n : Nat, n < 256 ∧ W.cell? (ad.add j) = some (.int .u8 (n : Int))
theorem ByA.below {W W' : World} {ad : Addr} {m B : Nat} (h : ByA W ad m) (hb : Below B W W') (had : ad.block < B) : ByA W' ad m := fun j hj => by
  obtain ⟨n, hn, hc⟩ := h j hj
  exact ⟨n, hn, (hb.cell (p := ad.add j) (by show (ad.add j).block < B; rw [block_of_add]; exact had)).trans hc⟩

theorem blanks0 {n : Nat} (h : n % 4 = 0) : Fo.blanksOf n false = [] := by simp [Fo.blanksOf, h]
theorem blanks1 {n : Nat} {mid : Bool} {q : UInt8} (h : n % 4 = 1 ∨ n % 4 = 2 ∨ (n % 4 = 0 ∧ mid = true)) (hq : (if n / 4 % 2 = 0 then 32 else 10) = q) : Fo.blanksOf n mid = [q] := by
  unfold Fo.blanksOf
  rw [if_pos (c := 0 < n % 4 ∨ mid = true) (by rcases h with h | h | h <;> simp [h]), if_neg (c := 2 < n % 4) (by omega), hq]; rfl
theorem blanks2 {n : Nat} {mid : Bool} {q : UInt8} (h : n % 4 = 3) (hq : (if n / 4 % 2 = 0 then 32 else 10) = q) : Fo.blanksOf n mid = [q, 32] := by
  unfold Fo.blanksOf
  rw [if_pos (c := 0 < n % 4 ∨ mid = true) (.inl (by omega)), if_pos (c := 2 < n % 4) (by omega), hq]; rfl

/-- What the end of FormulaBlanks keeps: the first result's box. -/
structure BP (w wr : World) (f : FB) (g : Nat) (x0 x1 x2 x3 x4 x5 : Value) (W : World) : Prop where
  bx : Blk W g 31 #[x0, x1, x2, x3, x4, x5]
  val : FVal W (· < g) f [x0, x1, x2, x3, x4, x5]
  wds : HasW W
  bw : Below wr.heap.size wr W
  bel : Below w.heap.size w W
section
variable {w wr W W' : World} {f : FB} {g : Nat} {x0 x1 x2 x3 x4 x5 : Value}
theorem BP.start (hb : Below wr.heap.size wr W) (hw : HasW wr) (hbw : Below w.heap.size w wr) (hf : FVal W (· < W.heap.size) f [x0, x1, x2, x3, x4, x5]) : BP w wr f W.heap.size x0 x1 x2 x3 x4 x5 (W.alloc (.cells #[x0, x1, x2, x3, x4, x5] 31)) :=
  ⟨Blk.new W _ _, hf.below ((Below.refl _ _).alloc (Nat.le_refl _) _), hw.below (hb.alloc hb.size _) (Nat.le_refl _), hb.alloc hb.size _, hbw.trans ((hb.alloc hb.size _).mono hbw.size)⟩
theorem BP.step (h : BP w wr f g x0 x1 x2 x3 x4 x5 W) (hb : Below W.heap.size W W') : BP w wr f g x0 x1 x2 x3 x4 x5 W' :=
  ⟨Blk.below h.bx hb h.bx.lt, h.val.below (hb.mono (Nat.le_of_lt h.bx.lt)), h.wds.below hb (Nat.le_refl _), h.bw.trans (hb.mono h.bw.size), h.bel.trans (hb.mono h.bel.size)⟩
theorem BP.six (h : BP w wr f g x0 x1 x2 x3 x4 x5 W) : W.cell? ⟨g, 0, none⟩ = some x0 ∧ W.cell? ⟨g, 1, none⟩ = some x1 ∧ W.cell? ⟨g, 2, none⟩ = some x2 ∧ W.cell? ⟨g, 3, none⟩ = some x3 ∧ W.cell? ⟨g, 4, none⟩ = some x4 ∧ W.cell? ⟨g, 5, none⟩ = some x5 :=
  ⟨h.bx.cell 0, h.bx.cell 1, h.bx.cell 2, h.bx.cell 3, h.bx.cell 4, h.bx.cell 5⟩
end
/-- .. and the second's. -/
structure BQ (w wr : World) (f : FB) (g g2 : Nat) (x0 x1 x2 x3 x4 x5 y0 y1 y2 y3 y4 y5 : Value) (W : World) : Prop where
  bp : BP w wr f g x0 x1 x2 x3 x4 x5 W
  by_ : Blk W g2 31 #[y0, y1, y2, y3, y4, y5]
  val : FVal W (· < g2) f [y0, y1, y2, y3, y4, y5]
section
variable {w wr W W' : World} {f : FB} {g g2 : Nat} {x0 x1 x2 x3 x4 x5 y0 y1 y2 y3 y4 y5 : Value}
theorem BQ.start (h : BP w wr f g x0 x1 x2 x3 x4 x5 W) (hf : FVal W (· < W.heap.size) f [y0, y1, y2, y3, y4, y5]) : BQ w wr f g W.heap.size x0 x1 x2 x3 x4 x5 y0 y1 y2 y3 y4 y5 (W.alloc (.cells #[y0, y1, y2, y3, y4, y5] 31)) :=
  ⟨h.step ((Below.refl _ _).alloc (Nat.le_refl _) _), Blk.new W _ _, hf.below ((Below.refl _ _).alloc (Nat.le_refl _) _)⟩
theorem BQ.siy (h : BQ w wr f g g2 x0 x1 x2 x3 x4 x5 y0 y1 y2 y3 y4 y5 W) : W.cell? ⟨g2, 0, none⟩ = some y0 ∧ W.cell? ⟨g2, 1, none⟩ = some y1 ∧ W.cell? ⟨g2, 2, none⟩ = some y2 ∧ W.cell? ⟨g2, 3, none⟩ = some y3 ∧ W.cell? ⟨g2, 4, none⟩ = some y4 ∧ W.cell? ⟨g2, 5, none⟩ = some y5 :=
  ⟨h.by_.cell 0, h.by_.cell 1, h.by_.cell 2, h.by_.cell 3, h.by_.cell 4, h.by_.cell 5⟩
theorem BQ.same (h : BQ w wr f g g2 x0 x1 x2 x3 x4 x5 y0 y1 y2 y3 y4 y5 W) :
    Calls Tryd.prog 10 #[.agg #[x0, x1, x2, x3, x4, x5], .agg #[y0, y1, y2, y3, y4, y5]] W fun e w' => e = .returned (.bool true) ∧ Below W.heap.size W w' :=
  (refsame_any _ f f _ _ W.heap.size W (Nat.le_refl _) (Nat.le_refl _) (FVal.more (fun b hb => Nat.lt_trans hb h.bp.bx.lt) _ _ h.bp.val) (FVal.more (fun b hb => Nat.lt_trans hb h.by_.lt) _ _ h.val)).mono fun e w' ⟨⟨b, hb, hi⟩, h2⟩ => by
    rw [hi.2 rfl] at hb
    exact ⟨hb, h2⟩
end
theorem outs_same {s t : Fo.Bs} {f f' : FB} {i j : Nat} {r r' : Int} (h : (outP s).1 = (outP t).1 ∧ (outP s).2.2 = (outP t).2.2) (h1 : outP s = (f, i, r)) (h2 : outP t = (f', j, r')) : f = f' ∧ r = r' := by
  rw [h1, h2] at h
  exact h
/-- What the loop of FormulaBlanks keeps. -/
structure BL (w0 : World) (ts : List Fo.Tok) (k : Nat) (V : Value) (bs : Fo.Bs) (W : World) : Prop where
  wrt : Fo.Wrt ts k bs
  ob : OB w0 V bs W
def BLx (w0 : World) (ts : List Fo.Tok) (k : Nat) (V : Value) (W : World) : Prop := ∃ bs, BL w0 ts k V bs W
theorem BLx.step {w0 W : World} {s : Fo.Bs} {k : Nat} {V : Value} {bs b : Fo.Bs} {n : Nat} {mid : Bool} {t : Fo.Tok} (h : Fo.Wrt (Fo.toksAt s 0) k bs) (ht : (Fo.toksAt s 0)[k]? = some t) (hm : 0 < k → mid = true) (hb : Fo.blanksOf n mid = b) (ho : OB w0 V (bs ++ b ++ t.2) W) : BLx w0 (Fo.toksAt s 0) (k + 1) V W :=
  ⟨_, h.step ht (Fo.toks_ok t (List.mem_of_getElem? ht)) n mid hm, by rw [hb]; exact ho⟩
theorem BLx.last {w0 W : World} {ts : List Fo.Tok} {V : Value} {bs b : Fo.Bs} {n : Nat} {mid : Bool} (h : Fo.Wrt ts ts.length bs) (hb : Fo.blanksOf n mid = b) (ho : OB w0 V (bs ++ b) W) : BLx w0 ts (ts.length + 1) V W :=
  ⟨_, h.last n mid, by rw [hb]; exact ho⟩
theorem outP_alike {s t : Fo.Bs} (h : (Fo.toksAt s 0).map (·.2) = (Fo.toksAt t 0).map (·.2)) : (outP s).1 = (outP t).1 ∧ (outP s).2.2 = (outP t).2.2 := by
  unfold outP
  rcases Fo.read_alike h with ⟨f, h1, h2⟩ | ⟨i, j, h1, h2⟩
  · rw [h1, h2]; exact ⟨rfl, rfl⟩
  · rw [h1, h2]; exact ⟨rfl, rfl⟩

end Go.Proofs.YtmnpelhcgobfaaaDoor

/-
  Plain mathematics: where a reading stands still hangs on the tokens up to there alone.
-/
namespace Go.Proofs.YtmnpelhcgobfaaaDoor.Fo

def Run1 {α : Type} (x : List Tok → Rd α) (p : List Tok) : Prop := ∃ a p2, p2.length ≤ p.length ∧ ∀ n, x (p ++ n) = .ok (a, p2 ++ n)
def Run2 {α : Type} (x : List Tok → Rd α) (p : List Tok) : Prop := ∃ t p2, p2.length + 1 ≤ p.length ∧ ∀ n, x (p ++ n) = .error (t :: (p2 ++ n))
def Run3 {α : Type} (x : List Tok → Rd α) (p : List Tok) : Prop := x p = .error [] ∧ ∀ n, (∀ a r, x (p ++ n) = .ok (a, r) → r.length ≤ n.length) ∧ (∀ e, x (p ++ n) = .error e → e.length ≤ n.length)
/-- Over some tokens, whatever follows, a reading ends within them, or stands still within them, or wants more. -/
def Loc {α : Type} (x : List Tok → Rd α) : Prop := ∀ p, Run1 x p ∨ Run2 x p ∨ Run3 x p

theorem Loc.shrinks {α : Type} {x : List Tok → Rd α} (h : Loc x) (n : List Tok) : (∀ a r, x n = .ok (a, r) → r.length ≤ n.length) ∧ (∀ e, x n = .error e → e.length ≤ n.length) := by
  rcases h [] with ⟨a, p2, hl, hx⟩ | ⟨t, p2, hl, hx⟩ | ⟨-, hx⟩
  · have e := hx n
    rw [List.nil_append] at e
    rw [e]
    have : p2 = [] := List.length_eq_zero_iff.1 (by simpa using hl)
    subst this
    exact ⟨fun b r h => (by cases h; exact Nat.le_refl _), fun e h => by cases h⟩
  · simp at hl
  · exact hx n

theorem Loc.bnd {α β : Type} {x : List Tok → Rd α} {f : α → List Tok → Rd β} (h : Loc x) (hf : ∀ a, Loc (f a)) : Loc (fun ts => bnd (x ts) f) := by
  intro p
  rcases h p with ⟨a, p2, hl, hx⟩ | ⟨t, p2, hl, hx⟩ | ⟨h0, hx⟩
  · have e : ∀ n, Fo.bnd (x (p ++ n)) f = f a (p2 ++ n) := fun n => by rw [hx n]; rfl
    have e0 : Fo.bnd (x p) f = f a p2 := by have := e []; rw [List.append_nil, List.append_nil] at this; exact this
    rcases hf a p2 with ⟨b, p3, hl3, hx3⟩ | ⟨t, p3, hl3, hx3⟩ | ⟨h3, hx3⟩
    · exact .inl ⟨b, p3, by omega, fun n => by show Fo.bnd (x (p ++ n)) f = _; rw [e n, hx3 n]⟩
    · exact .inr (.inl ⟨t, p3, by omega, fun n => by show Fo.bnd (x (p ++ n)) f = _; rw [e n, hx3 n]⟩)
    · refine .inr (.inr ⟨by show Fo.bnd (x p) f = _; rw [e0, h3], fun n => ?_⟩)
      show (∀ a r, Fo.bnd (x (p ++ n)) f = .ok (a, r) → _) ∧ _
      simp only [e n]
      exact hx3 n
  · exact .inr (.inl ⟨t, p2, hl, fun n => by show Fo.bnd (x (p ++ n)) f = _; rw [hx n]; rfl⟩)
  · refine .inr (.inr ⟨by show Fo.bnd (x p) f = _; rw [h0]; rfl, fun n => ?_⟩)
    show (∀ a r, Fo.bnd (x (p ++ n)) f = .ok (a, r) → _) ∧ (∀ e, Fo.bnd (x (p ++ n)) f = .error e → _)
    have hn := hx n
    cases hxe : x (p ++ n) with
    | error e =>
      refine ⟨fun a r h => (by cases h), fun d h => ?_⟩
      cases h
      exact hn.2 _ hxe
    | ok v =>
      obtain ⟨a, r⟩ := v
      have h1 := hn.1 a r hxe
      have h2 := (hf a).shrinks r
      exact ⟨fun b q h => Nat.le_trans (h2.1 b q h) h1, fun e h => Nat.le_trans (h2.2 e h) h1⟩

theorem Loc.ok {α : Type} (a : α) : Loc (fun ts => .ok (a, ts)) := fun p => .inl ⟨a, p, Nat.le_refl _, fun _ => rfl⟩
theorem Loc.error {α : Type} : Loc (α := α) (fun ts => .error ts) := by
  intro p
  cases p with
  | nil => exact .inr (.inr ⟨rfl, fun n => ⟨fun a r h => (by cases h), fun e h => by cases h; exact Nat.le_refl _⟩⟩)
  | cons t p => exact .inr (.inl ⟨t, p, by simp, fun n => rfl⟩)

/-- A reading that looks at the first token, and refuses it or goes on behind it. -/
theorem Loc.head {α : Type} {x : List Tok → Rd α} (h0 : x [] = .error []) (h : ∀ t, (∀ r, x (t :: r) = .error (t :: r)) ∨ (∃ y, Loc y ∧ ∀ r, x (t :: r) = y r)) : Loc x := by
  intro p
  cases p with
  | nil =>
    refine .inr (.inr ⟨h0, fun n => ?_⟩)
    rw [List.nil_append]
    cases n with
    | nil => rw [h0]; exact ⟨fun a r h => (by cases h), fun e h => by cases h; exact Nat.le_refl _⟩
    | cons t r =>
      rcases h t with hx | ⟨y, hy, hx⟩
      · rw [hx r]; exact ⟨fun a r h => (by cases h), fun e h => by cases h; exact Nat.le_refl _⟩
      · rw [hx r]
        have := hy.shrinks r
        exact ⟨fun a q h => by have := this.1 a q h; simp; omega, fun e h => by have := this.2 e h; simp; omega⟩
  | cons t p =>
    rcases h t with hx | ⟨y, hy, hx⟩
    · exact .inr (.inl ⟨t, p, by simp, fun n => hx _⟩)
    · rcases hy p with ⟨a, p2, hl, e⟩ | ⟨t2, p2, hl, e⟩ | ⟨e0, e⟩
      · exact .inl ⟨a, p2, by simp; omega, fun n => by rw [List.cons_append, hx, e n]⟩
      · exact .inr (.inl ⟨t2, p2, by simp; omega, fun n => by rw [List.cons_append, hx, e n]⟩)
      · refine .inr (.inr ⟨by rw [hx, e0], fun n => ?_⟩)
        rw [List.cons_append, hx]
        exact e n

theorem takeT_loc (q : Bs → Bool) : Loc (takeT q) := by
  refine Loc.head rfl fun t => ?_
  by_cases h : q t.2 = true
  · exact .inr ⟨_, Loc.ok t.2, fun r => by simp only [takeT]; rw [if_pos h]⟩
  · exact .inl fun r => by simp only [takeT]; rw [if_neg h]
theorem optT_loc {α : Type} (c : Bool) (d : α) {x : List Tok → Rd α} (h : Loc x) : Loc (optT c d x) := by
  unfold optT
  cases c
  · exact Loc.ok d
  · exact h

theorem namesT_shrinks (stop : Bs) : ∀ n : List Tok, (∀ a r, namesT stop n = .ok (a, r) → r.length ≤ n.length) ∧ (∀ e, namesT stop n = .error e → e.length ≤ n.length)
  | [] => ⟨fun a r h => (by cases h), fun e h => (by cases h; exact Nat.le_refl _)⟩
  | t :: n => by
    have ih := namesT_shrinks stop n
    simp only [namesT, List.length_cons]
    split
    · cases hx : namesT stop n with
      | error e => exact ⟨fun a r h => (by cases h), fun d h => (by cases h; have := ih.2 _ hx; omega)⟩
      | ok v => exact ⟨fun a r h => (by cases h; have := ih.1 _ _ hx; omega), fun d h => (by cases h)⟩
    · split
      · exact ⟨fun a r h => (by cases h; omega), fun e h => (by cases h)⟩
      · exact ⟨fun a r h => (by cases h), fun e h => (by cases h; simp)⟩
theorem namesT_loc (stop : Bs) : Loc (namesT stop)
  | [] => .inr (.inr ⟨rfl, fun n => namesT_shrinks stop n⟩)
  | t :: p => by
    by_cases hn : Sh.nameB t.2 = true
    · have e : ∀ r, namesT stop (t :: r) = bnd (namesT stop r) fun l r' => .ok (⟨t.2.toArray⟩ :: l, r') := fun r => by simp only [namesT]; rw [if_pos hn]
      rcases namesT_loc stop p with ⟨a, p2, hl, hx⟩ | ⟨t2, p2, hl, hx⟩ | ⟨h0, hx⟩
      · exact .inl ⟨⟨t.2.toArray⟩ :: a, p2, by simp; omega, fun n => by rw [List.cons_append, e, hx n]; rfl⟩
      · exact .inr (.inl ⟨t2, p2, by simp; omega, fun n => by rw [List.cons_append, e, hx n]; rfl⟩)
      · refine .inr (.inr ⟨by rw [e, h0]; rfl, fun n => ?_⟩)
        rw [List.cons_append, e]
        cases hy : namesT stop (p ++ n) with
        | error d => exact ⟨fun a r h => (by cases h), fun d h => (by cases h; exact (hx n).2 _ hy)⟩
        | ok v => exact ⟨fun a r h => (by cases h; exact (hx n).1 _ _ hy), fun d h => (by cases h)⟩
    · by_cases hs : t.2 = stop
      · exact .inl ⟨[], p, by simp, fun n => by rw [List.cons_append]; simp only [namesT]; rw [if_neg hn, if_pos hs]⟩
      · exact .inr (.inl ⟨t, p, by simp, fun n => by rw [List.cons_append]; simp only [namesT]; rw [if_neg hn, if_neg hs]⟩)

theorem numT_loc : Loc numT := Loc.bnd (takeT_loc _) fun l => Loc.ok (numI l)
theorem atomT_loc (nm : Bs) : Loc (atomT nm) := by
  refine Loc.head rfl fun t => ?_
  by_cases h1 : t.2 = [61]
  · exact .inr ⟨_, Loc.bnd (takeT_loc Sh.nameB) fun y => Loc.ok (F.mk 1 0 noName [] [⟨nm.toArray⟩, ⟨y.toArray⟩] []), fun r => by simp only [atomT]; rw [if_pos h1]⟩
  by_cases h2 : t.2 = [60]
  · exact .inr ⟨_, Loc.bnd (takeT_loc Sh.nameB) fun y => Loc.ok (F.mk 2 0 noName [] [⟨nm.toArray⟩, ⟨y.toArray⟩] []), fun r => by simp only [atomT]; rw [if_neg h1, if_pos h2]⟩
  by_cases h3 : t.2 = [40]
  · exact .inr ⟨_, Loc.bnd (namesT_loc [41]) fun l => Loc.ok (F.mk 0 0 ⟨nm.toArray⟩ [] l []), fun r => by simp only [atomT]; rw [if_neg h1, if_neg h2, if_pos h3]⟩
  · exact .inl fun r => by simp only [atomT]; rw [if_neg h1, if_neg h2, if_neg h3]
theorem headT_loc (k : Int) : Loc (headT k) :=
  Loc.bnd (optT_loc _ _ (Loc.bnd (takeT_loc Sh.nameB) fun x => Loc.ok (⟨x.toArray⟩ : ByteArray))) fun nm =>
  Loc.bnd (optT_loc _ _ (Loc.bnd numT_loc fun a => Loc.bnd (takeT_loc (isT [58])) fun _ => Loc.ok a)) fun a =>
  Loc.bnd (optT_loc _ _ (namesT_loc [58])) fun vs => Loc.ok (nm, a, vs)
theorem tailT_loc (k : Int) : Loc (tailT k) := optT_loc _ _ (Loc.bnd (takeT_loc (isT [40])) fun _ => namesT_loc [41])

theorem listT_loc {y : List Tok → Rd (List Fb)} (hy : Loc y) : Loc (listT y) := by
  intro p
  cases p with
  | nil =>
    refine .inr (.inr ⟨rfl, fun n => ?_⟩)
    rw [List.nil_append]
    cases n with
    | nil => exact ⟨fun a r h => (by cases h), fun e h => (by cases h; exact Nat.le_refl _)⟩
    | cons t r =>
      simp only [listT]
      split
      · exact ⟨fun a q h => (by cases h; simp), fun e h => (by cases h)⟩
      · exact hy.shrinks (t :: r)
  | cons t p =>
    by_cases h : t.2 = [41]
    · exact .inl ⟨[], p, by simp, fun n => by rw [List.cons_append]; simp only [listT]; rw [if_pos h]⟩
    · have e : ∀ r, listT y (t :: r) = y (t :: r) := fun r => by simp only [listT]; rw [if_neg h]
      rcases hy (t :: p) with ⟨a, p2, hl, hx⟩ | ⟨t2, p2, hl, hx⟩ | ⟨h0, hx⟩
      · exact .inl ⟨a, p2, hl, fun n => by rw [List.cons_append, e]; exact hx n⟩
      · exact .inr (.inl ⟨t2, p2, hl, fun n => by rw [List.cons_append, e]; exact hx n⟩)
      · exact .inr (.inr ⟨by rw [e]; exact h0, fun n => by rw [List.cons_append, e]; exact hx n⟩)

mutual
theorem formT_loc : ∀ n : Nat, Loc (formT n)
  | 0 => by
    have e : formT 0 = fun ts => .error ts := by funext ts; unfold formT; rfl
    rw [e]; exact Loc.error
  | n + 1 => by
    refine Loc.head (by unfold formT; rfl) fun t => ?_
    by_cases h1 : Sh.nameB t.2 = true
    · exact .inr ⟨_, atomT_loc t.2, fun r => by unfold formT; rw [if_pos h1]⟩
    by_cases h2 : t.2 = [116, 114, 117, 101]
    · exact .inr ⟨_, Loc.ok (F.mk 4 0 noName [] [] []), fun r => by unfold formT; rw [if_neg h1, if_pos h2]⟩
    by_cases h3 : t.2 = [102, 97, 108, 115, 101]
    · exact .inr ⟨_, Loc.ok (F.mk 5 0 noName [] [] []), fun r => by unfold formT; rw [if_neg h1, if_neg h2, if_pos h3]⟩
    cases hw : wordK t.2 with
    | none => exact .inl fun r => by unfold formT; rw [if_neg h1, if_neg h2, if_neg h3, hw]
    | some k =>
      refine .inr ⟨_, ?_, fun r => by unfold formT; rw [if_neg h1, if_neg h2, if_neg h3, hw]⟩
      refine Loc.bnd (takeT_loc (isT [40])) fun _ => ?_
      by_cases h4 : k = 4 ∨ k = 5
      · simp only [if_pos h4]
        exact Loc.bnd (listT_loc (kidsT_loc n)) fun l => Loc.ok (F.mk k 0 noName [] [] l)
      · simp only [if_neg h4]
        exact Loc.bnd (headT_loc k) fun h => Loc.bnd (formT_loc n) fun f => Loc.bnd (takeT_loc (isT [41])) fun _ => Loc.bnd (tailT_loc k) fun ags => Loc.ok (F.mk k h.2.1 h.1 h.2.2 ags [f])
theorem kidsT_loc : ∀ n : Nat, Loc (kidsT n)
  | 0 => by
    have e : kidsT 0 = fun ts => .error ts := by funext ts; unfold kidsT; rfl
    rw [e]; exact Loc.error
  | n + 1 => by
    have e : kidsT (n + 1) = fun ts => bnd (formT n ts) fun f r => match r with
        | [] => .error []
        | t :: r' => if t.2 = [41] then .ok ([f], r') else if t.2 = [44] then bnd (kidsT n r') fun l r => .ok (f :: l, r) else .error (t :: r') := by
      funext ts; rw [kidsT] <;> rfl
    rw [e]
    refine Loc.bnd (formT_loc n) fun f => Loc.head rfl fun t => ?_
    by_cases h1 : t.2 = [41]
    · exact .inr ⟨_, Loc.ok [f], fun r => by simp only; rw [if_pos h1]⟩
    by_cases h2 : t.2 = [44]
    · exact .inr ⟨_, Loc.bnd (kidsT_loc n) fun l => Loc.ok (f :: l), fun r => by simp only; rw [if_neg h1, if_pos h2]⟩
    · exact .inl fun r => by simp only; rw [if_neg h1, if_neg h2]
end

/-- Where a reading with enough fuel stands still, it stands still whatever follows the token; and the tokens before it are a formula or the beginning of one. -/
theorem formT_first {m : Nat} {p r : List Tok} {t : Tok} (h : formT m (p ++ t :: r) = .error (t :: r)) : (∀ q, formT m (p ++ t :: q) = .error (t :: q)) ∧ formT m p = .error [] := by
  constructor
  · intro q
    rcases formT_loc m (p ++ [t]) with ⟨a, p2, hl, hx⟩ | ⟨t2, p2, hl, hx⟩ | ⟨-, hx⟩
    · have := hx r
      rw [List.append_assoc, List.cons_append, List.nil_append, h] at this
      cases this
    · have := hx r
      rw [List.append_assoc, List.cons_append, List.nil_append, h] at this
      simp only [Except.error.injEq, List.cons.injEq] at this
      obtain ⟨rfl, e⟩ := this
      have : p2 = [] := by have := congrArg List.length e; simpa using this
      subst this
      have := hx q
      rw [List.append_assoc] at this
      exact this
    · have := (hx r).2 (t :: r) (by rw [List.append_assoc]; exact h)
      simp at this
      omega
  · rcases formT_loc m p with ⟨a, p2, hl, hx⟩ | ⟨t2, p2, hl, hx⟩ | ⟨h0, -⟩
    · have := hx (t :: r); rw [h] at this; cases this
    · have := hx (t :: r)
      rw [h] at this
      simp only [Except.error.injEq, List.cons.injEq] at this
      have := congrArg List.length this.2
      simp at this
      omega
    · exact h0

end Go.Proofs.YtmnpelhcgobfaaaDoor.Fo
