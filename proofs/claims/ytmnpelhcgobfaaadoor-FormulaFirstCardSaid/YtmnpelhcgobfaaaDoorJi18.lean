/-
  Texts joined: Fex, Pow, Rank, Tuple, Copy, Own, Copyrel, Fhas, Flaw, Fkid, Falive, Fstill, Fsamew.
-/
import Derived.KernelRfl
import Derived.Test.YtmnpelhcgobfaaaDoorJi2
import Derived.Test.YtmnpelhcgobfaaaDoorRows
import Derived.Test.YtmnpelhcgobfaaaDoorJi1
import Derived.WalkKit
import Derived.WalkSpells
import Derived.WalkLawsBesides
import Derived.Lib.Hide
import Derived.Deep.QuietTactic
import Derived.BigQuiet
import Derived.Test.YtmnpelhcgobfaaaDoorJi4
import Derived.Deep.RegionHeld3
import Derived.Deep.RegionLaw
import Derived.Test.YtmnpelhcgobfaaaDoorJi3
import Derived.Test.YtmnpelhcgobfaaaDoorJi17
import Derived.StillTailTactics

/-
  Plain mathematics: the three examples that the statements of chapter 2 ask the parser.
-/
namespace Go.Proofs.YtmnpelhcgobfaaaDoor.Fo

abbrev ex1 : ByteArray := ⟨#[108, 102, 112, 40, 82, 32, 120, 32, 121, 58, 32, 111, 114, 40, 69, 40, 120, 32, 121, 41, 44, 32, 115, 111, 109, 101, 40, 122, 58, 32, 97, 110, 100, 40, 69, 40, 120, 32, 122, 41, 44, 32, 82, 40, 122, 32, 121, 41, 41, 41, 41, 41, 40, 97, 32, 98, 41]⟩
abbrev ex2 : ByteArray := ⟨#[108, 102, 112, 40, 82, 32, 120, 58, 32, 110, 111, 116, 40, 82, 40, 120, 41, 41, 41, 40, 97, 41]⟩
abbrev ex3 : ByteArray := ⟨#[69, 40, 120]⟩
def exF : F ByteArray := (.mk 8 0 ⟨#[82]⟩ [⟨#[120]⟩, ⟨#[121]⟩] [⟨#[97]⟩, ⟨#[98]⟩] [(.mk 5 0 ⟨#[]⟩ [] [] [(.mk 0 0 ⟨#[69]⟩ [] [⟨#[120]⟩, ⟨#[121]⟩] []), (.mk 6 0 ⟨#[]⟩ [⟨#[122]⟩] [] [(.mk 4 0 ⟨#[]⟩ [] [] [(.mk 0 0 ⟨#[69]⟩ [] [⟨#[120]⟩, ⟨#[122]⟩] []), (.mk 0 0 ⟨#[82]⟩ [] [⟨#[122]⟩, ⟨#[121]⟩] [])])])])])
def exG : F ByteArray := (.mk 8 0 ⟨#[82]⟩ [⟨#[120]⟩] [⟨#[97]⟩] [(.mk 3 0 ⟨#[]⟩ [] [] [(.mk 0 0 ⟨#[82]⟩ [] [⟨#[120]⟩] [])])])
set_option maxRecDepth 100000 in
theorem ex1_list : ex1.toList = [108, 102, 112, 40, 82, 32, 120, 32, 121, 58, 32, 111, 114, 40, 69, 40, 120, 32, 121, 41, 44, 32, 115, 111, 109, 101, 40, 122, 58, 32, 97, 110, 100, 40, 69, 40, 120, 32, 122, 41, 44, 32, 82, 40, 122, 32, 121, 41, 41, 41, 41, 41, 40, 97, 32, 98, 41] := by decide +kernel
set_option maxRecDepth 100000 in
theorem ex2_list : ex2.toList = [108, 102, 112, 40, 82, 32, 120, 58, 32, 110, 111, 116, 40, 82, 40, 120, 41, 41, 41, 40, 97, 41] := by decide +kernel
set_option maxRecDepth 100000 in
theorem ex3_list : ex3.toList = [69, 40, 120] := by decide +kernel
set_option maxRecDepth 100000 in
theorem ex1_read : readF ex1.toList = .ok exF := by rw [ex1_list]; kernel_rfl
set_option maxRecDepth 100000 in
theorem ex2_read : readF ex2.toList = .ok exG := by rw [ex2_list]; kernel_rfl
set_option maxRecDepth 100000 in
theorem ex3_read : readF ex3.toList = .error 3 := by rw [ex3_list]; kernel_rfl
theorem exG_look : (lookF fitP exG).isSome = false := by kernel_rfl
def exS : St ByteArray := ⟨7, 5, [(⟨#[69]⟩, 2, true)], [⟨#[97]⟩, ⟨#[98]⟩]⟩
theorem exF_look : lookF fitP exF = some exS := by kernel_rfl

end Go.Proofs.YtmnpelhcgobfaaaDoor.Fo

/-
  Walks: shape.Power.
-/
namespace Go.Proofs.YtmnpelhcgobfaaaDoor
open Go.RowKit

end Go.Proofs.YtmnpelhcgobfaaaDoor

/-
  Walks: shape.Rank, the reference's Pow, Power and Rank.
-/
namespace Go.Proofs.YtmnpelhcgobfaaaDoor
open Go.RowKit

end Go.Proofs.YtmnpelhcgobfaaaDoor

/-
  Walks: shape.Tuple, the reference's Tuple.
-/
namespace Go.Proofs.YtmnpelhcgobfaaaDoor
open Go.RowKit

theorem int_info : (Tryd.prog.info? 3).map (fun i => (i.zero, i.size, i.bytes)) = some (some (.int .i64 0), 1, 8) := by kernel_rfl

/-- A row of zeros, as make lays it. -/
def zrow (k : Nat) : Array Value := madeCells #[.int .i64 0] k
theorem zrow_size (k : Nat) : (zrow k).size = k := size_madeCells _ _
theorem Ints.nil (w : World) (B : Nat) : Ints w B (.slice none 0 0) [] := ⟨_, _, _, rfl, rfl, by omega, Reads.none_⟩

end Go.Proofs.YtmnpelhcgobfaaaDoor

/-
  Walks: shape.copyTuple; append of a whole slice of ints that came in.
-/
namespace Go.Proofs.YtmnpelhcgobfaaaDoor
open Go.RowKit

/-- Nothing is appended: the value and the world stay. -/
theorem run_append_none {P : Program} (w : World) (base : Nat) (t ty e : TypeId) (i : TypeInfo) (size : Nat) (ht : P.underlying t = some (.slice e)) (hi : P.info? e = some i)
    (v : Value) (n : Nat) (xs : List Value) (hown : w.ownsRow base e size v n xs) (c : Nat) : (Builtin.append_ #[t, t] ty #[v, .slice none 0 c]).run P w = .ok v w := by
  rcases hown.2 with ⟨rfl, rfl⟩ | ⟨g, cap, cur, rfl, -, -, hnc, -⟩
  · simp [Builtin.append_, run_underlying ht, sizeOf, typeInfo, hi, Builtin.lenOf, Builtin.firstCells]
  · simp [Builtin.append_, run_underlying ht, sizeOf, typeInfo, hi, Builtin.lenOf, Builtin.firstCells, hnc, storeCells]

theorem own_empty (w : World) (t : TypeId) (size : Nat) : (w.alloc (.cells #[] t)).ownsRow w.heap.size t size (.slice (some ⟨w.heap.size, 0, none⟩) 0 0) 0 [] := by
  refine ⟨by simp, .inr ⟨w.heap.size, 0, #[], rfl, Nat.le_refl _, heap_alloc_new w _, Nat.le_refl _, by unfold maxLen; omega, by simp, by simp⟩⟩

end Go.Proofs.YtmnpelhcgobfaaaDoor

/-
  Rows of the call's own: appends of tuples and of relations as steps of a region; rows that read as tuples, as relations.
-/
namespace Go.Proofs.YtmnpelhcgobfaaaDoor
open Go.RowKit

/-- The slice values us are tuples of the call's own. -/
def Elems (w : World) (L : Nat) (us : List Value) (ts : List (List Int)) : Prop := ∀ (j : Nat) (u : Value) (t : List Int), us[j]? = some u → ts[j]? = some t → NInts w L u t
theorem Elems.keep {w w' : World} {L : Nat} {us : List Value} {ts : List (List Int)} (h : Elems w L us ts) (hk : Keeps L [3] w w') : Elems w' L us ts := fun j u t h1 h2 => (h j u t h1 h2).keep hk
theorem Elems.snoc {w : World} {L : Nat} {us : List Value} {ts : List (List Int)} (h : Elems w L us ts) (hl : us.length = ts.length) {u : Value} {t : List Int} (hu : NInts w L u t) : Elems w L (us ++ [u]) (ts ++ [t]) := by
  intro j u' t' h1 h2
  by_cases hj : j < us.length
  · rw [List.getElem?_append_left hj] at h1
    rw [List.getElem?_append_left (by omega)] at h2
    exact h j u' t' h1 h2
  · rw [List.getElem?_append_right (by omega)] at h1
    rw [List.getElem?_append_right (by omega)] at h2
    have hj0 : j - us.length = 0 := by
      have := (List.getElem?_eq_some_iff.1 h1).1
      simp at this; omega
    rw [hj0] at h1
    rw [show j - ts.length = 0 by omega] at h2
    simp at h1 h2
    rw [← h1, ← h2]; exact hu

/-- A row's cells are those of the relations rs, whose tuples are the slices us. -/
def RCells (xs us : List Value) (rs : List Sh.Rel) : Prop :=
  xs.length = rs.length * 3 ∧ us.length = rs.length ∧ ∀ (j : Nat) (r : Sh.Rel), rs[j]? = some r → xs[j * 3]? = some (.string r.name) ∧ xs[j * 3 + 1]? = some (.int .i64 r.arity) ∧ xs[j * 3 + 2]? = us[j]?
theorem RCells.nil : RCells [] [] [] := ⟨rfl, rfl, fun j r h => by simp at h⟩
theorem RCells.snoc {xs us : List Value} {rs : List Sh.Rel} (h : RCells xs us rs) (r : Sh.Rel) (u : Value) : RCells (xs ++ [.string r.name, .int .i64 r.arity, u]) (us ++ [u]) (rs ++ [r]) := by
  obtain ⟨h1, h2, h3⟩ := h
  refine ⟨by simp [h1]; omega, by simp [h2], fun j r' hr => ?_⟩
  by_cases hj : j < rs.length
  · rw [List.getElem?_append_left hj] at hr
    obtain ⟨a, b, c⟩ := h3 j r' hr
    rw [List.getElem?_append_left (by omega), List.getElem?_append_left (by omega), List.getElem?_append_left (by omega), List.getElem?_append_left (by omega)]
    exact ⟨a, b, c⟩
  · rw [List.getElem?_append_right (by omega)] at hr
    have hj0 : j = rs.length := by
      have := (List.getElem?_eq_some_iff.1 hr).1
      simp at this; omega
    subst hj0
    simp at hr
    subst hr
    rw [List.getElem?_append_right (by omega), List.getElem?_append_right (by omega), List.getElem?_append_right (by omega), List.getElem?_append_right (by omega)]
    rw [show rs.length * 3 - xs.length = 0 by omega, show rs.length * 3 + 1 - xs.length = 1 by omega, show rs.length * 3 + 2 - xs.length = 2 by omega, show rs.length - us.length = 0 by omega]
    exact ⟨rfl, rfl, rfl⟩
end Go.Proofs.YtmnpelhcgobfaaaDoor

/-
  Walk: shape.copyRel.
-/
namespace Go.Proofs.YtmnpelhcgobfaaaDoor
open Go.RowKit

theorem take_snoc {α : Type} {l : List α} {k : Nat} {x : α} (h : l[k]? = some x) : l.take (k + 1) = l.take k ++ [x] := by
  obtain ⟨hk, rfl⟩ := List.getElem?_eq_some_iff.1 h
  exact List.take_succ_eq_append_getElem hk
theorem getD_some {α : Type} {l : List α} {k : Nat} {d : α} (h : k < l.length) : l[k]? = some (l.getD k d) := by
  rw [List.getD_eq_getElem?_getD, List.getElem?_eq_getElem h]; rfl
/-- A cell store into a block that is none of the row's. -/
theorem own_set {w : World} {base n size : Nat} {e : TypeId} {v : Value} {xs : List Value} (h : w.ownsRow base e size v n xs) {p : Addr} (hp : p.block < base) (u : Value) : (w.setCell p u).ownsRow base e size v n xs :=
  h.kept (row := some p.block) ⟨rfl, rfl, rfl, by simp [World.setCell], fun i _ hne => Below.heap_setCell _ _ _ _ (fun e => hne (by rw [e]))⟩ (by
    cases ho : v.ownBlock with
    | none => exact .inl rfl
    | some g => exact .inr (fun e => by injection e with e; have := (h.lt g ho).1; omega))
theorem own_below {w w' : World} {base n size : Nat} {e : TypeId} {v : Value} {xs : List Value} (h : w.ownsRow base e size v n xs) (hb : Below w.heap.size w w') : w'.ownsRow base e size v n xs :=
  h.kept (row := none) ⟨hb.os, hb.tape, hb.output, hb.size, fun i hi _ => hb.block i hi⟩ (by
    cases ho : v.ownBlock with
    | none => exact .inl rfl
    | some g => exact .inr (fun e => by cases e))

end Go.Proofs.YtmnpelhcgobfaaaDoor

/-
  Walks: the reference's Among and SameNames, at slices of strings.
-/
namespace Go.Proofs.YtmnpelhcgobfaaaDoor
open Go.RowKit

set_option maxRecDepth 100000 in
set_option maxHeartbeats 400000 in
theorem famong_any (v : Value) (l : List ByteArray) (x : ByteArray) (w : World) (S : Nat → Prop) (h : Strs w S v l) :
    Calls Tryd.prog 16 #[v, .string x] w fun e w' => e = .returned (.bool (decide (x ∈ l))) ∧ w = w' := by
  have h' := h
  obtain ⟨A, n, c, rfl, hn, hmx, -⟩ := h'
  have Hn := Lib.hid hn; clear hn
  go_enter Tryd.func16, Tryd.ntmps16
  go_wp2
  go_loop [5] (fun i => ∃ k : Nat, k ≤ n ∧ i = .int .i64 k ∧ x ∉ l.take k) (fun i => n - (intOf i).toNat)
  case atStart => exact ⟨0, Nat.zero_le _, rfl, by simp⟩
  case round =>
    obtain ⟨k, hk, rfl, hno⟩ := hrel
    by_cases hlt : k < n
    · obtain ⟨ad, s, rfl, hb, hs, hc, hsz⟩ := h.at_ hlt
      have Hs := Lib.hid hs; clear hs
      have Hno := Lib.hid hno; clear hno
      by_cases he : s = x
      · subst he
        go_wp2
        go_ret
        exact ⟨ret_bool (decide_eq_true (List.mem_of_getElem? Hs.out)).symm, rfl⟩
      · have hn1 : x ∉ l.take (k + 1) := by
          rw [take_snoc Hs.out, List.mem_append]
          rintro (h1 | h1)
          · exact Hno.out h1
          · exact he (List.mem_singleton.1 h1).symm
        have Hn1 := Lib.hid hn1; clear hn1
        have hbq := ne_bytes he
        go_wp2
        exact ⟨⟨k + 1, by omega, by go_num, Hn1.out⟩, by simp [intOf]; omega⟩
    · obtain rfl : k = n := by omega
      have hf : decide (x ∈ l) = false := decide_eq_false (by rwa [List.take_of_length_le (by have := Hn.out; omega)] at hno)
      have Hf := Lib.hid hf; clear hf hno
      go_wp2
      go_ret
      exact ⟨ret_bool (by rw [Hf.out]), rfl⟩

theorem drop_eq {l m : List ByteArray} {k : Nat} {s t : ByteArray} (hs : l[k]? = some s) (ht : m[k]? = some t) : l.drop k = m.drop k ↔ s = t ∧ l.drop (k + 1) = m.drop (k + 1) := by
  obtain ⟨h1, rfl⟩ := List.getElem?_eq_some_iff.1 hs
  obtain ⟨h2, rfl⟩ := List.getElem?_eq_some_iff.1 ht
  rw [List.drop_eq_getElem_cons h1, List.drop_eq_getElem_cons h2, List.cons.injEq]

set_option maxRecDepth 100000 in
set_option maxHeartbeats 400000 in
theorem fsamen_any (v u : Value) (l m : List ByteArray) (w : World) (S S' : Nat → Prop) (h : Strs w S v l) (g : Strs w S' u m) :
    Calls Tryd.prog 21 #[v, u] w fun e w' => e = .returned (.bool (decide (l = m))) ∧ ∃ n, w' = w.drewN n := by
  have h' := h
  have g' := g
  obtain ⟨A, len, c, rfl, hlen, hmax, -⟩ := h'
  obtain ⟨A', len', c', rfl, glen, gmax, -⟩ := g'
  have Hlen := Lib.hid hlen; clear hlen
  have Glen := Lib.hid glen; clear glen
  by_cases hne : len = len'
  · subst hne
    go_enter Tryd.func21, Tryd.ntmps21
    go_wp2
    go_loopw [5] (fun i wr => ∃ k m' : Nat, k ≤ len ∧ i = .int .i64 k ∧ (l = m ↔ l.drop k = m.drop k) ∧ wr = w.drewN m') (fun i _ => len - (intOf i).toNat)
    case atStart => exact ⟨0, 0, Nat.zero_le _, rfl, by simp, rfl⟩
    case round =>
      obtain ⟨k, m', hk, rfl, heq, rfl⟩ := hrel
      have Heq := Lib.hid heq; clear heq
      by_cases hlt : k < len
      · obtain ⟨ad, s, rfl, hb, hs, hc, hsz⟩ := h.at_ hlt
        obtain ⟨ad', t, rfl, hb', ht, hc', htz⟩ := g.at_ hlt
        have hst := drop_eq hs ht
        have Hst := Lib.hid hst; clear hst hs ht
        by_cases he : s = t
        · subst he
          go_wp2
          go_quiet (fail)
          go_wp2
          exact ⟨⟨k + 1, _, by omega, by go_num, Heq.out.trans (Hst.out.trans (and_iff_right trivial)), rfl⟩, by simp [intOf]; omega⟩
        · have hbq := ne_bytes he
          go_wp2
          go_quiet (fail)
          go_wp2
          go_ret
          exact ⟨ret_bool (decide_eq_false (fun h => he (Hst.out.1 (Heq.out.1 h)).1)).symm, _, World.drewN_drewN _ _ _⟩
      · obtain rfl : k = len := by omega
        go_wp2
        go_ret
        refine ⟨ret_bool (decide_eq_true (Heq.out.2 ?_)).symm, _, rfl⟩
        rw [List.drop_eq_nil_of_le (by have := Hlen.out; omega), List.drop_eq_nil_of_le (by have := Glen.out; omega)]
  · have hl : ¬ l = m := fun e => hne (by rw [Hlen.out, Glen.out, e])
    have Hl := Lib.hid hl; clear hl
    go_enter Tryd.func21, Tryd.ntmps21
    go_wp2
    go_ret
    exact ⟨ret_bool (decide_eq_false Hl.out).symm, 0, rfl⟩

end Go.Proofs.YtmnpelhcgobfaaaDoor

/-
  Plain mathematics: what FormulaFree and FormulaPositive ask of a valid formula and its kids.
-/
namespace Go.Proofs.YtmnpelhcgobfaaaDoor.Fo
variable {N : Type} [DecidableEq N]

omit [DecidableEq N] in
theorem sizes_mem {f : F N} : ∀ {l : List (F N)}, f ∈ l → size f ≤ sizes l
  | g :: l, h => by
    rw [sizes]
    rcases List.mem_cons.1 h with rfl | h
    · omega
    · have := sizes_mem h; omega
omit [DecidableEq N] in
theorem depths_mem {f : F N} : ∀ {l : List (F N)}, f ∈ l → depth f ≤ depths l
  | g :: l, h => by
    rw [depths]
    rcases List.mem_cons.1 h with rfl | h
    · omega
    · have := depths_mem h; omega
omit [DecidableEq N] in
theorem shapes_mem {fit : Int → Int → N → List N → List N → Nat → Bool} {f : F N} : ∀ {l : List (F N)}, shapesL fit l = true → f ∈ l → shapes fit f = true
  | g :: l, hs, h => by
    rw [shapesL, Bool.and_eq_true] at hs
    rcases List.mem_cons.1 h with rfl | h
    · exact hs.1
    · exact shapes_mem hs.2 h
theorem grow_mem {f : F N} : ∀ {l : List (F N)}, growL l = true → f ∈ l → growF f = true
  | g :: l, hs, h => by
    rw [growL, Bool.and_eq_true] at hs
    rcases List.mem_cons.1 h with rfl | h
    · exact hs.1
    · exact grow_mem hs.2 h
theorem arit_mem {f : F N} {bd : List (N × Int)} : ∀ {l : List (F N)}, aritL l bd = true → f ∈ l → aritF f bd = true
  | g :: l, hs, h => by
    rw [aritL, Bool.and_eq_true] at hs
    rcases List.mem_cons.1 h with rfl | h
    · exact hs.1
    · exact arit_mem hs.2 h
theorem occ_mem {bd : List N} {o : N × Int} : ∀ {l : List (F N)}, o ∈ occFL l bd ↔ ∃ f ∈ l, o ∈ occF f bd
  | [] => by simp [occFL]
  | g :: l => by
    rw [occFL, List.mem_append, occ_mem (l := l)]
    simp
theorem free_mem {x : N} : ∀ {l : List (F N)}, freeLB x l = true ↔ ∃ f ∈ l, freeB x f = true
  | [] => by simp [freeLB]
  | g :: l => by
    rw [freeLB, Bool.or_eq_true, free_mem (l := l)]
    simp

theorem getM_app {n : N} {b : List (N × Int)} : ∀ {a : List (N × Int)}, getM n (a ++ b) = (match getM n a with | some m => some m | none => getM n b)
  | [] => rfl
  | (m, u) :: a => by
    simp only [List.cons_append, getM]
    by_cases h : m = n
    · rw [if_pos h, if_pos h]
    · rw [if_neg h, if_neg h]; exact getM_app

mutual
theorem arit_less : ∀ (f : F N) (a b : List (N × Int)), aritF f (a ++ b) = true → aritF f a = true
  | .mk k ar n vs ags ks, a, b, h => by
    unfold aritF at h ⊢
    by_cases hk : k = 0
    · rw [if_pos hk] at h ⊢
      rw [getM_app] at h
      revert h
      cases getM n a with
      | none => intro _; rfl
      | some m => exact fun h => h
    · rw [if_neg hk] at h ⊢
      by_cases hb : bindsB k = true
      · rw [if_pos hb] at h ⊢
        exact aritL_less ks _ b h
      · rw [if_neg hb] at h ⊢
        exact aritL_less ks _ b h
theorem aritL_less : ∀ (l : List (F N)) (a b : List (N × Int)), aritL l (a ++ b) = true → aritL l a = true
  | [], a, b, h => rfl
  | f :: l, a, b, h => by
    rw [aritL, Bool.and_eq_true] at h ⊢
    exact ⟨arit_less f a b h.1, aritL_less l a b h.2⟩
end
mutual
/-- An occurrence that a binding further out governs has its arity. -/
theorem occ_arit : ∀ (f : F N) (a b : List (N × Int)), aritF f (a ++ b) = true → ∀ o ∈ occF f (a.map (·.1)), ∀ m, getM o.1 b = some m → o.2 = m
  | .mk k ar n vs ags ks, a, b, h => by
    unfold aritF at h
    unfold occF
    by_cases hk : k = 0
    · rw [if_pos hk] at h ⊢
      by_cases hn : n ∈ a.map (·.1)
      · rw [if_pos hn]; simp
      · rw [if_neg hn]
        intro o ho m hm
        rw [List.mem_singleton] at ho
        subst ho
        have hg : getM n a = none := by
          cases hg : getM n a with
          | none => rfl
          | some u =>
            exfalso
            apply hn
            clear h hm hn
            induction a with
            | nil => simp [getM] at hg
            | cons p a ih =>
              obtain ⟨q, v⟩ := p
              simp only [getM] at hg
              by_cases e : q = n
              · simp [e]
              · rw [if_neg e] at hg
                simp only [List.map_cons, List.mem_cons]
                exact .inr (ih hg)
        rw [getM_app, hg] at h
        simp only [show getM n b = some m from hm] at h
        exact (of_decide_eq_true h).symm
    · rw [if_neg hk] at h ⊢
      by_cases hb : bindsB k = true
      · rw [if_pos hb] at h ⊢
        exact occL_arit ks ((n, placesI k ar vs) :: a) b h
      · rw [if_neg hb] at h ⊢
        exact occL_arit ks a b h
theorem occL_arit : ∀ (l : List (F N)) (a b : List (N × Int)), aritL l (a ++ b) = true → ∀ o ∈ occFL l (a.map (·.1)), ∀ m, getM o.1 b = some m → o.2 = m
  | [], a, b, h => by simp [occFL]
  | f :: l, a, b, h => by
    rw [aritL, Bool.and_eq_true] at h
    intro o ho
    rw [occFL, List.mem_append] at ho
    rcases ho with ho | ho
    · exact occ_arit f a b h.1 o ho
    · exact occL_arit l a b h.2 o ho
end
mutual
theorem occ_app : ∀ (f : F N) (a b : List N) (o : N × Int), o ∈ occF f (a ++ b) ↔ o ∈ occF f a ∧ o.1 ∉ b
  | .mk k ar n vs ags ks, a, b, o => by
    unfold occF
    by_cases hk : k = 0
    · rw [if_pos hk, if_pos hk]
      by_cases ha : n ∈ a
      · rw [if_pos (List.mem_append_left _ ha), if_pos ha]; simp
      · by_cases hb : n ∈ b
        · rw [if_pos (List.mem_append_right _ hb), if_neg ha]
          constructor
          · intro h; cases h
          · rintro ⟨h, h2⟩
            rw [List.mem_singleton] at h
            subst h
            exact absurd hb h2
        · rw [if_neg (fun h => (List.mem_append.1 h).elim ha hb), if_neg ha]
          constructor
          · intro h
            refine ⟨h, ?_⟩
            rw [List.mem_singleton] at h
            subst h
            exact hb
          · exact fun h => h.1
    · rw [if_neg hk, if_neg hk]
      by_cases hb : bindsB k = true
      · rw [if_pos hb, if_pos hb]; exact occL_app ks (n :: a) b o
      · rw [if_neg hb, if_neg hb]; exact occL_app ks a b o
theorem occL_app : ∀ (l : List (F N)) (a b : List N) (o : N × Int), o ∈ occFL l (a ++ b) ↔ o ∈ occFL l a ∧ o.1 ∉ b
  | [], a, b, o => by simp [occFL]
  | f :: l, a, b, o => by
    rw [occFL, occFL, List.mem_append, List.mem_append, occ_app f a b o, occL_app l a b o]
    constructor
    · rintro (h | h)
      · exact ⟨.inl h.1, h.2⟩
      · exact ⟨.inr h.1, h.2⟩
    · rintro ⟨h | h, h2⟩
      · exact .inl ⟨h, h2⟩
      · exact .inr ⟨h, h2⟩
end

section
variable {fit : Int → Int → N → List N → List N → Nat → Bool}
/-- What a valid formula's occurrences are: those of its kids but the name that it binds. -/
theorem occ_kids {k a : Int} {n : N} {vs ags : List N} {ks : List (F N)} (hk : k ≠ 0) (o : N × Int) :
    o ∈ occF (.mk k a n vs ags ks) [] ↔ ∃ f ∈ ks, o ∈ occF f [] ∧ ¬ (bindsB k = true ∧ o.1 = n) := by
  rw [occF, if_neg hk, occ_mem]
  by_cases hb : bindsB k = true
  · rw [if_pos hb]
    constructor
    · rintro ⟨f, hf, h⟩
      have := (occ_app f [] [n] o).1 h
      exact ⟨f, hf, this.1, fun h' => this.2 (by simp [h'.2])⟩
    · rintro ⟨f, hf, h, h2⟩
      exact ⟨f, hf, (occ_app f [] [n] o).2 ⟨h, fun h' => h2 ⟨hb, List.mem_singleton.1 h'⟩⟩⟩
  · rw [if_neg hb]
    constructor
    · rintro ⟨f, hf, h⟩; exact ⟨f, hf, h, fun h' => hb h'.1⟩
    · rintro ⟨f, hf, h, -⟩; exact ⟨f, hf, h⟩
theorem valid_kid (h0 : ∀ a n vs ags k, fit 0 a n vs ags k = true → k = 0) {k a : Int} {n : N} {vs ags : List N} {ks : List (F N)} {f : F N} (h : Valid fit (.mk k a n vs ags ks)) (hf : f ∈ ks) : k ≠ 0 ∧ Valid fit f := by
  obtain ⟨h1, h2, h3, h4, h5, h6⟩ := h
  rw [size] at h1
  rw [depth] at h2
  rw [shapes, Bool.and_eq_true] at h3
  have hk : k ≠ 0 := by
    rintro rfl
    have := h0 _ _ _ _ _ h3.1
    rw [List.length_eq_zero_iff.1 this] at hf
    cases hf
  refine ⟨hk, ?_⟩
  rw [agree_occF] at h6
  rw [growF, Bool.and_eq_true] at h5
  unfold aritF at h4
  rw [if_neg hk] at h4
  have hs := sizes_mem hf
  have hd := depths_mem hf
  have ha := arit_mem h4 hf
  refine ⟨by omega, by omega, shapes_mem h3.2 hf, ?_, grow_mem h5.2 hf, ?_⟩
  · exact arit_less f [] _ ha
  · rw [agree_occF]
    intro o ho p hp e
    by_cases hb : bindsB k = true ∧ o.1 = n
    · rw [if_pos hb.1] at ha
      have e1 := occ_arit f [] _ ha o ho (placesI k a vs) (by simp [getM, hb.2])
      have e2 := occ_arit f [] _ ha p hp (placesI k a vs) (by simp [getM, ← e, hb.2])
      exact e1.trans e2.symm
    · exact h6 o ((occ_kids hk o).2 ⟨f, hf, ho, hb⟩) p ((occ_kids hk p).2 ⟨f, hf, hp, fun h => hb ⟨h.1, e.trans h.2⟩⟩) e
end

theorem free_kids {k a : Int} {n x : N} {vs ags : List N} {ks : List (F N)} : freeB x (.mk k a n vs ags ks) = true ↔ x ∈ ags ∨ (x ∉ vs ∧ ∃ f ∈ ks, freeB x f = true) := by
  rw [freeB, Bool.or_eq_true, Bool.and_eq_true, free_mem]
  simp

/-- A list without repetition is not longer than one that has all its members. -/
theorem nodup_length {α : Type} [DecidableEq α] : ∀ (l m : List α), l.Nodup → (∀ x ∈ l, x ∈ m) → l.length ≤ m.length
  | [], m, _, _ => Nat.zero_le _
  | x :: l, m, h, hs => by
    have hx := hs x (List.mem_cons_self ..)
    rw [List.nodup_cons] at h
    have := nodup_length l (m.erase x) h.2 fun y hy => by
      have hne : y ≠ x := fun e => h.1 (e ▸ hy)
      exact (List.mem_erase_of_ne hne).2 (hs y (List.mem_cons_of_mem _ hy))
    rw [List.length_erase_of_mem hx] at this
    have hp : 0 < m.length := List.length_pos_of_mem hx
    rw [List.length_cons]
    omega

mutual
/-- Not both a formula and its negation are positive in a name that occurs. -/
theorem pos_both : ∀ (f : F N) (nm : N) (od pt : Bool) (bd : List N), nm ∉ bd → posF f nm od pt = true → posF f nm (!od) pt = true → ∀ o ∈ occF f bd, o.1 ≠ nm
  | .mk k a n vs ags ks, nm, od, pt, bd, hn, h1, h2 => by
    unfold posF at h1 h2
    unfold occF
    by_cases hk : k = 0
    · rw [if_pos hk] at h1 h2 ⊢
      by_cases e : n = nm
      · subst e
        rw [if_neg hn]
        cases od <;> cases pt <;> simp at h1 h2
      · split
        · intro o h; cases h
        · intro o ho
          rw [List.mem_singleton] at ho
          subst ho
          exact e
    · rw [if_neg hk] at h1 h2 ⊢
      by_cases hb : bindsB k = true
      · rw [if_pos hb]
        by_cases e : n = nm
        · subst e
          intro o ho e2
          have := (occL_app ks [] (n :: bd) o).1 ho
          exact this.2 (by rw [e2]; exact List.mem_cons_self ..)
        · rw [if_neg (fun h => e h.2)] at h1 h2
          refine posL_both ks nm (if k = 3 then !od else od) _ (n :: bd) ?_ h1 ?_
          · simp only [List.mem_cons, not_or]; exact ⟨fun h => e h.symm, hn⟩
          · by_cases h3 : k = 3
            · rw [if_pos h3] at h2 ⊢; exact h2
            · rw [if_neg h3] at h2 ⊢; exact h2
      · rw [if_neg hb]
        rw [if_neg (fun h => hb h.1)] at h1 h2
        refine posL_both ks nm (if k = 3 then !od else od) _ bd hn h1 ?_
        by_cases h3 : k = 3
        · rw [if_pos h3] at h2 ⊢; exact h2
        · rw [if_neg h3] at h2 ⊢; exact h2
theorem posL_both : ∀ (l : List (F N)) (nm : N) (od pt : Bool) (bd : List N), nm ∉ bd → posL l nm od pt = true → posL l nm (!od) pt = true → ∀ o ∈ occFL l bd, o.1 ≠ nm
  | [], nm, od, pt, bd, _, _, _ => by simp [occFL]
  | f :: l, nm, od, pt, bd, hn, h1, h2 => by
    rw [posL, Bool.and_eq_true] at h1 h2
    intro o ho
    rw [occFL, List.mem_append] at ho
    rcases ho with ho | ho
    · exact pos_both f nm od pt bd hn h1.1 h2.1 o ho
    · exact posL_both l nm od pt bd hn h1.2 h2.2 o ho
end
mutual
/-- A formula is positive in a name that does not occur. -/
theorem pos_absent : ∀ (f : F N) (nm : N) (od pt : Bool) (bd : List N), nm ∉ bd → (∀ o ∈ occF f bd, o.1 ≠ nm) → posF f nm od pt = true
  | .mk k a n vs ags ks, nm, od, pt, bd, hn, h => by
    unfold posF
    unfold occF at h
    by_cases hk : k = 0
    · rw [if_pos hk] at h ⊢
      by_cases e : n = nm
      · subst e
        rw [if_neg hn] at h
        exact absurd rfl (h _ (List.mem_singleton.2 rfl))
      · simp [e]
    · rw [if_neg hk] at h ⊢
      by_cases hb : bindsB k = true ∧ n = nm
      · rw [if_pos hb]
      · rw [if_neg hb]
        by_cases hb2 : bindsB k = true
        · rw [if_pos hb2] at h
          exact posL_absent ks nm _ _ (n :: bd) (by simp only [List.mem_cons, not_or]; exact ⟨fun e => hb ⟨hb2, e.symm⟩, hn⟩) h
        · rw [if_neg hb2] at h
          exact posL_absent ks nm _ _ bd hn h
theorem posL_absent : ∀ (l : List (F N)) (nm : N) (od pt : Bool) (bd : List N), nm ∉ bd → (∀ o ∈ occFL l bd, o.1 ≠ nm) → posL l nm od pt = true
  | [], nm, od, pt, bd, _, _ => rfl
  | f :: l, nm, od, pt, bd, hn, h => by
    rw [posL, Bool.and_eq_true]
    exact ⟨pos_absent f nm od pt bd hn fun o ho => h o (by rw [occFL]; exact List.mem_append_left _ ho), posL_absent l nm od pt bd hn fun o ho => h o (by rw [occFL]; exact List.mem_append_right _ ho)⟩
end

theorem pos_not (nm e : N) (f : F N) (od : Bool) : posF (.mk 3 0 e [] [] [f]) nm od false = posF f nm (!od) false := by
  rw [posF, posL, posL]
  simp [bindsB]

/-- The negation of a valid formula is valid, where size and depth allow. -/
theorem valid_not {f : F ByteArray} (h : Valid fitP f) (hs : size f ≤ 3999) (hd : depth f ≤ 59) : Valid fitP (.mk 3 0 ⟨#[]⟩ [] [] [f]) := by
  obtain ⟨h1, h2, h3, h4, h5, h6⟩ := h
  refine ⟨by simp [size, sizes]; omega, by simp [depth, depths]; omega, ?_, ?_, ?_, ?_⟩
  · rw [shapes, shapesL, shapesL, h3, List.length_singleton]; decide +kernel
  · rw [aritF, aritL, aritL]; simp [bindsB, h4]
  · rw [growF, growL, growL]; simp [h5]
  · rw [agree_occF] at h6 ⊢
    have e : occF (.mk 3 0 ⟨#[]⟩ [] [] [f]) [] = occF f ([] : List ByteArray) := by
      rw [occF, occFL, occFL]
      simp [bindsB]
    rw [e]
    exact h6
end Go.Proofs.YtmnpelhcgobfaaaDoor.Fo

/-
  Words for memory: a formula's kid, as a walk finds it; what a formula's six cells are.
-/
namespace Go.Proofs.YtmnpelhcgobfaaaDoor
open Go.RowKit
open Fo (F)

theorem six_of {w : World} {S : Nat → Prop} {k a : Int} {n : ByteArray} {ws ar : List ByteArray} {ks : List FB} {A3 : Option Addr} {n3 c3 : Nat} {A4 : Option Addr} {n4 c4 : Nat} {A : Option Addr} {m c : Nat} (h : FVal w S (.mk k a n ws ar ks) [.int .i64 k, .int .i64 a, .string n, .slice A3 n3 c3, .slice A4 n4 c4, .slice A m c]) :
    n.size ≤ 140737488351232 ∧ Strs w S (.slice A3 n3 c3) ws ∧ Strs w S (.slice A4 n4 c4) ar ∧ m = ks.length ∧ m ≤ 140737488351232 ∧ m ≤ c ∧ (0 < m → ∃ ad, A = some ad ∧ S ad.block ∧ FKids w S ad ks 0) := by
  unfold FVal at h
  obtain ⟨u3, u4, A', m', c', h1, h2, h3, h4, h5, h6, h6c, h7⟩ := h
  simp only [List.cons.injEq, Value.slice.injEq, and_true, true_and] at h1
  obtain ⟨rfl, rfl, rfl, rfl, rfl⟩ := h1
  exact ⟨h2, h3, h4, h5, h6, h6c, h7⟩

/-- The six cells of a kid in a world in which the formula's blocks are as they were. -/
structure KidAt (w wr : World) (S : Nat → Prop) (ad : Addr) (t : Nat) (g : FB) (x0 x1 x2 x3 x4 x5 : Value) : Prop where
  c0 : wr.cell? (ad.add (t * 6)) = some x0
  c1 : wr.cell? ⟨(ad.add (t * 6)).block, (ad.add (t * 6)).off + 1, none⟩ = some x1
  c2 : wr.cell? ⟨(ad.add (t * 6)).block, (ad.add (t * 6)).off + 2, none⟩ = some x2
  c3 : wr.cell? ⟨(ad.add (t * 6)).block, (ad.add (t * 6)).off + 3, none⟩ = some x3
  c4 : wr.cell? ⟨(ad.add (t * 6)).block, (ad.add (t * 6)).off + 4, none⟩ = some x4
  c5 : wr.cell? ⟨(ad.add (t * 6)).block, (ad.add (t * 6)).off + 5, none⟩ = some x5
  val : FVal wr S g [x0, x1, x2, x3, x4, x5]
  old : FVal w S g [x0, x1, x2, x3, x4, x5]

theorem kid_at {w wr : World} {S : Nat → Prop} {ad : Addr} {ks : List FB} {t : Nat} {g : FB} (hk : FKids w S ad ks 0) (had : S ad.block) (hg : ks[t]? = some g) (hkeep : ∀ p : Addr, S p.block → wr.cell? p = w.cell? p) :
    ∃ (k a : Int) (n : ByteArray) (A3 : Option Addr) (n3 c3 : Nat) (A4 : Option Addr) (n4 c4 : Nat) (A : Option Addr) (m c : Nat), KidAt w wr S ad t g (.int .i64 k) (.int .i64 a) (.string n) (.slice A3 n3 c3) (.slice A4 n4 c4) (.slice A m c) := by
  obtain ⟨x0, x1, x2, x3, x4, x5, e0, e1, e2, e3, e4, e5, hf⟩ := FKids.get ks 0 t g hk hg
  rw [Nat.zero_add] at e0 e1 e2 e3 e4 e5
  obtain ⟨k', a', n', ws', ar', ks'⟩ := g
  obtain ⟨B3, r3, s3, B4, r4, s4, B, r, s, hcs, -⟩ := hf.open_
  simp only [List.cons.injEq, and_true] at hcs
  obtain ⟨rfl, rfl, rfl, rfl, rfl, rfl⟩ := hcs
  have hc : ∀ i, wr.cell? (ad.add i) = w.cell? (ad.add i) := fun i => hkeep _ (by rw [block_of_add]; exact had)
  have hcf : ∀ i, wr.cell? ⟨(ad.add (t * 6)).block, (ad.add (t * 6)).off + i, none⟩ = w.cell? ⟨(ad.add (t * 6)).block, (ad.add (t * 6)).off + i, none⟩ := fun i => hkeep _ (by show S (ad.add (t * 6)).block; rw [block_of_add]; exact had)
  exact ⟨_, _, _, _, _, _, _, _, _, _, _, _, (hc (t * 6)).trans e0, (hcf 1).trans e1, (hcf 2).trans e2, (hcf 3).trans e3, (hcf 4).trans e4, (hcf 5).trans e5, FVal.keep hkeep _ _ hf, hf⟩

end Go.Proofs.YtmnpelhcgobfaaaDoor

/-
  Walk: alive, the examples of chapter 2.
-/
namespace Go.Proofs.YtmnpelhcgobfaaaDoor
open Go.RowKit
open Fo (F)

theorem rising_ltb {a b : ByteArray} (h1 : a.toList < b.toList) (h2 : b.toList < a.toList) : False := List.lt_asymm h1 h2
theorem rising_unique {g : ByteArray → Option Value} : ∀ {l m : List ByteArray}, Rising g l → Rising g m → l = m := by
  intro l m hl hm
  have hn : ∀ {k : List ByteArray}, k.Pairwise (fun a b => a.toList < b.toList) → k.Nodup := fun h => List.Pairwise.imp (S := fun a b => a ≠ b) (fun {a b} h e => by subst e; exact List.lt_irrefl _ h) h
  refine List.Perm.eq_of_pairwise (le := fun a b => a.toList < b.toList) (fun a b _ _ h1 h2 => (rising_ltb h1 h2).elim) hl.1 hm.1 ?_
  exact (List.perm_ext_iff_of_nodup (hn hl.1) (hn hm.1)).2 fun x => (hl.2 x).trans (hm.2 x).symm

theorem ex_free {l : List ByteArray} (h : Rising (freG Fo.exS.free) l) : l = [⟨#[97]⟩, ⟨#[98]⟩] := by
  refine rising_unique h ⟨?_, fun x => ?_⟩
  · refine List.Pairwise.cons (fun b hb => ?_) (List.pairwise_singleton _ _)
    rw [List.mem_singleton] at hb
    subst hb
    decide +kernel
  · unfold freG
    show x ∈ [(⟨#[97]⟩ : ByteArray), ⟨#[98]⟩] ↔ (if x ∈ [(⟨#[97]⟩ : ByteArray), ⟨#[98]⟩] then some (Value.bool true) else none).isSome = true ∧ x.size ≤ maxLen
    constructor
    · intro hx
      rw [if_pos hx]
      refine ⟨rfl, ?_⟩
      simp only [List.mem_cons, List.not_mem_nil, or_false] at hx
      rcases hx with rfl | rfl <;> decide
    · rintro ⟨hx, -⟩
      by_cases hm : x ∈ [(⟨#[97]⟩ : ByteArray), ⟨#[98]⟩]
      · exact hm
      · rw [if_neg hm] at hx; cases hx
theorem ex_syms {l : List ByteArray} (h : Rising (symG Fo.exS.syms) l) : l = [⟨#[69]⟩] := by
  refine rising_unique h ⟨List.pairwise_singleton _ _, fun x => ?_⟩
  unfold symG Fo.exS
  simp only [Fo.getM]
  constructor
  · intro hx
    rw [List.mem_singleton] at hx
    subst hx
    rw [if_pos rfl]
    exact ⟨rfl, by decide⟩
  · rintro ⟨hx, -⟩
    by_cases hm : (⟨#[69]⟩ : ByteArray) = x
    · subst hm; exact List.mem_singleton.2 rfl
    · rw [if_neg hm] at hx; cases hx

theorem ex1_out {w w' : World} {e : Ending} (h : FPPost Fo.ex1 w e w') : Below w.heap.size w w' ∧ ∃ A3 n3 c3 A4 n4 c4 A m c,
    e = .returned (.tuple #[.agg #[.int .i64 8, .int .i64 0, .string ⟨#[82]⟩, .slice A3 n3 c3, .slice A4 n4 c4, .slice A m c], .int .i64 0, .int .i64 0]) ∧
    FVal w' (· < w'.heap.size) Fo.exF [.int .i64 8, .int .i64 0, .string ⟨#[82]⟩, .slice A3 n3 c3, .slice A4 n4 c4, .slice A m c] := by
  obtain ⟨hb, v, a, r, rfl, -, h2⟩ := h
  have h2 := h2 (by decide +kernel)
  rw [Fo.ex1_read] at h2
  simp only [Fo.exF_look, Option.isSome_some, if_true] at h2
  obtain ⟨⟨cs, rfl, hf⟩, rfl, rfl⟩ := h2
  obtain ⟨A3, n3, c3, A4, n4, c4, A, m, c, rfl, -⟩ := FVal.open_ (show FVal w' _ (.mk _ _ _ _ _ _) cs from hf)
  exact ⟨hb, A3, n3, c3, A4, n4, c4, A, m, c, rfl, FVal.more (fun b hb => hb.2) _ _ hf⟩
theorem ex2_out {w w' : World} {e : Ending} (h : FPPost Fo.ex2 w e w') : Below w.heap.size w w' ∧
    e = .returned (.tuple #[.agg #[.int .i64 0, .int .i64 0, .string ⟨#[]⟩, .slice none 0 0, .slice none 0 0, .slice none 0 0], .int .i64 0, .int .i64 1]) := by
  obtain ⟨hb, v, a, r, rfl, -, h2⟩ := h
  have h2 := h2 (by decide +kernel)
  rw [Fo.ex2_read] at h2
  simp only [Fo.exG_look] at h2
  obtain ⟨rfl, rfl, rfl⟩ := h2
  exact ⟨hb, rfl⟩
theorem ex3_out {w w' : World} {e : Ending} (h : FPPost Fo.ex3 w e w') : Below w.heap.size w w' ∧
    e = .returned (.tuple #[.agg #[.int .i64 0, .int .i64 0, .string ⟨#[]⟩, .slice none 0 0, .slice none 0 0, .slice none 0 0], .int .i64 3, .int .i64 3]) := by
  obtain ⟨hb, v, a, r, rfl, -, h2⟩ := h
  have h2 := h2 (by decide +kernel)
  rw [Fo.ex3_read] at h2
  obtain ⟨rfl, rfl, rfl⟩ := h2
  exact ⟨hb, rfl⟩
theorem ex_freepost {w w' : World} {e : Ending} (h : FreePost Fo.exF w e w') : Below w.heap.size w w' ∧ ∃ v, e = .returned v ∧ Strs w' (· < w'.heap.size) v [⟨#[97]⟩, ⟨#[98]⟩] := by
  obtain ⟨hb, v, l, rfl, ho, hl, -, -, hr⟩ := h
  have hr := hr _ Fo.exF_look
  rw [ex_free hr] at ho
  exact ⟨hb, v, rfl, Strs.more (NStrs.own (L := w.heap.size) ho (by decide) (fun s hs => by
    simp only [List.mem_cons, List.not_mem_nil, or_false] at hs
    rcases hs with rfl | rfl <;> decide)) fun b hb => hb.2⟩
theorem ex_sympost {w w' : World} {e : Ending} (h : SymPost Fo.exF w e w') : Below w.heap.size w w' ∧ ∃ A c, e = .returned (.slice A 1 c) := by
  obtain ⟨hb, v, rfl, -, hr⟩ := h
  obtain ⟨l, hl, hri, ho⟩ := hr _ Fo.exF_look
  rw [ex_syms hri] at ho
  obtain ⟨A, c, rfl⟩ := own_slice ho
  exact ⟨hb, A, c, rfl⟩
theorem strs_ab {w : World} {g : Nat} (h : Blk w g 9 #[.string ⟨#[97]⟩, .string ⟨#[98]⟩]) : Strs w (· < w.heap.size) (.slice (some ⟨g, 0, none⟩) 2 2) [⟨#[97]⟩, ⟨#[98]⟩] := by
  refine ⟨_, _, _, rfl, rfl, by decide, Nat.le_refl _, fun s hs => ?_, fun _ => ⟨_, rfl, h.lt, fun j s hs => ?_⟩⟩
  · simp only [List.mem_cons, List.not_mem_nil, or_false] at hs
    rcases hs with rfl | rfl <;> decide
  · match j, hs with
    | 0, hs => injection hs with hs; subst hs; exact h.cell 0
    | 1, hs => injection hs with hs; subst hs; exact h.cell 1

/-- The package's words lie in the world. -/
structure HasW (w : World) : Prop where
  ok : Words w
  lt : 0 < w.heap.size
theorem HasW.below {w w' : World} {B : Nat} (h : HasW w) (hb : Below B w w') (hB : w.heap.size ≤ B) : HasW w' :=
  ⟨h.ok.keep (hb.block _ (Nat.lt_of_lt_of_le h.lt hB)), Nat.lt_of_lt_of_le h.lt hb.size⟩

abbrev zFc : Array Value := #[.int .i64 0, .int .i64 0, .string ⟨#[]⟩, .slice none 0 0, .slice none 0 0, .slice none 0 0]

/-- What alive keeps: the first formula's box, the words, and what lay there before. -/
structure AlK (w : World) (g : Nat) (cs : List Value) (B : Nat) (W : World) : Prop where
  blk : Blk W g 31 cs.toArray
  val : FVal W (· < B) Fo.exF cs
  bel : Below w.heap.size w W
  ge : B ≤ W.heap.size
  wds : HasW W
theorem AlK.step {w W W' : World} {g : Nat} {cs : List Value} {B : Nat} (h : AlK w g cs B W) (hb : Below W.heap.size W W') : AlK w g cs B W' :=
  ⟨Blk.below h.blk hb h.blk.lt, h.val.below (hb.mono h.ge), h.bel.trans (hb.mono h.bel.size), Nat.le_trans h.ge hb.size, h.wds.below hb (Nat.le_refl _)⟩
theorem AlK.alloc {w W : World} {g : Nat} {cs : List Value} {B : Nat} (h : AlK w g cs B W) (o : Obj) : AlK w g cs B (W.alloc o) := h.step ((Below.refl _ _).alloc (Nat.le_refl _) o)

set_option maxRecDepth 100000 in
set_option maxHeartbeats 1000000 in
theorem falive_any (w : World) (hw : HasW w) :
    Calls Tryd.prog 7 #[] w fun e w' => e = .returned (.bool true) ∧ Below w.heap.size w w' := by
  have hp1 := fparse_any Fo.ex1 w (by decide +kernel) hw.ok hw.lt
  have hp2 := fun W (h : HasW W) => fparse_any Fo.ex2 W (by decide +kernel) h.ok h.lt
  have hp3 := fun W (h : HasW W) => fparse_any Fo.ex3 W (by decide +kernel) h.ok h.lt
  have Hp1 := Lib.hid hp1; clear hp1
  have Hp2 := Lib.hid hp2; clear hp2
  have Hp3 := Lib.hid hp3; clear hp3
  have Hw := Lib.hid hw; clear hw
  go_enter Tryd.func7, Tryd.ntmps7
  go_wp2_with (first
   | (go_at_call 9
      with_reducible refine Hp1.out.mono ?_
      rintro e w1 hpost
      obtain ⟨hb1, A3, n3, c3, A4, n4, c4, A, m, c, rfl, hf1⟩ := ex1_out hpost; clear hpost
      have k1 : AlK w w1.heap.size [.int .i64 8, .int .i64 0, .string ⟨#[82]⟩, .slice A3 n3 c3, .slice A4 n4 c4, .slice A m c] w1.heap.size (w1.alloc (.cells #[.int .i64 8, .int .i64 0, .string ⟨#[82]⟩, .slice A3 n3 c3, .slice A4 n4 c4, .slice A m c] 31)) :=
        ⟨Blk.new w1 _ _, hf1.below ((Below.refl _ _).alloc (Nat.le_refl _) _), hb1.trans (((Below.refl _ _).alloc (Nat.le_refl _) _).mono hb1.size), by simp, (Hw.out.below hb1 (Nat.le_refl _)).below ((Below.refl _ _).alloc (Nat.le_refl _) _) (Nat.le_refl _)⟩
      have K1 := Lib.hid k1; clear k1 hf1 hb1)
   | (go_at_call 9
      with_reducible refine (Hp2.out _ K1.out.wds).mono ?_
      rintro e w2 hpost
      obtain ⟨hb2, rfl⟩ := ex2_out hpost; clear hpost
      have K2 := Lib.hid ((K1.out.step hb2).alloc (.cells #[.int .i64 0, .int .i64 0, .string ⟨#[]⟩, .slice none 0 0, .slice none 0 0, .slice none 0 0] 31)); clear hb2 K1)
   | (go_at_call 9
      with_reducible refine (Hp3.out _ K2.out.wds).mono ?_
      rintro e w3 hpost
      obtain ⟨hb3, rfl⟩ := ex3_out hpost; clear hpost
      have k3 := (K2.out.step hb3).alloc (.cells #[.int .i64 0, .int .i64 0, .string ⟨#[]⟩, .slice none 0 0, .slice none 0 0, .slice none 0 0] 31)
      generalize w1.heap.size = g at *
      have e0 := k3.blk.cell 0
      have e1 := k3.blk.cell 1
      have e2 := k3.blk.cell 2
      have e3 := k3.blk.cell 3
      have e4 := k3.blk.cell 4
      have e5 := k3.blk.cell 5
      have K3 := Lib.hid k3; clear k3 hb3 K2)
   | (go_at_call 13
      clear e0 e1 e2 e3 e4 e5
      have Hv := Lib.hid (ffree_any Fo.exF _ _ _ K3.out.ge K3.out.val)
      generalize w3.alloc (.cells #[.int .i64 0, .int .i64 0, .string ⟨#[]⟩, .slice none 0 0, .slice none 0 0, .slice none 0 0] 31) = W3 at *
      refine (Hv.out).mono ?_
      rintro e w4 hpost
      obtain ⟨hb4, v4, rfl, hs4⟩ := ex_freepost hpost; clear hpost Hv
      have K4 := Lib.hid (K3.out.step hb4); clear hb4 K3
      have Hs4 := Lib.hid hs4; clear hs4)
   | (go_at_call 21
      have Hl := Lib.hid (strs_ab (Blk.new w4 9 #[.string ⟨#[97]⟩, .string ⟨#[98]⟩]))
      have K5 := Lib.hid (K4.out.alloc (.cells #[.string ⟨#[97]⟩, .string ⟨#[98]⟩] 9))
      have Hs5 := Lib.hid (Hs4.out.below ((Below.refl _ _).alloc (Nat.le_refl _) (.cells #[.string ⟨#[97]⟩, .string ⟨#[98]⟩] 9)))
      generalize w4.alloc (.cells #[.string ⟨#[97]⟩, .string ⟨#[98]⟩] 9) = W5 at *
      refine (fsamen_any _ _ _ _ W5 _ _ Hs5.out Hl.out).mono ?_
      rintro e w6 ⟨rfl, n6, rfl⟩
      rw [show decide ([(⟨#[97]⟩ : ByteArray), ⟨#[98]⟩] = [⟨#[97]⟩, ⟨#[98]⟩]) = true from decide_eq_true rfl]
      have K6 := Lib.hid (K5.out.step (below_drewN (Below.refl _ _) n6)); clear K4 K5 Hs4 Hs5 Hl
      generalize W5.drewN n6 = W6 at *
      have e0 := K6.out.blk.cell 0
      have e1 := K6.out.blk.cell 1
      have e2 := K6.out.blk.cell 2
      have e3 := K6.out.blk.cell 3
      have e4 := K6.out.blk.cell 4
      have e5 := K6.out.blk.cell 5)
   | (go_at_call 14
      clear e0 e1 e2 e3 e4 e5
      refine (fsymbols_any Fo.exF _ _ _ K6.out.ge K6.out.val).mono ?_
      rintro e w7 hpost
      obtain ⟨hb7, A7, c7, rfl⟩ := ex_sympost hpost; clear hpost
      have K7 := Lib.hid (K6.out.step hb7); clear K6 hb7))
  go_ret
  exact ⟨rfl, K7.out.bel⟩
end Go.Proofs.YtmnpelhcgobfaaaDoor

/-
  Plain: a quiet walk of the first operations of a region is a still walk of them, where the class of worlds has one member.
-/
namespace Go.Proofs.YtmnpelhcgobfaaaDoor
open Go

variable {P : Program} {ops : Array Oper} {C : World → Prop} {wd : World} {Q : Act → Prop}

theorem still_of_quiet (hC : C wd) (h1 : ∀ w', C w' → w' = wd) : ∀ (l : List Oper) (a : Act), wpQuiet P ops C Q l a → wpStill P ops wd Q l a
  | [], a, h => h
  | o :: rest, a, h => by
    unfold wpQuiet at h
    unfold wpStill
    cases hw : Region.wanted o (yielded ops a.tmps)
    · rw [hw] at h
      exact still_of_quiet hC h1 rest _ h
    · rw [hw] at h
      simp only [if_true] at h ⊢
      obtain ⟨v, hv, hn⟩ := h
      have hq := hv wd hC
      have hn' := still_of_quiet hC h1 rest _ hn
      unfold Oper.quietAt at hq
      unfold Oper.still
      generalize (execOp a.eval o).run P wd = r at hq
      match r, hq with
      | .ok (.value u) w', hq => obtain ⟨rfl, rfl⟩ := hq; exact ⟨rfl, hn'⟩
      | .ok .skip w', hq => obtain ⟨rfl, rfl⟩ := hq; exact ⟨rfl, hn'⟩
      | .ok (.enter f args) w', hq =>
        obtain ⟨rfl, hc⟩ := hq
        exact ⟨rfl, v, hc.mono fun e w'' hh => ⟨hh.1, h1 _ hh.2⟩, hn'⟩

/-- The class of the one world, in the words of the quiet walk. -/
theorem one_in (w : World) : ∃ n : Nat, w = w.drewN (0 * n) := ⟨0, rfl⟩
theorem one_only {w : World} : ∀ w' : World, (∃ n : Nat, w' = w.drewN (0 * n)) → w' = w := by
  rintro w' ⟨n, rfl⟩
  rw [Nat.zero_mul]
  rfl

theorem region_quiet_tail {id : Nat} {Q : Exit → Act → World → Prop} {a : Act} {w : World} {l : List Oper} (n : Nat) (hm : P.follows .mixedOrders = true) (hB : Region.lexTailB .any l.toArray n = true)
    (h : wpQuiet P l.toArray (fun w' => ∃ n : Nat, w' = (w.drew).drewN (0 * n)) (fun a' => wpList P l.toArray Q (l.drop n) a' w.drew) (l.take n) a) : (Code.region id l.toArray true).wp P Q a w :=
  wp_region_still_tail n hm hB (still_of_quiet (one_in _) one_only _ _ h)

end Go.Proofs.YtmnpelhcgobfaaaDoor

/-
  Walk: the reference's Same, of two formulas.
-/
namespace Go.Proofs.YtmnpelhcgobfaaaDoor
open Go.RowKit
open Fo (F)

/-- The boxes of Same's two arguments, and what lay there before. -/
structure BB (w : World) (x0 x1 x2 x3 x4 x5 y0 y1 y2 y3 y4 y5 : Value) (W : World) : Prop where
  bx : Bx w w.heap.size 31 #[x0, x1, x2, x3, x4, x5] W
  by_ : Blk W (w.heap.size + 1) 31 #[y0, y1, y2, y3, y4, y5]
section
variable {w W W' : World} {x0 x1 x2 x3 x4 x5 y0 y1 y2 y3 y4 y5 : Value}
theorem BB.start (w : World) : BB w x0 x1 x2 x3 x4 x5 y0 y1 y2 y3 y4 y5 ((w.alloc (.cells #[x0, x1, x2, x3, x4, x5] 31)).alloc (.cells #[y0, y1, y2, y3, y4, y5] 31)) := by
  refine ⟨(Bx.new w _ _).step ((Below.refl _ _).alloc (Nat.le_refl _) _), ?_⟩
  have hn := Blk.new (w.alloc (.cells #[x0, x1, x2, x3, x4, x5] 31)) 31 #[y0, y1, y2, y3, y4, y5]
  rw [World.size_alloc] at hn
  exact hn
theorem BB.step (h : BB w x0 x1 x2 x3 x4 x5 y0 y1 y2 y3 y4 y5 W) (hb : Below W.heap.size W W') : BB w x0 x1 x2 x3 x4 x5 y0 y1 y2 y3 y4 y5 W' := ⟨h.bx.step hb, Blk.below h.by_ hb h.by_.lt⟩
theorem BB.siy (h : BB w x0 x1 x2 x3 x4 x5 y0 y1 y2 y3 y4 y5 W) : W.cell? ⟨w.heap.size + 1, 0, none⟩ = some y0 ∧ W.cell? ⟨w.heap.size + 1, 1, none⟩ = some y1 ∧ W.cell? ⟨w.heap.size + 1, 2, none⟩ = some y2 ∧ W.cell? ⟨w.heap.size + 1, 3, none⟩ = some y3 ∧ W.cell? ⟨w.heap.size + 1, 4, none⟩ = some y4 ∧ W.cell? ⟨w.heap.size + 1, 5, none⟩ = some y5 :=
  ⟨h.by_.cell 0, h.by_.cell 1, h.by_.cell 2, h.by_.cell 3, h.by_.cell 4, h.by_.cell 5⟩
end

/-- It says whether the two are the same. -/
def SameR (f g : FB) (e : Ending) : Prop := ∃ b, e = .returned (.bool b) ∧ (b = true ↔ f = g)
theorem SameR.mk {f g : FB} {b : Bool} (h : b = true ↔ f = g) : SameR f g (.returned (.bool b)) := ⟨b, rfl, h⟩

set_option maxRecDepth 100000 in
set_option maxHeartbeats 2000000 in
theorem refsame_any : ∀ (N : Nat) (f g : FB) (cs ds : List Value) (B : Nat) (w : World), Fo.size f ≤ N → B ≤ w.heap.size → FVal w (· < B) f cs → FVal w (· < B) g ds →
    Calls Tryd.prog 10 #[.agg cs.toArray, .agg ds.toArray] w fun e w' => SameR f g e ∧ Below w.heap.size w w'
  | 0, f, g, cs, ds, B, w, hN, hB, hf, hg => by have := Fo.size_pos f; omega
  | N + 1, .mk k a n ws ar ks, .mk k' a' n' ws' ar' ks', cs, ds, B, w, hN, hB, hf, hg => by
    obtain ⟨A3, n3, c3, A4, n4, c4, A, m, c, rfl, -⟩ := hf.open_
    obtain ⟨B3, r3, s3, B4, r4, s4, D, r, s, rfl, -⟩ := hg.open_
    obtain ⟨-, h3, h4, hmk, hmm, -, hkid⟩ := six_of hf
    have Hmk := Lib.hid hmk; clear hmk
    obtain ⟨-, g3, g4, gmk, gmm, -, gkid⟩ := six_of hg
    have Gmk := Lib.hid gmk; clear gmk
    have ih := fun (p q : FB) (cs' ds' : List Value) (W : World) (hp : p ∈ ks) (hW : B ≤ W.heap.size) (h1 : FVal W (· < B) p cs') (h2 : FVal W (· < B) q ds') => refsame_any N p q cs' ds' B W (by rw [Fo.size] at hN; have := Fo.sizes_mem hp; omega) hW h1 h2
    have Ih := Lib.hid ih; clear ih hN
    have K0 := Lib.hid (BB.start (x0 := .int .i64 k) (x1 := .int .i64 a) (x2 := .string n) (x3 := .slice A3 n3 c3) (x4 := .slice A4 n4 c4) (x5 := .slice A m c) (y0 := .int .i64 k') (y1 := .int .i64 a') (y2 := .string n') (y3 := .slice B3 r3 s3) (y4 := .slice B4 r4 s4) (y5 := .slice D r s) w)
    have HB := Lib.hid hB; clear hB
    have hbw : Below B w ((w.alloc (.cells #[.int .i64 k, .int .i64 a, .string n, .slice A3 n3 c3, .slice A4 n4 c4, .slice A m c] 31)).alloc (.cells #[.int .i64 k', .int .i64 a', .string n', .slice B3 r3 s3, .slice B4 r4 s4, .slice D r s] 31)) := K0.out.bx.bel.mono HB.out
    obtain ⟨e0, e1, e2, e3, e4, e5⟩ := K0.out.bx.six
    obtain ⟨d0, d1, d2, d3, d4, d5⟩ := K0.out.siy
    have Hs3 := Lib.hid (fun (W : World) (hW : Below B w W) => fsamen_any _ _ ws ws' W _ _ (h3.below hW) (g3.below hW))
    have Hs4 := Lib.hid (fun (W : World) (hW : Below B w W) => fsamen_any _ _ ar ar' W _ _ (h4.below hW) (g4.below hW))
    clear hf hg h3 h4 g3 g4
    have hr : ∀ b : Bool, (b = true ↔ k = k' ∧ a = a' ∧ n = n' ∧ ws = ws' ∧ ar = ar' ∧ ks = ks') → (b = true ↔ (Fo.F.mk k a n ws ar ks : FB) = .mk k' a' n' ws' ar' ks') := fun b h => by rw [h]; simp
    have Hr := Lib.hid hr; clear hr
    have Hbw := Lib.hid hbw; clear hbw
    rcases Classical.em (k = k') with rfl | hk
    rotate_left
    · have hq : (k != k') = true := by simpa using hk
      have Hn := Lib.hid (Hr.out false (by simp [hk]))
      have Hh := Lib.hid hk; clear hk
      go_enter Tryd.func10, Tryd.ntmps10
      go_wp2
      go_ret
      exact ⟨SameR.mk Hn.out, K0.out.bx.bel⟩
    rcases Classical.em (a = a') with rfl | ha
    rotate_left
    · have hq : (a != a') = true := by simpa using ha
      have Hn := Lib.hid (Hr.out false (by simp [ha]))
      have Hh := Lib.hid ha; clear ha
      go_enter Tryd.func10, Tryd.ntmps10
      go_wp2
      go_ret
      exact ⟨SameR.mk Hn.out, K0.out.bx.bel⟩
    rcases Classical.em (n = n') with rfl | hn
    rotate_left
    · have hq := ne_bytes hn
      have Hn := Lib.hid (Hr.out false (by simp [hn]))
      go_enter Tryd.func10, Tryd.ntmps10
      go_wp2
      go_ret
      exact ⟨SameR.mk Hn.out, K0.out.bx.bel⟩
    have hc3 := Hs3.out _ Hbw.out
    rcases Classical.em (ws = ws') with rfl | hws
    rotate_left
    · rw [decide_eq_false hws] at hc3
      have Hc3 := Lib.hid hc3; clear hc3
      have Hn := Lib.hid (Hr.out false (by simp [hws]))
      go_enter Tryd.func10, Tryd.ntmps10
      go_wp2_with (go_at_call 21; refine Hc3.out.mono ?_; rintro e w1 ⟨rfl, n1, rfl⟩)
      go_ret
      exact ⟨SameR.mk Hn.out, below_drewN K0.out.bx.bel _⟩
    rw [decide_eq_true rfl] at hc3
    have Hc3 := Lib.hid hc3; clear hc3
    have hc4 := fun nq => Hs4.out _ (below_drewN Hbw.out nq)
    rcases Classical.em (ar = ar') with rfl | har
    rotate_left
    · simp only [decide_eq_false har] at hc4
      have Hc4 := Lib.hid hc4; clear hc4
      have Hn := Lib.hid (Hr.out false (by simp [har]))
      go_enter Tryd.func10, Tryd.ntmps10
      go_wp2_with (first
        | (go_at_call 21; with_reducible refine Hc3.out.mono ?_; rintro e w1 ⟨rfl, n1, rfl⟩)
        | (go_at_call 21; with_reducible refine (Hc4.out _).mono ?_; rintro e w1 ⟨rfl, n2, rfl⟩))
      go_ret
      exact ⟨SameR.mk Hn.out, by first | exact below_drewN K0.out.bx.bel _ | (rw [World.drewN_drewN]; exact below_drewN K0.out.bx.bel _)⟩
    simp only [decide_true] at hc4
    have Hc4 := Lib.hid hc4; clear hc4
    rcases Classical.em (m = r) with rfl | hmr
    rotate_left
    · have hq : ((m : Int) != (r : Int)) = true := by simpa using fun h => hmr (by omega)
      have Hn := Lib.hid (Hr.out false (by simp; intro h; exact hmr (by rw [Hmk.out, Gmk.out, h])))
      have hqe : ¬ m = r := hmr
      go_enter Tryd.func10, Tryd.ntmps10
      go_wp2_with (first
        | (go_at_call 21; with_reducible refine Hc3.out.mono ?_; rintro e w1 ⟨rfl, n1, rfl⟩)
        | (go_at_call 21; with_reducible refine (Hc4.out _).mono ?_; rintro e w1 ⟨rfl, n2, rfl⟩))
      go_ret
      exact ⟨SameR.mk Hn.out, by first | exact below_drewN K0.out.bx.bel _ | (rw [World.drewN_drewN]; exact below_drewN K0.out.bx.bel _)⟩
    have hrs : ∀ b : Bool, (b = true ↔ ks = ks') → (b = true ↔ (Fo.F.mk k a n ws ar ks : FB) = .mk k a n ws ar ks') := fun b h => Hr.out b (by rw [h]; simp)
    have Hrs := Lib.hid hrs; clear hrs Hr
    have Hkid := Lib.hid hkid; clear hkid
    have Gkid := Lib.hid gkid; clear gkid
    go_enter Tryd.func10, Tryd.ntmps10
    go_wp2_with (first
      | (go_at_call 21; with_reducible refine Hc3.out.mono ?_; rintro e w1 ⟨rfl, n1, rfl⟩)
      | (go_at_call 21; with_reducible refine (Hc4.out _).mono ?_; rintro e w1 ⟨rfl, n2, rfl⟩))
    clear e0 e1 e2 e3 e4 e5 d0 d1 d2 d3 d4 d5
    go_loopw [5] (fun i wr => ∃ t : Nat, t ≤ m ∧ i = .int .i64 t ∧ ks.take t = ks'.take t ∧ BB w (.int .i64 k) (.int .i64 a) (.string n) (.slice A3 n3 c3) (.slice A4 n4 c4) (.slice A m c) (.int .i64 k) (.int .i64 a) (.string n) (.slice B3 r3 s3) (.slice B4 r4 s4) (.slice D m s) wr) (fun i _ => m - (intOf i).toNat)
    case atStart => exact ⟨0, Nat.zero_le _, rfl, rfl, K0.out.step (by first | exact below_drewN (Below.refl _ _) _ | (rw [World.drewN_drewN]; exact below_drewN (Below.refl _ _) _))⟩
    case round =>
      obtain ⟨t, ht, rfl, htk, hbb⟩ := hrel
      have K1 := Lib.hid hbb; clear hbb K0
      have Htk := Lib.hid htk; clear htk
      have v5 := K1.out.bx.six.2.2.2.2.2
      have u5 := K1.out.siy.2.2.2.2.2
      by_cases htm : t < m
      · obtain ⟨ad, rfl, had, hkids⟩ := Hkid.out (by omega)
        obtain ⟨ad', rfl, had', gkids⟩ := Gkid.out (by omega)
        obtain ⟨p, hp⟩ : ∃ p, ks[t]? = some p := ⟨ks[t]'(by have := Hmk.out; omega), List.getElem?_eq_getElem _⟩
        obtain ⟨q, hq⟩ : ∃ q, ks'[t]? = some q := ⟨ks'[t]'(by have := Gmk.out; omega), List.getElem?_eq_getElem _⟩
        have hbB : Below B w wr := K1.out.bx.bel.mono HB.out
        obtain ⟨k1, a1, n1', P3, i3, j3, P4, i4, j4, PP, i5, j5, hkd⟩ := kid_at (wr := wr) hkids had hp (fun x hx => hbB.cell hx)
        obtain ⟨k2, a2, n2', Q3, o3, l3, Q4, o4, l4, QQ, o5, l5, gkd⟩ := kid_at (wr := wr) gkids had' hq (fun x hx => hbB.cell hx)
        obtain ⟨f0, f1, f2, f3, f4, f5, hv1, -⟩ := hkd
        obtain ⟨g0, g1, g2, g3, g4, g5, hv2, -⟩ := gkd
        have hcall := Ih.out p q _ _ wr.drew (List.mem_of_getElem? hp) (Nat.le_trans HB.out K1.out.bx.bel.size) (FVal.drewN hv1 1) (FVal.drewN hv2 1)
        have Hcall := Lib.hid hcall; clear hcall hv1 hv2
        have K2 := Lib.hid (K1.out.step (Below.drew (Below.refl _ _)))
        have Hp := Lib.hid hp; clear hp
        have Hq := Lib.hid hq; clear hq hkids gkids
        go_wp2
        refine region_quiet_tail 10 (by kernel_rfl) (by kernel_rfl) ?_
        simp only [List.take_succ_cons, List.take_zero, List.drop_succ_cons, List.drop_zero]
        repeat (go_big_quiet_step (fail))
        refine wpQuiet_nil ?_
        show wpList _ _ _ _ _ wr.drew
        clear f0 f1 f2 f3 f4 f5 g0 g1 g2 g3 g4 g5 v5 u5 K1 hbB
        generalize wr.drew = wd at *
        go_wp2_with (go_at_call 10
                     refine (Hcall.out).mono ?_
                     rintro e w1 ⟨⟨b, rfl, hb⟩, hb1⟩
                     have K3 := Lib.hid (K2.out.step hb1); clear hb1 K2 Hcall
                     have Hb := Lib.hid hb; clear hb
                     cases b)
        · go_ret
          exact ⟨SameR.mk (Hrs.out false (by
            simp only [Bool.false_eq_true, false_iff]
            rintro rfl
            have := Option.some.inj (Hp.out.symm.trans Hq.out)
            have := Hb.out.2 this
            cases this)), K3.out.bx.bel⟩
        · exact ⟨⟨t + 1, by omega, by go_num, by rw [take_snoc Hp.out, take_snoc Hq.out, Htk.out, show p = q by simpa using Hb.out], K3.out⟩, by simp [intOf]; omega⟩
      · obtain rfl : t = m := by omega
        have he : ks = ks' := by
          have := Htk.out
          rwa [List.take_of_length_le (by have := Hmk.out; omega), List.take_of_length_le (by have := Gmk.out; omega)] at this
        have Hn := Lib.hid (Hrs.out true (by simp [he])); clear he
        go_wp2
        go_ret
        exact ⟨SameR.mk ⟨fun _ => (by have := Hn.out; simpa using this), fun _ => rfl⟩, K1.out.bx.bel⟩

end Go.Proofs.YtmnpelhcgobfaaaDoor
