/-
  Texts joined: Spec, Rep, Elems, Name, Spec2.
-/
import Derived.WalkKit
import Derived.WalkSpells
import Derived.WalkLawsBesides
import Derived.Lib.Hide
import Derived.Below
import Derived.Laws.OwnMore
import Derived.Deep.AppendLies
import Derived.Deep.Draws
import Derived.Test.YtelememdhpncgaaGreatDoorRows
import Derived.Deep.QuietTactic
import Derived.BigQuiet
import Derived.Lib.ConvBytes


/-
  Plain mathematics: what the functions of package shape compute, as functions on numbers and lists; no program is imported.
-/
namespace Go.Proofs.YtelememdhpncgaaGreatDoor.Sh

/-- Power: the value and the error. -/
def powE (n k : Int) : Int × Int :=
  if n < 1 ∨ 64 < n ∨ k < 0 ∨ 12 < k then (0, 2)
  else if 4096 < n.toNat ^ k.toNat then (0, 5)
  else (((n.toNat ^ k.toNat : Nat) : Int), 0)

theorem powE_arg {n k : Int} (h : n < 1 ∨ 64 < n ∨ k < 0 ∨ 12 < k) : powE n k = (0, 2) := by
  unfold powE; rw [if_pos h]
theorem powE_size {n k : Nat} (h1 : 1 ≤ n) (h2 : n ≤ 64) (h3 : k ≤ 12) (h : 4096 < n ^ k) : powE n k = (0, 5) := by
  unfold powE; rw [if_neg (by omega), if_pos (by simpa using h)]
theorem powE_ok {n k : Nat} (h1 : 1 ≤ n) (h2 : n ≤ 64) (h3 : k ≤ 12) (h : n ^ k ≤ 4096) : powE n k = (((n ^ k : Nat) : Int), 0) := by
  unfold powE; rw [if_neg (by omega), if_neg (by simpa using h)]; simp
theorem pow_over {n k j : Nat} (h1 : 1 ≤ n) (hj : j ≤ k) (h : 4096 < n ^ j) : 4096 < n ^ k :=
  Nat.lt_of_lt_of_le h (Nat.pow_le_pow_right h1 hj)

/-- The class of letters, of digits: by a byte's number. -/
def letterB (c : Nat) : Bool := decide ((97 ≤ c ∧ c ≤ 122) ∨ (65 ≤ c ∧ c ≤ 90))
def digitB (c : Nat) : Bool := decide (48 ≤ c ∧ c ≤ 57)

/-- All components are from 0 to n - 1. -/
def okB (n x : Int) : Bool := decide (0 ≤ x ∧ x < n)
def inB (n : Int) (t : List Int) : Bool := t.all (okB n)

theorem okB_true {n x : Int} (h0 : 0 ≤ x) (h1 : x < n) : okB n x = true := by unfold okB; simp [h0, h1]
theorem okB_lo {n x : Int} (h0 : x < 0) : okB n x = false := by unfold okB; simp; omega
theorem okB_hi {n x : Int} (h0 : n ≤ x) : okB n x = false := by unfold okB; simp; omega

/-- The lexicographic order: the reference's Less, the library's Compare. -/
def lessB : List Int → List Int → Bool
  | [], _ => false
  | _ :: _, [] => false
  | x :: xs, y :: ys => if x = y then lessB xs ys else decide (x < y)
def cmpI : List Int → List Int → Int
  | [], [] => 0
  | [], _ :: _ => -1
  | _ :: _, [] => 1
  | x :: xs, y :: ys => if x < y then -1 else if y < x then 1 else cmpI xs ys
def eqB : List Int → List Int → Bool
  | [], [] => true
  | [], _ :: _ => false
  | _ :: _, [] => false
  | x :: xs, y :: ys => if x = y then eqB xs ys else false

theorem eqB_iff : ∀ a b : List Int, eqB a b = true ↔ a = b
  | [], [] => by simp [eqB]
  | [], _ :: _ => by simp [eqB]
  | _ :: _, [] => by simp [eqB]
  | x :: xs, y :: ys => by
    unfold eqB
    by_cases h : x = y
    · simp [h, eqB_iff xs ys]
    · simp [h]
theorem eqB_len {a b : List Int} (h : a.length ≠ b.length) : eqB a b = false := by
  rw [Bool.eq_false_iff]
  intro he
  exact h (by rw [(eqB_iff a b).1 he])

theorem drop_getD (l : List Int) (k : Nat) (h : k < l.length) : l.drop k = l.getD k 0 :: l.drop (k + 1) := by
  rw [List.drop_eq_getElem_cons h]
  simp [List.getD_eq_getElem?_getD, List.getElem?_eq_getElem h]

theorem eqB_step {a b : List Int} {k : Nat} (ha : k < a.length) (hb : k < b.length) (he : a.getD k 0 = b.getD k 0) :
    eqB (a.drop k) (b.drop k) = eqB (a.drop (k + 1)) (b.drop (k + 1)) := by
  rw [drop_getD a k ha, drop_getD b k hb, he]; simp [eqB]
theorem eqB_stop {a b : List Int} {k : Nat} (ha : k < a.length) (hb : k < b.length) (he : a.getD k 0 ≠ b.getD k 0) :
    eqB (a.drop k) (b.drop k) = false := by
  rw [drop_getD a k ha, drop_getD b k hb]; simp only [eqB, if_neg he]
theorem eqB_end {a b : List Int} {k : Nat} (ha : a.length ≤ k) (hb : b.length ≤ k) : eqB (a.drop k) (b.drop k) = true := by
  rw [List.drop_of_length_le ha, List.drop_of_length_le hb]; rfl
theorem lessB_step {a b : List Int} {k : Nat} (ha : k < a.length) (hb : k < b.length) (he : a.getD k 0 = b.getD k 0) :
    lessB (a.drop k) (b.drop k) = lessB (a.drop (k + 1)) (b.drop (k + 1)) := by
  rw [drop_getD a k ha, drop_getD b k hb, he]; simp [lessB]
theorem lessB_stop {a b : List Int} {k : Nat} (ha : k < a.length) (hb : k < b.length) (he : a.getD k 0 ≠ b.getD k 0) :
    lessB (a.drop k) (b.drop k) = decide (a.getD k 0 < b.getD k 0) := by
  rw [drop_getD a k ha, drop_getD b k hb]; simp only [lessB, if_neg he]
theorem lessB_end {a b : List Int} {k : Nat} (ha : a.length ≤ k) : lessB (a.drop k) (b.drop k) = false := by
  rw [List.drop_of_length_le ha]; rfl
theorem cmpI_step {a b : List Int} {k : Nat} (ha : k < a.length) (hb : k < b.length) (he : a.getD k 0 = b.getD k 0) :
    cmpI (a.drop k) (b.drop k) = cmpI (a.drop (k + 1)) (b.drop (k + 1)) := by
  rw [drop_getD a k ha, drop_getD b k hb, he]; simp [cmpI]
theorem cmpI_lt {a b : List Int} {k : Nat} (ha : k < a.length) (hb : k < b.length) (he : a.getD k 0 < b.getD k 0) :
    cmpI (a.drop k) (b.drop k) = -1 := by
  rw [drop_getD a k ha, drop_getD b k hb]; simp only [cmpI, if_pos he]
theorem cmpI_gt {a b : List Int} {k : Nat} (ha : k < a.length) (hb : k < b.length) (he : b.getD k 0 < a.getD k 0) :
    cmpI (a.drop k) (b.drop k) = 1 := by
  rw [drop_getD a k ha, drop_getD b k hb]; simp only [cmpI, if_pos he]; rw [if_neg (by omega)]
theorem cmpI_longer {a b : List Int} {k : Nat} (ha : k < a.length) (hb : b.length ≤ k) : cmpI (a.drop k) (b.drop k) = 1 := by
  rw [drop_getD a k ha, List.drop_of_length_le hb]; simp [cmpI]
theorem cmpI_shorter {a b : List Int} {k : Nat} (ha : a.length ≤ k) (hb : k < b.length) : cmpI (a.drop k) (b.drop k) = -1 := by
  rw [drop_getD b k hb, List.drop_of_length_le ha]; simp [cmpI]
theorem cmpI_end {a b : List Int} {k : Nat} (ha : a.length ≤ k) (hb : b.length ≤ k) : cmpI (a.drop k) (b.drop k) = 0 := by
  rw [List.drop_of_length_le ha, List.drop_of_length_le hb]; rfl

/-- Rank. -/
def rankI (n : Int) (t : List Int) : Int := t.foldl (fun r x => r * n + x) 0
def rankE (n : Int) (t : List Int) : Int × Int :=
  if (powE n t.length).2 ≠ 0 then (0, (powE n t.length).2) else if inB n t = false then (0, 2) else (rankI n t, 0)

theorem powE_cases (n k : Int) : (powE n k).2 ≠ 0 ∧ (powE n k).1 = 0 ∨ (∃ a b : Nat, n = a ∧ k = b ∧ 1 ≤ a ∧ a ≤ 64 ∧ b ≤ 12 ∧ a ^ b ≤ 4096 ∧ powE n k = (((a ^ b : Nat) : Int), 0)) := by
  by_cases h : n < 1 ∨ 64 < n ∨ k < 0 ∨ 12 < k
  · rw [powE_arg h]; exact .inl (by decide)
  · obtain ⟨a, rfl⟩ := Int.eq_ofNat_of_zero_le (show 0 ≤ n by omega)
    obtain ⟨b, rfl⟩ := Int.eq_ofNat_of_zero_le (show 0 ≤ k by omega)
    by_cases h2 : 4096 < a ^ b
    · rw [powE_size (by omega) (by omega) (by omega) h2]; exact .inl (by decide)
    · exact .inr ⟨a, b, rfl, rfl, by omega, by omega, by omega, by omega, powE_ok (by omega) (by omega) (by omega) (by omega)⟩

theorem rank_take_succ (n : Int) (t : List Int) (k : Nat) (h : k < t.length) : rankI n (t.take (k + 1)) = rankI n (t.take k) * n + t.getD k 0 := by
  unfold rankI
  rw [List.take_succ_eq_append_getElem h, List.foldl_append]
  simp [List.getD_eq_getElem?_getD, List.getElem?_eq_getElem h]
theorem inB_getD {n : Int} {t : List Int} (hi : inB n t = true) {k : Nat} (h : k < t.length) : 0 ≤ t.getD k 0 ∧ t.getD k 0 < n := by
  unfold inB at hi
  rw [List.all_eq_true] at hi
  have := hi t[k] (List.getElem_mem h)
  unfold okB at this
  simpa [List.getD_eq_getElem?_getD, List.getElem?_eq_getElem h] using this
theorem rank_bd (n : Nat) (t : List Int) (hi : inB n t = true) (k : Nat) : 0 ≤ rankI n (t.take k) ∧ rankI n (t.take k) < ((n ^ (min k t.length) : Nat) : Int) := by
  induction k with
  | zero => simp [rankI]
  | succ k ih =>
    by_cases h : k < t.length
    · rw [rank_take_succ _ _ _ h]
      have hx := inB_getD hi h
      rw [Nat.min_eq_left (by omega)] at ih ⊢
      rw [Nat.pow_succ]
      push_cast at ih ⊢
      generalize rankI n (t.take k) = r at *
      generalize t.getD k 0 = x at *
      generalize (n : Int) ^ k = p at *
      have h1 : (r + 1) * n ≤ p * n := Int.mul_le_mul_of_nonneg_right (by omega) (by omega)
      have h2 : 0 ≤ r * n := Int.mul_nonneg ih.1 (by omega)
      rw [Int.add_mul] at h1
      constructor <;> omega
    · rw [List.take_of_length_le (by omega)] at *
      rw [Nat.min_eq_right (by omega)] at *
      exact ih

/-- The reference's Pow: it stops growing above MaxCells. -/
def powR (n : Nat) : Nat → Nat
  | 0 => 1
  | k + 1 => if powR n k ≤ 4096 then powR n k * n else powR n k
theorem powR_succ {n k : Nat} (h : powR n k ≤ 4096) : powR n (k + 1) = powR n k * n := by rw [powR, if_pos h]
theorem powR_stay {n i k : Nat} (h : 4096 < powR n i) (hk : i ≤ k) : powR n k = powR n i := by
  induction k with
  | zero => rw [show i = 0 by omega]
  | succ k ih =>
    by_cases hi : i = k + 1
    · rw [hi]
    · have := ih (by omega)
      rw [powR, if_neg (by omega), this]
theorem powR_eq (n k : Nat) (h1 : 1 ≤ n) : (n ^ k ≤ 4096 → powR n k = n ^ k) ∧ (4096 < n ^ k → 4096 < powR n k) := by
  induction k with
  | zero => simp [powR]
  | succ k ih =>
    have hm : n ^ k ≤ n ^ (k + 1) := Nat.pow_le_pow_right h1 (by omega)
    have hs : n ^ (k + 1) = n ^ k * n := Nat.pow_succ ..
    by_cases h : n ^ k ≤ 4096
    · have he := ih.1 h
      rw [powR, if_pos (by omega), he, ← hs]
      exact ⟨fun _ => rfl, id⟩
    · have he := ih.2 (by omega)
      rw [powR, if_neg (by omega)]
      exact ⟨fun hh => by omega, fun _ => he⟩
theorem powR_bd (n k : Nat) (h2 : n ≤ 64) : powR n k ≤ 262144 := by
  induction k with
  | zero => simp [powR]
  | succ k ih =>
    rw [powR]
    split
    · have : powR n k * n ≤ 4096 * 64 := Nat.mul_le_mul (by assumption) h2
      omega
    · exact ih

/-- Tuple: the digits of a rank. -/
def tupN (n : Nat) : Nat → Nat → List Int
  | 0, _ => []
  | k + 1, r => tupN n k (r / n) ++ [((r % n : Nat) : Int)]
theorem tupN_len (n : Nat) : ∀ k r, (tupN n k r).length = k
  | 0, _ => rfl
  | k + 1, r => by simp [tupN, tupN_len n k]
def tupE (n k r : Int) : List Int × Int :=
  if (powE n k).2 ≠ 0 then ([], (powE n k).2) else if r < 0 ∨ (powE n k).1 ≤ r then ([], 2) else (tupN n.toNat k.toNat r.toNat, 0)

/-- The words that are no names. -/
def wordB (s : List UInt8) : Bool :=
  decide (s ∈ [[97, 110, 100], [111, 114], [110, 111, 116], [115, 111, 109, 101], [97, 108, 108], [108, 102, 112], [112, 102, 112], [116, 99], [101, 120, 105, 115, 116, 115], [116, 114, 117, 101], [102, 97, 108, 115, 101]])

def alnumB (c : UInt8) : Bool := letterB c.toNat || digitB c.toNat
/-- Name. -/
def nameB (l : List UInt8) : Bool :=
  decide (1 ≤ l.length) && decide (l.length ≤ 12) && letterB (l.getD 0 0).toNat && l.all alnumB && !wordB l

/-- A relation, a structure. -/
structure Rel where
  name : ByteArray
  arity : Int
  tuples : List (List Int)
structure Str where
  size : Int
  rels : List Rel

theorem cmpI_less : ∀ (a b : List Int), a.length = b.length → (cmpI a b < 0 ↔ lessB a b = true)
  | [], [], _ => by simp [cmpI, lessB]
  | [], _ :: _, h => by simp at h
  | _ :: _, [], h => by simp at h
  | x :: xs, y :: ys, h => by
    unfold cmpI lessB
    by_cases h1 : x < y
    · rw [if_pos h1, if_neg (by omega)]; simp [h1]
    · by_cases h2 : y < x
      · rw [if_neg h1, if_pos h2, if_neg (by omega)]; simp [h1]
      · rw [if_neg h1, if_neg h2, if_pos (by omega)]; exact cmpI_less xs ys (by simpa using h)
theorem cmpI_eq : ∀ (a b : List Int), cmpI a b = 0 ↔ a = b
  | [], [] => by simp [cmpI]
  | [], _ :: _ => by simp [cmpI]
  | _ :: _, [] => by simp [cmpI]
  | x :: xs, y :: ys => by
    unfold cmpI
    by_cases h1 : x < y
    · rw [if_pos h1]; simp; omega
    · by_cases h2 : y < x
      · rw [if_neg h1, if_pos h2]; simp; omega
      · rw [if_neg h1, if_neg h2, cmpI_eq xs ys]; simp; omega

theorem range_all_succ (p : Nat → Bool) (k : Nat) : (List.range (k + 1)).all p = ((List.range k).all p && p k) := by
  rw [List.range_succ, List.all_append]; simp
theorem range_all_false (p : Nat → Bool) {k n : Nat} (h : k < n) (hp : p k = false) : (List.range n).all p = false := by
  rw [List.all_eq_false]
  exact ⟨k, List.mem_range.2 h, by simp [hp]⟩
theorem range_all_get {p : Nat → Bool} {n : Nat} (h : (List.range n).all p = true) {k : Nat} (hk : k < n) : p k = true := by
  rw [List.all_eq_true] at h
  exact h k (List.mem_range.2 hk)

/-- The tuple with number i is right: its length, its elements, its place. -/
def tupOk (n k : Int) (ts : List (List Int)) (i : Nat) : Bool :=
  decide (((ts.getD i []).length : Int) = k) && inB n (ts.getD i []) && (decide (i = 0) || lessB (ts.getD (i - 1) []) (ts.getD i []))
def relB (n : Int) (r : Rel) : Bool :=
  decide ((powE n r.arity).2 = 0) && nameB r.name.toList && (List.range r.tuples.length).all (tupOk n r.arity r.tuples)

theorem tupOk_len {n k : Int} {ts : List (List Int)} {i : Nat} (h : tupOk n k ts i = true) : ((ts.getD i []).length : Int) = k := by
  unfold tupOk at h
  simp only [Bool.and_eq_true, decide_eq_true_eq] at h
  exact h.1.1

/-- Valid: the relation with number i is right, and its name is not among those before it. -/
def relAt (n : Int) (rs : List Rel) (i : Nat) : Bool :=
  match rs[i]? with
  | some r => relB n r && !((rs.take i).map (·.name.toList)).contains r.name.toList
  | none => false
def validB (s : Str) : Bool :=
  decide (1 ≤ s.size) && decide (s.size ≤ 64) && decide (s.rels.length ≤ 8) && (List.range s.rels.length).all (relAt s.size s.rels)

end Go.Proofs.YtelememdhpncgaaGreatDoor.Sh

/-
  Words for memory: a slice value that reads as a list of cells, of ints, of tuples, of relations; a structure. Plain theorems on worlds.
-/
namespace Go.Proofs.YtelememdhpncgaaGreatDoor
open Go.RowKit

theorem block_of_add (a : Addr) (n : Nat) : (a.add n).block = a.block := by unfold Addr.add; split <;> rfl
theorem add_of_add (a : Addr) (i j : Nat) : (a.add i).add j = a.add (i + j) := by
  unfold Addr.add
  by_cases hi : i = 0 <;> by_cases hj : j = 0 <;> simp [hi, hj, Nat.add_assoc]

/-- A slice's cells: n elements of 'size' cells each, from A on, in a block below B. -/
def Reads (w : World) (B size : Nat) (A : Option Addr) (n : Nat) (xs : List Value) : Prop :=
  xs.length = n * size ∧ (0 < n → ∃ ad, A = some ad ∧ ad.block < B ∧ ∀ j u, xs[j]? = some u → w.cell? (ad.add j) = some u)

section
variable {w w' : World} {B B' size n : Nat} {A : Option Addr} {xs : List Value}
theorem Reads.none_ : Reads w B size A 0 [] := ⟨by simp, fun h => absurd h (by omega)⟩
theorem Reads.at_ {k : Nat} (h : Reads w B 1 A n xs) (hk : k < n) : ∃ ad u, A = some ad ∧ ad.block < B ∧ xs[k]? = some u ∧ w.cell? (ad.add k) = some u := by
  obtain ⟨ad, e, hb, hc⟩ := h.2 (by omega)
  have hl : k < xs.length := by have := h.1; omega
  exact ⟨ad, xs[k], e, hb, List.getElem?_eq_getElem hl, hc k _ (List.getElem?_eq_getElem hl)⟩
theorem Reads.keep (h : Reads w B size A n xs) (hk : ∀ p : Addr, p.block < B → w'.cell? p = w.cell? p) : Reads w' B size A n xs :=
  ⟨h.1, fun hn => by
    obtain ⟨ad, e, hb, hc⟩ := h.2 hn
    exact ⟨ad, e, hb, fun j u hu => (hk _ (by rw [block_of_add]; exact hb)).trans (hc j u hu)⟩⟩
theorem Reads.more (h : Reads w B size A n xs) (hB : B ≤ B') : Reads w B' size A n xs :=
  ⟨h.1, fun hn => by
    obtain ⟨ad, e, hb, hc⟩ := h.2 hn
    exact ⟨ad, e, by omega, hc⟩⟩
theorem Reads.below (h : Reads w B size A n xs) (hb : Below B w w') : Reads w' B size A n xs := h.keep fun _ hp => hb.cell hp
theorem Reads.drew (h : Reads w B size A n xs) : Reads w.drew B size A n xs := h
theorem Reads.drewN (h : Reads w B size A n xs) (k : Nat) : Reads (w.drewN k) B size A n xs := h
theorem Reads.of_own {base : Nat} {e : TypeId} {c : Nat} (h : w.ownsRow base e size (.slice A n c) n xs) : Reads w w.heap.size size A n xs := by
  refine ⟨h.1, fun hn => ?_⟩
  obtain ⟨g, cap, hv, _, hlt⟩ := h.form hn
  have hA : A = some ⟨g, 0, none⟩ := by injection hv
  subst hA
  exact ⟨_, rfl, hlt, h.cells (g := g) rfl⟩
end

/-- A value that is a slice of ints. -/
def Ints (w : World) (B : Nat) (v : Value) (t : List Int) : Prop :=
  ∃ A n c, v = .slice A n c ∧ n = t.length ∧ n ≤ 140737488351232 ∧ Reads w B 1 A n (t.map (Value.int .i64))

/-- A value that is a slice of tuples. -/
def Tups (w : World) (B : Nat) (v : Value) (ts : List (List Int)) : Prop :=
  ∃ A n c, v = .slice A n c ∧ n = ts.length ∧ n ≤ 140737488351232 ∧
    (0 < n → ∃ ad, A = some ad ∧ ad.block < B ∧ ∀ j t, ts[j]? = some t → ∃ u, w.cell? (ad.add j) = some u ∧ Ints w B u t)

section
variable {w w' : World} {B B' : Nat} {v : Value} {t : List Int} {ts : List (List Int)}
theorem Ints.keep (h : Ints w B v t) (hk : ∀ p : Addr, p.block < B → w'.cell? p = w.cell? p) : Ints w' B v t := by
  obtain ⟨A, n, c, h1, h2, h3, h4⟩ := h
  exact ⟨A, n, c, h1, h2, h3, h4.keep hk⟩
theorem Ints.more (h : Ints w B v t) (hB : B ≤ B') : Ints w B' v t := by
  obtain ⟨A, n, c, h1, h2, h3, h4⟩ := h
  exact ⟨A, n, c, h1, h2, h3, h4.more hB⟩
theorem Ints.below (h : Ints w B v t) (hb : Below B w w') : Ints w' B v t := h.keep fun _ hp => hb.cell hp
theorem Ints.drewN (h : Ints w B v t) (k : Nat) : Ints (w.drewN k) B v t := h
theorem Tups.keep (h : Tups w B v ts) (hk : ∀ p : Addr, p.block < B → w'.cell? p = w.cell? p) : Tups w' B v ts := by
  obtain ⟨A, n, c, h1, h2, h3, h4⟩ := h
  refine ⟨A, n, c, h1, h2, h3, fun hn => ?_⟩
  obtain ⟨ad, e, hb, hc⟩ := h4 hn
  refine ⟨ad, e, hb, fun j t ht => ?_⟩
  obtain ⟨u, hu, hi⟩ := hc j t ht
  exact ⟨u, (hk _ (by rw [block_of_add]; exact hb)).trans hu, hi.keep hk⟩
theorem Tups.more (h : Tups w B v ts) (hB : B ≤ B') : Tups w B' v ts := by
  obtain ⟨A, n, c, h1, h2, h3, h4⟩ := h
  refine ⟨A, n, c, h1, h2, h3, fun hn => ?_⟩
  obtain ⟨ad, e, hb, hc⟩ := h4 hn
  refine ⟨ad, e, by omega, fun j t ht => ?_⟩
  obtain ⟨u, hu, hi⟩ := hc j t ht
  exact ⟨u, hu, hi.more hB⟩
theorem Tups.below (h : Tups w B v ts) (hb : Below B w w') : Tups w' B v ts := h.keep fun _ hp => hb.cell hp
theorem Tups.drewN (h : Tups w B v ts) (k : Nat) : Tups (w.drewN k) B v ts := h
theorem Ints.at_ {A : Option Addr} {n c k : Nat} (h : Ints w B (.slice A n c) t) (hk : k < n) : ∃ ad, A = some ad ∧ ad.block < B ∧ w.cell? (ad.add k) = some (.int .i64 (t.getD k 0)) := by
  obtain ⟨A', n', c', h1, h2, h3, h4⟩ := h
  injection h1 with e1 e2 e3
  subst e1 e2 e3
  obtain ⟨ad, u, hA, hb, hu, hc⟩ := h4.at_ hk
  refine ⟨ad, hA, hb, hc.trans ?_⟩
  rw [← hu, List.getElem?_map, List.getElem?_eq_getElem (by omega)]
  simp [List.getD_eq_getElem?_getD, List.getElem?_eq_getElem (show k < t.length by omega)]
end

theorem Tups.at_ {w : World} {B : Nat} {ts : List (List Int)} {A : Option Addr} {n c k : Nat} (h : Tups w B (.slice A n c) ts) (hk : k < n) :
    ∃ ad u, A = some ad ∧ ad.block < B ∧ w.cell? (ad.add k) = some u ∧ Ints w B u (ts.getD k []) := by
  obtain ⟨A', n', c', h1, h2, h3, h4⟩ := h
  injection h1 with e1 e2 e3
  subst e1 e2 e3
  obtain ⟨ad, hA, hb, hc⟩ := h4 (by omega)
  have hl : k < ts.length := by omega
  obtain ⟨u, hu, hi⟩ := hc k ts[k] (List.getElem?_eq_getElem hl)
  refine ⟨ad, u, hA, hb, hu, ?_⟩
  rw [List.getD_eq_getElem?_getD, List.getElem?_eq_getElem hl]
  exact hi

/-- A value that is a slice of relations. -/
def Rels (w : World) (B : Nat) (v : Value) (rs : List Sh.Rel) : Prop :=
  ∃ A n c, v = .slice A n c ∧ n = rs.length ∧ n ≤ 140737488351232 ∧
    (0 < n → ∃ ad, A = some ad ∧ ad.block < B ∧ ∀ j r, rs[j]? = some r → ∃ u, w.cell? (ad.add (j * 3)) = some (.string r.name) ∧
      w.cell? (ad.add (j * 3 + 1)) = some (.int .i64 r.arity) ∧ w.cell? (ad.add (j * 3 + 2)) = some u ∧ Tups w B u r.tuples ∧ r.name.size ≤ 140737488351232)

section
variable {w w' : World} {B B' : Nat} {v : Value} {rs : List Sh.Rel}
theorem Rels.keep (h : Rels w B v rs) (hk : ∀ p : Addr, p.block < B → w'.cell? p = w.cell? p) : Rels w' B v rs := by
  obtain ⟨A, n, c, h1, h2, h3, h4⟩ := h
  refine ⟨A, n, c, h1, h2, h3, fun hn => ?_⟩
  obtain ⟨ad, e, hb, hc⟩ := h4 hn
  refine ⟨ad, e, hb, fun j r hr => ?_⟩
  obtain ⟨u, h1, h2, h3, h4, h5⟩ := hc j r hr
  exact ⟨u, (hk _ (by rw [block_of_add]; exact hb)).trans h1, (hk _ (by rw [block_of_add]; exact hb)).trans h2, (hk _ (by rw [block_of_add]; exact hb)).trans h3, h4.keep hk, h5⟩
theorem Rels.more (h : Rels w B v rs) (hB : B ≤ B') : Rels w B' v rs := by
  obtain ⟨A, n, c, h1, h2, h3, h4⟩ := h
  refine ⟨A, n, c, h1, h2, h3, fun hn => ?_⟩
  obtain ⟨ad, e, hb, hc⟩ := h4 hn
  refine ⟨ad, e, by omega, fun j r hr => ?_⟩
  obtain ⟨u, h1, h2, h3, h4, h5⟩ := hc j r hr
  exact ⟨u, h1, h2, h3, h4.more hB, h5⟩
theorem Rels.below (h : Rels w B v rs) (hb : Below B w w') : Rels w' B v rs := h.keep fun _ hp => hb.cell hp
theorem Rels.drewN (h : Rels w B v rs) (k : Nat) : Rels (w.drewN k) B v rs := h
theorem add_field (a : Addr) (i j : Nat) : a.add (i + (j + 1)) = ⟨(a.add i).block, (a.add i).off + (j + 1), none⟩ := by
  unfold Addr.add
  by_cases hi : i = 0
  · simp [hi]
  · simp [hi, Nat.add_assoc]
theorem Rels.at_ {A : Option Addr} {n c k : Nat} (h : Rels w B (.slice A n c) rs) (hk : k < n) :
    ∃ ad u r, A = some ad ∧ ad.block < B ∧ rs[k]? = some r ∧ w.cell? (ad.add (k * 3)) = some (.string r.name) ∧ w.cell? ⟨(ad.add (k * 3)).block, (ad.add (k * 3)).off + 1, none⟩ = some (.int .i64 r.arity) ∧
      w.cell? ⟨(ad.add (k * 3)).block, (ad.add (k * 3)).off + 2, none⟩ = some u ∧ Tups w B u r.tuples ∧ r.name.size ≤ 140737488351232 := by
  obtain ⟨A', n', c', h1, h2, h3, h4⟩ := h
  injection h1 with e1 e2 e3
  subst e1 e2 e3
  obtain ⟨ad, hA, hb, hc⟩ := h4 (by omega)
  have hl : k < rs.length := by omega
  obtain ⟨u, h1, h2, h3, h4, h5⟩ := hc k rs[k] (List.getElem?_eq_getElem hl)
  refine ⟨ad, u, rs[k], hA, hb, List.getElem?_eq_getElem hl, h1, ?_, ?_, h4, h5⟩
  · rw [← add_field ad (k * 3) 0]; exact h2
  · rw [← add_field ad (k * 3) 1]; exact h3
end

/-- A block that is known whole. -/
def Blk (w : World) (g : Nat) (t : TypeId) (cs : Array Value) : Prop := w.heap[g]? = some (.cells cs t (0, 0))

section
variable {w w' : World} {g : Nat} {t : TypeId} {cs : Array Value}
theorem Blk.lt (h : Blk w g t cs) : g < w.heap.size := by
  rcases Nat.lt_or_ge g w.heap.size with hlt | hge
  · exact hlt
  · unfold Blk at h; rw [Array.getElem?_eq_none hge] at h; cases h
theorem Blk.cell (h : Blk w g t cs) (i : Nat) : w.cell? ⟨g, i, none⟩ = cs[i]? := cell_of_row w g i cs t (0, 0) h
theorem Blk.frozen (h : Blk w g t cs) (i : Nat) : w.frozen? ⟨g, i, none⟩ = false := by
  unfold Blk at h
  simp [World.frozen?, h]
theorem Blk.some_ (h : Blk w g t cs) (i : Nat) (hi : i < cs.size) : ∃ u, w.cell? ⟨g, i, none⟩ = some u := ⟨cs[i], by rw [h.cell, Array.getElem?_eq_getElem hi]⟩
theorem Blk.new (w : World) (t : TypeId) (cs : Array Value) : Blk (w.alloc (.cells cs t)) w.heap.size t cs := heap_alloc_new w _
theorem Blk.drew (h : Blk w g t cs) : Blk w.drew g t cs := h
theorem Blk.drewN (h : Blk w g t cs) (n : Nat) : Blk (w.drewN n) g t cs := h
theorem Blk.alloc (h : Blk w g t cs) (o : Obj) : Blk (w.alloc o) g t cs := (Below.heap_alloc w o g h.lt).trans h
theorem Blk.set_ (h : Blk w g t cs) (i : Nat) (u : Value) : Blk (w.setCell ⟨g, i, none⟩ u) g t (cs.setIfInBounds i u) := by
  unfold Blk at h ⊢
  simp [World.setCell, Array.getElem?_modify, h]
theorem Blk.far (h : Blk w g t cs) {p : Addr} (hp : g ≠ p.block) (u : Value) : Blk (w.setCell p u) g t cs := (Below.heap_setCell w p u g hp).trans h
theorem Blk.below {B : Nat} (h : Blk w g t cs) (hb : Below B w w') (hg : g < B) : Blk w' g t cs := (hb.block g hg).trans h
theorem Blk.grown {row : Option Nat} (h : Blk w g t cs) (hb : w.grownBy w' row) (hg : some g ≠ row) : Blk w' g t cs := (hb.block g h.lt hg).trans h
theorem Blk.reads (h : Blk w g t cs) (n c : Nat) (l : List Int) (hn : n = l.length) (hl : n ≤ 140737488351232) (hcs : ∀ (i : Nat) (x : Int), l[i]? = some x → cs[i]? = some (Value.int .i64 x)) : Ints w w.heap.size (.slice (some ⟨g, 0, none⟩) n c) l := by
  refine ⟨_, _, _, rfl, hn, hl, by simp [hn], fun _ => ⟨_, rfl, h.lt, fun j u hu => ?_⟩⟩
  rw [List.getElem?_map] at hu
  cases hx : l[j]? with
  | none => rw [hx] at hu; cases hu
  | some x =>
    rw [hx] at hu
    have e : (Addr.mk g 0 none).add j = ⟨g, j, none⟩ := by unfold Addr.add; split <;> simp_all
    rw [e, h.cell j, hcs j x hx]
    exact hu
end

theorem run_make_rowN {P : Program} (t e : TypeId) (i : TypeInfo) (z : Value) (ht : P.underlying t = some (.slice e)) (hi : P.info? e = some i) (hz : i.zero = some z)
    (kl kc : IntKind) (n c : Nat) (hnc : n ≤ c) (hbytes : i.bytes * c ≤ 281474976710656) (h63 : c ≤ 9223372036854775807) (w : World) :
    (Instr.makeSlice t (.int kl (n : Int)) (.int kc (c : Int))).run P w = .ok (.slice (some ⟨w.heap.size, 0, none⟩) n c) (w.alloc (.cells (madeCells z.cells (c * i.size)) e)) := by
  have hb : (i.bytes : Int) * (c : Int) ≤ 281474976710656 := by
    have h : ((i.bytes * c : Nat) : Int) ≤ 281474976710656 := by omega
    rwa [Int.natCast_mul] at h
  have hr := run_make (P := P) w t e i z ht hi hz kl kc n c (by omega) (by omega) hb (by omega)
  simp only [Int.toNat_natCast] at hr
  exact hr

theorem bcell {W w1 : World} (hb : Below W.heap.size W w1) : (∀ b o, b < W.heap.size → w1.cell? ⟨b, o, none⟩ = W.cell? ⟨b, o, none⟩) ∧ (∀ b o, b < W.heap.size → w1.frozen? ⟨b, o, none⟩ = W.frozen? ⟨b, o, none⟩) :=
  ⟨fun b o h => hb.cell (p := ⟨b, o, none⟩) h, fun b o h => hb.frozen (p := ⟨b, o, none⟩) h⟩

theorem quiet_left {P : Program} {f : FuncId} {args : Array Value} {w : World} {n : Nat} {v : Value}
    (h : Calls P f args (w.drewN n) fun e w' => e = .returned v ∧ w.drewN n = w') : Calls P f args (w.drewN n) fun e w'' => e = .returned v ∧ ∃ m, w'' = w.drewN m :=
  h.mono fun _ _ ⟨he, hm⟩ => ⟨he, n, hm.symm⟩
theorem quiet_add {P : Program} {f : FuncId} {args : Array Value} {w : World} {a n : Nat} {v : Value}
    (h : Calls P f args (w.drewN (a + n)) fun e w' => e = .returned v ∧ ∃ m, w' = (w.drewN (a + n)).drewN m) :
    Calls P f args (w.drewN (a + n)) fun e w'' => e = .returned v ∧ ∃ m, w'' = w.drewN (a + m) :=
  h.mono fun _ _ ⟨he, m, hm⟩ => ⟨he, n + m, by rw [hm, World.drewN_drewN, Nat.add_assoc]⟩
theorem quiet_add_left {P : Program} {f : FuncId} {args : Array Value} {w : World} {a n : Nat} {v : Value}
    (h : Calls P f args (w.drewN (a + n)) fun e w' => e = .returned v ∧ w.drewN (a + n) = w') :
    Calls P f args (w.drewN (a + n)) fun e w'' => e = .returned v ∧ ∃ m, w'' = w.drewN (a + m) :=
  h.mono fun _ _ ⟨he, hm⟩ => ⟨he, n, hm.symm⟩
theorem below_drewN {B : Nat} {a w : World} (h : Below B a w) (n : Nat) : Below B a (w.drewN n) := ⟨h.os, h.tape, h.output, h.size, h.block⟩

/-- A list's head-to-tail facts for loops. -/
theorem all_take_succ {α : Type} (p : α → Bool) (d : α) (l : List α) (k : Nat) (h : k < l.length) : (l.take (k + 1)).all p = ((l.take k).all p && p (l.getD k d)) := by
  rw [List.take_succ_eq_append_getElem h, List.all_append]
  simp [List.getD_eq_getElem?_getD, List.getElem?_eq_getElem h]
theorem all_of_take {α : Type} (p : α → Bool) (d : α) (l : List α) (k : Nat) (h : k < l.length) (hp : p (l.getD k d) = false) : l.all p = false := by
  rw [List.all_eq_false]
  refine ⟨l[k], List.getElem_mem h, ?_⟩
  rw [List.getD_eq_getElem?_getD, List.getElem?_eq_getElem h] at hp
  simpa using hp

end Go.Proofs.YtelememdhpncgaaGreatDoor

/-
  Walks: shape.elements, the reference's In.
-/
namespace Go.Proofs.YtelememdhpncgaaGreatDoor
open Go.RowKit

theorem ret_bool {a b : Bool} (h : a = b) : Ending.returned (.bool a) = .returned (.bool b) := by rw [h]
theorem ret_int {k : IntKind} {a b : Int} (h : a = b) : Ending.returned (.int k a) = .returned (.int k b) := by rw [h]

set_option maxHeartbeats 400000 in
theorem elements_any (v : Value) (t : List Int) (n : Int) (w : World) (B : Nat) (h : Ints w B v t) :
    Calls Tryz.prog 38 #[v, .int .i64 n] w fun e w' => e = .returned (.bool (Sh.inB n t)) ∧ w = w' := by
  have h' := h
  obtain ⟨A, len, c, rfl, hlen, hmax, -⟩ := h'
  have Hlen := Lib.hid hlen; clear hlen
  go_enter Tryz.func38, Tryz.ntmps38
  go_wp2
  go_loop [9] (fun i => ∃ k : Nat, k ≤ len ∧ i = .int .i64 k ∧ (t.take k).all (Sh.okB n) = true) (fun i => len - (intOf i).toNat)
  case atStart => exact ⟨0, Nat.zero_le _, rfl, by simp⟩
  case round =>
    obtain ⟨k, hk, rfl, hall⟩ := hrel
    have Hall := Lib.hid hall; clear hall
    by_cases hlt : k < len
    · obtain ⟨ad, rfl, hb, hc⟩ := h.at_ hlt
      have hts := all_take_succ (Sh.okB n) 0 t k (by have := Hlen.out; omega)
      have hfalse := all_of_take (Sh.okB n) 0 t k (by have := Hlen.out; omega)
      rw [Hall.out, Bool.true_and] at hts
      generalize t.getD k 0 = x at *
      have Hts := Lib.hid hts; clear hts
      have Hfa := Lib.hid hfalse; clear hfalse
      by_cases h0 : x < 0
      · go_wp2
        go_ret
        exact ⟨ret_bool (Hfa.out (Sh.okB_lo h0)).symm, rfl⟩
      · by_cases h1 : n ≤ x
        · go_wp2
          go_ret
          exact ⟨ret_bool (Hfa.out (Sh.okB_hi h1)).symm, rfl⟩
        · go_wp2
          go_round
          case rel => exact ⟨k + 1, by omega, by go_num, by rw [Hts.out]; exact Sh.okB_true (by omega) (by omega)⟩
          case measure => simp [intOf]; omega
    · have hall : t.all (Sh.okB n) = true := by
        have := Hall.out
        rwa [List.take_of_length_le (by have := Hlen.out; omega)] at this
      have Hal := Lib.hid hall; clear hall
      go_wp2
      go_ret
      exact ⟨ret_bool Hal.out.symm, rfl⟩

set_option maxHeartbeats 400000 in
theorem in_any (v : Value) (t : List Int) (n : Int) (w : World) (B : Nat) (h : Ints w B v t) :
    Calls Tryz.prog 28 #[.int .i64 n, v] w fun e w' => e = .returned (.bool (Sh.inB n t)) ∧ w = w' := by
  have h' := h
  obtain ⟨A, len, c, rfl, hlen, hmax, -⟩ := h'
  have Hlen := Lib.hid hlen; clear hlen
  go_enter Tryz.func28, Tryz.ntmps28
  go_wp2
  go_loop [5] (fun i => ∃ k : Nat, k ≤ len ∧ i = .int .i64 k ∧ (t.take k).all (Sh.okB n) = true) (fun i => len - (intOf i).toNat)
  case atStart => exact ⟨0, Nat.zero_le _, rfl, by simp⟩
  case round =>
    obtain ⟨k, hk, rfl, hall⟩ := hrel
    have Hall := Lib.hid hall; clear hall
    by_cases hlt : k < len
    · obtain ⟨ad, rfl, hb, hc⟩ := h.at_ hlt
      have hts := all_take_succ (Sh.okB n) 0 t k (by have := Hlen.out; omega)
      have hfalse := all_of_take (Sh.okB n) 0 t k (by have := Hlen.out; omega)
      rw [Hall.out, Bool.true_and] at hts
      generalize t.getD k 0 = x at *
      have Hts := Lib.hid hts; clear hts
      have Hfa := Lib.hid hfalse; clear hfalse
      by_cases h0 : x < 0
      · go_wp2
        go_ret
        exact ⟨ret_bool (Hfa.out (Sh.okB_lo h0)).symm, rfl⟩
      · by_cases h1 : n ≤ x
        · go_wp2
          go_ret
          exact ⟨ret_bool (Hfa.out (Sh.okB_hi h1)).symm, rfl⟩
        · go_wp2
          go_round
          case rel => exact ⟨k + 1, by omega, by go_num, by rw [Hts.out]; exact Sh.okB_true (by omega) (by omega)⟩
          case measure => simp [intOf]; omega
    · have hall : t.all (Sh.okB n) = true := by
        have := Hall.out
        rwa [List.take_of_length_le (by have := Hlen.out; omega)] at this
      have Hal := Lib.hid hall; clear hall
      go_wp2
      go_ret
      exact ⟨ret_bool Hal.out.symm, rfl⟩

set_option maxHeartbeats 400000 in
theorem equal_any (v u : Value) (s t : List Int) (w : World) (B : Nat) (h : Ints w B v s) (g : Ints w B u t) :
    Calls Tryz.prog 22 #[v, u] w fun e w' => e = .returned (.bool (Sh.eqB s t)) ∧ ∃ n, w' = w.drewN n := by
  have h' := h
  have g' := g
  obtain ⟨A, len, c, rfl, hlen, hmax, -⟩ := h'
  obtain ⟨A', len', c', rfl, glen, gmax, -⟩ := g'
  have Hlen := Lib.hid hlen; clear hlen
  have Glen := Lib.hid glen; clear glen
  by_cases hne : len = len'
  · subst hne
    go_enter Tryz.func22, Tryz.ntmps22
    go_wp2
    go_loopw [5] (fun i wr => ∃ k m : Nat, k ≤ len ∧ i = .int .i64 k ∧ Sh.eqB s t = Sh.eqB (s.drop k) (t.drop k) ∧ wr = w.drewN m) (fun i _ => len - (intOf i).toNat)
    case atStart => exact ⟨0, 0, Nat.zero_le _, rfl, by simp, rfl⟩
    case round =>
      obtain ⟨k, m, hk, rfl, heq, rfl⟩ := hrel
      have Heq := Lib.hid heq; clear heq
      by_cases hlt : k < len
      · obtain ⟨ad, rfl, hb, hc⟩ := h.at_ hlt
        obtain ⟨ad', rfl, hb', hc'⟩ := g.at_ hlt
        have hst := @Sh.eqB_step s t k (by have := Hlen.out; omega) (by have := Glen.out; omega)
        have hsp := @Sh.eqB_stop s t k (by have := Hlen.out; omega) (by have := Glen.out; omega)
        generalize s.getD k 0 = x at *
        generalize t.getD k 0 = y at *
        have Hst := Lib.hid hst; clear hst
        have Hsp := Lib.hid hsp; clear hsp
        by_cases he : x = y
        · subst he
          go_wp2
          go_quiet (fail)
          go_wp2
          exact ⟨⟨k + 1, _, by omega, by go_num, by rw [Heq.out]; exact Hst.out trivial, rfl⟩, by simp [intOf]; omega⟩
        · go_wp2
          go_quiet (fail)
          go_wp2
          go_ret
          exact ⟨ret_bool (by rw [Heq.out]; exact (Hsp.out he).symm), _, World.drewN_drewN _ _ _⟩
      · have hend := @Sh.eqB_end s t k (by have := Hlen.out; omega) (by have := Glen.out; omega)
        have Hend := Lib.hid hend; clear hend
        go_wp2
        go_ret
        exact ⟨ret_bool (by rw [Heq.out, Hend.out]), _, rfl⟩
  · have hl := @Sh.eqB_len s t (by rw [← Hlen.out, ← Glen.out]; exact hne)
    have Hl := Lib.hid hl; clear hl
    go_enter Tryz.func22, Tryz.ntmps22
    go_wp2
    go_ret
    exact ⟨ret_bool Hl.out.symm, 0, rfl⟩

end Go.Proofs.YtelememdhpncgaaGreatDoor

/-
  Walks: letters, digits, reserved words, names (the program's and the reference's).
-/
namespace Go.Proofs.YtelememdhpncgaaGreatDoor
open Go.RowKit

theorem letter_any (c : Nat) (w : World) :
    Calls Tryz.prog 86 #[.int .u8 (c : Int)] w fun e w' => e = .returned (.bool (Sh.letterB c)) ∧ w = w' := by
  go_enter Tryz.func86, Tryz.ntmps86
  go_wp2
  all_goals go_ret
  all_goals refine ⟨ret_bool ?_, rfl⟩
  all_goals unfold Sh.letterB
  all_goals (rw [Bool.eq_iff_iff]; simp only [Bool.or_eq_true, Bool.and_eq_true, decide_eq_true_eq, true_iff, false_iff, Bool.false_eq_true]; omega)

theorem digit_any (c : Nat) (w : World) :
    Calls Tryz.prog 82 #[.int .u8 (c : Int)] w fun e w' => e = .returned (.bool (Sh.digitB c)) ∧ w = w' := by
  go_enter Tryz.func82, Tryz.ntmps82
  go_wp2
  all_goals go_ret
  all_goals refine ⟨ret_bool ?_, rfl⟩
  all_goals unfold Sh.digitB
  all_goals (rw [Bool.eq_iff_iff]; simp only [Bool.or_eq_true, Bool.and_eq_true, decide_eq_true_eq, true_iff, false_iff, Bool.false_eq_true]; omega)

theorem refletter_any (c : Nat) (w : World) :
    Calls Tryz.prog 65 #[.int .u8 (c : Int)] w fun e w' => e = .returned (.bool (Sh.letterB c)) ∧ w = w' := by
  go_enter Tryz.func65, Tryz.ntmps65
  go_wp2
  all_goals go_ret
  all_goals refine ⟨ret_bool ?_, rfl⟩
  all_goals unfold Sh.letterB
  all_goals (rw [Bool.eq_iff_iff]; simp only [Bool.or_eq_true, Bool.and_eq_true, decide_eq_true_eq, true_iff, false_iff, Bool.false_eq_true]; omega)

theorem refdigit_any (c : Nat) (w : World) :
    Calls Tryz.prog 67 #[.int .u8 (c : Int)] w fun e w' => e = .returned (.bool (Sh.digitB c)) ∧ w = w' := by
  go_enter Tryz.func67, Tryz.ntmps67
  go_wp2
  all_goals go_ret
  all_goals refine ⟨ret_bool ?_, rfl⟩
  all_goals unfold Sh.digitB
  all_goals (rw [Bool.eq_iff_iff]; simp only [Bool.or_eq_true, Bool.and_eq_true, decide_eq_true_eq, true_iff, false_iff, Bool.false_eq_true]; omega)

theorem reserved_any (s : ByteArray) (w : World) :
    Calls Tryz.prog 89 #[.string s] w fun e w' => e = .returned (.bool (Sh.wordB s.toList)) ∧ w = w' := by
  go_enter Tryz.func89, Tryz.ntmps89
  go_wp2
  all_goals go_ret
  all_goals refine ⟨ret_bool ?_, rfl⟩
  all_goals first | (exfalso; simp_all; done) | (simp_all [Sh.wordB]; done)

theorem refword_any (s : ByteArray) (w : World) :
    Calls Tryz.prog 66 #[.string s] w fun e w' => e = .returned (.bool (Sh.wordB s.toList)) ∧ w = w' := by
  go_enter Tryz.func66, Tryz.ntmps66
  go_wp2
  all_goals go_ret
  all_goals refine ⟨ret_bool ?_, rfl⟩
  all_goals first | (exfalso; simp_all; done) | (simp_all [Sh.wordB]; done)

theorem bytesWorld_below (w : World) (e : TypeId) (s : ByteArray) : Below w.heap.size w (Lib.bytesWorld w e s) := by
  refine ⟨?_, ?_, ?_, by rw [Lib.bytesWorld_size]; omega, fun k hk => Lib.bytesWorld_at_old w e s k hk⟩ <;> simp [Lib.bytesWorld, World.freeze, World.alloc, World.drew, -World.alloc_eq, -World.drew_eq]

theorem conv_bytes (s : ByteArray) (w : World) :
    (convert 9 124 (.string s)).run Tryz.prog w = .ok (.slice (some ⟨w.heap.size, 0, none⟩) s.size (grownCap w s.size 0 5)) (Lib.bytesWorld w 5 s) :=
  Lib.run_convert_string_bytes w 9 124 5 s Tryz.underlying9 Tryz.underlying124 Tryz.underlying5

theorem getD_bytes (s : ByteArray) (k : Nat) (hk : k < s.size) : s.toList.getD k 0 = s[k] := by
  rw [ByteArray.toList_eq, List.getD_eq_getElem?_getD, List.getElem?_eq_getElem (by simpa using hk)]
  rfl
theorem length_bytes (s : ByteArray) : s.toList.length = s.size := by rw [ByteArray.toList_eq]; simp

set_option maxRecDepth 100000 in
set_option maxHeartbeats 400000 in
theorem name_any (s : ByteArray) (w : World) (hs : s.size ≤ 140737488351232) :
    Calls Tryz.prog 68 #[.string s] w fun e w' => e = .returned (.bool (Sh.nameB s.toList)) ∧ Below w.heap.size w w' := by
  have hl := length_bytes s
  by_cases h0 : s.size = 0
  · have he : s.toList = [] := List.eq_nil_of_length_eq_zero (by omega)
    have hv : Sh.nameB s.toList = false := by rw [he]; rfl
    have Hv := Lib.hid hv; clear hv
    clear hl h0
    have he' : s.toList.isEmpty = true := by rw [he]; rfl
    go_enter Tryz.func68, Tryz.ntmps68
    go_wp2
    go_ret
    exact ⟨ret_bool (by first | exact Hv.out.symm | (rw [he] at Hv; exact Hv.out.symm)), Below.refl _ _⟩
  · have he : s.toList.isEmpty = false := by rw [List.isEmpty_eq_false_iff]; intro h; rw [h] at hl; simp at hl; omega
    have hpos : 0 < s.size := by omega
    clear h0
    by_cases h12 : 12 < s.size
    · have hv : Sh.nameB s.toList = false := by unfold Sh.nameB; rw [hl]; simp; omega
      have Hv := Lib.hid hv; clear hv
      have Hl := Lib.hid hl; clear hl
      go_enter Tryz.func68, Tryz.ntmps68
      go_wp2
      go_ret
      exact ⟨ret_bool Hv.out.symm, Below.refl _ _⟩
    · have hg : s.toList.getD 0 0 = s[0] := getD_bytes s 0 hpos
      have hdef : Sh.nameB s.toList = (Sh.letterB s[0].toNat && s.toList.all Sh.alnumB && !Sh.wordB s.toList) := by
        unfold Sh.nameB; rw [hl, hg, decide_eq_true (by omega), decide_eq_true (by omega)]; simp
      have Hl := Lib.hid hl; clear hl
      have Hg := Lib.hid hg; clear hg
      cases hb : Sh.letterB s[0].toNat
      · have Hb := Lib.hid hb; clear hb
        have Hd := Lib.hid hdef; clear hdef
        go_enter Tryz.func68, Tryz.ntmps68
        go_wp2_with (go_at_call 86; refine (letter_any _ _).mono ?_; rw [Hb.out]; rintro e w' ⟨rfl, rfl⟩)
        go_ret
        exact ⟨ret_bool (by rw [Hd.out, Hb.out]; rfl), Below.refl _ _⟩
      · have Hb := Lib.hid hb; clear hb
        have Hd := Lib.hid hdef; clear hdef
        have hconv := conv_bytes s
        go_enter Tryz.func68, Tryz.ntmps68
        go_wp2_with (go_at_call 86; refine (letter_any _ _).mono ?_; rw [Hb.out]; rintro e w' ⟨rfl, rfl⟩)
        have hcell : ∀ k, k < s.size → (Lib.bytesWorld w 5 s).cell? ⟨w.heap.size, k, none⟩ = some (.int .u8 ((s.toList.getD k 0).toNat : Nat)) := fun k hk => by
          rw [Lib.bytesWorld_cell w _ s k hk, ByteArray.toList_eq]
        have hbel := bytesWorld_below w 5 s
        generalize Lib.bytesWorld w 5 s = W at *
        have Hcell := Lib.hid hcell; clear hcell hconv
        have Hbel := Lib.hid hbel; clear hbel
        go_loop [21] (fun i => ∃ k : Nat, k ≤ s.size ∧ i = .int .i64 k ∧ (s.toList.take k).all Sh.alnumB = true) (fun i => s.size - (intOf i).toNat)
        case atStart => exact ⟨0, Nat.zero_le _, rfl, by simp⟩
        case round =>
          obtain ⟨k, hk, rfl, hall⟩ := hrel
          have Hall := Lib.hid hall; clear hall
          by_cases hlt : k < s.size
          · have hc := Hcell.out k hlt
            have hts := all_take_succ Sh.alnumB 0 s.toList k (by rw [Hl.out]; omega)
            have hfalse := all_of_take Sh.alnumB 0 s.toList k (by rw [Hl.out]; omega)
            rw [Hall.out, Bool.true_and] at hts
            generalize s.toList.getD k 0 = x at *
            have Hts := Lib.hid hts; clear hts
            have Hfa := Lib.hid hfalse; clear hfalse
            cases hlx : Sh.letterB x.toNat
            · have Hlx := Lib.hid hlx; clear hlx
              cases hdx : Sh.digitB x.toNat
              · have Hdx := Lib.hid hdx; clear hdx
                go_wp2_with (first | (go_at_call 86; refine (letter_any _ _).mono ?_; rw [Hlx.out]; rintro e w' ⟨rfl, rfl⟩) | (go_at_call 82; refine (digit_any _ _).mono ?_; rw [Hdx.out]; rintro e w' ⟨rfl, rfl⟩))
                go_ret
                exact ⟨ret_bool (by rw [Hd.out, Hfa.out (by unfold Sh.alnumB; rw [Hlx.out, Hdx.out]; rfl)]; simp), Hbel.out⟩
              · have Hdx := Lib.hid hdx; clear hdx
                go_wp2_with (first | (go_at_call 86; refine (letter_any _ _).mono ?_; rw [Hlx.out]; rintro e w' ⟨rfl, rfl⟩) | (go_at_call 82; refine (digit_any _ _).mono ?_; rw [Hdx.out]; rintro e w' ⟨rfl, rfl⟩))
                go_round
                case rel => exact ⟨k + 1, by omega, by go_num, by rw [Hts.out]; unfold Sh.alnumB; rw [Hlx.out, Hdx.out]; rfl⟩
                case measure => simp [intOf]; omega
            · have Hlx := Lib.hid hlx; clear hlx
              go_wp2_with (go_at_call 86; refine (letter_any _ _).mono ?_; rw [Hlx.out]; rintro e w' ⟨rfl, rfl⟩)
              go_round
              case rel => exact ⟨k + 1, by omega, by go_num, by rw [Hts.out]; unfold Sh.alnumB; rw [Hlx.out]; rfl⟩
              case measure => simp [intOf]; omega
          · have hall : s.toList.all Sh.alnumB = true := by
              have := Hall.out
              rwa [List.take_of_length_le (by rw [Hl.out]; omega)] at this
            have hv := Hd.out
            rw [Hb.out, hall, Bool.true_and, Bool.true_and] at hv
            have Hv := Lib.hid hv; clear hv
            clear hall
            go_wp2_with (go_at_call 89; refine (reserved_any _ _).mono ?_; rintro e w' ⟨rfl, rfl⟩)
            go_ret
            exact ⟨ret_bool Hv.out.symm, Hbel.out⟩

set_option maxRecDepth 100000 in
set_option maxHeartbeats 400000 in
theorem refname_any (s : ByteArray) (w : World) (hs : s.size ≤ 140737488351232) :
    Calls Tryz.prog 50 #[.string s] w fun e w' => e = .returned (.bool (Sh.nameB s.toList)) ∧ w = w' := by
  have hl := length_bytes s
  by_cases h0 : s.size < 1
  · have he : s.toList = [] := List.eq_nil_of_length_eq_zero (by omega)
    have hv : Sh.nameB s.toList = false := by rw [he]; rfl
    have Hv := Lib.hid hv; clear hv
    clear hl he
    go_enter Tryz.func50, Tryz.ntmps50
    go_wp2
    go_ret
    exact ⟨ret_bool Hv.out.symm, rfl⟩
  · have hpos : 0 < s.size := by omega
    by_cases h12 : 12 < s.size
    · have hv : Sh.nameB s.toList = false := by unfold Sh.nameB; rw [hl]; simp; omega
      have Hv := Lib.hid hv; clear hv
      have Hl := Lib.hid hl; clear hl
      go_enter Tryz.func50, Tryz.ntmps50
      go_wp2
      go_ret
      exact ⟨ret_bool Hv.out.symm, rfl⟩
    · have hg : s.toList.getD 0 0 = s[0] := getD_bytes s 0 hpos
      have hdef : Sh.nameB s.toList = (Sh.letterB s[0].toNat && s.toList.all Sh.alnumB && !Sh.wordB s.toList) := by
        unfold Sh.nameB; rw [hl, hg, decide_eq_true (by omega), decide_eq_true (by omega)]; simp
      have h1 : (s.toList.take 1).all Sh.alnumB = Sh.alnumB s[0] := by
        rw [all_take_succ Sh.alnumB 0 s.toList 0 (by omega), hg]; simp
      have Hl := Lib.hid hl; clear hl
      have Hg := Lib.hid hg; clear hg
      have H1 := Lib.hid h1; clear h1
      cases hb : Sh.letterB s[0].toNat
      · have Hb := Lib.hid hb; clear hb
        have Hd := Lib.hid hdef; clear hdef
        go_enter Tryz.func50, Tryz.ntmps50
        go_wp2_with (go_at_call 65; refine (refletter_any _ _).mono ?_; rw [Hb.out]; rintro e w' ⟨rfl, rfl⟩)
        go_ret
        exact ⟨ret_bool (by rw [Hd.out, Hb.out]; rfl), rfl⟩
      · have Hb := Lib.hid hb; clear hb
        have Hd := Lib.hid hdef; clear hdef
        cases hw : Sh.wordB s.toList
        · have Hw := Lib.hid hw; clear hw
          go_enter Tryz.func50, Tryz.ntmps50
          go_wp2_with (first | (go_at_call 65; refine (refletter_any _ _).mono ?_; rw [Hb.out]; rintro e w' ⟨rfl, rfl⟩) | (go_at_call 66; refine (refword_any _ _).mono ?_; rw [Hw.out]; rintro e w' ⟨rfl, rfl⟩))
          go_loop [3] (fun i => ∃ k : Nat, 1 ≤ k ∧ k ≤ s.size ∧ i = .int .i64 k ∧ (s.toList.take k).all Sh.alnumB = true) (fun i => s.size - (intOf i).toNat)
          case atStart => exact ⟨1, Nat.le_refl _, hpos, rfl, by rw [H1.out]; unfold Sh.alnumB; rw [Hb.out]; rfl⟩
          case round =>
            obtain ⟨k, hk1, hk, rfl, hall⟩ := hrel
            have Hall := Lib.hid hall; clear hall
            by_cases hlt : k < s.size
            · have hc := getD_bytes s k hlt
              have hts := all_take_succ Sh.alnumB 0 s.toList k (by rw [Hl.out]; omega)
              have hfalse := all_of_take Sh.alnumB 0 s.toList k (by rw [Hl.out]; omega)
              rw [Hall.out, Bool.true_and] at hts
              rw [hc] at hts hfalse
              clear hc
              have Hts := Lib.hid hts; clear hts
              have Hfa := Lib.hid hfalse; clear hfalse
              cases hlx : Sh.letterB s[k].toNat
              · have Hlx := Lib.hid hlx; clear hlx
                cases hdx : Sh.digitB s[k].toNat
                · have Hdx := Lib.hid hdx; clear hdx
                  go_wp2_with (first | (go_at_call 65; refine (refletter_any _ _).mono ?_; rw [Hlx.out]; rintro e w' ⟨rfl, rfl⟩) | (go_at_call 67; refine (refdigit_any _ _).mono ?_; rw [Hdx.out]; rintro e w' ⟨rfl, rfl⟩))
                  go_ret
                  exact ⟨ret_bool (by rw [Hd.out, Hfa.out (by unfold Sh.alnumB; rw [Hlx.out, Hdx.out]; rfl)]; simp), rfl⟩
                · have Hdx := Lib.hid hdx; clear hdx
                  go_wp2_with (first | (go_at_call 65; refine (refletter_any _ _).mono ?_; rw [Hlx.out]; rintro e w' ⟨rfl, rfl⟩) | (go_at_call 67; refine (refdigit_any _ _).mono ?_; rw [Hdx.out]; rintro e w' ⟨rfl, rfl⟩))
                  go_round
                  case rel => exact ⟨k + 1, by omega, by omega, by go_num, by rw [Hts.out]; unfold Sh.alnumB; rw [Hlx.out, Hdx.out]; rfl⟩
                  case measure => simp [intOf]; omega
              · have Hlx := Lib.hid hlx; clear hlx
                go_wp2_with (go_at_call 65; refine (refletter_any _ _).mono ?_; rw [Hlx.out]; rintro e w' ⟨rfl, rfl⟩)
                go_round
                case rel => exact ⟨k + 1, by omega, by omega, by go_num, by rw [Hts.out]; unfold Sh.alnumB; rw [Hlx.out]; rfl⟩
                case measure => simp [intOf]; omega
            · have hall : s.toList.all Sh.alnumB = true := by
                have := Hall.out
                rwa [List.take_of_length_le (by rw [Hl.out]; omega)] at this
              have hv := Hd.out
              rw [Hb.out, hall, Hw.out] at hv
              have Hv := Lib.hid hv; clear hv
              clear hall
              go_wp2
              go_ret
              exact ⟨ret_bool Hv.out.symm, rfl⟩
        · have Hw := Lib.hid hw; clear hw
          go_enter Tryz.func50, Tryz.ntmps50
          go_wp2_with (first | (go_at_call 65; refine (refletter_any _ _).mono ?_; rw [Hb.out]; rintro e w' ⟨rfl, rfl⟩) | (go_at_call 66; refine (refword_any _ _).mono ?_; rw [Hw.out]; rintro e w' ⟨rfl, rfl⟩))
          go_ret
          exact ⟨ret_bool (by rw [Hd.out, Hw.out]; simp), rfl⟩

end Go.Proofs.YtelememdhpncgaaGreatDoor

/-
  Plain mathematics, second part: valid structures, where a tuple is among rising ones.
-/
namespace Go.Proofs.YtelememdhpncgaaGreatDoor

namespace Sh
/-- The relation r has this symbol. -/
def symB (nm : List UInt8) (ar : Int) (r : Rel) : Bool := (r.name.toList == nm) && (r.arity == ar)
def findI (nm : List UInt8) (ar : Int) (rs : List Rel) : Int :=
  match rs.findIdx? (symB nm ar) with
  | some i => i
  | none => -1
/-- None of the first k relations has it. -/
def NoneOf (nm : List UInt8) (ar : Int) (rs : List Rel) (k : Nat) : Prop := ∀ j r, j < k → rs[j]? = some r → symB nm ar r = false
theorem NoneOf.succ {nm : List UInt8} {ar : Int} {rs : List Rel} {k : Nat} {r : Rel} (h : NoneOf nm ar rs k) (hr : rs[k]? = some r) (hf : symB nm ar r = false) : NoneOf nm ar rs (k + 1) := by
  intro j r' hj hr'
  by_cases hjk : j = k
  · subst hjk; rw [hr] at hr'; injection hr' with hr'; rw [← hr']; exact hf
  · exact h j r' (by omega) hr'
theorem findI_hit {nm : List UInt8} {ar : Int} {rs : List Rel} {k : Nat} {r : Rel} (h : NoneOf nm ar rs k) (hr : rs[k]? = some r) (hf : symB nm ar r = true) : findI nm ar rs = k := by
  unfold findI
  obtain ⟨hk, hrk⟩ := List.getElem?_eq_some_iff.1 hr
  have : rs.findIdx? (symB nm ar) = some k := by
    rw [List.findIdx?_eq_some_iff_getElem]
    refine ⟨hk, by rw [hrk]; exact hf, fun j hj => ?_⟩
    have := h j _ hj (List.getElem?_eq_getElem (by omega))
    simp [this]
  rw [this]
theorem findI_none {nm : List UInt8} {ar : Int} {rs : List Rel} (h : NoneOf nm ar rs rs.length) : findI nm ar rs = -1 := by
  unfold findI
  have : rs.findIdx? (symB nm ar) = none := by
    rw [List.findIdx?_eq_none_iff]
    intro r hr
    obtain ⟨j, hj, rfl⟩ := List.mem_iff_getElem.1 hr
    exact h j _ hj (List.getElem?_eq_getElem hj)
  rw [this]
end Sh

namespace Sh
/-- relationFor: the index of the relation, and the error. -/
def relForE (s : Str) (nm : List UInt8) (k : Int) : Int × Int :=
  if validB s = false then (0, 1) else if findI nm k s.rels < 0 then (0, 4) else (findI nm k s.rels, 0)
end Sh

namespace Sh
/-- The tuples below t come first. -/
def Mono (ts : List (List Int)) (t : List Int) : Prop := ∀ i j, i ≤ j → j < ts.length → cmpI (ts.getD j []) t < 0 → cmpI (ts.getD i []) t < 0
/-- Where t is, or would be. -/
def lbN (ts : List (List Int)) (t : List Int) : Nat := (ts.takeWhile fun x => decide (cmpI x t < 0)).length
def foundB (ts : List (List Int)) (t : List Int) : Bool := decide (lbN ts t < ts.length) && decide (cmpI (ts.getD (lbN ts t) []) t = 0)
/-- Between two bounds: below the first all are below t, from the second on none is. -/
def Between (ts : List (List Int)) (t : List Int) (i j : Nat) : Prop := (∀ x, x < i → cmpI (ts.getD x []) t < 0) ∧ (∀ x, j ≤ x → x < ts.length → ¬ cmpI (ts.getD x []) t < 0)
theorem takeWhile_len {α : Type} (p : α → Bool) (d : α) : ∀ (l : List α) (i : Nat), i ≤ l.length → (∀ x, x < i → p (l.getD x d) = true) → (i < l.length → p (l.getD i d) = false) → (l.takeWhile p).length = i
  | [], i, h, _, _ => by simp at h; simp [h]
  | a :: l, 0, _, _, h2 => by
    have := h2 (by simp)
    simp at this
    simp [List.takeWhile_cons, this]
  | a :: l, i + 1, h, h1, h2 => by
    have ha := h1 0 (by omega)
    simp at ha
    rw [List.takeWhile_cons, if_pos ha, List.length_cons, takeWhile_len p d l i (by simpa using h) (fun x hx => by simpa using h1 (x + 1) (by omega)) (fun hi => by simpa using h2 (by simpa using hi))]
theorem lbN_eq {ts : List (List Int)} {t : List Int} {i : Nat} (hi : i ≤ ts.length) (h : Between ts t i i) : lbN ts t = i := by
  unfold lbN
  refine takeWhile_len _ [] ts i hi (fun x hx => by simpa using h.1 x hx) (fun hlt => by simpa using h.2 i (Nat.le_refl _) hlt)
theorem Between.left {ts : List (List Int)} {t : List Int} {i j m : Nat} (hm : Mono ts t) (h : Between ts t i j) (hlt : m < ts.length) (hc : cmpI (ts.getD m []) t < 0) : Between ts t (m + 1) j :=
  ⟨fun x hx => hm x m (by omega) hlt hc, h.2⟩
theorem Between.right {ts : List (List Int)} {t : List Int} {i j m : Nat} (hm : Mono ts t) (h : Between ts t i j) (hc : ¬ cmpI (ts.getD m []) t < 0) : Between ts t i m :=
  ⟨h.1, fun x hx hl hcx => hc (hm m x hx hl hcx)⟩
end Sh

namespace Sh
theorem cmpI_self (a : List Int) : cmpI a a = 0 := (cmpI_eq a a).2 rfl
theorem cmpI_trans : ∀ (a b c : List Int), cmpI a b < 0 → cmpI b c < 0 → cmpI a c < 0
  | [], [], _, h, _ => by simp [cmpI] at h
  | [], _ :: _, [], _, h => by simp [cmpI] at h
  | [], _ :: _, _ :: _, _, _ => by simp [cmpI]
  | _ :: _, [], _, h, _ => by simp [cmpI] at h
  | _ :: _, _ :: _, [], _, h => by simp [cmpI] at h
  | x :: xs, y :: ys, z :: zs, h1, h2 => by
    unfold cmpI at h1 h2 ⊢
    by_cases hxy : x < y
    · by_cases hyz : y < z
      · rw [if_pos (by omega)]; decide
      · by_cases hzy : z < y
        · rw [if_neg hyz, if_pos hzy] at h2; omega
        · rw [if_pos (by omega)]; decide
    · by_cases hyx : y < x
      · rw [if_neg hxy, if_pos hyx] at h1; omega
      · rw [if_neg hxy, if_neg hyx] at h1
        have e : x = y := by omega
        subst e
        by_cases hyz : x < z
        · rw [if_pos hyz]; decide
        · by_cases hzy : z < x
          · rw [if_neg hyz, if_pos hzy] at h2; omega
          · rw [if_neg hyz, if_neg hzy] at h2 ⊢
            exact cmpI_trans xs ys zs h1 h2

/-- A list of tuples is rising. -/
def Rising (ts : List (List Int)) : Prop := ∀ i, i + 1 < ts.length → cmpI (ts.getD i []) (ts.getD (i + 1) []) < 0
theorem Rising.lt {ts : List (List Int)} (h : Rising ts) : ∀ (d i : Nat), i + d + 1 < ts.length → cmpI (ts.getD i []) (ts.getD (i + d + 1) []) < 0
  | 0, i, hl => h i hl
  | d + 1, i, hl => cmpI_trans _ _ _ (h.lt d i (by omega)) (h (i + d + 1) hl)
theorem Rising.lt' {ts : List (List Int)} (h : Rising ts) {i j : Nat} (hij : i < j) (hj : j < ts.length) : cmpI (ts.getD i []) (ts.getD j []) < 0 := by
  obtain ⟨d, rfl⟩ := Nat.exists_eq_add_of_lt hij
  exact h.lt d i hj
theorem Rising.mono {ts : List (List Int)} (h : Rising ts) (t : List Int) : Mono ts t := by
  intro i j hij hj hc
  by_cases e : i = j
  · rw [e]; exact hc
  · exact cmpI_trans _ _ _ (h.lt' (by omega) hj) hc
theorem getD_get {α : Type} (d : α) (l : List α) (k : Nat) (h : k < l.length) : l.getD k d = l[k] := by
  simp [List.getD_eq_getElem?_getD, List.getElem?_eq_getElem h]
theorem Rising.found {ts : List (List Int)} (h : Rising ts) (t : List Int) : foundB ts t = decide (t ∈ ts) := by
  rw [Bool.eq_iff_iff]
  unfold foundB
  simp only [Bool.and_eq_true, decide_eq_true_eq]
  constructor
  · rintro ⟨h1, h2⟩
    have := (cmpI_eq _ _).1 h2
    rw [getD_get [] ts _ h1] at this
    rw [← this]
    exact List.getElem_mem _
  · intro hm
    obtain ⟨k, hk, rfl⟩ := List.mem_iff_getElem.1 hm
    have hb : Between ts ts[k] k k := by
      refine ⟨fun x hx => ?_, fun x hx hl hc => ?_⟩
      · have := h.lt' hx hk
        rwa [getD_get [] ts k hk] at this
      · by_cases e : x = k
        · subst e
          rw [getD_get [] ts x hk, cmpI_self] at hc
          omega
        · have h1 := h.lt' (show k < x by omega) hl
          rw [getD_get [] ts k hk] at h1
          have := cmpI_trans _ _ _ hc h1
          rw [cmpI_self] at this
          omega
    rw [lbN_eq (Nat.le_of_lt hk) hb]
    exact ⟨hk, by rw [getD_get [] ts k hk]; exact cmpI_self _⟩

theorem relB_rising {n : Int} {r : Rel} (h : relB n r = true) : Rising r.tuples := by
  unfold relB at h
  simp only [Bool.and_eq_true] at h
  intro i hi
  have h1 := range_all_get h.2 hi
  have h0 := range_all_get h.2 (show i < r.tuples.length by omega)
  have l1 := tupOk_len h1
  have l0 := tupOk_len h0
  rw [cmpI_less _ _ (by omega)]
  unfold tupOk at h1
  simp at h1
  simpa using h1.2
theorem relB_len {n : Int} {r : Rel} (h : relB n r = true) {t : List Int} (ht : t ∈ r.tuples) : (t.length : Int) = r.arity := by
  unfold relB at h
  simp only [Bool.and_eq_true] at h
  obtain ⟨k, hk, rfl⟩ := List.mem_iff_getElem.1 ht
  have := tupOk_len (range_all_get h.2 hk)
  rwa [getD_get [] _ k hk] at this
theorem relB_in {n : Int} {r : Rel} (h : relB n r = true) {t : List Int} (ht : t ∈ r.tuples) : inB n t = true := by
  unfold relB at h
  simp only [Bool.and_eq_true] at h
  obtain ⟨k, hk, rfl⟩ := List.mem_iff_getElem.1 ht
  have := range_all_get h.2 hk
  unfold tupOk at this
  simp only [Bool.and_eq_true] at this
  rw [getD_get [] _ k hk] at this
  exact this.1.2
theorem validB_rel {s : Str} (h : validB s = true) {r : Rel} {i : Nat} (hr : s.rels[i]? = some r) : relB s.size r = true := by
  unfold validB at h
  simp only [Bool.and_eq_true] at h
  obtain ⟨hi, -⟩ := List.getElem?_eq_some_iff.1 hr
  have := range_all_get h.2 hi
  unfold relAt at this
  rw [hr] at this
  simp only [Bool.and_eq_true] at this
  exact this.1
theorem validB_size {s : Str} (h : validB s = true) : 1 ≤ s.size ∧ s.size ≤ 64 ∧ s.rels.length ≤ 8 := by
  unfold validB at h
  simp only [Bool.and_eq_true, decide_eq_true_eq] at h
  exact ⟨h.1.1.1, h.1.1.2, h.1.2⟩
theorem findI_get {nm : List UInt8} {ar : Int} {rs : List Rel} (h : ¬ findI nm ar rs < 0) : ∃ (k : Nat) (r : Rel), findI nm ar rs = k ∧ rs[k]? = some r ∧ r.name.toList = nm ∧ r.arity = ar := by
  unfold findI at h ⊢
  cases hf : rs.findIdx? (symB nm ar) with
  | none => rw [hf] at h; exact absurd (show (-1 : Int) < 0 by decide) h
  | some i =>
    obtain ⟨hk, hp, -⟩ := List.findIdx?_eq_some_iff_getElem.1 hf
    unfold symB at hp
    simp only [Bool.and_eq_true, beq_iff_eq] at hp
    exact ⟨i, rs[i], rfl, List.getElem?_eq_getElem hk, hp.1, hp.2⟩

/-- Has. -/
def hasE (s : Str) (nm : List UInt8) (t : List Int) : Bool × Int :=
  if (relForE s nm t.length).2 ≠ 0 then (false, (relForE s nm t.length).2)
  else match s.rels[(relForE s nm t.length).1.toNat]? with
    | some r => (foundB r.tuples t, 0)
    | none => (false, 0)
end Sh

end Go.Proofs.YtelememdhpncgaaGreatDoor
