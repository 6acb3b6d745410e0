/-
  Texts joined: Spec, Rep, Elems, Name, Fnm, Fspec, Fspec2.
-/
import Derived.WalkKit
import Derived.WalkSpells
import Derived.WalkLawsBesides
import Derived.Lib.Hide
import Derived.Below
import Derived.Laws.OwnMore
import Derived.Deep.AppendLies
import Derived.Deep.Draws
import Derived.Test.YtmnpelhcgobfaaaDoorRows
import Derived.Deep.QuietTactic
import Derived.BigQuiet
import Derived.Lib.ConvBytes


/-
  Plain mathematics: what the functions of package shape compute, as functions on numbers and lists; no program is imported.
-/
namespace Go.Proofs.YtmnpelhcgobfaaaDoor.Sh

/-- Power: the value and the error. -/
def powE (n k : Int) : Int × Int :=
  if n < 1 ∨ 64 < n ∨ k < 0 ∨ 12 < k then (0, 2)
  else if 4096 < n.toNat ^ k.toNat then (0, 5)
  else (((n.toNat ^ k.toNat : Nat) : Int), 0)

theorem powE_arg {n k : Int} (h : n < 1 ∨ 64 < n ∨ k < 0 ∨ 12 < k) : powE n k = (0, 2) := by
  unfold powE; rw [if_pos h]
theorem powE_size {n k : Nat} (h1 : 1 ≤ n) (h2 : n ≤ 64) (h3 : k ≤ 12) (h : 4096 < n ^ k) : powE n k = (0, 5) := by
  unfold powE; rw [if_neg (by omega), if_pos (by simpa using h)]
theorem powE_ok {n k : Nat} (h1 : 1 ≤ n) (h2 : n ≤ 64) (h3 : k ≤ 12) (h : n ^ k ≤ 4096) : powE n k = (((n ^ k : Nat) : Int), 0) := by
  unfold powE; rw [if_neg (by omega), if_neg (by simpa using h)]; simp
theorem pow_over {n k j : Nat} (h1 : 1 ≤ n) (hj : j ≤ k) (h : 4096 < n ^ j) : 4096 < n ^ k :=
  Nat.lt_of_lt_of_le h (Nat.pow_le_pow_right h1 hj)

/-- The class of letters, of digits: by a byte's number. -/
def letterB (c : Nat) : Bool := decide ((97 ≤ c ∧ c ≤ 122) ∨ (65 ≤ c ∧ c ≤ 90))
def digitB (c : Nat) : Bool := decide (48 ≤ c ∧ c ≤ 57)

/-- All components are from 0 to n - 1. -/
def okB (n x : Int) : Bool := decide (0 ≤ x ∧ x < n)
def inB (n : Int) (t : List Int) : Bool := t.all (okB n)

theorem okB_true {n x : Int} (h0 : 0 ≤ x) (h1 : x < n) : okB n x = true := by unfold okB; simp [h0, h1]
theorem okB_lo {n x : Int} (h0 : x < 0) : okB n x = false := by unfold okB; simp; omega
theorem okB_hi {n x : Int} (h0 : n ≤ x) : okB n x = false := by unfold okB; simp; omega

/-- The lexicographic order: the reference's Less, the library's Compare. -/
def lessB : List Int → List Int → Bool
  | [], _ => false
  | _ :: _, [] => false
  | x :: xs, y :: ys => if x = y then lessB xs ys else decide (x < y)
def cmpI : List Int → List Int → Int
  | [], [] => 0
  | [], _ :: _ => -1
  | _ :: _, [] => 1
  | x :: xs, y :: ys => if x < y then -1 else if y < x then 1 else cmpI xs ys
def eqB : List Int → List Int → Bool
  | [], [] => true
  | [], _ :: _ => false
  | _ :: _, [] => false
  | x :: xs, y :: ys => if x = y then eqB xs ys else false

theorem eqB_iff : ∀ a b : List Int, eqB a b = true ↔ a = b
  | [], [] => by simp [eqB]
  | [], _ :: _ => by simp [eqB]
  | _ :: _, [] => by simp [eqB]
  | x :: xs, y :: ys => by
    unfold eqB
    by_cases h : x = y
    · simp [h, eqB_iff xs ys]
    · simp [h]
theorem eqB_len {a b : List Int} (h : a.length ≠ b.length) : eqB a b = false := by
  rw [Bool.eq_false_iff]
  intro he
  exact h (by rw [(eqB_iff a b).1 he])

theorem drop_getD (l : List Int) (k : Nat) (h : k < l.length) : l.drop k = l.getD k 0 :: l.drop (k + 1) := by
  rw [List.drop_eq_getElem_cons h]
  simp [List.getD_eq_getElem?_getD, List.getElem?_eq_getElem h]

theorem eqB_step {a b : List Int} {k : Nat} (ha : k < a.length) (hb : k < b.length) (he : a.getD k 0 = b.getD k 0) :
    eqB (a.drop k) (b.drop k) = eqB (a.drop (k + 1)) (b.drop (k + 1)) := by
  rw [drop_getD a k ha, drop_getD b k hb, he]; simp [eqB]
theorem eqB_stop {a b : List Int} {k : Nat} (ha : k < a.length) (hb : k < b.length) (he : a.getD k 0 ≠ b.getD k 0) :
    eqB (a.drop k) (b.drop k) = false := by
  rw [drop_getD a k ha, drop_getD b k hb]; simp only [eqB, if_neg he]
theorem eqB_end {a b : List Int} {k : Nat} (ha : a.length ≤ k) (hb : b.length ≤ k) : eqB (a.drop k) (b.drop k) = true := by
  rw [List.drop_of_length_le ha, List.drop_of_length_le hb]; rfl
theorem lessB_step {a b : List Int} {k : Nat} (ha : k < a.length) (hb : k < b.length) (he : a.getD k 0 = b.getD k 0) :
    lessB (a.drop k) (b.drop k) = lessB (a.drop (k + 1)) (b.drop (k + 1)) := by
  rw [drop_getD a k ha, drop_getD b k hb, he]; simp [lessB]
theorem lessB_stop {a b : List Int} {k : Nat} (ha : k < a.length) (hb : k < b.length) (he : a.getD k 0 ≠ b.getD k 0) :
    lessB (a.drop k) (b.drop k) = decide (a.getD k 0 < b.getD k 0) := by
  rw [drop_getD a k ha, drop_getD b k hb]; simp only [lessB, if_neg he]
theorem lessB_end {a b : List Int} {k : Nat} (ha : a.length ≤ k) : lessB (a.drop k) (b.drop k) = false := by
  rw [List.drop_of_length_le ha]; rfl
theorem cmpI_step {a b : List Int} {k : Nat} (ha : k < a.length) (hb : k < b.length) (he : a.getD k 0 = b.getD k 0) :
    cmpI (a.drop k) (b.drop k) = cmpI (a.drop (k + 1)) (b.drop (k + 1)) := by
  rw [drop_getD a k ha, drop_getD b k hb, he]; simp [cmpI]
theorem cmpI_lt {a b : List Int} {k : Nat} (ha : k < a.length) (hb : k < b.length) (he : a.getD k 0 < b.getD k 0) :
    cmpI (a.drop k) (b.drop k) = -1 := by
  rw [drop_getD a k ha, drop_getD b k hb]; simp only [cmpI, if_pos he]
theorem cmpI_gt {a b : List Int} {k : Nat} (ha : k < a.length) (hb : k < b.length) (he : b.getD k 0 < a.getD k 0) :
    cmpI (a.drop k) (b.drop k) = 1 := by
  rw [drop_getD a k ha, drop_getD b k hb]; simp only [cmpI, if_pos he]; rw [if_neg (by omega)]
theorem cmpI_longer {a b : List Int} {k : Nat} (ha : k < a.length) (hb : b.length ≤ k) : cmpI (a.drop k) (b.drop k) = 1 := by
  rw [drop_getD a k ha, List.drop_of_length_le hb]; simp [cmpI]
theorem cmpI_shorter {a b : List Int} {k : Nat} (ha : a.length ≤ k) (hb : k < b.length) : cmpI (a.drop k) (b.drop k) = -1 := by
  rw [drop_getD b k hb, List.drop_of_length_le ha]; simp [cmpI]
theorem cmpI_end {a b : List Int} {k : Nat} (ha : a.length ≤ k) (hb : b.length ≤ k) : cmpI (a.drop k) (b.drop k) = 0 := by
  rw [List.drop_of_length_le ha, List.drop_of_length_le hb]; rfl

/-- Rank. -/
def rankI (n : Int) (t : List Int) : Int := t.foldl (fun r x => r * n + x) 0
def rankE (n : Int) (t : List Int) : Int × Int :=
  if (powE n t.length).2 ≠ 0 then (0, (powE n t.length).2) else if inB n t = false then (0, 2) else (rankI n t, 0)

theorem powE_cases (n k : Int) : (powE n k).2 ≠ 0 ∧ (powE n k).1 = 0 ∨ (∃ a b : Nat, n = a ∧ k = b ∧ 1 ≤ a ∧ a ≤ 64 ∧ b ≤ 12 ∧ a ^ b ≤ 4096 ∧ powE n k = (((a ^ b : Nat) : Int), 0)) := by
  by_cases h : n < 1 ∨ 64 < n ∨ k < 0 ∨ 12 < k
  · rw [powE_arg h]; exact .inl (by decide)
  · obtain ⟨a, rfl⟩ := Int.eq_ofNat_of_zero_le (show 0 ≤ n by omega)
    obtain ⟨b, rfl⟩ := Int.eq_ofNat_of_zero_le (show 0 ≤ k by omega)
    by_cases h2 : 4096 < a ^ b
    · rw [powE_size (by omega) (by omega) (by omega) h2]; exact .inl (by decide)
    · exact .inr ⟨a, b, rfl, rfl, by omega, by omega, by omega, by omega, powE_ok (by omega) (by omega) (by omega) (by omega)⟩

theorem rank_take_succ (n : Int) (t : List Int) (k : Nat) (h : k < t.length) : rankI n (t.take (k + 1)) = rankI n (t.take k) * n + t.getD k 0 := by
  unfold rankI
  rw [List.take_succ_eq_append_getElem h, List.foldl_append]
  simp [List.getD_eq_getElem?_getD, List.getElem?_eq_getElem h]
theorem inB_getD {n : Int} {t : List Int} (hi : inB n t = true) {k : Nat} (h : k < t.length) : 0 ≤ t.getD k 0 ∧ t.getD k 0 < n := by
  unfold inB at hi
  rw [List.all_eq_true] at hi
  have := hi t[k] (List.getElem_mem h)
  unfold okB at this
  simpa [List.getD_eq_getElem?_getD, List.getElem?_eq_getElem h] using this
theorem rank_bd (n : Nat) (t : List Int) (hi : inB n t = true) (k : Nat) : 0 ≤ rankI n (t.take k) ∧ rankI n (t.take k) < ((n ^ (min k t.length) : Nat) : Int) := by
  induction k with
  | zero => simp [rankI]
  | succ k ih =>
    by_cases h : k < t.length
    · rw [rank_take_succ _ _ _ h]
      have hx := inB_getD hi h
      rw [Nat.min_eq_left (by omega)] at ih ⊢
      rw [Nat.pow_succ]
      push_cast at ih ⊢
      generalize rankI n (t.take k) = r at *
      generalize t.getD k 0 = x at *
      generalize (n : Int) ^ k = p at *
      have h1 : (r + 1) * n ≤ p * n := Int.mul_le_mul_of_nonneg_right (by omega) (by omega)
      have h2 : 0 ≤ r * n := Int.mul_nonneg ih.1 (by omega)
      rw [Int.add_mul] at h1
      constructor <;> omega
    · rw [List.take_of_length_le (by omega)] at *
      rw [Nat.min_eq_right (by omega)] at *
      exact ih

/-- The reference's Pow: it stops growing above MaxCells. -/
def powR (n : Nat) : Nat → Nat
  | 0 => 1
  | k + 1 => if powR n k ≤ 4096 then powR n k * n else powR n k
theorem powR_succ {n k : Nat} (h : powR n k ≤ 4096) : powR n (k + 1) = powR n k * n := by rw [powR, if_pos h]
theorem powR_stay {n i k : Nat} (h : 4096 < powR n i) (hk : i ≤ k) : powR n k = powR n i := by
  induction k with
  | zero => rw [show i = 0 by omega]
  | succ k ih =>
    by_cases hi : i = k + 1
    · rw [hi]
    · have := ih (by omega)
      rw [powR, if_neg (by omega), this]
theorem powR_eq (n k : Nat) (h1 : 1 ≤ n) : (n ^ k ≤ 4096 → powR n k = n ^ k) ∧ (4096 < n ^ k → 4096 < powR n k) := by
  induction k with
  | zero => simp [powR]
  | succ k ih =>
    have hm : n ^ k ≤ n ^ (k + 1) := Nat.pow_le_pow_right h1 (by omega)
    have hs : n ^ (k + 1) = n ^ k * n := Nat.pow_succ ..
    by_cases h : n ^ k ≤ 4096
    · have he := ih.1 h
      rw [powR, if_pos (by omega), he, ← hs]
      exact ⟨fun _ => rfl, id⟩
    · have he := ih.2 (by omega)
      rw [powR, if_neg (by omega)]
      exact ⟨fun hh => by omega, fun _ => he⟩
theorem powR_bd (n k : Nat) (h2 : n ≤ 64) : powR n k ≤ 262144 := by
  induction k with
  | zero => simp [powR]
  | succ k ih =>
    rw [powR]
    split
    · have : powR n k * n ≤ 4096 * 64 := Nat.mul_le_mul (by assumption) h2
      omega
    · exact ih

/-- Tuple: the digits of a rank. -/
def tupN (n : Nat) : Nat → Nat → List Int
  | 0, _ => []
  | k + 1, r => tupN n k (r / n) ++ [((r % n : Nat) : Int)]
theorem tupN_len (n : Nat) : ∀ k r, (tupN n k r).length = k
  | 0, _ => rfl
  | k + 1, r => by simp [tupN, tupN_len n k]
def tupE (n k r : Int) : List Int × Int :=
  if (powE n k).2 ≠ 0 then ([], (powE n k).2) else if r < 0 ∨ (powE n k).1 ≤ r then ([], 2) else (tupN n.toNat k.toNat r.toNat, 0)

/-- The words that are no names. -/
def wordB (s : List UInt8) : Bool :=
  decide (s ∈ [[97, 110, 100], [111, 114], [110, 111, 116], [115, 111, 109, 101], [97, 108, 108], [108, 102, 112], [112, 102, 112], [116, 99], [101, 120, 105, 115, 116, 115], [116, 114, 117, 101], [102, 97, 108, 115, 101]])

def alnumB (c : UInt8) : Bool := letterB c.toNat || digitB c.toNat
/-- Name. -/
def nameB (l : List UInt8) : Bool :=
  decide (1 ≤ l.length) && decide (l.length ≤ 12) && letterB (l.getD 0 0).toNat && l.all alnumB && !wordB l

/-- A relation, a structure. -/
structure Rel where
  name : ByteArray
  arity : Int
  tuples : List (List Int)
structure Str where
  size : Int
  rels : List Rel

theorem cmpI_less : ∀ (a b : List Int), a.length = b.length → (cmpI a b < 0 ↔ lessB a b = true)
  | [], [], _ => by simp [cmpI, lessB]
  | [], _ :: _, h => by simp at h
  | _ :: _, [], h => by simp at h
  | x :: xs, y :: ys, h => by
    unfold cmpI lessB
    by_cases h1 : x < y
    · rw [if_pos h1, if_neg (by omega)]; simp [h1]
    · by_cases h2 : y < x
      · rw [if_neg h1, if_pos h2, if_neg (by omega)]; simp [h1]
      · rw [if_neg h1, if_neg h2, if_pos (by omega)]; exact cmpI_less xs ys (by simpa using h)
theorem cmpI_eq : ∀ (a b : List Int), cmpI a b = 0 ↔ a = b
  | [], [] => by simp [cmpI]
  | [], _ :: _ => by simp [cmpI]
  | _ :: _, [] => by simp [cmpI]
  | x :: xs, y :: ys => by
    unfold cmpI
    by_cases h1 : x < y
    · rw [if_pos h1]; simp; omega
    · by_cases h2 : y < x
      · rw [if_neg h1, if_pos h2]; simp; omega
      · rw [if_neg h1, if_neg h2, cmpI_eq xs ys]; simp; omega

theorem range_all_succ (p : Nat → Bool) (k : Nat) : (List.range (k + 1)).all p = ((List.range k).all p && p k) := by
  rw [List.range_succ, List.all_append]; simp
theorem range_all_false (p : Nat → Bool) {k n : Nat} (h : k < n) (hp : p k = false) : (List.range n).all p = false := by
  rw [List.all_eq_false]
  exact ⟨k, List.mem_range.2 h, by simp [hp]⟩
theorem range_all_get {p : Nat → Bool} {n : Nat} (h : (List.range n).all p = true) {k : Nat} (hk : k < n) : p k = true := by
  rw [List.all_eq_true] at h
  exact h k (List.mem_range.2 hk)

/-- The tuple with number i is right: its length, its elements, its place. -/
def tupOk (n k : Int) (ts : List (List Int)) (i : Nat) : Bool :=
  decide (((ts.getD i []).length : Int) = k) && inB n (ts.getD i []) && (decide (i = 0) || lessB (ts.getD (i - 1) []) (ts.getD i []))
def relB (n : Int) (r : Rel) : Bool :=
  decide ((powE n r.arity).2 = 0) && nameB r.name.toList && (List.range r.tuples.length).all (tupOk n r.arity r.tuples)

theorem tupOk_len {n k : Int} {ts : List (List Int)} {i : Nat} (h : tupOk n k ts i = true) : ((ts.getD i []).length : Int) = k := by
  unfold tupOk at h
  simp only [Bool.and_eq_true, decide_eq_true_eq] at h
  exact h.1.1

/-- Valid: the relation with number i is right, and its name is not among those before it. -/
def relAt (n : Int) (rs : List Rel) (i : Nat) : Bool :=
  match rs[i]? with
  | some r => relB n r && !((rs.take i).map (·.name.toList)).contains r.name.toList
  | none => false
def validB (s : Str) : Bool :=
  decide (1 ≤ s.size) && decide (s.size ≤ 64) && decide (s.rels.length ≤ 8) && (List.range s.rels.length).all (relAt s.size s.rels)

end Go.Proofs.YtmnpelhcgobfaaaDoor.Sh

/-
  Words for memory: a slice value that reads as a list of cells, of ints, of tuples, of relations; a structure. Plain theorems on worlds.
-/
namespace Go.Proofs.YtmnpelhcgobfaaaDoor
open Go.RowKit

theorem block_of_add (a : Addr) (n : Nat) : (a.add n).block = a.block := by unfold Addr.add; split <;> rfl
theorem add_of_add (a : Addr) (i j : Nat) : (a.add i).add j = a.add (i + j) := by
  unfold Addr.add
  by_cases hi : i = 0 <;> by_cases hj : j = 0 <;> simp [hi, hj, Nat.add_assoc]

/-- A slice's cells: n elements of 'size' cells each, from A on, in a block below B. -/
def Reads (w : World) (B size : Nat) (A : Option Addr) (n : Nat) (xs : List Value) : Prop :=
  xs.length = n * size ∧ (0 < n → ∃ ad, A = some ad ∧ ad.block < B ∧ ∀ j u, xs[j]? = some u → w.cell? (ad.add j) = some u)

section
variable {w w' : World} {B B' size n : Nat} {A : Option Addr} {xs : List Value}
theorem Reads.none_ : Reads w B size A 0 [] := ⟨by simp, fun h => absurd h (by omega)⟩
theorem Reads.at_ {k : Nat} (h : Reads w B 1 A n xs) (hk : k < n) : ∃ ad u, A = some ad ∧ ad.block < B ∧ xs[k]? = some u ∧ w.cell? (ad.add k) = some u := by
  obtain ⟨ad, e, hb, hc⟩ := h.2 (by omega)
  have hl : k < xs.length := by have := h.1; omega
  exact ⟨ad, xs[k], e, hb, List.getElem?_eq_getElem hl, hc k _ (List.getElem?_eq_getElem hl)⟩
theorem Reads.keep (h : Reads w B size A n xs) (hk : ∀ p : Addr, p.block < B → w'.cell? p = w.cell? p) : Reads w' B size A n xs :=
  ⟨h.1, fun hn => by
    obtain ⟨ad, e, hb, hc⟩ := h.2 hn
    exact ⟨ad, e, hb, fun j u hu => (hk _ (by rw [block_of_add]; exact hb)).trans (hc j u hu)⟩⟩
theorem Reads.more (h : Reads w B size A n xs) (hB : B ≤ B') : Reads w B' size A n xs :=
  ⟨h.1, fun hn => by
    obtain ⟨ad, e, hb, hc⟩ := h.2 hn
    exact ⟨ad, e, by omega, hc⟩⟩
theorem Reads.below (h : Reads w B size A n xs) (hb : Below B w w') : Reads w' B size A n xs := h.keep fun _ hp => hb.cell hp
theorem Reads.drew (h : Reads w B size A n xs) : Reads w.drew B size A n xs := h
theorem Reads.drewN (h : Reads w B size A n xs) (k : Nat) : Reads (w.drewN k) B size A n xs := h
theorem Reads.of_own {base : Nat} {e : TypeId} {c : Nat} (h : w.ownsRow base e size (.slice A n c) n xs) : Reads w w.heap.size size A n xs := by
  refine ⟨h.1, fun hn => ?_⟩
  obtain ⟨g, cap, hv, _, hlt⟩ := h.form hn
  have hA : A = some ⟨g, 0, none⟩ := by injection hv
  subst hA
  exact ⟨_, rfl, hlt, h.cells (g := g) rfl⟩
end

/-- A value that is a slice of ints. -/
def Ints (w : World) (B : Nat) (v : Value) (t : List Int) : Prop :=
  ∃ A n c, v = .slice A n c ∧ n = t.length ∧ n ≤ 140737488351232 ∧ Reads w B 1 A n (t.map (Value.int .i64))

/-- A value that is a slice of tuples. -/
def Tups (w : World) (B : Nat) (v : Value) (ts : List (List Int)) : Prop :=
  ∃ A n c, v = .slice A n c ∧ n = ts.length ∧ n ≤ 140737488351232 ∧
    (0 < n → ∃ ad, A = some ad ∧ ad.block < B ∧ ∀ j t, ts[j]? = some t → ∃ u, w.cell? (ad.add j) = some u ∧ Ints w B u t)

section
variable {w w' : World} {B B' : Nat} {v : Value} {t : List Int} {ts : List (List Int)}
theorem Ints.keep (h : Ints w B v t) (hk : ∀ p : Addr, p.block < B → w'.cell? p = w.cell? p) : Ints w' B v t := by
  obtain ⟨A, n, c, h1, h2, h3, h4⟩ := h
  exact ⟨A, n, c, h1, h2, h3, h4.keep hk⟩
theorem Ints.more (h : Ints w B v t) (hB : B ≤ B') : Ints w B' v t := by
  obtain ⟨A, n, c, h1, h2, h3, h4⟩ := h
  exact ⟨A, n, c, h1, h2, h3, h4.more hB⟩
theorem Ints.below (h : Ints w B v t) (hb : Below B w w') : Ints w' B v t := h.keep fun _ hp => hb.cell hp
theorem Ints.drewN (h : Ints w B v t) (k : Nat) : Ints (w.drewN k) B v t := h
theorem Tups.keep (h : Tups w B v ts) (hk : ∀ p : Addr, p.block < B → w'.cell? p = w.cell? p) : Tups w' B v ts := by
  obtain ⟨A, n, c, h1, h2, h3, h4⟩ := h
  refine ⟨A, n, c, h1, h2, h3, fun hn => ?_⟩
  obtain ⟨ad, e, hb, hc⟩ := h4 hn
  refine ⟨ad, e, hb, fun j t ht => ?_⟩
  obtain ⟨u, hu, hi⟩ := hc j t ht
  exact ⟨u, (hk _ (by rw [block_of_add]; exact hb)).trans hu, hi.keep hk⟩
theorem Tups.more (h : Tups w B v ts) (hB : B ≤ B') : Tups w B' v ts := by
  obtain ⟨A, n, c, h1, h2, h3, h4⟩ := h
  refine ⟨A, n, c, h1, h2, h3, fun hn => ?_⟩
  obtain ⟨ad, e, hb, hc⟩ := h4 hn
  refine ⟨ad, e, by omega, fun j t ht => ?_⟩
  obtain ⟨u, hu, hi⟩ := hc j t ht
  exact ⟨u, hu, hi.more hB⟩
theorem Tups.below (h : Tups w B v ts) (hb : Below B w w') : Tups w' B v ts := h.keep fun _ hp => hb.cell hp
theorem Tups.drewN (h : Tups w B v ts) (k : Nat) : Tups (w.drewN k) B v ts := h
theorem Ints.at_ {A : Option Addr} {n c k : Nat} (h : Ints w B (.slice A n c) t) (hk : k < n) : ∃ ad, A = some ad ∧ ad.block < B ∧ w.cell? (ad.add k) = some (.int .i64 (t.getD k 0)) := by
  obtain ⟨A', n', c', h1, h2, h3, h4⟩ := h
  injection h1 with e1 e2 e3
  subst e1 e2 e3
  obtain ⟨ad, u, hA, hb, hu, hc⟩ := h4.at_ hk
  refine ⟨ad, hA, hb, hc.trans ?_⟩
  rw [← hu, List.getElem?_map, List.getElem?_eq_getElem (by omega)]
  simp [List.getD_eq_getElem?_getD, List.getElem?_eq_getElem (show k < t.length by omega)]
end

theorem Tups.at_ {w : World} {B : Nat} {ts : List (List Int)} {A : Option Addr} {n c k : Nat} (h : Tups w B (.slice A n c) ts) (hk : k < n) :
    ∃ ad u, A = some ad ∧ ad.block < B ∧ w.cell? (ad.add k) = some u ∧ Ints w B u (ts.getD k []) := by
  obtain ⟨A', n', c', h1, h2, h3, h4⟩ := h
  injection h1 with e1 e2 e3
  subst e1 e2 e3
  obtain ⟨ad, hA, hb, hc⟩ := h4 (by omega)
  have hl : k < ts.length := by omega
  obtain ⟨u, hu, hi⟩ := hc k ts[k] (List.getElem?_eq_getElem hl)
  refine ⟨ad, u, hA, hb, hu, ?_⟩
  rw [List.getD_eq_getElem?_getD, List.getElem?_eq_getElem hl]
  exact hi

/-- A value that is a slice of relations. -/
def Rels (w : World) (B : Nat) (v : Value) (rs : List Sh.Rel) : Prop :=
  ∃ A n c, v = .slice A n c ∧ n = rs.length ∧ n ≤ 140737488351232 ∧
    (0 < n → ∃ ad, A = some ad ∧ ad.block < B ∧ ∀ j r, rs[j]? = some r → ∃ u, w.cell? (ad.add (j * 3)) = some (.string r.name) ∧
      w.cell? (ad.add (j * 3 + 1)) = some (.int .i64 r.arity) ∧ w.cell? (ad.add (j * 3 + 2)) = some u ∧ Tups w B u r.tuples ∧ r.name.size ≤ 140737488351232)

section
variable {w w' : World} {B B' : Nat} {v : Value} {rs : List Sh.Rel}
theorem Rels.keep (h : Rels w B v rs) (hk : ∀ p : Addr, p.block < B → w'.cell? p = w.cell? p) : Rels w' B v rs := by
  obtain ⟨A, n, c, h1, h2, h3, h4⟩ := h
  refine ⟨A, n, c, h1, h2, h3, fun hn => ?_⟩
  obtain ⟨ad, e, hb, hc⟩ := h4 hn
  refine ⟨ad, e, hb, fun j r hr => ?_⟩
  obtain ⟨u, h1, h2, h3, h4, h5⟩ := hc j r hr
  exact ⟨u, (hk _ (by rw [block_of_add]; exact hb)).trans h1, (hk _ (by rw [block_of_add]; exact hb)).trans h2, (hk _ (by rw [block_of_add]; exact hb)).trans h3, h4.keep hk, h5⟩
theorem Rels.more (h : Rels w B v rs) (hB : B ≤ B') : Rels w B' v rs := by
  obtain ⟨A, n, c, h1, h2, h3, h4⟩ := h
  refine ⟨A, n, c, h1, h2, h3, fun hn => ?_⟩
  obtain ⟨ad, e, hb, hc⟩ := h4 hn
  refine ⟨ad, e, by omega, fun j r hr => ?_⟩
  obtain ⟨u, h1, h2, h3, h4, h5⟩ := hc j r hr
  exact ⟨u, h1, h2, h3, h4.more hB, h5⟩
theorem Rels.below (h : Rels w B v rs) (hb : Below B w w') : Rels w' B v rs := h.keep fun _ hp => hb.cell hp
theorem Rels.drewN (h : Rels w B v rs) (k : Nat) : Rels (w.drewN k) B v rs := h
theorem add_field (a : Addr) (i j : Nat) : a.add (i + (j + 1)) = ⟨(a.add i).block, (a.add i).off + (j + 1), none⟩ := by
  unfold Addr.add
  by_cases hi : i = 0
  · simp [hi]
  · simp [hi, Nat.add_assoc]
theorem Rels.at_ {A : Option Addr} {n c k : Nat} (h : Rels w B (.slice A n c) rs) (hk : k < n) :
    ∃ ad u r, A = some ad ∧ ad.block < B ∧ rs[k]? = some r ∧ w.cell? (ad.add (k * 3)) = some (.string r.name) ∧ w.cell? ⟨(ad.add (k * 3)).block, (ad.add (k * 3)).off + 1, none⟩ = some (.int .i64 r.arity) ∧
      w.cell? ⟨(ad.add (k * 3)).block, (ad.add (k * 3)).off + 2, none⟩ = some u ∧ Tups w B u r.tuples ∧ r.name.size ≤ 140737488351232 := by
  obtain ⟨A', n', c', h1, h2, h3, h4⟩ := h
  injection h1 with e1 e2 e3
  subst e1 e2 e3
  obtain ⟨ad, hA, hb, hc⟩ := h4 (by omega)
  have hl : k < rs.length := by omega
  obtain ⟨u, h1, h2, h3, h4, h5⟩ := hc k rs[k] (List.getElem?_eq_getElem hl)
  refine ⟨ad, u, rs[k], hA, hb, List.getElem?_eq_getElem hl, h1, ?_, ?_, h4, h5⟩
  · rw [← add_field ad (k * 3) 0]; exact h2
  · rw [← add_field ad (k * 3) 1]; exact h3
end

/-- A block that is known whole. -/
def Blk (w : World) (g : Nat) (t : TypeId) (cs : Array Value) : Prop := w.heap[g]? = some (.cells cs t (0, 0))

section
variable {w w' : World} {g : Nat} {t : TypeId} {cs : Array Value}
theorem Blk.lt (h : Blk w g t cs) : g < w.heap.size := by
  rcases Nat.lt_or_ge g w.heap.size with hlt | hge
  · exact hlt
  · unfold Blk at h; rw [Array.getElem?_eq_none hge] at h; cases h
theorem Blk.cell (h : Blk w g t cs) (i : Nat) : w.cell? ⟨g, i, none⟩ = cs[i]? := cell_of_row w g i cs t (0, 0) h
theorem Blk.frozen (h : Blk w g t cs) (i : Nat) : w.frozen? ⟨g, i, none⟩ = false := by
  unfold Blk at h
  simp [World.frozen?, h]
theorem Blk.some_ (h : Blk w g t cs) (i : Nat) (hi : i < cs.size) : ∃ u, w.cell? ⟨g, i, none⟩ = some u := ⟨cs[i], by rw [h.cell, Array.getElem?_eq_getElem hi]⟩
theorem Blk.new (w : World) (t : TypeId) (cs : Array Value) : Blk (w.alloc (.cells cs t)) w.heap.size t cs := heap_alloc_new w _
theorem Blk.drew (h : Blk w g t cs) : Blk w.drew g t cs := h
theorem Blk.drewN (h : Blk w g t cs) (n : Nat) : Blk (w.drewN n) g t cs := h
theorem Blk.alloc (h : Blk w g t cs) (o : Obj) : Blk (w.alloc o) g t cs := (Below.heap_alloc w o g h.lt).trans h
theorem Blk.set_ (h : Blk w g t cs) (i : Nat) (u : Value) : Blk (w.setCell ⟨g, i, none⟩ u) g t (cs.setIfInBounds i u) := by
  unfold Blk at h ⊢
  simp [World.setCell, Array.getElem?_modify, h]
theorem Blk.far (h : Blk w g t cs) {p : Addr} (hp : g ≠ p.block) (u : Value) : Blk (w.setCell p u) g t cs := (Below.heap_setCell w p u g hp).trans h
theorem Blk.below {B : Nat} (h : Blk w g t cs) (hb : Below B w w') (hg : g < B) : Blk w' g t cs := (hb.block g hg).trans h
theorem Blk.grown {row : Option Nat} (h : Blk w g t cs) (hb : w.grownBy w' row) (hg : some g ≠ row) : Blk w' g t cs := (hb.block g h.lt hg).trans h
theorem Blk.reads (h : Blk w g t cs) (n c : Nat) (l : List Int) (hn : n = l.length) (hl : n ≤ 140737488351232) (hcs : ∀ (i : Nat) (x : Int), l[i]? = some x → cs[i]? = some (Value.int .i64 x)) : Ints w w.heap.size (.slice (some ⟨g, 0, none⟩) n c) l := by
  refine ⟨_, _, _, rfl, hn, hl, by simp [hn], fun _ => ⟨_, rfl, h.lt, fun j u hu => ?_⟩⟩
  rw [List.getElem?_map] at hu
  cases hx : l[j]? with
  | none => rw [hx] at hu; cases hu
  | some x =>
    rw [hx] at hu
    have e : (Addr.mk g 0 none).add j = ⟨g, j, none⟩ := by unfold Addr.add; split <;> simp_all
    rw [e, h.cell j, hcs j x hx]
    exact hu
end

theorem run_make_rowN {P : Program} (t e : TypeId) (i : TypeInfo) (z : Value) (ht : P.underlying t = some (.slice e)) (hi : P.info? e = some i) (hz : i.zero = some z)
    (kl kc : IntKind) (n c : Nat) (hnc : n ≤ c) (hbytes : i.bytes * c ≤ 281474976710656) (h63 : c ≤ 9223372036854775807) (w : World) :
    (Instr.makeSlice t (.int kl (n : Int)) (.int kc (c : Int))).run P w = .ok (.slice (some ⟨w.heap.size, 0, none⟩) n c) (w.alloc (.cells (madeCells z.cells (c * i.size)) e)) := by
  have hb : (i.bytes : Int) * (c : Int) ≤ 281474976710656 := by
    have h : ((i.bytes * c : Nat) : Int) ≤ 281474976710656 := by omega
    rwa [Int.natCast_mul] at h
  have hr := run_make (P := P) w t e i z ht hi hz kl kc n c (by omega) (by omega) hb (by omega)
  simp only [Int.toNat_natCast] at hr
  exact hr

theorem bcell {W w1 : World} (hb : Below W.heap.size W w1) : (∀ b o, b < W.heap.size → w1.cell? ⟨b, o, none⟩ = W.cell? ⟨b, o, none⟩) ∧ (∀ b o, b < W.heap.size → w1.frozen? ⟨b, o, none⟩ = W.frozen? ⟨b, o, none⟩) :=
  ⟨fun b o h => hb.cell (p := ⟨b, o, none⟩) h, fun b o h => hb.frozen (p := ⟨b, o, none⟩) h⟩

theorem quiet_left {P : Program} {f : FuncId} {args : Array Value} {w : World} {n : Nat} {v : Value}
    (h : Calls P f args (w.drewN n) fun e w' => e = .returned v ∧ w.drewN n = w') : Calls P f args (w.drewN n) fun e w'' => e = .returned v ∧ ∃ m, w'' = w.drewN m :=
  h.mono fun _ _ ⟨he, hm⟩ => ⟨he, n, hm.symm⟩
theorem quiet_add {P : Program} {f : FuncId} {args : Array Value} {w : World} {a n : Nat} {v : Value}
    (h : Calls P f args (w.drewN (a + n)) fun e w' => e = .returned v ∧ ∃ m, w' = (w.drewN (a + n)).drewN m) :
    Calls P f args (w.drewN (a + n)) fun e w'' => e = .returned v ∧ ∃ m, w'' = w.drewN (a + m) :=
  h.mono fun _ _ ⟨he, m, hm⟩ => ⟨he, n + m, by rw [hm, World.drewN_drewN, Nat.add_assoc]⟩
theorem quiet_add_left {P : Program} {f : FuncId} {args : Array Value} {w : World} {a n : Nat} {v : Value}
    (h : Calls P f args (w.drewN (a + n)) fun e w' => e = .returned v ∧ w.drewN (a + n) = w') :
    Calls P f args (w.drewN (a + n)) fun e w'' => e = .returned v ∧ ∃ m, w'' = w.drewN (a + m) :=
  h.mono fun _ _ ⟨he, hm⟩ => ⟨he, n, hm.symm⟩
theorem below_drewN {B : Nat} {a w : World} (h : Below B a w) (n : Nat) : Below B a (w.drewN n) := ⟨h.os, h.tape, h.output, h.size, h.block⟩

/-- A list's head-to-tail facts for loops. -/
theorem all_take_succ {α : Type} (p : α → Bool) (d : α) (l : List α) (k : Nat) (h : k < l.length) : (l.take (k + 1)).all p = ((l.take k).all p && p (l.getD k d)) := by
  rw [List.take_succ_eq_append_getElem h, List.all_append]
  simp [List.getD_eq_getElem?_getD, List.getElem?_eq_getElem h]
theorem all_of_take {α : Type} (p : α → Bool) (d : α) (l : List α) (k : Nat) (h : k < l.length) (hp : p (l.getD k d) = false) : l.all p = false := by
  rw [List.all_eq_false]
  refine ⟨l[k], List.getElem_mem h, ?_⟩
  rw [List.getD_eq_getElem?_getD, List.getElem?_eq_getElem h] at hp
  simpa using hp

end Go.Proofs.YtmnpelhcgobfaaaDoor

/-
  Walks: shape.elements, the reference's In.
-/
namespace Go.Proofs.YtmnpelhcgobfaaaDoor
open Go.RowKit

theorem ret_bool {a b : Bool} (h : a = b) : Ending.returned (.bool a) = .returned (.bool b) := by rw [h]
theorem ret_int {k : IntKind} {a b : Int} (h : a = b) : Ending.returned (.int k a) = .returned (.int k b) := by rw [h]

end Go.Proofs.YtmnpelhcgobfaaaDoor

/-
  Walks: letters, digits, reserved words, names (the program's and the reference's).
-/
namespace Go.Proofs.YtmnpelhcgobfaaaDoor
open Go.RowKit

theorem bytesWorld_below (w : World) (e : TypeId) (s : ByteArray) : Below w.heap.size w (Lib.bytesWorld w e s) := by
  refine ⟨?_, ?_, ?_, by rw [Lib.bytesWorld_size]; omega, fun k hk => Lib.bytesWorld_at_old w e s k hk⟩ <;> simp [Lib.bytesWorld, World.freeze, World.alloc, World.drew, -World.alloc_eq, -World.drew_eq]

theorem conv_bytes (s : ByteArray) (w : World) :
    (convert 9 22 (.string s)).run Tryd.prog w = .ok (.slice (some ⟨w.heap.size, 0, none⟩) s.size (grownCap w s.size 0 5)) (Lib.bytesWorld w 5 s) :=
  Lib.run_convert_string_bytes w 9 22 5 s Tryd.underlying9 Tryd.underlying22 Tryd.underlying5

theorem getD_bytes (s : ByteArray) (k : Nat) (hk : k < s.size) : s.toList.getD k 0 = s[k] := by
  rw [ByteArray.toList_eq, List.getD_eq_getElem?_getD, List.getElem?_eq_getElem (by simpa using hk)]
  rfl
theorem length_bytes (s : ByteArray) : s.toList.length = s.size := by rw [ByteArray.toList_eq]; simp

end Go.Proofs.YtmnpelhcgobfaaaDoor

/-
  Walks: letters, digits, reserved words and names, as package formula has them.
-/
namespace Go.Proofs.YtmnpelhcgobfaaaDoor
open Go.RowKit

theorem fletter_any (c : Nat) (w : World) :
    Calls Tryd.prog 45 #[.int .u8 (c : Int)] w fun e w' => e = .returned (.bool (Sh.letterB c)) ∧ w = w' := by
  go_enter Tryd.func45, Tryd.ntmps45
  go_wp2
  all_goals go_ret
  all_goals refine ⟨ret_bool ?_, rfl⟩
  all_goals unfold Sh.letterB
  all_goals (rw [Bool.eq_iff_iff]; simp only [Bool.or_eq_true, decide_eq_true_eq, true_iff, false_iff, Bool.false_eq_true]; omega)

theorem fdigit_any (c : Nat) (w : World) :
    Calls Tryd.prog 46 #[.int .u8 (c : Int)] w fun e w' => e = .returned (.bool (Sh.digitB c)) ∧ w = w' := by
  go_enter Tryd.func46, Tryd.ntmps46
  go_wp2
  all_goals go_ret
  all_goals refine ⟨ret_bool ?_, rfl⟩
  all_goals unfold Sh.digitB
  all_goals (rw [Bool.eq_iff_iff]; simp only [decide_eq_true_eq, false_iff, Bool.false_eq_true]; omega)

theorem freserved_any (s : ByteArray) (w : World) :
    Calls Tryd.prog 58 #[.string s] w fun e w' => e = .returned (.bool (Sh.wordB s.toList)) ∧ w = w' := by
  go_enter Tryd.func58, Tryd.ntmps58
  go_wp2
  all_goals go_ret
  all_goals refine ⟨ret_bool ?_, rfl⟩
  all_goals first | (exfalso; simp_all; done) | (simp_all [Sh.wordB]; done)

set_option maxRecDepth 100000 in
set_option maxHeartbeats 400000 in
theorem fname_any (s : ByteArray) (w : World) (hs : s.size ≤ 140737488351232) :
    Calls Tryd.prog 59 #[.string s] w fun e w' => e = .returned (.bool (Sh.nameB s.toList)) ∧ Below w.heap.size w w' := by
  have hl := length_bytes s
  by_cases h0 : s.size = 0
  · have he : s.toList = [] := List.eq_nil_of_length_eq_zero (by omega)
    have hv : Sh.nameB s.toList = false := by rw [he]; rfl
    have Hv := Lib.hid hv; clear hv
    clear hl h0
    have he' : s.toList.isEmpty = true := by rw [he]; rfl
    go_enter Tryd.func59, Tryd.ntmps59
    go_wp2
    go_ret
    exact ⟨ret_bool (by first | exact Hv.out.symm | (rw [he] at Hv; exact Hv.out.symm)), Below.refl _ _⟩
  · have he : s.toList.isEmpty = false := by rw [List.isEmpty_eq_false_iff]; intro h; rw [h] at hl; simp at hl; omega
    have hpos : 0 < s.size := by omega
    clear h0
    by_cases h12 : 12 < s.size
    · have hv : Sh.nameB s.toList = false := by unfold Sh.nameB; rw [hl]; simp; omega
      have Hv := Lib.hid hv; clear hv
      have Hl := Lib.hid hl; clear hl
      go_enter Tryd.func59, Tryd.ntmps59
      go_wp2
      go_ret
      exact ⟨ret_bool Hv.out.symm, Below.refl _ _⟩
    · have hg : s.toList.getD 0 0 = s[0] := getD_bytes s 0 hpos
      have hdef : Sh.nameB s.toList = (Sh.letterB s[0].toNat && s.toList.all Sh.alnumB && !Sh.wordB s.toList) := by
        unfold Sh.nameB; rw [hl, hg, decide_eq_true (by omega), decide_eq_true (by omega)]; simp
      have Hl := Lib.hid hl; clear hl
      have Hg := Lib.hid hg; clear hg
      cases hb : Sh.letterB s[0].toNat
      · have Hb := Lib.hid hb; clear hb
        have Hd := Lib.hid hdef; clear hdef
        go_enter Tryd.func59, Tryd.ntmps59
        go_wp2_with (go_at_call 45; refine (fletter_any _ _).mono ?_; rw [Hb.out]; rintro e w' ⟨rfl, rfl⟩)
        go_ret
        exact ⟨ret_bool (by rw [Hd.out, Hb.out]; rfl), Below.refl _ _⟩
      · have Hb := Lib.hid hb; clear hb
        have Hd := Lib.hid hdef; clear hdef
        have hconv := conv_bytes s
        go_enter Tryd.func59, Tryd.ntmps59
        go_wp2_with (go_at_call 45; refine (fletter_any _ _).mono ?_; rw [Hb.out]; rintro e w' ⟨rfl, rfl⟩)
        have hcell : ∀ k, k < s.size → (Lib.bytesWorld w 5 s).cell? ⟨w.heap.size, k, none⟩ = some (.int .u8 ((s.toList.getD k 0).toNat : Nat)) := fun k hk => by
          rw [Lib.bytesWorld_cell w _ s k hk, ByteArray.toList_eq]
        have hbel := bytesWorld_below w 5 s
        generalize Lib.bytesWorld w 5 s = W at *
        have Hcell := Lib.hid hcell; clear hcell hconv
        have Hbel := Lib.hid hbel; clear hbel
        go_loop [21] (fun i => ∃ k : Nat, k ≤ s.size ∧ i = .int .i64 k ∧ (s.toList.take k).all Sh.alnumB = true) (fun i => s.size - (intOf i).toNat)
        case atStart => exact ⟨0, Nat.zero_le _, rfl, by simp⟩
        case round =>
          obtain ⟨k, hk, rfl, hall⟩ := hrel
          have Hall := Lib.hid hall; clear hall
          by_cases hlt : k < s.size
          · have hc := Hcell.out k hlt
            have hts := all_take_succ Sh.alnumB 0 s.toList k (by rw [Hl.out]; omega)
            have hfalse := all_of_take Sh.alnumB 0 s.toList k (by rw [Hl.out]; omega)
            rw [Hall.out, Bool.true_and] at hts
            generalize s.toList.getD k 0 = x at *
            have Hts := Lib.hid hts; clear hts
            have Hfa := Lib.hid hfalse; clear hfalse
            cases hlx : Sh.letterB x.toNat
            · have Hlx := Lib.hid hlx; clear hlx
              cases hdx : Sh.digitB x.toNat
              · have Hdx := Lib.hid hdx; clear hdx
                go_wp2_with (first | (go_at_call 45; refine (fletter_any _ _).mono ?_; rw [Hlx.out]; rintro e w' ⟨rfl, rfl⟩) | (go_at_call 46; refine (fdigit_any _ _).mono ?_; rw [Hdx.out]; rintro e w' ⟨rfl, rfl⟩))
                go_ret
                exact ⟨ret_bool (by rw [Hd.out, Hfa.out (by unfold Sh.alnumB; rw [Hlx.out, Hdx.out]; rfl)]; simp), Hbel.out⟩
              · have Hdx := Lib.hid hdx; clear hdx
                go_wp2_with (first | (go_at_call 45; refine (fletter_any _ _).mono ?_; rw [Hlx.out]; rintro e w' ⟨rfl, rfl⟩) | (go_at_call 46; refine (fdigit_any _ _).mono ?_; rw [Hdx.out]; rintro e w' ⟨rfl, rfl⟩))
                go_round
                case rel => exact ⟨k + 1, by omega, by go_num, by rw [Hts.out]; unfold Sh.alnumB; rw [Hlx.out, Hdx.out]; rfl⟩
                case measure => simp [intOf]; omega
            · have Hlx := Lib.hid hlx; clear hlx
              go_wp2_with (go_at_call 45; refine (fletter_any _ _).mono ?_; rw [Hlx.out]; rintro e w' ⟨rfl, rfl⟩)
              go_round
              case rel => exact ⟨k + 1, by omega, by go_num, by rw [Hts.out]; unfold Sh.alnumB; rw [Hlx.out]; rfl⟩
              case measure => simp [intOf]; omega
          · have hall : s.toList.all Sh.alnumB = true := by
              have := Hall.out
              rwa [List.take_of_length_le (by rw [Hl.out]; omega)] at this
            have hv := Hd.out
            rw [Hb.out, hall, Bool.true_and, Bool.true_and] at hv
            have Hv := Lib.hid hv; clear hv
            clear hall
            go_wp2_with (go_at_call 58; refine (freserved_any _ _).mono ?_; rintro e w' ⟨rfl, rfl⟩)
            go_ret
            exact ⟨ret_bool Hv.out.symm, Hbel.out⟩

end Go.Proofs.YtmnpelhcgobfaaaDoor


/-
  Plain mathematics: formulas as trees; what makes one valid, said part by part; the one walk that decides it and finds the size, the depth, the symbols and the free variables.
-/
namespace Go.Proofs.YtmnpelhcgobfaaaDoor.Fo

/-- A formula, over a type of names. -/
inductive F (N : Type) where
  | mk (kind arity : Int) (name : N) (vars args : List N) (kids : List (F N))

variable {N : Type} [DecidableEq N]

/-- Kinds that bind their name: 8, 9 and 11. -/
def bindsB (k : Int) : Bool := decide (k = 8 ∨ k = 9 ∨ k = 11)
def placesI (k a : Int) (vs : List N) : Int := if k = 11 then a else vs.length
def notsN (k : Int) (n : Nat) : Nat := if k = 3 then n + 1 else n
def pfpsN (k : Int) (n : Nat) : Nat := if k = 9 then n + 1 else n

mutual
def size : F N → Nat
  | .mk _ _ _ _ _ ks => 1 + sizes ks
def sizes : List (F N) → Nat
  | [] => 0
  | f :: l => size f + sizes l
end
mutual
def depth : F N → Nat
  | .mk _ _ _ _ _ ks => 1 + depths ks
def depths : List (F N) → Nat
  | [] => 0
  | f :: l => max (depth f) (depths l)
end

section
variable (fit : Int → Int → N → List N → List N → Nat → Bool)
mutual
def shapes : F N → Bool
  | .mk k a n vs ags ks => fit k a n vs ags ks.length && shapesL ks
def shapesL : List (F N) → Bool
  | [] => true
  | f :: l => shapes f && shapesL l
end
end

/-- A binding of a name around. -/
structure Bd (N : Type) where
  name : N
  nots : Nat
  pfps : Nat
  arity : Int
  pos : Bool

def findBd (n : N) : List (Bd N) → Option (Bd N)
  | [] => none
  | b :: l => if b.name = n then some b else findBd n l

def enterBd (k a : Int) (n : N) (vs : List N) (no pf : Nat) (bd : List (Bd N)) : List (Bd N) :=
  if bindsB k then ⟨n, notsN k no, pfpsN k pf, placesI k a vs, decide (k = 8)⟩ :: bd else bd

mutual
/-- All bound occurrences have the arity of what binds them, and are positive where they must be. -/
def boundB : F N → List (Bd N) → Nat → Nat → Bool
  | .mk k a n vs ags ks, bd, no, pf =>
    if k = 0 then
      match findBd n bd with
      | none => true
      | some b => decide ((ags.length : Int) = b.arity) && (!b.pos || decide ((no - b.nots) % 2 = 0 ∧ pf = b.pfps))
    else boundL ks (enterBd k a n vs no pf bd) (notsN k no) (pfpsN k pf)
def boundL : List (F N) → List (Bd N) → Nat → Nat → Bool
  | [], _, _, _ => true
  | f :: l, bd, no, pf => boundB f bd no pf && boundL l bd no pf
end

mutual
/-- The unbound occurrences: name, arity, whether positive from the top. -/
def occP : F N → List N → Nat → Nat → List (N × (Int × Bool))
  | .mk k _ n _ ags ks, bd, no, pf =>
    if k = 0 then (if n ∈ bd then [] else [(n, ((ags.length : Int), decide (no % 2 = 0 ∧ pf = 0)))])
    else occL ks (if bindsB k then n :: bd else bd) (notsN k no) (pfpsN k pf)
def occL : List (F N) → List N → Nat → Nat → List (N × (Int × Bool))
  | [], _, _, _ => []
  | f :: l, bd, no, pf => occP f bd no pf ++ occL l bd no pf
end

/-- A map as a list of pairs. -/
def getM {α : Type} (n : N) : List (N × α) → Option α
  | [] => none
  | (m, u) :: l => if m = n then some u else getM n l
def updM {α : Type} (n : N) (u : α) : List (N × α) → List (N × α)
  | [] => [(n, u)]
  | (m, w) :: l => if m = n then (n, u) :: l else (m, w) :: updM n u l

def step1 (sy : List (N × (Int × Bool))) (o : N × (Int × Bool)) : Option (List (N × (Int × Bool))) :=
  match getM o.1 sy with
  | none => some (updM o.1 o.2 sy)
  | some u => if u.1 = o.2.1 then some (updM o.1 (o.2.1, o.2.2 && u.2) sy) else none
def stepsM : List (N × (Int × Bool)) → List (N × (Int × Bool)) → Option (List (N × (Int × Bool)))
  | sy, [] => some sy
  | sy, o :: l => (step1 sy o).bind fun s => stepsM s l

theorem stepsM_append (a b : List (N × (Int × Bool))) : ∀ sy, stepsM sy (a ++ b) = (stepsM sy a).bind fun s => stepsM s b := by
  induction a with
  | nil => intro sy; rfl
  | cons o l ih =>
    intro sy
    simp only [List.cons_append, stepsM]
    cases step1 sy o with
    | none => rfl
    | some s => simp [ih s]

/-- The free variables found so far. -/
def addFree (vs : List N) : List N → List N → List N
  | fr, [] => fr
  | fr, v :: l => addFree vs (if v ∈ vs ∨ v ∈ fr then fr else fr ++ [v]) l

mutual
def freeW : F N → List N → List N → List N
  | .mk k _ _ ws ags ks, vs, fr => if k = 0 then addFree vs fr ags else freeWL ks (ws ++ vs) (addFree vs fr ags)
def freeWL : List (F N) → List N → List N → List N
  | [], _, fr => fr
  | f :: l, vs, fr => freeWL l vs (freeW f vs fr)
end

structure St (N : Type) where
  size : Nat
  depth : Nat
  syms : List (N × (Int × Bool))
  free : List N

section
variable (fit : Int → Int → N → List N → List N → Nat → Bool)
mutual
/-- The walk of the program. -/
def walkF : F N → Nat → List (Bd N) → List N → Nat → Nat → St N → Option (St N)
  | .mk k a n ws ags ks, d, bd, vs, no, pf, st =>
    if 4000 < st.size + 1 ∨ 60 < d ∨ fit k a n ws ags ks.length = false then none
    else if k = 0 then
      match findBd n bd with
      | some b => if (ags.length : Int) = b.arity ∧ (b.pos = false ∨ ((no - b.nots) % 2 = 0 ∧ pf = b.pfps)) then some ⟨st.size + 1, max st.depth d, st.syms, addFree vs st.free ags⟩ else none
      | none => (step1 st.syms (n, ((ags.length : Int), decide (no % 2 = 0 ∧ pf = 0)))).map fun sy => ⟨st.size + 1, max st.depth d, sy, addFree vs st.free ags⟩
    else walkL ks (d + 1) (enterBd k a n ws no pf bd) (ws ++ vs) (notsN k no) (pfpsN k pf) ⟨st.size + 1, max st.depth d, st.syms, addFree vs st.free ags⟩
def walkL : List (F N) → Nat → List (Bd N) → List N → Nat → Nat → St N → Option (St N)
  | [], _, _, _, _, _, st => some st
  | f :: l, d, bd, vs, no, pf, st => (walkF f d bd vs no pf st).bind fun s => walkL l d bd vs no pf s
end
end

theorem findBd_none {n : N} : ∀ {bd : List (Bd N)}, findBd n bd = none ↔ n ∉ bd.map (·.name)
  | [] => by simp [findBd]
  | b :: l => by
    by_cases h : b.name = n
    · simp [findBd, h]
    · have h' : ¬ n = b.name := fun e => h e.symm
      simp [findBd, h, h', findBd_none (bd := l)]

omit [DecidableEq N] in
theorem enterBd_names (k a : Int) (n : N) (vs : List N) (no pf : Nat) (bd : List (Bd N)) : (enterBd k a n vs no pf bd).map (·.name) = if bindsB k then n :: bd.map (·.name) else bd.map (·.name) := by
  unfold enterBd; split <;> simp

section
variable {fit : Int → Int → N → List N → List N → Nat → Bool}

omit [DecidableEq N] in
theorem size_pos (f : F N) : 1 ≤ size f := by cases f; simp [size]
omit [DecidableEq N] in
theorem depth_pos (f : F N) : 1 ≤ depth f := by cases f; simp [depth]

mutual
/-- The walk succeeds if and only if the parts say so, and finds what the parts find. -/
theorem walkF_eq (h0 : ∀ a n vs ags k, fit 0 a n vs ags k = true → k = 0) : ∀ (f : F N) (d : Nat) (bd : List (Bd N)) (vs : List N) (no pf : Nat) (st : St N), st.depth ≤ 60 → walkF fit f d bd vs no pf st =
    if st.size + size f ≤ 4000 ∧ d + depth f ≤ 61 ∧ shapes fit f = true ∧ boundB f bd no pf = true then
      (stepsM st.syms (occP f (bd.map (·.name)) no pf)).map fun sy => ⟨st.size + size f, max st.depth (d + depth f - 1), sy, freeW f vs st.free⟩
    else none
  | .mk k a n ws ags ks, d, bd, vs, no, pf, st, hst => by
    unfold walkF
    by_cases hbad : 4000 < st.size + 1 ∨ 60 < d ∨ fit k a n ws ags ks.length = false
    · rw [if_pos hbad, if_neg]
      rintro ⟨g1, g2, g3, -⟩
      have := size_pos (F.mk k a n ws ags ks)
      have := depth_pos (F.mk k a n ws ags ks)
      rw [shapes, Bool.and_eq_true] at g3
      rcases hbad with h | h | h
      · omega
      · omega
      · rw [h] at g3; exact absurd g3.1 (by simp)
    · rw [if_neg hbad]
      obtain ⟨b1, b2, b3⟩ : ¬ 4000 < st.size + 1 ∧ ¬ 60 < d ∧ fit k a n ws ags ks.length = true := by
        refine ⟨fun h => hbad (.inl h), fun h => hbad (.inr (.inl h)), ?_⟩
        cases e : fit k a n ws ags ks.length
        · exact absurd (.inr (.inr e)) hbad
        · rfl
      by_cases hk : k = 0
      · subst hk
        have hks : ks = [] := List.length_eq_zero_iff.1 (h0 _ _ _ _ _ b3)
        subst hks
        rw [if_pos rfl]
        have hsh : shapes fit (F.mk 0 a n ws ags []) = true := by rw [shapes, b3]; rfl
        simp only [size, sizes, depth, depths, hsh, boundB, occP, freeW, if_pos, true_and]
        cases hf : findBd n bd with
        | none =>
          have hn := findBd_none.1 hf
          rw [if_pos ⟨by omega, by omega, rfl⟩, if_neg hn]
          simp only [stepsM]
          cases step1 st.syms (n, ((ags.length : Int), decide (no % 2 = 0 ∧ pf = 0))) with
          | none => rfl
          | some s => simp
        | some b =>
          have hn : n ∈ bd.map (·.name) := by
            refine Classical.byContradiction fun h => ?_
            rw [findBd_none.2 h] at hf; cases hf
          rw [if_pos hn]
          simp only [stepsM]
          by_cases hc : (ags.length : Int) = b.arity ∧ (b.pos = false ∨ ((no - b.nots) % 2 = 0 ∧ pf = b.pfps))
          · rw [if_pos hc, if_pos]
            · simp
            · refine ⟨by omega, by omega, ?_⟩
              simp [hc.1]
              exact hc.2
          · rw [if_neg hc, if_neg]
            rintro ⟨-, -, g⟩
            simp at g
            exact hc g
      · rw [if_neg hk]
        have hsh : shapes fit (F.mk k a n ws ags ks) = shapesL fit ks := by rw [shapes, b3]; rfl
        rw [walkL_eq h0 ks (d + 1) _ _ _ _ _ (show max st.depth d ≤ 60 by omega) (by omega) (show st.size + 1 ≤ 4000 by omega) (show d + 1 - 1 ≤ max st.depth d by omega), enterBd_names]
        simp only [size, depth, hsh, boundB, occP, freeW, if_neg hk]
        have e1 : (st.size + 1 + sizes ks ≤ 4000 ∧ d + 1 + depths ks ≤ 61 ∧ shapesL fit ks = true ∧ boundL ks (enterBd k a n ws no pf bd) (notsN k no) (pfpsN k pf) = true) ↔ (st.size + (1 + sizes ks) ≤ 4000 ∧ d + (1 + depths ks) ≤ 61 ∧ shapesL fit ks = true ∧ boundL ks (enterBd k a n ws no pf bd) (notsN k no) (pfpsN k pf) = true) := by
          rw [Nat.add_assoc st.size, Nat.add_assoc d]
        simp only [e1]
        have e2 : max (max st.depth d) (d + 1 + depths ks - 1) = max st.depth (d + (1 + depths ks) - 1) := by omega
        have e3 : st.size + 1 + sizes ks = st.size + (1 + sizes ks) := by omega
        rw [e2, e3]
theorem walkL_eq (h0 : ∀ a n vs ags k, fit 0 a n vs ags k = true → k = 0) : ∀ (l : List (F N)) (d : Nat) (bd : List (Bd N)) (vs : List N) (no pf : Nat) (st : St N), st.depth ≤ 60 → d ≤ 61 → st.size ≤ 4000 → d - 1 ≤ st.depth → walkL fit l d bd vs no pf st =
    if st.size + sizes l ≤ 4000 ∧ d + depths l ≤ 61 ∧ shapesL fit l = true ∧ boundL l bd no pf = true then
      (stepsM st.syms (occL l (bd.map (·.name)) no pf)).map fun sy => ⟨st.size + sizes l, max st.depth (d + depths l - 1), sy, freeWL l vs st.free⟩
    else none
  | [], d, bd, vs, no, pf, st, hst, hd, hs, hdd => by
    simp only [walkL, sizes, depths, shapesL, boundL, occL, freeWL, stepsM]
    rw [if_pos ⟨by omega, by omega, trivial, trivial⟩]
    have e : max st.depth (d + 0 - 1) = st.depth := by omega
    rw [e]
    rfl
  | f :: l, d, bd, vs, no, pf, st, hst, hd, hs, hdd => by
    rw [walkL, walkF_eq h0 f d bd vs no pf st hst]
    have hz := size_pos f
    have hdp := depth_pos f
    by_cases hc : st.size + size f ≤ 4000 ∧ d + depth f ≤ 61 ∧ shapes fit f = true ∧ boundB f bd no pf = true
    · rw [if_pos hc]
      obtain ⟨c1, c2, c3, c4⟩ := hc
      simp only [occL, stepsM_append, sizes, depths, shapesL, boundL, c3, c4, Bool.true_and, freeWL]
      cases hst' : stepsM st.syms (occP f (bd.map (·.name)) no pf) with
      | none => simp
      | some sy =>
        simp only [Option.map_some, Option.bind_some]
        rw [walkL_eq h0 l d bd vs no pf _ (show max st.depth (d + depth f - 1) ≤ 60 by omega) hd (show st.size + size f ≤ 4000 from c1) (show d - 1 ≤ max st.depth (d + depth f - 1) by omega)]
        have e1 : (st.size + (size f + sizes l) ≤ 4000 ∧ d + depths l ≤ 61 ∧ shapesL fit l = true ∧ boundL l bd no pf = true) ↔ (st.size + (size f + sizes l) ≤ 4000 ∧ d + max (depth f) (depths l) ≤ 61 ∧ shapesL fit l = true ∧ boundL l bd no pf = true) := by
          constructor
          · rintro ⟨a1, a2, a3⟩; exact ⟨by omega, by omega, a3⟩
          · rintro ⟨a1, a2, a3⟩; exact ⟨by omega, by omega, a3⟩
        have e2 : max (max st.depth (d + depth f - 1)) (d + depths l - 1) = max st.depth (d + max (depth f) (depths l) - 1) := by omega
        have e3 : st.size + size f + sizes l = st.size + (size f + sizes l) := by omega
        simp only [e1, e2, e3]
    · rw [if_neg hc, if_neg]
      · rfl
      · rintro ⟨a1, a2, a3, a4⟩
        simp only [sizes, depths, shapesL, boundL, Bool.and_eq_true] at a1 a2 a3 a4
        exact hc ⟨by omega, by omega, a3.1, a4.1⟩
end
end

end Go.Proofs.YtmnpelhcgobfaaaDoor.Fo

/-
  Plain mathematics: what the one walk over a formula finds is what the reference's parts say: arities, growth, occurrences, positivity.
-/
namespace Go.Proofs.YtmnpelhcgobfaaaDoor.Fo
variable {N : Type} [DecidableEq N]

mutual
/-- The reference's arities; the innermost binding comes first. -/
def aritF : F N → List (N × Int) → Bool
  | .mk k a n vs ags ks, bd =>
    if k = 0 then (match getM n bd with | none => true | some m => decide (m = (ags.length : Int)))
    else aritL ks (if bindsB k then (n, placesI k a vs) :: bd else bd)
def aritL : List (F N) → List (N × Int) → Bool
  | [], _ => true
  | f :: l, bd => aritF f bd && aritL l bd
end
mutual
/-- The reference's positivity. -/
def posF : F N → N → Bool → Bool → Bool
  | .mk k _ n _ _ ks, nm, odd, part =>
    if k = 0 then (decide (n ≠ nm) || (!odd && !part))
    else if bindsB k = true ∧ n = nm then true
    else posL ks nm (if k = 3 then !odd else odd) (part || decide (k = 9))
def posL : List (F N) → N → Bool → Bool → Bool
  | [], _, _, _ => true
  | f :: l, nm, odd, part => posF f nm odd part && posL l nm odd part
end
mutual
/-- The kids of least fixed points are positive in the bound names. -/
def growF : F N → Bool
  | .mk k _ n _ _ ks => (if k = 8 then posL ks n false false else true) && growL ks
def growL : List (F N) → Bool
  | [] => true
  | f :: l => growF f && growL l
end
mutual
/-- The reference's occurrences. -/
def occF : F N → List N → List (N × Int)
  | .mk k _ n _ ags ks, bd =>
    if k = 0 then (if n ∈ bd then [] else [(n, (ags.length : Int))])
    else occFL ks (if bindsB k then n :: bd else bd)
def occFL : List (F N) → List N → List (N × Int)
  | [], _ => []
  | f :: l, bd => occF f bd ++ occFL l bd
end

mutual
theorem occP_occF : ∀ (f : F N) (bd : List N) (no pf : Nat), (occP f bd no pf).map (fun o => (o.1, o.2.1)) = occF f bd
  | .mk k a n vs ags ks, bd, no, pf => by
    unfold occP occF
    by_cases hk : k = 0
    · rw [if_pos hk, if_pos hk]
      by_cases h : n ∈ bd
      · rw [if_pos h, if_pos h]; rfl
      · rw [if_neg h, if_neg h]; rfl
    · rw [if_neg hk, if_neg hk, occL_occFL ks]
theorem occL_occFL : ∀ (l : List (F N)) (bd : List N) (no pf : Nat), (occL l bd no pf).map (fun o => (o.1, o.2.1)) = occFL l bd
  | [], bd, no, pf => rfl
  | f :: l, bd, no, pf => by
    rw [occL, occFL, List.map_append, occP_occF f, occL_occFL l]
end

theorem findBd_mem {n : N} {b : Bd N} : ∀ {bd : List (Bd N)}, findBd n bd = some b → b ∈ bd ∧ b.name = n
  | [], h => by simp [findBd] at h
  | c :: l, h => by
    unfold findBd at h
    by_cases e : c.name = n
    · rw [if_pos e] at h; cases h; exact ⟨List.mem_cons_self .., e⟩
    · rw [if_neg e] at h
      exact ⟨List.mem_cons_of_mem _ (findBd_mem h).1, (findBd_mem h).2⟩
theorem findBd_getM {n : N} : ∀ (bd : List (Bd N)), getM n (bd.map fun b => (b.name, b.arity)) = (findBd n bd).map (·.arity)
  | [] => rfl
  | b :: l => by
    simp only [List.map_cons, getM, findBd]
    by_cases e : b.name = n
    · rw [if_pos e, if_pos e]; rfl
    · rw [if_neg e, if_neg e]; exact findBd_getM l

theorem odd_step {k : Int} {no a : Nat} (h : a ≤ no) : (if k = 3 then !decide ((no - a) % 2 ≠ 0) else decide ((no - a) % 2 ≠ 0)) = decide ((notsN k no - a) % 2 ≠ 0) := by
  unfold notsN
  by_cases hk : k = 3
  · rw [if_pos hk, if_pos hk]
    by_cases e : (no - a) % 2 = 0
    · have e' : (no + 1 - a) % 2 ≠ 0 := by omega
      simp [e, e']
    · have e' : (no + 1 - a) % 2 = 0 := by omega
      simp [e, e']
  · rw [if_neg hk, if_neg hk]
theorem part_step {k : Int} {pf a : Nat} (h : a ≤ pf) : (decide (pf ≠ a) || decide (k = 9)) = decide (pfpsN k pf ≠ a) := by
  unfold pfpsN
  by_cases hk : k = 9
  · have e : pf + 1 ≠ a := by omega
    rw [if_pos hk]
    simp [e, hk]
  · simp [hk]

/-- The bindings around count no more than is around here. -/
def Around (bd : List (Bd N)) (no pf : Nat) : Prop := ∀ b ∈ bd, b.nots ≤ no ∧ b.pfps ≤ pf

omit [DecidableEq N] in
theorem Around.enter {bd : List (Bd N)} {no pf : Nat} (h : Around bd no pf) (k a : Int) (n : N) (vs : List N) : Around (enterBd k a n vs no pf bd) (notsN k no) (pfpsN k pf) := by
  have h1 : no ≤ notsN k no := by unfold notsN; split <;> omega
  have h2 : pf ≤ pfpsN k pf := by unfold pfpsN; split <;> omega
  have hb : ∀ b ∈ bd, b.nots ≤ notsN k no ∧ b.pfps ≤ pfpsN k pf := fun b hb => by have := h b hb; omega
  unfold enterBd
  split
  · intro b hm
    rcases List.mem_cons.1 hm with rfl | hm
    · exact ⟨Nat.le_refl _, Nat.le_refl _⟩
    · exact hb b hm
  · exact hb

/-- The bound names that must be positive are. -/
def PosB (p : N → Bool → Bool → Bool) (bd : List (Bd N)) (no pf : Nat) : Prop := ∀ nm b, findBd nm bd = some b → b.pos = true → p nm (decide ((no - b.nots) % 2 ≠ 0)) (decide (pf ≠ b.pfps)) = true

section
variable {fit : Int → Int → N → List N → List N → Nat → Bool}
mutual
theorem boundB_iff (h0 : ∀ a n vs ags k, fit 0 a n vs ags k = true → k = 0) : ∀ (f : F N) (bd : List (Bd N)) (no pf : Nat), shapes fit f = true → Around bd no pf → (boundB f bd no pf = true ↔ aritF f (bd.map fun b => (b.name, b.arity)) = true ∧ growF f = true ∧ PosB (posF f) bd no pf)
  | .mk k a n vs ags ks, bd, no, pf, hsh, har => by
    rw [shapes, Bool.and_eq_true] at hsh
    by_cases hk : k = 0
    · subst hk
      have hks : ks = [] := List.length_eq_zero_iff.1 (h0 _ _ _ _ _ hsh.1)
      subst hks
      have hg : growF (F.mk 0 a n vs ags []) = true := by simp [growF, growL]
      have hp : ∀ nm odd part, posF (F.mk 0 a n vs ags []) nm odd part = (decide (n ≠ nm) || (!odd && !part)) := fun nm odd part => by rw [posF, if_pos rfl]
      rw [boundB, if_pos rfl, aritF, if_pos rfl, findBd_getM, hg]
      cases hf : findBd n bd with
      | none =>
        refine ⟨fun _ => ⟨by trivial, by trivial, fun nm b hb _ => ?_⟩, fun _ => by trivial⟩
        rw [hp]
        have : n ≠ nm := fun e => by rw [e, hb] at hf; cases hf
        simp [this]
      | some b =>
        simp only [Option.map_some, Bool.and_eq_true, decide_eq_true_eq]
        constructor
        · rintro ⟨g1, g2⟩
          refine ⟨g1.symm, by trivial, fun nm c hc hpos => ?_⟩
          rw [hp]
          by_cases e : n = nm
          · rw [← e, hf] at hc
            cases hc
            rw [hpos] at g2
            simp at g2
            simp [g2.1, g2.2]
          · simp [e]
        · rintro ⟨g1, -, g2⟩
          refine ⟨g1.symm, ?_⟩
          cases hpos : b.pos
          · rfl
          · have := g2 n b hf hpos
            rw [hp] at this
            simp at this
            simp [this.1, this.2]
    · have ih := boundL_iff h0 ks (enterBd k a n vs no pf bd) (notsN k no) (pfpsN k pf) hsh.2 (har.enter k a n vs)
      rw [boundB, if_neg hk, ih, aritF, if_neg hk, growF]
      have hm : (enterBd k a n vs no pf bd).map (fun b => (b.name, b.arity)) = (if bindsB k = true then (n, placesI k a vs) :: bd.map (fun b => (b.name, b.arity)) else bd.map (fun b => (b.name, b.arity))) := by
        unfold enterBd; split <;> simp
      rw [hm]
      have hpos : PosB (posL ks) (enterBd k a n vs no pf bd) (notsN k no) (pfpsN k pf) ↔ ((if k = 8 then posL ks n false false else true) = true ∧ PosB (posF (F.mk k a n vs ags ks)) bd no pf) := by
        constructor
        · intro h
          refine ⟨?_, fun nm b hf hp => ?_⟩
          · by_cases h8 : k = 8
            · rw [if_pos h8]
              have := h n ⟨n, notsN k no, pfpsN k pf, placesI k a vs, decide (k = 8)⟩ (by unfold enterBd; rw [if_pos (by simp [bindsB, h8])]; simp [findBd]) (by simp [h8])
              simpa using this
            · rw [if_neg h8]
          · rw [posF, if_neg hk]
            by_cases hb : bindsB k = true ∧ n = nm
            · rw [if_pos hb]
            · rw [if_neg hb]
              have hle := har b (findBd_mem hf).1
              rw [odd_step hle.1, part_step hle.2]
              refine h nm b ?_ hp
              unfold enterBd
              by_cases hb1 : bindsB k = true
              · rw [if_pos hb1]
                unfold findBd
                rw [if_neg (fun e => hb ⟨hb1, e⟩)]
                exact hf
              · rw [if_neg hb1]; exact hf
        · rintro ⟨h8, h⟩ nm b hf hp
          by_cases hb : bindsB k = true ∧ n = nm
          · unfold enterBd at hf
            rw [if_pos hb.1] at hf
            unfold findBd at hf
            rw [if_pos hb.2] at hf
            cases hf
            have hk8 : k = 8 := of_decide_eq_true hp
            rw [if_pos hk8] at h8
            rw [← hb.2]
            simpa using h8
          · have hf' : findBd nm bd = some b := by
              unfold enterBd at hf
              by_cases hb1 : bindsB k = true
              · rw [if_pos hb1] at hf
                unfold findBd at hf
                rw [if_neg (fun e => hb ⟨hb1, e⟩)] at hf
                exact hf
              · rw [if_neg hb1] at hf; exact hf
            have := h nm b hf' hp
            rw [posF, if_neg hk, if_neg hb] at this
            have hle := har b (findBd_mem hf').1
            rw [odd_step hle.1, part_step hle.2] at this
            exact this
      rw [hpos, Bool.and_eq_true]
      constructor
      · rintro ⟨a1, a2, a3, a4⟩; exact ⟨a1, ⟨a3, a2⟩, a4⟩
      · rintro ⟨a1, ⟨a3, a2⟩, a4⟩; exact ⟨a1, a2, a3, a4⟩
theorem boundL_iff (h0 : ∀ a n vs ags k, fit 0 a n vs ags k = true → k = 0) : ∀ (l : List (F N)) (bd : List (Bd N)) (no pf : Nat), shapesL fit l = true → Around bd no pf → (boundL l bd no pf = true ↔ aritL l (bd.map fun b => (b.name, b.arity)) = true ∧ growL l = true ∧ PosB (posL l) bd no pf)
  | [], bd, no, pf, _, _ => by simp [boundL, aritL, growL, PosB, posL]
  | f :: l, bd, no, pf, hsh, har => by
    rw [shapesL, Bool.and_eq_true] at hsh
    rw [boundL, aritL, growL, Bool.and_eq_true, Bool.and_eq_true, Bool.and_eq_true, boundB_iff h0 f bd no pf hsh.1 har, boundL_iff h0 l bd no pf hsh.2 har]
    have hp : PosB (posL (f :: l)) bd no pf ↔ PosB (posF f) bd no pf ∧ PosB (posL l) bd no pf := by
      constructor
      · intro h
        refine ⟨fun nm b hf hp => ?_, fun nm b hf hp => ?_⟩
        · have := h nm b hf hp; rw [posL, Bool.and_eq_true] at this; exact this.1
        · have := h nm b hf hp; rw [posL, Bool.and_eq_true] at this; exact this.2
      · rintro ⟨h1, h2⟩ nm b hf hp
        rw [posL, Bool.and_eq_true]
        exact ⟨h1 nm b hf hp, h2 nm b hf hp⟩
    rw [hp]
    constructor
    · rintro ⟨⟨a1, a2, a3⟩, b1, b2, b3⟩; exact ⟨⟨a1, b1⟩, ⟨a2, b2⟩, a3, b3⟩
    · rintro ⟨⟨a1, b1⟩, ⟨a2, b2⟩, a3, b3⟩; exact ⟨⟨a1, a2, a3⟩, b1, b2, b3⟩
end
end

end Go.Proofs.YtmnpelhcgobfaaaDoor.Fo
