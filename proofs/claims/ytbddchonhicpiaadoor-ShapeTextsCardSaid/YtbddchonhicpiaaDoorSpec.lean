/-
  Plain mathematics: what the functions of package shape compute, as functions on numbers and lists; no program is imported.
-/
namespace Go.Proofs.YtbddchonhicpiaaDoor.Sh

/-- Power: the value and the error. -/
def powE (n k : Int) : Int × Int :=
  if n < 1 ∨ 64 < n ∨ k < 0 ∨ 12 < k then (0, 2)
  else if 4096 < n.toNat ^ k.toNat then (0, 5)
  else (((n.toNat ^ k.toNat : Nat) : Int), 0)

theorem powE_arg {n k : Int} (h : n < 1 ∨ 64 < n ∨ k < 0 ∨ 12 < k) : powE n k = (0, 2) := by
  unfold powE; rw [if_pos h]
theorem powE_size {n k : Nat} (h1 : 1 ≤ n) (h2 : n ≤ 64) (h3 : k ≤ 12) (h : 4096 < n ^ k) : powE n k = (0, 5) := by
  unfold powE; rw [if_neg (by omega), if_pos (by simpa using h)]
theorem powE_ok {n k : Nat} (h1 : 1 ≤ n) (h2 : n ≤ 64) (h3 : k ≤ 12) (h : n ^ k ≤ 4096) : powE n k = (((n ^ k : Nat) : Int), 0) := by
  unfold powE; rw [if_neg (by omega), if_neg (by simpa using h)]; simp
theorem pow_over {n k j : Nat} (h1 : 1 ≤ n) (hj : j ≤ k) (h : 4096 < n ^ j) : 4096 < n ^ k :=
  Nat.lt_of_lt_of_le h (Nat.pow_le_pow_right h1 hj)

/-- The class of letters, of digits: by a byte's number. -/
def letterB (c : Nat) : Bool := decide ((97 ≤ c ∧ c ≤ 122) ∨ (65 ≤ c ∧ c ≤ 90))
def digitB (c : Nat) : Bool := decide (48 ≤ c ∧ c ≤ 57)

/-- All components are from 0 to n - 1. -/
def okB (n x : Int) : Bool := decide (0 ≤ x ∧ x < n)
def inB (n : Int) (t : List Int) : Bool := t.all (okB n)

theorem okB_true {n x : Int} (h0 : 0 ≤ x) (h1 : x < n) : okB n x = true := by unfold okB; simp [h0, h1]
theorem okB_lo {n x : Int} (h0 : x < 0) : okB n x = false := by unfold okB; simp; omega
theorem okB_hi {n x : Int} (h0 : n ≤ x) : okB n x = false := by unfold okB; simp; omega

/-- The lexicographic order: the reference's Less, the library's Compare. -/
def lessB : List Int → List Int → Bool
  | [], _ => false
  | _ :: _, [] => false
  | x :: xs, y :: ys => if x = y then lessB xs ys else decide (x < y)
def cmpI : List Int → List Int → Int
  | [], [] => 0
  | [], _ :: _ => -1
  | _ :: _, [] => 1
  | x :: xs, y :: ys => if x < y then -1 else if y < x then 1 else cmpI xs ys
def eqB : List Int → List Int → Bool
  | [], [] => true
  | [], _ :: _ => false
  | _ :: _, [] => false
  | x :: xs, y :: ys => if x = y then eqB xs ys else false

theorem eqB_iff : ∀ a b : List Int, eqB a b = true ↔ a = b
  | [], [] => by simp [eqB]
  | [], _ :: _ => by simp [eqB]
  | _ :: _, [] => by simp [eqB]
  | x :: xs, y :: ys => by
    unfold eqB
    by_cases h : x = y
    · simp [h, eqB_iff xs ys]
    · simp [h]
theorem eqB_len {a b : List Int} (h : a.length ≠ b.length) : eqB a b = false := by
  rw [Bool.eq_false_iff]
  intro he
  exact h (by rw [(eqB_iff a b).1 he])

theorem drop_getD (l : List Int) (k : Nat) (h : k < l.length) : l.drop k = l.getD k 0 :: l.drop (k + 1) := by
  rw [List.drop_eq_getElem_cons h]
  simp [List.getD_eq_getElem?_getD, List.getElem?_eq_getElem h]

theorem eqB_step {a b : List Int} {k : Nat} (ha : k < a.length) (hb : k < b.length) (he : a.getD k 0 = b.getD k 0) :
    eqB (a.drop k) (b.drop k) = eqB (a.drop (k + 1)) (b.drop (k + 1)) := by
  rw [drop_getD a k ha, drop_getD b k hb, he]; simp [eqB]
theorem eqB_stop {a b : List Int} {k : Nat} (ha : k < a.length) (hb : k < b.length) (he : a.getD k 0 ≠ b.getD k 0) :
    eqB (a.drop k) (b.drop k) = false := by
  rw [drop_getD a k ha, drop_getD b k hb]; simp only [eqB, if_neg he]
theorem eqB_end {a b : List Int} {k : Nat} (ha : a.length ≤ k) (hb : b.length ≤ k) : eqB (a.drop k) (b.drop k) = true := by
  rw [List.drop_of_length_le ha, List.drop_of_length_le hb]; rfl
theorem lessB_step {a b : List Int} {k : Nat} (ha : k < a.length) (hb : k < b.length) (he : a.getD k 0 = b.getD k 0) :
    lessB (a.drop k) (b.drop k) = lessB (a.drop (k + 1)) (b.drop (k + 1)) := by
  rw [drop_getD a k ha, drop_getD b k hb, he]; simp [lessB]
theorem lessB_stop {a b : List Int} {k : Nat} (ha : k < a.length) (hb : k < b.length) (he : a.getD k 0 ≠ b.getD k 0) :
    lessB (a.drop k) (b.drop k) = decide (a.getD k 0 < b.getD k 0) := by
  rw [drop_getD a k ha, drop_getD b k hb]; simp only [lessB, if_neg he]
theorem lessB_end {a b : List Int} {k : Nat} (ha : a.length ≤ k) : lessB (a.drop k) (b.drop k) = false := by
  rw [List.drop_of_length_le ha]; rfl
theorem cmpI_step {a b : List Int} {k : Nat} (ha : k < a.length) (hb : k < b.length) (he : a.getD k 0 = b.getD k 0) :
    cmpI (a.drop k) (b.drop k) = cmpI (a.drop (k + 1)) (b.drop (k + 1)) := by
  rw [drop_getD a k ha, drop_getD b k hb, he]; simp [cmpI]
theorem cmpI_lt {a b : List Int} {k : Nat} (ha : k < a.length) (hb : k < b.length) (he : a.getD k 0 < b.getD k 0) :
    cmpI (a.drop k) (b.drop k) = -1 := by
  rw [drop_getD a k ha, drop_getD b k hb]; simp only [cmpI, if_pos he]
theorem cmpI_gt {a b : List Int} {k : Nat} (ha : k < a.length) (hb : k < b.length) (he : b.getD k 0 < a.getD k 0) :
    cmpI (a.drop k) (b.drop k) = 1 := by
  rw [drop_getD a k ha, drop_getD b k hb]; simp only [cmpI, if_pos he]; rw [if_neg (by omega)]
theorem cmpI_longer {a b : List Int} {k : Nat} (ha : k < a.length) (hb : b.length ≤ k) : cmpI (a.drop k) (b.drop k) = 1 := by
  rw [drop_getD a k ha, List.drop_of_length_le hb]; simp [cmpI]
theorem cmpI_shorter {a b : List Int} {k : Nat} (ha : a.length ≤ k) (hb : k < b.length) : cmpI (a.drop k) (b.drop k) = -1 := by
  rw [drop_getD b k hb, List.drop_of_length_le ha]; simp [cmpI]
theorem cmpI_end {a b : List Int} {k : Nat} (ha : a.length ≤ k) (hb : b.length ≤ k) : cmpI (a.drop k) (b.drop k) = 0 := by
  rw [List.drop_of_length_le ha, List.drop_of_length_le hb]; rfl

/-- Rank. -/
def rankI (n : Int) (t : List Int) : Int := t.foldl (fun r x => r * n + x) 0
def rankE (n : Int) (t : List Int) : Int × Int :=
  if (powE n t.length).2 ≠ 0 then (0, (powE n t.length).2) else if inB n t = false then (0, 2) else (rankI n t, 0)

theorem powE_cases (n k : Int) : (powE n k).2 ≠ 0 ∧ (powE n k).1 = 0 ∨ (∃ a b : Nat, n = a ∧ k = b ∧ 1 ≤ a ∧ a ≤ 64 ∧ b ≤ 12 ∧ a ^ b ≤ 4096 ∧ powE n k = (((a ^ b : Nat) : Int), 0)) := by
  by_cases h : n < 1 ∨ 64 < n ∨ k < 0 ∨ 12 < k
  · rw [powE_arg h]; exact .inl (by decide)
  · obtain ⟨a, rfl⟩ := Int.eq_ofNat_of_zero_le (show 0 ≤ n by omega)
    obtain ⟨b, rfl⟩ := Int.eq_ofNat_of_zero_le (show 0 ≤ k by omega)
    by_cases h2 : 4096 < a ^ b
    · rw [powE_size (by omega) (by omega) (by omega) h2]; exact .inl (by decide)
    · exact .inr ⟨a, b, rfl, rfl, by omega, by omega, by omega, by omega, powE_ok (by omega) (by omega) (by omega) (by omega)⟩

theorem rank_take_succ (n : Int) (t : List Int) (k : Nat) (h : k < t.length) : rankI n (t.take (k + 1)) = rankI n (t.take k) * n + t.getD k 0 := by
  unfold rankI
  rw [List.take_succ_eq_append_getElem h, List.foldl_append]
  simp [List.getD_eq_getElem?_getD, List.getElem?_eq_getElem h]
theorem inB_getD {n : Int} {t : List Int} (hi : inB n t = true) {k : Nat} (h : k < t.length) : 0 ≤ t.getD k 0 ∧ t.getD k 0 < n := by
  unfold inB at hi
  rw [List.all_eq_true] at hi
  have := hi t[k] (List.getElem_mem h)
  unfold okB at this
  simpa [List.getD_eq_getElem?_getD, List.getElem?_eq_getElem h] using this
theorem rank_bd (n : Nat) (t : List Int) (hi : inB n t = true) (k : Nat) : 0 ≤ rankI n (t.take k) ∧ rankI n (t.take k) < ((n ^ (min k t.length) : Nat) : Int) := by
  induction k with
  | zero => simp [rankI]
  | succ k ih =>
    by_cases h : k < t.length
    · rw [rank_take_succ _ _ _ h]
      have hx := inB_getD hi h
      rw [Nat.min_eq_left (by omega)] at ih ⊢
      rw [Nat.pow_succ]
      push_cast at ih ⊢
      generalize rankI n (t.take k) = r at *
      generalize t.getD k 0 = x at *
      generalize (n : Int) ^ k = p at *
      have h1 : (r + 1) * n ≤ p * n := Int.mul_le_mul_of_nonneg_right (by omega) (by omega)
      have h2 : 0 ≤ r * n := Int.mul_nonneg ih.1 (by omega)
      rw [Int.add_mul] at h1
      constructor <;> omega
    · rw [List.take_of_length_le (by omega)] at *
      rw [Nat.min_eq_right (by omega)] at *
      exact ih

/-- The reference's Pow: it stops growing above MaxCells. -/
def powR (n : Nat) : Nat → Nat
  | 0 => 1
  | k + 1 => if powR n k ≤ 4096 then powR n k * n else powR n k
theorem powR_succ {n k : Nat} (h : powR n k ≤ 4096) : powR n (k + 1) = powR n k * n := by rw [powR, if_pos h]
theorem powR_stay {n i k : Nat} (h : 4096 < powR n i) (hk : i ≤ k) : powR n k = powR n i := by
  induction k with
  | zero => rw [show i = 0 by omega]
  | succ k ih =>
    by_cases hi : i = k + 1
    · rw [hi]
    · have := ih (by omega)
      rw [powR, if_neg (by omega), this]
theorem powR_eq (n k : Nat) (h1 : 1 ≤ n) : (n ^ k ≤ 4096 → powR n k = n ^ k) ∧ (4096 < n ^ k → 4096 < powR n k) := by
  induction k with
  | zero => simp [powR]
  | succ k ih =>
    have hm : n ^ k ≤ n ^ (k + 1) := Nat.pow_le_pow_right h1 (by omega)
    have hs : n ^ (k + 1) = n ^ k * n := Nat.pow_succ ..
    by_cases h : n ^ k ≤ 4096
    · have he := ih.1 h
      rw [powR, if_pos (by omega), he, ← hs]
      exact ⟨fun _ => rfl, id⟩
    · have he := ih.2 (by omega)
      rw [powR, if_neg (by omega)]
      exact ⟨fun hh => by omega, fun _ => he⟩
theorem powR_bd (n k : Nat) (h2 : n ≤ 64) : powR n k ≤ 262144 := by
  induction k with
  | zero => simp [powR]
  | succ k ih =>
    rw [powR]
    split
    · have : powR n k * n ≤ 4096 * 64 := Nat.mul_le_mul (by assumption) h2
      omega
    · exact ih

/-- Tuple: the digits of a rank. -/
def tupN (n : Nat) : Nat → Nat → List Int
  | 0, _ => []
  | k + 1, r => tupN n k (r / n) ++ [((r % n : Nat) : Int)]
theorem tupN_len (n : Nat) : ∀ k r, (tupN n k r).length = k
  | 0, _ => rfl
  | k + 1, r => by simp [tupN, tupN_len n k]
def tupE (n k r : Int) : List Int × Int :=
  if (powE n k).2 ≠ 0 then ([], (powE n k).2) else if r < 0 ∨ (powE n k).1 ≤ r then ([], 2) else (tupN n.toNat k.toNat r.toNat, 0)

/-- The words that are no names. -/
def wordB (s : List UInt8) : Bool :=
  decide (s ∈ [[97, 110, 100], [111, 114], [110, 111, 116], [115, 111, 109, 101], [97, 108, 108], [108, 102, 112], [112, 102, 112], [116, 99], [101, 120, 105, 115, 116, 115], [116, 114, 117, 101], [102, 97, 108, 115, 101]])

def alnumB (c : UInt8) : Bool := letterB c.toNat || digitB c.toNat
/-- Name. -/
def nameB (l : List UInt8) : Bool :=
  decide (1 ≤ l.length) && decide (l.length ≤ 12) && letterB (l.getD 0 0).toNat && l.all alnumB && !wordB l

/-- A relation, a structure. -/
structure Rel where
  name : ByteArray
  arity : Int
  tuples : List (List Int)
structure Str where
  size : Int
  rels : List Rel

theorem cmpI_less : ∀ (a b : List Int), a.length = b.length → (cmpI a b < 0 ↔ lessB a b = true)
  | [], [], _ => by simp [cmpI, lessB]
  | [], _ :: _, h => by simp at h
  | _ :: _, [], h => by simp at h
  | x :: xs, y :: ys, h => by
    unfold cmpI lessB
    by_cases h1 : x < y
    · rw [if_pos h1, if_neg (by omega)]; simp [h1]
    · by_cases h2 : y < x
      · rw [if_neg h1, if_pos h2, if_neg (by omega)]; simp [h1]
      · rw [if_neg h1, if_neg h2, if_pos (by omega)]; exact cmpI_less xs ys (by simpa using h)
theorem cmpI_eq : ∀ (a b : List Int), cmpI a b = 0 ↔ a = b
  | [], [] => by simp [cmpI]
  | [], _ :: _ => by simp [cmpI]
  | _ :: _, [] => by simp [cmpI]
  | x :: xs, y :: ys => by
    unfold cmpI
    by_cases h1 : x < y
    · rw [if_pos h1]; simp; omega
    · by_cases h2 : y < x
      · rw [if_neg h1, if_pos h2]; simp; omega
      · rw [if_neg h1, if_neg h2, cmpI_eq xs ys]; simp; omega

theorem range_all_succ (p : Nat → Bool) (k : Nat) : (List.range (k + 1)).all p = ((List.range k).all p && p k) := by
  rw [List.range_succ, List.all_append]; simp
theorem range_all_false (p : Nat → Bool) {k n : Nat} (h : k < n) (hp : p k = false) : (List.range n).all p = false := by
  rw [List.all_eq_false]
  exact ⟨k, List.mem_range.2 h, by simp [hp]⟩
theorem range_all_get {p : Nat → Bool} {n : Nat} (h : (List.range n).all p = true) {k : Nat} (hk : k < n) : p k = true := by
  rw [List.all_eq_true] at h
  exact h k (List.mem_range.2 hk)

/-- The tuple with number i is right: its length, its elements, its place. -/
def tupOk (n k : Int) (ts : List (List Int)) (i : Nat) : Bool :=
  decide (((ts.getD i []).length : Int) = k) && inB n (ts.getD i []) && (decide (i = 0) || lessB (ts.getD (i - 1) []) (ts.getD i []))
def relB (n : Int) (r : Rel) : Bool :=
  decide ((powE n r.arity).2 = 0) && nameB r.name.toList && (List.range r.tuples.length).all (tupOk n r.arity r.tuples)

theorem tupOk_len {n k : Int} {ts : List (List Int)} {i : Nat} (h : tupOk n k ts i = true) : ((ts.getD i []).length : Int) = k := by
  unfold tupOk at h
  simp only [Bool.and_eq_true, decide_eq_true_eq] at h
  exact h.1.1

/-- Valid: the relation with number i is right, and its name is not among those before it. -/
def relAt (n : Int) (rs : List Rel) (i : Nat) : Bool :=
  match rs[i]? with
  | some r => relB n r && !((rs.take i).map (·.name.toList)).contains r.name.toList
  | none => false
def validB (s : Str) : Bool :=
  decide (1 ≤ s.size) && decide (s.size ≤ 64) && decide (s.rels.length ≤ 8) && (List.range s.rels.length).all (relAt s.size s.rels)

end Go.Proofs.YtbddchonhicpiaaDoor.Sh
