/-
  The grammar of the textual form as functions on what is left of a text.
-/
import Derived.Test.YtbddchonhicpiaaDoorSpec2
import Derived.Lib.AtoiAll
import Derived.Lib.AtoiAllCases
namespace Go.Proofs.YtbddchonhicpiaaDoor

/-- A number at the head of what is left: its value, if there is one. -/
def numP (l : List UInt8) : Option Int :=
  match Lib.atoiAll (l.takeWhile fun c => Sh.digitB c.toNat) with
  | .ok v => if 1 < (l.takeWhile fun c => Sh.digitB c.toNat).length ∧ (l.takeWhile fun c => Sh.digitB c.toNat).head? = some 48 then none else some v
  | _ => none
def digRun (l : List UInt8) : Nat := (l.takeWhile fun c => Sh.digitB c.toNat).length
theorem digRun_le (l : List UInt8) : digRun l ≤ l.length := (List.takeWhile_prefix _).length_le
theorem numP_pos {l : List UInt8} {v : Int} (h : numP l = some v) : 1 ≤ digRun l := by
  unfold digRun
  rcases Nat.eq_zero_or_pos (l.takeWhile fun c => Sh.digitB c.toNat).length with h0 | h0
  · have he := List.eq_nil_of_length_eq_zero h0
    unfold numP at h
    rw [he] at h
    simp [Lib.atoiAll] at h
  · exact h0

/-- Further numbers, each behind a comma. -/
def numsP (l : List UInt8) : Option (List Int × List UInt8) :=
  if h : [44].isPrefixOf l = true then
    match numP (l.drop 1) with
    | none => none
    | some v => (numsP ((l.drop 1).drop (digRun (l.drop 1)))).map fun p => (v :: p.1, p.2)
  else some ([], l)
termination_by l.length
decreasing_by
  cases l with
  | nil => simp at h
  | cons a l => simp only [List.length_drop, List.length_cons]; omega
theorem numsP_stop {l : List UInt8} (h : [44].isPrefixOf l = false) : numsP l = some ([], l) := by
  rw [numsP, dif_neg (by rw [h]; simp)]
theorem numsP_bad {l : List UInt8} (h : [44].isPrefixOf l = true) (hn : numP (l.drop 1) = none) : numsP l = none := by
  rw [numsP, dif_pos h, hn]
theorem numsP_more {l : List UInt8} (h : [44].isPrefixOf l = true) {v : Int} (hn : numP (l.drop 1) = some v) :
    numsP l = (numsP ((l.drop 1).drop (digRun (l.drop 1)))).map fun p => (v :: p.1, p.2) := by
  rw [numsP, dif_pos h, hn]

/-- A tuple. -/
def tupP (l : List UInt8) : Option (List Int × List UInt8) :=
  if [40, 41].isPrefixOf l = true then some ([], l.drop 2)
  else match numP l with
    | none => none
    | some v => (numsP (l.drop (digRun l))).map fun p => (v :: p.1, p.2)

theorem tupP_unit {l : List UInt8} (h : [40, 41].isPrefixOf l = true) : tupP l = some ([], l.drop 2) := by unfold tupP; rw [if_pos h]
theorem tupP_bad {l : List UInt8} (h : [40, 41].isPrefixOf l = false) (hn : numP l = none) : tupP l = none := by unfold tupP; rw [if_neg (by rw [h]; simp), hn]
theorem tupP_more {l : List UInt8} (h : [40, 41].isPrefixOf l = false) {v : Int} (hn : numP l = some v) : tupP l = (numsP (l.drop (digRun l))).map fun p => (v :: p.1, p.2) := by
  unfold tupP; rw [if_neg (by rw [h]; simp), hn]

theorem numsP_len : ∀ (n : Nat) (l : List UInt8), l.length ≤ n → ∀ p, numsP l = some p → p.2.length ≤ l.length
  | n, l, hn, p, h => by
    cases hc : [44].isPrefixOf l
    · rw [numsP_stop hc] at h
      injection h with h
      rw [← h]
      exact Nat.le_refl _
    · cases hv : numP (l.drop 1) with
      | none => rw [numsP_bad hc hv] at h; cases h
      | some v =>
        rw [numsP_more hc hv] at h
        cases l with
        | nil => simp at hc
        | cons a l =>
          match n, hn with
          | n + 1, hn =>
            simp only [Option.map_eq_some_iff] at h
            obtain ⟨q, hq, rfl⟩ := h
            have := numsP_len n _ (by simp only [List.length_drop, List.length_cons] at hn ⊢; omega) q hq
            simp only [List.length_drop, List.length_cons] at this ⊢
            omega
theorem tupP_len {l : List UInt8} {p : List Int × List UInt8} (h : tupP l = some p) : p.2.length ≤ l.length := by
  unfold tupP at h
  split at h
  · injection h with h; rw [← h]; simp
  · cases hv : numP l with
    | none => rw [hv] at h; cases h
    | some v =>
      rw [hv] at h
      simp only [Option.map_eq_some_iff] at h
      obtain ⟨q, hq, rfl⟩ := h
      have := numsP_len _ _ (Nat.le_refl _) q hq
      simp only [List.length_drop] at this ⊢
      omega

/-- Further tuples, each behind a blank. -/
def tupsP (l : List UInt8) : Option (List (List Int) × List UInt8) :=
  if h : [32].isPrefixOf l = true then
    match ht : tupP (l.drop 1) with
    | none => none
    | some p => (tupsP p.2).map fun q => (p.1 :: q.1, q.2)
  else some ([], l)
termination_by l.length
decreasing_by
  have := tupP_len ht
  cases l with
  | nil => simp at h
  | cons a l => simp only [List.length_drop, List.length_cons] at this ⊢; omega
theorem tupsP_stop {l : List UInt8} (h : [32].isPrefixOf l = false) : tupsP l = some ([], l) := by
  rw [tupsP, dif_neg (by rw [h]; simp)]
theorem tupsP_bad {l : List UInt8} (h : [32].isPrefixOf l = true) (hn : tupP (l.drop 1) = none) : tupsP l = none := by
  rw [tupsP, dif_pos h]
  split
  · rfl
  · rename_i p hp; rw [hn] at hp; cases hp
theorem tupsP_more {l : List UInt8} (h : [32].isPrefixOf l = true) {p : List Int × List UInt8} (hn : tupP (l.drop 1) = some p) :
    tupsP l = (tupsP p.2).map fun q => (p.1 :: q.1, q.2) := by
  rw [tupsP, dif_pos h]
  split
  · rename_i hp; rw [hn] at hp; cases hp
  · rename_i q hp; rw [hn] at hp; injection hp with hp; rw [hp]
theorem tupsP_len : ∀ (n : Nat) (l : List UInt8), l.length ≤ n → ∀ p, tupsP l = some p → p.2.length ≤ l.length
  | n, l, hn, p, h => by
    cases hc : [32].isPrefixOf l
    · rw [tupsP_stop hc] at h
      injection h with h
      rw [← h]
      exact Nat.le_refl _
    · cases hv : tupP (l.drop 1) with
      | none => rw [tupsP_bad hc hv] at h; cases h
      | some v =>
        rw [tupsP_more hc hv] at h
        have h1 := tupP_len hv
        cases l with
        | nil => simp at hc
        | cons a l =>
          match n, hn with
          | n + 1, hn =>
            simp only [Option.map_eq_some_iff] at h
            obtain ⟨q, hq, rfl⟩ := h
            have := numsP_len
            have := tupsP_len n _ (by simp only [List.length_drop, List.length_cons] at hn h1 ⊢; omega) q hq
            simp only [List.length_drop, List.length_cons] at this h1 ⊢
            omega

/-- A relation behind '; '. -/
def nameRun (l : List UInt8) : Nat := (l.takeWhile fun c => Sh.letterB c.toNat || Sh.digitB c.toNat).length
def relP (l : List UInt8) : Option (Sh.Rel × List UInt8) :=
  if [59, 32].isPrefixOf l = true then
    if [47].isPrefixOf ((l.drop 2).drop (nameRun (l.drop 2))) = true then
      match numP (((l.drop 2).drop (nameRun (l.drop 2))).drop 1) with
      | none => none
      | some k => (tupsP ((((l.drop 2).drop (nameRun (l.drop 2))).drop 1).drop (digRun (((l.drop 2).drop (nameRun (l.drop 2))).drop 1)))).map fun q =>
          (⟨⟨((l.drop 2).take (nameRun (l.drop 2))).toArray⟩, k, q.1⟩, q.2)
    else none
  else none
theorem relP_bad1 {l : List UInt8} (h : [59, 32].isPrefixOf l = false) : relP l = none := by unfold relP; rw [if_neg (by rw [h]; simp)]
theorem relP_bad2 {l : List UInt8} (h : [59, 32].isPrefixOf l = true) (h2 : [47].isPrefixOf ((l.drop 2).drop (nameRun (l.drop 2))) = false) : relP l = none := by
  unfold relP; rw [if_pos h, if_neg (by rw [h2]; simp)]
theorem relP_bad3 {l : List UInt8} (h : [59, 32].isPrefixOf l = true) (h2 : [47].isPrefixOf ((l.drop 2).drop (nameRun (l.drop 2))) = true)
    (h3 : numP (((l.drop 2).drop (nameRun (l.drop 2))).drop 1) = none) : relP l = none := by
  unfold relP; rw [if_pos h, if_pos h2, h3]
theorem relP_more {l : List UInt8} (h : [59, 32].isPrefixOf l = true) (h2 : [47].isPrefixOf ((l.drop 2).drop (nameRun (l.drop 2))) = true) {k : Int}
    (h3 : numP (((l.drop 2).drop (nameRun (l.drop 2))).drop 1) = some k) :
    relP l = (tupsP ((((l.drop 2).drop (nameRun (l.drop 2))).drop 1).drop (digRun (((l.drop 2).drop (nameRun (l.drop 2))).drop 1)))).map fun q =>
          (⟨⟨((l.drop 2).take (nameRun (l.drop 2))).toArray⟩, k, q.1⟩, q.2) := by
  unfold relP; rw [if_pos h, if_pos h2, h3]
theorem relP_len {l : List UInt8} {p : Sh.Rel × List UInt8} (h : relP l = some p) : p.2.length + 1 ≤ l.length := by
  unfold relP at h
  split at h
  · rename_i h2
    split at h
    · split at h
      · cases h
      · simp only [Option.map_eq_some_iff] at h
        obtain ⟨q, hq, rfl⟩ := h
        have := tupsP_len _ _ (Nat.le_refl _) q hq
        have hl : 2 ≤ l.length := by have := (List.isPrefixOf_iff_prefix.1 h2).length_le; simpa using this
        simp only [List.length_drop] at this ⊢
        omega
    · cases h
  · cases h
/-- Relations to the end. -/
def relsP (l : List UInt8) : Option (List Sh.Rel) :=
  if h : l = [] then some []
  else match hr : relP l with
    | none => none
    | some p => (relsP p.2).map fun q => p.1 :: q
termination_by l.length
decreasing_by
  have := relP_len hr
  omega
theorem relsP_nil : relsP [] = some [] := by rw [relsP, dif_pos rfl]
theorem relsP_bad {l : List UInt8} (h : l ≠ []) (hn : relP l = none) : relsP l = none := by
  rw [relsP, dif_neg h]
  split
  · rfl
  · rename_i p hp; rw [hn] at hp; cases hp
theorem relsP_more {l : List UInt8} (h : l ≠ []) {p : Sh.Rel × List UInt8} (hn : relP l = some p) : relsP l = (relsP p.2).map fun q => p.1 :: q := by
  rw [relsP, dif_neg h]
  split
  · rename_i hp; rw [hn] at hp; cases hp
  · rename_i q hp; rw [hn] at hp; injection hp with hp; rw [hp]

/-- A structure, before it is asked whether it is valid. -/
def strP (l : List UInt8) : Option Sh.Str :=
  match numP l with
  | none => none
  | some n => (relsP (l.drop (digRun l))).map fun q => ⟨n, q⟩
theorem strP_bad {l : List UInt8} (h : numP l = none) : strP l = none := by unfold strP; rw [h]
theorem strP_more {l : List UInt8} {n : Int} (h : numP l = some n) : strP l = (relsP (l.drop (digRun l))).map fun q => ⟨n, q⟩ := by unfold strP; rw [h]
/-- Parse. -/
def parseP (l : List UInt8) : Option Sh.Str :=
  if 40000 < l.length then none
  else match strP l with
    | some s => if Sh.validB s = true then some s else none
    | none => none

end Go.Proofs.YtbddchonhicpiaaDoor
