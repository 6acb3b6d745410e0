/-
  Plain mathematics: the textual form, piece after piece, and how long it is.
-/
import Derived.Test.YtbddchonhicpiaaDoorText
namespace Go.Proofs.YtbddchonhicpiaaDoor
open Go.Lib (itoa decDigits)

namespace Tx
/-- The numbers of a tuple, with commas between them. -/
def parS : List Int → List UInt8
  | [] => []
  | x :: t => itoa x ++ numsS t
theorem numsS_snoc (a : List Int) (x : Int) : numsS (a ++ [x]) = numsS a ++ (44 :: itoa x) := by unfold numsS; rw [List.flatMap_append]; simp
theorem parS_one (x : Int) : parS [x] = itoa x := by simp [parS, numsS]
theorem parS_snoc {a : List Int} (x : Int) (h : a ≠ []) : parS (a ++ [x]) = parS a ++ (44 :: itoa x) := by
  cases a with
  | nil => exact absurd rfl h
  | cons y a => show itoa y ++ numsS (a ++ [x]) = (itoa y ++ numsS a) ++ _; rw [numsS_snoc, List.append_assoc]
theorem tupS_par {t : List Int} (h : t ≠ []) : tupS t = parS t := by
  cases t with
  | nil => exact absurd rfl h
  | cons x t => rfl
theorem itoa_nat' (u : Nat) : itoa (u : Int) = decDigits u := Lib.itoa_nonneg u
/-- Numbers of at most two digits. -/
def N2 (t : List Int) : Prop := ∀ x ∈ t, 0 ≤ x ∧ x < 100
theorem dec_len {u : Nat} (h : u < 100) : (decDigits u).length ≤ 2 := by
  rw [Lib.decDigits_length]
  by_cases h1 : u < 10
  · rw [Lib.nDigits_small h1]; omega
  · rw [Lib.nDigits_big h1, Lib.nDigits_small (by omega)]; omega
theorem itoa_len {x : Int} (h0 : 0 ≤ x) (h1 : x < 100) : (itoa x).length ≤ 2 := by rw [itoa_of h0]; exact dec_len (by omega)
theorem nums_len : ∀ (t : List Int), N2 t → (numsS t).length ≤ 3 * t.length
  | [], _ => by simp [numsS]
  | x :: t, h => by
    have hx := h x (List.mem_cons_self ..)
    have h1 := itoa_len hx.1 hx.2
    have h2 := nums_len t (fun y hy => h y (List.mem_cons_of_mem _ hy))
    rw [numsS_cons]
    simp only [List.length_cons, List.length_append]
    omega
theorem par_len {t : List Int} (h : N2 t) : (parS t).length ≤ 3 * t.length := by
  cases t with
  | nil => simp [parS]
  | cons x t =>
    have hx := h x (List.mem_cons_self ..)
    have h1 := itoa_len hx.1 hx.2
    have h2 := nums_len t (fun y hy => h y (List.mem_cons_of_mem _ hy))
    show (itoa x ++ numsS t).length ≤ _
    simp only [List.length_cons, List.length_append]
    omega
theorem tup_len {t : List Int} (h : N2 t) (hl : t.length ≤ 12) : (tupS t).length ≤ 36 := by
  by_cases he : t = []
  · subst he; simp [tupS]
  · rw [tupS_par he]
    have := par_len h
    omega
theorem tups_len : ∀ (ts : List (List Int)), (∀ t ∈ ts, N2 t ∧ t.length ≤ 12) → (tupsS ts).length ≤ 37 * ts.length
  | [], _ => by simp [tupsS]
  | t :: ts, h => by
    have h1 := tup_len (h t (List.mem_cons_self ..)).1 (h t (List.mem_cons_self ..)).2
    have h2 := tups_len ts (fun x hx => h x (List.mem_cons_of_mem _ hx))
    rw [tupsS_cons]
    simp only [List.length_cons, List.length_append]
    omega
theorem tupsS_snoc (ts : List (List Int)) (t : List Int) : tupsS (ts ++ [t]) = tupsS ts ++ (32 :: tupS t) := by unfold tupsS; rw [List.flatMap_append]; simp
/-- What a relation's line begins with. -/
def headS (r : Sh.Rel) : List UInt8 := [59, 32] ++ (r.name.toList ++ (47 :: itoa r.arity))
theorem relS_head (r : Sh.Rel) : relS r = headS r ++ tupsS r.tuples := by unfold relS headS; simp [List.append_assoc]

/-- A relation that Text writes. -/
structure RelSmall (r : Sh.Rel) : Prop where
  nm : r.name.size ≤ 12
  ar : 0 ≤ r.arity ∧ r.arity < 100
  count : r.tuples.length ≤ 50000
  tups : ∀ t ∈ r.tuples, N2 t ∧ t.length ≤ 12
theorem head_len {r : Sh.Rel} (h : RelSmall r) : (headS r).length ≤ 20 := by
  have h1 := itoa_len h.ar.1 h.ar.2
  have h2 := h.nm
  unfold headS
  simp only [List.length_cons, List.length_append, List.length_nil, length_bytes]
  omega
theorem rel_len {r : Sh.Rel} (h : RelSmall r) : (relS r).length ≤ 2000000 := by
  have h1 := head_len h
  have h2 := tups_len r.tuples h.tups
  have h3 := h.count
  rw [relS_head, List.length_append]
  omega
theorem rels_len : ∀ (rs : List Sh.Rel), (∀ r ∈ rs, RelSmall r) → (rs.flatMap relS).length ≤ 2000000 * rs.length
  | [], _ => by simp
  | r :: rs, h => by
    have h1 := rel_len (h r (List.mem_cons_self ..))
    have h2 := rels_len rs (fun x hx => h x (List.mem_cons_of_mem _ hx))
    rw [List.flatMap_cons]
    simp only [List.length_cons, List.length_append]
    omega

theorem small_of_valid {size : Int} {rs : List Sh.Rel} (h : Sh.validB ⟨size, rs⟩ = true) : (0 ≤ size ∧ size < 100) ∧ rs.length ≤ 8 ∧ ∀ r ∈ rs, RelSmall r := by
  obtain ⟨h1, h2, h3, h4, -⟩ := (Sh.validB_iff size rs).1 h
  refine ⟨⟨by omega, by omega⟩, h3, fun r hr => ?_⟩
  obtain ⟨a, b, -, d⟩ := (Sh.relB_iff size r).1 (h4 r hr)
  have har : 0 ≤ r.arity ∧ r.arity ≤ 12 := by
    unfold Sh.powE at a
    split at a
    · cases a
    · rename_i hn
      omega
  refine ⟨?_, ⟨har.1, by omega⟩, ?_, fun t ht => ⟨fun x hx => ?_, ?_⟩⟩
  · unfold Sh.nameB at b
    simp only [Bool.and_eq_true, decide_eq_true_eq] at b
    have := b.1.1.1.2
    rwa [length_bytes] at this
  · have := (Sh.relB_small (h4 r hr)).1
    omega
  · have := List.all_eq_true.1 (d t ht).2 x hx
    unfold Sh.okB at this
    have := of_decide_eq_true this
    omega
  · have := (d t ht).1
    omega

/-- Text: the text and the error. -/
def textE (s : Sh.Str) : ByteArray × Int :=
  if Sh.validB s = false then (⟨#[]⟩, 1) else if 40000 < (textS s).length then (⟨#[]⟩, 5) else (⟨(textS s).toArray⟩, 0)
theorem textE_form {s : Sh.Str} (h : Sh.validB s = false) : textE s = (⟨#[]⟩, 1) := by unfold textE; rw [if_pos h]
theorem textE_size {s : Sh.Str} (h : Sh.validB s = true) (hl : 40000 < (textS s).length) : textE s = (⟨#[]⟩, 5) := by unfold textE; rw [if_neg (by rw [h]; simp), if_pos hl]
theorem textE_ok {s : Sh.Str} (h : Sh.validB s = true) (hl : ¬ 40000 < (textS s).length) : textE s = (⟨(textS s).toArray⟩, 0) := by unfold textE; rw [if_neg (by rw [h]; simp), if_neg hl]
end Tx
end Go.Proofs.YtbddchonhicpiaaDoor
