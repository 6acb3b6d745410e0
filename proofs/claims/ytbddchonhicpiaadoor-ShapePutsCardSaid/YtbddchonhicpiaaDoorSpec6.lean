/-
  Plain mathematics: what Has answers behind Put.
-/
import Derived.Test.YtbddchonhicpiaaDoorSpec5
namespace Go.Proofs.YtbddchonhicpiaaDoor.Sh

theorem relFor_ok {size : Int} {rs : List Rel} {nm : List UInt8} {k : Int} (h : (relForE ⟨size, rs⟩ nm k).2 = 0) : validB ⟨size, rs⟩ = true ∧ ∃ (j : Nat) (r : Rel), relForE ⟨size, rs⟩ nm k = ((j : Int), 0) ∧ findI nm k rs = j ∧ rs[j]? = some r ∧ r.name.toList = nm ∧ r.arity = k := by
  unfold relForE at h ⊢
  by_cases h1 : validB ⟨size, rs⟩ = false
  · rw [if_pos h1] at h; exact absurd h (by decide)
  · rw [if_neg h1] at h ⊢
    by_cases h2 : findI nm k rs < 0
    · simp only [if_pos h2] at h; exact absurd h (by decide)
    · obtain ⟨j, r, e1, e2, e3, e4⟩ := findI_get h2
      refine ⟨by simpa using h1, j, r, ?_, e1, e2, e3, e4⟩
      simp only [e1]
      rw [if_neg (by omega)]
theorem relFor_mk {size : Int} {rs : List Rel} {nm : List UInt8} {k : Int} {j : Nat} (hv : validB ⟨size, rs⟩ = true) (hf : findI nm k rs = j) : relForE ⟨size, rs⟩ nm k = ((j : Int), 0) := by
  unfold relForE
  rw [if_neg (by rw [hv]; simp)]
  simp only [hf]
  rw [if_neg (by omega)]
theorem hasE_mk {size : Int} {rs : List Rel} {nm : List UInt8} {t : List Int} {j : Nat} {r : Rel} (hv : validB ⟨size, rs⟩ = true) (hf : findI nm t.length rs = j) (hr : rs[j]? = some r) : hasE ⟨size, rs⟩ nm t = (decide (t ∈ r.tuples), 0) := by
  unfold hasE
  rw [relFor_mk hv hf]
  simp only [Int.toNat_natCast, hr]
  rw [if_neg (by simp), (relB_rising (validB_rel hv hr)).found]
/-- A tuple of a relation is found. -/
theorem hasE_in {size : Int} {rs : List Rel} (hv : validB ⟨size, rs⟩ = true) {j : Nat} {r : Rel} (hr : rs[j]? = some r) {x : List Int} (hx : x ∈ r.tuples) : hasE ⟨size, rs⟩ r.name.toList x = (true, 0) := by
  have hl := relB_len (validB_rel hv hr) hx
  have hf := find_name (ar := (x.length : Int)) (valid_names hv) hr rfl
  rw [if_pos hl.symm] at hf
  rw [hasE_mk hv hf hr, decide_eq_true hx]
theorem putR_get {rs : List Rel} {k : Nat} {r : Rel} (hr : rs[k]? = some r) (t : List Int) (is : Bool) : (putR rs k t is)[k]? = some (putRel r t is) := by
  obtain ⟨hk, rfl⟩ := List.getElem?_eq_some_iff.1 hr
  unfold putR
  rw [getD_get _ _ _ hk, List.getElem?_set_self hk]
theorem putR_other {rs : List Rel} {k j : Nat} (h : j ≠ k) (t : List Int) (is : Bool) : (putR rs k t is)[j]? = rs[j]? := by
  unfold putR
  rw [List.getElem?_set_ne (fun e => h e.symm)]
theorem put_long {size : Int} {rs : List Rel} (hv : validB ⟨size, rs⟩ = true) {k : Nat} {r : Rel} (hr : rs[k]? = some r) {t : List Int} (ht : (t.length : Int) = r.arity) : Long t.length r.tuples := fun x hx => by
  have := relB_len (validB_rel hv hr) hx
  omega
/-- Has behind Put. -/
theorem has_put {size : Int} {rs : List Rel} {nm : List UInt8} {t : List Int} {k : Nat} {r : Rel} (hv : validB ⟨size, rs⟩ = true) (hr : rs[k]? = some r) (hn : r.name.toList = nm) (ht : (t.length : Int) = r.arity) (hin : inB size t = true) (is : Bool) :
    hasE ⟨size, putR rs k t is⟩ nm t = (is, 0) := by
  have hv' := put_valid hv hr ht hin is
  have hr' := putR_get hr t is
  have hf := find_name (ar := (t.length : Int)) (valid_names hv') hr' (show (putRel r t is).name.toList = nm from hn)
  rw [if_pos (show (putRel r t is).arity = t.length from ht.symm)] at hf
  rw [hasE_mk hv' hf hr']
  obtain ⟨-, -, hm⟩ := putT_ok (relB_rising (validB_rel hv hr)) (put_long hv hr ht) rfl is
  have : (t ∈ (putRel r t is).tuples) ↔ is = true := by
    show t ∈ putT r.tuples t is ↔ _
    rw [hm]
    constructor
    · rintro (⟨-, h⟩ | ⟨h, -⟩)
      · exact absurd rfl h
      · exact h
    · intro h; exact .inr ⟨h, rfl⟩
  cases is with
  | true => rw [decide_eq_true (this.2 rfl)]
  | false => rw [decide_eq_false (fun h => by have := this.1 h; cases this)]
/-- All but one tuple stay. -/
def ExceptOne (size : Int) (ra rb : List Rel) (nm : List UInt8) (t : List Int) : Prop := ∀ (j : Nat) (r : Rel) (x : List Int), ra[j]? = some r → x ∈ r.tuples → (r.name.toList = nm ∧ x = t) ∨ hasE ⟨size, rb⟩ r.name.toList x = (true, 0)
theorem except_put {size : Int} {rs : List Rel} {nm : List UInt8} {t : List Int} {k : Nat} {r : Rel} (hv : validB ⟨size, rs⟩ = true) (hr : rs[k]? = some r) (hn : r.name.toList = nm) (ht : (t.length : Int) = r.arity) (hin : inB size t = true) (is : Bool) :
    ExceptOne size rs (putR rs k t is) nm t ∧ ExceptOne size (putR rs k t is) rs nm t := by
  have hv' := put_valid hv hr ht hin is
  obtain ⟨-, -, hm⟩ := putT_ok (relB_rising (validB_rel hv hr)) (put_long hv hr ht) rfl is
  constructor
  · intro j r1 x h1 h2
    by_cases e : j = k
    · subst e
      obtain rfl : r1 = r := Option.some.inj (h1.symm.trans hr)
      by_cases ex : x = t
      · exact .inl ⟨hn, ex⟩
      · exact .inr (hasE_in hv' (putR_get hr t is) (show x ∈ putT r1.tuples t is from (hm x).2 (.inl ⟨h2, ex⟩)))
    · exact .inr (hasE_in hv' ((putR_other e t is).trans h1) h2)
  · intro j r1 x h1 h2
    by_cases e : j = k
    · subst e
      obtain rfl : r1 = putRel r t is := Option.some.inj (h1.symm.trans (putR_get hr t is))
      rcases (hm x).1 h2 with h | h
      · exact .inr (hasE_in hv hr h.1)
      · exact .inl ⟨hn, h.2⟩
    · exact .inr (hasE_in hv ((putR_other e t is).symm.trans h1) h2)

end Go.Proofs.YtbddchonhicpiaaDoor.Sh
