/-
  Plain mathematics: Rank keeps the order of tuples, and Tuple undoes it.
-/
import Derived.Test.YtbddchonhicpiaaDoorSpec
namespace Go.Proofs.YtbddchonhicpiaaDoor.Sh

theorem rank_from (n : Int) : ∀ (t : List Int) (r : Int), t.foldl (fun r x => r * n + x) r = r * n ^ t.length + rankI n t
  | [], r => by simp [rankI]
  | x :: t, r => by
    have h1 := rank_from n t (r * n + x)
    have h2 := rank_from n t (0 * n + x)
    unfold rankI
    rw [List.foldl_cons, List.foldl_cons, h1, h2, List.length_cons, Int.pow_succ]
    rw [Int.add_mul, Int.mul_assoc, Int.mul_comm n]
    rw [Int.zero_mul, Int.zero_add, Int.add_assoc]
theorem rank_cons (n x : Int) (t : List Int) : rankI n (x :: t) = x * n ^ t.length + rankI n t := by
  have h := rank_from n t (0 * n + x)
  rw [Int.zero_mul, Int.zero_add] at h
  unfold rankI
  rw [List.foldl_cons, Int.zero_mul, Int.zero_add, h]
  rfl
theorem rank_full (n : Nat) (t : List Int) (hi : inB n t = true) : 0 ≤ rankI n t ∧ rankI n t < (n : Int) ^ t.length := by
  have h := rank_bd n t hi t.length
  rw [List.take_length, Nat.min_self] at h
  push_cast at h
  exact h

theorem rank_order (n : Nat) : ∀ (a b : List Int), a.length = b.length → inB n a = true → inB n b = true → (lessB a b = true → rankI n a < rankI n b) ∧ (lessB b a = true → rankI n b < rankI n a) ∧ (lessB a b = false → lessB b a = false → a = b)
  | [], [], _, _, _ => by simp [lessB]
  | [], _ :: _, h, _, _ => by simp at h
  | _ :: _, [], h, _, _ => by simp at h
  | x :: xs, y :: ys, h, ha, hb => by
    have hl : xs.length = ys.length := by simpa using h
    have ha' : inB n xs = true := by unfold inB at ha ⊢; simp at ha ⊢; exact ha.2
    have hb' : inB n ys = true := by unfold inB at hb ⊢; simp at hb ⊢; exact hb.2
    obtain ⟨i1, i2, i3⟩ := rank_order n xs ys hl ha' hb'
    have h1 := rank_full n xs ha'
    have h2 := rank_full n ys hb'
    rw [rank_cons, rank_cons, hl]
    rw [hl] at h1
    generalize hP : (n : Int) ^ ys.length = P at *
    have hP0 : 0 ≤ P := by omega
    unfold lessB
    by_cases hxy : x = y
    · subst hxy
      rw [if_pos rfl, if_pos rfl]
      exact ⟨fun hh => by have := i1 hh; omega, fun hh => by have := i2 hh; omega, fun p q => by rw [i3 p q]⟩
    · rw [if_neg hxy, if_neg (fun e => hxy e.symm)]
      refine ⟨fun hh => ?_, fun hh => ?_, fun p q => ?_⟩
      · have hlt : x < y := of_decide_eq_true hh
        have : (x + 1) * P ≤ y * P := Int.mul_le_mul_of_nonneg_right (by omega) hP0
        rw [Int.add_mul] at this
        omega
      · have hlt : y < x := of_decide_eq_true hh
        have : (y + 1) * P ≤ x * P := Int.mul_le_mul_of_nonneg_right (by omega) hP0
        rw [Int.add_mul] at this
        omega
      · have := of_decide_eq_false p
        have := of_decide_eq_false q
        omega

theorem less_rank {n : Nat} {a b : List Int} (hl : a.length = b.length) (ha : inB n a = true) (hb : inB n b = true) : decide (rankI n a < rankI n b) = lessB a b := by
  obtain ⟨h1, h2, h3⟩ := rank_order n a b hl ha hb
  cases hab : lessB a b
  · cases hba : lessB b a
    · rw [h3 hab hba]; simp
    · have := h2 hba; exact decide_eq_false (by omega)
  · exact decide_eq_true (h1 hab)
theorem eq_rank {n : Nat} {a b : List Int} (hl : a.length = b.length) (ha : inB n a = true) (hb : inB n b = true) : decide (rankI n a = rankI n b) = eqB a b := by
  obtain ⟨h1, h2, h3⟩ := rank_order n a b hl ha hb
  by_cases he : a = b
  · subst he; rw [(eqB_iff a a).2 rfl]; simp
  · have hf : eqB a b = false := by rw [Bool.eq_false_iff]; intro h; exact he ((eqB_iff a b).1 h)
    rw [hf]
    refine decide_eq_false fun hr => ?_
    cases hab : lessB a b
    · cases hba : lessB b a
      · exact he (h3 hab hba)
      · have := h2 hba; omega
    · have := h1 hab; omega

theorem tup_rank (n : Nat) : ∀ (k : Nat) (t : List Int), t.length = k → inB n t = true → tupN n k (rankI n t).toNat = t
  | 0, t, h, _ => by rw [List.eq_nil_of_length_eq_zero h]; rfl
  | k + 1, t, h, hi => by
    have hne : t ≠ [] := by rintro rfl; simp at h
    have ht : t = t.take k ++ [t.getD k 0] := by
      conv => lhs; rw [← List.take_append_drop k t]
      congr 1
      rw [List.drop_eq_getElem_cons (by omega), List.drop_of_length_le (by omega)]
      simp [List.getD_eq_getElem?_getD, List.getElem?_eq_getElem (show k < t.length by omega)]
    have hx := inB_getD hi (show k < t.length by omega)
    have hin : inB n (t.take k) = true := by
      unfold inB at hi ⊢
      rw [List.all_eq_true] at hi ⊢
      exact fun x hxm => hi x (List.mem_of_mem_take hxm)
    have hr := rank_take_succ n t k (by omega)
    rw [List.take_of_length_le (by omega)] at hr
    have hb := rank_full n (t.take k) hin
    have ih := tup_rank n k (t.take k) (by simp; omega) hin
    obtain ⟨q, hq⟩ := Int.eq_ofNat_of_zero_le hb.1
    obtain ⟨y, hy⟩ := Int.eq_ofNat_of_zero_le hx.1
    rw [hq] at hr ih
    have hyn : y < n := by omega
    have he : (rankI n t).toNat = q * n + y := by
      rw [hr, hy]
      have : (q : Int) * n + y = ((q * n + y : Nat) : Int) := by push_cast; rfl
      rw [this]; rfl
    unfold tupN
    rw [he]
    have hd : (q * n + y) / n = q := by
      rw [Nat.mul_comm, Nat.mul_add_div (by omega), Nat.div_eq_of_lt hyn, Nat.add_zero]
    have hm : (q * n + y) % n = y := by
      rw [Nat.mul_comm, Nat.mul_add_mod, Nat.mod_eq_of_lt hyn]
    rw [hd, hm]
    have : tupN n k q = t.take k := by simpa using ih
    rw [this]
    conv => rhs; rw [ht, hy]

/-- The three answers, at a power that fits. -/
theorem fits {n k : Nat} (h1 : 1 ≤ n) (h2 : n ≤ 64) (h3 : k ≤ 12) (h : powR n k ≤ 4096) : n ^ k ≤ 4096 := by
  rcases Nat.lt_or_ge 4096 (n ^ k) with hh | hh
  · have := (powR_eq n k h1).2 hh; omega
  · exact hh
theorem rankE_ok {n : Nat} {t : List Int} (h1 : 1 ≤ n) (h2 : n ≤ 64) (h3 : t.length ≤ 12) (h : powR n t.length ≤ 4096) (hi : inB n t = true) : rankE n t = (rankI n t, 0) := by
  unfold rankE
  rw [powE_ok h1 h2 h3 (fits h1 h2 h3 h), if_neg (by simp), if_neg (by rw [hi]; simp)]
theorem tupE_ok {n : Nat} {t : List Int} (h1 : 1 ≤ n) (h2 : n ≤ 64) (h3 : t.length ≤ 12) (h : powR n t.length ≤ 4096) (hi : inB n t = true) : tupE n t.length (rankI n t) = (t, 0) := by
  have hf := fits h1 h2 h3 h
  have hb := rank_full n t hi
  unfold tupE
  rw [powE_ok h1 h2 h3 hf, if_neg (by simp), if_neg (by push_cast; omega)]
  rw [show ((n : Int)).toNat = n by simp, show ((t.length : Int)).toNat = t.length by simp, tup_rank n _ t rfl hi]

end Go.Proofs.YtbddchonhicpiaaDoor.Sh
