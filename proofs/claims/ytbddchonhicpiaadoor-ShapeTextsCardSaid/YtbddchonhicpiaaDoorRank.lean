/-
  Walks: shape.Rank, the reference's Pow, Power and Rank.
-/
import Derived.Test.YtbddchonhicpiaaDoorElems
import Derived.Test.YtbddchonhicpiaaDoorPow
namespace Go.Proofs.YtbddchonhicpiaaDoor
open Go.RowKit

set_option maxHeartbeats 400000 in
theorem rank_any (n : Int) (v : Value) (t : List Int) (w : World) (B : Nat) (h : Ints w B v t) :
    Calls Tryd.prog 23 #[.int .i64 n, v] w fun e w' => e = .returned (.tuple #[.int .i64 (Sh.rankE n t).1, .int .i64 (Sh.rankE n t).2]) ∧ w = w' := by
  have h' := h
  obtain ⟨A, len, c, rfl, hlen, hmax, -⟩ := h'
  subst hlen
  have hpc := Sh.powE_cases n t.length
  have hdef : Sh.rankE n t = if (Sh.powE n t.length).2 ≠ 0 then (0, (Sh.powE n t.length).2) else if Sh.inB n t = false then (0, 2) else (Sh.rankI n t, 0) := rfl
  rcases hpc with ⟨h1, h2⟩ | ⟨a, b, rfl, hb, ha1, ha2, hb2, hp, hok⟩
  · rw [if_pos h1] at hdef
    generalize hpe : Sh.powE n t.length = pe at *
    obtain ⟨p1, p2⟩ := pe
    simp only at h1 h2 hdef
    subst h2
    have Hpe := Lib.hid hpe; clear hpe
    have Hdef := Lib.hid hdef; clear hdef
    go_enter Tryd.func23, Tryd.ntmps23
    go_wp2_with (go_at_call 21; refine (power_any _ _ _).mono ?_; rw [Hpe.out]; rintro e w' ⟨rfl, rfl⟩)
    go_ret2
    rw [Hdef.out]
    exact ⟨rfl, rfl⟩
  · have hbt : b = t.length := by omega
    subst hbt
    rw [hok] at hdef
    have Hok := Lib.hid hok; clear hok hb
    cases hin : Sh.inB a t
    · rw [if_neg (by simp), if_pos hin] at hdef
      have Hin := Lib.hid hin; clear hin
      have Hdef := Lib.hid hdef; clear hdef
      go_enter Tryd.func23, Tryd.ntmps23
      go_wp2_with (first | (go_at_call 21; refine (power_any _ _ _).mono ?_; rw [Hok.out]; rintro e w' ⟨rfl, rfl⟩) | (go_at_call 60; refine (elements_any _ t _ _ B h).mono ?_; rw [Hin.out]; rintro e w' ⟨rfl, rfl⟩))
      go_ret2
      rw [Hdef.out]
      exact ⟨rfl, rfl⟩
    · rw [if_neg (by simp), if_neg (by simp [hin])] at hdef
      have hbd := Sh.rank_bd a t hin
      have hget := fun k => @Sh.inB_getD a t hin k
      have Hin := Lib.hid hin; clear hin
      have Hdef := Lib.hid hdef; clear hdef
      have Hbd := Lib.hid hbd; clear hbd
      have Hget := Lib.hid hget; clear hget
      have Hp := Lib.hid hp; clear hp
      go_enter Tryd.func23, Tryd.ntmps23
      go_wp2_with (first | (go_at_call 21; refine (power_any _ _ _).mono ?_; rw [Hok.out]; rintro e w' ⟨rfl, rfl⟩) | (go_at_call 60; refine (elements_any _ t _ _ B h).mono ?_; rw [Hin.out]; rintro e w' ⟨rfl, rfl⟩))
      go_loop [8, 27] (fun r i => ∃ k : Nat, k ≤ t.length ∧ i = .int .i64 k ∧ r = .int .i64 (Sh.rankI a (t.take k))) (fun _ i => t.length - (intOf i).toNat)
      case atStart => exact ⟨0, Nat.zero_le _, rfl, rfl⟩
      case round =>
        obtain ⟨k, hk, rfl, rfl⟩ := hrel
        by_cases hlt : k < t.length
        · obtain ⟨ad, rfl, hb, hc⟩ := h.at_ hlt
          have hs := Sh.rank_take_succ a t k hlt
          obtain ⟨hx0, hx1⟩ := Hget.out k hlt
          have hr := Hbd.out k
          have hrn : Sh.rankI a (t.take k) * a + t.getD k 0 < 4096 ∧ 0 ≤ Sh.rankI a (t.take k) * a ∧ Sh.rankI a (t.take k) < 4096 := by
            have h4 := Hbd.out (k + 1)
            rw [hs, Nat.min_eq_left (by omega)] at h4
            have h5 : a ^ (k + 1) ≤ 4096 := Nat.le_trans (Nat.pow_le_pow_right ha1 hlt) Hp.out
            have h6 : a ^ (min k t.length) ≤ 4096 := Nat.le_trans (Nat.pow_le_pow_right ha1 (by omega)) Hp.out
            have h7 : 0 ≤ Sh.rankI a (t.take k) * a := Int.mul_nonneg hr.1 (by omega)
            refine ⟨?_, h7, ?_⟩ <;> omega
          have hr0 := hr.1
          clear hr
          obtain ⟨hr1, hr2, hr3⟩ := hrn
          have Hs := Lib.hid hs; clear hs
          generalize t.getD k 0 = x at *
          generalize hR : Sh.rankI a (t.take k) = R at *
          have HR := Lib.hid hR; clear hR
          go_wp2
          go_round
          case rel => exact ⟨k + 1, by omega, by go_num, by rw [Hs.out]⟩
          case measure => simp [intOf]; omega
        · have hfull : t.take k = t := List.take_of_length_le (by omega)
          rw [hfull]
          clear hfull
          go_wp2
          go_ret2
          rw [Hdef.out]
          exact ⟨rfl, rfl⟩

set_option maxHeartbeats 400000 in
theorem refpow_any (n k : Nat) (w : World) (h2 : n ≤ 64) (h3 : k ≤ 1000000) :
    Calls Tryd.prog 28 #[.int .i64 n, .int .i64 k] w fun e w' => e = .returned (.int .i64 (Sh.powR n k)) ∧ w = w' := by
  go_enter Tryd.func28, Tryd.ntmps28
  go_wp2
  go_loop [5, 6] (fun p i => ∃ j : Nat, j ≤ k ∧ i = .int .i64 j ∧ p = .int .i64 (Sh.powR n j : Nat)) (fun _ i => k - (intOf i).toNat)
  case atStart => exact ⟨0, Nat.zero_le _, rfl, rfl⟩
  case round =>
    obtain ⟨j, hj, rfl, rfl⟩ := hrel
    have hbd := Sh.powR_bd n j h2
    by_cases hlt : j < k
    · by_cases hp : Sh.powR n j ≤ 4096
      · have hs := Sh.powR_succ hp
        have hm : Sh.powR n j * n ≤ 4096 * 64 := Nat.mul_le_mul hp h2
        have Hs := Lib.hid hs; clear hs
        generalize hP : Sh.powR n j = P at *
        have HP := Lib.hid hP; clear hP
        go_wp2
        go_round
        case rel => exact ⟨j + 1, by omega, by go_num, by rw [Hs.out]; push_cast; rfl⟩
        case measure => simp [intOf]; omega
      · have hs := Sh.powR_stay (n := n) (i := j) (k := k) (by omega) hj
        have Hs := Lib.hid hs; clear hs
        generalize hP : Sh.powR n j = P at *
        have HP := Lib.hid hP; clear hP
        go_wp2
        go_ret
        exact ⟨ret_int (by rw [Hs.out]), rfl⟩
    · obtain rfl : j = k := by omega
      go_wp2
      go_ret
      exact ⟨rfl, rfl⟩

set_option maxHeartbeats 400000 in
theorem refpower_any (n k : Int) (w : World) :
    Calls Tryd.prog 22 #[.int .i64 n, .int .i64 k] w fun e w' => e = .returned (.tuple #[.int .i64 (Sh.powE n k).1, .int .i64 (Sh.powE n k).2]) ∧ w = w' := by
  by_cases h : n < 1 ∨ 64 < n ∨ k < 0 ∨ 12 < k
  · rw [Sh.powE_arg h]
    by_cases h1 : n < 1
    · clear h
      go_enter Tryd.func22, Tryd.ntmps22
      go_wp2
      go_ret2
      exact ⟨rfl, rfl⟩
    · by_cases h2 : 64 < n
      · clear h
        go_enter Tryd.func22, Tryd.ntmps22
        go_wp2
        go_ret2
        exact ⟨rfl, rfl⟩
      · by_cases h3 : k < 0
        · clear h
          go_enter Tryd.func22, Tryd.ntmps22
          go_wp2
          go_ret2
          exact ⟨rfl, rfl⟩
        · have h5 : 12 < k := by omega
          clear h
          go_enter Tryd.func22, Tryd.ntmps22
          go_wp2
          go_ret2
          exact ⟨rfl, rfl⟩
  · obtain ⟨a, rfl⟩ := Int.eq_ofNat_of_zero_le (show 0 ≤ n by omega)
    obtain ⟨b, rfl⟩ := Int.eq_ofNat_of_zero_le (show 0 ≤ k by omega)
    have h1 : 1 ≤ a := by omega
    have h2 : a ≤ 64 := by omega
    have h3 : b ≤ 12 := by omega
    have hb := Sh.powR_bd a b h2
    obtain ⟨e1, e2⟩ := Sh.powR_eq a b h1
    clear h
    by_cases hp : a ^ b ≤ 4096
    · have hok := Sh.powE_ok h1 h2 h3 hp
      rw [← e1 hp] at hok
      have hp' : Sh.powR a b ≤ 4096 := by rw [e1 hp]; exact hp
      have Hok := Lib.hid hok; clear hok e1 e2 hp
      generalize hP : Sh.powR a b = P at *
      have HP := Lib.hid hP; clear hP
      go_enter Tryd.func22, Tryd.ntmps22
      go_wp2_with (go_at_call 28; refine (refpow_any _ _ _ h2 (by omega)).mono ?_; rw [HP.out]; rintro e w' ⟨rfl, rfl⟩)
      go_ret2
      rw [Hok.out]
      exact ⟨rfl, rfl⟩
    · have hsz := Sh.powE_size h1 h2 h3 (by omega)
      have hp' := e2 (by omega)
      have Hsz := Lib.hid hsz; clear hsz e1 e2 hp
      generalize hP : Sh.powR a b = P at *
      have HP := Lib.hid hP; clear hP
      go_enter Tryd.func22, Tryd.ntmps22
      go_wp2_with (go_at_call 28; refine (refpow_any _ _ _ h2 (by omega)).mono ?_; rw [HP.out]; rintro e w' ⟨rfl, rfl⟩)
      go_ret2
      rw [Hsz.out]
      exact ⟨rfl, rfl⟩

set_option maxHeartbeats 400000 in
theorem refrank_any (n : Int) (v : Value) (t : List Int) (w : World) (B : Nat) (h : Ints w B v t) :
    Calls Tryd.prog 24 #[.int .i64 n, v] w fun e w' => e = .returned (.tuple #[.int .i64 (Sh.rankE n t).1, .int .i64 (Sh.rankE n t).2]) ∧ w = w' := by
  have h' := h
  obtain ⟨A, len, c, rfl, hlen, hmax, -⟩ := h'
  subst hlen
  have hpc := Sh.powE_cases n t.length
  have hdef : Sh.rankE n t = if (Sh.powE n t.length).2 ≠ 0 then (0, (Sh.powE n t.length).2) else if Sh.inB n t = false then (0, 2) else (Sh.rankI n t, 0) := rfl
  rcases hpc with ⟨h1, h2⟩ | ⟨a, b, rfl, hb, ha1, ha2, hb2, hp, hok⟩
  · rw [if_pos h1] at hdef
    generalize hpe : Sh.powE n t.length = pe at *
    obtain ⟨p1, p2⟩ := pe
    simp only at h1 h2 hdef
    subst h2
    have Hpe := Lib.hid hpe; clear hpe
    have Hdef := Lib.hid hdef; clear hdef
    go_enter Tryd.func24, Tryd.ntmps24
    go_wp2_with (go_at_call 22; refine (refpower_any _ _ _).mono ?_; rw [Hpe.out]; rintro e w' ⟨rfl, rfl⟩)
    go_ret2
    rw [Hdef.out]
    exact ⟨rfl, rfl⟩
  · have hbt : b = t.length := by omega
    subst hbt
    rw [hok] at hdef
    have Hok := Lib.hid hok; clear hok hb
    cases hin : Sh.inB a t
    · rw [if_neg (by simp), if_pos hin] at hdef
      have Hin := Lib.hid hin; clear hin
      have Hdef := Lib.hid hdef; clear hdef
      go_enter Tryd.func24, Tryd.ntmps24
      go_wp2_with (first | (go_at_call 22; refine (refpower_any _ _ _).mono ?_; rw [Hok.out]; rintro e w' ⟨rfl, rfl⟩) | (go_at_call 33; refine (in_any _ t _ _ B h).mono ?_; rw [Hin.out]; rintro e w' ⟨rfl, rfl⟩))
      go_ret2
      rw [Hdef.out]
      exact ⟨rfl, rfl⟩
    · rw [if_neg (by simp), if_neg (by simp [hin])] at hdef
      have hbd := Sh.rank_bd a t hin
      have hget := fun k => @Sh.inB_getD a t hin k
      have Hin := Lib.hid hin; clear hin
      have Hdef := Lib.hid hdef; clear hdef
      have Hbd := Lib.hid hbd; clear hbd
      have Hget := Lib.hid hget; clear hget
      have Hp := Lib.hid hp; clear hp
      go_enter Tryd.func24, Tryd.ntmps24
      go_wp2_with (first | (go_at_call 22; refine (refpower_any _ _ _).mono ?_; rw [Hok.out]; rintro e w' ⟨rfl, rfl⟩) | (go_at_call 33; refine (in_any _ t _ _ B h).mono ?_; rw [Hin.out]; rintro e w' ⟨rfl, rfl⟩))
      go_loop [8, 9] (fun r i => ∃ k : Nat, k ≤ t.length ∧ i = .int .i64 k ∧ r = .int .i64 (Sh.rankI a (t.take k))) (fun _ i => t.length - (intOf i).toNat)
      case atStart => exact ⟨0, Nat.zero_le _, rfl, rfl⟩
      case round =>
        obtain ⟨k, hk, rfl, rfl⟩ := hrel
        by_cases hlt : k < t.length
        · obtain ⟨ad, rfl, hb, hc⟩ := h.at_ hlt
          have hs := Sh.rank_take_succ a t k hlt
          obtain ⟨hx0, hx1⟩ := Hget.out k hlt
          have hr := Hbd.out k
          have hrn : Sh.rankI a (t.take k) * a + t.getD k 0 < 4096 ∧ 0 ≤ Sh.rankI a (t.take k) * a ∧ Sh.rankI a (t.take k) < 4096 := by
            have h4 := Hbd.out (k + 1)
            rw [hs, Nat.min_eq_left (by omega)] at h4
            have h5 : a ^ (k + 1) ≤ 4096 := Nat.le_trans (Nat.pow_le_pow_right ha1 hlt) Hp.out
            have h6 : a ^ (min k t.length) ≤ 4096 := Nat.le_trans (Nat.pow_le_pow_right ha1 (by omega)) Hp.out
            have h7 : 0 ≤ Sh.rankI a (t.take k) * a := Int.mul_nonneg hr.1 (by omega)
            refine ⟨?_, h7, ?_⟩ <;> omega
          have hr0 := hr.1
          clear hr
          obtain ⟨hr1, hr2, hr3⟩ := hrn
          have Hs := Lib.hid hs; clear hs
          generalize t.getD k 0 = x at *
          generalize hR : Sh.rankI a (t.take k) = R at *
          have HR := Lib.hid hR; clear hR
          go_wp2
          go_round
          case rel => exact ⟨k + 1, by omega, by go_num, by rw [Hs.out]⟩
          case measure => simp [intOf]; omega
        · have hfull : t.take k = t := List.take_of_length_le (by omega)
          rw [hfull]
          clear hfull
          go_wp2
          go_ret2
          rw [Hdef.out]
          exact ⟨rfl, rfl⟩

end Go.Proofs.YtbddchonhicpiaaDoor
