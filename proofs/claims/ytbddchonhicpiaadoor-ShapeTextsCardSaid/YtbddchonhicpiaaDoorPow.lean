/-
  Walks: shape.Power.
-/
import Derived.Test.YtbddchonhicpiaaDoorRows
import Derived.Test.YtbddchonhicpiaaDoorSpec
import Derived.WalkKit
import Derived.WalkSpells
import Derived.WalkLawsBesides
import Derived.Lib.Hide
import Derived.Deep.QuietTactic
import Derived.BigQuiet
namespace Go.Proofs.YtbddchonhicpiaaDoor
open Go.RowKit

set_option maxHeartbeats 400000 in
theorem power_arg (n k : Int) (w : World) (h : n < 1 ∨ 64 < n ∨ k < 0 ∨ 12 < k) :
    Calls Tryd.prog 21 #[.int .i64 n, .int .i64 k] w fun e w' => e = .returned (.tuple #[.int .i64 0, .int .i64 2]) ∧ w = w' := by
  have h4 : ¬ (n ≥ 1 ∧ n ≤ 64 ∧ k ≥ 0 ∧ k ≤ 12) := by omega
  clear h
  by_cases h1 : n < 1
  · go_enter Tryd.func21, Tryd.ntmps21
    go_wp2
    go_ret2
    exact ⟨rfl, rfl⟩
  · by_cases h2 : 64 < n
    · go_enter Tryd.func21, Tryd.ntmps21
      go_wp2
      go_ret2
      exact ⟨rfl, rfl⟩
    · by_cases h3 : k < 0
      · go_enter Tryd.func21, Tryd.ntmps21
        go_wp2
        go_ret2
        exact ⟨rfl, rfl⟩
      · have h5 : 12 < k := by omega
        go_enter Tryd.func21, Tryd.ntmps21
        go_wp2
        go_ret2
        exact ⟨rfl, rfl⟩

set_option maxHeartbeats 400000 in
theorem power_in (n k : Nat) (w : World) (h1 : 1 ≤ n) (h2 : n ≤ 64) (h3 : k ≤ 12) :
    Calls Tryd.prog 21 #[.int .i64 n, .int .i64 k] w fun e w' => e = .returned (.tuple #[.int .i64 (Sh.powE n k).1, .int .i64 (Sh.powE n k).2]) ∧ w = w' := by
  go_enter Tryd.func21, Tryd.ntmps21
  go_wp2
  go_loop [6, 22] (fun p i => ∃ j : Nat, j ≤ k ∧ i = .int .i64 j ∧ p = .int .i64 ((n ^ j : Nat) : Int) ∧ n ^ j ≤ 4096) (fun _ i => k - (intOf i).toNat)
  case atStart => exact ⟨0, Nat.zero_le _, rfl, rfl, by simp⟩
  case round =>
    obtain ⟨j, hj, rfl, rfl, hp⟩ := hrel
    by_cases hlt : j < k
    · have hs : n ^ (j + 1) = n ^ j * n := Nat.pow_succ ..
      have hb : n ^ j * n ≤ 4096 * 64 := Nat.mul_le_mul hp h2
      have hover := @Sh.powE_size n k h1 h2 h3
      have hpo := @Sh.pow_over n k (j + 1) h1 hlt
      have hQ : ∃ Q, n ^ (j + 1) = Q := ⟨_, rfl⟩
      obtain ⟨Q, hQ⟩ := hQ
      rw [hQ] at hs hpo
      have HQ := Lib.hid hQ; clear hQ
      generalize n ^ j = P at *
      have Hs := Lib.hid hs; clear hs
      have Ho := Lib.hid hover; clear hover
      have Hp := Lib.hid hpo; clear hpo
      by_cases hbig : 4096 < P * n
      · go_wp2
        go_ret2
        rw [Ho.out (Hp.out (by rw [Hs.out]; exact hbig))]
        exact ⟨rfl, rfl⟩
      · go_wp2
        go_round
        case rel => exact ⟨j + 1, by omega, by go_num, by rw [HQ.out, Hs.out]; push_cast; rfl, by rw [HQ.out, Hs.out]; omega⟩
        case measure => simp [intOf]; omega
    · obtain rfl : j = k := by omega
      have hok := Sh.powE_ok h1 h2 h3 hp
      have Hok := Lib.hid hok; clear hok
      go_wp2
      go_ret2
      rw [Hok.out]
      exact ⟨rfl, rfl⟩

theorem power_any (n k : Int) (w : World) :
    Calls Tryd.prog 21 #[.int .i64 n, .int .i64 k] w fun e w' => e = .returned (.tuple #[.int .i64 (Sh.powE n k).1, .int .i64 (Sh.powE n k).2]) ∧ w = w' := by
  by_cases h : n < 1 ∨ 64 < n ∨ k < 0 ∨ 12 < k
  · rw [Sh.powE_arg h]; exact power_arg n k w h
  · obtain ⟨a, rfl⟩ := Int.eq_ofNat_of_zero_le (show 0 ≤ n by omega)
    obtain ⟨b, rfl⟩ := Int.eq_ofNat_of_zero_le (show 0 ≤ k by omega)
    exact power_in a b w (by omega) (by omega) (by omega)

end Go.Proofs.YtbddchonhicpiaaDoor
