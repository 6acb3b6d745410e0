/-
  Texts joined: Fkindof, Fkl, Fkids.
-/
import Derived.Test.YtmnpelhcgobfaaaDoorJi6
import Derived.Maps.AppendAt

/-
  Walks: kindOf: the kind of the formulas that begin with a word; the words are a variable of the package.
-/
namespace Go.Proofs.YtmnpelhcgobfaaaDoor
open Go.RowKit

abbrev wordsB : List ByteArray := [⟨#[]⟩, ⟨#[]⟩, ⟨#[]⟩, ⟨#[110, 111, 116]⟩, ⟨#[97, 110, 100]⟩, ⟨#[111, 114]⟩, ⟨#[115, 111, 109, 101]⟩, ⟨#[97, 108, 108]⟩, ⟨#[108, 102, 112]⟩, ⟨#[112, 102, 112]⟩, ⟨#[116, 99]⟩, ⟨#[101, 120, 105, 115, 116, 115]⟩]
/-- The package's words lie where the program looks for them. -/
def Words (w : World) : Prop := ∀ (j : Nat) (s : ByteArray), wordsB[j]? = some s → w.cell? ⟨0, j, none⟩ = some (.string s)
theorem Words.keep {w w' : World} (h : Words w) (hk : w'.heap[0]? = w.heap[0]?) : Words w' := fun j s hj => (World.cell?_of_block hk).trans (h j s hj)

abbrev wordsV : Value := .agg #[.string ⟨#[]⟩, .string ⟨#[]⟩, .string ⟨#[]⟩, .string ⟨#[110, 111, 116]⟩, .string ⟨#[97, 110, 100]⟩, .string ⟨#[111, 114]⟩, .string ⟨#[115, 111, 109, 101]⟩, .string ⟨#[97, 108, 108]⟩, .string ⟨#[108, 102, 112]⟩, .string ⟨#[112, 102, 112]⟩, .string ⟨#[116, 99]⟩, .string ⟨#[101, 120, 105, 115, 116, 115]⟩]
theorem ixWords0 (W : World) : (Instr.index 94 wordsV (.int .i64 0)).run Tryd.prog W = .ok (.string ⟨#[]⟩) W := by kernel_rfl
theorem ixWords1 (W : World) : (Instr.index 94 wordsV (.int .i64 1)).run Tryd.prog W = .ok (.string ⟨#[]⟩) W := by kernel_rfl
theorem ixWords2 (W : World) : (Instr.index 94 wordsV (.int .i64 2)).run Tryd.prog W = .ok (.string ⟨#[]⟩) W := by kernel_rfl
theorem ixWords3 (W : World) : (Instr.index 94 wordsV (.int .i64 3)).run Tryd.prog W = .ok (.string ⟨#[110, 111, 116]⟩) W := by kernel_rfl
theorem ixWords4 (W : World) : (Instr.index 94 wordsV (.int .i64 4)).run Tryd.prog W = .ok (.string ⟨#[97, 110, 100]⟩) W := by kernel_rfl
theorem ixWords5 (W : World) : (Instr.index 94 wordsV (.int .i64 5)).run Tryd.prog W = .ok (.string ⟨#[111, 114]⟩) W := by kernel_rfl
theorem ixWords6 (W : World) : (Instr.index 94 wordsV (.int .i64 6)).run Tryd.prog W = .ok (.string ⟨#[115, 111, 109, 101]⟩) W := by kernel_rfl
theorem ixWords7 (W : World) : (Instr.index 94 wordsV (.int .i64 7)).run Tryd.prog W = .ok (.string ⟨#[97, 108, 108]⟩) W := by kernel_rfl
theorem ixWords8 (W : World) : (Instr.index 94 wordsV (.int .i64 8)).run Tryd.prog W = .ok (.string ⟨#[108, 102, 112]⟩) W := by kernel_rfl
theorem ixWords9 (W : World) : (Instr.index 94 wordsV (.int .i64 9)).run Tryd.prog W = .ok (.string ⟨#[112, 102, 112]⟩) W := by kernel_rfl
theorem ixWords10 (W : World) : (Instr.index 94 wordsV (.int .i64 10)).run Tryd.prog W = .ok (.string ⟨#[116, 99]⟩) W := by kernel_rfl
theorem ixWords11 (W : World) : (Instr.index 94 wordsV (.int .i64 11)).run Tryd.prog W = .ok (.string ⟨#[101, 120, 105, 115, 116, 115]⟩) W := by kernel_rfl

set_option maxRecDepth 100000 in
set_option maxHeartbeats 1000000 in
theorem kindOf_3 (w : World) (hw : Words w) :
    Calls Tryd.prog 32 #[.string ⟨#[110, 111, 116]⟩] w fun e w' => e = .returned (.int .i64 3) ∧ w = w' := by
  have c0 := hw 0 _ rfl
  have c1 := hw 1 _ rfl
  have c2 := hw 2 _ rfl
  have c3 := hw 3 _ rfl
  have c4 := hw 4 _ rfl
  have c5 := hw 5 _ rfl
  have c6 := hw 6 _ rfl
  have c7 := hw 7 _ rfl
  have c8 := hw 8 _ rfl
  have c9 := hw 9 _ rfl
  have c10 := hw 10 _ rfl
  have c11 := hw 11 _ rfl
  have d0 := ixWords0
  have d1 := ixWords1
  have d2 := ixWords2
  have d3 := ixWords3
  have d4 := ixWords4
  have d5 := ixWords5
  have d6 := ixWords6
  have d7 := ixWords7
  have d8 := ixWords8
  have d9 := ixWords9
  have d10 := ixWords10
  have d11 := ixWords11
  clear hw
  go_enter Tryd.func32, Tryd.ntmps32
  go_wp2
  go_loop [6] (fun i => ∃ k : Nat, k ≤ 3 ∧ i = .int .i64 k) (fun i => 12 - (intOf i).toNat)
  case atStart => exact ⟨0, Nat.zero_le _, rfl⟩
  case round =>
    obtain ⟨k, hk, rfl⟩ := hrel
    rcases (show k = 0 ∨ k = 1 ∨ k = 2 ∨ k = 3 by omega) with rfl | rfl | rfl | rfl
    · go_wp2
      go_round
      case rel => exact ⟨1, by omega, rfl⟩
      case measure => simp [intOf]
    · go_wp2
      go_round
      case rel => exact ⟨2, by omega, rfl⟩
      case measure => simp [intOf]
    · go_wp2
      go_round
      case rel => exact ⟨3, by omega, rfl⟩
      case measure => simp [intOf]
    · go_wp2
      go_ret
      exact ⟨rfl, rfl⟩

set_option maxRecDepth 100000 in
set_option maxHeartbeats 1000000 in
theorem kindOf_4 (w : World) (hw : Words w) :
    Calls Tryd.prog 32 #[.string ⟨#[97, 110, 100]⟩] w fun e w' => e = .returned (.int .i64 4) ∧ w = w' := by
  have c0 := hw 0 _ rfl
  have c1 := hw 1 _ rfl
  have c2 := hw 2 _ rfl
  have c3 := hw 3 _ rfl
  have c4 := hw 4 _ rfl
  have c5 := hw 5 _ rfl
  have c6 := hw 6 _ rfl
  have c7 := hw 7 _ rfl
  have c8 := hw 8 _ rfl
  have c9 := hw 9 _ rfl
  have c10 := hw 10 _ rfl
  have c11 := hw 11 _ rfl
  have d0 := ixWords0
  have d1 := ixWords1
  have d2 := ixWords2
  have d3 := ixWords3
  have d4 := ixWords4
  have d5 := ixWords5
  have d6 := ixWords6
  have d7 := ixWords7
  have d8 := ixWords8
  have d9 := ixWords9
  have d10 := ixWords10
  have d11 := ixWords11
  clear hw
  go_enter Tryd.func32, Tryd.ntmps32
  go_wp2
  go_loop [6] (fun i => ∃ k : Nat, k ≤ 4 ∧ i = .int .i64 k) (fun i => 12 - (intOf i).toNat)
  case atStart => exact ⟨0, Nat.zero_le _, rfl⟩
  case round =>
    obtain ⟨k, hk, rfl⟩ := hrel
    rcases (show k = 0 ∨ k = 1 ∨ k = 2 ∨ k = 3 ∨ k = 4 by omega) with rfl | rfl | rfl | rfl | rfl
    · go_wp2
      go_round
      case rel => exact ⟨1, by omega, rfl⟩
      case measure => simp [intOf]
    · go_wp2
      go_round
      case rel => exact ⟨2, by omega, rfl⟩
      case measure => simp [intOf]
    · go_wp2
      go_round
      case rel => exact ⟨3, by omega, rfl⟩
      case measure => simp [intOf]
    · go_wp2
      go_round
      case rel => exact ⟨4, by omega, rfl⟩
      case measure => simp [intOf]
    · go_wp2
      go_ret
      exact ⟨rfl, rfl⟩

set_option maxRecDepth 100000 in
set_option maxHeartbeats 1000000 in
theorem kindOf_5 (w : World) (hw : Words w) :
    Calls Tryd.prog 32 #[.string ⟨#[111, 114]⟩] w fun e w' => e = .returned (.int .i64 5) ∧ w = w' := by
  have c0 := hw 0 _ rfl
  have c1 := hw 1 _ rfl
  have c2 := hw 2 _ rfl
  have c3 := hw 3 _ rfl
  have c4 := hw 4 _ rfl
  have c5 := hw 5 _ rfl
  have c6 := hw 6 _ rfl
  have c7 := hw 7 _ rfl
  have c8 := hw 8 _ rfl
  have c9 := hw 9 _ rfl
  have c10 := hw 10 _ rfl
  have c11 := hw 11 _ rfl
  have d0 := ixWords0
  have d1 := ixWords1
  have d2 := ixWords2
  have d3 := ixWords3
  have d4 := ixWords4
  have d5 := ixWords5
  have d6 := ixWords6
  have d7 := ixWords7
  have d8 := ixWords8
  have d9 := ixWords9
  have d10 := ixWords10
  have d11 := ixWords11
  clear hw
  go_enter Tryd.func32, Tryd.ntmps32
  go_wp2
  go_loop [6] (fun i => ∃ k : Nat, k ≤ 5 ∧ i = .int .i64 k) (fun i => 12 - (intOf i).toNat)
  case atStart => exact ⟨0, Nat.zero_le _, rfl⟩
  case round =>
    obtain ⟨k, hk, rfl⟩ := hrel
    rcases (show k = 0 ∨ k = 1 ∨ k = 2 ∨ k = 3 ∨ k = 4 ∨ k = 5 by omega) with rfl | rfl | rfl | rfl | rfl | rfl
    · go_wp2
      go_round
      case rel => exact ⟨1, by omega, rfl⟩
      case measure => simp [intOf]
    · go_wp2
      go_round
      case rel => exact ⟨2, by omega, rfl⟩
      case measure => simp [intOf]
    · go_wp2
      go_round
      case rel => exact ⟨3, by omega, rfl⟩
      case measure => simp [intOf]
    · go_wp2
      go_round
      case rel => exact ⟨4, by omega, rfl⟩
      case measure => simp [intOf]
    · go_wp2
      go_round
      case rel => exact ⟨5, by omega, rfl⟩
      case measure => simp [intOf]
    · go_wp2
      go_ret
      exact ⟨rfl, rfl⟩

set_option maxRecDepth 100000 in
set_option maxHeartbeats 1000000 in
theorem kindOf_6 (w : World) (hw : Words w) :
    Calls Tryd.prog 32 #[.string ⟨#[115, 111, 109, 101]⟩] w fun e w' => e = .returned (.int .i64 6) ∧ w = w' := by
  have c0 := hw 0 _ rfl
  have c1 := hw 1 _ rfl
  have c2 := hw 2 _ rfl
  have c3 := hw 3 _ rfl
  have c4 := hw 4 _ rfl
  have c5 := hw 5 _ rfl
  have c6 := hw 6 _ rfl
  have c7 := hw 7 _ rfl
  have c8 := hw 8 _ rfl
  have c9 := hw 9 _ rfl
  have c10 := hw 10 _ rfl
  have c11 := hw 11 _ rfl
  have d0 := ixWords0
  have d1 := ixWords1
  have d2 := ixWords2
  have d3 := ixWords3
  have d4 := ixWords4
  have d5 := ixWords5
  have d6 := ixWords6
  have d7 := ixWords7
  have d8 := ixWords8
  have d9 := ixWords9
  have d10 := ixWords10
  have d11 := ixWords11
  clear hw
  go_enter Tryd.func32, Tryd.ntmps32
  go_wp2
  go_loop [6] (fun i => ∃ k : Nat, k ≤ 6 ∧ i = .int .i64 k) (fun i => 12 - (intOf i).toNat)
  case atStart => exact ⟨0, Nat.zero_le _, rfl⟩
  case round =>
    obtain ⟨k, hk, rfl⟩ := hrel
    rcases (show k = 0 ∨ k = 1 ∨ k = 2 ∨ k = 3 ∨ k = 4 ∨ k = 5 ∨ k = 6 by omega) with rfl | rfl | rfl | rfl | rfl | rfl | rfl
    · go_wp2
      go_round
      case rel => exact ⟨1, by omega, rfl⟩
      case measure => simp [intOf]
    · go_wp2
      go_round
      case rel => exact ⟨2, by omega, rfl⟩
      case measure => simp [intOf]
    · go_wp2
      go_round
      case rel => exact ⟨3, by omega, rfl⟩
      case measure => simp [intOf]
    · go_wp2
      go_round
      case rel => exact ⟨4, by omega, rfl⟩
      case measure => simp [intOf]
    · go_wp2
      go_round
      case rel => exact ⟨5, by omega, rfl⟩
      case measure => simp [intOf]
    · go_wp2
      go_round
      case rel => exact ⟨6, by omega, rfl⟩
      case measure => simp [intOf]
    · go_wp2
      go_ret
      exact ⟨rfl, rfl⟩

set_option maxRecDepth 100000 in
set_option maxHeartbeats 1000000 in
theorem kindOf_7 (w : World) (hw : Words w) :
    Calls Tryd.prog 32 #[.string ⟨#[97, 108, 108]⟩] w fun e w' => e = .returned (.int .i64 7) ∧ w = w' := by
  have c0 := hw 0 _ rfl
  have c1 := hw 1 _ rfl
  have c2 := hw 2 _ rfl
  have c3 := hw 3 _ rfl
  have c4 := hw 4 _ rfl
  have c5 := hw 5 _ rfl
  have c6 := hw 6 _ rfl
  have c7 := hw 7 _ rfl
  have c8 := hw 8 _ rfl
  have c9 := hw 9 _ rfl
  have c10 := hw 10 _ rfl
  have c11 := hw 11 _ rfl
  have d0 := ixWords0
  have d1 := ixWords1
  have d2 := ixWords2
  have d3 := ixWords3
  have d4 := ixWords4
  have d5 := ixWords5
  have d6 := ixWords6
  have d7 := ixWords7
  have d8 := ixWords8
  have d9 := ixWords9
  have d10 := ixWords10
  have d11 := ixWords11
  clear hw
  go_enter Tryd.func32, Tryd.ntmps32
  go_wp2
  go_loop [6] (fun i => ∃ k : Nat, k ≤ 7 ∧ i = .int .i64 k) (fun i => 12 - (intOf i).toNat)
  case atStart => exact ⟨0, Nat.zero_le _, rfl⟩
  case round =>
    obtain ⟨k, hk, rfl⟩ := hrel
    rcases (show k = 0 ∨ k = 1 ∨ k = 2 ∨ k = 3 ∨ k = 4 ∨ k = 5 ∨ k = 6 ∨ k = 7 by omega) with rfl | rfl | rfl | rfl | rfl | rfl | rfl | rfl
    · go_wp2
      go_round
      case rel => exact ⟨1, by omega, rfl⟩
      case measure => simp [intOf]
    · go_wp2
      go_round
      case rel => exact ⟨2, by omega, rfl⟩
      case measure => simp [intOf]
    · go_wp2
      go_round
      case rel => exact ⟨3, by omega, rfl⟩
      case measure => simp [intOf]
    · go_wp2
      go_round
      case rel => exact ⟨4, by omega, rfl⟩
      case measure => simp [intOf]
    · go_wp2
      go_round
      case rel => exact ⟨5, by omega, rfl⟩
      case measure => simp [intOf]
    · go_wp2
      go_round
      case rel => exact ⟨6, by omega, rfl⟩
      case measure => simp [intOf]
    · go_wp2
      go_round
      case rel => exact ⟨7, by omega, rfl⟩
      case measure => simp [intOf]
    · go_wp2
      go_ret
      exact ⟨rfl, rfl⟩

set_option maxRecDepth 100000 in
set_option maxHeartbeats 1000000 in
theorem kindOf_8 (w : World) (hw : Words w) :
    Calls Tryd.prog 32 #[.string ⟨#[108, 102, 112]⟩] w fun e w' => e = .returned (.int .i64 8) ∧ w = w' := by
  have c0 := hw 0 _ rfl
  have c1 := hw 1 _ rfl
  have c2 := hw 2 _ rfl
  have c3 := hw 3 _ rfl
  have c4 := hw 4 _ rfl
  have c5 := hw 5 _ rfl
  have c6 := hw 6 _ rfl
  have c7 := hw 7 _ rfl
  have c8 := hw 8 _ rfl
  have c9 := hw 9 _ rfl
  have c10 := hw 10 _ rfl
  have c11 := hw 11 _ rfl
  have d0 := ixWords0
  have d1 := ixWords1
  have d2 := ixWords2
  have d3 := ixWords3
  have d4 := ixWords4
  have d5 := ixWords5
  have d6 := ixWords6
  have d7 := ixWords7
  have d8 := ixWords8
  have d9 := ixWords9
  have d10 := ixWords10
  have d11 := ixWords11
  clear hw
  go_enter Tryd.func32, Tryd.ntmps32
  go_wp2
  go_loop [6] (fun i => ∃ k : Nat, k ≤ 8 ∧ i = .int .i64 k) (fun i => 12 - (intOf i).toNat)
  case atStart => exact ⟨0, Nat.zero_le _, rfl⟩
  case round =>
    obtain ⟨k, hk, rfl⟩ := hrel
    rcases (show k = 0 ∨ k = 1 ∨ k = 2 ∨ k = 3 ∨ k = 4 ∨ k = 5 ∨ k = 6 ∨ k = 7 ∨ k = 8 by omega) with rfl | rfl | rfl | rfl | rfl | rfl | rfl | rfl | rfl
    · go_wp2
      go_round
      case rel => exact ⟨1, by omega, rfl⟩
      case measure => simp [intOf]
    · go_wp2
      go_round
      case rel => exact ⟨2, by omega, rfl⟩
      case measure => simp [intOf]
    · go_wp2
      go_round
      case rel => exact ⟨3, by omega, rfl⟩
      case measure => simp [intOf]
    · go_wp2
      go_round
      case rel => exact ⟨4, by omega, rfl⟩
      case measure => simp [intOf]
    · go_wp2
      go_round
      case rel => exact ⟨5, by omega, rfl⟩
      case measure => simp [intOf]
    · go_wp2
      go_round
      case rel => exact ⟨6, by omega, rfl⟩
      case measure => simp [intOf]
    · go_wp2
      go_round
      case rel => exact ⟨7, by omega, rfl⟩
      case measure => simp [intOf]
    · go_wp2
      go_round
      case rel => exact ⟨8, by omega, rfl⟩
      case measure => simp [intOf]
    · go_wp2
      go_ret
      exact ⟨rfl, rfl⟩

set_option maxRecDepth 100000 in
set_option maxHeartbeats 1000000 in
theorem kindOf_9 (w : World) (hw : Words w) :
    Calls Tryd.prog 32 #[.string ⟨#[112, 102, 112]⟩] w fun e w' => e = .returned (.int .i64 9) ∧ w = w' := by
  have c0 := hw 0 _ rfl
  have c1 := hw 1 _ rfl
  have c2 := hw 2 _ rfl
  have c3 := hw 3 _ rfl
  have c4 := hw 4 _ rfl
  have c5 := hw 5 _ rfl
  have c6 := hw 6 _ rfl
  have c7 := hw 7 _ rfl
  have c8 := hw 8 _ rfl
  have c9 := hw 9 _ rfl
  have c10 := hw 10 _ rfl
  have c11 := hw 11 _ rfl
  have d0 := ixWords0
  have d1 := ixWords1
  have d2 := ixWords2
  have d3 := ixWords3
  have d4 := ixWords4
  have d5 := ixWords5
  have d6 := ixWords6
  have d7 := ixWords7
  have d8 := ixWords8
  have d9 := ixWords9
  have d10 := ixWords10
  have d11 := ixWords11
  clear hw
  go_enter Tryd.func32, Tryd.ntmps32
  go_wp2
  go_loop [6] (fun i => ∃ k : Nat, k ≤ 9 ∧ i = .int .i64 k) (fun i => 12 - (intOf i).toNat)
  case atStart => exact ⟨0, Nat.zero_le _, rfl⟩
  case round =>
    obtain ⟨k, hk, rfl⟩ := hrel
    rcases (show k = 0 ∨ k = 1 ∨ k = 2 ∨ k = 3 ∨ k = 4 ∨ k = 5 ∨ k = 6 ∨ k = 7 ∨ k = 8 ∨ k = 9 by omega) with rfl | rfl | rfl | rfl | rfl | rfl | rfl | rfl | rfl | rfl
    · go_wp2
      go_round
      case rel => exact ⟨1, by omega, rfl⟩
      case measure => simp [intOf]
    · go_wp2
      go_round
      case rel => exact ⟨2, by omega, rfl⟩
      case measure => simp [intOf]
    · go_wp2
      go_round
      case rel => exact ⟨3, by omega, rfl⟩
      case measure => simp [intOf]
    · go_wp2
      go_round
      case rel => exact ⟨4, by omega, rfl⟩
      case measure => simp [intOf]
    · go_wp2
      go_round
      case rel => exact ⟨5, by omega, rfl⟩
      case measure => simp [intOf]
    · go_wp2
      go_round
      case rel => exact ⟨6, by omega, rfl⟩
      case measure => simp [intOf]
    · go_wp2
      go_round
      case rel => exact ⟨7, by omega, rfl⟩
      case measure => simp [intOf]
    · go_wp2
      go_round
      case rel => exact ⟨8, by omega, rfl⟩
      case measure => simp [intOf]
    · go_wp2
      go_round
      case rel => exact ⟨9, by omega, rfl⟩
      case measure => simp [intOf]
    · go_wp2
      go_ret
      exact ⟨rfl, rfl⟩

set_option maxRecDepth 100000 in
set_option maxHeartbeats 1000000 in
theorem kindOf_10 (w : World) (hw : Words w) :
    Calls Tryd.prog 32 #[.string ⟨#[116, 99]⟩] w fun e w' => e = .returned (.int .i64 10) ∧ w = w' := by
  have c0 := hw 0 _ rfl
  have c1 := hw 1 _ rfl
  have c2 := hw 2 _ rfl
  have c3 := hw 3 _ rfl
  have c4 := hw 4 _ rfl
  have c5 := hw 5 _ rfl
  have c6 := hw 6 _ rfl
  have c7 := hw 7 _ rfl
  have c8 := hw 8 _ rfl
  have c9 := hw 9 _ rfl
  have c10 := hw 10 _ rfl
  have c11 := hw 11 _ rfl
  have d0 := ixWords0
  have d1 := ixWords1
  have d2 := ixWords2
  have d3 := ixWords3
  have d4 := ixWords4
  have d5 := ixWords5
  have d6 := ixWords6
  have d7 := ixWords7
  have d8 := ixWords8
  have d9 := ixWords9
  have d10 := ixWords10
  have d11 := ixWords11
  clear hw
  go_enter Tryd.func32, Tryd.ntmps32
  go_wp2
  go_loop [6] (fun i => ∃ k : Nat, k ≤ 10 ∧ i = .int .i64 k) (fun i => 12 - (intOf i).toNat)
  case atStart => exact ⟨0, Nat.zero_le _, rfl⟩
  case round =>
    obtain ⟨k, hk, rfl⟩ := hrel
    rcases (show k = 0 ∨ k = 1 ∨ k = 2 ∨ k = 3 ∨ k = 4 ∨ k = 5 ∨ k = 6 ∨ k = 7 ∨ k = 8 ∨ k = 9 ∨ k = 10 by omega) with rfl | rfl | rfl | rfl | rfl | rfl | rfl | rfl | rfl | rfl | rfl
    · go_wp2
      go_round
      case rel => exact ⟨1, by omega, rfl⟩
      case measure => simp [intOf]
    · go_wp2
      go_round
      case rel => exact ⟨2, by omega, rfl⟩
      case measure => simp [intOf]
    · go_wp2
      go_round
      case rel => exact ⟨3, by omega, rfl⟩
      case measure => simp [intOf]
    · go_wp2
      go_round
      case rel => exact ⟨4, by omega, rfl⟩
      case measure => simp [intOf]
    · go_wp2
      go_round
      case rel => exact ⟨5, by omega, rfl⟩
      case measure => simp [intOf]
    · go_wp2
      go_round
      case rel => exact ⟨6, by omega, rfl⟩
      case measure => simp [intOf]
    · go_wp2
      go_round
      case rel => exact ⟨7, by omega, rfl⟩
      case measure => simp [intOf]
    · go_wp2
      go_round
      case rel => exact ⟨8, by omega, rfl⟩
      case measure => simp [intOf]
    · go_wp2
      go_round
      case rel => exact ⟨9, by omega, rfl⟩
      case measure => simp [intOf]
    · go_wp2
      go_round
      case rel => exact ⟨10, by omega, rfl⟩
      case measure => simp [intOf]
    · go_wp2
      go_ret
      exact ⟨rfl, rfl⟩

set_option maxRecDepth 100000 in
set_option maxHeartbeats 1000000 in
theorem kindOf_11 (w : World) (hw : Words w) :
    Calls Tryd.prog 32 #[.string ⟨#[101, 120, 105, 115, 116, 115]⟩] w fun e w' => e = .returned (.int .i64 11) ∧ w = w' := by
  have c0 := hw 0 _ rfl
  have c1 := hw 1 _ rfl
  have c2 := hw 2 _ rfl
  have c3 := hw 3 _ rfl
  have c4 := hw 4 _ rfl
  have c5 := hw 5 _ rfl
  have c6 := hw 6 _ rfl
  have c7 := hw 7 _ rfl
  have c8 := hw 8 _ rfl
  have c9 := hw 9 _ rfl
  have c10 := hw 10 _ rfl
  have c11 := hw 11 _ rfl
  have d0 := ixWords0
  have d1 := ixWords1
  have d2 := ixWords2
  have d3 := ixWords3
  have d4 := ixWords4
  have d5 := ixWords5
  have d6 := ixWords6
  have d7 := ixWords7
  have d8 := ixWords8
  have d9 := ixWords9
  have d10 := ixWords10
  have d11 := ixWords11
  clear hw
  go_enter Tryd.func32, Tryd.ntmps32
  go_wp2
  go_loop [6] (fun i => ∃ k : Nat, k ≤ 11 ∧ i = .int .i64 k) (fun i => 12 - (intOf i).toNat)
  case atStart => exact ⟨0, Nat.zero_le _, rfl⟩
  case round =>
    obtain ⟨k, hk, rfl⟩ := hrel
    rcases (show k = 0 ∨ k = 1 ∨ k = 2 ∨ k = 3 ∨ k = 4 ∨ k = 5 ∨ k = 6 ∨ k = 7 ∨ k = 8 ∨ k = 9 ∨ k = 10 ∨ k = 11 by omega) with rfl | rfl | rfl | rfl | rfl | rfl | rfl | rfl | rfl | rfl | rfl | rfl
    · go_wp2
      go_round
      case rel => exact ⟨1, by omega, rfl⟩
      case measure => simp [intOf]
    · go_wp2
      go_round
      case rel => exact ⟨2, by omega, rfl⟩
      case measure => simp [intOf]
    · go_wp2
      go_round
      case rel => exact ⟨3, by omega, rfl⟩
      case measure => simp [intOf]
    · go_wp2
      go_round
      case rel => exact ⟨4, by omega, rfl⟩
      case measure => simp [intOf]
    · go_wp2
      go_round
      case rel => exact ⟨5, by omega, rfl⟩
      case measure => simp [intOf]
    · go_wp2
      go_round
      case rel => exact ⟨6, by omega, rfl⟩
      case measure => simp [intOf]
    · go_wp2
      go_round
      case rel => exact ⟨7, by omega, rfl⟩
      case measure => simp [intOf]
    · go_wp2
      go_round
      case rel => exact ⟨8, by omega, rfl⟩
      case measure => simp [intOf]
    · go_wp2
      go_round
      case rel => exact ⟨9, by omega, rfl⟩
      case measure => simp [intOf]
    · go_wp2
      go_round
      case rel => exact ⟨10, by omega, rfl⟩
      case measure => simp [intOf]
    · go_wp2
      go_round
      case rel => exact ⟨11, by omega, rfl⟩
      case measure => simp [intOf]
    · go_wp2
      go_ret
      exact ⟨rfl, rfl⟩

/-- The word's kind, whichever word it is. -/
theorem kindOf_any (x : Fo.Bs) (K : Int) (hx : Fo.wordK x = some K) (w : World) (hw : Words w) :
    Calls Tryd.prog 32 #[.string ⟨x.toArray⟩] w fun e w' => e = .returned (.int .i64 K) ∧ w = w' := by
  unfold Fo.wordK at hx
  by_cases h3 : x = [110, 111, 116]
  · rw [if_pos h3] at hx
    injection hx with hx
    subst h3 hx
    exact kindOf_3 w hw
  rw [if_neg h3] at hx
  by_cases h4 : x = [97, 110, 100]
  · rw [if_pos h4] at hx
    injection hx with hx
    subst h4 hx
    exact kindOf_4 w hw
  rw [if_neg h4] at hx
  by_cases h5 : x = [111, 114]
  · rw [if_pos h5] at hx
    injection hx with hx
    subst h5 hx
    exact kindOf_5 w hw
  rw [if_neg h5] at hx
  by_cases h6 : x = [115, 111, 109, 101]
  · rw [if_pos h6] at hx
    injection hx with hx
    subst h6 hx
    exact kindOf_6 w hw
  rw [if_neg h6] at hx
  by_cases h7 : x = [97, 108, 108]
  · rw [if_pos h7] at hx
    injection hx with hx
    subst h7 hx
    exact kindOf_7 w hw
  rw [if_neg h7] at hx
  by_cases h8 : x = [108, 102, 112]
  · rw [if_pos h8] at hx
    injection hx with hx
    subst h8 hx
    exact kindOf_8 w hw
  rw [if_neg h8] at hx
  by_cases h9 : x = [112, 102, 112]
  · rw [if_pos h9] at hx
    injection hx with hx
    subst h9 hx
    exact kindOf_9 w hw
  rw [if_neg h9] at hx
  by_cases h10 : x = [116, 99]
  · rw [if_pos h10] at hx
    injection hx with hx
    subst h10 hx
    exact kindOf_10 w hw
  rw [if_neg h10] at hx
  by_cases h11 : x = [101, 120, 105, 115, 116, 115]
  · rw [if_pos h11] at hx
    injection hx with hx
    subst h11 hx
    exact kindOf_11 w hw
  rw [if_neg h11] at hx
  cases hx

end Go.Proofs.YtmnpelhcgobfaaaDoor

/-
  The kids that the parser makes: a row of the call's own, six cells each; the kids' own blocks lie apart from the row.
-/
namespace Go.Proofs.YtmnpelhcgobfaaaDoor
open Go.RowKit
open Fo (F)

theorem Words.grown {w w' : World} {R : Nat} (h : Words w) (hg : w.grownBy w' (some R)) (hR : 0 < R) (hw : R < w.heap.size) : Words w' :=
  h.keep (hg.block _ (by omega) (fun e => by injection e with e; omega))
theorem Words.alloc {w : World} (h : Words w) (o : Obj) {R : Nat} (hR : 0 < R) (hw : R < w.heap.size) : Words (w.alloc o) := h.grown (World.grownBy_alloc _ _ (some R)) hR hw

/-- Cells that are formulas, one after the other. -/
def KC (w : World) (S : Nat → Prop) : List FB → List Value → Prop
  | [], xs => xs = []
  | f :: l, xs => ∃ cs r, xs = cs ++ r ∧ FVal w S f cs ∧ KC w S l r
theorem FVal.six {w : World} {S : Nat → Prop} {f : FB} {cs : List Value} (h : FVal w S f cs) : ∃ x0 x1 x2 x3 x4 x5, cs = [x0, x1, x2, x3, x4, x5] := by
  obtain ⟨k, a, n, ws, ar, ks⟩ := f
  obtain ⟨A3, n3, c3, A4, n4, c4, A, m, c, h, -⟩ := h.open_
  exact ⟨_, _, _, _, _, _, h⟩
theorem KC.keep {w w' : World} {S : Nat → Prop} (hk : ∀ p : Addr, S p.block → w'.cell? p = w.cell? p) : ∀ (fs : List FB) (xs : List Value), KC w S fs xs → KC w' S fs xs
  | [], _, h => h
  | f :: l, _xs, ⟨cs, r, e, h, hl⟩ => ⟨cs, r, e, FVal.keep hk f cs h, KC.keep hk l r hl⟩
theorem KC.more {w : World} {S S' : Nat → Prop} (hS : ∀ b, S b → S' b) : ∀ (fs : List FB) (xs : List Value), KC w S fs xs → KC w S' fs xs
  | [], _, h => h
  | f :: l, _xs, ⟨cs, r, e, h, hl⟩ => ⟨cs, r, e, FVal.more hS f cs h, KC.more hS l r hl⟩
theorem KC.snoc {w : World} {S : Nat → Prop} {f : FB} {cs : List Value} (hf : FVal w S f cs) : ∀ (fs : List FB) (xs : List Value), KC w S fs xs → KC w S (fs ++ [f]) (xs ++ cs)
  | [], xs, h => by
    have h : xs = [] := h
    subst h
    exact ⟨cs, [], by simp, hf, rfl⟩
  | g :: l, xs, ⟨c, r, e, h, hl⟩ => ⟨c, r ++ cs, by rw [e, List.append_assoc], h, KC.snoc hf l r hl⟩
theorem KC.kids {w : World} {S : Nat → Prop} {ad : Addr} : ∀ (fs : List FB) (xs : List Value) (j : Nat), KC w S fs xs → (∀ i u, xs[i]? = some u → w.cell? (ad.add (j * 6 + i)) = some u) → FKids w S ad fs j
  | [], _, _, _, _ => by unfold FKids; trivial
  | f :: l, xs, j, ⟨cs, r, e, h, hl⟩, hc => by
    obtain ⟨x0, x1, x2, x3, x4, x5, rfl⟩ := h.six
    subst e
    unfold FKids
    refine ⟨⟨x0, x1, x2, x3, x4, x5, hc 0 _ rfl, hc 1 _ rfl, hc 2 _ rfl, hc 3 _ rfl, hc 4 _ rfl, hc 5 _ rfl, h⟩, KC.kids l r (j + 1) hl fun i u hi => ?_⟩
    have := hc (6 + i) u (by rw [List.getElem?_append_right (by simp)]; simpa using hi)
    rwa [show j * 6 + (6 + i) = (j + 1) * 6 + i by omega] at this

/-- A row of kids: the call's own; what they hold lies apart. -/
structure KList (w : World) (L : Nat) (v : Value) (fs : List FB) (xs : List Value) : Prop where
  own : w.ownsRow L 31 6 v fs.length xs
  kids : KC w (fun b => L ≤ b ∧ b < w.heap.size ∧ v.ownBlock ≠ some b) fs xs
/-- A value that is the kids of a new formula. -/
def NKids (w : World) (L : Nat) (v : Value) (fs : List FB) : Prop :=
  ∃ A m c, v = .slice A m c ∧ m = fs.length ∧ m ≤ 140737488351232 ∧ m ≤ c ∧ (0 < m → ∃ ad, A = some ad ∧ (L ≤ ad.block ∧ ad.block < w.heap.size) ∧ FKids w (fun b => L ≤ b ∧ b < w.heap.size) ad fs 0)
theorem NKids.nil (w : World) (L : Nat) : NKids w L (.slice none 0 0) [] := ⟨none, 0, 0, rfl, rfl, by omega, by omega, fun h => absurd h (by omega)⟩
theorem KList.new_ {w : World} {L : Nat} {v : Value} {fs : List FB} {xs : List Value} (h : KList w L v fs xs) (hl : fs.length ≤ 1000000) : NKids w L v fs := by
  obtain ⟨ho, hk⟩ := h
  obtain ⟨hxl, h | ⟨g, cap, cur, rfl, hg, hh, hc, hm, hsz, hcur⟩⟩ := ho
  · obtain ⟨rfl, h0⟩ := h
    have : fs = [] := List.length_eq_zero_iff.1 h0
    subst this
    exact NKids.nil _ _
  · have hb : Blk w g 31 cur := hh
    refine ⟨_, _, _, rfl, rfl, by omega, hc, fun _ => ⟨_, rfl, ⟨hg, hb.lt⟩, ?_⟩⟩
    refine KC.kids fs xs 0 (KC.more (fun b hb => ⟨hb.1, hb.2.1⟩) fs xs hk) fun i u hi => ?_
    have e : (Addr.mk g 0 none).add (0 * 6 + i) = ⟨g, i, none⟩ := by unfold Addr.add; split <;> simp_all
    rw [e, hb.cell i]
    rw [← hcur, List.getElem?_take] at hi
    split at hi
    · simpa using hi
    · cases hi
theorem KList.grown {w w' : World} {L R : Nat} {v : Value} {fs : List FB} {xs : List Value} (h : KList w L v fs xs) (hg : w.grownBy w' (some R)) (hR : R < L) : KList w' L v fs xs :=
  ⟨own_grown h.own hg hR, KC.more (fun b hb => ⟨hb.1, Nat.lt_of_lt_of_le hb.2.1 hg.size, hb.2.2⟩) fs xs (KC.keep (fun p hp => World.cell?_of_block (hg.block p.block hp.2.1 (fun e => by injection e with e; have := hp.1; omega))) fs xs h.kids)⟩
/-- One kid more: what the append leaves. -/
theorem KList.push {w w' : World} {L : Nat} {v v' : Value} {fs : List FB} {xs cs : List Value} {f : FB} (h : KList w L v fs xs) (hf : FVal w (fun b => L ≤ b ∧ b < w.heap.size ∧ v.ownBlock ≠ some b) f cs)
    (ho : w'.ownsRow L 31 6 v' (fs.length + 1) (xs ++ cs)) (hg : w.grownBy w' v.ownBlock) (hat : v'.ownBlock = v.ownBlock ∨ v'.ownBlock = some w.heap.size) : KList w' L v' (fs ++ [f]) (xs ++ cs) := by
  refine ⟨by simpa using ho, ?_⟩
  have hk := KC.snoc hf fs xs h.kids
  refine KC.more (fun b hb => ⟨hb.1, Nat.lt_of_lt_of_le hb.2.1 hg.size, ?_⟩) _ _ (KC.keep (w' := w') (fun p hp => World.cell?_of_block (hg.block p.block hp.2.1 (fun e => hp.2.2 e.symm))) _ _ hk)
  rcases hat with e | e
  · rw [e]; exact hb.2.2
  · rw [e]; intro e'; injection e' with e'; have := hb.2.1; omega
/-- A row of one kid, written out. -/
theorem KList.one {w : World} {L : Nat} {f : FB} {x0 x1 x2 x3 x4 x5 : Value} (hL : L ≤ w.heap.size) (hf : FVal w (fun b => L ≤ b ∧ b < w.heap.size) f [x0, x1, x2, x3, x4, x5]) :
    KList (w.alloc (.cells #[x0, x1, x2, x3, x4, x5] 31)) L (.slice (some ⟨w.heap.size, 0, none⟩) 1 1) [f] [x0, x1, x2, x3, x4, x5] :=
  ⟨World.ownsRow_lit w #[x0, x1, x2, x3, x4, x5] 1 hL (by decide) rfl, ⟨_, [], by simp, FVal.more (fun b hb => ⟨hb.1, by simp; omega, fun e => by injection e with e; exact absurd hb.2 (by rw [← e]; exact Nat.lt_irrefl _)⟩) f _ (FVal.keep (w' := w.alloc (.cells #[x0, x1, x2, x3, x4, x5] 31)) (fun p hp => World.cell?_of_block (Below.heap_alloc w _ p.block hp.2)) f _ hf), rfl⟩⟩

/-- append of one formula to a row of kids. -/
theorem form_info : (Tryd.prog.info? 31).map (fun i => (i.zero, i.size, i.bytes)) = some (some (.agg #[.int .i64 0, .int .i64 0, .string ⟨#[]⟩, .slice none 0 0, .slice none 0 0, .slice none 0 0]), 6, 104) := by kernel_rfl
theorem wpList_append_form (w : World) {ops : Array Oper} {rest : List Oper} {o : Oper} {a : Act} {Q : Exit → Act → World → Prop} (hgd : o.guard = none) (s x : Operand)
    (ho : o.op = .call { callee := .builtin .append, args := #[s, x], argTypes := #[29, 29] })
    (base : Nat) (v : Value) (n : Nat) (xs : List Value) (hs : a.eval s = v) (hown : w.ownsRow base 31 6 v n xs)
    (g c : Nat) (y0 y1 y2 y3 y4 y5 : Value) (hx : a.eval x = .slice (some ⟨g, 0, none⟩) 1 c) (hc : Blk w g 31 #[y0, y1, y2, y3, y4, y5])
    (h0 : y0.oneCell' = true) (h1 : y1.oneCell' = true) (h2 : y2.oneCell' = true) (h3 : y3.oneCell' = true) (h4 : y4.oneCell' = true) (h5 : y5.oneCell' = true) (hn : n ≤ 1000000) (hbase : base ≤ w.heap.size)
    (h : ∀ v' w', w'.ownsRow base 31 6 v' (n + 1) (xs ++ [y0, y1, y2, y3, y4, y5]) → w.grownBy w' v.ownBlock → (v'.ownBlock = v.ownBlock ∨ v'.ownBlock = some w.heap.size) → wpList Tryd.prog ops Q rest (a.put o.dst v') w') :
    wpList Tryd.prog ops Q (o :: rest) a w := by
  obtain ⟨i0, hi, hz0, hz1, hz2⟩ := info_parts form_info
  refine wpList_append_own_at (P := Tryd.prog) w hgd s x 29 ho base 31 i0 _ 6 104 Tryd.underlying29 hi hz0 hz1 hz2 rfl (by decide) v n xs hs hown ⟨g, 0, none⟩ 1 c [y0, y1, y2, y3, y4, y5] hx rfl ?_ ?_ (by unfold maxLen; omega) (by omega) hbase ?_
  · intro j u hu
    have e : (Addr.mk g 0 none).add j = ⟨g, j, none⟩ := by unfold Addr.add; split <;> simp_all
    rw [e, hc.cell j]
    simpa using hu
  · intro u hu
    simp at hu
    rcases hu with rfl | rfl | rfl | rfl | rfl | rfl <;> assumption
  · intro v' w' g1 g2 _ g4
    exact h v' w' g1 g2 g4

end Go.Proofs.YtmnpelhcgobfaaaDoor

/-
  Walks: the method kids of the parser.
-/
namespace Go.Proofs.YtmnpelhcgobfaaaDoor
open Go.RowKit
open Fo (F)

/-- What formula leaves at the places behind which at most n tokens lie: the hypothesis under which kids is walked. -/
def FormAt (R : Nat) (text : ByteArray) (n : Nat) : Prop := ∀ (m : Nat) (W : World), (Fo.toksAt text.toList m).length ≤ n → m ≤ text.size → Psr W R text m → Words W → R < W.heap.size →
  Calls Tryd.prog 24 #[.pointer (some ⟨R, 0, none⟩)] W (RdPost R text W (Fo.formF (Fo.toksAt text.toList m)) (fun w' v f => NForm w' W.heap.size v f))
/-- The kid of a formula that has one, and the bracket behind it. -/
def oneT (ts : List Fo.Tok) : Fo.Rd (List FB) := Fo.bnd (Fo.formF ts) fun f r => Fo.bnd (Fo.takeT (Fo.isT [41]) r) fun _ r => .ok ([f], r)
def kidsX (k : Int) (ts : List Fo.Tok) : Fo.Rd (List FB) := if k = 4 ∨ k = 5 then Fo.listT Fo.kidsF ts else oneT ts
theorem lit1 (c : UInt8) (W : World) : Strs (W.alloc (.cells #[.string ⟨#[c]⟩] 9)) (· < (W.alloc (.cells #[.string ⟨#[c]⟩] 9)).heap.size) (.slice (some ⟨W.heap.size, 0, none⟩) 1 1) [(⟨#[c]⟩ : ByteArray)] :=
  strs_lit W 9 [(⟨#[c]⟩ : ByteArray)] (by simp) (by intro s hs; simp only [List.mem_cons, List.not_mem_nil, or_false] at hs; subst hs; exact Nat.le_of_ble_eq_true rfl) _ (by simp)
/-- take of one sign. -/
theorem sign_cases (c : UInt8) (hc : Sh.alnumB c = false) (ts : List Fo.Tok) : (∃ a r, ts = (a, [c]) :: r ∧ Fo.takeT (Fo.isT [c]) ts = .ok ([c], r) ∧ kindB [c] = (⟨#[c]⟩ : ByteArray)) ∨ (Fo.takeT (Fo.isT [c]) ts = .error ts ∧ kindT ts ∉ [(⟨#[c]⟩ : ByteArray)]) := by
  cases ts with
  | nil =>
    refine .inr ⟨rfl, fun hm => ?_⟩
    simp only [List.mem_cons, List.not_mem_nil, or_false] at hm
    exact kind_ne (l := [c]) (.inr (.inr (.inr rfl))) (.inr hc) hm.symm
  | cons t r =>
    obtain ⟨a, b⟩ := t
    by_cases h : b = [c]
    · subst h
      exact .inl ⟨a, r, rfl, by rw [Fo.takeT, if_pos (by unfold Fo.isT; simp)], (kindB_self (x := [c]) (.inr hc)).2 rfl⟩
    · refine .inr ⟨by rw [Fo.takeT, if_neg (by unfold Fo.isT; simpa using h)], fun hm => ?_⟩
      simp only [List.mem_cons, List.not_mem_nil, or_false] at hm
      exact h ((kindB_self (x := [c]) (.inr hc)).1 hm)

theorem NForm.open_ {w : World} {L : Nat} {v : Value} {f : FB} (h : NForm w L v f) : ∃ k a n A3 n3 c3 A4 n4 c4 A m c, v = .agg #[.int .i64 k, .int .i64 a, .string n, .slice A3 n3 c3, .slice A4 n4 c4, .slice A m c] ∧
    FVal w (fun b => L ≤ b ∧ b < w.heap.size) f [.int .i64 k, .int .i64 a, .string n, .slice A3 n3 c3, .slice A4 n4 c4, .slice A m c] := by
  obtain ⟨cs, rfl, h⟩ := h
  obtain ⟨k, a, n, ws, ar, ks⟩ := f
  obtain ⟨A3, n3, c3, A4, n4, c4, A, m, c, rfl, -⟩ := h.open_
  exact ⟨_, _, _, _, _, _, _, _, _, _, _, _, rfl, h⟩

set_option maxRecDepth 100000 in
set_option maxHeartbeats 400000 in
theorem kids_one (R n : Nat) (text : ByteArray) (k : Int) (hk : ¬ (k = 4 ∨ k = 5)) (w : World) (hr : Psr w R text n) (hn : n ≤ text.size) (hs : text.size ≤ 100000) (hw : Words w) (_hg : 0 < R) (hform : FormAt R text (Fo.toksAt text.toList n).length) :
    Calls Tryd.prog 36 #[.pointer (some ⟨R, 0, none⟩), .int .i64 k] w
      (RdPost R text w (oneT (Fo.toksAt text.toList n)) (fun w' v fs => NKids w' w.heap.size v fs)) := by
  have hRw := hr.lt
  have hcall := hform n w (Nat.le_refl _) hn hr hw hRw
  have hk4 : (k != 4) = true := by simp; omega
  have hk5 : (k != 5) = true := by simp; omega
  clear hform hw hk
  cases hf : Fo.formF (Fo.toksAt text.toList n) with
  | error ts =>
    have hx : oneT (Fo.toksAt text.toList n) = .error ts := by unfold oneT; rw [hf]; rfl
    have hcall := hcall.mono fun e w' h => h.miss hf
    have Hx := Lib.hid hx; clear hx
    have Hcall := Lib.hid hcall; clear hcall hf
    go_enter Tryd.func36, Tryd.ntmps36
    go_wp2_with (go_at_call 24; with_reducible refine (Hcall.out).mono ?_; rintro e w2 ⟨rfl, hg2⟩)
    exact ⟨rfl, RdPost.bad Hx.out hg2⟩
  | ok p =>
    obtain ⟨f, r⟩ := p
    have hcall := hcall.mono fun e w' h => h.hit hf
    have Hcall := Lib.hid hcall; clear hcall
    rcases sign_cases 41 (by decide) r with ⟨a, r', hr', ht, hkd⟩ | ⟨ht, hno⟩
    · have hx : oneT (Fo.toksAt text.toList n) = .ok ([f], r') := by unfold oneT; rw [hf]; simp only [Fo.bnd]; rw [ht]
      have Hx := Lib.hid hx; clear hx hf
      subst hr'
      have hcall2 := fun (m : Nat) (v : Value) (W : World) (h1 : Psr W R text m) (hm : m ≤ text.size) (hts : Fo.toksAt text.toList m = (a, [41]) :: r') (h2 : Strs W (· < W.heap.size) v [(⟨#[41]⟩ : ByteArray)]) => take_ok R m text _ v W h1 hm hs h2 hts ⟨#[41]⟩ hkd (by simp)
      have Hcall2 := Lib.hid hcall2; clear hcall2 ht hkd
      go_enter Tryd.func36, Tryd.ntmps36
      go_wp2_with (first
        | (go_at_call 24; with_reducible refine (Hcall.out).mono ?_; rintro e w2 ⟨v2, m2, rfl, hg2, hv2, hm2, ht2, hr2⟩; obtain ⟨k1, a1, n1, A3, n3, c3, A4, n4, c4, A5, n5, c5, rfl, hw2⟩ := hv2.open_; have Hv2 := Lib.hid hw2; clear hw2 hv2; have Hr2 := Lib.hid hr2; have hb2 := Blk.new w2 31 #[.int .i64 k1, .int .i64 a1, .string n1, .slice A3 n3 c3, .slice A4 n4 c4, .slice A5 n5 c5]; have hra2 : Psr (w2.alloc (.cells #[.int .i64 k1, .int .i64 a1, .string n1, .slice A3 n3 c3, .slice A4 n4 c4, .slice A5 n5 c5] 31)) R text m2 := hr2.alloc _))
      have hs3 : (w2.alloc (.cells #[.int .i64 k1, .int .i64 a1, .string n1, .slice A3 n3 c3, .slice A4 n4 c4, .slice A5 n5 c5] 31)).heap.size = w2.heap.size + 1 := by simp
      have hg3 : w.grownBy (w2.alloc (.cells #[.int .i64 k1, .int .i64 a1, .string n1, .slice A3 n3 c3, .slice A4 n4 c4, .slice A5 n5 c5] 31)) (some R) := grownBy_trans hg2 (World.grownBy_alloc _ _ _)
      have hv3 := Hv2.out.grown (World.grownBy_alloc w2 (.cells #[.int .i64 k1, .int .i64 a1, .string n1, .slice A3 n3 c3, .slice A4 n4 c4, .slice A5 n5 c5] 31) (some R)) hRw
      have hT : R < w2.heap.size := Nat.lt_of_lt_of_le hRw hg2.size
      have hT2 : w.heap.size ≤ w2.heap.size := hg2.size
      clear Hv2 Hr2 hg2
      generalize w2.alloc (.cells #[.int .i64 k1, .int .i64 a1, .string n1, .slice A3 n3 c3, .slice A4 n4 c4, .slice A5 n5 c5] 31) = w3 at *
      generalize w2.heap.size = T at *
      have hl := lit1 41 w3
      rw [hs3] at hl
      have hcall3 := Hcall2.out m2 _ _ (hra2.alloc _) hm2 ht2 hl
      obtain ⟨ho1, ho2, -⟩ := tok_over hm2 ht2
      have Hcall3 := Lib.hid hcall3; clear hcall3 Hcall2 hl Hcall
      have Hv3 := Lib.hid hv3; clear hv3
      go_wp2_with (go_at_call 25; with_reducible refine (Hcall3.out).mono ?_; rintro e w4 ⟨rfl, hr4, hg4⟩; have hz4 := Blk.grown (Blk.alloc hb2 _) hg4 (fun e => by injection e with e; omega); obtain ⟨⟨z0, z1, z2, z3, z4, z5⟩, -⟩ := six_cells hz4)
      go_ret
      have hg34 := grownBy_trans (World.grownBy_alloc w3 (.cells #[.string ⟨#[41]⟩] 9) (some R)) hg4
      have hv4 := Hv3.out.grown hg34 hRw
      exact RdPost.ok Hx.out _ (a + 1) (grownBy_trans hg3 (grownBy_trans hg34 (World.grownBy_alloc _ _ _))) ((KList.one (Nat.le_trans hT2 (by have := hg34.size; omega)) hv4).new_ (by simp)) ho1 ho2 (hr4.alloc _)
    · have hx : oneT (Fo.toksAt text.toList n) = .error r := by unfold oneT; rw [hf]; simp only [Fo.bnd]; rw [ht]
      have Hx := Lib.hid hx; clear hx hf
      have hcall2 := fun (m : Nat) (v : Value) (W : World) (h1 : Psr W R text m) (hm : m ≤ text.size) (hts : Fo.toksAt text.toList m = r) (h2 : Strs W (· < W.heap.size) v [(⟨#[41]⟩ : ByteArray)]) => take_err R m text _ v W h1 hm hs h2 hts hno
      have Hcall2 := Lib.hid hcall2; clear hcall2 ht hno
      go_enter Tryd.func36, Tryd.ntmps36
      go_wp2_with (first
        | (go_at_call 24; with_reducible refine (Hcall.out).mono ?_; rintro e w2 ⟨v2, m2, rfl, hg2, hv2, hm2, ht2, hr2⟩; obtain ⟨k1, a1, n1, A3, n3, c3, A4, n4, c4, A5, n5, c5, rfl, hw2⟩ := hv2.open_; have Hv2 := Lib.hid hw2; clear hw2 hv2; have Hr2 := Lib.hid hr2; have hb2 := Blk.new w2 31 #[.int .i64 k1, .int .i64 a1, .string n1, .slice A3 n3 c3, .slice A4 n4 c4, .slice A5 n5 c5]; have hra2 : Psr (w2.alloc (.cells #[.int .i64 k1, .int .i64 a1, .string n1, .slice A3 n3 c3, .slice A4 n4 c4, .slice A5 n5 c5] 31)) R text m2 := hr2.alloc _))
      have hs3 : (w2.alloc (.cells #[.int .i64 k1, .int .i64 a1, .string n1, .slice A3 n3 c3, .slice A4 n4 c4, .slice A5 n5 c5] 31)).heap.size = w2.heap.size + 1 := by simp
      have hg3 : w.grownBy (w2.alloc (.cells #[.int .i64 k1, .int .i64 a1, .string n1, .slice A3 n3 c3, .slice A4 n4 c4, .slice A5 n5 c5] 31)) (some R) := grownBy_trans hg2 (World.grownBy_alloc _ _ _)
      have hv3 := Hv2.out.grown (World.grownBy_alloc w2 (.cells #[.int .i64 k1, .int .i64 a1, .string n1, .slice A3 n3 c3, .slice A4 n4 c4, .slice A5 n5 c5] 31) (some R)) hRw
      have hT : R < w2.heap.size := Nat.lt_of_lt_of_le hRw hg2.size
      have hT2 : w.heap.size ≤ w2.heap.size := hg2.size
      clear Hv2 Hr2 hg2
      generalize w2.alloc (.cells #[.int .i64 k1, .int .i64 a1, .string n1, .slice A3 n3 c3, .slice A4 n4 c4, .slice A5 n5 c5] 31) = w3 at *
      generalize w2.heap.size = T at *
      have hl := lit1 41 w3
      rw [hs3] at hl
      have hcall3 := Hcall2.out m2 _ _ (hra2.alloc _) hm2 ht2 hl
      have Hcall3 := Lib.hid hcall3; clear hcall3 Hcall2 hl Hcall
      go_wp2_with (go_at_call 25; with_reducible refine (Hcall3.out).mono ?_; rintro e w4 ⟨rfl, hb4⟩)
      exact ⟨rfl, RdPost.bad Hx.out (grownBy_trans hg3 (grownBy_trans (World.grownBy_alloc w3 (.cells #[.string ⟨#[41]⟩] 9) (some R)) (grownBy_of_below hb4 _)))⟩

end Go.Proofs.YtmnpelhcgobfaaaDoor
