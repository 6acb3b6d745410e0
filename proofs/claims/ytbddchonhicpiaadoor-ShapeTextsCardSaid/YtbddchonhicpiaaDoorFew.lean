/-
  Walk: Few of one structure: it returns a truth value, and nothing turns.
-/
import Derived.Test.YtbddchonhicpiaaDoorElems
namespace Go.Proofs.YtbddchonhicpiaaDoor
open Go.RowKit

/-- It returns a truth value. -/
def IsBool (e : Ending) : Prop := ∃ b, e = .returned (.bool b)
theorem IsBool.mk {e : Ending} {b : Bool} (h : e = .returned (.bool b)) : IsBool e := ⟨b, h⟩

set_option maxRecDepth 100000 in
set_option maxHeartbeats 400000 in
theorem few_any (g : Nat) (size : Int) (A : Option Addr) (len c B : Nat) (rs : List Sh.Rel) (w : World) (hb : Blk w g 24 #[.int .i64 size, .slice A len c]) (h : Rels w B (.slice A len c) rs) :
    Calls Tryd.prog 12 #[.slice (some ⟨g, 0, none⟩) 1 1] w fun e w' => IsBool e ∧ w = w' := by
  have c1 : w.cell? ⟨g, 1, none⟩ = some (.slice A len c) := hb.cell 1
  clear hb
  go_enter Tryd.func12, Tryd.ntmps12
  go_wp2
  go_loop [3, 4, 5] (fun t e i => ∃ (T E : Int) (k : Nat), k ≤ 1 ∧ t = .int .i64 T ∧ e = .int .i64 E ∧ i = .int .i64 k) (fun _ _ i => 1 - (intOf i).toNat)
  case atStart => exact ⟨0, 0, 0, by omega, rfl, rfl, rfl⟩
  case round =>
    obtain ⟨T, E, k, hk, rfl, rfl, rfl⟩ := hrel
    by_cases hk1 : k < 1
    · obtain rfl : k = 0 := by omega
      by_cases h12 : 12 < len
      · go_wp2
        go_ret
        exact ⟨⟨_, rfl⟩, rfl⟩
      · go_wp2
        go_loop [3, 4, 6] (fun t e i => ∃ (T E : Int) (k : Nat), k ≤ len ∧ t = .int .i64 T ∧ e = .int .i64 E ∧ i = .int .i64 k) (fun _ _ i => len - (intOf i).toNat)
        case atStart => exact ⟨T, E, 0, by omega, rfl, rfl, rfl⟩
        case round =>
          obtain ⟨T, E, k, hk, rfl, rfl, rfl⟩ := hrel
          by_cases hkl : k < len
          · obtain ⟨ad, u, r, rfl, hbk, hr, hc0, -, hc2, htu, -⟩ := h.at_ hkl
            have htu' := htu
            obtain ⟨A2, n2, c2, rfl, hn2, hm2, -⟩ := htu'
            go_wp2
            all_goals first
              | (go_ret; exact ⟨⟨_, rfl⟩, rfl⟩)
              | skip
            go_loop [4, 7] (fun e i => ∃ (E : Int) (j : Nat), j ≤ n2 ∧ e = .int .i64 E ∧ i = .int .i64 j) (fun _ i => n2 - (intOf i).toNat)
            case atStart => exact ⟨E, 0, by omega, rfl, rfl⟩
            case round =>
              obtain ⟨E, j, hj, rfl, rfl⟩ := hrel
              by_cases hjn : j < n2
              · obtain ⟨ad2, u3, rfl, -, hc3, hiu⟩ := htu.at_ hjn
                have hiu' := hiu
                obtain ⟨A3, n3, c3, rfl, -⟩ := hiu'
                go_wp2
                exact ⟨⟨_, j + 1, by omega, rfl, by go_num⟩, by simp [intOf]; omega⟩
              · go_wp2
                exact ⟨⟨_, _, k + 1, by omega, rfl, rfl, by go_num⟩, by simp [intOf]; omega⟩
          · go_wp2
            exact ⟨⟨T, E, 1, by omega, rfl, rfl, by go_num⟩, by simp [intOf]⟩
    · go_wp2
      go_ret
      exact ⟨⟨_, rfl⟩, rfl⟩

end Go.Proofs.YtbddchonhicpiaaDoor
