/-
  Walks: shape.elements, the reference's In.
-/
import Derived.Test.YtbddchonhicpiaaDoorRows
import Derived.Test.YtbddchonhicpiaaDoorRep
import Derived.Deep.QuietTactic
import Derived.BigQuiet
namespace Go.Proofs.YtbddchonhicpiaaDoor
open Go.RowKit

theorem ret_bool {a b : Bool} (h : a = b) : Ending.returned (.bool a) = .returned (.bool b) := by rw [h]
theorem ret_int {k : IntKind} {a b : Int} (h : a = b) : Ending.returned (.int k a) = .returned (.int k b) := by rw [h]

set_option maxHeartbeats 400000 in
theorem elements_any (v : Value) (t : List Int) (n : Int) (w : World) (B : Nat) (h : Ints w B v t) :
    Calls Tryd.prog 60 #[v, .int .i64 n] w fun e w' => e = .returned (.bool (Sh.inB n t)) ∧ w = w' := by
  have h' := h
  obtain ⟨A, len, c, rfl, hlen, hmax, -⟩ := h'
  have Hlen := Lib.hid hlen; clear hlen
  go_enter Tryd.func60, Tryd.ntmps60
  go_wp2
  go_loop [9] (fun i => ∃ k : Nat, k ≤ len ∧ i = .int .i64 k ∧ (t.take k).all (Sh.okB n) = true) (fun i => len - (intOf i).toNat)
  case atStart => exact ⟨0, Nat.zero_le _, rfl, by simp⟩
  case round =>
    obtain ⟨k, hk, rfl, hall⟩ := hrel
    have Hall := Lib.hid hall; clear hall
    by_cases hlt : k < len
    · obtain ⟨ad, rfl, hb, hc⟩ := h.at_ hlt
      have hts := all_take_succ (Sh.okB n) 0 t k (by have := Hlen.out; omega)
      have hfalse := all_of_take (Sh.okB n) 0 t k (by have := Hlen.out; omega)
      rw [Hall.out, Bool.true_and] at hts
      generalize t.getD k 0 = x at *
      have Hts := Lib.hid hts; clear hts
      have Hfa := Lib.hid hfalse; clear hfalse
      by_cases h0 : x < 0
      · go_wp2
        go_ret
        exact ⟨ret_bool (Hfa.out (Sh.okB_lo h0)).symm, rfl⟩
      · by_cases h1 : n ≤ x
        · go_wp2
          go_ret
          exact ⟨ret_bool (Hfa.out (Sh.okB_hi h1)).symm, rfl⟩
        · go_wp2
          go_round
          case rel => exact ⟨k + 1, by omega, by go_num, by rw [Hts.out]; exact Sh.okB_true (by omega) (by omega)⟩
          case measure => simp [intOf]; omega
    · have hall : t.all (Sh.okB n) = true := by
        have := Hall.out
        rwa [List.take_of_length_le (by have := Hlen.out; omega)] at this
      have Hal := Lib.hid hall; clear hall
      go_wp2
      go_ret
      exact ⟨ret_bool Hal.out.symm, rfl⟩

set_option maxHeartbeats 400000 in
theorem in_any (v : Value) (t : List Int) (n : Int) (w : World) (B : Nat) (h : Ints w B v t) :
    Calls Tryd.prog 33 #[.int .i64 n, v] w fun e w' => e = .returned (.bool (Sh.inB n t)) ∧ w = w' := by
  have h' := h
  obtain ⟨A, len, c, rfl, hlen, hmax, -⟩ := h'
  have Hlen := Lib.hid hlen; clear hlen
  go_enter Tryd.func33, Tryd.ntmps33
  go_wp2
  go_loop [5] (fun i => ∃ k : Nat, k ≤ len ∧ i = .int .i64 k ∧ (t.take k).all (Sh.okB n) = true) (fun i => len - (intOf i).toNat)
  case atStart => exact ⟨0, Nat.zero_le _, rfl, by simp⟩
  case round =>
    obtain ⟨k, hk, rfl, hall⟩ := hrel
    have Hall := Lib.hid hall; clear hall
    by_cases hlt : k < len
    · obtain ⟨ad, rfl, hb, hc⟩ := h.at_ hlt
      have hts := all_take_succ (Sh.okB n) 0 t k (by have := Hlen.out; omega)
      have hfalse := all_of_take (Sh.okB n) 0 t k (by have := Hlen.out; omega)
      rw [Hall.out, Bool.true_and] at hts
      generalize t.getD k 0 = x at *
      have Hts := Lib.hid hts; clear hts
      have Hfa := Lib.hid hfalse; clear hfalse
      by_cases h0 : x < 0
      · go_wp2
        go_ret
        exact ⟨ret_bool (Hfa.out (Sh.okB_lo h0)).symm, rfl⟩
      · by_cases h1 : n ≤ x
        · go_wp2
          go_ret
          exact ⟨ret_bool (Hfa.out (Sh.okB_hi h1)).symm, rfl⟩
        · go_wp2
          go_round
          case rel => exact ⟨k + 1, by omega, by go_num, by rw [Hts.out]; exact Sh.okB_true (by omega) (by omega)⟩
          case measure => simp [intOf]; omega
    · have hall : t.all (Sh.okB n) = true := by
        have := Hall.out
        rwa [List.take_of_length_le (by have := Hlen.out; omega)] at this
      have Hal := Lib.hid hall; clear hall
      go_wp2
      go_ret
      exact ⟨ret_bool Hal.out.symm, rfl⟩

set_option maxHeartbeats 400000 in
theorem equal_any (v u : Value) (s t : List Int) (w : World) (B : Nat) (h : Ints w B v s) (g : Ints w B u t) :
    Calls Tryd.prog 27 #[v, u] w fun e w' => e = .returned (.bool (Sh.eqB s t)) ∧ ∃ n, w' = w.drewN n := by
  have h' := h
  have g' := g
  obtain ⟨A, len, c, rfl, hlen, hmax, -⟩ := h'
  obtain ⟨A', len', c', rfl, glen, gmax, -⟩ := g'
  have Hlen := Lib.hid hlen; clear hlen
  have Glen := Lib.hid glen; clear glen
  by_cases hne : len = len'
  · subst hne
    go_enter Tryd.func27, Tryd.ntmps27
    go_wp2
    go_loopw [5] (fun i wr => ∃ k m : Nat, k ≤ len ∧ i = .int .i64 k ∧ Sh.eqB s t = Sh.eqB (s.drop k) (t.drop k) ∧ wr = w.drewN m) (fun i _ => len - (intOf i).toNat)
    case atStart => exact ⟨0, 0, Nat.zero_le _, rfl, by simp, rfl⟩
    case round =>
      obtain ⟨k, m, hk, rfl, heq, rfl⟩ := hrel
      have Heq := Lib.hid heq; clear heq
      by_cases hlt : k < len
      · obtain ⟨ad, rfl, hb, hc⟩ := h.at_ hlt
        obtain ⟨ad', rfl, hb', hc'⟩ := g.at_ hlt
        have hst := @Sh.eqB_step s t k (by have := Hlen.out; omega) (by have := Glen.out; omega)
        have hsp := @Sh.eqB_stop s t k (by have := Hlen.out; omega) (by have := Glen.out; omega)
        generalize s.getD k 0 = x at *
        generalize t.getD k 0 = y at *
        have Hst := Lib.hid hst; clear hst
        have Hsp := Lib.hid hsp; clear hsp
        by_cases he : x = y
        · subst he
          go_wp2
          go_quiet (fail)
          go_wp2
          exact ⟨⟨k + 1, _, by omega, by go_num, by rw [Heq.out]; exact Hst.out trivial, rfl⟩, by simp [intOf]; omega⟩
        · go_wp2
          go_quiet (fail)
          go_wp2
          go_ret
          exact ⟨ret_bool (by rw [Heq.out]; exact (Hsp.out he).symm), _, World.drewN_drewN _ _ _⟩
      · have hend := @Sh.eqB_end s t k (by have := Hlen.out; omega) (by have := Glen.out; omega)
        have Hend := Lib.hid hend; clear hend
        go_wp2
        go_ret
        exact ⟨ret_bool (by rw [Heq.out, Hend.out]), _, rfl⟩
  · have hl := @Sh.eqB_len s t (by rw [← Hlen.out, ← Glen.out]; exact hne)
    have Hl := Lib.hid hl; clear hl
    go_enter Tryd.func27, Tryd.ntmps27
    go_wp2
    go_ret
    exact ⟨ret_bool Hl.out.symm, 0, rfl⟩

end Go.Proofs.YtbddchonhicpiaaDoor
