/-
  Walk: the reference's Among.
-/
import Derived.Test.YtbddchonhicpiaaDoorElems
import Derived.Test.YtbddchonhicpiaaDoorCopyrel
import Derived.Test.YtbddchonhicpiaaDoorRfind
namespace Go.Proofs.YtbddchonhicpiaaDoor
open Go.RowKit

set_option maxRecDepth 100000 in
set_option maxHeartbeats 400000 in
theorem among_any (v u : Value) (ts : List (List Int)) (t : List Int) (w : World) (B : Nat) (h : Tups w B v ts) (ht : Ints w B u t) :
    Calls Tryd.prog 32 #[v, u] w fun e w' => e = .returned (.bool (decide (t ∈ ts))) ∧ ∃ n, w' = w.drewN n := by
  have h' := h
  obtain ⟨A, len, c, rfl, hlen, hmax, -⟩ := h'
  have ht' := ht
  obtain ⟨TA, TN, TC, rfl, -⟩ := ht'
  have Hlen := Lib.hid hlen; clear hlen
  go_enter Tryd.func32, Tryd.ntmps32
  go_wp2
  go_loopw [5] (fun i wr => ∃ k n : Nat, k ≤ len ∧ i = .int .i64 k ∧ t ∉ ts.take k ∧ wr = w.drewN n) (fun i _ => len - (intOf i).toNat)
  case atStart => exact ⟨0, 0, Nat.zero_le _, rfl, by simp, rfl⟩
  case round =>
    obtain ⟨k, n, hk, rfl, hno, rfl⟩ := hrel
    by_cases hlt : k < len
    · obtain ⟨ad, u2, rfl, hb, hcu, hiu⟩ := (h.drewN n).at_ hlt
      have hiu' := hiu
      obtain ⟨UA, UN, UC, rfl, -⟩ := hiu'
      have hts : ts[k]? = some (ts.getD k []) := getD_some (d := []) (by rw [← Hlen.out]; exact hlt)
      generalize ts.getD k [] = x at *
      have Hts := Lib.hid hts; clear hts
      have heqc := equal_any (.slice UA UN UC) (.slice TA TN TC) x t (w.drewN n) B hiu (ht.drewN n)
      cases heq : Sh.eqB x t
      · rw [heq] at heqc
        have Heqc := Lib.hid heqc; clear heqc
        have hno' : t ∉ ts.take (k + 1) := by
          rw [take_snoc Hts.out, List.mem_append]
          rintro (hh | hh)
          · exact hno hh
          · rw [List.mem_singleton] at hh
            rw [(Sh.eqB_iff x t).2 hh.symm] at heq
            cases heq
        have Hno := Lib.hid hno'; clear hno' hno heq
        go_wp2_with (go_at_call 27; refine Heqc.out.mono ?_; rintro e w' ⟨rfl, n7, rfl⟩)
        exact ⟨⟨k + 1, _, by omega, by go_num, Hno.out, rfl⟩, by simp [intOf]; omega⟩
      · rw [heq] at heqc
        have Heqc := Lib.hid heqc; clear heqc
        have hin : decide (t ∈ ts) = true := by
          have e := (Sh.eqB_iff x t).1 heq
          subst e
          exact decide_eq_true (List.mem_of_getElem? Hts.out)
        have Hin := Lib.hid hin; clear hin heq hno
        go_wp2_with (go_at_call 27; refine Heqc.out.mono ?_; rintro e w' ⟨rfl, n7, rfl⟩)
        go_ret
        exact ⟨ret_bool (by rw [Hin.out]), _, rfl⟩
    · obtain rfl : k = len := by omega
      have hf : decide (t ∈ ts) = false := decide_eq_false (by rwa [List.take_of_length_le (by have := Hlen.out; omega)] at hno)
      have Hf := Lib.hid hf; clear hf hno
      go_wp2
      go_ret
      exact ⟨ret_bool (by rw [Hf.out]), _, rfl⟩

end Go.Proofs.YtbddchonhicpiaaDoor
