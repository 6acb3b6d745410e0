/-
  Walks: the reference's Less, the library's cmp.Compare and slices.Compare at ints.
-/
import Derived.Test.YtbddchonhicpiaaDoorElems
namespace Go.Proofs.YtbddchonhicpiaaDoor
open Go.RowKit

set_option maxHeartbeats 400000 in
theorem less_any (v u : Value) (s t : List Int) (w : World) (B : Nat) (h : Ints w B v s) (g : Ints w B u t) (hst : s.length ≤ t.length) :
    Calls Tryd.prog 29 #[v, u] w fun e w' => e = .returned (.bool (Sh.lessB s t)) ∧ ∃ n, w' = w.drewN n := by
  have h' := h
  have g' := g
  obtain ⟨A, len, c, rfl, hlen, hmax, -⟩ := h'
  obtain ⟨A', len', c', rfl, glen, gmax, -⟩ := g'
  have hll : len ≤ len' := by omega
  have Hlen := Lib.hid hlen; clear hlen
  have Glen := Lib.hid glen; clear glen
  clear hst
  go_enter Tryd.func29, Tryd.ntmps29
  go_wp2
  go_loopw [5] (fun i wr => ∃ k m : Nat, k ≤ len ∧ i = .int .i64 k ∧ Sh.lessB s t = Sh.lessB (s.drop k) (t.drop k) ∧ wr = w.drewN m) (fun i _ => len - (intOf i).toNat)
  case atStart => exact ⟨0, 0, Nat.zero_le _, rfl, by simp, rfl⟩
  case round =>
    obtain ⟨k, m, hk, rfl, heq, rfl⟩ := hrel
    have Heq := Lib.hid heq; clear heq
    by_cases hlt : k < len
    · have hlt' : k < len' := by omega
      obtain ⟨ad, rfl, hb, hc⟩ := h.at_ hlt
      obtain ⟨ad', rfl, hb', hc'⟩ := g.at_ hlt'
      have hst := @Sh.lessB_step s t k (by have := Hlen.out; omega) (by have := Glen.out; omega)
      have hsp := @Sh.lessB_stop s t k (by have := Hlen.out; omega) (by have := Glen.out; omega)
      generalize s.getD k 0 = x at *
      generalize t.getD k 0 = y at *
      have Hst := Lib.hid hst; clear hst
      have Hsp := Lib.hid hsp; clear hsp
      by_cases he : x = y
      · subst he
        go_wp2
        go_quiet (fail)
        go_wp2
        exact ⟨⟨k + 1, _, by omega, by go_num, by rw [Heq.out]; exact Hst.out trivial, rfl⟩, by simp [intOf]; omega⟩
      · go_wp2
        go_quiet (fail)
        go_wp2
        go_quiet (fail)
        go_wp2
        go_ret
        exact ⟨ret_bool (by rw [Heq.out]; exact (Hsp.out he).symm), _, by simp only [World.drewN_drewN]; rfl⟩
    · have hend := @Sh.lessB_end s t k (by have := Hlen.out; omega)
      have Hend := Lib.hid hend; clear hend
      go_wp2
      go_ret
      exact ⟨ret_bool (by rw [Heq.out, Hend.out]), _, rfl⟩

theorem isnan_any (x : Int) (w : World) :
    Calls Tryd.prog 110 #[.int .i64 x] w fun e w' => e = .returned (.bool false) ∧ w = w' := by
  go_enter Tryd.func110, Tryd.ntmps110
  go_wp2
  go_ret
  exact ⟨by simp, rfl⟩

set_option maxHeartbeats 400000 in
theorem cmp_any (x y : Int) (w : World) :
    Calls Tryd.prog 92 #[.int .i64 x, .int .i64 y] w fun e w' => e = .returned (.int .i64 (Sh.cmpI [x] [y])) ∧ w = w' := by
  rcases Int.lt_trichotomy x y with h | h | h
  · have hs : Sh.cmpI [x] [y] = -1 := by simp [Sh.cmpI, h]
    have Hs := Lib.hid hs; clear hs
    go_enter Tryd.func92, Tryd.ntmps92
    go_wp2_with (go_at_call 110; refine (isnan_any _ _).mono ?_; rintro e w' ⟨rfl, rfl⟩)
    go_ret
    exact ⟨ret_int Hs.out.symm, rfl⟩
  · have hs : Sh.cmpI [x] [y] = 0 := by simp [Sh.cmpI, h]
    have Hs := Lib.hid hs; clear hs
    subst h
    go_enter Tryd.func92, Tryd.ntmps92
    go_wp2_with (go_at_call 110; refine (isnan_any _ _).mono ?_; rintro e w' ⟨rfl, rfl⟩)
    go_ret
    exact ⟨ret_int Hs.out.symm, rfl⟩
  · have hs : Sh.cmpI [x] [y] = 1 := by simp [Sh.cmpI, h]; omega
    have Hs := Lib.hid hs; clear hs
    go_enter Tryd.func92, Tryd.ntmps92
    go_wp2_with (go_at_call 110; refine (isnan_any _ _).mono ?_; rintro e w' ⟨rfl, rfl⟩)
    go_ret
    exact ⟨ret_int Hs.out.symm, rfl⟩

set_option maxHeartbeats 400000 in
theorem compare_any (v u : Value) (s t : List Int) (w : World) (B : Nat) (h : Ints w B v s) (g : Ints w B u t) :
    Calls Tryd.prog 74 #[v, u] w fun e w' => e = .returned (.int .i64 (Sh.cmpI s t)) ∧ w = w' := by
  have h' := h
  have g' := g
  obtain ⟨A, len, c, rfl, hlen, hmax, -⟩ := h'
  obtain ⟨A', len', c', rfl, glen, gmax, -⟩ := g'
  have Hlen := Lib.hid hlen; clear hlen
  have Glen := Lib.hid glen; clear glen
  go_enter Tryd.func74, Tryd.ntmps74
  go_wp2
  go_loop [11] (fun i => ∃ k : Nat, k ≤ len ∧ k ≤ len' ∧ i = .int .i64 k ∧ Sh.cmpI s t = Sh.cmpI (s.drop k) (t.drop k)) (fun i => len - (intOf i).toNat)
  case atStart => exact ⟨0, Nat.zero_le _, Nat.zero_le _, rfl, by simp⟩
  case round =>
    obtain ⟨k, hk, hk', rfl, heq⟩ := hrel
    have Heq := Lib.hid heq; clear heq
    by_cases hlt : k < len
    · obtain ⟨ad, rfl, hb, hc⟩ := h.at_ hlt
      by_cases hlt' : k < len'
      · obtain ⟨ad', rfl, hb', hc'⟩ := g.at_ hlt'
        have hst := @Sh.cmpI_step s t k (by have := Hlen.out; omega) (by have := Glen.out; omega)
        have h1 := @Sh.cmpI_lt s t k (by have := Hlen.out; omega) (by have := Glen.out; omega)
        have h2 := @Sh.cmpI_gt s t k (by have := Hlen.out; omega) (by have := Glen.out; omega)
        generalize s.getD k 0 = x at *
        generalize t.getD k 0 = y at *
        have Hst := Lib.hid hst; clear hst
        have H1 := Lib.hid h1; clear h1
        have H2 := Lib.hid h2; clear h2
        rcases Int.lt_trichotomy x y with hxy | hxy | hxy
        · have hs : Sh.cmpI [x] [y] = -1 := by simp [Sh.cmpI, hxy]
          go_wp2_with (go_at_call 92; refine (cmp_any _ _ _).mono ?_; rintro e w' ⟨rfl, rfl⟩)
          go_ret
          exact ⟨ret_int (by rw [Heq.out]; exact (H1.out hxy).symm), rfl⟩
        · have hs : Sh.cmpI [x] [y] = 0 := by simp [Sh.cmpI, hxy]
          subst hxy
          go_wp2_with (go_at_call 92; refine (cmp_any _ _ _).mono ?_; rintro e w' ⟨rfl, rfl⟩)
          go_round
          case rel => exact ⟨k + 1, by omega, by omega, by go_num, by rw [Heq.out]; exact Hst.out trivial⟩
          case measure => simp [intOf]; omega
        · have hs : Sh.cmpI [x] [y] = 1 := by simp [Sh.cmpI, hxy]; omega
          go_wp2_with (go_at_call 92; refine (cmp_any _ _ _).mono ?_; rintro e w' ⟨rfl, rfl⟩)
          go_ret
          exact ⟨ret_int (by rw [Heq.out]; exact (H2.out hxy).symm), rfl⟩
      · have hend := @Sh.cmpI_longer s t k (by have := Hlen.out; omega) (by have := Glen.out; omega)
        have Hend := Lib.hid hend; clear hend
        go_wp2
        go_ret
        exact ⟨ret_int (by rw [Heq.out, Hend.out]), rfl⟩
    · by_cases hlt' : k < len'
      · have hend := @Sh.cmpI_shorter s t k (by have := Hlen.out; omega) (by have := Glen.out; omega)
        have Hend := Lib.hid hend; clear hend
        go_wp2
        go_ret
        exact ⟨ret_int (by rw [Heq.out, Hend.out]), rfl⟩
      · have hend := @Sh.cmpI_end s t k (by have := Hlen.out; omega) (by have := Glen.out; omega)
        have Hend := Lib.hid hend; clear hend
        go_wp2
        go_ret
        exact ⟨ret_int (by rw [Heq.out, Hend.out]), rfl⟩

end Go.Proofs.YtbddchonhicpiaaDoor
