/-
  Walks: shape.Tuple, the reference's Tuple.
-/
import Derived.Test.YtbddchonhicpiaaDoorRank
namespace Go.Proofs.YtbddchonhicpiaaDoor
open Go.RowKit

theorem int_info : (Tryd.prog.info? 3).map (fun i => (i.zero, i.size, i.bytes)) = some (some (.int .i64 0), 1, 8) := by kernel_rfl

/-- A row of zeros, as make lays it. -/
def zrow (k : Nat) : Array Value := madeCells #[.int .i64 0] k
theorem zrow_size (k : Nat) : (zrow k).size = k := size_madeCells _ _
theorem make_ints (k : Nat) (hk : k ≤ 1000000) (w : World) :
    (Instr.makeSlice 35 (.int .i64 (k : Int)) (.int .i64 (k : Int))).run Tryd.prog w = .ok (.slice (some ⟨w.heap.size, 0, none⟩) k k) (w.alloc (.cells (zrow k) 3)) := by
  obtain ⟨i0, hi, hz0, hz1, hz2⟩ := info_parts int_info
  have h := run_make_rowN (P := Tryd.prog) 35 3 i0 (.int .i64 0) Tryd.underlying35 hi hz0 .i64 .i64 k k (Nat.le_refl _) (by rw [hz2]; omega) (by omega) w
  rw [hz1, Nat.mul_one] at h
  exact h

theorem Ints.nil (w : World) (B : Nat) : Ints w B (.slice none 0 0) [] := ⟨_, _, _, rfl, rfl, by omega, Reads.none_⟩

set_option maxRecDepth 100000 in
set_option maxHeartbeats 400000 in
theorem tuple_any (n k r : Int) (w : World) :
    Calls Tryd.prog 25 #[.int .i64 n, .int .i64 k, .int .i64 r] w fun e w' => ∃ v, e = .returned (.tuple #[v, .int .i64 (Sh.tupE n k r).2]) ∧ Ints w' w'.heap.size v (Sh.tupE n k r).1 ∧ Below w.heap.size w w' := by
  have hpc := Sh.powE_cases n k
  have hdef : Sh.tupE n k r = if (Sh.powE n k).2 ≠ 0 then ([], (Sh.powE n k).2) else if r < 0 ∨ (Sh.powE n k).1 ≤ r then ([], 2) else (Sh.tupN n.toNat k.toNat r.toNat, 0) := rfl
  rcases hpc with ⟨h1, h2⟩ | ⟨a, b, rfl, rfl, ha1, ha2, hb2, hp, hok⟩
  · rw [if_pos h1] at hdef
    generalize hpe : Sh.powE n k = pe at *
    obtain ⟨p1, p2⟩ := pe
    simp only at h1 h2 hdef
    subst h2
    have Hpe := Lib.hid hpe; clear hpe
    have Hdef := Lib.hid hdef; clear hdef
    go_enter Tryd.func25, Tryd.ntmps25
    go_wp2_with (go_at_call 21; refine (power_any _ _ _).mono ?_; rw [Hpe.out]; rintro e w' ⟨rfl, rfl⟩)
    go_ret2
    rw [Hdef.out]
    exact ⟨_, rfl, Ints.nil _ _, Below.refl _ _⟩
  · rw [hok] at hdef
    by_cases hr : r < 0 ∨ ((a ^ b : Nat) : Int) ≤ r
    · rw [if_neg (by simp), if_pos hr] at hdef
      have Hok := Lib.hid hok; clear hok
      have Hdef := Lib.hid hdef; clear hdef
      generalize a ^ b = P at *
      by_cases hr0 : r < 0
      · clear hr
        go_enter Tryd.func25, Tryd.ntmps25
        go_wp2_with (go_at_call 21; refine (power_any _ _ _).mono ?_; rw [Hok.out]; rintro e w' ⟨rfl, rfl⟩)
        go_ret2
        rw [Hdef.out]
        exact ⟨_, rfl, Ints.nil _ _, Below.refl _ _⟩
      · have hr1 : (P : Int) ≤ r := by omega
        clear hr
        go_enter Tryd.func25, Tryd.ntmps25
        go_wp2_with (go_at_call 21; refine (power_any _ _ _).mono ?_; rw [Hok.out]; rintro e w' ⟨rfl, rfl⟩)
        go_ret2
        rw [Hdef.out]
        exact ⟨_, rfl, Ints.nil _ _, Below.refl _ _⟩
    · rw [if_neg (by simp), if_neg hr] at hdef
      have hr0 : 0 ≤ r := by omega
      have hr1 : r < ((a ^ b : Nat) : Int) := by omega
      obtain ⟨r, rfl⟩ := Int.eq_ofNat_of_zero_le hr0
      simp only [Int.toNat_natCast] at hdef
      have hlen := Sh.tupN_len a b r
      have hmk := make_ints b (by omega)
      have hr2 : r ≤ 4096 := by omega
      clear hr hr0
      have Hok := Lib.hid hok; clear hok
      have Hdef := Lib.hid hdef; clear hdef
      have Hlen := Lib.hid hlen; clear hlen
      generalize a ^ b = P at *
      go_enter Tryd.func25, Tryd.ntmps25
      go_wp2_with (go_at_call 21; refine (power_any _ _ _).mono ?_; rw [Hok.out]; rintro e w' ⟨rfl, rfl⟩)
      go_loopw [2, 11] (fun q i wr => ∃ (j m : Nat) (cs : Array Value) (s : List Int), j ≤ b ∧ i = .int .i64 ((j : Int) - 1) ∧ q = .int .i64 m ∧ m ≤ 4096 ∧ cs.size = b ∧ Blk wr w.heap.size 3 cs ∧
          Below w.heap.size w wr ∧ (∀ (i : Nat) (x : Int), s[i]? = some x → cs[j + i]? = some (Value.int .i64 x)) ∧ Sh.tupN a b r = Sh.tupN a j m ++ s) (fun _ i _ => (intOf i + 1).toNat)
      case atStart => exact ⟨b, r, _, [], Nat.le_refl _, rfl, rfl, hr2, zrow_size b, Blk.new _ _ _, (Below.refl _ _).alloc (Nat.le_refl _) _, by simp, by simp⟩
      case round =>
        obtain ⟨j, m, cs, s, hj, rfl, rfl, hm, hcs, hblk, hbel, hs, heq⟩ := hrel
        have Hcs := Lib.hid hcs; clear hcs
        have Hs := Lib.hid hs; clear hs
        have Heq := Lib.hid heq; clear heq
        rcases j with _ | j
        · go_wp2
          go_ret2
          rw [Hdef.out]
          refine ⟨_, rfl, ?_, hbel⟩
          simp only
          refine hblk.reads _ _ _ Hlen.out.symm (by omega) fun i x hx => ?_
          rw [Heq.out] at hx
          have := Hs.out i x (by simpa [Sh.tupN] using hx)
          simpa using this
        · obtain ⟨u, hc⟩ := hblk.some_ j (by rw [Hcs.out]; omega)
          have hf := hblk.frozen j
          have ej : ((j + 1 : Nat) : Int) - 1 = j := by omega
          rw [ej]
          clear ej
          have hq1 : ((m : Int) / (a : Int)) ≤ 4096 := by
            have h1 : m / a ≤ m := Nat.div_le_self _ _
            have h2 : ((m / a : Nat) : Int) = (m : Int) / (a : Int) := Int.natCast_ediv _ _
            omega
          have hq0 : 0 ≤ ((m : Int) / (a : Int)) := Int.ediv_nonneg (by omega) (by omega)
          go_wp2
          refine ⟨⟨j, m / a, _, ((m % a : Nat) : Int) :: s, by omega, rfl, by rw [Int.natCast_ediv], ?_, ?_, hblk.set_ j _, hbel.setCell (Nat.le_refl _) _, ?_, ?_⟩, ?_⟩
          · have h1 : m / a ≤ m := Nat.div_le_self _ _
            omega
          · rw [Array.size_setIfInBounds]; exact Hcs.out
          · intro i x hx
            rcases i with _ | i
            · simp only [List.getElem?_cons_zero, Option.some.injEq] at hx
              subst hx
              rw [Nat.add_zero, Array.getElem?_setIfInBounds_self_of_lt (by rw [Hcs.out]; omega), Int.natCast_emod]
            · rw [Array.getElem?_setIfInBounds_ne (by omega)]
              have := Hs.out i x (by simpa using hx)
              rw [show j + (i + 1) = j + 1 + i by omega]
              exact this
          · rw [Heq.out]; simp [Sh.tupN]
          · simp [intOf]

set_option maxRecDepth 100000 in
set_option maxHeartbeats 400000 in
theorem reftuple_any (n k r : Int) (w : World) :
    Calls Tryd.prog 26 #[.int .i64 n, .int .i64 k, .int .i64 r] w fun e w' => ∃ v, e = .returned (.tuple #[v, .int .i64 (Sh.tupE n k r).2]) ∧ Ints w' w'.heap.size v (Sh.tupE n k r).1 ∧ Below w.heap.size w w' := by
  have hpc := Sh.powE_cases n k
  have hdef : Sh.tupE n k r = if (Sh.powE n k).2 ≠ 0 then ([], (Sh.powE n k).2) else if r < 0 ∨ (Sh.powE n k).1 ≤ r then ([], 2) else (Sh.tupN n.toNat k.toNat r.toNat, 0) := rfl
  rcases hpc with ⟨h1, h2⟩ | ⟨a, b, rfl, rfl, ha1, ha2, hb2, hp, hok⟩
  · rw [if_pos h1] at hdef
    generalize hpe : Sh.powE n k = pe at *
    obtain ⟨p1, p2⟩ := pe
    simp only at h1 h2 hdef
    subst h2
    have Hpe := Lib.hid hpe; clear hpe
    have Hdef := Lib.hid hdef; clear hdef
    go_enter Tryd.func26, Tryd.ntmps26
    go_wp2_with (go_at_call 22; refine (refpower_any _ _ _).mono ?_; rw [Hpe.out]; rintro e w' ⟨rfl, rfl⟩)
    go_ret2
    rw [Hdef.out]
    exact ⟨_, rfl, Ints.nil _ _, Below.refl _ _⟩
  · rw [hok] at hdef
    by_cases hr : r < 0 ∨ ((a ^ b : Nat) : Int) ≤ r
    · rw [if_neg (by simp), if_pos hr] at hdef
      have Hok := Lib.hid hok; clear hok
      have Hdef := Lib.hid hdef; clear hdef
      generalize a ^ b = P at *
      by_cases hr0 : r < 0
      · clear hr
        go_enter Tryd.func26, Tryd.ntmps26
        go_wp2_with (go_at_call 22; refine (refpower_any _ _ _).mono ?_; rw [Hok.out]; rintro e w' ⟨rfl, rfl⟩)
        go_ret2
        rw [Hdef.out]
        exact ⟨_, rfl, Ints.nil _ _, Below.refl _ _⟩
      · have hr1 : (P : Int) ≤ r := by omega
        clear hr
        go_enter Tryd.func26, Tryd.ntmps26
        go_wp2_with (go_at_call 22; refine (refpower_any _ _ _).mono ?_; rw [Hok.out]; rintro e w' ⟨rfl, rfl⟩)
        go_ret2
        rw [Hdef.out]
        exact ⟨_, rfl, Ints.nil _ _, Below.refl _ _⟩
    · rw [if_neg (by simp), if_neg hr] at hdef
      have hr0 : 0 ≤ r := by omega
      have hr1 : r < ((a ^ b : Nat) : Int) := by omega
      obtain ⟨r, rfl⟩ := Int.eq_ofNat_of_zero_le hr0
      simp only [Int.toNat_natCast] at hdef
      have hlen := Sh.tupN_len a b r
      have hmk := make_ints b (by omega)
      have hr2 : r ≤ 4096 := by omega
      clear hr hr0
      have Hok := Lib.hid hok; clear hok
      have Hdef := Lib.hid hdef; clear hdef
      have Hlen := Lib.hid hlen; clear hlen
      generalize a ^ b = P at *
      go_enter Tryd.func26, Tryd.ntmps26
      go_wp2_with (go_at_call 22; refine (refpower_any _ _ _).mono ?_; rw [Hok.out]; rintro e w' ⟨rfl, rfl⟩)
      go_loopw [2, 11] (fun q i wr => ∃ (j m : Nat) (cs : Array Value) (s : List Int), j ≤ b ∧ i = .int .i64 ((j : Int) - 1) ∧ q = .int .i64 m ∧ m ≤ 4096 ∧ cs.size = b ∧ Blk wr w.heap.size 3 cs ∧
          Below w.heap.size w wr ∧ (∀ (i : Nat) (x : Int), s[i]? = some x → cs[j + i]? = some (Value.int .i64 x)) ∧ Sh.tupN a b r = Sh.tupN a j m ++ s) (fun _ i _ => (intOf i + 1).toNat)
      case atStart => exact ⟨b, r, _, [], Nat.le_refl _, rfl, rfl, hr2, zrow_size b, Blk.new _ _ _, (Below.refl _ _).alloc (Nat.le_refl _) _, by simp, by simp⟩
      case round =>
        obtain ⟨j, m, cs, s, hj, rfl, rfl, hm, hcs, hblk, hbel, hs, heq⟩ := hrel
        have Hcs := Lib.hid hcs; clear hcs
        have Hs := Lib.hid hs; clear hs
        have Heq := Lib.hid heq; clear heq
        rcases j with _ | j
        · go_wp2
          go_ret2
          rw [Hdef.out]
          refine ⟨_, rfl, ?_, hbel⟩
          simp only
          refine hblk.reads _ _ _ Hlen.out.symm (by omega) fun i x hx => ?_
          rw [Heq.out] at hx
          have := Hs.out i x (by simpa [Sh.tupN] using hx)
          simpa using this
        · obtain ⟨u, hc⟩ := hblk.some_ j (by rw [Hcs.out]; omega)
          have hf := hblk.frozen j
          have ej : ((j + 1 : Nat) : Int) - 1 = j := by omega
          rw [ej]
          clear ej
          have hq1 : ((m : Int) / (a : Int)) ≤ 4096 := by
            have h1 : m / a ≤ m := Nat.div_le_self _ _
            have h2 : ((m / a : Nat) : Int) = (m : Int) / (a : Int) := Int.natCast_ediv _ _
            omega
          have hq0 : 0 ≤ ((m : Int) / (a : Int)) := Int.ediv_nonneg (by omega) (by omega)
          go_wp2
          refine ⟨⟨j, m / a, _, ((m % a : Nat) : Int) :: s, by omega, rfl, by rw [Int.natCast_ediv], ?_, ?_, hblk.set_ j _, hbel.setCell (Nat.le_refl _) _, ?_, ?_⟩, ?_⟩
          · have h1 : m / a ≤ m := Nat.div_le_self _ _
            omega
          · rw [Array.size_setIfInBounds]; exact Hcs.out
          · intro i x hx
            rcases i with _ | i
            · simp only [List.getElem?_cons_zero, Option.some.injEq] at hx
              subst hx
              rw [Nat.add_zero, Array.getElem?_setIfInBounds_self_of_lt (by rw [Hcs.out]; omega), Int.natCast_emod]
            · rw [Array.getElem?_setIfInBounds_ne (by omega)]
              have := Hs.out i x (by simpa using hx)
              rw [show j + (i + 1) = j + 1 + i by omega]
              exact this
          · rw [Heq.out]; simp [Sh.tupN]
          · simp [intOf]

end Go.Proofs.YtbddchonhicpiaaDoor
