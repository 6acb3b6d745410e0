/-
  Walks: shape.validRel, the reference's rel.
-/
import Derived.Test.YtbddchonhicpiaaDoorLess
import Derived.Test.YtbddchonhicpiaaDoorRank
import Derived.Test.YtbddchonhicpiaaDoorName
namespace Go.Proofs.YtbddchonhicpiaaDoor
open Go.RowKit

set_option maxRecDepth 100000 in
set_option maxHeartbeats 400000 in
theorem validRel_any (r : Sh.Rel) (v : Value) (n : Int) (w : World) (B : Nat) (hB : B ≤ w.heap.size) (h : Tups w B v r.tuples) (hs : r.name.size ≤ 140737488351232) :
    Calls Tryd.prog 53 #[.agg #[.string r.name, .int .i64 r.arity, v], .int .i64 n] w fun e w' => e = .returned (.bool (Sh.relB n r)) ∧ Below w.heap.size w w' := by
  obtain ⟨name, arity, ts⟩ := r
  simp only at h hs ⊢
  have hdef : Sh.relB n ⟨name, arity, ts⟩ = (decide ((Sh.powE n arity).2 = 0) && Sh.nameB name.toList && (List.range ts.length).all (Sh.tupOk n arity ts)) := rfl
  generalize hpe : Sh.powE n arity = pe at hdef
  obtain ⟨p1, p2⟩ := pe
  simp only at hdef
  have Hpe := Lib.hid hpe; clear hpe
  by_cases hp2 : p2 = 0
  · subst hp2
    cases hnm : Sh.nameB name.toList
    · have hv : Sh.relB n ⟨name, arity, ts⟩ = false := by rw [hdef, hnm]; simp
      have Hv := Lib.hid hv; clear hv
      have Hd := Lib.hid hdef; clear hdef
      have Hnm := Lib.hid hnm; clear hnm
      go_enter Tryd.func53, Tryd.ntmps53
      go_wp2_with (first | (go_at_call 21; refine (power_any _ _ _).mono ?_; rw [Hpe.out]; rintro e w' ⟨rfl, rfl⟩) | (go_at_call 17; refine (name_any _ _ hs).mono ?_; rw [Hnm.out]; rintro e w1 ⟨rfl, hb1⟩))
      go_ret
      exact ⟨ret_bool Hv.out.symm, ((Below.refl _ _).alloc (Nat.le_refl _) _).trans (hb1.mono (by simp))⟩
    · have hv : Sh.relB n ⟨name, arity, ts⟩ = (List.range ts.length).all (Sh.tupOk n arity ts) := by rw [hdef, hnm]; simp
      have Hv := Lib.hid hv; clear hv
      have Hd := Lib.hid hdef; clear hdef
      have Hnm := Lib.hid hnm; clear hnm
      have h' := h
      obtain ⟨A, len, c, rfl, hlen, hmax, -⟩ := h'
      have Hlen := Lib.hid hlen; clear hlen
      go_enter Tryd.func53, Tryd.ntmps53
      go_wp2_with (first
        | (go_at_call 21; refine (power_any _ _ _).mono ?_; rw [Hpe.out]; rintro e w' ⟨rfl, rfl⟩)
        | (go_at_call 17
           refine (name_any _ _ hs).mono ?_
           rw [Hnm.out]
           rintro e w1 ⟨rfl, hb1⟩
           have hblk := (Blk.new w 51 #[.string name, .int .i64 arity, .slice A len c]).below hb1 (by simp)
           have c1 : w1.cell? ⟨w.heap.size, 1, none⟩ = some (.int .i64 arity) := hblk.cell 1
           have c2 : w1.cell? ⟨w.heap.size, 2, none⟩ = some (.slice A len c) := hblk.cell 2
           have ht1 := (h.below (((Below.refl _ _).alloc (Nat.le_refl _) _).mono hB)).below (hb1.mono (by simp; omega))
           have hbw : Below w.heap.size w w1 := ((Below.refl _ _).alloc (Nat.le_refl _) _).trans (hb1.mono (by simp))
           clear hb1 hblk))
      go_loop [27] (fun i => ∃ k : Nat, k ≤ len ∧ i = .int .i64 k ∧ (List.range k).all (Sh.tupOk n arity ts) = true) (fun i => len - (intOf i).toNat)
      case atStart => exact ⟨0, Nat.zero_le _, rfl, by simp⟩
      case round =>
        obtain ⟨k, hk, rfl, hall⟩ := hrel
        by_cases hlt : k < len
        · obtain ⟨ad, u, rfl, hb, hcu, hiu⟩ := ht1.at_ hlt
          have hiu' := hiu
          obtain ⟨A2, n2, c2, rfl, hn2, hm2, -⟩ := hiu'
          have hsucc := Sh.range_all_succ (Sh.tupOk n arity ts) k
          rw [hall, Bool.true_and] at hsucc
          have hfalse : Sh.tupOk n arity ts k = false → Sh.relB n ⟨name, arity, ts⟩ = false := fun hp => by
            rw [Hv.out]; exact Sh.range_all_false _ (by rw [← Hlen.out]; exact hlt) hp
          have htk : Sh.tupOk n arity ts k = (decide (((ts.getD k []).length : Int) = arity) && Sh.inB n (ts.getD k []) && (decide (k = 0) || Sh.lessB (ts.getD (k - 1) []) (ts.getD k []))) := rfl
          have Hall := Lib.hid hall; clear hall
          have Hsucc := Lib.hid hsucc; clear hsucc
          have Hfa := Lib.hid hfalse; clear hfalse
          by_cases hla : (n2 : Int) = arity
          · cases hin : Sh.inB n (ts.getD k [])
            · have Hf := Lib.hid (Hfa.out (by rw [htk, hin]; simp))
              have Hin := Lib.hid hin; clear hin
              have Hla := Lib.hid hla; clear hla
              have Hn2 := Lib.hid hn2; clear hn2
              clear htk
              have hbeq : ((n2 : Int) == arity) = true := by rw [Hla.out]; simp
              have hbne : ((n2 : Int) != arity) = false := by rw [Hla.out]; simp
              go_wp2_with (go_at_call 60; refine (elements_any _ _ _ _ _ hiu).mono ?_; rw [Hin.out]; rintro e w' ⟨rfl, rfl⟩)
              go_ret
              exact ⟨ret_bool Hf.out.symm, hbw⟩
            · rcases k with _ | k
              · rw [show ad.add 0 = ad from rfl] at hcu
                have htk' : Sh.tupOk n arity ts 0 = true := by rw [htk, hin, ← hn2]; simp [hla]
                have Htk := Lib.hid htk'; clear htk' htk
                have Hin := Lib.hid hin; clear hin
                have Hn2 := Lib.hid hn2; clear hn2
                have Hla := Lib.hid hla; clear hla
                have hbeq : ((n2 : Int) == arity) = true := by rw [Hla.out]; simp
                have hbne : ((n2 : Int) != arity) = false := by rw [Hla.out]; simp
                go_wp2_with (go_at_call 60; refine (elements_any _ _ _ _ _ hiu).mono ?_; rw [Hin.out]; rintro e w' ⟨rfl, rfl⟩)
                go_round
                case rel => exact ⟨1, by omega, by go_num, by rw [Hsucc.out]; exact Htk.out⟩
                case measure => simp [intOf]; omega
              · rw [show ad.add (k + 1) = ⟨ad.block, ad.off + (k + 1), none⟩ from rfl] at hcu
                have hprev := Sh.tupOk_len (Sh.range_all_get Hall.out (show k < k + 1 by omega))
                obtain ⟨ad', u', hadeq, hb', hcu', hiu'⟩ := ht1.at_ (show k < len by omega)
                injection hadeq with hadeq
                subst hadeq
                have hcl := Sh.cmpI_less (ts.getD k []) (ts.getD (k + 1) []) (by omega)
                have htk' : Sh.tupOk n arity ts (k + 1) = Sh.lessB (ts.getD k []) (ts.getD (k + 1) []) := by rw [htk, hin, ← hn2]; simp [hla]
                have Htk := Lib.hid htk'; clear htk' htk
                have Hin := Lib.hid hin; clear hin
                have Hn2 := Lib.hid hn2; clear hn2
                have Hla := Lib.hid hla; clear hla
                have Hprev := Lib.hid hprev; clear hprev
                have hbeq : ((n2 : Int) == arity) = true := by rw [Hla.out]; simp
                have hbne : ((n2 : Int) != arity) = false := by rw [Hla.out]; simp
                generalize hci : Sh.cmpI (ts.getD k []) (ts.getD (k + 1) []) = ci at *
                have Hci := Lib.hid hci; clear hci
                by_cases h0 : ci < 0
                · have hl := Hsucc.out.trans (Htk.out.trans (hcl.1 h0))
                  have Hl := Lib.hid hl; clear hl hcl
                  go_wp2_with (first | (go_at_call 60; refine (elements_any _ _ _ _ _ hiu).mono ?_; rw [Hin.out]; rintro e w' ⟨rfl, rfl⟩) | (go_at_call 74; refine (compare_any _ _ _ _ _ _ hiu' hiu).mono ?_; rw [Hci.out]; rintro e w' ⟨rfl, rfl⟩))
                  go_round
                  case rel => exact ⟨k + 1 + 1, by omega, by go_num, Hl.out⟩
                  case measure => simp [intOf]; omega
                · have hl : Sh.lessB (ts.getD k []) (ts.getD (k + 1) []) = false := by
                    cases hb : Sh.lessB (ts.getD k []) (ts.getD (k + 1) [])
                    · rfl
                    · exact absurd (hcl.2 hb) h0
                  have Hf := Lib.hid (Hfa.out (Htk.out.trans hl))
                  clear hl hcl
                  go_wp2_with (first | (go_at_call 60; refine (elements_any _ _ _ _ _ hiu).mono ?_; rw [Hin.out]; rintro e w' ⟨rfl, rfl⟩) | (go_at_call 74; refine (compare_any _ _ _ _ _ _ hiu' hiu).mono ?_; rw [Hci.out]; rintro e w' ⟨rfl, rfl⟩))
                  go_ret
                  exact ⟨ret_bool Hf.out.symm, hbw⟩
          · have Hf := Lib.hid (Hfa.out (by rw [htk, ← hn2, decide_eq_false hla]; simp))
            have Hn2 := Lib.hid hn2; clear hn2
            have hbeq : ((n2 : Int) == arity) = false := by simpa using hla
            have hbne : ((n2 : Int) != arity) = true := by simpa using hla
            clear htk
            go_wp2
            go_ret
            exact ⟨ret_bool Hf.out.symm, hbw⟩
        · obtain rfl : k = len := by omega
          have hfin := Hv.out
          rw [← Hlen.out, hall] at hfin
          have Hfin := Lib.hid hfin; clear hfin hall
          go_wp2
          go_ret
          exact ⟨ret_bool Hfin.out.symm, hbw⟩
  · have hv : Sh.relB n ⟨name, arity, ts⟩ = false := by rw [hdef]; simp [hp2]
    have Hv := Lib.hid hv; clear hv
    have Hd := Lib.hid hdef; clear hdef
    go_enter Tryd.func53, Tryd.ntmps53
    go_wp2_with (go_at_call 21; refine (power_any _ _ _).mono ?_; rw [Hpe.out]; rintro e w' ⟨rfl, rfl⟩)
    go_ret
    exact ⟨ret_bool Hv.out.symm, (Below.refl _ _).alloc (Nat.le_refl _) _⟩

set_option maxRecDepth 100000 in
set_option maxHeartbeats 400000 in
theorem refrel_any (r : Sh.Rel) (v : Value) (n : Nat) (w : World) (B : Nat) (hB : B ≤ w.heap.size) (h : Tups w B v r.tuples) (hs : r.name.size ≤ 140737488351232) (hn1 : 1 ≤ n) (hn2 : n ≤ 64) :
    Calls Tryd.prog 52 #[.int .i64 (n : Int), .agg #[.string r.name, .int .i64 r.arity, v]] w fun e w' => e = .returned (.bool (Sh.relB n r)) ∧ Below w.heap.size w w' := by
  obtain ⟨name, arity, ts⟩ := r
  simp only at h hs ⊢
  have hdef : Sh.relB n ⟨name, arity, ts⟩ = (decide ((Sh.powE n arity).2 = 0) && Sh.nameB name.toList && (List.range ts.length).all (Sh.tupOk n arity ts)) := rfl
  cases hnm : Sh.nameB name.toList
  · have hv : Sh.relB n ⟨name, arity, ts⟩ = false := by rw [hdef, hnm]; simp
    have Hv := Lib.hid hv; clear hv hdef
    have Hnm := Lib.hid hnm; clear hnm
    go_enter Tryd.func52, Tryd.ntmps52
    go_wp2_with (go_at_call 18; refine (refname_any _ _ hs).mono ?_; rw [Hnm.out]; rintro e w' ⟨rfl, rfl⟩)
    go_ret
    exact ⟨ret_bool Hv.out.symm, (Below.refl _ _).alloc (Nat.le_refl _) _⟩
  · have Hnm := Lib.hid hnm
    by_cases h0 : arity < 0
    · have hv : Sh.relB n ⟨name, arity, ts⟩ = false := by rw [hdef, Sh.powE_arg (by omega)]; simp
      have Hv := Lib.hid hv; clear hv hdef hnm
      go_enter Tryd.func52, Tryd.ntmps52
      go_wp2_with (go_at_call 18; refine (refname_any _ _ hs).mono ?_; rw [Hnm.out]; rintro e w' ⟨rfl, rfl⟩)
      go_ret
      exact ⟨ret_bool Hv.out.symm, (Below.refl _ _).alloc (Nat.le_refl _) _⟩
    · by_cases h12 : 12 < arity
      · have hv : Sh.relB n ⟨name, arity, ts⟩ = false := by rw [hdef, Sh.powE_arg (by omega)]; simp
        have Hv := Lib.hid hv; clear hv hdef hnm
        go_enter Tryd.func52, Tryd.ntmps52
        go_wp2_with (go_at_call 18; refine (refname_any _ _ hs).mono ?_; rw [Hnm.out]; rintro e w' ⟨rfl, rfl⟩)
        go_ret
        exact ⟨ret_bool Hv.out.symm, (Below.refl _ _).alloc (Nat.le_refl _) _⟩
      · obtain ⟨a, rfl⟩ := Int.eq_ofNat_of_zero_le (show 0 ≤ arity by omega)
        have hbd := Sh.powR_bd n a hn2
        obtain ⟨e1, e2⟩ := Sh.powR_eq n a hn1
        by_cases hp : n ^ a ≤ 4096
        · have hp' : Sh.powR n a ≤ 4096 := by rw [e1 hp]; exact hp
          have hv : Sh.relB n ⟨name, a, ts⟩ = (List.range ts.length).all (Sh.tupOk n a ts) := by rw [hdef, Sh.powE_ok hn1 hn2 (by omega) hp, hnm]; simp
          have Hv := Lib.hid hv; clear hv hdef hnm e1 e2 hp
          generalize hP : Sh.powR n a = P at *
          have HP := Lib.hid hP; clear hP
          have h' := h
          obtain ⟨A, len, c, rfl, hlen, hmax, -⟩ := h'
          have Hlen := Lib.hid hlen; clear hlen
          go_enter Tryd.func52, Tryd.ntmps52
          go_wp2_with (first
            | (go_at_call 18; refine (refname_any _ _ hs).mono ?_; rw [Hnm.out]; rintro e w' ⟨rfl, rfl⟩)
            | (go_at_call 28; refine (refpow_any _ _ _ hn2 (by omega)).mono ?_; rw [HP.out]; rintro e w' ⟨rfl, rfl⟩))
          have c1 := (Blk.new w 51 #[.string name, .int .i64 a, .slice A len c]).cell 1
          have c2 := (Blk.new w 51 #[.string name, .int .i64 a, .slice A len c]).cell 2
          have ht1 := h.below (((Below.refl _ _).alloc (Nat.le_refl _) (.cells #[.string name, .int .i64 a, .slice A len c] 51)).mono hB)
          have hbw := (Below.refl _ _).alloc (Nat.le_refl w.heap.size) (.cells #[.string name, .int .i64 a, .slice A len c] 51)
          generalize w.alloc (.cells #[.string name, .int .i64 a, .slice A len c] 51) = W at *
          have c1 : W.cell? ⟨w.heap.size, 1, none⟩ = some (.int .i64 a) := c1
          have c2 : W.cell? ⟨w.heap.size, 2, none⟩ = some (.slice A len c) := c2
          go_loopw [5] (fun i wr => ∃ k m : Nat, k ≤ len ∧ i = .int .i64 k ∧ (List.range k).all (Sh.tupOk n a ts) = true ∧ wr = W.drewN m) (fun i _ => len - (intOf i).toNat)
          case atStart => exact ⟨0, 0, Nat.zero_le _, rfl, by simp, rfl⟩
          case round =>
            obtain ⟨k, m, hk, rfl, hall, rfl⟩ := hrel
            by_cases hlt : k < len
            · obtain ⟨ad, u, rfl, hb, hcu, hiu⟩ := ht1.at_ hlt
              have hiu' := hiu
              obtain ⟨A2, n2, c2', rfl, hn2, hm2, -⟩ := hiu'
              have hsucc := Sh.range_all_succ (Sh.tupOk n a ts) k
              rw [hall, Bool.true_and] at hsucc
              have hfalse : Sh.tupOk n a ts k = false → Sh.relB n ⟨name, a, ts⟩ = false := fun hp => by
                rw [Hv.out]; exact Sh.range_all_false _ (by rw [← Hlen.out]; exact hlt) hp
              have htk : Sh.tupOk n a ts k = (decide (((ts.getD k []).length : Int) = a) && Sh.inB n (ts.getD k []) && (decide (k = 0) || Sh.lessB (ts.getD (k - 1) []) (ts.getD k []))) := rfl
              have Hall := Lib.hid hall; clear hall
              have Hsucc := Lib.hid hsucc; clear hsucc
              have Hfa := Lib.hid hfalse; clear hfalse
              by_cases hla : n2 = a
              · have hbne : ((n2 : Int) != (a : Int)) = false := by simp; omega
                cases hin : Sh.inB n (ts.getD k [])
                · have Hf := Lib.hid (Hfa.out (by rw [htk, hin]; simp))
                  have hcin := fun W' (hh : Ints W' B (.slice A2 n2 c2') (ts.getD k [])) => in_any (.slice A2 n2 c2') (ts.getD k []) n W' B hh
                  rw [hin] at hcin
                  have Hcin := Lib.hid hcin; clear hcin
                  clear hin htk hla
                  have Hn2 := Lib.hid hn2; clear hn2
                  go_wp2
                  go_quiet ((go_at_call 33; exact quiet_add_left (Hcin.out _ hiu)))
                  go_wp2
                  go_ret
                  exact ⟨ret_bool Hf.out.symm, by repeat (first | exact hbw | refine below_drewN ?_ _)⟩
                · have hcin := fun W' (hh : Ints W' B (.slice A2 n2 c2') (ts.getD k [])) => in_any (.slice A2 n2 c2') (ts.getD k []) n W' B hh
                  rw [hin] at hcin
                  have Hcin := Lib.hid hcin; clear hcin
                  rcases k with _ | k
                  · rw [show ad.add 0 = ad from rfl] at hcu
                    have htk' : Sh.tupOk n a ts 0 = true := by rw [htk, hin, ← hn2]; simp [hla]
                    have Htk := Lib.hid (Hsucc.out.trans htk'); clear htk' htk hin
                    have Hn2 := Lib.hid hn2; clear hn2
                    clear hla
                    go_wp2
                    go_quiet ((go_at_call 33; exact quiet_add_left (Hcin.out _ hiu)))
                    go_wp2
                    exact ⟨⟨1, _, by omega, by go_num, Htk.out, rfl⟩, by simp [intOf]; omega⟩
                  · rw [show ad.add (k + 1) = ⟨ad.block, ad.off + (k + 1), none⟩ from rfl] at hcu
                    have hprev := Sh.tupOk_len (Sh.range_all_get Hall.out (show k < k + 1 by omega))
                    obtain ⟨ad', u', hadeq, hb', hcu', hiu'⟩ := ht1.at_ (show k < len by omega)
                    injection hadeq with hadeq
                    subst hadeq
                    have htk' : Sh.tupOk n a ts (k + 1) = Sh.lessB (ts.getD k []) (ts.getD (k + 1) []) := by rw [htk, hin, ← hn2]; simp [hla]
                    have hcl := fun W' (h1 : Ints W' B u' (ts.getD k [])) (h2 : Ints W' B (.slice A2 n2 c2') (ts.getD (k + 1) [])) => less_any u' (.slice A2 n2 c2') (ts.getD k []) (ts.getD (k + 1) []) W' B h1 h2 (by omega)
                    clear htk hin
                    have Hn2 := Lib.hid hn2; clear hn2
                    have Hprev := Lib.hid hprev; clear hprev
                    clear hla
                    cases hlb : Sh.lessB (ts.getD k []) (ts.getD (k + 1) [])
                    · rw [hlb] at hcl htk'
                      have Hcl := Lib.hid hcl; clear hcl hlb
                      have Hf := Lib.hid (Hfa.out htk'); clear htk'
                      go_wp2
                      go_quiet (first
                        | (go_at_call 33; exact quiet_add_left (Hcin.out _ hiu))
                        | (go_at_call 29; exact quiet_add (Hcl.out _ hiu' hiu)))
                      go_wp2
                      go_ret
                      exact ⟨ret_bool Hf.out.symm, by repeat (first | exact hbw | refine below_drewN ?_ _)⟩
                    · rw [hlb] at hcl htk'
                      have Hcl := Lib.hid hcl; clear hcl hlb
                      have Htk := Lib.hid (Hsucc.out.trans htk'); clear htk'
                      go_wp2
                      go_quiet (first
                        | (go_at_call 33; exact quiet_add_left (Hcin.out _ hiu))
                        | (go_at_call 29; exact quiet_add (Hcl.out _ hiu' hiu)))
                      go_wp2
                      exact ⟨⟨k + 1 + 1, _, by omega, by go_num, Htk.out, rfl⟩, by simp [intOf]; omega⟩
              · have Hf := Lib.hid (Hfa.out (by rw [htk, ← hn2, decide_eq_false (by omega)]; simp))
                have Hn2 := Lib.hid hn2; clear hn2
                have hbne : ((n2 : Int) != (a : Int)) = true := by simp; omega
                clear htk
                go_wp2
                go_quiet (fail)
                go_wp2
                go_ret
                exact ⟨ret_bool Hf.out.symm, below_drewN (below_drewN hbw _) _⟩
            · obtain rfl : k = len := by omega
              have hfin := Hv.out
              rw [← Hlen.out, hall] at hfin
              have Hfin := Lib.hid hfin; clear hfin hall
              go_wp2
              go_ret
              exact ⟨ret_bool Hfin.out.symm, below_drewN hbw _⟩
        · have hp' : 4096 < Sh.powR n a := e2 (by omega)
          have hv : Sh.relB n ⟨name, a, ts⟩ = false := by rw [hdef, Sh.powE_size hn1 hn2 (by omega) (by omega)]; simp
          have Hv := Lib.hid hv; clear hv hdef hnm e1 e2 hp
          generalize hP : Sh.powR n a = P at *
          have HP := Lib.hid hP; clear hP
          go_enter Tryd.func52, Tryd.ntmps52
          go_wp2_with (first
            | (go_at_call 18; refine (refname_any _ _ hs).mono ?_; rw [Hnm.out]; rintro e w' ⟨rfl, rfl⟩)
            | (go_at_call 28; refine (refpow_any _ _ _ hn2 (by omega)).mono ?_; rw [HP.out]; rintro e w' ⟨rfl, rfl⟩))
          go_ret
          exact ⟨ret_bool Hv.out.symm, (Below.refl _ _).alloc (Nat.le_refl _) _⟩

end Go.Proofs.YtbddchonhicpiaaDoor
