/-
  Walk: ShapeRanks.
-/
import Derived.Test.YtaneomndnicgaaaDoorAlive
namespace Go.Proofs.YtaneomndnicgaaaDoor
open Go.RowKit

theorem eqB_refl (t : List Int) : Sh.eqB t t = true := (Sh.eqB_iff t t).2 rfl

set_option maxRecDepth 100000 in
set_option maxHeartbeats 400000 in
theorem ranks_big (n k r : Int) (A : Option Addr) (len c : Nat) (w : World) (hbig : 1000 < len) (hv : Vars w) (hw : 5 ≤ w.heap.size) :
    Calls Tryd.prog 4 #[.agg #[.int .i64 n, .int .i64 k, .int .i64 r], .slice A len c] w fun e w' => e = .returned (.bool true) ∧ Below w.heap.size w w' := by
  have hc : (decide ((1000 : Int) < (len : Int))) = true := decide_eq_true (by omega)
  have Hc := Lib.hid hc; clear hc
  have hb0 := (Below.refl w.heap.size w).alloc (Nat.le_refl _) (.cells #[.int .i64 n, .int .i64 k, .int .i64 r] 34)
  have Hb0 := Lib.hid hb0; clear hb0
  have Hv := Lib.hid hv; clear hv
  go_enter Tryd.func4, Tryd.ntmps4
  go_wp2
  go_quiet (fail)
  have hb1 := below_drewN Hb0.out nq
  go_wp2_with (go_at_call 13; refine (alive_any _ (Hv.out.below hb1 hw) (by have := hb1.size; omega)).mono ?_; rintro e w2 ⟨rfl, hb2⟩; have Hb2 := Lib.hid (hb1.trans (hb2.mono hb1.size)))
  all_goals refine ⟨rfl, .bool true, ?_, rfl, Hb2.out⟩
  all_goals simp [results, Tryd.results4, Tryd.f4, go_sem]

set_option maxRecDepth 100000 in
set_option maxHeartbeats 400000 in
theorem ranks_small (n k r : Int) (A : Option Addr) (len c : Nat) (t : List Int) (w : World) (ht : Ints w w.heap.size (.slice A len c) t) (hsmall : len ≤ 1000) (hv : Vars w) (hw : 5 ≤ w.heap.size) :
    Calls Tryd.prog 4 #[.agg #[.int .i64 n, .int .i64 k, .int .i64 r], .slice A len c] w fun e w' => e = .returned (.bool true) ∧ Below w.heap.size w w' := by
  have hc : (decide ((1000 : Int) < (len : Int))) = false := decide_eq_false (by omega)
  have Hc := Lib.hid hc; clear hc
  have hb0 := (Below.refl w.heap.size w).alloc (Nat.le_refl _) (.cells #[.int .i64 n, .int .i64 k, .int .i64 r] 34)
  have Hb0 := Lib.hid hb0; clear hb0
  have Hv := Lib.hid hv; clear hv
  have Ht := Lib.hid ht; clear ht
  go_enter Tryd.func4, Tryd.ntmps4
  go_wp2
  go_quiet (fail)
  have hb1 := below_drewN Hb0.out nq
  have ht1 := Ht.out.below hb1
  have hv1 := Hv.out.below hb1 hw
  generalize ((w.alloc (.cells #[.int .i64 n, .int .i64 k, .int .i64 r] 34)).drewN nq) = w1 at hb1 ht1 hv1 ⊢
  have Hb1 := Lib.hid hb1; clear hb1
  have Ht1 := Lib.hid ht1; clear ht1
  have Hv1 := Lib.hid hv1; clear hv1
  clear Hb0 Hv Ht
  go_wp2_with (first
    | (go_at_call 21; refine (power_any n k _).mono ?_; rintro e w2 ⟨rfl, rfl⟩)
    | (go_at_call 22; refine (refpower_any n k _).mono ?_; rintro e w2 ⟨rfl, rfl⟩)
    | (go_at_call 23; refine (rank_any n _ t _ _ Ht1.out).mono ?_; rintro e w2 ⟨rfl, rfl⟩)
    | (go_at_call 24; refine (refrank_any n _ t _ _ Ht1.out).mono ?_; rintro e w2 ⟨rfl, rfl⟩)
    | (go_at_call 25; refine (tuple_any n k r _).mono ?_; rintro e w2 ⟨x, rfl, hx, hb2⟩
       have Hx := Lib.hid hx; clear hx
       have Hb2 := Lib.hid hb2; clear hb2)
    | (go_at_call 26; refine (reftuple_any n k r _).mono ?_; rintro e w3 ⟨y, rfl, hy, hb3⟩
       have Hy := Lib.hid hy; clear hy
       have Hb3 := Lib.hid hb3; clear hb3)
    | (go_at_call 27
       refine (equal_any x y _ _ w3 w3.heap.size ((Hx.out.below Hb3.out).more Hb3.out.size) Hy.out).mono ?_
       rintro e w4 ⟨rfl, d4, rfl⟩
       rw [eqB_refl])
    | (go_at_call 13
       have hb4 := below_drewN ((Hb1.out.trans (Hb2.out.mono Hb1.out.size)).trans (Hb3.out.mono (Nat.le_trans Hb1.out.size Hb2.out.size))) d4
       refine (alive_any _ (Vars.drewN (Hv1.out.below ((Hb2.out.trans (Hb3.out.mono Hb2.out.size)).mono Hb1.out.size) hw) d4) (Nat.le_trans hw hb4.size)).mono ?_
       rintro e w5 ⟨rfl, hb5⟩
       have Hb5 := Lib.hid (hb4.trans (hb5.mono hb4.size))))
  all_goals refine ⟨rfl, .bool true, ?_, rfl, Hb5.out⟩
  all_goals simp [results, Tryd.results4, Tryd.f4, go_sem]

end Go.Proofs.YtaneomndnicgaaaDoor
