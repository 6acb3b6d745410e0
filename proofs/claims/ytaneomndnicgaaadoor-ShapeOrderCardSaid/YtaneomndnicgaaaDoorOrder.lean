/-
  Walk: ShapeOrder.
-/
import Derived.Test.YtaneomndnicgaaaDoorAlive
import Derived.Test.YtaneomndnicgaaaDoorSpec3
import Derived.Test.YtaneomndnicgaaaDoorLess
import Derived.Test.YtaneomndnicgaaaDoorRank
import Derived.BigRegion
namespace Go.Proofs.YtaneomndnicgaaaDoor
open Go.RowKit

/-- The element of number m of the tuple that is drawn from t. -/
def em (N : Nat) (t : List Int) (m : Nat) : Int := ((t.getD m 0).tmod N + N).tmod N

/-- The two rows, j elements of them set. -/
structure Both (w : World) (X Y N k j : Nat) (ta tb : List Int) (wr : World) : Prop where
  rows : ∃ cx cy : Array Value, Blk wr X 3 cx ∧ Blk wr Y 3 cy ∧ cx.size = k ∧ cy.size = k ∧ (∀ m, m < j → cx[m]? = some (.int .i64 (em N ta m))) ∧ (∀ m, m < j → cy[m]? = some (.int .i64 (em N tb m)))
  bel : Below w.heap.size w wr

theorem Both.start {w W : World} {X Y N k : Nat} {ta tb : List Int} (hx : Blk W X 3 (zrow k)) (hy : Blk W Y 3 (zrow k)) (hb : Below w.heap.size w W) : Both w X Y N k 0 ta tb W :=
  ⟨⟨_, _, hx, hy, zrow_size k, zrow_size k, fun m h => absurd h (by omega), fun m h => absurd h (by omega)⟩, hb⟩
theorem Both.cellX {w wr : World} {X Y N k j : Nat} {ta tb : List Int} (h : Both w X Y N k j ta tb wr) (hj : j < k) : ∃ v, wr.cell? ⟨X, j, none⟩ = some v ∧ wr.frozen? ⟨X, j, none⟩ = false := by
  obtain ⟨⟨cx, cy, hx, hy, sx, sy, -, -⟩, -⟩ := h
  obtain ⟨v, hv⟩ := hx.some_ j (by omega)
  exact ⟨v, hv, hx.frozen j⟩
theorem Both.cellY {w wr : World} {X Y N k j : Nat} {ta tb : List Int} (h : Both w X Y N k j ta tb wr) (hxy : Y ≠ X) (hj : j < k) : ∃ v, (∀ u, (wr.setCell ⟨X, j, none⟩ u).cell? ⟨Y, j, none⟩ = some v) ∧ ∀ u, (wr.setCell ⟨X, j, none⟩ u).frozen? ⟨Y, j, none⟩ = false := by
  obtain ⟨⟨cx, cy, hx, hy, sx, sy, -, -⟩, -⟩ := h
  obtain ⟨v, hv⟩ := hy.some_ j (by omega)
  exact ⟨v, fun u => (Blk.cell (hy.far (p := ⟨X, j, none⟩) hxy u) j).trans ((Blk.cell hy j).symm.trans hv), fun u => (hy.far (p := ⟨X, j, none⟩) hxy u).frozen j⟩
theorem Both.next {w wr : World} {X Y N k j : Nat} {ta tb : List Int} (h : Both w X Y N k j ta tb wr) (hj : j < k) {qa qb ra rb : Int} (h1 : (ta.getD j 0).tmod N = qa) (h2 : (tb.getD j 0).tmod N = qb)
    (h3 : (qa + N).tmod N = ra) (h4 : (qb + N).tmod N = rb) (hxy : w.heap.size ≤ X ∧ w.heap.size ≤ Y ∧ Y ≠ X) : Both w X Y N k (j + 1) ta tb ((wr.setCell ⟨X, j, none⟩ (.int .i64 ra)).setCell ⟨Y, j, none⟩ (.int .i64 rb)) := by
  obtain ⟨⟨cx, cy, hx, hy, sx, sy, ex, ey⟩, hb⟩ := h
  refine ⟨⟨_, _, (hx.set_ j (.int .i64 ra)).far (p := ⟨Y, j, none⟩) hxy.2.2.symm _, (hy.far (p := ⟨X, j, none⟩) hxy.2.2 _).set_ j (.int .i64 rb), by simp [sx], by simp [sy], fun m hm => ?_, fun m hm => ?_⟩, (hb.setCell hxy.1 _).setCell hxy.2.1 _⟩
  · rw [Array.getElem?_setIfInBounds]
    by_cases he : j = m
    · subst he
      rw [if_pos rfl, if_pos (by omega)]
      unfold em
      rw [h1, h3]
    · rw [if_neg he]; exact ex m (by omega)
  · rw [Array.getElem?_setIfInBounds]
    by_cases he : j = m
    · subst he
      rw [if_pos rfl, if_pos (by omega)]
      unfold em
      rw [h2, h4]
    · rw [if_neg he]; exact ey m (by omega)

theorem Both.drew {w wr : World} {X Y N k j : Nat} {ta tb : List Int} (h : Both w X Y N k j ta tb wr) : Both w X Y N k j ta tb wr.drew := ⟨h.rows, h.bel.drew⟩
theorem wrapped (a : Int) (N : Nat) (h1 : 1 ≤ N) (h9 : N ≤ 9) : wrap64 (a.tmod N + N) = a.tmod N + N := by
  have h2 : -(N : Int) < a.tmod N := Int.lt_tmod_of_pos _ (by omega)
  have h3 : a.tmod N < N := Int.tmod_lt_of_pos _ (by omega)
  unfold wrap64; omega

theorem eqB_refl (t : List Int) : Sh.eqB t t = true := (Sh.eqB_iff t t).2 rfl

/-- The tuple that is drawn from t. -/
def drawnT (N k : Nat) (t : List Int) : List Int := (List.range k).map (em N t)
theorem drawn_len (N k : Nat) (t : List Int) : (drawnT N k t).length = k := by simp [drawnT]
theorem drawn_in (N k : Nat) (t : List Int) (hN : 1 ≤ N) : Sh.inB N (drawnT N k t) = true := by
  unfold Sh.inB drawnT
  rw [List.all_eq_true]
  intro x hx
  obtain ⟨m, -, rfl⟩ := List.mem_map.1 hx
  have h1 : -(N : Int) < (t.getD m 0).tmod N := Int.lt_tmod_of_pos _ (by omega)
  exact Sh.okB_true (Int.tmod_nonneg _ (by omega)) (Int.tmod_lt_of_pos _ (by omega))
theorem drawn_at {N k : Nat} {t : List Int} {m : Nat} {x : Int} (h : (drawnT N k t)[m]? = some x) : m < k ∧ em N t m = x := by
  unfold drawnT at h
  rw [List.getElem?_map] at h
  by_cases hm : m < k
  · rw [List.getElem?_range hm] at h
    injection h with h
    exact ⟨hm, h⟩
  · rw [List.getElem?_eq_none (by simp; omega)] at h
    cases h
theorem Both.intsX {w wr : World} {X Y N k : Nat} {ta tb : List Int} (h : Both w X Y N k k ta tb wr) (hk : k ≤ 12) : Ints wr wr.heap.size (.slice (some ⟨X, 0, none⟩) k k) (drawnT N k ta) := by
  obtain ⟨⟨cx, cy, hx, hy, sx, sy, ex, ey⟩, hb⟩ := h
  exact hx.reads k k _ (drawn_len N k ta).symm (by omega) fun i x h => by
    obtain ⟨hi, rfl⟩ := drawn_at h
    exact ex i hi
theorem Both.intsY {w wr : World} {X Y N k : Nat} {ta tb : List Int} (h : Both w X Y N k k ta tb wr) (hk : k ≤ 12) : Ints wr wr.heap.size (.slice (some ⟨Y, 0, none⟩) k k) (drawnT N k tb) := by
  obtain ⟨⟨cx, cy, hx, hy, sx, sy, ex, ey⟩, hb⟩ := h
  exact hy.reads k k _ (drawn_len N k tb).symm (by omega) fun i x h => by
    obtain ⟨hi, rfl⟩ := drawn_at h
    exact ey i hi

set_option maxRecDepth 100000 in
set_option maxHeartbeats 4000000 in
theorem order_any (s : Nat) (A A' : Option Addr) (len len' c c' : Nat) (ta tb : List Int) (w : World) (hs : s < 256) (ha : Ints w w.heap.size (.slice A len c) ta) (hb : Ints w w.heap.size (.slice A' len' c') tb) (hv : Vars w) (hw : 5 ≤ w.heap.size) :
    Calls Tryd.prog 5 #[.int .u8 (s : Int), .slice A len c, .slice A' len' c'] w fun e w' => e = .returned (.bool true) ∧ Below w.heap.size w w' := by
  have Ha := Lib.hid ha; clear ha
  have Hb := Lib.hid hb; clear hb
  have Hv := Lib.hid hv; clear hv
  obtain ⟨N, hN1, hN9, hNe⟩ : ∃ N : Nat, 1 ≤ N ∧ N ≤ 9 ∧ (1 + (s : Int) % 9) = N := ⟨1 + s % 9, by omega, by omega, by push_cast; rfl⟩
  have HNe := Lib.hid hNe; clear hNe
  go_enter Tryd.func5, Tryd.ntmps5
  go_wp2
  all_goals
    simp only [HNe.out]
    go_loopw [8] (fun i wr => ∃ k : Nat, k ≤ len ∧ k ≤ len' ∧ k ≤ 12 ∧ i = .int .i64 k ∧ w = wr) (fun i _ => (intOf i).toNat)
    case atStart => first | exact ⟨12, by omega, by omega, by omega, rfl, rfl⟩ | exact ⟨len', by omega, by omega, by omega, rfl, rfl⟩ | exact ⟨len, by omega, by omega, by omega, rfl, rfl⟩
    case round =>
      obtain ⟨k, hk1, hk2, hk3, rfl, rfl⟩ := hrel
      have hpow := refpow_any N k w (by omega) (by omega)
      have Hpow := Lib.hid hpow; clear hpow
      have hmk := make_ints k (by omega)
      by_cases hp : 4096 < Sh.powR N k
      · have hk : 1 ≤ k := by
          rcases Nat.eq_zero_or_pos k with rfl | h
          · simp [Sh.powR] at hp
          · exact h
        go_wp2_with (go_at_call 28; refine Hpow.out.mono ?_; rintro e w2 ⟨rfl, rfl⟩)
        exact ⟨⟨k - 1, by omega, by omega, by omega, by congr 1; omega, trivial⟩, by simp [intOf]; omega⟩
      · go_wp2_with (go_at_call 28; refine Hpow.out.mono ?_; rintro e w2 ⟨rfl, rfl⟩)
        go_region
        · go_wp2
          have hbel0 : Below w.heap.size w ((w.alloc (.cells (zrow k) 3)).alloc (.cells (zrow k) 3)).drew := (((Below.refl _ _).alloc (Nat.le_refl _) _).alloc (by simp) _).drew
          have hX0 : Blk ((w.alloc (.cells (zrow k) 3)).alloc (.cells (zrow k) 3)).drew (w.heap.size) 3 (zrow k) := (Blk.alloc (Blk.new w _ _) _)
          have hY0 : Blk ((w.alloc (.cells (zrow k) 3)).alloc (.cells (zrow k) 3)).drew (w.heap.size + 1) 3 (zrow k) := (by have h := Blk.new (w.alloc (.cells (zrow k) 3)) 3 (zrow k); rw [World.size_alloc] at h; exact h)
          generalize ((w.alloc (.cells (zrow k) 3)).alloc (.cells (zrow k) 3)).drew = W at hbel0 hX0 hY0 ⊢
          have HX0 := Lib.hid hX0; clear hX0
          have HY0 := Lib.hid hY0; clear hY0
          have Hbel0 := Lib.hid hbel0; clear hbel0
          go_loopw [11] (fun i wr => ∃ j : Nat, j ≤ k ∧ i = .int .i64 j ∧ Both w (w.heap.size) (w.heap.size + 1) N k j ta tb wr) (fun i _ => k - (intOf i).toNat)
          case atStart => exact ⟨0, Nat.zero_le _, rfl, .start HX0.out HY0.out Hbel0.out⟩
          case round =>
            obtain ⟨j, hj, rfl, hrow⟩ := hrel
            have Hrow := Lib.hid hrow; clear hrow
            by_cases hjk : j < k
            · obtain ⟨ad, rfl, hab, ha0⟩ := Ha.out.at_ (show j < len by omega)
              obtain ⟨bd, rfl, hbb, hb0⟩ := Hb.out.at_ (show j < len' by omega)
              obtain ⟨av, hav⟩ : ∃ a, ta.getD j 0 = a := ⟨_, rfl⟩
              obtain ⟨bv, hbv⟩ : ∃ b, tb.getD j 0 = b := ⟨_, rfl⟩
              have hwa := wrapped av N (by omega) hN9
              have hwb := wrapped bv N (by omega) hN9
              obtain ⟨xv, fx1, fx2⟩ := Hrow.out.cellX hjk
              obtain ⟨yv, fy1, fy2⟩ := Hrow.out.cellY (by omega) hjk
              have ca := (Hrow.out.bel.cell (p := ad.add j) (by rw [block_of_add]; exact hab)).trans ha0
              have cb := (Hrow.out.bel.cell (p := bd.add j) (by rw [block_of_add]; exact hbb)).trans hb0
              have hNz : ¬ (N : Int) = 0 := by omega
              have hnext := Hrow.out.next hjk (congrArg (Int.tmod · (N : Int)) hav) (congrArg (Int.tmod · (N : Int)) hbv) rfl rfl (by omega)
              have Hnext := Lib.hid hnext; clear hnext
              rw [hav] at ha0
              rw [hbv] at hb0
              rw [hav] at ca
              rw [hbv] at cb
              clear hav hbv
              have Hwa := Lib.hid hwa; clear hwa
              have Hwb := Lib.hid hwb; clear hwb
              have Ha0 := Lib.hid ha0; clear ha0
              have Hb0 := Lib.hid hb0; clear hb0
              go_wp2
              go_region
              all_goals go_wp2
              all_goals rw [Hwa.out, Hwb.out]
              all_goals exact ⟨⟨j + 1, by omega, by go_num, Hnext.out.drew⟩, by simp [intOf]; omega⟩
            · obtain rfl : j = k := by omega
              have hx := Hrow.out.intsX (by omega)
              have hy := Hrow.out.intsY (by omega)
              have hbw := Hrow.out.bel
              have hlx := drawn_len N j ta
              have hly := drawn_len N j tb
              have hix := drawn_in N j ta (by omega)
              have hiy := drawn_in N j tb (by omega)
              have hrx := Sh.rankE_ok (n := N) (t := drawnT N j ta) (by omega) (by omega) (by omega) (by rw [hlx]; omega) hix
              have hry := Sh.rankE_ok (n := N) (t := drawnT N j tb) (by omega) (by omega) (by omega) (by rw [hly]; omega) hiy
              have hls := Sh.less_rank (hlx.trans hly.symm) hix hiy
              have heq := Sh.eq_rank (hlx.trans hly.symm) hix hiy
              have htp := Sh.tupE_ok (n := N) (t := drawnT N j ta) (by omega) (by omega) (by omega) (by rw [hlx]; omega) hix
              rw [hlx] at htp
              have hll : (drawnT N j ta).length ≤ (drawnT N j tb).length := by omega
              generalize drawnT N j ta = xs at *
              generalize drawnT N j tb = ys at *
              have Hx := Lib.hid hx; clear hx
              have Hy := Lib.hid hy; clear hy
              have Hbw := Lib.hid hbw; clear hbw
              have Hrx := Lib.hid hrx; clear hrx
              have Hry := Lib.hid hry; clear hry
              have Hls := Lib.hid hls; clear hls
              have Heq := Lib.hid heq; clear heq
              have Htp := Lib.hid htp; clear htp
              have Hll := Lib.hid hll; clear hll
              clear hlx hly hix hiy
              go_wp2_with (first
                | (go_at_call 23; with_reducible refine (rank_any N _ xs _ _ Hx.out).mono ?_; rintro e w2 ⟨rfl, rfl⟩; rw [Hrx.out])
                | (go_at_call 23; refine (rank_any N _ ys _ _ Hy.out).mono ?_; rintro e w2 ⟨rfl, rfl⟩; rw [Hry.out])
                | (go_at_call 29; refine (less_any _ _ xs ys _ _ Hx.out Hy.out Hll.out).mono ?_; rintro e w2 ⟨rfl, d1, rfl⟩; rw [← Hls.out])
                | (go_at_call 27; with_reducible refine (equal_any _ _ xs ys _ _ (Hx.out.drewN _) (Hy.out.drewN _)).mono ?_; rintro e w2 ⟨rfl, d2, rfl⟩; rw [← Heq.out])
                | (go_at_call 25; refine (tuple_any N j _ _).mono ?_; rintro e w4 ⟨v4, rfl, hv4, hb4⟩; rw [Htp.out] at hv4 ⊢
                   have Hv4 := Lib.hid hv4; clear hv4
                   have Hb4 := Lib.hid hb4; clear hb4)
                | (go_at_call 27
                   refine (equal_any v4 _ xs xs w4 w4.heap.size Hv4.out (Ints.more (Ints.below (Hx.out.drewN _) Hb4.out) Hb4.out.size)).mono ?_
                   rintro e w5 ⟨rfl, d5, rfl⟩
                   rw [eqB_refl])
                | (go_at_call 13
                   have hb5 : Below w.heap.size w (w4.drewN d5) := below_drewN ((below_drewN Hbw.out _).trans (Hb4.out.mono Hbw.out.size)) d5
                   refine (alive_any _ (Hv.out.below hb5 hw) (Nat.le_trans hw hb5.size)).mono ?_
                   rintro e w6 ⟨rfl, hb6⟩
                   have Hb6 := Lib.hid (hb5.trans (hb6.mono hb5.size)))
                )
              · exfalso
                rename_i hbad
                revert hbad
                generalize Sh.rankI (N : Int) xs = p
                generalize Sh.rankI (N : Int) ys = q
                by_cases he : p = q <;> simp [he]
              · refine ⟨rfl, .bool true, ?_, rfl, Hb6.out⟩
                simp [results, Tryd.results5, Tryd.f5, go_sem]
        · go_wp2
          have hbel0 : Below w.heap.size w ((w.alloc (.cells (zrow k) 3)).alloc (.cells (zrow k) 3)).drew := (((Below.refl _ _).alloc (Nat.le_refl _) _).alloc (by simp) _).drew
          have hX0 : Blk ((w.alloc (.cells (zrow k) 3)).alloc (.cells (zrow k) 3)).drew (w.heap.size + 1) 3 (zrow k) := (by have h := Blk.new (w.alloc (.cells (zrow k) 3)) 3 (zrow k); rw [World.size_alloc] at h; exact h)
          have hY0 : Blk ((w.alloc (.cells (zrow k) 3)).alloc (.cells (zrow k) 3)).drew (w.heap.size) 3 (zrow k) := (Blk.alloc (Blk.new w _ _) _)
          generalize ((w.alloc (.cells (zrow k) 3)).alloc (.cells (zrow k) 3)).drew = W at hbel0 hX0 hY0 ⊢
          have HX0 := Lib.hid hX0; clear hX0
          have HY0 := Lib.hid hY0; clear hY0
          have Hbel0 := Lib.hid hbel0; clear hbel0
          go_loopw [11] (fun i wr => ∃ j : Nat, j ≤ k ∧ i = .int .i64 j ∧ Both w (w.heap.size + 1) (w.heap.size) N k j ta tb wr) (fun i _ => k - (intOf i).toNat)
          case atStart => exact ⟨0, Nat.zero_le _, rfl, .start HX0.out HY0.out Hbel0.out⟩
          case round =>
            obtain ⟨j, hj, rfl, hrow⟩ := hrel
            have Hrow := Lib.hid hrow; clear hrow
            by_cases hjk : j < k
            · obtain ⟨ad, rfl, hab, ha0⟩ := Ha.out.at_ (show j < len by omega)
              obtain ⟨bd, rfl, hbb, hb0⟩ := Hb.out.at_ (show j < len' by omega)
              obtain ⟨av, hav⟩ : ∃ a, ta.getD j 0 = a := ⟨_, rfl⟩
              obtain ⟨bv, hbv⟩ : ∃ b, tb.getD j 0 = b := ⟨_, rfl⟩
              have hwa := wrapped av N (by omega) hN9
              have hwb := wrapped bv N (by omega) hN9
              obtain ⟨xv, fx1, fx2⟩ := Hrow.out.cellX hjk
              obtain ⟨yv, fy1, fy2⟩ := Hrow.out.cellY (by omega) hjk
              have ca := (Hrow.out.bel.cell (p := ad.add j) (by rw [block_of_add]; exact hab)).trans ha0
              have cb := (Hrow.out.bel.cell (p := bd.add j) (by rw [block_of_add]; exact hbb)).trans hb0
              have hNz : ¬ (N : Int) = 0 := by omega
              have hnext := Hrow.out.next hjk (congrArg (Int.tmod · (N : Int)) hav) (congrArg (Int.tmod · (N : Int)) hbv) rfl rfl (by omega)
              have Hnext := Lib.hid hnext; clear hnext
              rw [hav] at ha0
              rw [hbv] at hb0
              rw [hav] at ca
              rw [hbv] at cb
              clear hav hbv
              have Hwa := Lib.hid hwa; clear hwa
              have Hwb := Lib.hid hwb; clear hwb
              have Ha0 := Lib.hid ha0; clear ha0
              have Hb0 := Lib.hid hb0; clear hb0
              go_wp2
              go_region
              all_goals go_wp2
              all_goals rw [Hwa.out, Hwb.out]
              all_goals exact ⟨⟨j + 1, by omega, by go_num, Hnext.out.drew⟩, by simp [intOf]; omega⟩
            · obtain rfl : j = k := by omega
              have hx := Hrow.out.intsX (by omega)
              have hy := Hrow.out.intsY (by omega)
              have hbw := Hrow.out.bel
              have hlx := drawn_len N j ta
              have hly := drawn_len N j tb
              have hix := drawn_in N j ta (by omega)
              have hiy := drawn_in N j tb (by omega)
              have hrx := Sh.rankE_ok (n := N) (t := drawnT N j ta) (by omega) (by omega) (by omega) (by rw [hlx]; omega) hix
              have hry := Sh.rankE_ok (n := N) (t := drawnT N j tb) (by omega) (by omega) (by omega) (by rw [hly]; omega) hiy
              have hls := Sh.less_rank (hlx.trans hly.symm) hix hiy
              have heq := Sh.eq_rank (hlx.trans hly.symm) hix hiy
              have htp := Sh.tupE_ok (n := N) (t := drawnT N j ta) (by omega) (by omega) (by omega) (by rw [hlx]; omega) hix
              rw [hlx] at htp
              have hll : (drawnT N j ta).length ≤ (drawnT N j tb).length := by omega
              generalize drawnT N j ta = xs at *
              generalize drawnT N j tb = ys at *
              have Hx := Lib.hid hx; clear hx
              have Hy := Lib.hid hy; clear hy
              have Hbw := Lib.hid hbw; clear hbw
              have Hrx := Lib.hid hrx; clear hrx
              have Hry := Lib.hid hry; clear hry
              have Hls := Lib.hid hls; clear hls
              have Heq := Lib.hid heq; clear heq
              have Htp := Lib.hid htp; clear htp
              have Hll := Lib.hid hll; clear hll
              clear hlx hly hix hiy
              go_wp2_with (first
                | (go_at_call 23; with_reducible refine (rank_any N _ xs _ _ Hx.out).mono ?_; rintro e w2 ⟨rfl, rfl⟩; rw [Hrx.out])
                | (go_at_call 23; refine (rank_any N _ ys _ _ Hy.out).mono ?_; rintro e w2 ⟨rfl, rfl⟩; rw [Hry.out])
                | (go_at_call 29; refine (less_any _ _ xs ys _ _ Hx.out Hy.out Hll.out).mono ?_; rintro e w2 ⟨rfl, d1, rfl⟩; rw [← Hls.out])
                | (go_at_call 27; with_reducible refine (equal_any _ _ xs ys _ _ (Hx.out.drewN _) (Hy.out.drewN _)).mono ?_; rintro e w2 ⟨rfl, d2, rfl⟩; rw [← Heq.out])
                | (go_at_call 25; refine (tuple_any N j _ _).mono ?_; rintro e w4 ⟨v4, rfl, hv4, hb4⟩; rw [Htp.out] at hv4 ⊢
                   have Hv4 := Lib.hid hv4; clear hv4
                   have Hb4 := Lib.hid hb4; clear hb4)
                | (go_at_call 27
                   refine (equal_any v4 _ xs xs w4 w4.heap.size Hv4.out (Ints.more (Ints.below (Hx.out.drewN _) Hb4.out) Hb4.out.size)).mono ?_
                   rintro e w5 ⟨rfl, d5, rfl⟩
                   rw [eqB_refl])
                | (go_at_call 13
                   have hb5 : Below w.heap.size w (w4.drewN d5) := below_drewN ((below_drewN Hbw.out _).trans (Hb4.out.mono Hbw.out.size)) d5
                   refine (alive_any _ (Hv.out.below hb5 hw) (Nat.le_trans hw hb5.size)).mono ?_
                   rintro e w6 ⟨rfl, hb6⟩
                   have Hb6 := Lib.hid (hb5.trans (hb6.mono hb5.size)))
                )
              · exfalso
                rename_i hbad
                revert hbad
                generalize Sh.rankI (N : Int) xs = p
                generalize Sh.rankI (N : Int) ys = q
                by_cases he : p = q <;> simp [he]
              · refine ⟨rfl, .bool true, ?_, rfl, Hb6.out⟩
                simp [results, Tryd.results5, Tryd.f5, go_sem]

end Go.Proofs.YtaneomndnicgaaaDoor
