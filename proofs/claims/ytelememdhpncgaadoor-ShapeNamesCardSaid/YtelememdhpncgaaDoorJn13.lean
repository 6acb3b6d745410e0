/-
  Texts joined: Snamesb.
-/
import Derived.Test.YtelememdhpncgaaDoorJn11

/-
  Walk: ShapeNames, where it is longer.
-/
namespace Go.Proofs.YtelememdhpncgaaDoor
open Go.RowKit

set_option maxRecDepth 100000 in
set_option maxHeartbeats 8000000 in
theorem snames_many (n : Nat) (v : Value) (rs : List Sh.Rel) (u t : Value) (l tl : List Int) (w : World) (h : Rels w w.heap.size v rs) (hu : U8s w w.heap.size u l) (ht : Ints w w.heap.size t tl) (hv : Vars w) (hw : 5 ≤ w.heap.size) (hvb : Sh.validB ⟨(n : Int), rs⟩ = true) (h12 : tl.length ≤ 12) (hsel : n < l.length) :
    Calls Tryd.prog 3 #[.agg #[.int .i64 (n : Int), v], u, t] w fun e w' => e = .returned (.bool true) ∧ Below w.heap.size w w' := by
  have h' := h
  obtain ⟨A, len, c, rfl, hlen, -⟩ := h'
  have hu' := hu
  obtain ⟨SA, SN, SC, rfl, hsn, -⟩ := hu'
  have ht' := ht
  obtain ⟨TA, TN, TC, rfl, htn, -⟩ := ht'
  rw [← htn] at h12
  rw [← hsn] at hsel
  obtain ⟨hn1', hn64', hl8⟩ := Sh.validB_size hvb
  simp only at hn1' hn64' hl8
  have hn1 : 1 ≤ n := by omega
  have hn64 : n ≤ 64 := by omega
  clear hn1' hn64' hsn
  have Htn := Lib.hid htn; clear htn
  have hb1 := (Below.refl w.heap.size w).alloc (Nat.le_refl _) (.cells #[.int .i64 n, .slice A len c] 24)
  have hbel := hb1.alloc (by simp) (.cells #[.int .i64 n, .slice A len c] 24)
  have hsb := (Blk.new w 24 #[.int .i64 n, .slice A len c]).alloc (.cells #[.int .i64 n, .slice A len c] 24)
  have hvar := Blk.new (w.alloc (.cells #[.int .i64 n, .slice A len c] 24)) 24 #[.int .i64 n, .slice A len c]
  rw [World.size_alloc] at hvar
  have hrels := h.below hbel
  have hvs := hv.below hbel hw
  have Hbel := Lib.hid hbel; clear hbel hb1
  have Hvar := Lib.hid hvar; clear hvar
  have Hrels := Lib.hid hrels; clear hrels
  have Hvs := Lib.hid hvs; clear hvs
  have x0 : ((w.alloc (.cells #[.int .i64 n, .slice A len c] 24)).alloc (.cells #[.int .i64 n, .slice A len c] 24)).cell? ⟨w.heap.size, 0, none⟩ = some (.int .i64 n) := hsb.cell 0
  have x1 : ((w.alloc (.cells #[.int .i64 n, .slice A len c] 24)).alloc (.cells #[.int .i64 n, .slice A len c] 24)).cell? ⟨w.heap.size, 1, none⟩ = some (.slice A len c) := hsb.cell 1
  have Hsb := Lib.hid hsb; clear hsb
  have Hvb := Lib.hid hvb; clear hvb
  have Hlen := Lib.hid hlen; clear hlen
  have hmk := make_ints n (by omega)
  go_enter Tryd.func3, Tryd.ntmps3
  go_upto_region 3 with (first
      | (go_at_call 4
         refine (few_any (w.heap.size + 1) n A len c _ rs _ Hvar.out Hrels.out).mono ?_
         rintro e w1 ⟨⟨b1, rfl⟩, rfl⟩)
      | (go_at_call 5
         refine (valid_any n _ rs _ w.heap.size Hbel.out.size (h.below Hbel.out)).mono ?_
         rw [Hvb.out]
         rintro e w3 ⟨rfl, hb3⟩
         have Hbel3 := Lib.hid (Hbel.out.trans (hb3.mono Hbel.out.size))
         have Hs3 := Lib.hid (Hsb.out.below hb3 Hsb.out.lt)
         have x30 : w3.cell? ⟨w.heap.size, 0, none⟩ = some (.int .i64 n) := Hs3.out.cell 0)
      | (go_at_call 6
         refine (alive_any _ Hvs.out (Nat.le_trans hw (Below.size Hbel.out))).mono ?_
         rintro e w12 ⟨rfl, hb12⟩
         have Hb12 := Lib.hid (Below.trans Hbel.out (hb12.mono (Below.size Hbel.out)))))
  all_goals first
    | (refine ⟨rfl, .bool true, ?_, rfl, Hb12.out⟩
       simp [results, Tryd.results3, Tryd.f3, go_sem])
    | skip
  go_cut [7, 8] from 39 to 44 (fun s7 s8 wx => ∃ X Y : Nat, s7 = .slice (some ⟨X, 0, none⟩) n n ∧ s8 = .slice (some ⟨Y, 0, none⟩) n n ∧ X ≠ Y ∧ w.heap.size < X ∧ w.heap.size < Y ∧ NSt w X Y n (.slice A len c) (List.replicate n 0) (List.replicate n 0) wx)
  case first =>
    have hw3 : w.heap.size < w3.heap.size := Hs3.out.lt
    have Hm := Lib.hid (NSt.made Hs3.out Hbel3.out)
    go_region
    all_goals go_wp2
    all_goals first
      | (go_meet
         exact ⟨w3.heap.size, w3.heap.size + 1, rfl, rfl, by omega, by omega, by omega, Hm.out.1.drew⟩)
      | (go_meet
         exact ⟨w3.heap.size + 1, w3.heap.size, rfl, rfl, by omega, by omega, by omega, Hm.out.2.drew⟩)
  case rest =>
    obtain ⟨X, Y, rfl, rfl, hXY, hX, hY, hst⟩ := hcut
    have hYX : Y ≠ X := fun e => hXY e.symm
    have Hst0 := Lib.hid hst; clear hst
    clear x30 Hs3 Hbel3 x0 x1 Hsb
    go_wp2
    go_loopw [9] (fun i wr => ∃ (j : Nat) (p : List Int), j ≤ n ∧ i = .int .i64 j ∧ (∀ m : Nat, m < j → p.getD m 0 = m) ∧ NSt w X Y n (.slice A len c) p (List.replicate n 0) wr) (fun i _ => n - (intOf i).toNat)
    case atStart => exact ⟨0, _, Nat.zero_le _, rfl, (fun m h => absurd h (by omega)), Hst0.out⟩
    case round =>
      obtain ⟨j, p, hj, rfl, hp, hst⟩ := hrel
      have q0 : wr.cell? ⟨w.heap.size, 0, none⟩ = some (.int .i64 n) := hst.s.cell 0
      by_cases hjn : j < n
      · obtain ⟨c1, f1⟩ := hst.cellP hjn
        have Hst := Lib.hid hst; clear hst
        have Hp := Lib.hid hp; clear hp
        go_wp2
        refine ⟨⟨j + 1, p.set j j, by omega, by go_num, fun m hm => ?_, Hst.out.setP hYX hX j j⟩, by simp [intOf]; omega⟩
        by_cases e : m = j
        · subst e
          rw [Sh.getD_set_self (by have := Hst.out.lp; omega)]
        · rw [Sh.getD_set_ne (fun h => e h.symm)]
          exact Hp.out m (by omega)
      · obtain rfl : n = j := by omega
        have hpb := Sh.ident_permB hst.lp hp
        have Hst1 := Lib.hid hst; clear hst
        have Hpb1 := Lib.hid hpb; clear hpb hp
        go_wp2
        go_loopw [10] (fun i wr => ∃ (j : Nat) (p : List Int), j ≤ n ∧ i = .int .i64 j ∧ Sh.permB n p = true ∧ NSt w X Y n (.slice A len c) p (List.replicate n 0) wr) (fun i _ => n - (intOf i).toNat)
        case atStart => exact ⟨0, _, Nat.zero_le _, rfl, Hpb1.out, Hst1.out⟩
        case round =>
          clear q0
          obtain ⟨j, p, hj, rfl, hpb, hst⟩ := hrel
          have q0 : wr.cell? ⟨w.heap.size, 0, none⟩ = some (.int .i64 n) := hst.s.cell 0
          have Hpb := Lib.hid hpb; clear hpb
          by_cases hjs : j < n
          · have hjS : j < SN := by omega
            have hjn2 : j < n := by omega
            obtain ⟨ad, x, rfl, hbx, hx0, hx1, hcx⟩ := (hu.below hst.bel).at_ hjS
            obtain ⟨kk, hkk, hkn⟩ : ∃ kk : Nat, x.tmod n = kk ∧ kk < n := by
              obtain ⟨y, rfl⟩ := Int.eq_ofNat_of_zero_le hx0
              exact ⟨y % n, rfl, Nat.mod_lt _ (by omega)⟩
            have hnz : ¬ (n : Int) = 0 := by omega
            have Hst := Lib.hid hst; clear hst
            go_wp2
            go_quiet (fail)
            have hstq := Hst.out.drewN nq
            clear hcx q0 Hst
            generalize wr.drewN nq = wq at *
            obtain ⟨c1, f1⟩ := hstq.cellP hjn2
            obtain ⟨c2, f2⟩ := hstq.cellP hkn
            obtain ⟨c3, f3⟩ := (hstq.setP hYX hX j (p.getD kk 0)).cellP hkn
            have hnx := (hstq.setP hYX hX j (p.getD kk 0)).setP hYX hX kk (p.getD j 0)
            have hpx := Sh.swap_permB Hpb.out hjn2 hkn
            have Hnx := Lib.hid hnx; clear hnx
            have Hpx := Lib.hid hpx; clear hpx hstq
            generalize p.getD kk 0 = pk at *
            generalize p.getD j 0 = pj at *
            go_wp2
            try simp only [hkk]
            go_region
            all_goals go_wp2
            all_goals exact ⟨⟨j + 1, _, by omega, by go_num, Hpx.out, Hnx.out.drew⟩, by simp [intOf]; omega⟩
          · have Hst2 := Lib.hid hst; clear hst
            clear Hst0 Hst1 Hpb1
            have hjm : j ≤ 1000000 := by omega
            go_wp2
            go_loopw [12] (fun i wr => ∃ (j3 : Nat) (b : List Int), j3 ≤ n ∧ i = .int .i64 j3 ∧ (∀ m : Nat, m < j3 → b.getD (p.getD m 0).toNat 0 = m) ∧ NSt w X Y n (.slice A len c) p b wr) (fun i _ => n - (intOf i).toNat)
            case atStart => exact ⟨0, _, Nat.zero_le _, rfl, (fun m h => absurd h (by omega)), Hst2.out⟩
            case round =>
              clear q0
              obtain ⟨j3, b, hj3, rfl, hb, hst⟩ := hrel
              have q0 : wr.cell? ⟨w.heap.size, 0, none⟩ = some (.int .i64 n) := hst.s.cell 0
              by_cases hj3n : j3 < n
              · obtain ⟨c1, f1⟩ := hst.cellP hj3n
                have hin := (Sh.permB_at Hpb.out).2.1 j3 hj3n
                obtain ⟨y, hy⟩ := Int.eq_ofNat_of_zero_le hin.1
                have hun := Sh.undo_next Hpb.out hst.lb hj3n hb
                rw [hy, Int.toNat_natCast] at hun
                rw [hy] at c1 hin
                have hyn : y < n := by omega
                obtain ⟨c2, f2⟩ := hst.cellB hyn
                have Hun := Lib.hid hun; clear hun hb hy hin
                have Hst := Lib.hid hst; clear hst
                go_wp2
                exact ⟨⟨j3 + 1, b.set y j3, by omega, by go_num, Hun.out, Hst.out.setB hXY hY y j3⟩, by simp [intOf]; omega⟩
              · obtain rfl : n = j3 := by omega
                obtain ⟨hU, hpbk⟩ := Sh.undo_done Hpb.out hst.lb hb
                obtain ⟨hip, hib⟩ := hst.ints hn64
                have hvr := Sh.ren_valid Hvb.out Hpb.out
                have hback := Sh.renR_back Hvb.out Hpb.out hU
                have hbel := hst.bel
                have hs := hst.s
                have hx1 : wr.cell? ⟨w.heap.size, 1, none⟩ = some (.slice A len c) := hs.cell 1
                clear hb hst hU Hst2
                have Hip := Lib.hid hip; clear hip
                have Hib := Lib.hid hib; clear hib
                have Hvr := Lib.hid hvr; clear hvr
                have Hback := Lib.hid hback; clear hback
                have Hpbk := Lib.hid hpbk; clear hpbk
                have Hbel := Lib.hid hbel; clear hbel
                have Hs := Lib.hid hs; clear hs
                obtain ⟨w4, rfl⟩ : ∃ x, x = wr := ⟨_, rfl⟩
                go_upto_region 21 with (first
                  | (go_at_call_of 7 (Value.agg #[.int .i64 n, .slice A len c])
                     refine (permute_fine n (.slice A len c) rs _ p w4 w4.heap.size (Nat.le_refl _) ((h.below Hbel.out).more Hbel.out.size) Hip.out Hvb.out Hpb.out).mono ?_
                     rintro e w5 ⟨x5, rfl, hn5, hb5⟩
                     have hn5' := hn5
                     obtain ⟨RA, RN, RC, rfl, -⟩ := hn5'
                     have hbel6 := (Hbel.out.trans (hb5.mono Hbel.out.size))
                     have hb46 : Below w4.heap.size w4 (w5.alloc (.cells #[.int .i64 n, .slice RA RN RC] 24)) := hb5.alloc hb5.size _
                     have hs6 := (Hs.out.below hb46 Hs.out.lt)
                     have hp6 := Blk.new w5 24 #[.int .i64 n, .slice RA RN RC]
                     have hr6 := (hn5.keep (Keeps.alloc _ _ w5 (.cells #[.int .i64 n, .slice RA RN RC] 24))).rels
                     have hbb6 := (Hib.out.below hb46).more hb46.size
                     have Hr6 := Lib.hid hr6
                     have Hbb6 := Lib.hid hbb6
                     have Hs6 := Lib.hid hs6
                     have Hp6 := Lib.hid hp6
                     have Hb46 := Lib.hid hb46
                     have y60 : (w5.alloc (.cells #[.int .i64 n, .slice RA RN RC] 24)).cell? ⟨w5.heap.size, 0, none⟩ = some (.int .i64 n) := hp6.cell 0
                     have y61 : (w5.alloc (.cells #[.int .i64 n, .slice RA RN RC] 24)).cell? ⟨w5.heap.size, 1, none⟩ = some (.slice RA RN RC) := hp6.cell 1
                     clear hb5 hn5 hbel6 hb46 hs6 hp6 hr6 hbb6)
                  | (go_at_call 7
                     refine (permute_fine n (.slice RA RN RC) (Sh.renR p rs) _ b _ _ (Nat.le_refl _) Hr6.out Hbb6.out Hvr.out Hpbk.out).mono ?_
                     rw [Hback.out]
                     rintro e w7 ⟨x7, rfl, hn7, hb7⟩
                     have hn7' := hn7
                     obtain ⟨QA, QN, QC, rfl, -⟩ := hn7'
                     have hb67 : Below (w5.alloc (.cells #[.int .i64 n, .slice RA RN RC] 24)).heap.size (w5.alloc (.cells #[.int .i64 n, .slice RA RN RC] 24)) (w7.alloc (.cells #[.int .i64 n, .slice QA QN QC] 24)) := hb7.alloc hb7.size _
                     have hs8 := Hs6.out.below hb67 Hs6.out.lt
                     have hp8 := Hp6.out.below hb67 Hp6.out.lt
                     have hq8 := Blk.new w7 24 #[.int .i64 n, .slice QA QN QC]
                     have hr8 := (hn7.keep (Keeps.alloc _ _ w7 (.cells #[.int .i64 n, .slice QA QN QC] 24))).rels
                     have hrp8 := (Hr6.out.below hb67).more hb67.size
                     have Hb48 := Lib.hid (Hb46.out.trans (hb67.mono Hb46.out.size))
                     have Hr8 := Lib.hid hr8
                     have Hrp8 := Lib.hid hrp8
                     have Hs8 := Lib.hid hs8
                     have Hp8 := Lib.hid hp8
                     have Hq8 := Lib.hid hq8
                     have y80 : (w7.alloc (.cells #[.int .i64 n, .slice QA QN QC] 24)).cell? ⟨w7.heap.size, 0, none⟩ = some (.int .i64 n) := hq8.cell 0
                     have y81 : (w7.alloc (.cells #[.int .i64 n, .slice QA QN QC] 24)).cell? ⟨w7.heap.size, 1, none⟩ = some (.slice QA QN QC) := hq8.cell 1
                     have z80 : (w7.alloc (.cells #[.int .i64 n, .slice QA QN QC] 24)).cell? ⟨w.heap.size, 0, none⟩ = some (.int .i64 n) := hs8.cell 0
                     have z81 : (w7.alloc (.cells #[.int .i64 n, .slice QA QN QC] 24)).cell? ⟨w.heap.size, 1, none⟩ = some (.slice A len c) := hs8.cell 1
                     clear hb7 hn7 hb67 hs8 hp8 hq8 hr8 hrp8 y60 y61)
                  | (go_at_call 8
                     refine (same_eq n _ _ rs _ _ (Nat.le_refl _) Hr8.out ((h.below (Hbel.out.trans (Hb48.out.mono Hbel.out.size))).more (Hbel.out.trans (Hb48.out.mono Hbel.out.size)).size)).mono ?_
                     rintro e w9 ⟨rfl, hb9⟩
                     have Hb49 := Lib.hid (Hb48.out.trans (hb9.mono Hb48.out.size))
                     have Hs9 := Lib.hid (Hs8.out.below hb9 Hs8.out.lt)
                     have Hp9 := Lib.hid (Hp8.out.below hb9 Hp8.out.lt)
                     have Hrp9 := Lib.hid ((Hrp8.out.below hb9).more hb9.size)
                     clear hb9))
                have hb9 : Below w.heap.size w w9 := Hbel.out.trans (Hb49.out.mono Hbel.out.size)
                have hz9 := hb9.size
                have h9 : Rels w9 w9.heap.size (.slice A len c) rs := (h.below hb9).more hz9
                have ht9 : Ints w9 w9.heap.size (.slice TA TN TC) tl := (ht.below hb9).more hz9
                have hi9 : Ints w9 w9.heap.size (.slice (some ⟨X, 0, none⟩) n n) p := (Hip.out.below Hb49.out).more Hb49.out.size
                have hwl : w.heap.size < w9.heap.size := Hs9.out.lt
                have hpl : w5.heap.size < w9.heap.size := Hp9.out.lt
                have H9 := Lib.hid h9; clear h9
                have Ht9 := Lib.hid ht9; clear ht9
                have Hi9 := Lib.hid hi9; clear hi9
                have Hb9 := Lib.hid hb9; clear hb9
                clear Hb49 Hip Hib Hs Hp8 Hs8 Hr8 Hrp8 Hq8 Hb48 Hs6 Hp6 Hr6 Hbb6 Hb46 y80 y81 z80 z81 hx1 q0
                go_wp2
                go_loopw [17] (fun i wr => ∃ k : Nat, k ≤ len ∧ i = .int .i64 k ∧ Below w9.heap.size w9 wr) (fun i _ => len - (intOf i).toNat)
                case atStart => exact ⟨0, Nat.zero_le _, rfl, Below.refl _ _⟩
                case round =>
                  obtain ⟨k, hk, rfl, hbk⟩ := hrel
                  obtain ⟨w10, rfl⟩ : ∃ x, x = wr := ⟨_, rfl⟩
                  have s0 : w10.cell? ⟨w.heap.size, 0, none⟩ = some (.int .i64 n) := (hbk.cell (p := ⟨w.heap.size, 0, none⟩) hwl).trans (Hs9.out.cell 0)
                  have s1 : w10.cell? ⟨w.heap.size, 1, none⟩ = some (.slice A len c) := (hbk.cell (p := ⟨w.heap.size, 1, none⟩) hwl).trans (Hs9.out.cell 1)
                  have hzk := hbk.size
                  by_cases hkl : k < len
                  · obtain ⟨ad, u5, r, rfl, hba, hr, d0, d1, -, -, -⟩ := (H9.out.below hbk).at_ hkl
                    have hrb := Sh.validB_rel Hvb.out hr
                    obtain ⟨a, hae, ha12⟩ : ∃ a : Nat, r.arity = a ∧ a ≤ 12 := by
                      have := ((Sh.relB_iff _ _).1 hrb).1
                      unfold Sh.powE at this
                      split at this
                      · simp at this
                      · exact ⟨r.arity.toNat, by omega, by omega⟩
                    have hlen8 := Hlen.out
                    rw [hae] at d1
                    have Hr := Lib.hid hr; clear hr hrb
                    have Hae := Lib.hid hae; clear hae
                    have hk8 : k ≤ 8 := by omega
                    clear hlen8
                    by_cases hta : TN < a
                    · go_wp2
                      exact ⟨⟨k + 1, by omega, by go_num, hbk⟩, by simp [intOf]; omega⟩
                    · have hlt4 : ¬ ((TN : Int) < (a : Int)) := by omega
                      go_wp2
                      go_loopw [18, 19] (fun o i w6 => ∃ m : Nat, m ≤ a ∧ i = .int .i64 m ∧ w6.ownsRow w10.heap.size 3 1 o m ((Sh.drawN n m tl).map (Value.int .i64)) ∧ Below w10.heap.size w10 w6) (fun _ i _ => a - (intOf i).toNat)
                      case atStart => exact ⟨0, Nat.zero_le _, rfl, World.ownsRow_nil _ _ _ _, Below.refl _ _⟩
                      case round =>
                        obtain ⟨m, hm, rfl, hown, hb6⟩ := hrel
                        obtain ⟨OA, OC, rfl⟩ := own_slice hown
                        have Hown := Lib.hid hown; clear hown
                        obtain ⟨w6, rfl⟩ : ∃ x, x = wr := ⟨_, rfl⟩
                        have hz6 := hb6.size
                        have r0 : w6.cell? ⟨w.heap.size, 0, none⟩ = some (.int .i64 n) := (hb6.cell (p := ⟨w.heap.size, 0, none⟩) (show w.heap.size < w10.heap.size by omega)).trans s0
                        have r1 : w6.cell? ⟨w.heap.size, 1, none⟩ = some (.slice (some ad) len c) := (hb6.cell (p := ⟨w.heap.size, 1, none⟩) (show w.heap.size < w10.heap.size by omega)).trans s1
                        have e0 : w6.cell? (ad.add (k * 3)) = some (.string r.name) := (hb6.cell (by rw [block_of_add]; omega)).trans d0
                        have e1 : w6.cell? ⟨(ad.add (k * 3)).block, (ad.add (k * 3)).off + 1, none⟩ = some (.int .i64 a) := (hb6.cell (by show (ad.add _).block < _; rw [block_of_add]; omega)).trans d1
                        by_cases hma : m < a
                        · obtain ⟨bd, rfl, hbb, ct⟩ := (Ht9.out.below (hbk.trans (hb6.mono hzk))).at_ (show m < TN by omega)
                          have hwrap := Sh.wrapN (tl.getD m 0) n hn1 hn64
                          have hsucc := Sh.drawN_succ n m tl
                          unfold Sh.emN at hsucc
                          have hnz : ¬ (n : Int) = 0 := by omega
                          have hnz2 : ¬ n = 0 := by omega
                          have hm12 : m ≤ 12 := by omega
                          have hmt : m < TN := by omega
                          generalize tl.getD m 0 = tv at *
                          have Hwrap := Lib.hid hwrap; clear hwrap
                          have Hsucc := Lib.hid hsucc; clear hsucc
                          clear s0 s1 d0 d1
                          go_wp2
                          clear Hvr Hback Hpbk Hvar Hrels Hvs Hbel Hi9 Hrp9 hb3 Hpb hmk
                          go_region_law (first
                            | (refine step_append_int _ rfl _ _ rfl w10.heap.size _ m (Sh.drawN n m tl) rfl (Hown.out.drew.alloc _) ⟨w6.heap.size, 0, none⟩ 1 _ rfl ((Blk.new _ 3 #[_]).cell 0) (by omega) (by simp; omega) ?_
                               intro v7 w7 hown7 hg7)
                            | (refine step_append_int _ rfl _ _ rfl w10.heap.size _ m (Sh.drawN n m tl) rfl (Hown.out.alloc _) ⟨w6.heap.size, 0, none⟩ 1 _ rfl ((Blk.new _ 3 #[_]).cell 0) (by omega) (by simp; omega) ?_
                               intro v7 w7 hown7 hg7))
                          all_goals
                            go_wp2
                            rw [show IntKind.i64.wrap (tv.tmod n + n) = tv.tmod n + n from (IntWalk.i64_left _).trans Hwrap.out] at hown7
                            refine ⟨⟨m + 1, by omega, by go_num, by rw [Hsucc.out]; exact hown7, ?_⟩, by simp [intOf]; omega⟩
                            exact Below.grown (by first | exact (hb6.drew.alloc hz6 _) | exact (hb6.alloc hz6 _)) hg7 (by simp; omega) (fun g e => (Hown.out.lt g e).1)
                        · obtain rfl : a = m := by omega
                          have hxl : (Sh.drawN n a tl).length = a := Sh.drawN_len n a tl
                          have hxi := Sh.drawN_in n a tl hn1
                          have hni : Ints w6 w6.heap.size (.slice OA a OC) (Sh.drawN n a tl) := (NInts.own (L := w10.heap.size) Hown.out (Nat.le_refl _) (by omega)).ints
                          obtain ⟨hh1, hh2⟩ := Sh.hasE_ren Hvb.out Hpb.out Hr.out (x := Sh.drawN n a tl) (by rw [hxl]; exact Hae.out.symm) hxi
                          have hpn : (p.length : Int) = n := (Sh.permB_get Hpb.out).1
                          have hxr : ∀ x ∈ Sh.drawN n a tl, 0 ≤ x ∧ x < p.length := fun x hx => by
                            have := Sh.okB_get (List.all_eq_true.1 hxi x hx)
                            omega
                          generalize Sh.drawN n a tl = xs at *
                          generalize decide (xs ∈ r.tuples) = is at *
                          have hxl12 : xs.length ≤ 1000 := by omega
                          have hb69 : Below w9.heap.size w9 w6 := hbk.trans (hb6.mono hzk)
                          have hb6w : Below w.heap.size w w6 := Hb9.out.trans (hb69.mono hz9)
                          have hz96 := hb69.size
                          have p0 : w6.cell? ⟨w5.heap.size, 0, none⟩ = some (.int .i64 n) := (hb69.cell (p := ⟨w5.heap.size, 0, none⟩) hpl).trans (Hp9.out.cell 0)
                          have p1 : w6.cell? ⟨w5.heap.size, 1, none⟩ = some (.slice RA RN RC) := (hb69.cell (p := ⟨w5.heap.size, 1, none⟩) hpl).trans (Hp9.out.cell 1)
                          have hall : ∀ W, Below w6.heap.size w6 W → W.cell? ⟨w.heap.size, 0, none⟩ = some (.int .i64 n) ∧ W.cell? ⟨w.heap.size, 1, none⟩ = some (.slice (some ad) len c) ∧ W.cell? ⟨w5.heap.size, 0, none⟩ = some (.int .i64 n) ∧ W.cell? ⟨w5.heap.size, 1, none⟩ = some (.slice RA RN RC) ∧ W.cell? (ad.add (k * 3)) = some (.string r.name) ∧ Below w6.heap.size w6 W := fun W hW =>
                            ⟨(hW.cell (p := ⟨w.heap.size, 0, none⟩) (show w.heap.size < w6.heap.size by omega)).trans r0, (hW.cell (p := ⟨w.heap.size, 1, none⟩) (show w.heap.size < w6.heap.size by omega)).trans r1,
                              (hW.cell (p := ⟨w5.heap.size, 0, none⟩) (show w5.heap.size < w6.heap.size by omega)).trans p0, (hW.cell (p := ⟨w5.heap.size, 1, none⟩) (show w5.heap.size < w6.heap.size by omega)).trans p1,
                              (hW.cell (by rw [block_of_add]; omega)).trans e0, hW⟩
                          have hcall1 : ∀ W, (W.cell? ⟨w.heap.size, 0, none⟩ = some (.int .i64 n) ∧ W.cell? ⟨w.heap.size, 1, none⟩ = some (.slice (some ad) len c) ∧ W.cell? ⟨w5.heap.size, 0, none⟩ = some (.int .i64 n) ∧ W.cell? ⟨w5.heap.size, 1, none⟩ = some (.slice RA RN RC) ∧ W.cell? (ad.add (k * 3)) = some (.string r.name) ∧ Below w6.heap.size w6 W) → Calls Tryd.prog 9 #[.agg #[.int .i64 n, .slice (some ad) len c], .string r.name, .slice OA a OC] W fun e w' => e = .returned (.tuple #[.bool is, .int .i64 0]) ∧ (w'.cell? ⟨w.heap.size, 0, none⟩ = some (.int .i64 n) ∧ w'.cell? ⟨w.heap.size, 1, none⟩ = some (.slice (some ad) len c) ∧ w'.cell? ⟨w5.heap.size, 0, none⟩ = some (.int .i64 n) ∧ w'.cell? ⟨w5.heap.size, 1, none⟩ = some (.slice RA RN RC) ∧ w'.cell? (ad.add (k * 3)) = some (.string r.name) ∧ Below w6.heap.size w6 w') := fun W hW => by
                            have hWb := hW.2.2.2.2.2
                            have := has_any n (.slice (some ad) len c) rs r.name (.slice OA a OC) xs W w6.heap.size hWb.size (((h.below hb6w).more hb6w.size).below hWb) (hni.below hWb)
                            rw [hh1] at this
                            refine this.mono ?_
                            rintro e w' ⟨rfl, hb9⟩
                            exact ⟨rfl, hall w' (hWb.trans (hb9.mono hWb.size))⟩
                          have hcall2 : ∀ W, (W.cell? ⟨w.heap.size, 0, none⟩ = some (.int .i64 n) ∧ W.cell? ⟨w.heap.size, 1, none⟩ = some (.slice (some ad) len c) ∧ W.cell? ⟨w5.heap.size, 0, none⟩ = some (.int .i64 n) ∧ W.cell? ⟨w5.heap.size, 1, none⟩ = some (.slice RA RN RC) ∧ W.cell? (ad.add (k * 3)) = some (.string r.name) ∧ Below w6.heap.size w6 W) → Calls Tryd.prog 10 #[.slice OA a OC, .slice (some ⟨X, 0, none⟩) n n] W fun e w' => ∃ y, e = .returned y ∧ NInts w' W.heap.size y (Sh.renT p xs) ∧ (w'.cell? ⟨w.heap.size, 0, none⟩ = some (.int .i64 n) ∧ w'.cell? ⟨w.heap.size, 1, none⟩ = some (.slice (some ad) len c) ∧ w'.cell? ⟨w5.heap.size, 0, none⟩ = some (.int .i64 n) ∧ w'.cell? ⟨w5.heap.size, 1, none⟩ = some (.slice RA RN RC) ∧ w'.cell? (ad.add (k * 3)) = some (.string r.name) ∧ Below w6.heap.size w6 w') := fun W hW => by
                            have hWb := hW.2.2.2.2.2
                            refine (renamed_any (.slice OA a OC) (.slice (some ⟨X, 0, none⟩) n n) xs p W w6.heap.size hWb.size (hni.below hWb) (((Hi9.out.below hb69).more hz96).below hWb) hxl12 hxr).mono ?_
                            rintro e w' ⟨y, rfl, hny, hb9⟩
                            exact ⟨y, rfl, hny, hall w' (hWb.trans (hb9.mono hWb.size))⟩
                          have hcall3 : ∀ y W, Ints W W.heap.size y (Sh.renT p xs) → (W.cell? ⟨w.heap.size, 0, none⟩ = some (.int .i64 n) ∧ W.cell? ⟨w.heap.size, 1, none⟩ = some (.slice (some ad) len c) ∧ W.cell? ⟨w5.heap.size, 0, none⟩ = some (.int .i64 n) ∧ W.cell? ⟨w5.heap.size, 1, none⟩ = some (.slice RA RN RC) ∧ W.cell? (ad.add (k * 3)) = some (.string r.name) ∧ Below w6.heap.size w6 W) → Calls Tryd.prog 9 #[.agg #[.int .i64 n, .slice RA RN RC], .string r.name, y] W fun e w' => e = .returned (.tuple #[.bool is, .int .i64 0]) ∧ (w'.cell? ⟨w.heap.size, 0, none⟩ = some (.int .i64 n) ∧ w'.cell? ⟨w.heap.size, 1, none⟩ = some (.slice (some ad) len c) ∧ w'.cell? ⟨w5.heap.size, 0, none⟩ = some (.int .i64 n) ∧ w'.cell? ⟨w5.heap.size, 1, none⟩ = some (.slice RA RN RC) ∧ w'.cell? (ad.add (k * 3)) = some (.string r.name) ∧ Below w6.heap.size w6 w') := fun y W hy hW => by
                            have hWb := hW.2.2.2.2.2
                            have := has_any n (.slice RA RN RC) (Sh.renR p rs) r.name y (Sh.renT p xs) W W.heap.size (Nat.le_refl _) ((((Hrp9.out.below hb69).more hz96).below hWb).more hWb.size) hy
                            rw [hh2] at this
                            refine this.mono ?_
                            rintro e w' ⟨rfl, hb9⟩
                            exact ⟨rfl, hall w' (hWb.trans (hb9.mono hWb.size))⟩
                          have Hcall1 := Lib.hid hcall1; clear hcall1
                          have Hcall2 := Lib.hid hcall2; clear hcall2
                          have Hcall3 := Lib.hid hcall3; clear hcall3
                          have Hall := Lib.hid hall; clear hall
                          clear hh1 hh2 hxr hxi hxl hpn hni p0 p1 r0 r1 e0 s0 s1 d0 d1 hb6w hb69 hmk
                          obtain ⟨y0, y1, y2, y3, y4, y5⟩ := Hall.out w6 (Below.refl _ _)
                          go_upto_region 30 with fail
                          go_region_held3 (fun W => W.cell? ⟨w.heap.size, 0, none⟩ = some (.int .i64 n) ∧ W.cell? ⟨w.heap.size, 1, none⟩ = some (.slice (some ad) len c) ∧ W.cell? ⟨w5.heap.size, 0, none⟩ = some (.int .i64 n) ∧ W.cell? ⟨w5.heap.size, 1, none⟩ = some (.slice RA RN RC) ∧ W.cell? (ad.add (k * 3)) = some (.string r.name) ∧ Below w6.heap.size w6 W)
                            (first
                              | assumption
                              | (refine Hall.out _ ?_
                                 repeat (first | exact Below.refl _ _ | exact below_drewN (Below.refl _ _) _ | exact And.right (And.right (And.right (And.right (And.right (by assumption))))) | refine Below.drew ?_)))
                            (first | (go_at_call 9; refine (Hcall1.out _ (by assumption)).mono ?_; rintro e w11 ⟨rfl, hc1⟩))
                          all_goals go_upto_region 31 with fail
                          have hb11 := hc1.2.2.2.2.2
                          have hz11 := hb11.size
                          go_region_held3 (fun W => W.cell? ⟨w.heap.size, 0, none⟩ = some (.int .i64 n) ∧ W.cell? ⟨w.heap.size, 1, none⟩ = some (.slice (some ad) len c) ∧ W.cell? ⟨w5.heap.size, 0, none⟩ = some (.int .i64 n) ∧ W.cell? ⟨w5.heap.size, 1, none⟩ = some (.slice RA RN RC) ∧ W.cell? (ad.add (k * 3)) = some (.string r.name) ∧ Below w6.heap.size w6 W)
                            (first
                              | assumption
                              | (refine Hall.out _ ?_
                                 repeat (first | exact Below.refl _ _ | exact below_drewN (Below.refl _ _) _ | exact And.right (And.right (And.right (And.right (And.right (by assumption))))) | refine Below.drew ?_)))
                            (first
                              | (go_at_call 10
                                 refine (Hcall2.out _ (by assumption)).mono ?_
                                 rintro e w12 ⟨y, rfl, hny, hc2⟩)
                              | (go_at_call 9
                                 refine (Hcall3.out _ _ hny.ints (by assumption)).mono ?_
                                 rintro e w13 ⟨rfl, hc3⟩))
                          all_goals go_wp2
                          all_goals exact ⟨⟨k + 1, by omega, by go_num, hbk.trans ((hb6.trans (hc3.2.2.2.2.2.mono hz6)).mono hzk)⟩, by simp [intOf]; omega⟩
                  · go_wp2_with (go_at_call 6
                                 refine (alive_any _ (hv.below (Hb9.out.trans (hbk.mono hz9)) hw) (Nat.le_trans hw (Below.size (Hb9.out.trans (hbk.mono hz9))))).mono ?_
                                 rintro e w12 ⟨rfl, hb12⟩
                                 have Hb12 := Lib.hid ((Hb9.out.trans (hbk.mono hz9)).trans (hb12.mono (Below.size (Hb9.out.trans (hbk.mono hz9))))))
                    refine ⟨rfl, .bool true, ?_, rfl, Hb12.out⟩
                    simp [results, Tryd.results3, Tryd.f3, go_sem]

end Go.Proofs.YtelememdhpncgaaDoor
