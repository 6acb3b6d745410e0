/-
  Walk: ShapeMakes.
-/
import Derived.Test.YtjkaicpohihncaaDoorKeepv
import Derived.Test.YtjkaicpohihncaaDoorMade
import Derived.Test.YtjkaicpohihncaaDoorSame
import Derived.Test.YtjkaicpohihncaaDoorFew
import Derived.Test.YtjkaicpohihncaaDoorAlive
import Derived.Test.YtjkaicpohihncaaDoorRvalid
namespace Go.Proofs.YtjkaicpohihncaaDoor
open Go.RowKit

set_option maxRecDepth 100000 in
set_option maxHeartbeats 2000000 in
theorem smakes_true (n : Int) (v u : Value) (ss : List (ByteArray × Int)) (size : Int) (rs : List Sh.Rel) (w : World) (h : Rels w w.heap.size v rs) (g : Syms w w.heap.size u ss) (hf : SymFit ss) (hv : Vars w) (hw : 5 ≤ w.heap.size) (h40 : ss.length ≤ 40) (hmb : Sh.validB ⟨n, Sh.madeR ss⟩ = true) :
    Calls Tryd.prog 8 #[.int .i64 n, u, .agg #[.int .i64 size, v]] w fun e w' => e = .returned (.bool true) ∧ Below w.heap.size w w' := by
  have h' := h
  obtain ⟨A, len, c, rfl, -⟩ := h'
  have g' := g
  obtain ⟨A', m, c', rfl, -⟩ := g'
  have hb1 := (Below.refl w.heap.size w).alloc (Nat.le_refl _) (.cells #[.int .i64 size, .slice A len c] 24)
  have hbx := Blk.alloc (Blk.new w 24 #[.int .i64 size, .slice A len c]) (.cells #[.int .i64 size, .slice A len c] 24)
  have hbel := (hb1.alloc (by simp) (.cells #[.int .i64 size, .slice A len c] 24))
  have hvar := Blk.new (w.alloc (.cells #[.int .i64 size, .slice A len c] 24)) 24 #[.int .i64 size, .slice A len c]
  rw [World.size_alloc] at hvar
  have hrels := h.below hbel
  have hvs := hv.below hbel hw
  have hg2 := g.below hbel
  have Hbx := Lib.hid hbx; clear hbx
  have Hbel2 := Lib.hid hbel; clear hbel
  have Hvar := Lib.hid hvar; clear hvar
  have Hrels := Lib.hid hrels; clear hrels
  have Hvs := Lib.hid hvs; clear hvs
  have Hg2 := Lib.hid hg2; clear hg2
  have Hf := Lib.hid hf; clear hf
  clear hb1
  have Hmb := Lib.hid hmb; clear hmb
  go_enter Tryd.func8, Tryd.ntmps8
  go_upto_region 9 with (first
    | (go_at_call 12
       refine (few_any (w.heap.size + 1) size A len c _ rs _ Hvar.out Hrels.out).mono ?_
       rintro e w1 ⟨⟨b1, rfl⟩, rfl⟩)
    | (go_at_call 38
       refine (fewsyms_some _ ss _ w.heap.size Hg2.out Hf.out).mono ?_
       rintro e w1 ⟨⟨b2, rfl⟩, rfl⟩)
    | (go_at_call 13
       refine (alive_any _ Hvs.out (Nat.le_trans hw Hbel2.out.size)).mono ?_
       rintro e w2 ⟨rfl, hb2⟩
       have Hb2 := Lib.hid (Hbel2.out.trans (hb2.mono Hbel2.out.size)))
    | (go_at_call 39
       refine (make_any true n _ ss _ w.heap.size Hbel2.out.size Hg2.out Hf.out (by omega) Hmb.out).mono ?_
       rintro e w3 ⟨x3, rfl, hn3, hb3⟩
       have hn3' := hn3
       obtain ⟨PA, PN, PC, rfl, -⟩ := hn3'
       have hbel3 := Hbel2.out.trans (hb3.mono Hbel2.out.size)
       have hs3 := Hbx.out.below hb3 Hbx.out.lt
       have hbel3a := hbel3.alloc hbel3.size (.cells #[.int .i64 n, .slice PA PN PC] 24)
       have hm3a := Blk.new w3 24 #[.int .i64 n, .slice PA PN PC]
       have hs3a := hs3.alloc (.cells #[.int .i64 n, .slice PA PN PC] 24)
       have hr3a := (hn3.keep (Keeps.alloc _ _ w3 (.cells #[.int .i64 n, .slice PA PN PC] 24))).rels
       have Hr3a := Lib.hid hr3a
       clear hn3 hr3a
       have Hbel3a := Lib.hid hbel3a
       have Hm3a := Lib.hid hm3a
       have Hs3a := Lib.hid hs3a
       clear hb3 hbel3 hs3 hbel3a hm3a hs3a)
    | (go_at_call 40
       refine (made_any n _ ss _ w.heap.size Hbel3a.out.size (g.below Hbel3a.out) Hf.out (by omega)).mono ?_
       rintro e w4 ⟨x4, rfl, hn4, hb4⟩
       have hn4' := hn4
       obtain ⟨QA, QN, QC, rfl, -⟩ := hn4'
       have hbel4 := Hbel3a.out.trans (hb4.mono Hbel3a.out.size)
       have hm4 := Hm3a.out.below hb4 Hm3a.out.lt
       have hs4 := Hs3a.out.below hb4 Hs3a.out.lt
       have hwlt4 := hs4.lt
       have hbel4a := hbel4.alloc hbel4.size (.cells #[.int .i64 n, .slice QA QN QC] 24)
       have hm4a := hm4.alloc (.cells #[.int .i64 n, .slice QA QN QC] 24)
       have hs4a := hs4.alloc (.cells #[.int .i64 n, .slice QA QN QC] 24)
       have hw4a := Blk.new w4 24 #[.int .i64 n, .slice QA QN QC]
       have hr4a := (hn4.keep (Keeps.alloc _ _ w4 (.cells #[.int .i64 n, .slice QA QN QC] 24))).rels
       have hp4a := (Hr3a.out.below hb4).below ((Below.refl w4.heap.size w4).alloc (Nat.le_refl _) (.cells #[.int .i64 n, .slice QA QN QC] 24) |>.mono hb4.size)
       have Hp4a := Lib.hid hp4a
       clear hp4a
       have hsz4 : w3.heap.size + 1 ≤ w4.heap.size := by have hq := hb4.size; simpa using hq
       have Hbel4a := Lib.hid hbel4a
       have Hm4a := Lib.hid hm4a
       have Hs4a := Lib.hid hs4a
       have Hw4a := Lib.hid hw4a
       have Hr4a := Lib.hid hr4a
       clear hn4 hb4 hbel4 hm4 hs4 hbel4a hm4a hs4a hw4a hr4a)
    | (go_at_call_of 14 (Value.agg #[.int .i64 n, .slice QA QN QC])
       refine (refvalid_any n _ (Sh.madeR ss) _ _ (Nat.le_refl _) Hr4a.out).mono ?_
       rw [Hmb.out]
       rintro e w5 ⟨rfl, hb5⟩
       have hm5 := Hm4a.out.below hb5 Hm4a.out.lt
       have hs5 := Hs4a.out.below hb5 Hs4a.out.lt
       have hw5 := Hw4a.out.below hb5 Hw4a.out.lt
       have hbel5 := Hbel4a.out.trans (hb5.mono Hbel4a.out.size)
       have hr5 := Hr4a.out.below hb5
       have hp5 := Hp4a.out.below (hb5.mono (by simp; omega))
       have Hp5 := Lib.hid hp5
       clear hp5
       have xm0 : w5.cell? ⟨w3.heap.size, 0, none⟩ = some (.int .i64 n) := (hm5).cell 0
       have xm1 : w5.cell? ⟨w3.heap.size, 1, none⟩ = some (.slice PA PN PC) := (hm5).cell 1
       have xw0 : w5.cell? ⟨w4.heap.size, 0, none⟩ = some (.int .i64 n) := (hw5).cell 0
       have xw1 : w5.cell? ⟨w4.heap.size, 1, none⟩ = some (.slice QA QN QC) := (hw5).cell 1
       have Hs5 := Lib.hid hs5
       have Hw5 := Lib.hid hw5
       have Hbel5 := Lib.hid hbel5
       have Hr5 := Lib.hid hr5
       have hsz5 := hb5.size
       have hsz5 : w4.heap.size + 1 ≤ w5.heap.size := by simpa using hsz5
       clear hm5 hs5 hw5 hbel5 hr5 hb5)
    | (go_at_call 36
       refine (is_ok n _ _ (Sh.madeR ss) _ w5.heap.size (Nat.le_refl _) (Hp5.out.more (by simp; omega)) (Hr5.out.more (by simpa using hsz5))).mono ?_
       rintro e w6 ⟨rfl, hb6⟩
       have hs6 := Hs5.out.below hb6 Hs5.out.lt
       have hw6 := Hw5.out.below hb6 Hw5.out.lt
       have hbel6 := Hbel5.out.trans (hb6.mono Hbel5.out.size)
       have hr6 := (Hr5.out.more (show _ ≤ w5.heap.size by first | exact hsz5 | simpa using hsz5)).below hb6
       have Hs6 := Lib.hid hs6
       have Hw6 := Lib.hid hw6
       have Hbel6 := Lib.hid hbel6
       have Hr6 := Lib.hid hr6
       have ys0 : w6.cell? ⟨w.heap.size, 0, none⟩ = some (.int .i64 size) := (hs6).cell 0
       have ys1 : w6.cell? ⟨w.heap.size, 1, none⟩ = some (.slice A len c) := (hs6).cell 1
       have hsz6 := hb6.size
       clear hs6 hw6 hbel6 hr6 hb6))
  all_goals first
    | (refine ⟨rfl, .bool true, ?_, rfl, Hb2.out⟩
       simp [results, Tryd.results8, Tryd.f8, go_sem])
    | skip
  cases hsv : Sh.validB ⟨size, rs⟩
  · have Hsv := Lib.hid hsv; clear hsv
    (

      go_wp2_with (first
        | (go_at_call_of 14 (Value.agg #[.int .i64 size, .slice A len c])
           refine (refvalid_any size _ rs _ w.heap.size Hbel6.out.size (h.below Hbel6.out)).mono ?_
           rw [Hsv.out]
           rintro e w7 ⟨rfl, hb7⟩
           have Hs7 := Lib.hid (Hs6.out.below hb7 Hs6.out.lt)
           have Hw7 := Lib.hid (Hw6.out.below hb7 Hw6.out.lt)
           have Hbel7 := Lib.hid (Hbel6.out.trans (hb7.mono Hbel6.out.size))
           have Hr7 := Lib.hid ((Hr6.out.more hsz6).below hb7)
           have zs0 : w7.cell? ⟨w.heap.size, 0, none⟩ = some (.int .i64 size) := (Hs7.out).cell 0
           have zs1 : w7.cell? ⟨w.heap.size, 1, none⟩ = some (.slice A len c) := (Hs7.out).cell 1
           have hsz7 := hb7.size
           clear hb7)
        | (go_at_call 44
           refine (keep_form size _ _ rs _ w.heap.size Hbel7.out.size (h.below Hbel7.out) Hsv.out).mono ?_
           rintro e w10 ⟨rfl, hb10⟩
           have hw10 := (Hw7.out.below hb10 Hw7.out.lt).alloc (.cells #[.int .i64 0, .slice none 0 0] 24)
           have Hbel10 := Lib.hid ((Hbel7.out.trans (hb10.mono Hbel7.out.size)).alloc (Nat.le_trans Hbel7.out.size hb10.size) (.cells #[.int .i64 0, .slice none 0 0] 24))
           have Hr10 := Lib.hid (((Hr7.out.more hsz7).below hb10).below ((Below.refl w10.heap.size w10).alloc (Nat.le_refl _) (.cells #[.int .i64 0, .slice none 0 0] 24) |>.mono hb10.size))
           have cw0 : (w10.alloc (.cells #[.int .i64 0, .slice none 0 0] 24)).cell? ⟨w4.heap.size, 0, none⟩ = some (.int .i64 n) := (hw10).cell 0
           have cw1 : (w10.alloc (.cells #[.int .i64 0, .slice none 0 0] 24)).cell? ⟨w4.heap.size, 1, none⟩ = some (.slice QA QN QC) := (hw10).cell 1
           have hsz10 := hb10.size
           clear hb10 hw10)
        | (go_at_call 36
           refine (is_bad n _ (Sh.madeR ss) 1 (by decide) _ _ Hr10.out).mono ?_
           rintro e w11 ⟨rfl, hb11⟩
           have Hbel11 := Lib.hid (Hbel10.out.trans (hb11.mono Hbel10.out.size)))
        | (go_at_call 13
           refine (alive_any _ (hv.below Hbel11.out hw) (Nat.le_trans hw Hbel11.out.size)).mono ?_
           rintro e w12 ⟨rfl, hb12⟩
           have Hbel12 := Lib.hid (Hbel11.out.trans (hb12.mono Hbel11.out.size))))
      all_goals (
        refine ⟨rfl, .bool true, ?_, rfl, Hbel12.out⟩
        simp [results, Tryd.results8, Tryd.f8, go_sem]))
  · have Hsv := Lib.hid hsv; clear hsv
    cases hfb : Sh.fitsB rs ss
    · have Hfb := Lib.hid hfb; clear hfb
      (

      go_wp2_with (first
        | (go_at_call_of 14 (Value.agg #[.int .i64 size, .slice A len c])
           refine (refvalid_any size _ rs _ w.heap.size Hbel6.out.size (h.below Hbel6.out)).mono ?_
           rw [Hsv.out]
           rintro e w7 ⟨rfl, hb7⟩
           have Hs7 := Lib.hid (Hs6.out.below hb7 Hs6.out.lt)
           have Hw7 := Lib.hid (Hw6.out.below hb7 Hw6.out.lt)
           have Hbel7 := Lib.hid (Hbel6.out.trans (hb7.mono Hbel6.out.size))
           have Hr7 := Lib.hid ((Hr6.out.more hsz6).below hb7)
           have zs0 : w7.cell? ⟨w.heap.size, 0, none⟩ = some (.int .i64 size) := (Hs7.out).cell 0
           have zs1 : w7.cell? ⟨w.heap.size, 1, none⟩ = some (.slice A len c) := (Hs7.out).cell 1
           have hsz7 := hb7.size
           clear hb7)
        | (go_at_call 41
           refine (fits_any size _ _ rs ss _ w.heap.size Hbel7.out.size (h.below Hbel7.out) (g.below Hbel7.out) Hsv.out).mono ?_
           rw [Hfb.out]
           rintro e w8 ⟨rfl, hb8⟩
           have Hs8 := Lib.hid (Hs7.out.below hb8 Hs7.out.lt)
           have Hw8 := Lib.hid (Hw7.out.below hb8 Hw7.out.lt)
           have Hbel8 := Lib.hid (Hbel7.out.trans (hb8.mono Hbel7.out.size))
           have Hr8 := Lib.hid ((Hr7.out.more hsz7).below hb8)
           have as0 : w8.cell? ⟨w.heap.size, 0, none⟩ = some (.int .i64 size) := (Hs8.out).cell 0
           have as1 : w8.cell? ⟨w.heap.size, 1, none⟩ = some (.slice A len c) := (Hs8.out).cell 1
           have hsz8 := hb8.size
           clear hb8)
        | (go_at_call 44
           refine (keep_valid false _ size _ _ rs ss _ w.heap.size Hbel8.out.size (h.below Hbel8.out) (g.below Hbel8.out) Hf.out (by omega) Hsv.out Hfb.out rfl).mono ?_
           rintro e w10 hp10
           obtain ⟨hb10, rfl⟩ := hp10
           have hw10 := (Hw8.out.below hb10 Hw8.out.lt).alloc (.cells #[.int .i64 0, .slice none 0 0] 24)
           have Hbel10 := Lib.hid ((Hbel8.out.trans (hb10.mono Hbel8.out.size)).alloc (Nat.le_trans Hbel8.out.size hb10.size) (.cells #[.int .i64 0, .slice none 0 0] 24))
           have Hr10 := Lib.hid (((Hr8.out.more hsz8).below hb10).below ((Below.refl w10.heap.size w10).alloc (Nat.le_refl _) (.cells #[.int .i64 0, .slice none 0 0] 24) |>.mono hb10.size))
           have cw0 : (w10.alloc (.cells #[.int .i64 0, .slice none 0 0] 24)).cell? ⟨w4.heap.size, 0, none⟩ = some (.int .i64 n) := (hw10).cell 0
           have cw1 : (w10.alloc (.cells #[.int .i64 0, .slice none 0 0] 24)).cell? ⟨w4.heap.size, 1, none⟩ = some (.slice QA QN QC) := (hw10).cell 1
           have hsz10 := hb10.size
           clear hb10 hw10)
        | (go_at_call 36
           refine (is_bad n _ (Sh.madeR ss) 4 (by decide) _ _ Hr10.out).mono ?_
           rintro e w11 ⟨rfl, hb11⟩
           have Hbel11 := Lib.hid (Hbel10.out.trans (hb11.mono Hbel10.out.size)))
        | (go_at_call 13
           refine (alive_any _ (hv.below Hbel11.out hw) (Nat.le_trans hw Hbel11.out.size)).mono ?_
           rintro e w12 ⟨rfl, hb12⟩
           have Hbel12 := Lib.hid (Hbel11.out.trans (hb12.mono Hbel11.out.size))))
      all_goals (
        refine ⟨rfl, .bool true, ?_, rfl, Hbel12.out⟩
        simp [results, Tryd.results8, Tryd.f8, go_sem]))
    · have Hfb := Lib.hid hfb; clear hfb
      cases hob : Sh.onceB ss
      · have Hob := Lib.hid hob; clear hob
        (

      go_wp2_with (first
        | (go_at_call_of 14 (Value.agg #[.int .i64 size, .slice A len c])
           refine (refvalid_any size _ rs _ w.heap.size Hbel6.out.size (h.below Hbel6.out)).mono ?_
           rw [Hsv.out]
           rintro e w7 ⟨rfl, hb7⟩
           have Hs7 := Lib.hid (Hs6.out.below hb7 Hs6.out.lt)
           have Hw7 := Lib.hid (Hw6.out.below hb7 Hw6.out.lt)
           have Hbel7 := Lib.hid (Hbel6.out.trans (hb7.mono Hbel6.out.size))
           have Hr7 := Lib.hid ((Hr6.out.more hsz6).below hb7)
           have zs0 : w7.cell? ⟨w.heap.size, 0, none⟩ = some (.int .i64 size) := (Hs7.out).cell 0
           have zs1 : w7.cell? ⟨w.heap.size, 1, none⟩ = some (.slice A len c) := (Hs7.out).cell 1
           have hsz7 := hb7.size
           clear hb7)
        | (go_at_call 41
           refine (fits_any size _ _ rs ss _ w.heap.size Hbel7.out.size (h.below Hbel7.out) (g.below Hbel7.out) Hsv.out).mono ?_
           rw [Hfb.out]
           rintro e w8 ⟨rfl, hb8⟩
           have Hs8 := Lib.hid (Hs7.out.below hb8 Hs7.out.lt)
           have Hw8 := Lib.hid (Hw7.out.below hb8 Hw7.out.lt)
           have Hbel8 := Lib.hid (Hbel7.out.trans (hb8.mono Hbel7.out.size))
           have Hr8 := Lib.hid ((Hr7.out.more hsz7).below hb8)
           have as0 : w8.cell? ⟨w.heap.size, 0, none⟩ = some (.int .i64 size) := (Hs8.out).cell 0
           have as1 : w8.cell? ⟨w.heap.size, 1, none⟩ = some (.slice A len c) := (Hs8.out).cell 1
           have hsz8 := hb8.size
           clear hb8)
        | (go_at_call 42
           refine (twice_any _ ss _ w.heap.size (g.below Hbel8.out)).mono ?_
           rw [Hob.out]
           simp only [Bool.not_false, Bool.not_true]
           rintro e w9 ⟨rfl, nn, hw9⟩
           have hb9 : Below w8.heap.size w8 w9 := by rw [hw9]; exact below_drewN (Below.refl _ _) nn
           clear hw9
           have Hs9 := Lib.hid (Hs8.out.below hb9 Hs8.out.lt)
           have Hw9 := Lib.hid (Hw8.out.below hb9 Hw8.out.lt)
           have Hbel9 := Lib.hid (Hbel8.out.trans (hb9.mono Hbel8.out.size))
           have Hr9 := Lib.hid ((Hr8.out.more hsz8).below hb9)
           have bs0 : w9.cell? ⟨w.heap.size, 0, none⟩ = some (.int .i64 size) := (Hs9.out).cell 0
           have bs1 : w9.cell? ⟨w.heap.size, 1, none⟩ = some (.slice A len c) := (Hs9.out).cell 1
           have hsz9 := hb9.size
           clear hb9)
        | (go_at_call 44
           refine (keep_valid true false size _ _ rs ss _ w.heap.size Hbel9.out.size (h.below Hbel9.out) (g.below Hbel9.out) Hf.out (by omega) Hsv.out Hfb.out Hob.out).mono ?_
           rintro e w10 hp10
           obtain ⟨hb10, rfl⟩ := hp10
           have hw10 := (Hw9.out.below hb10 Hw9.out.lt).alloc (.cells #[.int .i64 0, .slice none 0 0] 24)
           have Hbel10 := Lib.hid ((Hbel9.out.trans (hb10.mono Hbel9.out.size)).alloc (Nat.le_trans Hbel9.out.size hb10.size) (.cells #[.int .i64 0, .slice none 0 0] 24))
           have Hr10 := Lib.hid (((Hr9.out.more hsz9).below hb10).below ((Below.refl w10.heap.size w10).alloc (Nat.le_refl _) (.cells #[.int .i64 0, .slice none 0 0] 24) |>.mono hb10.size))
           have cw0 : (w10.alloc (.cells #[.int .i64 0, .slice none 0 0] 24)).cell? ⟨w4.heap.size, 0, none⟩ = some (.int .i64 n) := (hw10).cell 0
           have cw1 : (w10.alloc (.cells #[.int .i64 0, .slice none 0 0] 24)).cell? ⟨w4.heap.size, 1, none⟩ = some (.slice QA QN QC) := (hw10).cell 1
           have hsz10 := hb10.size
           clear hb10 hw10)
        | (go_at_call 36
           refine (is_bad n _ (Sh.madeR ss) 2 (by decide) _ _ Hr10.out).mono ?_
           rintro e w11 ⟨rfl, hb11⟩
           have Hbel11 := Lib.hid (Hbel10.out.trans (hb11.mono Hbel10.out.size)))
        | (go_at_call 13
           refine (alive_any _ (hv.below Hbel11.out hw) (Nat.le_trans hw Hbel11.out.size)).mono ?_
           rintro e w12 ⟨rfl, hb12⟩
           have Hbel12 := Lib.hid (Hbel11.out.trans (hb12.mono Hbel11.out.size))))
      all_goals (
        refine ⟨rfl, .bool true, ?_, rfl, Hbel12.out⟩
        simp [results, Tryd.results8, Tryd.f8, go_sem]))
      · have Hob := Lib.hid hob; clear hob
        (

      go_wp2_with (first
        | (go_at_call_of 14 (Value.agg #[.int .i64 size, .slice A len c])
           refine (refvalid_any size _ rs _ w.heap.size Hbel6.out.size (h.below Hbel6.out)).mono ?_
           rw [Hsv.out]
           rintro e w7 ⟨rfl, hb7⟩
           have Hs7 := Lib.hid (Hs6.out.below hb7 Hs6.out.lt)
           have Hw7 := Lib.hid (Hw6.out.below hb7 Hw6.out.lt)
           have Hbel7 := Lib.hid (Hbel6.out.trans (hb7.mono Hbel6.out.size))
           have Hr7 := Lib.hid ((Hr6.out.more hsz6).below hb7)
           have zs0 : w7.cell? ⟨w.heap.size, 0, none⟩ = some (.int .i64 size) := (Hs7.out).cell 0
           have zs1 : w7.cell? ⟨w.heap.size, 1, none⟩ = some (.slice A len c) := (Hs7.out).cell 1
           have hsz7 := hb7.size
           clear hb7)
        | (go_at_call 41
           refine (fits_any size _ _ rs ss _ w.heap.size Hbel7.out.size (h.below Hbel7.out) (g.below Hbel7.out) Hsv.out).mono ?_
           rw [Hfb.out]
           rintro e w8 ⟨rfl, hb8⟩
           have Hs8 := Lib.hid (Hs7.out.below hb8 Hs7.out.lt)
           have Hw8 := Lib.hid (Hw7.out.below hb8 Hw7.out.lt)
           have Hbel8 := Lib.hid (Hbel7.out.trans (hb8.mono Hbel7.out.size))
           have Hr8 := Lib.hid ((Hr7.out.more hsz7).below hb8)
           have as0 : w8.cell? ⟨w.heap.size, 0, none⟩ = some (.int .i64 size) := (Hs8.out).cell 0
           have as1 : w8.cell? ⟨w.heap.size, 1, none⟩ = some (.slice A len c) := (Hs8.out).cell 1
           have hsz8 := hb8.size
           clear hb8)
        | (go_at_call 42
           refine (twice_any _ ss _ w.heap.size (g.below Hbel8.out)).mono ?_
           rw [Hob.out]
           simp only [Bool.not_false, Bool.not_true]
           rintro e w9 ⟨rfl, nn, hw9⟩
           have hb9 : Below w8.heap.size w8 w9 := by rw [hw9]; exact below_drewN (Below.refl _ _) nn
           clear hw9
           have Hs9 := Lib.hid (Hs8.out.below hb9 Hs8.out.lt)
           have Hw9 := Lib.hid (Hw8.out.below hb9 Hw8.out.lt)
           have Hbel9 := Lib.hid (Hbel8.out.trans (hb9.mono Hbel8.out.size))
           have Hr9 := Lib.hid ((Hr8.out.more hsz8).below hb9)
           have bs0 : w9.cell? ⟨w.heap.size, 0, none⟩ = some (.int .i64 size) := (Hs9.out).cell 0
           have bs1 : w9.cell? ⟨w.heap.size, 1, none⟩ = some (.slice A len c) := (Hs9.out).cell 1
           have hsz9 := hb9.size
           clear hb9)
        | (go_at_call 43
           refine (refkeep_any size _ _ rs ss _ w.heap.size Hbel9.out.size (h.below Hbel9.out) (g.below Hbel9.out) (by omega) Hsv.out Hfb.out).mono ?_
           rintro e wk ⟨xk, rfl, hnk, hbk⟩
           have hnk' := hnk
           obtain ⟨KA, KN, KC, rfl, -⟩ := hnk'
           have hwk := Hw9.out.below hbk Hw9.out.lt
           have hsk := Hs9.out.below hbk Hs9.out.lt
           have hwlt := Hw6.out.lt
           have kw0 : wk.cell? ⟨w4.heap.size, 0, none⟩ = some (.int .i64 n) := (hwk).cell 0
           have kw1 : wk.cell? ⟨w4.heap.size, 1, none⟩ = some (.slice QA QN QC) := (hwk).cell 1
           have kf0 := hwk.frozen 0
           have kf1 := hwk.frozen 1
           have hne : w.heap.size ≠ w4.heap.size := by omega
           have hss : Blk ((wk.setCell ⟨w4.heap.size, 0, none⟩ (.int .i64 size)).setCell ⟨w4.heap.size, 1, none⟩ (.slice KA KN KC)) w.heap.size 24 #[.int .i64 size, .slice A len c] := (hsk.far (p := ⟨w4.heap.size, 0, none⟩) hne _).far (p := ⟨w4.heap.size, 1, none⟩) hne _
           have hws : Blk ((wk.setCell ⟨w4.heap.size, 0, none⟩ (.int .i64 size)).setCell ⟨w4.heap.size, 1, none⟩ (.slice KA KN KC)) w4.heap.size 24 #[.int .i64 size, .slice KA KN KC] := (hwk.set_ 0 (.int .i64 size)).set_ 1 (.slice KA KN KC)
           have hbs : Below w.heap.size w ((wk.setCell ⟨w4.heap.size, 0, none⟩ (.int .i64 size)).setCell ⟨w4.heap.size, 1, none⟩ (.slice KA KN KC)) := ((Hbel9.out.trans (hbk.mono Hbel9.out.size)).setCell (p := ⟨w4.heap.size, 0, none⟩) (show w.heap.size ≤ w4.heap.size by omega) _).setCell (p := ⟨w4.heap.size, 1, none⟩) (show w.heap.size ≤ w4.heap.size by omega) _
           have hks := (hnk.keep ((Keeps.setCell (p := ⟨w4.heap.size, 0, none⟩) hwk (by decide) (.int .i64 size)).trans (Keeps.setCell (p := ⟨w4.heap.size, 1, none⟩) (hwk.set_ 0 (.int .i64 size)) (by decide) (.slice KA KN KC)))).rels
           have ds0 : ((wk.setCell ⟨w4.heap.size, 0, none⟩ (.int .i64 size)).setCell ⟨w4.heap.size, 1, none⟩ (.slice KA KN KC)).cell? ⟨w.heap.size, 0, none⟩ = some (.int .i64 size) := (hss).cell 0
           have ds1 : ((wk.setCell ⟨w4.heap.size, 0, none⟩ (.int .i64 size)).setCell ⟨w4.heap.size, 1, none⟩ (.slice KA KN KC)).cell? ⟨w.heap.size, 1, none⟩ = some (.slice A len c) := (hss).cell 1
           have Hws := Lib.hid hws
           have Hbs := Lib.hid hbs
           have Hks := Lib.hid hks
           clear hnk hwk hsk hss hws hbs hks hbk)
        | (go_at_call 44
           refine (keep_valid true true size _ _ rs ss _ w.heap.size Hbs.out.size (h.below Hbs.out) (g.below Hbs.out) Hf.out (by omega) Hsv.out Hfb.out Hob.out).mono ?_
           rintro e w10 hp10
           obtain ⟨hb10, x10, rfl, hn10⟩ := hp10
           have hn10' := hn10
           obtain ⟨PA2, PN2, PC2, rfl, -⟩ := hn10'
           have hw10 := (Hws.out.below hb10 Hws.out.lt).alloc (.cells #[.int .i64 size, .slice PA2 PN2 PC2] 24)
           have Hbel10 := Lib.hid ((Hbs.out.trans (hb10.mono Hbs.out.size)).alloc (Nat.le_trans Hbs.out.size hb10.size) (.cells #[.int .i64 size, .slice PA2 PN2 PC2] 24))
           have Hr10 := Lib.hid (((Hks.out.below hb10).below ((Below.refl w10.heap.size w10).alloc (Nat.le_refl _) (.cells #[.int .i64 size, .slice PA2 PN2 PC2] 24) |>.mono hb10.size)).more (show _ ≤ (w10.alloc (.cells #[.int .i64 size, .slice PA2 PN2 PC2] 24)).heap.size by have hq := hb10.size; simp at hq ⊢; omega))
           have Hp10 := Lib.hid ((hn10.keep (Keeps.alloc _ _ w10 (.cells #[.int .i64 size, .slice PA2 PN2 PC2] 24))).rels)
           have cw0 : (w10.alloc (.cells #[.int .i64 size, .slice PA2 PN2 PC2] 24)).cell? ⟨w4.heap.size, 0, none⟩ = some (.int .i64 size) := (hw10).cell 0
           have cw1 : (w10.alloc (.cells #[.int .i64 size, .slice PA2 PN2 PC2] 24)).cell? ⟨w4.heap.size, 1, none⟩ = some (.slice KA KN KC) := (hw10).cell 1
           clear hb10 hw10 hn10)
        | (go_at_call 36
           refine (is_ok size _ _ (Sh.keepR rs ss) _ _ (Nat.le_refl _) Hp10.out Hr10.out).mono ?_
           rintro e w11 ⟨rfl, hb11⟩
           have Hbel11 := Lib.hid (Hbel10.out.trans (hb11.mono Hbel10.out.size)))
        | (go_at_call 13
           refine (alive_any _ (hv.below Hbel11.out hw) (Nat.le_trans hw Hbel11.out.size)).mono ?_
           rintro e w12 ⟨rfl, hb12⟩
           have Hbel12 := Lib.hid (Hbel11.out.trans (hb12.mono Hbel11.out.size))))
      all_goals (
        refine ⟨rfl, .bool true, ?_, rfl, Hbel12.out⟩
        simp [results, Tryd.results8, Tryd.f8, go_sem]))

set_option maxRecDepth 100000 in
set_option maxHeartbeats 2000000 in
theorem smakes_false (n : Int) (v u : Value) (ss : List (ByteArray × Int)) (size : Int) (rs : List Sh.Rel) (w : World) (h : Rels w w.heap.size v rs) (g : Syms w w.heap.size u ss) (hf : SymFit ss) (hv : Vars w) (hw : 5 ≤ w.heap.size) (h40 : ss.length ≤ 40) (hmb : Sh.validB ⟨n, Sh.madeR ss⟩ = false) :
    Calls Tryd.prog 8 #[.int .i64 n, u, .agg #[.int .i64 size, v]] w fun e w' => e = .returned (.bool true) ∧ Below w.heap.size w w' := by
  have h' := h
  obtain ⟨A, len, c, rfl, -⟩ := h'
  have g' := g
  obtain ⟨A', m, c', rfl, -⟩ := g'
  have hb1 := (Below.refl w.heap.size w).alloc (Nat.le_refl _) (.cells #[.int .i64 size, .slice A len c] 24)
  have hbx := Blk.alloc (Blk.new w 24 #[.int .i64 size, .slice A len c]) (.cells #[.int .i64 size, .slice A len c] 24)
  have hbel := (hb1.alloc (by simp) (.cells #[.int .i64 size, .slice A len c] 24))
  have hvar := Blk.new (w.alloc (.cells #[.int .i64 size, .slice A len c] 24)) 24 #[.int .i64 size, .slice A len c]
  rw [World.size_alloc] at hvar
  have hrels := h.below hbel
  have hvs := hv.below hbel hw
  have hg2 := g.below hbel
  have Hbx := Lib.hid hbx; clear hbx
  have Hbel2 := Lib.hid hbel; clear hbel
  have Hvar := Lib.hid hvar; clear hvar
  have Hrels := Lib.hid hrels; clear hrels
  have Hvs := Lib.hid hvs; clear hvs
  have Hg2 := Lib.hid hg2; clear hg2
  have Hf := Lib.hid hf; clear hf
  clear hb1
  have Hmb := Lib.hid hmb; clear hmb
  go_enter Tryd.func8, Tryd.ntmps8
  go_upto_region 9 with (first
    | (go_at_call 12
       refine (few_any (w.heap.size + 1) size A len c _ rs _ Hvar.out Hrels.out).mono ?_
       rintro e w1 ⟨⟨b1, rfl⟩, rfl⟩)
    | (go_at_call 38
       refine (fewsyms_some _ ss _ w.heap.size Hg2.out Hf.out).mono ?_
       rintro e w1 ⟨⟨b2, rfl⟩, rfl⟩)
    | (go_at_call 13
       refine (alive_any _ Hvs.out (Nat.le_trans hw Hbel2.out.size)).mono ?_
       rintro e w2 ⟨rfl, hb2⟩
       have Hb2 := Lib.hid (Hbel2.out.trans (hb2.mono Hbel2.out.size)))
    | (go_at_call 39
       refine (make_any false n _ ss _ w.heap.size Hbel2.out.size Hg2.out Hf.out (by omega) Hmb.out).mono ?_
       rintro e w3 ⟨rfl, hb3⟩
       have hbel3 := Hbel2.out.trans (hb3.mono Hbel2.out.size)
       have hs3 := Hbx.out.below hb3 Hbx.out.lt
       have hbel3a := hbel3.alloc hbel3.size (.cells #[.int .i64 0, .slice none 0 0] 24)
       have hm3a := Blk.new w3 24 #[.int .i64 0, .slice none 0 0]
       have hs3a := hs3.alloc (.cells #[.int .i64 0, .slice none 0 0] 24)
       have Hbel3a := Lib.hid hbel3a
       have Hm3a := Lib.hid hm3a
       have Hs3a := Lib.hid hs3a
       clear hb3 hbel3 hs3 hbel3a hm3a hs3a)
    | (go_at_call 40
       refine (made_any n _ ss _ w.heap.size Hbel3a.out.size (g.below Hbel3a.out) Hf.out (by omega)).mono ?_
       rintro e w4 ⟨x4, rfl, hn4, hb4⟩
       have hn4' := hn4
       obtain ⟨QA, QN, QC, rfl, -⟩ := hn4'
       have hbel4 := Hbel3a.out.trans (hb4.mono Hbel3a.out.size)
       have hm4 := Hm3a.out.below hb4 Hm3a.out.lt
       have hs4 := Hs3a.out.below hb4 Hs3a.out.lt
       have hwlt4 := hs4.lt
       have hbel4a := hbel4.alloc hbel4.size (.cells #[.int .i64 n, .slice QA QN QC] 24)
       have hm4a := hm4.alloc (.cells #[.int .i64 n, .slice QA QN QC] 24)
       have hs4a := hs4.alloc (.cells #[.int .i64 n, .slice QA QN QC] 24)
       have hw4a := Blk.new w4 24 #[.int .i64 n, .slice QA QN QC]
       have hr4a := (hn4.keep (Keeps.alloc _ _ w4 (.cells #[.int .i64 n, .slice QA QN QC] 24))).rels
       have Hbel4a := Lib.hid hbel4a
       have Hm4a := Lib.hid hm4a
       have Hs4a := Lib.hid hs4a
       have Hw4a := Lib.hid hw4a
       have Hr4a := Lib.hid hr4a
       clear hn4 hb4 hbel4 hm4 hs4 hbel4a hm4a hs4a hw4a hr4a)
    | (go_at_call_of 14 (Value.agg #[.int .i64 n, .slice QA QN QC])
       refine (refvalid_any n _ (Sh.madeR ss) _ _ (Nat.le_refl _) Hr4a.out).mono ?_
       rw [Hmb.out]
       rintro e w5 ⟨rfl, hb5⟩
       have hm5 := Hm4a.out.below hb5 Hm4a.out.lt
       have hs5 := Hs4a.out.below hb5 Hs4a.out.lt
       have hw5 := Hw4a.out.below hb5 Hw4a.out.lt
       have hbel5 := Hbel4a.out.trans (hb5.mono Hbel4a.out.size)
       have hr5 := Hr4a.out.below hb5
       have xm0 : w5.cell? ⟨w3.heap.size, 0, none⟩ = some (.int .i64 0) := (hm5).cell 0
       have xm1 : w5.cell? ⟨w3.heap.size, 1, none⟩ = some (.slice none 0 0) := (hm5).cell 1
       have xw0 : w5.cell? ⟨w4.heap.size, 0, none⟩ = some (.int .i64 n) := (hw5).cell 0
       have xw1 : w5.cell? ⟨w4.heap.size, 1, none⟩ = some (.slice QA QN QC) := (hw5).cell 1
       have Hs5 := Lib.hid hs5
       have Hw5 := Lib.hid hw5
       have Hbel5 := Lib.hid hbel5
       have Hr5 := Lib.hid hr5
       have hsz5 := hb5.size
       have hsz5 : w4.heap.size + 1 ≤ w5.heap.size := by simpa using hsz5
       clear hm5 hs5 hw5 hbel5 hr5 hb5)
    | (go_at_call 36
       refine (is_bad n _ (Sh.madeR ss) 1 (by decide) _ w5.heap.size (Hr5.out.more (by simpa using hsz5))).mono ?_
       rintro e w6 ⟨rfl, hb6⟩
       have hs6 := Hs5.out.below hb6 Hs5.out.lt
       have hw6 := Hw5.out.below hb6 Hw5.out.lt
       have hbel6 := Hbel5.out.trans (hb6.mono Hbel5.out.size)
       have hr6 := (Hr5.out.more (show _ ≤ w5.heap.size by first | exact hsz5 | simpa using hsz5)).below hb6
       have Hs6 := Lib.hid hs6
       have Hw6 := Lib.hid hw6
       have Hbel6 := Lib.hid hbel6
       have Hr6 := Lib.hid hr6
       have ys0 : w6.cell? ⟨w.heap.size, 0, none⟩ = some (.int .i64 size) := (hs6).cell 0
       have ys1 : w6.cell? ⟨w.heap.size, 1, none⟩ = some (.slice A len c) := (hs6).cell 1
       have hsz6 := hb6.size
       clear hs6 hw6 hbel6 hr6 hb6))
  all_goals first
    | (refine ⟨rfl, .bool true, ?_, rfl, Hb2.out⟩
       simp [results, Tryd.results8, Tryd.f8, go_sem])
    | skip
  cases hsv : Sh.validB ⟨size, rs⟩
  · have Hsv := Lib.hid hsv; clear hsv
    (

      go_wp2_with (first
        | (go_at_call_of 14 (Value.agg #[.int .i64 size, .slice A len c])
           refine (refvalid_any size _ rs _ w.heap.size Hbel6.out.size (h.below Hbel6.out)).mono ?_
           rw [Hsv.out]
           rintro e w7 ⟨rfl, hb7⟩
           have Hs7 := Lib.hid (Hs6.out.below hb7 Hs6.out.lt)
           have Hw7 := Lib.hid (Hw6.out.below hb7 Hw6.out.lt)
           have Hbel7 := Lib.hid (Hbel6.out.trans (hb7.mono Hbel6.out.size))
           have Hr7 := Lib.hid ((Hr6.out.more hsz6).below hb7)
           have zs0 : w7.cell? ⟨w.heap.size, 0, none⟩ = some (.int .i64 size) := (Hs7.out).cell 0
           have zs1 : w7.cell? ⟨w.heap.size, 1, none⟩ = some (.slice A len c) := (Hs7.out).cell 1
           have hsz7 := hb7.size
           clear hb7)
        | (go_at_call 44
           refine (keep_form size _ _ rs _ w.heap.size Hbel7.out.size (h.below Hbel7.out) Hsv.out).mono ?_
           rintro e w10 ⟨rfl, hb10⟩
           have hw10 := (Hw7.out.below hb10 Hw7.out.lt).alloc (.cells #[.int .i64 0, .slice none 0 0] 24)
           have Hbel10 := Lib.hid ((Hbel7.out.trans (hb10.mono Hbel7.out.size)).alloc (Nat.le_trans Hbel7.out.size hb10.size) (.cells #[.int .i64 0, .slice none 0 0] 24))
           have Hr10 := Lib.hid (((Hr7.out.more hsz7).below hb10).below ((Below.refl w10.heap.size w10).alloc (Nat.le_refl _) (.cells #[.int .i64 0, .slice none 0 0] 24) |>.mono hb10.size))
           have cw0 : (w10.alloc (.cells #[.int .i64 0, .slice none 0 0] 24)).cell? ⟨w4.heap.size, 0, none⟩ = some (.int .i64 n) := (hw10).cell 0
           have cw1 : (w10.alloc (.cells #[.int .i64 0, .slice none 0 0] 24)).cell? ⟨w4.heap.size, 1, none⟩ = some (.slice QA QN QC) := (hw10).cell 1
           have hsz10 := hb10.size
           clear hb10 hw10)
        | (go_at_call 36
           refine (is_bad n _ (Sh.madeR ss) 1 (by decide) _ _ Hr10.out).mono ?_
           rintro e w11 ⟨rfl, hb11⟩
           have Hbel11 := Lib.hid (Hbel10.out.trans (hb11.mono Hbel10.out.size)))
        | (go_at_call 13
           refine (alive_any _ (hv.below Hbel11.out hw) (Nat.le_trans hw Hbel11.out.size)).mono ?_
           rintro e w12 ⟨rfl, hb12⟩
           have Hbel12 := Lib.hid (Hbel11.out.trans (hb12.mono Hbel11.out.size))))
      all_goals (
        refine ⟨rfl, .bool true, ?_, rfl, Hbel12.out⟩
        simp [results, Tryd.results8, Tryd.f8, go_sem]))
  · have Hsv := Lib.hid hsv; clear hsv
    cases hfb : Sh.fitsB rs ss
    · have Hfb := Lib.hid hfb; clear hfb
      (

      go_wp2_with (first
        | (go_at_call_of 14 (Value.agg #[.int .i64 size, .slice A len c])
           refine (refvalid_any size _ rs _ w.heap.size Hbel6.out.size (h.below Hbel6.out)).mono ?_
           rw [Hsv.out]
           rintro e w7 ⟨rfl, hb7⟩
           have Hs7 := Lib.hid (Hs6.out.below hb7 Hs6.out.lt)
           have Hw7 := Lib.hid (Hw6.out.below hb7 Hw6.out.lt)
           have Hbel7 := Lib.hid (Hbel6.out.trans (hb7.mono Hbel6.out.size))
           have Hr7 := Lib.hid ((Hr6.out.more hsz6).below hb7)
           have zs0 : w7.cell? ⟨w.heap.size, 0, none⟩ = some (.int .i64 size) := (Hs7.out).cell 0
           have zs1 : w7.cell? ⟨w.heap.size, 1, none⟩ = some (.slice A len c) := (Hs7.out).cell 1
           have hsz7 := hb7.size
           clear hb7)
        | (go_at_call 41
           refine (fits_any size _ _ rs ss _ w.heap.size Hbel7.out.size (h.below Hbel7.out) (g.below Hbel7.out) Hsv.out).mono ?_
           rw [Hfb.out]
           rintro e w8 ⟨rfl, hb8⟩
           have Hs8 := Lib.hid (Hs7.out.below hb8 Hs7.out.lt)
           have Hw8 := Lib.hid (Hw7.out.below hb8 Hw7.out.lt)
           have Hbel8 := Lib.hid (Hbel7.out.trans (hb8.mono Hbel7.out.size))
           have Hr8 := Lib.hid ((Hr7.out.more hsz7).below hb8)
           have as0 : w8.cell? ⟨w.heap.size, 0, none⟩ = some (.int .i64 size) := (Hs8.out).cell 0
           have as1 : w8.cell? ⟨w.heap.size, 1, none⟩ = some (.slice A len c) := (Hs8.out).cell 1
           have hsz8 := hb8.size
           clear hb8)
        | (go_at_call 44
           refine (keep_valid false _ size _ _ rs ss _ w.heap.size Hbel8.out.size (h.below Hbel8.out) (g.below Hbel8.out) Hf.out (by omega) Hsv.out Hfb.out rfl).mono ?_
           rintro e w10 hp10
           obtain ⟨hb10, rfl⟩ := hp10
           have hw10 := (Hw8.out.below hb10 Hw8.out.lt).alloc (.cells #[.int .i64 0, .slice none 0 0] 24)
           have Hbel10 := Lib.hid ((Hbel8.out.trans (hb10.mono Hbel8.out.size)).alloc (Nat.le_trans Hbel8.out.size hb10.size) (.cells #[.int .i64 0, .slice none 0 0] 24))
           have Hr10 := Lib.hid (((Hr8.out.more hsz8).below hb10).below ((Below.refl w10.heap.size w10).alloc (Nat.le_refl _) (.cells #[.int .i64 0, .slice none 0 0] 24) |>.mono hb10.size))
           have cw0 : (w10.alloc (.cells #[.int .i64 0, .slice none 0 0] 24)).cell? ⟨w4.heap.size, 0, none⟩ = some (.int .i64 n) := (hw10).cell 0
           have cw1 : (w10.alloc (.cells #[.int .i64 0, .slice none 0 0] 24)).cell? ⟨w4.heap.size, 1, none⟩ = some (.slice QA QN QC) := (hw10).cell 1
           have hsz10 := hb10.size
           clear hb10 hw10)
        | (go_at_call 36
           refine (is_bad n _ (Sh.madeR ss) 4 (by decide) _ _ Hr10.out).mono ?_
           rintro e w11 ⟨rfl, hb11⟩
           have Hbel11 := Lib.hid (Hbel10.out.trans (hb11.mono Hbel10.out.size)))
        | (go_at_call 13
           refine (alive_any _ (hv.below Hbel11.out hw) (Nat.le_trans hw Hbel11.out.size)).mono ?_
           rintro e w12 ⟨rfl, hb12⟩
           have Hbel12 := Lib.hid (Hbel11.out.trans (hb12.mono Hbel11.out.size))))
      all_goals (
        refine ⟨rfl, .bool true, ?_, rfl, Hbel12.out⟩
        simp [results, Tryd.results8, Tryd.f8, go_sem]))
    · have Hfb := Lib.hid hfb; clear hfb
      cases hob : Sh.onceB ss
      · have Hob := Lib.hid hob; clear hob
        (

      go_wp2_with (first
        | (go_at_call_of 14 (Value.agg #[.int .i64 size, .slice A len c])
           refine (refvalid_any size _ rs _ w.heap.size Hbel6.out.size (h.below Hbel6.out)).mono ?_
           rw [Hsv.out]
           rintro e w7 ⟨rfl, hb7⟩
           have Hs7 := Lib.hid (Hs6.out.below hb7 Hs6.out.lt)
           have Hw7 := Lib.hid (Hw6.out.below hb7 Hw6.out.lt)
           have Hbel7 := Lib.hid (Hbel6.out.trans (hb7.mono Hbel6.out.size))
           have Hr7 := Lib.hid ((Hr6.out.more hsz6).below hb7)
           have zs0 : w7.cell? ⟨w.heap.size, 0, none⟩ = some (.int .i64 size) := (Hs7.out).cell 0
           have zs1 : w7.cell? ⟨w.heap.size, 1, none⟩ = some (.slice A len c) := (Hs7.out).cell 1
           have hsz7 := hb7.size
           clear hb7)
        | (go_at_call 41
           refine (fits_any size _ _ rs ss _ w.heap.size Hbel7.out.size (h.below Hbel7.out) (g.below Hbel7.out) Hsv.out).mono ?_
           rw [Hfb.out]
           rintro e w8 ⟨rfl, hb8⟩
           have Hs8 := Lib.hid (Hs7.out.below hb8 Hs7.out.lt)
           have Hw8 := Lib.hid (Hw7.out.below hb8 Hw7.out.lt)
           have Hbel8 := Lib.hid (Hbel7.out.trans (hb8.mono Hbel7.out.size))
           have Hr8 := Lib.hid ((Hr7.out.more hsz7).below hb8)
           have as0 : w8.cell? ⟨w.heap.size, 0, none⟩ = some (.int .i64 size) := (Hs8.out).cell 0
           have as1 : w8.cell? ⟨w.heap.size, 1, none⟩ = some (.slice A len c) := (Hs8.out).cell 1
           have hsz8 := hb8.size
           clear hb8)
        | (go_at_call 42
           refine (twice_any _ ss _ w.heap.size (g.below Hbel8.out)).mono ?_
           rw [Hob.out]
           simp only [Bool.not_false, Bool.not_true]
           rintro e w9 ⟨rfl, nn, hw9⟩
           have hb9 : Below w8.heap.size w8 w9 := by rw [hw9]; exact below_drewN (Below.refl _ _) nn
           clear hw9
           have Hs9 := Lib.hid (Hs8.out.below hb9 Hs8.out.lt)
           have Hw9 := Lib.hid (Hw8.out.below hb9 Hw8.out.lt)
           have Hbel9 := Lib.hid (Hbel8.out.trans (hb9.mono Hbel8.out.size))
           have Hr9 := Lib.hid ((Hr8.out.more hsz8).below hb9)
           have bs0 : w9.cell? ⟨w.heap.size, 0, none⟩ = some (.int .i64 size) := (Hs9.out).cell 0
           have bs1 : w9.cell? ⟨w.heap.size, 1, none⟩ = some (.slice A len c) := (Hs9.out).cell 1
           have hsz9 := hb9.size
           clear hb9)
        | (go_at_call 44
           refine (keep_valid true false size _ _ rs ss _ w.heap.size Hbel9.out.size (h.below Hbel9.out) (g.below Hbel9.out) Hf.out (by omega) Hsv.out Hfb.out Hob.out).mono ?_
           rintro e w10 hp10
           obtain ⟨hb10, rfl⟩ := hp10
           have hw10 := (Hw9.out.below hb10 Hw9.out.lt).alloc (.cells #[.int .i64 0, .slice none 0 0] 24)
           have Hbel10 := Lib.hid ((Hbel9.out.trans (hb10.mono Hbel9.out.size)).alloc (Nat.le_trans Hbel9.out.size hb10.size) (.cells #[.int .i64 0, .slice none 0 0] 24))
           have Hr10 := Lib.hid (((Hr9.out.more hsz9).below hb10).below ((Below.refl w10.heap.size w10).alloc (Nat.le_refl _) (.cells #[.int .i64 0, .slice none 0 0] 24) |>.mono hb10.size))
           have cw0 : (w10.alloc (.cells #[.int .i64 0, .slice none 0 0] 24)).cell? ⟨w4.heap.size, 0, none⟩ = some (.int .i64 n) := (hw10).cell 0
           have cw1 : (w10.alloc (.cells #[.int .i64 0, .slice none 0 0] 24)).cell? ⟨w4.heap.size, 1, none⟩ = some (.slice QA QN QC) := (hw10).cell 1
           have hsz10 := hb10.size
           clear hb10 hw10)
        | (go_at_call 36
           refine (is_bad n _ (Sh.madeR ss) 2 (by decide) _ _ Hr10.out).mono ?_
           rintro e w11 ⟨rfl, hb11⟩
           have Hbel11 := Lib.hid (Hbel10.out.trans (hb11.mono Hbel10.out.size)))
        | (go_at_call 13
           refine (alive_any _ (hv.below Hbel11.out hw) (Nat.le_trans hw Hbel11.out.size)).mono ?_
           rintro e w12 ⟨rfl, hb12⟩
           have Hbel12 := Lib.hid (Hbel11.out.trans (hb12.mono Hbel11.out.size))))
      all_goals (
        refine ⟨rfl, .bool true, ?_, rfl, Hbel12.out⟩
        simp [results, Tryd.results8, Tryd.f8, go_sem]))
      · have Hob := Lib.hid hob; clear hob
        (

      go_wp2_with (first
        | (go_at_call_of 14 (Value.agg #[.int .i64 size, .slice A len c])
           refine (refvalid_any size _ rs _ w.heap.size Hbel6.out.size (h.below Hbel6.out)).mono ?_
           rw [Hsv.out]
           rintro e w7 ⟨rfl, hb7⟩
           have Hs7 := Lib.hid (Hs6.out.below hb7 Hs6.out.lt)
           have Hw7 := Lib.hid (Hw6.out.below hb7 Hw6.out.lt)
           have Hbel7 := Lib.hid (Hbel6.out.trans (hb7.mono Hbel6.out.size))
           have Hr7 := Lib.hid ((Hr6.out.more hsz6).below hb7)
           have zs0 : w7.cell? ⟨w.heap.size, 0, none⟩ = some (.int .i64 size) := (Hs7.out).cell 0
           have zs1 : w7.cell? ⟨w.heap.size, 1, none⟩ = some (.slice A len c) := (Hs7.out).cell 1
           have hsz7 := hb7.size
           clear hb7)
        | (go_at_call 41
           refine (fits_any size _ _ rs ss _ w.heap.size Hbel7.out.size (h.below Hbel7.out) (g.below Hbel7.out) Hsv.out).mono ?_
           rw [Hfb.out]
           rintro e w8 ⟨rfl, hb8⟩
           have Hs8 := Lib.hid (Hs7.out.below hb8 Hs7.out.lt)
           have Hw8 := Lib.hid (Hw7.out.below hb8 Hw7.out.lt)
           have Hbel8 := Lib.hid (Hbel7.out.trans (hb8.mono Hbel7.out.size))
           have Hr8 := Lib.hid ((Hr7.out.more hsz7).below hb8)
           have as0 : w8.cell? ⟨w.heap.size, 0, none⟩ = some (.int .i64 size) := (Hs8.out).cell 0
           have as1 : w8.cell? ⟨w.heap.size, 1, none⟩ = some (.slice A len c) := (Hs8.out).cell 1
           have hsz8 := hb8.size
           clear hb8)
        | (go_at_call 42
           refine (twice_any _ ss _ w.heap.size (g.below Hbel8.out)).mono ?_
           rw [Hob.out]
           simp only [Bool.not_false, Bool.not_true]
           rintro e w9 ⟨rfl, nn, hw9⟩
           have hb9 : Below w8.heap.size w8 w9 := by rw [hw9]; exact below_drewN (Below.refl _ _) nn
           clear hw9
           have Hs9 := Lib.hid (Hs8.out.below hb9 Hs8.out.lt)
           have Hw9 := Lib.hid (Hw8.out.below hb9 Hw8.out.lt)
           have Hbel9 := Lib.hid (Hbel8.out.trans (hb9.mono Hbel8.out.size))
           have Hr9 := Lib.hid ((Hr8.out.more hsz8).below hb9)
           have bs0 : w9.cell? ⟨w.heap.size, 0, none⟩ = some (.int .i64 size) := (Hs9.out).cell 0
           have bs1 : w9.cell? ⟨w.heap.size, 1, none⟩ = some (.slice A len c) := (Hs9.out).cell 1
           have hsz9 := hb9.size
           clear hb9)
        | (go_at_call 43
           refine (refkeep_any size _ _ rs ss _ w.heap.size Hbel9.out.size (h.below Hbel9.out) (g.below Hbel9.out) (by omega) Hsv.out Hfb.out).mono ?_
           rintro e wk ⟨xk, rfl, hnk, hbk⟩
           have hnk' := hnk
           obtain ⟨KA, KN, KC, rfl, -⟩ := hnk'
           have hwk := Hw9.out.below hbk Hw9.out.lt
           have hsk := Hs9.out.below hbk Hs9.out.lt
           have hwlt := Hw6.out.lt
           have kw0 : wk.cell? ⟨w4.heap.size, 0, none⟩ = some (.int .i64 n) := (hwk).cell 0
           have kw1 : wk.cell? ⟨w4.heap.size, 1, none⟩ = some (.slice QA QN QC) := (hwk).cell 1
           have kf0 := hwk.frozen 0
           have kf1 := hwk.frozen 1
           have hne : w.heap.size ≠ w4.heap.size := by omega
           have hss : Blk ((wk.setCell ⟨w4.heap.size, 0, none⟩ (.int .i64 size)).setCell ⟨w4.heap.size, 1, none⟩ (.slice KA KN KC)) w.heap.size 24 #[.int .i64 size, .slice A len c] := (hsk.far (p := ⟨w4.heap.size, 0, none⟩) hne _).far (p := ⟨w4.heap.size, 1, none⟩) hne _
           have hws : Blk ((wk.setCell ⟨w4.heap.size, 0, none⟩ (.int .i64 size)).setCell ⟨w4.heap.size, 1, none⟩ (.slice KA KN KC)) w4.heap.size 24 #[.int .i64 size, .slice KA KN KC] := (hwk.set_ 0 (.int .i64 size)).set_ 1 (.slice KA KN KC)
           have hbs : Below w.heap.size w ((wk.setCell ⟨w4.heap.size, 0, none⟩ (.int .i64 size)).setCell ⟨w4.heap.size, 1, none⟩ (.slice KA KN KC)) := ((Hbel9.out.trans (hbk.mono Hbel9.out.size)).setCell (p := ⟨w4.heap.size, 0, none⟩) (show w.heap.size ≤ w4.heap.size by omega) _).setCell (p := ⟨w4.heap.size, 1, none⟩) (show w.heap.size ≤ w4.heap.size by omega) _
           have hks := (hnk.keep ((Keeps.setCell (p := ⟨w4.heap.size, 0, none⟩) hwk (by decide) (.int .i64 size)).trans (Keeps.setCell (p := ⟨w4.heap.size, 1, none⟩) (hwk.set_ 0 (.int .i64 size)) (by decide) (.slice KA KN KC)))).rels
           have ds0 : ((wk.setCell ⟨w4.heap.size, 0, none⟩ (.int .i64 size)).setCell ⟨w4.heap.size, 1, none⟩ (.slice KA KN KC)).cell? ⟨w.heap.size, 0, none⟩ = some (.int .i64 size) := (hss).cell 0
           have ds1 : ((wk.setCell ⟨w4.heap.size, 0, none⟩ (.int .i64 size)).setCell ⟨w4.heap.size, 1, none⟩ (.slice KA KN KC)).cell? ⟨w.heap.size, 1, none⟩ = some (.slice A len c) := (hss).cell 1
           have Hws := Lib.hid hws
           have Hbs := Lib.hid hbs
           have Hks := Lib.hid hks
           clear hnk hwk hsk hss hws hbs hks hbk)
        | (go_at_call 44
           refine (keep_valid true true size _ _ rs ss _ w.heap.size Hbs.out.size (h.below Hbs.out) (g.below Hbs.out) Hf.out (by omega) Hsv.out Hfb.out Hob.out).mono ?_
           rintro e w10 hp10
           obtain ⟨hb10, x10, rfl, hn10⟩ := hp10
           have hn10' := hn10
           obtain ⟨PA2, PN2, PC2, rfl, -⟩ := hn10'
           have hw10 := (Hws.out.below hb10 Hws.out.lt).alloc (.cells #[.int .i64 size, .slice PA2 PN2 PC2] 24)
           have Hbel10 := Lib.hid ((Hbs.out.trans (hb10.mono Hbs.out.size)).alloc (Nat.le_trans Hbs.out.size hb10.size) (.cells #[.int .i64 size, .slice PA2 PN2 PC2] 24))
           have Hr10 := Lib.hid (((Hks.out.below hb10).below ((Below.refl w10.heap.size w10).alloc (Nat.le_refl _) (.cells #[.int .i64 size, .slice PA2 PN2 PC2] 24) |>.mono hb10.size)).more (show _ ≤ (w10.alloc (.cells #[.int .i64 size, .slice PA2 PN2 PC2] 24)).heap.size by have hq := hb10.size; simp at hq ⊢; omega))
           have Hp10 := Lib.hid ((hn10.keep (Keeps.alloc _ _ w10 (.cells #[.int .i64 size, .slice PA2 PN2 PC2] 24))).rels)
           have cw0 : (w10.alloc (.cells #[.int .i64 size, .slice PA2 PN2 PC2] 24)).cell? ⟨w4.heap.size, 0, none⟩ = some (.int .i64 size) := (hw10).cell 0
           have cw1 : (w10.alloc (.cells #[.int .i64 size, .slice PA2 PN2 PC2] 24)).cell? ⟨w4.heap.size, 1, none⟩ = some (.slice KA KN KC) := (hw10).cell 1
           clear hb10 hw10 hn10)
        | (go_at_call 36
           refine (is_ok size _ _ (Sh.keepR rs ss) _ _ (Nat.le_refl _) Hp10.out Hr10.out).mono ?_
           rintro e w11 ⟨rfl, hb11⟩
           have Hbel11 := Lib.hid (Hbel10.out.trans (hb11.mono Hbel10.out.size)))
        | (go_at_call 13
           refine (alive_any _ (hv.below Hbel11.out hw) (Nat.le_trans hw Hbel11.out.size)).mono ?_
           rintro e w12 ⟨rfl, hb12⟩
           have Hbel12 := Lib.hid (Hbel11.out.trans (hb12.mono Hbel11.out.size))))
      all_goals (
        refine ⟨rfl, .bool true, ?_, rfl, Hbel12.out⟩
        simp [results, Tryd.results8, Tryd.f8, go_sem]))

end Go.Proofs.YtjkaicpohihncaaDoor
