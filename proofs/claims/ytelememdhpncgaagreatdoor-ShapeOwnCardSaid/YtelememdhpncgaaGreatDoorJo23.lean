/-
  Texts joined: Sownm.
-/
import Derived.Test.YtelememdhpncgaaGreatDoorJo22

/-
  Walk: ShapeOwn.
-/
namespace Go.Proofs.YtelememdhpncgaaGreatDoor
open Go.RowKit

set_option maxRecDepth 100000 in
set_option maxHeartbeats 8000000 in
theorem sown_main (size : Int) (v : Value) (rs : List Sh.Rel) (nm : ByteArray) (tv : Value) (t : List Int) (is : Bool) (pv : Value) (p : List Int) (sv : Value) (ss : List (ByteArray × Int)) (w : World) (h : Rels w w.heap.size v rs) (ht : Ints w w.heap.size tv t) (hp : Ints w w.heap.size pv p) (hss : Syms w w.heap.size sv ss) (hfit : SymFit ss) (hv : Vars w) (hw : 5 ≤ w.heap.size) (hsel : t.length ≤ 60 ∧ p.length ≤ 200 ∧ ss.length ≤ 40 ∧ nm.size ≤ 1000) :
    Calls Tryz.prog 4 #[.agg #[.int .i64 size, v], .agg #[.string nm, tv, .bool is], .agg #[pv, sv]] w fun e w' => e = .returned (.bool true) ∧ Below w.heap.size w w' := by
  have h' := h
  obtain ⟨A, len, c, rfl, -⟩ := h'
  have ht' := ht
  obtain ⟨TA, TN, TC, rfl, htn, -⟩ := ht'
  have hp' := hp
  obtain ⟨PA, PN, PC, rfl, hpn, -⟩ := hp'
  have hss' := hss
  obtain ⟨QA, QN, QC, rfl, hqn, -⟩ := hss'
  rw [← htn, ← hpn] at hsel
  have hb1 := (Below.refl w.heap.size w).alloc (Nat.le_refl _) (.cells #[.int .i64 size, .slice A len c] 24)
  have hb2 := hb1.alloc hb1.size (.cells #[.string nm, .slice TA TN TC, .bool is] 37)
  have hb3 := hb2.alloc hb2.size (.cells #[.slice PA PN PC, .slice QA QN QC] 40)
  have hbel := hb3.alloc hb3.size (.cells #[.int .i64 size, .slice A len c] 24)
  have hs4 := (((Blk.new w 24 #[.int .i64 size, .slice A len c]).alloc (.cells #[.string nm, .slice TA TN TC, .bool is] 37)).alloc (.cells #[.slice PA PN PC, .slice QA QN QC] 40)).alloc (.cells #[.int .i64 size, .slice A len c] 24)
  have hc4 := ((Blk.new (w.alloc (.cells #[.int .i64 size, .slice A len c] 24)) 37 #[.string nm, .slice TA TN TC, .bool is]).alloc (.cells #[.slice PA PN PC, .slice QA QN QC] 40)).alloc (.cells #[.int .i64 size, .slice A len c] 24)
  have ho4 := (Blk.new ((w.alloc (.cells #[.int .i64 size, .slice A len c] 24)).alloc (.cells #[.string nm, .slice TA TN TC, .bool is] 37)) 40 #[.slice PA PN PC, .slice QA QN QC]).alloc (.cells #[.int .i64 size, .slice A len c] 24)
  have hvar := Blk.new (((w.alloc (.cells #[.int .i64 size, .slice A len c] 24)).alloc (.cells #[.string nm, .slice TA TN TC, .bool is] 37)).alloc (.cells #[.slice PA PN PC, .slice QA QN QC] 40)) 24 #[.int .i64 size, .slice A len c]
  rw [World.size_alloc] at hc4
  rw [World.size_alloc, World.size_alloc] at ho4
  rw [World.size_alloc, World.size_alloc, World.size_alloc] at hvar
  have hrels := h.below hbel
  have hvs := hv.below hbel hw
  have hsy := hss.below hbel
  have x20 : ((((w.alloc (.cells #[.int .i64 size, .slice A len c] 24)).alloc (.cells #[.string nm, .slice TA TN TC, .bool is] 37)).alloc (.cells #[.slice PA PN PC, .slice QA QN QC] 40)).alloc (.cells #[.int .i64 size, .slice A len c] 24)).cell? ⟨w.heap.size + 1 + 1, 0, none⟩ = some (.slice PA PN PC) := ho4.cell 0
  have x21 : ((((w.alloc (.cells #[.int .i64 size, .slice A len c] 24)).alloc (.cells #[.string nm, .slice TA TN TC, .bool is] 37)).alloc (.cells #[.slice PA PN PC, .slice QA QN QC] 40)).alloc (.cells #[.int .i64 size, .slice A len c] 24)).cell? ⟨w.heap.size + 1 + 1, 1, none⟩ = some (.slice QA QN QC) := ho4.cell 1
  have x10 : ((((w.alloc (.cells #[.int .i64 size, .slice A len c] 24)).alloc (.cells #[.string nm, .slice TA TN TC, .bool is] 37)).alloc (.cells #[.slice PA PN PC, .slice QA QN QC] 40)).alloc (.cells #[.int .i64 size, .slice A len c] 24)).cell? ⟨w.heap.size + 1, 0, none⟩ = some (.string nm) := hc4.cell 0
  have x11 : ((((w.alloc (.cells #[.int .i64 size, .slice A len c] 24)).alloc (.cells #[.string nm, .slice TA TN TC, .bool is] 37)).alloc (.cells #[.slice PA PN PC, .slice QA QN QC] 40)).alloc (.cells #[.int .i64 size, .slice A len c] 24)).cell? ⟨w.heap.size + 1, 1, none⟩ = some (.slice TA TN TC) := hc4.cell 1
  have x00 : ((((w.alloc (.cells #[.int .i64 size, .slice A len c] 24)).alloc (.cells #[.string nm, .slice TA TN TC, .bool is] 37)).alloc (.cells #[.slice PA PN PC, .slice QA QN QC] 40)).alloc (.cells #[.int .i64 size, .slice A len c] 24)).cell? ⟨w.heap.size, 0, none⟩ = some (.int .i64 size) := hs4.cell 0
  have x01 : ((((w.alloc (.cells #[.int .i64 size, .slice A len c] 24)).alloc (.cells #[.string nm, .slice TA TN TC, .bool is] 37)).alloc (.cells #[.slice PA PN PC, .slice QA QN QC] 40)).alloc (.cells #[.int .i64 size, .slice A len c] 24)).cell? ⟨w.heap.size, 1, none⟩ = some (.slice A len c) := hs4.cell 1
  have Hbel := Lib.hid hbel; clear hbel hb1 hb2 hb3
  have Hvar := Lib.hid hvar; clear hvar
  have Hrels := Lib.hid hrels; clear hrels
  have Hvs := Lib.hid hvs; clear hvs
  have Hsy := Lib.hid hsy; clear hsy
  have Hs4 := Lib.hid hs4; clear hs4
  have Hc4 := Lib.hid hc4; clear hc4
  have Ho4 := Lib.hid ho4; clear ho4
  have Htn := Lib.hid htn; clear htn
  have Hpn := Lib.hid hpn; clear hpn
  have Hqn := Lib.hid hqn; clear hqn
  obtain ⟨ht60, hp200, hs40, hn1000⟩ := hsel
  have hput := fun W (hW : Below w.heap.size w W) => put_res size (.slice A len c) rs nm (.slice TA TN TC) t is W w.heap.size hW.size (h.below hW) (ht.below hW)
  have hperm := fun W (hW : Below w.heap.size w W) => perm_res size (.slice A len c) rs (.slice PA PN PC) p W w.heap.size hW.size (h.below hW) (hp.below hW)
  have hkeep := fun W (hW : Below w.heap.size w W) => keep_res size (.slice A len c) (.slice QA QN QC) rs ss W w.heap.size hW.size (h.below hW) (hss.below hW) hfit (by omega)
  have hmake := fun W (hW : Below w.heap.size w W) => make_res size (.slice QA QN QC) ss W w.heap.size hW.size (hss.below hW) hfit (by omega)
  have hsym := fun W (hW : Below w.heap.size w W) => symbols_res size (.slice A len c) rs W w.heap.size hW.size (h.below hW)
  generalize Sh.resPut size rs nm.toList t is = r0 at *
  generalize Sh.resPerm size rs p = r1 at *
  generalize Sh.resKeep size rs ss = r2 at *
  generalize Sh.resMake size ss = r3 at *
  generalize osOf size rs = os at *
  have Hput := Lib.hid hput; clear hput
  have Hperm := Lib.hid hperm; clear hperm
  have Hkeep := Lib.hid hkeep; clear hkeep
  have Hmake := Lib.hid hmake; clear hmake
  have Hsym := Lib.hid hsym; clear hsym
  go_enter Tryz.func4, Tryz.ntmps4
  go_upto_region 3 with (first
      | (go_at_call 5
         refine (few_true (w.heap.size + 1 + 1 + 1) size A len c _ rs _ Hvar.out Hrels.out).mono ?_
         rintro e w1 ⟨⟨b1, rfl, hfb⟩, rfl⟩
         have Hfb := Lib.hid hfb; clear hfb)
      | (go_at_call 12
         refine (fewsyms_some _ ss _ w.heap.size Hsy.out hfit).mono ?_
         rintro e w1 ⟨⟨b2, rfl⟩, rfl⟩)
      | (go_at_call 6
         refine (alive_any _ Hvs.out (Nat.le_trans hw (Below.size Hbel.out))).mono ?_
         rintro e w12 ⟨rfl, hb12⟩
         have Hb12 := Lib.hid (Below.trans Hbel.out (hb12.mono (Below.size Hbel.out)))))
  all_goals first
    | (refine ⟨rfl, .bool true, ?_, rfl, Hb12.out⟩
       simp [results, Tryz.results4, Tryz.f4, go_sem])
    | skip
  have hfew := Hfb.out (by assumption)
  refine wp_region_any (by kernel_rfl) ?_
  change wpAny _ _ _ _ _ _ _ (World.drew _)
  have hb4 := Hbel.out
  refine Own3.region3 (w0 := World.drew _) (v := .slice A len c) (size := size) (rs := rs) (tv := .slice TA TN TC) (t := t) (pv := .slice PA PN PC) (p := p) (sv := .slice QA QN QC) (ss := ss) w.heap.size nm is (by simp) rfl rfl rfl Hs4.out Hc4.out Ho4.out ((h.below hb4).more hb4.size) hfew ((ht.below hb4).more hb4.size) ((hp.below hb4).more hb4.size) (Hsy.out.more hb4.size) (by have := Htn.out; omega) (by have := Hpn.out; omega) (by omega) ?_
  intro X w5 g7 y h7 hLg hbg hny hn8 hn9 hs10 hb5
  rw [over_puts]
  simp only [Own3.D, List.foldl_cons, List.foldl_nil, h7]
  generalize X 8 = v8 at *
  generalize X 9 = v9 at *
  generalize X 10 = v10 at *
  generalize X 48 = y48
  generalize X 49 = y49
  generalize X 50 = y50
  generalize X 51 = y51
  generalize X 52 = y52
  generalize X 53 = y53
  generalize X 54 = y54
  generalize X 55 = y55
  generalize X 56 = y56
  generalize X 57 = y57
  generalize X 58 = y58
  generalize X 59 = y59
  generalize X 60 = y60
  generalize X 61 = y61
  obtain ⟨A8, N8, C8, rfl, -⟩ := id hn8
  obtain ⟨A9, N9, C9, rfl, -⟩ := id hn9
  obtain ⟨A10, N10, C10, rfl, -⟩ := id hs10
  obtain ⟨YA, YN, YC, rfl, -⟩ := id hny
  have hS5 := Hs4.out.drew.below hb5 Hs4.out.lt
  have hC5 := Hc4.out.drew.below hb5 Hc4.out.lt
  have hO5 := Ho4.out.drew.below hb5 Ho4.out.lt
  have hB5 : Below w.heap.size w w5 := hb4.drew.trans (hb5.mono hb4.size)
  have hwl : w.heap.size < w5.heap.size := hS5.lt
  have hwl1 : w.heap.size + 1 < w5.heap.size := hC5.lt
  have hwl2 : w.heap.size + 1 + 1 < w5.heap.size := hO5.lt
  have hg7l : g7 < w5.heap.size := hbg.lt
  clear h7 X x20 x21 x10 x11 x00 x01 Hs4 Hc4 Ho4 Hvar Hrels Hvs Hsy hb5 hLg
  have Hn8 := Lib.hid hn8.ints; clear hn8
  have Hn9 := Lib.hid hn9.ints; clear hn9
  have Hs10 := Lib.hid hs10; clear hs10
  have Hny := Lib.hid hny.rels; clear hny
  have Hbg := Lib.hid hbg; clear hbg
  have HS5 := Lib.hid hS5; clear hS5
  have HC5 := Lib.hid hC5; clear hC5
  have HO5 := Lib.hid hO5; clear hO5
  have HB5 := Lib.hid hB5; clear hB5 hb4 Hbel
  clear hfew Hfb
  go_wp2
  go_loopw [12, 13] (fun lv i wr => ∃ k : Nat, k ≤ 2 ∧ i = .int .i64 k ∧ Below w5.heap.size w5 wr ∧ Syms wr wr.heap.size lv (if k = 0 then [] else os) ∧ (∃ cf : Array Value, Blk wr w5.heap.size 43 cf ∧ cf.size = 8 ∧ (1 ≤ k → ∃ ys, cf = cs4 (rr4 r0 r1 r2 r3) ys ∧ ∀ j, j < 4 → Rels wr wr.heap.size (ys j) (rr4 r0 r1 r2 r3 j).2))) (fun _ i _ => 2 - (intOf i).toNat)
  case atStart => exact ⟨0, by omega, rfl, (Below.refl _ _).alloc (Nat.le_refl _) _, Syms.nil, _, Blk.new w5 _ _, rfl, fun h => absurd h (by omega)⟩
  case round =>
    obtain ⟨k, hk, rfl, hbw, hlv, cf, hcf, hcs, hys⟩ := hrel
    have hall : ∀ W, Below w5.heap.size w5 W → W.cell? ⟨w.heap.size, 0, none⟩ = some (.int .i64 size) ∧ W.cell? ⟨w.heap.size, 1, none⟩ = some (.slice A len c) ∧ W.cell? ⟨w.heap.size + 1, 0, none⟩ = some (.string nm) ∧ W.cell? ⟨w.heap.size + 1, 1, none⟩ = some (.slice TA TN TC) ∧ W.cell? ⟨w.heap.size + 1, 2, none⟩ = some (.bool is) ∧ W.cell? ⟨w.heap.size + 1 + 1, 0, none⟩ = some (.slice PA PN PC) ∧ W.cell? ⟨w.heap.size + 1 + 1, 1, none⟩ = some (.slice QA QN QC) ∧ W.cell? ⟨g7, 0, none⟩ = some (.int .i64 size) ∧ W.cell? ⟨g7, 1, none⟩ = some (.slice YA YN YC) := fun W hW =>
      ⟨(HS5.out.below hW hwl).cell 0, (HS5.out.below hW hwl).cell 1, (HC5.out.below hW hwl1).cell 0, (HC5.out.below hW hwl1).cell 1, (HC5.out.below hW hwl1).cell 2, (HO5.out.below hW hwl2).cell 0, (HO5.out.below hW hwl2).cell 1, (Hbg.out.below hW hg7l).cell 0, (Hbg.out.below hW hg7l).cell 1⟩
    have Hall := Lib.hid hall; clear hall
    have hgfl : w5.heap.size < wr.heap.size := hcf.lt
    have Hcf := Lib.hid hcf; clear hcf
    have Hcs := Lib.hid hcs; clear hcs
    have Hys := Lib.hid hys; clear hys
    obtain ⟨LA, LN, LC, rfl, -⟩ := id hlv
    have Hlv := Lib.hid hlv; clear hlv
    have Hbw := Lib.hid hbw; clear hbw
    obtain ⟨w6, rfl⟩ : ∃ x, x = wr := ⟨_, rfl⟩
    by_cases hk2 : k < 2
    · have hsz6 : w6.heap.size + 1 + 1 = ((w6.alloc (.cells #[.int .i64 0, .slice none 0 0, .int .i64 0, .slice none 0 0, .int .i64 0, .slice none 0 0, .int .i64 0, .slice none 0 0] 43)).alloc (.cells #[.int .i64 0, .slice none 0 0, .int .i64 0, .slice none 0 0, .int .i64 0, .slice none 0 0, .int .i64 0, .slice none 0 0] 43)).heap.size := by simp
      have HB0 := Lib.hid (((Below.refl w6.heap.size w6).alloc (Nat.le_refl _) (.cells #[.int .i64 0, .slice none 0 0, .int .i64 0, .slice none 0 0, .int .i64 0, .slice none 0 0, .int .i64 0, .slice none 0 0] 43)).alloc (by simp) (.cells #[.int .i64 0, .slice none 0 0, .int .i64 0, .slice none 0 0, .int .i64 0, .slice none 0 0, .int .i64 0, .slice none 0 0] 43))
      have HGL0 := Lib.hid ((Blk.new w6 43 #[.int .i64 0, .slice none 0 0, .int .i64 0, .slice none 0 0, .int .i64 0, .slice none 0 0, .int .i64 0, .slice none 0 0]).alloc (.cells #[.int .i64 0, .slice none 0 0, .int .i64 0, .slice none 0 0, .int .i64 0, .slice none 0 0, .int .i64 0, .slice none 0 0] 43))
      have HGK0 := Lib.hid (show Blk ((w6.alloc (.cells #[.int .i64 0, .slice none 0 0, .int .i64 0, .slice none 0 0, .int .i64 0, .slice none 0 0, .int .i64 0, .slice none 0 0] 43)).alloc (.cells #[.int .i64 0, .slice none 0 0, .int .i64 0, .slice none 0 0, .int .i64 0, .slice none 0 0, .int .i64 0, .slice none 0 0] 43)) (w6.heap.size + 1) 43 #[.int .i64 0, .slice none 0 0, .int .i64 0, .slice none 0 0, .int .i64 0, .slice none 0 0, .int .i64 0, .slice none 0 0] from by have hh := Blk.new (w6.alloc (.cells #[.int .i64 0, .slice none 0 0, .int .i64 0, .slice none 0 0, .int .i64 0, .slice none 0 0, .int .i64 0, .slice none 0 0] 43)) 43 #[.int .i64 0, .slice none 0 0, .int .i64 0, .slice none 0 0, .int .i64 0, .slice none 0 0, .int .i64 0, .slice none 0 0]; rw [World.size_alloc] at hh; exact hh)
      have HW0 := Lib.hid (Hbw.out.trans (HB0.out.mono (Nat.le_of_lt hgfl)))
      obtain ⟨a00, a01, a02, a03, a04, a05, a06, -, -⟩ := Hall.out _ HW0.out
      go_wp2_with (first
        | (go_at_call 14
           refine (Hput.out _ (HB5.out.trans (HW0.out.mono (Nat.le_of_lt hwl)))).mono ?_
           intro e u0 hpost
           obtain ⟨XA0, XN0, XC0, er0, rfl, hres, hb⟩ := Res.of hpost
           clear hpost
           have hgl := HGL0.out.below hb HGL0.out.lt
           have hgk := HGK0.out.below hb HGK0.out.lt
           have hB := HB0.out.trans (hb.mono HB0.out.size)
           have z00 : u0.cell? ⟨w6.heap.size, 0, none⟩ = some (.int .i64 0) := hgl.cell 0
           have z01 : u0.cell? ⟨w6.heap.size, 1, none⟩ = some (.slice none 0 0) := hgl.cell 1
           have z02 := hgl.frozen 0
           have z03 := hgl.frozen 1
           have hk : ∀ L, Keeps L [3, 25, 57] u0 ((u0.setCell ⟨w6.heap.size, 0, none⟩ (.int .i64 r0.1)).setCell ⟨w6.heap.size, 1, none⟩ (.slice XA0 XN0 XC0)) := fun L => (Keeps.setCell (p := ⟨w6.heap.size, 0, none⟩) hgl (by decide) _).trans (Keeps.setCell (p := ⟨w6.heap.size, 1, none⟩) (hgl.set_ 0 _) (by decide) _)
           have HGL1 := Lib.hid (show Blk ((u0.setCell ⟨w6.heap.size, 0, none⟩ (.int .i64 r0.1)).setCell ⟨w6.heap.size, 1, none⟩ (.slice XA0 XN0 XC0)) w6.heap.size 43 #[.int .i64 r0.1, .slice XA0 XN0 XC0, .int .i64 0, .slice none 0 0, .int .i64 0, .slice none 0 0, .int .i64 0, .slice none 0 0] from (hgl.set_ 0 (.int .i64 r0.1)).set_ 1 (.slice XA0 XN0 XC0))
           have HGK1 := Lib.hid ((hgk.far (p := ⟨w6.heap.size, 0, none⟩) (show w6.heap.size + 1 ≠ w6.heap.size by omega) (.int .i64 r0.1)).far (p := ⟨w6.heap.size, 1, none⟩) (show w6.heap.size + 1 ≠ w6.heap.size by omega) (.slice XA0 XN0 XC0))
           have HB1 := Lib.hid ((hB.setCell (p := ⟨w6.heap.size, 0, none⟩) (Nat.le_refl _) (.int .i64 r0.1)).setCell (p := ⟨w6.heap.size, 1, none⟩) (Nat.le_refl _) (.slice XA0 XN0 XC0))
           have HW1 := Lib.hid (Hbw.out.trans (HB1.out.mono (Nat.le_of_lt hgfl)))
           have hsu0 := hb.size
           have hsv0 : ((u0.setCell ⟨w6.heap.size, 0, none⟩ (.int .i64 r0.1)).setCell ⟨w6.heap.size, 1, none⟩ (.slice XA0 XN0 XC0)).heap.size = u0.heap.size := by simp
           obtain ⟨a10, a11, a12, a13, a14, a15, a16, -, -⟩ := Hall.out _ HW1.out
           have HR10 := Lib.hid (((Snap.of hres).setCell (p := ⟨w6.heap.size, 0, none⟩) (show w6.heap.size < _ by omega) (.int .i64 r0.1)).setCell (p := ⟨w6.heap.size, 1, none⟩) (show w6.heap.size < _ by omega) (.slice XA0 XN0 XC0))
           clear hgl hgk hB hk hres hb a00 a01 a02 a03 a04 a05 a06)
        | (go_at_call 10
           refine (Hperm.out _ (HB5.out.trans (HW1.out.mono (Nat.le_of_lt hwl)))).mono ?_
           intro e u1 hpost
           obtain ⟨XA1, XN1, XC1, er1, rfl, hres, hb⟩ := Res.of hpost
           clear hpost
           have hgl := HGL1.out.below hb HGL1.out.lt
           have hgk := HGK1.out.below hb HGK1.out.lt
           have hB := HB1.out.trans (hb.mono HB1.out.size)
           have z10 : u1.cell? ⟨w6.heap.size, 2, none⟩ = some (.int .i64 0) := hgl.cell 2
           have z11 : u1.cell? ⟨w6.heap.size, 3, none⟩ = some (.slice none 0 0) := hgl.cell 3
           have z12 := hgl.frozen 2
           have z13 := hgl.frozen 3
           have hk : ∀ L, Keeps L [3, 25, 57] u1 ((u1.setCell ⟨w6.heap.size, 2, none⟩ (.int .i64 r1.1)).setCell ⟨w6.heap.size, 3, none⟩ (.slice XA1 XN1 XC1)) := fun L => (Keeps.setCell (p := ⟨w6.heap.size, 2, none⟩) hgl (by decide) _).trans (Keeps.setCell (p := ⟨w6.heap.size, 3, none⟩) (hgl.set_ 2 _) (by decide) _)
           have HGL2 := Lib.hid (show Blk ((u1.setCell ⟨w6.heap.size, 2, none⟩ (.int .i64 r1.1)).setCell ⟨w6.heap.size, 3, none⟩ (.slice XA1 XN1 XC1)) w6.heap.size 43 #[.int .i64 r0.1, .slice XA0 XN0 XC0, .int .i64 r1.1, .slice XA1 XN1 XC1, .int .i64 0, .slice none 0 0, .int .i64 0, .slice none 0 0] from (hgl.set_ 2 (.int .i64 r1.1)).set_ 3 (.slice XA1 XN1 XC1))
           have HGK2 := Lib.hid ((hgk.far (p := ⟨w6.heap.size, 2, none⟩) (show w6.heap.size + 1 ≠ w6.heap.size by omega) (.int .i64 r1.1)).far (p := ⟨w6.heap.size, 3, none⟩) (show w6.heap.size + 1 ≠ w6.heap.size by omega) (.slice XA1 XN1 XC1))
           have HB2 := Lib.hid ((hB.setCell (p := ⟨w6.heap.size, 2, none⟩) (Nat.le_refl _) (.int .i64 r1.1)).setCell (p := ⟨w6.heap.size, 3, none⟩) (Nat.le_refl _) (.slice XA1 XN1 XC1))
           have HW2 := Lib.hid (Hbw.out.trans (HB2.out.mono (Nat.le_of_lt hgfl)))
           have hsu1 := hb.size
           have hsv1 : ((u1.setCell ⟨w6.heap.size, 2, none⟩ (.int .i64 r1.1)).setCell ⟨w6.heap.size, 3, none⟩ (.slice XA1 XN1 XC1)).heap.size = u1.heap.size := by simp
           obtain ⟨a20, a21, a22, a23, a24, a25, a26, -, -⟩ := Hall.out _ HW2.out
           have HR20 := Lib.hid (((HR10.out.below hb).setCell (p := ⟨w6.heap.size, 2, none⟩) (show w6.heap.size < _ by omega) (.int .i64 r1.1)).setCell (p := ⟨w6.heap.size, 3, none⟩) (show w6.heap.size < _ by omega) (.slice XA1 XN1 XC1))
           have HR21 := Lib.hid (((Snap.of hres).setCell (p := ⟨w6.heap.size, 2, none⟩) (show w6.heap.size < _ by omega) (.int .i64 r1.1)).setCell (p := ⟨w6.heap.size, 3, none⟩) (show w6.heap.size < _ by omega) (.slice XA1 XN1 XC1))
           clear hgl hgk hB hk hres hb a10 a11 a12 a13 a14 a15 a16)
        | (go_at_call 15
           refine (Hkeep.out _ (HB5.out.trans (HW2.out.mono (Nat.le_of_lt hwl)))).mono ?_
           intro e u2 hpost
           obtain ⟨XA2, XN2, XC2, er2, rfl, hres, hb⟩ := Res.of hpost
           clear hpost
           have hgl := HGL2.out.below hb HGL2.out.lt
           have hgk := HGK2.out.below hb HGK2.out.lt
           have hB := HB2.out.trans (hb.mono HB2.out.size)
           have z20 : u2.cell? ⟨w6.heap.size, 4, none⟩ = some (.int .i64 0) := hgl.cell 4
           have z21 : u2.cell? ⟨w6.heap.size, 5, none⟩ = some (.slice none 0 0) := hgl.cell 5
           have z22 := hgl.frozen 4
           have z23 := hgl.frozen 5
           have hk : ∀ L, Keeps L [3, 25, 57] u2 ((u2.setCell ⟨w6.heap.size, 4, none⟩ (.int .i64 r2.1)).setCell ⟨w6.heap.size, 5, none⟩ (.slice XA2 XN2 XC2)) := fun L => (Keeps.setCell (p := ⟨w6.heap.size, 4, none⟩) hgl (by decide) _).trans (Keeps.setCell (p := ⟨w6.heap.size, 5, none⟩) (hgl.set_ 4 _) (by decide) _)
           have HGL3 := Lib.hid (show Blk ((u2.setCell ⟨w6.heap.size, 4, none⟩ (.int .i64 r2.1)).setCell ⟨w6.heap.size, 5, none⟩ (.slice XA2 XN2 XC2)) w6.heap.size 43 #[.int .i64 r0.1, .slice XA0 XN0 XC0, .int .i64 r1.1, .slice XA1 XN1 XC1, .int .i64 r2.1, .slice XA2 XN2 XC2, .int .i64 0, .slice none 0 0] from (hgl.set_ 4 (.int .i64 r2.1)).set_ 5 (.slice XA2 XN2 XC2))
           have HGK3 := Lib.hid ((hgk.far (p := ⟨w6.heap.size, 4, none⟩) (show w6.heap.size + 1 ≠ w6.heap.size by omega) (.int .i64 r2.1)).far (p := ⟨w6.heap.size, 5, none⟩) (show w6.heap.size + 1 ≠ w6.heap.size by omega) (.slice XA2 XN2 XC2))
           have HB3 := Lib.hid ((hB.setCell (p := ⟨w6.heap.size, 4, none⟩) (Nat.le_refl _) (.int .i64 r2.1)).setCell (p := ⟨w6.heap.size, 5, none⟩) (Nat.le_refl _) (.slice XA2 XN2 XC2))
           have HW3 := Lib.hid (Hbw.out.trans (HB3.out.mono (Nat.le_of_lt hgfl)))
           have hsu2 := hb.size
           have hsv2 : ((u2.setCell ⟨w6.heap.size, 4, none⟩ (.int .i64 r2.1)).setCell ⟨w6.heap.size, 5, none⟩ (.slice XA2 XN2 XC2)).heap.size = u2.heap.size := by simp
           obtain ⟨a30, a31, a32, a33, a34, a35, a36, -, -⟩ := Hall.out _ HW3.out
           have HR30 := Lib.hid (((HR20.out.below hb).setCell (p := ⟨w6.heap.size, 4, none⟩) (show w6.heap.size < _ by omega) (.int .i64 r2.1)).setCell (p := ⟨w6.heap.size, 5, none⟩) (show w6.heap.size < _ by omega) (.slice XA2 XN2 XC2))
           have HR31 := Lib.hid (((HR21.out.below hb).setCell (p := ⟨w6.heap.size, 4, none⟩) (show w6.heap.size < _ by omega) (.int .i64 r2.1)).setCell (p := ⟨w6.heap.size, 5, none⟩) (show w6.heap.size < _ by omega) (.slice XA2 XN2 XC2))
           have HR32 := Lib.hid (((Snap.of hres).setCell (p := ⟨w6.heap.size, 4, none⟩) (show w6.heap.size < _ by omega) (.int .i64 r2.1)).setCell (p := ⟨w6.heap.size, 5, none⟩) (show w6.heap.size < _ by omega) (.slice XA2 XN2 XC2))
           clear hgl hgk hB hk hres hb a20 a21 a22 a23 a24 a25 a26)
        | (go_at_call 16
           refine (Hmake.out _ (HB5.out.trans (HW3.out.mono (Nat.le_of_lt hwl)))).mono ?_
           intro e u3 hpost
           obtain ⟨XA3, XN3, XC3, er3, rfl, hres, hb⟩ := Res.of hpost
           clear hpost
           have hgl := HGL3.out.below hb HGL3.out.lt
           have hgk := HGK3.out.below hb HGK3.out.lt
           have hB := HB3.out.trans (hb.mono HB3.out.size)
           have z30 : u3.cell? ⟨w6.heap.size, 6, none⟩ = some (.int .i64 0) := hgl.cell 6
           have z31 : u3.cell? ⟨w6.heap.size, 7, none⟩ = some (.slice none 0 0) := hgl.cell 7
           have z32 := hgl.frozen 6
           have z33 := hgl.frozen 7
           have hk : ∀ L, Keeps L [3, 25, 57] u3 ((u3.setCell ⟨w6.heap.size, 6, none⟩ (.int .i64 r3.1)).setCell ⟨w6.heap.size, 7, none⟩ (.slice XA3 XN3 XC3)) := fun L => (Keeps.setCell (p := ⟨w6.heap.size, 6, none⟩) hgl (by decide) _).trans (Keeps.setCell (p := ⟨w6.heap.size, 7, none⟩) (hgl.set_ 6 _) (by decide) _)
           have HGL4 := Lib.hid (show Blk ((u3.setCell ⟨w6.heap.size, 6, none⟩ (.int .i64 r3.1)).setCell ⟨w6.heap.size, 7, none⟩ (.slice XA3 XN3 XC3)) w6.heap.size 43 #[.int .i64 r0.1, .slice XA0 XN0 XC0, .int .i64 r1.1, .slice XA1 XN1 XC1, .int .i64 r2.1, .slice XA2 XN2 XC2, .int .i64 r3.1, .slice XA3 XN3 XC3] from (hgl.set_ 6 (.int .i64 r3.1)).set_ 7 (.slice XA3 XN3 XC3))
           have HGK4 := Lib.hid ((hgk.far (p := ⟨w6.heap.size, 6, none⟩) (show w6.heap.size + 1 ≠ w6.heap.size by omega) (.int .i64 r3.1)).far (p := ⟨w6.heap.size, 7, none⟩) (show w6.heap.size + 1 ≠ w6.heap.size by omega) (.slice XA3 XN3 XC3))
           have HB4 := Lib.hid ((hB.setCell (p := ⟨w6.heap.size, 6, none⟩) (Nat.le_refl _) (.int .i64 r3.1)).setCell (p := ⟨w6.heap.size, 7, none⟩) (Nat.le_refl _) (.slice XA3 XN3 XC3))
           have HW4 := Lib.hid (Hbw.out.trans (HB4.out.mono (Nat.le_of_lt hgfl)))
           have hsu3 := hb.size
           have hsv3 : ((u3.setCell ⟨w6.heap.size, 6, none⟩ (.int .i64 r3.1)).setCell ⟨w6.heap.size, 7, none⟩ (.slice XA3 XN3 XC3)).heap.size = u3.heap.size := by simp
           obtain ⟨a40, a41, a42, a43, a44, a45, a46, -, -⟩ := Hall.out _ HW4.out
           have HR40 := Lib.hid (((HR30.out.below hb).setCell (p := ⟨w6.heap.size, 6, none⟩) (show w6.heap.size < _ by omega) (.int .i64 r3.1)).setCell (p := ⟨w6.heap.size, 7, none⟩) (show w6.heap.size < _ by omega) (.slice XA3 XN3 XC3))
           have HR41 := Lib.hid (((HR31.out.below hb).setCell (p := ⟨w6.heap.size, 6, none⟩) (show w6.heap.size < _ by omega) (.int .i64 r3.1)).setCell (p := ⟨w6.heap.size, 7, none⟩) (show w6.heap.size < _ by omega) (.slice XA3 XN3 XC3))
           have HR42 := Lib.hid (((HR32.out.below hb).setCell (p := ⟨w6.heap.size, 6, none⟩) (show w6.heap.size < _ by omega) (.int .i64 r3.1)).setCell (p := ⟨w6.heap.size, 7, none⟩) (show w6.heap.size < _ by omega) (.slice XA3 XN3 XC3))
           have HR43 := Lib.hid (((Snap.of hres).setCell (p := ⟨w6.heap.size, 6, none⟩) (show w6.heap.size < _ by omega) (.int .i64 r3.1)).setCell (p := ⟨w6.heap.size, 7, none⟩) (show w6.heap.size < _ by omega) (.slice XA3 XN3 XC3))
           clear hgl hgk hB hk hres hb a30 a31 a32 a33 a34 a35 a36)
        | (go_at_call 17
           refine (Hsym.out _ (HB5.out.trans (HW4.out.mono (Nat.le_of_lt hwl)))).mono ?_
           intro e u4 hpost
           obtain ⟨OA, ON, OC, rfl, hos, hol, hoss, hb⟩ := hpost
           have HGL5 := Lib.hid (HGL4.out.below hb HGL4.out.lt)
           have HGK5 := Lib.hid (HGK4.out.below hb HGK4.out.lt)
           have HB5' := Lib.hid (HB4.out.trans (hb.mono HB4.out.size))
           have HR50 := Lib.hid (HR40.out.below hb)
           have HR51 := Lib.hid (HR41.out.below hb)
           have HR52 := Lib.hid (HR42.out.below hb)
           have HR53 := Lib.hid (HR43.out.below hb)
           have hsu4 := hb.size
           have Hos := Lib.hid hos
           have Hol := Lib.hid hol
           have Hoss := Lib.hid hoss
           clear hb hos hol hoss a40 a41 a42 a43 a44 a45 a46))
      obtain ⟨xs, Lf, Hf, hres, hgl5, hxs, hLH, hLL⟩ : ∃ (xs : Nat → Value) (Lf Hf : Nat → Nat), (∀ j, j < 4 → Snap u4 (Lf j) (Hf j) (xs j) (rr4 r0 r1 r2 r3 j)) ∧ Blk u4 w6.heap.size 43 (cs4 (rr4 r0 r1 r2 r3) xs) ∧ (∀ j, j < 4 → ∃ A n c, xs j = .slice A n c) ∧ (∀ j, j < 4 → w6.heap.size + 2 ≤ Lf j ∧ Lf j ≤ Hf j ∧ Hf j ≤ u3.heap.size) ∧ (∀ i j, i < j → j < 4 → Hf i ≤ Lf j) := by
        refine ⟨xx4 (.slice XA0 XN0 XC0) (.slice XA1 XN1 XC1) (.slice XA2 XN2 XC2) (.slice XA3 XN3 XC3), nn4 (w6.heap.size + 2) u0.heap.size u1.heap.size u2.heap.size, nn4 u0.heap.size u1.heap.size u2.heap.size u3.heap.size, fun j hj => ?_, HGL5.out, fun j hj => ?_, fun j hj => ?_, fun i j hij hj => ?_⟩
        · match j, hj with
          | 0, _ => have hh := HR50.out; rw [← hsz6] at hh; exact hh
          | 1, _ => have hh := HR51.out; rw [hsv0] at hh; exact hh
          | 2, _ => have hh := HR52.out; rw [hsv1] at hh; exact hh
          | 3, _ => have hh := HR53.out; rw [hsv2] at hh; exact hh
        · match j, hj with
          | 0, _ => exact ⟨_, _, _, rfl⟩
          | 1, _ => exact ⟨_, _, _, rfl⟩
          | 2, _ => exact ⟨_, _, _, rfl⟩
          | 3, _ => exact ⟨_, _, _, rfl⟩
        · match j, hj with
          | 0, _ => simp only [nn4]; omega
          | 1, _ => simp only [nn4]; omega
          | 2, _ => simp only [nn4]; omega
          | 3, _ => simp only [nn4]; omega
        · match j, hj with
          | 0, _ => omega
          | 1, _ => obtain rfl : i = 0 := by omega
                    simp only [nn4]; omega
          | 2, _ => rcases (show i = 0 ∨ i = 1 by omega) with rfl | rfl <;> (simp only [nn4]; omega)
          | 3, _ => rcases (show i = 0 ∨ i = 1 ∨ i = 2 by omega) with rfl | rfl | rfl <;> (simp only [nn4]; omega)
      have hu34 : u3.heap.size ≤ u4.heap.size := by omega
      have hoss : SS u4 u3.heap.size u4.heap.size (.slice OA ON OC) := by have hh := Hoss.out; rw [hsv3] at hh; exact hh
      have Hoss' := Lib.hid hoss; clear hoss Hoss
      have Hres := Lib.hid hres; clear hres
      have Hgl := Lib.hid hgl5; clear hgl5
      have Hxs := Lib.hid hxs; clear hxs
      have HLH := Lib.hid hLH; clear hLH
      have HLL := Lib.hid hLL; clear hLL
      clear HR50 HR51 HR52 HR53 HGL5
      generalize hRe : rr4 r0 r1 r2 r3 = R at *
      have HRe := Lib.hid hRe; clear hRe
      go_loopw [17] (fun i wr => ∃ (m : Nat) (ys : Nat → Value) (ck : Array Value), m ≤ 4 ∧ i = .int .i64 m ∧ Blk wr w6.heap.size 43 (cs4 R xs) ∧ Blk wr (w6.heap.size + 1) 43 ck ∧ ck.size = 8 ∧ (∀ j, j < m → ck[j * 2]? = some (.int .i64 (R j).1) ∧ ck[j * 2 + 1]? = some (ys j)) ∧ (∀ j, j < m → NRels wr u4.heap.size (ys j) (R j).2) ∧
          (∀ j, j < 4 → Snap wr (Lf j) (Hf j) (xs j) (R j)) ∧ SymR wr u3.heap.size u4.heap.size (.slice OA ON OC) os ∧ Below w6.heap.size w6 wr ∧ u4.heap.size ≤ wr.heap.size) (fun i _ => 4 - (intOf i).toNat)
      case atStart => exact ⟨0, fun _ => .slice none 0 0, _, by omega, rfl, Hgl.out, HGK5.out, rfl, fun j h => absurd h (by omega), fun j h => absurd h (by omega), Hres.out, ⟨Hos.out, Hoss'.out⟩, HB5'.out, Nat.le_refl _⟩
      case round =>
        obtain ⟨m, ys, ck, hm, rfl, hgl, hgk, hck, hcy, hny, hres, hos, hbr, hszr⟩ := hrel
        have Hcy := Lib.hid hcy; clear hcy
        have Hnys := Lib.hid hny; clear hny
        have Hress := Lib.hid hres; clear hres
        have Hos2 := Lib.hid hos; clear hos
        have Hbr := Lib.hid hbr; clear hbr
        have Hck := Lib.hid hck; clear hck
        obtain ⟨w7, rfl⟩ : ∃ x, x = wr := ⟨_, rfl⟩
        by_cases hm4 : m < 4
        · obtain ⟨XA, XN, XC, hxe⟩ := Hxs.out m hm4
          have hrm := (Hress.out m hm4).res
          obtain ⟨g0, g1⟩ := cs4_at R xs hm4
          rw [hxe] at hrm g1
          have l0 : w7.cell? ⟨w6.heap.size, m * 2, none⟩ = some (.int .i64 (R m).1) := (hgl.cell _).trans g0
          have l1 : w7.cell? ⟨w6.heap.size, m * 2 + 1, none⟩ = some (.slice XA XN XC) := (hgl.cell _).trans g1
          obtain ⟨k0, hk0⟩ := hgk.some_ (m * 2) (by have := Hck.out; omega)
          obtain ⟨k1, hk1⟩ := hgk.some_ (m * 2 + 1) (by have := Hck.out; omega)
          have hi0 : (0 : Int) ≤ (m : Int) := by omega
          have hi4 : (m : Int) < 4 := by omega
          have hcall := refcopy_own (R m).1 (.slice XA XN XC) (R m).2 w7 w7.heap.size (Nat.le_refl _) hrm.1.rels hrm.2.2.1 hrm.2.2.2
          have Hcall := Lib.hid hcall; clear hcall
          have Hrm := Lib.hid hrm; clear hrm
          have Hgl7 := Lib.hid hgl; clear hgl
          have Hgk7 := Lib.hid hgk; clear hgk
          clear g0 g1
          have Hxe := Lib.hid hxe; clear hxe
          go_wp2_with (go_at_call 13
                       refine Hcall.out.mono ?_
                       rintro e u5 ⟨yv, rfl, hcr, hb⟩
                       have hnr := hcr.rels Hrm.out.2.2.1
                       obtain ⟨ZA, ZN, ZC, rfl, -⟩ := id hnr
                       have hgl := Hgl7.out.below hb Hgl7.out.lt
                       have hgk := Hgk7.out.below hb Hgk7.out.lt
                       obtain ⟨q0, hq0⟩ := hgk.some_ (m * 2) (by have := Hck.out; omega)
                       obtain ⟨q1, hq1⟩ := hgk.some_ (m * 2 + 1) (by have := Hck.out; omega)
                       have hf0 := hgk.frozen (m * 2)
                       have hf1 := hgk.frozen (m * 2 + 1)
                       clear hcr)
          have hgl8 := (hgl.far (p := ⟨w6.heap.size + 1, m * 2, none⟩) (show w6.heap.size ≠ w6.heap.size + 1 by omega) (.int .i64 (R m).1)).far (p := ⟨w6.heap.size + 1, m * 2 + 1, none⟩) (show w6.heap.size ≠ w6.heap.size + 1 by omega) (.slice ZA ZN ZC)
          have hgk8 := (hgk.set_ (m * 2) (.int .i64 (R m).1)).set_ (m * 2 + 1) (.slice ZA ZN ZC)
          have hk8 : Keeps u3.heap.size [3, 25, 57, 72] u5 ((u5.setCell ⟨w6.heap.size + 1, m * 2, none⟩ (.int .i64 (R m).1)).setCell ⟨w6.heap.size + 1, m * 2 + 1, none⟩ (.slice ZA ZN ZC)) := (Keeps.setCell (p := ⟨w6.heap.size + 1, m * 2, none⟩) hgk (by decide) _).trans (Keeps.setCell (p := ⟨w6.heap.size + 1, m * 2 + 1, none⟩) (hgk.set_ _ _) (by decide) _)
          have hk8a : ∀ L, Keeps L [3, 25, 57] u5 ((u5.setCell ⟨w6.heap.size + 1, m * 2, none⟩ (.int .i64 (R m).1)).setCell ⟨w6.heap.size + 1, m * 2 + 1, none⟩ (.slice ZA ZN ZC)) := fun L => (Keeps.setCell (p := ⟨w6.heap.size + 1, m * 2, none⟩) hgk (by decide) _).trans (Keeps.setCell (p := ⟨w6.heap.size + 1, m * 2 + 1, none⟩) (hgk.set_ _ _) (by decide) _)
          have hb8 : Below w6.heap.size w6 ((u5.setCell ⟨w6.heap.size + 1, m * 2, none⟩ (.int .i64 (R m).1)).setCell ⟨w6.heap.size + 1, m * 2 + 1, none⟩ (.slice ZA ZN ZC)) := ((Hbr.out.trans (hb.mono Hbr.out.size)).setCell (p := ⟨w6.heap.size + 1, m * 2, none⟩) (by simp) _).setCell (p := ⟨w6.heap.size + 1, m * 2 + 1, none⟩) (by simp) _
          have hsz8 : u4.heap.size ≤ ((u5.setCell ⟨w6.heap.size + 1, m * 2, none⟩ (.int .i64 (R m).1)).setCell ⟨w6.heap.size + 1, m * 2 + 1, none⟩ (.slice ZA ZN ZC)).heap.size := by have := hb.size; simp; omega
          have hres8 : ∀ j, j < 4 → Snap ((u5.setCell ⟨w6.heap.size + 1, m * 2, none⟩ (.int .i64 (R m).1)).setCell ⟨w6.heap.size + 1, m * 2 + 1, none⟩ (.slice ZA ZN ZC)) (Lf j) (Hf j) (xs j) (R j) := fun j hj => (((Hress.out j hj).below hb).setCell (p := ⟨w6.heap.size + 1, m * 2, none⟩) (show w6.heap.size + 1 < _ by have := (HLH.out j hj).1; omega) _).setCell (p := ⟨w6.heap.size + 1, m * 2 + 1, none⟩) (show w6.heap.size + 1 < _ by have := (HLH.out j hj).1; omega) _
          have hos8 := (Hos2.out.keeps (Keeps.of_below hb)).keeps (hk8.mono (by simp))
          have hny8 : ∀ j, j < m + 1 → NRels ((u5.setCell ⟨w6.heap.size + 1, m * 2, none⟩ (.int .i64 (R m).1)).setCell ⟨w6.heap.size + 1, m * 2 + 1, none⟩ (.slice ZA ZN ZC)) u4.heap.size (if j = m then .slice ZA ZN ZC else ys j) (R j).2 := fun j hj => by
            by_cases e : j = m
            · subst e
              rw [if_pos rfl]
              exact (hnr.keep (hk8a _)).more hszr
            · rw [if_neg e]
              exact ((Hnys.out j (by omega)).keep (Keeps.of_below hb)).keep (hk8a _)
          have hcy8 : ∀ j, j < m + 1 → ((ck.setIfInBounds (m * 2) (.int .i64 (R m).1)).setIfInBounds (m * 2 + 1) (.slice ZA ZN ZC))[j * 2]? = some (.int .i64 (R j).1) ∧ ((ck.setIfInBounds (m * 2) (.int .i64 (R m).1)).setIfInBounds (m * 2 + 1) (.slice ZA ZN ZC))[j * 2 + 1]? = some (if j = m then .slice ZA ZN ZC else ys j) := fun j hj => by
            obtain ⟨s1, s2⟩ := set4_at (j := j) (.int .i64 (R m).1) (.slice ZA ZN ZC) Hck.out hm4
            rw [s1, s2]
            by_cases e : j = m
            · subst e
              rw [if_pos rfl, if_pos rfl, if_pos rfl]
              exact ⟨rfl, rfl⟩
            · rw [if_neg e, if_neg e, if_neg e]
              exact Hcy.out j (by omega)
          clear l0 l1 hk0 hk1 hq0 hq1 hf0 hf1 hk8 hk8a hgl hgk hb hnr
          generalize hckn : (ck.setIfInBounds (m * 2) (.int .i64 (R m).1)).setIfInBounds (m * 2 + 1) (.slice ZA ZN ZC) = cn at *
          have hcns : cn.size = 8 := by rw [← hckn]; simp [Hck.out]
          clear hckn
          generalize ((u5.setCell ⟨w6.heap.size + 1, m * 2, none⟩ (.int .i64 (R m).1)).setCell ⟨w6.heap.size + 1, m * 2 + 1, none⟩ (.slice ZA ZN ZC)) = w8 at *
          have hend : ∀ w9, Below w8.heap.size w8 w9 → (∃ (m' : Nat) (ys : Nat → Value) (ck : Array Value), m' ≤ 4 ∧ (Value.int .i64 ((m : Int) + 1)) = .int .i64 m' ∧ Blk w9 w6.heap.size 43 (cs4 R xs) ∧ Blk w9 (w6.heap.size + 1) 43 ck ∧ ck.size = 8 ∧ (∀ j, j < m' → ck[j * 2]? = some (.int .i64 (R j).1) ∧ ck[j * 2 + 1]? = some (ys j)) ∧ (∀ j, j < m' → NRels w9 u4.heap.size (ys j) (R j).2) ∧
              (∀ j, j < 4 → Snap w9 (Lf j) (Hf j) (xs j) (R j)) ∧ SymR w9 u3.heap.size u4.heap.size (.slice OA ON OC) os ∧ Below w6.heap.size w6 w9 ∧ u4.heap.size ≤ w9.heap.size) := fun w9 hb9 =>
            ⟨m + 1, fun j => if j = m then .slice ZA ZN ZC else ys j, cn, by omega, by go_num, hgl8.below hb9 hgl8.lt, hgk8.below hb9 hgk8.lt, hcns, hcy8, fun j hj => (hny8 j hj).keep (Keeps.of_below hb9), fun j hj => (hres8 j hj).below hb9, hos8.keeps (Keeps.of_below hb9), hb8.trans (hb9.mono hb8.size), Nat.le_trans hsz8 hb9.size⟩
          obtain ⟨g0, g1⟩ := cs4_at R xs hm4
          rw [Hxe.out] at g1
          have l0 : w8.cell? ⟨w6.heap.size, m * 2, none⟩ = some (.int .i64 (R m).1) := (hgl8.cell _).trans g0
          have l1 : w8.cell? ⟨w6.heap.size, m * 2 + 1, none⟩ = some (.slice XA XN XC) := (hgl8.cell _).trans g1
          have hrm8 := (hres8 m hm4).res
          rw [Hxe.out] at hrm8
          have Hend := Lib.hid hend; clear hend hny8 hres8 hos8 hcy8 g0 g1
          have Hgl8 := Lib.hid hgl8; clear hgl8
          have Hgk8 := Lib.hid hgk8; clear hgk8
          have Hb8 := Lib.hid hb8; clear hb8
          have Hrm8 := Lib.hid hrm8; clear hrm8
          by_cases hk0 : k = 0
          · subst hk0
            go_quiet (fail)
            go_wp2
            exact ⟨Hend.out _ (below_drewN (Below.refl _ _) _), by simp [intOf]; omega⟩
          · have hkp : (0 : Int) < (k : Int) := by omega
            have hkn : 0 < k := by omega
            obtain ⟨ys0, hcfe, hy0⟩ := Hys.out (by omega)
            have hyr := hy0 m hm4
            have hcf8 := Hcf.out.below Hb8.out hgfl
            rw [hcfe] at hcf8
            obtain ⟨g0, g1⟩ := cs4_at R ys0 hm4
            obtain ⟨FA, FN, FC, hfe, -⟩ := id hyr
            rw [hfe] at hyr g1
            have l2 : w8.cell? ⟨w5.heap.size, m * 2, none⟩ = some (.int .i64 (R m).1) := (hcf8.cell _).trans g0
            have l3 : w8.cell? ⟨w5.heap.size, m * 2 + 1, none⟩ = some (.slice FA FN FC) := (hcf8.cell _).trans g1
            have hw68 := Hb8.out.size
            have hall8 : ∀ W, Below w8.heap.size w8 W → W.cell? ⟨w6.heap.size, m * 2, none⟩ = some (.int .i64 (R m).1) ∧ W.cell? ⟨w6.heap.size, m * 2 + 1, none⟩ = some (.slice XA XN XC) ∧ W.cell? ⟨w5.heap.size, m * 2, none⟩ = some (.int .i64 (R m).1) ∧ W.cell? ⟨w5.heap.size, m * 2 + 1, none⟩ = some (.slice FA FN FC) ∧ Below w8.heap.size w8 W := fun W hW =>
              ⟨(hW.cell (p := ⟨w6.heap.size, m * 2, none⟩) Hgl8.out.lt).trans l0, (hW.cell (p := ⟨w6.heap.size, m * 2 + 1, none⟩) Hgl8.out.lt).trans l1, (hW.cell (p := ⟨w5.heap.size, m * 2, none⟩) (show w5.heap.size < w8.heap.size by omega)).trans l2, (hW.cell (p := ⟨w5.heap.size, m * 2 + 1, none⟩) (show w5.heap.size < w8.heap.size by omega)).trans l3, hW⟩
            have hcall : ∀ W, (W.cell? ⟨w6.heap.size, m * 2, none⟩ = some (.int .i64 (R m).1) ∧ W.cell? ⟨w6.heap.size, m * 2 + 1, none⟩ = some (.slice XA XN XC) ∧ W.cell? ⟨w5.heap.size, m * 2, none⟩ = some (.int .i64 (R m).1) ∧ W.cell? ⟨w5.heap.size, m * 2 + 1, none⟩ = some (.slice FA FN FC) ∧ Below w8.heap.size w8 W) → Calls Tryz.prog 18 #[.agg #[.int .i64 (R m).1, .slice XA XN XC], .agg #[.int .i64 (R m).1, .slice FA FN FC]] W fun e w' => e = .returned (.bool true) ∧ (w'.cell? ⟨w6.heap.size, m * 2, none⟩ = some (.int .i64 (R m).1) ∧ w'.cell? ⟨w6.heap.size, m * 2 + 1, none⟩ = some (.slice XA XN XC) ∧ w'.cell? ⟨w5.heap.size, m * 2, none⟩ = some (.int .i64 (R m).1) ∧ w'.cell? ⟨w5.heap.size, m * 2 + 1, none⟩ = some (.slice FA FN FC) ∧ Below w8.heap.size w8 w') := fun W hW => by
              have hWb := hW.2.2.2.2
              refine (same_eq (R m).1 _ _ (R m).2 W w8.heap.size hWb.size (Hrm8.out.1.rels.below hWb) (((hyr.below Hb8.out).more hw68).below hWb)).mono ?_
              rintro e w' ⟨rfl, hb9⟩
              exact ⟨rfl, hall8 w' (hWb.trans (hb9.mono hWb.size))⟩
            have Hcall8 := Lib.hid hcall; clear hcall
            have Hall8 := Lib.hid hall8; clear hall8
            clear hyr hcf8 g0 g1 hy0
            go_region_held3 (fun W => W.cell? ⟨w6.heap.size, m * 2, none⟩ = some (.int .i64 (R m).1) ∧ W.cell? ⟨w6.heap.size, m * 2 + 1, none⟩ = some (.slice XA XN XC) ∧ W.cell? ⟨w5.heap.size, m * 2, none⟩ = some (.int .i64 (R m).1) ∧ W.cell? ⟨w5.heap.size, m * 2 + 1, none⟩ = some (.slice FA FN FC) ∧ Below w8.heap.size w8 W)
              (first
                | assumption
                | (refine Hall8.out _ ?_
                   repeat (first | exact Below.refl _ _ | exact below_drewN (Below.refl _ _) _ | exact And.right (And.right (And.right (And.right (by assumption)))) | refine Below.drew ?_)))
              (first | (go_at_call 18; refine (Hcall8.out _ (by assumption)).mono ?_; rintro e w9 ⟨rfl, hc1⟩))
            all_goals go_wp2
            all_goals exact ⟨Hend.out _ hc1.2.2.2.2, by simp [intOf]; omega⟩
        · have hm5 : m = 4 := by omega
          obtain rfl : ck = cs4 R ys := cs4_of Hck.out (fun j hj => Hcy.out j (by omega))
          obtain ⟨B0, M0, D0, e0, -⟩ := id (Hnys.out 0 (by omega))
          obtain ⟨B1, M1, D1, e1, -⟩ := id (Hnys.out 1 (by omega))
          obtain ⟨B2, M2, D2, e2, -⟩ := id (Hnys.out 2 (by omega))
          obtain ⟨B3, M3, D3, e3, -⟩ := id (Hnys.out 3 (by omega))
          unfold cs4 at hgk
          rw [e0, e1, e2, e3] at hgk
          have He0 := Lib.hid e0; clear e0
          have He1 := Lib.hid e1; clear e1
          have He2 := Lib.hid e2; clear e2
          have He3 := Lib.hid e3; clear e3
          have hw67 := Hbr.out.size
          have hlv7 := Hlv.out.below Hbr.out
          have Hlv7 := Lib.hid hlv7; clear hlv7
          have hi4n : ¬ (m : Int) < 4 := by omega
          have hi4m : ¬ m < 4 := by omega
          have Hm5 := Lib.hid hm5; clear hm5
          go_upto_region 21 with fail
          go_cut [134] from 127 to 134 (fun s wx => s = .bool false ∧ ∃ nd, wx = w7.drewN nd)
          case first =>
            by_cases hk0 : k = 0
            · have hkp : ¬ (0 : Int) < (k : Int) := by omega
              have hkn : ¬ 0 < k := by omega
              have Hk0 := Lib.hid hk0; clear hk0
              go_wp2
              go_meet
              exact ⟨rfl, 0, rfl⟩
            · have hkp : (0 : Int) < (k : Int) := by omega
              have hkn : 0 < k := by omega
              have hl := Hlv7.out
              rw [if_neg hk0] at hl
              have Hl := Lib.hid hl; clear hl
              have Hk0 := Lib.hid hk0; clear hk0
              go_wp2_with (go_at_call 19
                           refine (same_symbols _ _ os w7 w7.heap.size (Hos2.out.1.more hszr) (Hl.out.more hw67)).mono ?_
                           rintro e wx ⟨rfl, nd, rfl⟩)
              go_meet
              exact ⟨rfl, nd, rfl⟩
          case rest =>
            obtain ⟨rfl, nd, rfl⟩ := hcut
            have hbd : Below w7.heap.size w7 (w7.drewN nd) := below_drewN (Below.refl _ _) nd
            have hgl8 := hgl.below hbd hgl.lt
            have hgk8 := hgk.below hbd hgk.lt
            have hb8 := Hbr.out.trans (hbd.mono hw67)
            have hres8 : ∀ j, j < 4 → Snap (w7.drewN nd) (Lf j) (Hf j) (xs j) (R j) := fun j hj => (Hress.out j hj).below hbd
            have hny8 : ∀ j, j < 4 → NRels (w7.drewN nd) u4.heap.size (ys j) (R j).2 := fun j hj => (Hnys.out j (by have := Hm5.out; omega)).keep (Keeps.of_below hbd)
            have hos8 := Hos2.out.keeps (Keeps.of_below hbd)
            have hsz8 : u4.heap.size ≤ (w7.drewN nd).heap.size := Nat.le_trans hszr hbd.size
            clear hbd Hlv7 Hnys Hress Hos2 hgl hgk Hcy Hck
            generalize w7.drewN nd = w8 at *
            have Hgl8 := Lib.hid hgl8; clear hgl8
            have Hgk8 := Lib.hid hgk8; clear hgk8
            have Hb8 := Lib.hid hb8; clear hb8
            have Hres8 := Lib.hid hres8; clear hres8
            have Hny8 := Lib.hid hny8; clear hny8
            have Hos8 := Lib.hid hos8; clear hos8
            have hw68 := Hb8.out.size
            have hall8 : ∀ W, Below w8.heap.size w8 W → W.cell? ⟨w6.heap.size + 1, 0, none⟩ = some (.int .i64 (R 0).1) ∧ W.cell? ⟨w6.heap.size + 1, 1, none⟩ = some (.slice B0 M0 D0) ∧ W.cell? ⟨w6.heap.size + 1, 2, none⟩ = some (.int .i64 (R 1).1) ∧ W.cell? ⟨w6.heap.size + 1, 3, none⟩ = some (.slice B1 M1 D1) ∧ W.cell? ⟨w6.heap.size + 1, 4, none⟩ = some (.int .i64 (R 2).1) ∧ W.cell? ⟨w6.heap.size + 1, 5, none⟩ = some (.slice B2 M2 D2) ∧ W.cell? ⟨w6.heap.size + 1, 6, none⟩ = some (.int .i64 (R 3).1) ∧ W.cell? ⟨w6.heap.size + 1, 7, none⟩ = some (.slice B3 M3 D3) ∧ Below w8.heap.size w8 W := fun W hW => ⟨(Hgk8.out.below hW Hgk8.out.lt).cell 0, (Hgk8.out.below hW Hgk8.out.lt).cell 1, (Hgk8.out.below hW Hgk8.out.lt).cell 2, (Hgk8.out.below hW Hgk8.out.lt).cell 3, (Hgk8.out.below hW Hgk8.out.lt).cell 4, (Hgk8.out.below hW Hgk8.out.lt).cell 5, (Hgk8.out.below hW Hgk8.out.lt).cell 6, (Hgk8.out.below hW Hgk8.out.lt).cell 7, hW⟩
            have Hall8 := Lib.hid hall8; clear hall8
            obtain ⟨d0, d1, d2, d3, d4, d5, d6, d7, hcfe⟩ := arr8 Hcs.out
            have Hcfe := Lib.hid hcfe; clear hcfe
            go_wp2
            refine wp_region_any (by kernel_rfl) ?_
            change wpAny _ _ _ _ _ _ _ (World.drew _)
            have hcf8 := Hcf.out.below Hb8.out hgfl
            refine Own4.region23 (w0 := World.drew w8) (cs := [(.int .i64 (R 0).1), (.slice B0 M0 D0), (.int .i64 (R 1).1), (.slice B1 M1 D1), (.int .i64 (R 2).1), (.slice B2 M2 D2), (.int .i64 (R 3).1), (.slice B3 M3 D3)]) (own := .slice OA ON OC) (os := os) (gf := w5.heap.size) (w6.heap.size + 1) _ _ (by simp) rfl rfl rfl Hgk8.out rfl hcf8 Hcs.out rfl (by intro v hv; simp at hv; rcases hv with rfl | rfl | rfl | rfl | rfl | rfl | rfl | rfl <;> rfl) (Hos8.out.1.more hsz8) (by have := Hol.out; omega) ?_
            intro X w9 hb89 hs9 hm9 hl9
            rw [over_puts]
            simp only [Own4.D, List.foldl_cons, List.foldl_nil]
            generalize X 12 = v9 at *
            generalize X 135 = y135
            generalize X 136 = y136
            generalize X 137 = y137
            generalize X 138 = y138
            obtain ⟨LA9, LN9, LC9, rfl, -⟩ := id hs9
            have hb89 : Below w8.heap.size w8 w9 := ⟨hb89.os, hb89.tape, hb89.output, hb89.size, hb89.block⟩
            have hl9 : SymL w8.heap.size (.slice LA9 LN9 LC9) := hl9
            have hcf9 := hcf8.below hb89 (by omega)
            have hgn : w6.heap.size ≠ w5.heap.size := by omega
            have hgn1 : w6.heap.size + 1 ≠ w5.heap.size := by omega
            have hgl10 := (st8_far (w := w9) (g := w5.heap.size) (c0 := (.int .i64 (R 0).1)) (c1 := (.slice B0 M0 D0)) (c2 := (.int .i64 (R 1).1)) (c3 := (.slice B1 M1 D1)) (c4 := (.int .i64 (R 2).1)) (c5 := (.slice B2 M2 D2)) (c6 := (.int .i64 (R 3).1)) (c7 := (.slice B3 M3 D3)) hgn).trans (Hgl8.out.below hb89 Hgl8.out.lt)
            have hgk10 := (st8_far (w := w9) (g := w5.heap.size) (c0 := (.int .i64 (R 0).1)) (c1 := (.slice B0 M0 D0)) (c2 := (.int .i64 (R 1).1)) (c3 := (.slice B1 M1 D1)) (c4 := (.int .i64 (R 2).1)) (c5 := (.slice B2 M2 D2)) (c6 := (.int .i64 (R 3).1)) (c7 := (.slice B3 M3 D3)) hgn1).trans (Hgk8.out.below hb89 Hgk8.out.lt)
            have hcf10 := st8_blk (c0 := (.int .i64 (R 0).1)) (c1 := (.slice B0 M0 D0)) (c2 := (.int .i64 (R 1).1)) (c3 := (.slice B1 M1 D1)) (c4 := (.int .i64 (R 2).1)) (c5 := (.slice B2 M2 D2)) (c6 := (.int .i64 (R 3).1)) (c7 := (.slice B3 M3 D3)) hcf9 Hcs.out
            have hres10 : ∀ j, j < 4 → Snap (st8 w9 w5.heap.size (.int .i64 (R 0).1) (.slice B0 M0 D0) (.int .i64 (R 1).1) (.slice B1 M1 D1) (.int .i64 (R 2).1) (.slice B2 M2 D2) (.int .i64 (R 3).1) (.slice B3 M3 D3)) (Lf j) (Hf j) (xs j) (R j) := fun j hj => ((Hres8.out j hj).below hb89).stay (by rw [st8_size]; exact Nat.le_refl _) (fun b k1 k2 => st8_far (by have := (HLH.out j hj).1; omega))
            have hny10 : ∀ j, j < 4 → NRels (st8 w9 w5.heap.size (.int .i64 (R 0).1) (.slice B0 M0 D0) (.int .i64 (R 1).1) (.slice B1 M1 D1) (.int .i64 (R 2).1) (.slice B2 M2 D2) (.int .i64 (R 3).1) (.slice B3 M3 D3)) u4.heap.size (ys j) (R j).2 := fun j hj => ((Hny8.out j hj).keep (Keeps.of_below hb89)).keep (st8_keeps hcf9 (by decide))
            have hos10 : SymR (st8 w9 w5.heap.size (.int .i64 (R 0).1) (.slice B0 M0 D0) (.int .i64 (R 1).1) (.slice B1 M1 D1) (.int .i64 (R 2).1) (.slice B2 M2 D2) (.int .i64 (R 3).1) (.slice B3 M3 D3)) u3.heap.size u4.heap.size (.slice OA ON OC) os := (Hos8.out.keeps (Keeps.of_below hb89)).keeps (st8_keeps hcf9 (by decide))
            have hls10 := Syms.st8 (c0 := (.int .i64 (R 0).1)) (c1 := (.slice B0 M0 D0)) (c2 := (.int .i64 (R 1).1)) (c3 := (.slice B1 M1 D1)) (c4 := (.int .i64 (R 2).1)) (c5 := (.slice B2 M2 D2)) (c6 := (.int .i64 (R 3).1)) (c7 := (.slice B3 M3 D3)) hs9 hm9 hcf9
            have hb510 : Below w5.heap.size w5 (st8 w9 w5.heap.size (.int .i64 (R 0).1) (.slice B0 M0 D0) (.int .i64 (R 1).1) (.slice B1 M1 D1) (.int .i64 (R 2).1) (.slice B2 M2 D2) (.int .i64 (R 3).1) (.slice B3 M3 D3)) := st8_below (Hbw.out.trans ((Hb8.out.trans (hb89.mono hw68)).mono (Nat.le_of_lt hgfl))) (Nat.le_refl _)
            have hsz10 : w8.heap.size ≤ (st8 w9 w5.heap.size (.int .i64 (R 0).1) (.slice B0 M0 D0) (.int .i64 (R 1).1) (.slice B1 M1 D1) (.int .i64 (R 2).1) (.slice B2 M2 D2) (.int .i64 (R 3).1) (.slice B3 M3 D3)).heap.size := by rw [st8_size]; exact hb89.size
            have hsz910 : (st8 w9 w5.heap.size (.int .i64 (R 0).1) (.slice B0 M0 D0) (.int .i64 (R 1).1) (.slice B1 M1 D1) (.int .i64 (R 2).1) (.slice B2 M2 D2) (.int .i64 (R 3).1) (.slice B3 M3 D3)).heap.size = w9.heap.size := st8_size
            rw [← hsz910] at hls10
            rw [show w9.setCells w5.heap.size 0 [(.int .i64 (R 0).1), (.slice B0 M0 D0), (.int .i64 (R 1).1), (.slice B1 M1 D1), (.int .i64 (R 2).1), (.slice B2 M2 D2), (.int .i64 (R 3).1), (.slice B3 M3 D3)] = st8 w9 w5.heap.size (.int .i64 (R 0).1) (.slice B0 M0 D0) (.int .i64 (R 1).1) (.slice B1 M1 D1) (.int .i64 (R 2).1) (.slice B2 M2 D2) (.int .i64 (R 3).1) (.slice B3 M3 D3) from rfl]
            clear hsz910
            generalize st8 w9 w5.heap.size (.int .i64 (R 0).1) (.slice B0 M0 D0) (.int .i64 (R 1).1) (.slice B1 M1 D1) (.int .i64 (R 2).1) (.slice B2 M2 D2) (.int .i64 (R 3).1) (.slice B3 M3 D3) = w10 at *
            clear X hcf9 hs9 hm9 hcf8 Hres8 Hny8 Hos8 Hgl8 Hgk8
            have Hgl10 := Lib.hid (show Blk w10 w6.heap.size 43 (cs4 R xs) from hgl10); clear hgl10
            have Hgk10 := Lib.hid (show Blk w10 (w6.heap.size + 1) 43 #[.int .i64 (R 0).1, .slice B0 M0 D0, .int .i64 (R 1).1, .slice B1 M1 D1, .int .i64 (R 2).1, .slice B2 M2 D2, .int .i64 (R 3).1, .slice B3 M3 D3] from hgk10); clear hgk10
            have Hcf10 := Lib.hid (show Blk w10 w5.heap.size 43 #[.int .i64 (R 0).1, .slice B0 M0 D0, .int .i64 (R 1).1, .slice B1 M1 D1, .int .i64 (R 2).1, .slice B2 M2 D2, .int .i64 (R 3).1, .slice B3 M3 D3] from hcf10); clear hcf10
            have Hres10 := Lib.hid hres10; clear hres10
            have Hny10 := Lib.hid hny10; clear hny10
            have Hls10 := Lib.hid hls10; clear hls10
            have Hb510 := Lib.hid hb510; clear hb510
            have hcall := spoilsyms_any (.slice OA ON OC) u3.heap.size u4.heap.size w10 hos10.2 (Nat.le_trans hsz8 hsz10)
            have Hcall := Lib.hid hcall; clear hcall hos10
            go_wp2_with (go_at_call 20
                         refine Hcall.out.mono ?_
                         rintro e w11 ⟨rfl, hsp⟩
                         have Hsp := Lib.hid hsp; clear hsp)
            have hgk10' : Blk w10 (w6.heap.size + 1) 43 (cs4 R ys) := by unfold cs4; rw [He0.out, He1.out, He2.out, He3.out]; exact Hgk10.out
            have hcf10' : Blk w10 w5.heap.size 43 (cs4 R ys) := by unfold cs4; rw [He0.out, He1.out, He2.out, He3.out]; exact Hcf10.out
            have Hgk := Lib.hid hgk10'; clear hgk10' Hgk10
            have Hcf4 := Lib.hid hcf10'; clear hcf10' Hcf10
            have hu36 : w6.heap.size + 2 ≤ u3.heap.size := by have := HLH.out 0 (by omega); omega
            have hu10 : u4.heap.size ≤ w10.heap.size := by omega
            clear Hall8
            go_loopw [18] (fun i wr => ∃ m3 : Nat, m3 ≤ 4 ∧ i = .int .i64 m3 ∧ (∀ j, m3 ≤ j → j < 4 → Snap wr (Lf j) (Hf j) (xs j) (R j)) ∧ Below (w6.heap.size + 2) w10 wr ∧ Keeps u4.heap.size [3, 25, 57, 72] w10 wr ∧ w10.heap.size ≤ wr.heap.size) (fun i _ => 4 - (intOf i).toNat)
            case atStart =>
              exact ⟨0, by omega, rfl, fun j _ hj => (Hres10.out j hj).sp Hsp.out (.inr (HLH.out j hj).2.2), (Hsp.out.below (by omega)).mono hu36, (Hsp.out.keeps _), Hsp.out.size⟩
            case round =>
              obtain ⟨m3, hm3, rfl, hsn, hb3, hk3, hsz3⟩ := hrel
              obtain ⟨w12, rfl⟩ : ∃ x, x = wr := ⟨_, rfl⟩
              have Hsn := Lib.hid hsn; clear hsn
              have Hb3 := Lib.hid hb3; clear hb3
              have Hk3 := Lib.hid hk3; clear hk3
              by_cases h34 : m3 < 4
              · obtain ⟨XA, XN, XC, hxe⟩ := Hxs.out m3 h34
                have hsx := Hsn.out m3 (Nat.le_refl _) h34
                have hyn := (Hny10.out m3 h34).keep (Hk3.out.mono (by simp))
                obtain ⟨ZA, ZN, ZC, hye, -⟩ := id hyn
                have hgl12 := Hgl10.out.below Hb3.out (by omega)
                have hgk12 := Hgk.out.below Hb3.out (by omega)
                obtain ⟨g0, g1⟩ := cs4_at R xs h34
                obtain ⟨g2, g3⟩ := cs4_at R ys h34
                rw [hxe] at hsx g1
                rw [hye] at hyn g3
                have l0 : w12.cell? ⟨w6.heap.size, m3 * 2, none⟩ = some (.int .i64 (R m3).1) := (hgl12.cell _).trans g0
                have l1 : w12.cell? ⟨w6.heap.size, m3 * 2 + 1, none⟩ = some (.slice XA XN XC) := (hgl12.cell _).trans g1
                have l2 : w12.cell? ⟨w6.heap.size + 1, m3 * 2, none⟩ = some (.int .i64 (R m3).1) := (hgk12.cell _).trans g2
                have l3 : w12.cell? ⟨w6.heap.size + 1, m3 * 2 + 1, none⟩ = some (.slice ZA ZN ZC) := (hgk12.cell _).trans g3
                have hi0 : (0 : Int) ≤ (m3 : Int) := by omega
                have hi4 : (m3 : Int) < 4 := by omega
                have hlt12 : w6.heap.size + 2 ≤ w12.heap.size := by omega
                have hall12 : ∀ W, Below w12.heap.size w12 W → W.cell? ⟨w6.heap.size, m3 * 2, none⟩ = some (.int .i64 (R m3).1) ∧ W.cell? ⟨w6.heap.size, m3 * 2 + 1, none⟩ = some (.slice XA XN XC) ∧ W.cell? ⟨w6.heap.size + 1, m3 * 2, none⟩ = some (.int .i64 (R m3).1) ∧ W.cell? ⟨w6.heap.size + 1, m3 * 2 + 1, none⟩ = some (.slice ZA ZN ZC) ∧ Below w12.heap.size w12 W := fun W hW =>
                  ⟨(hW.cell (p := ⟨w6.heap.size, m3 * 2, none⟩) (show w6.heap.size < w12.heap.size by omega)).trans l0, (hW.cell (p := ⟨w6.heap.size, m3 * 2 + 1, none⟩) (show w6.heap.size < w12.heap.size by omega)).trans l1, (hW.cell (p := ⟨w6.heap.size + 1, m3 * 2, none⟩) (show w6.heap.size + 1 < w12.heap.size by omega)).trans l2, (hW.cell (p := ⟨w6.heap.size + 1, m3 * 2 + 1, none⟩) (show w6.heap.size + 1 < w12.heap.size by omega)).trans l3, hW⟩
                have hcall12 : ∀ W, (W.cell? ⟨w6.heap.size, m3 * 2, none⟩ = some (.int .i64 (R m3).1) ∧ W.cell? ⟨w6.heap.size, m3 * 2 + 1, none⟩ = some (.slice XA XN XC) ∧ W.cell? ⟨w6.heap.size + 1, m3 * 2, none⟩ = some (.int .i64 (R m3).1) ∧ W.cell? ⟨w6.heap.size + 1, m3 * 2 + 1, none⟩ = some (.slice ZA ZN ZC) ∧ Below w12.heap.size w12 W) → Calls Tryz.prog 18 #[.agg #[.int .i64 (R m3).1, .slice XA XN XC], .agg #[.int .i64 (R m3).1, .slice ZA ZN ZC]] W fun e w' => e = .returned (.bool true) ∧ (w'.cell? ⟨w6.heap.size, m3 * 2, none⟩ = some (.int .i64 (R m3).1) ∧ w'.cell? ⟨w6.heap.size, m3 * 2 + 1, none⟩ = some (.slice XA XN XC) ∧ w'.cell? ⟨w6.heap.size + 1, m3 * 2, none⟩ = some (.int .i64 (R m3).1) ∧ w'.cell? ⟨w6.heap.size + 1, m3 * 2 + 1, none⟩ = some (.slice ZA ZN ZC) ∧ Below w12.heap.size w12 w') := fun W hW => by
                  have hWb := hW.2.2.2.2
                  refine (same_eq (R m3).1 _ _ (R m3).2 W w12.heap.size hWb.size (hsx.res.1.rels.below hWb) (hyn.rels.below hWb)).mono ?_
                  rintro e w' ⟨rfl, hb9⟩
                  exact ⟨rfl, hall12 w' (hWb.trans (hb9.mono hWb.size))⟩
                have Hcall12 := Lib.hid hcall12; clear hcall12
                have Hall12 := Lib.hid hall12; clear hall12
                have Hsx := Lib.hid hsx; clear hsx
                have Hxe3 := Lib.hid hxe; clear hxe
                clear hyn hye hgl12 hgk12 g0 g1 g2 g3
                go_wp2
                go_region_held3 (fun W => W.cell? ⟨w6.heap.size, m3 * 2, none⟩ = some (.int .i64 (R m3).1) ∧ W.cell? ⟨w6.heap.size, m3 * 2 + 1, none⟩ = some (.slice XA XN XC) ∧ W.cell? ⟨w6.heap.size + 1, m3 * 2, none⟩ = some (.int .i64 (R m3).1) ∧ W.cell? ⟨w6.heap.size + 1, m3 * 2 + 1, none⟩ = some (.slice ZA ZN ZC) ∧ Below w12.heap.size w12 W)
                  (first
                    | assumption
                    | (refine Hall12.out _ ?_
                       repeat (first | exact Below.refl _ _ | exact below_drewN (Below.refl _ _) _ | exact And.right (And.right (And.right (And.right (by assumption)))) | refine Below.drew ?_)))
                  (first | (go_at_call 18; refine (Hcall12.out _ (by assumption)).mono ?_; rintro e w13 ⟨rfl, hc1⟩))
                obtain ⟨p0, p1, p2, p3, hb13⟩ := hc1
                have hs13 := Hsx.out.below hb13
                have hcall := spoil_any (R m3).1 (.slice XA XN XC) (Lf m3) (Hf m3) w13 hs13.res.2.1 hs13.choose_spec.2.1
                have Hcall := Lib.hid hcall; clear hcall hs13
                have Hb13 := Lib.hid hb13; clear hb13
                have hsz13 := Hb13.out.size
                go_wp2_with (go_at_call 21
                             refine Hcall.out.mono ?_
                             rintro e w14 ⟨rfl, hsp⟩
                             have Hsp3 := Lib.hid hsp; clear hsp)
                have hLf := HLH.out m3 h34
                exact ⟨⟨m3 + 1, by omega, by go_num, fun j hj hj4 => ((Hsn.out j (by omega) hj4).below Hb13.out).sp Hsp3.out (.inl (HLL.out m3 j (by omega) hj4)), (Hb3.out.trans (Hb13.out.mono hlt12)).trans ((Hsp3.out.below (by omega)).mono hLf.1), (Hk3.out.trans (Keeps.of_below Hb13.out)).trans ((Hsp3.out.keeps _).more (by omega)), by have := Hsp3.out.size; omega⟩, by simp [intOf]; omega⟩
              · have hbel5 := Hb510.out.trans (Hb3.out.mono (show w5.heap.size ≤ w6.heap.size + 2 by omega))
                have hsz5 := hbel5.size
                have hbelw := HB5.out.trans (hbel5.mono (Nat.le_of_lt hwl))
                have hi4n3 : ¬ (m3 : Int) < 4 := by omega
                have hall12 := fun W (hW : Below w12.heap.size w12 W) => Hall.out W (hbel5.trans (hW.mono hsz5))
                have hsame := same_eq size (.slice A len c) (.slice YA YN YC) rs w12 w12.heap.size (Nat.le_refl _) ((h.below hbelw).more hbelw.size) ((Hny.out.below hbel5).more hsz5)
                have heqt := fun W (hW : Below w12.heap.size w12 W) => equal_any (.slice TA TN TC) (.slice A8 N8 C8) t t W w12.heap.size (((ht.below hbelw).more hbelw.size).below hW) (((Hn8.out.below hbel5).more hsz5).below hW)
                have heqp := fun W (hW : Below w12.heap.size w12 W) => equal_any (.slice PA PN PC) (.slice A9 N9 C9) p p W w12.heap.size (((hp.below hbelw).more hbelw.size).below hW) (((Hn9.out.below hbel5).more hsz5).below hW)
                rw [(Sh.eqB_iff t t).2 rfl] at heqt
                rw [(Sh.eqB_iff p p).2 rfl] at heqp
                have hsys := fun W (hW : Below w12.heap.size w12 W) => same_symbols (.slice QA QN QC) (.slice A10 N10 C10) ss W w12.heap.size (((hss.below hbelw).more hbelw.size).below hW) (((Hs10.out.below hbel5).more hsz5).below hW)
                have hend : ∀ W, Below w12.heap.size w12 W → Below w5.heap.size w5 W ∧ Syms W W.heap.size (.slice LA9 LN9 LC9) os ∧ Blk W w5.heap.size 43 (cs4 R ys) ∧ (∀ j, j < 4 → Rels W W.heap.size (ys j) (R j).2) := fun W hW => by
                  refine ⟨hbel5.trans (hW.mono hsz5), ?_, (Hcf4.out.below Hb3.out (by omega)).below hW (by omega), fun j hj => ?_⟩
                  · have hq := Syms.keepsB (L := u4.heap.size) Hls10.out.1 (fun ad n c e hn => ⟨Nat.le_trans hsz8 (hl9 ad n c e hn), Hls10.out.2 ad n c e hn⟩) (Hk3.out.mono (by simp))
                    exact (Syms.below (hq.more hsz3) hW).more hW.size
                  · exact ((((Hny10.out j hj).keep (Hk3.out.mono (by simp))).rels).below hW).more hW.size
                have Hend := Lib.hid hend; clear hend
                have Hall12 := Lib.hid hall12; clear hall12
                have Hsame := Lib.hid hsame; clear hsame
                have Heqt := Lib.hid heqt; clear heqt
                have Heqp := Lib.hid heqp; clear heqp
                have Hsys := Lib.hid hsys; clear hsys
                obtain ⟨b0, b1, b2, b3, b4, b5, b6, b7, b8⟩ := Hall12.out w12 (Below.refl _ _)
                clear hbel5 hbelw hl9
                go_wp2_with (first
                  | (go_at_call 18
                     refine Hsame.out.mono ?_
                     rintro e w13 ⟨rfl, hb13⟩
                     obtain ⟨d0', d1', d2', d3', d4', d5', d6', -, -⟩ := Hall12.out w13 hb13
                     have Hb13 := Lib.hid hb13; clear hb13)
                  | (go_at_call_of 22 (Value.slice TA TN TC)
                     refine (Heqt.out _ Hb13.out).mono ?_
                     rintro e w14 ⟨rfl, n14, rfl⟩
                     have hb14 : Below w12.heap.size w12 (w13.drewN n14) := below_drewN Hb13.out n14
                     obtain ⟨f0', f1', f2', f3', f4', f5', f6', -, -⟩ := Hall12.out _ hb14
                     have Hb14 := Lib.hid hb14; clear hb14)
                  | (go_at_call 22
                     refine (Heqp.out _ Hb14.out).mono ?_
                     rintro e w15 ⟨rfl, n15, rfl⟩
                     have hb15 : Below w12.heap.size w12 (w13.drewN (n14 + n15)) := below_drewN Hb13.out _
                     obtain ⟨h0', h1', h2', h3', h4', h5', h6', -, -⟩ := Hall12.out _ hb15
                     have Hb15 := Lib.hid hb15; clear hb15)
                  | (go_at_call 19
                     refine (Hsys.out _ Hb15.out).mono ?_
                     rintro e w16 ⟨rfl, n16, rfl⟩
                     have Hb16 := Lib.hid (show Below w12.heap.size w12 (w13.drewN (n14 + n15 + n16)) from below_drewN Hb13.out _)))
                obtain ⟨q1, q2, q3, q4⟩ := Hend.out _ Hb16.out
                refine ⟨⟨k + 1, by omega, by go_num, q1, ?_, _, q3, rfl, fun _ => ⟨ys, ?_, fun j hj => ?_⟩⟩, by simp [intOf]; omega⟩
                · rw [if_neg (by omega)]; exact q2
                · first | rfl | rw [HRe.out]
                · first | exact q4 j hj | (rw [HRe.out]; exact q4 j hj)

    · have hbww := HB5.out.trans (Hbw.out.mono (Nat.le_of_lt hwl))
      have hk2n : ¬ (k : Int) < 2 := by omega
      go_wp2_with (go_at_call 6
                   refine (alive_any _ (hv.below hbww hw) (Nat.le_trans hw hbww.size)).mono ?_
                   rintro e w12 ⟨rfl, hb12⟩
                   have Hb12 := Lib.hid (hbww.trans (hb12.mono hbww.size)))
      refine ⟨rfl, .bool true, ?_, rfl, Hb12.out⟩
      simp [results, Tryz.results4, Tryz.f4, go_sem]

end Go.Proofs.YtelememdhpncgaaGreatDoor
