/-
  Texts joined: Fword11, Fform2, Fcatch, Iterlay, Fmap, Fsv.
-/
import Derived.Test.YtmnpelhcgobfaaaDoorJi8
import Derived.Test.YtmnpelhcgobfaaaDoorJi9
import Derived.Test.YtmnpelhcgobfaaaDoorJi10
import Derived.Defers
import Derived.Recover
import Derived.Laws.Pointers
import Derived.Shelf.SlIter.Nil
import Derived.Shelf.SortM.Plain
import Derived.Shelf.SortM.SortNone
import Derived.Ground.GgzProg
import Derived.Ground.SlgmProg
import Derived.Shelf.SlGeneric
import Derived.Test.YtmnpelhcgobfaaaDoorProg
import Derived.Test.YtmnpelhcgobfaaaDoorRows
import Derived.Test.YtmnpelhcgobfaaaDoorJi1
import Derived.Maps.Ext
import Derived.Maps.OwnSet
import Derived.Sort.KeysCollected
import Derived.Test.YtmnpelhcgobfaaaDoorJi3
import Derived.Test.YtmnpelhcgobfaaaDoorJi4

/-
  Walks: the method formula of the parser, at the word exists.
-/
namespace Go.Proofs.YtmnpelhcgobfaaaDoor
open Go.RowKit
open Fo (F)

set_option maxRecDepth 100000 in
set_option maxHeartbeats 2000000 in
theorem form_exists (R n : Nat) (text : ByteArray) (w : World) (hr : Psr w R text n) (hn : n ≤ text.size) (hs : text.size ≤ 100000) (hw : Words w) (hg : 0 < R) {a : Nat} {r : List Fo.Tok}
    (hts : Fo.toksAt text.toList n = (a, [101, 120, 105, 115, 116, 115]) :: r) (hform : FormAt R text r.length) :
    Calls Tryd.prog 24 #[.pointer (some ⟨R, 0, none⟩)] w
      (RdPost R text w (Fo.formF (Fo.toksAt text.toList n)) (fun w' v f => NForm w' w.heap.size v f)) := by
  have hRw := hr.lt
  obtain ⟨ho1, ho2, -⟩ := tok_over hn hts
  have hx := form_word (a := a) (b := [101, 120, 105, 115, 116, 115]) (k := 11) (by decide) r
  rw [← hts] at hx
  have Hx := Lib.hid hx; clear hx
  have Hw := Lib.hid hw; clear hw
  have Hform := Lib.hid hform; clear hform
  have hr0 : Psr (w.alloc (.cells #[.int .i64 0, .int .i64 0, .string ⟨#[]⟩, .slice none 0 0, .slice none 0 0, .slice none 0 0] 31)) R text n := hr.alloc _
  have hg0 : w.grownBy (w.alloc (.cells #[.int .i64 0, .int .i64 0, .string ⟨#[]⟩, .slice none 0 0, .slice none 0 0, .slice none 0 0] 31)) (some R) := World.grownBy_alloc _ _ _
  have hz0 := Blk.new w 31 #[.int .i64 0, .int .i64 0, .string ⟨#[]⟩, .slice none 0 0, .slice none 0 0, .slice none 0 0]
  have hs0 : (w.alloc (.cells #[.int .i64 0, .int .i64 0, .string ⟨#[]⟩, .slice none 0 0, .slice none 0 0, .slice none 0 0] 31)).heap.size = w.heap.size + 1 := by simp
  have hl := lit12 (w.alloc (.cells #[.int .i64 0, .int .i64 0, .string ⟨#[]⟩, .slice none 0 0, .slice none 0 0, .slice none 0 0] 31))
  rw [hs0] at hl
  have hcall := take_ok R n text _ _ _ (hr0.alloc (.cells cellsF.toArray 9)) hn hs hl hts ⟨#[101, 120, 105, 115, 116, 115]⟩ ((kindB_self (x := [101, 120, 105, 115, 116, 115]) (.inl (by decide))).2 rfl) (by simp)
  have Hcall := Lib.hid hcall; clear hcall hl hs0 hts
  go_enter Tryd.func24, Tryd.ntmps24
  go_wp2_with (go_at_call 25; with_reducible refine (Hcall.out).mono ?_; rintro e w2 ⟨rfl, hr2, hg2⟩; have hz2 := Blk.grown (Blk.alloc hz0 _) hg2 (fun e => by injection e with e; omega); have hg02 := grownBy_trans hg0 (grownBy_trans (World.grownBy_alloc _ _ _) hg2))
  have hs3 : (w2.alloc (.cells #[.string ⟨#[101, 120, 105, 115, 116, 115]⟩, .string ⟨#[101, 120, 105, 115, 116, 115]⟩, .int .i64 a] 62)).heap.size = w2.heap.size + 1 := by simp
  have hT3 := Blk.new w2 62 #[.string ⟨#[101, 120, 105, 115, 116, 115]⟩, .string ⟨#[101, 120, 105, 115, 116, 115]⟩, .int .i64 a]
  have hB3 := Blk.alloc hz2 (.cells #[.string ⟨#[101, 120, 105, 115, 116, 115]⟩, .string ⟨#[101, 120, 105, 115, 116, 115]⟩, .int .i64 a] 62)
  have hr3 := hr2.alloc (.cells #[.string ⟨#[101, 120, 105, 115, 116, 115]⟩, .string ⟨#[101, 120, 105, 115, 116, 115]⟩, .int .i64 a] 62)
  have hg3 := grownBy_trans hg02 (World.grownBy_alloc w2 (.cells #[.string ⟨#[101, 120, 105, 115, 116, 115]⟩, .string ⟨#[101, 120, 105, 115, 116, 115]⟩, .int .i64 a] 62) (some R))
  have hBT : w.heap.size < w2.heap.size := hz2.lt
  clear hz2 hr2 hg2 hg02 Hcall hz0 hr0 hg0
  generalize w2.alloc (.cells #[.string ⟨#[101, 120, 105, 115, 116, 115]⟩, .string ⟨#[101, 120, 105, 115, 116, 115]⟩, .int .i64 a] 62) = w3 at *
  generalize w2.heap.size = T at *
  have hl := lit1 40 w3
  rw [hs3] at hl
  rcases sign_cases 40 (by decide) r with ⟨a1, r1, hr', ht, hkd⟩ | ⟨ht, hno⟩
  · have hx := Hx.out; clear Hx
    rw [ht, bndOk] at hx
    have Hx := Lib.hid hx; clear hx
    subst hr'
    have hcall := take_ok R _ text _ _ _ (hr3.alloc (.cells #[.string ⟨#[40]⟩] 9)) ho1 hs hl ho2 ⟨#[40]⟩ hkd (by simp)
    obtain ⟨hp1, hp2, -⟩ := tok_over ho1 ho2
    have Hcall := Lib.hid hcall; clear hcall hl ht hkd ho2
    have hbind : ∀ W, Calls Tryd.prog 33 #[.int .i64 11] W fun e w' => e = .returned (.bool (Fo.bindsB 11)) ∧ W = w' := fun W => fbinds_any 11 W
    rw [show Fo.bindsB 11 = true by decide] at hbind
    have Hbind := Lib.hid hbind; clear hbind
    go_wp2_with (first
      | (go_at_call 25; with_reducible refine (Hcall.out).mono ?_; rintro e w4 ⟨rfl, hr4, hg4⟩; have hT4 := Blk.grown (Blk.alloc hT3 _) hg4 (fun e => by injection e with e; omega); have hB4 := Blk.grown (Blk.alloc hB3 _) hg4 (fun e => by injection e with e; omega); have t0 := Blk.cell0 hT4; have hg04 := grownBy_trans hg3 (grownBy_trans (World.grownBy_alloc _ _ _) hg4); have hw4 := Hw.out.grown hg04 hg hRw; have Hw4 := Lib.hid hw4; clear hw4)
      | (go_at_call 32; with_reducible refine (kindOf_11 _ Hw4.out).mono ?_; rintro e w' ⟨rfl, rfl⟩)
      | (go_at_call 33; with_reducible refine (Hbind.out _).mono ?_; rintro e w' ⟨rfl, rfl⟩))
    have hG5 := Blk.new w4 31 #[.int .i64 11, .int .i64 0, .string ⟨#[]⟩, .slice none 0 0, .slice none 0 0, .slice none 0 0]
    have hB5 := Blk.alloc hB4 (.cells #[.int .i64 11, .int .i64 0, .string ⟨#[]⟩, .slice none 0 0, .slice none 0 0, .slice none 0 0] 31)
    have hr5 := hr4.alloc (.cells #[.int .i64 11, .int .i64 0, .string ⟨#[]⟩, .slice none 0 0, .slice none 0 0, .slice none 0 0] 31)
    have hg5 := grownBy_trans hg04 (World.grownBy_alloc w4 (.cells #[.int .i64 11, .int .i64 0, .string ⟨#[]⟩, .slice none 0 0, .slice none 0 0, .slice none 0 0] 31) (some R))
    have hBG : w.heap.size < w4.heap.size := hB4.lt
    have hRG : R < w4.heap.size := hr4.lt_
    have hs5 : (w4.alloc (.cells #[.int .i64 11, .int .i64 0, .string ⟨#[]⟩, .slice none 0 0, .slice none 0 0, .slice none 0 0] 31)).heap.size = w4.heap.size + 1 := by simp
    clear hT4 hB4 hr4 hg4 hg04 Hw4 t0 hT3 hB3 hr3 hg3 Hcall
    generalize w4.alloc (.cells #[.int .i64 11, .int .i64 0, .string ⟨#[]⟩, .slice none 0 0, .slice none 0 0, .slice none 0 0] 31) = w5 at *
    generalize w4.heap.size = G at *
    have Hs5 := Lib.hid hs5; clear hs5
    have hne : w.heap.size ≠ G := Nat.ne_of_lt hBG
    have hx := Hx.out; clear Hx
    rw [head_second, bnd_bnd] at hx
    have hl := litN w5
    rw [Hs5.out] at hl
    rcases name_cases r1 with ⟨ta, tc, r2, hr', hpure, hnb⟩ | ⟨hpure, hno⟩
    rotate_left
    · rw [hpure, bndErr] at hx
      have Hx := Lib.hid hx; clear hx
      have hcall := take_err R _ text _ _ _ (hr5.alloc (.cells #[.string ⟨#[97, 32, 110, 97, 109, 101]⟩] 9)) hp1 hs hl hp2 hno
      have Hcall := Lib.hid hcall; clear hcall hl hpure hno
      go_wp2_with (go_at_call 25; with_reducible refine (Hcall.out).mono ?_; rintro e w6 ⟨rfl, hb6⟩)
      exact ⟨rfl, RdPost.bad Hx.out (grownBy_trans hg5 (grownBy_trans (World.grownBy_alloc _ _ _) (grownBy_of_below hb6 _)))⟩
    rw [hpure, bndOk, bnd_bnd] at hx
    have hlen5 : r1.length = r2.length + 1 := by rw [hr']; rfl
    have Hx := Lib.hid hx; clear hx
    have htn := hp2
    rw [hr'] at htn
    obtain ⟨hm6, ht6, -⟩ := tok_over hp1 htn
    have hcall := take_ok R _ text _ _ _ (hr5.alloc (.cells #[.string ⟨#[97, 32, 110, 97, 109, 101]⟩] 9)) hp1 hs hl htn nameK (kindB_name.2 hnb) (by simp)
    have hf1 := fld1 (.string nameK) (.string ⟨tc.toArray⟩) (.int .i64 ta)
    have hys : (⟨tc.toArray⟩ : ByteArray).size ≤ 140737488351232 := by simp only [ByteArray.size, List.size_toArray]; omega
    generalize (⟨tc.toArray⟩ : ByteArray) = y at *
    generalize nameK = nk at *
    have Hcall := Lib.hid hcall; clear hcall hl hpure htn hr'
    go_wp2_with (go_at_call 25; with_reducible refine (Hcall.out).mono ?_; rintro e w6 ⟨rfl, hr6, hgx6⟩; have hg6 := grownBy_trans (World.grownBy_alloc w5 (.cells #[.string ⟨#[97, 32, 110, 97, 109, 101]⟩] 9) (some R)) hgx6; have hGa5 := Blk.grown hG5 hg6 (fun e => by injection e with e; omega); have hBa5 := Blk.grown hB5 hg6 (fun e => by injection e with e; omega); obtain ⟨⟨g0, g1, g2, g3, g4, g5⟩, h0, h1, h2, h3, h4, h5⟩ := six_cells hGa5; have hG7 := blk_set2 hGa5 (.string y); have hB7 := blk_far hBa5 hne 2 (.string y); obtain ⟨⟨y0, y1, y2, y3, y4, y5⟩, -⟩ := six_cells hG7; obtain ⟨⟨z0, z1, z2, z3, z4, z5⟩, f0, f1, f2, f3, f4, f5⟩ := six_cells hB7)
    have hg7 : w.grownBy (w6.setCell ⟨G, 2, none⟩ (.string y)) (some R) := grown_over (grownBy_trans hg5 hg6) (Nat.le_of_lt hBG) _
    have hr7 : Psr (w6.setCell ⟨G, 2, none⟩ (.string y)) R text _ := Blk.far hr6 (Nat.ne_of_lt hRG) _
    clear g0 g1 g2 g3 g4 g5 h0 h1 h2 h3 h4 h5 z0 z1 z2 z3 z4 z5 f0 f1 f2 f3 f4 f5 y0 y1 y2 y3 y4 y5
    have hsz : (w6.setCell ⟨G, 2, none⟩ (.string y)).heap.size = w6.heap.size := by simp [World.setCell]
    generalize w6.setCell ⟨G, 2, none⟩ (.string y) = w7 at *
    have Hs7 := Lib.hid hsz; clear hsz
    have hx := Hx.out; clear Hx Hcall
    have hst := pnumber_any R _ text w7 hr7 hm6 hs
    rw [ht6] at hst
    cases hpure : Fo.numT r2 with
    | error ts =>
      rw [hpure, bndErr] at hx
      have Hx := Lib.hid hx; clear hx
      have hcall := hst.mono fun e w' h => h.miss hpure
      have Hcall := Lib.hid hcall; clear hcall hst hpure
      go_wp2_with (go_at_call 34; with_reducible refine (Hcall.out).mono ?_; rintro e w6 ⟨rfl, hg6⟩)
      exact ⟨rfl, RdPost.bad Hx.out (grownBy_trans hg7 hg6)⟩
    | ok p =>
      obtain ⟨nn, r3⟩ := p
      rw [hpure, bndOk, bnd_bnd] at hx
      have hlen7 := Fo.numT_less _ _ _ hpure
      have Hx := Lib.hid hx; clear hx
      have hcall := hst.mono fun e w' h => h.hit hpure
      have Hcall := Lib.hid hcall; clear hcall hst hpure
      go_wp2_with (go_at_call 34; with_reducible refine (Hcall.out).mono ?_; rintro e w8 ⟨v8, m8, rfl, hg8, rfl, hm8, ht8, hr8⟩; have hGa7 := Blk.grown hG7 hg8 (fun e => by injection e with e; omega); have hBa7 := Blk.grown hB7 hg8 (fun e => by injection e with e; omega); obtain ⟨⟨g0, g1, g2, g3, g4, g5⟩, h0, h1, h2, h3, h4, h5⟩ := six_cells hGa7; have hG9 := blk_set1 hGa7 (.int .i64 nn); have hB9 := blk_far hBa7 hne 1 (.int .i64 nn); obtain ⟨⟨y0, y1, y2, y3, y4, y5⟩, -⟩ := six_cells hG9; obtain ⟨⟨z0, z1, z2, z3, z4, z5⟩, f0, f1, f2, f3, f4, f5⟩ := six_cells hB9)
      have hg9 : w.grownBy (w8.setCell ⟨G, 1, none⟩ (.int .i64 nn)) (some R) := grown_over (grownBy_trans hg7 hg8) (Nat.le_of_lt hBG) _
      have hr9 : Psr (w8.setCell ⟨G, 1, none⟩ (.int .i64 nn)) R text _ := Blk.far hr8 (Nat.ne_of_lt hRG) _
      clear g0 g1 g2 g3 g4 g5 h0 h1 h2 h3 h4 h5 z0 z1 z2 z3 z4 z5 f0 f1 f2 f3 f4 f5 y0 y1 y2 y3 y4 y5
      have hsz : (w8.setCell ⟨G, 1, none⟩ (.int .i64 nn)).heap.size = w8.heap.size := by simp [World.setCell]
      generalize w8.setCell ⟨G, 1, none⟩ (.int .i64 nn) = w9 at *
      have Hs9 := Lib.hid hsz; clear hsz
      have hx := Hx.out; clear Hx Hcall
      have hl := lit1 58 w9
      rw [Hs9.out] at hl
      rcases sign_cases 58 (by decide) r3 with ⟨ta, r4, hr', hpure, hkd⟩ | ⟨hpure, hno⟩
      rotate_left
      · rw [hpure, bndErr] at hx
        have Hx := Lib.hid hx; clear hx
        have hcall := take_err R _ text _ _ _ (hr9.alloc (.cells #[.string ⟨#[58]⟩] 9)) hm8 hs hl ht8 hno
        have Hcall := Lib.hid hcall; clear hcall hl hpure hno
        go_wp2_with (go_at_call 25; with_reducible refine (Hcall.out).mono ?_; rintro e w6 ⟨rfl, hb6⟩)
        exact ⟨rfl, RdPost.bad Hx.out (grownBy_trans hg9 (grownBy_trans (World.grownBy_alloc _ _ _) (grownBy_of_below hb6 _)))⟩
      rw [hpure, bndOk, bndOk] at hx
      have hlen9 : r3.length = r4.length + 1 := by rw [hr']; rfl
      have Hx := Lib.hid hx; clear hx
      have htn := ht8
      rw [hr'] at htn
      obtain ⟨hm10, ht10, -⟩ := tok_over hm8 htn
      have hcall := take_ok R _ text _ _ _ (hr9.alloc (.cells #[.string ⟨#[58]⟩] 9)) hm8 hs hl htn ⟨#[58]⟩ hkd (by simp)
      have Hcall := Lib.hid hcall; clear hcall hl hpure htn hr'
      go_wp2_with (go_at_call 25; with_reducible refine (Hcall.out).mono ?_; rintro e w10 ⟨rfl, hr10, hgx10⟩; have hg10 := grownBy_trans (World.grownBy_alloc w9 (.cells #[.string ⟨#[58]⟩] 9) (some R)) hgx10; have hGa9 := Blk.grown hG9 hg10 (fun e => by injection e with e; omega); have hBa9 := Blk.grown hB9 hg10 (fun e => by injection e with e; omega); obtain ⟨⟨g0, g1, g2, g3, g4, g5⟩, h0, h1, h2, h3, h4, h5⟩ := six_cells hGa9; have hG11 := hGa9; have hB11 := hBa9; obtain ⟨⟨z0, z1, z2, z3, z4, z5⟩, f0, f1, f2, f3, f4, f5⟩ := six_cells hB11)
      have hg11 : w.grownBy w10 (some R) := grownBy_trans hg9 hg10
      have hr11 := hr10
      clear g0 g1 g2 g3 g4 g5 h0 h1 h2 h3 h4 h5 z0 z1 z2 z3 z4 z5 f0 f1 f2 f3 f4 f5
      have hx := Hx.out; clear Hx Hcall
      have hst := kids_any R _ text 11 w10 hr11 hm10 hs (Hw.out.grown hg11 hg hRw) hg (Hform.out.less (by rw [ht10]; simp only [List.length_cons]; omega))
      rw [ht10] at hst
      cases hpure : kidsX 11 r4 with
      | error ts =>
        rw [hpure, bndErr] at hx
        have Hx := Lib.hid hx; clear hx
        have hcall := hst.mono fun e w' h => h.miss hpure
        have Hcall := Lib.hid hcall; clear hcall hst hpure
        go_wp2_with (go_at_call 36; with_reducible refine (Hcall.out).mono ?_; rintro e w6 ⟨rfl, hg6⟩)
        exact ⟨rfl, RdPost.bad Hx.out (grownBy_trans hg11 hg6)⟩
      | ok p =>
        obtain ⟨ks, r5⟩ := p
        rw [hpure, bndOk] at hx
        rw [tail_none (k := 11) (by decide), bndOk] at hx
        have Hx := Lib.hid hx; clear hx
        have hcall := hst.mono fun e w' h => h.hit hpure
        have Hcall := Lib.hid hcall; clear hcall hst hpure
        go_wp2_with (go_at_call 36; with_reducible refine (Hcall.out).mono ?_; rintro e w12 ⟨v12, m12, rfl, hg12, hv12, hm12, ht12, hr12⟩; obtain ⟨Q11, q11, e11, rfl⟩ := hv12.form; have hGa11 := Blk.grown hG11 hg12 (fun e => by injection e with e; omega); have hBa11 := Blk.grown hB11 hg12 (fun e => by injection e with e; omega); obtain ⟨⟨g0, g1, g2, g3, g4, g5⟩, h0, h1, h2, h3, h4, h5⟩ := six_cells hGa11; have hG13 := blk_set5 hGa11 (.slice Q11 q11 e11); have hB13 := blk_far hBa11 hne 5 (.slice Q11 q11 e11); obtain ⟨⟨y0, y1, y2, y3, y4, y5⟩, -⟩ := six_cells hG13; obtain ⟨⟨z0, z1, z2, z3, z4, z5⟩, f0, f1, f2, f3, f4, f5⟩ := six_cells hB13)
        have hg13 : w.grownBy (w12.setCell ⟨G, 5, none⟩ (.slice Q11 q11 e11)) (some R) := grown_over (grownBy_trans hg11 hg12) (Nat.le_of_lt hBG) _
        have hr13 : Psr (w12.setCell ⟨G, 5, none⟩ (.slice Q11 q11 e11)) R text _ := Blk.far hr12 (Nat.ne_of_lt hRG) _
        have hks13 := (hv12.lower (show G + 1 ≤ w10.heap.size from Nat.succ_le_of_lt hG11.lt)).setG (i := 5) (u := .slice Q11 q11 e11)
        have hv14 := form_val (k := 11) (a := nn) (nm := y) (by exact hys) Strs.nil Strs.nil (hks13.lower (show w.heap.size + 1 ≤ G + 1 by omega))
        have hx6 := st6_cells (.int .i64 11) (.int .i64 nn) (.string y) (.slice none 0 0) (.slice none 0 0) (.slice Q11 q11 e11) hB13
        have hg8 := st6_grown (.int .i64 11) (.int .i64 nn) (.string y) (.slice none 0 0) (.slice none 0 0) (.slice Q11 q11 e11) hg13 (Nat.le_refl w.heap.size)
        have hp8 : Psr _ R text _ := st6_far (.int .i64 11) (.int .i64 nn) (.string y) (.slice none 0 0) (.slice none 0 0) (.slice Q11 q11 e11) hr13 (show R ≠ w.heap.size by omega)
        have hv8 := st6_val (.int .i64 11) (.int .i64 nn) (.string y) (.slice none 0 0) (.slice none 0 0) (.slice Q11 q11 e11) hv14
        unfold st6 at hx6 hg8 hp8 hv8
        obtain ⟨x0, x1, x2, x3, x4, x5⟩ := hx6
        refine bodyPost_ret (v := .agg #[.int .i64 11, .int .i64 nn, .string y, .slice none 0 0, .slice none 0 0, .slice Q11 q11 e11]) (by simp [results, Tryd.results24, go_sem, x0, x1, x2, x3, x4, x5]) rfl ?_
        exact RdPost.ok Hx.out _ _ hg8 ⟨_, rfl, hv8⟩ hm12 ht12 hp8
  · have hx := Hx.out; clear Hx
    rw [ht, bndErr] at hx
    have Hx := Lib.hid hx; clear hx
    have hcall := take_err R _ text _ _ _ (hr3.alloc (.cells #[.string ⟨#[40]⟩] 9)) ho1 hs hl ho2 hno
    have Hcall := Lib.hid hcall; clear hcall hl ht ho2
    go_wp2_with (go_at_call 25; with_reducible refine (Hcall.out).mono ?_; rintro e w4 ⟨rfl, hb4⟩)
    exact ⟨rfl, RdPost.bad Hx.out (grownBy_trans hg3 (grownBy_trans (World.grownBy_alloc _ _ _) (grownBy_of_below hb4 _)))⟩

end Go.Proofs.YtmnpelhcgobfaaaDoor

/-
  Walks: the method formula of the parser, at every place of every text: it reads what the grammar reads.
-/
namespace Go.Proofs.YtmnpelhcgobfaaaDoor
open Go.RowKit
open Fo (F)

theorem form_step (R : Nat) (text : ByteArray) (hs : text.size ≤ 100000) (hg : 0 < R) (N : Nat) (ih : ∀ M, M < N → FormAt R text M) : FormAt R text N := by
  intro m W hN hm hr hw hR
  cases hts : Fo.toksAt text.toList m with
  | nil => rw [← hts]; exact form_bad R m text W hr hm hs (fun a b r e => by rw [hts] at e; cases e)
  | cons t r =>
    obtain ⟨a, b⟩ := t
    have hf : FormAt R text r.length := ih _ (by rw [hts, List.length_cons] at hN; omega)
    rw [← hts]
    by_cases hb : Sh.nameB b = true
    · exact form_name R m text W hr hm hs hts hb
    by_cases h1 : b = [116, 114, 117, 101]
    · subst h1; exact form_true R m text W hr hm hs hts
    by_cases h2 : b = [102, 97, 108, 115, 101]
    · subst h2; exact form_false R m text W hr hm hs hts
    by_cases h3 : b = [110, 111, 116]
    · subst h3; exact form_not R m text W hr hm hs hw hg hts hf
    by_cases h4 : b = [97, 110, 100]
    · subst h4; exact form_and R m text W hr hm hs hw hg hts hf
    by_cases h5 : b = [111, 114]
    · subst h5; exact form_or R m text W hr hm hs hw hg hts hf
    by_cases h6 : b = [115, 111, 109, 101]
    · subst h6; exact form_some R m text W hr hm hs hw hg hts hf
    by_cases h7 : b = [97, 108, 108]
    · subst h7; exact form_all R m text W hr hm hs hw hg hts hf
    by_cases h8 : b = [108, 102, 112]
    · subst h8; exact form_lfp R m text W hr hm hs hw hg hts hf
    by_cases h9 : b = [112, 102, 112]
    · subst h9; exact form_pfp R m text W hr hm hs hw hg hts hf
    by_cases h10 : b = [116, 99]
    · subst h10; exact form_tc R m text W hr hm hs hw hg hts hf
    by_cases h11 : b = [101, 120, 105, 115, 116, 115]
    · subst h11; exact form_exists R m text W hr hm hs hw hg hts hf
    exact form_bad R m text W hr hm hs (fun a' b' r' e => by
      rw [hts] at e
      injection e with e1 e2
      injection e1 with e1 e3
      subst e3
      exact ⟨by simpa using hb, h1, h2, by unfold Fo.wordK; rw [if_neg h3, if_neg h4, if_neg h5, if_neg h6, if_neg h7, if_neg h8, if_neg h9, if_neg h10, if_neg h11]⟩)
/-- The method formula reads what the grammar reads. -/
theorem formula_any (R : Nat) (text : ByteArray) (hs : text.size ≤ 100000) (hg : 0 < R) : ∀ N, FormAt R text N := fun N =>
  Nat.strongRecOn N fun N ih => form_step R text hs hg N ih

end Go.Proofs.YtmnpelhcgobfaaaDoor

/-
  Walks: formula.Parse's deferred literal: it catches 'stuck', and lies idle else.
-/
namespace Go.Proofs.YtmnpelhcgobfaaaDoor
open Go.RowKit

theorem ta_yes (i : Int) (w : World) : (Instr.typeAssert (.iface 55 (.int .i64 i)) 20 55 true).run Tryd.prog w = .ok (.tuple #[.int .i64 i, .bool true]) w := by kernel_rfl
theorem ta_no (w : World) : (Instr.typeAssert .nilIface 20 55 true).run Tryd.prog w = .ok (.tuple #[.int .i64 0, .bool false]) w := by kernel_rfl

set_option maxRecDepth 100000 in
set_option maxHeartbeats 1000000 in
theorem catch_stuck (a b c : Nat) (i : Nat) (x0 x1 x2 x3 x4 x5 y z : Value) (older : List PanicEntry) (w : World)
    (h0 : w.cell? ⟨a, 0, none⟩ = some x0) (h1 : w.cell? ⟨a, 1, none⟩ = some x1) (h2 : w.cell? ⟨a, 2, none⟩ = some x2) (h3 : w.cell? ⟨a, 3, none⟩ = some x3) (h4 : w.cell? ⟨a, 4, none⟩ = some x4) (h5 : w.cell? ⟨a, 5, none⟩ = some x5)
    (h6 : w.cell? ⟨b, 0, none⟩ = some y) (h7 : w.cell? ⟨c, 0, none⟩ = some z)
    (f0 : w.frozen? ⟨a, 0, none⟩ = false) (f1 : w.frozen? ⟨a, 1, none⟩ = false) (f2 : w.frozen? ⟨a, 2, none⟩ = false) (f3 : w.frozen? ⟨a, 3, none⟩ = false) (f4 : w.frozen? ⟨a, 4, none⟩ = false) (f5 : w.frozen? ⟨a, 5, none⟩ = false)
    (f6 : w.frozen? ⟨b, 0, none⟩ = false) (f7 : w.frozen? ⟨c, 0, none⟩ = false) (hab : a ≠ b) (hac : a ≠ c) (hbc : b ≠ c) :
    CallsD Tryd.prog 23 #[.pointer (some ⟨a, 0, none⟩), .pointer (some ⟨b, 0, none⟩), .pointer (some ⟨c, 0, none⟩)] (.panicking ({ v := .iface 55 (.int .i64 i), recovered := false } :: older)) w fun e u' w' =>
      e = .returned (.tuple #[]) ∧ u' = .panicking ({ v := .iface 55 (.int .i64 i), recovered := true } :: older) ∧
      w' = ((st6 w a (.int .i64 0) (.int .i64 0) (.string ⟨#[]⟩) (.slice none 0 0) (.slice none 0 0) (.slice none 0 0)).setCell ⟨b, 0, none⟩ (.int .i64 i)).setCell ⟨c, 0, none⟩ (.int .i64 3) := by
  refine callsD_of_wpS Tryd.func23 rfl fun c₀ cs hu => ?_
  apply wpS_seq
  apply wpS_region
  simp [wpOpsS, go_sem, recoverD, hu, Tryd.ntmps23, Exit.thenS, ta_yes]
  apply wpS_seq
  apply wpS_region
  simp [wpOpsS, go_sem, Exit.thenS]
  refine wpS_cond (t := true) (by simp [Act.eval, Array.replicate]) ?_
  simp only [if_true]
  apply wpS_region
  simp [wpOpsS, go_sem, h0, h1, h2, h3, h4, h5, h6, h7, f0, f1, f2, f3, f4, f5, f6, f7, bodyPostS, results, Tryd.results23, st6]

set_option maxRecDepth 100000 in
theorem catch_idle (a b c : Nat) (w : World) :
    CallsD Tryd.prog 23 #[.pointer (some ⟨a, 0, none⟩), .pointer (some ⟨b, 0, none⟩), .pointer (some ⟨c, 0, none⟩)] .returning w fun e u' w' => e = .returned (.tuple #[]) ∧ u' = .returning ∧ w' = w := by
  refine callsD_of_wpS Tryd.func23 rfl fun c₀ cs hu => ?_
  apply wpS_seq
  apply wpS_region
  simp [wpOpsS, go_sem, recoverD, hu, Tryd.ntmps23, Exit.thenS, ta_no]
  apply wpS_seq
  apply wpS_region
  simp [wpOpsS, go_sem, Exit.thenS]
  refine wpS_cond (t := false) (by simp [Act.eval, Array.replicate]) ?_
  simp only [Bool.false_eq_true, if_false]
  refine wpS_of_wp (wp_skip ?_)
  cases c₀
  simp_all [bodyPostS, results, Tryd.results23]

end Go.Proofs.YtmnpelhcgobfaaaDoor

/-
  DERIVED: THE SHELF's CONTRACTS AT THIS DUMP, IN PLAIN WORDS (tools/lay-plain.mjs out of 'TrydIter.lean', which tools/lay-shelf.mjs wrote): THE SAME DECLARATIONS UNDER THE SAME NAMES: 'import', 'namespace', 'open', 'def', 'theorem' AND NOTHING ELSE: no command of the shelf's: FOR A HAND-IN. Each laying: the table of numbers ('.._ren') and one theorem, a field a fact of the dump's own or the kernel's comparison; each contract: ONE APPLICATION.
-/
namespace Go.Proofs
open Go.Shelf
def Tryd.sort41_ren : Go.Shelf.Ren := ⟨fun | 6 => 41 | 8 => 55 | 9 => 54 | 19 => 77 | 20 => 78 | 21 => 68 | 22 => 69 | 23 => 70 | 24 => 71 | 25 => 72 | 26 => 73 | 27 => 74 | 28 => 75 | 29 => 76 | 36 => 84 | 31 => 85 | 32 => 86 | 37 => 87 | 38 => 88 | 39 => 89 | 41 => 94 | n => n, fun | 27 => 28 | 29 => 9 | 3 => 3 | 32 => 106 | 26 => 28 | 0 => 0 | 44 => 122 | 46 => 124 | 4 => 4 | 36 => 115 | 35 => 114 | 41 => 119 | 5 => 5 | 9 => 9 | 53 => 131 | 57 => 135 | 63 => 143 | 64 => 144 | n => n, fun | n => n⟩
theorem Tryd.sort41 : Go.Proofs.SlLaysM.n6 Tryd.prog Tryd.sort41_ren := {
  mixed := by kernel_rfl
  f6 := ⟨Tryd.f41.name, by decide, Tryd.func41.trans (congrArg some (by kernel_rfl))⟩
  f8 := Tryd.func55.trans (congrArg some (by kernel_rfl))
  f9 := ⟨Tryd.f54.name, by decide, Tryd.func54.trans (congrArg some (by kernel_rfl))⟩
  f19 := Tryd.func77.trans (congrArg some (by kernel_rfl))
  f20 := Tryd.func78.trans (congrArg some (by kernel_rfl))
  f21 := ⟨Tryd.f68.name, by decide, Tryd.func68.trans (congrArg some (by kernel_rfl))⟩
  f22 := ⟨Tryd.f69.name, by decide, Tryd.func69.trans (congrArg some (by kernel_rfl))⟩
  f23 := ⟨Tryd.f70.name, by decide, Tryd.func70.trans (congrArg some (by kernel_rfl))⟩
  f24 := ⟨Tryd.f71.name, by decide, Tryd.func71.trans (congrArg some (by kernel_rfl))⟩
  f25 := ⟨Tryd.f72.name, by decide, Tryd.func72.trans (congrArg some (by kernel_rfl))⟩
  f26 := ⟨Tryd.f73.name, by decide, Tryd.func73.trans (congrArg some (by kernel_rfl))⟩
  f27 := ⟨Tryd.f74.name, by decide, Tryd.func74.trans (congrArg some (by kernel_rfl))⟩
  f28 := ⟨Tryd.f75.name, by decide, Tryd.func75.trans (congrArg some (by kernel_rfl))⟩
  f29 := ⟨Tryd.f76.name, by decide, Tryd.func76.trans (congrArg some (by kernel_rfl))⟩
  f31 := Tryd.func85.trans (congrArg some (by kernel_rfl))
  f32 := Tryd.func86.trans (congrArg some (by kernel_rfl))
  f36 := ⟨Tryd.f84.name, by decide, Tryd.func84.trans (congrArg some (by kernel_rfl))⟩
  f37 := ⟨Tryd.f87.name, by decide, Tryd.func87.trans (congrArg some (by kernel_rfl))⟩
  f38 := ⟨Tryd.f88.name, by decide, Tryd.func88.trans (congrArg some (by kernel_rfl))⟩
  f39 := ⟨Tryd.f89.name, by decide, Tryd.func89.trans (congrArg some (by kernel_rfl))⟩
  f41 := ⟨Tryd.f94.name, by decide, Tryd.func94.trans (congrArg some (by kernel_rfl))⟩
  t0 := Tryd.underlying0
  a0 := Tryd.isAgg0
  z0 := Tryd.sizeOf0
  v0 := Tryd.zeroValue0
  t3 := Tryd.underlying3
  a3 := Tryd.isAgg3
  z3 := Tryd.sizeOf3
  v3 := Tryd.zeroValue3
  t4 := Tryd.underlying4
  a4 := Tryd.isAgg4
  z4 := Tryd.sizeOf4
  v4 := Tryd.zeroValue4
  t5 := Tryd.underlying5
  a5 := Tryd.isAgg5
  z5 := Tryd.sizeOf5
  v5 := Tryd.zeroValue5
  t9 := Tryd.underlying9
  a9 := Tryd.isAgg9
  z9 := Tryd.sizeOf9
  v9 := Tryd.zeroValue9
  t26 := Tryd.underlying28
  a26 := Tryd.isAgg28
  z26 := Tryd.sizeOf28
  v26 := Tryd.zeroValue28
  t27 := Tryd.underlying28
  a27 := Tryd.isAgg28
  z27 := Tryd.sizeOf28
  v27 := Tryd.zeroValue28
  t29 := Tryd.underlying9
  a29 := Tryd.isAgg9
  z29 := Tryd.sizeOf9
  v29 := Tryd.zeroValue9
  t32 := Tryd.underlying106
  a32 := Tryd.isAgg106
  z32 := Tryd.sizeOf106
  v32 := Tryd.zeroValue106
  t35 := Tryd.underlying114
  a35 := Tryd.isAgg114
  z35 := Tryd.sizeOf114
  v35 := Tryd.zeroValue114
  t36 := Tryd.underlying115
  a36 := Tryd.isAgg115
  z36 := Tryd.sizeOf115
  v36 := Tryd.zeroValue115
  t41 := Tryd.underlying119
  a41 := Tryd.isAgg119
  z41 := Tryd.sizeOf119
  v41 := Tryd.zeroValue119
  t44 := Tryd.underlying122
  a44 := Tryd.isAgg122
  z44 := Tryd.sizeOf122
  v44 := Tryd.zeroValue122
  t46 := Tryd.underlying124
  a46 := Tryd.isAgg124
  z46 := Tryd.sizeOf124
  v46 := Tryd.zeroValue124
  t53 := Tryd.underlying131
  a53 := Tryd.isAgg131
  z53 := Tryd.sizeOf131
  v53 := Tryd.zeroValue131
  t57 := Tryd.underlying135
  a57 := Tryd.isAgg135
  z57 := Tryd.sizeOf135
  v57 := Tryd.zeroValue135
  t63 := Tryd.underlying143
  a63 := Tryd.isAgg143
  z63 := Tryd.sizeOf143
  v63 := Tryd.zeroValue143
  t64 := Tryd.underlying144
  a64 := Tryd.isAgg144
  z64 := Tryd.sizeOf144
  v64 := Tryd.zeroValue144 }
def Tryd.sorted28_ren : Go.Shelf.Ren := ⟨fun | 6 => 28 | 8 => 40 | 9 => 41 | 11 => 53 | 13 => 55 | 12 => 54 | 23 => 77 | 24 => 78 | 14 => 68 | 15 => 69 | 16 => 70 | 17 => 71 | 18 => 72 | 19 => 73 | 20 => 74 | 21 => 75 | 22 => 76 | 25 => 84 | 26 => 85 | 27 => 86 | 28 => 87 | 29 => 88 | 30 => 89 | 31 => 94 | n => n, fun | 26 => 9 | 28 => 70 | 24 => 28 | 0 => 0 | 3 => 3 | 37 => 106 | 48 => 122 | 50 => 124 | 4 => 4 | 40 => 115 | 39 => 114 | 45 => 119 | 5 => 5 | 9 => 9 | 51 => 131 | 55 => 135 | 57 => 143 | 58 => 144 | 33 => 93 | n => n, fun | n => n⟩
theorem Tryd.sorted28 : Go.Proofs.SlLaysZ.n6 Tryd.prog Tryd.sorted28_ren := {
  mixed := by kernel_rfl
  f6 := ⟨Tryd.f28.name, by decide, Tryd.func28.trans (congrArg some (by kernel_rfl))⟩
  f8 := ⟨Tryd.f40.name, by decide, Tryd.func40.trans (congrArg some (by kernel_rfl))⟩
  f11 := ⟨Tryd.f53.name, by decide, Tryd.func53.trans (congrArg some (by kernel_rfl))⟩
  t0 := Tryd.underlying0
  a0 := Tryd.isAgg0
  z0 := Tryd.sizeOf0
  v0 := Tryd.zeroValue0
  t24 := Tryd.underlying28
  a24 := Tryd.isAgg28
  z24 := Tryd.sizeOf28
  v24 := Tryd.zeroValue28
  t26 := Tryd.underlying9
  a26 := Tryd.isAgg9
  z26 := Tryd.sizeOf9
  v26 := Tryd.zeroValue9
  t28 := Tryd.underlying70
  a28 := Tryd.isAgg70
  z28 := Tryd.sizeOf70
  v28 := Tryd.zeroValue70
  i26 := by kernel_rfl }
def Tryd.keys29_ren : Go.Shelf.Ren := ⟨fun | 7 => 29 | 10 => 42 | n => n, fun | 23 => 72 | 26 => 9 | 3 => 4 | 28 => 70 | 0 => 0 | 27 => 69 | 33 => 93 | 4 => 4 | n => n, fun | n => n⟩
theorem Tryd.keys29 : Go.Proofs.SlLaysZ.n7 Tryd.prog Tryd.keys29_ren := {
  mixed := by kernel_rfl
  f7 := ⟨Tryd.f29.name, by decide, Tryd.func29.trans (congrArg some (by kernel_rfl))⟩
  f10 := ⟨Tryd.f42.name, by decide, Tryd.func42.trans (congrArg some (by kernel_rfl))⟩
  t0 := Tryd.underlying0
  a0 := Tryd.isAgg0
  z0 := Tryd.sizeOf0
  v0 := Tryd.zeroValue0
  t4 := Tryd.underlying4
  a4 := Tryd.isAgg4
  z4 := Tryd.sizeOf4
  v4 := Tryd.zeroValue4
  t23 := Tryd.underlying72
  a23 := Tryd.isAgg72
  z23 := Tryd.sizeOf72
  v23 := Tryd.zeroValue72
  t26 := Tryd.underlying9
  a26 := Tryd.isAgg9
  z26 := Tryd.sizeOf9
  v26 := Tryd.zeroValue9
  t27 := Tryd.underlying69
  a27 := Tryd.isAgg69
  z27 := Tryd.sizeOf69
  v27 := Tryd.zeroValue69
  t28 := Tryd.underlying70
  a28 := Tryd.isAgg70
  z28 := Tryd.sizeOf70
  v28 := Tryd.zeroValue70
  t33 := Tryd.underlying93
  a33 := Tryd.isAgg93
  z33 := Tryd.sizeOf93
  v33 := Tryd.zeroValue93 }
def Tryd.keys30_ren : Go.Shelf.Ren := ⟨fun | 7 => 30 | 10 => 43 | n => n, fun | 23 => 73 | 26 => 9 | 3 => 82 | 28 => 70 | 0 => 0 | 27 => 69 | 33 => 93 | 4 => 4 | n => n, fun | n => n⟩
theorem Tryd.keys30 : Go.Proofs.SlLaysZ.n7 Tryd.prog Tryd.keys30_ren := {
  mixed := by kernel_rfl
  f7 := ⟨Tryd.f30.name, by decide, Tryd.func30.trans (congrArg some (by kernel_rfl))⟩
  f10 := ⟨Tryd.f43.name, by decide, Tryd.func43.trans (congrArg some (by kernel_rfl))⟩
  t0 := Tryd.underlying0
  a0 := Tryd.isAgg0
  z0 := Tryd.sizeOf0
  v0 := Tryd.zeroValue0
  t4 := Tryd.underlying4
  a4 := Tryd.isAgg4
  z4 := Tryd.sizeOf4
  v4 := Tryd.zeroValue4
  t23 := Tryd.underlying73
  a23 := Tryd.isAgg73
  z23 := Tryd.sizeOf73
  v23 := Tryd.zeroValue73
  t26 := Tryd.underlying9
  a26 := Tryd.isAgg9
  z26 := Tryd.sizeOf9
  v26 := Tryd.zeroValue9
  t27 := Tryd.underlying69
  a27 := Tryd.isAgg69
  z27 := Tryd.sizeOf69
  v27 := Tryd.zeroValue69
  t28 := Tryd.underlying70
  a28 := Tryd.isAgg70
  z28 := Tryd.sizeOf70
  v28 := Tryd.zeroValue70
  t33 := Tryd.underlying93
  a33 := Tryd.isAgg93
  z33 := Tryd.sizeOf93
  v33 := Tryd.zeroValue93 }
end Go.Proofs

/-
  Words for memory: a map with strings for keys, whose elements are known as values.
-/
namespace Go.Proofs.YtmnpelhcgobfaaaDoor
open Go.RowKit Go.Maps

/-- An element reads as itself. -/
def anyV (v : Value) : Option (DataW Value × List MemPlace) := some (.held v, [])

/-- Block b is a map of at most n entries that holds g. -/
def MapV (w : World) (b n : Nat) (g : ByteArray → Option Value) : Prop :=
  ∃ D : DataW Value, w.ownsMap Tryd.prog 9 anyV b n D ∧ ∀ s : ByteArray, s.size ≤ maxLen → has D (.string s.data.toList) = (g s).isSome ∧ ∀ v, g s = some v → ∀ z, D.atKey (.string s.data.toList) z = .held v

/-- g, but at s. -/
def putG (g : ByteArray → Option Value) (s : ByteArray) (v : Value) : ByteArray → Option Value := fun x => if x = s then some v else g x

theorem strKeyed : Keyed Tryd.prog 9 := string_keyed Tryd.underlying9
theorem strKey (s : ByteArray) (hs : s.size ≤ maxLen) : keyOf Tryd.prog 9 (.string s) = some (.string s.data.toList) := WideMaps.keyOf_string_mk Tryd.underlying9 hs
theorem lit_string_inj {s t : ByteArray} (h : Lit.string s.data.toList = Lit.string t.data.toList) : s = t := by
  injection h with h
  exact ByteArray.ext (Array.ext' h)

section
variable {w w' : World} {b n : Nat} {g : ByteArray → Option Value}
theorem MapV.lt (h : MapV w b n g) : b < w.heap.size := let ⟨_, h, _⟩ := h; h.lt
theorem MapV.mono (h : MapV w b n g) {n' : Nat} (hn : n ≤ n') : MapV w b n' g := let ⟨D, h, k⟩ := h; ⟨D, h.mono hn, k⟩
theorem MapV.kept {row : Option Nat} (h : MapV w b n g) (hg : w.grownBy w' row) (hr : some b ≠ row) : MapV w' b n g := let ⟨D, h, k⟩ := h; ⟨D, h.kept hg hr, k⟩
theorem MapV.alloc (h : MapV w b n g) (o : Obj) : MapV (w.alloc o) b n g := let ⟨D, h, k⟩ := h; ⟨D, h.alloc o, k⟩
theorem MapV.drewN (h : MapV w b n g) (m : Nat) : MapV (w.drewN m) b n g := h
theorem MapV.block (h : MapV w b n g) (hb : w'.heap[b]? = w.heap[b]?) : MapV w' b n g := by
  obtain ⟨D, ⟨es, clock, h1, h2⟩, k⟩ := h
  exact ⟨D, ⟨es, clock, hb.trans h1, h2⟩, k⟩
theorem MapV.below {B : Nat} (h : MapV w b n g) (hb : Below B w w') (hB : b < B) : MapV w' b n g := h.block (hb.block b hB)
theorem MapV.far (h : MapV w b n g) {p : Addr} (hp : b ≠ p.block) (u : Value) : MapV (w.setCell p u) b n g := h.block (Below.heap_setCell w p u b hp)
theorem MapV.made (w : World) : MapV (w.alloc (.map #[] 0)) w.heap.size 0 (fun _ => none) := ⟨_, World.ownsMap_made w _ _ _, fun s _ => ⟨rfl, fun v hv => by cases hv⟩⟩
theorem MapV.not_cells {cs : Array Value} {t : TypeId} {f : Nat × Nat} {c : Nat} (h : MapV w b n g) (hc : w.heap[c]? = some (.cells cs t f)) : b ≠ c := by
  rintro rfl
  obtain ⟨D, ⟨es, clock, h1, -⟩, -⟩ := h
  rw [h1] at hc; cases hc

/-- What a look-up gives. -/
def lookG (g : ByteArray → Option Value) (z : Value) (s : ByteArray) : Value := (g s).getD z

theorem MapV.look {t e : TypeId} {z : Value} (h : MapV w b n g) (ht : Tryd.prog.underlying t = some (.map 9 e)) (hz : (zeroValue e).run Tryd.prog w = .ok z w) (s : ByteArray) (hs : s.size ≤ maxLen) (c : Bool) :
    (Instr.lookup t (.map (some b)) (.string s) c).run Tryd.prog w = .ok (if c then .tuple #[lookG g z s, .bool (g s).isSome] else lookG g z s) w := by
  obtain ⟨D, ⟨es, clock, hb, F, hsz, rfl⟩, hk⟩ := h
  obtain ⟨h1, h2⟩ := hk s hs
  rcases fit_look c strKeyed ht hz hb F (strKey s hs) with ⟨hr, _, ha⟩ | ⟨e0, y, _, _, hr, hR, ha, _⟩
  · rw [has_false_of_atKey ha] at h1
    have hg : g s = none := by
      cases hg : g s with
      | none => rfl
      | some v => rw [hg] at h1; cases h1
    rw [hr]
    unfold lookG
    rw [hg]
    rfl
  · rw [has_true_of_atKey ha] at h1
    obtain ⟨v, hg⟩ : ∃ v, g s = some v := by
      cases hg : g s with
      | none => rw [hg] at h1; cases h1
      | some v => exact ⟨v, rfl⟩
    have e1 := h2 v hg .nil
    rw [ha] at e1
    unfold anyV at hR
    have hR := Option.some.inj hR
    rw [← hR] at e1
    have e2 : (DataW.held e0.val : DataW Value) = .held v := e1
    have e3 := DataW.held.inj e2
    rw [hr]
    unfold lookG
    rw [hg, e3]
    rfl

theorem MapV.put {t e : TypeId} (h : MapV w b n g) (ht : Tryd.prog.underlying t = some (.map 9 e)) (hn : n < maxLen) (s : ByteArray) (hs : s.size ≤ maxLen) (v : Value) :
    ∃ w', (Instr.mapUpdate t (.map (some b)) (.string s) v).run Tryd.prog w = .ok () w' ∧ MapV w' b (n + 1) (putG g s v) ∧ w.grownBy w' (some b) := by
  obtain ⟨D, h, hk⟩ := h
  obtain ⟨w', h1, h2, h3⟩ := h.update strKeyed ht hn (strKey s hs) (R := anyV) (val := v) (d := .held v) (ps := []) rfl
  refine ⟨w', h1, ⟨_, h2, fun x hx => ?_⟩, h3⟩
  have hm : IsMap D := let ⟨_, _, _, _, _, e⟩ := h; ⟨_, e⟩
  have hkl : WideAt.IsKeyLit (.string s.data.toList) := strKeyed.key (strKey s hs)
  by_cases hxs : x = s
  · subst hxs
    unfold putG
    rw [if_pos rfl, has_put_same hm hkl]
    refine ⟨rfl, fun v' hv' z => ?_⟩
    rw [atKey_put_same hm hkl, Option.some.inj hv']
  · have hne : Lit.string x.data.toList ≠ Lit.string s.data.toList := fun e => hxs (lit_string_inj e)
    unfold putG
    rw [if_neg hxs, has_put_other hne]
    refine ⟨(hk x hx).1, fun v' hv' z => ?_⟩
    rw [atKey_put_other hne]
    exact (hk x hx).2 v' hv' z
end

/-- A store into a map, at the operation. -/
theorem wpList_put (w : World) {ops : Array Oper} {rest : List Oper} {o : Oper} {a : Act} {Q : Exit → Act → World → Prop}
    (hgd : o.guard = none) (m x v : Operand) (t e : TypeId) (hop : o.op = Op.mapUpdate t m x v) (ht : Tryd.prog.underlying t = some (.map 9 e)) (b n : Nat) (g : ByteArray → Option Value)
    (hm : a.eval m = .map (some b)) (h : MapV w b n g) (hn : n < maxLen) (s : ByteArray) (val : Value) (hx : a.eval x = .string s) (hv : a.eval v = val) (hs : s.size ≤ maxLen)
    (hK : ∀ w', MapV w' b (n + 1) (putG g s val) → w.grownBy w' (some b) → wpList Tryd.prog ops Q rest (a.put o.dst undef) w') :
    wpList Tryd.prog ops Q (o :: rest) a w := by
  refine wpList_plain hgd fun K' hK' => ?_
  obtain ⟨w', hrun, r1, r2⟩ := h.put ht hn s hs val
  unfold Oper.wp
  simp [execOp, hop, hm, hx, hv, hrun, Result.andThen]
  exact hK' _ _ (hK w' r1 r2)

/-- The keys of such a map. -/
theorem MapV.keys {w : World} {b n : Nat} {g : ByteArray → Option Value} (h : MapV w b n g) : ∃ D : DataW Value, w.ownsMap Tryd.prog 9 anyV b n D ∧ (strKeys D).Nodup ∧ Maps.size D ≤ n ∧ ∀ l : List UInt8, l ∈ strKeys D ↔ l.length ≤ maxLen ∧ (g ⟨⟨l⟩⟩).isSome = true := by
  obtain ⟨D, h, hk⟩ := h
  refine ⟨D, h, ?_⟩
  obtain ⟨es, rfl, hko⟩ := h.keysOf
  obtain ⟨es', e', hp, hkl⟩ := h.canon strKeyed
  injection e' with e'
  subst e'
  have hstr : ∀ p ∈ es, ∃ x : List UInt8, p.1 = .string x ∧ x.length ≤ maxLen := fun p hp => by
    obtain ⟨v, hv⟩ := hko p hp
    obtain ⟨x, -, h2, h3⟩ := keyOf_str Tryd.underlying9 hv
    exact ⟨x, h2, h3⟩
  refine ⟨?_, ?_, fun l => ?_⟩
  · refine List.pairwise_map.2 (hp.imp_of_mem fun {p q} hp' hq' hb e => ?_)
    obtain ⟨x, hx, -⟩ := hstr p hp'
    obtain ⟨y, hy, -⟩ := hstr q hq'
    rw [hx, hy] at hb
    rw [hx, hy] at e
    simp only [strOf] at e
    rw [e, WideShapes.before_irrefl] at hb
    cases hb
  · obtain ⟨es0, clock, _, F, hn, e⟩ := h
    injection e with e
    rw [Maps.size_eq, e, Go.length_sorted, List.length_map]
    simpa using hn
  · constructor
    · intro hl
      obtain ⟨p, hp', rfl⟩ := List.mem_map.1 hl
      obtain ⟨x, hx, hxl⟩ := hstr p hp'
      have hh := (hk ⟨⟨x⟩⟩ (by simpa [ByteArray.size] using hxl)).1
      rw [hx]
      simp only [strOf]
      refine ⟨hxl, hh.symm.trans ?_⟩
      rw [has_eq, List.any_eq_true]
      exact ⟨p, hp', by rw [hx]; exact WideAt.sameKey_self (by rw [← hx]; exact hkl p hp')⟩
    · rintro ⟨hl, hg⟩
      have hh := (hk ⟨⟨l⟩⟩ (by simpa [ByteArray.size] using hl)).1
      rw [hg, has_eq, List.any_eq_true] at hh
      obtain ⟨p, hp', hs⟩ := hh
      refine List.mem_map.2 ⟨p, hp', ?_⟩
      rw [WideAt.sameKey_eq hs]
      rfl

end Go.Proofs.YtmnpelhcgobfaaaDoor

/-
  Words for memory: the survey that a walk through a formula keeps: its box, four maps, the stacks of bindings.
-/
namespace Go.Proofs.YtmnpelhcgobfaaaDoor
open Go.RowKit
open Fo (Bd St F getM updM)

/-- How often x stands in l. -/
def cnt (x : ByteArray) (l : List ByteArray) : Nat := (l.filter fun y => decide (y = x)).length
theorem cnt_zero {x : ByteArray} {l : List ByteArray} : cnt x l = 0 ↔ x ∉ l := by
  unfold cnt
  rw [List.length_eq_zero_iff, List.filter_eq_nil_iff]
  constructor
  · intro h hx; exact h x hx (by simp)
  · intro h a ha e
    rw [decide_eq_true_eq] at e
    exact h (e ▸ ha)
theorem cnt_cons (x y : ByteArray) (l : List ByteArray) : cnt x (y :: l) = cnt x l + if y = x then 1 else 0 := by
  unfold cnt
  by_cases h : y = x
  · rw [if_pos h, List.filter_cons_of_pos (by simpa using h)]; rfl
  · rw [if_neg h, List.filter_cons_of_neg (by simpa using h)]; rfl

def bdCells (b : Bd ByteArray) : List Value := [.int .i64 (b.nots : Nat), .int .i64 (b.pfps : Nat), .int .i64 b.arity, .bool b.pos]
def bdOf (x : ByteArray) (bd : List (Bd ByteArray)) : List (Bd ByteArray) := bd.filter fun b => decide (b.name = x)
/-- The bindings of a name, the outermost first. -/
def stk (x : ByteArray) (bd : List (Bd ByteArray)) : List Value := (bdOf x bd).reverse.flatMap bdCells
def symG (sy : List (ByteArray × (Int × Bool))) (x : ByteArray) : Option Value := (getM x sy).map fun u => .agg #[.int .i64 u.1, .bool u.2]
def freG (fr : List ByteArray) (x : ByteArray) : Option Value := if x ∈ fr then some (.bool true) else none

theorem symG_put (sy : List (ByteArray × (Int × Bool))) (n : ByteArray) (u : Int × Bool) : putG (symG sy) n (.agg #[.int .i64 u.1, .bool u.2]) = symG (updM n u sy) := by
  funext x
  unfold putG symG
  rw [Fo.getM_updM]
  by_cases h : x = n
  · subst h; simp
  · have h' : ¬ n = x := fun e => h e.symm
    rw [if_neg h, if_neg h']
theorem freG_put (fr : List ByteArray) (n : ByteArray) : putG (freG fr) n (.bool true) = freG (if n ∈ fr then fr else fr ++ [n]) := by
  funext x
  unfold putG freG
  by_cases h : x = n
  · subst h
    rw [if_pos rfl, if_pos]
    split
    · assumption
    · simp
  · rw [if_neg h]
    by_cases hn : n ∈ fr
    · rw [if_pos hn]
    · rw [if_neg hn]
      simp [h]

theorem bdOf_head (x : ByteArray) : ∀ bd : List (Bd ByteArray), Fo.findBd x bd = (bdOf x bd).head?
  | [] => rfl
  | b :: l => by
    unfold Fo.findBd bdOf
    by_cases h : b.name = x
    · rw [if_pos h, List.filter_cons_of_pos (by simpa using h), List.head?_cons]
    · rw [if_neg h, List.filter_cons_of_neg (by simpa using h)]
      exact bdOf_head x l
theorem bdOf_cons_same {x : ByteArray} {b : Bd ByteArray} (h : b.name = x) (bd : List (Bd ByteArray)) : bdOf x (b :: bd) = b :: bdOf x bd := List.filter_cons_of_pos (by simpa using h)
theorem bdOf_cons_other {x : ByteArray} {b : Bd ByteArray} (h : b.name ≠ x) (bd : List (Bd ByteArray)) : bdOf x (b :: bd) = bdOf x bd := List.filter_cons_of_neg (by simpa using h)
theorem stk_cons_same {x : ByteArray} {b : Bd ByteArray} (h : b.name = x) (bd : List (Bd ByteArray)) : stk x (b :: bd) = stk x bd ++ bdCells b := by
  unfold stk
  rw [bdOf_cons_same h, List.reverse_cons, List.flatMap_append]
  simp
theorem stk_cons_other {x : ByteArray} {b : Bd ByteArray} (h : b.name ≠ x) (bd : List (Bd ByteArray)) : stk x (b :: bd) = stk x bd := by unfold stk; rw [bdOf_cons_other h]

/-- Block m is the map of the bindings around: for each name its stack, a row of its own. -/
def Bnd (w : World) (L m n : Nat) (bd : List (Bd ByteArray)) : Prop :=
  ∃ g, MapV w m n g ∧ (∀ x, g x = none → bdOf x bd = []) ∧ (∀ x v, g x = some v → w.ownsRow L 111 4 v (bdOf x bd).length (stk x bd)) ∧
    (∀ x y v u b, x ≠ y → g x = some v → g y = some u → v.ownBlock = some b → u.ownBlock ≠ some b)
/-- Block m counts the variables around. -/
def VarM (w : World) (m n : Nat) (vs : List ByteArray) : Prop := ∃ g, MapV w m n g ∧ ∀ x, lookG g (.int .i64 0) x = .int .i64 ((cnt x vs : Nat) : Int)

section
variable {w w' : World} {L m n : Nat} {bd : List (Bd ByteArray)} {vs : List ByteArray}
theorem Bnd.lt (h : Bnd w L m n bd) : m < w.heap.size := let ⟨_, h, _⟩ := h; h.lt
theorem VarM.lt (h : VarM w m n vs) : m < w.heap.size := let ⟨_, h, _⟩ := h; h.lt
theorem VarM.kept {row : Option Nat} (h : VarM w m n vs) (hg : w.grownBy w' row) (hr : some m ≠ row) : VarM w' m n vs := let ⟨g, h, k⟩ := h; ⟨g, h.kept hg hr, k⟩
theorem VarM.mono (h : VarM w m n vs) {n' : Nat} (hn : n ≤ n') : VarM w m n' vs := let ⟨g, h, k⟩ := h; ⟨g, h.mono hn, k⟩
theorem Bnd.mono (h : Bnd w L m n bd) {n' : Nat} (hn : n ≤ n') : Bnd w L m n' bd := let ⟨g, h, k⟩ := h; ⟨g, h.mono hn, k⟩
theorem own_block {base n size : Nat} {e : TypeId} {v : Value} {xs : List Value} (h : w.ownsRow base e size v n xs) {b : Nat} (hb : v.ownBlock = some b) : base ≤ b ∧ ∃ cs, w.heap[b]? = some (.cells cs e (0, 0)) := by
  rcases h.2 with ⟨rfl, _⟩ | ⟨g, cap, cur, rfl, h1, h2, _⟩
  · cases hb
  · injection hb with hb
    subst hb
    exact ⟨h1, _, h2⟩
theorem Bnd.kept {row : Option Nat} (h : Bnd w L m n bd) (hg : w.grownBy w' row) (hr : some m ≠ row) (hc : ∀ k cs, row = some k → w.heap[k]? ≠ some (.cells cs 111 (0, 0))) : Bnd w' L m n bd := by
  obtain ⟨g, h1, h2, h3, h4⟩ := h
  refine ⟨g, h1.kept hg hr, h2, fun x v hx => (h3 x v hx).kept hg ?_, h4⟩
  cases hb : v.ownBlock with
  | none => exact .inl rfl
  | some b =>
    obtain ⟨-, cs, hcs⟩ := own_block (h3 x v hx) hb
    exact .inr fun e => hc b cs e.symm hcs
/-- The stack of a name. -/
theorem Bnd.row (h : Bnd w L m n bd) : ∃ g, MapV w m n g ∧ ∀ x, w.ownsRow L 111 4 (lookG g (.slice none 0 0) x) (bdOf x bd).length (stk x bd) := by
  obtain ⟨g, h1, h2, h3, h4⟩ := h
  refine ⟨g, h1, fun x => ?_⟩
  unfold lookG
  cases hg : g x with
  | none => simp only [Option.getD_none]; unfold stk; rw [h2 x hg]; exact World.ownsRow_nil _ _ _ _
  | some v => exact h3 x v hg
end

/-- The survey at sb. -/
structure Sv (w : World) (L sb m1 m2 m3 m4 N : Nat) (st : St ByteArray) (bd : List (Bd ByteArray)) (vs : List ByteArray) (no pf : Nat) : Prop where
  box : Blk w sb 79 #[.int .i64 (st.size : Nat), .int .i64 (st.depth : Nat), .map (some m1), .map (some m2), .int .i64 (no : Nat), .int .i64 (pf : Nat), .map (some m3), .map (some m4)]
  sym : MapV w m1 N (symG st.syms)
  fre : MapV w m2 N (freG st.free)
  bnd : Bnd w L m3 N bd
  var : VarM w m4 N vs
  n12 : m1 ≠ m2
  n13 : m1 ≠ m3
  n14 : m1 ≠ m4
  n23 : m2 ≠ m3
  n24 : m2 ≠ m4
  n34 : m3 ≠ m4
  l0 : L ≤ sb
  l1 : L ≤ m1
  l2 : L ≤ m2
  l3 : L ≤ m3
  l4 : L ≤ m4

section
variable {w w' : World} {L sb m1 m2 m3 m4 N : Nat} {st : St ByteArray} {bd : List (Bd ByteArray)} {vs : List ByteArray} {no pf : Nat}
theorem MapV.ne_blk {b n g : Nat} {G : ByteArray → Option Value} {t : TypeId} {cs : Array Value} (h : MapV w b n G) (k : Blk w g t cs) : b ≠ g := h.not_cells k
theorem MapV.no_row {b n : Nat} {G : ByteArray → Option Value} (h : MapV w b n G) : ∀ k cs, some b = some k → w.heap[k]? ≠ some (.cells cs 111 (0, 0)) := by
  intro k cs e hk
  injection e with e
  subst e
  exact h.not_cells hk rfl
theorem Sv.mono (h : Sv w L sb m1 m2 m3 m4 N st bd vs no pf) {N' : Nat} (hN : N ≤ N') : Sv w L sb m1 m2 m3 m4 N' st bd vs no pf :=
  { h with sym := h.sym.mono hN, fre := h.fre.mono hN, bnd := h.bnd.mono hN, var := h.var.mono hN }
theorem Sv.none_ (h : Sv w L sb m1 m2 m3 m4 N st bd vs no pf) (hg : w.grownBy w' none) : Sv w' L sb m1 m2 m3 m4 N st bd vs no pf :=
  { h with box := h.box.grown hg (by simp), sym := h.sym.kept hg (by simp), fre := h.fre.kept hg (by simp), bnd := h.bnd.kept hg (by simp) (by simp), var := h.var.kept hg (by simp) }
theorem Sv.alloc (h : Sv w L sb m1 m2 m3 m4 N st bd vs no pf) (o : Obj) : Sv (w.alloc o) L sb m1 m2 m3 m4 N st bd vs no pf := h.none_ (World.grownBy_alloc w o none)
theorem grown_of_below (hb : Below w.heap.size w w') : w.grownBy w' none := ⟨hb.os, hb.tape, hb.output, hb.size, fun k hk _ => hb.block k hk⟩
theorem Sv.below (h : Sv w L sb m1 m2 m3 m4 N st bd vs no pf) (hb : Below w.heap.size w w') : Sv w' L sb m1 m2 m3 m4 N st bd vs no pf := h.none_ (grown_of_below hb)
theorem Sv.drewN (h : Sv w L sb m1 m2 m3 m4 N st bd vs no pf) (k : Nat) : Sv (w.drewN k) L sb m1 m2 m3 m4 N st bd vs no pf := h.none_ ⟨rfl, rfl, rfl, Nat.le_refl _, fun _ _ _ => rfl⟩

/-- The box written. -/
theorem grown_set (w : World) (p : Addr) (u : Value) : w.grownBy (w.setCell p u) (some p.block) :=
  ⟨rfl, rfl, rfl, by simp [World.setCell], fun k _ hk => Below.heap_setCell w p u k (fun e => hk (by rw [e]))⟩
theorem Sv.boxed (h : Sv w L sb m1 m2 m3 m4 N st bd vs no pf) (i : Nat) (u : Value) {st' : St ByteArray} {no' pf' : Nat} (hs : st'.syms = st.syms) (hf : st'.free = st.free)
    (hb : Blk (w.setCell ⟨sb, i, none⟩ u) sb 79 #[.int .i64 (st'.size : Nat), .int .i64 (st'.depth : Nat), .map (some m1), .map (some m2), .int .i64 (no' : Nat), .int .i64 (pf' : Nat), .map (some m3), .map (some m4)]) :
    Sv (w.setCell ⟨sb, i, none⟩ u) L sb m1 m2 m3 m4 N st' bd vs no' pf' := by
  have hg := grown_set w ⟨sb, i, none⟩ u
  have e : ∀ {b : Nat}, b ≠ sb → some b ≠ some sb := fun hb e => hb (by injection e)
  exact { h with
    box := hb
    sym := by rw [hs]; exact h.sym.kept hg (e (h.sym.ne_blk h.box))
    fre := by rw [hf]; exact h.fre.kept hg (e (h.fre.ne_blk h.box))
    bnd := h.bnd.kept hg (e (let ⟨_, k, _⟩ := h.bnd; k.ne_blk h.box)) (fun k cs ek hk => by
      injection ek with ek
      subst ek
      have hx := h.box
      unfold Blk at hx
      simp only at hk
      rw [hx] at hk
      injection hk with hk
      injection hk with _ hk
      revert hk; decide)
    var := h.var.kept hg (e (let ⟨_, k, _⟩ := h.var; k.ne_blk h.box)) }
theorem Sv.set_size (h : Sv w L sb m1 m2 m3 m4 N st bd vs no pf) {u : Value} {k : Nat} (hu : u = .int .i64 (k : Nat)) : Sv (w.setCell ⟨sb, 0, none⟩ u) L sb m1 m2 m3 m4 N { st with size := k } bd vs no pf := by
  subst hu; exact h.boxed 0 _ rfl rfl (by simpa using h.box.set_ 0 _)
theorem Sv.set_depth (h : Sv w L sb m1 m2 m3 m4 N st bd vs no pf) {u : Value} {k : Nat} (hu : u = .int .i64 (k : Nat)) : Sv (w.setCell ⟨sb, 1, none⟩ u) L sb m1 m2 m3 m4 N { st with depth := k } bd vs no pf := by
  subst hu; exact h.boxed 1 _ rfl rfl (by simpa using h.box.set_ 1 _)
theorem Sv.set_nots (h : Sv w L sb m1 m2 m3 m4 N st bd vs no pf) {u : Value} {k : Nat} (hu : u = .int .i64 (k : Nat)) : Sv (w.setCell ⟨sb, 4, none⟩ u) L sb m1 m2 m3 m4 N st bd vs k pf := by
  subst hu; exact h.boxed 4 _ rfl rfl (by simpa using h.box.set_ 4 _)
theorem Sv.set_pfps (h : Sv w L sb m1 m2 m3 m4 N st bd vs no pf) {u : Value} {k : Nat} (hu : u = .int .i64 (k : Nat)) : Sv (w.setCell ⟨sb, 5, none⟩ u) L sb m1 m2 m3 m4 N st bd vs no k := by
  subst hu; exact h.boxed 5 _ rfl rfl (by simpa using h.box.set_ 5 _)

theorem some_ne {a b : Nat} (h : a ≠ b) : some a ≠ some b := fun e => h (by injection e)
/-- A free variable noted. -/
theorem Sv.put_free (h : Sv w L sb m1 m2 m3 m4 N st bd vs no pf) {x : ByteArray} (hm : MapV w' m2 (N + 1) (putG (freG st.free) x (.bool true))) (hg : w.grownBy w' (some m2)) :
    Sv w' L sb m1 m2 m3 m4 (N + 1) { st with free := if x ∈ st.free then st.free else st.free ++ [x] } bd vs no pf :=
  { h with
    box := h.box.grown hg (some_ne (h.fre.ne_blk h.box).symm)
    sym := (h.sym.kept hg (some_ne h.n12)).mono (Nat.le_succ _)
    fre := by rw [← freG_put]; exact hm
    bnd := (h.bnd.kept hg (some_ne h.n23.symm) (fun k cs e hk => h.fre.no_row k cs e hk)).mono (Nat.le_succ _)
    var := (h.var.kept hg (some_ne h.n24.symm)).mono (Nat.le_succ _) }
/-- A symbol noted. -/
theorem Sv.put_sym (h : Sv w L sb m1 m2 m3 m4 N st bd vs no pf) {x : ByteArray} {u : Int × Bool} (hm : MapV w' m1 (N + 1) (putG (symG st.syms) x (.agg #[.int .i64 u.1, .bool u.2]))) (hg : w.grownBy w' (some m1)) :
    Sv w' L sb m1 m2 m3 m4 (N + 1) { st with syms := updM x u st.syms } bd vs no pf :=
  { h with
    box := h.box.grown hg (some_ne (h.sym.ne_blk h.box).symm)
    sym := by rw [← symG_put]; exact hm
    fre := (h.fre.kept hg (some_ne h.n12.symm)).mono (Nat.le_succ _)
    bnd := (h.bnd.kept hg (some_ne h.n13.symm) (fun k cs e hk => h.sym.no_row k cs e hk)).mono (Nat.le_succ _)
    var := (h.var.kept hg (some_ne h.n14.symm)).mono (Nat.le_succ _) }
/-- A variable counted. -/
theorem Sv.put_var (h : Sv w L sb m1 m2 m3 m4 N st bd vs no pf) {vs' : List ByteArray} (hm : VarM w' m4 (N + 1) vs') (hg : w.grownBy w' (some m4)) :
    Sv w' L sb m1 m2 m3 m4 (N + 1) st bd vs' no pf := by
  obtain ⟨g, k, -⟩ := h.var
  exact { h with
    box := h.box.grown hg (some_ne (k.ne_blk h.box).symm)
    sym := (h.sym.kept hg (some_ne h.n14)).mono (Nat.le_succ _)
    fre := (h.fre.kept hg (some_ne h.n24)).mono (Nat.le_succ _)
    bnd := (h.bnd.kept hg (some_ne h.n34) (fun k' cs e hk => k.no_row k' cs e hk)).mono (Nat.le_succ _)
    var := hm }
/-- A stack changed: the row first, then the map. -/
theorem Sv.put_bnd (h : Sv w L sb m1 m2 m3 m4 N st bd vs no pf) {bd' : List (Bd ByteArray)} (hm : Bnd w' L m3 (N + 1) bd') {w1 : World} {row : Option Nat} (hr : w.grownBy w1 row) (hrow : ∀ k, row = some k → ∃ cs, w.heap[k]? = some (.cells cs 111 (0, 0))) (hg : w1.grownBy w' (some m3)) :
    Sv w' L sb m1 m2 m3 m4 (N + 1) st bd' vs no pf := by
  obtain ⟨g, k, -⟩ := h.bnd
  have hne : ∀ {b n : Nat} {G : ByteArray → Option Value}, MapV w b n G → some b ≠ row := fun hM e => by
    obtain ⟨cs, hcs⟩ := hrow _ e.symm
    exact hM.not_cells hcs rfl
  have hb0 : some sb ≠ row := fun e => by
    obtain ⟨cs, hcs⟩ := hrow _ e.symm
    have hx := h.box
    unfold Blk at hx
    rw [hx] at hcs
    injection hcs with hcs
    injection hcs with _ hcs
    revert hcs; decide
  obtain ⟨gv, kv, kv2⟩ := h.var
  exact { h with
    box := (h.box.grown hr hb0).grown hg (some_ne (k.ne_blk h.box).symm)
    sym := ((h.sym.kept hr (hne h.sym)).kept hg (some_ne h.n13)).mono (Nat.le_succ _)
    fre := ((h.fre.kept hr (hne h.fre)).kept hg (some_ne h.n23)).mono (Nat.le_succ _)
    bnd := hm
    var := (VarM.kept (VarM.kept ⟨gv, kv, kv2⟩ hr (hne kv)) hg (some_ne h.n34.symm)).mono (Nat.le_succ _) }
end

/-- What a walk over a survey leaves alone: all that lies below L, and every box of a formula. -/
structure Fr (L : Nat) (w w' : World) : Prop where
  bel : Below L w w'
  kee : Keeps 0 [31] w w'
section
variable {w W W' : World} {L : Nat}
theorem Fr.refl (L : Nat) (w : World) : Fr L w w := ⟨Below.refl _ _, Keeps.refl _ _ _⟩
theorem Fr.size (h : Fr L w W) : w.heap.size ≤ W.heap.size := h.bel.size
theorem Fr.trans (h : Fr L w W) (k : Fr L W W') : Fr L w W' := ⟨h.bel.trans k.bel, h.kee.trans k.kee⟩
theorem Fr.of (hL : L ≤ w.heap.size) (hb : Below w.heap.size w W) : Fr L w W := ⟨hb.mono hL, Keeps.of_below hb⟩
theorem Fr.step (h : Fr L w W) (hL : L ≤ W.heap.size) (hb : Below W.heap.size W W') : Fr L w W' := h.trans (.of hL hb)
theorem Fr.alloc (h : Fr L w W) (hL : L ≤ W.heap.size) (o : Obj) : Fr L w (W.alloc o) := ⟨h.bel.alloc hL o, h.kee.trans (Keeps.alloc _ _ _ _)⟩
theorem Fr.map {m n : Nat} {g : ByteArray → Option Value} (h : Fr L w W) (hm : MapV W m n g) (hg : W.grownBy W' (some m)) (hl : L ≤ m) (hL : L ≤ W.heap.size) : Fr L w W' :=
  ⟨h.bel.grown hg hL (fun k e => by injection e with e; omega), h.kee.trans ⟨hg.size, fun b cs t _ _ hh => hg.block b (heap_lt hh) (fun e => by injection e with e; exact hm.not_cells hh e.symm)⟩⟩
theorem Fr.row {row : Option Nat} (h : Fr L w W) (hg : W.grownBy W' row) (hr : ∀ k, row = some k → L ≤ k ∧ ∃ c, W.heap[k]? = some (.cells c 111 (0, 0))) (hL : L ≤ W.heap.size) : Fr L w W' :=
  ⟨h.bel.grown hg hL (fun k hk => (hr k hk).1), h.kee.trans (Keeps.row hg fun g hk => by obtain ⟨-, c, hc⟩ := hr g hk; exact ⟨c, _, _, hc, by decide⟩)⟩
theorem Fr.set {sb : Nat} {cs : Array Value} (h : Fr L w W) (hB : Blk W sb 79 cs) (hl : L ≤ sb) (i : Nat) (u : Value) : Fr L w (W.setCell ⟨sb, i, none⟩ u) :=
  ⟨h.bel.setCell (p := ⟨sb, i, none⟩) hl u, h.kee.trans (Keeps.setCell (p := ⟨sb, i, none⟩) hB (by decide) u)⟩
theorem Fr.blk {g : Nat} {cs : Array Value} (h : Fr L w W) (hB : Blk w g 31 cs) : Blk W g 31 cs := (h.kee.2 g cs _ (Nat.zero_le _) (by simp) hB).trans hB
end

end Go.Proofs.YtmnpelhcgobfaaaDoor
