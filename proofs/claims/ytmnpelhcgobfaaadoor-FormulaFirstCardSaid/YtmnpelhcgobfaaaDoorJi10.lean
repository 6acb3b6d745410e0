/-
  Texts joined: Fword8, Fword9, Fword10.
-/
import Derived.Test.YtmnpelhcgobfaaaDoorJi8

/-
  Walks: the method formula of the parser, at the word lfp.
-/
namespace Go.Proofs.YtmnpelhcgobfaaaDoor
open Go.RowKit
open Fo (F)

set_option maxRecDepth 100000 in
set_option maxHeartbeats 2000000 in
theorem form_lfp (R n : Nat) (text : ByteArray) (w : World) (hr : Psr w R text n) (hn : n ≤ text.size) (hs : text.size ≤ 100000) (hw : Words w) (hg : 0 < R) {a : Nat} {r : List Fo.Tok}
    (hts : Fo.toksAt text.toList n = (a, [108, 102, 112]) :: r) (hform : FormAt R text r.length) :
    Calls Tryd.prog 24 #[.pointer (some ⟨R, 0, none⟩)] w
      (RdPost R text w (Fo.formF (Fo.toksAt text.toList n)) (fun w' v f => NForm w' w.heap.size v f)) := by
  have hRw := hr.lt
  obtain ⟨ho1, ho2, -⟩ := tok_over hn hts
  have hx := form_word (a := a) (b := [108, 102, 112]) (k := 8) (by decide) r
  rw [← hts] at hx
  have Hx := Lib.hid hx; clear hx
  have Hw := Lib.hid hw; clear hw
  have Hform := Lib.hid hform; clear hform
  have hr0 : Psr (w.alloc (.cells #[.int .i64 0, .int .i64 0, .string ⟨#[]⟩, .slice none 0 0, .slice none 0 0, .slice none 0 0] 31)) R text n := hr.alloc _
  have hg0 : w.grownBy (w.alloc (.cells #[.int .i64 0, .int .i64 0, .string ⟨#[]⟩, .slice none 0 0, .slice none 0 0, .slice none 0 0] 31)) (some R) := World.grownBy_alloc _ _ _
  have hz0 := Blk.new w 31 #[.int .i64 0, .int .i64 0, .string ⟨#[]⟩, .slice none 0 0, .slice none 0 0, .slice none 0 0]
  have hs0 : (w.alloc (.cells #[.int .i64 0, .int .i64 0, .string ⟨#[]⟩, .slice none 0 0, .slice none 0 0, .slice none 0 0] 31)).heap.size = w.heap.size + 1 := by simp
  have hl := lit12 (w.alloc (.cells #[.int .i64 0, .int .i64 0, .string ⟨#[]⟩, .slice none 0 0, .slice none 0 0, .slice none 0 0] 31))
  rw [hs0] at hl
  have hcall := take_ok R n text _ _ _ (hr0.alloc (.cells cellsF.toArray 9)) hn hs hl hts ⟨#[108, 102, 112]⟩ ((kindB_self (x := [108, 102, 112]) (.inl (by decide))).2 rfl) (by simp)
  have Hcall := Lib.hid hcall; clear hcall hl hs0 hts
  go_enter Tryd.func24, Tryd.ntmps24
  go_wp2_with (go_at_call 25; with_reducible refine (Hcall.out).mono ?_; rintro e w2 ⟨rfl, hr2, hg2⟩; have hz2 := Blk.grown (Blk.alloc hz0 _) hg2 (fun e => by injection e with e; omega); have hg02 := grownBy_trans hg0 (grownBy_trans (World.grownBy_alloc _ _ _) hg2))
  have hs3 : (w2.alloc (.cells #[.string ⟨#[108, 102, 112]⟩, .string ⟨#[108, 102, 112]⟩, .int .i64 a] 62)).heap.size = w2.heap.size + 1 := by simp
  have hT3 := Blk.new w2 62 #[.string ⟨#[108, 102, 112]⟩, .string ⟨#[108, 102, 112]⟩, .int .i64 a]
  have hB3 := Blk.alloc hz2 (.cells #[.string ⟨#[108, 102, 112]⟩, .string ⟨#[108, 102, 112]⟩, .int .i64 a] 62)
  have hr3 := hr2.alloc (.cells #[.string ⟨#[108, 102, 112]⟩, .string ⟨#[108, 102, 112]⟩, .int .i64 a] 62)
  have hg3 := grownBy_trans hg02 (World.grownBy_alloc w2 (.cells #[.string ⟨#[108, 102, 112]⟩, .string ⟨#[108, 102, 112]⟩, .int .i64 a] 62) (some R))
  have hBT : w.heap.size < w2.heap.size := hz2.lt
  clear hz2 hr2 hg2 hg02 Hcall hz0 hr0 hg0
  generalize w2.alloc (.cells #[.string ⟨#[108, 102, 112]⟩, .string ⟨#[108, 102, 112]⟩, .int .i64 a] 62) = w3 at *
  generalize w2.heap.size = T at *
  have hl := lit1 40 w3
  rw [hs3] at hl
  rcases sign_cases 40 (by decide) r with ⟨a1, r1, hr', ht, hkd⟩ | ⟨ht, hno⟩
  · have hx := Hx.out; clear Hx
    rw [ht, bndOk] at hx
    have Hx := Lib.hid hx; clear hx
    subst hr'
    have hcall := take_ok R _ text _ _ _ (hr3.alloc (.cells #[.string ⟨#[40]⟩] 9)) ho1 hs hl ho2 ⟨#[40]⟩ hkd (by simp)
    obtain ⟨hp1, hp2, -⟩ := tok_over ho1 ho2
    have Hcall := Lib.hid hcall; clear hcall hl ht hkd ho2
    have hbind : ∀ W, Calls Tryd.prog 33 #[.int .i64 8] W fun e w' => e = .returned (.bool (Fo.bindsB 8)) ∧ W = w' := fun W => fbinds_any 8 W
    rw [show Fo.bindsB 8 = true by decide] at hbind
    have Hbind := Lib.hid hbind; clear hbind
    go_wp2_with (first
      | (go_at_call 25; with_reducible refine (Hcall.out).mono ?_; rintro e w4 ⟨rfl, hr4, hg4⟩; have hT4 := Blk.grown (Blk.alloc hT3 _) hg4 (fun e => by injection e with e; omega); have hB4 := Blk.grown (Blk.alloc hB3 _) hg4 (fun e => by injection e with e; omega); have t0 := Blk.cell0 hT4; have hg04 := grownBy_trans hg3 (grownBy_trans (World.grownBy_alloc _ _ _) hg4); have hw4 := Hw.out.grown hg04 hg hRw; have Hw4 := Lib.hid hw4; clear hw4)
      | (go_at_call 32; with_reducible refine (kindOf_8 _ Hw4.out).mono ?_; rintro e w' ⟨rfl, rfl⟩)
      | (go_at_call 33; with_reducible refine (Hbind.out _).mono ?_; rintro e w' ⟨rfl, rfl⟩))
    have hG5 := Blk.new w4 31 #[.int .i64 8, .int .i64 0, .string ⟨#[]⟩, .slice none 0 0, .slice none 0 0, .slice none 0 0]
    have hB5 := Blk.alloc hB4 (.cells #[.int .i64 8, .int .i64 0, .string ⟨#[]⟩, .slice none 0 0, .slice none 0 0, .slice none 0 0] 31)
    have hr5 := hr4.alloc (.cells #[.int .i64 8, .int .i64 0, .string ⟨#[]⟩, .slice none 0 0, .slice none 0 0, .slice none 0 0] 31)
    have hg5 := grownBy_trans hg04 (World.grownBy_alloc w4 (.cells #[.int .i64 8, .int .i64 0, .string ⟨#[]⟩, .slice none 0 0, .slice none 0 0, .slice none 0 0] 31) (some R))
    have hBG : w.heap.size < w4.heap.size := hB4.lt
    have hRG : R < w4.heap.size := hr4.lt_
    have hs5 : (w4.alloc (.cells #[.int .i64 8, .int .i64 0, .string ⟨#[]⟩, .slice none 0 0, .slice none 0 0, .slice none 0 0] 31)).heap.size = w4.heap.size + 1 := by simp
    clear hT4 hB4 hr4 hg4 hg04 Hw4 t0 hT3 hB3 hr3 hg3 Hcall
    generalize w4.alloc (.cells #[.int .i64 8, .int .i64 0, .string ⟨#[]⟩, .slice none 0 0, .slice none 0 0, .slice none 0 0] 31) = w5 at *
    generalize w4.heap.size = G at *
    have Hs5 := Lib.hid hs5; clear hs5
    have hne : w.heap.size ≠ G := Nat.ne_of_lt hBG
    have hx := Hx.out; clear Hx
    rw [head_fix (k := 8) (by decide), bnd_bnd] at hx
    have hl := litN w5
    rw [Hs5.out] at hl
    rcases name_cases r1 with ⟨ta, tc, r2, hr', hpure, hnb⟩ | ⟨hpure, hno⟩
    rotate_left
    · rw [hpure, bndErr] at hx
      have Hx := Lib.hid hx; clear hx
      have hcall := take_err R _ text _ _ _ (hr5.alloc (.cells #[.string ⟨#[97, 32, 110, 97, 109, 101]⟩] 9)) hp1 hs hl hp2 hno
      have Hcall := Lib.hid hcall; clear hcall hl hpure hno
      go_wp2_with (go_at_call 25; with_reducible refine (Hcall.out).mono ?_; rintro e w6 ⟨rfl, hb6⟩)
      exact ⟨rfl, RdPost.bad Hx.out (grownBy_trans hg5 (grownBy_trans (World.grownBy_alloc _ _ _) (grownBy_of_below hb6 _)))⟩
    rw [hpure, bndOk, bnd_bnd] at hx
    have hlen5 : r1.length = r2.length + 1 := by rw [hr']; rfl
    have Hx := Lib.hid hx; clear hx
    have htn := hp2
    rw [hr'] at htn
    obtain ⟨hm6, ht6, -⟩ := tok_over hp1 htn
    have hcall := take_ok R _ text _ _ _ (hr5.alloc (.cells #[.string ⟨#[97, 32, 110, 97, 109, 101]⟩] 9)) hp1 hs hl htn nameK (kindB_name.2 hnb) (by simp)
    have hf1 := fld1 (.string nameK) (.string ⟨tc.toArray⟩) (.int .i64 ta)
    have hys : (⟨tc.toArray⟩ : ByteArray).size ≤ 140737488351232 := by simp only [ByteArray.size, List.size_toArray]; omega
    generalize (⟨tc.toArray⟩ : ByteArray) = y at *
    generalize nameK = nk at *
    have Hcall := Lib.hid hcall; clear hcall hl hpure htn hr'
    go_wp2_with (go_at_call 25; with_reducible refine (Hcall.out).mono ?_; rintro e w6 ⟨rfl, hr6, hgx6⟩; have hg6 := grownBy_trans (World.grownBy_alloc w5 (.cells #[.string ⟨#[97, 32, 110, 97, 109, 101]⟩] 9) (some R)) hgx6; have hGa5 := Blk.grown hG5 hg6 (fun e => by injection e with e; omega); have hBa5 := Blk.grown hB5 hg6 (fun e => by injection e with e; omega); obtain ⟨⟨g0, g1, g2, g3, g4, g5⟩, h0, h1, h2, h3, h4, h5⟩ := six_cells hGa5; have hG7 := blk_set2 hGa5 (.string y); have hB7 := blk_far hBa5 hne 2 (.string y); obtain ⟨⟨y0, y1, y2, y3, y4, y5⟩, -⟩ := six_cells hG7; obtain ⟨⟨z0, z1, z2, z3, z4, z5⟩, f0, f1, f2, f3, f4, f5⟩ := six_cells hB7)
    have hg7 : w.grownBy (w6.setCell ⟨G, 2, none⟩ (.string y)) (some R) := grown_over (grownBy_trans hg5 hg6) (Nat.le_of_lt hBG) _
    have hr7 : Psr (w6.setCell ⟨G, 2, none⟩ (.string y)) R text _ := Blk.far hr6 (Nat.ne_of_lt hRG) _
    clear g0 g1 g2 g3 g4 g5 h0 h1 h2 h3 h4 h5 z0 z1 z2 z3 z4 z5 f0 f1 f2 f3 f4 f5 y0 y1 y2 y3 y4 y5
    have hsz : (w6.setCell ⟨G, 2, none⟩ (.string y)).heap.size = w6.heap.size := by simp [World.setCell]
    generalize w6.setCell ⟨G, 2, none⟩ (.string y) = w7 at *
    have Hs7 := Lib.hid hsz; clear hsz
    have hx := Hx.out; clear Hx Hcall
    have hst := names_any R _ text 58 (by decide) w7 hr7 hm6 hs
    rw [ht6] at hst
    cases hpure : Fo.namesT [58] r2 with
    | error ts =>
      rw [hpure, bndErr] at hx
      have Hx := Lib.hid hx; clear hx
      have hcall := hst.mono fun e w' h => h.miss hpure
      have Hcall := Lib.hid hcall; clear hcall hst hpure
      go_wp2_with (go_at_call 35; with_reducible refine (Hcall.out).mono ?_; rintro e w6 ⟨rfl, hg6⟩)
      exact ⟨rfl, RdPost.bad Hx.out (grownBy_trans hg7 hg6)⟩
    | ok p =>
      obtain ⟨vs, r3⟩ := p
      rw [hpure, bndOk, bndOk] at hx
      have hlen7 := Fo.namesT_less _ _ _ _ hpure
      have Hx := Lib.hid hx; clear hx
      have hcall := hst.mono fun e w' h => h.hit hpure
      have Hcall := Lib.hid hcall; clear hcall hst hpure
      go_wp2_with (go_at_call 35; with_reducible refine (Hcall.out).mono ?_; rintro e w8 ⟨v8, m8, rfl, hg8, hv8, hm8, ht8, hr8⟩; obtain ⟨Q7, q7, e7, rfl⟩ := hv8.form; have hGa7 := Blk.grown hG7 hg8 (fun e => by injection e with e; omega); have hBa7 := Blk.grown hB7 hg8 (fun e => by injection e with e; omega); obtain ⟨⟨g0, g1, g2, g3, g4, g5⟩, h0, h1, h2, h3, h4, h5⟩ := six_cells hGa7; have hG9 := blk_set3 hGa7 (.slice Q7 q7 e7); have hB9 := blk_far hBa7 hne 3 (.slice Q7 q7 e7); obtain ⟨⟨y0, y1, y2, y3, y4, y5⟩, -⟩ := six_cells hG9; obtain ⟨⟨z0, z1, z2, z3, z4, z5⟩, f0, f1, f2, f3, f4, f5⟩ := six_cells hB9)
      have hg9 : w.grownBy (w8.setCell ⟨G, 3, none⟩ (.slice Q7 q7 e7)) (some R) := grown_over (grownBy_trans hg7 hg8) (Nat.le_of_lt hBG) _
      have hr9 : Psr (w8.setCell ⟨G, 3, none⟩ (.slice Q7 q7 e7)) R text _ := Blk.far hr8 (Nat.ne_of_lt hRG) _
      have hvs9 := (hv8.lower (show G + 1 ≤ w7.heap.size from Nat.succ_le_of_lt hG7.lt)).setG (i := 3) (u := .slice Q7 q7 e7)
      clear g0 g1 g2 g3 g4 g5 h0 h1 h2 h3 h4 h5 z0 z1 z2 z3 z4 z5 f0 f1 f2 f3 f4 f5 y0 y1 y2 y3 y4 y5
      have hsz : (w8.setCell ⟨G, 3, none⟩ (.slice Q7 q7 e7)).heap.size = w8.heap.size := by simp [World.setCell]
      generalize w8.setCell ⟨G, 3, none⟩ (.slice Q7 q7 e7) = w9 at *
      have Hs9 := Lib.hid hsz; clear hsz
      have hx := Hx.out; clear Hx Hcall
      have hst := kids_any R _ text 8 w9 hr9 hm8 hs (Hw.out.grown hg9 hg hRw) hg (Hform.out.less (by rw [ht8]; simp only [List.length_cons]; omega))
      rw [ht8] at hst
      cases hpure : kidsX 8 r3 with
      | error ts =>
        rw [hpure, bndErr] at hx
        have Hx := Lib.hid hx; clear hx
        have hcall := hst.mono fun e w' h => h.miss hpure
        have Hcall := Lib.hid hcall; clear hcall hst hpure
        go_wp2_with (go_at_call 36; with_reducible refine (Hcall.out).mono ?_; rintro e w6 ⟨rfl, hg6⟩)
        exact ⟨rfl, RdPost.bad Hx.out (grownBy_trans hg9 hg6)⟩
      | ok p =>
        obtain ⟨ks, r4⟩ := p
        rw [hpure, bndOk] at hx
        have Hx := Lib.hid hx; clear hx
        have hcall := hst.mono fun e w' h => h.hit hpure
        have Hcall := Lib.hid hcall; clear hcall hst hpure
        go_wp2_with (go_at_call 36; with_reducible refine (Hcall.out).mono ?_; rintro e w10 ⟨v10, m10, rfl, hg10, hv10, hm10, ht10, hr10⟩; obtain ⟨Q9, q9, e9, rfl⟩ := hv10.form; have hGa9 := Blk.grown hG9 hg10 (fun e => by injection e with e; omega); have hBa9 := Blk.grown hB9 hg10 (fun e => by injection e with e; omega); obtain ⟨⟨g0, g1, g2, g3, g4, g5⟩, h0, h1, h2, h3, h4, h5⟩ := six_cells hGa9; have hG11 := blk_set5 hGa9 (.slice Q9 q9 e9); have hB11 := blk_far hBa9 hne 5 (.slice Q9 q9 e9); obtain ⟨⟨y0, y1, y2, y3, y4, y5⟩, -⟩ := six_cells hG11; obtain ⟨⟨z0, z1, z2, z3, z4, z5⟩, f0, f1, f2, f3, f4, f5⟩ := six_cells hB11)
        have hg11 : w.grownBy (w10.setCell ⟨G, 5, none⟩ (.slice Q9 q9 e9)) (some R) := grown_over (grownBy_trans hg9 hg10) (Nat.le_of_lt hBG) _
        have hr11 : Psr (w10.setCell ⟨G, 5, none⟩ (.slice Q9 q9 e9)) R text _ := Blk.far hr10 (Nat.ne_of_lt hRG) _
        have hvs11 := (hvs9.grown hg10 (by omega)).setG (i := 5) (u := .slice Q9 q9 e9)
        have hks11 := (hv10.lower (show G + 1 ≤ w9.heap.size from Nat.succ_le_of_lt hG9.lt)).setG (i := 5) (u := .slice Q9 q9 e9)
        clear g0 g1 g2 g3 g4 g5 h0 h1 h2 h3 h4 h5 z0 z1 z2 z3 z4 z5 f0 f1 f2 f3 f4 f5 y0 y1 y2 y3 y4 y5
        have hsz : (w10.setCell ⟨G, 5, none⟩ (.slice Q9 q9 e9)).heap.size = w10.heap.size := by simp [World.setCell]
        generalize w10.setCell ⟨G, 5, none⟩ (.slice Q9 q9 e9) = w11 at *
        have Hs11 := Lib.hid hsz; clear hsz
        have hx := Hx.out; clear Hx Hcall
        rw [tail_args (k := 8) (by decide), bnd_bnd] at hx
        have hl := lit1 40 w11
        rw [Hs11.out] at hl
        rcases sign_cases 40 (by decide) r4 with ⟨ta, r5, hr', hpure, hkd⟩ | ⟨hpure, hno⟩
        rotate_left
        · rw [hpure, bndErr] at hx
          have Hx := Lib.hid hx; clear hx
          have hcall := take_err R _ text _ _ _ (hr11.alloc (.cells #[.string ⟨#[40]⟩] 9)) hm10 hs hl ht10 hno
          have Hcall := Lib.hid hcall; clear hcall hl hpure hno
          go_wp2_with (go_at_call 25; with_reducible refine (Hcall.out).mono ?_; rintro e w6 ⟨rfl, hb6⟩)
          exact ⟨rfl, RdPost.bad Hx.out (grownBy_trans hg11 (grownBy_trans (World.grownBy_alloc _ _ _) (grownBy_of_below hb6 _)))⟩
        rw [hpure, bndOk] at hx
        have hlen11 : r4.length = r5.length + 1 := by rw [hr']; rfl
        have Hx := Lib.hid hx; clear hx
        have htn := ht10
        rw [hr'] at htn
        obtain ⟨hm12, ht12, -⟩ := tok_over hm10 htn
        have hcall := take_ok R _ text _ _ _ (hr11.alloc (.cells #[.string ⟨#[40]⟩] 9)) hm10 hs hl htn ⟨#[40]⟩ hkd (by simp)
        have Hcall := Lib.hid hcall; clear hcall hl hpure htn hr'
        go_wp2_with (go_at_call 25; with_reducible refine (Hcall.out).mono ?_; rintro e w12 ⟨rfl, hr12, hgx12⟩; have hg12 := grownBy_trans (World.grownBy_alloc w11 (.cells #[.string ⟨#[40]⟩] 9) (some R)) hgx12; have hGa11 := Blk.grown hG11 hg12 (fun e => by injection e with e; omega); have hBa11 := Blk.grown hB11 hg12 (fun e => by injection e with e; omega); obtain ⟨⟨g0, g1, g2, g3, g4, g5⟩, h0, h1, h2, h3, h4, h5⟩ := six_cells hGa11; have hG13 := hGa11; have hB13 := hBa11; obtain ⟨⟨z0, z1, z2, z3, z4, z5⟩, f0, f1, f2, f3, f4, f5⟩ := six_cells hB13)
        have hg13 : w.grownBy w12 (some R) := grownBy_trans hg11 hg12
        have hr13 := hr12
        have hvs13 := (hvs11.grown hg12 (by omega))
        have hks13 := (hks11.grown hg12 (by omega))
        clear g0 g1 g2 g3 g4 g5 h0 h1 h2 h3 h4 h5 z0 z1 z2 z3 z4 z5 f0 f1 f2 f3 f4 f5
        have hx := Hx.out; clear Hx Hcall
        have hst := names_any R _ text 41 (by decide) w12 hr13 hm12 hs
        rw [ht12] at hst
        cases hpure : Fo.namesT [41] r5 with
        | error ts =>
          rw [hpure, bndErr] at hx
          have Hx := Lib.hid hx; clear hx
          have hcall := hst.mono fun e w' h => h.miss hpure
          have Hcall := Lib.hid hcall; clear hcall hst hpure
          go_wp2_with (go_at_call 35; with_reducible refine (Hcall.out).mono ?_; rintro e w6 ⟨rfl, hg6⟩)
          exact ⟨rfl, RdPost.bad Hx.out (grownBy_trans hg13 hg6)⟩
        | ok p =>
          obtain ⟨ar, r6⟩ := p
          rw [hpure, bndOk] at hx
          have hlen13 := Fo.namesT_less _ _ _ _ hpure
          have Hx := Lib.hid hx; clear hx
          have hcall := hst.mono fun e w' h => h.hit hpure
          have Hcall := Lib.hid hcall; clear hcall hst hpure
          go_wp2_with (go_at_call 35; with_reducible refine (Hcall.out).mono ?_; rintro e w14 ⟨v14, m14, rfl, hg14, hv14, hm14, ht14, hr14⟩; obtain ⟨Q13, q13, e13, rfl⟩ := hv14.form; have hGa13 := Blk.grown hG13 hg14 (fun e => by injection e with e; omega); have hBa13 := Blk.grown hB13 hg14 (fun e => by injection e with e; omega); obtain ⟨⟨g0, g1, g2, g3, g4, g5⟩, h0, h1, h2, h3, h4, h5⟩ := six_cells hGa13; have hG15 := blk_set4 hGa13 (.slice Q13 q13 e13); have hB15 := blk_far hBa13 hne 4 (.slice Q13 q13 e13); obtain ⟨⟨y0, y1, y2, y3, y4, y5⟩, -⟩ := six_cells hG15; obtain ⟨⟨z0, z1, z2, z3, z4, z5⟩, f0, f1, f2, f3, f4, f5⟩ := six_cells hB15)
          have hg15 : w.grownBy (w14.setCell ⟨G, 4, none⟩ (.slice Q13 q13 e13)) (some R) := grown_over (grownBy_trans hg13 hg14) (Nat.le_of_lt hBG) _
          have hr15 : Psr (w14.setCell ⟨G, 4, none⟩ (.slice Q13 q13 e13)) R text _ := Blk.far hr14 (Nat.ne_of_lt hRG) _
          have hvs15 := (hvs13.grown hg14 (by omega)).setG (i := 4) (u := .slice Q13 q13 e13)
          have hks15 := (hks13.grown hg14 (by omega)).setG (i := 4) (u := .slice Q13 q13 e13)
          have har15 := (hv14.lower (show G + 1 ≤ w12.heap.size from Nat.succ_le_of_lt hG13.lt)).setG (i := 4) (u := .slice Q13 q13 e13)
          have hv16 := form_val (k := 8) (a := 0) (nm := y) (by exact hys) (hvs15.lower (show w.heap.size + 1 ≤ G + 1 by omega)) (har15.lower (show w.heap.size + 1 ≤ G + 1 by omega)) (hks15.lower (show w.heap.size + 1 ≤ G + 1 by omega))
          have hx6 := st6_cells (.int .i64 8) (.int .i64 0) (.string y) (.slice Q7 q7 e7) (.slice Q13 q13 e13) (.slice Q9 q9 e9) hB15
          have hg8 := st6_grown (.int .i64 8) (.int .i64 0) (.string y) (.slice Q7 q7 e7) (.slice Q13 q13 e13) (.slice Q9 q9 e9) hg15 (Nat.le_refl w.heap.size)
          have hp8 : Psr _ R text _ := st6_far (.int .i64 8) (.int .i64 0) (.string y) (.slice Q7 q7 e7) (.slice Q13 q13 e13) (.slice Q9 q9 e9) hr15 (show R ≠ w.heap.size by omega)
          have hv8 := st6_val (.int .i64 8) (.int .i64 0) (.string y) (.slice Q7 q7 e7) (.slice Q13 q13 e13) (.slice Q9 q9 e9) hv16
          unfold st6 at hx6 hg8 hp8 hv8
          obtain ⟨x0, x1, x2, x3, x4, x5⟩ := hx6
          refine bodyPost_ret (v := .agg #[.int .i64 8, .int .i64 0, .string y, .slice Q7 q7 e7, .slice Q13 q13 e13, .slice Q9 q9 e9]) (by simp [results, Tryd.results24, go_sem, x0, x1, x2, x3, x4, x5]) rfl ?_
          exact RdPost.ok Hx.out _ _ hg8 ⟨_, rfl, hv8⟩ hm14 ht14 hp8
  · have hx := Hx.out; clear Hx
    rw [ht, bndErr] at hx
    have Hx := Lib.hid hx; clear hx
    have hcall := take_err R _ text _ _ _ (hr3.alloc (.cells #[.string ⟨#[40]⟩] 9)) ho1 hs hl ho2 hno
    have Hcall := Lib.hid hcall; clear hcall hl ht ho2
    go_wp2_with (go_at_call 25; with_reducible refine (Hcall.out).mono ?_; rintro e w4 ⟨rfl, hb4⟩)
    exact ⟨rfl, RdPost.bad Hx.out (grownBy_trans hg3 (grownBy_trans (World.grownBy_alloc _ _ _) (grownBy_of_below hb4 _)))⟩

end Go.Proofs.YtmnpelhcgobfaaaDoor

/-
  Walks: the method formula of the parser, at the word pfp.
-/
namespace Go.Proofs.YtmnpelhcgobfaaaDoor
open Go.RowKit
open Fo (F)

set_option maxRecDepth 100000 in
set_option maxHeartbeats 2000000 in
theorem form_pfp (R n : Nat) (text : ByteArray) (w : World) (hr : Psr w R text n) (hn : n ≤ text.size) (hs : text.size ≤ 100000) (hw : Words w) (hg : 0 < R) {a : Nat} {r : List Fo.Tok}
    (hts : Fo.toksAt text.toList n = (a, [112, 102, 112]) :: r) (hform : FormAt R text r.length) :
    Calls Tryd.prog 24 #[.pointer (some ⟨R, 0, none⟩)] w
      (RdPost R text w (Fo.formF (Fo.toksAt text.toList n)) (fun w' v f => NForm w' w.heap.size v f)) := by
  have hRw := hr.lt
  obtain ⟨ho1, ho2, -⟩ := tok_over hn hts
  have hx := form_word (a := a) (b := [112, 102, 112]) (k := 9) (by decide) r
  rw [← hts] at hx
  have Hx := Lib.hid hx; clear hx
  have Hw := Lib.hid hw; clear hw
  have Hform := Lib.hid hform; clear hform
  have hr0 : Psr (w.alloc (.cells #[.int .i64 0, .int .i64 0, .string ⟨#[]⟩, .slice none 0 0, .slice none 0 0, .slice none 0 0] 31)) R text n := hr.alloc _
  have hg0 : w.grownBy (w.alloc (.cells #[.int .i64 0, .int .i64 0, .string ⟨#[]⟩, .slice none 0 0, .slice none 0 0, .slice none 0 0] 31)) (some R) := World.grownBy_alloc _ _ _
  have hz0 := Blk.new w 31 #[.int .i64 0, .int .i64 0, .string ⟨#[]⟩, .slice none 0 0, .slice none 0 0, .slice none 0 0]
  have hs0 : (w.alloc (.cells #[.int .i64 0, .int .i64 0, .string ⟨#[]⟩, .slice none 0 0, .slice none 0 0, .slice none 0 0] 31)).heap.size = w.heap.size + 1 := by simp
  have hl := lit12 (w.alloc (.cells #[.int .i64 0, .int .i64 0, .string ⟨#[]⟩, .slice none 0 0, .slice none 0 0, .slice none 0 0] 31))
  rw [hs0] at hl
  have hcall := take_ok R n text _ _ _ (hr0.alloc (.cells cellsF.toArray 9)) hn hs hl hts ⟨#[112, 102, 112]⟩ ((kindB_self (x := [112, 102, 112]) (.inl (by decide))).2 rfl) (by simp)
  have Hcall := Lib.hid hcall; clear hcall hl hs0 hts
  go_enter Tryd.func24, Tryd.ntmps24
  go_wp2_with (go_at_call 25; with_reducible refine (Hcall.out).mono ?_; rintro e w2 ⟨rfl, hr2, hg2⟩; have hz2 := Blk.grown (Blk.alloc hz0 _) hg2 (fun e => by injection e with e; omega); have hg02 := grownBy_trans hg0 (grownBy_trans (World.grownBy_alloc _ _ _) hg2))
  have hs3 : (w2.alloc (.cells #[.string ⟨#[112, 102, 112]⟩, .string ⟨#[112, 102, 112]⟩, .int .i64 a] 62)).heap.size = w2.heap.size + 1 := by simp
  have hT3 := Blk.new w2 62 #[.string ⟨#[112, 102, 112]⟩, .string ⟨#[112, 102, 112]⟩, .int .i64 a]
  have hB3 := Blk.alloc hz2 (.cells #[.string ⟨#[112, 102, 112]⟩, .string ⟨#[112, 102, 112]⟩, .int .i64 a] 62)
  have hr3 := hr2.alloc (.cells #[.string ⟨#[112, 102, 112]⟩, .string ⟨#[112, 102, 112]⟩, .int .i64 a] 62)
  have hg3 := grownBy_trans hg02 (World.grownBy_alloc w2 (.cells #[.string ⟨#[112, 102, 112]⟩, .string ⟨#[112, 102, 112]⟩, .int .i64 a] 62) (some R))
  have hBT : w.heap.size < w2.heap.size := hz2.lt
  clear hz2 hr2 hg2 hg02 Hcall hz0 hr0 hg0
  generalize w2.alloc (.cells #[.string ⟨#[112, 102, 112]⟩, .string ⟨#[112, 102, 112]⟩, .int .i64 a] 62) = w3 at *
  generalize w2.heap.size = T at *
  have hl := lit1 40 w3
  rw [hs3] at hl
  rcases sign_cases 40 (by decide) r with ⟨a1, r1, hr', ht, hkd⟩ | ⟨ht, hno⟩
  · have hx := Hx.out; clear Hx
    rw [ht, bndOk] at hx
    have Hx := Lib.hid hx; clear hx
    subst hr'
    have hcall := take_ok R _ text _ _ _ (hr3.alloc (.cells #[.string ⟨#[40]⟩] 9)) ho1 hs hl ho2 ⟨#[40]⟩ hkd (by simp)
    obtain ⟨hp1, hp2, -⟩ := tok_over ho1 ho2
    have Hcall := Lib.hid hcall; clear hcall hl ht hkd ho2
    have hbind : ∀ W, Calls Tryd.prog 33 #[.int .i64 9] W fun e w' => e = .returned (.bool (Fo.bindsB 9)) ∧ W = w' := fun W => fbinds_any 9 W
    rw [show Fo.bindsB 9 = true by decide] at hbind
    have Hbind := Lib.hid hbind; clear hbind
    go_wp2_with (first
      | (go_at_call 25; with_reducible refine (Hcall.out).mono ?_; rintro e w4 ⟨rfl, hr4, hg4⟩; have hT4 := Blk.grown (Blk.alloc hT3 _) hg4 (fun e => by injection e with e; omega); have hB4 := Blk.grown (Blk.alloc hB3 _) hg4 (fun e => by injection e with e; omega); have t0 := Blk.cell0 hT4; have hg04 := grownBy_trans hg3 (grownBy_trans (World.grownBy_alloc _ _ _) hg4); have hw4 := Hw.out.grown hg04 hg hRw; have Hw4 := Lib.hid hw4; clear hw4)
      | (go_at_call 32; with_reducible refine (kindOf_9 _ Hw4.out).mono ?_; rintro e w' ⟨rfl, rfl⟩)
      | (go_at_call 33; with_reducible refine (Hbind.out _).mono ?_; rintro e w' ⟨rfl, rfl⟩))
    have hG5 := Blk.new w4 31 #[.int .i64 9, .int .i64 0, .string ⟨#[]⟩, .slice none 0 0, .slice none 0 0, .slice none 0 0]
    have hB5 := Blk.alloc hB4 (.cells #[.int .i64 9, .int .i64 0, .string ⟨#[]⟩, .slice none 0 0, .slice none 0 0, .slice none 0 0] 31)
    have hr5 := hr4.alloc (.cells #[.int .i64 9, .int .i64 0, .string ⟨#[]⟩, .slice none 0 0, .slice none 0 0, .slice none 0 0] 31)
    have hg5 := grownBy_trans hg04 (World.grownBy_alloc w4 (.cells #[.int .i64 9, .int .i64 0, .string ⟨#[]⟩, .slice none 0 0, .slice none 0 0, .slice none 0 0] 31) (some R))
    have hBG : w.heap.size < w4.heap.size := hB4.lt
    have hRG : R < w4.heap.size := hr4.lt_
    have hs5 : (w4.alloc (.cells #[.int .i64 9, .int .i64 0, .string ⟨#[]⟩, .slice none 0 0, .slice none 0 0, .slice none 0 0] 31)).heap.size = w4.heap.size + 1 := by simp
    clear hT4 hB4 hr4 hg4 hg04 Hw4 t0 hT3 hB3 hr3 hg3 Hcall
    generalize w4.alloc (.cells #[.int .i64 9, .int .i64 0, .string ⟨#[]⟩, .slice none 0 0, .slice none 0 0, .slice none 0 0] 31) = w5 at *
    generalize w4.heap.size = G at *
    have Hs5 := Lib.hid hs5; clear hs5
    have hne : w.heap.size ≠ G := Nat.ne_of_lt hBG
    have hx := Hx.out; clear Hx
    rw [head_fix (k := 9) (by decide), bnd_bnd] at hx
    have hl := litN w5
    rw [Hs5.out] at hl
    rcases name_cases r1 with ⟨ta, tc, r2, hr', hpure, hnb⟩ | ⟨hpure, hno⟩
    rotate_left
    · rw [hpure, bndErr] at hx
      have Hx := Lib.hid hx; clear hx
      have hcall := take_err R _ text _ _ _ (hr5.alloc (.cells #[.string ⟨#[97, 32, 110, 97, 109, 101]⟩] 9)) hp1 hs hl hp2 hno
      have Hcall := Lib.hid hcall; clear hcall hl hpure hno
      go_wp2_with (go_at_call 25; with_reducible refine (Hcall.out).mono ?_; rintro e w6 ⟨rfl, hb6⟩)
      exact ⟨rfl, RdPost.bad Hx.out (grownBy_trans hg5 (grownBy_trans (World.grownBy_alloc _ _ _) (grownBy_of_below hb6 _)))⟩
    rw [hpure, bndOk, bnd_bnd] at hx
    have hlen5 : r1.length = r2.length + 1 := by rw [hr']; rfl
    have Hx := Lib.hid hx; clear hx
    have htn := hp2
    rw [hr'] at htn
    obtain ⟨hm6, ht6, -⟩ := tok_over hp1 htn
    have hcall := take_ok R _ text _ _ _ (hr5.alloc (.cells #[.string ⟨#[97, 32, 110, 97, 109, 101]⟩] 9)) hp1 hs hl htn nameK (kindB_name.2 hnb) (by simp)
    have hf1 := fld1 (.string nameK) (.string ⟨tc.toArray⟩) (.int .i64 ta)
    have hys : (⟨tc.toArray⟩ : ByteArray).size ≤ 140737488351232 := by simp only [ByteArray.size, List.size_toArray]; omega
    generalize (⟨tc.toArray⟩ : ByteArray) = y at *
    generalize nameK = nk at *
    have Hcall := Lib.hid hcall; clear hcall hl hpure htn hr'
    go_wp2_with (go_at_call 25; with_reducible refine (Hcall.out).mono ?_; rintro e w6 ⟨rfl, hr6, hgx6⟩; have hg6 := grownBy_trans (World.grownBy_alloc w5 (.cells #[.string ⟨#[97, 32, 110, 97, 109, 101]⟩] 9) (some R)) hgx6; have hGa5 := Blk.grown hG5 hg6 (fun e => by injection e with e; omega); have hBa5 := Blk.grown hB5 hg6 (fun e => by injection e with e; omega); obtain ⟨⟨g0, g1, g2, g3, g4, g5⟩, h0, h1, h2, h3, h4, h5⟩ := six_cells hGa5; have hG7 := blk_set2 hGa5 (.string y); have hB7 := blk_far hBa5 hne 2 (.string y); obtain ⟨⟨y0, y1, y2, y3, y4, y5⟩, -⟩ := six_cells hG7; obtain ⟨⟨z0, z1, z2, z3, z4, z5⟩, f0, f1, f2, f3, f4, f5⟩ := six_cells hB7)
    have hg7 : w.grownBy (w6.setCell ⟨G, 2, none⟩ (.string y)) (some R) := grown_over (grownBy_trans hg5 hg6) (Nat.le_of_lt hBG) _
    have hr7 : Psr (w6.setCell ⟨G, 2, none⟩ (.string y)) R text _ := Blk.far hr6 (Nat.ne_of_lt hRG) _
    clear g0 g1 g2 g3 g4 g5 h0 h1 h2 h3 h4 h5 z0 z1 z2 z3 z4 z5 f0 f1 f2 f3 f4 f5 y0 y1 y2 y3 y4 y5
    have hsz : (w6.setCell ⟨G, 2, none⟩ (.string y)).heap.size = w6.heap.size := by simp [World.setCell]
    generalize w6.setCell ⟨G, 2, none⟩ (.string y) = w7 at *
    have Hs7 := Lib.hid hsz; clear hsz
    have hx := Hx.out; clear Hx Hcall
    have hst := names_any R _ text 58 (by decide) w7 hr7 hm6 hs
    rw [ht6] at hst
    cases hpure : Fo.namesT [58] r2 with
    | error ts =>
      rw [hpure, bndErr] at hx
      have Hx := Lib.hid hx; clear hx
      have hcall := hst.mono fun e w' h => h.miss hpure
      have Hcall := Lib.hid hcall; clear hcall hst hpure
      go_wp2_with (go_at_call 35; with_reducible refine (Hcall.out).mono ?_; rintro e w6 ⟨rfl, hg6⟩)
      exact ⟨rfl, RdPost.bad Hx.out (grownBy_trans hg7 hg6)⟩
    | ok p =>
      obtain ⟨vs, r3⟩ := p
      rw [hpure, bndOk, bndOk] at hx
      have hlen7 := Fo.namesT_less _ _ _ _ hpure
      have Hx := Lib.hid hx; clear hx
      have hcall := hst.mono fun e w' h => h.hit hpure
      have Hcall := Lib.hid hcall; clear hcall hst hpure
      go_wp2_with (go_at_call 35; with_reducible refine (Hcall.out).mono ?_; rintro e w8 ⟨v8, m8, rfl, hg8, hv8, hm8, ht8, hr8⟩; obtain ⟨Q7, q7, e7, rfl⟩ := hv8.form; have hGa7 := Blk.grown hG7 hg8 (fun e => by injection e with e; omega); have hBa7 := Blk.grown hB7 hg8 (fun e => by injection e with e; omega); obtain ⟨⟨g0, g1, g2, g3, g4, g5⟩, h0, h1, h2, h3, h4, h5⟩ := six_cells hGa7; have hG9 := blk_set3 hGa7 (.slice Q7 q7 e7); have hB9 := blk_far hBa7 hne 3 (.slice Q7 q7 e7); obtain ⟨⟨y0, y1, y2, y3, y4, y5⟩, -⟩ := six_cells hG9; obtain ⟨⟨z0, z1, z2, z3, z4, z5⟩, f0, f1, f2, f3, f4, f5⟩ := six_cells hB9)
      have hg9 : w.grownBy (w8.setCell ⟨G, 3, none⟩ (.slice Q7 q7 e7)) (some R) := grown_over (grownBy_trans hg7 hg8) (Nat.le_of_lt hBG) _
      have hr9 : Psr (w8.setCell ⟨G, 3, none⟩ (.slice Q7 q7 e7)) R text _ := Blk.far hr8 (Nat.ne_of_lt hRG) _
      have hvs9 := (hv8.lower (show G + 1 ≤ w7.heap.size from Nat.succ_le_of_lt hG7.lt)).setG (i := 3) (u := .slice Q7 q7 e7)
      clear g0 g1 g2 g3 g4 g5 h0 h1 h2 h3 h4 h5 z0 z1 z2 z3 z4 z5 f0 f1 f2 f3 f4 f5 y0 y1 y2 y3 y4 y5
      have hsz : (w8.setCell ⟨G, 3, none⟩ (.slice Q7 q7 e7)).heap.size = w8.heap.size := by simp [World.setCell]
      generalize w8.setCell ⟨G, 3, none⟩ (.slice Q7 q7 e7) = w9 at *
      have Hs9 := Lib.hid hsz; clear hsz
      have hx := Hx.out; clear Hx Hcall
      have hst := kids_any R _ text 9 w9 hr9 hm8 hs (Hw.out.grown hg9 hg hRw) hg (Hform.out.less (by rw [ht8]; simp only [List.length_cons]; omega))
      rw [ht8] at hst
      cases hpure : kidsX 9 r3 with
      | error ts =>
        rw [hpure, bndErr] at hx
        have Hx := Lib.hid hx; clear hx
        have hcall := hst.mono fun e w' h => h.miss hpure
        have Hcall := Lib.hid hcall; clear hcall hst hpure
        go_wp2_with (go_at_call 36; with_reducible refine (Hcall.out).mono ?_; rintro e w6 ⟨rfl, hg6⟩)
        exact ⟨rfl, RdPost.bad Hx.out (grownBy_trans hg9 hg6)⟩
      | ok p =>
        obtain ⟨ks, r4⟩ := p
        rw [hpure, bndOk] at hx
        have Hx := Lib.hid hx; clear hx
        have hcall := hst.mono fun e w' h => h.hit hpure
        have Hcall := Lib.hid hcall; clear hcall hst hpure
        go_wp2_with (go_at_call 36; with_reducible refine (Hcall.out).mono ?_; rintro e w10 ⟨v10, m10, rfl, hg10, hv10, hm10, ht10, hr10⟩; obtain ⟨Q9, q9, e9, rfl⟩ := hv10.form; have hGa9 := Blk.grown hG9 hg10 (fun e => by injection e with e; omega); have hBa9 := Blk.grown hB9 hg10 (fun e => by injection e with e; omega); obtain ⟨⟨g0, g1, g2, g3, g4, g5⟩, h0, h1, h2, h3, h4, h5⟩ := six_cells hGa9; have hG11 := blk_set5 hGa9 (.slice Q9 q9 e9); have hB11 := blk_far hBa9 hne 5 (.slice Q9 q9 e9); obtain ⟨⟨y0, y1, y2, y3, y4, y5⟩, -⟩ := six_cells hG11; obtain ⟨⟨z0, z1, z2, z3, z4, z5⟩, f0, f1, f2, f3, f4, f5⟩ := six_cells hB11)
        have hg11 : w.grownBy (w10.setCell ⟨G, 5, none⟩ (.slice Q9 q9 e9)) (some R) := grown_over (grownBy_trans hg9 hg10) (Nat.le_of_lt hBG) _
        have hr11 : Psr (w10.setCell ⟨G, 5, none⟩ (.slice Q9 q9 e9)) R text _ := Blk.far hr10 (Nat.ne_of_lt hRG) _
        have hvs11 := (hvs9.grown hg10 (by omega)).setG (i := 5) (u := .slice Q9 q9 e9)
        have hks11 := (hv10.lower (show G + 1 ≤ w9.heap.size from Nat.succ_le_of_lt hG9.lt)).setG (i := 5) (u := .slice Q9 q9 e9)
        clear g0 g1 g2 g3 g4 g5 h0 h1 h2 h3 h4 h5 z0 z1 z2 z3 z4 z5 f0 f1 f2 f3 f4 f5 y0 y1 y2 y3 y4 y5
        have hsz : (w10.setCell ⟨G, 5, none⟩ (.slice Q9 q9 e9)).heap.size = w10.heap.size := by simp [World.setCell]
        generalize w10.setCell ⟨G, 5, none⟩ (.slice Q9 q9 e9) = w11 at *
        have Hs11 := Lib.hid hsz; clear hsz
        have hx := Hx.out; clear Hx Hcall
        rw [tail_args (k := 9) (by decide), bnd_bnd] at hx
        have hl := lit1 40 w11
        rw [Hs11.out] at hl
        rcases sign_cases 40 (by decide) r4 with ⟨ta, r5, hr', hpure, hkd⟩ | ⟨hpure, hno⟩
        rotate_left
        · rw [hpure, bndErr] at hx
          have Hx := Lib.hid hx; clear hx
          have hcall := take_err R _ text _ _ _ (hr11.alloc (.cells #[.string ⟨#[40]⟩] 9)) hm10 hs hl ht10 hno
          have Hcall := Lib.hid hcall; clear hcall hl hpure hno
          go_wp2_with (go_at_call 25; with_reducible refine (Hcall.out).mono ?_; rintro e w6 ⟨rfl, hb6⟩)
          exact ⟨rfl, RdPost.bad Hx.out (grownBy_trans hg11 (grownBy_trans (World.grownBy_alloc _ _ _) (grownBy_of_below hb6 _)))⟩
        rw [hpure, bndOk] at hx
        have hlen11 : r4.length = r5.length + 1 := by rw [hr']; rfl
        have Hx := Lib.hid hx; clear hx
        have htn := ht10
        rw [hr'] at htn
        obtain ⟨hm12, ht12, -⟩ := tok_over hm10 htn
        have hcall := take_ok R _ text _ _ _ (hr11.alloc (.cells #[.string ⟨#[40]⟩] 9)) hm10 hs hl htn ⟨#[40]⟩ hkd (by simp)
        have Hcall := Lib.hid hcall; clear hcall hl hpure htn hr'
        go_wp2_with (go_at_call 25; with_reducible refine (Hcall.out).mono ?_; rintro e w12 ⟨rfl, hr12, hgx12⟩; have hg12 := grownBy_trans (World.grownBy_alloc w11 (.cells #[.string ⟨#[40]⟩] 9) (some R)) hgx12; have hGa11 := Blk.grown hG11 hg12 (fun e => by injection e with e; omega); have hBa11 := Blk.grown hB11 hg12 (fun e => by injection e with e; omega); obtain ⟨⟨g0, g1, g2, g3, g4, g5⟩, h0, h1, h2, h3, h4, h5⟩ := six_cells hGa11; have hG13 := hGa11; have hB13 := hBa11; obtain ⟨⟨z0, z1, z2, z3, z4, z5⟩, f0, f1, f2, f3, f4, f5⟩ := six_cells hB13)
        have hg13 : w.grownBy w12 (some R) := grownBy_trans hg11 hg12
        have hr13 := hr12
        have hvs13 := (hvs11.grown hg12 (by omega))
        have hks13 := (hks11.grown hg12 (by omega))
        clear g0 g1 g2 g3 g4 g5 h0 h1 h2 h3 h4 h5 z0 z1 z2 z3 z4 z5 f0 f1 f2 f3 f4 f5
        have hx := Hx.out; clear Hx Hcall
        have hst := names_any R _ text 41 (by decide) w12 hr13 hm12 hs
        rw [ht12] at hst
        cases hpure : Fo.namesT [41] r5 with
        | error ts =>
          rw [hpure, bndErr] at hx
          have Hx := Lib.hid hx; clear hx
          have hcall := hst.mono fun e w' h => h.miss hpure
          have Hcall := Lib.hid hcall; clear hcall hst hpure
          go_wp2_with (go_at_call 35; with_reducible refine (Hcall.out).mono ?_; rintro e w6 ⟨rfl, hg6⟩)
          exact ⟨rfl, RdPost.bad Hx.out (grownBy_trans hg13 hg6)⟩
        | ok p =>
          obtain ⟨ar, r6⟩ := p
          rw [hpure, bndOk] at hx
          have hlen13 := Fo.namesT_less _ _ _ _ hpure
          have Hx := Lib.hid hx; clear hx
          have hcall := hst.mono fun e w' h => h.hit hpure
          have Hcall := Lib.hid hcall; clear hcall hst hpure
          go_wp2_with (go_at_call 35; with_reducible refine (Hcall.out).mono ?_; rintro e w14 ⟨v14, m14, rfl, hg14, hv14, hm14, ht14, hr14⟩; obtain ⟨Q13, q13, e13, rfl⟩ := hv14.form; have hGa13 := Blk.grown hG13 hg14 (fun e => by injection e with e; omega); have hBa13 := Blk.grown hB13 hg14 (fun e => by injection e with e; omega); obtain ⟨⟨g0, g1, g2, g3, g4, g5⟩, h0, h1, h2, h3, h4, h5⟩ := six_cells hGa13; have hG15 := blk_set4 hGa13 (.slice Q13 q13 e13); have hB15 := blk_far hBa13 hne 4 (.slice Q13 q13 e13); obtain ⟨⟨y0, y1, y2, y3, y4, y5⟩, -⟩ := six_cells hG15; obtain ⟨⟨z0, z1, z2, z3, z4, z5⟩, f0, f1, f2, f3, f4, f5⟩ := six_cells hB15)
          have hg15 : w.grownBy (w14.setCell ⟨G, 4, none⟩ (.slice Q13 q13 e13)) (some R) := grown_over (grownBy_trans hg13 hg14) (Nat.le_of_lt hBG) _
          have hr15 : Psr (w14.setCell ⟨G, 4, none⟩ (.slice Q13 q13 e13)) R text _ := Blk.far hr14 (Nat.ne_of_lt hRG) _
          have hvs15 := (hvs13.grown hg14 (by omega)).setG (i := 4) (u := .slice Q13 q13 e13)
          have hks15 := (hks13.grown hg14 (by omega)).setG (i := 4) (u := .slice Q13 q13 e13)
          have har15 := (hv14.lower (show G + 1 ≤ w12.heap.size from Nat.succ_le_of_lt hG13.lt)).setG (i := 4) (u := .slice Q13 q13 e13)
          have hv16 := form_val (k := 9) (a := 0) (nm := y) (by exact hys) (hvs15.lower (show w.heap.size + 1 ≤ G + 1 by omega)) (har15.lower (show w.heap.size + 1 ≤ G + 1 by omega)) (hks15.lower (show w.heap.size + 1 ≤ G + 1 by omega))
          have hx6 := st6_cells (.int .i64 9) (.int .i64 0) (.string y) (.slice Q7 q7 e7) (.slice Q13 q13 e13) (.slice Q9 q9 e9) hB15
          have hg8 := st6_grown (.int .i64 9) (.int .i64 0) (.string y) (.slice Q7 q7 e7) (.slice Q13 q13 e13) (.slice Q9 q9 e9) hg15 (Nat.le_refl w.heap.size)
          have hp8 : Psr _ R text _ := st6_far (.int .i64 9) (.int .i64 0) (.string y) (.slice Q7 q7 e7) (.slice Q13 q13 e13) (.slice Q9 q9 e9) hr15 (show R ≠ w.heap.size by omega)
          have hv8 := st6_val (.int .i64 9) (.int .i64 0) (.string y) (.slice Q7 q7 e7) (.slice Q13 q13 e13) (.slice Q9 q9 e9) hv16
          unfold st6 at hx6 hg8 hp8 hv8
          obtain ⟨x0, x1, x2, x3, x4, x5⟩ := hx6
          refine bodyPost_ret (v := .agg #[.int .i64 9, .int .i64 0, .string y, .slice Q7 q7 e7, .slice Q13 q13 e13, .slice Q9 q9 e9]) (by simp [results, Tryd.results24, go_sem, x0, x1, x2, x3, x4, x5]) rfl ?_
          exact RdPost.ok Hx.out _ _ hg8 ⟨_, rfl, hv8⟩ hm14 ht14 hp8
  · have hx := Hx.out; clear Hx
    rw [ht, bndErr] at hx
    have Hx := Lib.hid hx; clear hx
    have hcall := take_err R _ text _ _ _ (hr3.alloc (.cells #[.string ⟨#[40]⟩] 9)) ho1 hs hl ho2 hno
    have Hcall := Lib.hid hcall; clear hcall hl ht ho2
    go_wp2_with (go_at_call 25; with_reducible refine (Hcall.out).mono ?_; rintro e w4 ⟨rfl, hb4⟩)
    exact ⟨rfl, RdPost.bad Hx.out (grownBy_trans hg3 (grownBy_trans (World.grownBy_alloc _ _ _) (grownBy_of_below hb4 _)))⟩

end Go.Proofs.YtmnpelhcgobfaaaDoor

/-
  Walks: the method formula of the parser, at the word tc.
-/
namespace Go.Proofs.YtmnpelhcgobfaaaDoor
open Go.RowKit
open Fo (F)

set_option maxRecDepth 100000 in
set_option maxHeartbeats 2000000 in
theorem form_tc (R n : Nat) (text : ByteArray) (w : World) (hr : Psr w R text n) (hn : n ≤ text.size) (hs : text.size ≤ 100000) (hw : Words w) (hg : 0 < R) {a : Nat} {r : List Fo.Tok}
    (hts : Fo.toksAt text.toList n = (a, [116, 99]) :: r) (hform : FormAt R text r.length) :
    Calls Tryd.prog 24 #[.pointer (some ⟨R, 0, none⟩)] w
      (RdPost R text w (Fo.formF (Fo.toksAt text.toList n)) (fun w' v f => NForm w' w.heap.size v f)) := by
  have hRw := hr.lt
  obtain ⟨ho1, ho2, -⟩ := tok_over hn hts
  have hx := form_word (a := a) (b := [116, 99]) (k := 10) (by decide) r
  rw [← hts] at hx
  have Hx := Lib.hid hx; clear hx
  have Hw := Lib.hid hw; clear hw
  have Hform := Lib.hid hform; clear hform
  have hr0 : Psr (w.alloc (.cells #[.int .i64 0, .int .i64 0, .string ⟨#[]⟩, .slice none 0 0, .slice none 0 0, .slice none 0 0] 31)) R text n := hr.alloc _
  have hg0 : w.grownBy (w.alloc (.cells #[.int .i64 0, .int .i64 0, .string ⟨#[]⟩, .slice none 0 0, .slice none 0 0, .slice none 0 0] 31)) (some R) := World.grownBy_alloc _ _ _
  have hz0 := Blk.new w 31 #[.int .i64 0, .int .i64 0, .string ⟨#[]⟩, .slice none 0 0, .slice none 0 0, .slice none 0 0]
  have hs0 : (w.alloc (.cells #[.int .i64 0, .int .i64 0, .string ⟨#[]⟩, .slice none 0 0, .slice none 0 0, .slice none 0 0] 31)).heap.size = w.heap.size + 1 := by simp
  have hl := lit12 (w.alloc (.cells #[.int .i64 0, .int .i64 0, .string ⟨#[]⟩, .slice none 0 0, .slice none 0 0, .slice none 0 0] 31))
  rw [hs0] at hl
  have hcall := take_ok R n text _ _ _ (hr0.alloc (.cells cellsF.toArray 9)) hn hs hl hts ⟨#[116, 99]⟩ ((kindB_self (x := [116, 99]) (.inl (by decide))).2 rfl) (by simp)
  have Hcall := Lib.hid hcall; clear hcall hl hs0 hts
  go_enter Tryd.func24, Tryd.ntmps24
  go_wp2_with (go_at_call 25; with_reducible refine (Hcall.out).mono ?_; rintro e w2 ⟨rfl, hr2, hg2⟩; have hz2 := Blk.grown (Blk.alloc hz0 _) hg2 (fun e => by injection e with e; omega); have hg02 := grownBy_trans hg0 (grownBy_trans (World.grownBy_alloc _ _ _) hg2))
  have hs3 : (w2.alloc (.cells #[.string ⟨#[116, 99]⟩, .string ⟨#[116, 99]⟩, .int .i64 a] 62)).heap.size = w2.heap.size + 1 := by simp
  have hT3 := Blk.new w2 62 #[.string ⟨#[116, 99]⟩, .string ⟨#[116, 99]⟩, .int .i64 a]
  have hB3 := Blk.alloc hz2 (.cells #[.string ⟨#[116, 99]⟩, .string ⟨#[116, 99]⟩, .int .i64 a] 62)
  have hr3 := hr2.alloc (.cells #[.string ⟨#[116, 99]⟩, .string ⟨#[116, 99]⟩, .int .i64 a] 62)
  have hg3 := grownBy_trans hg02 (World.grownBy_alloc w2 (.cells #[.string ⟨#[116, 99]⟩, .string ⟨#[116, 99]⟩, .int .i64 a] 62) (some R))
  have hBT : w.heap.size < w2.heap.size := hz2.lt
  clear hz2 hr2 hg2 hg02 Hcall hz0 hr0 hg0
  generalize w2.alloc (.cells #[.string ⟨#[116, 99]⟩, .string ⟨#[116, 99]⟩, .int .i64 a] 62) = w3 at *
  generalize w2.heap.size = T at *
  have hl := lit1 40 w3
  rw [hs3] at hl
  rcases sign_cases 40 (by decide) r with ⟨a1, r1, hr', ht, hkd⟩ | ⟨ht, hno⟩
  · have hx := Hx.out; clear Hx
    rw [ht, bndOk] at hx
    have Hx := Lib.hid hx; clear hx
    subst hr'
    have hcall := take_ok R _ text _ _ _ (hr3.alloc (.cells #[.string ⟨#[40]⟩] 9)) ho1 hs hl ho2 ⟨#[40]⟩ hkd (by simp)
    obtain ⟨hp1, hp2, -⟩ := tok_over ho1 ho2
    have Hcall := Lib.hid hcall; clear hcall hl ht hkd ho2
    have hbind : ∀ W, Calls Tryd.prog 33 #[.int .i64 10] W fun e w' => e = .returned (.bool (Fo.bindsB 10)) ∧ W = w' := fun W => fbinds_any 10 W
    rw [show Fo.bindsB 10 = false by decide] at hbind
    have Hbind := Lib.hid hbind; clear hbind
    go_wp2_with (first
      | (go_at_call 25; with_reducible refine (Hcall.out).mono ?_; rintro e w4 ⟨rfl, hr4, hg4⟩; have hT4 := Blk.grown (Blk.alloc hT3 _) hg4 (fun e => by injection e with e; omega); have hB4 := Blk.grown (Blk.alloc hB3 _) hg4 (fun e => by injection e with e; omega); have t0 := Blk.cell0 hT4; have hg04 := grownBy_trans hg3 (grownBy_trans (World.grownBy_alloc _ _ _) hg4); have hw4 := Hw.out.grown hg04 hg hRw; have Hw4 := Lib.hid hw4; clear hw4)
      | (go_at_call 32; with_reducible refine (kindOf_10 _ Hw4.out).mono ?_; rintro e w' ⟨rfl, rfl⟩)
      | (go_at_call 33; with_reducible refine (Hbind.out _).mono ?_; rintro e w' ⟨rfl, rfl⟩))
    have hG5 := Blk.new w4 31 #[.int .i64 10, .int .i64 0, .string ⟨#[]⟩, .slice none 0 0, .slice none 0 0, .slice none 0 0]
    have hB5 := Blk.alloc hB4 (.cells #[.int .i64 10, .int .i64 0, .string ⟨#[]⟩, .slice none 0 0, .slice none 0 0, .slice none 0 0] 31)
    have hr5 := hr4.alloc (.cells #[.int .i64 10, .int .i64 0, .string ⟨#[]⟩, .slice none 0 0, .slice none 0 0, .slice none 0 0] 31)
    have hg5 := grownBy_trans hg04 (World.grownBy_alloc w4 (.cells #[.int .i64 10, .int .i64 0, .string ⟨#[]⟩, .slice none 0 0, .slice none 0 0, .slice none 0 0] 31) (some R))
    have hBG : w.heap.size < w4.heap.size := hB4.lt
    have hRG : R < w4.heap.size := hr4.lt_
    have hs5 : (w4.alloc (.cells #[.int .i64 10, .int .i64 0, .string ⟨#[]⟩, .slice none 0 0, .slice none 0 0, .slice none 0 0] 31)).heap.size = w4.heap.size + 1 := by simp
    clear hT4 hB4 hr4 hg4 hg04 Hw4 t0 hT3 hB3 hr3 hg3 Hcall
    generalize w4.alloc (.cells #[.int .i64 10, .int .i64 0, .string ⟨#[]⟩, .slice none 0 0, .slice none 0 0, .slice none 0 0] 31) = w5 at *
    generalize w4.heap.size = G at *
    have Hs5 := Lib.hid hs5; clear hs5
    have hne : w.heap.size ≠ G := Nat.ne_of_lt hBG
    have hx := Hx.out; clear Hx
    rw [head_vars (k := 10) (by decide), bnd_bnd] at hx
    have hst := names_any R _ text 58 (by decide) w5 hr5 hp1 hs
    rw [hp2] at hst
    cases hpure : Fo.namesT [58] r1 with
    | error ts =>
      rw [hpure, bndErr] at hx
      have Hx := Lib.hid hx; clear hx
      have hcall := hst.mono fun e w' h => h.miss hpure
      have Hcall := Lib.hid hcall; clear hcall hst hpure
      go_wp2_with (go_at_call 35; with_reducible refine (Hcall.out).mono ?_; rintro e w6 ⟨rfl, hg6⟩)
      exact ⟨rfl, RdPost.bad Hx.out (grownBy_trans hg5 hg6)⟩
    | ok p =>
      obtain ⟨vs, r2⟩ := p
      rw [hpure, bndOk, bndOk] at hx
      have hlen5 := Fo.namesT_less _ _ _ _ hpure
      have Hx := Lib.hid hx; clear hx
      have hcall := hst.mono fun e w' h => h.hit hpure
      have Hcall := Lib.hid hcall; clear hcall hst hpure
      go_wp2_with (go_at_call 35; with_reducible refine (Hcall.out).mono ?_; rintro e w6 ⟨v6, m6, rfl, hg6, hv6, hm6, ht6, hr6⟩; obtain ⟨Q5, q5, e5, rfl⟩ := hv6.form; have hGa5 := Blk.grown hG5 hg6 (fun e => by injection e with e; omega); have hBa5 := Blk.grown hB5 hg6 (fun e => by injection e with e; omega); obtain ⟨⟨g0, g1, g2, g3, g4, g5⟩, h0, h1, h2, h3, h4, h5⟩ := six_cells hGa5; have hG7 := blk_set3 hGa5 (.slice Q5 q5 e5); have hB7 := blk_far hBa5 hne 3 (.slice Q5 q5 e5); obtain ⟨⟨y0, y1, y2, y3, y4, y5⟩, -⟩ := six_cells hG7; obtain ⟨⟨z0, z1, z2, z3, z4, z5⟩, f0, f1, f2, f3, f4, f5⟩ := six_cells hB7)
      have hg7 : w.grownBy (w6.setCell ⟨G, 3, none⟩ (.slice Q5 q5 e5)) (some R) := grown_over (grownBy_trans hg5 hg6) (Nat.le_of_lt hBG) _
      have hr7 : Psr (w6.setCell ⟨G, 3, none⟩ (.slice Q5 q5 e5)) R text _ := Blk.far hr6 (Nat.ne_of_lt hRG) _
      rw [Hs5.out] at hv6
      have hvs7 := hv6.setG (i := 3) (u := .slice Q5 q5 e5)
      clear g0 g1 g2 g3 g4 g5 h0 h1 h2 h3 h4 h5 z0 z1 z2 z3 z4 z5 f0 f1 f2 f3 f4 f5 y0 y1 y2 y3 y4 y5
      have hsz : (w6.setCell ⟨G, 3, none⟩ (.slice Q5 q5 e5)).heap.size = w6.heap.size := by simp [World.setCell]
      generalize w6.setCell ⟨G, 3, none⟩ (.slice Q5 q5 e5) = w7 at *
      have Hs7 := Lib.hid hsz; clear hsz
      have hx := Hx.out; clear Hx Hcall
      have hst := kids_any R _ text 10 w7 hr7 hm6 hs (Hw.out.grown hg7 hg hRw) hg (Hform.out.less (by rw [ht6]; simp only [List.length_cons]; omega))
      rw [ht6] at hst
      cases hpure : kidsX 10 r2 with
      | error ts =>
        rw [hpure, bndErr] at hx
        have Hx := Lib.hid hx; clear hx
        have hcall := hst.mono fun e w' h => h.miss hpure
        have Hcall := Lib.hid hcall; clear hcall hst hpure
        go_wp2_with (go_at_call 36; with_reducible refine (Hcall.out).mono ?_; rintro e w6 ⟨rfl, hg6⟩)
        exact ⟨rfl, RdPost.bad Hx.out (grownBy_trans hg7 hg6)⟩
      | ok p =>
        obtain ⟨ks, r3⟩ := p
        rw [hpure, bndOk] at hx
        have Hx := Lib.hid hx; clear hx
        have hcall := hst.mono fun e w' h => h.hit hpure
        have Hcall := Lib.hid hcall; clear hcall hst hpure
        go_wp2_with (go_at_call 36; with_reducible refine (Hcall.out).mono ?_; rintro e w8 ⟨v8, m8, rfl, hg8, hv8, hm8, ht8, hr8⟩; obtain ⟨Q7, q7, e7, rfl⟩ := hv8.form; have hGa7 := Blk.grown hG7 hg8 (fun e => by injection e with e; omega); have hBa7 := Blk.grown hB7 hg8 (fun e => by injection e with e; omega); obtain ⟨⟨g0, g1, g2, g3, g4, g5⟩, h0, h1, h2, h3, h4, h5⟩ := six_cells hGa7; have hG9 := blk_set5 hGa7 (.slice Q7 q7 e7); have hB9 := blk_far hBa7 hne 5 (.slice Q7 q7 e7); obtain ⟨⟨y0, y1, y2, y3, y4, y5⟩, -⟩ := six_cells hG9; obtain ⟨⟨z0, z1, z2, z3, z4, z5⟩, f0, f1, f2, f3, f4, f5⟩ := six_cells hB9)
        have hg9 : w.grownBy (w8.setCell ⟨G, 5, none⟩ (.slice Q7 q7 e7)) (some R) := grown_over (grownBy_trans hg7 hg8) (Nat.le_of_lt hBG) _
        have hr9 : Psr (w8.setCell ⟨G, 5, none⟩ (.slice Q7 q7 e7)) R text _ := Blk.far hr8 (Nat.ne_of_lt hRG) _
        have hvs9 := (hvs7.grown hg8 (by omega)).setG (i := 5) (u := .slice Q7 q7 e7)
        have hks9 := (hv8.lower (show G + 1 ≤ w7.heap.size from Nat.succ_le_of_lt hG7.lt)).setG (i := 5) (u := .slice Q7 q7 e7)
        clear g0 g1 g2 g3 g4 g5 h0 h1 h2 h3 h4 h5 z0 z1 z2 z3 z4 z5 f0 f1 f2 f3 f4 f5 y0 y1 y2 y3 y4 y5
        have hsz : (w8.setCell ⟨G, 5, none⟩ (.slice Q7 q7 e7)).heap.size = w8.heap.size := by simp [World.setCell]
        generalize w8.setCell ⟨G, 5, none⟩ (.slice Q7 q7 e7) = w9 at *
        have Hs9 := Lib.hid hsz; clear hsz
        have hx := Hx.out; clear Hx Hcall
        rw [tail_args (k := 10) (by decide), bnd_bnd] at hx
        have hl := lit1 40 w9
        rw [Hs9.out] at hl
        rcases sign_cases 40 (by decide) r3 with ⟨ta, r4, hr', hpure, hkd⟩ | ⟨hpure, hno⟩
        rotate_left
        · rw [hpure, bndErr] at hx
          have Hx := Lib.hid hx; clear hx
          have hcall := take_err R _ text _ _ _ (hr9.alloc (.cells #[.string ⟨#[40]⟩] 9)) hm8 hs hl ht8 hno
          have Hcall := Lib.hid hcall; clear hcall hl hpure hno
          go_wp2_with (go_at_call 25; with_reducible refine (Hcall.out).mono ?_; rintro e w6 ⟨rfl, hb6⟩)
          exact ⟨rfl, RdPost.bad Hx.out (grownBy_trans hg9 (grownBy_trans (World.grownBy_alloc _ _ _) (grownBy_of_below hb6 _)))⟩
        rw [hpure, bndOk] at hx
        have hlen9 : r3.length = r4.length + 1 := by rw [hr']; rfl
        have Hx := Lib.hid hx; clear hx
        have htn := ht8
        rw [hr'] at htn
        obtain ⟨hm10, ht10, -⟩ := tok_over hm8 htn
        have hcall := take_ok R _ text _ _ _ (hr9.alloc (.cells #[.string ⟨#[40]⟩] 9)) hm8 hs hl htn ⟨#[40]⟩ hkd (by simp)
        have Hcall := Lib.hid hcall; clear hcall hl hpure htn hr'
        go_wp2_with (go_at_call 25; with_reducible refine (Hcall.out).mono ?_; rintro e w10 ⟨rfl, hr10, hgx10⟩; have hg10 := grownBy_trans (World.grownBy_alloc w9 (.cells #[.string ⟨#[40]⟩] 9) (some R)) hgx10; have hGa9 := Blk.grown hG9 hg10 (fun e => by injection e with e; omega); have hBa9 := Blk.grown hB9 hg10 (fun e => by injection e with e; omega); obtain ⟨⟨g0, g1, g2, g3, g4, g5⟩, h0, h1, h2, h3, h4, h5⟩ := six_cells hGa9; have hG11 := hGa9; have hB11 := hBa9; obtain ⟨⟨z0, z1, z2, z3, z4, z5⟩, f0, f1, f2, f3, f4, f5⟩ := six_cells hB11)
        have hg11 : w.grownBy w10 (some R) := grownBy_trans hg9 hg10
        have hr11 := hr10
        have hvs11 := (hvs9.grown hg10 (by omega))
        have hks11 := (hks9.grown hg10 (by omega))
        clear g0 g1 g2 g3 g4 g5 h0 h1 h2 h3 h4 h5 z0 z1 z2 z3 z4 z5 f0 f1 f2 f3 f4 f5
        have hx := Hx.out; clear Hx Hcall
        have hst := names_any R _ text 41 (by decide) w10 hr11 hm10 hs
        rw [ht10] at hst
        cases hpure : Fo.namesT [41] r4 with
        | error ts =>
          rw [hpure, bndErr] at hx
          have Hx := Lib.hid hx; clear hx
          have hcall := hst.mono fun e w' h => h.miss hpure
          have Hcall := Lib.hid hcall; clear hcall hst hpure
          go_wp2_with (go_at_call 35; with_reducible refine (Hcall.out).mono ?_; rintro e w6 ⟨rfl, hg6⟩)
          exact ⟨rfl, RdPost.bad Hx.out (grownBy_trans hg11 hg6)⟩
        | ok p =>
          obtain ⟨ar, r5⟩ := p
          rw [hpure, bndOk] at hx
          have hlen11 := Fo.namesT_less _ _ _ _ hpure
          have Hx := Lib.hid hx; clear hx
          have hcall := hst.mono fun e w' h => h.hit hpure
          have Hcall := Lib.hid hcall; clear hcall hst hpure
          go_wp2_with (go_at_call 35; with_reducible refine (Hcall.out).mono ?_; rintro e w12 ⟨v12, m12, rfl, hg12, hv12, hm12, ht12, hr12⟩; obtain ⟨Q11, q11, e11, rfl⟩ := hv12.form; have hGa11 := Blk.grown hG11 hg12 (fun e => by injection e with e; omega); have hBa11 := Blk.grown hB11 hg12 (fun e => by injection e with e; omega); obtain ⟨⟨g0, g1, g2, g3, g4, g5⟩, h0, h1, h2, h3, h4, h5⟩ := six_cells hGa11; have hG13 := blk_set4 hGa11 (.slice Q11 q11 e11); have hB13 := blk_far hBa11 hne 4 (.slice Q11 q11 e11); obtain ⟨⟨y0, y1, y2, y3, y4, y5⟩, -⟩ := six_cells hG13; obtain ⟨⟨z0, z1, z2, z3, z4, z5⟩, f0, f1, f2, f3, f4, f5⟩ := six_cells hB13)
          have hg13 : w.grownBy (w12.setCell ⟨G, 4, none⟩ (.slice Q11 q11 e11)) (some R) := grown_over (grownBy_trans hg11 hg12) (Nat.le_of_lt hBG) _
          have hr13 : Psr (w12.setCell ⟨G, 4, none⟩ (.slice Q11 q11 e11)) R text _ := Blk.far hr12 (Nat.ne_of_lt hRG) _
          have hvs13 := (hvs11.grown hg12 (by omega)).setG (i := 4) (u := .slice Q11 q11 e11)
          have hks13 := (hks11.grown hg12 (by omega)).setG (i := 4) (u := .slice Q11 q11 e11)
          have har13 := (hv12.lower (show G + 1 ≤ w10.heap.size from Nat.succ_le_of_lt hG11.lt)).setG (i := 4) (u := .slice Q11 q11 e11)
          have hv14 := form_val (k := 10) (a := 0) (nm := Fo.noName) (by decide) (hvs13.lower (show w.heap.size + 1 ≤ G + 1 by omega)) (har13.lower (show w.heap.size + 1 ≤ G + 1 by omega)) (hks13.lower (show w.heap.size + 1 ≤ G + 1 by omega))
          have hx6 := st6_cells (.int .i64 10) (.int .i64 0) (.string ⟨#[]⟩) (.slice Q5 q5 e5) (.slice Q11 q11 e11) (.slice Q7 q7 e7) hB13
          have hg8 := st6_grown (.int .i64 10) (.int .i64 0) (.string ⟨#[]⟩) (.slice Q5 q5 e5) (.slice Q11 q11 e11) (.slice Q7 q7 e7) hg13 (Nat.le_refl w.heap.size)
          have hp8 : Psr _ R text _ := st6_far (.int .i64 10) (.int .i64 0) (.string ⟨#[]⟩) (.slice Q5 q5 e5) (.slice Q11 q11 e11) (.slice Q7 q7 e7) hr13 (show R ≠ w.heap.size by omega)
          have hv8 := st6_val (.int .i64 10) (.int .i64 0) (.string ⟨#[]⟩) (.slice Q5 q5 e5) (.slice Q11 q11 e11) (.slice Q7 q7 e7) hv14
          unfold st6 at hx6 hg8 hp8 hv8
          obtain ⟨x0, x1, x2, x3, x4, x5⟩ := hx6
          refine bodyPost_ret (v := .agg #[.int .i64 10, .int .i64 0, .string ⟨#[]⟩, .slice Q5 q5 e5, .slice Q11 q11 e11, .slice Q7 q7 e7]) (by simp [results, Tryd.results24, go_sem, x0, x1, x2, x3, x4, x5]) rfl ?_
          exact RdPost.ok Hx.out _ _ hg8 ⟨_, rfl, hv8⟩ hm12 ht12 hp8
  · have hx := Hx.out; clear Hx
    rw [ht, bndErr] at hx
    have Hx := Lib.hid hx; clear hx
    have hcall := take_err R _ text _ _ _ (hr3.alloc (.cells #[.string ⟨#[40]⟩] 9)) ho1 hs hl ho2 hno
    have Hcall := Lib.hid hcall; clear hcall hl ht ho2
    go_wp2_with (go_at_call 25; with_reducible refine (Hcall.out).mono ?_; rintro e w4 ⟨rfl, hb4⟩)
    exact ⟨rfl, RdPost.bad Hx.out (grownBy_trans hg3 (grownBy_trans (World.grownBy_alloc _ _ _) (grownBy_of_below hb4 _)))⟩

end Go.Proofs.YtmnpelhcgobfaaaDoor
