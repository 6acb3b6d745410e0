/-
  Texts joined: Fword4, Fword5, Fword6, Fword7.
-/
import Derived.Test.YtmnpelhcgobfaaaDoorJi8

/-
  Walks: the method formula of the parser, at the word and.
-/
namespace Go.Proofs.YtmnpelhcgobfaaaDoor
open Go.RowKit
open Fo (F)

set_option maxRecDepth 100000 in
set_option maxHeartbeats 2000000 in
theorem form_and (R n : Nat) (text : ByteArray) (w : World) (hr : Psr w R text n) (hn : n ≤ text.size) (hs : text.size ≤ 100000) (hw : Words w) (hg : 0 < R) {a : Nat} {r : List Fo.Tok}
    (hts : Fo.toksAt text.toList n = (a, [97, 110, 100]) :: r) (hform : FormAt R text r.length) :
    Calls Tryd.prog 24 #[.pointer (some ⟨R, 0, none⟩)] w
      (RdPost R text w (Fo.formF (Fo.toksAt text.toList n)) (fun w' v f => NForm w' w.heap.size v f)) := by
  have hRw := hr.lt
  obtain ⟨ho1, ho2, -⟩ := tok_over hn hts
  have hx := form_word (a := a) (b := [97, 110, 100]) (k := 4) (by decide) r
  rw [← hts] at hx
  have Hx := Lib.hid hx; clear hx
  have Hw := Lib.hid hw; clear hw
  have Hform := Lib.hid hform; clear hform
  have hr0 : Psr (w.alloc (.cells #[.int .i64 0, .int .i64 0, .string ⟨#[]⟩, .slice none 0 0, .slice none 0 0, .slice none 0 0] 31)) R text n := hr.alloc _
  have hg0 : w.grownBy (w.alloc (.cells #[.int .i64 0, .int .i64 0, .string ⟨#[]⟩, .slice none 0 0, .slice none 0 0, .slice none 0 0] 31)) (some R) := World.grownBy_alloc _ _ _
  have hz0 := Blk.new w 31 #[.int .i64 0, .int .i64 0, .string ⟨#[]⟩, .slice none 0 0, .slice none 0 0, .slice none 0 0]
  have hs0 : (w.alloc (.cells #[.int .i64 0, .int .i64 0, .string ⟨#[]⟩, .slice none 0 0, .slice none 0 0, .slice none 0 0] 31)).heap.size = w.heap.size + 1 := by simp
  have hl := lit12 (w.alloc (.cells #[.int .i64 0, .int .i64 0, .string ⟨#[]⟩, .slice none 0 0, .slice none 0 0, .slice none 0 0] 31))
  rw [hs0] at hl
  have hcall := take_ok R n text _ _ _ (hr0.alloc (.cells cellsF.toArray 9)) hn hs hl hts ⟨#[97, 110, 100]⟩ ((kindB_self (x := [97, 110, 100]) (.inl (by decide))).2 rfl) (by simp)
  have Hcall := Lib.hid hcall; clear hcall hl hs0 hts
  go_enter Tryd.func24, Tryd.ntmps24
  go_wp2_with (go_at_call 25; with_reducible refine (Hcall.out).mono ?_; rintro e w2 ⟨rfl, hr2, hg2⟩; have hz2 := Blk.grown (Blk.alloc hz0 _) hg2 (fun e => by injection e with e; omega); have hg02 := grownBy_trans hg0 (grownBy_trans (World.grownBy_alloc _ _ _) hg2))
  have hs3 : (w2.alloc (.cells #[.string ⟨#[97, 110, 100]⟩, .string ⟨#[97, 110, 100]⟩, .int .i64 a] 62)).heap.size = w2.heap.size + 1 := by simp
  have hT3 := Blk.new w2 62 #[.string ⟨#[97, 110, 100]⟩, .string ⟨#[97, 110, 100]⟩, .int .i64 a]
  have hB3 := Blk.alloc hz2 (.cells #[.string ⟨#[97, 110, 100]⟩, .string ⟨#[97, 110, 100]⟩, .int .i64 a] 62)
  have hr3 := hr2.alloc (.cells #[.string ⟨#[97, 110, 100]⟩, .string ⟨#[97, 110, 100]⟩, .int .i64 a] 62)
  have hg3 := grownBy_trans hg02 (World.grownBy_alloc w2 (.cells #[.string ⟨#[97, 110, 100]⟩, .string ⟨#[97, 110, 100]⟩, .int .i64 a] 62) (some R))
  have hBT : w.heap.size < w2.heap.size := hz2.lt
  clear hz2 hr2 hg2 hg02 Hcall hz0 hr0 hg0
  generalize w2.alloc (.cells #[.string ⟨#[97, 110, 100]⟩, .string ⟨#[97, 110, 100]⟩, .int .i64 a] 62) = w3 at *
  generalize w2.heap.size = T at *
  have hl := lit1 40 w3
  rw [hs3] at hl
  rcases sign_cases 40 (by decide) r with ⟨a1, r1, hr', ht, hkd⟩ | ⟨ht, hno⟩
  · have hx := Hx.out; clear Hx
    rw [ht, bndOk] at hx
    have Hx := Lib.hid hx; clear hx
    subst hr'
    have hcall := take_ok R _ text _ _ _ (hr3.alloc (.cells #[.string ⟨#[40]⟩] 9)) ho1 hs hl ho2 ⟨#[40]⟩ hkd (by simp)
    obtain ⟨hp1, hp2, -⟩ := tok_over ho1 ho2
    have Hcall := Lib.hid hcall; clear hcall hl ht hkd ho2
    have hbind : ∀ W, Calls Tryd.prog 33 #[.int .i64 4] W fun e w' => e = .returned (.bool (Fo.bindsB 4)) ∧ W = w' := fun W => fbinds_any 4 W
    rw [show Fo.bindsB 4 = false by decide] at hbind
    have Hbind := Lib.hid hbind; clear hbind
    go_wp2_with (first
      | (go_at_call 25; with_reducible refine (Hcall.out).mono ?_; rintro e w4 ⟨rfl, hr4, hg4⟩; have hT4 := Blk.grown (Blk.alloc hT3 _) hg4 (fun e => by injection e with e; omega); have hB4 := Blk.grown (Blk.alloc hB3 _) hg4 (fun e => by injection e with e; omega); have t0 := Blk.cell0 hT4; have hg04 := grownBy_trans hg3 (grownBy_trans (World.grownBy_alloc _ _ _) hg4); have hw4 := Hw.out.grown hg04 hg hRw; have Hw4 := Lib.hid hw4; clear hw4)
      | (go_at_call 32; with_reducible refine (kindOf_4 _ Hw4.out).mono ?_; rintro e w' ⟨rfl, rfl⟩)
      | (go_at_call 33; with_reducible refine (Hbind.out _).mono ?_; rintro e w' ⟨rfl, rfl⟩))
    have hG5 := Blk.new w4 31 #[.int .i64 4, .int .i64 0, .string ⟨#[]⟩, .slice none 0 0, .slice none 0 0, .slice none 0 0]
    have hB5 := Blk.alloc hB4 (.cells #[.int .i64 4, .int .i64 0, .string ⟨#[]⟩, .slice none 0 0, .slice none 0 0, .slice none 0 0] 31)
    have hr5 := hr4.alloc (.cells #[.int .i64 4, .int .i64 0, .string ⟨#[]⟩, .slice none 0 0, .slice none 0 0, .slice none 0 0] 31)
    have hg5 := grownBy_trans hg04 (World.grownBy_alloc w4 (.cells #[.int .i64 4, .int .i64 0, .string ⟨#[]⟩, .slice none 0 0, .slice none 0 0, .slice none 0 0] 31) (some R))
    have hBG : w.heap.size < w4.heap.size := hB4.lt
    have hRG : R < w4.heap.size := hr4.lt_
    have hs5 : (w4.alloc (.cells #[.int .i64 4, .int .i64 0, .string ⟨#[]⟩, .slice none 0 0, .slice none 0 0, .slice none 0 0] 31)).heap.size = w4.heap.size + 1 := by simp
    clear hT4 hB4 hr4 hg4 hg04 Hw4 t0 hT3 hB3 hr3 hg3 Hcall
    generalize w4.alloc (.cells #[.int .i64 4, .int .i64 0, .string ⟨#[]⟩, .slice none 0 0, .slice none 0 0, .slice none 0 0] 31) = w5 at *
    generalize w4.heap.size = G at *
    have Hs5 := Lib.hid hs5; clear hs5
    have hne : w.heap.size ≠ G := Nat.ne_of_lt hBG
    have hx := Hx.out; clear Hx
    rw [head_none (k := 4) (by decide), bndOk] at hx
    have hst := kids_any R _ text 4 w5 hr5 hp1 hs (Hw.out.grown hg5 hg hRw) hg (Hform.out.less (by rw [hp2]; simp only [List.length_cons]; omega))
    rw [hp2] at hst
    cases hpure : kidsX 4 r1 with
    | error ts =>
      rw [hpure, bndErr] at hx
      have Hx := Lib.hid hx; clear hx
      have hcall := hst.mono fun e w' h => h.miss hpure
      have Hcall := Lib.hid hcall; clear hcall hst hpure
      go_wp2_with (go_at_call 36; with_reducible refine (Hcall.out).mono ?_; rintro e w6 ⟨rfl, hg6⟩)
      exact ⟨rfl, RdPost.bad Hx.out (grownBy_trans hg5 hg6)⟩
    | ok p =>
      obtain ⟨ks, r2⟩ := p
      rw [hpure, bndOk] at hx
      rw [tail_none (k := 4) (by decide), bndOk] at hx
      have Hx := Lib.hid hx; clear hx
      have hcall := hst.mono fun e w' h => h.hit hpure
      have Hcall := Lib.hid hcall; clear hcall hst hpure
      go_wp2_with (go_at_call 36; with_reducible refine (Hcall.out).mono ?_; rintro e w6 ⟨v6, m6, rfl, hg6, hv6, hm6, ht6, hr6⟩; obtain ⟨Q5, q5, e5, rfl⟩ := hv6.form; have hGa5 := Blk.grown hG5 hg6 (fun e => by injection e with e; omega); have hBa5 := Blk.grown hB5 hg6 (fun e => by injection e with e; omega); obtain ⟨⟨g0, g1, g2, g3, g4, g5⟩, h0, h1, h2, h3, h4, h5⟩ := six_cells hGa5; have hG7 := blk_set5 hGa5 (.slice Q5 q5 e5); have hB7 := blk_far hBa5 hne 5 (.slice Q5 q5 e5); obtain ⟨⟨y0, y1, y2, y3, y4, y5⟩, -⟩ := six_cells hG7; obtain ⟨⟨z0, z1, z2, z3, z4, z5⟩, f0, f1, f2, f3, f4, f5⟩ := six_cells hB7)
      have hg7 : w.grownBy (w6.setCell ⟨G, 5, none⟩ (.slice Q5 q5 e5)) (some R) := grown_over (grownBy_trans hg5 hg6) (Nat.le_of_lt hBG) _
      have hr7 : Psr (w6.setCell ⟨G, 5, none⟩ (.slice Q5 q5 e5)) R text _ := Blk.far hr6 (Nat.ne_of_lt hRG) _
      rw [Hs5.out] at hv6
      have hks7 := hv6.setG (i := 5) (u := .slice Q5 q5 e5)
      have hv8 := form_val (k := 4) (a := 0) (nm := Fo.noName) (by decide) Strs.nil Strs.nil (hks7.lower (show w.heap.size + 1 ≤ G + 1 by omega))
      have hx6 := st6_cells (.int .i64 4) (.int .i64 0) (.string ⟨#[]⟩) (.slice none 0 0) (.slice none 0 0) (.slice Q5 q5 e5) hB7
      have hg8 := st6_grown (.int .i64 4) (.int .i64 0) (.string ⟨#[]⟩) (.slice none 0 0) (.slice none 0 0) (.slice Q5 q5 e5) hg7 (Nat.le_refl w.heap.size)
      have hp8 : Psr _ R text _ := st6_far (.int .i64 4) (.int .i64 0) (.string ⟨#[]⟩) (.slice none 0 0) (.slice none 0 0) (.slice Q5 q5 e5) hr7 (show R ≠ w.heap.size by omega)
      have hv8 := st6_val (.int .i64 4) (.int .i64 0) (.string ⟨#[]⟩) (.slice none 0 0) (.slice none 0 0) (.slice Q5 q5 e5) hv8
      unfold st6 at hx6 hg8 hp8 hv8
      obtain ⟨x0, x1, x2, x3, x4, x5⟩ := hx6
      refine bodyPost_ret (v := .agg #[.int .i64 4, .int .i64 0, .string ⟨#[]⟩, .slice none 0 0, .slice none 0 0, .slice Q5 q5 e5]) (by simp [results, Tryd.results24, go_sem, x0, x1, x2, x3, x4, x5]) rfl ?_
      exact RdPost.ok Hx.out _ _ hg8 ⟨_, rfl, hv8⟩ hm6 ht6 hp8
  · have hx := Hx.out; clear Hx
    rw [ht, bndErr] at hx
    have Hx := Lib.hid hx; clear hx
    have hcall := take_err R _ text _ _ _ (hr3.alloc (.cells #[.string ⟨#[40]⟩] 9)) ho1 hs hl ho2 hno
    have Hcall := Lib.hid hcall; clear hcall hl ht ho2
    go_wp2_with (go_at_call 25; with_reducible refine (Hcall.out).mono ?_; rintro e w4 ⟨rfl, hb4⟩)
    exact ⟨rfl, RdPost.bad Hx.out (grownBy_trans hg3 (grownBy_trans (World.grownBy_alloc _ _ _) (grownBy_of_below hb4 _)))⟩

end Go.Proofs.YtmnpelhcgobfaaaDoor

/-
  Walks: the method formula of the parser, at the word or.
-/
namespace Go.Proofs.YtmnpelhcgobfaaaDoor
open Go.RowKit
open Fo (F)

set_option maxRecDepth 100000 in
set_option maxHeartbeats 2000000 in
theorem form_or (R n : Nat) (text : ByteArray) (w : World) (hr : Psr w R text n) (hn : n ≤ text.size) (hs : text.size ≤ 100000) (hw : Words w) (hg : 0 < R) {a : Nat} {r : List Fo.Tok}
    (hts : Fo.toksAt text.toList n = (a, [111, 114]) :: r) (hform : FormAt R text r.length) :
    Calls Tryd.prog 24 #[.pointer (some ⟨R, 0, none⟩)] w
      (RdPost R text w (Fo.formF (Fo.toksAt text.toList n)) (fun w' v f => NForm w' w.heap.size v f)) := by
  have hRw := hr.lt
  obtain ⟨ho1, ho2, -⟩ := tok_over hn hts
  have hx := form_word (a := a) (b := [111, 114]) (k := 5) (by decide) r
  rw [← hts] at hx
  have Hx := Lib.hid hx; clear hx
  have Hw := Lib.hid hw; clear hw
  have Hform := Lib.hid hform; clear hform
  have hr0 : Psr (w.alloc (.cells #[.int .i64 0, .int .i64 0, .string ⟨#[]⟩, .slice none 0 0, .slice none 0 0, .slice none 0 0] 31)) R text n := hr.alloc _
  have hg0 : w.grownBy (w.alloc (.cells #[.int .i64 0, .int .i64 0, .string ⟨#[]⟩, .slice none 0 0, .slice none 0 0, .slice none 0 0] 31)) (some R) := World.grownBy_alloc _ _ _
  have hz0 := Blk.new w 31 #[.int .i64 0, .int .i64 0, .string ⟨#[]⟩, .slice none 0 0, .slice none 0 0, .slice none 0 0]
  have hs0 : (w.alloc (.cells #[.int .i64 0, .int .i64 0, .string ⟨#[]⟩, .slice none 0 0, .slice none 0 0, .slice none 0 0] 31)).heap.size = w.heap.size + 1 := by simp
  have hl := lit12 (w.alloc (.cells #[.int .i64 0, .int .i64 0, .string ⟨#[]⟩, .slice none 0 0, .slice none 0 0, .slice none 0 0] 31))
  rw [hs0] at hl
  have hcall := take_ok R n text _ _ _ (hr0.alloc (.cells cellsF.toArray 9)) hn hs hl hts ⟨#[111, 114]⟩ ((kindB_self (x := [111, 114]) (.inl (by decide))).2 rfl) (by simp)
  have Hcall := Lib.hid hcall; clear hcall hl hs0 hts
  go_enter Tryd.func24, Tryd.ntmps24
  go_wp2_with (go_at_call 25; with_reducible refine (Hcall.out).mono ?_; rintro e w2 ⟨rfl, hr2, hg2⟩; have hz2 := Blk.grown (Blk.alloc hz0 _) hg2 (fun e => by injection e with e; omega); have hg02 := grownBy_trans hg0 (grownBy_trans (World.grownBy_alloc _ _ _) hg2))
  have hs3 : (w2.alloc (.cells #[.string ⟨#[111, 114]⟩, .string ⟨#[111, 114]⟩, .int .i64 a] 62)).heap.size = w2.heap.size + 1 := by simp
  have hT3 := Blk.new w2 62 #[.string ⟨#[111, 114]⟩, .string ⟨#[111, 114]⟩, .int .i64 a]
  have hB3 := Blk.alloc hz2 (.cells #[.string ⟨#[111, 114]⟩, .string ⟨#[111, 114]⟩, .int .i64 a] 62)
  have hr3 := hr2.alloc (.cells #[.string ⟨#[111, 114]⟩, .string ⟨#[111, 114]⟩, .int .i64 a] 62)
  have hg3 := grownBy_trans hg02 (World.grownBy_alloc w2 (.cells #[.string ⟨#[111, 114]⟩, .string ⟨#[111, 114]⟩, .int .i64 a] 62) (some R))
  have hBT : w.heap.size < w2.heap.size := hz2.lt
  clear hz2 hr2 hg2 hg02 Hcall hz0 hr0 hg0
  generalize w2.alloc (.cells #[.string ⟨#[111, 114]⟩, .string ⟨#[111, 114]⟩, .int .i64 a] 62) = w3 at *
  generalize w2.heap.size = T at *
  have hl := lit1 40 w3
  rw [hs3] at hl
  rcases sign_cases 40 (by decide) r with ⟨a1, r1, hr', ht, hkd⟩ | ⟨ht, hno⟩
  · have hx := Hx.out; clear Hx
    rw [ht, bndOk] at hx
    have Hx := Lib.hid hx; clear hx
    subst hr'
    have hcall := take_ok R _ text _ _ _ (hr3.alloc (.cells #[.string ⟨#[40]⟩] 9)) ho1 hs hl ho2 ⟨#[40]⟩ hkd (by simp)
    obtain ⟨hp1, hp2, -⟩ := tok_over ho1 ho2
    have Hcall := Lib.hid hcall; clear hcall hl ht hkd ho2
    have hbind : ∀ W, Calls Tryd.prog 33 #[.int .i64 5] W fun e w' => e = .returned (.bool (Fo.bindsB 5)) ∧ W = w' := fun W => fbinds_any 5 W
    rw [show Fo.bindsB 5 = false by decide] at hbind
    have Hbind := Lib.hid hbind; clear hbind
    go_wp2_with (first
      | (go_at_call 25; with_reducible refine (Hcall.out).mono ?_; rintro e w4 ⟨rfl, hr4, hg4⟩; have hT4 := Blk.grown (Blk.alloc hT3 _) hg4 (fun e => by injection e with e; omega); have hB4 := Blk.grown (Blk.alloc hB3 _) hg4 (fun e => by injection e with e; omega); have t0 := Blk.cell0 hT4; have hg04 := grownBy_trans hg3 (grownBy_trans (World.grownBy_alloc _ _ _) hg4); have hw4 := Hw.out.grown hg04 hg hRw; have Hw4 := Lib.hid hw4; clear hw4)
      | (go_at_call 32; with_reducible refine (kindOf_5 _ Hw4.out).mono ?_; rintro e w' ⟨rfl, rfl⟩)
      | (go_at_call 33; with_reducible refine (Hbind.out _).mono ?_; rintro e w' ⟨rfl, rfl⟩))
    have hG5 := Blk.new w4 31 #[.int .i64 5, .int .i64 0, .string ⟨#[]⟩, .slice none 0 0, .slice none 0 0, .slice none 0 0]
    have hB5 := Blk.alloc hB4 (.cells #[.int .i64 5, .int .i64 0, .string ⟨#[]⟩, .slice none 0 0, .slice none 0 0, .slice none 0 0] 31)
    have hr5 := hr4.alloc (.cells #[.int .i64 5, .int .i64 0, .string ⟨#[]⟩, .slice none 0 0, .slice none 0 0, .slice none 0 0] 31)
    have hg5 := grownBy_trans hg04 (World.grownBy_alloc w4 (.cells #[.int .i64 5, .int .i64 0, .string ⟨#[]⟩, .slice none 0 0, .slice none 0 0, .slice none 0 0] 31) (some R))
    have hBG : w.heap.size < w4.heap.size := hB4.lt
    have hRG : R < w4.heap.size := hr4.lt_
    have hs5 : (w4.alloc (.cells #[.int .i64 5, .int .i64 0, .string ⟨#[]⟩, .slice none 0 0, .slice none 0 0, .slice none 0 0] 31)).heap.size = w4.heap.size + 1 := by simp
    clear hT4 hB4 hr4 hg4 hg04 Hw4 t0 hT3 hB3 hr3 hg3 Hcall
    generalize w4.alloc (.cells #[.int .i64 5, .int .i64 0, .string ⟨#[]⟩, .slice none 0 0, .slice none 0 0, .slice none 0 0] 31) = w5 at *
    generalize w4.heap.size = G at *
    have Hs5 := Lib.hid hs5; clear hs5
    have hne : w.heap.size ≠ G := Nat.ne_of_lt hBG
    have hx := Hx.out; clear Hx
    rw [head_none (k := 5) (by decide), bndOk] at hx
    have hst := kids_any R _ text 5 w5 hr5 hp1 hs (Hw.out.grown hg5 hg hRw) hg (Hform.out.less (by rw [hp2]; simp only [List.length_cons]; omega))
    rw [hp2] at hst
    cases hpure : kidsX 5 r1 with
    | error ts =>
      rw [hpure, bndErr] at hx
      have Hx := Lib.hid hx; clear hx
      have hcall := hst.mono fun e w' h => h.miss hpure
      have Hcall := Lib.hid hcall; clear hcall hst hpure
      go_wp2_with (go_at_call 36; with_reducible refine (Hcall.out).mono ?_; rintro e w6 ⟨rfl, hg6⟩)
      exact ⟨rfl, RdPost.bad Hx.out (grownBy_trans hg5 hg6)⟩
    | ok p =>
      obtain ⟨ks, r2⟩ := p
      rw [hpure, bndOk] at hx
      rw [tail_none (k := 5) (by decide), bndOk] at hx
      have Hx := Lib.hid hx; clear hx
      have hcall := hst.mono fun e w' h => h.hit hpure
      have Hcall := Lib.hid hcall; clear hcall hst hpure
      go_wp2_with (go_at_call 36; with_reducible refine (Hcall.out).mono ?_; rintro e w6 ⟨v6, m6, rfl, hg6, hv6, hm6, ht6, hr6⟩; obtain ⟨Q5, q5, e5, rfl⟩ := hv6.form; have hGa5 := Blk.grown hG5 hg6 (fun e => by injection e with e; omega); have hBa5 := Blk.grown hB5 hg6 (fun e => by injection e with e; omega); obtain ⟨⟨g0, g1, g2, g3, g4, g5⟩, h0, h1, h2, h3, h4, h5⟩ := six_cells hGa5; have hG7 := blk_set5 hGa5 (.slice Q5 q5 e5); have hB7 := blk_far hBa5 hne 5 (.slice Q5 q5 e5); obtain ⟨⟨y0, y1, y2, y3, y4, y5⟩, -⟩ := six_cells hG7; obtain ⟨⟨z0, z1, z2, z3, z4, z5⟩, f0, f1, f2, f3, f4, f5⟩ := six_cells hB7)
      have hg7 : w.grownBy (w6.setCell ⟨G, 5, none⟩ (.slice Q5 q5 e5)) (some R) := grown_over (grownBy_trans hg5 hg6) (Nat.le_of_lt hBG) _
      have hr7 : Psr (w6.setCell ⟨G, 5, none⟩ (.slice Q5 q5 e5)) R text _ := Blk.far hr6 (Nat.ne_of_lt hRG) _
      rw [Hs5.out] at hv6
      have hks7 := hv6.setG (i := 5) (u := .slice Q5 q5 e5)
      have hv8 := form_val (k := 5) (a := 0) (nm := Fo.noName) (by decide) Strs.nil Strs.nil (hks7.lower (show w.heap.size + 1 ≤ G + 1 by omega))
      have hx6 := st6_cells (.int .i64 5) (.int .i64 0) (.string ⟨#[]⟩) (.slice none 0 0) (.slice none 0 0) (.slice Q5 q5 e5) hB7
      have hg8 := st6_grown (.int .i64 5) (.int .i64 0) (.string ⟨#[]⟩) (.slice none 0 0) (.slice none 0 0) (.slice Q5 q5 e5) hg7 (Nat.le_refl w.heap.size)
      have hp8 : Psr _ R text _ := st6_far (.int .i64 5) (.int .i64 0) (.string ⟨#[]⟩) (.slice none 0 0) (.slice none 0 0) (.slice Q5 q5 e5) hr7 (show R ≠ w.heap.size by omega)
      have hv8 := st6_val (.int .i64 5) (.int .i64 0) (.string ⟨#[]⟩) (.slice none 0 0) (.slice none 0 0) (.slice Q5 q5 e5) hv8
      unfold st6 at hx6 hg8 hp8 hv8
      obtain ⟨x0, x1, x2, x3, x4, x5⟩ := hx6
      refine bodyPost_ret (v := .agg #[.int .i64 5, .int .i64 0, .string ⟨#[]⟩, .slice none 0 0, .slice none 0 0, .slice Q5 q5 e5]) (by simp [results, Tryd.results24, go_sem, x0, x1, x2, x3, x4, x5]) rfl ?_
      exact RdPost.ok Hx.out _ _ hg8 ⟨_, rfl, hv8⟩ hm6 ht6 hp8
  · have hx := Hx.out; clear Hx
    rw [ht, bndErr] at hx
    have Hx := Lib.hid hx; clear hx
    have hcall := take_err R _ text _ _ _ (hr3.alloc (.cells #[.string ⟨#[40]⟩] 9)) ho1 hs hl ho2 hno
    have Hcall := Lib.hid hcall; clear hcall hl ht ho2
    go_wp2_with (go_at_call 25; with_reducible refine (Hcall.out).mono ?_; rintro e w4 ⟨rfl, hb4⟩)
    exact ⟨rfl, RdPost.bad Hx.out (grownBy_trans hg3 (grownBy_trans (World.grownBy_alloc _ _ _) (grownBy_of_below hb4 _)))⟩

end Go.Proofs.YtmnpelhcgobfaaaDoor

/-
  Walks: the method formula of the parser, at the word some.
-/
namespace Go.Proofs.YtmnpelhcgobfaaaDoor
open Go.RowKit
open Fo (F)

set_option maxRecDepth 100000 in
set_option maxHeartbeats 2000000 in
theorem form_some (R n : Nat) (text : ByteArray) (w : World) (hr : Psr w R text n) (hn : n ≤ text.size) (hs : text.size ≤ 100000) (hw : Words w) (hg : 0 < R) {a : Nat} {r : List Fo.Tok}
    (hts : Fo.toksAt text.toList n = (a, [115, 111, 109, 101]) :: r) (hform : FormAt R text r.length) :
    Calls Tryd.prog 24 #[.pointer (some ⟨R, 0, none⟩)] w
      (RdPost R text w (Fo.formF (Fo.toksAt text.toList n)) (fun w' v f => NForm w' w.heap.size v f)) := by
  have hRw := hr.lt
  obtain ⟨ho1, ho2, -⟩ := tok_over hn hts
  have hx := form_word (a := a) (b := [115, 111, 109, 101]) (k := 6) (by decide) r
  rw [← hts] at hx
  have Hx := Lib.hid hx; clear hx
  have Hw := Lib.hid hw; clear hw
  have Hform := Lib.hid hform; clear hform
  have hr0 : Psr (w.alloc (.cells #[.int .i64 0, .int .i64 0, .string ⟨#[]⟩, .slice none 0 0, .slice none 0 0, .slice none 0 0] 31)) R text n := hr.alloc _
  have hg0 : w.grownBy (w.alloc (.cells #[.int .i64 0, .int .i64 0, .string ⟨#[]⟩, .slice none 0 0, .slice none 0 0, .slice none 0 0] 31)) (some R) := World.grownBy_alloc _ _ _
  have hz0 := Blk.new w 31 #[.int .i64 0, .int .i64 0, .string ⟨#[]⟩, .slice none 0 0, .slice none 0 0, .slice none 0 0]
  have hs0 : (w.alloc (.cells #[.int .i64 0, .int .i64 0, .string ⟨#[]⟩, .slice none 0 0, .slice none 0 0, .slice none 0 0] 31)).heap.size = w.heap.size + 1 := by simp
  have hl := lit12 (w.alloc (.cells #[.int .i64 0, .int .i64 0, .string ⟨#[]⟩, .slice none 0 0, .slice none 0 0, .slice none 0 0] 31))
  rw [hs0] at hl
  have hcall := take_ok R n text _ _ _ (hr0.alloc (.cells cellsF.toArray 9)) hn hs hl hts ⟨#[115, 111, 109, 101]⟩ ((kindB_self (x := [115, 111, 109, 101]) (.inl (by decide))).2 rfl) (by simp)
  have Hcall := Lib.hid hcall; clear hcall hl hs0 hts
  go_enter Tryd.func24, Tryd.ntmps24
  go_wp2_with (go_at_call 25; with_reducible refine (Hcall.out).mono ?_; rintro e w2 ⟨rfl, hr2, hg2⟩; have hz2 := Blk.grown (Blk.alloc hz0 _) hg2 (fun e => by injection e with e; omega); have hg02 := grownBy_trans hg0 (grownBy_trans (World.grownBy_alloc _ _ _) hg2))
  have hs3 : (w2.alloc (.cells #[.string ⟨#[115, 111, 109, 101]⟩, .string ⟨#[115, 111, 109, 101]⟩, .int .i64 a] 62)).heap.size = w2.heap.size + 1 := by simp
  have hT3 := Blk.new w2 62 #[.string ⟨#[115, 111, 109, 101]⟩, .string ⟨#[115, 111, 109, 101]⟩, .int .i64 a]
  have hB3 := Blk.alloc hz2 (.cells #[.string ⟨#[115, 111, 109, 101]⟩, .string ⟨#[115, 111, 109, 101]⟩, .int .i64 a] 62)
  have hr3 := hr2.alloc (.cells #[.string ⟨#[115, 111, 109, 101]⟩, .string ⟨#[115, 111, 109, 101]⟩, .int .i64 a] 62)
  have hg3 := grownBy_trans hg02 (World.grownBy_alloc w2 (.cells #[.string ⟨#[115, 111, 109, 101]⟩, .string ⟨#[115, 111, 109, 101]⟩, .int .i64 a] 62) (some R))
  have hBT : w.heap.size < w2.heap.size := hz2.lt
  clear hz2 hr2 hg2 hg02 Hcall hz0 hr0 hg0
  generalize w2.alloc (.cells #[.string ⟨#[115, 111, 109, 101]⟩, .string ⟨#[115, 111, 109, 101]⟩, .int .i64 a] 62) = w3 at *
  generalize w2.heap.size = T at *
  have hl := lit1 40 w3
  rw [hs3] at hl
  rcases sign_cases 40 (by decide) r with ⟨a1, r1, hr', ht, hkd⟩ | ⟨ht, hno⟩
  · have hx := Hx.out; clear Hx
    rw [ht, bndOk] at hx
    have Hx := Lib.hid hx; clear hx
    subst hr'
    have hcall := take_ok R _ text _ _ _ (hr3.alloc (.cells #[.string ⟨#[40]⟩] 9)) ho1 hs hl ho2 ⟨#[40]⟩ hkd (by simp)
    obtain ⟨hp1, hp2, -⟩ := tok_over ho1 ho2
    have Hcall := Lib.hid hcall; clear hcall hl ht hkd ho2
    have hbind : ∀ W, Calls Tryd.prog 33 #[.int .i64 6] W fun e w' => e = .returned (.bool (Fo.bindsB 6)) ∧ W = w' := fun W => fbinds_any 6 W
    rw [show Fo.bindsB 6 = false by decide] at hbind
    have Hbind := Lib.hid hbind; clear hbind
    go_wp2_with (first
      | (go_at_call 25; with_reducible refine (Hcall.out).mono ?_; rintro e w4 ⟨rfl, hr4, hg4⟩; have hT4 := Blk.grown (Blk.alloc hT3 _) hg4 (fun e => by injection e with e; omega); have hB4 := Blk.grown (Blk.alloc hB3 _) hg4 (fun e => by injection e with e; omega); have t0 := Blk.cell0 hT4; have hg04 := grownBy_trans hg3 (grownBy_trans (World.grownBy_alloc _ _ _) hg4); have hw4 := Hw.out.grown hg04 hg hRw; have Hw4 := Lib.hid hw4; clear hw4)
      | (go_at_call 32; with_reducible refine (kindOf_6 _ Hw4.out).mono ?_; rintro e w' ⟨rfl, rfl⟩)
      | (go_at_call 33; with_reducible refine (Hbind.out _).mono ?_; rintro e w' ⟨rfl, rfl⟩))
    have hG5 := Blk.new w4 31 #[.int .i64 6, .int .i64 0, .string ⟨#[]⟩, .slice none 0 0, .slice none 0 0, .slice none 0 0]
    have hB5 := Blk.alloc hB4 (.cells #[.int .i64 6, .int .i64 0, .string ⟨#[]⟩, .slice none 0 0, .slice none 0 0, .slice none 0 0] 31)
    have hr5 := hr4.alloc (.cells #[.int .i64 6, .int .i64 0, .string ⟨#[]⟩, .slice none 0 0, .slice none 0 0, .slice none 0 0] 31)
    have hg5 := grownBy_trans hg04 (World.grownBy_alloc w4 (.cells #[.int .i64 6, .int .i64 0, .string ⟨#[]⟩, .slice none 0 0, .slice none 0 0, .slice none 0 0] 31) (some R))
    have hBG : w.heap.size < w4.heap.size := hB4.lt
    have hRG : R < w4.heap.size := hr4.lt_
    have hs5 : (w4.alloc (.cells #[.int .i64 6, .int .i64 0, .string ⟨#[]⟩, .slice none 0 0, .slice none 0 0, .slice none 0 0] 31)).heap.size = w4.heap.size + 1 := by simp
    clear hT4 hB4 hr4 hg4 hg04 Hw4 t0 hT3 hB3 hr3 hg3 Hcall
    generalize w4.alloc (.cells #[.int .i64 6, .int .i64 0, .string ⟨#[]⟩, .slice none 0 0, .slice none 0 0, .slice none 0 0] 31) = w5 at *
    generalize w4.heap.size = G at *
    have Hs5 := Lib.hid hs5; clear hs5
    have hne : w.heap.size ≠ G := Nat.ne_of_lt hBG
    have hx := Hx.out; clear Hx
    rw [head_vars (k := 6) (by decide), bnd_bnd] at hx
    have hst := names_any R _ text 58 (by decide) w5 hr5 hp1 hs
    rw [hp2] at hst
    cases hpure : Fo.namesT [58] r1 with
    | error ts =>
      rw [hpure, bndErr] at hx
      have Hx := Lib.hid hx; clear hx
      have hcall := hst.mono fun e w' h => h.miss hpure
      have Hcall := Lib.hid hcall; clear hcall hst hpure
      go_wp2_with (go_at_call 35; with_reducible refine (Hcall.out).mono ?_; rintro e w6 ⟨rfl, hg6⟩)
      exact ⟨rfl, RdPost.bad Hx.out (grownBy_trans hg5 hg6)⟩
    | ok p =>
      obtain ⟨vs, r2⟩ := p
      rw [hpure, bndOk, bndOk] at hx
      have hlen5 := Fo.namesT_less _ _ _ _ hpure
      have Hx := Lib.hid hx; clear hx
      have hcall := hst.mono fun e w' h => h.hit hpure
      have Hcall := Lib.hid hcall; clear hcall hst hpure
      go_wp2_with (go_at_call 35; with_reducible refine (Hcall.out).mono ?_; rintro e w6 ⟨v6, m6, rfl, hg6, hv6, hm6, ht6, hr6⟩; obtain ⟨Q5, q5, e5, rfl⟩ := hv6.form; have hGa5 := Blk.grown hG5 hg6 (fun e => by injection e with e; omega); have hBa5 := Blk.grown hB5 hg6 (fun e => by injection e with e; omega); obtain ⟨⟨g0, g1, g2, g3, g4, g5⟩, h0, h1, h2, h3, h4, h5⟩ := six_cells hGa5; have hG7 := blk_set3 hGa5 (.slice Q5 q5 e5); have hB7 := blk_far hBa5 hne 3 (.slice Q5 q5 e5); obtain ⟨⟨y0, y1, y2, y3, y4, y5⟩, -⟩ := six_cells hG7; obtain ⟨⟨z0, z1, z2, z3, z4, z5⟩, f0, f1, f2, f3, f4, f5⟩ := six_cells hB7)
      have hg7 : w.grownBy (w6.setCell ⟨G, 3, none⟩ (.slice Q5 q5 e5)) (some R) := grown_over (grownBy_trans hg5 hg6) (Nat.le_of_lt hBG) _
      have hr7 : Psr (w6.setCell ⟨G, 3, none⟩ (.slice Q5 q5 e5)) R text _ := Blk.far hr6 (Nat.ne_of_lt hRG) _
      rw [Hs5.out] at hv6
      have hvs7 := hv6.setG (i := 3) (u := .slice Q5 q5 e5)
      clear g0 g1 g2 g3 g4 g5 h0 h1 h2 h3 h4 h5 z0 z1 z2 z3 z4 z5 f0 f1 f2 f3 f4 f5 y0 y1 y2 y3 y4 y5
      have hsz : (w6.setCell ⟨G, 3, none⟩ (.slice Q5 q5 e5)).heap.size = w6.heap.size := by simp [World.setCell]
      generalize w6.setCell ⟨G, 3, none⟩ (.slice Q5 q5 e5) = w7 at *
      have Hs7 := Lib.hid hsz; clear hsz
      have hx := Hx.out; clear Hx Hcall
      have hst := kids_any R _ text 6 w7 hr7 hm6 hs (Hw.out.grown hg7 hg hRw) hg (Hform.out.less (by rw [ht6]; simp only [List.length_cons]; omega))
      rw [ht6] at hst
      cases hpure : kidsX 6 r2 with
      | error ts =>
        rw [hpure, bndErr] at hx
        have Hx := Lib.hid hx; clear hx
        have hcall := hst.mono fun e w' h => h.miss hpure
        have Hcall := Lib.hid hcall; clear hcall hst hpure
        go_wp2_with (go_at_call 36; with_reducible refine (Hcall.out).mono ?_; rintro e w6 ⟨rfl, hg6⟩)
        exact ⟨rfl, RdPost.bad Hx.out (grownBy_trans hg7 hg6)⟩
      | ok p =>
        obtain ⟨ks, r3⟩ := p
        rw [hpure, bndOk] at hx
        rw [tail_none (k := 6) (by decide), bndOk] at hx
        have Hx := Lib.hid hx; clear hx
        have hcall := hst.mono fun e w' h => h.hit hpure
        have Hcall := Lib.hid hcall; clear hcall hst hpure
        go_wp2_with (go_at_call 36; with_reducible refine (Hcall.out).mono ?_; rintro e w8 ⟨v8, m8, rfl, hg8, hv8, hm8, ht8, hr8⟩; obtain ⟨Q7, q7, e7, rfl⟩ := hv8.form; have hGa7 := Blk.grown hG7 hg8 (fun e => by injection e with e; omega); have hBa7 := Blk.grown hB7 hg8 (fun e => by injection e with e; omega); obtain ⟨⟨g0, g1, g2, g3, g4, g5⟩, h0, h1, h2, h3, h4, h5⟩ := six_cells hGa7; have hG9 := blk_set5 hGa7 (.slice Q7 q7 e7); have hB9 := blk_far hBa7 hne 5 (.slice Q7 q7 e7); obtain ⟨⟨y0, y1, y2, y3, y4, y5⟩, -⟩ := six_cells hG9; obtain ⟨⟨z0, z1, z2, z3, z4, z5⟩, f0, f1, f2, f3, f4, f5⟩ := six_cells hB9)
        have hg9 : w.grownBy (w8.setCell ⟨G, 5, none⟩ (.slice Q7 q7 e7)) (some R) := grown_over (grownBy_trans hg7 hg8) (Nat.le_of_lt hBG) _
        have hr9 : Psr (w8.setCell ⟨G, 5, none⟩ (.slice Q7 q7 e7)) R text _ := Blk.far hr8 (Nat.ne_of_lt hRG) _
        have hvs9 := (hvs7.grown hg8 (by omega)).setG (i := 5) (u := .slice Q7 q7 e7)
        have hks9 := (hv8.lower (show G + 1 ≤ w7.heap.size from Nat.succ_le_of_lt hG7.lt)).setG (i := 5) (u := .slice Q7 q7 e7)
        have hv10 := form_val (k := 6) (a := 0) (nm := Fo.noName) (by decide) (hvs9.lower (show w.heap.size + 1 ≤ G + 1 by omega)) Strs.nil (hks9.lower (show w.heap.size + 1 ≤ G + 1 by omega))
        have hx6 := st6_cells (.int .i64 6) (.int .i64 0) (.string ⟨#[]⟩) (.slice Q5 q5 e5) (.slice none 0 0) (.slice Q7 q7 e7) hB9
        have hg8 := st6_grown (.int .i64 6) (.int .i64 0) (.string ⟨#[]⟩) (.slice Q5 q5 e5) (.slice none 0 0) (.slice Q7 q7 e7) hg9 (Nat.le_refl w.heap.size)
        have hp8 : Psr _ R text _ := st6_far (.int .i64 6) (.int .i64 0) (.string ⟨#[]⟩) (.slice Q5 q5 e5) (.slice none 0 0) (.slice Q7 q7 e7) hr9 (show R ≠ w.heap.size by omega)
        have hv8 := st6_val (.int .i64 6) (.int .i64 0) (.string ⟨#[]⟩) (.slice Q5 q5 e5) (.slice none 0 0) (.slice Q7 q7 e7) hv10
        unfold st6 at hx6 hg8 hp8 hv8
        obtain ⟨x0, x1, x2, x3, x4, x5⟩ := hx6
        refine bodyPost_ret (v := .agg #[.int .i64 6, .int .i64 0, .string ⟨#[]⟩, .slice Q5 q5 e5, .slice none 0 0, .slice Q7 q7 e7]) (by simp [results, Tryd.results24, go_sem, x0, x1, x2, x3, x4, x5]) rfl ?_
        exact RdPost.ok Hx.out _ _ hg8 ⟨_, rfl, hv8⟩ hm8 ht8 hp8
  · have hx := Hx.out; clear Hx
    rw [ht, bndErr] at hx
    have Hx := Lib.hid hx; clear hx
    have hcall := take_err R _ text _ _ _ (hr3.alloc (.cells #[.string ⟨#[40]⟩] 9)) ho1 hs hl ho2 hno
    have Hcall := Lib.hid hcall; clear hcall hl ht ho2
    go_wp2_with (go_at_call 25; with_reducible refine (Hcall.out).mono ?_; rintro e w4 ⟨rfl, hb4⟩)
    exact ⟨rfl, RdPost.bad Hx.out (grownBy_trans hg3 (grownBy_trans (World.grownBy_alloc _ _ _) (grownBy_of_below hb4 _)))⟩

end Go.Proofs.YtmnpelhcgobfaaaDoor

/-
  Walks: the method formula of the parser, at the word all.
-/
namespace Go.Proofs.YtmnpelhcgobfaaaDoor
open Go.RowKit
open Fo (F)

set_option maxRecDepth 100000 in
set_option maxHeartbeats 2000000 in
theorem form_all (R n : Nat) (text : ByteArray) (w : World) (hr : Psr w R text n) (hn : n ≤ text.size) (hs : text.size ≤ 100000) (hw : Words w) (hg : 0 < R) {a : Nat} {r : List Fo.Tok}
    (hts : Fo.toksAt text.toList n = (a, [97, 108, 108]) :: r) (hform : FormAt R text r.length) :
    Calls Tryd.prog 24 #[.pointer (some ⟨R, 0, none⟩)] w
      (RdPost R text w (Fo.formF (Fo.toksAt text.toList n)) (fun w' v f => NForm w' w.heap.size v f)) := by
  have hRw := hr.lt
  obtain ⟨ho1, ho2, -⟩ := tok_over hn hts
  have hx := form_word (a := a) (b := [97, 108, 108]) (k := 7) (by decide) r
  rw [← hts] at hx
  have Hx := Lib.hid hx; clear hx
  have Hw := Lib.hid hw; clear hw
  have Hform := Lib.hid hform; clear hform
  have hr0 : Psr (w.alloc (.cells #[.int .i64 0, .int .i64 0, .string ⟨#[]⟩, .slice none 0 0, .slice none 0 0, .slice none 0 0] 31)) R text n := hr.alloc _
  have hg0 : w.grownBy (w.alloc (.cells #[.int .i64 0, .int .i64 0, .string ⟨#[]⟩, .slice none 0 0, .slice none 0 0, .slice none 0 0] 31)) (some R) := World.grownBy_alloc _ _ _
  have hz0 := Blk.new w 31 #[.int .i64 0, .int .i64 0, .string ⟨#[]⟩, .slice none 0 0, .slice none 0 0, .slice none 0 0]
  have hs0 : (w.alloc (.cells #[.int .i64 0, .int .i64 0, .string ⟨#[]⟩, .slice none 0 0, .slice none 0 0, .slice none 0 0] 31)).heap.size = w.heap.size + 1 := by simp
  have hl := lit12 (w.alloc (.cells #[.int .i64 0, .int .i64 0, .string ⟨#[]⟩, .slice none 0 0, .slice none 0 0, .slice none 0 0] 31))
  rw [hs0] at hl
  have hcall := take_ok R n text _ _ _ (hr0.alloc (.cells cellsF.toArray 9)) hn hs hl hts ⟨#[97, 108, 108]⟩ ((kindB_self (x := [97, 108, 108]) (.inl (by decide))).2 rfl) (by simp)
  have Hcall := Lib.hid hcall; clear hcall hl hs0 hts
  go_enter Tryd.func24, Tryd.ntmps24
  go_wp2_with (go_at_call 25; with_reducible refine (Hcall.out).mono ?_; rintro e w2 ⟨rfl, hr2, hg2⟩; have hz2 := Blk.grown (Blk.alloc hz0 _) hg2 (fun e => by injection e with e; omega); have hg02 := grownBy_trans hg0 (grownBy_trans (World.grownBy_alloc _ _ _) hg2))
  have hs3 : (w2.alloc (.cells #[.string ⟨#[97, 108, 108]⟩, .string ⟨#[97, 108, 108]⟩, .int .i64 a] 62)).heap.size = w2.heap.size + 1 := by simp
  have hT3 := Blk.new w2 62 #[.string ⟨#[97, 108, 108]⟩, .string ⟨#[97, 108, 108]⟩, .int .i64 a]
  have hB3 := Blk.alloc hz2 (.cells #[.string ⟨#[97, 108, 108]⟩, .string ⟨#[97, 108, 108]⟩, .int .i64 a] 62)
  have hr3 := hr2.alloc (.cells #[.string ⟨#[97, 108, 108]⟩, .string ⟨#[97, 108, 108]⟩, .int .i64 a] 62)
  have hg3 := grownBy_trans hg02 (World.grownBy_alloc w2 (.cells #[.string ⟨#[97, 108, 108]⟩, .string ⟨#[97, 108, 108]⟩, .int .i64 a] 62) (some R))
  have hBT : w.heap.size < w2.heap.size := hz2.lt
  clear hz2 hr2 hg2 hg02 Hcall hz0 hr0 hg0
  generalize w2.alloc (.cells #[.string ⟨#[97, 108, 108]⟩, .string ⟨#[97, 108, 108]⟩, .int .i64 a] 62) = w3 at *
  generalize w2.heap.size = T at *
  have hl := lit1 40 w3
  rw [hs3] at hl
  rcases sign_cases 40 (by decide) r with ⟨a1, r1, hr', ht, hkd⟩ | ⟨ht, hno⟩
  · have hx := Hx.out; clear Hx
    rw [ht, bndOk] at hx
    have Hx := Lib.hid hx; clear hx
    subst hr'
    have hcall := take_ok R _ text _ _ _ (hr3.alloc (.cells #[.string ⟨#[40]⟩] 9)) ho1 hs hl ho2 ⟨#[40]⟩ hkd (by simp)
    obtain ⟨hp1, hp2, -⟩ := tok_over ho1 ho2
    have Hcall := Lib.hid hcall; clear hcall hl ht hkd ho2
    have hbind : ∀ W, Calls Tryd.prog 33 #[.int .i64 7] W fun e w' => e = .returned (.bool (Fo.bindsB 7)) ∧ W = w' := fun W => fbinds_any 7 W
    rw [show Fo.bindsB 7 = false by decide] at hbind
    have Hbind := Lib.hid hbind; clear hbind
    go_wp2_with (first
      | (go_at_call 25; with_reducible refine (Hcall.out).mono ?_; rintro e w4 ⟨rfl, hr4, hg4⟩; have hT4 := Blk.grown (Blk.alloc hT3 _) hg4 (fun e => by injection e with e; omega); have hB4 := Blk.grown (Blk.alloc hB3 _) hg4 (fun e => by injection e with e; omega); have t0 := Blk.cell0 hT4; have hg04 := grownBy_trans hg3 (grownBy_trans (World.grownBy_alloc _ _ _) hg4); have hw4 := Hw.out.grown hg04 hg hRw; have Hw4 := Lib.hid hw4; clear hw4)
      | (go_at_call 32; with_reducible refine (kindOf_7 _ Hw4.out).mono ?_; rintro e w' ⟨rfl, rfl⟩)
      | (go_at_call 33; with_reducible refine (Hbind.out _).mono ?_; rintro e w' ⟨rfl, rfl⟩))
    have hG5 := Blk.new w4 31 #[.int .i64 7, .int .i64 0, .string ⟨#[]⟩, .slice none 0 0, .slice none 0 0, .slice none 0 0]
    have hB5 := Blk.alloc hB4 (.cells #[.int .i64 7, .int .i64 0, .string ⟨#[]⟩, .slice none 0 0, .slice none 0 0, .slice none 0 0] 31)
    have hr5 := hr4.alloc (.cells #[.int .i64 7, .int .i64 0, .string ⟨#[]⟩, .slice none 0 0, .slice none 0 0, .slice none 0 0] 31)
    have hg5 := grownBy_trans hg04 (World.grownBy_alloc w4 (.cells #[.int .i64 7, .int .i64 0, .string ⟨#[]⟩, .slice none 0 0, .slice none 0 0, .slice none 0 0] 31) (some R))
    have hBG : w.heap.size < w4.heap.size := hB4.lt
    have hRG : R < w4.heap.size := hr4.lt_
    have hs5 : (w4.alloc (.cells #[.int .i64 7, .int .i64 0, .string ⟨#[]⟩, .slice none 0 0, .slice none 0 0, .slice none 0 0] 31)).heap.size = w4.heap.size + 1 := by simp
    clear hT4 hB4 hr4 hg4 hg04 Hw4 t0 hT3 hB3 hr3 hg3 Hcall
    generalize w4.alloc (.cells #[.int .i64 7, .int .i64 0, .string ⟨#[]⟩, .slice none 0 0, .slice none 0 0, .slice none 0 0] 31) = w5 at *
    generalize w4.heap.size = G at *
    have Hs5 := Lib.hid hs5; clear hs5
    have hne : w.heap.size ≠ G := Nat.ne_of_lt hBG
    have hx := Hx.out; clear Hx
    rw [head_vars (k := 7) (by decide), bnd_bnd] at hx
    have hst := names_any R _ text 58 (by decide) w5 hr5 hp1 hs
    rw [hp2] at hst
    cases hpure : Fo.namesT [58] r1 with
    | error ts =>
      rw [hpure, bndErr] at hx
      have Hx := Lib.hid hx; clear hx
      have hcall := hst.mono fun e w' h => h.miss hpure
      have Hcall := Lib.hid hcall; clear hcall hst hpure
      go_wp2_with (go_at_call 35; with_reducible refine (Hcall.out).mono ?_; rintro e w6 ⟨rfl, hg6⟩)
      exact ⟨rfl, RdPost.bad Hx.out (grownBy_trans hg5 hg6)⟩
    | ok p =>
      obtain ⟨vs, r2⟩ := p
      rw [hpure, bndOk, bndOk] at hx
      have hlen5 := Fo.namesT_less _ _ _ _ hpure
      have Hx := Lib.hid hx; clear hx
      have hcall := hst.mono fun e w' h => h.hit hpure
      have Hcall := Lib.hid hcall; clear hcall hst hpure
      go_wp2_with (go_at_call 35; with_reducible refine (Hcall.out).mono ?_; rintro e w6 ⟨v6, m6, rfl, hg6, hv6, hm6, ht6, hr6⟩; obtain ⟨Q5, q5, e5, rfl⟩ := hv6.form; have hGa5 := Blk.grown hG5 hg6 (fun e => by injection e with e; omega); have hBa5 := Blk.grown hB5 hg6 (fun e => by injection e with e; omega); obtain ⟨⟨g0, g1, g2, g3, g4, g5⟩, h0, h1, h2, h3, h4, h5⟩ := six_cells hGa5; have hG7 := blk_set3 hGa5 (.slice Q5 q5 e5); have hB7 := blk_far hBa5 hne 3 (.slice Q5 q5 e5); obtain ⟨⟨y0, y1, y2, y3, y4, y5⟩, -⟩ := six_cells hG7; obtain ⟨⟨z0, z1, z2, z3, z4, z5⟩, f0, f1, f2, f3, f4, f5⟩ := six_cells hB7)
      have hg7 : w.grownBy (w6.setCell ⟨G, 3, none⟩ (.slice Q5 q5 e5)) (some R) := grown_over (grownBy_trans hg5 hg6) (Nat.le_of_lt hBG) _
      have hr7 : Psr (w6.setCell ⟨G, 3, none⟩ (.slice Q5 q5 e5)) R text _ := Blk.far hr6 (Nat.ne_of_lt hRG) _
      rw [Hs5.out] at hv6
      have hvs7 := hv6.setG (i := 3) (u := .slice Q5 q5 e5)
      clear g0 g1 g2 g3 g4 g5 h0 h1 h2 h3 h4 h5 z0 z1 z2 z3 z4 z5 f0 f1 f2 f3 f4 f5 y0 y1 y2 y3 y4 y5
      have hsz : (w6.setCell ⟨G, 3, none⟩ (.slice Q5 q5 e5)).heap.size = w6.heap.size := by simp [World.setCell]
      generalize w6.setCell ⟨G, 3, none⟩ (.slice Q5 q5 e5) = w7 at *
      have Hs7 := Lib.hid hsz; clear hsz
      have hx := Hx.out; clear Hx Hcall
      have hst := kids_any R _ text 7 w7 hr7 hm6 hs (Hw.out.grown hg7 hg hRw) hg (Hform.out.less (by rw [ht6]; simp only [List.length_cons]; omega))
      rw [ht6] at hst
      cases hpure : kidsX 7 r2 with
      | error ts =>
        rw [hpure, bndErr] at hx
        have Hx := Lib.hid hx; clear hx
        have hcall := hst.mono fun e w' h => h.miss hpure
        have Hcall := Lib.hid hcall; clear hcall hst hpure
        go_wp2_with (go_at_call 36; with_reducible refine (Hcall.out).mono ?_; rintro e w6 ⟨rfl, hg6⟩)
        exact ⟨rfl, RdPost.bad Hx.out (grownBy_trans hg7 hg6)⟩
      | ok p =>
        obtain ⟨ks, r3⟩ := p
        rw [hpure, bndOk] at hx
        rw [tail_none (k := 7) (by decide), bndOk] at hx
        have Hx := Lib.hid hx; clear hx
        have hcall := hst.mono fun e w' h => h.hit hpure
        have Hcall := Lib.hid hcall; clear hcall hst hpure
        go_wp2_with (go_at_call 36; with_reducible refine (Hcall.out).mono ?_; rintro e w8 ⟨v8, m8, rfl, hg8, hv8, hm8, ht8, hr8⟩; obtain ⟨Q7, q7, e7, rfl⟩ := hv8.form; have hGa7 := Blk.grown hG7 hg8 (fun e => by injection e with e; omega); have hBa7 := Blk.grown hB7 hg8 (fun e => by injection e with e; omega); obtain ⟨⟨g0, g1, g2, g3, g4, g5⟩, h0, h1, h2, h3, h4, h5⟩ := six_cells hGa7; have hG9 := blk_set5 hGa7 (.slice Q7 q7 e7); have hB9 := blk_far hBa7 hne 5 (.slice Q7 q7 e7); obtain ⟨⟨y0, y1, y2, y3, y4, y5⟩, -⟩ := six_cells hG9; obtain ⟨⟨z0, z1, z2, z3, z4, z5⟩, f0, f1, f2, f3, f4, f5⟩ := six_cells hB9)
        have hg9 : w.grownBy (w8.setCell ⟨G, 5, none⟩ (.slice Q7 q7 e7)) (some R) := grown_over (grownBy_trans hg7 hg8) (Nat.le_of_lt hBG) _
        have hr9 : Psr (w8.setCell ⟨G, 5, none⟩ (.slice Q7 q7 e7)) R text _ := Blk.far hr8 (Nat.ne_of_lt hRG) _
        have hvs9 := (hvs7.grown hg8 (by omega)).setG (i := 5) (u := .slice Q7 q7 e7)
        have hks9 := (hv8.lower (show G + 1 ≤ w7.heap.size from Nat.succ_le_of_lt hG7.lt)).setG (i := 5) (u := .slice Q7 q7 e7)
        have hv10 := form_val (k := 7) (a := 0) (nm := Fo.noName) (by decide) (hvs9.lower (show w.heap.size + 1 ≤ G + 1 by omega)) Strs.nil (hks9.lower (show w.heap.size + 1 ≤ G + 1 by omega))
        have hx6 := st6_cells (.int .i64 7) (.int .i64 0) (.string ⟨#[]⟩) (.slice Q5 q5 e5) (.slice none 0 0) (.slice Q7 q7 e7) hB9
        have hg8 := st6_grown (.int .i64 7) (.int .i64 0) (.string ⟨#[]⟩) (.slice Q5 q5 e5) (.slice none 0 0) (.slice Q7 q7 e7) hg9 (Nat.le_refl w.heap.size)
        have hp8 : Psr _ R text _ := st6_far (.int .i64 7) (.int .i64 0) (.string ⟨#[]⟩) (.slice Q5 q5 e5) (.slice none 0 0) (.slice Q7 q7 e7) hr9 (show R ≠ w.heap.size by omega)
        have hv8 := st6_val (.int .i64 7) (.int .i64 0) (.string ⟨#[]⟩) (.slice Q5 q5 e5) (.slice none 0 0) (.slice Q7 q7 e7) hv10
        unfold st6 at hx6 hg8 hp8 hv8
        obtain ⟨x0, x1, x2, x3, x4, x5⟩ := hx6
        refine bodyPost_ret (v := .agg #[.int .i64 7, .int .i64 0, .string ⟨#[]⟩, .slice Q5 q5 e5, .slice none 0 0, .slice Q7 q7 e7]) (by simp [results, Tryd.results24, go_sem, x0, x1, x2, x3, x4, x5]) rfl ?_
        exact RdPost.ok Hx.out _ _ hg8 ⟨_, rfl, hv8⟩ hm8 ht8 hp8
  · have hx := Hx.out; clear Hx
    rw [ht, bndErr] at hx
    have Hx := Lib.hid hx; clear hx
    have hcall := take_err R _ text _ _ _ (hr3.alloc (.cells #[.string ⟨#[40]⟩] 9)) ho1 hs hl ho2 hno
    have Hcall := Lib.hid hcall; clear hcall hl ht ho2
    go_wp2_with (go_at_call 25; with_reducible refine (Hcall.out).mono ?_; rintro e w4 ⟨rfl, hb4⟩)
    exact ⟨rfl, RdPost.bad Hx.out (grownBy_trans hg3 (grownBy_trans (World.grownBy_alloc _ _ _) (grownBy_of_below hb4 _)))⟩

end Go.Proofs.YtmnpelhcgobfaaaDoor
