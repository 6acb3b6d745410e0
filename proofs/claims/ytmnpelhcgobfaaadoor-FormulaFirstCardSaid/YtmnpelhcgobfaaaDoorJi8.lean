/-
  Texts joined: Fkidl, Fforma, Fformp, Fwordp, Fword3.
-/
import Derived.Test.YtmnpelhcgobfaaaDoorJi7

/-
  Walks: the method kids of the parser, at a conjunction or a disjunction.
-/
namespace Go.Proofs.YtmnpelhcgobfaaaDoor
open Go.RowKit
open Fo (F)

/-- What is still to be read behind a kid. -/
def restR (fs : List FB) : List Fo.Tok → Fo.Rd (List FB)
  | [] => .error []
  | t :: r => if t.2 = [41] then .ok (fs, r) else if t.2 = [44] then Fo.bnd (Fo.kidsF r) fun l r => .ok (fs ++ l, r) else .error (t :: r)
theorem bnd_bnd {α β γ : Type} (x : Fo.Rd α) (f : α → List Fo.Tok → Fo.Rd β) (g : β → List Fo.Tok → Fo.Rd γ) : Fo.bnd (Fo.bnd x f) g = Fo.bnd x fun a r => Fo.bnd (f a r) g := by
  cases x with
  | error e => rfl
  | ok p => rfl
theorem kids_rest (ts : List Fo.Tok) : Fo.kidsF ts = Fo.bnd (Fo.formF ts) fun f r => restR [f] r := by
  rw [Fo.kidsF_eq]
  refine Fo.bnd_congr fun f r _ => ?_
  cases r with
  | nil => rfl
  | cons t r => rfl
theorem rest_more (fs : List FB) (a : Nat) (r : List Fo.Tok) : restR fs ((a, [44]) :: r) = Fo.bnd (Fo.formF r) fun f r' => restR (fs ++ [f]) r' := by
  rw [restR, if_neg (show ¬ (([44] : Fo.Bs) = [41]) by decide), if_pos rfl, kids_rest, bnd_bnd]
  refine Fo.bnd_congr fun f r' _ => ?_
  cases r' with
  | nil => rfl
  | cons t r' =>
    simp only [restR]
    by_cases h1 : t.2 = [41]
    · rw [if_pos h1, if_pos h1]; rfl
    · rw [if_neg h1, if_neg h1]
      by_cases h2 : t.2 = [44]
      · rw [if_pos h2, if_pos h2, bnd_bnd]
        refine Fo.bnd_congr fun l r2 _ => ?_
        simp [Fo.bnd]
      · rw [if_neg h2, if_neg h2]; rfl
theorem rest_stop (fs : List FB) (a : Nat) (r : List Fo.Tok) : restR fs ((a, [41]) :: r) = .ok (fs, r) := by rw [restR, if_pos rfl]
theorem rest_bad (fs : List FB) (a : Nat) (b : Fo.Bs) (r : List Fo.Tok) (h1 : b ≠ [41]) (h2 : b ≠ [44]) : restR fs ((a, b) :: r) = .error ((a, b) :: r) := by rw [restR, if_neg h1, if_neg h2]
theorem list_kids {ts : List Fo.Tok} (h : ∀ a r, ts ≠ (a, [41]) :: r) : Fo.listT Fo.kidsF ts = Fo.kidsF ts := by
  cases ts with
  | nil => rw [kids_rest, Fo.formF_nil]; rfl
  | cons t r =>
    obtain ⟨a, b⟩ := t
    rw [Fo.listT, if_neg (fun e => h a r (by have e : b = [41] := e; rw [e]))]
theorem not_close {ts : List Fo.Tok} (h : ∀ a r, ts ≠ (a, [41]) :: r) : kindT ts ≠ (⟨#[41]⟩ : ByteArray) := by
  cases ts with
  | nil => decide
  | cons t r =>
    obtain ⟨a, b⟩ := t
    intro e
    have e : b = [41] := (kindB_self (x := [41]) (.inr (by decide))).1 e
    exact h a r (by rw [e])
theorem lit2 (W : World) : Strs (W.alloc (.cells #[.string ⟨#[44]⟩, .string ⟨#[41]⟩] 9)) (· < (W.alloc (.cells #[.string ⟨#[44]⟩, .string ⟨#[41]⟩] 9)).heap.size) (.slice (some ⟨W.heap.size, 0, none⟩) 2 2) [(⟨#[44]⟩ : ByteArray), ⟨#[41]⟩] :=
  strs_lit W 9 [(⟨#[44]⟩ : ByteArray), ⟨#[41]⟩] (by simp) (by intro s hs; simp only [List.mem_cons, List.not_mem_nil, or_false] at hs; rcases hs with rfl | rfl <;> exact Nat.le_of_ble_eq_true rfl) _ (by simp)

set_option maxRecDepth 100000 in
set_option maxHeartbeats 400000 in
theorem kids_none (R n : Nat) (text : ByteArray) (k : Int) (hk : k = 4 ∨ k = 5) (w : World) (hr : Psr w R text n) (hn : n ≤ text.size) (hs : text.size ≤ 100000) {a : Nat} {r : List Fo.Tok} (hts : Fo.toksAt text.toList n = (a, [41]) :: r) :
    Calls Tryd.prog 36 #[.pointer (some ⟨R, 0, none⟩), .int .i64 k] w
      (RdPost R text w (Fo.listT Fo.kidsF (Fo.toksAt text.toList n)) (fun w' v fs => NKids w' w.heap.size v fs)) := by
  have hx : Fo.listT Fo.kidsF (Fo.toksAt text.toList n) = .ok ([], r) := by rw [hts, Fo.listT, if_pos rfl]
  have Hx := Lib.hid hx; clear hx
  have hkd : kindB [41] = (⟨#[41]⟩ : ByteArray) := (kindB_self (x := [41]) (.inr (by decide))).2 rfl
  have hnext := next_any R n text w hr hn hs
  rw [hts] at hnext
  unfold tokV at hnext
  simp only [] at hnext
  rw [hkd] at hnext
  have hcall2 := fun (v : Value) (W : World) (h1 : Psr W R text n) (h2 : Strs W (· < W.heap.size) v [(⟨#[41]⟩ : ByteArray)]) => take_ok R n text _ v W h1 hn hs h2 hts ⟨#[41]⟩ hkd (by simp)
  obtain ⟨ho1, ho2, -⟩ := tok_over hn hts
  have Hnext := Lib.hid hnext; clear hnext
  have Hcall2 := Lib.hid hcall2; clear hcall2 hts hkd
  have Ho2 := Lib.hid ho2; clear ho2
  have HkeepR := Lib.hid hr.lt
  rcases hk with rfl | rfl
  all_goals
    go_enter Tryd.func36, Tryd.ntmps36
    go_wp2_with (go_at_call 37; with_reducible refine (Hnext.out).mono ?_; rintro e w2 ⟨rfl, hb2⟩)
  all_goals
    have hs3 : (w2.alloc (.cells #[.string ⟨#[41]⟩, .string ⟨#[41]⟩, .int .i64 a] 62)).heap.size = w2.heap.size + 1 := by simp
    have hr3 : Psr (w2.alloc (.cells #[.string ⟨#[41]⟩, .string ⟨#[41]⟩, .int .i64 a] 62)) R text n := Psr.alloc (Blk.below hr hb2 HkeepR.out) _
    have hg3 : w.grownBy (w2.alloc (.cells #[.string ⟨#[41]⟩, .string ⟨#[41]⟩, .int .i64 a] 62)) (some R) := grownBy_trans (grownBy_of_below hb2 _) (World.grownBy_alloc _ _ _)
    generalize w2.alloc (.cells #[.string ⟨#[41]⟩, .string ⟨#[41]⟩, .int .i64 a] 62) = w3 at *
    generalize w2.heap.size = T at *
    have hl := lit1 41 w3
    rw [hs3] at hl
    have hcall3 := Hcall2.out _ _ (hr3.alloc _) hl
    have Hcall3 := Lib.hid hcall3; clear hcall3 Hcall2 hl
    go_wp2_with (go_at_call 25; with_reducible refine (Hcall3.out).mono ?_; rintro e w4 ⟨rfl, hr4, hg4⟩)
    go_ret
    exact RdPost.ok Hx.out _ (a + 1) (grownBy_trans hg3 (grownBy_trans (World.grownBy_alloc w3 (.cells #[.string ⟨#[41]⟩] 9) (some R)) hg4)) (NKids.nil _ _) ho1 Ho2.out hr4

theorem Psr.lt_ {w : World} {R n : Nat} {text : ByteArray} (h : Psr w R text n) : R < w.heap.size := Blk.lt h
theorem grown_row {w0 w w' : World} {R L n size : Nat} {v : Value} {e : TypeId} {xs : List Value} (hg : w0.grownBy w (some R)) (ho : w.ownsRow L e size v n xs) (h : w.grownBy w' v.ownBlock) (hL : w0.heap.size ≤ L) : w0.grownBy w' (some R) :=
  ⟨h.os.trans hg.os, h.tape.trans hg.tape, h.output.trans hg.output, Nat.le_trans hg.size h.size, fun i hi hne => (h.block i (Nat.lt_of_lt_of_le hi hg.size) (fun e => by have := (ho.lt i e.symm).1; omega)).trans (hg.block i hi hne)⟩
theorem form_less {ts r : List Fo.Tok} {f : FB} (h : Fo.formF ts = .ok (f, r)) : r.length + 1 ≤ ts.length := by
  have h1 := Fo.formT_less _ ts f r h
  cases ts with
  | nil => rw [Fo.formF_nil] at h; cases h
  | cons t l => simp at h1 ⊢; omega
theorem toks_len : ∀ (n i : Nat) (l : Fo.Bs), l.length ≤ n → (Fo.toks i l).length ≤ l.length
  | 0, i, l, h => by
    obtain rfl : l = [] := List.length_eq_zero_iff.1 (by omega)
    simp [Fo.toks_nil]
  | n + 1, i, [], h => by simp [Fo.toks_nil]
  | n + 1, i, c :: l, h => by
    simp only [List.length_cons] at h
    cases hc : Fo.blankB c
    · rw [Fo.toks_cons hc]
      have := toks_len n (i + 1 + (Fo.moreT c l).length) (l.drop (Fo.moreT c l).length) (by rw [List.length_drop]; omega)
      rw [List.length_drop] at this
      simp only [List.length_cons]; omega
    · rw [Fo.toks_blank hc]
      have := toks_len n (i + 1) l (by omega)
      simp only [List.length_cons]; omega
theorem toks_count (text : ByteArray) (n : Nat) : (Fo.toksAt text.toList n).length ≤ text.size := by
  have h := toks_len _ n (text.toList.drop n) (Nat.le_refl _)
  rw [List.length_drop, length_bytes] at h
  unfold Fo.toksAt; omega
theorem not_comma {a : Nat} {b : Fo.Bs} {r : List Fo.Tok} (h1 : b ≠ [41]) (h2 : b ≠ [44]) : kindT ((a, b) :: r) ∉ [(⟨#[44]⟩ : ByteArray), ⟨#[41]⟩] := by
  intro hm
  simp only [List.mem_cons, List.not_mem_nil, or_false] at hm
  rcases hm with hm | hm
  · exact h2 ((kindB_self (x := [44]) (.inr (by decide))).1 hm)
  · exact h1 ((kindB_self (x := [41]) (.inr (by decide))).1 hm)

set_option maxRecDepth 100000 in
set_option maxHeartbeats 2000000 in
theorem kids_list (R n : Nat) (text : ByteArray) (k : Int) (hk : k = 4 ∨ k = 5) (w : World) (hr : Psr w R text n) (hn : n ≤ text.size) (hs : text.size ≤ 100000) (hw : Words w) (hg : 0 < R) (hform : FormAt R text (Fo.toksAt text.toList n).length)
    (hno : ∀ a r, Fo.toksAt text.toList n ≠ (a, [41]) :: r) :
    Calls Tryd.prog 36 #[.pointer (some ⟨R, 0, none⟩), .int .i64 k] w
      (RdPost R text w (Fo.listT Fo.kidsF (Fo.toksAt text.toList n)) (fun w' v fs => NKids w' w.heap.size v fs)) := by
  have hRw := hr.lt
  rw [list_kids hno, kids_rest]
  have hnext := next_any R n text w hr hn hs
  rw [tokV_eq] at hnext
  have hkt := not_close hno
  generalize kindT (Fo.toksAt text.toList n) = kd at *
  generalize (⟨(textT (Fo.toksAt text.toList n)).toArray⟩ : ByteArray) = tx at *
  generalize Fo.atT text.size (Fo.toksAt text.toList n) = at_ at *
  have hktf : (kd.toList == [41]) = false := by
    simp only [beq_eq_false_iff_ne, ne_eq]
    intro h
    exact hkt (by rw [show kd = ⟨kd.toList.toArray⟩ by rw [ByteArray.toList_eq], h])
  clear hkt hno
  have Hnext := Lib.hid hnext; clear hnext
  have Hform := Lib.hid hform; clear hform
  have Hw := Lib.hid hw; clear hw
  rcases hk with rfl | rfl
  all_goals
    go_enter Tryd.func36, Tryd.ntmps36
    go_wp2_with (go_at_call 37; with_reducible refine (Hnext.out).mono ?_; rintro e w2 ⟨rfl, hb2⟩)
  all_goals
    have hr3 : Psr (w2.alloc (.cells #[.string kd, .string tx, .int .i64 at_] 62)) R text n := Psr.alloc (Blk.below hr hb2 hRw) _
    have hg3 : w.grownBy (w2.alloc (.cells #[.string kd, .string tx, .int .i64 at_] 62)) (some R) := grownBy_trans (grownBy_of_below hb2 _) (World.grownBy_alloc _ _ _)
    clear hb2
    generalize w2.alloc (.cells #[.string kd, .string tx, .int .i64 at_] 62) = w3 at *
    have hR3 : R < w3.heap.size := Nat.lt_of_lt_of_le hRw hg3.size
    have hcall := Hform.out n w3 (Nat.le_refl _) hn hr3 (Hw.out.grown hg3 hg hRw) hR3
    cases hf : Fo.formF (Fo.toksAt text.toList n) with
    | error ts =>
      have hx : (Fo.bnd (Fo.formF (Fo.toksAt text.toList n)) fun f r => restR [f] r) = .error ts := by rw [hf]; rfl
      have hcall := hcall.mono fun e w' h => h.miss hf
      have Hx := Lib.hid hx; clear hx
      have Hcall := Lib.hid hcall; clear hcall hf
      go_wp2_with (go_at_call 24; with_reducible refine (Hcall.out).mono ?_; rintro e w4 ⟨rfl, hg4⟩)
      exact ⟨rfl, RdPost.bad Hx.out (grownBy_trans hg3 hg4)⟩
    | ok p =>
      obtain ⟨f, r⟩ := p
      have hx : (Fo.bnd (Fo.formF (Fo.toksAt text.toList n)) fun f r => restR [f] r) = restR [f] r := by rw [hf]; rfl
      have hlr : r.length + 1 ≤ (Fo.toksAt text.toList n).length := form_less hf
      have hcall := hcall.mono fun e w' h => h.hit hf
      have Hx := Lib.hid hx; clear hx
      have Hcall := Lib.hid hcall; clear hcall hf
      go_wp2_with (go_at_call 24; with_reducible refine (Hcall.out).mono ?_; rintro e w4 ⟨v2, m2, rfl, hg4, hv2, hm2, ht2, hr4⟩; obtain ⟨k1, a1, n1, A3, n3, c3, A4, n4, c4, A5, n5, c5, rfl, hw2⟩ := hv2.open_; have Hv2 := Lib.hid hw2; clear hw2 hv2)
      have hg04 : w.grownBy w4 (some R) := grownBy_trans hg3 hg4
      have hg05 : w.grownBy (w4.alloc (.cells #[.int .i64 k1, .int .i64 a1, .string n1, .slice A3 n3 c3, .slice A4 n4 c4, .slice A5 n5 c5] 31)) (some R) := grownBy_trans hg04 (World.grownBy_alloc _ _ _)
      have hr5 : Psr (w4.alloc (.cells #[.int .i64 k1, .int .i64 a1, .string n1, .slice A3 n3 c3, .slice A4 n4 c4, .slice A5 n5 c5] 31)) R text m2 := hr4.alloc _
      have hkl : KList (w4.alloc (.cells #[.int .i64 k1, .int .i64 a1, .string n1, .slice A3 n3 c3, .slice A4 n4 c4, .slice A5 n5 c5] 31)) w.heap.size (.slice (some ⟨w4.heap.size, 0, none⟩) 1 1) [f] [.int .i64 k1, .int .i64 a1, .string n1, .slice A3 n3 c3, .slice A4 n4 c4, .slice A5 n5 c5] :=
        KList.one hg04.size (FVal.more (fun b hb => ⟨Nat.le_trans hg3.size hb.1, hb.2⟩) _ _ Hv2.out)
      clear Hv2 hr4 hg4 hg04
      generalize w4.alloc (.cells #[.int .i64 k1, .int .i64 a1, .string n1, .slice A3 n3 c3, .slice A4 n4 c4, .slice A5 n5 c5] 31) = w5 at *
      generalize (Value.slice (some ⟨w4.heap.size, 0, none⟩) 1 1) = v5 at *
      have Hkl := Lib.hid hkl; clear hkl
      have Hg05 := Lib.hid hg05; clear hg05
      have Hr5 := Lib.hid hr5; clear hr5
      have hcount := toks_count text n
      generalize (Fo.toksAt text.toList n).length = N at *
      have Hht2 := Lib.hid ht2; clear ht2
      go_loopg [7] text.size (fun gg sv wr => ∃ (m : Nat) (fs : List FB) (xs : List Value), m ≤ text.size ∧ (Fo.toksAt text.toList m).length ≤ gg ∧ fs.length + (Fo.toksAt text.toList m).length ≤ N ∧ Psr wr R text m ∧ KList wr w.heap.size sv fs xs ∧ w.grownBy wr (some R) ∧
        restR [f] r = restR fs (Fo.toksAt text.toList m))
      case atStart => exact ⟨m2, [f], _, hm2, by rw [Hht2.out]; omega, by rw [Hht2.out, List.length_singleton]; omega, Hr5.out, Hkl.out, Hg05.out, by rw [Hht2.out]⟩
      case round =>
        obtain ⟨m, fs, xs, hm, hgg, hfm, hrm, hkm, hgm, heq⟩ := hrel
        have hform2 : ∀ (m' : Nat) (W : World), (Fo.toksAt text.toList m').length ≤ (Fo.toksAt text.toList m).length → m' ≤ text.size → Psr W R text m' → Words W → R < W.heap.size → Calls Tryd.prog 24 #[.pointer (some ⟨R, 0, none⟩)] W (RdPost R text W (Fo.formF (Fo.toksAt text.toList m')) (fun w' v f => NForm w' W.heap.size v f)) := fun m' W h1 h2 h3 h4 h5 => Hform.out m' W (by omega) h2 h3 h4 h5
        have Heq := Lib.hid heq; clear heq
        obtain ⟨SA, SC, rfl⟩ := own_slice hkm.own
        have Hkm := Lib.hid hkm; clear hkm
        have Hgm := Lib.hid hgm; clear hgm
        have hRm : R < wr.heap.size := hrm.lt
        have hwm := Hw.out.grown Hgm.out hg hRw
        have Hwm := Lib.hid hwm; clear hwm
        have Hform2 := Lib.hid hform2; clear hform2
        have hg1 : ∀ o, w.grownBy (wr.alloc o) (some R) := fun o => grownBy_trans Hgm.out (World.grownBy_alloc _ _ _)
        have Hg1 := Lib.hid hg1; clear hg1
        cases hts : Fo.toksAt text.toList m with
        | nil =>
          have hx2 : restR [f] r = .error [] := by rw [Heq.out, hts]; rfl
          have Hx2 := Lib.hid (Hx.out.trans hx2); clear hx2
          have hcall2 := take_err R m text _ _ _ (hrm.alloc (.cells #[.string ⟨#[44]⟩, .string ⟨#[41]⟩] 9)) hm hs (lit2 wr) hts (by decide)
          have Hcall2 := Lib.hid hcall2; clear hcall2 hts
          go_wp2_with (go_at_call 25; with_reducible refine (Hcall2.out).mono ?_; rintro e w6 ⟨rfl, hb6⟩)
          exact ⟨rfl, RdPost.bad Hx2.out (grownBy_trans (Hg1.out _) (grownBy_of_below hb6 _))⟩
        | cons t r1 =>
          obtain ⟨ta, tb⟩ := t
          obtain ⟨ho1, ho2, -⟩ := tok_over hm hts
          by_cases h41 : tb = [41]
          · subst h41
            have hx2 : restR [f] r = .ok (fs, r1) := by rw [Heq.out, hts, rest_stop]
            have Hx2 := Lib.hid (Hx.out.trans hx2); clear hx2
            have hcall2 := take_ok R m text _ _ _ (hrm.alloc (.cells #[.string ⟨#[44]⟩, .string ⟨#[41]⟩] 9)) hm hs (lit2 wr) hts ⟨#[41]⟩ ((kindB_self (x := [41]) (.inr (by decide))).2 rfl) (by simp)
            have Hcall2 := Lib.hid hcall2; clear hcall2 hts
            have hf0 := fld0 (.string ⟨#[41]⟩) (.string ⟨#[41]⟩) (.int .i64 ta)
            go_wp2_with (go_at_call 25; with_reducible refine (Hcall2.out).mono ?_; rintro e w6 ⟨rfl, hr6, hg6⟩)
            go_ret
            exact RdPost.ok Hx2.out _ (ta + 1) (grownBy_trans (Hg1.out _) hg6) ((Hkm.out.grown (grownBy_trans (World.grownBy_alloc _ _ _) hg6) hRw).new_ (by omega)) ho1 ho2 hr6
          · by_cases h44 : tb = [44]
            · subst h44
              have hmt : (Fo.toksAt text.toList m).length = r1.length + 1 := by rw [hts]; rfl
              have hx2 : restR [f] r = Fo.bnd (Fo.formF r1) fun f r' => restR (fs ++ [f]) r' := by rw [Heq.out, hts, rest_more]
              have Hx2 := Lib.hid (Hx.out.trans hx2)
              have Hx0 := Lib.hid hx2; clear hx2
              have hcall2 := take_ok R m text _ _ _ (hrm.alloc (.cells #[.string ⟨#[44]⟩, .string ⟨#[41]⟩] 9)) hm hs (lit2 wr) hts ⟨#[44]⟩ ((kindB_self (x := [44]) (.inr (by decide))).2 rfl) (by simp)
              have Hcall2 := Lib.hid hcall2; clear hcall2 hts
              have hf0 := fld0 (.string ⟨#[44]⟩) (.string ⟨#[44]⟩) (.int .i64 ta)
              have hcall3 : ∀ W, Psr W R text (ta + 1) → Words W → R < W.heap.size → Calls Tryd.prog 24 #[.pointer (some ⟨R, 0, none⟩)] W (RdPost R text W (Fo.formF r1) (fun w' v f => NForm w' W.heap.size v f)) := fun W h1 h2 h3 => by
                have h := Hform2.out (ta + 1) W (by rw [hmt, show Fo.toksAt text.toList (ta + 1) = r1 from ho2]; omega) ho1 h1 h2 h3
                rwa [show Fo.toksAt text.toList (ta + 1) = r1 from ho2] at h
              cases hf2 : Fo.formF r1 with
              | error ts =>
                have hx3 : (Fo.bnd (Fo.formF r1) fun f r' => restR (fs ++ [f]) r') = .error ts := by rw [hf2]; rfl
                have Hx3 := Lib.hid (Hx2.out.trans hx3); clear hx3
                have hcall4 := fun W h1 h2 h3 => (hcall3 W h1 h2 h3).mono fun e w' h => h.miss hf2
                have Hcall4 := Lib.hid hcall4; clear hcall4 hcall3 hf2
                go_wp2_with (first
                  | (go_at_call 25; with_reducible refine (Hcall2.out).mono ?_; rintro e w6 ⟨rfl, hr6, hg6⟩; have hgw := grownBy_trans (Hg1.out _) hg6; have hR6 : R < w6.heap.size := hr6.lt_)
                  | (go_at_call 24; with_reducible refine (Hcall4.out _ hr6 (Hw.out.grown hgw hg hRw) hR6).mono ?_; rintro e w7 ⟨rfl, hg7⟩))
                exact ⟨rfl, RdPost.bad Hx3.out (grownBy_trans hgw hg7)⟩
              | ok p2 =>
                obtain ⟨f2, r2⟩ := p2
                have hx3 : (Fo.bnd (Fo.formF r1) fun f r' => restR (fs ++ [f]) r') = restR (fs ++ [f2]) r2 := by rw [hf2]; rfl
                have Hx3 := Lib.hid (Hx0.out.trans hx3); clear hx3
                have hlr2 := form_less hf2
                have hcall4 := fun W h1 h2 h3 => (hcall3 W h1 h2 h3).mono fun e w' h => h.hit hf2
                have Hcall4 := Lib.hid hcall4; clear hcall4 hcall3 hf2
                go_wp2_with (first
                  | (go_at_call 25; with_reducible refine (Hcall2.out).mono ?_; rintro e w6 ⟨rfl, hr6, hg6⟩; have hgw := grownBy_trans (Hg1.out _) hg6; have hR6 : R < w6.heap.size := hr6.lt_; have hsz6 := (grownBy_trans (World.grownBy_alloc wr (.cells #[.string ⟨#[44]⟩, .string ⟨#[41]⟩] 9) (some R)) hg6).size; have hk6 := Hkm.out.grown (grownBy_trans (World.grownBy_alloc wr (.cells #[.string ⟨#[44]⟩, .string ⟨#[41]⟩] 9) (some R)) hg6) hRw; have Hk6 := Lib.hid hk6; clear hk6)
                  | (go_at_call 24; with_reducible refine (Hcall4.out _ hr6 (Hw.out.grown hgw hg hRw) hR6).mono ?_; rintro e w7 ⟨v7, m7, rfl, hg7, hv7, hm7, ht7, hr7⟩; obtain ⟨k2, a2, n2, B3, p3, d3, B4, p4, d4, B5, p5, d5, rfl, hw7⟩ := hv7.open_; have Hv7 := Lib.hid hw7; clear hw7 hv7; have hsz7 := hg7.size; have hsz07 := (grownBy_trans hgw hg7).size; have hk9 := ((Hk6.out.grown hg7 hRw).grown (World.grownBy_alloc w7 (.cells #[.int .i64 k2, .int .i64 a2, .string n2, .slice B3 p3 d3, .slice B4 p4 d4, .slice B5 p5 d5] 31) (some R)) hRw).grown (World.grownBy_alloc (w7.alloc (.cells #[.int .i64 k2, .int .i64 a2, .string n2, .slice B3 p3 d3, .slice B4 p4 d4, .slice B5 p5 d5] 31)) (.cells #[.int .i64 k2, .int .i64 a2, .string n2, .slice B3 p3 d3, .slice B4 p4 d4, .slice B5 p5 d5] 31) (some R)) hRw; have Hk9 := Lib.hid hk9; clear hk9)
                  | (at_builtin; refine wpList_append_form _ rfl _ _ rfl w.heap.size _ fs.length xs rfl Hk9.out.own _ _ _ _ _ _ _ _ rfl (blk_new2 _ _ _ _) rfl rfl rfl rfl rfl rfl (by omega) (by simp; omega) ?_; intro v' w9 hown9 hg9 hat9))
                go_roundg (Fo.toksAt text.toList m7).length
                case measure => rw [ht7]; omega
                case rel =>
                  refine ⟨m7, fs ++ [f2], xs ++ [.int .i64 k2, .int .i64 a2, .string n2, .slice B3 p3 d3, .slice B4 p4 d4, .slice B5 p5 d5], hm7, Nat.le_refl _, by rw [ht7, List.length_append, List.length_singleton]; omega, ?_, ?_, ?_, by rw [ht7]; exact Hx3.out⟩
                  · exact Blk.grown (Blk.alloc (Blk.alloc hr7 _) _) hg9 (fun e => absurd (Hk9.out.own.lt R e.symm).1 (by omega))
                  · exact Hk9.out.push (FVal.more (fun b hb => ⟨Nat.le_trans hgw.size hb.1, hb.2, fun e => absurd (Nat.lt_of_lt_of_le (Hkm.out.own.lt b e).2 (Nat.le_trans hsz6 hb.1)) (Nat.lt_irrefl _)⟩) _ _ ((Hv7.out.grown (World.grownBy_alloc w7 (.cells #[.int .i64 k2, .int .i64 a2, .string n2, .slice B3 p3 d3, .slice B4 p4 d4, .slice B5 p5 d5] 31) (some R)) hR6).grown (World.grownBy_alloc (w7.alloc (.cells #[.int .i64 k2, .int .i64 a2, .string n2, .slice B3 p3 d3, .slice B4 p4 d4, .slice B5 p5 d5] 31)) (.cells #[.int .i64 k2, .int .i64 a2, .string n2, .slice B3 p3 d3, .slice B4 p4 d4, .slice B5 p5 d5] 31) (some R)) hR6)) hown9 hg9 hat9
                  · exact grown_row (grownBy_trans hgw (grownBy_trans hg7 (grownBy_trans (World.grownBy_alloc _ _ _) (World.grownBy_alloc _ _ _)))) Hk9.out.own hg9 (Nat.le_refl _)
            · have hx2 : restR [f] r = .error ((ta, tb) :: r1) := by rw [Heq.out, hts, rest_bad _ _ _ _ h41 h44]
              have Hx2 := Lib.hid (Hx.out.trans hx2); clear hx2
              have hcall2 := take_err R m text _ _ _ (hrm.alloc (.cells #[.string ⟨#[44]⟩, .string ⟨#[41]⟩] 9)) hm hs (lit2 wr) hts (not_comma h41 h44)
              have Hcall2 := Lib.hid hcall2; clear hcall2 hts
              go_wp2_with (go_at_call 25; with_reducible refine (Hcall2.out).mono ?_; rintro e w6 ⟨rfl, hb6⟩)
              exact ⟨rfl, RdPost.bad Hx2.out (grownBy_trans (Hg1.out _) (grownBy_of_below hb6 _))⟩
/-- The method kids, whatever the kind. -/
theorem kids_any (R n : Nat) (text : ByteArray) (k : Int) (w : World) (hr : Psr w R text n) (hn : n ≤ text.size) (hs : text.size ≤ 100000) (hw : Words w) (hg : 0 < R) (hform : FormAt R text (Fo.toksAt text.toList n).length) :
    Calls Tryd.prog 36 #[.pointer (some ⟨R, 0, none⟩), .int .i64 k] w
      (RdPost R text w (kidsX k (Fo.toksAt text.toList n)) (fun w' v fs => NKids w' w.heap.size v fs)) := by
  unfold kidsX
  split
  · rename_i hk
    by_cases h : ∃ a r, Fo.toksAt text.toList n = (a, [41]) :: r
    · obtain ⟨a, r, hts⟩ := h
      exact kids_none R n text k hk w hr hn hs hts
    · exact kids_list R n text k hk w hr hn hs hw hg hform (fun a r e => h ⟨a, r, e⟩)
  · rename_i hk
    exact kids_one R n text k hk w hr hn hs hw hg hform


end Go.Proofs.YtmnpelhcgobfaaaDoor

/-
  Walks: the method formula of the parser: what is no formula's beginning, atoms, true and false.
-/
namespace Go.Proofs.YtmnpelhcgobfaaaDoor
open Go.RowKit
open Fo (F)

abbrev accF : List ByteArray := [⟨#[97, 32, 110, 97, 109, 101]⟩, ⟨#[116, 114, 117, 101]⟩, ⟨#[102, 97, 108, 115, 101]⟩, ⟨#[110, 111, 116]⟩, ⟨#[97, 110, 100]⟩, ⟨#[111, 114]⟩, ⟨#[115, 111, 109, 101]⟩, ⟨#[97, 108, 108]⟩, ⟨#[108, 102, 112]⟩, ⟨#[112, 102, 112]⟩, ⟨#[116, 99]⟩, ⟨#[101, 120, 105, 115, 116, 115]⟩]
abbrev cellsF : List Value := [.string ⟨#[97, 32, 110, 97, 109, 101]⟩, .string ⟨#[116, 114, 117, 101]⟩, .string ⟨#[102, 97, 108, 115, 101]⟩, .string ⟨#[110, 111, 116]⟩, .string ⟨#[97, 110, 100]⟩, .string ⟨#[111, 114]⟩, .string ⟨#[115, 111, 109, 101]⟩, .string ⟨#[97, 108, 108]⟩, .string ⟨#[108, 102, 112]⟩, .string ⟨#[112, 102, 112]⟩, .string ⟨#[116, 99]⟩, .string ⟨#[101, 120, 105, 115, 116, 115]⟩]
theorem lit12 (W : World) : Strs (W.alloc (.cells cellsF.toArray 9)) (· < (W.alloc (.cells cellsF.toArray 9)).heap.size) (.slice (some ⟨W.heap.size, 0, none⟩) 12 12) accF :=
  strs_lit W 9 accF (by simp) (by intro s hs; simp only [List.mem_cons, List.not_mem_nil, or_false] at hs; rcases hs with rfl | rfl | rfl | rfl | rfl | rfl | rfl | rfl | rfl | rfl | rfl | rfl <;> exact Nat.le_of_ble_eq_true rfl) _ (by simp)
/-- A word that opens a formula is one of the eleven. -/
theorem wordK_word {b : Fo.Bs} {k : Int} (h : Fo.wordK b = some k) : Sh.wordB b = true ∧ (⟨b.toArray⟩ : ByteArray) ∈ accF := by
  unfold Fo.wordK at h
  repeat' split at h
  all_goals first | (rename_i e; subst e; exact ⟨by decide, by simp⟩) | cases h
theorem acc_no {ts : List Fo.Tok} (h : ∀ a b r, ts = (a, b) :: r → Sh.nameB b = false ∧ b ≠ [116, 114, 117, 101] ∧ b ≠ [102, 97, 108, 115, 101] ∧ Fo.wordK b = none) : kindT ts ∉ accF ∧ Fo.formF ts = .error ts := by
  cases ts with
  | nil => exact ⟨by decide, Fo.formF_nil⟩
  | cons t r =>
    obtain ⟨a, b⟩ := t
    obtain ⟨h1, h2, h3, h4⟩ := h a b r rfl
    constructor
    · intro hm
      have hw : ∀ x : Fo.Bs, Sh.wordB x = true → kindB b = ⟨x.toArray⟩ → b = x := fun x hx e => (kindB_self (.inl hx)).1 e
      have hm : kindB b ∈ accF := hm
      simp only [List.mem_cons, List.not_mem_nil, or_false] at hm
      rcases hm with e | e | e | e | e | e | e | e | e | e | e | e
      · rw [kindB_name.1 e] at h1; cases h1
      · exact h2 (hw _ (by decide) e)
      · exact h3 (hw _ (by decide) e)
      all_goals (have e' := hw _ (by decide) e; rw [e'] at h4; exact absurd h4 (by decide))
    · rw [Fo.formF_cons, if_neg (by simp [h1]), if_neg h2, if_neg h3, h4]

set_option maxRecDepth 100000 in
set_option maxHeartbeats 400000 in
theorem form_bad (R n : Nat) (text : ByteArray) (w : World) (hr : Psr w R text n) (hn : n ≤ text.size) (hs : text.size ≤ 100000)
    (h : ∀ a b r, Fo.toksAt text.toList n = (a, b) :: r → Sh.nameB b = false ∧ b ≠ [116, 114, 117, 101] ∧ b ≠ [102, 97, 108, 115, 101] ∧ Fo.wordK b = none) :
    Calls Tryd.prog 24 #[.pointer (some ⟨R, 0, none⟩)] w
      (RdPost R text w (Fo.formF (Fo.toksAt text.toList n)) (fun w' v f => NForm w' w.heap.size v f)) := by
  have hRw := hr.lt
  obtain ⟨hno, hx⟩ := acc_no h
  have Hx := Lib.hid hx; clear hx h
  have hr0 : Psr (w.alloc (.cells #[.int .i64 0, .int .i64 0, .string ⟨#[]⟩, .slice none 0 0, .slice none 0 0, .slice none 0 0] 31)) R text n := hr.alloc _
  have hg0 : w.grownBy (w.alloc (.cells #[.int .i64 0, .int .i64 0, .string ⟨#[]⟩, .slice none 0 0, .slice none 0 0, .slice none 0 0] 31)) (some R) := World.grownBy_alloc _ _ _
  have hs0 : (w.alloc (.cells #[.int .i64 0, .int .i64 0, .string ⟨#[]⟩, .slice none 0 0, .slice none 0 0, .slice none 0 0] 31)).heap.size = w.heap.size + 1 := by simp
  have hl := lit12 (w.alloc (.cells #[.int .i64 0, .int .i64 0, .string ⟨#[]⟩, .slice none 0 0, .slice none 0 0, .slice none 0 0] 31))
  rw [hs0] at hl
  have hcall := take_err R n text _ _ _ (hr0.alloc (.cells cellsF.toArray 9)) hn hs hl rfl hno
  have Hcall := Lib.hid hcall; clear hcall hl hs0 hno
  go_enter Tryd.func24, Tryd.ntmps24
  go_wp2_with (go_at_call 25; with_reducible refine (Hcall.out).mono ?_; rintro e w2 ⟨rfl, hb2⟩)
  exact ⟨rfl, RdPost.bad Hx.out (grownBy_trans hg0 (grownBy_trans (World.grownBy_alloc _ _ _) (grownBy_of_below hb2 _)))⟩

set_option maxRecDepth 100000 in
set_option maxHeartbeats 400000 in
theorem form_true (R n : Nat) (text : ByteArray) (w : World) (hr : Psr w R text n) (hn : n ≤ text.size) (hs : text.size ≤ 100000) {a : Nat} {r : List Fo.Tok} (hts : Fo.toksAt text.toList n = (a, [116, 114, 117, 101]) :: r) :
    Calls Tryd.prog 24 #[.pointer (some ⟨R, 0, none⟩)] w
      (RdPost R text w (Fo.formF (Fo.toksAt text.toList n)) (fun w' v f => NForm w' w.heap.size v f)) := by
  have hRw := hr.lt
  obtain ⟨ho1, ho2, -⟩ := tok_over hn hts
  have hx : Fo.formF (Fo.toksAt text.toList n) = .ok (.mk 4 0 Fo.noName [] [] [], r) := by rw [hts, Fo.formF_cons, if_neg (show ¬ Sh.nameB [116, 114, 117, 101] = true by decide), if_pos rfl]
  have Hx := Lib.hid hx; clear hx
  have hr0 : Psr (w.alloc (.cells #[.int .i64 0, .int .i64 0, .string ⟨#[]⟩, .slice none 0 0, .slice none 0 0, .slice none 0 0] 31)) R text n := hr.alloc _
  have hg0 : w.grownBy (w.alloc (.cells #[.int .i64 0, .int .i64 0, .string ⟨#[]⟩, .slice none 0 0, .slice none 0 0, .slice none 0 0] 31)) (some R) := World.grownBy_alloc _ _ _
  have hz0 := Blk.new w 31 #[.int .i64 0, .int .i64 0, .string ⟨#[]⟩, .slice none 0 0, .slice none 0 0, .slice none 0 0]
  have hs0 : (w.alloc (.cells #[.int .i64 0, .int .i64 0, .string ⟨#[]⟩, .slice none 0 0, .slice none 0 0, .slice none 0 0] 31)).heap.size = w.heap.size + 1 := by simp
  have hl := lit12 (w.alloc (.cells #[.int .i64 0, .int .i64 0, .string ⟨#[]⟩, .slice none 0 0, .slice none 0 0, .slice none 0 0] 31))
  rw [hs0] at hl
  have hcall := take_ok R n text _ _ _ (hr0.alloc (.cells cellsF.toArray 9)) hn hs hl hts ⟨#[116, 114, 117, 101]⟩ ((kindB_self (x := [116, 114, 117, 101]) (.inl (by decide))).2 rfl) (by simp)
  have Hcall := Lib.hid hcall; clear hcall hl hs0 hts
  go_enter Tryd.func24, Tryd.ntmps24
  go_wp2_with (go_at_call 25; with_reducible refine (Hcall.out).mono ?_; rintro e w2 ⟨rfl, hr2, hg2⟩; have hz2 := Blk.alloc (Blk.grown (Blk.alloc hz0 _) hg2 (fun e => by injection e with e; omega)) (.cells #[.string ⟨#[116, 114, 117, 101]⟩, .string ⟨#[116, 114, 117, 101]⟩, .int .i64 a] 62); obtain ⟨⟨z0, z1, z2, z3, z4, z5⟩, f0, f1, f2, f3, f4, f5⟩ := six_cells hz2)
  have hg3 := grownBy_trans hg0 (grownBy_trans (grownBy_trans (World.grownBy_alloc _ _ _) hg2) (World.grownBy_alloc w2 (.cells #[.string ⟨#[116, 114, 117, 101]⟩, .string ⟨#[116, 114, 117, 101]⟩, .int .i64 a] 62) (some R)))
  have hx6 := st6_cells (.int .i64 4) (.int .i64 0) (.string ⟨#[]⟩) (.slice none 0 0) (.slice none 0 0) (.slice none 0 0) hz2
  have hg6 := st6_grown (.int .i64 4) (.int .i64 0) (.string ⟨#[]⟩) (.slice none 0 0) (.slice none 0 0) (.slice none 0 0) hg3 (Nat.le_refl w.heap.size)
  have hp6 : Psr _ R text (a + 4) := st6_far (.int .i64 4) (.int .i64 0) (.string ⟨#[]⟩) (.slice none 0 0) (.slice none 0 0) (.slice none 0 0) (hr2.alloc (.cells #[.string ⟨#[116, 114, 117, 101]⟩, .string ⟨#[116, 114, 117, 101]⟩, .int .i64 a] 62)) (show R ≠ w.heap.size by omega)
  have hv6 := st6_val (.int .i64 4) (.int .i64 0) (.string ⟨#[]⟩) (.slice none 0 0) (.slice none 0 0) (.slice none 0 0) (w := w2.alloc (.cells #[.string ⟨#[116, 114, 117, 101]⟩, .string ⟨#[116, 114, 117, 101]⟩, .int .i64 a] 62)) (B := w.heap.size) (atom_val (k := 4) (nm := Fo.noName) (by decide) Strs.nil)
  unfold st6 at hx6 hg6 hp6 hv6
  obtain ⟨x0, x1, x2, x3, x4, x5⟩ := hx6
  refine bodyPost_ret (v := .agg #[.int .i64 4, .int .i64 0, .string ⟨#[]⟩, .slice none 0 0, .slice none 0 0, .slice none 0 0]) (by simp [results, Tryd.results24, go_sem, x0, x1, x2, x3, x4, x5]) rfl ?_
  exact RdPost.ok Hx.out _ (a + 4) hg6 ⟨_, rfl, hv6⟩ ho1 ho2 hp6

set_option maxRecDepth 100000 in
set_option maxHeartbeats 400000 in
theorem form_false (R n : Nat) (text : ByteArray) (w : World) (hr : Psr w R text n) (hn : n ≤ text.size) (hs : text.size ≤ 100000) {a : Nat} {r : List Fo.Tok} (hts : Fo.toksAt text.toList n = (a, [102, 97, 108, 115, 101]) :: r) :
    Calls Tryd.prog 24 #[.pointer (some ⟨R, 0, none⟩)] w
      (RdPost R text w (Fo.formF (Fo.toksAt text.toList n)) (fun w' v f => NForm w' w.heap.size v f)) := by
  have hRw := hr.lt
  obtain ⟨ho1, ho2, -⟩ := tok_over hn hts
  have hx : Fo.formF (Fo.toksAt text.toList n) = .ok (.mk 5 0 Fo.noName [] [] [], r) := by rw [hts, Fo.formF_cons, if_neg (show ¬ Sh.nameB [102, 97, 108, 115, 101] = true by decide), if_neg (show ¬ (([102, 97, 108, 115, 101] : Fo.Bs) = [116, 114, 117, 101]) by decide), if_pos rfl]
  have Hx := Lib.hid hx; clear hx
  have hr0 : Psr (w.alloc (.cells #[.int .i64 0, .int .i64 0, .string ⟨#[]⟩, .slice none 0 0, .slice none 0 0, .slice none 0 0] 31)) R text n := hr.alloc _
  have hg0 : w.grownBy (w.alloc (.cells #[.int .i64 0, .int .i64 0, .string ⟨#[]⟩, .slice none 0 0, .slice none 0 0, .slice none 0 0] 31)) (some R) := World.grownBy_alloc _ _ _
  have hz0 := Blk.new w 31 #[.int .i64 0, .int .i64 0, .string ⟨#[]⟩, .slice none 0 0, .slice none 0 0, .slice none 0 0]
  have hs0 : (w.alloc (.cells #[.int .i64 0, .int .i64 0, .string ⟨#[]⟩, .slice none 0 0, .slice none 0 0, .slice none 0 0] 31)).heap.size = w.heap.size + 1 := by simp
  have hl := lit12 (w.alloc (.cells #[.int .i64 0, .int .i64 0, .string ⟨#[]⟩, .slice none 0 0, .slice none 0 0, .slice none 0 0] 31))
  rw [hs0] at hl
  have hcall := take_ok R n text _ _ _ (hr0.alloc (.cells cellsF.toArray 9)) hn hs hl hts ⟨#[102, 97, 108, 115, 101]⟩ ((kindB_self (x := [102, 97, 108, 115, 101]) (.inl (by decide))).2 rfl) (by simp)
  have Hcall := Lib.hid hcall; clear hcall hl hs0 hts
  go_enter Tryd.func24, Tryd.ntmps24
  go_wp2_with (go_at_call 25; with_reducible refine (Hcall.out).mono ?_; rintro e w2 ⟨rfl, hr2, hg2⟩; have hz2 := Blk.alloc (Blk.grown (Blk.alloc hz0 _) hg2 (fun e => by injection e with e; omega)) (.cells #[.string ⟨#[102, 97, 108, 115, 101]⟩, .string ⟨#[102, 97, 108, 115, 101]⟩, .int .i64 a] 62); obtain ⟨⟨z0, z1, z2, z3, z4, z5⟩, f0, f1, f2, f3, f4, f5⟩ := six_cells hz2)
  have hg3 := grownBy_trans hg0 (grownBy_trans (grownBy_trans (World.grownBy_alloc _ _ _) hg2) (World.grownBy_alloc w2 (.cells #[.string ⟨#[102, 97, 108, 115, 101]⟩, .string ⟨#[102, 97, 108, 115, 101]⟩, .int .i64 a] 62) (some R)))
  have hx6 := st6_cells (.int .i64 5) (.int .i64 0) (.string ⟨#[]⟩) (.slice none 0 0) (.slice none 0 0) (.slice none 0 0) hz2
  have hg6 := st6_grown (.int .i64 5) (.int .i64 0) (.string ⟨#[]⟩) (.slice none 0 0) (.slice none 0 0) (.slice none 0 0) hg3 (Nat.le_refl w.heap.size)
  have hp6 : Psr _ R text (a + 5) := st6_far (.int .i64 5) (.int .i64 0) (.string ⟨#[]⟩) (.slice none 0 0) (.slice none 0 0) (.slice none 0 0) (hr2.alloc (.cells #[.string ⟨#[102, 97, 108, 115, 101]⟩, .string ⟨#[102, 97, 108, 115, 101]⟩, .int .i64 a] 62)) (show R ≠ w.heap.size by omega)
  have hv6 := st6_val (.int .i64 5) (.int .i64 0) (.string ⟨#[]⟩) (.slice none 0 0) (.slice none 0 0) (.slice none 0 0) (w := w2.alloc (.cells #[.string ⟨#[102, 97, 108, 115, 101]⟩, .string ⟨#[102, 97, 108, 115, 101]⟩, .int .i64 a] 62)) (B := w.heap.size) (atom_val (k := 5) (nm := Fo.noName) (by decide) Strs.nil)
  unfold st6 at hx6 hg6 hp6 hv6
  obtain ⟨x0, x1, x2, x3, x4, x5⟩ := hx6
  refine bodyPost_ret (v := .agg #[.int .i64 5, .int .i64 0, .string ⟨#[]⟩, .slice none 0 0, .slice none 0 0, .slice none 0 0]) (by simp [results, Tryd.results24, go_sem, x0, x1, x2, x3, x4, x5]) rfl ?_
  exact RdPost.ok Hx.out _ (a + 5) hg6 ⟨_, rfl, hv6⟩ ho1 ho2 hp6

set_option maxRecDepth 100000 in
set_option maxHeartbeats 400000 in
theorem form_name (R n : Nat) (text : ByteArray) (w : World) (hr : Psr w R text n) (hn : n ≤ text.size) (hs : text.size ≤ 100000) {a : Nat} {b : Fo.Bs} {r : List Fo.Tok} (hts : Fo.toksAt text.toList n = (a, b) :: r) (hb : Sh.nameB b = true) :
    Calls Tryd.prog 24 #[.pointer (some ⟨R, 0, none⟩)] w
      (RdPost R text w (Fo.formF (Fo.toksAt text.toList n)) (fun w' v f => NForm w' w.heap.size v f)) := by
  have hRw := hr.lt
  obtain ⟨ho1, ho2, -⟩ := tok_over hn hts
  have hx : Fo.formF (Fo.toksAt text.toList n) = Fo.atomT b r := by rw [hts, Fo.formF_cons, if_pos hb]
  have Hx := Lib.hid hx; clear hx
  have hr0 : Psr (w.alloc (.cells #[.int .i64 0, .int .i64 0, .string ⟨#[]⟩, .slice none 0 0, .slice none 0 0, .slice none 0 0] 31)) R text n := hr.alloc _
  have hg0 : w.grownBy (w.alloc (.cells #[.int .i64 0, .int .i64 0, .string ⟨#[]⟩, .slice none 0 0, .slice none 0 0, .slice none 0 0] 31)) (some R) := World.grownBy_alloc _ _ _
  have hz0 := Blk.new w 31 #[.int .i64 0, .int .i64 0, .string ⟨#[]⟩, .slice none 0 0, .slice none 0 0, .slice none 0 0]
  have hs0 : (w.alloc (.cells #[.int .i64 0, .int .i64 0, .string ⟨#[]⟩, .slice none 0 0, .slice none 0 0, .slice none 0 0] 31)).heap.size = w.heap.size + 1 := by simp
  have hl := lit12 (w.alloc (.cells #[.int .i64 0, .int .i64 0, .string ⟨#[]⟩, .slice none 0 0, .slice none 0 0, .slice none 0 0] 31))
  rw [hs0] at hl
  have hcall := take_ok R n text _ _ _ (hr0.alloc (.cells cellsF.toArray 9)) hn hs hl hts ⟨#[97, 32, 110, 97, 109, 101]⟩ (kindB_name.2 hb) (by simp)
  have hys : (⟨b.toArray⟩ : ByteArray).size ≤ 100000 := by simp only [ByteArray.size, List.size_toArray]; omega
  have hcall2 : ∀ W, Psr W R text (a + b.length) → Calls Tryd.prog 31 #[.pointer (some ⟨R, 0, none⟩), .string ⟨b.toArray⟩] W (RdPost R text W (Fo.atomT b r) (fun w' v f => NForm w' W.heap.size v f)) := fun W h1 => by
    have h := atom_any R (a + b.length) text ⟨b.toArray⟩ hys W h1 ho1 hs
    rwa [lit_toList, ho2] at h
  generalize (⟨b.toArray⟩ : ByteArray) = y at *
  have Hcall := Lib.hid hcall; clear hcall hl hs0 hts
  cases hat : Fo.atomT b r with
  | error ts =>
    have hcall2 := fun W h1 => (hcall2 W h1).mono fun e w' h => h.miss hat
    rw [hat] at Hx
    have Hcall2 := Lib.hid hcall2; clear hcall2 hat
    go_enter Tryd.func24, Tryd.ntmps24
    go_wp2_with (first
      | (go_at_call 25; with_reducible refine (Hcall.out).mono ?_; rintro e w2 ⟨rfl, hr2, hg2⟩)
      | (go_at_call 31; with_reducible refine (Hcall2.out _ (hr2.alloc _)).mono ?_; rintro e w3 ⟨rfl, hg3⟩))
    exact ⟨rfl, RdPost.bad Hx.out (grownBy_trans hg0 (grownBy_trans (grownBy_trans (World.grownBy_alloc _ _ _) hg2) (grownBy_trans (World.grownBy_alloc _ _ _) hg3)))⟩
  | ok p =>
    obtain ⟨f, r2⟩ := p
    have hcall2 := fun W h1 => (hcall2 W h1).mono fun e w' h => h.hit hat
    rw [hat] at Hx
    have Hcall2 := Lib.hid hcall2; clear hcall2 hat
    go_enter Tryd.func24, Tryd.ntmps24
    go_wp2_with (first
      | (go_at_call 25; with_reducible refine (Hcall.out).mono ?_; rintro e w2 ⟨rfl, hr2, hg2⟩; have hz2 := Blk.alloc (Blk.grown (Blk.alloc hz0 _) hg2 (fun e => by injection e with e; omega)) (.cells #[.string ⟨#[97, 32, 110, 97, 109, 101]⟩, .string y, .int .i64 a] 62); have hlt2 : w.heap.size + 1 ≤ (w2.alloc (.cells #[.string ⟨#[97, 32, 110, 97, 109, 101]⟩, .string y, .int .i64 a] 62)).heap.size := Nat.succ_le_of_lt hz2.lt)
      | (go_at_call 31; with_reducible refine (Hcall2.out _ (hr2.alloc _)).mono ?_; rintro e w3 ⟨v3, m3, rfl, hg3, hv3, hm3, ht3, hr3⟩; obtain ⟨k1, a1, n1, A3, n3, c3, A4, n4, c4, A5, n5, c5, rfl, hw3⟩ := hv3.open_; have hz3 := Blk.grown hz2 hg3 (fun e => by injection e with e; omega); obtain ⟨⟨z0, z1, z2, z3, z4, z5⟩, f0, f1, f2, f3, f4, f5⟩ := six_cells hz3))
    have hg4 := grownBy_trans hg0 (grownBy_trans (grownBy_trans (World.grownBy_alloc _ _ _) hg2) (grownBy_trans (World.grownBy_alloc w2 (.cells #[.string ⟨#[97, 32, 110, 97, 109, 101]⟩, .string y, .int .i64 a] 62) (some R)) hg3))
    have hx6 := st6_cells (.int .i64 k1) (.int .i64 a1) (.string n1) (.slice A3 n3 c3) (.slice A4 n4 c4) (.slice A5 n5 c5) hz3
    have hg6 := st6_grown (.int .i64 k1) (.int .i64 a1) (.string n1) (.slice A3 n3 c3) (.slice A4 n4 c4) (.slice A5 n5 c5) hg4 (Nat.le_refl w.heap.size)
    have hp6 : Psr _ R text m3 := st6_far (.int .i64 k1) (.int .i64 a1) (.string n1) (.slice A3 n3 c3) (.slice A4 n4 c4) (.slice A5 n5 c5) hr3 (show R ≠ w.heap.size by omega)
    have hv6 := st6_val (.int .i64 k1) (.int .i64 a1) (.string n1) (.slice A3 n3 c3) (.slice A4 n4 c4) (.slice A5 n5 c5) (w := w3) (B := w.heap.size) (FVal.more (fun b hb => ⟨Nat.le_trans hlt2 hb.1, hb.2⟩) _ _ hw3)
    unfold st6 at hx6 hg6 hp6 hv6
    obtain ⟨x0, x1, x2, x3, x4, x5⟩ := hx6
    refine bodyPost_ret (v := .agg #[.int .i64 k1, .int .i64 a1, .string n1, .slice A3 n3 c3, .slice A4 n4 c4, .slice A5 n5 c5]) (by simp [results, Tryd.results24, go_sem, x0, x1, x2, x3, x4, x5]) rfl ?_
    exact RdPost.ok Hx.out _ m3 hg6 ⟨_, rfl, hv6⟩ hm3 ht3 hp6


end Go.Proofs.YtmnpelhcgobfaaaDoor

/-
  What formula's walk at a word stands on: the grammar, stage by stage; the parts of a new formula, and its six cells.
-/
namespace Go.Proofs.YtmnpelhcgobfaaaDoor
open Go.RowKit
open Fo (F)

theorem head_none {k : Int} (h : k = 3 ∨ k = 4 ∨ k = 5) (ts : List Fo.Tok) : Fo.headT k ts = .ok ((Fo.noName, 0, []), ts) := by
  rcases h with rfl | rfl | rfl <;> rfl
theorem head_vars {k : Int} (h : k = 6 ∨ k = 7 ∨ k = 10) (ts : List Fo.Tok) : Fo.headT k ts = Fo.bnd (Fo.namesT [58] ts) fun vs r => .ok ((Fo.noName, 0, vs), r) := by
  rcases h with rfl | rfl | rfl <;> rfl
theorem head_fix {k : Int} (h : k = 8 ∨ k = 9) (ts : List Fo.Tok) : Fo.headT k ts = Fo.bnd (Fo.takeT Sh.nameB ts) fun x r => Fo.bnd (Fo.namesT [58] r) fun vs r => .ok ((⟨x.toArray⟩, 0, vs), r) := by
  rcases h with rfl | rfl <;> (
    show Fo.bnd (Fo.bnd (Fo.takeT Sh.nameB ts) fun x r => (.ok ((⟨x.toArray⟩ : ByteArray), r) : Fo.Rd ByteArray)) _ = _
    rw [bnd_bnd]; rfl)
theorem head_second (ts : List Fo.Tok) : Fo.headT 11 ts = Fo.bnd (Fo.takeT Sh.nameB ts) fun x r => Fo.bnd (Fo.numT r) fun a r => Fo.bnd (Fo.takeT (Fo.isT [58]) r) fun _ r => .ok ((⟨x.toArray⟩, a, []), r) := by
  show Fo.bnd (Fo.bnd (Fo.takeT Sh.nameB ts) fun x r => (.ok ((⟨x.toArray⟩ : ByteArray), r) : Fo.Rd ByteArray)) _ = _
  rw [bnd_bnd]
  refine Fo.bnd_congr fun x r _ => ?_
  show Fo.bnd (Fo.bnd (Fo.numT r) fun a r => Fo.bnd (Fo.takeT (Fo.isT [58]) r) fun _ r => (.ok (a, r) : Fo.Rd Int)) _ = _
  rw [bnd_bnd]
  refine Fo.bnd_congr fun a r _ => ?_
  rw [bnd_bnd]; rfl
theorem tail_none {k : Int} (h : ¬ (k = 8 ∨ k = 9 ∨ k = 10)) (ts : List Fo.Tok) : Fo.tailT k ts = .ok ([], ts) := by
  unfold Fo.tailT Fo.optT
  rw [if_neg (by simpa using h)]
theorem tail_args {k : Int} (h : k = 8 ∨ k = 9 ∨ k = 10) (ts : List Fo.Tok) : Fo.tailT k ts = Fo.bnd (Fo.takeT (Fo.isT [40]) ts) fun _ r => Fo.namesT [41] r := by
  unfold Fo.tailT Fo.optT
  rw [if_pos (by simpa using h)]

/-- A formula that a word begins, stage by stage. -/
theorem form_word {a : Nat} {b : Fo.Bs} {k : Int} (h : Fo.wordK b = some k) (r : List Fo.Tok) : Fo.formF ((a, b) :: r) =
    Fo.bnd (Fo.takeT (Fo.isT [40]) r) fun _ r => Fo.bnd (Fo.headT k r) fun h r => Fo.bnd (kidsX k r) fun l r => Fo.bnd (Fo.tailT k r) fun ar r => .ok (.mk k h.2.1 h.1 h.2.2 ar l, r) := by
  have hw := (wordK_word h).1
  have h1 : ¬ Sh.nameB b = true := by rw [(word_cases hw).2.1]; simp
  have h2 : b ≠ [116, 114, 117, 101] := fun e => by rw [e, show Fo.wordK [116, 114, 117, 101] = none by decide] at h; cases h
  have h3 : b ≠ [102, 97, 108, 115, 101] := fun e => by rw [e, show Fo.wordK [102, 97, 108, 115, 101] = none by decide] at h; cases h
  rw [Fo.formF_cons, if_neg h1, if_neg h2, if_neg h3, h]
  refine Fo.bnd_congr fun _ r1 _ => ?_
  unfold kidsX
  by_cases hk : k = 4 ∨ k = 5
  · rw [if_pos hk, head_none (by omega)]
    show _ = Fo.bnd (if k = 4 ∨ k = 5 then Fo.listT Fo.kidsF r1 else oneT r1) _
    rw [if_pos hk]
    refine Fo.bnd_congr fun l r2 _ => ?_
    rw [tail_none (by omega)]; rfl
  · rw [if_neg hk]
    refine Fo.bnd_congr fun hd r2 _ => ?_
    rw [if_neg hk]
    unfold oneT
    rw [bnd_bnd]
    refine Fo.bnd_congr fun f r3 _ => ?_
    rw [bnd_bnd]; rfl

theorem NStrs.setG {w : World} {G i : Nat} {v u : Value} {l : List ByteArray} (h : NStrs w (G + 1) v l) : NStrs (w.setCell ⟨G, i, none⟩ u) (G + 1) v l :=
  (h.keep (w' := w.setCell ⟨G, i, none⟩ u) fun p hp => World.cell?_of_block (Below.heap_setCell w ⟨G, i, none⟩ u p.block (fun e => by have := hp.1; have e : p.block = G := e; omega))).more fun b hb => ⟨hb.1, by simpa [World.setCell] using hb.2⟩
theorem NKids.keep {w w' : World} {L : Nat} {v : Value} {fs : List FB} (h : NKids w L v fs) (hs : w.heap.size ≤ w'.heap.size) (hk : ∀ b, L ≤ b → b < w.heap.size → w'.heap[b]? = w.heap[b]?) : NKids w' L v fs := by
  obtain ⟨A, m, c, h1, h2, h3, h4, h5⟩ := h
  refine ⟨A, m, c, h1, h2, h3, h4, fun hm => ?_⟩
  obtain ⟨ad, e, hb, hf⟩ := h5 hm
  exact ⟨ad, e, ⟨hb.1, Nat.lt_of_lt_of_le hb.2 hs⟩, FKids.more (fun b hb => ⟨hb.1, Nat.lt_of_lt_of_le hb.2 hs⟩) ad fs 0 (FKids.keep (fun p hp => World.cell?_of_block (hk p.block hp.1 hp.2)) ad hb fs 0 hf)⟩
theorem NKids.grown {w w' : World} {L R : Nat} {v : Value} {fs : List FB} (h : NKids w L v fs) (hg : w.grownBy w' (some R)) (hR : R < L) : NKids w' L v fs :=
  h.keep hg.size fun b hb hlt => hg.block b hlt (fun e => by injection e with e; omega)
theorem NKids.setG {w : World} {G i : Nat} {v u : Value} {fs : List FB} (h : NKids w (G + 1) v fs) : NKids (w.setCell ⟨G, i, none⟩ u) (G + 1) v fs :=
  h.keep (by simp [World.setCell]) fun b hb _ => Below.heap_setCell w ⟨G, i, none⟩ u b (fun e => by have e : b = G := e; omega)
theorem NKids.form {w : World} {L : Nat} {v : Value} {fs : List FB} (h : NKids w L v fs) : ∃ A n c, v = .slice A n c := by
  obtain ⟨A, m, c, h, -⟩ := h
  exact ⟨A, m, c, h⟩
theorem NKids.lower {w : World} {L L' : Nat} {v : Value} {fs : List FB} (h : NKids w L v fs) (hL : L' ≤ L) : NKids w L' v fs := by
  obtain ⟨A, m, c, h1, h2, h3, h4, h5⟩ := h
  refine ⟨A, m, c, h1, h2, h3, h4, fun hm => ?_⟩
  obtain ⟨ad, e, hb, hf⟩ := h5 hm
  exact ⟨ad, e, ⟨Nat.le_trans hL hb.1, hb.2⟩, FKids.more (fun b hb => ⟨Nat.le_trans hL hb.1, hb.2⟩) ad fs 0 hf⟩
/-- The six cells of a formula whose parts are new. -/
theorem form_val {w : World} {L : Nat} {k a : Int} {nm : ByteArray} {v3 v4 v5 : Value} {vs ar : List ByteArray} {ks : List FB} (hn : nm.size ≤ 140737488351232) (h3 : NStrs w L v3 vs) (h4 : NStrs w L v4 ar) (h5 : NKids w L v5 ks) :
    FVal w (fun b => L ≤ b ∧ b < w.heap.size) (.mk k a nm vs ar ks) [.int .i64 k, .int .i64 a, .string nm, v3, v4, v5] := by
  obtain ⟨A, m, c, rfl, h2, hm, hc, hk⟩ := h5
  unfold FVal
  exact ⟨v3, v4, A, m, c, rfl, hn, h3, h4, h2, hm, hc, hk⟩

end Go.Proofs.YtmnpelhcgobfaaaDoor

/-
  Small laws for the walks of formula at a word.
-/
namespace Go.Proofs.YtmnpelhcgobfaaaDoor
open Go.RowKit
open Fo (F)

theorem FormAt.less {R N N' : Nat} {text : ByteArray} (h : FormAt R text N) (hN : N' ≤ N) : FormAt R text N' := fun m W h1 h2 h3 h4 h5 => h m W (Nat.le_trans h1 hN) h2 h3 h4 h5
theorem blk_set5 {w : World} {G : Nat} {t : TypeId} {a0 a1 a2 a3 a4 a5 : Value} (h : Blk w G t #[a0, a1, a2, a3, a4, a5]) (v : Value) : Blk (w.setCell ⟨G, 5, none⟩ v) G t #[a0, a1, a2, a3, a4, v] := h.set_ 5 v
theorem blk_set0 {w : World} {G : Nat} {t : TypeId} {a0 a1 a2 a3 a4 a5 : Value} (h : Blk w G t #[a0, a1, a2, a3, a4, a5]) (v : Value) : Blk (w.setCell ⟨G, 0, none⟩ v) G t #[v, a1, a2, a3, a4, a5] := h.set_ 0 v
theorem blk_set1 {w : World} {G : Nat} {t : TypeId} {a0 a1 a2 a3 a4 a5 : Value} (h : Blk w G t #[a0, a1, a2, a3, a4, a5]) (v : Value) : Blk (w.setCell ⟨G, 1, none⟩ v) G t #[a0, v, a2, a3, a4, a5] := h.set_ 1 v
theorem blk_set2 {w : World} {G : Nat} {t : TypeId} {a0 a1 a2 a3 a4 a5 : Value} (h : Blk w G t #[a0, a1, a2, a3, a4, a5]) (v : Value) : Blk (w.setCell ⟨G, 2, none⟩ v) G t #[a0, a1, v, a3, a4, a5] := h.set_ 2 v
theorem blk_set3 {w : World} {G : Nat} {t : TypeId} {a0 a1 a2 a3 a4 a5 : Value} (h : Blk w G t #[a0, a1, a2, a3, a4, a5]) (v : Value) : Blk (w.setCell ⟨G, 3, none⟩ v) G t #[a0, a1, a2, v, a4, a5] := h.set_ 3 v
theorem blk_set4 {w : World} {G : Nat} {t : TypeId} {a0 a1 a2 a3 a4 a5 : Value} (h : Blk w G t #[a0, a1, a2, a3, a4, a5]) (v : Value) : Blk (w.setCell ⟨G, 4, none⟩ v) G t #[a0, a1, a2, a3, v, a5] := h.set_ 4 v
theorem blk_far {w : World} {B G : Nat} {t : TypeId} {cs : Array Value} (h : Blk w B t cs) (hne : B ≠ G) (i : Nat) (v : Value) : Blk (w.setCell ⟨G, i, none⟩ v) B t cs := Blk.far h hne v
theorem bndOk {α β : Type} (a : α) (r : List Fo.Tok) (f : α → List Fo.Tok → Fo.Rd β) : Fo.bnd (.ok (a, r)) f = f a r := rfl
theorem bndErr {α β : Type} (e : List Fo.Tok) (f : α → List Fo.Tok → Fo.Rd β) : Fo.bnd (.error e) f = .error e := rfl

/-- take of a name. -/
theorem name_cases (ts : List Fo.Tok) : (∃ a b r, ts = (a, b) :: r ∧ Fo.takeT Sh.nameB ts = .ok (b, r) ∧ Sh.nameB b = true) ∨ (Fo.takeT Sh.nameB ts = .error ts ∧ kindT ts ∉ [nameK]) := by
  cases ts with
  | nil => exact .inr (name_no fun t r h => by cases h)
  | cons t r =>
    obtain ⟨a, b⟩ := t
    cases hb : Sh.nameB b
    · exact .inr (name_no fun t' r' h => by injection h with h1 h2; rw [← h1]; exact hb)
    · exact .inl ⟨a, b, r, rfl, by rw [Fo.takeT, if_pos hb], hb⟩

end Go.Proofs.YtmnpelhcgobfaaaDoor

/-
  Walks: the method formula of the parser, at the word not.
-/
namespace Go.Proofs.YtmnpelhcgobfaaaDoor
open Go.RowKit
open Fo (F)

set_option maxRecDepth 100000 in
set_option maxHeartbeats 2000000 in
theorem form_not (R n : Nat) (text : ByteArray) (w : World) (hr : Psr w R text n) (hn : n ≤ text.size) (hs : text.size ≤ 100000) (hw : Words w) (hg : 0 < R) {a : Nat} {r : List Fo.Tok}
    (hts : Fo.toksAt text.toList n = (a, [110, 111, 116]) :: r) (hform : FormAt R text r.length) :
    Calls Tryd.prog 24 #[.pointer (some ⟨R, 0, none⟩)] w
      (RdPost R text w (Fo.formF (Fo.toksAt text.toList n)) (fun w' v f => NForm w' w.heap.size v f)) := by
  have hRw := hr.lt
  obtain ⟨ho1, ho2, -⟩ := tok_over hn hts
  have hx := form_word (a := a) (b := [110, 111, 116]) (k := 3) (by decide) r
  rw [← hts] at hx
  have Hx := Lib.hid hx; clear hx
  have Hw := Lib.hid hw; clear hw
  have Hform := Lib.hid hform; clear hform
  have hr0 : Psr (w.alloc (.cells #[.int .i64 0, .int .i64 0, .string ⟨#[]⟩, .slice none 0 0, .slice none 0 0, .slice none 0 0] 31)) R text n := hr.alloc _
  have hg0 : w.grownBy (w.alloc (.cells #[.int .i64 0, .int .i64 0, .string ⟨#[]⟩, .slice none 0 0, .slice none 0 0, .slice none 0 0] 31)) (some R) := World.grownBy_alloc _ _ _
  have hz0 := Blk.new w 31 #[.int .i64 0, .int .i64 0, .string ⟨#[]⟩, .slice none 0 0, .slice none 0 0, .slice none 0 0]
  have hs0 : (w.alloc (.cells #[.int .i64 0, .int .i64 0, .string ⟨#[]⟩, .slice none 0 0, .slice none 0 0, .slice none 0 0] 31)).heap.size = w.heap.size + 1 := by simp
  have hl := lit12 (w.alloc (.cells #[.int .i64 0, .int .i64 0, .string ⟨#[]⟩, .slice none 0 0, .slice none 0 0, .slice none 0 0] 31))
  rw [hs0] at hl
  have hcall := take_ok R n text _ _ _ (hr0.alloc (.cells cellsF.toArray 9)) hn hs hl hts ⟨#[110, 111, 116]⟩ ((kindB_self (x := [110, 111, 116]) (.inl (by decide))).2 rfl) (by simp)
  have Hcall := Lib.hid hcall; clear hcall hl hs0 hts
  go_enter Tryd.func24, Tryd.ntmps24
  go_wp2_with (go_at_call 25; with_reducible refine (Hcall.out).mono ?_; rintro e w2 ⟨rfl, hr2, hg2⟩; have hz2 := Blk.grown (Blk.alloc hz0 _) hg2 (fun e => by injection e with e; omega); have hg02 := grownBy_trans hg0 (grownBy_trans (World.grownBy_alloc _ _ _) hg2))
  have hs3 : (w2.alloc (.cells #[.string ⟨#[110, 111, 116]⟩, .string ⟨#[110, 111, 116]⟩, .int .i64 a] 62)).heap.size = w2.heap.size + 1 := by simp
  have hT3 := Blk.new w2 62 #[.string ⟨#[110, 111, 116]⟩, .string ⟨#[110, 111, 116]⟩, .int .i64 a]
  have hB3 := Blk.alloc hz2 (.cells #[.string ⟨#[110, 111, 116]⟩, .string ⟨#[110, 111, 116]⟩, .int .i64 a] 62)
  have hr3 := hr2.alloc (.cells #[.string ⟨#[110, 111, 116]⟩, .string ⟨#[110, 111, 116]⟩, .int .i64 a] 62)
  have hg3 := grownBy_trans hg02 (World.grownBy_alloc w2 (.cells #[.string ⟨#[110, 111, 116]⟩, .string ⟨#[110, 111, 116]⟩, .int .i64 a] 62) (some R))
  have hBT : w.heap.size < w2.heap.size := hz2.lt
  clear hz2 hr2 hg2 hg02 Hcall hz0 hr0 hg0
  generalize w2.alloc (.cells #[.string ⟨#[110, 111, 116]⟩, .string ⟨#[110, 111, 116]⟩, .int .i64 a] 62) = w3 at *
  generalize w2.heap.size = T at *
  have hl := lit1 40 w3
  rw [hs3] at hl
  rcases sign_cases 40 (by decide) r with ⟨a1, r1, hr', ht, hkd⟩ | ⟨ht, hno⟩
  · have hx := Hx.out; clear Hx
    rw [ht, bndOk] at hx
    have Hx := Lib.hid hx; clear hx
    subst hr'
    have hcall := take_ok R _ text _ _ _ (hr3.alloc (.cells #[.string ⟨#[40]⟩] 9)) ho1 hs hl ho2 ⟨#[40]⟩ hkd (by simp)
    obtain ⟨hp1, hp2, -⟩ := tok_over ho1 ho2
    have Hcall := Lib.hid hcall; clear hcall hl ht hkd ho2
    have hbind : ∀ W, Calls Tryd.prog 33 #[.int .i64 3] W fun e w' => e = .returned (.bool (Fo.bindsB 3)) ∧ W = w' := fun W => fbinds_any 3 W
    rw [show Fo.bindsB 3 = false by decide] at hbind
    have Hbind := Lib.hid hbind; clear hbind
    go_wp2_with (first
      | (go_at_call 25; with_reducible refine (Hcall.out).mono ?_; rintro e w4 ⟨rfl, hr4, hg4⟩; have hT4 := Blk.grown (Blk.alloc hT3 _) hg4 (fun e => by injection e with e; omega); have hB4 := Blk.grown (Blk.alloc hB3 _) hg4 (fun e => by injection e with e; omega); have t0 := Blk.cell0 hT4; have hg04 := grownBy_trans hg3 (grownBy_trans (World.grownBy_alloc _ _ _) hg4); have hw4 := Hw.out.grown hg04 hg hRw; have Hw4 := Lib.hid hw4; clear hw4)
      | (go_at_call 32; with_reducible refine (kindOf_3 _ Hw4.out).mono ?_; rintro e w' ⟨rfl, rfl⟩)
      | (go_at_call 33; with_reducible refine (Hbind.out _).mono ?_; rintro e w' ⟨rfl, rfl⟩))
    have hG5 := Blk.new w4 31 #[.int .i64 3, .int .i64 0, .string ⟨#[]⟩, .slice none 0 0, .slice none 0 0, .slice none 0 0]
    have hB5 := Blk.alloc hB4 (.cells #[.int .i64 3, .int .i64 0, .string ⟨#[]⟩, .slice none 0 0, .slice none 0 0, .slice none 0 0] 31)
    have hr5 := hr4.alloc (.cells #[.int .i64 3, .int .i64 0, .string ⟨#[]⟩, .slice none 0 0, .slice none 0 0, .slice none 0 0] 31)
    have hg5 := grownBy_trans hg04 (World.grownBy_alloc w4 (.cells #[.int .i64 3, .int .i64 0, .string ⟨#[]⟩, .slice none 0 0, .slice none 0 0, .slice none 0 0] 31) (some R))
    have hBG : w.heap.size < w4.heap.size := hB4.lt
    have hRG : R < w4.heap.size := hr4.lt_
    have hs5 : (w4.alloc (.cells #[.int .i64 3, .int .i64 0, .string ⟨#[]⟩, .slice none 0 0, .slice none 0 0, .slice none 0 0] 31)).heap.size = w4.heap.size + 1 := by simp
    clear hT4 hB4 hr4 hg4 hg04 Hw4 t0 hT3 hB3 hr3 hg3 Hcall
    generalize w4.alloc (.cells #[.int .i64 3, .int .i64 0, .string ⟨#[]⟩, .slice none 0 0, .slice none 0 0, .slice none 0 0] 31) = w5 at *
    generalize w4.heap.size = G at *
    have Hs5 := Lib.hid hs5; clear hs5
    have hne : w.heap.size ≠ G := Nat.ne_of_lt hBG
    have hx := Hx.out; clear Hx
    rw [head_none (k := 3) (by decide), bndOk] at hx
    have hst := kids_any R _ text 3 w5 hr5 hp1 hs (Hw.out.grown hg5 hg hRw) hg (Hform.out.less (by rw [hp2]; simp only [List.length_cons]; omega))
    rw [hp2] at hst
    cases hpure : kidsX 3 r1 with
    | error ts =>
      rw [hpure, bndErr] at hx
      have Hx := Lib.hid hx; clear hx
      have hcall := hst.mono fun e w' h => h.miss hpure
      have Hcall := Lib.hid hcall; clear hcall hst hpure
      go_wp2_with (go_at_call 36; with_reducible refine (Hcall.out).mono ?_; rintro e w6 ⟨rfl, hg6⟩)
      exact ⟨rfl, RdPost.bad Hx.out (grownBy_trans hg5 hg6)⟩
    | ok p =>
      obtain ⟨ks, r2⟩ := p
      rw [hpure, bndOk] at hx
      rw [tail_none (k := 3) (by decide), bndOk] at hx
      have Hx := Lib.hid hx; clear hx
      have hcall := hst.mono fun e w' h => h.hit hpure
      have Hcall := Lib.hid hcall; clear hcall hst hpure
      go_wp2_with (go_at_call 36; with_reducible refine (Hcall.out).mono ?_; rintro e w6 ⟨v6, m6, rfl, hg6, hv6, hm6, ht6, hr6⟩; obtain ⟨Q5, q5, e5, rfl⟩ := hv6.form; have hGa5 := Blk.grown hG5 hg6 (fun e => by injection e with e; omega); have hBa5 := Blk.grown hB5 hg6 (fun e => by injection e with e; omega); obtain ⟨⟨g0, g1, g2, g3, g4, g5⟩, h0, h1, h2, h3, h4, h5⟩ := six_cells hGa5; have hG7 := blk_set5 hGa5 (.slice Q5 q5 e5); have hB7 := blk_far hBa5 hne 5 (.slice Q5 q5 e5); obtain ⟨⟨y0, y1, y2, y3, y4, y5⟩, -⟩ := six_cells hG7; obtain ⟨⟨z0, z1, z2, z3, z4, z5⟩, f0, f1, f2, f3, f4, f5⟩ := six_cells hB7)
      have hg7 : w.grownBy (w6.setCell ⟨G, 5, none⟩ (.slice Q5 q5 e5)) (some R) := grown_over (grownBy_trans hg5 hg6) (Nat.le_of_lt hBG) _
      have hr7 : Psr (w6.setCell ⟨G, 5, none⟩ (.slice Q5 q5 e5)) R text _ := Blk.far hr6 (Nat.ne_of_lt hRG) _
      rw [Hs5.out] at hv6
      have hks7 := hv6.setG (i := 5) (u := .slice Q5 q5 e5)
      have hv8 := form_val (k := 3) (a := 0) (nm := Fo.noName) (by decide) Strs.nil Strs.nil (hks7.lower (show w.heap.size + 1 ≤ G + 1 by omega))
      have hx6 := st6_cells (.int .i64 3) (.int .i64 0) (.string ⟨#[]⟩) (.slice none 0 0) (.slice none 0 0) (.slice Q5 q5 e5) hB7
      have hg8 := st6_grown (.int .i64 3) (.int .i64 0) (.string ⟨#[]⟩) (.slice none 0 0) (.slice none 0 0) (.slice Q5 q5 e5) hg7 (Nat.le_refl w.heap.size)
      have hp8 : Psr _ R text _ := st6_far (.int .i64 3) (.int .i64 0) (.string ⟨#[]⟩) (.slice none 0 0) (.slice none 0 0) (.slice Q5 q5 e5) hr7 (show R ≠ w.heap.size by omega)
      have hv8 := st6_val (.int .i64 3) (.int .i64 0) (.string ⟨#[]⟩) (.slice none 0 0) (.slice none 0 0) (.slice Q5 q5 e5) hv8
      unfold st6 at hx6 hg8 hp8 hv8
      obtain ⟨x0, x1, x2, x3, x4, x5⟩ := hx6
      refine bodyPost_ret (v := .agg #[.int .i64 3, .int .i64 0, .string ⟨#[]⟩, .slice none 0 0, .slice none 0 0, .slice Q5 q5 e5]) (by simp [results, Tryd.results24, go_sem, x0, x1, x2, x3, x4, x5]) rfl ?_
      exact RdPost.ok Hx.out _ _ hg8 ⟨_, rfl, hv8⟩ hm6 ht6 hp8
  · have hx := Hx.out; clear Hx
    rw [ht, bndErr] at hx
    have Hx := Lib.hid hx; clear hx
    have hcall := take_err R _ text _ _ _ (hr3.alloc (.cells #[.string ⟨#[40]⟩] 9)) ho1 hs hl ho2 hno
    have Hcall := Lib.hid hcall; clear hcall hl ht ho2
    go_wp2_with (go_at_call 25; with_reducible refine (Hcall.out).mono ?_; rintro e w4 ⟨rfl, hb4⟩)
    exact ⟨rfl, RdPost.bad Hx.out (grownBy_trans hg3 (grownBy_trans (World.grownBy_alloc _ _ _) (grownBy_of_below hb4 _)))⟩

end Go.Proofs.YtmnpelhcgobfaaaDoor
