/-
  Texts joined: Focc, Fbnd.
-/
import Derived.Test.YtmnpelhcgobfaaaDoorJi12
import Derived.Test.YtmnpelhcgobfaaaDoorJi11
import Derived.Maps.AppendAt

/-
  Walk: survey.occurrence.
-/
namespace Go.Proofs.YtmnpelhcgobfaaaDoor
open Go.RowKit
open Fo (F Bd St getM updM)

def occB (b : Bd ByteArray) (k no pf : Nat) : Bool := decide ((k : Int) = b.arity) && (!b.pos || posB no pf b.nots b.pfps)
/-- What occurrence leaves. -/
def OccPost (L sb m1 m2 m3 m4 N : Nat) (st : St ByteArray) (bd : List (Bd ByteArray)) (vs : List ByteArray) (no pf : Nat) (x : ByteArray) (k : Nat) (w : World) (e : Ending) (w' : World) : Prop :=
  match Fo.findBd x bd with
  | none => UnbPost L sb m1 m2 m3 m4 N st bd vs no pf x k w e w'
  | some b => e = .returned (.bool (occB b k no pf)) ∧ Fr L w w' ∧ Sv w' L sb m1 m2 m3 m4 N st bd vs no pf
theorem UnbPost.bool {L sb m1 m2 m3 m4 N : Nat} {st : St ByteArray} {bd : List (Bd ByteArray)} {vs : List ByteArray} {no pf : Nat} {x : ByteArray} {k : Nat} {w w' : World} {e : Ending} (hp : UnbPost L sb m1 m2 m3 m4 N st bd vs no pf x k w e w') : ∃ r, e = .returned (.bool r) := by
  obtain ⟨-, hp⟩ := hp
  split at hp
  · exact ⟨_, hp⟩
  · exact ⟨_, hp.1⟩
theorem OccPost.free {L sb m1 m2 m3 m4 N : Nat} {st : St ByteArray} {bd : List (Bd ByteArray)} {vs : List ByteArray} {no pf : Nat} {x : ByteArray} {k : Nat} {w w' : World} {e : Ending} (hf : Fo.findBd x bd = none) (h : UnbPost L sb m1 m2 m3 m4 N st bd vs no pf x k w e w') : OccPost L sb m1 m2 m3 m4 N st bd vs no pf x k w e w' := by
  unfold OccPost; rw [hf]; exact h
theorem OccPost.bound {L sb m1 m2 m3 m4 N : Nat} {st : St ByteArray} {bd : List (Bd ByteArray)} {vs : List ByteArray} {no pf : Nat} {x : ByteArray} {k : Nat} {w w' : World} {b : Bd ByteArray} {r : Bool} (hf : Fo.findBd x bd = some b) (hr : r = occB b k no pf) (hb : Fr L w w') (hs : Sv w' L sb m1 m2 m3 m4 N st bd vs no pf) : OccPost L sb m1 m2 m3 m4 N st bd vs no pf x k w (.returned (.bool r)) w' := by
  unfold OccPost; rw [hf]; exact ⟨by rw [hr], hb, hs⟩

theorem bd_cells {xs : List (Bd ByteArray)} {b : Bd ByteArray} : (((xs ++ [b]).flatMap bdCells)[xs.length * 4]? = some (.int .i64 (b.nots : Nat))) ∧ (((xs ++ [b]).flatMap bdCells)[xs.length * 4 + 1]? = some (.int .i64 (b.pfps : Nat))) ∧
    (((xs ++ [b]).flatMap bdCells)[xs.length * 4 + 2]? = some (.int .i64 b.arity)) ∧ (((xs ++ [b]).flatMap bdCells)[xs.length * 4 + 3]? = some (.bool b.pos)) := by
  have hl : (xs.flatMap bdCells).length = xs.length * 4 := by
    induction xs with
    | nil => rfl
    | cons a l ih => rw [List.flatMap_cons, List.length_append, ih, List.length_cons]; unfold bdCells; simp; omega
  rw [List.flatMap_append]
  refine ⟨?_, ?_, ?_, ?_⟩
  · rw [List.getElem?_append_right (by omega), hl, Nat.sub_self]; rfl
  · rw [List.getElem?_append_right (by omega), hl, show xs.length * 4 + 1 - xs.length * 4 = 1 by omega]; rfl
  · rw [List.getElem?_append_right (by omega), hl, show xs.length * 4 + 2 - xs.length * 4 = 2 by omega]; rfl
  · rw [List.getElem?_append_right (by omega), hl, show xs.length * 4 + 3 - xs.length * 4 = 3 by omega]; rfl

set_option maxRecDepth 100000 in
set_option maxHeartbeats 1000000 in
theorem occ_free {L sb m1 m2 m3 m4 N : Nat} {st : St ByteArray} {bd : List (Bd ByteArray)} {vs : List ByteArray} {no pf : Nat} (x : ByteArray) (k : Nat) (w : World) (hL : L ≤ w.heap.size) (h : Sv w L sb m1 m2 m3 m4 N st bd vs no pf) (hx : x.size ≤ maxLen) (hk : k ≤ 1000) (hN : N < maxLen) (hno : no ≤ 1000) (hpf : pf ≤ 1000)
    (hf : Fo.findBd x bd = none) :
    Calls Tryd.prog 50 #[.pointer (some ⟨sb, 0, none⟩), .string x, .int .i64 (k : Int)] w (OccPost L sb m1 m2 m3 m4 N st bd vs no pf x k w) := by
  have c6 : w.cell? ⟨sb, 6, none⟩ = some (.map (some m3)) := h.box.cell 6
  obtain ⟨g, hg, hrow⟩ := h.bnd.row
  have hr := hrow x
  rw [bdOf_head] at hf
  have hnil : bdOf x bd = [] := List.head?_eq_none_iff.1 hf
  rw [hnil] at hr
  have hlook := hg.look (t := 76) Tryd.underlying76 (zeroStk w) x hx false
  simp only [Bool.false_eq_true, if_false] at hlook
  generalize lookG g (.slice none 0 0) x = v at *
  obtain ⟨A, c, rfl⟩ := own_slice hr
  rw [List.length_nil] at hlook
  have hcall := unbound_any x k w hL h hx hk hN hno hpf
  have Hcall := Lib.hid hcall; clear hcall
  have Hf := Lib.hid (show Fo.findBd x bd = none by rw [bdOf_head]; exact hf)
  clear hf hnil hr hrow hg h
  go_enter Tryd.func50, Tryd.ntmps50
  go_wp2_with (go_at_call 65; refine (Hcall.out).mono ?_; rintro e w' hp; have hq := OccPost.free Hf.out hp; obtain ⟨r, rfl⟩ : ∃ r, e = .returned (.bool r) := UnbPost.bool hp)
  go_ret
  exact hq

set_option maxRecDepth 100000 in
set_option maxHeartbeats 2000000 in
theorem occ_ne {L sb m1 m2 m3 m4 N : Nat} {st : St ByteArray} {bd : List (Bd ByteArray)} {vs : List ByteArray} {no pf : Nat} (x : ByteArray) (k : Nat) (w : World) (hL : L ≤ w.heap.size) (h : Sv w L sb m1 m2 m3 m4 N st bd vs no pf) (hx : x.size ≤ maxLen) (_hk : k ≤ 1000) (_hno : no ≤ 1000) (_hpf : pf ≤ 1000)
    (bx : ByteArray) (bno bpf : Nat) (bar : Int) (bpos : Bool) (rest : List (Bd ByteArray)) (hq : bdOf x bd = ⟨bx, bno, bpf, bar, bpos⟩ :: rest) (hf : Fo.findBd x bd = some ⟨bx, bno, bpf, bar, bpos⟩) (hrl : rest.length ≤ 1000) (_hbn : bno ≤ no) (_hbp : bpf ≤ 1000) (hne : (k : Int) ≠ bar) :
    Calls Tryd.prog 50 #[.pointer (some ⟨sb, 0, none⟩), .string x, .int .i64 (k : Int)] w (OccPost L sb m1 m2 m3 m4 N st bd vs no pf x k w) := by
  have c6 : w.cell? ⟨sb, 6, none⟩ = some (.map (some m3)) := h.box.cell 6
  obtain ⟨g, hg, hrow⟩ := h.bnd.row
  have hr := hrow x
  unfold stk at hr
  rw [hq] at hr
  have hlook := hg.look (t := 76) Tryd.underlying76 (zeroStk w) x hx false
  simp only [Bool.false_eq_true, if_false] at hlook
  generalize lookG g (.slice none 0 0) x = v at *
  obtain ⟨A, c, rfl⟩ := own_slice hr
  rw [List.length_cons] at hr hlook
  rw [List.reverse_cons] at hr
  have hrl2 : rest.reverse.length = rest.length := List.length_reverse
  generalize rest.reverse = rr at *
  obtain ⟨ad, cs, rfl, h1, h2, h3⟩ := own_at hr (by omega)
  obtain ⟨b0, b1, b2, b3⟩ := bd_cells (xs := rr) (b := ⟨bx, bno, bpf, bar, bpos⟩)
  rw [hrl2] at b0 b1 b2 b3
  generalize rest.length = q at *
  have f0 : w.cell? (ad.add (q * 4)) = some (.int .i64 (bno : Nat)) := h3 _ _ b0
  have f1 : w.cell? ⟨(ad.add (q * 4)).block, (ad.add (q * 4)).off + 1, none⟩ = some (.int .i64 (bpf : Nat)) := add_field ad (q * 4) 0 ▸ h3 _ _ b1
  have f2 : w.cell? ⟨(ad.add (q * 4)).block, (ad.add (q * 4)).off + 2, none⟩ = some (.int .i64 bar) := add_field ad (q * 4) 1 ▸ h3 _ _ b2
  have f3 : w.cell? ⟨(ad.add (q * 4)).block, (ad.add (q * 4)).off + 3, none⟩ = some (.bool bpos) := add_field ad (q * 4) 2 ▸ h3 _ _ b3
  have hbo := Bx.new w 111 #[.int .i64 (bno : Nat), .int .i64 (bpf : Nat), .int .i64 bar, .bool bpos]
  have hsv := h.alloc (.cells #[.int .i64 (bno : Nat), .int .i64 (bpf : Nat), .int .i64 bar, .bool bpos] 111)
  have Hf := Lib.hid hf; clear hf
  clear hr hrow hg h h1 h2 h3 b0 b1 b2 b3 hq
  have Hbo := Lib.hid hbo; clear hbo
  have Hsv := Lib.hid hsv; clear hsv
  have t1 : ((k : Int) == bar) = false := by simpa using hne
  have hr : false = occB ⟨bx, bno, bpf, bar, bpos⟩ k no pf := by unfold occB; rw [decide_eq_false hne]; rfl
  have Hr := Lib.hid hr; clear hr
  have Hne := Lib.hid hne; clear hne
  go_enter Tryd.func50, Tryd.ntmps50
  go_wp2
  have g4 := Hsv.out.box.cell 4
  have g5 := Hsv.out.box.cell 5
  have d0 := Hbo.out.blk.cell 0
  have d1 := Hbo.out.blk.cell 1
  have d2 := Hbo.out.blk.cell 2
  have d3 := Hbo.out.blk.cell 3
  refine wp_region_held_drew (S := fun W => W.cell? ⟨sb, 4, none⟩ = some (.int .i64 (no : Int)) ∧ W.cell? ⟨sb, 5, none⟩ = some (.int .i64 (pf : Int)) ∧ W.cell? ⟨w.heap.size, 0, none⟩ = some (.int .i64 (bno : Int)) ∧ W.cell? ⟨w.heap.size, 1, none⟩ = some (.int .i64 (bpf : Int)) ∧ W.cell? ⟨w.heap.size, 2, none⟩ = some (.int .i64 bar) ∧ W.cell? ⟨w.heap.size, 3, none⟩ = some (.bool bpos)) (by kernel_rfl) (⟨g4, g5, d0, d1, d2, d3⟩) (fun hHeld => ?_)
  refine takeL (i := 0) (v := ?_) rfl (by kernel_rfl) (by kernel_rfl) (by kernel_rfl) (fun _ _ _ h => h) (Or.inl ⟨by kernel_rfl, ?_⟩) (by assumption) ?_
  rotate_left
  · (intro w' hSw; (try dsimp only at hSw); go_simp; (try with_reducible rfl))
  try simp only [Act.put, List.setIfInBounds_toArray, List.set_cons_zero, List.set_cons_succ]
  refine takeL (i := 1) (v := ?_) rfl (by kernel_rfl) (by kernel_rfl) (by kernel_rfl) (fun _ _ _ h => h) (Or.inl ⟨by kernel_rfl, ?_⟩) (by assumption) ?_
  rotate_left
  · (intro w' hSw; (try dsimp only at hSw); go_simp; (try with_reducible rfl))
  try simp only [Act.put, List.setIfInBounds_toArray, List.set_cons_zero, List.set_cons_succ]
  refine takeL (i := 2) (v := ?_) rfl (by kernel_rfl) (by kernel_rfl) (by kernel_rfl) (fun _ _ _ h => h) (Or.inl ⟨by kernel_rfl, ?_⟩) (by assumption) ?_
  rotate_left
  · (intro w' hSw; (try dsimp only at hSw); go_simp; (try with_reducible rfl))
  try simp only [Act.put, List.setIfInBounds_toArray, List.set_cons_zero, List.set_cons_succ]
  refine takeL (i := 3) (v := .bool false) rfl (by kernel_rfl) (by kernel_rfl) (by kernel_rfl) (fun _ _ _ h => h) (Or.inl ⟨by kernel_rfl, ?_⟩) (by assumption) ?_
  · (intro w' hSw; (try dsimp only at hSw); go_simp)
  try simp only [Act.put, List.setIfInBounds_toArray, List.set_cons_zero, List.set_cons_succ]
  refine takeL (i := 4) (v := ?_) rfl (by kernel_rfl) (by kernel_rfl) (by kernel_rfl) (fun _ _ _ h => h) (Or.inl ⟨by kernel_rfl, ?_⟩) (by assumption) ?_
  rotate_left
  · (intro w' hSw; (try dsimp only at hSw); go_simp; (try with_reducible rfl))
  try simp only [Act.put, List.setIfInBounds_toArray, List.set_cons_zero, List.set_cons_succ]
  refine takeL (i := 5) (v := undef) rfl (by kernel_rfl) (by kernel_rfl) (by kernel_rfl) (fun _ _ _ h => h) (Or.inr ⟨by kernel_rfl, rfl⟩) (by assumption) ?_
  try simp only [Act.put, List.setIfInBounds_toArray, List.set_cons_zero, List.set_cons_succ]
  refine takeL (i := 6) (v := undef) rfl (by kernel_rfl) (by kernel_rfl) (by kernel_rfl) (fun _ _ _ h => h) (Or.inr ⟨by kernel_rfl, rfl⟩) (by assumption) ?_
  try simp only [Act.put, List.setIfInBounds_toArray, List.set_cons_zero, List.set_cons_succ]
  refine takeL (i := 7) (v := undef) rfl (by kernel_rfl) (by kernel_rfl) (by kernel_rfl) (fun _ _ _ h => h) (Or.inr ⟨by kernel_rfl, rfl⟩) (by assumption) ?_
  try simp only [Act.put, List.setIfInBounds_toArray, List.set_cons_zero, List.set_cons_succ]
  refine takeL (i := 8) (v := undef) rfl (by kernel_rfl) (by kernel_rfl) (by kernel_rfl) (fun _ _ _ h => h) (Or.inr ⟨by kernel_rfl, rfl⟩) (by assumption) ?_
  try simp only [Act.put, List.setIfInBounds_toArray, List.set_cons_zero, List.set_cons_succ]
  refine takeL (i := 9) (v := undef) rfl (by kernel_rfl) (by kernel_rfl) (by kernel_rfl) (fun _ _ _ h => h) (Or.inr ⟨by kernel_rfl, rfl⟩) (by assumption) ?_
  try simp only [Act.put, List.setIfInBounds_toArray, List.set_cons_zero, List.set_cons_succ]
  refine takeL (i := 10) (v := undef) rfl (by kernel_rfl) (by kernel_rfl) (by kernel_rfl) (fun _ _ _ h => h) (Or.inr ⟨by kernel_rfl, rfl⟩) (by assumption) ?_
  try simp only [Act.put, List.setIfInBounds_toArray, List.set_cons_zero, List.set_cons_succ]
  refine takeL (i := 11) (v := undef) rfl (by kernel_rfl) (by kernel_rfl) (by kernel_rfl) (fun _ _ _ h => h) (Or.inr ⟨by kernel_rfl, rfl⟩) (by assumption) ?_
  try simp only [Act.put, List.setIfInBounds_toArray, List.set_cons_zero, List.set_cons_succ]
  refine takeL (i := 12) (v := undef) rfl (by kernel_rfl) (by kernel_rfl) (by kernel_rfl) (fun _ _ _ h => h) (Or.inr ⟨by kernel_rfl, rfl⟩) (by assumption) ?_
  try simp only [Act.put, List.setIfInBounds_toArray, List.set_cons_zero, List.set_cons_succ]
  refine takeL (i := 13) (v := undef) rfl (by kernel_rfl) (by kernel_rfl) (by kernel_rfl) (fun _ _ _ h => h) (Or.inr ⟨by kernel_rfl, rfl⟩) (by assumption) ?_
  try simp only [Act.put, List.setIfInBounds_toArray, List.set_cons_zero, List.set_cons_succ]
  refine takeL (i := 14) (v := undef) rfl (by kernel_rfl) (by kernel_rfl) (by kernel_rfl) (fun _ _ _ h => h) (Or.inr ⟨by kernel_rfl, rfl⟩) (by assumption) ?_
  try simp only [Act.put, List.setIfInBounds_toArray, List.set_cons_zero, List.set_cons_succ]
  refine takeL (i := 15) (v := undef) rfl (by kernel_rfl) (by kernel_rfl) (by kernel_rfl) (fun _ _ _ h => h) (Or.inr ⟨by kernel_rfl, rfl⟩) (by assumption) ?_
  try simp only [Act.put, List.setIfInBounds_toArray, List.set_cons_zero, List.set_cons_succ]
  refine takeL (i := 16) (v := undef) rfl (by kernel_rfl) (by kernel_rfl) (by kernel_rfl) (fun _ _ _ h => h) (Or.inr ⟨by kernel_rfl, rfl⟩) (by assumption) ?_
  try simp only [Act.put, List.setIfInBounds_toArray, List.set_cons_zero, List.set_cons_succ]
  refine takeL (i := 17) (v := ?_) rfl (by kernel_rfl) (by kernel_rfl) (by kernel_rfl) (fun _ _ _ h => h) (Or.inl ⟨by kernel_rfl, ?_⟩) (by assumption) ?_
  rotate_left
  · (intro w' hSw; (try dsimp only at hSw); go_simp; (try with_reducible rfl))
  try simp only [Act.put, List.setIfInBounds_toArray, List.set_cons_zero, List.set_cons_succ]
  refine takeL (i := 18) (v := ?_) rfl (by kernel_rfl) (by kernel_rfl) (by kernel_rfl) (fun _ _ _ h => h) (Or.inl ⟨by kernel_rfl, ?_⟩) (by assumption) ?_
  rotate_left
  · (intro w' hSw; (try dsimp only at hSw); go_simp; (try with_reducible rfl))
  try simp only [Act.put, List.setIfInBounds_toArray, List.set_cons_zero, List.set_cons_succ]
  refine wpAnyH_done (by kernel_rfl) ?_ _
  go_wp2
  go_ret
  exact OccPost.bound Hf.out Hr.out (Fr.of hL (Hbo.out.step (below_drewN (Below.refl _ _) 1)).bel) (Hsv.out.drewN 1)

set_option maxRecDepth 100000 in
set_option maxHeartbeats 2000000 in
theorem occ_any {L sb m1 m2 m3 m4 N : Nat} {st : St ByteArray} {bd : List (Bd ByteArray)} {vs : List ByteArray} {no pf : Nat} (x : ByteArray) (k : Nat) (w : World) (hL : L ≤ w.heap.size) (h : Sv w L sb m1 m2 m3 m4 N st bd vs no pf) (hx : x.size ≤ maxLen) (_hk : k ≤ 1000) (_hno : no ≤ 1000) (_hpf : pf ≤ 1000)
    (bx : ByteArray) (bno bpf : Nat) (bar : Int) (bpos : Bool) (rest : List (Bd ByteArray)) (hq : bdOf x bd = ⟨bx, bno, bpf, bar, bpos⟩ :: rest) (hf : Fo.findBd x bd = some ⟨bx, bno, bpf, bar, bpos⟩) (hrl : rest.length ≤ 1000) (_hbn : bno ≤ no) (_hbp : bpf ≤ 1000) (he : (k : Int) = bar) (hps : bpos = false) :
    Calls Tryd.prog 50 #[.pointer (some ⟨sb, 0, none⟩), .string x, .int .i64 (k : Int)] w (OccPost L sb m1 m2 m3 m4 N st bd vs no pf x k w) := by
  have c6 : w.cell? ⟨sb, 6, none⟩ = some (.map (some m3)) := h.box.cell 6
  obtain ⟨g, hg, hrow⟩ := h.bnd.row
  have hr := hrow x
  unfold stk at hr
  rw [hq] at hr
  have hlook := hg.look (t := 76) Tryd.underlying76 (zeroStk w) x hx false
  simp only [Bool.false_eq_true, if_false] at hlook
  generalize lookG g (.slice none 0 0) x = v at *
  obtain ⟨A, c, rfl⟩ := own_slice hr
  rw [List.length_cons] at hr hlook
  rw [List.reverse_cons] at hr
  have hrl2 : rest.reverse.length = rest.length := List.length_reverse
  generalize rest.reverse = rr at *
  obtain ⟨ad, cs, rfl, h1, h2, h3⟩ := own_at hr (by omega)
  obtain ⟨b0, b1, b2, b3⟩ := bd_cells (xs := rr) (b := ⟨bx, bno, bpf, bar, bpos⟩)
  rw [hrl2] at b0 b1 b2 b3
  generalize rest.length = q at *
  have f0 : w.cell? (ad.add (q * 4)) = some (.int .i64 (bno : Nat)) := h3 _ _ b0
  have f1 : w.cell? ⟨(ad.add (q * 4)).block, (ad.add (q * 4)).off + 1, none⟩ = some (.int .i64 (bpf : Nat)) := add_field ad (q * 4) 0 ▸ h3 _ _ b1
  have f2 : w.cell? ⟨(ad.add (q * 4)).block, (ad.add (q * 4)).off + 2, none⟩ = some (.int .i64 bar) := add_field ad (q * 4) 1 ▸ h3 _ _ b2
  have f3 : w.cell? ⟨(ad.add (q * 4)).block, (ad.add (q * 4)).off + 3, none⟩ = some (.bool bpos) := add_field ad (q * 4) 2 ▸ h3 _ _ b3
  have hbo := Bx.new w 111 #[.int .i64 (bno : Nat), .int .i64 (bpf : Nat), .int .i64 bar, .bool bpos]
  have hsv := h.alloc (.cells #[.int .i64 (bno : Nat), .int .i64 (bpf : Nat), .int .i64 bar, .bool bpos] 111)
  have Hf := Lib.hid hf; clear hf
  clear hr hrow hg h h1 h2 h3 b0 b1 b2 b3 hq
  have Hbo := Lib.hid hbo; clear hbo
  have Hsv := Lib.hid hsv; clear hsv
  subst hps
  have t1 : ((k : Int) == bar) = true := by simpa using he
  have hr : true = occB ⟨bx, bno, bpf, bar, false⟩ k no pf := by unfold occB; rw [decide_eq_true he]; rfl
  have Hr := Lib.hid hr; clear hr
  have He := Lib.hid he; clear he
  go_enter Tryd.func50, Tryd.ntmps50
  go_wp2
  have g4 := Hsv.out.box.cell 4
  have g5 := Hsv.out.box.cell 5
  have d0 := Hbo.out.blk.cell 0
  have d1 := Hbo.out.blk.cell 1
  have d2 := Hbo.out.blk.cell 2
  have d3 := Hbo.out.blk.cell 3
  refine wp_region_held_drew (S := fun W => W.cell? ⟨sb, 4, none⟩ = some (.int .i64 (no : Int)) ∧ W.cell? ⟨sb, 5, none⟩ = some (.int .i64 (pf : Int)) ∧ W.cell? ⟨w.heap.size, 0, none⟩ = some (.int .i64 (bno : Int)) ∧ W.cell? ⟨w.heap.size, 1, none⟩ = some (.int .i64 (bpf : Int)) ∧ W.cell? ⟨w.heap.size, 2, none⟩ = some (.int .i64 bar) ∧ W.cell? ⟨w.heap.size, 3, none⟩ = some (.bool false)) (by kernel_rfl) (⟨g4, g5, d0, d1, d2, d3⟩) (fun hHeld => ?_)
  refine takeL (i := 0) (v := ?_) rfl (by kernel_rfl) (by kernel_rfl) (by kernel_rfl) (fun _ _ _ h => h) (Or.inl ⟨by kernel_rfl, ?_⟩) (by assumption) ?_
  rotate_left
  · (intro w' hSw; (try dsimp only at hSw); go_simp; (try with_reducible rfl))
  try simp only [Act.put, List.setIfInBounds_toArray, List.set_cons_zero, List.set_cons_succ]
  refine takeL (i := 1) (v := ?_) rfl (by kernel_rfl) (by kernel_rfl) (by kernel_rfl) (fun _ _ _ h => h) (Or.inl ⟨by kernel_rfl, ?_⟩) (by assumption) ?_
  rotate_left
  · (intro w' hSw; (try dsimp only at hSw); go_simp; (try with_reducible rfl))
  try simp only [Act.put, List.setIfInBounds_toArray, List.set_cons_zero, List.set_cons_succ]
  refine takeL (i := 2) (v := ?_) rfl (by kernel_rfl) (by kernel_rfl) (by kernel_rfl) (fun _ _ _ h => h) (Or.inl ⟨by kernel_rfl, ?_⟩) (by assumption) ?_
  rotate_left
  · (intro w' hSw; (try dsimp only at hSw); go_simp; (try with_reducible rfl))
  try simp only [Act.put, List.setIfInBounds_toArray, List.set_cons_zero, List.set_cons_succ]
  refine takeL (i := 3) (v := .bool true) rfl (by kernel_rfl) (by kernel_rfl) (by kernel_rfl) (fun _ _ _ h => h) (Or.inl ⟨by kernel_rfl, ?_⟩) (by assumption) ?_
  · (intro w' hSw; (try dsimp only at hSw); go_simp)
  try simp only [Act.put, List.setIfInBounds_toArray, List.set_cons_zero, List.set_cons_succ]
  refine takeL (i := 4) (v := ?_) rfl (by kernel_rfl) (by kernel_rfl) (by kernel_rfl) (fun _ _ _ h => h) (Or.inl ⟨by kernel_rfl, ?_⟩) (by assumption) ?_
  rotate_left
  · (intro w' hSw; (try dsimp only at hSw); go_simp; (try with_reducible rfl))
  try simp only [Act.put, List.setIfInBounds_toArray, List.set_cons_zero, List.set_cons_succ]
  refine takeL (i := 5) (v := ?_) rfl (by kernel_rfl) (by kernel_rfl) (by kernel_rfl) (fun _ _ _ h => h) (Or.inl ⟨by kernel_rfl, ?_⟩) (by assumption) ?_
  rotate_left
  · (intro w' hSw; (try dsimp only at hSw); go_simp; (try with_reducible rfl))
  try simp only [Act.put, List.setIfInBounds_toArray, List.set_cons_zero, List.set_cons_succ]
  refine takeL (i := 6) (v := ?_) rfl (by kernel_rfl) (by kernel_rfl) (by kernel_rfl) (fun _ _ _ h => h) (Or.inl ⟨by kernel_rfl, ?_⟩) (by assumption) ?_
  rotate_left
  · (intro w' hSw; (try dsimp only at hSw); go_simp; (try with_reducible rfl))
  try simp only [Act.put, List.setIfInBounds_toArray, List.set_cons_zero, List.set_cons_succ]
  refine takeL (i := 7) (v := ?_) rfl (by kernel_rfl) (by kernel_rfl) (by kernel_rfl) (fun _ _ _ h => h) (Or.inl ⟨by kernel_rfl, ?_⟩) (by assumption) ?_
  rotate_left
  · (intro w' hSw; (try dsimp only at hSw); go_simp; (try with_reducible rfl))
  try simp only [Act.put, List.setIfInBounds_toArray, List.set_cons_zero, List.set_cons_succ]
  refine takeL (i := 8) (v := ?_) rfl (by kernel_rfl) (by kernel_rfl) (by kernel_rfl) (fun _ _ _ h => h) (Or.inl ⟨by kernel_rfl, ?_⟩) (by assumption) ?_
  rotate_left
  · (intro w' hSw; (try dsimp only at hSw); go_simp; (try with_reducible rfl))
  try simp only [Act.put, List.setIfInBounds_toArray, List.set_cons_zero, List.set_cons_succ]
  refine takeL (i := 9) (v := undef) rfl (by kernel_rfl) (by kernel_rfl) (by kernel_rfl) (fun _ _ _ h => h) (Or.inr ⟨by kernel_rfl, rfl⟩) (by assumption) ?_
  try simp only [Act.put, List.setIfInBounds_toArray, List.set_cons_zero, List.set_cons_succ]
  refine takeL (i := 10) (v := undef) rfl (by kernel_rfl) (by kernel_rfl) (by kernel_rfl) (fun _ _ _ h => h) (Or.inr ⟨by kernel_rfl, rfl⟩) (by assumption) ?_
  try simp only [Act.put, List.setIfInBounds_toArray, List.set_cons_zero, List.set_cons_succ]
  refine takeL (i := 11) (v := undef) rfl (by kernel_rfl) (by kernel_rfl) (by kernel_rfl) (fun _ _ _ h => h) (Or.inr ⟨by kernel_rfl, rfl⟩) (by assumption) ?_
  try simp only [Act.put, List.setIfInBounds_toArray, List.set_cons_zero, List.set_cons_succ]
  refine takeL (i := 12) (v := undef) rfl (by kernel_rfl) (by kernel_rfl) (by kernel_rfl) (fun _ _ _ h => h) (Or.inr ⟨by kernel_rfl, rfl⟩) (by assumption) ?_
  try simp only [Act.put, List.setIfInBounds_toArray, List.set_cons_zero, List.set_cons_succ]
  refine takeL (i := 13) (v := undef) rfl (by kernel_rfl) (by kernel_rfl) (by kernel_rfl) (fun _ _ _ h => h) (Or.inr ⟨by kernel_rfl, rfl⟩) (by assumption) ?_
  try simp only [Act.put, List.setIfInBounds_toArray, List.set_cons_zero, List.set_cons_succ]
  refine takeL (i := 14) (v := undef) rfl (by kernel_rfl) (by kernel_rfl) (by kernel_rfl) (fun _ _ _ h => h) (Or.inr ⟨by kernel_rfl, rfl⟩) (by assumption) ?_
  try simp only [Act.put, List.setIfInBounds_toArray, List.set_cons_zero, List.set_cons_succ]
  refine takeL (i := 15) (v := undef) rfl (by kernel_rfl) (by kernel_rfl) (by kernel_rfl) (fun _ _ _ h => h) (Or.inr ⟨by kernel_rfl, rfl⟩) (by assumption) ?_
  try simp only [Act.put, List.setIfInBounds_toArray, List.set_cons_zero, List.set_cons_succ]
  refine takeL (i := 16) (v := ?_) rfl (by kernel_rfl) (by kernel_rfl) (by kernel_rfl) (fun _ _ _ h => h) (Or.inl ⟨by kernel_rfl, ?_⟩) (by assumption) ?_
  rotate_left
  · (intro w' hSw; (try dsimp only at hSw); go_simp; (try with_reducible rfl))
  try simp only [Act.put, List.setIfInBounds_toArray, List.set_cons_zero, List.set_cons_succ]
  refine takeL (i := 17) (v := ?_) rfl (by kernel_rfl) (by kernel_rfl) (by kernel_rfl) (fun _ _ _ h => h) (Or.inl ⟨by kernel_rfl, ?_⟩) (by assumption) ?_
  rotate_left
  · (intro w' hSw; (try dsimp only at hSw); go_simp; (try with_reducible rfl))
  try simp only [Act.put, List.setIfInBounds_toArray, List.set_cons_zero, List.set_cons_succ]
  refine takeL (i := 18) (v := ?_) rfl (by kernel_rfl) (by kernel_rfl) (by kernel_rfl) (fun _ _ _ h => h) (Or.inl ⟨by kernel_rfl, ?_⟩) (by assumption) ?_
  rotate_left
  · (intro w' hSw; (try dsimp only at hSw); go_simp; (try with_reducible rfl))
  try simp only [Act.put, List.setIfInBounds_toArray, List.set_cons_zero, List.set_cons_succ]
  refine wpAnyH_done (by kernel_rfl) ?_ _
  go_wp2
  go_ret
  exact OccPost.bound Hf.out Hr.out (Fr.of hL (Hbo.out.step (below_drewN (Below.refl _ _) 1)).bel) (Hsv.out.drewN 1)

set_option maxRecDepth 100000 in
set_option maxHeartbeats 2000000 in
theorem occ_pos0 {L sb m1 m2 m3 m4 N : Nat} {st : St ByteArray} {bd : List (Bd ByteArray)} {vs : List ByteArray} {no pf : Nat} (x : ByteArray) (k : Nat) (w : World) (hL : L ≤ w.heap.size) (h : Sv w L sb m1 m2 m3 m4 N st bd vs no pf) (hx : x.size ≤ maxLen) (_hk : k ≤ 1000) (hno : no ≤ 1000) (hpf : pf ≤ 1000)
    (bx : ByteArray) (bno bpf : Nat) (bar : Int) (bpos : Bool) (rest : List (Bd ByteArray)) (hq : bdOf x bd = ⟨bx, bno, bpf, bar, bpos⟩ :: rest) (hf : Fo.findBd x bd = some ⟨bx, bno, bpf, bar, bpos⟩) (hrl : rest.length ≤ 1000) (hbn : bno ≤ no) (hbp : bpf ≤ 1000) (he : (k : Int) = bar) (hps : bpos = true) (hpb : posB no pf bno bpf = false) :
    Calls Tryd.prog 50 #[.pointer (some ⟨sb, 0, none⟩), .string x, .int .i64 (k : Int)] w (OccPost L sb m1 m2 m3 m4 N st bd vs no pf x k w) := by
  have c6 : w.cell? ⟨sb, 6, none⟩ = some (.map (some m3)) := h.box.cell 6
  obtain ⟨g, hg, hrow⟩ := h.bnd.row
  have hr := hrow x
  unfold stk at hr
  rw [hq] at hr
  have hlook := hg.look (t := 76) Tryd.underlying76 (zeroStk w) x hx false
  simp only [Bool.false_eq_true, if_false] at hlook
  generalize lookG g (.slice none 0 0) x = v at *
  obtain ⟨A, c, rfl⟩ := own_slice hr
  rw [List.length_cons] at hr hlook
  rw [List.reverse_cons] at hr
  have hrl2 : rest.reverse.length = rest.length := List.length_reverse
  generalize rest.reverse = rr at *
  obtain ⟨ad, cs, rfl, h1, h2, h3⟩ := own_at hr (by omega)
  obtain ⟨b0, b1, b2, b3⟩ := bd_cells (xs := rr) (b := ⟨bx, bno, bpf, bar, bpos⟩)
  rw [hrl2] at b0 b1 b2 b3
  generalize rest.length = q at *
  have f0 : w.cell? (ad.add (q * 4)) = some (.int .i64 (bno : Nat)) := h3 _ _ b0
  have f1 : w.cell? ⟨(ad.add (q * 4)).block, (ad.add (q * 4)).off + 1, none⟩ = some (.int .i64 (bpf : Nat)) := add_field ad (q * 4) 0 ▸ h3 _ _ b1
  have f2 : w.cell? ⟨(ad.add (q * 4)).block, (ad.add (q * 4)).off + 2, none⟩ = some (.int .i64 bar) := add_field ad (q * 4) 1 ▸ h3 _ _ b2
  have f3 : w.cell? ⟨(ad.add (q * 4)).block, (ad.add (q * 4)).off + 3, none⟩ = some (.bool bpos) := add_field ad (q * 4) 2 ▸ h3 _ _ b3
  have hbo := Bx.new w 111 #[.int .i64 (bno : Nat), .int .i64 (bpf : Nat), .int .i64 bar, .bool bpos]
  have hsv := h.alloc (.cells #[.int .i64 (bno : Nat), .int .i64 (bpf : Nat), .int .i64 bar, .bool bpos] 111)
  have Hf := Lib.hid hf; clear hf
  clear hr hrow hg h h1 h2 h3 b0 b1 b2 b3 hq
  have Hbo := Lib.hid hbo; clear hbo
  have Hsv := Lib.hid hsv; clear hsv
  subst hps
  have t1 : ((k : Int) == bar) = true := by simpa using he
  have hr : false = occB ⟨bx, bno, bpf, bar, true⟩ k no pf := by unfold occB; rw [decide_eq_true he, hpb]; rfl
  have Hr := Lib.hid hr; clear hr
  have He := Lib.hid he; clear he
  have hpos := fun W => positive_any no pf bno bpf W hbn hno hpf hbp
  rw [hpb] at hpos
  clear hpb
  have Hpos := Lib.hid hpos; clear hpos
  go_enter Tryd.func50, Tryd.ntmps50
  go_wp2
  have g4 := Hsv.out.box.cell 4
  have g5 := Hsv.out.box.cell 5
  have d0 := Hbo.out.blk.cell 0
  have d1 := Hbo.out.blk.cell 1
  have d2 := Hbo.out.blk.cell 2
  have d3 := Hbo.out.blk.cell 3
  refine wp_region_held_drew (S := fun W => W.cell? ⟨sb, 4, none⟩ = some (.int .i64 (no : Int)) ∧ W.cell? ⟨sb, 5, none⟩ = some (.int .i64 (pf : Int)) ∧ W.cell? ⟨w.heap.size, 0, none⟩ = some (.int .i64 (bno : Int)) ∧ W.cell? ⟨w.heap.size, 1, none⟩ = some (.int .i64 (bpf : Int)) ∧ W.cell? ⟨w.heap.size, 2, none⟩ = some (.int .i64 bar) ∧ W.cell? ⟨w.heap.size, 3, none⟩ = some (.bool true)) (by kernel_rfl) (⟨g4, g5, d0, d1, d2, d3⟩) (fun hHeld => ?_)
  refine takeL (i := 0) (v := ?_) rfl (by kernel_rfl) (by kernel_rfl) (by kernel_rfl) (fun _ _ _ h => h) (Or.inl ⟨by kernel_rfl, ?_⟩) (by assumption) ?_
  rotate_left
  · (intro w' hSw; (try dsimp only at hSw); go_simp; (try with_reducible rfl))
  try simp only [Act.put, List.setIfInBounds_toArray, List.set_cons_zero, List.set_cons_succ]
  refine takeL (i := 1) (v := ?_) rfl (by kernel_rfl) (by kernel_rfl) (by kernel_rfl) (fun _ _ _ h => h) (Or.inl ⟨by kernel_rfl, ?_⟩) (by assumption) ?_
  rotate_left
  · (intro w' hSw; (try dsimp only at hSw); go_simp; (try with_reducible rfl))
  try simp only [Act.put, List.setIfInBounds_toArray, List.set_cons_zero, List.set_cons_succ]
  refine takeL (i := 2) (v := ?_) rfl (by kernel_rfl) (by kernel_rfl) (by kernel_rfl) (fun _ _ _ h => h) (Or.inl ⟨by kernel_rfl, ?_⟩) (by assumption) ?_
  rotate_left
  · (intro w' hSw; (try dsimp only at hSw); go_simp; (try with_reducible rfl))
  try simp only [Act.put, List.setIfInBounds_toArray, List.set_cons_zero, List.set_cons_succ]
  refine takeL (i := 3) (v := .bool true) rfl (by kernel_rfl) (by kernel_rfl) (by kernel_rfl) (fun _ _ _ h => h) (Or.inl ⟨by kernel_rfl, ?_⟩) (by assumption) ?_
  · (intro w' hSw; (try dsimp only at hSw); go_simp)
  try simp only [Act.put, List.setIfInBounds_toArray, List.set_cons_zero, List.set_cons_succ]
  refine takeL (i := 4) (v := ?_) rfl (by kernel_rfl) (by kernel_rfl) (by kernel_rfl) (fun _ _ _ h => h) (Or.inl ⟨by kernel_rfl, ?_⟩) (by assumption) ?_
  rotate_left
  · (intro w' hSw; (try dsimp only at hSw); go_simp; (try with_reducible rfl))
  try simp only [Act.put, List.setIfInBounds_toArray, List.set_cons_zero, List.set_cons_succ]
  refine takeL (i := 5) (v := ?_) rfl (by kernel_rfl) (by kernel_rfl) (by kernel_rfl) (fun _ _ _ h => h) (Or.inl ⟨by kernel_rfl, ?_⟩) (by assumption) ?_
  rotate_left
  · (intro w' hSw; (try dsimp only at hSw); go_simp; (try with_reducible rfl))
  try simp only [Act.put, List.setIfInBounds_toArray, List.set_cons_zero, List.set_cons_succ]
  refine takeL (i := 6) (v := ?_) rfl (by kernel_rfl) (by kernel_rfl) (by kernel_rfl) (fun _ _ _ h => h) (Or.inl ⟨by kernel_rfl, ?_⟩) (by assumption) ?_
  rotate_left
  · (intro w' hSw; (try dsimp only at hSw); go_simp; (try with_reducible rfl))
  try simp only [Act.put, List.setIfInBounds_toArray, List.set_cons_zero, List.set_cons_succ]
  refine takeL (i := 7) (v := ?_) rfl (by kernel_rfl) (by kernel_rfl) (by kernel_rfl) (fun _ _ _ h => h) (Or.inl ⟨by kernel_rfl, ?_⟩) (by assumption) ?_
  rotate_left
  · (intro w' hSw; (try dsimp only at hSw); go_simp; (try with_reducible rfl))
  try simp only [Act.put, List.setIfInBounds_toArray, List.set_cons_zero, List.set_cons_succ]
  refine takeL (i := 8) (v := ?_) rfl (by kernel_rfl) (by kernel_rfl) (by kernel_rfl) (fun _ _ _ h => h) (Or.inl ⟨by kernel_rfl, ?_⟩) (by assumption) ?_
  rotate_left
  · (intro w' hSw; (try dsimp only at hSw); go_simp; (try with_reducible rfl))
  try simp only [Act.put, List.setIfInBounds_toArray, List.set_cons_zero, List.set_cons_succ]
  refine takeL (i := 9) (v := ?_) rfl (by kernel_rfl) (by kernel_rfl) (by kernel_rfl) (fun _ _ _ h => h) (Or.inl ⟨by kernel_rfl, ?_⟩) (by assumption) ?_
  rotate_left
  · (intro w' hSw; (try dsimp only at hSw); go_simp; (try with_reducible rfl))
  try simp only [Act.put, List.setIfInBounds_toArray, List.set_cons_zero, List.set_cons_succ]
  refine takeL (i := 10) (v := ?_) rfl (by kernel_rfl) (by kernel_rfl) (by kernel_rfl) (fun _ _ _ h => h) (Or.inl ⟨by kernel_rfl, ?_⟩) (by assumption) ?_
  rotate_left
  · (intro w' hSw; (try dsimp only at hSw); go_simp; (try with_reducible rfl))
  try simp only [Act.put, List.setIfInBounds_toArray, List.set_cons_zero, List.set_cons_succ]
  refine takeL (i := 11) (v := ?_) rfl (by kernel_rfl) (by kernel_rfl) (by kernel_rfl) (fun _ _ _ h => h) (Or.inl ⟨by kernel_rfl, ?_⟩) (by assumption) ?_
  rotate_left
  · (intro w' hSw; (try dsimp only at hSw); go_simp; (try with_reducible rfl))
  try simp only [Act.put, List.setIfInBounds_toArray, List.set_cons_zero, List.set_cons_succ]
  refine takeL (i := 12) (v := ?_) rfl (by kernel_rfl) (by kernel_rfl) (by kernel_rfl) (fun _ _ _ h => h) (Or.inl ⟨by kernel_rfl, ?_⟩) (by assumption) ?_
  rotate_left
  · (intro w' hSw; (try dsimp only at hSw); go_simp; (try with_reducible rfl))
  try simp only [Act.put, List.setIfInBounds_toArray, List.set_cons_zero, List.set_cons_succ]
  refine takeL (i := 13) (v := ?_) rfl (by kernel_rfl) (by kernel_rfl) (by kernel_rfl) (fun _ _ _ h => h) (Or.inl ⟨by kernel_rfl, ?_⟩) (by assumption) ?_
  rotate_left
  · (intro w' hSw; (try dsimp only at hSw); go_simp; (try with_reducible rfl))
  try simp only [Act.put, List.setIfInBounds_toArray, List.set_cons_zero, List.set_cons_succ]
  refine takeL (i := 14) (v := ?_) rfl (by kernel_rfl) (by kernel_rfl) (by kernel_rfl) (fun _ _ _ h => h) (Or.inl ⟨by kernel_rfl, ?_⟩) (by assumption) ?_
  rotate_left
  · (intro w' hSw; (try dsimp only at hSw); go_simp; (try with_reducible rfl))
  try simp only [Act.put, List.setIfInBounds_toArray, List.set_cons_zero, List.set_cons_succ]
  refine wpAnyH_ready (rs := [15]) (by kernel_rfl) (by simp) ?_
  refine AllReadyH.cons rfl (fun K hK => ?_) AllReadyH.nil
  go_simp
  refine (Hpos.out _).mono ?_
  rintro e w2 ⟨rfl, hb2⟩
  have hbo2 := (Hbo.out.step (below_drewN (Below.refl _ _) 1)).step hb2
  have hsv2 := (Hsv.out.drewN 1).below hb2
  refine hK.out _ _ ?_ (fun hHeld => ?_)
  · exact ⟨hsv2.box.cell 4, hsv2.box.cell 5, hbo2.blk.cell 0, hbo2.blk.cell 1, hbo2.blk.cell 2, hbo2.blk.cell 3⟩
  clear hK K
  try simp only [Act.put, List.setIfInBounds_toArray, List.set_cons_zero, List.set_cons_succ]
  refine takeL (i := 16) (v := ?_) rfl (by kernel_rfl) (by kernel_rfl) (by kernel_rfl) (fun _ _ _ h => h) (Or.inl ⟨by kernel_rfl, ?_⟩) (by assumption) ?_
  rotate_left
  · (intro w' hSw; (try dsimp only at hSw); go_simp; (try with_reducible rfl))
  try simp only [Act.put, List.setIfInBounds_toArray, List.set_cons_zero, List.set_cons_succ]
  refine takeL (i := 17) (v := ?_) rfl (by kernel_rfl) (by kernel_rfl) (by kernel_rfl) (fun _ _ _ h => h) (Or.inl ⟨by kernel_rfl, ?_⟩) (by assumption) ?_
  rotate_left
  · (intro w' hSw; (try dsimp only at hSw); go_simp; (try with_reducible rfl))
  try simp only [Act.put, List.setIfInBounds_toArray, List.set_cons_zero, List.set_cons_succ]
  refine takeL (i := 18) (v := ?_) rfl (by kernel_rfl) (by kernel_rfl) (by kernel_rfl) (fun _ _ _ h => h) (Or.inl ⟨by kernel_rfl, ?_⟩) (by assumption) ?_
  rotate_left
  · (intro w' hSw; (try dsimp only at hSw); go_simp; (try with_reducible rfl))
  try simp only [Act.put, List.setIfInBounds_toArray, List.set_cons_zero, List.set_cons_succ]
  refine wpAnyH_done (by kernel_rfl) ?_ _
  go_wp2
  go_ret
  exact OccPost.bound Hf.out Hr.out (Fr.of hL hbo2.bel) hsv2

set_option maxRecDepth 100000 in
set_option maxHeartbeats 2000000 in
theorem occ_pos1 {L sb m1 m2 m3 m4 N : Nat} {st : St ByteArray} {bd : List (Bd ByteArray)} {vs : List ByteArray} {no pf : Nat} (x : ByteArray) (k : Nat) (w : World) (hL : L ≤ w.heap.size) (h : Sv w L sb m1 m2 m3 m4 N st bd vs no pf) (hx : x.size ≤ maxLen) (_hk : k ≤ 1000) (hno : no ≤ 1000) (hpf : pf ≤ 1000)
    (bx : ByteArray) (bno bpf : Nat) (bar : Int) (bpos : Bool) (rest : List (Bd ByteArray)) (hq : bdOf x bd = ⟨bx, bno, bpf, bar, bpos⟩ :: rest) (hf : Fo.findBd x bd = some ⟨bx, bno, bpf, bar, bpos⟩) (hrl : rest.length ≤ 1000) (hbn : bno ≤ no) (hbp : bpf ≤ 1000) (he : (k : Int) = bar) (hps : bpos = true) (hpb : posB no pf bno bpf = true) :
    Calls Tryd.prog 50 #[.pointer (some ⟨sb, 0, none⟩), .string x, .int .i64 (k : Int)] w (OccPost L sb m1 m2 m3 m4 N st bd vs no pf x k w) := by
  have c6 : w.cell? ⟨sb, 6, none⟩ = some (.map (some m3)) := h.box.cell 6
  obtain ⟨g, hg, hrow⟩ := h.bnd.row
  have hr := hrow x
  unfold stk at hr
  rw [hq] at hr
  have hlook := hg.look (t := 76) Tryd.underlying76 (zeroStk w) x hx false
  simp only [Bool.false_eq_true, if_false] at hlook
  generalize lookG g (.slice none 0 0) x = v at *
  obtain ⟨A, c, rfl⟩ := own_slice hr
  rw [List.length_cons] at hr hlook
  rw [List.reverse_cons] at hr
  have hrl2 : rest.reverse.length = rest.length := List.length_reverse
  generalize rest.reverse = rr at *
  obtain ⟨ad, cs, rfl, h1, h2, h3⟩ := own_at hr (by omega)
  obtain ⟨b0, b1, b2, b3⟩ := bd_cells (xs := rr) (b := ⟨bx, bno, bpf, bar, bpos⟩)
  rw [hrl2] at b0 b1 b2 b3
  generalize rest.length = q at *
  have f0 : w.cell? (ad.add (q * 4)) = some (.int .i64 (bno : Nat)) := h3 _ _ b0
  have f1 : w.cell? ⟨(ad.add (q * 4)).block, (ad.add (q * 4)).off + 1, none⟩ = some (.int .i64 (bpf : Nat)) := add_field ad (q * 4) 0 ▸ h3 _ _ b1
  have f2 : w.cell? ⟨(ad.add (q * 4)).block, (ad.add (q * 4)).off + 2, none⟩ = some (.int .i64 bar) := add_field ad (q * 4) 1 ▸ h3 _ _ b2
  have f3 : w.cell? ⟨(ad.add (q * 4)).block, (ad.add (q * 4)).off + 3, none⟩ = some (.bool bpos) := add_field ad (q * 4) 2 ▸ h3 _ _ b3
  have hbo := Bx.new w 111 #[.int .i64 (bno : Nat), .int .i64 (bpf : Nat), .int .i64 bar, .bool bpos]
  have hsv := h.alloc (.cells #[.int .i64 (bno : Nat), .int .i64 (bpf : Nat), .int .i64 bar, .bool bpos] 111)
  have Hf := Lib.hid hf; clear hf
  clear hr hrow hg h h1 h2 h3 b0 b1 b2 b3 hq
  have Hbo := Lib.hid hbo; clear hbo
  have Hsv := Lib.hid hsv; clear hsv
  subst hps
  have t1 : ((k : Int) == bar) = true := by simpa using he
  have hr : true = occB ⟨bx, bno, bpf, bar, true⟩ k no pf := by unfold occB; rw [decide_eq_true he, hpb]; rfl
  have Hr := Lib.hid hr; clear hr
  have He := Lib.hid he; clear he
  have hpos := fun W => positive_any no pf bno bpf W hbn hno hpf hbp
  rw [hpb] at hpos
  clear hpb
  have Hpos := Lib.hid hpos; clear hpos
  go_enter Tryd.func50, Tryd.ntmps50
  go_wp2
  have g4 := Hsv.out.box.cell 4
  have g5 := Hsv.out.box.cell 5
  have d0 := Hbo.out.blk.cell 0
  have d1 := Hbo.out.blk.cell 1
  have d2 := Hbo.out.blk.cell 2
  have d3 := Hbo.out.blk.cell 3
  refine wp_region_held_drew (S := fun W => W.cell? ⟨sb, 4, none⟩ = some (.int .i64 (no : Int)) ∧ W.cell? ⟨sb, 5, none⟩ = some (.int .i64 (pf : Int)) ∧ W.cell? ⟨w.heap.size, 0, none⟩ = some (.int .i64 (bno : Int)) ∧ W.cell? ⟨w.heap.size, 1, none⟩ = some (.int .i64 (bpf : Int)) ∧ W.cell? ⟨w.heap.size, 2, none⟩ = some (.int .i64 bar) ∧ W.cell? ⟨w.heap.size, 3, none⟩ = some (.bool true)) (by kernel_rfl) (⟨g4, g5, d0, d1, d2, d3⟩) (fun hHeld => ?_)
  refine takeL (i := 0) (v := ?_) rfl (by kernel_rfl) (by kernel_rfl) (by kernel_rfl) (fun _ _ _ h => h) (Or.inl ⟨by kernel_rfl, ?_⟩) (by assumption) ?_
  rotate_left
  · (intro w' hSw; (try dsimp only at hSw); go_simp; (try with_reducible rfl))
  try simp only [Act.put, List.setIfInBounds_toArray, List.set_cons_zero, List.set_cons_succ]
  refine takeL (i := 1) (v := ?_) rfl (by kernel_rfl) (by kernel_rfl) (by kernel_rfl) (fun _ _ _ h => h) (Or.inl ⟨by kernel_rfl, ?_⟩) (by assumption) ?_
  rotate_left
  · (intro w' hSw; (try dsimp only at hSw); go_simp; (try with_reducible rfl))
  try simp only [Act.put, List.setIfInBounds_toArray, List.set_cons_zero, List.set_cons_succ]
  refine takeL (i := 2) (v := ?_) rfl (by kernel_rfl) (by kernel_rfl) (by kernel_rfl) (fun _ _ _ h => h) (Or.inl ⟨by kernel_rfl, ?_⟩) (by assumption) ?_
  rotate_left
  · (intro w' hSw; (try dsimp only at hSw); go_simp; (try with_reducible rfl))
  try simp only [Act.put, List.setIfInBounds_toArray, List.set_cons_zero, List.set_cons_succ]
  refine takeL (i := 3) (v := .bool true) rfl (by kernel_rfl) (by kernel_rfl) (by kernel_rfl) (fun _ _ _ h => h) (Or.inl ⟨by kernel_rfl, ?_⟩) (by assumption) ?_
  · (intro w' hSw; (try dsimp only at hSw); go_simp)
  try simp only [Act.put, List.setIfInBounds_toArray, List.set_cons_zero, List.set_cons_succ]
  refine takeL (i := 4) (v := ?_) rfl (by kernel_rfl) (by kernel_rfl) (by kernel_rfl) (fun _ _ _ h => h) (Or.inl ⟨by kernel_rfl, ?_⟩) (by assumption) ?_
  rotate_left
  · (intro w' hSw; (try dsimp only at hSw); go_simp; (try with_reducible rfl))
  try simp only [Act.put, List.setIfInBounds_toArray, List.set_cons_zero, List.set_cons_succ]
  refine takeL (i := 5) (v := ?_) rfl (by kernel_rfl) (by kernel_rfl) (by kernel_rfl) (fun _ _ _ h => h) (Or.inl ⟨by kernel_rfl, ?_⟩) (by assumption) ?_
  rotate_left
  · (intro w' hSw; (try dsimp only at hSw); go_simp; (try with_reducible rfl))
  try simp only [Act.put, List.setIfInBounds_toArray, List.set_cons_zero, List.set_cons_succ]
  refine takeL (i := 6) (v := ?_) rfl (by kernel_rfl) (by kernel_rfl) (by kernel_rfl) (fun _ _ _ h => h) (Or.inl ⟨by kernel_rfl, ?_⟩) (by assumption) ?_
  rotate_left
  · (intro w' hSw; (try dsimp only at hSw); go_simp; (try with_reducible rfl))
  try simp only [Act.put, List.setIfInBounds_toArray, List.set_cons_zero, List.set_cons_succ]
  refine takeL (i := 7) (v := ?_) rfl (by kernel_rfl) (by kernel_rfl) (by kernel_rfl) (fun _ _ _ h => h) (Or.inl ⟨by kernel_rfl, ?_⟩) (by assumption) ?_
  rotate_left
  · (intro w' hSw; (try dsimp only at hSw); go_simp; (try with_reducible rfl))
  try simp only [Act.put, List.setIfInBounds_toArray, List.set_cons_zero, List.set_cons_succ]
  refine takeL (i := 8) (v := ?_) rfl (by kernel_rfl) (by kernel_rfl) (by kernel_rfl) (fun _ _ _ h => h) (Or.inl ⟨by kernel_rfl, ?_⟩) (by assumption) ?_
  rotate_left
  · (intro w' hSw; (try dsimp only at hSw); go_simp; (try with_reducible rfl))
  try simp only [Act.put, List.setIfInBounds_toArray, List.set_cons_zero, List.set_cons_succ]
  refine takeL (i := 9) (v := ?_) rfl (by kernel_rfl) (by kernel_rfl) (by kernel_rfl) (fun _ _ _ h => h) (Or.inl ⟨by kernel_rfl, ?_⟩) (by assumption) ?_
  rotate_left
  · (intro w' hSw; (try dsimp only at hSw); go_simp; (try with_reducible rfl))
  try simp only [Act.put, List.setIfInBounds_toArray, List.set_cons_zero, List.set_cons_succ]
  refine takeL (i := 10) (v := ?_) rfl (by kernel_rfl) (by kernel_rfl) (by kernel_rfl) (fun _ _ _ h => h) (Or.inl ⟨by kernel_rfl, ?_⟩) (by assumption) ?_
  rotate_left
  · (intro w' hSw; (try dsimp only at hSw); go_simp; (try with_reducible rfl))
  try simp only [Act.put, List.setIfInBounds_toArray, List.set_cons_zero, List.set_cons_succ]
  refine takeL (i := 11) (v := ?_) rfl (by kernel_rfl) (by kernel_rfl) (by kernel_rfl) (fun _ _ _ h => h) (Or.inl ⟨by kernel_rfl, ?_⟩) (by assumption) ?_
  rotate_left
  · (intro w' hSw; (try dsimp only at hSw); go_simp; (try with_reducible rfl))
  try simp only [Act.put, List.setIfInBounds_toArray, List.set_cons_zero, List.set_cons_succ]
  refine takeL (i := 12) (v := ?_) rfl (by kernel_rfl) (by kernel_rfl) (by kernel_rfl) (fun _ _ _ h => h) (Or.inl ⟨by kernel_rfl, ?_⟩) (by assumption) ?_
  rotate_left
  · (intro w' hSw; (try dsimp only at hSw); go_simp; (try with_reducible rfl))
  try simp only [Act.put, List.setIfInBounds_toArray, List.set_cons_zero, List.set_cons_succ]
  refine takeL (i := 13) (v := ?_) rfl (by kernel_rfl) (by kernel_rfl) (by kernel_rfl) (fun _ _ _ h => h) (Or.inl ⟨by kernel_rfl, ?_⟩) (by assumption) ?_
  rotate_left
  · (intro w' hSw; (try dsimp only at hSw); go_simp; (try with_reducible rfl))
  try simp only [Act.put, List.setIfInBounds_toArray, List.set_cons_zero, List.set_cons_succ]
  refine takeL (i := 14) (v := ?_) rfl (by kernel_rfl) (by kernel_rfl) (by kernel_rfl) (fun _ _ _ h => h) (Or.inl ⟨by kernel_rfl, ?_⟩) (by assumption) ?_
  rotate_left
  · (intro w' hSw; (try dsimp only at hSw); go_simp; (try with_reducible rfl))
  try simp only [Act.put, List.setIfInBounds_toArray, List.set_cons_zero, List.set_cons_succ]
  refine wpAnyH_ready (rs := [15]) (by kernel_rfl) (by simp) ?_
  refine AllReadyH.cons rfl (fun K hK => ?_) AllReadyH.nil
  go_simp
  refine (Hpos.out _).mono ?_
  rintro e w2 ⟨rfl, hb2⟩
  have hbo2 := (Hbo.out.step (below_drewN (Below.refl _ _) 1)).step hb2
  have hsv2 := (Hsv.out.drewN 1).below hb2
  refine hK.out _ _ ?_ (fun hHeld => ?_)
  · exact ⟨hsv2.box.cell 4, hsv2.box.cell 5, hbo2.blk.cell 0, hbo2.blk.cell 1, hbo2.blk.cell 2, hbo2.blk.cell 3⟩
  clear hK K
  try simp only [Act.put, List.setIfInBounds_toArray, List.set_cons_zero, List.set_cons_succ]
  refine takeL (i := 16) (v := ?_) rfl (by kernel_rfl) (by kernel_rfl) (by kernel_rfl) (fun _ _ _ h => h) (Or.inl ⟨by kernel_rfl, ?_⟩) (by assumption) ?_
  rotate_left
  · (intro w' hSw; (try dsimp only at hSw); go_simp; (try with_reducible rfl))
  try simp only [Act.put, List.setIfInBounds_toArray, List.set_cons_zero, List.set_cons_succ]
  refine takeL (i := 17) (v := ?_) rfl (by kernel_rfl) (by kernel_rfl) (by kernel_rfl) (fun _ _ _ h => h) (Or.inl ⟨by kernel_rfl, ?_⟩) (by assumption) ?_
  rotate_left
  · (intro w' hSw; (try dsimp only at hSw); go_simp; (try with_reducible rfl))
  try simp only [Act.put, List.setIfInBounds_toArray, List.set_cons_zero, List.set_cons_succ]
  refine takeL (i := 18) (v := ?_) rfl (by kernel_rfl) (by kernel_rfl) (by kernel_rfl) (fun _ _ _ h => h) (Or.inl ⟨by kernel_rfl, ?_⟩) (by assumption) ?_
  rotate_left
  · (intro w' hSw; (try dsimp only at hSw); go_simp; (try with_reducible rfl))
  try simp only [Act.put, List.setIfInBounds_toArray, List.set_cons_zero, List.set_cons_succ]
  refine wpAnyH_done (by kernel_rfl) ?_ _
  go_wp2
  go_ret
  exact OccPost.bound Hf.out Hr.out (Fr.of hL hbo2.bel) hsv2

theorem occurrence_any {L sb m1 m2 m3 m4 N : Nat} {st : St ByteArray} {bd : List (Bd ByteArray)} {vs : List ByteArray} {no pf : Nat} (x : ByteArray) (k : Nat) (w : World) (hL : L ≤ w.heap.size) (h : Sv w L sb m1 m2 m3 m4 N st bd vs no pf) (hx : x.size ≤ maxLen) (hk : k ≤ 1000) (hN : N < maxLen) (hno : no ≤ 1000) (hpf : pf ≤ 1000) (ha : Fo.Around bd no pf) (hbl : bd.length ≤ 1000) :
    Calls Tryd.prog 50 #[.pointer (some ⟨sb, 0, none⟩), .string x, .int .i64 (k : Int)] w (OccPost L sb m1 m2 m3 m4 N st bd vs no pf x k w) := by
  cases hf : Fo.findBd x bd with
  | none => exact occ_free x k w hL h hx hk hN hno hpf hf
  | some b =>
    have hm := ha b (Fo.findBd_mem hf).1
    have hd := hf
    rw [bdOf_head] at hd
    obtain ⟨rest, hq⟩ : ∃ rest, bdOf x bd = b :: rest := by
      cases e : bdOf x bd with
      | nil => rw [e] at hd; cases hd
      | cons b' l => rw [e, List.head?_cons] at hd; exact ⟨l, by rw [Option.some.inj hd]⟩
    have hrl : rest.length ≤ 1000 := by
      have h1 : (bdOf x bd).length ≤ bd.length := List.length_filter_le _ _
      rw [hq, List.length_cons] at h1
      omega
    obtain ⟨bx, bno, bpf, bar, bpos⟩ := b
    by_cases he : (k : Int) = bar
    · cases bpos
      · exact occ_any x k w hL h hx hk hno hpf bx bno bpf bar false rest hq hf hrl hm.1 (by have := hm.2; simp only at this; omega) he rfl
      · cases hpb : posB no pf bno bpf
        · exact occ_pos0 x k w hL h hx hk hno hpf bx bno bpf bar true rest hq hf hrl hm.1 (by have := hm.2; simp only at this; omega) he rfl hpb
        · exact occ_pos1 x k w hL h hx hk hno hpf bx bno bpf bar true rest hq hf hrl hm.1 (by have := hm.2; simp only at this; omega) he rfl hpb
    · exact occ_ne x k w hL h hx hk hno hpf bx bno bpf bar bpos rest hq hf hrl hm.1 (by have := hm.2; simp only at this; omega) he

end Go.Proofs.YtmnpelhcgobfaaaDoor

/-
  Words for memory: a stack of bindings grows and shrinks; a variable is counted.
-/
namespace Go.Proofs.YtmnpelhcgobfaaaDoor
open Go.RowKit
open Fo (Bd St F getM updM)

/-- Bnd, its function named. -/
def BndG (w : World) (L m n : Nat) (bd : List (Bd ByteArray)) (g : ByteArray → Option Value) : Prop :=
  MapV w m n g ∧ (∀ x, g x = none → bdOf x bd = []) ∧ (∀ x v, g x = some v → w.ownsRow L 111 4 v (bdOf x bd).length (stk x bd)) ∧
    (∀ x y v u b, x ≠ y → g x = some v → g y = some u → v.ownBlock = some b → u.ownBlock ≠ some b)
theorem Bnd.some_ {w : World} {L m n : Nat} {bd : List (Bd ByteArray)} (h : Bnd w L m n bd) : ∃ g, BndG w L m n bd g := h
theorem BndG.bnd {w : World} {L m n : Nat} {bd : List (Bd ByteArray)} {g : ByteArray → Option Value} (h : BndG w L m n bd g) : Bnd w L m n bd := ⟨g, h⟩
theorem BndG.row {w : World} {L m n : Nat} {bd : List (Bd ByteArray)} {g : ByteArray → Option Value} (h : BndG w L m n bd g) (x : ByteArray) : w.ownsRow L 111 4 (lookG g (.slice none 0 0) x) (bdOf x bd).length (stk x bd) := by
  obtain ⟨h1, h2, h3, h4⟩ := h
  unfold lookG
  cases hg : g x with
  | none => simp only [Option.getD_none]; unfold stk; rw [h2 x hg]; exact World.ownsRow_nil _ _ _ _
  | some v => exact h3 x v hg
theorem BndG.kept {w w' : World} {L m n : Nat} {bd : List (Bd ByteArray)} {g : ByteArray → Option Value} {row : Option Nat} (h : BndG w L m n bd g) (hg : w.grownBy w' row) (hr : some m ≠ row) (hc : ∀ k cs, row = some k → w.heap[k]? ≠ some (.cells cs 111 (0, 0))) : BndG w' L m n bd g := by
  obtain ⟨h1, h2, h3, h4⟩ := h
  refine ⟨h1.kept hg hr, h2, fun x v hx => (h3 x v hx).kept hg ?_, h4⟩
  cases hb : v.ownBlock with
  | none => exact .inl rfl
  | some b =>
    obtain ⟨-, cs, hcs⟩ := own_block (h3 x v hx) hb
    exact .inr fun e => hc b cs e.symm hcs

theorem putG_same {g : ByteArray → Option Value} {x : ByteArray} {v : Value} : putG g x v x = some v := by unfold putG; rw [if_pos rfl]
theorem putG_other {g : ByteArray → Option Value} {x y : ByteArray} {v : Value} (h : y ≠ x) : putG g x v y = g y := by unfold putG; rw [if_neg h]

section
variable {w1 w2 w3 : World} {L m n : Nat} {bd : List (Bd ByteArray)} {g : ByteArray → Option Value}
/-- The row of a stack is no map's block. -/
theorem own_not_map {w : World} {base n' size : Nat} {e : TypeId} {v : Value} {xs : List Value} {b k : Nat} {G : ByteArray → Option Value} (h : w.ownsRow base e size v n' xs) (hm : MapV w b k G) : v.ownBlock = none ∨ v.ownBlock ≠ some b := by
  cases hb : v.ownBlock with
  | none => exact .inl rfl
  | some c =>
    obtain ⟨-, cs, hcs⟩ := own_block h hb
    exact .inr fun e => hm.not_cells hcs (by injection e with e; exact e.symm)
theorem own_lt {w : World} {base n' size : Nat} {e : TypeId} {v : Value} {xs : List Value} {b : Nat} (h : w.ownsRow base e size v n' xs) (hb : v.ownBlock = some b) : b < w.heap.size := by
  obtain ⟨-, cs, hcs⟩ := own_block h hb
  exact heap_lt hcs

/-- The map is not the row that an append writes. -/
theorem BndG.map_apart (h : BndG w1 L m n bd g) (x : ByteArray) : some m ≠ (lookG g (.slice none 0 0) x).ownBlock := by
  rcases own_not_map (h.row x) h.1 with h0 | h0
  · rw [h0]; simp
  · exact fun e => h0 e.symm

theorem BndG.push (h : BndG w1 L m n bd g) {b : Bd ByteArray} {v' : Value} (hown : w2.ownsRow L 111 4 v' ((bdOf b.name bd).length + 1) (stk b.name bd ++ bdCells b))
    (hg : w1.grownBy w2 (lookG g (.slice none 0 0) b.name).ownBlock) (hat : v'.ownBlock = (lookG g (.slice none 0 0) b.name).ownBlock ∨ v'.ownBlock = some w1.heap.size) (hm2 : MapV w2 m n g) (hm : MapV w3 m (n + 1) (putG g b.name v')) (hg3 : w2.grownBy w3 (some m)) :
    BndG w3 L m (n + 1) (b :: bd) (putG g b.name v') := by
  have hrow := h.row
  obtain ⟨h1, h2, h3, h4⟩ := h
  have hoth : ∀ y u, y ≠ b.name → g y = some u → u.ownBlock = none ∨ u.ownBlock ≠ (lookG g (.slice none 0 0) b.name).ownBlock := fun y u hy hu => by
    cases hub : u.ownBlock with
    | none => exact .inl rfl
    | some k =>
      refine .inr fun e => ?_
      unfold lookG at e
      cases hx : g b.name with
      | none => rw [hx] at e; simp [Value.ownBlock] at e
      | some v =>
        rw [hx, Option.getD_some] at e
        exact h4 y b.name u v k hy hu hx hub e.symm
  have hnew : ∀ y u, y ≠ b.name → g y = some u → ∀ k, v'.ownBlock = some k → u.ownBlock ≠ some k := fun y u hy hu k hk e => by
    rcases hat with ha | ha
    · rcases hoth y u hy hu with h0 | h0
      · rw [h0] at e; cases e
      · rw [hk, ← e] at ha
        exact h0 ha
    · have := own_lt (h3 y u hu) e
      rw [ha] at hk
      injection hk with hk
      omega
  refine ⟨hm, fun y hy => ?_, fun y u hy => ?_, fun y z u t k hyz hy hz hu => ?_⟩
  · by_cases e : y = b.name
    · subst e; rw [putG_same] at hy; cases hy
    · rw [putG_other e] at hy
      rw [bdOf_cons_other (fun e' => e e'.symm)]
      exact h2 y hy
  · by_cases e : y = b.name
    · subst e
      rw [putG_same] at hy
      injection hy with hy
      subst hy
      rw [bdOf_cons_same rfl, stk_cons_same rfl, List.length_cons]
      exact hown.kept hg3 (own_not_map hown hm2)
    · rw [putG_other e] at hy
      rw [bdOf_cons_other (fun e' => e e'.symm), stk_cons_other (fun e' => e e'.symm)]
      have k2 := (h3 y u hy).kept hg (hoth y u e hy)
      exact k2.kept hg3 (own_not_map k2 hm2)
  · by_cases ey : y = b.name
    · subst ey
      rw [putG_same] at hy
      injection hy with hy
      subst hy
      rw [putG_other (fun e => hyz e.symm)] at hz
      exact hnew z t (fun e => hyz e.symm) hz k hu
    · rw [putG_other ey] at hy
      by_cases ez : z = b.name
      · subst ez
        rw [putG_same] at hz
        injection hz with hz
        subst hz
        exact fun e => hnew y u ey hy k e hu
      · rw [putG_other ez] at hz
        exact h4 y z u t k hyz hy hz hu

theorem own_pop {w : World} {base q size c : Nat} {e : TypeId} {A : Option Addr} {xs ys : List Value} (h : w.ownsRow base e size (.slice A (q + 1) c) (q + 1) (xs ++ ys)) (hl : xs.length = q * size) : w.ownsRow base e size (.slice A q c) q xs := by
  refine ⟨hl, ?_⟩
  rcases h.2 with ⟨_, h0⟩ | ⟨g, cap, cur, hv, h1, h2, h3, h4, h5, h6⟩
  · cases h0
  · injection hv with e1 e2 e3
    subst e1 e3
    refine .inr ⟨g, c, cur, rfl, h1, h2, by omega, h4, h5, ?_⟩
    have hle : q * size ≤ (q + 1) * size := Nat.mul_le_mul_right _ (by omega)
    have h7 : (cur.toList.take ((q + 1) * size)).take (q * size) = (xs ++ ys).take (q * size) := by rw [h6]
    rw [List.take_take, Nat.min_eq_left hle] at h7
    rw [h7, ← hl, List.take_left]

theorem bdCells_len : ∀ l : List (Bd ByteArray), (l.flatMap bdCells).length = l.length * 4
  | [] => rfl
  | a :: l => by rw [List.flatMap_cons, List.length_append, bdCells_len l, List.length_cons]; unfold bdCells; simp; omega
theorem stk_len (x : ByteArray) (bd : List (Bd ByteArray)) : (stk x bd).length = (bdOf x bd).length * 4 := by unfold stk; rw [bdCells_len, List.length_reverse]

theorem BndG.pop {b : Bd ByteArray} (h : BndG w1 L m n (b :: bd) g) {A : Option Addr} {c : Nat} (hv : lookG g (.slice none 0 0) b.name = .slice A ((bdOf b.name bd).length + 1) c)
    (hm : MapV w3 m (n + 1) (putG g b.name (.slice A (bdOf b.name bd).length c))) (hg3 : w1.grownBy w3 (some m)) : BndG w3 L m (n + 1) bd (putG g b.name (.slice A (bdOf b.name bd).length c)) := by
  have hx : g b.name = some (.slice A ((bdOf b.name bd).length + 1) c) := by
    unfold lookG at hv
    cases hg : g b.name with
    | none => rw [hg, Option.getD_none] at hv; injection hv with _ e; simp at e
    | some v => rw [hg, Option.getD_some] at hv; rw [hv]
  obtain ⟨h1, h2, h3, h4⟩ := h
  have hob : (Value.slice A (bdOf b.name bd).length c).ownBlock = (Value.slice A ((bdOf b.name bd).length + 1) c).ownBlock := by cases A <;> rfl
  refine ⟨hm, fun y hy => ?_, fun y u hy => ?_, fun y z u t k hyz hy hz hu => ?_⟩
  · by_cases e : y = b.name
    · subst e; rw [putG_same] at hy; cases hy
    · rw [putG_other e] at hy
      have := h2 y hy
      rwa [bdOf_cons_other (fun e' => e e'.symm)] at this
  · by_cases e : y = b.name
    · subst e
      rw [putG_same] at hy
      injection hy with hy
      subst hy
      have hr := h3 b.name _ hx
      rw [bdOf_cons_same rfl, stk_cons_same rfl, List.length_cons] at hr
      have k2 := own_pop hr (stk_len _ _)
      exact k2.kept hg3 (own_not_map k2 h1)
    · rw [putG_other e] at hy
      have hr := h3 y u hy
      rw [bdOf_cons_other (fun e' => e e'.symm), stk_cons_other (fun e' => e e'.symm)] at hr
      exact hr.kept hg3 (own_not_map hr h1)
  · by_cases ey : y = b.name
    · subst ey
      rw [putG_same] at hy
      injection hy with hy
      subst hy
      rw [putG_other (fun e => hyz e.symm)] at hz
      rw [hob] at hu
      exact h4 b.name z _ t k hyz hx hz hu
    · rw [putG_other ey] at hy
      by_cases ez : z = b.name
      · subst ez
        rw [putG_same] at hz
        injection hz with hz
        subst hz
        rw [hob]
        exact h4 y b.name u _ k hyz hy hx hu
      · rw [putG_other ez] at hz
        exact h4 y z u t k hyz hy hz hu

/-- A variable counted, up or down. -/
theorem VarM.put {w' : World} {g : ByteArray → Option Value} {vs vs' : List ByteArray} {x : ByteArray} {q : Nat} (hg : ∀ y, lookG g (.int .i64 0) y = .int .i64 ((cnt y vs : Nat) : Int)) (hm : MapV w' m (n + 1) (putG g x (.int .i64 (q : Int)))) (hx : cnt x vs' = q) (ho : ∀ y, y ≠ x → cnt y vs' = cnt y vs) : VarM w' m (n + 1) vs' := by
  refine ⟨_, hm, fun y => ?_⟩
  unfold lookG
  by_cases e : y = x
  · subst e; rw [putG_same, hx]; rfl
  · rw [putG_other e, ho y e]; exact hg y
theorem cnt_append (x : ByteArray) (a b : List ByteArray) : cnt x (a ++ b) = cnt x a + cnt x b := by unfold cnt; rw [List.filter_append, List.length_append]
theorem cnt_le (x : ByteArray) (l : List ByteArray) : cnt x l ≤ l.length := List.length_filter_le _ _
theorem cnt_take {l : List ByteArray} {k : Nat} {s : ByteArray} (hs : l[k]? = some s) (x : ByteArray) : cnt x (l.take (k + 1)) = cnt x (l.take k) + if s = x then 1 else 0 := by
  rw [List.take_add_one, hs, Option.toList_some, cnt_append, show cnt x [s] = if s = x then 1 else 0 by rw [cnt_cons]; simp [cnt]]
theorem cnt_drop {l : List ByteArray} {k : Nat} {s : ByteArray} (hs : l[k]? = some s) (x : ByteArray) : cnt x (l.drop k) = cnt x (l.drop (k + 1)) + if s = x then 1 else 0 := by
  obtain ⟨hk, rfl⟩ := List.getElem?_eq_some_iff.1 hs
  rw [List.drop_eq_getElem_cons hk, cnt_cons]
end

end Go.Proofs.YtmnpelhcgobfaaaDoor
