/-
  Texts joined: Fpnumm, Fform, Fatom.
-/
import Derived.Test.YtmnpelhcgobfaaaDoorJi4
import Derived.Test.YtmnpelhcgobfaaaDoorJi5

/-
  Walks: the method number of the parser.
-/
namespace Go.Proofs.YtmnpelhcgobfaaaDoor
open Go.RowKit

theorem digit_byte {c : UInt8} (h : Sh.digitB c.toNat = true) : c = 48 ∨ c = 49 ∨ c = 50 ∨ c = 51 ∨ c = 52 ∨ c = 53 ∨ c = 54 ∨ c = 55 ∨ c = 56 ∨ c = 57 := by
  unfold Sh.digitB at h
  simp only [decide_eq_true_eq] at h
  have e : ∀ d : UInt8, c.toNat = d.toNat → c = d := fun d h => UInt8.toNat_inj.1 h
  have h10 : c.toNat = 48 ∨ c.toNat = 49 ∨ c.toNat = 50 ∨ c.toNat = 51 ∨ c.toNat = 52 ∨ c.toNat = 53 ∨ c.toNat = 54 ∨ c.toNat = 55 ∨ c.toNat = 56 ∨ c.toNat = 57 := by omega
  rcases h10 with h | h | h | h | h | h | h | h | h | h <;> (have := e (UInt8.ofNat c.toNat) (by rw [h]; rfl); rw [h] at this; rw [this]; decide)
theorem num_one (a : UInt8) (h : Sh.digitB a.toNat = true) : Lib.atoi [a] = some (Fo.numI [a]) := by
  rcases digit_byte h with rfl | rfl | rfl | rfl | rfl | rfl | rfl | rfl | rfl | rfl <;> decide
theorem num_two (a b : UInt8) (h : Sh.digitB a.toNat = true) (k : Sh.digitB b.toNat = true) : Lib.atoi [a, b] = some (Fo.numI [a, b]) := by
  rcases digit_byte h with rfl | rfl | rfl | rfl | rfl | rfl | rfl | rfl | rfl | rfl <;>
    rcases digit_byte k with rfl | rfl | rfl | rfl | rfl | rfl | rfl | rfl | rfl | rfl <;> decide
theorem num_atoi {l : Fo.Bs} (h : Fo.numB l = true) : Lib.atoi l = some (Fo.numI l) ∧ l.length ≤ 2 := by
  unfold Fo.numB at h
  simp only [Bool.and_eq_true, Bool.or_eq_true, decide_eq_true_eq] at h
  obtain ⟨ha, hl⟩ := h
  rcases l with _ | ⟨a, _ | ⟨b, _ | ⟨c, l⟩⟩⟩
  · simp at hl
  · simp only [List.all_cons, List.all_nil, Bool.and_true] at ha
    exact ⟨num_one a ha, by simp⟩
  · simp only [List.all_cons, List.all_nil, Bool.and_true, Bool.and_eq_true] at ha
    exact ⟨num_two a b ha.1 ha.2, by simp⟩
  · simp at hl
theorem num_yes {t : Fo.Tok} {r : List Fo.Tok} (h : Fo.numB t.2 = true) : Fo.numT (t :: r) = .ok (Fo.numI t.2, r) := by
  show Fo.bnd (if Fo.numB t.2 = true then .ok (t.2, r) else .error (t :: r)) _ = _
  rw [if_pos h]; rfl
theorem num_no {t : Fo.Tok} {r : List Fo.Tok} (h : Fo.numB t.2 = false) : Fo.numT (t :: r) = .error (t :: r) := by
  show Fo.bnd (if Fo.numB t.2 = true then .ok (t.2, r) else .error (t :: r)) _ = _
  rw [if_neg (by simp [h])]; rfl

set_option maxRecDepth 100000 in
set_option maxHeartbeats 400000 in
theorem pnumber_any (R n : Nat) (text : ByteArray) (w : World) (hr : Psr w R text n) (hn : n ≤ text.size) (hs : text.size ≤ 100000) :
    Calls Tryd.prog 34 #[.pointer (some ⟨R, 0, none⟩)] w
      (RdPost R text w (Fo.numT (Fo.toksAt text.toList n)) (fun _ v a => v = .int .i64 a)) := by
  have hlit : Strs (w.alloc (.cells #[.string ⟨#[97, 32, 110, 117, 109, 98, 101, 114]⟩] 9)) (· < (w.alloc (.cells #[.string ⟨#[97, 32, 110, 117, 109, 98, 101, 114]⟩] 9)).heap.size) (.slice (some ⟨w.heap.size, 0, none⟩) 1 1) [numK] :=
    strs_lit w 9 [numK] (by simp) (by intro s hs; simp only [List.mem_cons, List.not_mem_nil, or_false] at hs; subst hs; exact Nat.le_of_ble_eq_true rfl) _ (by simp)
  have hra : Psr (w.alloc (.cells #[.string ⟨#[97, 32, 110, 117, 109, 98, 101, 114]⟩] 9)) R text n := Blk.alloc hr _
  have hov := over_le hn
  cases hts : Fo.toksAt text.toList n with
  | nil =>
    have hcall := take_no R n text [numK] _ _ hra hn hs hlit (by rw [hts]; exact (by decide))
    rw [hts] at hcall
    have Hcall := Lib.hid hcall; clear hcall hts hov hlit hra
    go_enter Tryd.func34, Tryd.ntmps34
    go_wp2_with (go_at_call 25; refine (Hcall.out).mono ?_; rintro e w4 ⟨rfl, hb4⟩)
    exact ⟨rfl, RdPost.bad (ts := []) rfl (grownBy_trans (World.grownBy_alloc _ _ _) (grownBy_of_below hb4 _))⟩
  | cons t r =>
    rw [hts] at hov
    obtain ⟨hov1, hov2⟩ := hov
    rw [List.tail_cons] at hov2
    obtain ⟨ta, tb⟩ := t
    cases hnm : Fo.numB tb
    · have hcall := take_no R n text [numK] _ _ hra hn hs hlit (by
        rw [hts]; intro hm
        simp only [List.mem_cons, List.not_mem_nil, or_false] at hm
        rw [kindB_num.1 hm] at hnm; cases hnm)
      rw [hts] at hcall
      have hbad := num_no (t := (ta, tb)) (r := r) hnm
      have Hbad := Lib.hid hbad; clear hbad
      have Hcall := Lib.hid hcall; clear hcall hts hlit hra
      go_enter Tryd.func34, Tryd.ntmps34
      go_wp2_with (go_at_call 25; refine (Hcall.out).mono ?_; rintro e w4 ⟨rfl, hb4⟩)
      exact ⟨rfl, RdPost.bad Hbad.out (grownBy_trans (World.grownBy_alloc _ _ _) (grownBy_of_below hb4 _))⟩
    · have hcall := take_yes R n text [numK] _ _ hra hn hs hlit (by rw [hts]; show kindB tb ∈ _; rw [kindB_num.2 hnm]; simp)
      rw [hts] at hcall
      unfold tokV at hcall
      simp only [] at hcall
      rw [kindB_num.2 hnm] at hcall
      have hok := num_yes (t := (ta, tb)) (r := r) hnm
      obtain ⟨hat, hlen⟩ := num_atoi hnm
      have hatoi : ∀ W : World, Calls Tryd.prog 44 #[.string ⟨tb.toArray⟩] W fun e w' => e = .returned (.tuple #[.int .i64 (Fo.numI tb), .nilIface]) ∧ Below W.heap.size W w' := fun W =>
        (Tryd.strconv_Atoi ⟨tb.toArray⟩ (Fo.numI tb) (by simp [ByteArray.size]; omega) (by simpa using hat) W).mono fun e w' ⟨he, t, hw⟩ => ⟨he, by rw [hw]; exact bytesWorld_below W _ t⟩
      have hov3 : ta + tb.length ≤ text.size := hov1
      have hov4 : Fo.toksAt text.toList (ta + tb.length) = r := hov2
      have hcall2 : Calls Tryd.prog 25 #[.pointer (some ⟨R, 0, none⟩), .slice (some ⟨w.heap.size, 0, none⟩) 1 1] (w.alloc (.cells #[.string ⟨#[97, 32, 110, 117, 109, 98, 101, 114]⟩] 9)) fun e w' =>
        e = .returned (.agg #[.string numK, .string ⟨tb.toArray⟩, .int .i64 ta]) ∧ Psr w' R text (ta + tb.length) ∧ (w.alloc (.cells #[.string ⟨#[97, 32, 110, 117, 109, 98, 101, 114]⟩] 9)).grownBy w' (some R) := hcall
      have hfld : ∀ (W : World), (Instr.field 62 (.agg #[.string numK, .string ⟨tb.toArray⟩, .int .i64 ta]) 1).run Tryd.prog W = .ok (.string ⟨tb.toArray⟩) W := fun W => by kernel_rfl
      have Hok := Lib.hid hok; clear hok hat hcall hov1 hov2
      have Hcall := Lib.hid hcall2; clear hcall2 hts hlit hra hnm
      have Hatoi := Lib.hid hatoi; clear hatoi
      have Hov4 := Lib.hid hov4; clear hov4
      generalize (⟨tb.toArray⟩ : ByteArray) = y at *
      generalize tb.length = tl at *
      generalize numK = nk at *
      go_enter Tryd.func34, Tryd.ntmps34
      go_wp2_with (first
        | (go_at_call 25; refine (Hcall.out).mono ?_; rintro e w4 ⟨rfl, hr4, hg4⟩)
        | (go_at_call 44; refine (Hatoi.out _).mono ?_; rintro e w5 ⟨rfl, hb5⟩))
      go_ret
      exact RdPost.ok Hok.out _ (ta + tl) (grownBy_trans (World.grownBy_alloc _ _ _) (grownBy_trans hg4 (grownBy_of_below hb5 _))) rfl hov3 Hov4.out (Blk.below hr4 hb5 hr4.lt)

end Go.Proofs.YtmnpelhcgobfaaaDoor

/-
  New formulas: what the parser makes lies in the call's own blocks; a result's six cells, stored one after the other.
-/
namespace Go.Proofs.YtmnpelhcgobfaaaDoor
open Go.RowKit
open Fo (F)

/-- A value that is a formula of the call's own. -/
def NForm (w : World) (L : Nat) (v : Value) (f : FB) : Prop := ∃ cs, v = .agg cs.toArray ∧ FVal w (fun b => L ≤ b ∧ b < w.heap.size) f cs
theorem FVal.grown {w w' : World} {L R : Nat} {f : FB} {cs : List Value} (h : FVal w (fun b => L ≤ b ∧ b < w.heap.size) f cs) (hg : w.grownBy w' (some R)) (hR : R < L) : FVal w' (fun b => L ≤ b ∧ b < w'.heap.size) f cs :=
  FVal.more (fun b hb => ⟨hb.1, Nat.lt_of_lt_of_le hb.2 hg.size⟩) f cs (FVal.keep (w' := w') (fun p hp => World.cell?_of_block (hg.block p.block hp.2 (fun e => by injection e with e; have := hp.1; omega))) f cs h)
theorem NForm.grown {w w' : World} {L R : Nat} {v : Value} {f : FB} (h : NForm w L v f) (hg : w.grownBy w' (some R)) (hR : R < L) : NForm w' L v f := by
  obtain ⟨cs, e, h⟩ := h
  exact ⟨cs, e, h.grown hg hR⟩
theorem NForm.lower {w : World} {L L' : Nat} {v : Value} {f : FB} (h : NForm w L v f) (hL : L' ≤ L) : NForm w L' v f := by
  obtain ⟨cs, e, h⟩ := h
  exact ⟨cs, e, FVal.more (fun b hb => ⟨Nat.le_trans hL hb.1, hb.2⟩) f cs h⟩

/-- Six cells of block B, stored one after the other. -/
def st6 (w : World) (B : Nat) (a0 a1 a2 a3 a4 a5 : Value) : World :=
  (((((w.setCell ⟨B, 0, none⟩ a0).setCell ⟨B, 1, none⟩ a1).setCell ⟨B, 2, none⟩ a2).setCell ⟨B, 3, none⟩ a3).setCell ⟨B, 4, none⟩ a4).setCell ⟨B, 5, none⟩ a5
section
variable {w : World} {B : Nat} {t : TypeId} {z0 z1 z2 z3 z4 z5 : Value} (a0 a1 a2 a3 a4 a5 : Value)
theorem st6_blk (h : Blk w B t #[z0, z1, z2, z3, z4, z5]) : Blk (st6 w B a0 a1 a2 a3 a4 a5) B t #[a0, a1, a2, a3, a4, a5] :=
  (((((h.set_ 0 a0).set_ 1 a1).set_ 2 a2).set_ 3 a3).set_ 4 a4).set_ 5 a5
theorem st6_cells (h : Blk w B t #[z0, z1, z2, z3, z4, z5]) :
    (st6 w B a0 a1 a2 a3 a4 a5).cell? ⟨B, 0, none⟩ = some a0 ∧ (st6 w B a0 a1 a2 a3 a4 a5).cell? ⟨B, 1, none⟩ = some a1 ∧ (st6 w B a0 a1 a2 a3 a4 a5).cell? ⟨B, 2, none⟩ = some a2 ∧
    (st6 w B a0 a1 a2 a3 a4 a5).cell? ⟨B, 3, none⟩ = some a3 ∧ (st6 w B a0 a1 a2 a3 a4 a5).cell? ⟨B, 4, none⟩ = some a4 ∧ (st6 w B a0 a1 a2 a3 a4 a5).cell? ⟨B, 5, none⟩ = some a5 := by
  have h6 := st6_blk a0 a1 a2 a3 a4 a5 h
  exact ⟨(Blk.cell h6 0).trans (by simp), (Blk.cell h6 1).trans (by simp), (Blk.cell h6 2).trans (by simp), (Blk.cell h6 3).trans (by simp), (Blk.cell h6 4).trans (by simp), (Blk.cell h6 5).trans (by simp)⟩
theorem st6_block (w : World) (B : Nat) (i : Nat) (hi : i ≠ B) : (st6 w B a0 a1 a2 a3 a4 a5).heap[i]? = w.heap[i]? := by
  unfold st6
  repeat rw [Below.heap_setCell _ _ _ i hi]
theorem st6_size (w : World) (B : Nat) : (st6 w B a0 a1 a2 a3 a4 a5).heap.size = w.heap.size := by unfold st6; simp [World.setCell]
theorem st6_grown {w0 : World} {row : Option Nat} (hg : w0.grownBy w row) (hB : w0.heap.size ≤ B) : w0.grownBy (st6 w B a0 a1 a2 a3 a4 a5) row := by
  unfold st6
  exact grown_over (grown_over (grown_over (grown_over (grown_over (grown_over hg hB _) hB _) hB _) hB _) hB _) hB _
theorem st6_far {g : Nat} {t' : TypeId} {cs : Array Value} (h : Blk w g t' cs) (hg : g ≠ B) : Blk (st6 w B a0 a1 a2 a3 a4 a5) g t' cs := (st6_block a0 a1 a2 a3 a4 a5 w B g hg).trans h
theorem st6_val {f : FB} {cs : List Value} (h : FVal w (fun b => B + 1 ≤ b ∧ b < w.heap.size) f cs) : FVal (st6 w B a0 a1 a2 a3 a4 a5) (fun b => B ≤ b ∧ b < (st6 w B a0 a1 a2 a3 a4 a5).heap.size) f cs :=
  FVal.more (fun b hb => ⟨by omega, by rw [st6_size]; exact hb.2⟩) f cs (FVal.keep (fun p hp => World.cell?_of_block (st6_block a0 a1 a2 a3 a4 a5 w B p.block (by omega))) f cs h)
end
/-- An atom's six cells: no variables, no kids. -/
theorem atom_val {w : World} {S : Nat → Prop} {k : Int} {nm : ByteArray} {v : Value} {ar : List ByteArray} (hn : nm.size ≤ 140737488351232) (h : Strs w S v ar) :
    FVal w S (.mk k 0 nm [] ar []) [.int .i64 k, .int .i64 0, .string nm, .slice none 0 0, v, .slice none 0 0] := by
  unfold FVal
  exact ⟨_, _, none, 0, 0, rfl, hn, Strs.nil, h, rfl, by omega, by omega, fun h => absurd h (by omega)⟩

end Go.Proofs.YtmnpelhcgobfaaaDoor

/-
  Walks: the method atom of the parser.
-/
namespace Go.Proofs.YtmnpelhcgobfaaaDoor
open Go.RowKit
open Fo (F)

/-- take, at tokens that are known: the three outcomes. -/
theorem take_ok (R n : Nat) (text : ByteArray) (acc : List ByteArray) (v : Value) (w : World) (hr : Psr w R text n) (hn : n ≤ text.size) (hs : text.size ≤ 100000) (hacc : Strs w (· < w.heap.size) v acc)
    {ta : Nat} {tb : Fo.Bs} {r : List Fo.Tok} (hts : Fo.toksAt text.toList n = (ta, tb) :: r) (kd : ByteArray) (hkd : kindB tb = kd) (hk : kd ∈ acc) :
    Calls Tryd.prog 25 #[.pointer (some ⟨R, 0, none⟩), v] w
      fun e w' => e = .returned (.agg #[.string kd, .string ⟨tb.toArray⟩, .int .i64 ta]) ∧ Psr w' R text (ta + tb.length) ∧ w.grownBy w' (some R) := by
  have h := take_yes R n text acc v w hr hn hs hacc (by rw [hts]; show kindB tb ∈ _; rw [hkd]; exact hk)
  rw [hts] at h
  unfold tokV at h
  simp only [] at h
  rw [hkd] at h
  exact h
theorem take_err (R n : Nat) (text : ByteArray) (acc : List ByteArray) (v : Value) (w : World) (hr : Psr w R text n) (hn : n ≤ text.size) (hs : text.size ≤ 100000) (hacc : Strs w (· < w.heap.size) v acc)
    {ts : List Fo.Tok} (hts : Fo.toksAt text.toList n = ts) (hk : kindT ts ∉ acc) :
    Calls Tryd.prog 25 #[.pointer (some ⟨R, 0, none⟩), v] w
      fun e w' => e = .panicked (stuckChain (Fo.atT text.size ts)) ∧ Below w.heap.size w w' := by
  have h := take_no R n text acc v w hr hn hs hacc (by rw [hts]; exact hk)
  rwa [hts] at h
theorem tok_over {n : Nat} {text : ByteArray} (hn : n ≤ text.size) {ta : Nat} {tb : Fo.Bs} {r : List Fo.Tok} (hts : Fo.toksAt text.toList n = (ta, tb) :: r) :
    ta + tb.length ≤ text.size ∧ Fo.toksAt text.toList (ta + tb.length) = r ∧ n < ta + tb.length := by
  have h := over_le hn
  rw [hts] at h
  obtain ⟨h1, h2⟩ := h
  have haf := Fo.toksAt_after (by rw [length_bytes]; exact hn) hts
  exact ⟨h1, h2, by have := haf.1; have := haf.2.2.1; omega⟩
/-- The literal row of the three signs of an atom, of a name alone. -/
theorem lit3 (W : World) : Strs (W.alloc (.cells #[.string ⟨#[40]⟩, .string ⟨#[61]⟩, .string ⟨#[60]⟩] 9)) (· < (W.alloc (.cells #[.string ⟨#[40]⟩, .string ⟨#[61]⟩, .string ⟨#[60]⟩] 9)).heap.size) (.slice (some ⟨W.heap.size, 0, none⟩) 3 3) [(⟨#[40]⟩ : ByteArray), ⟨#[61]⟩, ⟨#[60]⟩] :=
  strs_lit W 9 [(⟨#[40]⟩ : ByteArray), ⟨#[61]⟩, ⟨#[60]⟩] (by simp) (by intro s hs; simp only [List.mem_cons, List.not_mem_nil, or_false] at hs; rcases hs with rfl | rfl | rfl <;> exact Nat.le_of_ble_eq_true rfl) _ (by simp)
theorem litN (W : World) : Strs (W.alloc (.cells #[.string ⟨#[97, 32, 110, 97, 109, 101]⟩] 9)) (· < (W.alloc (.cells #[.string ⟨#[97, 32, 110, 97, 109, 101]⟩] 9)).heap.size) (.slice (some ⟨W.heap.size, 0, none⟩) 1 1) [nameK] :=
  strs_lit W 9 [nameK] (by simp) (by intro s hs; simp only [List.mem_cons, List.not_mem_nil, or_false] at hs; subst hs; exact Nat.le_of_ble_eq_true rfl) _ (by simp)

abbrev sEq : ByteArray := ⟨#[61]⟩
abbrev sLt : ByteArray := ⟨#[60]⟩
abbrev sOp : ByteArray := ⟨#[40]⟩
theorem not_in3 {l : Fo.Bs} (h1 : l ≠ [61]) (h2 : l ≠ [60]) (h3 : l ≠ [40]) : kindB l ∉ [(⟨#[40]⟩ : ByteArray), ⟨#[61]⟩, ⟨#[60]⟩] := by
  intro hm
  simp only [List.mem_cons, List.not_mem_nil, or_false] at hm
  rcases hm with hm | hm | hm
  · exact h3 ((kindB_self (x := [40]) (.inr (by decide))).1 hm)
  · exact h1 ((kindB_self (x := [61]) (.inr (by decide))).1 hm)
  · exact h2 ((kindB_self (x := [60]) (.inr (by decide))).1 hm)
theorem atom_bad {nm : Fo.Bs} {t : Fo.Tok} {r : List Fo.Tok} (h1 : t.2 ≠ [61]) (h2 : t.2 ≠ [60]) (h3 : t.2 ≠ [40]) : Fo.atomT nm (t :: r) = .error (t :: r) := by
  rw [Fo.atomT, if_neg h1, if_neg h2, if_neg h3]
theorem atom_eq_no {nm : Fo.Bs} {a : Nat} {r : List Fo.Tok} {ts : List Fo.Tok} (h : Fo.takeT Sh.nameB r = .error ts) : Fo.atomT nm ((a, [61]) :: r) = .error ts := by
  rw [Fo.atomT, if_pos rfl, h]; rfl
theorem atom_eq_yes {nm : Fo.Bs} {a : Nat} {r : List Fo.Tok} {t : Fo.Tok} (h : Sh.nameB t.2 = true) : Fo.atomT nm ((a, [61]) :: t :: r) = .ok (.mk 1 0 Fo.noName [] [⟨nm.toArray⟩, ⟨t.2.toArray⟩] [], r) := by
  rw [Fo.atomT, if_pos rfl, Fo.takeT, if_pos h]; rfl
theorem atom_lt_no {nm : Fo.Bs} {a : Nat} {r : List Fo.Tok} {ts : List Fo.Tok} (h : Fo.takeT Sh.nameB r = .error ts) : Fo.atomT nm ((a, [60]) :: r) = .error ts := by
  rw [Fo.atomT, if_neg (show ¬ (([60] : Fo.Bs) = [61]) by decide), if_pos rfl, h]; rfl
theorem atom_lt_yes {nm : Fo.Bs} {a : Nat} {r : List Fo.Tok} {t : Fo.Tok} (h : Sh.nameB t.2 = true) : Fo.atomT nm ((a, [60]) :: t :: r) = .ok (.mk 2 0 Fo.noName [] [⟨nm.toArray⟩, ⟨t.2.toArray⟩] [], r) := by
  rw [Fo.atomT, if_neg (show ¬ (([60] : Fo.Bs) = [61]) by decide), if_pos rfl, Fo.takeT, if_pos h]; rfl
theorem atom_rel {nm : Fo.Bs} {a : Nat} {r : List Fo.Tok} : Fo.atomT nm ((a, [40]) :: r) = Fo.bnd (Fo.namesT [41] r) fun l r' => .ok (.mk 0 0 ⟨nm.toArray⟩ [] l [], r') := by
  rw [Fo.atomT, if_neg (show ¬ (([40] : Fo.Bs) = [61]) by decide), if_neg (show ¬ (([40] : Fo.Bs) = [60]) by decide), if_pos rfl]
/-- take of a name: where it is refused. -/
theorem name_no {ts : List Fo.Tok} (h : ∀ t r, ts = t :: r → Sh.nameB t.2 = false) : Fo.takeT Sh.nameB ts = .error ts ∧ kindT ts ∉ [nameK] := by
  cases ts with
  | nil => exact ⟨rfl, by decide⟩
  | cons t r =>
    have := h t r rfl
    refine ⟨by rw [Fo.takeT, if_neg (by simp [this])], fun hm => ?_⟩
    simp only [List.mem_cons, List.not_mem_nil, or_false] at hm
    rw [kindB_name.1 hm] at this; cases this

theorem Psr.alloc {w : World} {R n : Nat} {text : ByteArray} (h : Psr w R text n) (o : Obj) : Psr (w.alloc o) R text n := Blk.alloc h o
theorem six_cells {w : World} {B : Nat} {t : TypeId} {a0 a1 a2 a3 a4 a5 : Value} (h : Blk w B t #[a0, a1, a2, a3, a4, a5]) :
    (w.cell? ⟨B, 0, none⟩ = some a0 ∧ w.cell? ⟨B, 1, none⟩ = some a1 ∧ w.cell? ⟨B, 2, none⟩ = some a2 ∧ w.cell? ⟨B, 3, none⟩ = some a3 ∧ w.cell? ⟨B, 4, none⟩ = some a4 ∧ w.cell? ⟨B, 5, none⟩ = some a5) ∧
    (w.frozen? ⟨B, 0, none⟩ = false ∧ w.frozen? ⟨B, 1, none⟩ = false ∧ w.frozen? ⟨B, 2, none⟩ = false ∧ w.frozen? ⟨B, 3, none⟩ = false ∧ w.frozen? ⟨B, 4, none⟩ = false ∧ w.frozen? ⟨B, 5, none⟩ = false) :=
  ⟨⟨(Blk.cell h 0).trans (by simp), (Blk.cell h 1).trans (by simp), (Blk.cell h 2).trans (by simp), (Blk.cell h 3).trans (by simp), (Blk.cell h 4).trans (by simp), (Blk.cell h 5).trans (by simp)⟩,
    h.frozen 0, h.frozen 1, h.frozen 2, h.frozen 3, h.frozen 4, h.frozen 5⟩
theorem NStrs.form {w : World} {L : Nat} {v : Value} {l : List ByteArray} (h : NStrs w L v l) : ∃ A n c, v = .slice A n c := by
  obtain ⟨A, n, c, h, -⟩ := h
  exact ⟨A, n, c, h⟩
theorem fld0 (a b c : Value) (W : World) : (Instr.field 62 (.agg #[a, b, c]) 0).run Tryd.prog W = .ok a W := by kernel_rfl
theorem fld1 (a b c : Value) (W : World) : (Instr.field 62 (.agg #[a, b, c]) 1).run Tryd.prog W = .ok b W := by kernel_rfl

set_option maxRecDepth 100000 in
set_option maxHeartbeats 400000 in
theorem atom_eq_walk (R n : Nat) (text nm : ByteArray) (hnm : nm.size ≤ 100000) (w : World) (hr : Psr w R text n) (hn : n ≤ text.size) (hs : text.size ≤ 100000)
    {ta : Nat} {t : Fo.Tok} {r : List Fo.Tok} (hts : Fo.toksAt text.toList n = (ta, [61]) :: t :: r) (ht : Sh.nameB t.2 = true) :
    Calls Tryd.prog 31 #[.pointer (some ⟨R, 0, none⟩), .string nm] w
      (RdPost R text w (Fo.atomT nm.toList (Fo.toksAt text.toList n)) (fun w' v f => NForm w' w.heap.size v f)) := by
  have hRw := hr.lt
  have hok := atom_eq_yes (nm := nm.toList) (a := ta) (r := r) ht
  rw [← hts, show (⟨nm.toList.toArray⟩ : ByteArray) = nm by rw [ByteArray.toList_eq]] at hok
  have Hok := Lib.hid hok; clear hok
  obtain ⟨ho1, ho2, -⟩ := tok_over hn hts
  obtain ⟨tb, tc⟩ := t
  obtain ⟨hp1, hp2, -⟩ := tok_over ho1 ho2
  have hcall1 := fun (v : Value) (W : World) (h1 : Psr W R text n) (h2 : Strs W (· < W.heap.size) v [(⟨#[40]⟩ : ByteArray), ⟨#[61]⟩, ⟨#[60]⟩]) => take_ok R n text _ v W h1 hn hs h2 hts ⟨#[61]⟩ ((kindB_self (x := [61]) (.inr (by decide))).2 rfl) (by simp)
  have hcall2 := fun (v : Value) (W : World) (h1 : Psr W R text (ta + 1)) (h2 : Strs W (· < W.heap.size) v [nameK]) => take_ok R (ta + 1) text _ v W h1 ho1 hs h2 ho2 nameK (kindB_name.2 ht) (by simp)
  have hf0 := fld0 (.string ⟨#[61]⟩) (.string ⟨#[61]⟩) (.int .i64 ta)
  have hf1 := fld1 (.string nameK) (.string ⟨tc.toArray⟩) (.int .i64 tb)
  have hys : (⟨tc.toArray⟩ : ByteArray).size ≤ 140737488351232 := by simp [ByteArray.size]; omega
  dsimp only at Hok hp1 hp2
  generalize (⟨tc.toArray⟩ : ByteArray) = y at *
  generalize tc.length = tl at *
  have Hp2 := Lib.hid hp2; clear hp2
  have Hcall1 := Lib.hid hcall1; clear hcall1
  have Hcall2 := Lib.hid hcall2; clear hcall2 hts ho2 ht
  have hz := Blk.new w 31 #[.int .i64 0, .int .i64 0, .string ⟨#[]⟩, .slice none 0 0, .slice none 0 0, .slice none 0 0]
  have hr0 : Psr (w.alloc (.cells #[.int .i64 0, .int .i64 0, .string ⟨#[]⟩, .slice none 0 0, .slice none 0 0, .slice none 0 0] 31)) R text n := Blk.alloc hr _
  have hg0 : w.grownBy (w.alloc (.cells #[.int .i64 0, .int .i64 0, .string ⟨#[]⟩, .slice none 0 0, .slice none 0 0, .slice none 0 0] 31)) (some R) := World.grownBy_alloc _ _ _
  have hsz0 : (w.alloc (.cells #[.int .i64 0, .int .i64 0, .string ⟨#[]⟩, .slice none 0 0, .slice none 0 0, .slice none 0 0] 31)).heap.size = w.heap.size + 1 := by simp
  have hl3 := lit3 (w.alloc (.cells #[.int .i64 0, .int .i64 0, .string ⟨#[]⟩, .slice none 0 0, .slice none 0 0, .slice none 0 0] 31))
  rw [hsz0] at hl3
  have hcall1 := Hcall1.out _ _ (Blk.alloc hr0 _) hl3
  clear Hcall1 hl3 hsz0
  have Hcall1 := Lib.hid hcall1; clear hcall1
  go_enter Tryd.func31, Tryd.ntmps31
  go_wp2_with (first
    | (go_at_call 25; with_reducible refine (Hcall1.out).mono ?_; rintro e w2 ⟨rfl, hr2, hg2⟩; have hz2 := Blk.grown (Blk.alloc hz _) hg2 (fun e => by injection e with e; omega); have hg02 := grownBy_trans hg0 (grownBy_trans (World.grownBy_alloc _ _ _) hg2))
    | (go_at_call 25; with_reducible refine (Hcall2.out _ _ (hr2.alloc _) (litN _)).mono ?_; rintro e w3 ⟨rfl, hr3, hg3⟩; have hz3 := Blk.grown (Blk.alloc hz2 _) hg3 (fun e => by injection e with e; omega); have hg03 := grownBy_trans hg02 (grownBy_trans (World.grownBy_alloc _ _ _) hg3); have hz4 := Blk.alloc hz3 (.cells #[.string nm, .string y] 9); obtain ⟨⟨z0, z1, z2, z3, z4, z5⟩, f0, f1, f2, f3, f4, f5⟩ := six_cells hz4))
  have hx := st6_cells (.int .i64 1) (.int .i64 0) (.string ⟨#[]⟩) (.slice none 0 0) (.slice (some ⟨w3.heap.size, 0, none⟩) 2 2) (.slice none 0 0) hz4
  have hg4 : w.grownBy (w3.alloc (.cells #[.string nm, .string y] 9)) (some R) := grownBy_trans hg03 (World.grownBy_alloc _ _ _)
  have hg5 := st6_grown (.int .i64 1) (.int .i64 0) (.string ⟨#[]⟩) (.slice none 0 0) (.slice (some ⟨w3.heap.size, 0, none⟩) 2 2) (.slice none 0 0) hg4 (Nat.le_refl _)
  have hp5 : Psr _ R text (tb + tl) := st6_far (.int .i64 1) (.int .i64 0) (.string ⟨#[]⟩) (.slice none 0 0) (.slice (some ⟨w3.heap.size, 0, none⟩) 2 2) (.slice none 0 0) (hr3.alloc (.cells #[.string nm, .string y] 9)) (show R ≠ w.heap.size by omega)
  have hB3 : w.heap.size + 1 ≤ w3.heap.size := hz3.lt
  have hv5 := st6_val (.int .i64 1) (.int .i64 0) (.string ⟨#[]⟩) (.slice none 0 0) (.slice (some ⟨w3.heap.size, 0, none⟩) 2 2) (.slice none 0 0) (w := w3.alloc (.cells #[.string nm, .string y] 9)) (B := w.heap.size)
    (atom_val (k := 1) (nm := Fo.noName) (by decide) (strs_lit w3 9 [nm, y] (by simp) (by intro s hs; simp only [List.mem_cons, List.not_mem_nil, or_false] at hs; rcases hs with rfl | rfl <;> omega) (fun b => w.heap.size + 1 ≤ b ∧ b < (w3.alloc (.cells #[.string nm, .string y] 9)).heap.size) ⟨hB3, by simp⟩))
  unfold st6 at hx hg5 hp5 hv5
  obtain ⟨x0, x1, x2, x3, x4, x5⟩ := hx
  refine bodyPost_ret (v := .agg #[.int .i64 1, .int .i64 0, .string ⟨#[]⟩, .slice none 0 0, .slice (some ⟨w3.heap.size, 0, none⟩) 2 2, .slice none 0 0]) (by simp [results, Tryd.results31, go_sem, x0, x1, x2, x3, x4, x5]) rfl ?_
  exact RdPost.ok Hok.out _ (tb + tl) hg5 ⟨_, rfl, hv5⟩ hp1 Hp2.out hp5

set_option maxRecDepth 100000 in
set_option maxHeartbeats 400000 in
theorem atom_lt_walk (R n : Nat) (text nm : ByteArray) (hnm : nm.size ≤ 100000) (w : World) (hr : Psr w R text n) (hn : n ≤ text.size) (hs : text.size ≤ 100000)
    {ta : Nat} {t : Fo.Tok} {r : List Fo.Tok} (hts : Fo.toksAt text.toList n = (ta, [60]) :: t :: r) (ht : Sh.nameB t.2 = true) :
    Calls Tryd.prog 31 #[.pointer (some ⟨R, 0, none⟩), .string nm] w
      (RdPost R text w (Fo.atomT nm.toList (Fo.toksAt text.toList n)) (fun w' v f => NForm w' w.heap.size v f)) := by
  have hRw := hr.lt
  have hok := atom_lt_yes (nm := nm.toList) (a := ta) (r := r) ht
  rw [← hts, show (⟨nm.toList.toArray⟩ : ByteArray) = nm by rw [ByteArray.toList_eq]] at hok
  have Hok := Lib.hid hok; clear hok
  obtain ⟨ho1, ho2, -⟩ := tok_over hn hts
  obtain ⟨tb, tc⟩ := t
  obtain ⟨hp1, hp2, -⟩ := tok_over ho1 ho2
  have hcall1 := fun (v : Value) (W : World) (h1 : Psr W R text n) (h2 : Strs W (· < W.heap.size) v [(⟨#[40]⟩ : ByteArray), ⟨#[61]⟩, ⟨#[60]⟩]) => take_ok R n text _ v W h1 hn hs h2 hts ⟨#[60]⟩ ((kindB_self (x := [60]) (.inr (by decide))).2 rfl) (by simp)
  have hcall2 := fun (v : Value) (W : World) (h1 : Psr W R text (ta + 1)) (h2 : Strs W (· < W.heap.size) v [nameK]) => take_ok R (ta + 1) text _ v W h1 ho1 hs h2 ho2 nameK (kindB_name.2 ht) (by simp)
  have hf0 := fld0 (.string ⟨#[60]⟩) (.string ⟨#[60]⟩) (.int .i64 ta)
  have hf1 := fld1 (.string nameK) (.string ⟨tc.toArray⟩) (.int .i64 tb)
  have hys : (⟨tc.toArray⟩ : ByteArray).size ≤ 140737488351232 := by simp [ByteArray.size]; omega
  dsimp only at Hok hp1 hp2
  generalize (⟨tc.toArray⟩ : ByteArray) = y at *
  generalize tc.length = tl at *
  have Hp2 := Lib.hid hp2; clear hp2
  have Hcall1 := Lib.hid hcall1; clear hcall1
  have Hcall2 := Lib.hid hcall2; clear hcall2 hts ho2 ht
  have hz := Blk.new w 31 #[.int .i64 0, .int .i64 0, .string ⟨#[]⟩, .slice none 0 0, .slice none 0 0, .slice none 0 0]
  have hr0 : Psr (w.alloc (.cells #[.int .i64 0, .int .i64 0, .string ⟨#[]⟩, .slice none 0 0, .slice none 0 0, .slice none 0 0] 31)) R text n := Blk.alloc hr _
  have hg0 : w.grownBy (w.alloc (.cells #[.int .i64 0, .int .i64 0, .string ⟨#[]⟩, .slice none 0 0, .slice none 0 0, .slice none 0 0] 31)) (some R) := World.grownBy_alloc _ _ _
  have hsz0 : (w.alloc (.cells #[.int .i64 0, .int .i64 0, .string ⟨#[]⟩, .slice none 0 0, .slice none 0 0, .slice none 0 0] 31)).heap.size = w.heap.size + 1 := by simp
  have hl3 := lit3 (w.alloc (.cells #[.int .i64 0, .int .i64 0, .string ⟨#[]⟩, .slice none 0 0, .slice none 0 0, .slice none 0 0] 31))
  rw [hsz0] at hl3
  have hcall1 := Hcall1.out _ _ (Blk.alloc hr0 _) hl3
  clear Hcall1 hl3 hsz0
  have Hcall1 := Lib.hid hcall1; clear hcall1
  go_enter Tryd.func31, Tryd.ntmps31
  go_wp2_with (first
    | (go_at_call 25; with_reducible refine (Hcall1.out).mono ?_; rintro e w2 ⟨rfl, hr2, hg2⟩; have hz2 := Blk.grown (Blk.alloc hz _) hg2 (fun e => by injection e with e; omega); have hg02 := grownBy_trans hg0 (grownBy_trans (World.grownBy_alloc _ _ _) hg2))
    | (go_at_call 25; with_reducible refine (Hcall2.out _ _ (hr2.alloc _) (litN _)).mono ?_; rintro e w3 ⟨rfl, hr3, hg3⟩; have hz3 := Blk.grown (Blk.alloc hz2 _) hg3 (fun e => by injection e with e; omega); have hg03 := grownBy_trans hg02 (grownBy_trans (World.grownBy_alloc _ _ _) hg3); have hz4 := Blk.alloc hz3 (.cells #[.string nm, .string y] 9); obtain ⟨⟨z0, z1, z2, z3, z4, z5⟩, f0, f1, f2, f3, f4, f5⟩ := six_cells hz4))
  have hx := st6_cells (.int .i64 2) (.int .i64 0) (.string ⟨#[]⟩) (.slice none 0 0) (.slice (some ⟨w3.heap.size, 0, none⟩) 2 2) (.slice none 0 0) hz4
  have hg4 : w.grownBy (w3.alloc (.cells #[.string nm, .string y] 9)) (some R) := grownBy_trans hg03 (World.grownBy_alloc _ _ _)
  have hg5 := st6_grown (.int .i64 2) (.int .i64 0) (.string ⟨#[]⟩) (.slice none 0 0) (.slice (some ⟨w3.heap.size, 0, none⟩) 2 2) (.slice none 0 0) hg4 (Nat.le_refl _)
  have hp5 : Psr _ R text (tb + tl) := st6_far (.int .i64 2) (.int .i64 0) (.string ⟨#[]⟩) (.slice none 0 0) (.slice (some ⟨w3.heap.size, 0, none⟩) 2 2) (.slice none 0 0) (hr3.alloc (.cells #[.string nm, .string y] 9)) (show R ≠ w.heap.size by omega)
  have hB3 : w.heap.size + 1 ≤ w3.heap.size := hz3.lt
  have hv5 := st6_val (.int .i64 2) (.int .i64 0) (.string ⟨#[]⟩) (.slice none 0 0) (.slice (some ⟨w3.heap.size, 0, none⟩) 2 2) (.slice none 0 0) (w := w3.alloc (.cells #[.string nm, .string y] 9)) (B := w.heap.size)
    (atom_val (k := 2) (nm := Fo.noName) (by decide) (strs_lit w3 9 [nm, y] (by simp) (by intro s hs; simp only [List.mem_cons, List.not_mem_nil, or_false] at hs; rcases hs with rfl | rfl <;> omega) (fun b => w.heap.size + 1 ≤ b ∧ b < (w3.alloc (.cells #[.string nm, .string y] 9)).heap.size) ⟨hB3, by simp⟩))
  unfold st6 at hx hg5 hp5 hv5
  obtain ⟨x0, x1, x2, x3, x4, x5⟩ := hx
  refine bodyPost_ret (v := .agg #[.int .i64 2, .int .i64 0, .string ⟨#[]⟩, .slice none 0 0, .slice (some ⟨w3.heap.size, 0, none⟩) 2 2, .slice none 0 0]) (by simp [results, Tryd.results31, go_sem, x0, x1, x2, x3, x4, x5]) rfl ?_
  exact RdPost.ok Hok.out _ (tb + tl) hg5 ⟨_, rfl, hv5⟩ hp1 Hp2.out hp5

set_option maxRecDepth 100000 in
set_option maxHeartbeats 400000 in
theorem atom_eq_wrong (R n : Nat) (text nm : ByteArray) (w : World) (hr : Psr w R text n) (hn : n ≤ text.size) (hs : text.size ≤ 100000)
    {ta : Nat} {r : List Fo.Tok} (hts : Fo.toksAt text.toList n = (ta, [61]) :: r) (ht : ∀ t r', r = t :: r' → Sh.nameB t.2 = false) :
    Calls Tryd.prog 31 #[.pointer (some ⟨R, 0, none⟩), .string nm] w
      (RdPost R text w (Fo.atomT nm.toList (Fo.toksAt text.toList n)) (fun w' v f => NForm w' w.heap.size v f)) := by
  have hRw := hr.lt
  obtain ⟨hn1, hn2⟩ := name_no ht
  have hok := atom_eq_no (nm := nm.toList) (a := ta) (r := r) hn1
  rw [← hts] at hok
  have Hok := Lib.hid hok; clear hok
  obtain ⟨ho1, ho2, -⟩ := tok_over hn hts
  have hcall1 := fun (v : Value) (W : World) (h1 : Psr W R text n) (h2 : Strs W (· < W.heap.size) v [(⟨#[40]⟩ : ByteArray), ⟨#[61]⟩, ⟨#[60]⟩]) => take_ok R n text _ v W h1 hn hs h2 hts ⟨#[61]⟩ ((kindB_self (x := [61]) (.inr (by decide))).2 rfl) (by simp)
  have hcall2 := fun (v : Value) (W : World) (h1 : Psr W R text (ta + 1)) (h2 : Strs W (· < W.heap.size) v [nameK]) => take_err R (ta + 1) text _ v W h1 ho1 hs h2 ho2 hn2
  have hf0 := fld0 (.string ⟨#[61]⟩) (.string ⟨#[61]⟩) (.int .i64 ta)
  have Hcall1 := Lib.hid hcall1; clear hcall1
  have Hcall2 := Lib.hid hcall2; clear hcall2 hts ho2 ht hn1 hn2
  have hr0 : Psr (w.alloc (.cells #[.int .i64 0, .int .i64 0, .string ⟨#[]⟩, .slice none 0 0, .slice none 0 0, .slice none 0 0] 31)) R text n := Blk.alloc hr _
  have hg0 : w.grownBy (w.alloc (.cells #[.int .i64 0, .int .i64 0, .string ⟨#[]⟩, .slice none 0 0, .slice none 0 0, .slice none 0 0] 31)) (some R) := World.grownBy_alloc _ _ _
  have hsz0 : (w.alloc (.cells #[.int .i64 0, .int .i64 0, .string ⟨#[]⟩, .slice none 0 0, .slice none 0 0, .slice none 0 0] 31)).heap.size = w.heap.size + 1 := by simp
  have hl3 := lit3 (w.alloc (.cells #[.int .i64 0, .int .i64 0, .string ⟨#[]⟩, .slice none 0 0, .slice none 0 0, .slice none 0 0] 31))
  rw [hsz0] at hl3
  have hcall1 := Hcall1.out _ _ (Blk.alloc hr0 _) hl3
  clear Hcall1 hl3 hsz0
  have Hcall1 := Lib.hid hcall1; clear hcall1
  go_enter Tryd.func31, Tryd.ntmps31
  go_wp2_with (first
    | (go_at_call 25; with_reducible refine (Hcall1.out).mono ?_; rintro e w2 ⟨rfl, hr2, hg2⟩; have hg02 := grownBy_trans hg0 (grownBy_trans (World.grownBy_alloc _ _ _) hg2))
    | (go_at_call 25; with_reducible refine (Hcall2.out _ _ (hr2.alloc _) (litN _)).mono ?_; rintro e w3 ⟨rfl, hb3⟩))
  exact ⟨rfl, RdPost.bad Hok.out (grownBy_trans hg02 (grownBy_trans (World.grownBy_alloc _ _ _) (grownBy_of_below hb3 _)))⟩

set_option maxRecDepth 100000 in
set_option maxHeartbeats 400000 in
theorem atom_lt_wrong (R n : Nat) (text nm : ByteArray) (w : World) (hr : Psr w R text n) (hn : n ≤ text.size) (hs : text.size ≤ 100000)
    {ta : Nat} {r : List Fo.Tok} (hts : Fo.toksAt text.toList n = (ta, [60]) :: r) (ht : ∀ t r', r = t :: r' → Sh.nameB t.2 = false) :
    Calls Tryd.prog 31 #[.pointer (some ⟨R, 0, none⟩), .string nm] w
      (RdPost R text w (Fo.atomT nm.toList (Fo.toksAt text.toList n)) (fun w' v f => NForm w' w.heap.size v f)) := by
  have hRw := hr.lt
  obtain ⟨hn1, hn2⟩ := name_no ht
  have hok := atom_lt_no (nm := nm.toList) (a := ta) (r := r) hn1
  rw [← hts] at hok
  have Hok := Lib.hid hok; clear hok
  obtain ⟨ho1, ho2, -⟩ := tok_over hn hts
  have hcall1 := fun (v : Value) (W : World) (h1 : Psr W R text n) (h2 : Strs W (· < W.heap.size) v [(⟨#[40]⟩ : ByteArray), ⟨#[61]⟩, ⟨#[60]⟩]) => take_ok R n text _ v W h1 hn hs h2 hts ⟨#[60]⟩ ((kindB_self (x := [60]) (.inr (by decide))).2 rfl) (by simp)
  have hcall2 := fun (v : Value) (W : World) (h1 : Psr W R text (ta + 1)) (h2 : Strs W (· < W.heap.size) v [nameK]) => take_err R (ta + 1) text _ v W h1 ho1 hs h2 ho2 hn2
  have hf0 := fld0 (.string ⟨#[60]⟩) (.string ⟨#[60]⟩) (.int .i64 ta)
  have Hcall1 := Lib.hid hcall1; clear hcall1
  have Hcall2 := Lib.hid hcall2; clear hcall2 hts ho2 ht hn1 hn2
  have hr0 : Psr (w.alloc (.cells #[.int .i64 0, .int .i64 0, .string ⟨#[]⟩, .slice none 0 0, .slice none 0 0, .slice none 0 0] 31)) R text n := Blk.alloc hr _
  have hg0 : w.grownBy (w.alloc (.cells #[.int .i64 0, .int .i64 0, .string ⟨#[]⟩, .slice none 0 0, .slice none 0 0, .slice none 0 0] 31)) (some R) := World.grownBy_alloc _ _ _
  have hsz0 : (w.alloc (.cells #[.int .i64 0, .int .i64 0, .string ⟨#[]⟩, .slice none 0 0, .slice none 0 0, .slice none 0 0] 31)).heap.size = w.heap.size + 1 := by simp
  have hl3 := lit3 (w.alloc (.cells #[.int .i64 0, .int .i64 0, .string ⟨#[]⟩, .slice none 0 0, .slice none 0 0, .slice none 0 0] 31))
  rw [hsz0] at hl3
  have hcall1 := Hcall1.out _ _ (Blk.alloc hr0 _) hl3
  clear Hcall1 hl3 hsz0
  have Hcall1 := Lib.hid hcall1; clear hcall1
  go_enter Tryd.func31, Tryd.ntmps31
  go_wp2_with (first
    | (go_at_call 25; with_reducible refine (Hcall1.out).mono ?_; rintro e w2 ⟨rfl, hr2, hg2⟩; have hg02 := grownBy_trans hg0 (grownBy_trans (World.grownBy_alloc _ _ _) hg2))
    | (go_at_call 25; with_reducible refine (Hcall2.out _ _ (hr2.alloc _) (litN _)).mono ?_; rintro e w3 ⟨rfl, hb3⟩))
  exact ⟨rfl, RdPost.bad Hok.out (grownBy_trans hg02 (grownBy_trans (World.grownBy_alloc _ _ _) (grownBy_of_below hb3 _)))⟩

set_option maxRecDepth 100000 in
set_option maxHeartbeats 400000 in
theorem atom_none (R n : Nat) (text nm : ByteArray) (w : World) (hr : Psr w R text n) (hn : n ≤ text.size) (hs : text.size ≤ 100000)
    {ts : List Fo.Tok} (hts : Fo.toksAt text.toList n = ts) (ht : kindT ts ∉ [(⟨#[40]⟩ : ByteArray), ⟨#[61]⟩, ⟨#[60]⟩]) (hok : Fo.atomT nm.toList ts = .error ts) :
    Calls Tryd.prog 31 #[.pointer (some ⟨R, 0, none⟩), .string nm] w
      (RdPost R text w (Fo.atomT nm.toList (Fo.toksAt text.toList n)) (fun w' v f => NForm w' w.heap.size v f)) := by
  have hRw := hr.lt
  rw [← hts] at hok
  have hok : Fo.atomT nm.toList (Fo.toksAt text.toList n) = .error ts := hok.trans (by rw [hts])
  have Hok := Lib.hid hok; clear hok
  have hcall1 := fun (v : Value) (W : World) (h1 : Psr W R text n) (h2 : Strs W (· < W.heap.size) v [(⟨#[40]⟩ : ByteArray), ⟨#[61]⟩, ⟨#[60]⟩]) => take_err R n text _ v W h1 hn hs h2 hts ht
  have Hcall1 := Lib.hid hcall1; clear hcall1 hts ht
  have hr0 : Psr (w.alloc (.cells #[.int .i64 0, .int .i64 0, .string ⟨#[]⟩, .slice none 0 0, .slice none 0 0, .slice none 0 0] 31)) R text n := Blk.alloc hr _
  have hg0 : w.grownBy (w.alloc (.cells #[.int .i64 0, .int .i64 0, .string ⟨#[]⟩, .slice none 0 0, .slice none 0 0, .slice none 0 0] 31)) (some R) := World.grownBy_alloc _ _ _
  have hsz0 : (w.alloc (.cells #[.int .i64 0, .int .i64 0, .string ⟨#[]⟩, .slice none 0 0, .slice none 0 0, .slice none 0 0] 31)).heap.size = w.heap.size + 1 := by simp
  have hl3 := lit3 (w.alloc (.cells #[.int .i64 0, .int .i64 0, .string ⟨#[]⟩, .slice none 0 0, .slice none 0 0, .slice none 0 0] 31))
  rw [hsz0] at hl3
  have hcall1 := Hcall1.out _ _ (Blk.alloc hr0 _) hl3
  clear Hcall1 hl3 hsz0
  have Hcall1 := Lib.hid hcall1; clear hcall1
  go_enter Tryd.func31, Tryd.ntmps31
  go_wp2_with (go_at_call 25; with_reducible refine (Hcall1.out).mono ?_; rintro e w2 ⟨rfl, hb2⟩)
  exact ⟨rfl, RdPost.bad Hok.out (grownBy_trans hg0 (grownBy_trans (World.grownBy_alloc _ _ _) (grownBy_of_below hb2 _)))⟩

set_option maxRecDepth 100000 in
set_option maxHeartbeats 400000 in
theorem atom_rel_walk (R n : Nat) (text nm : ByteArray) (hnm : nm.size ≤ 100000) (w : World) (hr : Psr w R text n) (hn : n ≤ text.size) (hs : text.size ≤ 100000)
    {ta : Nat} {r r2 : List Fo.Tok} {l : List ByteArray} (hts : Fo.toksAt text.toList n = (ta, [40]) :: r) (ht : Fo.namesT [41] r = .ok (l, r2)) :
    Calls Tryd.prog 31 #[.pointer (some ⟨R, 0, none⟩), .string nm] w
      (RdPost R text w (Fo.atomT nm.toList (Fo.toksAt text.toList n)) (fun w' v f => NForm w' w.heap.size v f)) := by
  have hRw := hr.lt
  have hok := atom_rel (nm := nm.toList) (a := ta) (r := r)
  rw [ht, ← hts, show (⟨nm.toList.toArray⟩ : ByteArray) = nm by rw [ByteArray.toList_eq]] at hok
  have hok : Fo.atomT nm.toList (Fo.toksAt text.toList n) = .ok (.mk 0 0 nm [] l [], r2) := hok
  have Hok := Lib.hid hok; clear hok
  obtain ⟨ho1, ho2, -⟩ := tok_over hn hts
  have hcall1 := fun (v : Value) (W : World) (h1 : Psr W R text n) (h2 : Strs W (· < W.heap.size) v [(⟨#[40]⟩ : ByteArray), ⟨#[61]⟩, ⟨#[60]⟩]) => take_ok R n text _ v W h1 hn hs h2 hts ⟨#[40]⟩ ((kindB_self (x := [40]) (.inr (by decide))).2 rfl) (by simp)
  have hcall2 := fun (W : World) (h1 : Psr W R text (ta + 1)) => (names_any R (ta + 1) text 41 (by decide) W h1 ho1 hs).mono fun e w' h => h.hit ((congrArg (Fo.namesT [41]) ho2).trans ht)
  have hf0 := fld0 (.string ⟨#[40]⟩) (.string ⟨#[40]⟩) (.int .i64 ta)
  have Hcall1 := Lib.hid hcall1; clear hcall1
  have Hcall2 := Lib.hid hcall2; clear hcall2 hts ho2 ht
  have hz := Blk.new w 31 #[.int .i64 0, .int .i64 0, .string ⟨#[]⟩, .slice none 0 0, .slice none 0 0, .slice none 0 0]
  have hr0 : Psr (w.alloc (.cells #[.int .i64 0, .int .i64 0, .string ⟨#[]⟩, .slice none 0 0, .slice none 0 0, .slice none 0 0] 31)) R text n := Blk.alloc hr _
  have hg0 : w.grownBy (w.alloc (.cells #[.int .i64 0, .int .i64 0, .string ⟨#[]⟩, .slice none 0 0, .slice none 0 0, .slice none 0 0] 31)) (some R) := World.grownBy_alloc _ _ _
  have hsz0 : (w.alloc (.cells #[.int .i64 0, .int .i64 0, .string ⟨#[]⟩, .slice none 0 0, .slice none 0 0, .slice none 0 0] 31)).heap.size = w.heap.size + 1 := by simp
  have hl3 := lit3 (w.alloc (.cells #[.int .i64 0, .int .i64 0, .string ⟨#[]⟩, .slice none 0 0, .slice none 0 0, .slice none 0 0] 31))
  rw [hsz0] at hl3
  have hcall1 := Hcall1.out _ _ (Blk.alloc hr0 _) hl3
  clear Hcall1 hl3 hsz0
  have Hcall1 := Lib.hid hcall1; clear hcall1
  go_enter Tryd.func31, Tryd.ntmps31
  go_wp2_with (first
    | (go_at_call 25; with_reducible refine (Hcall1.out).mono ?_; rintro e w2 ⟨rfl, hr2, hg2⟩; have hz2 := Blk.grown (Blk.alloc hz _) hg2 (fun e => by injection e with e; omega); have hg02 := grownBy_trans hg0 (grownBy_trans (World.grownBy_alloc _ _ _) hg2))
    | (go_at_call 35; with_reducible refine (Hcall2.out _ hr2).mono ?_; rintro e w3 ⟨v3, n3, rfl, hg3, hv3, hp1, hp2, hr3⟩; obtain ⟨A3, m3, c3, rfl⟩ := hv3.form; have hz3 := Blk.grown hz2 hg3 (fun e => by injection e with e; omega); have hg03 := grownBy_trans hg02 hg3; obtain ⟨⟨z0, z1, z2, z3, z4, z5⟩, f0, f1, f2, f3, f4, f5⟩ := six_cells hz3))
  have hB2 : w.heap.size + 1 ≤ w2.heap.size := hz2.lt
  have hx := st6_cells (.int .i64 0) (.int .i64 0) (.string nm) (.slice none 0 0) (.slice A3 m3 c3) (.slice none 0 0) hz3
  have hg5 := st6_grown (.int .i64 0) (.int .i64 0) (.string nm) (.slice none 0 0) (.slice A3 m3 c3) (.slice none 0 0) hg03 (Nat.le_refl _)
  have hp5 : Psr _ R text n3 := st6_far (.int .i64 0) (.int .i64 0) (.string nm) (.slice none 0 0) (.slice A3 m3 c3) (.slice none 0 0) hr3 (show R ≠ w.heap.size by omega)
  have hv5 := st6_val (.int .i64 0) (.int .i64 0) (.string nm) (.slice none 0 0) (.slice A3 m3 c3) (.slice none 0 0) (w := w3) (B := w.heap.size)
    (atom_val (k := 0) (nm := nm) (by omega) (NStrs.lower hv3 hB2))
  unfold st6 at hx hg5 hp5 hv5
  obtain ⟨x0, x1, x2, x3, x4, x5⟩ := hx
  refine bodyPost_ret (v := .agg #[.int .i64 0, .int .i64 0, .string nm, .slice none 0 0, .slice A3 m3 c3, .slice none 0 0]) (by simp [results, Tryd.results31, go_sem, x0, x1, x2, x3, x4, x5]) rfl ?_
  exact RdPost.ok Hok.out _ n3 hg5 ⟨_, rfl, hv5⟩ hp1 hp2 hp5

set_option maxRecDepth 100000 in
set_option maxHeartbeats 400000 in
theorem atom_rel_wrong (R n : Nat) (text nm : ByteArray) (w : World) (hr : Psr w R text n) (hn : n ≤ text.size) (hs : text.size ≤ 100000)
    {ta : Nat} {r : List Fo.Tok} (hts : Fo.toksAt text.toList n = (ta, [40]) :: r) {ts : List Fo.Tok} (ht : Fo.namesT [41] r = .error ts) :
    Calls Tryd.prog 31 #[.pointer (some ⟨R, 0, none⟩), .string nm] w
      (RdPost R text w (Fo.atomT nm.toList (Fo.toksAt text.toList n)) (fun w' v f => NForm w' w.heap.size v f)) := by
  have hRw := hr.lt
  have hok := atom_rel (nm := nm.toList) (a := ta) (r := r)
  rw [ht, ← hts] at hok
  have hok : Fo.atomT nm.toList (Fo.toksAt text.toList n) = .error ts := hok
  have Hok := Lib.hid hok; clear hok
  obtain ⟨ho1, ho2, -⟩ := tok_over hn hts
  have hcall1 := fun (v : Value) (W : World) (h1 : Psr W R text n) (h2 : Strs W (· < W.heap.size) v [(⟨#[40]⟩ : ByteArray), ⟨#[61]⟩, ⟨#[60]⟩]) => take_ok R n text _ v W h1 hn hs h2 hts ⟨#[40]⟩ ((kindB_self (x := [40]) (.inr (by decide))).2 rfl) (by simp)
  have hcall2 := fun (W : World) (h1 : Psr W R text (ta + 1)) => (names_any R (ta + 1) text 41 (by decide) W h1 ho1 hs).mono fun e w' h => h.miss ((congrArg (Fo.namesT [41]) ho2).trans ht)
  have hf0 := fld0 (.string ⟨#[40]⟩) (.string ⟨#[40]⟩) (.int .i64 ta)
  have Hcall1 := Lib.hid hcall1; clear hcall1
  have Hcall2 := Lib.hid hcall2; clear hcall2 hts ho2 ht
  have hr0 : Psr (w.alloc (.cells #[.int .i64 0, .int .i64 0, .string ⟨#[]⟩, .slice none 0 0, .slice none 0 0, .slice none 0 0] 31)) R text n := Blk.alloc hr _
  have hg0 : w.grownBy (w.alloc (.cells #[.int .i64 0, .int .i64 0, .string ⟨#[]⟩, .slice none 0 0, .slice none 0 0, .slice none 0 0] 31)) (some R) := World.grownBy_alloc _ _ _
  have hsz0 : (w.alloc (.cells #[.int .i64 0, .int .i64 0, .string ⟨#[]⟩, .slice none 0 0, .slice none 0 0, .slice none 0 0] 31)).heap.size = w.heap.size + 1 := by simp
  have hl3 := lit3 (w.alloc (.cells #[.int .i64 0, .int .i64 0, .string ⟨#[]⟩, .slice none 0 0, .slice none 0 0, .slice none 0 0] 31))
  rw [hsz0] at hl3
  have hcall1 := Hcall1.out _ _ (Blk.alloc hr0 _) hl3
  clear Hcall1 hl3 hsz0
  have Hcall1 := Lib.hid hcall1; clear hcall1
  go_enter Tryd.func31, Tryd.ntmps31
  go_wp2_with (first
    | (go_at_call 25; with_reducible refine (Hcall1.out).mono ?_; rintro e w2 ⟨rfl, hr2, hg2⟩; have hg02 := grownBy_trans hg0 (grownBy_trans (World.grownBy_alloc _ _ _) hg2))
    | (go_at_call 35; with_reducible refine (Hcall2.out _ hr2).mono ?_; rintro e w3 ⟨rfl, hg3⟩))
  exact ⟨rfl, RdPost.bad Hok.out (grownBy_trans hg02 hg3)⟩

/-- The method atom: what follows the name with which an atom begins. -/
theorem atom_any (R n : Nat) (text nm : ByteArray) (hnm : nm.size ≤ 100000) (w : World) (hr : Psr w R text n) (hn : n ≤ text.size) (hs : text.size ≤ 100000) :
    Calls Tryd.prog 31 #[.pointer (some ⟨R, 0, none⟩), .string nm] w
      (RdPost R text w (Fo.atomT nm.toList (Fo.toksAt text.toList n)) (fun w' v f => NForm w' w.heap.size v f)) := by
  cases hts : Fo.toksAt text.toList n with
  | nil => rw [← hts]; exact atom_none R n text nm w hr hn hs hts (by decide) rfl
  | cons t r =>
    obtain ⟨ta, tb⟩ := t
    have hname : (∃ t' r', r = t' :: r' ∧ Sh.nameB t'.2 = true) ∨ (∀ t' r', r = t' :: r' → Sh.nameB t'.2 = false) := by
      cases r with
      | nil => exact .inr (fun t' r' h => by cases h)
      | cons t' r' =>
        cases h : Sh.nameB t'.2
        · exact .inr (fun t'' r'' h' => by injection h' with h1 h2; subst h1; exact h)
        · exact .inl ⟨t', r', rfl, h⟩
    rw [← hts]
    by_cases h1 : tb = [61]
    · subst h1
      rcases hname with ⟨t', r', rfl, h⟩ | h
      · exact atom_eq_walk R n text nm hnm w hr hn hs hts h
      · exact atom_eq_wrong R n text nm w hr hn hs hts h
    · by_cases h2 : tb = [60]
      · subst h2
        rcases hname with ⟨t', r', rfl, h⟩ | h
        · exact atom_lt_walk R n text nm hnm w hr hn hs hts h
        · exact atom_lt_wrong R n text nm w hr hn hs hts h
      · by_cases h3 : tb = [40]
        · subst h3
          cases h : Fo.namesT [41] r with
          | error ts => exact atom_rel_wrong R n text nm w hr hn hs hts h
          | ok p =>
            obtain ⟨l, r2⟩ := p
            exact atom_rel_walk R n text nm hnm w hr hn hs hts h
        · exact atom_none R n text nm w hr hn hs hts (not_in3 h1 h2 h3) (atom_bad h1 h2 h3)


end Go.Proofs.YtmnpelhcgobfaaaDoor
