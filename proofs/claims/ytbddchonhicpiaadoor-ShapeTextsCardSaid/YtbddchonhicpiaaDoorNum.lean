/-
  Walks: the reader's method number, over strconv.Atoi's contract; the class of letters and digits.
-/
import Derived.Test.YtbddchonhicpiaaDoorRead
import Derived.Test.YtbddchonhicpiaaDoorShelf
import Derived.Test.YtbddchonhicpiaaDoorGram
namespace Go.Proofs.YtbddchonhicpiaaDoor
open Go.RowKit

/-- The two variables of strconv's that an error reads. -/
def Vars (w : World) : Prop := (∃ tp p, w.var? Tryd.prog "strconv.ErrSyntax" = some #[.iface tp p]) ∧ (∃ tp p, w.var? Tryd.prog "strconv.ErrRange" = some #[.iface tp p])
theorem gSyntax : Tryd.prog.globalNamed "strconv.ErrSyntax" = some 1 := by kernel_rfl
theorem gRange : Tryd.prog.globalNamed "strconv.ErrRange" = some 2 := by kernel_rfl
theorem Vars.keep {w w' : World} (h : Vars w) (hk : ∀ g, g < 5 → w'.heap[g]? = w.heap[g]?) : Vars w' := by
  obtain ⟨⟨t1, p1, h1⟩, ⟨t2, p2, h2⟩⟩ := h
  unfold World.var? at h1 h2
  rw [gSyntax, Option.bind_some] at h1
  rw [gRange, Option.bind_some] at h2
  refine ⟨⟨t1, p1, ?_⟩, ⟨t2, p2, ?_⟩⟩
  · unfold World.var?
    rw [gSyntax, Option.bind_some, hk _ (by omega)]
    exact h1
  · unfold World.var?
    rw [gRange, Option.bind_some, hk _ (by omega)]
    exact h2
theorem Vars.size {w : World} (h : Vars w) : 1 ≤ w.heap.size := by
  obtain ⟨⟨t1, p1, h1⟩, -⟩ := h
  unfold World.var? at h1
  rw [gSyntax, Option.bind_some] at h1
  rcases Nat.lt_or_ge 0 w.heap.size with hz | hz
  · exact hz
  · rw [Array.getElem?_eq_none (by omega)] at h1; cases h1
theorem Vars.below {w w' : World} {B : Nat} (h : Vars w) (hb : Below B w w') (hB : 5 ≤ B) : Vars w' := h.keep fun g hg => hb.block g (by omega)
theorem Vars.grown {w w' : World} {R : Nat} (h : Vars w) (hb : w.grownBy w' (some R)) (hR : 5 ≤ R) (hs : 5 ≤ w.heap.size) : Vars w' :=
  h.keep fun g hg => hb.block g (by omega) (fun e => by injection e with e; omega)
theorem Vars.drew {w : World} (h : Vars w) : Vars w.drew := h
theorem Vars.drewN {w : World} (h : Vars w) (n : Nat) : Vars (w.drewN n) := h

theorem digit_class : Class 55 Sh.digitB := fun c W => digit_any c W
theorem digit_enters : ∀ args w, (callFunc 55 args).run Tryd.prog w = .ok (.enter 55 args) w := enters_of Tryd.func55 (by kernel_rfl) rfl

set_option maxRecDepth 100000 in
set_option maxHeartbeats 400000 in
theorem number_err (R n : Nat) (text : ByteArray) (w : World) (hr : Rdr w R text n) (hn : n ≤ text.size) (hs : text.size ≤ 100000) (hv : Vars w) (hR : 5 ≤ R) (hw : 5 ≤ w.heap.size)
    (hno : ∀ v, Lib.atoiAll ((text.toList.drop n).takeWhile fun c => Sh.digitB c.toNat) ≠ .ok v) :
    Calls Tryd.prog 97 #[.pointer (some ⟨R, 0, none⟩)] w
      fun e w' => e = .panicked errChain ∧ w.grownBy w' (some R) := by
  have hcall := while_any 55 Sh.digitB digit_class digit_enters R n text w hr hn hs
  have hrt := runText Sh.digitB text n
  have hle := runLen_le Sh.digitB text n hn
  generalize runLen Sh.digitB text n = L at *
  have hsz : (text.extract n (n + L)).size ≤ 100000 := by rw [ByteArray.size_extract]; omega
  have hat : ∀ (W : World), Vars W → Calls Tryd.prog 114 #[.string (text.extract n (n + L))] W fun e w' => ∃ x N, e = .returned (.tuple #[.int .i64 x, .iface 176 (.pointer (some ⟨N, 0, none⟩))]) ∧ Below W.heap.size W w' := by
    intro W hV
    obtain ⟨⟨t1, p1, h1⟩, ⟨t2, p2, h2⟩⟩ := hV
    cases ha : Lib.atoiAll (text.extract n (n + L)).data.toList with
    | ok v => exact absurd ha (by rw [← ByteArray.toList_eq, hrt]; exact hno v)
    | range =>
      refine (Tryd.strconv_Atoi_range_var _ (by omega) ha t2 p2 W h2).mono ?_
      rintro e w' ⟨N, rfl, -, -, hb⟩
      exact ⟨_, N, rfl, hb⟩
    | _ =>
      refine (Any.strconv_Atoi_syntax_var Tryd.laysC172 _ (by omega) ha t1 p1 W h1).mono ?_
      rintro e w' ⟨N, rfl, -, -, hb⟩
      exact ⟨_, N, rfl, hb⟩
  have Hcall := Lib.hid hcall; clear hcall
  have Hat := Lib.hid hat; clear hat
  have Hno := Lib.hid hno; clear hno
  have Hrt := Lib.hid hrt; clear hrt
  go_enter Tryd.func97, Tryd.ntmps97
  go_wp2_with (first
    | (go_at_call 113; refine (Hcall.out).mono ?_; rintro e w1 ⟨rfl, hr1, hg1⟩)
    | (go_at_call 114; refine (Hat.out _ (hv.grown hg1 hR hw)).mono ?_; rintro e w2 ⟨x, N, rfl, hb2⟩))
  exact ⟨rfl, rfl, grownBy_trans hg1 (grownBy_of_below hb2 _)⟩

theorem head_bytes (s : ByteArray) (h : 0 < s.size) : s.toList.head? = some s[0] := by
  rw [List.head?_eq_getElem?, List.getElem?_eq_getElem (by rw [length_bytes]; exact h), get_bytes s 0 h]

set_option maxRecDepth 100000 in
set_option maxHeartbeats 400000 in
theorem number_val (R n : Nat) (text : ByteArray) (w : World) (hr : Rdr w R text n) (hn : n ≤ text.size) (hs : text.size ≤ 100000) (v : Int)
    (hv : Lib.atoiAll ((text.toList.drop n).takeWhile fun c => Sh.digitB c.toNat) = .ok v) :
    Calls Tryd.prog 97 #[.pointer (some ⟨R, 0, none⟩)] w
      fun e w' => w.grownBy w' (some R) ∧ match numP (text.toList.drop n) with
        | some v => e = .returned (.int .i64 v) ∧ Rdr w' R text (n + runLen Sh.digitB text n)
        | none => e = .panicked errChain := by
  have hcall := while_any 55 Sh.digitB digit_class digit_enters R n text w hr hn hs
  have hrt := runText Sh.digitB text n
  have hle := runLen_le Sh.digitB text n hn
  have hnp : numP (text.toList.drop n) = if 1 < ((text.toList.drop n).takeWhile fun c => Sh.digitB c.toNat).length ∧ ((text.toList.drop n).takeWhile fun c => Sh.digitB c.toNat).head? = some 48 then none else some v := by
    unfold numP; rw [hv]
  rw [← hrt] at hnp hv
  generalize runLen Sh.digitB text n = L at *
  have hsz : (text.extract n (n + L)).size ≤ 100000 := by rw [ByteArray.size_extract]; omega
  generalize hds : text.extract n (n + L) = ds at *
  have Hds := Lib.hid hds; clear hds
  have hat : ∀ W : World, Calls Tryd.prog 114 #[.string ds] W fun e w' => e = .returned (.tuple #[.int .i64 v, .nilIface]) ∧ Below W.heap.size W w' := fun W =>
    (Tryd.strconv_Atoi_ok ds (by omega) v (by rw [← ByteArray.toList_eq]; exact hv) W).mono fun e w' ⟨he, hw⟩ => ⟨he, by
      rcases hw with rfl | ⟨t, rfl⟩
      · exact Below.refl _ _
      · exact bytesWorld_below W _ t⟩
  rw [length_bytes] at hnp
  have Hrt := Lib.hid hrt; clear hrt
  have Hcall := Lib.hid hcall; clear hcall
  have Hat := Lib.hid hat; clear hat
  by_cases h1 : 1 < ds.size
  · have hpos : 0 < ds.size := by omega
    rw [head_bytes ds hpos] at hnp
    by_cases h0 : ds[0].toNat = 48
    · have h48 : ds[0] = 48 := by
        have := UInt8.toNat_inj.1 (show ds[0].toNat = (48 : UInt8).toNat from h0)
        exact this
      rw [if_pos ⟨h1, by rw [h48]⟩] at hnp
      rw [hnp]
      have Hnp := Lib.hid hnp; clear hnp
      have Hv := Lib.hid hv; clear hv
      have hb0 : ((ds[0].toNat : Int) == 48) = true := by rw [h0]; rfl
      have H0 := Lib.hid h0; clear h0
      have H48 := Lib.hid h48; clear h48
      go_enter Tryd.func97, Tryd.ntmps97
      go_wp2_with (first
        | (go_at_call 113; refine (Hcall.out).mono ?_; rintro e w1 ⟨rfl, hr1, hg1⟩)
        | (go_at_call 114; refine (Hat.out _).mono ?_; rintro e w2 ⟨rfl, hb2⟩))
      exact ⟨rfl, grownBy_trans hg1 (grownBy_of_below hb2 _), rfl⟩
    · have h48 : ¬ ds[0] = 48 := fun e => h0 (by rw [e]; rfl)
      rw [if_neg (by rintro ⟨-, h⟩; injection h with h; exact h48 h)] at hnp
      rw [hnp]
      have Hnp := Lib.hid hnp; clear hnp
      have Hv := Lib.hid hv; clear hv
      have hb0 : ((ds[0].toNat : Int) == 48) = false := by
        rw [beq_eq_false_iff_ne]; omega
      have H0 := Lib.hid h0; clear h0
      have H48 := Lib.hid h48; clear h48
      go_enter Tryd.func97, Tryd.ntmps97
      go_wp2_with (first
        | (go_at_call 113; refine (Hcall.out).mono ?_; rintro e w1 ⟨rfl, hr1, hg1⟩)
        | (go_at_call 114; refine (Hat.out _).mono ?_; rintro e w2 ⟨rfl, hb2⟩))
      go_ret
      exact ⟨grownBy_trans hg1 (grownBy_of_below hb2 _), rfl, Blk.below hr1 hb2 (Blk.lt hr1)⟩
  · rw [if_neg (by rintro ⟨h, -⟩; exact h1 h)] at hnp
    rw [hnp]
    have Hnp := Lib.hid hnp; clear hnp
    have Hv := Lib.hid hv; clear hv
    go_enter Tryd.func97, Tryd.ntmps97
    go_wp2_with (first
      | (go_at_call 113; refine (Hcall.out).mono ?_; rintro e w1 ⟨rfl, hr1, hg1⟩)
      | (go_at_call 114; refine (Hat.out _).mono ?_; rintro e w2 ⟨rfl, hb2⟩))
    go_ret
    exact ⟨grownBy_trans hg1 (grownBy_of_below hb2 _), rfl, Blk.below hr1 hb2 (Blk.lt hr1)⟩

/-- number: its value, or the panic. -/
theorem number_any (R n : Nat) (text : ByteArray) (w : World) (hr : Rdr w R text n) (hn : n ≤ text.size) (hs : text.size ≤ 100000) (hv : Vars w) (hR : 5 ≤ R) (hw : 5 ≤ w.heap.size) :
    Calls Tryd.prog 97 #[.pointer (some ⟨R, 0, none⟩)] w
      fun e w' => w.grownBy w' (some R) ∧ match numP (text.toList.drop n) with
        | some v => e = .returned (.int .i64 v) ∧ Rdr w' R text (n + runLen Sh.digitB text n)
        | none => e = .panicked errChain := by
  cases ha : Lib.atoiAll ((text.toList.drop n).takeWhile fun c => Sh.digitB c.toNat) with
  | ok v => exact number_val R n text w hr hn hs v ha
  | range =>
    have hnp : numP (text.toList.drop n) = none := by unfold numP; rw [ha]
    rw [hnp]
    exact (number_err R n text w hr hn hs hv hR hw (fun v h => by rw [ha] at h; cases h)).mono fun e w' ⟨he, hg⟩ => ⟨hg, he⟩
  | _ =>
    have hnp : numP (text.toList.drop n) = none := by unfold numP; rw [ha]
    rw [hnp]
    exact (number_err R n text w hr hn hs hv hR hw (fun v h => by rw [ha] at h; cases h)).mono fun e w' ⟨he, hg⟩ => ⟨hg, he⟩

set_option maxHeartbeats 400000 in
theorem alnumlit_any (c : Nat) (w : World) :
    Calls Tryd.prog 116 #[.int .u8 (c : Int)] w fun e w' => e = .returned (.bool (Sh.letterB c || Sh.digitB c)) ∧ w = w' := by
  cases hl : Sh.letterB c
  · have Hl := Lib.hid hl; clear hl
    go_enter Tryd.func116, Tryd.ntmps116
    go_wp2_with (first
      | (go_at_call 54; refine (letter_any _ _).mono ?_; rw [Hl.out]; rintro e w' ⟨rfl, rfl⟩)
      | (go_at_call 55; refine (digit_any _ _).mono ?_; rintro e w' ⟨rfl, rfl⟩))
    go_ret
    exact ⟨rfl, rfl⟩
  · have Hl := Lib.hid hl; clear hl
    go_enter Tryd.func116, Tryd.ntmps116
    go_wp2_with (go_at_call 54; refine (letter_any _ _).mono ?_; rw [Hl.out]; rintro e w' ⟨rfl, rfl⟩)
    go_ret
    exact ⟨rfl, rfl⟩
theorem alnum_class : Class 116 (fun c => Sh.letterB c || Sh.digitB c) := fun c W => alnumlit_any c W
theorem alnum_enters : ∀ args w, (callFunc 116 args).run Tryd.prog w = .ok (.enter 116 args) w := enters_of Tryd.func116 (by kernel_rfl) rfl

end Go.Proofs.YtbddchonhicpiaaDoor
