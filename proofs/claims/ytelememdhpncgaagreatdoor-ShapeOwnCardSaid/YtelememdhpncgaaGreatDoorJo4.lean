/-
  Texts joined: Gram, Num, New, Pow, Rank, Tuple, Copy.
-/
import Derived.Test.YtelememdhpncgaaGreatDoorJo1
import Derived.Lib.AtoiAll
import Derived.Lib.AtoiAllCases
import Derived.Test.YtelememdhpncgaaGreatDoorJo2
import Derived.Test.YtelememdhpncgaaGreatDoorJo3
import Derived.Test.YtelememdhpncgaaGreatDoorRows
import Derived.WalkKit
import Derived.WalkSpells
import Derived.WalkLawsBesides
import Derived.Lib.Hide
import Derived.Deep.QuietTactic
import Derived.BigQuiet

/-
  The grammar of the textual form as functions on what is left of a text.
-/
namespace Go.Proofs.YtelememdhpncgaaGreatDoor

/-- A number at the head of what is left: its value, if there is one. -/
def numP (l : List UInt8) : Option Int :=
  match Lib.atoiAll (l.takeWhile fun c => Sh.digitB c.toNat) with
  | .ok v => if 1 < (l.takeWhile fun c => Sh.digitB c.toNat).length ∧ (l.takeWhile fun c => Sh.digitB c.toNat).head? = some 48 then none else some v
  | _ => none
def digRun (l : List UInt8) : Nat := (l.takeWhile fun c => Sh.digitB c.toNat).length
theorem digRun_le (l : List UInt8) : digRun l ≤ l.length := (List.takeWhile_prefix _).length_le
theorem numP_pos {l : List UInt8} {v : Int} (h : numP l = some v) : 1 ≤ digRun l := by
  unfold digRun
  rcases Nat.eq_zero_or_pos (l.takeWhile fun c => Sh.digitB c.toNat).length with h0 | h0
  · have he := List.eq_nil_of_length_eq_zero h0
    unfold numP at h
    rw [he] at h
    simp [Lib.atoiAll] at h
  · exact h0

/-- Further numbers, each behind a comma. -/
def numsP (l : List UInt8) : Option (List Int × List UInt8) :=
  if h : [44].isPrefixOf l = true then
    match numP (l.drop 1) with
    | none => none
    | some v => (numsP ((l.drop 1).drop (digRun (l.drop 1)))).map fun p => (v :: p.1, p.2)
  else some ([], l)
termination_by l.length
decreasing_by
  cases l with
  | nil => simp at h
  | cons a l => simp only [List.length_drop, List.length_cons]; omega
theorem numsP_stop {l : List UInt8} (h : [44].isPrefixOf l = false) : numsP l = some ([], l) := by
  rw [numsP, dif_neg (by rw [h]; simp)]
theorem numsP_bad {l : List UInt8} (h : [44].isPrefixOf l = true) (hn : numP (l.drop 1) = none) : numsP l = none := by
  rw [numsP, dif_pos h, hn]
theorem numsP_more {l : List UInt8} (h : [44].isPrefixOf l = true) {v : Int} (hn : numP (l.drop 1) = some v) :
    numsP l = (numsP ((l.drop 1).drop (digRun (l.drop 1)))).map fun p => (v :: p.1, p.2) := by
  rw [numsP, dif_pos h, hn]

/-- A tuple. -/
def tupP (l : List UInt8) : Option (List Int × List UInt8) :=
  if [40, 41].isPrefixOf l = true then some ([], l.drop 2)
  else match numP l with
    | none => none
    | some v => (numsP (l.drop (digRun l))).map fun p => (v :: p.1, p.2)

theorem tupP_unit {l : List UInt8} (h : [40, 41].isPrefixOf l = true) : tupP l = some ([], l.drop 2) := by unfold tupP; rw [if_pos h]
theorem tupP_bad {l : List UInt8} (h : [40, 41].isPrefixOf l = false) (hn : numP l = none) : tupP l = none := by unfold tupP; rw [if_neg (by rw [h]; simp), hn]
theorem tupP_more {l : List UInt8} (h : [40, 41].isPrefixOf l = false) {v : Int} (hn : numP l = some v) : tupP l = (numsP (l.drop (digRun l))).map fun p => (v :: p.1, p.2) := by
  unfold tupP; rw [if_neg (by rw [h]; simp), hn]

theorem numsP_len : ∀ (n : Nat) (l : List UInt8), l.length ≤ n → ∀ p, numsP l = some p → p.2.length ≤ l.length
  | n, l, hn, p, h => by
    cases hc : [44].isPrefixOf l
    · rw [numsP_stop hc] at h
      injection h with h
      rw [← h]
      exact Nat.le_refl _
    · cases hv : numP (l.drop 1) with
      | none => rw [numsP_bad hc hv] at h; cases h
      | some v =>
        rw [numsP_more hc hv] at h
        cases l with
        | nil => simp at hc
        | cons a l =>
          match n, hn with
          | n + 1, hn =>
            simp only [Option.map_eq_some_iff] at h
            obtain ⟨q, hq, rfl⟩ := h
            have := numsP_len n _ (by simp only [List.length_drop, List.length_cons] at hn ⊢; omega) q hq
            simp only [List.length_drop, List.length_cons] at this ⊢
            omega
theorem tupP_len {l : List UInt8} {p : List Int × List UInt8} (h : tupP l = some p) : p.2.length ≤ l.length := by
  unfold tupP at h
  split at h
  · injection h with h; rw [← h]; simp
  · cases hv : numP l with
    | none => rw [hv] at h; cases h
    | some v =>
      rw [hv] at h
      simp only [Option.map_eq_some_iff] at h
      obtain ⟨q, hq, rfl⟩ := h
      have := numsP_len _ _ (Nat.le_refl _) q hq
      simp only [List.length_drop] at this ⊢
      omega

/-- Further tuples, each behind a blank. -/
def tupsP (l : List UInt8) : Option (List (List Int) × List UInt8) :=
  if h : [32].isPrefixOf l = true then
    match ht : tupP (l.drop 1) with
    | none => none
    | some p => (tupsP p.2).map fun q => (p.1 :: q.1, q.2)
  else some ([], l)
termination_by l.length
decreasing_by
  have := tupP_len ht
  cases l with
  | nil => simp at h
  | cons a l => simp only [List.length_drop, List.length_cons] at this ⊢; omega
theorem tupsP_stop {l : List UInt8} (h : [32].isPrefixOf l = false) : tupsP l = some ([], l) := by
  rw [tupsP, dif_neg (by rw [h]; simp)]
theorem tupsP_bad {l : List UInt8} (h : [32].isPrefixOf l = true) (hn : tupP (l.drop 1) = none) : tupsP l = none := by
  rw [tupsP, dif_pos h]
  split
  · rfl
  · rename_i p hp; rw [hn] at hp; cases hp
theorem tupsP_more {l : List UInt8} (h : [32].isPrefixOf l = true) {p : List Int × List UInt8} (hn : tupP (l.drop 1) = some p) :
    tupsP l = (tupsP p.2).map fun q => (p.1 :: q.1, q.2) := by
  rw [tupsP, dif_pos h]
  split
  · rename_i hp; rw [hn] at hp; cases hp
  · rename_i q hp; rw [hn] at hp; injection hp with hp; rw [hp]
theorem tupsP_len : ∀ (n : Nat) (l : List UInt8), l.length ≤ n → ∀ p, tupsP l = some p → p.2.length ≤ l.length
  | n, l, hn, p, h => by
    cases hc : [32].isPrefixOf l
    · rw [tupsP_stop hc] at h
      injection h with h
      rw [← h]
      exact Nat.le_refl _
    · cases hv : tupP (l.drop 1) with
      | none => rw [tupsP_bad hc hv] at h; cases h
      | some v =>
        rw [tupsP_more hc hv] at h
        have h1 := tupP_len hv
        cases l with
        | nil => simp at hc
        | cons a l =>
          match n, hn with
          | n + 1, hn =>
            simp only [Option.map_eq_some_iff] at h
            obtain ⟨q, hq, rfl⟩ := h
            have := numsP_len
            have := tupsP_len n _ (by simp only [List.length_drop, List.length_cons] at hn h1 ⊢; omega) q hq
            simp only [List.length_drop, List.length_cons] at this h1 ⊢
            omega

/-- A relation behind '; '. -/
def nameRun (l : List UInt8) : Nat := (l.takeWhile fun c => Sh.letterB c.toNat || Sh.digitB c.toNat).length
def relP (l : List UInt8) : Option (Sh.Rel × List UInt8) :=
  if [59, 32].isPrefixOf l = true then
    if [47].isPrefixOf ((l.drop 2).drop (nameRun (l.drop 2))) = true then
      match numP (((l.drop 2).drop (nameRun (l.drop 2))).drop 1) with
      | none => none
      | some k => (tupsP ((((l.drop 2).drop (nameRun (l.drop 2))).drop 1).drop (digRun (((l.drop 2).drop (nameRun (l.drop 2))).drop 1)))).map fun q =>
          (⟨⟨((l.drop 2).take (nameRun (l.drop 2))).toArray⟩, k, q.1⟩, q.2)
    else none
  else none
theorem relP_bad1 {l : List UInt8} (h : [59, 32].isPrefixOf l = false) : relP l = none := by unfold relP; rw [if_neg (by rw [h]; simp)]
theorem relP_bad2 {l : List UInt8} (h : [59, 32].isPrefixOf l = true) (h2 : [47].isPrefixOf ((l.drop 2).drop (nameRun (l.drop 2))) = false) : relP l = none := by
  unfold relP; rw [if_pos h, if_neg (by rw [h2]; simp)]
theorem relP_bad3 {l : List UInt8} (h : [59, 32].isPrefixOf l = true) (h2 : [47].isPrefixOf ((l.drop 2).drop (nameRun (l.drop 2))) = true)
    (h3 : numP (((l.drop 2).drop (nameRun (l.drop 2))).drop 1) = none) : relP l = none := by
  unfold relP; rw [if_pos h, if_pos h2, h3]
theorem relP_more {l : List UInt8} (h : [59, 32].isPrefixOf l = true) (h2 : [47].isPrefixOf ((l.drop 2).drop (nameRun (l.drop 2))) = true) {k : Int}
    (h3 : numP (((l.drop 2).drop (nameRun (l.drop 2))).drop 1) = some k) :
    relP l = (tupsP ((((l.drop 2).drop (nameRun (l.drop 2))).drop 1).drop (digRun (((l.drop 2).drop (nameRun (l.drop 2))).drop 1)))).map fun q =>
          (⟨⟨((l.drop 2).take (nameRun (l.drop 2))).toArray⟩, k, q.1⟩, q.2) := by
  unfold relP; rw [if_pos h, if_pos h2, h3]
theorem relP_len {l : List UInt8} {p : Sh.Rel × List UInt8} (h : relP l = some p) : p.2.length + 1 ≤ l.length := by
  unfold relP at h
  split at h
  · rename_i h2
    split at h
    · split at h
      · cases h
      · simp only [Option.map_eq_some_iff] at h
        obtain ⟨q, hq, rfl⟩ := h
        have := tupsP_len _ _ (Nat.le_refl _) q hq
        have hl : 2 ≤ l.length := by have := (List.isPrefixOf_iff_prefix.1 h2).length_le; simpa using this
        simp only [List.length_drop] at this ⊢
        omega
    · cases h
  · cases h
/-- Relations to the end. -/
def relsP (l : List UInt8) : Option (List Sh.Rel) :=
  if h : l = [] then some []
  else match hr : relP l with
    | none => none
    | some p => (relsP p.2).map fun q => p.1 :: q
termination_by l.length
decreasing_by
  have := relP_len hr
  omega
theorem relsP_nil : relsP [] = some [] := by rw [relsP, dif_pos rfl]
theorem relsP_bad {l : List UInt8} (h : l ≠ []) (hn : relP l = none) : relsP l = none := by
  rw [relsP, dif_neg h]
  split
  · rfl
  · rename_i p hp; rw [hn] at hp; cases hp
theorem relsP_more {l : List UInt8} (h : l ≠ []) {p : Sh.Rel × List UInt8} (hn : relP l = some p) : relsP l = (relsP p.2).map fun q => p.1 :: q := by
  rw [relsP, dif_neg h]
  split
  · rename_i hp; rw [hn] at hp; cases hp
  · rename_i q hp; rw [hn] at hp; injection hp with hp; rw [hp]

/-- A structure, before it is asked whether it is valid. -/
def strP (l : List UInt8) : Option Sh.Str :=
  match numP l with
  | none => none
  | some n => (relsP (l.drop (digRun l))).map fun q => ⟨n, q⟩
theorem strP_bad {l : List UInt8} (h : numP l = none) : strP l = none := by unfold strP; rw [h]
theorem strP_more {l : List UInt8} {n : Int} (h : numP l = some n) : strP l = (relsP (l.drop (digRun l))).map fun q => ⟨n, q⟩ := by unfold strP; rw [h]
/-- Parse. -/
def parseP (l : List UInt8) : Option Sh.Str :=
  if 40000 < l.length then none
  else match strP l with
    | some s => if Sh.validB s = true then some s else none
    | none => none

end Go.Proofs.YtelememdhpncgaaGreatDoor

/-
  Walks: the reader's method number, over strconv.Atoi's contract; the class of letters and digits.
-/
namespace Go.Proofs.YtelememdhpncgaaGreatDoor
open Go.RowKit

/-- The two variables of strconv's that an error reads. -/
def Vars (w : World) : Prop := (∃ tp p, w.var? Tryz.prog "strconv.ErrSyntax" = some #[.iface tp p]) ∧ (∃ tp p, w.var? Tryz.prog "strconv.ErrRange" = some #[.iface tp p])
theorem gSyntax : Tryz.prog.globalNamed "strconv.ErrSyntax" = some 0 := by kernel_rfl
theorem gRange : Tryz.prog.globalNamed "strconv.ErrRange" = some 1 := by kernel_rfl
theorem Vars.keep {w w' : World} (h : Vars w) (hk : ∀ g, g < 5 → w'.heap[g]? = w.heap[g]?) : Vars w' := by
  obtain ⟨⟨t1, p1, h1⟩, ⟨t2, p2, h2⟩⟩ := h
  unfold World.var? at h1 h2
  rw [gSyntax, Option.bind_some] at h1
  rw [gRange, Option.bind_some] at h2
  refine ⟨⟨t1, p1, ?_⟩, ⟨t2, p2, ?_⟩⟩
  · unfold World.var?
    rw [gSyntax, Option.bind_some, hk _ (by omega)]
    exact h1
  · unfold World.var?
    rw [gRange, Option.bind_some, hk _ (by omega)]
    exact h2
theorem Vars.size {w : World} (h : Vars w) : 1 ≤ w.heap.size := by
  obtain ⟨⟨t1, p1, h1⟩, -⟩ := h
  unfold World.var? at h1
  rw [gSyntax, Option.bind_some] at h1
  rcases Nat.lt_or_ge 0 w.heap.size with hz | hz
  · exact hz
  · rw [Array.getElem?_eq_none (by omega)] at h1; cases h1
theorem Vars.below {w w' : World} {B : Nat} (h : Vars w) (hb : Below B w w') (hB : 5 ≤ B) : Vars w' := h.keep fun g hg => hb.block g (by omega)
theorem Vars.grown {w w' : World} {R : Nat} (h : Vars w) (hb : w.grownBy w' (some R)) (hR : 5 ≤ R) (hs : 5 ≤ w.heap.size) : Vars w' :=
  h.keep fun g hg => hb.block g (by omega) (fun e => by injection e with e; omega)
theorem Vars.drew {w : World} (h : Vars w) : Vars w.drew := h
theorem Vars.drewN {w : World} (h : Vars w) (n : Nat) : Vars (w.drewN n) := h

theorem digit_class : Class 82 Sh.digitB := fun c W => digit_any c W
theorem digit_enters : ∀ args w, (callFunc 82 args).run Tryz.prog w = .ok (.enter 82 args) w := enters_of Tryz.func82 (by kernel_rfl) rfl

set_option maxRecDepth 100000 in
set_option maxHeartbeats 400000 in
theorem number_err (R n : Nat) (text : ByteArray) (w : World) (hr : Rdr w R text n) (hn : n ≤ text.size) (hs : text.size ≤ 100000) (hv : Vars w) (hR : 5 ≤ R) (hw : 5 ≤ w.heap.size)
    (hno : ∀ v, Lib.atoiAll ((text.toList.drop n).takeWhile fun c => Sh.digitB c.toNat) ≠ .ok v) :
    Calls Tryz.prog 63 #[.pointer (some ⟨R, 0, none⟩)] w
      fun e w' => e = .panicked errChain ∧ w.grownBy w' (some R) := by
  have hcall := while_any 82 Sh.digitB digit_class digit_enters R n text w hr hn hs
  have hrt := runText Sh.digitB text n
  have hle := runLen_le Sh.digitB text n hn
  generalize runLen Sh.digitB text n = L at *
  have hsz : (text.extract n (n + L)).size ≤ 100000 := by rw [ByteArray.size_extract]; omega
  have hat : ∀ (W : World), Vars W → Calls Tryz.prog 83 #[.string (text.extract n (n + L))] W fun e w' => ∃ x N, e = .returned (.tuple #[.int .i64 x, .iface 139 (.pointer (some ⟨N, 0, none⟩))]) ∧ Below W.heap.size W w' := by
    intro W hV
    obtain ⟨⟨t1, p1, h1⟩, ⟨t2, p2, h2⟩⟩ := hV
    cases ha : Lib.atoiAll (text.extract n (n + L)).data.toList with
    | ok v => exact absurd ha (by rw [← ByteArray.toList_eq, hrt]; exact hno v)
    | range =>
      refine (Tryz.strconv_Atoi_range_var _ (by omega) ha t2 p2 W h2).mono ?_
      rintro e w' ⟨N, rfl, -, -, hb⟩
      exact ⟨_, N, rfl, hb⟩
    | _ =>
      refine (Any.strconv_Atoi_syntax_var Tryz.laysC172 _ (by omega) ha t1 p1 W h1).mono ?_
      rintro e w' ⟨N, rfl, -, -, hb⟩
      exact ⟨_, N, rfl, hb⟩
  have Hcall := Lib.hid hcall; clear hcall
  have Hat := Lib.hid hat; clear hat
  have Hno := Lib.hid hno; clear hno
  have Hrt := Lib.hid hrt; clear hrt
  go_enter Tryz.func63, Tryz.ntmps63
  go_wp2_with (first
    | (go_at_call 81; refine (Hcall.out).mono ?_; rintro e w1 ⟨rfl, hr1, hg1⟩)
    | (go_at_call 83; refine (Hat.out _ (hv.grown hg1 hR hw)).mono ?_; rintro e w2 ⟨x, N, rfl, hb2⟩))
  exact ⟨rfl, rfl, grownBy_trans hg1 (grownBy_of_below hb2 _)⟩

theorem head_bytes (s : ByteArray) (h : 0 < s.size) : s.toList.head? = some s[0] := by
  rw [List.head?_eq_getElem?, List.getElem?_eq_getElem (by rw [length_bytes]; exact h), get_bytes s 0 h]

set_option maxRecDepth 100000 in
set_option maxHeartbeats 400000 in
theorem number_val (R n : Nat) (text : ByteArray) (w : World) (hr : Rdr w R text n) (hn : n ≤ text.size) (hs : text.size ≤ 100000) (v : Int)
    (hv : Lib.atoiAll ((text.toList.drop n).takeWhile fun c => Sh.digitB c.toNat) = .ok v) :
    Calls Tryz.prog 63 #[.pointer (some ⟨R, 0, none⟩)] w
      fun e w' => w.grownBy w' (some R) ∧ match numP (text.toList.drop n) with
        | some v => e = .returned (.int .i64 v) ∧ Rdr w' R text (n + runLen Sh.digitB text n)
        | none => e = .panicked errChain := by
  have hcall := while_any 82 Sh.digitB digit_class digit_enters R n text w hr hn hs
  have hrt := runText Sh.digitB text n
  have hle := runLen_le Sh.digitB text n hn
  have hnp : numP (text.toList.drop n) = if 1 < ((text.toList.drop n).takeWhile fun c => Sh.digitB c.toNat).length ∧ ((text.toList.drop n).takeWhile fun c => Sh.digitB c.toNat).head? = some 48 then none else some v := by
    unfold numP; rw [hv]
  rw [← hrt] at hnp hv
  generalize runLen Sh.digitB text n = L at *
  have hsz : (text.extract n (n + L)).size ≤ 100000 := by rw [ByteArray.size_extract]; omega
  generalize hds : text.extract n (n + L) = ds at *
  have Hds := Lib.hid hds; clear hds
  have hat : ∀ W : World, Calls Tryz.prog 83 #[.string ds] W fun e w' => e = .returned (.tuple #[.int .i64 v, .nilIface]) ∧ Below W.heap.size W w' := fun W =>
    (Tryz.strconv_Atoi_ok ds (by omega) v (by rw [← ByteArray.toList_eq]; exact hv) W).mono fun e w' ⟨he, hw⟩ => ⟨he, by
      rcases hw with rfl | ⟨t, rfl⟩
      · exact Below.refl _ _
      · exact bytesWorld_below W _ t⟩
  rw [length_bytes] at hnp
  have Hrt := Lib.hid hrt; clear hrt
  have Hcall := Lib.hid hcall; clear hcall
  have Hat := Lib.hid hat; clear hat
  by_cases h1 : 1 < ds.size
  · have hpos : 0 < ds.size := by omega
    rw [head_bytes ds hpos] at hnp
    by_cases h0 : ds[0].toNat = 48
    · have h48 : ds[0] = 48 := by
        have := UInt8.toNat_inj.1 (show ds[0].toNat = (48 : UInt8).toNat from h0)
        exact this
      rw [if_pos ⟨h1, by rw [h48]⟩] at hnp
      rw [hnp]
      have Hnp := Lib.hid hnp; clear hnp
      have Hv := Lib.hid hv; clear hv
      have hb0 : ((ds[0].toNat : Int) == 48) = true := by rw [h0]; rfl
      have H0 := Lib.hid h0; clear h0
      have H48 := Lib.hid h48; clear h48
      go_enter Tryz.func63, Tryz.ntmps63
      go_wp2_with (first
        | (go_at_call 81; refine (Hcall.out).mono ?_; rintro e w1 ⟨rfl, hr1, hg1⟩)
        | (go_at_call 83; refine (Hat.out _).mono ?_; rintro e w2 ⟨rfl, hb2⟩))
      exact ⟨rfl, grownBy_trans hg1 (grownBy_of_below hb2 _), rfl⟩
    · have h48 : ¬ ds[0] = 48 := fun e => h0 (by rw [e]; rfl)
      rw [if_neg (by rintro ⟨-, h⟩; injection h with h; exact h48 h)] at hnp
      rw [hnp]
      have Hnp := Lib.hid hnp; clear hnp
      have Hv := Lib.hid hv; clear hv
      have hb0 : ((ds[0].toNat : Int) == 48) = false := by
        rw [beq_eq_false_iff_ne]; omega
      have H0 := Lib.hid h0; clear h0
      have H48 := Lib.hid h48; clear h48
      go_enter Tryz.func63, Tryz.ntmps63
      go_wp2_with (first
        | (go_at_call 81; refine (Hcall.out).mono ?_; rintro e w1 ⟨rfl, hr1, hg1⟩)
        | (go_at_call 83; refine (Hat.out _).mono ?_; rintro e w2 ⟨rfl, hb2⟩))
      go_ret
      exact ⟨grownBy_trans hg1 (grownBy_of_below hb2 _), rfl, Blk.below hr1 hb2 (Blk.lt hr1)⟩
  · rw [if_neg (by rintro ⟨h, -⟩; exact h1 h)] at hnp
    rw [hnp]
    have Hnp := Lib.hid hnp; clear hnp
    have Hv := Lib.hid hv; clear hv
    go_enter Tryz.func63, Tryz.ntmps63
    go_wp2_with (first
      | (go_at_call 81; refine (Hcall.out).mono ?_; rintro e w1 ⟨rfl, hr1, hg1⟩)
      | (go_at_call 83; refine (Hat.out _).mono ?_; rintro e w2 ⟨rfl, hb2⟩))
    go_ret
    exact ⟨grownBy_trans hg1 (grownBy_of_below hb2 _), rfl, Blk.below hr1 hb2 (Blk.lt hr1)⟩

/-- number: its value, or the panic. -/
theorem number_any (R n : Nat) (text : ByteArray) (w : World) (hr : Rdr w R text n) (hn : n ≤ text.size) (hs : text.size ≤ 100000) (hv : Vars w) (hR : 5 ≤ R) (hw : 5 ≤ w.heap.size) :
    Calls Tryz.prog 63 #[.pointer (some ⟨R, 0, none⟩)] w
      fun e w' => w.grownBy w' (some R) ∧ match numP (text.toList.drop n) with
        | some v => e = .returned (.int .i64 v) ∧ Rdr w' R text (n + runLen Sh.digitB text n)
        | none => e = .panicked errChain := by
  cases ha : Lib.atoiAll ((text.toList.drop n).takeWhile fun c => Sh.digitB c.toNat) with
  | ok v => exact number_val R n text w hr hn hs v ha
  | range =>
    have hnp : numP (text.toList.drop n) = none := by unfold numP; rw [ha]
    rw [hnp]
    exact (number_err R n text w hr hn hs hv hR hw (fun v h => by rw [ha] at h; cases h)).mono fun e w' ⟨he, hg⟩ => ⟨hg, he⟩
  | _ =>
    have hnp : numP (text.toList.drop n) = none := by unfold numP; rw [ha]
    rw [hnp]
    exact (number_err R n text w hr hn hs hv hR hw (fun v h => by rw [ha] at h; cases h)).mono fun e w' ⟨he, hg⟩ => ⟨hg, he⟩

set_option maxHeartbeats 400000 in
theorem alnumlit_any (c : Nat) (w : World) :
    Calls Tryz.prog 85 #[.int .u8 (c : Int)] w fun e w' => e = .returned (.bool (Sh.letterB c || Sh.digitB c)) ∧ w = w' := by
  cases hl : Sh.letterB c
  · have Hl := Lib.hid hl; clear hl
    go_enter Tryz.func85, Tryz.ntmps85
    go_wp2_with (first
      | (go_at_call 86; refine (letter_any _ _).mono ?_; rw [Hl.out]; rintro e w' ⟨rfl, rfl⟩)
      | (go_at_call 82; refine (digit_any _ _).mono ?_; rintro e w' ⟨rfl, rfl⟩))
    go_ret
    exact ⟨rfl, rfl⟩
  · have Hl := Lib.hid hl; clear hl
    go_enter Tryz.func85, Tryz.ntmps85
    go_wp2_with (go_at_call 86; refine (letter_any _ _).mono ?_; rw [Hl.out]; rintro e w' ⟨rfl, rfl⟩)
    go_ret
    exact ⟨rfl, rfl⟩
theorem alnum_class : Class 85 (fun c => Sh.letterB c || Sh.digitB c) := fun c W => alnumlit_any c W
theorem alnum_enters : ∀ args w, (callFunc 85 args).run Tryz.prog w = .ok (.enter 85 args) w := enters_of Tryz.func85 (by kernel_rfl) rfl

end Go.Proofs.YtelememdhpncgaaGreatDoor

/-
  Words for memory that the call itself makes: a slice, tuples, relations in blocks from L on.
-/
namespace Go.Proofs.YtelememdhpncgaaGreatDoor
open Go.RowKit

/-- From block L on, as far as there were blocks, w' is as w was, but for block R; the streams are as they were. -/
structure But (L R : Nat) (w w' : World) : Prop where
  os : w'.os = w.os
  tape : w'.tape = w.tape
  output : w'.output = w.output
  size : w.heap.size ≤ w'.heap.size
  block : ∀ k, k < L → k ≠ R → w'.heap[k]? = w.heap[k]?
theorem But.refl (L R : Nat) (w : World) : But L R w w := ⟨rfl, rfl, rfl, Nat.le_refl _, fun _ _ _ => rfl⟩
theorem But.trans {L R : Nat} {a b c : World} (h : But L R a b) (k : But L R b c) : But L R a c :=
  ⟨k.os.trans h.os, k.tape.trans h.tape, k.output.trans h.output, Nat.le_trans h.size k.size, fun i hi hr => (k.block i hi hr).trans (h.block i hi hr)⟩
theorem But.of_grown {L R : Nat} {w w' : World} (h : w.grownBy w' (some R)) (hL : L ≤ w.heap.size) : But L R w w' :=
  ⟨h.os, h.tape, h.output, h.size, fun k hk hr => h.block k (by omega) (fun e => hr (by injection e))⟩
theorem But.grown {R : Nat} {w w' : World} (h : But w.heap.size R w w') : w.grownBy w' (some R) :=
  ⟨h.os, h.tape, h.output, h.size, fun k hk hr => h.block k hk (fun e => hr (by rw [e]))⟩
theorem But.row {L R : Nat} {w w' : World} {row : Option Nat} (h : w.grownBy w' row) (hL : L ≤ w.heap.size) (hr : ∀ g, row = some g → L ≤ g) : But L R w w' :=
  ⟨h.os, h.tape, h.output, h.size, fun k hk _ => h.block k (by omega) (fun e => by have := hr k e.symm; omega)⟩
theorem But.alloc {L R : Nat} {w : World} (hL : L ≤ w.heap.size) (o : Obj) : But L R w (w.alloc o) := But.row (World.grownBy_alloc w o none) hL (by simp)
theorem But.mono {L L' R : Nat} {w w' : World} (h : But L R w w') (hL : L' ≤ L) : But L' R w w' := ⟨h.os, h.tape, h.output, h.size, fun k hk hr => h.block k (by omega) hr⟩
theorem But.setR {L R : Nat} {w : World} (o : Nat) (u : Value) : But L R w (w.setCell ⟨R, o, none⟩ u) :=
  ⟨rfl, rfl, rfl, by simp [World.setCell], fun k _ hr => Below.heap_setCell _ _ _ _ hr⟩
theorem But.setL {L R : Nat} {w : World} {p : Addr} (hp : L ≤ p.block) (u : Value) : But L R w (w.setCell p u) :=
  ⟨rfl, rfl, rfl, by simp [World.setCell], fun k hk _ => Below.heap_setCell _ _ _ _ (by omega)⟩
theorem But.drewN {L R : Nat} {w : World} (n : Nat) : But L R w (w.drewN n) := ⟨rfl, rfl, rfl, Nat.le_refl _, fun _ _ _ => rfl⟩
theorem But.below {L R : Nat} {w w' : World} (h : But L R w w') (hL : L ≤ R) : Below L w w' := ⟨h.os, h.tape, h.output, h.size, fun k hk => h.block k hk (by omega)⟩

/-- w' keeps the rows of these types from block L on. -/
def Keeps (L : Nat) (ts : List TypeId) (w w' : World) : Prop :=
  w.heap.size ≤ w'.heap.size ∧ ∀ (b : Nat) (cs : Array Value) (t : TypeId), L ≤ b → t ∈ ts → w.heap[b]? = some (.cells cs t (0, 0)) → w'.heap[b]? = w.heap[b]?
theorem heap_lt {w : World} {b : Nat} {o : Obj} (h : w.heap[b]? = some o) : b < w.heap.size := (Array.getElem?_eq_some_iff.1 h).1
theorem Keeps.of_grown {L R : Nat} {ts : List TypeId} {w w' : World} (h : w.grownBy w' (some R)) (hR : R < L) : Keeps L ts w w' :=
  ⟨h.size, fun b cs t hb _ hh => h.block b (heap_lt hh) (fun e => by injection e with e; omega)⟩
theorem Keeps.of_below {L : Nat} {ts : List TypeId} {w w' : World} (h : Below w.heap.size w w') : Keeps L ts w w' := ⟨h.size, fun b cs t _ _ hh => h.block b (heap_lt hh)⟩
theorem Keeps.alloc (L : Nat) (ts : List TypeId) (w : World) (o : Obj) : Keeps L ts w (w.alloc o) := ⟨by simp, fun b cs t _ _ hh => Below.heap_alloc w o b (heap_lt hh)⟩
theorem Keeps.drewN (L : Nat) (ts : List TypeId) (w : World) (n : Nat) : Keeps L ts w (w.drewN n) := ⟨Nat.le_refl _, fun _ _ _ _ _ _ => rfl⟩
theorem Keeps.refl (L : Nat) (ts : List TypeId) (w : World) : Keeps L ts w w := ⟨Nat.le_refl _, fun _ _ _ _ _ _ => rfl⟩
theorem Keeps.trans {L : Nat} {ts : List TypeId} {a b c : World} (h : Keeps L ts a b) (k : Keeps L ts b c) : Keeps L ts a c :=
  ⟨Nat.le_trans h.1 k.1, fun i cs t hi ht hh => by
    have e := h.2 i cs t hi ht hh
    exact (k.2 i cs t hi ht (e.trans hh)).trans e⟩
theorem Keeps.mono {L : Nat} {ts us : List TypeId} {w w' : World} (h : Keeps L ts w w') (hs : ∀ t, t ∈ us → t ∈ ts) : Keeps L us w w' := ⟨h.1, fun b cs t hb ht hh => h.2 b cs t hb (hs t ht) hh⟩
theorem Keeps.more {L L' : Nat} {ts : List TypeId} {w w' : World} (h : Keeps L ts w w') (hL : L ≤ L') : Keeps L' ts w w' := ⟨h.1, fun b cs t hb ht hh => h.2 b cs t (by omega) ht hh⟩
/-- Only a row of another type has been written. -/
theorem Keeps.row {L : Nat} {ts : List TypeId} {w w' : World} {row : Option Nat} (h : w.grownBy w' row) (hr : ∀ g, row = some g → ∃ cs t f, w.heap[g]? = some (.cells cs t f) ∧ t ∉ ts) : Keeps L ts w w' :=
  ⟨h.size, fun b cs t _ ht hh => h.block b (heap_lt hh) (fun e => by
    obtain ⟨cs', t', f', h1, h2⟩ := hr b e.symm
    rw [hh] at h1
    injection h1 with h1
    injection h1 with _ h1
    exact h2 (h1 ▸ ht))⟩
theorem Keeps.own {L base : Nat} {ts : List TypeId} {w w' : World} {e : TypeId} {size n : Nat} {v : Value} {xs : List Value} (h : w.grownBy w' v.ownBlock) (ho : w.ownsRow base e size v n xs) (he : e ∉ ts) : Keeps L ts w w' :=
  Keeps.row h fun g hg => by
    rcases ho.2 with ⟨rfl, _⟩ | ⟨g', cap, cur, rfl, _, hh, _⟩
    · cases hg
    · injection hg with hg
      subst hg
      exact ⟨cur, e, _, hh, he⟩
theorem Keeps.setCell {L : Nat} {ts : List TypeId} {w : World} {p : Addr} {cs : Array Value} {t : TypeId} {f : Nat × Nat} (hp : w.heap[p.block]? = some (.cells cs t f)) (ht : t ∉ ts) (u : Value) : Keeps L ts w (w.setCell p u) :=
  ⟨by simp [World.setCell], fun b cs' t' _ ht' hh => Below.heap_setCell w p u b (fun e => by
    subst e
    rw [hh] at hp
    injection hp with hp
    injection hp with _ hp
    exact ht (hp ▸ ht'))⟩

def NInts (w : World) (L : Nat) (v : Value) (t : List Int) : Prop :=
  ∃ A n c, v = .slice A n c ∧ n = t.length ∧ n ≤ 140737488351232 ∧
    (0 < n → ∃ ad cs, A = some ad ∧ L ≤ ad.block ∧ w.heap[ad.block]? = some (.cells cs 3 (0, 0)) ∧ ∀ (j : Nat) (x : Int), t[j]? = some x → w.cell? (ad.add j) = some (Value.int .i64 x)) ∧ ∃ xs, w.ownsRow L 3 1 v n xs
def NTups (w : World) (L : Nat) (v : Value) (ts : List (List Int)) : Prop :=
  ∃ A n c, v = .slice A n c ∧ n = ts.length ∧ n ≤ 140737488351232 ∧
    (0 < n → ∃ ad cs, A = some ad ∧ L ≤ ad.block ∧ w.heap[ad.block]? = some (.cells cs 25 (0, 0)) ∧ ∀ (j : Nat) (t : List Int), ts[j]? = some t → ∃ u, w.cell? (ad.add j) = some u ∧ NInts w L u t) ∧ ∃ xs, w.ownsRow L 25 1 v n xs
def NRels (w : World) (L : Nat) (v : Value) (rs : List Sh.Rel) : Prop :=
  ∃ A n c, v = .slice A n c ∧ n = rs.length ∧ n ≤ 140737488351232 ∧
    (0 < n → ∃ ad cs, A = some ad ∧ L ≤ ad.block ∧ w.heap[ad.block]? = some (.cells cs 57 (0, 0)) ∧ ∀ (j : Nat) (r : Sh.Rel), rs[j]? = some r → ∃ u, w.cell? (ad.add (j * 3)) = some (.string r.name) ∧
      w.cell? (ad.add (j * 3 + 1)) = some (.int .i64 r.arity) ∧ w.cell? (ad.add (j * 3 + 2)) = some u ∧ NTups w L u r.tuples ∧ r.name.size ≤ 140737488351232) ∧ ∃ xs, w.ownsRow L 57 3 v n xs

theorem own_base {w : World} {base base' n size : Nat} {e : TypeId} {v : Value} {xs : List Value} (h : w.ownsRow base e size v n xs) (hb : base' ≤ base) : w.ownsRow base' e size v n xs := by
  rcases h with ⟨h1, h2 | ⟨g, cap, cur, e1, e2, h3⟩⟩
  · exact ⟨h1, .inl h2⟩
  · exact ⟨h1, .inr ⟨g, cap, cur, e1, by omega, h3⟩⟩
theorem own_keeps {w w' : World} {L base n size : Nat} {e : TypeId} {ts : List TypeId} {v : Value} {xs : List Value} (h : w.ownsRow base e size v n xs) (hk : Keeps L ts w w') (hL : L ≤ base) (he : e ∈ ts) : w'.ownsRow base e size v n xs := by
  rcases h with ⟨h1, h2 | ⟨g, cap, cur, e1, e2, h3, h4⟩⟩
  · exact ⟨h1, .inl h2⟩
  · exact ⟨h1, .inr ⟨g, cap, cur, e1, e2, (hk.2 g cur e (by omega) he h3).trans h3, h4⟩⟩
section
variable {w w' : World} {L L' : Nat} {v : Value}
theorem NInts.keep {t : List Int} (h : NInts w L v t) (hk : Keeps L [3] w w') : NInts w' L v t := by
  obtain ⟨A, n, c, h1, h2, h3, h4, xs, hx⟩ := h
  refine ⟨A, n, c, h1, h2, h3, fun hn => ?_, xs, own_keeps hx hk (Nat.le_refl _) (by simp)⟩
  obtain ⟨ad, cs, e, hl, hb, hc⟩ := h4 hn
  have hs := hk.2 _ _ _ hl (by simp) hb
  exact ⟨ad, cs, e, hl, hs.trans hb, fun j x hx => (World.cell?_of_block (by rw [block_of_add]; exact hs)).trans (hc j x hx)⟩
theorem NTups.keep {ts : List (List Int)} (h : NTups w L v ts) (hk : Keeps L [3, 25] w w') : NTups w' L v ts := by
  obtain ⟨A, n, c, h1, h2, h3, h4, xs, hx⟩ := h
  refine ⟨A, n, c, h1, h2, h3, fun hn => ?_, xs, own_keeps hx hk (Nat.le_refl _) (by simp)⟩
  obtain ⟨ad, cs, e, hl, hb, hc⟩ := h4 hn
  have hs := hk.2 _ _ _ hl (by simp) hb
  refine ⟨ad, cs, e, hl, hs.trans hb, fun j t ht => ?_⟩
  obtain ⟨u, hu, hi⟩ := hc j t ht
  exact ⟨u, (World.cell?_of_block (by rw [block_of_add]; exact hs)).trans hu, hi.keep (hk.mono (by simp))⟩
theorem NRels.keep {rs : List Sh.Rel} (h : NRels w L v rs) (hk : Keeps L [3, 25, 57] w w') : NRels w' L v rs := by
  obtain ⟨A, n, c, h1, h2, h3, h4, xs, hx⟩ := h
  refine ⟨A, n, c, h1, h2, h3, fun hn => ?_, xs, own_keeps hx hk (Nat.le_refl _) (by simp)⟩
  obtain ⟨ad, cs, e, hl, hb, hc⟩ := h4 hn
  have hs := hk.2 _ _ _ hl (by simp) hb
  refine ⟨ad, cs, e, hl, hs.trans hb, fun j r hr => ?_⟩
  obtain ⟨u, g0, g1, g2, hi, hz⟩ := hc j r hr
  have hkc : ∀ i, w'.cell? (ad.add i) = w.cell? (ad.add i) := fun i => World.cell?_of_block (by rw [block_of_add]; exact hs)
  exact ⟨u, (hkc _).trans g0, (hkc _).trans g1, (hkc _).trans g2, hi.keep (hk.mono (by simp)), hz⟩
theorem NInts.ints {t : List Int} (h : NInts w L v t) : Ints w w.heap.size v t := by
  obtain ⟨A, n, c, h1, h2, h3, h4, -⟩ := h
  refine ⟨A, n, c, h1, h2, h3, by simp [h2], fun hn => ?_⟩
  obtain ⟨ad, cs, e, hl, hb, hc⟩ := h4 hn
  refine ⟨ad, e, heap_lt hb, fun j u hu => ?_⟩
  rw [List.getElem?_map] at hu
  cases hx : t[j]? with
  | none => rw [hx] at hu; cases hu
  | some x => rw [hx] at hu; exact (hc j x hx).trans hu
theorem NTups.tups {ts : List (List Int)} (h : NTups w L v ts) : Tups w w.heap.size v ts := by
  obtain ⟨A, n, c, h1, h2, h3, h4, -⟩ := h
  refine ⟨A, n, c, h1, h2, h3, fun hn => ?_⟩
  obtain ⟨ad, cs, e, hl, hb, hc⟩ := h4 hn
  refine ⟨ad, e, heap_lt hb, fun j t ht => ?_⟩
  obtain ⟨u, hu, hi⟩ := hc j t ht
  exact ⟨u, hu, hi.ints⟩
theorem NRels.rels {rs : List Sh.Rel} (h : NRels w L v rs) : Rels w w.heap.size v rs := by
  obtain ⟨A, n, c, h1, h2, h3, h4, -⟩ := h
  refine ⟨A, n, c, h1, h2, h3, fun hn => ?_⟩
  obtain ⟨ad, cs, e, hl, hb, hc⟩ := h4 hn
  refine ⟨ad, e, heap_lt hb, fun j r hr => ?_⟩
  obtain ⟨u, g0, g1, g2, hi, hz⟩ := hc j r hr
  exact ⟨u, g0, g1, g2, hi.tups, hz⟩
theorem NInts.more {t : List Int} (h : NInts w L v t) (hL : L' ≤ L) : NInts w L' v t := by
  obtain ⟨A, n, c, h1, h2, h3, h4, xs, hx⟩ := h
  refine ⟨A, n, c, h1, h2, h3, fun hn => ?_, xs, own_base hx hL⟩
  obtain ⟨ad, cs, e, hl, hb, hc⟩ := h4 hn
  exact ⟨ad, cs, e, by omega, hb, hc⟩
theorem NTups.more {ts : List (List Int)} (h : NTups w L v ts) (hL : L' ≤ L) : NTups w L' v ts := by
  obtain ⟨A, n, c, h1, h2, h3, h4, xs, hx⟩ := h
  refine ⟨A, n, c, h1, h2, h3, fun hn => ?_, xs, own_base hx hL⟩
  obtain ⟨ad, cs, e, hl, hb, hc⟩ := h4 hn
  refine ⟨ad, cs, e, by omega, hb, fun j t ht => ?_⟩
  obtain ⟨u, hu, hi⟩ := hc j t ht
  exact ⟨u, hu, hi.more hL⟩
theorem NRels.more {rs : List Sh.Rel} (h : NRels w L v rs) (hL : L' ≤ L) : NRels w L' v rs := by
  obtain ⟨A, n, c, h1, h2, h3, h4, xs, hx⟩ := h
  refine ⟨A, n, c, h1, h2, h3, fun hn => ?_, xs, own_base hx hL⟩
  obtain ⟨ad, cs, e, hl, hb, hc⟩ := h4 hn
  refine ⟨ad, cs, e, by omega, hb, fun j r hr => ?_⟩
  obtain ⟨u, g0, g1, g2, hi, hz⟩ := hc j r hr
  exact ⟨u, g0, g1, g2, hi.more hL, hz⟩
theorem NInts.nil (w : World) (L : Nat) : NInts w L (.slice none 0 0) [] := ⟨_, _, _, rfl, rfl, by omega, fun h => absurd h (by omega), [], World.ownsRow_nil _ _ _ _⟩
theorem NTups.nil (w : World) (L : Nat) : NTups w L (.slice none 0 0) [] := ⟨_, _, _, rfl, rfl, by omega, fun h => absurd h (by omega), [], World.ownsRow_nil _ _ _ _⟩
theorem NRels.nil (w : World) (L : Nat) : NRels w L (.slice none 0 0) [] := ⟨_, _, _, rfl, rfl, by omega, fun h => absurd h (by omega), [], World.ownsRow_nil _ _ _ _⟩

theorem own_slice {base : Nat} {e : TypeId} {size n : Nat} {xs : List Value} (h : w.ownsRow base e size v n xs) : ∃ A c, v = .slice A n c := by
  rcases h.2 with ⟨rfl, rfl⟩ | ⟨g, cap, cur, rfl, _⟩
  · exact ⟨_, _, rfl⟩
  · exact ⟨_, _, rfl⟩
theorem own_at {base : Nat} {e : TypeId} {size n : Nat} {xs : List Value} {A : Option Addr} {c : Nat} (h : w.ownsRow base e size (.slice A n c) n xs) (hn : 0 < n) :
    ∃ ad cs, A = some ad ∧ base ≤ ad.block ∧ w.heap[ad.block]? = some (.cells cs e (0, 0)) ∧ ∀ (j : Nat) (u : Value), xs[j]? = some u → w.cell? (ad.add j) = some u := by
  rcases h.2 with ⟨h0, hz⟩ | ⟨g, cap, cur, hv, hbg, hh, _⟩
  · omega
  · injection hv with e1 e2 e3
    subst e1
    exact ⟨_, cur, rfl, hbg, hh, h.cells (g := g) rfl⟩
theorem NInts.own {base : Nat} {n : Nat} {t : List Int} (h : w.ownsRow base 3 1 v n (t.map (Value.int .i64))) (hL : L ≤ base) (hn : n ≤ 140737488351232) : NInts w L v t := by
  obtain ⟨A, c, rfl⟩ := own_slice h
  have hl := h.1
  rw [List.length_map, Nat.mul_one] at hl
  refine ⟨A, n, c, rfl, hl.symm, hn, fun h0 => ?_, _, own_base h hL⟩
  obtain ⟨ad, cs, rfl, h1, h2, h3⟩ := own_at h h0
  exact ⟨ad, cs, rfl, by omega, h2, fun j x hx => h3 j _ (by rw [List.getElem?_map, hx]; rfl)⟩
theorem own_grown {base R : Nat} {e : TypeId} {size n : Nat} {xs : List Value} (h : w.ownsRow base e size v n xs) (hg : w.grownBy w' (some R)) (hR : R < base) : w'.ownsRow base e size v n xs := by
  refine h.kept hg ?_
  cases ho : v.ownBlock with
  | none => exact .inl rfl
  | some g => exact .inr (fun e => by injection e with e; have := (h.lt g ho).1; omega)
/-- A row of slice values, each a tuple of the call's own. -/
theorem NTups.own {base : Nat} {n : Nat} {us : List Value} {ts : List (List Int)} (h : w.ownsRow base 25 1 v n us) (hL : L ≤ base) (hn : n ≤ 140737488351232) (hlen : us.length = ts.length)
    (hu : ∀ (j : Nat) (u : Value) (t : List Int), us[j]? = some u → ts[j]? = some t → NInts w L u t) : NTups w L v ts := by
  obtain ⟨A, c, rfl⟩ := own_slice h
  have hl := h.1
  rw [Nat.mul_one] at hl
  refine ⟨A, n, c, rfl, by omega, hn, fun h0 => ?_, _, own_base h hL⟩
  obtain ⟨ad, cs, rfl, h1, h2, h3⟩ := own_at h h0
  refine ⟨ad, cs, rfl, by omega, h2, fun j t ht => ?_⟩
  have hj : j < us.length := by have := (List.getElem?_eq_some_iff.1 ht).1; omega
  exact ⟨us[j], h3 j _ (List.getElem?_eq_getElem hj), hu j _ t (List.getElem?_eq_getElem hj) ht⟩
end

end Go.Proofs.YtelememdhpncgaaGreatDoor

/-
  Walks: shape.Power.
-/
namespace Go.Proofs.YtelememdhpncgaaGreatDoor
open Go.RowKit

set_option maxHeartbeats 400000 in
theorem power_arg (n k : Int) (w : World) (h : n < 1 ∨ 64 < n ∨ k < 0 ∨ 12 < k) :
    Calls Tryz.prog 49 #[.int .i64 n, .int .i64 k] w fun e w' => e = .returned (.tuple #[.int .i64 0, .int .i64 2]) ∧ w = w' := by
  have h4 : ¬ (n ≥ 1 ∧ n ≤ 64 ∧ k ≥ 0 ∧ k ≤ 12) := by omega
  clear h
  by_cases h1 : n < 1
  · go_enter Tryz.func49, Tryz.ntmps49
    go_wp2
    go_ret2
    exact ⟨rfl, rfl⟩
  · by_cases h2 : 64 < n
    · go_enter Tryz.func49, Tryz.ntmps49
      go_wp2
      go_ret2
      exact ⟨rfl, rfl⟩
    · by_cases h3 : k < 0
      · go_enter Tryz.func49, Tryz.ntmps49
        go_wp2
        go_ret2
        exact ⟨rfl, rfl⟩
      · have h5 : 12 < k := by omega
        go_enter Tryz.func49, Tryz.ntmps49
        go_wp2
        go_ret2
        exact ⟨rfl, rfl⟩

set_option maxHeartbeats 400000 in
theorem power_in (n k : Nat) (w : World) (h1 : 1 ≤ n) (h2 : n ≤ 64) (h3 : k ≤ 12) :
    Calls Tryz.prog 49 #[.int .i64 n, .int .i64 k] w fun e w' => e = .returned (.tuple #[.int .i64 (Sh.powE n k).1, .int .i64 (Sh.powE n k).2]) ∧ w = w' := by
  go_enter Tryz.func49, Tryz.ntmps49
  go_wp2
  go_loop [6, 22] (fun p i => ∃ j : Nat, j ≤ k ∧ i = .int .i64 j ∧ p = .int .i64 ((n ^ j : Nat) : Int) ∧ n ^ j ≤ 4096) (fun _ i => k - (intOf i).toNat)
  case atStart => exact ⟨0, Nat.zero_le _, rfl, rfl, by simp⟩
  case round =>
    obtain ⟨j, hj, rfl, rfl, hp⟩ := hrel
    by_cases hlt : j < k
    · have hs : n ^ (j + 1) = n ^ j * n := Nat.pow_succ ..
      have hb : n ^ j * n ≤ 4096 * 64 := Nat.mul_le_mul hp h2
      have hover := @Sh.powE_size n k h1 h2 h3
      have hpo := @Sh.pow_over n k (j + 1) h1 hlt
      have hQ : ∃ Q, n ^ (j + 1) = Q := ⟨_, rfl⟩
      obtain ⟨Q, hQ⟩ := hQ
      rw [hQ] at hs hpo
      have HQ := Lib.hid hQ; clear hQ
      generalize n ^ j = P at *
      have Hs := Lib.hid hs; clear hs
      have Ho := Lib.hid hover; clear hover
      have Hp := Lib.hid hpo; clear hpo
      by_cases hbig : 4096 < P * n
      · go_wp2
        go_ret2
        rw [Ho.out (Hp.out (by rw [Hs.out]; exact hbig))]
        exact ⟨rfl, rfl⟩
      · go_wp2
        go_round
        case rel => exact ⟨j + 1, by omega, by go_num, by rw [HQ.out, Hs.out]; push_cast; rfl, by rw [HQ.out, Hs.out]; omega⟩
        case measure => simp [intOf]; omega
    · obtain rfl : j = k := by omega
      have hok := Sh.powE_ok h1 h2 h3 hp
      have Hok := Lib.hid hok; clear hok
      go_wp2
      go_ret2
      rw [Hok.out]
      exact ⟨rfl, rfl⟩

theorem power_any (n k : Int) (w : World) :
    Calls Tryz.prog 49 #[.int .i64 n, .int .i64 k] w fun e w' => e = .returned (.tuple #[.int .i64 (Sh.powE n k).1, .int .i64 (Sh.powE n k).2]) ∧ w = w' := by
  by_cases h : n < 1 ∨ 64 < n ∨ k < 0 ∨ 12 < k
  · rw [Sh.powE_arg h]; exact power_arg n k w h
  · obtain ⟨a, rfl⟩ := Int.eq_ofNat_of_zero_le (show 0 ≤ n by omega)
    obtain ⟨b, rfl⟩ := Int.eq_ofNat_of_zero_le (show 0 ≤ k by omega)
    exact power_in a b w (by omega) (by omega) (by omega)

end Go.Proofs.YtelememdhpncgaaGreatDoor

/-
  Walks: shape.Rank, the reference's Pow, Power and Rank.
-/
namespace Go.Proofs.YtelememdhpncgaaGreatDoor
open Go.RowKit

set_option maxHeartbeats 400000 in
theorem rank_any (n : Int) (v : Value) (t : List Int) (w : World) (B : Nat) (h : Ints w B v t) :
    Calls Tryz.prog 24 #[.int .i64 n, v] w fun e w' => e = .returned (.tuple #[.int .i64 (Sh.rankE n t).1, .int .i64 (Sh.rankE n t).2]) ∧ w = w' := by
  have h' := h
  obtain ⟨A, len, c, rfl, hlen, hmax, -⟩ := h'
  subst hlen
  have hpc := Sh.powE_cases n t.length
  have hdef : Sh.rankE n t = if (Sh.powE n t.length).2 ≠ 0 then (0, (Sh.powE n t.length).2) else if Sh.inB n t = false then (0, 2) else (Sh.rankI n t, 0) := rfl
  rcases hpc with ⟨h1, h2⟩ | ⟨a, b, rfl, hb, ha1, ha2, hb2, hp, hok⟩
  · rw [if_pos h1] at hdef
    generalize hpe : Sh.powE n t.length = pe at *
    obtain ⟨p1, p2⟩ := pe
    simp only at h1 h2 hdef
    subst h2
    have Hpe := Lib.hid hpe; clear hpe
    have Hdef := Lib.hid hdef; clear hdef
    go_enter Tryz.func24, Tryz.ntmps24
    go_wp2_with (go_at_call 49; refine (power_any _ _ _).mono ?_; rw [Hpe.out]; rintro e w' ⟨rfl, rfl⟩)
    go_ret2
    rw [Hdef.out]
    exact ⟨rfl, rfl⟩
  · have hbt : b = t.length := by omega
    subst hbt
    rw [hok] at hdef
    have Hok := Lib.hid hok; clear hok hb
    cases hin : Sh.inB a t
    · rw [if_neg (by simp), if_pos hin] at hdef
      have Hin := Lib.hid hin; clear hin
      have Hdef := Lib.hid hdef; clear hdef
      go_enter Tryz.func24, Tryz.ntmps24
      go_wp2_with (first | (go_at_call 49; refine (power_any _ _ _).mono ?_; rw [Hok.out]; rintro e w' ⟨rfl, rfl⟩) | (go_at_call 38; refine (elements_any _ t _ _ B h).mono ?_; rw [Hin.out]; rintro e w' ⟨rfl, rfl⟩))
      go_ret2
      rw [Hdef.out]
      exact ⟨rfl, rfl⟩
    · rw [if_neg (by simp), if_neg (by simp [hin])] at hdef
      have hbd := Sh.rank_bd a t hin
      have hget := fun k => @Sh.inB_getD a t hin k
      have Hin := Lib.hid hin; clear hin
      have Hdef := Lib.hid hdef; clear hdef
      have Hbd := Lib.hid hbd; clear hbd
      have Hget := Lib.hid hget; clear hget
      have Hp := Lib.hid hp; clear hp
      go_enter Tryz.func24, Tryz.ntmps24
      go_wp2_with (first | (go_at_call 49; refine (power_any _ _ _).mono ?_; rw [Hok.out]; rintro e w' ⟨rfl, rfl⟩) | (go_at_call 38; refine (elements_any _ t _ _ B h).mono ?_; rw [Hin.out]; rintro e w' ⟨rfl, rfl⟩))
      go_loop [8, 27] (fun r i => ∃ k : Nat, k ≤ t.length ∧ i = .int .i64 k ∧ r = .int .i64 (Sh.rankI a (t.take k))) (fun _ i => t.length - (intOf i).toNat)
      case atStart => exact ⟨0, Nat.zero_le _, rfl, rfl⟩
      case round =>
        obtain ⟨k, hk, rfl, rfl⟩ := hrel
        by_cases hlt : k < t.length
        · obtain ⟨ad, rfl, hb, hc⟩ := h.at_ hlt
          have hs := Sh.rank_take_succ a t k hlt
          obtain ⟨hx0, hx1⟩ := Hget.out k hlt
          have hr := Hbd.out k
          have hrn : Sh.rankI a (t.take k) * a + t.getD k 0 < 4096 ∧ 0 ≤ Sh.rankI a (t.take k) * a ∧ Sh.rankI a (t.take k) < 4096 := by
            have h4 := Hbd.out (k + 1)
            rw [hs, Nat.min_eq_left (by omega)] at h4
            have h5 : a ^ (k + 1) ≤ 4096 := Nat.le_trans (Nat.pow_le_pow_right ha1 hlt) Hp.out
            have h6 : a ^ (min k t.length) ≤ 4096 := Nat.le_trans (Nat.pow_le_pow_right ha1 (by omega)) Hp.out
            have h7 : 0 ≤ Sh.rankI a (t.take k) * a := Int.mul_nonneg hr.1 (by omega)
            refine ⟨?_, h7, ?_⟩ <;> omega
          have hr0 := hr.1
          clear hr
          obtain ⟨hr1, hr2, hr3⟩ := hrn
          have Hs := Lib.hid hs; clear hs
          generalize t.getD k 0 = x at *
          generalize hR : Sh.rankI a (t.take k) = R at *
          have HR := Lib.hid hR; clear hR
          go_wp2
          go_round
          case rel => exact ⟨k + 1, by omega, by go_num, by rw [Hs.out]⟩
          case measure => simp [intOf]; omega
        · have hfull : t.take k = t := List.take_of_length_le (by omega)
          rw [hfull]
          clear hfull
          go_wp2
          go_ret2
          rw [Hdef.out]
          exact ⟨rfl, rfl⟩

set_option maxHeartbeats 400000 in
theorem refpow_any (n k : Nat) (w : World) (h2 : n ≤ 64) (h3 : k ≤ 1000000) :
    Calls Tryz.prog 51 #[.int .i64 n, .int .i64 k] w fun e w' => e = .returned (.int .i64 (Sh.powR n k)) ∧ w = w' := by
  go_enter Tryz.func51, Tryz.ntmps51
  go_wp2
  go_loop [5, 6] (fun p i => ∃ j : Nat, j ≤ k ∧ i = .int .i64 j ∧ p = .int .i64 (Sh.powR n j : Nat)) (fun _ i => k - (intOf i).toNat)
  case atStart => exact ⟨0, Nat.zero_le _, rfl, rfl⟩
  case round =>
    obtain ⟨j, hj, rfl, rfl⟩ := hrel
    have hbd := Sh.powR_bd n j h2
    by_cases hlt : j < k
    · by_cases hp : Sh.powR n j ≤ 4096
      · have hs := Sh.powR_succ hp
        have hm : Sh.powR n j * n ≤ 4096 * 64 := Nat.mul_le_mul hp h2
        have Hs := Lib.hid hs; clear hs
        generalize hP : Sh.powR n j = P at *
        have HP := Lib.hid hP; clear hP
        go_wp2
        go_round
        case rel => exact ⟨j + 1, by omega, by go_num, by rw [Hs.out]; push_cast; rfl⟩
        case measure => simp [intOf]; omega
      · have hs := Sh.powR_stay (n := n) (i := j) (k := k) (by omega) hj
        have Hs := Lib.hid hs; clear hs
        generalize hP : Sh.powR n j = P at *
        have HP := Lib.hid hP; clear hP
        go_wp2
        go_ret
        exact ⟨ret_int (by rw [Hs.out]), rfl⟩
    · obtain rfl : j = k := by omega
      go_wp2
      go_ret
      exact ⟨rfl, rfl⟩

end Go.Proofs.YtelememdhpncgaaGreatDoor

/-
  Walks: shape.Tuple, the reference's Tuple.
-/
namespace Go.Proofs.YtelememdhpncgaaGreatDoor
open Go.RowKit

theorem int_info : (Tryz.prog.info? 3).map (fun i => (i.zero, i.size, i.bytes)) = some (some (.int .i64 0), 1, 8) := by kernel_rfl

/-- A row of zeros, as make lays it. -/
def zrow (k : Nat) : Array Value := madeCells #[.int .i64 0] k
theorem zrow_size (k : Nat) : (zrow k).size = k := size_madeCells _ _
theorem make_ints (k : Nat) (hk : k ≤ 1000000) (w : World) :
    (Instr.makeSlice 25 (.int .i64 (k : Int)) (.int .i64 (k : Int))).run Tryz.prog w = .ok (.slice (some ⟨w.heap.size, 0, none⟩) k k) (w.alloc (.cells (zrow k) 3)) := by
  obtain ⟨i0, hi, hz0, hz1, hz2⟩ := info_parts int_info
  have h := run_make_rowN (P := Tryz.prog) 25 3 i0 (.int .i64 0) Tryz.underlying25 hi hz0 .i64 .i64 k k (Nat.le_refl _) (by rw [hz2]; omega) (by omega) w
  rw [hz1, Nat.mul_one] at h
  exact h

theorem Ints.nil (w : World) (B : Nat) : Ints w B (.slice none 0 0) [] := ⟨_, _, _, rfl, rfl, by omega, Reads.none_⟩

set_option maxRecDepth 100000 in
set_option maxHeartbeats 400000 in
theorem tuple_any (n k r : Int) (w : World) :
    Calls Tryz.prog 25 #[.int .i64 n, .int .i64 k, .int .i64 r] w fun e w' => ∃ v, e = .returned (.tuple #[v, .int .i64 (Sh.tupE n k r).2]) ∧ Ints w' w'.heap.size v (Sh.tupE n k r).1 ∧ Below w.heap.size w w' := by
  have hpc := Sh.powE_cases n k
  have hdef : Sh.tupE n k r = if (Sh.powE n k).2 ≠ 0 then ([], (Sh.powE n k).2) else if r < 0 ∨ (Sh.powE n k).1 ≤ r then ([], 2) else (Sh.tupN n.toNat k.toNat r.toNat, 0) := rfl
  rcases hpc with ⟨h1, h2⟩ | ⟨a, b, rfl, rfl, ha1, ha2, hb2, hp, hok⟩
  · rw [if_pos h1] at hdef
    generalize hpe : Sh.powE n k = pe at *
    obtain ⟨p1, p2⟩ := pe
    simp only at h1 h2 hdef
    subst h2
    have Hpe := Lib.hid hpe; clear hpe
    have Hdef := Lib.hid hdef; clear hdef
    go_enter Tryz.func25, Tryz.ntmps25
    go_wp2_with (go_at_call 49; refine (power_any _ _ _).mono ?_; rw [Hpe.out]; rintro e w' ⟨rfl, rfl⟩)
    go_ret2
    rw [Hdef.out]
    exact ⟨_, rfl, Ints.nil _ _, Below.refl _ _⟩
  · rw [hok] at hdef
    by_cases hr : r < 0 ∨ ((a ^ b : Nat) : Int) ≤ r
    · rw [if_neg (by simp), if_pos hr] at hdef
      have Hok := Lib.hid hok; clear hok
      have Hdef := Lib.hid hdef; clear hdef
      generalize a ^ b = P at *
      by_cases hr0 : r < 0
      · clear hr
        go_enter Tryz.func25, Tryz.ntmps25
        go_wp2_with (go_at_call 49; refine (power_any _ _ _).mono ?_; rw [Hok.out]; rintro e w' ⟨rfl, rfl⟩)
        go_ret2
        rw [Hdef.out]
        exact ⟨_, rfl, Ints.nil _ _, Below.refl _ _⟩
      · have hr1 : (P : Int) ≤ r := by omega
        clear hr
        go_enter Tryz.func25, Tryz.ntmps25
        go_wp2_with (go_at_call 49; refine (power_any _ _ _).mono ?_; rw [Hok.out]; rintro e w' ⟨rfl, rfl⟩)
        go_ret2
        rw [Hdef.out]
        exact ⟨_, rfl, Ints.nil _ _, Below.refl _ _⟩
    · rw [if_neg (by simp), if_neg hr] at hdef
      have hr0 : 0 ≤ r := by omega
      have hr1 : r < ((a ^ b : Nat) : Int) := by omega
      obtain ⟨r, rfl⟩ := Int.eq_ofNat_of_zero_le hr0
      simp only [Int.toNat_natCast] at hdef
      have hlen := Sh.tupN_len a b r
      have hmk := make_ints b (by omega)
      have hr2 : r ≤ 4096 := by omega
      clear hr hr0
      have Hok := Lib.hid hok; clear hok
      have Hdef := Lib.hid hdef; clear hdef
      have Hlen := Lib.hid hlen; clear hlen
      generalize a ^ b = P at *
      go_enter Tryz.func25, Tryz.ntmps25
      go_wp2_with (go_at_call 49; refine (power_any _ _ _).mono ?_; rw [Hok.out]; rintro e w' ⟨rfl, rfl⟩)
      go_loopw [2, 11] (fun q i wr => ∃ (j m : Nat) (cs : Array Value) (s : List Int), j ≤ b ∧ i = .int .i64 ((j : Int) - 1) ∧ q = .int .i64 m ∧ m ≤ 4096 ∧ cs.size = b ∧ Blk wr w.heap.size 3 cs ∧
          Below w.heap.size w wr ∧ (∀ (i : Nat) (x : Int), s[i]? = some x → cs[j + i]? = some (Value.int .i64 x)) ∧ Sh.tupN a b r = Sh.tupN a j m ++ s) (fun _ i _ => (intOf i + 1).toNat)
      case atStart => exact ⟨b, r, _, [], Nat.le_refl _, rfl, rfl, hr2, zrow_size b, Blk.new _ _ _, (Below.refl _ _).alloc (Nat.le_refl _) _, by simp, by simp⟩
      case round =>
        obtain ⟨j, m, cs, s, hj, rfl, rfl, hm, hcs, hblk, hbel, hs, heq⟩ := hrel
        have Hcs := Lib.hid hcs; clear hcs
        have Hs := Lib.hid hs; clear hs
        have Heq := Lib.hid heq; clear heq
        rcases j with _ | j
        · go_wp2
          go_ret2
          rw [Hdef.out]
          refine ⟨_, rfl, ?_, hbel⟩
          simp only
          refine hblk.reads _ _ _ Hlen.out.symm (by omega) fun i x hx => ?_
          rw [Heq.out] at hx
          have := Hs.out i x (by simpa [Sh.tupN] using hx)
          simpa using this
        · obtain ⟨u, hc⟩ := hblk.some_ j (by rw [Hcs.out]; omega)
          have hf := hblk.frozen j
          have ej : ((j + 1 : Nat) : Int) - 1 = j := by omega
          rw [ej]
          clear ej
          have hq1 : ((m : Int) / (a : Int)) ≤ 4096 := by
            have h1 : m / a ≤ m := Nat.div_le_self _ _
            have h2 : ((m / a : Nat) : Int) = (m : Int) / (a : Int) := Int.natCast_ediv _ _
            omega
          have hq0 : 0 ≤ ((m : Int) / (a : Int)) := Int.ediv_nonneg (by omega) (by omega)
          go_wp2
          refine ⟨⟨j, m / a, _, ((m % a : Nat) : Int) :: s, by omega, rfl, by rw [Int.natCast_ediv], ?_, ?_, hblk.set_ j _, hbel.setCell (Nat.le_refl _) _, ?_, ?_⟩, ?_⟩
          · have h1 : m / a ≤ m := Nat.div_le_self _ _
            omega
          · rw [Array.size_setIfInBounds]; exact Hcs.out
          · intro i x hx
            rcases i with _ | i
            · simp only [List.getElem?_cons_zero, Option.some.injEq] at hx
              subst hx
              rw [Nat.add_zero, Array.getElem?_setIfInBounds_self_of_lt (by rw [Hcs.out]; omega), Int.natCast_emod]
            · rw [Array.getElem?_setIfInBounds_ne (by omega)]
              have := Hs.out i x (by simpa using hx)
              rw [show j + (i + 1) = j + 1 + i by omega]
              exact this
          · rw [Heq.out]; simp [Sh.tupN]
          · simp [intOf]

end Go.Proofs.YtelememdhpncgaaGreatDoor

/-
  Walks: shape.copyTuple; append of a whole slice of ints that came in.
-/
namespace Go.Proofs.YtelememdhpncgaaGreatDoor
open Go.RowKit

/-- Nothing is appended: the value and the world stay. -/
theorem run_append_none {P : Program} (w : World) (base : Nat) (t ty e : TypeId) (i : TypeInfo) (size : Nat) (ht : P.underlying t = some (.slice e)) (hi : P.info? e = some i)
    (v : Value) (n : Nat) (xs : List Value) (hown : w.ownsRow base e size v n xs) (c : Nat) : (Builtin.append_ #[t, t] ty #[v, .slice none 0 c]).run P w = .ok v w := by
  rcases hown.2 with ⟨rfl, rfl⟩ | ⟨g, cap, cur, rfl, -, -, hnc, -⟩
  · simp [Builtin.append_, run_underlying ht, sizeOf, typeInfo, hi, Builtin.lenOf, Builtin.firstCells]
  · simp [Builtin.append_, run_underlying ht, sizeOf, typeInfo, hi, Builtin.lenOf, Builtin.firstCells, hnc, storeCells]

/-- append of a slice of ints that came in (nil, empty or not) to a row of the call's own. -/
theorem append_ints {ops : Array Oper} {rest : List Oper} {o : Oper} {a : Act} {Q : Exit → Act → World → Prop} (w : World) (hgd : o.guard = none) (s x : Operand)
    (ho : o.op = .call { callee := .builtin .append, args := #[s, x], argTypes := #[25, 25] })
    (base : Nat) (v : Value) (n : Nat) (l : List Int) (hs : a.eval s = v) (hown : w.ownsRow base 3 1 v n (l.map (Value.int .i64)))
    (B : Nat) (u : Value) (t : List Int) (hx : a.eval x = u) (hu : Ints w B u t) (hn : n ≤ 1000000) (ht : t.length ≤ 1000000) (hbase : base ≤ w.heap.size)
    (h : ∀ v' w', w'.ownsRow base 3 1 v' (n + t.length) ((l ++ t).map (Value.int .i64)) → w.grownBy w' v.ownBlock → wpList Tryz.prog ops Q rest (a.put o.dst v') w') :
    wpList Tryz.prog ops Q (o :: rest) a w := by
  obtain ⟨i0, hi, hz0, hz1, hz2⟩ := info_parts int_info
  obtain ⟨A, m, c, rfl, rfl, -, hr⟩ := hu
  rcases A with _ | ad
  · have h0 : t = [] := by
      rcases t with _ | ⟨y, t⟩
      · rfl
      · obtain ⟨ad, e, -⟩ := hr.2 (by simp)
        cases e
    subst h0
    refine wpList_plain hgd fun K' hK' => ?_
    have hrun := run_append_none (P := Tryz.prog) w base 25 o.type 3 i0 1 Tryz.underlying25 hi v n _ hown c
    unfold Oper.wp execOp
    simp only [ho, resolve, invoke, builtin, Sem.run_bind, Sem.run_pure, Result.andThen_ok, List.map_toArray, List.map_cons, List.map_nil, hs, hx, List.length_nil, hrun]
    exact hK' _ _ (h v w (by simpa using hown) (World.grownBy.refl w _))
  · refine wpList_append_own w hgd s x 25 ho base 3 i0 _ 1 8 Tryz.underlying25 hi hz0 hz1 hz2 rfl (by decide) v n _ hs hown ad t.length c (t.map (Value.int .i64)) hx (by simp) ?_ ?_ (by unfold maxLen; omega) (by omega) hbase ?_
    · intro j y hy
      have hl : 0 < t.length := by
        have := (List.getElem?_eq_some_iff.1 hy).1
        rw [List.length_map] at this
        omega
      obtain ⟨ad', e, -, hc⟩ := hr.2 hl
      obtain rfl := Option.some.inj e
      exact hc j y hy
    · intro y hy
      obtain ⟨z, -, rfl⟩ := List.mem_map.1 hy
      rfl
    · intro v' w' h1 h2 _
      exact h v' w' (by rw [List.map_append]; exact h1) h2

theorem own_empty (w : World) (t : TypeId) (size : Nat) : (w.alloc (.cells #[] t)).ownsRow w.heap.size t size (.slice (some ⟨w.heap.size, 0, none⟩) 0 0) 0 [] := by
  refine ⟨by simp, .inr ⟨w.heap.size, 0, #[], rfl, Nat.le_refl _, heap_alloc_new w _, Nat.le_refl _, by unfold maxLen; omega, by simp, by simp⟩⟩

set_option maxRecDepth 100000 in
set_option maxHeartbeats 400000 in
theorem copytuple_any (v : Value) (t : List Int) (w : World) (B : Nat) (hB : B ≤ w.heap.size) (h : Ints w B v t) (ht : t.length ≤ 1000000) :
    Calls Tryz.prog 41 #[v] w fun e w' => ∃ u, e = .returned u ∧ NInts w' w.heap.size u t ∧ Below w.heap.size w w' := by
  go_enter Tryz.func41, Tryz.ntmps41
  go_wp2_with (at_builtin; refine append_ints _ rfl _ _ rfl w.heap.size _ 0 [] rfl (own_empty w 3 1) B v t rfl (h.below (((Below.refl _ _).alloc (Nat.le_refl _) _).mono hB)) (by omega) ht (by simp) ?_; intro v' w' hown hg)
  go_ret
  refine ⟨_, rfl, NInts.own (by simpa using hown) (Nat.le_refl _) (by omega), ?_⟩
  exact ((Below.refl _ _).alloc (Nat.le_refl _) _).grown hg (by simp) (fun g e => Nat.le_of_eq (Option.some.inj (show some w.heap.size = some g from e)))

end Go.Proofs.YtelememdhpncgaaGreatDoor
