/-
  Texts joined: Read.
-/
import Derived.Test.YtelememdhpncgaaGreatDoorJo1
import Derived.Shelf.Abstract
import Derived.Deep.Fields
import Derived.Deep.LoopGhost

/-
  Walks: HasPrefix, the reader's methods skip, expect, while.
-/
namespace Go.Proofs.YtelememdhpncgaaGreatDoor
open Go.RowKit

theorem extract_take (s : ByteArray) (k : Nat) : (s.extract 0 k).toList = s.toList.take k := by
  rw [ByteArray.toList_eq, ByteArray.toList_eq, ByteArray.data_extract]; simp
theorem extract_drop (s : ByteArray) (k : Nat) : (s.extract k s.size).toList = s.toList.drop k := by
  rw [ByteArray.toList_eq, ByteArray.toList_eq, ByteArray.data_extract]
  simp only [Array.toList_extract, List.extract_eq_take_drop]
  exact List.take_of_length_le (by simp)

theorem isPrefixOf_take (s t : List UInt8) : t.isPrefixOf s = (decide (t.length ≤ s.length) && (s.take t.length == t)) := by
  rw [Bool.eq_iff_iff]
  simp only [List.isPrefixOf_iff_prefix, Bool.and_eq_true, decide_eq_true_eq, beq_iff_eq]
  constructor
  · intro h
    exact ⟨h.length_le, (List.prefix_iff_eq_take.1 h).symm⟩
  · rintro ⟨_, h⟩
    exact List.prefix_iff_eq_take.2 h.symm

set_option maxHeartbeats 400000 in
theorem litehasprefix_any (s t : ByteArray) (w : World) (hs : s.size ≤ 140737488351232) (ht : t.size ≤ 140737488351232) :
    Calls Tryz.prog 105 #[.string s, .string t] w fun e w' => e = .returned (.bool (t.toList.isPrefixOf s.toList)) ∧ w = w' := by
  by_cases hle : t.size ≤ s.size
  · go_enter Tryz.func105, Tryz.ntmps105
    go_wp2
    go_ret
    exact ⟨ret_bool (by rw [isPrefixOf_take, length_bytes, length_bytes, decide_eq_true hle, extract_take]; rfl), rfl⟩
  · have hv : t.toList.isPrefixOf s.toList = false := by rw [isPrefixOf_take, length_bytes, length_bytes, decide_eq_false hle]; rfl
    have Hv := Lib.hid hv; clear hv
    go_enter Tryz.func105, Tryz.ntmps105
    go_wp2
    go_ret
    exact ⟨ret_bool Hv.out.symm, rfl⟩

set_option maxHeartbeats 400000 in
theorem hasprefix_any (s t : ByteArray) (w : World) (hs : s.size ≤ 140737488351232) (ht : t.size ≤ 140737488351232) :
    Calls Tryz.prog 98 #[.string s, .string t] w fun e w' => e = .returned (.bool (t.toList.isPrefixOf s.toList)) ∧ w = w' := by
  go_enter Tryz.func98, Tryz.ntmps98
  go_wp2_with (go_at_call 105; refine (litehasprefix_any _ _ _ hs ht).mono ?_; rintro e w' ⟨rfl, rfl⟩)
  go_ret
  exact ⟨rfl, rfl⟩

/-- A reader: block R holds the text and the place. -/
def Rdr (w : World) (R : Nat) (text : ByteArray) (n : Nat) : Prop := Blk w R 87 #[.string text, .int .i64 n]
theorem Rdr.c0 {w : World} {R n : Nat} {text : ByteArray} (h : Rdr w R text n) : w.cell? ⟨R, 0, none⟩ = some (.string text) := Blk.cell h 0
theorem Rdr.c1 {w : World} {R n : Nat} {text : ByteArray} (h : Rdr w R text n) : w.cell? ⟨R, 1, none⟩ = some (.int .i64 n) := Blk.cell h 1
theorem Rdr.set_ {w : World} {R n m : Nat} {text : ByteArray} (h : Rdr w R text n) : Rdr (w.setCell ⟨R, 1, none⟩ (.int .i64 m)) R text m := Blk.set_ h 1 (.int .i64 m)

theorem Rdr.drewN {w : World} {R n : Nat} {text : ByteArray} (h : Rdr w R text n) (k : Nat) : Rdr (w.drewN k) R text n := Blk.drewN h k
theorem grownBy_drewN (w : World) (k : Nat) (row : Option Nat) : w.grownBy (w.drewN k) row := ⟨rfl, rfl, rfl, Nat.le_refl _, fun _ _ _ => rfl⟩
theorem grownBy_trans {a b c : World} {row : Option Nat} (h : a.grownBy b row) (k : b.grownBy c row) : a.grownBy c row :=
  ⟨k.os.trans h.os, k.tape.trans h.tape, k.output.trans h.output, Nat.le_trans h.size k.size, fun i hi hne => (k.block i (Nat.lt_of_lt_of_le hi h.size) hne).trans (h.block i hi hne)⟩
theorem grownBy_drewN_of {a w : World} {row : Option Nat} (h : a.grownBy w row) (k : Nat) : a.grownBy (w.drewN k) row := grownBy_trans h (grownBy_drewN w k row)
theorem grownBy_setCell {a w : World} {g : Nat} (h : a.grownBy w (some g)) (o : Nat) (u : Value) : a.grownBy (w.setCell ⟨g, o, none⟩ u) (some g) :=
  grownBy_trans h ⟨rfl, rfl, rfl, by simp [World.setCell], fun i hi hne => Below.heap_setCell _ _ _ _ (fun e => hne (by rw [e]))⟩
theorem grownBy_of_below {w w' : World} (hb : Below w.heap.size w w') (row : Option Nat) : w.grownBy w' row := ⟨hb.os, hb.tape, hb.output, hb.size, fun i hi _ => hb.block i hi⟩

/-- Where the reader stands behind a token that was asked for. -/
def skipTo (b : Bool) (n k : Nat) : Nat := if b = true then n + k else n

set_option maxRecDepth 100000 in
set_option maxHeartbeats 400000 in
theorem skip_any (R n : Nat) (text t : ByteArray) (w : World) (hr : Rdr w R text n) (hn : n ≤ text.size) (hs : text.size ≤ 100000) (ht : t.size ≤ 100) :
    Calls Tryz.prog 87 #[.pointer (some ⟨R, 0, none⟩), .string t] w
      fun e w' => e = .returned (.bool (t.toList.isPrefixOf (text.toList.drop n))) ∧
        Rdr w' R text (skipTo (t.toList.isPrefixOf (text.toList.drop n)) n t.size) ∧ w.grownBy w' (some R) := by
  have c0 := hr.c0
  have c1 := hr.c1
  have hf := Blk.frozen hr 1
  have hpre := fun W => hasprefix_any (text.extract n text.size) t W (by rw [ByteArray.size_extract]; omega) (by omega)
  rw [extract_drop] at hpre
  cases hb : t.toList.isPrefixOf (text.toList.drop n)
  · rw [hb] at hpre
    have Hpre := Lib.hid hpre; clear hpre hb
    go_enter Tryz.func87, Tryz.ntmps87
    go_wp2
    go_quiet ((go_at_call 98; exact quiet_left (Hpre.out _)))
    go_wp2
    go_ret
    exact ⟨rfl, hr.drewN _, grownBy_drewN _ _ _⟩
  · rw [hb] at hpre
    have Hpre := Lib.hid hpre; clear hpre hb
    go_enter Tryz.func87, Tryz.ntmps87
    go_wp2
    go_quiet ((go_at_call 98; exact quiet_left (Hpre.out _)))
    go_wp2
    go_ret
    exact ⟨rfl, (hr.drewN _).set_, grownBy_setCell (grownBy_drewN _ _ _) _ _⟩

/-- The panic at a text that no structure has. -/
def errChain : List PanicEntry := [{ v := .iface 28 (.int .i64 3), recovered := false }]

set_option maxRecDepth 100000 in
set_option maxHeartbeats 400000 in
theorem expect_yes (R n : Nat) (text t : ByteArray) (w : World) (hr : Rdr w R text n) (hn : n ≤ text.size) (hs : text.size ≤ 100000) (ht : t.size ≤ 100) (hp : t.toList.isPrefixOf (text.toList.drop n) = true) :
    Calls Tryz.prog 84 #[.pointer (some ⟨R, 0, none⟩), .string t] w
      fun e w' => e = .returned (.tuple #[]) ∧ Rdr w' R text (n + t.size) ∧ w.grownBy w' (some R) := by
  have hcall := skip_any R n text t w hr hn hs ht
  rw [hp] at hcall
  have Hcall := Lib.hid hcall; clear hcall
  clear hp
  go_enter Tryz.func84, Tryz.ntmps84
  go_wp2_with (go_at_call 87; refine (Hcall.out).mono ?_; rintro e w1 ⟨rfl, hr1, hg1⟩)
  go_end0
  exact ⟨rfl, hr1, hg1⟩

set_option maxRecDepth 100000 in
set_option maxHeartbeats 400000 in
theorem expect_no (R n : Nat) (text t : ByteArray) (w : World) (hr : Rdr w R text n) (hn : n ≤ text.size) (hs : text.size ≤ 100000) (ht : t.size ≤ 100) (hp : t.toList.isPrefixOf (text.toList.drop n) = false) :
    Calls Tryz.prog 84 #[.pointer (some ⟨R, 0, none⟩), .string t] w
      fun e w' => e = .panicked errChain ∧ w.grownBy w' (some R) := by
  have hcall := skip_any R n text t w hr hn hs ht
  rw [hp] at hcall
  have Hcall := Lib.hid hcall; clear hcall
  clear hp
  go_enter Tryz.func84, Tryz.ntmps84
  go_wp2_with (go_at_call 87; refine (Hcall.out).mono ?_; rintro e w1 ⟨rfl, hr1, hg1⟩)
  exact ⟨rfl, rfl, hg1⟩

/-! ### while -/
theorem tw_lt {α : Type} (p : α → Bool) : ∀ (l : List α) (j : Nat) (h : j < l.length), j < (l.takeWhile p).length → p l[j] = true
  | [], _, h, _ => by simp at h
  | a :: l, j, h, hj => by
    rw [List.takeWhile_cons] at hj
    by_cases ha : p a = true
    · rw [if_pos ha] at hj
      rcases j with _ | j
      · exact ha
      · exact tw_lt p l j (by simpa using h) (by simpa using hj)
    · rw [if_neg ha] at hj; simp at hj
theorem tw_end {α : Type} (p : α → Bool) : ∀ (l : List α) (h : (l.takeWhile p).length < l.length), p l[(l.takeWhile p).length] = false
  | [], h => by simp at h
  | a :: l, h => by
    by_cases ha : p a = true
    · have e : ((a :: l).takeWhile p).length = (l.takeWhile p).length + 1 := by rw [List.takeWhile_cons, if_pos ha]; rfl
      have h' : (l.takeWhile p).length < l.length := by rw [e] at h; simpa using h
      have := tw_end p l h'
      simp only [e]
      simpa using this
    · have e : ((a :: l).takeWhile p).length = 0 := by rw [List.takeWhile_cons, if_neg ha]; rfl
      simp only [e]
      simpa using ha
theorem tw_le {α : Type} (p : α → Bool) (l : List α) : (l.takeWhile p).length ≤ l.length := (List.takeWhile_prefix p).length_le

/-- How many bytes from place n on are of a class. -/
def runLen (p : Nat → Bool) (text : ByteArray) (n : Nat) : Nat := ((text.toList.drop n).takeWhile fun c => p c.toNat).length
theorem runLen_le (p : Nat → Bool) (text : ByteArray) (n : Nat) (hn : n ≤ text.size) : n + runLen p text n ≤ text.size := by
  have := tw_le (fun c : UInt8 => p c.toNat) (text.toList.drop n)
  rw [List.length_drop, length_bytes] at this
  unfold runLen; omega
theorem get_bytes (text : ByteArray) (k : Nat) (h : k < text.size) : text.toList[k]'(by rw [length_bytes]; exact h) = text[k] := by
  have := getD_bytes text k h
  rw [List.getD_eq_getElem?_getD, List.getElem?_eq_getElem (by rw [length_bytes]; exact h)] at this
  exact this
theorem runLen_in (p : Nat → Bool) (text : ByteArray) (n k : Nat) (h : n ≤ k) (hk : k < text.size) (hr : k < n + runLen p text n) : p text[k].toNat = true := by
  have := tw_lt (fun c : UInt8 => p c.toNat) (text.toList.drop n) (k - n) (by rw [List.length_drop, length_bytes]; omega) (by unfold runLen at hr; omega)
  rw [List.getElem_drop] at this
  simp only [show n + (k - n) = k by omega] at this
  rwa [get_bytes text k hk] at this
theorem runLen_out (p : Nat → Bool) (text : ByteArray) (n k : Nat) (hk : k < text.size) (hr : k = n + runLen p text n) : p text[k].toNat = false := by
  subst hr
  have h0 : runLen p text n < (text.toList.drop n).length := by rw [List.length_drop, length_bytes]; omega
  have := tw_end (fun c : UInt8 => p c.toNat) (text.toList.drop n) h0
  change p ((text.toList.drop n)[runLen p text n]'h0).toNat = false at this
  rw [List.getElem_drop] at this
  rwa [get_bytes text _ hk] at this
theorem runText (p : Nat → Bool) (text : ByteArray) (n : Nat) : (text.extract n (n + runLen p text n)).toList = (text.toList.drop n).takeWhile fun c => p c.toNat := by
  rw [ByteArray.toList_eq, ByteArray.data_extract]
  simp only [Array.toList_extract, List.extract_eq_take_drop]
  rw [← ByteArray.toList_eq, show n + runLen p text n - n = runLen p text n by omega]
  exact (List.prefix_iff_eq_take.1 (List.takeWhile_prefix _)).symm

/-- A class of bytes, as a function of the program. -/
def Class (g : Nat) (p : Nat → Bool) : Prop := ∀ (c : Nat) (W : World), Calls Tryz.prog g #[.int .u8 (c : Int)] W fun e w' => e = .returned (.bool (p c)) ∧ W = w'

set_option maxRecDepth 100000 in
set_option maxHeartbeats 400000 in
theorem while_any (g : Nat) (p : Nat → Bool) (hg : Class g p) (eg : ∀ args w, (callFunc g args).run Tryz.prog w = .ok (.enter g args) w) (R n : Nat) (text : ByteArray) (w : World) (hr : Rdr w R text n) (hn : n ≤ text.size) (hs : text.size ≤ 100000) :
    Calls Tryz.prog 81 #[.pointer (some ⟨R, 0, none⟩), .func (.func g) #[] #[]] w
      fun e w' => e = .returned (.string (text.extract n (n + runLen p text n))) ∧ Rdr w' R text (n + runLen p text n) ∧ w.grownBy w' (some R) := by
  have c0 := hr.c0
  have c1 := hr.c1
  have Hg := Lib.hid hg; clear hg
  have hle := runLen_le p text n hn
  have hrun : ∃ N, N = n + runLen p text n := ⟨_, rfl⟩
  obtain ⟨N, hN⟩ := hrun
  rw [← hN]
  rw [← hN] at hle
  have hnN : n ≤ N := by omega
  have HN := Lib.hid hN; clear hN
  go_enter Tryz.func81, Tryz.ntmps81
  go_wp2
  clear c0 c1
  go_loopg [] (text.size) (fun gg wr => ∃ k : Nat, n ≤ k ∧ k ≤ N ∧ text.size - k ≤ gg ∧ Rdr wr R text k ∧ w.grownBy wr (some R))
  case atStart => exact ⟨n, Nat.le_refl _, hnN, by omega, hr, World.grownBy.refl _ _⟩
  case round =>
    obtain ⟨k, hk1, hk2, hgg, hrk, hgr⟩ := hrel
    have c0 := hrk.c0
    have c1 := hrk.c1
    have hf := Blk.frozen hrk 1
    by_cases hlt : k < N
    · have hks : k < text.size := by omega
      have hin := runLen_in p text n k hk1 hks (by rw [← HN.out]; exact hlt)
      have hcall := fun W => Hg.out text[k].toNat W
      rw [hin] at hcall
      have Hcall := Lib.hid hcall; clear hcall hin
      go_wp2
      go_quiet ((go_at_fn g; exact quiet_left (Hcall.out _)))
      go_wp2
      go_roundg (text.size - (k + 1))
      case measure => omega
      case rel => exact ⟨k + 1, by omega, by omega, by omega, (hrk.drewN _).set_, grownBy_setCell (grownBy_drewN_of hgr _) _ _⟩
    · obtain rfl : k = N := by omega
      have hex : (if k ≤ text.size then true else false) = true := by rw [if_pos hle]
      by_cases hks : k < text.size
      · have hout := runLen_out p text n k hks HN.out
        have hcall := fun W => Hg.out text[k].toNat W
        rw [hout] at hcall
        have Hcall := Lib.hid hcall; clear hcall hout hex
        go_wp2
        go_quiet ((go_at_fn g; exact quiet_left (Hcall.out _)))
        go_wp2
        go_quiet (fail)
        go_wp2
        go_ret
        exact ⟨rfl, (hrk.drewN _).drewN _, grownBy_drewN_of (grownBy_drewN_of hgr _) _⟩
      · clear hex
        go_wp2
        go_quiet (fail)
        go_wp2
        go_quiet (fail)
        go_wp2
        go_ret
        exact ⟨rfl, (hrk.drewN _).drewN _, grownBy_drewN_of (grownBy_drewN_of hgr _) _⟩

end Go.Proofs.YtelememdhpncgaaGreatDoor
