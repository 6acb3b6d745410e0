/-
  Walks: letters, digits, reserved words, names (the program's and the reference's).
-/
import Derived.Test.YtbddchonhicpiaaDoorElems
import Derived.Lib.ConvBytes
namespace Go.Proofs.YtbddchonhicpiaaDoor
open Go.RowKit

theorem letter_any (c : Nat) (w : World) :
    Calls Tryd.prog 54 #[.int .u8 (c : Int)] w fun e w' => e = .returned (.bool (Sh.letterB c)) ∧ w = w' := by
  go_enter Tryd.func54, Tryd.ntmps54
  go_wp2
  all_goals go_ret
  all_goals refine ⟨ret_bool ?_, rfl⟩
  all_goals unfold Sh.letterB
  all_goals (rw [Bool.eq_iff_iff]; simp only [Bool.or_eq_true, Bool.and_eq_true, decide_eq_true_eq, true_iff, false_iff, Bool.false_eq_true]; omega)

theorem digit_any (c : Nat) (w : World) :
    Calls Tryd.prog 55 #[.int .u8 (c : Int)] w fun e w' => e = .returned (.bool (Sh.digitB c)) ∧ w = w' := by
  go_enter Tryd.func55, Tryd.ntmps55
  go_wp2
  all_goals go_ret
  all_goals refine ⟨ret_bool ?_, rfl⟩
  all_goals unfold Sh.digitB
  all_goals (rw [Bool.eq_iff_iff]; simp only [Bool.or_eq_true, Bool.and_eq_true, decide_eq_true_eq, true_iff, false_iff, Bool.false_eq_true]; omega)

theorem refletter_any (c : Nat) (w : World) :
    Calls Tryd.prog 57 #[.int .u8 (c : Int)] w fun e w' => e = .returned (.bool (Sh.letterB c)) ∧ w = w' := by
  go_enter Tryd.func57, Tryd.ntmps57
  go_wp2
  all_goals go_ret
  all_goals refine ⟨ret_bool ?_, rfl⟩
  all_goals unfold Sh.letterB
  all_goals (rw [Bool.eq_iff_iff]; simp only [Bool.or_eq_true, Bool.and_eq_true, decide_eq_true_eq, true_iff, false_iff, Bool.false_eq_true]; omega)

theorem refdigit_any (c : Nat) (w : World) :
    Calls Tryd.prog 59 #[.int .u8 (c : Int)] w fun e w' => e = .returned (.bool (Sh.digitB c)) ∧ w = w' := by
  go_enter Tryd.func59, Tryd.ntmps59
  go_wp2
  all_goals go_ret
  all_goals refine ⟨ret_bool ?_, rfl⟩
  all_goals unfold Sh.digitB
  all_goals (rw [Bool.eq_iff_iff]; simp only [Bool.or_eq_true, Bool.and_eq_true, decide_eq_true_eq, true_iff, false_iff, Bool.false_eq_true]; omega)

theorem reserved_any (s : ByteArray) (w : World) :
    Calls Tryd.prog 56 #[.string s] w fun e w' => e = .returned (.bool (Sh.wordB s.toList)) ∧ w = w' := by
  go_enter Tryd.func56, Tryd.ntmps56
  go_wp2
  all_goals go_ret
  all_goals refine ⟨ret_bool ?_, rfl⟩
  all_goals first | (exfalso; simp_all; done) | (simp_all [Sh.wordB]; done)

theorem refword_any (s : ByteArray) (w : World) :
    Calls Tryd.prog 58 #[.string s] w fun e w' => e = .returned (.bool (Sh.wordB s.toList)) ∧ w = w' := by
  go_enter Tryd.func58, Tryd.ntmps58
  go_wp2
  all_goals go_ret
  all_goals refine ⟨ret_bool ?_, rfl⟩
  all_goals first | (exfalso; simp_all; done) | (simp_all [Sh.wordB]; done)

theorem bytesWorld_below (w : World) (e : TypeId) (s : ByteArray) : Below w.heap.size w (Lib.bytesWorld w e s) := by
  refine ⟨?_, ?_, ?_, by rw [Lib.bytesWorld_size]; omega, fun k hk => Lib.bytesWorld_at_old w e s k hk⟩ <;> simp [Lib.bytesWorld, World.freeze, World.alloc, World.drew, -World.alloc_eq, -World.drew_eq]

theorem conv_bytes (s : ByteArray) (w : World) :
    (convert 9 71 (.string s)).run Tryd.prog w = .ok (.slice (some ⟨w.heap.size, 0, none⟩) s.size (grownCap w s.size 0 5)) (Lib.bytesWorld w 5 s) :=
  Lib.run_convert_string_bytes w 9 71 5 s Tryd.underlying9 Tryd.underlying71 Tryd.underlying5

theorem getD_bytes (s : ByteArray) (k : Nat) (hk : k < s.size) : s.toList.getD k 0 = s[k] := by
  rw [ByteArray.toList_eq, List.getD_eq_getElem?_getD, List.getElem?_eq_getElem (by simpa using hk)]
  rfl
theorem length_bytes (s : ByteArray) : s.toList.length = s.size := by rw [ByteArray.toList_eq]; simp

set_option maxRecDepth 100000 in
set_option maxHeartbeats 400000 in
theorem name_any (s : ByteArray) (w : World) (hs : s.size ≤ 140737488351232) :
    Calls Tryd.prog 17 #[.string s] w fun e w' => e = .returned (.bool (Sh.nameB s.toList)) ∧ Below w.heap.size w w' := by
  have hl := length_bytes s
  by_cases h0 : s.size = 0
  · have he : s.toList = [] := List.eq_nil_of_length_eq_zero (by omega)
    have hv : Sh.nameB s.toList = false := by rw [he]; rfl
    have Hv := Lib.hid hv; clear hv
    clear hl h0
    have he' : s.toList.isEmpty = true := by rw [he]; rfl
    go_enter Tryd.func17, Tryd.ntmps17
    go_wp2
    go_ret
    exact ⟨ret_bool (by first | exact Hv.out.symm | (rw [he] at Hv; exact Hv.out.symm)), Below.refl _ _⟩
  · have he : s.toList.isEmpty = false := by rw [List.isEmpty_eq_false_iff]; intro h; rw [h] at hl; simp at hl; omega
    have hpos : 0 < s.size := by omega
    clear h0
    by_cases h12 : 12 < s.size
    · have hv : Sh.nameB s.toList = false := by unfold Sh.nameB; rw [hl]; simp; omega
      have Hv := Lib.hid hv; clear hv
      have Hl := Lib.hid hl; clear hl
      go_enter Tryd.func17, Tryd.ntmps17
      go_wp2
      go_ret
      exact ⟨ret_bool Hv.out.symm, Below.refl _ _⟩
    · have hg : s.toList.getD 0 0 = s[0] := getD_bytes s 0 hpos
      have hdef : Sh.nameB s.toList = (Sh.letterB s[0].toNat && s.toList.all Sh.alnumB && !Sh.wordB s.toList) := by
        unfold Sh.nameB; rw [hl, hg, decide_eq_true (by omega), decide_eq_true (by omega)]; simp
      have Hl := Lib.hid hl; clear hl
      have Hg := Lib.hid hg; clear hg
      cases hb : Sh.letterB s[0].toNat
      · have Hb := Lib.hid hb; clear hb
        have Hd := Lib.hid hdef; clear hdef
        go_enter Tryd.func17, Tryd.ntmps17
        go_wp2_with (go_at_call 54; refine (letter_any _ _).mono ?_; rw [Hb.out]; rintro e w' ⟨rfl, rfl⟩)
        go_ret
        exact ⟨ret_bool (by rw [Hd.out, Hb.out]; rfl), Below.refl _ _⟩
      · have Hb := Lib.hid hb; clear hb
        have Hd := Lib.hid hdef; clear hdef
        have hconv := conv_bytes s
        go_enter Tryd.func17, Tryd.ntmps17
        go_wp2_with (go_at_call 54; refine (letter_any _ _).mono ?_; rw [Hb.out]; rintro e w' ⟨rfl, rfl⟩)
        have hcell : ∀ k, k < s.size → (Lib.bytesWorld w 5 s).cell? ⟨w.heap.size, k, none⟩ = some (.int .u8 ((s.toList.getD k 0).toNat : Nat)) := fun k hk => by
          rw [Lib.bytesWorld_cell w _ s k hk, ByteArray.toList_eq]
        have hbel := bytesWorld_below w 5 s
        generalize Lib.bytesWorld w 5 s = W at *
        have Hcell := Lib.hid hcell; clear hcell hconv
        have Hbel := Lib.hid hbel; clear hbel
        go_loop [21] (fun i => ∃ k : Nat, k ≤ s.size ∧ i = .int .i64 k ∧ (s.toList.take k).all Sh.alnumB = true) (fun i => s.size - (intOf i).toNat)
        case atStart => exact ⟨0, Nat.zero_le _, rfl, by simp⟩
        case round =>
          obtain ⟨k, hk, rfl, hall⟩ := hrel
          have Hall := Lib.hid hall; clear hall
          by_cases hlt : k < s.size
          · have hc := Hcell.out k hlt
            have hts := all_take_succ Sh.alnumB 0 s.toList k (by rw [Hl.out]; omega)
            have hfalse := all_of_take Sh.alnumB 0 s.toList k (by rw [Hl.out]; omega)
            rw [Hall.out, Bool.true_and] at hts
            generalize s.toList.getD k 0 = x at *
            have Hts := Lib.hid hts; clear hts
            have Hfa := Lib.hid hfalse; clear hfalse
            cases hlx : Sh.letterB x.toNat
            · have Hlx := Lib.hid hlx; clear hlx
              cases hdx : Sh.digitB x.toNat
              · have Hdx := Lib.hid hdx; clear hdx
                go_wp2_with (first | (go_at_call 54; refine (letter_any _ _).mono ?_; rw [Hlx.out]; rintro e w' ⟨rfl, rfl⟩) | (go_at_call 55; refine (digit_any _ _).mono ?_; rw [Hdx.out]; rintro e w' ⟨rfl, rfl⟩))
                go_ret
                exact ⟨ret_bool (by rw [Hd.out, Hfa.out (by unfold Sh.alnumB; rw [Hlx.out, Hdx.out]; rfl)]; simp), Hbel.out⟩
              · have Hdx := Lib.hid hdx; clear hdx
                go_wp2_with (first | (go_at_call 54; refine (letter_any _ _).mono ?_; rw [Hlx.out]; rintro e w' ⟨rfl, rfl⟩) | (go_at_call 55; refine (digit_any _ _).mono ?_; rw [Hdx.out]; rintro e w' ⟨rfl, rfl⟩))
                go_round
                case rel => exact ⟨k + 1, by omega, by go_num, by rw [Hts.out]; unfold Sh.alnumB; rw [Hlx.out, Hdx.out]; rfl⟩
                case measure => simp [intOf]; omega
            · have Hlx := Lib.hid hlx; clear hlx
              go_wp2_with (go_at_call 54; refine (letter_any _ _).mono ?_; rw [Hlx.out]; rintro e w' ⟨rfl, rfl⟩)
              go_round
              case rel => exact ⟨k + 1, by omega, by go_num, by rw [Hts.out]; unfold Sh.alnumB; rw [Hlx.out]; rfl⟩
              case measure => simp [intOf]; omega
          · have hall : s.toList.all Sh.alnumB = true := by
              have := Hall.out
              rwa [List.take_of_length_le (by rw [Hl.out]; omega)] at this
            have hv := Hd.out
            rw [Hb.out, hall, Bool.true_and, Bool.true_and] at hv
            have Hv := Lib.hid hv; clear hv
            clear hall
            go_wp2_with (go_at_call 56; refine (reserved_any _ _).mono ?_; rintro e w' ⟨rfl, rfl⟩)
            go_ret
            exact ⟨ret_bool Hv.out.symm, Hbel.out⟩

set_option maxRecDepth 100000 in
set_option maxHeartbeats 400000 in
theorem refname_any (s : ByteArray) (w : World) (hs : s.size ≤ 140737488351232) :
    Calls Tryd.prog 18 #[.string s] w fun e w' => e = .returned (.bool (Sh.nameB s.toList)) ∧ w = w' := by
  have hl := length_bytes s
  by_cases h0 : s.size < 1
  · have he : s.toList = [] := List.eq_nil_of_length_eq_zero (by omega)
    have hv : Sh.nameB s.toList = false := by rw [he]; rfl
    have Hv := Lib.hid hv; clear hv
    clear hl he
    go_enter Tryd.func18, Tryd.ntmps18
    go_wp2
    go_ret
    exact ⟨ret_bool Hv.out.symm, rfl⟩
  · have hpos : 0 < s.size := by omega
    by_cases h12 : 12 < s.size
    · have hv : Sh.nameB s.toList = false := by unfold Sh.nameB; rw [hl]; simp; omega
      have Hv := Lib.hid hv; clear hv
      have Hl := Lib.hid hl; clear hl
      go_enter Tryd.func18, Tryd.ntmps18
      go_wp2
      go_ret
      exact ⟨ret_bool Hv.out.symm, rfl⟩
    · have hg : s.toList.getD 0 0 = s[0] := getD_bytes s 0 hpos
      have hdef : Sh.nameB s.toList = (Sh.letterB s[0].toNat && s.toList.all Sh.alnumB && !Sh.wordB s.toList) := by
        unfold Sh.nameB; rw [hl, hg, decide_eq_true (by omega), decide_eq_true (by omega)]; simp
      have h1 : (s.toList.take 1).all Sh.alnumB = Sh.alnumB s[0] := by
        rw [all_take_succ Sh.alnumB 0 s.toList 0 (by omega), hg]; simp
      have Hl := Lib.hid hl; clear hl
      have Hg := Lib.hid hg; clear hg
      have H1 := Lib.hid h1; clear h1
      cases hb : Sh.letterB s[0].toNat
      · have Hb := Lib.hid hb; clear hb
        have Hd := Lib.hid hdef; clear hdef
        go_enter Tryd.func18, Tryd.ntmps18
        go_wp2_with (go_at_call 57; refine (refletter_any _ _).mono ?_; rw [Hb.out]; rintro e w' ⟨rfl, rfl⟩)
        go_ret
        exact ⟨ret_bool (by rw [Hd.out, Hb.out]; rfl), rfl⟩
      · have Hb := Lib.hid hb; clear hb
        have Hd := Lib.hid hdef; clear hdef
        cases hw : Sh.wordB s.toList
        · have Hw := Lib.hid hw; clear hw
          go_enter Tryd.func18, Tryd.ntmps18
          go_wp2_with (first | (go_at_call 57; refine (refletter_any _ _).mono ?_; rw [Hb.out]; rintro e w' ⟨rfl, rfl⟩) | (go_at_call 58; refine (refword_any _ _).mono ?_; rw [Hw.out]; rintro e w' ⟨rfl, rfl⟩))
          go_loop [3] (fun i => ∃ k : Nat, 1 ≤ k ∧ k ≤ s.size ∧ i = .int .i64 k ∧ (s.toList.take k).all Sh.alnumB = true) (fun i => s.size - (intOf i).toNat)
          case atStart => exact ⟨1, Nat.le_refl _, hpos, rfl, by rw [H1.out]; unfold Sh.alnumB; rw [Hb.out]; rfl⟩
          case round =>
            obtain ⟨k, hk1, hk, rfl, hall⟩ := hrel
            have Hall := Lib.hid hall; clear hall
            by_cases hlt : k < s.size
            · have hc := getD_bytes s k hlt
              have hts := all_take_succ Sh.alnumB 0 s.toList k (by rw [Hl.out]; omega)
              have hfalse := all_of_take Sh.alnumB 0 s.toList k (by rw [Hl.out]; omega)
              rw [Hall.out, Bool.true_and] at hts
              rw [hc] at hts hfalse
              clear hc
              have Hts := Lib.hid hts; clear hts
              have Hfa := Lib.hid hfalse; clear hfalse
              cases hlx : Sh.letterB s[k].toNat
              · have Hlx := Lib.hid hlx; clear hlx
                cases hdx : Sh.digitB s[k].toNat
                · have Hdx := Lib.hid hdx; clear hdx
                  go_wp2_with (first | (go_at_call 57; refine (refletter_any _ _).mono ?_; rw [Hlx.out]; rintro e w' ⟨rfl, rfl⟩) | (go_at_call 59; refine (refdigit_any _ _).mono ?_; rw [Hdx.out]; rintro e w' ⟨rfl, rfl⟩))
                  go_ret
                  exact ⟨ret_bool (by rw [Hd.out, Hfa.out (by unfold Sh.alnumB; rw [Hlx.out, Hdx.out]; rfl)]; simp), rfl⟩
                · have Hdx := Lib.hid hdx; clear hdx
                  go_wp2_with (first | (go_at_call 57; refine (refletter_any _ _).mono ?_; rw [Hlx.out]; rintro e w' ⟨rfl, rfl⟩) | (go_at_call 59; refine (refdigit_any _ _).mono ?_; rw [Hdx.out]; rintro e w' ⟨rfl, rfl⟩))
                  go_round
                  case rel => exact ⟨k + 1, by omega, by omega, by go_num, by rw [Hts.out]; unfold Sh.alnumB; rw [Hlx.out, Hdx.out]; rfl⟩
                  case measure => simp [intOf]; omega
              · have Hlx := Lib.hid hlx; clear hlx
                go_wp2_with (go_at_call 57; refine (refletter_any _ _).mono ?_; rw [Hlx.out]; rintro e w' ⟨rfl, rfl⟩)
                go_round
                case rel => exact ⟨k + 1, by omega, by omega, by go_num, by rw [Hts.out]; unfold Sh.alnumB; rw [Hlx.out]; rfl⟩
                case measure => simp [intOf]; omega
            · have hall : s.toList.all Sh.alnumB = true := by
                have := Hall.out
                rwa [List.take_of_length_le (by rw [Hl.out]; omega)] at this
              have hv := Hd.out
              rw [Hb.out, hall, Hw.out] at hv
              have Hv := Lib.hid hv; clear hv
              clear hall
              go_wp2
              go_ret
              exact ⟨ret_bool Hv.out.symm, rfl⟩
        · have Hw := Lib.hid hw; clear hw
          go_enter Tryd.func18, Tryd.ntmps18
          go_wp2_with (first | (go_at_call 57; refine (refletter_any _ _).mono ?_; rw [Hb.out]; rintro e w' ⟨rfl, rfl⟩) | (go_at_call 58; refine (refword_any _ _).mono ?_; rw [Hw.out]; rintro e w' ⟨rfl, rfl⟩))
          go_ret
          exact ⟨ret_bool (by rw [Hd.out, Hw.out]; simp), rfl⟩

end Go.Proofs.YtbddchonhicpiaaDoor
