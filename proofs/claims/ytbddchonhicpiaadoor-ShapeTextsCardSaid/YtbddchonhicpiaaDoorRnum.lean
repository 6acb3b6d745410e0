/-
  Walk: the reference's number.
-/
import Derived.Test.YtbddchonhicpiaaDoorTextr
import Derived.Test.YtbddchonhicpiaaDoorName
import Derived.Test.YtbddchonhicpiaaDoorRead
namespace Go.Proofs.YtbddchonhicpiaaDoor
open Go.RowKit

def NumPost (s : ByteArray) (w : World) (e : Ending) (w' : World) : Prop :=
  (∃ r : ByteArray, e = .returned (.tuple #[.int .i64 (Tx.numR s.toList).1, .string r]) ∧ r.toList = (Tx.numR s.toList).2) ∧ ∃ n, w' = w.drewN n
theorem NumPost.mk {s : ByteArray} {w w' : World} {k : Int} {r : ByteArray} (h : Tx.numR s.toList = (k, r.toList)) (hw : ∃ n, w' = w.drewN n) : NumPost s w (.returned (.tuple #[.int .i64 k, .string r])) w' :=
  ⟨⟨r, by rw [h], by rw [h]⟩, hw⟩

theorem bytes_cons {s : ByteArray} (h : 0 < s.size) : s.toList = s[0] :: (s.extract 1 s.size).toList := by
  rw [extract_drop]
  have hl : 0 < s.toList.length := by rw [length_bytes]; exact h
  have := List.drop_eq_getElem_cons hl
  rw [List.drop_zero] at this
  rw [this, get_bytes s 0 h]
  simp
theorem bytes_cons2 {s : ByteArray} (h : 1 < s.size) : s.toList = s[0] :: s[1] :: (s.extract 2 s.size).toList := by
  have h1 := bytes_cons (s := s) (by omega)
  rw [extract_drop] at h1 ⊢
  have hl : 1 < s.toList.length := by rw [length_bytes]; exact h
  have := List.drop_eq_getElem_cons hl
  rw [this, get_bytes s 1 h] at h1
  exact h1

set_option maxRecDepth 100000 in
set_option maxHeartbeats 1000000 in
theorem rnum_two (s : ByteArray) (w : World) (hs : s.size ≤ 50000) (h1 : 1 < s.size) (hc : 49 ≤ s[0].toNat ∧ s[0].toNat ≤ 57) (hd : Sh.digitB s[1].toNat = true) :
    Calls Tryd.prog 83 #[.string s] w (NumPost s w) := by
  have hn := Tx.numR_two (c := s[0]) (d := s[1]) (s.extract 2 s.size).toList hc hd
  rw [← bytes_cons2 h1] at hn
  have hdd := (Tx.dig_iff s[1]).1 hd
  have h0 : 0 < s.size := by omega
  have g0 : (49 : Int) ≤ (s[0].toNat : Int) := by omega
  have g1 : (s[0].toNat : Int) ≤ 57 := by omega
  have Hn := Lib.hid hn; clear hn
  have Hd := Lib.hid hd; clear hd
  go_enter Tryd.func83, Tryd.ntmps83
  go_wp2_with (go_at_call 59; refine (refdigit_any _ _).mono ?_; rw [Hd.out]; rintro e w' ⟨rfl, rfl⟩)
  go_quiet (fail)
  go_wp2
  go_ret2
  refine NumPost.mk ?_ ⟨nq, rfl⟩
  rw [Hn.out]
  congr 1
  omega

/-- The second byte makes no number of two digits. -/
def NotTwo (s : ByteArray) : Prop := ∀ h : 1 < s.size, ¬ ((49 ≤ (s[0]'(by omega)).toNat ∧ (s[0]'(by omega)).toNat ≤ 57) ∧ Sh.digitB s[1].toNat = true)

theorem numR_one_at {s : ByteArray} (h0 : 0 < s.size) (hc : Sh.digitB s[0].toNat = true) (hno : NotTwo s) : Tx.numR s.toList = (((s[0].toNat - 48 : Nat) : Int), (s.extract 1 s.size).toList) := by
  have hn := Tx.numR_one (c := s[0]) (s.extract 1 s.size).toList hc (fun d r' e hh => by
    by_cases h1 : 1 < s.size
    · have e2 := bytes_cons2 h1
      rw [bytes_cons h0, e] at e2
      injection e2 with _ e2
      injection e2 with e2 _
      rw [e2] at hh
      exact hno h1 hh
    · have := congrArg List.length e
      rw [length_bytes, ByteArray.size_extract, List.length_cons] at this
      omega)
  rw [← bytes_cons h0] at hn
  exact hn

set_option maxRecDepth 100000 in
set_option maxHeartbeats 1000000 in
theorem rnum_one (s : ByteArray) (w : World) (hs : s.size ≤ 50000) (h0 : 0 < s.size) (hc : Sh.digitB s[0].toNat = true) (hno : NotTwo s) :
    Calls Tryd.prog 83 #[.string s] w (NumPost s w) := by
  have hn := numR_one_at h0 hc hno
  have hcd := (Tx.dig_iff s[0]).1 hc
  have Hn := Lib.hid hn; clear hn
  have Hc := Lib.hid hc; clear hc
  by_cases h1 : 1 < s.size
  · by_cases h49 : 49 ≤ s[0].toNat
    · have hd : Sh.digitB s[1].toNat = false := by
        rw [Bool.eq_false_iff]
        exact fun h => hno h1 ⟨⟨h49, hcd.2⟩, h⟩
      have g0 : (49 : Int) ≤ (s[0].toNat : Int) := by omega
      have g1 : (s[0].toNat : Int) ≤ 57 := by omega
      have Hd := Lib.hid hd; clear hd hno
      go_enter Tryd.func83, Tryd.ntmps83
      go_wp2_with (go_at_call 59; refine (refdigit_any _ _).mono ?_; (first | rw [Hd.out] | rw [Hc.out]); rintro e w' ⟨rfl, rfl⟩)
      go_quiet (fail)
      go_wp2
      go_ret2
      refine NumPost.mk ?_ ⟨nq, rfl⟩
      rw [Hn.out]
      congr 1
      omega
    · have g0 : ¬ (49 : Int) ≤ (s[0].toNat : Int) := by omega
      clear hno
      go_enter Tryd.func83, Tryd.ntmps83
      go_wp2_with (go_at_call 59; refine (refdigit_any _ _).mono ?_; rw [Hc.out]; rintro e w' ⟨rfl, rfl⟩)
      go_quiet (fail)
      go_wp2
      go_ret2
      refine NumPost.mk ?_ ⟨nq, rfl⟩
      rw [Hn.out]
      congr 1
      omega
  · clear hno
    go_enter Tryd.func83, Tryd.ntmps83
    go_wp2_with (go_at_call 59; refine (refdigit_any _ _).mono ?_; rw [Hc.out]; rintro e w' ⟨rfl, rfl⟩)
    go_quiet (fail)
    go_wp2
    go_ret2
    refine NumPost.mk ?_ ⟨nq, rfl⟩
    rw [Hn.out]
    congr 1
    omega

set_option maxRecDepth 100000 in
set_option maxHeartbeats 1000000 in
theorem rnum_bad (s : ByteArray) (w : World) (hs : s.size ≤ 50000) (h0 : 0 < s.size) (hc : Sh.digitB s[0].toNat = false) :
    Calls Tryd.prog 83 #[.string s] w (NumPost s w) := by
  have hn := Tx.numR_bad (c := s[0]) (s.extract 1 s.size).toList hc
  rw [← bytes_cons h0] at hn
  have hcd : ¬ (48 ≤ s[0].toNat ∧ s[0].toNat ≤ 57) := fun h => by
    have := (Tx.dig_iff s[0]).2 h
    unfold Tx.dig at this
    rw [this] at hc
    cases hc
  have Hn := Lib.hid hn; clear hn
  have Hc := Lib.hid hc; clear hc
  by_cases h1 : 1 < s.size
  · by_cases h49 : 49 ≤ s[0].toNat
    · have g0 : (49 : Int) ≤ (s[0].toNat : Int) := by omega
      have g1 : ¬ (s[0].toNat : Int) ≤ 57 := by omega
      go_enter Tryd.func83, Tryd.ntmps83
      go_wp2_with (go_at_call 59; refine (refdigit_any _ _).mono ?_; rw [Hc.out]; rintro e w' ⟨rfl, rfl⟩)
      go_ret2
      exact NumPost.mk Hn.out ⟨0, rfl⟩
    · have g0 : ¬ (49 : Int) ≤ (s[0].toNat : Int) := by omega
      go_enter Tryd.func83, Tryd.ntmps83
      go_wp2_with (go_at_call 59; refine (refdigit_any _ _).mono ?_; rw [Hc.out]; rintro e w' ⟨rfl, rfl⟩)
      go_ret2
      exact NumPost.mk Hn.out ⟨0, rfl⟩
  · go_enter Tryd.func83, Tryd.ntmps83
    go_wp2_with (go_at_call 59; refine (refdigit_any _ _).mono ?_; rw [Hc.out]; rintro e w' ⟨rfl, rfl⟩)
    go_ret2
    exact NumPost.mk Hn.out ⟨0, rfl⟩

set_option maxRecDepth 100000 in
set_option maxHeartbeats 1000000 in
theorem rnum_none (s : ByteArray) (w : World) (h0 : s.size = 0) :
    Calls Tryd.prog 83 #[.string s] w (NumPost s w) := by
  have he : s.toList = [] := List.eq_nil_of_length_eq_zero (by rw [length_bytes]; exact h0)
  have hn : Tx.numR s.toList = (-1, s.toList) := by rw [he]; rfl
  have Hn := Lib.hid hn; clear hn he
  go_enter Tryd.func83, Tryd.ntmps83
  go_wp2
  go_ret2
  exact NumPost.mk Hn.out ⟨0, rfl⟩

theorem rnumber_any (s : ByteArray) (w : World) (hs : s.size ≤ 50000) :
    Calls Tryd.prog 83 #[.string s] w (NumPost s w) := by
  rcases Nat.eq_zero_or_pos s.size with h0 | h0
  · exact rnum_none s w h0
  · cases hc : Sh.digitB s[0].toNat
    · exact rnum_bad s w hs h0 hc
    · by_cases h2 : ∃ h1 : 1 < s.size, 49 ≤ s[0].toNat ∧ Sh.digitB s[1].toNat = true
      · obtain ⟨h1, h49, hd⟩ := h2
        exact rnum_two s w hs h1 ⟨h49, ((Tx.dig_iff s[0]).1 hc).2⟩ hd
      · exact rnum_one s w hs h0 hc (fun h1 hh => h2 ⟨h1, hh.1.1, hh.2⟩)

end Go.Proofs.YtbddchonhicpiaaDoor
