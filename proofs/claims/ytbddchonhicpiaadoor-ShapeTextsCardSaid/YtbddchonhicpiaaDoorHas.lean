/-
  Walks: shape.relationFor, place, slices.BinarySearchFunc at it, Has.
-/
import Derived.Test.YtbddchonhicpiaaDoorFind
import Derived.Test.YtbddchonhicpiaaDoorSpec2
namespace Go.Proofs.YtbddchonhicpiaaDoor
open Go.RowKit

set_option maxRecDepth 100000 in
set_option maxHeartbeats 400000 in
theorem relationFor_any (size : Int) (v : Value) (rs : List Sh.Rel) (nm : ByteArray) (u : Value) (t : List Int) (w : World) (B : Nat) (hB : B ≤ w.heap.size) (h : Rels w B v rs) (ht : Ints w B u t) :
    Calls Tryd.prog 61 #[.agg #[.int .i64 size, v], .string nm, u] w
      fun e w' => e = .returned (.tuple #[.int .i64 (Sh.relForE ⟨size, rs⟩ nm.toList t.length).1, .int .i64 (Sh.relForE ⟨size, rs⟩ nm.toList t.length).2]) ∧ Below w.heap.size w w' := by
  have h' := h
  obtain ⟨A, len, c, rfl, -, -, -⟩ := h'
  have ht' := ht
  obtain ⟨A2, n2, c2, rfl, hn2, hm2, -⟩ := ht'
  have hdef : Sh.relForE ⟨size, rs⟩ nm.toList t.length = if Sh.validB ⟨size, rs⟩ = false then (0, 1) else if Sh.findI nm.toList n2 rs < 0 then (0, 4) else (Sh.findI nm.toList n2 rs, 0) := by rw [hn2]; rfl
  rw [hdef]
  clear hdef
  have Hn2 := Lib.hid hn2; clear hn2
  have hb0 : Below w.heap.size w (w.alloc (.cells #[.int .i64 size, .slice A len c] 24)) := (Below.refl _ _).alloc (Nat.le_refl _) _
  have hbox := Blk.new w 24 #[.int .i64 size, .slice A len c]
  cases hvb : Sh.validB ⟨size, rs⟩
  · rw [if_pos rfl]
    have hcall := valid_any size (.slice A len c) rs (w.alloc (.cells #[.int .i64 size, .slice A len c] 24)) B (by simp; omega) (h.below (hb0.mono hB))
    rw [hvb] at hcall
    have Hcall := Lib.hid hcall; clear hcall
    have Hvb := Lib.hid hvb; clear hvb
    go_enter Tryd.func61, Tryd.ntmps61
    go_wp2_with (go_at_call 16; refine (Hcall.out).mono ?_; rintro e w1 ⟨rfl, hb1⟩)
    go_ret2
    exact ⟨rfl, hb0.trans (hb1.mono (by simp))⟩
  · rw [if_neg (by simp)]
    have hcall := valid_any size (.slice A len c) rs (w.alloc (.cells #[.int .i64 size, .slice A len c] 24)) B (by simp; omega) (h.below (hb0.mono hB))
    rw [hvb] at hcall
    have Hcall := Lib.hid hcall; clear hcall
    have Hvb := Lib.hid hvb; clear hvb
    by_cases hf : Sh.findI nm.toList n2 rs < 0
    · rw [if_pos hf]
      go_enter Tryd.func61, Tryd.ntmps61
      go_wp2_with (first
        | (go_at_call 16
           refine (Hcall.out).mono ?_
           rintro e w1 ⟨rfl, hb1⟩
           have c0 : w1.cell? ⟨w.heap.size, 0, none⟩ = some (.int .i64 size) := (hbox.below hb1 (by simp)).cell 0
           have c1 : w1.cell? ⟨w.heap.size, 1, none⟩ = some (.slice A len c) := (hbox.below hb1 (by simp)).cell 1
           have hbw1 : Below w.heap.size w w1 := hb0.trans (hb1.mono (by simp))
           have hcall2 := find_any size (.slice A len c) rs nm n2 w1 B (by have := hbw1.size; omega) (h.below (hbw1.mono hB))
           have Hcall2 := Lib.hid hcall2; clear hcall2
           clear hb1)
        | (go_at_call 70; refine (Hcall2.out).mono ?_; rintro e w2 ⟨rfl, hb2⟩))
      go_ret2
      exact ⟨rfl, hbw1.trans (hb2.mono hbw1.size)⟩
    · rw [if_neg hf]
      go_enter Tryd.func61, Tryd.ntmps61
      go_wp2_with (first
        | (go_at_call 16
           refine (Hcall.out).mono ?_
           rintro e w1 ⟨rfl, hb1⟩
           have c0 : w1.cell? ⟨w.heap.size, 0, none⟩ = some (.int .i64 size) := (hbox.below hb1 (by simp)).cell 0
           have c1 : w1.cell? ⟨w.heap.size, 1, none⟩ = some (.slice A len c) := (hbox.below hb1 (by simp)).cell 1
           have hbw1 : Below w.heap.size w w1 := hb0.trans (hb1.mono (by simp))
           have hcall2 := find_any size (.slice A len c) rs nm n2 w1 B (by have := hbw1.size; omega) (h.below (hbw1.mono hB))
           have Hcall2 := Lib.hid hcall2; clear hcall2
           clear hb1)
        | (go_at_call 70; refine (Hcall2.out).mono ?_; rintro e w2 ⟨rfl, hb2⟩))
      go_ret2
      exact ⟨rfl, hbw1.trans (hb2.mono hbw1.size)⟩

theorem compare_enters : ∀ args w, (callFunc 74 args).run Tryd.prog w = .ok (.enter 74 args) w := enters_of Tryd.func74 (by kernel_rfl) rfl

set_option maxRecDepth 100000 in
set_option maxHeartbeats 400000 in
theorem bsearch_any (v u : Value) (ts : List (List Int)) (t : List Int) (w : World) (B : Nat) (h : Tups w B v ts) (ht : Ints w B u t) (hm : Sh.Mono ts t) :
    Calls Tryd.prog 85 #[v, u, .func (.func 74) #[] #[]] w
      fun e w' => e = .returned (.tuple #[.int .i64 (Sh.lbN ts t : Nat), .bool (Sh.foundB ts t)]) ∧ w = w' := by
  have h' := h
  obtain ⟨A, len, c, rfl, hlen, hmax, -⟩ := h'
  have Hlen := Lib.hid hlen; clear hlen
  have eg := compare_enters
  have Hm := Lib.hid hm; clear hm
  go_enter Tryd.func85, Tryd.ntmps85
  go_wp2
  go_loop [9, 10] (fun p q => ∃ i j : Nat, i ≤ j ∧ j ≤ len ∧ p = .int .i64 i ∧ q = .int .i64 j ∧ Sh.Between ts t i j) (fun p q => (intOf q - intOf p).toNat)
  case atStart => exact ⟨0, len, Nat.zero_le _, Nat.le_refl _, rfl, rfl, fun x hx => absurd hx (Nat.not_lt_zero _), fun x hx hl => by have := Hlen.out; omega⟩
  case round =>
    obtain ⟨i, j, hij, hj, rfl, rfl, hbt⟩ := hrel
    by_cases hlt : i < j
    · have hm1 : i ≤ (i + j) / 2 := by omega
      have hm2 : (i + j) / 2 < j := by omega
      obtain ⟨ad, x, rfl, hb, hcx, hix⟩ := h.at_ (show (i + j) / 2 < len by omega)
      have hcall := compare_any x u _ t w B hix ht
      generalize hci : Sh.cmpI (ts.getD ((i + j) / 2) []) t = ci at hcall
      have Hci := Lib.hid hci; clear hci
      by_cases hc0 : ci < 0
      · have hbt' := hbt.left (m := (i + j) / 2) Hm.out (by have := Hlen.out; omega) (by rw [Hci.out]; exact hc0)
        have Hbt' := Lib.hid hbt'; clear hbt'
        go_wp2_with (go_at_fn 74; refine hcall.mono ?_; rintro e w' ⟨rfl, rfl⟩)
        go_round
        case rel => exact ⟨(i + j) / 2 + 1, j, by omega, hj, by go_num, rfl, Hbt'.out⟩
        case measure => simp [intOf]; omega
      · have hbt' := hbt.right (m := (i + j) / 2) Hm.out (by rw [Hci.out]; exact hc0)
        have Hbt' := Lib.hid hbt'; clear hbt'
        go_wp2_with (go_at_fn 74; refine hcall.mono ?_; rintro e w' ⟨rfl, rfl⟩)
        go_round
        case rel => exact ⟨i, (i + j) / 2, by omega, by omega, rfl, by go_num, Hbt'.out⟩
        case measure => simp [intOf]; omega
    · obtain rfl : i = j := by omega
      have hlb := Sh.lbN_eq (i := i) (ts := ts) (by have := Hlen.out; omega) hbt
      have hfd : Sh.foundB ts t = (decide (i < len) && decide (Sh.cmpI (ts.getD i []) t = 0)) := by unfold Sh.foundB; rw [hlb, ← Hlen.out]
      have Hlb := Lib.hid hlb; clear hlb
      have Hfd := Lib.hid hfd; clear hfd
      by_cases hil : i < len
      · obtain ⟨ad, x, rfl, hb, hcx, hix⟩ := h.at_ hil
        have hcall := compare_any x u _ t w B hix ht
        generalize hci : Sh.cmpI (ts.getD i []) t = ci at hcall
        have Hci := Lib.hid hci; clear hci
        go_wp2_with (go_at_fn 74; refine hcall.mono ?_; rintro e w' ⟨rfl, rfl⟩)
        go_ret2
        rw [Hlb.out, Hfd.out, Hci.out]
        exact ⟨by simp [hil]; rfl, rfl⟩
      · go_wp2
        go_ret2
        rw [Hlb.out, Hfd.out]
        exact ⟨by simp [hil], rfl⟩

set_option maxRecDepth 100000 in
set_option maxHeartbeats 400000 in
theorem place_any (v u : Value) (ts : List (List Int)) (t : List Int) (w : World) (B : Nat) (h : Tups w B v ts) (ht : Ints w B u t) (hm : Sh.Mono ts t) :
    Calls Tryd.prog 62 #[v, u] w
      fun e w' => e = .returned (.tuple #[.int .i64 (Sh.lbN ts t : Nat), .bool (Sh.foundB ts t)]) ∧ w = w' := by
  have hcall := bsearch_any v u ts t w B h ht hm
  have Hcall := Lib.hid hcall; clear hcall
  clear hm
  go_enter Tryd.func62, Tryd.ntmps62
  go_wp2_with (go_at_call 85; refine (Hcall.out).mono ?_; rintro e w' ⟨rfl, rfl⟩)
  go_ret2
  exact ⟨rfl, rfl⟩

theorem addr3 (ad : Addr) (k : Nat) : (ad.add (k * 3)).block = ad.block := block_of_add _ _

set_option maxRecDepth 100000 in
set_option maxHeartbeats 400000 in
theorem has_any (size : Int) (v : Value) (rs : List Sh.Rel) (nm : ByteArray) (u : Value) (t : List Int) (w : World) (B : Nat) (hB : B ≤ w.heap.size) (h : Rels w B v rs) (ht : Ints w B u t) :
    Calls Tryd.prog 31 #[.agg #[.int .i64 size, v], .string nm, u] w
      fun e w' => e = .returned (.tuple #[.bool (Sh.hasE ⟨size, rs⟩ nm.toList t).1, .int .i64 (Sh.hasE ⟨size, rs⟩ nm.toList t).2]) ∧ Below w.heap.size w w' := by
  have h' := h
  obtain ⟨A, len, c, rfl, hlen, -, -⟩ := h'
  have Hlen := Lib.hid hlen; clear hlen
  have hb0 : Below w.heap.size w (w.alloc (.cells #[.int .i64 size, .slice A len c] 24)) := (Below.refl _ _).alloc (Nat.le_refl _) _
  have hbox := Blk.new w 24 #[.int .i64 size, .slice A len c]
  have hcall := relationFor_any size (.slice A len c) rs nm u t (w.alloc (.cells #[.int .i64 size, .slice A len c] 24)) B (by simp; omega) (h.below (hb0.mono hB)) (ht.below (hb0.mono hB))
  have hdef : Sh.hasE ⟨size, rs⟩ nm.toList t = if (Sh.relForE ⟨size, rs⟩ nm.toList t.length).2 ≠ 0 then (false, (Sh.relForE ⟨size, rs⟩ nm.toList t.length).2)
      else match rs[(Sh.relForE ⟨size, rs⟩ nm.toList t.length).1.toNat]? with
        | some r => (Sh.foundB r.tuples t, 0)
        | none => (false, 0) := rfl
  generalize hre : Sh.relForE ⟨size, rs⟩ nm.toList t.length = re at *
  obtain ⟨i, e⟩ := re
  simp only at hcall hdef
  have Hcall := Lib.hid hcall; clear hcall
  by_cases he : e = 0
  · subst he
    rw [if_neg (by simp)] at hdef
    have hfind : ¬ Sh.validB ⟨size, rs⟩ = false ∧ ¬ Sh.findI nm.toList t.length rs < 0 ∧ i = Sh.findI nm.toList t.length rs := by
      unfold Sh.relForE at hre
      by_cases h1 : Sh.validB ⟨size, rs⟩ = false
      · rw [if_pos h1] at hre; injection hre with _ hre; exact absurd hre (by decide)
      · rw [if_neg h1] at hre
        by_cases h2 : Sh.findI nm.toList t.length rs < 0
        · rw [if_pos h2] at hre; injection hre with _ hre; exact absurd hre (by decide)
        · rw [if_neg h2] at hre; injection hre with hre _; exact ⟨h1, h2, hre.symm⟩
    obtain ⟨hvb, hfi, hie⟩ := hfind
    obtain ⟨k, r, hk, hr, hnm, har⟩ := Sh.findI_get hfi
    have hik : i = k := hie.trans hk
    subst hik
    have hvb' : Sh.validB ⟨size, rs⟩ = true := by simpa using hvb
    have hmono := (Sh.relB_rising (Sh.validB_rel hvb' hr)).mono t
    simp only [Int.toNat_natCast, hr] at hdef
    have hkl : k < len := by rw [Hlen.out]; exact (List.getElem?_eq_some_iff.1 hr).1
    have Hdef := Lib.hid hdef; clear hdef
    have Hre := Lib.hid hre; clear hre
    have Hr := Lib.hid hr; clear hr
    have Hmono := Lib.hid hmono; clear hmono
    clear hvb hvb' hfi hie hk hnm har
    go_enter Tryd.func31, Tryd.ntmps31
    go_wp2_with (first
      | (go_at_call 61
         refine (Hcall.out).mono ?_
         rintro e w1 ⟨rfl, hb1⟩
         have hbw1 : Below w.heap.size w w1 := hb0.trans (hb1.mono (by simp))
         have c1 : w1.cell? ⟨w.heap.size, 1, none⟩ = some (.slice A len c) := (hbox.below hb1 (by simp)).cell 1
         obtain ⟨ad, x, r', rfl, hb, hr', hd0, hd1, hd2, htx, -⟩ := (h.below (hbw1.mono hB)).at_ hkl
         have hrr : r' = r := Option.some.inj (hr'.symm.trans Hr.out)
         subst hrr
         have hcall2 := place_any x u r'.tuples t w1 B htx (ht.below (hbw1.mono hB)) Hmono.out
         have Hcall2 := Lib.hid hcall2; clear hcall2
         clear hb1 hr' hd0 hd1 htx)
      | (go_at_call 62; refine (Hcall2.out).mono ?_; rintro e w' ⟨rfl, rfl⟩))
    go_ret2
    rw [Hdef.out]
    exact ⟨rfl, hbw1⟩
  · rw [if_pos he] at hdef
    have Hdef := Lib.hid hdef; clear hdef
    have Hre := Lib.hid hre; clear hre
    have hne : (e == 0) = false := by simpa using he
    have hne' : (e != 0) = true := by simpa using he
    go_enter Tryd.func31, Tryd.ntmps31
    go_wp2_with (go_at_call 61; refine (Hcall.out).mono ?_; rintro e w1 ⟨rfl, hb1⟩)
    go_ret2
    rw [Hdef.out]
    exact ⟨rfl, hb0.trans (hb1.mono (by simp))⟩

end Go.Proofs.YtbddchonhicpiaaDoor
