/-
  Walks: shape.find, its literal, slices.IndexFunc at it.
-/
import Derived.Test.YtbddchonhicpiaaDoorValid
import Derived.Test.YtbddchonhicpiaaDoorSpec2
import Derived.Shelf.Abstract
namespace Go.Proofs.YtbddchonhicpiaaDoor
open Go.RowKit

set_option maxHeartbeats 400000 in
theorem findlit_any (r : Sh.Rel) (v : Value) (nm : ByteArray) (ar : Int) (G : Nat) (w : World) (hG : G < w.heap.size) (h0 : w.cell? ⟨G, 0, none⟩ = some (.string nm)) (h1 : w.cell? ⟨G, 1, none⟩ = some (.int .i64 ar)) :
    Calls Tryd.prog 89 #[.agg #[.string r.name, .int .i64 r.arity, v], .pointer (some ⟨G, 0, none⟩)] w fun e w' => e = .returned (.bool (Sh.symB nm.toList ar r)) ∧ Below w.heap.size w w' := by
  go_enter Tryd.func89, Tryd.ntmps89
  go_wp2
  all_goals go_ret
  all_goals refine ⟨ret_bool ?_, (Below.refl _ _).alloc (Nat.le_refl _) _⟩
  all_goals simp_all [Sh.symB]
  all_goals rfl

theorem findlit_enters : ∀ args w, (callFunc 89 args).run Tryd.prog w = .ok (.enter 89 args) w := enters_of Tryd.func89 (by kernel_rfl) rfl

set_option maxRecDepth 100000 in
set_option maxHeartbeats 400000 in
theorem indexfunc_any (v : Value) (rs : List Sh.Rel) (nm : ByteArray) (ar : Int) (G : Nat) (w : World) (B : Nat) (hB : B ≤ w.heap.size) (h : Rels w B v rs)
    (hG : G < w.heap.size) (h0 : w.cell? ⟨G, 0, none⟩ = some (.string nm)) (h1 : w.cell? ⟨G, 1, none⟩ = some (.int .i64 ar)) :
    Calls Tryd.prog 88 #[v, .func (.func 89) #[] #[.pointer (some ⟨G, 0, none⟩)]] w
      fun e w' => e = .returned (.int .i64 (Sh.findI nm.toList ar rs)) ∧ Below w.heap.size w w' := by
  have h' := h
  obtain ⟨A, len, c, rfl, hlen, hmax, -⟩ := h'
  have Hlen := Lib.hid hlen; clear hlen
  have eg := findlit_enters
  go_enter Tryd.func88, Tryd.ntmps88
  go_wp2
  go_loopw [8] (fun i wr => ∃ k : Nat, k ≤ len ∧ i = .int .i64 k ∧ Sh.NoneOf nm.toList ar rs k ∧ Below w.heap.size w wr) (fun i _ => len - (intOf i).toNat)
  case atStart => exact ⟨0, Nat.zero_le _, rfl, fun j r hj => absurd hj (Nat.not_lt_zero _), Below.refl _ _⟩
  case round =>
    obtain ⟨k, hk, rfl, hno, hbel⟩ := hrel
    have hsz := hbel.size
    by_cases hlt : k < len
    · obtain ⟨ad, u, r, rfl, hb, hr, hc0, hc1, hc2, htu, hrs⟩ := (h.below (hbel.mono hB)).at_ hlt
      have hcall := findlit_any r u nm ar G wr (by omega) ((hbel.cell (p := ⟨G, 0, none⟩) hG).trans h0) ((hbel.cell (p := ⟨G, 1, none⟩) hG).trans h1)
      have Hr := Lib.hid hr; clear hr
      clear htu h0 h1
      cases hs : Sh.symB nm.toList ar r
      · rw [hs] at hcall
        have Hcall := Lib.hid hcall; clear hcall
        have Hs := Lib.hid hs; clear hs
        go_wp2_with (go_at_fn 89; refine (Hcall.out).mono ?_; rintro e w1 ⟨rfl, hb1⟩)
        exact ⟨⟨k + 1, by omega, by go_num, hno.succ Hr.out Hs.out, hbel.trans (hb1.mono hsz)⟩, by simp [intOf]; omega⟩
      · rw [hs] at hcall
        have Hcall := Lib.hid hcall; clear hcall
        have Hs := Lib.hid hs; clear hs
        go_wp2_with (go_at_fn 89; refine (Hcall.out).mono ?_; rintro e w1 ⟨rfl, hb1⟩)
        go_ret
        exact ⟨ret_int (Sh.findI_hit hno Hr.out Hs.out).symm, hbel.trans (hb1.mono hsz)⟩
    · obtain rfl : k = len := by omega
      clear h0 h1
      go_wp2
      go_ret
      exact ⟨ret_int (Sh.findI_none (by rw [← Hlen.out]; exact hno)).symm, hbel⟩

set_option maxRecDepth 100000 in
set_option maxHeartbeats 400000 in
theorem find_any (size : Int) (v : Value) (rs : List Sh.Rel) (nm : ByteArray) (ar : Int) (w : World) (B : Nat) (hB : B ≤ w.heap.size) (h : Rels w B v rs) :
    Calls Tryd.prog 70 #[.agg #[.int .i64 size, v], .agg #[.string nm, .int .i64 ar]] w
      fun e w' => e = .returned (.int .i64 (Sh.findI nm.toList ar rs)) ∧ Below w.heap.size w w' := by
  have h' := h
  obtain ⟨A, len, c, rfl, -, -, -⟩ := h'
  have hbel : Below w.heap.size w ((w.alloc (.cells #[.int .i64 size, .slice A len c] 24)).alloc (.cells #[.string nm, .int .i64 ar] 85)) :=
    ((Below.refl _ _).alloc (Nat.le_refl _) _).alloc (by simp) _
  have hcall := indexfunc_any (.slice A len c) rs nm ar (w.heap.size + 1) ((w.alloc (.cells #[.int .i64 size, .slice A len c] 24)).alloc (.cells #[.string nm, .int .i64 ar] 85)) B
    (by simp; omega) (h.below (hbel.mono hB)) (by simp) (by simp [go_sem]) (by simp [go_sem])
  have Hcall := Lib.hid hcall; clear hcall
  go_enter Tryd.func70, Tryd.ntmps70
  go_wp2_with (go_at_call 88; refine (Hcall.out).mono ?_; rintro e w1 ⟨rfl, hb1⟩)
  go_ret
  exact ⟨rfl, hbel.trans (hb1.mono (by simp; omega))⟩

end Go.Proofs.YtbddchonhicpiaaDoor
