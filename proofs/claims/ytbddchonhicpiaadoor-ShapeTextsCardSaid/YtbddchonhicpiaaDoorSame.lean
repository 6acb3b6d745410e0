/-
  Walks: the reference's SameTuples, Same at equal lists; the law's is.
-/
import Derived.Test.YtbddchonhicpiaaDoorElems
import Derived.Test.YtbddchonhicpiaaDoorOwn
import Derived.Deep.RegionHeld3
import Derived.Deep.QuietTactic
import Derived.BigQuiet
import Derived.StillTailTactics
namespace Go.Proofs.YtbddchonhicpiaaDoor
open Go.RowKit

set_option maxRecDepth 100000 in
set_option maxHeartbeats 400000 in
theorem sametuples_eq (v u : Value) (ts : List (List Int)) (w : World) (B : Nat) (h : Tups w B v ts) (g : Tups w B u ts) :
    Calls Tryd.prog 75 #[v, u] w fun e w' => e = .returned (.bool true) ∧ ∃ n, w' = w.drewN n := by
  have h' := h
  have g' := g
  obtain ⟨A, len, c, rfl, hlen, hmax, -⟩ := h'
  obtain ⟨A', len', c', rfl, glen, gmax, -⟩ := g'
  obtain rfl : len = len' := by omega
  have Hlen := Lib.hid hlen; clear hlen
  clear glen gmax
  go_enter Tryd.func75, Tryd.ntmps75
  go_wp2
  go_loopw [5] (fun i wr => ∃ k m : Nat, k ≤ len ∧ i = .int .i64 k ∧ wr = w.drewN m) (fun i _ => len - (intOf i).toNat)
  case atStart => exact ⟨0, 0, Nat.zero_le _, rfl, rfl⟩
  case round =>
    obtain ⟨k, m, hk, rfl, rfl⟩ := hrel
    by_cases hlt : k < len
    · obtain ⟨ad, x, rfl, -, h1, hx⟩ := h.at_ hlt
      obtain ⟨ad', y, rfl, -, g1, hy⟩ := g.at_ hlt
      have hcall := fun W (h1 : Ints W B x (ts.getD k [])) (h2 : Ints W B y (ts.getD k [])) => equal_any x y (ts.getD k []) (ts.getD k []) W B h1 h2
      rw [(Sh.eqB_iff _ _).2 rfl] at hcall
      have Hcall := Lib.hid hcall; clear hcall
      go_wp2
      go_quiet ((go_at_call 27; exact quiet_add (Hcall.out _ hx hy)))
      go_wp2
      exact ⟨⟨k + 1, _, by omega, by go_num, rfl⟩, by simp [intOf]; omega⟩
    · go_wp2
      go_ret
      exact ⟨rfl, _, rfl⟩

set_option maxRecDepth 100000 in
set_option maxHeartbeats 400000 in
theorem same_eq (size : Int) (v u : Value) (rs : List Sh.Rel) (w : World) (B : Nat) (hB : B ≤ w.heap.size) (h : Rels w B v rs) (g : Rels w B u rs) :
    Calls Tryd.prog 46 #[.agg #[.int .i64 size, v], .agg #[.int .i64 size, u]] w fun e w' => e = .returned (.bool true) ∧ Below w.heap.size w w' := by
  have h' := h
  have g' := g
  obtain ⟨A, len, c, rfl, hlen, hmax, -⟩ := h'
  obtain ⟨A', len', c', rfl, glen, gmax, -⟩ := g'
  obtain rfl : len = len' := by omega
  have Hlen := Lib.hid hlen; clear hlen
  clear glen gmax
  go_enter Tryd.func46, Tryd.ntmps46
  go_wp2
  have hb2 : Below w.heap.size w ((w.alloc (.cells #[.int .i64 size, .slice A len c] 24)).alloc (.cells #[.int .i64 size, .slice A' len c'] 24)) :=
    ((Below.refl _ _).alloc (Nat.le_refl _) _).alloc (by simp) _
  have hx2 : Blk ((w.alloc (.cells #[.int .i64 size, .slice A len c] 24)).alloc (.cells #[.int .i64 size, .slice A' len c'] 24)) w.heap.size 24 #[.int .i64 size, .slice A len c] := (Blk.new _ _ _).alloc _
  have hy2 : Blk ((w.alloc (.cells #[.int .i64 size, .slice A len c] 24)).alloc (.cells #[.int .i64 size, .slice A' len c'] 24)) (w.heap.size + 1) 24 #[.int .i64 size, .slice A' len c'] := by
    have := Blk.new (w.alloc (.cells #[.int .i64 size, .slice A len c] 24)) 24 #[.int .i64 size, .slice A' len c']
    rw [World.size_alloc] at this
    exact this
  generalize ((w.alloc (.cells #[.int .i64 size, .slice A len c] 24)).alloc (.cells #[.int .i64 size, .slice A' len c'] 24)) = W2 at *
  go_loopw [5] (fun i wr => ∃ k : Nat, k ≤ len ∧ i = .int .i64 k ∧ Blk wr w.heap.size 24 #[.int .i64 size, .slice A len c] ∧ Blk wr (w.heap.size + 1) 24 #[.int .i64 size, .slice A' len c'] ∧ Below w.heap.size w wr) (fun i _ => len - (intOf i).toNat)
  case atStart => exact ⟨0, Nat.zero_le _, rfl, hx2, hy2, hb2⟩
  case round =>
    obtain ⟨k, hk, rfl, hx, hy, hbel⟩ := hrel
    clear hx2 hy2 hb2
    have hy1 : wr.cell? ⟨w.heap.size + 1, 1, none⟩ = some (.slice A' len c') := hy.cell 1
    have hx1 : wr.cell? ⟨w.heap.size, 1, none⟩ = some (.slice A len c) := hx.cell 1
    have hbz := hbel.size
    by_cases hlt : k < len
    · obtain ⟨ad, p, r, rfl, hb, hr, c0, c1, c2, htp, -⟩ := (h.below (hbel.mono hB)).at_ hlt
      obtain ⟨ad', q, r', rfl, hb', hr', d0, d1, d2, htq, -⟩ := (g.below (hbel.mono hB)).at_ hlt
      obtain rfl : r = r' := Option.some.inj (hr.symm.trans hr')
      clear hr hr'
      have htp' := htp
      obtain ⟨PA, PN, PC, rfl, -⟩ := htp'
      have htq' := htq
      obtain ⟨QA, QN, QC, rfl, -⟩ := htq'
      have hxl := hx.lt
      have hyl := hy.lt
      have hall : ∀ W, Below wr.heap.size wr W → (W.cell? ⟨w.heap.size, 1, none⟩ = some (.slice (some ad) len c) ∧ W.cell? ⟨w.heap.size + 1, 1, none⟩ = some (.slice (some ad') len c') ∧
          W.cell? (ad.add (k * 3)) = some (.string r.name) ∧ W.cell? ⟨(ad.add (k * 3)).block, (ad.add (k * 3)).off + 1, none⟩ = some (.int .i64 r.arity) ∧ W.cell? ⟨(ad.add (k * 3)).block, (ad.add (k * 3)).off + 2, none⟩ = some (.slice PA PN PC) ∧
          W.cell? (ad'.add (k * 3)) = some (.string r.name) ∧ W.cell? ⟨(ad'.add (k * 3)).block, (ad'.add (k * 3)).off + 1, none⟩ = some (.int .i64 r.arity) ∧ W.cell? ⟨(ad'.add (k * 3)).block, (ad'.add (k * 3)).off + 2, none⟩ = some (.slice QA QN QC) ∧ Below wr.heap.size wr W) := fun W hW =>
        ⟨(hW.cell (p := ⟨w.heap.size, 1, none⟩) hxl).trans hx1, (hW.cell (p := ⟨w.heap.size + 1, 1, none⟩) hyl).trans hy1, (hW.cell (by rw [block_of_add]; omega)).trans c0, (hW.cell (by show (ad.add _).block < _; rw [block_of_add]; omega)).trans c1, (hW.cell (by show (ad.add _).block < _; rw [block_of_add]; omega)).trans c2,
         (hW.cell (by rw [block_of_add]; omega)).trans d0, (hW.cell (by show (ad'.add _).block < _; rw [block_of_add]; omega)).trans d1, (hW.cell (by show (ad'.add _).block < _; rw [block_of_add]; omega)).trans d2, hW⟩
      have hst : ∀ W, Below wr.heap.size wr W → Calls Tryd.prog 75 #[.slice PA PN PC, .slice QA QN QC] W fun e w' => e = .returned (.bool true) ∧ ∃ n, w' = W.drewN n := fun W hW =>
        sametuples_eq _ _ r.tuples W B (htp.below (hW.mono (by omega))) (htq.below (hW.mono (by omega)))
      have Hst := Lib.hid hst; clear hst
      have Hall := Lib.hid hall; clear hall
      have Hx := Lib.hid hx; clear hx
      have Hy := Lib.hid hy; clear hy
      go_wp2
      go_region_held3 (fun W => W.cell? ⟨w.heap.size, 1, none⟩ = some (.slice (some ad) len c) ∧ W.cell? ⟨w.heap.size + 1, 1, none⟩ = some (.slice (some ad') len c') ∧
          W.cell? (ad.add (k * 3)) = some (.string r.name) ∧ W.cell? ⟨(ad.add (k * 3)).block, (ad.add (k * 3)).off + 1, none⟩ = some (.int .i64 r.arity) ∧ W.cell? ⟨(ad.add (k * 3)).block, (ad.add (k * 3)).off + 2, none⟩ = some (.slice PA PN PC) ∧
          W.cell? (ad'.add (k * 3)) = some (.string r.name) ∧ W.cell? ⟨(ad'.add (k * 3)).block, (ad'.add (k * 3)).off + 1, none⟩ = some (.int .i64 r.arity) ∧ W.cell? ⟨(ad'.add (k * 3)).block, (ad'.add (k * 3)).off + 2, none⟩ = some (.slice QA QN QC) ∧ Below wr.heap.size wr W)
        (first
          | assumption
          | (refine Hall.out _ ?_
             repeat (first | exact Below.refl _ _ | refine Below.drew ?_ | refine Below.setCell ?_ (by simp) _ | refine Below.alloc ?_ (by simp) _)))
        (fail)
      all_goals
        go_wp2_with (go_at_call 75
                     refine (Hst.out _ (by repeat (first | exact Below.refl _ _ | refine Below.drew ?_ | refine Below.setCell ?_ (by simp) _ | refine Below.alloc ?_ (by simp) _))).mono ?_
                     rintro e w9 ⟨rfl, n, rfl⟩)
        have hbw := fun W (hW : Below wr.heap.size wr W) => (⟨Hx.out.below hW (by omega), Hy.out.below hW (by omega), hbel.trans (hW.mono hbz)⟩ : Blk W w.heap.size 24 #[.int .i64 size, .slice (some ad) len c] ∧ Blk W (w.heap.size + 1) 24 #[.int .i64 size, .slice (some ad') len c'] ∧ Below w.heap.size w W)
        exact ⟨⟨k + 1, by omega, by go_num, hbw _ (by
          repeat (first | exact Below.refl _ _ | refine below_drewN ?_ _ | refine Below.drew ?_ | refine Below.setCell ?_ (by simp) _ | refine Below.alloc ?_ (by simp) _))⟩, by simp [intOf]; omega⟩
    · go_wp2
      go_ret
      exact ⟨rfl, hbel⟩

theorem Rels.nil (w : World) (B : Nat) : Rels w B (.slice none 0 0) [] := ⟨_, _, _, rfl, rfl, by omega, fun h => absurd h (by omega)⟩

set_option maxRecDepth 100000 in
set_option maxHeartbeats 400000 in
theorem is_ok (size : Int) (v u : Value) (rs : List Sh.Rel) (w : World) (B : Nat) (hB : B ≤ w.heap.size) (h : Rels w B v rs) (g : Rels w B u rs) :
    Calls Tryd.prog 36 #[.agg #[.int .i64 size, v], .int .i64 0, .agg #[.int .i64 size, u], .int .i64 0] w fun e w' => e = .returned (.bool true) ∧ Below w.heap.size w w' := by
  have h' := h
  have g' := g
  obtain ⟨A, len, c, rfl, -⟩ := h'
  obtain ⟨A', len', c', rfl, -⟩ := g'
  have hcall := fun W (hW : Below w.heap.size w W) => same_eq size _ _ rs W B (Nat.le_trans hB hW.size) (h.below (hW.mono hB)) (g.below (hW.mono hB))
  have Hcall := Lib.hid hcall; clear hcall
  go_enter Tryd.func36, Tryd.ntmps36
  go_wp2_with (go_at_call 46
               refine (Hcall.out _ (by repeat (first | exact Below.refl _ _ | refine Below.drew ?_ | refine Below.setCell ?_ (by simp) _ | refine Below.alloc ?_ (by simp) _))).mono ?_
               rintro e w9 ⟨rfl, hb9⟩)
  go_ret
  exact ⟨rfl, ((((Below.refl _ _).alloc (Nat.le_refl _) _).alloc (by simp) _).trans (hb9.mono (by simp; omega)))⟩

set_option maxRecDepth 100000 in
set_option maxHeartbeats 400000 in
theorem is_bad (n : Int) (x : Value) (rs : List Sh.Rel) (b : Int) (hb : b ≠ 0) (w : World) (B : Nat) (hx : Rels w B x rs) :
    Calls Tryd.prog 36 #[.agg #[.int .i64 0, .slice none 0 0], .int .i64 b, .agg #[.int .i64 n, x], .int .i64 b] w fun e w' => e = .returned (.bool true) ∧ Below w.heap.size w w' := by
  obtain ⟨A, len, c, rfl, -⟩ := hx
  have hcall := fun W => same_eq 0 _ _ [] W 0 (Nat.zero_le _) (Rels.nil W 0) (Rels.nil W 0)
  have Hcall := Lib.hid hcall; clear hcall
  have hne : (b != 0) = true := by simpa using hb
  have heq : (b == 0) = false := by simpa using hb
  clear hb
  go_enter Tryd.func36, Tryd.ntmps36
  go_wp2_with (go_at_call 46
               refine (Hcall.out _).mono ?_
               rintro e w9 ⟨rfl, hb9⟩)
  go_ret
  exact ⟨rfl, ((((Below.refl _ _).alloc (Nat.le_refl _) _).alloc (by simp) _).trans (hb9.mono (by simp; omega)))⟩

end Go.Proofs.YtbddchonhicpiaaDoor
