/-
  Texts joined: Alive, Same.
-/
import Derived.Test.YtelememdhpncgaaGreatDoorJo7
import Derived.Test.YtelememdhpncgaaGreatDoorJo4
import Derived.Test.YtelememdhpncgaaGreatDoorJo13
import Derived.Test.YtelememdhpncgaaGreatDoorJo1
import Derived.Test.YtelememdhpncgaaGreatDoorJo5
import Derived.Deep.RegionHeld3
import Derived.Deep.QuietTactic
import Derived.BigQuiet
import Derived.StillTailTactics

/-
  Walk: alive, the examples of the chapter.
-/
namespace Go.Proofs.YtelememdhpncgaaGreatDoor
open Go.RowKit

theorem ex_t1 : tupP [48, 44, 49, 32, 49, 44, 50, 59, 32, 80, 47, 49, 32, 50, 59, 32, 81, 47, 48, 32, 40, 41] = some ([0, 1], [32, 49, 44, 50, 59, 32, 80, 47, 49, 32, 50, 59, 32, 81, 47, 48, 32, 40, 41]) := by
  rw [tupP_more (v := 0) rfl (by decide +kernel), show List.drop (digRun [48, 44, 49, 32, 49, 44, 50, 59, 32, 80, 47, 49, 32, 50, 59, 32, 81, 47, 48, 32, 40, 41]) [48, 44, 49, 32, 49, 44, 50, 59, 32, 80, 47, 49, 32, 50, 59, 32, 81, 47, 48, 32, 40, 41] = ([44, 49, 32, 49, 44, 50, 59, 32, 80, 47, 49, 32, 50, 59, 32, 81, 47, 48, 32, 40, 41] : List UInt8) from by decide +kernel]
  rw [numsP_more (v := 1) rfl (by decide +kernel), show List.drop (digRun (List.drop 1 [44, 49, 32, 49, 44, 50, 59, 32, 80, 47, 49, 32, 50, 59, 32, 81, 47, 48, 32, 40, 41])) (List.drop 1 [44, 49, 32, 49, 44, 50, 59, 32, 80, 47, 49, 32, 50, 59, 32, 81, 47, 48, 32, 40, 41]) = ([32, 49, 44, 50, 59, 32, 80, 47, 49, 32, 50, 59, 32, 81, 47, 48, 32, 40, 41] : List UInt8) from by decide +kernel]
  rw [numsP_stop rfl]
  rfl

theorem ex_t2 : tupP [49, 44, 50, 59, 32, 80, 47, 49, 32, 50, 59, 32, 81, 47, 48, 32, 40, 41] = some ([1, 2], [59, 32, 80, 47, 49, 32, 50, 59, 32, 81, 47, 48, 32, 40, 41]) := by
  rw [tupP_more (v := 1) rfl (by decide +kernel), show List.drop (digRun [49, 44, 50, 59, 32, 80, 47, 49, 32, 50, 59, 32, 81, 47, 48, 32, 40, 41]) [49, 44, 50, 59, 32, 80, 47, 49, 32, 50, 59, 32, 81, 47, 48, 32, 40, 41] = ([44, 50, 59, 32, 80, 47, 49, 32, 50, 59, 32, 81, 47, 48, 32, 40, 41] : List UInt8) from by decide +kernel]
  rw [numsP_more (v := 2) rfl (by decide +kernel), show List.drop (digRun (List.drop 1 [44, 50, 59, 32, 80, 47, 49, 32, 50, 59, 32, 81, 47, 48, 32, 40, 41])) (List.drop 1 [44, 50, 59, 32, 80, 47, 49, 32, 50, 59, 32, 81, 47, 48, 32, 40, 41]) = ([59, 32, 80, 47, 49, 32, 50, 59, 32, 81, 47, 48, 32, 40, 41] : List UInt8) from by decide +kernel]
  rw [numsP_stop rfl]
  rfl

theorem ex_t3 : tupP [50, 59, 32, 81, 47, 48, 32, 40, 41] = some ([2], [59, 32, 81, 47, 48, 32, 40, 41]) := by
  rw [tupP_more (v := 2) rfl (by decide +kernel), show List.drop (digRun [50, 59, 32, 81, 47, 48, 32, 40, 41]) [50, 59, 32, 81, 47, 48, 32, 40, 41] = ([59, 32, 81, 47, 48, 32, 40, 41] : List UInt8) from by decide +kernel]
  rw [numsP_stop rfl]
  rfl

theorem ex_t4 : tupP [40, 41] = some ([], []) := by rw [tupP_unit rfl]; rfl

theorem ex_r1 : relP [59, 32, 69, 47, 50, 32, 48, 44, 49, 32, 49, 44, 50, 59, 32, 80, 47, 49, 32, 50, 59, 32, 81, 47, 48, 32, 40, 41] = some (⟨⟨#[69]⟩, 2, [[0, 1], [1, 2]]⟩, [59, 32, 80, 47, 49, 32, 50, 59, 32, 81, 47, 48, 32, 40, 41]) := by
  rw [relP_more (k := 2) rfl (by decide +kernel) (by decide +kernel), show List.drop (digRun (List.drop 1 (List.drop (nameRun (List.drop 2 [59, 32, 69, 47, 50, 32, 48, 44, 49, 32, 49, 44, 50, 59, 32, 80, 47, 49, 32, 50, 59, 32, 81, 47, 48, 32, 40, 41])) (List.drop 2 [59, 32, 69, 47, 50, 32, 48, 44, 49, 32, 49, 44, 50, 59, 32, 80, 47, 49, 32, 50, 59, 32, 81, 47, 48, 32, 40, 41])))) (List.drop 1 (List.drop (nameRun (List.drop 2 [59, 32, 69, 47, 50, 32, 48, 44, 49, 32, 49, 44, 50, 59, 32, 80, 47, 49, 32, 50, 59, 32, 81, 47, 48, 32, 40, 41])) (List.drop 2 [59, 32, 69, 47, 50, 32, 48, 44, 49, 32, 49, 44, 50, 59, 32, 80, 47, 49, 32, 50, 59, 32, 81, 47, 48, 32, 40, 41]))) = ([32, 48, 44, 49, 32, 49, 44, 50, 59, 32, 80, 47, 49, 32, 50, 59, 32, 81, 47, 48, 32, 40, 41] : List UInt8) from by decide +kernel]
  rw [tupsP_more (l := [32, 48, 44, 49, 32, 49, 44, 50, 59, 32, 80, 47, 49, 32, 50, 59, 32, 81, 47, 48, 32, 40, 41]) (p := ([0, 1], [32, 49, 44, 50, 59, 32, 80, 47, 49, 32, 50, 59, 32, 81, 47, 48, 32, 40, 41])) rfl ex_t1]
  rw [tupsP_more (l := [32, 49, 44, 50, 59, 32, 80, 47, 49, 32, 50, 59, 32, 81, 47, 48, 32, 40, 41]) (p := ([1, 2], [59, 32, 80, 47, 49, 32, 50, 59, 32, 81, 47, 48, 32, 40, 41])) rfl ex_t2]
  rw [tupsP_stop rfl]
  rfl

theorem ex_r2 : relP [59, 32, 80, 47, 49, 32, 50, 59, 32, 81, 47, 48, 32, 40, 41] = some (⟨⟨#[80]⟩, 1, [[2]]⟩, [59, 32, 81, 47, 48, 32, 40, 41]) := by
  rw [relP_more (k := 1) rfl (by decide +kernel) (by decide +kernel), show List.drop (digRun (List.drop 1 (List.drop (nameRun (List.drop 2 [59, 32, 80, 47, 49, 32, 50, 59, 32, 81, 47, 48, 32, 40, 41])) (List.drop 2 [59, 32, 80, 47, 49, 32, 50, 59, 32, 81, 47, 48, 32, 40, 41])))) (List.drop 1 (List.drop (nameRun (List.drop 2 [59, 32, 80, 47, 49, 32, 50, 59, 32, 81, 47, 48, 32, 40, 41])) (List.drop 2 [59, 32, 80, 47, 49, 32, 50, 59, 32, 81, 47, 48, 32, 40, 41]))) = ([32, 50, 59, 32, 81, 47, 48, 32, 40, 41] : List UInt8) from by decide +kernel]
  rw [tupsP_more (l := [32, 50, 59, 32, 81, 47, 48, 32, 40, 41]) (p := ([2], [59, 32, 81, 47, 48, 32, 40, 41])) rfl ex_t3]
  rw [tupsP_stop rfl]
  rfl

theorem ex_r3 : relP [59, 32, 81, 47, 48, 32, 40, 41] = some (⟨⟨#[81]⟩, 0, [[]]⟩, []) := by
  rw [relP_more (k := 0) rfl (by decide +kernel) (by decide +kernel), show List.drop (digRun (List.drop 1 (List.drop (nameRun (List.drop 2 [59, 32, 81, 47, 48, 32, 40, 41])) (List.drop 2 [59, 32, 81, 47, 48, 32, 40, 41])))) (List.drop 1 (List.drop (nameRun (List.drop 2 [59, 32, 81, 47, 48, 32, 40, 41])) (List.drop 2 [59, 32, 81, 47, 48, 32, 40, 41]))) = ([32, 40, 41] : List UInt8) from by decide +kernel]
  rw [tupsP_more (l := [32, 40, 41]) (p := ([], [])) rfl ex_t4]
  rw [tupsP_stop rfl]
  rfl

def exS : Sh.Str := ⟨3, [⟨⟨#[69]⟩, 2, [[0, 1], [1, 2]]⟩, ⟨⟨#[80]⟩, 1, [[2]]⟩, ⟨⟨#[81]⟩, 0, [[]]⟩]⟩

theorem ex_parse : parseP [51, 59, 32, 69, 47, 50, 32, 48, 44, 49, 32, 49, 44, 50, 59, 32, 80, 47, 49, 32, 50, 59, 32, 81, 47, 48, 32, 40, 41] = some exS := by
  have h : strP [51, 59, 32, 69, 47, 50, 32, 48, 44, 49, 32, 49, 44, 50, 59, 32, 80, 47, 49, 32, 50, 59, 32, 81, 47, 48, 32, 40, 41] = some exS := by
    rw [strP_more (n := 3) (by decide +kernel), show List.drop (digRun [51, 59, 32, 69, 47, 50, 32, 48, 44, 49, 32, 49, 44, 50, 59, 32, 80, 47, 49, 32, 50, 59, 32, 81, 47, 48, 32, 40, 41]) [51, 59, 32, 69, 47, 50, 32, 48, 44, 49, 32, 49, 44, 50, 59, 32, 80, 47, 49, 32, 50, 59, 32, 81, 47, 48, 32, 40, 41] = ([59, 32, 69, 47, 50, 32, 48, 44, 49, 32, 49, 44, 50, 59, 32, 80, 47, 49, 32, 50, 59, 32, 81, 47, 48, 32, 40, 41] : List UInt8) from by decide +kernel]
    rw [relsP_more (by simp) ex_r1, relsP_more (by simp) ex_r2, relsP_more (by simp) ex_r3, relsP_nil]
    rfl
  unfold parseP
  rw [if_neg (by decide), h]
  exact if_pos (by decide +kernel)

theorem ex_rank : Sh.rankE 3 [1, 2] = (5, 0) := by decide +kernel
theorem ex_tup : Sh.tupE 2 3 5 = ([1, 0, 1], 0) := by decide +kernel
theorem ex_has : Sh.hasE exS [69] [1, 2] = (true, 0) := by decide +kernel
theorem ex_eq : Sh.eqB [1, 0, 1] [1, 0, 1] = true := by decide +kernel

def exL : ByteArray := ⟨#[51, 59, 32, 69, 47, 50, 32, 48, 44, 49, 32, 49, 44, 50, 59, 32, 80, 47, 49, 32, 50, 59, 32, 81, 47, 48, 32, 40, 41]⟩
theorem ex_out {w w' : World} {e : Ending} (h : ParsePost exL w e w') : Below w.heap.size w w' ∧ ∃ A n c, e = .returned (.tuple #[.agg #[.int .i64 3, .slice A n c], .int .i64 0]) ∧ NRels w' w.heap.size (.slice A n c) exS.rels := by
  obtain ⟨hb, h⟩ := h
  rw [show parseP exL.toList = some exS from (congrArg parseP (by decide +kernel)).trans ex_parse] at h
  obtain ⟨u, rfl, hu⟩ := h
  obtain ⟨A, n, c, rfl⟩ := hu.shape
  exact ⟨hb, A, n, c, rfl, hu⟩

theorem ints12 {w : World} {g : Nat} (h : Blk w g 3 #[.int .i64 1, .int .i64 2]) : Ints w w.heap.size (.slice (some ⟨g, 0, none⟩) 2 2) [1, 2] := by
  refine h.reads 2 2 [1, 2] rfl (by omega) fun i x hx => ?_
  match i, hx with
  | 0, hx => injection hx with hx; subst hx; rfl
  | 1, hx => injection hx with hx; subst hx; rfl
theorem ints101 {w : World} {g : Nat} (h : Blk w g 3 #[.int .i64 1, .int .i64 0, .int .i64 1]) : Ints w w.heap.size (.slice (some ⟨g, 0, none⟩) 3 3) [1, 0, 1] := by
  refine h.reads 3 3 [1, 0, 1] rfl (by omega) fun i x hx => ?_
  match i, hx with
  | 0, hx => injection hx with hx; subst hx; rfl
  | 1, hx => injection hx with hx; subst hx; rfl
  | 2, hx => injection hx with hx; subst hx; rfl

set_option maxRecDepth 100000 in
set_option maxHeartbeats 400000 in
theorem alive_any (w : World) (hv : Vars w) (hw : 5 ≤ w.heap.size) :
    Calls Tryz.prog 6 #[] w fun e w' => e = .returned (.bool true) ∧ Below w.heap.size w w' := by
  have hp := parse_any exL w (by decide +kernel) hv hw
  have Hp := Lib.hid hp; clear hp hv
  go_enter Tryz.func6, Tryz.ntmps6
  go_wp2_with (first
   | (go_at_call 23; refine Hp.out.mono ?_; rintro e w1 hpost; obtain ⟨hb1, A, n, c, rfl, hu1⟩ := ex_out hpost; clear hpost
      have Hb1 := Lib.hid hb1; clear hb1
      have Hu1 := Lib.hid hu1; clear hu1)
   | (go_at_call 24
      have k2 := Blk.alloc (Blk.new w1 24 #[.int .i64 3, .slice A n c]) (.cells #[.int .i64 1, .int .i64 2] 3)
      have l2 := Blk.new (w1.alloc (.cells #[.int .i64 3, .slice A n c] 24)) 3 #[.int .i64 1, .int .i64 2]
      have hb2 := (Hb1.out.alloc Hb1.out.size (.cells #[.int .i64 3, .slice A n c] 24)).alloc (by simp; have := Hb1.out.size; omega) (.cells #[.int .i64 1, .int .i64 2] 3)
      have hu2 := (Hu1.out.keep (Keeps.alloc _ _ _ (.cells #[.int .i64 3, .slice A n c] 24))).keep (Keeps.alloc _ _ _ (.cells #[.int .i64 1, .int .i64 2] 3))
      simp at l2
      generalize ((w1.alloc (.cells #[.int .i64 3, .slice A n c] 24)).alloc (.cells #[.int .i64 1, .int .i64 2] 3)) = w2 at k2 l2 hb2 hu2 ⊢
      refine (rank_any 3 _ [1, 2] w2 _ (ints12 l2)).mono ?_
      rintro e w3 ⟨rfl, rfl⟩
      rw [ex_rank]
      have d20 := k2.cell0
      have d21 := k2.cell1
      generalize w1.heap.size = g at k2 l2 d20 d21 ⊢
      clear l2 Hb1 Hu1
      have K2 := Lib.hid k2; clear k2
      have Hb2 := Lib.hid hb2; clear hb2
      have Hu2 := Lib.hid hu2; clear hu2)
   | (go_at_call 25
      refine (tuple_any 2 3 5 w2).mono ?_
      rintro e w4 ⟨v4, rfl, hv4, hb4⟩
      rw [ex_tup] at hv4 ⊢
      have k4 := Blk.below K2.out hb4 (Blk.lt K2.out)
      have hu4 := Hu2.out.keep (Keeps.of_below hb4)
      have hbw4 := Hb2.out.trans (hb4.mono Hb2.out.size)
      have d40 := k4.cell0
      have d41 := k4.cell1
      clear K2 Hb2 Hu2 d20 d21 hb4
      have K4 := Lib.hid k4; clear k4
      have Hu4 := Lib.hid hu4; clear hu4
      have Hb4 := Lib.hid hbw4; clear hbw4
      have Hv4 := Lib.hid hv4; clear hv4)
   | (go_at_call 26
      have l5 := Blk.new w4 3 #[.int .i64 1, .int .i64 2]
      have k5 := Blk.alloc K4.out (.cells #[.int .i64 1, .int .i64 2] 3)
      have hu5 := Hu4.out.keep (Keeps.alloc _ _ _ (.cells #[.int .i64 1, .int .i64 2] 3))
      have hv5 := (Hv4.out.below ((Below.refl _ w4).alloc (Nat.le_refl _) (.cells #[.int .i64 1, .int .i64 2] 3))).more (B' := (w4.alloc (.cells #[.int .i64 1, .int .i64 2] 3)).heap.size) (by simp)
      have hb5 := Hb4.out.alloc Hb4.out.size (.cells #[.int .i64 1, .int .i64 2] 3)
      generalize (w4.alloc (.cells #[.int .i64 1, .int .i64 2] 3)) = w5 at l5 k5 hu5 hv5 hb5 ⊢
      refine (has_any 3 (.slice A n c) exS.rels _ _ [1, 2] w5 _ (Nat.le_refl _) hu5.rels (ints12 l5)).mono ?_
      rintro e w6 ⟨rfl, hb6⟩
      rw [show Sh.hasE ⟨3, exS.rels⟩ (ByteArray.toList ⟨#[69]⟩) [1, 2] = (true, 0) from (congrArg (fun l => Sh.hasE exS l [1, 2]) (by decide +kernel)).trans ex_has]
      have k6 := Blk.below k5 hb6 (Blk.lt k5)
      have hv6 := (hv5.below hb6).more hb6.size
      have hbw6 := hb5.trans (hb6.mono hb5.size)
      have d60 := k6.cell0
      have d61 := k6.cell1
      clear K4 Hb4 Hu4 Hv4 d40 d41 l5 k5 hu5 hv5 hb5 hb6 k6
      have Hb6 := Lib.hid hbw6; clear hbw6
      have Hv6 := Lib.hid hv6; clear hv6)
   | (go_at_call 22
      have l7 := Blk.new w6 3 #[.int .i64 1, .int .i64 0, .int .i64 1]
      have hv7 := (Hv6.out.below ((Below.refl _ w6).alloc (Nat.le_refl _) (.cells #[.int .i64 1, .int .i64 0, .int .i64 1] 3))).more (B' := (w6.alloc (.cells #[.int .i64 1, .int .i64 0, .int .i64 1] 3)).heap.size) (by simp)
      have hb7 := Hb6.out.alloc Hb6.out.size (.cells #[.int .i64 1, .int .i64 0, .int .i64 1] 3)
      refine (equal_any _ _ [1, 0, 1] [1, 0, 1] _ _ hv7 (ints101 l7)).mono ?_
      rintro e w8 ⟨rfl, d8, rfl⟩
      rw [ex_eq]
      have Hb7 := Lib.hid hb7; clear hb7 hv7 l7))
  refine ⟨rfl, .bool true, ?_, rfl, below_drewN Hb7.out d8⟩
  simp [results, Tryz.results6, Tryz.f6, go_sem]

end Go.Proofs.YtelememdhpncgaaGreatDoor

/-
  Walks: the reference's SameTuples, Same at equal lists; the law's is.
-/
namespace Go.Proofs.YtelememdhpncgaaGreatDoor
open Go.RowKit

set_option maxRecDepth 100000 in
set_option maxHeartbeats 400000 in
theorem sametuples_eq (v u : Value) (ts : List (List Int)) (w : World) (B : Nat) (h : Tups w B v ts) (g : Tups w B u ts) :
    Calls Tryz.prog 45 #[v, u] w fun e w' => e = .returned (.bool true) ∧ ∃ n, w' = w.drewN n := by
  have h' := h
  have g' := g
  obtain ⟨A, len, c, rfl, hlen, hmax, -⟩ := h'
  obtain ⟨A', len', c', rfl, glen, gmax, -⟩ := g'
  obtain rfl : len = len' := by omega
  have Hlen := Lib.hid hlen; clear hlen
  clear glen gmax
  go_enter Tryz.func45, Tryz.ntmps45
  go_wp2
  go_loopw [5] (fun i wr => ∃ k m : Nat, k ≤ len ∧ i = .int .i64 k ∧ wr = w.drewN m) (fun i _ => len - (intOf i).toNat)
  case atStart => exact ⟨0, 0, Nat.zero_le _, rfl, rfl⟩
  case round =>
    obtain ⟨k, m, hk, rfl, rfl⟩ := hrel
    by_cases hlt : k < len
    · obtain ⟨ad, x, rfl, -, h1, hx⟩ := h.at_ hlt
      obtain ⟨ad', y, rfl, -, g1, hy⟩ := g.at_ hlt
      have hcall := fun W (h1 : Ints W B x (ts.getD k [])) (h2 : Ints W B y (ts.getD k [])) => equal_any x y (ts.getD k []) (ts.getD k []) W B h1 h2
      rw [(Sh.eqB_iff _ _).2 rfl] at hcall
      have Hcall := Lib.hid hcall; clear hcall
      go_wp2
      go_quiet ((go_at_call 22; exact quiet_add (Hcall.out _ hx hy)))
      go_wp2
      exact ⟨⟨k + 1, _, by omega, by go_num, rfl⟩, by simp [intOf]; omega⟩
    · go_wp2
      go_ret
      exact ⟨rfl, _, rfl⟩

set_option maxRecDepth 100000 in
set_option maxHeartbeats 400000 in
theorem same_eq (size : Int) (v u : Value) (rs : List Sh.Rel) (w : World) (B : Nat) (hB : B ≤ w.heap.size) (h : Rels w B v rs) (g : Rels w B u rs) :
    Calls Tryz.prog 18 #[.agg #[.int .i64 size, v], .agg #[.int .i64 size, u]] w fun e w' => e = .returned (.bool true) ∧ Below w.heap.size w w' := by
  have h' := h
  have g' := g
  obtain ⟨A, len, c, rfl, hlen, hmax, -⟩ := h'
  obtain ⟨A', len', c', rfl, glen, gmax, -⟩ := g'
  obtain rfl : len = len' := by omega
  have Hlen := Lib.hid hlen; clear hlen
  clear glen gmax
  go_enter Tryz.func18, Tryz.ntmps18
  go_wp2
  have hb2 : Below w.heap.size w ((w.alloc (.cells #[.int .i64 size, .slice A len c] 24)).alloc (.cells #[.int .i64 size, .slice A' len c'] 24)) :=
    ((Below.refl _ _).alloc (Nat.le_refl _) _).alloc (by simp) _
  have hx2 : Blk ((w.alloc (.cells #[.int .i64 size, .slice A len c] 24)).alloc (.cells #[.int .i64 size, .slice A' len c'] 24)) w.heap.size 24 #[.int .i64 size, .slice A len c] := (Blk.new _ _ _).alloc _
  have hy2 : Blk ((w.alloc (.cells #[.int .i64 size, .slice A len c] 24)).alloc (.cells #[.int .i64 size, .slice A' len c'] 24)) (w.heap.size + 1) 24 #[.int .i64 size, .slice A' len c'] := by
    have := Blk.new (w.alloc (.cells #[.int .i64 size, .slice A len c] 24)) 24 #[.int .i64 size, .slice A' len c']
    rw [World.size_alloc] at this
    exact this
  generalize ((w.alloc (.cells #[.int .i64 size, .slice A len c] 24)).alloc (.cells #[.int .i64 size, .slice A' len c'] 24)) = W2 at *
  go_loopw [5] (fun i wr => ∃ k : Nat, k ≤ len ∧ i = .int .i64 k ∧ Blk wr w.heap.size 24 #[.int .i64 size, .slice A len c] ∧ Blk wr (w.heap.size + 1) 24 #[.int .i64 size, .slice A' len c'] ∧ Below w.heap.size w wr) (fun i _ => len - (intOf i).toNat)
  case atStart => exact ⟨0, Nat.zero_le _, rfl, hx2, hy2, hb2⟩
  case round =>
    obtain ⟨k, hk, rfl, hx, hy, hbel⟩ := hrel
    clear hx2 hy2 hb2
    have hy1 : wr.cell? ⟨w.heap.size + 1, 1, none⟩ = some (.slice A' len c') := hy.cell 1
    have hx1 : wr.cell? ⟨w.heap.size, 1, none⟩ = some (.slice A len c) := hx.cell 1
    have hbz := hbel.size
    by_cases hlt : k < len
    · obtain ⟨ad, p, r, rfl, hb, hr, c0, c1, c2, htp, -⟩ := (h.below (hbel.mono hB)).at_ hlt
      obtain ⟨ad', q, r', rfl, hb', hr', d0, d1, d2, htq, -⟩ := (g.below (hbel.mono hB)).at_ hlt
      obtain rfl : r = r' := Option.some.inj (hr.symm.trans hr')
      clear hr hr'
      have htp' := htp
      obtain ⟨PA, PN, PC, rfl, -⟩ := htp'
      have htq' := htq
      obtain ⟨QA, QN, QC, rfl, -⟩ := htq'
      have hxl := hx.lt
      have hyl := hy.lt
      have hall : ∀ W, Below wr.heap.size wr W → (W.cell? ⟨w.heap.size, 1, none⟩ = some (.slice (some ad) len c) ∧ W.cell? ⟨w.heap.size + 1, 1, none⟩ = some (.slice (some ad') len c') ∧
          W.cell? (ad.add (k * 3)) = some (.string r.name) ∧ W.cell? ⟨(ad.add (k * 3)).block, (ad.add (k * 3)).off + 1, none⟩ = some (.int .i64 r.arity) ∧ W.cell? ⟨(ad.add (k * 3)).block, (ad.add (k * 3)).off + 2, none⟩ = some (.slice PA PN PC) ∧
          W.cell? (ad'.add (k * 3)) = some (.string r.name) ∧ W.cell? ⟨(ad'.add (k * 3)).block, (ad'.add (k * 3)).off + 1, none⟩ = some (.int .i64 r.arity) ∧ W.cell? ⟨(ad'.add (k * 3)).block, (ad'.add (k * 3)).off + 2, none⟩ = some (.slice QA QN QC) ∧ Below wr.heap.size wr W) := fun W hW =>
        ⟨(hW.cell (p := ⟨w.heap.size, 1, none⟩) hxl).trans hx1, (hW.cell (p := ⟨w.heap.size + 1, 1, none⟩) hyl).trans hy1, (hW.cell (by rw [block_of_add]; omega)).trans c0, (hW.cell (by show (ad.add _).block < _; rw [block_of_add]; omega)).trans c1, (hW.cell (by show (ad.add _).block < _; rw [block_of_add]; omega)).trans c2,
         (hW.cell (by rw [block_of_add]; omega)).trans d0, (hW.cell (by show (ad'.add _).block < _; rw [block_of_add]; omega)).trans d1, (hW.cell (by show (ad'.add _).block < _; rw [block_of_add]; omega)).trans d2, hW⟩
      have hst : ∀ W, Below wr.heap.size wr W → Calls Tryz.prog 45 #[.slice PA PN PC, .slice QA QN QC] W fun e w' => e = .returned (.bool true) ∧ ∃ n, w' = W.drewN n := fun W hW =>
        sametuples_eq _ _ r.tuples W B (htp.below (hW.mono (by omega))) (htq.below (hW.mono (by omega)))
      have Hst := Lib.hid hst; clear hst
      have Hall := Lib.hid hall; clear hall
      have Hx := Lib.hid hx; clear hx
      have Hy := Lib.hid hy; clear hy
      go_wp2
      go_region_held3 (fun W => W.cell? ⟨w.heap.size, 1, none⟩ = some (.slice (some ad) len c) ∧ W.cell? ⟨w.heap.size + 1, 1, none⟩ = some (.slice (some ad') len c') ∧
          W.cell? (ad.add (k * 3)) = some (.string r.name) ∧ W.cell? ⟨(ad.add (k * 3)).block, (ad.add (k * 3)).off + 1, none⟩ = some (.int .i64 r.arity) ∧ W.cell? ⟨(ad.add (k * 3)).block, (ad.add (k * 3)).off + 2, none⟩ = some (.slice PA PN PC) ∧
          W.cell? (ad'.add (k * 3)) = some (.string r.name) ∧ W.cell? ⟨(ad'.add (k * 3)).block, (ad'.add (k * 3)).off + 1, none⟩ = some (.int .i64 r.arity) ∧ W.cell? ⟨(ad'.add (k * 3)).block, (ad'.add (k * 3)).off + 2, none⟩ = some (.slice QA QN QC) ∧ Below wr.heap.size wr W)
        (first
          | assumption
          | (refine Hall.out _ ?_
             repeat (first | exact Below.refl _ _ | refine Below.drew ?_ | refine Below.setCell ?_ (by simp) _ | refine Below.alloc ?_ (by simp) _)))
        (fail)
      all_goals
        go_wp2_with (go_at_call 45
                     refine (Hst.out _ (by repeat (first | exact Below.refl _ _ | refine Below.drew ?_ | refine Below.setCell ?_ (by simp) _ | refine Below.alloc ?_ (by simp) _))).mono ?_
                     rintro e w9 ⟨rfl, n, rfl⟩)
        have hbw := fun W (hW : Below wr.heap.size wr W) => (⟨Hx.out.below hW (by omega), Hy.out.below hW (by omega), hbel.trans (hW.mono hbz)⟩ : Blk W w.heap.size 24 #[.int .i64 size, .slice (some ad) len c] ∧ Blk W (w.heap.size + 1) 24 #[.int .i64 size, .slice (some ad') len c'] ∧ Below w.heap.size w W)
        exact ⟨⟨k + 1, by omega, by go_num, hbw _ (by
          repeat (first | exact Below.refl _ _ | refine below_drewN ?_ _ | refine Below.drew ?_ | refine Below.setCell ?_ (by simp) _ | refine Below.alloc ?_ (by simp) _))⟩, by simp [intOf]; omega⟩
    · go_wp2
      go_ret
      exact ⟨rfl, hbel⟩

theorem Rels.nil (w : World) (B : Nat) : Rels w B (.slice none 0 0) [] := ⟨_, _, _, rfl, rfl, by omega, fun h => absurd h (by omega)⟩

set_option maxRecDepth 100000 in
set_option maxHeartbeats 400000 in
theorem is_ok (size : Int) (v u : Value) (rs : List Sh.Rel) (w : World) (B : Nat) (hB : B ≤ w.heap.size) (h : Rels w B v rs) (g : Rels w B u rs) :
    Calls Tryz.prog 11 #[.agg #[.int .i64 size, v], .int .i64 0, .agg #[.int .i64 size, u], .int .i64 0] w fun e w' => e = .returned (.bool true) ∧ Below w.heap.size w w' := by
  have h' := h
  have g' := g
  obtain ⟨A, len, c, rfl, -⟩ := h'
  obtain ⟨A', len', c', rfl, -⟩ := g'
  have hcall := fun W (hW : Below w.heap.size w W) => same_eq size _ _ rs W B (Nat.le_trans hB hW.size) (h.below (hW.mono hB)) (g.below (hW.mono hB))
  have Hcall := Lib.hid hcall; clear hcall
  go_enter Tryz.func11, Tryz.ntmps11
  go_wp2_with (go_at_call 18
               refine (Hcall.out _ (by repeat (first | exact Below.refl _ _ | refine Below.drew ?_ | refine Below.setCell ?_ (by simp) _ | refine Below.alloc ?_ (by simp) _))).mono ?_
               rintro e w9 ⟨rfl, hb9⟩)
  go_ret
  exact ⟨rfl, ((((Below.refl _ _).alloc (Nat.le_refl _) _).alloc (by simp) _).trans (hb9.mono (by simp; omega)))⟩

set_option maxRecDepth 100000 in
set_option maxHeartbeats 400000 in
theorem is_bad (n : Int) (x : Value) (rs : List Sh.Rel) (b : Int) (hb : b ≠ 0) (w : World) (B : Nat) (hx : Rels w B x rs) :
    Calls Tryz.prog 11 #[.agg #[.int .i64 0, .slice none 0 0], .int .i64 b, .agg #[.int .i64 n, x], .int .i64 b] w fun e w' => e = .returned (.bool true) ∧ Below w.heap.size w w' := by
  obtain ⟨A, len, c, rfl, -⟩ := hx
  have hcall := fun W => same_eq 0 _ _ [] W 0 (Nat.zero_le _) (Rels.nil W 0) (Rels.nil W 0)
  have Hcall := Lib.hid hcall; clear hcall
  have hne : (b != 0) = true := by simpa using hb
  have heq : (b == 0) = false := by simpa using hb
  clear hb
  go_enter Tryz.func11, Tryz.ntmps11
  go_wp2_with (go_at_call 18
               refine (Hcall.out _).mono ?_
               rintro e w9 ⟨rfl, hb9⟩)
  go_ret
  exact ⟨rfl, ((((Below.refl _ _).alloc (Nat.le_refl _) _).alloc (by simp) _).trans (hb9.mono (by simp; omega)))⟩

end Go.Proofs.YtelememdhpncgaaGreatDoor
