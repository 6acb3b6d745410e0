/-
  Texts joined: Fwalkr, Fwalkk, Flook, Fiter.
-/
import Derived.Test.YtmnpelhcgobfaaaDoorJi15
import Derived.Shelf.SlIter.Nil
import Derived.Shelf.SortM.Plain
import Derived.Shelf.SortM.SortNone
import Derived.Test.YtmnpelhcgobfaaaDoorJi11

/-
  Walk: survey.walk, at an atom.
-/
namespace Go.Proofs.YtmnpelhcgobfaaaDoor
open Go.RowKit
open Fo (F Bd St getM updM)

set_option maxRecDepth 100000 in
set_option maxHeartbeats 4000000 in
theorem walk_rel {L sb m1 m2 m3 m4 N : Nat} {st : St ByteArray} {bd : List (Bd ByteArray)} {vs : List ByteArray} {no pf : Nat} (d : Nat) (k a : Int) (n : ByteArray) (ws ar : List ByteArray) (ks : List FB) (A3 : Option Addr) (n3 c3 : Nat) (A4 : Option Addr) (n4 c4 : Nat) (A : Option Addr) (m c : Nat) (w : World) (hL : L ≤ w.heap.size) (h : Sv w L sb m1 m2 m3 m4 N st bd vs no pf)
    (hf : FVal w (· < L) (.mk k a n ws ar ks) [.int .i64 k, .int .i64 a, .string n, .slice A3 n3 c3, .slice A4 n4 c4, .slice A m c]) (hd : d ≤ 61) (hs : st.size ≤ 4000) (_hsd : st.depth ≤ 60) (hok : ¬ (4000 < st.size + 1 ∨ 60 < d ∨ Fo.fitP k a n ws ar ks.length = false)) (ha : Fo.Around bd no pf) (hno : no < 1000) (hpf : pf < 1000) (hbl : bd.length < 1000) (hvl : vs.length ≤ 24 * d) (hN : N + 100 * (4001 - st.size) ≤ 500000) (hk : k = 0) :
    Calls Tryd.prog 39 #[.pointer (some ⟨sb, 0, none⟩), .agg #[.int .i64 k, .int .i64 a, .string n, .slice A3 n3 c3, .slice A4 n4 c4, .slice A m c], .int .i64 (d : Int)] w (WalkPost L sb m1 m2 m3 m4 N st bd vs no pf (Fo.walkF Fo.fitP (.mk k a n ws ar ks) d bd vs no pf st) w) := by
  have x0 : w.cell? ⟨sb, 0, none⟩ = some (.int .i64 (st.size : Int)) := h.box.cell 0
  have x1 : w.cell? ⟨sb, 1, none⟩ = some (.int .i64 (st.depth : Int)) := h.box.cell 1
  have hlt0 := h.box.lt
  have f0 := h.box.frozen 0
  have f1 := h.box.frozen 1
  obtain ⟨hnn, h3, h4, hmk, hmm, hkc, hkid⟩ := open_six hf
  have hmx : (Value.int .i64 (if st.depth < d then (d : Int) else (st.depth : Int))) = .int .i64 ((max st.depth d : Nat) : Int) := by congr 1; split <;> omega
  have hev1 : EV L sb m1 m2 m3 m4 N ⟨st.size + 1, max st.depth d, st.syms, st.free⟩ bd vs no pf w.heap.size #[.int .i64 k, .int .i64 a, .string n, .slice A3 n3 c3, .slice A4 n4 c4, .slice A m c] w (((w.setCell ⟨sb, 0, none⟩ (.int .i64 ((st.size : Int) + 1))).setCell ⟨sb, 1, none⟩ (.int .i64 (if st.depth < d then (d : Int) else (st.depth : Int)))).alloc (.cells #[.int .i64 k, .int .i64 a, .string n, .slice A3 n3 c3, .slice A4 n4 c4, .slice A m c] 31)) :=
    ⟨((h.set_size (k := st.size + 1) (by go_num)).set_depth (k := max st.depth d) hmx).alloc _, by simpa using Blk.new ((w.setCell ⟨sb, 0, none⟩ (.int .i64 ((st.size : Int) + 1))).setCell ⟨sb, 1, none⟩ (.int .i64 (if st.depth < d then (d : Int) else (st.depth : Int)))) 31 #[.int .i64 k, .int .i64 a, .string n, .slice A3 n3 c3, .slice A4 n4 c4, .slice A m c],
      (((Fr.refl L w).set h.box h.l0 0 _).set (h.set_size (k := st.size + 1) (by go_num)).box h.l0 1 _).alloc (by simpa using hL) _⟩
  clear hmx
  have hfits := fun W (hW : Fr L w W) (hLW : L ≤ W.heap.size) => ffits_any k a n ws ar ks _ W L hLW (hf.below hW.bel)
  have hfit : Fo.fitP k a n ws ar ks.length = true := by
    cases e : Fo.fitP k a n ws ar ks.length
    · exact absurd (.inr (.inr e)) hok
    · rfl
  obtain ⟨hw24, ha24, hws12, har12⟩ := fit_facts hfit
  rw [hfit] at hfits
  have hb1 : st.size + 1 ≤ 4000 := by rcases Nat.lt_or_ge 4000 (st.size + 1) with h' | h'; exact absurd (.inl h') hok; exact h'
  have hb2 : d ≤ 60 := by rcases Nat.lt_or_ge 60 d with h' | h'; exact absurd (.inr (.inl h')) hok; exact h'
  have hl4 := h4.length
  have hl3 := h3.length
  have Hb1 := Lib.hid hb1; clear hb1
  have Hb2 := Lib.hid hb2; clear hb2
  have Hok := Lib.hid hok; clear hok
  have Hfit := Lib.hid hfit; clear hfit
  have Hfits := Lib.hid hfits; clear hfits
  have Hl4 := Lib.hid hl4; clear hl4
  have Hl3 := Lib.hid hl3; clear hl3
  have H3 := Lib.hid h3; clear h3
  have H4 := Lib.hid h4; clear h4
  have Hws := Lib.hid hws12; clear hws12
  have Har := Lib.hid har12; clear har12
  have Hmk := Lib.hid hmk; clear hmk
  have Hkid := Lib.hid hkid; clear hkid
  have Ha := Lib.hid ha; clear ha
  have HN := Lib.hid hN; clear hN
  have Hvl := Lib.hid hvl; clear hvl
  have Hw24 := Lib.hid hw24; clear hw24
  have Ha24 := Lib.hid ha24; clear ha24
  have hm4 : n4 ≤ 24 := by have := Hl4.out; have := Ha24.out; omega
  have Hk := Lib.hid hk; clear hk
  go_enter Tryd.func39, Tryd.ntmps39
  go_upto_region 3 with fail
  try rw [max_if st.depth d]
  generalize (((w.setCell ⟨sb, 0, none⟩ (.int .i64 ((st.size : Int) + 1))).setCell ⟨sb, 1, none⟩ (.int .i64 (if st.depth < d then (d : Int) else (st.depth : Int)))).alloc (.cells #[.int .i64 k, .int .i64 a, .string n, .slice A3 n3 c3, .slice A4 n4 c4, .slice A m c] 31)) = W1 at *
  generalize (if st.depth < d then (d : Int) else (st.depth : Int)) = mx at *
  have x10 : W1.cell? ⟨sb, 0, none⟩ = some (.int .i64 ((st.size : Int) + 1)) := hev1.sv.box.cell 0
  have hi1 : decide (4000 < (st.size : Int) + 1) = false := by have := Hb1.out; rw [decide_eq_false_iff_not]; omega
  have hi2 : decide (60 < (d : Int)) = false := by have := Hb2.out; rw [decide_eq_false_iff_not]; omega
  have y0 := hev1.bx.cell 0
  have y1 := hev1.bx.cell 1
  have y2 := hev1.bx.cell 2
  have y3 := hev1.bx.cell 3
  have y4 := hev1.bx.cell 4
  have y5 := hev1.bx.cell 5
  go_wp2_with (go_at_call 49; refine (Hfits.out W1 hev1.bel (Nat.le_trans hL hev1.bel.size)).mono ?_; rintro e w2 ⟨rfl, hb2⟩; have hev2 := hev1.below (Nat.le_trans hL hev1.bel.size) hb2; have z4 : w2.cell? ⟨w.heap.size, 4, none⟩ = some (.slice A4 n4 c4) := hev2.bx.cell 4)
  have Hev2 := Lib.hid hev2; clear hev2
  clear y0 y1 y2 y3 y4 y5 x10 z4 hb2 hi1 hi2 hev1 x0 x1 f0 f1
  go_loopw [8, 44] (fun _ i wr => ∃ j : Nat, j ≤ n4 ∧ i = .int .i64 j ∧ ∃ N', N' ≤ N + j ∧ EV L sb m1 m2 m3 m4 N' ⟨st.size + 1, max st.depth d, st.syms, Fo.addFree vs st.free (ar.take j)⟩ bd vs no pf w.heap.size #[.int .i64 k, .int .i64 a, .string n, .slice A3 n3 c3, .slice A4 n4 c4, .slice A m c] w wr) (fun _ i _ => n4 - (intOf i).toNat)
  case atStart => exact ⟨0, Nat.zero_le _, rfl, N, Nat.le_refl _, by rw [List.take_zero]; exact Hev2.out⟩
  case round =>
    obtain ⟨j, hj, rfl, N', hN', hev⟩ := hrel
    have Hej := Lib.hid hev; clear hev
    have HN' := Lib.hid hN'; clear hN'
    by_cases hlt : j < n4
    · obtain ⟨ad, s, rfl, hb, hs, hc, hsz⟩ := (H4.out.below Hej.out.bel.bel).at_ hlt
      obtain ⟨q, W2, hq, hq0, hlook, hput, hev2⟩ := Hej.out.free (Nat.le_trans hL Hej.out.bel.size) (x := s) (by have := Har.out s (List.mem_of_getElem? hs); unfold maxLen; omega) (by have := HN.out; have := HN'.out; unfold maxLen; omega)
      have hft := free_take (vs := vs) (fr := st.free) hs
      have c7 : wr.cell? ⟨sb, 7, none⟩ = some (.map (some m4)) := Hej.out.sv.box.cell 7
      have c3' : wr.cell? ⟨sb, 3, none⟩ = some (.map (some m2)) := Hej.out.sv.box.cell 3
      have Hs := Lib.hid hs; clear hs
      have hqb : q ≤ 10000 := by have := Hvl.out; omega
      by_cases hz : q = 0
      · have hnv := hq0.1 hz
        subst hz
        have hst : ({ (⟨st.size + 1, max st.depth d, st.syms, Fo.addFree vs st.free (ar.take j)⟩ : St ByteArray) with free := if s ∈ Fo.addFree vs st.free (ar.take j) then Fo.addFree vs st.free (ar.take j) else Fo.addFree vs st.free (ar.take j) ++ [s] } : St ByteArray) = ⟨st.size + 1, max st.depth d, st.syms, Fo.addFree vs st.free (ar.take (j + 1))⟩ := by
          rw [hft]
          by_cases hi : s ∈ Fo.addFree vs st.free (ar.take j)
          · rw [if_pos hi, if_pos (.inr hi)]
          · rw [if_neg hi, if_neg (fun h => h.elim hnv hi)]
        have hev3 := hev2.st_eq hst
        have Hev3 := Lib.hid hev3; clear hev3
        have Hft := Lib.hid hft; clear hft
        have Hq0 := Lib.hid hq0; clear hq0
        clear hev2 hst hq
        go_wp2
        go_roundw
        case rel => exact ⟨j + 1, by omega, by go_num, N' + 1, by have := HN'.out; omega, Hev3.out⟩
        case measure => simp [intOf]; omega
      · have hiv : s ∈ vs := Classical.byContradiction fun h => hz (hq0.2 h)
        have hst : (⟨st.size + 1, max st.depth d, st.syms, Fo.addFree vs st.free (ar.take j)⟩ : St ByteArray) = ⟨st.size + 1, max st.depth d, st.syms, Fo.addFree vs st.free (ar.take (j + 1))⟩ := by rw [hft, if_pos (.inl hiv)]
        have hev3 := Hej.out.st_eq hst
        have Hev3 := Lib.hid hev3; clear hev3
        have Hft := Lib.hid hft; clear hft
        have Hq0 := Lib.hid hq0; clear hq0
        have hzb : ((q : Int) == 0) = false := by simpa using hz
        clear hev2 hst
        go_wp2
        go_roundw
        case rel => exact ⟨j + 1, by omega, by go_num, N', by have := HN'.out; omega, Hev3.out⟩
        case measure => simp [intOf]; omega
    · obtain rfl : j = n4 := by omega
      have hfin := Hej.out
      rw [List.take_of_length_le (by rw [← Hl4.out]; exact Nat.le_refl _)] at hfin
      have hLr := Nat.le_trans hL hfin.bel.size
      have v0 : wr.cell? ⟨w.heap.size, 0, none⟩ = some (.int .i64 k) := hfin.bx.cell 0
      have v1 : wr.cell? ⟨w.heap.size, 1, none⟩ = some (.int .i64 a) := hfin.bx.cell 1
      have v2 : wr.cell? ⟨w.heap.size, 2, none⟩ = some (.string n) := hfin.bx.cell 2
      have v3 : wr.cell? ⟨w.heap.size, 3, none⟩ = some (.slice A3 n3 c3) := hfin.bx.cell 3
      have v4 : wr.cell? ⟨w.heap.size, 4, none⟩ = some (.slice A4 j c4) := hfin.bx.cell 4
      have v5 : wr.cell? ⟨w.heap.size, 5, none⟩ = some (.slice A m c) := hfin.bx.cell 5
      have Hfin := Lib.hid hfin; clear hfin
      have hocc := occurrence_any n j wr hLr Hfin.out.sv (by unfold maxLen; omega) (by omega) (by have := HN.out; have := HN'.out; unfold maxLen; omega) (by omega) (by omega) Ha.out (by omega)
      have Hocc := Lib.hid hocc; clear hocc
      have hkb : (k == 0) = true := by rw [Hk.out]; rfl
      go_wp2_with (go_at_call 50; refine (Hocc.out).mono ?_; rintro e w' hp; obtain ⟨r, rfl⟩ := hp.bool; have Hp := Lib.hid hp; clear hp)
      go_ret
      exact occ_walk Hok.out Hk.out (Hl4.out ▸ Hp.out) Hfin.out.bel (by have := HN'.out; have := Hb1.out; omega)

end Go.Proofs.YtmnpelhcgobfaaaDoor

/-
  Walk: survey.walk, at a formula with kids; at any formula.
-/
namespace Go.Proofs.YtmnpelhcgobfaaaDoor
open Go.RowKit
open Fo (F Bd St getM updM)

theorem walk_some {f : FB} {d : Nat} {bd : List (Bd ByteArray)} {vs : List ByteArray} {no pf : Nat} {st s : St ByteArray} (h : Fo.walkF Fo.fitP f d bd vs no pf st = some s) (hd : st.depth ≤ 60) : s.size ≤ 4000 ∧ s.depth ≤ 60 := by
  rw [Fo.walkF_eq (fun _ _ _ _ _ h => Fo.fit_kids h) f d bd vs no pf st hd] at h
  split at h
  · rename_i hc
    cases e : Fo.stepsM st.syms (Fo.occP f (bd.map (·.name)) no pf) with
    | none => rw [e] at h; cases h
    | some sy =>
      rw [e] at h
      have h := Option.some.inj h
      subst h
      have := hc.1
      have := hc.2.1
      simp only
      omega
  · cases h

set_option maxRecDepth 100000 in
set_option maxHeartbeats 4000000 in
theorem walk_kids {L sb m1 m2 m3 m4 N : Nat} {st : St ByteArray} {bd : List (Bd ByteArray)} {vs : List ByteArray} {no pf : Nat} (d : Nat) (k a : Int) (n : ByteArray) (ws ar : List ByteArray) (ks : List FB) (A3 : Option Addr) (n3 c3 : Nat) (A4 : Option Addr) (n4 c4 : Nat) (A : Option Addr) (m c : Nat) (w : World) (hL : L ≤ w.heap.size) (h : Sv w L sb m1 m2 m3 m4 N st bd vs no pf)
    (hf : FVal w (· < L) (.mk k a n ws ar ks) [.int .i64 k, .int .i64 a, .string n, .slice A3 n3 c3, .slice A4 n4 c4, .slice A m c]) (hd : d ≤ 61) (hs : st.size ≤ 4000) (hsd : st.depth ≤ 60) (hok : ¬ (4000 < st.size + 1 ∨ 60 < d ∨ Fo.fitP k a n ws ar ks.length = false)) (ha : Fo.Around bd no pf) (hno : no < 1000) (hpf : pf < 1000) (hbl : bd.length < 1000) (hvl : vs.length ≤ 24 * d) (hN : N + 100 * (4001 - st.size) ≤ 500000) (hk : k ≠ 0) (hih : ∀ g ∈ ks, ∀ (cs : List Value) (W : World) (N : Nat) (st : St ByteArray), L ≤ W.heap.size → FVal W (· < L) g cs → Sv W L sb m1 m2 m3 m4 N st (Fo.enterBd k a n ws no pf bd) (ws ++ vs) (Fo.notsN k no) (Fo.pfpsN k pf) → st.size ≤ 4000 → st.depth ≤ 60 → N + 100 * (4001 - st.size) ≤ 500000 →
      Calls Tryd.prog 39 #[.pointer (some ⟨sb, 0, none⟩), .agg cs.toArray, .int .i64 ((d : Int) + 1)] W (WalkPost L sb m1 m2 m3 m4 N st (Fo.enterBd k a n ws no pf bd) (ws ++ vs) (Fo.notsN k no) (Fo.pfpsN k pf) (Fo.walkF Fo.fitP g (d + 1) (Fo.enterBd k a n ws no pf bd) (ws ++ vs) (Fo.notsN k no) (Fo.pfpsN k pf) st) W)) :
    Calls Tryd.prog 39 #[.pointer (some ⟨sb, 0, none⟩), .agg #[.int .i64 k, .int .i64 a, .string n, .slice A3 n3 c3, .slice A4 n4 c4, .slice A m c], .int .i64 (d : Int)] w (WalkPost L sb m1 m2 m3 m4 N st bd vs no pf (Fo.walkF Fo.fitP (.mk k a n ws ar ks) d bd vs no pf st) w) := by
  have x0 : w.cell? ⟨sb, 0, none⟩ = some (.int .i64 (st.size : Int)) := h.box.cell 0
  have x1 : w.cell? ⟨sb, 1, none⟩ = some (.int .i64 (st.depth : Int)) := h.box.cell 1
  have hlt0 := h.box.lt
  have f0 := h.box.frozen 0
  have f1 := h.box.frozen 1
  obtain ⟨hnn, h3, h4, hmk, hmm, hkc, hkid⟩ := open_six hf
  have hmx : (Value.int .i64 (if st.depth < d then (d : Int) else (st.depth : Int))) = .int .i64 ((max st.depth d : Nat) : Int) := by congr 1; split <;> omega
  have hev1 : EV L sb m1 m2 m3 m4 N ⟨st.size + 1, max st.depth d, st.syms, st.free⟩ bd vs no pf w.heap.size #[.int .i64 k, .int .i64 a, .string n, .slice A3 n3 c3, .slice A4 n4 c4, .slice A m c] w (((w.setCell ⟨sb, 0, none⟩ (.int .i64 ((st.size : Int) + 1))).setCell ⟨sb, 1, none⟩ (.int .i64 (if st.depth < d then (d : Int) else (st.depth : Int)))).alloc (.cells #[.int .i64 k, .int .i64 a, .string n, .slice A3 n3 c3, .slice A4 n4 c4, .slice A m c] 31)) :=
    ⟨((h.set_size (k := st.size + 1) (by go_num)).set_depth (k := max st.depth d) hmx).alloc _, by simpa using Blk.new ((w.setCell ⟨sb, 0, none⟩ (.int .i64 ((st.size : Int) + 1))).setCell ⟨sb, 1, none⟩ (.int .i64 (if st.depth < d then (d : Int) else (st.depth : Int)))) 31 #[.int .i64 k, .int .i64 a, .string n, .slice A3 n3 c3, .slice A4 n4 c4, .slice A m c],
      (((Fr.refl L w).set h.box h.l0 0 _).set (h.set_size (k := st.size + 1) (by go_num)).box h.l0 1 _).alloc (by simpa using hL) _⟩
  clear hmx
  have hfits := fun W (hW : Fr L w W) (hLW : L ≤ W.heap.size) => ffits_any k a n ws ar ks _ W L hLW (hf.below hW.bel)
  have hfit : Fo.fitP k a n ws ar ks.length = true := by
    cases e : Fo.fitP k a n ws ar ks.length
    · exact absurd (.inr (.inr e)) hok
    · rfl
  obtain ⟨hw24, ha24, hws12, har12⟩ := fit_facts hfit
  rw [hfit] at hfits
  have hb1 : st.size + 1 ≤ 4000 := by rcases Nat.lt_or_ge 4000 (st.size + 1) with h' | h'; exact absurd (.inl h') hok; exact h'
  have hb2 : d ≤ 60 := by rcases Nat.lt_or_ge 60 d with h' | h'; exact absurd (.inr (.inl h')) hok; exact h'
  have hl4 := h4.length
  have hl3 := h3.length
  have Hb1 := Lib.hid hb1; clear hb1
  have Hb2 := Lib.hid hb2; clear hb2
  have Hok := Lib.hid hok; clear hok
  have Hfit := Lib.hid hfit; clear hfit
  have Hfits := Lib.hid hfits; clear hfits
  have Hl4 := Lib.hid hl4; clear hl4
  have Hl3 := Lib.hid hl3; clear hl3
  have H3 := Lib.hid h3; clear h3
  have H4 := Lib.hid h4; clear h4
  have Hws := Lib.hid hws12; clear hws12
  have Har := Lib.hid har12; clear har12
  have Hmk := Lib.hid hmk; clear hmk
  have Hkid := Lib.hid hkid; clear hkid
  have Ha := Lib.hid ha; clear ha
  have HN := Lib.hid hN; clear hN
  have Hvl := Lib.hid hvl; clear hvl
  have Hw24 := Lib.hid hw24; clear hw24
  have Ha24 := Lib.hid ha24; clear ha24
  have hm4 : n4 ≤ 24 := by have := Hl4.out; have := Ha24.out; omega
  have Hk := Lib.hid hk; clear hk
  go_enter Tryd.func39, Tryd.ntmps39
  go_upto_region 3 with fail
  try rw [max_if st.depth d]
  generalize (((w.setCell ⟨sb, 0, none⟩ (.int .i64 ((st.size : Int) + 1))).setCell ⟨sb, 1, none⟩ (.int .i64 (if st.depth < d then (d : Int) else (st.depth : Int)))).alloc (.cells #[.int .i64 k, .int .i64 a, .string n, .slice A3 n3 c3, .slice A4 n4 c4, .slice A m c] 31)) = W1 at *
  generalize (if st.depth < d then (d : Int) else (st.depth : Int)) = mx at *
  have x10 : W1.cell? ⟨sb, 0, none⟩ = some (.int .i64 ((st.size : Int) + 1)) := hev1.sv.box.cell 0
  have hi1 : decide (4000 < (st.size : Int) + 1) = false := by have := Hb1.out; rw [decide_eq_false_iff_not]; omega
  have hi2 : decide (60 < (d : Int)) = false := by have := Hb2.out; rw [decide_eq_false_iff_not]; omega
  have y0 := hev1.bx.cell 0
  have y1 := hev1.bx.cell 1
  have y2 := hev1.bx.cell 2
  have y3 := hev1.bx.cell 3
  have y4 := hev1.bx.cell 4
  have y5 := hev1.bx.cell 5
  go_wp2_with (go_at_call 49; refine (Hfits.out W1 hev1.bel (Nat.le_trans hL hev1.bel.size)).mono ?_; rintro e w2 ⟨rfl, hb2⟩; have hev2 := hev1.below (Nat.le_trans hL hev1.bel.size) hb2; have z4 : w2.cell? ⟨w.heap.size, 4, none⟩ = some (.slice A4 n4 c4) := hev2.bx.cell 4)
  have Hev2 := Lib.hid hev2; clear hev2
  clear y0 y1 y2 y3 y4 y5 x10 z4 hb2 hi1 hi2 hev1 x0 x1 f0 f1
  go_loopw [8, 44] (fun _ i wr => ∃ j : Nat, j ≤ n4 ∧ i = .int .i64 j ∧ ∃ N', N' ≤ N + j ∧ EV L sb m1 m2 m3 m4 N' ⟨st.size + 1, max st.depth d, st.syms, Fo.addFree vs st.free (ar.take j)⟩ bd vs no pf w.heap.size #[.int .i64 k, .int .i64 a, .string n, .slice A3 n3 c3, .slice A4 n4 c4, .slice A m c] w wr) (fun _ i _ => n4 - (intOf i).toNat)
  case atStart => exact ⟨0, Nat.zero_le _, rfl, N, Nat.le_refl _, by rw [List.take_zero]; exact Hev2.out⟩
  case round =>
    obtain ⟨j, hj, rfl, N', hN', hev⟩ := hrel
    have Hej := Lib.hid hev; clear hev
    have HN' := Lib.hid hN'; clear hN'
    by_cases hlt : j < n4
    · obtain ⟨ad, s, rfl, hb, hs, hc, hsz⟩ := (H4.out.below Hej.out.bel.bel).at_ hlt
      obtain ⟨q, W2, hq, hq0, hlook, hput, hev2⟩ := Hej.out.free (Nat.le_trans hL Hej.out.bel.size) (x := s) (by have := Har.out s (List.mem_of_getElem? hs); unfold maxLen; omega) (by have := HN.out; have := HN'.out; unfold maxLen; omega)
      have hft := free_take (vs := vs) (fr := st.free) hs
      have c7 : wr.cell? ⟨sb, 7, none⟩ = some (.map (some m4)) := Hej.out.sv.box.cell 7
      have c3' : wr.cell? ⟨sb, 3, none⟩ = some (.map (some m2)) := Hej.out.sv.box.cell 3
      have Hs := Lib.hid hs; clear hs
      have hqb : q ≤ 10000 := by have := Hvl.out; omega
      by_cases hz : q = 0
      · have hnv := hq0.1 hz
        subst hz
        have hst : ({ (⟨st.size + 1, max st.depth d, st.syms, Fo.addFree vs st.free (ar.take j)⟩ : St ByteArray) with free := if s ∈ Fo.addFree vs st.free (ar.take j) then Fo.addFree vs st.free (ar.take j) else Fo.addFree vs st.free (ar.take j) ++ [s] } : St ByteArray) = ⟨st.size + 1, max st.depth d, st.syms, Fo.addFree vs st.free (ar.take (j + 1))⟩ := by
          rw [hft]
          by_cases hi : s ∈ Fo.addFree vs st.free (ar.take j)
          · rw [if_pos hi, if_pos (.inr hi)]
          · rw [if_neg hi, if_neg (fun h => h.elim hnv hi)]
        have hev3 := hev2.st_eq hst
        have Hev3 := Lib.hid hev3; clear hev3
        have Hft := Lib.hid hft; clear hft
        have Hq0 := Lib.hid hq0; clear hq0
        clear hev2 hst hq
        go_wp2
        go_roundw
        case rel => exact ⟨j + 1, by omega, by go_num, N' + 1, by have := HN'.out; omega, Hev3.out⟩
        case measure => simp [intOf]; omega
      · have hiv : s ∈ vs := Classical.byContradiction fun h => hz (hq0.2 h)
        have hst : (⟨st.size + 1, max st.depth d, st.syms, Fo.addFree vs st.free (ar.take j)⟩ : St ByteArray) = ⟨st.size + 1, max st.depth d, st.syms, Fo.addFree vs st.free (ar.take (j + 1))⟩ := by rw [hft, if_pos (.inl hiv)]
        have hev3 := Hej.out.st_eq hst
        have Hev3 := Lib.hid hev3; clear hev3
        have Hft := Lib.hid hft; clear hft
        have Hq0 := Lib.hid hq0; clear hq0
        have hzb : ((q : Int) == 0) = false := by simpa using hz
        clear hev2 hst
        go_wp2
        go_roundw
        case rel => exact ⟨j + 1, by omega, by go_num, N', by have := HN'.out; omega, Hev3.out⟩
        case measure => simp [intOf]; omega
    · obtain rfl : j = n4 := by omega
      have hfin := Hej.out
      rw [List.take_of_length_le (by rw [← Hl4.out]; exact Nat.le_refl _)] at hfin
      have hLr := Nat.le_trans hL hfin.bel.size
      have v0 : wr.cell? ⟨w.heap.size, 0, none⟩ = some (.int .i64 k) := hfin.bx.cell 0
      have v1 : wr.cell? ⟨w.heap.size, 1, none⟩ = some (.int .i64 a) := hfin.bx.cell 1
      have v2 : wr.cell? ⟨w.heap.size, 2, none⟩ = some (.string n) := hfin.bx.cell 2
      have v3 : wr.cell? ⟨w.heap.size, 3, none⟩ = some (.slice A3 n3 c3) := hfin.bx.cell 3
      have v4 : wr.cell? ⟨w.heap.size, 4, none⟩ = some (.slice A4 j c4) := hfin.bx.cell 4
      have v5 : wr.cell? ⟨w.heap.size, 5, none⟩ = some (.slice A m c) := hfin.bx.cell 5
      have Hfin := Lib.hid hfin; clear hfin
      have hkb : (k == 0) = false := by simpa using Hk.out
      have hent := enter_any k a n ws A3 n3 c3 A4 j c4 A m c wr hLr Hfin.out.sv (H3.out.below Hfin.out.bel.bel) (fun x hx => by have := Hws.out x hx; unfold maxLen; omega) Hw24.out (by have := Hvl.out; omega) (by have := HN.out; have := HN'.out; omega) (by omega) (by omega) (by unfold maxLen; omega) (by omega)
      have hlea := fun W (hW : Fr L w W) N3 st3 (hsv : Sv W L sb m1 m2 m3 m4 N3 st3 (Fo.enterBd k a n ws no pf bd) (ws ++ vs) (Fo.notsN k no) (Fo.pfpsN k pf)) (hN3 : N3 ≤ 1000000) =>
        leave_any k a n ws A3 n3 c3 A4 j c4 A m c W (Nat.le_trans hL hW.size) hsv (H3.out.below hW.bel) (fun x hx => by have := Hws.out x hx; unfold maxLen; omega) Hw24.out (by have := Hvl.out; omega) hN3 (by omega) (by omega) (by unfold maxLen; omega) (by omega)
      obtain ⟨R, hR⟩ : ∃ R, R = Fo.walkL Fo.fitP ks (d + 1) (Fo.enterBd k a n ws no pf bd) (ws ++ vs) (Fo.notsN k no) (Fo.pfpsN k pf) ⟨st.size + 1, max st.depth d, st.syms, Fo.addFree vs st.free ar⟩ := ⟨_, rfl⟩
      have hwf : Fo.walkF Fo.fitP (.mk k a n ws ar ks) d bd vs no pf st = R := by rw [Fo.walkF, if_neg Hok.out, if_neg Hk.out, hR]
      have Hent := Lib.hid hent; clear hent
      have Hlea := Lib.hid hlea; clear hlea
      have HR := Lib.hid hR; clear hR
      have Hwf := Lib.hid hwf; clear hwf
      have HA24 := Ha24
      go_wp2_with (go_at_call 51
                   refine (Hent.out).mono ?_
                   rintro e w3 ⟨rfl, hfr3, N2, hN2, hsv3⟩
                   have ev3 : EV L sb m1 m2 m3 m4 N2 ⟨st.size + 1, max st.depth d, st.syms, Fo.addFree vs st.free ar⟩ (Fo.enterBd k a n ws no pf bd) (ws ++ vs) (Fo.notsN k no) (Fo.pfpsN k pf) w.heap.size #[.int .i64 k, .int .i64 a, .string n, .slice A3 n3 c3, .slice A4 j c4, .slice A m c] w w3 := ⟨hsv3, hfr3.blk Hfin.out.bx, Hfin.out.bel.trans hfr3⟩
                   have u5 : w3.cell? ⟨w.heap.size, 5, none⟩ = some (.slice A m c) := ev3.bx.cell 5
                   have HN2 := Lib.hid hN2; clear hN2 hfr3 hsv3
                   have Ev3 := Lib.hid ev3; clear ev3)
      go_loopw [77] (fun i wq => ∃ t : Nat, t ≤ m ∧ i = .int .i64 t ∧ ∃ (Nt : Nat) (sq : St ByteArray), sq.size ≤ 4000 ∧ sq.depth ≤ 60 ∧ Nt + 100 * (4001 - sq.size) + 51 ≤ N + 100 * (4001 - st.size) ∧
        Fo.walkL Fo.fitP (ks.drop t) (d + 1) (Fo.enterBd k a n ws no pf bd) (ws ++ vs) (Fo.notsN k no) (Fo.pfpsN k pf) sq = R ∧ EV L sb m1 m2 m3 m4 Nt sq (Fo.enterBd k a n ws no pf bd) (ws ++ vs) (Fo.notsN k no) (Fo.pfpsN k pf) w.heap.size #[.int .i64 k, .int .i64 a, .string n, .slice A3 n3 c3, .slice A4 j c4, .slice A m c] w wq) (fun i _ => m - (intOf i).toNat)
      case atStart => exact ⟨0, Nat.zero_le _, rfl, N2, _, Hb1.out, by have := Hb2.out; simp only; omega, by have := HN2.out; have := HN'.out; have := Hb1.out; have := Hw24.out; simp only; omega, by rw [List.drop_zero]; exact HR.out.symm, Ev3.out⟩
      case round =>
        obtain ⟨t, ht, rfl, Nt, sq, hq1, hq2, hq3, hq4, hev⟩ := hrel
        have Hq1 := Lib.hid hq1; clear hq1
        have Hq2 := Lib.hid hq2; clear hq2
        have Hq3 := Lib.hid hq3; clear hq3
        have Hq4 := Lib.hid hq4; clear hq4
        have Het := Lib.hid hev; clear hev
        clear v0 v1 v2 v3 v4 v5 u5
        by_cases htm : t < m
        · obtain ⟨ad, rfl, had, hkids⟩ := Hkid.out (by omega)
          obtain ⟨gk, hgk⟩ : ∃ gk, ks[t]? = some gk := ⟨ks[t]'(by have := Hmk.out; omega), List.getElem?_eq_getElem _⟩
          have hmem := List.mem_of_getElem? hgk
          have hdr : ks.drop t = gk :: ks.drop (t + 1) := by
            obtain ⟨hlt', rfl⟩ := List.getElem?_eq_some_iff.1 hgk
            exact List.drop_eq_getElem_cons hlt'
          obtain ⟨x0, x1, x2, x3, x4, x5, e0, e1, e2, e3, e4, e5, hfk⟩ := FKids.get ks 0 t gk hkids hgk
          rw [Nat.zero_add] at e0 e1 e2 e3 e4 e5
          have hq4' := Hq4.out
          rw [hdr, Fo.walkL] at hq4'
          have hihk := fun W (hW : Fr L w W) (hsv : Sv W L sb m1 m2 m3 m4 Nt sq (Fo.enterBd k a n ws no pf bd) (ws ++ vs) (Fo.notsN k no) (Fo.pfpsN k pf)) => hih gk hmem _ W Nt sq (Nat.le_trans hL hW.size) (hfk.below hW.bel) hsv Hq1.out Hq2.out (by have := Hq3.out; have := HN.out; omega)
          obtain ⟨k', a', n', ws', ar', ks'⟩ := gk
          obtain ⟨B3, r3, s3, B4, r4, s4, B, r, s, hcs, -⟩ := hfk.open_
          simp only [List.cons.injEq, and_true] at hcs
          obtain ⟨rfl, rfl, rfl, rfl, rfl, rfl⟩ := hcs
          have hcell : ∀ i, wr.cell? (ad.add i) = w.cell? (ad.add i) := fun i => Het.out.bel.bel.cell (p := ad.add i) (by rw [block_of_add]; exact had)
          have hcellf : ∀ i, wr.cell? ⟨(ad.add (t * 6)).block, (ad.add (t * 6)).off + i, none⟩ = w.cell? ⟨(ad.add (t * 6)).block, (ad.add (t * 6)).off + i, none⟩ := fun i => Het.out.bel.bel.cell (by show (ad.add (t * 6)).block < L; rw [block_of_add]; exact had)
          have g0 := (hcell (t * 6)).trans e0
          have g1 := (hcellf 1).trans e1
          have g2 := (hcellf 2).trans e2
          have g3 := (hcellf 3).trans e3
          have g4 := (hcellf 4).trans e4
          have g5 := (hcellf 5).trans e5
          clear e0 e1 e2 e3 e4 e5 hcell hcellf hkids hgk hmem
          have ev4 := Het.out.below (Nat.le_trans hL Het.out.bel.size) ((Below.refl wr.heap.size wr).alloc (Nat.le_refl _) (.cells #[.int .i64 k', .int .i64 a', .string n', .slice B3 r3 s3, .slice B4 r4 s4, .slice B r s] 31))
          have hcall := hihk _ ev4.bel ev4.sv
          have Hdr := Lib.hid hdr; clear hdr
          have Hfk := Lib.hid hfk; clear hfk
          have Ev4 := Lib.hid ev4; clear ev4
          clear hihk
          cases hwk : Fo.walkF Fo.fitP (.mk k' a' n' ws' ar' ks') (d + 1) (Fo.enterBd k a n ws no pf bd) (ws ++ vs) (Fo.notsN k no) (Fo.pfpsN k pf) sq with
          | none =>
            rw [hwk] at hcall hq4'
            have Hq4' := Lib.hid hq4'; clear hq4'
            have Hcall := Lib.hid hcall; clear hcall
            have Hwk := Lib.hid hwk; clear hwk
            go_wp2_with (go_at_call 39; refine (Hcall.out).mono ?_; rintro e w4 ⟨hfr4, rfl⟩)
            go_ret
            exact WalkPost.no (Hwf.out.trans Hq4'.out.symm) (Ev4.out.bel.trans hfr4)
          | some s' =>
            have hsz := walk_some hwk Hq2.out
            rw [hwk] at hcall hq4'
            have Hq4' := Lib.hid hq4'; clear hq4'
            have Hcall := Lib.hid hcall; clear hcall
            have Hwk := Lib.hid hwk; clear hwk
            go_wp2_with (go_at_call 39; refine (Hcall.out).mono ?_; rintro e w4 ⟨hfr4, rfl, N4, hN4, hsv4⟩; have HN4 := Lib.hid hN4; clear hN4)
            go_roundw
            case rel => exact ⟨t + 1, by omega, by go_num, N4, s', hsz.1, hsz.2, by have := HN4.out; have := Hq3.out; omega, Hq4'.out, ⟨hsv4, hfr4.blk Ev4.out.bx, Ev4.out.bel.trans hfr4⟩⟩
            case measure => simp [intOf]; omega
        · obtain rfl : t = m := by omega
          have hq4' := Hq4.out
          rw [List.drop_of_length_le (by rw [← Hmk.out]; exact Nat.le_refl _), Fo.walkL] at hq4'
          have Hq4' := Lib.hid hq4'; clear hq4'
          have v0 : wr.cell? ⟨w.heap.size, 0, none⟩ = some (.int .i64 k) := Het.out.bx.cell 0
          have v1 : wr.cell? ⟨w.heap.size, 1, none⟩ = some (.int .i64 a) := Het.out.bx.cell 1
          have v2 : wr.cell? ⟨w.heap.size, 2, none⟩ = some (.string n) := Het.out.bx.cell 2
          have v3 : wr.cell? ⟨w.heap.size, 3, none⟩ = some (.slice A3 n3 c3) := Het.out.bx.cell 3
          have v4 : wr.cell? ⟨w.heap.size, 4, none⟩ = some (.slice A4 j c4) := Het.out.bx.cell 4
          have v5 : wr.cell? ⟨w.heap.size, 5, none⟩ = some (.slice A t c) := Het.out.bx.cell 5
          have hcall := Hlea.out wr Het.out.bel Nt sq Het.out.sv (by have := Hq3.out; have := HN.out; omega)
          have Hcall := Lib.hid hcall; clear hcall
          go_wp2_with (go_at_call 52; refine (Hcall.out).mono ?_; rintro e w4 ⟨rfl, hfr4, N4, hN4, hsv4⟩; have HN4 := Lib.hid hN4; clear hN4)
          go_ret
          exact WalkPost.yes (Hwf.out.trans Hq4'.out.symm) (Het.out.bel.trans hfr4) (by have := HN4.out; have := Hq3.out; have := Hw24.out; omega) hsv4

theorem size_kid {g : FB} : ∀ {ks : List FB}, g ∈ ks → Fo.size g ≤ Fo.sizes ks
  | [], h => by cases h
  | f :: l, h => by
    unfold Fo.sizes
    rcases List.mem_cons.1 h with rfl | h
    · omega
    · have := size_kid h; omega

/-- The walk of the program is the walk of Fspec. -/
theorem walk_any : ∀ (q : Nat) {L sb m1 m2 m3 m4 N : Nat} {st : St ByteArray} {bd : List (Bd ByteArray)} {vs : List ByteArray} {no pf : Nat} (d : Nat) (f : FB) (cs : List Value) (w : World), Fo.size f ≤ q → L ≤ w.heap.size → Sv w L sb m1 m2 m3 m4 N st bd vs no pf → FVal w (· < L) f cs → d ≤ 61 → st.size ≤ 4000 → st.depth ≤ 60 →
    Fo.Around bd no pf → no < d → pf < d → bd.length < d → vs.length ≤ 24 * d → N + 100 * (4001 - st.size) ≤ 500000 →
    Calls Tryd.prog 39 #[.pointer (some ⟨sb, 0, none⟩), .agg cs.toArray, .int .i64 (d : Int)] w (WalkPost L sb m1 m2 m3 m4 N st bd vs no pf (Fo.walkF Fo.fitP f d bd vs no pf st) w)
  | 0, _, _, _, _, _, _, _, _, _, _, _, _, _, f, _, _, hq, _, _, _, _, _, _, _, _, _, _, _, _ => by have := Fo.size_pos f; omega
  | q + 1, L, sb, m1, m2, m3, m4, N, st, bd, vs, no, pf, d, .mk k a n ws ar ks, cs, w, hq, hL, h, hf, hd, hs, hsd, ha, hno, hpf, hbl, hvl, hN => by
    obtain ⟨A3, n3, c3, A4, n4, c4, A, m, c, rfl, -⟩ := hf.open_
    by_cases hok : 4000 < st.size + 1 ∨ 60 < d ∨ Fo.fitP k a n ws ar ks.length = false
    · refine (walk_bad d k a n ws ar ks A3 n3 c3 A4 n4 c4 A m c w hL h hf hd hs hsd hok).mono ?_
      rintro e w' ⟨rfl, hb⟩
      exact WalkPost.no (by rw [Fo.walkF, if_pos hok]) hb
    · have hd60 : d ≤ 60 := by rcases Nat.lt_or_ge 60 d with h' | h'; exact absurd (.inr (.inl h')) hok; exact h'
      by_cases hk : k = 0
      · exact walk_rel d k a n ws ar ks A3 n3 c3 A4 n4 c4 A m c w hL h hf hd hs hsd hok ha (by omega) (by omega) (by omega) hvl hN hk
      · refine walk_kids d k a n ws ar ks A3 n3 c3 A4 n4 c4 A m c w hL h hf hd hs hsd hok ha (by omega) (by omega) (by omega) hvl hN hk ?_
        intro g hg cs' W N' st' hLW hfg hsv h1 h2 h3
        have hsz := size_kid hg
        have hw24 : ws.length ≤ 24 := by
          have : Fo.fitP k a n ws ar ks.length = true := by
            cases e : Fo.fitP k a n ws ar ks.length
            · exact absurd (.inr (.inr e)) hok
            · rfl
          exact (fit_facts this).1
        refine walk_any q (d + 1) g cs' W ?_ hLW hsv hfg (by omega) h1 h2 (ha.enter k a n ws) ?_ ?_ ?_ ?_ h3
        · unfold Fo.size at hq; omega
        · unfold Fo.notsN; split <;> omega
        · unfold Fo.pfpsN; split <;> omega
        · unfold Fo.enterBd; split
          · rw [List.length_cons]; omega
          · omega
        · rw [List.length_append]; omega

end Go.Proofs.YtmnpelhcgobfaaaDoor

/-
  Walks: formula.look, Valid, Size, Depth, Positive.
-/
namespace Go.Proofs.YtmnpelhcgobfaaaDoor
open Go.RowKit
open Fo (F Bd St getM updM)

/-- What look leaves. -/
def LookPost (f : FB) (w : World) (e : Ending) (w' : World) : Prop :=
  Below w.heap.size w w' ∧ match Fo.lookF Fo.fitP f with
    | none => e = .returned (.tuple #[.pointer none, .bool false])
    | some s => ∃ sb m1 m2 m3 m4 N, N ≤ 500000 ∧ e = .returned (.tuple #[.pointer (some ⟨sb, 0, none⟩), .bool true]) ∧ Sv w' w.heap.size sb m1 m2 m3 m4 N s [] [] 0 0
theorem LookPost.no {f : FB} {w w' : World} (h : Fo.lookF Fo.fitP f = none) (hb : Below w.heap.size w w') : LookPost f w (.returned (.tuple #[.pointer none, .bool false])) w' := ⟨hb, by rw [h]⟩
theorem LookPost.yes {f : FB} {w w' : World} {s : St ByteArray} {sb m1 m2 m3 m4 N : Nat} (h : Fo.lookF Fo.fitP f = some s) (hb : Below w.heap.size w w') (hN : N ≤ 500000) (hs : Sv w' w.heap.size sb m1 m2 m3 m4 N s [] [] 0 0) :
    LookPost f w (.returned (.tuple #[.pointer (some ⟨sb, 0, none⟩), .bool true])) w' := ⟨hb, by rw [h]; exact ⟨sb, m1, m2, m3, m4, N, hN, rfl, hs⟩⟩

theorem sv_start (w : World) (o : Obj) : Sv ((((((w.alloc o).alloc (.map #[] 0)).alloc (.map #[] 0)).alloc (.map #[] 0)).alloc (.map #[] 0)).alloc (.cells #[.int .i64 0, .int .i64 0, .map (some (w.heap.size + 1)), .map (some (w.heap.size + 2)), .int .i64 0, .int .i64 0, .map (some (w.heap.size + 3)), .map (some (w.heap.size + 4))] 79))
    w.heap.size (w.heap.size + 5) (w.heap.size + 1) (w.heap.size + 2) (w.heap.size + 3) (w.heap.size + 4) 0 ⟨0, 0, [], []⟩ [] [] 0 0 := by
  have hm : ∀ (W : World) (k : Nat), W.heap.size = k → MapV (W.alloc (.map #[] 0)) k 0 (fun _ => none) := fun W k hk => hk ▸ MapV.made W
  have h1 := hm (w.alloc o) (w.heap.size + 1) (by simp)
  have h2 := hm ((w.alloc o).alloc (.map #[] 0)) (w.heap.size + 2) (by simp)
  have h3 := hm (((w.alloc o).alloc (.map #[] 0)).alloc (.map #[] 0)) (w.heap.size + 3) (by simp)
  have h4 := hm ((((w.alloc o).alloc (.map #[] 0)).alloc (.map #[] 0)).alloc (.map #[] 0)) (w.heap.size + 4) (by simp)
  have hs : symG [] = fun _ => none := rfl
  have hf : freG [] = fun _ => none := by funext x; unfold freG; rw [if_neg (by simp)]
  exact {
    box := by
      have := Blk.new (((((w.alloc o).alloc (.map #[] 0)).alloc (.map #[] 0)).alloc (.map #[] 0)).alloc (.map #[] 0)) 79 #[.int .i64 0, .int .i64 0, .map (some (w.heap.size + 1)), .map (some (w.heap.size + 2)), .int .i64 0, .int .i64 0, .map (some (w.heap.size + 3)), .map (some (w.heap.size + 4))]
      simpa using this
    sym := by rw [hs]; exact (((h1.alloc _).alloc _).alloc _).alloc _
    fre := by rw [hf]; exact ((h2.alloc _).alloc _).alloc _
    bnd := ⟨_, (h3.alloc _).alloc _, fun _ _ => rfl, fun _ _ h => (by cases h), fun _ _ _ _ _ _ h => (by cases h)⟩
    var := ⟨_, h4.alloc _, fun _ => rfl⟩
    n12 := by omega
    n13 := by omega
    n14 := by omega
    n23 := by omega
    n24 := by omega
    n34 := by omega
    l0 := by omega
    l1 := by omega
    l2 := by omega
    l3 := by omega
    l4 := by omega }

set_option maxRecDepth 100000 in
set_option maxHeartbeats 1000000 in
theorem look_any (f : FB) (cs : List Value) (w : World) (B : Nat) (hB : B ≤ w.heap.size) (hf : FVal w (· < B) f cs) : Calls Tryd.prog 27 #[.agg cs.toArray] w (LookPost f w) := by
  have hf := FVal.more (S' := (· < w.heap.size)) (fun b hb => Nat.lt_of_lt_of_le hb hB) f cs hf
  obtain ⟨k, a, n, ws, ar, ks⟩ := f
  obtain ⟨A3, n3, c3, A4, n4, c4, A, m, c, rfl, -⟩ := hf.open_
  have hsv := sv_start w (.cells #[.int .i64 k, .int .i64 a, .string n, .slice A3 n3 c3, .slice A4 n4 c4, .slice A m c] 31)
  have hfr : Fr w.heap.size w ((((((w.alloc (.cells #[.int .i64 k, .int .i64 a, .string n, .slice A3 n3 c3, .slice A4 n4 c4, .slice A m c] 31)).alloc (.map #[] 0)).alloc (.map #[] 0)).alloc (.map #[] 0)).alloc (.map #[] 0)).alloc (.cells #[.int .i64 0, .int .i64 0, .map (some (w.heap.size + 1)), .map (some (w.heap.size + 2)), .int .i64 0, .int .i64 0, .map (some (w.heap.size + 3)), .map (some (w.heap.size + 4))] 79)) :=
    ((((((Fr.refl _ w).alloc (Nat.le_refl _) _).alloc (by simp) _).alloc (by simp; omega) _).alloc (by simp; omega) _).alloc (by simp; omega) _).alloc (by simp; omega) _
  have hcall := walk_any (Fo.size (.mk k a n ws ar ks)) 1 (.mk k a n ws ar ks) _ _ (Nat.le_refl _) hfr.size hsv (hf.below hfr.bel) (by omega) (by simp) (by simp) (fun b hb => by cases hb) (by omega) (by omega) (by simp) (by simp) (by simp)
  have Hcall := Lib.hid hcall; clear hcall
  have Hfr := Lib.hid hfr; clear hfr
  clear hsv hf
  have hmm := @run_makeMap Tryd.prog
  cases hl : Fo.lookF Fo.fitP (.mk k a n ws ar ks) with
  | none =>
    have hl' := hl
    unfold Fo.lookF at hl'
    rw [hl'] at Hcall
    have Hl := Lib.hid hl; clear hl hl'
    go_enter Tryd.func27, Tryd.ntmps27
    go_wp2_with (go_at_call 39; refine (Hcall.out).mono ?_; rintro e w2 ⟨hfr2, rfl⟩)
    go_ret2
    exact LookPost.no Hl.out (Hfr.out.trans hfr2).bel
  | some s =>
    have hl' := hl
    unfold Fo.lookF at hl'
    rw [hl'] at Hcall
    have Hl := Lib.hid hl; clear hl hl'
    go_enter Tryd.func27, Tryd.ntmps27
    go_wp2_with (go_at_call 39; refine (Hcall.out).mono ?_; rintro e w2 ⟨hfr2, rfl, N', hN', hsv2⟩; have HN' := Lib.hid hN'; clear hN')
    go_ret2
    exact LookPost.yes Hl.out (Hfr.out.trans hfr2).bel (by have := HN'.out; omega) hsv2

end Go.Proofs.YtmnpelhcgobfaaaDoor

/-
  The library's maps.Keys and slices.Sorted at the maps of a survey, and what the sorted keys are.
-/
namespace Go.Proofs.YtmnpelhcgobfaaaDoor
open Go.RowKit Go.Maps Go.Sort Go.Shelf

theorem sorts_wide (m : Nat) : AnyZ.SortsIn Tryd.prog Tryd.sorted28_ren Fence.wide m :=
  ⟨fun blk off cap ss W hH hblk hsz => callsIn_wide.2 (AnyM.slices_Sort_string Tryd.sort41 blk off cap ss W hH hblk hsz),
   fun p cap W => callsIn_wide.2 (AnyM.slices_Sort_string_none Tryd.sort41 p cap W)⟩

def bytesOfL (l : List UInt8) : ByteArray := ⟨⟨l⟩⟩
/-- The names x with g x, rising. -/
def Rising (g : ByteArray → Option Value) (l : List ByteArray) : Prop := l.Pairwise (fun a b => a.toList < b.toList) ∧ ∀ x, x ∈ l ↔ (g x).isSome = true ∧ x.size ≤ maxLen

theorem toList_bytesOfL (l : List UInt8) : (bytesOfL l).toList = l := by rw [ByteArray.toList_eq]; rfl
theorem bytesOfL_toList (s : ByteArray) : bytesOfL s.toList = s := by rw [ByteArray.toList_eq]; rfl
theorem enc_string (l : List UInt8) : Go.Proofs.encStr l = .string (bytesOfL l) := by simp [Go.Proofs.encStr, bytesOfL]

theorem rising_keys {w : World} {b n : Nat} {g : ByteArray → Option Value} (h : MapV w b n g) : ∃ D : DataW Value, w.ownsMap Tryd.prog 9 anyV b n D ∧ Maps.size D ≤ n ∧
    ∀ ss : List (List UInt8), ss.Perm (strKeys D) → Rising g ((ss.mergeSort (fun x y => decide (x ≤ y))).map bytesOfL) := by
  obtain ⟨D, h1, h2, h3, h4⟩ := h.keys
  refine ⟨D, h1, h3, fun ss hp => ?_⟩
  have hnd : ss.Nodup := hp.nodup_iff.2 h2
  have hpm := List.mergeSort_perm ss (fun x y => decide (x ≤ y))
  have tr : ∀ a b c : List UInt8, decide (a ≤ b) = true → decide (b ≤ c) = true → decide (a ≤ c) = true := fun a b c h1 h2 => by simp only [decide_eq_true_eq] at *; exact List.le_trans h1 h2
  have to : ∀ a b : List UInt8, (decide (a ≤ b) || decide (b ≤ a)) = true := fun a b => by simp only [Bool.or_eq_true, decide_eq_true_eq]; exact List.le_total a b
  have hs := List.pairwise_mergeSort tr to ss
  have hn2 : (ss.mergeSort (fun x y => decide (x ≤ y))).Nodup := hpm.nodup_iff.2 hnd
  constructor
  · rw [List.pairwise_map]
    refine (List.Pairwise.and hs hn2).imp fun {a b} h => ?_
    obtain ⟨h1, h2⟩ := h
    rw [toList_bytesOfL, toList_bytesOfL]
    rw [decide_eq_true_eq] at h1
    refine Classical.byContradiction fun h => h2 (List.le_antisymm h1 (List.not_lt.1 h))
  · intro x
    rw [List.mem_map]
    have hx : (∃ a, a ∈ ss.mergeSort (fun x y => decide (x ≤ y)) ∧ bytesOfL a = x) ↔ x.toList ∈ strKeys D := by
      constructor
      · rintro ⟨a, ha, rfl⟩
        rw [toList_bytesOfL]
        exact hp.mem_iff.1 (hpm.mem_iff.1 ha)
      · intro hm
        exact ⟨x.toList, hpm.mem_iff.2 (hp.mem_iff.2 hm), bytesOfL_toList x⟩
    rw [hx, h4]
    have e : (⟨⟨x.toList⟩⟩ : ByteArray) = x := bytesOfL_toList x
    rw [e, length_bytes]
    exact ⟨fun ⟨a, b⟩ => ⟨b, a⟩, fun ⟨a, b⟩ => ⟨b, a⟩⟩

theorem keys_bool (mb : Option Nat) (W : World) : Calls Tryd.prog 29 #[.map mb] W fun e w' => e = .returned (.func (.func 42) #[] #[.pointer (some ⟨W.heap.size, 0, none⟩)]) ∧ w' = W.alloc (.cells #[.map mb] 72) :=
  (callsIn_wide (n := 5)).1 (AnyZ.keys_in Tryd.keys29 Fence.wide 5 trivial rfl mb W)

set_option maxHeartbeats 1000000 in
theorem sorted_bool {b nn : Nat} {g : ByteArray → Option Value} (w : World) (h : MapV w b nn g) (hn : nn ≤ 1000000) :
    Calls Tryd.prog 28 #[.func (.func 42) #[] #[.pointer (some ⟨w.heap.size, 0, none⟩)]] (w.alloc (.cells #[.map (some b)] 72)) fun e w' => ∃ (v : Value) (l : List ByteArray), e = .returned v ∧ Rising g l ∧ l.length ≤ 1000000 ∧
      w'.ownsRow (w.heap.size + 1) 9 1 v l.length (l.map .string) ∧ (v = .slice none 0 0 ↔ l = []) ∧ Below w.heap.size w w' := by
  obtain ⟨D0, hown, hD, hR⟩ := rising_keys h
  have hbl := hown.lt
  have hseq : SeqGives Fence.wide 2 Tryd.prog 42 #[.pointer (some ⟨w.heap.size, 0, none⟩)] encStr (fun ss => ss.Perm (strKeys D0)) (Maps.size D0) (w.alloc (.cells #[.map (some b)] 72)) :=
    AnyZ.keys_gives (ρ := Tryd.keys29_ren) { Tryd.keys29 with } Fence.wide _ trivial rfl (by omega) w.heap.size b nn D0 _ (by simp) (by simp) (by
      obtain ⟨es, clock, hb, Ft, hs, hD⟩ := hown
      exact ⟨es, clock, (Below.heap_alloc _ _ b hbl).trans hb, Ft, hs, hD⟩)
  refine Calls.mono ((callsIn_wide (n := 5)).1 (AnyZ.sorted_in Tryd.sorted28 Fence.wide 5 trivial trivial trivial trivial rfl (by omega) (sorts_wide _) (enters_of Tryd.func41 (by kernel_rfl) rfl) 42 #[.pointer (some ⟨w.heap.size, 0, none⟩)] trivial (enters_of Tryd.func42 (by kernel_rfl) rfl) _ _ (by unfold maxLen; omega) (by omega) _ hseq)) ?_
  rintro e w' ⟨v, ss, rfl, hS, hrow, hnil, hb⟩
  have hlen : (ss.mergeSort (fun x y => decide (x ≤ y))).length = ss.length := List.length_mergeSort ss
  refine ⟨v, (ss.mergeSort (fun x y => decide (x ≤ y))).map bytesOfL, rfl, hR ss hS, ?_, ?_, ?_, ((Below.refl _ w).alloc (Nat.le_refl _) _).trans (hb.mono (by simp))⟩
  · rw [List.length_map, hlen, hS.length_eq]
    have : (strKeys D0).length = Maps.size D0 := by
      obtain ⟨es, e, -⟩ := hown.keysOf
      subst e
      simp [strKeys, Maps.size]
    omega
  · rw [List.length_map, hlen, List.map_map]
    have e : (Value.string ∘ bytesOfL) = Go.Proofs.encStr := by funext l; exact (enc_string l).symm
    rw [e]
    have hz : (w.alloc (.cells #[.map (some b)] 72)).heap.size = w.heap.size + 1 := by simp
    rw [hz] at hrow
    exact hrow
  · rw [hnil, List.map_eq_nil_iff]
    constructor
    · intro e; rw [e]; simp
    · intro e
      have := hlen
      rw [e] at this
      exact List.length_eq_zero_iff.1 (by simpa using this.symm)

theorem keys_use (mb : Option Nat) (W : World) : Calls Tryd.prog 30 #[.map mb] W fun e w' => e = .returned (.func (.func 43) #[] #[.pointer (some ⟨W.heap.size, 0, none⟩)]) ∧ w' = W.alloc (.cells #[.map mb] 73) :=
  (callsIn_wide (n := 5)).1 (AnyZ.keys_in Tryd.keys30 Fence.wide 5 trivial rfl mb W)

set_option maxHeartbeats 1000000 in
theorem sorted_use {b nn : Nat} {g : ByteArray → Option Value} (w : World) (h : MapV w b nn g) (hn : nn ≤ 1000000) :
    Calls Tryd.prog 28 #[.func (.func 43) #[] #[.pointer (some ⟨w.heap.size, 0, none⟩)]] (w.alloc (.cells #[.map (some b)] 73)) fun e w' => ∃ (v : Value) (l : List ByteArray), e = .returned v ∧ Rising g l ∧ l.length ≤ 1000000 ∧
      w'.ownsRow (w.heap.size + 1) 9 1 v l.length (l.map .string) ∧ (v = .slice none 0 0 ↔ l = []) ∧ Below w.heap.size w w' := by
  obtain ⟨D0, hown, hD, hR⟩ := rising_keys h
  have hbl := hown.lt
  have hseq : SeqGives Fence.wide 2 Tryd.prog 43 #[.pointer (some ⟨w.heap.size, 0, none⟩)] encStr (fun ss => ss.Perm (strKeys D0)) (Maps.size D0) (w.alloc (.cells #[.map (some b)] 73)) :=
    AnyZ.keys_gives (ρ := Tryd.keys30_ren) { Tryd.keys30 with } Fence.wide _ trivial rfl (by omega) w.heap.size b nn D0 _ (by simp) (by simp) (by
      obtain ⟨es, clock, hb, Ft, hs, hD⟩ := hown
      exact ⟨es, clock, (Below.heap_alloc _ _ b hbl).trans hb, Ft, hs, hD⟩)
  refine Calls.mono ((callsIn_wide (n := 5)).1 (AnyZ.sorted_in Tryd.sorted28 Fence.wide 5 trivial trivial trivial trivial rfl (by omega) (sorts_wide _) (enters_of Tryd.func41 (by kernel_rfl) rfl) 43 #[.pointer (some ⟨w.heap.size, 0, none⟩)] trivial (enters_of Tryd.func43 (by kernel_rfl) rfl) _ _ (by unfold maxLen; omega) (by omega) _ hseq)) ?_
  rintro e w' ⟨v, ss, rfl, hS, hrow, hnil, hb⟩
  have hlen : (ss.mergeSort (fun x y => decide (x ≤ y))).length = ss.length := List.length_mergeSort ss
  refine ⟨v, (ss.mergeSort (fun x y => decide (x ≤ y))).map bytesOfL, rfl, hR ss hS, ?_, ?_, ?_, ((Below.refl _ w).alloc (Nat.le_refl _) _).trans (hb.mono (by simp))⟩
  · rw [List.length_map, hlen, hS.length_eq]
    have : (strKeys D0).length = Maps.size D0 := by
      obtain ⟨es, e, -⟩ := hown.keysOf
      subst e
      simp [strKeys, Maps.size]
    omega
  · rw [List.length_map, hlen, List.map_map]
    have e : (Value.string ∘ bytesOfL) = Go.Proofs.encStr := by funext l; exact (enc_string l).symm
    rw [e]
    have hz : (w.alloc (.cells #[.map (some b)] 73)).heap.size = w.heap.size + 1 := by simp
    rw [hz] at hrow
    exact hrow
  · rw [hnil, List.map_eq_nil_iff]
    constructor
    · intro e; rw [e]; simp
    · intro e
      have := hlen
      rw [e] at this
      exact List.length_eq_zero_iff.1 (by simpa using this.symm)

end Go.Proofs.YtmnpelhcgobfaaaDoor
