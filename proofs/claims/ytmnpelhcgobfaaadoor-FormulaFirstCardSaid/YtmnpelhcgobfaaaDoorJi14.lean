/-
  Texts joined: Fent.
-/
import Derived.Test.YtmnpelhcgobfaaaDoorJi13
import Derived.Deep.Cut

/-
  Walks: formula.places, survey.enter.
-/
namespace Go.Proofs.YtmnpelhcgobfaaaDoor
open Go.RowKit
open Fo (F Bd St getM updM)

set_option maxRecDepth 100000 in
theorem places_any (k a : Int) (n : ByteArray) (A3 : Option Addr) (n3 c3 : Nat) (A4 : Option Addr) (n4 c4 : Nat) (A : Option Addr) (m c : Nat) (ws : List ByteArray) (hl : n3 = ws.length) (_hm : n3 ≤ 140737488351232) (w : World) :
    Calls Tryd.prog 67 #[.agg #[.int .i64 k, .int .i64 a, .string n, .slice A3 n3 c3, .slice A4 n4 c4, .slice A m c]] w fun e w' => e = .returned (.int .i64 (Fo.placesI k a ws)) ∧ Below w.heap.size w w' := by
  by_cases h : k = 11
  · have e : Fo.placesI k a ws = a := if_pos h
    rw [e]
    have ht : (k == 11) = true := by rw [h]; rfl
    have H := Lib.hid h; clear h
    have Hl := Lib.hid hl; clear hl
    clear e
    go_enter Tryd.func67, Tryd.ntmps67
    go_wp2
    go_ret
    exact ⟨rfl, (Below.refl _ _).alloc (Nat.le_refl _) _⟩
  · have e : Fo.placesI k a ws = (n3 : Int) := by unfold Fo.placesI; rw [if_neg h, hl]
    rw [e]
    have ht : (k == 11) = false := by simpa using h
    have H := Lib.hid h; clear h
    have Hl := Lib.hid hl; clear hl
    clear e
    go_enter Tryd.func67, Tryd.ntmps67
    go_wp2
    go_ret
    exact ⟨rfl, (Below.refl _ _).alloc (Nat.le_refl _) _⟩

/-- What enter leaves. -/
def EntPost (L sb m1 m2 m3 m4 N : Nat) (st : St ByteArray) (bd : List (Bd ByteArray)) (vs : List ByteArray) (no pf : Nat) (k a : Int) (n : ByteArray) (ws : List ByteArray) (w : World) (e : Ending) (w' : World) : Prop :=
  e = .returned (.tuple #[]) ∧ Fr L w w' ∧ ∃ N', N' ≤ N + 1 + ws.length ∧ Sv w' L sb m1 m2 m3 m4 N' st (Fo.enterBd k a n ws no pf bd) (ws ++ vs) (Fo.notsN k no) (Fo.pfpsN k pf)

theorem below_set {B : Nat} {w w' : World} (h : Below B w w') {p : Addr} (hp : B ≤ p.block) (u : Value) : Below B w (w'.setCell p u) := h.setCell hp u
theorem Bx.set {w : World} {g : Nat} {t : TypeId} {cs : Array Value} {W : World} {p : Addr} (h : Bx w g t cs W) (hg : g ≠ p.block) (hp : w.heap.size ≤ p.block) (u : Value) : Bx w g t cs (W.setCell p u) := ⟨h.blk.far hg u, h.bel.setCell hp u⟩

/-- What stands when the variables are counted. -/
structure EV (L sb m1 m2 m3 m4 N : Nat) (st : St ByteArray) (bd : List (Bd ByteArray)) (vs : List ByteArray) (no pf : Nat) (g : Nat) (cs : Array Value) (w W : World) : Prop where
  sv : Sv W L sb m1 m2 m3 m4 N st bd vs no pf
  bx : Blk W g 31 cs
  bel : Fr L w W

theorem EV.var {L sb m1 m2 m3 m4 N : Nat} {st : St ByteArray} {bd : List (Bd ByteArray)} {vs : List ByteArray} {no pf g : Nat} {cs : Array Value} {w W : World} {ws : List ByteArray} {k : Nat} {x : ByteArray} (h : EV L sb m1 m2 m3 m4 N st bd (ws.take k ++ vs) no pf g cs w W) (hL : L ≤ W.heap.size) (hx : x.size ≤ maxLen) (hk : ws[k]? = some x) (hvl : vs.length ≤ 10000) (hwl : ws.length ≤ 1000) (hN : N < maxLen) :
    ∃ (q : Nat) (W' : World), q ≤ 20000 ∧ (Instr.lookup 77 (.map (some m4)) (.string x) false).run Tryd.prog W = .ok (.int .i64 (q : Int)) W ∧ (Instr.mapUpdate 77 (.map (some m4)) (.string x) (.int .i64 ((q : Int) + 1))).run Tryd.prog W = .ok () W' ∧
      EV L sb m1 m2 m3 m4 (N + 1) st bd (ws.take (k + 1) ++ vs) no pf g cs w W' := by
  obtain ⟨gf, hm, hg⟩ := h.sv.var
  have hlk := hm.look (t := 77) Tryd.underlying77 (zeroInt W) x hx false
  simp only [Bool.false_eq_true, if_false] at hlk
  rw [hg x] at hlk
  obtain ⟨W', h1, h2, h3⟩ := hm.put (t := 77) Tryd.underlying77 hN x hx (.int .i64 ((cnt x (ws.take k ++ vs) : Nat) + 1 : Int))
  have hl4 := h.sv.l4
  refine ⟨cnt x (ws.take k ++ vs), W', ?_, hlk, h1, h.sv.put_var ?_ h3, h.bx.grown h3 (some_ne (hm.ne_blk h.bx).symm), h.bel.map hm h3 hl4 hL⟩
  · have := cnt_le x (ws.take k ++ vs)
    rw [List.length_append, List.length_take] at this
    omega
  · refine VarM.put (q := cnt x (ws.take k ++ vs) + 1) hg h2 ?_ (fun y hy => ?_)
    · rw [cnt_append, cnt_append, cnt_take hk, if_pos rfl]; omega
    · rw [cnt_append, cnt_append, cnt_take hk, if_neg (fun e => hy e.symm)]; omega

set_option maxRecDepth 100000 in
set_option maxHeartbeats 2000000 in
theorem ent_plain {L sb m1 m2 m3 m4 N : Nat} {st : St ByteArray} {bd : List (Bd ByteArray)} {vs : List ByteArray} {no pf : Nat} (k a : Int) (n : ByteArray) (ws : List ByteArray) (A3 : Option Addr) (n3 c3 : Nat) (A4 : Option Addr) (n4 c4 : Nat) (A : Option Addr) (m c : Nat) (w : World) (hL : L ≤ w.heap.size) (h : Sv w L sb m1 m2 m3 m4 N st bd vs no pf)
    (h3 : Strs w (· < L) (.slice A3 n3 c3) ws) (hws : ∀ x ∈ ws, x.size ≤ maxLen) (hw24 : ws.length ≤ 24) (hvl : vs.length ≤ 10000) (hN : N ≤ 1000000) (_hno : no ≤ 1000) (_hpf : pf ≤ 1000) (_hn : n.size ≤ maxLen) (_hbl : bd.length ≤ 1000) (hk3 : k ≠ 3) (hkb : Fo.bindsB k = false) :
    Calls Tryd.prog 51 #[.pointer (some ⟨sb, 0, none⟩), .agg #[.int .i64 k, .int .i64 a, .string n, .slice A3 n3 c3, .slice A4 n4 c4, .slice A m c]] w (EntPost L sb m1 m2 m3 m4 N st bd vs no pf k a n ws w) := by
  have hev0 : EV L sb m1 m2 m3 m4 N st bd vs no pf w.heap.size #[.int .i64 k, .int .i64 a, .string n, .slice A3 n3 c3, .slice A4 n4 c4, .slice A m c] w (w.alloc (.cells #[.int .i64 k, .int .i64 a, .string n, .slice A3 n3 c3, .slice A4 n4 c4, .slice A m c] 31)) := ⟨h.alloc _, Blk.new w _ _, ((Fr.refl _ _).alloc hL _)⟩
  have hl3 := h3.length
  have hl0 := h.l0
  have hlt0 := h.box.lt
  have hmax3 : n3 ≤ 24 := by omega
  have hk9 : k ≠ 9 := by intro e; rw [e] at hkb; exact absurd hkb (by decide)
  have hres : (bd, no, pf) = (Fo.enterBd k a n ws no pf bd, Fo.notsN k no, Fo.pfpsN k pf) := by unfold Fo.enterBd Fo.notsN Fo.pfpsN; rw [hkb, if_neg hk3, if_neg hk9]; rfl
  have hres2 : ∀ W q, Sv W L sb m1 m2 m3 m4 q st bd (ws ++ vs) no pf → Sv W L sb m1 m2 m3 m4 q st (Fo.enterBd k a n ws no pf bd) (ws ++ vs) (Fo.notsN k no) (Fo.pfpsN k pf) := fun W q hq => by
    injection hres with e1 e2; injection e2 with e2 e3; rw [← e1, ← e2, ← e3]; exact hq
  have Hres := Lib.hid hres2; clear hres hres2
  have t3 : (k == 3) = false := by simpa using hk3
  have t9 : (k == 9) = false := by simpa using hk9
  have Hk3 := Lib.hid hk3; clear hk3
  have Hk9 := Lib.hid hk9; clear hk9
  have Hkb := Lib.hid hkb; clear hkb
  have Hev := Lib.hid hev0; clear hev0
  have Hl3 := Lib.hid hl3; clear hl3
  have H3 := Lib.hid h3; clear h3
  have Hws := Lib.hid hws; clear hws
  have HN1 := Lib.hid (show N ≤ 1000000 from hN)
  clear h
  go_enter Tryd.func51, Tryd.ntmps51
  go_wp2_with (go_at_call 33; refine (fbinds_any _ _).mono ?_; rw [Hkb.out]; rintro e w' ⟨rfl, rfl⟩)

  go_loopw [6, 63] (fun _ i wr => ∃ j : Nat, j ≤ n3 ∧ i = .int .i64 j ∧ EV L sb m1 m2 m3 m4 (N + j) st bd (ws.take j ++ vs) no pf w.heap.size #[.int .i64 k, .int .i64 a, .string n, .slice A3 n3 c3, .slice A4 n4 c4, .slice A m c] w wr) (fun _ i _ => n3 - (intOf i).toNat)
  case atStart => exact ⟨0, Nat.zero_le _, rfl, by simpa using Hev.out⟩
  case round =>
    obtain ⟨j, hj, rfl, hev⟩ := hrel
    have Hej := Lib.hid hev; clear hev
    by_cases hlt : j < n3
    · obtain ⟨ad, s, rfl, hb, hs, hc, hsz⟩ := (H3.out.below Hej.out.bel.bel).at_ hlt
      obtain ⟨q, W2, hq, hlook, hput, hev2⟩ := Hej.out.var (Nat.le_trans hL Hej.out.bel.size) (Hws.out s (List.mem_of_getElem? hs)) hs hvl (by omega) (by have := HN1.out; unfold maxLen; omega)
      have c7 : wr.cell? ⟨sb, 7, none⟩ = some (.map (some m4)) := Hej.out.sv.box.cell 7
      have Hs := Lib.hid hs; clear hs
      have Hev2 := Lib.hid hev2; clear hev2
      go_wp2
      go_roundw
      case rel => exact ⟨j + 1, by omega, by go_num, Hev2.out⟩
      case measure => simp [intOf]; omega
    · obtain rfl : j = n3 := by omega
      have hfin := Hej.out
      rw [List.take_of_length_le (by rw [← Hl3.out]; exact Nat.le_refl _)] at hfin
      have Hfin := Lib.hid hfin; clear hfin
      go_wp2
      go_end0
      exact ⟨rfl, Hfin.out.bel, N + j, by have := Hl3.out; omega, Hres.out _ _ Hfin.out.sv⟩

set_option maxRecDepth 100000 in
set_option maxHeartbeats 2000000 in
theorem ent_not {L sb m1 m2 m3 m4 N : Nat} {st : St ByteArray} {bd : List (Bd ByteArray)} {vs : List ByteArray} {no pf : Nat} (k a : Int) (n : ByteArray) (ws : List ByteArray) (A3 : Option Addr) (n3 c3 : Nat) (A4 : Option Addr) (n4 c4 : Nat) (A : Option Addr) (m c : Nat) (w : World) (hL : L ≤ w.heap.size) (h : Sv w L sb m1 m2 m3 m4 N st bd vs no pf)
    (h3 : Strs w (· < L) (.slice A3 n3 c3) ws) (hws : ∀ x ∈ ws, x.size ≤ maxLen) (hw24 : ws.length ≤ 24) (hvl : vs.length ≤ 10000) (hN : N ≤ 1000000) (hno : no ≤ 1000) (_hpf : pf ≤ 1000) (_hn : n.size ≤ maxLen) (_hbl : bd.length ≤ 1000) (hk3 : k = 3) :
    Calls Tryd.prog 51 #[.pointer (some ⟨sb, 0, none⟩), .agg #[.int .i64 k, .int .i64 a, .string n, .slice A3 n3 c3, .slice A4 n4 c4, .slice A m c]] w (EntPost L sb m1 m2 m3 m4 N st bd vs no pf k a n ws w) := by
  have hev0 : EV L sb m1 m2 m3 m4 N st bd vs no pf w.heap.size #[.int .i64 k, .int .i64 a, .string n, .slice A3 n3 c3, .slice A4 n4 c4, .slice A m c] w (w.alloc (.cells #[.int .i64 k, .int .i64 a, .string n, .slice A3 n3 c3, .slice A4 n4 c4, .slice A m c] 31)) := ⟨h.alloc _, Blk.new w _ _, ((Fr.refl _ _).alloc hL _)⟩
  have hl3 := h3.length
  have hl0 := h.l0
  have hlt0 := h.box.lt
  have hmax3 : n3 ≤ 24 := by omega
  have hkb : Fo.bindsB k = false := by rw [hk3]; rfl
  have hk9 : k ≠ 9 := by omega
  have hres2 : ∀ W q, Sv W L sb m1 m2 m3 m4 q st bd (ws ++ vs) (no + 1) pf → Sv W L sb m1 m2 m3 m4 q st (Fo.enterBd k a n ws no pf bd) (ws ++ vs) (Fo.notsN k no) (Fo.pfpsN k pf) := fun W q hq => by
    unfold Fo.enterBd Fo.notsN Fo.pfpsN; rw [hkb, if_pos hk3, if_neg hk9]; exact hq
  have Hres := Lib.hid hres2; clear hres2
  have t3 : (k == 3) = true := by simpa using hk3
  have Hk3 := Lib.hid hk3; clear hk3
  have Hk9 := Lib.hid hk9; clear hk9
  have Hkb := Lib.hid hkb; clear hkb
  have x4 : w.cell? ⟨sb, 4, none⟩ = some (.int .i64 (no : Int)) := h.box.cell 4
  have f4 := h.box.frozen 4
  have hev1 : EV L sb m1 m2 m3 m4 N st bd vs (no + 1) pf w.heap.size #[.int .i64 k, .int .i64 a, .string n, .slice A3 n3 c3, .slice A4 n4 c4, .slice A m c] w ((w.setCell ⟨sb, 4, none⟩ (.int .i64 ((no : Int) + 1))).alloc (.cells #[.int .i64 k, .int .i64 a, .string n, .slice A3 n3 c3, .slice A4 n4 c4, .slice A m c] 31)) :=
    ⟨(h.set_nots (by go_num)).alloc _, by simpa using Blk.new (w.setCell ⟨sb, 4, none⟩ (.int .i64 ((no : Int) + 1))) 31 #[.int .i64 k, .int .i64 a, .string n, .slice A3 n3 c3, .slice A4 n4 c4, .slice A m c], ((Fr.refl L w).set h.box hl0 4 _).alloc (by simpa using hL) _⟩
  clear hev0
  have Hl3 := Lib.hid hl3; clear hl3
  have H3 := Lib.hid h3; clear h3
  have Hws := Lib.hid hws; clear hws
  have HN1 := Lib.hid (show N ≤ 1000000 from hN)
  clear h
  go_enter Tryd.func51, Tryd.ntmps51
  go_wp2_with (go_at_call 33; refine (fbinds_any _ _).mono ?_; rw [Hkb.out]; rintro e w' ⟨rfl, rfl⟩)
  generalize ((w.setCell ⟨sb, 4, none⟩ (.int .i64 ((no : Int) + 1))).alloc (.cells #[.int .i64 k, .int .i64 a, .string n, .slice A3 n3 c3, .slice A4 n4 c4, .slice A m c] 31)) = W1 at *
  have Hev := Lib.hid hev1; clear hev1

  go_loopw [6, 63] (fun _ i wr => ∃ j : Nat, j ≤ n3 ∧ i = .int .i64 j ∧ EV L sb m1 m2 m3 m4 (N + j) st bd (ws.take j ++ vs) (no + 1) pf w.heap.size #[.int .i64 k, .int .i64 a, .string n, .slice A3 n3 c3, .slice A4 n4 c4, .slice A m c] w wr) (fun _ i _ => n3 - (intOf i).toNat)
  case atStart => exact ⟨0, Nat.zero_le _, rfl, by simpa using Hev.out⟩
  case round =>
    obtain ⟨j, hj, rfl, hev⟩ := hrel
    have Hej := Lib.hid hev; clear hev
    by_cases hlt : j < n3
    · obtain ⟨ad, s, rfl, hb, hs, hc, hsz⟩ := (H3.out.below Hej.out.bel.bel).at_ hlt
      obtain ⟨q, W2, hq, hlook, hput, hev2⟩ := Hej.out.var (Nat.le_trans hL Hej.out.bel.size) (Hws.out s (List.mem_of_getElem? hs)) hs hvl (by omega) (by have := HN1.out; unfold maxLen; omega)
      have c7 : wr.cell? ⟨sb, 7, none⟩ = some (.map (some m4)) := Hej.out.sv.box.cell 7
      have Hs := Lib.hid hs; clear hs
      have Hev2 := Lib.hid hev2; clear hev2
      go_wp2
      go_roundw
      case rel => exact ⟨j + 1, by omega, by go_num, Hev2.out⟩
      case measure => simp [intOf]; omega
    · obtain rfl : j = n3 := by omega
      have hfin := Hej.out
      rw [List.take_of_length_le (by rw [← Hl3.out]; exact Nat.le_refl _)] at hfin
      have Hfin := Lib.hid hfin; clear hfin
      go_wp2
      go_end0
      exact ⟨rfl, Hfin.out.bel, N + j, by have := Hl3.out; omega, Hres.out _ _ Hfin.out.sv⟩

theorem bd_info : (Tryd.prog.info? 111).map (fun i => (i.zero, i.size, i.bytes)) = some (some (.agg #[.int .i64 0, .int .i64 0, .int .i64 0, .bool false]), 4, 32) := by kernel_rfl

/-- append of one binding to a row of the call's own, as one step of a region that draws. -/
theorem step_append_bd {ops : Array Oper} {o : Oper} {a : Act} {K : Act → World → Prop} {Q : Exit → Act → World → Prop} {E : Prop} (w : World) (hgd : o.guard = none) (s x : Operand)
    (ho : o.op = .call { callee := .builtin .append, args := #[s, x], argTypes := #[109, 109] })
    (base : Nat) (v : Value) (n : Nat) (xs : List Value) (hs : a.eval s = v) (hown : w.ownsRow base 111 4 v n xs)
    (g : Nat) (c : Nat) (y0 y1 y2 y3 : Value) (hx : a.eval x = .slice (some ⟨g, 0, none⟩) 1 c) (hc : Blk w g 111 #[y0, y1, y2, y3]) (h0 : y0.oneCell' = true) (h1 : y1.oneCell' = true) (h2 : y2.oneCell' = true) (h3 : y3.oneCell' = true) (hn : n ≤ 1000000) (hbase : base ≤ w.heap.size)
    (h : ∀ v' w', w'.ownsRow base 111 4 v' (n + 1) (xs ++ [y0, y1, y2, y3]) → w.grownBy w' v.ownBlock → (v'.ownBlock = v.ownBlock ∨ v'.ownBlock = some w.heap.size) → K (a.put o.dst v') w') :
    if Region.wanted o (yielded ops a.tmps) = true then Oper.wp Tryd.prog o a w K Q else E := by
  obtain ⟨i0, hi, hz0, hz1, hz2⟩ := info_parts bd_info
  have hw : Region.wanted o (yielded ops a.tmps) = true := by simp [Region.wanted, hgd]
  rw [if_pos hw]
  obtain ⟨v', w', hr, g2, g3, -, g5⟩ := run_append_own_at (P := Tryd.prog) w base 109 o.type 111 i0 _ 4 32 Tryd.underlying109 hi hz0 hz1 hz2 rfl (by decide) v n xs hown ⟨g, 0, none⟩ 1 c [y0, y1, y2, y3] rfl
    (by
      intro j u hu
      have e : (Addr.mk g 0 none).add j = ⟨g, j, none⟩ := by unfold Addr.add; split <;> simp_all
      rw [e, hc.cell j]
      simpa using hu)
    (by
      intro u hu
      simp at hu
      rcases hu with rfl | rfl | rfl | rfl <;> assumption)
    (by unfold maxLen; omega) (by omega) hbase
  unfold Oper.wp execOp
  simp only [ho, resolve, invoke, builtin, Sem.run_bind, Sem.run_pure, Result.andThen_ok, List.map_toArray, List.map_cons, List.map_nil, hs, hx, hr]
  exact h v' w' g2 g3 g5

section
variable {L sb m1 m2 m3 m4 N : Nat} {st : St ByteArray} {bd : List (Bd ByteArray)} {vs : List ByteArray} {no pf g : Nat} {cs : Array Value} {w W W' : World}
theorem EV.below (h : EV L sb m1 m2 m3 m4 N st bd vs no pf g cs w W) (hL : L ≤ W.heap.size) (hb : Below W.heap.size W W') : EV L sb m1 m2 m3 m4 N st bd vs no pf g cs w W' :=
  ⟨h.sv.below hb, Blk.below h.bx hb h.bx.lt, h.bel.step hL hb⟩
/-- A binding laid on its stack. -/
theorem EV.push (h : EV L sb m1 m2 m3 m4 N st bd vs no pf g cs w W) (hL : L ≤ W.heap.size) {G : ByteArray → Option Value} (hG : BndG W L m3 N bd G) {b : Bd ByteArray} {v' : Value} {w5 : World}
    (hown : w5.ownsRow L 111 4 v' ((bdOf b.name bd).length + 1) (stk b.name bd ++ bdCells b)) (hg5 : W.grownBy w5 (lookG G (.slice none 0 0) b.name).ownBlock)
    (hat : v'.ownBlock = (lookG G (.slice none 0 0) b.name).ownBlock ∨ v'.ownBlock = some W.heap.size) (hN : N < maxLen) (hn : b.name.size ≤ maxLen) {bb : Nat} {bt : TypeId} {bc : Array Value} (hb : Blk W bb bt bc) (hbb : ∀ k, (lookG G (.slice none 0 0) b.name).ownBlock = some k → k < bb) :
    (Blk w5 sb 79 #[.int .i64 (st.size : Nat), .int .i64 (st.depth : Nat), .map (some m1), .map (some m2), .int .i64 (no : Nat), .int .i64 (pf : Nat), .map (some m3), .map (some m4)] ∧ Blk w5 g 31 cs ∧ Blk w5 bb bt bc) ∧
    ∃ W6, (Instr.mapUpdate 76 (.map (some m3)) (.string b.name) v').run Tryd.prog w5 = .ok () W6 ∧ EV L sb m1 m2 m3 m4 (N + 1) st (b :: bd) vs no pf g cs w W6 ∧ Blk W6 bb bt bc := by
  have hrow := hG.row b.name
  have hrw : ∀ k, (lookG G (.slice none 0 0) b.name).ownBlock = some k → L ≤ k ∧ ∃ c, W.heap[k]? = some (.cells c 111 (0, 0)) := fun k hk => own_block hrow hk
  have hne : ∀ {t : TypeId} {c : Array Value} {r : Nat}, Blk W r t c → t ≠ 111 → some r ≠ (lookG G (.slice none 0 0) b.name).ownBlock := fun {t c r} hB ht e => by
    obtain ⟨-, c', hc⟩ := hrw r e.symm
    unfold Blk at hB
    rw [hB] at hc
    injection hc with hc
    injection hc with _ hc
    exact ht hc
  have k1 := h.sv.box.grown hg5 (hne h.sv.box (by decide))
  have k2 := h.bx.grown hg5 (hne h.bx (by decide))
  have k3 := hb.grown hg5 (fun e => Nat.lt_irrefl _ (hbb bb e.symm))
  have hm5 := hG.1.kept hg5 (hG.map_apart b.name)
  obtain ⟨W6, r1, r2, r3⟩ := hm5.put (t := 76) Tryd.underlying76 hN b.name hn v'
  have hbnd := hG.push hown hg5 hat hm5 r2 r3
  have hl3 := h.sv.l3
  refine ⟨⟨k1, k2, k3⟩, W6, r1, ⟨h.sv.put_bnd hbnd.bnd hg5 (fun k hk => (hrw k hk).2) r3, k2.grown r3 (some_ne (hm5.ne_blk k2).symm), ?_⟩, k3.grown r3 (some_ne (hm5.ne_blk k3).symm)⟩
  exact (h.bel.row hg5 hrw hL).map hm5 r3 hl3 (Nat.le_trans hL hg5.size)
end

set_option maxRecDepth 100000 in
set_option maxHeartbeats 2000000 in
theorem ent_bind {L sb m1 m2 m3 m4 N : Nat} {st : St ByteArray} {bd : List (Bd ByteArray)} {vs : List ByteArray} {no pf : Nat} (k a : Int) (n : ByteArray) (ws : List ByteArray) (A3 : Option Addr) (n3 c3 : Nat) (A4 : Option Addr) (n4 c4 : Nat) (A : Option Addr) (m c : Nat) (w : World) (hL : L ≤ w.heap.size) (h : Sv w L sb m1 m2 m3 m4 N st bd vs no pf)
    (h3 : Strs w (· < L) (.slice A3 n3 c3) ws) (hws : ∀ x ∈ ws, x.size ≤ maxLen) (hw24 : ws.length ≤ 24) (hvl : vs.length ≤ 10000) (hN : N ≤ 1000000) (_hno : no ≤ 1000) (hpf : pf ≤ 1000) (hn : n.size ≤ maxLen) (hbl : bd.length ≤ 1000) (hk9 : k ≠ 9) (hkb : Fo.bindsB k = true) :
    Calls Tryd.prog 51 #[.pointer (some ⟨sb, 0, none⟩), .agg #[.int .i64 k, .int .i64 a, .string n, .slice A3 n3 c3, .slice A4 n4 c4, .slice A m c]] w (EntPost L sb m1 m2 m3 m4 N st bd vs no pf k a n ws w) := by
  have hev0 : EV L sb m1 m2 m3 m4 N st bd vs no pf w.heap.size #[.int .i64 k, .int .i64 a, .string n, .slice A3 n3 c3, .slice A4 n4 c4, .slice A m c] w (w.alloc (.cells #[.int .i64 k, .int .i64 a, .string n, .slice A3 n3 c3, .slice A4 n4 c4, .slice A m c] 31)) := ⟨h.alloc _, Blk.new w _ _, ((Fr.refl _ _).alloc hL _)⟩
  have hl3 := h3.length
  have hl0 := h.l0
  have hlt0 := h.box.lt
  have hmax3 : n3 ≤ 24 := by omega
  have hk3 : k ≠ 3 := by intro e; rw [e] at hkb; exact absurd hkb (by decide)
  obtain ⟨p8, hp8⟩ : ∃ p8 : Bool, p8 = decide (k = 8) := ⟨_, rfl⟩
  obtain ⟨pf1, hpf1⟩ : ∃ q : Nat, q = pf := ⟨_, rfl⟩
  have hres2 : ∀ W q, Sv W L sb m1 m2 m3 m4 q st (⟨n, no, pf1, Fo.placesI k a ws, p8⟩ :: bd) (ws ++ vs) no pf1 → Sv W L sb m1 m2 m3 m4 q st (Fo.enterBd k a n ws no pf bd) (ws ++ vs) (Fo.notsN k no) (Fo.pfpsN k pf) := fun W q hq => by
    subst hpf1; unfold Fo.enterBd Fo.notsN Fo.pfpsN; rw [hkb, if_neg hk3, if_neg hk9, ← hp8]; exact hq
  have hev1 := hev0
  clear hev0
  have t3 : (k == 3) = false := by simpa using hk3
  have t9 : (k == 9) = false := by simpa using hk9
  have t8 : (k == 8) = p8 := by rw [hp8, Bool.eq_iff_iff]; simp
  have hplc := fun W => places_any k a n A3 n3 c3 A4 n4 c4 A m c ws hl3 (by omega) W
  have Hres := Lib.hid hres2; clear hres2
  have Hk3 := Lib.hid hk3; clear hk3
  have Hk9 := Lib.hid hk9; clear hk9
  have Hkb := Lib.hid hkb; clear hkb
  have Hp8 := Lib.hid hp8; clear hp8
  have Hplc := Lib.hid hplc; clear hplc
  have Hl3 := Lib.hid hl3; clear hl3
  have H3 := Lib.hid h3; clear h3
  have Hws := Lib.hid hws; clear hws
  have HN1 := Lib.hid (show N ≤ 1000000 from hN)
  clear h
  have hb10 := hev1.bx.cell 0
  have hb13 := hev1.bx.cell 3
  go_enter Tryd.func51, Tryd.ntmps51
  go_upto_region 7 with (go_at_call 33; refine (fbinds_any _ _).mono ?_; rw [Hkb.out]; rintro e w' ⟨rfl, rfl⟩)
  generalize (w.alloc (.cells #[.int .i64 k, .int .i64 a, .string n, .slice A3 n3 c3, .slice A4 n4 c4, .slice A m c] 31)) = W1 at *
  rw [← hpf1] at hev1
  clear hpf1 hb10 hb13
  generalize Fo.placesI k a ws = ar at *
  have hLW := Nat.le_trans hL hev1.bel.size
  have hall : ∀ W, Below W1.heap.size W1 W → (fun W => W.cell? ⟨sb, 4, none⟩ = some (.int .i64 (no : Int)) ∧ W.cell? ⟨sb, 5, none⟩ = some (.int .i64 (pf1 : Int)) ∧ W.cell? ⟨w.heap.size, 0, none⟩ = some (.int .i64 k) ∧ W.cell? ⟨w.heap.size, 1, none⟩ = some (.int .i64 a) ∧ W.cell? ⟨w.heap.size, 2, none⟩ = some (.string n) ∧ W.cell? ⟨w.heap.size, 3, none⟩ = some (.slice A3 n3 c3) ∧ W.cell? ⟨w.heap.size, 4, none⟩ = some (.slice A4 n4 c4) ∧ W.cell? ⟨w.heap.size, 5, none⟩ = some (.slice A m c)) W := fun W hW => by
    have he := hev1.below hLW hW
    exact ⟨he.sv.box.cell 4, he.sv.box.cell 5, he.bx.cell 0, he.bx.cell 1, he.bx.cell 2, he.bx.cell 3, he.bx.cell 4, he.bx.cell 5⟩
  have Hall := Lib.hid hall; clear hall
  obtain ⟨G, hG1⟩ := hev1.sv.bnd.some_
  have HG1 := Lib.hid hG1; clear hG1
  have Hev1 := Lib.hid hev1; clear hev1
  refine wp_region_held_drew (S := fun W => W.cell? ⟨sb, 4, none⟩ = some (.int .i64 (no : Int)) ∧ W.cell? ⟨sb, 5, none⟩ = some (.int .i64 (pf1 : Int)) ∧ W.cell? ⟨w.heap.size, 0, none⟩ = some (.int .i64 k) ∧ W.cell? ⟨w.heap.size, 1, none⟩ = some (.int .i64 a) ∧ W.cell? ⟨w.heap.size, 2, none⟩ = some (.string n) ∧ W.cell? ⟨w.heap.size, 3, none⟩ = some (.slice A3 n3 c3) ∧ W.cell? ⟨w.heap.size, 4, none⟩ = some (.slice A4 n4 c4) ∧ W.cell? ⟨w.heap.size, 5, none⟩ = some (.slice A m c)) (by kernel_rfl) (Hall.out _ (below_drewN (Below.refl _ _) 1)) (fun hHeld => ?_)
  refine takeL (i := 0) (v := ?_) rfl (by kernel_rfl) (by kernel_rfl) (by kernel_rfl) (fun _ _ _ h => h) (Or.inl ⟨by kernel_rfl, ?_⟩) (by assumption) ?_
  rotate_left
  · (intro w' hSw; (try dsimp only at hSw); go_simp; (try with_reducible rfl))
  try simp only [Act.put, List.setIfInBounds_toArray, List.set_cons_zero, List.set_cons_succ]
  refine takeL (i := 1) (v := ?_) rfl (by kernel_rfl) (by kernel_rfl) (by kernel_rfl) (fun _ _ _ h => h) (Or.inl ⟨by kernel_rfl, ?_⟩) (by assumption) ?_
  rotate_left
  · (intro w' hSw; (try dsimp only at hSw); go_simp; (try with_reducible rfl))
  try simp only [Act.put, List.setIfInBounds_toArray, List.set_cons_zero, List.set_cons_succ]
  refine takeL (i := 2) (v := ?_) rfl (by kernel_rfl) (by kernel_rfl) (by kernel_rfl) (fun _ _ _ h => h) (Or.inl ⟨by kernel_rfl, ?_⟩) (by assumption) ?_
  rotate_left
  · (intro w' hSw; (try dsimp only at hSw); go_simp; (try with_reducible rfl))
  try simp only [Act.put, List.setIfInBounds_toArray, List.set_cons_zero, List.set_cons_succ]
  refine takeL (i := 3) (v := ?_) rfl (by kernel_rfl) (by kernel_rfl) (by kernel_rfl) (fun _ _ _ h => h) (Or.inl ⟨by kernel_rfl, ?_⟩) (by assumption) ?_
  rotate_left
  · (intro w' hSw; (try dsimp only at hSw); go_simp; (try with_reducible rfl))
  try simp only [Act.put, List.setIfInBounds_toArray, List.set_cons_zero, List.set_cons_succ]
  refine takeL (i := 4) (v := ?_) rfl (by kernel_rfl) (by kernel_rfl) (by kernel_rfl) (fun _ _ _ h => h) (Or.inl ⟨by kernel_rfl, ?_⟩) (by assumption) ?_
  rotate_left
  · (intro w' hSw; (try dsimp only at hSw); go_simp; (try with_reducible rfl))
  try simp only [Act.put, List.setIfInBounds_toArray, List.set_cons_zero, List.set_cons_succ]
  refine takeL (i := 6) (v := ?_) rfl (by kernel_rfl) (by kernel_rfl) (by kernel_rfl) (fun _ _ _ h => h) (Or.inl ⟨by kernel_rfl, ?_⟩) (by assumption) ?_
  rotate_left
  · (intro w' hSw; (try dsimp only at hSw); go_simp; (try with_reducible rfl))
  try simp only [Act.put, List.setIfInBounds_toArray, List.set_cons_zero, List.set_cons_succ]
  refine takeL (i := 7) (v := ?_) rfl (by kernel_rfl) (by kernel_rfl) (by kernel_rfl) (fun _ _ _ h => h) (Or.inl ⟨by kernel_rfl, ?_⟩) (by assumption) ?_
  rotate_left
  · (intro w' hSw; (try dsimp only at hSw); go_simp; (try with_reducible rfl))
  try simp only [Act.put, List.setIfInBounds_toArray, List.set_cons_zero, List.set_cons_succ]
  refine takeL (i := 8) (v := .bool p8) rfl (by kernel_rfl) (by kernel_rfl) (by kernel_rfl) (fun _ _ _ h => h) (Or.inl ⟨by kernel_rfl, ?_⟩) (by assumption) ?_
  · (intro w' hSw; (try dsimp only at hSw); go_simp)
  try simp only [Act.put, List.setIfInBounds_toArray, List.set_cons_zero, List.set_cons_succ]
  refine wpAnyH_ready (rs := [5, 10]) (by kernel_rfl) (by simp) ?_
  refine AllReadyH.cons rfl (fun K hK => ?_) (AllReadyH.cons rfl (fun K hK => ?_) AllReadyH.nil)
  · go_simp
    refine (Hplc.out _).mono ?_
    rintro e w2 ⟨rfl, hb2⟩
    have hbw2 := (below_drewN (Below.refl W1.heap.size W1) 1).trans (hb2.mono (Nat.le_refl _))
    refine hK.out _ _ ?_ (fun hHeld => ?_)
    · exact Hall.out _ hbw2
    clear hK K
    try simp only [Act.put, List.setIfInBounds_toArray, List.set_cons_zero, List.set_cons_succ]
    refine takeL (i := 9) (v := ?_) rfl (by kernel_rfl) (by kernel_rfl) (by kernel_rfl) (fun _ _ _ h => h) (Or.inl ⟨by kernel_rfl, ?_⟩) (by assumption) ?_
    rotate_left
    · (intro w' hSw; (try dsimp only at hSw); go_simp; (try with_reducible rfl))
    try simp only [Act.put, List.setIfInBounds_toArray, List.set_cons_zero, List.set_cons_succ]
    refine wpAnyH_ready (rs := [10]) (by kernel_rfl) (by simp) ?_
    refine AllReadyH.cons rfl (fun K hK => ?_) AllReadyH.nil
    go_simp
    refine hK.out _ _ ?_ (fun hHeld => ?_)
    · exact Hall.out _ (hbw2.alloc hbw2.size _)
    clear hK K
    try simp only [Act.put, List.setIfInBounds_toArray, List.set_cons_zero, List.set_cons_succ]
    refine wpAnyH_ready (rs := [11]) (by kernel_rfl) (by simp) ?_
    refine AllReadyH.cons rfl (fun K hK => ?_) AllReadyH.nil
    go_simp
    refine hK.out _ _ ?_ (fun hHeld => ?_)
    · exact Hall.out _ (hbw2.alloc hbw2.size _)
    clear hK K
    try simp only [Act.put, List.setIfInBounds_toArray, List.set_cons_zero, List.set_cons_succ]
    refine wpAnyH_done (by kernel_rfl) ?_ _
    have hbw3 := hbw2.alloc hbw2.size (.cells #[.int .i64 (no : Int), .int .i64 (pf1 : Int), .int .i64 ar, .bool p8] 111)
    have hB3 := Blk.new w2 111 #[.int .i64 (no : Int), .int .i64 (pf1 : Int), .int .i64 ar, .bool p8]
    have hbb := hbw2.size
    clear hbw2 hb2
    generalize (w2.alloc (.cells #[.int .i64 (no : Int), .int .i64 (pf1 : Int), .int .i64 ar, .bool p8] 111)) = W3 at *
    generalize w2.heap.size = bb at *
    have hsz3 := hbw3.size
    have hev3 := Hev1.out.below hLW hbw3
    have hG := BndG.kept HG1.out (grown_of_below hbw3) (by simp) (by simp)
    have hlk : ∀ W, MapV W m3 N G → (Instr.lookup 76 (.map (some m3)) (.string n) false).run Tryd.prog W = .ok (lookG G (.slice none 0 0) n) W := fun W hW => by
      have := hW.look (t := 76) Tryd.underlying76 (zeroStk W) n hn false
      simpa using this
    have hltG : ∀ kk, (lookG G (.slice none 0 0) n).ownBlock = some kk → kk < bb := fun kk hk => Nat.lt_of_lt_of_le (own_lt (HG1.out.row n) hk) hbb
    have ev3d := hev3.below (Nat.le_trans hLW hsz3) (below_drewN (Below.refl _ _) 1)
    have hG4 := BndG.kept hG (grown_of_below (below_drewN ((Below.refl W3.heap.size W3).alloc (Nat.le_refl _) (.cells #[.int .i64 (no : Int), .int .i64 (pf1 : Int), .int .i64 ar, .bool p8] 111)) 1)) (by simp) (by simp)
    have ev4 := hev3.below (Nat.le_trans hLW hsz3) (below_drewN ((Below.refl W3.heap.size W3).alloc (Nat.le_refl _) (.cells #[.int .i64 (no : Int), .int .i64 (pf1 : Int), .int .i64 ar, .bool p8] 111)) 1)
    have hl1 : (Instr.lookup 76 (.map (some m3)) (.string n) false).run Tryd.prog W3.drew = .ok (lookG G (.slice none 0 0) n) W3.drew := hlk W3.drew (hG.1.drewN 1)
    have hl2 : (Instr.lookup 76 (.map (some m3)) (.string n) false).run Tryd.prog (W3.alloc (.cells #[.int .i64 (no : Int), .int .i64 (pf1 : Int), .int .i64 ar, .bool p8] 111)).drew = .ok (lookG G (.slice none 0 0) n) (W3.alloc (.cells #[.int .i64 (no : Int), .int .i64 (pf1 : Int), .int .i64 ar, .bool p8] 111)).drew := hlk _ ((hG.1.alloc _).drewN 1)
    have hB4 := Blk.drewN (Blk.alloc hB3 (.cells #[.int .i64 (no : Int), .int .i64 (pf1 : Int), .int .i64 ar, .bool p8] 111)) 1
    have hR4 := Blk.drewN (Blk.new W3 111 #[.int .i64 (no : Int), .int .i64 (pf1 : Int), .int .i64 ar, .bool p8]) 1
    have hrow4 := hG4.row n
    have hS8 : ∀ W, Blk W sb 79 #[.int .i64 (st.size : Nat), .int .i64 (st.depth : Nat), .map (some m1), .map (some m2), .int .i64 (no : Nat), .int .i64 (pf1 : Nat), .map (some m3), .map (some m4)] → Blk W w.heap.size 31 #[.int .i64 k, .int .i64 a, .string n, .slice A3 n3 c3, .slice A4 n4 c4, .slice A m c] → Blk W bb 111 #[.int .i64 (no : Int), .int .i64 (pf1 : Int), .int .i64 ar, .bool p8] → (fun W => W.cell? ⟨sb, 6, none⟩ = some (.map (some m3)) ∧ W.cell? ⟨w.heap.size, 2, none⟩ = some (.string n) ∧ W.cell? ⟨bb, 0, none⟩ = some (.int .i64 (no : Int)) ∧ W.cell? ⟨bb, 1, none⟩ = some (.int .i64 (pf1 : Int)) ∧ W.cell? ⟨bb, 2, none⟩ = some (.int .i64 ar) ∧ W.cell? ⟨bb, 3, none⟩ = some (.bool p8)) W := fun W q1 q2 q3 => ⟨q1.cell 6, q2.cell 2, q3.cell 0, q3.cell 1, q3.cell 2, q3.cell 3⟩
    have hN2 : N < maxLen := by have := HN1.out; unfold maxLen; omega
    have hbn : (bdOf n bd).length ≤ 1000000 := Nat.le_trans (List.length_filter_le _ _) (by omega)
    have HhS8 := Lib.hid hS8; clear hS8
    have Hhrow4 := Lib.hid hrow4; clear hrow4
    have HhR4 := Lib.hid hR4; clear hR4
    have HhB4 := Lib.hid hB4; clear hB4
    have Hev4 := Lib.hid ev4; clear ev4
    have HhG4 := Lib.hid hG4; clear hG4
    have Hev3d := Lib.hid ev3d; clear ev3d
    have HhltG := Lib.hid hltG; clear hltG
    have Hhlk := Lib.hid hlk; clear hlk
    have Hhev3 := Lib.hid hev3; clear hev3
    have HhG := Lib.hid hG; clear hG
    have HhB3 := Lib.hid hB3; clear hB3
    have Hhbn := Lib.hid hbn; clear hbn
    obtain ⟨v, hv⟩ : ∃ v, v = lookG G (.slice none 0 0) n := ⟨_, rfl⟩
    rw [← hv] at hl1 hl2
    have Hv := Lib.hid hv; clear hv
    obtain ⟨VA, VC, hvs⟩ := own_slice (Hv.out ▸ Hhrow4.out)
    subst hvs
    go_wp2
    refine wp_region_held_drew (S := fun W => W.cell? ⟨sb, 6, none⟩ = some (.map (some m3)) ∧ W.cell? ⟨w.heap.size, 2, none⟩ = some (.string n) ∧ W.cell? ⟨bb, 0, none⟩ = some (.int .i64 (no : Int)) ∧ W.cell? ⟨bb, 1, none⟩ = some (.int .i64 (pf1 : Int)) ∧ W.cell? ⟨bb, 2, none⟩ = some (.int .i64 ar) ∧ W.cell? ⟨bb, 3, none⟩ = some (.bool p8)) (by kernel_rfl) (HhS8.out _ Hev3d.out.sv.box Hev3d.out.bx (Blk.drewN HhB3.out 1)) (fun hHeld => ?_)
    refine takeL (i := 0) (v := ?_) rfl (by kernel_rfl) (by kernel_rfl) (by kernel_rfl) (fun _ _ _ h => h) (Or.inl ⟨by kernel_rfl, ?_⟩) (by assumption) ?_
    rotate_left
    · (intro w' hSw; (try dsimp only at hSw); go_simp; (try with_reducible rfl))
    try simp only [Act.put, List.setIfInBounds_toArray, List.set_cons_zero, List.set_cons_succ]
    refine takeL (i := 1) (v := ?_) rfl (by kernel_rfl) (by kernel_rfl) (by kernel_rfl) (fun _ _ _ h => h) (Or.inl ⟨by kernel_rfl, ?_⟩) (by assumption) ?_
    rotate_left
    · (intro w' hSw; (try dsimp only at hSw); go_simp; (try with_reducible rfl))
    try simp only [Act.put, List.setIfInBounds_toArray, List.set_cons_zero, List.set_cons_succ]
    refine takeL (i := 2) (v := ?_) rfl (by kernel_rfl) (by kernel_rfl) (by kernel_rfl) (fun _ _ _ h => h) (Or.inl ⟨by kernel_rfl, ?_⟩) (by assumption) ?_
    rotate_left
    · (intro w' hSw; (try dsimp only at hSw); go_simp; (try with_reducible rfl))
    try simp only [Act.put, List.setIfInBounds_toArray, List.set_cons_zero, List.set_cons_succ]
    refine takeL (i := 3) (v := ?_) rfl (by kernel_rfl) (by kernel_rfl) (by kernel_rfl) (fun _ _ _ h => h) (Or.inl ⟨by kernel_rfl, ?_⟩) (by assumption) ?_
    rotate_left
    · (intro w' hSw; (try dsimp only at hSw); go_simp; (try with_reducible rfl))
    try simp only [Act.put, List.setIfInBounds_toArray, List.set_cons_zero, List.set_cons_succ]
    refine takeL (i := 4) (v := ?_) rfl (by kernel_rfl) (by kernel_rfl) (by kernel_rfl) (fun _ _ _ h => h) (Or.inl ⟨by kernel_rfl, ?_⟩) (by assumption) ?_
    rotate_left
    · (intro w' hSw; (try dsimp only at hSw); go_simp; (try with_reducible rfl))
    try simp only [Act.put, List.setIfInBounds_toArray, List.set_cons_zero, List.set_cons_succ]
    refine takeL (i := 5) (v := ?_) rfl (by kernel_rfl) (by kernel_rfl) (by kernel_rfl) (fun _ _ _ h => h) (Or.inl ⟨by kernel_rfl, ?_⟩) (by assumption) ?_
    rotate_left
    · (intro w' hSw; (try dsimp only at hSw); go_simp; (try with_reducible rfl))
    try simp only [Act.put, List.setIfInBounds_toArray, List.set_cons_zero, List.set_cons_succ]
    refine takeL (i := 6) (v := ?_) rfl (by kernel_rfl) (by kernel_rfl) (by kernel_rfl) (fun _ _ _ h => h) (Or.inl ⟨by kernel_rfl, ?_⟩) (by assumption) ?_
    rotate_left
    · (intro w' hSw; (try dsimp only at hSw); go_simp; (try with_reducible rfl))
    try simp only [Act.put, List.setIfInBounds_toArray, List.set_cons_zero, List.set_cons_succ]
    refine takeL (i := 7) (v := ?_) rfl (by kernel_rfl) (by kernel_rfl) (by kernel_rfl) (fun _ _ _ h => h) (Or.inl ⟨by kernel_rfl, ?_⟩) (by assumption) ?_
    rotate_left
    · (intro w' hSw; (try dsimp only at hSw); go_simp; (try with_reducible rfl))
    try simp only [Act.put, List.setIfInBounds_toArray, List.set_cons_zero, List.set_cons_succ]
    refine takeL (i := 8) (v := ?_) rfl (by kernel_rfl) (by kernel_rfl) (by kernel_rfl) (fun _ _ _ h => h) (Or.inl ⟨by kernel_rfl, ?_⟩) (by assumption) ?_
    rotate_left
    · (intro w' hSw; (try dsimp only at hSw); go_simp; (try with_reducible rfl))
    try simp only [Act.put, List.setIfInBounds_toArray, List.set_cons_zero, List.set_cons_succ]
    refine takeL (i := 9) (v := ?_) rfl (by kernel_rfl) (by kernel_rfl) (by kernel_rfl) (fun _ _ _ h => h) (Or.inl ⟨by kernel_rfl, ?_⟩) (by assumption) ?_
    rotate_left
    · (intro w' hSw; (try dsimp only at hSw); go_simp; (try with_reducible rfl))
    try simp only [Act.put, List.setIfInBounds_toArray, List.set_cons_zero, List.set_cons_succ]
    refine takeL (i := 10) (v := ?_) rfl (by kernel_rfl) (by kernel_rfl) (by kernel_rfl) (fun _ _ _ h => h) (Or.inl ⟨by kernel_rfl, ?_⟩) (by assumption) ?_
    rotate_left
    · (intro w' hSw; (try dsimp only at hSw); go_simp; (try with_reducible rfl))
    try simp only [Act.put, List.setIfInBounds_toArray, List.set_cons_zero, List.set_cons_succ]
    refine takeL (i := 11) (v := ?_) rfl (by kernel_rfl) (by kernel_rfl) (by kernel_rfl) (fun _ _ _ h => h) (Or.inl ⟨by kernel_rfl, ?_⟩) (by assumption) ?_
    rotate_left
    · (intro w' hSw; (try dsimp only at hSw); go_simp; (try with_reducible rfl))
    try simp only [Act.put, List.setIfInBounds_toArray, List.set_cons_zero, List.set_cons_succ]
    refine takeL (i := 13) (v := ?_) rfl (by kernel_rfl) (by kernel_rfl) (by kernel_rfl) (fun _ _ _ h => h) (Or.inl ⟨by kernel_rfl, ?_⟩) (by assumption) ?_
    rotate_left
    · (intro w' hSw; (try dsimp only at hSw); go_simp; (try with_reducible rfl))
    try simp only [Act.put, List.setIfInBounds_toArray, List.set_cons_zero, List.set_cons_succ]
    refine wpAnyH_ready (rs := [12, 14]) (by kernel_rfl) (by simp) ?_
    refine AllReadyH.cons rfl (fun K hK => ?_) (AllReadyH.cons rfl (fun K hK => ?_) AllReadyH.nil)
    · go_simp
      refine hK.out _ _ ?_ (fun hHeld => ?_)
      · exact HhS8.out _ Hev3d.out.sv.box Hev3d.out.bx (Blk.drewN HhB3.out 1)
      clear hK K
      try simp only [Act.put, List.setIfInBounds_toArray, List.set_cons_zero, List.set_cons_succ]
      refine wpAnyH_ready (rs := [14]) (by kernel_rfl) (by simp) ?_
      refine AllReadyH.cons rfl (fun K hK => ?_) AllReadyH.nil
      go_simp
      refine hK.out _ _ ?_ (fun hHeld => ?_)
      · exact HhS8.out _ Hev4.out.sv.box Hev4.out.bx HhB4.out
      clear hK K
      try simp only [Act.put, List.setIfInBounds_toArray, List.set_cons_zero, List.set_cons_succ]
      refine wpAnyH_ready (rs := [15]) (by kernel_rfl) (by simp) ?_
      refine AllReadyH.cons rfl (fun K hK => ?_) AllReadyH.nil
      refine step_append_bd _ rfl _ _ rfl L _ (bdOf n bd).length _ rfl (Hv.out ▸ Hhrow4.out) W3.heap.size 1 _ _ _ _ rfl HhR4.out rfl rfl rfl rfl Hhbn.out (Nat.le_trans hLW (Nat.le_trans hsz3 (by simp))) ?_
      intro v5 w5 hown5 hg5 hat5
      obtain ⟨⟨k51, k52, k53⟩, W6, hrun6, hev6, hB6⟩ := Hev4.out.push (Nat.le_trans hLW (Nat.le_trans hsz3 (by simp))) HhG4.out (b := ⟨n, no, pf1, ar, p8⟩) hown5 (Hv.out ▸ hg5) (Hv.out ▸ hat5) hN2 hn HhB4.out HhltG.out
      obtain ⟨ZA, ZC, rfl⟩ := own_slice hown5
      refine hK.out _ _ ?_ (fun hHeld => ?_)
      · exact HhS8.out _ k51 k52 k53
      clear hK K
      try simp only [Act.put, List.setIfInBounds_toArray]
      refine wpAnyH_ready (rs := [16]) (by kernel_rfl) (by simp) ?_
      refine AllReadyH.cons rfl (fun K hK => ?_) AllReadyH.nil
      go_simp
      refine hK.out _ _ ?_ (fun hHeld => ?_)
      · exact HhS8.out _ hev6.sv.box hev6.bx hB6
      clear hK K
      try simp only [Act.put, List.setIfInBounds_toArray, List.set_cons_zero, List.set_cons_succ]
      refine wpAnyH_done (by kernel_rfl) ?_ _
      have hb63 : W6.cell? ⟨w.heap.size, 3, none⟩ = some (.slice A3 n3 c3) := hev6.bx.cell 3
      have Hev := Lib.hid hev6; clear hev6
      clear hrun6 hown5 hg5 hat5 k51 k52 k53 hB6 hl1 hl2 HhS8 Hhrow4 HhR4 HhB4 Hev4 HhG4 Hev3d HhltG Hhlk Hhev3 HhG HhB3
      go_wp2

      go_loopw [6, 63] (fun _ i wr => ∃ j : Nat, j ≤ n3 ∧ i = .int .i64 j ∧ EV L sb m1 m2 m3 m4 ((N + 1) + j) st (⟨n, no, pf1, ar, p8⟩ :: bd) (ws.take j ++ vs) no pf1 w.heap.size #[.int .i64 k, .int .i64 a, .string n, .slice A3 n3 c3, .slice A4 n4 c4, .slice A m c] w wr) (fun _ i _ => n3 - (intOf i).toNat)
      case atStart => exact ⟨0, Nat.zero_le _, rfl, by simpa using Hev.out⟩
      case round =>
        obtain ⟨j, hj, rfl, hev⟩ := hrel
        have Hej := Lib.hid hev; clear hev
        by_cases hlt : j < n3
        · obtain ⟨ad, s, rfl, hb, hs, hc, hsz⟩ := (H3.out.below Hej.out.bel.bel).at_ hlt
          obtain ⟨q, W2, hq, hlook, hput, hev2⟩ := Hej.out.var (Nat.le_trans hL Hej.out.bel.size) (Hws.out s (List.mem_of_getElem? hs)) hs hvl (by omega) (by have := HN1.out; unfold maxLen; omega)
          have c7 : wr.cell? ⟨sb, 7, none⟩ = some (.map (some m4)) := Hej.out.sv.box.cell 7
          have Hs := Lib.hid hs; clear hs
          have Hev2 := Lib.hid hev2; clear hev2
          go_wp2
          go_roundw
          case rel => exact ⟨j + 1, by omega, by go_num, Hev2.out⟩
          case measure => simp [intOf]; omega
        · obtain rfl : j = n3 := by omega
          have hfin := Hej.out
          rw [List.take_of_length_le (by rw [← Hl3.out]; exact Nat.le_refl _)] at hfin
          have Hfin := Lib.hid hfin; clear hfin
          go_wp2
          go_end0
          exact ⟨rfl, Hfin.out.bel, (N + 1) + j, by have := Hl3.out; omega, Hres.out _ _ Hfin.out.sv⟩
    · go_simp
      refine hK.out _ _ ?_ (fun hHeld => ?_)
      · exact HhS8.out _ Hev4.out.sv.box Hev4.out.bx HhB4.out
      clear hK K
      try simp only [Act.put, List.setIfInBounds_toArray, List.set_cons_zero, List.set_cons_succ]
      refine wpAnyH_ready (rs := [12]) (by kernel_rfl) (by simp) ?_
      refine AllReadyH.cons rfl (fun K hK => ?_) AllReadyH.nil
      go_simp
      refine hK.out _ _ ?_ (fun hHeld => ?_)
      · exact HhS8.out _ Hev4.out.sv.box Hev4.out.bx HhB4.out
      clear hK K
      try simp only [Act.put, List.setIfInBounds_toArray, List.set_cons_zero, List.set_cons_succ]
      refine wpAnyH_ready (rs := [15]) (by kernel_rfl) (by simp) ?_
      refine AllReadyH.cons rfl (fun K hK => ?_) AllReadyH.nil
      refine step_append_bd _ rfl _ _ rfl L _ (bdOf n bd).length _ rfl (Hv.out ▸ Hhrow4.out) W3.heap.size 1 _ _ _ _ rfl HhR4.out rfl rfl rfl rfl Hhbn.out (Nat.le_trans hLW (Nat.le_trans hsz3 (by simp))) ?_
      intro v5 w5 hown5 hg5 hat5
      obtain ⟨⟨k51, k52, k53⟩, W6, hrun6, hev6, hB6⟩ := Hev4.out.push (Nat.le_trans hLW (Nat.le_trans hsz3 (by simp))) HhG4.out (b := ⟨n, no, pf1, ar, p8⟩) hown5 (Hv.out ▸ hg5) (Hv.out ▸ hat5) hN2 hn HhB4.out HhltG.out
      obtain ⟨ZA, ZC, rfl⟩ := own_slice hown5
      refine hK.out _ _ ?_ (fun hHeld => ?_)
      · exact HhS8.out _ k51 k52 k53
      clear hK K
      try simp only [Act.put, List.setIfInBounds_toArray]
      refine wpAnyH_ready (rs := [16]) (by kernel_rfl) (by simp) ?_
      refine AllReadyH.cons rfl (fun K hK => ?_) AllReadyH.nil
      go_simp
      refine hK.out _ _ ?_ (fun hHeld => ?_)
      · exact HhS8.out _ hev6.sv.box hev6.bx hB6
      clear hK K
      try simp only [Act.put, List.setIfInBounds_toArray, List.set_cons_zero, List.set_cons_succ]
      refine wpAnyH_done (by kernel_rfl) ?_ _
      have hb63 : W6.cell? ⟨w.heap.size, 3, none⟩ = some (.slice A3 n3 c3) := hev6.bx.cell 3
      have Hev := Lib.hid hev6; clear hev6
      clear hrun6 hown5 hg5 hat5 k51 k52 k53 hB6 hl1 hl2 HhS8 Hhrow4 HhR4 HhB4 Hev4 HhG4 Hev3d HhltG Hhlk Hhev3 HhG HhB3
      go_wp2

      go_loopw [6, 63] (fun _ i wr => ∃ j : Nat, j ≤ n3 ∧ i = .int .i64 j ∧ EV L sb m1 m2 m3 m4 ((N + 1) + j) st (⟨n, no, pf1, ar, p8⟩ :: bd) (ws.take j ++ vs) no pf1 w.heap.size #[.int .i64 k, .int .i64 a, .string n, .slice A3 n3 c3, .slice A4 n4 c4, .slice A m c] w wr) (fun _ i _ => n3 - (intOf i).toNat)
      case atStart => exact ⟨0, Nat.zero_le _, rfl, by simpa using Hev.out⟩
      case round =>
        obtain ⟨j, hj, rfl, hev⟩ := hrel
        have Hej := Lib.hid hev; clear hev
        by_cases hlt : j < n3
        · obtain ⟨ad, s, rfl, hb, hs, hc, hsz⟩ := (H3.out.below Hej.out.bel.bel).at_ hlt
          obtain ⟨q, W2, hq, hlook, hput, hev2⟩ := Hej.out.var (Nat.le_trans hL Hej.out.bel.size) (Hws.out s (List.mem_of_getElem? hs)) hs hvl (by omega) (by have := HN1.out; unfold maxLen; omega)
          have c7 : wr.cell? ⟨sb, 7, none⟩ = some (.map (some m4)) := Hej.out.sv.box.cell 7
          have Hs := Lib.hid hs; clear hs
          have Hev2 := Lib.hid hev2; clear hev2
          go_wp2
          go_roundw
          case rel => exact ⟨j + 1, by omega, by go_num, Hev2.out⟩
          case measure => simp [intOf]; omega
        · obtain rfl : j = n3 := by omega
          have hfin := Hej.out
          rw [List.take_of_length_le (by rw [← Hl3.out]; exact Nat.le_refl _)] at hfin
          have Hfin := Lib.hid hfin; clear hfin
          go_wp2
          go_end0
          exact ⟨rfl, Hfin.out.bel, (N + 1) + j, by have := Hl3.out; omega, Hres.out _ _ Hfin.out.sv⟩
  · go_simp
    have hbwa := (below_drewN (Below.refl W1.heap.size W1) 1).alloc (Nat.le_refl _) (.cells #[.int .i64 0, .int .i64 0, .int .i64 0, .bool false] 111)
    have hBa := Blk.new (W1.drewN 1) 111 #[.int .i64 0, .int .i64 0, .int .i64 0, .bool false]
    refine hK.out _ _ ?_ (fun hHeld => ?_)
    · exact Hall.out _ hbwa
    clear hK K
    try simp only [Act.put, List.setIfInBounds_toArray, List.set_cons_zero, List.set_cons_succ]
    refine wpAnyH_ready (rs := [5]) (by kernel_rfl) (by simp) ?_
    refine AllReadyH.cons rfl (fun K hK => ?_) AllReadyH.nil
    go_simp
    refine (Hplc.out _).mono ?_
    rintro e w2 ⟨rfl, hb2⟩
    have hbw2 := hbwa.trans (hb2.mono hbwa.size)
    have hB2 : Blk w2 W1.heap.size 111 #[.int .i64 0, .int .i64 0, .int .i64 0, .bool false] := Blk.below hBa hb2 (Blk.lt hBa)
    clear hb2 hbwa hBa
    have y0 : w2.cell? ⟨W1.heap.size, 0, none⟩ = some (.int .i64 0) := hB2.cell 0
    have z0 := (hB2).frozen 0
    have y1 : (w2.setCell ⟨W1.heap.size, 0, none⟩ (.int .i64 (no : Int))).cell? ⟨W1.heap.size, 1, none⟩ = some (.int .i64 0) := (hB2.set_ 0 _).cell 1
    have z1 := (Blk.set_ hB2 0 (.int .i64 (no : Int))).frozen 1
    have y2 : ((w2.setCell ⟨W1.heap.size, 0, none⟩ (.int .i64 (no : Int))).setCell ⟨W1.heap.size, 1, none⟩ (.int .i64 (pf1 : Int))).cell? ⟨W1.heap.size, 2, none⟩ = some (.int .i64 0) := ((hB2.set_ 0 _).set_ 1 _).cell 2
    have z2 := ((Blk.set_ hB2 0 (.int .i64 (no : Int))).set_ 1 (.int .i64 (pf1 : Int))).frozen 2
    have y3 : (((w2.setCell ⟨W1.heap.size, 0, none⟩ (.int .i64 (no : Int))).setCell ⟨W1.heap.size, 1, none⟩ (.int .i64 (pf1 : Int))).setCell ⟨W1.heap.size, 2, none⟩ (.int .i64 ar)).cell? ⟨W1.heap.size, 3, none⟩ = some (.bool false) := (((hB2.set_ 0 _).set_ 1 _).set_ 2 _).cell 3
    have z3 := (((Blk.set_ hB2 0 (.int .i64 (no : Int))).set_ 1 (.int .i64 (pf1 : Int))).set_ 2 (.int .i64 ar)).frozen 3
    refine hK.out _ _ ?_ (fun hHeld => ?_)
    · exact Hall.out _ hbw2
    clear hK K
    try simp only [Act.put, List.setIfInBounds_toArray, List.set_cons_zero, List.set_cons_succ]
    refine takeL (i := 9) (v := ?_) rfl (by kernel_rfl) (by kernel_rfl) (by kernel_rfl) (fun _ _ _ h => h) (Or.inl ⟨by kernel_rfl, ?_⟩) (by assumption) ?_
    rotate_left
    · (intro w' hSw; (try dsimp only at hSw); go_simp; (try with_reducible rfl))
    try simp only [Act.put, List.setIfInBounds_toArray, List.set_cons_zero, List.set_cons_succ]
    refine wpAnyH_ready (rs := [11]) (by kernel_rfl) (by simp) ?_
    refine AllReadyH.cons rfl (fun K hK => ?_) AllReadyH.nil
    go_simp
    have hbw3 := (((hbw2.setCell (p := ⟨W1.heap.size, 0, none⟩) (Nat.le_refl _) (.int .i64 (no : Int))).setCell (p := ⟨W1.heap.size, 1, none⟩) (Nat.le_refl _) (.int .i64 (pf1 : Int))).setCell (p := ⟨W1.heap.size, 2, none⟩) (Nat.le_refl _) (.int .i64 ar)).setCell (p := ⟨W1.heap.size, 3, none⟩) (Nat.le_refl _) (.bool p8)
    have hB3 := (((Blk.set_ hB2 0 (.int .i64 (no : Int))).set_ 1 (.int .i64 (pf1 : Int))).set_ 2 (.int .i64 ar)).set_ 3 (.bool p8)
    simp at hB3
    refine hK.out _ _ ?_ (fun hHeld => ?_)
    · exact Hall.out _ hbw3
    clear hK K
    try simp only [Act.put, List.setIfInBounds_toArray, List.set_cons_zero, List.set_cons_succ]
    refine wpAnyH_done (by kernel_rfl) ?_ _
    clear hbw2 hB2 y0 y1 y2 y3 z0 z1 z2 z3
    generalize ((((w2.setCell ⟨W1.heap.size, 0, none⟩ (.int .i64 (no : Int))).setCell ⟨W1.heap.size, 1, none⟩ (.int .i64 (pf1 : Int))).setCell ⟨W1.heap.size, 2, none⟩ (.int .i64 ar)).setCell ⟨W1.heap.size, 3, none⟩ (.bool p8)) = W3 at *
    obtain ⟨bb, hbq⟩ : ∃ q, q = W1.heap.size := ⟨_, rfl⟩
    have hbb : W1.heap.size ≤ bb := Nat.le_of_eq hbq.symm
    rw [← hbq] at hB3 ⊢
    clear hbq
    have hsz3 := hbw3.size
    have hev3 := Hev1.out.below hLW hbw3
    have hG := BndG.kept HG1.out (grown_of_below hbw3) (by simp) (by simp)
    have hlk : ∀ W, MapV W m3 N G → (Instr.lookup 76 (.map (some m3)) (.string n) false).run Tryd.prog W = .ok (lookG G (.slice none 0 0) n) W := fun W hW => by
      have := hW.look (t := 76) Tryd.underlying76 (zeroStk W) n hn false
      simpa using this
    have hltG : ∀ kk, (lookG G (.slice none 0 0) n).ownBlock = some kk → kk < bb := fun kk hk => Nat.lt_of_lt_of_le (own_lt (HG1.out.row n) hk) hbb
    have ev3d := hev3.below (Nat.le_trans hLW hsz3) (below_drewN (Below.refl _ _) 1)
    have hG4 := BndG.kept hG (grown_of_below (below_drewN ((Below.refl W3.heap.size W3).alloc (Nat.le_refl _) (.cells #[.int .i64 (no : Int), .int .i64 (pf1 : Int), .int .i64 ar, .bool p8] 111)) 1)) (by simp) (by simp)
    have ev4 := hev3.below (Nat.le_trans hLW hsz3) (below_drewN ((Below.refl W3.heap.size W3).alloc (Nat.le_refl _) (.cells #[.int .i64 (no : Int), .int .i64 (pf1 : Int), .int .i64 ar, .bool p8] 111)) 1)
    have hl1 : (Instr.lookup 76 (.map (some m3)) (.string n) false).run Tryd.prog W3.drew = .ok (lookG G (.slice none 0 0) n) W3.drew := hlk W3.drew (hG.1.drewN 1)
    have hl2 : (Instr.lookup 76 (.map (some m3)) (.string n) false).run Tryd.prog (W3.alloc (.cells #[.int .i64 (no : Int), .int .i64 (pf1 : Int), .int .i64 ar, .bool p8] 111)).drew = .ok (lookG G (.slice none 0 0) n) (W3.alloc (.cells #[.int .i64 (no : Int), .int .i64 (pf1 : Int), .int .i64 ar, .bool p8] 111)).drew := hlk _ ((hG.1.alloc _).drewN 1)
    have hB4 := Blk.drewN (Blk.alloc hB3 (.cells #[.int .i64 (no : Int), .int .i64 (pf1 : Int), .int .i64 ar, .bool p8] 111)) 1
    have hR4 := Blk.drewN (Blk.new W3 111 #[.int .i64 (no : Int), .int .i64 (pf1 : Int), .int .i64 ar, .bool p8]) 1
    have hrow4 := hG4.row n
    have hS8 : ∀ W, Blk W sb 79 #[.int .i64 (st.size : Nat), .int .i64 (st.depth : Nat), .map (some m1), .map (some m2), .int .i64 (no : Nat), .int .i64 (pf1 : Nat), .map (some m3), .map (some m4)] → Blk W w.heap.size 31 #[.int .i64 k, .int .i64 a, .string n, .slice A3 n3 c3, .slice A4 n4 c4, .slice A m c] → Blk W bb 111 #[.int .i64 (no : Int), .int .i64 (pf1 : Int), .int .i64 ar, .bool p8] → (fun W => W.cell? ⟨sb, 6, none⟩ = some (.map (some m3)) ∧ W.cell? ⟨w.heap.size, 2, none⟩ = some (.string n) ∧ W.cell? ⟨bb, 0, none⟩ = some (.int .i64 (no : Int)) ∧ W.cell? ⟨bb, 1, none⟩ = some (.int .i64 (pf1 : Int)) ∧ W.cell? ⟨bb, 2, none⟩ = some (.int .i64 ar) ∧ W.cell? ⟨bb, 3, none⟩ = some (.bool p8)) W := fun W q1 q2 q3 => ⟨q1.cell 6, q2.cell 2, q3.cell 0, q3.cell 1, q3.cell 2, q3.cell 3⟩
    have hN2 : N < maxLen := by have := HN1.out; unfold maxLen; omega
    have hbn : (bdOf n bd).length ≤ 1000000 := Nat.le_trans (List.length_filter_le _ _) (by omega)
    have HhS8 := Lib.hid hS8; clear hS8
    have Hhrow4 := Lib.hid hrow4; clear hrow4
    have HhR4 := Lib.hid hR4; clear hR4
    have HhB4 := Lib.hid hB4; clear hB4
    have Hev4 := Lib.hid ev4; clear ev4
    have HhG4 := Lib.hid hG4; clear hG4
    have Hev3d := Lib.hid ev3d; clear ev3d
    have HhltG := Lib.hid hltG; clear hltG
    have Hhlk := Lib.hid hlk; clear hlk
    have Hhev3 := Lib.hid hev3; clear hev3
    have HhG := Lib.hid hG; clear hG
    have HhB3 := Lib.hid hB3; clear hB3
    have Hhbn := Lib.hid hbn; clear hbn
    obtain ⟨v, hv⟩ : ∃ v, v = lookG G (.slice none 0 0) n := ⟨_, rfl⟩
    rw [← hv] at hl1 hl2
    have Hv := Lib.hid hv; clear hv
    obtain ⟨VA, VC, hvs⟩ := own_slice (Hv.out ▸ Hhrow4.out)
    subst hvs
    go_wp2
    refine wp_region_held_drew (S := fun W => W.cell? ⟨sb, 6, none⟩ = some (.map (some m3)) ∧ W.cell? ⟨w.heap.size, 2, none⟩ = some (.string n) ∧ W.cell? ⟨bb, 0, none⟩ = some (.int .i64 (no : Int)) ∧ W.cell? ⟨bb, 1, none⟩ = some (.int .i64 (pf1 : Int)) ∧ W.cell? ⟨bb, 2, none⟩ = some (.int .i64 ar) ∧ W.cell? ⟨bb, 3, none⟩ = some (.bool p8)) (by kernel_rfl) (HhS8.out _ Hev3d.out.sv.box Hev3d.out.bx (Blk.drewN HhB3.out 1)) (fun hHeld => ?_)
    refine takeL (i := 0) (v := ?_) rfl (by kernel_rfl) (by kernel_rfl) (by kernel_rfl) (fun _ _ _ h => h) (Or.inl ⟨by kernel_rfl, ?_⟩) (by assumption) ?_
    rotate_left
    · (intro w' hSw; (try dsimp only at hSw); go_simp; (try with_reducible rfl))
    try simp only [Act.put, List.setIfInBounds_toArray, List.set_cons_zero, List.set_cons_succ]
    refine takeL (i := 1) (v := ?_) rfl (by kernel_rfl) (by kernel_rfl) (by kernel_rfl) (fun _ _ _ h => h) (Or.inl ⟨by kernel_rfl, ?_⟩) (by assumption) ?_
    rotate_left
    · (intro w' hSw; (try dsimp only at hSw); go_simp; (try with_reducible rfl))
    try simp only [Act.put, List.setIfInBounds_toArray, List.set_cons_zero, List.set_cons_succ]
    refine takeL (i := 2) (v := ?_) rfl (by kernel_rfl) (by kernel_rfl) (by kernel_rfl) (fun _ _ _ h => h) (Or.inl ⟨by kernel_rfl, ?_⟩) (by assumption) ?_
    rotate_left
    · (intro w' hSw; (try dsimp only at hSw); go_simp; (try with_reducible rfl))
    try simp only [Act.put, List.setIfInBounds_toArray, List.set_cons_zero, List.set_cons_succ]
    refine takeL (i := 3) (v := ?_) rfl (by kernel_rfl) (by kernel_rfl) (by kernel_rfl) (fun _ _ _ h => h) (Or.inl ⟨by kernel_rfl, ?_⟩) (by assumption) ?_
    rotate_left
    · (intro w' hSw; (try dsimp only at hSw); go_simp; (try with_reducible rfl))
    try simp only [Act.put, List.setIfInBounds_toArray, List.set_cons_zero, List.set_cons_succ]
    refine takeL (i := 4) (v := ?_) rfl (by kernel_rfl) (by kernel_rfl) (by kernel_rfl) (fun _ _ _ h => h) (Or.inl ⟨by kernel_rfl, ?_⟩) (by assumption) ?_
    rotate_left
    · (intro w' hSw; (try dsimp only at hSw); go_simp; (try with_reducible rfl))
    try simp only [Act.put, List.setIfInBounds_toArray, List.set_cons_zero, List.set_cons_succ]
    refine takeL (i := 5) (v := ?_) rfl (by kernel_rfl) (by kernel_rfl) (by kernel_rfl) (fun _ _ _ h => h) (Or.inl ⟨by kernel_rfl, ?_⟩) (by assumption) ?_
    rotate_left
    · (intro w' hSw; (try dsimp only at hSw); go_simp; (try with_reducible rfl))
    try simp only [Act.put, List.setIfInBounds_toArray, List.set_cons_zero, List.set_cons_succ]
    refine takeL (i := 6) (v := ?_) rfl (by kernel_rfl) (by kernel_rfl) (by kernel_rfl) (fun _ _ _ h => h) (Or.inl ⟨by kernel_rfl, ?_⟩) (by assumption) ?_
    rotate_left
    · (intro w' hSw; (try dsimp only at hSw); go_simp; (try with_reducible rfl))
    try simp only [Act.put, List.setIfInBounds_toArray, List.set_cons_zero, List.set_cons_succ]
    refine takeL (i := 7) (v := ?_) rfl (by kernel_rfl) (by kernel_rfl) (by kernel_rfl) (fun _ _ _ h => h) (Or.inl ⟨by kernel_rfl, ?_⟩) (by assumption) ?_
    rotate_left
    · (intro w' hSw; (try dsimp only at hSw); go_simp; (try with_reducible rfl))
    try simp only [Act.put, List.setIfInBounds_toArray, List.set_cons_zero, List.set_cons_succ]
    refine takeL (i := 8) (v := ?_) rfl (by kernel_rfl) (by kernel_rfl) (by kernel_rfl) (fun _ _ _ h => h) (Or.inl ⟨by kernel_rfl, ?_⟩) (by assumption) ?_
    rotate_left
    · (intro w' hSw; (try dsimp only at hSw); go_simp; (try with_reducible rfl))
    try simp only [Act.put, List.setIfInBounds_toArray, List.set_cons_zero, List.set_cons_succ]
    refine takeL (i := 9) (v := ?_) rfl (by kernel_rfl) (by kernel_rfl) (by kernel_rfl) (fun _ _ _ h => h) (Or.inl ⟨by kernel_rfl, ?_⟩) (by assumption) ?_
    rotate_left
    · (intro w' hSw; (try dsimp only at hSw); go_simp; (try with_reducible rfl))
    try simp only [Act.put, List.setIfInBounds_toArray, List.set_cons_zero, List.set_cons_succ]
    refine takeL (i := 10) (v := ?_) rfl (by kernel_rfl) (by kernel_rfl) (by kernel_rfl) (fun _ _ _ h => h) (Or.inl ⟨by kernel_rfl, ?_⟩) (by assumption) ?_
    rotate_left
    · (intro w' hSw; (try dsimp only at hSw); go_simp; (try with_reducible rfl))
    try simp only [Act.put, List.setIfInBounds_toArray, List.set_cons_zero, List.set_cons_succ]
    refine takeL (i := 11) (v := ?_) rfl (by kernel_rfl) (by kernel_rfl) (by kernel_rfl) (fun _ _ _ h => h) (Or.inl ⟨by kernel_rfl, ?_⟩) (by assumption) ?_
    rotate_left
    · (intro w' hSw; (try dsimp only at hSw); go_simp; (try with_reducible rfl))
    try simp only [Act.put, List.setIfInBounds_toArray, List.set_cons_zero, List.set_cons_succ]
    refine takeL (i := 13) (v := ?_) rfl (by kernel_rfl) (by kernel_rfl) (by kernel_rfl) (fun _ _ _ h => h) (Or.inl ⟨by kernel_rfl, ?_⟩) (by assumption) ?_
    rotate_left
    · (intro w' hSw; (try dsimp only at hSw); go_simp; (try with_reducible rfl))
    try simp only [Act.put, List.setIfInBounds_toArray, List.set_cons_zero, List.set_cons_succ]
    refine wpAnyH_ready (rs := [12, 14]) (by kernel_rfl) (by simp) ?_
    refine AllReadyH.cons rfl (fun K hK => ?_) (AllReadyH.cons rfl (fun K hK => ?_) AllReadyH.nil)
    · go_simp
      refine hK.out _ _ ?_ (fun hHeld => ?_)
      · exact HhS8.out _ Hev3d.out.sv.box Hev3d.out.bx (Blk.drewN HhB3.out 1)
      clear hK K
      try simp only [Act.put, List.setIfInBounds_toArray, List.set_cons_zero, List.set_cons_succ]
      refine wpAnyH_ready (rs := [14]) (by kernel_rfl) (by simp) ?_
      refine AllReadyH.cons rfl (fun K hK => ?_) AllReadyH.nil
      go_simp
      refine hK.out _ _ ?_ (fun hHeld => ?_)
      · exact HhS8.out _ Hev4.out.sv.box Hev4.out.bx HhB4.out
      clear hK K
      try simp only [Act.put, List.setIfInBounds_toArray, List.set_cons_zero, List.set_cons_succ]
      refine wpAnyH_ready (rs := [15]) (by kernel_rfl) (by simp) ?_
      refine AllReadyH.cons rfl (fun K hK => ?_) AllReadyH.nil
      refine step_append_bd _ rfl _ _ rfl L _ (bdOf n bd).length _ rfl (Hv.out ▸ Hhrow4.out) W3.heap.size 1 _ _ _ _ rfl HhR4.out rfl rfl rfl rfl Hhbn.out (Nat.le_trans hLW (Nat.le_trans hsz3 (by simp))) ?_
      intro v5 w5 hown5 hg5 hat5
      obtain ⟨⟨k51, k52, k53⟩, W6, hrun6, hev6, hB6⟩ := Hev4.out.push (Nat.le_trans hLW (Nat.le_trans hsz3 (by simp))) HhG4.out (b := ⟨n, no, pf1, ar, p8⟩) hown5 (Hv.out ▸ hg5) (Hv.out ▸ hat5) hN2 hn HhB4.out HhltG.out
      obtain ⟨ZA, ZC, rfl⟩ := own_slice hown5
      refine hK.out _ _ ?_ (fun hHeld => ?_)
      · exact HhS8.out _ k51 k52 k53
      clear hK K
      try simp only [Act.put, List.setIfInBounds_toArray]
      refine wpAnyH_ready (rs := [16]) (by kernel_rfl) (by simp) ?_
      refine AllReadyH.cons rfl (fun K hK => ?_) AllReadyH.nil
      go_simp
      refine hK.out _ _ ?_ (fun hHeld => ?_)
      · exact HhS8.out _ hev6.sv.box hev6.bx hB6
      clear hK K
      try simp only [Act.put, List.setIfInBounds_toArray, List.set_cons_zero, List.set_cons_succ]
      refine wpAnyH_done (by kernel_rfl) ?_ _
      have hb63 : W6.cell? ⟨w.heap.size, 3, none⟩ = some (.slice A3 n3 c3) := hev6.bx.cell 3
      have Hev := Lib.hid hev6; clear hev6
      clear hrun6 hown5 hg5 hat5 k51 k52 k53 hB6 hl1 hl2 HhS8 Hhrow4 HhR4 HhB4 Hev4 HhG4 Hev3d HhltG Hhlk Hhev3 HhG HhB3
      go_wp2

      go_loopw [6, 63] (fun _ i wr => ∃ j : Nat, j ≤ n3 ∧ i = .int .i64 j ∧ EV L sb m1 m2 m3 m4 ((N + 1) + j) st (⟨n, no, pf1, ar, p8⟩ :: bd) (ws.take j ++ vs) no pf1 w.heap.size #[.int .i64 k, .int .i64 a, .string n, .slice A3 n3 c3, .slice A4 n4 c4, .slice A m c] w wr) (fun _ i _ => n3 - (intOf i).toNat)
      case atStart => exact ⟨0, Nat.zero_le _, rfl, by simpa using Hev.out⟩
      case round =>
        obtain ⟨j, hj, rfl, hev⟩ := hrel
        have Hej := Lib.hid hev; clear hev
        by_cases hlt : j < n3
        · obtain ⟨ad, s, rfl, hb, hs, hc, hsz⟩ := (H3.out.below Hej.out.bel.bel).at_ hlt
          obtain ⟨q, W2, hq, hlook, hput, hev2⟩ := Hej.out.var (Nat.le_trans hL Hej.out.bel.size) (Hws.out s (List.mem_of_getElem? hs)) hs hvl (by omega) (by have := HN1.out; unfold maxLen; omega)
          have c7 : wr.cell? ⟨sb, 7, none⟩ = some (.map (some m4)) := Hej.out.sv.box.cell 7
          have Hs := Lib.hid hs; clear hs
          have Hev2 := Lib.hid hev2; clear hev2
          go_wp2
          go_roundw
          case rel => exact ⟨j + 1, by omega, by go_num, Hev2.out⟩
          case measure => simp [intOf]; omega
        · obtain rfl : j = n3 := by omega
          have hfin := Hej.out
          rw [List.take_of_length_le (by rw [← Hl3.out]; exact Nat.le_refl _)] at hfin
          have Hfin := Lib.hid hfin; clear hfin
          go_wp2
          go_end0
          exact ⟨rfl, Hfin.out.bel, (N + 1) + j, by have := Hl3.out; omega, Hres.out _ _ Hfin.out.sv⟩
    · go_simp
      refine hK.out _ _ ?_ (fun hHeld => ?_)
      · exact HhS8.out _ Hev4.out.sv.box Hev4.out.bx HhB4.out
      clear hK K
      try simp only [Act.put, List.setIfInBounds_toArray, List.set_cons_zero, List.set_cons_succ]
      refine wpAnyH_ready (rs := [12]) (by kernel_rfl) (by simp) ?_
      refine AllReadyH.cons rfl (fun K hK => ?_) AllReadyH.nil
      go_simp
      refine hK.out _ _ ?_ (fun hHeld => ?_)
      · exact HhS8.out _ Hev4.out.sv.box Hev4.out.bx HhB4.out
      clear hK K
      try simp only [Act.put, List.setIfInBounds_toArray, List.set_cons_zero, List.set_cons_succ]
      refine wpAnyH_ready (rs := [15]) (by kernel_rfl) (by simp) ?_
      refine AllReadyH.cons rfl (fun K hK => ?_) AllReadyH.nil
      refine step_append_bd _ rfl _ _ rfl L _ (bdOf n bd).length _ rfl (Hv.out ▸ Hhrow4.out) W3.heap.size 1 _ _ _ _ rfl HhR4.out rfl rfl rfl rfl Hhbn.out (Nat.le_trans hLW (Nat.le_trans hsz3 (by simp))) ?_
      intro v5 w5 hown5 hg5 hat5
      obtain ⟨⟨k51, k52, k53⟩, W6, hrun6, hev6, hB6⟩ := Hev4.out.push (Nat.le_trans hLW (Nat.le_trans hsz3 (by simp))) HhG4.out (b := ⟨n, no, pf1, ar, p8⟩) hown5 (Hv.out ▸ hg5) (Hv.out ▸ hat5) hN2 hn HhB4.out HhltG.out
      obtain ⟨ZA, ZC, rfl⟩ := own_slice hown5
      refine hK.out _ _ ?_ (fun hHeld => ?_)
      · exact HhS8.out _ k51 k52 k53
      clear hK K
      try simp only [Act.put, List.setIfInBounds_toArray]
      refine wpAnyH_ready (rs := [16]) (by kernel_rfl) (by simp) ?_
      refine AllReadyH.cons rfl (fun K hK => ?_) AllReadyH.nil
      go_simp
      refine hK.out _ _ ?_ (fun hHeld => ?_)
      · exact HhS8.out _ hev6.sv.box hev6.bx hB6
      clear hK K
      try simp only [Act.put, List.setIfInBounds_toArray, List.set_cons_zero, List.set_cons_succ]
      refine wpAnyH_done (by kernel_rfl) ?_ _
      have hb63 : W6.cell? ⟨w.heap.size, 3, none⟩ = some (.slice A3 n3 c3) := hev6.bx.cell 3
      have Hev := Lib.hid hev6; clear hev6
      clear hrun6 hown5 hg5 hat5 k51 k52 k53 hB6 hl1 hl2 HhS8 Hhrow4 HhR4 HhB4 Hev4 HhG4 Hev3d HhltG Hhlk Hhev3 HhG HhB3
      go_wp2

      go_loopw [6, 63] (fun _ i wr => ∃ j : Nat, j ≤ n3 ∧ i = .int .i64 j ∧ EV L sb m1 m2 m3 m4 ((N + 1) + j) st (⟨n, no, pf1, ar, p8⟩ :: bd) (ws.take j ++ vs) no pf1 w.heap.size #[.int .i64 k, .int .i64 a, .string n, .slice A3 n3 c3, .slice A4 n4 c4, .slice A m c] w wr) (fun _ i _ => n3 - (intOf i).toNat)
      case atStart => exact ⟨0, Nat.zero_le _, rfl, by simpa using Hev.out⟩
      case round =>
        obtain ⟨j, hj, rfl, hev⟩ := hrel
        have Hej := Lib.hid hev; clear hev
        by_cases hlt : j < n3
        · obtain ⟨ad, s, rfl, hb, hs, hc, hsz⟩ := (H3.out.below Hej.out.bel.bel).at_ hlt
          obtain ⟨q, W2, hq, hlook, hput, hev2⟩ := Hej.out.var (Nat.le_trans hL Hej.out.bel.size) (Hws.out s (List.mem_of_getElem? hs)) hs hvl (by omega) (by have := HN1.out; unfold maxLen; omega)
          have c7 : wr.cell? ⟨sb, 7, none⟩ = some (.map (some m4)) := Hej.out.sv.box.cell 7
          have Hs := Lib.hid hs; clear hs
          have Hev2 := Lib.hid hev2; clear hev2
          go_wp2
          go_roundw
          case rel => exact ⟨j + 1, by omega, by go_num, Hev2.out⟩
          case measure => simp [intOf]; omega
        · obtain rfl : j = n3 := by omega
          have hfin := Hej.out
          rw [List.take_of_length_le (by rw [← Hl3.out]; exact Nat.le_refl _)] at hfin
          have Hfin := Lib.hid hfin; clear hfin
          go_wp2
          go_end0
          exact ⟨rfl, Hfin.out.bel, (N + 1) + j, by have := Hl3.out; omega, Hres.out _ _ Hfin.out.sv⟩

set_option maxRecDepth 100000 in
set_option maxHeartbeats 2000000 in
theorem ent_pfp {L sb m1 m2 m3 m4 N : Nat} {st : St ByteArray} {bd : List (Bd ByteArray)} {vs : List ByteArray} {no pf : Nat} (k a : Int) (n : ByteArray) (ws : List ByteArray) (A3 : Option Addr) (n3 c3 : Nat) (A4 : Option Addr) (n4 c4 : Nat) (A : Option Addr) (m c : Nat) (w : World) (hL : L ≤ w.heap.size) (h : Sv w L sb m1 m2 m3 m4 N st bd vs no pf)
    (h3 : Strs w (· < L) (.slice A3 n3 c3) ws) (hws : ∀ x ∈ ws, x.size ≤ maxLen) (hw24 : ws.length ≤ 24) (hvl : vs.length ≤ 10000) (hN : N ≤ 1000000) (_hno : no ≤ 1000) (hpf : pf ≤ 1000) (hn : n.size ≤ maxLen) (hbl : bd.length ≤ 1000) (hk9 : k = 9) (hkb : Fo.bindsB k = true) :
    Calls Tryd.prog 51 #[.pointer (some ⟨sb, 0, none⟩), .agg #[.int .i64 k, .int .i64 a, .string n, .slice A3 n3 c3, .slice A4 n4 c4, .slice A m c]] w (EntPost L sb m1 m2 m3 m4 N st bd vs no pf k a n ws w) := by
  have hev0 : EV L sb m1 m2 m3 m4 N st bd vs no pf w.heap.size #[.int .i64 k, .int .i64 a, .string n, .slice A3 n3 c3, .slice A4 n4 c4, .slice A m c] w (w.alloc (.cells #[.int .i64 k, .int .i64 a, .string n, .slice A3 n3 c3, .slice A4 n4 c4, .slice A m c] 31)) := ⟨h.alloc _, Blk.new w _ _, ((Fr.refl _ _).alloc hL _)⟩
  have hl3 := h3.length
  have hl0 := h.l0
  have hlt0 := h.box.lt
  have hmax3 : n3 ≤ 24 := by omega
  have hk3 : k ≠ 3 := by intro e; rw [e] at hkb; exact absurd hkb (by decide)
  obtain ⟨p8, hp8⟩ : ∃ p8 : Bool, p8 = decide (k = 8) := ⟨_, rfl⟩
  obtain ⟨pf1, hpf1⟩ : ∃ q : Nat, q = pf + 1 := ⟨_, rfl⟩
  have hres2 : ∀ W q, Sv W L sb m1 m2 m3 m4 q st (⟨n, no, pf1, Fo.placesI k a ws, p8⟩ :: bd) (ws ++ vs) no pf1 → Sv W L sb m1 m2 m3 m4 q st (Fo.enterBd k a n ws no pf bd) (ws ++ vs) (Fo.notsN k no) (Fo.pfpsN k pf) := fun W q hq => by
    subst hpf1; unfold Fo.enterBd Fo.notsN Fo.pfpsN; rw [hkb, if_neg hk3, if_pos hk9, ← hp8]; exact hq
  have x5 : w.cell? ⟨sb, 5, none⟩ = some (.int .i64 (pf : Int)) := h.box.cell 5
  have f5 := h.box.frozen 5
  have hev1 : EV L sb m1 m2 m3 m4 N st bd vs no (pf + 1) w.heap.size #[.int .i64 k, .int .i64 a, .string n, .slice A3 n3 c3, .slice A4 n4 c4, .slice A m c] w ((w.setCell ⟨sb, 5, none⟩ (.int .i64 ((pf : Int) + 1))).alloc (.cells #[.int .i64 k, .int .i64 a, .string n, .slice A3 n3 c3, .slice A4 n4 c4, .slice A m c] 31)) :=
    ⟨(h.set_pfps (by go_num)).alloc _, by simpa using Blk.new (w.setCell ⟨sb, 5, none⟩ (.int .i64 ((pf : Int) + 1))) 31 #[.int .i64 k, .int .i64 a, .string n, .slice A3 n3 c3, .slice A4 n4 c4, .slice A m c], ((Fr.refl L w).set h.box hl0 5 _).alloc (by simpa using hL) _⟩
  clear hev0
  have t3 : (k == 3) = false := by simpa using hk3
  have t9 : (k == 9) = true := by simpa using hk9
  have t8 : (k == 8) = p8 := by rw [hp8, Bool.eq_iff_iff]; simp
  have hplc := fun W => places_any k a n A3 n3 c3 A4 n4 c4 A m c ws hl3 (by omega) W
  have Hres := Lib.hid hres2; clear hres2
  have Hk3 := Lib.hid hk3; clear hk3
  have Hk9 := Lib.hid hk9; clear hk9
  have Hkb := Lib.hid hkb; clear hkb
  have Hp8 := Lib.hid hp8; clear hp8
  have Hplc := Lib.hid hplc; clear hplc
  have Hl3 := Lib.hid hl3; clear hl3
  have H3 := Lib.hid h3; clear h3
  have Hws := Lib.hid hws; clear hws
  have HN1 := Lib.hid (show N ≤ 1000000 from hN)
  clear h
  have hb10 := hev1.bx.cell 0
  have hb13 := hev1.bx.cell 3
  go_enter Tryd.func51, Tryd.ntmps51
  go_upto_region 7 with (go_at_call 33; refine (fbinds_any _ _).mono ?_; rw [Hkb.out]; rintro e w' ⟨rfl, rfl⟩)
  generalize ((w.setCell ⟨sb, 5, none⟩ (.int .i64 ((pf : Int) + 1))).alloc (.cells #[.int .i64 k, .int .i64 a, .string n, .slice A3 n3 c3, .slice A4 n4 c4, .slice A m c] 31)) = W1 at *
  rw [← hpf1] at hev1
  clear hpf1 hb10 hb13
  generalize Fo.placesI k a ws = ar at *
  have hLW := Nat.le_trans hL hev1.bel.size
  have hall : ∀ W, Below W1.heap.size W1 W → (fun W => W.cell? ⟨sb, 4, none⟩ = some (.int .i64 (no : Int)) ∧ W.cell? ⟨sb, 5, none⟩ = some (.int .i64 (pf1 : Int)) ∧ W.cell? ⟨w.heap.size, 0, none⟩ = some (.int .i64 k) ∧ W.cell? ⟨w.heap.size, 1, none⟩ = some (.int .i64 a) ∧ W.cell? ⟨w.heap.size, 2, none⟩ = some (.string n) ∧ W.cell? ⟨w.heap.size, 3, none⟩ = some (.slice A3 n3 c3) ∧ W.cell? ⟨w.heap.size, 4, none⟩ = some (.slice A4 n4 c4) ∧ W.cell? ⟨w.heap.size, 5, none⟩ = some (.slice A m c)) W := fun W hW => by
    have he := hev1.below hLW hW
    exact ⟨he.sv.box.cell 4, he.sv.box.cell 5, he.bx.cell 0, he.bx.cell 1, he.bx.cell 2, he.bx.cell 3, he.bx.cell 4, he.bx.cell 5⟩
  have Hall := Lib.hid hall; clear hall
  obtain ⟨G, hG1⟩ := hev1.sv.bnd.some_
  have HG1 := Lib.hid hG1; clear hG1
  have Hev1 := Lib.hid hev1; clear hev1
  refine wp_region_held_drew (S := fun W => W.cell? ⟨sb, 4, none⟩ = some (.int .i64 (no : Int)) ∧ W.cell? ⟨sb, 5, none⟩ = some (.int .i64 (pf1 : Int)) ∧ W.cell? ⟨w.heap.size, 0, none⟩ = some (.int .i64 k) ∧ W.cell? ⟨w.heap.size, 1, none⟩ = some (.int .i64 a) ∧ W.cell? ⟨w.heap.size, 2, none⟩ = some (.string n) ∧ W.cell? ⟨w.heap.size, 3, none⟩ = some (.slice A3 n3 c3) ∧ W.cell? ⟨w.heap.size, 4, none⟩ = some (.slice A4 n4 c4) ∧ W.cell? ⟨w.heap.size, 5, none⟩ = some (.slice A m c)) (by kernel_rfl) (Hall.out _ (below_drewN (Below.refl _ _) 1)) (fun hHeld => ?_)
  refine takeL (i := 0) (v := ?_) rfl (by kernel_rfl) (by kernel_rfl) (by kernel_rfl) (fun _ _ _ h => h) (Or.inl ⟨by kernel_rfl, ?_⟩) (by assumption) ?_
  rotate_left
  · (intro w' hSw; (try dsimp only at hSw); go_simp; (try with_reducible rfl))
  try simp only [Act.put, List.setIfInBounds_toArray, List.set_cons_zero, List.set_cons_succ]
  refine takeL (i := 1) (v := ?_) rfl (by kernel_rfl) (by kernel_rfl) (by kernel_rfl) (fun _ _ _ h => h) (Or.inl ⟨by kernel_rfl, ?_⟩) (by assumption) ?_
  rotate_left
  · (intro w' hSw; (try dsimp only at hSw); go_simp; (try with_reducible rfl))
  try simp only [Act.put, List.setIfInBounds_toArray, List.set_cons_zero, List.set_cons_succ]
  refine takeL (i := 2) (v := ?_) rfl (by kernel_rfl) (by kernel_rfl) (by kernel_rfl) (fun _ _ _ h => h) (Or.inl ⟨by kernel_rfl, ?_⟩) (by assumption) ?_
  rotate_left
  · (intro w' hSw; (try dsimp only at hSw); go_simp; (try with_reducible rfl))
  try simp only [Act.put, List.setIfInBounds_toArray, List.set_cons_zero, List.set_cons_succ]
  refine takeL (i := 3) (v := ?_) rfl (by kernel_rfl) (by kernel_rfl) (by kernel_rfl) (fun _ _ _ h => h) (Or.inl ⟨by kernel_rfl, ?_⟩) (by assumption) ?_
  rotate_left
  · (intro w' hSw; (try dsimp only at hSw); go_simp; (try with_reducible rfl))
  try simp only [Act.put, List.setIfInBounds_toArray, List.set_cons_zero, List.set_cons_succ]
  refine takeL (i := 4) (v := ?_) rfl (by kernel_rfl) (by kernel_rfl) (by kernel_rfl) (fun _ _ _ h => h) (Or.inl ⟨by kernel_rfl, ?_⟩) (by assumption) ?_
  rotate_left
  · (intro w' hSw; (try dsimp only at hSw); go_simp; (try with_reducible rfl))
  try simp only [Act.put, List.setIfInBounds_toArray, List.set_cons_zero, List.set_cons_succ]
  refine takeL (i := 6) (v := ?_) rfl (by kernel_rfl) (by kernel_rfl) (by kernel_rfl) (fun _ _ _ h => h) (Or.inl ⟨by kernel_rfl, ?_⟩) (by assumption) ?_
  rotate_left
  · (intro w' hSw; (try dsimp only at hSw); go_simp; (try with_reducible rfl))
  try simp only [Act.put, List.setIfInBounds_toArray, List.set_cons_zero, List.set_cons_succ]
  refine takeL (i := 7) (v := ?_) rfl (by kernel_rfl) (by kernel_rfl) (by kernel_rfl) (fun _ _ _ h => h) (Or.inl ⟨by kernel_rfl, ?_⟩) (by assumption) ?_
  rotate_left
  · (intro w' hSw; (try dsimp only at hSw); go_simp; (try with_reducible rfl))
  try simp only [Act.put, List.setIfInBounds_toArray, List.set_cons_zero, List.set_cons_succ]
  refine takeL (i := 8) (v := .bool p8) rfl (by kernel_rfl) (by kernel_rfl) (by kernel_rfl) (fun _ _ _ h => h) (Or.inl ⟨by kernel_rfl, ?_⟩) (by assumption) ?_
  · (intro w' hSw; (try dsimp only at hSw); go_simp)
  try simp only [Act.put, List.setIfInBounds_toArray, List.set_cons_zero, List.set_cons_succ]
  refine wpAnyH_ready (rs := [5, 10]) (by kernel_rfl) (by simp) ?_
  refine AllReadyH.cons rfl (fun K hK => ?_) (AllReadyH.cons rfl (fun K hK => ?_) AllReadyH.nil)
  · go_simp
    refine (Hplc.out _).mono ?_
    rintro e w2 ⟨rfl, hb2⟩
    have hbw2 := (below_drewN (Below.refl W1.heap.size W1) 1).trans (hb2.mono (Nat.le_refl _))
    refine hK.out _ _ ?_ (fun hHeld => ?_)
    · exact Hall.out _ hbw2
    clear hK K
    try simp only [Act.put, List.setIfInBounds_toArray, List.set_cons_zero, List.set_cons_succ]
    refine takeL (i := 9) (v := ?_) rfl (by kernel_rfl) (by kernel_rfl) (by kernel_rfl) (fun _ _ _ h => h) (Or.inl ⟨by kernel_rfl, ?_⟩) (by assumption) ?_
    rotate_left
    · (intro w' hSw; (try dsimp only at hSw); go_simp; (try with_reducible rfl))
    try simp only [Act.put, List.setIfInBounds_toArray, List.set_cons_zero, List.set_cons_succ]
    refine wpAnyH_ready (rs := [10]) (by kernel_rfl) (by simp) ?_
    refine AllReadyH.cons rfl (fun K hK => ?_) AllReadyH.nil
    go_simp
    refine hK.out _ _ ?_ (fun hHeld => ?_)
    · exact Hall.out _ (hbw2.alloc hbw2.size _)
    clear hK K
    try simp only [Act.put, List.setIfInBounds_toArray, List.set_cons_zero, List.set_cons_succ]
    refine wpAnyH_ready (rs := [11]) (by kernel_rfl) (by simp) ?_
    refine AllReadyH.cons rfl (fun K hK => ?_) AllReadyH.nil
    go_simp
    refine hK.out _ _ ?_ (fun hHeld => ?_)
    · exact Hall.out _ (hbw2.alloc hbw2.size _)
    clear hK K
    try simp only [Act.put, List.setIfInBounds_toArray, List.set_cons_zero, List.set_cons_succ]
    refine wpAnyH_done (by kernel_rfl) ?_ _
    have hbw3 := hbw2.alloc hbw2.size (.cells #[.int .i64 (no : Int), .int .i64 (pf1 : Int), .int .i64 ar, .bool p8] 111)
    have hB3 := Blk.new w2 111 #[.int .i64 (no : Int), .int .i64 (pf1 : Int), .int .i64 ar, .bool p8]
    have hbb := hbw2.size
    clear hbw2 hb2
    generalize (w2.alloc (.cells #[.int .i64 (no : Int), .int .i64 (pf1 : Int), .int .i64 ar, .bool p8] 111)) = W3 at *
    generalize w2.heap.size = bb at *
    have hsz3 := hbw3.size
    have hev3 := Hev1.out.below hLW hbw3
    have hG := BndG.kept HG1.out (grown_of_below hbw3) (by simp) (by simp)
    have hlk : ∀ W, MapV W m3 N G → (Instr.lookup 76 (.map (some m3)) (.string n) false).run Tryd.prog W = .ok (lookG G (.slice none 0 0) n) W := fun W hW => by
      have := hW.look (t := 76) Tryd.underlying76 (zeroStk W) n hn false
      simpa using this
    have hltG : ∀ kk, (lookG G (.slice none 0 0) n).ownBlock = some kk → kk < bb := fun kk hk => Nat.lt_of_lt_of_le (own_lt (HG1.out.row n) hk) hbb
    have ev3d := hev3.below (Nat.le_trans hLW hsz3) (below_drewN (Below.refl _ _) 1)
    have hG4 := BndG.kept hG (grown_of_below (below_drewN ((Below.refl W3.heap.size W3).alloc (Nat.le_refl _) (.cells #[.int .i64 (no : Int), .int .i64 (pf1 : Int), .int .i64 ar, .bool p8] 111)) 1)) (by simp) (by simp)
    have ev4 := hev3.below (Nat.le_trans hLW hsz3) (below_drewN ((Below.refl W3.heap.size W3).alloc (Nat.le_refl _) (.cells #[.int .i64 (no : Int), .int .i64 (pf1 : Int), .int .i64 ar, .bool p8] 111)) 1)
    have hl1 : (Instr.lookup 76 (.map (some m3)) (.string n) false).run Tryd.prog W3.drew = .ok (lookG G (.slice none 0 0) n) W3.drew := hlk W3.drew (hG.1.drewN 1)
    have hl2 : (Instr.lookup 76 (.map (some m3)) (.string n) false).run Tryd.prog (W3.alloc (.cells #[.int .i64 (no : Int), .int .i64 (pf1 : Int), .int .i64 ar, .bool p8] 111)).drew = .ok (lookG G (.slice none 0 0) n) (W3.alloc (.cells #[.int .i64 (no : Int), .int .i64 (pf1 : Int), .int .i64 ar, .bool p8] 111)).drew := hlk _ ((hG.1.alloc _).drewN 1)
    have hB4 := Blk.drewN (Blk.alloc hB3 (.cells #[.int .i64 (no : Int), .int .i64 (pf1 : Int), .int .i64 ar, .bool p8] 111)) 1
    have hR4 := Blk.drewN (Blk.new W3 111 #[.int .i64 (no : Int), .int .i64 (pf1 : Int), .int .i64 ar, .bool p8]) 1
    have hrow4 := hG4.row n
    have hS8 : ∀ W, Blk W sb 79 #[.int .i64 (st.size : Nat), .int .i64 (st.depth : Nat), .map (some m1), .map (some m2), .int .i64 (no : Nat), .int .i64 (pf1 : Nat), .map (some m3), .map (some m4)] → Blk W w.heap.size 31 #[.int .i64 k, .int .i64 a, .string n, .slice A3 n3 c3, .slice A4 n4 c4, .slice A m c] → Blk W bb 111 #[.int .i64 (no : Int), .int .i64 (pf1 : Int), .int .i64 ar, .bool p8] → (fun W => W.cell? ⟨sb, 6, none⟩ = some (.map (some m3)) ∧ W.cell? ⟨w.heap.size, 2, none⟩ = some (.string n) ∧ W.cell? ⟨bb, 0, none⟩ = some (.int .i64 (no : Int)) ∧ W.cell? ⟨bb, 1, none⟩ = some (.int .i64 (pf1 : Int)) ∧ W.cell? ⟨bb, 2, none⟩ = some (.int .i64 ar) ∧ W.cell? ⟨bb, 3, none⟩ = some (.bool p8)) W := fun W q1 q2 q3 => ⟨q1.cell 6, q2.cell 2, q3.cell 0, q3.cell 1, q3.cell 2, q3.cell 3⟩
    have hN2 : N < maxLen := by have := HN1.out; unfold maxLen; omega
    have hbn : (bdOf n bd).length ≤ 1000000 := Nat.le_trans (List.length_filter_le _ _) (by omega)
    have HhS8 := Lib.hid hS8; clear hS8
    have Hhrow4 := Lib.hid hrow4; clear hrow4
    have HhR4 := Lib.hid hR4; clear hR4
    have HhB4 := Lib.hid hB4; clear hB4
    have Hev4 := Lib.hid ev4; clear ev4
    have HhG4 := Lib.hid hG4; clear hG4
    have Hev3d := Lib.hid ev3d; clear ev3d
    have HhltG := Lib.hid hltG; clear hltG
    have Hhlk := Lib.hid hlk; clear hlk
    have Hhev3 := Lib.hid hev3; clear hev3
    have HhG := Lib.hid hG; clear hG
    have HhB3 := Lib.hid hB3; clear hB3
    have Hhbn := Lib.hid hbn; clear hbn
    obtain ⟨v, hv⟩ : ∃ v, v = lookG G (.slice none 0 0) n := ⟨_, rfl⟩
    rw [← hv] at hl1 hl2
    have Hv := Lib.hid hv; clear hv
    obtain ⟨VA, VC, hvs⟩ := own_slice (Hv.out ▸ Hhrow4.out)
    subst hvs
    go_wp2
    refine wp_region_held_drew (S := fun W => W.cell? ⟨sb, 6, none⟩ = some (.map (some m3)) ∧ W.cell? ⟨w.heap.size, 2, none⟩ = some (.string n) ∧ W.cell? ⟨bb, 0, none⟩ = some (.int .i64 (no : Int)) ∧ W.cell? ⟨bb, 1, none⟩ = some (.int .i64 (pf1 : Int)) ∧ W.cell? ⟨bb, 2, none⟩ = some (.int .i64 ar) ∧ W.cell? ⟨bb, 3, none⟩ = some (.bool p8)) (by kernel_rfl) (HhS8.out _ Hev3d.out.sv.box Hev3d.out.bx (Blk.drewN HhB3.out 1)) (fun hHeld => ?_)
    refine takeL (i := 0) (v := ?_) rfl (by kernel_rfl) (by kernel_rfl) (by kernel_rfl) (fun _ _ _ h => h) (Or.inl ⟨by kernel_rfl, ?_⟩) (by assumption) ?_
    rotate_left
    · (intro w' hSw; (try dsimp only at hSw); go_simp; (try with_reducible rfl))
    try simp only [Act.put, List.setIfInBounds_toArray, List.set_cons_zero, List.set_cons_succ]
    refine takeL (i := 1) (v := ?_) rfl (by kernel_rfl) (by kernel_rfl) (by kernel_rfl) (fun _ _ _ h => h) (Or.inl ⟨by kernel_rfl, ?_⟩) (by assumption) ?_
    rotate_left
    · (intro w' hSw; (try dsimp only at hSw); go_simp; (try with_reducible rfl))
    try simp only [Act.put, List.setIfInBounds_toArray, List.set_cons_zero, List.set_cons_succ]
    refine takeL (i := 2) (v := ?_) rfl (by kernel_rfl) (by kernel_rfl) (by kernel_rfl) (fun _ _ _ h => h) (Or.inl ⟨by kernel_rfl, ?_⟩) (by assumption) ?_
    rotate_left
    · (intro w' hSw; (try dsimp only at hSw); go_simp; (try with_reducible rfl))
    try simp only [Act.put, List.setIfInBounds_toArray, List.set_cons_zero, List.set_cons_succ]
    refine takeL (i := 3) (v := ?_) rfl (by kernel_rfl) (by kernel_rfl) (by kernel_rfl) (fun _ _ _ h => h) (Or.inl ⟨by kernel_rfl, ?_⟩) (by assumption) ?_
    rotate_left
    · (intro w' hSw; (try dsimp only at hSw); go_simp; (try with_reducible rfl))
    try simp only [Act.put, List.setIfInBounds_toArray, List.set_cons_zero, List.set_cons_succ]
    refine takeL (i := 4) (v := ?_) rfl (by kernel_rfl) (by kernel_rfl) (by kernel_rfl) (fun _ _ _ h => h) (Or.inl ⟨by kernel_rfl, ?_⟩) (by assumption) ?_
    rotate_left
    · (intro w' hSw; (try dsimp only at hSw); go_simp; (try with_reducible rfl))
    try simp only [Act.put, List.setIfInBounds_toArray, List.set_cons_zero, List.set_cons_succ]
    refine takeL (i := 5) (v := ?_) rfl (by kernel_rfl) (by kernel_rfl) (by kernel_rfl) (fun _ _ _ h => h) (Or.inl ⟨by kernel_rfl, ?_⟩) (by assumption) ?_
    rotate_left
    · (intro w' hSw; (try dsimp only at hSw); go_simp; (try with_reducible rfl))
    try simp only [Act.put, List.setIfInBounds_toArray, List.set_cons_zero, List.set_cons_succ]
    refine takeL (i := 6) (v := ?_) rfl (by kernel_rfl) (by kernel_rfl) (by kernel_rfl) (fun _ _ _ h => h) (Or.inl ⟨by kernel_rfl, ?_⟩) (by assumption) ?_
    rotate_left
    · (intro w' hSw; (try dsimp only at hSw); go_simp; (try with_reducible rfl))
    try simp only [Act.put, List.setIfInBounds_toArray, List.set_cons_zero, List.set_cons_succ]
    refine takeL (i := 7) (v := ?_) rfl (by kernel_rfl) (by kernel_rfl) (by kernel_rfl) (fun _ _ _ h => h) (Or.inl ⟨by kernel_rfl, ?_⟩) (by assumption) ?_
    rotate_left
    · (intro w' hSw; (try dsimp only at hSw); go_simp; (try with_reducible rfl))
    try simp only [Act.put, List.setIfInBounds_toArray, List.set_cons_zero, List.set_cons_succ]
    refine takeL (i := 8) (v := ?_) rfl (by kernel_rfl) (by kernel_rfl) (by kernel_rfl) (fun _ _ _ h => h) (Or.inl ⟨by kernel_rfl, ?_⟩) (by assumption) ?_
    rotate_left
    · (intro w' hSw; (try dsimp only at hSw); go_simp; (try with_reducible rfl))
    try simp only [Act.put, List.setIfInBounds_toArray, List.set_cons_zero, List.set_cons_succ]
    refine takeL (i := 9) (v := ?_) rfl (by kernel_rfl) (by kernel_rfl) (by kernel_rfl) (fun _ _ _ h => h) (Or.inl ⟨by kernel_rfl, ?_⟩) (by assumption) ?_
    rotate_left
    · (intro w' hSw; (try dsimp only at hSw); go_simp; (try with_reducible rfl))
    try simp only [Act.put, List.setIfInBounds_toArray, List.set_cons_zero, List.set_cons_succ]
    refine takeL (i := 10) (v := ?_) rfl (by kernel_rfl) (by kernel_rfl) (by kernel_rfl) (fun _ _ _ h => h) (Or.inl ⟨by kernel_rfl, ?_⟩) (by assumption) ?_
    rotate_left
    · (intro w' hSw; (try dsimp only at hSw); go_simp; (try with_reducible rfl))
    try simp only [Act.put, List.setIfInBounds_toArray, List.set_cons_zero, List.set_cons_succ]
    refine takeL (i := 11) (v := ?_) rfl (by kernel_rfl) (by kernel_rfl) (by kernel_rfl) (fun _ _ _ h => h) (Or.inl ⟨by kernel_rfl, ?_⟩) (by assumption) ?_
    rotate_left
    · (intro w' hSw; (try dsimp only at hSw); go_simp; (try with_reducible rfl))
    try simp only [Act.put, List.setIfInBounds_toArray, List.set_cons_zero, List.set_cons_succ]
    refine takeL (i := 13) (v := ?_) rfl (by kernel_rfl) (by kernel_rfl) (by kernel_rfl) (fun _ _ _ h => h) (Or.inl ⟨by kernel_rfl, ?_⟩) (by assumption) ?_
    rotate_left
    · (intro w' hSw; (try dsimp only at hSw); go_simp; (try with_reducible rfl))
    try simp only [Act.put, List.setIfInBounds_toArray, List.set_cons_zero, List.set_cons_succ]
    refine wpAnyH_ready (rs := [12, 14]) (by kernel_rfl) (by simp) ?_
    refine AllReadyH.cons rfl (fun K hK => ?_) (AllReadyH.cons rfl (fun K hK => ?_) AllReadyH.nil)
    · go_simp
      refine hK.out _ _ ?_ (fun hHeld => ?_)
      · exact HhS8.out _ Hev3d.out.sv.box Hev3d.out.bx (Blk.drewN HhB3.out 1)
      clear hK K
      try simp only [Act.put, List.setIfInBounds_toArray, List.set_cons_zero, List.set_cons_succ]
      refine wpAnyH_ready (rs := [14]) (by kernel_rfl) (by simp) ?_
      refine AllReadyH.cons rfl (fun K hK => ?_) AllReadyH.nil
      go_simp
      refine hK.out _ _ ?_ (fun hHeld => ?_)
      · exact HhS8.out _ Hev4.out.sv.box Hev4.out.bx HhB4.out
      clear hK K
      try simp only [Act.put, List.setIfInBounds_toArray, List.set_cons_zero, List.set_cons_succ]
      refine wpAnyH_ready (rs := [15]) (by kernel_rfl) (by simp) ?_
      refine AllReadyH.cons rfl (fun K hK => ?_) AllReadyH.nil
      refine step_append_bd _ rfl _ _ rfl L _ (bdOf n bd).length _ rfl (Hv.out ▸ Hhrow4.out) W3.heap.size 1 _ _ _ _ rfl HhR4.out rfl rfl rfl rfl Hhbn.out (Nat.le_trans hLW (Nat.le_trans hsz3 (by simp))) ?_
      intro v5 w5 hown5 hg5 hat5
      obtain ⟨⟨k51, k52, k53⟩, W6, hrun6, hev6, hB6⟩ := Hev4.out.push (Nat.le_trans hLW (Nat.le_trans hsz3 (by simp))) HhG4.out (b := ⟨n, no, pf1, ar, p8⟩) hown5 (Hv.out ▸ hg5) (Hv.out ▸ hat5) hN2 hn HhB4.out HhltG.out
      obtain ⟨ZA, ZC, rfl⟩ := own_slice hown5
      refine hK.out _ _ ?_ (fun hHeld => ?_)
      · exact HhS8.out _ k51 k52 k53
      clear hK K
      try simp only [Act.put, List.setIfInBounds_toArray]
      refine wpAnyH_ready (rs := [16]) (by kernel_rfl) (by simp) ?_
      refine AllReadyH.cons rfl (fun K hK => ?_) AllReadyH.nil
      go_simp
      refine hK.out _ _ ?_ (fun hHeld => ?_)
      · exact HhS8.out _ hev6.sv.box hev6.bx hB6
      clear hK K
      try simp only [Act.put, List.setIfInBounds_toArray, List.set_cons_zero, List.set_cons_succ]
      refine wpAnyH_done (by kernel_rfl) ?_ _
      have hb63 : W6.cell? ⟨w.heap.size, 3, none⟩ = some (.slice A3 n3 c3) := hev6.bx.cell 3
      have Hev := Lib.hid hev6; clear hev6
      clear hrun6 hown5 hg5 hat5 k51 k52 k53 hB6 hl1 hl2 HhS8 Hhrow4 HhR4 HhB4 Hev4 HhG4 Hev3d HhltG Hhlk Hhev3 HhG HhB3
      go_wp2

      go_loopw [6, 63] (fun _ i wr => ∃ j : Nat, j ≤ n3 ∧ i = .int .i64 j ∧ EV L sb m1 m2 m3 m4 ((N + 1) + j) st (⟨n, no, pf1, ar, p8⟩ :: bd) (ws.take j ++ vs) no pf1 w.heap.size #[.int .i64 k, .int .i64 a, .string n, .slice A3 n3 c3, .slice A4 n4 c4, .slice A m c] w wr) (fun _ i _ => n3 - (intOf i).toNat)
      case atStart => exact ⟨0, Nat.zero_le _, rfl, by simpa using Hev.out⟩
      case round =>
        obtain ⟨j, hj, rfl, hev⟩ := hrel
        have Hej := Lib.hid hev; clear hev
        by_cases hlt : j < n3
        · obtain ⟨ad, s, rfl, hb, hs, hc, hsz⟩ := (H3.out.below Hej.out.bel.bel).at_ hlt
          obtain ⟨q, W2, hq, hlook, hput, hev2⟩ := Hej.out.var (Nat.le_trans hL Hej.out.bel.size) (Hws.out s (List.mem_of_getElem? hs)) hs hvl (by omega) (by have := HN1.out; unfold maxLen; omega)
          have c7 : wr.cell? ⟨sb, 7, none⟩ = some (.map (some m4)) := Hej.out.sv.box.cell 7
          have Hs := Lib.hid hs; clear hs
          have Hev2 := Lib.hid hev2; clear hev2
          go_wp2
          go_roundw
          case rel => exact ⟨j + 1, by omega, by go_num, Hev2.out⟩
          case measure => simp [intOf]; omega
        · obtain rfl : j = n3 := by omega
          have hfin := Hej.out
          rw [List.take_of_length_le (by rw [← Hl3.out]; exact Nat.le_refl _)] at hfin
          have Hfin := Lib.hid hfin; clear hfin
          go_wp2
          go_end0
          exact ⟨rfl, Hfin.out.bel, (N + 1) + j, by have := Hl3.out; omega, Hres.out _ _ Hfin.out.sv⟩
    · go_simp
      refine hK.out _ _ ?_ (fun hHeld => ?_)
      · exact HhS8.out _ Hev4.out.sv.box Hev4.out.bx HhB4.out
      clear hK K
      try simp only [Act.put, List.setIfInBounds_toArray, List.set_cons_zero, List.set_cons_succ]
      refine wpAnyH_ready (rs := [12]) (by kernel_rfl) (by simp) ?_
      refine AllReadyH.cons rfl (fun K hK => ?_) AllReadyH.nil
      go_simp
      refine hK.out _ _ ?_ (fun hHeld => ?_)
      · exact HhS8.out _ Hev4.out.sv.box Hev4.out.bx HhB4.out
      clear hK K
      try simp only [Act.put, List.setIfInBounds_toArray, List.set_cons_zero, List.set_cons_succ]
      refine wpAnyH_ready (rs := [15]) (by kernel_rfl) (by simp) ?_
      refine AllReadyH.cons rfl (fun K hK => ?_) AllReadyH.nil
      refine step_append_bd _ rfl _ _ rfl L _ (bdOf n bd).length _ rfl (Hv.out ▸ Hhrow4.out) W3.heap.size 1 _ _ _ _ rfl HhR4.out rfl rfl rfl rfl Hhbn.out (Nat.le_trans hLW (Nat.le_trans hsz3 (by simp))) ?_
      intro v5 w5 hown5 hg5 hat5
      obtain ⟨⟨k51, k52, k53⟩, W6, hrun6, hev6, hB6⟩ := Hev4.out.push (Nat.le_trans hLW (Nat.le_trans hsz3 (by simp))) HhG4.out (b := ⟨n, no, pf1, ar, p8⟩) hown5 (Hv.out ▸ hg5) (Hv.out ▸ hat5) hN2 hn HhB4.out HhltG.out
      obtain ⟨ZA, ZC, rfl⟩ := own_slice hown5
      refine hK.out _ _ ?_ (fun hHeld => ?_)
      · exact HhS8.out _ k51 k52 k53
      clear hK K
      try simp only [Act.put, List.setIfInBounds_toArray]
      refine wpAnyH_ready (rs := [16]) (by kernel_rfl) (by simp) ?_
      refine AllReadyH.cons rfl (fun K hK => ?_) AllReadyH.nil
      go_simp
      refine hK.out _ _ ?_ (fun hHeld => ?_)
      · exact HhS8.out _ hev6.sv.box hev6.bx hB6
      clear hK K
      try simp only [Act.put, List.setIfInBounds_toArray, List.set_cons_zero, List.set_cons_succ]
      refine wpAnyH_done (by kernel_rfl) ?_ _
      have hb63 : W6.cell? ⟨w.heap.size, 3, none⟩ = some (.slice A3 n3 c3) := hev6.bx.cell 3
      have Hev := Lib.hid hev6; clear hev6
      clear hrun6 hown5 hg5 hat5 k51 k52 k53 hB6 hl1 hl2 HhS8 Hhrow4 HhR4 HhB4 Hev4 HhG4 Hev3d HhltG Hhlk Hhev3 HhG HhB3
      go_wp2

      go_loopw [6, 63] (fun _ i wr => ∃ j : Nat, j ≤ n3 ∧ i = .int .i64 j ∧ EV L sb m1 m2 m3 m4 ((N + 1) + j) st (⟨n, no, pf1, ar, p8⟩ :: bd) (ws.take j ++ vs) no pf1 w.heap.size #[.int .i64 k, .int .i64 a, .string n, .slice A3 n3 c3, .slice A4 n4 c4, .slice A m c] w wr) (fun _ i _ => n3 - (intOf i).toNat)
      case atStart => exact ⟨0, Nat.zero_le _, rfl, by simpa using Hev.out⟩
      case round =>
        obtain ⟨j, hj, rfl, hev⟩ := hrel
        have Hej := Lib.hid hev; clear hev
        by_cases hlt : j < n3
        · obtain ⟨ad, s, rfl, hb, hs, hc, hsz⟩ := (H3.out.below Hej.out.bel.bel).at_ hlt
          obtain ⟨q, W2, hq, hlook, hput, hev2⟩ := Hej.out.var (Nat.le_trans hL Hej.out.bel.size) (Hws.out s (List.mem_of_getElem? hs)) hs hvl (by omega) (by have := HN1.out; unfold maxLen; omega)
          have c7 : wr.cell? ⟨sb, 7, none⟩ = some (.map (some m4)) := Hej.out.sv.box.cell 7
          have Hs := Lib.hid hs; clear hs
          have Hev2 := Lib.hid hev2; clear hev2
          go_wp2
          go_roundw
          case rel => exact ⟨j + 1, by omega, by go_num, Hev2.out⟩
          case measure => simp [intOf]; omega
        · obtain rfl : j = n3 := by omega
          have hfin := Hej.out
          rw [List.take_of_length_le (by rw [← Hl3.out]; exact Nat.le_refl _)] at hfin
          have Hfin := Lib.hid hfin; clear hfin
          go_wp2
          go_end0
          exact ⟨rfl, Hfin.out.bel, (N + 1) + j, by have := Hl3.out; omega, Hres.out _ _ Hfin.out.sv⟩
  · go_simp
    have hbwa := (below_drewN (Below.refl W1.heap.size W1) 1).alloc (Nat.le_refl _) (.cells #[.int .i64 0, .int .i64 0, .int .i64 0, .bool false] 111)
    have hBa := Blk.new (W1.drewN 1) 111 #[.int .i64 0, .int .i64 0, .int .i64 0, .bool false]
    refine hK.out _ _ ?_ (fun hHeld => ?_)
    · exact Hall.out _ hbwa
    clear hK K
    try simp only [Act.put, List.setIfInBounds_toArray, List.set_cons_zero, List.set_cons_succ]
    refine wpAnyH_ready (rs := [5]) (by kernel_rfl) (by simp) ?_
    refine AllReadyH.cons rfl (fun K hK => ?_) AllReadyH.nil
    go_simp
    refine (Hplc.out _).mono ?_
    rintro e w2 ⟨rfl, hb2⟩
    have hbw2 := hbwa.trans (hb2.mono hbwa.size)
    have hB2 : Blk w2 W1.heap.size 111 #[.int .i64 0, .int .i64 0, .int .i64 0, .bool false] := Blk.below hBa hb2 (Blk.lt hBa)
    clear hb2 hbwa hBa
    have y0 : w2.cell? ⟨W1.heap.size, 0, none⟩ = some (.int .i64 0) := hB2.cell 0
    have z0 := (hB2).frozen 0
    have y1 : (w2.setCell ⟨W1.heap.size, 0, none⟩ (.int .i64 (no : Int))).cell? ⟨W1.heap.size, 1, none⟩ = some (.int .i64 0) := (hB2.set_ 0 _).cell 1
    have z1 := (Blk.set_ hB2 0 (.int .i64 (no : Int))).frozen 1
    have y2 : ((w2.setCell ⟨W1.heap.size, 0, none⟩ (.int .i64 (no : Int))).setCell ⟨W1.heap.size, 1, none⟩ (.int .i64 (pf1 : Int))).cell? ⟨W1.heap.size, 2, none⟩ = some (.int .i64 0) := ((hB2.set_ 0 _).set_ 1 _).cell 2
    have z2 := ((Blk.set_ hB2 0 (.int .i64 (no : Int))).set_ 1 (.int .i64 (pf1 : Int))).frozen 2
    have y3 : (((w2.setCell ⟨W1.heap.size, 0, none⟩ (.int .i64 (no : Int))).setCell ⟨W1.heap.size, 1, none⟩ (.int .i64 (pf1 : Int))).setCell ⟨W1.heap.size, 2, none⟩ (.int .i64 ar)).cell? ⟨W1.heap.size, 3, none⟩ = some (.bool false) := (((hB2.set_ 0 _).set_ 1 _).set_ 2 _).cell 3
    have z3 := (((Blk.set_ hB2 0 (.int .i64 (no : Int))).set_ 1 (.int .i64 (pf1 : Int))).set_ 2 (.int .i64 ar)).frozen 3
    refine hK.out _ _ ?_ (fun hHeld => ?_)
    · exact Hall.out _ hbw2
    clear hK K
    try simp only [Act.put, List.setIfInBounds_toArray, List.set_cons_zero, List.set_cons_succ]
    refine takeL (i := 9) (v := ?_) rfl (by kernel_rfl) (by kernel_rfl) (by kernel_rfl) (fun _ _ _ h => h) (Or.inl ⟨by kernel_rfl, ?_⟩) (by assumption) ?_
    rotate_left
    · (intro w' hSw; (try dsimp only at hSw); go_simp; (try with_reducible rfl))
    try simp only [Act.put, List.setIfInBounds_toArray, List.set_cons_zero, List.set_cons_succ]
    refine wpAnyH_ready (rs := [11]) (by kernel_rfl) (by simp) ?_
    refine AllReadyH.cons rfl (fun K hK => ?_) AllReadyH.nil
    go_simp
    have hbw3 := (((hbw2.setCell (p := ⟨W1.heap.size, 0, none⟩) (Nat.le_refl _) (.int .i64 (no : Int))).setCell (p := ⟨W1.heap.size, 1, none⟩) (Nat.le_refl _) (.int .i64 (pf1 : Int))).setCell (p := ⟨W1.heap.size, 2, none⟩) (Nat.le_refl _) (.int .i64 ar)).setCell (p := ⟨W1.heap.size, 3, none⟩) (Nat.le_refl _) (.bool p8)
    have hB3 := (((Blk.set_ hB2 0 (.int .i64 (no : Int))).set_ 1 (.int .i64 (pf1 : Int))).set_ 2 (.int .i64 ar)).set_ 3 (.bool p8)
    simp at hB3
    refine hK.out _ _ ?_ (fun hHeld => ?_)
    · exact Hall.out _ hbw3
    clear hK K
    try simp only [Act.put, List.setIfInBounds_toArray, List.set_cons_zero, List.set_cons_succ]
    refine wpAnyH_done (by kernel_rfl) ?_ _
    clear hbw2 hB2 y0 y1 y2 y3 z0 z1 z2 z3
    generalize ((((w2.setCell ⟨W1.heap.size, 0, none⟩ (.int .i64 (no : Int))).setCell ⟨W1.heap.size, 1, none⟩ (.int .i64 (pf1 : Int))).setCell ⟨W1.heap.size, 2, none⟩ (.int .i64 ar)).setCell ⟨W1.heap.size, 3, none⟩ (.bool p8)) = W3 at *
    obtain ⟨bb, hbq⟩ : ∃ q, q = W1.heap.size := ⟨_, rfl⟩
    have hbb : W1.heap.size ≤ bb := Nat.le_of_eq hbq.symm
    rw [← hbq] at hB3 ⊢
    clear hbq
    have hsz3 := hbw3.size
    have hev3 := Hev1.out.below hLW hbw3
    have hG := BndG.kept HG1.out (grown_of_below hbw3) (by simp) (by simp)
    have hlk : ∀ W, MapV W m3 N G → (Instr.lookup 76 (.map (some m3)) (.string n) false).run Tryd.prog W = .ok (lookG G (.slice none 0 0) n) W := fun W hW => by
      have := hW.look (t := 76) Tryd.underlying76 (zeroStk W) n hn false
      simpa using this
    have hltG : ∀ kk, (lookG G (.slice none 0 0) n).ownBlock = some kk → kk < bb := fun kk hk => Nat.lt_of_lt_of_le (own_lt (HG1.out.row n) hk) hbb
    have ev3d := hev3.below (Nat.le_trans hLW hsz3) (below_drewN (Below.refl _ _) 1)
    have hG4 := BndG.kept hG (grown_of_below (below_drewN ((Below.refl W3.heap.size W3).alloc (Nat.le_refl _) (.cells #[.int .i64 (no : Int), .int .i64 (pf1 : Int), .int .i64 ar, .bool p8] 111)) 1)) (by simp) (by simp)
    have ev4 := hev3.below (Nat.le_trans hLW hsz3) (below_drewN ((Below.refl W3.heap.size W3).alloc (Nat.le_refl _) (.cells #[.int .i64 (no : Int), .int .i64 (pf1 : Int), .int .i64 ar, .bool p8] 111)) 1)
    have hl1 : (Instr.lookup 76 (.map (some m3)) (.string n) false).run Tryd.prog W3.drew = .ok (lookG G (.slice none 0 0) n) W3.drew := hlk W3.drew (hG.1.drewN 1)
    have hl2 : (Instr.lookup 76 (.map (some m3)) (.string n) false).run Tryd.prog (W3.alloc (.cells #[.int .i64 (no : Int), .int .i64 (pf1 : Int), .int .i64 ar, .bool p8] 111)).drew = .ok (lookG G (.slice none 0 0) n) (W3.alloc (.cells #[.int .i64 (no : Int), .int .i64 (pf1 : Int), .int .i64 ar, .bool p8] 111)).drew := hlk _ ((hG.1.alloc _).drewN 1)
    have hB4 := Blk.drewN (Blk.alloc hB3 (.cells #[.int .i64 (no : Int), .int .i64 (pf1 : Int), .int .i64 ar, .bool p8] 111)) 1
    have hR4 := Blk.drewN (Blk.new W3 111 #[.int .i64 (no : Int), .int .i64 (pf1 : Int), .int .i64 ar, .bool p8]) 1
    have hrow4 := hG4.row n
    have hS8 : ∀ W, Blk W sb 79 #[.int .i64 (st.size : Nat), .int .i64 (st.depth : Nat), .map (some m1), .map (some m2), .int .i64 (no : Nat), .int .i64 (pf1 : Nat), .map (some m3), .map (some m4)] → Blk W w.heap.size 31 #[.int .i64 k, .int .i64 a, .string n, .slice A3 n3 c3, .slice A4 n4 c4, .slice A m c] → Blk W bb 111 #[.int .i64 (no : Int), .int .i64 (pf1 : Int), .int .i64 ar, .bool p8] → (fun W => W.cell? ⟨sb, 6, none⟩ = some (.map (some m3)) ∧ W.cell? ⟨w.heap.size, 2, none⟩ = some (.string n) ∧ W.cell? ⟨bb, 0, none⟩ = some (.int .i64 (no : Int)) ∧ W.cell? ⟨bb, 1, none⟩ = some (.int .i64 (pf1 : Int)) ∧ W.cell? ⟨bb, 2, none⟩ = some (.int .i64 ar) ∧ W.cell? ⟨bb, 3, none⟩ = some (.bool p8)) W := fun W q1 q2 q3 => ⟨q1.cell 6, q2.cell 2, q3.cell 0, q3.cell 1, q3.cell 2, q3.cell 3⟩
    have hN2 : N < maxLen := by have := HN1.out; unfold maxLen; omega
    have hbn : (bdOf n bd).length ≤ 1000000 := Nat.le_trans (List.length_filter_le _ _) (by omega)
    have HhS8 := Lib.hid hS8; clear hS8
    have Hhrow4 := Lib.hid hrow4; clear hrow4
    have HhR4 := Lib.hid hR4; clear hR4
    have HhB4 := Lib.hid hB4; clear hB4
    have Hev4 := Lib.hid ev4; clear ev4
    have HhG4 := Lib.hid hG4; clear hG4
    have Hev3d := Lib.hid ev3d; clear ev3d
    have HhltG := Lib.hid hltG; clear hltG
    have Hhlk := Lib.hid hlk; clear hlk
    have Hhev3 := Lib.hid hev3; clear hev3
    have HhG := Lib.hid hG; clear hG
    have HhB3 := Lib.hid hB3; clear hB3
    have Hhbn := Lib.hid hbn; clear hbn
    obtain ⟨v, hv⟩ : ∃ v, v = lookG G (.slice none 0 0) n := ⟨_, rfl⟩
    rw [← hv] at hl1 hl2
    have Hv := Lib.hid hv; clear hv
    obtain ⟨VA, VC, hvs⟩ := own_slice (Hv.out ▸ Hhrow4.out)
    subst hvs
    go_wp2
    refine wp_region_held_drew (S := fun W => W.cell? ⟨sb, 6, none⟩ = some (.map (some m3)) ∧ W.cell? ⟨w.heap.size, 2, none⟩ = some (.string n) ∧ W.cell? ⟨bb, 0, none⟩ = some (.int .i64 (no : Int)) ∧ W.cell? ⟨bb, 1, none⟩ = some (.int .i64 (pf1 : Int)) ∧ W.cell? ⟨bb, 2, none⟩ = some (.int .i64 ar) ∧ W.cell? ⟨bb, 3, none⟩ = some (.bool p8)) (by kernel_rfl) (HhS8.out _ Hev3d.out.sv.box Hev3d.out.bx (Blk.drewN HhB3.out 1)) (fun hHeld => ?_)
    refine takeL (i := 0) (v := ?_) rfl (by kernel_rfl) (by kernel_rfl) (by kernel_rfl) (fun _ _ _ h => h) (Or.inl ⟨by kernel_rfl, ?_⟩) (by assumption) ?_
    rotate_left
    · (intro w' hSw; (try dsimp only at hSw); go_simp; (try with_reducible rfl))
    try simp only [Act.put, List.setIfInBounds_toArray, List.set_cons_zero, List.set_cons_succ]
    refine takeL (i := 1) (v := ?_) rfl (by kernel_rfl) (by kernel_rfl) (by kernel_rfl) (fun _ _ _ h => h) (Or.inl ⟨by kernel_rfl, ?_⟩) (by assumption) ?_
    rotate_left
    · (intro w' hSw; (try dsimp only at hSw); go_simp; (try with_reducible rfl))
    try simp only [Act.put, List.setIfInBounds_toArray, List.set_cons_zero, List.set_cons_succ]
    refine takeL (i := 2) (v := ?_) rfl (by kernel_rfl) (by kernel_rfl) (by kernel_rfl) (fun _ _ _ h => h) (Or.inl ⟨by kernel_rfl, ?_⟩) (by assumption) ?_
    rotate_left
    · (intro w' hSw; (try dsimp only at hSw); go_simp; (try with_reducible rfl))
    try simp only [Act.put, List.setIfInBounds_toArray, List.set_cons_zero, List.set_cons_succ]
    refine takeL (i := 3) (v := ?_) rfl (by kernel_rfl) (by kernel_rfl) (by kernel_rfl) (fun _ _ _ h => h) (Or.inl ⟨by kernel_rfl, ?_⟩) (by assumption) ?_
    rotate_left
    · (intro w' hSw; (try dsimp only at hSw); go_simp; (try with_reducible rfl))
    try simp only [Act.put, List.setIfInBounds_toArray, List.set_cons_zero, List.set_cons_succ]
    refine takeL (i := 4) (v := ?_) rfl (by kernel_rfl) (by kernel_rfl) (by kernel_rfl) (fun _ _ _ h => h) (Or.inl ⟨by kernel_rfl, ?_⟩) (by assumption) ?_
    rotate_left
    · (intro w' hSw; (try dsimp only at hSw); go_simp; (try with_reducible rfl))
    try simp only [Act.put, List.setIfInBounds_toArray, List.set_cons_zero, List.set_cons_succ]
    refine takeL (i := 5) (v := ?_) rfl (by kernel_rfl) (by kernel_rfl) (by kernel_rfl) (fun _ _ _ h => h) (Or.inl ⟨by kernel_rfl, ?_⟩) (by assumption) ?_
    rotate_left
    · (intro w' hSw; (try dsimp only at hSw); go_simp; (try with_reducible rfl))
    try simp only [Act.put, List.setIfInBounds_toArray, List.set_cons_zero, List.set_cons_succ]
    refine takeL (i := 6) (v := ?_) rfl (by kernel_rfl) (by kernel_rfl) (by kernel_rfl) (fun _ _ _ h => h) (Or.inl ⟨by kernel_rfl, ?_⟩) (by assumption) ?_
    rotate_left
    · (intro w' hSw; (try dsimp only at hSw); go_simp; (try with_reducible rfl))
    try simp only [Act.put, List.setIfInBounds_toArray, List.set_cons_zero, List.set_cons_succ]
    refine takeL (i := 7) (v := ?_) rfl (by kernel_rfl) (by kernel_rfl) (by kernel_rfl) (fun _ _ _ h => h) (Or.inl ⟨by kernel_rfl, ?_⟩) (by assumption) ?_
    rotate_left
    · (intro w' hSw; (try dsimp only at hSw); go_simp; (try with_reducible rfl))
    try simp only [Act.put, List.setIfInBounds_toArray, List.set_cons_zero, List.set_cons_succ]
    refine takeL (i := 8) (v := ?_) rfl (by kernel_rfl) (by kernel_rfl) (by kernel_rfl) (fun _ _ _ h => h) (Or.inl ⟨by kernel_rfl, ?_⟩) (by assumption) ?_
    rotate_left
    · (intro w' hSw; (try dsimp only at hSw); go_simp; (try with_reducible rfl))
    try simp only [Act.put, List.setIfInBounds_toArray, List.set_cons_zero, List.set_cons_succ]
    refine takeL (i := 9) (v := ?_) rfl (by kernel_rfl) (by kernel_rfl) (by kernel_rfl) (fun _ _ _ h => h) (Or.inl ⟨by kernel_rfl, ?_⟩) (by assumption) ?_
    rotate_left
    · (intro w' hSw; (try dsimp only at hSw); go_simp; (try with_reducible rfl))
    try simp only [Act.put, List.setIfInBounds_toArray, List.set_cons_zero, List.set_cons_succ]
    refine takeL (i := 10) (v := ?_) rfl (by kernel_rfl) (by kernel_rfl) (by kernel_rfl) (fun _ _ _ h => h) (Or.inl ⟨by kernel_rfl, ?_⟩) (by assumption) ?_
    rotate_left
    · (intro w' hSw; (try dsimp only at hSw); go_simp; (try with_reducible rfl))
    try simp only [Act.put, List.setIfInBounds_toArray, List.set_cons_zero, List.set_cons_succ]
    refine takeL (i := 11) (v := ?_) rfl (by kernel_rfl) (by kernel_rfl) (by kernel_rfl) (fun _ _ _ h => h) (Or.inl ⟨by kernel_rfl, ?_⟩) (by assumption) ?_
    rotate_left
    · (intro w' hSw; (try dsimp only at hSw); go_simp; (try with_reducible rfl))
    try simp only [Act.put, List.setIfInBounds_toArray, List.set_cons_zero, List.set_cons_succ]
    refine takeL (i := 13) (v := ?_) rfl (by kernel_rfl) (by kernel_rfl) (by kernel_rfl) (fun _ _ _ h => h) (Or.inl ⟨by kernel_rfl, ?_⟩) (by assumption) ?_
    rotate_left
    · (intro w' hSw; (try dsimp only at hSw); go_simp; (try with_reducible rfl))
    try simp only [Act.put, List.setIfInBounds_toArray, List.set_cons_zero, List.set_cons_succ]
    refine wpAnyH_ready (rs := [12, 14]) (by kernel_rfl) (by simp) ?_
    refine AllReadyH.cons rfl (fun K hK => ?_) (AllReadyH.cons rfl (fun K hK => ?_) AllReadyH.nil)
    · go_simp
      refine hK.out _ _ ?_ (fun hHeld => ?_)
      · exact HhS8.out _ Hev3d.out.sv.box Hev3d.out.bx (Blk.drewN HhB3.out 1)
      clear hK K
      try simp only [Act.put, List.setIfInBounds_toArray, List.set_cons_zero, List.set_cons_succ]
      refine wpAnyH_ready (rs := [14]) (by kernel_rfl) (by simp) ?_
      refine AllReadyH.cons rfl (fun K hK => ?_) AllReadyH.nil
      go_simp
      refine hK.out _ _ ?_ (fun hHeld => ?_)
      · exact HhS8.out _ Hev4.out.sv.box Hev4.out.bx HhB4.out
      clear hK K
      try simp only [Act.put, List.setIfInBounds_toArray, List.set_cons_zero, List.set_cons_succ]
      refine wpAnyH_ready (rs := [15]) (by kernel_rfl) (by simp) ?_
      refine AllReadyH.cons rfl (fun K hK => ?_) AllReadyH.nil
      refine step_append_bd _ rfl _ _ rfl L _ (bdOf n bd).length _ rfl (Hv.out ▸ Hhrow4.out) W3.heap.size 1 _ _ _ _ rfl HhR4.out rfl rfl rfl rfl Hhbn.out (Nat.le_trans hLW (Nat.le_trans hsz3 (by simp))) ?_
      intro v5 w5 hown5 hg5 hat5
      obtain ⟨⟨k51, k52, k53⟩, W6, hrun6, hev6, hB6⟩ := Hev4.out.push (Nat.le_trans hLW (Nat.le_trans hsz3 (by simp))) HhG4.out (b := ⟨n, no, pf1, ar, p8⟩) hown5 (Hv.out ▸ hg5) (Hv.out ▸ hat5) hN2 hn HhB4.out HhltG.out
      obtain ⟨ZA, ZC, rfl⟩ := own_slice hown5
      refine hK.out _ _ ?_ (fun hHeld => ?_)
      · exact HhS8.out _ k51 k52 k53
      clear hK K
      try simp only [Act.put, List.setIfInBounds_toArray]
      refine wpAnyH_ready (rs := [16]) (by kernel_rfl) (by simp) ?_
      refine AllReadyH.cons rfl (fun K hK => ?_) AllReadyH.nil
      go_simp
      refine hK.out _ _ ?_ (fun hHeld => ?_)
      · exact HhS8.out _ hev6.sv.box hev6.bx hB6
      clear hK K
      try simp only [Act.put, List.setIfInBounds_toArray, List.set_cons_zero, List.set_cons_succ]
      refine wpAnyH_done (by kernel_rfl) ?_ _
      have hb63 : W6.cell? ⟨w.heap.size, 3, none⟩ = some (.slice A3 n3 c3) := hev6.bx.cell 3
      have Hev := Lib.hid hev6; clear hev6
      clear hrun6 hown5 hg5 hat5 k51 k52 k53 hB6 hl1 hl2 HhS8 Hhrow4 HhR4 HhB4 Hev4 HhG4 Hev3d HhltG Hhlk Hhev3 HhG HhB3
      go_wp2

      go_loopw [6, 63] (fun _ i wr => ∃ j : Nat, j ≤ n3 ∧ i = .int .i64 j ∧ EV L sb m1 m2 m3 m4 ((N + 1) + j) st (⟨n, no, pf1, ar, p8⟩ :: bd) (ws.take j ++ vs) no pf1 w.heap.size #[.int .i64 k, .int .i64 a, .string n, .slice A3 n3 c3, .slice A4 n4 c4, .slice A m c] w wr) (fun _ i _ => n3 - (intOf i).toNat)
      case atStart => exact ⟨0, Nat.zero_le _, rfl, by simpa using Hev.out⟩
      case round =>
        obtain ⟨j, hj, rfl, hev⟩ := hrel
        have Hej := Lib.hid hev; clear hev
        by_cases hlt : j < n3
        · obtain ⟨ad, s, rfl, hb, hs, hc, hsz⟩ := (H3.out.below Hej.out.bel.bel).at_ hlt
          obtain ⟨q, W2, hq, hlook, hput, hev2⟩ := Hej.out.var (Nat.le_trans hL Hej.out.bel.size) (Hws.out s (List.mem_of_getElem? hs)) hs hvl (by omega) (by have := HN1.out; unfold maxLen; omega)
          have c7 : wr.cell? ⟨sb, 7, none⟩ = some (.map (some m4)) := Hej.out.sv.box.cell 7
          have Hs := Lib.hid hs; clear hs
          have Hev2 := Lib.hid hev2; clear hev2
          go_wp2
          go_roundw
          case rel => exact ⟨j + 1, by omega, by go_num, Hev2.out⟩
          case measure => simp [intOf]; omega
        · obtain rfl : j = n3 := by omega
          have hfin := Hej.out
          rw [List.take_of_length_le (by rw [← Hl3.out]; exact Nat.le_refl _)] at hfin
          have Hfin := Lib.hid hfin; clear hfin
          go_wp2
          go_end0
          exact ⟨rfl, Hfin.out.bel, (N + 1) + j, by have := Hl3.out; omega, Hres.out _ _ Hfin.out.sv⟩
    · go_simp
      refine hK.out _ _ ?_ (fun hHeld => ?_)
      · exact HhS8.out _ Hev4.out.sv.box Hev4.out.bx HhB4.out
      clear hK K
      try simp only [Act.put, List.setIfInBounds_toArray, List.set_cons_zero, List.set_cons_succ]
      refine wpAnyH_ready (rs := [12]) (by kernel_rfl) (by simp) ?_
      refine AllReadyH.cons rfl (fun K hK => ?_) AllReadyH.nil
      go_simp
      refine hK.out _ _ ?_ (fun hHeld => ?_)
      · exact HhS8.out _ Hev4.out.sv.box Hev4.out.bx HhB4.out
      clear hK K
      try simp only [Act.put, List.setIfInBounds_toArray, List.set_cons_zero, List.set_cons_succ]
      refine wpAnyH_ready (rs := [15]) (by kernel_rfl) (by simp) ?_
      refine AllReadyH.cons rfl (fun K hK => ?_) AllReadyH.nil
      refine step_append_bd _ rfl _ _ rfl L _ (bdOf n bd).length _ rfl (Hv.out ▸ Hhrow4.out) W3.heap.size 1 _ _ _ _ rfl HhR4.out rfl rfl rfl rfl Hhbn.out (Nat.le_trans hLW (Nat.le_trans hsz3 (by simp))) ?_
      intro v5 w5 hown5 hg5 hat5
      obtain ⟨⟨k51, k52, k53⟩, W6, hrun6, hev6, hB6⟩ := Hev4.out.push (Nat.le_trans hLW (Nat.le_trans hsz3 (by simp))) HhG4.out (b := ⟨n, no, pf1, ar, p8⟩) hown5 (Hv.out ▸ hg5) (Hv.out ▸ hat5) hN2 hn HhB4.out HhltG.out
      obtain ⟨ZA, ZC, rfl⟩ := own_slice hown5
      refine hK.out _ _ ?_ (fun hHeld => ?_)
      · exact HhS8.out _ k51 k52 k53
      clear hK K
      try simp only [Act.put, List.setIfInBounds_toArray]
      refine wpAnyH_ready (rs := [16]) (by kernel_rfl) (by simp) ?_
      refine AllReadyH.cons rfl (fun K hK => ?_) AllReadyH.nil
      go_simp
      refine hK.out _ _ ?_ (fun hHeld => ?_)
      · exact HhS8.out _ hev6.sv.box hev6.bx hB6
      clear hK K
      try simp only [Act.put, List.setIfInBounds_toArray, List.set_cons_zero, List.set_cons_succ]
      refine wpAnyH_done (by kernel_rfl) ?_ _
      have hb63 : W6.cell? ⟨w.heap.size, 3, none⟩ = some (.slice A3 n3 c3) := hev6.bx.cell 3
      have Hev := Lib.hid hev6; clear hev6
      clear hrun6 hown5 hg5 hat5 k51 k52 k53 hB6 hl1 hl2 HhS8 Hhrow4 HhR4 HhB4 Hev4 HhG4 Hev3d HhltG Hhlk Hhev3 HhG HhB3
      go_wp2

      go_loopw [6, 63] (fun _ i wr => ∃ j : Nat, j ≤ n3 ∧ i = .int .i64 j ∧ EV L sb m1 m2 m3 m4 ((N + 1) + j) st (⟨n, no, pf1, ar, p8⟩ :: bd) (ws.take j ++ vs) no pf1 w.heap.size #[.int .i64 k, .int .i64 a, .string n, .slice A3 n3 c3, .slice A4 n4 c4, .slice A m c] w wr) (fun _ i _ => n3 - (intOf i).toNat)
      case atStart => exact ⟨0, Nat.zero_le _, rfl, by simpa using Hev.out⟩
      case round =>
        obtain ⟨j, hj, rfl, hev⟩ := hrel
        have Hej := Lib.hid hev; clear hev
        by_cases hlt : j < n3
        · obtain ⟨ad, s, rfl, hb, hs, hc, hsz⟩ := (H3.out.below Hej.out.bel.bel).at_ hlt
          obtain ⟨q, W2, hq, hlook, hput, hev2⟩ := Hej.out.var (Nat.le_trans hL Hej.out.bel.size) (Hws.out s (List.mem_of_getElem? hs)) hs hvl (by omega) (by have := HN1.out; unfold maxLen; omega)
          have c7 : wr.cell? ⟨sb, 7, none⟩ = some (.map (some m4)) := Hej.out.sv.box.cell 7
          have Hs := Lib.hid hs; clear hs
          have Hev2 := Lib.hid hev2; clear hev2
          go_wp2
          go_roundw
          case rel => exact ⟨j + 1, by omega, by go_num, Hev2.out⟩
          case measure => simp [intOf]; omega
        · obtain rfl : j = n3 := by omega
          have hfin := Hej.out
          rw [List.take_of_length_le (by rw [← Hl3.out]; exact Nat.le_refl _)] at hfin
          have Hfin := Lib.hid hfin; clear hfin
          go_wp2
          go_end0
          exact ⟨rfl, Hfin.out.bel, (N + 1) + j, by have := Hl3.out; omega, Hres.out _ _ Hfin.out.sv⟩

theorem enter_any {L sb m1 m2 m3 m4 N : Nat} {st : St ByteArray} {bd : List (Bd ByteArray)} {vs : List ByteArray} {no pf : Nat} (k a : Int) (n : ByteArray) (ws : List ByteArray) (A3 : Option Addr) (n3 c3 : Nat) (A4 : Option Addr) (n4 c4 : Nat) (A : Option Addr) (m c : Nat) (w : World) (hL : L ≤ w.heap.size) (h : Sv w L sb m1 m2 m3 m4 N st bd vs no pf)
    (h3 : Strs w (· < L) (.slice A3 n3 c3) ws) (hws : ∀ x ∈ ws, x.size ≤ maxLen) (hw24 : ws.length ≤ 24) (hvl : vs.length ≤ 10000) (hN : N ≤ 1000000) (hno : no ≤ 1000) (hpf : pf ≤ 1000) (hn : n.size ≤ maxLen) (hbl : bd.length ≤ 1000) :
    Calls Tryd.prog 51 #[.pointer (some ⟨sb, 0, none⟩), .agg #[.int .i64 k, .int .i64 a, .string n, .slice A3 n3 c3, .slice A4 n4 c4, .slice A m c]] w (EntPost L sb m1 m2 m3 m4 N st bd vs no pf k a n ws w) := by
  by_cases hk3 : k = 3
  · exact ent_not k a n ws A3 n3 c3 A4 n4 c4 A m c w hL h h3 hws hw24 hvl hN hno hpf hn hbl hk3
  · cases hkb : Fo.bindsB k
    · exact ent_plain k a n ws A3 n3 c3 A4 n4 c4 A m c w hL h h3 hws hw24 hvl hN hno hpf hn hbl hk3 hkb
    · by_cases hk9 : k = 9
      · exact ent_pfp k a n ws A3 n3 c3 A4 n4 c4 A m c w hL h h3 hws hw24 hvl hN hno hpf hn hbl hk9 hkb
      · exact ent_bind k a n ws A3 n3 c3 A4 n4 c4 A m c w hL h h3 hws hw24 hvl hN hno hpf hn hbl hk9 hkb

end Go.Proofs.YtmnpelhcgobfaaaDoor
