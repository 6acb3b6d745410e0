/-
  Texts joined: Flea, Fwalk.
-/
import Derived.Test.YtmnpelhcgobfaaaDoorJi14

/-
  Walk: survey.leave.
-/
namespace Go.Proofs.YtmnpelhcgobfaaaDoor
open Go.RowKit
open Fo (F Bd St getM updM)

/-- What leave leaves. -/
def LeaPost (L sb m1 m2 m3 m4 N : Nat) (st : St ByteArray) (bd : List (Bd ByteArray)) (vs : List ByteArray) (no pf : Nat) (ws : List ByteArray) (w : World) (e : Ending) (w' : World) : Prop :=
  e = .returned (.tuple #[]) ∧ Fr L w w' ∧ ∃ N', N' ≤ N + 1 + ws.length ∧ Sv w' L sb m1 m2 m3 m4 N' st bd vs no pf

theorem EV.unvar {L sb m1 m2 m3 m4 N : Nat} {st : St ByteArray} {bd : List (Bd ByteArray)} {vs : List ByteArray} {no pf g : Nat} {cs : Array Value} {w W : World} {ws : List ByteArray} {k : Nat} {x : ByteArray} (h : EV L sb m1 m2 m3 m4 N st bd (ws.drop k ++ vs) no pf g cs w W) (hL : L ≤ W.heap.size) (hx : x.size ≤ maxLen) (hk : ws[k]? = some x) (hvl : vs.length ≤ 10000) (hwl : ws.length ≤ 1000) (hN : N < maxLen) :
    ∃ (q : Nat) (W' : World), q ≤ 20000 ∧ (Instr.lookup 77 (.map (some m4)) (.string x) false).run Tryd.prog W = .ok (.int .i64 ((q : Int) + 1)) W ∧ (Instr.mapUpdate 77 (.map (some m4)) (.string x) (.int .i64 (q : Int))).run Tryd.prog W = .ok () W' ∧
      EV L sb m1 m2 m3 m4 (N + 1) st bd (ws.drop (k + 1) ++ vs) no pf g cs w W' := by
  obtain ⟨gf, hm, hg⟩ := h.sv.var
  have hlk := hm.look (t := 77) Tryd.underlying77 (zeroInt W) x hx false
  simp only [Bool.false_eq_true, if_false] at hlk
  have hc : cnt x (ws.drop k ++ vs) = cnt x (ws.drop (k + 1) ++ vs) + 1 := by rw [cnt_append, cnt_append, cnt_drop hk, if_pos rfl]; omega
  rw [hg x, hc] at hlk
  obtain ⟨W', h1, h2, h3⟩ := hm.put (t := 77) Tryd.underlying77 hN x hx (.int .i64 ((cnt x (ws.drop (k + 1) ++ vs) : Nat) : Int))
  have hl4 := h.sv.l4
  refine ⟨cnt x (ws.drop (k + 1) ++ vs), W', ?_, hlk, h1, h.sv.put_var ?_ h3, h.bx.grown h3 (some_ne (hm.ne_blk h.bx).symm), h.bel.map hm h3 hl4 hL⟩
  · have := cnt_le x (ws.drop (k + 1) ++ vs)
    rw [List.length_append, List.length_drop] at this
    omega
  · refine VarM.put (q := cnt x (ws.drop (k + 1) ++ vs)) hg h2 rfl (fun y hy => ?_)
    rw [cnt_append, cnt_append, cnt_drop hk, if_neg (fun e => hy e.symm)]; omega

theorem own_cap {w : World} {base size n c : Nat} {e : TypeId} {A : Option Addr} {xs : List Value} (h : w.ownsRow base e size (.slice A n c) n xs) : n ≤ c := by
  rcases h.2 with ⟨_, h0⟩ | ⟨g, cap, cur, hv, h1, h2, h3, h4, h5, h6⟩
  · omega
  · injection hv with _ _ e3; omega

set_option maxRecDepth 100000 in
set_option maxHeartbeats 2000000 in
theorem lea_plain {L sb m1 m2 m3 m4 N : Nat} {st : St ByteArray} {bd : List (Bd ByteArray)} {vs : List ByteArray} {no pf : Nat} (k a : Int) (n : ByteArray) (ws : List ByteArray) (A3 : Option Addr) (n3 c3 : Nat) (A4 : Option Addr) (n4 c4 : Nat) (A : Option Addr) (m c : Nat) (w : World) (hL : L ≤ w.heap.size)
    (h : Sv w L sb m1 m2 m3 m4 N st (Fo.enterBd k a n ws no pf bd) (ws ++ vs) (Fo.notsN k no) (Fo.pfpsN k pf)) (h3 : Strs w (· < L) (.slice A3 n3 c3) ws) (hws : ∀ x ∈ ws, x.size ≤ maxLen) (hw24 : ws.length ≤ 24) (hvl : vs.length ≤ 10000) (hN : N ≤ 1000000) (_hno : no ≤ 1000) (_hpf : pf ≤ 1000) (_hn : n.size ≤ maxLen) (_hbl : bd.length ≤ 1000) (hk3 : k ≠ 3) (hkb : Fo.bindsB k = false) :
    Calls Tryd.prog 52 #[.pointer (some ⟨sb, 0, none⟩), .agg #[.int .i64 k, .int .i64 a, .string n, .slice A3 n3 c3, .slice A4 n4 c4, .slice A m c]] w (LeaPost L sb m1 m2 m3 m4 N st bd vs no pf ws w) := by
  have hl3 := h3.length
  have hl0 := h.l0
  have hlt0 := h.box.lt
  have hmax3 : n3 ≤ 24 := by omega
  have hk9 : k ≠ 9 := by intro e; rw [e] at hkb; exact absurd hkb (by decide)
  rw [show Fo.enterBd k a n ws no pf bd = bd by unfold Fo.enterBd; rw [hkb]; rfl, show Fo.notsN k no = no from if_neg hk3, show Fo.pfpsN k pf = pf from if_neg hk9] at h
  have t3 : (k == 3) = false := by simpa using hk3
  have t9 : (k == 9) = false := by simpa using hk9
  have Hk3 := Lib.hid hk3; clear hk3
  have Hk9 := Lib.hid hk9; clear hk9
  have Hkb := Lib.hid hkb; clear hkb
  have hev1 : EV L sb m1 m2 m3 m4 N st bd (ws ++ vs) no pf w.heap.size #[.int .i64 k, .int .i64 a, .string n, .slice A3 n3 c3, .slice A4 n4 c4, .slice A m c] w (w.alloc (.cells #[.int .i64 k, .int .i64 a, .string n, .slice A3 n3 c3, .slice A4 n4 c4, .slice A m c] 31)) := ⟨h.alloc _, Blk.new w _ _, ((Fr.refl _ _).alloc hL _)⟩
  have Hl3 := Lib.hid hl3; clear hl3
  have H3 := Lib.hid h3; clear h3
  have Hws := Lib.hid hws; clear hws
  have HN1 := Lib.hid (show N ≤ 1000000 from hN)
  clear h
  have Hev := Lib.hid hev1; clear hev1
  go_enter Tryd.func52, Tryd.ntmps52
  go_wp2_with (go_at_call 33; refine (fbinds_any _ _).mono ?_; rw [Hkb.out]; rintro e w' ⟨rfl, rfl⟩)

  go_loopw [6, 55] (fun _ i wr => ∃ j : Nat, j ≤ n3 ∧ i = .int .i64 j ∧ EV L sb m1 m2 m3 m4 (N + j) st bd (ws.drop j ++ vs) no pf w.heap.size #[.int .i64 k, .int .i64 a, .string n, .slice A3 n3 c3, .slice A4 n4 c4, .slice A m c] w wr) (fun _ i _ => n3 - (intOf i).toNat)
  case atStart => exact ⟨0, Nat.zero_le _, rfl, by simpa using Hev.out⟩
  case round =>
    obtain ⟨j, hj, rfl, hev⟩ := hrel
    have Hej := Lib.hid hev; clear hev
    by_cases hlt : j < n3
    · obtain ⟨ad, s, rfl, hb, hs, hc, hsz⟩ := (H3.out.below Hej.out.bel.bel).at_ hlt
      obtain ⟨q, W2, hq, hlook, hput, hev2⟩ := Hej.out.unvar (Nat.le_trans hL Hej.out.bel.size) (Hws.out s (List.mem_of_getElem? hs)) hs hvl (by omega) (by have := HN1.out; unfold maxLen; omega)
      have c7 : wr.cell? ⟨sb, 7, none⟩ = some (.map (some m4)) := Hej.out.sv.box.cell 7
      have Hs := Lib.hid hs; clear hs
      have Hev2 := Lib.hid hev2; clear hev2
      go_wp2
      go_roundw
      case rel => exact ⟨j + 1, by omega, by go_num, Hev2.out⟩
      case measure => simp [intOf]; omega
    · obtain rfl : j = n3 := by omega
      have hfin := Hej.out
      rw [List.drop_of_length_le (by rw [← Hl3.out]; exact Nat.le_refl _), List.nil_append] at hfin
      have Hfin := Lib.hid hfin; clear hfin
      go_wp2
      go_end0
      exact ⟨rfl, Hfin.out.bel, N + j, by have := Hl3.out; omega, Hfin.out.sv⟩

set_option maxRecDepth 100000 in
set_option maxHeartbeats 2000000 in
theorem lea_not {L sb m1 m2 m3 m4 N : Nat} {st : St ByteArray} {bd : List (Bd ByteArray)} {vs : List ByteArray} {no pf : Nat} (k a : Int) (n : ByteArray) (ws : List ByteArray) (A3 : Option Addr) (n3 c3 : Nat) (A4 : Option Addr) (n4 c4 : Nat) (A : Option Addr) (m c : Nat) (w : World) (hL : L ≤ w.heap.size)
    (h : Sv w L sb m1 m2 m3 m4 N st (Fo.enterBd k a n ws no pf bd) (ws ++ vs) (Fo.notsN k no) (Fo.pfpsN k pf)) (h3 : Strs w (· < L) (.slice A3 n3 c3) ws) (hws : ∀ x ∈ ws, x.size ≤ maxLen) (hw24 : ws.length ≤ 24) (hvl : vs.length ≤ 10000) (hN : N ≤ 1000000) (hno : no ≤ 1000) (_hpf : pf ≤ 1000) (_hn : n.size ≤ maxLen) (_hbl : bd.length ≤ 1000) (hk3 : k = 3) :
    Calls Tryd.prog 52 #[.pointer (some ⟨sb, 0, none⟩), .agg #[.int .i64 k, .int .i64 a, .string n, .slice A3 n3 c3, .slice A4 n4 c4, .slice A m c]] w (LeaPost L sb m1 m2 m3 m4 N st bd vs no pf ws w) := by
  have hl3 := h3.length
  have hl0 := h.l0
  have hlt0 := h.box.lt
  have hmax3 : n3 ≤ 24 := by omega
  have hkb : Fo.bindsB k = false := by rw [hk3]; rfl
  have hk9 : k ≠ 9 := by omega
  rw [show Fo.enterBd k a n ws no pf bd = bd by unfold Fo.enterBd; rw [hkb]; rfl, show Fo.notsN k no = no + 1 from if_pos hk3, show Fo.pfpsN k pf = pf from if_neg hk9] at h
  have t3 : (k == 3) = true := by simpa using hk3
  have Hk3 := Lib.hid hk3; clear hk3
  have Hk9 := Lib.hid hk9; clear hk9
  have Hkb := Lib.hid hkb; clear hkb
  have x4 : w.cell? ⟨sb, 4, none⟩ = some (.int .i64 ((no : Int) + 1)) := h.box.cell 4
  have f4 := h.box.frozen 4
  have hev1 : EV L sb m1 m2 m3 m4 N st bd (ws ++ vs) no pf w.heap.size #[.int .i64 k, .int .i64 a, .string n, .slice A3 n3 c3, .slice A4 n4 c4, .slice A m c] w ((w.setCell ⟨sb, 4, none⟩ (.int .i64 (no : Int))).alloc (.cells #[.int .i64 k, .int .i64 a, .string n, .slice A3 n3 c3, .slice A4 n4 c4, .slice A m c] 31)) :=
    ⟨(h.set_nots rfl).alloc _, by simpa using Blk.new (w.setCell ⟨sb, 4, none⟩ (.int .i64 (no : Int))) 31 #[.int .i64 k, .int .i64 a, .string n, .slice A3 n3 c3, .slice A4 n4 c4, .slice A m c], ((Fr.refl L w).set h.box hl0 4 _).alloc (by simpa using hL) _⟩
  have Hl3 := Lib.hid hl3; clear hl3
  have H3 := Lib.hid h3; clear h3
  have Hws := Lib.hid hws; clear hws
  have HN1 := Lib.hid (show N ≤ 1000000 from hN)
  clear h
  have hb13 : ((w.setCell ⟨sb, 4, none⟩ (.int .i64 (no : Int))).alloc (.cells #[.int .i64 k, .int .i64 a, .string n, .slice A3 n3 c3, .slice A4 n4 c4, .slice A m c] 31)).cell? ⟨w.heap.size, 3, none⟩ = some (.slice A3 n3 c3) := hev1.bx.cell 3
  go_enter Tryd.func52, Tryd.ntmps52
  go_wp2_with (go_at_call 33; refine (fbinds_any _ _).mono ?_; rw [Hkb.out]; rintro e w' ⟨rfl, rfl⟩)
  generalize ((w.setCell ⟨sb, 4, none⟩ (.int .i64 (no : Int))).alloc (.cells #[.int .i64 k, .int .i64 a, .string n, .slice A3 n3 c3, .slice A4 n4 c4, .slice A m c] 31)) = W1 at *
  have Hev := Lib.hid hev1; clear hev1

  go_loopw [6, 55] (fun _ i wr => ∃ j : Nat, j ≤ n3 ∧ i = .int .i64 j ∧ EV L sb m1 m2 m3 m4 (N + j) st bd (ws.drop j ++ vs) no pf w.heap.size #[.int .i64 k, .int .i64 a, .string n, .slice A3 n3 c3, .slice A4 n4 c4, .slice A m c] w wr) (fun _ i _ => n3 - (intOf i).toNat)
  case atStart => exact ⟨0, Nat.zero_le _, rfl, by simpa using Hev.out⟩
  case round =>
    obtain ⟨j, hj, rfl, hev⟩ := hrel
    have Hej := Lib.hid hev; clear hev
    by_cases hlt : j < n3
    · obtain ⟨ad, s, rfl, hb, hs, hc, hsz⟩ := (H3.out.below Hej.out.bel.bel).at_ hlt
      obtain ⟨q, W2, hq, hlook, hput, hev2⟩ := Hej.out.unvar (Nat.le_trans hL Hej.out.bel.size) (Hws.out s (List.mem_of_getElem? hs)) hs hvl (by omega) (by have := HN1.out; unfold maxLen; omega)
      have c7 : wr.cell? ⟨sb, 7, none⟩ = some (.map (some m4)) := Hej.out.sv.box.cell 7
      have Hs := Lib.hid hs; clear hs
      have Hev2 := Lib.hid hev2; clear hev2
      go_wp2
      go_roundw
      case rel => exact ⟨j + 1, by omega, by go_num, Hev2.out⟩
      case measure => simp [intOf]; omega
    · obtain rfl : j = n3 := by omega
      have hfin := Hej.out
      rw [List.drop_of_length_le (by rw [← Hl3.out]; exact Nat.le_refl _), List.nil_append] at hfin
      have Hfin := Lib.hid hfin; clear hfin
      go_wp2
      go_end0
      exact ⟨rfl, Hfin.out.bel, N + j, by have := Hl3.out; omega, Hfin.out.sv⟩

set_option maxRecDepth 100000 in
set_option maxHeartbeats 2000000 in
theorem lea_bind {L sb m1 m2 m3 m4 N : Nat} {st : St ByteArray} {bd : List (Bd ByteArray)} {vs : List ByteArray} {no pf : Nat} (k a : Int) (n : ByteArray) (ws : List ByteArray) (A3 : Option Addr) (n3 c3 : Nat) (A4 : Option Addr) (n4 c4 : Nat) (A : Option Addr) (m c : Nat) (w : World) (hL : L ≤ w.heap.size)
    (h : Sv w L sb m1 m2 m3 m4 N st (Fo.enterBd k a n ws no pf bd) (ws ++ vs) (Fo.notsN k no) (Fo.pfpsN k pf)) (h3 : Strs w (· < L) (.slice A3 n3 c3) ws) (hws : ∀ x ∈ ws, x.size ≤ maxLen) (hw24 : ws.length ≤ 24) (hvl : vs.length ≤ 10000) (hN : N ≤ 1000000) (_hno : no ≤ 1000) (_hpf : pf ≤ 1000) (hn : n.size ≤ maxLen) (hbl : bd.length ≤ 1000) (hk9 : k ≠ 9) (hkb : Fo.bindsB k = true) :
    Calls Tryd.prog 52 #[.pointer (some ⟨sb, 0, none⟩), .agg #[.int .i64 k, .int .i64 a, .string n, .slice A3 n3 c3, .slice A4 n4 c4, .slice A m c]] w (LeaPost L sb m1 m2 m3 m4 N st bd vs no pf ws w) := by
  have hl3 := h3.length
  have hl0 := h.l0
  have hlt0 := h.box.lt
  have hmax3 : n3 ≤ 24 := by omega
  have hk3 : k ≠ 3 := by intro e; rw [e] at hkb; exact absurd hkb (by decide)
  obtain ⟨b, hb, hbd⟩ : ∃ b : Bd ByteArray, Fo.enterBd k a n ws no pf bd = b :: bd ∧ b.name = n := by unfold Fo.enterBd; rw [hkb]; exact ⟨_, rfl, rfl⟩
  rw [hb, show Fo.notsN k no = no from if_neg hk3, show Fo.pfpsN k pf = pf from if_neg hk9] at h
  clear hb
  have t3 : (k == 3) = false := by simpa using hk3
  have t9 : (k == 9) = false := by simpa using hk9
  have Hk3 := Lib.hid hk3; clear hk3
  have Hk9 := Lib.hid hk9; clear hk9
  have Hkb := Lib.hid hkb; clear hkb
  have hev1 : EV L sb m1 m2 m3 m4 N st (b :: bd) (ws ++ vs) no pf w.heap.size #[.int .i64 k, .int .i64 a, .string n, .slice A3 n3 c3, .slice A4 n4 c4, .slice A m c] w (w.alloc (.cells #[.int .i64 k, .int .i64 a, .string n, .slice A3 n3 c3, .slice A4 n4 c4, .slice A m c] 31)) := ⟨h.alloc _, Blk.new w _ _, ((Fr.refl _ _).alloc hL _)⟩
  have Hl3 := Lib.hid hl3; clear hl3
  have H3 := Lib.hid h3; clear h3
  have Hws := Lib.hid hws; clear hws
  have HN1 := Lib.hid (show N ≤ 1000000 from hN)
  clear h
  go_enter Tryd.func52, Tryd.ntmps52
  go_upto_region 7 with (go_at_call 33; refine (fbinds_any _ _).mono ?_; rw [Hkb.out]; rintro e w' ⟨rfl, rfl⟩)
  generalize (w.alloc (.cells #[.int .i64 k, .int .i64 a, .string n, .slice A3 n3 c3, .slice A4 n4 c4, .slice A m c] 31)) = W1 at *
  have hLW := Nat.le_trans hL hev1.bel.size
  obtain ⟨G, hG⟩ := hev1.sv.bnd.some_
  have hrow := hG.row n
  rw [bdOf_cons_same hbd, List.length_cons] at hrow
  have hqb : (bdOf n bd).length ≤ 1000 := Nat.le_trans (List.length_filter_le _ _) hbl
  obtain ⟨v, hv⟩ : ∃ v, v = lookG G (.slice none 0 0) n := ⟨_, rfl⟩
  have hl1 : (Instr.lookup 76 (.map (some m3)) (.string n) false).run Tryd.prog W1.drew = .ok v W1.drew := by
    rw [hv]
    have := (hG.1.drewN 1).look (t := 76) Tryd.underlying76 (zeroStk _) n hn false
    simp only [Bool.false_eq_true, if_false] at this
    exact this
  rw [← hv] at hrow
  obtain ⟨VA, VC, hvs⟩ := own_slice hrow
  rw [hvs] at hl1 hrow hv
  clear hvs v
  have hcap := own_cap hrow
  have hmp := fun (W2 : World) (hW : MapV W2 m3 N G) => hW.put (t := 76) Tryd.underlying76 (by unfold maxLen; omega) n hn (.slice VA (bdOf n bd).length VC)
  have Hmp := Lib.hid hmp; clear hmp
  have hpop : ∀ W2 W3, BndG W2 L m3 N (b :: bd) G → MapV W3 m3 (N + 1) (putG G n (.slice VA (bdOf n bd).length VC)) → W2.grownBy W3 (some m3) → Bnd W3 L m3 (N + 1) bd := fun W2 W3 h1 h2 h3 => by
    subst hbd; exact (h1.pop hv.symm h2 h3).bnd
  have Hpop := Lib.hid hpop; clear hpop
  have Hv := Lib.hid hv; clear hv
  have Hbd := Lib.hid hbd; clear hbd
  clear hrow
  generalize (bdOf n bd).length = q at *
  have g6 : W1.drew.cell? ⟨sb, 6, none⟩ = some (.map (some m3)) := hev1.sv.box.cell 6
  have b2 : W1.drew.cell? ⟨w.heap.size, 2, none⟩ = some (.string n) := hev1.bx.cell 2
  have hwq : IntKind.i64.wrap (q : Int) = (q : Int) := IntWalk.i64_in _ (by omega)
  have hqc : (q : Int) ≤ (VC : Int) := by omega
  have hq0 : 0 ≤ (q : Int) := by omega
  have HG := Lib.hid hG; clear hG
  have Hev1 := Lib.hid hev1; clear hev1
  refine wp_region_held_drew (S := fun W => W.cell? ⟨sb, 6, none⟩ = some (.map (some m3)) ∧ W.cell? ⟨w.heap.size, 2, none⟩ = some (.string n) ∧ (Instr.lookup 76 (.map (some m3)) (.string n) false).run Tryd.prog W = .ok (.slice VA (q + 1) VC) W) (by kernel_rfl) (⟨g6, b2, hl1⟩) (fun hHeld => ?_)
  refine takeL (i := 0) (v := ?_) rfl (by kernel_rfl) (by kernel_rfl) (by kernel_rfl) (fun _ _ _ h => h) (Or.inl ⟨by kernel_rfl, ?_⟩) (by assumption) ?_
  rotate_left
  · (intro w' hSw; (try dsimp only at hSw); go_simp; (try with_reducible rfl))
  try simp only [Act.put, List.setIfInBounds_toArray, List.set_cons_zero, List.set_cons_succ]
  refine takeL (i := 1) (v := ?_) rfl (by kernel_rfl) (by kernel_rfl) (by kernel_rfl) (fun _ _ _ h => h) (Or.inl ⟨by kernel_rfl, ?_⟩) (by assumption) ?_
  rotate_left
  · (intro w' hSw; (try dsimp only at hSw); go_simp; (try with_reducible rfl))
  try simp only [Act.put, List.setIfInBounds_toArray, List.set_cons_zero, List.set_cons_succ]
  refine takeL (i := 2) (v := ?_) rfl (by kernel_rfl) (by kernel_rfl) (by kernel_rfl) (fun _ _ _ h => h) (Or.inl ⟨by kernel_rfl, ?_⟩) (by assumption) ?_
  rotate_left
  · (intro w' hSw; (try dsimp only at hSw); go_simp; (try with_reducible rfl))
  try simp only [Act.put, List.setIfInBounds_toArray, List.set_cons_zero, List.set_cons_succ]
  refine takeL (i := 3) (v := ?_) rfl (by kernel_rfl) (by kernel_rfl) (by kernel_rfl) (fun _ _ _ h => h) (Or.inl ⟨by kernel_rfl, ?_⟩) (by assumption) ?_
  rotate_left
  · (intro w' hSw; (try dsimp only at hSw); go_simp; (try with_reducible rfl))
  try simp only [Act.put, List.setIfInBounds_toArray, List.set_cons_zero, List.set_cons_succ]
  refine takeL (i := 4) (v := ?_) rfl (by kernel_rfl) (by kernel_rfl) (by kernel_rfl) (fun _ _ _ h => h) (Or.inl ⟨by kernel_rfl, ?_⟩) (by assumption) ?_
  rotate_left
  · (intro w' hSw; (try dsimp only at hSw); go_simp; (try with_reducible rfl))
  try simp only [Act.put, List.setIfInBounds_toArray, List.set_cons_zero, List.set_cons_succ]
  refine takeL (i := 5) (v := ?_) rfl (by kernel_rfl) (by kernel_rfl) (by kernel_rfl) (fun _ _ _ h => h) (Or.inl ⟨by kernel_rfl, ?_⟩) (by assumption) ?_
  rotate_left
  · (intro w' hSw; (try dsimp only at hSw); go_simp; (try with_reducible rfl))
  try simp only [Act.put, List.setIfInBounds_toArray, List.set_cons_zero, List.set_cons_succ]
  refine takeL (i := 6) (v := ?_) rfl (by kernel_rfl) (by kernel_rfl) (by kernel_rfl) (fun _ _ _ h => h) (Or.inl ⟨by kernel_rfl, ?_⟩) (by assumption) ?_
  rotate_left
  · (intro w' hSw; (try dsimp only at hSw); go_simp; (try with_reducible rfl))
  try simp only [Act.put, List.setIfInBounds_toArray, List.set_cons_zero, List.set_cons_succ]
  refine takeL (i := 7) (v := ?_) rfl (by kernel_rfl) (by kernel_rfl) (by kernel_rfl) (fun _ _ _ h => h) (Or.inl ⟨by kernel_rfl, ?_⟩) (by assumption) ?_
  rotate_left
  · (intro w' hSw; (try dsimp only at hSw); go_simp; (try with_reducible rfl))
  try simp only [Act.put, List.setIfInBounds_toArray, List.set_cons_zero, List.set_cons_succ]
  refine wpAnyH_done (by kernel_rfl) ?_ _
  go_upto_region 8 with fail
  refine wp_region_held_drew (S := fun W => W.cell? ⟨sb, 6, none⟩ = some (.map (some m3)) ∧ W.cell? ⟨w.heap.size, 2, none⟩ = some (.string n)) (by kernel_rfl) (⟨g6, b2⟩) (fun hHeld => ?_)
  refine takeL (i := 0) (v := ?_) rfl (by kernel_rfl) (by kernel_rfl) (by kernel_rfl) (fun _ _ _ h => h) (Or.inl ⟨by kernel_rfl, ?_⟩) (by assumption) ?_
  rotate_left
  · (intro w' hSw; (try dsimp only at hSw); go_simp; (try with_reducible rfl))
  try simp only [Act.put, List.setIfInBounds_toArray, List.set_cons_zero, List.set_cons_succ]
  refine takeL (i := 1) (v := ?_) rfl (by kernel_rfl) (by kernel_rfl) (by kernel_rfl) (fun _ _ _ h => h) (Or.inl ⟨by kernel_rfl, ?_⟩) (by assumption) ?_
  rotate_left
  · (intro w' hSw; (try dsimp only at hSw); go_simp; (try with_reducible rfl))
  try simp only [Act.put, List.setIfInBounds_toArray, List.set_cons_zero, List.set_cons_succ]
  refine takeL (i := 2) (v := ?_) rfl (by kernel_rfl) (by kernel_rfl) (by kernel_rfl) (fun _ _ _ h => h) (Or.inl ⟨by kernel_rfl, ?_⟩) (by assumption) ?_
  rotate_left
  · (intro w' hSw; (try dsimp only at hSw); go_simp; (try with_reducible rfl))
  try simp only [Act.put, List.setIfInBounds_toArray, List.set_cons_zero, List.set_cons_succ]
  refine takeL (i := 3) (v := ?_) rfl (by kernel_rfl) (by kernel_rfl) (by kernel_rfl) (fun _ _ _ h => h) (Or.inl ⟨by kernel_rfl, ?_⟩) (by assumption) ?_
  rotate_left
  · (intro w' hSw; (try dsimp only at hSw); go_simp; (try with_reducible rfl))
  try simp only [Act.put, List.setIfInBounds_toArray, List.set_cons_zero, List.set_cons_succ]
  refine takeL (i := 4) (v := ?_) rfl (by kernel_rfl) (by kernel_rfl) (by kernel_rfl) (fun _ _ _ h => h) (Or.inl ⟨by kernel_rfl, ?_⟩) (by assumption) ?_
  rotate_left
  · (intro w' hSw; (try dsimp only at hSw); go_simp; (try with_reducible rfl))
  try simp only [Act.put, List.setIfInBounds_toArray, List.set_cons_zero, List.set_cons_succ]
  refine takeL (i := 5) (v := ?_) rfl (by kernel_rfl) (by kernel_rfl) (by kernel_rfl) (fun _ _ _ h => h) (Or.inl ⟨by kernel_rfl, ?_⟩) (by assumption) ?_
  rotate_left
  · (intro w' hSw; (try dsimp only at hSw); go_simp; (try with_reducible rfl))
  try simp only [Act.put, List.setIfInBounds_toArray, List.set_cons_zero, List.set_cons_succ]
  refine takeL (i := 6) (v := ?_) rfl (by kernel_rfl) (by kernel_rfl) (by kernel_rfl) (fun _ _ _ h => h) (Or.inl ⟨by kernel_rfl, ?_⟩) (by assumption) ?_
  rotate_left
  · (intro w' hSw; (try dsimp only at hSw); go_simp; (try with_reducible rfl))
  try simp only [Act.put, List.setIfInBounds_toArray, List.set_cons_zero, List.set_cons_succ]
  refine takeL (i := 7) (v := ?_) rfl (by kernel_rfl) (by kernel_rfl) (by kernel_rfl) (fun _ _ _ h => h) (Or.inl ⟨by kernel_rfl, ?_⟩) (by assumption) ?_
  rotate_left
  · (intro w' hSw; (try dsimp only at hSw); go_simp; (try with_reducible rfl))
  try simp only [Act.put, List.setIfInBounds_toArray, List.set_cons_zero, List.set_cons_succ]
  refine takeL (i := 8) (v := ?_) rfl (by kernel_rfl) (by kernel_rfl) (by kernel_rfl) (fun _ _ _ h => h) (Or.inl ⟨by kernel_rfl, ?_⟩) (by assumption) ?_
  rotate_left
  · (intro w' hSw; (try dsimp only at hSw); go_simp; (try with_reducible rfl))
  try simp only [Act.put, List.setIfInBounds_toArray, List.set_cons_zero, List.set_cons_succ]
  refine takeL (i := 9) (v := .int .i64 (q : Int)) rfl (by kernel_rfl) (by kernel_rfl) (by kernel_rfl) (fun _ _ _ h => h) (Or.inl ⟨by kernel_rfl, ?_⟩) (by assumption) ?_
  · (intro w' hSw; (try dsimp only at hSw); go_simp)
  try simp only [Act.put, List.setIfInBounds_toArray, List.set_cons_zero, List.set_cons_succ]
  refine takeL (i := 10) (v := .slice VA q VC) rfl (by kernel_rfl) (by kernel_rfl) (by kernel_rfl) (fun _ _ _ h => h) (Or.inl ⟨by kernel_rfl, ?_⟩) (by assumption) ?_
  · (intro w' hSw; (try dsimp only at hSw); go_simp)
  try simp only [Act.put, List.setIfInBounds_toArray, List.set_cons_zero, List.set_cons_succ]
  refine wpAnyH_ready (rs := [11]) (by kernel_rfl) (by simp) ?_
  refine AllReadyH.cons rfl (fun K hK => ?_) AllReadyH.nil
  have ev2 := Hev1.out.below hLW (below_drewN (Below.refl W1.heap.size W1) 2)
  have hG2 := BndG.kept HG.out (grown_of_below (below_drewN (Below.refl W1.heap.size W1) 2)) (by simp) (by simp)
  obtain ⟨W3, hrun, hm3, hg3⟩ := Hmp.out W1.drew.drew hG2.1
  have hbn := Hpop.out _ _ hG2 hm3 hg3
  have hl33 := ev2.sv.l3
  have ev3 : EV L sb m1 m2 m3 m4 (N + 1) st bd (ws ++ vs) no pf w.heap.size #[.int .i64 k, .int .i64 a, .string n, .slice A3 n3 c3, .slice A4 n4 c4, .slice A m c] w W3 :=
    ⟨ev2.sv.put_bnd hbn (grown_of_below (Below.refl _ _)) (fun k e => by cases e) hg3, ev2.bx.grown hg3 (some_ne (hm3.ne_blk (ev2.bx.grown hg3 (some_ne (hG2.1.ne_blk ev2.bx).symm))).symm), ev2.bel.map hG2.1 hg3 hl33 hLW⟩
  clear hbn hm3 hg3 hG2 ev2
  go_simp
  refine hK.out _ _ ?_ (fun hHeld => ?_)
  · exact ⟨ev3.sv.box.cell 6, ev3.bx.cell 2⟩
  clear hK K
  try simp only [Act.put, List.setIfInBounds_toArray, List.set_cons_zero, List.set_cons_succ]
  refine wpAnyH_done (by kernel_rfl) ?_ _
  have hb63 : W3.cell? ⟨w.heap.size, 3, none⟩ = some (.slice A3 n3 c3) := ev3.bx.cell 3
  have Hev := Lib.hid ev3; clear ev3
  clear hrun g6 b2 hl1 hwq hqc hq0 Hmp Hpop HG Hev1
  go_wp2

  go_loopw [6, 55] (fun _ i wr => ∃ j : Nat, j ≤ n3 ∧ i = .int .i64 j ∧ EV L sb m1 m2 m3 m4 ((N + 1) + j) st bd (ws.drop j ++ vs) no pf w.heap.size #[.int .i64 k, .int .i64 a, .string n, .slice A3 n3 c3, .slice A4 n4 c4, .slice A m c] w wr) (fun _ i _ => n3 - (intOf i).toNat)
  case atStart => exact ⟨0, Nat.zero_le _, rfl, by simpa using Hev.out⟩
  case round =>
    obtain ⟨j, hj, rfl, hev⟩ := hrel
    have Hej := Lib.hid hev; clear hev
    by_cases hlt : j < n3
    · obtain ⟨ad, s, rfl, hb, hs, hc, hsz⟩ := (H3.out.below Hej.out.bel.bel).at_ hlt
      obtain ⟨q, W2, hq, hlook, hput, hev2⟩ := Hej.out.unvar (Nat.le_trans hL Hej.out.bel.size) (Hws.out s (List.mem_of_getElem? hs)) hs hvl (by omega) (by have := HN1.out; unfold maxLen; omega)
      have c7 : wr.cell? ⟨sb, 7, none⟩ = some (.map (some m4)) := Hej.out.sv.box.cell 7
      have Hs := Lib.hid hs; clear hs
      have Hev2 := Lib.hid hev2; clear hev2
      go_wp2
      go_roundw
      case rel => exact ⟨j + 1, by omega, by go_num, Hev2.out⟩
      case measure => simp [intOf]; omega
    · obtain rfl : j = n3 := by omega
      have hfin := Hej.out
      rw [List.drop_of_length_le (by rw [← Hl3.out]; exact Nat.le_refl _), List.nil_append] at hfin
      have Hfin := Lib.hid hfin; clear hfin
      go_wp2
      go_end0
      exact ⟨rfl, Hfin.out.bel, (N + 1) + j, by have := Hl3.out; omega, Hfin.out.sv⟩

set_option maxRecDepth 100000 in
set_option maxHeartbeats 2000000 in
theorem lea_pfp {L sb m1 m2 m3 m4 N : Nat} {st : St ByteArray} {bd : List (Bd ByteArray)} {vs : List ByteArray} {no pf : Nat} (k a : Int) (n : ByteArray) (ws : List ByteArray) (A3 : Option Addr) (n3 c3 : Nat) (A4 : Option Addr) (n4 c4 : Nat) (A : Option Addr) (m c : Nat) (w : World) (hL : L ≤ w.heap.size)
    (h : Sv w L sb m1 m2 m3 m4 N st (Fo.enterBd k a n ws no pf bd) (ws ++ vs) (Fo.notsN k no) (Fo.pfpsN k pf)) (h3 : Strs w (· < L) (.slice A3 n3 c3) ws) (hws : ∀ x ∈ ws, x.size ≤ maxLen) (hw24 : ws.length ≤ 24) (hvl : vs.length ≤ 10000) (hN : N ≤ 1000000) (_hno : no ≤ 1000) (hpf : pf ≤ 1000) (hn : n.size ≤ maxLen) (hbl : bd.length ≤ 1000) (hk9 : k = 9) (hkb : Fo.bindsB k = true) :
    Calls Tryd.prog 52 #[.pointer (some ⟨sb, 0, none⟩), .agg #[.int .i64 k, .int .i64 a, .string n, .slice A3 n3 c3, .slice A4 n4 c4, .slice A m c]] w (LeaPost L sb m1 m2 m3 m4 N st bd vs no pf ws w) := by
  have hl3 := h3.length
  have hl0 := h.l0
  have hlt0 := h.box.lt
  have hmax3 : n3 ≤ 24 := by omega
  have hk3 : k ≠ 3 := by intro e; rw [e] at hkb; exact absurd hkb (by decide)
  obtain ⟨b, hb, hbd⟩ : ∃ b : Bd ByteArray, Fo.enterBd k a n ws no pf bd = b :: bd ∧ b.name = n := by unfold Fo.enterBd; rw [hkb]; exact ⟨_, rfl, rfl⟩
  rw [hb, show Fo.notsN k no = no from if_neg hk3, show Fo.pfpsN k pf = pf + 1 from if_pos hk9] at h
  clear hb
  have t3 : (k == 3) = false := by simpa using hk3
  have t9 : (k == 9) = true := by simpa using hk9
  have Hk3 := Lib.hid hk3; clear hk3
  have Hk9 := Lib.hid hk9; clear hk9
  have Hkb := Lib.hid hkb; clear hkb
  have x5 : w.cell? ⟨sb, 5, none⟩ = some (.int .i64 ((pf : Int) + 1)) := h.box.cell 5
  have f5 := h.box.frozen 5
  have hev1 : EV L sb m1 m2 m3 m4 N st (b :: bd) (ws ++ vs) no pf w.heap.size #[.int .i64 k, .int .i64 a, .string n, .slice A3 n3 c3, .slice A4 n4 c4, .slice A m c] w ((w.setCell ⟨sb, 5, none⟩ (.int .i64 (pf : Int))).alloc (.cells #[.int .i64 k, .int .i64 a, .string n, .slice A3 n3 c3, .slice A4 n4 c4, .slice A m c] 31)) :=
    ⟨(h.set_pfps rfl).alloc _, by simpa using Blk.new (w.setCell ⟨sb, 5, none⟩ (.int .i64 (pf : Int))) 31 #[.int .i64 k, .int .i64 a, .string n, .slice A3 n3 c3, .slice A4 n4 c4, .slice A m c], ((Fr.refl L w).set h.box hl0 5 _).alloc (by simpa using hL) _⟩
  have Hl3 := Lib.hid hl3; clear hl3
  have H3 := Lib.hid h3; clear h3
  have Hws := Lib.hid hws; clear hws
  have HN1 := Lib.hid (show N ≤ 1000000 from hN)
  clear h
  go_enter Tryd.func52, Tryd.ntmps52
  go_upto_region 7 with (go_at_call 33; refine (fbinds_any _ _).mono ?_; rw [Hkb.out]; rintro e w' ⟨rfl, rfl⟩)
  generalize ((w.setCell ⟨sb, 5, none⟩ (.int .i64 (pf : Int))).alloc (.cells #[.int .i64 k, .int .i64 a, .string n, .slice A3 n3 c3, .slice A4 n4 c4, .slice A m c] 31)) = W1 at *
  have hLW := Nat.le_trans hL hev1.bel.size
  obtain ⟨G, hG⟩ := hev1.sv.bnd.some_
  have hrow := hG.row n
  rw [bdOf_cons_same hbd, List.length_cons] at hrow
  have hqb : (bdOf n bd).length ≤ 1000 := Nat.le_trans (List.length_filter_le _ _) hbl
  obtain ⟨v, hv⟩ : ∃ v, v = lookG G (.slice none 0 0) n := ⟨_, rfl⟩
  have hl1 : (Instr.lookup 76 (.map (some m3)) (.string n) false).run Tryd.prog W1.drew = .ok v W1.drew := by
    rw [hv]
    have := (hG.1.drewN 1).look (t := 76) Tryd.underlying76 (zeroStk _) n hn false
    simp only [Bool.false_eq_true, if_false] at this
    exact this
  rw [← hv] at hrow
  obtain ⟨VA, VC, hvs⟩ := own_slice hrow
  rw [hvs] at hl1 hrow hv
  clear hvs v
  have hcap := own_cap hrow
  have hmp := fun (W2 : World) (hW : MapV W2 m3 N G) => hW.put (t := 76) Tryd.underlying76 (by unfold maxLen; omega) n hn (.slice VA (bdOf n bd).length VC)
  have Hmp := Lib.hid hmp; clear hmp
  have hpop : ∀ W2 W3, BndG W2 L m3 N (b :: bd) G → MapV W3 m3 (N + 1) (putG G n (.slice VA (bdOf n bd).length VC)) → W2.grownBy W3 (some m3) → Bnd W3 L m3 (N + 1) bd := fun W2 W3 h1 h2 h3 => by
    subst hbd; exact (h1.pop hv.symm h2 h3).bnd
  have Hpop := Lib.hid hpop; clear hpop
  have Hv := Lib.hid hv; clear hv
  have Hbd := Lib.hid hbd; clear hbd
  clear hrow
  generalize (bdOf n bd).length = q at *
  have g6 : W1.drew.cell? ⟨sb, 6, none⟩ = some (.map (some m3)) := hev1.sv.box.cell 6
  have b2 : W1.drew.cell? ⟨w.heap.size, 2, none⟩ = some (.string n) := hev1.bx.cell 2
  have hwq : IntKind.i64.wrap (q : Int) = (q : Int) := IntWalk.i64_in _ (by omega)
  have hqc : (q : Int) ≤ (VC : Int) := by omega
  have hq0 : 0 ≤ (q : Int) := by omega
  have HG := Lib.hid hG; clear hG
  have Hev1 := Lib.hid hev1; clear hev1
  refine wp_region_held_drew (S := fun W => W.cell? ⟨sb, 6, none⟩ = some (.map (some m3)) ∧ W.cell? ⟨w.heap.size, 2, none⟩ = some (.string n) ∧ (Instr.lookup 76 (.map (some m3)) (.string n) false).run Tryd.prog W = .ok (.slice VA (q + 1) VC) W) (by kernel_rfl) (⟨g6, b2, hl1⟩) (fun hHeld => ?_)
  refine takeL (i := 0) (v := ?_) rfl (by kernel_rfl) (by kernel_rfl) (by kernel_rfl) (fun _ _ _ h => h) (Or.inl ⟨by kernel_rfl, ?_⟩) (by assumption) ?_
  rotate_left
  · (intro w' hSw; (try dsimp only at hSw); go_simp; (try with_reducible rfl))
  try simp only [Act.put, List.setIfInBounds_toArray, List.set_cons_zero, List.set_cons_succ]
  refine takeL (i := 1) (v := ?_) rfl (by kernel_rfl) (by kernel_rfl) (by kernel_rfl) (fun _ _ _ h => h) (Or.inl ⟨by kernel_rfl, ?_⟩) (by assumption) ?_
  rotate_left
  · (intro w' hSw; (try dsimp only at hSw); go_simp; (try with_reducible rfl))
  try simp only [Act.put, List.setIfInBounds_toArray, List.set_cons_zero, List.set_cons_succ]
  refine takeL (i := 2) (v := ?_) rfl (by kernel_rfl) (by kernel_rfl) (by kernel_rfl) (fun _ _ _ h => h) (Or.inl ⟨by kernel_rfl, ?_⟩) (by assumption) ?_
  rotate_left
  · (intro w' hSw; (try dsimp only at hSw); go_simp; (try with_reducible rfl))
  try simp only [Act.put, List.setIfInBounds_toArray, List.set_cons_zero, List.set_cons_succ]
  refine takeL (i := 3) (v := ?_) rfl (by kernel_rfl) (by kernel_rfl) (by kernel_rfl) (fun _ _ _ h => h) (Or.inl ⟨by kernel_rfl, ?_⟩) (by assumption) ?_
  rotate_left
  · (intro w' hSw; (try dsimp only at hSw); go_simp; (try with_reducible rfl))
  try simp only [Act.put, List.setIfInBounds_toArray, List.set_cons_zero, List.set_cons_succ]
  refine takeL (i := 4) (v := ?_) rfl (by kernel_rfl) (by kernel_rfl) (by kernel_rfl) (fun _ _ _ h => h) (Or.inl ⟨by kernel_rfl, ?_⟩) (by assumption) ?_
  rotate_left
  · (intro w' hSw; (try dsimp only at hSw); go_simp; (try with_reducible rfl))
  try simp only [Act.put, List.setIfInBounds_toArray, List.set_cons_zero, List.set_cons_succ]
  refine takeL (i := 5) (v := ?_) rfl (by kernel_rfl) (by kernel_rfl) (by kernel_rfl) (fun _ _ _ h => h) (Or.inl ⟨by kernel_rfl, ?_⟩) (by assumption) ?_
  rotate_left
  · (intro w' hSw; (try dsimp only at hSw); go_simp; (try with_reducible rfl))
  try simp only [Act.put, List.setIfInBounds_toArray, List.set_cons_zero, List.set_cons_succ]
  refine takeL (i := 6) (v := ?_) rfl (by kernel_rfl) (by kernel_rfl) (by kernel_rfl) (fun _ _ _ h => h) (Or.inl ⟨by kernel_rfl, ?_⟩) (by assumption) ?_
  rotate_left
  · (intro w' hSw; (try dsimp only at hSw); go_simp; (try with_reducible rfl))
  try simp only [Act.put, List.setIfInBounds_toArray, List.set_cons_zero, List.set_cons_succ]
  refine takeL (i := 7) (v := ?_) rfl (by kernel_rfl) (by kernel_rfl) (by kernel_rfl) (fun _ _ _ h => h) (Or.inl ⟨by kernel_rfl, ?_⟩) (by assumption) ?_
  rotate_left
  · (intro w' hSw; (try dsimp only at hSw); go_simp; (try with_reducible rfl))
  try simp only [Act.put, List.setIfInBounds_toArray, List.set_cons_zero, List.set_cons_succ]
  refine wpAnyH_done (by kernel_rfl) ?_ _
  go_upto_region 8 with fail
  refine wp_region_held_drew (S := fun W => W.cell? ⟨sb, 6, none⟩ = some (.map (some m3)) ∧ W.cell? ⟨w.heap.size, 2, none⟩ = some (.string n)) (by kernel_rfl) (⟨g6, b2⟩) (fun hHeld => ?_)
  refine takeL (i := 0) (v := ?_) rfl (by kernel_rfl) (by kernel_rfl) (by kernel_rfl) (fun _ _ _ h => h) (Or.inl ⟨by kernel_rfl, ?_⟩) (by assumption) ?_
  rotate_left
  · (intro w' hSw; (try dsimp only at hSw); go_simp; (try with_reducible rfl))
  try simp only [Act.put, List.setIfInBounds_toArray, List.set_cons_zero, List.set_cons_succ]
  refine takeL (i := 1) (v := ?_) rfl (by kernel_rfl) (by kernel_rfl) (by kernel_rfl) (fun _ _ _ h => h) (Or.inl ⟨by kernel_rfl, ?_⟩) (by assumption) ?_
  rotate_left
  · (intro w' hSw; (try dsimp only at hSw); go_simp; (try with_reducible rfl))
  try simp only [Act.put, List.setIfInBounds_toArray, List.set_cons_zero, List.set_cons_succ]
  refine takeL (i := 2) (v := ?_) rfl (by kernel_rfl) (by kernel_rfl) (by kernel_rfl) (fun _ _ _ h => h) (Or.inl ⟨by kernel_rfl, ?_⟩) (by assumption) ?_
  rotate_left
  · (intro w' hSw; (try dsimp only at hSw); go_simp; (try with_reducible rfl))
  try simp only [Act.put, List.setIfInBounds_toArray, List.set_cons_zero, List.set_cons_succ]
  refine takeL (i := 3) (v := ?_) rfl (by kernel_rfl) (by kernel_rfl) (by kernel_rfl) (fun _ _ _ h => h) (Or.inl ⟨by kernel_rfl, ?_⟩) (by assumption) ?_
  rotate_left
  · (intro w' hSw; (try dsimp only at hSw); go_simp; (try with_reducible rfl))
  try simp only [Act.put, List.setIfInBounds_toArray, List.set_cons_zero, List.set_cons_succ]
  refine takeL (i := 4) (v := ?_) rfl (by kernel_rfl) (by kernel_rfl) (by kernel_rfl) (fun _ _ _ h => h) (Or.inl ⟨by kernel_rfl, ?_⟩) (by assumption) ?_
  rotate_left
  · (intro w' hSw; (try dsimp only at hSw); go_simp; (try with_reducible rfl))
  try simp only [Act.put, List.setIfInBounds_toArray, List.set_cons_zero, List.set_cons_succ]
  refine takeL (i := 5) (v := ?_) rfl (by kernel_rfl) (by kernel_rfl) (by kernel_rfl) (fun _ _ _ h => h) (Or.inl ⟨by kernel_rfl, ?_⟩) (by assumption) ?_
  rotate_left
  · (intro w' hSw; (try dsimp only at hSw); go_simp; (try with_reducible rfl))
  try simp only [Act.put, List.setIfInBounds_toArray, List.set_cons_zero, List.set_cons_succ]
  refine takeL (i := 6) (v := ?_) rfl (by kernel_rfl) (by kernel_rfl) (by kernel_rfl) (fun _ _ _ h => h) (Or.inl ⟨by kernel_rfl, ?_⟩) (by assumption) ?_
  rotate_left
  · (intro w' hSw; (try dsimp only at hSw); go_simp; (try with_reducible rfl))
  try simp only [Act.put, List.setIfInBounds_toArray, List.set_cons_zero, List.set_cons_succ]
  refine takeL (i := 7) (v := ?_) rfl (by kernel_rfl) (by kernel_rfl) (by kernel_rfl) (fun _ _ _ h => h) (Or.inl ⟨by kernel_rfl, ?_⟩) (by assumption) ?_
  rotate_left
  · (intro w' hSw; (try dsimp only at hSw); go_simp; (try with_reducible rfl))
  try simp only [Act.put, List.setIfInBounds_toArray, List.set_cons_zero, List.set_cons_succ]
  refine takeL (i := 8) (v := ?_) rfl (by kernel_rfl) (by kernel_rfl) (by kernel_rfl) (fun _ _ _ h => h) (Or.inl ⟨by kernel_rfl, ?_⟩) (by assumption) ?_
  rotate_left
  · (intro w' hSw; (try dsimp only at hSw); go_simp; (try with_reducible rfl))
  try simp only [Act.put, List.setIfInBounds_toArray, List.set_cons_zero, List.set_cons_succ]
  refine takeL (i := 9) (v := .int .i64 (q : Int)) rfl (by kernel_rfl) (by kernel_rfl) (by kernel_rfl) (fun _ _ _ h => h) (Or.inl ⟨by kernel_rfl, ?_⟩) (by assumption) ?_
  · (intro w' hSw; (try dsimp only at hSw); go_simp)
  try simp only [Act.put, List.setIfInBounds_toArray, List.set_cons_zero, List.set_cons_succ]
  refine takeL (i := 10) (v := .slice VA q VC) rfl (by kernel_rfl) (by kernel_rfl) (by kernel_rfl) (fun _ _ _ h => h) (Or.inl ⟨by kernel_rfl, ?_⟩) (by assumption) ?_
  · (intro w' hSw; (try dsimp only at hSw); go_simp)
  try simp only [Act.put, List.setIfInBounds_toArray, List.set_cons_zero, List.set_cons_succ]
  refine wpAnyH_ready (rs := [11]) (by kernel_rfl) (by simp) ?_
  refine AllReadyH.cons rfl (fun K hK => ?_) AllReadyH.nil
  have ev2 := Hev1.out.below hLW (below_drewN (Below.refl W1.heap.size W1) 2)
  have hG2 := BndG.kept HG.out (grown_of_below (below_drewN (Below.refl W1.heap.size W1) 2)) (by simp) (by simp)
  obtain ⟨W3, hrun, hm3, hg3⟩ := Hmp.out W1.drew.drew hG2.1
  have hbn := Hpop.out _ _ hG2 hm3 hg3
  have hl33 := ev2.sv.l3
  have ev3 : EV L sb m1 m2 m3 m4 (N + 1) st bd (ws ++ vs) no pf w.heap.size #[.int .i64 k, .int .i64 a, .string n, .slice A3 n3 c3, .slice A4 n4 c4, .slice A m c] w W3 :=
    ⟨ev2.sv.put_bnd hbn (grown_of_below (Below.refl _ _)) (fun k e => by cases e) hg3, ev2.bx.grown hg3 (some_ne (hm3.ne_blk (ev2.bx.grown hg3 (some_ne (hG2.1.ne_blk ev2.bx).symm))).symm), ev2.bel.map hG2.1 hg3 hl33 hLW⟩
  clear hbn hm3 hg3 hG2 ev2
  go_simp
  refine hK.out _ _ ?_ (fun hHeld => ?_)
  · exact ⟨ev3.sv.box.cell 6, ev3.bx.cell 2⟩
  clear hK K
  try simp only [Act.put, List.setIfInBounds_toArray, List.set_cons_zero, List.set_cons_succ]
  refine wpAnyH_done (by kernel_rfl) ?_ _
  have hb63 : W3.cell? ⟨w.heap.size, 3, none⟩ = some (.slice A3 n3 c3) := ev3.bx.cell 3
  have Hev := Lib.hid ev3; clear ev3
  clear hrun g6 b2 hl1 hwq hqc hq0 Hmp Hpop HG Hev1
  go_wp2

  go_loopw [6, 55] (fun _ i wr => ∃ j : Nat, j ≤ n3 ∧ i = .int .i64 j ∧ EV L sb m1 m2 m3 m4 ((N + 1) + j) st bd (ws.drop j ++ vs) no pf w.heap.size #[.int .i64 k, .int .i64 a, .string n, .slice A3 n3 c3, .slice A4 n4 c4, .slice A m c] w wr) (fun _ i _ => n3 - (intOf i).toNat)
  case atStart => exact ⟨0, Nat.zero_le _, rfl, by simpa using Hev.out⟩
  case round =>
    obtain ⟨j, hj, rfl, hev⟩ := hrel
    have Hej := Lib.hid hev; clear hev
    by_cases hlt : j < n3
    · obtain ⟨ad, s, rfl, hb, hs, hc, hsz⟩ := (H3.out.below Hej.out.bel.bel).at_ hlt
      obtain ⟨q, W2, hq, hlook, hput, hev2⟩ := Hej.out.unvar (Nat.le_trans hL Hej.out.bel.size) (Hws.out s (List.mem_of_getElem? hs)) hs hvl (by omega) (by have := HN1.out; unfold maxLen; omega)
      have c7 : wr.cell? ⟨sb, 7, none⟩ = some (.map (some m4)) := Hej.out.sv.box.cell 7
      have Hs := Lib.hid hs; clear hs
      have Hev2 := Lib.hid hev2; clear hev2
      go_wp2
      go_roundw
      case rel => exact ⟨j + 1, by omega, by go_num, Hev2.out⟩
      case measure => simp [intOf]; omega
    · obtain rfl : j = n3 := by omega
      have hfin := Hej.out
      rw [List.drop_of_length_le (by rw [← Hl3.out]; exact Nat.le_refl _), List.nil_append] at hfin
      have Hfin := Lib.hid hfin; clear hfin
      go_wp2
      go_end0
      exact ⟨rfl, Hfin.out.bel, (N + 1) + j, by have := Hl3.out; omega, Hfin.out.sv⟩

theorem leave_any {L sb m1 m2 m3 m4 N : Nat} {st : St ByteArray} {bd : List (Bd ByteArray)} {vs : List ByteArray} {no pf : Nat} (k a : Int) (n : ByteArray) (ws : List ByteArray) (A3 : Option Addr) (n3 c3 : Nat) (A4 : Option Addr) (n4 c4 : Nat) (A : Option Addr) (m c : Nat) (w : World) (hL : L ≤ w.heap.size)
    (h : Sv w L sb m1 m2 m3 m4 N st (Fo.enterBd k a n ws no pf bd) (ws ++ vs) (Fo.notsN k no) (Fo.pfpsN k pf)) (h3 : Strs w (· < L) (.slice A3 n3 c3) ws) (hws : ∀ x ∈ ws, x.size ≤ maxLen) (hw24 : ws.length ≤ 24) (hvl : vs.length ≤ 10000) (hN : N ≤ 1000000) (hno : no ≤ 1000) (hpf : pf ≤ 1000) (hn : n.size ≤ maxLen) (hbl : bd.length ≤ 1000) :
    Calls Tryd.prog 52 #[.pointer (some ⟨sb, 0, none⟩), .agg #[.int .i64 k, .int .i64 a, .string n, .slice A3 n3 c3, .slice A4 n4 c4, .slice A m c]] w (LeaPost L sb m1 m2 m3 m4 N st bd vs no pf ws w) := by
  by_cases hk3 : k = 3
  · exact lea_not k a n ws A3 n3 c3 A4 n4 c4 A m c w hL h h3 hws hw24 hvl hN hno hpf hn hbl hk3
  · cases hkb : Fo.bindsB k
    · exact lea_plain k a n ws A3 n3 c3 A4 n4 c4 A m c w hL h h3 hws hw24 hvl hN hno hpf hn hbl hk3 hkb
    · by_cases hk9 : k = 9
      · exact lea_pfp k a n ws A3 n3 c3 A4 n4 c4 A m c w hL h h3 hws hw24 hvl hN hno hpf hn hbl hk9 hkb
      · exact lea_bind k a n ws A3 n3 c3 A4 n4 c4 A m c w hL h h3 hws hw24 hvl hN hno hpf hn hbl hk9 hkb

end Go.Proofs.YtmnpelhcgobfaaaDoor

/-
  Walk: survey.walk.
-/
namespace Go.Proofs.YtmnpelhcgobfaaaDoor
open Go.RowKit
open Fo (F Bd St getM updM)

theorem max_if (x y : Nat) : max (x : Int) (y : Int) = if x < y then (y : Int) else (x : Int) := by split <;> omega
theorem nmB_size {s : ByteArray} (h : Fo.nmB s = true) : s.size ≤ 12 := by
  unfold Fo.nmB Sh.nameB at h
  simp only [Bool.and_eq_true, decide_eq_true_eq] at h
  have := h.1.1.1.2
  rw [length_bytes] at this
  exact this
theorem fit_facts {k a : Int} {n : ByteArray} {vs ar : List ByteArray} {nk : Nat} (h : Fo.fitP k a n vs ar nk = true) : vs.length ≤ 24 ∧ ar.length ≤ 24 ∧ (∀ x ∈ vs, x.size ≤ 12) ∧ (∀ x ∈ ar, x.size ≤ 12) := by
  simp only [Fo.fitP, Bool.and_eq_true, List.all_eq_true] at h
  obtain ⟨⟨⟨⟨h1, -⟩, h3⟩, h4⟩, -⟩ := h
  generalize hv : vs.length = v at *
  generalize hu : ar.length = u at *
  refine ⟨?_, ?_, fun x hx => nmB_size (h4 x hx), fun x hx => nmB_size (h3 x hx)⟩
  · unfold Fo.numbersB at h1
    repeat' split at h1
    all_goals simp at h1
    all_goals omega
  · unfold Fo.numbersB at h1
    repeat' split at h1
    all_goals simp at h1
    all_goals omega
theorem addFree_snoc (vs : List ByteArray) (x : ByteArray) : ∀ (l fr : List ByteArray), Fo.addFree vs fr (l ++ [x]) = if x ∈ vs ∨ x ∈ Fo.addFree vs fr l then Fo.addFree vs fr l else Fo.addFree vs fr l ++ [x]
  | [], fr => by rw [List.nil_append, Fo.addFree, Fo.addFree, Fo.addFree]
  | y :: l, fr => by rw [List.cons_append, Fo.addFree, addFree_snoc vs x l, Fo.addFree]

theorem open_six {w : World} {S : Nat → Prop} {k a : Int} {n : ByteArray} {ws ar : List ByteArray} {ks : List FB} {A3 : Option Addr} {n3 c3 : Nat} {A4 : Option Addr} {n4 c4 : Nat} {A : Option Addr} {m c : Nat} (h : FVal w S (.mk k a n ws ar ks) [.int .i64 k, .int .i64 a, .string n, .slice A3 n3 c3, .slice A4 n4 c4, .slice A m c]) :
    n.size ≤ 140737488351232 ∧ Strs w S (.slice A3 n3 c3) ws ∧ Strs w S (.slice A4 n4 c4) ar ∧ m = ks.length ∧ m ≤ 140737488351232 ∧ m ≤ c ∧ (0 < m → ∃ ad, A = some ad ∧ S ad.block ∧ FKids w S ad ks 0) := by
  unfold FVal at h
  obtain ⟨u3, u4, A', m', c', h1, h2, h3, h4, h5, h6, h6c, h7⟩ := h
  simp only [List.cons.injEq, Value.slice.injEq, and_true, true_and] at h1
  obtain ⟨rfl, rfl, rfl, rfl, rfl⟩ := h1
  exact ⟨h2, h3, h4, h5, h6, h6c, h7⟩

/-- What walk leaves. -/
def WalkPost (L sb m1 m2 m3 m4 N : Nat) (st : St ByteArray) (bd : List (Bd ByteArray)) (vs : List ByteArray) (no pf : Nat) (r : Option (St ByteArray)) (w : World) (e : Ending) (w' : World) : Prop :=
  Fr L w w' ∧ match r with
    | none => e = .returned (.bool false)
    | some s => e = .returned (.bool true) ∧ ∃ N', N' + 100 * (4001 - s.size) ≤ N + 100 * (4001 - st.size) ∧ Sv w' L sb m1 m2 m3 m4 N' s bd vs no pf
theorem WalkPost.no {L sb m1 m2 m3 m4 N : Nat} {st : St ByteArray} {bd : List (Bd ByteArray)} {vs : List ByteArray} {no pf : Nat} {r : Option (St ByteArray)} {w w' : World} (hr : r = none) (h : Fr L w w') : WalkPost L sb m1 m2 m3 m4 N st bd vs no pf r w (.returned (.bool false)) w' := by
  subst hr; exact ⟨h, rfl⟩
theorem WalkPost.yes {L sb m1 m2 m3 m4 N : Nat} {st : St ByteArray} {bd : List (Bd ByteArray)} {vs : List ByteArray} {no pf : Nat} {r : Option (St ByteArray)} {w w' : World} {s : St ByteArray} {N' : Nat} (hr : r = some s) (h : Fr L w w') (hN : N' + 100 * (4001 - s.size) ≤ N + 100 * (4001 - st.size)) (hs : Sv w' L sb m1 m2 m3 m4 N' s bd vs no pf) :
    WalkPost L sb m1 m2 m3 m4 N st bd vs no pf r w (.returned (.bool true)) w' := by
  subst hr; exact ⟨h, rfl, N', hN, hs⟩

set_option maxRecDepth 100000 in
set_option maxHeartbeats 2000000 in
theorem walk_bad {L sb m1 m2 m3 m4 N : Nat} {st : St ByteArray} {bd : List (Bd ByteArray)} {vs : List ByteArray} {no pf : Nat} (d : Nat) (k a : Int) (n : ByteArray) (ws ar : List ByteArray) (ks : List FB) (A3 : Option Addr) (n3 c3 : Nat) (A4 : Option Addr) (n4 c4 : Nat) (A : Option Addr) (m c : Nat) (w : World) (hL : L ≤ w.heap.size) (h : Sv w L sb m1 m2 m3 m4 N st bd vs no pf)
    (hf : FVal w (· < L) (.mk k a n ws ar ks) [.int .i64 k, .int .i64 a, .string n, .slice A3 n3 c3, .slice A4 n4 c4, .slice A m c]) (hd : d ≤ 61) (hs : st.size ≤ 4000) (_hsd : st.depth ≤ 60) (hbad : 4000 < st.size + 1 ∨ 60 < d ∨ Fo.fitP k a n ws ar ks.length = false) :
    Calls Tryd.prog 39 #[.pointer (some ⟨sb, 0, none⟩), .agg #[.int .i64 k, .int .i64 a, .string n, .slice A3 n3 c3, .slice A4 n4 c4, .slice A m c], .int .i64 (d : Int)] w fun e w' => e = .returned (.bool false) ∧ Fr L w w' := by
  have x0 : w.cell? ⟨sb, 0, none⟩ = some (.int .i64 (st.size : Int)) := h.box.cell 0
  have x1 : w.cell? ⟨sb, 1, none⟩ = some (.int .i64 (st.depth : Int)) := h.box.cell 1
  have hlt0 := h.box.lt
  have f0 := h.box.frozen 0
  have f1 := h.box.frozen 1
  obtain ⟨hnn, h3, h4, hmk, hmm, hkc, hkid⟩ := open_six hf
  have hmx : (Value.int .i64 (if st.depth < d then (d : Int) else (st.depth : Int))) = .int .i64 ((max st.depth d : Nat) : Int) := by congr 1; split <;> omega
  have hev1 : EV L sb m1 m2 m3 m4 N ⟨st.size + 1, max st.depth d, st.syms, st.free⟩ bd vs no pf w.heap.size #[.int .i64 k, .int .i64 a, .string n, .slice A3 n3 c3, .slice A4 n4 c4, .slice A m c] w (((w.setCell ⟨sb, 0, none⟩ (.int .i64 ((st.size : Int) + 1))).setCell ⟨sb, 1, none⟩ (.int .i64 (if st.depth < d then (d : Int) else (st.depth : Int)))).alloc (.cells #[.int .i64 k, .int .i64 a, .string n, .slice A3 n3 c3, .slice A4 n4 c4, .slice A m c] 31)) :=
    ⟨((h.set_size (k := st.size + 1) (by go_num)).set_depth (k := max st.depth d) hmx).alloc _, by simpa using Blk.new ((w.setCell ⟨sb, 0, none⟩ (.int .i64 ((st.size : Int) + 1))).setCell ⟨sb, 1, none⟩ (.int .i64 (if st.depth < d then (d : Int) else (st.depth : Int)))) 31 #[.int .i64 k, .int .i64 a, .string n, .slice A3 n3 c3, .slice A4 n4 c4, .slice A m c],
      (((Fr.refl L w).set h.box h.l0 0 _).set (h.set_size (k := st.size + 1) (by go_num)).box h.l0 1 _).alloc (by simpa using hL) _⟩
  clear hmx
  have hfits := fun W (hW : Fr L w W) (hLW : L ≤ W.heap.size) => ffits_any k a n ws ar ks _ W L hLW (hf.below hW.bel)
  clear hkid hkc hmm hmk h3 h4 hnn
  by_cases hb1 : 4000 < st.size + 1
  · clear hfits hbad
    have Hb1 := Lib.hid hb1; clear hb1
    go_enter Tryd.func39, Tryd.ntmps39
    go_upto_region 3 with fail
    try rw [max_if st.depth d]
    generalize (((w.setCell ⟨sb, 0, none⟩ (.int .i64 ((st.size : Int) + 1))).setCell ⟨sb, 1, none⟩ (.int .i64 (if st.depth < d then (d : Int) else (st.depth : Int)))).alloc (.cells #[.int .i64 k, .int .i64 a, .string n, .slice A3 n3 c3, .slice A4 n4 c4, .slice A m c] 31)) = W1 at *
    generalize (if st.depth < d then (d : Int) else (st.depth : Int)) = mx at *
    have x10 : W1.cell? ⟨sb, 0, none⟩ = some (.int .i64 ((st.size : Int) + 1)) := hev1.sv.box.cell 0
    have hi1 : decide (4000 < (st.size : Int) + 1) = true := by have := Hb1.out; rw [decide_eq_true_eq]; omega
    go_wp2_with fail
    go_ret
    exact ⟨rfl, hev1.bel⟩
  · by_cases hb2 : 60 < d
    · clear hfits hbad
      have Hb1 := Lib.hid hb1; clear hb1
      have Hb2 := Lib.hid hb2; clear hb2
      go_enter Tryd.func39, Tryd.ntmps39
      go_upto_region 3 with fail
      try rw [max_if st.depth d]
      generalize (((w.setCell ⟨sb, 0, none⟩ (.int .i64 ((st.size : Int) + 1))).setCell ⟨sb, 1, none⟩ (.int .i64 (if st.depth < d then (d : Int) else (st.depth : Int)))).alloc (.cells #[.int .i64 k, .int .i64 a, .string n, .slice A3 n3 c3, .slice A4 n4 c4, .slice A m c] 31)) = W1 at *
      generalize (if st.depth < d then (d : Int) else (st.depth : Int)) = mx at *
      have x10 : W1.cell? ⟨sb, 0, none⟩ = some (.int .i64 ((st.size : Int) + 1)) := hev1.sv.box.cell 0
      have hi1 : decide (4000 < (st.size : Int) + 1) = false := by have := Hb1.out; rw [decide_eq_false_iff_not]; omega
      have hi2 : decide (60 < (d : Int)) = true := by have := Hb2.out; rw [decide_eq_true_eq]; omega
      go_wp2_with fail
      go_ret
      exact ⟨rfl, hev1.bel⟩
    · have hfit : Fo.fitP k a n ws ar ks.length = false := by
        rcases hbad with h | h | h
        · exact absurd h hb1
        · exact absurd h hb2
        · exact h
      rw [hfit] at hfits
      clear hbad
      have Hb1 := Lib.hid hb1; clear hb1
      have Hb2 := Lib.hid hb2; clear hb2
      have Hfit := Lib.hid hfit; clear hfit
      have Hfits := Lib.hid hfits; clear hfits
      go_enter Tryd.func39, Tryd.ntmps39
      go_upto_region 3 with fail
      try rw [max_if st.depth d]
      generalize (((w.setCell ⟨sb, 0, none⟩ (.int .i64 ((st.size : Int) + 1))).setCell ⟨sb, 1, none⟩ (.int .i64 (if st.depth < d then (d : Int) else (st.depth : Int)))).alloc (.cells #[.int .i64 k, .int .i64 a, .string n, .slice A3 n3 c3, .slice A4 n4 c4, .slice A m c] 31)) = W1 at *
      generalize (if st.depth < d then (d : Int) else (st.depth : Int)) = mx at *
      have x10 : W1.cell? ⟨sb, 0, none⟩ = some (.int .i64 ((st.size : Int) + 1)) := hev1.sv.box.cell 0
      have hi1 : decide (4000 < (st.size : Int) + 1) = false := by have := Hb1.out; rw [decide_eq_false_iff_not]; omega
      have hi2 : decide (60 < (d : Int)) = false := by have := Hb2.out; rw [decide_eq_false_iff_not]; omega
      have y0 := hev1.bx.cell 0
      have y1 := hev1.bx.cell 1
      have y2 := hev1.bx.cell 2
      have y3 := hev1.bx.cell 3
      have y4 := hev1.bx.cell 4
      have y5 := hev1.bx.cell 5
      go_wp2_with (go_at_call 49; refine (Hfits.out W1 hev1.bel (Nat.le_trans hL hev1.bel.size)).mono ?_; rintro e w2 ⟨rfl, hb2⟩)
      go_ret
      exact ⟨rfl, hev1.bel.step (Nat.le_trans hL hev1.bel.size) hb2⟩

section
variable {L sb m1 m2 m3 m4 N : Nat} {st : St ByteArray} {bd : List (Bd ByteArray)} {vs : List ByteArray} {no pf g : Nat} {cs : Array Value} {w W : World}
theorem EV.free (h : EV L sb m1 m2 m3 m4 N st bd vs no pf g cs w W) (hL : L ≤ W.heap.size) {x : ByteArray} (hx : x.size ≤ maxLen) (hN : N < maxLen) :
    ∃ (q : Nat) (W' : World), q ≤ vs.length ∧ (q = 0 ↔ x ∉ vs) ∧ (Instr.lookup 77 (.map (some m4)) (.string x) false).run Tryd.prog W = .ok (.int .i64 (q : Int)) W ∧ (Instr.mapUpdate 72 (.map (some m2)) (.string x) (.bool true)).run Tryd.prog W = .ok () W' ∧
      EV L sb m1 m2 m3 m4 (N + 1) { st with free := if x ∈ st.free then st.free else st.free ++ [x] } bd vs no pf g cs w W' := by
  obtain ⟨gf, hm, hg⟩ := h.sv.var
  have hlk := hm.look (t := 77) Tryd.underlying77 (zeroInt W) x hx false
  simp only [Bool.false_eq_true, if_false] at hlk
  rw [hg x] at hlk
  obtain ⟨W', h1, h2, h3⟩ := h.sv.fre.put (t := 72) Tryd.underlying72 hN x hx (.bool true)
  exact ⟨cnt x vs, W', cnt_le x vs, cnt_zero, hlk, h1, h.sv.put_free h2 h3, h.bx.grown h3 (some_ne (h.sv.fre.ne_blk h.bx).symm), h.bel.map h.sv.fre h3 h.sv.l2 hL⟩
theorem free_take {ar fr : List ByteArray} {j : Nat} {x : ByteArray} (hx : ar[j]? = some x) : Fo.addFree vs fr (ar.take (j + 1)) = if x ∈ vs ∨ x ∈ Fo.addFree vs fr (ar.take j) then Fo.addFree vs fr (ar.take j) else Fo.addFree vs fr (ar.take j) ++ [x] := by
  rw [List.take_add_one, hx, Option.toList_some]
  exact addFree_snoc vs x _ fr
theorem EV.st_eq {st' : St ByteArray} (h : EV L sb m1 m2 m3 m4 N st bd vs no pf g cs w W) (e : st = st') : EV L sb m1 m2 m3 m4 N st' bd vs no pf g cs w W := e ▸ h
theorem EV.mono (h : EV L sb m1 m2 m3 m4 N st bd vs no pf g cs w W) {N' : Nat} (hN : N ≤ N') : EV L sb m1 m2 m3 m4 N' st bd vs no pf g cs w W := ⟨h.sv.mono hN, h.bx, h.bel⟩
end

theorem occ_walk {L sb m1 m2 m3 m4 N N1 : Nat} {st : St ByteArray} {bd : List (Bd ByteArray)} {vs : List ByteArray} {no pf d : Nat} {k a : Int} {n : ByteArray} {ws ar : List ByteArray} {ks : List FB} {w W w' : World} {e : Ending} (hok : ¬ (4000 < st.size + 1 ∨ 60 < d ∨ Fo.fitP k a n ws ar ks.length = false)) (hk : k = 0)
    (ho : OccPost L sb m1 m2 m3 m4 N1 ⟨st.size + 1, max st.depth d, st.syms, Fo.addFree vs st.free ar⟩ bd vs no pf n ar.length W e w') (hfr : Fr L w W) (hN : N1 + 1 + 100 * (4001 - (st.size + 1)) ≤ N + 100 * (4001 - st.size)) :
    WalkPost L sb m1 m2 m3 m4 N st bd vs no pf (Fo.walkF Fo.fitP (.mk k a n ws ar ks) d bd vs no pf st) w e w' := by
  rw [Fo.walkF, if_neg hok, if_pos hk]
  unfold OccPost at ho
  cases hf : Fo.findBd n bd with
  | none =>
    rw [hf] at ho
    obtain ⟨hb, ho⟩ := ho
    simp only at ho
    have hpb : posB no pf 0 0 = decide (no % 2 = 0 ∧ pf = 0) := rfl
    rw [hpb] at ho
    cases hst : Fo.step1 st.syms (n, ((ar.length : Int), decide (no % 2 = 0 ∧ pf = 0))) with
    | none => rw [hst] at ho; subst ho; exact ⟨hfr.trans hb, rfl⟩
    | some sy => rw [hst] at ho; exact ⟨hfr.trans hb, ho.1, _, by simp only; omega, ho.2⟩
  | some b =>
    rw [hf] at ho
    obtain ⟨he, hb, hs⟩ := ho
    by_cases hc : (ar.length : Int) = b.arity ∧ (b.pos = false ∨ ((no - b.nots) % 2 = 0 ∧ pf = b.pfps))
    · have : occB b ar.length no pf = true := by
        unfold occB posB
        simp only [Bool.and_eq_true, Bool.or_eq_true, Bool.not_eq_true', decide_eq_true_eq]
        exact hc
      rw [this] at he
      simp only [if_pos hc]
      exact ⟨hfr.trans hb, he, _, by simp only; omega, hs⟩
    · have : occB b ar.length no pf = false := by
        unfold occB posB
        rw [Bool.eq_false_iff]
        simp only [ne_eq, Bool.and_eq_true, Bool.or_eq_true, Bool.not_eq_true', decide_eq_true_eq]
        exact hc
      rw [this] at he
      simp only [if_neg hc]
      exact ⟨hfr.trans hb, he⟩

theorem OccPost.bool {L sb m1 m2 m3 m4 N : Nat} {st : St ByteArray} {bd : List (Bd ByteArray)} {vs : List ByteArray} {no pf : Nat} {x : ByteArray} {k : Nat} {w w' : World} {e : Ending} (hp : OccPost L sb m1 m2 m3 m4 N st bd vs no pf x k w e w') : ∃ r, e = .returned (.bool r) := by
  unfold OccPost at hp
  split at hp
  · exact UnbPost.bool hp
  · exact ⟨_, hp.1⟩

end Go.Proofs.YtmnpelhcgobfaaaDoor
