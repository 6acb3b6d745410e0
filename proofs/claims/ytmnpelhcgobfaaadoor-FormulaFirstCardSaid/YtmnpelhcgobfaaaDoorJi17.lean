/-
  Texts joined: Fqry, Fparse.
-/
import Derived.Test.YtmnpelhcgobfaaaDoorJi16
import Derived.Test.YtmnpelhcgobfaaaDoorJi11

/-
  Walks: formula.Valid, Size, Depth, Positive, Free.
-/
namespace Go.Proofs.YtmnpelhcgobfaaaDoor
open Go.RowKit
open Fo (F Bd St getM updM)

set_option maxRecDepth 100000 in
set_option maxHeartbeats 1000000 in
theorem fvalid_any (f : FB) (cs : List Value) (w : World) (B : Nat) (hB : B ≤ w.heap.size) (hf : FVal w (· < B) f cs) : Calls Tryd.prog 12 #[.agg cs.toArray] w fun e w' => e = .returned (.bool (Fo.lookF Fo.fitP f).isSome) ∧ Below w.heap.size w w' := by
  have hcall := fun W (hW : Below w.heap.size w W) => look_any f cs W B (Nat.le_trans hB hW.size) (hf.below (hW.mono hB))
  have Hcall := Lib.hid hcall; clear hcall
  have hbx := Bx.new w 31 cs.toArray
  obtain ⟨k, a, n, ws, ar, ks⟩ := f
  obtain ⟨A3, n3, c3, A4, n4, c4, A, m, c, rfl, -⟩ := hf.open_
  have Hbx := Lib.hid hbx; clear hbx hf
  cases hl : Fo.lookF Fo.fitP (.mk k a n ws ar ks) with
  | none =>
    have hno : ∀ W e w', LookPost (.mk k a n ws ar ks) W e w' → e = .returned (.tuple #[.pointer none, .bool false]) ∧ Below W.heap.size W w' := fun W e w' h => by
      obtain ⟨h1, h2⟩ := h; rw [hl] at h2; exact ⟨h2, h1⟩
    have Hno := Lib.hid hno; clear hno hl
    go_enter Tryd.func12, Tryd.ntmps12
    go_wp2_with (go_at_call 27; refine (Hcall.out _ Hbx.out.bel).mono ?_; rintro e w2 hp; obtain ⟨rfl, hb2⟩ := Hno.out _ _ _ hp; clear hp)
    go_ret
    exact ⟨rfl, Hbx.out.bel.trans (hb2.mono Hbx.out.bel.size)⟩
  | some s =>
    have hno : ∀ W e w', LookPost (.mk k a n ws ar ks) W e w' → ∃ sb, e = .returned (.tuple #[.pointer (some ⟨sb, 0, none⟩), .bool true]) ∧ Below W.heap.size W w' := fun W e w' h => by
      obtain ⟨h1, h2⟩ := h; rw [hl] at h2; obtain ⟨sb, m1, m2, m3, m4, N, -, h3, -⟩ := h2; exact ⟨sb, h3, h1⟩
    have Hno := Lib.hid hno; clear hno hl
    go_enter Tryd.func12, Tryd.ntmps12
    go_wp2_with (go_at_call 27; refine (Hcall.out _ Hbx.out.bel).mono ?_; rintro e w2 hp; obtain ⟨sb, rfl, hb2⟩ := Hno.out _ _ _ hp; clear hp)
    go_ret
    exact ⟨rfl, Hbx.out.bel.trans (hb2.mono Hbx.out.bel.size)⟩

/-- Both outcomes of look, for a walk. -/
theorem look_cases {f : FB} : (Fo.lookF Fo.fitP f = none ∧ ∀ W e w', LookPost f W e w' → e = .returned (.tuple #[.pointer none, .bool false]) ∧ Below W.heap.size W w') ∨
    ∃ s, Fo.lookF Fo.fitP f = some s ∧ ∀ W e w', LookPost f W e w' → ∃ sb m1 m2 m3 m4 N, e = .returned (.tuple #[.pointer (some ⟨sb, 0, none⟩), .bool true]) ∧ N ≤ 500000 ∧ Sv w' W.heap.size sb m1 m2 m3 m4 N s [] [] 0 0 ∧ Below W.heap.size W w' := by
  cases hl : Fo.lookF Fo.fitP f with
  | none => exact .inl ⟨rfl, fun W e w' h => by obtain ⟨h1, h2⟩ := h; rw [hl] at h2; exact ⟨h2, h1⟩⟩
  | some s => exact .inr ⟨s, rfl, fun W e w' h => by obtain ⟨h1, h2⟩ := h; rw [hl] at h2; obtain ⟨sb, m1, m2, m3, m4, N, hN, h3, h4⟩ := h2; exact ⟨sb, m1, m2, m3, m4, N, h3, hN, h4, h1⟩⟩

def FreePost (f : FB) (w : World) (e : Ending) (w' : World) : Prop :=
  Below w.heap.size w w' ∧ ∃ v l, e = .returned v ∧ w'.ownsRow w.heap.size 9 1 v l.length (l.map .string) ∧ l.length ≤ 1000000 ∧ (v = .slice none 0 0 ↔ l = []) ∧ (Fo.lookF Fo.fitP f = none → l = []) ∧ ∀ s, Fo.lookF Fo.fitP f = some s → Rising (freG s.free) l

set_option maxRecDepth 100000 in
set_option maxHeartbeats 1000000 in
theorem fsize_any (f : FB) (cs : List Value) (w : World) (B : Nat) (hB : B ≤ w.heap.size) (hf : FVal w (· < B) f cs) : Calls Tryd.prog 19 #[.agg cs.toArray] w (fun e w' => e = .returned (.int .i64 (((Fo.lookF Fo.fitP f).map (·.size)).getD 0 : Nat)) ∧ Below w.heap.size w w') := by
  have hcall := fun W (hW : Below w.heap.size w W) => look_any f cs W B (Nat.le_trans hB hW.size) (hf.below (hW.mono hB))
  have hbx := Bx.new w 31 cs.toArray
  have hcs : ∃ k a n A3 n3 c3 A4 n4 c4 A m c, cs = [.int .i64 k, .int .i64 a, .string n, .slice A3 n3 c3, .slice A4 n4 c4, .slice A m c] := by
    obtain ⟨k, a, n, ws, ar, ks⟩ := f
    obtain ⟨A3, n3, c3, A4, n4, c4, A, m, c, h, -⟩ := hf.open_
    exact ⟨k, a, n, A3, n3, c3, A4, n4, c4, A, m, c, h⟩
  obtain ⟨k, a, n, A3, n3, c3, A4, n4, c4, A, m, c, rfl⟩ := hcs
  have Hcall := Lib.hid hcall; clear hcall
  have Hbx := Lib.hid hbx; clear hbx hf
  rcases look_cases (f := f) with ⟨hl, hno⟩ | ⟨s, hl, hno⟩
  · have Hno := Lib.hid hno; clear hno
    have Hl := Lib.hid hl; clear hl
    go_enter Tryd.func19, Tryd.ntmps19
    go_wp2_with (go_at_call 27; refine (Hcall.out _ Hbx.out.bel).mono ?_; rintro e w2 hp; obtain ⟨rfl, hb2⟩ := Hno.out _ _ _ hp; clear hp)
    go_ret
    exact ⟨by rw [Hl.out]; rfl, Hbx.out.bel.trans (hb2.mono Hbx.out.bel.size)⟩
  · have Hno := Lib.hid hno; clear hno
    have Hl := Lib.hid hl; clear hl
    go_enter Tryd.func19, Tryd.ntmps19
    go_wp2_with (go_at_call 27; refine (Hcall.out _ Hbx.out.bel).mono ?_; rintro e w2 hp; obtain ⟨sb, m1, m2, m3, m4, N, rfl, hN, hsv, hb2⟩ := Hno.out _ _ _ hp; clear hp; have Hsv := Lib.hid hsv; clear hsv; have d : w2.cell? ⟨sb, 0, none⟩ = some (.int .i64 (s.size : Nat)) := Hsv.out.box.cell 0)
    go_ret
    exact ⟨by rw [Hl.out]; rfl, Hbx.out.bel.trans (hb2.mono Hbx.out.bel.size)⟩

set_option maxRecDepth 100000 in
set_option maxHeartbeats 1000000 in
theorem fdepth_any (f : FB) (cs : List Value) (w : World) (B : Nat) (hB : B ≤ w.heap.size) (hf : FVal w (· < B) f cs) : Calls Tryd.prog 18 #[.agg cs.toArray] w (fun e w' => e = .returned (.int .i64 (((Fo.lookF Fo.fitP f).map (·.depth)).getD 0 : Nat)) ∧ Below w.heap.size w w') := by
  have hcall := fun W (hW : Below w.heap.size w W) => look_any f cs W B (Nat.le_trans hB hW.size) (hf.below (hW.mono hB))
  have hbx := Bx.new w 31 cs.toArray
  have hcs : ∃ k a n A3 n3 c3 A4 n4 c4 A m c, cs = [.int .i64 k, .int .i64 a, .string n, .slice A3 n3 c3, .slice A4 n4 c4, .slice A m c] := by
    obtain ⟨k, a, n, ws, ar, ks⟩ := f
    obtain ⟨A3, n3, c3, A4, n4, c4, A, m, c, h, -⟩ := hf.open_
    exact ⟨k, a, n, A3, n3, c3, A4, n4, c4, A, m, c, h⟩
  obtain ⟨k, a, n, A3, n3, c3, A4, n4, c4, A, m, c, rfl⟩ := hcs
  have Hcall := Lib.hid hcall; clear hcall
  have Hbx := Lib.hid hbx; clear hbx hf
  rcases look_cases (f := f) with ⟨hl, hno⟩ | ⟨s, hl, hno⟩
  · have Hno := Lib.hid hno; clear hno
    have Hl := Lib.hid hl; clear hl
    go_enter Tryd.func18, Tryd.ntmps18
    go_wp2_with (go_at_call 27; refine (Hcall.out _ Hbx.out.bel).mono ?_; rintro e w2 hp; obtain ⟨rfl, hb2⟩ := Hno.out _ _ _ hp; clear hp)
    go_ret
    exact ⟨by rw [Hl.out]; rfl, Hbx.out.bel.trans (hb2.mono Hbx.out.bel.size)⟩
  · have Hno := Lib.hid hno; clear hno
    have Hl := Lib.hid hl; clear hl
    go_enter Tryd.func18, Tryd.ntmps18
    go_wp2_with (go_at_call 27; refine (Hcall.out _ Hbx.out.bel).mono ?_; rintro e w2 hp; obtain ⟨sb, m1, m2, m3, m4, N, rfl, hN, hsv, hb2⟩ := Hno.out _ _ _ hp; clear hp; have Hsv := Lib.hid hsv; clear hsv; have d : w2.cell? ⟨sb, 1, none⟩ = some (.int .i64 (s.depth : Nat)) := Hsv.out.box.cell 1)
    go_ret
    exact ⟨by rw [Hl.out]; rfl, Hbx.out.bel.trans (hb2.mono Hbx.out.bel.size)⟩

set_option maxRecDepth 100000 in
set_option maxHeartbeats 1000000 in
theorem ffree_any (f : FB) (cs : List Value) (w : World) (B : Nat) (hB : B ≤ w.heap.size) (hf : FVal w (· < B) f cs) : Calls Tryd.prog 13 #[.agg cs.toArray] w (FreePost f w) := by
  have hcall := fun W (hW : Below w.heap.size w W) => look_any f cs W B (Nat.le_trans hB hW.size) (hf.below (hW.mono hB))
  have hbx := Bx.new w 31 cs.toArray
  have hcs : ∃ k a n A3 n3 c3 A4 n4 c4 A m c, cs = [.int .i64 k, .int .i64 a, .string n, .slice A3 n3 c3, .slice A4 n4 c4, .slice A m c] := by
    obtain ⟨k, a, n, ws, ar, ks⟩ := f
    obtain ⟨A3, n3, c3, A4, n4, c4, A, m, c, h, -⟩ := hf.open_
    exact ⟨k, a, n, A3, n3, c3, A4, n4, c4, A, m, c, h⟩
  obtain ⟨k, a, n, A3, n3, c3, A4, n4, c4, A, m, c, rfl⟩ := hcs
  have Hcall := Lib.hid hcall; clear hcall
  have Hbx := Lib.hid hbx; clear hbx hf
  rcases look_cases (f := f) with ⟨hl, hno⟩ | ⟨s, hl, hno⟩
  · have Hno := Lib.hid hno; clear hno
    have Hl := Lib.hid hl; clear hl
    go_enter Tryd.func13, Tryd.ntmps13
    go_wp2_with (go_at_call 27; refine (Hcall.out _ Hbx.out.bel).mono ?_; rintro e w2 hp; obtain ⟨rfl, hb2⟩ := Hno.out _ _ _ hp; clear hp)
    go_ret
    exact ⟨Hbx.out.bel.trans (hb2.mono Hbx.out.bel.size), .slice none 0 0, [], rfl, World.ownsRow_nil _ _ _ _, by simp, by simp, fun _ => rfl, fun s hs => (by rw [Hl.out] at hs; cases hs)⟩
  · have Hno := Lib.hid hno; clear hno
    have Hl := Lib.hid hl; clear hl
    go_enter Tryd.func13, Tryd.ntmps13
    go_wp2_with (first
      | (go_at_call 27; refine (Hcall.out _ Hbx.out.bel).mono ?_; rintro e w2 hp; obtain ⟨sb, m1, m2, m3, m4, N, rfl, hN, hsv, hb2⟩ := Hno.out _ _ _ hp; clear hp; have Hsv := Lib.hid hsv; clear hsv; have d : w2.cell? ⟨sb, 3, none⟩ = some (.map (some m2)) := Hsv.out.box.cell 3)
      | (go_at_call 29; refine (keys_bool _ _).mono ?_; rintro e w' ⟨rfl, rfl⟩)
      | (go_at_call 28; refine (sorted_bool w2 Hsv.out.fre (by omega)).mono ?_; rintro e w3 ⟨v, l, rfl, hR, hlen, hrow, hnil, hb3⟩; have HR := Lib.hid hR; clear hR; have Hrow := Lib.hid hrow; clear hrow; have Hnil := Lib.hid hnil; clear hnil; have Hlen := Lib.hid hlen; clear hlen))
    go_ret
    have hb := Hbx.out.bel.trans (hb2.mono Hbx.out.bel.size)
    exact ⟨hb.trans (hb3.mono hb.size), v, l, rfl, own_base Hrow.out (by have := hb.size; omega), Hlen.out, Hnil.out, fun h => (by rw [Hl.out] at h; cases h), fun s' hs' => (by rw [Hl.out] at hs'; rw [← Option.some.inj hs']; exact HR.out)⟩


/-- Positive, by the symbols found. -/
def posV (s : St ByteArray) (nm : ByteArray) : Bool := match getM nm s.syms with | none => true | some u => u.2
def PosPost (f : FB) (nm : ByteArray) (w : World) (e : Ending) (w' : World) : Prop :=
  Below w.heap.size w w' ∧ (Fo.lookF Fo.fitP f = none → e = .returned (.tuple #[.bool false, .int .i64 1])) ∧ ∀ s, Fo.lookF Fo.fitP f = some s → e = .returned (.tuple #[.bool (posV s nm), .int .i64 0])

set_option maxRecDepth 100000 in
set_option maxHeartbeats 1000000 in
theorem fpositive_any (f : FB) (cs : List Value) (nm : ByteArray) (hnm : nm.size ≤ maxLen) (w : World) (B : Nat) (hB : B ≤ w.heap.size) (hf : FVal w (· < B) f cs) : Calls Tryd.prog 20 #[.agg cs.toArray, .string nm] w (PosPost f nm w) := by
  have hcall := fun W (hW : Below w.heap.size w W) => look_any f cs W B (Nat.le_trans hB hW.size) (hf.below (hW.mono hB))
  have hbx := Bx.new w 31 cs.toArray
  have hcs : ∃ k a n A3 n3 c3 A4 n4 c4 A m c, cs = [.int .i64 k, .int .i64 a, .string n, .slice A3 n3 c3, .slice A4 n4 c4, .slice A m c] := by
    obtain ⟨k, a, n, ws, ar, ks⟩ := f
    obtain ⟨A3, n3, c3, A4, n4, c4, A, m, c, h, -⟩ := hf.open_
    exact ⟨k, a, n, A3, n3, c3, A4, n4, c4, A, m, c, h⟩
  obtain ⟨k, a, n, A3, n3, c3, A4, n4, c4, A, m, c, rfl⟩ := hcs
  have Hcall := Lib.hid hcall; clear hcall
  have Hbx := Lib.hid hbx; clear hbx hf
  rcases look_cases (f := f) with ⟨hl, hno⟩ | ⟨s, hl, hno⟩
  · have Hno := Lib.hid hno; clear hno
    have Hl := Lib.hid hl; clear hl
    go_enter Tryd.func20, Tryd.ntmps20
    go_wp2_with (go_at_call 27; refine (Hcall.out _ Hbx.out.bel).mono ?_; rintro e w2 hp; obtain ⟨rfl, hb2⟩ := Hno.out _ _ _ hp; clear hp)
    go_ret2
    exact ⟨Hbx.out.bel.trans (hb2.mono Hbx.out.bel.size), fun _ => rfl, fun s hs => (by rw [Hl.out] at hs; cases hs)⟩
  · have Hno := Lib.hid hno; clear hno
    have Hl := Lib.hid hl; clear hl
    go_enter Tryd.func20, Tryd.ntmps20
    go_upto_region 4 with (go_at_call 27; refine (Hcall.out _ Hbx.out.bel).mono ?_; rintro e w2 hp; obtain ⟨sb, m1, m2, m3, m4, N, rfl, hN, hsv, hb2⟩ := Hno.out _ _ _ hp; clear hp; have Hsv := Lib.hid hsv; clear hsv)
    have d : w2.cell? ⟨sb, 2, none⟩ = some (.map (some m1)) := Hsv.out.box.cell 2
    have hlook := Hsv.out.sym.look (t := 73) Tryd.underlying73 (zeroUse w2) nm hnm true
    simp only [if_true] at hlook
    have hb := Hbx.out.bel.trans (hb2.mono Hbx.out.bel.size)
    cases hg : getM nm s.syms with
    | none =>
      have hlk : lookG (symG s.syms) (.agg #[.int .i64 0, .bool false]) nm = .agg #[.int .i64 0, .bool false] ∧ (symG s.syms nm).isSome = false := by unfold lookG symG; rw [hg]; exact ⟨rfl, rfl⟩
      rw [hlk.1, hlk.2] at hlook
      have hv : true = posV s nm := by unfold posV; rw [hg]
      have Hv := Lib.hid hv; clear hv hlk hg
      go_wp2
      go_ret2
      exact ⟨hb.alloc hb.size _, fun h => (by rw [Hl.out] at h; cases h), fun s' hs' => (by rw [Hl.out] at hs'; rw [← Option.some.inj hs', ← Hv.out]; rfl)⟩
    | some u =>
      obtain ⟨u0, u1⟩ := u
      have hlk : lookG (symG s.syms) (.agg #[.int .i64 0, .bool false]) nm = .agg #[.int .i64 u0, .bool u1] ∧ (symG s.syms nm).isSome = true := by unfold lookG symG; rw [hg]; exact ⟨rfl, rfl⟩
      rw [hlk.1, hlk.2] at hlook
      have hv : u1 = posV s nm := by unfold posV; rw [hg]
      have Hv := Lib.hid hv; clear hv hlk hg
      cases u1
      all_goals
        go_wp2
        go_ret2
        exact ⟨hb.alloc hb.size _, fun h => (by rw [Hl.out] at h; cases h), fun s' hs' => (by rw [Hl.out] at hs'; rw [← Option.some.inj hs', ← Hv.out]; rfl)⟩


def arI (s : St ByteArray) (x : ByteArray) : Int := match getM x s.syms with | none => 0 | some u => u.1
def symC (s : St ByteArray) (x : ByteArray) : List Value := [.string x, .int .i64 (arI s x)]
theorem symC_len (s : St ByteArray) : ∀ l : List ByteArray, (l.flatMap (symC s)).length = l.length * 2
  | [] => rfl
  | a :: l => by rw [List.flatMap_cons, List.length_append, symC_len s l, List.length_cons]; unfold symC; simp; omega
def SymPost (f : FB) (w : World) (e : Ending) (w' : World) : Prop :=
  Below w.heap.size w w' ∧ ∃ v, e = .returned v ∧ (Fo.lookF Fo.fitP f = none → v = .slice none 0 0) ∧ ∀ s, Fo.lookF Fo.fitP f = some s → ∃ l : List ByteArray, l.length ≤ 1000000 ∧ Rising (symG s.syms) l ∧ w'.ownsRow w.heap.size 47 2 v l.length (l.flatMap (symC s))
theorem wpList_append_sym (w : World) {ops : Array Oper} {rest : List Oper} {o : Oper} {a : Act} {Q : Exit → Act → World → Prop} (hgd : o.guard = none) (s x : Operand)
    (ho : o.op = .call { callee := .builtin .append, args := #[s, x], argTypes := #[41, 41] })
    (base : Nat) (v : Value) (n : Nat) (xs : List Value) (hs : a.eval s = v) (hown : w.ownsRow base 47 2 v n xs)
    (g c : Nat) (nm : ByteArray) (ar : Int) (hx : a.eval x = .slice (some ⟨g, 0, none⟩) 1 c) (hc : Blk w g 47 #[.string nm, .int .i64 ar]) (hn : n ≤ 1000000) (hbase : base ≤ w.heap.size)
    (h : ∀ v' w', w'.ownsRow base 47 2 v' (n + 1) (xs ++ [.string nm, .int .i64 ar]) → w.grownBy w' v.ownBlock → wpList Tryd.prog ops Q rest (a.put o.dst v') w') :
    wpList Tryd.prog ops Q (o :: rest) a w := by
  obtain ⟨i0, hi, hz0, hz1, hz2⟩ := info_parts (show (Tryd.prog.info? 47).map (fun i => (i.zero, i.size, i.bytes)) = some (some (.agg #[.string ⟨#[]⟩, .int .i64 0]), 2, 24) by kernel_rfl)
  refine wpList_append_own w hgd s x 41 ho base 47 i0 _ 2 24 Tryd.underlying41 hi hz0 hz1 hz2 rfl (by decide) v n _ hs hown ⟨g, 0, none⟩ 1 c [.string nm, .int .i64 ar] hx rfl ?_ ?_ (by unfold maxLen; omega) (by omega) hbase ?_
  · intro j u hu
    have e : (Addr.mk g 0 none).add j = ⟨g, j, none⟩ := by unfold Addr.add; split <;> simp_all
    rw [e, hc.cell j]
    simpa using hu
  · intro u hu
    simp at hu
    rcases hu with rfl | rfl <;> rfl
  · intro v' w' h1 h2 _
    exact h v' w' h1 h2
theorem sym_info : (Tryd.prog.info? 47).map (fun i => (i.zero, i.size, i.bytes)) = some (some (.agg #[.string ⟨#[]⟩, .int .i64 0]), 2, 24) := by kernel_rfl

set_option maxRecDepth 100000 in
set_option maxHeartbeats 2000000 in
theorem fsymbols_any (f : FB) (cs : List Value) (w : World) (B : Nat) (hB : B ≤ w.heap.size) (hf : FVal w (· < B) f cs) : Calls Tryd.prog 14 #[.agg cs.toArray] w (SymPost f w) := by
  have hcall := fun W (hW : Below w.heap.size w W) => look_any f cs W B (Nat.le_trans hB hW.size) (hf.below (hW.mono hB))
  have hbx := Bx.new w 31 cs.toArray
  have hcs : ∃ k a n A3 n3 c3 A4 n4 c4 A m c, cs = [.int .i64 k, .int .i64 a, .string n, .slice A3 n3 c3, .slice A4 n4 c4, .slice A m c] := by
    obtain ⟨k, a, n, ws, ar, ks⟩ := f
    obtain ⟨A3, n3, c3, A4, n4, c4, A, m, c, h, -⟩ := hf.open_
    exact ⟨k, a, n, A3, n3, c3, A4, n4, c4, A, m, c, h⟩
  obtain ⟨k, a, n, A3, n3, c3, A4, n4, c4, A, m, c, rfl⟩ := hcs
  have Hcall := Lib.hid hcall; clear hcall
  have Hbx := Lib.hid hbx; clear hbx hf
  rcases look_cases (f := f) with ⟨hl, hno⟩ | ⟨s, hl, hno⟩
  · have Hno := Lib.hid hno; clear hno
    have Hl := Lib.hid hl; clear hl
    go_enter Tryd.func14, Tryd.ntmps14
    go_wp2_with (go_at_call 27; refine (Hcall.out _ Hbx.out.bel).mono ?_; rintro e w2 hp; obtain ⟨rfl, hb2⟩ := Hno.out _ _ _ hp; clear hp)
    go_ret
    exact ⟨Hbx.out.bel.trans (hb2.mono Hbx.out.bel.size), .slice none 0 0, rfl, fun _ => rfl, fun s hs => (by rw [Hl.out] at hs; cases hs)⟩
  · have Hno := Lib.hid hno; clear hno
    have Hl := Lib.hid hl; clear hl
    go_enter Tryd.func14, Tryd.ntmps14
    go_wp2_with (first
      | (go_at_call 27; refine (Hcall.out _ Hbx.out.bel).mono ?_; rintro e w2 hp; obtain ⟨sb, m1, m2, m3, m4, N, rfl, hN, hsv, hb2⟩ := Hno.out _ _ _ hp; clear hp; have Hsv := Lib.hid hsv; clear hsv; have d : w2.cell? ⟨sb, 2, none⟩ = some (.map (some m1)) := Hsv.out.box.cell 2)
      | (go_at_call 30; refine (keys_use _ _).mono ?_; rintro e w' ⟨rfl, rfl⟩)
      | (go_at_call 28; refine (sorted_use w2 Hsv.out.sym (by omega)).mono ?_; rintro e w3 ⟨v, l, rfl, hR, hlen, hrow, hnil, hb3⟩; obtain ⟨VA, VC, rfl⟩ := own_slice hrow; have HR := Lib.hid hR; clear hR; have Hrow := Lib.hid hrow; clear hrow hnil; have hlen := hlen; have Hb3 := Lib.hid hb3; clear hb3))
    have hb := Hbx.out.bel.trans (hb2.mono Hbx.out.bel.size)
    have hb30 : Below w.heap.size w w3 := hb.trans (Hb3.out.mono hb.size)
    have hsv3 := Hsv.out.below Hb3.out
    have Hsv3 := Lib.hid hsv3; clear hsv3
    have Hb30 := Lib.hid hb30; clear hb30
    have hcap := own_cap Hrow.out
    clear d hb hb2
    obtain ⟨q, hq⟩ : ∃ q, q = l.length := ⟨_, rfl⟩
    rw [← hq] at hcap hlen Hrow ⊢
    have Hq := Lib.hid hq; clear hq
    have hsz3 : w.heap.size ≤ w3.heap.size := Hb30.out.size
    go_loopw [5, 7, 22] (fun sv _ i wr => ∃ t : Nat, t ≤ q ∧ i = .int .i64 t ∧ wr.ownsRow w3.heap.size 47 2 sv t ((l.take t).flatMap (symC s)) ∧ Below w3.heap.size w3 wr) (fun _ _ i _ => q - (intOf i).toNat)
    case atStart => exact ⟨0, Nat.zero_le _, rfl, by simpa using World.ownsRow_nil _ _ _ _, Below.refl _ _⟩
    case round =>
      obtain ⟨t, ht, rfl, hown, hbr⟩ := hrel
      have Hbr := Lib.hid hbr; clear hbr
      obtain ⟨SA, SC, rfl⟩ := own_slice hown
      have Hown := Lib.hid hown; clear hown
      by_cases hlt : t < q
      · obtain ⟨ad, cs', rfl, hL', hh, hcell⟩ := own_at Hrow.out (by omega)
        have hltl : t < l.length := by have := Hq.out; omega
        have hcc : wr.cell? (ad.add t) = some (.string l[t]) := (Hbr.out.cell (by rw [block_of_add]; exact heap_lt hh)).trans (hcell t _ (by rw [List.getElem?_map, List.getElem?_eq_getElem hltl]; rfl))
        have hxs : l[t].size ≤ maxLen := ((HR.out.2 _).1 (List.getElem_mem hltl)).2
        have hin : (symG s.syms l[t]).isSome = true := ((HR.out.2 _).1 (List.getElem_mem hltl)).1
        have htk : (l.take (t + 1)).flatMap (symC s) = (l.take t).flatMap (symC s) ++ symC s l[t] := by rw [List.take_succ_eq_append_getElem hltl, List.flatMap_append]; simp
        generalize l[t] = x at *
        have hsvr := Hsv3.out.below Hbr.out
        have d2 : wr.cell? ⟨sb, 2, none⟩ = some (.map (some m1)) := hsvr.box.cell 2
        have hlook := hsvr.sym.look (t := 73) Tryd.underlying73 (zeroUse wr) x hxs false
        obtain ⟨u, hu⟩ : ∃ u, getM x s.syms = some u := by
          unfold symG at hin
          cases e : getM x s.syms with
          | none => rw [e] at hin; cases hin
          | some u => exact ⟨u, rfl⟩
        have hlk : lookG (symG s.syms) (.agg #[.int .i64 0, .bool false]) x = .agg #[.int .i64 (arI s x), .bool u.2] := by unfold lookG symG arI; rw [hu]; rfl
        rw [hlk] at hlook
        simp only [Bool.false_eq_true, if_false] at hlook
        have Htk := Lib.hid htk; clear htk hlk hu hin hsvr
        generalize hai : arI s x = ai at *
        have Hai := Lib.hid hai; clear hai
        clear hh hcell
        have hfld : ∀ (W : World), (Instr.field 82 (.agg #[.int .i64 ai, .bool u.2]) 0).run Tryd.prog W = .ok (.int .i64 ai) W := fun W => by kernel_rfl
        have hbrz := Hbr.out.size
        have hbo : ∀ g, (Value.slice SA t SC).ownBlock = some g → w3.heap.size ≤ g := fun g e => (own_block Hown.out e).1
        have Hbo := Lib.hid hbo; clear hbo
        go_wp2_with ((at_builtin; refine wpList_append_sym _ rfl _ _ rfl w3.heap.size _ t _ rfl (Hown.out.alloc _) wr.heap.size 1 x ai rfl (Blk.new wr _ _) (by omega) (by simp; omega) ?_; intro v5 w5 hown5 hg5; obtain ⟨ZA, ZC, rfl⟩ := own_slice hown5; have Hown5 := Lib.hid hown5; clear hown5; have Hg5 := Lib.hid hg5; clear hg5))
        go_roundw
        case rel => exact ⟨t + 1, by omega, by go_num, by rw [Htk.out]; unfold symC; rw [Hai.out]; exact Hown5.out, ((Hbr.out.alloc hbrz _).grown Hg5.out (by simp; omega) Hbo.out)⟩
        case measure => simp [intOf]; omega
      · obtain rfl : t = q := by omega
        have hfin := Hown.out
        rw [List.take_of_length_le (by rw [← Hq.out]; exact Nat.le_refl _)] at hfin
        have Hfin := Lib.hid hfin; clear hfin
        go_wp2
        go_ret
        exact ⟨Hb30.out.trans (Hbr.out.mono hsz3), _, rfl, fun h => (by rw [Hl.out] at h; cases h), fun s' hs' => (by rw [Hl.out] at hs'; rw [← Option.some.inj hs']; exact ⟨l, by rw [← Hq.out]; exact hlen, HR.out, by rw [← Hq.out]; exact own_base Hfin.out hsz3⟩)⟩


end Go.Proofs.YtmnpelhcgobfaaaDoor

/-
  Walks: formula.Parse.
-/
namespace Go.Proofs.YtmnpelhcgobfaaaDoor
open Go.RowKit
open Fo (F)

def zeroF : Value := .agg #[.int .i64 0, .int .i64 0, .string ⟨#[]⟩, .slice none 0 0, .slice none 0 0, .slice none 0 0]
/-- What Parse leaves: the formula, or where and why not. -/
def FPPost (text : ByteArray) (w : World) (e : Ending) (w' : World) : Prop :=
  Below w.heap.size w w' ∧ ∃ v a r, e = .returned (.tuple #[v, .int .i64 a, .int .i64 r]) ∧
    (40000 < text.size → v = zeroF ∧ a = 0 ∧ r = 5) ∧
    (text.size ≤ 40000 → match Fo.readF text.toList with
      | .error i => v = zeroF ∧ a = (i : Int) ∧ r = 3
      | .ok f => if (Fo.lookF Fo.fitP f).isSome = true then NForm w' w.heap.size v f ∧ a = 0 ∧ r = 0 else v = zeroF ∧ a = 0 ∧ r = 1)
theorem FPPost.big {text : ByteArray} {w w' : World} (hb : Below w.heap.size w w') (h : 40000 < text.size) : FPPost text w (.returned (.tuple #[zeroF, .int .i64 0, .int .i64 5])) w' :=
  ⟨hb, _, _, _, rfl, fun _ => ⟨rfl, rfl, rfl⟩, fun h' => by omega⟩
theorem FPPost.err {text : ByteArray} {w w' : World} {i : Nat} (hb : Below w.heap.size w w') (h : text.size ≤ 40000) (hr : Fo.readF text.toList = .error i) : FPPost text w (.returned (.tuple #[zeroF, .int .i64 i, .int .i64 3])) w' :=
  ⟨hb, _, _, _, rfl, fun h' => by omega, fun _ => by rw [hr]; exact ⟨rfl, rfl, rfl⟩⟩
theorem FPPost.bad {text : ByteArray} {w w' : World} {f : FB} (hb : Below w.heap.size w w') (h : text.size ≤ 40000) (hr : Fo.readF text.toList = .ok f) (hv : (Fo.lookF Fo.fitP f).isSome = false) : FPPost text w (.returned (.tuple #[zeroF, .int .i64 0, .int .i64 1])) w' :=
  ⟨hb, _, _, _, rfl, fun h' => by omega, fun _ => by rw [hr]; show (if (Fo.lookF Fo.fitP f).isSome = true then _ else _); rw [if_neg (by simp [hv])]; exact ⟨rfl, rfl, rfl⟩⟩
theorem FPPost.ok {text : ByteArray} {w w' : World} {f : FB} {v : Value} (hb : Below w.heap.size w w') (h : text.size ≤ 40000) (hr : Fo.readF text.toList = .ok f) (hv : (Fo.lookF Fo.fitP f).isSome = true) (hN : NForm w' w.heap.size v f) : FPPost text w (.returned (.tuple #[v, .int .i64 0, .int .i64 0])) w' :=
  ⟨hb, _, _, _, rfl, fun h' => by omega, fun _ => by rw [hr]; show (if (Fo.lookF Fo.fitP f).isSome = true then _ else _); rw [if_pos hv]; exact ⟨hN, rfl, rfl⟩⟩
theorem read_err {s : Fo.Bs} {ts : List Fo.Tok} (h : Fo.formF (Fo.toksAt s 0) = .error ts) : Fo.readF s = .error (Fo.atT s.length ts) := by unfold Fo.readF; rw [h]
theorem read_more {s : Fo.Bs} {f : FB} {ts : List Fo.Tok} (h : Fo.formF (Fo.toksAt s 0) = .ok (f, ts)) (hne : ts ≠ []) : Fo.readF s = .error (Fo.atT s.length ts) := by unfold Fo.readF; rw [h]; simp only []; rw [if_neg hne]
theorem read_ok {s : Fo.Bs} {f : FB} (h : Fo.formF (Fo.toksAt s 0) = .ok (f, [])) : Fo.readF s = .ok f := by unfold Fo.readF; rw [h]; simp

/-- The world after Parse's boxes. -/
abbrev boxedF (w : World) (text : ByteArray) : World :=
  (((w.alloc (.cells #[.int .i64 0, .int .i64 0, .string ⟨#[]⟩, .slice none 0 0, .slice none 0 0, .slice none 0 0] 31)).alloc (.cells #[.int .i64 0] 3)).alloc (.cells #[.int .i64 0] 32)).alloc (.cells #[.string text, .int .i64 0] 59)
theorem boxed_facts (w : World) (text : ByteArray) :
    Blk (boxedF w text) w.heap.size 31 #[.int .i64 0, .int .i64 0, .string ⟨#[]⟩, .slice none 0 0, .slice none 0 0, .slice none 0 0] ∧
    Blk (boxedF w text) (w.heap.size + 1) 3 #[.int .i64 0] ∧ Blk (boxedF w text) (w.heap.size + 2) 32 #[.int .i64 0] ∧ Psr (boxedF w text) (w.heap.size + 3) text 0 ∧
    Below w.heap.size w (boxedF w text) ∧ (boxedF w text).heap.size = w.heap.size + 4 := by
  refine ⟨Blk.alloc (Blk.alloc (Blk.alloc (Blk.new w _ _) _) _) _, ?_, ?_, ?_, ?_, by simp [boxedF]⟩
  · have h := Blk.new (w.alloc (.cells #[.int .i64 0, .int .i64 0, .string ⟨#[]⟩, .slice none 0 0, .slice none 0 0, .slice none 0 0] 31)) 3 #[.int .i64 0]
    rw [World.size_alloc] at h
    exact Blk.alloc (Blk.alloc h _) _
  · have h := Blk.new ((w.alloc (.cells #[.int .i64 0, .int .i64 0, .string ⟨#[]⟩, .slice none 0 0, .slice none 0 0, .slice none 0 0] 31)).alloc (.cells #[.int .i64 0] 3)) 32 #[.int .i64 0]
    rw [World.size_alloc, World.size_alloc] at h
    exact Blk.alloc h _
  · have h := Blk.new (((w.alloc (.cells #[.int .i64 0, .int .i64 0, .string ⟨#[]⟩, .slice none 0 0, .slice none 0 0, .slice none 0 0] 31)).alloc (.cells #[.int .i64 0] 3)).alloc (.cells #[.int .i64 0] 32)) 59 #[.string text, .int .i64 0]
    rw [World.size_alloc, World.size_alloc, World.size_alloc] at h
    exact h
  · exact ((((Below.refl _ _).alloc (Nat.le_refl _) _).alloc (by simp) _).alloc (by simp; omega) _).alloc (by simp; omega) _

set_option maxRecDepth 100000 in
set_option maxHeartbeats 400000 in
theorem fparse_big (text : ByteArray) (w : World) (hs : text.size ≤ 140737488351232) (hbig : 40000 < text.size) :
    Calls Tryd.prog 9 #[.string text] w (FPPost text w) := by
  go_enter_defers Tryd.func9, Tryd.ntmps9
  go_wp2
  refine ⟨.tuple #[zeroF, .int .i64 0, .int .i64 5], ?_, .big ((((Below.refl _ _).alloc (Nat.le_refl _) _).alloc (by simp) _).alloc (by simp; omega) _) hbig⟩
  simp [results, Tryd.f9, go_sem, zeroF]

theorem caught {w0 w1 : World} {a : Nat} {i : Nat} (hb : Below a w0 w1) : Below a w0 (((st6 w1 a (.int .i64 0) (.int .i64 0) (.string ⟨#[]⟩) (.slice none 0 0) (.slice none 0 0) (.slice none 0 0)).setCell ⟨a + 1, 0, none⟩ (.int .i64 i)).setCell ⟨a + 2, 0, none⟩ (.int .i64 3)) := by
  unfold st6
  exact (((((((hb.setCell (p := ⟨a, 0, none⟩) (Nat.le_refl _) _).setCell (p := ⟨a, 1, none⟩) (Nat.le_refl _) _).setCell (p := ⟨a, 2, none⟩) (Nat.le_refl _) _).setCell (p := ⟨a, 3, none⟩) (Nat.le_refl _) _).setCell (p := ⟨a, 4, none⟩) (Nat.le_refl _) _).setCell (p := ⟨a, 5, none⟩) (Nat.le_refl _) _).setCell (p := ⟨a + 1, 0, none⟩) (Nat.le_succ _) _).setCell (p := ⟨a + 2, 0, none⟩) (Nat.le_add_right a 2) _
theorem caught_cells {w1 : World} {a : Nat} {i : Nat} {x0 x1 x2 x3 x4 x5 y z : Value} {t t1 t2 : TypeId} (h : Blk w1 a t #[x0, x1, x2, x3, x4, x5]) (h1 : Blk w1 (a + 1) t1 #[y]) (h2 : Blk w1 (a + 2) t2 #[z]) :
    Blk (((st6 w1 a (.int .i64 0) (.int .i64 0) (.string ⟨#[]⟩) (.slice none 0 0) (.slice none 0 0) (.slice none 0 0)).setCell ⟨a + 1, 0, none⟩ (.int .i64 i)).setCell ⟨a + 2, 0, none⟩ (.int .i64 3)) a t #[.int .i64 0, .int .i64 0, .string ⟨#[]⟩, .slice none 0 0, .slice none 0 0, .slice none 0 0] ∧
    Blk (((st6 w1 a (.int .i64 0) (.int .i64 0) (.string ⟨#[]⟩) (.slice none 0 0) (.slice none 0 0) (.slice none 0 0)).setCell ⟨a + 1, 0, none⟩ (.int .i64 i)).setCell ⟨a + 2, 0, none⟩ (.int .i64 3)) (a + 1) t1 #[.int .i64 i] ∧
    Blk (((st6 w1 a (.int .i64 0) (.int .i64 0) (.string ⟨#[]⟩) (.slice none 0 0) (.slice none 0 0) (.slice none 0 0)).setCell ⟨a + 1, 0, none⟩ (.int .i64 i)).setCell ⟨a + 2, 0, none⟩ (.int .i64 3)) (a + 2) t2 #[.int .i64 3] := by
  have k0 := st6_blk (.int .i64 0) (.int .i64 0) (.string ⟨#[]⟩) (.slice none 0 0) (.slice none 0 0) (.slice none 0 0) h
  have k1 := st6_far (.int .i64 0) (.int .i64 0) (.string ⟨#[]⟩) (.slice none 0 0) (.slice none 0 0) (.slice none 0 0) h1 (show a + 1 ≠ a by omega)
  have k2 := st6_far (.int .i64 0) (.int .i64 0) (.string ⟨#[]⟩) (.slice none 0 0) (.slice none 0 0) (.slice none 0 0) h2 (show a + 2 ≠ a by omega)
  exact ⟨blk_far (blk_far k0 (by omega) 0 _) (by omega) 0 _, blk_far (Blk.set_ k1 0 (.int .i64 i)) (by omega) 0 _, Blk.set_ (blk_far k2 (by omega) 0 _) 0 (.int .i64 3)⟩

set_option maxRecDepth 100000 in
set_option maxHeartbeats 400000 in
theorem fparse_err (text : ByteArray) (w : World) (hs : text.size ≤ 40000) (hw : Words w) (hg : 0 < w.heap.size) {ts : List Fo.Tok} (hf : Fo.formF (Fo.toksAt text.toList 0) = .error ts) :
    Calls Tryd.prog 9 #[.string text] w (FPPost text w) := by
  have hmf : ∀ (fn : Fn) (first cap : Array Value) (w : World), (Instr.makeFunc fn first cap).run Tryd.prog w = .ok (.func fn first cap) w := fun _ _ _ _ => rfl
  have hread := read_err hf
  rw [length_bytes] at hread
  obtain ⟨hb0, hb1, hb2, hb3, hbel, hbs⟩ := boxed_facts w text
  have hw4 : Words (boxedF w text) := hw.keep (hbel.block _ hg)
  have hcall := (formula_any (w.heap.size + 3) text (by omega) (by omega) _ 0 (boxedF w text) (Nat.le_refl _) (Nat.zero_le _) hb3 hw4 (by omega)).mono fun e w' h => h.miss hf
  have Hcall := Lib.hid hcall; clear hcall hf
  have Hb0 := Lib.hid hb0; clear hb0
  have Hb1 := Lib.hid hb1; clear hb1
  have Hb2 := Lib.hid hb2; clear hb2
  have Hbel := Lib.hid hbel; clear hbel
  have Hbs := Lib.hid hbs; clear hbs hb3 hw4
  have Hread := Lib.hid hread; clear hread
  generalize Fo.atT text.size ts = i at *
  go_enter_defers Tryd.func9, Tryd.ntmps9
  go_wp2_with (go_at_call 24; refine (Hcall.out).mono ?_; rintro e w1 ⟨rfl, hg1⟩)
  have k0 := Blk.grown Hb0.out hg1 (by simp)
  have k1 := Blk.grown Hb1.out hg1 (by simp)
  have k2 := Blk.grown Hb2.out hg1 (by simp)
  have bel1 : Below w.heap.size w w1 := Hbel.out.grown hg1 (Hbs.out ▸ Nat.le_add_right _ _) (by rintro k ⟨⟩; omega)
  refine leaves_cons (f := 23) (args := #[.pointer (some ⟨w.heap.size, 0, none⟩), .pointer (some ⟨w.heap.size + 1, 0, none⟩), .pointer (some ⟨w.heap.size + 2, 0, none⟩)]) (by simp) (by simp [go_sem]) ?_
  obtain ⟨⟨z0, z1, z2, z3, z4, z5⟩, f0, f1, f2, f3, f4, f5⟩ := six_cells k0
  refine (catch_stuck w.heap.size (w.heap.size + 1) (w.heap.size + 2) i _ _ _ _ _ _ _ _ [] _ z0 z1 z2 z3 z4 z5 k1.cell0 k2.cell0 f0 f1 f2 f3 f4 f5 (Blk.frozen k1 0) (Blk.frozen k2 0) (by omega) (by omega) (by omega)).mono ?_
  rintro e u' w'' ⟨rfl, rfl, rfl⟩
  obtain ⟨j0, j1, j2⟩ := caught_cells (i := i) k0 k1 k2
  have bel2 := caught (i := i) bel1
  obtain ⟨⟨c0, c1, c2, c3, c4, c5⟩, -⟩ := six_cells j0
  have c6 := Blk.cell0 j1
  have c7 := Blk.cell0 j2
  have hpost := FPPost.err bel2 hs Hread.out
  have Hpost := Lib.hid hpost; clear hpost
  refine ⟨_, ?_, Hpost.out⟩
  simp [results, Tryd.f9, go_sem, c0, c1, c2, c3, c4, c5, c6, c7, zeroF]

theorem litE (W : World) : Strs (W.alloc (.cells #[.string ⟨#[116, 104, 101, 32, 101, 110, 100]⟩] 9)) (· < (W.alloc (.cells #[.string ⟨#[116, 104, 101, 32, 101, 110, 100]⟩] 9)).heap.size) (.slice (some ⟨W.heap.size, 0, none⟩) 1 1) [endK] :=
  strs_lit W 9 [endK] (by simp) (by intro s hs; simp only [List.mem_cons, List.not_mem_nil, or_false] at hs; subst hs; exact Nat.le_of_ble_eq_true rfl) _ (by simp)
theorem end_no {ts : List Fo.Tok} (h : ts ≠ []) : kindT ts ∉ [endK] := by
  intro hm
  simp only [List.mem_cons, List.not_mem_nil, or_false] at hm
  cases ts with
  | nil => exact h rfl
  | cons t r => exact kindB_end _ hm

set_option maxRecDepth 100000 in
set_option maxHeartbeats 1000000 in
theorem fparse_more (text : ByteArray) (w : World) (hs : text.size ≤ 40000) (hw : Words w) (hg : 0 < w.heap.size) {f : FB} {ts : List Fo.Tok} (hf : Fo.formF (Fo.toksAt text.toList 0) = .ok (f, ts)) (hne : ts ≠ []) :
    Calls Tryd.prog 9 #[.string text] w (FPPost text w) := by
  have hread := read_more hf hne
  rw [length_bytes] at hread
  have hmf : ∀ (fn : Fn) (first cap : Array Value) (w : World), (Instr.makeFunc fn first cap).run Tryd.prog w = .ok (.func fn first cap) w := fun _ _ _ _ => rfl
  obtain ⟨hb0, hb1, hb2, hb3, hbel, hbs⟩ := boxed_facts w text
  have hw4 : Words (boxedF w text) := hw.keep (hbel.block _ hg)
  have hcall := (formula_any (w.heap.size + 3) text (by omega) (by omega) _ 0 (boxedF w text) (Nat.le_refl _) (Nat.zero_le _) hb3 hw4 (by omega)).mono fun e w' h => h.hit hf
  rw [hbs] at hcall
  have Hcall := Lib.hid hcall; clear hcall hf
  have Hb0 := Lib.hid hb0; clear hb0
  have Hb1 := Lib.hid hb1; clear hb1
  have Hb2 := Lib.hid hb2; clear hb2
  have Hbel := Lib.hid hbel; clear hbel
  have Hbs := Lib.hid hbs; clear hbs hb3 hw4
  have Hread := Lib.hid hread; clear hread
  go_enter_defers Tryd.func9, Tryd.ntmps9
  go_wp2_with (go_at_call 24; refine (Hcall.out).mono ?_; rintro e w1 ⟨v1, m1, rfl, hg1, hv1, hm1, ht1, hr1⟩; obtain ⟨k1, a1, n1, A3, n3, c3, A4, n4, c4, A5, n5, c5, rfl, hf1⟩ := hv1.open_; have k0 := Blk.grown Hb0.out hg1 (by simp); obtain ⟨⟨z0, z1, z2, z3, z4, z5⟩, f0, f1, f2, f3, f4, f5⟩ := six_cells k0)
  have kk1 := Blk.grown Hb1.out hg1 (by simp)
  have kk2 := Blk.grown Hb2.out hg1 (by simp)
  have bel1 : Below w.heap.size w w1 := Hbel.out.grown hg1 (Hbs.out ▸ Nat.le_add_right _ _) (by rintro k ⟨⟩; omega)
  have hsz1 : w.heap.size + 4 ≤ w1.heap.size := by have := hg1.size; rw [Hbs.out] at this; exact this
  have d0 := st6_blk (.int .i64 k1) (.int .i64 a1) (.string n1) (.slice A3 n3 c3) (.slice A4 n4 c4) (.slice A5 n5 c5) k0
  have d1 := st6_far (.int .i64 k1) (.int .i64 a1) (.string n1) (.slice A3 n3 c3) (.slice A4 n4 c4) (.slice A5 n5 c5) kk1 (show w.heap.size + 1 ≠ w.heap.size by omega)
  have d2 := st6_far (.int .i64 k1) (.int .i64 a1) (.string n1) (.slice A3 n3 c3) (.slice A4 n4 c4) (.slice A5 n5 c5) kk2 (show w.heap.size + 2 ≠ w.heap.size by omega)
  have d3 : Psr _ (w.heap.size + 3) text m1 := st6_far (.int .i64 k1) (.int .i64 a1) (.string n1) (.slice A3 n3 c3) (.slice A4 n4 c4) (.slice A5 n5 c5) hr1 (show w.heap.size + 3 ≠ w.heap.size by omega)
  have hfv := st6_val (.int .i64 k1) (.int .i64 a1) (.string n1) (.slice A3 n3 c3) (.slice A4 n4 c4) (.slice A5 n5 c5) (B := w.heap.size) (FVal.more (fun b hb => ⟨by omega, hb.2⟩) _ _ hf1)
  have hds := st6_size (.int .i64 k1) (.int .i64 a1) (.string n1) (.slice A3 n3 c3) (.slice A4 n4 c4) (.slice A5 n5 c5) w1 w.heap.size
  have bel2 : Below w.heap.size w (st6 w1 w.heap.size (.int .i64 k1) (.int .i64 a1) (.string n1) (.slice A3 n3 c3) (.slice A4 n4 c4) (.slice A5 n5 c5)) := by
    unfold st6
    exact (((((bel1.setCell (p := ⟨w.heap.size, 0, none⟩) (Nat.le_refl _) _).setCell (p := ⟨w.heap.size, 1, none⟩) (Nat.le_refl _) _).setCell (p := ⟨w.heap.size, 2, none⟩) (Nat.le_refl _) _).setCell (p := ⟨w.heap.size, 3, none⟩) (Nat.le_refl _) _).setCell (p := ⟨w.heap.size, 4, none⟩) (Nat.le_refl _) _).setCell (p := ⟨w.heap.size, 5, none⟩) (Nat.le_refl _) _
  clear z0 z1 z2 z3 z4 z5 f0 f1 f2 f3 f4 f5 k0 kk1 kk2 bel1 hr1 hg1 hf1 hv1
  unfold st6 at d0 d1 d2 d3 hfv hds bel2
  generalize ((((((w1.setCell ⟨w.heap.size, 0, none⟩ (.int .i64 k1)).setCell ⟨w.heap.size, 1, none⟩ (.int .i64 a1)).setCell ⟨w.heap.size, 2, none⟩ (.string n1)).setCell ⟨w.heap.size, 3, none⟩ (.slice A3 n3 c3)).setCell ⟨w.heap.size, 4, none⟩ (.slice A4 n4 c4)).setCell ⟨w.heap.size, 5, none⟩ (.slice A5 n5 c5)) = w2 at *
  have hl := litE w2
  rw [hds] at hl
  have Hds := Lib.hid hds; clear hds
  have hcall := take_err (w.heap.size + 3) m1 text _ _ _ (d3.alloc (.cells #[.string ⟨#[116, 104, 101, 32, 101, 110, 100]⟩] 9)) hm1 (by omega) hl ht1 (end_no hne)
  have Hcall2 := Lib.hid hcall; clear hcall hl Hcall
  generalize Fo.atT text.size ts = i at *
  go_wp2_with (go_at_call 25; with_reducible refine (Hcall2.out).mono ?_; rintro e w3 ⟨rfl, hb3⟩)
  have k0 := Blk.below (Blk.alloc d0 (.cells #[.string ⟨#[116, 104, 101, 32, 101, 110, 100]⟩] 9)) hb3 (Blk.alloc d0 _).lt
  have k1' := Blk.below (Blk.alloc d1 (.cells #[.string ⟨#[116, 104, 101, 32, 101, 110, 100]⟩] 9)) hb3 (Blk.alloc d1 _).lt
  have k2' := Blk.below (Blk.alloc d2 (.cells #[.string ⟨#[116, 104, 101, 32, 101, 110, 100]⟩] 9)) hb3 (Blk.alloc d2 _).lt
  have bel3 : Below w.heap.size w w3 := (bel2.alloc (by rw [Hds.out]; omega) (.cells #[.string ⟨#[116, 104, 101, 32, 101, 110, 100]⟩] 9)).trans (hb3.mono (by simp; rw [Hds.out]; omega))
  refine leaves_cons (f := 23) (args := #[.pointer (some ⟨w.heap.size, 0, none⟩), .pointer (some ⟨w.heap.size + 1, 0, none⟩), .pointer (some ⟨w.heap.size + 2, 0, none⟩)]) (by simp) (by simp [go_sem]) ?_
  obtain ⟨⟨z0, z1, z2, z3, z4, z5⟩, f0, f1, f2, f3, f4, f5⟩ := six_cells k0
  refine (catch_stuck w.heap.size (w.heap.size + 1) (w.heap.size + 2) i _ _ _ _ _ _ _ _ [] _ z0 z1 z2 z3 z4 z5 k1'.cell0 k2'.cell0 f0 f1 f2 f3 f4 f5 (Blk.frozen k1' 0) (Blk.frozen k2' 0) (by omega) (by omega) (by omega)).mono ?_
  rintro e u' w'' ⟨rfl, rfl, rfl⟩
  obtain ⟨j0, j1, j2⟩ := caught_cells (i := i) k0 k1' k2'
  have bel4 := caught (i := i) bel3
  obtain ⟨⟨c0, c1, c2, c3', c4', c5'⟩, -⟩ := six_cells j0
  have c6 := Blk.cell0 j1
  have c7 := Blk.cell0 j2
  have hpost := FPPost.err bel4 hs Hread.out
  have Hpost := Lib.hid hpost; clear hpost
  refine ⟨_, ?_, Hpost.out⟩
  simp [results, Tryd.f9, go_sem, c0, c1, c2, c3', c4', c5', c6, c7, zeroF]


theorem fin_below {w0 w1 : World} {a : Nat} (b0 b1 b2 b3 b4 b5 y z : Value) (hb : Below a w0 w1) : Below a w0 (((st6 w1 a b0 b1 b2 b3 b4 b5).setCell ⟨a + 1, 0, none⟩ y).setCell ⟨a + 2, 0, none⟩ z) := by
  unfold st6
  exact (((((((hb.setCell (p := ⟨a, 0, none⟩) (Nat.le_refl _) _).setCell (p := ⟨a, 1, none⟩) (Nat.le_refl _) _).setCell (p := ⟨a, 2, none⟩) (Nat.le_refl _) _).setCell (p := ⟨a, 3, none⟩) (Nat.le_refl _) _).setCell (p := ⟨a, 4, none⟩) (Nat.le_refl _) _).setCell (p := ⟨a, 5, none⟩) (Nat.le_refl _) _).setCell (p := ⟨a + 1, 0, none⟩) (Nat.le_succ _) _).setCell (p := ⟨a + 2, 0, none⟩) (Nat.le_add_right a 2) _
theorem fin_block {w1 : World} {a i : Nat} (b0 b1 b2 b3 b4 b5 y z : Value) (hi : a + 3 ≤ i) : (((st6 w1 a b0 b1 b2 b3 b4 b5).setCell ⟨a + 1, 0, none⟩ y).setCell ⟨a + 2, 0, none⟩ z).heap[i]? = w1.heap[i]? := by
  have e1 : i ≠ a + 2 := by omega
  have e2 : i ≠ a + 1 := by omega
  rw [Below.heap_setCell _ ⟨a + 2, 0, none⟩ _ i e1, Below.heap_setCell _ ⟨a + 1, 0, none⟩ _ i e2, st6_block b0 b1 b2 b3 b4 b5 w1 a i (by omega)]
theorem fin_cells {w1 : World} {a : Nat} {x0 x1 x2 x3 x4 x5 y z : Value} {t t1 t2 : TypeId} (b0 b1 b2 b3 b4 b5 y' z' : Value) (h : Blk w1 a t #[x0, x1, x2, x3, x4, x5]) (h1 : Blk w1 (a + 1) t1 #[y]) (h2 : Blk w1 (a + 2) t2 #[z]) :
    Blk (((st6 w1 a b0 b1 b2 b3 b4 b5).setCell ⟨a + 1, 0, none⟩ y').setCell ⟨a + 2, 0, none⟩ z') a t #[b0, b1, b2, b3, b4, b5] ∧
    Blk (((st6 w1 a b0 b1 b2 b3 b4 b5).setCell ⟨a + 1, 0, none⟩ y').setCell ⟨a + 2, 0, none⟩ z') (a + 1) t1 #[y'] ∧
    Blk (((st6 w1 a b0 b1 b2 b3 b4 b5).setCell ⟨a + 1, 0, none⟩ y').setCell ⟨a + 2, 0, none⟩ z') (a + 2) t2 #[z'] := by
  have k0 := st6_blk b0 b1 b2 b3 b4 b5 h
  have k1 := st6_far b0 b1 b2 b3 b4 b5 h1 (show a + 1 ≠ a by omega)
  have k2 := st6_far b0 b1 b2 b3 b4 b5 h2 (show a + 2 ≠ a by omega)
  exact ⟨blk_far (blk_far k0 (by omega) 0 _) (by omega) 0 _, blk_far (Blk.set_ k1 0 y') (by omega) 0 _, Blk.set_ (blk_far k2 (by omega) 0 _) 0 z'⟩

set_option maxRecDepth 100000 in
set_option maxHeartbeats 1000000 in
theorem fparse_bad (text : ByteArray) (w : World) (hs : text.size ≤ 40000) (hw : Words w) (hg : 0 < w.heap.size) {f : FB} (hf : Fo.formF (Fo.toksAt text.toList 0) = .ok (f, [])) (hval : (Fo.lookF Fo.fitP f).isSome = false) :
    Calls Tryd.prog 9 #[.string text] w (FPPost text w) := by
  have hread := read_ok hf
  have hmf : ∀ (fn : Fn) (first cap : Array Value) (w : World), (Instr.makeFunc fn first cap).run Tryd.prog w = .ok (.func fn first cap) w := fun _ _ _ _ => rfl
  obtain ⟨hb0, hb1, hb2, hb3, hbel, hbs⟩ := boxed_facts w text
  have hw4 : Words (boxedF w text) := hw.keep (hbel.block _ hg)
  have hcall := (formula_any (w.heap.size + 3) text (by omega) (by omega) _ 0 (boxedF w text) (Nat.le_refl _) (Nat.zero_le _) hb3 hw4 (by omega)).mono fun e w' h => h.hit hf
  rw [hbs] at hcall
  have Hcall := Lib.hid hcall; clear hcall hf
  have Hb0 := Lib.hid hb0; clear hb0
  have Hb1 := Lib.hid hb1; clear hb1
  have Hb2 := Lib.hid hb2; clear hb2
  have Hbel := Lib.hid hbel; clear hbel
  have Hbs := Lib.hid hbs; clear hbs hb3 hw4
  have Hread := Lib.hid hread; clear hread
  go_enter_defers Tryd.func9, Tryd.ntmps9
  go_wp2_with (go_at_call 24; refine (Hcall.out).mono ?_; rintro e w1 ⟨v1, m1, rfl, hg1, hv1, hm1, ht1, hr1⟩; obtain ⟨k1, a1, n1, A3, n3, c3, A4, n4, c4, A5, n5, c5, rfl, hf1⟩ := hv1.open_; have k0 := Blk.grown Hb0.out hg1 (by simp); obtain ⟨⟨z0, z1, z2, z3, z4, z5⟩, f0, f1, f2, f3, f4, f5⟩ := six_cells k0)
  have kk1 := Blk.grown Hb1.out hg1 (by simp)
  have kk2 := Blk.grown Hb2.out hg1 (by simp)
  have bel1 : Below w.heap.size w w1 := Hbel.out.grown hg1 (Hbs.out ▸ Nat.le_add_right _ _) (by rintro k ⟨⟩; omega)
  have hsz1 : w.heap.size + 4 ≤ w1.heap.size := by have := hg1.size; rw [Hbs.out] at this; exact this
  have d0 := st6_blk (.int .i64 k1) (.int .i64 a1) (.string n1) (.slice A3 n3 c3) (.slice A4 n4 c4) (.slice A5 n5 c5) k0
  have d1 := st6_far (.int .i64 k1) (.int .i64 a1) (.string n1) (.slice A3 n3 c3) (.slice A4 n4 c4) (.slice A5 n5 c5) kk1 (show w.heap.size + 1 ≠ w.heap.size by omega)
  have d2 := st6_far (.int .i64 k1) (.int .i64 a1) (.string n1) (.slice A3 n3 c3) (.slice A4 n4 c4) (.slice A5 n5 c5) kk2 (show w.heap.size + 2 ≠ w.heap.size by omega)
  have d3 : Psr _ (w.heap.size + 3) text m1 := st6_far (.int .i64 k1) (.int .i64 a1) (.string n1) (.slice A3 n3 c3) (.slice A4 n4 c4) (.slice A5 n5 c5) hr1 (show w.heap.size + 3 ≠ w.heap.size by omega)
  have hfv := FVal.keep (w' := st6 w1 w.heap.size (.int .i64 k1) (.int .i64 a1) (.string n1) (.slice A3 n3 c3) (.slice A4 n4 c4) (.slice A5 n5 c5)) (fun p hp => World.cell?_of_block (st6_block (.int .i64 k1) (.int .i64 a1) (.string n1) (.slice A3 n3 c3) (.slice A4 n4 c4) (.slice A5 n5 c5) w1 w.heap.size p.block (by have := hp.1; omega))) _ _ hf1
  have hds := st6_size (.int .i64 k1) (.int .i64 a1) (.string n1) (.slice A3 n3 c3) (.slice A4 n4 c4) (.slice A5 n5 c5) w1 w.heap.size
  have bel2 : Below w.heap.size w (st6 w1 w.heap.size (.int .i64 k1) (.int .i64 a1) (.string n1) (.slice A3 n3 c3) (.slice A4 n4 c4) (.slice A5 n5 c5)) := by
    unfold st6
    exact (((((bel1.setCell (p := ⟨w.heap.size, 0, none⟩) (Nat.le_refl _) _).setCell (p := ⟨w.heap.size, 1, none⟩) (Nat.le_refl _) _).setCell (p := ⟨w.heap.size, 2, none⟩) (Nat.le_refl _) _).setCell (p := ⟨w.heap.size, 3, none⟩) (Nat.le_refl _) _).setCell (p := ⟨w.heap.size, 4, none⟩) (Nat.le_refl _) _).setCell (p := ⟨w.heap.size, 5, none⟩) (Nat.le_refl _) _
  clear z0 z1 z2 z3 z4 z5 f0 f1 f2 f3 f4 f5 k0 kk1 kk2 bel1 hr1 hg1 hf1 hv1
  unfold st6 at d0 d1 d2 d3 hfv hds bel2
  generalize ((((((w1.setCell ⟨w.heap.size, 0, none⟩ (.int .i64 k1)).setCell ⟨w.heap.size, 1, none⟩ (.int .i64 a1)).setCell ⟨w.heap.size, 2, none⟩ (.string n1)).setCell ⟨w.heap.size, 3, none⟩ (.slice A3 n3 c3)).setCell ⟨w.heap.size, 4, none⟩ (.slice A4 n4 c4)).setCell ⟨w.heap.size, 5, none⟩ (.slice A5 n5 c5)) = w2 at *
  have hl := litE w2
  rw [hds] at hl
  have Hds := Lib.hid hds; clear hds
  have hcall := take_yes (w.heap.size + 3) m1 text _ _ _ (d3.alloc (.cells #[.string ⟨#[116, 104, 101, 32, 101, 110, 100]⟩] 9)) hm1 (by omega) hl (by rw [ht1]; simp [kindT])
  rw [ht1] at hcall
  have Hcall2 := Lib.hid hcall; clear hcall hl Hcall
  go_wp2_with (go_at_call 25; with_reducible refine (Hcall2.out).mono ?_; rintro e w3 ⟨rfl, hr3, hg3⟩; have q0 := Blk.grown (Blk.alloc d0 (.cells #[.string ⟨#[116, 104, 101, 32, 101, 110, 100]⟩] 9)) hg3 (fun e => by injection e with e; omega); obtain ⟨⟨z0, z1, z2, z3, z4, z5⟩, -⟩ := six_cells q0)
  have q1 := Blk.grown (Blk.alloc d1 (.cells #[.string ⟨#[116, 104, 101, 32, 101, 110, 100]⟩] 9)) hg3 (fun e => by injection e with e; omega)
  have q2 := Blk.grown (Blk.alloc d2 (.cells #[.string ⟨#[116, 104, 101, 32, 101, 110, 100]⟩] 9)) hg3 (fun e => by injection e with e; omega)
  have hsz2 := hg3.size
  have hsz3 : w1.heap.size ≤ w3.heap.size := by simp at hsz2; rw [Hds.out] at hsz2; omega
  have bel3 : Below w.heap.size w w3 := (bel2.alloc (by rw [Hds.out]; omega) (.cells #[.string ⟨#[116, 104, 101, 32, 101, 110, 100]⟩] 9)).grown hg3 (by simp; rw [Hds.out]; omega) (by rintro k ⟨⟩; omega)
  have hfv3 := FVal.keep (w' := w3) (fun p hp => World.cell?_of_block ((hg3.block p.block (by simp; rw [Hds.out]; have := hp.2; omega) (fun e => by injection e with e; have := hp.1; omega)).trans (Below.heap_alloc w2 (.cells #[.string ⟨#[116, 104, 101, 32, 101, 110, 100]⟩] 9) p.block (by rw [Hds.out]; exact hp.2)))) _ _ hfv
  have hvalid := fvalid_any f _ w3 w3.heap.size (Nat.le_refl _) (FVal.more (fun b hb => Nat.lt_of_lt_of_le hb.2 hsz3) _ _ hfv3)
  rw [hval] at hvalid
  have Hvalid := Lib.hid hvalid; clear hvalid z0 z1 z2 z3 z4 z5
  go_wp2_with (go_at_call 12; refine (Hvalid.out).mono ?_; rintro e w4 ⟨rfl, hb4⟩; have p0 := Blk.below q0 hb4 q0.lt; have p1 := Blk.below q1 hb4 q1.lt; have p2 := Blk.below q2 hb4 q2.lt; obtain ⟨⟨z0, z1, z2, z3, z4, z5⟩, f0, f1, f2, f3, f4, f5⟩ := six_cells p0; have z6 := Blk.cell0 p1; have z7 := Blk.cell0 p2; have f6 := Blk.frozen p1 0; have f7 := Blk.frozen p2 0)
  refine leaves_cons (f := 23) (args := #[.pointer (some ⟨w.heap.size, 0, none⟩), .pointer (some ⟨w.heap.size + 1, 0, none⟩), .pointer (some ⟨w.heap.size + 2, 0, none⟩)]) (by simp) (by simp [go_sem]) ?_
  refine (catch_idle w.heap.size (w.heap.size + 1) (w.heap.size + 2) _).mono ?_
  rintro e u' w'' ⟨rfl, rfl, rfl⟩
  have bel4 : Below w.heap.size w w4 := bel3.trans (hb4.mono bel3.size)
  have bel5 := fin_below (.int .i64 0) (.int .i64 0) (.string ⟨#[]⟩) (.slice none 0 0) (.slice none 0 0) (.slice none 0 0) (.int .i64 0) (.int .i64 1) bel4
  obtain ⟨j0, j1, j2⟩ := fin_cells (.int .i64 0) (.int .i64 0) (.string ⟨#[]⟩) (.slice none 0 0) (.slice none 0 0) (.slice none 0 0) (.int .i64 0) (.int .i64 1) p0 p1 p2
  obtain ⟨⟨c0, c1, c2, c3', c4', c5'⟩, -⟩ := six_cells j0
  have c6 := Blk.cell0 j1
  have c7 := Blk.cell0 j2
  have hpost := FPPost.bad bel5 hs Hread.out hval
  have Hpost := Lib.hid hpost; clear hpost
  unfold st6 at Hpost c0 c1 c2 c3' c4' c5' c6 c7
  refine ⟨_, ?_, Hpost.out⟩
  simp [results, Tryd.f9, go_sem, c0, c1, c2, c3', c4', c5', c6, c7, zeroF]


set_option maxRecDepth 100000 in
set_option maxHeartbeats 1000000 in
theorem fparse_ok (text : ByteArray) (w : World) (hs : text.size ≤ 40000) (hw : Words w) (hg : 0 < w.heap.size) {f : FB} (hf : Fo.formF (Fo.toksAt text.toList 0) = .ok (f, [])) (hval : (Fo.lookF Fo.fitP f).isSome = true) :
    Calls Tryd.prog 9 #[.string text] w (FPPost text w) := by
  have hread := read_ok hf
  have hmf : ∀ (fn : Fn) (first cap : Array Value) (w : World), (Instr.makeFunc fn first cap).run Tryd.prog w = .ok (.func fn first cap) w := fun _ _ _ _ => rfl
  obtain ⟨hb0, hb1, hb2, hb3, hbel, hbs⟩ := boxed_facts w text
  have hw4 : Words (boxedF w text) := hw.keep (hbel.block _ hg)
  have hcall := (formula_any (w.heap.size + 3) text (by omega) (by omega) _ 0 (boxedF w text) (Nat.le_refl _) (Nat.zero_le _) hb3 hw4 (by omega)).mono fun e w' h => h.hit hf
  rw [hbs] at hcall
  have Hcall := Lib.hid hcall; clear hcall hf
  have Hb0 := Lib.hid hb0; clear hb0
  have Hb1 := Lib.hid hb1; clear hb1
  have Hb2 := Lib.hid hb2; clear hb2
  have Hbel := Lib.hid hbel; clear hbel
  have Hbs := Lib.hid hbs; clear hbs hb3 hw4
  have Hread := Lib.hid hread; clear hread
  go_enter_defers Tryd.func9, Tryd.ntmps9
  go_wp2_with (go_at_call 24; refine (Hcall.out).mono ?_; rintro e w1 ⟨v1, m1, rfl, hg1, hv1, hm1, ht1, hr1⟩; obtain ⟨k1, a1, n1, A3, n3, c3, A4, n4, c4, A5, n5, c5, rfl, hf1⟩ := hv1.open_; have k0 := Blk.grown Hb0.out hg1 (by simp); obtain ⟨⟨z0, z1, z2, z3, z4, z5⟩, f0, f1, f2, f3, f4, f5⟩ := six_cells k0)
  have kk1 := Blk.grown Hb1.out hg1 (by simp)
  have kk2 := Blk.grown Hb2.out hg1 (by simp)
  have bel1 : Below w.heap.size w w1 := Hbel.out.grown hg1 (Hbs.out ▸ Nat.le_add_right _ _) (by rintro k ⟨⟩; omega)
  have hsz1 : w.heap.size + 4 ≤ w1.heap.size := by have := hg1.size; rw [Hbs.out] at this; exact this
  have d0 := st6_blk (.int .i64 k1) (.int .i64 a1) (.string n1) (.slice A3 n3 c3) (.slice A4 n4 c4) (.slice A5 n5 c5) k0
  have d1 := st6_far (.int .i64 k1) (.int .i64 a1) (.string n1) (.slice A3 n3 c3) (.slice A4 n4 c4) (.slice A5 n5 c5) kk1 (show w.heap.size + 1 ≠ w.heap.size by omega)
  have d2 := st6_far (.int .i64 k1) (.int .i64 a1) (.string n1) (.slice A3 n3 c3) (.slice A4 n4 c4) (.slice A5 n5 c5) kk2 (show w.heap.size + 2 ≠ w.heap.size by omega)
  have d3 : Psr _ (w.heap.size + 3) text m1 := st6_far (.int .i64 k1) (.int .i64 a1) (.string n1) (.slice A3 n3 c3) (.slice A4 n4 c4) (.slice A5 n5 c5) hr1 (show w.heap.size + 3 ≠ w.heap.size by omega)
  have hfv := FVal.keep (w' := st6 w1 w.heap.size (.int .i64 k1) (.int .i64 a1) (.string n1) (.slice A3 n3 c3) (.slice A4 n4 c4) (.slice A5 n5 c5)) (fun p hp => World.cell?_of_block (st6_block (.int .i64 k1) (.int .i64 a1) (.string n1) (.slice A3 n3 c3) (.slice A4 n4 c4) (.slice A5 n5 c5) w1 w.heap.size p.block (by have := hp.1; omega))) _ _ hf1
  have hds := st6_size (.int .i64 k1) (.int .i64 a1) (.string n1) (.slice A3 n3 c3) (.slice A4 n4 c4) (.slice A5 n5 c5) w1 w.heap.size
  have bel2 : Below w.heap.size w (st6 w1 w.heap.size (.int .i64 k1) (.int .i64 a1) (.string n1) (.slice A3 n3 c3) (.slice A4 n4 c4) (.slice A5 n5 c5)) := by
    unfold st6
    exact (((((bel1.setCell (p := ⟨w.heap.size, 0, none⟩) (Nat.le_refl _) _).setCell (p := ⟨w.heap.size, 1, none⟩) (Nat.le_refl _) _).setCell (p := ⟨w.heap.size, 2, none⟩) (Nat.le_refl _) _).setCell (p := ⟨w.heap.size, 3, none⟩) (Nat.le_refl _) _).setCell (p := ⟨w.heap.size, 4, none⟩) (Nat.le_refl _) _).setCell (p := ⟨w.heap.size, 5, none⟩) (Nat.le_refl _) _
  clear z0 z1 z2 z3 z4 z5 f0 f1 f2 f3 f4 f5 k0 kk1 kk2 bel1 hr1 hg1 hf1 hv1
  unfold st6 at d0 d1 d2 d3 hfv hds bel2
  generalize ((((((w1.setCell ⟨w.heap.size, 0, none⟩ (.int .i64 k1)).setCell ⟨w.heap.size, 1, none⟩ (.int .i64 a1)).setCell ⟨w.heap.size, 2, none⟩ (.string n1)).setCell ⟨w.heap.size, 3, none⟩ (.slice A3 n3 c3)).setCell ⟨w.heap.size, 4, none⟩ (.slice A4 n4 c4)).setCell ⟨w.heap.size, 5, none⟩ (.slice A5 n5 c5)) = w2 at *
  have hl := litE w2
  rw [hds] at hl
  have Hds := Lib.hid hds; clear hds
  have hcall := take_yes (w.heap.size + 3) m1 text _ _ _ (d3.alloc (.cells #[.string ⟨#[116, 104, 101, 32, 101, 110, 100]⟩] 9)) hm1 (by omega) hl (by rw [ht1]; simp [kindT])
  rw [ht1] at hcall
  have Hcall2 := Lib.hid hcall; clear hcall hl Hcall
  go_wp2_with (go_at_call 25; with_reducible refine (Hcall2.out).mono ?_; rintro e w3 ⟨rfl, hr3, hg3⟩; have q0 := Blk.grown (Blk.alloc d0 (.cells #[.string ⟨#[116, 104, 101, 32, 101, 110, 100]⟩] 9)) hg3 (fun e => by injection e with e; omega); obtain ⟨⟨z0, z1, z2, z3, z4, z5⟩, -⟩ := six_cells q0)
  have q1 := Blk.grown (Blk.alloc d1 (.cells #[.string ⟨#[116, 104, 101, 32, 101, 110, 100]⟩] 9)) hg3 (fun e => by injection e with e; omega)
  have q2 := Blk.grown (Blk.alloc d2 (.cells #[.string ⟨#[116, 104, 101, 32, 101, 110, 100]⟩] 9)) hg3 (fun e => by injection e with e; omega)
  have hsz2 := hg3.size
  have hsz3 : w1.heap.size ≤ w3.heap.size := by simp at hsz2; rw [Hds.out] at hsz2; omega
  have bel3 : Below w.heap.size w w3 := (bel2.alloc (by rw [Hds.out]; omega) (.cells #[.string ⟨#[116, 104, 101, 32, 101, 110, 100]⟩] 9)).grown hg3 (by simp; rw [Hds.out]; omega) (by rintro k ⟨⟩; omega)
  have hfv3 := FVal.keep (w' := w3) (fun p hp => World.cell?_of_block ((hg3.block p.block (by simp; rw [Hds.out]; have := hp.2; omega) (fun e => by injection e with e; have := hp.1; omega)).trans (Below.heap_alloc w2 (.cells #[.string ⟨#[116, 104, 101, 32, 101, 110, 100]⟩] 9) p.block (by rw [Hds.out]; exact hp.2)))) _ _ hfv
  have hvalid := fvalid_any f _ w3 w3.heap.size (Nat.le_refl _) (FVal.more (fun b hb => Nat.lt_of_lt_of_le hb.2 hsz3) _ _ hfv3)
  rw [hval] at hvalid
  have Hvalid := Lib.hid hvalid; clear hvalid z0 z1 z2 z3 z4 z5
  go_wp2_with (go_at_call 12; refine (Hvalid.out).mono ?_; rintro e w4 ⟨rfl, hb4⟩; have p0 := Blk.below q0 hb4 q0.lt; have p1 := Blk.below q1 hb4 q1.lt; have p2 := Blk.below q2 hb4 q2.lt; obtain ⟨⟨z0, z1, z2, z3, z4, z5⟩, f0, f1, f2, f3, f4, f5⟩ := six_cells p0; have z6 := Blk.cell0 p1; have z7 := Blk.cell0 p2; have f6 := Blk.frozen p1 0; have f7 := Blk.frozen p2 0)
  refine leaves_cons (f := 23) (args := #[.pointer (some ⟨w.heap.size, 0, none⟩), .pointer (some ⟨w.heap.size + 1, 0, none⟩), .pointer (some ⟨w.heap.size + 2, 0, none⟩)]) (by simp) (by simp [go_sem]) ?_
  refine (catch_idle w.heap.size (w.heap.size + 1) (w.heap.size + 2) _).mono ?_
  rintro e u' w'' ⟨rfl, rfl, rfl⟩
  have bel4 : Below w.heap.size w w4 := bel3.trans (hb4.mono bel3.size)
  have bel5 := fin_below (.int .i64 k1) (.int .i64 a1) (.string n1) (.slice A3 n3 c3) (.slice A4 n4 c4) (.slice A5 n5 c5) (.int .i64 0) (.int .i64 0) bel4
  obtain ⟨j0, j1, j2⟩ := fin_cells (.int .i64 k1) (.int .i64 a1) (.string n1) (.slice A3 n3 c3) (.slice A4 n4 c4) (.slice A5 n5 c5) (.int .i64 0) (.int .i64 0) p0 p1 p2
  obtain ⟨⟨c0, c1, c2, c3', c4', c5'⟩, -⟩ := six_cells j0
  have c6 := Blk.cell0 j1
  have c7 := Blk.cell0 j2
  have hfv4 := FVal.keep (w' := w4) (fun p hp => hb4.cell (Nat.lt_of_lt_of_le hp.2 hsz3)) _ _ hfv3
  have hfv5 := FVal.keep (w' := ((st6 w4 w.heap.size (.int .i64 k1) (.int .i64 a1) (.string n1) (.slice A3 n3 c3) (.slice A4 n4 c4) (.slice A5 n5 c5)).setCell ⟨w.heap.size + 1, 0, none⟩ (.int .i64 0)).setCell ⟨w.heap.size + 2, 0, none⟩ (.int .i64 0)) (fun p hp => World.cell?_of_block (fin_block (.int .i64 k1) (.int .i64 a1) (.string n1) (.slice A3 n3 c3) (.slice A4 n4 c4) (.slice A5 n5 c5) (.int .i64 0) (.int .i64 0) (by have := hp.1; omega))) _ _ hfv4
  have hN : NForm (((st6 w4 w.heap.size (.int .i64 k1) (.int .i64 a1) (.string n1) (.slice A3 n3 c3) (.slice A4 n4 c4) (.slice A5 n5 c5)).setCell ⟨w.heap.size + 1, 0, none⟩ (.int .i64 0)).setCell ⟨w.heap.size + 2, 0, none⟩ (.int .i64 0)) w.heap.size (.agg #[.int .i64 k1, .int .i64 a1, .string n1, .slice A3 n3 c3, .slice A4 n4 c4, .slice A5 n5 c5]) f := ⟨_, rfl, FVal.more (fun b hb => ⟨by omega, by have h1 := bel5.size; have h2 := hb4.size; have h3 := st6_size (.int .i64 k1) (.int .i64 a1) (.string n1) (.slice A3 n3 c3) (.slice A4 n4 c4) (.slice A5 n5 c5) w4 w.heap.size; simp only [World.setCell, Array.size_modify] at *; omega⟩) _ _ hfv5⟩
  have hpost := FPPost.ok bel5 hs Hread.out hval hN
  have Hpost := Lib.hid hpost; clear hpost
  unfold st6 at Hpost c0 c1 c2 c3' c4' c5' c6 c7
  refine ⟨_, ?_, Hpost.out⟩
  simp [results, Tryd.f9, go_sem, c0, c1, c2, c3', c4', c5', c6, c7]


/-- Parse, at every text: what the grammar reads, or the first token that cannot continue. -/
theorem fparse_any (text : ByteArray) (w : World) (hs : text.size ≤ 140737488351232) (hw : Words w) (hg : 0 < w.heap.size) :
    Calls Tryd.prog 9 #[.string text] w (FPPost text w) := by
  by_cases hbig : 40000 < text.size
  · exact fparse_big text w hs hbig
  · have hs' : text.size ≤ 40000 := by omega
    cases hf : Fo.formF (Fo.toksAt text.toList 0) with
    | error ts => exact fparse_err text w hs' hw hg hf
    | ok p =>
      obtain ⟨f, ts⟩ := p
      by_cases hne : ts = []
      · subst hne
        cases hv : (Fo.lookF Fo.fitP f).isSome
        · exact fparse_bad text w hs' hw hg hf hv
        · exact fparse_ok text w hs' hw hg hf hv
      · exact fparse_more text w hs' hw hg hf hne


end Go.Proofs.YtmnpelhcgobfaaaDoor
