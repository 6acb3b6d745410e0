/-
  Texts joined: Funb.
-/
import Derived.Test.YtmnpelhcgobfaaaDoorJi3
import Derived.Test.YtmnpelhcgobfaaaDoorJi11
import Derived.Deep.RegionHeld3
import Derived.Deep.RegionLaw

/-
  Walks: place.positive, survey.unbound.
-/
namespace Go.Proofs.YtmnpelhcgobfaaaDoor
open Go.RowKit
open Fo (F Bd St getM updM)

/-- wpAnyH_take at operations that are a list: so the operation itself comes out. -/
theorem takeL {P : Program} {md : Region.Mode} {Q : Exit → Act → World → Prop} {S : World → Prop} {l : List Oper} {i : Nat} {oi : Oper} {v : Value} {fuel : Nat} {listed : Array Bool} {a : Act} {w : World} (hi : l[i]? = some oi)
    (hs : Region.noSelect l.toArray = true) (hf : Region.free md l.toArray listed i = true) (hr : (Region.ready md l.toArray listed).contains i = true)
    (hQ : ∀ c a w, Q (.panic c) (a.put oi.dst v) w → Q (.panic c) a w) (hy : YieldsIf P l.toArray S oi v a) (hS : S w)
    (h : wpAnyH P md l.toArray Q S fuel (listed.setIfInBounds i true) (a.put oi.dst v) w) : wpAnyH P md l.toArray Q S (fuel + 1) listed a w :=
  wpAnyH_take (by simpa using hi) hs hf hr hQ hy hS h

def posB (no pf bn bp : Nat) : Bool := decide ((no - bn) % 2 = 0 ∧ pf = bp)

set_option maxRecDepth 100000 in
set_option maxHeartbeats 400000 in
theorem positive_any (no pf bn bp : Nat) (w : World) (h1 : bn ≤ no) (h2 : no ≤ 1000) (_h3 : pf ≤ 1000) (_h4 : bp ≤ 1000) :
    Calls Tryd.prog 66 #[.agg #[.int .i64 (no : Int), .int .i64 (pf : Int)], .agg #[.int .i64 (bn : Int), .int .i64 (bp : Int)]] w fun e w' => e = .returned (.bool (posB no pf bn bp)) ∧ Below w.heap.size w w' := by
  obtain ⟨d, rfl⟩ : ∃ d, no = bn + d := ⟨no - bn, by omega⟩
  have hd : posB (bn + d) pf bn bp = (decide (d % 2 = 0) && decide (pf = bp)) := by
    unfold posB; rw [Nat.add_sub_cancel_left]; rw [Bool.eq_iff_iff]; simp
  rw [hd]
  clear hd
  by_cases hm : d % 2 = 0
  · have e1 : (((bn + d : Nat) : Int) - (bn : Int)) % 2 = 0 := by omega
    rw [decide_eq_true hm]
    go_enter Tryd.func66, Tryd.ntmps66
    go_wp2
    go_ret
    exact ⟨ret_bool (by rw [Bool.eq_iff_iff]; simp; omega), ((Below.refl _ _).alloc (Nat.le_refl _) _).alloc (by simp) _⟩
  · have e1 : ¬ (((bn + d : Nat) : Int) - (bn : Int)) % 2 = 0 := by omega
    rw [decide_eq_false hm]
    go_enter Tryd.func66, Tryd.ntmps66
    go_wp2
    go_ret
    exact ⟨ret_bool (by rw [Bool.eq_iff_iff]; simp), ((Below.refl _ _).alloc (Nat.le_refl _) _).alloc (by simp) _⟩

/-- The world behind a store into a map, as a function. -/
theorem putW_ex (t e : TypeId) (b : Nat) (s : ByteArray) (v : Value) (ht : Tryd.prog.underlying t = some (.map 9 e)) (hs : s.size ≤ maxLen) :
    ∃ F : World → World, ∀ (w : World) (n : Nat) (g : ByteArray → Option Value), MapV w b n g → n < maxLen → (Instr.mapUpdate t (.map (some b)) (.string s) v).run Tryd.prog w = .ok () (F w) ∧ MapV (F w) b (n + 1) (putG g s v) ∧ w.grownBy (F w) (some b) := by
  refine ⟨fun w => match (Instr.mapUpdate t (.map (some b)) (.string s) v).run Tryd.prog w with | .ok _ w' => w' | _ => w, fun w n g h hn => ?_⟩
  obtain ⟨w', h1, h2, h3⟩ := h.put ht hn s hs v
  simp only [h1]
  exact ⟨trivial, h2, h3⟩

theorem zeroUse (w : World) : (zeroValue 82).run Tryd.prog w = .ok (.agg #[.int .i64 0, .bool false]) w := by kernel_rfl
theorem zeroStk (w : World) : (zeroValue 109).run Tryd.prog w = .ok (.slice none 0 0) w := by kernel_rfl
theorem zeroInt (w : World) : (zeroValue 3).run Tryd.prog w = .ok (.int .i64 0) w := by kernel_rfl

/-- What unbound leaves. -/
def UnbPost (L sb m1 m2 m3 m4 N : Nat) (st : St ByteArray) (bd : List (Bd ByteArray)) (vs : List ByteArray) (no pf : Nat) (x : ByteArray) (k : Nat) (w : World) (e : Ending) (w' : World) : Prop :=
  Fr L w w' ∧ match Fo.step1 st.syms (x, ((k : Int), posB no pf 0 0)) with
    | none => e = .returned (.bool false)
    | some sy => e = .returned (.bool true) ∧ Sv w' L sb m1 m2 m3 m4 (N + 1) { st with syms := sy } bd vs no pf

theorem UnbPost.no {L sb m1 m2 m3 m4 N : Nat} {st : St ByteArray} {bd : List (Bd ByteArray)} {vs : List ByteArray} {no pf : Nat} {x : ByteArray} {k : Nat} {w w' : World} (h : Fo.step1 st.syms (x, ((k : Int), posB no pf 0 0)) = none) (hb : Fr L w w') :
    UnbPost L sb m1 m2 m3 m4 N st bd vs no pf x k w (.returned (.bool false)) w' := ⟨hb, by rw [h]⟩
theorem UnbPost.yes {L sb m1 m2 m3 m4 N : Nat} {st : St ByteArray} {bd : List (Bd ByteArray)} {vs : List ByteArray} {no pf : Nat} {x : ByteArray} {k : Nat} {w w' : World} {u : Int × Bool} (h : Fo.step1 st.syms (x, ((k : Int), posB no pf 0 0)) = some (Fo.updM x u st.syms)) (hb : Fr L w w')
    (hs : Sv w' L sb m1 m2 m3 m4 (N + 1) { st with syms := Fo.updM x u st.syms } bd vs no pf) : UnbPost L sb m1 m2 m3 m4 N st bd vs no pf x k w (.returned (.bool true)) w' := ⟨hb, by rw [h]; exact ⟨rfl, hs⟩⟩

/-- What is held while a symbol is noted. -/
structure US (w : World) (L sb m1 m2 m3 m4 N : Nat) (st : St ByteArray) (bd : List (Bd ByteArray)) (vs : List ByteArray) (no pf : Nat) (u0 : Int) (u1 : Bool) (W : World) : Prop where
  sv : Sv W L sb m1 m2 m3 m4 N st bd vs no pf
  bx : Blk W w.heap.size 82 #[.int .i64 u0, .bool u1]
  bel : Below w.heap.size w W
section
variable {w W W' F' : World} {L sb m1 m2 m3 m4 N : Nat} {st : St ByteArray} {bd : List (Bd ByteArray)} {vs : List ByteArray} {no pf : Nat} {u0 : Int} {u1 : Bool}
theorem US.step (h : US w L sb m1 m2 m3 m4 N st bd vs no pf u0 u1 W) (hb : Below W.heap.size W W') : US w L sb m1 m2 m3 m4 N st bd vs no pf u0 u1 W' :=
  ⟨h.sv.below hb, Blk.below h.bx hb (Blk.lt h.bx), h.bel.trans (hb.mono h.bel.size)⟩
theorem US.drew (h : US w L sb m1 m2 m3 m4 N st bd vs no pf u0 u1 W) : US w L sb m1 m2 m3 m4 N st bd vs no pf u0 u1 W.drew := ⟨h.sv.drewN 1, h.bx, below_drewN h.bel 1⟩
end
/-- The cells that it reads, and the store. -/
abbrev UC (w : World) (sb m1 no pf : Nat) (u0 : Int) (u1 : Bool) (x : ByteArray) (v : Value) (F : World → World) (W : World) : Prop :=
  W.cell? ⟨sb, 2, none⟩ = some (.map (some m1)) ∧ W.cell? ⟨sb, 4, none⟩ = some (.int .i64 (no : Int)) ∧ W.cell? ⟨sb, 5, none⟩ = some (.int .i64 (pf : Int)) ∧ W.cell? ⟨w.heap.size, 0, none⟩ = some (.int .i64 u0) ∧ W.cell? ⟨w.heap.size, 1, none⟩ = some (.bool u1) ∧
    (Instr.mapUpdate 73 (.map (some m1)) (.string x) v).run Tryd.prog W = .ok () (F W)

set_option maxRecDepth 100000 in
set_option maxHeartbeats 2000000 in
theorem unbound_new0 {L sb m1 m2 m3 m4 N : Nat} {st : St ByteArray} {bd : List (Bd ByteArray)} {vs : List ByteArray} {no pf : Nat} (x : ByteArray) (k : Nat) (w : World) (hL : L ≤ w.heap.size) (h : Sv w L sb m1 m2 m3 m4 N st bd vs no pf) (hx : x.size ≤ maxLen) (_hk : k ≤ 1000) (hN : N < maxLen) (hno : no ≤ 1000) (hpf : pf ≤ 1000)
    (hlook : (Instr.lookup 73 (.map (some m1)) (.string x) true).run Tryd.prog w = .ok (.tuple #[.agg #[.int .i64 0, .bool false], .bool false]) w) (hp : posB no pf 0 0 = false)
    (hst : Fo.step1 st.syms (x, ((k : Int), posB no pf 0 0)) = some (Fo.updM x ((k : Int), false) st.syms)) :
    Calls Tryd.prog 65 #[.pointer (some ⟨sb, 0, none⟩), .string x, .int .i64 (k : Int)] w (UnbPost L sb m1 m2 m3 m4 N st bd vs no pf x k w) := by
  have c2 : w.cell? ⟨sb, 2, none⟩ = some (.map (some m1)) := h.box.cell 2
  have hus : US w L sb m1 m2 m3 m4 N st bd vs no pf 0 false (w.alloc (.cells #[.int .i64 0, .bool false] 82)) := ⟨h.alloc _, Blk.new w _ _, (Below.refl _ _).alloc (Nat.le_refl _) _⟩
  have hpos := fun W => positive_any no pf 0 0 W (Nat.zero_le _) hno hpf (by omega)
  have H := Lib.hid h; clear h
  obtain ⟨F, hF⟩ := putW_ex 73 82 m1 x (.agg #[.int .i64 (k : Int), .bool false]) Tryd.underlying73 hx
  have huc : ∀ W, US w L sb m1 m2 m3 m4 N st bd vs no pf 0 false W → UC w sb m1 no pf 0 false x (.agg #[.int .i64 (k : Int), .bool false]) F W := fun W hw => ⟨hw.sv.box.cell 2, hw.sv.box.cell 4, hw.sv.box.cell 5, hw.bx.cell 0, hw.bx.cell 1, (hF W N _ hw.sv.sym hN).1⟩
  have hend : ∀ W, US w L sb m1 m2 m3 m4 N st bd vs no pf 0 false W → UnbPost L sb m1 m2 m3 m4 N st bd vs no pf x k w (.returned (.bool true)) (F W) ∧ (fun W => W.cell? ⟨sb, 2, none⟩ = some (.map (some m1)) ∧ W.cell? ⟨sb, 4, none⟩ = some (.int .i64 (no : Int)) ∧ W.cell? ⟨sb, 5, none⟩ = some (.int .i64 (pf : Int)) ∧ W.cell? ⟨w.heap.size, 0, none⟩ = some (.int .i64 0) ∧ W.cell? ⟨w.heap.size, 1, none⟩ = some (.bool false)) (F W) := fun W hw => by
    obtain ⟨-, h2, h3⟩ := hF W N _ hw.sv.sym hN
    have hl1 := hw.sv.l1
    have hsv := hw.sv.put_sym (u := ((k : Int), false)) h2 h3
    have hbx := hw.bx.grown h3 (some_ne (hw.sv.sym.ne_blk hw.bx).symm)
    exact ⟨.yes hst ((Fr.of hL hw.bel).map hw.sv.sym h3 hl1 (Nat.le_trans hL hw.bel.size)) hsv, hsv.box.cell 2, hsv.box.cell 4, hsv.box.cell 5, hbx.cell 0, hbx.cell 1⟩
  clear hst
  have Hend := Lib.hid hend; clear hend
  have HF := Lib.hid hF; clear hF
  have Hus := Lib.hid hus; clear hus
  have Huc := Lib.hid huc; clear huc
  rw [hp] at hpos
  clear hp
  have Hpos := Lib.hid hpos; clear hpos
  go_enter Tryd.func65, Tryd.ntmps65
  go_wp2
  have hpc : ∀ W, US w L sb m1 m2 m3 m4 N st bd vs no pf 0 false W → Calls Tryd.prog 66 #[.agg #[.int .i64 (no : Int), .int .i64 (pf : Int)], .agg #[.int .i64 0, .int .i64 0]] W fun e w' => e = .returned (.bool false) ∧ UC w sb m1 no pf 0 false x (.agg #[.int .i64 (k : Int), .bool false]) F w' ∧ US w L sb m1 m2 m3 m4 N st bd vs no pf 0 false w' := fun W hw =>
    (Hpos.out W).mono fun _ _ ⟨he, hb⟩ => ⟨he, Huc.out _ (hw.step hb), hw.step hb⟩
  have Hpc := Lib.hid hpc; clear hpc
  obtain ⟨c21, c41, c51, d01, d11, -⟩ := Huc.out _ Hus.out
  refine wp_region_held_drew (S := fun W => W.cell? ⟨sb, 2, none⟩ = some (.map (some m1)) ∧ W.cell? ⟨sb, 4, none⟩ = some (.int .i64 (no : Int)) ∧ W.cell? ⟨sb, 5, none⟩ = some (.int .i64 (pf : Int)) ∧ W.cell? ⟨w.heap.size, 0, none⟩ = some (.int .i64 0) ∧ W.cell? ⟨w.heap.size, 1, none⟩ = some (.bool false)) (by kernel_rfl) (⟨c21, c41, c51, d01, d11⟩) (fun hHeld => ?_)
  refine takeL (i := 0) (v := ?_) rfl (by kernel_rfl) (by kernel_rfl) (by kernel_rfl) (fun _ _ _ h => h) (Or.inl ⟨by kernel_rfl, ?_⟩) (by assumption) ?_
  rotate_left
  · (intro w' hSw; (try dsimp only at hSw); go_simp; (try with_reducible rfl))
  try simp only [Act.put, List.setIfInBounds_toArray, List.set_cons_zero, List.set_cons_succ]
  refine takeL (i := 1) (v := ?_) rfl (by kernel_rfl) (by kernel_rfl) (by kernel_rfl) (fun _ _ _ h => h) (Or.inl ⟨by kernel_rfl, ?_⟩) (by assumption) ?_
  rotate_left
  · (intro w' hSw; (try dsimp only at hSw); go_simp; (try with_reducible rfl))
  try simp only [Act.put, List.setIfInBounds_toArray, List.set_cons_zero, List.set_cons_succ]
  refine takeL (i := 2) (v := ?_) rfl (by kernel_rfl) (by kernel_rfl) (by kernel_rfl) (fun _ _ _ h => h) (Or.inl ⟨by kernel_rfl, ?_⟩) (by assumption) ?_
  rotate_left
  · (intro w' hSw; (try dsimp only at hSw); go_simp; (try with_reducible rfl))
  try simp only [Act.put, List.setIfInBounds_toArray, List.set_cons_zero, List.set_cons_succ]
  refine takeL (i := 3) (v := ?_) rfl (by kernel_rfl) (by kernel_rfl) (by kernel_rfl) (fun _ _ _ h => h) (Or.inl ⟨by kernel_rfl, ?_⟩) (by assumption) ?_
  rotate_left
  · (intro w' hSw; (try dsimp only at hSw); go_simp; (try with_reducible rfl))
  try simp only [Act.put, List.setIfInBounds_toArray, List.set_cons_zero, List.set_cons_succ]
  refine takeL (i := 4) (v := ?_) rfl (by kernel_rfl) (by kernel_rfl) (by kernel_rfl) (fun _ _ _ h => h) (Or.inl ⟨by kernel_rfl, ?_⟩) (by assumption) ?_
  rotate_left
  · (intro w' hSw; (try dsimp only at hSw); go_simp; (try with_reducible rfl))
  try simp only [Act.put, List.setIfInBounds_toArray, List.set_cons_zero, List.set_cons_succ]
  refine takeL (i := 5) (v := ?_) rfl (by kernel_rfl) (by kernel_rfl) (by kernel_rfl) (fun _ _ _ h => h) (Or.inl ⟨by kernel_rfl, ?_⟩) (by assumption) ?_
  rotate_left
  · (intro w' hSw; (try dsimp only at hSw); go_simp; (try with_reducible rfl))
  try simp only [Act.put, List.setIfInBounds_toArray, List.set_cons_zero, List.set_cons_succ]
  refine takeL (i := 6) (v := ?_) rfl (by kernel_rfl) (by kernel_rfl) (by kernel_rfl) (fun _ _ _ h => h) (Or.inl ⟨by kernel_rfl, ?_⟩) (by assumption) ?_
  rotate_left
  · (intro w' hSw; (try dsimp only at hSw); go_simp; (try with_reducible rfl))
  try simp only [Act.put, List.setIfInBounds_toArray, List.set_cons_zero, List.set_cons_succ]
  refine takeL (i := 7) (v := ?_) rfl (by kernel_rfl) (by kernel_rfl) (by kernel_rfl) (fun _ _ _ h => h) (Or.inl ⟨by kernel_rfl, ?_⟩) (by assumption) ?_
  rotate_left
  · (intro w' hSw; (try dsimp only at hSw); go_simp; (try with_reducible rfl))
  try simp only [Act.put, List.setIfInBounds_toArray, List.set_cons_zero, List.set_cons_succ]
  refine takeL (i := 8) (v := ?_) rfl (by kernel_rfl) (by kernel_rfl) (by kernel_rfl) (fun _ _ _ h => h) (Or.inl ⟨by kernel_rfl, ?_⟩) (by assumption) ?_
  rotate_left
  · (intro w' hSw; (try dsimp only at hSw); go_simp; (try with_reducible rfl))
  try simp only [Act.put, List.setIfInBounds_toArray, List.set_cons_zero, List.set_cons_succ]
  refine takeL (i := 9) (v := ?_) rfl (by kernel_rfl) (by kernel_rfl) (by kernel_rfl) (fun _ _ _ h => h) (Or.inl ⟨by kernel_rfl, ?_⟩) (by assumption) ?_
  rotate_left
  · (intro w' hSw; (try dsimp only at hSw); go_simp; (try with_reducible rfl))
  try simp only [Act.put, List.setIfInBounds_toArray, List.set_cons_zero, List.set_cons_succ]
  refine takeL (i := 10) (v := ?_) rfl (by kernel_rfl) (by kernel_rfl) (by kernel_rfl) (fun _ _ _ h => h) (Or.inl ⟨by kernel_rfl, ?_⟩) (by assumption) ?_
  rotate_left
  · (intro w' hSw; (try dsimp only at hSw); go_simp; (try with_reducible rfl))
  try simp only [Act.put, List.setIfInBounds_toArray, List.set_cons_zero, List.set_cons_succ]
  refine wpAnyH_ready (rs := [11]) (by kernel_rfl) (by simp) ?_
  refine AllReadyH.cons rfl (fun K hK => ?_) AllReadyH.nil
  go_simp
  refine (Hpc.out _ (US.drew Hus.out)).mono ?_
  rintro e w2 ⟨rfl, ⟨c22, c42, c52, d02, d12, hrun⟩, hus2⟩
  refine hK.out _ _ ?_ (fun hHeld => ?_)
  · exact ⟨c22, c42, c52, d02, d12⟩
  clear hK K
  try simp only [Act.put, List.setIfInBounds_toArray, List.set_cons_zero, List.set_cons_succ]
  refine takeL (i := 12) (v := ?_) rfl (by kernel_rfl) (by kernel_rfl) (by kernel_rfl) (fun _ _ _ h => h) (Or.inl ⟨by kernel_rfl, ?_⟩) (by assumption) ?_
  rotate_left
  · (intro w' hSw; (try dsimp only at hSw); go_simp; (try with_reducible rfl))
  try simp only [Act.put, List.setIfInBounds_toArray, List.set_cons_zero, List.set_cons_succ]
  refine takeL (i := 13) (v := undef) rfl (by kernel_rfl) (by kernel_rfl) (by kernel_rfl) (fun _ _ _ h => h) (Or.inr ⟨by kernel_rfl, rfl⟩) (by assumption) ?_
  try simp only [Act.put, List.setIfInBounds_toArray, List.set_cons_zero, List.set_cons_succ]
  refine takeL (i := 14) (v := undef) rfl (by kernel_rfl) (by kernel_rfl) (by kernel_rfl) (fun _ _ _ h => h) (Or.inr ⟨by kernel_rfl, rfl⟩) (by assumption) ?_
  try simp only [Act.put, List.setIfInBounds_toArray, List.set_cons_zero, List.set_cons_succ]
  refine takeL (i := 15) (v := undef) rfl (by kernel_rfl) (by kernel_rfl) (by kernel_rfl) (fun _ _ _ h => h) (Or.inr ⟨by kernel_rfl, rfl⟩) (by assumption) ?_
  try simp only [Act.put, List.setIfInBounds_toArray, List.set_cons_zero, List.set_cons_succ]
  refine takeL (i := 16) (v := undef) rfl (by kernel_rfl) (by kernel_rfl) (by kernel_rfl) (fun _ _ _ h => h) (Or.inr ⟨by kernel_rfl, rfl⟩) (by assumption) ?_
  try simp only [Act.put, List.setIfInBounds_toArray, List.set_cons_zero, List.set_cons_succ]
  refine takeL (i := 17) (v := undef) rfl (by kernel_rfl) (by kernel_rfl) (by kernel_rfl) (fun _ _ _ h => h) (Or.inr ⟨by kernel_rfl, rfl⟩) (by assumption) ?_
  try simp only [Act.put, List.setIfInBounds_toArray, List.set_cons_zero, List.set_cons_succ]
  refine takeL (i := 18) (v := undef) rfl (by kernel_rfl) (by kernel_rfl) (by kernel_rfl) (fun _ _ _ h => h) (Or.inr ⟨by kernel_rfl, rfl⟩) (by assumption) ?_
  try simp only [Act.put, List.setIfInBounds_toArray, List.set_cons_zero, List.set_cons_succ]
  refine takeL (i := 19) (v := ?_) rfl (by kernel_rfl) (by kernel_rfl) (by kernel_rfl) (fun _ _ _ h => h) (Or.inl ⟨by kernel_rfl, ?_⟩) (by assumption) ?_
  rotate_left
  · (intro w' hSw; (try dsimp only at hSw); go_simp; (try with_reducible rfl))
  try simp only [Act.put, List.setIfInBounds_toArray, List.set_cons_zero, List.set_cons_succ]
  refine takeL (i := 20) (v := ?_) rfl (by kernel_rfl) (by kernel_rfl) (by kernel_rfl) (fun _ _ _ h => h) (Or.inl ⟨by kernel_rfl, ?_⟩) (by assumption) ?_
  rotate_left
  · (intro w' hSw; (try dsimp only at hSw); go_simp; (try with_reducible rfl))
  try simp only [Act.put, List.setIfInBounds_toArray, List.set_cons_zero, List.set_cons_succ]
  refine wpAnyH_ready (rs := [21]) (by kernel_rfl) (by simp) ?_
  refine AllReadyH.cons rfl (fun K hK => ?_) AllReadyH.nil
  go_simp
  refine hK.out _ _ ?_ (fun hHeld => ?_)
  · exact (Hend.out _ hus2).2
  clear hK K
  try simp only [Act.put, List.setIfInBounds_toArray, List.set_cons_zero, List.set_cons_succ]
  refine wpAnyH_done (by kernel_rfl) ?_ _
  have Hfin := Lib.hid (Hend.out _ hus2).1
  generalize F w2 = w3 at *
  clear c21 c41 c51 d01 d11 c22 c42 c52 d02 d12 hrun hus2 Hpc Hend HF Huc Hus
  go_wp2
  go_ret
  exact Hfin.out

set_option maxRecDepth 100000 in
set_option maxHeartbeats 2000000 in
theorem unbound_new1 {L sb m1 m2 m3 m4 N : Nat} {st : St ByteArray} {bd : List (Bd ByteArray)} {vs : List ByteArray} {no pf : Nat} (x : ByteArray) (k : Nat) (w : World) (hL : L ≤ w.heap.size) (h : Sv w L sb m1 m2 m3 m4 N st bd vs no pf) (hx : x.size ≤ maxLen) (_hk : k ≤ 1000) (hN : N < maxLen) (hno : no ≤ 1000) (hpf : pf ≤ 1000)
    (hlook : (Instr.lookup 73 (.map (some m1)) (.string x) true).run Tryd.prog w = .ok (.tuple #[.agg #[.int .i64 0, .bool false], .bool false]) w) (hp : posB no pf 0 0 = true)
    (hst : Fo.step1 st.syms (x, ((k : Int), posB no pf 0 0)) = some (Fo.updM x ((k : Int), true) st.syms)) :
    Calls Tryd.prog 65 #[.pointer (some ⟨sb, 0, none⟩), .string x, .int .i64 (k : Int)] w (UnbPost L sb m1 m2 m3 m4 N st bd vs no pf x k w) := by
  have c2 : w.cell? ⟨sb, 2, none⟩ = some (.map (some m1)) := h.box.cell 2
  have hus : US w L sb m1 m2 m3 m4 N st bd vs no pf 0 false (w.alloc (.cells #[.int .i64 0, .bool false] 82)) := ⟨h.alloc _, Blk.new w _ _, (Below.refl _ _).alloc (Nat.le_refl _) _⟩
  have hpos := fun W => positive_any no pf 0 0 W (Nat.zero_le _) hno hpf (by omega)
  have H := Lib.hid h; clear h
  obtain ⟨F, hF⟩ := putW_ex 73 82 m1 x (.agg #[.int .i64 (k : Int), .bool true]) Tryd.underlying73 hx
  have huc : ∀ W, US w L sb m1 m2 m3 m4 N st bd vs no pf 0 false W → UC w sb m1 no pf 0 false x (.agg #[.int .i64 (k : Int), .bool true]) F W := fun W hw => ⟨hw.sv.box.cell 2, hw.sv.box.cell 4, hw.sv.box.cell 5, hw.bx.cell 0, hw.bx.cell 1, (hF W N _ hw.sv.sym hN).1⟩
  have hend : ∀ W, US w L sb m1 m2 m3 m4 N st bd vs no pf 0 false W → UnbPost L sb m1 m2 m3 m4 N st bd vs no pf x k w (.returned (.bool true)) (F W) ∧ (fun W => W.cell? ⟨sb, 2, none⟩ = some (.map (some m1)) ∧ W.cell? ⟨sb, 4, none⟩ = some (.int .i64 (no : Int)) ∧ W.cell? ⟨sb, 5, none⟩ = some (.int .i64 (pf : Int)) ∧ W.cell? ⟨w.heap.size, 0, none⟩ = some (.int .i64 0) ∧ W.cell? ⟨w.heap.size, 1, none⟩ = some (.bool false)) (F W) := fun W hw => by
    obtain ⟨-, h2, h3⟩ := hF W N _ hw.sv.sym hN
    have hl1 := hw.sv.l1
    have hsv := hw.sv.put_sym (u := ((k : Int), true)) h2 h3
    have hbx := hw.bx.grown h3 (some_ne (hw.sv.sym.ne_blk hw.bx).symm)
    exact ⟨.yes hst ((Fr.of hL hw.bel).map hw.sv.sym h3 hl1 (Nat.le_trans hL hw.bel.size)) hsv, hsv.box.cell 2, hsv.box.cell 4, hsv.box.cell 5, hbx.cell 0, hbx.cell 1⟩
  clear hst
  have Hend := Lib.hid hend; clear hend
  have HF := Lib.hid hF; clear hF
  have Hus := Lib.hid hus; clear hus
  have Huc := Lib.hid huc; clear huc
  rw [hp] at hpos
  clear hp
  have Hpos := Lib.hid hpos; clear hpos
  go_enter Tryd.func65, Tryd.ntmps65
  go_wp2
  have hpc : ∀ W, US w L sb m1 m2 m3 m4 N st bd vs no pf 0 false W → Calls Tryd.prog 66 #[.agg #[.int .i64 (no : Int), .int .i64 (pf : Int)], .agg #[.int .i64 0, .int .i64 0]] W fun e w' => e = .returned (.bool true) ∧ UC w sb m1 no pf 0 false x (.agg #[.int .i64 (k : Int), .bool true]) F w' ∧ US w L sb m1 m2 m3 m4 N st bd vs no pf 0 false w' := fun W hw =>
    (Hpos.out W).mono fun _ _ ⟨he, hb⟩ => ⟨he, Huc.out _ (hw.step hb), hw.step hb⟩
  have Hpc := Lib.hid hpc; clear hpc
  obtain ⟨c21, c41, c51, d01, d11, -⟩ := Huc.out _ Hus.out
  refine wp_region_held_drew (S := fun W => W.cell? ⟨sb, 2, none⟩ = some (.map (some m1)) ∧ W.cell? ⟨sb, 4, none⟩ = some (.int .i64 (no : Int)) ∧ W.cell? ⟨sb, 5, none⟩ = some (.int .i64 (pf : Int)) ∧ W.cell? ⟨w.heap.size, 0, none⟩ = some (.int .i64 0) ∧ W.cell? ⟨w.heap.size, 1, none⟩ = some (.bool false)) (by kernel_rfl) (⟨c21, c41, c51, d01, d11⟩) (fun hHeld => ?_)
  refine takeL (i := 0) (v := ?_) rfl (by kernel_rfl) (by kernel_rfl) (by kernel_rfl) (fun _ _ _ h => h) (Or.inl ⟨by kernel_rfl, ?_⟩) (by assumption) ?_
  rotate_left
  · (intro w' hSw; (try dsimp only at hSw); go_simp; (try with_reducible rfl))
  try simp only [Act.put, List.setIfInBounds_toArray, List.set_cons_zero, List.set_cons_succ]
  refine takeL (i := 1) (v := ?_) rfl (by kernel_rfl) (by kernel_rfl) (by kernel_rfl) (fun _ _ _ h => h) (Or.inl ⟨by kernel_rfl, ?_⟩) (by assumption) ?_
  rotate_left
  · (intro w' hSw; (try dsimp only at hSw); go_simp; (try with_reducible rfl))
  try simp only [Act.put, List.setIfInBounds_toArray, List.set_cons_zero, List.set_cons_succ]
  refine takeL (i := 2) (v := ?_) rfl (by kernel_rfl) (by kernel_rfl) (by kernel_rfl) (fun _ _ _ h => h) (Or.inl ⟨by kernel_rfl, ?_⟩) (by assumption) ?_
  rotate_left
  · (intro w' hSw; (try dsimp only at hSw); go_simp; (try with_reducible rfl))
  try simp only [Act.put, List.setIfInBounds_toArray, List.set_cons_zero, List.set_cons_succ]
  refine takeL (i := 3) (v := ?_) rfl (by kernel_rfl) (by kernel_rfl) (by kernel_rfl) (fun _ _ _ h => h) (Or.inl ⟨by kernel_rfl, ?_⟩) (by assumption) ?_
  rotate_left
  · (intro w' hSw; (try dsimp only at hSw); go_simp; (try with_reducible rfl))
  try simp only [Act.put, List.setIfInBounds_toArray, List.set_cons_zero, List.set_cons_succ]
  refine takeL (i := 4) (v := ?_) rfl (by kernel_rfl) (by kernel_rfl) (by kernel_rfl) (fun _ _ _ h => h) (Or.inl ⟨by kernel_rfl, ?_⟩) (by assumption) ?_
  rotate_left
  · (intro w' hSw; (try dsimp only at hSw); go_simp; (try with_reducible rfl))
  try simp only [Act.put, List.setIfInBounds_toArray, List.set_cons_zero, List.set_cons_succ]
  refine takeL (i := 5) (v := ?_) rfl (by kernel_rfl) (by kernel_rfl) (by kernel_rfl) (fun _ _ _ h => h) (Or.inl ⟨by kernel_rfl, ?_⟩) (by assumption) ?_
  rotate_left
  · (intro w' hSw; (try dsimp only at hSw); go_simp; (try with_reducible rfl))
  try simp only [Act.put, List.setIfInBounds_toArray, List.set_cons_zero, List.set_cons_succ]
  refine takeL (i := 6) (v := ?_) rfl (by kernel_rfl) (by kernel_rfl) (by kernel_rfl) (fun _ _ _ h => h) (Or.inl ⟨by kernel_rfl, ?_⟩) (by assumption) ?_
  rotate_left
  · (intro w' hSw; (try dsimp only at hSw); go_simp; (try with_reducible rfl))
  try simp only [Act.put, List.setIfInBounds_toArray, List.set_cons_zero, List.set_cons_succ]
  refine takeL (i := 7) (v := ?_) rfl (by kernel_rfl) (by kernel_rfl) (by kernel_rfl) (fun _ _ _ h => h) (Or.inl ⟨by kernel_rfl, ?_⟩) (by assumption) ?_
  rotate_left
  · (intro w' hSw; (try dsimp only at hSw); go_simp; (try with_reducible rfl))
  try simp only [Act.put, List.setIfInBounds_toArray, List.set_cons_zero, List.set_cons_succ]
  refine takeL (i := 8) (v := ?_) rfl (by kernel_rfl) (by kernel_rfl) (by kernel_rfl) (fun _ _ _ h => h) (Or.inl ⟨by kernel_rfl, ?_⟩) (by assumption) ?_
  rotate_left
  · (intro w' hSw; (try dsimp only at hSw); go_simp; (try with_reducible rfl))
  try simp only [Act.put, List.setIfInBounds_toArray, List.set_cons_zero, List.set_cons_succ]
  refine takeL (i := 9) (v := ?_) rfl (by kernel_rfl) (by kernel_rfl) (by kernel_rfl) (fun _ _ _ h => h) (Or.inl ⟨by kernel_rfl, ?_⟩) (by assumption) ?_
  rotate_left
  · (intro w' hSw; (try dsimp only at hSw); go_simp; (try with_reducible rfl))
  try simp only [Act.put, List.setIfInBounds_toArray, List.set_cons_zero, List.set_cons_succ]
  refine takeL (i := 10) (v := ?_) rfl (by kernel_rfl) (by kernel_rfl) (by kernel_rfl) (fun _ _ _ h => h) (Or.inl ⟨by kernel_rfl, ?_⟩) (by assumption) ?_
  rotate_left
  · (intro w' hSw; (try dsimp only at hSw); go_simp; (try with_reducible rfl))
  try simp only [Act.put, List.setIfInBounds_toArray, List.set_cons_zero, List.set_cons_succ]
  refine wpAnyH_ready (rs := [11]) (by kernel_rfl) (by simp) ?_
  refine AllReadyH.cons rfl (fun K hK => ?_) AllReadyH.nil
  go_simp
  refine (Hpc.out _ (US.drew Hus.out)).mono ?_
  rintro e w2 ⟨rfl, ⟨c22, c42, c52, d02, d12, hrun⟩, hus2⟩
  refine hK.out _ _ ?_ (fun hHeld => ?_)
  · exact ⟨c22, c42, c52, d02, d12⟩
  clear hK K
  try simp only [Act.put, List.setIfInBounds_toArray, List.set_cons_zero, List.set_cons_succ]
  refine takeL (i := 12) (v := ?_) rfl (by kernel_rfl) (by kernel_rfl) (by kernel_rfl) (fun _ _ _ h => h) (Or.inl ⟨by kernel_rfl, ?_⟩) (by assumption) ?_
  rotate_left
  · (intro w' hSw; (try dsimp only at hSw); go_simp; (try with_reducible rfl))
  try simp only [Act.put, List.setIfInBounds_toArray, List.set_cons_zero, List.set_cons_succ]
  refine takeL (i := 13) (v := ?_) rfl (by kernel_rfl) (by kernel_rfl) (by kernel_rfl) (fun _ _ _ h => h) (Or.inl ⟨by kernel_rfl, ?_⟩) (by assumption) ?_
  rotate_left
  · (intro w' hSw; (try dsimp only at hSw); go_simp; (try with_reducible rfl))
  try simp only [Act.put, List.setIfInBounds_toArray, List.set_cons_zero, List.set_cons_succ]
  refine takeL (i := 14) (v := ?_) rfl (by kernel_rfl) (by kernel_rfl) (by kernel_rfl) (fun _ _ _ h => h) (Or.inl ⟨by kernel_rfl, ?_⟩) (by assumption) ?_
  rotate_left
  · (intro w' hSw; (try dsimp only at hSw); go_simp; (try with_reducible rfl))
  try simp only [Act.put, List.setIfInBounds_toArray, List.set_cons_zero, List.set_cons_succ]
  refine takeL (i := 15) (v := ?_) rfl (by kernel_rfl) (by kernel_rfl) (by kernel_rfl) (fun _ _ _ h => h) (Or.inl ⟨by kernel_rfl, ?_⟩) (by assumption) ?_
  rotate_left
  · (intro w' hSw; (try dsimp only at hSw); go_simp; (try with_reducible rfl))
  try simp only [Act.put, List.setIfInBounds_toArray, List.set_cons_zero, List.set_cons_succ]
  refine takeL (i := 16) (v := ?_) rfl (by kernel_rfl) (by kernel_rfl) (by kernel_rfl) (fun _ _ _ h => h) (Or.inl ⟨by kernel_rfl, ?_⟩) (by assumption) ?_
  rotate_left
  · (intro w' hSw; (try dsimp only at hSw); go_simp; (try with_reducible rfl))
  try simp only [Act.put, List.setIfInBounds_toArray, List.set_cons_zero, List.set_cons_succ]
  refine takeL (i := 17) (v := ?_) rfl (by kernel_rfl) (by kernel_rfl) (by kernel_rfl) (fun _ _ _ h => h) (Or.inl ⟨by kernel_rfl, ?_⟩) (by assumption) ?_
  rotate_left
  · (intro w' hSw; (try dsimp only at hSw); go_simp; (try with_reducible rfl))
  try simp only [Act.put, List.setIfInBounds_toArray, List.set_cons_zero, List.set_cons_succ]
  refine takeL (i := 18) (v := ?_) rfl (by kernel_rfl) (by kernel_rfl) (by kernel_rfl) (fun _ _ _ h => h) (Or.inl ⟨by kernel_rfl, ?_⟩) (by assumption) ?_
  rotate_left
  · (intro w' hSw; (try dsimp only at hSw); go_simp; (try with_reducible rfl))
  try simp only [Act.put, List.setIfInBounds_toArray, List.set_cons_zero, List.set_cons_succ]
  refine takeL (i := 19) (v := ?_) rfl (by kernel_rfl) (by kernel_rfl) (by kernel_rfl) (fun _ _ _ h => h) (Or.inl ⟨by kernel_rfl, ?_⟩) (by assumption) ?_
  rotate_left
  · (intro w' hSw; (try dsimp only at hSw); go_simp; (try with_reducible rfl))
  try simp only [Act.put, List.setIfInBounds_toArray, List.set_cons_zero, List.set_cons_succ]
  refine takeL (i := 20) (v := ?_) rfl (by kernel_rfl) (by kernel_rfl) (by kernel_rfl) (fun _ _ _ h => h) (Or.inl ⟨by kernel_rfl, ?_⟩) (by assumption) ?_
  rotate_left
  · (intro w' hSw; (try dsimp only at hSw); go_simp; (try with_reducible rfl))
  try simp only [Act.put, List.setIfInBounds_toArray, List.set_cons_zero, List.set_cons_succ]
  refine wpAnyH_ready (rs := [21]) (by kernel_rfl) (by simp) ?_
  refine AllReadyH.cons rfl (fun K hK => ?_) AllReadyH.nil
  go_simp
  refine hK.out _ _ ?_ (fun hHeld => ?_)
  · exact (Hend.out _ hus2).2
  clear hK K
  try simp only [Act.put, List.setIfInBounds_toArray, List.set_cons_zero, List.set_cons_succ]
  refine wpAnyH_done (by kernel_rfl) ?_ _
  have Hfin := Lib.hid (Hend.out _ hus2).1
  generalize F w2 = w3 at *
  clear c21 c41 c51 d01 d11 c22 c42 c52 d02 d12 hrun hus2 Hpc Hend HF Huc Hus
  go_wp2
  go_ret
  exact Hfin.out

set_option maxRecDepth 100000 in
set_option maxHeartbeats 2000000 in
theorem unbound_old00 {L sb m1 m2 m3 m4 N : Nat} {st : St ByteArray} {bd : List (Bd ByteArray)} {vs : List ByteArray} {no pf : Nat} (x : ByteArray) (k : Nat) (w : World) (hL : L ≤ w.heap.size) (h : Sv w L sb m1 m2 m3 m4 N st bd vs no pf) (hx : x.size ≤ maxLen) (_hk : k ≤ 1000) (hN : N < maxLen) (hno : no ≤ 1000) (hpf : pf ≤ 1000)
    (hlook : (Instr.lookup 73 (.map (some m1)) (.string x) true).run Tryd.prog w = .ok (.tuple #[.agg #[.int .i64 (k : Int), .bool false], .bool true]) w) (hp : posB no pf 0 0 = false)
    (hst : Fo.step1 st.syms (x, ((k : Int), posB no pf 0 0)) = some (Fo.updM x ((k : Int), false) st.syms)) :
    Calls Tryd.prog 65 #[.pointer (some ⟨sb, 0, none⟩), .string x, .int .i64 (k : Int)] w (UnbPost L sb m1 m2 m3 m4 N st bd vs no pf x k w) := by
  have c2 : w.cell? ⟨sb, 2, none⟩ = some (.map (some m1)) := h.box.cell 2
  have hus : US w L sb m1 m2 m3 m4 N st bd vs no pf (k : Int) false (w.alloc (.cells #[.int .i64 (k : Int), .bool false] 82)) := ⟨h.alloc _, Blk.new w _ _, (Below.refl _ _).alloc (Nat.le_refl _) _⟩
  have hpos := fun W => positive_any no pf 0 0 W (Nat.zero_le _) hno hpf (by omega)
  have H := Lib.hid h; clear h
  obtain ⟨F, hF⟩ := putW_ex 73 82 m1 x (.agg #[.int .i64 (k : Int), .bool false]) Tryd.underlying73 hx
  have huc : ∀ W, US w L sb m1 m2 m3 m4 N st bd vs no pf (k : Int) false W → UC w sb m1 no pf (k : Int) false x (.agg #[.int .i64 (k : Int), .bool false]) F W := fun W hw => ⟨hw.sv.box.cell 2, hw.sv.box.cell 4, hw.sv.box.cell 5, hw.bx.cell 0, hw.bx.cell 1, (hF W N _ hw.sv.sym hN).1⟩
  have hend : ∀ W, US w L sb m1 m2 m3 m4 N st bd vs no pf (k : Int) false W → UnbPost L sb m1 m2 m3 m4 N st bd vs no pf x k w (.returned (.bool true)) (F W) ∧ (fun W => W.cell? ⟨sb, 2, none⟩ = some (.map (some m1)) ∧ W.cell? ⟨sb, 4, none⟩ = some (.int .i64 (no : Int)) ∧ W.cell? ⟨sb, 5, none⟩ = some (.int .i64 (pf : Int)) ∧ W.cell? ⟨w.heap.size, 0, none⟩ = some (.int .i64 (k : Int)) ∧ W.cell? ⟨w.heap.size, 1, none⟩ = some (.bool false)) (F W) := fun W hw => by
    obtain ⟨-, h2, h3⟩ := hF W N _ hw.sv.sym hN
    have hl1 := hw.sv.l1
    have hsv := hw.sv.put_sym (u := ((k : Int), false)) h2 h3
    have hbx := hw.bx.grown h3 (some_ne (hw.sv.sym.ne_blk hw.bx).symm)
    exact ⟨.yes hst ((Fr.of hL hw.bel).map hw.sv.sym h3 hl1 (Nat.le_trans hL hw.bel.size)) hsv, hsv.box.cell 2, hsv.box.cell 4, hsv.box.cell 5, hbx.cell 0, hbx.cell 1⟩
  clear hst
  have Hend := Lib.hid hend; clear hend
  have HF := Lib.hid hF; clear hF
  have Hus := Lib.hid hus; clear hus
  have Huc := Lib.hid huc; clear huc
  rw [hp] at hpos
  clear hp
  have Hpos := Lib.hid hpos; clear hpos
  have hq1 : ((k : Int) == (k : Int)) = true := by simp
  have hq2 : ((k : Int) != (k : Int)) = false := by simp
  go_enter Tryd.func65, Tryd.ntmps65
  go_wp2
  have hpc : ∀ W, US w L sb m1 m2 m3 m4 N st bd vs no pf (k : Int) false W → Calls Tryd.prog 66 #[.agg #[.int .i64 (no : Int), .int .i64 (pf : Int)], .agg #[.int .i64 0, .int .i64 0]] W fun e w' => e = .returned (.bool false) ∧ UC w sb m1 no pf (k : Int) false x (.agg #[.int .i64 (k : Int), .bool false]) F w' ∧ US w L sb m1 m2 m3 m4 N st bd vs no pf (k : Int) false w' := fun W hw =>
    (Hpos.out W).mono fun _ _ ⟨he, hb⟩ => ⟨he, Huc.out _ (hw.step hb), hw.step hb⟩
  have Hpc := Lib.hid hpc; clear hpc
  obtain ⟨c21, c41, c51, d01, d11, -⟩ := Huc.out _ Hus.out
  refine wp_region_held_drew (S := fun W => W.cell? ⟨sb, 2, none⟩ = some (.map (some m1)) ∧ W.cell? ⟨sb, 4, none⟩ = some (.int .i64 (no : Int)) ∧ W.cell? ⟨sb, 5, none⟩ = some (.int .i64 (pf : Int)) ∧ W.cell? ⟨w.heap.size, 0, none⟩ = some (.int .i64 (k : Int)) ∧ W.cell? ⟨w.heap.size, 1, none⟩ = some (.bool false)) (by kernel_rfl) (⟨c21, c41, c51, d01, d11⟩) (fun hHeld => ?_)
  refine takeL (i := 0) (v := ?_) rfl (by kernel_rfl) (by kernel_rfl) (by kernel_rfl) (fun _ _ _ h => h) (Or.inl ⟨by kernel_rfl, ?_⟩) (by assumption) ?_
  rotate_left
  · (intro w' hSw; (try dsimp only at hSw); go_simp; (try with_reducible rfl))
  try simp only [Act.put, List.setIfInBounds_toArray, List.set_cons_zero, List.set_cons_succ]
  refine takeL (i := 1) (v := ?_) rfl (by kernel_rfl) (by kernel_rfl) (by kernel_rfl) (fun _ _ _ h => h) (Or.inl ⟨by kernel_rfl, ?_⟩) (by assumption) ?_
  rotate_left
  · (intro w' hSw; (try dsimp only at hSw); go_simp; (try with_reducible rfl))
  try simp only [Act.put, List.setIfInBounds_toArray, List.set_cons_zero, List.set_cons_succ]
  refine takeL (i := 2) (v := ?_) rfl (by kernel_rfl) (by kernel_rfl) (by kernel_rfl) (fun _ _ _ h => h) (Or.inl ⟨by kernel_rfl, ?_⟩) (by assumption) ?_
  rotate_left
  · (intro w' hSw; (try dsimp only at hSw); go_simp; (try with_reducible rfl))
  try simp only [Act.put, List.setIfInBounds_toArray, List.set_cons_zero, List.set_cons_succ]
  refine takeL (i := 3) (v := ?_) rfl (by kernel_rfl) (by kernel_rfl) (by kernel_rfl) (fun _ _ _ h => h) (Or.inl ⟨by kernel_rfl, ?_⟩) (by assumption) ?_
  rotate_left
  · (intro w' hSw; (try dsimp only at hSw); go_simp; (try with_reducible rfl))
  try simp only [Act.put, List.setIfInBounds_toArray, List.set_cons_zero, List.set_cons_succ]
  refine takeL (i := 4) (v := ?_) rfl (by kernel_rfl) (by kernel_rfl) (by kernel_rfl) (fun _ _ _ h => h) (Or.inl ⟨by kernel_rfl, ?_⟩) (by assumption) ?_
  rotate_left
  · (intro w' hSw; (try dsimp only at hSw); go_simp; (try with_reducible rfl))
  try simp only [Act.put, List.setIfInBounds_toArray, List.set_cons_zero, List.set_cons_succ]
  refine takeL (i := 5) (v := ?_) rfl (by kernel_rfl) (by kernel_rfl) (by kernel_rfl) (fun _ _ _ h => h) (Or.inl ⟨by kernel_rfl, ?_⟩) (by assumption) ?_
  rotate_left
  · (intro w' hSw; (try dsimp only at hSw); go_simp; (try with_reducible rfl))
  try simp only [Act.put, List.setIfInBounds_toArray, List.set_cons_zero, List.set_cons_succ]
  refine takeL (i := 6) (v := ?_) rfl (by kernel_rfl) (by kernel_rfl) (by kernel_rfl) (fun _ _ _ h => h) (Or.inl ⟨by kernel_rfl, ?_⟩) (by assumption) ?_
  rotate_left
  · (intro w' hSw; (try dsimp only at hSw); go_simp; (try with_reducible rfl))
  try simp only [Act.put, List.setIfInBounds_toArray, List.set_cons_zero, List.set_cons_succ]
  refine takeL (i := 7) (v := ?_) rfl (by kernel_rfl) (by kernel_rfl) (by kernel_rfl) (fun _ _ _ h => h) (Or.inl ⟨by kernel_rfl, ?_⟩) (by assumption) ?_
  rotate_left
  · (intro w' hSw; (try dsimp only at hSw); go_simp; (try with_reducible rfl))
  try simp only [Act.put, List.setIfInBounds_toArray, List.set_cons_zero, List.set_cons_succ]
  refine takeL (i := 8) (v := ?_) rfl (by kernel_rfl) (by kernel_rfl) (by kernel_rfl) (fun _ _ _ h => h) (Or.inl ⟨by kernel_rfl, ?_⟩) (by assumption) ?_
  rotate_left
  · (intro w' hSw; (try dsimp only at hSw); go_simp; (try with_reducible rfl))
  try simp only [Act.put, List.setIfInBounds_toArray, List.set_cons_zero, List.set_cons_succ]
  refine takeL (i := 9) (v := ?_) rfl (by kernel_rfl) (by kernel_rfl) (by kernel_rfl) (fun _ _ _ h => h) (Or.inl ⟨by kernel_rfl, ?_⟩) (by assumption) ?_
  rotate_left
  · (intro w' hSw; (try dsimp only at hSw); go_simp; (try with_reducible rfl))
  try simp only [Act.put, List.setIfInBounds_toArray, List.set_cons_zero, List.set_cons_succ]
  refine takeL (i := 10) (v := ?_) rfl (by kernel_rfl) (by kernel_rfl) (by kernel_rfl) (fun _ _ _ h => h) (Or.inl ⟨by kernel_rfl, ?_⟩) (by assumption) ?_
  rotate_left
  · (intro w' hSw; (try dsimp only at hSw); go_simp; (try with_reducible rfl))
  try simp only [Act.put, List.setIfInBounds_toArray, List.set_cons_zero, List.set_cons_succ]
  refine wpAnyH_ready (rs := [11]) (by kernel_rfl) (by simp) ?_
  refine AllReadyH.cons rfl (fun K hK => ?_) AllReadyH.nil
  go_simp
  refine (Hpc.out _ (US.drew Hus.out)).mono ?_
  rintro e w2 ⟨rfl, ⟨c22, c42, c52, d02, d12, hrun⟩, hus2⟩
  refine hK.out _ _ ?_ (fun hHeld => ?_)
  · exact ⟨c22, c42, c52, d02, d12⟩
  clear hK K
  try simp only [Act.put, List.setIfInBounds_toArray, List.set_cons_zero, List.set_cons_succ]
  refine takeL (i := 12) (v := ?_) rfl (by kernel_rfl) (by kernel_rfl) (by kernel_rfl) (fun _ _ _ h => h) (Or.inl ⟨by kernel_rfl, ?_⟩) (by assumption) ?_
  rotate_left
  · (intro w' hSw; (try dsimp only at hSw); go_simp; (try with_reducible rfl))
  try simp only [Act.put, List.setIfInBounds_toArray, List.set_cons_zero, List.set_cons_succ]
  refine takeL (i := 13) (v := undef) rfl (by kernel_rfl) (by kernel_rfl) (by kernel_rfl) (fun _ _ _ h => h) (Or.inr ⟨by kernel_rfl, rfl⟩) (by assumption) ?_
  try simp only [Act.put, List.setIfInBounds_toArray, List.set_cons_zero, List.set_cons_succ]
  refine takeL (i := 14) (v := undef) rfl (by kernel_rfl) (by kernel_rfl) (by kernel_rfl) (fun _ _ _ h => h) (Or.inr ⟨by kernel_rfl, rfl⟩) (by assumption) ?_
  try simp only [Act.put, List.setIfInBounds_toArray, List.set_cons_zero, List.set_cons_succ]
  refine takeL (i := 15) (v := undef) rfl (by kernel_rfl) (by kernel_rfl) (by kernel_rfl) (fun _ _ _ h => h) (Or.inr ⟨by kernel_rfl, rfl⟩) (by assumption) ?_
  try simp only [Act.put, List.setIfInBounds_toArray, List.set_cons_zero, List.set_cons_succ]
  refine takeL (i := 16) (v := undef) rfl (by kernel_rfl) (by kernel_rfl) (by kernel_rfl) (fun _ _ _ h => h) (Or.inr ⟨by kernel_rfl, rfl⟩) (by assumption) ?_
  try simp only [Act.put, List.setIfInBounds_toArray, List.set_cons_zero, List.set_cons_succ]
  refine takeL (i := 17) (v := undef) rfl (by kernel_rfl) (by kernel_rfl) (by kernel_rfl) (fun _ _ _ h => h) (Or.inr ⟨by kernel_rfl, rfl⟩) (by assumption) ?_
  try simp only [Act.put, List.setIfInBounds_toArray, List.set_cons_zero, List.set_cons_succ]
  refine takeL (i := 18) (v := undef) rfl (by kernel_rfl) (by kernel_rfl) (by kernel_rfl) (fun _ _ _ h => h) (Or.inr ⟨by kernel_rfl, rfl⟩) (by assumption) ?_
  try simp only [Act.put, List.setIfInBounds_toArray, List.set_cons_zero, List.set_cons_succ]
  refine takeL (i := 19) (v := ?_) rfl (by kernel_rfl) (by kernel_rfl) (by kernel_rfl) (fun _ _ _ h => h) (Or.inl ⟨by kernel_rfl, ?_⟩) (by assumption) ?_
  rotate_left
  · (intro w' hSw; (try dsimp only at hSw); go_simp; (try with_reducible rfl))
  try simp only [Act.put, List.setIfInBounds_toArray, List.set_cons_zero, List.set_cons_succ]
  refine takeL (i := 20) (v := ?_) rfl (by kernel_rfl) (by kernel_rfl) (by kernel_rfl) (fun _ _ _ h => h) (Or.inl ⟨by kernel_rfl, ?_⟩) (by assumption) ?_
  rotate_left
  · (intro w' hSw; (try dsimp only at hSw); go_simp; (try with_reducible rfl))
  try simp only [Act.put, List.setIfInBounds_toArray, List.set_cons_zero, List.set_cons_succ]
  refine wpAnyH_ready (rs := [21]) (by kernel_rfl) (by simp) ?_
  refine AllReadyH.cons rfl (fun K hK => ?_) AllReadyH.nil
  go_simp
  refine hK.out _ _ ?_ (fun hHeld => ?_)
  · exact (Hend.out _ hus2).2
  clear hK K
  try simp only [Act.put, List.setIfInBounds_toArray, List.set_cons_zero, List.set_cons_succ]
  refine wpAnyH_done (by kernel_rfl) ?_ _
  have Hfin := Lib.hid (Hend.out _ hus2).1
  generalize F w2 = w3 at *
  clear c21 c41 c51 d01 d11 c22 c42 c52 d02 d12 hrun hus2 Hpc Hend HF Huc Hus
  go_wp2
  go_ret
  exact Hfin.out

set_option maxRecDepth 100000 in
set_option maxHeartbeats 2000000 in
theorem unbound_old01 {L sb m1 m2 m3 m4 N : Nat} {st : St ByteArray} {bd : List (Bd ByteArray)} {vs : List ByteArray} {no pf : Nat} (x : ByteArray) (k : Nat) (w : World) (hL : L ≤ w.heap.size) (h : Sv w L sb m1 m2 m3 m4 N st bd vs no pf) (hx : x.size ≤ maxLen) (_hk : k ≤ 1000) (hN : N < maxLen) (hno : no ≤ 1000) (hpf : pf ≤ 1000)
    (hlook : (Instr.lookup 73 (.map (some m1)) (.string x) true).run Tryd.prog w = .ok (.tuple #[.agg #[.int .i64 (k : Int), .bool true], .bool true]) w) (hp : posB no pf 0 0 = false)
    (hst : Fo.step1 st.syms (x, ((k : Int), posB no pf 0 0)) = some (Fo.updM x ((k : Int), false) st.syms)) :
    Calls Tryd.prog 65 #[.pointer (some ⟨sb, 0, none⟩), .string x, .int .i64 (k : Int)] w (UnbPost L sb m1 m2 m3 m4 N st bd vs no pf x k w) := by
  have c2 : w.cell? ⟨sb, 2, none⟩ = some (.map (some m1)) := h.box.cell 2
  have hus : US w L sb m1 m2 m3 m4 N st bd vs no pf (k : Int) true (w.alloc (.cells #[.int .i64 (k : Int), .bool true] 82)) := ⟨h.alloc _, Blk.new w _ _, (Below.refl _ _).alloc (Nat.le_refl _) _⟩
  have hpos := fun W => positive_any no pf 0 0 W (Nat.zero_le _) hno hpf (by omega)
  have H := Lib.hid h; clear h
  obtain ⟨F, hF⟩ := putW_ex 73 82 m1 x (.agg #[.int .i64 (k : Int), .bool false]) Tryd.underlying73 hx
  have huc : ∀ W, US w L sb m1 m2 m3 m4 N st bd vs no pf (k : Int) true W → UC w sb m1 no pf (k : Int) true x (.agg #[.int .i64 (k : Int), .bool false]) F W := fun W hw => ⟨hw.sv.box.cell 2, hw.sv.box.cell 4, hw.sv.box.cell 5, hw.bx.cell 0, hw.bx.cell 1, (hF W N _ hw.sv.sym hN).1⟩
  have hend : ∀ W, US w L sb m1 m2 m3 m4 N st bd vs no pf (k : Int) true W → UnbPost L sb m1 m2 m3 m4 N st bd vs no pf x k w (.returned (.bool true)) (F W) ∧ (fun W => W.cell? ⟨sb, 2, none⟩ = some (.map (some m1)) ∧ W.cell? ⟨sb, 4, none⟩ = some (.int .i64 (no : Int)) ∧ W.cell? ⟨sb, 5, none⟩ = some (.int .i64 (pf : Int)) ∧ W.cell? ⟨w.heap.size, 0, none⟩ = some (.int .i64 (k : Int)) ∧ W.cell? ⟨w.heap.size, 1, none⟩ = some (.bool true)) (F W) := fun W hw => by
    obtain ⟨-, h2, h3⟩ := hF W N _ hw.sv.sym hN
    have hl1 := hw.sv.l1
    have hsv := hw.sv.put_sym (u := ((k : Int), false)) h2 h3
    have hbx := hw.bx.grown h3 (some_ne (hw.sv.sym.ne_blk hw.bx).symm)
    exact ⟨.yes hst ((Fr.of hL hw.bel).map hw.sv.sym h3 hl1 (Nat.le_trans hL hw.bel.size)) hsv, hsv.box.cell 2, hsv.box.cell 4, hsv.box.cell 5, hbx.cell 0, hbx.cell 1⟩
  clear hst
  have Hend := Lib.hid hend; clear hend
  have HF := Lib.hid hF; clear hF
  have Hus := Lib.hid hus; clear hus
  have Huc := Lib.hid huc; clear huc
  rw [hp] at hpos
  clear hp
  have Hpos := Lib.hid hpos; clear hpos
  have hq1 : ((k : Int) == (k : Int)) = true := by simp
  have hq2 : ((k : Int) != (k : Int)) = false := by simp
  go_enter Tryd.func65, Tryd.ntmps65
  go_wp2
  have hpc : ∀ W, US w L sb m1 m2 m3 m4 N st bd vs no pf (k : Int) true W → Calls Tryd.prog 66 #[.agg #[.int .i64 (no : Int), .int .i64 (pf : Int)], .agg #[.int .i64 0, .int .i64 0]] W fun e w' => e = .returned (.bool false) ∧ UC w sb m1 no pf (k : Int) true x (.agg #[.int .i64 (k : Int), .bool false]) F w' ∧ US w L sb m1 m2 m3 m4 N st bd vs no pf (k : Int) true w' := fun W hw =>
    (Hpos.out W).mono fun _ _ ⟨he, hb⟩ => ⟨he, Huc.out _ (hw.step hb), hw.step hb⟩
  have Hpc := Lib.hid hpc; clear hpc
  obtain ⟨c21, c41, c51, d01, d11, -⟩ := Huc.out _ Hus.out
  refine wp_region_held_drew (S := fun W => W.cell? ⟨sb, 2, none⟩ = some (.map (some m1)) ∧ W.cell? ⟨sb, 4, none⟩ = some (.int .i64 (no : Int)) ∧ W.cell? ⟨sb, 5, none⟩ = some (.int .i64 (pf : Int)) ∧ W.cell? ⟨w.heap.size, 0, none⟩ = some (.int .i64 (k : Int)) ∧ W.cell? ⟨w.heap.size, 1, none⟩ = some (.bool true)) (by kernel_rfl) (⟨c21, c41, c51, d01, d11⟩) (fun hHeld => ?_)
  refine takeL (i := 0) (v := ?_) rfl (by kernel_rfl) (by kernel_rfl) (by kernel_rfl) (fun _ _ _ h => h) (Or.inl ⟨by kernel_rfl, ?_⟩) (by assumption) ?_
  rotate_left
  · (intro w' hSw; (try dsimp only at hSw); go_simp; (try with_reducible rfl))
  try simp only [Act.put, List.setIfInBounds_toArray, List.set_cons_zero, List.set_cons_succ]
  refine takeL (i := 1) (v := ?_) rfl (by kernel_rfl) (by kernel_rfl) (by kernel_rfl) (fun _ _ _ h => h) (Or.inl ⟨by kernel_rfl, ?_⟩) (by assumption) ?_
  rotate_left
  · (intro w' hSw; (try dsimp only at hSw); go_simp; (try with_reducible rfl))
  try simp only [Act.put, List.setIfInBounds_toArray, List.set_cons_zero, List.set_cons_succ]
  refine takeL (i := 2) (v := ?_) rfl (by kernel_rfl) (by kernel_rfl) (by kernel_rfl) (fun _ _ _ h => h) (Or.inl ⟨by kernel_rfl, ?_⟩) (by assumption) ?_
  rotate_left
  · (intro w' hSw; (try dsimp only at hSw); go_simp; (try with_reducible rfl))
  try simp only [Act.put, List.setIfInBounds_toArray, List.set_cons_zero, List.set_cons_succ]
  refine takeL (i := 3) (v := ?_) rfl (by kernel_rfl) (by kernel_rfl) (by kernel_rfl) (fun _ _ _ h => h) (Or.inl ⟨by kernel_rfl, ?_⟩) (by assumption) ?_
  rotate_left
  · (intro w' hSw; (try dsimp only at hSw); go_simp; (try with_reducible rfl))
  try simp only [Act.put, List.setIfInBounds_toArray, List.set_cons_zero, List.set_cons_succ]
  refine takeL (i := 4) (v := ?_) rfl (by kernel_rfl) (by kernel_rfl) (by kernel_rfl) (fun _ _ _ h => h) (Or.inl ⟨by kernel_rfl, ?_⟩) (by assumption) ?_
  rotate_left
  · (intro w' hSw; (try dsimp only at hSw); go_simp; (try with_reducible rfl))
  try simp only [Act.put, List.setIfInBounds_toArray, List.set_cons_zero, List.set_cons_succ]
  refine takeL (i := 5) (v := ?_) rfl (by kernel_rfl) (by kernel_rfl) (by kernel_rfl) (fun _ _ _ h => h) (Or.inl ⟨by kernel_rfl, ?_⟩) (by assumption) ?_
  rotate_left
  · (intro w' hSw; (try dsimp only at hSw); go_simp; (try with_reducible rfl))
  try simp only [Act.put, List.setIfInBounds_toArray, List.set_cons_zero, List.set_cons_succ]
  refine takeL (i := 6) (v := ?_) rfl (by kernel_rfl) (by kernel_rfl) (by kernel_rfl) (fun _ _ _ h => h) (Or.inl ⟨by kernel_rfl, ?_⟩) (by assumption) ?_
  rotate_left
  · (intro w' hSw; (try dsimp only at hSw); go_simp; (try with_reducible rfl))
  try simp only [Act.put, List.setIfInBounds_toArray, List.set_cons_zero, List.set_cons_succ]
  refine takeL (i := 7) (v := ?_) rfl (by kernel_rfl) (by kernel_rfl) (by kernel_rfl) (fun _ _ _ h => h) (Or.inl ⟨by kernel_rfl, ?_⟩) (by assumption) ?_
  rotate_left
  · (intro w' hSw; (try dsimp only at hSw); go_simp; (try with_reducible rfl))
  try simp only [Act.put, List.setIfInBounds_toArray, List.set_cons_zero, List.set_cons_succ]
  refine takeL (i := 8) (v := ?_) rfl (by kernel_rfl) (by kernel_rfl) (by kernel_rfl) (fun _ _ _ h => h) (Or.inl ⟨by kernel_rfl, ?_⟩) (by assumption) ?_
  rotate_left
  · (intro w' hSw; (try dsimp only at hSw); go_simp; (try with_reducible rfl))
  try simp only [Act.put, List.setIfInBounds_toArray, List.set_cons_zero, List.set_cons_succ]
  refine takeL (i := 9) (v := ?_) rfl (by kernel_rfl) (by kernel_rfl) (by kernel_rfl) (fun _ _ _ h => h) (Or.inl ⟨by kernel_rfl, ?_⟩) (by assumption) ?_
  rotate_left
  · (intro w' hSw; (try dsimp only at hSw); go_simp; (try with_reducible rfl))
  try simp only [Act.put, List.setIfInBounds_toArray, List.set_cons_zero, List.set_cons_succ]
  refine takeL (i := 10) (v := ?_) rfl (by kernel_rfl) (by kernel_rfl) (by kernel_rfl) (fun _ _ _ h => h) (Or.inl ⟨by kernel_rfl, ?_⟩) (by assumption) ?_
  rotate_left
  · (intro w' hSw; (try dsimp only at hSw); go_simp; (try with_reducible rfl))
  try simp only [Act.put, List.setIfInBounds_toArray, List.set_cons_zero, List.set_cons_succ]
  refine wpAnyH_ready (rs := [11]) (by kernel_rfl) (by simp) ?_
  refine AllReadyH.cons rfl (fun K hK => ?_) AllReadyH.nil
  go_simp
  refine (Hpc.out _ (US.drew Hus.out)).mono ?_
  rintro e w2 ⟨rfl, ⟨c22, c42, c52, d02, d12, hrun⟩, hus2⟩
  refine hK.out _ _ ?_ (fun hHeld => ?_)
  · exact ⟨c22, c42, c52, d02, d12⟩
  clear hK K
  try simp only [Act.put, List.setIfInBounds_toArray, List.set_cons_zero, List.set_cons_succ]
  refine takeL (i := 12) (v := ?_) rfl (by kernel_rfl) (by kernel_rfl) (by kernel_rfl) (fun _ _ _ h => h) (Or.inl ⟨by kernel_rfl, ?_⟩) (by assumption) ?_
  rotate_left
  · (intro w' hSw; (try dsimp only at hSw); go_simp; (try with_reducible rfl))
  try simp only [Act.put, List.setIfInBounds_toArray, List.set_cons_zero, List.set_cons_succ]
  refine takeL (i := 13) (v := undef) rfl (by kernel_rfl) (by kernel_rfl) (by kernel_rfl) (fun _ _ _ h => h) (Or.inr ⟨by kernel_rfl, rfl⟩) (by assumption) ?_
  try simp only [Act.put, List.setIfInBounds_toArray, List.set_cons_zero, List.set_cons_succ]
  refine takeL (i := 14) (v := undef) rfl (by kernel_rfl) (by kernel_rfl) (by kernel_rfl) (fun _ _ _ h => h) (Or.inr ⟨by kernel_rfl, rfl⟩) (by assumption) ?_
  try simp only [Act.put, List.setIfInBounds_toArray, List.set_cons_zero, List.set_cons_succ]
  refine takeL (i := 15) (v := undef) rfl (by kernel_rfl) (by kernel_rfl) (by kernel_rfl) (fun _ _ _ h => h) (Or.inr ⟨by kernel_rfl, rfl⟩) (by assumption) ?_
  try simp only [Act.put, List.setIfInBounds_toArray, List.set_cons_zero, List.set_cons_succ]
  refine takeL (i := 16) (v := undef) rfl (by kernel_rfl) (by kernel_rfl) (by kernel_rfl) (fun _ _ _ h => h) (Or.inr ⟨by kernel_rfl, rfl⟩) (by assumption) ?_
  try simp only [Act.put, List.setIfInBounds_toArray, List.set_cons_zero, List.set_cons_succ]
  refine takeL (i := 17) (v := undef) rfl (by kernel_rfl) (by kernel_rfl) (by kernel_rfl) (fun _ _ _ h => h) (Or.inr ⟨by kernel_rfl, rfl⟩) (by assumption) ?_
  try simp only [Act.put, List.setIfInBounds_toArray, List.set_cons_zero, List.set_cons_succ]
  refine takeL (i := 18) (v := undef) rfl (by kernel_rfl) (by kernel_rfl) (by kernel_rfl) (fun _ _ _ h => h) (Or.inr ⟨by kernel_rfl, rfl⟩) (by assumption) ?_
  try simp only [Act.put, List.setIfInBounds_toArray, List.set_cons_zero, List.set_cons_succ]
  refine takeL (i := 19) (v := ?_) rfl (by kernel_rfl) (by kernel_rfl) (by kernel_rfl) (fun _ _ _ h => h) (Or.inl ⟨by kernel_rfl, ?_⟩) (by assumption) ?_
  rotate_left
  · (intro w' hSw; (try dsimp only at hSw); go_simp; (try with_reducible rfl))
  try simp only [Act.put, List.setIfInBounds_toArray, List.set_cons_zero, List.set_cons_succ]
  refine takeL (i := 20) (v := ?_) rfl (by kernel_rfl) (by kernel_rfl) (by kernel_rfl) (fun _ _ _ h => h) (Or.inl ⟨by kernel_rfl, ?_⟩) (by assumption) ?_
  rotate_left
  · (intro w' hSw; (try dsimp only at hSw); go_simp; (try with_reducible rfl))
  try simp only [Act.put, List.setIfInBounds_toArray, List.set_cons_zero, List.set_cons_succ]
  refine wpAnyH_ready (rs := [21]) (by kernel_rfl) (by simp) ?_
  refine AllReadyH.cons rfl (fun K hK => ?_) AllReadyH.nil
  go_simp
  refine hK.out _ _ ?_ (fun hHeld => ?_)
  · exact (Hend.out _ hus2).2
  clear hK K
  try simp only [Act.put, List.setIfInBounds_toArray, List.set_cons_zero, List.set_cons_succ]
  refine wpAnyH_done (by kernel_rfl) ?_ _
  have Hfin := Lib.hid (Hend.out _ hus2).1
  generalize F w2 = w3 at *
  clear c21 c41 c51 d01 d11 c22 c42 c52 d02 d12 hrun hus2 Hpc Hend HF Huc Hus
  go_wp2
  go_ret
  exact Hfin.out

set_option maxRecDepth 100000 in
set_option maxHeartbeats 2000000 in
theorem unbound_old10 {L sb m1 m2 m3 m4 N : Nat} {st : St ByteArray} {bd : List (Bd ByteArray)} {vs : List ByteArray} {no pf : Nat} (x : ByteArray) (k : Nat) (w : World) (hL : L ≤ w.heap.size) (h : Sv w L sb m1 m2 m3 m4 N st bd vs no pf) (hx : x.size ≤ maxLen) (_hk : k ≤ 1000) (hN : N < maxLen) (hno : no ≤ 1000) (hpf : pf ≤ 1000)
    (hlook : (Instr.lookup 73 (.map (some m1)) (.string x) true).run Tryd.prog w = .ok (.tuple #[.agg #[.int .i64 (k : Int), .bool false], .bool true]) w) (hp : posB no pf 0 0 = true)
    (hst : Fo.step1 st.syms (x, ((k : Int), posB no pf 0 0)) = some (Fo.updM x ((k : Int), false) st.syms)) :
    Calls Tryd.prog 65 #[.pointer (some ⟨sb, 0, none⟩), .string x, .int .i64 (k : Int)] w (UnbPost L sb m1 m2 m3 m4 N st bd vs no pf x k w) := by
  have c2 : w.cell? ⟨sb, 2, none⟩ = some (.map (some m1)) := h.box.cell 2
  have hus : US w L sb m1 m2 m3 m4 N st bd vs no pf (k : Int) false (w.alloc (.cells #[.int .i64 (k : Int), .bool false] 82)) := ⟨h.alloc _, Blk.new w _ _, (Below.refl _ _).alloc (Nat.le_refl _) _⟩
  have hpos := fun W => positive_any no pf 0 0 W (Nat.zero_le _) hno hpf (by omega)
  have H := Lib.hid h; clear h
  obtain ⟨F, hF⟩ := putW_ex 73 82 m1 x (.agg #[.int .i64 (k : Int), .bool false]) Tryd.underlying73 hx
  have huc : ∀ W, US w L sb m1 m2 m3 m4 N st bd vs no pf (k : Int) false W → UC w sb m1 no pf (k : Int) false x (.agg #[.int .i64 (k : Int), .bool false]) F W := fun W hw => ⟨hw.sv.box.cell 2, hw.sv.box.cell 4, hw.sv.box.cell 5, hw.bx.cell 0, hw.bx.cell 1, (hF W N _ hw.sv.sym hN).1⟩
  have hend : ∀ W, US w L sb m1 m2 m3 m4 N st bd vs no pf (k : Int) false W → UnbPost L sb m1 m2 m3 m4 N st bd vs no pf x k w (.returned (.bool true)) (F W) ∧ (fun W => W.cell? ⟨sb, 2, none⟩ = some (.map (some m1)) ∧ W.cell? ⟨sb, 4, none⟩ = some (.int .i64 (no : Int)) ∧ W.cell? ⟨sb, 5, none⟩ = some (.int .i64 (pf : Int)) ∧ W.cell? ⟨w.heap.size, 0, none⟩ = some (.int .i64 (k : Int)) ∧ W.cell? ⟨w.heap.size, 1, none⟩ = some (.bool false)) (F W) := fun W hw => by
    obtain ⟨-, h2, h3⟩ := hF W N _ hw.sv.sym hN
    have hl1 := hw.sv.l1
    have hsv := hw.sv.put_sym (u := ((k : Int), false)) h2 h3
    have hbx := hw.bx.grown h3 (some_ne (hw.sv.sym.ne_blk hw.bx).symm)
    exact ⟨.yes hst ((Fr.of hL hw.bel).map hw.sv.sym h3 hl1 (Nat.le_trans hL hw.bel.size)) hsv, hsv.box.cell 2, hsv.box.cell 4, hsv.box.cell 5, hbx.cell 0, hbx.cell 1⟩
  clear hst
  have Hend := Lib.hid hend; clear hend
  have HF := Lib.hid hF; clear hF
  have Hus := Lib.hid hus; clear hus
  have Huc := Lib.hid huc; clear huc
  rw [hp] at hpos
  clear hp
  have Hpos := Lib.hid hpos; clear hpos
  have hq1 : ((k : Int) == (k : Int)) = true := by simp
  have hq2 : ((k : Int) != (k : Int)) = false := by simp
  go_enter Tryd.func65, Tryd.ntmps65
  go_wp2
  have hpc : ∀ W, US w L sb m1 m2 m3 m4 N st bd vs no pf (k : Int) false W → Calls Tryd.prog 66 #[.agg #[.int .i64 (no : Int), .int .i64 (pf : Int)], .agg #[.int .i64 0, .int .i64 0]] W fun e w' => e = .returned (.bool true) ∧ UC w sb m1 no pf (k : Int) false x (.agg #[.int .i64 (k : Int), .bool false]) F w' ∧ US w L sb m1 m2 m3 m4 N st bd vs no pf (k : Int) false w' := fun W hw =>
    (Hpos.out W).mono fun _ _ ⟨he, hb⟩ => ⟨he, Huc.out _ (hw.step hb), hw.step hb⟩
  have Hpc := Lib.hid hpc; clear hpc
  obtain ⟨c21, c41, c51, d01, d11, -⟩ := Huc.out _ Hus.out
  refine wp_region_held_drew (S := fun W => W.cell? ⟨sb, 2, none⟩ = some (.map (some m1)) ∧ W.cell? ⟨sb, 4, none⟩ = some (.int .i64 (no : Int)) ∧ W.cell? ⟨sb, 5, none⟩ = some (.int .i64 (pf : Int)) ∧ W.cell? ⟨w.heap.size, 0, none⟩ = some (.int .i64 (k : Int)) ∧ W.cell? ⟨w.heap.size, 1, none⟩ = some (.bool false)) (by kernel_rfl) (⟨c21, c41, c51, d01, d11⟩) (fun hHeld => ?_)
  refine takeL (i := 0) (v := ?_) rfl (by kernel_rfl) (by kernel_rfl) (by kernel_rfl) (fun _ _ _ h => h) (Or.inl ⟨by kernel_rfl, ?_⟩) (by assumption) ?_
  rotate_left
  · (intro w' hSw; (try dsimp only at hSw); go_simp; (try with_reducible rfl))
  try simp only [Act.put, List.setIfInBounds_toArray, List.set_cons_zero, List.set_cons_succ]
  refine takeL (i := 1) (v := ?_) rfl (by kernel_rfl) (by kernel_rfl) (by kernel_rfl) (fun _ _ _ h => h) (Or.inl ⟨by kernel_rfl, ?_⟩) (by assumption) ?_
  rotate_left
  · (intro w' hSw; (try dsimp only at hSw); go_simp; (try with_reducible rfl))
  try simp only [Act.put, List.setIfInBounds_toArray, List.set_cons_zero, List.set_cons_succ]
  refine takeL (i := 2) (v := ?_) rfl (by kernel_rfl) (by kernel_rfl) (by kernel_rfl) (fun _ _ _ h => h) (Or.inl ⟨by kernel_rfl, ?_⟩) (by assumption) ?_
  rotate_left
  · (intro w' hSw; (try dsimp only at hSw); go_simp; (try with_reducible rfl))
  try simp only [Act.put, List.setIfInBounds_toArray, List.set_cons_zero, List.set_cons_succ]
  refine takeL (i := 3) (v := ?_) rfl (by kernel_rfl) (by kernel_rfl) (by kernel_rfl) (fun _ _ _ h => h) (Or.inl ⟨by kernel_rfl, ?_⟩) (by assumption) ?_
  rotate_left
  · (intro w' hSw; (try dsimp only at hSw); go_simp; (try with_reducible rfl))
  try simp only [Act.put, List.setIfInBounds_toArray, List.set_cons_zero, List.set_cons_succ]
  refine takeL (i := 4) (v := ?_) rfl (by kernel_rfl) (by kernel_rfl) (by kernel_rfl) (fun _ _ _ h => h) (Or.inl ⟨by kernel_rfl, ?_⟩) (by assumption) ?_
  rotate_left
  · (intro w' hSw; (try dsimp only at hSw); go_simp; (try with_reducible rfl))
  try simp only [Act.put, List.setIfInBounds_toArray, List.set_cons_zero, List.set_cons_succ]
  refine takeL (i := 5) (v := ?_) rfl (by kernel_rfl) (by kernel_rfl) (by kernel_rfl) (fun _ _ _ h => h) (Or.inl ⟨by kernel_rfl, ?_⟩) (by assumption) ?_
  rotate_left
  · (intro w' hSw; (try dsimp only at hSw); go_simp; (try with_reducible rfl))
  try simp only [Act.put, List.setIfInBounds_toArray, List.set_cons_zero, List.set_cons_succ]
  refine takeL (i := 6) (v := ?_) rfl (by kernel_rfl) (by kernel_rfl) (by kernel_rfl) (fun _ _ _ h => h) (Or.inl ⟨by kernel_rfl, ?_⟩) (by assumption) ?_
  rotate_left
  · (intro w' hSw; (try dsimp only at hSw); go_simp; (try with_reducible rfl))
  try simp only [Act.put, List.setIfInBounds_toArray, List.set_cons_zero, List.set_cons_succ]
  refine takeL (i := 7) (v := ?_) rfl (by kernel_rfl) (by kernel_rfl) (by kernel_rfl) (fun _ _ _ h => h) (Or.inl ⟨by kernel_rfl, ?_⟩) (by assumption) ?_
  rotate_left
  · (intro w' hSw; (try dsimp only at hSw); go_simp; (try with_reducible rfl))
  try simp only [Act.put, List.setIfInBounds_toArray, List.set_cons_zero, List.set_cons_succ]
  refine takeL (i := 8) (v := ?_) rfl (by kernel_rfl) (by kernel_rfl) (by kernel_rfl) (fun _ _ _ h => h) (Or.inl ⟨by kernel_rfl, ?_⟩) (by assumption) ?_
  rotate_left
  · (intro w' hSw; (try dsimp only at hSw); go_simp; (try with_reducible rfl))
  try simp only [Act.put, List.setIfInBounds_toArray, List.set_cons_zero, List.set_cons_succ]
  refine takeL (i := 9) (v := ?_) rfl (by kernel_rfl) (by kernel_rfl) (by kernel_rfl) (fun _ _ _ h => h) (Or.inl ⟨by kernel_rfl, ?_⟩) (by assumption) ?_
  rotate_left
  · (intro w' hSw; (try dsimp only at hSw); go_simp; (try with_reducible rfl))
  try simp only [Act.put, List.setIfInBounds_toArray, List.set_cons_zero, List.set_cons_succ]
  refine takeL (i := 10) (v := ?_) rfl (by kernel_rfl) (by kernel_rfl) (by kernel_rfl) (fun _ _ _ h => h) (Or.inl ⟨by kernel_rfl, ?_⟩) (by assumption) ?_
  rotate_left
  · (intro w' hSw; (try dsimp only at hSw); go_simp; (try with_reducible rfl))
  try simp only [Act.put, List.setIfInBounds_toArray, List.set_cons_zero, List.set_cons_succ]
  refine wpAnyH_ready (rs := [11]) (by kernel_rfl) (by simp) ?_
  refine AllReadyH.cons rfl (fun K hK => ?_) AllReadyH.nil
  go_simp
  refine (Hpc.out _ (US.drew Hus.out)).mono ?_
  rintro e w2 ⟨rfl, ⟨c22, c42, c52, d02, d12, hrun⟩, hus2⟩
  refine hK.out _ _ ?_ (fun hHeld => ?_)
  · exact ⟨c22, c42, c52, d02, d12⟩
  clear hK K
  try simp only [Act.put, List.setIfInBounds_toArray, List.set_cons_zero, List.set_cons_succ]
  refine takeL (i := 12) (v := ?_) rfl (by kernel_rfl) (by kernel_rfl) (by kernel_rfl) (fun _ _ _ h => h) (Or.inl ⟨by kernel_rfl, ?_⟩) (by assumption) ?_
  rotate_left
  · (intro w' hSw; (try dsimp only at hSw); go_simp; (try with_reducible rfl))
  try simp only [Act.put, List.setIfInBounds_toArray, List.set_cons_zero, List.set_cons_succ]
  refine takeL (i := 13) (v := ?_) rfl (by kernel_rfl) (by kernel_rfl) (by kernel_rfl) (fun _ _ _ h => h) (Or.inl ⟨by kernel_rfl, ?_⟩) (by assumption) ?_
  rotate_left
  · (intro w' hSw; (try dsimp only at hSw); go_simp; (try with_reducible rfl))
  try simp only [Act.put, List.setIfInBounds_toArray, List.set_cons_zero, List.set_cons_succ]
  refine takeL (i := 14) (v := ?_) rfl (by kernel_rfl) (by kernel_rfl) (by kernel_rfl) (fun _ _ _ h => h) (Or.inl ⟨by kernel_rfl, ?_⟩) (by assumption) ?_
  rotate_left
  · (intro w' hSw; (try dsimp only at hSw); go_simp; (try with_reducible rfl))
  try simp only [Act.put, List.setIfInBounds_toArray, List.set_cons_zero, List.set_cons_succ]
  refine takeL (i := 15) (v := ?_) rfl (by kernel_rfl) (by kernel_rfl) (by kernel_rfl) (fun _ _ _ h => h) (Or.inl ⟨by kernel_rfl, ?_⟩) (by assumption) ?_
  rotate_left
  · (intro w' hSw; (try dsimp only at hSw); go_simp; (try with_reducible rfl))
  try simp only [Act.put, List.setIfInBounds_toArray, List.set_cons_zero, List.set_cons_succ]
  refine takeL (i := 16) (v := ?_) rfl (by kernel_rfl) (by kernel_rfl) (by kernel_rfl) (fun _ _ _ h => h) (Or.inl ⟨by kernel_rfl, ?_⟩) (by assumption) ?_
  rotate_left
  · (intro w' hSw; (try dsimp only at hSw); go_simp; (try with_reducible rfl))
  try simp only [Act.put, List.setIfInBounds_toArray, List.set_cons_zero, List.set_cons_succ]
  refine takeL (i := 17) (v := ?_) rfl (by kernel_rfl) (by kernel_rfl) (by kernel_rfl) (fun _ _ _ h => h) (Or.inl ⟨by kernel_rfl, ?_⟩) (by assumption) ?_
  rotate_left
  · (intro w' hSw; (try dsimp only at hSw); go_simp; (try with_reducible rfl))
  try simp only [Act.put, List.setIfInBounds_toArray, List.set_cons_zero, List.set_cons_succ]
  refine takeL (i := 18) (v := ?_) rfl (by kernel_rfl) (by kernel_rfl) (by kernel_rfl) (fun _ _ _ h => h) (Or.inl ⟨by kernel_rfl, ?_⟩) (by assumption) ?_
  rotate_left
  · (intro w' hSw; (try dsimp only at hSw); go_simp; (try with_reducible rfl))
  try simp only [Act.put, List.setIfInBounds_toArray, List.set_cons_zero, List.set_cons_succ]
  refine takeL (i := 19) (v := ?_) rfl (by kernel_rfl) (by kernel_rfl) (by kernel_rfl) (fun _ _ _ h => h) (Or.inl ⟨by kernel_rfl, ?_⟩) (by assumption) ?_
  rotate_left
  · (intro w' hSw; (try dsimp only at hSw); go_simp; (try with_reducible rfl))
  try simp only [Act.put, List.setIfInBounds_toArray, List.set_cons_zero, List.set_cons_succ]
  refine takeL (i := 20) (v := ?_) rfl (by kernel_rfl) (by kernel_rfl) (by kernel_rfl) (fun _ _ _ h => h) (Or.inl ⟨by kernel_rfl, ?_⟩) (by assumption) ?_
  rotate_left
  · (intro w' hSw; (try dsimp only at hSw); go_simp; (try with_reducible rfl))
  try simp only [Act.put, List.setIfInBounds_toArray, List.set_cons_zero, List.set_cons_succ]
  refine wpAnyH_ready (rs := [21]) (by kernel_rfl) (by simp) ?_
  refine AllReadyH.cons rfl (fun K hK => ?_) AllReadyH.nil
  go_simp
  refine hK.out _ _ ?_ (fun hHeld => ?_)
  · exact (Hend.out _ hus2).2
  clear hK K
  try simp only [Act.put, List.setIfInBounds_toArray, List.set_cons_zero, List.set_cons_succ]
  refine wpAnyH_done (by kernel_rfl) ?_ _
  have Hfin := Lib.hid (Hend.out _ hus2).1
  generalize F w2 = w3 at *
  clear c21 c41 c51 d01 d11 c22 c42 c52 d02 d12 hrun hus2 Hpc Hend HF Huc Hus
  go_wp2
  go_ret
  exact Hfin.out

set_option maxRecDepth 100000 in
set_option maxHeartbeats 2000000 in
theorem unbound_old11 {L sb m1 m2 m3 m4 N : Nat} {st : St ByteArray} {bd : List (Bd ByteArray)} {vs : List ByteArray} {no pf : Nat} (x : ByteArray) (k : Nat) (w : World) (hL : L ≤ w.heap.size) (h : Sv w L sb m1 m2 m3 m4 N st bd vs no pf) (hx : x.size ≤ maxLen) (_hk : k ≤ 1000) (hN : N < maxLen) (hno : no ≤ 1000) (hpf : pf ≤ 1000)
    (hlook : (Instr.lookup 73 (.map (some m1)) (.string x) true).run Tryd.prog w = .ok (.tuple #[.agg #[.int .i64 (k : Int), .bool true], .bool true]) w) (hp : posB no pf 0 0 = true)
    (hst : Fo.step1 st.syms (x, ((k : Int), posB no pf 0 0)) = some (Fo.updM x ((k : Int), true) st.syms)) :
    Calls Tryd.prog 65 #[.pointer (some ⟨sb, 0, none⟩), .string x, .int .i64 (k : Int)] w (UnbPost L sb m1 m2 m3 m4 N st bd vs no pf x k w) := by
  have c2 : w.cell? ⟨sb, 2, none⟩ = some (.map (some m1)) := h.box.cell 2
  have hus : US w L sb m1 m2 m3 m4 N st bd vs no pf (k : Int) true (w.alloc (.cells #[.int .i64 (k : Int), .bool true] 82)) := ⟨h.alloc _, Blk.new w _ _, (Below.refl _ _).alloc (Nat.le_refl _) _⟩
  have hpos := fun W => positive_any no pf 0 0 W (Nat.zero_le _) hno hpf (by omega)
  have H := Lib.hid h; clear h
  obtain ⟨F, hF⟩ := putW_ex 73 82 m1 x (.agg #[.int .i64 (k : Int), .bool true]) Tryd.underlying73 hx
  have huc : ∀ W, US w L sb m1 m2 m3 m4 N st bd vs no pf (k : Int) true W → UC w sb m1 no pf (k : Int) true x (.agg #[.int .i64 (k : Int), .bool true]) F W := fun W hw => ⟨hw.sv.box.cell 2, hw.sv.box.cell 4, hw.sv.box.cell 5, hw.bx.cell 0, hw.bx.cell 1, (hF W N _ hw.sv.sym hN).1⟩
  have hend : ∀ W, US w L sb m1 m2 m3 m4 N st bd vs no pf (k : Int) true W → UnbPost L sb m1 m2 m3 m4 N st bd vs no pf x k w (.returned (.bool true)) (F W) ∧ (fun W => W.cell? ⟨sb, 2, none⟩ = some (.map (some m1)) ∧ W.cell? ⟨sb, 4, none⟩ = some (.int .i64 (no : Int)) ∧ W.cell? ⟨sb, 5, none⟩ = some (.int .i64 (pf : Int)) ∧ W.cell? ⟨w.heap.size, 0, none⟩ = some (.int .i64 (k : Int)) ∧ W.cell? ⟨w.heap.size, 1, none⟩ = some (.bool true)) (F W) := fun W hw => by
    obtain ⟨-, h2, h3⟩ := hF W N _ hw.sv.sym hN
    have hl1 := hw.sv.l1
    have hsv := hw.sv.put_sym (u := ((k : Int), true)) h2 h3
    have hbx := hw.bx.grown h3 (some_ne (hw.sv.sym.ne_blk hw.bx).symm)
    exact ⟨.yes hst ((Fr.of hL hw.bel).map hw.sv.sym h3 hl1 (Nat.le_trans hL hw.bel.size)) hsv, hsv.box.cell 2, hsv.box.cell 4, hsv.box.cell 5, hbx.cell 0, hbx.cell 1⟩
  clear hst
  have Hend := Lib.hid hend; clear hend
  have HF := Lib.hid hF; clear hF
  have Hus := Lib.hid hus; clear hus
  have Huc := Lib.hid huc; clear huc
  rw [hp] at hpos
  clear hp
  have Hpos := Lib.hid hpos; clear hpos
  have hq1 : ((k : Int) == (k : Int)) = true := by simp
  have hq2 : ((k : Int) != (k : Int)) = false := by simp
  go_enter Tryd.func65, Tryd.ntmps65
  go_wp2
  have hpc : ∀ W, US w L sb m1 m2 m3 m4 N st bd vs no pf (k : Int) true W → Calls Tryd.prog 66 #[.agg #[.int .i64 (no : Int), .int .i64 (pf : Int)], .agg #[.int .i64 0, .int .i64 0]] W fun e w' => e = .returned (.bool true) ∧ UC w sb m1 no pf (k : Int) true x (.agg #[.int .i64 (k : Int), .bool true]) F w' ∧ US w L sb m1 m2 m3 m4 N st bd vs no pf (k : Int) true w' := fun W hw =>
    (Hpos.out W).mono fun _ _ ⟨he, hb⟩ => ⟨he, Huc.out _ (hw.step hb), hw.step hb⟩
  have Hpc := Lib.hid hpc; clear hpc
  obtain ⟨c21, c41, c51, d01, d11, -⟩ := Huc.out _ Hus.out
  refine wp_region_held_drew (S := fun W => W.cell? ⟨sb, 2, none⟩ = some (.map (some m1)) ∧ W.cell? ⟨sb, 4, none⟩ = some (.int .i64 (no : Int)) ∧ W.cell? ⟨sb, 5, none⟩ = some (.int .i64 (pf : Int)) ∧ W.cell? ⟨w.heap.size, 0, none⟩ = some (.int .i64 (k : Int)) ∧ W.cell? ⟨w.heap.size, 1, none⟩ = some (.bool true)) (by kernel_rfl) (⟨c21, c41, c51, d01, d11⟩) (fun hHeld => ?_)
  refine takeL (i := 0) (v := ?_) rfl (by kernel_rfl) (by kernel_rfl) (by kernel_rfl) (fun _ _ _ h => h) (Or.inl ⟨by kernel_rfl, ?_⟩) (by assumption) ?_
  rotate_left
  · (intro w' hSw; (try dsimp only at hSw); go_simp; (try with_reducible rfl))
  try simp only [Act.put, List.setIfInBounds_toArray, List.set_cons_zero, List.set_cons_succ]
  refine takeL (i := 1) (v := ?_) rfl (by kernel_rfl) (by kernel_rfl) (by kernel_rfl) (fun _ _ _ h => h) (Or.inl ⟨by kernel_rfl, ?_⟩) (by assumption) ?_
  rotate_left
  · (intro w' hSw; (try dsimp only at hSw); go_simp; (try with_reducible rfl))
  try simp only [Act.put, List.setIfInBounds_toArray, List.set_cons_zero, List.set_cons_succ]
  refine takeL (i := 2) (v := ?_) rfl (by kernel_rfl) (by kernel_rfl) (by kernel_rfl) (fun _ _ _ h => h) (Or.inl ⟨by kernel_rfl, ?_⟩) (by assumption) ?_
  rotate_left
  · (intro w' hSw; (try dsimp only at hSw); go_simp; (try with_reducible rfl))
  try simp only [Act.put, List.setIfInBounds_toArray, List.set_cons_zero, List.set_cons_succ]
  refine takeL (i := 3) (v := ?_) rfl (by kernel_rfl) (by kernel_rfl) (by kernel_rfl) (fun _ _ _ h => h) (Or.inl ⟨by kernel_rfl, ?_⟩) (by assumption) ?_
  rotate_left
  · (intro w' hSw; (try dsimp only at hSw); go_simp; (try with_reducible rfl))
  try simp only [Act.put, List.setIfInBounds_toArray, List.set_cons_zero, List.set_cons_succ]
  refine takeL (i := 4) (v := ?_) rfl (by kernel_rfl) (by kernel_rfl) (by kernel_rfl) (fun _ _ _ h => h) (Or.inl ⟨by kernel_rfl, ?_⟩) (by assumption) ?_
  rotate_left
  · (intro w' hSw; (try dsimp only at hSw); go_simp; (try with_reducible rfl))
  try simp only [Act.put, List.setIfInBounds_toArray, List.set_cons_zero, List.set_cons_succ]
  refine takeL (i := 5) (v := ?_) rfl (by kernel_rfl) (by kernel_rfl) (by kernel_rfl) (fun _ _ _ h => h) (Or.inl ⟨by kernel_rfl, ?_⟩) (by assumption) ?_
  rotate_left
  · (intro w' hSw; (try dsimp only at hSw); go_simp; (try with_reducible rfl))
  try simp only [Act.put, List.setIfInBounds_toArray, List.set_cons_zero, List.set_cons_succ]
  refine takeL (i := 6) (v := ?_) rfl (by kernel_rfl) (by kernel_rfl) (by kernel_rfl) (fun _ _ _ h => h) (Or.inl ⟨by kernel_rfl, ?_⟩) (by assumption) ?_
  rotate_left
  · (intro w' hSw; (try dsimp only at hSw); go_simp; (try with_reducible rfl))
  try simp only [Act.put, List.setIfInBounds_toArray, List.set_cons_zero, List.set_cons_succ]
  refine takeL (i := 7) (v := ?_) rfl (by kernel_rfl) (by kernel_rfl) (by kernel_rfl) (fun _ _ _ h => h) (Or.inl ⟨by kernel_rfl, ?_⟩) (by assumption) ?_
  rotate_left
  · (intro w' hSw; (try dsimp only at hSw); go_simp; (try with_reducible rfl))
  try simp only [Act.put, List.setIfInBounds_toArray, List.set_cons_zero, List.set_cons_succ]
  refine takeL (i := 8) (v := ?_) rfl (by kernel_rfl) (by kernel_rfl) (by kernel_rfl) (fun _ _ _ h => h) (Or.inl ⟨by kernel_rfl, ?_⟩) (by assumption) ?_
  rotate_left
  · (intro w' hSw; (try dsimp only at hSw); go_simp; (try with_reducible rfl))
  try simp only [Act.put, List.setIfInBounds_toArray, List.set_cons_zero, List.set_cons_succ]
  refine takeL (i := 9) (v := ?_) rfl (by kernel_rfl) (by kernel_rfl) (by kernel_rfl) (fun _ _ _ h => h) (Or.inl ⟨by kernel_rfl, ?_⟩) (by assumption) ?_
  rotate_left
  · (intro w' hSw; (try dsimp only at hSw); go_simp; (try with_reducible rfl))
  try simp only [Act.put, List.setIfInBounds_toArray, List.set_cons_zero, List.set_cons_succ]
  refine takeL (i := 10) (v := ?_) rfl (by kernel_rfl) (by kernel_rfl) (by kernel_rfl) (fun _ _ _ h => h) (Or.inl ⟨by kernel_rfl, ?_⟩) (by assumption) ?_
  rotate_left
  · (intro w' hSw; (try dsimp only at hSw); go_simp; (try with_reducible rfl))
  try simp only [Act.put, List.setIfInBounds_toArray, List.set_cons_zero, List.set_cons_succ]
  refine wpAnyH_ready (rs := [11]) (by kernel_rfl) (by simp) ?_
  refine AllReadyH.cons rfl (fun K hK => ?_) AllReadyH.nil
  go_simp
  refine (Hpc.out _ (US.drew Hus.out)).mono ?_
  rintro e w2 ⟨rfl, ⟨c22, c42, c52, d02, d12, hrun⟩, hus2⟩
  refine hK.out _ _ ?_ (fun hHeld => ?_)
  · exact ⟨c22, c42, c52, d02, d12⟩
  clear hK K
  try simp only [Act.put, List.setIfInBounds_toArray, List.set_cons_zero, List.set_cons_succ]
  refine takeL (i := 12) (v := ?_) rfl (by kernel_rfl) (by kernel_rfl) (by kernel_rfl) (fun _ _ _ h => h) (Or.inl ⟨by kernel_rfl, ?_⟩) (by assumption) ?_
  rotate_left
  · (intro w' hSw; (try dsimp only at hSw); go_simp; (try with_reducible rfl))
  try simp only [Act.put, List.setIfInBounds_toArray, List.set_cons_zero, List.set_cons_succ]
  refine takeL (i := 13) (v := ?_) rfl (by kernel_rfl) (by kernel_rfl) (by kernel_rfl) (fun _ _ _ h => h) (Or.inl ⟨by kernel_rfl, ?_⟩) (by assumption) ?_
  rotate_left
  · (intro w' hSw; (try dsimp only at hSw); go_simp; (try with_reducible rfl))
  try simp only [Act.put, List.setIfInBounds_toArray, List.set_cons_zero, List.set_cons_succ]
  refine takeL (i := 14) (v := ?_) rfl (by kernel_rfl) (by kernel_rfl) (by kernel_rfl) (fun _ _ _ h => h) (Or.inl ⟨by kernel_rfl, ?_⟩) (by assumption) ?_
  rotate_left
  · (intro w' hSw; (try dsimp only at hSw); go_simp; (try with_reducible rfl))
  try simp only [Act.put, List.setIfInBounds_toArray, List.set_cons_zero, List.set_cons_succ]
  refine takeL (i := 15) (v := ?_) rfl (by kernel_rfl) (by kernel_rfl) (by kernel_rfl) (fun _ _ _ h => h) (Or.inl ⟨by kernel_rfl, ?_⟩) (by assumption) ?_
  rotate_left
  · (intro w' hSw; (try dsimp only at hSw); go_simp; (try with_reducible rfl))
  try simp only [Act.put, List.setIfInBounds_toArray, List.set_cons_zero, List.set_cons_succ]
  refine takeL (i := 16) (v := undef) rfl (by kernel_rfl) (by kernel_rfl) (by kernel_rfl) (fun _ _ _ h => h) (Or.inr ⟨by kernel_rfl, rfl⟩) (by assumption) ?_
  try simp only [Act.put, List.setIfInBounds_toArray, List.set_cons_zero, List.set_cons_succ]
  refine takeL (i := 17) (v := undef) rfl (by kernel_rfl) (by kernel_rfl) (by kernel_rfl) (fun _ _ _ h => h) (Or.inr ⟨by kernel_rfl, rfl⟩) (by assumption) ?_
  try simp only [Act.put, List.setIfInBounds_toArray, List.set_cons_zero, List.set_cons_succ]
  refine takeL (i := 18) (v := ?_) rfl (by kernel_rfl) (by kernel_rfl) (by kernel_rfl) (fun _ _ _ h => h) (Or.inl ⟨by kernel_rfl, ?_⟩) (by assumption) ?_
  rotate_left
  · (intro w' hSw; (try dsimp only at hSw); go_simp; (try with_reducible rfl))
  try simp only [Act.put, List.setIfInBounds_toArray, List.set_cons_zero, List.set_cons_succ]
  refine takeL (i := 19) (v := ?_) rfl (by kernel_rfl) (by kernel_rfl) (by kernel_rfl) (fun _ _ _ h => h) (Or.inl ⟨by kernel_rfl, ?_⟩) (by assumption) ?_
  rotate_left
  · (intro w' hSw; (try dsimp only at hSw); go_simp; (try with_reducible rfl))
  try simp only [Act.put, List.setIfInBounds_toArray, List.set_cons_zero, List.set_cons_succ]
  refine takeL (i := 20) (v := ?_) rfl (by kernel_rfl) (by kernel_rfl) (by kernel_rfl) (fun _ _ _ h => h) (Or.inl ⟨by kernel_rfl, ?_⟩) (by assumption) ?_
  rotate_left
  · (intro w' hSw; (try dsimp only at hSw); go_simp; (try with_reducible rfl))
  try simp only [Act.put, List.setIfInBounds_toArray, List.set_cons_zero, List.set_cons_succ]
  refine wpAnyH_ready (rs := [21]) (by kernel_rfl) (by simp) ?_
  refine AllReadyH.cons rfl (fun K hK => ?_) AllReadyH.nil
  go_simp
  refine hK.out _ _ ?_ (fun hHeld => ?_)
  · exact (Hend.out _ hus2).2
  clear hK K
  try simp only [Act.put, List.setIfInBounds_toArray, List.set_cons_zero, List.set_cons_succ]
  refine wpAnyH_done (by kernel_rfl) ?_ _
  have Hfin := Lib.hid (Hend.out _ hus2).1
  generalize F w2 = w3 at *
  clear c21 c41 c51 d01 d11 c22 c42 c52 d02 d12 hrun hus2 Hpc Hend HF Huc Hus
  go_wp2
  go_ret
  exact Hfin.out

set_option maxRecDepth 100000 in
set_option maxHeartbeats 1000000 in
theorem unbound_bad {L sb m1 m2 m3 m4 N : Nat} {st : St ByteArray} {bd : List (Bd ByteArray)} {vs : List ByteArray} {no pf : Nat} (x : ByteArray) (k : Nat) (u0 : Int) (u1 : Bool) (w : World) (hL : L ≤ w.heap.size) (h : Sv w L sb m1 m2 m3 m4 N st bd vs no pf) (_hk : k ≤ 1000)
    (hlook : (Instr.lookup 73 (.map (some m1)) (.string x) true).run Tryd.prog w = .ok (.tuple #[.agg #[.int .i64 u0, .bool u1], .bool true]) w) (hne : u0 ≠ (k : Int))
    (hst : Fo.step1 st.syms (x, ((k : Int), posB no pf 0 0)) = none) :
    Calls Tryd.prog 65 #[.pointer (some ⟨sb, 0, none⟩), .string x, .int .i64 (k : Int)] w (UnbPost L sb m1 m2 m3 m4 N st bd vs no pf x k w) := by
  have c2 : w.cell? ⟨sb, 2, none⟩ = some (.map (some m1)) := h.box.cell 2
  have hq1 : (u0 == (k : Int)) = false := by simpa using hne
  have hq2 : (u0 != (k : Int)) = true := by simpa using hne
  have Hne := Lib.hid hne; clear hne
  have hpost := UnbPost.no (L := L) (sb := sb) (m1 := m1) (m2 := m2) (m3 := m3) (m4 := m4) (N := N) (bd := bd) (vs := vs) hst (Fr.of hL ((Below.refl w.heap.size w).alloc (Nat.le_refl _) (.cells #[.int .i64 u0, .bool u1] 82)))
  have Hpost := Lib.hid hpost; clear hpost
  clear hst h
  go_enter Tryd.func65, Tryd.ntmps65
  go_wp2
  go_ret
  exact Hpost.out

theorem unbound_any {L sb m1 m2 m3 m4 N : Nat} {st : St ByteArray} {bd : List (Bd ByteArray)} {vs : List ByteArray} {no pf : Nat} (x : ByteArray) (k : Nat) (w : World) (hL : L ≤ w.heap.size) (h : Sv w L sb m1 m2 m3 m4 N st bd vs no pf) (hx : x.size ≤ maxLen) (hk : k ≤ 1000) (hN : N < maxLen) (hno : no ≤ 1000) (hpf : pf ≤ 1000) :
    Calls Tryd.prog 65 #[.pointer (some ⟨sb, 0, none⟩), .string x, .int .i64 (k : Int)] w (UnbPost L sb m1 m2 m3 m4 N st bd vs no pf x k w) := by
  have hlook := h.sym.look (t := 73) Tryd.underlying73 (zeroUse w) x hx true
  simp only [if_true] at hlook
  cases hg : getM x st.syms with
  | none =>
    have hlk : lookG (symG st.syms) (.agg #[.int .i64 0, .bool false]) x = .agg #[.int .i64 0, .bool false] ∧ (symG st.syms x).isSome = false := by unfold lookG symG; rw [hg]; exact ⟨rfl, rfl⟩
    rw [hlk.1, hlk.2] at hlook
    have hst : Fo.step1 st.syms (x, ((k : Int), posB no pf 0 0)) = some (updM x ((k : Int), posB no pf 0 0) st.syms) := by unfold Fo.step1; rw [hg]
    cases hp : posB no pf 0 0
    · exact unbound_new0 x k w hL h hx hk hN hno hpf hlook hp (by rw [hst, hp])
    · exact unbound_new1 x k w hL h hx hk hN hno hpf hlook hp (by rw [hst, hp])
  | some u =>
    obtain ⟨u0, u1⟩ := u
    have hlk : lookG (symG st.syms) (.agg #[.int .i64 0, .bool false]) x = .agg #[.int .i64 u0, .bool u1] ∧ (symG st.syms x).isSome = true := by unfold lookG symG; rw [hg]; exact ⟨rfl, rfl⟩
    rw [hlk.1, hlk.2] at hlook
    by_cases hq : u0 = (k : Int)
    · subst hq
      have hst : Fo.step1 st.syms (x, ((k : Int), posB no pf 0 0)) = some (updM x ((k : Int), posB no pf 0 0 && u1) st.syms) := by unfold Fo.step1; rw [hg]; exact if_pos rfl
      cases hp : posB no pf 0 0 <;> cases u1
      · exact unbound_old00 x k w hL h hx hk hN hno hpf hlook hp (by rw [hst, hp]; rfl)
      · exact unbound_old01 x k w hL h hx hk hN hno hpf hlook hp (by rw [hst, hp]; rfl)
      · exact unbound_old10 x k w hL h hx hk hN hno hpf hlook hp (by rw [hst, hp]; rfl)
      · exact unbound_old11 x k w hL h hx hk hN hno hpf hlook hp (by rw [hst, hp]; rfl)
    · exact unbound_bad x k u0 u1 w hL h hk hlook hq (by unfold Fo.step1; rw [hg]; exact if_neg hq)

end Go.Proofs.YtmnpelhcgobfaaaDoor
