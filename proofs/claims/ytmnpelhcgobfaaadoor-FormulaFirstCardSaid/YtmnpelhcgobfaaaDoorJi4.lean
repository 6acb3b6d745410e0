/-
  Texts joined: Ftake, New, Fkind, Fnames.
-/
import Derived.Test.YtmnpelhcgobfaaaDoorJi3
import Derived.Test.YtmnpelhcgobfaaaDoorJi1

/-
  Walks: the method take of the parser.
-/
namespace Go.Proofs.YtmnpelhcgobfaaaDoor
open Go.RowKit

namespace Fo
theorem toks_after : ∀ (n : Nat) (l : Bs) (i : Nat) (a : Nat) (b : Bs) (r : List Tok), l.length ≤ n → toks i l = (a, b) :: r →
    i ≤ a ∧ a + b.length ≤ i + l.length ∧ 1 ≤ b.length ∧ r = toks (a + b.length) (l.drop (a + b.length - i))
  | 0, l, i, a, b, r, hn, h => by
    obtain rfl : l = [] := List.length_eq_zero_iff.1 (by omega)
    rw [toks_nil] at h; cases h
  | n + 1, [], i, a, b, r, hn, h => by rw [toks_nil] at h; cases h
  | n + 1, c :: l, i, a, b, r, hn, h => by
    simp only [List.length_cons] at hn
    cases hc : blankB c
    · rw [toks_cons hc] at h
      injection h with h1 h2
      injection h1 with h1 h3
      subst h1 h3 h2
      have hm : (moreT c l).length ≤ l.length := by
        unfold moreT
        split
        · exact (List.takeWhile_sublist _).length_le
        · simp
      refine ⟨Nat.le_refl _, by simp; omega, by simp, ?_⟩
      rw [List.length_cons, show i + ((moreT c l).length + 1) - i = (moreT c l).length + 1 by omega, List.drop_succ_cons, show i + ((moreT c l).length + 1) = i + 1 + (moreT c l).length by omega]
    · rw [toks_blank hc] at h
      obtain ⟨h1, h2, h3, h4⟩ := toks_after n l (i + 1) a b r (by omega) h
      refine ⟨by omega, by simp; omega, h3, ?_⟩
      rw [h4, show a + b.length - i = (a + b.length - (i + 1)) + 1 by omega, List.drop_succ_cons]
theorem toksAt_after {s : Bs} {i a : Nat} {b : Bs} {r : List Tok} (hi : i ≤ s.length) (h : toksAt s i = (a, b) :: r) : i ≤ a ∧ a + b.length ≤ s.length ∧ 1 ≤ b.length ∧ r = toksAt s (a + b.length) := by
  obtain ⟨h1, h2, h3, h4⟩ := toks_after _ _ i a b r (Nat.le_refl _) h
  rw [List.length_drop] at h2
  refine ⟨h1, by omega, h3, ?_⟩
  rw [h4]
  unfold toksAt
  rw [List.drop_drop, show i + (a + b.length - i) = a + b.length by omega]
end Fo

/-- The kind of the token that comes first; the place where it begins; the place behind it. -/
def kindT : List Fo.Tok → ByteArray
  | [] => endK
  | t :: _ => kindB t.2
def textT : List Fo.Tok → Fo.Bs
  | [] => []
  | t :: _ => t.2
def overT (len : Nat) : List Fo.Tok → Nat
  | [] => len
  | t :: _ => t.1 + t.2.length
theorem tokV_eq (len : Nat) (ts : List Fo.Tok) : tokV len ts = .agg #[.string (kindT ts), .string ⟨(textT ts).toArray⟩, .int .i64 (Fo.atT len ts)] := by
  cases ts with
  | nil => rfl
  | cons t r => rfl
theorem over_eq (len : Nat) (ts : List Fo.Tok) : overT len ts = Fo.atT len ts + (textT ts).length := by
  cases ts with
  | nil => rfl
  | cons t r => rfl
theorem over_le {s : ByteArray} {n : Nat} (hn : n ≤ s.size) : overT s.size (Fo.toksAt s.toList n) ≤ s.size ∧ Fo.toksAt s.toList (overT s.size (Fo.toksAt s.toList n)) = (Fo.toksAt s.toList n).tail := by
  have hl := length_bytes s
  cases h : Fo.toksAt s.toList n with
  | nil => exact ⟨Nat.le_refl _, Fo.toksAt_end (by simp only [overT]; omega)⟩
  | cons t r =>
    obtain ⟨a, b⟩ := t
    obtain ⟨-, h2, -, h4⟩ := Fo.toksAt_after (by omega) h
    exact ⟨by unfold overT; simp only; omega, by rw [h4]; rfl⟩

theorem grownBy_trans {a b c : World} {row : Option Nat} (h : a.grownBy b row) (k : b.grownBy c row) : a.grownBy c row :=
  ⟨k.os.trans h.os, k.tape.trans h.tape, k.output.trans h.output, Nat.le_trans h.size k.size, fun i hi hne => (k.block i (Nat.lt_of_lt_of_le hi h.size) hne).trans (h.block i hi hne)⟩
theorem grownBy_setCell {a w : World} {g : Nat} (h : a.grownBy w (some g)) (o : Nat) (u : Value) : a.grownBy (w.setCell ⟨g, o, none⟩ u) (some g) :=
  grownBy_trans h ⟨rfl, rfl, rfl, by simp [World.setCell], fun i hi hne => Below.heap_setCell _ _ _ _ (fun e => hne (by rw [e]))⟩
theorem grownBy_of_below {w w' : World} (hb : Below w.heap.size w w') (row : Option Nat) : w.grownBy w' row := ⟨hb.os, hb.tape, hb.output, hb.size, fun i hi _ => hb.block i hi⟩

theorem grown_over {a w : World} {row : Option Nat} (h : a.grownBy w row) {p : Addr} (hp : a.heap.size ≤ p.block) (u : Value) : a.grownBy (w.setCell p u) row :=
  ⟨h.os, h.tape, h.output, by simpa [World.setCell] using h.size, fun i hi hne => (Below.heap_setCell w p u i (fun e => by omega)).trans (h.block i hi hne)⟩

/-- The panic at a token that cannot continue. -/
def stuckChain (at_ : Nat) : List PanicEntry := [{ v := .iface 55 (.int .i64 at_), recovered := false }]

set_option maxRecDepth 100000 in
set_option maxHeartbeats 400000 in
theorem take_yes (R n : Nat) (text : ByteArray) (acc : List ByteArray) (v : Value) (w : World) (hr : Psr w R text n) (hn : n ≤ text.size) (hs : text.size ≤ 100000)
    (hacc : Strs w (· < w.heap.size) v acc) (hk : kindT (Fo.toksAt text.toList n) ∈ acc) :
    Calls Tryd.prog 25 #[.pointer (some ⟨R, 0, none⟩), v] w
      fun e w' => e = .returned (tokV text.size (Fo.toksAt text.toList n)) ∧ Psr w' R text (overT text.size (Fo.toksAt text.toList n)) ∧ w.grownBy w' (some R) := by
  have hRw := hr.lt
  have hov := (over_le hn).1
  have hovq := over_eq text.size (Fo.toksAt text.toList n)
  have hnext : ∀ W, Psr W R text n → Calls Tryd.prog 37 #[.pointer (some ⟨R, 0, none⟩)] W fun e w' => e = .returned (tokV text.size (Fo.toksAt text.toList n)) ∧ Below W.heap.size W w' := fun W h => next_any R n text W h hn hs
  rw [tokV_eq] at hnext ⊢
  generalize kindT (Fo.toksAt text.toList n) = kd at *
  have htx : (⟨(textT (Fo.toksAt text.toList n)).toArray⟩ : ByteArray).size = (textT (Fo.toksAt text.toList n)).length := by simp [ByteArray.size]
  generalize (textT (Fo.toksAt text.toList n)).length = tl at *
  generalize (⟨(textT (Fo.toksAt text.toList n)).toArray⟩ : ByteArray) = tx at *
  generalize overT text.size (Fo.toksAt text.toList n) = ov at *
  generalize Fo.atT text.size (Fo.toksAt text.toList n) = at_ at *
  subst hovq
  subst htx
  have hd : decide (kd ∈ acc) = true := decide_eq_true hk
  have Hd := Lib.hid hd; clear hd hk
  have Hnext := Lib.hid hnext; clear hnext
  have hr1 : Psr (w.alloc (.cells #[.string ⟨#[]⟩, .string ⟨#[]⟩, .int .i64 0] 62)) R text n := Blk.alloc hr _
  have hz : Blk (w.alloc (.cells #[.string ⟨#[]⟩, .string ⟨#[]⟩, .int .i64 0] 62)) w.heap.size 62 #[.string ⟨#[]⟩, .string ⟨#[]⟩, .int .i64 0] := Blk.new _ _ _
  have hbel : Below w.heap.size w (w.alloc (.cells #[.string ⟨#[]⟩, .string ⟨#[]⟩, .int .i64 0] 62)) := (Below.refl _ _).alloc (Nat.le_refl _) _
  go_enter Tryd.func25, Tryd.ntmps25
  go_wp2_with (go_at_call 37; refine (Hnext.out _ hr1).mono ?_; rintro e w1 ⟨rfl, hb1⟩)
  have hr2 : Psr (w1.alloc (.cells #[.string kd, .string tx, .int .i64 at_] 62)) R text n := Blk.alloc (Blk.below hr1 hb1 hr1.lt) _
  have hz2 : Blk (w1.alloc (.cells #[.string kd, .string tx, .int .i64 at_] 62)) w.heap.size 62 #[.string ⟨#[]⟩, .string ⟨#[]⟩, .int .i64 0] := Blk.alloc (Blk.below hz hb1 hz.lt) _
  have ht2 : Blk (w1.alloc (.cells #[.string kd, .string tx, .int .i64 at_] 62)) w1.heap.size 62 #[.string kd, .string tx, .int .i64 at_] := Blk.new _ _ _
  have hb2 : Below w.heap.size w (w1.alloc (.cells #[.string kd, .string tx, .int .i64 at_] 62)) := (hbel.trans (hb1.mono hbel.size)).alloc (hbel.trans (hb1.mono hbel.size)).size _
  have hT : w.heap.size < w1.heap.size := Nat.lt_of_lt_of_le hz.lt hb1.size
  generalize (w1.alloc (.cells #[.string kd, .string tx, .int .i64 at_] 62)) = w2 at *
  clear hb1 hz hbel hr1
  generalize w1.heap.size = T at *
  have hacc2 : Strs w2 (· < w.heap.size) v acc := hacc.below hb2
  generalize hB : w.heap.size = B at *
  have HB := Lib.hid hB; clear hB
  have c0 := hr2.c0
  have c1 := hr2.c1
  have fc1 := Blk.frozen hr2 1
  have z0 := Blk.cell0 hz2
  have z1 := Blk.cell1 hz2
  have z2 : w2.cell? ⟨B, 2, none⟩ = some (.int .i64 0) := (Blk.cell hz2 2).trans (by simp)
  have f0 := Blk.frozen hz2 0
  have f1 := Blk.frozen hz2 1
  have f2 := Blk.frozen hz2 2
  have t0 := Blk.cell0 ht2
  have t1 := Blk.cell1 ht2
  have t2 : w2.cell? ⟨T, 2, none⟩ = some (.int .i64 at_) := (Blk.cell ht2 2).trans (by simp)
  go_wp2_with (go_at_call 38; refine (contains_any v acc kd w2 _ hacc2).mono ?_; rw [Hd.out]; rintro e w3 ⟨rfl, rfl⟩)
  have hRB : R ≠ B := by omega
  have hzf : Blk (w2.setCell ⟨R, 1, none⟩ (.int .i64 (↑at_ + ↑tx.size))) B 62 #[.string ⟨#[]⟩, .string ⟨#[]⟩, .int .i64 0] := Blk.far hz2 (fun e => hRB e.symm) _
  have hrf : Psr (w2.setCell ⟨R, 1, none⟩ (.int .i64 (↑at_ + ↑tx.size))) R text (at_ + tx.size) := hr2.set_
  have hg : w.grownBy (w2.setCell ⟨R, 1, none⟩ (.int .i64 (↑at_ + ↑tx.size))) (some R) := grownBy_setCell (grownBy_of_below (by rw [HB.out]; exact hb2) _) _ _
  obtain ⟨x0, x1, x2⟩ := tok_cells hzf (.string kd) (.string tx) (.int .i64 at_)
  refine bodyPost_ret (v := .agg #[.string kd, .string tx, .int .i64 at_]) (by simp [results, Tryd.results25, go_sem, x0, x1, x2]) rfl ?_
  refine ⟨rfl, ?_, ?_⟩
  · exact Blk.far (Blk.far (Blk.far hrf hRB _) hRB _) hRB _
  · exact grown_over (grown_over (grown_over hg (Nat.le_of_eq HB.out) _) (Nat.le_of_eq HB.out) _) (Nat.le_of_eq HB.out) _

set_option maxRecDepth 100000 in
set_option maxHeartbeats 400000 in
theorem take_no (R n : Nat) (text : ByteArray) (acc : List ByteArray) (v : Value) (w : World) (hr : Psr w R text n) (hn : n ≤ text.size) (hs : text.size ≤ 100000)
    (hacc : Strs w (· < w.heap.size) v acc) (hk : kindT (Fo.toksAt text.toList n) ∉ acc) :
    Calls Tryd.prog 25 #[.pointer (some ⟨R, 0, none⟩), v] w
      fun e w' => e = .panicked (stuckChain (Fo.atT text.size (Fo.toksAt text.toList n))) ∧ Below w.heap.size w w' := by
  have hRw := hr.lt
  have hov := (over_le hn).1
  have hovq := over_eq text.size (Fo.toksAt text.toList n)
  have hnext : ∀ W, Psr W R text n → Calls Tryd.prog 37 #[.pointer (some ⟨R, 0, none⟩)] W fun e w' => e = .returned (tokV text.size (Fo.toksAt text.toList n)) ∧ Below W.heap.size W w' := fun W h => next_any R n text W h hn hs
  rw [tokV_eq] at hnext
  generalize kindT (Fo.toksAt text.toList n) = kd at *
  have htx : (⟨(textT (Fo.toksAt text.toList n)).toArray⟩ : ByteArray).size = (textT (Fo.toksAt text.toList n)).length := by simp [ByteArray.size]
  generalize (textT (Fo.toksAt text.toList n)).length = tl at *
  generalize (⟨(textT (Fo.toksAt text.toList n)).toArray⟩ : ByteArray) = tx at *
  generalize overT text.size (Fo.toksAt text.toList n) = ov at *
  generalize Fo.atT text.size (Fo.toksAt text.toList n) = at_ at *
  subst hovq
  subst htx
  have hd : decide (kd ∈ acc) = false := decide_eq_false hk
  have Hd := Lib.hid hd; clear hd hk
  have Hnext := Lib.hid hnext; clear hnext
  have hr1 : Psr (w.alloc (.cells #[.string ⟨#[]⟩, .string ⟨#[]⟩, .int .i64 0] 62)) R text n := Blk.alloc hr _
  have hz : Blk (w.alloc (.cells #[.string ⟨#[]⟩, .string ⟨#[]⟩, .int .i64 0] 62)) w.heap.size 62 #[.string ⟨#[]⟩, .string ⟨#[]⟩, .int .i64 0] := Blk.new _ _ _
  have hbel : Below w.heap.size w (w.alloc (.cells #[.string ⟨#[]⟩, .string ⟨#[]⟩, .int .i64 0] 62)) := (Below.refl _ _).alloc (Nat.le_refl _) _
  go_enter Tryd.func25, Tryd.ntmps25
  go_wp2_with (go_at_call 37; refine (Hnext.out _ hr1).mono ?_; rintro e w1 ⟨rfl, hb1⟩)
  have hr2 : Psr (w1.alloc (.cells #[.string kd, .string tx, .int .i64 at_] 62)) R text n := Blk.alloc (Blk.below hr1 hb1 hr1.lt) _
  have hz2 : Blk (w1.alloc (.cells #[.string kd, .string tx, .int .i64 at_] 62)) w.heap.size 62 #[.string ⟨#[]⟩, .string ⟨#[]⟩, .int .i64 0] := Blk.alloc (Blk.below hz hb1 hz.lt) _
  have ht2 : Blk (w1.alloc (.cells #[.string kd, .string tx, .int .i64 at_] 62)) w1.heap.size 62 #[.string kd, .string tx, .int .i64 at_] := Blk.new _ _ _
  have hb2 : Below w.heap.size w (w1.alloc (.cells #[.string kd, .string tx, .int .i64 at_] 62)) := (hbel.trans (hb1.mono hbel.size)).alloc (hbel.trans (hb1.mono hbel.size)).size _
  have hT : w.heap.size < w1.heap.size := Nat.lt_of_lt_of_le hz.lt hb1.size
  generalize (w1.alloc (.cells #[.string kd, .string tx, .int .i64 at_] 62)) = w2 at *
  clear hb1 hz hbel hr1
  generalize w1.heap.size = T at *
  have hacc2 : Strs w2 (· < w.heap.size) v acc := hacc.below hb2
  generalize hB : w.heap.size = B at *
  have HB := Lib.hid hB; clear hB
  have c0 := hr2.c0
  have c1 := hr2.c1
  have fc1 := Blk.frozen hr2 1
  have z0 := Blk.cell0 hz2
  have z1 := Blk.cell1 hz2
  have z2 : w2.cell? ⟨B, 2, none⟩ = some (.int .i64 0) := (Blk.cell hz2 2).trans (by simp)
  have f0 := Blk.frozen hz2 0
  have f1 := Blk.frozen hz2 1
  have f2 := Blk.frozen hz2 2
  have t0 := Blk.cell0 ht2
  have t1 := Blk.cell1 ht2
  have t2 : w2.cell? ⟨T, 2, none⟩ = some (.int .i64 at_) := (Blk.cell ht2 2).trans (by simp)
  go_wp2_with (go_at_call 38; refine (contains_any v acc kd w2 _ hacc2).mono ?_; rw [Hd.out]; rintro e w3 ⟨rfl, rfl⟩)
  exact ⟨rfl, rfl, by rw [HB.out]; exact hb2⟩

end Go.Proofs.YtmnpelhcgobfaaaDoor

/-
  Words for memory that the call itself makes: a slice, tuples, relations in blocks from L on.
-/
namespace Go.Proofs.YtmnpelhcgobfaaaDoor
open Go.RowKit

/-- From block L on, as far as there were blocks, w' is as w was, but for block R; the streams are as they were. -/
structure But (L R : Nat) (w w' : World) : Prop where
  os : w'.os = w.os
  tape : w'.tape = w.tape
  output : w'.output = w.output
  size : w.heap.size ≤ w'.heap.size
  block : ∀ k, k < L → k ≠ R → w'.heap[k]? = w.heap[k]?
theorem But.refl (L R : Nat) (w : World) : But L R w w := ⟨rfl, rfl, rfl, Nat.le_refl _, fun _ _ _ => rfl⟩
theorem But.trans {L R : Nat} {a b c : World} (h : But L R a b) (k : But L R b c) : But L R a c :=
  ⟨k.os.trans h.os, k.tape.trans h.tape, k.output.trans h.output, Nat.le_trans h.size k.size, fun i hi hr => (k.block i hi hr).trans (h.block i hi hr)⟩
theorem But.of_grown {L R : Nat} {w w' : World} (h : w.grownBy w' (some R)) (hL : L ≤ w.heap.size) : But L R w w' :=
  ⟨h.os, h.tape, h.output, h.size, fun k hk hr => h.block k (by omega) (fun e => hr (by injection e))⟩
theorem But.grown {R : Nat} {w w' : World} (h : But w.heap.size R w w') : w.grownBy w' (some R) :=
  ⟨h.os, h.tape, h.output, h.size, fun k hk hr => h.block k hk (fun e => hr (by rw [e]))⟩
theorem But.row {L R : Nat} {w w' : World} {row : Option Nat} (h : w.grownBy w' row) (hL : L ≤ w.heap.size) (hr : ∀ g, row = some g → L ≤ g) : But L R w w' :=
  ⟨h.os, h.tape, h.output, h.size, fun k hk _ => h.block k (by omega) (fun e => by have := hr k e.symm; omega)⟩
theorem But.alloc {L R : Nat} {w : World} (hL : L ≤ w.heap.size) (o : Obj) : But L R w (w.alloc o) := But.row (World.grownBy_alloc w o none) hL (by simp)
theorem But.mono {L L' R : Nat} {w w' : World} (h : But L R w w') (hL : L' ≤ L) : But L' R w w' := ⟨h.os, h.tape, h.output, h.size, fun k hk hr => h.block k (by omega) hr⟩
theorem But.setR {L R : Nat} {w : World} (o : Nat) (u : Value) : But L R w (w.setCell ⟨R, o, none⟩ u) :=
  ⟨rfl, rfl, rfl, by simp [World.setCell], fun k _ hr => Below.heap_setCell _ _ _ _ hr⟩
theorem But.setL {L R : Nat} {w : World} {p : Addr} (hp : L ≤ p.block) (u : Value) : But L R w (w.setCell p u) :=
  ⟨rfl, rfl, rfl, by simp [World.setCell], fun k hk _ => Below.heap_setCell _ _ _ _ (by omega)⟩
theorem But.drewN {L R : Nat} {w : World} (n : Nat) : But L R w (w.drewN n) := ⟨rfl, rfl, rfl, Nat.le_refl _, fun _ _ _ => rfl⟩
theorem But.below {L R : Nat} {w w' : World} (h : But L R w w') (hL : L ≤ R) : Below L w w' := ⟨h.os, h.tape, h.output, h.size, fun k hk => h.block k hk (by omega)⟩

/-- w' keeps the rows of these types from block L on. -/
def Keeps (L : Nat) (ts : List TypeId) (w w' : World) : Prop :=
  w.heap.size ≤ w'.heap.size ∧ ∀ (b : Nat) (cs : Array Value) (t : TypeId), L ≤ b → t ∈ ts → w.heap[b]? = some (.cells cs t (0, 0)) → w'.heap[b]? = w.heap[b]?
theorem heap_lt {w : World} {b : Nat} {o : Obj} (h : w.heap[b]? = some o) : b < w.heap.size := (Array.getElem?_eq_some_iff.1 h).1
theorem Keeps.of_grown {L R : Nat} {ts : List TypeId} {w w' : World} (h : w.grownBy w' (some R)) (hR : R < L) : Keeps L ts w w' :=
  ⟨h.size, fun b cs t hb _ hh => h.block b (heap_lt hh) (fun e => by injection e with e; omega)⟩
theorem Keeps.of_below {L : Nat} {ts : List TypeId} {w w' : World} (h : Below w.heap.size w w') : Keeps L ts w w' := ⟨h.size, fun b _cs _t _ _ hh => h.block b (heap_lt hh)⟩
theorem Keeps.alloc (L : Nat) (ts : List TypeId) (w : World) (o : Obj) : Keeps L ts w (w.alloc o) := ⟨by simp, fun b cs t _ _ hh => Below.heap_alloc w o b (heap_lt hh)⟩
theorem Keeps.drewN (L : Nat) (ts : List TypeId) (w : World) (n : Nat) : Keeps L ts w (w.drewN n) := ⟨Nat.le_refl _, fun _ _ _ _ _ _ => rfl⟩
theorem Keeps.refl (L : Nat) (ts : List TypeId) (w : World) : Keeps L ts w w := ⟨Nat.le_refl _, fun _ _ _ _ _ _ => rfl⟩
theorem Keeps.trans {L : Nat} {ts : List TypeId} {a b c : World} (h : Keeps L ts a b) (k : Keeps L ts b c) : Keeps L ts a c :=
  ⟨Nat.le_trans h.1 k.1, fun i cs t hi ht hh => by
    have e := h.2 i cs t hi ht hh
    exact (k.2 i cs t hi ht (e.trans hh)).trans e⟩
theorem Keeps.mono {L : Nat} {ts us : List TypeId} {w w' : World} (h : Keeps L ts w w') (hs : ∀ t, t ∈ us → t ∈ ts) : Keeps L us w w' := ⟨h.1, fun b cs t hb ht hh => h.2 b cs t hb (hs t ht) hh⟩
theorem Keeps.more {L L' : Nat} {ts : List TypeId} {w w' : World} (h : Keeps L ts w w') (hL : L ≤ L') : Keeps L' ts w w' := ⟨h.1, fun b cs t hb ht hh => h.2 b cs t (by omega) ht hh⟩
/-- Only a row of another type has been written. -/
theorem Keeps.row {L : Nat} {ts : List TypeId} {w w' : World} {row : Option Nat} (h : w.grownBy w' row) (hr : ∀ g, row = some g → ∃ cs t f, w.heap[g]? = some (.cells cs t f) ∧ t ∉ ts) : Keeps L ts w w' :=
  ⟨h.size, fun b cs t _ ht hh => h.block b (heap_lt hh) (fun e => by
    obtain ⟨cs', t', f', h1, h2⟩ := hr b e.symm
    rw [hh] at h1
    injection h1 with h1
    injection h1 with _ h1
    exact h2 (h1 ▸ ht))⟩
theorem Keeps.own {L base : Nat} {ts : List TypeId} {w w' : World} {e : TypeId} {size n : Nat} {v : Value} {xs : List Value} (h : w.grownBy w' v.ownBlock) (ho : w.ownsRow base e size v n xs) (he : e ∉ ts) : Keeps L ts w w' :=
  Keeps.row h fun g hg => by
    rcases ho.2 with ⟨rfl, _⟩ | ⟨g', cap, cur, rfl, _, hh, _⟩
    · cases hg
    · injection hg with hg
      subst hg
      exact ⟨cur, e, _, hh, he⟩
theorem Keeps.setCell {L : Nat} {ts : List TypeId} {w : World} {p : Addr} {cs : Array Value} {t : TypeId} {f : Nat × Nat} (hp : w.heap[p.block]? = some (.cells cs t f)) (ht : t ∉ ts) (u : Value) : Keeps L ts w (w.setCell p u) :=
  ⟨by simp [World.setCell], fun b cs' t' _ ht' hh => Below.heap_setCell w p u b (fun e => by
    subst e
    rw [hh] at hp
    injection hp with hp
    injection hp with _ hp
    exact ht (hp ▸ ht'))⟩

def NInts (w : World) (L : Nat) (v : Value) (t : List Int) : Prop :=
  ∃ A n c, v = .slice A n c ∧ n = t.length ∧ n ≤ 140737488351232 ∧
    (0 < n → ∃ ad cs, A = some ad ∧ L ≤ ad.block ∧ w.heap[ad.block]? = some (.cells cs 3 (0, 0)) ∧ ∀ (j : Nat) (x : Int), t[j]? = some x → w.cell? (ad.add j) = some (Value.int .i64 x)) ∧ ∃ xs, w.ownsRow L 3 1 v n xs
theorem own_base {w : World} {base base' n size : Nat} {e : TypeId} {v : Value} {xs : List Value} (h : w.ownsRow base e size v n xs) (hb : base' ≤ base) : w.ownsRow base' e size v n xs := by
  rcases h with ⟨h1, h2 | ⟨g, cap, cur, e1, e2, h3⟩⟩
  · exact ⟨h1, .inl h2⟩
  · exact ⟨h1, .inr ⟨g, cap, cur, e1, by omega, h3⟩⟩
theorem own_keeps {w w' : World} {L base n size : Nat} {e : TypeId} {ts : List TypeId} {v : Value} {xs : List Value} (h : w.ownsRow base e size v n xs) (hk : Keeps L ts w w') (hL : L ≤ base) (he : e ∈ ts) : w'.ownsRow base e size v n xs := by
  rcases h with ⟨h1, h2 | ⟨g, cap, cur, e1, e2, h3, h4⟩⟩
  · exact ⟨h1, .inl h2⟩
  · exact ⟨h1, .inr ⟨g, cap, cur, e1, e2, (hk.2 g cur e (by omega) he h3).trans h3, h4⟩⟩
section
variable {w w' : World} {L L' : Nat} {v : Value}
theorem NInts.keep {t : List Int} (h : NInts w L v t) (hk : Keeps L [3] w w') : NInts w' L v t := by
  obtain ⟨A, n, c, h1, h2, h3, h4, xs, hx⟩ := h
  refine ⟨A, n, c, h1, h2, h3, fun hn => ?_, xs, own_keeps hx hk (Nat.le_refl _) (by simp)⟩
  obtain ⟨ad, cs, e, hl, hb, hc⟩ := h4 hn
  have hs := hk.2 _ _ _ hl (by simp) hb
  exact ⟨ad, cs, e, hl, hs.trans hb, fun j x hx => (World.cell?_of_block (by rw [block_of_add]; exact hs)).trans (hc j x hx)⟩
theorem NInts.ints {t : List Int} (h : NInts w L v t) : Ints w w.heap.size v t := by
  obtain ⟨A, n, c, h1, h2, h3, h4, -⟩ := h
  refine ⟨A, n, c, h1, h2, h3, by simp [h2], fun hn => ?_⟩
  obtain ⟨ad, cs, e, hl, hb, hc⟩ := h4 hn
  refine ⟨ad, e, heap_lt hb, fun j u hu => ?_⟩
  rw [List.getElem?_map] at hu
  cases hx : t[j]? with
  | none => rw [hx] at hu; cases hu
  | some x => rw [hx] at hu; exact (hc j x hx).trans hu
theorem NInts.more {t : List Int} (h : NInts w L v t) (hL : L' ≤ L) : NInts w L' v t := by
  obtain ⟨A, n, c, h1, h2, h3, h4, xs, hx⟩ := h
  refine ⟨A, n, c, h1, h2, h3, fun hn => ?_, xs, own_base hx hL⟩
  obtain ⟨ad, cs, e, hl, hb, hc⟩ := h4 hn
  exact ⟨ad, cs, e, by omega, hb, hc⟩
theorem NInts.nil (w : World) (L : Nat) : NInts w L (.slice none 0 0) [] := ⟨_, _, _, rfl, rfl, by omega, fun h => absurd h (by omega), [], World.ownsRow_nil _ _ _ _⟩
theorem own_slice {base : Nat} {e : TypeId} {size n : Nat} {xs : List Value} (h : w.ownsRow base e size v n xs) : ∃ A c, v = .slice A n c := by
  rcases h.2 with ⟨rfl, rfl⟩ | ⟨g, cap, cur, rfl, _⟩
  · exact ⟨_, _, rfl⟩
  · exact ⟨_, _, rfl⟩
theorem own_at {base : Nat} {e : TypeId} {size n : Nat} {xs : List Value} {A : Option Addr} {c : Nat} (h : w.ownsRow base e size (.slice A n c) n xs) (hn : 0 < n) :
    ∃ ad cs, A = some ad ∧ base ≤ ad.block ∧ w.heap[ad.block]? = some (.cells cs e (0, 0)) ∧ ∀ (j : Nat) (u : Value), xs[j]? = some u → w.cell? (ad.add j) = some u := by
  rcases h.2 with ⟨h0, hz⟩ | ⟨g, cap, cur, hv, hbg, hh, _⟩
  · omega
  · injection hv with e1 e2 e3
    subst e1
    exact ⟨_, cur, rfl, hbg, hh, h.cells (g := g) rfl⟩
theorem NInts.own {base : Nat} {n : Nat} {t : List Int} (h : w.ownsRow base 3 1 v n (t.map (Value.int .i64))) (hL : L ≤ base) (hn : n ≤ 140737488351232) : NInts w L v t := by
  obtain ⟨A, c, rfl⟩ := own_slice h
  have hl := h.1
  rw [List.length_map, Nat.mul_one] at hl
  refine ⟨A, n, c, rfl, hl.symm, hn, fun h0 => ?_, _, own_base h hL⟩
  obtain ⟨ad, cs, rfl, h1, h2, h3⟩ := own_at h h0
  exact ⟨ad, cs, rfl, by omega, h2, fun j x hx => h3 j _ (by rw [List.getElem?_map, hx]; rfl)⟩
theorem own_grown {base R : Nat} {e : TypeId} {size n : Nat} {xs : List Value} (h : w.ownsRow base e size v n xs) (hg : w.grownBy w' (some R)) (hR : R < base) : w'.ownsRow base e size v n xs := by
  refine h.kept hg ?_
  cases ho : v.ownBlock with
  | none => exact .inl rfl
  | some g => exact .inr (fun e => by injection e with e; have := (h.lt g ho).1; omega)
end

end Go.Proofs.YtmnpelhcgobfaaaDoor

/-
  Kinds of tokens: which token a kind accepts; what a method that reads leaves; a literal row of strings; the append of one string.
-/
namespace Go.Proofs.YtmnpelhcgobfaaaDoor
open Go.RowKit

theorem lit_toList (l : List UInt8) : (⟨l.toArray⟩ : ByteArray).toList = l := by rw [ByteArray.toList_eq]
theorem lit_inj {l m : List UInt8} : (⟨l.toArray⟩ : ByteArray) = ⟨m.toArray⟩ ↔ l = m := by
  constructor
  · intro h
    have := congrArg ByteArray.toList h
    rwa [lit_toList, lit_toList] at this
  · intro h; rw [h]
theorem word_cases {x : Fo.Bs} (h : Sh.wordB x = true) : Sh.alnumB (x.getD 0 0) = true ∧ Sh.nameB x = false ∧ Fo.numB x = false ∧ x ≠ nameK.toList ∧ x ≠ numK.toList ∧ x ≠ noK.toList ∧ x ≠ endK.toList := by
  unfold Sh.wordB at h
  simp only [decide_eq_true_eq, List.mem_cons, List.not_mem_nil, or_false] at h
  rcases h with rfl | rfl | rfl | rfl | rfl | rfl | rfl | rfl | rfl | rfl | rfl <;>
    (refine ⟨by decide, by decide, by decide, ?_, ?_, ?_, ?_⟩ <;> (rw [show _ = _ from lit_toList _]; decide))
theorem name_head {l : Fo.Bs} (h : Sh.nameB l = true) : Sh.alnumB (l.getD 0 0) = true ∧ Sh.wordB l = false ∧ Sh.letterB (l.getD 0 0).toNat = true := by
  unfold Sh.nameB at h
  simp only [Bool.and_eq_true, Bool.not_eq_true'] at h
  exact ⟨by unfold Sh.alnumB; rw [h.1.1.2]; rfl, h.2, h.1.1.2⟩
theorem num_head {l : Fo.Bs} (h : Fo.numB l = true) : Sh.digitB (l.getD 0 0).toNat = true := by
  unfold Fo.numB at h
  simp only [Bool.and_eq_true, Bool.or_eq_true, decide_eq_true_eq] at h
  cases l with
  | nil => simp at h
  | cons c l => simp only [List.all_cons, Bool.and_eq_true] at h; exact h.1.1
theorem letter_not_digit {c : Nat} (h : Sh.letterB c = true) : Sh.digitB c = false := by
  unfold Sh.letterB at h; unfold Sh.digitB
  simp only [decide_eq_true_eq] at h
  simp only [decide_eq_false_iff_not]; omega
theorem num_not_name {l : Fo.Bs} (h : Fo.numB l = true) : Sh.alnumB (l.getD 0 0) = true ∧ Sh.wordB l = false ∧ Sh.nameB l = false := by
  have hd := num_head h
  refine ⟨by unfold Sh.alnumB; rw [hd]; simp, ?_, ?_⟩
  · cases hw : Sh.wordB l
    · rfl
    · have := (word_cases hw).2.2.1
      rw [h] at this; cases this
  · cases hn : Sh.nameB l
    · rfl
    · have := letter_not_digit (name_head hn).2.2
      rw [hd] at this; cases this

/-- The kinds, one by one. -/
theorem kind_cases (l : Fo.Bs) : (Sh.wordB l = true ∧ kindB l = ⟨l.toArray⟩) ∨ (Sh.nameB l = true ∧ kindB l = nameK) ∨ (Fo.numB l = true ∧ kindB l = numK) ∨
    (Sh.alnumB (l.getD 0 0) = true ∧ Sh.wordB l = false ∧ Sh.nameB l = false ∧ Fo.numB l = false ∧ kindB l = noK) ∨ (Sh.alnumB (l.getD 0 0) = false ∧ kindB l = ⟨l.toArray⟩) := by
  unfold kindB kindS
  rw [lit_toList]
  cases ha : Sh.alnumB (l.getD 0 0)
  · exact Or.inr (Or.inr (Or.inr (Or.inr ⟨rfl, by simp⟩)))
  · cases hw : Sh.wordB l
    · cases hn : Sh.nameB l
      · cases hm : Fo.numB l
        · exact Or.inr (Or.inr (Or.inr (Or.inl ⟨rfl, rfl, rfl, rfl, by simp⟩)))
        · exact Or.inr (Or.inr (Or.inl ⟨rfl, by simp⟩))
      · exact Or.inr (Or.inl ⟨rfl, by simp⟩)
    · exact Or.inl ⟨rfl, by simp⟩
theorem kind_ne {l : Fo.Bs} {k : ByteArray} (hk : k = nameK ∨ k = numK ∨ k = noK ∨ k = endK) (ha : (Sh.wordB l = true) ∨ Sh.alnumB (l.getD 0 0) = false) : (⟨l.toArray⟩ : ByteArray) ≠ k := by
  intro e
  have e' := congrArg ByteArray.toList e
  rw [lit_toList] at e'
  rcases ha with hw | ha
  · have h := (word_cases hw).2.2.2
    rcases hk with rfl | rfl | rfl | rfl
    · exact h.1 e'
    · exact h.2.1 e'
    · exact h.2.2.1 e'
    · exact h.2.2.2 e'
  · rw [e'] at ha
    rcases hk with rfl | rfl | rfl | rfl <;> (rw [show _ = _ from lit_toList _] at ha; revert ha; decide)
theorem kindB_name {l : Fo.Bs} : kindB l = nameK ↔ Sh.nameB l = true := by
  constructor
  · intro h
    rcases kind_cases l with ⟨h1, h2⟩ | ⟨h1, h2⟩ | ⟨h1, h2⟩ | ⟨h1, _, _, _, h2⟩ | ⟨h1, h2⟩
    · exact absurd (h2.symm.trans h) (kind_ne (.inl rfl) (.inl h1))
    · exact h1
    · rw [h] at h2; exact absurd h2 (by decide)
    · rw [h] at h2; exact absurd h2 (by decide)
    · exact absurd (h2.symm.trans h) (kind_ne (.inl rfl) (.inr h1))
  · intro h
    obtain ⟨h1, h2, -⟩ := name_head h
    unfold kindB kindS
    rw [lit_toList, if_pos h1, if_neg (by simp [h2]), if_pos h]
theorem kindB_num {l : Fo.Bs} : kindB l = numK ↔ Fo.numB l = true := by
  constructor
  · intro h
    rcases kind_cases l with ⟨h1, h2⟩ | ⟨h1, h2⟩ | ⟨h1, h2⟩ | ⟨h1, _, _, _, h2⟩ | ⟨h1, h2⟩
    · exact absurd (h2.symm.trans h) (kind_ne (.inr (.inl rfl)) (.inl h1))
    · rw [h] at h2; exact absurd h2 (by decide)
    · exact h1
    · rw [h] at h2; exact absurd h2 (by decide)
    · exact absurd (h2.symm.trans h) (kind_ne (.inr (.inl rfl)) (.inr h1))
  · intro h
    obtain ⟨h1, h2, h3⟩ := num_not_name h
    unfold kindB kindS
    rw [lit_toList, if_pos h1, if_neg (by simp [h2]), if_neg (by simp [h3]), if_pos h]
theorem kindB_end (l : Fo.Bs) : kindB l ≠ endK := by
  intro h
  rcases kind_cases l with ⟨h1, h2⟩ | ⟨h1, h2⟩ | ⟨h1, h2⟩ | ⟨h1, _, _, _, h2⟩ | ⟨h1, h2⟩
  · exact absurd (h2.symm.trans h) (kind_ne (.inr (.inr (.inr rfl))) (.inl h1))
  · rw [h] at h2; exact absurd h2 (by decide)
  · rw [h] at h2; exact absurd h2 (by decide)
  · rw [h] at h2; exact absurd h2 (by decide)
  · exact absurd (h2.symm.trans h) (kind_ne (.inr (.inr (.inr rfl))) (.inr h1))
/-- A sign or a word is a kind of its own. -/
theorem kindB_self {l x : Fo.Bs} (hx : Sh.wordB x = true ∨ Sh.alnumB (x.getD 0 0) = false) : kindB l = ⟨x.toArray⟩ ↔ l = x := by
  constructor
  · intro h
    rcases kind_cases l with ⟨h1, h2⟩ | ⟨h1, h2⟩ | ⟨h1, h2⟩ | ⟨h1, _, _, _, h2⟩ | ⟨h1, h2⟩
    · exact lit_inj.1 (h2.symm.trans h)
    · exact absurd (h.symm.trans h2) (kind_ne (.inl rfl) hx)
    · exact absurd (h.symm.trans h2) (kind_ne (.inr (.inl rfl)) hx)
    · exact absurd (h.symm.trans h2) (kind_ne (.inr (.inr (.inl rfl))) hx)
    · exact lit_inj.1 (h2.symm.trans h)
  · rintro rfl
    unfold kindB kindS
    rw [lit_toList]
    rcases hx with hw | ha
    · rw [if_pos (word_cases hw).1, if_pos hw]
    · rw [if_neg (by rw [ha]; simp)]

/-- What a method of the parser that reads leaves. -/
def RdPost {α : Type} (R : Nat) (text : ByteArray) (w : World) (x : Fo.Rd α) (V : World → Value → α → Prop) (e : Ending) (w' : World) : Prop :=
  w.grownBy w' (some R) ∧ match x with
    | .ok (a, r) => ∃ v n, e = .returned v ∧ V w' v a ∧ n ≤ text.size ∧ Fo.toksAt text.toList n = r ∧ Psr w' R text n
    | .error ts => e = .panicked (stuckChain (Fo.atT text.size ts))
theorem RdPost.ok {α : Type} {R : Nat} {text : ByteArray} {w w' : World} {x : Fo.Rd α} {V : World → Value → α → Prop} {a : α} {r : List Fo.Tok} (hx : x = .ok (a, r)) (v : Value) (n : Nat)
    (hg : w.grownBy w' (some R)) (hV : V w' v a) (hn : n ≤ text.size) (hr : Fo.toksAt text.toList n = r) (hp : Psr w' R text n) : RdPost R text w x V (.returned v) w' := by
  subst hx; exact ⟨hg, v, n, rfl, hV, hn, hr, hp⟩
theorem RdPost.bad {α : Type} {R : Nat} {text : ByteArray} {w w' : World} {x : Fo.Rd α} {V : World → Value → α → Prop} {ts : List Fo.Tok} (hx : x = .error ts)
    (hg : w.grownBy w' (some R)) : RdPost R text w x V (.panicked (stuckChain (Fo.atT text.size ts))) w' := by
  subst hx; exact ⟨hg, rfl⟩
theorem RdPost.hit {α : Type} {R : Nat} {text : ByteArray} {w w' : World} {x : Fo.Rd α} {V : World → Value → α → Prop} {e : Ending} {a : α} {r : List Fo.Tok} (h : RdPost R text w x V e w') (hx : x = .ok (a, r)) :
    ∃ v n, e = .returned v ∧ w.grownBy w' (some R) ∧ V w' v a ∧ n ≤ text.size ∧ Fo.toksAt text.toList n = r ∧ Psr w' R text n := by
  subst hx; obtain ⟨hg, v, n, h1, h2, h3, h4, h5⟩ := h; exact ⟨v, n, h1, hg, h2, h3, h4, h5⟩
theorem RdPost.miss {α : Type} {R : Nat} {text : ByteArray} {w w' : World} {x : Fo.Rd α} {V : World → Value → α → Prop} {e : Ending} {ts : List Fo.Tok} (h : RdPost R text w x V e w') (hx : x = .error ts) :
    e = .panicked (stuckChain (Fo.atT text.size ts)) ∧ w.grownBy w' (some R) := by
  subst hx; exact ⟨h.2, h.1⟩

/-- A row of strings that was written out. -/
theorem strs_lit (w : World) (t : TypeId) (l : List ByteArray) (hl : l.length ≤ 100) (hs : ∀ s ∈ l, s.size ≤ 140737488351232) (S : Nat → Prop) (hS : S w.heap.size) :
    Strs (w.alloc (.cells (l.map Value.string).toArray t)) S (.slice (some ⟨w.heap.size, 0, none⟩) l.length l.length) l :=
  ⟨_, _, _, rfl, rfl, by omega, Nat.le_refl _, hs, fun _ => ⟨_, rfl, hS, fun j s hj => by
    have e : (Addr.mk w.heap.size 0 none).add j = ⟨w.heap.size, j, none⟩ := by unfold Addr.add; split <;> simp_all
    rw [e, Blk.cell (Blk.new w t (l.map Value.string).toArray) j]
    simp [hj]⟩⟩

/-- append of one string to a row of the call's own. -/
theorem str_info : (Tryd.prog.info? 9).map (fun i => (i.zero, i.size, i.bytes)) = some (some (.string ⟨#[]⟩), 1, 16) := by kernel_rfl
theorem wpList_append_str (w : World) {ops : Array Oper} {rest : List Oper} {o : Oper} {a : Act} {Q : Exit → Act → World → Prop} (hgd : o.guard = none) (s x : Operand)
    (ho : o.op = .call { callee := .builtin .append, args := #[s, x], argTypes := #[28, 28] })
    (base : Nat) (v : Value) (n : Nat) (xs : List ByteArray) (hs : a.eval s = v) (hown : w.ownsRow base 9 1 v n (xs.map Value.string))
    (g c : Nat) (y : ByteArray) (hx : a.eval x = .slice (some ⟨g, 0, none⟩) 1 c) (hc : Blk w g 9 #[.string y]) (hn : n ≤ 1000000) (hbase : base ≤ w.heap.size)
    (h : ∀ v' w', w'.ownsRow base 9 1 v' (n + 1) ((xs ++ [y]).map Value.string) → w.grownBy w' v.ownBlock → wpList Tryd.prog ops Q rest (a.put o.dst v') w') :
    wpList Tryd.prog ops Q (o :: rest) a w := by
  obtain ⟨i0, hi, hz0, hz1, hz2⟩ := info_parts str_info
  refine wpList_append_own w hgd s x 28 ho base 9 i0 _ 1 16 Tryd.underlying28 hi hz0 hz1 hz2 rfl (by decide) v n _ hs hown ⟨g, 0, none⟩ 1 c [.string y] hx rfl ?_ ?_ (by unfold maxLen; omega) (by omega) hbase ?_
  · intro j u hu
    have e : (Addr.mk g 0 none).add j = ⟨g, j, none⟩ := by unfold Addr.add; split <;> simp_all
    rw [e, hc.cell j]
    simpa using hu
  · intro u hu; simp at hu; rw [hu]; rfl
  · intro v' w' h1 h2 _
    exact h v' w' (by rw [List.map_append]; exact h1) h2

/-- A new row of names: the call's own, and it reads so. -/
def NStrs (w : World) (L : Nat) (v : Value) (l : List ByteArray) : Prop := Strs w (fun b => L ≤ b ∧ b < w.heap.size) v l
theorem NStrs.own {w : World} {L n : Nat} {v : Value} {l : List ByteArray} (h : w.ownsRow L 9 1 v n (l.map Value.string)) (hn : n ≤ 1000000) (hs : ∀ s ∈ l, s.size ≤ 140737488351232) : NStrs w L v l := by
  obtain ⟨hl, h | ⟨g, cap, cur, rfl, hg, hh, hc, hm, hsz, hcur⟩⟩ := h
  · obtain ⟨rfl, rfl⟩ := h
    have : l = [] := List.length_eq_zero_iff.1 (by simpa using hl)
    subst this
    exact Strs.nil
  · have hb : Blk w g 9 cur := hh
    refine ⟨_, _, _, rfl, by simpa using hl.symm, by omega, hc, hs, fun _ => ⟨_, rfl, ⟨hg, hb.lt⟩, fun j s hj => ?_⟩⟩
    have e : (Addr.mk g 0 none).add j = ⟨g, j, none⟩ := by unfold Addr.add; split <;> simp_all
    rw [e, hb.cell j]
    have h1 : (l.map Value.string)[j]? = some (.string s) := by simp [hj]
    rw [← hcur, List.getElem?_take] at h1
    split at h1
    · simpa using h1
    · cases h1
theorem NStrs.grown {w w' : World} {L R : Nat} {v : Value} {l : List ByteArray} (h : NStrs w L v l) (hg : w.grownBy w' (some R)) (hR : R < L) : NStrs w' L v l :=
  (h.keep (w' := w') fun p hp => World.cell?_of_block (hg.block p.block hp.2 (fun e => by injection e with e; have := hp.1; omega))).more fun b hb => ⟨hb.1, Nat.lt_of_lt_of_le hb.2 hg.size⟩
theorem NStrs.lower {w : World} {L L' : Nat} {v : Value} {l : List ByteArray} (h : NStrs w L v l) (hL : L' ≤ L) : NStrs w L' v l := h.more fun _b hb => ⟨Nat.le_trans hL hb.1, hb.2⟩

end Go.Proofs.YtmnpelhcgobfaaaDoor

/-
  Walks: the method names of the parser.
-/
namespace Go.Proofs.YtmnpelhcgobfaaaDoor
open Go.RowKit

def preR (xs : List ByteArray) (x : Fo.Rd (List ByteArray)) : Fo.Rd (List ByteArray) := Fo.bnd x fun l r => .ok (xs ++ l, r)
theorem preR_nil (x : Fo.Rd (List ByteArray)) : preR [] x = x := by
  unfold preR Fo.bnd
  cases x with
  | error e => rfl
  | ok p => rfl
theorem names_more (st : Fo.Bs) (xs : List ByteArray) (t : Fo.Tok) (r : List Fo.Tok) (h : Sh.nameB t.2 = true) : preR xs (Fo.namesT st (t :: r)) = preR (xs ++ [⟨t.2.toArray⟩]) (Fo.namesT st r) := by
  unfold preR
  rw [Fo.namesT, if_pos h]
  unfold Fo.bnd
  cases Fo.namesT st r with
  | error e => rfl
  | ok p => simp
theorem names_stop (st : Fo.Bs) (xs : List ByteArray) (t : Fo.Tok) (r : List Fo.Tok) (h : Sh.nameB t.2 = false) (he : t.2 = st) : preR xs (Fo.namesT st (t :: r)) = .ok (xs, r) := by
  unfold preR
  rw [Fo.namesT, if_neg (by simp [h]), if_pos he]
  simp [Fo.bnd]
theorem names_bad (st : Fo.Bs) (xs : List ByteArray) (t : Fo.Tok) (r : List Fo.Tok) (h : Sh.nameB t.2 = false) (he : t.2 ≠ st) : preR xs (Fo.namesT st (t :: r)) = .error (t :: r) := by
  unfold preR
  rw [Fo.namesT, if_neg (by simp [h]), if_neg he]
  rfl
/-- A sign is no name. -/
theorem sign_name {c : UInt8} (hc : Sh.alnumB c = false) : Sh.nameB [c] = false := by
  cases h : Sh.nameB [c]
  · rfl
  · have := (name_head h).1
    simp only [List.getD_cons_zero] at this
    rw [hc] at this; cases this
theorem not_in2 {l : Fo.Bs} {c : UInt8} (hc : Sh.alnumB c = false) (h : Sh.nameB l = false) (he : l ≠ [c]) : kindB l ∉ [nameK, (⟨#[c]⟩ : ByteArray)] := by
  intro hm
  simp only [List.mem_cons, List.not_mem_nil, or_false] at hm
  rcases hm with hm | hm
  · rw [kindB_name.1 hm] at h; cases h
  · exact he ((kindB_self (x := [c]) (.inr hc)).1 hm)

theorem endK_not (c : UInt8) (hc : Sh.alnumB c = false) : kindT [] ∉ [nameK, (⟨#[c]⟩ : ByteArray)] := by
  intro hm
  simp only [List.mem_cons, List.not_mem_nil, or_false] at hm
  rcases hm with hm | hm
  · exact absurd hm (by decide)
  · exact kind_ne (l := [c]) (.inr (.inr (.inr rfl))) (.inr hc) hm.symm

theorem blk_new2 (w : World) (o : Obj) (t : TypeId) (cs : Array Value) : Blk ((w.alloc o).alloc (.cells cs t)) (w.heap.size + 1) t cs := by
  have h := Blk.new (w.alloc o) t cs
  simpa using h
/-- What a row of the call's own that is appended to leaves alone. -/
theorem grown_own {w0 w w' : World} {R L n : Nat} {v : Value} {e : TypeId} {xs : List Value} (hg : w0.grownBy w (some R)) (ho : w.ownsRow L e 1 v n xs) (h : w.grownBy w' v.ownBlock) (hL : w0.heap.size ≤ L) : w0.grownBy w' (some R) :=
  ⟨h.os.trans hg.os, h.tape.trans hg.tape, h.output.trans hg.output, Nat.le_trans hg.size h.size, fun i hi hne => (h.block i (Nat.lt_of_lt_of_le hi hg.size) (fun e => by have := (ho.lt i e.symm).1; omega)).trans (hg.block i hi hne)⟩

set_option maxRecDepth 100000 in
set_option maxHeartbeats 400000 in
theorem names_any (R n : Nat) (text : ByteArray) (c : UInt8) (hc : Sh.alnumB c = false) (w : World) (hr : Psr w R text n) (hn : n ≤ text.size) (hs : text.size ≤ 100000) :
    Calls Tryd.prog 35 #[.pointer (some ⟨R, 0, none⟩), .string ⟨#[c]⟩] w
      (RdPost R text w (Fo.namesT [c] (Fo.toksAt text.toList n)) (fun w' v l => NStrs w' w.heap.size v l)) := by
  have hRw := hr.lt
  have hl := length_bytes text
  have Hl := Lib.hid hl; clear hl
  have hlit2 : ∀ W : World, Strs (W.alloc (.cells #[.string ⟨#[97, 32, 110, 97, 109, 101]⟩, .string ⟨#[c]⟩] 9)) (· < (W.alloc (.cells #[.string ⟨#[97, 32, 110, 97, 109, 101]⟩, .string ⟨#[c]⟩] 9)).heap.size) (.slice (some ⟨W.heap.size, 0, none⟩) 2 2) [nameK, (⟨#[c]⟩ : ByteArray)] := fun W =>
    strs_lit W 9 [nameK, (⟨#[c]⟩ : ByteArray)] (by simp) (by intro s hs; simp only [List.mem_cons, List.not_mem_nil, or_false] at hs; rcases hs with rfl | rfl <;> exact Nat.le_of_ble_eq_true rfl) _ (by simp)
  have Hlit := Lib.hid hlit2; clear hlit2
  go_enter Tryd.func35, Tryd.ntmps35
  go_wp2
  go_loopg [5] text.size (fun gg sv wr => ∃ (k : Nat) (xs : List ByteArray), k ≤ text.size ∧ text.size - k ≤ gg ∧ xs.length ≤ k ∧ (∀ s ∈ xs, s.size ≤ 140737488351232) ∧ Psr wr R text k ∧
    wr.ownsRow w.heap.size 9 1 sv xs.length (xs.map Value.string) ∧ w.grownBy wr (some R) ∧ Fo.namesT [c] (Fo.toksAt text.toList n) = preR xs (Fo.namesT [c] (Fo.toksAt text.toList k)))
  case atStart => exact ⟨n, [], hn, by omega, Nat.zero_le _, by simp, hr, World.ownsRow_nil _ _ _ _, ⟨rfl, rfl, rfl, Nat.le_refl _, fun _ _ _ => rfl⟩, (preR_nil _).symm⟩
  case round =>
    obtain ⟨k, xs, hk, hgg, hxk, hxs, hrk, hown, hgr, heq⟩ := hrel
    have Heq := Lib.hid heq; clear heq
    obtain ⟨SA, SC, rfl⟩ := own_slice hown
    have Hown := Lib.hid hown; clear hown
    have Hgr := Lib.hid hgr; clear hgr
    have Hxs := Lib.hid hxs; clear hxs
    have hra : ∀ o, Psr (wr.alloc o) R text k := fun o => Blk.alloc hrk o
    have Hra := Lib.hid hra; clear hra
    have hov := over_le hk
    cases hts : Fo.toksAt text.toList k with
    | nil =>
      have hbad : preR xs (Fo.namesT [c] (Fo.toksAt text.toList k)) = .error [] := by rw [hts]; rfl
      have hcall : ∀ (v : Value) (W : World), Psr W R text k → Strs W (· < W.heap.size) v [nameK, (⟨#[c]⟩ : ByteArray)] → Calls Tryd.prog 25 #[.pointer (some ⟨R, 0, none⟩), v] W fun e w' => e = .panicked (stuckChain (Fo.atT text.size [])) ∧ Below W.heap.size W w' := fun v W h1 h2 => by
        have := take_no R k text [nameK, (⟨#[c]⟩ : ByteArray)] v W h1 hk hs h2 (by rw [hts]; exact endK_not c hc)
        rwa [hts] at this
      have Hbad := Lib.hid hbad; clear hbad
      have Hcall := Lib.hid hcall; clear hcall hts hov
      go_wp2_with (go_at_call 25; refine (Hcall.out _ _ (Hra.out _) (Hlit.out wr)).mono ?_; rintro e w4 ⟨rfl, hb4⟩)
      exact ⟨rfl, RdPost.bad (by rw [Heq.out]; exact Hbad.out) (grownBy_trans Hgr.out (grownBy_trans (World.grownBy_alloc _ _ _) (grownBy_of_below hb4 _)))⟩
    | cons t r =>
      rw [hts] at hov
      obtain ⟨hov1, hov2⟩ := hov
      rw [List.tail_cons] at hov2
      obtain ⟨ta, tb⟩ := t
      have haf := Fo.toksAt_after (by rw [length_bytes]; exact hk) hts
      rw [length_bytes] at haf
      obtain ⟨haf1, haf2, haf3, -⟩ := haf
      cases hnm : Sh.nameB tb
      · by_cases he : tb = [c]
        · have hstop := names_stop [c] xs (ta, tb) r hnm he
          rw [← hts] at hstop
          subst he
          have hcall : ∀ (v : Value) (W : World), Psr W R text k → Strs W (· < W.heap.size) v [nameK, (⟨#[c]⟩ : ByteArray)] → Calls Tryd.prog 25 #[.pointer (some ⟨R, 0, none⟩), v] W fun e w' => e = .returned (.agg #[.string ⟨#[c]⟩, .string ⟨#[c]⟩, .int .i64 ta]) ∧ Psr w' R text (ta + 1) ∧ W.grownBy w' (some R) := fun v W h1 h2 => by
            have := take_yes R k text [nameK, (⟨#[c]⟩ : ByteArray)] v W h1 hk hs h2 (by rw [hts]; show kindB [c] ∈ _; rw [(kindB_self (x := [c]) (.inr hc)).2 rfl]; simp)
            rw [hts] at this
            unfold tokV at this
            simp only [] at this
            rw [(kindB_self (x := [c]) (.inr hc)).2 rfl] at this
            exact this
          have Hstop := Lib.hid hstop; clear hstop
          have Hcall := Lib.hid hcall; clear hcall hts
          have hov3 : ta + 1 ≤ text.size := hov1
          have hov4 : Fo.toksAt text.toList (ta + 1) = r := hov2
          have Hov4 := Lib.hid hov4; clear hov4 hov2 hov1
          go_wp2_with (go_at_call 25; refine (Hcall.out _ _ (Hra.out _) (Hlit.out wr)).mono ?_; rintro e w4 ⟨rfl, hr4, hg4⟩)
          go_ret
          have hown4 := own_grown (Hown.out.alloc _) hg4 hRw
          exact RdPost.ok (Heq.out.trans Hstop.out) _ (ta + 1) (grownBy_trans Hgr.out (grownBy_trans (grownBy_trans (World.grownBy_alloc _ _ _) hg4) (World.grownBy_alloc _ _ _))) (NStrs.own (hown4.alloc _) (by omega) Hxs.out) hov3 Hov4.out (Blk.alloc hr4 _)
        · have hbad := names_bad [c] xs (ta, tb) r hnm he
          have hbad : preR xs (Fo.namesT [c] (Fo.toksAt text.toList k)) = .error ((ta, tb) :: r) := by rw [hts]; exact hbad
          have hcall : ∀ (v : Value) (W : World), Psr W R text k → Strs W (· < W.heap.size) v [nameK, (⟨#[c]⟩ : ByteArray)] → Calls Tryd.prog 25 #[.pointer (some ⟨R, 0, none⟩), v] W fun e w' => e = .panicked (stuckChain (Fo.atT text.size ((ta, tb) :: r))) ∧ Below W.heap.size W w' := fun v W h1 h2 => by
            have := take_no R k text [nameK, (⟨#[c]⟩ : ByteArray)] v W h1 hk hs h2 (by rw [hts]; exact not_in2 hc hnm he)
            rwa [hts] at this
          have Hbad := Lib.hid hbad; clear hbad
          have Hcall := Lib.hid hcall; clear hcall hts
          go_wp2_with (go_at_call 25; refine (Hcall.out _ _ (Hra.out _) (Hlit.out wr)).mono ?_; rintro e w4 ⟨rfl, hb4⟩)
          exact ⟨rfl, RdPost.bad (Heq.out.trans Hbad.out) (grownBy_trans Hgr.out (grownBy_trans (World.grownBy_alloc _ _ _) (grownBy_of_below hb4 _)))⟩
      · have hmore := names_more [c] xs (ta, tb) r hnm
        rw [← hts] at hmore
        have hcall : ∀ (v : Value) (W : World), Psr W R text k → Strs W (· < W.heap.size) v [nameK, (⟨#[c]⟩ : ByteArray)] → Calls Tryd.prog 25 #[.pointer (some ⟨R, 0, none⟩), v] W fun e w' => e = .returned (.agg #[.string ⟨#[97, 32, 110, 97, 109, 101]⟩, .string ⟨tb.toArray⟩, .int .i64 ta]) ∧ Psr w' R text (ta + tb.length) ∧ W.grownBy w' (some R) := fun v W h1 h2 => by
          have := take_yes R k text [nameK, (⟨#[c]⟩ : ByteArray)] v W h1 hk hs h2 (by rw [hts]; show kindB tb ∈ _; rw [kindB_name.2 hnm]; simp)
          rw [hts] at this
          unfold tokV at this
          simp only [] at this
          rw [kindB_name.2 hnm] at this
          exact this
        have hys : (⟨tb.toArray⟩ : ByteArray).size ≤ 140737488351232 := by simp [ByteArray.size]; omega
        generalize (⟨tb.toArray⟩ : ByteArray) = y at *
        have Hmore := Lib.hid hmore; clear hmore
        have Hcall := Lib.hid hcall; clear hcall hts hnm
        have hov3 : ta + tb.length ≤ text.size := hov1
        have hov4 : Fo.toksAt text.toList (ta + tb.length) = r := hov2
        have Hov4 := Lib.hid hov4; clear hov4 hov2 hov1
        generalize tb.length = tl at *
        go_wp2_with (first
          | (go_at_call 25; refine (Hcall.out _ _ (Hra.out _) (Hlit.out wr)).mono ?_; rintro e w4 ⟨rfl, hr4, hg4⟩; have Hown4 := Lib.hid (own_grown (Hown.out.alloc _) hg4 hRw); have hsz4 : w.heap.size ≤ w4.heap.size := Nat.le_trans Hgr.out.size (grownBy_trans (World.grownBy_alloc _ _ _) hg4).size)
          | (at_builtin; refine wpList_append_str _ rfl _ _ rfl w.heap.size _ xs.length xs rfl ((Hown4.out.alloc _).alloc _) _ _ y rfl (blk_new2 _ _ _ _) (by omega) (by simp; omega) ?_; intro v' w7 hown7 hg7))
        go_roundg (text.size - (ta + tl))
        case measure => omega
        case rel =>
          refine ⟨ta + tl, xs ++ [y], hov3, by omega, by simp; omega, ?_, ?_, by simpa using hown7, ?_, ?_⟩
          · intro s hs'
            rcases List.mem_append.1 hs' with h | h
            · exact Hxs.out s h
            · simp only [List.mem_singleton] at h; subst h; exact hys
          · exact Blk.grown (Blk.alloc (Blk.alloc hr4 _) _) hg7 (fun e => absurd (Hown4.out.lt R e.symm).1 (by omega))
          · exact grown_own (grownBy_trans Hgr.out (grownBy_trans (World.grownBy_alloc _ _ _) (grownBy_trans hg4 (grownBy_trans (World.grownBy_alloc _ _ _) (World.grownBy_alloc _ _ _))))) ((Hown4.out.alloc _).alloc _) hg7 (Nat.le_refl _)
          · rw [Heq.out, Hmore.out, Hov4.out]

end Go.Proofs.YtmnpelhcgobfaaaDoor
