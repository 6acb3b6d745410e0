/-
  Texts joined: Sown3.
-/
import Derived.Test.YtelememdhpncgaaGreatDoorJo9
import Derived.Test.YtelememdhpncgaaGreatDoorJo10

/-
  ShapeOwn: the statement that copies what came in, in whatever order its operations come.
-/
namespace Go.Proofs.YtelememdhpncgaaGreatDoor
open Go.RowKit

namespace Own3
def o0 : Oper := { dst := some 48, op := Op.load 24 (Operand.tmp 3), type := 24, pos := "law.go:395", after := #[], guard := none }
def o1 : Oper := { dst := some 49, op := Op.call { callee := Callee.value (Operand.func 13), args := #[Operand.tmp 48], argTypes := #[24] }, type := 24, pos := "law.go:395", after := #[{ on := 0, ground := Ground.data }], guard := none }
def o2 : Oper := { dst := some 50, op := Op.buildSlice 25 0 #[], type := 25, pos := "law.go:395", after := #[], guard := none }
def o3 : Oper := { dst := some 51, op := Op.fieldAddr 37 (Operand.tmp 4) 1, type := 0, pos := "law.go:395", after := #[], guard := none }
def o4 : Oper := { dst := some 52, op := Op.load 25 (Operand.tmp 51), type := 25, pos := "law.go:395", after := #[{ on := 3, ground := Ground.data }], guard := none }
def o5 : Oper := { dst := some 53, op := Op.call { callee := Callee.builtin Builtin.append, args := #[Operand.tmp 50, Operand.tmp 52], argTypes := #[25, 25] }, type := 25, pos := "law.go:395", after := #[{ on := 2, ground := Ground.data }, { on := 4, ground := Ground.data }, { on := 1, ground := Ground.chain }], guard := none }
def o6 : Oper := { dst := some 54, op := Op.buildSlice 25 0 #[], type := 25, pos := "law.go:395", after := #[], guard := none }
def o7 : Oper := { dst := some 55, op := Op.fieldAddr 40 (Operand.tmp 5) 0, type := 0, pos := "law.go:395", after := #[], guard := none }
def o8 : Oper := { dst := some 56, op := Op.load 25 (Operand.tmp 55), type := 25, pos := "law.go:395", after := #[{ on := 7, ground := Ground.data }], guard := none }
def o9 : Oper := { dst := some 57, op := Op.call { callee := Callee.builtin Builtin.append, args := #[Operand.tmp 54, Operand.tmp 56], argTypes := #[25, 25] }, type := 25, pos := "law.go:395", after := #[{ on := 6, ground := Ground.data }, { on := 8, ground := Ground.data }, { on := 5, ground := Ground.chain }], guard := none }
def o10 : Oper := { dst := some 58, op := Op.buildSlice 38 0 #[], type := 38, pos := "law.go:395", after := #[], guard := none }
def o11 : Oper := { dst := some 59, op := Op.fieldAddr 40 (Operand.tmp 5) 1, type := 0, pos := "law.go:395", after := #[], guard := none }
def o12 : Oper := { dst := some 60, op := Op.load 38 (Operand.tmp 59), type := 38, pos := "law.go:395", after := #[{ on := 11, ground := Ground.data }], guard := none }
def o13 : Oper := { dst := some 61, op := Op.call { callee := Callee.builtin Builtin.append, args := #[Operand.tmp 58, Operand.tmp 60], argTypes := #[38, 38] }, type := 38, pos := "law.go:395", after := #[{ on := 10, ground := Ground.data }, { on := 12, ground := Ground.data }, { on := 9, ground := Ground.chain }], guard := none }
def o14 : Oper := { dst := some 7, op := Op.alloc 24, type := 0, pos := "law.go:395", after := #[], guard := none }
def o15 : Oper := { dst := none, op := Op.store 24 (Operand.tmp 7) (Operand.tmp 49), type := 0, pos := "law.go:395", after := #[{ on := 14, ground := Ground.data }, { on := 1, ground := Ground.data }, { on := 13, ground := Ground.chain }, { on := 0, ground := Ground.phase }, { on := 1, ground := Ground.phase }, { on := 2, ground := Ground.textOnly Departure.lateStores }, { on := 3, ground := Ground.textOnly Departure.lateStores }, { on := 4, ground := Ground.textOnly Departure.lateStores }, { on := 5, ground := Ground.textOnly Departure.lateStoresUnsure }, { on := 6, ground := Ground.textOnly Departure.lateStores }, { on := 7, ground := Ground.textOnly Departure.lateStores }, { on := 8, ground := Ground.textOnly Departure.lateStores }, { on := 9, ground := Ground.textOnly Departure.lateStoresUnsure }, { on := 10, ground := Ground.textOnly Departure.lateStores }, { on := 11, ground := Ground.textOnly Departure.lateStores }, { on := 12, ground := Ground.textOnly Departure.lateStores }, { on := 13, ground := Ground.textOnly Departure.lateStoresUnsure }, { on := 14, ground := Ground.phase }], guard := none }
def o16 : Oper := { dst := some 8, op := Op.assign (Operand.tmp 53), type := 25, pos := "law.go:395", after := #[{ on := 5, ground := Ground.data }, { on := 15, ground := Ground.chain }, { on := 0, ground := Ground.phase }, { on := 1, ground := Ground.phase }, { on := 2, ground := Ground.phase }, { on := 3, ground := Ground.phase }, { on := 4, ground := Ground.phase }, { on := 5, ground := Ground.phase }, { on := 6, ground := Ground.textOnly Departure.lateStores }, { on := 7, ground := Ground.textOnly Departure.lateStores }, { on := 8, ground := Ground.textOnly Departure.lateStores }, { on := 9, ground := Ground.textOnly Departure.lateStoresUnsure }, { on := 10, ground := Ground.textOnly Departure.lateStores }, { on := 11, ground := Ground.textOnly Departure.lateStores }, { on := 12, ground := Ground.textOnly Departure.lateStores }, { on := 13, ground := Ground.textOnly Departure.lateStoresUnsure }, { on := 14, ground := Ground.phase }, { on := 15, ground := Ground.phase }], guard := none }
def o17 : Oper := { dst := some 9, op := Op.assign (Operand.tmp 57), type := 25, pos := "law.go:395", after := #[{ on := 9, ground := Ground.data }, { on := 16, ground := Ground.chain }, { on := 0, ground := Ground.phase }, { on := 1, ground := Ground.phase }, { on := 2, ground := Ground.phase }, { on := 3, ground := Ground.phase }, { on := 4, ground := Ground.phase }, { on := 5, ground := Ground.phase }, { on := 6, ground := Ground.phase }, { on := 7, ground := Ground.phase }, { on := 8, ground := Ground.phase }, { on := 9, ground := Ground.phase }, { on := 10, ground := Ground.textOnly Departure.lateStores }, { on := 11, ground := Ground.textOnly Departure.lateStores }, { on := 12, ground := Ground.textOnly Departure.lateStores }, { on := 13, ground := Ground.textOnly Departure.lateStoresUnsure }, { on := 14, ground := Ground.phase }, { on := 15, ground := Ground.phase }, { on := 16, ground := Ground.phase }], guard := none }
def o18 : Oper := { dst := some 10, op := Op.assign (Operand.tmp 61), type := 38, pos := "law.go:395", after := #[{ on := 13, ground := Ground.data }, { on := 17, ground := Ground.chain }, { on := 0, ground := Ground.phase }, { on := 1, ground := Ground.phase }, { on := 2, ground := Ground.phase }, { on := 3, ground := Ground.phase }, { on := 4, ground := Ground.phase }, { on := 5, ground := Ground.phase }, { on := 6, ground := Ground.phase }, { on := 7, ground := Ground.phase }, { on := 8, ground := Ground.phase }, { on := 9, ground := Ground.phase }, { on := 10, ground := Ground.phase }, { on := 11, ground := Ground.phase }, { on := 12, ground := Ground.phase }, { on := 13, ground := Ground.phase }, { on := 14, ground := Ground.phase }, { on := 15, ground := Ground.phase }, { on := 16, ground := Ground.phase }, { on := 17, ground := Ground.phase }], guard := none }
def ops : Array Oper := #[o0, o1, o2, o3, o4, o5, o6, o7, o8, o9, o10, o11, o12, o13, o14, o15, o16, o17, o18]
/-- The operations that must come before one. -/
def on3 (i : Nat) : List Nat := ((ops[i]?).map fun o => (o.after.toList.filter (Region.binds .any)).map (·.on)).getD []
def preds : Nat → List Nat
  | 1 => [0]
  | 4 => [3]
  | 5 => [1, 2, 4]
  | 8 => [7]
  | 9 => [5, 6, 8]
  | 12 => [11]
  | 13 => [9, 10, 12]
  | _ => []
theorem preds_on : ((List.range 15).all fun i => (preds i).all fun k => (on3 i).contains k && decide (k < i)) = true := by kernel_rfl
theorem low : ((List.range 19).all fun i => (on3 i).all fun k => decide (k < i)) = true := by kernel_rfl
theorem on15 : on3 15 = [14, 1, 13, 0, 1, 14] := by kernel_rfl
theorem on16 : (on3 16).contains 15 = true := by kernel_rfl
theorem on17 : (on3 17).contains 15 = true := by kernel_rfl
theorem on18 : (on3 18).contains 15 = true := by kernel_rfl
def dst (i : Nat) : Nat := if i < 14 then 48 + i else 7
def D : List Nat := [7, 8, 9, 10, 48, 49, 50, 51, 52, 53, 54, 55, 56, 57, 58, 59, 60, 61]
theorem dst_D : ((List.range 15).all fun i => D.contains (dst i)) = true := by kernel_rfl

variable {listed : Array Bool} {i : Nat}
theorem ready_on (h : i ∈ Region.ready .any ops listed) : i < 19 ∧ listed.getD i true = false ∧ ∀ k ∈ on3 i, listed.getD k false = true := by
  obtain ⟨h1, h2, o, ho, he⟩ := ready_at h
  refine ⟨h1, h2, fun k hk => ?_⟩
  unfold on3 at hk
  rw [ho] at hk
  simp only [Option.map_some, Option.getD_some] at hk
  obtain ⟨e, hm, rfl⟩ := List.mem_map.1 hk
  obtain ⟨hm, hb⟩ := List.mem_filter.1 hm
  exact he e (Array.mem_toList_iff.1 hm) hb
theorem mem_ready (hi : i < 19) (h : listed.getD i true = false) (hk : ∀ k ∈ on3 i, listed.getD k false = true) : i ∈ Region.ready .any ops listed := by
  unfold Region.ready
  rw [List.mem_filter]
  refine ⟨List.mem_range.2 hi, ?_⟩
  rw [h]
  have hsz : i < ops.size := hi
  unfold on3 at hk
  rw [Array.getElem?_eq_getElem hsz] at hk ⊢
  simp only [Option.map_some, Option.getD_some, Bool.not_false, Bool.true_and] at hk ⊢
  refine Array.all_eq_true_iff_forall_mem.2 fun e he => ?_
  cases hb : Region.binds .any e
  · rfl
  · simp only [Bool.not_true, Bool.false_or]
    exact hk _ (List.mem_map.2 ⟨e, List.mem_filter.2 ⟨Array.mem_toList_iff.2 he, hb⟩, rfl⟩)
theorem getD_both (hs : listed.size = 19) (hi : i < 19) : listed.getD i true = listed.getD i false := by simp [Array.getD, hs, hi]
theorem all_listed (hs : listed.size = 19) (hr : Region.ready .any ops listed = []) : ∀ i, i < 19 → listed.getD i false = true := by
  intro i
  induction i using Nat.strongRecOn with
  | _ i ih =>
    intro hi
    cases hb : listed.getD i false with
    | true => rfl
    | false =>
      have hm : i ∈ Region.ready .any ops listed := mem_ready hi (by rw [getD_both hs hi]; exact hb) fun k hk => by
        have hlow := List.all_eq_true.1 (List.all_eq_true.1 low i (List.mem_range.2 hi)) k hk
        have hlt : k < i := of_decide_eq_true hlow
        exact ih k hlt (by omega)
      rw [hr] at hm
      cases hm
theorem set_at (hs : listed.size = 19) (j : Nat) (hi : i < 19) : (listed.setIfInBounds i true).getD j false = if j = i then true else listed.getD j false := by
  by_cases e : j = i
  · subst e
    rw [if_pos rfl]
    simp [Array.getD, hs, hi]
  · rw [if_neg e]
    simp only [Array.getD_eq_getD_getElem?, Array.getElem?_setIfInBounds]
    rw [if_neg (fun h : i = j => e h.symm)]

section
variable (w0 : World) (a0 : Act) (g4 g5 : Nat) (size : Int) (v : Value) (rs : List Sh.Rel) (tv : Value) (t : List Int) (pv : Value) (p : List Int) (sv : Value) (ss : List (ByteArray × Int))
/-- What an operation has left. -/
def Fact : Nat → Value → World → Prop
  | 0, x, _ => x = .agg #[.int .i64 size, v]
  | 1, x, w => ∃ y, x = .agg #[.int .i64 size, y] ∧ NRels w w0.heap.size y rs
  | 2, x, w => ∃ b, x = .slice (some ⟨b, 0, none⟩) 0 0 ∧ w0.heap.size ≤ b ∧ Blk w b 3 #[]
  | 3, x, _ => x = .pointer (some ⟨g4, 1, none⟩)
  | 4, x, _ => x = tv
  | 5, x, w => NInts w w0.heap.size x t
  | 6, x, w => ∃ b, x = .slice (some ⟨b, 0, none⟩) 0 0 ∧ w0.heap.size ≤ b ∧ Blk w b 3 #[]
  | 7, x, _ => x = .pointer (some ⟨g5, 0, none⟩)
  | 8, x, _ => x = pv
  | 9, x, w => NInts w w0.heap.size x p
  | 10, x, w => ∃ b, x = .slice (some ⟨b, 0, none⟩) 0 0 ∧ Blk w b 72 #[]
  | 11, x, _ => x = .pointer (some ⟨g5, 1, none⟩)
  | 12, x, _ => x = sv
  | 13, x, w => Syms w w.heap.size x ss ∧ SymB w x
  | 14, x, w => ∃ g, x = .pointer (some ⟨g, 0, none⟩) ∧ w0.heap.size ≤ g ∧ Blk w g 24 #[.int .i64 0, .slice none 0 0]
  | _, _, _ => True
variable {w0 a0 g4 g5 size v rs tv t pv p sv ss}
theorem Fact.below {w w' : World} {x : Value} : ∀ {i : Nat}, Fact w0 g4 g5 size v rs tv t pv p sv ss i x w → Below w.heap.size w w' → Fact w0 g4 g5 size v rs tv t pv p sv ss i x w'
  | 0, h, _ => h
  | 1, ⟨y, h1, h2⟩, hb => ⟨y, h1, h2.keep (Keeps.of_below hb)⟩
  | 2, ⟨b, h1, h2, h3⟩, hb => ⟨b, h1, h2, h3.below hb h3.lt⟩
  | 3, h, _ => h
  | 4, h, _ => h
  | 5, h, hb => NInts.keep h (Keeps.of_below hb)
  | 6, ⟨b, h1, h2, h3⟩, hb => ⟨b, h1, h2, h3.below hb h3.lt⟩
  | 7, h, _ => h
  | 8, h, _ => h
  | 9, h, hb => NInts.keep h (Keeps.of_below hb)
  | 10, ⟨b, h1, h3⟩, hb => ⟨b, h1, h3.below hb h3.lt⟩
  | 11, h, _ => h
  | 12, h, _ => h
  | 13, h, hb => ⟨(Syms.below h.1 hb).more hb.size, h.2.below hb⟩
  | 14, ⟨g, h1, h2, h3⟩, hb => ⟨g, h1, h2, h3.below hb h3.lt⟩
  | _ + 15, _, _ => trivial
variable (w0 a0 g4 g5 size v rs tv t pv p sv ss)
/-- Behind the store. -/
def Late (X : Nat → Value) (w : World) (l : Array Bool) : Prop :=
  ∃ g y, X 7 = .pointer (some ⟨g, 0, none⟩) ∧ w0.heap.size ≤ g ∧ Blk w g 24 #[.int .i64 size, y] ∧ NRels w w0.heap.size y rs ∧ NInts w w0.heap.size (X 53) t ∧ NInts w w0.heap.size (X 57) p ∧ Syms w w.heap.size (X 61) ss ∧
    (l.getD 16 false = true → X 8 = X 53) ∧ (l.getD 17 false = true → X 9 = X 57) ∧ (l.getD 18 false = true → X 10 = X 61)
def Closed (l : Array Bool) : Prop := ∀ j, j < 15 → l.getD j false = true → ∀ k ∈ preds j, l.getD k false = true
def Inv (l : Array Bool) (a : Act) (w : World) : Prop := ∃ X, a = over a0 D X ∧ Below w0.heap.size w0 w ∧
  (((∀ j, 15 ≤ j → j < 19 → l.getD j false = false) ∧ Closed l ∧ ∀ i, i < 15 → l.getD i false = true → Fact w0 g4 g5 size v rs tv t pv p sv ss i (X (dst i)) w) ∨
   (l.getD 15 false = true ∧ (∀ i, i < 15 → l.getD i false = true) ∧ Late w0 size rs t p ss X w l))
variable {w0 a0 g4 g5 size v rs tv t pv p sv ss}
theorem dst_inj {i j : Nat} (hi : i < 15) (hj : j < 15) (h : dst i = dst j) : i = j := by
  unfold dst at h
  split at h <;> split at h <;> omega
theorem stepA {l : Array Bool} {X : Nat → Value} {w w' : World} {i : Nat} (hs : l.size = 19) (hi : i < 15) (hb0 : Below w0.heap.size w0 w) (h15 : ∀ j, 15 ≤ j → j < 19 → l.getD j false = false) (hcl : Closed l)
    (hf : ∀ i, i < 15 → l.getD i false = true → Fact w0 g4 g5 size v rs tv t pv p sv ss i (X (dst i)) w) (hon : ∀ k ∈ on3 i, l.getD k false = true) (hb : Below w.heap.size w w') (x : Value) (hx : Fact w0 g4 g5 size v rs tv t pv p sv ss i x w') :
    Inv w0 a0 g4 g5 size v rs tv t pv p sv ss (l.setIfInBounds i true) ((over a0 D X).put (some (dst i)) x) w' := by
  refine ⟨_, over_put (List.all_eq_true.1 dst_D i (List.mem_range.2 hi)) x, hb0.trans (hb.mono hb0.size), .inl ⟨?_, ?_, ?_⟩⟩
  · intro j h1 h2
    rw [set_at hs j (by omega), if_neg (by omega)]; exact h15 j h1 h2
  · intro j hj hl k hk
    rw [set_at hs k (by omega)]
    by_cases hki : k = i
    · rw [if_pos hki]
    · rw [if_neg hki]
      rw [set_at hs j (by omega)] at hl
      by_cases hji : j = i
      · subst hji
        have := List.all_eq_true.1 (List.all_eq_true.1 preds_on j (List.mem_range.2 hj)) k hk
        simp only [Bool.and_eq_true] at this
        exact hon k (by simpa using this.1)
      · rw [if_neg hji] at hl
        exact hcl j hj hl k hk
  · intro j hj hl
    by_cases hji : j = i
    · subst hji
      rw [if_pos rfl]
      exact hx
    · rw [set_at hs j (by omega), if_neg hji] at hl
      rw [if_neg (fun h => hji (dst_inj hj hi h))]
      exact (hf j hj hl).below hb
theorem grown_below {w w' : World} (h : w.grownBy w' none) : Below w.heap.size w w' := ⟨h.os, h.tape, h.output, h.size, fun i hi => h.block i hi (by simp)⟩
theorem eval_D {X : Nat → Value} {j : Nat} (hlen : 62 ≤ a0.tmps.size) (hd : D.contains j = true) (hj : j < 62) : (over a0 D X).eval (.tmp j) = X j := by
  rw [over_eval, hd, decide_eq_true (show j < a0.tmps.size by omega)]; rfl
theorem eval_out {X : Nat → Value} {j : Nat} (hd : D.contains j = false) : (over a0 D X).eval (.tmp j) = a0.eval (.tmp j) := by
  rw [over_eval, hd]; rfl

set_option maxRecDepth 100000 in
set_option maxHeartbeats 1000000 in
theorem region3 {Q : Exit → Act → World → Prop} (g3 : Nat) (nm : ByteArray) (is : Bool) (hlen : 62 ≤ a0.tmps.size)
    (e3 : a0.eval (.tmp 3) = .pointer (some ⟨g3, 0, none⟩)) (e4 : a0.eval (.tmp 4) = .pointer (some ⟨g4, 0, none⟩)) (e5 : a0.eval (.tmp 5) = .pointer (some ⟨g5, 0, none⟩))
    (b3 : Blk w0 g3 24 #[.int .i64 size, v]) (b4 : Blk w0 g4 37 #[.string nm, tv, .bool is]) (b5 : Blk w0 g5 40 #[pv, sv])
    (hr : Rels w0 w0.heap.size v rs) (hfew : FewSays rs) (ht : Ints w0 w0.heap.size tv t) (hp : Ints w0 w0.heap.size pv p) (hss : Syms w0 w0.heap.size sv ss) (htl : t.length ≤ 1000000) (hpl : p.length ≤ 1000000) (hsl : ss.length ≤ 1000000)
    (hQ : ∀ (X : Nat → Value) (w : World) (g : Nat) (y : Value), X 7 = .pointer (some ⟨g, 0, none⟩) → w0.heap.size ≤ g → Blk w g 24 #[.int .i64 size, y] → NRels w w0.heap.size y rs → NInts w w0.heap.size (X 8) t → NInts w w0.heap.size (X 9) p → Syms w w.heap.size (X 10) ss → Below w0.heap.size w0 w → Q .normal (over a0 D X) w) :
    wpAny Tryz.prog .any ops Q ops.size (Array.replicate ops.size false) a0 w0 := by
  refine wpAny_inv (I := Inv w0 a0 g4 g5 size v rs tv t pv p sv ss) ?_ ?_ _ _ _ _ (by simp) (Nat.le_of_eq (by kernel_rfl)) ?_
  · intro l a w i hs hi ⟨X, ha, hb0, hst⟩
    have hs : l.size = 19 := hs
    obtain ⟨h19, hno, hon⟩ := ready_on hi
    subst ha
    rw [getD_both hs h19] at hno
    rcases hst with ⟨h15, hcl, hf⟩ | ⟨h15, hall, hlate⟩
    · have hb3 := b3.below hb0 b3.lt
      have hb4 := b4.below hb0 b4.lt
      have hb5 := b5.below hb0 b5.lt
      have hsz := hb0.size
      by_cases hi15 : i < 15
      · have hgo := fun (w' : World) (hb : Below w.heap.size w w') (x : Value) (hx : Fact w0 g4 g5 size v rs tv t pv p sv ss i x w') => stepA (a0 := a0) hs hi15 hb0 h15 hcl hf hon hb x hx
        have hev := fun (j : Nat) (hd : D.contains j = true) (hj : j < 62) => eval_D (X := X) hlen hd hj
        match i, hi15, hgo, hon with
        | 0, _, hgo, _ =>
          refine wpOp_of (o := o0) rfl rfl ?_
          exact st_load_str g3 _ _ ((eval_out rfl).trans e3) (hb3.cell 0) (hb3.cell 1) (hgo w (Below.refl _ _) _ rfl)
        | 1, _, hgo, hon =>
          refine wpOp_of (o := o1) rfl rfl ?_
          have f0 := hf 0 (by omega) (hon 0 (by decide))
          refine st_call_copy ((hev 48 rfl (by omega)).trans f0) (refcopy_own size v rs w w0.heap.size hsz (hr.below hb0) (by have := hfew.1; omega) (fun r hm => ⟨by have := (hfew.2 r hm).1; omega, fun t ht => by have := (hfew.2 r hm).2 t ht; omega⟩)) ?_
          rintro e w' ⟨y, rfl, hc, hb⟩
          exact ⟨_, rfl, hgo w' hb _ ⟨y, rfl, (hc.rels (by have := hfew.1; omega)).more hsz⟩⟩
        | 2, _, hgo, _ =>
          refine wpOp_of (o := o2) rfl rfl ?_
          exact st_row_ints (hgo _ ((Below.refl _ _).alloc (Nat.le_refl _) _) _ ⟨_, rfl, hsz, Blk.new w _ _⟩)
        | 3, _, hgo, _ =>
          refine wpOp_of (o := o3) rfl rfl ?_
          exact st_field_change1 g4 ((eval_out rfl).trans e4) (hgo w (Below.refl _ _) _ rfl)
        | 4, _, hgo, hon =>
          refine wpOp_of (o := o4) rfl rfl ?_
          exact st_load_ints _ tv ((hev 51 rfl (by omega)).trans (hf 3 (by omega) (hon 3 (by decide)))) (hb4.cell 1) (hgo w (Below.refl _ _) _ rfl)
        | 5, _, hgo, hon =>
          refine wpOp_of (o := o5) rfl rfl ?_
          obtain ⟨b, f2, hLb, hbb⟩ := hf 2 (by omega) (hon 2 (by decide))
          have f4 := hf 4 (by omega) (hon 4 (by decide))
          exact st_copy_ints (L := w0.heap.size) b tv t ((hev 50 rfl (by omega)).trans f2) hbb hLb hsz ((hev 52 rfl (by omega)).trans f4) (ht.below hb0) htl (fun v' w' hn hg => hgo w' (grown_below hg) v' hn)
        | 6, _, hgo, _ =>
          refine wpOp_of (o := o6) rfl rfl ?_
          exact st_row_ints (hgo _ ((Below.refl _ _).alloc (Nat.le_refl _) _) _ ⟨_, rfl, hsz, Blk.new w _ _⟩)
        | 7, _, hgo, _ =>
          refine wpOp_of (o := o7) rfl rfl ?_
          exact st_field_own g5 0 (by omega) ((eval_out rfl).trans e5) (hgo w (Below.refl _ _) _ rfl)
        | 8, _, hgo, hon =>
          refine wpOp_of (o := o8) rfl rfl ?_
          exact st_load_ints _ pv ((hev 55 rfl (by omega)).trans (hf 7 (by omega) (hon 7 (by decide)))) (hb5.cell 0) (hgo w (Below.refl _ _) _ rfl)
        | 9, _, hgo, hon =>
          refine wpOp_of (o := o9) rfl rfl ?_
          obtain ⟨b, f2, hLb, hbb⟩ := hf 6 (by omega) (hon 6 (by decide))
          have f4 := hf 8 (by omega) (hon 8 (by decide))
          exact st_copy_ints (L := w0.heap.size) b pv p ((hev 54 rfl (by omega)).trans f2) hbb hLb hsz ((hev 56 rfl (by omega)).trans f4) (hp.below hb0) hpl (fun v' w' hn hg => hgo w' (grown_below hg) v' hn)
        | 10, _, hgo, _ =>
          refine wpOp_of (o := o10) rfl rfl ?_
          exact st_row_syms (hgo _ ((Below.refl _ _).alloc (Nat.le_refl _) _) _ ⟨_, rfl, Blk.new w _ _⟩)
        | 11, _, hgo, _ =>
          refine wpOp_of (o := o11) rfl rfl ?_
          exact st_field_own g5 1 (by omega) ((eval_out rfl).trans e5) (hgo w (Below.refl _ _) _ rfl)
        | 12, _, hgo, hon =>
          refine wpOp_of (o := o12) rfl rfl ?_
          exact st_load_syms _ sv ((hev 59 rfl (by omega)).trans (hf 11 (by omega) (hon 11 (by decide)))) (hb5.cell 1) (hgo w (Below.refl _ _) _ rfl)
        | 13, _, hgo, hon =>
          refine wpOp_of (o := o13) rfl rfl ?_
          obtain ⟨b, f2, hbb⟩ := hf 10 (by omega) (hon 10 (by decide))
          have f4 := hf 12 (by omega) (hon 12 (by decide))
          exact st_copy_syms b sv ss ((hev 58 rfl (by omega)).trans f2) hbb ((hev 60 rfl (by omega)).trans f4) (hss.below hb0) hsl (fun v' w' hn hm _ hg => hgo w' (grown_below hg) v' ⟨hn, hm⟩)
        | 14, _, hgo, _ =>
          refine wpOp_of (o := o14) rfl rfl ?_
          exact st_alloc_str (hgo _ ((Below.refl _ _).alloc (Nat.le_refl _) _) _ ⟨_, rfl, hsz, Blk.new w _ _⟩)
      · have hlow : i = 15 := by
          rcases (show i = 15 ∨ i = 16 ∨ i = 17 ∨ i = 18 by omega) with h | h | h | h
          · exact h
          · subst h; have := hon 15 (by have := on16; simpa using this); rw [h15 15 (by omega) (by omega)] at this; cases this
          · subst h; have := hon 15 (by have := on17; simpa using this); rw [h15 15 (by omega) (by omega)] at this; cases this
          · subst h; have := hon 15 (by have := on18; simpa using this); rw [h15 15 (by omega) (by omega)] at this; cases this
        subst hlow
        rw [on15] at hon
        have l13 := hon 13 (by decide)
        have l14 := hon 14 (by decide)
        have l9 := hcl 13 (by omega) l13 9 (by decide)
        have l10 := hcl 13 (by omega) l13 10 (by decide)
        have l12 := hcl 13 (by omega) l13 12 (by decide)
        have l11 := hcl 12 (by omega) l12 11 (by decide)
        have l5 := hcl 9 (by omega) l9 5 (by decide)
        have l6 := hcl 9 (by omega) l9 6 (by decide)
        have l8 := hcl 9 (by omega) l9 8 (by decide)
        have l7 := hcl 8 (by omega) l8 7 (by decide)
        have l1 := hcl 5 (by omega) l5 1 (by decide)
        have l2 := hcl 5 (by omega) l5 2 (by decide)
        have l4 := hcl 5 (by omega) l5 4 (by decide)
        have l3 := hcl 4 (by omega) l4 3 (by decide)
        have l0 := hcl 1 (by omega) l1 0 (by decide)
        have lall : ∀ i, i < 15 → l.getD i false = true := fun i hi => by
          match i, hi with
          | 0, _ => exact l0
          | 1, _ => exact l1
          | 2, _ => exact l2
          | 3, _ => exact l3
          | 4, _ => exact l4
          | 5, _ => exact l5
          | 6, _ => exact l6
          | 7, _ => exact l7
          | 8, _ => exact l8
          | 9, _ => exact l9
          | 10, _ => exact l10
          | 11, _ => exact l11
          | 12, _ => exact l12
          | 13, _ => exact l13
          | 14, _ => exact l14
        obtain ⟨y, f1, hn⟩ := hf 1 (by omega) l1
        obtain ⟨g, f14, hLg, hbg⟩ := hf 14 (by omega) l14
        have f5 := hf 5 (by omega) l5
        have f9 := hf 9 (by omega) l9
        obtain ⟨f13, f13b⟩ := hf 13 (by omega) l13
        have hn' := hn
        obtain ⟨YA, YN, YC, rfl, -⟩ := hn'
        refine wpOp_of (o := o15) rfl rfl ?_
        refine st_store_str g _ _ _ _ ((eval_D hlen rfl (by omega)).trans f14) ((eval_D hlen rfl (by omega)).trans f1) (hbg.cell 0) (hbg.cell 1) (hbg.frozen 0) (hbg.frozen 1) ⟨_, rfl⟩ ⟨_, _, _, rfl⟩ ?_
        have hb1 := hbg.set_ 0 (.int .i64 size)
        have hb2 := hb1.set_ 1 (.slice YA YN YC)
        have hk : ∀ ts : List TypeId, 24 ∉ ts → Keeps w0.heap.size ts w ((w.setCell ⟨g, 0, none⟩ (.int .i64 size)).setCell ⟨g, 1, none⟩ (.slice YA YN YC)) := fun ts hts =>
          (Keeps.setCell (p := ⟨g, 0, none⟩) hbg hts _).trans (Keeps.setCell (p := ⟨g, 1, none⟩) hb1 hts _)
        refine ⟨X, rfl, (hb0.setCell (show w0.heap.size ≤ g from hLg) _).setCell (show w0.heap.size ≤ g from hLg) _, .inr ⟨?_, fun j hj => ?_, g, _, f14, hLg, hb2, hn.keep (hk _ (by decide)), f5.keep (hk _ (by decide)), f9.keep (hk _ (by decide)), ?_, ?_, ?_, ?_⟩⟩
        · rw [set_at hs 15 (by omega), if_pos rfl]
        · rw [set_at hs j (by omega), if_neg (by omega)]; exact lall j hj
        · simp only [World.size_setCell]
          exact (f13.store f13b hbg).store (fun ad n c e hn => by
            obtain ⟨cs, hh⟩ := f13b ad n c e hn
            have hne : ad.block ≠ g := fun e => by
              rw [e] at hh
              unfold Blk at hbg
              rw [hbg] at hh
              injection hh with hh
              injection hh with _ hh
              exact absurd hh (by decide)
            exact ⟨cs, (Below.heap_setCell w ⟨g, 0, none⟩ _ ad.block hne).trans hh⟩) hb1
        · intro h; rw [set_at hs 16 (by omega), if_neg (by omega), h15 16 (by omega) (by omega)] at h; cases h
        · intro h; rw [set_at hs 17 (by omega), if_neg (by omega), h15 17 (by omega) (by omega)] at h; cases h
        · intro h; rw [set_at hs 18 (by omega), if_neg (by omega), h15 18 (by omega) (by omega)] at h; cases h
    · obtain ⟨g, y, h7, hL, hb, hn, h53, h57, h61, h16, h17, h18⟩ := hlate
      have h4 : i = 16 ∨ i = 17 ∨ i = 18 := by
        rcases Nat.lt_or_ge i 15 with h | h
        · rw [hall i h] at hno; cases hno
        · rcases (show i = 15 ∨ i = 16 ∨ i = 17 ∨ i = 18 by omega) with h | h
          · subst h; rw [h15] at hno; cases hno
          · exact h
      rcases h4 with rfl | rfl | rfl
      · refine wpOp_of (o := o16) rfl rfl ?_
        refine st_assign (eval_D (X := X) hlen rfl (by omega)) ?_
        refine ⟨_, over_put rfl _, hb0, .inr ⟨?_, fun j hj => ?_, g, y, h7, hL, hb, hn, h53, h57, h61, fun _ => rfl, fun h => ?_, fun h => ?_⟩⟩
        · rw [set_at hs 15 (by omega), if_neg (by omega)]; exact h15
        · rw [set_at hs j (by omega), if_neg (by omega)]; exact hall j hj
        · rw [set_at hs 17 (by omega), if_neg (by omega)] at h; exact h17 h
        · rw [set_at hs 18 (by omega), if_neg (by omega)] at h; exact h18 h
      · refine wpOp_of (o := o17) rfl rfl ?_
        refine st_assign (eval_D (X := X) hlen rfl (by omega)) ?_
        refine ⟨_, over_put rfl _, hb0, .inr ⟨?_, fun j hj => ?_, g, y, h7, hL, hb, hn, h53, h57, h61, fun h => ?_, fun _ => rfl, fun h => ?_⟩⟩
        · rw [set_at hs 15 (by omega), if_neg (by omega)]; exact h15
        · rw [set_at hs j (by omega), if_neg (by omega)]; exact hall j hj
        · rw [set_at hs 16 (by omega), if_neg (by omega)] at h; exact h16 h
        · rw [set_at hs 18 (by omega), if_neg (by omega)] at h; exact h18 h
      · refine wpOp_of (o := o18) rfl rfl ?_
        refine st_assign (eval_D (X := X) hlen rfl (by omega)) ?_
        refine ⟨_, over_put rfl _, hb0, .inr ⟨?_, fun j hj => ?_, g, y, h7, hL, hb, hn, h53, h57, h61, fun h => ?_, fun h => ?_, fun _ => rfl⟩⟩
        · rw [set_at hs 15 (by omega), if_neg (by omega)]; exact h15
        · rw [set_at hs j (by omega), if_neg (by omega)]; exact hall j hj
        · rw [set_at hs 16 (by omega), if_neg (by omega)] at h; exact h16 h
        · rw [set_at hs 17 (by omega), if_neg (by omega)] at h; exact h17 h
  · intro l a w hs hr ⟨X, ha, hb0, hst⟩
    have hs : l.size = 19 := hs
    have hall := all_listed hs hr
    rcases hst with ⟨h15, -⟩ | ⟨-, -, g, y, h7, hL, hb, hn, h53, h57, h61, h16, h17, h18⟩
    · have := h15 15 (by omega) (by omega); rw [hall 15 (by omega)] at this; cases this
    · subst ha
      refine hQ X w g y h7 hL hb hn ?_ ?_ ?_ hb0
      · rw [h16 (hall 16 (by omega))]; exact h53
      · rw [h17 (hall 17 (by omega))]; exact h57
      · rw [h18 (hall 18 (by omega))]; exact h61
  · refine ⟨_, over_self a0 D, Below.refl _ _, .inl ⟨fun j _ _ => by simp [Array.getD], fun j hj hl => ?_, fun j hj hl => ?_⟩⟩
    · exfalso
      have : (Array.replicate ops.size false).getD j false = false := by
        simp [Array.getD]
      rw [this] at hl; cases hl
    · exfalso
      have : (Array.replicate ops.size false).getD j false = false := by
        simp [Array.getD]
      rw [this] at hl; cases hl
end
end Own3

end Go.Proofs.YtelememdhpncgaaGreatDoor
