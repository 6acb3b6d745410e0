/-
  Texts joined: Sown4.
-/
import Derived.Test.YtelememdhpncgaaGreatDoorJo21
import Derived.Deep.MidRow

/-
  ShapeOwn: the statement that keeps what a round has found, in whatever order its operations come.
-/
namespace Go.Proofs.YtelememdhpncgaaGreatDoor
open Go.RowKit

namespace Own4
def o0 : Oper := { dst := some 135, op := Op.load 43 (Operand.tmp 15), type := 43, pos := "law.go:414", after := #[], guard := none }
def o1 : Oper := { dst := some 136, op := Op.buildSlice 38 0 #[], type := 38, pos := "law.go:414", after := #[], guard := none }
def o2 : Oper := { dst := some 137, op := Op.move (Operand.tmp 16), type := 38, pos := "law.go:414", after := #[], guard := none }
def o3 : Oper := { dst := some 138, op := Op.call { callee := Callee.builtin Builtin.append, args := #[Operand.tmp 136, Operand.tmp 137], argTypes := #[38, 38] }, type := 38, pos := "law.go:414", after := #[{ on := 1, ground := Ground.data }, { on := 2, ground := Ground.data }], guard := none }
def o4 : Oper := { dst := none, op := Op.store 43 (Operand.tmp 11) (Operand.tmp 135), type := 0, pos := "law.go:414", after := #[{ on := 0, ground := Ground.data }, { on := 3, ground := Ground.chain }, { on := 0, ground := Ground.phase }, { on := 1, ground := Ground.textOnly Departure.lateStores }, { on := 2, ground := Ground.textOnly Departure.lateStores }, { on := 3, ground := Ground.textOnly Departure.lateStoresUnsure }], guard := none }
def o5 : Oper := { dst := some 12, op := Op.assign (Operand.tmp 138), type := 38, pos := "law.go:414", after := #[{ on := 3, ground := Ground.data }, { on := 4, ground := Ground.chain }, { on := 0, ground := Ground.phase }, { on := 1, ground := Ground.phase }, { on := 2, ground := Ground.phase }, { on := 3, ground := Ground.phase }, { on := 4, ground := Ground.phase }], guard := none }
def ops : Array Oper := #[o0, o1, o2, o3, o4, o5]
def D : List Nat := [12, 135, 136, 137, 138]
def on4 (i : Nat) : List Nat := ((ops[i]?).map fun o => (o.after.toList.filter (Region.binds .any)).map (·.on)).getD []
theorem low : ((List.range 6).all fun i => (on4 i).all fun k => decide (k < i)) = true := by kernel_rfl
theorem on_3 : on4 3 = [1, 2] := by kernel_rfl
theorem on_4 : on4 4 = [0, 3, 0] := by kernel_rfl
theorem on_5 : (on4 5).contains 4 = true := by kernel_rfl
variable {listed : Array Bool} {i : Nat}
theorem ready_on (h : i ∈ Region.ready .any ops listed) : i < 6 ∧ listed.getD i true = false ∧ ∀ k ∈ on4 i, listed.getD k false = true := by
  obtain ⟨h1, h2, o, ho, he⟩ := ready_at h
  refine ⟨h1, h2, fun k hk => ?_⟩
  unfold on4 at hk
  rw [ho] at hk
  simp only [Option.map_some, Option.getD_some] at hk
  obtain ⟨e, hm, rfl⟩ := List.mem_map.1 hk
  obtain ⟨hm, hb⟩ := List.mem_filter.1 hm
  exact he e (Array.mem_toList_iff.1 hm) hb
theorem mem_ready (hi : i < 6) (h : listed.getD i true = false) (hk : ∀ k ∈ on4 i, listed.getD k false = true) : i ∈ Region.ready .any ops listed := by
  unfold Region.ready
  rw [List.mem_filter]
  refine ⟨List.mem_range.2 hi, ?_⟩
  rw [h]
  have hsz : i < ops.size := hi
  unfold on4 at hk
  rw [Array.getElem?_eq_getElem hsz] at hk ⊢
  simp only [Option.map_some, Option.getD_some, Bool.not_false, Bool.true_and] at hk ⊢
  refine Array.all_eq_true_iff_forall_mem.2 fun e he => ?_
  cases hb : Region.binds .any e
  · rfl
  · simp only [Bool.not_true, Bool.false_or]
    exact hk _ (List.mem_map.2 ⟨e, List.mem_filter.2 ⟨Array.mem_toList_iff.2 he, hb⟩, rfl⟩)
theorem getD_both (hs : listed.size = 6) (hi : i < 6) : listed.getD i true = listed.getD i false := by simp [Array.getD, hs, hi]
theorem all_listed (hs : listed.size = 6) (hr : Region.ready .any ops listed = []) : ∀ i, i < 6 → listed.getD i false = true := by
  intro i
  induction i using Nat.strongRecOn with
  | _ i ih =>
    intro hi
    cases hb : listed.getD i false with
    | true => rfl
    | false =>
      have hm : i ∈ Region.ready .any ops listed := mem_ready hi (by rw [getD_both hs hi]; exact hb) fun k hk => by
        have hlow := List.all_eq_true.1 (List.all_eq_true.1 low i (List.mem_range.2 hi)) k hk
        have hlt : k < i := of_decide_eq_true hlow
        exact ih k hlt (by omega)
      rw [hr] at hm
      cases hm
theorem set_at (hs : listed.size = 6) (j : Nat) (hi : i < 6) : (listed.setIfInBounds i true).getD j false = if j = i then true else listed.getD j false := by
  by_cases e : j = i
  · subst e
    rw [if_pos rfl]
    simp [Array.getD, hs, hi]
  · rw [if_neg e]
    simp only [Array.getD_eq_getD_getElem?, Array.getElem?_setIfInBounds]
    rw [if_neg (fun h : i = j => e h.symm)]
theorem eval_D {a0 : Act} {X : Nat → Value} {j : Nat} (hlen : 139 ≤ a0.tmps.size) (hd : D.contains j = true) (hj : j < 139) : (over a0 D X).eval (.tmp j) = X j := by
  rw [over_eval, hd, decide_eq_true (show j < a0.tmps.size by omega)]; rfl
theorem eval_out {a0 : Act} {X : Nat → Value} {j : Nat} (hd : D.contains j = false) : (over a0 D X).eval (.tmp j) = a0.eval (.tmp j) := by
  rw [over_eval, hd]; rfl

section
variable (w0 : World) (a0 : Act) (gf : Nat) (cs : List Value) (own : Value) (os : List (ByteArray × Int))
def Early (l : Array Bool) (X : Nat → Value) (w : World) : Prop :=
  (l.getD 4 false = false ∧ l.getD 5 false = false) ∧ (l.getD 3 false = true → l.getD 1 false = true ∧ l.getD 2 false = true) ∧ Below w0.heap.size w0 w ∧
  (l.getD 0 false = true → X 135 = .agg cs.toArray) ∧ (l.getD 1 false = true → ∃ b, X 136 = .slice (some ⟨b, 0, none⟩) 0 0 ∧ Blk w b 72 #[]) ∧
  (l.getD 2 false = true → X 137 = own) ∧ (l.getD 3 false = true → Syms w w.heap.size (X 138) os ∧ SymB w (X 138) ∧ SymL w0.heap.size (X 138))
def Late (l : Array Bool) (X : Nat → Value) (w : World) : Prop :=
  l.getD 4 false = true ∧ (∀ i, i < 4 → l.getD i false = true) ∧ ∃ w1, Below w0.heap.size w0 w1 ∧ w = w1.setCells gf 0 cs ∧ Syms w1 w1.heap.size (X 138) os ∧ SymB w1 (X 138) ∧ SymL w0.heap.size (X 138) ∧ (l.getD 5 false = true → X 12 = X 138)
def Inv (l : Array Bool) (a : Act) (w : World) : Prop := ∃ X, a = over a0 D X ∧ (Early w0 cs own os l X w ∨ Late w0 gf cs os l X w)
variable {w0 a0 gf cs own os}

set_option maxRecDepth 100000 in
set_option maxHeartbeats 1000000 in
theorem region23 {Q : Exit → Act → World → Prop} (gk : Nat) (kf ks : Array Value) (hlen : 139 ≤ a0.tmps.size)
    (e15 : a0.eval (.tmp 15) = .pointer (some ⟨gk, 0, none⟩)) (e11 : a0.eval (.tmp 11) = .pointer (some ⟨gf, 0, none⟩)) (e16 : a0.eval (.tmp 16) = own)
    (bk : Blk w0 gk 43 ks) (hks : ks.toList = cs) (bf : Blk w0 gf 43 kf) (hkf : kf.size = 8) (hcs : cs.length = 8) (h1c : ∀ v ∈ cs, v.oneCell' = true)
    (hos : Syms w0 w0.heap.size own os) (hol : os.length ≤ 1000000)
    (hQ : ∀ (X : Nat → Value) (w1 : World), Below w0.heap.size w0 w1 → Syms w1 w1.heap.size (X 12) os → SymB w1 (X 12) → SymL w0.heap.size (X 12) → Q .normal (over a0 D X) (w1.setCells gf 0 cs)) :
    wpAny Tryz.prog .any ops Q ops.size (Array.replicate ops.size false) a0 w0 := by
  have hinfo : (Tryz.prog.info? 43).map (·.size) = some 8 := by kernel_rfl
  refine wpAny_inv (I := Inv w0 a0 gf cs own os) ?_ ?_ _ _ _ _ (by simp) (Nat.le_of_eq (by kernel_rfl)) ?_
  · intro l a w i hs hi ⟨X, ha, hst⟩
    have hs : l.size = 6 := hs
    obtain ⟨h6, hno, hon⟩ := ready_on hi
    subst ha
    rw [getD_both hs h6] at hno
    rcases hst with ⟨⟨h4, h5⟩, hcl, hb0, f0, f1, f2, f3⟩ | ⟨h4, hall, w1, hb, rfl, hsy, hsb, hsl, h12⟩
    · have hk : ∀ w', Below w.heap.size w w' → (l.getD 1 false = true → ∃ b, X 136 = .slice (some ⟨b, 0, none⟩) 0 0 ∧ Blk w' b 72 #[]) ∧ (l.getD 3 false = true → Syms w' w'.heap.size (X 138) os ∧ SymB w' (X 138) ∧ SymL w0.heap.size (X 138)) := fun w' hw => by
        refine ⟨fun h => ?_, fun h => ?_⟩
        · obtain ⟨b, e, hbb⟩ := f1 h
          exact ⟨b, e, hbb.below hw hbb.lt⟩
        · obtain ⟨e1, e2, e3⟩ := f3 h
          exact ⟨(Syms.below e1 hw).more hw.size, e2.below hw, e3⟩
      match i, h6, hno, hon with
      | 0, _, hno, _ =>
        refine wpOp_of (o := o0) rfl rfl ?_
        have hbk := bk.below hb0 bk.lt
        refine wp_load_mid 43 (.tmp 15) rfl gk 0 ((eval_out rfl).trans e15) cs _ (fun j v hv => ?_) Tryz.underlying43 rfl (by rw [hcs]; exact hinfo) ?_
        · rw [Nat.zero_add, hbk.cell j, ← Array.getElem?_toList, hks]; exact hv
        · refine ⟨_, over_put rfl _, .inl ⟨⟨?_, ?_⟩, fun h => ?_, hb0, fun _ => rfl, fun h => ?_, fun h => ?_, fun h => ?_⟩⟩
          · rw [set_at hs 4 (by omega), if_neg (by omega)]; exact h4
          · rw [set_at hs 5 (by omega), if_neg (by omega)]; exact h5
          · rw [set_at hs 3 (by omega), if_neg (by omega)] at h
            rw [set_at hs 1 (by omega), if_neg (by omega), set_at hs 2 (by omega), if_neg (by omega)]; exact hcl h
          · rw [set_at hs 1 (by omega), if_neg (by omega)] at h; exact f1 h
          · rw [set_at hs 2 (by omega), if_neg (by omega)] at h; exact f2 h
          · rw [set_at hs 3 (by omega), if_neg (by omega)] at h; exact f3 h
      | 1, _, hno, _ =>
        refine wpOp_of (o := o1) rfl rfl ?_
        refine st_row_syms ?_
        have hal : Below w.heap.size w (w.alloc (.cells #[] 72)) := (Below.refl _ _).alloc (Nat.le_refl _) _
        obtain ⟨-, k3⟩ := hk _ hal
        refine ⟨_, over_put rfl _, .inl ⟨⟨?_, ?_⟩, fun h => ?_, hb0.trans (hal.mono hb0.size), fun h => ?_, fun _ => ⟨_, rfl, Blk.new w _ _⟩, fun h => ?_, fun h => ?_⟩⟩
        · rw [set_at hs 4 (by omega), if_neg (by omega)]; exact h4
        · rw [set_at hs 5 (by omega), if_neg (by omega)]; exact h5
        · rw [set_at hs 3 (by omega), if_neg (by omega)] at h
          rw [set_at hs 1 (by omega), if_pos rfl, set_at hs 2 (by omega), if_neg (by omega)]; exact ⟨rfl, (hcl h).2⟩
        · rw [set_at hs 0 (by omega), if_neg (by omega)] at h; exact f0 h
        · rw [set_at hs 2 (by omega), if_neg (by omega)] at h; exact f2 h
        · rw [set_at hs 3 (by omega), if_neg (by omega)] at h; exact k3 h
      | 2, _, hno, _ =>
        refine wpOp_of (o := o2) rfl rfl ?_
        refine st_move ((eval_out (X := X) rfl).trans e16) ?_
        refine ⟨_, over_put rfl _, .inl ⟨⟨?_, ?_⟩, fun h => ?_, hb0, fun h => ?_, fun h => ?_, fun _ => rfl, fun h => ?_⟩⟩
        · rw [set_at hs 4 (by omega), if_neg (by omega)]; exact h4
        · rw [set_at hs 5 (by omega), if_neg (by omega)]; exact h5
        · rw [set_at hs 3 (by omega), if_neg (by omega)] at h
          rw [set_at hs 1 (by omega), if_neg (by omega), set_at hs 2 (by omega), if_pos rfl]; exact ⟨(hcl h).1, rfl⟩
        · rw [set_at hs 0 (by omega), if_neg (by omega)] at h; exact f0 h
        · rw [set_at hs 1 (by omega), if_neg (by omega)] at h; exact f1 h
        · rw [set_at hs 3 (by omega), if_neg (by omega)] at h; exact f3 h
      | 3, _, hno, hon =>
        refine wpOp_of (o := o3) rfl rfl ?_
        rw [on_3] at hon
        have l1 := hon 1 (by decide)
        have l2 := hon 2 (by decide)
        obtain ⟨b, f136, hbb⟩ := f1 l1
        refine st_copy_syms b own os ((eval_D hlen rfl (by omega)).trans f136) hbb ((eval_D hlen rfl (by omega)).trans (f2 l2)) (hos.below hb0) hol (fun v' w' hs' hm' hl' hg' => ?_)
        have hal := Own3.grown_below hg'
        obtain ⟨k1, -⟩ := hk _ hal
        refine ⟨_, over_put rfl _, .inl ⟨⟨?_, ?_⟩, fun h => ?_, hb0.trans (hal.mono hb0.size), fun h => ?_, fun h => ?_, fun h => ?_, fun _ => ⟨hs', hm', fun ad n c e hn => Nat.le_trans hb0.size (hl' ad n c e hn)⟩⟩⟩
        · rw [set_at hs 4 (by omega), if_neg (by omega)]; exact h4
        · rw [set_at hs 5 (by omega), if_neg (by omega)]; exact h5
        · rw [set_at hs 1 (by omega), if_neg (by omega), set_at hs 2 (by omega), if_neg (by omega)]; exact ⟨l1, l2⟩
        · rw [set_at hs 0 (by omega), if_neg (by omega)] at h; exact f0 h
        · rw [set_at hs 1 (by omega), if_neg (by omega)] at h; exact k1 h
        · rw [set_at hs 2 (by omega), if_neg (by omega)] at h; exact f2 h
      | 4, _, hno, hon =>
        refine wpOp_of (o := o4) rfl rfl ?_
        rw [on_4] at hon
        have l0 := hon 0 (by decide)
        have l3 := hon 3 (by decide)
        obtain ⟨l1, l2⟩ := hcl l3
        obtain ⟨s3, b3, c3⟩ := f3 l3
        have hbf := bf.below hb0 bf.lt
        refine wp_store_mid 43 (.tmp 11) (.tmp 135) rfl gf 0 cs.toArray ((eval_out rfl).trans e11) ((eval_D hlen rfl (by omega)).trans (f0 l0)) (fun j hj => ?_) (by rw [List.size_toArray, hcs]; exact hinfo) (all_oneCell_toArray h1c) ?_
        · have hj8 : j < kf.size := by rw [hkf]; simpa [hcs] using hj
          obtain ⟨u, hu⟩ := hbf.some_ j hj8
          rw [Nat.zero_add]
          exact ⟨by rw [hu]; rfl, hbf.frozen j⟩
        · refine ⟨X, rfl, .inr ⟨?_, fun j hj => ?_, w, hb0, rfl, s3, b3, c3, fun h => ?_⟩⟩
          · rw [set_at hs 4 (by omega), if_pos rfl]
          · rw [set_at hs j (by omega), if_neg (by omega)]
            match j, hj with
            | 0, _ => exact l0
            | 1, _ => exact l1
            | 2, _ => exact l2
            | 3, _ => exact l3
          · rw [set_at hs 5 (by omega), if_neg (by omega), h5] at h; cases h
      | 5, _, hno, hon =>
        have := hon 4 (by have := on_5; simpa using this)
        rw [h4] at this; cases this
    · obtain rfl : i = 5 := by
        rcases Nat.lt_or_ge i 4 with h | h
        · rw [hall i h] at hno; cases hno
        · rcases (show i = 4 ∨ i = 5 by omega) with rfl | rfl
          · rw [h4] at hno; cases hno
          · rfl
      refine wpOp_of (o := o5) rfl rfl ?_
      refine st_assign (eval_D (X := X) hlen rfl (by omega)) ?_
      refine ⟨_, over_put rfl _, .inr ⟨?_, fun j hj => ?_, w1, hb, rfl, hsy, hsb, hsl, fun _ => rfl⟩⟩
      · rw [set_at hs 4 (by omega), if_neg (by omega)]; exact h4
      · rw [set_at hs j (by omega), if_neg (by omega)]; exact hall j hj
  · intro l a w hs hr ⟨X, ha, hst⟩
    have hs : l.size = 6 := hs
    have hall := all_listed hs hr
    rcases hst with ⟨⟨h4, -⟩, -⟩ | ⟨-, -, w1, hb, rfl, hsy, hsb, hsl, h12⟩
    · rw [hall 4 (by omega)] at h4; cases h4
    · subst ha
      have e := h12 (hall 5 (by omega))
      exact hQ X w1 hb (by rw [e]; exact hsy) (by rw [e]; exact hsb) (by rw [e]; exact hsl)
  · have hz : ∀ j, (Array.replicate ops.size false).getD j false = false := fun j => by simp [Array.getD]
    refine ⟨_, over_self a0 D, .inl ⟨⟨hz 4, hz 5⟩, fun h => ?_, Below.refl _ _, fun h => ?_, fun h => ?_, fun h => ?_, fun h => ?_⟩⟩ <;> (rw [hz] at h; cases h)
end
end Own4

end Go.Proofs.YtelememdhpncgaaGreatDoor
