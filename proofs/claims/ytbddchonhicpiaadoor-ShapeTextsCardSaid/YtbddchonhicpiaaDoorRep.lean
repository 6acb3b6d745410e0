/-
  Words for memory: a slice value that reads as a list of cells, of ints, of tuples, of relations; a structure. Plain theorems on worlds.
-/
import Derived.Test.YtbddchonhicpiaaDoorSpec
import Derived.WalkKit
import Derived.WalkSpells
import Derived.WalkLawsBesides
import Derived.Lib.Hide
import Derived.Below
import Derived.Laws.OwnMore
import Derived.Deep.AppendLies
import Derived.Deep.Draws
namespace Go.Proofs.YtbddchonhicpiaaDoor
open Go.RowKit

theorem block_of_add (a : Addr) (n : Nat) : (a.add n).block = a.block := by unfold Addr.add; split <;> rfl
theorem add_of_add (a : Addr) (i j : Nat) : (a.add i).add j = a.add (i + j) := by
  unfold Addr.add
  by_cases hi : i = 0 <;> by_cases hj : j = 0 <;> simp [hi, hj, Nat.add_assoc]

/-- A slice's cells: n elements of 'size' cells each, from A on, in a block below B. -/
def Reads (w : World) (B size : Nat) (A : Option Addr) (n : Nat) (xs : List Value) : Prop :=
  xs.length = n * size ∧ (0 < n → ∃ ad, A = some ad ∧ ad.block < B ∧ ∀ j u, xs[j]? = some u → w.cell? (ad.add j) = some u)

section
variable {w w' : World} {B B' size n : Nat} {A : Option Addr} {xs : List Value}
theorem Reads.none_ : Reads w B size A 0 [] := ⟨by simp, fun h => absurd h (by omega)⟩
theorem Reads.at_ {k : Nat} (h : Reads w B 1 A n xs) (hk : k < n) : ∃ ad u, A = some ad ∧ ad.block < B ∧ xs[k]? = some u ∧ w.cell? (ad.add k) = some u := by
  obtain ⟨ad, e, hb, hc⟩ := h.2 (by omega)
  have hl : k < xs.length := by have := h.1; omega
  exact ⟨ad, xs[k], e, hb, List.getElem?_eq_getElem hl, hc k _ (List.getElem?_eq_getElem hl)⟩
theorem Reads.keep (h : Reads w B size A n xs) (hk : ∀ p : Addr, p.block < B → w'.cell? p = w.cell? p) : Reads w' B size A n xs :=
  ⟨h.1, fun hn => by
    obtain ⟨ad, e, hb, hc⟩ := h.2 hn
    exact ⟨ad, e, hb, fun j u hu => (hk _ (by rw [block_of_add]; exact hb)).trans (hc j u hu)⟩⟩
theorem Reads.more (h : Reads w B size A n xs) (hB : B ≤ B') : Reads w B' size A n xs :=
  ⟨h.1, fun hn => by
    obtain ⟨ad, e, hb, hc⟩ := h.2 hn
    exact ⟨ad, e, by omega, hc⟩⟩
theorem Reads.below (h : Reads w B size A n xs) (hb : Below B w w') : Reads w' B size A n xs := h.keep fun _ hp => hb.cell hp
theorem Reads.drew (h : Reads w B size A n xs) : Reads w.drew B size A n xs := h
theorem Reads.drewN (h : Reads w B size A n xs) (k : Nat) : Reads (w.drewN k) B size A n xs := h
theorem Reads.of_own {base : Nat} {e : TypeId} {c : Nat} (h : w.ownsRow base e size (.slice A n c) n xs) : Reads w w.heap.size size A n xs := by
  refine ⟨h.1, fun hn => ?_⟩
  obtain ⟨g, cap, hv, _, hlt⟩ := h.form hn
  have hA : A = some ⟨g, 0, none⟩ := by injection hv
  subst hA
  exact ⟨_, rfl, hlt, h.cells (g := g) rfl⟩
end

/-- A value that is a slice of ints. -/
def Ints (w : World) (B : Nat) (v : Value) (t : List Int) : Prop :=
  ∃ A n c, v = .slice A n c ∧ n = t.length ∧ n ≤ 140737488351232 ∧ Reads w B 1 A n (t.map (Value.int .i64))

/-- A value that is a slice of tuples. -/
def Tups (w : World) (B : Nat) (v : Value) (ts : List (List Int)) : Prop :=
  ∃ A n c, v = .slice A n c ∧ n = ts.length ∧ n ≤ 140737488351232 ∧
    (0 < n → ∃ ad, A = some ad ∧ ad.block < B ∧ ∀ j t, ts[j]? = some t → ∃ u, w.cell? (ad.add j) = some u ∧ Ints w B u t)

section
variable {w w' : World} {B B' : Nat} {v : Value} {t : List Int} {ts : List (List Int)}
theorem Ints.keep (h : Ints w B v t) (hk : ∀ p : Addr, p.block < B → w'.cell? p = w.cell? p) : Ints w' B v t := by
  obtain ⟨A, n, c, h1, h2, h3, h4⟩ := h
  exact ⟨A, n, c, h1, h2, h3, h4.keep hk⟩
theorem Ints.more (h : Ints w B v t) (hB : B ≤ B') : Ints w B' v t := by
  obtain ⟨A, n, c, h1, h2, h3, h4⟩ := h
  exact ⟨A, n, c, h1, h2, h3, h4.more hB⟩
theorem Ints.below (h : Ints w B v t) (hb : Below B w w') : Ints w' B v t := h.keep fun _ hp => hb.cell hp
theorem Ints.drewN (h : Ints w B v t) (k : Nat) : Ints (w.drewN k) B v t := h
theorem Tups.keep (h : Tups w B v ts) (hk : ∀ p : Addr, p.block < B → w'.cell? p = w.cell? p) : Tups w' B v ts := by
  obtain ⟨A, n, c, h1, h2, h3, h4⟩ := h
  refine ⟨A, n, c, h1, h2, h3, fun hn => ?_⟩
  obtain ⟨ad, e, hb, hc⟩ := h4 hn
  refine ⟨ad, e, hb, fun j t ht => ?_⟩
  obtain ⟨u, hu, hi⟩ := hc j t ht
  exact ⟨u, (hk _ (by rw [block_of_add]; exact hb)).trans hu, hi.keep hk⟩
theorem Tups.more (h : Tups w B v ts) (hB : B ≤ B') : Tups w B' v ts := by
  obtain ⟨A, n, c, h1, h2, h3, h4⟩ := h
  refine ⟨A, n, c, h1, h2, h3, fun hn => ?_⟩
  obtain ⟨ad, e, hb, hc⟩ := h4 hn
  refine ⟨ad, e, by omega, fun j t ht => ?_⟩
  obtain ⟨u, hu, hi⟩ := hc j t ht
  exact ⟨u, hu, hi.more hB⟩
theorem Tups.below (h : Tups w B v ts) (hb : Below B w w') : Tups w' B v ts := h.keep fun _ hp => hb.cell hp
theorem Tups.drewN (h : Tups w B v ts) (k : Nat) : Tups (w.drewN k) B v ts := h
theorem Ints.at_ {A : Option Addr} {n c k : Nat} (h : Ints w B (.slice A n c) t) (hk : k < n) : ∃ ad, A = some ad ∧ ad.block < B ∧ w.cell? (ad.add k) = some (.int .i64 (t.getD k 0)) := by
  obtain ⟨A', n', c', h1, h2, h3, h4⟩ := h
  injection h1 with e1 e2 e3
  subst e1 e2 e3
  obtain ⟨ad, u, hA, hb, hu, hc⟩ := h4.at_ hk
  refine ⟨ad, hA, hb, hc.trans ?_⟩
  rw [← hu, List.getElem?_map, List.getElem?_eq_getElem (by omega)]
  simp [List.getD_eq_getElem?_getD, List.getElem?_eq_getElem (show k < t.length by omega)]
end

theorem Tups.at_ {w : World} {B : Nat} {ts : List (List Int)} {A : Option Addr} {n c k : Nat} (h : Tups w B (.slice A n c) ts) (hk : k < n) :
    ∃ ad u, A = some ad ∧ ad.block < B ∧ w.cell? (ad.add k) = some u ∧ Ints w B u (ts.getD k []) := by
  obtain ⟨A', n', c', h1, h2, h3, h4⟩ := h
  injection h1 with e1 e2 e3
  subst e1 e2 e3
  obtain ⟨ad, hA, hb, hc⟩ := h4 (by omega)
  have hl : k < ts.length := by omega
  obtain ⟨u, hu, hi⟩ := hc k ts[k] (List.getElem?_eq_getElem hl)
  refine ⟨ad, u, hA, hb, hu, ?_⟩
  rw [List.getD_eq_getElem?_getD, List.getElem?_eq_getElem hl]
  exact hi

/-- A value that is a slice of relations. -/
def Rels (w : World) (B : Nat) (v : Value) (rs : List Sh.Rel) : Prop :=
  ∃ A n c, v = .slice A n c ∧ n = rs.length ∧ n ≤ 140737488351232 ∧
    (0 < n → ∃ ad, A = some ad ∧ ad.block < B ∧ ∀ j r, rs[j]? = some r → ∃ u, w.cell? (ad.add (j * 3)) = some (.string r.name) ∧
      w.cell? (ad.add (j * 3 + 1)) = some (.int .i64 r.arity) ∧ w.cell? (ad.add (j * 3 + 2)) = some u ∧ Tups w B u r.tuples ∧ r.name.size ≤ 140737488351232)

section
variable {w w' : World} {B B' : Nat} {v : Value} {rs : List Sh.Rel}
theorem Rels.keep (h : Rels w B v rs) (hk : ∀ p : Addr, p.block < B → w'.cell? p = w.cell? p) : Rels w' B v rs := by
  obtain ⟨A, n, c, h1, h2, h3, h4⟩ := h
  refine ⟨A, n, c, h1, h2, h3, fun hn => ?_⟩
  obtain ⟨ad, e, hb, hc⟩ := h4 hn
  refine ⟨ad, e, hb, fun j r hr => ?_⟩
  obtain ⟨u, h1, h2, h3, h4, h5⟩ := hc j r hr
  exact ⟨u, (hk _ (by rw [block_of_add]; exact hb)).trans h1, (hk _ (by rw [block_of_add]; exact hb)).trans h2, (hk _ (by rw [block_of_add]; exact hb)).trans h3, h4.keep hk, h5⟩
theorem Rels.more (h : Rels w B v rs) (hB : B ≤ B') : Rels w B' v rs := by
  obtain ⟨A, n, c, h1, h2, h3, h4⟩ := h
  refine ⟨A, n, c, h1, h2, h3, fun hn => ?_⟩
  obtain ⟨ad, e, hb, hc⟩ := h4 hn
  refine ⟨ad, e, by omega, fun j r hr => ?_⟩
  obtain ⟨u, h1, h2, h3, h4, h5⟩ := hc j r hr
  exact ⟨u, h1, h2, h3, h4.more hB, h5⟩
theorem Rels.below (h : Rels w B v rs) (hb : Below B w w') : Rels w' B v rs := h.keep fun _ hp => hb.cell hp
theorem Rels.drewN (h : Rels w B v rs) (k : Nat) : Rels (w.drewN k) B v rs := h
theorem add_field (a : Addr) (i j : Nat) : a.add (i + (j + 1)) = ⟨(a.add i).block, (a.add i).off + (j + 1), none⟩ := by
  unfold Addr.add
  by_cases hi : i = 0
  · simp [hi]
  · simp [hi, Nat.add_assoc]
theorem Rels.at_ {A : Option Addr} {n c k : Nat} (h : Rels w B (.slice A n c) rs) (hk : k < n) :
    ∃ ad u r, A = some ad ∧ ad.block < B ∧ rs[k]? = some r ∧ w.cell? (ad.add (k * 3)) = some (.string r.name) ∧ w.cell? ⟨(ad.add (k * 3)).block, (ad.add (k * 3)).off + 1, none⟩ = some (.int .i64 r.arity) ∧
      w.cell? ⟨(ad.add (k * 3)).block, (ad.add (k * 3)).off + 2, none⟩ = some u ∧ Tups w B u r.tuples ∧ r.name.size ≤ 140737488351232 := by
  obtain ⟨A', n', c', h1, h2, h3, h4⟩ := h
  injection h1 with e1 e2 e3
  subst e1 e2 e3
  obtain ⟨ad, hA, hb, hc⟩ := h4 (by omega)
  have hl : k < rs.length := by omega
  obtain ⟨u, h1, h2, h3, h4, h5⟩ := hc k rs[k] (List.getElem?_eq_getElem hl)
  refine ⟨ad, u, rs[k], hA, hb, List.getElem?_eq_getElem hl, h1, ?_, ?_, h4, h5⟩
  · rw [← add_field ad (k * 3) 0]; exact h2
  · rw [← add_field ad (k * 3) 1]; exact h3
end

/-- A block that is known whole. -/
def Blk (w : World) (g : Nat) (t : TypeId) (cs : Array Value) : Prop := w.heap[g]? = some (.cells cs t (0, 0))

section
variable {w w' : World} {g : Nat} {t : TypeId} {cs : Array Value}
theorem Blk.lt (h : Blk w g t cs) : g < w.heap.size := by
  rcases Nat.lt_or_ge g w.heap.size with hlt | hge
  · exact hlt
  · unfold Blk at h; rw [Array.getElem?_eq_none hge] at h; cases h
theorem Blk.cell (h : Blk w g t cs) (i : Nat) : w.cell? ⟨g, i, none⟩ = cs[i]? := cell_of_row w g i cs t (0, 0) h
theorem Blk.frozen (h : Blk w g t cs) (i : Nat) : w.frozen? ⟨g, i, none⟩ = false := by
  unfold Blk at h
  simp [World.frozen?, h]
theorem Blk.some_ (h : Blk w g t cs) (i : Nat) (hi : i < cs.size) : ∃ u, w.cell? ⟨g, i, none⟩ = some u := ⟨cs[i], by rw [h.cell, Array.getElem?_eq_getElem hi]⟩
theorem Blk.new (w : World) (t : TypeId) (cs : Array Value) : Blk (w.alloc (.cells cs t)) w.heap.size t cs := heap_alloc_new w _
theorem Blk.drew (h : Blk w g t cs) : Blk w.drew g t cs := h
theorem Blk.drewN (h : Blk w g t cs) (n : Nat) : Blk (w.drewN n) g t cs := h
theorem Blk.alloc (h : Blk w g t cs) (o : Obj) : Blk (w.alloc o) g t cs := (Below.heap_alloc w o g h.lt).trans h
theorem Blk.set_ (h : Blk w g t cs) (i : Nat) (u : Value) : Blk (w.setCell ⟨g, i, none⟩ u) g t (cs.setIfInBounds i u) := by
  unfold Blk at h ⊢
  simp [World.setCell, Array.getElem?_modify, h]
theorem Blk.far (h : Blk w g t cs) {p : Addr} (hp : g ≠ p.block) (u : Value) : Blk (w.setCell p u) g t cs := (Below.heap_setCell w p u g hp).trans h
theorem Blk.below {B : Nat} (h : Blk w g t cs) (hb : Below B w w') (hg : g < B) : Blk w' g t cs := (hb.block g hg).trans h
theorem Blk.grown {row : Option Nat} (h : Blk w g t cs) (hb : w.grownBy w' row) (hg : some g ≠ row) : Blk w' g t cs := (hb.block g h.lt hg).trans h
theorem Blk.reads (h : Blk w g t cs) (n c : Nat) (l : List Int) (hn : n = l.length) (hl : n ≤ 140737488351232) (hcs : ∀ (i : Nat) (x : Int), l[i]? = some x → cs[i]? = some (Value.int .i64 x)) : Ints w w.heap.size (.slice (some ⟨g, 0, none⟩) n c) l := by
  refine ⟨_, _, _, rfl, hn, hl, by simp [hn], fun _ => ⟨_, rfl, h.lt, fun j u hu => ?_⟩⟩
  rw [List.getElem?_map] at hu
  cases hx : l[j]? with
  | none => rw [hx] at hu; cases hu
  | some x =>
    rw [hx] at hu
    have e : (Addr.mk g 0 none).add j = ⟨g, j, none⟩ := by unfold Addr.add; split <;> simp_all
    rw [e, h.cell j, hcs j x hx]
    exact hu
end

theorem run_make_rowN {P : Program} (t e : TypeId) (i : TypeInfo) (z : Value) (ht : P.underlying t = some (.slice e)) (hi : P.info? e = some i) (hz : i.zero = some z)
    (kl kc : IntKind) (n c : Nat) (hnc : n ≤ c) (hbytes : i.bytes * c ≤ 281474976710656) (h63 : c ≤ 9223372036854775807) (w : World) :
    (Instr.makeSlice t (.int kl (n : Int)) (.int kc (c : Int))).run P w = .ok (.slice (some ⟨w.heap.size, 0, none⟩) n c) (w.alloc (.cells (madeCells z.cells (c * i.size)) e)) := by
  have hb : (i.bytes : Int) * (c : Int) ≤ 281474976710656 := by
    have h : ((i.bytes * c : Nat) : Int) ≤ 281474976710656 := by omega
    rwa [Int.natCast_mul] at h
  have hr := run_make (P := P) w t e i z ht hi hz kl kc n c (by omega) (by omega) hb (by omega)
  simp only [Int.toNat_natCast] at hr
  exact hr

theorem bcell {W w1 : World} (hb : Below W.heap.size W w1) : (∀ b o, b < W.heap.size → w1.cell? ⟨b, o, none⟩ = W.cell? ⟨b, o, none⟩) ∧ (∀ b o, b < W.heap.size → w1.frozen? ⟨b, o, none⟩ = W.frozen? ⟨b, o, none⟩) :=
  ⟨fun b o h => hb.cell (p := ⟨b, o, none⟩) h, fun b o h => hb.frozen (p := ⟨b, o, none⟩) h⟩

theorem quiet_left {P : Program} {f : FuncId} {args : Array Value} {w : World} {n : Nat} {v : Value}
    (h : Calls P f args (w.drewN n) fun e w' => e = .returned v ∧ w.drewN n = w') : Calls P f args (w.drewN n) fun e w'' => e = .returned v ∧ ∃ m, w'' = w.drewN m :=
  h.mono fun _ _ ⟨he, hm⟩ => ⟨he, n, hm.symm⟩
theorem quiet_add {P : Program} {f : FuncId} {args : Array Value} {w : World} {a n : Nat} {v : Value}
    (h : Calls P f args (w.drewN (a + n)) fun e w' => e = .returned v ∧ ∃ m, w' = (w.drewN (a + n)).drewN m) :
    Calls P f args (w.drewN (a + n)) fun e w'' => e = .returned v ∧ ∃ m, w'' = w.drewN (a + m) :=
  h.mono fun _ _ ⟨he, m, hm⟩ => ⟨he, n + m, by rw [hm, World.drewN_drewN, Nat.add_assoc]⟩
theorem quiet_add_left {P : Program} {f : FuncId} {args : Array Value} {w : World} {a n : Nat} {v : Value}
    (h : Calls P f args (w.drewN (a + n)) fun e w' => e = .returned v ∧ w.drewN (a + n) = w') :
    Calls P f args (w.drewN (a + n)) fun e w'' => e = .returned v ∧ ∃ m, w'' = w.drewN (a + m) :=
  h.mono fun _ _ ⟨he, hm⟩ => ⟨he, n, hm.symm⟩
theorem below_drewN {B : Nat} {a w : World} (h : Below B a w) (n : Nat) : Below B a (w.drewN n) := ⟨h.os, h.tape, h.output, h.size, h.block⟩

/-- A list's head-to-tail facts for loops. -/
theorem all_take_succ {α : Type} (p : α → Bool) (d : α) (l : List α) (k : Nat) (h : k < l.length) : (l.take (k + 1)).all p = ((l.take k).all p && p (l.getD k d)) := by
  rw [List.take_succ_eq_append_getElem h, List.all_append]
  simp [List.getD_eq_getElem?_getD, List.getElem?_eq_getElem h]
theorem all_of_take {α : Type} (p : α → Bool) (d : α) (l : List α) (k : Nat) (h : k < l.length) (hp : p (l.getD k d) = false) : l.all p = false := by
  rw [List.all_eq_false]
  refine ⟨l[k], List.getElem_mem h, ?_⟩
  rw [List.getD_eq_getElem?_getD, List.getElem?_eq_getElem h] at hp
  simpa using hp

end Go.Proofs.YtbddchonhicpiaaDoor
