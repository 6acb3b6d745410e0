/-
  Texts joined: Spoil, Syms, Symbols, Spoilw, Spec3.
-/
import Derived.Test.YtelememdhpncgaaGreatDoorJo7
import Derived.ArgAppend
import Derived.Test.YtelememdhpncgaaGreatDoorJo1
import Derived.Test.YtelememdhpncgaaGreatDoorJo4

/-
  What spoiling a result does to the memory, and what may be spoilt: rows of the call's own.
-/
namespace Go.Proofs.YtelememdhpncgaaGreatDoor
open Go.RowKit

/-- From w to w' only rows between the blocks L and H have turned, and new blocks have come: rows of tuples, and the tuples' cells of relations, have turned to nil where they have turned. -/
structure Sp (L H : Nat) (w w' : World) : Prop where
  os : w'.os = w.os
  tape : w'.tape = w.tape
  output : w'.output = w.output
  size : w.heap.size ≤ w'.heap.size
  out : ∀ b, b < w.heap.size → (b < L ∨ H ≤ b) → w'.heap[b]? = w.heap[b]?
  cells : ∀ (b : Nat) (cs : Array Value) (t : TypeId), L ≤ b → b < H → w.heap[b]? = some (.cells cs t (0, 0)) → ∃ cs' : Array Value, w'.heap[b]? = some (.cells cs' t (0, 0)) ∧ cs'.size = cs.size ∧
    (t = 25 → ∀ j : Nat, cs'[j]? = cs[j]? ∨ cs'[j]? = some (Value.slice none 0 0)) ∧ (t = 57 → ∀ j : Nat, cs'[j * 3 + 2]? = cs[j * 3 + 2]? ∨ cs'[j * 3 + 2]? = some (Value.slice none 0 0))
section
variable {L H : Nat} {w w' w0 : World}
theorem Sp.refl (L H : Nat) (w : World) : Sp L H w w := ⟨rfl, rfl, rfl, Nat.le_refl _, fun _ _ _ => rfl, fun b cs t _ _ h => ⟨cs, h, rfl, fun _ _ => .inl rfl, fun _ _ => .inl rfl⟩⟩
theorem Sp.trans {a b c : World} (hH : H ≤ a.heap.size) (h : Sp L H a b) (k : Sp L H b c) : Sp L H a c := by
  refine ⟨k.os.trans h.os, k.tape.trans h.tape, k.output.trans h.output, Nat.le_trans h.size k.size, fun i hi ho => (k.out i (Nat.lt_of_lt_of_le hi h.size) ho).trans (h.out i hi ho), fun i cs t h1 h2 hc => ?_⟩
  obtain ⟨c1, e1, s1, t1, r1⟩ := h.cells i cs t h1 h2 hc
  obtain ⟨c2, e2, s2, t2, r2⟩ := k.cells i c1 t h1 h2 e1
  refine ⟨c2, e2, s2.trans s1, fun ht j => ?_, fun ht j => ?_⟩
  · rcases t2 ht j with e | e
    · rw [e]; exact t1 ht j
    · exact .inr e
  · rcases r2 ht j with e | e
    · rw [e]; exact r1 ht j
    · exact .inr e
theorem Sp.below (h : Sp L H w w') (hL : L ≤ w.heap.size) : Below L w w' := ⟨h.os, h.tape, h.output, h.size, fun b hb => h.out b (by omega) (.inl hb)⟩
theorem Sp.keeps (h : Sp L H w w') (ts : List TypeId) : Keeps H ts w w' := ⟨h.size, fun b _ _ hb _ hh => h.out b (heap_lt hh) (.inr hb)⟩
theorem Sp.blk (h : Sp L H w w') {g : Nat} {t : TypeId} {cs : Array Value} (h1 : L ≤ g) (h2 : g < H) (hb : Blk w g t cs) : ∃ cs', Blk w' g t cs' ∧ cs'.size = cs.size := by
  obtain ⟨c, e, s, -⟩ := h.cells g cs t h1 h2 hb
  exact ⟨c, e, s⟩
/-- Old blocks stay. -/
theorem Sp.grown (h : Sp L H w0 w) (hH : H ≤ w0.heap.size) (hg : w.grownBy w' none) : Sp L H w0 w' := by
  have hb : ∀ b, b < w.heap.size → w'.heap[b]? = w.heap[b]? := fun b hb => hg.block b hb (by simp)
  refine ⟨hg.os.trans h.os, hg.tape.trans h.tape, hg.output.trans h.output, Nat.le_trans h.size hg.size, fun b h1 h2 => (hb b (Nat.lt_of_lt_of_le h1 h.size)).trans (h.out b h1 h2), fun b cs t h1 h2 hc => ?_⟩
  obtain ⟨c, e, r⟩ := h.cells b cs t h1 h2 hc
  exact ⟨c, (hb b (heap_lt e)).trans e, r⟩
theorem Sp.alloc (h : Sp L H w0 w) (hH : H ≤ w0.heap.size) (o : Obj) : Sp L H w0 (w.alloc o) := h.grown hH (World.grownBy_alloc w o none)
/-- A cell is stored. -/
theorem Sp.set_ (h : Sp L H w0 w) (hH : H ≤ w0.heap.size) {g o : Nat} {t : TypeId} {cs : Array Value} {u : Value} (hb : Blk w g t cs) (hg : (L ≤ g ∧ g < H) ∨ w0.heap.size ≤ g)
    (h1 : g < H → t = 25 → u = .slice none 0 0) (h2 : g < H → t = 57 → ∀ j : Nat, o = j * 3 + 2 → u = .slice none 0 0) : Sp L H w0 (w.setCell ⟨g, o, none⟩ u) := by
  have hfar : ∀ b, b ≠ g → (w.setCell ⟨g, o, none⟩ u).heap[b]? = w.heap[b]? := fun b hne => Below.heap_setCell w ⟨g, o, none⟩ u b hne
  refine ⟨h.os, h.tape, h.output, by simpa [World.setCell] using h.size, fun b k1 k2 => (hfar b (by omega)).trans (h.out b k1 k2), fun b cs0 t0 k1 k2 hc => ?_⟩
  obtain ⟨c, e, s, q1, q2⟩ := h.cells b cs0 t0 k1 k2 hc
  by_cases hbg : b = g
  · subst hbg
    have he := hb
    unfold Blk at he
    rw [e] at he
    injection he with he
    injection he with e1 e2
    subst e1 e2
    refine ⟨_, Blk.set_ hb o u, by simp [s], fun ht j => ?_, fun ht j => ?_⟩
    · rw [Array.getElem?_setIfInBounds]
      by_cases hoj : o = j
      · subst hoj
        rw [if_pos rfl]
        by_cases hz : o < c.size
        · rw [if_pos hz, h1 k2 ht]; exact .inr rfl
        · rw [if_neg hz]; left; rw [Array.getElem?_eq_none (by omega)]
      · rw [if_neg hoj]; exact q1 ht j
    · rw [Array.getElem?_setIfInBounds]
      by_cases hoj : o = j * 3 + 2
      · rw [if_pos hoj]
        by_cases hz : o < c.size
        · rw [if_pos hz, h2 k2 ht j hoj]; exact .inr rfl
        · rw [if_neg hz]; left; rw [Array.getElem?_eq_none (by omega)]
      · rw [if_neg hoj]; exact q2 ht j
  · exact ⟨c, (hfar b hbg).trans e, s, q1, q2⟩
theorem Sp.sets (hH : H ≤ w0.heap.size) {g : Nat} {t : TypeId} (hg : (L ≤ g ∧ g < H) ∨ w0.heap.size ≤ g) : ∀ (l : List Value) (o : Nat) (w : World) (cs : Array Value), Sp L H w0 w → Blk w g t cs →
    (g < H → t = 25 → ∀ u ∈ l, u = .slice none 0 0) → (g < H → t = 57 → ∀ (i : Nat) (u : Value), l[i]? = some u → ∀ j : Nat, o + i = j * 3 + 2 → u = .slice none 0 0) →
    Sp L H w0 (w.setCells g o l) ∧ ∃ cs', Blk (w.setCells g o l) g t cs' ∧ cs'.size = cs.size
  | [], o, w, cs, h, hb, _, _ => ⟨h, cs, hb, rfl⟩
  | u :: l, o, w, cs, h, hb, h1, h2 => by
    have hs := h.set_ hH (o := o) (u := u) hb hg (fun a b => h1 a b u List.mem_cons_self) (fun a b j hj => h2 a b 0 u rfl j (by omega))
    obtain ⟨r1, c, r2, r3⟩ := Sp.sets hH hg l (o + 1) _ _ hs (hb.set_ o u) (fun a b x hx => h1 a b x (List.mem_cons_of_mem _ hx)) (fun a b i x hx j hj => h2 a b (i + 1) x (by simpa using hx) j (by omega))
    exact ⟨r1, c, r2, by rw [r3]; simp⟩

/-- append of one element to a row that is spoilt: the row's own cells behind it, or a new row. -/
theorem append_sp {ops : Array Oper} {rest : List Oper} {o : Oper} {a : Act} {Q : Exit → Act → World → Prop} (w : World) (hgd : o.guard = none) (s x : Operand) (T E : TypeId)
    (ho : o.op = .call { callee := .builtin .append, args := #[s, x], argTypes := #[T, T] })
    (i : TypeInfo) (z : Value) (size bytes : Nat) (h1 : Tryz.prog.underlying T = some (.slice E)) (h2 : Tryz.prog.info? E = some i) (h3 : i.zero = some z) (h4 : i.size = size) (h5 : i.bytes = bytes) (h6 : z.cells.size = size) (h7 : 0 < size) (h8 : bytes ≤ 48)
    (hH : H ≤ w0.heap.size) (hsp : Sp L H w0 w) (v : Value) (n cap : Nat) (hn : n ≤ 1000000)
    (hv : (v = .slice none 0 0 ∧ n = 0 ∧ cap = 0) ∨ ∃ (g : Nat) (cs : Array Value), v = .slice (some ⟨g, 0, none⟩) n cap ∧ L ≤ g ∧ g < H ∧ Blk w g E cs ∧ n ≤ cap ∧ cs.size = cap * size)
    (hs : a.eval s = v) (gx c : Nat) (news : List Value) (hx : a.eval x = .slice (some ⟨gx, 0, none⟩) 1 c) (hnl : news.length = size) (hc : ∀ (j : Nat) (u : Value), news[j]? = some u → w.cell? ⟨gx, j, none⟩ = some u) (h1c : ∀ u ∈ news, u.oneCell' = true)
    (hc1 : E = 25 → ∀ u ∈ news, u = .slice none 0 0) (hc2 : E = 57 → ∀ (i : Nat) (u : Value), news[i]? = some u → ∀ j : Nat, n * size + i = j * 3 + 2 → u = .slice none 0 0)
    (h : ∀ (g' cap' : Nat) (cs' : Array Value) (w' : World), Sp L H w0 w' → Blk w' g' E cs' → size ≤ cs'.size → ((L ≤ g' ∧ g' < H) ∨ w0.heap.size ≤ g') → wpList Tryz.prog ops Q rest (a.put o.dst (.slice (some ⟨g', 0, none⟩) (n + 1) cap')) w') :
    wpList Tryz.prog ops Q (o :: rest) a w := by
  have hbytes : (n + 1) * bytes ≤ 140737488355328 := Nat.le_trans (Nat.mul_le_mul_left _ h8) (by omega)
  have hml : n + 1 ≤ maxLen := by unfold maxLen; omega
  have hfin : ∀ (v' : Value) (w' : World) (xs : List Value), w'.ownsRow w.heap.size E size v' (n + 1) xs → w.grownBy w' none → wpList Tryz.prog ops Q rest (a.put o.dst v') w' := fun v' w' xs hown hgr => by
    rcases hown.2 with ⟨_, e⟩ | ⟨g', cap', cs', rfl, e1, e2, e3, e4, e5, -⟩
    · omega
    · refine h g' cap' cs' w' (hsp.grown hH hgr) e2 ?_ (.inr (Nat.le_trans hsp.size e1))
      rw [e5]
      exact Nat.le_trans (Nat.le_of_eq (Nat.one_mul size).symm) (Nat.mul_le_mul_right _ (by omega))
  rcases hv with ⟨rfl, rfl, rfl⟩ | ⟨g, cs, rfl, hLg, hgH, hb, hnc, hsz⟩
  · exact wpList_append_grows w hgd s x T ho E i z size bytes h1 h2 h3 h4 h5 h6 h7 none 0 0 [] hs (fun _ => ⟨rfl, rfl⟩) (by simp) (fun b e => by cases e) ⟨gx, 0, none⟩ 1 c news hx (by omega) (fun j u hu => by rw [Addr.add_lit, Nat.zero_add]; exact hc j u hu) h1c (by omega) hml hbytes
      (fun v' w' hown hgr => hfin v' w' _ hown hgr)
  · refine wpList_append_arg w hgd s x T ho E i z size bytes h1 h2 h3 h4 h5 h6 h7 g 0 n cap (cs.toList.take (n * size)) hs ?_ ?_ ⟨gx, 0, none⟩ 1 c news hx (by omega) (fun j u hu => by rw [Addr.add_lit, Nat.zero_add]; exact hc j u hu) h1c ?_ hml hbytes ?_ ?_
    · rw [List.length_take, Array.length_toList, hsz]
      exact Nat.min_eq_left (Nat.mul_le_mul_right _ hnc)
    · intro j u hu
      rw [List.getElem?_take] at hu
      split at hu
      · rw [Nat.zero_add, hb.cell j, ← Array.getElem?_toList]; exact hu
      · cases hu
    · intro hr j hj
      have hlt : 0 + n * size + j < cs.size := by
        rw [hsz, Nat.zero_add]
        calc n * size + j < n * size + size := by omega
          _ = (n + 1) * size := by rw [Nat.add_mul, Nat.one_mul]
          _ ≤ cap * size := Nat.mul_le_mul_right _ hr
      obtain ⟨u, hu⟩ := hb.some_ _ hlt
      exact ⟨by rw [hu]; rfl, hb.frozen _⟩
    · intro hr
      obtain ⟨r1, cs', r2, r3⟩ := Sp.sets hH (.inl ⟨hLg, hgH⟩) news (0 + n * size) w cs hsp hb (fun _ e => hc1 e) (fun _ e i u hu j hj => hc2 e i u hu j (by omega))
      refine h g cap cs' _ r1 r2 ?_ (.inl ⟨hLg, hgH⟩)
      rw [r3, hsz]
      exact Nat.le_trans (Nat.le_of_eq (Nat.one_mul size).symm) (Nat.mul_le_mul_right _ (by omega))
    · intro _ v' w' hown hgr
      exact hfin v' w' _ hown hgr
end

/-- What may be spoilt: a row of numbers, a row of tuples, a row of relations, a row of symbols. -/
def SI (w : World) (L H : Nat) (v : Value) : Prop := v = .slice none 0 0 ∨ ∃ (g n cap : Nat) (cs : Array Value), v = .slice (some ⟨g, 0, none⟩) n cap ∧ n ≤ 1000000 ∧ L ≤ g ∧ g < H ∧ Blk w g 3 cs ∧ n ≤ cap ∧ cs.size = cap * 1
def ST (w : World) (L H : Nat) (v : Value) : Prop := v = .slice none 0 0 ∨ ∃ (g n cap : Nat) (cs : Array Value), v = .slice (some ⟨g, 0, none⟩) n cap ∧ n ≤ 1000000 ∧ L ≤ g ∧ g < H ∧ Blk w g 25 cs ∧ n ≤ cap ∧ cs.size = cap * 1 ∧ ∀ j : Nat, j < n → ∃ u, cs[j]? = some u ∧ SI w L H u
def SR (w : World) (L H : Nat) (v : Value) : Prop := v = .slice none 0 0 ∨ ∃ (g n cap : Nat) (cs : Array Value), v = .slice (some ⟨g, 0, none⟩) n cap ∧ n ≤ 1000000 ∧ L ≤ g ∧ g < H ∧ Blk w g 57 cs ∧ n ≤ cap ∧ cs.size = cap * 3 ∧ ∀ j : Nat, j < n → ∃ u, cs[j * 3 + 2]? = some u ∧ ST w L H u
def SS (w : World) (L H : Nat) (v : Value) : Prop := v = .slice none 0 0 ∨ ∃ (g n cap : Nat) (cs : Array Value), v = .slice (some ⟨g, 0, none⟩) n cap ∧ n ≤ 1000000 ∧ L ≤ g ∧ g < H ∧ Blk w g 72 cs ∧ n ≤ cap ∧ cs.size = cap * 2
section
variable {L H : Nat} {w w' : World} {v : Value}
theorem SI.sp (h : SI w L H v) (hs : Sp L H w w') : SI w' L H v := by
  rcases h with h | ⟨g, n, cap, cs, h1, h2, h3, h4, h5, h6, h7⟩
  · exact .inl h
  · obtain ⟨c, e, s⟩ := hs.blk h3 h4 h5
    exact .inr ⟨g, n, cap, c, h1, h2, h3, h4, e, h6, s.trans h7⟩
theorem SS.sp (h : SS w L H v) (hs : Sp L H w w') : SS w' L H v := by
  rcases h with h | ⟨g, n, cap, cs, h1, h2, h3, h4, h5, h6, h7⟩
  · exact .inl h
  · obtain ⟨c, e, s⟩ := hs.blk h3 h4 h5
    exact .inr ⟨g, n, cap, c, h1, h2, h3, h4, e, h6, s.trans h7⟩
theorem ST.sp (h : ST w L H v) (hs : Sp L H w w') : ST w' L H v := by
  rcases h with h | ⟨g, n, cap, cs, h1, h2, h3, h4, h5, h6, h7, h8⟩
  · exact .inl h
  · obtain ⟨c, e, s, q, -⟩ := hs.cells g cs _ h3 h4 h5
    refine .inr ⟨g, n, cap, c, h1, h2, h3, h4, e, h6, s.trans h7, fun j hj => ?_⟩
    obtain ⟨u, hu, hsu⟩ := h8 j hj
    rcases q rfl j with e | e
    · exact ⟨u, e.trans hu, hsu.sp hs⟩
    · exact ⟨_, e, .inl rfl⟩
theorem SR.sp (h : SR w L H v) (hs : Sp L H w w') : SR w' L H v := by
  rcases h with h | ⟨g, n, cap, cs, h1, h2, h3, h4, h5, h6, h7, h8⟩
  · exact .inl h
  · obtain ⟨c, e, s, -, q⟩ := hs.cells g cs _ h3 h4 h5
    refine .inr ⟨g, n, cap, c, h1, h2, h3, h4, e, h6, s.trans h7, fun j hj => ?_⟩
    obtain ⟨u, hu, hsu⟩ := h8 j hj
    rcases q rfl j with e | e
    · exact ⟨u, e.trans hu, hsu.sp hs⟩
    · exact ⟨_, e, .inl rfl⟩
theorem own_row1 {e : TypeId} {size n : Nat} {xs : List Value} {A : Option Addr} {m c : Nat} (h : w.ownsRow L e size (.slice A m c) n xs) : (.slice A m c = Value.slice none 0 0) ∨ ∃ (g : Nat) (cs : Array Value), A = some ⟨g, 0, none⟩ ∧ m = n ∧ L ≤ g ∧ g < w.heap.size ∧ Blk w g e cs ∧ n ≤ c ∧ cs.size = c * size := by
  rcases h.2 with ⟨h0, -⟩ | ⟨g, cap, cur, hv, h1, h2, h3, -, h4, -⟩
  · exact .inl h0
  · injection hv with e1 e2 e3
    subst e1 e2 e3
    exact .inr ⟨g, cur, rfl, rfl, h1, heap_lt h2, h2, h3, h4⟩
theorem NInts.si {t : List Int} (h : NInts w L v t) (hl : t.length ≤ 1000000) : SI w L w.heap.size v := by
  obtain ⟨A, n, c, rfl, h2, -, -, xs, hx⟩ := h
  rcases own_row1 hx with h | ⟨g, cs, rfl, -, h3, h4, h5, h6, h7⟩
  · exact .inl h
  · exact .inr ⟨g, n, c, cs, rfl, by omega, h3, h4, h5, h6, h7⟩
theorem NTups.st {ts : List (List Int)} (h : NTups w L v ts) (hl : ts.length ≤ 1000000) (hls : ∀ t ∈ ts, t.length ≤ 1000000) : ST w L w.heap.size v := by
  obtain ⟨A, n, c, rfl, h2, -, h9, xs, hx⟩ := h
  rcases own_row1 hx with h | ⟨g, cs, rfl, -, h3, h4, h5, h6, h7⟩
  · exact .inl h
  · refine .inr ⟨g, n, c, cs, rfl, by omega, h3, h4, h5, h6, h7, fun j hj => ?_⟩
    obtain ⟨ad, cs2, e1, -, -, hc⟩ := h9 (by omega)
    obtain rfl := Option.some.inj e1
    obtain ⟨u, hu, hn⟩ := hc j _ (List.getElem?_eq_getElem (show j < ts.length by omega))
    rw [Addr.add_lit, Nat.zero_add, h5.cell j] at hu
    exact ⟨u, hu, hn.si (hls _ (List.getElem_mem _))⟩
theorem NRels.sr {rs : List Sh.Rel} (h : NRels w L v rs) (hl : rs.length ≤ 1000000) (hls : ∀ r ∈ rs, r.tuples.length ≤ 1000000 ∧ ∀ t ∈ r.tuples, t.length ≤ 1000000) : SR w L w.heap.size v := by
  obtain ⟨A, n, c, rfl, h2, -, h9, xs, hx⟩ := h
  rcases own_row1 hx with h | ⟨g, cs, rfl, -, h3, h4, h5, h6, h7⟩
  · exact .inl h
  · refine .inr ⟨g, n, c, cs, rfl, by omega, h3, h4, h5, h6, h7, fun j hj => ?_⟩
    obtain ⟨ad, cs2, e1, -, -, hc⟩ := h9 (by omega)
    obtain rfl := Option.some.inj e1
    obtain ⟨u, -, -, hu, hn, -⟩ := hc j _ (List.getElem?_eq_getElem (show j < rs.length by omega))
    rw [Addr.add_lit, Nat.zero_add, h5.cell] at hu
    have := hls _ (List.getElem_mem (show j < rs.length by omega))
    exact ⟨u, hu, hn.st this.1 this.2⟩
theorem SI.more {H' : Nat} (h : SI w L H v) (hH : H ≤ H') : SI w L H' v := by
  rcases h with h | ⟨g, n, cap, cs, h1, h2, h3, h4, h5⟩
  · exact .inl h
  · exact .inr ⟨g, n, cap, cs, h1, h2, h3, by omega, h5⟩
end

end Go.Proofs.YtelememdhpncgaaGreatDoor

/-
  Symbols in memory; walk: SameSymbols of two slices with the same symbols.
-/
namespace Go.Proofs.YtelememdhpncgaaGreatDoor
open Go.RowKit

/-- A value that is a slice of symbols. -/
def Syms (w : World) (B : Nat) (v : Value) (ss : List (ByteArray × Int)) : Prop :=
  ∃ A n c, v = .slice A n c ∧ n = ss.length ∧ n ≤ 140737488351232 ∧
    (0 < n → ∃ ad, A = some ad ∧ ad.block < B ∧ ∀ j s, ss[j]? = some s → w.cell? (ad.add (j * 2)) = some (.string s.1) ∧ w.cell? (ad.add (j * 2 + 1)) = some (.int .i64 s.2))
section
variable {w w' : World} {B B' : Nat} {v : Value} {ss : List (ByteArray × Int)}
theorem Syms.nil : Syms w B (.slice none 0 0) [] := ⟨_, _, _, rfl, rfl, by omega, fun h => absurd h (by omega)⟩
theorem Syms.keep (h : Syms w B v ss) (hk : ∀ p : Addr, p.block < B → w'.cell? p = w.cell? p) : Syms w' B v ss := by
  obtain ⟨A, n, c, h1, h2, h3, h4⟩ := h
  refine ⟨A, n, c, h1, h2, h3, fun hn => ?_⟩
  obtain ⟨ad, e, hb, hc⟩ := h4 hn
  exact ⟨ad, e, hb, fun j s hs => ⟨(hk _ (by rw [block_of_add]; exact hb)).trans (hc j s hs).1, (hk _ (by rw [block_of_add]; exact hb)).trans (hc j s hs).2⟩⟩
theorem Syms.below (h : Syms w B v ss) (hb : Below B w w') : Syms w' B v ss := h.keep fun _ hp => hb.cell hp
theorem Syms.more (h : Syms w B v ss) (hB : B ≤ B') : Syms w B' v ss := by
  obtain ⟨A, n, c, h1, h2, h3, h4⟩ := h
  refine ⟨A, n, c, h1, h2, h3, fun hn => ?_⟩
  obtain ⟨ad, e, hb, hc⟩ := h4 hn
  exact ⟨ad, e, by omega, hc⟩
theorem Syms.at_ {A : Option Addr} {n c k : Nat} (h : Syms w B (.slice A n c) ss) (hk : k < n) :
    ∃ ad s, A = some ad ∧ ad.block < B ∧ ss[k]? = some s ∧ w.cell? (ad.add (k * 2)) = some (.string s.1) ∧ w.cell? ⟨(ad.add (k * 2)).block, (ad.add (k * 2)).off + 1, none⟩ = some (.int .i64 s.2) := by
  obtain ⟨A', n', c', h1, h2, h3, h4⟩ := h
  injection h1 with e1 e2 e3
  subst e1 e2 e3
  obtain ⟨ad, hA, hb, hc⟩ := h4 (by omega)
  have hl : k < ss.length := by omega
  obtain ⟨h1, h2⟩ := hc k ss[k] (List.getElem?_eq_getElem hl)
  refine ⟨ad, ss[k], hA, hb, List.getElem?_eq_getElem hl, h1, ?_⟩
  rw [← add_field ad (k * 2) 0]; exact h2
end

set_option maxRecDepth 100000 in
set_option maxHeartbeats 400000 in
theorem same_symbols (v u : Value) (ss : List (ByteArray × Int)) (w : World) (B : Nat) (h : Syms w B v ss) (g : Syms w B u ss) :
    Calls Tryz.prog 19 #[v, u] w fun e w' => e = .returned (.bool true) ∧ ∃ n, w' = w.drewN n := by
  have h' := h
  have g' := g
  obtain ⟨A, len, c, rfl, hlen, hmax, -⟩ := h'
  obtain ⟨A', len', c', rfl, glen, gmax, -⟩ := g'
  obtain rfl : len = len' := by omega
  go_enter Tryz.func19, Tryz.ntmps19
  go_wp2
  go_loopw [5] (fun i wr => ∃ k m : Nat, k ≤ len ∧ i = .int .i64 k ∧ wr = w.drewN m) (fun i _ => len - (intOf i).toNat)
  case atStart => exact ⟨0, 0, Nat.zero_le _, rfl, rfl⟩
  case round =>
    obtain ⟨k, m, hk, rfl, rfl⟩ := hrel
    by_cases hlt : k < len
    · obtain ⟨ad, s, rfl, -, hs, h1, h2⟩ := h.at_ hlt
      obtain ⟨ad', s', rfl, -, hs', g1, g2⟩ := g.at_ hlt
      obtain rfl : s = s' := by rw [hs] at hs'; injection hs'
      go_wp2
      go_quiet (fail)
      go_wp2
      exact ⟨⟨k + 1, _, by omega, by go_num, rfl⟩, by simp [intOf]; omega⟩
    · go_wp2
      go_ret
      exact ⟨rfl, _, rfl⟩

end Go.Proofs.YtelememdhpncgaaGreatDoor

/-
  Walk: shape.Symbols.
-/
namespace Go.Proofs.YtelememdhpncgaaGreatDoor
open Go.RowKit

/-- The symbols of a list of relations; their cells. -/
def symsOf (rs : List Sh.Rel) : List (ByteArray × Int) := rs.map fun r => (r.name, r.arity)
def symCells (rs : List Sh.Rel) : List Value := rs.flatMap fun r => [.string r.name, .int .i64 r.arity]
theorem symCells_len : ∀ rs, (symCells rs).length = rs.length * 2
  | [] => rfl
  | r :: rs => by
    have h := symCells_len rs
    unfold symCells at h ⊢
    rw [List.flatMap_cons, List.length_append, h, List.length_cons]
    simp; omega
theorem symCells_at : ∀ (rs : List Sh.Rel) (j : Nat) (r : Sh.Rel), rs[j]? = some r → (symCells rs)[j * 2]? = some (.string r.name) ∧ (symCells rs)[j * 2 + 1]? = some (.int .i64 r.arity)
  | [], j, r, h => by simp at h
  | x :: rs, 0, r, h => by simp at h; subst h; exact ⟨rfl, rfl⟩
  | x :: rs, j + 1, r, h => by
    have h1 := symCells_at rs j r (by simpa using h)
    unfold symCells at h1 ⊢
    rw [List.flatMap_cons, show (j + 1) * 2 = 2 + j * 2 by omega, show 2 + j * 2 + 1 = 2 + (j * 2 + 1) by omega]
    rw [List.getElem?_append_right (by simp), List.getElem?_append_right (by simp)]
    simpa using h1
theorem symCells_snoc (rs : List Sh.Rel) (r : Sh.Rel) : symCells (rs ++ [r]) = symCells rs ++ [.string r.name, .int .i64 r.arity] := by
  unfold symCells
  rw [List.flatMap_append]
  rfl
theorem Syms.own {w : World} {base n : Nat} {v : Value} {rs : List Sh.Rel} (h : w.ownsRow base 72 2 v n (symCells rs)) (hn : n = rs.length) (hm : n ≤ 140737488351232) : Syms w w.heap.size v (symsOf rs) := by
  have hform : ∃ A c, v = .slice A n c := by
    rcases h.2 with ⟨rfl, rfl, -⟩ | ⟨g, cap, cur, rfl, -⟩
    · exact ⟨_, _, rfl⟩
    · exact ⟨_, _, rfl⟩
  obtain ⟨A, c, rfl⟩ := hform
  have hr := Reads.of_own h
  refine ⟨A, n, c, rfl, by simp [symsOf, hn], hm, fun h0 => ?_⟩
  obtain ⟨ad, hA, hb, hc⟩ := hr.2 h0
  refine ⟨ad, hA, hb, fun j s hs => ?_⟩
  unfold symsOf at hs
  rw [List.getElem?_map] at hs
  obtain ⟨r, hrj, rfl⟩ := Option.map_eq_some_iff.1 hs
  obtain ⟨h1, h2⟩ := symCells_at rs j r hrj
  exact ⟨hc _ _ h1, hc _ _ h2⟩

theorem sym_info : (Tryz.prog.info? 72).map (fun i => (i.zero, i.size, i.bytes)) = some (some (.agg #[.string ⟨#[]⟩, .int .i64 0]), 2, 24) := by kernel_rfl
/-- append of one symbol to a row of the call's own. -/
theorem append_sym {ops : Array Oper} {rest : List Oper} {o : Oper} {a : Act} {Q : Exit → Act → World → Prop} (w : World) (hgd : o.guard = none) (s x : Operand)
    (ho : o.op = .call { callee := .builtin .append, args := #[s, x], argTypes := #[38, 38] })
    (base : Nat) (v : Value) (n : Nat) (rs : List Sh.Rel) (hs : a.eval s = v) (hown : w.ownsRow base 72 2 v n (symCells rs))
    (g c : Nat) (r : Sh.Rel) (hx : a.eval x = .slice (some ⟨g, 0, none⟩) 1 c) (hc : Blk w g 72 #[.string r.name, .int .i64 r.arity]) (hn : n ≤ 1000000) (hbase : base ≤ w.heap.size)
    (h : ∀ v' w', w'.ownsRow base 72 2 v' (n + 1) (symCells (rs ++ [r])) → w.grownBy w' v.ownBlock → wpList Tryz.prog ops Q rest (a.put o.dst v') w') :
    wpList Tryz.prog ops Q (o :: rest) a w := by
  obtain ⟨i0, hi, hz0, hz1, hz2⟩ := info_parts sym_info
  refine wpList_append_own w hgd s x 38 ho base 72 i0 _ 2 24 Tryz.underlying38 hi hz0 hz1 hz2 rfl (by decide) v n _ hs hown ⟨g, 0, none⟩ 1 c [.string r.name, .int .i64 r.arity] hx rfl ?_ ?_ (by unfold maxLen; omega) (by omega) hbase ?_
  · intro j u hu
    have e : (Addr.mk g 0 none).add j = ⟨g, j, none⟩ := by unfold Addr.add; split <;> simp_all
    rw [e, hc.cell j]
    simpa using hu
  · intro u hu
    simp at hu
    rcases hu with rfl | rfl <;> rfl
  · intro v' w' h1 h2 _
    exact h v' w' (by rw [symCells_snoc]; exact h1) h2

set_option maxRecDepth 100000 in
set_option maxHeartbeats 400000 in
theorem symbols_bad (size : Int) (v : Value) (rs : List Sh.Rel) (w : World) (B : Nat) (hB : B ≤ w.heap.size) (h : Rels w B v rs) (hvb : Sh.validB ⟨size, rs⟩ = false) :
    Calls Tryz.prog 17 #[.agg #[.int .i64 size, v]] w fun e w' => e = .returned (.slice none 0 0) ∧ Below w.heap.size w w' := by
  have h' := h
  obtain ⟨A, len, c, rfl, -⟩ := h'
  have hb0 := (Below.refl w.heap.size w).alloc (Nat.le_refl _) (.cells #[.int .i64 size, .slice A len c] 24)
  have hcall := valid_any size (.slice A len c) rs (w.alloc (.cells #[.int .i64 size, .slice A len c] 24)) B (by simp; omega) (h.below (hb0.mono hB))
  have Hcall := Lib.hid hcall; clear hcall
  have Hb0 := Lib.hid hb0; clear hb0
  have Hvb := Lib.hid hvb; clear hvb
  go_enter Tryz.func17, Tryz.ntmps17
  go_wp2_with (go_at_call 31; refine Hcall.out.mono ?_; rw [Hvb.out]; rintro e w1 ⟨rfl, hb1⟩)
  go_ret
  exact ⟨rfl, Hb0.out.trans (hb1.mono (by simp))⟩

set_option maxRecDepth 100000 in
set_option maxHeartbeats 400000 in
theorem symbols_ok (size : Int) (v : Value) (rs : List Sh.Rel) (w : World) (B : Nat) (hB : B ≤ w.heap.size) (h : Rels w B v rs) (hvb : Sh.validB ⟨size, rs⟩ = true) (hl : rs.length ≤ 1000) :
    Calls Tryz.prog 17 #[.agg #[.int .i64 size, v]] w fun e w' => ∃ u, e = .returned u ∧ Syms w' w'.heap.size u (symsOf rs) ∧ Below w.heap.size w w' := by
  have h' := h
  obtain ⟨A, len, c, rfl, hlen, -⟩ := h'
  have hb0 := (Below.refl w.heap.size w).alloc (Nat.le_refl _) (.cells #[.int .i64 size, .slice A len c] 24)
  have hcall := valid_any size (.slice A len c) rs (w.alloc (.cells #[.int .i64 size, .slice A len c] 24)) B (by simp; omega) (h.below (hb0.mono hB))
  have hbox := Blk.new w 24 #[.int .i64 size, .slice A len c]
  have Hcall := Lib.hid hcall; clear hcall
  have Hb0 := Lib.hid hb0; clear hb0
  have Hvb := Lib.hid hvb; clear hvb
  have Hbox := Lib.hid hbox; clear hbox
  have Hlen := Lib.hid hlen; clear hlen
  go_enter Tryz.func17, Tryz.ntmps17
  go_wp2_with (go_at_call 31; refine Hcall.out.mono ?_; rw [Hvb.out]; rintro e w1 ⟨rfl, hb1⟩
               have hbx := Hbox.out.below hb1 (by simp)
               have bx1 : w1.cell? ⟨w.heap.size, 1, none⟩ = some (.slice A len c) := hbx.cell 1
               have hs1 : w.heap.size + 1 ≤ w1.heap.size := by have := hb1.size; simp at this; exact this
               have Hb1 := Lib.hid (Hb0.out.trans (hb1.mono (by simp))); clear hb1 hbx)
  go_loopw [3, 12] (fun v i wr => ∃ k : Nat, k ≤ len ∧ i = .int .i64 k ∧ wr.ownsRow (w.heap.size + 1) 72 2 v k (symCells (rs.take k)) ∧ Below w.heap.size w wr ∧ w.heap.size + 1 ≤ wr.heap.size) (fun _ i _ => len - (intOf i).toNat)
  case atStart => exact ⟨0, Nat.zero_le _, rfl, by simpa [symCells] using World.ownsRow_nil _ _ _ _, Hb1.out, hs1⟩
  case round =>
    obtain ⟨k, hk, rfl, hown, hbel, hsz⟩ := hrel
    have Hown := Lib.hid hown; clear hown
    by_cases hlt : k < len
    · obtain ⟨ad, u, r, rfl, hb, hr, c0, c1, c2, htu, hn⟩ := (h.below (hbel.mono hB)).at_ hlt
      obtain ⟨UA, UN, UC, rfl, -⟩ := htu
      have htk : rs.take (k + 1) = rs.take k ++ [r] := by
        have hl' : k < rs.length := by have := Hlen.out; omega
        rw [List.take_succ_eq_append_getElem hl']
        rw [List.getElem?_eq_getElem hl'] at hr
        injection hr with hr
        rw [hr]
      have Htk := Lib.hid htk; clear htk
      have hk1000 : k ≤ 1000 := by have := Hlen.out; omega
      have Hr := Lib.hid hr; clear hr
      have Hbel := Lib.hid hbel; clear hbel
      go_wp2_with (at_builtin; refine append_sym _ rfl _ _ rfl (w.heap.size + 1) _ k (rs.take k) rfl ((Hown.out.alloc _).alloc _) (wr.heap.size + 1) 1 r rfl (by have hh := Blk.new (wr.alloc (.cells #[.string r.name, .int .i64 r.arity, .slice UA UN UC] 57)) 72 #[.string r.name, .int .i64 r.arity]; rw [World.size_alloc] at hh; exact hh) (by omega) (by simp only [World.size_alloc]; omega) ?_; intro v' w7 hown7 hg7)
      refine ⟨⟨k + 1, by omega, by go_num, by rw [Htk.out]; exact hown7, ?_, ?_⟩, by simp [intOf]; omega⟩
      · exact ((Hbel.out.alloc (by omega) _).alloc (by simp only [World.size_alloc]; omega) _).grown hg7 (by simp only [World.size_alloc]; omega) (fun g e => by have := (Hown.out.lt g e).1; omega)
      · have := hg7.size
        simp only [World.size_alloc] at this
        omega
    · have hkl : k = len := by omega
      subst hkl
      have htk : rs.take k = rs := List.take_of_length_le (by have := Hlen.out; omega)
      have hsy : Syms wr wr.heap.size _ (symsOf rs) := Syms.own (by have h1 := Hown.out; rw [htk] at h1; exact h1) Hlen.out (by have := Hlen.out; omega)
      have Hsy := Lib.hid hsy; clear hsy htk
      go_wp2
      go_ret
      exact ⟨_, rfl, Hsy.out, hbel⟩

end Go.Proofs.YtelememdhpncgaaGreatDoor

/-
  Walks: SpoilInts, SpoilTuples, Spoil, SpoilSymbols.
-/
namespace Go.Proofs.YtelememdhpncgaaGreatDoor
open Go.RowKit

def RowV (w : World) (L H : Nat) (E : TypeId) (size : Nat) (v : Value) (n cap : Nat) : Prop :=
  (v = .slice none 0 0 ∧ n = 0 ∧ cap = 0) ∨ ∃ (g : Nat) (cs : Array Value), v = .slice (some ⟨g, 0, none⟩) n cap ∧ L ≤ g ∧ g < H ∧ Blk w g E cs ∧ n ≤ cap ∧ cs.size = cap * size
section
variable {L H size n cap : Nat} {E : TypeId} {w w' : World} {v : Value}
theorem RowV.sp (h : RowV w L H E size v n cap) (hs : Sp L H w w') : RowV w' L H E size v n cap := by
  rcases h with h | ⟨g, cs, h1, h2, h3, h4, h5, h6⟩
  · exact .inl h
  · obtain ⟨c, e, s⟩ := hs.blk h2 h3 h4
    exact .inr ⟨g, c, h1, h2, h3, e, h5, s.trans h6⟩
theorem RowV.alloc (h : RowV w L H E size v n cap) (hH : H ≤ w.heap.size) (o : Obj) : RowV (w.alloc o) L H E size v n cap := h.sp ((Sp.refl L H w).alloc hH o)
theorem SI.row (h : SI w L H v) : ∃ A n cap, v = .slice A n cap ∧ n ≤ 1000000 ∧ RowV w L H 3 1 (.slice A n cap) n cap := by
  rcases h with rfl | ⟨g, n, cap, cs, rfl, h2, h3⟩
  · exact ⟨_, _, _, rfl, by omega, .inl ⟨rfl, rfl, rfl⟩⟩
  · exact ⟨_, _, _, rfl, h2, .inr ⟨g, cs, rfl, h3⟩⟩
theorem SS.row (h : SS w L H v) : ∃ A n cap, v = .slice A n cap ∧ n ≤ 1000000 ∧ RowV w L H 72 2 (.slice A n cap) n cap := by
  rcases h with rfl | ⟨g, n, cap, cs, rfl, h2, h3⟩
  · exact ⟨_, _, _, rfl, by omega, .inl ⟨rfl, rfl, rfl⟩⟩
  · exact ⟨_, _, _, rfl, h2, .inr ⟨g, cs, rfl, h3⟩⟩
theorem ST.row (h : ST w L H v) : ∃ A n cap, v = .slice A n cap ∧ n ≤ 1000000 ∧ RowV w L H 25 1 (.slice A n cap) n cap := by
  rcases h with rfl | ⟨g, n, cap, cs, rfl, h2, h3, h4, h5, h6, h7, h8⟩
  · exact ⟨_, _, _, rfl, by omega, .inl ⟨rfl, rfl, rfl⟩⟩
  · exact ⟨_, _, _, rfl, h2, .inr ⟨g, cs, rfl, h3, h4, h5, h6, h7⟩⟩
theorem SR.row (h : SR w L H v) : ∃ A n cap, v = .slice A n cap ∧ n ≤ 1000000 ∧ RowV w L H 57 3 (.slice A n cap) n cap := by
  rcases h with rfl | ⟨g, n, cap, cs, rfl, h2, h3, h4, h5, h6, h7, h8⟩
  · exact ⟨_, _, _, rfl, by omega, .inl ⟨rfl, rfl, rfl⟩⟩
  · exact ⟨_, _, _, rfl, h2, .inr ⟨g, cs, rfl, h3, h4, h5, h6, h7⟩⟩
theorem ST.at_ {A : Option Addr} {k : Nat} (h : ST w L H (.slice A n cap)) (hk : k < n) : ∃ g u cs, A = some ⟨g, 0, none⟩ ∧ L ≤ g ∧ g < H ∧ Blk w g 25 cs ∧ w.cell? ⟨g, k, none⟩ = some u ∧ SI w L H u := by
  rcases h with h | ⟨g, n', cap', cs, h1, h2, h3, h4, h5, h6, h7, h8⟩
  · injection h with _ e _; omega
  · injection h1 with e1 e2 e3
    subst e1 e2 e3
    obtain ⟨u, hu, hs⟩ := h8 k hk
    exact ⟨g, u, cs, rfl, h3, h4, h5, (h5.cell k).trans hu, hs⟩
theorem SR.at_ {A : Option Addr} {k : Nat} (h : SR w L H (.slice A n cap)) (hk : k < n) : ∃ g u cs, A = some ⟨g, 0, none⟩ ∧ L ≤ g ∧ g < H ∧ Blk w g 57 cs ∧ k * 3 + 2 < cs.size ∧ w.cell? ⟨g, k * 3 + 2, none⟩ = some u ∧ ST w L H u := by
  rcases h with h | ⟨g, n', cap', cs, h1, h2, h3, h4, h5, h6, h7, h8⟩
  · injection h with _ e _; omega
  · injection h1 with e1 e2 e3
    subst e1 e2 e3
    obtain ⟨u, hu, hs⟩ := h8 k hk
    exact ⟨g, u, cs, rfl, h3, h4, h5, by omega, (h5.cell _).trans hu, hs⟩
theorem RowV.at_ {A : Option Addr} {k : Nat} (h : RowV w L H E size (.slice A n cap) n cap) (hk : k < n) : ∃ g cs, A = some ⟨g, 0, none⟩ ∧ L ≤ g ∧ g < H ∧ Blk w g E cs ∧ cs.size = cap * size ∧ n ≤ cap := by
  rcases h with ⟨-, h, -⟩ | ⟨g, cs, h1, h2, h3, h4, h5, h6⟩
  · omega
  · injection h1 with e1 _ _
    subst e1
    exact ⟨g, cs, rfl, h2, h3, h4, h6, h5⟩
end

set_option maxRecDepth 100000 in
set_option maxHeartbeats 400000 in
theorem spoilints_any (v : Value) (L H : Nat) (w : World) (h : SI w L H v) (hH : H ≤ w.heap.size) :
    Calls Tryz.prog 62 #[v] w fun e w' => e = .returned (.tuple #[]) ∧ Sp L H w w' := by
  obtain ⟨i0, hi, hz0, hz1, hz2⟩ := info_parts int_info
  obtain ⟨A, n, cap, rfl, hn, hv⟩ := h.row
  clear h
  go_enter Tryz.func62, Tryz.ntmps62
  go_wp2
  go_loopw [2] (fun i wr => ∃ k : Nat, k ≤ n ∧ i = .int .i64 k ∧ Sp L H w wr) (fun i _ => n - (intOf i).toNat)
  case atStart => exact ⟨0, Nat.zero_le _, rfl, Sp.refl _ _ _⟩
  case round =>
    obtain ⟨k, hk, rfl, hsp⟩ := hrel
    have hvr := hv.sp hsp
    by_cases hlt : k < n
    · obtain ⟨g, cs, rfl, hL, hg, hb, hs, hnc⟩ := hvr.at_ hlt
      obtain ⟨c, hc⟩ := hb.some_ k (by omega)
      have hf := hb.frozen k
      have Hsp := Lib.hid hsp; clear hsp
      have Hb := Lib.hid hb; clear hb
      clear hvr
      go_wp2
      exact ⟨⟨k + 1, by omega, by go_num, Hsp.out.set_ hH Hb.out (.inl ⟨hL, hg⟩) (fun _ e => absurd e (by decide)) (fun _ e => absurd e (by decide))⟩, by simp [intOf]; omega⟩
    · have hszr := hsp.size
      have Hsp := Lib.hid (hsp.alloc hH (.cells #[.int .i64 (-8)] 3)); clear hsp
      have Hv := Lib.hid (hvr.alloc (by omega) (.cells #[.int .i64 (-8)] 3)); clear hvr
      go_wp2_with (at_builtin
                   refine append_sp _ rfl _ _ 25 3 rfl i0 (.int .i64 0) 1 8 Tryz.underlying25 hi hz0 hz1 hz2 rfl (by decide) (by decide) hH Hsp.out _ n cap hn Hv.out rfl wr.heap.size 1 [.int .i64 (-8)] rfl rfl (fun j u hu => ((Blk.new wr 3 #[.int .i64 (-8)]).cell j).trans (by simpa using hu)) (by intro u hu; simp at hu; subst hu; rfl) (fun e => absurd e (by decide)) (fun e => absurd e (by decide)) ?_
                   intro g' cap' cs' w' hsp' hb' hs' hg'
                   obtain ⟨c9, hc9⟩ := hb'.some_ 0 (by omega)
                   have hf9 := hb'.frozen 0
                   have Hsp9 := Lib.hid hsp'; clear hsp'
                   have Hb9 := Lib.hid hb'; clear hb')
      go_end0
      exact ⟨rfl, Hsp9.out.set_ hH Hb9.out hg' (fun _ e => absurd e (by decide)) (fun _ e => absurd e (by decide))⟩

set_option maxRecDepth 100000 in
set_option maxHeartbeats 400000 in
theorem spoiltuples_any (v : Value) (L H : Nat) (w : World) (h : ST w L H v) (hH : H ≤ w.heap.size) :
    Calls Tryz.prog 46 #[v] w fun e w' => e = .returned (.tuple #[]) ∧ Sp L H w w' := by
  obtain ⟨i0, hi, hz0, hz1, hz2⟩ := info_parts tups_info
  obtain ⟨A, n, cap, rfl, hn, hv⟩ := h.row
  go_enter Tryz.func46, Tryz.ntmps46
  go_wp2
  go_loopw [2] (fun i wr => ∃ k : Nat, k ≤ n ∧ i = .int .i64 k ∧ Sp L H w wr) (fun i _ => n - (intOf i).toNat)
  case atStart => exact ⟨0, Nat.zero_le _, rfl, Sp.refl _ _ _⟩
  case round =>
    obtain ⟨k, hk, rfl, hsp⟩ := hrel
    have hszr := hsp.size
    by_cases hlt : k < n
    · obtain ⟨g, u, cs, rfl, hL, hg, hb, hc, hsu⟩ := (h.sp hsp).at_ hlt
      have hcall := spoilints_any u L H wr hsu (by omega)
      have Hcall := Lib.hid hcall; clear hcall
      have Hsp := Lib.hid hsp; clear hsp
      have Hb := Lib.hid hb; clear hb
      have hksz : k < cs.size := by
        have := Hb.out.cell k
        rw [hc] at this
        exact (Array.getElem?_eq_some_iff.1 this.symm).1
      clear hsu
      go_wp2_with (go_at_call 62
                   refine Hcall.out.mono ?_
                   rintro e w5 ⟨rfl, hsp5⟩
                   obtain ⟨cs5, hb5, hs5⟩ := hsp5.blk hL hg Hb.out
                   obtain ⟨c5, hc5⟩ := hb5.some_ k (by omega)
                   have hf5 := hb5.frozen k
                   have Hsp5 := Lib.hid (Hsp.out.trans hH hsp5); clear hsp5
                   have Hb5 := Lib.hid hb5; clear hb5)
      exact ⟨⟨k + 1, by omega, by go_num, Hsp5.out.set_ hH Hb5.out (.inl ⟨hL, hg⟩) (fun _ _ => rfl) (fun _ e => absurd e (by decide))⟩, by simp [intOf]; omega⟩
    · have hvr := hv.sp hsp
      have Hsp := Lib.hid (hsp.alloc hH (.cells #[.slice none 0 0] 25)); clear hsp
      have Hv := Lib.hid (hvr.alloc (by omega) (.cells #[.slice none 0 0] 25)); clear hvr
      go_wp2_with (at_builtin
                   refine append_sp _ rfl _ _ 55 25 rfl i0 (.slice none 0 0) 1 24 Tryz.underlying55 hi hz0 hz1 hz2 rfl (by decide) (by decide) hH Hsp.out _ n cap hn Hv.out rfl wr.heap.size 1 [.slice none 0 0] rfl rfl (fun j u hu => ((Blk.new wr 25 #[.slice none 0 0]).cell j).trans (by simpa using hu)) (by intro u hu; simp at hu; subst hu; rfl) (fun _ u hu => by simpa using hu) (fun e => absurd e (by decide)) ?_
                   intro g' cap' cs' w' hsp' hb' hs' hg'
                   obtain ⟨c9, hc9⟩ := hb'.some_ 0 (by omega)
                   have hf9 := hb'.frozen 0
                   have Hsp9 := Lib.hid hsp'; clear hsp'
                   have Hb9 := Lib.hid hb'; clear hb')
      go_end0
      exact ⟨rfl, Hsp9.out.set_ hH Hb9.out hg' (fun _ _ => rfl) (fun _ e => absurd e (by decide))⟩

set_option maxRecDepth 100000 in
set_option maxHeartbeats 400000 in
theorem spoilsyms_any (v : Value) (L H : Nat) (w : World) (h : SS w L H v) (hH : H ≤ w.heap.size) :
    Calls Tryz.prog 20 #[v] w fun e w' => e = .returned (.tuple #[]) ∧ Sp L H w w' := by
  obtain ⟨i0, hi, hz0, hz1, hz2⟩ := info_parts sym_info
  obtain ⟨A, n, cap, rfl, hn, hv⟩ := h.row
  clear h
  go_enter Tryz.func20, Tryz.ntmps20
  go_wp2
  go_loopw [2] (fun i wr => ∃ k : Nat, k ≤ n ∧ i = .int .i64 k ∧ Sp L H w wr) (fun i _ => n - (intOf i).toNat)
  case atStart => exact ⟨0, Nat.zero_le _, rfl, Sp.refl _ _ _⟩
  case round =>
    obtain ⟨k, hk, rfl, hsp⟩ := hrel
    have hvr := hv.sp hsp
    by_cases hlt : k < n
    · obtain ⟨g, cs, rfl, hL, hg, hb, hs, hnc⟩ := hvr.at_ hlt
      obtain ⟨c0, hc0⟩ := hb.some_ (k * 2) (by omega)
      obtain ⟨c1, hc1⟩ := hb.some_ (k * 2 + 1) (by omega)
      have hf0 := hb.frozen (k * 2)
      have hf1 := hb.frozen (k * 2 + 1)
      have hno : ∀ {o : Nat} {u : Value} {x y : TypeId}, (g < H → 72 = 25 → u = Value.slice none 0 0) ∧ (g < H → 72 = 57 → ∀ j : Nat, o = j * 3 + 2 → u = Value.slice none 0 0) := fun {_ _ _ _} => ⟨fun _ e => absurd e (by decide), fun _ e => absurd e (by decide)⟩
      have hsp9 := (hsp.set_ hH (o := k * 2) (u := .string ⟨#[115, 112, 111, 105, 108, 116]⟩) hb (.inl ⟨hL, hg⟩) (fun _ e => absurd e (by decide)) (fun _ e => absurd e (by decide))).set_ hH (o := k * 2 + 1) (u := .int .i64 (-7)) (hb.set_ _ _) (.inl ⟨hL, hg⟩) (fun _ e => absurd e (by decide)) (fun _ e => absurd e (by decide))
      have Hsp9 := Lib.hid hsp9; clear hsp9 hno
      clear hvr hsp hb
      go_wp2
      exact ⟨⟨k + 1, by omega, by go_num, Hsp9.out⟩, by simp [intOf]; omega⟩
    · have hszr := hsp.size
      have Hsp := Lib.hid (hsp.alloc hH (.cells #[.string ⟨#[]⟩, .int .i64 0] 72)); clear hsp
      have Hv := Lib.hid (hvr.alloc (by omega) (.cells #[.string ⟨#[]⟩, .int .i64 0] 72)); clear hvr
      go_wp2_with (at_builtin
                   refine append_sp _ rfl _ _ 38 72 rfl i0 _ 2 24 Tryz.underlying38 hi hz0 hz1 hz2 rfl (by decide) (by decide) hH Hsp.out _ n cap hn Hv.out rfl wr.heap.size 1 [.string ⟨#[]⟩, .int .i64 0] rfl rfl (fun j u hu => ((Blk.new wr 72 #[.string ⟨#[]⟩, .int .i64 0]).cell j).trans (by simpa using hu)) (by intro u hu; simp at hu; rcases hu with rfl | rfl <;> rfl) (fun e => absurd e (by decide)) (fun e => absurd e (by decide)) ?_
                   intro g' cap' cs' w' hsp' hb' hs' hg'
                   obtain ⟨c9, hc9⟩ := hb'.some_ 0 (by omega)
                   obtain ⟨c8, hc8⟩ := hb'.some_ 1 (by omega)
                   have hf9 := hb'.frozen 0
                   have hf8 := hb'.frozen 1
                   have Hsp9 := Lib.hid ((hsp'.set_ hH (o := 0) (u := .string ⟨#[115, 112, 111, 105, 108, 116]⟩) hb' hg' (fun _ e => absurd e (by decide)) (fun _ e => absurd e (by decide))).set_ hH (o := 1) (u := .int .i64 0) (hb'.set_ _ _) hg' (fun _ e => absurd e (by decide)) (fun _ e => absurd e (by decide))); clear hsp' hb')
      go_end0
      exact ⟨rfl, Hsp9.out⟩

set_option maxRecDepth 100000 in
set_option maxHeartbeats 400000 in
theorem spoil_any (size : Int) (v : Value) (L H : Nat) (w : World) (h : SR w L H v) (hH : H ≤ w.heap.size) :
    Calls Tryz.prog 21 #[.agg #[.int .i64 size, v]] w fun e w' => e = .returned (.tuple #[]) ∧ Sp L H w w' := by
  obtain ⟨i0, hi, hz0, hz1, hz2⟩ := info_parts rel_info
  obtain ⟨A, n, cap, rfl, hn, hv⟩ := h.row
  have hs0 := (Sp.refl L H w).alloc hH (.cells #[.int .i64 size, .slice A n cap] 24)
  have hbx := Blk.new w 24 #[.int .i64 size, .slice A n cap]
  have h' := h.sp hs0
  have hv' := hv.sp hs0
  have hH' : H ≤ (w.alloc (.cells #[.int .i64 size, .slice A n cap] 24)).heap.size := by simp; omega
  have Hs0 := Lib.hid hs0; clear hs0
  have hGH : H ≤ w.heap.size := hH
  go_enter Tryz.func21, Tryz.ntmps21
  go_wp2
  have hGs : w.heap.size < (w.alloc (.cells #[.int .i64 size, .slice A n cap] 24)).heap.size := hbx.lt
  generalize hGe : w.heap.size = G at *
  have HGe := Lib.hid hGe; clear hGe
  generalize hW : w.alloc (.cells #[.int .i64 size, .slice A n cap] 24) = W at *
  clear hW h hv
  have hbox : ∀ wr, Sp L H W wr → wr.cell? ⟨G, 1, none⟩ = some (.slice A n cap) := fun wr hs => by
    have e := hs.out G hGs (.inr hGH)
    have : Blk wr G 24 #[.int .i64 size, .slice A n cap] := e.trans hbx
    exact this.cell 1
  have Hbox := Lib.hid hbox; clear hbox hbx
  go_loopw [2] (fun i wr => ∃ k : Nat, k ≤ n ∧ i = .int .i64 k ∧ Sp L H W wr) (fun i _ => n - (intOf i).toNat)
  case atStart => exact ⟨0, Nat.zero_le _, rfl, Sp.refl _ _ _⟩
  case round =>
    obtain ⟨k, hk, rfl, hsp⟩ := hrel
    have hszr := hsp.size
    have hbx1 := Hbox.out wr hsp
    by_cases hlt : k < n
    · obtain ⟨g, u, cs, rfl, hL, hg, hb, hksz, hc, hsu⟩ := (h'.sp hsp).at_ hlt
      have hcall := spoiltuples_any u L H wr hsu (by omega)
      have Hcall := Lib.hid hcall; clear hcall
      have Hsp := Lib.hid hsp; clear hsp
      have Hb := Lib.hid hb; clear hb
      obtain ⟨UA, UN, UC, rfl, -, -⟩ := hsu.row
      clear hsu
      go_wp2_with (go_at_call 46
                   refine Hcall.out.mono ?_
                   rintro e w5 ⟨rfl, hsp5⟩
                   obtain ⟨cs5, hb5, hs5⟩ := hsp5.blk hL hg Hb.out
                   obtain ⟨c50, hc50⟩ := hb5.some_ (k * 3) (by omega)
                   obtain ⟨c51, hc51⟩ := hb5.some_ (k * 3 + 1) (by omega)
                   obtain ⟨c52, hc52⟩ := hb5.some_ (k * 3 + 2) (by omega)
                   have hf50 := hb5.frozen (k * 3)
                   have hf51 := hb5.frozen (k * 3 + 1)
                   have hf52 := hb5.frozen (k * 3 + 2)
                   have hsp6 := Hsp.out.trans hH' hsp5
                   have hbx5 := Hbox.out w5 hsp6
                   have Hsp6 := Lib.hid (((hsp6.set_ hH' (o := k * 3) (u := .string ⟨#[115, 112, 111, 105, 108, 116]⟩) hb5 (.inl ⟨hL, hg⟩) (fun _ e => absurd e (by decide)) (fun _ _ j hj => by omega)).set_ hH' (o := k * 3 + 1) (u := .int .i64 (-7)) (hb5.set_ _ _) (.inl ⟨hL, hg⟩) (fun _ e => absurd e (by decide)) (fun _ _ j hj => by omega)).set_ hH' (o := k * 3 + 2) (u := .slice none 0 0) ((hb5.set_ _ _).set_ _ _) (.inl ⟨hL, hg⟩) (fun _ e => absurd e (by decide)) (fun _ _ j hj => rfl))
                   clear hsp5 hsp6 hb5)
      exact ⟨⟨k + 1, by omega, by go_num, Hsp6.out⟩, by simp [intOf]; omega⟩
    · have hvr := hv'.sp hsp
      have Hsp := Lib.hid (hsp.alloc hH' (.cells #[.string ⟨#[]⟩, .int .i64 0, .slice none 0 0] 57)); clear hsp
      have Hv := Lib.hid (hvr.alloc (by omega) (.cells #[.string ⟨#[]⟩, .int .i64 0, .slice none 0 0] 57)); clear hvr
      go_wp2_with (at_builtin
                   refine append_sp _ rfl _ _ 22 57 rfl i0 _ 3 48 Tryz.underlying22 hi hz0 hz1 hz2 rfl (by decide) (by decide) hH' Hsp.out _ n cap hn Hv.out rfl wr.heap.size 1 [.string ⟨#[]⟩, .int .i64 0, .slice none 0 0] rfl rfl (fun j u hu => ((Blk.new wr 57 #[.string ⟨#[]⟩, .int .i64 0, .slice none 0 0]).cell j).trans (by simpa using hu)) (by intro u hu; simp at hu; rcases hu with rfl | rfl | rfl <;> rfl) (fun e => absurd e (by decide)) (fun _ i u hu j hj => by
                     have hi3 : i < 3 := (List.getElem?_eq_some_iff.1 hu).1
                     obtain rfl : i = 2 := by omega
                     simpa using hu.symm) ?_
                   intro g' cap' cs' w' hsp' hb' hs' hg'
                   obtain ⟨c9, hc9⟩ := hb'.some_ 0 (by omega)
                   obtain ⟨c8, hc8⟩ := hb'.some_ 1 (by omega)
                   obtain ⟨c7, hc7⟩ := hb'.some_ 2 (by omega)
                   have hf9 := hb'.frozen 0
                   have hf8 := hb'.frozen 1
                   have hf7 := hb'.frozen 2
                   have Hsp9 := Lib.hid (((hsp'.set_ hH' (o := 0) (u := .string ⟨#[115, 112, 111, 105, 108, 116]⟩) hb' hg' (fun _ e => absurd e (by decide)) (fun _ _ j hj => by omega)).set_ hH' (o := 1) (u := .int .i64 0) (hb'.set_ _ _) hg' (fun _ e => absurd e (by decide)) (fun _ _ j hj => by omega)).set_ hH' (o := 2) (u := .slice none 0 0) ((hb'.set_ _ _).set_ _ _) hg' (fun _ e => absurd e (by decide)) (fun _ _ j hj => rfl)); clear hsp' hb')
      go_end0
      exact ⟨rfl, Hs0.out.trans (by rw [HGe.out]; exact hGH) Hsp9.out⟩

end Go.Proofs.YtelememdhpncgaaGreatDoor

/-
  Plain mathematics: Rank keeps the order of tuples, and Tuple undoes it.
-/
namespace Go.Proofs.YtelememdhpncgaaGreatDoor.Sh

theorem rank_from (n : Int) : ∀ (t : List Int) (r : Int), t.foldl (fun r x => r * n + x) r = r * n ^ t.length + rankI n t
  | [], r => by simp [rankI]
  | x :: t, r => by
    have h1 := rank_from n t (r * n + x)
    have h2 := rank_from n t (0 * n + x)
    unfold rankI
    rw [List.foldl_cons, List.foldl_cons, h1, h2, List.length_cons, Int.pow_succ]
    rw [Int.add_mul, Int.mul_assoc, Int.mul_comm n]
    rw [Int.zero_mul, Int.zero_add, Int.add_assoc]
theorem rank_cons (n x : Int) (t : List Int) : rankI n (x :: t) = x * n ^ t.length + rankI n t := by
  have h := rank_from n t (0 * n + x)
  rw [Int.zero_mul, Int.zero_add] at h
  unfold rankI
  rw [List.foldl_cons, Int.zero_mul, Int.zero_add, h]
  rfl
theorem rank_full (n : Nat) (t : List Int) (hi : inB n t = true) : 0 ≤ rankI n t ∧ rankI n t < (n : Int) ^ t.length := by
  have h := rank_bd n t hi t.length
  rw [List.take_length, Nat.min_self] at h
  push_cast at h
  exact h

theorem rank_order (n : Nat) : ∀ (a b : List Int), a.length = b.length → inB n a = true → inB n b = true → (lessB a b = true → rankI n a < rankI n b) ∧ (lessB b a = true → rankI n b < rankI n a) ∧ (lessB a b = false → lessB b a = false → a = b)
  | [], [], _, _, _ => by simp [lessB]
  | [], _ :: _, h, _, _ => by simp at h
  | _ :: _, [], h, _, _ => by simp at h
  | x :: xs, y :: ys, h, ha, hb => by
    have hl : xs.length = ys.length := by simpa using h
    have ha' : inB n xs = true := by unfold inB at ha ⊢; simp at ha ⊢; exact ha.2
    have hb' : inB n ys = true := by unfold inB at hb ⊢; simp at hb ⊢; exact hb.2
    obtain ⟨i1, i2, i3⟩ := rank_order n xs ys hl ha' hb'
    have h1 := rank_full n xs ha'
    have h2 := rank_full n ys hb'
    rw [rank_cons, rank_cons, hl]
    rw [hl] at h1
    generalize hP : (n : Int) ^ ys.length = P at *
    have hP0 : 0 ≤ P := by omega
    unfold lessB
    by_cases hxy : x = y
    · subst hxy
      rw [if_pos rfl, if_pos rfl]
      exact ⟨fun hh => by have := i1 hh; omega, fun hh => by have := i2 hh; omega, fun p q => by rw [i3 p q]⟩
    · rw [if_neg hxy, if_neg (fun e => hxy e.symm)]
      refine ⟨fun hh => ?_, fun hh => ?_, fun p q => ?_⟩
      · have hlt : x < y := of_decide_eq_true hh
        have : (x + 1) * P ≤ y * P := Int.mul_le_mul_of_nonneg_right (by omega) hP0
        rw [Int.add_mul] at this
        omega
      · have hlt : y < x := of_decide_eq_true hh
        have : (y + 1) * P ≤ x * P := Int.mul_le_mul_of_nonneg_right (by omega) hP0
        rw [Int.add_mul] at this
        omega
      · have := of_decide_eq_false p
        have := of_decide_eq_false q
        omega

theorem less_rank {n : Nat} {a b : List Int} (hl : a.length = b.length) (ha : inB n a = true) (hb : inB n b = true) : decide (rankI n a < rankI n b) = lessB a b := by
  obtain ⟨h1, h2, h3⟩ := rank_order n a b hl ha hb
  cases hab : lessB a b
  · cases hba : lessB b a
    · rw [h3 hab hba]; simp
    · have := h2 hba; exact decide_eq_false (by omega)
  · exact decide_eq_true (h1 hab)
theorem eq_rank {n : Nat} {a b : List Int} (hl : a.length = b.length) (ha : inB n a = true) (hb : inB n b = true) : decide (rankI n a = rankI n b) = eqB a b := by
  obtain ⟨h1, h2, h3⟩ := rank_order n a b hl ha hb
  by_cases he : a = b
  · subst he; rw [(eqB_iff a a).2 rfl]; simp
  · have hf : eqB a b = false := by rw [Bool.eq_false_iff]; intro h; exact he ((eqB_iff a b).1 h)
    rw [hf]
    refine decide_eq_false fun hr => ?_
    cases hab : lessB a b
    · cases hba : lessB b a
      · exact he (h3 hab hba)
      · have := h2 hba; omega
    · have := h1 hab; omega

theorem tup_rank (n : Nat) : ∀ (k : Nat) (t : List Int), t.length = k → inB n t = true → tupN n k (rankI n t).toNat = t
  | 0, t, h, _ => by rw [List.eq_nil_of_length_eq_zero h]; rfl
  | k + 1, t, h, hi => by
    have hne : t ≠ [] := by rintro rfl; simp at h
    have ht : t = t.take k ++ [t.getD k 0] := by
      conv => lhs; rw [← List.take_append_drop k t]
      congr 1
      rw [List.drop_eq_getElem_cons (by omega), List.drop_of_length_le (by omega)]
      simp [List.getD_eq_getElem?_getD, List.getElem?_eq_getElem (show k < t.length by omega)]
    have hx := inB_getD hi (show k < t.length by omega)
    have hin : inB n (t.take k) = true := by
      unfold inB at hi ⊢
      rw [List.all_eq_true] at hi ⊢
      exact fun x hxm => hi x (List.mem_of_mem_take hxm)
    have hr := rank_take_succ n t k (by omega)
    rw [List.take_of_length_le (by omega)] at hr
    have hb := rank_full n (t.take k) hin
    have ih := tup_rank n k (t.take k) (by simp; omega) hin
    obtain ⟨q, hq⟩ := Int.eq_ofNat_of_zero_le hb.1
    obtain ⟨y, hy⟩ := Int.eq_ofNat_of_zero_le hx.1
    rw [hq] at hr ih
    have hyn : y < n := by omega
    have he : (rankI n t).toNat = q * n + y := by
      rw [hr, hy]
      have : (q : Int) * n + y = ((q * n + y : Nat) : Int) := by push_cast; rfl
      rw [this]; rfl
    unfold tupN
    rw [he]
    have hd : (q * n + y) / n = q := by
      rw [Nat.mul_comm, Nat.mul_add_div (by omega), Nat.div_eq_of_lt hyn, Nat.add_zero]
    have hm : (q * n + y) % n = y := by
      rw [Nat.mul_comm, Nat.mul_add_mod, Nat.mod_eq_of_lt hyn]
    rw [hd, hm]
    have : tupN n k q = t.take k := by simpa using ih
    rw [this]
    conv => rhs; rw [ht, hy]

/-- The three answers, at a power that fits. -/
theorem fits {n k : Nat} (h1 : 1 ≤ n) (h2 : n ≤ 64) (h3 : k ≤ 12) (h : powR n k ≤ 4096) : n ^ k ≤ 4096 := by
  rcases Nat.lt_or_ge 4096 (n ^ k) with hh | hh
  · have := (powR_eq n k h1).2 hh; omega
  · exact hh
theorem rankE_ok {n : Nat} {t : List Int} (h1 : 1 ≤ n) (h2 : n ≤ 64) (h3 : t.length ≤ 12) (h : powR n t.length ≤ 4096) (hi : inB n t = true) : rankE n t = (rankI n t, 0) := by
  unfold rankE
  rw [powE_ok h1 h2 h3 (fits h1 h2 h3 h), if_neg (by simp), if_neg (by rw [hi]; simp)]
theorem tupE_ok {n : Nat} {t : List Int} (h1 : 1 ≤ n) (h2 : n ≤ 64) (h3 : t.length ≤ 12) (h : powR n t.length ≤ 4096) (hi : inB n t = true) : tupE n t.length (rankI n t) = (t, 0) := by
  have hf := fits h1 h2 h3 h
  have hb := rank_full n t hi
  unfold tupE
  rw [powE_ok h1 h2 h3 hf, if_neg (by simp), if_neg (by push_cast; omega)]
  rw [show ((n : Int)).toNat = n by simp, show ((t.length : Int)).toNat = t.length by simp, tup_rank n _ t rfl hi]

end Go.Proofs.YtelememdhpncgaaGreatDoor.Sh
