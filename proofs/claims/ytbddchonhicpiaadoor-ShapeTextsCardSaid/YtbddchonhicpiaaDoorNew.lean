/-
  Words for memory that the call itself makes: a slice, tuples, relations in blocks from L on.
-/
import Derived.Test.YtbddchonhicpiaaDoorRep
namespace Go.Proofs.YtbddchonhicpiaaDoor
open Go.RowKit

/-- From block L on, as far as there were blocks, w' is as w was, but for block R; the streams are as they were. -/
structure But (L R : Nat) (w w' : World) : Prop where
  os : w'.os = w.os
  tape : w'.tape = w.tape
  output : w'.output = w.output
  size : w.heap.size ≤ w'.heap.size
  block : ∀ k, k < L → k ≠ R → w'.heap[k]? = w.heap[k]?
theorem But.refl (L R : Nat) (w : World) : But L R w w := ⟨rfl, rfl, rfl, Nat.le_refl _, fun _ _ _ => rfl⟩
theorem But.trans {L R : Nat} {a b c : World} (h : But L R a b) (k : But L R b c) : But L R a c :=
  ⟨k.os.trans h.os, k.tape.trans h.tape, k.output.trans h.output, Nat.le_trans h.size k.size, fun i hi hr => (k.block i hi hr).trans (h.block i hi hr)⟩
theorem But.of_grown {L R : Nat} {w w' : World} (h : w.grownBy w' (some R)) (hL : L ≤ w.heap.size) : But L R w w' :=
  ⟨h.os, h.tape, h.output, h.size, fun k hk hr => h.block k (by omega) (fun e => hr (by injection e))⟩
theorem But.grown {R : Nat} {w w' : World} (h : But w.heap.size R w w') : w.grownBy w' (some R) :=
  ⟨h.os, h.tape, h.output, h.size, fun k hk hr => h.block k hk (fun e => hr (by rw [e]))⟩
theorem But.row {L R : Nat} {w w' : World} {row : Option Nat} (h : w.grownBy w' row) (hL : L ≤ w.heap.size) (hr : ∀ g, row = some g → L ≤ g) : But L R w w' :=
  ⟨h.os, h.tape, h.output, h.size, fun k hk _ => h.block k (by omega) (fun e => by have := hr k e.symm; omega)⟩
theorem But.alloc {L R : Nat} {w : World} (hL : L ≤ w.heap.size) (o : Obj) : But L R w (w.alloc o) := But.row (World.grownBy_alloc w o none) hL (by simp)
theorem But.mono {L L' R : Nat} {w w' : World} (h : But L R w w') (hL : L' ≤ L) : But L' R w w' := ⟨h.os, h.tape, h.output, h.size, fun k hk hr => h.block k (by omega) hr⟩
theorem But.setR {L R : Nat} {w : World} (o : Nat) (u : Value) : But L R w (w.setCell ⟨R, o, none⟩ u) :=
  ⟨rfl, rfl, rfl, by simp [World.setCell], fun k _ hr => Below.heap_setCell _ _ _ _ hr⟩
theorem But.setL {L R : Nat} {w : World} {p : Addr} (hp : L ≤ p.block) (u : Value) : But L R w (w.setCell p u) :=
  ⟨rfl, rfl, rfl, by simp [World.setCell], fun k hk _ => Below.heap_setCell _ _ _ _ (by omega)⟩
theorem But.drewN {L R : Nat} {w : World} (n : Nat) : But L R w (w.drewN n) := ⟨rfl, rfl, rfl, Nat.le_refl _, fun _ _ _ => rfl⟩
theorem But.below {L R : Nat} {w w' : World} (h : But L R w w') (hL : L ≤ R) : Below L w w' := ⟨h.os, h.tape, h.output, h.size, fun k hk => h.block k hk (by omega)⟩

/-- w' keeps the rows of these types from block L on. -/
def Keeps (L : Nat) (ts : List TypeId) (w w' : World) : Prop :=
  w.heap.size ≤ w'.heap.size ∧ ∀ (b : Nat) (cs : Array Value) (t : TypeId), L ≤ b → t ∈ ts → w.heap[b]? = some (.cells cs t (0, 0)) → w'.heap[b]? = w.heap[b]?
theorem heap_lt {w : World} {b : Nat} {o : Obj} (h : w.heap[b]? = some o) : b < w.heap.size := (Array.getElem?_eq_some_iff.1 h).1
theorem Keeps.of_grown {L R : Nat} {ts : List TypeId} {w w' : World} (h : w.grownBy w' (some R)) (hR : R < L) : Keeps L ts w w' :=
  ⟨h.size, fun b cs t hb _ hh => h.block b (heap_lt hh) (fun e => by injection e with e; omega)⟩
theorem Keeps.of_below {L : Nat} {ts : List TypeId} {w w' : World} (h : Below w.heap.size w w') : Keeps L ts w w' := ⟨h.size, fun b cs t _ _ hh => h.block b (heap_lt hh)⟩
theorem Keeps.alloc (L : Nat) (ts : List TypeId) (w : World) (o : Obj) : Keeps L ts w (w.alloc o) := ⟨by simp, fun b cs t _ _ hh => Below.heap_alloc w o b (heap_lt hh)⟩
theorem Keeps.drewN (L : Nat) (ts : List TypeId) (w : World) (n : Nat) : Keeps L ts w (w.drewN n) := ⟨Nat.le_refl _, fun _ _ _ _ _ _ => rfl⟩
theorem Keeps.refl (L : Nat) (ts : List TypeId) (w : World) : Keeps L ts w w := ⟨Nat.le_refl _, fun _ _ _ _ _ _ => rfl⟩
theorem Keeps.trans {L : Nat} {ts : List TypeId} {a b c : World} (h : Keeps L ts a b) (k : Keeps L ts b c) : Keeps L ts a c :=
  ⟨Nat.le_trans h.1 k.1, fun i cs t hi ht hh => by
    have e := h.2 i cs t hi ht hh
    exact (k.2 i cs t hi ht (e.trans hh)).trans e⟩
theorem Keeps.mono {L : Nat} {ts us : List TypeId} {w w' : World} (h : Keeps L ts w w') (hs : ∀ t, t ∈ us → t ∈ ts) : Keeps L us w w' := ⟨h.1, fun b cs t hb ht hh => h.2 b cs t hb (hs t ht) hh⟩
theorem Keeps.more {L L' : Nat} {ts : List TypeId} {w w' : World} (h : Keeps L ts w w') (hL : L ≤ L') : Keeps L' ts w w' := ⟨h.1, fun b cs t hb ht hh => h.2 b cs t (by omega) ht hh⟩
/-- Only a row of another type has been written. -/
theorem Keeps.row {L : Nat} {ts : List TypeId} {w w' : World} {row : Option Nat} (h : w.grownBy w' row) (hr : ∀ g, row = some g → ∃ cs t f, w.heap[g]? = some (.cells cs t f) ∧ t ∉ ts) : Keeps L ts w w' :=
  ⟨h.size, fun b cs t _ ht hh => h.block b (heap_lt hh) (fun e => by
    obtain ⟨cs', t', f', h1, h2⟩ := hr b e.symm
    rw [hh] at h1
    injection h1 with h1
    injection h1 with _ h1
    exact h2 (h1 ▸ ht))⟩
theorem Keeps.own {L base : Nat} {ts : List TypeId} {w w' : World} {e : TypeId} {size n : Nat} {v : Value} {xs : List Value} (h : w.grownBy w' v.ownBlock) (ho : w.ownsRow base e size v n xs) (he : e ∉ ts) : Keeps L ts w w' :=
  Keeps.row h fun g hg => by
    rcases ho.2 with ⟨rfl, _⟩ | ⟨g', cap, cur, rfl, _, hh, _⟩
    · cases hg
    · injection hg with hg
      subst hg
      exact ⟨cur, e, _, hh, he⟩
theorem Keeps.setCell {L : Nat} {ts : List TypeId} {w : World} {p : Addr} {cs : Array Value} {t : TypeId} {f : Nat × Nat} (hp : w.heap[p.block]? = some (.cells cs t f)) (ht : t ∉ ts) (u : Value) : Keeps L ts w (w.setCell p u) :=
  ⟨by simp [World.setCell], fun b cs' t' _ ht' hh => Below.heap_setCell w p u b (fun e => by
    subst e
    rw [hh] at hp
    injection hp with hp
    injection hp with _ hp
    exact ht (hp ▸ ht'))⟩

def NInts (w : World) (L : Nat) (v : Value) (t : List Int) : Prop :=
  ∃ A n c, v = .slice A n c ∧ n = t.length ∧ n ≤ 140737488351232 ∧
    (0 < n → ∃ ad cs, A = some ad ∧ L ≤ ad.block ∧ w.heap[ad.block]? = some (.cells cs 3 (0, 0)) ∧ ∀ (j : Nat) (x : Int), t[j]? = some x → w.cell? (ad.add j) = some (Value.int .i64 x))
def NTups (w : World) (L : Nat) (v : Value) (ts : List (List Int)) : Prop :=
  ∃ A n c, v = .slice A n c ∧ n = ts.length ∧ n ≤ 140737488351232 ∧
    (0 < n → ∃ ad cs, A = some ad ∧ L ≤ ad.block ∧ w.heap[ad.block]? = some (.cells cs 35 (0, 0)) ∧ ∀ (j : Nat) (t : List Int), ts[j]? = some t → ∃ u, w.cell? (ad.add j) = some u ∧ NInts w L u t)
def NRels (w : World) (L : Nat) (v : Value) (rs : List Sh.Rel) : Prop :=
  ∃ A n c, v = .slice A n c ∧ n = rs.length ∧ n ≤ 140737488351232 ∧
    (0 < n → ∃ ad cs, A = some ad ∧ L ≤ ad.block ∧ w.heap[ad.block]? = some (.cells cs 51 (0, 0)) ∧ ∀ (j : Nat) (r : Sh.Rel), rs[j]? = some r → ∃ u, w.cell? (ad.add (j * 3)) = some (.string r.name) ∧
      w.cell? (ad.add (j * 3 + 1)) = some (.int .i64 r.arity) ∧ w.cell? (ad.add (j * 3 + 2)) = some u ∧ NTups w L u r.tuples ∧ r.name.size ≤ 140737488351232)

section
variable {w w' : World} {L L' : Nat} {v : Value}
theorem NInts.keep {t : List Int} (h : NInts w L v t) (hk : Keeps L [3] w w') : NInts w' L v t := by
  obtain ⟨A, n, c, h1, h2, h3, h4⟩ := h
  refine ⟨A, n, c, h1, h2, h3, fun hn => ?_⟩
  obtain ⟨ad, cs, e, hl, hb, hc⟩ := h4 hn
  have hs := hk.2 _ _ _ hl (by simp) hb
  exact ⟨ad, cs, e, hl, hs.trans hb, fun j x hx => (World.cell?_of_block (by rw [block_of_add]; exact hs)).trans (hc j x hx)⟩
theorem NTups.keep {ts : List (List Int)} (h : NTups w L v ts) (hk : Keeps L [3, 35] w w') : NTups w' L v ts := by
  obtain ⟨A, n, c, h1, h2, h3, h4⟩ := h
  refine ⟨A, n, c, h1, h2, h3, fun hn => ?_⟩
  obtain ⟨ad, cs, e, hl, hb, hc⟩ := h4 hn
  have hs := hk.2 _ _ _ hl (by simp) hb
  refine ⟨ad, cs, e, hl, hs.trans hb, fun j t ht => ?_⟩
  obtain ⟨u, hu, hi⟩ := hc j t ht
  exact ⟨u, (World.cell?_of_block (by rw [block_of_add]; exact hs)).trans hu, hi.keep (hk.mono (by simp))⟩
theorem NRels.keep {rs : List Sh.Rel} (h : NRels w L v rs) (hk : Keeps L [3, 35, 51] w w') : NRels w' L v rs := by
  obtain ⟨A, n, c, h1, h2, h3, h4⟩ := h
  refine ⟨A, n, c, h1, h2, h3, fun hn => ?_⟩
  obtain ⟨ad, cs, e, hl, hb, hc⟩ := h4 hn
  have hs := hk.2 _ _ _ hl (by simp) hb
  refine ⟨ad, cs, e, hl, hs.trans hb, fun j r hr => ?_⟩
  obtain ⟨u, g0, g1, g2, hi, hz⟩ := hc j r hr
  have hkc : ∀ i, w'.cell? (ad.add i) = w.cell? (ad.add i) := fun i => World.cell?_of_block (by rw [block_of_add]; exact hs)
  exact ⟨u, (hkc _).trans g0, (hkc _).trans g1, (hkc _).trans g2, hi.keep (hk.mono (by simp)), hz⟩
theorem NInts.ints {t : List Int} (h : NInts w L v t) : Ints w w.heap.size v t := by
  obtain ⟨A, n, c, h1, h2, h3, h4⟩ := h
  refine ⟨A, n, c, h1, h2, h3, by simp [h2], fun hn => ?_⟩
  obtain ⟨ad, cs, e, hl, hb, hc⟩ := h4 hn
  refine ⟨ad, e, heap_lt hb, fun j u hu => ?_⟩
  rw [List.getElem?_map] at hu
  cases hx : t[j]? with
  | none => rw [hx] at hu; cases hu
  | some x => rw [hx] at hu; exact (hc j x hx).trans hu
theorem NTups.tups {ts : List (List Int)} (h : NTups w L v ts) : Tups w w.heap.size v ts := by
  obtain ⟨A, n, c, h1, h2, h3, h4⟩ := h
  refine ⟨A, n, c, h1, h2, h3, fun hn => ?_⟩
  obtain ⟨ad, cs, e, hl, hb, hc⟩ := h4 hn
  refine ⟨ad, e, heap_lt hb, fun j t ht => ?_⟩
  obtain ⟨u, hu, hi⟩ := hc j t ht
  exact ⟨u, hu, hi.ints⟩
theorem NRels.rels {rs : List Sh.Rel} (h : NRels w L v rs) : Rels w w.heap.size v rs := by
  obtain ⟨A, n, c, h1, h2, h3, h4⟩ := h
  refine ⟨A, n, c, h1, h2, h3, fun hn => ?_⟩
  obtain ⟨ad, cs, e, hl, hb, hc⟩ := h4 hn
  refine ⟨ad, e, heap_lt hb, fun j r hr => ?_⟩
  obtain ⟨u, g0, g1, g2, hi, hz⟩ := hc j r hr
  exact ⟨u, g0, g1, g2, hi.tups, hz⟩
theorem NInts.more {t : List Int} (h : NInts w L v t) (hL : L' ≤ L) : NInts w L' v t := by
  obtain ⟨A, n, c, h1, h2, h3, h4⟩ := h
  refine ⟨A, n, c, h1, h2, h3, fun hn => ?_⟩
  obtain ⟨ad, cs, e, hl, hb, hc⟩ := h4 hn
  exact ⟨ad, cs, e, by omega, hb, hc⟩
theorem NTups.more {ts : List (List Int)} (h : NTups w L v ts) (hL : L' ≤ L) : NTups w L' v ts := by
  obtain ⟨A, n, c, h1, h2, h3, h4⟩ := h
  refine ⟨A, n, c, h1, h2, h3, fun hn => ?_⟩
  obtain ⟨ad, cs, e, hl, hb, hc⟩ := h4 hn
  refine ⟨ad, cs, e, by omega, hb, fun j t ht => ?_⟩
  obtain ⟨u, hu, hi⟩ := hc j t ht
  exact ⟨u, hu, hi.more hL⟩
theorem NRels.more {rs : List Sh.Rel} (h : NRels w L v rs) (hL : L' ≤ L) : NRels w L' v rs := by
  obtain ⟨A, n, c, h1, h2, h3, h4⟩ := h
  refine ⟨A, n, c, h1, h2, h3, fun hn => ?_⟩
  obtain ⟨ad, cs, e, hl, hb, hc⟩ := h4 hn
  refine ⟨ad, cs, e, by omega, hb, fun j r hr => ?_⟩
  obtain ⟨u, g0, g1, g2, hi, hz⟩ := hc j r hr
  exact ⟨u, g0, g1, g2, hi.more hL, hz⟩
theorem NInts.nil (w : World) (L : Nat) : NInts w L (.slice none 0 0) [] := ⟨_, _, _, rfl, rfl, by omega, fun h => absurd h (by omega)⟩
theorem NTups.nil (w : World) (L : Nat) : NTups w L (.slice none 0 0) [] := ⟨_, _, _, rfl, rfl, by omega, fun h => absurd h (by omega)⟩
theorem NRels.nil (w : World) (L : Nat) : NRels w L (.slice none 0 0) [] := ⟨_, _, _, rfl, rfl, by omega, fun h => absurd h (by omega)⟩

theorem own_slice {base : Nat} {e : TypeId} {size n : Nat} {xs : List Value} (h : w.ownsRow base e size v n xs) : ∃ A c, v = .slice A n c := by
  rcases h.2 with ⟨rfl, rfl⟩ | ⟨g, cap, cur, rfl, _⟩
  · exact ⟨_, _, rfl⟩
  · exact ⟨_, _, rfl⟩
theorem own_at {base : Nat} {e : TypeId} {size n : Nat} {xs : List Value} {A : Option Addr} {c : Nat} (h : w.ownsRow base e size (.slice A n c) n xs) (hn : 0 < n) :
    ∃ ad cs, A = some ad ∧ base ≤ ad.block ∧ w.heap[ad.block]? = some (.cells cs e (0, 0)) ∧ ∀ (j : Nat) (u : Value), xs[j]? = some u → w.cell? (ad.add j) = some u := by
  rcases h.2 with ⟨h0, hz⟩ | ⟨g, cap, cur, hv, hbg, hh, _⟩
  · omega
  · injection hv with e1 e2 e3
    subst e1
    exact ⟨_, cur, rfl, hbg, hh, h.cells (g := g) rfl⟩
theorem NInts.own {base : Nat} {n : Nat} {t : List Int} (h : w.ownsRow base 3 1 v n (t.map (Value.int .i64))) (hL : L ≤ base) (hn : n ≤ 140737488351232) : NInts w L v t := by
  obtain ⟨A, c, rfl⟩ := own_slice h
  have hl := h.1
  rw [List.length_map, Nat.mul_one] at hl
  refine ⟨A, n, c, rfl, hl.symm, hn, fun h0 => ?_⟩
  obtain ⟨ad, cs, rfl, h1, h2, h3⟩ := own_at h h0
  exact ⟨ad, cs, rfl, by omega, h2, fun j x hx => h3 j _ (by rw [List.getElem?_map, hx]; rfl)⟩
theorem own_grown {base R : Nat} {e : TypeId} {size n : Nat} {xs : List Value} (h : w.ownsRow base e size v n xs) (hg : w.grownBy w' (some R)) (hR : R < base) : w'.ownsRow base e size v n xs := by
  refine h.kept hg ?_
  cases ho : v.ownBlock with
  | none => exact .inl rfl
  | some g => exact .inr (fun e => by injection e with e; have := (h.lt g ho).1; omega)
/-- A row of slice values, each a tuple of the call's own. -/
theorem NTups.own {base : Nat} {n : Nat} {us : List Value} {ts : List (List Int)} (h : w.ownsRow base 35 1 v n us) (hL : L ≤ base) (hn : n ≤ 140737488351232) (hlen : us.length = ts.length)
    (hu : ∀ (j : Nat) (u : Value) (t : List Int), us[j]? = some u → ts[j]? = some t → NInts w L u t) : NTups w L v ts := by
  obtain ⟨A, c, rfl⟩ := own_slice h
  have hl := h.1
  rw [Nat.mul_one] at hl
  refine ⟨A, n, c, rfl, by omega, hn, fun h0 => ?_⟩
  obtain ⟨ad, cs, rfl, h1, h2, h3⟩ := own_at h h0
  refine ⟨ad, cs, rfl, by omega, h2, fun j t ht => ?_⟩
  have hj : j < us.length := by have := (List.getElem?_eq_some_iff.1 ht).1; omega
  exact ⟨us[j], h3 j _ (List.getElem?_eq_getElem hj), hu j _ t (List.getElem?_eq_getElem hj) ht⟩
end

end Go.Proofs.YtbddchonhicpiaaDoor
