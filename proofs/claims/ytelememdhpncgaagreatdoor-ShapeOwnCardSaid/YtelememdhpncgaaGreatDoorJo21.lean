/-
  Texts joined: Sownd.
-/
import Derived.Test.YtelememdhpncgaaGreatDoorJo20

/-
  ShapeOwn: what the four results are, and that they stay while others are spoilt.
-/
namespace Go.Proofs.YtelememdhpncgaaGreatDoor
open Go.RowKit

section
variable {L H : Nat} {w w' : World} {v : Value}
theorem blk_keeps {g : Nat} {e : TypeId} {cs : Array Value} {ts : List TypeId} (h : Blk w g e cs) (hk : Keeps L ts w w') (hL : L ≤ g) (he : e ∈ ts) : Blk w' g e cs := (hk.2 g cs e hL he h).trans h
theorem SI.keeps (h : SI w L H v) (hk : Keeps L [3] w w') : SI w' L H v := by
  rcases h with h | ⟨g, n, cap, cs, h1, h2, h3, h4, h5, h6, h7⟩
  · exact .inl h
  · exact .inr ⟨g, n, cap, cs, h1, h2, h3, h4, blk_keeps h5 hk h3 (by simp), h6, h7⟩
theorem ST.keeps (h : ST w L H v) (hk : Keeps L [3, 25] w w') : ST w' L H v := by
  rcases h with h | ⟨g, n, cap, cs, h1, h2, h3, h4, h5, h6, h7, h8⟩
  · exact .inl h
  · refine .inr ⟨g, n, cap, cs, h1, h2, h3, h4, blk_keeps h5 hk h3 (by simp), h6, h7, fun j hj => ?_⟩
    obtain ⟨u, hu, hs⟩ := h8 j hj
    exact ⟨u, hu, hs.keeps (hk.mono (by simp))⟩
theorem SR.keeps (h : SR w L H v) (hk : Keeps L [3, 25, 57] w w') : SR w' L H v := by
  rcases h with h | ⟨g, n, cap, cs, h1, h2, h3, h4, h5, h6, h7, h8⟩
  · exact .inl h
  · refine .inr ⟨g, n, cap, cs, h1, h2, h3, h4, blk_keeps h5 hk h3 (by simp), h6, h7, fun j hj => ?_⟩
    obtain ⟨u, hu, hs⟩ := h8 j hj
    exact ⟨u, hu, hs.keeps (hk.mono (by simp))⟩
/-- A result: it reads as r says, and lies between the blocks L and H. -/
def Res (w : World) (L H : Nat) (x : Value) (r : Int × List Sh.Rel) : Prop := NRels w L x r.2 ∧ SR w L H x ∧ Sh.Tiny r.2
theorem Res.keeps {x : Value} {r : Int × List Sh.Rel} (h : Res w L H x r) (hk : Keeps L [3, 25, 57] w w') : Res w' L H x r := ⟨h.1.keep hk, h.2.1.keeps hk, h.2.2⟩
theorem Res.below {x : Value} {r : Int × List Sh.Rel} (h : Res w L H x r) (hb : Below w.heap.size w w') : Res w' L H x r := h.keeps (Keeps.of_below hb)
theorem Res.of {r : Int × List Sh.Rel} {e : Ending} (h : ResPost r w e w') : ∃ A n c er, e = .returned (.tuple #[.agg #[.int .i64 r.1, .slice A n c], er]) ∧ Res w' w.heap.size w'.heap.size (.slice A n c) r ∧ Below w.heap.size w w' := by
  obtain ⟨x, er, he, hn, ht, hb⟩ := h
  obtain ⟨A, n, c, rfl, -⟩ := id hn
  exact ⟨A, n, c, er, he, ⟨hn, hn.sr ht.1 ht.2, ht⟩, hb⟩
end

/-- A result as it was made: between the blocks L and H nothing has turned since. -/
def Snap (w : World) (L H : Nat) (x : Value) (r : Int × List Sh.Rel) : Prop := ∃ w0 : World, w0.heap.size = H ∧ H ≤ w.heap.size ∧ Res w0 L H x r ∧ ∀ b, L ≤ b → b < H → w.heap[b]? = w0.heap[b]?
theorem Snap.of {w : World} {L : Nat} {x : Value} {r : Int × List Sh.Rel} (h : Res w L w.heap.size x r) : Snap w L w.heap.size x r := ⟨w, rfl, Nat.le_refl _, h, fun _ _ _ => rfl⟩
theorem Snap.res {w : World} {L H : Nat} {x : Value} {r : Int × List Sh.Rel} (h : Snap w L H x r) : Res w L H x r := by
  obtain ⟨w0, h1, h2, h3, h4⟩ := h
  exact h3.keeps ⟨by omega, fun b cs t hL _ hb => h4 b hL (by have := heap_lt hb; omega)⟩
theorem Snap.stay {w w' : World} {L H : Nat} {x : Value} {r : Int × List Sh.Rel} (h : Snap w L H x r) (hs : w.heap.size ≤ w'.heap.size) (hb : ∀ b, L ≤ b → b < H → w'.heap[b]? = w.heap[b]?) : Snap w' L H x r := by
  obtain ⟨w0, h1, h2, h3, h4⟩ := h
  exact ⟨w0, h1, by omega, h3, fun b k1 k2 => (hb b k1 k2).trans (h4 b k1 k2)⟩
theorem Snap.below {w w' : World} {L H : Nat} {x : Value} {r : Int × List Sh.Rel} (h : Snap w L H x r) (hb : Below w.heap.size w w') : Snap w' L H x r := by
  have hH : H ≤ w.heap.size := h.choose_spec.2.1
  exact h.stay hb.size fun b _ k => hb.block b (by omega)
theorem Snap.setCell {w : World} {L H : Nat} {x : Value} {r : Int × List Sh.Rel} (h : Snap w L H x r) {p : Addr} (hp : p.block < L) (u : Value) : Snap (w.setCell p u) L H x r :=
  h.stay (by simp) fun b k _ => Below.heap_setCell w p u b (by omega)
theorem Snap.sp {w w' : World} {L H L' H' : Nat} {x : Value} {r : Int × List Sh.Rel} (h : Snap w L H x r) (hs : Sp L' H' w w') (hd : H' ≤ L ∨ H ≤ L') : Snap w' L H x r := by
  have hH : H ≤ w.heap.size := h.choose_spec.2.1
  exact h.stay hs.size fun b k1 k2 => hs.out b (by omega) (by omega)

/-- The four. -/
def rr4 (r0 r1 r2 r3 : Int × List Sh.Rel) : Nat → Int × List Sh.Rel
  | 0 => r0
  | 1 => r1
  | 2 => r2
  | _ => r3
def xx4 (x0 x1 x2 x3 : Value) : Nat → Value
  | 0 => x0
  | 1 => x1
  | 2 => x2
  | _ => x3
def nn4 (x0 x1 x2 x3 : Nat) : Nat → Nat
  | 0 => x0
  | 1 => x1
  | 2 => x2
  | _ => x3
def zz8 : Array Value := #[.int .i64 0, .slice none 0 0, .int .i64 0, .slice none 0 0, .int .i64 0, .slice none 0 0, .int .i64 0, .slice none 0 0]
def cs4 (R : Nat → Int × List Sh.Rel) (xs : Nat → Value) : Array Value := #[.int .i64 (R 0).1, xs 0, .int .i64 (R 1).1, xs 1, .int .i64 (R 2).1, xs 2, .int .i64 (R 3).1, xs 3]
theorem cs4_at (R : Nat → Int × List Sh.Rel) (xs : Nat → Value) {j : Nat} (hj : j < 4) : (cs4 R xs)[j * 2]? = some (.int .i64 (R j).1) ∧ (cs4 R xs)[j * 2 + 1]? = some (xs j) := by
  match j, hj with
  | 0, _ => exact ⟨rfl, rfl⟩
  | 1, _ => exact ⟨rfl, rfl⟩
  | 2, _ => exact ⟨rfl, rfl⟩
  | 3, _ => exact ⟨rfl, rfl⟩
theorem cs4_of {R : Nat → Int × List Sh.Rel} {ys : Nat → Value} {ck : Array Value} (hs : ck.size = 8) (h : ∀ j, j < 4 → ck[j * 2]? = some (.int .i64 (R j).1) ∧ ck[j * 2 + 1]? = some (ys j)) : ck = cs4 R ys := by
  refine Array.ext (by rw [hs]; rfl) fun i h1 h2 => ?_
  have e : ck[i]? = (cs4 R ys)[i]? := by
    have h3 := h (i / 2) (by omega)
    have h4 := cs4_at R ys (j := i / 2) (by omega)
    rcases Nat.mod_two_eq_zero_or_one i with hm | hm
    · have e : i / 2 * 2 = i := by omega
      rw [e] at h3 h4
      exact h3.1.trans h4.1.symm
    · have e : i / 2 * 2 + 1 = i := by omega
      rw [e] at h3 h4
      exact h3.2.trans h4.2.symm
  rw [Array.getElem?_eq_getElem h1, Array.getElem?_eq_getElem h2] at e
  exact Option.some.inj e

/-- The symbols of a structure, none where it is not valid. -/
def osOf (size : Int) (rs : List Sh.Rel) : List (ByteArray × Int) := if Sh.validB ⟨size, rs⟩ = true then symsOf rs else []
def SymPost (os : List (ByteArray × Int)) (w : World) (e : Ending) (w' : World) : Prop := ∃ A n c, e = .returned (.slice A n c) ∧ Syms w' w'.heap.size (.slice A n c) os ∧ os.length ≤ 1000 ∧ SS w' w.heap.size w'.heap.size (.slice A n c) ∧ Below w.heap.size w w'
theorem symbols_res (size : Int) (v : Value) (rs : List Sh.Rel) (w : World) (B : Nat) (hB : B ≤ w.heap.size) (h : Rels w B v rs) :
    Calls Tryz.prog 17 #[.agg #[.int .i64 size, v]] w (SymPost (osOf size rs) w) := by
  unfold osOf
  cases hv : Sh.validB ⟨size, rs⟩
  · rw [if_neg (by simp)]
    refine (symbols_bad size v rs w B hB h hv).mono ?_
    rintro e w' ⟨rfl, hb⟩
    exact ⟨_, _, _, rfl, Syms.nil, by simp, .inl rfl, hb⟩
  · rw [if_pos rfl]
    have hl := (Sh.validB_size hv).2.2
    simp only at hl
    refine (symbols_own size v rs w B hB h hv (by omega)).mono ?_
    rintro e w' ⟨u, rfl, hs, hb, xs, ho⟩
    obtain ⟨A, n, c, rfl, -⟩ := id hs
    refine ⟨A, n, c, rfl, hs, by unfold symsOf; rw [List.length_map]; omega, ?_, hb⟩
    rcases own_row1 (own_base ho (Nat.le_succ _)) with h | ⟨g, cs, rfl, hn, h3, h4, h5, h6, h7⟩
    · exact .inl h
    · exact .inr ⟨g, n, c, cs, rfl, by omega, h3, h4, h5, by omega, h7⟩

/-- A row of symbols between the blocks L and H. -/
def SymR (w : World) (L H : Nat) (x : Value) (os : List (ByteArray × Int)) : Prop := Syms w H x os ∧ SS w L H x
theorem SymR.keeps {w w' : World} {L H : Nat} {x : Value} {os : List (ByteArray × Int)} (h : SymR w L H x os) (hk : Keeps L [72] w w') : SymR w' L H x os := by
  obtain ⟨h1, h2⟩ := h
  rcases h2 with rfl | ⟨g, n, cap, cs, rfl, k2, k3, k4, k5, k6, k7⟩
  · refine ⟨?_, .inl rfl⟩
    obtain ⟨A, n, c, e, r2, r3, r4⟩ := h1
    injection e with e1 e2 e3
    subst e1 e2 e3
    exact ⟨_, _, _, rfl, r2, r3, fun h => absurd h (by omega)⟩
  · refine ⟨?_, .inr ⟨g, n, cap, cs, rfl, k2, k3, k4, blk_keeps k5 hk k3 (by simp), k6, k7⟩⟩
    obtain ⟨A, n', c, e, r2, r3, r4⟩ := h1
    injection e with e1 e2 e3
    subst e1 e2 e3
    refine ⟨_, _, _, rfl, r2, r3, fun hn => ?_⟩
    obtain ⟨ad, e, hB, hc⟩ := r4 hn
    injection e with e
    subst e
    have hs := hk.2 g cs _ k3 (by simp) k5
    have hkc : ∀ k, w'.cell? ((⟨g, 0, none⟩ : Addr).add k) = w.cell? ((⟨g, 0, none⟩ : Addr).add k) := fun k => World.cell?_of_block (by rw [block_of_add]; exact hs)
    exact ⟨_, rfl, hB, fun j s hj => by rw [hkc, hkc]; exact hc j s hj⟩
theorem set4_at {ck : Array Value} {m j : Nat} (x y : Value) (hs : ck.size = 8) (hm : m < 4) : ((ck.setIfInBounds (m * 2) x).setIfInBounds (m * 2 + 1) y)[j * 2]? = (if j = m then some x else ck[j * 2]?) ∧ ((ck.setIfInBounds (m * 2) x).setIfInBounds (m * 2 + 1) y)[j * 2 + 1]? = (if j = m then some y else ck[j * 2 + 1]?) := by
  constructor
  · rw [Array.getElem?_setIfInBounds, if_neg (by omega), Array.getElem?_setIfInBounds]
    by_cases e : j = m
    · subst e; rw [if_pos rfl, if_pos (by omega), if_pos rfl]
    · rw [if_neg (by omega), if_neg e]
  · rw [Array.getElem?_setIfInBounds]
    by_cases e : j = m
    · subst e; rw [if_pos rfl, if_pos (by simp; omega), if_pos rfl]
    · rw [if_neg (by omega), if_neg e, Array.getElem?_setIfInBounds, if_neg (by omega)]

theorem arr8 {a : Array Value} (h : a.size = 8) : ∃ c0 c1 c2 c3 c4 c5 c6 c7, a = #[c0, c1, c2, c3, c4, c5, c6, c7] := by
  refine ⟨a[0], a[1], a[2], a[3], a[4], a[5], a[6], a[7], Array.ext (by simpa using h) fun i h1 h2 => ?_⟩
  have : i < 8 := by omega
  match i, this with
  | 0, _ => rfl
  | 1, _ => rfl
  | 2, _ => rfl
  | 3, _ => rfl
  | 4, _ => rfl
  | 5, _ => rfl
  | 6, _ => rfl
  | 7, _ => rfl
theorem bel_alloc0 {a W : World} (h : Below a.heap.size a W) (o : Obj) : Below a.heap.size a (W.alloc o) := h.alloc h.size o
/-- Eight cells of a block are stored. -/
def st8 (w : World) (g : Nat) (c0 c1 c2 c3 c4 c5 c6 c7 : Value) : World := ((((((((w.setCell ⟨g, 0, none⟩ c0).setCell ⟨g, 1, none⟩ c1).setCell ⟨g, 2, none⟩ c2).setCell ⟨g, 3, none⟩ c3).setCell ⟨g, 4, none⟩ c4).setCell ⟨g, 5, none⟩ c5).setCell ⟨g, 6, none⟩ c6).setCell ⟨g, 7, none⟩ c7)
section
variable {w : World} {g : Nat} {c0 c1 c2 c3 c4 c5 c6 c7 : Value}
theorem st8_far {b : Nat} (h : b ≠ g) : (st8 w g c0 c1 c2 c3 c4 c5 c6 c7).heap[b]? = w.heap[b]? := by
  unfold st8
  iterate 7 (refine (Below.heap_setCell _ _ _ b h).trans ?_)
  exact Below.heap_setCell _ _ _ b h
theorem st8_size : (st8 w g c0 c1 c2 c3 c4 c5 c6 c7).heap.size = w.heap.size := by unfold st8; simp only [World.size_setCell]
theorem st8_blk {t : TypeId} {cs : Array Value} (h : Blk w g t cs) (hs : cs.size = 8) : Blk (st8 w g c0 c1 c2 c3 c4 c5 c6 c7) g t #[c0, c1, c2, c3, c4, c5, c6, c7] := by
  obtain ⟨d0, d1, d2, d3, d4, d5, d6, d7, rfl⟩ := arr8 hs
  have h0 : Blk _ g t #[c0, d1, d2, d3, d4, d5, d6, d7] := h.set_ 0 c0
  have h1 : Blk _ g t #[c0, c1, d2, d3, d4, d5, d6, d7] := h0.set_ 1 c1
  have h2 : Blk _ g t #[c0, c1, c2, d3, d4, d5, d6, d7] := h1.set_ 2 c2
  have h3 : Blk _ g t #[c0, c1, c2, c3, d4, d5, d6, d7] := h2.set_ 3 c3
  have h4 : Blk _ g t #[c0, c1, c2, c3, c4, d5, d6, d7] := h3.set_ 4 c4
  have h5 : Blk _ g t #[c0, c1, c2, c3, c4, c5, d6, d7] := h4.set_ 5 c5
  have h6 : Blk _ g t #[c0, c1, c2, c3, c4, c5, c6, d7] := h5.set_ 6 c6
  have h7 : Blk _ g t #[c0, c1, c2, c3, c4, c5, c6, c7] := h6.set_ 7 c7
  exact h7
theorem st8_keeps {L : Nat} {ts : List TypeId} {t : TypeId} {cs : Array Value} (h : Blk w g t cs) (ht : t ∉ ts) : Keeps L ts w (st8 w g c0 c1 c2 c3 c4 c5 c6 c7) :=
  ⟨by rw [st8_size]; exact Nat.le_refl _, fun b cs' t' _ hm hb => by
    refine st8_far (fun e => ?_)
    subst e
    unfold Blk at h
    rw [h] at hb
    injection hb with hb
    injection hb with _ hb
    subst hb
    exact ht hm⟩
theorem st8_below {B : Nat} {a : World} (h : Below B a w) (hB : B ≤ g) : Below B a (st8 w g c0 c1 c2 c3 c4 c5 c6 c7) := by
  unfold st8
  exact (((((((h.setCell hB _).setCell hB _).setCell hB _).setCell hB _).setCell hB _).setCell hB _).setCell hB _).setCell hB _
end
theorem Syms.keepsB {w w' : World} {B L : Nat} {x : Value} {ss : List (ByteArray × Int)} (h : Syms w B x ss) (hL : ∀ ad n c, x = .slice (some ad) n c → 0 < n → L ≤ ad.block ∧ ∃ cs, w.heap[ad.block]? = some (.cells cs 72 (0, 0))) (hk : Keeps L [72] w w') : Syms w' B x ss := by
  obtain ⟨A, n, c, rfl, h2, h3, h4⟩ := h
  refine ⟨A, n, c, rfl, h2, h3, fun hn => ?_⟩
  obtain ⟨ad, rfl, hB, hc⟩ := h4 hn
  obtain ⟨h5, cs, hh⟩ := hL ad n c rfl hn
  have hs := hk.2 ad.block cs _ h5 (by simp) hh
  have hkc : ∀ k, w'.cell? (ad.add k) = w.cell? (ad.add k) := fun k => World.cell?_of_block (by rw [block_of_add]; exact hs)
  exact ⟨ad, rfl, hB, fun j s hj => by rw [hkc, hkc]; exact hc j s hj⟩
theorem Syms.st8 {w : World} {B g : Nat} {x : Value} {ss : List (ByteArray × Int)} {cs : Array Value} {c0 c1 c2 c3 c4 c5 c6 c7 : Value} (h : Syms w B x ss) (hb : SymB w x) (hf : Blk w g 43 cs) : Syms (Go.Proofs.YtelememdhpncgaaGreatDoor.st8 w g c0 c1 c2 c3 c4 c5 c6 c7) B x ss ∧ SymB (Go.Proofs.YtelememdhpncgaaGreatDoor.st8 w g c0 c1 c2 c3 c4 c5 c6 c7) x := by
  have hne : ∀ ad n c, x = .slice (some ad) n c → 0 < n → ad.block ≠ g := fun ad n c e hn hg => by
    obtain ⟨cs', hh⟩ := hb ad n c e hn
    rw [hg] at hh
    unfold Blk at hf
    rw [hf] at hh
    injection hh with hh
    injection hh with _ hh
    exact absurd hh (by decide)
  refine ⟨?_, fun ad n c e hn => ?_⟩
  · obtain ⟨A, n, c, rfl, h2, h3, h4⟩ := h
    refine ⟨A, n, c, rfl, h2, h3, fun hn => ?_⟩
    obtain ⟨ad, rfl, hB, hc⟩ := h4 hn
    have hkc : ∀ k, (Go.Proofs.YtelememdhpncgaaGreatDoor.st8 w g c0 c1 c2 c3 c4 c5 c6 c7).cell? (ad.add k) = w.cell? (ad.add k) := fun k => World.cell?_of_block (by rw [block_of_add]; exact st8_far (hne ad n c rfl hn))
    exact ⟨ad, rfl, hB, fun j s hj => by rw [hkc, hkc]; exact hc j s hj⟩
  · obtain ⟨cs', hh⟩ := hb ad n c e hn
    exact ⟨cs', (st8_far (hne ad n c e hn)).trans hh⟩

end Go.Proofs.YtelememdhpncgaaGreatDoor
