/-
  An argument []Change.
-/
import Derived.Test.YtjkaicpohihncaaDoorArgs
namespace Go.Proofs.YtjkaicpohihncaaDoor
open Go.ChangeShapes Go.WideShapes Go.ChangeAt Go.RowKit Go.Deep

/-- A value that is a slice of changes. -/
def Chgs (w : World) (B : Nat) (v : Value) (cs : List (ByteArray × List Int × Bool)) : Prop :=
  ∃ A n c, v = .slice A n c ∧ n = cs.length ∧ n ≤ 140737488351232 ∧
    (0 < n → ∃ ad, A = some ad ∧ ad.block < B ∧ ∀ j s, cs[j]? = some s → ∃ u, w.cell? (ad.add (j * 3)) = some (.string s.1) ∧ w.cell? (ad.add (j * 3 + 1)) = some u ∧ w.cell? (ad.add (j * 3 + 2)) = some (.bool s.2.2) ∧ Ints w B u s.2.1)
section
variable {w w' : World} {B B' : Nat} {v : Value} {cs : List (ByteArray × List Int × Bool)}
theorem Chgs.below (h : Chgs w B v cs) (hb : Below B w w') : Chgs w' B v cs := by
  obtain ⟨A, n, c, h1, h2, h3, h4⟩ := h
  refine ⟨A, n, c, h1, h2, h3, fun hn => ?_⟩
  obtain ⟨ad, e, hlt, hc⟩ := h4 hn
  refine ⟨ad, e, hlt, fun j s hs => ?_⟩
  obtain ⟨u, a, b, d, hi⟩ := hc j s hs
  exact ⟨u, (hb.cell (by rw [block_of_add]; exact hlt)).trans a, (hb.cell (by rw [block_of_add]; exact hlt)).trans b, (hb.cell (by rw [block_of_add]; exact hlt)).trans d, hi.below hb⟩
theorem Chgs.at_ {A : Option Addr} {n c k : Nat} (h : Chgs w B (.slice A n c) cs) (hk : k < n) :
    ∃ ad u s, A = some ad ∧ ad.block < B ∧ cs[k]? = some s ∧ w.cell? (ad.add (k * 3)) = some (.string s.1) ∧ w.cell? ⟨(ad.add (k * 3)).block, (ad.add (k * 3)).off + 1, none⟩ = some u ∧
      w.cell? ⟨(ad.add (k * 3)).block, (ad.add (k * 3)).off + 2, none⟩ = some (.bool s.2.2) ∧ Ints w B u s.2.1 := by
  obtain ⟨A', n', c', h1, h2, h3, h4⟩ := h
  injection h1 with e1 e2 e3
  subst e1 e2 e3
  obtain ⟨ad, hA, hb, hc⟩ := h4 (by omega)
  have hl : k < cs.length := by omega
  obtain ⟨u, h1, h2, h3, h4⟩ := hc k cs[k] (List.getElem?_eq_getElem hl)
  refine ⟨ad, u, cs[k], hA, hb, List.getElem?_eq_getElem hl, h1, ?_, ?_, h4⟩
  · rw [← add_field ad (k * 3) 0]; exact h2
  · rw [← add_field ad (k * 3) 1]; exact h3
end

section
variable {H : Type} {enc : TypeId × Value → H} {W : World}
set_option maxRecDepth 100000 in
theorem chg_read {fuel : Nat} {cs : List Value} {y : DataW H × List MemPlace} (h : DataW.trod enc Tryd.prog W 0 (fun _ => true) true fuel 47 cs = some y) (hz : Fits 47 y.1) :
    ∃ (s : ByteArray × List Int × Bool) (u : Value), cs = [.string s.1, u, .bool s.2.2] ∧ Ints W W.heap.size u s.2.1 := by
  obtain ⟨y0, y1, y2, n, hx, hlen, h0, h1, h2⟩ := trod_struct3 Tryd.underlying47 h
  subst hx
  rw [show Tryd.prog.cellsOf 47 = 3 by kernel_rfl] at hlen
  obtain ⟨c0, c1, c2, rfl⟩ : ∃ a b c, cs = [a, b, c] := by
    match cs, hlen with
    | [a, b, c], _ => exact ⟨a, b, c, rfl⟩
  have hfit : ∀ n ∈ DataW.weightsEach Tryd.prog [9, 35, 4] [y0.1, y1.1, y2.1], n ≤ 140737488351232 := fun n hn => hz n (by
    simp only [DataW.weights, Tryd.underlying47]
    exact hn)
  simp only [show Tryd.prog.cellsOf 9 = 1 by kernel_rfl, show Tryd.prog.cellsOf 35 = 1 by kernel_rfl, show Tryd.prog.cellsOf 4 = 1 by kernel_rfl] at h0 h1 h2
  obtain ⟨s, e0, -, -⟩ := DataW.trod_string Tryd.underlying9 h0
  obtain ⟨u, t, e1, ht⟩ := ints_read h1 (fun n hn => hfit n (by
    simp only [DataW.weightsEach]
    exact List.mem_append_right _ (List.mem_append_left _ hn)))
  obtain ⟨b, e2, -⟩ := DataW.trod_bool Tryd.underlying4 h2
  simp at e0 e1 e2
  subst e0 e1 e2
  exact ⟨⟨s, t, b⟩, _, rfl, ht⟩

set_option maxRecDepth 100000 in
theorem chgs_read {fuel : Nat} {cs : List Value} {y : DataW H × List MemPlace} (h : DataW.trod enc Tryd.prog W 0 (fun _ => true) true fuel 61 cs = some y) (hz : Fits 61 y.1) : ∃ v l, cs = [v] ∧ Chgs W W.heap.size v l := by
  rcases DataW.trod_slice Tryd.underlying61 h with ⟨hcs, hx⟩ | ⟨ad, len, cap, es, rest, n, _, hcs, hx, _, hl, _, hel, hes, _, _⟩
  · exact ⟨_, [], hcs, _, _, _, rfl, rfl, by omega, fun h => absurd h (by omega)⟩
  · subst hx
    have hb := Fits.len Tryd.underlying61 hz
    rw [show Tryd.prog.bytesOf 47 = 48 by kernel_rfl] at hb
    simp only [List.length_map] at hb
    have each : ∀ i, i < len → ∃ s : ByteArray × List Int × Bool, ∃ u, W.cell? (ad.add (i * 3)) = some (.string s.1) ∧ W.cell? (ad.add (i * 3 + 1)) = some u ∧ W.cell? (ad.add (i * 3 + 2)) = some (.bool s.2.2) ∧ Ints W W.heap.size u s.2.1 := fun i hi => by
      have h1 := hes i hi
      rw [show Tryd.prog.cellsOf 47 = 3 by kernel_rfl, List.getElem?_eq_getElem (by omega)] at h1
      obtain ⟨c, hc, h2⟩ := Option.bind_eq_some_iff.1 h1
      obtain ⟨s, u, rfl, ht⟩ := chg_read h2 (Fits.elem Tryd.underlying61 hz (i := i) (by rw [List.getElem?_map, List.getElem?_eq_getElem (by omega)]; rfl))
      obtain ⟨-, -, hcell⟩ := World.cells?_some hc
      have q0 := hcell 0 (by omega)
      have q1 := hcell 1 (by omega)
      have q2 := hcell 2 (by omega)
      rw [add_of_add] at q0 q1 q2
      exact ⟨s, u, q0, q1, q2, ht⟩
    obtain ⟨rs, hrs, hq⟩ := exists_list len each
    refine ⟨_, rs, hcs, _, _, _, rfl, hrs.symm, by omega, fun hn => ⟨ad, rfl, ?_, fun j r hr => hq j r hr⟩⟩
    obtain ⟨r, u, hc, _⟩ := each 0 hn
    have h0 := cellLt hc
    rw [block_of_add] at h0
    exact h0

set_option maxRecDepth 100000 in
/-- An argument of type []Change. -/
theorem chgs_of_trod {v : Value} {d : DataW H} {p : List MemPlace} {r : Reach} {b0 : Nat} (hv : Value.okWide Tryd.prog W r b0 61 v) (h : DataW.Trod enc Tryd.prog W 0 (fun _ => true) true 61 v d p) (hz : Fits 61 d) :
    ∃ l, Chgs W W.heap.size v l := by
  obtain ⟨fuel, hf⟩ := h
  obtain ⟨A, n, c, rfl⟩ := okWide_slice Tryd.underlying61 hv
  obtain ⟨v', l, e, hs⟩ := chgs_read hf hz
  simp [Value.cells] at e
  subst e
  exact ⟨l, hs⟩
end

end Go.Proofs.YtjkaicpohihncaaDoor
