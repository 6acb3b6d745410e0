/-
  Texts joined: Fargs.
-/
import Derived.Test.YtmnpelhcgobfaaaDoorJi21
import Derived.Deep.Strs

/-
  An argument as a formula.
-/
namespace Go.Proofs.YtmnpelhcgobfaaaDoor
open Go.ChangeShapes Go.WideShapes Go.ChangeAt Go.RowKit Go.Deep
open Fo (F)

section
variable {H : Type} {enc : TypeId × Value → H} {W : World}

/-- No list is longer than the machine's reach. -/
def Fits (t : TypeId) (d : DataW H) : Prop := ∀ n ∈ d.weights Tryd.prog t, n ≤ 140737488351232

theorem weights_all {t : TypeId} {n : Nat} : ∀ {l : List (DataW H)} {i : Nat} {d : DataW H}, l[i]? = some d → n ∈ d.weights Tryd.prog t → n ∈ DataW.weightsAll Tryd.prog t l
  | [], i, d, h, _ => by simp at h
  | x :: l, 0, d, h, hn => by
    simp at h; subst h
    unfold DataW.weightsAll
    exact List.mem_append_left _ hn
  | x :: l, i + 1, d, h, hn => by
    unfold DataW.weightsAll
    exact List.mem_append_right _ (weights_all (by simpa using h) hn)
theorem Fits.elem {t e : TypeId} {es sp : List (DataW H)} (hu : Tryd.prog.underlying t = some (.slice e)) (h : Fits t (.slice es sp)) {i : Nat} {d : DataW H} (hd : es[i]? = some d) : Fits e d := fun n hn =>
  h n (by
    simp only [DataW.weights, hu]
    exact List.mem_cons_of_mem _ (List.mem_append_left _ (weights_all hd hn)))
theorem Fits.len {t e : TypeId} {es sp : List (DataW H)} (hu : Tryd.prog.underlying t = some (.slice e)) (h : Fits t (.slice es sp)) : (es.length + sp.length) * Tryd.prog.bytesOf e ≤ 140737488351232 :=
  h _ (by simp only [DataW.weights, hu]; exact List.mem_cons_self ..)
theorem Fits.str {t : TypeId} {l : List UInt8} (h : Fits (H := H) t (.lit (.string l))) : l.length ≤ 140737488351232 := h _ (by simp only [DataW.weights]; exact List.mem_cons_self ..)

theorem exists_list {α : Type} {Q : Nat → α → Prop} : ∀ (n : Nat), (∀ i, i < n → ∃ a, Q i a) → ∃ l : List α, l.length = n ∧ ∀ i a, l[i]? = some a → Q i a
  | 0, _ => ⟨[], rfl, fun i a h => by simp at h⟩
  | n + 1, h => by
    obtain ⟨l, hl, hq⟩ := exists_list n (fun i hi => h i (by omega))
    obtain ⟨a, ha⟩ := h n (by omega)
    refine ⟨l ++ [a], by simp [hl], fun i x hx => ?_⟩
    by_cases hi : i < l.length
    · rw [List.getElem?_append_left hi] at hx
      exact hq i x hx
    · rw [List.getElem?_append_right (by omega)] at hx
      have : i = l.length := by
        rcases Nat.eq_or_lt_of_le (Nat.le_of_not_lt hi) with e | e
        · exact e.symm
        · rw [List.getElem?_eq_none (by simp; omega)] at hx; cases hx
      subst this
      simp at hx
      subst hx
      rw [hl]
      exact ha

set_option maxRecDepth 100000 in
theorem strs_read {fuel : Nat} {cs : List Value} {y : DataW H × List MemPlace} (h : DataW.trod enc Tryd.prog W 0 (fun _ => true) true fuel 28 cs = some y) (hz : Fits 28 y.1) : ∃ v l, cs = [v] ∧ Strs W (· < W.heap.size) v l := by
  rcases DataW.trod_slice Tryd.underlying28 h with ⟨hcs, hx⟩ | ⟨ad, len, cap, es, rest, n, _, hcs, hx, _, hlc, _, hel, hes, _, _⟩
  · exact ⟨_, [], hcs, Strs.nil⟩
  · subst hx
    have hb := Fits.len Tryd.underlying28 hz
    rw [show Tryd.prog.bytesOf 9 = 16 by kernel_rfl] at hb
    simp only [List.length_map] at hb
    have each : ∀ i, i < len → ∃ s : ByteArray, W.cell? (ad.add i) = some (.string s) ∧ s.size ≤ 140737488351232 := fun i hi => by
      have h1 := hes i hi
      rw [show Tryd.prog.cellsOf 9 = 1 by kernel_rfl, Nat.mul_one, List.getElem?_eq_getElem (by omega)] at h1
      obtain ⟨c, hc, h2⟩ := Option.bind_eq_some_iff.1 h1
      obtain ⟨s, rfl, e1, -⟩ := DataW.trod_string Tryd.underlying9 h2
      have hf := Fits.elem Tryd.underlying28 hz (i := i) (by rw [List.getElem?_map, List.getElem?_eq_getElem (by omega)]; rfl)
      rw [e1] at hf
      exact ⟨s, cell_of_cells?_one hc, by simpa using hf.str⟩
    obtain ⟨l, hl, hq⟩ := exists_list len each
    refine ⟨_, l, hcs, _, _, _, rfl, hl.symm, by omega, hlc, fun s hs => ?_, fun hn => ⟨ad, rfl, ?_, fun j s hs => (hq j s hs).1⟩⟩
    · obtain ⟨j, hj, rfl⟩ := List.mem_iff_getElem.1 hs
      exact (hq j _ (List.getElem?_eq_getElem hj)).2
    · obtain ⟨s, hc, _⟩ := each 0 hn
      have h0 := cellLt hc
      rw [block_of_add] at h0
      exact h0

theorem trod_struct6 {t : TypeId} {f0 f1 f2 f3 f4 f5 : Field} {fuel : Nat} {cs : List Value} {x : DataW H × List MemPlace} (ht : Tryd.prog.underlying t = some (.struct #[f0, f1, f2, f3, f4, f5])) (h : DataW.trod enc Tryd.prog W 0 (fun _ => true) true fuel t cs = some x) :
    ∃ y0 y1 y2 y3 y4 y5 n, fuel = n + 1 ∧ x.1 = .agg [y0.1, y1.1, y2.1, y3.1, y4.1, y5.1] ∧ cs.length = Tryd.prog.cellsOf t ∧
      DataW.trod enc Tryd.prog W 0 (fun _ => true) true n f0.type ((cs.drop f0.offset).take (Tryd.prog.cellsOf f0.type)) = some y0 ∧ DataW.trod enc Tryd.prog W 0 (fun _ => true) true n f1.type ((cs.drop f1.offset).take (Tryd.prog.cellsOf f1.type)) = some y1 ∧
      DataW.trod enc Tryd.prog W 0 (fun _ => true) true n f2.type ((cs.drop f2.offset).take (Tryd.prog.cellsOf f2.type)) = some y2 ∧ DataW.trod enc Tryd.prog W 0 (fun _ => true) true n f3.type ((cs.drop f3.offset).take (Tryd.prog.cellsOf f3.type)) = some y3 ∧
      DataW.trod enc Tryd.prog W 0 (fun _ => true) true n f4.type ((cs.drop f4.offset).take (Tryd.prog.cellsOf f4.type)) = some y4 ∧ DataW.trod enc Tryd.prog W 0 (fun _ => true) true n f5.type ((cs.drop f5.offset).take (Tryd.prog.cellsOf f5.type)) = some y5 := by
  obtain ⟨xs, n, hn, rfl, hl, hlen, hf⟩ := DataW.trod_struct ht h
  match xs, hlen with
  | [y0, y1, y2, y3, y4, y5], _ => exact ⟨y0, y1, y2, y3, y4, y5, n, hn, by simp, hl, by simpa using hf 0 f0 rfl, by simpa using hf 1 f1 rfl, by simpa using hf 2 f2 rfl, by simpa using hf 3 f3 rfl, by simpa using hf 4 f4 rfl, by simpa using hf 5 f5 rfl⟩

theorem FKids.mk {S : Nat → Prop} {ad : Addr} : ∀ (l : List FB) (j : Nat), (∀ i f, l[i]? = some f → ∃ x0 x1 x2 x3 x4 x5, W.cell? (ad.add ((j + i) * 6)) = some x0 ∧ W.cell? (ad.add ((j + i) * 6 + 1)) = some x1 ∧ W.cell? (ad.add ((j + i) * 6 + 2)) = some x2 ∧
      W.cell? (ad.add ((j + i) * 6 + 3)) = some x3 ∧ W.cell? (ad.add ((j + i) * 6 + 4)) = some x4 ∧ W.cell? (ad.add ((j + i) * 6 + 5)) = some x5 ∧ FVal W S f [x0, x1, x2, x3, x4, x5]) → FKids W S ad l j
  | [], j, _ => trivial
  | f :: l, j, h => by
    unfold FKids
    refine ⟨by simpa using h 0 f rfl, FKids.mk l (j + 1) fun i g hg => ?_⟩
    have := h (i + 1) g (by simpa using hg)
    rw [show j + (i + 1) = j + 1 + i by omega] at this
    exact this

set_option maxRecDepth 100000 in
theorem form_read : ∀ (N fuel : Nat), fuel ≤ N → ∀ (cs : List Value) (y : DataW H × List MemPlace), DataW.trod enc Tryd.prog W 0 (fun _ => true) true fuel 31 cs = some y → Fits 31 y.1 → ∃ f : FB, FVal W (· < W.heap.size) f cs
  | 0, fuel, hN, cs, y, h, _ => by
    obtain rfl : fuel = 0 := by omega
    simp [DataW.trod] at h
  | N + 1, fuel, hN, cs, y, h, hz => by
    obtain ⟨y0, y1, y2, y3, y4, y5, n, rfl, hx, hlen, h0, h1, h2, h3, h4, h5⟩ := trod_struct6 Tryd.underlying31 h
    rw [show Tryd.prog.cellsOf 31 = 6 by kernel_rfl] at hlen
    obtain ⟨c0, c1, c2, c3, c4, c5, rfl⟩ : ∃ a b c d e f, cs = [a, b, c, d, e, f] := by
      match cs, hlen with
      | [a, b, c, d, e, f], _ => exact ⟨a, b, c, d, e, f, rfl⟩
    have hfit : ∀ n ∈ DataW.weightsEach Tryd.prog [3, 3, 9, 28, 28, 29] [y0.1, y1.1, y2.1, y3.1, y4.1, y5.1], n ≤ 140737488351232 := fun n hn => hz n (by
      rw [hx]
      simp only [DataW.weights, Tryd.underlying31]
      exact hn)
    simp only [show Tryd.prog.cellsOf 9 = 1 by kernel_rfl, show Tryd.prog.cellsOf 3 = 1 by kernel_rfl, show Tryd.prog.cellsOf 28 = 1 by kernel_rfl, show Tryd.prog.cellsOf 29 = 1 by kernel_rfl] at h0 h1 h2 h3 h4 h5
    obtain ⟨k, e0, -, -⟩ := DataW.trod_int Tryd.underlying3 h0
    obtain ⟨a, e1, -, -⟩ := DataW.trod_int Tryd.underlying3 h1
    obtain ⟨s, e2, hs, -⟩ := DataW.trod_string Tryd.underlying9 h2
    obtain ⟨u3, vs, e3, hv3⟩ := strs_read h3 (fun n hn => hfit n (by
      simp only [DataW.weightsEach]
      exact List.mem_append_right _ (List.mem_append_right _ (List.mem_append_right _ (List.mem_append_left _ hn)))))
    obtain ⟨u4, ar, e4, hv4⟩ := strs_read h4 (fun n hn => hfit n (by
      simp only [DataW.weightsEach]
      exact List.mem_append_right _ (List.mem_append_right _ (List.mem_append_right _ (List.mem_append_right _ (List.mem_append_left _ hn))))))
    have hz5 : Fits 29 y5.1 := fun n hn => hfit n (by
      simp only [DataW.weightsEach]
      exact List.mem_append_right _ (List.mem_append_right _ (List.mem_append_right _ (List.mem_append_right _ (List.mem_append_right _ (List.mem_append_left _ hn))))))
    have hss : s.size ≤ 140737488351232 := by
      have := hfit s.data.toList.length (by
        rw [hs]
        simp only [DataW.weightsEach, DataW.weights]
        exact List.mem_append_right _ (List.mem_append_right _ (List.mem_append_left _ (List.mem_cons_self ..))))
      simpa using this
    simp at e0 e1 e2 e3 e4
    subst e0 e1 e2 e3 e4
    rcases DataW.trod_slice Tryd.underlying29 h5 with ⟨hcs, hx5⟩ | ⟨ad, len, cap, es, rest, n', hn', hcs, hx5, _, hlc, _, hel, hes, _, _⟩
    · simp at hcs
      subst hcs
      refine ⟨.mk k a s vs ar [], ?_⟩
      unfold FVal
      exact ⟨_, _, _, _, _, rfl, hss, hv3, hv4, rfl, by omega, by omega, fun h => absurd h (by omega)⟩
    · simp at hcs
      subst hcs hx5
      have hb := Fits.len Tryd.underlying29 hz5
      rw [show Tryd.prog.bytesOf 31 = 104 by kernel_rfl] at hb
      simp only [List.length_map] at hb
      have each : ∀ i, i < len → ∃ g : FB, ∃ x0 x1 x2 x3 x4 x5, W.cell? (ad.add (i * 6)) = some x0 ∧ W.cell? (ad.add (i * 6 + 1)) = some x1 ∧ W.cell? (ad.add (i * 6 + 2)) = some x2 ∧
          W.cell? (ad.add (i * 6 + 3)) = some x3 ∧ W.cell? (ad.add (i * 6 + 4)) = some x4 ∧ W.cell? (ad.add (i * 6 + 5)) = some x5 ∧ FVal W (· < W.heap.size) g [x0, x1, x2, x3, x4, x5] := fun i hi => by
        have h1 := hes i hi
        rw [show Tryd.prog.cellsOf 31 = 6 by kernel_rfl, List.getElem?_eq_getElem (by omega)] at h1
        obtain ⟨c, hc, h2⟩ := Option.bind_eq_some_iff.1 h1
        obtain ⟨g, hg⟩ := form_read N n' (by omega) c _ h2 (Fits.elem Tryd.underlying29 hz5 (i := i) (by rw [List.getElem?_map, List.getElem?_eq_getElem (by omega)]; rfl))
        obtain ⟨k', a', nm', ws', ar', ks'⟩ := g
        obtain ⟨B3, r3, s3, B4, r4, s4, B, r, s', hcs', -⟩ := hg.open_
        subst hcs'
        obtain ⟨-, -, hcell⟩ := World.cells?_some hc
        have q0 := hcell 0 (by omega)
        have q1 := hcell 1 (by omega)
        have q2 := hcell 2 (by omega)
        have q3 := hcell 3 (by omega)
        have q4 := hcell 4 (by omega)
        have q5 := hcell 5 (by omega)
        rw [add_of_add] at q0 q1 q2 q3 q4 q5
        exact ⟨_, _, _, _, _, _, _, q0, q1, q2, q3, q4, q5, hg⟩
      obtain ⟨ks, hks, hq⟩ := exists_list len each
      refine ⟨.mk k a s vs ar ks, ?_⟩
      unfold FVal
      refine ⟨_, _, _, _, _, rfl, hss, hv3, hv4, hks.symm, by omega, hlc, fun hn => ⟨ad, rfl, ?_, FKids.mk ks 0 fun i g hg => by rw [Nat.zero_add]; exact hq i g hg⟩⟩
      obtain ⟨g, x0, x1, x2, x3, x4, x5, hc, -⟩ := each 0 hn
      have h0 := cellLt hc
      rw [block_of_add] at h0
      exact h0

set_option maxRecDepth 100000 in
/-- An argument of type Formula. -/
theorem form_of_trod {v : Value} {d : DataW H} {p : List MemPlace} {r : Reach} {b0 : Nat} (hv : Value.okWide Tryd.prog W r b0 31 v) (h : DataW.Trod enc Tryd.prog W 0 (fun _ => true) true 31 v d p) (hz : Fits 31 d) :
    ∃ (f : FB) (cs : List Value), v = .agg cs.toArray ∧ FVal W (· < W.heap.size) f cs := by
  obtain ⟨cs, rfl, hsz⟩ := okWide_struct Tryd.underlying31 hv
  obtain ⟨fuel, hf⟩ := h
  obtain ⟨f, hfv⟩ := form_read fuel fuel (Nat.le_refl _) _ _ hf hz
  refine ⟨f, cs.toList, by simp, ?_⟩
  simpa [Value.cells] using hfv
end

end Go.Proofs.YtmnpelhcgobfaaaDoor
