/-
  Texts joined: Args.
-/
import Derived.Test.YtelememdhpncgaaGreatDoorJo7
import Derived.Deep.Strs

/-
  An argument as numbers and lists: slices of ints, of tuples, of relations; a structure.
-/
namespace Go.Proofs.YtelememdhpncgaaGreatDoor
open Go.ChangeShapes Go.WideShapes Go.ChangeAt Go.RowKit Go.Deep

section
variable {H : Type} {enc : TypeId × Value → H} {W : World}

/-- No list is longer than the machine's reach. -/
def Fits (t : TypeId) (d : DataW H) : Prop := ∀ n ∈ d.weights Tryz.prog t, n ≤ 140737488351232

theorem weights_all {t : TypeId} {n : Nat} : ∀ {l : List (DataW H)} {i : Nat} {d : DataW H}, l[i]? = some d → n ∈ d.weights Tryz.prog t → n ∈ DataW.weightsAll Tryz.prog t l
  | [], i, d, h, _ => by simp at h
  | x :: l, 0, d, h, hn => by
    simp at h; subst h
    unfold DataW.weightsAll
    exact List.mem_append_left _ hn
  | x :: l, i + 1, d, h, hn => by
    unfold DataW.weightsAll
    exact List.mem_append_right _ (weights_all (by simpa using h) hn)
theorem Fits.elem {t e : TypeId} {es sp : List (DataW H)} (hu : Tryz.prog.underlying t = some (.slice e)) (h : Fits t (.slice es sp)) {i : Nat} {d : DataW H} (hd : es[i]? = some d) : Fits e d := fun n hn =>
  h n (by
    simp only [DataW.weights, hu]
    exact List.mem_cons_of_mem _ (List.mem_append_left _ (weights_all hd hn)))
theorem Fits.len {t e : TypeId} {es sp : List (DataW H)} (hu : Tryz.prog.underlying t = some (.slice e)) (h : Fits t (.slice es sp)) : (es.length + sp.length) * Tryz.prog.bytesOf e ≤ 140737488351232 :=
  h _ (by simp only [DataW.weights, hu]; exact List.mem_cons_self ..)

theorem exists_list {α : Type} {Q : Nat → α → Prop} : ∀ (n : Nat), (∀ i, i < n → ∃ a, Q i a) → ∃ l : List α, l.length = n ∧ ∀ i a, l[i]? = some a → Q i a
  | 0, _ => ⟨[], rfl, fun i a h => by simp at h⟩
  | n + 1, h => by
    obtain ⟨l, hl, hq⟩ := exists_list n (fun i hi => h i (by omega))
    obtain ⟨a, ha⟩ := h n (by omega)
    refine ⟨l ++ [a], by simp [hl], fun i x hx => ?_⟩
    by_cases hi : i < l.length
    · rw [List.getElem?_append_left hi] at hx
      exact hq i x hx
    · rw [List.getElem?_append_right (by omega)] at hx
      have : i = l.length := by
        rcases Nat.eq_or_lt_of_le (Nat.le_of_not_lt hi) with e | e
        · exact e.symm
        · rw [List.getElem?_eq_none (by simp; omega)] at hx; cases hx
      subst this
      simp at hx
      subst hx
      rw [hl]
      exact ha

set_option maxRecDepth 100000 in
theorem ints_read {fuel : Nat} {cs : List Value} {y : DataW H × List MemPlace} (h : DataW.trod enc Tryz.prog W 0 (fun _ => true) true fuel 25 cs = some y) (hz : Fits 25 y.1) : ∃ v t, cs = [v] ∧ Ints W W.heap.size v t := by
  rcases open_ints Tryz.underlying25 Tryz.underlying3 (by kernel_rfl) h with ⟨hcs, hx⟩ | ⟨ad, len, cap, zs, hcs, _, hl, _, hzs, hx, hcell, _⟩
  · exact ⟨_, [], hcs, _, _, _, rfl, rfl, by omega, .none_⟩
  · have hlz : len ≤ zs.length := by rw [hzs]; split <;> omega
    subst hx
    have hb := Fits.len Tryz.underlying25 hz
    rw [show Tryz.prog.bytesOf 3 = 8 by kernel_rfl] at hb
    simp only [lits, List.length_map, List.length_take, List.length_drop] at hb
    refine ⟨_, zs.take len, hcs, _, _, _, rfl, by simp; omega, by omega, by simp; omega, fun hn => ⟨ad, rfl, ?_, fun j u hu => ?_⟩⟩
    · have h0 := cellLt (hcell 0 (by omega))
      rw [block_of_add] at h0
      exact h0
    · rw [List.getElem?_map, List.getElem?_take] at hu
      split at hu
      · rename_i hj
        rw [hcell j (by omega), ← hu, List.getD_eq_getElem?_getD, List.getElem?_eq_getElem (by omega)]
        rfl
      · cases hu

set_option maxRecDepth 100000 in
theorem tups_read {fuel : Nat} {cs : List Value} {y : DataW H × List MemPlace} (h : DataW.trod enc Tryz.prog W 0 (fun _ => true) true fuel 55 cs = some y) (hz : Fits 55 y.1) : ∃ v ts, cs = [v] ∧ Tups W W.heap.size v ts := by
  rcases DataW.trod_slice Tryz.underlying55 h with ⟨hcs, hx⟩ | ⟨ad, len, cap, es, rest, n, _, hcs, hx, _, hl, _, hel, hes, _, _⟩
  · exact ⟨_, [], hcs, _, _, _, rfl, rfl, by omega, fun h => absurd h (by omega)⟩
  · subst hx
    have hb := Fits.len Tryz.underlying55 hz
    rw [show Tryz.prog.bytesOf 25 = 24 by kernel_rfl] at hb
    simp only [List.length_map] at hb
    have each : ∀ i, i < len → ∃ t : List Int, ∃ u, W.cell? (ad.add i) = some u ∧ Ints W W.heap.size u t := fun i hi => by
      have h1 := hes i hi
      rw [show Tryz.prog.cellsOf 25 = 1 by kernel_rfl, Nat.mul_one, List.getElem?_eq_getElem (by omega)] at h1
      obtain ⟨c, hc, h2⟩ := Option.bind_eq_some_iff.1 h1
      obtain ⟨u, t, rfl, ht⟩ := ints_read h2 (Fits.elem Tryz.underlying55 hz (i := i) (by rw [List.getElem?_map, List.getElem?_eq_getElem (by omega)]; rfl))
      exact ⟨t, u, cell_of_cells?_one hc, ht⟩
    obtain ⟨ts, hts, hq⟩ := exists_list len each
    refine ⟨_, ts, hcs, _, _, _, rfl, hts.symm, by omega, fun hn => ⟨ad, rfl, ?_, fun j t ht => hq j t ht⟩⟩
    obtain ⟨t, u, hc, _⟩ := each 0 hn
    have h0 := cellLt hc
    rw [block_of_add] at h0
    exact h0

set_option maxRecDepth 100000 in
theorem rel_read {fuel : Nat} {cs : List Value} {y : DataW H × List MemPlace} (h : DataW.trod enc Tryz.prog W 0 (fun _ => true) true fuel 57 cs = some y) (hz : Fits 57 y.1) :
    ∃ (r : Sh.Rel) (u : Value), cs = [.string r.name, .int .i64 r.arity, u] ∧ Tups W W.heap.size u r.tuples ∧ r.name.size ≤ 140737488351232 := by
  obtain ⟨y0, y1, y2, n, hx, hlen, h0, h1, h2⟩ := trod_struct3 Tryz.underlying57 h
  subst hx
  rw [show Tryz.prog.cellsOf 57 = 3 by kernel_rfl] at hlen
  obtain ⟨c0, c1, c2, rfl⟩ : ∃ a b c, cs = [a, b, c] := by
    match cs, hlen with
    | [a, b, c], _ => exact ⟨a, b, c, rfl⟩
  have hfit : ∀ n ∈ DataW.weightsEach Tryz.prog [9, 3, 55] [y0.1, y1.1, y2.1], n ≤ 140737488351232 := fun n hn => hz n (by
    simp only [DataW.weights, Tryz.underlying57]
    exact hn)
  simp only [show Tryz.prog.cellsOf 9 = 1 by kernel_rfl, show Tryz.prog.cellsOf 3 = 1 by kernel_rfl, show Tryz.prog.cellsOf 55 = 1 by kernel_rfl] at h0 h1 h2
  obtain ⟨s, e0, hs, -⟩ := DataW.trod_string Tryz.underlying9 h0
  obtain ⟨k, e1, -, -⟩ := DataW.trod_int Tryz.underlying3 h1
  obtain ⟨u, ts, e2, ht⟩ := tups_read h2 (fun n hn => hfit n (by
    simp only [DataW.weightsEach]
    exact List.mem_append_right _ (List.mem_append_right _ (List.mem_append_left _ hn))))
  simp at e0 e1 e2
  subst e0 e1 e2
  refine ⟨⟨s, k, ts⟩, _, rfl, ht, ?_⟩
  have := hfit s.data.toList.length (by
    rw [hs]
    simp only [DataW.weightsEach, DataW.weights]
    exact List.mem_append_left _ (List.mem_cons_self ..))
  simpa using this

set_option maxRecDepth 100000 in
theorem rels_read {fuel : Nat} {cs : List Value} {y : DataW H × List MemPlace} (h : DataW.trod enc Tryz.prog W 0 (fun _ => true) true fuel 22 cs = some y) (hz : Fits 22 y.1) : ∃ v rs, cs = [v] ∧ Rels W W.heap.size v rs := by
  rcases DataW.trod_slice Tryz.underlying22 h with ⟨hcs, hx⟩ | ⟨ad, len, cap, es, rest, n, _, hcs, hx, _, hl, _, hel, hes, _, _⟩
  · exact ⟨_, [], hcs, _, _, _, rfl, rfl, by omega, fun h => absurd h (by omega)⟩
  · subst hx
    have hb := Fits.len Tryz.underlying22 hz
    rw [show Tryz.prog.bytesOf 57 = 48 by kernel_rfl] at hb
    simp only [List.length_map] at hb
    have each : ∀ i, i < len → ∃ r : Sh.Rel, ∃ u, W.cell? (ad.add (i * 3)) = some (.string r.name) ∧ W.cell? (ad.add (i * 3 + 1)) = some (.int .i64 r.arity) ∧ W.cell? (ad.add (i * 3 + 2)) = some u ∧ Tups W W.heap.size u r.tuples ∧ r.name.size ≤ 140737488351232 := fun i hi => by
      have h1 := hes i hi
      rw [show Tryz.prog.cellsOf 57 = 3 by kernel_rfl, List.getElem?_eq_getElem (by omega)] at h1
      obtain ⟨c, hc, h2⟩ := Option.bind_eq_some_iff.1 h1
      obtain ⟨r, u, rfl, ht, hn⟩ := rel_read h2 (Fits.elem Tryz.underlying22 hz (i := i) (by rw [List.getElem?_map, List.getElem?_eq_getElem (by omega)]; rfl))
      obtain ⟨-, -, hcell⟩ := World.cells?_some hc
      have q0 := hcell 0 (by omega)
      have q1 := hcell 1 (by omega)
      have q2 := hcell 2 (by omega)
      rw [add_of_add] at q0 q1 q2
      exact ⟨r, u, q0, q1, q2, ht, hn⟩
    obtain ⟨rs, hrs, hq⟩ := exists_list len each
    refine ⟨_, rs, hcs, _, _, _, rfl, hrs.symm, by omega, fun hn => ⟨ad, rfl, ?_, fun j r hr => hq j r hr⟩⟩
    obtain ⟨r, u, hc, _⟩ := each 0 hn
    have h0 := cellLt hc
    rw [block_of_add] at h0
    exact h0

set_option maxRecDepth 100000 in
/-- An argument of type Structure. -/
theorem str_of_trod {v : Value} {d : DataW H} {p : List MemPlace} {r : Reach} {b0 : Nat} (hv : Value.okWide Tryz.prog W r b0 24 v) (h : DataW.Trod enc Tryz.prog W 0 (fun _ => true) true 24 v d p) (hz : Fits 24 d) :
    ∃ (size : Int) (u : Value) (rs : List Sh.Rel), v = .agg #[.int .i64 size, u] ∧ Rels W W.heap.size u rs := by
  obtain ⟨c0, c1, y0, y1, m, rfl, rfl, -, h0, h1⟩ := Joins.open_agg2 Tryz.underlying24 (by kernel_rfl) (by kernel_rfl) hv h
  have hfit : ∀ n ∈ DataW.weightsEach Tryz.prog [3, 22] [y0.1, y1.1], n ≤ 140737488351232 := fun n hn => hz n (by
    simp only [DataW.weights, Tryz.underlying24]
    exact hn)
  obtain ⟨k, e0, -, -⟩ := DataW.trod_int Tryz.underlying3 h0
  obtain ⟨u, rs, e1, hr⟩ := rels_read h1 (fun n hn => hfit n (by
    simp only [DataW.weightsEach]
    exact List.mem_append_right _ (List.mem_append_left _ hn)))
  simp at e0 e1
  subst e0 e1
  exact ⟨k, _, rs, rfl, hr⟩
end

end Go.Proofs.YtelememdhpncgaaGreatDoor
