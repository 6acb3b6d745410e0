/-
  Walk: ShapeMakes at more than 40 symbols; an argument []Symbol.
-/
import Derived.Test.YtjkaicpohihncaaDoorSmakes
import Derived.Test.YtjkaicpohihncaaDoorArgs
namespace Go.Proofs.YtjkaicpohihncaaDoor
open Go.ChangeShapes Go.WideShapes Go.ChangeAt Go.RowKit Go.Deep

set_option maxRecDepth 100000 in
set_option maxHeartbeats 2000000 in
theorem smakes_many (n : Int) (v u : Value) (ss : List (ByteArray × Int)) (size : Int) (rs : List Sh.Rel) (w : World) (h : Rels w w.heap.size v rs) (g : Syms w w.heap.size u ss) (hf : SymFit ss) (hv : Vars w) (hw : 5 ≤ w.heap.size) (h40 : 40 < ss.length) :
    Calls Tryd.prog 8 #[.int .i64 n, u, .agg #[.int .i64 size, v]] w fun e w' => e = .returned (.bool true) ∧ Below w.heap.size w w' := by
  have h' := h
  obtain ⟨A, len, c, rfl, -⟩ := h'
  have g' := g
  obtain ⟨A', m, c', rfl, -⟩ := g'
  have hb1 := (Below.refl w.heap.size w).alloc (Nat.le_refl _) (.cells #[.int .i64 size, .slice A len c] 24)
  have hbel := (hb1.alloc (by simp) (.cells #[.int .i64 size, .slice A len c] 24))
  have hvar := Blk.new (w.alloc (.cells #[.int .i64 size, .slice A len c] 24)) 24 #[.int .i64 size, .slice A len c]
  rw [World.size_alloc] at hvar
  have hrels := h.below hbel
  have hvs := hv.below hbel hw
  have hg2 := g.below hbel
  have Hbel2 := Lib.hid hbel; clear hbel
  have Hvar := Lib.hid hvar; clear hvar
  have Hrels := Lib.hid hrels; clear hrels
  have Hvs := Lib.hid hvs; clear hvs
  have Hg2 := Lib.hid hg2; clear hg2
  have Hf := Lib.hid hf; clear hf
  clear hb1
  go_enter Tryd.func8, Tryd.ntmps8
  go_wp2_with (first
    | (go_at_call 12
       refine (few_any (w.heap.size + 1) size A len c _ rs _ Hvar.out Hrels.out).mono ?_
       rintro e w1 ⟨⟨b1, rfl⟩, rfl⟩)
    | (go_at_call 38
       refine (fewsyms_many _ ss _ w.heap.size Hg2.out Hf.out h40).mono ?_
       rintro e w1 ⟨rfl, rfl⟩)
    | (go_at_call 13
       refine (alive_any _ Hvs.out (Nat.le_trans hw Hbel2.out.size)).mono ?_
       rintro e w2 ⟨rfl, hb2⟩
       have Hb2 := Lib.hid (Hbel2.out.trans (hb2.mono Hbel2.out.size))))
  all_goals (
    refine ⟨rfl, .bool true, ?_, rfl, Hb2.out⟩
    simp [results, Tryd.results8, Tryd.f8, go_sem])

section
variable {H : Type} {enc : TypeId × Value → H} {W : World}
set_option maxRecDepth 100000 in
theorem sym_read {fuel : Nat} {cs : List Value} {y : DataW H × List MemPlace} (h : DataW.trod enc Tryd.prog W 0 (fun _ => true) true fuel 85 cs = some y) (hz : Fits 85 y.1) :
    ∃ s : ByteArray × Int, cs = [.string s.1, .int .i64 s.2] ∧ s.1.size ≤ 140737488351232 := by
  obtain ⟨y0, y1, n, hx, hlen, h0, h1⟩ := trod_struct2 Tryd.underlying85 h
  subst hx
  rw [show Tryd.prog.cellsOf 85 = 2 by kernel_rfl] at hlen
  obtain ⟨c0, c1, rfl⟩ : ∃ a b, cs = [a, b] := by
    match cs, hlen with
    | [a, b], _ => exact ⟨a, b, rfl⟩
  have hfit : ∀ n ∈ DataW.weightsEach Tryd.prog [9, 3] [y0.1, y1.1], n ≤ 140737488351232 := fun n hn => hz n (by
    simp only [DataW.weights, Tryd.underlying85]
    exact hn)
  simp only [show Tryd.prog.cellsOf 9 = 1 by kernel_rfl, show Tryd.prog.cellsOf 3 = 1 by kernel_rfl] at h0 h1
  obtain ⟨s, e0, hs, -⟩ := DataW.trod_string Tryd.underlying9 h0
  obtain ⟨k, e1, -, -⟩ := DataW.trod_int Tryd.underlying3 h1
  simp at e0 e1
  subst e0 e1
  refine ⟨⟨s, k⟩, rfl, ?_⟩
  have := hfit s.data.toList.length (by
    rw [hs]
    simp only [DataW.weightsEach, DataW.weights]
    exact List.mem_append_left _ (List.mem_cons_self ..))
  simpa using this

set_option maxRecDepth 100000 in
theorem syms_read {fuel : Nat} {cs : List Value} {y : DataW H × List MemPlace} (h : DataW.trod enc Tryd.prog W 0 (fun _ => true) true fuel 27 cs = some y) (hz : Fits 27 y.1) : ∃ v ss, cs = [v] ∧ Syms W W.heap.size v ss ∧ SymFit ss := by
  rcases DataW.trod_slice Tryd.underlying27 h with ⟨hcs, hx⟩ | ⟨ad, len, cap, es, rest, n, _, hcs, hx, _, hl, _, hel, hes, _, _⟩
  · exact ⟨_, [], hcs, Syms.nil, fun s hs => by simp at hs⟩
  · subst hx
    have hb := Fits.len Tryd.underlying27 hz
    rw [show Tryd.prog.bytesOf 85 = 24 by kernel_rfl] at hb
    simp only [List.length_map] at hb
    have each : ∀ i, i < len → ∃ s : ByteArray × Int, W.cell? (ad.add (i * 2)) = some (.string s.1) ∧ W.cell? (ad.add (i * 2 + 1)) = some (.int .i64 s.2) ∧ s.1.size ≤ 140737488351232 := fun i hi => by
      have h1 := hes i hi
      rw [show Tryd.prog.cellsOf 85 = 2 by kernel_rfl, List.getElem?_eq_getElem (by omega)] at h1
      obtain ⟨c, hc, h2⟩ := Option.bind_eq_some_iff.1 h1
      obtain ⟨s, rfl, hn⟩ := sym_read h2 (Fits.elem Tryd.underlying27 hz (i := i) (by rw [List.getElem?_map, List.getElem?_eq_getElem (by omega)]; rfl))
      obtain ⟨-, -, hcell⟩ := World.cells?_some hc
      have q0 := hcell 0 (by omega)
      have q1 := hcell 1 (by omega)
      rw [add_of_add] at q0 q1
      exact ⟨s, q0, q1, hn⟩
    obtain ⟨ss, hss, hq⟩ := exists_list len each
    refine ⟨_, ss, hcs, ⟨_, _, _, rfl, hss.symm, by omega, fun hn => ⟨ad, ?_⟩⟩, ?_⟩
    · obtain ⟨s, hc, _⟩ := each 0 hn
      have h0 := cellLt hc
      rw [block_of_add] at h0
      exact ⟨rfl, h0, fun j s hs => ⟨(hq j s hs).1, (hq j s hs).2.1⟩⟩
    · intro s hs
      obtain ⟨j, hj, rfl⟩ := List.mem_iff_getElem.1 hs
      exact (hq j _ (List.getElem?_eq_getElem hj)).2.2

set_option maxRecDepth 100000 in
/-- An argument of type []Symbol. -/
theorem syms_of_trod {v : Value} {d : DataW H} {p : List MemPlace} {r : Reach} {b0 : Nat} (hv : Value.okWide Tryd.prog W r b0 27 v) (h : DataW.Trod enc Tryd.prog W 0 (fun _ => true) true 27 v d p) (hz : Fits 27 d) :
    ∃ ss, Syms W W.heap.size v ss ∧ SymFit ss := by
  obtain ⟨fuel, hf⟩ := h
  obtain ⟨A, n, c, rfl⟩ := okWide_slice Tryd.underlying27 hv
  obtain ⟨v', ss, e, hs, hn⟩ := syms_read hf hz
  simp [Value.cells] at e
  subst e
  exact ⟨ss, hs, hn⟩
end

end Go.Proofs.YtjkaicpohihncaaDoor
