/-
  The card of ShapeOwn: the row and the tied card.
-/
import Derived.Test.YtelememdhpncgaaGreatDoorJo7
import Derived.Test.YtelememdhpncgaaGreatDoorJo20
import Derived.Test.YtelememdhpncgaaGreatDoorJo23
import Derived.Test.YtelememdhpncgaaGreatDoorJo24
import Derived.ChangeMaps5
namespace Go.Proofs.YtelememdhpncgaaGreatDoor.shapeOwn
open Go.ChangeShapes Go.WideShapes Go.ChangeAt Go.RowKit Go.Joins Go.Deep

section
variable {H : Type} {enc : TypeId × Value → H} {W : World}
set_option maxRecDepth 100000 in
/-- An argument of type Change. -/
theorem chg_of_trod {v : Value} {d : DataW H} {p : List MemPlace} {r : Reach} {b0 : Nat} (hv : Value.okWide Tryz.prog W r b0 37 v) (h : DataW.Trod enc Tryz.prog W 0 (fun _ => true) true 37 v d p) (hz : Fits 37 d) :
    ∃ (nm : ByteArray) (u : Value) (t : List Int) (is : Bool), v = .agg #[.string nm, u, .bool is] ∧ Ints W W.heap.size u t := by
  obtain ⟨c0, c1, c2, y0, y1, y2, m, rfl, rfl, -, h0, h1, h2⟩ := Joins.open_agg3 Tryz.underlying37 (by kernel_rfl) (by kernel_rfl) hv h
  have hfit : ∀ n ∈ DataW.weightsEach Tryz.prog [9, 25, 4] [y0.1, y1.1, y2.1], n ≤ 140737488351232 := fun n hn => hz n (by
    simp only [DataW.weights, Tryz.underlying37]
    exact hn)
  obtain ⟨s, e0, -, -⟩ := DataW.trod_string Tryz.underlying9 h0
  obtain ⟨u, t, e1, ht⟩ := ints_read h1 (fun n hn => hfit n (by
    simp only [DataW.weightsEach]
    exact List.mem_append_right _ (List.mem_append_left _ hn)))
  obtain ⟨b, e2, -⟩ := DataW.trod_bool Tryz.underlying4 h2
  simp at e0 e1 e2
  subst e0 e1 e2
  exact ⟨s, _, t, b, rfl, ht⟩

set_option maxRecDepth 100000 in
theorem sym_read {fuel : Nat} {cs : List Value} {y : DataW H × List MemPlace} (h : DataW.trod enc Tryz.prog W 0 (fun _ => true) true fuel 72 cs = some y) (hz : Fits 72 y.1) :
    ∃ s : ByteArray × Int, cs = [.string s.1, .int .i64 s.2] ∧ s.1.size ≤ 140737488351232 := by
  obtain ⟨y0, y1, n, hx, hlen, h0, h1⟩ := trod_struct2 Tryz.underlying72 h
  subst hx
  rw [show Tryz.prog.cellsOf 72 = 2 by kernel_rfl] at hlen
  obtain ⟨c0, c1, rfl⟩ : ∃ a b, cs = [a, b] := by
    match cs, hlen with
    | [a, b], _ => exact ⟨a, b, rfl⟩
  have hfit : ∀ n ∈ DataW.weightsEach Tryz.prog [9, 3] [y0.1, y1.1], n ≤ 140737488351232 := fun n hn => hz n (by
    simp only [DataW.weights, Tryz.underlying72]
    exact hn)
  simp only [show Tryz.prog.cellsOf 9 = 1 by kernel_rfl, show Tryz.prog.cellsOf 3 = 1 by kernel_rfl] at h0 h1
  obtain ⟨s, e0, hs, -⟩ := DataW.trod_string Tryz.underlying9 h0
  obtain ⟨k, e1, -, -⟩ := DataW.trod_int Tryz.underlying3 h1
  simp at e0 e1
  subst e0 e1
  refine ⟨⟨s, k⟩, rfl, ?_⟩
  have := hfit s.data.toList.length (by
    rw [hs]
    simp only [DataW.weightsEach, DataW.weights]
    exact List.mem_append_left _ (List.mem_cons_self ..))
  simpa using this

set_option maxRecDepth 100000 in
theorem syms_read {fuel : Nat} {cs : List Value} {y : DataW H × List MemPlace} (h : DataW.trod enc Tryz.prog W 0 (fun _ => true) true fuel 38 cs = some y) (hz : Fits 38 y.1) : ∃ v ss, cs = [v] ∧ Syms W W.heap.size v ss ∧ SymFit ss := by
  rcases DataW.trod_slice Tryz.underlying38 h with ⟨hcs, hx⟩ | ⟨ad, len, cap, es, rest, n, _, hcs, hx, _, hl, _, hel, hes, _, _⟩
  · exact ⟨_, [], hcs, Syms.nil, fun s hs => by simp at hs⟩
  · subst hx
    have hb := Fits.len Tryz.underlying38 hz
    rw [show Tryz.prog.bytesOf 72 = 24 by kernel_rfl] at hb
    simp only [List.length_map] at hb
    have each : ∀ i, i < len → ∃ s : ByteArray × Int, W.cell? (ad.add (i * 2)) = some (.string s.1) ∧ W.cell? (ad.add (i * 2 + 1)) = some (.int .i64 s.2) ∧ s.1.size ≤ 140737488351232 := fun i hi => by
      have h1 := hes i hi
      rw [show Tryz.prog.cellsOf 72 = 2 by kernel_rfl, List.getElem?_eq_getElem (by omega)] at h1
      obtain ⟨c, hc, h2⟩ := Option.bind_eq_some_iff.1 h1
      obtain ⟨s, rfl, hn⟩ := sym_read h2 (Fits.elem Tryz.underlying38 hz (i := i) (by rw [List.getElem?_map, List.getElem?_eq_getElem (by omega)]; rfl))
      obtain ⟨-, -, hcell⟩ := World.cells?_some hc
      have q0 := hcell 0 (by omega)
      have q1 := hcell 1 (by omega)
      rw [add_of_add] at q0 q1
      exact ⟨s, q0, q1, hn⟩
    obtain ⟨ss, hss, hq⟩ := exists_list len each
    refine ⟨_, ss, hcs, ⟨_, _, _, rfl, hss.symm, by omega, fun hn => ⟨ad, ?_⟩⟩, ?_⟩
    · obtain ⟨s, hc, _⟩ := each 0 hn
      have h0 := cellLt hc
      rw [block_of_add] at h0
      exact ⟨rfl, h0, fun j s hs => ⟨(hq j s hs).1, (hq j s hs).2.1⟩⟩
    · intro s hs
      obtain ⟨j, hj, rfl⟩ := List.mem_iff_getElem.1 hs
      exact (hq j _ (List.getElem?_eq_getElem hj)).2.2

set_option maxRecDepth 100000 in
/-- An argument of type []Symbol. -/
theorem syms_of_trod {v : Value} {d : DataW H} {p : List MemPlace} {r : Reach} {b0 : Nat} (hv : Value.okWide Tryz.prog W r b0 38 v) (h : DataW.Trod enc Tryz.prog W 0 (fun _ => true) true 38 v d p) (hz : Fits 38 d) :
    ∃ ss, Syms W W.heap.size v ss ∧ SymFit ss := by
  obtain ⟨fuel, hf⟩ := h
  obtain ⟨A, n, c, rfl⟩ := okWide_slice Tryz.underlying38 hv
  obtain ⟨v', ss, e, hs, hn⟩ := syms_read hf hz
  simp [Value.cells] at e
  subst e
  exact ⟨ss, hs, hn⟩

set_option maxRecDepth 100000 in
/-- An argument of type Own. -/
theorem own_of_trod {v : Value} {d : DataW H} {p : List MemPlace} {r : Reach} {b0 : Nat} (hv : Value.okWide Tryz.prog W r b0 40 v) (h : DataW.Trod enc Tryz.prog W 0 (fun _ => true) true 40 v d p) (hz : Fits 40 d) :
    ∃ (x y : Value) (l : List Int) (ss : List (ByteArray × Int)), v = .agg #[x, y] ∧ Ints W W.heap.size x l ∧ Syms W W.heap.size y ss ∧ SymFit ss := by
  obtain ⟨c0, c1, y0, y1, m, rfl, rfl, -, h0, h1⟩ := Joins.open_agg2 Tryz.underlying40 (by kernel_rfl) (by kernel_rfl) hv h
  have hfit : ∀ n ∈ DataW.weightsEach Tryz.prog [25, 38] [y0.1, y1.1], n ≤ 140737488351232 := fun n hn => hz n (by
    simp only [DataW.weights, Tryz.underlying40]
    exact hn)
  obtain ⟨x, l, e0, hl⟩ := ints_read h0 (fun n hn => hfit n (by
    simp only [DataW.weightsEach]
    exact List.mem_append_left _ hn))
  obtain ⟨y, ss, e1, hs, hf⟩ := syms_read h1 (fun n hn => hfit n (by
    simp only [DataW.weightsEach]
    exact List.mem_append_right _ (List.mem_append_left _ hn)))
  simp at e0 e1
  subst e0 e1
  exact ⟨_, _, l, ss, rfl, hl, hs, hf⟩
end

theorem walk (size : Int) (v : Value) (rs : List Sh.Rel) (nm : ByteArray) (tv : Value) (t : List Int) (is : Bool) (pv : Value) (p : List Int) (sv : Value) (ss : List (ByteArray × Int)) (w : World) (h : Rels w w.heap.size v rs) (ht : Ints w w.heap.size tv t) (hp : Ints w w.heap.size pv p) (hss : Syms w w.heap.size sv ss) (hfit : SymFit ss) (hv : Vars w) (hw : 5 ≤ w.heap.size) :
    Calls Tryz.prog 4 #[.agg #[.int .i64 size, v], .agg #[.string nm, tv, .bool is], .agg #[pv, sv]] w fun e w' => e = .returned (.bool true) ∧ Below w.heap.size w w' := by
  by_cases c1 : 40 < ss.length
  · exact sown_offs size v rs nm tv t is pv p sv ss w h ht hp hss hfit hv hw c1
  by_cases c2 : 1000 < nm.size
  · exact sown_offn size v rs nm tv t is pv p sv ss w h ht hp hss hfit hv hw c2
  by_cases c3 : 60 < t.length
  · exact sown_offt size v rs nm tv t is pv p sv ss w h ht hp hss hfit hv hw c3
  by_cases c4 : 200 < p.length
  · exact sown_offp size v rs nm tv t is pv p sv ss w h ht hp hss hfit hv hw c4
  exact sown_main size v rs nm tv t is pv p sv ss w h ht hp hss hfit hv hw ⟨by omega, by omega, by omega, by omega⟩

set_option maxRecDepth 100000 in
theorem contract (H : Type) (enc : TypeId × Value → H) (W : World) (base : Nat) (args : Array Value) (ds gs : List (DataW H)) (before : List MemPlace)
    (hval : ∀ (j : Nat) t v, Tryz.f4.params[j]? = some t → args[j]? = some v → Value.okWide Tryz.prog W .any base t v)
    (hW : DataW.Whole enc Tryz.prog Tryz.f4.params.toList Rows.shapeOwnSpec.vars false W args.toList ds gs before)
    (hz : (DataW.weightsEach Tryz.prog (Tryz.f4.params.toList) ds).all (· ≤ reachBytes) = true)
    (hL : laidMet Tryz.prog laidList W) :
    Calls Tryz.prog 4 args W fun e W' => ∃ v, e = .returned v ∧ Rows.shapeOwnSpec.post enc Tryz.prog Tryz.f4 false true false false W args v W' := by
  have hW' := hW
  obtain ⟨p, q, hA0, hV, rfl, hfz, hnd⟩ := hW
  have hA : DataW.TrodAll enc Tryz.prog W 0 (fun _ => true) true Tryz.f4.params.toList args.toList ds p := hA0
  rw [Tryz.params4] at hA hval hz
  obtain ⟨rfl, rfl⟩ := trodVars_none hV
  obtain ⟨v0, vs0, d0, ds0, p0, q0, hargs, rfl, rfl, h0, r0⟩ := trodAll_cons hA
  obtain ⟨v1, vs1, d1, ds1, p1, q1, rfl, rfl, rfl, h1, r1⟩ := trodAll_cons r0
  obtain ⟨v2, vs2, d2, ds2, p2, q2, rfl, rfl, rfl, h2, r2⟩ := trodAll_cons r1
  obtain ⟨rfl, rfl, rfl⟩ := trodAll_nil r2
  obtain rfl : args = #[v0, v1, v2] := by cases args; simp_all
  have hz' : ∀ n ∈ DataW.weightsEach Tryz.prog [24, 37, 40] [d0, d1, d2], n ≤ 140737488351232 := fun n hn => of_decide_eq_true (List.all_eq_true.1 hz n hn)
  obtain ⟨size, u, rs, rfl, hrs⟩ := str_of_trod (hval 0 24 v0 rfl rfl) h0 (fun n hn => hz' n (DataW.weights_mem_each (j := 0) rfl rfl n hn))
  obtain ⟨nm, x, l, is, rfl, hl⟩ := chg_of_trod (hval 1 37 v1 rfl rfl) h1 (fun n hn => hz' n (DataW.weights_mem_each (j := 1) rfl rfl n hn))
  obtain ⟨px, sx, pl, ss, rfl, hpl, hss, hsf⟩ := own_of_trod (hval 2 40 v2 rfl rfl) h2 (fun n hn => hz' n (DataW.weights_mem_each (j := 2) rfl rfl n hn))
  obtain ⟨hv, hw⟩ := vars_of_laid hL
  refine (walk size u rs nm x l is px pl sx ss W hrs hl hpl hss hsf hv hw).mono fun e W' ⟨he, hb⟩ => ?_
  subst he
  exact ⟨_, rfl, post_true (by kernel_rfl) rfl rfl (by rw [Tryz.params4]; exact of_decide_eq_true (by kernel_rfl)) hW' hb⟩

noncomputable def W0 (os : Os) : World := World.laidAll Tryz.prog os laidList
def args0 : Array Value := #[.agg #[.int .i64 0, .slice none 0 0], .agg #[.string ⟨#[]⟩, .slice none 0 0, .bool false], .agg #[.slice none 0 0, .slice none 0 0]]
theorem laid_met (os : Os) : laidMet Tryz.prog laidList ((W0 os).forCall (fun _ _ => 0) ⟨#[], args0, []⟩).memory :=
  laidMet_laidAll args0 (by kernel_rfl) (by kernel_rfl)

set_option maxRecDepth 100000 in
theorem lifted (os : Os) (started : os.Started) (H : Type) (enc : TypeId × Value → H) (F : Stop.Interp) :
    ReturnsInHanded {} Tryz.checked os 4 .any ((OpenSpec.ofChange Rows.shapeOwnSpec).preRow enc Tryz.prog Tryz.f4 Rows.shapeOwnRow.domain false Rows.shapeOwnRow.laid) (((OpenSpec.ofChange Rows.shapeOwnSpec).at F).post enc Tryz.prog Tryz.f4 false true false false) := by
  have hx : (DataW.whole enc Tryz.prog ((W0 os).forCall (fun _ _ => 0) ⟨#[], args0, []⟩).memory Tryz.f4.params.toList Rows.shapeOwnSpec.vars false args0.toList 8).map (fun x => (x.1, x.2.1)) = some ([.agg [.lit (.int .i64 0), .nil], .agg [.lit (.string []), .nil, .lit (.bool false)], .agg [.nil, .nil]], []) := by kernel_rfl
  obtain ⟨⟨x1, x2, x3⟩, hx, hx1⟩ := Option.map_eq_some_iff.1 hx
  simp only [Prod.mk.injEq] at hx1
  obtain ⟨rfl, rfl⟩ := hx1
  refine returnsInHanded_of_row (C := Tryz.checked) (s := OpenSpec.ofChange Rows.shapeOwnSpec) own started (by kernel_rfl) Tryz.func4
    (witness_row_atRef (enc := enc) (C := Tryz.checked) false (W0 os) args0 (World.laidAll_os _ _ _) (by kernel_rfl) (by kernel_rfl) (by kernel_rfl)
      (OpenSpec.preRow_of_cond 8 hx (by kernel_rfl) (fun k hk => by cases hk) (by kernel_rfl) (laid_met os))) ?_
  intro W base args ds gs before hval hW _ _ hz hL _ _
  have hgs : gs = [] := by
    obtain ⟨p, q, _, hV, _⟩ := hW
    exact (trodVars_none hV).1
  subst hgs
  have hz' : (DataW.weightsEach Tryz.prog (Tryz.f4.params.toList ++ []) (ds ++ [])).all (· ≤ reachBytes) = true := hz
  rw [List.append_nil, List.append_nil] at hz'
  exact contract H enc W base args ds [] before hval hW hz' hL

theorem said : Rows.ShapeOwnSaid :=
  OpenClaim.holds_of_cond 4 Tryz.f4 rfl rfl rfl rfl rfl rfl rfl ⟨rfl, rfl, rfl, rfl, rfl⟩ rfl rfl rfl rfl rfl (by kernel_rfl) Tryz.func4 (by kernel_rfl)
    (of_decide_eq_true (by kernel_rfl)) (by unfold Func.isWrapper; first | (rw [if_pos (by decide +kernel)]; kernel_rfl) | (rw [if_neg (by decide +kernel)]; exact ⟨rfl, rfl⟩))
    (fun os started H enc _ F => by rw [OpenClaim.pre_eq_preRow]; exact lifted os started H enc F)

theorem plain (f : FuncId) (fn : Func) (hf : Tryz.pinned.checked.prog.funcNamed "paraphrast/paraphrastlaw01.ShapeOwn" = some f) (hfn : Tryz.pinned.checked.prog.funcs[f]? = some fn) :
    true = Tryz.pinned.checked.prog.looks [] ∧ ∀ (j : Nat) t, fn.params[j]? = some t → Tryz.pinned.checked.prog.wantsStandIn t = false := by
  obtain rfl : f = 4 := Option.some.inj ((show Tryz.prog.funcNamed "paraphrast/paraphrastlaw01.ShapeOwn" = some 4 by kernel_rfl).symm.trans hf) |>.symm
  obtain rfl : fn = Tryz.f4 := (Option.some.inj (Tryz.func4.symm.trans hfn)).symm
  refine ⟨by kernel_rfl, fun j t ht => ?_⟩
  rw [Tryz.params4] at ht
  have hm := Array.mem_of_getElem? ht
  have hall : (#[24, 37, 40] : Array TypeId).all (fun t => !Tryz.prog.wantsStandIn t) = true := by kernel_rfl
  have h1 := Array.all_eq_true_iff_forall_mem.1 hall t hm
  exact (Bool.not_eq_true' _).mp h1

/-- ████ THE CARD ████ -/
theorem card : Rows.ShapeOwnCardSaid :=
  Claim7.holds_tied_plain_at .later [] _ _ _ _ said (fun _ h => by cases h) (by kernel_rfl) (fun _ h => by cases h) shapeOwn_row_tie rfl ⟨rfl, rfl⟩ (by kernel_rfl) rfl plain (by kernel_rfl)

end Go.Proofs.YtelememdhpncgaaGreatDoor.shapeOwn
