/-
  The card of ShapePuts: the row and the tied card.
-/
import Derived.Test.YtbddchonhicpiaaDoorClose
import Derived.Test.YtbddchonhicpiaaDoorSputs
import Derived.Test.YtbddchonhicpiaaDoorArgs
import Derived.ChangeMaps5
namespace Go.Proofs.YtbddchonhicpiaaDoor.shapePuts
open Go.ChangeShapes Go.WideShapes Go.ChangeAt Go.RowKit Go.Joins Go.Deep

section
variable {H : Type} {enc : TypeId × Value → H} {W : World}
set_option maxRecDepth 100000 in
/-- An argument of type Change. -/
theorem chg_of_trod {v : Value} {d : DataW H} {p : List MemPlace} {r : Reach} {b0 : Nat} (hv : Value.okWide Tryd.prog W r b0 47 v) (h : DataW.Trod enc Tryd.prog W 0 (fun _ => true) true 47 v d p) (hz : Fits 47 d) :
    ∃ (nm : ByteArray) (u : Value) (t : List Int) (is : Bool), v = .agg #[.string nm, u, .bool is] ∧ Ints W W.heap.size u t := by
  obtain ⟨c0, c1, c2, y0, y1, y2, m, rfl, rfl, -, h0, h1, h2⟩ := Joins.open_agg3 Tryd.underlying47 (by kernel_rfl) (by kernel_rfl) hv h
  have hfit : ∀ n ∈ DataW.weightsEach Tryd.prog [9, 35, 4] [y0.1, y1.1, y2.1], n ≤ 140737488351232 := fun n hn => hz n (by
    simp only [DataW.weights, Tryd.underlying47]
    exact hn)
  obtain ⟨s, e0, -, -⟩ := DataW.trod_string Tryd.underlying9 h0
  obtain ⟨u, t, e1, ht⟩ := ints_read h1 (fun n hn => hfit n (by
    simp only [DataW.weightsEach]
    exact List.mem_append_right _ (List.mem_append_left _ hn)))
  obtain ⟨b, e2, -⟩ := DataW.trod_bool Tryd.underlying4 h2
  simp at e0 e1 e2
  subst e0 e1 e2
  exact ⟨s, _, t, b, rfl, ht⟩
end

set_option maxRecDepth 100000 in
theorem contract (H : Type) (enc : TypeId × Value → H) (W : World) (base : Nat) (args : Array Value) (ds gs : List (DataW H)) (before : List MemPlace)
    (hval : ∀ (j : Nat) t v, Tryd.f6.params[j]? = some t → args[j]? = some v → Value.okWide Tryd.prog W .any base t v)
    (hW : DataW.Whole enc Tryd.prog Tryd.f6.params.toList Rows.shapePutsSpec.vars false W args.toList ds gs before)
    (hz : (DataW.weightsEach Tryd.prog (Tryd.f6.params.toList) ds).all (· ≤ reachBytes) = true)
    (hL : laidMet Tryd.prog laidList W) :
    Calls Tryd.prog 6 args W fun e W' => ∃ v, e = .returned v ∧ Rows.shapePutsSpec.post enc Tryd.prog Tryd.f6 false true false false W args v W' := by
  have hW' := hW
  obtain ⟨p, q, hA0, hV, rfl, hfz, hnd⟩ := hW
  have hA : DataW.TrodAll enc Tryd.prog W 0 (fun _ => true) true Tryd.f6.params.toList args.toList ds p := hA0
  rw [Tryd.params6] at hA hval hz
  obtain ⟨rfl, rfl⟩ := trodVars_none hV
  obtain ⟨v0, vs0, d0, ds0, p0, q0, hargs, rfl, rfl, h0, r0⟩ := trodAll_cons hA
  obtain ⟨v1, vs1, d1, ds1, p1, q1, rfl, rfl, rfl, h1, r1⟩ := trodAll_cons r0
  obtain ⟨rfl, rfl, rfl⟩ := trodAll_nil r1
  obtain rfl : args = #[v0, v1] := by cases args; simp_all
  have hz' : ∀ n ∈ DataW.weightsEach Tryd.prog [24, 47] [d0, d1], n ≤ 140737488351232 := fun n hn => of_decide_eq_true (List.all_eq_true.1 hz n hn)
  obtain ⟨size, u, rs, rfl, hrs⟩ := str_of_trod (hval 0 24 v0 rfl rfl) h0 (fun n hn => hz' n (DataW.weights_mem_each (j := 0) rfl rfl n hn))
  obtain ⟨nm, x, l, is, rfl, hl⟩ := chg_of_trod (hval 1 47 v1 rfl rfl) h1 (fun n hn => hz' n (DataW.weights_mem_each (j := 1) rfl rfl n hn))
  obtain ⟨hv, hw⟩ := vars_of_laid hL
  refine (sputs_any size u rs nm x l is W hrs hl hv hw).mono fun e W' ⟨he, hb⟩ => ?_
  subst he
  exact ⟨_, rfl, post_true (by kernel_rfl) rfl rfl (by rw [Tryd.params6]; exact of_decide_eq_true (by kernel_rfl)) hW' hb⟩

noncomputable def W0 (os : Os) : World := World.laidAll Tryd.prog os laidList
def args0 : Array Value := #[.agg #[.int .i64 0, .slice none 0 0], .agg #[.string ⟨#[]⟩, .slice none 0 0, .bool false]]
theorem laid_met (os : Os) : laidMet Tryd.prog laidList ((W0 os).forCall (fun _ _ => 0) ⟨#[], args0, []⟩).memory :=
  laidMet_laidAll args0 (by kernel_rfl) (by kernel_rfl)

set_option maxRecDepth 100000 in
theorem lifted (os : Os) (started : os.Started) (H : Type) (enc : TypeId × Value → H) (F : Stop.Interp) :
    ReturnsInHanded {} Tryd.checked os 6 .any ((OpenSpec.ofChange Rows.shapePutsSpec).preRow enc Tryd.prog Tryd.f6 Rows.shapePutsRow.domain false Rows.shapePutsRow.laid) (((OpenSpec.ofChange Rows.shapePutsSpec).at F).post enc Tryd.prog Tryd.f6 false true false false) := by
  have hx : (DataW.whole enc Tryd.prog ((W0 os).forCall (fun _ _ => 0) ⟨#[], args0, []⟩).memory Tryd.f6.params.toList Rows.shapePutsSpec.vars false args0.toList 8).map (fun x => (x.1, x.2.1)) = some ([.agg [.lit (.int .i64 0), .nil], .agg [.lit (.string []), .nil, .lit (.bool false)]], []) := by kernel_rfl
  obtain ⟨⟨x1, x2, x3⟩, hx, hx1⟩ := Option.map_eq_some_iff.1 hx
  simp only [Prod.mk.injEq] at hx1
  obtain ⟨rfl, rfl⟩ := hx1
  refine returnsInHanded_of_row (C := Tryd.checked) (s := OpenSpec.ofChange Rows.shapePutsSpec) own started (by kernel_rfl) Tryd.func6
    (witness_row_atRef (enc := enc) (C := Tryd.checked) false (W0 os) args0 (World.laidAll_os _ _ _) (by kernel_rfl) (by kernel_rfl) (by kernel_rfl)
      (OpenSpec.preRow_of_cond 8 hx (by kernel_rfl) (fun k hk => by cases hk) (by kernel_rfl) (laid_met os))) ?_
  intro W base args ds gs before hval hW _ _ hz hL _ _
  have hgs : gs = [] := by
    obtain ⟨p, q, _, hV, _⟩ := hW
    exact (trodVars_none hV).1
  subst hgs
  have hz' : (DataW.weightsEach Tryd.prog (Tryd.f6.params.toList ++ []) (ds ++ [])).all (· ≤ reachBytes) = true := hz
  rw [List.append_nil, List.append_nil] at hz'
  exact contract H enc W base args ds [] before hval hW hz' hL

theorem said : Rows.ShapePutsSaid :=
  OpenClaim.holds_of_cond 6 Tryd.f6 rfl rfl rfl rfl rfl rfl rfl ⟨rfl, rfl, rfl, rfl, rfl⟩ rfl rfl rfl rfl rfl (by kernel_rfl) Tryd.func6 (by kernel_rfl)
    (of_decide_eq_true (by kernel_rfl)) (by unfold Func.isWrapper; first | (rw [if_pos (by decide +kernel)]; kernel_rfl) | (rw [if_neg (by decide +kernel)]; exact ⟨rfl, rfl⟩))
    (fun os started H enc _ F => by rw [OpenClaim.pre_eq_preRow]; exact lifted os started H enc F)

theorem plain (f : FuncId) (fn : Func) (hf : Tryd.pinned.checked.prog.funcNamed "paraphrast/paraphrastlaw01.ShapePuts" = some f) (hfn : Tryd.pinned.checked.prog.funcs[f]? = some fn) :
    true = Tryd.pinned.checked.prog.looks [] ∧ ∀ (j : Nat) t, fn.params[j]? = some t → Tryd.pinned.checked.prog.wantsStandIn t = false := by
  obtain rfl : f = 6 := Option.some.inj ((show Tryd.prog.funcNamed "paraphrast/paraphrastlaw01.ShapePuts" = some 6 by kernel_rfl).symm.trans hf) |>.symm
  obtain rfl : fn = Tryd.f6 := (Option.some.inj (Tryd.func6.symm.trans hfn)).symm
  refine ⟨by kernel_rfl, fun j t ht => ?_⟩
  rw [Tryd.params6] at ht
  have hm := Array.mem_of_getElem? ht
  have hall : (#[24, 47] : Array TypeId).all (fun t => !Tryd.prog.wantsStandIn t) = true := by kernel_rfl
  have h1 := Array.all_eq_true_iff_forall_mem.1 hall t hm
  exact (Bool.not_eq_true' _).mp h1

/-- ████ THE CARD ████ -/
theorem card : Rows.ShapePutsCardSaid :=
  Claim7.holds_tied_plain_at .later [] _ _ _ _ said (fun _ h => by cases h) (by kernel_rfl) (fun _ h => by cases h) shapePuts_row_tie rfl ⟨rfl, rfl⟩ (by kernel_rfl) rfl plain (by kernel_rfl)

end Go.Proofs.YtbddchonhicpiaaDoor.shapePuts
