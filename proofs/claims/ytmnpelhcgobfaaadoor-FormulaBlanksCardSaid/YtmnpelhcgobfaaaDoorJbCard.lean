/-
  Whatever text and whatever numbers it is given, FormulaBlanks returns true, and its arguments read as they did: the row and the tied card. Conditions: the row's own (the listed package variables hold what they were laid with).
-/
import Derived.Test.YtmnpelhcgobfaaaDoorJb21
import Derived.Test.YtmnpelhcgobfaaaDoorTie
import Derived.Test.YtmnpelhcgobfaaaDoorCards
import Derived.ChangeMaps5
namespace Go.Proofs.YtmnpelhcgobfaaaDoor.formulaBlanks
open Go.ChangeShapes Go.WideShapes Go.ChangeAt Go.RowKit Go.Joins

set_option maxRecDepth 100000 in
theorem bys_of_trod {H : Type} {enc : TypeId × Value → H} {W : World} {v : Value} {d : DataW H} {p : List MemPlace} {r : Reach} {b0 : Nat} (hv : Value.okWide Tryd.prog W r b0 22 v) (h : DataW.Trod enc Tryd.prog W 0 (fun _ => true) true 22 v d p)
    (hz : ∀ es sp, d = .slice es sp → (es.length + sp.length) * 1 ≤ 140737488351232) :
    ∃ A n c, v = .slice A n c ∧ n ≤ 140737488351232 ∧ (0 < n → ∃ ad, A = some ad ∧ ad.block < W.heap.size ∧ ByA W ad n) := by
  obtain ⟨fuel, hf⟩ := h
  obtain ⟨A, n, c, rfl⟩ := okWide_slice Tryd.underlying22 hv
  rcases open_ints Tryd.underlying22 Tryd.underlying5 (by kernel_rfl) hf with ⟨hcs, hx⟩ | ⟨ad, len, cap, zs, hcs, _, hl, _, hzs, hx, hcell, hwf⟩
  · simp [Value.cells] at hcs
    obtain ⟨rfl, rfl, rfl⟩ := hcs
    exact ⟨_, _, _, rfl, by omega, fun h => absurd h (by omega)⟩
  · simp [Value.cells] at hcs
    obtain ⟨rfl, rfl, rfl⟩ := hcs
    have hlz : n ≤ zs.length := by rw [hzs]; split <;> omega
    simp only [Prod.mk.injEq] at hx
    have hb := hz _ _ hx.1
    simp only [lits, List.length_map, List.length_take, List.length_drop] at hb
    refine ⟨_, _, _, rfl, by omega, fun hn => ⟨ad, rfl, ?_, fun j hj => ?_⟩⟩
    · have := cellLt (hcell 0 (by omega)); rwa [block_of_add] at this
    · have h1 := hcell j (by omega)
      rw [List.getD_eq_getElem?_getD, List.getElem?_eq_getElem (by omega), Option.getD_some] at h1
      have h2 := hwf zs[j] (List.getElem_mem _)
      simp [Lit.wf] at h2
      rw [show IntKind.u8.min = 0 by decide, show IntKind.u8.max = 255 by decide] at h2
      refine ⟨zs[j].toNat, by omega, ?_⟩
      rw [h1, Int.toNat_of_nonneg h2.1]

set_option maxRecDepth 100000 in
theorem contract (H : Type) (enc : TypeId × Value → H) (W : World) (base : Nat) (args : Array Value) (ds gs : List (DataW H)) (before : List MemPlace)
    (hval : ∀ (j : Nat) t v, Tryd.f3.params[j]? = some t → args[j]? = some v → Value.okWide Tryd.prog W .any base t v)
    (hW : DataW.Whole enc Tryd.prog Tryd.f3.params.toList Rows.formulaBlanksSpec.vars false W args.toList ds gs before)
    (hz : (DataW.weightsEach Tryd.prog (Tryd.f3.params.toList) ds).all (· ≤ reachBytes) = true)
    (hL : laidMet Tryd.prog laidList W) :
    Calls Tryd.prog 3 args W fun e W' => ∃ v, e = .returned v ∧ Rows.formulaBlanksSpec.post enc Tryd.prog Tryd.f3 false true false false W args v W' := by
  have hW' := hW
  obtain ⟨p, q, hA0, hV, rfl, hfz, hnd⟩ := hW
  have hA : DataW.TrodAll enc Tryd.prog W 0 (fun _ => true) true Tryd.f3.params.toList args.toList ds p := hA0
  rw [Tryd.params3] at hA hval hz
  obtain ⟨rfl, rfl⟩ := trodVars_none hV
  obtain ⟨v0, vs0, d0, ds0, p0, q0, hargs, rfl, rfl, h0, r0⟩ := trodAll_cons hA
  obtain ⟨v1, vs1, d1, ds1, p1, q1, rfl, rfl, rfl, h1, r1⟩ := trodAll_cons r0
  obtain ⟨rfl, rfl, rfl⟩ := trodAll_nil r1
  obtain rfl : args = #[v0, v1] := by cases args; simp_all
  obtain ⟨text, rfl, rfl, -, -⟩ := Go.ChangeMaps.open_string Tryd.underlying9 (hval 0 9 v0 rfl rfl) h0
  have hz' : ∀ n ∈ DataW.weightsEach Tryd.prog [9, 22] [_, d1], n ≤ 140737488351232 := fun n hn => of_decide_eq_true (List.all_eq_true.1 hz n hn)
  have hn : text.size ≤ 140737488351232 := by
    have := hz' text.data.toList.length (DataW.weights_mem_each (j := 0) rfl rfl _ (List.mem_cons_self ..))
    simpa using this
  obtain ⟨A, m, c, rfl, hm, hA⟩ := bys_of_trod (hval 1 22 v1 rfl rfl) h1 (fun es sp e => by
    subst e
    have := sized_slice hz (j := 1) rfl rfl Tryd.underlying22
    rw [show Tryd.prog.bytesOf 5 = 1 by kernel_rfl] at this
    exact this)
  have hw := words_of_laid hL
  refine (fblanks_any text A m c W hn hm hA hw).mono fun e W' ⟨he, hb⟩ => ?_
  subst he
  exact ⟨_, rfl, post_true (by kernel_rfl) rfl rfl (by rw [Tryd.params3]; exact of_decide_eq_true (by kernel_rfl)) hW' hb⟩

noncomputable def W0 (os : Os) : World := World.laidAll Tryd.prog os laidList
def args0 : Array Value := #[.string ⟨#[]⟩, .slice none 0 0]
theorem laid_met (os : Os) : laidMet Tryd.prog laidList ((W0 os).forCall (fun _ _ => 0) ⟨#[], args0, []⟩).memory :=
  laidMet_laidAll args0 (by kernel_rfl) (by kernel_rfl)

set_option maxRecDepth 100000 in
theorem lifted (os : Os) (started : os.Started) (H : Type) (enc : TypeId × Value → H) (F : Stop.Interp) :
    ReturnsInHanded {} Tryd.checked os 3 .any ((OpenSpec.ofChange Rows.formulaBlanksSpec).preRow enc Tryd.prog Tryd.f3 Rows.formulaBlanksRow.domain false Rows.formulaBlanksRow.laid) (((OpenSpec.ofChange Rows.formulaBlanksSpec).at F).post enc Tryd.prog Tryd.f3 false true false false) := by
  have hx : (DataW.whole enc Tryd.prog ((W0 os).forCall (fun _ _ => 0) ⟨#[], args0, []⟩).memory Tryd.f3.params.toList Rows.formulaBlanksSpec.vars false args0.toList 8).map (fun x => (x.1, x.2.1)) = some ([.lit (.string []), .nil], []) := by kernel_rfl
  obtain ⟨⟨x1, x2, x3⟩, hx, hx1⟩ := Option.map_eq_some_iff.1 hx
  simp only [Prod.mk.injEq] at hx1
  obtain ⟨rfl, rfl⟩ := hx1
  refine returnsInHanded_of_row (C := Tryd.checked) (s := OpenSpec.ofChange Rows.formulaBlanksSpec) own started (by kernel_rfl) Tryd.func3
    (witness_row_atRef (enc := enc) (C := Tryd.checked) false (W0 os) args0 (World.laidAll_os _ _ _) (by kernel_rfl) (by kernel_rfl) (by kernel_rfl)
      (OpenSpec.preRow_of_cond 8 hx (by kernel_rfl) (fun k hk => by cases hk) (by kernel_rfl) (laid_met os))) ?_
  intro W base args ds gs before hval hW _ _ hz hL _ _
  have hgs : gs = [] := by
    obtain ⟨p, q, _, hV, _⟩ := hW
    exact (trodVars_none hV).1
  subst hgs
  have hz' : (DataW.weightsEach Tryd.prog (Tryd.f3.params.toList ++ []) (ds ++ [])).all (· ≤ reachBytes) = true := hz
  rw [List.append_nil, List.append_nil] at hz'
  exact contract H enc W base args ds [] before hval hW hz' hL

theorem said : Rows.FormulaBlanksSaid :=
  OpenClaim.holds_of_cond 3 Tryd.f3 rfl rfl rfl rfl rfl rfl rfl ⟨rfl, rfl, rfl, rfl, rfl⟩ rfl rfl rfl rfl rfl (by kernel_rfl) Tryd.func3 (by kernel_rfl)
    (of_decide_eq_true (by kernel_rfl)) (by unfold Func.isWrapper; first | (rw [if_pos (by decide +kernel)]; kernel_rfl) | (rw [if_neg (by decide +kernel)]; exact ⟨rfl, rfl⟩))
    (fun os started H enc _ F => by rw [OpenClaim.pre_eq_preRow]; exact lifted os started H enc F)

theorem plain (f : FuncId) (fn : Func) (hf : Tryd.pinned.checked.prog.funcNamed "paraphrast/paraphrastlaw02.FormulaBlanks" = some f) (hfn : Tryd.pinned.checked.prog.funcs[f]? = some fn) :
    true = Tryd.pinned.checked.prog.looks [] ∧ ∀ (j : Nat) t, fn.params[j]? = some t → Tryd.pinned.checked.prog.wantsStandIn t = false := by
  obtain rfl : f = 3 := Option.some.inj ((show Tryd.prog.funcNamed "paraphrast/paraphrastlaw02.FormulaBlanks" = some 3 by kernel_rfl).symm.trans hf) |>.symm
  obtain rfl : fn = Tryd.f3 := (Option.some.inj (Tryd.func3.symm.trans hfn)).symm
  refine ⟨by kernel_rfl, fun j t ht => ?_⟩
  rw [Tryd.params3] at ht
  have hm := Array.mem_of_getElem? ht
  have hall : (#[9, 22] : Array TypeId).all (fun t => !Tryd.prog.wantsStandIn t) = true := by kernel_rfl
  have h1 := Array.all_eq_true_iff_forall_mem.1 hall t hm
  exact (Bool.not_eq_true' _).mp h1

/-- ████ THE CARD ████ -/
theorem card : Rows.FormulaBlanksCardSaid :=
  Claim7.holds_tied_plain_at .later [] _ _ _ _ said (fun _ h => by cases h) (by kernel_rfl) (fun _ h => by cases h) formulaBlanks_row_tie rfl ⟨rfl, rfl⟩ (by kernel_rfl) rfl plain (by kernel_rfl)

end Go.Proofs.YtmnpelhcgobfaaaDoor.formulaBlanks
