/-
  Walks: shape.copyTuple; append of a whole slice of ints that came in.
-/
import Derived.Test.YtbddchonhicpiaaDoorNew
import Derived.Test.YtbddchonhicpiaaDoorTuple
namespace Go.Proofs.YtbddchonhicpiaaDoor
open Go.RowKit

/-- Nothing is appended: the value and the world stay. -/
theorem run_append_none {P : Program} (w : World) (base : Nat) (t ty e : TypeId) (i : TypeInfo) (size : Nat) (ht : P.underlying t = some (.slice e)) (hi : P.info? e = some i)
    (v : Value) (n : Nat) (xs : List Value) (hown : w.ownsRow base e size v n xs) (c : Nat) : (Builtin.append_ #[t, t] ty #[v, .slice none 0 c]).run P w = .ok v w := by
  rcases hown.2 with ⟨rfl, rfl⟩ | ⟨g, cap, cur, rfl, -, -, hnc, -⟩
  · simp [Builtin.append_, run_underlying ht, sizeOf, typeInfo, hi, Builtin.lenOf, Builtin.firstCells]
  · simp [Builtin.append_, run_underlying ht, sizeOf, typeInfo, hi, Builtin.lenOf, Builtin.firstCells, hnc, storeCells]

/-- append of a slice of ints that came in (nil, empty or not) to a row of the call's own. -/
theorem append_ints {ops : Array Oper} {rest : List Oper} {o : Oper} {a : Act} {Q : Exit → Act → World → Prop} (w : World) (hgd : o.guard = none) (s x : Operand)
    (ho : o.op = .call { callee := .builtin .append, args := #[s, x], argTypes := #[35, 35] })
    (base : Nat) (v : Value) (n : Nat) (l : List Int) (hs : a.eval s = v) (hown : w.ownsRow base 3 1 v n (l.map (Value.int .i64)))
    (B : Nat) (u : Value) (t : List Int) (hx : a.eval x = u) (hu : Ints w B u t) (hn : n ≤ 1000000) (ht : t.length ≤ 1000000) (hbase : base ≤ w.heap.size)
    (h : ∀ v' w', w'.ownsRow base 3 1 v' (n + t.length) ((l ++ t).map (Value.int .i64)) → w.grownBy w' v.ownBlock → wpList Tryd.prog ops Q rest (a.put o.dst v') w') :
    wpList Tryd.prog ops Q (o :: rest) a w := by
  obtain ⟨i0, hi, hz0, hz1, hz2⟩ := info_parts int_info
  obtain ⟨A, m, c, rfl, rfl, -, hr⟩ := hu
  rcases A with _ | ad
  · have h0 : t = [] := by
      rcases t with _ | ⟨y, t⟩
      · rfl
      · obtain ⟨ad, e, -⟩ := hr.2 (by simp)
        cases e
    subst h0
    refine wpList_plain hgd fun K' hK' => ?_
    have hrun := run_append_none (P := Tryd.prog) w base 35 o.type 3 i0 1 Tryd.underlying35 hi v n _ hown c
    unfold Oper.wp execOp
    simp only [ho, resolve, invoke, builtin, Sem.run_bind, Sem.run_pure, Result.andThen_ok, List.map_toArray, List.map_cons, List.map_nil, hs, hx, List.length_nil, hrun]
    exact hK' _ _ (h v w (by simpa using hown) (World.grownBy.refl w _))
  · refine wpList_append_own w hgd s x 35 ho base 3 i0 _ 1 8 Tryd.underlying35 hi hz0 hz1 hz2 rfl (by decide) v n _ hs hown ad t.length c (t.map (Value.int .i64)) hx (by simp) ?_ ?_ (by unfold maxLen; omega) (by omega) hbase ?_
    · intro j y hy
      have hl : 0 < t.length := by
        have := (List.getElem?_eq_some_iff.1 hy).1
        rw [List.length_map] at this
        omega
      obtain ⟨ad', e, -, hc⟩ := hr.2 hl
      obtain rfl := Option.some.inj e
      exact hc j y hy
    · intro y hy
      obtain ⟨z, -, rfl⟩ := List.mem_map.1 hy
      rfl
    · intro v' w' h1 h2 _
      exact h v' w' (by rw [List.map_append]; exact h1) h2

theorem own_empty (w : World) (t : TypeId) (size : Nat) : (w.alloc (.cells #[] t)).ownsRow w.heap.size t size (.slice (some ⟨w.heap.size, 0, none⟩) 0 0) 0 [] := by
  refine ⟨by simp, .inr ⟨w.heap.size, 0, #[], rfl, Nat.le_refl _, heap_alloc_new w _, Nat.le_refl _, by unfold maxLen; omega, by simp, by simp⟩⟩

set_option maxRecDepth 100000 in
set_option maxHeartbeats 400000 in
theorem copytuple_any (v : Value) (t : List Int) (w : World) (B : Nat) (hB : B ≤ w.heap.size) (h : Ints w B v t) (ht : t.length ≤ 1000000) :
    Calls Tryd.prog 65 #[v] w fun e w' => ∃ u, e = .returned u ∧ NInts w' w.heap.size u t ∧ Below w.heap.size w w' := by
  go_enter Tryd.func65, Tryd.ntmps65
  go_wp2_with (at_builtin; refine append_ints _ rfl _ _ rfl w.heap.size _ 0 [] rfl (own_empty w 3 1) B v t rfl (h.below (((Below.refl _ _).alloc (Nat.le_refl _) _).mono hB)) (by omega) ht (by simp) ?_; intro v' w' hown hg)
  go_ret
  refine ⟨_, rfl, NInts.own (by simpa using hown) (Nat.le_refl _) (by omega), ?_⟩
  exact ((Below.refl _ _).alloc (Nat.le_refl _) _).grown hg (by simp) (fun g e => Nat.le_of_eq (Option.some.inj (show some w.heap.size = some g from e)))

end Go.Proofs.YtbddchonhicpiaaDoor
