/-
  Rows of the call's own: appends of tuples and of relations as steps of a region; rows that read as tuples, as relations.
-/
import Derived.Test.YtbddchonhicpiaaDoorNew
import Derived.Test.YtbddchonhicpiaaDoorTuple
import Derived.Deep.RegionHeld3
namespace Go.Proofs.YtbddchonhicpiaaDoor
open Go.RowKit

theorem tups_info : (Tryd.prog.info? 35).map (fun i => (i.zero, i.size, i.bytes)) = some (some (.slice none 0 0), 1, 24) := by kernel_rfl

/-- append of one slice value to a row of the call's own, as one step of a region that draws. -/
theorem step_append_tup {ops : Array Oper} {o : Oper} {a : Act} {K : Act → World → Prop} {Q : Exit → Act → World → Prop} {E : Prop} (w : World) (hgd : o.guard = none) (s x : Operand)
    (ho : o.op = .call { callee := .builtin .append, args := #[s, x], argTypes := #[49, 49] })
    (base : Nat) (v : Value) (n : Nat) (xs : List Value) (hs : a.eval s = v) (hown : w.ownsRow base 35 1 v n xs)
    (ad : Addr) (c : Nat) (y : Value) (hx : a.eval x = .slice (some ad) 1 c) (hc : w.cell? ad = some y) (hy : y.oneCell' = true) (hn : n ≤ 1000000) (hbase : base ≤ w.heap.size)
    (h : ∀ v' w', w'.ownsRow base 35 1 v' (n + 1) (xs ++ [y]) → w.grownBy w' v.ownBlock → K (a.put o.dst v') w') :
    if Region.wanted o (yielded ops a.tmps) = true then Oper.wp Tryd.prog o a w K Q else E := by
  obtain ⟨i0, hi, hz0, hz1, hz2⟩ := info_parts tups_info
  have hw : Region.wanted o (yielded ops a.tmps) = true := by simp [Region.wanted, hgd]
  rw [if_pos hw]
  refine wp_append_own w s x 49 ho base 35 i0 (.slice none 0 0) 1 24 Tryd.underlying49 hi hz0 hz1 hz2 rfl (by decide) v n _ hs hown ad 1 c [y] hx rfl ?_ ?_ (by unfold maxLen; omega) (by omega) hbase ?_
  · intro j u hu
    rcases j with _ | j
    · simp at hu; rw [← hu]; exact hc
    · simp at hu
  · intro u hu; simp at hu; rw [hu]; exact hy
  · intro v' w' h1 h2 _
    exact h v' w' h1 h2

/-- The slice values us are tuples of the call's own. -/
def Elems (w : World) (L : Nat) (us : List Value) (ts : List (List Int)) : Prop := ∀ (j : Nat) (u : Value) (t : List Int), us[j]? = some u → ts[j]? = some t → NInts w L u t
theorem Elems.keep {w w' : World} {L : Nat} {us : List Value} {ts : List (List Int)} (h : Elems w L us ts) (hk : Keeps L [3] w w') : Elems w' L us ts := fun j u t h1 h2 => (h j u t h1 h2).keep hk
theorem Elems.snoc {w : World} {L : Nat} {us : List Value} {ts : List (List Int)} (h : Elems w L us ts) (hl : us.length = ts.length) {u : Value} {t : List Int} (hu : NInts w L u t) : Elems w L (us ++ [u]) (ts ++ [t]) := by
  intro j u' t' h1 h2
  by_cases hj : j < us.length
  · rw [List.getElem?_append_left hj] at h1
    rw [List.getElem?_append_left (by omega)] at h2
    exact h j u' t' h1 h2
  · rw [List.getElem?_append_right (by omega)] at h1
    rw [List.getElem?_append_right (by omega)] at h2
    have hj0 : j - us.length = 0 := by
      have := (List.getElem?_eq_some_iff.1 h1).1
      simp at this; omega
    rw [hj0] at h1
    rw [show j - ts.length = 0 by omega] at h2
    simp at h1 h2
    rw [← h1, ← h2]; exact hu

theorem rel_info : (Tryd.prog.info? 51).map (fun i => (i.zero, i.size, i.bytes)) = some (some (.agg #[.string ⟨#[]⟩, .int .i64 0, .slice none 0 0]), 3, 48) := by kernel_rfl

/-- append of one relation to a row of the call's own, as one step of a region that draws. -/
theorem step_append_rel {ops : Array Oper} {o : Oper} {a : Act} {K : Act → World → Prop} {Q : Exit → Act → World → Prop} {E : Prop} (w : World) (hgd : o.guard = none) (s x : Operand)
    (ho : o.op = .call { callee := .builtin .append, args := #[s, x], argTypes := #[22, 22] })
    (base : Nat) (v : Value) (n : Nat) (xs : List Value) (hs : a.eval s = v) (hown : w.ownsRow base 51 3 v n xs)
    (g : Nat) (c : Nat) (y0 y1 y2 : Value) (hx : a.eval x = .slice (some ⟨g, 0, none⟩) 1 c) (hc : Blk w g 51 #[y0, y1, y2]) (h0 : y0.oneCell' = true) (h1 : y1.oneCell' = true) (h2 : y2.oneCell' = true) (hn : n ≤ 1000000) (hbase : base ≤ w.heap.size)
    (h : ∀ v' w', w'.ownsRow base 51 3 v' (n + 1) (xs ++ [y0, y1, y2]) → w.grownBy w' v.ownBlock → K (a.put o.dst v') w') :
    if Region.wanted o (yielded ops a.tmps) = true then Oper.wp Tryd.prog o a w K Q else E := by
  obtain ⟨i0, hi, hz0, hz1, hz2⟩ := info_parts rel_info
  have hw : Region.wanted o (yielded ops a.tmps) = true := by simp [Region.wanted, hgd]
  rw [if_pos hw]
  refine wp_append_own w s x 22 ho base 51 i0 _ 3 48 Tryd.underlying22 hi hz0 hz1 hz2 rfl (by decide) v n _ hs hown ⟨g, 0, none⟩ 1 c [y0, y1, y2] hx rfl ?_ ?_ (by unfold maxLen; omega) (by omega) hbase ?_
  · intro j u hu
    have e : (Addr.mk g 0 none).add j = ⟨g, j, none⟩ := by unfold Addr.add; split <;> simp_all
    rw [e, hc.cell j]
    simpa using hu
  · intro u hu
    simp at hu
    rcases hu with rfl | rfl | rfl <;> assumption
  · intro v' w' h1 h2 _
    exact h v' w' h1 h2

/-- A row's cells are those of the relations rs, whose tuples are the slices us. -/
def RCells (xs us : List Value) (rs : List Sh.Rel) : Prop :=
  xs.length = rs.length * 3 ∧ us.length = rs.length ∧ ∀ (j : Nat) (r : Sh.Rel), rs[j]? = some r → xs[j * 3]? = some (.string r.name) ∧ xs[j * 3 + 1]? = some (.int .i64 r.arity) ∧ xs[j * 3 + 2]? = us[j]?
theorem RCells.nil : RCells [] [] [] := ⟨rfl, rfl, fun j r h => by simp at h⟩
theorem RCells.snoc {xs us : List Value} {rs : List Sh.Rel} (h : RCells xs us rs) (r : Sh.Rel) (u : Value) : RCells (xs ++ [.string r.name, .int .i64 r.arity, u]) (us ++ [u]) (rs ++ [r]) := by
  obtain ⟨h1, h2, h3⟩ := h
  refine ⟨by simp [h1]; omega, by simp [h2], fun j r' hr => ?_⟩
  by_cases hj : j < rs.length
  · rw [List.getElem?_append_left hj] at hr
    obtain ⟨a, b, c⟩ := h3 j r' hr
    rw [List.getElem?_append_left (by omega), List.getElem?_append_left (by omega), List.getElem?_append_left (by omega), List.getElem?_append_left (by omega)]
    exact ⟨a, b, c⟩
  · rw [List.getElem?_append_right (by omega)] at hr
    have hj0 : j = rs.length := by
      have := (List.getElem?_eq_some_iff.1 hr).1
      simp at this; omega
    subst hj0
    simp at hr
    subst hr
    rw [List.getElem?_append_right (by omega), List.getElem?_append_right (by omega), List.getElem?_append_right (by omega), List.getElem?_append_right (by omega)]
    rw [show rs.length * 3 - xs.length = 0 by omega, show rs.length * 3 + 1 - xs.length = 1 by omega, show rs.length * 3 + 2 - xs.length = 2 by omega, show rs.length - us.length = 0 by omega]
    exact ⟨rfl, rfl, rfl⟩
/-- The tuples of the relations are the call's own. -/
def RElems (w : World) (L : Nat) (us : List Value) (rs : List Sh.Rel) : Prop := ∀ (j : Nat) (u : Value) (r : Sh.Rel), us[j]? = some u → rs[j]? = some r → NTups w L u r.tuples ∧ r.name.size ≤ 140737488351232
theorem RElems.keep {w w' : World} {L : Nat} {us : List Value} {rs : List Sh.Rel} (h : RElems w L us rs) (hk : Keeps L [3, 35] w w') : RElems w' L us rs := fun j u r h1 h2 => ⟨(h j u r h1 h2).1.keep hk, (h j u r h1 h2).2⟩
theorem RElems.snoc {w : World} {L : Nat} {us : List Value} {rs : List Sh.Rel} (h : RElems w L us rs) (hl : us.length = rs.length) {u : Value} {r : Sh.Rel} (hu : NTups w L u r.tuples) (hz : r.name.size ≤ 140737488351232) : RElems w L (us ++ [u]) (rs ++ [r]) := by
  intro j u' r' h1 h2
  by_cases hj : j < us.length
  · rw [List.getElem?_append_left hj] at h1
    rw [List.getElem?_append_left (by omega)] at h2
    exact h j u' r' h1 h2
  · rw [List.getElem?_append_right (by omega)] at h1
    rw [List.getElem?_append_right (by omega)] at h2
    have hj0 : j - us.length = 0 := by
      have := (List.getElem?_eq_some_iff.1 h1).1
      simp at this; omega
    rw [hj0] at h1
    rw [show j - rs.length = 0 by omega] at h2
    simp at h1 h2
    rw [← h1, ← h2]; exact ⟨hu, hz⟩
theorem NRels.own {w : World} {L base : Nat} {v : Value} {n : Nat} {xs us : List Value} {rs : List Sh.Rel} (h : w.ownsRow base 51 3 v n xs) (hL : L ≤ base) (hn : n ≤ 140737488351232) (hc : RCells xs us rs) (he : RElems w L us rs) : NRels w L v rs := by
  obtain ⟨A, c, rfl⟩ := own_slice h
  have hl := h.1
  obtain ⟨h1, h2, h3⟩ := hc
  refine ⟨A, n, c, rfl, by omega, hn, fun h0 => ?_⟩
  obtain ⟨ad, cs, rfl, g1, g2, g3⟩ := own_at h h0
  refine ⟨ad, cs, rfl, by omega, g2, fun j r hr => ?_⟩
  obtain ⟨a, b, d⟩ := h3 j r hr
  have hj : j < us.length := by have := (List.getElem?_eq_some_iff.1 hr).1; omega
  rw [List.getElem?_eq_getElem hj] at d
  exact ⟨us[j], g3 _ _ a, g3 _ _ b, g3 _ _ d, (he j _ r (List.getElem?_eq_getElem hj) hr).1, (he j _ r (List.getElem?_eq_getElem hj) hr).2⟩

end Go.Proofs.YtbddchonhicpiaaDoor
