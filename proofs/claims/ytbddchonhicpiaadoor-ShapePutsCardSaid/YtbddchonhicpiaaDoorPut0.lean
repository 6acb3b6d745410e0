/-
  Memory for Put: one relation's row of tuples is changed in the copy.
-/
import Derived.Test.YtbddchonhicpiaaDoorCopyof
import Derived.Test.YtbddchonhicpiaaDoorInsgrow
import Derived.Test.YtbddchonhicpiaaDoorDelete
import Derived.Test.YtbddchonhicpiaaDoorSpec5
namespace Go.Proofs.YtbddchonhicpiaaDoor
open Go.RowKit

theorem elems_one {w : World} {L : Nat} {us : List Value} {ts : List (List Int)} (h : Elems w L us ts) (hl : us.length = ts.length) : ∀ u ∈ us, u.oneCell' = true := by
  intro u hu
  obtain ⟨j, hj, rfl⟩ := List.mem_iff_getElem.1 hu
  obtain ⟨A, n, c, e, -⟩ := h j _ _ (List.getElem?_eq_getElem hj) (List.getElem?_eq_getElem (show j < ts.length by omega))
  rw [e]; rfl
theorem ins_at' {α : Type} {us : List α} {y : α} {i j : Nat} {u : α} (hi : i ≤ us.length) (h : (us.take i ++ y :: us.drop i)[j]? = some u) : (j < i ∧ us[j]? = some u) ∨ (j = i ∧ u = y) ∨ (i < j ∧ us[j - 1]? = some u) := by
  have hl : (us.take i).length = i := by rw [List.length_take]; omega
  by_cases h1 : j < i
  · rw [List.getElem?_append_left (by omega), List.getElem?_take, if_pos h1] at h
    exact .inl ⟨h1, h⟩
  · rw [List.getElem?_append_right (by omega), hl] at h
    by_cases h2 : j = i
    · subst h2
      rw [Nat.sub_self] at h
      exact .inr (.inl ⟨rfl, (Option.some.inj h).symm⟩)
    · rw [show j - i = (j - (i + 1)) + 1 by omega, List.getElem?_cons_succ, List.getElem?_drop, show i + (j - (i + 1)) = j - 1 by omega] at h
      exact .inr (.inr ⟨by omega, h⟩)
theorem del_at' {α : Type} {us : List α} {i j : Nat} {u : α} (hi : i ≤ us.length) (h : (us.take i ++ us.drop (i + 1))[j]? = some u) : (j < i ∧ us[j]? = some u) ∨ (i ≤ j ∧ us[j + 1]? = some u) := by
  have hl : (us.take i).length = i := by rw [List.length_take]; omega
  by_cases h1 : j < i
  · rw [List.getElem?_append_left (by omega), List.getElem?_take, if_pos h1] at h
    exact .inl ⟨h1, h⟩
  · rw [List.getElem?_append_right (by omega), hl, List.getElem?_drop, show i + 1 + (j - i) = j + 1 by omega] at h
    exact .inr ⟨by omega, h⟩
theorem elems_insert {w : World} {L : Nat} {us : List Value} {ts : List (List Int)} (h : Elems w L us ts) (hl : us.length = ts.length) {i : Nat} (hi : i ≤ us.length) {y : Value} {t : List Int} (hy : NInts w L y t) : Elems w L (us.take i ++ y :: us.drop i) (ts.take i ++ t :: ts.drop i) := by
  intro j u x h1 h2
  rcases ins_at' hi h1 with ⟨a, b⟩ | ⟨a, rfl⟩ | ⟨a, b⟩ <;> rcases ins_at' (by omega) h2 with ⟨c, d⟩ | ⟨c, rfl⟩ | ⟨c, d⟩ <;> first | omega | exact h _ u x b d | exact hy
theorem elems_delete {w : World} {L : Nat} {us : List Value} {ts : List (List Int)} (h : Elems w L us ts) (hl : us.length = ts.length) {i : Nat} (hi : i ≤ us.length) : Elems w L (us.take i ++ us.drop (i + 1)) (ts.take i ++ ts.drop (i + 1)) := by
  intro j u x h1 h2
  rcases del_at' hi h1 with ⟨a, b⟩ | ⟨a, b⟩ <;> rcases del_at' (by omega) h2 with ⟨c, d⟩ | ⟨c, d⟩ <;> first | omega | exact h _ u x b d

/-- Rows of two types lie in two blocks. -/
theorem own_types {w : World} {b1 b2 n1 n2 s1 s2 : Nat} {e1 e2 : TypeId} {v1 v2 : Value} {x1 x2 : List Value} (h1 : w.ownsRow b1 e1 s1 v1 n1 x1) (h2 : w.ownsRow b2 e2 s2 v2 n2 x2) (hne : e1 ≠ e2) : v1.ownBlock = none ∨ v1.ownBlock ≠ v2.ownBlock := by
  rcases h1.2 with ⟨rfl, -⟩ | ⟨g1, c1, k1, rfl, -, hh1, -⟩
  · exact .inl rfl
  · refine .inr fun e => ?_
    rcases h2.2 with ⟨rfl, -⟩ | ⟨g2, c2, k2, rfl, -, hh2, -⟩
    · cases e
    · have hg : g1 = g2 := Option.some.inj (show some g1 = some g2 from e)
      subst hg
      rw [hh1] at hh2
      injection hh2 with hh2
      injection hh2 with _ hh2
      exact hne hh2

theorem rcells_set {xs vs : List Value} {rs : List Sh.Rel} (h : RCells xs vs rs) {i : Nat} {r r' : Sh.Rel} (hr : rs[i]? = some r) (hn : r'.name = r.name) (ha : r'.arity = r.arity) (v' : Value) : RCells (xs.set (i * 3 + 2) v') (vs.set i v') (rs.set i r') := by
  obtain ⟨h1, h2, h3⟩ := h
  have hi := (List.getElem?_eq_some_iff.1 hr).1
  refine ⟨by rw [List.length_set, List.length_set]; exact h1, by rw [List.length_set, List.length_set]; exact h2, fun j x hx => ?_⟩
  by_cases e : j = i
  · subst e
    rw [List.getElem?_set_self hi] at hx
    have := Option.some.inj hx
    subst this
    obtain ⟨a, b, -⟩ := h3 j r hr
    rw [List.getElem?_set_ne (by omega), List.getElem?_set_ne (by omega), List.getElem?_set_self (by omega), List.getElem?_set_self (by omega), hn, ha]
    exact ⟨a, b, rfl⟩
  · rw [List.getElem?_set_ne (fun h => e h.symm)] at hx
    obtain ⟨a, b, c⟩ := h3 j x hx
    have hj := (List.getElem?_eq_some_iff.1 hx).1
    rw [List.getElem?_set_ne (by omega), List.getElem?_set_ne (by omega), List.getElem?_set_ne (by omega), List.getElem?_set_ne (fun h => e h.symm)]
    exact ⟨a, b, c⟩

theorem put_final {w3 w8 : World} {L n cap g i m : Nat} {xs vs us' : List Value} {rs : List Sh.Rel} {r r' : Sh.Rel} {vi v' : Value} (hn : n = rs.length) (hn9 : n ≤ 1000000)
    (hx : w3.ownsRow L 51 3 (.slice (some ⟨g, 0, none⟩) n cap) n xs) (hc : RCells xs vs rs) (ho : ROwn w3 L vs rs) (hr : rs[i]? = some r) (hv : vs[i]? = some vi) (hname : r'.name = r.name) (har : r'.arity = r.arity)
    (hg : w3.grownBy w8 vi.ownBlock) (ho' : w8.ownsRow L 35 1 v' m us') (hm : m ≤ 1000000) (hlen : us'.length = r'.tuples.length) (he : Elems w8 L us' r'.tuples) :
    NRels (w8.setCell ⟨g, i * 3 + 2, none⟩ v') L (.slice (some ⟨g, 0, none⟩) n cap) (rs.set i r') := by
  have hi := (List.getElem?_eq_some_iff.1 hr).1
  obtain ⟨hz, ht, us, hul, hd, hel⟩ := ho.1 i vi r hv hr
  have hx8 : w8.ownsRow L 51 3 (.slice (some ⟨g, 0, none⟩) n cap) n xs := hx.kept hg (own_types hx hd (by decide))
  have hx9 := hx8.stored (i * 3 + 2) v'
  have hbg : ∃ cs, w8.heap[g]? = some (.cells cs 51 (0, 0)) := by
    rcases hx8.2 with ⟨h, -⟩ | ⟨g2, c2, k2, h, -, hh, -⟩
    · injection h with h _ _; cases h
    · injection h with h _ _
      have := Option.some.inj h
      injection this with this _ _
      subst this
      exact ⟨_, hh⟩
  obtain ⟨cs, hcs⟩ := hbg
  have hk9 : Keeps L [3, 35] w8 (w8.setCell ⟨g, i * 3 + 2, none⟩ v') := Keeps.setCell (p := ⟨g, i * 3 + 2, none⟩) hcs (by decide) _
  have hk8 : Keeps L [3] w3 w8 := Keeps.own hg hd (by decide)
  refine NRels.own hx9.1 (Nat.le_refl _) (by omega) (rcells_set hc hr hname har v') (fun j u x h1 h2 => ?_)
  by_cases e : j = i
  · subst e
    rw [List.getElem?_set_self (by have := hc.2.1; omega)] at h1
    rw [List.getElem?_set_self hi] at h2
    have e1 := Option.some.inj h1
    have e2 := Option.some.inj h2
    subst e1 e2
    exact ⟨(NTups.own ho' (Nat.le_refl _) (by omega) hlen he).keep hk9, by rw [hname]; exact hz⟩
  · rw [List.getElem?_set_ne (fun h => e h.symm)] at h1
    rw [List.getElem?_set_ne (fun h => e h.symm)] at h2
    obtain ⟨hz2, ht2, us2, hul2, hd2, hel2⟩ := ho.1 j u x h1 h2
    have hne : u.ownBlock = none ∨ u.ownBlock ≠ vi.ownBlock := by
      cases hu : u.ownBlock with
      | none => exact .inl rfl
      | some b =>
        refine .inr fun hh => ?_
        rcases Nat.lt_or_gt_of_ne e with hlt | hlt
        · exact ho.2 j i u vi b hlt h1 hv hu hh.symm
        · exact ho.2 i j vi u b hlt hv h1 hh.symm hu
    exact ⟨(NTups.own (hd2.kept hg hne) (Nat.le_refl _) (by omega) hul2 (hel2.keep hk8)).keep hk9, hz2⟩

end Go.Proofs.YtbddchonhicpiaaDoor
