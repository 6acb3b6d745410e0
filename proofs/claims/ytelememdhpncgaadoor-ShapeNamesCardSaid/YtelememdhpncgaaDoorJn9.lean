/-
  Texts joined: Renm, Snamesm, Permf, Copyof, Copya.
-/
import Derived.Test.YtelememdhpncgaaDoorJn8
import Derived.Test.YtelememdhpncgaaDoorJn4
import Derived.Test.YtelememdhpncgaaDoorJn6
import Derived.Test.YtelememdhpncgaaDoorJn7
import Derived.Test.YtelememdhpncgaaDoorJn1

/-
  Plain mathematics: a structure with renamed elements.
-/
namespace Go.Proofs.YtelememdhpncgaaDoor
namespace Sh

/-- The relations with renamed elements, their tuples in rising order. -/
def renRel (p : List Int) (r : Rel) : Rel := ⟨r.name, r.arity, sortR (r.tuples.map (renT p))⟩
def renR (p : List Int) (rs : List Rel) : List Rel := rs.map (renRel p)
/-- The first k are renamed. -/
def midR (p : List Int) (rs : List Rel) (k : Nat) : List Rel := (rs.take k).map (renRel p) ++ rs.drop k
theorem midR_zero (p : List Int) (rs : List Rel) : midR p rs 0 = rs := by simp [midR]
theorem midR_all (p : List Int) (rs : List Rel) {k : Nat} (h : rs.length ≤ k) : midR p rs k = renR p rs := by
  unfold midR renR; rw [List.take_of_length_le h, List.drop_eq_nil_of_le h, List.append_nil]
theorem midR_len (p : List Int) (rs : List Rel) (k : Nat) : (midR p rs k).length = rs.length := by
  unfold midR; simp; omega
theorem midR_at (p : List Int) {rs : List Rel} {k : Nat} {r : Rel} (h : rs[k]? = some r) : (midR p rs k)[k]? = some r := by
  have hk := (List.getElem?_eq_some_iff.1 h).1
  unfold midR
  rw [List.getElem?_append_right (by simp; omega)]
  rw [List.getElem?_drop, ← h]
  congr 1
  simp; omega
theorem midR_set (p : List Int) {rs : List Rel} {k : Nat} {r : Rel} (h : rs[k]? = some r) : (midR p rs k).set k (renRel p r) = midR p rs (k + 1) := by
  obtain ⟨hk, rfl⟩ := List.getElem?_eq_some_iff.1 h
  have hlen : ((rs.take k).map (renRel p)).length = k := by simp; omega
  unfold midR
  rw [List.set_append_right _ _ (by omega), hlen, Nat.sub_self, List.drop_eq_getElem_cons hk, List.set_cons_zero, List.take_succ_eq_append_getElem hk, List.map_append, List.append_assoc]
  rfl

theorem renT_len (p t : List Int) : (renT p t).length = t.length := by unfold renT; simp
theorem ren_long {p : List Int} {a : Nat} {ts : List (List Int)} (h : Long a ts) : Long a (ts.map (renT p)) := fun t ht => by
  obtain ⟨s, hs, rfl⟩ := List.mem_map.1 ht
  rw [renT_len]; exact h s hs
/-- Whatever rises and has the renamed tuples is the renamed relation. -/
theorem ren_eq {p : List Int} {a : Nat} {ts ts' : List (List Int)} (h : Long a ts) (hp : ts'.Perm (ts.map (·.map fun x => p.getD x.toNat 0))) (hr : Rising ts') : ts' = sortR (ts.map (renT p)) := by
  have hs := sortR_ok (ren_long (p := p) h)
  refine rising_ext hr hs.1 fun x => ?_
  rw [hs.2.2 x]
  exact hp.mem_iff
theorem rel_long {size : Int} {r : Rel} (h : relB size r = true) : Long r.arity.toNat r.tuples := fun t ht => by
  have := (((relB_iff size r).1 h).2.2.2 t ht).1
  omega

theorem getD_in {p : List Int} {n : Int} (h : inB n p = true) {k : Nat} (hk : k < p.length) : okB n (p.getD k 0) = true := by
  rw [List.getD_eq_getElem?_getD, List.getElem?_eq_getElem hk]
  exact List.all_eq_true.1 h _ (List.getElem_mem hk)
theorem okB_toNat {n x : Int} (h : okB n x = true) : x.toNat < n.toNat := by have := okB_get h; omega
theorem renT_in {n : Int} {p t : List Int} (hq : permB n p = true) (h : inB n t = true) : inB n (renT p t) = true := by
  refine List.all_eq_true.2 fun x hx => ?_
  obtain ⟨y, hy, rfl⟩ := List.mem_map.1 hx
  have h1 := okB_get (List.all_eq_true.1 h y hy)
  have h2 := permB_get hq
  exact getD_in h2.2.1 (by omega)
theorem ren_mem {size : Int} {p : List Int} {r : Rel} (h : relB size r = true) (x : List Int) : x ∈ (renRel p r).tuples ↔ ∃ t ∈ r.tuples, renT p t = x := by
  show x ∈ sortR _ ↔ _
  rw [(sortR_ok (ren_long (p := p) (rel_long h))).2.2 x, List.mem_map]
theorem ren_relB {size : Int} {p : List Int} {r : Rel} (hq : permB size p = true) (h : relB size r = true) : relB size (renRel p r) = true := by
  have h' := (relB_iff size r).1 h
  have hs := sortR_ok (ren_long (p := p) (rel_long h))
  refine (relB_iff size _).2 ⟨h'.1, h'.2.1, hs.1, fun t ht => ?_⟩
  obtain ⟨s, hs, rfl⟩ := (ren_mem h t).1 ht
  have h1 := h'.2.2.2 s hs
  exact ⟨by rw [renT_len]; exact h1.1, renT_in hq h1.2⟩
theorem ren_names (p : List Int) (rs : List Rel) : (renR p rs).map (·.name.toList) = rs.map (·.name.toList) := by
  unfold renR; rw [List.map_map]; rfl
theorem ren_valid {size : Int} {rs : List Rel} {p : List Int} (hv : validB ⟨size, rs⟩ = true) (hq : permB size p = true) : validB ⟨size, renR p rs⟩ = true := by
  have h := (validB_iff size rs).1 hv
  refine (validB_iff size _).2 ⟨h.1, h.2.1, by unfold renR; simpa using h.2.2.1, fun r hr => ?_, by rw [ren_names]; exact h.2.2.2.2⟩
  obtain ⟨s, hs, rfl⟩ := List.mem_map.1 hr
  exact ren_relB hq (h.2.2.2.1 s hs)

/-- b undoes p. -/
def Undo (p b : List Int) : Prop := ∀ k : Nat, k < p.length → b.getD (p.getD k 0).toNat 0 = k
theorem renT_back {n : Int} {p b t : List Int} (hq : permB n p = true) (hu : Undo p b) (h : inB n t = true) : renT b (renT p t) = t := by
  unfold renT
  rw [List.map_map]
  refine (List.map_congr_left fun x hx => ?_).trans (List.map_id t)
  have h1 := okB_get (List.all_eq_true.1 h x hx)
  have h2 := permB_get hq
  show b.getD (p.getD x.toNat 0).toNat 0 = x
  rw [hu x.toNat (by omega)]
  omega
theorem renRel_back {n : Int} {p b : List Int} {r : Rel} (hq : permB n p = true) (hu : Undo p b) (h : relB n r = true) : renRel b (renRel p r) = r := by
  have h' := (relB_iff n r).1 h
  have e : sortR ((sortR (r.tuples.map (renT p))).map (renT b)) = r.tuples := by
    have hs := sortR_ok (ren_long (p := p) (rel_long h))
    have hs2 := sortR_ok (ren_long (p := b) hs.2.1)
    refine rising_ext hs2.1 h'.2.2.1 fun x => ?_
    rw [hs2.2.2 x, List.mem_map]
    constructor
    · rintro ⟨y, hy, rfl⟩
      rw [hs.2.2 y] at hy
      obtain ⟨z, hz, rfl⟩ := List.mem_map.1 hy
      rw [renT_back hq hu (h'.2.2.2 z hz).2]
      exact hz
    · intro hx
      refine ⟨renT p x, (hs.2.2 _).2 (List.mem_map.2 ⟨x, hx, rfl⟩), renT_back hq hu (h'.2.2.2 x hx).2⟩
  show (⟨r.name, r.arity, sortR ((sortR (r.tuples.map (renT p))).map (renT b))⟩ : Rel) = r
  rw [e]
theorem renR_back {n : Int} {p b : List Int} {rs : List Rel} (hv : validB ⟨n, rs⟩ = true) (hq : permB n p = true) (hu : Undo p b) : renR b (renR p rs) = rs := by
  have h := (validB_iff n rs).1 hv
  unfold renR
  rw [List.map_map]
  refine (List.map_congr_left fun r hr => ?_).trans (List.map_id rs)
  exact renRel_back hq hu (h.2.2.2.1 r hr)
theorem undo_permB {n : Int} {p b : List Int} (hq : permB n p = true) (hb : b.length = p.length) (hu : Undo p b) : permB n b = true := by
  obtain ⟨h1, h2, h3⟩ := permB_get hq
  have hin : ∀ x ∈ p, 0 ≤ x ∧ x.toNat < p.length := fun x hx => by
    have := okB_get (List.all_eq_true.1 h2 x hx)
    omega
  -- p is onto: its places' numbers are a rising row's members
  have honto : ∀ j : Nat, j < p.length → ∃ k : Nat, k < p.length ∧ p.getD k 0 = j := fun j hj => by
    have hnd : (p.map Int.toNat).Nodup := by
      refine List.pairwise_map.2 (List.Pairwise.imp_of_mem (fun {a c} ha hc hac e => hac ?_) h3)
      have := hin a ha
      have := hin c hc
      omega
    have hm : j ∈ p.map Int.toNat := by
      rcases Classical.em (j ∈ p.map Int.toNat) with h | h
      · exact h
      · have hle := List.Nodup.length_le_of_subset (List.nodup_cons.2 ⟨h, hnd⟩) (l₂ := List.range p.length) (fun y hy => by
          rcases List.mem_cons.1 hy with rfl | hy
          · exact List.mem_range.2 hj
          · obtain ⟨x, hx, rfl⟩ := List.mem_map.1 hy
            exact List.mem_range.2 (hin x hx).2)
        simp at hle
        omega
    obtain ⟨x, hx, he⟩ := List.mem_map.1 hm
    obtain ⟨k, hk, hkx⟩ := List.mem_iff_getElem.1 hx
    refine ⟨k, hk, ?_⟩
    rw [List.getD_eq_getElem?_getD, List.getElem?_eq_getElem hk, hkx]
    have := (hin x hx).1
    show x = j
    omega
  have hbk : ∀ j : Nat, j < b.length → ∃ k : Nat, k < p.length ∧ b.getD j 0 = k ∧ p.getD k 0 = j := fun j hj => by
    obtain ⟨k, hk, he⟩ := honto j (by omega)
    have := hu k hk
    rw [he] at this
    exact ⟨k, hk, by simpa using this, he⟩
  unfold permB
  simp only [Bool.and_eq_true, decide_eq_true_eq]
  refine ⟨⟨by omega, List.all_eq_true.2 fun x hx => ?_⟩, ?_⟩
  · obtain ⟨j, hj, rfl⟩ := List.mem_iff_getElem.1 hx
    obtain ⟨k, hk, he, -⟩ := hbk j hj
    rw [List.getD_eq_getElem?_getD, List.getElem?_eq_getElem hj] at he
    have he' : b[j] = (k : Int) := he
    rw [he']
    exact okB_true (by omega) (by omega)
  · refine List.pairwise_iff_getElem.2 fun i j hi hj hij he => ?_
    obtain ⟨k, hk, e1, e2⟩ := hbk i hi
    obtain ⟨m, hm, e3, e4⟩ := hbk j hj
    rw [List.getD_eq_getElem?_getD, List.getElem?_eq_getElem hi] at e1
    rw [List.getD_eq_getElem?_getD, List.getElem?_eq_getElem hj] at e3
    have e1' : b[i] = (k : Int) := e1
    have e3' : b[j] = (m : Int) := e3
    rw [e1', e3'] at he
    have : m = k := by omega
    subst this
    rw [e2] at e4
    omega

theorem renT_inj {n : Int} {p s t : List Int} (hq : permB n p = true) (hs : inB n s = true) (ht : inB n t = true) (h : renT p s = renT p t) : s = t := by
  obtain ⟨h1, h2, h3⟩ := permB_get hq
  have hb : ∀ u : List Int, inB n u = true → ∀ x ∈ u, 0 ≤ x ∧ x.toNat < p.length := fun u hu x hx => by
    have := okB_get (List.all_eq_true.1 hu x hx)
    omega
  exact map_inj (S := fun x => 0 ≤ x ∧ x.toNat < p.length) (fun x y hx hy he => perm_inj h3 hx hy he) s t (hb s hs) (hb t ht) h
/-- Has of the renamed is Has. -/
theorem hasE_ren {size : Int} {rs : List Rel} {p : List Int} (hv : validB ⟨size, rs⟩ = true) (hq : permB size p = true) {j : Nat} {r : Rel} (hr : rs[j]? = some r) {x : List Int} (hx : (x.length : Int) = r.arity) (hin : inB size x = true) :
    hasE ⟨size, rs⟩ r.name.toList x = (decide (x ∈ r.tuples), 0) ∧ hasE ⟨size, renR p rs⟩ r.name.toList (renT p x) = (decide (x ∈ r.tuples), 0) := by
  have hvr := (validB_iff size rs).1 hv
  have hrb := hvr.2.2.2.1 r (List.mem_of_getElem? hr)
  have hr2 : (renR p rs)[j]? = some (renRel p r) := by unfold renR; rw [List.getElem?_map, hr]; rfl
  have hf : findI r.name.toList x.length rs = j := by rw [find_name hvr.2.2.2.2 hr rfl, if_pos hx.symm]
  have hf2 : findI r.name.toList (renT p x).length (renR p rs) = j := by
    have := find_name (ar := ((renT p x).length : Int)) (nm := r.name.toList) (by rw [ren_names]; exact hvr.2.2.2.2) hr2 rfl
    rw [this, if_pos (by rw [renT_len]; exact hx.symm)]
  refine ⟨hasE_mk hv hf hr, ?_⟩
  rw [hasE_mk (ren_valid hv hq) hf2 hr2]
  congr 1
  rw [decide_eq_decide, ren_mem hrb]
  constructor
  · rintro ⟨t, ht, he⟩
    have := renT_inj hq (((relB_iff size r).1 hrb).2.2.2 t ht).2 hin he
    rwa [← this]
  · exact fun h => ⟨x, h, rfl⟩
end Sh
end Go.Proofs.YtelememdhpncgaaDoor

/-
  ShapeNames: the two rows of numbers that the law makes, and what a swap and an inverse do.
-/
namespace Go.Proofs.YtelememdhpncgaaDoor
open Go.RowKit

/-- A row of numbers as cells. -/
def ir (l : List Int) : Array Value := (l.map (Value.int .i64)).toArray
theorem ir_size (l : List Int) : (ir l).size = l.length := by simp [ir]
theorem ir_set (l : List Int) (m : Nat) (x : Int) : (ir l).setIfInBounds m (.int .i64 x) = ir (l.set m x) := by
  unfold ir; rw [List.map_set]; simp
theorem ir_at (l : List Int) {m : Nat} (h : m < l.length) : (ir l)[m]? = some (.int .i64 (l.getD m 0)) := by
  unfold ir
  rw [List.getElem?_toArray, List.getElem?_map, List.getElem?_eq_getElem h, List.getD_eq_getElem?_getD, List.getElem?_eq_getElem h]
  rfl
theorem zrow_ir (k : Nat) : zrow k = ir (List.replicate k 0) := by
  apply Array.ext'
  unfold zrow ir
  rw [toList_madeCells_one]
  simp

namespace Sh
theorem getD_set_self {l : List Int} {m : Nat} (h : m < l.length) (x : Int) : (l.set m x).getD m 0 = x := by
  rw [List.getD_eq_getElem?_getD, List.getElem?_set_self h]; rfl
theorem getD_set_ne {l : List Int} {m k : Nat} (h : m ≠ k) (x : Int) : (l.set m x).getD k 0 = l.getD k 0 := by
  rw [List.getD_eq_getElem?_getD, List.getElem?_set_ne h, List.getD_eq_getElem?_getD]
/-- permB by places. -/
theorem permB_of {n : Nat} {p : List Int} (hl : p.length = n) (hin : ∀ m, m < n → 0 ≤ p.getD m 0 ∧ p.getD m 0 < n) (hd : ∀ a b, a < b → b < n → p.getD a 0 ≠ p.getD b 0) : permB n p = true := by
  have hg : ∀ m (h : m < p.length), p[m] = p.getD m 0 := fun m h => by rw [List.getD_eq_getElem?_getD, List.getElem?_eq_getElem h]; rfl
  unfold permB
  simp only [Bool.and_eq_true, decide_eq_true_eq]
  refine ⟨⟨by omega, List.all_eq_true.2 fun x hx => ?_⟩, List.pairwise_iff_getElem.2 fun a b ha hb hab => ?_⟩
  · obtain ⟨m, hm, rfl⟩ := List.mem_iff_getElem.1 hx
    rw [hg m hm]
    have := hin m (by omega)
    exact okB_true this.1 this.2
  · rw [hg a ha, hg b hb]
    exact hd a b hab (by omega)
theorem permB_at {n : Nat} {p : List Int} (h : permB n p = true) : p.length = n ∧ (∀ m, m < n → 0 ≤ p.getD m 0 ∧ p.getD m 0 < n) ∧ ∀ a b, a < n → b < n → p.getD a 0 = p.getD b 0 → a = b := by
  obtain ⟨h1, h2, h3⟩ := permB_get h
  have hl : p.length = n := by omega
  refine ⟨hl, fun m hm => ?_, fun a b ha hb he => ?_⟩
  · have := okB_get (getD_in h2 (k := m) (by omega)); omega
  · have := perm_inj (x := (a : Int)) (y := (b : Int)) h3 (by omega) (by omega) (by simpa using he)
    omega
theorem ident_permB {n : Nat} {p : List Int} (hl : p.length = n) (h : ∀ m, m < n → p.getD m 0 = m) : permB n p = true :=
  permB_of hl (fun m hm => by rw [h m hm]; omega) (fun a b hab hb => by rw [h a (by omega), h b hb]; omega)
theorem swap_permB {n i k : Nat} {p : List Int} (h : permB n p = true) (hi : i < n) (hk : k < n) : permB n ((p.set i (p.getD k 0)).set k (p.getD i 0)) = true := by
  obtain ⟨hl, hin, hd⟩ := permB_at h
  have hv : ∀ m, m < n → ((p.set i (p.getD k 0)).set k (p.getD i 0)).getD m 0 = p.getD (if m = k then i else if m = i then k else m) 0 := fun m hm => by
    by_cases e1 : m = k
    · subst e1
      rw [if_pos rfl, getD_set_self (by rw [List.length_set]; omega)]
    · rw [if_neg e1, getD_set_ne (fun e => e1 e.symm)]
      by_cases e2 : m = i
      · subst e2
        rw [if_pos rfl, getD_set_self (by omega)]
      · rw [if_neg e2, getD_set_ne (fun e => e2 e.symm)]
  refine permB_of (by rw [List.length_set, List.length_set]; exact hl) (fun m hm => ?_) fun a b hab hb => ?_
  · rw [hv m hm]
    split
    · exact hin i hi
    · split
      · exact hin k hk
      · exact hin m hm
  · rw [hv a (by omega), hv b hb]
    intro he
    have := hd _ _ (by split <;> (try split) <;> omega) (by split <;> (try split) <;> omega) he
    (repeat' split at this) <;> omega
theorem undo_next {n j : Nat} {p b : List Int} (h : permB n p = true) (hb : b.length = n) (hj : j < n) (hu : ∀ m, m < j → b.getD (p.getD m 0).toNat 0 = m) : ∀ m, m < j + 1 → (b.set (p.getD j 0).toNat j).getD (p.getD m 0).toNat 0 = m := fun m hm => by
  obtain ⟨hl, hin, hd⟩ := permB_at h
  have h1 := hin j hj
  by_cases e : m = j
  · subst e
    rw [getD_set_self (by omega)]
  · have h2 := hin m (by omega)
    rw [getD_set_ne, hu m (by omega)]
    intro e2
    exact e (hd m j (by omega) hj (by omega))
theorem undo_done {n : Nat} {p b : List Int} (h : permB n p = true) (hb : b.length = n) (hu : ∀ m, m < n → b.getD (p.getD m 0).toNat 0 = m) : Undo p b ∧ permB n b = true := by
  have hl := (permB_at h).1
  have hU : Undo p b := fun k hk => hu k (by omega)
  exact ⟨hU, undo_permB h (by omega) hU⟩

/-- The tuple that the law draws from t. -/
def emN (n : Nat) (t : List Int) (m : Nat) : Int := ((t.getD m 0).tmod n + n).tmod n
def drawN (n k : Nat) (t : List Int) : List Int := (List.range k).map (emN n t)
theorem drawN_len (n k : Nat) (t : List Int) : (drawN n k t).length = k := by simp [drawN]
theorem drawN_succ (n k : Nat) (t : List Int) : drawN n (k + 1) t = drawN n k t ++ [emN n t k] := by simp [drawN, List.range_succ]
theorem drawN_in (n k : Nat) (t : List Int) (hn : 1 ≤ n) : inB n (drawN n k t) = true := by
  unfold inB drawN
  rw [List.all_eq_true]
  intro x hx
  obtain ⟨m, -, rfl⟩ := List.mem_map.1 hx
  have h1 : -(n : Int) < (t.getD m 0).tmod n := Int.lt_tmod_of_pos _ (by omega)
  exact okB_true (Int.tmod_nonneg _ (by omega)) (Int.tmod_lt_of_pos _ (by omega))
theorem wrapN (a : Int) (n : Nat) (h1 : 1 ≤ n) (h9 : n ≤ 64) : wrap64 (a.tmod n + n) = a.tmod n + n := by
  have h2 : -(n : Int) < a.tmod n := Int.lt_tmod_of_pos _ (by omega)
  have h3 : a.tmod n < n := Int.tmod_lt_of_pos _ (by omega)
  unfold wrap64; omega
end Sh

/-- A value that is a slice of bytes. -/
def U8s (w : World) (B : Nat) (v : Value) (l : List Int) : Prop :=
  ∃ A n c, v = .slice A n c ∧ n = l.length ∧ n ≤ 140737488351232 ∧ (∀ x ∈ l, 0 ≤ x ∧ x < 256) ∧ Reads w B 1 A n (l.map (Value.int .u8))
theorem U8s.below {w w' : World} {B : Nat} {v : Value} {l : List Int} (h : U8s w B v l) (hb : Below B w w') : U8s w' B v l := by
  obtain ⟨A, n, c, h1, h2, h3, h4, h5⟩ := h
  exact ⟨A, n, c, h1, h2, h3, h4, h5.below hb⟩
theorem U8s.at_ {w : World} {B : Nat} {l : List Int} {A : Option Addr} {n c k : Nat} (h : U8s w B (.slice A n c) l) (hk : k < n) : ∃ ad x, A = some ad ∧ ad.block < B ∧ 0 ≤ x ∧ x < 256 ∧ w.cell? (ad.add k) = some (.int .u8 x) := by
  obtain ⟨A', n', c', h1, h2, h3, h4, h5⟩ := h
  injection h1 with e1 e2 e3
  subst e1 e2 e3
  obtain ⟨ad, u, h6, h7, h8, h9⟩ := h5.at_ hk
  rw [List.getElem?_map] at h8
  cases hx : l[k]? with
  | none => rw [hx] at h8; cases h8
  | some x =>
    rw [hx] at h8
    injection h8 with h8
    subst h8
    have := h4 x (List.mem_of_getElem? hx)
    exact ⟨ad, x, h6, h7, this.1, this.2, h9⟩

/-- The law's two rows and its copy of the structure. -/
structure NSt (w : World) (X Y n : Nat) (V : Value) (p b : List Int) (wr : World) : Prop where
  px : Blk wr X 3 (ir p)
  py : Blk wr Y 3 (ir b)
  lp : p.length = n
  lb : b.length = n
  s : Blk wr w.heap.size 24 #[.int .i64 n, V]
  bel : Below w.heap.size w wr
section
variable {w wr : World} {X Y n : Nat} {V : Value} {p b : List Int}
theorem NSt.setP (h : NSt w X Y n V p b wr) (hXY : Y ≠ X) (hX : w.heap.size < X) (m : Nat) (x : Int) : NSt w X Y n V (p.set m x) b (wr.setCell ⟨X, m, none⟩ (.int .i64 x)) :=
  ⟨by rw [← ir_set]; exact h.px.set_ m _, h.py.far (p := ⟨X, m, none⟩) hXY _, by rw [List.length_set]; exact h.lp, h.lb, h.s.far (p := ⟨X, m, none⟩) (show w.heap.size ≠ X by omega) _, h.bel.setCell (show w.heap.size ≤ X by omega) _⟩
theorem NSt.setB (h : NSt w X Y n V p b wr) (hXY : X ≠ Y) (hY : w.heap.size < Y) (m : Nat) (x : Int) : NSt w X Y n V p (b.set m x) (wr.setCell ⟨Y, m, none⟩ (.int .i64 x)) :=
  ⟨h.px.far (p := ⟨Y, m, none⟩) hXY _, by rw [← ir_set]; exact h.py.set_ m _, h.lp, by rw [List.length_set]; exact h.lb, h.s.far (p := ⟨Y, m, none⟩) (show w.heap.size ≠ Y by omega) _, h.bel.setCell (show w.heap.size ≤ Y by omega) _⟩
theorem NSt.drewN (h : NSt w X Y n V p b wr) (k : Nat) : NSt w X Y n V p b (wr.drewN k) := ⟨h.px, h.py, h.lp, h.lb, h.s, below_drewN h.bel k⟩
theorem NSt.drew (h : NSt w X Y n V p b wr) : NSt w X Y n V p b wr.drew := ⟨h.px, h.py, h.lp, h.lb, h.s, h.bel.drew⟩
theorem NSt.cellP (h : NSt w X Y n V p b wr) {m : Nat} (hm : m < n) : wr.cell? ⟨X, m, none⟩ = some (.int .i64 (p.getD m 0)) ∧ wr.frozen? ⟨X, m, none⟩ = false :=
  ⟨(h.px.cell m).trans (ir_at p (by have := h.lp; omega)), h.px.frozen m⟩
theorem NSt.cellB (h : NSt w X Y n V p b wr) {m : Nat} (hm : m < n) : wr.cell? ⟨Y, m, none⟩ = some (.int .i64 (b.getD m 0)) ∧ wr.frozen? ⟨Y, m, none⟩ = false :=
  ⟨(h.py.cell m).trans (ir_at b (by have := h.lb; omega)), h.py.frozen m⟩
theorem NSt.ints (h : NSt w X Y n V p b wr) (hn : n ≤ 64) : Ints wr wr.heap.size (.slice (some ⟨X, 0, none⟩) n n) p ∧ Ints wr wr.heap.size (.slice (some ⟨Y, 0, none⟩) n n) b := by
  refine ⟨h.px.reads n n p h.lp.symm (by omega) fun i x hx => ?_, h.py.reads n n b h.lb.symm (by omega) fun i x hx => ?_⟩
  · unfold ir; rw [List.getElem?_toArray, List.getElem?_map, hx]; rfl
  · unfold ir; rw [List.getElem?_toArray, List.getElem?_map, hx]; rfl
end

theorem NSt.made {w w3 : World} {n : Nat} {V : Value} (hs : Blk w3 w.heap.size 24 #[.int .i64 n, V]) (hb : Below w.heap.size w w3) :
    NSt w w3.heap.size (w3.heap.size + 1) n V (List.replicate n 0) (List.replicate n 0) ((w3.alloc (.cells (zrow n) 3)).alloc (.cells (zrow n) 3)) ∧
    NSt w (w3.heap.size + 1) w3.heap.size n V (List.replicate n 0) (List.replicate n 0) ((w3.alloc (.cells (zrow n) 3)).alloc (.cells (zrow n) 3)) := by
  have h1 := (Blk.new w3 3 (zrow n)).alloc (.cells (zrow n) 3)
  have h2 := Blk.new (w3.alloc (.cells (zrow n) 3)) 3 (zrow n)
  rw [World.size_alloc] at h2
  have h3 := (hs.alloc (.cells (zrow n) 3)).alloc (.cells (zrow n) 3)
  have h4 := (hb.alloc hb.size (.cells (zrow n) 3)).alloc (by simp; exact Nat.le_succ_of_le hb.size) (.cells (zrow n) 3)
  rw [zrow_ir] at h1 h2 h3 h4 ⊢
  exact ⟨⟨h1, h2, by simp, by simp, h3, h4⟩, ⟨h2, h1, by simp, by simp, h3, h4⟩⟩

/-- append of one number to a row of the call's own, as one step of a region that draws. -/
theorem step_append_int {ops : Array Oper} {o : Oper} {a : Act} {K : Act → World → Prop} {Q : Exit → Act → World → Prop} {E : Prop} (w : World) (hgd : o.guard = none) (s x : Operand)
    (ho : o.op = .call { callee := .builtin .append, args := #[s, x], argTypes := #[26, 26] })
    (base : Nat) (v : Value) (n : Nat) (xs : List Int) (hs : a.eval s = v) (hown : w.ownsRow base 3 1 v n (xs.map (Value.int .i64)))
    (ad : Addr) (c : Nat) (y : Int) (hx : a.eval x = .slice (some ad) 1 c) (hc : w.cell? ad = some (.int .i64 y)) (hn : n ≤ 1000000) (hbase : base ≤ w.heap.size)
    (h : ∀ v' w', w'.ownsRow base 3 1 v' (n + 1) ((xs ++ [y]).map (Value.int .i64)) → w.grownBy w' v.ownBlock → K (a.put o.dst v') w') :
    if Region.wanted o (yielded ops a.tmps) = true then Oper.wp Tryd.prog o a w K Q else E := by
  obtain ⟨i0, hi, hz0, hz1, hz2⟩ := info_parts int_info
  have hw : Region.wanted o (yielded ops a.tmps) = true := by simp [Region.wanted, hgd]
  rw [if_pos hw]
  refine wp_append_own w s x 26 ho base 3 i0 (.int .i64 0) 1 8 Tryd.underlying26 hi hz0 hz1 hz2 rfl (by decide) v n _ hs hown ad 1 c [.int .i64 y] hx rfl ?_ ?_ (by unfold maxLen; omega) (by omega) hbase ?_
  · intro j u hu
    rcases j with _ | j
    · simp at hu; rw [← hu]; exact hc
    · simp at hu
  · intro u hu; simp at hu; rw [hu]; rfl
  · intro v' w' h1 h2 _
    refine h v' w' ?_ h2
    rw [List.map_append]
    exact h1

end Go.Proofs.YtelememdhpncgaaDoor

/-
  Walk: shape.Permute, where it refuses.
-/
namespace Go.Proofs.YtelememdhpncgaaDoor
open Go.RowKit

set_option maxRecDepth 100000 in
set_option maxHeartbeats 400000 in
theorem permute_bad (size : Int) (v : Value) (rs : List Sh.Rel) (u : Value) (p : List Int) (w : World) (B : Nat) (hB : B ≤ w.heap.size) (h : Rels w B v rs) (hp : Ints w B u p) (hv : Sh.validB ⟨size, rs⟩ = false) :
    Calls Tryd.prog 7 #[.agg #[.int .i64 size, v], u] w fun e w' => e = .returned (.tuple #[.agg #[.int .i64 0, .slice none 0 0], .int .i64 1]) ∧ Below w.heap.size w w' := by
  have h' := h
  obtain ⟨A, len, c, rfl, -⟩ := h'
  have hp' := hp
  obtain ⟨PA, PN, PC, rfl, -⟩ := hp'
  have hb2 := ((Below.refl w.heap.size w).alloc (Nat.le_refl _) (.cells #[.int .i64 size, .slice A len c] 24)).alloc (by simp) (.cells #[.int .i64 0, .slice none 0 0] 24)
  have hcall := fun W (hW : Below w.heap.size w W) => valid_any size (.slice A len c) rs W B (Nat.le_trans hB hW.size) (h.below (hW.mono hB))
  rw [hv] at hcall
  have hz := Blk.new (w.alloc (.cells #[.int .i64 size, .slice A len c] 24)) 24 #[.int .i64 0, .slice none 0 0]
  rw [World.size_alloc] at hz
  have Hcall := Lib.hid hcall; clear hcall
  have Hz := Lib.hid hz; clear hz
  have Hb2 := Lib.hid hb2; clear hb2
  clear hv
  go_enter Tryd.func7, Tryd.ntmps7
  go_wp2_with (go_at_call 5
               refine (Hcall.out _ Hb2.out).mono ?_
               rintro e w9 ⟨rfl, hb9⟩
               have hz9 := Hz.out.below hb9 (by simp)
               have hzc0 : w9.cell? ⟨w.heap.size + 1, 0, none⟩ = some (.int .i64 0) := hz9.cell 0
               have hzc1 : w9.cell? ⟨w.heap.size + 1, 1, none⟩ = some (.slice none 0 0) := hz9.cell 1
               have hzf0 := hz9.frozen 0
               have hzf1 := hz9.frozen 1)
  refine bodyPost_ret (v := .tuple #[.agg #[.int .i64 0, .slice none 0 0], .int .i64 1]) (by simp [results, Tryd.results7, go_sem, hzc0, hzc1]) rfl ?_
  exact ⟨rfl, ((Hb2.out.trans (hb9.mono (by simp; omega))).setCell (by simp) _).setCell (by simp) _⟩

set_option maxRecDepth 100000 in
set_option maxHeartbeats 400000 in
theorem permute_arg (size : Int) (v : Value) (rs : List Sh.Rel) (u : Value) (p : List Int) (w : World) (B : Nat) (hB : B ≤ w.heap.size) (h : Rels w B v rs) (hp : Ints w B u p) (hv : Sh.validB ⟨size, rs⟩ = true) (hq : Sh.permB size p = false) :
    Calls Tryd.prog 7 #[.agg #[.int .i64 size, v], u] w fun e w' => e = .returned (.tuple #[.agg #[.int .i64 0, .slice none 0 0], .int .i64 2]) ∧ Below w.heap.size w w' := by
  have h' := h
  obtain ⟨A, len, c, rfl, -⟩ := h'
  have hp' := hp
  obtain ⟨PA, PN, PC, rfl, -⟩ := hp'
  have hsz := (Sh.validB_size hv).2.1
  simp only at hsz
  have hb2 := ((Below.refl w.heap.size w).alloc (Nat.le_refl _) (.cells #[.int .i64 size, .slice A len c] 24)).alloc (by simp) (.cells #[.int .i64 0, .slice none 0 0] 24)
  have hcall := fun W (hW : Below w.heap.size w W) => valid_any size (.slice A len c) rs W B (Nat.le_trans hB hW.size) (h.below (hW.mono hB))
  rw [hv] at hcall
  have hperm := fun W (hW : Below w.heap.size w W) => permutes_any (.slice PA PN PC) p size W B (Nat.le_trans hB hW.size) (hp.below (hW.mono hB)) hsz
  rw [hq] at hperm
  have hs := (Blk.new w 24 #[.int .i64 size, .slice A len c]).alloc (.cells #[.int .i64 0, .slice none 0 0] 24)
  have hz := Blk.new (w.alloc (.cells #[.int .i64 size, .slice A len c] 24)) 24 #[.int .i64 0, .slice none 0 0]
  rw [World.size_alloc] at hz
  have Hcall := Lib.hid hcall; clear hcall
  have Hperm := Lib.hid hperm; clear hperm
  have Hs := Lib.hid hs; clear hs
  have Hz := Lib.hid hz; clear hz
  have Hb2 := Lib.hid hb2; clear hb2
  clear hv hq hsz
  go_enter Tryd.func7, Tryd.ntmps7
  go_wp2_with (first
    | (go_at_call 5
       refine (Hcall.out _ Hb2.out).mono ?_
       rintro e w9 ⟨rfl, hb9⟩
       have hz9 := Hz.out.below hb9 (by simp)
       have hs9 := Hs.out.below hb9 (by simp; omega)
       have hs0 : w9.cell? ⟨w.heap.size, 0, none⟩ = some (.int .i64 size) := hs9.cell 0
       have Hz9 := Lib.hid hz9
       have Hb9 := Lib.hid (Hb2.out.trans (hb9.mono (by simp; omega)))
       clear hb9 hz9)
    | (go_at_call 16
       refine (Hperm.out _ Hb9.out).mono ?_
       rintro e w8 ⟨rfl, hb8⟩
       have hz8 := Hz9.out.below hb8 Hz9.out.lt
       have hzc0 : w8.cell? ⟨w.heap.size + 1, 0, none⟩ = some (.int .i64 0) := hz8.cell 0
       have hzc1 : w8.cell? ⟨w.heap.size + 1, 1, none⟩ = some (.slice none 0 0) := hz8.cell 1
       have hzf0 := hz8.frozen 0
       have hzf1 := hz8.frozen 1))
  refine bodyPost_ret (v := .tuple #[.agg #[.int .i64 0, .slice none 0 0], .int .i64 2]) (by simp [results, Tryd.results7, go_sem, hzc0, hzc1]) rfl ?_
  exact ⟨rfl, ((Hb9.out.trans (hb8.mono Hb9.out.size)).setCell (by simp) _).setCell (by simp) _⟩

end Go.Proofs.YtelememdhpncgaaDoor

/-
  Walk: shape.copyOf, with what it says of the rows' memory: each relation's tuples lie in a block of their own.
-/
namespace Go.Proofs.YtelememdhpncgaaDoor
open Go.RowKit

/-- The slices vs hold the relations' tuples, each in a row of the call's own, no two in one block. -/
def ROwn (w : World) (L : Nat) (vs : List Value) (rs : List Sh.Rel) : Prop :=
  (∀ (j : Nat) (u : Value) (r : Sh.Rel), vs[j]? = some u → rs[j]? = some r → r.name.size ≤ 140737488351232 ∧ r.tuples.length ≤ 1000000 ∧ ∃ us : List Value, us.length = r.tuples.length ∧ w.ownsRow L 26 1 u r.tuples.length us ∧ Elems w L us r.tuples) ∧
  ∀ (j k : Nat) (u u' : Value) (g : Nat), j < k → vs[j]? = some u → vs[k]? = some u' → u.ownBlock = some g → u'.ownBlock ≠ some g
theorem ROwn.nil (w : World) (L : Nat) : ROwn w L [] [] := ⟨fun j u r h => by simp at h, fun j k u u' g _ h => by simp at h⟩
theorem ROwn.keep {w w' : World} {L : Nat} {vs : List Value} {rs : List Sh.Rel} (h : ROwn w L vs rs) (hk : Keeps L [3, 26] w w') : ROwn w' L vs rs :=
  ⟨fun j u r h1 h2 => by
    obtain ⟨a, b, us, c, d, e⟩ := h.1 j u r h1 h2
    exact ⟨a, b, us, c, own_keeps d hk (Nat.le_refl _) (by simp), e.keep (hk.mono (by simp))⟩, h.2⟩
theorem ROwn.snoc {w : World} {L : Nat} {vs : List Value} {rs : List Sh.Rel} (h : ROwn w L vs rs) (hl : vs.length = rs.length) {u : Value} {r : Sh.Rel} {us : List Value} (hz : r.name.size ≤ 140737488351232) (ht : r.tuples.length ≤ 1000000)
    (hus : us.length = r.tuples.length) (ho : w.ownsRow L 26 1 u r.tuples.length us) (he : Elems w L us r.tuples) (hd : ∀ (j : Nat) (x : Value) (g : Nat), vs[j]? = some x → x.ownBlock = some g → u.ownBlock ≠ some g) : ROwn w L (vs ++ [u]) (rs ++ [r]) := by
  refine ⟨fun j u' r' h1 h2 => ?_, fun j k x x' g hjk h1 h2 hg => ?_⟩
  · by_cases hj : j < vs.length
    · rw [List.getElem?_append_left hj] at h1
      rw [List.getElem?_append_left (by omega)] at h2
      exact h.1 j u' r' h1 h2
    · rw [List.getElem?_append_right (by omega)] at h1
      rw [List.getElem?_append_right (by omega)] at h2
      have hj0 : j - vs.length = 0 := by
        have := (List.getElem?_eq_some_iff.1 h1).1
        simp at this; omega
      rw [hj0] at h1
      rw [show j - rs.length = 0 by omega] at h2
      simp at h1 h2
      subst h1 h2
      exact ⟨hz, ht, us, hus, ho, he⟩
  · have hkl : k < vs.length + 1 := by
      have := (List.getElem?_eq_some_iff.1 h2).1
      simpa using this
    have hj : j < vs.length := by omega
    rw [List.getElem?_append_left hj] at h1
    by_cases hk : k < vs.length
    · rw [List.getElem?_append_left hk] at h2
      exact h.2 j k x x' g hjk h1 h2 hg
    · rw [List.getElem?_append_right (by omega), show k - vs.length = 0 by omega] at h2
      simp at h2
      subst h2
      exact hd j x g h1 hg
theorem ROwn.elems {w : World} {L : Nat} {vs : List Value} {rs : List Sh.Rel} (h : ROwn w L vs rs) : RElems w L vs rs := fun j u r h1 h2 => by
  obtain ⟨a, b, us, c, d, e⟩ := h.1 j u r h1 h2
  exact ⟨NTups.own d (Nat.le_refl _) (by omega) c e, a⟩
theorem ROwn.more {w : World} {L L' : Nat} {vs : List Value} {rs : List Sh.Rel} (h : ROwn w L vs rs) (hL : L' ≤ L) : ROwn w L' vs rs :=
  ⟨fun j u r h1 h2 => by
    obtain ⟨a, b, us, c, d, e⟩ := h.1 j u r h1 h2
    exact ⟨a, b, us, c, own_base d hL, fun i x t g1 g2 => (e i x t g1 g2).more hL⟩, h.2⟩
theorem ROwn.lt {w : World} {L : Nat} {vs : List Value} {rs : List Sh.Rel} (h : ROwn w L vs rs) (hl : vs.length = rs.length) (j : Nat) (x : Value) (g : Nat) (h1 : vs[j]? = some x) (h2 : x.ownBlock = some g) : L ≤ g ∧ g < w.heap.size := by
  have hj : j < rs.length := by have := (List.getElem?_eq_some_iff.1 h1).1; omega
  obtain ⟨r, hr⟩ : ∃ r, rs[j]? = some r := ⟨_, List.getElem?_eq_getElem hj⟩
  obtain ⟨-, -, us, -, d, -⟩ := h.1 j x r h1 hr
  exact d.lt g h2
/-- The relations lie in a row of the call's own, their tuples too. -/
def OwnRels (w : World) (L : Nat) (v : Value) (rs : List Sh.Rel) : Prop := ∃ xs vs : List Value, w.ownsRow L 36 3 v rs.length xs ∧ RCells xs vs rs ∧ ROwn w L vs rs
theorem OwnRels.rels {w : World} {L : Nat} {v : Value} {rs : List Sh.Rel} (h : OwnRels w L v rs) (hl : rs.length ≤ 1000000) : NRels w L v rs := by
  obtain ⟨xs, vs, h1, h2, h3⟩ := h
  exact NRels.own h1 (Nat.le_refl _) (by omega) h2 h3.elems
theorem OwnRels.keep {w w' : World} {L : Nat} {v : Value} {rs : List Sh.Rel} (h : OwnRels w L v rs) (hk : Keeps L [3, 26, 36] w w') : OwnRels w' L v rs := by
  obtain ⟨xs, vs, h1, h2, h3⟩ := h
  exact ⟨xs, vs, own_keeps h1 hk (Nat.le_refl _) (by simp), h2, h3.keep (hk.mono (by simp))⟩

set_option maxRecDepth 100000 in
set_option maxHeartbeats 400000 in
theorem copyof_own (size : Int) (v : Value) (rs : List Sh.Rel) (w : World) (B : Nat) (hB : B ≤ w.heap.size) (h : Rels w B v rs) (hl : rs.length ≤ 1000000) (ht : ∀ r ∈ rs, r.tuples.length ≤ 1000000 ∧ ∀ t ∈ r.tuples, t.length ≤ 1000000) :
    Calls Tryd.prog 17 #[.agg #[.int .i64 size, v]] w fun e w' => ∃ u, e = .returned (.agg #[.int .i64 size, u]) ∧ OwnRels w' w.heap.size u rs ∧ Below w.heap.size w w' := by
  have h' := h
  obtain ⟨A, len, c, rfl, hlen, -⟩ := h'
  have hcall := fun (W : World) (u : Value) (r : Sh.Rel) (hu : Tups W B u r.tuples) (hW : B ≤ W.heap.size) (hm : r ∈ rs) => copyrel_own r u W B hW hu (ht r hm).1 (ht r hm).2
  have Hcall := Lib.hid hcall; clear hcall
  have Hlen := Lib.hid hlen; clear hlen
  have hl' : len ≤ 1000000 := by rw [Hlen.out]; exact hl
  have Ht := Lib.hid ht
  clear hl ht
  go_enter Tryd.func17, Tryd.ntmps17
  go_wp2
  have hb3 : Below w.heap.size w (((w.alloc (.cells #[.int .i64 size, .slice A len c] 24)).alloc (.cells #[.int .i64 0, .slice none 0 0] 24)).alloc (.cells #[.int .i64 size, .slice none 0 0] 24)) :=
    (((Below.refl _ _).alloc (Nat.le_refl _) _).alloc (by simp) _).alloc (by simp; omega) _
  have hz3 : Blk (((w.alloc (.cells #[.int .i64 size, .slice A len c] 24)).alloc (.cells #[.int .i64 0, .slice none 0 0] 24)).alloc (.cells #[.int .i64 size, .slice none 0 0] 24)) (w.heap.size + 1) 24 #[.int .i64 0, .slice none 0 0] := by
    have := Blk.new (w.alloc (.cells #[.int .i64 size, .slice A len c] 24)) 24 #[.int .i64 0, .slice none 0 0]
    rw [World.size_alloc] at this
    exact this.alloc _
  have hc3 : Blk (((w.alloc (.cells #[.int .i64 size, .slice A len c] 24)).alloc (.cells #[.int .i64 0, .slice none 0 0] 24)).alloc (.cells #[.int .i64 size, .slice none 0 0] 24)) (w.heap.size + 1 + 1) 24 #[.int .i64 size, .slice none 0 0] := by
    have := Blk.new ((w.alloc (.cells #[.int .i64 size, .slice A len c] 24)).alloc (.cells #[.int .i64 0, .slice none 0 0] 24)) 24 #[.int .i64 size, .slice none 0 0]
    rw [World.size_alloc, World.size_alloc] at this
    exact this
  generalize ((w.alloc (.cells #[.int .i64 size, .slice A len c] 24)).alloc (.cells #[.int .i64 0, .slice none 0 0] 24)).alloc (.cells #[.int .i64 size, .slice none 0 0] 24) = W3 at *
  go_loopw [12] (fun i wr => ∃ (k : Nat) (tv : Value) (xs us : List Value), k ≤ len ∧ i = .int .i64 k ∧ Blk wr (w.heap.size + 1) 24 #[.int .i64 0, .slice none 0 0] ∧
      Blk wr (w.heap.size + 1 + 1) 24 #[.int .i64 size, tv] ∧ wr.ownsRow (w.heap.size + 3) 36 3 tv k xs ∧ RCells xs us (rs.take k) ∧ ROwn wr (w.heap.size + 3) us (rs.take k) ∧ Below w.heap.size w wr) (fun i _ => len - (intOf i).toNat)
  case atStart => exact ⟨0, .slice none 0 0, [], [], Nat.zero_le _, rfl, hz3, hc3, World.ownsRow_nil _ _ _ _, RCells.nil, ROwn.nil _ _, hb3⟩
  case round =>
    obtain ⟨k, tv, xs, us, hk, rfl, hz, hc, hown, hrc, hel, hbel⟩ := hrel
    clear hb3 hz3 hc3
    have Hown := Lib.hid hown; clear hown
    have Hrc := Lib.hid hrc; clear hrc
    obtain ⟨TA, TC, rfl⟩ := own_slice Hown.out
    have hlt3 := hc.lt
    by_cases hlt : k < len
    · obtain ⟨ad, u, r, rfl, hb, hr, c0, c1, c2, htu, hnz⟩ := (h.below (hbel.mono hB)).at_ hlt
      have htu' := htu
      obtain ⟨UA, UN, UC, rfl, -⟩ := htu'
      have Hr := Lib.hid hr; clear hr
      have hbelz : w.heap.size ≤ wr.heap.size := hbel.size
      have htud : Tups (wr.alloc (.cells #[.string r.name, .int .i64 r.arity, .slice UA UN UC] 36)).drew B (.slice UA UN UC) r.tuples := htu.keep (fun p hp => World.cell?_alloc_lt _ _ _ (by omega))
      have hbx : Blk (wr.alloc (.cells #[.string r.name, .int .i64 r.arity, .slice UA UN UC] 36)).drew wr.heap.size 36 #[.string r.name, .int .i64 r.arity, .slice UA UN UC] := (Blk.new _ _ _).drew
      have hcd : Blk (wr.alloc (.cells #[.string r.name, .int .i64 r.arity, .slice UA UN UC] 36)).drew (w.heap.size + 1 + 1) 24 #[.int .i64 size, .slice TA k TC] := (hc.alloc _).drew
      have hcl2 : (wr.alloc (.cells #[.string r.name, .int .i64 r.arity, .slice UA UN UC] 36)).drew.cell? ⟨w.heap.size + 1 + 1, 1, none⟩ = some (.slice TA k TC) := hcd.cell 1
      have hownd : (wr.alloc (.cells #[.string r.name, .int .i64 r.arity, .slice UA UN UC] 36)).drew.ownsRow (w.heap.size + 3) 36 3 (.slice TA k TC) k xs := Hown.out.alloc _
      go_wp2
      have hx0 : (wr.alloc (.cells #[.string r.name, .int .i64 r.arity, .slice UA UN UC] 36)).drew.cell? ⟨wr.heap.size, 0, none⟩ = some (.string r.name) := hbx.cell 0
      have hx1 : (wr.alloc (.cells #[.string r.name, .int .i64 r.arity, .slice UA UN UC] 36)).drew.cell? ⟨wr.heap.size, 1, none⟩ = some (.int .i64 r.arity) := hbx.cell 1
      have hx2 : (wr.alloc (.cells #[.string r.name, .int .i64 r.arity, .slice UA UN UC] 36)).drew.cell? ⟨wr.heap.size, 2, none⟩ = some (.slice UA UN UC) := hbx.cell 2
      go_region_law (first
        | (go_simp
           go_at_call 28
           refine (Hcall.out _ _ r htud (by simp; omega) (List.mem_of_getElem? Hr.out)).mono ?_
           rintro e w7 ⟨x, ys, rfl, hyl, hxo, hye, hb7⟩
           obtain ⟨XA, XC, rfl⟩ := own_slice hxo
           have hc7 := hcd.below hb7 (by simp; omega)
           have hcc7 : w7.cell? ⟨w.heap.size + 1 + 1, 1, none⟩ = some (.slice TA k TC) := hc7.cell 1
           have hcc7' : (w7.alloc (.cells #[.string r.name, .int .i64 r.arity, .slice XA r.tuples.length XC] 36)).cell? ⟨w.heap.size + 1 + 1, 1, none⟩ = some (.slice TA k TC) := (Blk.alloc hc7 _).cell 1
           have hown7 : (w7.alloc (.cells #[.string r.name, .int .i64 r.arity, .slice XA r.tuples.length XC] 36)).ownsRow (w.heap.size + 3) 36 3 (.slice TA k TC) k xs := World.ownsRow.alloc (own_below hownd hb7) _)
        | (refine step_append_rel _ rfl _ _ rfl (w.heap.size + 3) _ k xs rfl hown7 w7.heap.size 1 _ _ _ rfl (Blk.new w7 36 #[.string r.name, .int .i64 r.arity, .slice XA r.tuples.length XC]) rfl rfl rfl (by omega) (by have := hb7.size; simp at this ⊢; omega) ?_
           intro v8 w8 hown8 hg8
           obtain ⟨VA, VC, rfl⟩ := own_slice hown8
           have hc8 : Blk w8 (w.heap.size + 1 + 1) 24 #[.int .i64 size, .slice TA k TC] := Blk.grown (Blk.alloc hc7 _) hg8 (fun e => by have := (hown7.lt _ e.symm).1; omega)
           have hcc8 : w8.cell? ⟨w.heap.size + 1 + 1, 1, none⟩ = some (.slice TA k TC) := hc8.cell 1
           have hcf8 := hc8.frozen 1))
      all_goals
        go_wp2
        have hs7 : wr.heap.size + 1 ≤ w7.heap.size := by have := hb7.size; simp at this; exact this
        have hg8' : (w7.alloc (.cells #[.string r.name, .int .i64 r.arity, .slice XA r.tuples.length XC] 36)).grownBy w8 (Value.slice TA k TC).ownBlock := hg8
        have hbase : ∀ g, (Value.slice TA k TC).ownBlock = some g → w.heap.size + 3 ≤ g := fun g e => (hown7.lt g e).1
        have hk7 : Keeps (w.heap.size + 3) [3, 26] w7 (w8.setCell ⟨w.heap.size + 1 + 1, 1, none⟩ (.slice VA (k + 1) VC)) :=
          (Keeps.alloc _ _ _ _).trans ((Keeps.own hg8' hown7 (by decide)).trans (Keeps.setCell (p := ⟨w.heap.size + 1 + 1, 1, none⟩) hc8 (by decide) _))
        refine ⟨⟨k + 1, .slice VA (k + 1) VC, xs ++ [.string r.name, .int .i64 r.arity, .slice XA r.tuples.length XC], us ++ [.slice XA r.tuples.length XC], by omega, by go_num, ?_, hc8.set_ 1 _, own_set hown8 (show w.heap.size + 1 + 1 < w.heap.size + 3 by omega) _, by rw [take_snoc Hr.out]; exact Hrc.out.snoc r _, ?_, ?_⟩, by simp [intOf]; omega⟩
        · exact Blk.far (Blk.grown (Blk.alloc (((hz.alloc _).drew).below hb7 (by simp; omega)) _) hg8' (fun e => by have := hbase _ e.symm; omega)) (by simp) _
        · rw [take_snoc Hr.out]
          have hlt7 := hel.lt Hrc.out.2.1
          refine ROwn.snoc ((hel.keep (((Keeps.alloc _ _ _ _).trans (Keeps.drewN _ _ _ 1)).trans (Keeps.of_below hb7))).keep hk7) Hrc.out.2.1 hnz (Ht.out r (List.mem_of_getElem? Hr.out)).1 hyl (own_keeps (own_base hxo (by simp; omega)) hk7 (Nat.le_refl _) (by simp)) (fun j x t h1 h2 => ((hye j x t h1 h2).more (by simp; omega)).keep (hk7.mono (by simp))) (fun j x g h1 h2 h3 => ?_)
          have h4 := (hlt7 j x g h1 h2).2
          have h5 := (hxo.lt g h3).1
          simp at h5
          omega
        · exact (((((hbel.alloc hbelz _).drew).trans (hb7.mono (by simp; omega))).alloc (by omega) _).grown hg8' (by simp; omega) (fun g e => by have := hbase g e; omega)).setCell (show w.heap.size ≤ w.heap.size + 1 + 1 by omega) _
    · have hkl : k = len := by omega
      subst hkl
      have htk : rs.take k = rs := List.take_of_length_le (by have := Hlen.out; omega)
      have hrc' := Hrc.out
      rw [htk] at hel hrc'
      have hown' := Hown.out
      have hkl' : k = rs.length := Hlen.out
      rw [hkl'] at hown'
      have hnt : OwnRels wr (w.heap.size + 3) (.slice TA rs.length TC) rs := ⟨xs, us, hown', hrc', hel⟩
      rw [← hkl'] at hnt
      have hcc0 : wr.cell? ⟨w.heap.size + 1 + 1, 0, none⟩ = some (.int .i64 size) := hc.cell 0
      have hcc1 : wr.cell? ⟨w.heap.size + 1 + 1, 1, none⟩ = some (.slice TA k TC) := hc.cell 1
      have hzc0 : wr.cell? ⟨w.heap.size + 1, 0, none⟩ = some (.int .i64 0) := hz.cell 0
      have hzc1 : wr.cell? ⟨w.heap.size + 1, 1, none⟩ = some (.slice none 0 0) := hz.cell 1
      have hzf0 := hz.frozen 0
      have hzf1 := hz.frozen 1
      have Hnt := Lib.hid hnt; clear hnt htk hel hrc' hown' hkl'
      go_wp2
      refine bodyPost_ret (v := .agg #[.int .i64 size, .slice TA k TC]) (by simp [results, Tryd.results17, go_sem, hzc0, hzc1]) rfl ?_
      have hk0 : Keeps (w.heap.size + 3) [3, 26, 36] wr ((wr.setCell ⟨w.heap.size + 1, 0, none⟩ (.int .i64 size)).setCell ⟨w.heap.size + 1, 1, none⟩ (.slice TA k TC)) :=
        (Keeps.setCell (p := ⟨w.heap.size + 1, 0, none⟩) hz (by decide) _).trans (Keeps.setCell (p := ⟨w.heap.size + 1, 1, none⟩) (hz.set_ _ _) (by decide) _)
      obtain ⟨xs', vs', g1, g2, g3⟩ := Hnt.out.keep hk0
      refine ⟨_, rfl, ⟨xs', vs', own_base g1 (by omega), g2, g3.more (by omega)⟩, ?_⟩
      exact (hbel.setCell (by simp) _).setCell (by simp) _

theorem copyof_any (size : Int) (v : Value) (rs : List Sh.Rel) (w : World) (B : Nat) (hB : B ≤ w.heap.size) (h : Rels w B v rs) (hl : rs.length ≤ 1000000) (ht : ∀ r ∈ rs, r.tuples.length ≤ 1000000 ∧ ∀ t ∈ r.tuples, t.length ≤ 1000000) :
    Calls Tryd.prog 17 #[.agg #[.int .i64 size, v]] w fun e w' => ∃ u, e = .returned (.agg #[.int .i64 size, u]) ∧ NRels w' w.heap.size u rs ∧ Below w.heap.size w w' :=
  (copyof_own size v rs w B hB h hl ht).mono fun _ _ ⟨u, he, ho, hb⟩ => ⟨u, he, ho.rels hl, hb⟩

end Go.Proofs.YtelememdhpncgaaDoor

/-
  Walk: shape.copyRel, once more: what it says of the tuples' own blocks.
-/
namespace Go.Proofs.YtelememdhpncgaaDoor
open Go.RowKit

/-- A tuple in a row of its own. -/
def OInts (w : World) (L : Nat) (v : Value) (t : List Int) : Prop := ∃ A n c, v = .slice A n c ∧ n = t.length ∧ w.ownsRow L 3 1 v n (t.map (Value.int .i64))
theorem OInts.keep {w w' : World} {L : Nat} {v : Value} {t : List Int} (h : OInts w L v t) (hk : Keeps L [3] w w') : OInts w' L v t := by
  obtain ⟨A, n, c, h1, h2, h3⟩ := h
  exact ⟨A, n, c, h1, h2, own_keeps h3 hk (Nat.le_refl _) (by simp)⟩
theorem OInts.more {w : World} {L L' : Nat} {v : Value} {t : List Int} (h : OInts w L v t) (hL : L' ≤ L) : OInts w L' v t := by
  obtain ⟨A, n, c, h1, h2, h3⟩ := h
  exact ⟨A, n, c, h1, h2, own_base h3 hL⟩
theorem OInts.ints {w : World} {L : Nat} {v : Value} {t : List Int} (h : OInts w L v t) (ht : t.length ≤ 1000000) : NInts w L v t := by
  obtain ⟨A, n, c, h1, h2, h3⟩ := h
  exact NInts.own h3 (Nat.le_refl _) (by omega)
theorem OInts.lt {w : World} {L g : Nat} {v : Value} {t : List Int} (h : OInts w L v t) (hg : v.ownBlock = some g) : L ≤ g ∧ g < w.heap.size := by
  obtain ⟨A, n, c, h1, h2, h3⟩ := h
  exact h3.lt g hg
/-- The values are tuples in rows of their own. -/
def OElems (w : World) (L : Nat) (us : List Value) (ts : List (List Int)) : Prop := ∀ (j : Nat) (u : Value) (t : List Int), us[j]? = some u → ts[j]? = some t → OInts w L u t
theorem OElems.keep {w w' : World} {L : Nat} {us : List Value} {ts : List (List Int)} (h : OElems w L us ts) (hk : Keeps L [3] w w') : OElems w' L us ts := fun j u t h1 h2 => (h j u t h1 h2).keep hk
theorem OElems.elems {w : World} {L : Nat} {us : List Value} {ts : List (List Int)} (h : OElems w L us ts) (ht : ∀ t ∈ ts, t.length ≤ 1000000) : Elems w L us ts := fun j u t h1 h2 => (h j u t h1 h2).ints (ht t (List.mem_of_getElem? h2))
theorem OElems.snoc {w : World} {L : Nat} {us : List Value} {ts : List (List Int)} (h : OElems w L us ts) (hl : us.length = ts.length) {u : Value} {t : List Int} (hu : OInts w L u t) : OElems w L (us ++ [u]) (ts ++ [t]) := by
  intro j u' t' h1 h2
  by_cases hj : j < us.length
  · rw [List.getElem?_append_left hj] at h1
    rw [List.getElem?_append_left (by omega)] at h2
    exact h j u' t' h1 h2
  · have hjl : j < (us ++ [u]).length := (List.getElem?_eq_some_iff.1 h1).1
    rw [List.length_append, List.length_singleton] at hjl
    obtain rfl : j = us.length := by omega
    rw [List.getElem?_append_right (by omega), Nat.sub_self] at h1
    rw [List.getElem?_append_right (by omega), hl, Nat.sub_self] at h2
    obtain rfl : u = u' := by simpa using h1
    obtain rfl : t = t' := by simpa using h2
    exact hu

/-- The values' own blocks are pairwise distinct, and lie from lo on, below hi. -/
def Apart (us : List Value) (lo hi : Nat) : Prop := (us.filterMap Value.ownBlock).Nodup ∧ ∀ g ∈ us.filterMap Value.ownBlock, lo ≤ g ∧ g < hi
theorem Apart.nil (lo hi : Nat) : Apart [] lo hi := ⟨List.nodup_nil, fun g h => by cases h⟩
theorem Apart.mono {us : List Value} {lo hi lo' hi' : Nat} (h : Apart us lo hi) (h1 : lo' ≤ lo) (h2 : hi ≤ hi') : Apart us lo' hi' := ⟨h.1, fun g hg => by have := h.2 g hg; omega⟩
theorem Apart.perm {us us' : List Value} {lo hi : Nat} (h : Apart us lo hi) (hp : us'.Perm us) : Apart us' lo hi :=
  have hq := hp.filterMap Value.ownBlock
  ⟨hq.nodup_iff.2 h.1, fun g hg => h.2 g (hq.mem_iff.1 hg)⟩
theorem Apart.snoc {us : List Value} {lo hi hi' : Nat} (h : Apart us lo hi) (h1 : lo ≤ hi) (h2 : hi ≤ hi') {u : Value} (hu : ∀ g, u.ownBlock = some g → hi ≤ g ∧ g < hi') : Apart (us ++ [u]) lo hi' := by
  unfold Apart
  rw [List.filterMap_append]
  cases ho : u.ownBlock with
  | none => 
    rw [show List.filterMap Value.ownBlock [u] = [] by simp [ho], List.append_nil]
    exact h.mono (Nat.le_refl _) h2
  | some g =>
    have hg := hu g ho
    rw [show List.filterMap Value.ownBlock [u] = [g] by simp [ho]]
    refine ⟨List.nodup_append.2 ⟨h.1, (by simp), fun a ha b hb => ?_⟩, fun a ha => ?_⟩
    · have := (h.2 a ha).2
      rw [List.mem_singleton] at hb
      omega
    · rcases List.mem_append.1 ha with ha | ha
      · have := h.2 a ha; omega
      · rw [List.mem_singleton] at ha; omega

set_option maxRecDepth 100000 in
set_option maxHeartbeats 400000 in
theorem copytuple_own (v : Value) (t : List Int) (w : World) (B : Nat) (hB : B ≤ w.heap.size) (h : Ints w B v t) (ht : t.length ≤ 1000000) :
    Calls Tryd.prog 39 #[v] w fun e w' => ∃ u, e = .returned u ∧ OInts w' w.heap.size u t ∧ Below w.heap.size w w' := by
  go_enter Tryd.func39, Tryd.ntmps39
  go_wp2_with (at_builtin; refine append_ints _ rfl _ _ rfl w.heap.size _ 0 [] rfl (own_empty w 3 1) B v t rfl (h.below (((Below.refl _ _).alloc (Nat.le_refl _) _).mono hB)) (by omega) ht (by simp) ?_; intro v' w' hown hg)
  go_ret
  have hown' : w'.ownsRow w.heap.size 3 1 v' t.length (t.map (Value.int .i64)) := by simpa using hown
  obtain ⟨A, c, rfl⟩ := own_slice hown'
  refine ⟨_, rfl, ⟨A, t.length, c, rfl, rfl, hown'⟩, ?_⟩
  exact ((Below.refl _ _).alloc (Nat.le_refl _) _).grown hg (by simp) (fun g e => Nat.le_of_eq (Option.some.inj (show some w.heap.size = some g from e)))

set_option maxRecDepth 100000 in
set_option maxHeartbeats 400000 in
theorem copyrel_apart (r : Sh.Rel) (v : Value) (w : World) (B : Nat) (hB : B ≤ w.heap.size) (h : Tups w B v r.tuples) (hl : r.tuples.length ≤ 1000000) (ht : ∀ t ∈ r.tuples, t.length ≤ 1000000) :
    Calls Tryd.prog 28 #[.agg #[.string r.name, .int .i64 r.arity, v]] w fun e w' => ∃ (u : Value) (us : List Value), e = .returned (.agg #[.string r.name, .int .i64 r.arity, u]) ∧ us.length = r.tuples.length ∧ w'.ownsRow w.heap.size 26 1 u r.tuples.length us ∧ OElems w' w.heap.size us r.tuples ∧ Below w.heap.size w w' ∧ Apart us w.heap.size w'.heap.size := by
  obtain ⟨name, arity, ts⟩ := r
  simp only at h hl ht ⊢
  have h' := h
  obtain ⟨A, len, c, rfl, hlen, -⟩ := h'
  have hcall := fun (W : World) (u : Value) (t : List Int) (hu : Ints W B u t) (hW : B ≤ W.heap.size) (hm : t ∈ ts) => copytuple_own u t W B hW hu (ht t hm)
  have Hcall := Lib.hid hcall; clear hcall
  have Hlen := Lib.hid hlen; clear hlen
  have hl' : len ≤ 1000000 := by rw [Hlen.out]; exact hl
  clear hl ht
  go_enter Tryd.func28, Tryd.ntmps28
  go_wp2
  have hb3 : Below w.heap.size w (((w.alloc (.cells #[.string name, .int .i64 arity, .slice A len c] 36)).alloc (.cells #[.string ⟨#[]⟩, .int .i64 0, .slice none 0 0] 36)).alloc (.cells #[.string name, .int .i64 arity, .slice none 0 0] 36)) :=
    (((Below.refl _ _).alloc (Nat.le_refl _) _).alloc (by simp) _).alloc (by simp; omega) _
  have hz3 : Blk (((w.alloc (.cells #[.string name, .int .i64 arity, .slice A len c] 36)).alloc (.cells #[.string ⟨#[]⟩, .int .i64 0, .slice none 0 0] 36)).alloc (.cells #[.string name, .int .i64 arity, .slice none 0 0] 36)) (w.heap.size + 1) 36 #[.string ⟨#[]⟩, .int .i64 0, .slice none 0 0] := by
    have := Blk.new (w.alloc (.cells #[.string name, .int .i64 arity, .slice A len c] 36)) 36 #[.string ⟨#[]⟩, .int .i64 0, .slice none 0 0]
    rw [World.size_alloc] at this
    exact this.alloc _
  have hc3 : Blk (((w.alloc (.cells #[.string name, .int .i64 arity, .slice A len c] 36)).alloc (.cells #[.string ⟨#[]⟩, .int .i64 0, .slice none 0 0] 36)).alloc (.cells #[.string name, .int .i64 arity, .slice none 0 0] 36)) (w.heap.size + 1 + 1) 36 #[.string name, .int .i64 arity, .slice none 0 0] := by
    have := Blk.new ((w.alloc (.cells #[.string name, .int .i64 arity, .slice A len c] 36)).alloc (.cells #[.string ⟨#[]⟩, .int .i64 0, .slice none 0 0] 36)) 36 #[.string name, .int .i64 arity, .slice none 0 0]
    rw [World.size_alloc, World.size_alloc] at this
    exact this
  generalize ((w.alloc (.cells #[.string name, .int .i64 arity, .slice A len c] 36)).alloc (.cells #[.string ⟨#[]⟩, .int .i64 0, .slice none 0 0] 36)).alloc (.cells #[.string name, .int .i64 arity, .slice none 0 0] 36) = W3 at *
  go_loopw [14] (fun i wr => ∃ (k : Nat) (tv : Value) (us : List Value), k ≤ len ∧ i = .int .i64 k ∧ us.length = k ∧ Blk wr (w.heap.size + 1) 36 #[.string ⟨#[]⟩, .int .i64 0, .slice none 0 0] ∧
      Blk wr (w.heap.size + 1 + 1) 36 #[.string name, .int .i64 arity, tv] ∧ wr.ownsRow (w.heap.size + 3) 26 1 tv k us ∧ OElems wr (w.heap.size + 3) us (ts.take k) ∧ Below w.heap.size w wr ∧ Apart us w.heap.size wr.heap.size) (fun i _ => len - (intOf i).toNat)
  case atStart => exact ⟨0, .slice none 0 0, [], Nat.zero_le _, rfl, rfl, hz3, hc3, World.ownsRow_nil _ _ _ _, (fun j u t h => by simp at h), hb3, Apart.nil _ _⟩
  case round =>
    obtain ⟨k, tv, us, hk, rfl, hus, hz, hc, hown, hel, hbel, hap⟩ := hrel
    clear hb3 hz3 hc3
    have Hown := Lib.hid hown; clear hown
    obtain ⟨TA, TC, rfl⟩ := own_slice Hown.out
    have hlt3 := hc.lt
    have Hus := Lib.hid hus; clear hus
    by_cases hlt : k < len
    · obtain ⟨ad, u, rfl, hb, hcu, hiu⟩ := (h.below (hbel.mono hB)).at_ hlt
      have hiu' := hiu
      obtain ⟨UA, UN, UC, rfl, -⟩ := hiu'
      have hts : ts[k]? = some (ts.getD k []) := getD_some (by rw [← Hlen.out]; exact hlt)
      have Hts := Lib.hid hts; clear hts
      have hcl2 : wr.drew.cell? ⟨w.heap.size + 1 + 1, 2, none⟩ = some (.slice TA k TC) := hc.cell 2
      have hiud : Ints wr.drew B (.slice UA UN UC) (ts.getD k []) := hiu
      have hbelz : w.heap.size ≤ wr.heap.size := hbel.size
      go_wp2
      go_region_law (first
        | (go_simp
           go_at_call 39
           refine (Hcall.out _ _ _ hiud (by simp; omega) (List.mem_of_getElem? Hts.out)).mono ?_
           rintro e w7 ⟨x, rfl, hni, hb7⟩
           have hni' := hni
           obtain ⟨XA, XN, XC, rfl, -⟩ := hni'
           have hc7 := (Blk.drew hc).below hb7 (by simp; omega)
           have hcc7 : w7.cell? ⟨w.heap.size + 1 + 1, 2, none⟩ = some (.slice TA k TC) := hc7.cell 2
           have hcc7' : (w7.alloc (.cells #[.slice XA XN XC] 26)).cell? ⟨w.heap.size + 1 + 1, 2, none⟩ = some (.slice TA k TC) := (Blk.alloc hc7 _).cell 2
           have hown7 : (w7.alloc (.cells #[.slice XA XN XC] 26)).ownsRow (w.heap.size + 3) 26 1 (.slice TA k TC) k us := World.ownsRow.alloc (own_below (w := wr.drew) Hown.out hb7) _)
        | (refine step_append_tup _ rfl _ _ rfl (w.heap.size + 3) _ k us rfl hown7 ⟨w7.heap.size, 0, none⟩ 1 (.slice XA XN XC) rfl ((Blk.new w7 26 #[.slice XA XN XC]).cell 0) rfl (by omega) (by have := hb7.size; simp at this ⊢; omega) ?_
           intro v8 w8 hown8 hg8
           obtain ⟨VA, VC, rfl⟩ := own_slice hown8
           have hc8 : Blk w8 (w.heap.size + 1 + 1) 36 #[.string name, .int .i64 arity, .slice TA k TC] := Blk.grown (Blk.alloc hc7 _) hg8 (fun e => by have := (hown7.lt _ e.symm).1; omega)
           have hcc8 : w8.cell? ⟨w.heap.size + 1 + 1, 2, none⟩ = some (.slice TA k TC) := hc8.cell 2
           have hcf8 := hc8.frozen 2))
      all_goals
        go_wp2
        have hs7 : wr.heap.size ≤ w7.heap.size := hb7.size
        have hg8' : (w7.alloc (.cells #[.slice XA XN XC] 26)).grownBy w8 (Value.slice TA k TC).ownBlock := hg8
        have hbase : ∀ g, (Value.slice TA k TC).ownBlock = some g → w.heap.size + 3 ≤ g := fun g e => (hown7.lt g e).1
        have hk7 : Keeps (w.heap.size + 3) [3] w7 (w8.setCell ⟨w.heap.size + 1 + 1, 2, none⟩ (.slice VA (k + 1) VC)) :=
          (Keeps.alloc _ _ _ _).trans ((Keeps.own hg8' hown7 (by decide)).trans (Keeps.setCell (p := ⟨w.heap.size + 1 + 1, 2, none⟩) hc8 (by decide) _))
        refine ⟨⟨k + 1, .slice VA (k + 1) VC, us ++ [.slice XA XN XC], by omega, by go_num, by rw [List.length_append, Hus.out]; rfl, ?_, hc8.set_ 2 _, own_set hown8 (show w.heap.size + 1 + 1 < w.heap.size + 3 by omega) _, ?_, ?_, ?_⟩, by simp [intOf]; omega⟩
        · exact Blk.far (Blk.grown (Blk.alloc ((Blk.drew hz).below hb7 (by simp; omega)) _) hg8' (fun e => by have := hbase _ e.symm; omega)) (by simp) _
        · rw [take_snoc Hts.out]
          exact OElems.snoc ((hel.keep ((Keeps.drewN _ _ wr 1).trans (Keeps.of_below hb7))).keep hk7) (by rw [Hus.out, List.length_take]; have := Hlen.out; omega) ((hni.more (by simp; omega)).keep hk7)
        · exact ((((hbel.drew).trans (hb7.mono hbelz)).alloc (by omega) _).grown hg8' (by simp; omega) (fun g e => by have := hbase g e; omega)).setCell (show w.heap.size ≤ w.heap.size + 1 + 1 by omega) _
        · have hs8 := hg8'.size
          rw [World.size_alloc] at hs8
          rw [World.size_setCell]
          refine hap.snoc (by omega) (by omega) fun g hg => ?_
          have h9 := hni.lt hg
          have h10 : wr.drew.heap.size = wr.heap.size := rfl
          omega
    · have hkl : k = len := by omega
      subst hkl
      have htk : ts.take k = ts := List.take_of_length_le (by have := Hlen.out; omega)
      rw [htk] at hel
      have hcc0 : wr.cell? ⟨w.heap.size + 1 + 1, 0, none⟩ = some (.string name) := hc.cell 0
      have hcc1 : wr.cell? ⟨w.heap.size + 1 + 1, 1, none⟩ = some (.int .i64 arity) := hc.cell 1
      have hcc2 : wr.cell? ⟨w.heap.size + 1 + 1, 2, none⟩ = some (.slice TA k TC) := hc.cell 2
      have hzc0 : wr.cell? ⟨w.heap.size + 1, 0, none⟩ = some (.string ⟨#[]⟩) := hz.cell 0
      have hzc1 : wr.cell? ⟨w.heap.size + 1, 1, none⟩ = some (.int .i64 0) := hz.cell 1
      have hzc2 : wr.cell? ⟨w.heap.size + 1, 2, none⟩ = some (.slice none 0 0) := hz.cell 2
      have hzf0 := hz.frozen 0
      have hzf1 := hz.frozen 1
      have hzf2 := hz.frozen 2
      have Hel := Lib.hid hel; clear htk hel
      go_wp2
      refine bodyPost_ret (v := .agg #[.string name, .int .i64 arity, .slice TA k TC]) (by simp [results, Tryd.results28, go_sem, hzc0, hzc1, hzc2]) rfl ?_
      have hk0 : Keeps (w.heap.size + 3) [3] wr (((wr.setCell ⟨w.heap.size + 1, 0, none⟩ (.string name)).setCell ⟨w.heap.size + 1, 1, none⟩ (.int .i64 arity)).setCell ⟨w.heap.size + 1, 2, none⟩ (.slice TA k TC)) :=
        (Keeps.setCell (p := ⟨w.heap.size + 1, 0, none⟩) hz (by decide) _).trans ((Keeps.setCell (p := ⟨w.heap.size + 1, 1, none⟩) (hz.set_ _ _) (by decide) _).trans (Keeps.setCell (p := ⟨w.heap.size + 1, 2, none⟩) ((hz.set_ _ _).set_ _ _) (by decide) _))
      have hlk : k = ts.length := Hlen.out
      refine ⟨_, us, rfl, by rw [Hus.out]; exact hlk, ?_, fun j x t h1 h2 => (Hel.out.keep hk0 j x t h1 h2).more (by omega), ?_, ?_⟩
      · have ho := own_set (own_set (own_set Hown.out (p := ⟨w.heap.size + 1, 0, none⟩) (show w.heap.size + 1 < w.heap.size + 3 by omega) (.string name)) (p := ⟨w.heap.size + 1, 1, none⟩) (show w.heap.size + 1 < w.heap.size + 3 by omega) (.int .i64 arity)) (p := ⟨w.heap.size + 1, 2, none⟩) (show w.heap.size + 1 < w.heap.size + 3 by omega) (.slice TA k TC)
        rw [← hlk]
        exact own_base ho (by omega)
      · exact ((hbel.setCell (by simp) _).setCell (by simp) _).setCell (by simp) _
      · rw [World.size_setCell, World.size_setCell, World.size_setCell]; exact hap

end Go.Proofs.YtelememdhpncgaaDoor
