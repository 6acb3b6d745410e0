/-
  Texts joined: Spec3, Spec4, Spec5, Permm, Ren, Spec6.
-/
import Derived.Test.YtelememdhpncgaaDoorJn1
import Derived.Test.YtelememdhpncgaaDoorJn7
import Derived.Test.YtelememdhpncgaaDoorJn4

/-
  Plain mathematics: Rank keeps the order of tuples, and Tuple undoes it.
-/
namespace Go.Proofs.YtelememdhpncgaaDoor.Sh

theorem rank_from (n : Int) : ∀ (t : List Int) (r : Int), t.foldl (fun r x => r * n + x) r = r * n ^ t.length + rankI n t
  | [], r => by simp [rankI]
  | x :: t, r => by
    have h1 := rank_from n t (r * n + x)
    have h2 := rank_from n t (0 * n + x)
    unfold rankI
    rw [List.foldl_cons, List.foldl_cons, h1, h2, List.length_cons, Int.pow_succ]
    rw [Int.add_mul, Int.mul_assoc, Int.mul_comm n]
    rw [Int.zero_mul, Int.zero_add, Int.add_assoc]
theorem rank_cons (n x : Int) (t : List Int) : rankI n (x :: t) = x * n ^ t.length + rankI n t := by
  have h := rank_from n t (0 * n + x)
  rw [Int.zero_mul, Int.zero_add] at h
  unfold rankI
  rw [List.foldl_cons, Int.zero_mul, Int.zero_add, h]
  rfl
theorem rank_full (n : Nat) (t : List Int) (hi : inB n t = true) : 0 ≤ rankI n t ∧ rankI n t < (n : Int) ^ t.length := by
  have h := rank_bd n t hi t.length
  rw [List.take_length, Nat.min_self] at h
  push_cast at h
  exact h

theorem rank_order (n : Nat) : ∀ (a b : List Int), a.length = b.length → inB n a = true → inB n b = true → (lessB a b = true → rankI n a < rankI n b) ∧ (lessB b a = true → rankI n b < rankI n a) ∧ (lessB a b = false → lessB b a = false → a = b)
  | [], [], _, _, _ => by simp [lessB]
  | [], _ :: _, h, _, _ => by simp at h
  | _ :: _, [], h, _, _ => by simp at h
  | x :: xs, y :: ys, h, ha, hb => by
    have hl : xs.length = ys.length := by simpa using h
    have ha' : inB n xs = true := by unfold inB at ha ⊢; simp at ha ⊢; exact ha.2
    have hb' : inB n ys = true := by unfold inB at hb ⊢; simp at hb ⊢; exact hb.2
    obtain ⟨i1, i2, i3⟩ := rank_order n xs ys hl ha' hb'
    have h1 := rank_full n xs ha'
    have h2 := rank_full n ys hb'
    rw [rank_cons, rank_cons, hl]
    rw [hl] at h1
    generalize hP : (n : Int) ^ ys.length = P at *
    have hP0 : 0 ≤ P := by omega
    unfold lessB
    by_cases hxy : x = y
    · subst hxy
      rw [if_pos rfl, if_pos rfl]
      exact ⟨fun hh => by have := i1 hh; omega, fun hh => by have := i2 hh; omega, fun p q => by rw [i3 p q]⟩
    · rw [if_neg hxy, if_neg (fun e => hxy e.symm)]
      refine ⟨fun hh => ?_, fun hh => ?_, fun p q => ?_⟩
      · have hlt : x < y := of_decide_eq_true hh
        have : (x + 1) * P ≤ y * P := Int.mul_le_mul_of_nonneg_right (by omega) hP0
        rw [Int.add_mul] at this
        omega
      · have hlt : y < x := of_decide_eq_true hh
        have : (y + 1) * P ≤ x * P := Int.mul_le_mul_of_nonneg_right (by omega) hP0
        rw [Int.add_mul] at this
        omega
      · have := of_decide_eq_false p
        have := of_decide_eq_false q
        omega

theorem less_rank {n : Nat} {a b : List Int} (hl : a.length = b.length) (ha : inB n a = true) (hb : inB n b = true) : decide (rankI n a < rankI n b) = lessB a b := by
  obtain ⟨h1, h2, h3⟩ := rank_order n a b hl ha hb
  cases hab : lessB a b
  · cases hba : lessB b a
    · rw [h3 hab hba]; simp
    · have := h2 hba; exact decide_eq_false (by omega)
  · exact decide_eq_true (h1 hab)
theorem eq_rank {n : Nat} {a b : List Int} (hl : a.length = b.length) (ha : inB n a = true) (hb : inB n b = true) : decide (rankI n a = rankI n b) = eqB a b := by
  obtain ⟨h1, h2, h3⟩ := rank_order n a b hl ha hb
  by_cases he : a = b
  · subst he; rw [(eqB_iff a a).2 rfl]; simp
  · have hf : eqB a b = false := by rw [Bool.eq_false_iff]; intro h; exact he ((eqB_iff a b).1 h)
    rw [hf]
    refine decide_eq_false fun hr => ?_
    cases hab : lessB a b
    · cases hba : lessB b a
      · exact he (h3 hab hba)
      · have := h2 hba; omega
    · have := h1 hab; omega

theorem tup_rank (n : Nat) : ∀ (k : Nat) (t : List Int), t.length = k → inB n t = true → tupN n k (rankI n t).toNat = t
  | 0, t, h, _ => by rw [List.eq_nil_of_length_eq_zero h]; rfl
  | k + 1, t, h, hi => by
    have hne : t ≠ [] := by rintro rfl; simp at h
    have ht : t = t.take k ++ [t.getD k 0] := by
      conv => lhs; rw [← List.take_append_drop k t]
      congr 1
      rw [List.drop_eq_getElem_cons (by omega), List.drop_of_length_le (by omega)]
      simp [List.getD_eq_getElem?_getD, List.getElem?_eq_getElem (show k < t.length by omega)]
    have hx := inB_getD hi (show k < t.length by omega)
    have hin : inB n (t.take k) = true := by
      unfold inB at hi ⊢
      rw [List.all_eq_true] at hi ⊢
      exact fun x hxm => hi x (List.mem_of_mem_take hxm)
    have hr := rank_take_succ n t k (by omega)
    rw [List.take_of_length_le (by omega)] at hr
    have hb := rank_full n (t.take k) hin
    have ih := tup_rank n k (t.take k) (by simp; omega) hin
    obtain ⟨q, hq⟩ := Int.eq_ofNat_of_zero_le hb.1
    obtain ⟨y, hy⟩ := Int.eq_ofNat_of_zero_le hx.1
    rw [hq] at hr ih
    have hyn : y < n := by omega
    have he : (rankI n t).toNat = q * n + y := by
      rw [hr, hy]
      have : (q : Int) * n + y = ((q * n + y : Nat) : Int) := by push_cast; rfl
      rw [this]; rfl
    unfold tupN
    rw [he]
    have hd : (q * n + y) / n = q := by
      rw [Nat.mul_comm, Nat.mul_add_div (by omega), Nat.div_eq_of_lt hyn, Nat.add_zero]
    have hm : (q * n + y) % n = y := by
      rw [Nat.mul_comm, Nat.mul_add_mod, Nat.mod_eq_of_lt hyn]
    rw [hd, hm]
    have : tupN n k q = t.take k := by simpa using ih
    rw [this]
    conv => rhs; rw [ht, hy]

/-- The three answers, at a power that fits. -/
theorem fits {n k : Nat} (h1 : 1 ≤ n) (h2 : n ≤ 64) (h3 : k ≤ 12) (h : powR n k ≤ 4096) : n ^ k ≤ 4096 := by
  rcases Nat.lt_or_ge 4096 (n ^ k) with hh | hh
  · have := (powR_eq n k h1).2 hh; omega
  · exact hh
theorem rankE_ok {n : Nat} {t : List Int} (h1 : 1 ≤ n) (h2 : n ≤ 64) (h3 : t.length ≤ 12) (h : powR n t.length ≤ 4096) (hi : inB n t = true) : rankE n t = (rankI n t, 0) := by
  unfold rankE
  rw [powE_ok h1 h2 h3 (fits h1 h2 h3 h), if_neg (by simp), if_neg (by rw [hi]; simp)]
theorem tupE_ok {n : Nat} {t : List Int} (h1 : 1 ≤ n) (h2 : n ≤ 64) (h3 : t.length ≤ 12) (h : powR n t.length ≤ 4096) (hi : inB n t = true) : tupE n t.length (rankI n t) = (t, 0) := by
  have hf := fits h1 h2 h3 h
  have hb := rank_full n t hi
  unfold tupE
  rw [powE_ok h1 h2 h3 hf, if_neg (by simp), if_neg (by push_cast; omega)]
  rw [show ((n : Int)).toNat = n by simp, show ((t.length : Int)).toNat = t.length by simp, tup_rank n _ t rfl hi]

end Go.Proofs.YtelememdhpncgaaDoor.Sh

/-
  Plain mathematics: structures made of symbols, relations kept, how many tuples a valid relation has.
-/
namespace Go.Proofs.YtelememdhpncgaaDoor.Sh

/-- The structure with empty relations. -/
def madeR (ss : List (ByteArray × Int)) : List Rel := ss.map fun s => ⟨s.1, s.2, []⟩

/-- A list's elements at two places differ. -/
theorem nodup_succ {α : Type} {l : List α} {k : Nat} {a : α} (ha : l[k]? = some a) : (l.take (k + 1)).Nodup ↔ (l.take k).Nodup ∧ a ∉ l.take k := by
  obtain ⟨hk, rfl⟩ := List.getElem?_eq_some_iff.1 ha
  rw [List.take_succ_eq_append_getElem hk, List.nodup_append]
  constructor
  · rintro ⟨h1, -, h3⟩
    exact ⟨h1, fun hm => h3 _ hm _ (List.mem_singleton_self _) rfl⟩
  · rintro ⟨h1, h2⟩
    refine ⟨h1, by simp, fun x hx y hy e => ?_⟩
    rw [List.mem_singleton] at hy
    subst hy
    exact h2 (e ▸ hx)
theorem nodup_take {α : Type} {l : List α} (h : l.Nodup) (k : Nat) : (l.take k).Nodup := h.sublist (List.take_sublist k l)

/-- The names of a valid structure differ. -/
theorem names_take {size : Int} {rs : List Rel} : ∀ (k : Nat), k ≤ rs.length → (List.range k).all (relAt size rs) = true → ((rs.take k).map (·.name.toList)).Nodup
  | 0, _, _ => by simp
  | k + 1, hk, h => by
    rw [range_all_succ] at h
    simp only [Bool.and_eq_true] at h
    have h1 := names_take k (by omega) h.1
    have h2 := h.2
    unfold relAt at h2
    rw [List.getElem?_eq_getElem (by omega)] at h2
    simp only [Bool.and_eq_true, Bool.not_eq_true'] at h2
    rw [List.take_succ_eq_append_getElem (by omega), List.map_append, List.nodup_append]
    refine ⟨h1, by simp, fun x hx y hy e => ?_⟩
    simp only [List.map_cons, List.map_nil, List.mem_singleton] at hy
    have hc : ((rs.take k).map (·.name.toList)).contains rs[k].name.toList = true := List.contains_iff_mem.2 (by rw [← hy, ← e]; exact hx)
    rw [hc] at h2
    exact absurd h2.2 (by simp)
theorem valid_names {size : Int} {rs : List Rel} (h : validB ⟨size, rs⟩ = true) : (rs.map (·.name.toList)).Nodup := by
  unfold validB at h
  simp only [Bool.and_eq_true] at h
  have := names_take rs.length (Nat.le_refl _) h.2
  rwa [List.take_length] at this

/-- Find: by the name alone. -/
def nameI (nm : List UInt8) (rs : List Rel) : Int :=
  match rs.findIdx? (fun r => r.name.toList == nm) with
  | some i => i
  | none => -1
def NoneNamed (nm : List UInt8) (rs : List Rel) (k : Nat) : Prop := ∀ j r, j < k → rs[j]? = some r → (r.name.toList == nm) = false
theorem NoneNamed.succ {nm : List UInt8} {rs : List Rel} {k : Nat} {r : Rel} (h : NoneNamed nm rs k) (hr : rs[k]? = some r) (hf : (r.name.toList == nm) = false) : NoneNamed nm rs (k + 1) := by
  intro j r' hj hr'
  by_cases hjk : j = k
  · subst hjk; rw [hr] at hr'; injection hr' with hr'; rw [← hr']; exact hf
  · exact h j r' (by omega) hr'
theorem nameI_hit {nm : List UInt8} {rs : List Rel} {k : Nat} {r : Rel} (h : NoneNamed nm rs k) (hr : rs[k]? = some r) (hf : (r.name.toList == nm) = true) : nameI nm rs = k := by
  unfold nameI
  obtain ⟨hk, hrk⟩ := List.getElem?_eq_some_iff.1 hr
  have : rs.findIdx? (fun r => r.name.toList == nm) = some k := by
    rw [List.findIdx?_eq_some_iff_getElem]
    refine ⟨hk, by rw [hrk]; exact hf, fun j hj => ?_⟩
    have := h j _ hj (List.getElem?_eq_getElem (by omega))
    simpa using this
  rw [this]
theorem nameI_none {nm : List UInt8} {rs : List Rel} (h : NoneNamed nm rs rs.length) : nameI nm rs = -1 := by
  unfold nameI
  have : rs.findIdx? (fun r => r.name.toList == nm) = none := by
    rw [List.findIdx?_eq_none_iff]
    intro r hr
    obtain ⟨j, hj, rfl⟩ := List.mem_iff_getElem.1 hr
    exact h j _ hj (List.getElem?_eq_getElem hj)
  rw [this]
theorem nameI_cases (nm : List UInt8) (rs : List Rel) : (nameI nm rs = -1 ∧ ∀ r ∈ rs, r.name.toList ≠ nm) ∨ ∃ (k : Nat) (r : Rel), nameI nm rs = k ∧ rs[k]? = some r ∧ r.name.toList = nm := by
  unfold nameI
  cases hf : rs.findIdx? (fun r => r.name.toList == nm) with
  | none =>
    rw [List.findIdx?_eq_none_iff] at hf
    exact .inl ⟨rfl, fun r hr e => by have := hf r hr; simp [e] at this⟩
  | some i =>
    obtain ⟨hk, hp, -⟩ := List.findIdx?_eq_some_iff_getElem.1 hf
    exact .inr ⟨i, rs[i], rfl, List.getElem?_eq_getElem hk, by simpa using hp⟩

/-- Among different names both ways to look a symbol up agree. -/
theorem find_name {nm : List UInt8} {ar : Int} {rs : List Rel} (hn : (rs.map (·.name.toList)).Nodup) {k : Nat} {r : Rel} (hr : rs[k]? = some r) (he : r.name.toList = nm) : findI nm ar rs = if r.arity = ar then (k : Int) else -1 := by
  obtain ⟨hk, rfl⟩ := List.getElem?_eq_some_iff.1 hr
  have huniq : ∀ j (hj : j < rs.length), rs[j].name.toList = nm → j = k := fun j hj e => by
    have hp := List.pairwise_iff_getElem.1 hn
    rcases Nat.lt_trichotomy j k with h | h | h
    · have h2 := hp j k (by simpa using hj) (by simpa using hk) h
      rw [List.getElem_map, List.getElem_map, e, he] at h2
      exact absurd rfl h2
    · exact h
    · have h2 := hp k j (by simpa using hk) (by simpa using hj) h
      rw [List.getElem_map, List.getElem_map, e, he] at h2
      exact absurd rfl h2
  have hbefore : NoneOf nm ar rs k := fun j r' hj hr' => by
    obtain ⟨hj', rfl⟩ := List.getElem?_eq_some_iff.1 hr'
    unfold symB
    have : rs[j].name.toList ≠ nm := fun e => by have := huniq j hj' e; omega
    simp [this]
  by_cases ha : rs[k].arity = ar
  · rw [if_pos ha]
    exact findI_hit hbefore hr (by unfold symB; simp [he, ha])
  · rw [if_neg ha]
    refine findI_none fun j r' hj hr' => ?_
    obtain ⟨hj', rfl⟩ := List.getElem?_eq_some_iff.1 hr'
    unfold symB
    by_cases e : rs[j].name.toList = nm
    · have hjk := huniq j hj' e
      subst hjk
      simp [ha]
    · simp [e]
theorem find_noname {nm : List UInt8} {ar : Int} {rs : List Rel} (h : ∀ r ∈ rs, r.name.toList ≠ nm) : findI nm ar rs = -1 := by
  refine findI_none fun j r' hj hr' => ?_
  obtain ⟨hj', rfl⟩ := List.getElem?_eq_some_iff.1 hr'
  unfold symB
  have := h rs[j] (List.getElem_mem hj')
  simp [this]

/-- The symbols fit; two have the same name. -/
def fitB (rs : List Rel) (s : ByteArray × Int) : Bool := decide (0 ≤ findI s.1.toList s.2 rs)
def fitsB (rs : List Rel) (ss : List (ByteArray × Int)) : Bool := ss.all (fitB rs)
def symNames (ss : List (ByteArray × Int)) : List (List UInt8) := ss.map (·.1.toList)
def onceB (ss : List (ByteArray × Int)) : Bool := decide (symNames ss).Nodup
theorem symNames_at {ss : List (ByteArray × Int)} {k : Nat} {s : ByteArray × Int} (h : ss[k]? = some s) : (symNames ss)[k]? = some s.1.toList := by
  unfold symNames; rw [List.getElem?_map, h]; rfl
theorem symNames_take (ss : List (ByteArray × Int)) (k : Nat) : symNames (ss.take k) = (symNames ss).take k := by
  unfold symNames; rw [List.map_take]
theorem once_false {ss : List (ByteArray × Int)} {k : Nat} {s : ByteArray × Int} (h : ss[k]? = some s) (hm : s.1.toList ∈ (symNames ss).take k) : onceB ss = false := by
  unfold onceB
  rw [decide_eq_false_iff_not]
  intro hn
  exact ((nodup_succ (symNames_at h)).1 (nodup_take hn (k + 1))).2 hm
theorem once_true {ss : List (ByteArray × Int)} {k : Nat} (hk : ss.length ≤ k) (h : ((symNames ss).take k).Nodup) : onceB ss = true := by
  unfold onceB
  rw [decide_eq_true_eq]
  rwa [List.take_of_length_le (by simpa [symNames] using hk)] at h

def relDummy : Rel := ⟨⟨#[]⟩, 0, []⟩
/-- The relation of a symbol; those of symbols. -/
def keepOne (rs : List Rel) (s : ByteArray × Int) : Rel := rs.getD (findI s.1.toList s.2 rs).toNat relDummy
def keepR (rs : List Rel) (ss : List (ByteArray × Int)) : List Rel := ss.map (keepOne rs)
def keepErr (size : Int) (rs : List Rel) (ss : List (ByteArray × Int)) : Int :=
  if validB ⟨size, rs⟩ = false then 1 else if fitsB rs ss = false then 4 else if onceB ss = false then 2 else 0
theorem fits_get {rs : List Rel} {ss : List (ByteArray × Int)} (h : fitsB rs ss = true) {k : Nat} {s : ByteArray × Int} (hs : ss[k]? = some s) : ∃ (j : Nat) (r : Rel), findI s.1.toList s.2 rs = j ∧ rs[j]? = some r ∧ keepOne rs s = r ∧ r.name.toList = s.1.toList := by
  unfold fitsB at h
  rw [List.all_eq_true] at h
  have h1 := h s (List.mem_of_getElem? hs)
  unfold fitB at h1
  have h2 := of_decide_eq_true h1
  obtain ⟨j, r, e, hr, hn, -⟩ := findI_get (nm := s.1.toList) (ar := s.2) (rs := rs) (by omega)
  refine ⟨j, r, e, hr, ?_, hn⟩
  unfold keepOne
  rw [e, Int.toNat_natCast, List.getD_eq_getElem?_getD, hr]
  rfl

/-- A valid relation has at most 4096 tuples, each of at most 12 elements; a valid structure has at most 8 relations. -/
theorem rising_rank {n : Nat} {ts : List (List Int)} {a : Nat} (hl : ∀ t ∈ ts, t.length = a) (hi : ∀ t ∈ ts, inB n t = true) (hr : Rising ts) : ∀ (i : Nat) (h : i < ts.length), (i : Int) ≤ rankI n ts[i]
  | 0, h => (rank_full n _ (hi _ (List.getElem_mem h))).1
  | i + 1, h => by
    have h0 := rising_rank hl hi hr i (by omega)
    have h1 := hr i h
    rw [getD_get [] ts i (by omega), getD_get [] ts (i + 1) h] at h1
    have la := hl _ (List.getElem_mem (show i < ts.length by omega))
    have lb := hl _ (List.getElem_mem h)
    have hlt := (rank_order n ts[i] ts[i + 1] (by omega) (hi _ (List.getElem_mem _)) (hi _ (List.getElem_mem _))).1 ((cmpI_less _ _ (by omega)).1 h1)
    omega
theorem relB_arity {n : Int} {r : Rel} (h : relB n r = true) : ∃ a b : Nat, n = a ∧ r.arity = b ∧ b ≤ 12 ∧ a ^ b ≤ 4096 ∧ 1 ≤ a := by
  unfold relB at h
  simp only [Bool.and_eq_true, decide_eq_true_eq] at h
  rcases powE_cases n r.arity with ⟨h1, -⟩ | ⟨a, b, e1, e2, ha, -, hb, hp, -⟩
  · exact absurd h.1.1 h1
  · exact ⟨a, b, e1, e2, hb, hp, ha⟩
theorem relB_small {n : Int} {r : Rel} (h : relB n r = true) : r.tuples.length ≤ 4096 ∧ ∀ t ∈ r.tuples, t.length ≤ 12 := by
  obtain ⟨a, b, rfl, e2, hb, hp, ha⟩ := relB_arity h
  have hl : ∀ t ∈ r.tuples, t.length = b := fun t ht => by have := relB_len h ht; omega
  refine ⟨?_, fun t ht => by rw [hl t ht]; exact hb⟩
  rcases Nat.eq_zero_or_pos r.tuples.length with h0 | h0
  · omega
  · have h1 := rising_rank hl (fun t ht => relB_in h ht) (relB_rising h) (r.tuples.length - 1) (by omega)
    have h2 := (rank_full a _ (relB_in h (List.getElem_mem (show r.tuples.length - 1 < r.tuples.length by omega)))).2
    rw [hl _ (List.getElem_mem _)] at h2
    have h3 : ((a ^ b : Nat) : Int) ≤ ((4096 : Nat) : Int) := Int.ofNat_le.2 hp
    rw [Int.natCast_pow] at h3
    omega

end Go.Proofs.YtelememdhpncgaaDoor.Sh

/-
  Plain mathematics: rising lists of tuples, the reference's Sorted, Put.
-/
namespace Go.Proofs.YtelememdhpncgaaDoor.Sh

theorem rising_iff (ts : List (List Int)) : Rising ts ↔ ts.Pairwise (fun x y => cmpI x y < 0) := by
  rw [List.pairwise_iff_getElem]
  constructor
  · intro h i j hi hj hij
    have := h.lt' hij hj
    rwa [getD_get [] ts i hi, getD_get [] ts j hj] at this
  · intro h i hi
    have := h i (i + 1) (by omega) hi (by omega)
    rwa [getD_get [] ts i (by omega), getD_get [] ts (i + 1) hi]
theorem cmpI_asym {a b : List Int} (h : cmpI a b < 0) (h' : cmpI b a < 0) : False := by
  have := cmpI_trans _ _ _ h h'
  rw [cmpI_self] at this
  omega
theorem cmpI_irr {a : List Int} (h : cmpI a a < 0) : False := by rw [cmpI_self] at h; omega

theorem pw_ext : ∀ (a b : List (List Int)), a.Pairwise (fun x y => cmpI x y < 0) → b.Pairwise (fun x y => cmpI x y < 0) → (∀ x, x ∈ a ↔ x ∈ b) → a = b
  | [], [], _, _, _ => rfl
  | [], y :: ys, _, _, h => by have := (h y).2 (List.mem_cons_self ..); simp at this
  | x :: xs, [], _, _, h => by have := (h x).1 (List.mem_cons_self ..); simp at this
  | x :: xs, y :: ys, ha, hb, h => by
    rw [List.pairwise_cons] at ha hb
    have e : x = y := by
      rcases List.mem_cons.1 ((h x).1 (List.mem_cons_self ..)) with e | hx
      · exact e
      · rcases List.mem_cons.1 ((h y).2 (List.mem_cons_self ..)) with e | hy
        · exact e.symm
        · exact (cmpI_asym (hb.1 x hx) (ha.1 y hy)).elim
    subst e
    congr 1
    refine pw_ext xs ys ha.2 hb.2 fun z => ?_
    constructor
    · intro hz
      rcases List.mem_cons.1 ((h z).1 (List.mem_cons_of_mem _ hz)) with e | h1
      · subst e; exact (cmpI_irr (ha.1 z hz)).elim
      · exact h1
    · intro hz
      rcases List.mem_cons.1 ((h z).2 (List.mem_cons_of_mem _ hz)) with e | h1
      · subst e; exact (cmpI_irr (hb.1 z hz)).elim
      · exact h1
theorem rising_ext {a b : List (List Int)} (ha : Rising a) (hb : Rising b) (h : ∀ x, x ∈ a ↔ x ∈ b) : a = b := pw_ext a b ((rising_iff a).1 ha) ((rising_iff b).1 hb) h
theorem cmpI_tri : ∀ (a b : List Int), ¬ cmpI a b < 0 → ¬ cmpI b a < 0 → a = b
  | [], [], _, _ => rfl
  | [], y :: ys, h, _ => by simp [cmpI] at h
  | x :: xs, [], _, h => by simp [cmpI] at h
  | x :: xs, y :: ys, h1, h2 => by
    unfold cmpI at h1 h2
    by_cases hxy : x < y
    · rw [if_pos hxy] at h1; omega
    · by_cases hyx : y < x
      · rw [if_pos hyx] at h2; omega
      · rw [if_neg hxy, if_neg hyx] at h1
        rw [if_neg hyx, if_neg hxy] at h2
        have e : x = y := by omega
        subst e
        rw [cmpI_tri xs ys h1 h2]

/-- Where the reference's Sorted puts a tuple: behind the last that is not above it. -/
def stopR (out : List (List Int)) (t : List Int) : Nat → Nat
  | 0 => 0
  | k + 1 => if lessB t (out.getD k []) = true then stopR out t k else k + 1
def insR (out : List (List Int)) (t : List Int) : List (List Int) :=
  if 0 < stopR out t out.length ∧ out.getD (stopR out t out.length - 1) [] = t then out
  else out.take (stopR out t out.length) ++ t :: out.drop (stopR out t out.length)
def sortR (l : List (List Int)) : List (List Int) := l.foldl insR []
theorem sortR_snoc (l : List (List Int)) (t : List Int) : sortR (l ++ [t]) = insR (sortR l) t := by
  unfold sortR; rw [List.foldl_append]; rfl
theorem stopR_le (out : List (List Int)) (t : List Int) : ∀ k, stopR out t k ≤ k
  | 0 => Nat.le_refl _
  | k + 1 => by unfold stopR; split; exact Nat.le_succ_of_le (stopR_le out t k); exact Nat.le_refl _
theorem stopR_above (out : List (List Int)) (t : List Int) : ∀ k j, stopR out t k ≤ j → j < k → lessB t (out.getD j []) = true
  | 0, j, _, h => absurd h (by omega)
  | k + 1, j, h, hj => by
    unfold stopR at h
    split at h
    · by_cases e : j = k
      · subst e; assumption
      · exact stopR_above out t k j h (by omega)
    · omega
theorem stopR_stop (out : List (List Int)) (t : List Int) : ∀ k, 0 < stopR out t k → lessB t (out.getD (stopR out t k - 1) []) = false
  | 0, h => absurd h (by simp [stopR])
  | k + 1, h => by
    unfold stopR at h ⊢
    split at h
    · rename_i hc; rw [if_pos hc]; exact stopR_stop out t k h
    · rename_i hc; rw [if_neg hc]; simpa using hc

/-- One length. -/
def Long (a : Nat) (l : List (List Int)) : Prop := ∀ t ∈ l, t.length = a
theorem insR_ok {a : Nat} {out : List (List Int)} {t : List Int} (hr : Rising out) (hl : Long a out) (ht : t.length = a) : Rising (insR out t) ∧ Long a (insR out t) ∧ ∀ x, x ∈ insR out t ↔ x = t ∨ x ∈ out := by
  have h1 := stopR_le out t out.length
  have h2 := stopR_above out t out.length
  have h3 := stopR_stop out t out.length
  unfold insR
  generalize stopR out t out.length = k at *
  have hlen : ∀ j (hj : j < out.length), out[j].length = t.length := fun j hj => by rw [hl _ (List.getElem_mem hj), ht]
  by_cases hc : 0 < k ∧ out.getD (k - 1) [] = t
  · rw [if_pos hc]
    refine ⟨hr, hl, fun x => ⟨.inr, ?_⟩⟩
    rintro (rfl | h)
    · rw [getD_get [] out (k - 1) (by omega)] at hc
      rw [← hc.2]
      exact List.getElem_mem _
    · exact h
  · rw [if_neg hc]
    have hmem : ∀ x, x ∈ out.take k ++ t :: out.drop k ↔ x = t ∨ x ∈ out := fun x => by
      have e : x ∈ out ↔ x ∈ out.take k ∨ x ∈ out.drop k := by rw [← List.mem_append, List.take_append_drop]
      rw [List.mem_append, List.mem_cons, e]
      constructor
      · rintro (h | h | h)
        · exact .inr (.inl h)
        · exact .inl h
        · exact .inr (.inr h)
      · rintro (h | h | h)
        · exact .inr (.inl h)
        · exact .inl h
        · exact .inr (.inr h)
    have hup : ∀ x ∈ out.drop k, cmpI t x < 0 := fun x hx => by
      obtain ⟨j, hj, rfl⟩ := List.mem_iff_getElem.1 hx
      rw [List.length_drop] at hj
      rw [List.getElem_drop]
      have := h2 (k + j) (by omega) (by omega)
      rw [getD_get [] out (k + j) (by omega)] at this
      exact (cmpI_less _ _ (hlen _ _).symm).2 this
    have hlo : ∀ x ∈ out.take k, cmpI x t < 0 := fun x hx => by
      obtain ⟨j, hj, rfl⟩ := List.mem_iff_getElem.1 hx
      rw [List.length_take] at hj
      rw [List.getElem_take]
      have hk0 : 0 < k := by omega
      have hs := h3 hk0
      rw [getD_get [] out (k - 1) (by omega)] at hs hc
      have hlast : cmpI out[k - 1] t < 0 := by
        rcases Int.lt_or_le (cmpI out[k - 1] t) 0 with h | h
        · exact h
        · have : out[k - 1] = t := cmpI_tri _ _ (by omega) (fun h' => by
            rw [(cmpI_less _ _ (hlen _ _).symm).1 h'] at hs
            cases hs)
          exact absurd ⟨hk0, this⟩ hc
      by_cases e : j = k - 1
      · subst e; exact hlast
      · have := hr.lt' (show j < k - 1 by omega) (by omega)
        rw [getD_get [] out j (by omega), getD_get [] out (k - 1) (by omega)] at this
        exact cmpI_trans _ _ _ this hlast
    have hp := (rising_iff out).1 hr
    refine ⟨(rising_iff _).2 ?_, fun x hx => ?_, hmem⟩
    · rw [List.pairwise_append, List.pairwise_cons]
      refine ⟨hp.sublist (List.take_sublist _ _), ⟨hup, hp.sublist (List.drop_sublist _ _)⟩, fun x hx y hy => ?_⟩
      rcases List.mem_cons.1 hy with rfl | hy
      · exact hlo x hx
      · exact cmpI_trans _ _ _ (hlo x hx) (hup y hy)
    · rcases (hmem x).1 hx with rfl | h
      · exact ht
      · exact hl x h
theorem fold_ok {a : Nat} : ∀ (l out : List (List Int)), Rising out → Long a out → Long a l → Rising (l.foldl insR out) ∧ Long a (l.foldl insR out) ∧ ∀ x, x ∈ l.foldl insR out ↔ x ∈ l ∨ x ∈ out
  | [], out, hr, hl, _ => ⟨hr, hl, fun x => by simp⟩
  | t :: l, out, hr, hl, h => by
    obtain ⟨i1, i2, i3⟩ := insR_ok hr hl (h t (List.mem_cons_self ..))
    obtain ⟨j1, j2, j3⟩ := fold_ok l (insR out t) i1 i2 (fun x hx => h x (List.mem_cons_of_mem _ hx))
    refine ⟨j1, j2, fun x => ?_⟩
    rw [List.foldl_cons, j3, i3, List.mem_cons]
    constructor
    · rintro (h | h | h)
      · exact .inl (.inr h)
      · exact .inl (.inl h)
      · exact .inr h
    · rintro ((h | h) | h)
      · exact .inr (.inl h)
      · exact .inl h
      · exact .inr (.inr h)
theorem rising_nil : Rising [] := fun i h => by simp at h
theorem sortR_ok {a : Nat} {l : List (List Int)} (h : Long a l) : Rising (sortR l) ∧ Long a (sortR l) ∧ ∀ x, x ∈ sortR l ↔ x ∈ l := by
  obtain ⟨h1, h2, h3⟩ := fold_ok l [] rising_nil (fun x hx => by simp at hx) h
  exact ⟨h1, h2, fun x => by unfold sortR; rw [h3]; simp⟩

/-- Put on one relation's tuples: the program's way. -/
def putT (ts : List (List Int)) (t : List Int) (is : Bool) : List (List Int) :=
  if is = true ∧ foundB ts t = false then ts.take (lbN ts t) ++ t :: ts.drop (lbN ts t)
  else if is = false ∧ foundB ts t = true then ts.take (lbN ts t) ++ ts.drop (lbN ts t + 1)
  else ts
theorem lbN_le (ts : List (List Int)) (t : List Int) : lbN ts t ≤ ts.length := by
  unfold lbN; exact (List.takeWhile_sublist _).length_le
theorem lbN_below {ts : List (List Int)} {t : List Int} : ∀ x ∈ ts.take (lbN ts t), cmpI x t < 0 := by
  intro x hx
  unfold lbN at hx
  rw [← List.prefix_iff_eq_take.1 (List.takeWhile_prefix _)] at hx
  have h := List.all_takeWhile (l := ts) (p := fun x => decide (cmpI x t < 0))
  rw [List.all_eq_true] at h
  exact of_decide_eq_true (h x hx)
theorem lbN_at {ts : List (List Int)} {t : List Int} (h : lbN ts t < ts.length) : ¬ cmpI (ts[lbN ts t]'h) t < 0 := by
  have e : ts.drop (lbN ts t) = ts.dropWhile (fun x => decide (cmpI x t < 0)) := by
    have h1 := List.takeWhile_append_dropWhile (p := fun x => decide (cmpI x t < 0)) (l := ts)
    have h2 : ts.drop (lbN ts t) = (ts.takeWhile (fun x => decide (cmpI x t < 0)) ++ ts.dropWhile (fun x => decide (cmpI x t < 0))).drop (ts.takeWhile (fun x => decide (cmpI x t < 0))).length := by rw [h1]; rfl
    rw [h2, List.drop_left]
  rw [List.drop_eq_getElem_cons h] at e
  intro (hc : cmpI (ts[lbN ts t]'h) t < 0)
  have hne : ts.dropWhile (fun x => decide (cmpI x t < 0)) ≠ [] := by rw [← e]; exact List.cons_ne_nil _ _
  have hh := List.head_dropWhile_not (fun x => decide (cmpI x t < 0)) hne
  have h1 : (ts.dropWhile (fun x => decide (cmpI x t < 0))).head hne = ts[lbN ts t] := by
    have h2 : (ts.dropWhile (fun x => decide (cmpI x t < 0))).head? = some ts[lbN ts t] := by rw [← e]; rfl
    rw [List.head?_eq_some_head hne] at h2
    exact Option.some.inj h2
  rw [h1] at hh
  simp [hc] at hh
theorem lbN_above {ts : List (List Int)} {t : List Int} (hr : Rising ts) : ∀ x ∈ ts.drop (lbN ts t), ¬ cmpI x t < 0 := by
  intro x hx hc
  obtain ⟨j, hj, rfl⟩ := List.mem_iff_getElem.1 hx
  rw [List.length_drop] at hj
  rw [List.getElem_drop] at hc
  have h0 := lbN_at (ts := ts) (t := t) (by omega)
  by_cases e : j = 0
  · subst e; exact h0 hc
  · have := hr.lt' (show lbN ts t < lbN ts t + j by omega) (by omega)
    rw [getD_get [] ts _ (by omega), getD_get [] ts _ (by omega)] at this
    exact h0 (cmpI_trans _ _ _ this hc)

theorem putT_ok {a : Nat} {ts : List (List Int)} {t : List Int} (hr : Rising ts) (hl : Long a ts) (ht : t.length = a) (is : Bool) :
    Rising (putT ts t is) ∧ Long a (putT ts t is) ∧ ∀ x, x ∈ putT ts t is ↔ (x ∈ ts ∧ x ≠ t) ∨ (is = true ∧ x = t) := by
  have hp := (rising_iff ts).1 hr
  have hf := hr.found t
  have hsplit : ∀ x, x ∈ ts ↔ x ∈ ts.take (lbN ts t) ∨ x ∈ ts.drop (lbN ts t) := fun x => by rw [← List.mem_append, List.take_append_drop]
  unfold putT
  by_cases h1 : is = true ∧ foundB ts t = false
  · rw [if_pos h1]
    have hno : t ∉ ts := by rw [h1.2] at hf; exact of_decide_eq_false hf.symm
    have hmem : ∀ x, x ∈ ts.take (lbN ts t) ++ t :: ts.drop (lbN ts t) ↔ (x ∈ ts ∧ x ≠ t) ∨ (is = true ∧ x = t) := fun x => by
      rw [List.mem_append, List.mem_cons]
      constructor
      · rintro (h | h | h)
        · exact .inl ⟨(hsplit x).2 (.inl h), fun e => hno (e ▸ (hsplit x).2 (.inl h))⟩
        · exact .inr ⟨h1.1, h⟩
        · exact .inl ⟨(hsplit x).2 (.inr h), fun e => hno (e ▸ (hsplit x).2 (.inr h))⟩
      · rintro (⟨h, -⟩ | ⟨-, h⟩)
        · rcases (hsplit x).1 h with h | h
          · exact .inl h
          · exact .inr (.inr h)
        · exact .inr (.inl h)
    refine ⟨(rising_iff _).2 ?_, fun x hx => ?_, hmem⟩
    · rw [List.pairwise_append, List.pairwise_cons]
      have hup : ∀ y ∈ ts.drop (lbN ts t), cmpI t y < 0 := fun y hy => by
        rcases Int.lt_or_le (cmpI t y) 0 with h | h
        · exact h
        · have := cmpI_tri _ _ (lbN_above hr y hy) (by omega)
          subst this
          exact absurd ((hsplit y).2 (.inr hy)) hno
      refine ⟨hp.sublist (List.take_sublist _ _), ⟨hup, hp.sublist (List.drop_sublist _ _)⟩, fun x hx y hy => ?_⟩
      rcases List.mem_cons.1 hy with rfl | hy
      · exact lbN_below x hx
      · exact cmpI_trans _ _ _ (lbN_below x hx) (hup y hy)
    · rcases (hmem x).1 hx with h | h
      · exact hl x h.1
      · rw [h.2]; exact ht
  · rw [if_neg h1]
    by_cases h2 : is = false ∧ foundB ts t = true
    · rw [if_pos h2]
      have hin : t ∈ ts := by rw [h2.2] at hf; exact of_decide_eq_true hf.symm
      have hfb := h2.2
      unfold foundB at hfb
      simp only [Bool.and_eq_true, decide_eq_true_eq] at hfb
      have heq : ts[lbN ts t]'hfb.1 = t := by
        have := (cmpI_eq _ _).1 hfb.2
        rwa [getD_get [] ts _ hfb.1] at this
      have hd : ts.drop (lbN ts t) = t :: ts.drop (lbN ts t + 1) := by rw [List.drop_eq_getElem_cons hfb.1, heq]
      have hcut : ts = ts.take (lbN ts t) ++ t :: ts.drop (lbN ts t + 1) := by
        have := List.take_append_drop (lbN ts t) ts
        rw [hd] at this
        exact this.symm
      have hpc := hp
      rw [hcut, List.pairwise_append, List.pairwise_cons] at hpc
      obtain ⟨q1, ⟨q2, q3⟩, q4⟩ := hpc
      have hmem : ∀ x, x ∈ ts.take (lbN ts t) ++ ts.drop (lbN ts t + 1) ↔ (x ∈ ts ∧ x ≠ t) ∨ (is = true ∧ x = t) := fun x => by
        have e : x ∈ ts ↔ x ∈ ts.take (lbN ts t) ∨ x = t ∨ x ∈ ts.drop (lbN ts t + 1) := by
          rw [hsplit, hd, List.mem_cons]
        rw [List.mem_append, e]
        constructor
        · rintro (h | h)
          · exact .inl ⟨.inl h, fun e => cmpI_irr (e ▸ q4 x h t (List.mem_cons_self ..))⟩
          · exact .inl ⟨.inr (.inr h), fun e => cmpI_irr (e ▸ q2 x h)⟩
        · rintro (⟨h | h | h, hne⟩ | ⟨h, -⟩)
          · exact .inl h
          · exact absurd h hne
          · exact .inr h
          · rw [h2.1] at h; cases h
      refine ⟨(rising_iff _).2 ?_, fun x hx => ?_, hmem⟩
      · rw [List.pairwise_append]
        exact ⟨q1, q3, fun x hx y hy => q4 x hx y (List.mem_cons_of_mem _ hy)⟩
      · rcases (hmem x).1 hx with h | h
        · exact hl x h.1
        · rw [h.2]; exact ht
    · rw [if_neg h2]
      refine ⟨hr, hl, fun x => ?_⟩
      cases is with
      | false =>
        have hnf : foundB ts t = false := by
          cases h : foundB ts t with
          | false => rfl
          | true => exact absurd ⟨rfl, h⟩ h2
        have hno : t ∉ ts := by rw [hnf] at hf; exact of_decide_eq_false hf.symm
        exact ⟨fun h => .inl ⟨h, fun e => hno (e ▸ h)⟩, fun h => by rcases h with h | h; exact h.1; exact absurd h.1 (by simp)⟩
      | true =>
        have hnf : foundB ts t = true := by
          cases h : foundB ts t with
          | true => rfl
          | false => exact absurd ⟨rfl, h⟩ h1
        have hin : t ∈ ts := by rw [hnf] at hf; exact of_decide_eq_true hf.symm
        refine ⟨fun h => ?_, fun h => ?_⟩
        · by_cases e : x = t
          · exact .inr ⟨rfl, e⟩
          · exact .inl ⟨h, e⟩
        · rcases h with h | h
          · exact h.1
          · rw [h.2]; exact hin

/-- The reference's way: the others, then the tuple, sorted. -/
def othersR (ts : List (List Int)) (t : List Int) : List (List Int) := ts.filter (fun x => !eqB x t)
theorem others_mem (ts : List (List Int)) (t x : List Int) : x ∈ othersR ts t ↔ x ∈ ts ∧ x ≠ t := by
  unfold othersR
  rw [List.mem_filter]
  refine and_congr_right fun _ => ?_
  have := eqB_iff x t
  cases h : eqB x t with
  | false => simp; intro e; rw [this.2 e] at h; cases h
  | true => simp; exact this.1 h
theorem put_ref {a : Nat} {ts : List (List Int)} {t : List Int} (hr : Rising ts) (hl : Long a ts) (ht : t.length = a) (is : Bool) :
    sortR (othersR ts t ++ if is = true then [t] else []) = putT ts t is := by
  obtain ⟨h1, -, h3⟩ := putT_ok hr hl ht is
  have hlong : Long a (othersR ts t ++ if is = true then [t] else []) := fun x hx => by
    rw [List.mem_append, others_mem] at hx
    rcases hx with h | h
    · exact hl x h.1
    · split at h
      · rw [List.mem_singleton] at h; rw [h]; exact ht
      · simp at h
  obtain ⟨g1, -, g3⟩ := sortR_ok hlong
  refine rising_ext g1 h1 fun x => ?_
  rw [g3, h3, List.mem_append, others_mem]
  cases is <;> simp

/-- A relation is valid iff its parts are. -/
theorem relB_iff (n : Int) (r : Rel) : relB n r = true ↔ (powE n r.arity).2 = 0 ∧ nameB r.name.toList = true ∧ Rising r.tuples ∧ ∀ t ∈ r.tuples, (t.length : Int) = r.arity ∧ inB n t = true := by
  constructor
  · intro h
    have h' := h
    unfold relB at h'
    simp only [Bool.and_eq_true, decide_eq_true_eq] at h'
    exact ⟨h'.1.1, h'.1.2, relB_rising h, fun t ht => ⟨relB_len h ht, relB_in h ht⟩⟩
  · rintro ⟨h1, h2, h3, h4⟩
    unfold relB
    simp only [Bool.and_eq_true, decide_eq_true_eq]
    refine ⟨⟨h1, h2⟩, ?_⟩
    rw [List.all_eq_true]
    intro i hi
    rw [List.mem_range] at hi
    have hg := h4 _ (List.getElem_mem hi)
    unfold tupOk
    rw [getD_get [] _ i hi]
    simp only [Bool.and_eq_true, decide_eq_true_eq, Bool.or_eq_true]
    refine ⟨hg, ?_⟩
    rcases Nat.eq_zero_or_pos i with h0 | h0
    · exact .inl h0
    · right
      have := h3.lt' (show i - 1 < i by omega) hi
      have hg' := h4 _ (List.getElem_mem (show i - 1 < r.tuples.length by omega))
      rw [getD_get [] _ i hi, getD_get [] _ (i - 1) (by omega)] at this
      rw [getD_get [] _ (i - 1) (by omega)]
      exact (cmpI_less _ _ (by omega)).1 this
/-- .. a structure. -/
theorem validB_iff (size : Int) (rs : List Rel) : validB ⟨size, rs⟩ = true ↔ 1 ≤ size ∧ size ≤ 64 ∧ rs.length ≤ 8 ∧ (∀ r ∈ rs, relB size r = true) ∧ (rs.map (·.name.toList)).Nodup := by
  constructor
  · intro h
    obtain ⟨h1, h2, h3⟩ := validB_size h
    refine ⟨h1, h2, h3, fun r hr => ?_, valid_names h⟩
    obtain ⟨i, hi, rfl⟩ := List.mem_iff_getElem.1 hr
    exact validB_rel h (List.getElem?_eq_getElem hi)
  · rintro ⟨h1, h2, h3, h4, h5⟩
    unfold validB
    simp only [Bool.and_eq_true, decide_eq_true_eq]
    refine ⟨⟨⟨h1, h2⟩, h3⟩, ?_⟩
    rw [List.all_eq_true]
    intro i hi
    rw [List.mem_range] at hi
    unfold relAt
    rw [List.getElem?_eq_getElem hi]
    simp only [Bool.and_eq_true, Bool.not_eq_true']
    refine ⟨h4 _ (List.getElem_mem hi), ?_⟩
    have hn : ((rs.map (·.name.toList)))[i]? = some rs[i].name.toList := by rw [List.getElem?_map, List.getElem?_eq_getElem hi]; rfl
    have := ((nodup_succ hn).1 (nodup_take h5 (i + 1))).2
    rw [← List.map_take] at this
    rw [Bool.eq_false_iff]
    intro hc
    exact this (List.contains_iff_mem.1 hc)

/-- Put on a structure's relations. -/
def putRel (r : Rel) (t : List Int) (is : Bool) : Rel := ⟨r.name, r.arity, putT r.tuples t is⟩
def putR (rs : List Rel) (i : Nat) (t : List Int) (is : Bool) : List Rel := rs.set i (putRel (rs.getD i relDummy) t is)
theorem put_valid {size : Int} {rs : List Rel} (h : validB ⟨size, rs⟩ = true) {i : Nat} {r : Rel} (hr : rs[i]? = some r) {t : List Int} (ht : (t.length : Int) = r.arity) (hin : inB size t = true) (is : Bool) : validB ⟨size, putR rs i t is⟩ = true := by
  rw [validB_iff] at h ⊢
  obtain ⟨h1, h2, h3, h4, h5⟩ := h
  obtain ⟨hi, rfl⟩ := List.getElem?_eq_some_iff.1 hr
  have hg : rs.getD i relDummy = rs[i] := getD_get _ _ _ hi
  unfold putR
  rw [hg]
  refine ⟨h1, h2, by rw [List.length_set]; exact h3, fun r' hr' => ?_, ?_⟩
  · rcases List.mem_or_eq_of_mem_set hr' with h | h
    · exact h4 _ h
    · subst h
      have hb := h4 _ (List.getElem_mem hi)
      rw [relB_iff] at hb ⊢
      obtain ⟨b1, b2, b3, b4⟩ := hb
      have hlong : Long t.length rs[i].tuples := fun x hx => by have := (b4 x hx).1; omega
      obtain ⟨p1, p2, p3⟩ := putT_ok b3 hlong rfl is
      refine ⟨b1, b2, p1, fun x hx => ?_⟩
      rcases (p3 x).1 hx with h | h
      · exact b4 x h.1
      · rw [h.2]; exact ⟨ht, hin⟩
  · rw [List.map_set]
    have e : (rs.map (·.name.toList)).set i (putRel rs[i] t is).name.toList = rs.map (·.name.toList) := by
      apply List.ext_getElem (by simp)
      intro j hj1 hj2
      rw [List.getElem_set]
      split
      · rename_i e; subst e; simp [putRel]
      · rfl
    rw [e]
    exact h5

end Go.Proofs.YtelememdhpncgaaDoor.Sh

/-
  Plain mathematics: what a valid structure and a permutation give for Permute.
-/
namespace Go.Proofs.YtelememdhpncgaaDoor
namespace Sh

theorem okB_get {n x : Int} (h : okB n x = true) : 0 ≤ x ∧ x < n := by
  refine ⟨?_, ?_⟩
  · rcases Int.lt_or_le x 0 with h1 | h1
    · rw [okB_lo h1] at h; cases h
    · exact h1
  · rcases Int.lt_or_le x n with h1 | h1
    · exact h1
    · rw [okB_hi h1] at h; cases h
theorem permB_get {n : Int} {p : List Int} (h : permB n p = true) : (p.length : Int) = n ∧ inB n p = true ∧ p.Nodup := by
  unfold permB at h
  simp only [Bool.and_eq_true, decide_eq_true_eq] at h
  exact ⟨h.1.1, h.1.2, h.2⟩
theorem perm_in {size : Int} {rs : List Rel} {p : List Int} (hv : validB ⟨size, rs⟩ = true) (hq : permB size p = true) : ∀ r ∈ rs, ∀ t ∈ r.tuples, ∀ x ∈ t, 0 ≤ x ∧ x.toNat < p.length := fun r hr t ht x hx => by
  have h1 := ((validB_iff size rs).1 hv).2.2.2.1 r hr
  have h2 := okB_get (List.all_eq_true.1 (relB_in h1 ht) x hx)
  have h3 := (permB_get hq).1
  omega
theorem perm_inj {p : List Int} (hn : p.Nodup) {x y : Int} (hx : 0 ≤ x ∧ x.toNat < p.length) (hy : 0 ≤ y ∧ y.toNat < p.length) (h : p.getD x.toNat 0 = p.getD y.toNat 0) : x = y := by
  rw [List.getD_eq_getElem?_getD, List.getD_eq_getElem?_getD, List.getElem?_eq_getElem hx.2, List.getElem?_eq_getElem hy.2] at h
  have h : p[x.toNat] = p[y.toNat] := h
  have hp := List.pairwise_iff_getElem.1 hn
  rcases Nat.lt_trichotomy x.toNat y.toNat with h1 | h1 | h1
  · exact absurd h (hp _ _ hx.2 hy.2 h1)
  · omega
  · exact absurd h.symm (hp _ _ hy.2 hx.2 h1)
theorem map_inj {f : Int → Int} {S : Int → Prop} (hf : ∀ x y, S x → S y → f x = f y → x = y) : ∀ s t : List Int, (∀ x ∈ s, S x) → (∀ x ∈ t, S x) → s.map f = t.map f → s = t
  | [], [], _, _, _ => rfl
  | [], _ :: _, _, _, h => by cases h
  | _ :: _, [], _, _, h => by cases h
  | x :: s, y :: t, hs, ht, h => by
    injection h with h1 h2
    rw [hf x y (hs x List.mem_cons_self) (ht y List.mem_cons_self) h1, map_inj hf s t (fun z hz => hs z (List.mem_cons_of_mem _ hz)) (fun z hz => ht z (List.mem_cons_of_mem _ hz)) h2]
theorem rising_nodup {ts : List (List Int)} (h : Rising ts) : ts.Nodup := by
  rw [rising_iff] at h
  exact h.imp fun {a b} hab e => by rw [e, cmpI_self] at hab; exact absurd hab (by decide)
theorem perm_nodup {size : Int} {rs : List Rel} {p : List Int} (hv : validB ⟨size, rs⟩ = true) (hq : permB size p = true) : ∀ r ∈ rs, (r.tuples.map (List.map fun x => p.getD x.toNat 0)).Nodup := fun r hr => by
  have h1 := ((validB_iff size rs).1 hv).2.2.2.1 r hr
  have hi := perm_in hv hq r hr
  have hn := rising_nodup (relB_rising h1)
  refine List.pairwise_map.2 (List.Pairwise.imp_of_mem (fun {a b} ha hb hab e => hab ?_) hn)
  exact map_inj (S := fun x => 0 ≤ x ∧ x.toNat < p.length) (fun x y hx hy he => perm_inj (permB_get hq).2.2 hx hy he) a b (hi a ha) (hi b hb) e
end Sh
end Go.Proofs.YtelememdhpncgaaDoor

/-
  Walk: the reference's Renamed.
-/
namespace Go.Proofs.YtelememdhpncgaaDoor
open Go.RowKit

namespace Sh
/-- A tuple with renamed elements. -/
def renT (p t : List Int) : List Int := t.map fun x => p.getD x.toNat 0
theorem renT_snoc (p t : List Int) (x : Int) : renT p (t ++ [x]) = renT p t ++ [p.getD x.toNat 0] := by unfold renT; rw [List.map_append]; rfl
end Sh

set_option maxRecDepth 100000 in
set_option maxHeartbeats 1000000 in
theorem renamed_any (v u : Value) (t p : List Int) (w : World) (B : Nat) (hB : B ≤ w.heap.size) (h : Ints w B v t) (g : Ints w B u p) (hl : t.length ≤ 1000) (hin : ∀ x ∈ t, 0 ≤ x ∧ x < p.length) :
    Calls Tryd.prog 10 #[v, u] w fun e w' => ∃ x, e = .returned x ∧ NInts w' w.heap.size x (Sh.renT p t) ∧ Below w.heap.size w w' := by
  have h' := h
  obtain ⟨A, len, c, rfl, hlen, hmax, -⟩ := h'
  have g' := g
  obtain ⟨PA, PN, PC, rfl, hpn, -⟩ := g'
  have hl1 : len ≤ 1000 := by omega
  have Hlen := Lib.hid hlen; clear hlen
  have Hpn := Lib.hid hpn; clear hpn
  have Hin := Lib.hid hin; clear hin hl
  go_enter Tryd.func10, Tryd.ntmps10
  go_wp2
  go_loopw [5, 6] (fun o i wr => ∃ k : Nat, k ≤ len ∧ i = .int .i64 k ∧ wr.ownsRow w.heap.size 3 1 o k ((Sh.renT p (t.take k)).map (Value.int .i64)) ∧ Below w.heap.size w wr) (fun _ i _ => len - (intOf i).toNat)
  case atStart => exact ⟨0, Nat.zero_le _, rfl, World.ownsRow_nil _ _ _ _, Below.refl _ _⟩
  case round =>
    obtain ⟨k, hk, rfl, hown, hbel⟩ := hrel
    obtain ⟨VA, VC, rfl⟩ := own_slice hown
    have Hown := Lib.hid hown; clear hown
    have Hbel := Lib.hid hbel; clear hbel
    have hbz := Hbel.out.size
    by_cases hlt : k < len
    · obtain ⟨ad, rfl, hb, hc⟩ := (h.below (Hbel.out.mono hB)).at_ hlt
      have hxs : t[k]? = some (t.getD k 0) := getD_some (d := 0) (by rw [← Hlen.out]; exact hlt)
      have hx := Hin.out _ (List.mem_of_getElem? hxs)
      have htk := take_snoc hxs
      generalize t.getD k 0 = x at *
      obtain ⟨y, rfl⟩ : ∃ y : Nat, x = y := ⟨x.toNat, by omega⟩
      have hy : y < PN := by rw [Hpn.out]; omega
      obtain ⟨ad2, rfl, hb2, hc2⟩ := (g.below (Hbel.out.mono hB)).at_ hy
      have hsn : Sh.renT p (t.take (k + 1)) = Sh.renT p (t.take k) ++ [p.getD y 0] := by rw [htk, Sh.renT_snoc]; simp
      generalize p.getD y 0 = z at *
      have Hsn := Lib.hid hsn; clear hsn htk hxs hx
      go_wp2_with (at_builtin
                   refine append1_int _ rfl _ _ rfl w.heap.size _ k _ rfl (World.ownsRow.alloc Hown.out _) ⟨wr.heap.size, 0, none⟩ 1 z rfl ((Blk.new wr 3 #[.int .i64 z]).cell 0) (by omega) (by simp; omega) ?_
                   intro v7 w7 hown7 hg7)
      refine ⟨⟨k + 1, by omega, by go_num, by rw [Hsn.out]; exact hown7, ?_⟩, by simp [intOf]; omega⟩
      exact (Hbel.out.alloc hbz _).grown hg7 (by simp; omega) (fun g e => (Hown.out.lt g e).1)
    · obtain rfl : k = len := by omega
      have htk : t.take k = t := List.take_of_length_le (by rw [Hlen.out]; exact Nat.le_refl _)
      have hown := Hown.out
      rw [htk] at hown
      have hni := NInts.own hown (Nat.le_refl _) (by omega)
      have Hni := Lib.hid hni; clear hni hown
      go_wp2
      go_ret
      exact ⟨_, rfl, Hni.out, Hbel.out⟩

end Go.Proofs.YtelememdhpncgaaDoor

/-
  Plain mathematics: what Has answers behind Put.
-/
namespace Go.Proofs.YtelememdhpncgaaDoor.Sh

theorem relFor_ok {size : Int} {rs : List Rel} {nm : List UInt8} {k : Int} (h : (relForE ⟨size, rs⟩ nm k).2 = 0) : validB ⟨size, rs⟩ = true ∧ ∃ (j : Nat) (r : Rel), relForE ⟨size, rs⟩ nm k = ((j : Int), 0) ∧ findI nm k rs = j ∧ rs[j]? = some r ∧ r.name.toList = nm ∧ r.arity = k := by
  unfold relForE at h ⊢
  by_cases h1 : validB ⟨size, rs⟩ = false
  · rw [if_pos h1] at h; exact absurd h (by decide)
  · rw [if_neg h1] at h ⊢
    by_cases h2 : findI nm k rs < 0
    · simp only [if_pos h2] at h; exact absurd h (by decide)
    · obtain ⟨j, r, e1, e2, e3, e4⟩ := findI_get h2
      refine ⟨by simpa using h1, j, r, ?_, e1, e2, e3, e4⟩
      simp only [e1]
      rw [if_neg (by omega)]
theorem relFor_mk {size : Int} {rs : List Rel} {nm : List UInt8} {k : Int} {j : Nat} (hv : validB ⟨size, rs⟩ = true) (hf : findI nm k rs = j) : relForE ⟨size, rs⟩ nm k = ((j : Int), 0) := by
  unfold relForE
  rw [if_neg (by rw [hv]; simp)]
  simp only [hf]
  rw [if_neg (by omega)]
theorem hasE_mk {size : Int} {rs : List Rel} {nm : List UInt8} {t : List Int} {j : Nat} {r : Rel} (hv : validB ⟨size, rs⟩ = true) (hf : findI nm t.length rs = j) (hr : rs[j]? = some r) : hasE ⟨size, rs⟩ nm t = (decide (t ∈ r.tuples), 0) := by
  unfold hasE
  rw [relFor_mk hv hf]
  simp only [Int.toNat_natCast, hr]
  rw [if_neg (by simp), (relB_rising (validB_rel hv hr)).found]
/-- A tuple of a relation is found. -/
theorem hasE_in {size : Int} {rs : List Rel} (hv : validB ⟨size, rs⟩ = true) {j : Nat} {r : Rel} (hr : rs[j]? = some r) {x : List Int} (hx : x ∈ r.tuples) : hasE ⟨size, rs⟩ r.name.toList x = (true, 0) := by
  have hl := relB_len (validB_rel hv hr) hx
  have hf := find_name (ar := (x.length : Int)) (valid_names hv) hr rfl
  rw [if_pos hl.symm] at hf
  rw [hasE_mk hv hf hr, decide_eq_true hx]
theorem putR_get {rs : List Rel} {k : Nat} {r : Rel} (hr : rs[k]? = some r) (t : List Int) (is : Bool) : (putR rs k t is)[k]? = some (putRel r t is) := by
  obtain ⟨hk, rfl⟩ := List.getElem?_eq_some_iff.1 hr
  unfold putR
  rw [getD_get _ _ _ hk, List.getElem?_set_self hk]
theorem putR_other {rs : List Rel} {k j : Nat} (h : j ≠ k) (t : List Int) (is : Bool) : (putR rs k t is)[j]? = rs[j]? := by
  unfold putR
  rw [List.getElem?_set_ne (fun e => h e.symm)]
theorem put_long {size : Int} {rs : List Rel} (hv : validB ⟨size, rs⟩ = true) {k : Nat} {r : Rel} (hr : rs[k]? = some r) {t : List Int} (ht : (t.length : Int) = r.arity) : Long t.length r.tuples := fun x hx => by
  have := relB_len (validB_rel hv hr) hx
  omega
/-- Has behind Put. -/
theorem has_put {size : Int} {rs : List Rel} {nm : List UInt8} {t : List Int} {k : Nat} {r : Rel} (hv : validB ⟨size, rs⟩ = true) (hr : rs[k]? = some r) (hn : r.name.toList = nm) (ht : (t.length : Int) = r.arity) (hin : inB size t = true) (is : Bool) :
    hasE ⟨size, putR rs k t is⟩ nm t = (is, 0) := by
  have hv' := put_valid hv hr ht hin is
  have hr' := putR_get hr t is
  have hf := find_name (ar := (t.length : Int)) (valid_names hv') hr' (show (putRel r t is).name.toList = nm from hn)
  rw [if_pos (show (putRel r t is).arity = t.length from ht.symm)] at hf
  rw [hasE_mk hv' hf hr']
  obtain ⟨-, -, hm⟩ := putT_ok (relB_rising (validB_rel hv hr)) (put_long hv hr ht) rfl is
  have : (t ∈ (putRel r t is).tuples) ↔ is = true := by
    show t ∈ putT r.tuples t is ↔ _
    rw [hm]
    constructor
    · rintro (⟨-, h⟩ | ⟨h, -⟩)
      · exact absurd rfl h
      · exact h
    · intro h; exact .inr ⟨h, rfl⟩
  cases is with
  | true => rw [decide_eq_true (this.2 rfl)]
  | false => rw [decide_eq_false (fun h => by have := this.1 h; cases this)]
/-- All but one tuple stay. -/
def ExceptOne (size : Int) (ra rb : List Rel) (nm : List UInt8) (t : List Int) : Prop := ∀ (j : Nat) (r : Rel) (x : List Int), ra[j]? = some r → x ∈ r.tuples → (r.name.toList = nm ∧ x = t) ∨ hasE ⟨size, rb⟩ r.name.toList x = (true, 0)
theorem except_put {size : Int} {rs : List Rel} {nm : List UInt8} {t : List Int} {k : Nat} {r : Rel} (hv : validB ⟨size, rs⟩ = true) (hr : rs[k]? = some r) (hn : r.name.toList = nm) (ht : (t.length : Int) = r.arity) (hin : inB size t = true) (is : Bool) :
    ExceptOne size rs (putR rs k t is) nm t ∧ ExceptOne size (putR rs k t is) rs nm t := by
  have hv' := put_valid hv hr ht hin is
  obtain ⟨-, -, hm⟩ := putT_ok (relB_rising (validB_rel hv hr)) (put_long hv hr ht) rfl is
  constructor
  · intro j r1 x h1 h2
    by_cases e : j = k
    · subst e
      obtain rfl : r1 = r := Option.some.inj (h1.symm.trans hr)
      by_cases ex : x = t
      · exact .inl ⟨hn, ex⟩
      · exact .inr (hasE_in hv' (putR_get hr t is) (show x ∈ putT r1.tuples t is from (hm x).2 (.inl ⟨h2, ex⟩)))
    · exact .inr (hasE_in hv' ((putR_other e t is).trans h1) h2)
  · intro j r1 x h1 h2
    by_cases e : j = k
    · subst e
      obtain rfl : r1 = putRel r t is := Option.some.inj (h1.symm.trans (putR_get hr t is))
      rcases (hm x).1 h2 with h | h
      · exact .inr (hasE_in hv hr h.1)
      · exact .inl ⟨hn, h.2⟩
    · exact .inr (hasE_in hv ((putR_other e t is).symm.trans h1) h2)

end Go.Proofs.YtelememdhpncgaaDoor.Sh
