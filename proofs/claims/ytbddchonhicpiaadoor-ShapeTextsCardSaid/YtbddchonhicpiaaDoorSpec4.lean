/-
  Plain mathematics: structures made of symbols, relations kept, how many tuples a valid relation has.
-/
import Derived.Test.YtbddchonhicpiaaDoorSpec2
import Derived.Test.YtbddchonhicpiaaDoorSpec3
namespace Go.Proofs.YtbddchonhicpiaaDoor.Sh

/-- The structure with empty relations. -/
def madeR (ss : List (ByteArray × Int)) : List Rel := ss.map fun s => ⟨s.1, s.2, []⟩

/-- A list's elements at two places differ. -/
theorem nodup_succ {α : Type} {l : List α} {k : Nat} {a : α} (ha : l[k]? = some a) : (l.take (k + 1)).Nodup ↔ (l.take k).Nodup ∧ a ∉ l.take k := by
  obtain ⟨hk, rfl⟩ := List.getElem?_eq_some_iff.1 ha
  rw [List.take_succ_eq_append_getElem hk, List.nodup_append]
  constructor
  · rintro ⟨h1, -, h3⟩
    exact ⟨h1, fun hm => h3 _ hm _ (List.mem_singleton_self _) rfl⟩
  · rintro ⟨h1, h2⟩
    refine ⟨h1, by simp, fun x hx y hy e => ?_⟩
    rw [List.mem_singleton] at hy
    subst hy
    exact h2 (e ▸ hx)
theorem nodup_take {α : Type} {l : List α} (h : l.Nodup) (k : Nat) : (l.take k).Nodup := h.sublist (List.take_sublist k l)

/-- The names of a valid structure differ. -/
theorem names_take {size : Int} {rs : List Rel} : ∀ (k : Nat), k ≤ rs.length → (List.range k).all (relAt size rs) = true → ((rs.take k).map (·.name.toList)).Nodup
  | 0, _, _ => by simp
  | k + 1, hk, h => by
    rw [range_all_succ] at h
    simp only [Bool.and_eq_true] at h
    have h1 := names_take k (by omega) h.1
    have h2 := h.2
    unfold relAt at h2
    rw [List.getElem?_eq_getElem (by omega)] at h2
    simp only [Bool.and_eq_true, Bool.not_eq_true'] at h2
    rw [List.take_succ_eq_append_getElem (by omega), List.map_append, List.nodup_append]
    refine ⟨h1, by simp, fun x hx y hy e => ?_⟩
    simp only [List.map_cons, List.map_nil, List.mem_singleton] at hy
    have hc : ((rs.take k).map (·.name.toList)).contains rs[k].name.toList = true := List.contains_iff_mem.2 (by rw [← hy, ← e]; exact hx)
    rw [hc] at h2
    exact absurd h2.2 (by simp)
theorem valid_names {size : Int} {rs : List Rel} (h : validB ⟨size, rs⟩ = true) : (rs.map (·.name.toList)).Nodup := by
  unfold validB at h
  simp only [Bool.and_eq_true] at h
  have := names_take rs.length (Nat.le_refl _) h.2
  rwa [List.take_length] at this

/-- Find: by the name alone. -/
def nameI (nm : List UInt8) (rs : List Rel) : Int :=
  match rs.findIdx? (fun r => r.name.toList == nm) with
  | some i => i
  | none => -1
def NoneNamed (nm : List UInt8) (rs : List Rel) (k : Nat) : Prop := ∀ j r, j < k → rs[j]? = some r → (r.name.toList == nm) = false
theorem NoneNamed.succ {nm : List UInt8} {rs : List Rel} {k : Nat} {r : Rel} (h : NoneNamed nm rs k) (hr : rs[k]? = some r) (hf : (r.name.toList == nm) = false) : NoneNamed nm rs (k + 1) := by
  intro j r' hj hr'
  by_cases hjk : j = k
  · subst hjk; rw [hr] at hr'; injection hr' with hr'; rw [← hr']; exact hf
  · exact h j r' (by omega) hr'
theorem nameI_hit {nm : List UInt8} {rs : List Rel} {k : Nat} {r : Rel} (h : NoneNamed nm rs k) (hr : rs[k]? = some r) (hf : (r.name.toList == nm) = true) : nameI nm rs = k := by
  unfold nameI
  obtain ⟨hk, hrk⟩ := List.getElem?_eq_some_iff.1 hr
  have : rs.findIdx? (fun r => r.name.toList == nm) = some k := by
    rw [List.findIdx?_eq_some_iff_getElem]
    refine ⟨hk, by rw [hrk]; exact hf, fun j hj => ?_⟩
    have := h j _ hj (List.getElem?_eq_getElem (by omega))
    simpa using this
  rw [this]
theorem nameI_none {nm : List UInt8} {rs : List Rel} (h : NoneNamed nm rs rs.length) : nameI nm rs = -1 := by
  unfold nameI
  have : rs.findIdx? (fun r => r.name.toList == nm) = none := by
    rw [List.findIdx?_eq_none_iff]
    intro r hr
    obtain ⟨j, hj, rfl⟩ := List.mem_iff_getElem.1 hr
    exact h j _ hj (List.getElem?_eq_getElem hj)
  rw [this]
theorem nameI_cases (nm : List UInt8) (rs : List Rel) : (nameI nm rs = -1 ∧ ∀ r ∈ rs, r.name.toList ≠ nm) ∨ ∃ (k : Nat) (r : Rel), nameI nm rs = k ∧ rs[k]? = some r ∧ r.name.toList = nm := by
  unfold nameI
  cases hf : rs.findIdx? (fun r => r.name.toList == nm) with
  | none =>
    rw [List.findIdx?_eq_none_iff] at hf
    exact .inl ⟨rfl, fun r hr e => by have := hf r hr; simp [e] at this⟩
  | some i =>
    obtain ⟨hk, hp, -⟩ := List.findIdx?_eq_some_iff_getElem.1 hf
    exact .inr ⟨i, rs[i], rfl, List.getElem?_eq_getElem hk, by simpa using hp⟩

/-- Among different names both ways to look a symbol up agree. -/
theorem find_name {nm : List UInt8} {ar : Int} {rs : List Rel} (hn : (rs.map (·.name.toList)).Nodup) {k : Nat} {r : Rel} (hr : rs[k]? = some r) (he : r.name.toList = nm) : findI nm ar rs = if r.arity = ar then (k : Int) else -1 := by
  obtain ⟨hk, rfl⟩ := List.getElem?_eq_some_iff.1 hr
  have huniq : ∀ j (hj : j < rs.length), rs[j].name.toList = nm → j = k := fun j hj e => by
    have hp := List.pairwise_iff_getElem.1 hn
    rcases Nat.lt_trichotomy j k with h | h | h
    · have h2 := hp j k (by simpa using hj) (by simpa using hk) h
      rw [List.getElem_map, List.getElem_map, e, he] at h2
      exact absurd rfl h2
    · exact h
    · have h2 := hp k j (by simpa using hk) (by simpa using hj) h
      rw [List.getElem_map, List.getElem_map, e, he] at h2
      exact absurd rfl h2
  have hbefore : NoneOf nm ar rs k := fun j r' hj hr' => by
    obtain ⟨hj', rfl⟩ := List.getElem?_eq_some_iff.1 hr'
    unfold symB
    have : rs[j].name.toList ≠ nm := fun e => by have := huniq j hj' e; omega
    simp [this]
  by_cases ha : rs[k].arity = ar
  · rw [if_pos ha]
    exact findI_hit hbefore hr (by unfold symB; simp [he, ha])
  · rw [if_neg ha]
    refine findI_none fun j r' hj hr' => ?_
    obtain ⟨hj', rfl⟩ := List.getElem?_eq_some_iff.1 hr'
    unfold symB
    by_cases e : rs[j].name.toList = nm
    · have hjk := huniq j hj' e
      subst hjk
      simp [ha]
    · simp [e]
theorem find_noname {nm : List UInt8} {ar : Int} {rs : List Rel} (h : ∀ r ∈ rs, r.name.toList ≠ nm) : findI nm ar rs = -1 := by
  refine findI_none fun j r' hj hr' => ?_
  obtain ⟨hj', rfl⟩ := List.getElem?_eq_some_iff.1 hr'
  unfold symB
  have := h rs[j] (List.getElem_mem hj')
  simp [this]

/-- The symbols fit; two have the same name. -/
def fitB (rs : List Rel) (s : ByteArray × Int) : Bool := decide (0 ≤ findI s.1.toList s.2 rs)
def fitsB (rs : List Rel) (ss : List (ByteArray × Int)) : Bool := ss.all (fitB rs)
def symNames (ss : List (ByteArray × Int)) : List (List UInt8) := ss.map (·.1.toList)
def onceB (ss : List (ByteArray × Int)) : Bool := decide (symNames ss).Nodup
theorem symNames_at {ss : List (ByteArray × Int)} {k : Nat} {s : ByteArray × Int} (h : ss[k]? = some s) : (symNames ss)[k]? = some s.1.toList := by
  unfold symNames; rw [List.getElem?_map, h]; rfl
theorem symNames_take (ss : List (ByteArray × Int)) (k : Nat) : symNames (ss.take k) = (symNames ss).take k := by
  unfold symNames; rw [List.map_take]
theorem once_false {ss : List (ByteArray × Int)} {k : Nat} {s : ByteArray × Int} (h : ss[k]? = some s) (hm : s.1.toList ∈ (symNames ss).take k) : onceB ss = false := by
  unfold onceB
  rw [decide_eq_false_iff_not]
  intro hn
  exact ((nodup_succ (symNames_at h)).1 (nodup_take hn (k + 1))).2 hm
theorem once_true {ss : List (ByteArray × Int)} {k : Nat} (hk : ss.length ≤ k) (h : ((symNames ss).take k).Nodup) : onceB ss = true := by
  unfold onceB
  rw [decide_eq_true_eq]
  rwa [List.take_of_length_le (by simpa [symNames] using hk)] at h

def relDummy : Rel := ⟨⟨#[]⟩, 0, []⟩
/-- The relation of a symbol; those of symbols. -/
def keepOne (rs : List Rel) (s : ByteArray × Int) : Rel := rs.getD (findI s.1.toList s.2 rs).toNat relDummy
def keepR (rs : List Rel) (ss : List (ByteArray × Int)) : List Rel := ss.map (keepOne rs)
def keepErr (size : Int) (rs : List Rel) (ss : List (ByteArray × Int)) : Int :=
  if validB ⟨size, rs⟩ = false then 1 else if fitsB rs ss = false then 4 else if onceB ss = false then 2 else 0
theorem fits_get {rs : List Rel} {ss : List (ByteArray × Int)} (h : fitsB rs ss = true) {k : Nat} {s : ByteArray × Int} (hs : ss[k]? = some s) : ∃ (j : Nat) (r : Rel), findI s.1.toList s.2 rs = j ∧ rs[j]? = some r ∧ keepOne rs s = r ∧ r.name.toList = s.1.toList := by
  unfold fitsB at h
  rw [List.all_eq_true] at h
  have h1 := h s (List.mem_of_getElem? hs)
  unfold fitB at h1
  have h2 := of_decide_eq_true h1
  obtain ⟨j, r, e, hr, hn, -⟩ := findI_get (nm := s.1.toList) (ar := s.2) (rs := rs) (by omega)
  refine ⟨j, r, e, hr, ?_, hn⟩
  unfold keepOne
  rw [e, Int.toNat_natCast, List.getD_eq_getElem?_getD, hr]
  rfl

/-- A valid relation has at most 4096 tuples, each of at most 12 elements; a valid structure has at most 8 relations. -/
theorem rising_rank {n : Nat} {ts : List (List Int)} {a : Nat} (hl : ∀ t ∈ ts, t.length = a) (hi : ∀ t ∈ ts, inB n t = true) (hr : Rising ts) : ∀ (i : Nat) (h : i < ts.length), (i : Int) ≤ rankI n ts[i]
  | 0, h => (rank_full n _ (hi _ (List.getElem_mem h))).1
  | i + 1, h => by
    have h0 := rising_rank hl hi hr i (by omega)
    have h1 := hr i h
    rw [getD_get [] ts i (by omega), getD_get [] ts (i + 1) h] at h1
    have la := hl _ (List.getElem_mem (show i < ts.length by omega))
    have lb := hl _ (List.getElem_mem h)
    have hlt := (rank_order n ts[i] ts[i + 1] (by omega) (hi _ (List.getElem_mem _)) (hi _ (List.getElem_mem _))).1 ((cmpI_less _ _ (by omega)).1 h1)
    omega
theorem relB_arity {n : Int} {r : Rel} (h : relB n r = true) : ∃ a b : Nat, n = a ∧ r.arity = b ∧ b ≤ 12 ∧ a ^ b ≤ 4096 ∧ 1 ≤ a := by
  unfold relB at h
  simp only [Bool.and_eq_true, decide_eq_true_eq] at h
  rcases powE_cases n r.arity with ⟨h1, -⟩ | ⟨a, b, e1, e2, ha, -, hb, hp, -⟩
  · exact absurd h.1.1 h1
  · exact ⟨a, b, e1, e2, hb, hp, ha⟩
theorem relB_small {n : Int} {r : Rel} (h : relB n r = true) : r.tuples.length ≤ 4096 ∧ ∀ t ∈ r.tuples, t.length ≤ 12 := by
  obtain ⟨a, b, rfl, e2, hb, hp, ha⟩ := relB_arity h
  have hl : ∀ t ∈ r.tuples, t.length = b := fun t ht => by have := relB_len h ht; omega
  refine ⟨?_, fun t ht => by rw [hl t ht]; exact hb⟩
  rcases Nat.eq_zero_or_pos r.tuples.length with h0 | h0
  · omega
  · have h1 := rising_rank hl (fun t ht => relB_in h ht) (relB_rising h) (r.tuples.length - 1) (by omega)
    have h2 := (rank_full a _ (relB_in h (List.getElem_mem (show r.tuples.length - 1 < r.tuples.length by omega)))).2
    rw [hl _ (List.getElem_mem _)] at h2
    have h3 : ((a ^ b : Nat) : Int) ≤ ((4096 : Nat) : Int) := Int.ofNat_le.2 hp
    rw [Int.natCast_pow] at h3
    omega

end Go.Proofs.YtbddchonhicpiaaDoor.Sh
