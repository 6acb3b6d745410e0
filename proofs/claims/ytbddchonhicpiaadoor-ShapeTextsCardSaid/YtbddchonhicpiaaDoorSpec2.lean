/-
  Plain mathematics, second part: valid structures, where a tuple is among rising ones.
-/
import Derived.Test.YtbddchonhicpiaaDoorSpec
namespace Go.Proofs.YtbddchonhicpiaaDoor

namespace Sh
/-- The relation r has this symbol. -/
def symB (nm : List UInt8) (ar : Int) (r : Rel) : Bool := (r.name.toList == nm) && (r.arity == ar)
def findI (nm : List UInt8) (ar : Int) (rs : List Rel) : Int :=
  match rs.findIdx? (symB nm ar) with
  | some i => i
  | none => -1
/-- None of the first k relations has it. -/
def NoneOf (nm : List UInt8) (ar : Int) (rs : List Rel) (k : Nat) : Prop := ∀ j r, j < k → rs[j]? = some r → symB nm ar r = false
theorem NoneOf.succ {nm : List UInt8} {ar : Int} {rs : List Rel} {k : Nat} {r : Rel} (h : NoneOf nm ar rs k) (hr : rs[k]? = some r) (hf : symB nm ar r = false) : NoneOf nm ar rs (k + 1) := by
  intro j r' hj hr'
  by_cases hjk : j = k
  · subst hjk; rw [hr] at hr'; injection hr' with hr'; rw [← hr']; exact hf
  · exact h j r' (by omega) hr'
theorem findI_hit {nm : List UInt8} {ar : Int} {rs : List Rel} {k : Nat} {r : Rel} (h : NoneOf nm ar rs k) (hr : rs[k]? = some r) (hf : symB nm ar r = true) : findI nm ar rs = k := by
  unfold findI
  obtain ⟨hk, hrk⟩ := List.getElem?_eq_some_iff.1 hr
  have : rs.findIdx? (symB nm ar) = some k := by
    rw [List.findIdx?_eq_some_iff_getElem]
    refine ⟨hk, by rw [hrk]; exact hf, fun j hj => ?_⟩
    have := h j _ hj (List.getElem?_eq_getElem (by omega))
    simp [this]
  rw [this]
theorem findI_none {nm : List UInt8} {ar : Int} {rs : List Rel} (h : NoneOf nm ar rs rs.length) : findI nm ar rs = -1 := by
  unfold findI
  have : rs.findIdx? (symB nm ar) = none := by
    rw [List.findIdx?_eq_none_iff]
    intro r hr
    obtain ⟨j, hj, rfl⟩ := List.mem_iff_getElem.1 hr
    exact h j _ hj (List.getElem?_eq_getElem hj)
  rw [this]
end Sh

namespace Sh
/-- relationFor: the index of the relation, and the error. -/
def relForE (s : Str) (nm : List UInt8) (k : Int) : Int × Int :=
  if validB s = false then (0, 1) else if findI nm k s.rels < 0 then (0, 4) else (findI nm k s.rels, 0)
end Sh

namespace Sh
/-- The tuples below t come first. -/
def Mono (ts : List (List Int)) (t : List Int) : Prop := ∀ i j, i ≤ j → j < ts.length → cmpI (ts.getD j []) t < 0 → cmpI (ts.getD i []) t < 0
/-- Where t is, or would be. -/
def lbN (ts : List (List Int)) (t : List Int) : Nat := (ts.takeWhile fun x => decide (cmpI x t < 0)).length
def foundB (ts : List (List Int)) (t : List Int) : Bool := decide (lbN ts t < ts.length) && decide (cmpI (ts.getD (lbN ts t) []) t = 0)
/-- Between two bounds: below the first all are below t, from the second on none is. -/
def Between (ts : List (List Int)) (t : List Int) (i j : Nat) : Prop := (∀ x, x < i → cmpI (ts.getD x []) t < 0) ∧ (∀ x, j ≤ x → x < ts.length → ¬ cmpI (ts.getD x []) t < 0)
theorem takeWhile_len {α : Type} (p : α → Bool) (d : α) : ∀ (l : List α) (i : Nat), i ≤ l.length → (∀ x, x < i → p (l.getD x d) = true) → (i < l.length → p (l.getD i d) = false) → (l.takeWhile p).length = i
  | [], i, h, _, _ => by simp at h; simp [h]
  | a :: l, 0, _, _, h2 => by
    have := h2 (by simp)
    simp at this
    simp [List.takeWhile_cons, this]
  | a :: l, i + 1, h, h1, h2 => by
    have ha := h1 0 (by omega)
    simp at ha
    rw [List.takeWhile_cons, if_pos ha, List.length_cons, takeWhile_len p d l i (by simpa using h) (fun x hx => by simpa using h1 (x + 1) (by omega)) (fun hi => by simpa using h2 (by simpa using hi))]
theorem lbN_eq {ts : List (List Int)} {t : List Int} {i : Nat} (hi : i ≤ ts.length) (h : Between ts t i i) : lbN ts t = i := by
  unfold lbN
  refine takeWhile_len _ [] ts i hi (fun x hx => by simpa using h.1 x hx) (fun hlt => by simpa using h.2 i (Nat.le_refl _) hlt)
theorem Between.left {ts : List (List Int)} {t : List Int} {i j m : Nat} (hm : Mono ts t) (h : Between ts t i j) (hlt : m < ts.length) (hc : cmpI (ts.getD m []) t < 0) : Between ts t (m + 1) j :=
  ⟨fun x hx => hm x m (by omega) hlt hc, h.2⟩
theorem Between.right {ts : List (List Int)} {t : List Int} {i j m : Nat} (hm : Mono ts t) (h : Between ts t i j) (hc : ¬ cmpI (ts.getD m []) t < 0) : Between ts t i m :=
  ⟨h.1, fun x hx hl hcx => hc (hm m x hx hl hcx)⟩
end Sh

namespace Sh
theorem cmpI_self (a : List Int) : cmpI a a = 0 := (cmpI_eq a a).2 rfl
theorem cmpI_trans : ∀ (a b c : List Int), cmpI a b < 0 → cmpI b c < 0 → cmpI a c < 0
  | [], [], _, h, _ => by simp [cmpI] at h
  | [], _ :: _, [], _, h => by simp [cmpI] at h
  | [], _ :: _, _ :: _, _, _ => by simp [cmpI]
  | _ :: _, [], _, h, _ => by simp [cmpI] at h
  | _ :: _, _ :: _, [], _, h => by simp [cmpI] at h
  | x :: xs, y :: ys, z :: zs, h1, h2 => by
    unfold cmpI at h1 h2 ⊢
    by_cases hxy : x < y
    · by_cases hyz : y < z
      · rw [if_pos (by omega)]; decide
      · by_cases hzy : z < y
        · rw [if_neg hyz, if_pos hzy] at h2; omega
        · rw [if_pos (by omega)]; decide
    · by_cases hyx : y < x
      · rw [if_neg hxy, if_pos hyx] at h1; omega
      · rw [if_neg hxy, if_neg hyx] at h1
        have e : x = y := by omega
        subst e
        by_cases hyz : x < z
        · rw [if_pos hyz]; decide
        · by_cases hzy : z < x
          · rw [if_neg hyz, if_pos hzy] at h2; omega
          · rw [if_neg hyz, if_neg hzy] at h2 ⊢
            exact cmpI_trans xs ys zs h1 h2

/-- A list of tuples is rising. -/
def Rising (ts : List (List Int)) : Prop := ∀ i, i + 1 < ts.length → cmpI (ts.getD i []) (ts.getD (i + 1) []) < 0
theorem Rising.lt {ts : List (List Int)} (h : Rising ts) : ∀ (d i : Nat), i + d + 1 < ts.length → cmpI (ts.getD i []) (ts.getD (i + d + 1) []) < 0
  | 0, i, hl => h i hl
  | d + 1, i, hl => cmpI_trans _ _ _ (h.lt d i (by omega)) (h (i + d + 1) hl)
theorem Rising.lt' {ts : List (List Int)} (h : Rising ts) {i j : Nat} (hij : i < j) (hj : j < ts.length) : cmpI (ts.getD i []) (ts.getD j []) < 0 := by
  obtain ⟨d, rfl⟩ := Nat.exists_eq_add_of_lt hij
  exact h.lt d i hj
theorem Rising.mono {ts : List (List Int)} (h : Rising ts) (t : List Int) : Mono ts t := by
  intro i j hij hj hc
  by_cases e : i = j
  · rw [e]; exact hc
  · exact cmpI_trans _ _ _ (h.lt' (by omega) hj) hc
theorem getD_get {α : Type} (d : α) (l : List α) (k : Nat) (h : k < l.length) : l.getD k d = l[k] := by
  simp [List.getD_eq_getElem?_getD, List.getElem?_eq_getElem h]
theorem Rising.found {ts : List (List Int)} (h : Rising ts) (t : List Int) : foundB ts t = decide (t ∈ ts) := by
  rw [Bool.eq_iff_iff]
  unfold foundB
  simp only [Bool.and_eq_true, decide_eq_true_eq]
  constructor
  · rintro ⟨h1, h2⟩
    have := (cmpI_eq _ _).1 h2
    rw [getD_get [] ts _ h1] at this
    rw [← this]
    exact List.getElem_mem _
  · intro hm
    obtain ⟨k, hk, rfl⟩ := List.mem_iff_getElem.1 hm
    have hb : Between ts ts[k] k k := by
      refine ⟨fun x hx => ?_, fun x hx hl hc => ?_⟩
      · have := h.lt' hx hk
        rwa [getD_get [] ts k hk] at this
      · by_cases e : x = k
        · subst e
          rw [getD_get [] ts x hk, cmpI_self] at hc
          omega
        · have h1 := h.lt' (show k < x by omega) hl
          rw [getD_get [] ts k hk] at h1
          have := cmpI_trans _ _ _ hc h1
          rw [cmpI_self] at this
          omega
    rw [lbN_eq (Nat.le_of_lt hk) hb]
    exact ⟨hk, by rw [getD_get [] ts k hk]; exact cmpI_self _⟩

theorem relB_rising {n : Int} {r : Rel} (h : relB n r = true) : Rising r.tuples := by
  unfold relB at h
  simp only [Bool.and_eq_true] at h
  intro i hi
  have h1 := range_all_get h.2 hi
  have h0 := range_all_get h.2 (show i < r.tuples.length by omega)
  have l1 := tupOk_len h1
  have l0 := tupOk_len h0
  rw [cmpI_less _ _ (by omega)]
  unfold tupOk at h1
  simp at h1
  simpa using h1.2
theorem relB_len {n : Int} {r : Rel} (h : relB n r = true) {t : List Int} (ht : t ∈ r.tuples) : (t.length : Int) = r.arity := by
  unfold relB at h
  simp only [Bool.and_eq_true] at h
  obtain ⟨k, hk, rfl⟩ := List.mem_iff_getElem.1 ht
  have := tupOk_len (range_all_get h.2 hk)
  rwa [getD_get [] _ k hk] at this
theorem relB_in {n : Int} {r : Rel} (h : relB n r = true) {t : List Int} (ht : t ∈ r.tuples) : inB n t = true := by
  unfold relB at h
  simp only [Bool.and_eq_true] at h
  obtain ⟨k, hk, rfl⟩ := List.mem_iff_getElem.1 ht
  have := range_all_get h.2 hk
  unfold tupOk at this
  simp only [Bool.and_eq_true] at this
  rw [getD_get [] _ k hk] at this
  exact this.1.2
theorem validB_rel {s : Str} (h : validB s = true) {r : Rel} {i : Nat} (hr : s.rels[i]? = some r) : relB s.size r = true := by
  unfold validB at h
  simp only [Bool.and_eq_true] at h
  obtain ⟨hi, -⟩ := List.getElem?_eq_some_iff.1 hr
  have := range_all_get h.2 hi
  unfold relAt at this
  rw [hr] at this
  simp only [Bool.and_eq_true] at this
  exact this.1
theorem validB_size {s : Str} (h : validB s = true) : 1 ≤ s.size ∧ s.size ≤ 64 ∧ s.rels.length ≤ 8 := by
  unfold validB at h
  simp only [Bool.and_eq_true, decide_eq_true_eq] at h
  exact ⟨h.1.1.1, h.1.1.2, h.1.2⟩
theorem findI_get {nm : List UInt8} {ar : Int} {rs : List Rel} (h : ¬ findI nm ar rs < 0) : ∃ (k : Nat) (r : Rel), findI nm ar rs = k ∧ rs[k]? = some r ∧ r.name.toList = nm ∧ r.arity = ar := by
  unfold findI at h ⊢
  cases hf : rs.findIdx? (symB nm ar) with
  | none => rw [hf] at h; exact absurd (show (-1 : Int) < 0 by decide) h
  | some i =>
    obtain ⟨hk, hp, -⟩ := List.findIdx?_eq_some_iff_getElem.1 hf
    unfold symB at hp
    simp only [Bool.and_eq_true, beq_iff_eq] at hp
    exact ⟨i, rs[i], rfl, List.getElem?_eq_getElem hk, hp.1, hp.2⟩

/-- Has. -/
def hasE (s : Str) (nm : List UInt8) (t : List Int) : Bool × Int :=
  if (relForE s nm t.length).2 ≠ 0 then (false, (relForE s nm t.length).2)
  else match s.rels[(relForE s nm t.length).1.toNat]? with
    | some r => (foundB r.tuples t, 0)
    | none => (false, 0)
end Sh

end Go.Proofs.YtbddchonhicpiaaDoor
