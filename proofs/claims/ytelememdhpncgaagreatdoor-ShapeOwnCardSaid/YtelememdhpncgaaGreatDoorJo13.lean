/-
  Texts joined: Spec5, Put0, Find, Has.
-/
import Derived.Test.YtelememdhpncgaaGreatDoorJo9
import Derived.Test.YtelememdhpncgaaGreatDoorJo12
import Derived.Test.YtelememdhpncgaaGreatDoorJo7
import Derived.Test.YtelememdhpncgaaGreatDoorJo1
import Derived.Shelf.Abstract

/-
  Plain mathematics: rising lists of tuples, the reference's Sorted, Put.
-/
namespace Go.Proofs.YtelememdhpncgaaGreatDoor.Sh

theorem rising_iff (ts : List (List Int)) : Rising ts ↔ ts.Pairwise (fun x y => cmpI x y < 0) := by
  rw [List.pairwise_iff_getElem]
  constructor
  · intro h i j hi hj hij
    have := h.lt' hij hj
    rwa [getD_get [] ts i hi, getD_get [] ts j hj] at this
  · intro h i hi
    have := h i (i + 1) (by omega) hi (by omega)
    rwa [getD_get [] ts i (by omega), getD_get [] ts (i + 1) hi]
theorem cmpI_asym {a b : List Int} (h : cmpI a b < 0) (h' : cmpI b a < 0) : False := by
  have := cmpI_trans _ _ _ h h'
  rw [cmpI_self] at this
  omega
theorem cmpI_irr {a : List Int} (h : cmpI a a < 0) : False := by rw [cmpI_self] at h; omega

theorem pw_ext : ∀ (a b : List (List Int)), a.Pairwise (fun x y => cmpI x y < 0) → b.Pairwise (fun x y => cmpI x y < 0) → (∀ x, x ∈ a ↔ x ∈ b) → a = b
  | [], [], _, _, _ => rfl
  | [], y :: ys, _, _, h => by have := (h y).2 (List.mem_cons_self ..); simp at this
  | x :: xs, [], _, _, h => by have := (h x).1 (List.mem_cons_self ..); simp at this
  | x :: xs, y :: ys, ha, hb, h => by
    rw [List.pairwise_cons] at ha hb
    have e : x = y := by
      rcases List.mem_cons.1 ((h x).1 (List.mem_cons_self ..)) with e | hx
      · exact e
      · rcases List.mem_cons.1 ((h y).2 (List.mem_cons_self ..)) with e | hy
        · exact e.symm
        · exact (cmpI_asym (hb.1 x hx) (ha.1 y hy)).elim
    subst e
    congr 1
    refine pw_ext xs ys ha.2 hb.2 fun z => ?_
    constructor
    · intro hz
      rcases List.mem_cons.1 ((h z).1 (List.mem_cons_of_mem _ hz)) with e | h1
      · subst e; exact (cmpI_irr (ha.1 z hz)).elim
      · exact h1
    · intro hz
      rcases List.mem_cons.1 ((h z).2 (List.mem_cons_of_mem _ hz)) with e | h1
      · subst e; exact (cmpI_irr (hb.1 z hz)).elim
      · exact h1
theorem rising_ext {a b : List (List Int)} (ha : Rising a) (hb : Rising b) (h : ∀ x, x ∈ a ↔ x ∈ b) : a = b := pw_ext a b ((rising_iff a).1 ha) ((rising_iff b).1 hb) h
theorem cmpI_tri : ∀ (a b : List Int), ¬ cmpI a b < 0 → ¬ cmpI b a < 0 → a = b
  | [], [], _, _ => rfl
  | [], y :: ys, h, _ => by simp [cmpI] at h
  | x :: xs, [], _, h => by simp [cmpI] at h
  | x :: xs, y :: ys, h1, h2 => by
    unfold cmpI at h1 h2
    by_cases hxy : x < y
    · rw [if_pos hxy] at h1; omega
    · by_cases hyx : y < x
      · rw [if_pos hyx] at h2; omega
      · rw [if_neg hxy, if_neg hyx] at h1
        rw [if_neg hyx, if_neg hxy] at h2
        have e : x = y := by omega
        subst e
        rw [cmpI_tri xs ys h1 h2]

/-- Where the reference's Sorted puts a tuple: behind the last that is not above it. -/
def stopR (out : List (List Int)) (t : List Int) : Nat → Nat
  | 0 => 0
  | k + 1 => if lessB t (out.getD k []) = true then stopR out t k else k + 1
def insR (out : List (List Int)) (t : List Int) : List (List Int) :=
  if 0 < stopR out t out.length ∧ out.getD (stopR out t out.length - 1) [] = t then out
  else out.take (stopR out t out.length) ++ t :: out.drop (stopR out t out.length)
def sortR (l : List (List Int)) : List (List Int) := l.foldl insR []
theorem sortR_snoc (l : List (List Int)) (t : List Int) : sortR (l ++ [t]) = insR (sortR l) t := by
  unfold sortR; rw [List.foldl_append]; rfl
theorem stopR_le (out : List (List Int)) (t : List Int) : ∀ k, stopR out t k ≤ k
  | 0 => Nat.le_refl _
  | k + 1 => by unfold stopR; split; exact Nat.le_succ_of_le (stopR_le out t k); exact Nat.le_refl _
theorem stopR_above (out : List (List Int)) (t : List Int) : ∀ k j, stopR out t k ≤ j → j < k → lessB t (out.getD j []) = true
  | 0, j, _, h => absurd h (by omega)
  | k + 1, j, h, hj => by
    unfold stopR at h
    split at h
    · by_cases e : j = k
      · subst e; assumption
      · exact stopR_above out t k j h (by omega)
    · omega
theorem stopR_stop (out : List (List Int)) (t : List Int) : ∀ k, 0 < stopR out t k → lessB t (out.getD (stopR out t k - 1) []) = false
  | 0, h => absurd h (by simp [stopR])
  | k + 1, h => by
    unfold stopR at h ⊢
    split at h
    · rename_i hc; rw [if_pos hc]; exact stopR_stop out t k h
    · rename_i hc; rw [if_neg hc]; simpa using hc

/-- One length. -/
def Long (a : Nat) (l : List (List Int)) : Prop := ∀ t ∈ l, t.length = a
theorem insR_ok {a : Nat} {out : List (List Int)} {t : List Int} (hr : Rising out) (hl : Long a out) (ht : t.length = a) : Rising (insR out t) ∧ Long a (insR out t) ∧ ∀ x, x ∈ insR out t ↔ x = t ∨ x ∈ out := by
  have h1 := stopR_le out t out.length
  have h2 := stopR_above out t out.length
  have h3 := stopR_stop out t out.length
  unfold insR
  generalize stopR out t out.length = k at *
  have hlen : ∀ j (hj : j < out.length), out[j].length = t.length := fun j hj => by rw [hl _ (List.getElem_mem hj), ht]
  by_cases hc : 0 < k ∧ out.getD (k - 1) [] = t
  · rw [if_pos hc]
    refine ⟨hr, hl, fun x => ⟨.inr, ?_⟩⟩
    rintro (rfl | h)
    · rw [getD_get [] out (k - 1) (by omega)] at hc
      rw [← hc.2]
      exact List.getElem_mem _
    · exact h
  · rw [if_neg hc]
    have hmem : ∀ x, x ∈ out.take k ++ t :: out.drop k ↔ x = t ∨ x ∈ out := fun x => by
      have e : x ∈ out ↔ x ∈ out.take k ∨ x ∈ out.drop k := by rw [← List.mem_append, List.take_append_drop]
      rw [List.mem_append, List.mem_cons, e]
      constructor
      · rintro (h | h | h)
        · exact .inr (.inl h)
        · exact .inl h
        · exact .inr (.inr h)
      · rintro (h | h | h)
        · exact .inr (.inl h)
        · exact .inl h
        · exact .inr (.inr h)
    have hup : ∀ x ∈ out.drop k, cmpI t x < 0 := fun x hx => by
      obtain ⟨j, hj, rfl⟩ := List.mem_iff_getElem.1 hx
      rw [List.length_drop] at hj
      rw [List.getElem_drop]
      have := h2 (k + j) (by omega) (by omega)
      rw [getD_get [] out (k + j) (by omega)] at this
      exact (cmpI_less _ _ (hlen _ _).symm).2 this
    have hlo : ∀ x ∈ out.take k, cmpI x t < 0 := fun x hx => by
      obtain ⟨j, hj, rfl⟩ := List.mem_iff_getElem.1 hx
      rw [List.length_take] at hj
      rw [List.getElem_take]
      have hk0 : 0 < k := by omega
      have hs := h3 hk0
      rw [getD_get [] out (k - 1) (by omega)] at hs hc
      have hlast : cmpI out[k - 1] t < 0 := by
        rcases Int.lt_or_le (cmpI out[k - 1] t) 0 with h | h
        · exact h
        · have : out[k - 1] = t := cmpI_tri _ _ (by omega) (fun h' => by
            rw [(cmpI_less _ _ (hlen _ _).symm).1 h'] at hs
            cases hs)
          exact absurd ⟨hk0, this⟩ hc
      by_cases e : j = k - 1
      · subst e; exact hlast
      · have := hr.lt' (show j < k - 1 by omega) (by omega)
        rw [getD_get [] out j (by omega), getD_get [] out (k - 1) (by omega)] at this
        exact cmpI_trans _ _ _ this hlast
    have hp := (rising_iff out).1 hr
    refine ⟨(rising_iff _).2 ?_, fun x hx => ?_, hmem⟩
    · rw [List.pairwise_append, List.pairwise_cons]
      refine ⟨hp.sublist (List.take_sublist _ _), ⟨hup, hp.sublist (List.drop_sublist _ _)⟩, fun x hx y hy => ?_⟩
      rcases List.mem_cons.1 hy with rfl | hy
      · exact hlo x hx
      · exact cmpI_trans _ _ _ (hlo x hx) (hup y hy)
    · rcases (hmem x).1 hx with rfl | h
      · exact ht
      · exact hl x h
theorem fold_ok {a : Nat} : ∀ (l out : List (List Int)), Rising out → Long a out → Long a l → Rising (l.foldl insR out) ∧ Long a (l.foldl insR out) ∧ ∀ x, x ∈ l.foldl insR out ↔ x ∈ l ∨ x ∈ out
  | [], out, hr, hl, _ => ⟨hr, hl, fun x => by simp⟩
  | t :: l, out, hr, hl, h => by
    obtain ⟨i1, i2, i3⟩ := insR_ok hr hl (h t (List.mem_cons_self ..))
    obtain ⟨j1, j2, j3⟩ := fold_ok l (insR out t) i1 i2 (fun x hx => h x (List.mem_cons_of_mem _ hx))
    refine ⟨j1, j2, fun x => ?_⟩
    rw [List.foldl_cons, j3, i3, List.mem_cons]
    constructor
    · rintro (h | h | h)
      · exact .inl (.inr h)
      · exact .inl (.inl h)
      · exact .inr h
    · rintro ((h | h) | h)
      · exact .inr (.inl h)
      · exact .inl h
      · exact .inr (.inr h)
theorem rising_nil : Rising [] := fun i h => by simp at h
theorem sortR_ok {a : Nat} {l : List (List Int)} (h : Long a l) : Rising (sortR l) ∧ Long a (sortR l) ∧ ∀ x, x ∈ sortR l ↔ x ∈ l := by
  obtain ⟨h1, h2, h3⟩ := fold_ok l [] rising_nil (fun x hx => by simp at hx) h
  exact ⟨h1, h2, fun x => by unfold sortR; rw [h3]; simp⟩

/-- Put on one relation's tuples: the program's way. -/
def putT (ts : List (List Int)) (t : List Int) (is : Bool) : List (List Int) :=
  if is = true ∧ foundB ts t = false then ts.take (lbN ts t) ++ t :: ts.drop (lbN ts t)
  else if is = false ∧ foundB ts t = true then ts.take (lbN ts t) ++ ts.drop (lbN ts t + 1)
  else ts
theorem lbN_le (ts : List (List Int)) (t : List Int) : lbN ts t ≤ ts.length := by
  unfold lbN; exact (List.takeWhile_sublist _).length_le
theorem lbN_below {ts : List (List Int)} {t : List Int} : ∀ x ∈ ts.take (lbN ts t), cmpI x t < 0 := by
  intro x hx
  unfold lbN at hx
  rw [← List.prefix_iff_eq_take.1 (List.takeWhile_prefix _)] at hx
  have h := List.all_takeWhile (l := ts) (p := fun x => decide (cmpI x t < 0))
  rw [List.all_eq_true] at h
  exact of_decide_eq_true (h x hx)
theorem lbN_at {ts : List (List Int)} {t : List Int} (h : lbN ts t < ts.length) : ¬ cmpI (ts[lbN ts t]'h) t < 0 := by
  have e : ts.drop (lbN ts t) = ts.dropWhile (fun x => decide (cmpI x t < 0)) := by
    have h1 := List.takeWhile_append_dropWhile (p := fun x => decide (cmpI x t < 0)) (l := ts)
    have h2 : ts.drop (lbN ts t) = (ts.takeWhile (fun x => decide (cmpI x t < 0)) ++ ts.dropWhile (fun x => decide (cmpI x t < 0))).drop (ts.takeWhile (fun x => decide (cmpI x t < 0))).length := by rw [h1]; rfl
    rw [h2, List.drop_left]
  rw [List.drop_eq_getElem_cons h] at e
  intro (hc : cmpI (ts[lbN ts t]'h) t < 0)
  have hne : ts.dropWhile (fun x => decide (cmpI x t < 0)) ≠ [] := by rw [← e]; exact List.cons_ne_nil _ _
  have hh := List.head_dropWhile_not (fun x => decide (cmpI x t < 0)) hne
  have h1 : (ts.dropWhile (fun x => decide (cmpI x t < 0))).head hne = ts[lbN ts t] := by
    have h2 : (ts.dropWhile (fun x => decide (cmpI x t < 0))).head? = some ts[lbN ts t] := by rw [← e]; rfl
    rw [List.head?_eq_some_head hne] at h2
    exact Option.some.inj h2
  rw [h1] at hh
  simp [hc] at hh
theorem lbN_above {ts : List (List Int)} {t : List Int} (hr : Rising ts) : ∀ x ∈ ts.drop (lbN ts t), ¬ cmpI x t < 0 := by
  intro x hx hc
  obtain ⟨j, hj, rfl⟩ := List.mem_iff_getElem.1 hx
  rw [List.length_drop] at hj
  rw [List.getElem_drop] at hc
  have h0 := lbN_at (ts := ts) (t := t) (by omega)
  by_cases e : j = 0
  · subst e; exact h0 hc
  · have := hr.lt' (show lbN ts t < lbN ts t + j by omega) (by omega)
    rw [getD_get [] ts _ (by omega), getD_get [] ts _ (by omega)] at this
    exact h0 (cmpI_trans _ _ _ this hc)

theorem putT_ok {a : Nat} {ts : List (List Int)} {t : List Int} (hr : Rising ts) (hl : Long a ts) (ht : t.length = a) (is : Bool) :
    Rising (putT ts t is) ∧ Long a (putT ts t is) ∧ ∀ x, x ∈ putT ts t is ↔ (x ∈ ts ∧ x ≠ t) ∨ (is = true ∧ x = t) := by
  have hp := (rising_iff ts).1 hr
  have hf := hr.found t
  have hsplit : ∀ x, x ∈ ts ↔ x ∈ ts.take (lbN ts t) ∨ x ∈ ts.drop (lbN ts t) := fun x => by rw [← List.mem_append, List.take_append_drop]
  unfold putT
  by_cases h1 : is = true ∧ foundB ts t = false
  · rw [if_pos h1]
    have hno : t ∉ ts := by rw [h1.2] at hf; exact of_decide_eq_false hf.symm
    have hmem : ∀ x, x ∈ ts.take (lbN ts t) ++ t :: ts.drop (lbN ts t) ↔ (x ∈ ts ∧ x ≠ t) ∨ (is = true ∧ x = t) := fun x => by
      rw [List.mem_append, List.mem_cons]
      constructor
      · rintro (h | h | h)
        · exact .inl ⟨(hsplit x).2 (.inl h), fun e => hno (e ▸ (hsplit x).2 (.inl h))⟩
        · exact .inr ⟨h1.1, h⟩
        · exact .inl ⟨(hsplit x).2 (.inr h), fun e => hno (e ▸ (hsplit x).2 (.inr h))⟩
      · rintro (⟨h, -⟩ | ⟨-, h⟩)
        · rcases (hsplit x).1 h with h | h
          · exact .inl h
          · exact .inr (.inr h)
        · exact .inr (.inl h)
    refine ⟨(rising_iff _).2 ?_, fun x hx => ?_, hmem⟩
    · rw [List.pairwise_append, List.pairwise_cons]
      have hup : ∀ y ∈ ts.drop (lbN ts t), cmpI t y < 0 := fun y hy => by
        rcases Int.lt_or_le (cmpI t y) 0 with h | h
        · exact h
        · have := cmpI_tri _ _ (lbN_above hr y hy) (by omega)
          subst this
          exact absurd ((hsplit y).2 (.inr hy)) hno
      refine ⟨hp.sublist (List.take_sublist _ _), ⟨hup, hp.sublist (List.drop_sublist _ _)⟩, fun x hx y hy => ?_⟩
      rcases List.mem_cons.1 hy with rfl | hy
      · exact lbN_below x hx
      · exact cmpI_trans _ _ _ (lbN_below x hx) (hup y hy)
    · rcases (hmem x).1 hx with h | h
      · exact hl x h.1
      · rw [h.2]; exact ht
  · rw [if_neg h1]
    by_cases h2 : is = false ∧ foundB ts t = true
    · rw [if_pos h2]
      have hin : t ∈ ts := by rw [h2.2] at hf; exact of_decide_eq_true hf.symm
      have hfb := h2.2
      unfold foundB at hfb
      simp only [Bool.and_eq_true, decide_eq_true_eq] at hfb
      have heq : ts[lbN ts t]'hfb.1 = t := by
        have := (cmpI_eq _ _).1 hfb.2
        rwa [getD_get [] ts _ hfb.1] at this
      have hd : ts.drop (lbN ts t) = t :: ts.drop (lbN ts t + 1) := by rw [List.drop_eq_getElem_cons hfb.1, heq]
      have hcut : ts = ts.take (lbN ts t) ++ t :: ts.drop (lbN ts t + 1) := by
        have := List.take_append_drop (lbN ts t) ts
        rw [hd] at this
        exact this.symm
      have hpc := hp
      rw [hcut, List.pairwise_append, List.pairwise_cons] at hpc
      obtain ⟨q1, ⟨q2, q3⟩, q4⟩ := hpc
      have hmem : ∀ x, x ∈ ts.take (lbN ts t) ++ ts.drop (lbN ts t + 1) ↔ (x ∈ ts ∧ x ≠ t) ∨ (is = true ∧ x = t) := fun x => by
        have e : x ∈ ts ↔ x ∈ ts.take (lbN ts t) ∨ x = t ∨ x ∈ ts.drop (lbN ts t + 1) := by
          rw [hsplit, hd, List.mem_cons]
        rw [List.mem_append, e]
        constructor
        · rintro (h | h)
          · exact .inl ⟨.inl h, fun e => cmpI_irr (e ▸ q4 x h t (List.mem_cons_self ..))⟩
          · exact .inl ⟨.inr (.inr h), fun e => cmpI_irr (e ▸ q2 x h)⟩
        · rintro (⟨h | h | h, hne⟩ | ⟨h, -⟩)
          · exact .inl h
          · exact absurd h hne
          · exact .inr h
          · rw [h2.1] at h; cases h
      refine ⟨(rising_iff _).2 ?_, fun x hx => ?_, hmem⟩
      · rw [List.pairwise_append]
        exact ⟨q1, q3, fun x hx y hy => q4 x hx y (List.mem_cons_of_mem _ hy)⟩
      · rcases (hmem x).1 hx with h | h
        · exact hl x h.1
        · rw [h.2]; exact ht
    · rw [if_neg h2]
      refine ⟨hr, hl, fun x => ?_⟩
      cases is with
      | false =>
        have hnf : foundB ts t = false := by
          cases h : foundB ts t with
          | false => rfl
          | true => exact absurd ⟨rfl, h⟩ h2
        have hno : t ∉ ts := by rw [hnf] at hf; exact of_decide_eq_false hf.symm
        exact ⟨fun h => .inl ⟨h, fun e => hno (e ▸ h)⟩, fun h => by rcases h with h | h; exact h.1; exact absurd h.1 (by simp)⟩
      | true =>
        have hnf : foundB ts t = true := by
          cases h : foundB ts t with
          | true => rfl
          | false => exact absurd ⟨rfl, h⟩ h1
        have hin : t ∈ ts := by rw [hnf] at hf; exact of_decide_eq_true hf.symm
        refine ⟨fun h => ?_, fun h => ?_⟩
        · by_cases e : x = t
          · exact .inr ⟨rfl, e⟩
          · exact .inl ⟨h, e⟩
        · rcases h with h | h
          · exact h.1
          · rw [h.2]; exact hin

/-- The reference's way: the others, then the tuple, sorted. -/
def othersR (ts : List (List Int)) (t : List Int) : List (List Int) := ts.filter (fun x => !eqB x t)
theorem others_mem (ts : List (List Int)) (t x : List Int) : x ∈ othersR ts t ↔ x ∈ ts ∧ x ≠ t := by
  unfold othersR
  rw [List.mem_filter]
  refine and_congr_right fun _ => ?_
  have := eqB_iff x t
  cases h : eqB x t with
  | false => simp; intro e; rw [this.2 e] at h; cases h
  | true => simp; exact this.1 h
theorem put_ref {a : Nat} {ts : List (List Int)} {t : List Int} (hr : Rising ts) (hl : Long a ts) (ht : t.length = a) (is : Bool) :
    sortR (othersR ts t ++ if is = true then [t] else []) = putT ts t is := by
  obtain ⟨h1, -, h3⟩ := putT_ok hr hl ht is
  have hlong : Long a (othersR ts t ++ if is = true then [t] else []) := fun x hx => by
    rw [List.mem_append, others_mem] at hx
    rcases hx with h | h
    · exact hl x h.1
    · split at h
      · rw [List.mem_singleton] at h; rw [h]; exact ht
      · simp at h
  obtain ⟨g1, -, g3⟩ := sortR_ok hlong
  refine rising_ext g1 h1 fun x => ?_
  rw [g3, h3, List.mem_append, others_mem]
  cases is <;> simp

/-- A relation is valid iff its parts are. -/
theorem relB_iff (n : Int) (r : Rel) : relB n r = true ↔ (powE n r.arity).2 = 0 ∧ nameB r.name.toList = true ∧ Rising r.tuples ∧ ∀ t ∈ r.tuples, (t.length : Int) = r.arity ∧ inB n t = true := by
  constructor
  · intro h
    have h' := h
    unfold relB at h'
    simp only [Bool.and_eq_true, decide_eq_true_eq] at h'
    exact ⟨h'.1.1, h'.1.2, relB_rising h, fun t ht => ⟨relB_len h ht, relB_in h ht⟩⟩
  · rintro ⟨h1, h2, h3, h4⟩
    unfold relB
    simp only [Bool.and_eq_true, decide_eq_true_eq]
    refine ⟨⟨h1, h2⟩, ?_⟩
    rw [List.all_eq_true]
    intro i hi
    rw [List.mem_range] at hi
    have hg := h4 _ (List.getElem_mem hi)
    unfold tupOk
    rw [getD_get [] _ i hi]
    simp only [Bool.and_eq_true, decide_eq_true_eq, Bool.or_eq_true]
    refine ⟨hg, ?_⟩
    rcases Nat.eq_zero_or_pos i with h0 | h0
    · exact .inl h0
    · right
      have := h3.lt' (show i - 1 < i by omega) hi
      have hg' := h4 _ (List.getElem_mem (show i - 1 < r.tuples.length by omega))
      rw [getD_get [] _ i hi, getD_get [] _ (i - 1) (by omega)] at this
      rw [getD_get [] _ (i - 1) (by omega)]
      exact (cmpI_less _ _ (by omega)).1 this
/-- .. a structure. -/
theorem validB_iff (size : Int) (rs : List Rel) : validB ⟨size, rs⟩ = true ↔ 1 ≤ size ∧ size ≤ 64 ∧ rs.length ≤ 8 ∧ (∀ r ∈ rs, relB size r = true) ∧ (rs.map (·.name.toList)).Nodup := by
  constructor
  · intro h
    obtain ⟨h1, h2, h3⟩ := validB_size h
    refine ⟨h1, h2, h3, fun r hr => ?_, valid_names h⟩
    obtain ⟨i, hi, rfl⟩ := List.mem_iff_getElem.1 hr
    exact validB_rel h (List.getElem?_eq_getElem hi)
  · rintro ⟨h1, h2, h3, h4, h5⟩
    unfold validB
    simp only [Bool.and_eq_true, decide_eq_true_eq]
    refine ⟨⟨⟨h1, h2⟩, h3⟩, ?_⟩
    rw [List.all_eq_true]
    intro i hi
    rw [List.mem_range] at hi
    unfold relAt
    rw [List.getElem?_eq_getElem hi]
    simp only [Bool.and_eq_true, Bool.not_eq_true']
    refine ⟨h4 _ (List.getElem_mem hi), ?_⟩
    have hn : ((rs.map (·.name.toList)))[i]? = some rs[i].name.toList := by rw [List.getElem?_map, List.getElem?_eq_getElem hi]; rfl
    have := ((nodup_succ hn).1 (nodup_take h5 (i + 1))).2
    rw [← List.map_take] at this
    rw [Bool.eq_false_iff]
    intro hc
    exact this (List.contains_iff_mem.1 hc)

/-- Put on a structure's relations. -/
def putRel (r : Rel) (t : List Int) (is : Bool) : Rel := ⟨r.name, r.arity, putT r.tuples t is⟩
def putR (rs : List Rel) (i : Nat) (t : List Int) (is : Bool) : List Rel := rs.set i (putRel (rs.getD i relDummy) t is)
theorem put_valid {size : Int} {rs : List Rel} (h : validB ⟨size, rs⟩ = true) {i : Nat} {r : Rel} (hr : rs[i]? = some r) {t : List Int} (ht : (t.length : Int) = r.arity) (hin : inB size t = true) (is : Bool) : validB ⟨size, putR rs i t is⟩ = true := by
  rw [validB_iff] at h ⊢
  obtain ⟨h1, h2, h3, h4, h5⟩ := h
  obtain ⟨hi, rfl⟩ := List.getElem?_eq_some_iff.1 hr
  have hg : rs.getD i relDummy = rs[i] := getD_get _ _ _ hi
  unfold putR
  rw [hg]
  refine ⟨h1, h2, by rw [List.length_set]; exact h3, fun r' hr' => ?_, ?_⟩
  · rcases List.mem_or_eq_of_mem_set hr' with h | h
    · exact h4 _ h
    · subst h
      have hb := h4 _ (List.getElem_mem hi)
      rw [relB_iff] at hb ⊢
      obtain ⟨b1, b2, b3, b4⟩ := hb
      have hlong : Long t.length rs[i].tuples := fun x hx => by have := (b4 x hx).1; omega
      obtain ⟨p1, p2, p3⟩ := putT_ok b3 hlong rfl is
      refine ⟨b1, b2, p1, fun x hx => ?_⟩
      rcases (p3 x).1 hx with h | h
      · exact b4 x h.1
      · rw [h.2]; exact ⟨ht, hin⟩
  · rw [List.map_set]
    have e : (rs.map (·.name.toList)).set i (putRel rs[i] t is).name.toList = rs.map (·.name.toList) := by
      apply List.ext_getElem (by simp)
      intro j hj1 hj2
      rw [List.getElem_set]
      split
      · rename_i e; subst e; simp [putRel]
      · rfl
    rw [e]
    exact h5

end Go.Proofs.YtelememdhpncgaaGreatDoor.Sh

/-
  Memory for Put: one relation's row of tuples is changed in the copy.
-/
namespace Go.Proofs.YtelememdhpncgaaGreatDoor
open Go.RowKit

theorem elems_one {w : World} {L : Nat} {us : List Value} {ts : List (List Int)} (h : Elems w L us ts) (hl : us.length = ts.length) : ∀ u ∈ us, u.oneCell' = true := by
  intro u hu
  obtain ⟨j, hj, rfl⟩ := List.mem_iff_getElem.1 hu
  obtain ⟨A, n, c, e, -⟩ := h j _ _ (List.getElem?_eq_getElem hj) (List.getElem?_eq_getElem (show j < ts.length by omega))
  rw [e]; rfl
theorem ins_at' {α : Type} {us : List α} {y : α} {i j : Nat} {u : α} (hi : i ≤ us.length) (h : (us.take i ++ y :: us.drop i)[j]? = some u) : (j < i ∧ us[j]? = some u) ∨ (j = i ∧ u = y) ∨ (i < j ∧ us[j - 1]? = some u) := by
  have hl : (us.take i).length = i := by rw [List.length_take]; omega
  by_cases h1 : j < i
  · rw [List.getElem?_append_left (by omega), List.getElem?_take, if_pos h1] at h
    exact .inl ⟨h1, h⟩
  · rw [List.getElem?_append_right (by omega), hl] at h
    by_cases h2 : j = i
    · subst h2
      rw [Nat.sub_self] at h
      exact .inr (.inl ⟨rfl, (Option.some.inj h).symm⟩)
    · rw [show j - i = (j - (i + 1)) + 1 by omega, List.getElem?_cons_succ, List.getElem?_drop, show i + (j - (i + 1)) = j - 1 by omega] at h
      exact .inr (.inr ⟨by omega, h⟩)
theorem del_at' {α : Type} {us : List α} {i j : Nat} {u : α} (hi : i ≤ us.length) (h : (us.take i ++ us.drop (i + 1))[j]? = some u) : (j < i ∧ us[j]? = some u) ∨ (i ≤ j ∧ us[j + 1]? = some u) := by
  have hl : (us.take i).length = i := by rw [List.length_take]; omega
  by_cases h1 : j < i
  · rw [List.getElem?_append_left (by omega), List.getElem?_take, if_pos h1] at h
    exact .inl ⟨h1, h⟩
  · rw [List.getElem?_append_right (by omega), hl, List.getElem?_drop, show i + 1 + (j - i) = j + 1 by omega] at h
    exact .inr ⟨by omega, h⟩
theorem elems_insert {w : World} {L : Nat} {us : List Value} {ts : List (List Int)} (h : Elems w L us ts) (hl : us.length = ts.length) {i : Nat} (hi : i ≤ us.length) {y : Value} {t : List Int} (hy : NInts w L y t) : Elems w L (us.take i ++ y :: us.drop i) (ts.take i ++ t :: ts.drop i) := by
  intro j u x h1 h2
  rcases ins_at' hi h1 with ⟨a, b⟩ | ⟨a, rfl⟩ | ⟨a, b⟩ <;> rcases ins_at' (by omega) h2 with ⟨c, d⟩ | ⟨c, rfl⟩ | ⟨c, d⟩ <;> first | omega | exact h _ u x b d | exact hy
theorem elems_delete {w : World} {L : Nat} {us : List Value} {ts : List (List Int)} (h : Elems w L us ts) (hl : us.length = ts.length) {i : Nat} (hi : i ≤ us.length) : Elems w L (us.take i ++ us.drop (i + 1)) (ts.take i ++ ts.drop (i + 1)) := by
  intro j u x h1 h2
  rcases del_at' hi h1 with ⟨a, b⟩ | ⟨a, b⟩ <;> rcases del_at' (by omega) h2 with ⟨c, d⟩ | ⟨c, d⟩ <;> first | omega | exact h _ u x b d

/-- Rows of two types lie in two blocks. -/
theorem own_types {w : World} {b1 b2 n1 n2 s1 s2 : Nat} {e1 e2 : TypeId} {v1 v2 : Value} {x1 x2 : List Value} (h1 : w.ownsRow b1 e1 s1 v1 n1 x1) (h2 : w.ownsRow b2 e2 s2 v2 n2 x2) (hne : e1 ≠ e2) : v1.ownBlock = none ∨ v1.ownBlock ≠ v2.ownBlock := by
  rcases h1.2 with ⟨rfl, -⟩ | ⟨g1, c1, k1, rfl, -, hh1, -⟩
  · exact .inl rfl
  · refine .inr fun e => ?_
    rcases h2.2 with ⟨rfl, -⟩ | ⟨g2, c2, k2, rfl, -, hh2, -⟩
    · cases e
    · have hg : g1 = g2 := Option.some.inj (show some g1 = some g2 from e)
      subst hg
      rw [hh1] at hh2
      injection hh2 with hh2
      injection hh2 with _ hh2
      exact hne hh2

theorem rcells_set {xs vs : List Value} {rs : List Sh.Rel} (h : RCells xs vs rs) {i : Nat} {r r' : Sh.Rel} (hr : rs[i]? = some r) (hn : r'.name = r.name) (ha : r'.arity = r.arity) (v' : Value) : RCells (xs.set (i * 3 + 2) v') (vs.set i v') (rs.set i r') := by
  obtain ⟨h1, h2, h3⟩ := h
  have hi := (List.getElem?_eq_some_iff.1 hr).1
  refine ⟨by rw [List.length_set, List.length_set]; exact h1, by rw [List.length_set, List.length_set]; exact h2, fun j x hx => ?_⟩
  by_cases e : j = i
  · subst e
    rw [List.getElem?_set_self hi] at hx
    have := Option.some.inj hx
    subst this
    obtain ⟨a, b, -⟩ := h3 j r hr
    rw [List.getElem?_set_ne (by omega), List.getElem?_set_ne (by omega), List.getElem?_set_self (by omega), List.getElem?_set_self (by omega), hn, ha]
    exact ⟨a, b, rfl⟩
  · rw [List.getElem?_set_ne (fun h => e h.symm)] at hx
    obtain ⟨a, b, c⟩ := h3 j x hx
    have hj := (List.getElem?_eq_some_iff.1 hx).1
    rw [List.getElem?_set_ne (by omega), List.getElem?_set_ne (by omega), List.getElem?_set_ne (by omega), List.getElem?_set_ne (fun h => e h.symm)]
    exact ⟨a, b, c⟩

theorem put_final {w3 w8 : World} {L n cap g i m : Nat} {xs vs us' : List Value} {rs : List Sh.Rel} {r r' : Sh.Rel} {vi v' : Value} (hn : n = rs.length) (hn9 : n ≤ 1000000)
    (hx : w3.ownsRow L 57 3 (.slice (some ⟨g, 0, none⟩) n cap) n xs) (hc : RCells xs vs rs) (ho : ROwn w3 L vs rs) (hr : rs[i]? = some r) (hv : vs[i]? = some vi) (hname : r'.name = r.name) (har : r'.arity = r.arity)
    (hg : w3.grownBy w8 vi.ownBlock) (ho' : w8.ownsRow L 25 1 v' m us') (hm : m ≤ 1000000) (hlen : us'.length = r'.tuples.length) (he : Elems w8 L us' r'.tuples) :
    NRels (w8.setCell ⟨g, i * 3 + 2, none⟩ v') L (.slice (some ⟨g, 0, none⟩) n cap) (rs.set i r') := by
  have hi := (List.getElem?_eq_some_iff.1 hr).1
  obtain ⟨hz, ht, us, hul, hd, hel⟩ := ho.1 i vi r hv hr
  have hx8 : w8.ownsRow L 57 3 (.slice (some ⟨g, 0, none⟩) n cap) n xs := hx.kept hg (own_types hx hd (by decide))
  have hx9 := hx8.stored (i * 3 + 2) v'
  have hbg : ∃ cs, w8.heap[g]? = some (.cells cs 57 (0, 0)) := by
    rcases hx8.2 with ⟨h, -⟩ | ⟨g2, c2, k2, h, -, hh, -⟩
    · injection h with h _ _; cases h
    · injection h with h _ _
      have := Option.some.inj h
      injection this with this _ _
      subst this
      exact ⟨_, hh⟩
  obtain ⟨cs, hcs⟩ := hbg
  have hk9 : Keeps L [3, 25] w8 (w8.setCell ⟨g, i * 3 + 2, none⟩ v') := Keeps.setCell (p := ⟨g, i * 3 + 2, none⟩) hcs (by decide) _
  have hk8 : Keeps L [3] w3 w8 := Keeps.own hg hd (by decide)
  refine NRels.own hx9.1 (Nat.le_refl _) (by omega) (rcells_set hc hr hname har v') (fun j u x h1 h2 => ?_)
  by_cases e : j = i
  · subst e
    rw [List.getElem?_set_self (by have := hc.2.1; omega)] at h1
    rw [List.getElem?_set_self hi] at h2
    have e1 := Option.some.inj h1
    have e2 := Option.some.inj h2
    subst e1 e2
    exact ⟨(NTups.own ho' (Nat.le_refl _) (by omega) hlen he).keep hk9, by rw [hname]; exact hz⟩
  · rw [List.getElem?_set_ne (fun h => e h.symm)] at h1
    rw [List.getElem?_set_ne (fun h => e h.symm)] at h2
    obtain ⟨hz2, ht2, us2, hul2, hd2, hel2⟩ := ho.1 j u x h1 h2
    have hne : u.ownBlock = none ∨ u.ownBlock ≠ vi.ownBlock := by
      cases hu : u.ownBlock with
      | none => exact .inl rfl
      | some b =>
        refine .inr fun hh => ?_
        rcases Nat.lt_or_gt_of_ne e with hlt | hlt
        · exact ho.2 j i u vi b hlt h1 hv hu hh.symm
        · exact ho.2 i j vi u b hlt hv h1 hh.symm hu
    exact ⟨(NTups.own (hd2.kept hg hne) (Nat.le_refl _) (by omega) hul2 (hel2.keep hk8)).keep hk9, hz2⟩

end Go.Proofs.YtelememdhpncgaaGreatDoor

/-
  Walks: shape.find, its literal, slices.IndexFunc at it.
-/
namespace Go.Proofs.YtelememdhpncgaaGreatDoor
open Go.RowKit

set_option maxHeartbeats 400000 in
theorem findlit_any (r : Sh.Rel) (v : Value) (nm : ByteArray) (ar : Int) (G : Nat) (w : World) (hG : G < w.heap.size) (h0 : w.cell? ⟨G, 0, none⟩ = some (.string nm)) (h1 : w.cell? ⟨G, 1, none⟩ = some (.int .i64 ar)) :
    Calls Tryz.prog 61 #[.agg #[.string r.name, .int .i64 r.arity, v], .pointer (some ⟨G, 0, none⟩)] w fun e w' => e = .returned (.bool (Sh.symB nm.toList ar r)) ∧ Below w.heap.size w w' := by
  go_enter Tryz.func61, Tryz.ntmps61
  go_wp2
  all_goals go_ret
  all_goals refine ⟨ret_bool ?_, (Below.refl _ _).alloc (Nat.le_refl _) _⟩
  all_goals simp_all [Sh.symB]
  all_goals rfl

theorem findlit_enters : ∀ args w, (callFunc 61 args).run Tryz.prog w = .ok (.enter 61 args) w := enters_of Tryz.func61 (by kernel_rfl) rfl

set_option maxRecDepth 100000 in
set_option maxHeartbeats 400000 in
theorem indexfunc_any (v : Value) (rs : List Sh.Rel) (nm : ByteArray) (ar : Int) (G : Nat) (w : World) (B : Nat) (hB : B ≤ w.heap.size) (h : Rels w B v rs)
    (hG : G < w.heap.size) (h0 : w.cell? ⟨G, 0, none⟩ = some (.string nm)) (h1 : w.cell? ⟨G, 1, none⟩ = some (.int .i64 ar)) :
    Calls Tryz.prog 60 #[v, .func (.func 61) #[] #[.pointer (some ⟨G, 0, none⟩)]] w
      fun e w' => e = .returned (.int .i64 (Sh.findI nm.toList ar rs)) ∧ Below w.heap.size w w' := by
  have h' := h
  obtain ⟨A, len, c, rfl, hlen, hmax, -⟩ := h'
  have Hlen := Lib.hid hlen; clear hlen
  have eg := findlit_enters
  go_enter Tryz.func60, Tryz.ntmps60
  go_wp2
  go_loopw [8] (fun i wr => ∃ k : Nat, k ≤ len ∧ i = .int .i64 k ∧ Sh.NoneOf nm.toList ar rs k ∧ Below w.heap.size w wr) (fun i _ => len - (intOf i).toNat)
  case atStart => exact ⟨0, Nat.zero_le _, rfl, fun j r hj => absurd hj (Nat.not_lt_zero _), Below.refl _ _⟩
  case round =>
    obtain ⟨k, hk, rfl, hno, hbel⟩ := hrel
    have hsz := hbel.size
    by_cases hlt : k < len
    · obtain ⟨ad, u, r, rfl, hb, hr, hc0, hc1, hc2, htu, hrs⟩ := (h.below (hbel.mono hB)).at_ hlt
      have hcall := findlit_any r u nm ar G wr (by omega) ((hbel.cell (p := ⟨G, 0, none⟩) hG).trans h0) ((hbel.cell (p := ⟨G, 1, none⟩) hG).trans h1)
      have Hr := Lib.hid hr; clear hr
      clear htu h0 h1
      cases hs : Sh.symB nm.toList ar r
      · rw [hs] at hcall
        have Hcall := Lib.hid hcall; clear hcall
        have Hs := Lib.hid hs; clear hs
        go_wp2_with (go_at_fn 61; refine (Hcall.out).mono ?_; rintro e w1 ⟨rfl, hb1⟩)
        exact ⟨⟨k + 1, by omega, by go_num, hno.succ Hr.out Hs.out, hbel.trans (hb1.mono hsz)⟩, by simp [intOf]; omega⟩
      · rw [hs] at hcall
        have Hcall := Lib.hid hcall; clear hcall
        have Hs := Lib.hid hs; clear hs
        go_wp2_with (go_at_fn 61; refine (Hcall.out).mono ?_; rintro e w1 ⟨rfl, hb1⟩)
        go_ret
        exact ⟨ret_int (Sh.findI_hit hno Hr.out Hs.out).symm, hbel.trans (hb1.mono hsz)⟩
    · obtain rfl : k = len := by omega
      clear h0 h1
      go_wp2
      go_ret
      exact ⟨ret_int (Sh.findI_none (by rw [← Hlen.out]; exact hno)).symm, hbel⟩

set_option maxRecDepth 100000 in
set_option maxHeartbeats 400000 in
theorem find_any (size : Int) (v : Value) (rs : List Sh.Rel) (nm : ByteArray) (ar : Int) (w : World) (B : Nat) (hB : B ≤ w.heap.size) (h : Rels w B v rs) :
    Calls Tryz.prog 43 #[.agg #[.int .i64 size, v], .agg #[.string nm, .int .i64 ar]] w
      fun e w' => e = .returned (.int .i64 (Sh.findI nm.toList ar rs)) ∧ Below w.heap.size w w' := by
  have h' := h
  obtain ⟨A, len, c, rfl, -, -, -⟩ := h'
  have hbel : Below w.heap.size w ((w.alloc (.cells #[.int .i64 size, .slice A len c] 24)).alloc (.cells #[.string nm, .int .i64 ar] 72)) :=
    ((Below.refl _ _).alloc (Nat.le_refl _) _).alloc (by simp) _
  have hcall := indexfunc_any (.slice A len c) rs nm ar (w.heap.size + 1) ((w.alloc (.cells #[.int .i64 size, .slice A len c] 24)).alloc (.cells #[.string nm, .int .i64 ar] 72)) B
    (by simp; omega) (h.below (hbel.mono hB)) (by simp) (by simp [go_sem]) (by simp [go_sem])
  have Hcall := Lib.hid hcall; clear hcall
  go_enter Tryz.func43, Tryz.ntmps43
  go_wp2_with (go_at_call 60; refine (Hcall.out).mono ?_; rintro e w1 ⟨rfl, hb1⟩)
  go_ret
  exact ⟨rfl, hbel.trans (hb1.mono (by simp; omega))⟩

end Go.Proofs.YtelememdhpncgaaGreatDoor

/-
  Walks: shape.relationFor, place, slices.BinarySearchFunc at it, Has.
-/
namespace Go.Proofs.YtelememdhpncgaaGreatDoor
open Go.RowKit

set_option maxRecDepth 100000 in
set_option maxHeartbeats 400000 in
theorem relationFor_any (size : Int) (v : Value) (rs : List Sh.Rel) (nm : ByteArray) (u : Value) (t : List Int) (w : World) (B : Nat) (hB : B ≤ w.heap.size) (h : Rels w B v rs) (ht : Ints w B u t) :
    Calls Tryz.prog 37 #[.agg #[.int .i64 size, v], .string nm, u] w
      fun e w' => e = .returned (.tuple #[.int .i64 (Sh.relForE ⟨size, rs⟩ nm.toList t.length).1, .int .i64 (Sh.relForE ⟨size, rs⟩ nm.toList t.length).2]) ∧ Below w.heap.size w w' := by
  have h' := h
  obtain ⟨A, len, c, rfl, -, -, -⟩ := h'
  have ht' := ht
  obtain ⟨A2, n2, c2, rfl, hn2, hm2, -⟩ := ht'
  have hdef : Sh.relForE ⟨size, rs⟩ nm.toList t.length = if Sh.validB ⟨size, rs⟩ = false then (0, 1) else if Sh.findI nm.toList n2 rs < 0 then (0, 4) else (Sh.findI nm.toList n2 rs, 0) := by rw [hn2]; rfl
  rw [hdef]
  clear hdef
  have Hn2 := Lib.hid hn2; clear hn2
  have hb0 : Below w.heap.size w (w.alloc (.cells #[.int .i64 size, .slice A len c] 24)) := (Below.refl _ _).alloc (Nat.le_refl _) _
  have hbox := Blk.new w 24 #[.int .i64 size, .slice A len c]
  cases hvb : Sh.validB ⟨size, rs⟩
  · rw [if_pos rfl]
    have hcall := valid_any size (.slice A len c) rs (w.alloc (.cells #[.int .i64 size, .slice A len c] 24)) B (by simp; omega) (h.below (hb0.mono hB))
    rw [hvb] at hcall
    have Hcall := Lib.hid hcall; clear hcall
    have Hvb := Lib.hid hvb; clear hvb
    go_enter Tryz.func37, Tryz.ntmps37
    go_wp2_with (go_at_call 31; refine (Hcall.out).mono ?_; rintro e w1 ⟨rfl, hb1⟩)
    go_ret2
    exact ⟨rfl, hb0.trans (hb1.mono (by simp))⟩
  · rw [if_neg (by simp)]
    have hcall := valid_any size (.slice A len c) rs (w.alloc (.cells #[.int .i64 size, .slice A len c] 24)) B (by simp; omega) (h.below (hb0.mono hB))
    rw [hvb] at hcall
    have Hcall := Lib.hid hcall; clear hcall
    have Hvb := Lib.hid hvb; clear hvb
    by_cases hf : Sh.findI nm.toList n2 rs < 0
    · rw [if_pos hf]
      go_enter Tryz.func37, Tryz.ntmps37
      go_wp2_with (first
        | (go_at_call 31
           refine (Hcall.out).mono ?_
           rintro e w1 ⟨rfl, hb1⟩
           have c0 : w1.cell? ⟨w.heap.size, 0, none⟩ = some (.int .i64 size) := (hbox.below hb1 (by simp)).cell 0
           have c1 : w1.cell? ⟨w.heap.size, 1, none⟩ = some (.slice A len c) := (hbox.below hb1 (by simp)).cell 1
           have hbw1 : Below w.heap.size w w1 := hb0.trans (hb1.mono (by simp))
           have hcall2 := find_any size (.slice A len c) rs nm n2 w1 B (by have := hbw1.size; omega) (h.below (hbw1.mono hB))
           have Hcall2 := Lib.hid hcall2; clear hcall2
           clear hb1)
        | (go_at_call 43; refine (Hcall2.out).mono ?_; rintro e w2 ⟨rfl, hb2⟩))
      go_ret2
      exact ⟨rfl, hbw1.trans (hb2.mono hbw1.size)⟩
    · rw [if_neg hf]
      go_enter Tryz.func37, Tryz.ntmps37
      go_wp2_with (first
        | (go_at_call 31
           refine (Hcall.out).mono ?_
           rintro e w1 ⟨rfl, hb1⟩
           have c0 : w1.cell? ⟨w.heap.size, 0, none⟩ = some (.int .i64 size) := (hbox.below hb1 (by simp)).cell 0
           have c1 : w1.cell? ⟨w.heap.size, 1, none⟩ = some (.slice A len c) := (hbox.below hb1 (by simp)).cell 1
           have hbw1 : Below w.heap.size w w1 := hb0.trans (hb1.mono (by simp))
           have hcall2 := find_any size (.slice A len c) rs nm n2 w1 B (by have := hbw1.size; omega) (h.below (hbw1.mono hB))
           have Hcall2 := Lib.hid hcall2; clear hcall2
           clear hb1)
        | (go_at_call 43; refine (Hcall2.out).mono ?_; rintro e w2 ⟨rfl, hb2⟩))
      go_ret2
      exact ⟨rfl, hbw1.trans (hb2.mono hbw1.size)⟩

theorem compare_enters : ∀ args w, (callFunc 35 args).run Tryz.prog w = .ok (.enter 35 args) w := enters_of Tryz.func35 (by kernel_rfl) rfl

set_option maxRecDepth 100000 in
set_option maxHeartbeats 400000 in
theorem bsearch_any (v u : Value) (ts : List (List Int)) (t : List Int) (w : World) (B : Nat) (h : Tups w B v ts) (ht : Ints w B u t) (hm : Sh.Mono ts t) :
    Calls Tryz.prog 57 #[v, u, .func (.func 35) #[] #[]] w
      fun e w' => e = .returned (.tuple #[.int .i64 (Sh.lbN ts t : Nat), .bool (Sh.foundB ts t)]) ∧ w = w' := by
  have h' := h
  obtain ⟨A, len, c, rfl, hlen, hmax, -⟩ := h'
  have Hlen := Lib.hid hlen; clear hlen
  have eg := compare_enters
  have Hm := Lib.hid hm; clear hm
  go_enter Tryz.func57, Tryz.ntmps57
  go_wp2
  go_loop [9, 10] (fun p q => ∃ i j : Nat, i ≤ j ∧ j ≤ len ∧ p = .int .i64 i ∧ q = .int .i64 j ∧ Sh.Between ts t i j) (fun p q => (intOf q - intOf p).toNat)
  case atStart => exact ⟨0, len, Nat.zero_le _, Nat.le_refl _, rfl, rfl, fun x hx => absurd hx (Nat.not_lt_zero _), fun x hx hl => by have := Hlen.out; omega⟩
  case round =>
    obtain ⟨i, j, hij, hj, rfl, rfl, hbt⟩ := hrel
    by_cases hlt : i < j
    · have hm1 : i ≤ (i + j) / 2 := by omega
      have hm2 : (i + j) / 2 < j := by omega
      obtain ⟨ad, x, rfl, hb, hcx, hix⟩ := h.at_ (show (i + j) / 2 < len by omega)
      have hcall := compare_any x u _ t w B hix ht
      generalize hci : Sh.cmpI (ts.getD ((i + j) / 2) []) t = ci at hcall
      have Hci := Lib.hid hci; clear hci
      by_cases hc0 : ci < 0
      · have hbt' := hbt.left (m := (i + j) / 2) Hm.out (by have := Hlen.out; omega) (by rw [Hci.out]; exact hc0)
        have Hbt' := Lib.hid hbt'; clear hbt'
        go_wp2_with (go_at_fn 35; refine hcall.mono ?_; rintro e w' ⟨rfl, rfl⟩)
        go_round
        case rel => exact ⟨(i + j) / 2 + 1, j, by omega, hj, by go_num, rfl, Hbt'.out⟩
        case measure => simp [intOf]; omega
      · have hbt' := hbt.right (m := (i + j) / 2) Hm.out (by rw [Hci.out]; exact hc0)
        have Hbt' := Lib.hid hbt'; clear hbt'
        go_wp2_with (go_at_fn 35; refine hcall.mono ?_; rintro e w' ⟨rfl, rfl⟩)
        go_round
        case rel => exact ⟨i, (i + j) / 2, by omega, by omega, rfl, by go_num, Hbt'.out⟩
        case measure => simp [intOf]; omega
    · obtain rfl : i = j := by omega
      have hlb := Sh.lbN_eq (i := i) (ts := ts) (by have := Hlen.out; omega) hbt
      have hfd : Sh.foundB ts t = (decide (i < len) && decide (Sh.cmpI (ts.getD i []) t = 0)) := by unfold Sh.foundB; rw [hlb, ← Hlen.out]
      have Hlb := Lib.hid hlb; clear hlb
      have Hfd := Lib.hid hfd; clear hfd
      by_cases hil : i < len
      · obtain ⟨ad, x, rfl, hb, hcx, hix⟩ := h.at_ hil
        have hcall := compare_any x u _ t w B hix ht
        generalize hci : Sh.cmpI (ts.getD i []) t = ci at hcall
        have Hci := Lib.hid hci; clear hci
        go_wp2_with (go_at_fn 35; refine hcall.mono ?_; rintro e w' ⟨rfl, rfl⟩)
        go_ret2
        rw [Hlb.out, Hfd.out, Hci.out]
        exact ⟨by simp [hil]; rfl, rfl⟩
      · go_wp2
        go_ret2
        rw [Hlb.out, Hfd.out]
        exact ⟨by simp [hil], rfl⟩

set_option maxRecDepth 100000 in
set_option maxHeartbeats 400000 in
theorem place_any (v u : Value) (ts : List (List Int)) (t : List Int) (w : World) (B : Nat) (h : Tups w B v ts) (ht : Ints w B u t) (hm : Sh.Mono ts t) :
    Calls Tryz.prog 39 #[v, u] w
      fun e w' => e = .returned (.tuple #[.int .i64 (Sh.lbN ts t : Nat), .bool (Sh.foundB ts t)]) ∧ w = w' := by
  have hcall := bsearch_any v u ts t w B h ht hm
  have Hcall := Lib.hid hcall; clear hcall
  clear hm
  go_enter Tryz.func39, Tryz.ntmps39
  go_wp2_with (go_at_call 57; refine (Hcall.out).mono ?_; rintro e w' ⟨rfl, rfl⟩)
  go_ret2
  exact ⟨rfl, rfl⟩

theorem addr3 (ad : Addr) (k : Nat) : (ad.add (k * 3)).block = ad.block := block_of_add _ _

set_option maxRecDepth 100000 in
set_option maxHeartbeats 400000 in
theorem has_any (size : Int) (v : Value) (rs : List Sh.Rel) (nm : ByteArray) (u : Value) (t : List Int) (w : World) (B : Nat) (hB : B ≤ w.heap.size) (h : Rels w B v rs) (ht : Ints w B u t) :
    Calls Tryz.prog 26 #[.agg #[.int .i64 size, v], .string nm, u] w
      fun e w' => e = .returned (.tuple #[.bool (Sh.hasE ⟨size, rs⟩ nm.toList t).1, .int .i64 (Sh.hasE ⟨size, rs⟩ nm.toList t).2]) ∧ Below w.heap.size w w' := by
  have h' := h
  obtain ⟨A, len, c, rfl, hlen, -, -⟩ := h'
  have Hlen := Lib.hid hlen; clear hlen
  have hb0 : Below w.heap.size w (w.alloc (.cells #[.int .i64 size, .slice A len c] 24)) := (Below.refl _ _).alloc (Nat.le_refl _) _
  have hbox := Blk.new w 24 #[.int .i64 size, .slice A len c]
  have hcall := relationFor_any size (.slice A len c) rs nm u t (w.alloc (.cells #[.int .i64 size, .slice A len c] 24)) B (by simp; omega) (h.below (hb0.mono hB)) (ht.below (hb0.mono hB))
  have hdef : Sh.hasE ⟨size, rs⟩ nm.toList t = if (Sh.relForE ⟨size, rs⟩ nm.toList t.length).2 ≠ 0 then (false, (Sh.relForE ⟨size, rs⟩ nm.toList t.length).2)
      else match rs[(Sh.relForE ⟨size, rs⟩ nm.toList t.length).1.toNat]? with
        | some r => (Sh.foundB r.tuples t, 0)
        | none => (false, 0) := rfl
  generalize hre : Sh.relForE ⟨size, rs⟩ nm.toList t.length = re at *
  obtain ⟨i, e⟩ := re
  simp only at hcall hdef
  have Hcall := Lib.hid hcall; clear hcall
  by_cases he : e = 0
  · subst he
    rw [if_neg (by simp)] at hdef
    have hfind : ¬ Sh.validB ⟨size, rs⟩ = false ∧ ¬ Sh.findI nm.toList t.length rs < 0 ∧ i = Sh.findI nm.toList t.length rs := by
      unfold Sh.relForE at hre
      by_cases h1 : Sh.validB ⟨size, rs⟩ = false
      · rw [if_pos h1] at hre; injection hre with _ hre; exact absurd hre (by decide)
      · rw [if_neg h1] at hre
        by_cases h2 : Sh.findI nm.toList t.length rs < 0
        · rw [if_pos h2] at hre; injection hre with _ hre; exact absurd hre (by decide)
        · rw [if_neg h2] at hre; injection hre with hre _; exact ⟨h1, h2, hre.symm⟩
    obtain ⟨hvb, hfi, hie⟩ := hfind
    obtain ⟨k, r, hk, hr, hnm, har⟩ := Sh.findI_get hfi
    have hik : i = k := hie.trans hk
    subst hik
    have hvb' : Sh.validB ⟨size, rs⟩ = true := by simpa using hvb
    have hmono := (Sh.relB_rising (Sh.validB_rel hvb' hr)).mono t
    simp only [Int.toNat_natCast, hr] at hdef
    have hkl : k < len := by rw [Hlen.out]; exact (List.getElem?_eq_some_iff.1 hr).1
    have Hdef := Lib.hid hdef; clear hdef
    have Hre := Lib.hid hre; clear hre
    have Hr := Lib.hid hr; clear hr
    have Hmono := Lib.hid hmono; clear hmono
    clear hvb hvb' hfi hie hk hnm har
    go_enter Tryz.func26, Tryz.ntmps26
    go_wp2_with (first
      | (go_at_call 37
         refine (Hcall.out).mono ?_
         rintro e w1 ⟨rfl, hb1⟩
         have hbw1 : Below w.heap.size w w1 := hb0.trans (hb1.mono (by simp))
         have c1 : w1.cell? ⟨w.heap.size, 1, none⟩ = some (.slice A len c) := (hbox.below hb1 (by simp)).cell 1
         obtain ⟨ad, x, r', rfl, hb, hr', hd0, hd1, hd2, htx, -⟩ := (h.below (hbw1.mono hB)).at_ hkl
         have hrr : r' = r := Option.some.inj (hr'.symm.trans Hr.out)
         subst hrr
         have hcall2 := place_any x u r'.tuples t w1 B htx (ht.below (hbw1.mono hB)) Hmono.out
         have Hcall2 := Lib.hid hcall2; clear hcall2
         clear hb1 hr' hd0 hd1 htx)
      | (go_at_call 39; refine (Hcall2.out).mono ?_; rintro e w' ⟨rfl, rfl⟩))
    go_ret2
    rw [Hdef.out]
    exact ⟨rfl, hbw1⟩
  · rw [if_pos he] at hdef
    have Hdef := Lib.hid hdef; clear hdef
    have Hre := Lib.hid hre; clear hre
    have hne : (e == 0) = false := by simpa using he
    have hne' : (e != 0) = true := by simpa using he
    go_enter Tryz.func26, Tryz.ntmps26
    go_wp2_with (go_at_call 37; refine (Hcall.out).mono ?_; rintro e w1 ⟨rfl, hb1⟩)
    go_ret2
    rw [Hdef.out]
    exact ⟨rfl, hb0.trans (hb1.mono (by simp))⟩

end Go.Proofs.YtelememdhpncgaaGreatDoor
