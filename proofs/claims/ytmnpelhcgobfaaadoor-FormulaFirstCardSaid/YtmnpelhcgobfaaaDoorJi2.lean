/-
  Texts joined: Fspec3, Fspec4, Fspec5, Fgram, Fgram2, Fpnum.
-/
import Derived.Test.YtmnpelhcgobfaaaDoorJi1

/-
  Plain mathematics: the symbols that the walk over a formula finds, the free variables, and the theorem: the walk succeeds if and only if the reference says valid.
-/
namespace Go.Proofs.YtmnpelhcgobfaaaDoor.Fo
variable {N : Type} [DecidableEq N]

mutual
theorem occP_bound : ∀ (f : F N) (bd : List N) (no pf : Nat) (nm : N), nm ∈ bd → ∀ o ∈ occP f bd no pf, o.1 ≠ nm
  | .mk k a n vs ags ks, bd, no, pf, nm, h => by
    unfold occP
    by_cases hk : k = 0
    · rw [if_pos hk]
      by_cases hn : n ∈ bd
      · rw [if_pos hn]; intro o ho; cases ho
      · rw [if_neg hn]
        intro o ho e
        rw [List.mem_singleton] at ho
        subst ho
        exact hn (by rw [show n = nm from e]; exact h)
    · rw [if_neg hk]
      refine occL_bound ks _ _ _ nm ?_
      split
      · exact List.mem_cons_of_mem _ h
      · exact h
theorem occL_bound : ∀ (l : List (F N)) (bd : List N) (no pf : Nat) (nm : N), nm ∈ bd → ∀ o ∈ occL l bd no pf, o.1 ≠ nm
  | [], bd, no, pf, nm, h => by intro o ho; simp [occL] at ho
  | f :: l, bd, no, pf, nm, h => by
    intro o ho
    rw [occL, List.mem_append] at ho
    rcases ho with ho | ho
    · exact occP_bound f bd no pf nm h o ho
    · exact occL_bound l bd no pf nm h o ho
end

mutual
theorem posF_iff : ∀ (f : F N) (bd : List N) (no pf : Nat) (nm : N), nm ∉ bd → (posF f nm (decide (no % 2 ≠ 0)) (decide (pf ≠ 0)) = true ↔ ∀ o ∈ occP f bd no pf, o.1 = nm → o.2.2 = true)
  | .mk k a n vs ags ks, bd, no, pf, nm, h => by
    unfold occP posF
    by_cases hk : k = 0
    · rw [if_pos hk, if_pos hk]
      by_cases hn : n ∈ bd
      · rw [if_pos hn]
        have : n ≠ nm := fun e => h (by rw [← e]; exact hn)
        simp [this]
      · rw [if_neg hn]
        by_cases e : n = nm
        · simp [e]
        · simp [e]
    · rw [if_neg hk, if_neg hk]
      by_cases hb : bindsB k = true ∧ n = nm
      · rw [if_pos hb, if_pos hb.1]
        refine ⟨fun _ o ho e => absurd e (occL_bound ks _ _ _ nm (by rw [hb.2]; exact List.mem_cons_self ..) o ho), fun _ => rfl⟩
      · rw [if_neg hb]
        have e1 := odd_step (k := k) (no := no) (a := 0) (Nat.zero_le _)
        have e2 := part_step (k := k) (pf := pf) (a := 0) (Nat.zero_le _)
        rw [Nat.sub_zero, Nat.sub_zero] at e1
        rw [e1, e2]
        refine posL_iff ks _ _ _ nm ?_
        split
        · rename_i hb1
          intro hm
          rcases List.mem_cons.1 hm with e | hm
          · exact hb ⟨hb1, e.symm⟩
          · exact h hm
        · exact h
theorem posL_iff : ∀ (l : List (F N)) (bd : List N) (no pf : Nat) (nm : N), nm ∉ bd → (posL l nm (decide (no % 2 ≠ 0)) (decide (pf ≠ 0)) = true ↔ ∀ o ∈ occL l bd no pf, o.1 = nm → o.2.2 = true)
  | [], bd, no, pf, nm, h => by simp [posL, occL]
  | f :: l, bd, no, pf, nm, h => by
    rw [posL, Bool.and_eq_true, posF_iff f bd no pf nm h, posL_iff l bd no pf nm h, occL]
    constructor
    · rintro ⟨h1, h2⟩ o ho
      rcases List.mem_append.1 ho with ho | ho
      · exact h1 o ho
      · exact h2 o ho
    · intro h1
      exact ⟨fun o ho => h1 o (List.mem_append_left _ ho), fun o ho => h1 o (List.mem_append_right _ ho)⟩
end

section
variable {α : Type}
def keysM (sy : List (N × α)) : List N := sy.map (·.1)
theorem getM_none {n : N} : ∀ {sy : List (N × α)}, getM n sy = none ↔ n ∉ keysM sy
  | [] => by simp [getM, keysM]
  | (m, w) :: l => by
    have ih := getM_none (n := n) (sy := l)
    unfold keysM at ih ⊢
    unfold getM
    by_cases e : m = n
    · simp [e]
    · have e' : ¬ n = m := fun x => e x.symm
      rw [if_neg e, ih]
      simp [e']
theorem updM_keys {n : N} {u : α} : ∀ {sy : List (N × α)}, keysM (updM n u sy) = if n ∈ keysM sy then keysM sy else keysM sy ++ [n]
  | [] => by simp [updM, keysM]
  | (m, w) :: l => by
    have ih := updM_keys (n := n) (u := u) (sy := l)
    unfold keysM at ih ⊢
    unfold updM
    by_cases e : m = n
    · simp [e]
    · have e' : ¬ n = m := fun x => e x.symm
      rw [if_neg e]
      simp only [List.map_cons, ih, List.mem_cons, e', false_or]
      split <;> simp
theorem getM_updM {n m : N} {u : α} : ∀ {sy : List (N × α)}, getM m (updM n u sy) = if n = m then some u else getM m sy
  | [] => by simp [updM, getM]
  | (k, w) :: l => by
    have ih := getM_updM (n := n) (m := m) (u := u) (sy := l)
    unfold updM
    by_cases e : k = n
    · rw [if_pos e]
      unfold getM
      by_cases e2 : n = m
      · rw [if_pos e2, if_pos e2]
      · rw [if_neg e2, if_neg e2, if_neg (fun x => e2 (e.symm.trans x))]
    · rw [if_neg e]
      unfold getM
      by_cases e2 : k = m
      · rw [if_pos e2, if_pos e2, if_neg (fun x => e (e2.trans x.symm))]
      · rw [if_neg e2, if_neg e2, ih]
end

/-- What a list of symbols says of a list of occurrences. -/
structure Says (sy : List (N × (Int × Bool))) (l : List (N × (Int × Bool))) : Prop where
  nodup : (keysM sy).Nodup
  keys : ∀ x, x ∈ keysM sy ↔ ∃ o ∈ l, o.1 = x
  arity : ∀ x u, getM x sy = some u → ∀ o ∈ l, o.1 = x → o.2.1 = u.1
  pos : ∀ x u, getM x sy = some u → (u.2 = true ↔ ∀ o ∈ l, o.1 = x → o.2.2 = true)

theorem Says.nil : Says (N := N) [] [] := ⟨List.nodup_nil, fun x => by simp [keysM], fun x u h => by simp [getM] at h, fun x u h => by simp [getM] at h⟩

theorem Says.step {sy l : List (N × (Int × Bool))} (h : Says sy l) (o : N × (Int × Bool)) : (∃ sy1, step1 sy o = some sy1 ∧ Says sy1 (l ++ [o])) ∨ (step1 sy o = none ∧ ∃ p ∈ l, p.1 = o.1 ∧ p.2.1 ≠ o.2.1) := by
  have hno : ∀ sy1 (u1 : Int × Bool), sy1 = updM o.1 u1 sy → (keysM sy1).Nodup ∧ ∀ x, x ∈ keysM sy1 ↔ ∃ p ∈ l ++ [o], p.1 = x := by
    rintro sy1 u1 rfl
    rw [updM_keys]
    constructor
    · split
      · exact h.nodup
      · rename_i hn
        exact List.nodup_append.2 ⟨h.nodup, by simp, fun a ha b hb e => hn (by rw [List.mem_singleton] at hb; rw [← hb, ← e]; exact ha)⟩
    · intro x
      have hx : (∃ p ∈ l ++ [o], p.1 = x) ↔ x ∈ keysM sy ∨ x = o.1 := by
        rw [h.keys]
        constructor
        · rintro ⟨p, hp, e⟩
          rcases List.mem_append.1 hp with hp | hp
          · exact .inl ⟨p, hp, e⟩
          · rw [List.mem_singleton] at hp; exact .inr (by rw [← e, hp])
        · rintro (⟨p, hp, e⟩ | e)
          · exact ⟨p, List.mem_append_left _ hp, e⟩
          · exact ⟨o, by simp, e.symm⟩
      rw [hx]
      split
      · rename_i hm
        constructor
        · exact .inl
        · rintro (g | g)
          · exact g
          · rw [g]; exact hm
      · simp
  unfold step1
  cases hg : getM o.1 sy with
  | none =>
    have hn := getM_none.1 hg
    have hl : ∀ p ∈ l, p.1 ≠ o.1 := fun p hp e => hn ((h.keys _).2 ⟨p, hp, e⟩)
    obtain ⟨k1, k2⟩ := hno _ o.2 rfl
    refine .inl ⟨_, rfl, k1, k2, fun x u hu p hp e => ?_, fun x u hu => ?_⟩
    · rw [getM_updM] at hu
      rcases List.mem_append.1 hp with hp | hp
      · have : o.1 ≠ x := fun g => hl p hp (e.trans g.symm)
        rw [if_neg this] at hu
        exact h.arity x u hu p hp e
      · rw [List.mem_singleton] at hp
        subst hp
        rw [if_pos e] at hu
        cases hu; rfl
    · rw [getM_updM] at hu
      by_cases e : o.1 = x
      · rw [if_pos e] at hu
        cases hu
        constructor
        · intro ht p hp ep
          rcases List.mem_append.1 hp with hp | hp
          · exact absurd (ep.trans e.symm) (hl p hp)
          · rw [List.mem_singleton] at hp; rw [hp]; exact ht
        · intro ht; exact ht o (by simp) e
      · rw [if_neg e] at hu
        rw [h.pos x u hu]
        constructor
        · intro ht p hp ep
          rcases List.mem_append.1 hp with hp | hp
          · exact ht p hp ep
          · rw [List.mem_singleton] at hp; rw [hp] at ep; exact absurd ep e
        · intro ht p hp ep; exact ht p (List.mem_append_left _ hp) ep
  | some w =>
    simp only
    by_cases ha : w.1 = o.2.1
    · rw [if_pos ha]
      obtain ⟨k1, k2⟩ := hno _ (o.2.1, o.2.2 && w.2) rfl
      refine .inl ⟨_, rfl, k1, k2, fun x u hu p hp e => ?_, fun x u hu => ?_⟩
      · rw [getM_updM] at hu
        by_cases ex : o.1 = x
        · rw [if_pos ex] at hu
          cases hu
          rcases List.mem_append.1 hp with hp | hp
          · rw [h.arity x w (by rw [← ex]; exact hg) p hp e, ha]
          · rw [List.mem_singleton] at hp; rw [hp]
        · rw [if_neg ex] at hu
          rcases List.mem_append.1 hp with hp | hp
          · exact h.arity x u hu p hp e
          · rw [List.mem_singleton] at hp; rw [hp] at e; exact absurd e ex
      · rw [getM_updM] at hu
        by_cases ex : o.1 = x
        · rw [if_pos ex] at hu
          cases hu
          have hw := h.pos x w (by rw [← ex]; exact hg)
          rw [Bool.and_eq_true, hw]
          constructor
          · rintro ⟨h1, h2⟩ p hp ep
            rcases List.mem_append.1 hp with hp | hp
            · exact h2 p hp ep
            · rw [List.mem_singleton] at hp; rw [hp]; exact h1
          · intro ht
            exact ⟨ht o (by simp) ex, fun p hp ep => ht p (List.mem_append_left _ hp) ep⟩
        · rw [if_neg ex] at hu
          rw [h.pos x u hu]
          constructor
          · intro ht p hp ep
            rcases List.mem_append.1 hp with hp | hp
            · exact ht p hp ep
            · rw [List.mem_singleton] at hp; rw [hp] at ep; exact absurd ep ex
          · intro ht p hp ep; exact ht p (List.mem_append_left _ hp) ep
    · rw [if_neg ha]
      have hm : o.1 ∈ keysM sy := Classical.byContradiction fun g => by rw [getM_none.2 g] at hg; cases hg
      obtain ⟨p, hp, e⟩ := (h.keys _).1 hm
      exact .inr ⟨rfl, p, hp, e, fun g => ha (by rw [← h.arity o.1 w hg p hp e, g])⟩

/-- Each name occurs with one arity. -/
def Agree (l : List (N × (Int × Bool))) : Prop := ∀ o ∈ l, ∀ p ∈ l, o.1 = p.1 → o.2.1 = p.2.1

theorem stepsM_says : ∀ (b : List (N × (Int × Bool))) {sy a : List (N × (Int × Bool))}, Says sy a → (∃ sy1, stepsM sy b = some sy1 ∧ Says sy1 (a ++ b)) ∨ (stepsM sy b = none ∧ ¬ Agree (a ++ b))
  | [], sy, a, h => .inl ⟨sy, rfl, by rw [List.append_nil]; exact h⟩
  | o :: l, sy, a, h => by
    rcases h.step o with ⟨sy1, e, h1⟩ | ⟨e, p, hp, e1, e2⟩
    · have ih := stepsM_says l h1
      rw [List.append_assoc] at ih
      simp only [stepsM, e, Option.bind_some]
      exact ih
    · refine .inr ⟨by simp only [stepsM, e]; rfl, fun g => e2 (g p (List.mem_append_left _ hp) o (List.mem_append_right _ (List.mem_cons_self ..)) e1)⟩

theorem Says.agree {sy l : List (N × (Int × Bool))} (h : Says sy l) : Agree l := fun o ho p hp e => by
  have hm : o.1 ∈ keysM sy := (h.keys _).2 ⟨o, ho, rfl⟩
  cases hg : getM o.1 sy with
  | none => exact absurd hm (getM_none.1 hg)
  | some u => rw [h.arity o.1 u hg o ho rfl, h.arity o.1 u hg p hp e.symm]

end Go.Proofs.YtmnpelhcgobfaaaDoor.Fo

/-
  Plain mathematics: the free variables that the walk over a formula finds; the reference's count; the theorem: the walk succeeds if and only if the reference says valid, and finds its size, depth, symbols and free variables.
-/
namespace Go.Proofs.YtmnpelhcgobfaaaDoor.Fo
variable {N : Type} [DecidableEq N]

mutual
/-- A variable is free in a formula. -/
def freeB (x : N) : F N → Bool
  | .mk _ _ _ vs ags ks => decide (x ∈ ags) || (!decide (x ∈ vs) && freeLB x ks)
def freeLB (x : N) : List (F N) → Bool
  | [] => false
  | f :: l => freeB x f || freeLB x l
end

theorem addFree_mem {vs : List N} {x : N} : ∀ (ags fr : List N), x ∈ addFree vs fr ags ↔ x ∈ fr ∨ (x ∈ ags ∧ x ∉ vs)
  | [], fr => by simp [addFree]
  | v :: l, fr => by
    rw [addFree, addFree_mem l]
    by_cases h : v ∈ vs ∨ v ∈ fr
    · rw [if_pos h]
      constructor
      · rintro (g | g)
        · exact .inl g
        · exact .inr ⟨List.mem_cons_of_mem _ g.1, g.2⟩
      · rintro (g | ⟨g, gv⟩)
        · exact .inl g
        · rcases List.mem_cons.1 g with e | g
          · subst e
            rcases h with h | h
            · exact absurd h gv
            · exact .inl h
          · exact .inr ⟨g, gv⟩
    · rw [if_neg h]
      have hv : v ∉ vs := fun g => h (.inl g)
      constructor
      · rintro (g | g)
        · rcases List.mem_append.1 g with g | g
          · exact .inl g
          · rw [List.mem_singleton] at g; subst g; exact .inr ⟨List.mem_cons_self .., hv⟩
        · exact .inr ⟨List.mem_cons_of_mem _ g.1, g.2⟩
      · rintro (g | ⟨g, gv⟩)
        · exact .inl (List.mem_append_left _ g)
        · rcases List.mem_cons.1 g with e | g
          · subst e; exact .inl (List.mem_append_right _ (by simp))
          · exact .inr ⟨g, gv⟩
theorem addFree_nodup {vs : List N} : ∀ (ags fr : List N), fr.Nodup → (addFree vs fr ags).Nodup
  | [], fr, h => h
  | v :: l, fr, h => by
    rw [addFree]
    refine addFree_nodup l _ ?_
    split
    · exact h
    · rename_i hn
      exact List.nodup_append.2 ⟨h, by simp, fun a ha b hb e => hn (.inr (by rw [List.mem_singleton] at hb; rw [← hb, ← e]; exact ha))⟩

section
variable {fit : Int → Int → N → List N → List N → Nat → Bool}
mutual
theorem freeW_mem (h0 : ∀ a n vs ags k, fit 0 a n vs ags k = true → k = 0) : ∀ (f : F N) (vs fr : List N) (x : N), shapes fit f = true → (x ∈ freeW f vs fr ↔ x ∈ fr ∨ (freeB x f = true ∧ x ∉ vs))
  | .mk k a n ws ags ks, vs, fr, x, hsh => by
    rw [shapes, Bool.and_eq_true] at hsh
    unfold freeW freeB
    by_cases hk : k = 0
    · subst hk
      have hks : ks = [] := List.length_eq_zero_iff.1 (h0 _ _ _ _ _ hsh.1)
      subst hks
      rw [if_pos rfl, addFree_mem]
      simp [freeLB]
    · rw [if_neg hk, freeWL_mem h0 ks _ _ x hsh.2, addFree_mem]
      simp only [List.mem_append, Bool.or_eq_true, Bool.and_eq_true, decide_eq_true_eq, Bool.not_eq_true', decide_eq_false_iff_not, not_or]
      constructor
      · rintro ((g | ⟨g, gv⟩) | ⟨g, g1, g2⟩)
        · exact .inl g
        · exact .inr ⟨.inl g, gv⟩
        · exact .inr ⟨.inr ⟨g1, g⟩, g2⟩
      · rintro (g | ⟨g | ⟨g1, g⟩, gv⟩)
        · exact .inl (.inl g)
        · exact .inl (.inr ⟨g, gv⟩)
        · exact .inr ⟨g, g1, gv⟩
theorem freeWL_mem (h0 : ∀ a n vs ags k, fit 0 a n vs ags k = true → k = 0) : ∀ (l : List (F N)) (vs fr : List N) (x : N), shapesL fit l = true → (x ∈ freeWL l vs fr ↔ x ∈ fr ∨ (freeLB x l = true ∧ x ∉ vs))
  | [], vs, fr, x, _ => by simp [freeWL, freeLB]
  | f :: l, vs, fr, x, hsh => by
    rw [shapesL, Bool.and_eq_true] at hsh
    rw [freeWL, freeWL_mem h0 l _ _ x hsh.2, freeW_mem h0 f _ _ x hsh.1, freeLB, Bool.or_eq_true]
    constructor
    · rintro ((g | ⟨g, gv⟩) | ⟨g, gv⟩)
      · exact .inl g
      · exact .inr ⟨.inl g, gv⟩
      · exact .inr ⟨.inr g, gv⟩
    · rintro (g | ⟨g | g, gv⟩)
      · exact .inl (.inl g)
      · exact .inl (.inr ⟨g, gv⟩)
      · exact .inr ⟨g, gv⟩
end
mutual
theorem freeW_nodup : ∀ (f : F N) (vs fr : List N), fr.Nodup → (freeW f vs fr).Nodup
  | .mk k a n ws ags ks, vs, fr, h => by
    unfold freeW
    split
    · exact addFree_nodup ags fr h
    · exact freeWL_nodup ks _ _ (addFree_nodup ags fr h)
theorem freeWL_nodup : ∀ (l : List (F N)) (vs fr : List N), fr.Nodup → (freeWL l vs fr).Nodup
  | [], vs, fr, h => h
  | f :: l, vs, fr, h => by
    rw [freeWL]
    exact freeWL_nodup l _ _ (freeW_nodup f vs fr h)
end

mutual
/-- The reference's count: it goes down so many levels. -/
def countF : F N → Nat → Nat × Nat
  | .mk _ _ _ _ _ ks, lv => if lv = 0 then (1, 1) else (1 + (countL ks (lv - 1)).1, (countL ks (lv - 1)).2 + 1)
def countL : List (F N) → Nat → Nat × Nat
  | [], _ => (0, 0)
  | f :: l, lv => ((countF f lv).1 + (countL l lv).1, max (countF f lv).2 (countL l lv).2)
end

omit [DecidableEq N] in
mutual
theorem countF_depth : ∀ (f : F N) (lv : Nat), (countF f lv).2 = min (depth f) (lv + 1)
  | .mk k a n vs ags ks, lv => by
    unfold countF depth
    by_cases h : lv = 0
    · rw [if_pos h]; subst h; omega
    · rw [if_neg h]
      have := countL_depth ks (lv - 1)
      simp only
      omega
theorem countL_depth : ∀ (l : List (F N)) (lv : Nat), (countL l lv).2 = min (depths l) (lv + 1)
  | [], lv => by simp [countL, depths]
  | f :: l, lv => by
    unfold countL depths
    have h1 := countF_depth f lv
    have h2 := countL_depth l lv
    simp only
    omega
end
omit [DecidableEq N] in
mutual
theorem countF_size : ∀ (f : F N) (lv : Nat), depth f ≤ lv + 1 → (countF f lv).1 = size f
  | .mk k a n vs ags ks, lv, hd => by
    unfold depth at hd
    unfold countF size
    by_cases h : lv = 0
    · rw [if_pos h]
      subst h
      cases ks with
      | nil => simp [sizes]
      | cons f l => have := depth_pos f; unfold depths at hd; omega
    · rw [if_neg h]
      have := countL_size ks (lv - 1) (by omega)
      simp only
      omega
theorem countL_size : ∀ (l : List (F N)) (lv : Nat), depths l ≤ lv + 1 → (countL l lv).1 = sizes l
  | [], lv, _ => by simp [countL, sizes]
  | f :: l, lv, hd => by
    unfold depths at hd
    unfold countL sizes
    have h1 := countF_size f lv (by omega)
    have h2 := countL_size l lv (by omega)
    simp only
    omega
end

/-- The reference's validity. -/
def Valid (fit : Int → Int → N → List N → List N → Nat → Bool) (f : F N) : Prop :=
  size f ≤ 4000 ∧ depth f ≤ 60 ∧ shapes fit f = true ∧ aritF f [] = true ∧ growF f = true ∧ Agree (occP f [] 0 0)

omit [DecidableEq N] in
/-- What the reference's count decides. -/
theorem count_fits (f : F N) : (4000 < (countF f 61).1 ∨ 60 < (countF f 61).2) ↔ ¬ (size f ≤ 4000 ∧ depth f ≤ 60) := by
  have h1 := countF_depth f 61
  by_cases h : depth f ≤ 60
  · have h2 := countF_size f 61 (by omega)
    omega
  · omega

theorem agree_occF (f : F N) : Agree (occP f [] 0 0) ↔ ∀ o ∈ occF f [], ∀ p ∈ occF f [], o.1 = p.1 → o.2 = p.2 := by
  rw [← occP_occF f [] 0 0]
  constructor
  · intro h o ho p hp e
    obtain ⟨a, ha, rfl⟩ := List.mem_map.1 ho
    obtain ⟨b, hb, rfl⟩ := List.mem_map.1 hp
    exact h a ha b hb e
  · intro h a ha b hb e
    exact h _ (List.mem_map.2 ⟨a, ha, rfl⟩) _ (List.mem_map.2 ⟨b, hb, rfl⟩) e

/-- The walk from the top. -/
def lookF (fit : Int → Int → N → List N → List N → Nat → Bool) (f : F N) : Option (St N) := walkF fit f 1 [] [] 0 0 ⟨0, 0, [], []⟩

theorem look_some (h0 : ∀ a n vs ags k, fit 0 a n vs ags k = true → k = 0) {f : F N} (h : Valid fit f) :
    ∃ sy fr, lookF fit f = some ⟨size f, depth f, sy, fr⟩ ∧ Says sy (occP f [] 0 0) ∧ fr.Nodup ∧ ∀ x, x ∈ fr ↔ freeB x f = true := by
  obtain ⟨h1, h2, h3, h4, h5, h6⟩ := h
  have hb : boundB f [] 0 0 = true := (boundB_iff h0 f [] 0 0 h3 (fun b hb => by cases hb)).2 ⟨h4, h5, fun nm b hf => by simp [findBd] at hf⟩
  have hdp := depth_pos f
  rw [lookF, walkF_eq h0 f 1 [] [] 0 0 ⟨0, 0, [], []⟩ (by simp), if_pos ⟨by simpa using h1, by omega, h3, hb⟩]
  rcases stepsM_says (occP f [] 0 0) Says.nil with ⟨sy, e, hs⟩ | ⟨-, hn⟩
  · simp only [List.map_nil, e, Option.map_some]
    refine ⟨sy, freeW f [] [], ?_, hs, freeW_nodup f [] [] List.nodup_nil, fun x => ?_⟩
    · have e2 : max 0 (1 + depth f - 1) = depth f := by omega
      simp only [Nat.zero_add, e2]
    · rw [freeW_mem h0 f [] [] x h3]; simp
  · exact absurd h6 hn

theorem look_none (h0 : ∀ a n vs ags k, fit 0 a n vs ags k = true → k = 0) {f : F N} (h : ¬ Valid fit f) : lookF fit f = none := by
  rw [lookF, walkF_eq h0 f 1 [] [] 0 0 ⟨0, 0, [], []⟩ (by simp)]
  by_cases hc : (0 : Nat) + size f ≤ 4000 ∧ 1 + depth f ≤ 61 ∧ shapes fit f = true ∧ boundB f [] 0 0 = true
  · rw [if_pos hc]
    obtain ⟨c1, c2, c3, c4⟩ := hc
    obtain ⟨g1, g2, -⟩ := (boundB_iff h0 f [] 0 0 c3 (fun b hb => by cases hb)).1 c4
    rcases stepsM_says (occP f [] 0 0) Says.nil with ⟨sy, e, hs⟩ | ⟨e, -⟩
    · exact absurd ⟨by omega, by omega, c3, g1, g2, hs.agree⟩ h
    · simp only [List.map_nil, e]; rfl
  · rw [if_neg hc]

/-- Positive, by the symbols found. -/
theorem look_pos {f : F N} {sy : List (N × (Int × Bool))} (h : Says sy (occP f [] 0 0)) (nm : N) :
    posF f nm false false = (match getM nm sy with | none => true | some u => u.2) := by
  have hp := posF_iff f [] 0 0 nm (by simp)
  have e1 : decide (0 % 2 ≠ 0) = false := by decide
  rw [e1] at hp
  cases hg : getM nm sy with
  | none =>
    refine hp.2 fun o ho e => ?_
    exact absurd ((h.keys nm).2 ⟨o, ho, e⟩) (getM_none.1 hg)
  | some u =>
    have := h.pos nm u hg
    rw [← hp] at this
    simp only
    cases hu : u.2 <;> cases hq : posF f nm false false <;> simp_all

end

end Go.Proofs.YtmnpelhcgobfaaaDoor.Fo

/-
  Plain mathematics: the fields that a formula's kind asks for, as the reference says them and as the program tests them.
-/
namespace Go.Proofs.YtmnpelhcgobfaaaDoor.Fo

def nmB (s : ByteArray) : Bool := Sh.nameB s.toList

/-- The reference's shape of one formula's fields. -/
def fitR (k a : Int) (n : ByteArray) (vs ags : List ByteArray) (nk : Nat) : Bool :=
  ags.all nmB && vs.all nmB && decide vs.Nodup && !(decide (12 < vs.length) && decide (k ≠ 10)) && !(decide (k ≠ 11) && decide (a ≠ 0)) &&
  (if k = 0 then nmB n && decide (nk + vs.length = 0) && decide (ags.length ≤ 12)
   else if k = 1 ∨ k = 2 then decide (n.toList = []) && decide (nk + vs.length = 0) && decide (ags.length = 2)
   else if k = 3 then decide (n.toList = []) && decide (nk = 1) && decide (vs.length + ags.length = 0)
   else if k = 4 ∨ k = 5 then decide (n.toList = []) && decide (vs.length + ags.length = 0)
   else if k = 6 ∨ k = 7 then decide (n.toList = []) && decide (nk = 1) && decide (0 < vs.length) && decide (ags.length = 0)
   else if k = 8 ∨ k = 9 then nmB n && decide (nk = 1) && decide (0 < vs.length) && decide (ags.length = vs.length)
   else if k = 10 then decide (n.toList = []) && decide (nk = 1) && decide (1 < vs.length) && decide (vs.length ≤ 24) && decide (vs.length % 2 = 0) && decide (ags.length = vs.length)
   else if k = 11 then nmB n && decide (nk = 1) && decide (vs.length + ags.length = 0) && decide (0 ≤ a) && decide (a ≤ 12)
   else false)

/-- The program's three tests. -/
def numbersB (k : Int) (vs ags nk : Nat) : Bool :=
  if k = 0 then decide (vs = 0) && decide (ags ≤ 12) && decide (nk = 0)
  else if k = 1 ∨ k = 2 then decide (vs = 0) && decide (ags = 2) && decide (nk = 0)
  else if k = 3 ∨ k = 11 then decide (vs = 0) && decide (ags = 0) && decide (nk = 1)
  else if k = 4 ∨ k = 5 then decide (vs = 0) && decide (ags = 0)
  else if k = 6 ∨ k = 7 then decide (1 ≤ vs) && decide (vs ≤ 12) && decide (ags = 0) && decide (nk = 1)
  else if k = 8 ∨ k = 9 then decide (1 ≤ vs) && decide (vs ≤ 12) && decide (ags = vs) && decide (nk = 1)
  else if k = 10 then decide (2 ≤ vs) && decide (vs ≤ 24) && decide (vs % 2 = 0) && decide (ags = vs) && decide (nk = 1)
  else false
def namedB (k a : Int) (n : ByteArray) : Bool :=
  if k = 11 then nmB n && decide (0 ≤ a) && decide (a ≤ 12)
  else if k = 0 ∨ bindsB k = true then nmB n && decide (a = 0)
  else decide (n.toList = []) && decide (a = 0)
def fitP (k a : Int) (n : ByteArray) (vs ags : List ByteArray) (nk : Nat) : Bool :=
  numbersB k vs.length ags.length nk && namedB k a n && ags.all nmB && vs.all nmB && decide vs.Nodup

theorem fit_kids {a : Int} {n : ByteArray} {vs ags : List ByteArray} {nk : Nat} (h : fitP 0 a n vs ags nk = true) : nk = 0 := by
  simp [fitP, numbersB] at h
  exact h.1.1.1.1.2

theorem fit_lp {k a : Int} {n : ByteArray} {vs ags : List ByteArray} {nk : Nat} (h : fitP k a n vs ags nk = true) (hk : k = 8 ∨ k = 9 ∨ k = 10 ∨ k = 11 ∨ k = 3 ∨ k = 6 ∨ k = 7) : nk = 1 := by
  simp only [fitP, Bool.and_eq_true] at h
  have h1 := h.1.1.1.1
  unfold numbersB at h1
  rcases hk with rfl | rfl | rfl | rfl | rfl | rfl | rfl <;> simp at h1 <;> omega

/-- The two agree. -/
theorem fit_eq (k a : Int) (n : ByteArray) (vs ags : List ByteArray) (nk : Nat) : fitR k a n vs ags nk = fitP k a n vs ags nk := by
  unfold fitR fitP
  cases ags.all nmB <;> cases vs.all nmB <;> cases decide vs.Nodup <;> simp only [Bool.false_and, Bool.and_false, Bool.true_and, Bool.and_true]
  generalize vs.length = v
  generalize ags.length = w
  unfold numbersB namedB bindsB
  rw [Bool.eq_iff_iff]
  generalize decide (n.toList = []) = q2
  generalize nmB n = q1
  by_cases k0 : k = 0
  · subst k0
    cases q1 <;> cases q2 <;> simp <;> omega
  by_cases k1 : k = 1
  · subst k1
    cases q1 <;> cases q2 <;> simp <;> omega
  by_cases k2 : k = 2
  · subst k2
    cases q1 <;> cases q2 <;> simp <;> omega
  by_cases k3 : k = 3
  · subst k3
    cases q1 <;> cases q2 <;> simp <;> omega
  by_cases k4 : k = 4
  · subst k4
    cases q1 <;> cases q2 <;> simp <;> omega
  by_cases k5 : k = 5
  · subst k5
    cases q1 <;> cases q2 <;> simp <;> omega
  by_cases k6 : k = 6
  · subst k6
    cases q1 <;> cases q2 <;> simp <;> omega
  by_cases k7 : k = 7
  · subst k7
    cases q1 <;> cases q2 <;> simp <;> omega
  by_cases k8 : k = 8
  · subst k8
    cases q1 <;> cases q2 <;> simp <;> omega
  by_cases k9 : k = 9
  · subst k9
    cases q1 <;> cases q2 <;> simp <;> omega
  by_cases k10 : k = 10
  · subst k10
    cases q1 <;> cases q2 <;> simp <;> omega
  by_cases k11 : k = 11
  · subst k11
    cases q1 <;> cases q2 <;> simp <;> omega
  simp [k0, k1, k2, k3, k4, k5, k6, k7, k8, k9, k10, k11]

end Go.Proofs.YtmnpelhcgobfaaaDoor.Fo

/-
  Plain mathematics: the grammar of formulas over a list of tokens: one function that reads a formula, or stops at the first token that cannot continue.
-/
namespace Go.Proofs.YtmnpelhcgobfaaaDoor.Fo

abbrev Bs := List UInt8
/-- A token: where it begins, and its bytes. -/
abbrev Tok := Nat × Bs
/-- What a reading gives: the value and the tokens left, or the tokens from the one on that cannot continue. -/
abbrev Rd (α : Type) := Except (List Tok) (α × List Tok)

def bnd {α β : Type} (x : Rd α) (f : α → List Tok → Rd β) : Rd β := match x with | .ok (a, r) => f a r | .error e => .error e

def takeT (p : Bs → Bool) : List Tok → Rd Bs
  | [] => .error []
  | t :: r => if p t.2 then .ok (t.2, r) else .error (t :: r)
def isT (s : Bs) (x : Bs) : Bool := decide (x = s)
def namesT (stop : Bs) : List Tok → Rd (List ByteArray)
  | [] => .error []
  | t :: r => if Sh.nameB t.2 then bnd (namesT stop r) fun l r' => .ok (⟨t.2.toArray⟩ :: l, r') else if t.2 = stop then .ok ([], r) else .error (t :: r)

/-- A number of one or two digits without a leading zero. -/
def numB (l : Bs) : Bool := (l.all fun c => Sh.digitB c.toNat) && (decide (l.length = 1) || (decide (l.length = 2) && decide (l.getD 0 0 ≠ 48)))
def numI (l : Bs) : Int := l.foldl (fun n c => 10 * n + ((c.toNat : Int) - 48)) 0
def numT : List Tok → Rd Int
  | ts => bnd (takeT numB ts) fun l r => .ok (numI l, r)

/-- The kind that a word opens. -/
def wordK (l : Bs) : Option Int :=
  if l = [110, 111, 116] then some 3 else if l = [97, 110, 100] then some 4 else if l = [111, 114] then some 5
  else if l = [115, 111, 109, 101] then some 6 else if l = [97, 108, 108] then some 7 else if l = [108, 102, 112] then some 8
  else if l = [112, 102, 112] then some 9 else if l = [116, 99] then some 10 else if l = [101, 120, 105, 115, 116, 115] then some 11 else none

abbrev Fb := F ByteArray
def noName : ByteArray := ⟨#[]⟩
def optT {α : Type} (c : Bool) (dflt : α) (x : List Tok → Rd α) (ts : List Tok) : Rd α := if c then x ts else .ok (dflt, ts)

/-- What follows the name with which an atom begins. -/
def atomT (nm : Bs) : List Tok → Rd Fb
  | [] => .error []
  | t :: r =>
    if t.2 = [61] then bnd (takeT Sh.nameB r) fun y r' => .ok (.mk 1 0 noName [] [⟨nm.toArray⟩, ⟨y.toArray⟩] [], r')
    else if t.2 = [60] then bnd (takeT Sh.nameB r) fun y r' => .ok (.mk 2 0 noName [] [⟨nm.toArray⟩, ⟨y.toArray⟩] [], r')
    else if t.2 = [40] then bnd (namesT [41] r) fun l r' => .ok (.mk 0 0 ⟨nm.toArray⟩ [] l [], r')
    else .error (t :: r)

def headT (k : Int) (ts : List Tok) : Rd (ByteArray × Int × List ByteArray) :=
  bnd (optT (bindsB k) noName (fun ts => bnd (takeT Sh.nameB ts) fun x r => .ok (⟨x.toArray⟩, r)) ts) fun nm r =>
  bnd (optT (decide (k = 11)) 0 (fun ts => bnd (numT ts) fun a r => bnd (takeT (isT [58]) r) fun _ r => .ok (a, r)) r) fun a r =>
  bnd (optT (decide (k = 6 ∨ k = 7 ∨ k = 8 ∨ k = 9 ∨ k = 10)) [] (namesT [58]) r) fun vs r =>
  .ok ((nm, a, vs), r)
def tailT (k : Int) (ts : List Tok) : Rd (List ByteArray) :=
  optT (decide (k = 8 ∨ k = 9 ∨ k = 10)) [] (fun ts => bnd (takeT (isT [40]) ts) fun _ r => namesT [41] r) ts

/-- The kids of a conjunction or a disjunction, with the bracket behind them. -/
def listT (kids : List Tok → Rd (List Fb)) : List Tok → Rd (List Fb)
  | [] => .error []
  | t :: r => if t.2 = [41] then .ok ([], r) else kids (t :: r)

mutual
def formT : Nat → List Tok → Rd Fb
  | 0, ts => .error ts
  | _ + 1, [] => .error []
  | n + 1, t :: r =>
    if Sh.nameB t.2 then atomT t.2 r
    else if t.2 = [116, 114, 117, 101] then .ok (.mk 4 0 noName [] [] [], r)
    else if t.2 = [102, 97, 108, 115, 101] then .ok (.mk 5 0 noName [] [] [], r)
    else match wordK t.2 with
      | none => .error (t :: r)
      | some k => bnd (takeT (isT [40]) r) fun _ r =>
        if k = 4 ∨ k = 5 then bnd (listT (kidsT n) r) fun l r => .ok (.mk k 0 noName [] [] l, r)
        else bnd (headT k r) fun h r => bnd (formT n r) fun f r => bnd (takeT (isT [41]) r) fun _ r => bnd (tailT k r) fun ags r => .ok (.mk k h.2.1 h.1 h.2.2 ags [f], r)
def kidsT : Nat → List Tok → Rd (List Fb)
  | 0, ts => .error ts
  | n + 1, ts => bnd (formT n ts) fun f r => match r with
    | [] => .error []
    | t :: r' => if t.2 = [41] then .ok ([f], r') else if t.2 = [44] then bnd (kidsT n r') fun l r => .ok (f :: l, r) else .error (t :: r')
end

theorem bnd_ok {α β : Type} {x : Rd α} {f : α → List Tok → Rd β} {y : β × List Tok} : bnd x f = .ok y ↔ ∃ a r, x = .ok (a, r) ∧ f a r = .ok y := by
  unfold bnd
  cases x with
  | error e => simp
  | ok p =>
    obtain ⟨a, r⟩ := p
    constructor
    · intro h; exact ⟨a, r, rfl, h⟩
    · rintro ⟨b, q, e, h⟩; cases e; exact h
theorem bnd_congr {α β : Type} {x : Rd α} {f g : α → List Tok → Rd β} (h : ∀ a r, x = .ok (a, r) → f a r = g a r) : bnd x f = bnd x g := by
  unfold bnd
  cases x with
  | error e => rfl
  | ok p => exact h p.1 p.2 rfl

/-- What is left is shorter by so many. -/
def Less {α : Type} (x : Rd α) (k : Nat) : Prop := ∀ a r, x = .ok (a, r) → r.length ≤ k
theorem Less.mono {α : Type} {x : Rd α} {k l : Nat} (h : Less x k) (hk : k ≤ l) : Less x l := fun a r e => Nat.le_trans (h a r e) hk
theorem Less.bnd {α β : Type} {x : Rd α} {f : α → List Tok → Rd β} {k l : Nat} (h : Less x k) (hf : ∀ a r, r.length ≤ k → Less (f a r) l) : Less (bnd x f) l := fun b q e => by
  obtain ⟨a, r, e1, e2⟩ := bnd_ok.1 e
  exact hf a r (h a r e1) b q e2
theorem Less.ok {α : Type} (a : α) (r : List Tok) : Less (.ok (a, r)) r.length := fun b q e => by cases e; exact Nat.le_refl _
theorem Less.error {α : Type} (r : List Tok) (k : Nat) : Less (α := α) (.error r) k := fun b q e => by cases e

theorem takeT_less (p : Bs → Bool) : ∀ ts, Less (takeT p ts) (ts.length - 1)
  | [] => Less.error _ _
  | t :: r => by
    simp only [takeT]
    split
    · exact (Less.ok _ r).mono (by simp)
    · exact Less.error _ _
theorem takeT_pos {p : Bs → Bool} {ts : List Tok} {x : Bs × List Tok} (h : takeT p ts = .ok x) : 0 < ts.length := by
  cases ts with
  | nil => cases h
  | cons t r => simp
theorem namesT_less (stop : Bs) : ∀ ts, Less (namesT stop ts) (ts.length - 1)
  | [] => Less.error _ _
  | t :: r => by
    unfold namesT
    split
    · exact (namesT_less stop r).bnd fun l r' h => (Less.ok _ r').mono (by simp; omega)
    · split
      · exact (Less.ok _ r).mono (by simp)
      · exact Less.error _ _
theorem numT_less (ts : List Tok) : Less (numT ts) (ts.length - 1) := (takeT_less _ ts).bnd fun _ r h => (Less.ok _ r).mono h
theorem optT_less {α : Type} (c : Bool) (d : α) (x : List Tok → Rd α) (ts : List Tok) (h : Less (x ts) ts.length) : Less (optT c d x ts) ts.length := by
  unfold optT
  split
  · exact h
  · exact Less.ok _ _
theorem atomT_less (nm : Bs) : ∀ ts, Less (atomT nm ts) (ts.length - 1)
  | [] => Less.error _ _
  | t :: r => by
    simp only [atomT]
    split
    · exact (takeT_less _ r).bnd fun l r' h => (Less.ok _ r').mono (by simp; omega)
    · split
      · exact (takeT_less _ r).bnd fun l r' h => (Less.ok _ r').mono (by simp; omega)
      · split
        · exact (namesT_less _ r).bnd fun l r' h => (Less.ok _ r').mono (by simp; omega)
        · exact Less.error _ _
theorem headT_less (k : Int) (ts : List Tok) : Less (headT k ts) ts.length := by
  unfold headT
  refine (optT_less _ _ _ _ ((takeT_less _ ts).bnd fun x r h => (Less.ok _ r).mono (show r.length ≤ ts.length by omega))).bnd fun nm r h => ?_
  refine ((optT_less _ _ _ _ ((numT_less r).bnd fun a r1 h1 => (takeT_less _ r1).bnd fun _ r2 h2 => (Less.ok _ r2).mono (show r2.length ≤ r.length by omega))).mono h).bnd fun a r1 h1 => ?_
  refine ((optT_less _ _ _ _ ((namesT_less _ r1).mono (by omega))).mono h1).bnd fun vs r2 h2 => ?_
  exact (Less.ok _ r2).mono h2
theorem tailT_less (k : Int) (ts : List Tok) : Less (tailT k ts) ts.length := by
  unfold tailT
  exact optT_less _ _ _ _ ((takeT_less _ ts).bnd fun x r h => (namesT_less _ r).mono (show r.length - 1 ≤ ts.length by omega))

mutual
theorem formT_less : ∀ (n : Nat) (ts : List Tok), Less (formT n ts) (ts.length - 1)
  | 0, ts => by unfold formT; exact Less.error _ _
  | n + 1, [] => by unfold formT; exact Less.error _ _
  | n + 1, t :: r => by
    unfold formT
    split
    · exact (atomT_less _ r).mono (by simp)
    · split
      · exact (Less.ok _ r).mono (by simp)
      · split
        · exact (Less.ok _ r).mono (by simp)
        · split
          · exact Less.error _ _
          · refine (takeT_less _ r).bnd fun _ r1 h1 => ?_
            split
            · refine Less.bnd (k := r1.length) ?_ fun l r2 h2 => (Less.ok _ r2).mono (by simp; omega)
              cases r1 with
              | nil => exact Less.error _ _
              | cons t2 r2 =>
                simp only [listT]
                split
                · exact (Less.ok _ r2).mono (by simp)
                · exact (kidsT_less n (t2 :: r2)).mono (by simp)
            · refine (headT_less _ r1).bnd fun h r2 h2 => (formT_less n r2).bnd fun f r3 h3 => (takeT_less _ r3).bnd fun _ r4 h4 => (tailT_less _ r4).bnd fun ags r5 h5 => (Less.ok _ r5).mono ?_
              simp; omega
theorem kidsT_less : ∀ (n : Nat) (ts : List Tok), Less (kidsT n ts) (ts.length - 1)
  | 0, ts => by unfold kidsT; exact Less.error _ _
  | n + 1, ts => by
    unfold kidsT
    refine (formT_less n ts).bnd fun f r h => ?_
    cases r with
    | nil => exact Less.error _ _
    | cons t r' =>
      simp only [List.length_cons] at h
      simp only
      split
      · exact (Less.ok _ r').mono (by omega)
      · split
        · exact (kidsT_less n r').bnd fun l r2 h2 => (Less.ok _ r2).mono (by omega)
        · exact Less.error _ _
end

mutual
/-- More fuel than tokens changes nothing. -/
theorem formT_fuel : ∀ (n m : Nat) (ts : List Tok), ts.length + 1 ≤ n → n ≤ m → formT m ts = formT n ts
  | 0, m, ts, h, _ => by omega
  | n + 1, 0, ts, _, h => by omega
  | n + 1, m + 1, [], _, _ => by unfold formT; rfl
  | n + 1, m + 1, t :: r, h, hm => by
    simp only [List.length_cons] at h
    unfold formT
    split
    · rfl
    · split
      · rfl
      · split
        · rfl
        · split
          · rfl
          · rename_i k _
            refine bnd_congr fun _ r1 e1 => ?_
            have h1 := takeT_less _ r _ r1 e1
            have h1p := takeT_pos e1
            split
            · have hl : listT (kidsT m) r1 = listT (kidsT n) r1 := by
                cases r1 with
                | nil => rfl
                | cons t2 r2 =>
                  simp only [listT]
                  split
                  · rfl
                  · exact kidsT_fuel n m (t2 :: r2) (by omega) (by omega)
              rw [hl]
            · refine bnd_congr fun hd r2 e2 => ?_
              have h2 := headT_less k r1 hd r2 e2
              rw [formT_fuel n m r2 (by omega) (by omega)]
theorem kidsT_fuel : ∀ (n m : Nat) (ts : List Tok), ts.length + 2 ≤ n → n ≤ m → kidsT m ts = kidsT n ts
  | 0, m, ts, h, _ => by omega
  | n + 1, 0, ts, _, h => by omega
  | n + 1, m + 1, ts, h, hm => by
    unfold kidsT
    rw [formT_fuel n m ts (by omega) (by omega)]
    refine bnd_congr fun f r e => ?_
    have h1 := formT_less n ts f r e
    cases r with
    | nil => rfl
    | cons t r' =>
      simp only [List.length_cons] at h1
      simp only
      split
      · rfl
      · split
        · rw [kidsT_fuel n m r' (by omega) (by omega)]
        · rfl
end

end Go.Proofs.YtmnpelhcgobfaaaDoor.Fo

/-
  Plain mathematics: the tokens of a text, read one after the other; what Parse gives.
-/
namespace Go.Proofs.YtmnpelhcgobfaaaDoor.Fo

def blankB (c : UInt8) : Bool := decide (c = 32 ∨ c = 10)
/-- The bytes behind the first one that belong to its token. -/
def moreT (c : UInt8) (l : Bs) : Bs := if Sh.alnumB c then l.takeWhile Sh.alnumB else []
/-- The tokens of a text, the first byte of which has the index i; n bounds the bytes. -/
def toksN : Nat → Nat → Bs → List Tok
  | 0, _, _ => []
  | _ + 1, _, [] => []
  | n + 1, i, c :: l => if blankB c then toksN n (i + 1) l else (i, c :: moreT c l) :: toksN n (i + 1 + (moreT c l).length) (l.drop (moreT c l).length)

theorem toksN_fuel : ∀ (n m i : Nat) (l : Bs), l.length ≤ n → n ≤ m → toksN m i l = toksN n i l
  | 0, 0, i, l, _, _ => rfl
  | 0, m + 1, i, l, h, _ => by
    obtain rfl : l = [] := List.length_eq_zero_iff.1 (by omega)
    rfl
  | n + 1, 0, i, l, _, h => by omega
  | n + 1, m + 1, i, [], _, _ => rfl
  | n + 1, m + 1, i, c :: l, h, hm => by
    simp only [List.length_cons] at h
    simp only [toksN]
    rw [toksN_fuel n m (i + 1) l (by omega) (by omega), toksN_fuel n m _ (l.drop (moreT c l).length) (by rw [List.length_drop]; omega) (by omega)]
def toks (i : Nat) (l : Bs) : List Tok := toksN l.length i l

theorem toks_nil (i : Nat) : toks i [] = [] := rfl
theorem toks_blank {i : Nat} {c : UInt8} {l : Bs} (h : blankB c = true) : toks i (c :: l) = toks (i + 1) l := by
  simp only [toks, List.length_cons, toksN]
  rw [if_pos h]
theorem toks_cons {i : Nat} {c : UInt8} {l : Bs} (h : blankB c = false) : toks i (c :: l) = (i, c :: moreT c l) :: toks (i + 1 + (moreT c l).length) (l.drop (moreT c l).length) := by
  simp only [toks, List.length_cons, toksN]
  rw [if_neg (by simp [h]), toksN_fuel _ l.length _ _ (Nat.le_refl _) (by rw [List.length_drop]; omega)]

/-- The tokens from an index on. -/
def toksAt (s : Bs) (i : Nat) : List Tok := toks i (s.drop i)
theorem toksAt_end {s : Bs} {i : Nat} (h : s.length ≤ i) : toksAt s i = [] := by
  unfold toksAt; rw [List.drop_eq_nil_of_le h]; rfl
theorem toksAt_blank {s : Bs} {i : Nat} (hi : i < s.length) (h : blankB s[i] = true) : toksAt s i = toksAt s (i + 1) := by
  unfold toksAt; rw [List.drop_eq_getElem_cons hi, toks_blank h]
theorem toksAt_cons {s : Bs} {i : Nat} (hi : i < s.length) (h : blankB s[i] = false) : toksAt s i = (i, s[i] :: moreT s[i] (s.drop (i + 1))) :: toksAt s (i + 1 + (moreT s[i] (s.drop (i + 1))).length) := by
  unfold toksAt
  rw [List.drop_eq_getElem_cons hi, toks_cons h, List.drop_drop]

/-- A formula read from tokens, whatever fuel suffices. -/
def formF (ts : List Tok) : Rd Fb := formT (ts.length + 1) ts
def kidsF (ts : List Tok) : Rd (List Fb) := kidsT (ts.length + 2) ts
theorem formT_eq {n : Nat} {ts : List Tok} (h : ts.length + 1 ≤ n) : formT n ts = formF ts := formT_fuel _ n ts (Nat.le_refl _) h
theorem kidsT_eq {n : Nat} {ts : List Tok} (h : ts.length + 2 ≤ n) : kidsT n ts = kidsF ts := kidsT_fuel _ n ts (Nat.le_refl _) h

theorem formF_nil : formF [] = .error [] := rfl
theorem listT_len {n : Nat} {r : List Tok} (h : r.length + 2 ≤ n) : listT (kidsT n) r = listT kidsF r := by
  cases r with
  | nil => rfl
  | cons t q =>
    simp only [listT]
    rw [kidsT_eq h]
theorem formF_cons (t : Tok) (r : List Tok) : formF (t :: r) =
    if Sh.nameB t.2 then atomT t.2 r
    else if t.2 = [116, 114, 117, 101] then .ok (.mk 4 0 noName [] [] [], r)
    else if t.2 = [102, 97, 108, 115, 101] then .ok (.mk 5 0 noName [] [] [], r)
    else match wordK t.2 with
      | none => .error (t :: r)
      | some k => bnd (takeT (isT [40]) r) fun _ r =>
        if k = 4 ∨ k = 5 then bnd (listT kidsF r) fun l r => .ok (.mk k 0 noName [] [] l, r)
        else bnd (headT k r) fun h r => bnd (formF r) fun f r => bnd (takeT (isT [41]) r) fun _ r => bnd (tailT k r) fun ags r => .ok (.mk k h.2.1 h.1 h.2.2 ags [f], r) := by
  rw [formF, List.length_cons]
  rw [formT]
  split
  · rfl
  · split
    · rfl
    · split
      · rfl
      · cases hk : wordK t.2 with
        | none => rfl
        | some k =>
          refine bnd_congr fun _ r1 e1 => ?_
          have h1 := takeT_less _ r _ r1 e1
          have h1p := takeT_pos e1
          split
          · rw [listT_len (by omega)]
          · refine bnd_congr fun hd r2 e2 => ?_
            have h2 := headT_less k r1 hd r2 e2
            rw [formT_eq (by omega)]
theorem kidsF_eq (ts : List Tok) : kidsF ts = bnd (formF ts) fun f r => match r with
    | [] => .error []
    | t :: r' => if t.2 = [41] then .ok ([f], r') else if t.2 = [44] then bnd (kidsF r') fun l r => .ok (f :: l, r) else .error (t :: r') := by
  rw [kidsF, kidsT, formT_eq (Nat.le_refl _)]
  refine bnd_congr fun f r e => ?_
  have h1 := formT_less _ ts f r e
  cases r with
  | nil => rfl
  | cons t r' =>
    simp only [List.length_cons] at h1
    simp only
    split
    · rfl
    · split
      · rw [kidsT_eq (by omega)]
      · rfl

/-- Where a reading stands still. -/
def atT (len : Nat) : List Tok → Nat
  | [] => len
  | t :: _ => t.1
/-- What is read of a text: a formula, or the index of the first token that cannot continue. -/
def readF (s : Bs) : Except Nat Fb :=
  match formF (toksAt s 0) with
  | .error ts => .error (atT s.length ts)
  | .ok (f, ts) => if ts = [] then .ok f else .error (atT s.length ts)

end Go.Proofs.YtmnpelhcgobfaaaDoor.Fo

/-
  Walks: numbers and kinds of tokens, as package formula reads them.
-/
namespace Go.Proofs.YtmnpelhcgobfaaaDoor
open Go.RowKit

def digB (c : UInt8) : Bool := Sh.digitB c.toNat

theorem numB_of {s : ByteArray} (h1 : s.size = 1) (ha : s.toList.all digB = true) : Fo.numB s.toList = true := by
  have hl := length_bytes s
  unfold Fo.numB
  rw [show (s.toList.all fun c => Sh.digitB c.toNat) = true from ha, decide_eq_true (show s.toList.length = 1 by omega)]; rfl
theorem numB_two {s : ByteArray} (h1 : s.size = 2) (ha : s.toList.all digB = true) : Fo.numB s.toList = decide (s[0] ≠ 48) := by
  have hl := length_bytes s
  have hc : s.toList.getD 0 0 = s[0] := getD_bytes s 0 (by omega)
  unfold Fo.numB
  rw [show (s.toList.all fun c => Sh.digitB c.toNat) = true from ha, decide_eq_false (show ¬ s.toList.length = 1 by omega), decide_eq_true (show s.toList.length = 2 by omega), hc]; rfl
theorem numB_long {s : ByteArray} (h1 : s.size ≠ 1) (h2 : s.size ≠ 2) : Fo.numB s.toList = false := by
  have hl := length_bytes s
  unfold Fo.numB
  rw [decide_eq_false (show ¬ s.toList.length = 1 by omega), decide_eq_false (show ¬ s.toList.length = 2 by omega)]; simp
theorem numB_not {s : ByteArray} (ha : s.toList.all digB = false) : Fo.numB s.toList = false := by
  unfold Fo.numB
  rw [show (s.toList.all fun c => Sh.digitB c.toNat) = false from ha]; rfl

set_option maxRecDepth 100000 in
set_option maxHeartbeats 400000 in
theorem fnumber_any (s : ByteArray) (w : World) (hs : s.size ≤ 140737488351232) :
    Calls Tryd.prog 60 #[.string s] w fun e w' => e = .returned (.bool (Fo.numB s.toList)) ∧ Below w.heap.size w w' := by
  have h1x : s.size = 1 → s.toList.all digB = true → Fo.numB s.toList = true := numB_of
  have H1 := Lib.hid h1x; clear h1x
  have h3x : s.size ≠ 1 → s.size ≠ 2 → Fo.numB s.toList = false := numB_long
  have H3 := Lib.hid h3x; clear h3x
  have h4x : s.toList.all digB = false → Fo.numB s.toList = false := numB_not
  have H4 := Lib.hid h4x; clear h4x
  have h2x : ∀ h : s.size = 2, s.toList.all digB = true → Fo.numB s.toList = decide (s[0] ≠ 48) := fun h ha => numB_two h ha
  have H2 := Lib.hid h2x; clear h2x
  have hl := length_bytes s
  have hconv := conv_bytes s
  go_enter Tryd.func60, Tryd.ntmps60
  go_wp2
  have hcell : ∀ k, k < s.size → (Lib.bytesWorld w 5 s).cell? ⟨w.heap.size, k, none⟩ = some (.int .u8 ((s.toList.getD k 0).toNat : Nat)) := fun k hk => by
    rw [Lib.bytesWorld_cell w _ s k hk, ByteArray.toList_eq]
  have hbel := bytesWorld_below w 5 s
  generalize Lib.bytesWorld w 5 s = W at *
  have Hcell := Lib.hid hcell; clear hcell hconv
  have Hbel := Lib.hid hbel; clear hbel
  have Hl := Lib.hid hl; clear hl
  go_loop [8] (fun i => ∃ k : Nat, k ≤ s.size ∧ i = .int .i64 k ∧ (s.toList.take k).all digB = true) (fun i => s.size - (intOf i).toNat)
  case atStart => exact ⟨0, Nat.zero_le _, rfl, by simp⟩
  case round =>
    obtain ⟨k, hk, rfl, hall⟩ := hrel
    have Hall := Lib.hid hall; clear hall
    by_cases hlt : k < s.size
    · have hc := Hcell.out k hlt
      have hts := all_take_succ digB 0 s.toList k (by rw [Hl.out]; omega)
      have hfalse := all_of_take digB 0 s.toList k (by rw [Hl.out]; omega)
      rw [Hall.out, Bool.true_and] at hts
      generalize s.toList.getD k 0 = x at *
      have Hts := Lib.hid hts; clear hts
      have Hfa := Lib.hid hfalse; clear hfalse
      cases hdx : Sh.digitB x.toNat
      · have Hdx := Lib.hid hdx; clear hdx
        go_wp2_with (go_at_call 46; refine (fdigit_any _ _).mono ?_; rw [Hdx.out]; rintro e w' ⟨rfl, rfl⟩)
        go_ret
        exact ⟨ret_bool (H4.out (Hfa.out Hdx.out)).symm, Hbel.out⟩
      · have Hdx := Lib.hid hdx; clear hdx
        go_wp2_with (go_at_call 46; refine (fdigit_any _ _).mono ?_; rw [Hdx.out]; rintro e w' ⟨rfl, rfl⟩)
        go_round
        case rel => exact ⟨k + 1, by omega, by go_num, by rw [Hts.out]; exact Hdx.out⟩
        case measure => simp [intOf]; omega
    · have hall : s.toList.all digB = true := by
        have := Hall.out
        rwa [List.take_of_length_le (by rw [Hl.out]; omega)] at this
      have Ha := Lib.hid hall; clear hall
      obtain rfl : k = s.size := by omega
      clear hlt hk
      by_cases h1 : s.size = 1
      · have hv := H1.out h1 Ha.out
        have Hv := Lib.hid hv; clear hv
        go_wp2
        go_ret
        exact ⟨ret_bool Hv.out.symm, Hbel.out⟩
      · by_cases h2 : s.size = 2
        · have hv := H2.out h2 Ha.out
          have hpos : 0 < s.size := by omega
          have hu : (s[0] = 48) ↔ s[0].toNat = 48 := ⟨fun h => by rw [h]; rfl, fun h => UInt8.toNat_inj.1 h⟩
          by_cases h48 : s[0].toNat = 48
          · rw [show decide (s[0] ≠ 48) = false from decide_eq_false (fun h => h (hu.2 h48))] at hv
            have Hv := Lib.hid hv; clear hv hu
            go_wp2
            go_ret
            exact ⟨ret_bool Hv.out.symm, Hbel.out⟩
          · rw [show decide (s[0] ≠ 48) = true from decide_eq_true (fun h => h48 (hu.1 h))] at hv
            have Hv := Lib.hid hv; clear hv hu
            go_wp2
            go_ret
            exact ⟨ret_bool (by rw [Hv.out]; simp; omega), Hbel.out⟩
        · have hv := H3.out h1 h2
          have Hv := Lib.hid hv; clear hv
          go_wp2
          go_ret
          exact ⟨ret_bool (by rw [Hv.out]; simp; omega), Hbel.out⟩

def nameK : ByteArray := ⟨#[97, 32, 110, 97, 109, 101]⟩
def numK : ByteArray := ⟨#[97, 32, 110, 117, 109, 98, 101, 114]⟩
def noK : ByteArray := ⟨#[110, 111, 32, 116, 111, 107, 101, 110]⟩
def endK : ByteArray := ⟨#[116, 104, 101, 32, 101, 110, 100]⟩
/-- The kind of a token of letters and digits. -/
def kindS (s : ByteArray) : ByteArray := if Sh.wordB s.toList then s else if Sh.nameB s.toList then nameK else if Fo.numB s.toList then numK else noK
theorem ret_kind {s k : ByteArray} (h : kindS s = k) : Ending.returned (.string k) = .returned (.string (kindS s)) := by rw [h]

set_option maxRecDepth 100000 in
set_option maxHeartbeats 400000 in
theorem fclassify_any (s : ByteArray) (w : World) (hs : s.size ≤ 140737488351232) :
    Calls Tryd.prog 47 #[.string s] w fun e w' => e = .returned (.string (kindS s)) ∧ Below w.heap.size w w' := by
  cases h1 : Sh.wordB s.toList
  · cases h2 : Sh.nameB s.toList
    · cases h3 : Fo.numB s.toList
      · have hk : kindS s = noK := by unfold kindS; rw [h1, h2, h3]; rfl
        have H1 := Lib.hid h1; have H2 := Lib.hid h2; have H3 := Lib.hid h3; have Hk := Lib.hid hk; clear h1 h2 h3 hk
        go_enter Tryd.func47, Tryd.ntmps47
        go_wp2_with (first | (go_at_call 58; refine (freserved_any _ _).mono ?_; rw [H1.out]; rintro e w' ⟨rfl, rfl⟩) | (go_at_call 59; refine (fname_any _ _ hs).mono ?_; rw [H2.out]; rintro e w1 ⟨rfl, hb1⟩) | (go_at_call 60; refine (fnumber_any _ _ hs).mono ?_; rw [H3.out]; rintro e w2 ⟨rfl, hb2⟩))
        go_ret
        exact ⟨ret_kind Hk.out, hb1.trans (hb2.mono hb1.size)⟩
      · have hk : kindS s = numK := by unfold kindS; rw [h1, h2, h3]; rfl
        have H1 := Lib.hid h1; have H2 := Lib.hid h2; have H3 := Lib.hid h3; have Hk := Lib.hid hk; clear h1 h2 h3 hk
        go_enter Tryd.func47, Tryd.ntmps47
        go_wp2_with (first | (go_at_call 58; refine (freserved_any _ _).mono ?_; rw [H1.out]; rintro e w' ⟨rfl, rfl⟩) | (go_at_call 59; refine (fname_any _ _ hs).mono ?_; rw [H2.out]; rintro e w1 ⟨rfl, hb1⟩) | (go_at_call 60; refine (fnumber_any _ _ hs).mono ?_; rw [H3.out]; rintro e w2 ⟨rfl, hb2⟩))
        go_ret
        exact ⟨ret_kind Hk.out, hb1.trans (hb2.mono hb1.size)⟩
    · have hk : kindS s = nameK := by unfold kindS; rw [h1, h2]; rfl
      have H1 := Lib.hid h1; have H2 := Lib.hid h2; have Hk := Lib.hid hk; clear h1 h2 hk
      go_enter Tryd.func47, Tryd.ntmps47
      go_wp2_with (first | (go_at_call 58; refine (freserved_any _ _).mono ?_; rw [H1.out]; rintro e w' ⟨rfl, rfl⟩) | (go_at_call 59; refine (fname_any _ _ hs).mono ?_; rw [H2.out]; rintro e w1 ⟨rfl, hb1⟩))
      go_ret
      exact ⟨ret_kind Hk.out, hb1⟩
  · have hk : kindS s = s := by unfold kindS; rw [h1]; rfl
    have H1 := Lib.hid h1; have Hk := Lib.hid hk; clear h1 hk
    go_enter Tryd.func47, Tryd.ntmps47
    go_wp2_with (first | (go_at_call 58; refine (freserved_any _ _).mono ?_; rw [H1.out]; rintro e w' ⟨rfl, rfl⟩))
    go_ret
    exact ⟨ret_kind Hk.out, Below.refl _ _⟩

end Go.Proofs.YtmnpelhcgobfaaaDoor
