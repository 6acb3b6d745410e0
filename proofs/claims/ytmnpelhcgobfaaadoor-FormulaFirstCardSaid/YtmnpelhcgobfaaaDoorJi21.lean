/-
  Texts joined: Ffirst2, Ffirw, Ffirm, Fclose.
-/
import Derived.Test.YtmnpelhcgobfaaaDoorJi20
import Derived.Test.YtmnpelhcgobfaaaDoorJi19
import Derived.Test.YtmnpelhcgobfaaaDoorJi18
import Derived.Deep.RegionLaw
import Derived.Test.YtmnpelhcgobfaaaDoorCards
import Derived.Test.YtmnpelhcgobfaaaDoorTie
import Derived.WalkKit
import Derived.ProofKit
import Derived.OpenShut
import Derived.Deep.DeepHandedRow
import Derived.Deep.DeepWitnessRowRef
import Derived.Stop.LaidErr
import Derived.Lay
import Derived.Carry
import Derived.SizedLaws
import Derived.ChangeSlices
import Derived.Lib.SmallJoins

/-
  Plain mathematics: a text that Parse refuses is refused at the same index whatever follows the token there, and the text before it is a formula or the beginning of one.
-/
namespace Go.Proofs.YtmnpelhcgobfaaaDoor.Fo

/-- What a reading leaves is an end of what it was given. -/
def Suf {α : Type} (x : List Tok → Rd α) : Prop := ∀ ts, (∀ a r, x ts = .ok (a, r) → r <:+ ts) ∧ (∀ e, x ts = .error e → e <:+ ts)
theorem Suf.bnd {α β : Type} {x : List Tok → Rd α} {f : α → List Tok → Rd β} (h : Suf x) (hf : ∀ a, Suf (f a)) : Suf (fun ts => bnd (x ts) f) := by
  intro ts
  show (∀ a r, Fo.bnd (x ts) f = .ok (a, r) → _) ∧ (∀ e, Fo.bnd (x ts) f = .error e → _)
  have h0 := h ts
  cases hx : x ts with
  | error e =>
    refine ⟨fun a r h => (by cases h), fun d hd => ?_⟩
    cases hd
    exact h0.2 _ hx
  | ok v =>
    obtain ⟨a, r⟩ := v
    have h1 := h0.1 a r hx
    exact ⟨fun b q e => ((hf a r).1 b q e).trans h1, fun e he => ((hf a r).2 e he).trans h1⟩
theorem Suf.ok {α : Type} (a : α) : Suf (fun ts => .ok (a, ts)) := fun ts => ⟨fun b r h => (by cases h; exact List.suffix_refl _), fun e h => by cases h⟩
theorem Suf.error {α : Type} : Suf (α := α) (fun ts => .error ts) := fun ts => ⟨fun b r h => (by cases h), fun e h => (by cases h; exact List.suffix_refl _)⟩
theorem Suf.head {α : Type} {x : List Tok → Rd α} (h0 : x [] = .error []) (h : ∀ t, (∀ r, x (t :: r) = .error (t :: r)) ∨ (∃ y, Suf y ∧ ∀ r, x (t :: r) = y r)) : Suf x := by
  intro ts
  cases ts with
  | nil => rw [h0]; exact ⟨fun a r h => (by cases h), fun e h => (by cases h; exact List.suffix_refl _)⟩
  | cons t r =>
    rcases h t with h1 | ⟨y, hy, h1⟩
    · rw [h1]; exact ⟨fun a r h => (by cases h), fun e h => (by cases h; exact List.suffix_refl _)⟩
    · rw [h1]; exact ⟨fun a q h => ((hy r).1 a q h).trans (List.suffix_cons _ _), fun e h => ((hy r).2 e h).trans (List.suffix_cons _ _)⟩
theorem takeT_suf (q : Bs → Bool) : Suf (takeT q) := by
  refine Suf.head rfl fun t => ?_
  cases hq : q t.2
  · exact .inl fun r => by simp [takeT, hq]
  · exact .inr ⟨_, Suf.ok t.2, fun r => by simp [takeT, hq]⟩
theorem optT_suf {α : Type} (c : Bool) (d : α) {x : List Tok → Rd α} (h : Suf x) : Suf (optT c d x) := by
  cases c
  · exact Suf.ok d
  · exact h
theorem namesT_suf (stop : Bs) : Suf (namesT stop) := by
  intro ts
  induction ts with
  | nil => exact ⟨fun a r h => (by cases h), fun e h => (by cases h; exact List.suffix_refl _)⟩
  | cons t r ih =>
    unfold namesT
    by_cases h1 : Sh.nameB t.2 = true
    · rw [if_pos h1]
      unfold Fo.bnd
      cases hx : namesT stop r with
      | error e =>
        refine ⟨fun a r h => (by cases h), fun d hd => ?_⟩
        cases hd
        exact (ih.2 _ hx).trans (List.suffix_cons _ _)
      | ok v =>
        obtain ⟨a, q⟩ := v
        refine ⟨fun b r h => ?_, fun d hd => (by cases hd)⟩
        cases h
        exact (ih.1 _ _ hx).trans (List.suffix_cons _ _)
    · rw [if_neg h1]
      by_cases h2 : t.2 = stop
      · rw [if_pos h2]; exact ⟨fun a q h => (by cases h; exact List.suffix_cons _ _), fun e h => by cases h⟩
      · rw [if_neg h2]; exact ⟨fun a q h => (by cases h), fun e h => (by cases h; exact List.suffix_refl _)⟩
theorem numT_suf : Suf numT := Suf.bnd (takeT_suf _) fun l => Suf.ok (numI l)
theorem atomT_suf (nm : Bs) : Suf (atomT nm) := by
  refine Suf.head rfl fun t => ?_
  by_cases h1 : t.2 = [61]
  · exact .inr ⟨_, Suf.bnd (takeT_suf Sh.nameB) fun y => Suf.ok (.mk 1 0 noName [] [⟨nm.toArray⟩, ⟨y.toArray⟩] []), fun r => by simp only [atomT]; rw [if_pos h1]⟩
  by_cases h2 : t.2 = [60]
  · exact .inr ⟨_, Suf.bnd (takeT_suf Sh.nameB) fun y => Suf.ok (.mk 2 0 noName [] [⟨nm.toArray⟩, ⟨y.toArray⟩] []), fun r => by simp only [atomT]; rw [if_neg h1, if_pos h2]⟩
  by_cases h3 : t.2 = [40]
  · exact .inr ⟨_, Suf.bnd (namesT_suf [41]) fun l => Suf.ok (.mk 0 0 ⟨nm.toArray⟩ [] l []), fun r => by simp only [atomT]; rw [if_neg h1, if_neg h2, if_pos h3]⟩
  · exact .inl fun r => by simp only [atomT]; rw [if_neg h1, if_neg h2, if_neg h3]
theorem headT_suf (k : Int) : Suf (headT k) :=
  Suf.bnd (optT_suf _ _ (Suf.bnd (takeT_suf Sh.nameB) fun x => Suf.ok (⟨x.toArray⟩ : ByteArray))) fun nm =>
  Suf.bnd (optT_suf _ _ (Suf.bnd numT_suf fun a => Suf.bnd (takeT_suf (isT [58])) fun _ => Suf.ok a)) fun a =>
  Suf.bnd (optT_suf _ _ (namesT_suf [58])) fun vs => Suf.ok (nm, a, vs)
theorem tailT_suf (k : Int) : Suf (tailT k) := optT_suf _ _ (Suf.bnd (takeT_suf (isT [40])) fun _ => namesT_suf [41])
theorem listT_suf {y : List Tok → Rd (List Fb)} (hy : Suf y) : Suf (listT y) := by
  intro ts
  cases ts with
  | nil => exact ⟨fun a r h => (by cases h), fun e h => (by cases h; exact List.suffix_refl _)⟩
  | cons t r =>
    simp only [listT]
    by_cases h : t.2 = [41]
    · rw [if_pos h]; exact ⟨fun a q h => (by cases h; exact List.suffix_cons _ _), fun e h => by cases h⟩
    · rw [if_neg h]; exact hy (t :: r)
mutual
theorem formT_suf : ∀ n : Nat, Suf (formT n)
  | 0 => fun ts => by rw [formT]; exact Suf.error ts
  | n + 1 => by
    refine Suf.head (by rw [formT]) fun t => ?_
    by_cases h1 : Sh.nameB t.2 = true
    · exact .inr ⟨_, atomT_suf t.2, fun r => by rw [formT, if_pos h1]⟩
    by_cases h2 : t.2 = [116, 114, 117, 101]
    · exact .inr ⟨_, Suf.ok (.mk 4 0 noName [] [] []), fun r => by rw [formT, if_neg h1, if_pos h2]⟩
    by_cases h3 : t.2 = [102, 97, 108, 115, 101]
    · exact .inr ⟨_, Suf.ok (.mk 5 0 noName [] [] []), fun r => by rw [formT, if_neg h1, if_neg h2, if_pos h3]⟩
    cases hk : wordK t.2 with
    | none => exact .inl fun r => by rw [formT, if_neg h1, if_neg h2, if_neg h3, hk]
    | some k =>
      by_cases h4 : k = 4 ∨ k = 5
      · exact .inr ⟨_, Suf.bnd (takeT_suf (isT [40])) fun _ => Suf.bnd (listT_suf (kidsT_suf n)) fun l => Suf.ok (.mk k 0 noName [] [] l), fun r => by rw [formT, if_neg h1, if_neg h2, if_neg h3, hk]; simp only; simp only [if_pos h4]⟩
      · exact .inr ⟨_, Suf.bnd (takeT_suf (isT [40])) fun _ => Suf.bnd (headT_suf k) fun h => Suf.bnd (formT_suf n) fun f => Suf.bnd (takeT_suf (isT [41])) fun _ => Suf.bnd (tailT_suf k) fun ags => Suf.ok (.mk k h.2.1 h.1 h.2.2 ags [f]), fun r => by rw [formT, if_neg h1, if_neg h2, if_neg h3, hk]; simp only; simp only [if_neg h4]⟩
theorem kidsT_suf : ∀ n : Nat, Suf (kidsT n)
  | 0 => fun ts => by rw [kidsT]; exact Suf.error ts
  | n + 1 => by
    have e : kidsT (n + 1) = fun ts => Fo.bnd (formT n ts) fun f r => match r with
      | [] => .error []
      | t :: r' => if t.2 = [41] then .ok ([f], r') else if t.2 = [44] then Fo.bnd (kidsT n r') fun l r => .ok (f :: l, r) else .error (t :: r') := by
      funext ts; rw [kidsT] <;> rfl
    rw [e]
    refine Suf.bnd (formT_suf n) fun f => ?_
    refine Suf.head rfl fun t => ?_
    by_cases h1 : t.2 = [41]
    · exact .inr ⟨_, Suf.ok [f], fun r => by simp only; rw [if_pos h1]⟩
    by_cases h2 : t.2 = [44]
    · exact .inr ⟨_, Suf.bnd (kidsT_suf n) fun l => Suf.ok (f :: l), fun r => by simp only; rw [if_neg h1, if_pos h2]⟩
    · exact .inl fun r => by simp only; rw [if_neg h1, if_neg h2]
end

/-- A reading that leaves a token leaves it whatever follows; what lies before it reads, or wants more. -/
theorem formT_more {m : Nat} {p r : List Tok} {t : Tok} {f : Fb} (h : formT m (p ++ t :: r) = .ok (f, t :: r)) : (∀ q, formT m (p ++ t :: q) = .ok (f, t :: q)) ∧ (formT m p = .ok (f, []) ∨ formT m p = .error []) := by
  constructor
  · intro q
    rcases formT_loc m (p ++ [t]) with ⟨a, p2, hl, hx⟩ | ⟨t2, p2, hl, hx⟩ | ⟨-, hx⟩
    · have h1 := hx r
      rw [List.append_assoc, List.cons_append, List.nil_append, h] at h1
      simp only [Except.ok.injEq, Prod.mk.injEq] at h1
      obtain ⟨rfl, e⟩ := h1
      have e2 : p2 = [t] := by
        have : [t] ++ r = p2 ++ r := e
        exact (List.append_cancel_right this).symm
      subst e2
      have h2 := hx q
      rw [List.append_assoc] at h2
      exact h2
    · have h1 := hx r
      rw [List.append_assoc, List.cons_append, List.nil_append, h] at h1
      cases h1
    · have := (hx r).1 f (t :: r) (by rw [List.append_assoc]; exact h)
      simp at this
      omega
  · rcases formT_loc m p with ⟨a, p2, hl, hx⟩ | ⟨t2, p2, hl, hx⟩ | ⟨h0, -⟩
    · have h1 := hx (t :: r)
      rw [h] at h1
      simp only [Except.ok.injEq, Prod.mk.injEq] at h1
      obtain ⟨rfl, e⟩ := h1
      have e2 : p2 = [] := by
        have := congrArg List.length e
        simp at this
        omega
      subst e2
      have h2 := hx []
      rw [List.append_nil, List.nil_append] at h2
      exact .inl h2
    · have h1 := hx (t :: r); rw [h] at h1; cases h1
    · exact .inr h0

theorem moreT_all (x : UInt8) (l : Bs) : Sh.alnumB x = true → (moreT x l).all Sh.alnumB = true := fun h => by
  unfold moreT
  rw [if_pos h]
  exact takeWhile_all _ _
theorem moreT_app {x : UInt8} {l m : Bs} (h : Sh.alnumB x = true → stops m = true) : moreT x (moreT x l ++ m) = moreT x l := by
  cases hx : Sh.alnumB x
  · unfold moreT; simp [hx]
  · have h1 := moreT_all x l hx
    generalize moreT x l = k at h1 ⊢
    unfold moreT
    rw [if_pos hx]
    exact takeWhile_app h1 (h hx)
theorem moreT_rest (x : UInt8) (l : Bs) : l = moreT x l ++ l.drop (moreT x l).length := by
  have h : moreT x l <+: l := by
    unfold moreT
    split
    · exact List.takeWhile_prefix _
    · exact List.nil_prefix
  generalize moreT x l = m at h
  obtain ⟨t, rfl⟩ := h
  rw [List.drop_left]
theorem stops_more {x : UInt8} (hx : Sh.alnumB x = true) : ∀ l : Bs, stops (l.drop (moreT x l).length) = true := by
  intro l
  have e : moreT x l = l.takeWhile Sh.alnumB := by unfold moreT; rw [if_pos hx]
  rw [e]
  induction l with
  | nil => rfl
  | cons c l ih =>
    cases hc : Sh.alnumB c
    · rw [List.takeWhile_cons, hc]; simp [stops, hc]
    · rw [List.takeWhile_cons, hc]
      simp only [if_true, List.length_cons, List.drop_succ_cons]
      exact ih (by unfold moreT; rw [if_pos hx])

/-- Where a token begins: the text before it has the tokens before it, whatever follows with the same byte. -/
theorem toks_split : ∀ (n i : Nat) (l : Bs) (p : List Tok) (t : Tok) (r : List Tok), l.length ≤ n → toks i l = p ++ t :: r →
    ∃ a c b, l = a ++ c :: b ∧ blankB c = false ∧ t.1 = i + a.length ∧ toks i a = p ∧ (∀ m, toks i (a ++ c :: m) = p ++ toks (i + a.length) (c :: m)) ∧ t = (i + a.length, c :: moreT c b)
  | n, i, [], p, t, r, _, h => by rw [toks_nil] at h; simp at h
  | 0, i, x :: l, p, t, r, hn, h => by simp at hn
  | n + 1, i, x :: l, p, t, r, hn, h => by
    simp only [List.length_cons] at hn
    cases hb : blankB x
    · rw [toks_cons hb] at h
      cases p with
      | nil =>
        simp only [List.nil_append, List.cons.injEq] at h
        obtain ⟨rfl, -⟩ := h
        exact ⟨[], x, l, rfl, hb, rfl, rfl, fun m => rfl, rfl⟩
      | cons q p =>
        simp only [List.cons_append, List.cons.injEq] at h
        obtain ⟨rfl, h⟩ := h
        obtain ⟨a, c, b, hl, hc, ht, ha, hm, htt⟩ := toks_split n _ (l.drop (moreT x l).length) p t r (by rw [List.length_drop]; omega) h
        have hr := moreT_rest x l
        rw [hl] at hr
        have hst : Sh.alnumB x = true → ∀ m, stops (a ++ c :: m) = true ∧ (stops a = true) := fun hx m => by
          have := stops_more hx l
          rw [hl] at this
          cases a with
          | nil => exact ⟨this, rfl⟩
          | cons y a => exact ⟨this, this⟩
        have e1 : ∀ m, moreT x (moreT x l ++ (a ++ c :: m)) = moreT x l := fun m => moreT_app fun hx => (hst hx m).1
        have e2 : moreT x (moreT x l ++ a) = moreT x l := moreT_app fun hx => (hst hx []).2
        refine ⟨x :: (moreT x l ++ a), c, b, ?_, hc, ?_, ?_, fun m => ?_, ?_⟩
        · rw [List.cons_append, List.append_assoc, ← hr]
        · rw [ht]; simp; omega
        · rw [toks_cons hb, e2, List.drop_left, ha]
        · rw [List.cons_append, List.append_assoc, toks_cons hb, e1, List.drop_left, hm]
          simp only [List.length_cons, List.length_append, List.cons_append]
          rw [show i + 1 + (moreT x l).length + a.length = i + ((moreT x l).length + a.length + 1) by omega]
        · rw [htt]; simp only [List.length_cons, List.length_append]; rw [show i + 1 + (moreT x l).length + a.length = i + ((moreT x l).length + a.length + 1) by omega]
    · rw [toks_blank hb] at h
      obtain ⟨a, c, b, hl, hc, ht, ha, hm, htt⟩ := toks_split n (i + 1) l p t r (by omega) h
      refine ⟨x :: a, c, b, by rw [hl]; rfl, hc, by rw [ht]; simp; omega, by rw [toks_blank hb, ha], fun m => ?_, ?_⟩
      · rw [List.cons_append, toks_blank hb, hm]
        simp only [List.length_cons]
        rw [show i + 1 + a.length = i + (a.length + 1) by omega]
      · rw [htt]; simp only [List.length_cons]; rw [show i + 1 + a.length = i + (a.length + 1) by omega]

theorem split_at {s : Bs} {p : List Tok} {t : Tok} {r : List Tok} (h : toksAt s 0 = p ++ t :: r) :
    ∃ c b, s = s.take t.1 ++ c :: b ∧ t.1 < s.length ∧ t.2 = c :: moreT c b ∧ blankB c = false ∧ toksAt (s.take t.1) 0 = p ∧ ∀ m, toksAt (s.take t.1 ++ c :: m) 0 = p ++ toks t.1 (c :: m) := by
  obtain ⟨a, c, b, hl, hc, ht, ha, hm, htt⟩ := toks_split s.length 0 s p t r (Nat.le_refl _) h
  rw [Nat.zero_add] at ht
  have e : s.take t.1 = a := by rw [ht, hl]; exact List.take_left
  refine ⟨c, b, by rw [e]; exact hl, by rw [ht, hl]; simp, by rw [htt], hc, by rw [e]; exact ha, fun m => ?_⟩
  rw [e, ht]
  have := hm m
  rw [Nat.zero_add] at this
  exact this
theorem moreT_stop {c : UInt8} {b o : Bs} : moreT c (moreT c b ++ 32 :: o) = moreT c b := moreT_app fun _ => rfl

/-- A text that is refused at i: the text before i reads or is refused at its end; where a token stands at i, whatever follows it is refused at i. -/
theorem first_fact {s : Bs} {i : Nat} (h : readF s = .error i) : i ≤ s.length ∧ (∀ k, readF (s.take i) = .error k → k = i) ∧
    (i < s.length → ∃ tx r, toksAt (s.drop i) 0 = (0, tx) :: r ∧ tx.length ≤ s.length ∧ ∀ o, readF (s.take i ++ tx ++ (32 :: o)) = .error i) := by
  have hfin : ∀ {k}, readF s = .error k → i = k := fun e => by rw [h] at e; exact Except.error.inj e
  have key : ∀ (p : List Tok) (t : Tok) (r : List Tok), toksAt s 0 = p ++ t :: r → i = t.1 → (∀ k, (match formF p with | .error ts => Except.error (atT t.1 ts) | .ok (f, ts) => if ts = [] then .ok f else .error (atT t.1 ts)) = (.error k : Except Nat Fb) → k = t.1) →
      (∀ q, formF (p ++ t :: q) = .error (t :: q) ∨ ∃ f, formF (p ++ t :: q) = .ok (f, t :: q)) →
      i ≤ s.length ∧ (∀ k, readF (s.take i) = .error k → k = i) ∧ (i < s.length → ∃ tx r, toksAt (s.drop i) 0 = (0, tx) :: r ∧ tx.length ≤ s.length ∧ ∀ o, readF (s.take i ++ tx ++ (32 :: o)) = .error i) := by
    intro p t r hs hi h1 h2
    subst hi
    obtain ⟨c, b, hsp, hlt, ht2, hbl, hp, hm⟩ := split_at hs
    have hlen : (s.take t.1).length = t.1 := by rw [List.length_take]; omega
    refine ⟨Nat.le_of_lt hlt, fun k hk => ?_, fun _ => ⟨c :: moreT c b, toks (0 + 1 + (moreT c b).length) (b.drop (moreT c b).length), ?_, ?_, fun o => ?_⟩⟩
    · refine h1 k ?_
      rw [← hk]
      unfold readF
      rw [hp, hlen] <;> rfl
    · have e : s.drop t.1 = c :: b := by
        conv => lhs; rw [hsp]
        have := List.drop_left (l₁ := s.take t.1) (l₂ := c :: b)
        rw [hlen] at this
        exact this
      unfold toksAt
      rw [e, List.drop_zero, toks_cons hbl]
    · have := congrArg List.length hsp
      have h3 := congrArg List.length (moreT_rest c b)
      simp only [List.length_append, List.length_cons] at this h3 ⊢
      omega
    · have e : s.take t.1 ++ (c :: moreT c b) ++ (32 :: o) = s.take t.1 ++ c :: (moreT c b ++ 32 :: o) := by simp
      have ht : t = (t.1, c :: moreT c b) := by rw [← ht2]
      rw [e]
      unfold readF
      rw [hm, toks_cons hbl, moreT_stop, ← ht]
      rcases h2 (toks (t.1 + 1 + (moreT c b).length) ((moreT c b ++ 32 :: o).drop (moreT c b).length)) with h2 | ⟨f, h2⟩
      · rw [h2]; rfl
      · rw [h2]
        simp [atT]
  have big : ∀ (p : List Tok) (t : Tok) (q : List Tok) (m : Nat), (p ++ t :: q).length + 1 ≤ m → formT m (p ++ t :: q) = formF (p ++ t :: q) := fun p t q m hm => formT_eq hm
  have small : ∀ (p : List Tok) (m : Nat), p.length + 1 ≤ m → formT m p = formF p := fun p m hm => formT_eq hm
  unfold readF at h
  cases hx : formF (toksAt s 0) with
  | error e =>
    rw [hx] at h
    cases e with
    | nil =>
      obtain rfl : s.length = i := Except.error.inj h
      refine ⟨Nat.le_refl _, fun k hk => ?_, fun hlt => absurd hlt (Nat.lt_irrefl _)⟩
      rw [List.take_length] at hk
      exact (hfin hk).symm
    | cons t r =>
      obtain ⟨p, hp⟩ := (formT_suf _ (toksAt s 0)).2 _ hx
      rw [← hp] at hx
      refine key p t r hp.symm (by exact (Except.error.inj h).symm) (fun k hk => ?_) (fun q => .inl ?_)
      · have h1 := (formT_first (m := (p ++ t :: r).length + 1) (by rw [big p t r _ (Nat.le_refl _)]; exact hx)).2
        rw [small p _ (by simp)] at h1
        rw [h1] at hk
        exact (Except.error.inj hk).symm
      · have h1 := (formT_first (m := (p ++ t :: r).length + (p ++ t :: q).length + 1) (by rw [big p t r _ (by omega)]; exact hx)).1 q
        rw [big p t q _ (by omega)] at h1
        exact h1
  | ok v =>
    obtain ⟨f, ts⟩ := v
    rw [hx] at h
    simp only at h
    cases ts with
    | nil => rw [if_pos rfl] at h; cases h
    | cons t r =>
      rw [if_neg (by simp)] at h
      obtain ⟨p, hp⟩ := (formT_suf _ (toksAt s 0)).1 _ _ hx
      rw [← hp] at hx
      refine key p t r hp.symm (by exact (Except.error.inj h).symm) (fun k hk => ?_) (fun q => .inr ⟨f, ?_⟩)
      · have h1 := (formT_more (m := (p ++ t :: r).length + 1) (by rw [big p t r _ (Nat.le_refl _)]; exact hx)).2
        rw [small p _ (by simp)] at h1
        rcases h1 with h1 | h1
        · rw [h1] at hk; simp at hk
        · rw [h1] at hk
          exact (Except.error.inj hk).symm
      · have h1 := (formT_more (m := (p ++ t :: r).length + (p ++ t :: q).length + 1) (by rw [big p t r _ (by omega)]; exact hx)).1 q
        rw [big p t q _ (by omega)] at h1
        exact h1
end Go.Proofs.YtmnpelhcgobfaaaDoor.Fo

/-
  Walk: FormulaFirst.
-/
namespace Go.Proofs.YtmnpelhcgobfaaaDoor
open Go.RowKit
open Fo (F)

/-- Parse's result, where it is known what the text reads as. -/
def PPx (i r : Int) (w : World) (e : Ending) (w' : World) : Prop :=
  Below w.heap.size w w' ∧ ∃ (k a : Int) (n : ByteArray) (A3 : Option Addr) (n3 c3 : Nat) (A4 : Option Addr) (n4 c4 : Nat) (A : Option Addr) (m c : Nat),
    e = .returned (.tuple #[.agg #[.int .i64 k, .int .i64 a, .string n, .slice A3 n3 c3, .slice A4 n4 c4, .slice A m c], .int .i64 i, .int .i64 r])
theorem parse_at {text : ByteArray} {f : FB} {i : Nat} {r : Int} (h : outP text.toList = (f, i, r)) (w : World) (hs : text.size ≤ 40000) (hw : HasW w) : Calls Tryd.prog 9 #[.string text] w (PPx (i : Nat) r w) :=
  (parse_pp text w hs hw).mono fun e w' ⟨hb, f', i', r', k, a, n, A3, n3, c3, A4, n4, c4, A, m, c, h', he, _⟩ => by
    rw [h] at h'
    obtain ⟨rfl, rfl, rfl⟩ : f = f' ∧ i = i' ∧ r = r' := by simpa using h'
    exact ⟨hb, k, a, n, A3, n3, c3, A4, n4, c4, A, m, c, he⟩
theorem outP_kinds (s : Fo.Bs) : (∃ i, Fo.readF s = .error i ∧ outP s = (zF, i, 3)) ∨ (∃ f r, outP s = (f, 0, r) ∧ (r = 0 ∨ r = 1) ∧ ∀ i, Fo.readF s ≠ .error i) := by
  unfold outP
  cases hr : Fo.readF s with
  | error i => exact .inl ⟨i, rfl, rfl⟩
  | ok f =>
    refine .inr ?_
    simp only
    by_cases h : (Fo.lookF Fo.fitP f).isSome = true
    · rw [if_pos h]; exact ⟨_, _, rfl, .inl rfl, fun i h => by cases h⟩
    · rw [if_neg h]; exact ⟨_, _, rfl, .inr rfl, fun i h => by cases h⟩

/-- What the walk of FormulaFirst keeps. -/
structure PW (w W : World) : Prop where
  bel : Below w.heap.size w W
  wds : HasW W
theorem PW.start {w : World} (hw : HasW w) : PW w w := ⟨Below.refl _ _, hw⟩
theorem PW.step {w W W' : World} (h : PW w W) (hb : Below W.heap.size W W') : PW w W' := ⟨h.bel.trans (hb.mono h.bel.size), h.wds.below hb (Nat.le_refl _)⟩
theorem PW.alloc {w W : World} (h : PW w W) (o : Obj) : PW w (W.alloc o) := h.step ((Below.refl _ _).alloc (Nat.le_refl _) o)
theorem PW.set6 {w W : World} {g : Nat} (h : PW w W) (hw : HasW w) (hge : w.heap.size ≤ g) (a0 a1 a2 a3 a4 a5 : Value) :
    PW w ((((((W.setCell ⟨g, 0, none⟩ a0).setCell ⟨g, 1, none⟩ a1).setCell ⟨g, 2, none⟩ a2).setCell ⟨g, 3, none⟩ a3).setCell ⟨g, 4, none⟩ a4).setCell ⟨g, 5, none⟩ a5) := by
  have hb := (((((h.bel.setCell (p := ⟨g, 0, none⟩) hge a0).setCell (p := ⟨g, 1, none⟩) hge a1).setCell (p := ⟨g, 2, none⟩) hge a2).setCell (p := ⟨g, 3, none⟩) hge a3).setCell (p := ⟨g, 4, none⟩) hge a4).setCell (p := ⟨g, 5, none⟩) hge a5
  exact ⟨hb, hw.below hb (Nat.le_refl _)⟩
theorem PW.drew {w W : World} (h : PW w W) : PW w W.drew := h.step (Below.drew (Below.refl _ _))

set_option maxRecDepth 100000 in
set_option maxHeartbeats 1000000 in
theorem ffirst_easy (text other : ByteArray) (w : World) (hs : text.size ≤ 140737488351232) (ho : other.size ≤ 140737488351232) (hw : HasW w) (h : 8000 < text.size ∨ 8000 < other.size ∨ ∃ f r, outP text.toList = (f, 0, r) ∧ (r = 0 ∨ r = 1)) :
    Calls Tryd.prog 4 #[.string text, .string other] w fun e w' => e = .returned (.bool true) ∧ Below w.heap.size w w' := by
  by_cases hbig : 8000 < text.size
  · go_enter Tryd.func4, Tryd.ntmps4
    go_wp2_with (go_at_call 7; refine (falive_any _ hw).mono ?_; rintro e w5 ⟨rfl, hb5⟩)
    all_goals (
      go_ret
      exact ⟨rfl, hb5⟩)
  by_cases hbig2 : 8000 < other.size
  · go_enter Tryd.func4, Tryd.ntmps4
    go_wp2_with (go_at_call 7; refine (falive_any _ hw).mono ?_; rintro e w5 ⟨rfl, hb5⟩)
    all_goals (
      go_ret
      exact ⟨rfl, hb5⟩)
  obtain ⟨f, r, hout, hr⟩ : ∃ f r, outP text.toList = (f, 0, r) ∧ (r = 0 ∨ r = 1) := by
    rcases h with h | h | h
    · exact absurd h hbig
    · exact absurd h hbig2
    · exact h
  have hp1 : Calls Tryd.prog 9 #[.string text] w (PPx 0 r w) := parse_at hout w (by omega) hw
  have Hp1 := Lib.hid hp1; clear hp1
  have Hpw := Lib.hid (PW.start hw)
  have hs8 : text.size ≤ 8000 := by omega
  have ho8 : other.size ≤ 8000 := by omega
  clear hw hout h hbig hbig2
  rcases hr with rfl | rfl
  all_goals (
    go_enter Tryd.func4, Tryd.ntmps4
    go_wp2_with (first
      | (go_at_call 9
         refine Hp1.out.mono ?_
         rintro e w2 ⟨hb2, k1, a1, x1, A3, n3, c3, A4, n4, c4, A1, m1, c1, rfl⟩
         have Hq := Lib.hid ((Hpw.out.step hb2).alloc (.cells #[.int .i64 k1, .int .i64 a1, .string x1, .slice A3 n3 c3, .slice A4 n4 c4, .slice A1 m1 c1] 31)); clear hb2 Hpw Hp1)
      | (go_at_call 7
         refine (falive_any _ Hq.out.wds).mono ?_
         rintro e w5 ⟨rfl, hb5⟩
         have Hz := Lib.hid (Hq.out.step hb5); clear hb5))
    all_goals first
      | (exfalso; omega)
      | (go_ret
         exact ⟨rfl, Hz.out.bel⟩))

theorem take_bytes (s : ByteArray) (i : Nat) (_hi : i ≤ s.size) : (s.extract 0 i).toList = s.toList.take i := by
  rw [ByteArray.toList_eq, ByteArray.toList_eq, ByteArray.data_extract, Array.toList_extract, List.extract_eq_take_drop]
  simp
theorem drop_bytes (s : ByteArray) (i : Nat) : (s.extract i s.size).toList = s.toList.drop i := by
  rw [ByteArray.toList_eq, ByteArray.toList_eq, ByteArray.data_extract, Array.toList_extract, List.extract_eq_take_drop]
  refine List.take_of_length_le ?_
  rw [List.length_drop, Array.length_toList]
  exact Nat.le_refl _
theorem app_bytes (a b : ByteArray) : (a ++ b).toList = a.toList ++ b.toList := by
  rw [ByteArray.toList_eq, ByteArray.toList_eq, ByteArray.toList_eq, ByteArray.data_append, Array.toList_append]

/-- The first token, as a walk finds it. -/
def TkF (tx : Fo.Bs) (W : World) (e : Ending) (W' : World) : Prop :=
  Below W.heap.size W W' ∧ ∃ g n c, 0 < n ∧ n ≤ 1000000000 ∧ e = .returned (.slice (some ⟨g, 0, none⟩) n c) ∧ W'.cell? ⟨g, 0, none⟩ = some (.int .i64 0) ∧ W'.cell? ⟨g, 1, none⟩ = some (.string ⟨tx.toArray⟩) ∧ g < W'.heap.size
theorem tokens_first {tx : Fo.Bs} {rr : List Fo.Tok} {W W' : World} {e : Ending} (hl : ((0, tx) :: rr : List Fo.Tok).length ≤ 1000000000) (h : Below W.heap.size W W' ∧ ∃ v, e = .returned v ∧ W'.ownsRow W.heap.size 27 2 v ((0, tx) :: rr : List Fo.Tok).length (((0, tx) :: rr : List Fo.Tok).flatMap tokC)) : TkF tx W e W' := by
  obtain ⟨hb, v, rfl, ho⟩ := h
  obtain ⟨g, c, rfl⟩ := Joins.ownsRow_form ho (by simp)
  have h1 := tok_at (k := 0) ho rfl
  exact ⟨hb, g, _, c, by simp, hl, rfl, h1.1, h1.2, own_lt2 ho⟩

end Go.Proofs.YtmnpelhcgobfaaaDoor

/-
  Walk: FormulaFirst, where the text is refused.
-/
namespace Go.Proofs.YtmnpelhcgobfaaaDoor
open Go.RowKit
open Fo (F)

set_option maxRecDepth 100000 in
set_option maxHeartbeats 4000000 in
theorem ffirst_mid0 (i2 : Int) (text other : ByteArray) (w : World) (i : Nat) (tx : Fo.Bs) (hs : text.size ≤ 8000) (ho : other.size ≤ 8000) (hile : i ≤ text.size) (hlt : i < text.size) (htxl : tx.length ≤ text.size) (_hsz0 : (text.extract 0 i).size ≤ 40000)
    (Hw0 : Hid (HasW w)) (Hpw : Hid (PW w w)) (Hp1 : Hid (Calls Tryd.prog 9 #[.string text] w (PPx (i : Nat) 3 w)))
    (Hp2 : Hid (∀ (W : World), HasW W → Calls Tryd.prog 9 #[.string (text.extract 0 i)] W (PPx i2 0 W)))
    (Htok : Hid (∀ W, Calls Tryd.prog 8 #[.string (text.extract i text.size)] W (TkF tx W)))
    (Hp3 : Hid (∀ (W : World), HasW W → Calls Tryd.prog 9 #[.string (text.extract 0 i ++ ⟨tx.toArray⟩ ++ ⟨#[32]⟩ ++ other)] W (PPx (i : Nat) 3 W))) :
    Calls Tryd.prog 4 #[.string text, .string other] w fun e w' => e = .returned (.bool true) ∧ Below w.heap.size w w' := by
  go_enter Tryd.func4, Tryd.ntmps4
  go_wp2_with (first
    | (go_at_call 9
       with_reducible refine Hp1.out.mono ?_
       rintro e w2 ⟨hb2, k1, a1, x1, A3, n3, c3, A4, n4, c4, A1, m1, c1, rfl⟩
       have Hq := Lib.hid ((Hpw.out.step hb2).alloc (.cells #[.int .i64 k1, .int .i64 a1, .string x1, .slice A3 n3 c3, .slice A4 n4 c4, .slice A1 m1 c1] 31)); clear hb2 Hpw Hp1)
    | (go_at_call 9
       with_reducible refine (Hp2.out _ Hq.out.wds).mono ?_
       rintro e w3 ⟨hb3, k2, a2, x2, B3, o3, d3, B4, o4, d4, B1, o1, d1, rfl⟩
       have Hq2 := Lib.hid ((Hq.out.step hb3).alloc (.cells #[.int .i64 k2, .int .i64 a2, .string x2, .slice B3 o3 d3, .slice B4 o4 d4, .slice B1 o1 d1] 31)); clear hb3 Hq Hp2)
    | (go_at_call 8
       with_reducible refine (Htok.out _).mono ?_
       rintro e w4 ⟨hb4, g, n4', c4', hn4, hn9, rfl, t0, t1, hgl⟩
       have Hq3 := Lib.hid (Hq2.out.step hb4); clear hb4 Hq2 Htok))
  all_goals first
    | (exfalso; omega)
    | (have Hq4 := Lib.hid Hq3.out.drew
       have Hq4a := Lib.hid (Hq3.out.alloc (.cells #[.int .i64 0, .int .i64 0, .string ⟨#[]⟩, .slice none 0 0, .slice none 0 0, .slice none 0 0] 31)).drew; clear Hq3
       have t1a : (w4.drew.alloc (.cells #[.int .i64 0, .int .i64 0, .string ⟨#[]⟩, .slice none 0 0, .slice none 0 0, .slice none 0 0] 31)).cell? ⟨g, 1, none⟩ = some (.string ⟨tx.toArray⟩) := (World.cell?_alloc_lt _ _ _ hgl).trans t1
       have s1 : ¬ 9223372036854775807 < i + List.length tx := by omega
       have s2 : ¬ 9223372036854775807 < i + List.length tx + 1 := by omega
       have s3 : ¬ 9223372036854775807 < i + List.length tx + 1 + other.size := by omega
       go_region_law (first
         | (go_simp
            go_at_call 9
            refine (Hp3.out _ (by first | with_reducible exact Hq4.out.wds | with_reducible exact Hq4a.out.wds)).mono ?_
            rintro e w5 ⟨hb5, k5, a5, x5, D3, o5, d5, D4, o6, d6, D1, o7, d7, rfl⟩
            have Hq5 := Lib.hid ((show PW w _ by first | with_reducible exact Hq4.out | with_reducible exact Hq4a.out).step hb5)
            first
              | (have hz0 : Blk w5 w4.heap.size 31 #[.int .i64 0, .int .i64 0, .string ⟨#[]⟩, .slice none 0 0, .slice none 0 0, .slice none 0 0] := Blk.below (Blk.new w4 _ _).drew hb5 (by simp)
                 have z0 := hz0.cell 0; have z1 := hz0.cell 1; have z2 := hz0.cell 2; have z3 := hz0.cell 3; have z4 := hz0.cell 4; have z5 := hz0.cell 5
                 simp at z0 z1 z2 z3 z4 z5
                 have y0 := hz0.frozen 0; have y1 := hz0.frozen 1; have y2 := hz0.frozen 2; have y3 := hz0.frozen 3; have y4 := hz0.frozen 4; have y5 := hz0.frozen 5
                 clear hz0 hb5)
              | clear hb5))
       all_goals try clear z0 z1 z2 z3 z4 z5 y0 y1 y2 y3 y4 y5
       all_goals clear t0 t1 t1a
       all_goals have hge : w.heap.size ≤ w4.heap.size := Hq4.out.bel.size
       all_goals clear Hq4 Hq4a Hp3 s1 s2 s3
       all_goals first
         | (with_reducible change Exit.then _ _ _ _ (World.setCell _ _ _)
            have Hq6 := Lib.hid (Hq5.out.set6 Hw0.out hge (.int .i64 k5) (.int .i64 a5) (.string x5) (.slice D3 o5 d5) (.slice D4 o6 d6) (.slice D1 o7 d7)); clear Hq5
            generalize ((((((w5.setCell ⟨w4.heap.size, 0, none⟩ (.int .i64 k5)).setCell ⟨w4.heap.size, 1, none⟩ (.int .i64 a5)).setCell ⟨w4.heap.size, 2, none⟩ (.string x5)).setCell ⟨w4.heap.size, 3, none⟩ (.slice D3 o5 d5)).setCell ⟨w4.heap.size, 4, none⟩ (.slice D4 o6 d6)).setCell ⟨w4.heap.size, 5, none⟩ (.slice D1 o7 d7)) = W6 at Hq6 ⊢)
         | (have Hq6 := Lib.hid (Hq5.out.alloc (.cells #[.int .i64 k5, .int .i64 a5, .string x5, .slice D3 o5 d5, .slice D4 o6 d6, .slice D1 o7 d7] 31)); clear Hq5
            generalize (w5.alloc (.cells #[.int .i64 k5, .int .i64 a5, .string x5, .slice D3 o5 d5, .slice D4 o6 d6, .slice D1 o7 d7] 31)) = W6 at Hq6 ⊢)
       all_goals clear Hw0
       all_goals go_wp2_with (go_at_call 7; refine (falive_any _ Hq6.out.wds).mono ?_; rintro e w6 ⟨rfl, hb6⟩)
       all_goals (
         go_ret
         exact ⟨rfl, (Hq6.out.step hb6).bel⟩))

set_option maxRecDepth 100000 in
set_option maxHeartbeats 4000000 in
theorem ffirst_mid1 (i2 : Int) (text other : ByteArray) (w : World) (i : Nat) (tx : Fo.Bs) (hs : text.size ≤ 8000) (ho : other.size ≤ 8000) (hile : i ≤ text.size) (hlt : i < text.size) (htxl : tx.length ≤ text.size) (_hsz0 : (text.extract 0 i).size ≤ 40000)
    (Hw0 : Hid (HasW w)) (Hpw : Hid (PW w w)) (Hp1 : Hid (Calls Tryd.prog 9 #[.string text] w (PPx (i : Nat) 3 w)))
    (Hp2 : Hid (∀ (W : World), HasW W → Calls Tryd.prog 9 #[.string (text.extract 0 i)] W (PPx i2 1 W)))
    (Htok : Hid (∀ W, Calls Tryd.prog 8 #[.string (text.extract i text.size)] W (TkF tx W)))
    (Hp3 : Hid (∀ (W : World), HasW W → Calls Tryd.prog 9 #[.string (text.extract 0 i ++ ⟨tx.toArray⟩ ++ ⟨#[32]⟩ ++ other)] W (PPx (i : Nat) 3 W))) :
    Calls Tryd.prog 4 #[.string text, .string other] w fun e w' => e = .returned (.bool true) ∧ Below w.heap.size w w' := by
  go_enter Tryd.func4, Tryd.ntmps4
  go_wp2_with (first
    | (go_at_call 9
       with_reducible refine Hp1.out.mono ?_
       rintro e w2 ⟨hb2, k1, a1, x1, A3, n3, c3, A4, n4, c4, A1, m1, c1, rfl⟩
       have Hq := Lib.hid ((Hpw.out.step hb2).alloc (.cells #[.int .i64 k1, .int .i64 a1, .string x1, .slice A3 n3 c3, .slice A4 n4 c4, .slice A1 m1 c1] 31)); clear hb2 Hpw Hp1)
    | (go_at_call 9
       with_reducible refine (Hp2.out _ Hq.out.wds).mono ?_
       rintro e w3 ⟨hb3, k2, a2, x2, B3, o3, d3, B4, o4, d4, B1, o1, d1, rfl⟩
       have Hq2 := Lib.hid ((Hq.out.step hb3).alloc (.cells #[.int .i64 k2, .int .i64 a2, .string x2, .slice B3 o3 d3, .slice B4 o4 d4, .slice B1 o1 d1] 31)); clear hb3 Hq Hp2)
    | (go_at_call 8
       with_reducible refine (Htok.out _).mono ?_
       rintro e w4 ⟨hb4, g, n4', c4', hn4, hn9, rfl, t0, t1, hgl⟩
       have Hq3 := Lib.hid (Hq2.out.step hb4); clear hb4 Hq2 Htok))
  all_goals first
    | (exfalso; omega)
    | (have Hq4 := Lib.hid Hq3.out.drew
       have Hq4a := Lib.hid (Hq3.out.alloc (.cells #[.int .i64 0, .int .i64 0, .string ⟨#[]⟩, .slice none 0 0, .slice none 0 0, .slice none 0 0] 31)).drew; clear Hq3
       have t1a : (w4.drew.alloc (.cells #[.int .i64 0, .int .i64 0, .string ⟨#[]⟩, .slice none 0 0, .slice none 0 0, .slice none 0 0] 31)).cell? ⟨g, 1, none⟩ = some (.string ⟨tx.toArray⟩) := (World.cell?_alloc_lt _ _ _ hgl).trans t1
       have s1 : ¬ 9223372036854775807 < i + List.length tx := by omega
       have s2 : ¬ 9223372036854775807 < i + List.length tx + 1 := by omega
       have s3 : ¬ 9223372036854775807 < i + List.length tx + 1 + other.size := by omega
       go_region_law (first
         | (go_simp
            go_at_call 9
            refine (Hp3.out _ (by first | with_reducible exact Hq4.out.wds | with_reducible exact Hq4a.out.wds)).mono ?_
            rintro e w5 ⟨hb5, k5, a5, x5, D3, o5, d5, D4, o6, d6, D1, o7, d7, rfl⟩
            have Hq5 := Lib.hid ((show PW w _ by first | with_reducible exact Hq4.out | with_reducible exact Hq4a.out).step hb5)
            first
              | (have hz0 : Blk w5 w4.heap.size 31 #[.int .i64 0, .int .i64 0, .string ⟨#[]⟩, .slice none 0 0, .slice none 0 0, .slice none 0 0] := Blk.below (Blk.new w4 _ _).drew hb5 (by simp)
                 have z0 := hz0.cell 0; have z1 := hz0.cell 1; have z2 := hz0.cell 2; have z3 := hz0.cell 3; have z4 := hz0.cell 4; have z5 := hz0.cell 5
                 simp at z0 z1 z2 z3 z4 z5
                 have y0 := hz0.frozen 0; have y1 := hz0.frozen 1; have y2 := hz0.frozen 2; have y3 := hz0.frozen 3; have y4 := hz0.frozen 4; have y5 := hz0.frozen 5
                 clear hz0 hb5)
              | clear hb5))
       all_goals try clear z0 z1 z2 z3 z4 z5 y0 y1 y2 y3 y4 y5
       all_goals clear t0 t1 t1a
       all_goals have hge : w.heap.size ≤ w4.heap.size := Hq4.out.bel.size
       all_goals clear Hq4 Hq4a Hp3 s1 s2 s3
       all_goals first
         | (with_reducible change Exit.then _ _ _ _ (World.setCell _ _ _)
            have Hq6 := Lib.hid (Hq5.out.set6 Hw0.out hge (.int .i64 k5) (.int .i64 a5) (.string x5) (.slice D3 o5 d5) (.slice D4 o6 d6) (.slice D1 o7 d7)); clear Hq5
            generalize ((((((w5.setCell ⟨w4.heap.size, 0, none⟩ (.int .i64 k5)).setCell ⟨w4.heap.size, 1, none⟩ (.int .i64 a5)).setCell ⟨w4.heap.size, 2, none⟩ (.string x5)).setCell ⟨w4.heap.size, 3, none⟩ (.slice D3 o5 d5)).setCell ⟨w4.heap.size, 4, none⟩ (.slice D4 o6 d6)).setCell ⟨w4.heap.size, 5, none⟩ (.slice D1 o7 d7)) = W6 at Hq6 ⊢)
         | (have Hq6 := Lib.hid (Hq5.out.alloc (.cells #[.int .i64 k5, .int .i64 a5, .string x5, .slice D3 o5 d5, .slice D4 o6 d6, .slice D1 o7 d7] 31)); clear Hq5
            generalize (w5.alloc (.cells #[.int .i64 k5, .int .i64 a5, .string x5, .slice D3 o5 d5, .slice D4 o6 d6, .slice D1 o7 d7] 31)) = W6 at Hq6 ⊢)
       all_goals clear Hw0
       all_goals go_wp2_with (go_at_call 7; refine (falive_any _ Hq6.out.wds).mono ?_; rintro e w6 ⟨rfl, hb6⟩)
       all_goals (
         go_ret
         exact ⟨rfl, (Hq6.out.step hb6).bel⟩))

set_option maxRecDepth 100000 in
set_option maxHeartbeats 4000000 in
theorem ffirst_mid3 (text other : ByteArray) (w : World) (i : Nat) (tx : Fo.Bs) (hs : text.size ≤ 8000) (ho : other.size ≤ 8000) (hile : i ≤ text.size) (hlt : i < text.size) (htxl : tx.length ≤ text.size) (_hsz0 : (text.extract 0 i).size ≤ 40000)
    (Hw0 : Hid (HasW w)) (Hpw : Hid (PW w w)) (Hp1 : Hid (Calls Tryd.prog 9 #[.string text] w (PPx (i : Nat) 3 w)))
    (Hp2 : Hid (∀ (W : World), HasW W → Calls Tryd.prog 9 #[.string (text.extract 0 i)] W (PPx (i : Nat) 3 W)))
    (Htok : Hid (∀ W, Calls Tryd.prog 8 #[.string (text.extract i text.size)] W (TkF tx W)))
    (Hp3 : Hid (∀ (W : World), HasW W → Calls Tryd.prog 9 #[.string (text.extract 0 i ++ ⟨tx.toArray⟩ ++ ⟨#[32]⟩ ++ other)] W (PPx (i : Nat) 3 W))) :
    Calls Tryd.prog 4 #[.string text, .string other] w fun e w' => e = .returned (.bool true) ∧ Below w.heap.size w w' := by
  go_enter Tryd.func4, Tryd.ntmps4
  go_wp2_with (first
    | (go_at_call 9
       with_reducible refine Hp1.out.mono ?_
       rintro e w2 ⟨hb2, k1, a1, x1, A3, n3, c3, A4, n4, c4, A1, m1, c1, rfl⟩
       have Hq := Lib.hid ((Hpw.out.step hb2).alloc (.cells #[.int .i64 k1, .int .i64 a1, .string x1, .slice A3 n3 c3, .slice A4 n4 c4, .slice A1 m1 c1] 31)); clear hb2 Hpw Hp1)
    | (go_at_call 9
       with_reducible refine (Hp2.out _ Hq.out.wds).mono ?_
       rintro e w3 ⟨hb3, k2, a2, x2, B3, o3, d3, B4, o4, d4, B1, o1, d1, rfl⟩
       have Hq2 := Lib.hid ((Hq.out.step hb3).alloc (.cells #[.int .i64 k2, .int .i64 a2, .string x2, .slice B3 o3 d3, .slice B4 o4 d4, .slice B1 o1 d1] 31)); clear hb3 Hq Hp2)
    | (go_at_call 8
       with_reducible refine (Htok.out _).mono ?_
       rintro e w4 ⟨hb4, g, n4', c4', hn4, hn9, rfl, t0, t1, hgl⟩
       have Hq3 := Lib.hid (Hq2.out.step hb4); clear hb4 Hq2 Htok))
  all_goals first
    | (exfalso; omega)
    | (have Hq4 := Lib.hid Hq3.out.drew
       have Hq4a := Lib.hid (Hq3.out.alloc (.cells #[.int .i64 0, .int .i64 0, .string ⟨#[]⟩, .slice none 0 0, .slice none 0 0, .slice none 0 0] 31)).drew; clear Hq3
       have t1a : (w4.drew.alloc (.cells #[.int .i64 0, .int .i64 0, .string ⟨#[]⟩, .slice none 0 0, .slice none 0 0, .slice none 0 0] 31)).cell? ⟨g, 1, none⟩ = some (.string ⟨tx.toArray⟩) := (World.cell?_alloc_lt _ _ _ hgl).trans t1
       have s1 : ¬ 9223372036854775807 < i + List.length tx := by omega
       have s2 : ¬ 9223372036854775807 < i + List.length tx + 1 := by omega
       have s3 : ¬ 9223372036854775807 < i + List.length tx + 1 + other.size := by omega
       go_region_law (first
         | (go_simp
            go_at_call 9
            refine (Hp3.out _ (by first | with_reducible exact Hq4.out.wds | with_reducible exact Hq4a.out.wds)).mono ?_
            rintro e w5 ⟨hb5, k5, a5, x5, D3, o5, d5, D4, o6, d6, D1, o7, d7, rfl⟩
            have Hq5 := Lib.hid ((show PW w _ by first | with_reducible exact Hq4.out | with_reducible exact Hq4a.out).step hb5)
            first
              | (have hz0 : Blk w5 w4.heap.size 31 #[.int .i64 0, .int .i64 0, .string ⟨#[]⟩, .slice none 0 0, .slice none 0 0, .slice none 0 0] := Blk.below (Blk.new w4 _ _).drew hb5 (by simp)
                 have z0 := hz0.cell 0; have z1 := hz0.cell 1; have z2 := hz0.cell 2; have z3 := hz0.cell 3; have z4 := hz0.cell 4; have z5 := hz0.cell 5
                 simp at z0 z1 z2 z3 z4 z5
                 have y0 := hz0.frozen 0; have y1 := hz0.frozen 1; have y2 := hz0.frozen 2; have y3 := hz0.frozen 3; have y4 := hz0.frozen 4; have y5 := hz0.frozen 5
                 clear hz0 hb5)
              | clear hb5))
       all_goals try clear z0 z1 z2 z3 z4 z5 y0 y1 y2 y3 y4 y5
       all_goals clear t0 t1 t1a
       all_goals have hge : w.heap.size ≤ w4.heap.size := Hq4.out.bel.size
       all_goals clear Hq4 Hq4a Hp3 s1 s2 s3
       all_goals first
         | (with_reducible change Exit.then _ _ _ _ (World.setCell _ _ _)
            have Hq6 := Lib.hid (Hq5.out.set6 Hw0.out hge (.int .i64 k5) (.int .i64 a5) (.string x5) (.slice D3 o5 d5) (.slice D4 o6 d6) (.slice D1 o7 d7)); clear Hq5
            generalize ((((((w5.setCell ⟨w4.heap.size, 0, none⟩ (.int .i64 k5)).setCell ⟨w4.heap.size, 1, none⟩ (.int .i64 a5)).setCell ⟨w4.heap.size, 2, none⟩ (.string x5)).setCell ⟨w4.heap.size, 3, none⟩ (.slice D3 o5 d5)).setCell ⟨w4.heap.size, 4, none⟩ (.slice D4 o6 d6)).setCell ⟨w4.heap.size, 5, none⟩ (.slice D1 o7 d7)) = W6 at Hq6 ⊢)
         | (have Hq6 := Lib.hid (Hq5.out.alloc (.cells #[.int .i64 k5, .int .i64 a5, .string x5, .slice D3 o5 d5, .slice D4 o6 d6, .slice D1 o7 d7] 31)); clear Hq5
            generalize (w5.alloc (.cells #[.int .i64 k5, .int .i64 a5, .string x5, .slice D3 o5 d5, .slice D4 o6 d6, .slice D1 o7 d7] 31)) = W6 at Hq6 ⊢)
       all_goals clear Hw0
       all_goals go_wp2_with (go_at_call 7; refine (falive_any _ Hq6.out.wds).mono ?_; rintro e w6 ⟨rfl, hb6⟩)
       all_goals (
         go_ret
         exact ⟨rfl, (Hq6.out.step hb6).bel⟩))

set_option maxRecDepth 100000 in
set_option maxHeartbeats 2000000 in
theorem ffirst_hard (text other : ByteArray) (w : World) (hs : text.size ≤ 8000) (ho : other.size ≤ 8000) (hw : HasW w) (i : Nat) (hi : Fo.readF text.toList = .error i) :
    Calls Tryd.prog 4 #[.string text, .string other] w fun e w' => e = .returned (.bool true) ∧ Below w.heap.size w w' := by
  have hout : outP text.toList = (zF, i, 3) := by unfold outP; rw [hi]
  obtain ⟨hile, hpre, hnext⟩ := Fo.first_fact hi
  rw [length_bytes] at hile
  have Hp1 := Lib.hid (parse_at hout w (by omega) hw)
  have Hpw := Lib.hid (PW.start hw)
  have Hw0 := Lib.hid hw
  have htk : (text.extract 0 i).toList = text.toList.take i := take_bytes text i hile
  have hsz0 : (text.extract 0 i).size ≤ 40000 := by rw [ByteArray.size_extract]; omega
  obtain ⟨f2, i2, r2, hout2, hr2⟩ : ∃ f2 i2 r2, outP (text.extract 0 i).toList = (f2, i2, r2) ∧ (r2 = 0 ∨ r2 = 1 ∨ (r2 = 3 ∧ i2 = i)) := by
    rcases outP_kinds (text.extract 0 i).toList with ⟨j, h1, h2⟩ | ⟨f, r, h2, h3, -⟩
    · rw [htk] at h1
      exact ⟨_, _, _, h2, .inr (.inr ⟨rfl, hpre j h1⟩)⟩
    · rcases h3 with h3 | h3
      · exact ⟨_, _, _, h2, .inl h3⟩
      · exact ⟨_, _, _, h2, .inr (.inl h3)⟩
  have Hp2 := Lib.hid (fun (W : World) (hW : HasW W) => parse_at hout2 W hsz0 hW)
  have Hnext := Lib.hid hnext; clear hnext hpre
  clear hw hout htk hout2 hi
  have hr2' : ∃ r2 i2, (r2 = (0 : Int) ∨ r2 = 1 ∨ (r2 = 3 ∧ i2 = (i : Int))) ∧ ∀ (W : World), HasW W → Calls Tryd.prog 9 #[.string (text.extract 0 i)] W (PPx i2 r2 W) := ⟨r2, i2, by rcases hr2 with h | h | ⟨h1, h2⟩; exact .inl h; exact .inr (.inl h); exact .inr (.inr ⟨h1, by rw [h2]⟩), Hp2.out⟩
  clear Hp2 hr2
  clear r2 i2 f2
  obtain ⟨r2, i2, hr2, hp2⟩ := hr2'
  have Hp2 := Lib.hid hp2; clear hp2
  by_cases hend : i = text.size
  · subst hend
    have hp2 := Hp2.out
    simp only [ByteArray.extract_zero_size] at hp2
    clear Hnext hsz0 hile Hp2
    have Hp2 := Lib.hid hp2; clear hp2
    rcases hr2 with rfl | rfl | ⟨rfl, rfl⟩
    all_goals (
      go_enter Tryd.func4, Tryd.ntmps4
      go_wp2_with (first
        | (go_at_call 9
           with_reducible refine Hp1.out.mono ?_
           rintro e w2 ⟨hb2, k1, a1, x1, A3, n3, c3, A4, n4, c4, A1, m1, c1, rfl⟩
           have Hq := Lib.hid ((Hpw.out.step hb2).alloc (.cells #[.int .i64 k1, .int .i64 a1, .string x1, .slice A3 n3 c3, .slice A4 n4 c4, .slice A1 m1 c1] 31)); clear hb2 Hpw Hp1)
        | (go_at_call 9
           with_reducible refine (Hp2.out _ Hq.out.wds).mono ?_
           rintro e w3 ⟨hb3, k2, a2, x2, B3, o3, d3, B4, o4, d4, B1, o1, d1, rfl⟩
           have Hq2 := Lib.hid ((Hq.out.step hb3).alloc (.cells #[.int .i64 k2, .int .i64 a2, .string x2, .slice B3 o3 d3, .slice B4 o4 d4, .slice B1 o1 d1] 31)); clear hb3 Hq Hp2)
        | (go_at_call 7
           refine (falive_any _ Hq2.out.wds).mono ?_
           rintro e w5 ⟨rfl, hb5⟩
           have Hz := Lib.hid (Hq2.out.step hb5); clear hb5))
      all_goals first
        | (exfalso; omega)
        | (go_ret
           exact ⟨rfl, Hz.out.bel⟩))
  · have hlt : i < text.size := by omega
    obtain ⟨tx, rr, htoks, htxl, htail⟩ := Hnext.out (by rw [length_bytes]; exact hlt)
    rw [length_bytes] at htxl
    have htok := fun (W : World) => reftokens_any (text.extract i text.size) W (by rw [ByteArray.size_extract]; omega)
    have hrl : ((0, tx) :: rr : List Fo.Tok).length ≤ 1000000000 := by
      have h1 := (Fo.toks_sum (text.toList.drop i).length 0 (text.toList.drop i)).2
      rw [show Fo.toksN (text.toList.drop i).length 0 (text.toList.drop i) = (0, tx) :: rr from htoks, List.length_drop, length_bytes] at h1
      omega
    rw [drop_bytes, htoks] at htok
    have Htok := Lib.hid (fun W => (htok W).mono fun e w' h => tokens_first hrl h)
    have hp3 : ∀ (W : World), HasW W → Calls Tryd.prog 9 #[.string (text.extract 0 i ++ ⟨tx.toArray⟩ ++ ⟨#[32]⟩ ++ other)] W (PPx (i : Nat) 3 W) := fun W hW => by
      refine parse_at (f := zF) ?_ W ?_ hW
      · unfold outP
        rw [app_bytes, app_bytes, app_bytes, take_bytes text i (by omega), show (⟨tx.toArray⟩ : ByteArray).toList = tx by rw [ByteArray.toList_eq], show (⟨#[32]⟩ : ByteArray).toList = [32] by rw [ByteArray.toList_eq]]
        have := htail other.toList
        rw [show text.toList.take i ++ tx ++ [32] ++ other.toList = text.toList.take i ++ tx ++ 32 :: other.toList by simp, this]
      · rw [← length_bytes, app_bytes, app_bytes, app_bytes, take_bytes text i (by omega), show (⟨tx.toArray⟩ : ByteArray).toList = tx by rw [ByteArray.toList_eq], show (⟨#[32]⟩ : ByteArray).toList = [32] by rw [ByteArray.toList_eq]]
        simp only [List.length_append, List.length_take, length_bytes, List.length_singleton]
        omega
    have Hp3 := Lib.hid hp3; clear hp3 htok htail htoks Hnext hend
    rcases hr2 with rfl | rfl | ⟨rfl, rfl⟩
    · exact ffirst_mid0 i2 text other w i tx hs ho hile hlt htxl hsz0 Hw0 Hpw Hp1 Hp2 Htok Hp3
    · exact ffirst_mid1 i2 text other w i tx hs ho hile hlt htxl hsz0 Hw0 Hpw Hp1 Hp2 Htok Hp3
    · exact ffirst_mid3 text other w i tx hs ho hile hlt htxl hsz0 Hw0 Hpw Hp1 Hp2 Htok Hp3

/-- FormulaFirst, at any two texts. -/
theorem ffirst_any (text other : ByteArray) (w : World) (hs : text.size ≤ 140737488351232) (ho : other.size ≤ 140737488351232) (hw : HasW w) :
    Calls Tryd.prog 4 #[.string text, .string other] w fun e w' => e = .returned (.bool true) ∧ Below w.heap.size w w' := by
  by_cases h1 : 8000 < text.size
  · exact ffirst_easy text other w hs ho hw (.inl h1)
  by_cases h2 : 8000 < other.size
  · exact ffirst_easy text other w hs ho hw (.inr (.inl h2))
  rcases outP_kinds text.toList with ⟨i, h3, -⟩ | ⟨f, r, h3, h4, -⟩
  · exact ffirst_hard text other w (by omega) (by omega) hw i h3
  · exact ffirst_easy text other w hs ho hw (.inr (.inr ⟨f, r, h3, h4⟩))

end Go.Proofs.YtmnpelhcgobfaaaDoor

/-
  What closes a law of chapter 2: the listed variables' facts, the arguments as numbers and lists, the post-condition 'true, and every argument reads as it did', the witness's world.
-/
namespace Go.Proofs.YtmnpelhcgobfaaaDoor
open Go.ChangeShapes Go.WideShapes Go.ChangeAt Go.RowKit

theorem own : ownKnob Tryd.prog.godebug = none := by kernel_rfl
theorem laidOut : laidOutB Tryd.prog = true := by kernel_rfl
theorem star : "*" ++ "errors.errorString" = "*errors.errorString" := by decide
theorem rowErr (u : TypeId) (h : Tryd.prog.typeName? 3 u = some "*errors.errorString") : u = 148 :=
  typeName_ptr_named (nm := "errors.errorString") (by rw [star]; kernel_rfl) (by kernel_rfl) (by decide) u (by rw [star]; exact h)

def laidList : List (String × DataW Unit) := [("math/bits.deBruijn32tab", Rows.laid_math_bits_deBruijn32tab), ("math/bits.deBruijn64tab", Rows.laid_math_bits_deBruijn64tab), ("internal/strconv.uint64pow10", Rows.laid_internal_strconv_uint64pow10), ("strconv.ErrRange", Rows.laid_strconv_ErrRange), ("strconv.ErrSyntax", Rows.laid_strconv_ErrSyntax), ("paraphrast/formula.words", Rows.laid_paraphrast_formula_words)]

theorem words_len : wordsB.length = 12 := rfl
theorem words_lit : (Rows.laid_paraphrast_formula_words : DataW Unit) = .agg (wordsB.map fun s => .lit (.string s.data.toList)) := by kernel_rfl

set_option maxRecDepth 100000 in
theorem words_of_laid {W : World} (h : laidMet Tryd.prog laidList W) : HasW W := by
  obtain ⟨ps, ⟨g, t, cs, fuel, p, q, hg, ht, hv, htr, -⟩, -⟩ := h.tail.tail.tail.tail.tail
  have hg' : Tryd.prog.globalNamed "paraphrast/formula.words" = some 0 := by kernel_rfl
  obtain rfl := Option.some.inj (hg'.symm.trans hg)
  have ht' : (Tryd.prog.globals[0]?).map (·.type) = some 94 := by kernel_rfl
  obtain rfl := Option.some.inj (ht'.symm.trans ht)
  unfold World.var? at hv
  rw [hg', Option.bind_some] at hv
  have hb : ∃ t2 f2, W.heap[0]? = some (.cells cs t2 f2) := by
    split at hv
    · rename_i c2 t2 f2 he
      have e := Option.some.inj hv
      subst e
      exact ⟨t2, f2, he⟩
    · cases hv
  obtain ⟨t2, f2, he⟩ := hb
  have hlt : 0 < W.heap.size := by
    rcases Nat.lt_or_ge 0 W.heap.size with hz | hz
    · exact hz
    · rw [Array.getElem?_eq_none hz] at he; cases he
  refine ⟨fun j s hj => ?_, hlt⟩
  obtain ⟨xs, m, -, hx, hcl, hxl, hel⟩ := DataW.trod_array Tryd.underlying94 htr
  simp only [Prod.mk.injEq] at hx
  rw [words_lit] at hx
  have hx1 := hx.1
  injection hx1 with hx1
  have hj12 : j < 12 := by
    rcases Nat.lt_or_ge j 12 with h | h
    · exact h
    · rw [List.getElem?_eq_none (by rw [words_len]; exact h)] at hj; cases hj
  have h1 := hel j hj12
  rw [show Tryd.prog.cellsOf 9 = 1 by kernel_rfl, Nat.mul_one, List.getElem?_eq_getElem (by omega)] at h1
  obtain ⟨s', e0, e1, -⟩ := DataW.trod_string Tryd.underlying9 h1
  have e2 : (xs.map (·.1))[j]? = some (.lit (.string s'.data.toList)) := by
    rw [List.getElem?_map, List.getElem?_eq_getElem (by omega), Option.map_some, e1]
  rw [← hx1, List.getElem?_map, hj, Option.map_some] at e2
  have e3 : s.data.toList = s'.data.toList := by simpa using e2
  have e4 : s = s' := WideShapes.bytes_inj e3
  subst e4
  have hcs : cs[j]? = some (.string s) := by
    have h2 : (cs.toList.drop j).head? = some (.string s) := by
      have h3 : ((cs.toList.drop j).take 1).head? = some (.string s) := by rw [e0]; rfl
      rw [List.head?_take] at h3
      simpa using h3
    rw [List.head?_drop] at h2
    simpa using h2
  unfold World.cell?
  rw [he]
  simpa using hcs

theorem cellLt {w : World} {a : Addr} {v : Value} (h : w.cell? a = some v) : a.block < w.heap.size := by
  rcases Nat.lt_or_ge a.block w.heap.size with h' | h'
  · exact h'
  · unfold World.cell? at h
    rw [Array.getElem?_eq_none h'] at h
    cases h

section
variable {H : Type} {enc : TypeId × Value → H} {W W' : World}

/-- Every argument reads as it did, where below the heap's old size nothing has turned. -/
theorem args_keep (hb : Below W.heap.size W W') (sp : Nat → Bool) : ∀ (ts : List TypeId) (vs : List Value) (ds : List (DataW H)) (p : List MemPlace), DataW.TrodAll enc Tryd.prog W 0 (fun _ => true) true ts vs ds p →
    (∀ t ∈ ts, Tryd.prog.readableRec t = true ∧ t < Tryd.prog.types.size) → (∀ x ∈ p, x.block < W.heap.size) → (∀ x ∈ p, sp x.block = true) → DataW.TrodAll enc Tryd.prog W' 0 sp true ts vs ds p
  | [], vs, ds, p, h, _, _, _ => by
    obtain ⟨rfl, rfl, rfl⟩ := trodAll_nil h
    exact trodAll_mk0
  | t :: ts, vs, ds, p, h, hr, hl, hs => by
    obtain ⟨v0, vs0, d0, ds0, p0, q0, rfl, rfl, rfl, h0, r0⟩ := trodAll_cons h
    have ht := hr t (List.mem_cons_self ..)
    exact trodAll_cons_mk (WideElems.Trod_stays laidOut ht.1 ht.2 h0 (fun x hx => hb.same (hl x (List.mem_append_left _ hx))) (fun x hx => hs x (List.mem_append_left _ hx)))
      (args_keep hb sp ts vs0 ds0 q0 r0 (fun u hu => hr u (List.mem_cons_of_mem _ hu)) (fun x hx => hl x (List.mem_append_right _ hx)) (fun x hx => hs x (List.mem_append_right _ hx)))

theorem trodVars_nil_mk {sp : Nat → Bool} : DataW.TrodVars enc Tryd.prog W' sp [] [] [] := rfl

set_option maxRecDepth 100000 in
/-- The post-condition of every row here. -/
theorem post_true {f : Func} {s : ChangeSpec} {apart fresh handsOn again : Bool} {args : Array Value} {ds gs : List (DataW H)} {before : List MemPlace}
    (hf : f.resultTypes = #[4]) (hv : s.vars = []) (hs : s.fn H (ds ++ gs) = { results := [.lit (.bool true)], args := ds })
    (hr : ∀ t ∈ f.params.toList, Tryd.prog.readableRec t = true ∧ t < Tryd.prog.types.size)
    (hW : DataW.Whole enc Tryd.prog f.params.toList s.vars apart W args.toList ds gs before) (hb : Below W.heap.size W W') :
    s.post enc Tryd.prog f apart fresh handsOn again W args (.bool true) W' := by
  have hlt : ∀ x ∈ before, x.block < W.heap.size := fun x hx => hW.lt x hx
  have hW' := hW
  obtain ⟨p, q, hA, hV, hpq, hz, hn⟩ := hW
  rw [hv] at hV
  obtain ⟨rfl, rfl⟩ := trodVars_none hV
  rw [List.append_nil] at hpq
  subst hpq
  have hret : ∀ (b : Nat) (sp : Nat → Bool) (hd : Bool), DataW.TrodAll enc Tryd.prog W' b sp hd f.resultTypes.toList ((Value.bool true).resultList f.resultTypes.size) (s.fn H (ds ++ [])).results [] := fun b sp hd => by
    rw [hf, hs]; exact trodAll_cons_mk (shut_bool Tryd.underlying4 _) trodAll_mk0
  have hin : ∀ sp : Nat → Bool, (∀ x ∈ before, sp x.block = true) → DataW.TrodAll enc Tryd.prog W' 0 sp true f.params.toList args.toList (s.fn H (ds ++ [])).args before := fun sp hsp => by
    rw [hs]; exact args_keep hb sp _ _ _ _ hA hr hlt hsp
  have hvr : ∀ sp : Nat → Bool, DataW.TrodVars enc Tryd.prog W' sp s.vars (s.fn H (ds ++ [])).vars [] := fun sp => by
    rw [hs, hv]; exact trodVars_nil_mk
  have hok : ∀ (j : Nat) (t : TypeId) (r : Value), f.resultTypes[j]? = some t → ((Value.bool true).resultList f.resultTypes.size)[j]? = some r → Value.okWide Tryd.prog W' .any 0 t r :=
by
    intro j t r hj hr'
    rw [hf] at hj hr'
    match j, hj, hr' with
    | 0, hj, hr' =>
      simp [Value.resultList] at hj hr'
      subst hj; subst hr'
      exact okWide_bool_mk Tryd.underlying4 _
    | j + 1, hj, _ => simp at hj
  refine ⟨ds, [], before, [], before, [], hW', hret _ _ _, hin _ (fun x hx => by simpa using hlt x hx), hvr _, World.keptBut_mono (fun x hx => ⟨hx, Or.inr (by simpa using hx)⟩) (hb.frame (· ∈ before)), fun _ => ?_⟩
  refine ⟨hok, _, _, ([] ++ before) ++ [], ⟨[] ++ before, [], trodAll_append (hin _ (fun _ _ => rfl)) (hret _ _ _), hvr _, rfl, ?_, ?_⟩, ?_⟩
  · intro b off hp
    have hp' : MemPlace.cell b off ∈ before := by simpa using hp
    rw [hb.frozen (hlt _ hp')]
    exact hz b off hp'
  · intro ha
    simpa using hn ha
  · intro x hx _
    simpa using hx

end

end Go.Proofs.YtmnpelhcgobfaaaDoor
