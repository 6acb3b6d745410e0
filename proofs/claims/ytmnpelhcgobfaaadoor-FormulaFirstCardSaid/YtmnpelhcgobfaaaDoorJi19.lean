/-
  Texts joined: Ftext, Ftok, Fblank, Fglue, Ftokr, Fglue2, Fpp.
-/
import Derived.Test.YtmnpelhcgobfaaaDoorJi2
import Derived.Laws.Strings
import Derived.Test.YtmnpelhcgobfaaaDoorJi3
import Derived.Test.YtmnpelhcgobfaaaDoorJi8
import Derived.Test.YtmnpelhcgobfaaaDoorJi17
import Derived.Test.YtmnpelhcgobfaaaDoorJi18
import Derived.Lib.AppendStr
import Derived.Lib.SmallJoins
import Derived.Laws.IdiomStrings
import Derived.Laws.BytesArg

/-
  Plain mathematics: the tokens that the text of a formula has; the grammar reads the formula back from them.
-/
namespace Go.Proofs.YtmnpelhcgobfaaaDoor.Fo

theorem ba_toList (s : ByteArray) : (⟨s.toList.toArray⟩ : ByteArray) = s := by
  rw [ByteArray.toList_eq]
theorem ba_nil {s : ByteArray} (h : s.toList = []) : s = noName := by
  rw [ByteArray.toList_eq] at h
  cases s with
  | mk d => rw [show d = #[] by cases d; simp at h; rw [h]]; rfl

/-- A number from 0 to 12 as text. -/
def numS (a : Int) : Bs := if a < 10 then [48 + UInt8.ofNat a.toNat] else [49, 38 + UInt8.ofNat a.toNat]
theorem numS_num {a : Int} (h0 : 0 ≤ a) (h1 : a ≤ 12) : numB (numS a) = true ∧ numI (numS a) = a := by
  have : a = 0 ∨ a = 1 ∨ a = 2 ∨ a = 3 ∨ a = 4 ∨ a = 5 ∨ a = 6 ∨ a = 7 ∨ a = 8 ∨ a = 9 ∨ a = 10 ∨ a = 11 ∨ a = 12 := by omega
  rcases this with rfl | rfl | rfl | rfl | rfl | rfl | rfl | rfl | rfl | rfl | rfl | rfl | rfl <;> exact ⟨by decide, by decide⟩

/-- The words. -/
def wordS (k : Int) : Bs :=
  if k = 3 then [110, 111, 116] else if k = 4 then [97, 110, 100] else if k = 5 then [111, 114]
  else if k = 6 then [115, 111, 109, 101] else if k = 7 then [97, 108, 108] else if k = 8 then [108, 102, 112]
  else if k = 9 then [112, 102, 112] else if k = 10 then [116, 99] else [101, 120, 105, 115, 116, 115]
theorem wordS_is {k : Int} (h0 : 3 ≤ k) (h1 : k ≤ 11) : Sh.nameB (wordS k) = false ∧ wordS k ≠ [116, 114, 117, 101] ∧ wordS k ≠ [102, 97, 108, 115, 101] ∧ wordS k ≠ [41] ∧ wordK (wordS k) = some k := by
  have : k = 3 ∨ k = 4 ∨ k = 5 ∨ k = 6 ∨ k = 7 ∨ k = 8 ∨ k = 9 ∨ k = 10 ∨ k = 11 := by omega
  rcases this with rfl | rfl | rfl | rfl | rfl | rfl | rfl | rfl | rfl <;> exact ⟨by decide, by decide, by decide, by decide, by decide⟩

def bytesL (l : List ByteArray) : List Bs := l.map (·.toList)
/-- What is bound, as it is written before the kid; what stands behind the kid. -/
def headS (k a : Int) (n : ByteArray) (vs : List ByteArray) : List Bs :=
  if k = 11 then [n.toList, numS a, [58]] else if k = 8 ∨ k = 9 then n.toList :: (bytesL vs ++ [[58]]) else if k = 6 ∨ k = 7 ∨ k = 10 then bytesL vs ++ [[58]] else []
def tailS (k : Int) (ags : List ByteArray) : List Bs := if k = 8 ∨ k = 9 ∨ k = 10 then [40] :: (bytesL ags ++ [[41]]) else []

mutual
def tokF : Fb → List Bs
  | .mk k a n vs ags ks =>
    if k = 0 then n.toList :: [40] :: (bytesL ags ++ [[41]])
    else if k = 1 then [(ags.getD 0 noName).toList, [61], (ags.getD 1 noName).toList]
    else if k = 2 then [(ags.getD 0 noName).toList, [60], (ags.getD 1 noName).toList]
    else if (k = 4 ∨ k = 5) then (match ks with | [] => [if k = 4 then [116, 114, 117, 101] else [102, 97, 108, 115, 101]] | f :: l => wordS k :: [40] :: (tokF f ++ tokM l))
    else wordS k :: [40] :: (headS k a n vs ++ (tokL ks ++ ([41] :: tailS k ags)))
def tokL : List Fb → List Bs
  | [] => []
  | f :: l => tokF f ++ tokL l
def tokM : List Fb → List Bs
  | [] => [[41]]
  | f :: l => [44] :: (tokF f ++ tokM l)
end

theorem takeT_tok {p : Bs → Bool} {i : Nat} {x : Bs} {r : List Tok} (h : p x = true) : takeT p ((i, x) :: r) = .ok (x, r) := by
  simp only [takeT]; rw [if_pos h]
theorem map_cons {p : List Tok} {x : Bs} {l : List Bs} (h : p.map (·.2) = x :: l) : ∃ i q, p = (i, x) :: q ∧ q.map (·.2) = l := by
  cases p with
  | nil => cases h
  | cons t q =>
    obtain ⟨i, y⟩ := t
    simp only [List.map_cons, List.cons.injEq] at h
    obtain ⟨rfl, h⟩ := h
    exact ⟨i, q, rfl, h⟩
theorem map_nil {p : List Tok} (h : p.map (·.2) = ([] : List Bs)) : p = [] := by cases p with | nil => rfl | cons t q => cases h
theorem map_app {p : List Tok} {a b : List Bs} (h : p.map (·.2) = a ++ b) : ∃ pa pb, p = pa ++ pb ∧ pa.map (·.2) = a ∧ pb.map (·.2) = b := by
  obtain ⟨pa, pb, e, h1, h2⟩ := List.map_eq_append_iff.1 h
  exact ⟨pa, pb, e, h1, h2⟩

theorem namesT_tok {stop : Bs} (hs : Sh.nameB stop = false) : ∀ (vs : List ByteArray) (p r : List Tok), vs.all nmB = true → p.map (·.2) = bytesL vs ++ [stop] → namesT stop (p ++ r) = .ok (vs, r)
  | [], p, r, _, h => by
    obtain ⟨i, q, rfl, h1⟩ := map_cons h
    obtain rfl := map_nil h1
    simp only [List.cons_append, List.nil_append, namesT]
    rw [if_neg (by simp [hs])]
    simp
  | v :: l, p, r, hv, h => by
    simp only [List.all_cons, Bool.and_eq_true] at hv
    obtain ⟨i, q, rfl, h1⟩ := map_cons (show p.map (·.2) = v.toList :: (bytesL l ++ [stop]) from h)
    simp only [List.cons_append, namesT]
    rw [if_pos (show Sh.nameB v.toList = true from hv.1), namesT_tok hs l q r hv.2 h1]
    simp only [bnd, ba_toList]

theorem fit_parts {k a : Int} {n : ByteArray} {vs ags : List ByteArray} {nk : Nat} (h : fitP k a n vs ags nk = true) : numbersB k vs.length ags.length nk = true ∧ namedB k a n = true ∧ ags.all nmB = true ∧ vs.all nmB = true := by
  simp only [fitP, Bool.and_eq_true] at h
  exact ⟨h.1.1.1.1, h.1.1.1.2, h.1.1.2, h.1.2⟩
theorem plain_name {k a : Int} {n : ByteArray} (h : namedB k a n = true) (hk : ¬ k = 11) (hb : ¬ (k = 0 ∨ bindsB k = true)) : n = noName ∧ a = 0 := by
  unfold namedB at h
  rw [if_neg hk, if_neg hb] at h
  simp only [Bool.and_eq_true, decide_eq_true_eq] at h
  exact ⟨ba_nil h.1, h.2⟩
theorem bound_name {k a : Int} {n : ByteArray} (h : namedB k a n = true) (hk : ¬ k = 11) (hb : k = 0 ∨ bindsB k = true) : nmB n = true ∧ a = 0 := by
  unfold namedB at h
  rw [if_neg hk, if_pos hb] at h
  simp only [Bool.and_eq_true, decide_eq_true_eq] at h
  exact h

theorem colon : Sh.nameB [58] = false := by decide
theorem close_ : Sh.nameB [41] = false := by decide
theorem take_name {i : Nat} {n : ByteArray} {q : List Tok} (h : nmB n = true) : takeT Sh.nameB ((i, n.toList) :: q) = .ok (n.toList, q) := takeT_tok h

theorem headT_tok {k a : Int} {n : ByteArray} {vs ags : List ByteArray} {nk : Nat} (hfit : fitP k a n vs ags nk = true) (hk : k = 3 ∨ k = 6 ∨ k = 7 ∨ k = 8 ∨ k = 9 ∨ k = 10 ∨ k = 11) {p r : List Tok} (h : p.map (·.2) = headS k a n vs) : headT k (p ++ r) = .ok ((n, a, vs), r) := by
  obtain ⟨h1, h2, h3, h4⟩ := fit_parts hfit
  rcases hk with rfl | rfl | rfl | rfl | rfl | rfl | rfl
  · obtain ⟨rfl, rfl⟩ := plain_name h2 (by decide) (by decide)
    obtain rfl : vs = [] := by simp [numbersB] at h1; exact h1.1.1
    obtain rfl := map_nil h
    rfl
  · obtain ⟨rfl, rfl⟩ := plain_name h2 (by decide) (by decide)
    have e := namesT_tok colon vs p r h4 h
    simp [headT, optT, bindsB, bnd, e]
  · obtain ⟨rfl, rfl⟩ := plain_name h2 (by decide) (by decide)
    have e := namesT_tok colon vs p r h4 h
    simp [headT, optT, bindsB, bnd, e]
  · obtain ⟨hn, rfl⟩ := bound_name h2 (by decide) (by decide)
    obtain ⟨i, q, rfl, hq⟩ := map_cons h
    have e := namesT_tok colon vs q r h4 hq
    simp [headT, optT, bindsB, bnd, take_name hn, e, ba_toList]
  · obtain ⟨hn, rfl⟩ := bound_name h2 (by decide) (by decide)
    obtain ⟨i, q, rfl, hq⟩ := map_cons h
    have e := namesT_tok colon vs q r h4 hq
    simp [headT, optT, bindsB, bnd, take_name hn, e, ba_toList]
  · obtain ⟨rfl, rfl⟩ := plain_name h2 (by decide) (by decide)
    have e := namesT_tok colon vs p r h4 h
    simp [headT, optT, bindsB, bnd, e]
  · have hn : nmB n = true ∧ 0 ≤ a ∧ a ≤ 12 := by
      simp only [namedB, if_pos, Bool.and_eq_true, decide_eq_true_eq] at h2
      exact ⟨h2.1.1, h2.1.2, h2.2⟩
    obtain ⟨g1, g2⟩ := numS_num hn.2.1 hn.2.2
    obtain rfl : vs = [] := by simp [numbersB] at h1; exact h1.1.1
    obtain ⟨i, q, rfl, hq⟩ := map_cons h
    obtain ⟨i2, q2, rfl, hq2⟩ := map_cons hq
    obtain ⟨i3, q3, rfl, hq3⟩ := map_cons hq2
    obtain rfl := map_nil hq3
    simp [headT, optT, bindsB, bnd, take_name hn.1, numT, takeT_tok g1, g2, takeT_tok (p := isT [58]) (show isT [58] [58] = true by decide), ba_toList]

theorem tailT_tok {k a : Int} {n : ByteArray} {vs ags : List ByteArray} {nk : Nat} (hfit : fitP k a n vs ags nk = true) (hk : k = 3 ∨ k = 6 ∨ k = 7 ∨ k = 8 ∨ k = 9 ∨ k = 10 ∨ k = 11) {p r : List Tok} (h : p.map (·.2) = tailS k ags) : tailT k (p ++ r) = .ok (ags, r) := by
  obtain ⟨h1, h2, h3, h4⟩ := fit_parts hfit
  by_cases hc : k = 8 ∨ k = 9 ∨ k = 10
  · unfold tailS at h
    rw [if_pos hc] at h
    obtain ⟨i, q, rfl, hq⟩ := map_cons h
    have e := namesT_tok close_ ags q r h3 hq
    unfold tailT optT
    rw [if_pos (decide_eq_true hc), List.cons_append]
    simp only [takeT_tok (p := isT [40]) (x := [40]) (by decide), bnd]
    exact e
  · unfold tailS at h
    rw [if_neg hc] at h
    obtain rfl := map_nil h
    obtain rfl : ags = [] := by
      rcases hk with rfl | rfl | rfl | rfl | rfl | rfl | rfl <;> simp [numbersB] at h1 hc <;> simp_all
    unfold tailT optT
    rw [if_neg (by simp [hc])]
    rfl

/-- What comes behind a kid of a conjunction or a disjunction. -/
def afterK (f : Fb) : List Tok → Rd (List Fb)
  | [] => .error []
  | t :: r' => if t.2 = [41] then .ok ([f], r') else if t.2 = [44] then bnd (kidsF r') fun l r => .ok (f :: l, r) else .error (t :: r')
theorem kidsF_after (ts : List Tok) : kidsF ts = bnd (formF ts) afterK := by
  rw [kidsF_eq]
  refine bnd_congr fun f r _ => ?_
  cases r <;> rfl

theorem tokF_head : ∀ (f : Fb), shapes fitP f = true → ∃ x l, tokF f = x :: l ∧ x ≠ [41]
  | .mk k a n vs ags ks, h => by
    rw [shapes, Bool.and_eq_true] at h
    obtain ⟨h1, h2, h3, h4⟩ := fit_parts h.1
    have hname : ∀ m : ByteArray, nmB m = true → m.toList ≠ [41] := fun m hm e => by
      unfold nmB at hm; rw [e] at hm; exact absurd hm (by decide)
    unfold tokF
    by_cases k0 : k = 0
    · rw [if_pos k0]
      exact ⟨_, _, rfl, hname n (bound_name h2 (by omega) (.inl k0)).1⟩
    rw [if_neg k0]
    have h2as : k = 1 ∨ k = 2 → nmB (ags.getD 0 noName) = true := fun e => by
      have hl : ags.length = 2 := by rcases e with rfl | rfl <;> simp [numbersB] at h1 <;> exact h1.1.2
      match ags, hl with
      | [x, y], _ => simp only [List.all_cons, Bool.and_eq_true] at h3; exact h3.1
    by_cases k1 : k = 1
    · rw [if_pos k1]; exact ⟨_, _, rfl, hname _ (h2as (.inl k1))⟩
    rw [if_neg k1]
    by_cases k2 : k = 2
    · rw [if_pos k2]; exact ⟨_, _, rfl, hname _ (h2as (.inr k2))⟩
    rw [if_neg k2]
    have hk : 3 ≤ k ∧ k ≤ 11 := by
      refine Classical.byContradiction fun hn => ?_
      unfold numbersB at h1
      rw [if_neg k0, if_neg (by omega), if_neg (by omega), if_neg (by omega), if_neg (by omega), if_neg (by omega), if_neg (by omega)] at h1
      cases h1
    have hw := wordS_is hk.1 hk.2
    by_cases k4 : k = 4 ∨ k = 5
    · rw [if_pos k4]
      cases ks with
      | nil =>
        refine ⟨_, _, rfl, ?_⟩
        split <;> decide
      | cons f l => exact ⟨_, _, rfl, hw.2.2.2.1⟩
    · rw [if_neg k4]; exact ⟨_, _, rfl, hw.2.2.2.1⟩

mutual
/-- The grammar reads a formula back from its tokens. -/
theorem formF_tok : ∀ (f : Fb), shapes fitP f = true → ∀ (p r : List Tok), p.map (·.2) = tokF f → formF (p ++ r) = .ok (f, r)
  | .mk k a n vs ags ks, hsh, p, r, h => by
    rw [shapes, Bool.and_eq_true] at hsh
    obtain ⟨hfit, hks⟩ := hsh
    obtain ⟨h1, h2, h3, h4⟩ := fit_parts hfit
    unfold tokF at h
    by_cases k0 : k = 0
    · subst k0
      rw [if_pos rfl] at h
      obtain ⟨hn, rfl⟩ := bound_name h2 (by decide) (by decide)
      obtain ⟨i, q, rfl, hq⟩ := map_cons h
      obtain ⟨i2, q2, rfl, hq2⟩ := map_cons hq
      obtain ⟨⟨rfl, -⟩, hk0⟩ : (vs = [] ∧ ags.length ≤ 12) ∧ ks = [] := by simp [numbersB] at h1; exact h1
      subst hk0
      have e := namesT_tok close_ ags q2 r h3 hq2
      rw [List.cons_append, formF_cons, if_pos (show Sh.nameB n.toList = true from hn)]
      simp [atomT, e, bnd, ba_toList]
    rw [if_neg k0] at h
    have h2as : k = 1 ∨ k = 2 → ∃ x y, ags = [x, y] ∧ nmB x = true ∧ nmB y = true ∧ vs = [] ∧ ks = [] := fun e => by
      have hl : ags.length = 2 ∧ vs = [] ∧ ks = [] := by
        rcases e with rfl | rfl <;> simp [numbersB] at h1 <;> exact ⟨h1.1.2, h1.1.1, h1.2⟩
      match ags, hl.1 with
      | [x, y], _ =>
        simp only [List.all_cons, Bool.and_eq_true] at h3
        exact ⟨x, y, rfl, h3.1, h3.2.1, hl.2.1, hl.2.2⟩
    by_cases k1 : k = 1
    · rw [if_pos k1] at h
      obtain ⟨x, y, rfl, hx, hy, rfl, rfl⟩ := h2as (.inl k1)
      subst k1
      obtain ⟨rfl, rfl⟩ := plain_name h2 (by decide) (by decide)
      obtain ⟨i, q, rfl, hq⟩ := map_cons (show p.map (·.2) = [x.toList, [61], y.toList] from h)
      obtain ⟨i2, q2, rfl, hq2⟩ := map_cons hq
      obtain ⟨i3, q3, rfl, hq3⟩ := map_cons hq2
      obtain rfl := map_nil hq3
      rw [List.cons_append, formF_cons, if_pos (show Sh.nameB x.toList = true from hx)]
      have e := take_name (i := i3) (q := r) hy
      simp [atomT, e, bnd, ba_toList]
    rw [if_neg k1] at h
    by_cases k2 : k = 2
    · rw [if_pos k2] at h
      obtain ⟨x, y, rfl, hx, hy, rfl, rfl⟩ := h2as (.inr k2)
      subst k2
      obtain ⟨rfl, rfl⟩ := plain_name h2 (by decide) (by decide)
      obtain ⟨i, q, rfl, hq⟩ := map_cons (show p.map (·.2) = [x.toList, [60], y.toList] from h)
      obtain ⟨i2, q2, rfl, hq2⟩ := map_cons hq
      obtain ⟨i3, q3, rfl, hq3⟩ := map_cons hq2
      obtain rfl := map_nil hq3
      rw [List.cons_append, formF_cons, if_pos (show Sh.nameB x.toList = true from hx)]
      have e := take_name (i := i3) (q := r) hy
      simp [atomT, e, bnd, ba_toList]
    rw [if_neg k2] at h
    have hk : 3 ≤ k ∧ k ≤ 11 := by
      refine Classical.byContradiction fun hn => ?_
      unfold numbersB at h1
      rw [if_neg k0, if_neg (by omega), if_neg (by omega), if_neg (by omega), if_neg (by omega), if_neg (by omega), if_neg (by omega)] at h1
      cases h1
    obtain ⟨w1, w2, w3, w4, w5⟩ := wordS_is hk.1 hk.2
    by_cases k4 : k = 4 ∨ k = 5
    · rw [if_pos k4] at h
      obtain ⟨rfl, rfl⟩ := plain_name h2 (by omega) (by rcases k4 with rfl | rfl <;> decide)
      obtain ⟨rfl, rfl⟩ : vs = [] ∧ ags = [] := by rcases k4 with rfl | rfl <;> simp [numbersB] at h1 <;> exact h1
      cases ks with
      | nil =>
        rcases k4 with rfl | rfl
        · obtain ⟨i, q, rfl, hq⟩ := map_cons (show p.map (·.2) = [[116, 114, 117, 101]] from h)
          obtain rfl := map_nil hq
          rw [List.cons_append, formF_cons, if_neg (show ¬ Sh.nameB [116, 114, 117, 101] = true by decide)]
          rfl
        · obtain ⟨i, q, rfl, hq⟩ := map_cons (show p.map (·.2) = [[102, 97, 108, 115, 101]] from h)
          obtain rfl := map_nil hq
          rw [List.cons_append, formF_cons, if_neg (show ¬ Sh.nameB [102, 97, 108, 115, 101] = true by decide)]
          rfl
      | cons f l =>
        rw [shapesL, Bool.and_eq_true] at hks
        obtain ⟨i, q, rfl, hq⟩ := map_cons h
        obtain ⟨i2, q2, rfl, hq2⟩ := map_cons hq
        obtain ⟨pf, pl, rfl, hf, hl⟩ := map_app hq2
        have ef := formF_tok f hks.1 pf (pl ++ r) hf
        have el := more_tok l hks.2 f pl r hl
        have ek : kidsF (pf ++ (pl ++ r)) = .ok (f :: l, r) := by rw [kidsF_after, ef]; exact el
        have eh : listT kidsF (pf ++ (pl ++ r)) = .ok (f :: l, r) := by
          obtain ⟨x, m, ex, hx⟩ := tokF_head f hks.1
          rw [ex] at hf
          obtain ⟨i3, q3, rfl, -⟩ := map_cons hf
          rw [List.cons_append] at ek ⊢
          simp only [listT]
          rw [if_neg hx]
          exact ek
        simp only [List.cons_append, List.append_assoc]
        rw [formF_cons]
        simp only [w1, w2, w3, w5, if_neg, Bool.false_eq_true, not_false_iff, takeT_tok (p := isT [40]) (x := [40]) (show isT [40] [40] = true by decide), bnd, if_pos k4, eh]
    · rw [if_neg k4] at h
      have hkk : k = 3 ∨ k = 6 ∨ k = 7 ∨ k = 8 ∨ k = 9 ∨ k = 10 ∨ k = 11 := by omega
      have hone := fit_lp hfit (by omega)
      match ks, hone, hks, hfit, h with
      | [f], _, hks, hfit, h =>
        rw [shapesL, Bool.and_eq_true] at hks
        obtain ⟨i, q, rfl, hq⟩ := map_cons h
        obtain ⟨i2, q2, rfl, hq2⟩ := map_cons hq
        obtain ⟨ph, pb, rfl, hh, hb⟩ := map_app hq2
        have htl : tokL [f] = tokF f := by simp [tokL]
        rw [htl] at hb
        obtain ⟨pf, pc, rfl, hf, hc⟩ := map_app hb
        obtain ⟨i3, q3, rfl, ht⟩ := map_cons hc
        have e1 := headT_tok hfit hkk (r := pf ++ ((i3, [41]) :: (q3 ++ r))) hh
        have e2 := formF_tok f hks.1 pf ((i3, [41]) :: (q3 ++ r)) hf
        have e3 := tailT_tok hfit hkk (r := r) ht
        simp only [List.cons_append, List.append_assoc]
        rw [formF_cons]
        simp only [w1, w2, w3, w5, if_neg, Bool.false_eq_true, not_false_iff, takeT_tok (p := isT [40]) (x := [40]) (show isT [40] [40] = true by decide), bnd, if_neg k4, e1, e2, e3, takeT_tok (p := isT [41]) (x := [41]) (show isT [41] [41] = true by decide)]
theorem more_tok : ∀ (l : List Fb), shapesL fitP l = true → ∀ (f : Fb) (p r : List Tok), p.map (·.2) = tokM l → afterK f (p ++ r) = .ok (f :: l, r)
  | [], _, f, p, r, h => by
    obtain ⟨i, q, rfl, hq⟩ := map_cons h
    obtain rfl := map_nil hq
    simp [afterK]
  | g :: l, hsh, f, p, r, h => by
    rw [shapesL, Bool.and_eq_true] at hsh
    obtain ⟨i, q, rfl, hq⟩ := map_cons h
    obtain ⟨pg, pl, rfl, hg, hl⟩ := map_app hq
    have eg := formF_tok g hsh.1 pg (pl ++ r) hg
    have el := more_tok l hsh.2 g pl r hl
    have ek : kidsF (pg ++ (pl ++ r)) = .ok (g :: l, r) := by rw [kidsF_after, eg]; exact el
    simp only [List.cons_append, List.append_assoc, afterK]
    rw [if_neg (by decide), if_pos trivial, ek]
    rfl
end

end Go.Proofs.YtmnpelhcgobfaaaDoor.Fo

/-
  Plain mathematics: the tokens of a text that is laid of tokens and blanks.
-/
namespace Go.Proofs.YtmnpelhcgobfaaaDoor.Fo

/-- The tokens' bytes alone. -/
def txs (l : Bs) : List Bs := (toks 0 l).map (·.2)
theorem toksN_idx : ∀ (n i j : Nat) (l : Bs), (toksN n i l).map (·.2) = (toksN n j l).map (·.2)
  | 0, _, _, _ => rfl
  | _ + 1, _, _, [] => rfl
  | n + 1, i, j, c :: l => by
    simp only [toksN]
    split
    · exact toksN_idx n _ _ l
    · simp only [List.map_cons]
      rw [toksN_idx n (i + 1 + (moreT c l).length) (j + 1 + (moreT c l).length)]
theorem toks_txs (i : Nat) (l : Bs) : (toks i l).map (·.2) = txs l := toksN_idx _ _ _ _
theorem txs_nil : txs [] = [] := rfl
theorem txs_blank {c : UInt8} {l : Bs} (h : blankB c = true) : txs (c :: l) = txs l := by
  unfold txs; rw [toks_blank h]; exact toksN_idx _ _ _ _
theorem txs_cons {c : UInt8} {l : Bs} (h : blankB c = false) : txs (c :: l) = (c :: moreT c l) :: txs (l.drop (moreT c l).length) := by
  unfold txs; rw [toks_cons h, List.map_cons]
  congr 1
  exact toksN_idx _ _ _ _
theorem txs_blanks : ∀ (b l : Bs), b.all blankB = true → txs (b ++ l) = txs l
  | [], l, _ => rfl
  | c :: b, l, h => by
    simp only [List.all_cons, Bool.and_eq_true] at h
    rw [List.cons_append, txs_blank h.1, txs_blanks b l h.2]

/-- The bytes of one token: letters and digits, or one other byte that is no blank. -/
def tokOk (t : Bs) : Bool := match t with
  | [] => false
  | c :: l => if Sh.alnumB c then l.all Sh.alnumB else decide (l = []) && !blankB c
theorem alnum_blank {c : UInt8} (h : Sh.alnumB c = true) : blankB c = false := by
  unfold blankB
  rw [decide_eq_false_iff_not]
  rintro (rfl | rfl) <;> exact absurd h (by decide)
/-- The text does not go on with a letter or a digit. -/
def stops (l : Bs) : Bool := match l with
  | [] => true
  | c :: _ => !Sh.alnumB c
theorem takeWhile_app {l m : Bs} (h : l.all Sh.alnumB = true) (hm : stops m = true) : (l ++ m).takeWhile Sh.alnumB = l := by
  induction l with
  | nil =>
    cases m with
    | nil => rfl
    | cons c m =>
      simp only [stops, Bool.not_eq_true'] at hm
      simp [hm]
  | cons c l ih =>
    simp only [List.all_cons, Bool.and_eq_true] at h
    simp [h.1, ih h.2]

theorem txs_tok {t m : Bs} (ht : tokOk t = true) (hm : stops t = true ∨ stops m = true) : txs (t ++ m) = t :: txs m := by
  cases t with
  | nil => cases ht
  | cons c l =>
    simp only [tokOk] at ht
    by_cases hc : Sh.alnumB c = true
    · rw [if_pos hc] at ht
      have hs : stops m = true := by
        rcases hm with h | h
        · simp only [stops, hc] at h; cases h
        · exact h
      have e : moreT c (l ++ m) = l := by unfold moreT; rw [if_pos hc]; exact takeWhile_app ht hs
      rw [List.cons_append, txs_cons (alnum_blank hc), e]
      simp
    · rw [if_neg hc] at ht
      simp only [Bool.and_eq_true, decide_eq_true_eq, Bool.not_eq_true'] at ht
      obtain ⟨rfl, hb⟩ := ht
      have e : moreT c m = [] := by unfold moreT; rw [if_neg hc]
      rw [List.cons_append, List.nil_append, txs_cons hb, e]
      rfl

/-- Tokens, each with the blanks behind it. -/
def flat : List (Bs × Bs) → Bs
  | [] => []
  | (t, b) :: l => t ++ (b ++ flat l)
def chainB : List (Bs × Bs) → Bool
  | [] => true
  | (t, b) :: l => tokOk t && b.all blankB && (stops t || stops (b ++ flat l)) && chainB l
theorem txs_flat : ∀ (l : List (Bs × Bs)), chainB l = true → txs (flat l) = l.map (·.1)
  | [], _ => rfl
  | (t, b) :: l, h => by
    simp only [chainB, Bool.and_eq_true, Bool.or_eq_true] at h
    obtain ⟨⟨⟨h1, h2⟩, h3⟩, h4⟩ := h
    rw [flat, txs_tok h1 h3, txs_blanks b _ h2, txs_flat l h4]
    rfl

/-- A name, a word and a number are tokens. -/
theorem name_ok {l : Bs} (h : Sh.nameB l = true) : tokOk l = true := by
  unfold Sh.nameB at h
  simp only [Bool.and_eq_true] at h
  cases l with
  | nil => simp at h
  | cons c m =>
    have := h.1.2
    simp only [List.all_cons, Bool.and_eq_true] at this
    simp only [tokOk]
    rw [if_pos this.1]
    exact this.2

theorem takeWhile_all (p : UInt8 → Bool) : ∀ l : Bs, (l.takeWhile p).all p = true
  | [] => rfl
  | c :: l => by
    rw [List.takeWhile_cons]
    split
    · rename_i h; simp [h, takeWhile_all p l]
    · rfl
/-- Every token of a text is one. -/
theorem txs_ok : ∀ (n : Nat) (l : Bs), l.length ≤ n → ∀ t ∈ txs l, tokOk t = true
  | _, [], _ => by intro t ht; cases ht
  | 0, c :: l, h => by simp at h
  | n + 1, c :: l, h => by
    simp only [List.length_cons] at h
    cases hb : blankB c
    · rw [txs_cons hb]
      intro t ht
      rcases List.mem_cons.1 ht with rfl | ht
      · simp only [tokOk]
        unfold moreT
        split
        · exact takeWhile_all _ _
        · simp [hb]
      · exact txs_ok n _ (by rw [List.length_drop]; omega) t ht
    · rw [txs_blank hb]
      exact txs_ok n l (by omega)

end Go.Proofs.YtmnpelhcgobfaaaDoor.Fo

/-
  Plain mathematics: reading hangs on the tokens' bytes alone, not on where they stand.
-/
namespace Go.Proofs.YtmnpelhcgobfaaaDoor.Fo

/-- Two readings that part in the tokens' places alone. -/
def Alike {α : Type} : Rd α → Rd α → Prop
  | .ok (a, r), .ok (b, q) => a = b ∧ r.map (·.2) = q.map (·.2)
  | .error e, .error d => e.map (·.2) = d.map (·.2)
  | _, _ => False
theorem Alike.ok {α : Type} (a : α) {r q : List Tok} (h : r.map (·.2) = q.map (·.2)) : Alike (.ok (a, r)) (.ok (a, q)) := ⟨rfl, h⟩
theorem Alike.error {α : Type} {r q : List Tok} (h : r.map (·.2) = q.map (·.2)) : Alike (α := α) (.error r) (.error q) := h
theorem Alike.bnd {α β : Type} {x y : Rd α} {f : α → List Tok → Rd β} {g : α → List Tok → Rd β} (h : Alike x y) (hf : ∀ a r q, r.map (·.2) = q.map (·.2) → Alike (f a r) (g a q)) : Alike (bnd x f) (bnd y g) := by
  match x, y, h with
  | .ok (a, r), .ok (b, q), h =>
    obtain ⟨rfl, h⟩ := h
    exact hf a r q h
  | .error e, .error d, h => exact h
theorem same_cases {ts us : List Tok} (h : ts.map (·.2) = us.map (·.2)) : (ts = [] ∧ us = []) ∨ ∃ i j x r q, ts = (i, x) :: r ∧ us = (j, x) :: q ∧ r.map (·.2) = q.map (·.2) := by
  match ts, us, h with
  | [], [], _ => exact .inl ⟨rfl, rfl⟩
  | (i, x) :: r, (j, y) :: q, h =>
    simp only [List.map_cons, List.cons.injEq] at h
    obtain ⟨rfl, h⟩ := h
    exact .inr ⟨i, j, _, r, q, rfl, rfl, h⟩
  | [], _ :: _, h => cases h
  | _ :: _, [], h => cases h

theorem takeT_alike (p : Bs → Bool) {ts us : List Tok} (h : ts.map (·.2) = us.map (·.2)) : Alike (takeT p ts) (takeT p us) := by
  rcases same_cases h with ⟨rfl, rfl⟩ | ⟨i, j, x, r, q, rfl, rfl, hr⟩
  · exact Alike.error rfl
  · simp only [takeT]
    split
    · exact Alike.ok _ hr
    · exact Alike.error h
theorem namesT_alike (stop : Bs) : ∀ (ts us : List Tok), ts.map (·.2) = us.map (·.2) → Alike (namesT stop ts) (namesT stop us)
  | [], us, h => by
    cases us with
    | nil => exact Alike.error rfl
    | cons t u => cases h
  | t :: r, us, h => by
    rcases same_cases h with ⟨e, -⟩ | ⟨i, j, x, r', q, e1, rfl, hr⟩
    · cases e
    · cases e1
      simp only [namesT]
      split
      · exact (namesT_alike stop r q hr).bnd fun l r1 q1 h1 => Alike.ok _ h1
      · split
        · exact Alike.ok _ hr
        · exact Alike.error h
theorem numT_alike {ts us : List Tok} (h : ts.map (·.2) = us.map (·.2)) : Alike (numT ts) (numT us) := (takeT_alike _ h).bnd fun _ _ _ h1 => Alike.ok _ h1
theorem optT_alike {α : Type} (c : Bool) (d : α) (x : List Tok → Rd α) {ts us : List Tok} (h : ts.map (·.2) = us.map (·.2)) (hx : Alike (x ts) (x us)) : Alike (optT c d x ts) (optT c d x us) := by
  unfold optT
  split
  · exact hx
  · exact Alike.ok _ h
theorem atomT_alike (nm : Bs) {ts us : List Tok} (h : ts.map (·.2) = us.map (·.2)) : Alike (atomT nm ts) (atomT nm us) := by
  rcases same_cases h with ⟨rfl, rfl⟩ | ⟨i, j, x, r, q, rfl, rfl, hr⟩
  · exact Alike.error rfl
  · simp only [atomT]
    split
    · exact (takeT_alike _ hr).bnd fun _ _ _ h1 => Alike.ok _ h1
    · split
      · exact (takeT_alike _ hr).bnd fun _ _ _ h1 => Alike.ok _ h1
      · split
        · exact (namesT_alike _ _ _ hr).bnd fun _ _ _ h1 => Alike.ok _ h1
        · exact Alike.error h
theorem headT_alike (k : Int) {ts us : List Tok} (h : ts.map (·.2) = us.map (·.2)) : Alike (headT k ts) (headT k us) := by
  unfold headT
  refine (optT_alike _ _ _ h (Alike.bnd (takeT_alike Sh.nameB h) fun x r q h1 => Alike.ok (⟨x.toArray⟩ : ByteArray) h1)).bnd fun nm r q h1 => ?_
  refine (optT_alike _ _ _ h1 (Alike.bnd (numT_alike h1) fun a r1 q1 h2 => Alike.bnd (takeT_alike (isT [58]) h2) fun x r q h3 => Alike.ok a h3)).bnd fun a r1 q1 h2 => ?_
  exact Alike.bnd (optT_alike _ _ _ h2 (namesT_alike _ _ _ h2)) fun vs r2 q2 h3 => Alike.ok (nm, a, vs) h3
theorem tailT_alike (k : Int) {ts us : List Tok} (h : ts.map (·.2) = us.map (·.2)) : Alike (tailT k ts) (tailT k us) := by
  unfold tailT
  exact optT_alike _ _ _ h ((takeT_alike _ h).bnd fun _ r q h1 => namesT_alike _ _ _ h1)

mutual
theorem formT_alike : ∀ (n : Nat) (ts us : List Tok), ts.map (·.2) = us.map (·.2) → Alike (formT n ts) (formT n us)
  | 0, ts, us, h => by unfold formT; exact Alike.error h
  | n + 1, ts, us, h => by
    rcases same_cases h with ⟨rfl, rfl⟩ | ⟨i, j, x, r, q, rfl, rfl, hr⟩
    · unfold formT; exact Alike.error rfl
    · unfold formT
      simp only
      split
      · exact atomT_alike _ hr
      · split
        · exact Alike.ok _ hr
        · split
          · exact Alike.ok _ hr
          · split
            · exact Alike.error h
            · refine (takeT_alike _ hr).bnd fun _ r1 q1 h1 => ?_
              split
              · refine Alike.bnd ?_ fun _ _ _ h2 => Alike.ok _ h2
                rcases same_cases h1 with ⟨rfl, rfl⟩ | ⟨i2, j2, y, r2, q2, rfl, rfl, hr2⟩
                · exact Alike.error rfl
                · simp only [listT]
                  split
                  · exact Alike.ok _ hr2
                  · exact kidsT_alike n _ _ h1
              · exact (headT_alike _ h1).bnd fun hd r2 q2 h2 => (formT_alike n _ _ h2).bnd fun f r3 q3 h3 => (takeT_alike _ h3).bnd fun _ r4 q4 h4 => (tailT_alike _ h4).bnd fun ags r5 q5 h5 => Alike.ok _ h5
theorem kidsT_alike : ∀ (n : Nat) (ts us : List Tok), ts.map (·.2) = us.map (·.2) → Alike (kidsT n ts) (kidsT n us)
  | 0, ts, us, h => by unfold kidsT; exact Alike.error h
  | n + 1, ts, us, h => by
    unfold kidsT
    refine (formT_alike n _ _ h).bnd fun f r q h1 => ?_
    rcases same_cases h1 with ⟨rfl, rfl⟩ | ⟨i, j, x, r2, q2, rfl, rfl, hr⟩
    · exact Alike.error rfl
    · simp only
      split
      · exact Alike.ok _ hr
      · split
        · exact (kidsT_alike n _ _ hr).bnd fun _ _ _ h3 => Alike.ok _ h3
        · exact Alike.error h1
end

/-- Texts with the same tokens read alike: the same formula, or both stand still. -/
theorem read_alike {s t : Bs} (h : (toksAt s 0).map (·.2) = (toksAt t 0).map (·.2)) : (∃ f, readF s = .ok f ∧ readF t = .ok f) ∨ (∃ i j, readF s = .error i ∧ readF t = .error j) := by
  have hl : (toksAt s 0).length = (toksAt t 0).length := by have := congrArg List.length h; simpa using this
  have ha : Alike (formF (toksAt s 0)) (formF (toksAt t 0)) := by unfold formF; rw [hl]; exact formT_alike _ _ _ h
  unfold readF
  match formF (toksAt s 0), formF (toksAt t 0), ha with
  | .ok (a, r), .ok (b, q), ha =>
    obtain ⟨rfl, hr⟩ := ha
    rcases same_cases hr with ⟨rfl, rfl⟩ | ⟨i, j, x, r2, q2, rfl, rfl, _⟩
    · exact .inl ⟨a, rfl, rfl⟩
    · exact .inr ⟨_, _, rfl, rfl⟩
  | .error e, .error d, _ => exact .inr ⟨_, _, rfl, rfl⟩

end Go.Proofs.YtmnpelhcgobfaaaDoor.Fo

/-
  Plain mathematics: a text that is put together from tokens and the blanks before them has these tokens.
-/
namespace Go.Proofs.YtmnpelhcgobfaaaDoor.Fo

/-- Tokens, each with the blanks before it. -/
def glue : List (Bs × Bs) → Bs
  | [] => []
  | (b, t) :: l => b ++ (t ++ glue l)
theorem glue_snoc (p : Bs × Bs) : ∀ l : List (Bs × Bs), glue (l ++ [p]) = glue l ++ (p.1 ++ p.2)
  | [] => by simp [glue]
  | (b, t) :: l => by simp [glue, glue_snoc p l]
/-- Blanks and tokens; no token but the first one lacks blanks before it. -/
structure GlueOk (l : List (Bs × Bs)) : Prop where
  ok : ∀ p ∈ l, p.1.all blankB = true ∧ tokOk p.2 = true
  sep : ∀ (j : Nat) (p : Bs × Bs), 0 < j → l[j]? = some p → p.1 ≠ []
theorem GlueOk.nil : GlueOk [] := ⟨fun p h => (by cases h), fun j p _ h => (by simp at h)⟩
theorem GlueOk.snoc {l : List (Bs × Bs)} (h : GlueOk l) {p : Bs × Bs} (h1 : p.1.all blankB = true) (h2 : tokOk p.2 = true) (h3 : l ≠ [] → p.1 ≠ []) : GlueOk (l ++ [p]) := by
  refine ⟨fun q hq => ?_, fun j q hj hq => ?_⟩
  · rcases List.mem_append.1 hq with hq | hq
    · exact h.ok q hq
    · rw [List.mem_singleton] at hq; subst hq; exact ⟨h1, h2⟩
  · by_cases hl : j < l.length
    · rw [List.getElem?_append_left hl] at hq; exact h.sep j q hj hq
    · rw [List.getElem?_append_right (by omega)] at hq
      by_cases he : j - l.length = 0
      · rw [he] at hq
        obtain rfl : p = q := by simpa using hq
        exact h3 (fun e => by subst e; simp at he; omega)
      · rw [List.getElem?_eq_none (by simp; omega)] at hq; cases hq
theorem GlueOk.tail {p : Bs × Bs} {l : List (Bs × Bs)} (h : GlueOk (p :: l)) : GlueOk l :=
  ⟨fun q hq => h.ok q (List.mem_cons_of_mem _ hq), fun j q hj hq => h.sep (j + 1) q (by omega) (by simpa using hq)⟩
theorem stops_blank {e : Bs} (h : e.all blankB = true) : stops e = true := by
  cases e with
  | nil => rfl
  | cons c e =>
    simp only [List.all_cons, Bool.and_eq_true] at h
    simp only [stops, Bool.not_eq_true']
    cases ha : Sh.alnumB c
    · rfl
    · rw [alnum_blank ha] at h; exact absurd h.1 (by decide)
theorem stops_app {b m : Bs} (hb : b ≠ []) (h : b.all blankB = true) : stops (b ++ m) = true := by
  cases b with
  | nil => exact absurd rfl hb
  | cons c e =>
    simp only [List.all_cons, Bool.and_eq_true] at h
    exact stops_blank (e := [c]) (by simp [h.1])
theorem txs_glue {e : Bs} (he : e.all blankB = true) : ∀ (l : List (Bs × Bs)), GlueOk l → txs (glue l ++ e) = l.map (·.2)
  | [], _ => by
    have := txs_blanks e [] he
    rw [List.append_nil] at this
    simp [glue, this, txs_nil]
  | (b, t) :: l, h => by
    have h1 := h.ok _ (List.mem_cons_self ..)
    have hs : stops (glue l ++ e) = true := by
      cases l with
      | nil => exact stops_blank he
      | cons q l =>
        obtain ⟨b2, t2⟩ := q
        have h2 := h.ok (b2, t2) (by simp)
        have h3 := h.sep 1 (b2, t2) (by omega) rfl
        rw [glue, List.append_assoc]
        exact stops_app h3 h2.1
    rw [glue, List.append_assoc, List.append_assoc, txs_blanks b _ h1.1, txs_tok h1.2 (.inr hs), txs_glue he l h.tail]
    rfl
theorem toks_glue {s e : Bs} {l : List (Bs × Bs)} (h : GlueOk l) (he : e.all blankB = true) (hs : l.map (·.2) = (toksAt s 0).map (·.2)) : (toksAt s 0).map (·.2) = (toksAt (glue l ++ e) 0).map (·.2) := by
  rw [← hs, show (toksAt (glue l ++ e) 0).map (·.2) = txs (glue l ++ e) from toks_txs 0 _, txs_glue he l h]
theorem toks_ok {s : Bs} : ∀ t ∈ toksAt s 0, tokOk t.2 = true := fun t ht => by
  have h : t.2 ∈ txs s := by rw [← toks_txs 0 s]; exact List.mem_map.2 ⟨t, ht, rfl⟩
  exact txs_ok _ s (Nat.le_refl _) _ h
theorem glue_length : ∀ l : List (Bs × Bs), (∀ p ∈ l, p.1.length ≤ 2) → (glue l).length ≤ 2 * l.length + (l.map (·.2.length)).sum
  | [], _ => by simp [glue]
  | (b, t) :: l, h => by
    have := glue_length l fun p hp => h p (List.mem_cons_of_mem _ hp)
    have := h (b, t) (List.mem_cons_self ..)
    simp only [glue, List.length_append, List.length_cons, List.map_cons, List.sum_cons]
    simp only at this
    omega
/-- The tokens lie in the text one behind the other. -/
theorem toks_sum : ∀ (n i : Nat) (l : Bs), ((toksN n i l).map (·.2.length)).sum ≤ l.length ∧ (toksN n i l).length ≤ l.length
  | 0, _, _ => by simp [toksN]
  | n + 1, _, [] => by simp [toksN]
  | n + 1, i, c :: l => by
    rw [toksN]
    split
    · have := toks_sum n (i + 1) l
      simp only [List.length_cons]
      omega
    · have h := toks_sum n (i + 1 + (moreT c l).length) (l.drop (moreT c l).length)
      have hm : (moreT c l).length ≤ l.length := by
        unfold moreT
        split
        · exact (List.takeWhile_sublist _).length_le
        · simp
      simp only [List.map_cons, List.sum_cons, List.length_cons]
      rw [List.length_drop] at h
      omega
end Go.Proofs.YtmnpelhcgobfaaaDoor.Fo

/-
  Walk: the reference's Tokens.
-/
namespace Go.Proofs.YtmnpelhcgobfaaaDoor
open Go.RowKit
open Fo (F)

theorem refalnum_any (n : Nat) (w : World) :
    Calls Tryd.prog 22 #[.int .u8 (n : Int)] w fun e w' => e = .returned (.bool (Sh.letterB n || Sh.digitB n)) ∧ w = w' := by
  go_enter Tryd.func22, Tryd.ntmps22
  go_wp2
  all_goals go_ret
  all_goals refine ⟨ret_bool ?_, rfl⟩
  all_goals unfold Sh.letterB Sh.digitB
  all_goals (rw [Bool.eq_iff_iff]; simp only [Bool.or_eq_true, decide_eq_true_eq, true_iff, false_iff, Bool.false_eq_true]; omega)

def tokC (t : Fo.Tok) : List Value := [.int .i64 (t.1 : Nat), .string ⟨t.2.toArray⟩]
theorem wpList_append_tok (w : World) {ops : Array Oper} {rest : List Oper} {o : Oper} {a : Act} {Q : Exit → Act → World → Prop} (hgd : o.guard = none) (s x : Operand)
    (ho : o.op = .call { callee := .builtin .append, args := #[s, x], argTypes := #[24, 24] })
    (base : Nat) (v : Value) (n : Nat) (xs : List Value) (hs : a.eval s = v) (hown : w.ownsRow base 27 2 v n xs)
    (g c : Nat) (at_ : Nat) (nm : ByteArray) (hx : a.eval x = .slice (some ⟨g, 0, none⟩) 1 c) (hc : Blk w g 27 #[.int .i64 (at_ : Int), .string nm]) (hn : n ≤ 1000000) (hbase : base ≤ w.heap.size)
    (h : ∀ v' w', w'.ownsRow base 27 2 v' (n + 1) (xs ++ [.int .i64 (at_ : Int), .string nm]) → w.grownBy w' v.ownBlock → wpList Tryd.prog ops Q rest (a.put o.dst v') w') :
    wpList Tryd.prog ops Q (o :: rest) a w := by
  obtain ⟨i0, hi, hz0, hz1, hz2⟩ := info_parts (show (Tryd.prog.info? 27).map (fun i => (i.zero, i.size, i.bytes)) = some (some (.agg #[.int .i64 0, .string ⟨#[]⟩]), 2, 24) by kernel_rfl)
  refine wpList_append_own w hgd s x 24 ho base 27 i0 _ 2 24 Tryd.underlying24 hi hz0 hz1 hz2 rfl (by decide) v n _ hs hown ⟨g, 0, none⟩ 1 c [.int .i64 (at_ : Int), .string nm] hx rfl ?_ ?_ (by unfold maxLen; omega) (by omega) hbase ?_
  · intro j u hu
    have e : (Addr.mk g 0 none).add j = ⟨g, j, none⟩ := by unfold Addr.add; split <;> simp_all
    rw [e, hc.cell j]
    simpa using hu
  · intro u hu
    simp at hu
    rcases hu with rfl | rfl <;> rfl
  · intro v' w' h1 h2 _
    exact h v' w' h1 h2
theorem tok_row {w : World} {base n : Nat} {v : Value} {xs : List Value} {k : Nat} {nm : ByteArray} {tx : Fo.Bs} (hx : nm = ⟨tx.toArray⟩) (h : w.ownsRow base 27 2 v n (xs ++ [.int .i64 (k : Int), .string nm])) : w.ownsRow base 27 2 v n (xs ++ tokC (k, tx)) := by
  subst hx; exact h
theorem ex_sign {s : ByteArray} {j : Nat} (hj : j < s.size) : s.extract j (j + 1) = ⟨[s[j]].toArray⟩ := by
  have hl := length_bytes s
  have : (s.extract j (j + 1)).toList = [s[j]] := by
    rw [ByteArray.toList_eq, ByteArray.data_extract, Array.toList_extract, List.extract_eq_take_drop, show j + 1 - j = 1 by omega]
    rw [← ByteArray.toList_eq, List.drop_eq_getElem_cons (by omega), bytes_get s j hj]; rfl
  rw [← this, ByteArray.toList_eq]
theorem toks_counted (text : ByteArray) : ∀ (k : Nat) (ts : List Fo.Tok), Fo.toksAt text.toList 0 = ts ++ Fo.toksAt text.toList k → ts.length ≤ text.size := fun k ts h => by
  have h1 : (Fo.toksAt text.toList 0).length ≤ text.toList.length := by unfold Fo.toksAt; exact toks_len _ 0 _ (Nat.le_refl _)
  rw [h, List.length_append, length_bytes] at h1
  omega

set_option maxRecDepth 100000 in
set_option maxHeartbeats 1000000 in
theorem reftokens_any (text : ByteArray) (w : World) (hs : text.size ≤ 100000) :
    Calls Tryd.prog 8 #[.string text] w
      fun e w' => Below w.heap.size w w' ∧ ∃ v, e = .returned v ∧ w'.ownsRow w.heap.size 27 2 v (Fo.toksAt text.toList 0).length ((Fo.toksAt text.toList 0).flatMap tokC) := by
  go_enter Tryd.func8, Tryd.ntmps8
  go_wp2
  go_loopw [3, 4] (fun ov i wr => ∃ (k : Nat) (ts : List Fo.Tok) (V : Value), ov = V ∧ k ≤ text.size ∧ i = .int .i64 k ∧ Fo.toksAt text.toList 0 = ts ++ Fo.toksAt text.toList k ∧ wr.ownsRow w.heap.size 27 2 V ts.length (ts.flatMap tokC) ∧ Below w.heap.size w wr) (fun _ i _ => text.size - (intOf i).toNat)
  case atStart => exact ⟨0, [], _, rfl, Nat.zero_le _, rfl, rfl, by simpa using World.ownsRow_nil _ _ _ _, Below.refl _ _⟩
  case round =>
    obtain ⟨k, ts, V, rfl, hk, rfl, heq, hown, hbr⟩ := hrel
    obtain ⟨SA, SC, rfl⟩ := own_slice hown
    have htn := toks_counted text k ts heq
    have Heq := Lib.hid heq; clear heq
    have hbrz := hbr.size
    have Hbr := Lib.hid hbr; clear hbr
    have hbo : ∀ g, (Value.slice SA ts.length SC).ownBlock = some g → w.heap.size ≤ g := fun g e => (own_block hown e).1
    have Hbo := Lib.hid hbo; clear hbo
    have Hown := Lib.hid hown; clear hown
    by_cases hlt : k < text.size
    · have hbn := blank_nat text[k]
      cases hac : Sh.alnumB text[k]
      · have Hac := Lib.hid (show (Sh.letterB text[k].toNat || Sh.digitB text[k].toNat) = false from hac)
        go_wp2
        go_loop [5] (fun i => i = .int .i64 ((k : Int) + 1)) (fun i => 0)
        case atStart => rfl
        case round =>
          obtain rfl := hrel
          by_cases h32 : text[k].toNat = 32
          · have hnx := toks_skip hlt (by rw [hbn, decide_eq_true (Or.inl h32)])
            have Hnx := Lib.hid hnx; clear hnx hbn hac
            go_wp2_with (go_at_call 22; refine (refalnum_any _ _).mono ?_; (first | rw [Hac.out] | rw [show (Sh.letterB 32 || Sh.digitB 32) = false from rfl] | rw [show (Sh.letterB 10 || Sh.digitB 10) = false from rfl]); rintro e w' ⟨rfl, rfl⟩)
            go_roundw
            case rel => exact ⟨k + 1, ts, _, rfl, by omega, by go_num, by rw [Heq.out, Hnx.out], Hown.out, Hbr.out⟩
            case measure => simp [intOf]; omega
          · by_cases h10 : text[k].toNat = 10
            · have hnx := toks_skip hlt (by rw [hbn, decide_eq_true (Or.inr h10)])
              have Hnx := Lib.hid hnx; clear hnx hbn hac
              go_wp2_with (go_at_call 22; refine (refalnum_any _ _).mono ?_; (first | rw [Hac.out] | rw [show (Sh.letterB 32 || Sh.digitB 32) = false from rfl] | rw [show (Sh.letterB 10 || Sh.digitB 10) = false from rfl]); rintro e w' ⟨rfl, rfl⟩)
              all_goals (
                go_roundw
                case rel => exact ⟨k + 1, ts, _, rfl, by omega, by go_num, by rw [Heq.out, Hnx.out], Hown.out, Hbr.out⟩
                case measure => simp [intOf]; omega)
            · have htk := toks_sign hlt hac (by rw [hbn, decide_eq_false (by omega)])
              have Htk := Lib.hid htk; clear htk hbn hac
              have e32 : ((text[k].toNat : Int) == 32) = false := by simp; omega
              have e10 : ((text[k].toNat : Int) == 10) = false := by simp; omega
              have n32 : ((text[k].toNat : Int) != 32) = true := by simp; omega
              have n10 : ((text[k].toNat : Int) != 10) = true := by simp; omega
              clear h32 h10
              go_wp2_with (first
                | (go_at_call 22; refine (refalnum_any _ _).mono ?_; (first | rw [Hac.out] | rw [show (Sh.letterB 32 || Sh.digitB 32) = false from rfl] | rw [show (Sh.letterB 10 || Sh.digitB 10) = false from rfl]); rintro e w' ⟨rfl, rfl⟩)
                | (at_builtin; refine wpList_append_tok _ rfl _ _ rfl w.heap.size _ ts.length _ rfl (Hown.out.alloc _) wr.heap.size 1 k _ rfl (Blk.new wr _ _) (by omega) (by simp; omega) ?_; intro v5 w5 hown5 hg5; obtain ⟨ZA, ZC, rfl⟩ := own_slice hown5; have Hown5 := Lib.hid hown5; clear hown5; have Hg5 := Lib.hid hg5; clear hg5))
              go_roundw
              case rel => exact ⟨k + 1, ts ++ [(k, [text[k]])], _, rfl, by omega, by go_num, by rw [Heq.out, Htk.out]; simp, by rw [List.length_append, List.length_singleton, List.flatMap_append, List.flatMap_singleton]; exact tok_row (ex_sign hlt) Hown5.out, ((Hbr.out.alloc hbrz _).grown Hg5.out (by simp; omega) Hbo.out)⟩
              case measure => simp [intOf]; omega
      · have hnb : Fo.blankB text[k] = false := Fo.alnum_blank hac
        have hnat : ¬ (text[k].toNat = 32 ∨ text[k].toNat = 10) := by rw [hbn] at hnb; exact of_decide_eq_false hnb
        have n32 : ((text[k].toNat : Int) != 32) = true := by simp; omega
        have n10 : ((text[k].toNat : Int) != 10) = true := by simp; omega
        have e32 : ((text[k].toNat : Int) == 32) = false := by simp; omega
        have e10 : ((text[k].toNat : Int) == 10) = false := by simp; omega
        have hst := (RunA.start text k).next (Nat.le_refl _) hlt hac
        have Hac := Lib.hid (show (Sh.letterB text[k].toNat || Sh.digitB text[k].toNat) = true from hac)
        have Hnb := Lib.hid hnb
        clear hnb hnat hbn hac
        go_wp2
        go_loop [5] (fun i => ∃ e : Nat, k + 1 ≤ e ∧ e ≤ text.size ∧ i = .int .i64 e ∧ RunA text k e) (fun i => text.size - (intOf i).toNat)
        case atStart => exact ⟨k + 1, Nat.le_refl _, by omega, by go_num, hst⟩
        case round =>
          obtain ⟨e, hke, hes, rfl, hrun⟩ := hrel
          have Hrun := Lib.hid hrun; clear hrun hst
          by_cases hle : e < text.size
          · cases hae : Sh.alnumB text[e]
            · have htk := toks_run hlt (by omega) hes Hrun.out (fun _ => hae) Hnb.out
              have Htk := Lib.hid htk; clear htk
              have Hae := Lib.hid (show (Sh.letterB text[e].toNat || Sh.digitB text[e].toNat) = false from hae)
              clear hae
              go_wp2_with (first
                | (go_at_call 22; refine (refalnum_any _ _).mono ?_; (first | rw [Hac.out] | rw [Hae.out]); rintro e w' ⟨rfl, rfl⟩)
                | (at_builtin; refine wpList_append_tok _ rfl _ _ rfl w.heap.size _ ts.length _ rfl (Hown.out.alloc _) wr.heap.size 1 k _ rfl (Blk.new wr _ _) (by omega) (by simp; omega) ?_; intro v5 w5 hown5 hg5; obtain ⟨ZA, ZC, rfl⟩ := own_slice hown5; have Hown5 := Lib.hid hown5; clear hown5; have Hg5 := Lib.hid hg5; clear hg5))
              go_roundw
              case rel => exact ⟨e, ts ++ [(k, (text.extract k e).toList)], _, rfl, by omega, rfl, by rw [Heq.out, Htk.out]; simp, by rw [List.length_append, List.length_singleton, List.flatMap_append, List.flatMap_singleton]; exact tok_row (by rw [ByteArray.toList_eq]) Hown5.out, ((Hbr.out.alloc hbrz _).grown Hg5.out (by simp; omega) Hbo.out)⟩
              case measure => simp [intOf]; omega
            · have hnx := Hrun.out.next (by omega) hle hae
              have Hnx := Lib.hid hnx; clear hnx
              have Hae := Lib.hid (show (Sh.letterB text[e].toNat || Sh.digitB text[e].toNat) = true from hae)
              clear hae
              go_wp2_with (go_at_call 22; refine (refalnum_any _ _).mono ?_; (first | rw [Hac.out] | rw [Hae.out]); rintro e w' ⟨rfl, rfl⟩)
              go_round
              case rel => exact ⟨e + 1, by omega, by omega, by go_num, Hnx.out⟩
              case measure => simp [intOf]; omega
          · obtain rfl : e = text.size := by omega
            have htk := toks_run hlt (by omega) (Nat.le_refl _) Hrun.out (fun h => absurd h (Nat.lt_irrefl _)) Hnb.out
            have Htk := Lib.hid htk; clear htk hle
            go_wp2_with (first
              | (go_at_call 22; refine (refalnum_any _ _).mono ?_; rw [Hac.out]; rintro e w' ⟨rfl, rfl⟩)
              | (at_builtin; refine wpList_append_tok _ rfl _ _ rfl w.heap.size _ ts.length _ rfl (Hown.out.alloc _) wr.heap.size 1 k _ rfl (Blk.new wr _ _) (by omega) (by simp; omega) ?_; intro v5 w5 hown5 hg5; obtain ⟨ZA, ZC, rfl⟩ := own_slice hown5; have Hown5 := Lib.hid hown5; clear hown5; have Hg5 := Lib.hid hg5; clear hg5))
            go_roundw
            case rel => exact ⟨text.size, ts ++ [(k, (text.extract k text.size).toList)], _, rfl, by omega, rfl, by rw [Heq.out, Htk.out]; simp, by rw [List.length_append, List.length_singleton, List.flatMap_append, List.flatMap_singleton]; exact tok_row (by rw [ByteArray.toList_eq]) Hown5.out, ((Hbr.out.alloc hbrz _).grown Hg5.out (by simp; omega) Hbo.out)⟩
            case measure => simp [intOf]; omega
    · obtain rfl : k = text.size := by omega
      have hend : Fo.toksAt text.toList text.size = [] := Fo.toksAt_end (by rw [length_bytes]; omega)
      have hfin := Heq.out
      rw [hend, List.append_nil] at hfin
      have Hfin := Lib.hid hfin; clear hfin hend
      go_wp2
      go_ret
      exact ⟨Hbr.out, _, rfl, by rw [Hfin.out]; exact Hown.out⟩

end Go.Proofs.YtmnpelhcgobfaaaDoor

/-
  Plain mathematics: a text that is put together token by token, with blanks as numbers say.
-/
namespace Go.Proofs.YtmnpelhcgobfaaaDoor.Fo

/-- The blanks that a number asks for; 'mid' says that there must be one. -/
def blanksOf (n : Nat) (mid : Bool) : Bs :=
  (if 0 < n % 4 ∨ mid = true then [if n / 4 % 2 = 0 then 32 else 10] else []) ++ (if 2 < n % 4 then [32] else [])
theorem blanksOf_all (n : Nat) (mid : Bool) : (blanksOf n mid).all blankB = true := by
  unfold blanksOf
  by_cases h1 : 0 < n % 4 ∨ mid = true <;> by_cases h2 : 2 < n % 4 <;> by_cases h3 : n / 4 % 2 = 0 <;> simp only [h1, h2, h3, if_true, if_false, List.append_nil, List.nil_append] <;> decide
theorem blanksOf_len (n : Nat) (mid : Bool) : (blanksOf n mid).length ≤ 2 := by
  unfold blanksOf
  by_cases h1 : 0 < n % 4 ∨ mid = true <;> by_cases h2 : 2 < n % 4 <;> simp [h1, h2]
theorem blanksOf_mid (n : Nat) : blanksOf n true ≠ [] := by
  unfold blanksOf
  simp

/-- What is written after k rounds. -/
def Wrt (ts : List Tok) (k : Nat) (bs : Bs) : Prop :=
  ∃ ps e, bs = glue ps ++ e ∧ GlueOk ps ∧ (∀ p ∈ ps, p.1.length ≤ 2) ∧ e.all blankB = true ∧ e.length ≤ 2 ∧ (k ≤ ts.length → e = []) ∧ ps.map (·.2) = (ts.map (·.2)).take k
theorem Wrt.start (ts : List Tok) : Wrt ts 0 [] := ⟨[], [], rfl, GlueOk.nil, fun p h => (by cases h), rfl, by simp, fun _ => rfl, by simp⟩
theorem Wrt.step {ts : List Tok} {k : Nat} {bs : Bs} (h : Wrt ts k bs) {t : Tok} (ht : ts[k]? = some t) (ho : tokOk t.2 = true) (n : Nat) (mid : Bool) (hm : 0 < k → mid = true) : Wrt ts (k + 1) (bs ++ blanksOf n mid ++ t.2) := by
  obtain ⟨ps, e, rfl, h1, h2, -, -, h5, h6⟩ := h
  have hk : k < ts.length := (List.getElem?_eq_some_iff.1 ht).1
  obtain rfl := h5 (by omega)
  have hlen : ps.length = k := by
    have := congrArg List.length h6
    simp at this
    omega
  refine ⟨ps ++ [(blanksOf n mid, t.2)], [], ?_, h1.snoc (blanksOf_all n mid) ho ?_, ?_, rfl, by simp, fun _ => rfl, ?_⟩
  · rw [glue_snoc]; simp
  · intro hne
    have : 0 < k := by rw [← hlen]; exact List.length_pos_iff.2 hne
    rw [hm this]
    exact blanksOf_mid n
  · intro p hp
    rcases List.mem_append.1 hp with hp | hp
    · exact h2 p hp
    · rw [List.mem_singleton] at hp; subst hp; exact blanksOf_len n mid
  · rw [List.map_append, h6, List.take_add_one, List.getElem?_map, ht]
    simp
theorem Wrt.last {ts : List Tok} {bs : Bs} (h : Wrt ts ts.length bs) (n : Nat) (mid : Bool) : Wrt ts (ts.length + 1) (bs ++ blanksOf n mid) := by
  obtain ⟨ps, e, rfl, h1, h2, -, -, h5, h6⟩ := h
  obtain rfl := h5 (Nat.le_refl _)
  refine ⟨ps, blanksOf n mid, by simp, h1, h2, blanksOf_all n mid, blanksOf_len n mid, fun h => by omega, ?_⟩
  rw [h6, List.take_of_length_le (by simp), List.take_of_length_le (by simp)]
theorem take_sum : ∀ (l : List Tok) (k : Nat), (((l.map (·.2)).take k).map List.length).sum ≤ (l.map (·.2.length)).sum
  | [], k => by simp
  | t :: l, 0 => by simp
  | t :: l, k + 1 => by
    have := take_sum l k
    simp only [List.map_cons, List.take_succ_cons, List.sum_cons]
    omega
theorem Wrt.len {s : Bs} {k : Nat} {bs : Bs} (h : Wrt (toksAt s 0) k bs) : bs.length ≤ 3 * s.length + 2 := by
  obtain ⟨ps, e, rfl, -, h2, -, h4, -, h6⟩ := h
  have h := glue_length ps h2
  have hs : (ps.map (·.2.length)).sum ≤ ((toksAt s 0).map (·.2.length)).sum := by
    have e : ps.map (·.2.length) = (((toksAt s 0).map (·.2)).take k).map List.length := by rw [← h6, List.map_map]; rfl
    rw [e]; exact take_sum _ _
  have hl : ps.length ≤ (toksAt s 0).length := by
    have := congrArg List.length h6
    simp at this
    omega
  have ht := toks_sum (s.length) 0 s
  rw [List.length_append]
  rw [show toksAt s 0 = toksN s.length 0 s from rfl] at hs hl
  omega
theorem Wrt.toks {s : Bs} {bs : Bs} {k : Nat} (h : Wrt (toksAt s 0) k bs) (hk : (toksAt s 0).length ≤ k) : (toksAt s 0).map (·.2) = (toksAt bs 0).map (·.2) := by
  obtain ⟨ps, e, rfl, h1, -, h3, -, -, h6⟩ := h
  refine toks_glue h1 h3 ?_
  rw [h6, List.take_of_length_le (by simpa using hk)]
end Go.Proofs.YtmnpelhcgobfaaaDoor.Fo

/-
  What Parse returns, in plain words; a row of bytes of the call's own that may still be nil.
-/
namespace Go.Proofs.YtmnpelhcgobfaaaDoor
open Go.RowKit
open Fo (F)

abbrev zF : FB := .mk 0 0 ⟨#[]⟩ [] [] []
/-- The formula, the index and the error that a text reads as. -/
def outP (s : Fo.Bs) : FB × Nat × Int := match Fo.readF s with
  | .error i => (zF, i, 3)
  | .ok f => if (Fo.lookF Fo.fitP f).isSome = true then (f, 0, 0) else (zF, 0, 1)
theorem zF_val (w : World) (S : Nat → Prop) : FVal w S zF [.int .i64 0, .int .i64 0, .string ⟨#[]⟩, .slice none 0 0, .slice none 0 0, .slice none 0 0] := by
  unfold FVal
  exact ⟨_, _, _, _, _, rfl, by decide, Strs.nil, Strs.nil, rfl, by omega, by omega, fun h => absurd h (by omega)⟩

/-- Parse's result in six cells. -/
def PP (text : ByteArray) (w : World) (e : Ending) (w' : World) : Prop :=
  Below w.heap.size w w' ∧ ∃ (f : FB) (i : Nat) (r : Int) (k a : Int) (n : ByteArray) (A3 : Option Addr) (n3 c3 : Nat) (A4 : Option Addr) (n4 c4 : Nat) (A : Option Addr) (m c : Nat), outP text.toList = (f, i, r) ∧
    e = .returned (.tuple #[.agg #[.int .i64 k, .int .i64 a, .string n, .slice A3 n3 c3, .slice A4 n4 c4, .slice A m c], .int .i64 i, .int .i64 r]) ∧
    FVal w' (· < w'.heap.size) f [.int .i64 k, .int .i64 a, .string n, .slice A3 n3 c3, .slice A4 n4 c4, .slice A m c]
theorem PP.of_cs {text : ByteArray} {w w' : World} {cs : List Value} {f : FB} {i : Nat} {r : Int} (h : outP text.toList = (f, i, r)) (hb : Below w.heap.size w w') (hf : FVal w' (· < w'.heap.size) f cs) :
    PP text w (.returned (.tuple #[.agg cs.toArray, .int .i64 (i : Nat), .int .i64 r])) w' := by
  have hf' := hf
  obtain ⟨k', a', n', ws', ar', ks'⟩ := f
  obtain ⟨A3, n3, c3, A4, n4, c4, A, m, c, rfl, -⟩ := hf'.open_
  exact ⟨hb, _, _, _, _, _, _, _, _, _, _, _, _, _, _, _, h, rfl, hf⟩
theorem parse_pp (text : ByteArray) (w : World) (hs : text.size ≤ 40000) (hw : HasW w) : Calls Tryd.prog 9 #[.string text] w (PP text w) := by
  refine (fparse_any text w (by omega) hw.ok hw.lt).mono fun e w' h => ?_
  obtain ⟨hb, v, a, r, rfl, -, h2⟩ := h
  have h2 := h2 hs
  cases hr : Fo.readF text.toList with
  | error i =>
    rw [hr] at h2
    obtain ⟨rfl, rfl, rfl⟩ := h2
    exact PP.of_cs (show outP text.toList = (zF, i, 3) by unfold outP; rw [hr]) hb (zF_val _ _)
  | ok f =>
    rw [hr] at h2
    simp only at h2
    by_cases hv : (Fo.lookF Fo.fitP f).isSome = true
    · rw [if_pos hv] at h2
      obtain ⟨⟨cs, rfl, hf⟩, rfl, rfl⟩ := h2
      exact PP.of_cs (i := 0) (show outP text.toList = (f, 0, 0) by unfold outP; rw [hr]; exact if_pos hv) hb (FVal.more (fun b hb => hb.2) _ _ hf)
    · rw [if_neg hv] at h2
      obtain ⟨rfl, rfl, rfl⟩ := h2
      exact PP.of_cs (i := 0) (show outP text.toList = (zF, 0, 1) by unfold outP; rw [hr]; exact if_neg hv) hb (zF_val _ _)
theorem outP_len (s : Fo.Bs) (h : (outP s).2.2 ≠ 3) : (outP s).2.1 = 0 := by
  unfold outP at h ⊢
  cases hr : Fo.readF s with
  | error i => rw [hr] at h; exact absurd rfl h
  | ok f => simp only; split <;> rfl

theorem info_u8 : (Tryd.prog.info? 5).map (fun i => (i.zero, i.size, i.bytes)) = some (some (.int .u8 0), 1, 1) := by kernel_rfl
/-- Bytes in a row of the call's own, since w0. -/
structure OB (w0 : World) (V : Value) (bs : Fo.Bs) (W : World) : Prop where
  own : W.ownsRow w0.heap.size 5 1 V bs.length (Lib.byteCells bs)
  bel : Below w0.heap.size w0 W
section
variable {w0 W W' : World} {V : Value} {bs : Fo.Bs}
theorem OB.nil (w0 : World) : OB w0 (.slice none 0 0) [] w0 := ⟨World.ownsRow_nil _ _ _ _, Below.refl _ _⟩
theorem OB.alloc (h : OB w0 V bs W) (o : Obj) : OB w0 V bs (W.alloc o) := ⟨h.own.alloc _, h.bel.alloc h.bel.size _⟩
theorem OB.form (h : OB w0 V bs W) : ∃ A c, V = .slice A bs.length c := own_slice h.own
theorem OB.app {V' : Value} {bs' : Fo.Bs} (h : OB w0 V bs W) (ho : W'.ownsRow w0.heap.size 5 1 V' bs'.length (Lib.byteCells bs')) (hg : W.grownBy W' V.ownBlock) : OB w0 V' bs' W' :=
  ⟨ho, h.bel.grown hg h.bel.size fun _g e => (own_block h.own e).1⟩
theorem OB.on (h : OB w0 V bs W) (hb : Below W.heap.size W W') : OB w0 V bs W' := by
  refine ⟨?_, h.bel.trans (hb.mono h.bel.size)⟩
  obtain ⟨h1, h2⟩ := h.own
  refine ⟨h1, ?_⟩
  rcases h2 with h2 | ⟨g, cap, cur, e, hg, hc, rest⟩
  · exact .inl h2
  · exact .inr ⟨g, cap, cur, e, hg, (hb.block g (Array.getElem?_eq_some_iff.1 hc).1).trans hc, rest⟩
/-- 'string(b)'. -/
theorem OB.back (h : OB w0 V bs W) : (convert 22 9 V).run Tryd.prog W = .ok (.string ⟨bs.toArray⟩) W := by
  rcases Joins.ownsRow_forms h.own with ⟨rfl, h0⟩ | ⟨g, cap, rfl⟩
  · obtain rfl : bs = [] := List.length_eq_zero_iff.1 h0
    exact run_convert_bytes_nil W 22 5 Tryd.underlying22 Tryd.underlying5 0 0 9 Tryd.underlying9
  · refine run_convert_bytes_back W 22 9 5 ⟨g, 0, none⟩ cap bs Tryd.underlying22 Tryd.underlying5 Tryd.underlying9 ?_
    intro j hj
    exact h.own.cells (g := g) rfl j _ (by simp [Lib.byteCells, hj])
end

theorem wpList_outB {w0 w : World} {ops : Array Oper} {rest : List Oper} {o : Oper} {a : Act} {Q : Exit → Act → World → Prop} (hgd : o.guard = none) (s x : Operand)
    (ho : o.op = .call { callee := .builtin .append, args := #[s, x], argTypes := #[22, 22] })
    (V : Value) (bs : Fo.Bs) (hs : a.eval s = V) (hown : OB w0 V bs w) (g c : Nat) (y : UInt8) (yi : Int) (hy : yi = (y.toNat : Int)) (hx : a.eval x = .slice (some ⟨g, 0, none⟩) 1 c) (hc : Blk w g 5 #[.int .u8 yi]) (hn : bs.length ≤ 1000000)
    (h : ∀ V' w', OB w0 V' (bs ++ [y]) w' → wpList Tryd.prog ops Q rest (a.put o.dst V') w') : wpList Tryd.prog ops Q (o :: rest) a w := by
  subst hy
  obtain ⟨i, hi, hz0, hz1, hz2⟩ := info_parts info_u8
  refine wpList_append_own w hgd s x 22 ho w0.heap.size 5 i _ 1 1 Tryd.underlying22 hi hz0 hz1 hz2 rfl (by decide) V bs.length _ hs hown.own ⟨g, 0, none⟩ 1 c [.int .u8 (y.toNat : Int)] hx rfl ?_ ?_ (by unfold maxLen; omega) (by omega) hown.bel.size ?_
  · intro j u hu
    have e : (Addr.mk g 0 none).add j = ⟨g, j, none⟩ := by unfold Addr.add; split <;> simp_all
    rw [e, hc.cell j]
    simpa using hu
  · intro u hu
    simp at hu
    rw [hu]; rfl
  · intro V' w' h1 h2 _
    refine h V' w' (hown.app ?_ h2)
    rw [List.length_append, Lib.byteCells_append]
    exact h1
theorem wpList_outS {w0 w : World} {ops : Array Oper} {rest : List Oper} {o : Oper} {a : Act} {Q : Exit → Act → World → Prop} (hgd : o.guard = none) (s x : Operand)
    (ho : o.op = .call { callee := .builtin .append, args := #[s, x], argTypes := #[22, 9] })
    (V : Value) (bs tx : Fo.Bs) (hs : a.eval s = V) (hown : OB w0 V bs w) (hx : a.eval x = .string ⟨tx.toArray⟩) (hn : bs.length ≤ 1000000) (ht : tx.length ≤ 1000000)
    (h : ∀ V' w', OB w0 V' (bs ++ tx) w' → wpList Tryd.prog ops Q rest (a.put o.dst V') w') : wpList Tryd.prog ops Q (o :: rest) a w := by
  obtain ⟨i, hi, hz0, hz1, hz2⟩ := info_parts info_u8
  have hsz : (⟨tx.toArray⟩ : ByteArray).size = tx.length := List.size_toArray
  refine Lib.wpList_append_own_string w hgd s x 22 9 ho w0.heap.size 5 i Tryd.underlying22 Tryd.underlying9 hi hz0 hz1 hz2 V bs.length _ hs hown.own _ hx (by rw [hsz]; unfold maxLen; omega) (by rw [hsz]; omega) hown.bel.size ?_
  intro V' w' h1 h2 _
  refine h V' w' (hown.app ?_ h2)
  rw [List.length_append, Lib.byteCells_append]
  rw [hsz] at h1
  exact h1

end Go.Proofs.YtmnpelhcgobfaaaDoor
