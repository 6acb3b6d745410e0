/-
  Plain mathematics: what the reference's reader does, and that it reads exactly what Parse reads.
-/
import Derived.Test.YtbddchonhicpiaaDoorText2
namespace Go.Proofs.YtbddchonhicpiaaDoor
open Go.Lib (itoa decDigits)

namespace Tx
/-- The reference's number: at most two digits, no leading zero; -1 if there is none. -/
def numR : List UInt8 → Int × List UInt8
  | [] => (-1, [])
  | [c] => if dig c = true then (((c.toNat - 48 : Nat) : Int), []) else (-1, [c])
  | c :: d :: r =>
    if (49 ≤ c.toNat ∧ c.toNat ≤ 57) ∧ dig d = true then ((((c.toNat - 48) * 10 + (d.toNat - 48) : Nat) : Int), r)
    else if dig c = true then (((c.toNat - 48 : Nat) : Int), d :: r) else (-1, c :: d :: r)
theorem numR_two {c d : UInt8} (r : List UInt8) (h : 49 ≤ c.toNat ∧ c.toNat ≤ 57) (hd : dig d = true) : numR (c :: d :: r) = ((((c.toNat - 48) * 10 + (d.toNat - 48) : Nat) : Int), r) := by rw [numR, if_pos ⟨h, hd⟩]
theorem numR_one {c : UInt8} (r : List UInt8) (hc : dig c = true) (hn : ∀ d r', r = d :: r' → ¬ ((49 ≤ c.toNat ∧ c.toNat ≤ 57) ∧ dig d = true)) : numR (c :: r) = (((c.toNat - 48 : Nat) : Int), r) := by
  cases r with
  | nil => rw [numR, if_pos hc]
  | cons d r => rw [numR, if_neg (hn d r rfl), if_pos hc]
theorem numR_bad {c : UInt8} (r : List UInt8) (hc : dig c = false) : numR (c :: r) = (-1, c :: r) := by
  have h49 : ¬ (49 ≤ c.toNat ∧ c.toNat ≤ 57) := fun h => by rw [(dig_iff c).2 (by omega)] at hc; cases hc
  cases r with
  | nil => rw [numR, if_neg (by rw [hc]; simp)]
  | cons d r => rw [numR, if_neg (fun h => h49 h.1), if_neg (by rw [hc]; simp)]
theorem dec_two {a b : Nat} (ha : 1 ≤ a) (ha9 : a ≤ 9) (hb : b ≤ 9) : decDigits (a * 10 + b) = [UInt8.ofNat (48 + a), UInt8.ofNat (48 + b)] := by
  rw [dec_big (by omega), show (a * 10 + b) / 10 = a by omega, show (a * 10 + b) % 10 = b by omega, dec_small (by omega)]
  rfl
theorem byte_back {c : UInt8} (h : 48 ≤ c.toNat) : UInt8.ofNat (48 + (c.toNat - 48)) = c := by
  rw [show 48 + (c.toNat - 48) = c.toNat by omega]
  simp
theorem itoa_nat (u : Nat) : itoa (u : Int) = decDigits u := Lib.itoa_nonneg u
theorem numR_inv {l : List UInt8} (h : 0 ≤ (numR l).1) : l = itoa (numR l).1 ++ (numR l).2 ∧ (numR l).1 < 100 := by
  match l with
  | [] => simp [numR] at h
  | c :: r =>
    cases hc : dig c
    · rw [numR_bad r hc] at h; simp at h
    · have hcd := (dig_iff c).1 hc
      by_cases h2 : ∃ d r', r = d :: r' ∧ (49 ≤ c.toNat ∧ c.toNat ≤ 57) ∧ dig d = true
      · obtain ⟨d, r', rfl, h49, hd⟩ := h2
        have hdd := (dig_iff d).1 hd
        rw [numR_two r' h49 hd]
        simp only
        refine ⟨?_, by omega⟩
        rw [itoa_nat, dec_two (by omega) (by omega) (by omega), byte_back (by omega), byte_back (by omega)]
        rfl
      · rw [numR_one r hc (fun d r' e hh => h2 ⟨d, r', e, hh⟩)]
        simp only
        refine ⟨?_, by omega⟩
        rw [itoa_nat, dec_small (by omega), byte_back (by omega)]
        rfl
theorem numR_app {n : Int} (h0 : 0 ≤ n) (h1 : n < 100) {b : List UInt8} (hb : Hd [44, 32, 59, 47] b) : numR (itoa n ++ b) = (n, b) := by
  obtain ⟨u, rfl⟩ : ∃ u : Nat, n = u := ⟨n.toNat, by omega⟩
  have hnd : ∀ d r', b = d :: r' → dig d = false := fun d r' e => by
    have := hb d (by rw [e]; rfl)
    simp at this
    rcases this with rfl | rfl | rfl | rfl <;> rfl
  rw [itoa_nat]
  by_cases hu : u < 10
  · rw [dec_small hu]
    have e : (UInt8.ofNat (48 + u)).toNat = 48 + u := ofNat_toNat (by omega)
    show numR (UInt8.ofNat (48 + u) :: b) = _
    rw [numR_one b ((dig_iff _).2 (by omega)) (fun d r' hd hh => by rw [hnd d r' hd] at hh; cases hh.2), e]
    congr 1
    omega
  · have e : u = (u / 10) * 10 + u % 10 := by omega
    have e1 : (UInt8.ofNat (48 + u / 10)).toNat = 48 + u / 10 := ofNat_toNat (by omega)
    have e2 : (UInt8.ofNat (48 + u % 10)).toNat = 48 + u % 10 := ofNat_toNat (by omega)
    have hd : decDigits u = [UInt8.ofNat (48 + u / 10), UInt8.ofNat (48 + u % 10)] := by
      conv => lhs; rw [e]
      exact dec_two (by omega) (by omega) (by omega)
    rw [hd]
    show numR (UInt8.ofNat (48 + u / 10) :: UInt8.ofNat (48 + u % 10) :: b) = _
    rw [numR_two b (by omega) ((dig_iff _).2 (by omega)), e1, e2]
    congr 1
    omega

/-- k further numbers, each behind a comma. -/
def numsR : Nat → List UInt8 → Option (List Int × List UInt8)
  | 0, l => some ([], l)
  | k + 1, l =>
    if l.head? = some 44 then
      if (numR (l.drop 1)).1 < 0 then none else (numsR k (numR (l.drop 1)).2).map fun p => ((numR (l.drop 1)).1 :: p.1, p.2)
    else none
/-- A tuple of a given length. -/
def tupR : Nat → List UInt8 → Option (List Int × List UInt8)
  | 0, l => if [40, 41].isPrefixOf l = true then some ([], l.drop 2) else none
  | k + 1, l => if (numR l).1 < 0 then none else (numsR k (numR l).2).map fun p => ((numR l).1 :: p.1, p.2)
theorem head_drop {l : List UInt8} {c : UInt8} (h : l.head? = some c) : l = c :: l.drop 1 := by
  cases l with
  | nil => simp at h
  | cons a l => simp at h; subst h; rfl
theorem numsR_inv : ∀ (k : Nat) (l : List UInt8) (p), numsR k l = some p → l = numsS p.1 ++ p.2 ∧ p.1.length = k ∧ N2 p.1
  | 0, l, p, h => by
    rw [numsR] at h
    injection h with h
    subst h
    exact ⟨rfl, rfl, fun x hx => by simp at hx⟩
  | k + 1, l, p, h => by
    rw [numsR] at h
    split at h
    · rename_i hc
      split at h
      · cases h
      · rename_i hn
        simp only [Option.map_eq_some_iff] at h
        obtain ⟨q, hq, rfl⟩ := h
        obtain ⟨e1, e2⟩ := numR_inv (l := l.drop 1) (by omega)
        obtain ⟨i1, i2, i3⟩ := numsR_inv k _ q hq
        refine ⟨?_, by simp [i2], fun x hx => ?_⟩
        · rw [numsS_cons, List.cons_append, List.append_assoc, ← i1, ← e1]
          exact head_drop hc
        · rcases List.mem_cons.1 hx with rfl | hx
          · exact ⟨by omega, e2⟩
          · exact i3 x hx
    · cases h
theorem numsR_app : ∀ (t : List Int) {b : List UInt8}, N2 t → Hd [32, 59] b → numsR t.length (numsS t ++ b) = some (t, b)
  | [], b, _, _ => rfl
  | y :: t, b, hn, hb => by
    have hy := hn y (List.mem_cons_self ..)
    have e : (numsS (y :: t) ++ b) = 44 :: (itoa y ++ (numsS t ++ b)) := by rw [numsS_cons, List.cons_append, List.append_assoc]
    have h1 := numR_app hy.1 hy.2 (b := numsS t ++ b) ((Hd.nums t hb).more (by decide))
    rw [e, List.length_cons, numsR]
    simp only [List.head?_cons, List.drop_succ_cons, List.drop_zero, if_true]
    rw [h1]
    simp only
    rw [if_neg (by omega), numsR_app t (fun x hx => hn x (List.mem_cons_of_mem _ hx)) hb]
    rfl
theorem tupR_inv {k : Nat} {l : List UInt8} {p : List Int × List UInt8} (h : tupR k l = some p) : l = tupS p.1 ++ p.2 ∧ p.1.length = k ∧ N2 p.1 := by
  cases k with
  | zero =>
    rw [tupR] at h
    split at h
    · rename_i hc
      injection h with h
      subst h
      exact ⟨isPre_split hc, rfl, fun x hx => by simp at hx⟩
    · cases h
  | succ k =>
    rw [tupR] at h
    split at h
    · cases h
    · rename_i hn
      simp only [Option.map_eq_some_iff] at h
      obtain ⟨q, hq, rfl⟩ := h
      obtain ⟨e1, e2⟩ := numR_inv (l := l) (by omega)
      obtain ⟨i1, i2, i3⟩ := numsR_inv k _ q hq
      refine ⟨?_, by simp [i2], fun x hx => ?_⟩
      · show l = (itoa (numR l).1 ++ numsS q.1) ++ q.2
        rw [List.append_assoc, ← i1]
        exact e1
      · rcases List.mem_cons.1 hx with rfl | hx
        · exact ⟨by omega, e2⟩
        · exact i3 x hx
theorem tupR_app (t : List Int) {b : List UInt8} (hn : N2 t) (hb : Hd [32, 59] b) : tupR t.length (tupS t ++ b) = some (t, b) := by
  cases t with
  | nil => rfl
  | cons x t =>
    have hx := hn x (List.mem_cons_self ..)
    have e : tupS (x :: t) ++ b = itoa x ++ (numsS t ++ b) := by show (itoa x ++ numsS t) ++ b = _; rw [List.append_assoc]
    have h1 := numR_app hx.1 hx.2 (b := numsS t ++ b) ((Hd.nums t hb).more (by decide))
    rw [e, List.length_cons, tupR, h1]
    simp only
    rw [if_neg (by omega), numsR_app t (fun x hx => hn x (List.mem_cons_of_mem _ hx)) hb]
    rfl
theorem tupR_len {k : Nat} {l : List UInt8} {p : List Int × List UInt8} (h : tupR k l = some p) : p.2.length ≤ l.length := by
  have := congrArg List.length (tupR_inv h).1
  rw [List.length_append] at this
  omega

/-- Tuples, each behind a blank. -/
def tupsR (k : Nat) (l : List UInt8) : Option (List (List Int) × List UInt8) :=
  if h : l.head? = some 32 then
    match ht : tupR k (l.drop 1) with
    | none => none
    | some p => (tupsR k p.2).map fun q => (p.1 :: q.1, q.2)
  else some ([], l)
termination_by l.length
decreasing_by
  have := tupR_len ht
  cases l with
  | nil => simp at h
  | cons a l => simp only [List.length_drop, List.length_cons] at this ⊢; omega
theorem tupsR_stop {k : Nat} {l : List UInt8} (h : l.head? ≠ some 32) : tupsR k l = some ([], l) := by
  rw [tupsR, dif_neg h]
theorem tupsR_bad {k : Nat} {l : List UInt8} (h : l.head? = some 32) (hn : tupR k (l.drop 1) = none) : tupsR k l = none := by
  rw [tupsR, dif_pos h]
  split
  · rfl
  · rename_i p hp; rw [hn] at hp; cases hp
theorem tupsR_more {k : Nat} {l : List UInt8} (h : l.head? = some 32) {p : List Int × List UInt8} (hn : tupR k (l.drop 1) = some p) :
    tupsR k l = (tupsR k p.2).map fun q => (p.1 :: q.1, q.2) := by
  rw [tupsR, dif_pos h]
  split
  · rename_i hp; rw [hn] at hp; cases hp
  · rename_i q hp; rw [hn] at hp; injection hp with hp; rw [hp]
theorem tupsR_inv (k : Nat) : ∀ (n : Nat) (l : List UInt8), l.length ≤ n → ∀ p, tupsR k l = some p → l = tupsS p.1 ++ p.2
  | n, l, hn, p, h => by
    by_cases hc : l.head? = some 32
    · cases hv : tupR k (l.drop 1) with
      | none => rw [tupsR_bad hc hv] at h; cases h
      | some v =>
        rw [tupsR_more hc hv] at h
        have hl := head_drop hc
        simp only [Option.map_eq_some_iff] at h
        obtain ⟨q, hq, rfl⟩ := h
        have h1 := (tupR_inv hv).1
        have h2 := tupR_len hv
        have hlen : l.length = 1 + (l.drop 1).length := by
          have := congrArg List.length hl
          simp only [List.length_cons] at this
          omega
        match n, hn with
        | 0, hn => omega
        | n + 1, hn =>
          have ih := tupsR_inv k n _ (by omega) q hq
          simp only
          rw [tupsS_cons, List.cons_append, List.append_assoc, ← ih, ← h1]
          exact hl
    · rw [tupsR_stop hc] at h
      injection h with h
      rw [← h]
      rfl
theorem tupsR_app (k : Nat) : ∀ (ts : List (List Int)) {b : List UInt8}, (∀ t ∈ ts, N2 t ∧ t.length = k) → Hd [59] b → tupsR k (tupsS ts ++ b) = some (ts, b)
  | [], b, _, hb => tupsR_stop (fun h => by have := hb _ h; simp at this)
  | t :: ts, b, hn, hb => by
    have e : tupsS (t :: ts) ++ b = 32 :: (tupS t ++ (tupsS ts ++ b)) := by rw [tupsS_cons, List.cons_append, List.append_assoc]
    have ht := hn t (List.mem_cons_self ..)
    have h1 := tupR_app t (b := tupsS ts ++ b) ht.1 ((Hd.tups ts hb).more (by decide))
    rw [ht.2] at h1
    rw [e, tupsR_more (l := 32 :: (tupS t ++ (tupsS ts ++ b))) rfl (p := (t, tupsS ts ++ b)) (by simpa using h1)]
    simp only
    rw [tupsR_app k ts (fun x hx => hn x (List.mem_cons_of_mem _ hx)) hb]
    rfl
theorem tupsR_len {k : Nat} {l : List UInt8} {p : List (List Int) × List UInt8} (h : tupsR k l = some p) : p.2.length ≤ l.length := by
  have := congrArg List.length (tupsR_inv k _ _ (Nat.le_refl _) p h)
  rw [List.length_append] at this
  omega

/-- How many bytes stand ahead of the first slash. -/
def slash (l : List UInt8) : Nat := (l.takeWhile fun c => c != 47).length
/-- A relation behind '; '. -/
def relR (l : List UInt8) : Option (Sh.Rel × List UInt8) :=
  if slash l = l.length then none
  else if (numR (l.drop (slash l + 1))).1 < 0 then none
  else (tupsR (numR (l.drop (slash l + 1))).1.toNat (numR (l.drop (slash l + 1))).2).map fun q => (⟨⟨(l.take (slash l)).toArray⟩, (numR (l.drop (slash l + 1))).1, q.1⟩, q.2)
theorem slash_at {l : List UInt8} (h : slash l ≠ l.length) : l = l.take (slash l) ++ (47 :: l.drop (slash l + 1)) := by
  have hle : slash l ≤ l.length := (List.takeWhile_prefix _).length_le
  have hlt : slash l < l.length := by omega
  have hx : l[slash l] = 47 := by
    have := List.takeWhile_append_dropWhile (p := fun c : UInt8 => c != 47) (l := l)
    have hd : l.drop (slash l) = l.dropWhile (fun c : UInt8 => c != 47) := by
      have h2 := List.drop_left (l₁ := l.takeWhile (fun c : UInt8 => c != 47)) (l₂ := l.dropWhile (fun c : UInt8 => c != 47))
      rw [this] at h2
      exact h2
    have hne : l.dropWhile (fun c : UInt8 => c != 47) ≠ [] := by rw [← hd]; intro e; have := congrArg List.length e; simp at this; omega
    have hh := List.head_dropWhile_not (fun c : UInt8 => c != 47) hne
    have he : l[slash l] = (l.dropWhile (fun c : UInt8 => c != 47)).head hne := by
      simp only [← hd]
      rw [List.head_drop]
    rw [he]
    simpa using hh
  have := (List.take_append_drop (slash l) l).symm
  rw [List.drop_eq_getElem_cons hlt, hx] at this
  exact this
theorem relR_inv {l : List UInt8} {p : Sh.Rel × List UInt8} (h : relR l = some p) : 59 :: 32 :: l = relS p.1 ++ p.2 := by
  unfold relR at h
  split at h
  · cases h
  · rename_i hs
    split at h
    · cases h
    · rename_i hn
      simp only [Option.map_eq_some_iff] at h
      obtain ⟨q, hq, rfl⟩ := h
      obtain ⟨e1, -⟩ := numR_inv (l := l.drop (slash l + 1)) (by omega)
      have e2 := tupsR_inv _ _ _ (Nat.le_refl _) q hq
      show 59 :: 32 :: l = [59, 32] ++ (ByteArray.toList ⟨(l.take (slash l)).toArray⟩ ++ (47 :: (itoa (numR (l.drop (slash l + 1))).1 ++ tupsS q.1))) ++ q.2
      rw [ByteArray.toList_eq]
      simp only [List.append_assoc, List.cons_append, List.nil_append]
      rw [← e2, ← e1, ← slash_at hs]
theorem relR_app {r : Sh.Rel} (hr : RelFit r) (hs : RelSmall r) (hl : ∀ t ∈ r.tuples, (t.length : Int) = r.arity) {b : List UInt8} (hb : Hd [59] b) : relR ((relS r ++ b).drop 2) = some (r, b) := by
  have e : (relS r ++ b).drop 2 = r.name.toList ++ (47 :: (itoa r.arity ++ (tupsS r.tuples ++ b))) := by
    unfold relS
    simp [List.append_assoc]
  have hrun : slash (r.name.toList ++ (47 :: (itoa r.arity ++ (tupsS r.tuples ++ b)))) = r.name.toList.length := by
    unfold slash
    rw [run_app _ (fun c hc => ?_) rfl]
    have := hr.nm c hc
    rw [bne_iff_ne]
    rintro rfl
    simp [Sh.letterB, Sh.digitB] at this
  have hd : (r.name.toList ++ (47 :: (itoa r.arity ++ (tupsS r.tuples ++ b)))).drop (r.name.toList.length + 1) = itoa r.arity ++ (tupsS r.tuples ++ b) := by
    rw [← List.drop_drop, drop_app]
    rfl
  have h1 := numR_app hs.ar.1 hs.ar.2 (b := tupsS r.tuples ++ b) ((Hd.tups _ hb).more (by decide))
  rw [e]
  unfold relR
  rw [hrun, hd, h1, if_neg (by simp), if_neg (by simp only; have := hs.ar.1; omega)]
  simp only
  rw [tupsR_app _ r.tuples (fun t ht => ⟨(hs.tups t ht).1, by have := hl t ht; omega⟩) hb, List.take_left]
  simp only [Option.map_some]
  congr 1
  rw [ByteArray.toList_eq]
theorem relR_len {l : List UInt8} {p : Sh.Rel × List UInt8} (h : relR l = some p) : p.2.length ≤ l.length := by
  have := congrArg List.length (relR_inv h)
  unfold relS at this
  simp only [List.length_append, List.length_cons, List.length_nil] at this
  omega

/-- Whether another relation begins. -/
def moreR (l : List UInt8) : Bool := decide (2 < l.length) && [59, 32].isPrefixOf l
/-- Relations, at most k of them; what is left. -/
def relsR : Nat → List UInt8 → Option (List Sh.Rel × List UInt8)
  | 0, l => some ([], l)
  | k + 1, l =>
    if moreR l = true then
      match relR (l.drop 2) with
      | none => none
      | some p => (relsR k p.2).map fun q => (p.1 :: q.1, q.2)
    else some ([], l)
theorem relsR_inv : ∀ (k : Nat) (l : List UInt8) (p), relsR k l = some p → l = p.1.flatMap relS ++ p.2
  | 0, l, p, h => by
    rw [relsR] at h
    injection h with h
    subst h
    rfl
  | k + 1, l, p, h => by
    rw [relsR] at h
    split at h
    · rename_i hm
      cases hr : relR (l.drop 2) with
      | none => rw [hr] at h; cases h
      | some v =>
        rw [hr] at h
        simp only [Option.map_eq_some_iff] at h
        obtain ⟨q, hq, rfl⟩ := h
        have e1 := relR_inv hr
        have e2 := relsR_inv k _ q hq
        unfold moreR at hm
        rw [Bool.and_eq_true] at hm
        have e3 := isPre_split hm.2
        simp only
        rw [List.flatMap_cons, List.append_assoc, ← e2, ← e1]
        exact e3
    · injection h with h
      subst h
      rfl
theorem relsR_app : ∀ (k : Nat) (rs : List Sh.Rel), rs.length ≤ k → (∀ r ∈ rs, RelFit r ∧ RelSmall r ∧ ∀ t ∈ r.tuples, (t.length : Int) = r.arity) → relsR k (rs.flatMap relS) = some (rs, [])
  | 0, rs, hk, _ => by
    cases rs with
    | nil => rfl
    | cons r rs => simp at hk
  | k + 1, [], _, _ => by
    rw [relsR]
    rw [if_neg (by simp [moreR])]
    rfl
  | k + 1, r :: rs, hk, h => by
    have hr := h r (List.mem_cons_self ..)
    have hm : moreR (List.flatMap relS (r :: rs)) = true := by
      rw [List.flatMap_cons]
      unfold moreR relS
      simp
      omega
    have h1 := relR_app hr.1 hr.2.1 hr.2.2 (Hd.rels rs)
    rw [← List.flatMap_cons] at h1
    rw [relsR]
    rw [if_pos hm, h1]
    simp only
    rw [relsR_app k rs (by simpa using hk) (fun x hx => h x (List.mem_cons_of_mem _ hx))]
    rfl

/-- The reference's Parse. -/
def parseR (l : List UInt8) : Option Sh.Str :=
  if 40000 < l.length then none
  else match relsR 9 (numR l).2 with
    | none => none
    | some p => if p.2 = [] ∧ Sh.validB ⟨(numR l).1, p.1⟩ = true then some ⟨(numR l).1, p.1⟩ else none
theorem parseR_eq (l : List UInt8) : parseR l = parseP l := by
  cases h : parseR l with
  | some s =>
    unfold parseR at h
    split at h
    · cases h
    · rename_i hl
      split at h
      · cases h
      · rename_i p hp
        split at h
        · rename_i hv
          injection h with h
          subst h
          have h1 := (small_of_valid hv.2).1
          obtain ⟨e1, -⟩ := numR_inv (l := l) h1.1
          have e2 := relsR_inv _ _ p hp
          rw [hv.1, List.append_nil] at e2
          have e : l = textS ⟨(numR l).1, p.1⟩ := by
            show l = itoa (numR l).1 ++ p.1.flatMap relS
            rw [← e2]
            exact e1
          have := parse_text hv.2 (by rw [← e]; omega)
          rw [← e] at this
          exact this.symm
        · cases h
  | none =>
    cases hp : parseP l with
    | none => rfl
    | some s =>
      exfalso
      obtain ⟨e, hl, hv⟩ := text_parse hp
      obtain ⟨size, rs⟩ := s
      obtain ⟨h1, h2, h3⟩ := small_of_valid hv
      obtain ⟨-, hf⟩ := fit_of_valid hv
      have hlen : ∀ r ∈ rs, ∀ t ∈ r.tuples, (t.length : Int) = r.arity := fun r hr t ht => by
        obtain ⟨-, -, -, h4, -⟩ := (Sh.validB_iff size rs).1 hv
        obtain ⟨-, -, -, d⟩ := (Sh.relB_iff size r).1 (h4 r hr)
        exact (d t ht).1
      have hn : numR l = (size, rs.flatMap relS) := by
        rw [e]
        exact numR_app h1.1 h1.2 ((Hd.rels rs).more (by decide))
      unfold parseR at h
      rw [if_neg (by omega), hn] at h
      simp only at h
      rw [relsR_app 9 rs (by omega) (fun r hr => ⟨hf r hr, h3 r hr, hlen r hr⟩)] at h
      simp only at h
      rw [if_pos ⟨trivial, hv⟩] at h
      cases h
end Tx
end Go.Proofs.YtbddchonhicpiaaDoor
