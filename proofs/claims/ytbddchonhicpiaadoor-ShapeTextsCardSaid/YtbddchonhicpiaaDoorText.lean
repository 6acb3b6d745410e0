/-
  Plain mathematics: the textual form as a function, and that it and the grammar are inverse.
-/
import Derived.Test.YtbddchonhicpiaaDoorGram
import Derived.Test.YtbddchonhicpiaaDoorSpec5
import Derived.Lib.ItoaNum
import Derived.Lib.ItoaMem
namespace Go.Proofs.YtbddchonhicpiaaDoor
open Go.Lib (itoa decDigits)

namespace Tx
theorem length_bytes (s : ByteArray) : s.toList.length = s.size := by rw [ByteArray.toList_eq]; simp
def dig (c : UInt8) : Bool := Sh.digitB c.toNat
theorem dig_iff (c : UInt8) : dig c = true ↔ 48 ≤ c.toNat ∧ c.toNat ≤ 57 := by unfold dig Sh.digitB; simp
theorem ofNat_toNat {n : Nat} (h : n < 256) : (UInt8.ofNat n).toNat = n := by simp [Nat.mod_eq_of_lt h]

/-- What a row of digits spells. -/
def val (acc : Nat) (l : List UInt8) : Nat := l.foldl (fun a c => a * 10 + (c.toNat - 48)) acc
theorem val_cons (acc : Nat) (c : UInt8) (l : List UInt8) : val acc (c :: l) = val (acc * 10 + (c.toNat - 48)) l := by unfold val; rw [List.foldl_cons]
theorem val_snoc (acc : Nat) (l : List UInt8) (c : UInt8) : val acc (l ++ [c]) = val acc l * 10 + (c.toNat - 48) := by unfold val; rw [List.foldl_append, List.foldl_cons, List.foldl_nil]
theorem val_ge : ∀ (l : List UInt8) (acc : Nat), acc ≤ val acc l
  | [], acc => Nat.le_refl _
  | c :: l, acc => by
    rw [val_cons]
    have := val_ge l (acc * 10 + (c.toNat - 48))
    omega

theorem parse_val (l : List UInt8) : ∀ (acc : Nat), (∀ c ∈ l, dig c = true) → val acc l < 18446744073709551616 → Lib.parseUint10 acc l = .ok (val acc l) := by
  induction l with
  | nil => intro acc _ _; rfl
  | cons c l ih =>
    intro acc hd hv
    have hc := (dig_iff c).1 (hd c (List.mem_cons_self ..))
    rw [val_cons] at hv ⊢
    have hge := val_ge l (acc * 10 + (c.toNat - 48))
    unfold Lib.parseUint10
    rw [if_pos hc, if_neg (by omega), if_neg (by omega)]
    exact ih _ (fun x hx => hd x (List.mem_cons_of_mem _ hx)) hv
theorem parse_inv : ∀ (l : List UInt8) (acc u : Nat), Lib.parseUint10 acc l = .ok u → (∀ c ∈ l, dig c = true) ∧ u = val acc l
  | [], acc, u, h => by
    unfold Lib.parseUint10 at h
    injection h with h
    exact ⟨fun c hc => by simp at hc, h.symm⟩
  | c :: l, acc, u, h => by
    unfold Lib.parseUint10 at h
    split at h
    · rename_i hc
      split at h
      · cases h
      · split at h
        · cases h
        · obtain ⟨h1, h2⟩ := parse_inv l _ u h
          refine ⟨fun x hx => ?_, h2⟩
          rcases List.mem_cons.1 hx with rfl | hx
          · exact (dig_iff x).2 hc
          · exact h1 x hx
    · cases h

theorem dec_small {u : Nat} (h : u < 10) : decDigits u = [UInt8.ofNat (48 + u)] := by rw [decDigits, dif_pos h]
theorem dec_big {u : Nat} (h : ¬ u < 10) : decDigits u = decDigits (u / 10) ++ [UInt8.ofNat (48 + u % 10)] := by rw [decDigits, dif_neg h]
theorem dec_dig (u : Nat) : ∀ c ∈ decDigits u, dig c = true := by
  induction u using Nat.strongRecOn with
  | _ u ih =>
    intro c hc
    by_cases h : u < 10
    · rw [dec_small h, List.mem_singleton] at hc
      subst hc
      rw [dig_iff, ofNat_toNat (by omega)]
      omega
    · rw [dec_big h, List.mem_append, List.mem_singleton] at hc
      rcases hc with hc | rfl
      · exact ih _ (by omega) c hc
      · rw [dig_iff, ofNat_toNat (by omega)]
        omega
theorem dec_ne (u : Nat) : decDigits u ≠ [] := by
  by_cases h : u < 10
  · rw [dec_small h]; simp
  · rw [dec_big h]; simp
theorem dec_val (u : Nat) : val 0 (decDigits u) = u := by
  induction u using Nat.strongRecOn with
  | _ u ih =>
    by_cases h : u < 10
    · rw [dec_small h]
      show 0 * 10 + ((UInt8.ofNat (48 + u)).toNat - 48) = u
      rw [ofNat_toNat (by omega)]
      omega
    · rw [dec_big h, val_snoc, ih _ (by omega), ofNat_toNat (by omega)]
      omega
theorem head_app {a b : List UInt8} (h : a ≠ []) : (a ++ b).head? = a.head? := by
  cases a with
  | nil => exact absurd rfl h
  | cons x a => rfl
theorem dec_head (u : Nat) (h1 : 1 ≤ u) : (decDigits u).head? ≠ some 48 := by
  induction u using Nat.strongRecOn with
  | _ u ih =>
    by_cases h : u < 10
    · rw [dec_small h]
      intro he
      have he : UInt8.ofNat (48 + u) = 48 := by simpa using he
      have := congrArg UInt8.toNat he
      rw [ofNat_toNat (by omega)] at this
      have e : (48 : UInt8).toNat = 48 := rfl
      omega
    · rw [dec_big h, head_app (dec_ne _)]
      exact ih _ (by omega) (by omega)
theorem dec_long (u : Nat) (h : 1 < (decDigits u).length) : 10 ≤ u := by
  by_cases h10 : u < 10
  · rw [dec_small h10] at h; simp at h
  · omega

/-- A row of digits without a leading zero. -/
def Plain (l : List UInt8) : Prop := l ≠ [] ∧ (∀ c ∈ l, dig c = true) ∧ ¬ (1 < l.length ∧ l.head? = some 48)
theorem dec_plain (u : Nat) : Plain (decDigits u) := by
  refine ⟨dec_ne u, dec_dig u, fun h => ?_⟩
  exact dec_head u (by have := dec_long u h.1; omega) h.2
theorem val_pos : ∀ (l : List UInt8), l ≠ [] → (∀ c ∈ l, dig c = true) → l.head? ≠ some 48 → 1 ≤ val 0 l
  | [], h, _, _ => absurd rfl h
  | c :: l, _, hd, hh => by
    have hc := (dig_iff c).1 (hd c (List.mem_cons_self ..))
    rw [val_cons]
    have := val_ge l (0 * 10 + (c.toNat - 48))
    have hne : c.toNat ≠ 48 := fun e => hh (by
      have : c = 48 := UInt8.toNat_inj.1 e
      rw [this]; rfl)
    omega
theorem plain_dec : ∀ (n : Nat) (l : List UInt8), l.length = n → Plain l → decDigits (val 0 l) = l
  | n, l, hn, ⟨hne, hd, hz⟩ => by
    rcases List.eq_nil_or_concat l with rfl | ⟨a, c, rfl⟩
    · exact absurd rfl hne
    · rw [List.concat_eq_append] at *
      have hc := (dig_iff c).1 (hd c (by simp))
      rw [val_snoc]
      have hcc : UInt8.ofNat (48 + (c.toNat - 48)) = c := by
        rw [show 48 + (c.toNat - 48) = c.toNat by omega]
        simp
      by_cases ha : a = []
      · subst ha
        rw [show val 0 [] = 0 from rfl, dec_small (by omega), show 0 * 10 + (c.toNat - 48) = c.toNat - 48 by omega, hcc]
        rfl
      · have hl : 1 < (a ++ [c]).length := by
          have : 0 < a.length := List.length_pos_iff.2 ha
          simp; omega
        have hh : a.head? ≠ some 48 := fun e => hz ⟨hl, by rw [head_app ha, e]⟩
        have hda : ∀ x ∈ a, dig x = true := fun x hx => hd x (by simp [hx])
        have hp := val_pos a ha hda hh
        have ih := plain_dec (n - 1) a (by simp at hn; omega) ⟨ha, hda, fun h => hh h.2⟩
        rw [dec_big (by omega), show (val 0 a * 10 + (c.toNat - 48)) / 10 = val 0 a by omega, show (val 0 a * 10 + (c.toNat - 48)) % 10 = c.toNat - 48 by omega, ih, hcc]
termination_by n => n
decreasing_by
  all_goals (rename_i hl; simp at hn; first | omega | (have : 0 < a.length := List.length_pos_iff.2 ha; omega))

theorem itoa_of {n : Int} (h : 0 ≤ n) : itoa n = decDigits n.toNat := by
  obtain ⟨u, rfl⟩ : ∃ u : Nat, n = u := ⟨n.toNat, by omega⟩
  rw [Lib.itoa_nonneg]; simp

/-- The first byte of what follows, if there is one, is among these. -/
def Hd (cs l : List UInt8) : Prop := ∀ c, l.head? = some c → c ∈ cs
theorem Hd.nil (cs : List UInt8) : Hd cs [] := fun c h => by simp at h
theorem Hd.cons {cs : List UInt8} {c : UInt8} (l : List UInt8) (h : c ∈ cs) : Hd cs (c :: l) := fun x hx => by
  have : c = x := by simpa using hx
  rw [← this]; exact h
theorem Hd.more {cs ds l : List UInt8} (h : Hd cs l) (hs : ∀ c ∈ cs, c ∈ ds) : Hd ds l := fun c hc => hs c (h c hc)
theorem Hd.run {cs l : List UInt8} (p : UInt8 → Bool) (h : Hd cs l) (hp : ∀ c ∈ cs, p c = false) : l.takeWhile p = [] := by
  cases l with
  | nil => rfl
  | cons c l => rw [List.takeWhile_cons, hp c (h c rfl)]; rfl
theorem Hd.no {cs l : List UInt8} {c : UInt8} (h : Hd cs l) (hc : c ∉ cs) (r : List UInt8) : (c :: r).isPrefixOf l = false := by
  cases l with
  | nil => rfl
  | cons x l =>
    have := h x rfl
    have hne : (c == x) = false := by
      rw [beq_eq_false_iff_ne]
      rintro rfl
      exact hc this
    simp [List.isPrefixOf, hne]

theorem run_app (p : UInt8 → Bool) {a b : List UInt8} (ha : ∀ c ∈ a, p c = true) (hb : b.takeWhile p = []) : (a ++ b).takeWhile p = a := by
  rw [List.takeWhile_append_of_pos ha, hb, List.append_nil]

theorem num_app {n : Int} (h0 : 0 ≤ n) (h1 : n < 9223372036854775808) {b : List UInt8} (hb : Hd [44, 32, 59, 47] b) : numP (itoa n ++ b) = some n ∧ digRun (itoa n ++ b) = (itoa n).length := by
  have hrun : (itoa n ++ b).takeWhile (fun c => Sh.digitB c.toNat) = itoa n := by
    refine run_app _ ?_ (hb.run _ (fun c hc => ?_))
    · rw [itoa_of h0]; exact dec_dig _
    · simp at hc; rcases hc with rfl | rfl | rfl | rfl <;> rfl
  constructor
  · unfold numP
    rw [hrun, itoa_of h0]
    have hp := dec_plain n.toNat
    have hat : Lib.atoiAll (decDigits n.toNat) = .ok n := by
      have hv := dec_val n.toNat
      have hd := dec_dig n.toNat
      revert hv hd
      cases hl : decDigits n.toNat with
      | nil => exact absurd hl (dec_ne _)
      | cons c r =>
        intro hv hd
        have hc := (dig_iff c).1 (hd c (List.mem_cons_self ..))
        rw [Lib.atoiAll_plain c r (by omega) (by omega)]
        unfold Lib.parseMag
        rw [if_neg (by simp), parse_val _ _ hd (by rw [hv]; omega), hv]
        unfold Lib.signless
        show (if 9223372036854775808 ≤ n.toNat then _ else _) = _
        rw [if_neg (by omega)]
        congr 1
        omega
    rw [hat]
    show (if _ then _ else _) = _
    rw [if_neg hp.2.2]
  · unfold digRun
    rw [hrun]

theorem num_inv {l : List UInt8} {v : Int} (h : numP l = some v) : l = itoa v ++ l.drop (digRun l) := by
  have hd : ∀ c ∈ l.takeWhile (fun c => Sh.digitB c.toNat), dig c = true := fun c hc => List.all_eq_true.1 List.all_takeWhile c hc
  have hsplit : l = l.takeWhile (fun c => Sh.digitB c.toNat) ++ l.drop (digRun l) := by
    unfold digRun
    conv => lhs; rw [← List.takeWhile_append_dropWhile (p := fun c : UInt8 => Sh.digitB c.toNat) (l := l)]
    congr 1
    conv => rhs; rw [← List.takeWhile_append_dropWhile (p := fun c : UInt8 => Sh.digitB c.toNat) (l := l)]
    rw [List.takeWhile_append_dropWhile]
    have := List.drop_left (l₁ := l.takeWhile (fun c : UInt8 => Sh.digitB c.toNat)) (l₂ := l.dropWhile (fun c : UInt8 => Sh.digitB c.toNat))
    rw [List.takeWhile_append_dropWhile] at this
    exact this.symm
  suffices itoa v = l.takeWhile (fun c => Sh.digitB c.toNat) by rw [this]; exact hsplit
  unfold numP at h
  generalize l.takeWhile (fun c => Sh.digitB c.toNat) = d at h hd ⊢
  split at h
  · rename_i v' hv
    split at h
    · cases h
    · rename_i hz
      injection h with h
      subst h
      cases d with
      | nil => cases hv
      | cons c r =>
        have hc := (dig_iff c).1 (hd c (List.mem_cons_self ..))
        rw [Lib.atoiAll_plain c r (by omega) (by omega)] at hv
        unfold Lib.parseMag at hv
        rw [if_neg (by simp)] at hv
        cases hp : Lib.parseUint10 0 (c :: r) with
        | ok u =>
          rw [hp] at hv
          unfold Lib.signless at hv
          simp only at hv
          split at hv
          · cases hv
          · injection hv with hv
            subst hv
            obtain ⟨-, rfl⟩ := parse_inv _ _ _ hp
            rw [Lib.itoa_nonneg]
            exact plain_dec _ _ rfl ⟨by simp, hd, hz⟩
        | _ => rw [hp] at hv; cases hv
  · cases h

/-- Numbers that Itoa and Atoi carry over. -/
def Nn (t : List Int) : Prop := ∀ x ∈ t, 0 ≤ x ∧ x < 9223372036854775808
def numsS (t : List Int) : List UInt8 := t.flatMap fun y => 44 :: itoa y
def tupS : List Int → List UInt8
  | [] => [40, 41]
  | x :: t => itoa x ++ numsS t
def tupsS (ts : List (List Int)) : List UInt8 := ts.flatMap fun t => 32 :: tupS t
def relS (r : Sh.Rel) : List UInt8 := [59, 32] ++ (r.name.toList ++ (47 :: (itoa r.arity ++ tupsS r.tuples)))
def textS (s : Sh.Str) : List UInt8 := itoa s.size ++ s.rels.flatMap relS

theorem numsS_cons (y : Int) (t : List Int) : numsS (y :: t) = 44 :: (itoa y ++ numsS t) := by unfold numsS; rw [List.flatMap_cons]; rfl
theorem tupsS_cons (t : List Int) (ts : List (List Int)) : tupsS (t :: ts) = 32 :: (tupS t ++ tupsS ts) := by unfold tupsS; rw [List.flatMap_cons]; rfl
theorem Hd.nums {cs b : List UInt8} (t : List Int) (h : Hd cs b) : Hd (44 :: cs) (numsS t ++ b) := by
  cases t with
  | nil => exact h.more (fun c hc => List.mem_cons_of_mem _ hc)
  | cons y t => rw [numsS_cons]; exact Hd.cons _ (List.mem_cons_self ..)
theorem Hd.tups {cs b : List UInt8} (ts : List (List Int)) (h : Hd cs b) : Hd (32 :: cs) (tupsS ts ++ b) := by
  cases ts with
  | nil => exact h.more (fun c hc => List.mem_cons_of_mem _ hc)
  | cons t ts => rw [tupsS_cons]; exact Hd.cons _ (List.mem_cons_self ..)
theorem drop_app (a b : List UInt8) : (a ++ b).drop a.length = b := List.drop_left

theorem nums_app : ∀ (t : List Int) {b : List UInt8}, Nn t → Hd [32, 59] b → numsP (numsS t ++ b) = some (t, b)
  | [], b, _, hb => numsP_stop (hb.no (by decide) _)
  | y :: t, b, hn, hb => by
    have hy := hn y (List.mem_cons_self ..)
    have hb' : Hd [44, 32, 59, 47] (numsS t ++ b) := (Hd.nums t hb).more (by decide)
    obtain ⟨h1, h2⟩ := num_app hy.1 hy.2 hb'
    have e : (numsS (y :: t) ++ b) = 44 :: (itoa y ++ (numsS t ++ b)) := by rw [numsS_cons, List.cons_append, List.append_assoc]
    rw [e, numsP_more (l := 44 :: (itoa y ++ (numsS t ++ b))) rfl (v := y) (by simpa using h1)]
    simp only [List.drop_succ_cons, List.drop_zero]
    rw [h2, drop_app, nums_app t (fun x hx => hn x (List.mem_cons_of_mem _ hx)) hb]
    rfl
theorem isPre_split {p l : List UInt8} (h : p.isPrefixOf l = true) : l = p ++ l.drop p.length := by
  obtain ⟨r, rfl⟩ := List.isPrefixOf_iff_prefix.1 h
  rw [List.drop_left]
theorem nums_inv : ∀ (n : Nat) (l : List UInt8), l.length ≤ n → ∀ p, numsP l = some p → l = numsS p.1 ++ p.2
  | n, l, hn, p, h => by
    cases hc : [44].isPrefixOf l
    · rw [numsP_stop hc] at h
      injection h with h
      rw [← h]
      rfl
    · cases hv : numP (l.drop 1) with
      | none => rw [numsP_bad hc hv] at h; cases h
      | some v =>
        rw [numsP_more hc hv] at h
        have hl := isPre_split hc
        simp only [Option.map_eq_some_iff] at h
        obtain ⟨q, hq, rfl⟩ := h
        have hnum := num_inv hv
        have hlen : l.length = 1 + (l.drop 1).length := by
          have := congrArg List.length hl
          rw [List.length_append] at this
          simpa using this
        match n, hn with
        | 0, hn => omega
        | n + 1, hn =>
          have ih := nums_inv n _ (by simp only [List.length_drop] at hlen ⊢; omega) q hq
          simp only
          rw [numsS_cons, List.cons_append, List.append_assoc, ← ih, ← hnum]
          exact hl

theorem itoa_head {x : Int} (h0 : 0 ≤ x) : ∃ c r, itoa x = c :: r ∧ 48 ≤ c.toNat ∧ c.toNat ≤ 57 := by
  rw [itoa_of h0]
  cases hl : decDigits x.toNat with
  | nil => exact absurd hl (dec_ne _)
  | cons c r => exact ⟨c, r, rfl, (dig_iff c).1 (dec_dig x.toNat c (by rw [hl]; exact List.mem_cons_self ..))⟩

theorem tup_app (t : List Int) {b : List UInt8} (hn : Nn t) (hb : Hd [32, 59] b) : tupP (tupS t ++ b) = some (t, b) := by
  cases t with
  | nil => rw [show tupS [] ++ b = 40 :: 41 :: b from rfl, tupP_unit rfl]; rfl
  | cons x t =>
    have hx := hn x (List.mem_cons_self ..)
    obtain ⟨h1, h2⟩ := num_app hx.1 hx.2 (b := numsS t ++ b) ((Hd.nums t hb).more (by decide))
    have e : tupS (x :: t) ++ b = itoa x ++ (numsS t ++ b) := by show (itoa x ++ numsS t) ++ b = _; rw [List.append_assoc]
    have hp : [40, 41].isPrefixOf (itoa x ++ (numsS t ++ b)) = false := by
      obtain ⟨c, r, hc, hlo, hhi⟩ := itoa_head hx.1
      rw [hc]
      refine Hd.no (cs := [c]) (Hd.cons _ (by simp)) ?_ _
      simp only [List.mem_singleton]
      rintro rfl
      exact absurd hlo (by decide)
    rw [e, tupP_more hp h1, h2, drop_app, nums_app t (fun x hx => hn x (List.mem_cons_of_mem _ hx)) hb]
    rfl
theorem tup_inv {l : List UInt8} {p : List Int × List UInt8} (h : tupP l = some p) : l = tupS p.1 ++ p.2 := by
  cases hc : [40, 41].isPrefixOf l
  · cases hv : numP l with
    | none => rw [tupP_bad hc hv] at h; cases h
    | some v =>
      rw [tupP_more hc hv] at h
      simp only [Option.map_eq_some_iff] at h
      obtain ⟨q, hq, rfl⟩ := h
      show l = (itoa v ++ numsS q.1) ++ q.2
      rw [List.append_assoc, ← nums_inv _ _ (Nat.le_refl _) q hq]
      exact num_inv hv
  · rw [tupP_unit hc] at h
    injection h with h
    rw [← h]
    exact isPre_split hc

theorem tups_app : ∀ (ts : List (List Int)) {b : List UInt8}, (∀ t ∈ ts, Nn t) → Hd [59] b → tupsP (tupsS ts ++ b) = some (ts, b)
  | [], b, _, hb => tupsP_stop (hb.no (by decide) _)
  | t :: ts, b, hn, hb => by
    have e : tupsS (t :: ts) ++ b = 32 :: (tupS t ++ (tupsS ts ++ b)) := by rw [tupsS_cons, List.cons_append, List.append_assoc]
    have h1 := tup_app t (b := tupsS ts ++ b) (hn t (List.mem_cons_self ..)) ((Hd.tups ts hb).more (by decide))
    rw [e, tupsP_more (l := 32 :: (tupS t ++ (tupsS ts ++ b))) rfl (p := (t, tupsS ts ++ b)) (by simpa using h1)]
    simp only
    rw [tups_app ts (fun x hx => hn x (List.mem_cons_of_mem _ hx)) hb]
    rfl
theorem tups_inv : ∀ (n : Nat) (l : List UInt8), l.length ≤ n → ∀ p, tupsP l = some p → l = tupsS p.1 ++ p.2
  | n, l, hn, p, h => by
    cases hc : [32].isPrefixOf l
    · rw [tupsP_stop hc] at h
      injection h with h
      rw [← h]
      rfl
    · cases hv : tupP (l.drop 1) with
      | none => rw [tupsP_bad hc hv] at h; cases h
      | some v =>
        rw [tupsP_more hc hv] at h
        have hl := isPre_split hc
        simp only [Option.map_eq_some_iff] at h
        obtain ⟨q, hq, rfl⟩ := h
        have h1 := tup_inv hv
        have h2 := tupP_len hv
        have hlen : l.length = 1 + (l.drop 1).length := by
          have := congrArg List.length hl
          rw [List.length_append] at this
          simpa using this
        match n, hn with
        | 0, hn => omega
        | n + 1, hn =>
          have ih := tups_inv n _ (by omega) q hq
          simp only
          rw [tupsS_cons, List.cons_append, List.append_assoc, ← ih, ← h1]
          exact hl

theorem Hd.rels (rs : List Sh.Rel) : Hd [59] (rs.flatMap relS) := by
  cases rs with
  | nil => exact Hd.nil _
  | cons r rs => rw [List.flatMap_cons]; exact Hd.cons _ (by simp)

/-- A name's bytes are letters and digits. -/
def Nm (l : List UInt8) : Prop := ∀ c ∈ l, (Sh.letterB c.toNat || Sh.digitB c.toNat) = true
structure RelFit (r : Sh.Rel) : Prop where
  nm : Nm r.name.toList
  ar : 0 ≤ r.arity ∧ r.arity < 9223372036854775808
  tups : ∀ t ∈ r.tuples, Nn t

theorem rel_app {r : Sh.Rel} (hr : RelFit r) {b : List UInt8} (hb : Hd [59] b) : relP (relS r ++ b) = some (r, b) := by
  have e : relS r ++ b = 59 :: 32 :: (r.name.toList ++ (47 :: (itoa r.arity ++ (tupsS r.tuples ++ b)))) := by
    unfold relS
    simp [List.append_assoc]
  have hd2 : (59 :: 32 :: (r.name.toList ++ (47 :: (itoa r.arity ++ (tupsS r.tuples ++ b))))).drop 2 = r.name.toList ++ (47 :: (itoa r.arity ++ (tupsS r.tuples ++ b))) := rfl
  have hrun : nameRun (r.name.toList ++ (47 :: (itoa r.arity ++ (tupsS r.tuples ++ b)))) = r.name.toList.length := by
    unfold nameRun
    rw [run_app _ hr.nm rfl]
  obtain ⟨h1, h2⟩ := num_app hr.ar.1 hr.ar.2 (b := tupsS r.tuples ++ b) ((Hd.tups _ hb).more (by decide))
  rw [e]
  have hx : (((59 :: 32 :: (r.name.toList ++ (47 :: (itoa r.arity ++ (tupsS r.tuples ++ b))))).drop 2).drop (nameRun ((59 :: 32 :: (r.name.toList ++ (47 :: (itoa r.arity ++ (tupsS r.tuples ++ b))))).drop 2))) = 47 :: (itoa r.arity ++ (tupsS r.tuples ++ b)) := by
    rw [hd2, hrun, drop_app]
  rw [relP_more (k := r.arity) rfl (by rw [hx]; rfl) (by rw [hx]; exact h1)]
  rw [hx]
  simp only [List.drop_succ_cons, List.drop_zero]
  rw [h2, drop_app, tups_app _ hr.tups hb, hrun, List.take_left]
  simp only [Option.map_some]
  congr 1
  rw [ByteArray.toList_eq]
theorem rel_inv {l : List UInt8} {p : Sh.Rel × List UInt8} (h : relP l = some p) : l = relS p.1 ++ p.2 := by
  cases h1 : [59, 32].isPrefixOf l
  · rw [relP_bad1 h1] at h; cases h
  · cases h2 : [47].isPrefixOf ((l.drop 2).drop (nameRun (l.drop 2)))
    · rw [relP_bad2 h1 h2] at h; cases h
    · cases h3 : numP (((l.drop 2).drop (nameRun (l.drop 2))).drop 1) with
      | none => rw [relP_bad3 h1 h2 h3] at h; cases h
      | some k =>
        rw [relP_more h1 h2 h3] at h
        simp only [Option.map_eq_some_iff] at h
        obtain ⟨q, hq, rfl⟩ := h
        have e1 := isPre_split h1
        have e2 := isPre_split h2
        have e3 := num_inv h3
        have e4 := tups_inv _ _ (Nat.le_refl _) q hq
        have e5 : l.drop 2 = (l.drop 2).take (nameRun (l.drop 2)) ++ (l.drop 2).drop (nameRun (l.drop 2)) := (List.take_append_drop _ _).symm
        show l = [59, 32] ++ (ByteArray.toList ⟨((l.drop 2).take (nameRun (l.drop 2))).toArray⟩ ++ (47 :: (itoa k ++ tupsS q.1))) ++ q.2
        rw [ByteArray.toList_eq]
        simp only [List.append_assoc, List.cons_append]
        rw [← e4, ← e3]
        have e2' : (47 :: ((l.drop 2).drop (nameRun (l.drop 2))).drop 1) = (l.drop 2).drop (nameRun (l.drop 2)) := e2.symm
        rw [e2', List.take_append_drop]
        exact e1

theorem rels_app : ∀ (rs : List Sh.Rel), (∀ r ∈ rs, RelFit r) → relsP (rs.flatMap relS) = some rs
  | [], _ => relsP_nil
  | r :: rs, h => by
    rw [List.flatMap_cons, relsP_more (p := (r, rs.flatMap relS)) (by unfold relS; simp) (rel_app (h r (List.mem_cons_self ..)) (Hd.rels rs))]
    simp only
    rw [rels_app rs (fun x hx => h x (List.mem_cons_of_mem _ hx))]
    rfl
theorem rels_inv : ∀ (n : Nat) (l : List UInt8), l.length ≤ n → ∀ rs, relsP l = some rs → l = rs.flatMap relS
  | n, l, hn, rs, h => by
    by_cases hl : l = []
    · subst hl
      rw [relsP_nil] at h
      injection h with h
      rw [← h]
      rfl
    · cases hp : relP l with
      | none => rw [relsP_bad hl hp] at h; cases h
      | some p =>
        rw [relsP_more hl hp] at h
        simp only [Option.map_eq_some_iff] at h
        obtain ⟨q, hq, rfl⟩ := h
        have h1 := rel_inv hp
        have h2 := relP_len hp
        match n, hn with
        | 0, hn => omega
        | n + 1, hn =>
          have ih := rels_inv n _ (by omega) q hq
          rw [List.flatMap_cons, ← ih]
          exact h1

theorem str_app {s : Sh.Str} (h0 : 0 ≤ s.size ∧ s.size < 9223372036854775808) (hr : ∀ r ∈ s.rels, RelFit r) : strP (textS s) = some s := by
  obtain ⟨h1, h2⟩ := num_app h0.1 h0.2 (b := s.rels.flatMap relS) ((Hd.rels _).more (by decide))
  unfold textS
  rw [strP_more h1, h2, drop_app, rels_app _ hr]
  rfl
theorem str_inv {l : List UInt8} {s : Sh.Str} (h : strP l = some s) : l = textS s := by
  cases hv : numP l with
  | none => rw [strP_bad hv] at h; cases h
  | some n =>
    rw [strP_more hv] at h
    simp only [Option.map_eq_some_iff] at h
    obtain ⟨q, hq, rfl⟩ := h
    show l = itoa n ++ q.flatMap relS
    rw [← rels_inv _ _ (Nat.le_refl _) q hq]
    exact num_inv hv

theorem fit_of_valid {s : Sh.Str} (h : Sh.validB s = true) : (0 ≤ s.size ∧ s.size < 9223372036854775808) ∧ ∀ r ∈ s.rels, RelFit r := by
  obtain ⟨size, rs⟩ := s
  obtain ⟨h1, h2, -, h4, -⟩ := (Sh.validB_iff size rs).1 h
  refine ⟨⟨by show 0 ≤ size; omega, by show size < _; omega⟩, fun r hr => ?_⟩
  obtain ⟨a, b, -, d⟩ := (Sh.relB_iff size r).1 (h4 r hr)
  refine ⟨?_, ?_, fun t ht x hx => ?_⟩
  · unfold Sh.nameB at b
    simp only [Bool.and_eq_true] at b
    exact fun c hc => List.all_eq_true.1 b.1.2 c hc
  · unfold Sh.powE at a
    split at a
    · cases a
    · rename_i hn
      omega
  · have := List.all_eq_true.1 (d t ht).2 x hx
    unfold Sh.okB at this
    have := of_decide_eq_true this
    omega

/-- What is written is read. -/
theorem parse_text {s : Sh.Str} (h : Sh.validB s = true) (hl : (textS s).length ≤ 40000) : parseP (textS s) = some s := by
  obtain ⟨h0, hr⟩ := fit_of_valid h
  unfold parseP
  rw [if_neg (by omega), str_app h0 hr]
  simp only
  rw [if_pos h]
/-- What is read is what would be written. -/
theorem text_parse {l : List UInt8} {s : Sh.Str} (h : parseP l = some s) : l = textS s ∧ l.length ≤ 40000 ∧ Sh.validB s = true := by
  unfold parseP at h
  split at h
  · cases h
  · rename_i hl
    split at h
    · rename_i s' hs
      split at h
      · rename_i hv
        injection h with h
        subst h
        exact ⟨str_inv hs, by omega, hv⟩
      · cases h
    · cases h

end Tx
end Go.Proofs.YtbddchonhicpiaaDoor
