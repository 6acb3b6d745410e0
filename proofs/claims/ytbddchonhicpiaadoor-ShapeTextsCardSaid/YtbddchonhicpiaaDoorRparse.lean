/-
  Walk: the reference's Parse.
-/
import Derived.Test.YtbddchonhicpiaaDoorRtup
import Derived.Test.YtbddchonhicpiaaDoorOwn
import Derived.Test.YtbddchonhicpiaaDoorRcopy
import Derived.Test.YtbddchonhicpiaaDoorRvalid
import Derived.Deep.RegionLaw
import Derived.Deep.CutRange
namespace Go.Proofs.YtbddchonhicpiaaDoor
open Go.RowKit

theorem Tx.numR_le (l : List UInt8) : (Tx.numR l).2.length ≤ l.length := by
  by_cases h : (Tx.numR l).1 < 0
  · match l with
    | [] => exact Nat.le_refl _
    | c :: r =>
      cases hc : Tx.dig c
      · rw [Tx.numR_bad r hc]; exact Nat.le_refl _
      · exfalso
        by_cases h2 : ∃ d r', r = d :: r' ∧ (49 ≤ c.toNat ∧ c.toNat ≤ 57) ∧ Tx.dig d = true
        · obtain ⟨d, r', rfl, h49, hd⟩ := h2
          rw [Tx.numR_two r' h49 hd] at h
          simp only at h
          omega
        · rw [Tx.numR_one r hc (fun d r' e hh => h2 ⟨d, r', e, hh⟩)] at h
          simp only at h
          omega
  · exact Tx.numR_short (l := l) (a := (Tx.numR l).1) (l1 := (Tx.numR l).2) rfl h

def RParsePost (text : ByteArray) (w : World) (e : Ending) (w' : World) : Prop :=
  Below w.heap.size w w' ∧ match Tx.parseR text.toList with
    | some s => ∃ u, e = .returned (.tuple #[.agg #[.int .i64 s.size, u], .bool true]) ∧ NRels w' w.heap.size u s.rels
    | none => e = .returned (.tuple #[.agg #[.int .i64 0, .slice none 0 0], .bool false])
theorem RParsePost.bad {text : ByteArray} {w w' : World} (h : Tx.parseR text.toList = none) (hb : Below w.heap.size w w') : RParsePost text w (.returned (.tuple #[.agg #[.int .i64 0, .slice none 0 0], .bool false])) w' :=
  ⟨hb, by rw [h]⟩
theorem RParsePost.ok {text : ByteArray} {w w' : World} {s : Sh.Str} {u : Value} (h : Tx.parseR text.toList = some s) (hb : Below w.heap.size w w') (hu : NRels w' w.heap.size u s.rels) :
    RParsePost text w (.returned (.tuple #[.agg #[.int .i64 s.size, u], .bool true])) w' :=
  ⟨hb, by rw [h]; exact ⟨u, rfl, hu⟩⟩
theorem RParsePost.hit {text : ByteArray} {w w' : World} {e : Ending} {s : Sh.Str} (h : RParsePost text w e w') (ht : parseP text.toList = some s) :
    ∃ u, e = .returned (.tuple #[.agg #[.int .i64 s.size, u], .bool true]) ∧ NRels w' w.heap.size u s.rels ∧ Below w.heap.size w w' := by
  obtain ⟨hb, h⟩ := h
  rw [Tx.parseR_eq, ht] at h
  obtain ⟨u, h1, h2⟩ := h
  exact ⟨u, h1, h2, hb⟩
theorem RParsePost.miss {text : ByteArray} {w w' : World} {e : Ending} (h : RParsePost text w e w') (ht : parseP text.toList = none) :
    e = .returned (.tuple #[.agg #[.int .i64 0, .slice none 0 0], .bool false]) ∧ Below w.heap.size w w' := by
  obtain ⟨hb, h⟩ := h
  rw [Tx.parseR_eq, ht] at h
  exact ⟨h, hb⟩

/-- append of one relation to a row of the call's own. -/
theorem append_rel {ops : Array Oper} {rest : List Oper} {o : Oper} {a : Act} {Q : Exit → Act → World → Prop} (w : World) (hgd : o.guard = none) (s x : Operand)
    (ho : o.op = .call { callee := .builtin .append, args := #[s, x], argTypes := #[22, 22] })
    (base : Nat) (v : Value) (n : Nat) (xs : List Value) (hs : a.eval s = v) (hown : w.ownsRow base 51 3 v n xs)
    (g : Nat) (c : Nat) (y0 y1 y2 : Value) (hx : a.eval x = .slice (some ⟨g, 0, none⟩) 1 c) (hc : Blk w g 51 #[y0, y1, y2]) (h0 : y0.oneCell' = true) (h1 : y1.oneCell' = true) (h2 : y2.oneCell' = true) (hn : n ≤ 1000000) (hbase : base ≤ w.heap.size)
    (h : ∀ v' w', w'.ownsRow base 51 3 v' (n + 1) (xs ++ [y0, y1, y2]) → w.grownBy w' v.ownBlock → wpList Tryd.prog ops Q rest (a.put o.dst v') w') :
    wpList Tryd.prog ops Q (o :: rest) a w := by
  obtain ⟨i0, hi, hz0, hz1, hz2⟩ := info_parts rel_info
  refine wpList_append_own w hgd s x 22 ho base 51 i0 _ 3 48 Tryd.underlying22 hi hz0 hz1 hz2 rfl (by decide) v n _ hs hown ⟨g, 0, none⟩ 1 c [y0, y1, y2] hx rfl ?_ ?_ (by unfold maxLen; omega) (by omega) hbase ?_
  · intro j u hu
    have e : (Addr.mk g 0 none).add j = ⟨g, j, none⟩ := by unfold Addr.add; split <;> simp_all
    rw [e, hc.cell j]
    simpa using hu
  · intro u hu
    simp at hu
    rcases hu with rfl | rfl | rfl <;> assumption
  · intro v' w' h1 h2 _
    exact h v' w' h1 h2

set_option maxRecDepth 100000 in
set_option maxHeartbeats 1000000 in
theorem rparse_big (text : ByteArray) (w : World) (hs : 40000 < text.size) (hs2 : text.size ≤ 140737488351232) :
    Calls Tryd.prog 51 #[.string text] w (RParsePost text w) := by
  have hbad : Tx.parseR text.toList = none := by unfold Tx.parseR; rw [if_pos (by rw [length_bytes]; exact hs)]
  have Hbad := Lib.hid hbad; clear hbad
  go_enter Tryd.func51, Tryd.ntmps51
  go_wp2
  refine bodyPost_ret (v := .tuple #[.agg #[.int .i64 0, .slice none 0 0], .bool false]) (by simp [results, Tryd.results51, go_sem]) rfl ?_
  refine RParsePost.bad Hbad.out ?_
  exact (Below.refl _ _).alloc (Nat.le_refl _) _

set_option maxRecDepth 100000 in
set_option maxHeartbeats 16000000 in
theorem rparse_small (text : ByteArray) (w : World) (hs : text.size ≤ 40000) :
    Calls Tryd.prog 51 #[.string text] w (RParsePost text w) := by
  have hnum := fun W => rnumber_any text W (by omega)
  obtain ⟨n0, l0, hn⟩ : ∃ n0 l0, Tx.numR text.toList = (n0, l0) := ⟨_, _, rfl⟩
  have hle := Tx.numR_le text.toList
  rw [hn, length_bytes] at hle
  simp only at hle
  have hdef : Tx.parseR text.toList = match Tx.relsR 9 l0 with | none => none | some p => if p.2 = [] ∧ Sh.validB ⟨n0, p.1⟩ = true then some ⟨n0, p.1⟩ else none := by
    unfold Tx.parseR
    rw [if_neg (by rw [length_bytes]; omega), hn]
    rfl
  have Hnum := Lib.hid hnum; clear hnum
  have Hn := Lib.hid hn; clear hn
  have Hdef := Lib.hid hdef; clear hdef
  go_enter Tryd.func51, Tryd.ntmps51
  go_wp2_with (go_at_call 83
               refine (Hnum.out _).mono ?_
               rintro e w1 ⟨⟨r0, rfl, hr0⟩, n1, rfl⟩
               rw [Hn.out]
               rw [Hn.out] at hr0
               have Hr0 := Lib.hid (show r0.toList = l0 from hr0); clear hr0)
  have hz2 : Blk (((w.alloc (.cells #[.int .i64 0, .slice none 0 0] 24)).drewN n1).alloc (.cells #[.int .i64 n0, .slice none 0 0] 24)) w.heap.size 24 #[.int .i64 0, .slice none 0 0] := ((Blk.new w 24 #[.int .i64 0, .slice none 0 0]).drewN n1).alloc _
  have ho2 : Blk (((w.alloc (.cells #[.int .i64 0, .slice none 0 0] 24)).drewN n1).alloc (.cells #[.int .i64 n0, .slice none 0 0] 24)) (w.heap.size + 1) 24 #[.int .i64 n0, .slice none 0 0] := by
    have this : Blk _ ((w.alloc (.cells #[.int .i64 0, .slice none 0 0] 24)).heap.size) _ _ := Blk.new ((w.alloc (.cells #[.int .i64 0, .slice none 0 0] 24)).drewN n1) 24 #[.int .i64 n0, .slice none 0 0]
    rw [World.size_alloc] at this
    exact this
  have hbel2 : Below w.heap.size w (((w.alloc (.cells #[.int .i64 0, .slice none 0 0] 24)).drewN n1).alloc (.cells #[.int .i64 n0, .slice none 0 0] 24)) := (below_drewN ((Below.refl _ _).alloc (Nat.le_refl _) _) n1).alloc (by simp) _
  generalize ((w.alloc (.cells #[.int .i64 0, .slice none 0 0] 24)).drewN n1).alloc (.cells #[.int .i64 n0, .slice none 0 0] 24) = W2 at *
  have hr0z : r0.size ≤ 40000 := by
    have := length_bytes r0
    rw [Hr0.out] at this
    omega
  go_loopg [5] 9 (fun gg sv wr => ∃ (j : Nat) (r : ByteArray) (tv : Value) (xs us : List Value) (rs : List Sh.Rel), 9 - j ≤ gg ∧ j ≤ 9 ∧ rs.length = j ∧ sv = .string r ∧ r.size ≤ 40000 ∧ Blk wr w.heap.size 24 #[.int .i64 0, .slice none 0 0] ∧ Blk wr (w.heap.size + 1) 24 #[.int .i64 n0, tv] ∧
    wr.ownsRow (w.heap.size + 2) 51 3 tv j xs ∧ RCells xs us rs ∧ RElems wr (w.heap.size + 2) us rs ∧ Below w.heap.size w wr ∧ Tx.relsR 9 l0 = (Tx.relsR (9 - j) r.toList).map fun p => (rs ++ p.1, p.2))
  case atStart => exact ⟨0, r0, .slice none 0 0, [], [], [], by omega, Nat.zero_le _, rfl, rfl, hr0z, hz2, ho2, World.ownsRow_nil _ _ _ _, RCells.nil, (fun j u t h => by simp at h), hbel2, by rw [Hr0.out]; simp⟩
  case round =>
    obtain ⟨j, r, tv, xs, us, rs, hgg, hj9, hjl, rfl, hrz, hz, ho, hown, hrc, hel, hbel, heq⟩ := hrel
    obtain ⟨TA, TC, rfl⟩ := own_slice hown
    have Hown := Lib.hid hown; clear hown
    have Hrc := Lib.hid hrc; clear hrc
    have Hel := Lib.hid hel; clear hel
    have Hbel := Lib.hid hbel; clear hbel
    have Hjl := Lib.hid hjl; clear hjl
    have o0 : wr.cell? ⟨w.heap.size + 1, 0, none⟩ = some (.int .i64 n0) := ho.cell 0
    have o1 : wr.cell? ⟨w.heap.size + 1, 1, none⟩ = some (.slice TA j TC) := ho.cell 1
    clear hz2 ho2 hbel2
    have hrl := length_bytes r
    cases hm : Tx.moreR r.toList
    · have heq9 : Tx.relsR 9 l0 = some (rs, r.toList) := by
        rw [heq]
        cases hk : 9 - j with
        | zero => simp [Tx.relsR]
        | succ m => rw [Tx.relsR, hm]; simp
      clear heq
      by_cases h2 : 2 < r.size
      · have hpre : ((r.extract 0 2).toList == [59, 32]) = false := by
          unfold Tx.moreR at hm
          rw [hrl, decide_eq_true h2, Bool.true_and, isPrefixOf_take, Bool.and_eq_false_iff] at hm
          rw [extract_take]
          rcases hm with h | h
          · simp at h; omega
          · exact h
        clear hm hrl
        have hfin : Tx.parseR text.toList = if r.toList = [] ∧ Sh.validB ⟨n0, rs⟩ = true then some ⟨n0, rs⟩ else none := by rw [Hdef.out, heq9]
        have hrel : NRels wr (w.heap.size + 2) (.slice TA j TC) rs := NRels.own Hown.out (Nat.le_refl _) (by omega) Hrc.out Hel.out
        have Hrel := Lib.hid hrel; clear hrel
        clear heq9
        rcases Nat.eq_zero_or_pos r.size with h0 | h0
        · have he : r.toList = [] := List.eq_nil_of_length_eq_zero (by rw [length_bytes]; exact h0)
          have heb : (r.toList == []) = true := by rw [he]; rfl
          clear h0 hrz
          cases hv : Sh.validB ⟨n0, rs⟩
          · have Hf := Lib.hid (show Tx.parseR text.toList = none by rw [hfin, hv]; simp)
            have Hv := Lib.hid hv; clear hv hfin he
            go_wp2_with (go_at_call 14
                         refine (refvalid_any n0 _ rs _ _ (Nat.le_refl _) Hrel.out.rels).mono ?_
                         rw [Hv.out]
                         rintro e w9 ⟨rfl, hb9⟩
                         have hz9 := hz.below hb9 hz.lt
                         have Hbel9 := Lib.hid (Hbel.out.trans (hb9.mono Hbel.out.size))
                         have Hb9 := Lib.hid hb9
                         clear hb9
                         have zz0 : w9.cell? ⟨w.heap.size, 0, none⟩ = some (.int .i64 0) := hz9.cell 0
                         have zz1 : w9.cell? ⟨w.heap.size, 1, none⟩ = some (.slice none 0 0) := hz9.cell 1
                         have zf0 := hz9.frozen 0
                         have zf1 := hz9.frozen 1)
            refine bodyPost_ret (v := .tuple #[.agg #[.int .i64 0, .slice none 0 0], .bool false]) (by simp [results, Tryd.results51, go_sem, zz0, zz1]) rfl ?_
            exact RParsePost.bad Hf.out ((Hbel9.out.setCell (p := ⟨w.heap.size, 0, none⟩) (Nat.le_refl _) _).setCell (p := ⟨w.heap.size, 1, none⟩) (Nat.le_refl _) _)
          · have Hf := Lib.hid (show Tx.parseR text.toList = some ⟨n0, rs⟩ by rw [hfin, hv]; simp [he])
            have Hv := Lib.hid hv; clear hv hfin he
            go_wp2_with (go_at_call 14
                         refine (refvalid_any n0 _ rs _ _ (Nat.le_refl _) Hrel.out.rels).mono ?_
                         rw [Hv.out]
                         rintro e w9 ⟨rfl, hb9⟩
                         have hz9 := hz.below hb9 hz.lt
                         have ho9 := ho.below hb9 ho.lt
                         have oo0 : w9.cell? ⟨w.heap.size + 1, 0, none⟩ = some (.int .i64 n0) := ho9.cell 0
                         have oo1 : w9.cell? ⟨w.heap.size + 1, 1, none⟩ = some (.slice TA j TC) := ho9.cell 1
                         have Hbel9 := Lib.hid (Hbel.out.trans (hb9.mono Hbel.out.size))
                         have Hb9 := Lib.hid hb9
                         clear hb9
                         have zz0 : w9.cell? ⟨w.heap.size, 0, none⟩ = some (.int .i64 0) := hz9.cell 0
                         have zz1 : w9.cell? ⟨w.heap.size, 1, none⟩ = some (.slice none 0 0) := hz9.cell 1
                         have zf0 := hz9.frozen 0
                         have zf1 := hz9.frozen 1)
            refine bodyPost_ret (v := .tuple #[.agg #[.int .i64 n0, .slice TA j TC], .bool true]) (by simp [results, Tryd.results51, go_sem, zz0, zz1]) rfl ?_
            have hk0 : Keeps (w.heap.size + 2) [3, 35, 51] w9 ((w9.setCell ⟨w.heap.size, 0, none⟩ (.int .i64 n0)).setCell ⟨w.heap.size, 1, none⟩ (.slice TA j TC)) :=
              (Keeps.setCell (p := ⟨w.heap.size, 0, none⟩) hz9 (by decide) _).trans (Keeps.setCell (p := ⟨w.heap.size, 1, none⟩) (hz9.set_ _ _) (by decide) _)
            exact RParsePost.ok (s := ⟨n0, rs⟩) Hf.out ((Hbel9.out.setCell (p := ⟨w.heap.size, 0, none⟩) (Nat.le_refl _) _).setCell (p := ⟨w.heap.size, 1, none⟩) (Nat.le_refl _) _) (((Hrel.out.keep (Keeps.of_below Hb9.out)).keep hk0).more (by omega))
        · have hcons := bytes_cons h0
          have heb : (r.toList == []) = false := by rw [hcons]; rfl
          have Hf := Lib.hid (show Tx.parseR text.toList = none by rw [hfin, if_neg (fun h => by rw [hcons] at h; cases h.1)])
          clear hfin hcons
          have zz0 : wr.cell? ⟨w.heap.size, 0, none⟩ = some (.int .i64 0) := hz.cell 0
          have zz1 : wr.cell? ⟨w.heap.size, 1, none⟩ = some (.slice none 0 0) := hz.cell 1
          have zf0 := hz.frozen 0
          have zf1 := hz.frozen 1
          go_wp2
          refine bodyPost_ret (v := .tuple #[.agg #[.int .i64 0, .slice none 0 0], .bool false]) (by simp [results, Tryd.results51, go_sem, zz0, zz1]) rfl ?_
          exact RParsePost.bad Hf.out ((Hbel.out.setCell (p := ⟨w.heap.size, 0, none⟩) (Nat.le_refl _) _).setCell (p := ⟨w.heap.size, 1, none⟩) (Nat.le_refl _) _)

      · clear hm hrl
        have hfin : Tx.parseR text.toList = if r.toList = [] ∧ Sh.validB ⟨n0, rs⟩ = true then some ⟨n0, rs⟩ else none := by rw [Hdef.out, heq9]
        have hrel : NRels wr (w.heap.size + 2) (.slice TA j TC) rs := NRels.own Hown.out (Nat.le_refl _) (by omega) Hrc.out Hel.out
        have Hrel := Lib.hid hrel; clear hrel
        clear heq9
        rcases Nat.eq_zero_or_pos r.size with h0 | h0
        · have he : r.toList = [] := List.eq_nil_of_length_eq_zero (by rw [length_bytes]; exact h0)
          have heb : (r.toList == []) = true := by rw [he]; rfl
          clear h0 hrz
          cases hv : Sh.validB ⟨n0, rs⟩
          · have Hf := Lib.hid (show Tx.parseR text.toList = none by rw [hfin, hv]; simp)
            have Hv := Lib.hid hv; clear hv hfin he
            go_wp2_with (go_at_call 14
                         refine (refvalid_any n0 _ rs _ _ (Nat.le_refl _) Hrel.out.rels).mono ?_
                         rw [Hv.out]
                         rintro e w9 ⟨rfl, hb9⟩
                         have hz9 := hz.below hb9 hz.lt
                         have Hbel9 := Lib.hid (Hbel.out.trans (hb9.mono Hbel.out.size))
                         have Hb9 := Lib.hid hb9
                         clear hb9
                         have zz0 : w9.cell? ⟨w.heap.size, 0, none⟩ = some (.int .i64 0) := hz9.cell 0
                         have zz1 : w9.cell? ⟨w.heap.size, 1, none⟩ = some (.slice none 0 0) := hz9.cell 1
                         have zf0 := hz9.frozen 0
                         have zf1 := hz9.frozen 1)
            refine bodyPost_ret (v := .tuple #[.agg #[.int .i64 0, .slice none 0 0], .bool false]) (by simp [results, Tryd.results51, go_sem, zz0, zz1]) rfl ?_
            exact RParsePost.bad Hf.out ((Hbel9.out.setCell (p := ⟨w.heap.size, 0, none⟩) (Nat.le_refl _) _).setCell (p := ⟨w.heap.size, 1, none⟩) (Nat.le_refl _) _)
          · have Hf := Lib.hid (show Tx.parseR text.toList = some ⟨n0, rs⟩ by rw [hfin, hv]; simp [he])
            have Hv := Lib.hid hv; clear hv hfin he
            go_wp2_with (go_at_call 14
                         refine (refvalid_any n0 _ rs _ _ (Nat.le_refl _) Hrel.out.rels).mono ?_
                         rw [Hv.out]
                         rintro e w9 ⟨rfl, hb9⟩
                         have hz9 := hz.below hb9 hz.lt
                         have ho9 := ho.below hb9 ho.lt
                         have oo0 : w9.cell? ⟨w.heap.size + 1, 0, none⟩ = some (.int .i64 n0) := ho9.cell 0
                         have oo1 : w9.cell? ⟨w.heap.size + 1, 1, none⟩ = some (.slice TA j TC) := ho9.cell 1
                         have Hbel9 := Lib.hid (Hbel.out.trans (hb9.mono Hbel.out.size))
                         have Hb9 := Lib.hid hb9
                         clear hb9
                         have zz0 : w9.cell? ⟨w.heap.size, 0, none⟩ = some (.int .i64 0) := hz9.cell 0
                         have zz1 : w9.cell? ⟨w.heap.size, 1, none⟩ = some (.slice none 0 0) := hz9.cell 1
                         have zf0 := hz9.frozen 0
                         have zf1 := hz9.frozen 1)
            refine bodyPost_ret (v := .tuple #[.agg #[.int .i64 n0, .slice TA j TC], .bool true]) (by simp [results, Tryd.results51, go_sem, zz0, zz1]) rfl ?_
            have hk0 : Keeps (w.heap.size + 2) [3, 35, 51] w9 ((w9.setCell ⟨w.heap.size, 0, none⟩ (.int .i64 n0)).setCell ⟨w.heap.size, 1, none⟩ (.slice TA j TC)) :=
              (Keeps.setCell (p := ⟨w.heap.size, 0, none⟩) hz9 (by decide) _).trans (Keeps.setCell (p := ⟨w.heap.size, 1, none⟩) (hz9.set_ _ _) (by decide) _)
            exact RParsePost.ok (s := ⟨n0, rs⟩) Hf.out ((Hbel9.out.setCell (p := ⟨w.heap.size, 0, none⟩) (Nat.le_refl _) _).setCell (p := ⟨w.heap.size, 1, none⟩) (Nat.le_refl _) _) (((Hrel.out.keep (Keeps.of_below Hb9.out)).keep hk0).more (by omega))
        · have hcons := bytes_cons h0
          have heb : (r.toList == []) = false := by rw [hcons]; rfl
          have Hf := Lib.hid (show Tx.parseR text.toList = none by rw [hfin, if_neg (fun h => by rw [hcons] at h; cases h.1)])
          clear hfin hcons
          have zz0 : wr.cell? ⟨w.heap.size, 0, none⟩ = some (.int .i64 0) := hz.cell 0
          have zz1 : wr.cell? ⟨w.heap.size, 1, none⟩ = some (.slice none 0 0) := hz.cell 1
          have zf0 := hz.frozen 0
          have zf1 := hz.frozen 1
          go_wp2
          refine bodyPost_ret (v := .tuple #[.agg #[.int .i64 0, .slice none 0 0], .bool false]) (by simp [results, Tryd.results51, go_sem, zz0, zz1]) rfl ?_
          exact RParsePost.bad Hf.out ((Hbel.out.setCell (p := ⟨w.heap.size, 0, none⟩) (Nat.le_refl _) _).setCell (p := ⟨w.heap.size, 1, none⟩) (Nat.le_refl _) _)

    · have hm2 := hm
      unfold Tx.moreR at hm2
      rw [Bool.and_eq_true, decide_eq_true_eq, hrl] at hm2
      have h2 : 2 < r.size := hm2.1
      have hpre : ((r.extract 0 2).toList == [59, 32]) = true := by
        have := hm2.2
        rw [isPrefixOf_take, Bool.and_eq_true] at this
        rw [extract_take]
        exact this.2
      clear hm2
      by_cases hj8 : j ≤ 8
      · obtain ⟨m, hm9⟩ : ∃ m, 9 - j = m + 1 := ⟨8 - j, by omega⟩
        have hstep : Tx.relsR (m + 1) r.toList = (match Tx.relR (r.toList.drop 2) with | none => none | some p => (Tx.relsR m p.2).map fun q => (p.1 :: q.1, q.2)) := by rw [Tx.relsR, if_pos hm]; cases Tx.relR (List.drop 2 r.toList) <;> rfl
        rw [hm9, hstep] at heq
        clear hstep
        have hd2 : r.toList.drop 2 = (r.extract 2 r.size).toList := by rw [extract_drop]
        rw [hd2] at heq
        have hr2z : (r.extract 2 r.size).size + 2 ≤ r.size := by rw [ByteArray.size_extract]; omega
        have hj8i : (j : Int) ≤ 8 := by omega
        clear hm hrl hd2
        have Heq := Lib.hid heq; clear heq
        have hr2l := length_bytes (r.extract 2 r.size)
        have Hr2l := Lib.hid hr2l; clear hr2l
        go_wp2
        generalize r.extract 2 r.size = r2 at *
        obtain ⟨W0, hW0⟩ : ∃ W0, W0 = wr := ⟨wr, rfl⟩
        subst hW0
        go_loop [7] (fun x => ∃ k : Nat, k ≤ r2.size ∧ x = .int .i64 k ∧ ∀ y, y < k → (r2.toList.getD y 0 != 47) = true) (fun x => r2.size - (intOf x).toNat)
        case atStart => exact ⟨0, Nat.zero_le _, rfl, fun y hy => absurd hy (by omega)⟩
        case round =>
          obtain ⟨k, hk, rfl, hall⟩ := hrel
          have Hall := Lib.hid hall; clear hall
          by_cases hlt : k < r2.size
          · have hg := getD_bytes r2 k hlt
            by_cases hc : r2[k].toNat = 47
            · have hc2 : ((r2[k].toNat : Int) != 47) = false := by rw [hc]; rfl
              have hsl : Tx.slash r2.toList = k := by
                unfold Tx.slash
                refine Sh.takeWhile_len _ 0 _ k (by rw [Hr2l.out]; omega) Hall.out (fun _ => ?_)
                rw [hg, UInt8.toNat_inj.1 (show r2[k].toNat = (47 : UInt8).toNat from hc)]
                rfl
              have hkl : (k : Int) ≠ (r2.size : Int) := by omega
              obtain ⟨ar, l4, hn4⟩ : ∃ ar l4, Tx.numR (r2.extract (k + 1) r2.size).toList = (ar, l4) := ⟨_, _, rfl⟩
              have hle4 := Tx.numR_le (r2.extract (k + 1) r2.size).toList
              rw [hn4, length_bytes, ByteArray.size_extract] at hle4
              simp only at hle4
              have hnum := fun W => rnumber_any (r2.extract (k + 1) r2.size) W (by rw [ByteArray.size_extract]; omega)
              have hnmz : (r2.extract 0 k).size ≤ 40000 := by rw [ByteArray.size_extract]; omega
              have hrr : Tx.relR r2.toList = if ar < 0 then none else (Tx.tupsR ar.toNat l4).map fun q => (⟨r2.extract 0 k, ar, q.1⟩, q.2) := by
                unfold Tx.relR
                rw [hsl, ← extract_drop, hn4, if_neg (by rw [Hr2l.out]; omega), show (⟨(r2.toList.take k).toArray⟩ : ByteArray) = r2.extract 0 k from bytes_inj ((toList_lit _).trans (extract_take r2 k).symm)]
              clear hsl hg hc
              have Hn4 := Lib.hid hn4; clear hn4
              have Hnum4 := Lib.hid hnum; clear hnum
              by_cases ha : ar < 0
              · rw [if_pos ha] at hrr
                have Hf := Lib.hid (show Tx.parseR text.toList = none by rw [Hdef.out, Heq.out, hrr]; rfl)
                clear hrr
                go_wp2_with (go_at_call 83
                             refine (Hnum4.out _).mono ?_
                             rintro e w4 ⟨⟨r4, rfl, hr4⟩, n4, rfl⟩
                             rw [Hn4.out]
                             clear hr4
                             have hb4 : Blk ((W0.alloc (.cells #[.string (r2.extract 0 k), .int .i64 0, .slice none 0 0] 51)).drewN n4) W0.heap.size 51 #[.string (r2.extract 0 k), .int .i64 0, .slice none 0 0] := (Blk.new W0 _ _).drewN n4
                             have s1 := hb4.cell 1
                             have sf1 := hb4.frozen 1
                             have hb5 := hb4.set_ 1 (.int .i64 ar)
                             have t1 : (((W0.alloc (.cells #[.string (r2.extract 0 k), .int .i64 0, .slice none 0 0] 51)).drewN n4).setCell ⟨W0.heap.size, 1, none⟩ (.int .i64 ar)).cell? ⟨W0.heap.size, 1, none⟩ = some (.int .i64 ar) := hb5.cell 1
                             have hz5 := ((hz.alloc (.cells #[.string (r2.extract 0 k), .int .i64 0, .slice none 0 0] 51)).drewN n4).far (p := ⟨W0.heap.size, 1, none⟩) (show w.heap.size ≠ W0.heap.size from Nat.ne_of_lt hz.lt) (.int .i64 ar)
                             have Hbel5 := Lib.hid ((below_drewN (Hbel.out.alloc Hbel.out.size (.cells #[.string (r2.extract 0 k), .int .i64 0, .slice none 0 0] 51)) n4).setCell (p := ⟨W0.heap.size, 1, none⟩) Hbel.out.size (.int .i64 ar))
                             have zz0 : (((W0.alloc (.cells #[.string (r2.extract 0 k), .int .i64 0, .slice none 0 0] 51)).drewN n4).setCell ⟨W0.heap.size, 1, none⟩ (.int .i64 ar)).cell? ⟨w.heap.size, 0, none⟩ = some (.int .i64 0) := hz5.cell 0
                             have zz1 : (((W0.alloc (.cells #[.string (r2.extract 0 k), .int .i64 0, .slice none 0 0] 51)).drewN n4).setCell ⟨W0.heap.size, 1, none⟩ (.int .i64 ar)).cell? ⟨w.heap.size, 1, none⟩ = some (.slice none 0 0) := hz5.cell 1
                             have zf0 := hz5.frozen 0
                             have zf1 := hz5.frozen 1)
                refine bodyPost_ret (v := .tuple #[.agg #[.int .i64 0, .slice none 0 0], .bool false]) (by simp [results, Tryd.results51, go_sem, zz0, zz1]) rfl ?_
                exact RParsePost.bad Hf.out ((Hbel5.out.setCell (p := ⟨w.heap.size, 0, none⟩) (Nat.le_refl _) _).setCell (p := ⟨w.heap.size, 1, none⟩) (Nat.le_refl _) _)
              · rw [if_neg ha] at hrr
                obtain ⟨a, rfl⟩ : ∃ a : Nat, ar = a := ⟨ar.toNat, by omega⟩
                rw [show ((a : Int)).toNat = a from rfl] at hrr
                have ha100 : a < 100 := by
                  have := (Tx.numR_inv (l := (r2.extract (k + 1) r2.size).toList) (by rw [Hn4.out]; simp only; omega)).2
                  rw [Hn4.out] at this
                  simp only at this
                  omega
                have Hrr0 := Lib.hid hrr; clear hrr
                go_wp2_with (go_at_call 83
                             refine (Hnum4.out _).mono ?_
                             rintro e w4 ⟨⟨r4, rfl, hr4⟩, n4, rfl⟩
                             rw [Hn4.out]
                             rw [Hn4.out] at hr4
                             have Hr4 := Lib.hid (show r4.toList = l4 from hr4); clear hr4
                             have hb4 : Blk ((W0.alloc (.cells #[.string (r2.extract 0 k), .int .i64 0, .slice none 0 0] 51)).drewN n4) W0.heap.size 51 #[.string (r2.extract 0 k), .int .i64 0, .slice none 0 0] := (Blk.new W0 _ _).drewN n4
                             have s1 := hb4.cell 1
                             have sf1 := hb4.frozen 1
                             have hb5 := hb4.set_ 1 (.int .i64 a)
                             have t1 : (((W0.alloc (.cells #[.string (r2.extract 0 k), .int .i64 0, .slice none 0 0] 51)).drewN n4).setCell ⟨W0.heap.size, 1, none⟩ (.int .i64 a)).cell? ⟨W0.heap.size, 1, none⟩ = some (.int .i64 a) := hb5.cell 1
                             have Hb5 := Lib.hid hb5
                             have Hbel5 := Lib.hid ((below_drewN ((Below.refl W0.heap.size W0).alloc (Nat.le_refl _) (.cells #[.string (r2.extract 0 k), .int .i64 0, .slice none 0 0] 51)) n4).setCell (p := ⟨W0.heap.size, 1, none⟩) (Nat.le_refl _) (.int .i64 a))
                             clear hb5)
                clear hb4 s1 sf1 t1
                generalize r2.extract 0 k = nm at *
                generalize ((W0.alloc (.cells #[.string nm, .int .i64 0, .slice none 0 0] 51)).drewN n4).setCell ⟨W0.heap.size, 1, none⟩ (.int .i64 a) = W5 at *
                have hbW : W0.heap.size < W5.heap.size := Hb5.out.lt
                have hl4z : l4.length ≤ 40000 := by omega
                have hr4z : r4.size ≤ 40000 := by rw [← length_bytes, Hr4.out]; exact hl4z
                clear hkl hle4
                go_loopg [5] 40000 (fun gg sv wq => ∃ (q : ByteArray) (tv2 : Value) (us2 : List Value) (ts2 : List (List Int)), q.size ≤ gg ∧ us2.length + q.size ≤ 40000 ∧ sv = .string q ∧ us2.length = ts2.length ∧ Blk wq W0.heap.size 51 #[.string nm, .int .i64 a, tv2] ∧
                  wq.ownsRow (W0.heap.size + 1) 35 1 tv2 us2.length us2 ∧ Elems wq (W0.heap.size + 1) us2 ts2 ∧ Below W0.heap.size W0 wq ∧ Tx.tupsR a l4 = (Tx.tupsR a q.toList).map fun p => (ts2 ++ p.1, p.2))
                case atStart => exact ⟨r4, .slice none 0 0, [], [], hr4z, by simpa using hr4z, rfl, rfl, Hb5.out, World.ownsRow_nil _ _ _ _, (fun j u t h => by simp at h), Hbel5.out, by rw [Hr4.out]; simp⟩
                case round =>
                  obtain ⟨q, tv2, us2, ts2, hqg, hqz, rfl, hut, hrb, hown2, hel2, hbel3, hp3⟩ := hrel
                  obtain ⟨TB, TC2, rfl⟩ := own_slice hown2
                  clear Hb5 Hbel5 hbW
                  have Hown2 := Lib.hid hown2; clear hown2
                  have Hel2 := Lib.hid hel2; clear hel2
                  have Hut := Lib.hid hut; clear hut
                  have Hp3 := Lib.hid hp3; clear hp3
                  have hrbl := hrb.lt
                  have e1 : wr.cell? ⟨W0.heap.size, 1, none⟩ = some (.int .i64 a) := hrb.cell 1
                  rcases Nat.eq_zero_or_pos q.size with h0 | h0
                  · have hq0 : q.toList = [] := List.eq_nil_of_length_eq_zero (by rw [length_bytes]; exact h0)
                    have htq : Tx.tupsR a q.toList = some ([], q.toList) := Tx.tupsR_stop (by rw [hq0]; simp)
                    have hqs : ¬ (0 : Int) < (q.size : Int) := by omega
                    have hqr : q.size ≤ 40000 := by omega
                    clear h0 hq0
                    have hq3 : Tx.relsR 9 l0 = (Tx.relsR m q.toList).map fun p => ((rs ++ [⟨nm, (a : Int), ts2⟩]) ++ p.1, p.2) := by
                      rw [Heq.out, Hrr0.out, Hp3.out, htq]
                      simp only [Option.map_some]
                      rw [Option.map_map]
                      congr 1
                      funext p
                      simp
                    have Hq3 := Lib.hid hq3; clear hq3 htq
                    have hz3 := hz.below hbel3 hz.lt
                    have ho3 := ho.below hbel3 ho.lt
                    have hol := ho.lt
                    have hown3 := own_below Hown.out hbel3
                    have Hown3 := Lib.hid hown3; clear hown3
                    have hel3 := Hel.out.keep (Keeps.of_below hbel3)
                    have Hel3 := Lib.hid hel3; clear hel3
                    have hnt : NTups wr (W0.heap.size + 1) (.slice TB us2.length TC2) ts2 := NTups.own Hown2.out (Nat.le_refl _) (by omega) Hut.out Hel2.out
                    have Hnt := Lib.hid hnt; clear hnt
                    have hz3l := hz3.lt
                    have ho3l := ho3.lt
                    have hb3z := hbel3.size
                    have e0 : wr.cell? ⟨W0.heap.size, 0, none⟩ = some (.string nm) := hrb.cell 0
                    have e2 : wr.cell? ⟨W0.heap.size, 2, none⟩ = some (.slice TB us2.length TC2) := hrb.cell 2
                    have o1 : wr.cell? ⟨w.heap.size + 1, 1, none⟩ = some (.slice TA j TC) := ho3.cell 1
                    have Hz3 := Lib.hid hz3; clear hz3
                    have Ho3 := Lib.hid ho3; clear ho3
                    have Hbel3 := Lib.hid hbel3; clear hbel3
                    go_wp2_with (at_builtin
                                 refine append_rel _ rfl _ _ rfl (w.heap.size + 2) _ j xs rfl (World.ownsRow.alloc Hown3.out _) wr.heap.size 1 (.string nm) (.int .i64 a) (.slice TB us2.length TC2) rfl (Blk.new wr 51 #[.string nm, .int .i64 a, .slice TB us2.length TC2]) rfl rfl rfl (by omega) (by simp; omega) ?_
                                 intro v8 w8 hown8 hg8
                                 obtain ⟨VA, VC, rfl⟩ := own_slice hown8
                                 have hg8' : (wr.alloc (.cells #[.string nm, .int .i64 a, .slice TB us2.length TC2] 51)).grownBy w8 (Value.slice TA j TC).ownBlock := hg8
                                 have hbase : ∀ g, (Value.slice TA j TC).ownBlock = some g → w.heap.size + 2 ≤ g := fun g e => (Hown3.out.lt g e).1
                                 have ho8 := Blk.grown (Ho3.out.alloc _) hg8' (fun e => by have := hbase _ e.symm; omega)
                                 have oc8 : w8.cell? ⟨w.heap.size + 1, 1, none⟩ = some (.slice TA j TC) := ho8.cell 1
                                 have of8 := ho8.frozen 1)
                    have hk7 : Keeps (w.heap.size + 2) [3, 35] wr (w8.setCell ⟨w.heap.size + 1, 1, none⟩ (.slice VA (j + 1) VC)) :=
                      (Keeps.alloc _ _ _ _).trans ((Keeps.own hg8' (World.ownsRow.alloc Hown3.out _) (by decide)).trans (Keeps.setCell (p := ⟨w.heap.size + 1, 1, none⟩) ho8 (by decide) _))
                    go_roundg (9 - (j + 1))
                    case measure => omega
                    case rel =>
                      refine ⟨j + 1, q, .slice VA (j + 1) VC, xs ++ [.string nm, .int .i64 a, .slice TB us2.length TC2], us ++ [.slice TB us2.length TC2], rs ++ [⟨nm, (a : Int), ts2⟩], Nat.le_refl _, by omega, by rw [List.length_append, Hjl.out]; rfl, rfl, by omega, ?_, ho8.set_ 1 _, own_set hown8 (show w.heap.size + 1 < w.heap.size + 2 by omega) _, Hrc.out.snoc ⟨nm, (a : Int), ts2⟩ _, ?_, ?_, ?_⟩
                      · exact Blk.far (Blk.grown (Hz3.out.alloc _) hg8' (fun e => by have := hbase _ e.symm; omega)) (by simp) _
                      · exact RElems.snoc (Hel3.out.keep hk7) Hrc.out.2.1 ((Hnt.out.more (by omega)).keep hk7) (by show nm.size ≤ _; omega)
                      · exact (((Hbel.out.trans (Hbel3.out.mono Hbel.out.size)).alloc (Nat.le_trans Hbel.out.size hb3z) _).grown hg8' (by simp; have := Hbel.out.size; omega) (fun g e => by have := hbase g e; omega)).setCell (show w.heap.size ≤ w.heap.size + 1 by omega) _
                      · rw [Hq3.out, show 9 - (j + 1) = m by omega]

                  · have hqs : (0 : Int) < (q.size : Int) := by omega
                    have hcons := bytes_cons h0
                    by_cases hc3 : q[0].toNat = 32
                    · have hc4 : ((q[0].toNat : Int) == 32) = true := by rw [hc3]; rfl
                      have hhd : q.toList.head? = some 32 := by rw [hcons, UInt8.toNat_inj.1 (show q[0].toNat = (32 : UInt8).toNat from hc3)]; rfl
                      have hdr : q.toList.drop 1 = (q.extract 1 q.size).toList := by rw [extract_drop]
                      have hqs1 : (1 : Int) ≤ (q.size : Int) := by omega
                      have hqs2 : 1 ≤ q.size := h0
                      have hqs3 : ¬ q.size < 1 := by omega
                      have hq1z : (q.extract 1 q.size).size + 1 ≤ q.size := by rw [ByteArray.size_extract]; omega
                      have htup := fun W => rtuple_ref a (q.extract 1 q.size) W (by omega) (by omega)
                      have Htup := Lib.hid htup; clear htup
                      have hzz := hz.below hbel3 hz.lt
                      have hzzl := hzz.lt
                      have Hbel3 := Lib.hid hbel3; clear hbel3
                      clear hc3 hcons
                      cases htq : Tx.tupR a (q.extract 1 q.size).toList with
                      | none =>
                        have hst := Tx.tupsR_bad (k := a) hhd (by rw [hdr]; exact htq)
                        have Hf := Lib.hid (show Tx.parseR text.toList = none by rw [Hdef.out, Heq.out, Hrr0.out, Hp3.out, hst]; rfl)
                        have Htq := Lib.hid htq; clear htq hst hhd hdr
                        go_wp2
                        go_region_law (first
                          | (go_simp
                             go_at_call 84
                             refine (Htup.out _).mono ?_
                             intro e w6 hp6
                             obtain ⟨hb6, r6, rfl⟩ := hp6.miss Htq.out
                             have hz6 := (show Blk wr.drew _ _ _ from hzz).below hb6 hzz.lt
                             have Hbel6 := Lib.hid ((Hbel.out.trans (Hbel3.out.mono Hbel.out.size)).drew.trans (hb6.mono (Nat.le_trans Hbel.out.size Hbel3.out.size)))
                             have zz0 : w6.cell? ⟨w.heap.size, 0, none⟩ = some (.int .i64 0) := hz6.cell 0
                             have zz1 : w6.cell? ⟨w.heap.size, 1, none⟩ = some (.slice none 0 0) := hz6.cell 1
                             have zf0 := hz6.frozen 0
                             have zf1 := hz6.frozen 1
                             clear hp6 hb6))
                        all_goals (
                          go_wp2
                          refine bodyPost_ret (v := .tuple #[.agg #[.int .i64 0, .slice none 0 0], .bool false]) (by simp [results, Tryd.results51, go_sem, zz0, zz1]) rfl ?_
                          exact RParsePost.bad Hf.out ((Hbel6.out.setCell (p := ⟨w.heap.size, 0, none⟩) (Nat.le_refl _) _).setCell (p := ⟨w.heap.size, 1, none⟩) (Nat.le_refl _) _))
                      | some p =>
                        obtain ⟨tt, lr⟩ := p
                        have hst := Tx.tupsR_more (k := a) hhd (p := (tt, lr)) (by rw [hdr]; exact htq)
                        have hlr := Tx.tupR_len htq
                        rw [length_bytes] at hlr
                        simp only at hlr
                        have hp4 := Hp3.out
                        rw [hst] at hp4
                        simp only at hp4
                        have Hp4 := Lib.hid hp4; clear hp4 hst hhd hdr
                        have Htq := Lib.hid htq; clear htq
                        have hb3z := Hbel3.out.size
                        have r0c : wr.cell? ⟨W0.heap.size, 2, none⟩ = some (.slice TB us2.length TC2) := hrb.cell 2
                        clear r0c
                        go_wp2
                        go_region_law (first
                          | (go_simp
                             go_at_call 84
                             refine (Htup.out _).mono ?_
                             intro e w6 hp6
                             obtain ⟨hb6, v6, r6, rfl, hr6, hnt6⟩ := hp6.hit Htq.out
                             have hnt6' := hnt6
                             obtain ⟨UA, UN, UC, rfl, -⟩ := hnt6'
                             have hrb6 := (show Blk wr.drew _ _ _ from hrb).below hb6 hrb.lt
                             have rc6 : w6.cell? ⟨W0.heap.size, 2, none⟩ = some (.slice TB us2.length TC2) := hrb6.cell 2
                             have hs6 : wr.heap.size ≤ w6.heap.size := hb6.size
                             have Hown6 := Lib.hid (own_below (w := wr.drew) Hown2.out hb6)
                             have Hk6 := Lib.hid ((Keeps.drewN (W0.heap.size + 1) [3] wr 1).trans (Keeps.of_below (L := W0.heap.size + 1) (ts := [3]) hb6))
                             have Hbel6 := Lib.hid (Hbel3.out.drew.trans (hb6.mono Hbel3.out.size))
                             have Hnt6 := Lib.hid hnt6
                             have Hr6 := Lib.hid (show r6.toList = lr from hr6)
                             clear hp6 hb6 hnt6 hr6))
                        all_goals (
                          have hr6z : r6.size ≤ (q.extract 1 q.size).size := by rw [← length_bytes r6, Hr6.out]; exact hlr
                          have hrb6l := hrb6.lt
                          go_wp2_with (at_builtin
                                       refine append_tup _ rfl _ _ rfl (W0.heap.size + 1) _ us2.length us2 rfl (World.ownsRow.alloc Hown6.out _) ⟨w6.heap.size, 0, none⟩ 1 (.slice UA UN UC) rfl ((Blk.new w6 35 #[.slice UA UN UC]).cell 0) rfl (by omega) (by simp; omega) ?_
                                       intro v8 w8 hown8 hg8
                                       obtain ⟨VA, VC, rfl⟩ := own_slice hown8
                                       have hg8' : (w6.alloc (.cells #[.slice UA UN UC] 35)).grownBy w8 (Value.slice TB us2.length TC2).ownBlock := hg8
                                       have hbase : ∀ g, (Value.slice TB us2.length TC2).ownBlock = some g → W0.heap.size + 1 ≤ g := fun g e => (Hown6.out.lt g e).1
                                       have hrb8 := Blk.grown (hrb6.alloc (.cells #[.slice UA UN UC] 35)) hg8' (fun e => by have := hbase _ e.symm; omega)
                                       have rc8 : w8.cell? ⟨W0.heap.size, 2, none⟩ = some (.slice TB us2.length TC2) := hrb8.cell 2
                                       have rf8 := hrb8.frozen 2)
                          have hk7 : Keeps (W0.heap.size + 1) [3] w6 (w8.setCell ⟨W0.heap.size, 2, none⟩ (.slice VA (us2.length + 1) VC)) :=
                            (Keeps.alloc _ _ _ _).trans ((Keeps.own hg8' (World.ownsRow.alloc Hown6.out _) (by decide)).trans (Keeps.setCell (p := ⟨W0.heap.size, 2, none⟩) hrb8 (by decide) _))
                          go_roundg r6.size
                          case measure => omega
                          case rel =>
                            refine ⟨r6, .slice VA (us2.length + 1) VC, us2 ++ [.slice UA UN UC], ts2 ++ [tt], Nat.le_refl _, by rw [List.length_append, List.length_singleton]; omega, rfl, by rw [List.length_append, List.length_append, Hut.out]; rfl, hrb8.set_ 2 _, ?_, ?_, ?_, ?_⟩
                            · rw [List.length_append, List.length_singleton]
                              exact own_set hown8 (show W0.heap.size < W0.heap.size + 1 by omega) _
                            · exact Elems.snoc ((Hel2.out.keep Hk6.out).keep hk7) Hut.out ((Hnt6.out.more (by show W0.heap.size + 1 ≤ wr.heap.size; omega)).keep hk7)
                            · exact ((Hbel6.out.alloc (by omega) _).grown hg8' (by simp; omega) (fun g e => by have := hbase g e; omega)).setCell (p := ⟨W0.heap.size, 2, none⟩) (Nat.le_refl _) _
                            · rw [Hp4.out, Hr6.out, Option.map_map]
                              congr 1
                              funext p
                              simp)
                    · have hc4 : ((q[0].toNat : Int) == 32) = false := by rw [beq_eq_false_iff_ne]; omega
                      have htq : Tx.tupsR a q.toList = some ([], q.toList) := Tx.tupsR_stop (by
                        rw [hcons]
                        intro e
                        injection e with e
                        rw [e] at hc3
                        exact hc3 rfl)
                      have hqr : q.size ≤ 40000 := by omega
                      clear hc3 hcons
                      have hq3 : Tx.relsR 9 l0 = (Tx.relsR m q.toList).map fun p => ((rs ++ [⟨nm, (a : Int), ts2⟩]) ++ p.1, p.2) := by
                        rw [Heq.out, Hrr0.out, Hp3.out, htq]
                        simp only [Option.map_some]
                        rw [Option.map_map]
                        congr 1
                        funext p
                        simp
                      have Hq3 := Lib.hid hq3; clear hq3 htq
                      have hz3 := hz.below hbel3 hz.lt
                      have ho3 := ho.below hbel3 ho.lt
                      have hol := ho.lt
                      have hown3 := own_below Hown.out hbel3
                      have Hown3 := Lib.hid hown3; clear hown3
                      have hel3 := Hel.out.keep (Keeps.of_below hbel3)
                      have Hel3 := Lib.hid hel3; clear hel3
                      have hnt : NTups wr (W0.heap.size + 1) (.slice TB us2.length TC2) ts2 := NTups.own Hown2.out (Nat.le_refl _) (by omega) Hut.out Hel2.out
                      have Hnt := Lib.hid hnt; clear hnt
                      have hz3l := hz3.lt
                      have ho3l := ho3.lt
                      have hb3z := hbel3.size
                      have e0 : wr.cell? ⟨W0.heap.size, 0, none⟩ = some (.string nm) := hrb.cell 0
                      have e2 : wr.cell? ⟨W0.heap.size, 2, none⟩ = some (.slice TB us2.length TC2) := hrb.cell 2
                      have o1 : wr.cell? ⟨w.heap.size + 1, 1, none⟩ = some (.slice TA j TC) := ho3.cell 1
                      have Hz3 := Lib.hid hz3; clear hz3
                      have Ho3 := Lib.hid ho3; clear ho3
                      have Hbel3 := Lib.hid hbel3; clear hbel3
                      go_wp2_with (at_builtin
                                   refine append_rel _ rfl _ _ rfl (w.heap.size + 2) _ j xs rfl (World.ownsRow.alloc Hown3.out _) wr.heap.size 1 (.string nm) (.int .i64 a) (.slice TB us2.length TC2) rfl (Blk.new wr 51 #[.string nm, .int .i64 a, .slice TB us2.length TC2]) rfl rfl rfl (by omega) (by simp; omega) ?_
                                   intro v8 w8 hown8 hg8
                                   obtain ⟨VA, VC, rfl⟩ := own_slice hown8
                                   have hg8' : (wr.alloc (.cells #[.string nm, .int .i64 a, .slice TB us2.length TC2] 51)).grownBy w8 (Value.slice TA j TC).ownBlock := hg8
                                   have hbase : ∀ g, (Value.slice TA j TC).ownBlock = some g → w.heap.size + 2 ≤ g := fun g e => (Hown3.out.lt g e).1
                                   have ho8 := Blk.grown (Ho3.out.alloc _) hg8' (fun e => by have := hbase _ e.symm; omega)
                                   have oc8 : w8.cell? ⟨w.heap.size + 1, 1, none⟩ = some (.slice TA j TC) := ho8.cell 1
                                   have of8 := ho8.frozen 1)
                      have hk7 : Keeps (w.heap.size + 2) [3, 35] wr (w8.setCell ⟨w.heap.size + 1, 1, none⟩ (.slice VA (j + 1) VC)) :=
                        (Keeps.alloc _ _ _ _).trans ((Keeps.own hg8' (World.ownsRow.alloc Hown3.out _) (by decide)).trans (Keeps.setCell (p := ⟨w.heap.size + 1, 1, none⟩) ho8 (by decide) _))
                      go_roundg (9 - (j + 1))
                      case measure => omega
                      case rel =>
                        refine ⟨j + 1, q, .slice VA (j + 1) VC, xs ++ [.string nm, .int .i64 a, .slice TB us2.length TC2], us ++ [.slice TB us2.length TC2], rs ++ [⟨nm, (a : Int), ts2⟩], Nat.le_refl _, by omega, by rw [List.length_append, Hjl.out]; rfl, rfl, by omega, ?_, ho8.set_ 1 _, own_set hown8 (show w.heap.size + 1 < w.heap.size + 2 by omega) _, Hrc.out.snoc ⟨nm, (a : Int), ts2⟩ _, ?_, ?_, ?_⟩
                        · exact Blk.far (Blk.grown (Hz3.out.alloc _) hg8' (fun e => by have := hbase _ e.symm; omega)) (by simp) _
                        · exact RElems.snoc (Hel3.out.keep hk7) Hrc.out.2.1 ((Hnt.out.more (by omega)).keep hk7) (by show nm.size ≤ _; omega)
                        · exact (((Hbel.out.trans (Hbel3.out.mono Hbel.out.size)).alloc (Nat.le_trans Hbel.out.size hb3z) _).grown hg8' (by simp; have := Hbel.out.size; omega) (fun g e => by have := hbase g e; omega)).setCell (show w.heap.size ≤ w.heap.size + 1 by omega) _
                        · rw [Hq3.out, show 9 - (j + 1) = m by omega]

            · have hc2 : ((r2[k].toNat : Int) != 47) = true := by rw [bne_iff_ne]; omega
              go_wp2
              go_round
              case rel =>
                refine ⟨k + 1, by omega, by go_num, fun y hy => ?_⟩
                by_cases hyk : y = k
                · subst hyk
                  rw [hg, bne_iff_ne]
                  intro e
                  rw [e] at hc
                  exact hc rfl
                · exact Hall.out y (by omega)
              case measure => simp [intOf]; omega
          · obtain rfl : k = r2.size := by omega
            have hsl : Tx.slash r2.toList = r2.toList.length := by
              unfold Tx.slash
              rw [Hr2l.out]
              exact Sh.takeWhile_len _ 0 _ _ (by rw [Hr2l.out]; exact Nat.le_refl _) Hall.out (fun h => by rw [Hr2l.out] at h; omega)
            have hrn : Tx.relR r2.toList = none := by unfold Tx.relR; rw [if_pos hsl]
            have Hf := Lib.hid (show Tx.parseR text.toList = none by rw [Hdef.out, Heq.out, hrn]; rfl)
            clear hsl hrn
            have zz0 : W0.cell? ⟨w.heap.size, 0, none⟩ = some (.int .i64 0) := hz.cell 0
            have zz1 : W0.cell? ⟨w.heap.size, 1, none⟩ = some (.slice none 0 0) := hz.cell 1
            have zf0 := hz.frozen 0
            have zf1 := hz.frozen 1

            go_wp2
            refine bodyPost_ret (v := .tuple #[.agg #[.int .i64 0, .slice none 0 0], .bool false]) (by simp [results, Tryd.results51, go_sem, zz0, zz1]) rfl ?_
            exact RParsePost.bad Hf.out ((Hbel.out.setCell (p := ⟨w.heap.size, 0, none⟩) (Nat.le_refl _) _).setCell (p := ⟨w.heap.size, 1, none⟩) (Nat.le_refl _) _)
      · obtain rfl : j = 9 := by omega
        have heq9 : Tx.relsR 9 l0 = some (rs, r.toList) := by
          rw [heq]
          simp [Tx.relsR]
        clear heq hm hrl
        have hj8i : ¬ ((9 : Nat) : Int) ≤ 8 := by omega
        have hfin : Tx.parseR text.toList = if r.toList = [] ∧ Sh.validB ⟨n0, rs⟩ = true then some ⟨n0, rs⟩ else none := by rw [Hdef.out, heq9]
        have hrel : NRels wr (w.heap.size + 2) (.slice TA 9 TC) rs := NRels.own Hown.out (Nat.le_refl _) (by omega) Hrc.out Hel.out
        have Hrel := Lib.hid hrel; clear hrel
        clear heq9
        rcases Nat.eq_zero_or_pos r.size with h0 | h0
        · have he : r.toList = [] := List.eq_nil_of_length_eq_zero (by rw [length_bytes]; exact h0)
          have heb : (r.toList == []) = true := by rw [he]; rfl
          clear h0 hrz
          cases hv : Sh.validB ⟨n0, rs⟩
          · have Hf := Lib.hid (show Tx.parseR text.toList = none by rw [hfin, hv]; simp)
            have Hv := Lib.hid hv; clear hv hfin he
            go_wp2_with (go_at_call 14
                         refine (refvalid_any n0 _ rs _ _ (Nat.le_refl _) Hrel.out.rels).mono ?_
                         rw [Hv.out]
                         rintro e w9 ⟨rfl, hb9⟩
                         have hz9 := hz.below hb9 hz.lt
                         have Hbel9 := Lib.hid (Hbel.out.trans (hb9.mono Hbel.out.size))
                         have Hb9 := Lib.hid hb9
                         clear hb9
                         have zz0 : w9.cell? ⟨w.heap.size, 0, none⟩ = some (.int .i64 0) := hz9.cell 0
                         have zz1 : w9.cell? ⟨w.heap.size, 1, none⟩ = some (.slice none 0 0) := hz9.cell 1
                         have zf0 := hz9.frozen 0
                         have zf1 := hz9.frozen 1)
            refine bodyPost_ret (v := .tuple #[.agg #[.int .i64 0, .slice none 0 0], .bool false]) (by simp [results, Tryd.results51, go_sem, zz0, zz1]) rfl ?_
            exact RParsePost.bad Hf.out ((Hbel9.out.setCell (p := ⟨w.heap.size, 0, none⟩) (Nat.le_refl _) _).setCell (p := ⟨w.heap.size, 1, none⟩) (Nat.le_refl _) _)
          · have Hf := Lib.hid (show Tx.parseR text.toList = some ⟨n0, rs⟩ by rw [hfin, hv]; simp [he])
            have Hv := Lib.hid hv; clear hv hfin he
            go_wp2_with (go_at_call 14
                         refine (refvalid_any n0 _ rs _ _ (Nat.le_refl _) Hrel.out.rels).mono ?_
                         rw [Hv.out]
                         rintro e w9 ⟨rfl, hb9⟩
                         have hz9 := hz.below hb9 hz.lt
                         have ho9 := ho.below hb9 ho.lt
                         have oo0 : w9.cell? ⟨w.heap.size + 1, 0, none⟩ = some (.int .i64 n0) := ho9.cell 0
                         have oo1 : w9.cell? ⟨w.heap.size + 1, 1, none⟩ = some (.slice TA 9 TC) := ho9.cell 1
                         have Hbel9 := Lib.hid (Hbel.out.trans (hb9.mono Hbel.out.size))
                         have Hb9 := Lib.hid hb9
                         clear hb9
                         have zz0 : w9.cell? ⟨w.heap.size, 0, none⟩ = some (.int .i64 0) := hz9.cell 0
                         have zz1 : w9.cell? ⟨w.heap.size, 1, none⟩ = some (.slice none 0 0) := hz9.cell 1
                         have zf0 := hz9.frozen 0
                         have zf1 := hz9.frozen 1)
            refine bodyPost_ret (v := .tuple #[.agg #[.int .i64 n0, .slice TA 9 TC], .bool true]) (by simp [results, Tryd.results51, go_sem, zz0, zz1]) rfl ?_
            have hk0 : Keeps (w.heap.size + 2) [3, 35, 51] w9 ((w9.setCell ⟨w.heap.size, 0, none⟩ (.int .i64 n0)).setCell ⟨w.heap.size, 1, none⟩ (.slice TA 9 TC)) :=
              (Keeps.setCell (p := ⟨w.heap.size, 0, none⟩) hz9 (by decide) _).trans (Keeps.setCell (p := ⟨w.heap.size, 1, none⟩) (hz9.set_ _ _) (by decide) _)
            exact RParsePost.ok (s := ⟨n0, rs⟩) Hf.out ((Hbel9.out.setCell (p := ⟨w.heap.size, 0, none⟩) (Nat.le_refl _) _).setCell (p := ⟨w.heap.size, 1, none⟩) (Nat.le_refl _) _) (((Hrel.out.keep (Keeps.of_below Hb9.out)).keep hk0).more (by omega))
        · have hcons := bytes_cons h0
          have heb : (r.toList == []) = false := by rw [hcons]; rfl
          have Hf := Lib.hid (show Tx.parseR text.toList = none by rw [hfin, if_neg (fun h => by rw [hcons] at h; cases h.1)])
          clear hfin hcons
          have zz0 : wr.cell? ⟨w.heap.size, 0, none⟩ = some (.int .i64 0) := hz.cell 0
          have zz1 : wr.cell? ⟨w.heap.size, 1, none⟩ = some (.slice none 0 0) := hz.cell 1
          have zf0 := hz.frozen 0
          have zf1 := hz.frozen 1
          go_wp2
          refine bodyPost_ret (v := .tuple #[.agg #[.int .i64 0, .slice none 0 0], .bool false]) (by simp [results, Tryd.results51, go_sem, zz0, zz1]) rfl ?_
          exact RParsePost.bad Hf.out ((Hbel.out.setCell (p := ⟨w.heap.size, 0, none⟩) (Nat.le_refl _) _).setCell (p := ⟨w.heap.size, 1, none⟩) (Nat.le_refl _) _)


end Go.Proofs.YtbddchonhicpiaaDoor
