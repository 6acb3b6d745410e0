/-
  Walks: shape.Valid, the reference's Valid.
-/
import Derived.Test.YtbddchonhicpiaaDoorVrel
import Derived.Maps.Own
import Derived.Maps.OwnOps
import Derived.Maps.OwnSet
import Derived.Maps.Views
import Derived.StringKeys
namespace Go.Proofs.YtbddchonhicpiaaDoor
open Go.RowKit
open Go.Maps (Keyed)
open Go.ChangeMaps Go.MapKept

/-! ### a set of names: map[string]bool, made by the call -/

theorem plainElem_bool_inv {H : Type} {P : Program} {e : TypeId} (he : P.underlying e = some .bool) {v : Value} {z : DataW H × List MemPlace} (h : plainElem P e v = some z) : ∃ x, v = .bool x ∧ z = (.lit (.bool x), []) := by
  unfold plainElem at h
  rw [he] at h
  cases v <;> simp at h
  exact ⟨_, rfl, h.symm⟩

theorem wpList_lookup_own_bool {H : Type} {P : Program} (w : World) {ops : Array Oper} {rest : List Oper} {o : Oper} {a : Act} {Q : Exit → Act → World → Prop}
    (hg : o.guard = none) (m x : Operand) (t : TypeId) (hop : o.op = Op.lookup t m x false)
    (k e : TypeId) (K : Keyed P k) (ht : P.underlying t = some (.map k e)) (he : P.underlying e = some .bool) (hz : (zeroValue e).run P w = .ok (.bool false) w) (b n : Nat) (D : DataW H)
    (hm : a.eval m = .map (some b)) (hown : w.ownsMap P k (plainElem P e) b n D) (key : Value) (kl : Lit) (hx : a.eval x = key) (hkey : keyOf P k key = some kl) (c : Bool)
    (hat : D.atKey kl (.lit (.bool false)) = .lit (.bool c))
    (hK : wpList P ops Q rest (a.put o.dst (.bool c)) w) :
    wpList P ops Q (o :: rest) a w := by
  refine wpList_plain hg fun K' hK' => ?_
  obtain ⟨v, ps, hrun, hv⟩ := hown.lookup K ht hz (plainElem_bool he false) hkey
  obtain ⟨c', rfl, hc⟩ := plainElem_bool_inv he hv
  simp only [Prod.mk.injEq] at hc
  have e1 : c' = c := by
    have := hc.1.symm.trans hat
    injection this with this
    injection this
  subst e1
  unfold Oper.wp
  simp [execOp, hop, hm, hx, hrun, Result.andThen]
  exact hK' _ _ hK

/-- The datum of a set of names. -/
def nameSet (l : List (List UInt8)) : DataW Unit := l.foldl (fun D s => D.put (.string s) (.lit (.bool true))) (.map [])
theorem nameSet_snoc (l : List (List UInt8)) (s : List UInt8) : nameSet (l ++ [s]) = (nameSet l).put (.string s) (.lit (.bool true)) := by
  unfold nameSet; rw [List.foldl_append]; rfl

theorem fold_at (s : List UInt8) : ∀ (l : List (List UInt8)) (D : DataW Unit) (c : Bool), Go.Maps.IsMap D → D.atKey (.string s) (.lit (.bool false)) = .lit (.bool c) →
    (l.foldl (fun D s => D.put (.string s) (.lit (.bool true))) D).atKey (.string s) (.lit (.bool false)) = .lit (.bool (c || l.contains s))
  | [], D, c, _, h => by simpa using h
  | x :: l, D, c, hm, h => by
    rw [List.foldl_cons, fold_at s l _ (c || (x == s)) (hm.put _ _) ?_]
    · congr 2
      rw [List.contains_cons, Bool.or_assoc]
      congr 2
      exact Bool.eq_iff_iff.2 ⟨fun h => by simp at h; simp [h], fun h => by simp at h; simp [h]⟩
    · by_cases hx : x = s
      · subst hx
        rw [Go.Maps.atKey_put_same hm (by trivial)]
        simp
      · rw [Go.Maps.atKey_put_other (by intro e; injection e with e; exact hx e.symm), h]
        simp [hx]
theorem nameSet_at (l : List (List UInt8)) (s : List UInt8) : (nameSet l).atKey (.string s) (.lit (.bool false)) = .lit (.bool (l.contains s)) := by
  have := fold_at s l (.map []) false Go.Maps.isMap_empty rfl
  simpa [nameSet] using this

theorem names_keyed : Keyed Tryd.prog 9 := Go.Maps.string_keyed Tryd.underlying9
theorem zero_bool (w : World) : (zeroValue 4).run Tryd.prog w = .ok (.bool false) w := by kernel_rfl

/-- The map in block b holds just these names, each true. -/
def NameSet (w : World) (b n : Nat) (l : List (List UInt8)) : Prop := w.ownsMap Tryd.prog 9 (plainElem Tryd.prog 4) b n (nameSet l)

theorem NameSet.made (w : World) : NameSet (w.alloc (.map #[] 0)) w.heap.size 0 [] := World.ownsMap_made _ _ _ _
theorem NameSet.below {w w' : World} {B b n : Nat} {l : List (List UInt8)} (h : NameSet w b n l) (hb : Below B w w') (hB : b < B) : NameSet w' b n l := by
  obtain ⟨es, clock, h1, h2⟩ := h
  exact ⟨es, clock, (hb.block b hB).trans h1, h2⟩

set_option maxRecDepth 100000 in
set_option maxHeartbeats 400000 in
theorem valid_any (size : Int) (v : Value) (rs : List Sh.Rel) (w : World) (B : Nat) (hB : B ≤ w.heap.size) (h : Rels w B v rs) :
    Calls Tryd.prog 16 #[.agg #[.int .i64 size, v]] w fun e w' => e = .returned (.bool (Sh.validB ⟨size, rs⟩)) ∧ Below w.heap.size w w' := by
  have h' := h
  obtain ⟨A, len, c, rfl, hlen, hmax, -⟩ := h'
  have hdef : Sh.validB ⟨size, rs⟩ = (decide (1 ≤ size) && decide (size ≤ 64) && decide (len ≤ 8) && (List.range len).all (Sh.relAt size rs)) := by rw [hlen]; rfl
  have Hlen := Lib.hid hlen; clear hlen
  by_cases h1 : size < 1
  · have hv : Sh.validB ⟨size, rs⟩ = false := by rw [hdef, decide_eq_false (by omega)]; simp
    have Hv := Lib.hid hv; clear hv hdef
    go_enter Tryd.func16, Tryd.ntmps16
    go_wp2
    go_ret
    exact ⟨ret_bool Hv.out.symm, (Below.refl _ _).alloc (Nat.le_refl _) _⟩
  · by_cases h2 : 64 < size
    · have hv : Sh.validB ⟨size, rs⟩ = false := by rw [hdef, decide_eq_false (show ¬ size ≤ 64 by omega)]; simp
      have Hv := Lib.hid hv; clear hv hdef
      go_enter Tryd.func16, Tryd.ntmps16
      go_wp2
      go_ret
      exact ⟨ret_bool Hv.out.symm, (Below.refl _ _).alloc (Nat.le_refl _) _⟩
    · by_cases h3 : 8 < len
      · have hv : Sh.validB ⟨size, rs⟩ = false := by rw [hdef, decide_eq_false (show ¬ len ≤ 8 by omega)]; simp
        have Hv := Lib.hid hv; clear hv hdef
        go_enter Tryd.func16, Tryd.ntmps16
        go_wp2
        go_ret
        exact ⟨ret_bool Hv.out.symm, (Below.refl _ _).alloc (Nat.le_refl _) _⟩
      · have hv : Sh.validB ⟨size, rs⟩ = (List.range len).all (Sh.relAt size rs) := by rw [hdef, decide_eq_true (by omega), decide_eq_true (by omega), decide_eq_true (by omega)]; simp
        have Hv := Lib.hid hv; clear hv hdef
        have hmm := @run_makeMap Tryd.prog
        go_enter Tryd.func16, Tryd.ntmps16
        go_wp2
        go_loopw [24] (fun i wr => ∃ k : Nat, k ≤ len ∧ i = .int .i64 k ∧ (List.range k).all (Sh.relAt size rs) = true ∧ Blk wr w.heap.size 24 #[.int .i64 size, .slice A len c] ∧
          NameSet wr (w.heap.size + 1) k ((rs.take k).map (·.name.toList)) ∧ Below w.heap.size w wr ∧ w.heap.size + 2 ≤ wr.heap.size) (fun i _ => len - (intOf i).toNat)
        case atStart =>
          refine ⟨0, Nat.zero_le _, rfl, by simp, (Blk.new w _ _).alloc _, ?_, ((Below.refl _ _).alloc (Nat.le_refl _) _).alloc (by simp) _, by simp⟩
          have := NameSet.made (w.alloc (.cells #[.int .i64 size, .slice A len c] 24))
          simpa using this
        case round =>
          obtain ⟨k, hk, rfl, hall, hblk, hset, hbel, hsz⟩ := hrel
          have Hset := Lib.hid hset; clear hset
          by_cases hlt : k < len
          · obtain ⟨ad, u, r, rfl, hb, hr, hc0, hc1, hc2, htu, hrs⟩ := (h.below (hbel.mono hB)).at_ hlt
            have hs1 : wr.cell? ⟨w.heap.size, 1, none⟩ = some (.slice (some ad) len c) := hblk.cell 1
            have hs0 : wr.cell? ⟨w.heap.size, 0, none⟩ = some (.int .i64 size) := hblk.cell 0
            have Hall := Lib.hid hall; clear hall
            have Hr := Lib.hid hr; clear hr
            have htu' := htu
            obtain ⟨A2, n2, c2, rfl, -, -, -⟩ := htu'
            have hkey : keyOf Tryd.prog 9 (.string r.name) = some (.string r.name.data.toList) := Go.WideMaps.keyOf_string_mk Tryd.underlying9 (by unfold maxLen; omega)
            have Hkey := Lib.hid hkey; clear hkey
            have hat := nameSet_at ((rs.take k).map (·.name.toList)) r.name.data.toList
            have Hat := Lib.hid hat; clear hat
            have hrel : Sh.relAt size rs k = (Sh.relB size r && !((rs.take k).map (·.name.toList)).contains r.name.toList) := by unfold Sh.relAt; rw [Hr.out]
            rw [ByteArray.toList_eq r.name] at hrel
            have hfalse : Sh.relAt size rs k = false → Sh.validB ⟨size, rs⟩ = false := fun hp => by
              rw [Hv.out]; exact Sh.range_all_false _ hlt hp
            have hsucc := Sh.range_all_succ (Sh.relAt size rs) k
            rw [Hall.out, Bool.true_and] at hsucc
            have hsn : (rs.take (k + 1)).map (·.name.toList) = (rs.take k).map (·.name.toList) ++ [r.name.data.toList] := by
              have hl : k < rs.length := by have := Hlen.out; omega
              have hr' := Hr.out
              rw [List.getElem?_eq_getElem hl] at hr'
              injection hr' with hr'
              rw [List.take_succ_eq_append_getElem hl, List.map_append, hr', ← ByteArray.toList_eq]
              rfl
            have Hset0 := Hset.out.below (Below.alloc (Below.refl wr.heap.size _) (Nat.le_refl _) (.cells #[.string r.name, .int .i64 r.arity, .slice A2 n2 c2] 51)) (by omega)
            have Hset1 := Lib.hid Hset0; clear Hset0
            have htu1 : Tups (wr.alloc (.cells #[.string r.name, .int .i64 r.arity, .slice A2 n2 c2] 51)) B (.slice A2 n2 c2) r.tuples := htu.below (Below.alloc (Below.refl _ _) (by omega) _)
            have hs0' : (wr.alloc (.cells #[.string r.name, .int .i64 r.arity, .slice A2 n2 c2] 51)).cell? ⟨w.heap.size, 0, none⟩ = some (.int .i64 size) :=
              ((Below.alloc (Below.refl wr.heap.size _) (Nat.le_refl _) _).cell (p := ⟨w.heap.size, 0, none⟩) (by simp; omega)).trans hs0
            have Hrel := Lib.hid hrel; clear hrel
            have Hfa := Lib.hid hfalse; clear hfalse
            have Hsucc := Lib.hid hsucc; clear hsucc
            have Hsn := Lib.hid hsn; clear hsn
            cases hcon : ((rs.take k).map (·.name.toList)).contains r.name.data.toList
            · have Hcon := Lib.hid hcon; clear hcon
              cases hrb : Sh.relB size r
              · have Hrb := Lib.hid hrb; clear hrb
                go_wp2_with (first
                  | (at_lookup; refine wpList_lookup_own_bool _ rfl _ _ 86 rfl 9 4 names_keyed Tryd.underlying86 Tryd.underlying4 (zero_bool _) (w.heap.size + 1) k _ rfl Hset1.out _ _ rfl Hkey.out _ Hat.out ?_; rw [Hcon.out])
                  | (go_at_call 53; refine (validRel_any r _ _ _ B (by simp; omega) htu1 hrs).mono ?_; rw [Hrb.out]; rintro e w1 ⟨rfl, hb1⟩))
                go_ret
                exact ⟨ret_bool (Hfa.out (by rw [Hrel.out, Hrb.out]; rfl)).symm, (hbel.alloc (by omega) _).trans (hb1.mono (by simp; omega))⟩
              · have Hrb := Lib.hid hrb; clear hrb
                go_wp2_with (first
                  | (at_lookup; refine wpList_lookup_own_bool _ rfl _ _ 86 rfl 9 4 names_keyed Tryd.underlying86 Tryd.underlying4 (zero_bool _) (w.heap.size + 1) k _ rfl Hset1.out _ _ rfl Hkey.out _ Hat.out ?_; rw [Hcon.out])
                  | (go_at_call 53
                     refine (validRel_any r _ _ _ B (by simp; omega) htu1 hrs).mono ?_
                     rw [Hrb.out]
                     rintro e w1 ⟨rfl, hb1⟩
                     have hbox := (Blk.new wr 51 #[.string r.name, .int .i64 r.arity, .slice A2 n2 c2]).below hb1 (by simp)
                     have hn1 : w1.cell? ⟨wr.heap.size, 0, none⟩ = some (.string r.name) := hbox.cell 0
                     have hset1 := Hset1.out.below hb1 (by simp; omega)
                     have Hset2 := Lib.hid hset1; clear hset1
                     have hbw1 : Below wr.heap.size wr w1 := ((Below.refl _ _).alloc (Nat.le_refl _) _).trans (hb1.mono (by simp))
                     clear hb1 hbox)
                  | (at_mapUpdate; refine wpList_mapUpdate_own _ rfl _ _ _ 86 rfl 9 4 names_keyed Tryd.underlying86 _ (w.heap.size + 1) k _ rfl Hset2.out (by unfold maxLen; omega) _ _ _ rfl rfl Hkey.out _ [] (plainElem_bool Tryd.underlying4 true) ?_; intro w2 hown2 hgrow2))
                have hb2 : Below w.heap.size w w1 := hbel.trans (hbw1.mono (by omega))
                have hsz1 := hbw1.size
                have hsz2 := hgrow2.size
                refine ⟨⟨k + 1, by omega, by go_num, ?_, ?_, ?_, ?_, by omega⟩, by simp [intOf]; omega⟩
                · rw [Hsucc.out, Hrel.out, Hrb.out, Hcon.out]; rfl
                · exact (hblk.below hbw1 (by omega)).grown hgrow2 (by simp)
                · rw [Hsn.out]; unfold NameSet; rw [nameSet_snoc]; exact hown2
                · exact hb2.grown hgrow2 (by omega) (by intro g hg; injection hg with hg; omega)
            · have Hcon := Lib.hid hcon; clear hcon
              go_wp2_with (at_lookup; refine wpList_lookup_own_bool _ rfl _ _ 86 rfl 9 4 names_keyed Tryd.underlying86 Tryd.underlying4 (zero_bool _) (w.heap.size + 1) k _ rfl Hset1.out _ _ rfl Hkey.out _ Hat.out ?_; rw [Hcon.out])
              go_ret
              exact ⟨ret_bool (Hfa.out (by rw [Hrel.out, Hcon.out]; simp)).symm, hbel.alloc (by omega) _⟩
          · obtain rfl : k = len := by omega
            have hfin := Hv.out
            rw [hall] at hfin
            have Hfin := Lib.hid hfin; clear hfin hall
            go_wp2
            go_ret
            exact ⟨ret_bool Hfin.out.symm, hbel⟩

end Go.Proofs.YtbddchonhicpiaaDoor
