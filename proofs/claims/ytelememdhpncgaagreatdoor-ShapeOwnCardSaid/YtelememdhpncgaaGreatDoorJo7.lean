/-
  Texts joined: Valid, Parse, Close, Reg, Copyrel.
-/
import Derived.Test.YtelememdhpncgaaGreatDoorJo6
import Derived.Maps.Own
import Derived.Maps.OwnOps
import Derived.Maps.OwnSet
import Derived.Maps.Views
import Derived.StringKeys
import Derived.Defers
import Derived.Recover
import Derived.Laws.Pointers
import Derived.Test.YtelememdhpncgaaGreatDoorCards
import Derived.Test.YtelememdhpncgaaGreatDoorTie
import Derived.WalkKit
import Derived.ProofKit
import Derived.OpenShut
import Derived.Deep.DeepHandedRow
import Derived.Deep.DeepWitnessRowRef
import Derived.Stop.LaidErr
import Derived.Lay
import Derived.Carry
import Derived.SizedLaws
import Derived.ChangeSlices
import Derived.Lib.SmallJoins
import Derived.Test.YtelememdhpncgaaGreatDoorJo1
import Derived.Orders
import Derived.Test.YtelememdhpncgaaGreatDoorJo4
import Derived.Test.YtelememdhpncgaaGreatDoorJo5
import Derived.Deep.RegionLaw

/-
  Walks: shape.Valid, the reference's Valid.
-/
namespace Go.Proofs.YtelememdhpncgaaGreatDoor
open Go.RowKit
open Go.Maps (Keyed)
open Go.ChangeMaps Go.MapKept

/-! ### a set of names: map[string]bool, made by the call -/

theorem plainElem_bool_inv {H : Type} {P : Program} {e : TypeId} (he : P.underlying e = some .bool) {v : Value} {z : DataW H × List MemPlace} (h : plainElem P e v = some z) : ∃ x, v = .bool x ∧ z = (.lit (.bool x), []) := by
  unfold plainElem at h
  rw [he] at h
  cases v <;> simp at h
  exact ⟨_, rfl, h.symm⟩

theorem wpList_lookup_own_bool {H : Type} {P : Program} (w : World) {ops : Array Oper} {rest : List Oper} {o : Oper} {a : Act} {Q : Exit → Act → World → Prop}
    (hg : o.guard = none) (m x : Operand) (t : TypeId) (hop : o.op = Op.lookup t m x false)
    (k e : TypeId) (K : Keyed P k) (ht : P.underlying t = some (.map k e)) (he : P.underlying e = some .bool) (hz : (zeroValue e).run P w = .ok (.bool false) w) (b n : Nat) (D : DataW H)
    (hm : a.eval m = .map (some b)) (hown : w.ownsMap P k (plainElem P e) b n D) (key : Value) (kl : Lit) (hx : a.eval x = key) (hkey : keyOf P k key = some kl) (c : Bool)
    (hat : D.atKey kl (.lit (.bool false)) = .lit (.bool c))
    (hK : wpList P ops Q rest (a.put o.dst (.bool c)) w) :
    wpList P ops Q (o :: rest) a w := by
  refine wpList_plain hg fun K' hK' => ?_
  obtain ⟨v, ps, hrun, hv⟩ := hown.lookup K ht hz (plainElem_bool he false) hkey
  obtain ⟨c', rfl, hc⟩ := plainElem_bool_inv he hv
  simp only [Prod.mk.injEq] at hc
  have e1 : c' = c := by
    have := hc.1.symm.trans hat
    injection this with this
    injection this
  subst e1
  unfold Oper.wp
  simp [execOp, hop, hm, hx, hrun, Result.andThen]
  exact hK' _ _ hK

/-- The datum of a set of names. -/
def nameSet (l : List (List UInt8)) : DataW Unit := l.foldl (fun D s => D.put (.string s) (.lit (.bool true))) (.map [])
theorem nameSet_snoc (l : List (List UInt8)) (s : List UInt8) : nameSet (l ++ [s]) = (nameSet l).put (.string s) (.lit (.bool true)) := by
  unfold nameSet; rw [List.foldl_append]; rfl

theorem fold_at (s : List UInt8) : ∀ (l : List (List UInt8)) (D : DataW Unit) (c : Bool), Go.Maps.IsMap D → D.atKey (.string s) (.lit (.bool false)) = .lit (.bool c) →
    (l.foldl (fun D s => D.put (.string s) (.lit (.bool true))) D).atKey (.string s) (.lit (.bool false)) = .lit (.bool (c || l.contains s))
  | [], D, c, _, h => by simpa using h
  | x :: l, D, c, hm, h => by
    rw [List.foldl_cons, fold_at s l _ (c || (x == s)) (hm.put _ _) ?_]
    · congr 2
      rw [List.contains_cons, Bool.or_assoc]
      congr 2
      exact Bool.eq_iff_iff.2 ⟨fun h => by simp at h; simp [h], fun h => by simp at h; simp [h]⟩
    · by_cases hx : x = s
      · subst hx
        rw [Go.Maps.atKey_put_same hm (by trivial)]
        simp
      · rw [Go.Maps.atKey_put_other (by intro e; injection e with e; exact hx e.symm), h]
        simp [hx]
theorem nameSet_at (l : List (List UInt8)) (s : List UInt8) : (nameSet l).atKey (.string s) (.lit (.bool false)) = .lit (.bool (l.contains s)) := by
  have := fold_at s l (.map []) false Go.Maps.isMap_empty rfl
  simpa [nameSet] using this

theorem names_keyed : Keyed Tryz.prog 9 := Go.Maps.string_keyed Tryz.underlying9
theorem zero_bool (w : World) : (zeroValue 4).run Tryz.prog w = .ok (.bool false) w := by kernel_rfl

/-- The map in block b holds just these names, each true. -/
def NameSet (w : World) (b n : Nat) (l : List (List UInt8)) : Prop := w.ownsMap Tryz.prog 9 (plainElem Tryz.prog 4) b n (nameSet l)

theorem NameSet.made (w : World) : NameSet (w.alloc (.map #[] 0)) w.heap.size 0 [] := World.ownsMap_made _ _ _ _
theorem NameSet.below {w w' : World} {B b n : Nat} {l : List (List UInt8)} (h : NameSet w b n l) (hb : Below B w w') (hB : b < B) : NameSet w' b n l := by
  obtain ⟨es, clock, h1, h2⟩ := h
  exact ⟨es, clock, (hb.block b hB).trans h1, h2⟩

set_option maxRecDepth 100000 in
set_option maxHeartbeats 400000 in
theorem valid_any (size : Int) (v : Value) (rs : List Sh.Rel) (w : World) (B : Nat) (hB : B ≤ w.heap.size) (h : Rels w B v rs) :
    Calls Tryz.prog 31 #[.agg #[.int .i64 size, v]] w fun e w' => e = .returned (.bool (Sh.validB ⟨size, rs⟩)) ∧ Below w.heap.size w w' := by
  have h' := h
  obtain ⟨A, len, c, rfl, hlen, hmax, -⟩ := h'
  have hdef : Sh.validB ⟨size, rs⟩ = (decide (1 ≤ size) && decide (size ≤ 64) && decide (len ≤ 8) && (List.range len).all (Sh.relAt size rs)) := by rw [hlen]; rfl
  have Hlen := Lib.hid hlen; clear hlen
  by_cases h1 : size < 1
  · have hv : Sh.validB ⟨size, rs⟩ = false := by rw [hdef, decide_eq_false (by omega)]; simp
    have Hv := Lib.hid hv; clear hv hdef
    go_enter Tryz.func31, Tryz.ntmps31
    go_wp2
    go_ret
    exact ⟨ret_bool Hv.out.symm, (Below.refl _ _).alloc (Nat.le_refl _) _⟩
  · by_cases h2 : 64 < size
    · have hv : Sh.validB ⟨size, rs⟩ = false := by rw [hdef, decide_eq_false (show ¬ size ≤ 64 by omega)]; simp
      have Hv := Lib.hid hv; clear hv hdef
      go_enter Tryz.func31, Tryz.ntmps31
      go_wp2
      go_ret
      exact ⟨ret_bool Hv.out.symm, (Below.refl _ _).alloc (Nat.le_refl _) _⟩
    · by_cases h3 : 8 < len
      · have hv : Sh.validB ⟨size, rs⟩ = false := by rw [hdef, decide_eq_false (show ¬ len ≤ 8 by omega)]; simp
        have Hv := Lib.hid hv; clear hv hdef
        go_enter Tryz.func31, Tryz.ntmps31
        go_wp2
        go_ret
        exact ⟨ret_bool Hv.out.symm, (Below.refl _ _).alloc (Nat.le_refl _) _⟩
      · have hv : Sh.validB ⟨size, rs⟩ = (List.range len).all (Sh.relAt size rs) := by rw [hdef, decide_eq_true (by omega), decide_eq_true (by omega), decide_eq_true (by omega)]; simp
        have Hv := Lib.hid hv; clear hv hdef
        have hmm := @run_makeMap Tryz.prog
        go_enter Tryz.func31, Tryz.ntmps31
        go_wp2
        go_loopw [24] (fun i wr => ∃ k : Nat, k ≤ len ∧ i = .int .i64 k ∧ (List.range k).all (Sh.relAt size rs) = true ∧ Blk wr w.heap.size 24 #[.int .i64 size, .slice A len c] ∧
          NameSet wr (w.heap.size + 1) k ((rs.take k).map (·.name.toList)) ∧ Below w.heap.size w wr ∧ w.heap.size + 2 ≤ wr.heap.size) (fun i _ => len - (intOf i).toNat)
        case atStart =>
          refine ⟨0, Nat.zero_le _, rfl, by simp, (Blk.new w _ _).alloc _, ?_, ((Below.refl _ _).alloc (Nat.le_refl _) _).alloc (by simp) _, by simp⟩
          have := NameSet.made (w.alloc (.cells #[.int .i64 size, .slice A len c] 24))
          simpa using this
        case round =>
          obtain ⟨k, hk, rfl, hall, hblk, hset, hbel, hsz⟩ := hrel
          have Hset := Lib.hid hset; clear hset
          by_cases hlt : k < len
          · obtain ⟨ad, u, r, rfl, hb, hr, hc0, hc1, hc2, htu, hrs⟩ := (h.below (hbel.mono hB)).at_ hlt
            have hs1 : wr.cell? ⟨w.heap.size, 1, none⟩ = some (.slice (some ad) len c) := hblk.cell 1
            have hs0 : wr.cell? ⟨w.heap.size, 0, none⟩ = some (.int .i64 size) := hblk.cell 0
            have Hall := Lib.hid hall; clear hall
            have Hr := Lib.hid hr; clear hr
            have htu' := htu
            obtain ⟨A2, n2, c2, rfl, -, -, -⟩ := htu'
            have hkey : keyOf Tryz.prog 9 (.string r.name) = some (.string r.name.data.toList) := Go.WideMaps.keyOf_string_mk Tryz.underlying9 (by unfold maxLen; omega)
            have Hkey := Lib.hid hkey; clear hkey
            have hat := nameSet_at ((rs.take k).map (·.name.toList)) r.name.data.toList
            have Hat := Lib.hid hat; clear hat
            have hrel : Sh.relAt size rs k = (Sh.relB size r && !((rs.take k).map (·.name.toList)).contains r.name.toList) := by unfold Sh.relAt; rw [Hr.out]
            rw [ByteArray.toList_eq r.name] at hrel
            have hfalse : Sh.relAt size rs k = false → Sh.validB ⟨size, rs⟩ = false := fun hp => by
              rw [Hv.out]; exact Sh.range_all_false _ hlt hp
            have hsucc := Sh.range_all_succ (Sh.relAt size rs) k
            rw [Hall.out, Bool.true_and] at hsucc
            have hsn : (rs.take (k + 1)).map (·.name.toList) = (rs.take k).map (·.name.toList) ++ [r.name.data.toList] := by
              have hl : k < rs.length := by have := Hlen.out; omega
              have hr' := Hr.out
              rw [List.getElem?_eq_getElem hl] at hr'
              injection hr' with hr'
              rw [List.take_succ_eq_append_getElem hl, List.map_append, hr', ← ByteArray.toList_eq]
              rfl
            have Hset0 := Hset.out.below (Below.alloc (Below.refl wr.heap.size _) (Nat.le_refl _) (.cells #[.string r.name, .int .i64 r.arity, .slice A2 n2 c2] 57)) (by omega)
            have Hset1 := Lib.hid Hset0; clear Hset0
            have htu1 : Tups (wr.alloc (.cells #[.string r.name, .int .i64 r.arity, .slice A2 n2 c2] 57)) B (.slice A2 n2 c2) r.tuples := htu.below (Below.alloc (Below.refl _ _) (by omega) _)
            have hs0' : (wr.alloc (.cells #[.string r.name, .int .i64 r.arity, .slice A2 n2 c2] 57)).cell? ⟨w.heap.size, 0, none⟩ = some (.int .i64 size) :=
              ((Below.alloc (Below.refl wr.heap.size _) (Nat.le_refl _) _).cell (p := ⟨w.heap.size, 0, none⟩) (by simp; omega)).trans hs0
            have Hrel := Lib.hid hrel; clear hrel
            have Hfa := Lib.hid hfalse; clear hfalse
            have Hsucc := Lib.hid hsucc; clear hsucc
            have Hsn := Lib.hid hsn; clear hsn
            cases hcon : ((rs.take k).map (·.name.toList)).contains r.name.data.toList
            · have Hcon := Lib.hid hcon; clear hcon
              cases hrb : Sh.relB size r
              · have Hrb := Lib.hid hrb; clear hrb
                go_wp2_with (first
                  | (at_lookup; refine wpList_lookup_own_bool _ rfl _ _ 80 rfl 9 4 names_keyed Tryz.underlying80 Tryz.underlying4 (zero_bool _) (w.heap.size + 1) k _ rfl Hset1.out _ _ rfl Hkey.out _ Hat.out ?_; rw [Hcon.out])
                  | (go_at_call 53; refine (validRel_any r _ _ _ B (by simp; omega) htu1 hrs).mono ?_; rw [Hrb.out]; rintro e w1 ⟨rfl, hb1⟩))
                go_ret
                exact ⟨ret_bool (Hfa.out (by rw [Hrel.out, Hrb.out]; rfl)).symm, (hbel.alloc (by omega) _).trans (hb1.mono (by simp; omega))⟩
              · have Hrb := Lib.hid hrb; clear hrb
                go_wp2_with (first
                  | (at_lookup; refine wpList_lookup_own_bool _ rfl _ _ 80 rfl 9 4 names_keyed Tryz.underlying80 Tryz.underlying4 (zero_bool _) (w.heap.size + 1) k _ rfl Hset1.out _ _ rfl Hkey.out _ Hat.out ?_; rw [Hcon.out])
                  | (go_at_call 53
                     refine (validRel_any r _ _ _ B (by simp; omega) htu1 hrs).mono ?_
                     rw [Hrb.out]
                     rintro e w1 ⟨rfl, hb1⟩
                     have hbox := (Blk.new wr 57 #[.string r.name, .int .i64 r.arity, .slice A2 n2 c2]).below hb1 (by simp)
                     have hn1 : w1.cell? ⟨wr.heap.size, 0, none⟩ = some (.string r.name) := hbox.cell 0
                     have hset1 := Hset1.out.below hb1 (by simp; omega)
                     have Hset2 := Lib.hid hset1; clear hset1
                     have hbw1 : Below wr.heap.size wr w1 := ((Below.refl _ _).alloc (Nat.le_refl _) _).trans (hb1.mono (by simp))
                     clear hb1 hbox)
                  | (at_mapUpdate; refine wpList_mapUpdate_own _ rfl _ _ _ 80 rfl 9 4 names_keyed Tryz.underlying80 _ (w.heap.size + 1) k _ rfl Hset2.out (by unfold maxLen; omega) _ _ _ rfl rfl Hkey.out _ [] (plainElem_bool Tryz.underlying4 true) ?_; intro w2 hown2 hgrow2))
                have hb2 : Below w.heap.size w w1 := hbel.trans (hbw1.mono (by omega))
                have hsz1 := hbw1.size
                have hsz2 := hgrow2.size
                refine ⟨⟨k + 1, by omega, by go_num, ?_, ?_, ?_, ?_, by omega⟩, by simp [intOf]; omega⟩
                · rw [Hsucc.out, Hrel.out, Hrb.out, Hcon.out]; rfl
                · exact (hblk.below hbw1 (by omega)).grown hgrow2 (by simp)
                · rw [Hsn.out]; unfold NameSet; rw [nameSet_snoc]; exact hown2
                · exact hb2.grown hgrow2 (by omega) (by intro g hg; injection hg with hg; omega)
            · have Hcon := Lib.hid hcon; clear hcon
              go_wp2_with (at_lookup; refine wpList_lookup_own_bool _ rfl _ _ 80 rfl 9 4 names_keyed Tryz.underlying80 Tryz.underlying4 (zero_bool _) (w.heap.size + 1) k _ rfl Hset1.out _ _ rfl Hkey.out _ Hat.out ?_; rw [Hcon.out])
              go_ret
              exact ⟨ret_bool (Hfa.out (by rw [Hrel.out, Hcon.out]; simp)).symm, hbel.alloc (by omega) _⟩
          · obtain rfl : k = len := by omega
            have hfin := Hv.out
            rw [hall] at hfin
            have Hfin := Lib.hid hfin; clear hfin hall
            go_wp2
            go_ret
            exact ⟨ret_bool Hfin.out.symm, hbel⟩

end Go.Proofs.YtelememdhpncgaaGreatDoor

/-
  Walks: shape.Parse, its deferred literal.
-/
namespace Go.Proofs.YtelememdhpncgaaGreatDoor
open Go.RowKit

theorem catch_panicking (a b : Nat) (x0 x1 y : Value) (older : List PanicEntry) (w : World) (h0 : w.cell? ⟨a, 0, none⟩ = some x0) (h1 : w.cell? ⟨a, 1, none⟩ = some x1) (h2 : w.cell? ⟨b, 0, none⟩ = some y)
    (f0 : w.frozen? ⟨a, 0, none⟩ = false) (f1 : w.frozen? ⟨a, 1, none⟩ = false) (f2 : w.frozen? ⟨b, 0, none⟩ = false) (hab : a ≠ b) :
    CallsD Tryz.prog 47 #[.pointer (some ⟨a, 0, none⟩), .pointer (some ⟨b, 0, none⟩)] (.panicking ({ v := .iface 28 (.int .i64 3), recovered := false } :: older)) w fun e u' w' =>
      e = .returned (.tuple #[]) ∧ u' = .panicking ({ v := .iface 28 (.int .i64 3), recovered := true } :: older) ∧
      w' = ((w.setCell ⟨a, 0, none⟩ (.int .i64 0)).setCell ⟨a, 1, none⟩ (.slice none 0 0)).setCell ⟨b, 0, none⟩ (.int .i64 3) := by
  refine callsD_of_wpS Tryz.func47 rfl fun c₀ cs hu => ?_
  apply wpS_seq
  apply wpS_region
  simp [wpOpsS, go_sem, recoverD, hu, Tryz.ntmps47, Exit.thenS]
  refine wpS_cond (t := true) (by simp [Act.eval, Array.replicate]) ?_
  simp only [if_true]
  apply wpS_region
  simp [wpOpsS, go_sem, h0, h1, h2, f0, f1, f2, hab, Ne.symm hab, bodyPostS, results, Tryz.results47]

theorem catch_idle (a b : Nat) (w : World) :
    CallsD Tryz.prog 47 #[.pointer (some ⟨a, 0, none⟩), .pointer (some ⟨b, 0, none⟩)] .returning w fun e u' w' => e = .returned (.tuple #[]) ∧ u' = .returning ∧ w' = w := by
  refine callsD_of_wpS Tryz.func47 rfl fun c₀ cs hu => ?_
  apply wpS_seq
  apply wpS_region
  simp [wpOpsS, go_sem, recoverD, hu, Tryz.ntmps47, Exit.thenS]
  refine wpS_cond (t := false) (by simp [Act.eval, Array.replicate]) ?_
  simp only [Bool.false_eq_true, if_false]
  refine wpS_of_wp (wp_skip ?_)
  cases c₀
  simp_all [bodyPostS, results, Tryz.results47]

/-- What Parse leaves: the structure, of the call's own memory, or the error. -/
def ParsePost (text : ByteArray) (w : World) (e : Ending) (w' : World) : Prop :=
  Below w.heap.size w w' ∧ match parseP text.toList with
    | some s => ∃ u, e = .returned (.tuple #[.agg #[.int .i64 s.size, u], .int .i64 0]) ∧ NRels w' w.heap.size u s.rels
    | none => e = .returned (.tuple #[.agg #[.int .i64 0, .slice none 0 0], .int .i64 3])
theorem ParsePost.bad {text : ByteArray} {w w' : World} (h : parseP text.toList = none) (hb : Below w.heap.size w w') : ParsePost text w (.returned (.tuple #[.agg #[.int .i64 0, .slice none 0 0], .int .i64 3])) w' :=
  ⟨hb, by rw [h]⟩
theorem ParsePost.ok {text : ByteArray} {w w' : World} {s : Sh.Str} {u : Value} (h : parseP text.toList = some s) (hb : Below w.heap.size w w') (hu : NRels w' w.heap.size u s.rels) :
    ParsePost text w (.returned (.tuple #[.agg #[.int .i64 s.size, u], .int .i64 0])) w' :=
  ⟨hb, by rw [h]; exact ⟨u, rfl, hu⟩⟩

theorem NRels.shape {w : World} {L : Nat} {v : Value} {rs : List Sh.Rel} (h : NRels w L v rs) : ∃ A n c, v = .slice A n c := by obtain ⟨A, n, c, h, -⟩ := h; exact ⟨A, n, c, h⟩
theorem Blk.cell0 {w : World} {g : Nat} {t : TypeId} {x : Value} {xs : List Value} (h : Blk w g t (List.toArray (x :: xs))) : w.cell? ⟨g, 0, none⟩ = some x := (Blk.cell h 0).trans (by simp)
theorem Blk.cell1 {w : World} {g : Nat} {t : TypeId} {x y : Value} {xs : List Value} (h : Blk w g t (List.toArray (x :: y :: xs))) : w.cell? ⟨g, 1, none⟩ = some y := (Blk.cell h 1).trans (by simp)
theorem StrPost.none_ {R : Nat} {text : ByteArray} {w w' : World} {e : Ending} (h : StrPost R 0 text w e w') (ht : strP text.toList = none) : w.grownBy w' (some R) ∧ e = .panicked errChain := by
  obtain ⟨hg, h⟩ := h
  rw [List.drop_zero, ht] at h
  exact ⟨hg, h⟩
theorem StrPost.some_ {R : Nat} {text : ByteArray} {w w' : World} {e : Ending} {s : Sh.Str} (h : StrPost R 0 text w e w') (ht : strP text.toList = some s) :
    w.grownBy w' (some R) ∧ ∃ u, e = .returned (.agg #[.int .i64 s.size, u]) ∧ NRels w' w.heap.size u s.rels := by
  obtain ⟨hg, h⟩ := h
  rw [List.drop_zero, ht] at h
  exact ⟨hg, h⟩

/-- The world after Parse's boxes. -/
abbrev boxed (w : World) (text : ByteArray) : World :=
  ((w.alloc (.cells #[.int .i64 0, .slice none 0 0] 24)).alloc (.cells #[.int .i64 0] 28)).alloc (.cells #[.string text, .int .i64 0] 87)

set_option maxRecDepth 100000 in
set_option maxHeartbeats 400000 in
theorem parse_any (text : ByteArray) (w : World) (hs : text.size ≤ 140737488351232) (hv : Vars w) (hw : 5 ≤ w.heap.size) :
    Calls Tryz.prog 23 #[.string text] w (ParsePost text w) := by
  have hmf : ∀ (fn : Fn) (first cap : Array Value) (w : World), (Instr.makeFunc fn first cap).run Tryz.prog w = .ok (.func fn first cap) w := fun _ _ _ _ => rfl
  by_cases hbig : 40000 < text.size
  · have hbad : parseP text.toList = none := by unfold parseP; rw [if_pos (by rw [length_bytes]; exact hbig)]
    have Hbad := Lib.hid hbad; clear hbad
    go_enter_defers Tryz.func23, Tryz.ntmps23
    go_wp2
    refine ⟨.tuple #[.agg #[.int .i64 0, .slice none 0 0], .int .i64 3], ?_, .bad Hbad.out (((Below.refl _ _).alloc (Nat.le_refl _) _).alloc (by simp) _)⟩
    simp [results, Tryz.results23, Tryz.f23, go_sem]
  · have hnb : ¬ 40000 < text.toList.length := by rw [length_bytes]; exact hbig
    have hcall : ∀ W : World, Rdr W (w.heap.size + 2) text 0 → Vars W → w.heap.size + 2 < W.heap.size → _ := fun W h1 h2 h3 => structure_any (w.heap.size + 2) 0 text W h1 (by omega) (by omega) h2 (by omega) (by omega) h3
    have hb0 : Blk (boxed w text) w.heap.size 24 #[.int .i64 0, .slice none 0 0] := Blk.alloc (Blk.alloc (Blk.new w _ _) _) _
    have hb1 : Blk (boxed w text) (w.heap.size + 1) 28 #[.int .i64 0] := by
      have h := Blk.new (w.alloc (.cells #[.int .i64 0, .slice none 0 0] 24)) 28 #[.int .i64 0]
      rw [World.size_alloc] at h
      exact Blk.alloc h _
    have hb2 : Rdr (boxed w text) (w.heap.size + 2) text 0 := by
      have h := Blk.new ((w.alloc (.cells #[.int .i64 0, .slice none 0 0] 24)).alloc (.cells #[.int .i64 0] 28)) 87 #[.string text, .int .i64 0]
      rw [World.size_alloc, World.size_alloc] at h
      exact h
    have hbel : Below w.heap.size w (boxed w text) := (((Below.refl _ _).alloc (Nat.le_refl _) _).alloc (by simp) _).alloc (by simp; omega) _
    have hbs : (boxed w text).heap.size = w.heap.size + 3 := by simp [boxed]
    have hbv : Vars (boxed w text) := hv.below hbel hw
    have Hcall := Lib.hid hcall; clear hcall
    have Hb0 := Lib.hid hb0; clear hb0
    have Hb1 := Lib.hid hb1; clear hb1
    have Hb2 := Lib.hid hb2; clear hb2
    have Hbel := Lib.hid hbel; clear hbel
    have Hbs := Lib.hid hbs; clear hbs
    have Hbv := Lib.hid hbv; clear hbv
    cases hst : strP text.toList with
    | none =>
      have hbad : parseP text.toList = none := by unfold parseP; rw [if_neg hnb, hst]
      have Hbad := Lib.hid hbad; clear hbad
      have Hst := Lib.hid hst; clear hst
      go_enter_defers Tryz.func23, Tryz.ntmps23
      go_wp2_with (go_at_call 48; refine (Hcall.out _ Hb2.out Hbv.out (Nat.lt_of_lt_of_eq (by omega) Hbs.out.symm)).mono ?_; rintro e w1 hp; obtain ⟨hg1, rfl⟩ := hp.none_ Hst.out)
      have k0 := Blk.grown Hb0.out hg1 (by simp)
      have k1 := Blk.grown Hb1.out hg1 (by simp)
      have bel1 : Below w.heap.size w w1 := Hbel.out.grown hg1 (Hbs.out ▸ Nat.le_add_right _ _) (by rintro k ⟨⟩; omega)
      refine leaves_cons (f := 47) (args := #[.pointer (some ⟨w.heap.size, 0, none⟩), .pointer (some ⟨w.heap.size + 1, 0, none⟩)]) (by simp) (by simp [go_sem]) ?_
      refine (catch_panicking w.heap.size (w.heap.size + 1) _ _ _ [] _ k0.cell0 k0.cell1 k1.cell0 (Blk.frozen k0 0) (Blk.frozen k0 1) (Blk.frozen k1 0) (by omega)).mono ?_
      rintro e u' w'' ⟨rfl, rfl, rfl⟩
      have z0 := ((Blk.set_ k0 0 (.int .i64 0)).set_ 1 (.slice none 0 0)).far (p := ⟨w.heap.size + 1, 0, none⟩) (by simp) (.int .i64 3)
      have z1 := ((k1.far (p := ⟨w.heap.size, 0, none⟩) (by simp) (.int .i64 0)).far (p := ⟨w.heap.size, 1, none⟩) (by simp) (.slice none 0 0)).set_ 0 (.int .i64 3)
      have c0 := Blk.cell z0 0
      have c1 := Blk.cell z0 1
      have c2 := Blk.cell z1 0
      simp at c0 c1 c2
      have bel2 : Below w.heap.size w (((w1.setCell ⟨w.heap.size, 0, none⟩ (.int .i64 0)).setCell ⟨w.heap.size, 1, none⟩ (.slice none 0 0)).setCell ⟨w.heap.size + 1, 0, none⟩ (.int .i64 3)) := ((bel1.setCell (Nat.le_refl _) _).setCell (Nat.le_refl _) _).setCell (Nat.le_succ _) _
      have hpost := ParsePost.bad Hbad.out bel2
      have Hpost := Lib.hid hpost; clear hpost
      refine ⟨_, ?_, Hpost.out⟩
      simp [results, Tryz.results23, Tryz.f23, go_sem, c0, c1, c2]
    | some s =>
      cases hvb : Sh.validB s
      · have hbad : parseP text.toList = none := by unfold parseP; rw [if_neg hnb, hst]; simp [hvb]
        have Hbad := Lib.hid hbad; clear hbad
        have Hst := Lib.hid hst; clear hst
        have Hvb := Lib.hid hvb; clear hvb
        go_enter_defers Tryz.func23, Tryz.ntmps23
        go_wp2_with (first
          | (go_at_call 48
             refine (Hcall.out _ Hb2.out Hbv.out (Nat.lt_of_lt_of_eq (by omega) Hbs.out.symm)).mono ?_
             rintro e w1 hp
             obtain ⟨hg1, u, rfl, hu1⟩ := hp.some_ Hst.out
             clear hp
             obtain ⟨UA, UN, UC, rfl⟩ := hu1.shape
             have k0 := Blk.grown Hb0.out hg1 (by simp)
             have k1 := Blk.grown Hb1.out hg1 (by simp)
             have bel1 : Below w.heap.size w w1 := Hbel.out.grown hg1 (Hbs.out ▸ Nat.le_add_right _ _) (by rintro k ⟨⟩; omega)
             have f00 := Blk.frozen k0 0
             have f01 := Blk.frozen k0 1
             have d00 := k0.cell0
             have d01 := k0.cell1
             have f02 : ∀ v, (w1.setCell ⟨w.heap.size, 0, none⟩ v).frozen? ⟨w.heap.size, 1, none⟩ = false := fun v => Blk.frozen (Blk.set_ k0 0 v) 1
             have d02 : ∀ v, (w1.setCell ⟨w.heap.size, 0, none⟩ v).cell? ⟨w.heap.size, 1, none⟩ = some (.slice none 0 0) := fun v => (Blk.cell (Blk.set_ k0 0 v) 1).trans (by simp)
             have Hg1 := Lib.hid hg1; clear hg1
             have Hu1 := Lib.hid hu1; clear hu1
             have K0 := Lib.hid k0; clear k0
             have K1 := Lib.hid k1; clear k1
             have Bel1 := Lib.hid bel1; clear bel1)
          | (go_at_call 31
             have k02 := ((Blk.set_ K0.out 0 (.int .i64 s.size)).set_ 1 (.slice UA UN UC))
             have k12 := ((K1.out.far (p := ⟨w.heap.size, 0, none⟩) (by simp) (.int .i64 s.size)).far (p := ⟨w.heap.size, 1, none⟩) (by simp) (.slice UA UN UC))
             have bel2 := (Bel1.out.setCell (p := ⟨w.heap.size, 0, none⟩) (Nat.le_refl _) (.int .i64 s.size)).setCell (p := ⟨w.heap.size, 1, none⟩) (Nat.le_refl _) (.slice UA UN UC)
             have hu2 := (Hu1.out.keep (Keeps.setCell (p := ⟨w.heap.size, 0, none⟩) K0.out (by decide) (.int .i64 s.size))).keep (Keeps.setCell (p := ⟨w.heap.size, 1, none⟩) (Blk.set_ K0.out 0 (.int .i64 s.size)) (by decide) (.slice UA UN UC))
             clear f00 f01 d00 d01 f02 d02
             generalize ((w1.setCell ⟨w.heap.size, 0, none⟩ (.int .i64 s.size)).setCell ⟨w.heap.size, 1, none⟩ (.slice UA UN UC)) = w2 at k02 k12 bel2 hu2 ⊢
             simp at k02
             refine (valid_any s.size (.slice UA UN UC) s.rels w2 _ (Nat.le_refl _) hu2.rels).mono ?_
             rintro e w3 ⟨rfl, hb3⟩
             have k0 := Blk.below k02 hb3 (Blk.lt k02)
             have k1 := Blk.below k12 hb3 (Blk.lt k12)
             have bel3 := bel2.trans (hb3.mono bel2.size)
             have hu3 := hu2.keep (Keeps.of_below hb3)
             have hvb' : Sh.validB ⟨s.size, s.rels⟩ = false := Hvb.out
             rw [hvb']
             clear k02 k12 bel2 hu2 hb3 hvb'
             have f00 := Blk.frozen k0 0
             have d00 := k0.cell0
             have d01 := k0.cell1
             have f02 : ∀ v, (w3.setCell ⟨w.heap.size, 0, none⟩ v).frozen? ⟨w.heap.size, 1, none⟩ = false := fun v => Blk.frozen (Blk.set_ k0 0 v) 1
             have d02 : ∀ v, (w3.setCell ⟨w.heap.size, 0, none⟩ v).cell? ⟨w.heap.size, 1, none⟩ = some (.slice UA UN UC) := fun v => (Blk.cell (Blk.set_ k0 0 v) 1).trans (by simp)
             have f03 : ∀ v u, ((w3.setCell ⟨w.heap.size, 0, none⟩ v).setCell ⟨w.heap.size, 1, none⟩ u).frozen? ⟨w.heap.size + 1, 0, none⟩ = false := fun v u => Blk.frozen ((Blk.far k1 (p := ⟨w.heap.size, 0, none⟩) (by simp) v).far (p := ⟨w.heap.size, 1, none⟩) (by simp) u) 0
             have d03 : ∀ v u, ((w3.setCell ⟨w.heap.size, 0, none⟩ v).setCell ⟨w.heap.size, 1, none⟩ u).cell? ⟨w.heap.size + 1, 0, none⟩ = some (.int .i64 0) := fun v u => ((Blk.far k1 (p := ⟨w.heap.size, 0, none⟩) (by simp) v).far (p := ⟨w.heap.size, 1, none⟩) (by simp) u).cell0
             have Hu3 := Lib.hid hu3; clear hu3
             have K0 := Lib.hid k0; clear k0
             have K1 := Lib.hid k1; clear k1
             have Bel3 := Lib.hid bel3; clear bel3))
        have k0 := K0.out
        have k1 := K1.out
        have bel2 := Bel3.out
        refine leaves_cons (f := 47) (args := #[.pointer (some ⟨w.heap.size, 0, none⟩), .pointer (some ⟨w.heap.size + 1, 0, none⟩)]) (by simp) (by simp [go_sem]) ?_
        refine (catch_panicking w.heap.size (w.heap.size + 1) _ _ _ [] _ k0.cell0 k0.cell1 k1.cell0 (Blk.frozen k0 0) (Blk.frozen k0 1) (Blk.frozen k1 0) (by omega)).mono ?_
        rintro e u' w'' ⟨rfl, rfl, rfl⟩
        have z0 := ((Blk.set_ k0 0 (.int .i64 0)).set_ 1 (.slice none 0 0)).far (p := ⟨w.heap.size + 1, 0, none⟩) (by simp) (.int .i64 3)
        have z1 := ((k1.far (p := ⟨w.heap.size, 0, none⟩) (by simp) (.int .i64 0)).far (p := ⟨w.heap.size, 1, none⟩) (by simp) (.slice none 0 0)).set_ 0 (.int .i64 3)
        have c0 := Blk.cell z0 0
        have c1 := Blk.cell z0 1
        have c2 := Blk.cell z1 0
        simp at c0 c1 c2
        have bel3 := ((bel2.setCell (p := ⟨w.heap.size, 0, none⟩) (Nat.le_refl _) (.int .i64 0)).setCell (p := ⟨w.heap.size, 1, none⟩) (Nat.le_refl _) (.slice none 0 0)).setCell (p := ⟨w.heap.size + 1, 0, none⟩) (Nat.le_succ _) (.int .i64 3)
        have hpost := ParsePost.bad Hbad.out bel3
        have Hpost := Lib.hid hpost; clear hpost
        refine ⟨_, ?_, Hpost.out⟩
        simp [results, Tryz.results23, Tryz.f23, go_sem, c0, c1, c2]
      · have hgood : parseP text.toList = some s := by unfold parseP; rw [if_neg hnb, hst]; simp [hvb]
        have Hgood := Lib.hid hgood; clear hgood
        have Hst := Lib.hid hst; clear hst
        have Hvb := Lib.hid hvb; clear hvb
        go_enter_defers Tryz.func23, Tryz.ntmps23
        go_wp2_with (first
          | (go_at_call 48
             refine (Hcall.out _ Hb2.out Hbv.out (Nat.lt_of_lt_of_eq (by omega) Hbs.out.symm)).mono ?_
             rintro e w1 hp
             obtain ⟨hg1, u, rfl, hu1⟩ := hp.some_ Hst.out
             clear hp
             obtain ⟨UA, UN, UC, rfl⟩ := hu1.shape
             have k0 := Blk.grown Hb0.out hg1 (by simp)
             have k1 := Blk.grown Hb1.out hg1 (by simp)
             have bel1 : Below w.heap.size w w1 := Hbel.out.grown hg1 (Hbs.out ▸ Nat.le_add_right _ _) (by rintro k ⟨⟩; omega)
             have f00 := Blk.frozen k0 0
             have f01 := Blk.frozen k0 1
             have d00 := k0.cell0
             have d01 := k0.cell1
             have f02 : ∀ v, (w1.setCell ⟨w.heap.size, 0, none⟩ v).frozen? ⟨w.heap.size, 1, none⟩ = false := fun v => Blk.frozen (Blk.set_ k0 0 v) 1
             have d02 : ∀ v, (w1.setCell ⟨w.heap.size, 0, none⟩ v).cell? ⟨w.heap.size, 1, none⟩ = some (.slice none 0 0) := fun v => (Blk.cell (Blk.set_ k0 0 v) 1).trans (by simp)
             have Hg1 := Lib.hid hg1; clear hg1
             have Hu1 := Lib.hid hu1; clear hu1
             have K0 := Lib.hid k0; clear k0
             have K1 := Lib.hid k1; clear k1
             have Bel1 := Lib.hid bel1; clear bel1)
          | (go_at_call 31
             have k02 := ((Blk.set_ K0.out 0 (.int .i64 s.size)).set_ 1 (.slice UA UN UC))
             have k12 := ((K1.out.far (p := ⟨w.heap.size, 0, none⟩) (by simp) (.int .i64 s.size)).far (p := ⟨w.heap.size, 1, none⟩) (by simp) (.slice UA UN UC))
             have bel2 := (Bel1.out.setCell (p := ⟨w.heap.size, 0, none⟩) (Nat.le_refl _) (.int .i64 s.size)).setCell (p := ⟨w.heap.size, 1, none⟩) (Nat.le_refl _) (.slice UA UN UC)
             have hu2 := (Hu1.out.keep (Keeps.setCell (p := ⟨w.heap.size, 0, none⟩) K0.out (by decide) (.int .i64 s.size))).keep (Keeps.setCell (p := ⟨w.heap.size, 1, none⟩) (Blk.set_ K0.out 0 (.int .i64 s.size)) (by decide) (.slice UA UN UC))
             clear f00 f01 d00 d01 f02 d02
             generalize ((w1.setCell ⟨w.heap.size, 0, none⟩ (.int .i64 s.size)).setCell ⟨w.heap.size, 1, none⟩ (.slice UA UN UC)) = w2 at k02 k12 bel2 hu2 ⊢
             simp at k02
             refine (valid_any s.size (.slice UA UN UC) s.rels w2 _ (Nat.le_refl _) hu2.rels).mono ?_
             rintro e w3 ⟨rfl, hb3⟩
             have k0 := Blk.below k02 hb3 (Blk.lt k02)
             have k1 := Blk.below k12 hb3 (Blk.lt k12)
             have bel3 := bel2.trans (hb3.mono bel2.size)
             have hu3 := hu2.keep (Keeps.of_below hb3)
             have hvb' : Sh.validB ⟨s.size, s.rels⟩ = true := Hvb.out
             rw [hvb']
             clear k02 k12 bel2 hu2 hb3 hvb'
             have f00 := Blk.frozen k0 0
             have d00 := k0.cell0
             have d01 := k0.cell1
             have f02 : ∀ v, (w3.setCell ⟨w.heap.size, 0, none⟩ v).frozen? ⟨w.heap.size, 1, none⟩ = false := fun v => Blk.frozen (Blk.set_ k0 0 v) 1
             have d02 : ∀ v, (w3.setCell ⟨w.heap.size, 0, none⟩ v).cell? ⟨w.heap.size, 1, none⟩ = some (.slice UA UN UC) := fun v => (Blk.cell (Blk.set_ k0 0 v) 1).trans (by simp)
             have f03 : ∀ v u, ((w3.setCell ⟨w.heap.size, 0, none⟩ v).setCell ⟨w.heap.size, 1, none⟩ u).frozen? ⟨w.heap.size + 1, 0, none⟩ = false := fun v u => Blk.frozen ((Blk.far k1 (p := ⟨w.heap.size, 0, none⟩) (by simp) v).far (p := ⟨w.heap.size, 1, none⟩) (by simp) u) 0
             have d03 : ∀ v u, ((w3.setCell ⟨w.heap.size, 0, none⟩ v).setCell ⟨w.heap.size, 1, none⟩ u).cell? ⟨w.heap.size + 1, 0, none⟩ = some (.int .i64 0) := fun v u => ((Blk.far k1 (p := ⟨w.heap.size, 0, none⟩) (by simp) v).far (p := ⟨w.heap.size, 1, none⟩) (by simp) u).cell0
             have Hu3 := Lib.hid hu3; clear hu3
             have K0 := Lib.hid k0; clear k0
             have K1 := Lib.hid k1; clear k1
             have Bel3 := Lib.hid bel3; clear bel3))
        refine leaves_cons (f := 47) (args := #[.pointer (some ⟨w.heap.size, 0, none⟩), .pointer (some ⟨w.heap.size + 1, 0, none⟩)]) (by simp) (by simp [go_sem]) ?_
        refine (catch_idle w.heap.size (w.heap.size + 1) _).mono ?_
        rintro e u' w'' ⟨rfl, rfl, rfl⟩
        have k03 := ((Blk.set_ K0.out 0 (.int .i64 s.size)).set_ 1 (.slice UA UN UC))
        have k13 := ((K1.out.far (p := ⟨w.heap.size, 0, none⟩) (by simp) (.int .i64 s.size)).far (p := ⟨w.heap.size, 1, none⟩) (by simp) (.slice UA UN UC))
        have z0 := k03.far (p := ⟨w.heap.size + 1, 0, none⟩) (by simp) (.int .i64 0)
        have z1 := k13.set_ 0 (.int .i64 0)
        have c0 := Blk.cell z0 0
        have c1 := Blk.cell z0 1
        have c2 := Blk.cell z1 0
        simp at c0 c1 c2
        have bel4 := ((Bel3.out.setCell (p := ⟨w.heap.size, 0, none⟩) (Nat.le_refl _) (.int .i64 s.size)).setCell (p := ⟨w.heap.size, 1, none⟩) (Nat.le_refl _) (.slice UA UN UC)).setCell (p := ⟨w.heap.size + 1, 0, none⟩) (Nat.le_succ _) (.int .i64 0)
        have hu4 := ((Hu3.out.keep (Keeps.setCell (p := ⟨w.heap.size, 0, none⟩) K0.out (by decide) (.int .i64 s.size))).keep (Keeps.setCell (p := ⟨w.heap.size, 1, none⟩) (Blk.set_ K0.out 0 (.int .i64 s.size)) (by decide) (.slice UA UN UC))).keep (Keeps.setCell (p := ⟨w.heap.size + 1, 0, none⟩) k13 (by decide) (.int .i64 0))
        have hpost := ParsePost.ok Hgood.out bel4 (hu4.more (Hbs.out ▸ Nat.le_add_right _ _))
        have Hpost := Lib.hid hpost; clear hpost
        refine ⟨_, ?_, Hpost.out⟩
        simp [results, Tryz.results23, Tryz.f23, go_sem, c0, c1, c2]


end Go.Proofs.YtelememdhpncgaaGreatDoor

/-
  What closes a law of this seat: the listed variables' facts, the arguments as numbers and lists, the post-condition 'true, and every argument reads as it did', the witness's world.
-/
namespace Go.Proofs.YtelememdhpncgaaGreatDoor
open Go.ChangeShapes Go.WideShapes Go.ChangeAt Go.RowKit

theorem own : ownKnob Tryz.prog.godebug = none := by kernel_rfl
theorem laidOut : laidOutB Tryz.prog = true := by kernel_rfl
theorem star : "*" ++ "errors.errorString" = "*errors.errorString" := by decide
theorem rowErr (u : TypeId) (h : Tryz.prog.typeName? 3 u = some "*errors.errorString") : u = 151 :=
  typeName_ptr_named (nm := "errors.errorString") (by rw [star]; kernel_rfl) (by kernel_rfl) (by decide) u (by rw [star]; exact h)

def laidList : List (String × DataW Unit) := [("math/bits.deBruijn32tab", Rows.laid_math_bits_deBruijn32tab), ("math/bits.deBruijn64tab", Rows.laid_math_bits_deBruijn64tab), ("internal/strconv.uint64pow10", Rows.laid_internal_strconv_uint64pow10), ("strconv.ErrRange", Rows.laid_strconv_ErrRange), ("strconv.ErrSyntax", Rows.laid_strconv_ErrSyntax)]

theorem vars_of_laid {W : World} (h : laidMet Tryz.prog laidList W) : Vars W ∧ 5 ≤ W.heap.size := by
  have h5 := h.tail.tail.tail
  obtain ⟨a0, s0, hv0, -⟩ := laid_sentinel (g := 1) h5 (by kernel_rfl) (by kernel_rfl) Tryz.underlying119 rowErr Tryz.underlying151 Tryz.underlying153 rfl rfl Tryz.underlying9 (by kernel_rfl) (by kernel_rfl)
  obtain ⟨a1, s1, hv1, -⟩ := laid_sentinel (g := 0) h5.tail (by kernel_rfl) (by kernel_rfl) Tryz.underlying119 rowErr Tryz.underlying151 Tryz.underlying153 rfl rfl Tryz.underlying9 (by kernel_rfl) (by kernel_rfl)
  refine ⟨⟨⟨_, _, hv1⟩, ⟨_, _, hv0⟩⟩, ?_⟩
  obtain ⟨ps, ⟨g, t, cs, fuel, p, q, hg, -, hv, -⟩, -⟩ := h.tail
  unfold World.var? at hv
  rw [show Tryz.prog.globalNamed "math/bits.deBruijn64tab" = some 4 by kernel_rfl, Option.bind_some] at hv
  rcases Nat.lt_or_ge 4 W.heap.size with hz | hz
  · omega
  · rw [Array.getElem?_eq_none hz] at hv; cases hv

theorem cellLt {w : World} {a : Addr} {v : Value} (h : w.cell? a = some v) : a.block < w.heap.size := by
  rcases Nat.lt_or_ge a.block w.heap.size with h' | h'
  · exact h'
  · unfold World.cell? at h
    rw [Array.getElem?_eq_none h'] at h
    cases h

section
variable {H : Type} {enc : TypeId × Value → H} {W W' : World}

/-- Every argument reads as it did, where below the heap's old size nothing has turned. -/
theorem args_keep (hb : Below W.heap.size W W') (sp : Nat → Bool) : ∀ (ts : List TypeId) (vs : List Value) (ds : List (DataW H)) (p : List MemPlace), DataW.TrodAll enc Tryz.prog W 0 (fun _ => true) true ts vs ds p →
    (∀ t ∈ ts, Tryz.prog.readableRec t = true ∧ t < Tryz.prog.types.size) → (∀ x ∈ p, x.block < W.heap.size) → (∀ x ∈ p, sp x.block = true) → DataW.TrodAll enc Tryz.prog W' 0 sp true ts vs ds p
  | [], vs, ds, p, h, _, _, _ => by
    obtain ⟨rfl, rfl, rfl⟩ := trodAll_nil h
    exact trodAll_mk0
  | t :: ts, vs, ds, p, h, hr, hl, hs => by
    obtain ⟨v0, vs0, d0, ds0, p0, q0, rfl, rfl, rfl, h0, r0⟩ := trodAll_cons h
    have ht := hr t (List.mem_cons_self ..)
    exact trodAll_cons_mk (WideElems.Trod_stays laidOut ht.1 ht.2 h0 (fun x hx => hb.same (hl x (List.mem_append_left _ hx))) (fun x hx => hs x (List.mem_append_left _ hx)))
      (args_keep hb sp ts vs0 ds0 q0 r0 (fun u hu => hr u (List.mem_cons_of_mem _ hu)) (fun x hx => hl x (List.mem_append_right _ hx)) (fun x hx => hs x (List.mem_append_right _ hx)))

theorem trodVars_nil_mk {sp : Nat → Bool} : DataW.TrodVars enc Tryz.prog W' sp [] [] [] := rfl

set_option maxRecDepth 100000 in
/-- The post-condition of every row here. -/
theorem post_true {f : Func} {s : ChangeSpec} {apart fresh handsOn again : Bool} {args : Array Value} {ds gs : List (DataW H)} {before : List MemPlace}
    (hf : f.resultTypes = #[4]) (hv : s.vars = []) (hs : s.fn H (ds ++ gs) = { results := [.lit (.bool true)], args := ds })
    (hr : ∀ t ∈ f.params.toList, Tryz.prog.readableRec t = true ∧ t < Tryz.prog.types.size)
    (hW : DataW.Whole enc Tryz.prog f.params.toList s.vars apart W args.toList ds gs before) (hb : Below W.heap.size W W') :
    s.post enc Tryz.prog f apart fresh handsOn again W args (.bool true) W' := by
  have hlt : ∀ x ∈ before, x.block < W.heap.size := fun x hx => hW.lt x hx
  have hW' := hW
  obtain ⟨p, q, hA, hV, hpq, hz, hn⟩ := hW
  rw [hv] at hV
  obtain ⟨rfl, rfl⟩ := trodVars_none hV
  rw [List.append_nil] at hpq
  subst hpq
  have hret : ∀ (b : Nat) (sp : Nat → Bool) (hd : Bool), DataW.TrodAll enc Tryz.prog W' b sp hd f.resultTypes.toList ((Value.bool true).resultList f.resultTypes.size) (s.fn H (ds ++ [])).results [] := fun b sp hd => by
    rw [hf, hs]; exact trodAll_cons_mk (shut_bool Tryz.underlying4 _) trodAll_mk0
  have hin : ∀ sp : Nat → Bool, (∀ x ∈ before, sp x.block = true) → DataW.TrodAll enc Tryz.prog W' 0 sp true f.params.toList args.toList (s.fn H (ds ++ [])).args before := fun sp hsp => by
    rw [hs]; exact args_keep hb sp _ _ _ _ hA hr hlt hsp
  have hvr : ∀ sp : Nat → Bool, DataW.TrodVars enc Tryz.prog W' sp s.vars (s.fn H (ds ++ [])).vars [] := fun sp => by
    rw [hs, hv]; exact trodVars_nil_mk
  have hok : ∀ (j : Nat) (t : TypeId) (r : Value), f.resultTypes[j]? = some t → ((Value.bool true).resultList f.resultTypes.size)[j]? = some r → Value.okWide Tryz.prog W' .any 0 t r :=
by
    intro j t r hj hr'
    rw [hf] at hj hr'
    match j, hj, hr' with
    | 0, hj, hr' =>
      simp [Value.resultList] at hj hr'
      subst hj; subst hr'
      exact okWide_bool_mk Tryz.underlying4 _
    | j + 1, hj, _ => simp at hj
  refine ⟨ds, [], before, [], before, [], hW', hret _ _ _, hin _ (fun x hx => by simpa using hlt x hx), hvr _, World.keptBut_mono (fun x hx => ⟨hx, Or.inr (by simpa using hx)⟩) (hb.frame (· ∈ before)), fun _ => ?_⟩
  refine ⟨hok, _, _, ([] ++ before) ++ [], ⟨[] ++ before, [], trodAll_append (hin _ (fun _ _ => rfl)) (hret _ _ _), hvr _, rfl, ?_, ?_⟩, ?_⟩
  · intro b off hp
    have hp' : MemPlace.cell b off ∈ before := by simpa using hp
    rw [hb.frozen (hlt _ hp')]
    exact hz b off hp'
  · intro ha
    simpa using hn ha
  · intro x hx _
    simpa using hx

set_option maxRecDepth 100000 in
/-- An argument of type []int. -/
theorem ints_of_trod {v : Value} {d : DataW H} {p : List MemPlace} {r : Reach} {b0 : Nat} (hv : Value.okWide Tryz.prog W r b0 25 v) (h : DataW.Trod enc Tryz.prog W 0 (fun _ => true) true 25 v d p)
    (hz : ∀ es sp, d = .slice es sp → (es.length + sp.length) * 8 ≤ 140737488351232) :
    ∃ t : List Int, Ints W W.heap.size v t := by
  obtain ⟨fuel, hf⟩ := h
  obtain ⟨A, n, c, rfl⟩ := okWide_slice Tryz.underlying25 hv
  rcases open_ints Tryz.underlying25 Tryz.underlying3 (by kernel_rfl) hf with ⟨hcs, hx⟩ | ⟨ad, len, cap, zs, hcs, _, hl, _, hzs, hx, hcell, _⟩
  · simp [Value.cells] at hcs
    obtain ⟨rfl, rfl, rfl⟩ := hcs
    exact ⟨[], _, _, _, rfl, rfl, by omega, .none_⟩
  · simp [Value.cells] at hcs
    obtain ⟨rfl, rfl, rfl⟩ := hcs
    have hlz : n ≤ zs.length := by rw [hzs]; split <;> omega
    simp only [Prod.mk.injEq] at hx
    have hb := hz _ _ hx.1
    simp only [lits, List.length_map, List.length_take, List.length_drop] at hb
    refine ⟨zs.take n, _, _, _, rfl, by simp; omega, by omega, by simp; omega, fun hn => ⟨ad, rfl, ?_, fun j u hu => ?_⟩⟩
    · have h0 := hcell 0 (by omega)
      have := cellLt h0
      rw [block_of_add] at this
      exact this
    · rw [List.getElem?_map, List.getElem?_take] at hu
      split at hu
      · rename_i hj
        rw [hcell j (by omega), ← hu, List.getD_eq_getElem?_getD, List.getElem?_eq_getElem (by omega)]
        rfl
      · cases hu
end

end Go.Proofs.YtelememdhpncgaaGreatDoor

/-
  A law for regions that draw their order: an invariant over the set of what has been done. And an act some of whose slots are a function's values.
-/
namespace Go.Proofs.YtelememdhpncgaaGreatDoor
open Go.RowKit

theorem ready_nil {md : Region.Mode} {ops : Array Oper} {listed : Array Bool} (hs : listed.size = ops.size) (h : listed.toList.count false = 0) : Region.ready md ops listed = [] := by
  unfold Region.ready
  rw [List.filter_eq_nil_iff]
  intro i hi
  have hi' : i < listed.size := by rw [hs]; exact List.mem_range.1 hi
  have : listed[i] = true := by
    cases hb : listed[i] with
    | true => rfl
    | false =>
      have hm : false ∈ listed.toList := by rw [← hb]; exact Array.getElem_mem_toList hi'
      have := List.count_pos_iff.2 hm
      omega
  simp [Array.getD, hi', this]
theorem ready_at {md : Region.Mode} {ops : Array Oper} {listed : Array Bool} {i : Nat} (h : i ∈ Region.ready md ops listed) : i < ops.size ∧ listed.getD i true = false ∧ ∃ o, ops[i]? = some o ∧ ∀ e ∈ o.after, Region.binds md e = true → listed.getD e.on false = true := by
  unfold Region.ready at h
  rw [List.mem_filter] at h
  obtain ⟨h1, h2⟩ := h
  have h1 := List.mem_range.1 h1
  simp only [Bool.and_eq_true, Bool.not_eq_true'] at h2
  refine ⟨h1, h2.1, ops[i], Array.getElem?_eq_getElem h1, fun e he hb => ?_⟩
  have h3 := h2.2
  rw [Array.getElem?_eq_getElem h1] at h3
  simp only [Option.map_some, Option.getD_some] at h3
  have := (Array.all_eq_true_iff_forall_mem.1 h3) e he
  simpa [hb] using this

/-- An invariant over the operations done carries through every order. -/
theorem wpAny_inv {P : Program} {md : Region.Mode} {ops : Array Oper} {Q : Exit → Act → World → Prop} {I : Array Bool → Act → World → Prop}
    (hstep : ∀ (listed : Array Bool) (a : Act) (w : World) (i : Nat), listed.size = ops.size → i ∈ Region.ready md ops listed → I listed a w → wpOp P ops Q i (I (listed.setIfInBounds i true)) a w)
    (hend : ∀ (listed : Array Bool) (a : Act) (w : World), listed.size = ops.size → Region.ready md ops listed = [] → I listed a w → Q .normal a w) :
    ∀ (fuel : Nat) (listed : Array Bool) (a : Act) (w : World), listed.size = ops.size → listed.toList.count false ≤ fuel → I listed a w → wpAny P md ops Q fuel listed a w
  | 0, listed, a, w, hs, hc, hI => by
    have hr := ready_nil (md := md) hs (by omega)
    exact ⟨hr, hend listed a w hs hr hI⟩
  | fuel + 1, listed, a, w, hs, hc, hI => by
    refine ⟨fun hr => hend listed a w hs hr hI, fun i hi => ?_⟩
    refine wpOp_mono (fun a' w' h => ?_) (hstep listed a w i hs hi hI)
    refine wpAny_inv hstep hend fuel _ a' w' (by simpa using hs) ?_ h
    obtain ⟨h1, h2, -⟩ := ready_at hi
    have hi' : i < listed.size := by omega
    have hf : listed[i] = false := by simpa [Array.getD, hi'] using h2
    have hset : (listed.setIfInBounds i true).toList.count false + 1 = listed.toList.count false := by
      rw [Array.toList_setIfInBounds]
      have hm : listed.toList[i]'(by simpa using hi') = false := by simpa using hf
      have hq := List.count_set (a := true) (b := false) (l := listed.toList) (i := i) (by simpa using hi')
      have hp : 0 < listed.toList.count false := List.count_pos_iff.2 (by rw [← hm]; exact List.getElem_mem _)
      rw [hm] at hq
      rw [hq]
      clear hq
      have e1 : (if (false == false) = true then 1 else 0) = 1 := rfl
      have e2 : (if (true == false) = true then 1 else 0) = 0 := rfl
      rw [e1, e2]
      omega
    omega

theorem wpOp_of {P : Program} {ops : Array Oper} {Q : Exit → Act → World → Prop} {i : Nat} {o : Oper} {K : Act → World → Prop} {a : Act} {w : World} (hi : ops[i]? = some o) (hg : o.guard = none) (h : o.wp P a w K Q) : wpOp P ops Q i K a w := by
  unfold wpOp
  rw [hi]
  simp only
  rw [if_pos (by simp [Region.wanted, hg])]
  exact .inl h

/-- The slots D of an act hold X's values. -/
def over (a : Act) (D : List Nat) (X : Nat → Value) : Act := { a with tmps := a.tmps.mapIdx fun j v => if D.contains j then X j else v }
theorem over_put {a : Act} {D : List Nat} {X : Nat → Value} {d : Nat} (hd : D.contains d = true) (v : Value) : (over a D X).put (some d) v = over a D (fun j => if j = d then v else X j) := by
  unfold over Act.put
  simp only [Act.mk.injEq, and_true]
  refine Array.ext (by simp) fun j h1 h2 => ?_
  have hj : j < a.tmps.size := by simpa using h1
  rw [Array.getElem_setIfInBounds (by simpa using hj), Array.getElem_mapIdx, Array.getElem_mapIdx]
  by_cases e : d = j
  · subst e; rw [if_pos rfl, if_pos hd, if_pos rfl]
  · rw [if_neg e]
    by_cases hc : D.contains j = true
    · rw [if_pos hc, if_pos hc, if_neg (fun h => e h.symm)]
    · rw [if_neg hc, if_neg hc]
theorem over_eval {a : Act} {D : List Nat} {X : Nat → Value} {j : Nat} : (over a D X).eval (.tmp j) = if D.contains j && decide (j < a.tmps.size) then X j else a.eval (.tmp j) := by
  unfold over Act.eval
  simp only [Array.getD_eq_getD_getElem?, Array.getElem?_mapIdx]
  by_cases hj : j < a.tmps.size
  · rw [Array.getElem?_eq_getElem hj]
    cases hd : D.contains j <;> simp [hj]
  · rw [Array.getElem?_eq_none (by omega)]
    simp [hj]
theorem over_self (a : Act) (D : List Nat) : a = over a D (fun j => a.tmps.getD j undef) := by
  unfold over
  cases a
  simp only [Act.mk.injEq, and_true]
  refine Array.ext (by simp) fun j h1 h2 => ?_
  rw [Array.getElem_mapIdx]
  split
  · simp [Array.getD, h1]
  · rfl
theorem over_puts : ∀ (D : List Nat) (a : Act) (X : Nat → Value), over a D X = D.foldl (fun a d => a.put (some d) (X d)) a
  | [], a, X => by
    unfold over
    cases a
    simp only [List.foldl_nil, Act.mk.injEq, and_true]
    exact Array.ext (by simp) fun j h1 h2 => by rw [Array.getElem_mapIdx]; rfl
  | d :: D, a, X => by
    rw [List.foldl_cons, ← over_puts D]
    unfold over Act.put
    simp only [Act.mk.injEq, and_true]
    refine Array.ext (by simp) fun j h1 h2 => ?_
    have hj : j < a.tmps.size := by simpa using h1
    rw [Array.getElem_mapIdx, Array.getElem_mapIdx, Array.getElem_setIfInBounds hj]
    rw [List.contains_cons]
    by_cases e : d = j
    · subst e
      simp
    · have : (j == d) = false := by simpa using fun h => e h.symm
      rw [this, Bool.false_or, if_neg e]

end Go.Proofs.YtelememdhpncgaaGreatDoor

/-
  Walk: shape.copyRel.
-/
namespace Go.Proofs.YtelememdhpncgaaGreatDoor
open Go.RowKit

theorem take_snoc {α : Type} {l : List α} {k : Nat} {x : α} (h : l[k]? = some x) : l.take (k + 1) = l.take k ++ [x] := by
  obtain ⟨hk, rfl⟩ := List.getElem?_eq_some_iff.1 h
  exact List.take_succ_eq_append_getElem hk
theorem getD_some {α : Type} {l : List α} {k : Nat} {d : α} (h : k < l.length) : l[k]? = some (l.getD k d) := by
  rw [List.getD_eq_getElem?_getD, List.getElem?_eq_getElem h]; rfl
/-- A cell store into a block that is none of the row's. -/
theorem own_set {w : World} {base n size : Nat} {e : TypeId} {v : Value} {xs : List Value} (h : w.ownsRow base e size v n xs) {p : Addr} (hp : p.block < base) (u : Value) : (w.setCell p u).ownsRow base e size v n xs :=
  h.kept (row := some p.block) ⟨rfl, rfl, rfl, by simp [World.setCell], fun i _ hne => Below.heap_setCell _ _ _ _ (fun e => hne (by rw [e]))⟩ (by
    cases ho : v.ownBlock with
    | none => exact .inl rfl
    | some g => exact .inr (fun e => by injection e with e; have := (h.lt g ho).1; omega))
theorem own_below {w w' : World} {base n size : Nat} {e : TypeId} {v : Value} {xs : List Value} (h : w.ownsRow base e size v n xs) (hb : Below w.heap.size w w') : w'.ownsRow base e size v n xs :=
  h.kept (row := none) ⟨hb.os, hb.tape, hb.output, hb.size, fun i hi _ => hb.block i hi⟩ (by
    cases ho : v.ownBlock with
    | none => exact .inl rfl
    | some g => exact .inr (fun e => by cases e))

set_option maxRecDepth 100000 in
set_option maxHeartbeats 400000 in
theorem copyrel_own (r : Sh.Rel) (v : Value) (w : World) (B : Nat) (hB : B ≤ w.heap.size) (h : Tups w B v r.tuples) (hl : r.tuples.length ≤ 1000000) (ht : ∀ t ∈ r.tuples, t.length ≤ 1000000) :
    Calls Tryz.prog 44 #[.agg #[.string r.name, .int .i64 r.arity, v]] w fun e w' => ∃ (u : Value) (us : List Value), e = .returned (.agg #[.string r.name, .int .i64 r.arity, u]) ∧ us.length = r.tuples.length ∧ w'.ownsRow w.heap.size 25 1 u r.tuples.length us ∧ Elems w' w.heap.size us r.tuples ∧ Below w.heap.size w w' := by
  obtain ⟨name, arity, ts⟩ := r
  simp only at h hl ht ⊢
  have h' := h
  obtain ⟨A, len, c, rfl, hlen, -⟩ := h'
  have hcall := fun (W : World) (u : Value) (t : List Int) (hu : Ints W B u t) (hW : B ≤ W.heap.size) (hm : t ∈ ts) => copytuple_any u t W B hW hu (ht t hm)
  have Hcall := Lib.hid hcall; clear hcall
  have Hlen := Lib.hid hlen; clear hlen
  have hl' : len ≤ 1000000 := by rw [Hlen.out]; exact hl
  clear hl ht
  go_enter Tryz.func44, Tryz.ntmps44
  go_wp2
  have hb3 : Below w.heap.size w (((w.alloc (.cells #[.string name, .int .i64 arity, .slice A len c] 57)).alloc (.cells #[.string ⟨#[]⟩, .int .i64 0, .slice none 0 0] 57)).alloc (.cells #[.string name, .int .i64 arity, .slice none 0 0] 57)) :=
    (((Below.refl _ _).alloc (Nat.le_refl _) _).alloc (by simp) _).alloc (by simp; omega) _
  have hz3 : Blk (((w.alloc (.cells #[.string name, .int .i64 arity, .slice A len c] 57)).alloc (.cells #[.string ⟨#[]⟩, .int .i64 0, .slice none 0 0] 57)).alloc (.cells #[.string name, .int .i64 arity, .slice none 0 0] 57)) (w.heap.size + 1) 57 #[.string ⟨#[]⟩, .int .i64 0, .slice none 0 0] := by
    have := Blk.new (w.alloc (.cells #[.string name, .int .i64 arity, .slice A len c] 57)) 57 #[.string ⟨#[]⟩, .int .i64 0, .slice none 0 0]
    rw [World.size_alloc] at this
    exact this.alloc _
  have hc3 : Blk (((w.alloc (.cells #[.string name, .int .i64 arity, .slice A len c] 57)).alloc (.cells #[.string ⟨#[]⟩, .int .i64 0, .slice none 0 0] 57)).alloc (.cells #[.string name, .int .i64 arity, .slice none 0 0] 57)) (w.heap.size + 1 + 1) 57 #[.string name, .int .i64 arity, .slice none 0 0] := by
    have := Blk.new ((w.alloc (.cells #[.string name, .int .i64 arity, .slice A len c] 57)).alloc (.cells #[.string ⟨#[]⟩, .int .i64 0, .slice none 0 0] 57)) 57 #[.string name, .int .i64 arity, .slice none 0 0]
    rw [World.size_alloc, World.size_alloc] at this
    exact this
  generalize ((w.alloc (.cells #[.string name, .int .i64 arity, .slice A len c] 57)).alloc (.cells #[.string ⟨#[]⟩, .int .i64 0, .slice none 0 0] 57)).alloc (.cells #[.string name, .int .i64 arity, .slice none 0 0] 57) = W3 at *
  go_loopw [14] (fun i wr => ∃ (k : Nat) (tv : Value) (us : List Value), k ≤ len ∧ i = .int .i64 k ∧ us.length = k ∧ Blk wr (w.heap.size + 1) 57 #[.string ⟨#[]⟩, .int .i64 0, .slice none 0 0] ∧
      Blk wr (w.heap.size + 1 + 1) 57 #[.string name, .int .i64 arity, tv] ∧ wr.ownsRow (w.heap.size + 3) 25 1 tv k us ∧ Elems wr (w.heap.size + 3) us (ts.take k) ∧ Below w.heap.size w wr) (fun i _ => len - (intOf i).toNat)
  case atStart => exact ⟨0, .slice none 0 0, [], Nat.zero_le _, rfl, rfl, hz3, hc3, World.ownsRow_nil _ _ _ _, (fun j u t h => by simp at h), hb3⟩
  case round =>
    obtain ⟨k, tv, us, hk, rfl, hus, hz, hc, hown, hel, hbel⟩ := hrel
    clear hb3 hz3 hc3
    have Hown := Lib.hid hown; clear hown
    obtain ⟨TA, TC, rfl⟩ := own_slice Hown.out
    have hlt3 := hc.lt
    have Hus := Lib.hid hus; clear hus
    by_cases hlt : k < len
    · obtain ⟨ad, u, rfl, hb, hcu, hiu⟩ := (h.below (hbel.mono hB)).at_ hlt
      have hiu' := hiu
      obtain ⟨UA, UN, UC, rfl, -⟩ := hiu'
      have hts : ts[k]? = some (ts.getD k []) := getD_some (by rw [← Hlen.out]; exact hlt)
      have Hts := Lib.hid hts; clear hts
      have hcl2 : wr.drew.cell? ⟨w.heap.size + 1 + 1, 2, none⟩ = some (.slice TA k TC) := hc.cell 2
      have hiud : Ints wr.drew B (.slice UA UN UC) (ts.getD k []) := hiu
      have hbelz : w.heap.size ≤ wr.heap.size := hbel.size
      go_wp2
      go_region_law (first
        | (go_simp
           go_at_call 41
           refine (Hcall.out _ _ _ hiud (by simp; omega) (List.mem_of_getElem? Hts.out)).mono ?_
           rintro e w7 ⟨x, rfl, hni, hb7⟩
           have hni' := hni
           obtain ⟨XA, XN, XC, rfl, -⟩ := hni'
           have hc7 := (Blk.drew hc).below hb7 (by simp; omega)
           have hcc7 : w7.cell? ⟨w.heap.size + 1 + 1, 2, none⟩ = some (.slice TA k TC) := hc7.cell 2
           have hcc7' : (w7.alloc (.cells #[.slice XA XN XC] 25)).cell? ⟨w.heap.size + 1 + 1, 2, none⟩ = some (.slice TA k TC) := (Blk.alloc hc7 _).cell 2
           have hown7 : (w7.alloc (.cells #[.slice XA XN XC] 25)).ownsRow (w.heap.size + 3) 25 1 (.slice TA k TC) k us := World.ownsRow.alloc (own_below (w := wr.drew) Hown.out hb7) _)
        | (refine step_append_tup _ rfl _ _ rfl (w.heap.size + 3) _ k us rfl hown7 ⟨w7.heap.size, 0, none⟩ 1 (.slice XA XN XC) rfl ((Blk.new w7 25 #[.slice XA XN XC]).cell 0) rfl (by omega) (by have := hb7.size; simp at this ⊢; omega) ?_
           intro v8 w8 hown8 hg8
           obtain ⟨VA, VC, rfl⟩ := own_slice hown8
           have hc8 : Blk w8 (w.heap.size + 1 + 1) 57 #[.string name, .int .i64 arity, .slice TA k TC] := Blk.grown (Blk.alloc hc7 _) hg8 (fun e => by have := (hown7.lt _ e.symm).1; omega)
           have hcc8 : w8.cell? ⟨w.heap.size + 1 + 1, 2, none⟩ = some (.slice TA k TC) := hc8.cell 2
           have hcf8 := hc8.frozen 2))
      all_goals
        go_wp2
        have hs7 : wr.heap.size ≤ w7.heap.size := hb7.size
        have hg8' : (w7.alloc (.cells #[.slice XA XN XC] 25)).grownBy w8 (Value.slice TA k TC).ownBlock := hg8
        have hbase : ∀ g, (Value.slice TA k TC).ownBlock = some g → w.heap.size + 3 ≤ g := fun g e => (hown7.lt g e).1
        have hk7 : Keeps (w.heap.size + 3) [3] w7 (w8.setCell ⟨w.heap.size + 1 + 1, 2, none⟩ (.slice VA (k + 1) VC)) :=
          (Keeps.alloc _ _ _ _).trans ((Keeps.own hg8' hown7 (by decide)).trans (Keeps.setCell (p := ⟨w.heap.size + 1 + 1, 2, none⟩) hc8 (by decide) _))
        refine ⟨⟨k + 1, .slice VA (k + 1) VC, us ++ [.slice XA XN XC], by omega, by go_num, by rw [List.length_append, Hus.out]; rfl, ?_, hc8.set_ 2 _, own_set hown8 (show w.heap.size + 1 + 1 < w.heap.size + 3 by omega) _, ?_, ?_⟩, by simp [intOf]; omega⟩
        · exact Blk.far (Blk.grown (Blk.alloc ((Blk.drew hz).below hb7 (by simp; omega)) _) hg8' (fun e => by have := hbase _ e.symm; omega)) (by simp) _
        · rw [take_snoc Hts.out]
          exact Elems.snoc ((hel.keep ((Keeps.drewN _ _ wr 1).trans (Keeps.of_below hb7))).keep hk7) (by rw [Hus.out, List.length_take]; have := Hlen.out; omega) ((hni.more (by simp; omega)).keep hk7)
        · exact ((((hbel.drew).trans (hb7.mono hbelz)).alloc (by omega) _).grown hg8' (by simp; omega) (fun g e => by have := hbase g e; omega)).setCell (show w.heap.size ≤ w.heap.size + 1 + 1 by omega) _
    · have hkl : k = len := by omega
      subst hkl
      have htk : ts.take k = ts := List.take_of_length_le (by have := Hlen.out; omega)
      rw [htk] at hel
      have hcc0 : wr.cell? ⟨w.heap.size + 1 + 1, 0, none⟩ = some (.string name) := hc.cell 0
      have hcc1 : wr.cell? ⟨w.heap.size + 1 + 1, 1, none⟩ = some (.int .i64 arity) := hc.cell 1
      have hcc2 : wr.cell? ⟨w.heap.size + 1 + 1, 2, none⟩ = some (.slice TA k TC) := hc.cell 2
      have hzc0 : wr.cell? ⟨w.heap.size + 1, 0, none⟩ = some (.string ⟨#[]⟩) := hz.cell 0
      have hzc1 : wr.cell? ⟨w.heap.size + 1, 1, none⟩ = some (.int .i64 0) := hz.cell 1
      have hzc2 : wr.cell? ⟨w.heap.size + 1, 2, none⟩ = some (.slice none 0 0) := hz.cell 2
      have hzf0 := hz.frozen 0
      have hzf1 := hz.frozen 1
      have hzf2 := hz.frozen 2
      have Hel := Lib.hid hel; clear htk hel
      go_wp2
      refine bodyPost_ret (v := .agg #[.string name, .int .i64 arity, .slice TA k TC]) (by simp [results, Tryz.results44, go_sem, hzc0, hzc1, hzc2]) rfl ?_
      have hk0 : Keeps (w.heap.size + 3) [3] wr (((wr.setCell ⟨w.heap.size + 1, 0, none⟩ (.string name)).setCell ⟨w.heap.size + 1, 1, none⟩ (.int .i64 arity)).setCell ⟨w.heap.size + 1, 2, none⟩ (.slice TA k TC)) :=
        (Keeps.setCell (p := ⟨w.heap.size + 1, 0, none⟩) hz (by decide) _).trans ((Keeps.setCell (p := ⟨w.heap.size + 1, 1, none⟩) (hz.set_ _ _) (by decide) _).trans (Keeps.setCell (p := ⟨w.heap.size + 1, 2, none⟩) ((hz.set_ _ _).set_ _ _) (by decide) _))
      have hlk : k = ts.length := Hlen.out
      refine ⟨_, us, rfl, by rw [Hus.out]; exact hlk, ?_, fun j x t h1 h2 => (Hel.out.keep hk0 j x t h1 h2).more (by omega), ?_⟩
      · have ho := own_set (own_set (own_set Hown.out (p := ⟨w.heap.size + 1, 0, none⟩) (show w.heap.size + 1 < w.heap.size + 3 by omega) (.string name)) (p := ⟨w.heap.size + 1, 1, none⟩) (show w.heap.size + 1 < w.heap.size + 3 by omega) (.int .i64 arity)) (p := ⟨w.heap.size + 1, 2, none⟩) (show w.heap.size + 1 < w.heap.size + 3 by omega) (.slice TA k TC)
        rw [← hlk]
        exact own_base ho (by omega)
      · exact ((hbel.setCell (by simp) _).setCell (by simp) _).setCell (by simp) _

theorem copyrel_any (r : Sh.Rel) (v : Value) (w : World) (B : Nat) (hB : B ≤ w.heap.size) (h : Tups w B v r.tuples) (hl : r.tuples.length ≤ 1000000) (ht : ∀ t ∈ r.tuples, t.length ≤ 1000000) :
    Calls Tryz.prog 44 #[.agg #[.string r.name, .int .i64 r.arity, v]] w fun e w' => ∃ u, e = .returned (.agg #[.string r.name, .int .i64 r.arity, u]) ∧ NTups w' w.heap.size u r.tuples ∧ Below w.heap.size w w' :=
  (copyrel_own r v w B hB h hl ht).mono fun _ _ ⟨u, us, he, hlen, ho, hel, hb⟩ => ⟨u, he, NTups.own ho (Nat.le_refl _) (by omega) hlen hel, hb⟩

end Go.Proofs.YtelememdhpncgaaGreatDoor
