/-
  Texts joined: Copyb, Store, Sortlay, Sortm, Sortw, Pst.
-/
import Derived.Test.YtelememdhpncgaaGreatDoorJo14
import Derived.Shelf.SlSortCmp.Whole1
import Derived.Shelf.SlSortCmp.NoneTotal
import Derived.Shelf.SlGeneric
import Derived.Shelf.Small.Bits
import Derived.Ground.SlsfProg
import Derived.Test.YtelememdhpncgaaGreatDoorProg
import Derived.Test.YtelememdhpncgaaGreatDoorJo13
import Derived.Sort.Statements
import Derived.Test.YtelememdhpncgaaGreatDoorJo5
import Derived.Sort.Grow

/-
  Walk: shape.copyOf, once more: what it says of the tuples' own blocks.
-/
namespace Go.Proofs.YtelememdhpncgaaGreatDoor
open Go.RowKit

theorem Apart.append {us us' : List Value} {lo mid hi : Nat} (h : Apart us lo mid) (h' : Apart us' mid hi) (h1 : lo ≤ mid) (h2 : mid ≤ hi) : Apart (us ++ us') lo hi := by
  unfold Apart
  rw [List.filterMap_append]
  refine ⟨List.nodup_append.2 ⟨h.1, h'.1, fun a ha b hb => ?_⟩, fun a ha => ?_⟩
  · have := (h.2 a ha).2; have := (h'.2 b hb).1; omega
  · rcases List.mem_append.1 ha with ha | ha
    · have := h.2 a ha; omega
    · have := h'.2 a ha; omega
/-- The relations' values vs, their tuples' values uss: each lies in a row of the call's own. -/
def ROwa (w : World) (L : Nat) (vs : List Value) (uss : List (List Value)) (rs : List Sh.Rel) : Prop :=
  vs.length = rs.length ∧ uss.length = rs.length ∧ ∀ (j : Nat) (u : Value) (us : List Value) (r : Sh.Rel), vs[j]? = some u → uss[j]? = some us → rs[j]? = some r →
    r.name.size ≤ 140737488351232 ∧ r.tuples.length ≤ 1000000 ∧ us.length = r.tuples.length ∧ w.ownsRow L 25 1 u r.tuples.length us ∧ OElems w L us r.tuples
theorem ROwa.nil (w : World) (L : Nat) : ROwa w L [] [] [] := ⟨rfl, rfl, fun j u us r h => by simp at h⟩
theorem ROwa.keep {w w' : World} {L : Nat} {vs : List Value} {uss : List (List Value)} {rs : List Sh.Rel} (h : ROwa w L vs uss rs) (hk : Keeps L [3, 25] w w') : ROwa w' L vs uss rs :=
  ⟨h.1, h.2.1, fun j u us r h1 h2 h3 => by
    obtain ⟨a, b, c, d, e⟩ := h.2.2 j u us r h1 h2 h3
    exact ⟨a, b, c, own_keeps d hk (Nat.le_refl _) (by simp), e.keep (hk.mono (by simp))⟩⟩
theorem ROwa.more {w : World} {L L' : Nat} {vs : List Value} {uss : List (List Value)} {rs : List Sh.Rel} (h : ROwa w L vs uss rs) (hL : L' ≤ L) : ROwa w L' vs uss rs :=
  ⟨h.1, h.2.1, fun j u us r h1 h2 h3 => by
    obtain ⟨a, b, c, d, e⟩ := h.2.2 j u us r h1 h2 h3
    exact ⟨a, b, c, own_base d hL, fun i x t g1 g2 => (e i x t g1 g2).more hL⟩⟩
theorem ROwa.snoc {w : World} {L : Nat} {vs : List Value} {uss : List (List Value)} {rs : List Sh.Rel} (h : ROwa w L vs uss rs) {u : Value} {r : Sh.Rel} {us : List Value} (hz : r.name.size ≤ 140737488351232) (ht : r.tuples.length ≤ 1000000)
    (hus : us.length = r.tuples.length) (ho : w.ownsRow L 25 1 u r.tuples.length us) (he : OElems w L us r.tuples) : ROwa w L (vs ++ [u]) (uss ++ [us]) (rs ++ [r]) := by
  obtain ⟨hv, hu, hh⟩ := h
  refine ⟨by simp [hv], by simp [hu], fun j u' us' r' h1 h2 h3 => ?_⟩
  by_cases hj : j < vs.length
  · rw [List.getElem?_append_left hj] at h1
    rw [List.getElem?_append_left (by omega)] at h2
    rw [List.getElem?_append_left (by omega)] at h3
    exact hh j u' us' r' h1 h2 h3
  · have hj0 : j - vs.length = 0 := by
      have := (List.getElem?_eq_some_iff.1 h1).1
      simp at this; omega
    rw [List.getElem?_append_right (by omega), hj0] at h1
    rw [List.getElem?_append_right (by omega), show j - uss.length = 0 by omega] at h2
    rw [List.getElem?_append_right (by omega), show j - rs.length = 0 by omega] at h3
    simp at h1 h2 h3
    subst h1 h2 h3
    exact ⟨hz, ht, hus, ho, he⟩
/-- The relations lie in a row of the call's own, their tuples too, all apart, the blocks from lo on. -/
def OwnRela (w : World) (L lo : Nat) (v : Value) (rs : List Sh.Rel) : Prop := ∃ (xs vs : List Value) (uss : List (List Value)), w.ownsRow L 57 3 v rs.length xs ∧ RCells xs vs rs ∧ ROwa w L vs uss rs ∧
  Apart vs lo w.heap.size ∧ Apart uss.flatten lo w.heap.size
theorem OwnRela.keep {w w' : World} {L lo : Nat} {v : Value} {rs : List Sh.Rel} (h : OwnRela w L lo v rs) (hk : Keeps L [3, 25, 57] w w') : OwnRela w' L lo v rs := by
  obtain ⟨xs, vs, uss, h1, h2, h3, h4, h5⟩ := h
  exact ⟨xs, vs, uss, own_keeps h1 hk (Nat.le_refl _) (by simp), h2, h3.keep (hk.mono (by simp)), h4.mono (Nat.le_refl _) hk.1, h5.mono (Nat.le_refl _) hk.1⟩

set_option maxRecDepth 100000 in
set_option maxHeartbeats 400000 in
theorem copyof_apart (size : Int) (v : Value) (rs : List Sh.Rel) (w : World) (B : Nat) (hB : B ≤ w.heap.size) (h : Rels w B v rs) (hl : rs.length ≤ 1000000) (ht : ∀ r ∈ rs, r.tuples.length ≤ 1000000 ∧ ∀ t ∈ r.tuples, t.length ≤ 1000000) :
    Calls Tryz.prog 33 #[.agg #[.int .i64 size, v]] w fun e w' => ∃ u, e = .returned (.agg #[.int .i64 size, u]) ∧ OwnRela w' w.heap.size w.heap.size u rs ∧ Below w.heap.size w w' := by
  have h' := h
  obtain ⟨A, len, c, rfl, hlen, -⟩ := h'
  have hcall := fun (W : World) (u : Value) (r : Sh.Rel) (hu : Tups W B u r.tuples) (hW : B ≤ W.heap.size) (hm : r ∈ rs) => copyrel_apart r u W B hW hu (ht r hm).1 (ht r hm).2
  have Hcall := Lib.hid hcall; clear hcall
  have Hlen := Lib.hid hlen; clear hlen
  have hl' : len ≤ 1000000 := by rw [Hlen.out]; exact hl
  have Ht := Lib.hid ht
  clear hl ht
  go_enter Tryz.func33, Tryz.ntmps33
  go_wp2
  have hb3 : Below w.heap.size w (((w.alloc (.cells #[.int .i64 size, .slice A len c] 24)).alloc (.cells #[.int .i64 0, .slice none 0 0] 24)).alloc (.cells #[.int .i64 size, .slice none 0 0] 24)) :=
    (((Below.refl _ _).alloc (Nat.le_refl _) _).alloc (by simp) _).alloc (by simp; omega) _
  have hz3 : Blk (((w.alloc (.cells #[.int .i64 size, .slice A len c] 24)).alloc (.cells #[.int .i64 0, .slice none 0 0] 24)).alloc (.cells #[.int .i64 size, .slice none 0 0] 24)) (w.heap.size + 1) 24 #[.int .i64 0, .slice none 0 0] := by
    have := Blk.new (w.alloc (.cells #[.int .i64 size, .slice A len c] 24)) 24 #[.int .i64 0, .slice none 0 0]
    rw [World.size_alloc] at this
    exact this.alloc _
  have hc3 : Blk (((w.alloc (.cells #[.int .i64 size, .slice A len c] 24)).alloc (.cells #[.int .i64 0, .slice none 0 0] 24)).alloc (.cells #[.int .i64 size, .slice none 0 0] 24)) (w.heap.size + 1 + 1) 24 #[.int .i64 size, .slice none 0 0] := by
    have := Blk.new ((w.alloc (.cells #[.int .i64 size, .slice A len c] 24)).alloc (.cells #[.int .i64 0, .slice none 0 0] 24)) 24 #[.int .i64 size, .slice none 0 0]
    rw [World.size_alloc, World.size_alloc] at this
    exact this
  generalize ((w.alloc (.cells #[.int .i64 size, .slice A len c] 24)).alloc (.cells #[.int .i64 0, .slice none 0 0] 24)).alloc (.cells #[.int .i64 size, .slice none 0 0] 24) = W3 at *
  go_loopw [12] (fun i wr => ∃ (k : Nat) (tv : Value) (xs us : List Value) (uss : List (List Value)), k ≤ len ∧ i = .int .i64 k ∧ Blk wr (w.heap.size + 1) 24 #[.int .i64 0, .slice none 0 0] ∧
      Blk wr (w.heap.size + 1 + 1) 24 #[.int .i64 size, tv] ∧ wr.ownsRow (w.heap.size + 3) 57 3 tv k xs ∧ RCells xs us (rs.take k) ∧ ROwa wr (w.heap.size + 3) us uss (rs.take k) ∧ Below w.heap.size w wr ∧ Apart us w.heap.size wr.heap.size ∧ Apart uss.flatten w.heap.size wr.heap.size) (fun i _ => len - (intOf i).toNat)
  case atStart => exact ⟨0, .slice none 0 0, [], [], [], Nat.zero_le _, rfl, hz3, hc3, World.ownsRow_nil _ _ _ _, RCells.nil, ROwa.nil _ _, hb3, Apart.nil _ _, Apart.nil _ _⟩
  case round =>
    obtain ⟨k, tv, xs, us, uss, hk, rfl, hz, hc, hown, hrc, hel, hbel, hap1, hap2⟩ := hrel
    clear hb3 hz3 hc3
    have Hown := Lib.hid hown; clear hown
    have Hrc := Lib.hid hrc; clear hrc
    obtain ⟨TA, TC, rfl⟩ := own_slice Hown.out
    have hlt3 := hc.lt
    by_cases hlt : k < len
    · obtain ⟨ad, u, r, rfl, hb, hr, c0, c1, c2, htu, hnz⟩ := (h.below (hbel.mono hB)).at_ hlt
      have htu' := htu
      obtain ⟨UA, UN, UC, rfl, -⟩ := htu'
      have Hr := Lib.hid hr; clear hr
      have hbelz : w.heap.size ≤ wr.heap.size := hbel.size
      have htud : Tups (wr.alloc (.cells #[.string r.name, .int .i64 r.arity, .slice UA UN UC] 57)).drew B (.slice UA UN UC) r.tuples := htu.keep (fun p hp => World.cell?_alloc_lt _ _ _ (by omega))
      have hbx : Blk (wr.alloc (.cells #[.string r.name, .int .i64 r.arity, .slice UA UN UC] 57)).drew wr.heap.size 57 #[.string r.name, .int .i64 r.arity, .slice UA UN UC] := (Blk.new _ _ _).drew
      have hcd : Blk (wr.alloc (.cells #[.string r.name, .int .i64 r.arity, .slice UA UN UC] 57)).drew (w.heap.size + 1 + 1) 24 #[.int .i64 size, .slice TA k TC] := (hc.alloc _).drew
      have hcl2 : (wr.alloc (.cells #[.string r.name, .int .i64 r.arity, .slice UA UN UC] 57)).drew.cell? ⟨w.heap.size + 1 + 1, 1, none⟩ = some (.slice TA k TC) := hcd.cell 1
      have hownd : (wr.alloc (.cells #[.string r.name, .int .i64 r.arity, .slice UA UN UC] 57)).drew.ownsRow (w.heap.size + 3) 57 3 (.slice TA k TC) k xs := Hown.out.alloc _
      go_wp2
      have hx0 : (wr.alloc (.cells #[.string r.name, .int .i64 r.arity, .slice UA UN UC] 57)).drew.cell? ⟨wr.heap.size, 0, none⟩ = some (.string r.name) := hbx.cell 0
      have hx1 : (wr.alloc (.cells #[.string r.name, .int .i64 r.arity, .slice UA UN UC] 57)).drew.cell? ⟨wr.heap.size, 1, none⟩ = some (.int .i64 r.arity) := hbx.cell 1
      have hx2 : (wr.alloc (.cells #[.string r.name, .int .i64 r.arity, .slice UA UN UC] 57)).drew.cell? ⟨wr.heap.size, 2, none⟩ = some (.slice UA UN UC) := hbx.cell 2
      go_region_law (first
        | (go_simp
           go_at_call 44
           refine (Hcall.out _ _ r htud (by simp; omega) (List.mem_of_getElem? Hr.out)).mono ?_
           rintro e w7 ⟨x, ys, rfl, hyl, hxo, hye, hb7, hap7⟩
           obtain ⟨XA, XC, rfl⟩ := own_slice hxo
           have hc7 := hcd.below hb7 (by simp; omega)
           have hcc7 : w7.cell? ⟨w.heap.size + 1 + 1, 1, none⟩ = some (.slice TA k TC) := hc7.cell 1
           have hcc7' : (w7.alloc (.cells #[.string r.name, .int .i64 r.arity, .slice XA r.tuples.length XC] 57)).cell? ⟨w.heap.size + 1 + 1, 1, none⟩ = some (.slice TA k TC) := (Blk.alloc hc7 _).cell 1
           have hown7 : (w7.alloc (.cells #[.string r.name, .int .i64 r.arity, .slice XA r.tuples.length XC] 57)).ownsRow (w.heap.size + 3) 57 3 (.slice TA k TC) k xs := World.ownsRow.alloc (own_below hownd hb7) _)
        | (refine step_append_rel _ rfl _ _ rfl (w.heap.size + 3) _ k xs rfl hown7 w7.heap.size 1 _ _ _ rfl (Blk.new w7 57 #[.string r.name, .int .i64 r.arity, .slice XA r.tuples.length XC]) rfl rfl rfl (by omega) (by have := hb7.size; simp at this ⊢; omega) ?_
           intro v8 w8 hown8 hg8
           obtain ⟨VA, VC, rfl⟩ := own_slice hown8
           have hc8 : Blk w8 (w.heap.size + 1 + 1) 24 #[.int .i64 size, .slice TA k TC] := Blk.grown (Blk.alloc hc7 _) hg8 (fun e => by have := (hown7.lt _ e.symm).1; omega)
           have hcc8 : w8.cell? ⟨w.heap.size + 1 + 1, 1, none⟩ = some (.slice TA k TC) := hc8.cell 1
           have hcf8 := hc8.frozen 1))
      all_goals
        go_wp2
        have hs7 : wr.heap.size + 1 ≤ w7.heap.size := by have := hb7.size; simp at this; exact this
        have hg8' : (w7.alloc (.cells #[.string r.name, .int .i64 r.arity, .slice XA r.tuples.length XC] 57)).grownBy w8 (Value.slice TA k TC).ownBlock := hg8
        have hbase : ∀ g, (Value.slice TA k TC).ownBlock = some g → w.heap.size + 3 ≤ g := fun g e => (hown7.lt g e).1
        have hk7 : Keeps (w.heap.size + 3) [3, 25] w7 (w8.setCell ⟨w.heap.size + 1 + 1, 1, none⟩ (.slice VA (k + 1) VC)) :=
          (Keeps.alloc _ _ _ _).trans ((Keeps.own hg8' hown7 (by decide)).trans (Keeps.setCell (p := ⟨w.heap.size + 1 + 1, 1, none⟩) hc8 (by decide) _))
        refine ⟨⟨k + 1, .slice VA (k + 1) VC, xs ++ [.string r.name, .int .i64 r.arity, .slice XA r.tuples.length XC], us ++ [.slice XA r.tuples.length XC], uss ++ [ys], by omega, by go_num, ?_, hc8.set_ 1 _, own_set hown8 (show w.heap.size + 1 + 1 < w.heap.size + 3 by omega) _, by rw [take_snoc Hr.out]; exact Hrc.out.snoc r _, ?_, ?_, ?_, ?_⟩, by simp [intOf]; omega⟩
        · exact Blk.far (Blk.grown (Blk.alloc (((hz.alloc _).drew).below hb7 (by simp; omega)) _) hg8' (fun e => by have := hbase _ e.symm; omega)) (by simp) _
        · rw [take_snoc Hr.out]
          exact ROwa.snoc ((hel.keep (((Keeps.alloc _ _ _ _).trans (Keeps.drewN _ _ _ 1)).trans (Keeps.of_below hb7))).keep hk7) hnz (Ht.out r (List.mem_of_getElem? Hr.out)).1 hyl (own_keeps (own_base hxo (by simp; omega)) hk7 (Nat.le_refl _) (by simp)) (fun j x t h1 h2 => ((hye j x t h1 h2).more (by simp; omega)).keep (hk7.mono (by simp)))
        · exact (((((hbel.alloc hbelz _).drew).trans (hb7.mono (by simp; omega))).alloc (by omega) _).grown hg8' (by simp; omega) (fun g e => by have := hbase g e; omega)).setCell (show w.heap.size ≤ w.heap.size + 1 + 1 by omega) _
        · have hs8 := hg8'.size
          rw [World.size_alloc] at hs8
          rw [World.size_setCell]
          refine hap1.snoc (by omega) (by omega) fun g hg => ?_
          have h9 := hxo.lt g hg
          have h10 : (wr.alloc (.cells #[.string r.name, .int .i64 r.arity, .slice UA UN UC] 57)).drew.heap.size = wr.heap.size + 1 := World.size_alloc _ _
          omega
        · have hs8 := hg8'.size
          rw [World.size_alloc] at hs8
          rw [World.size_setCell, List.flatten_append, List.flatten_singleton]
          have h10 : (wr.alloc (.cells #[.string r.name, .int .i64 r.arity, .slice UA UN UC] 57)).drew.heap.size = wr.heap.size + 1 := World.size_alloc _ _
          exact hap2.append (hap7.mono (by omega) (by omega)) (by omega) (by omega)
    · have hkl : k = len := by omega
      subst hkl
      have htk : rs.take k = rs := List.take_of_length_le (by have := Hlen.out; omega)
      have hrc' := Hrc.out
      rw [htk] at hel hrc'
      have hown' := Hown.out
      have hkl' : k = rs.length := Hlen.out
      rw [hkl'] at hown'
      have hnt : OwnRela wr (w.heap.size + 3) w.heap.size (.slice TA rs.length TC) rs := ⟨xs, us, uss, hown', hrc', hel, hap1, hap2⟩
      rw [← hkl'] at hnt
      have hcc0 : wr.cell? ⟨w.heap.size + 1 + 1, 0, none⟩ = some (.int .i64 size) := hc.cell 0
      have hcc1 : wr.cell? ⟨w.heap.size + 1 + 1, 1, none⟩ = some (.slice TA k TC) := hc.cell 1
      have hzc0 : wr.cell? ⟨w.heap.size + 1, 0, none⟩ = some (.int .i64 0) := hz.cell 0
      have hzc1 : wr.cell? ⟨w.heap.size + 1, 1, none⟩ = some (.slice none 0 0) := hz.cell 1
      have hzf0 := hz.frozen 0
      have hzf1 := hz.frozen 1
      have Hnt := Lib.hid hnt; clear hnt htk hel hrc' hown' hkl'
      go_wp2
      refine bodyPost_ret (v := .agg #[.int .i64 size, .slice TA k TC]) (by simp [results, Tryz.results33, go_sem, hzc0, hzc1]) rfl ?_
      have hk0 : Keeps (w.heap.size + 3) [3, 25, 57] wr ((wr.setCell ⟨w.heap.size + 1, 0, none⟩ (.int .i64 size)).setCell ⟨w.heap.size + 1, 1, none⟩ (.slice TA k TC)) :=
        (Keeps.setCell (p := ⟨w.heap.size + 1, 0, none⟩) hz (by decide) _).trans (Keeps.setCell (p := ⟨w.heap.size + 1, 1, none⟩) (hz.set_ _ _) (by decide) _)
      obtain ⟨xs', vs', uss', g1, g2, g3, g4, g5⟩ := Hnt.out.keep hk0
      refine ⟨_, rfl, ⟨xs', vs', uss', own_base g1 (by omega), g2, g3.more (by omega), g4, g5⟩, ?_⟩
      exact (hbel.setCell (by simp) _).setCell (by simp) _

end Go.Proofs.YtelememdhpncgaaGreatDoor

/-
  A store into a tuple of a row of tuples that lie apart.
-/
namespace Go.Proofs.YtelememdhpncgaaGreatDoor
open Go.RowKit

theorem Apart.ne {us : List Value} {lo hi j k g : Nat} {u u' : Value} (h : Apart us lo hi) (hj : us[j]? = some u) (hk : us[k]? = some u') (hne : j ≠ k) (hu : u.ownBlock = some g) : u'.ownBlock ≠ some g := by
  have hp := List.pairwise_filterMap.1 h.1
  rw [List.pairwise_iff_getElem] at hp
  obtain ⟨hjl, rfl⟩ := List.getElem?_eq_some_iff.1 hj
  obtain ⟨hkl, rfl⟩ := List.getElem?_eq_some_iff.1 hk
  intro hu'
  rcases Nat.lt_or_ge j k with hlt | hge
  · exact hp j k hjl hkl hlt g hu g hu' rfl
  · exact hp k j hkl hjl (by omega) g hu' g hu rfl

theorem own_store {w : World} {L g n c i : Nat} {e : TypeId} {xs : List Value} (h : w.ownsRow L e 1 (.slice (some ⟨g, 0, none⟩) n c) n xs) (hi : i < n) (u : Value) :
    (w.setCell ⟨g, i, none⟩ u).ownsRow L e 1 (.slice (some ⟨g, 0, none⟩) n c) n (xs.set i u) := by
  obtain ⟨hl, ⟨h0, -⟩ | ⟨g', cap, cur, hv, hbase, hh, hnc, hcm, hcs, htk⟩⟩ := h
  · cases h0
  · injection hv with e1 e2 e3
    injection e1 with e1
    injection e1 with e1
    subst e1 e3
    refine ⟨by simpa using hl, .inr ⟨g, c, cur.setIfInBounds i u, rfl, hbase, ?_, hnc, hcm, by simpa using hcs, ?_⟩⟩
    · have := Blk.set_ (w := w) hh i u
      exact this
    · rw [← htk, Array.toList_setIfInBounds, List.take_set]
theorem own_other {w : World} {L n size : Nat} {e : TypeId} {v : Value} {xs : List Value} (h : w.ownsRow L e size v n xs) {p : Addr} (hp : v.ownBlock ≠ some p.block) (u : Value) : (w.setCell p u).ownsRow L e size v n xs :=
  h.kept (row := some p.block) ⟨rfl, rfl, rfl, by simp [World.setCell], fun i _ hne => Below.heap_setCell _ _ _ _ (fun e => hne (by rw [e]))⟩ (by
    cases ho : v.ownBlock with
    | none => exact .inl rfl
    | some g => exact .inr (fun e => by injection e with e; exact hp (by rw [ho, e])))

theorem OElems.store {w : World} {L lo hi j i g n c : Nat} {us : List Value} {ts : List (List Int)} {t : List Int} (h : OElems w L us ts) (hap : Apart us lo hi) (hj : us[j]? = some (.slice (some ⟨g, 0, none⟩) n c)) (ht : ts[j]? = some t) (hin : i < t.length) (x : Int) :
    OElems (w.setCell ⟨g, i, none⟩ (.int .i64 x)) L us (ts.set j (t.set i x)) := by
  intro k u t' hk hk'
  by_cases hjk : j = k
  · subst hjk
    have hjl : j < ts.length := (List.getElem?_eq_some_iff.1 ht).1
    rw [List.getElem?_set_self hjl] at hk'
    injection hk' with hk'
    subst hk'
    rw [hj] at hk
    injection hk with hk
    subst hk
    obtain ⟨A, n', c', e1, e2, e3⟩ := h j _ t hj ht
    injection e1 with e1 e4 e5
    subst e1 e4 e5
    refine ⟨_, n, c, rfl, by simpa using e2, ?_⟩
    have := own_store e3 (show i < n by omega) (.int .i64 x)
    rwa [← List.map_set] at this
  · rw [List.getElem?_set_ne hjk] at hk'
    obtain ⟨A, n', c', e1, e2, e3⟩ := h k u t' hk hk'
    exact ⟨A, n', c', e1, e2, own_other e3 (p := ⟨g, i, none⟩) (hap.ne hj hk hjk rfl) _⟩

end Go.Proofs.YtelememdhpncgaaGreatDoor

/-
  DERIVED: THE SHELF's CONTRACTS AT THIS DUMP, IN PLAIN WORDS (tools/lay-plain.mjs out of 'TryzSort.lean', which tools/lay-shelf.mjs wrote): THE SAME DECLARATIONS UNDER THE SAME NAMES: 'import', 'namespace', 'open', 'def', 'theorem' AND NOTHING ELSE: no command of the shelf's: FOR A HAND-IN. Each laying: the table of numbers ('.._ren') and one theorem, a field a fact of the dump's own or the kernel's comparison; each contract: ONE APPLICATION.
-/
namespace Go.Proofs
open Go.Shelf
def Tryz.sortT_ren : Go.Shelf.Ren := ⟨fun | 6 => 34 | 15 => 55 | 14 => 54 | 28 => 77 | 29 => 78 | 20 => 69 | 21 => 70 | 22 => 71 | 23 => 72 | 24 => 73 | 25 => 74 | 26 => 75 | 27 => 76 | 46 => 90 | 47 => 91 | 48 => 92 | 49 => 93 | 50 => 94 | 57 => 99 | n => n, fun | 22 => 55 | 24 => 25 | 25 => 70 | 3 => 3 | 39 => 96 | 0 => 0 | 53 => 113 | 55 => 115 | 4 => 4 | 46 => 107 | 45 => 106 | 50 => 75 | 5 => 5 | 9 => 9 | 66 => 125 | 70 => 129 | 76 => 133 | 77 => 134 | n => n, fun | n => n⟩
theorem Tryz.sortT : Go.Proofs.SlLaysF.n6 Tryz.prog Tryz.sortT_ren := {
  mixed := by kernel_rfl
  f6 := ⟨Tryz.f34.name, by decide, Tryz.func34.trans (congrArg some (by kernel_rfl))⟩
  f14 := ⟨Tryz.f54.name, by decide, Tryz.func54.trans (congrArg some (by kernel_rfl))⟩
  f15 := Tryz.func55.trans (congrArg some (by kernel_rfl))
  f20 := ⟨Tryz.f69.name, by decide, Tryz.func69.trans (congrArg some (by kernel_rfl))⟩
  f21 := ⟨Tryz.f70.name, by decide, Tryz.func70.trans (congrArg some (by kernel_rfl))⟩
  f22 := ⟨Tryz.f71.name, by decide, Tryz.func71.trans (congrArg some (by kernel_rfl))⟩
  f23 := ⟨Tryz.f72.name, by decide, Tryz.func72.trans (congrArg some (by kernel_rfl))⟩
  f24 := ⟨Tryz.f73.name, by decide, Tryz.func73.trans (congrArg some (by kernel_rfl))⟩
  f25 := ⟨Tryz.f74.name, by decide, Tryz.func74.trans (congrArg some (by kernel_rfl))⟩
  f26 := ⟨Tryz.f75.name, by decide, Tryz.func75.trans (congrArg some (by kernel_rfl))⟩
  f27 := ⟨Tryz.f76.name, by decide, Tryz.func76.trans (congrArg some (by kernel_rfl))⟩
  f28 := Tryz.func77.trans (congrArg some (by kernel_rfl))
  f29 := Tryz.func78.trans (congrArg some (by kernel_rfl))
  f46 := ⟨Tryz.f90.name, by decide, Tryz.func90.trans (congrArg some (by kernel_rfl))⟩
  f47 := Tryz.func91.trans (congrArg some (by kernel_rfl))
  f48 := Tryz.func92.trans (congrArg some (by kernel_rfl))
  f49 := ⟨Tryz.f93.name, by decide, Tryz.func93.trans (congrArg some (by kernel_rfl))⟩
  f50 := ⟨Tryz.f94.name, by decide, Tryz.func94.trans (congrArg some (by kernel_rfl))⟩
  f57 := ⟨Tryz.f99.name, by decide, Tryz.func99.trans (congrArg some (by kernel_rfl))⟩
  t0 := Tryz.underlying0
  a0 := Tryz.isAgg0
  z0 := Tryz.sizeOf0
  v0 := Tryz.zeroValue0
  t3 := Tryz.underlying3
  a3 := Tryz.isAgg3
  z3 := Tryz.sizeOf3
  v3 := Tryz.zeroValue3
  t4 := Tryz.underlying4
  a4 := Tryz.isAgg4
  z4 := Tryz.sizeOf4
  v4 := Tryz.zeroValue4
  t5 := Tryz.underlying5
  a5 := Tryz.isAgg5
  z5 := Tryz.sizeOf5
  v5 := Tryz.zeroValue5
  t9 := Tryz.underlying9
  a9 := Tryz.isAgg9
  z9 := Tryz.sizeOf9
  v9 := Tryz.zeroValue9
  t22 := Tryz.underlying55
  a22 := Tryz.isAgg55
  z22 := Tryz.sizeOf55
  v22 := Tryz.zeroValue55
  a24 := Tryz.isAgg25
  z24 := Tryz.sizeOf25
  t25 := Tryz.underlying70
  a25 := Tryz.isAgg70
  z25 := Tryz.sizeOf70
  v25 := Tryz.zeroValue70
  t39 := Tryz.underlying96
  a39 := Tryz.isAgg96
  z39 := Tryz.sizeOf96
  v39 := Tryz.zeroValue96
  t45 := Tryz.underlying106
  a45 := Tryz.isAgg106
  z45 := Tryz.sizeOf106
  v45 := Tryz.zeroValue106
  t46 := Tryz.underlying107
  a46 := Tryz.isAgg107
  z46 := Tryz.sizeOf107
  v46 := Tryz.zeroValue107
  t50 := Tryz.underlying75
  a50 := Tryz.isAgg75
  z50 := Tryz.sizeOf75
  v50 := Tryz.zeroValue75
  t53 := Tryz.underlying113
  a53 := Tryz.isAgg113
  z53 := Tryz.sizeOf113
  v53 := Tryz.zeroValue113
  t55 := Tryz.underlying115
  a55 := Tryz.isAgg115
  z55 := Tryz.sizeOf115
  v55 := Tryz.zeroValue115
  t66 := Tryz.underlying125
  a66 := Tryz.isAgg125
  z66 := Tryz.sizeOf125
  v66 := Tryz.zeroValue125
  t70 := Tryz.underlying129
  a70 := Tryz.isAgg129
  z70 := Tryz.sizeOf129
  v70 := Tryz.zeroValue129
  t76 := Tryz.underlying133
  a76 := Tryz.isAgg133
  z76 := Tryz.sizeOf133
  v76 := Tryz.zeroValue133
  t77 := Tryz.underlying134
  a77 := Tryz.isAgg134
  z77 := Tryz.sizeOf134
  v77 := Tryz.zeroValue134 }
end Go.Proofs

/-
  Plain mathematics: a row that is sorted by its tuples' order.
-/
namespace Go.Proofs.YtelememdhpncgaaGreatDoor
open Go.Sort

namespace Sh
/-- The order of two places by their tuples. -/
def ltT (T : Nat → List Int) (x y : Nat) : Bool := decide (cmpI (T x) (T y) < 0)
theorem swo_ltT (T : Nat → List Int) : SWO (ltT T) where
  irrefl x := by unfold ltT; rw [cmpI_self]; rfl
  trans x y z h1 h2 := by
    unfold ltT at *
    exact decide_eq_true (cmpI_trans _ _ _ (of_decide_eq_true h1) (of_decide_eq_true h2))
  ntrans x y z h1 h2 := by
    unfold ltT at *
    have h1 := of_decide_eq_false h1
    have h2 := of_decide_eq_false h2
    refine decide_eq_false fun h => ?_
    by_cases hz : cmpI (T z) (T y) < 0
    · exact h1 (cmpI_trans _ _ _ h hz)
    · rw [cmpI_tri _ _ h2 hz] at h1
      exact h1 h

theorem extract_all (d : Array Nat) : d.extract 0 d.size = d := by simp
theorem sorted_perm {d d' : Array Nat} (hp : PermIn 0 d.size d d') : d'.toList.Perm d.toList := by
  obtain ⟨h1, -, h3⟩ := hp
  rw [extract_all d] at h3
  have : d'.extract 0 d.size = d' := by rw [← h1]; exact extract_all d'
  rwa [this] at h3
theorem sorted_rising {T : Nat → List Int} {d d' : Array Nat} (hp : PermIn 0 d.size d d') (hs : SortedIn (ltT T) 0 d.size d') (hn : (d.toList.map T).Nodup) : Rising (d'.toList.map T) := by
  have hperm := sorted_perm hp
  have hsz : d'.size = d.size := hp.1
  have hn' : (d'.toList.map T).Nodup := (hperm.map T).nodup_iff.2 hn
  rw [rising_iff]
  rw [List.pairwise_iff_getElem]
  intro i j hi hj hij
  rw [List.length_map, Array.length_toList] at hi hj
  have h1 := hs i j (Nat.zero_le _) hij (by omega)
  rw [getElem!_pos d' i hi, getElem!_pos d' j hj] at h1
  unfold ltT at h1
  have h1 := of_decide_eq_false h1
  simp only [List.getElem_map, Array.getElem_toList]
  by_cases hlt : cmpI (T d'[i]) (T d'[j]) < 0
  · exact hlt
  · exfalso
    have he := cmpI_tri _ _ hlt h1
    have hne := List.pairwise_iff_getElem.1 hn' i j (by simpa using hi) (by simpa using hj) hij
    simp only [List.getElem_map, Array.getElem_toList] at hne
    exact hne he
end Sh
end Go.Proofs.YtelememdhpncgaaGreatDoor

/-
  Walk: slices.SortFunc over a row of tuples that the call owns.
-/
namespace Go.Proofs.YtelememdhpncgaaGreatDoor
open Go.RowKit
open Go.Sort

/-- The value and the tuple at a place. -/
def encU (us : List Value) (i : Nat) : Value := us.getD i (.slice none 0 0)
def tupU (ts : List (List Int)) (i : Nat) : List Int := ts.getD i []

theorem heap_sortW {enc : Nat → Value} {w : World} {g n : Nat} {os : Array Obj} {d : Array Nat} {cur : Array Value} {e : TypeId} {fr : Nat × Nat} (hb : w.heap[g]? = some (.cells cur e fr)) :
    (sortWorld enc w g 0 n d os).heap[g]? = some (.cells (putCells enc 0 d cur) e fr) := by
  unfold sortWorld
  rw [heap_grow_old _ _ (by simpa using (Array.getElem?_eq_some_iff.1 hb).1)]
  simp [putRow, mapBlock, Sort.ahead, Array.getElem?_modify, hb, onCells]
theorem grown_sortW {enc : Nat → Value} {w : World} {g n : Nat} {os : Array Obj} (d : Array Nat) : w.grownBy (sortWorld enc w g 0 n d os) (some g) := by
  unfold sortWorld
  refine ⟨rfl, rfl, rfl, by simp, fun k hk hne => ?_⟩
  rw [heap_grow_old _ _ (by simpa using hk)]
  have : g ≠ k := fun e => hne (by rw [e])
  simp [putRow, mapBlock, Sort.ahead, Array.getElem?_modify, this]
theorem take_sortW (enc : Nat → Value) (cur : Array Value) (d : Array Nat) (h : d.size ≤ cur.size) : (putCells enc 0 d cur).toList.take d.size = d.toList.map enc := by
  apply List.ext_getElem?
  intro j
  by_cases hj : j < d.size
  · rw [List.getElem?_take_of_lt hj, Array.getElem?_toList]
    simp [putCells, hj, show j < cur.size by omega]
  · rw [List.getElem?_take_eq_none (by omega), List.getElem?_eq_none (by simp; omega)]

theorem elems_all {w : World} {L : Nat} {us : List Value} {ts : List (List Int)} (h : Elems w L us ts) (hl : us.length = ts.length) (x : Nat) : NInts w L (encU us x) (tupU ts x) := by
  unfold encU tupU
  by_cases hx : x < us.length
  · have hx' : x < ts.length := by omega
    rw [List.getD_eq_getElem?_getD, List.getD_eq_getElem?_getD, List.getElem?_eq_getElem hx, List.getElem?_eq_getElem hx']
    exact h x _ _ (List.getElem?_eq_getElem hx) (List.getElem?_eq_getElem hx')
  · rw [List.getD_eq_getElem?_getD, List.getD_eq_getElem?_getD, List.getElem?_eq_none (by omega), List.getElem?_eq_none (by omega)]
    exact NInts.nil w L
theorem range_map_getD {α : Type} (l : List α) (z : α) : (List.range l.length).map (fun i => l.getD i z) = l := by
  apply List.ext_getElem
  · simp
  · intro i h1 h2
    simp [List.getD_eq_getElem?_getD, List.getElem?_eq_getElem h2]

theorem sort_own (v : Value) (us : List Value) (ts : List (List Int)) (w : World) (L : Nat) (hown : w.ownsRow L 25 1 v ts.length us) (hel : Elems w L us ts) (hnd : ts.Nodup) (hlen : ts.length ≤ 1000000) :
    Calls Tryz.prog 34 #[v, .func (.func 35) #[] #[]] w fun e w' => e = .returned (.tuple #[]) ∧ w.grownBy w' v.ownBlock ∧
      ∃ (us' : List Value) (ts' : List (List Int)), ts'.Perm ts ∧ us'.Perm us ∧ Sh.Rising ts' ∧ ts'.length = ts.length ∧ w'.ownsRow L 25 1 v ts.length us' ∧ Elems w' L us' ts' ∧ ∀ (j : Nat) (u : Value) (t : List Int), us'[j]? = some u → ts'[j]? = some t → ∃ i : Nat, us[i]? = some u ∧ ts[i]? = some t := by
  have hul : us.length = ts.length := by have := hown.1; omega
  by_cases h0 : ts.length = 0
  · obtain ⟨A, c, rfl⟩ := own_slice hown
    have ht : ts = [] := List.eq_nil_of_length_eq_zero h0
    subst ht
    refine (AnyF.slices_SortFunc_none (P := Tryz.prog) (ρ := Tryz.sortT_ren) { Tryz.sortT with } A c _ w).mono ?_
    rintro e w' ⟨rfl, rfl⟩
    exact ⟨rfl, World.grownBy.refl _ _, us, [], List.Perm.refl _, List.Perm.refl _, (by rw [Sh.rising_iff]; exact .nil), rfl, hown, hel, fun j u t g1 g2 => ⟨j, g1, g2⟩⟩
  · have hown' := hown
    rcases hown'.2 with ⟨-, hz⟩ | ⟨g, cap, cur, rfl, hbase, hb, hnc, hcm, hcs, htk⟩
    · exact absurd hz h0
    · have hall := elems_all hel hul
      have hk : ∀ (m : Nat) (os : Array Obj) (dk : Array Nat), Keeps L [3] w (sortWorld (encU us) w g 0 m dk os) := fun m os dk => Keeps.own (v := .slice (some ⟨g, 0, none⟩) ts.length cap) (grown_sortW dk) hown (by decide)
      have h1 : OneCell (encU us) := fun x => by
        obtain ⟨A, n, c, e, -⟩ := hall x
        rw [e]; rfl
      have hds : (List.range ts.length).toArray.size = ts.length := by simp
      have hH : Holds (encU us) w g 0 (List.range ts.length).toArray := fun j hj => by
        rw [hds] at hj
        have hj' : j < us.length := by omega
        refine ⟨?_, Blk.frozen (w := w) hb _⟩
        rw [Blk.cell (w := w) hb, Nat.zero_add, ← Array.getElem?_toList, ← List.getElem?_take_of_lt (show j < ts.length * 1 by omega), htk, List.getElem?_eq_getElem hj']
        have : (List.range ts.length).toArray[j]! = j := by rw [getElem!_pos _ j (by simpa using hj)]; simp
        rw [this]
        unfold encU
        rw [List.getD_eq_getElem?_getD, List.getElem?_eq_getElem hj']; rfl
      have hcmp : CmpReads Tryz.prog 35 #[] (encU us) (fun x y => Sh.cmpI (tupU ts x) (tupU ts y)) g 0 (List.range ts.length).toArray.size w := fun m os dk _ x y => by
        refine (compare_any _ _ _ _ _ _ ((hall x).keep (hk m os dk)).ints ((hall y).keep (hk m os dk)).ints).mono ?_
        rintro e w' ⟨rfl, rfl⟩
        exact ⟨rfl, 0, rfl⟩
      have hs := Any.slices_SortFunc Tryz.sortT (encU us) h1 _ (Sh.swo_ltT (tupU ts)) 35 #[] g 0 cap (List.range ts.length).toArray w compare_enters hcmp.lays hH (Array.getElem?_eq_some_iff.1 hb).1 (by rw [hds]; omega)
      rw [hds] at hs
      refine hs.mono ?_
      rintro e w' ⟨rfl, d', n, os, hp, hso, rfl⟩
      have hp' : PermIn 0 (List.range ts.length).toArray.size (List.range ts.length).toArray d' := by rw [hds]; exact hp
      have hso' : SortedIn (Sh.ltT (tupU ts)) 0 (List.range ts.length).toArray.size d' := by rw [hds]; exact hso
      have hperm := Sh.sorted_perm hp'
      have hd's : d'.size = ts.length := by rw [hp'.1, hds]
      have hT : (List.range ts.length).toArray.toList.map (tupU ts) = ts := range_map_getD ts []
      have hU : (List.range ts.length).toArray.toList.map (encU us) = us := by
        rw [← hul]; exact range_map_getD us _
      refine ⟨rfl, grown_sortW d', d'.toList.map (encU us), d'.toList.map (tupU ts), ?_, ?_, ?_, by simp [hd's], ⟨by simp [hd's], .inr ⟨g, cap, _, rfl, hbase, heap_sortW hb, hnc, hcm, ?_, ?_⟩⟩, ?_, ?_⟩
      · have := hperm.map (tupU ts); rwa [hT] at this
      · have := hperm.map (encU us); rwa [hU] at this
      · exact Sh.sorted_rising hp' hso' (by rw [hT]; exact hnd)
      · simp [putCells, hcs]
      · rw [Nat.mul_one, ← hd's]
        exact take_sortW _ _ _ (by omega)
      · intro j u t h2 h3
        rw [List.getElem?_map] at h2 h3
        cases hj : d'.toList[j]? with
        | none => rw [hj] at h2; cases h2
        | some x =>
          rw [hj] at h2 h3
          injection h2 with h2
          injection h3 with h3
          subst h2 h3
          exact (hall x).keep (hk _ _ _)
      · intro j u t h2 h3
        rw [List.getElem?_map] at h2 h3
        cases hj : d'.toList[j]? with
        | none => rw [hj] at h2; cases h2
        | some x =>
          rw [hj] at h2 h3
          injection h2 with h2
          injection h3 with h3
          subst h2 h3
          have hx : x < ts.length := by
            have := hperm.mem_iff.1 (List.mem_of_getElem? hj)
            simpa using this
          refine ⟨x, ?_, ?_⟩
          · unfold encU; rw [List.getD_eq_getElem?_getD, List.getElem?_eq_getElem (show x < us.length by omega)]; rfl
          · unfold tupU; rw [List.getD_eq_getElem?_getD, List.getElem?_eq_getElem hx]; rfl

end Go.Proofs.YtelememdhpncgaaGreatDoor

/-
  The copied structure while Permute turns it.
-/
namespace Go.Proofs.YtelememdhpncgaaGreatDoor
open Go.RowKit

theorem apart_flat {uss : List (List Value)} {lo hi : Nat} (h : Apart uss.flatten lo hi) {k : Nat} {us : List Value} (hk : uss[k]? = some us) : Apart us lo hi := by
  obtain ⟨h1, h2⟩ := h
  rw [List.filterMap_flatten] at h1 h2
  have hm : us.filterMap Value.ownBlock ∈ uss.map (List.filterMap Value.ownBlock) := List.mem_map.2 ⟨us, List.mem_of_getElem? hk, rfl⟩
  exact ⟨(List.pairwise_flatten.1 h1).1 _ hm, fun g hg => h2 g (List.mem_flatten.2 ⟨_, hm, hg⟩)⟩
theorem apart_cross {uss : List (List Value)} {lo hi k k' j j' g : Nat} {us us' : List Value} {u u' : Value} (h : Apart uss.flatten lo hi) (hk : uss[k]? = some us) (hk' : uss[k']? = some us') (hne : k ≠ k') (hj : us[j]? = some u) (hj' : us'[j']? = some u') (hu : u.ownBlock = some g) : u'.ownBlock ≠ some g := by
  obtain ⟨h1, -⟩ := h
  rw [List.filterMap_flatten] at h1
  have hp := (List.pairwise_flatten.1 h1).2
  rw [List.pairwise_map, List.pairwise_iff_getElem] at hp
  obtain ⟨hkl, rfl⟩ := List.getElem?_eq_some_iff.1 hk
  obtain ⟨hkl', rfl⟩ := List.getElem?_eq_some_iff.1 hk'
  intro hu'
  have m1 : g ∈ uss[k].filterMap Value.ownBlock := List.mem_filterMap.2 ⟨u, List.mem_of_getElem? hj, hu⟩
  have m2 : g ∈ uss[k'].filterMap Value.ownBlock := List.mem_filterMap.2 ⟨u', List.mem_of_getElem? hj', hu'⟩
  rcases Nat.lt_or_ge k k' with hlt | hge
  · exact hp k k' hkl hkl' hlt g m1 g m2 rfl
  · exact hp k' k hkl' hkl (by omega) g m2 g m1 rfl

/-- The relations' rows vs, the tuples' values uss, what they read: tss. -/
structure PSt (L H : Nat) (vs : List Value) (uss : List (List Value)) (tss : List (List (List Int))) (w : World) : Prop where
  size : H ≤ w.heap.size
  lenV : vs.length = tss.length
  lenU : uss.length = tss.length
  row : ∀ (k : Nat) (v : Value) (us : List Value) (ts : List (List Int)), vs[k]? = some v → uss[k]? = some us → tss[k]? = some ts →
    us.length = ts.length ∧ ts.length ≤ 1000000 ∧ w.ownsRow L 25 1 v ts.length us ∧ OElems w L us ts
  apV : Apart vs L H
  apU : Apart uss.flatten L H

theorem PSt.keep {L H : Nat} {vs : List Value} {uss : List (List Value)} {tss : List (List (List Int))} {w w' : World} (h : PSt L H vs uss tss w) (hk : Keeps L [3, 25] w w') : PSt L H vs uss tss w' where
  size := Nat.le_trans h.size hk.1
  lenV := h.lenV
  lenU := h.lenU
  row k v us ts h1 h2 h3 := by
    obtain ⟨a, b, c, d⟩ := h.row k v us ts h1 h2 h3
    exact ⟨a, b, own_keeps c hk (Nat.le_refl _) (by simp), d.keep (hk.mono (by simp))⟩
  apV := h.apV
  apU := h.apU

theorem PSt.store {L H : Nat} {vs : List Value} {uss : List (List Value)} {tss : List (List (List Int))} {w : World} (h : PSt L H vs uss tss w) {k j i g n c : Nat} {v : Value} {us : List Value} {ts : List (List Int)} {t : List Int}
    (hv : vs[k]? = some v) (hu : uss[k]? = some us) (ht : tss[k]? = some ts) (hj : us[j]? = some (.slice (some ⟨g, 0, none⟩) n c)) (htj : ts[j]? = some t) (hi : i < t.length) (x : Int) :
    PSt L H vs uss (tss.set k (ts.set j (t.set i x))) (w.setCell ⟨g, i, none⟩ (.int .i64 x)) where
  size := by rw [World.size_setCell]; exact h.size
  lenV := by rw [List.length_set]; exact h.lenV
  lenU := by rw [List.length_set]; exact h.lenU
  row := by
    obtain ⟨hl, hn, ho, he⟩ := h.row k v us ts hv hu ht
    obtain ⟨A, n', c', e1, e2, e3⟩ := he j _ t hj htj
    injection e1 with e1 e4 e5
    subst e1 e4 e5
    have hblk : ∃ cur : Array Value, w.heap[g]? = some (.cells cur 3 (0, 0)) := by
      obtain ⟨-, ⟨h0, -⟩ | ⟨g', cap, cur, hv', -, hh, -⟩⟩ := e3
      · cases h0
      · injection hv' with a1
        injection a1 with a1
        injection a1 with a1
        subst a1
        exact ⟨cur, hh⟩
    obtain ⟨cur, hh⟩ := hblk
    have hk : Keeps L [25] w (w.setCell ⟨g, i, none⟩ (.int .i64 x)) := Keeps.setCell (p := ⟨g, i, none⟩) hh (by decide) _
    intro k' v' us' ts' h1 h2 h3
    by_cases hkk : k = k'
    · subst hkk
      have hkl : k < tss.length := (List.getElem?_eq_some_iff.1 ht).1
      rw [List.getElem?_set_self hkl] at h3
      rw [hv] at h1
      rw [hu] at h2
      injection h1 with h1
      injection h2 with h2
      injection h3 with h3
      subst h1 h2 h3
      refine ⟨by rw [List.length_set]; exact hl, by rw [List.length_set]; exact hn, by rw [List.length_set]; exact own_keeps ho hk (Nat.le_refl _) (by simp), ?_⟩
      exact OElems.store he (apart_flat h.apU hu) hj htj hi x
    · rw [List.getElem?_set_ne hkk] at h3
      obtain ⟨a, b, d, e⟩ := h.row k' v' us' ts' h1 h2 h3
      refine ⟨a, b, own_keeps d hk (Nat.le_refl _) (by simp), fun j' u' t' g1 g2 => ?_⟩
      obtain ⟨A', n'', c'', q1, q2, q3⟩ := e j' u' t' g1 g2
      exact ⟨A', n'', c'', q1, q2, own_other q3 (p := ⟨g, i, none⟩) (apart_cross h.apU hu h2 hkk hj g1 rfl) _⟩
  apV := h.apV
  apU := h.apU

theorem flat_set_perm {α : Type} : ∀ (uss : List (List α)) (k : Nat) (us us' : List α), uss[k]? = some us → us'.Perm us → (uss.set k us').flatten.Perm uss.flatten
  | [], k, us, us', h, _ => by simp at h
  | x :: xs, 0, us, us', h, hp => by
    have h : x = us := by simpa using h
    subst h
    show (us' ++ xs.flatten).Perm (x ++ xs.flatten)
    exact hp.append_right _
  | x :: xs, k + 1, us, us', h, hp => by
    have h : xs[k]? = some us := by simpa using h
    show (x ++ (xs.set k us').flatten).Perm (x ++ xs.flatten)
    exact (flat_set_perm xs k us us' h hp).append_left x

theorem PSt.sort {L H : Nat} {vs : List Value} {uss : List (List Value)} {tss : List (List (List Int))} {w w' : World} (h : PSt L H vs uss tss w) {k : Nat} {v : Value} {us us' : List Value} {ts ts' : List (List Int)}
    (hv : vs[k]? = some v) (hu : uss[k]? = some us) (ht : tss[k]? = some ts) (hg : w.grownBy w' v.ownBlock) (hpu : us'.Perm us) (hpt : ts'.Perm ts) (ho : w'.ownsRow L 25 1 v ts.length us')
    (hpair : ∀ (j : Nat) (u : Value) (t : List Int), us'[j]? = some u → ts'[j]? = some t → ∃ i : Nat, us[i]? = some u ∧ ts[i]? = some t) :
    PSt L H vs (uss.set k us') (tss.set k ts') w' where
  size := Nat.le_trans h.size hg.size
  lenV := by rw [List.length_set]; exact h.lenV
  lenU := by rw [List.length_set, List.length_set]; exact h.lenU
  row := by
    obtain ⟨hl, hn, ho0, he⟩ := h.row k v us ts hv hu ht
    have hk : Keeps L [3] w w' := Keeps.own hg ho0 (by decide)
    intro k' v' us2 ts2 h1 h2 h3
    by_cases hkk : k = k'
    · subst hkk
      rw [List.getElem?_set_self (List.getElem?_eq_some_iff.1 hu).1] at h2
      rw [List.getElem?_set_self (List.getElem?_eq_some_iff.1 ht).1] at h3
      rw [hv] at h1
      injection h1 with h1
      injection h2 with h2
      injection h3 with h3
      subst h1 h2 h3
      have e1 := hpu.length_eq
      have e2 := hpt.length_eq
      refine ⟨by omega, by omega, by rw [e2]; exact ho, fun j u t g1 g2 => ?_⟩
      obtain ⟨i, q1, q2⟩ := hpair j u t g1 g2
      exact (he i u t q1 q2).keep hk
    · rw [List.getElem?_set_ne hkk] at h2 h3
      obtain ⟨a, b, d, e⟩ := h.row k' v' us2 ts2 h1 h2 h3
      refine ⟨a, b, d.kept hg ?_, e.keep hk⟩
      cases hvo : v'.ownBlock with
      | none => exact .inl rfl
      | some g =>
        refine .inr fun e' => ?_
        have := h.apV.ne h1 hv (fun e => hkk e.symm) hvo
        exact this e'.symm
  apV := h.apV
  apU := h.apU.perm (flat_set_perm uss k us us' hu hpu)

/-- A list whose first i members are turned by f. -/
def mixT {α : Type} (f : α → α) (t : List α) (i : Nat) : List α := (t.take i).map f ++ t.drop i
section
variable {α : Type} (f : α → α) (t : List α)
theorem mixT_zero : mixT f t 0 = t := by simp [mixT]
theorem mixT_all : mixT f t t.length = t.map f := by simp [mixT]
theorem mixT_length (i : Nat) : (mixT f t i).length = t.length := by simp [mixT]; omega
theorem mixT_at {i : Nat} {x : α} (h : t[i]? = some x) : (mixT f t i)[i]? = some x := by
  have hi := (List.getElem?_eq_some_iff.1 h).1
  unfold mixT
  rw [List.getElem?_append_right (by simp; omega)]
  simp only [List.length_map, List.length_take, Nat.min_eq_left (Nat.le_of_lt hi), Nat.sub_self]
  simpa using h
theorem mixT_set {i : Nat} {x : α} (h : t[i]? = some x) : (mixT f t i).set i (f x) = mixT f t (i + 1) := by
  have hi := (List.getElem?_eq_some_iff.1 h).1
  have hx : t[i] = x := (List.getElem?_eq_some_iff.1 h).2
  unfold mixT
  rw [List.set_append_right _ _ (by simp; omega)]
  simp only [List.length_map, List.length_take, Nat.min_eq_left (Nat.le_of_lt hi), Nat.sub_self]
  rw [List.take_succ_eq_append_getElem hi, List.map_append, List.append_assoc, hx, List.drop_eq_getElem_cons hi]
  rfl
end

theorem relcells_at {w : World} {L n c k : Nat} {A : Option Addr} {xs vs : List Value} {rs : List Sh.Rel} {r : Sh.Rel} {v : Value} (h : w.ownsRow L 57 3 (.slice A n c) n xs) (hc : RCells xs vs rs) (hk : k < n) (hr : rs[k]? = some r) (hv : vs[k]? = some v) :
    ∃ ad : Addr, A = some ad ∧ L ≤ ad.block ∧ w.cell? (ad.add (k * 3)) = some (.string r.name) ∧ w.cell? ⟨(ad.add (k * 3)).block, (ad.add (k * 3)).off + 1, none⟩ = some (.int .i64 r.arity) ∧ w.cell? ⟨(ad.add (k * 3)).block, (ad.add (k * 3)).off + 2, none⟩ = some v := by
  obtain ⟨ad, cs, e, hb, -, hcell⟩ := own_at h (by omega)
  obtain ⟨c0, c1, c2⟩ := hc.2.2 k r hr
  rw [hv] at c2
  refine ⟨ad, e, hb, hcell _ _ c0, ?_, ?_⟩
  · rw [← add_field]; exact hcell _ _ c1
  · rw [← add_field ad (k * 3) 1]; exact hcell _ _ c2

theorem PSt.of_rels {w : World} {L H : Nat} {vs : List Value} {uss : List (List Value)} {rs : List Sh.Rel} (h : ROwa w L vs uss rs) (hs : H ≤ w.heap.size) (hv : Apart vs L H) (hu : Apart uss.flatten L H) : PSt L H vs uss (rs.map (·.tuples)) w where
  size := hs
  lenV := by rw [List.length_map]; exact h.1
  lenU := by rw [List.length_map]; exact h.2.1
  row k v us ts h1 h2 h3 := by
    rw [List.getElem?_map] at h3
    cases hr : rs[k]? with
    | none => rw [hr] at h3; cases h3
    | some r =>
      rw [hr] at h3
      injection h3 with h3
      subst h3
      obtain ⟨-, b, c, d, e⟩ := h.2.2 k v us r h1 h2 hr
      exact ⟨c, b, d, e⟩
  apV := hv
  apU := hu

end Go.Proofs.YtelememdhpncgaaGreatDoor
