/-
  Walk: the reference's Keep.
-/
import Derived.Test.YtjkaicpohihncaaDoorRfind
import Derived.Test.YtjkaicpohihncaaDoorRcopy
import Derived.Deep.CutRange
import Derived.Deep.RegionLaw
import Derived.Deep.RegionHeld3
namespace Go.Proofs.YtjkaicpohihncaaDoor
open Go.RowKit

theorem bel_alloc {a W : World} (h : Below a.heap.size a W) (o : Obj) : Below a.heap.size a (W.alloc o) := h.alloc h.size o
theorem keepR_at {rs : List Sh.Rel} {ss : List (ByteArray × Int)} {k : Nat} {s : ByteArray × Int} (h : ss[k]? = some s) : (Sh.keepR rs ss)[k]? = some (Sh.keepOne rs s) := by
  unfold Sh.keepR; rw [List.getElem?_map, h]; rfl
theorem keepR_len (rs : List Sh.Rel) (ss : List (ByteArray × Int)) : (Sh.keepR rs ss).length = ss.length := by unfold Sh.keepR; simp

set_option maxRecDepth 100000 in
set_option maxHeartbeats 2000000 in
theorem refkeep_any (size : Int) (v u : Value) (rs : List Sh.Rel) (ss : List (ByteArray × Int)) (w : World) (B : Nat) (hB : B ≤ w.heap.size) (h : Rels w B v rs) (g : Syms w B u ss) (hl : ss.length ≤ 1000) (hvb : Sh.validB ⟨size, rs⟩ = true) (hft : Sh.fitsB rs ss = true) :
    Calls Tryd.prog 43 #[.agg #[.int .i64 size, v], u] w fun e w' => ∃ x, e = .returned (.agg #[.int .i64 size, x]) ∧ NRels w' w.heap.size x (Sh.keepR rs ss) ∧ Below w.heap.size w w' := by
  have h' := h
  obtain ⟨A, len, c, rfl, hlen, hmax, -⟩ := h'
  have g' := g
  obtain ⟨A', m, c', rfl, hm, hmm, -⟩ := g'
  have hl' : m ≤ 1000 := by omega
  clear hl
  have Hlen := Lib.hid hlen; clear hlen
  have Hm := Lib.hid hm; clear hm
  have Hvb := Lib.hid hvb; clear hvb
  have Hft := Lib.hid hft; clear hft
  go_enter Tryd.func43, Tryd.ntmps43
  go_wp2
  have hb3 : Below w.heap.size w (((w.alloc (.cells #[.int .i64 size, .slice A len c] 24)).alloc (.cells #[.int .i64 0, .slice none 0 0] 24)).alloc (.cells #[.int .i64 size, .slice none 0 0] 24)) :=
    (((Below.refl _ _).alloc (Nat.le_refl _) _).alloc (by simp) _).alloc (by simp; omega) _
  have hs3 : Blk (((w.alloc (.cells #[.int .i64 size, .slice A len c] 24)).alloc (.cells #[.int .i64 0, .slice none 0 0] 24)).alloc (.cells #[.int .i64 size, .slice none 0 0] 24)) w.heap.size 24 #[.int .i64 size, .slice A len c] := ((Blk.new w 24 #[.int .i64 size, .slice A len c]).alloc _).alloc _
  have hz3 : Blk (((w.alloc (.cells #[.int .i64 size, .slice A len c] 24)).alloc (.cells #[.int .i64 0, .slice none 0 0] 24)).alloc (.cells #[.int .i64 size, .slice none 0 0] 24)) (w.heap.size + 1) 24 #[.int .i64 0, .slice none 0 0] := by
    have := Blk.new (w.alloc (.cells #[.int .i64 size, .slice A len c] 24)) 24 #[.int .i64 0, .slice none 0 0]
    rw [World.size_alloc] at this
    exact this.alloc _
  have hc3 : Blk (((w.alloc (.cells #[.int .i64 size, .slice A len c] 24)).alloc (.cells #[.int .i64 0, .slice none 0 0] 24)).alloc (.cells #[.int .i64 size, .slice none 0 0] 24)) (w.heap.size + 1 + 1) 24 #[.int .i64 size, .slice none 0 0] := by
    have := Blk.new ((w.alloc (.cells #[.int .i64 size, .slice A len c] 24)).alloc (.cells #[.int .i64 0, .slice none 0 0] 24)) 24 #[.int .i64 size, .slice none 0 0]
    rw [World.size_alloc, World.size_alloc] at this
    exact this
  generalize ((w.alloc (.cells #[.int .i64 size, .slice A len c] 24)).alloc (.cells #[.int .i64 0, .slice none 0 0] 24)).alloc (.cells #[.int .i64 size, .slice none 0 0] 24) = W3 at *
  go_loopw [6] (fun i wr => ∃ (k : Nat) (tv : Value) (xs us : List Value), k ≤ m ∧ i = .int .i64 k ∧ Blk wr w.heap.size 24 #[.int .i64 size, .slice A len c] ∧ Blk wr (w.heap.size + 1) 24 #[.int .i64 0, .slice none 0 0] ∧
      Blk wr (w.heap.size + 1 + 1) 24 #[.int .i64 size, tv] ∧ wr.ownsRow (w.heap.size + 3) 51 3 tv k xs ∧ RCells xs us ((Sh.keepR rs ss).take k) ∧ RElems wr (w.heap.size + 3) us ((Sh.keepR rs ss).take k) ∧ Below w.heap.size w wr) (fun i _ => m - (intOf i).toNat)
  case atStart => exact ⟨0, .slice none 0 0, [], [], Nat.zero_le _, rfl, hs3, hz3, hc3, World.ownsRow_nil _ _ _ _, RCells.nil, (fun j u t h => by simp at h), hb3⟩
  case round =>
    obtain ⟨k, tv, xs, us, hk, rfl, hs, hz, hc, hown, hrc, hel, hbel⟩ := hrel
    clear hb3 hs3 hz3 hc3
    have Hown := Lib.hid hown; clear hown
    have Hrc := Lib.hid hrc; clear hrc
    obtain ⟨TA, TC, rfl⟩ := own_slice Hown.out
    have hlt3 := hc.lt
    by_cases hlt : k < m
    · obtain ⟨ad, s, rfl, hb, hsy, c0, -⟩ := (g.below (hbel.mono hB)).at_ hlt
      obtain ⟨j, r, hfj, hr, hko, hnme⟩ := Sh.fits_get Hft.out hsy
      have hkr := keepR_at (rs := rs) hsy
      rw [hko] at hkr
      have hjl : j < len := by rw [Hlen.out]; exact (List.getElem?_eq_some_iff.1 hr).1
      obtain ⟨ad2, u2, r2, rfl, hb2, hr2, d0, d1, d2, htu, hnz⟩ := (h.below (hbel.mono hB)).at_ hjl
      obtain rfl : r2 = r := Option.some.inj (hr2.symm.trans hr)
      have htu' := htu
      obtain ⟨UA, UN, UC, rfl, -⟩ := htu'
      have hbz := hbel.size
      obtain ⟨nm, ar⟩ := s
      simp only at c0 hfj hnme
      have hni : Sh.nameI nm.toList rs = j := by
        rcases Sh.nameI_cases nm.toList rs with ⟨-, e2⟩ | ⟨j', r', e1, hr', e2⟩
        · exact absurd hnme (e2 _ (List.mem_of_getElem? hr))
        · have hfn := Sh.find_name (ar := ar) (Sh.valid_names Hvb.out) hr' e2
          rw [hfj] at hfn
          split at hfn
          · rw [e1]; exact hfn.symm
          · omega
      have hsm := Sh.relB_small (Sh.validB_rel Hvb.out hr)
      have hb0 : W3.heap.size = W3.heap.size := rfl
      have hall : ∀ W, Below wr.heap.size wr W → (W.cell? ⟨w.heap.size, 0, none⟩ = some (.int .i64 size) ∧ W.cell? ⟨w.heap.size, 1, none⟩ = some (.slice (some ad2) len c) ∧ W.cell? (ad.add (k * 2)) = some (.string nm) ∧
          W.cell? (ad2.add (j * 3)) = some (.string r2.name) ∧ W.cell? ⟨(ad2.add (j * 3)).block, (ad2.add (j * 3)).off + 1, none⟩ = some (.int .i64 r2.arity) ∧ W.cell? ⟨(ad2.add (j * 3)).block, (ad2.add (j * 3)).off + 2, none⟩ = some (.slice UA UN UC) ∧ Below wr.heap.size wr W) := fun W hW =>
        ⟨(hW.cell (p := ⟨w.heap.size, 0, none⟩) hs.lt).trans (hs.cell 0), (hW.cell (p := ⟨w.heap.size, 1, none⟩) hs.lt).trans (hs.cell 1), (hW.cell (by rw [block_of_add]; omega)).trans c0,
         (hW.cell (by rw [block_of_add]; omega)).trans d0, (hW.cell (by show (ad2.add _).block < _; rw [block_of_add]; omega)).trans d1, (hW.cell (by show (ad2.add _).block < _; rw [block_of_add]; omega)).trans d2, hW⟩
      have hfind : ∀ W, (W.cell? ⟨w.heap.size, 0, none⟩ = some (.int .i64 size) ∧ W.cell? ⟨w.heap.size, 1, none⟩ = some (.slice (some ad2) len c) ∧ W.cell? (ad.add (k * 2)) = some (.string nm) ∧
          W.cell? (ad2.add (j * 3)) = some (.string r2.name) ∧ W.cell? ⟨(ad2.add (j * 3)).block, (ad2.add (j * 3)).off + 1, none⟩ = some (.int .i64 r2.arity) ∧ W.cell? ⟨(ad2.add (j * 3)).block, (ad2.add (j * 3)).off + 2, none⟩ = some (.slice UA UN UC) ∧ Below wr.heap.size wr W) →
          Calls Tryd.prog 30 #[.agg #[.int .i64 size, .slice (some ad2) len c], .string nm] W fun e w' => e = .returned (.int .i64 j) ∧ Below W.heap.size W w' ∧ (w'.cell? ⟨w.heap.size, 0, none⟩ = some (.int .i64 size) ∧ w'.cell? ⟨w.heap.size, 1, none⟩ = some (.slice (some ad2) len c) ∧ w'.cell? (ad.add (k * 2)) = some (.string nm) ∧
          w'.cell? (ad2.add (j * 3)) = some (.string r2.name) ∧ w'.cell? ⟨(ad2.add (j * 3)).block, (ad2.add (j * 3)).off + 1, none⟩ = some (.int .i64 r2.arity) ∧ w'.cell? ⟨(ad2.add (j * 3)).block, (ad2.add (j * 3)).off + 2, none⟩ = some (.slice UA UN UC) ∧ Below wr.heap.size wr w') := fun W hW => by
        have hWb := hW.2.2.2.2.2.2
        refine (reffind_any size _ rs nm W B (Nat.le_trans (by omega) hWb.size) (h.below ((hbel.trans (hWb.mono hbz)).mono hB))).mono ?_
        rw [hni]
        rintro e w' ⟨rfl, hb'⟩
        exact ⟨rfl, hb', hall w' (hWb.trans (hb'.mono hWb.size))⟩
      have Hfind := Lib.hid hfind; clear hfind
      have Hs0 := Lib.hid (hall wr (Below.refl _ _))
      have Hall := Lib.hid hall; clear hall
      have Hkr := Lib.hid hkr; clear hkr hko hfj hnme hni hr hr2 hsy
      have Hsm := Lib.hid hsm; clear hsm
      clear hb0
      have Hs := Lib.hid hs; clear hs
      have Hz := Lib.hid hz; clear hz
      have Hc := Lib.hid hc; clear hc
      go_upto_region 5 with fail
      go_cut [7] from 11 to 40 (fun s7 wx => ∃ G : Nat, s7 = .pointer (some ⟨G, 0, none⟩) ∧ wr.heap.size ≤ G ∧ Blk wx G 51 #[.string r2.name, .int .i64 r2.arity, .slice UA UN UC] ∧ Below wr.heap.size wr wx)
      case first =>
        obtain ⟨x0, x1, x2, x3, x4, x5, x6⟩ := Hs0.out
        go_region_held3 (fun W => W.cell? ⟨w.heap.size, 0, none⟩ = some (.int .i64 size) ∧ W.cell? ⟨w.heap.size, 1, none⟩ = some (.slice (some ad2) len c) ∧ W.cell? (ad.add (k * 2)) = some (.string nm) ∧
          W.cell? (ad2.add (j * 3)) = some (.string r2.name) ∧ W.cell? ⟨(ad2.add (j * 3)).block, (ad2.add (j * 3)).off + 1, none⟩ = some (.int .i64 r2.arity) ∧ W.cell? ⟨(ad2.add (j * 3)).block, (ad2.add (j * 3)).off + 2, none⟩ = some (.slice UA UN UC) ∧ Below wr.heap.size wr W)
          (first
            | assumption
            | (refine Hall.out _ ?_
               repeat (first | exact Below.refl _ _ | exact And.right (And.right (And.right (And.right (And.right (And.right (by assumption)))))) | refine Below.drew ?_ | refine Below.setCell ?_ (by first | simp | (simp; omega)) _ | refine bel_alloc ?_ _)))
          (first
            | (go_at_call 30; refine (Hfind.out _ (by assumption)).mono ?_; rintro e w1 ⟨rfl, hb1, hc1⟩; have hz1 : wr.heap.size ≤ w1.heap.size := hc1.2.2.2.2.2.2.size
               first
                 | (have hbx1 : Blk w1 wr.heap.size 51 #[.string ⟨#[]⟩, .int .i64 0, .slice none 0 0] := (Blk.new wr.drew 51 #[.string ⟨#[]⟩, .int .i64 0, .slice none 0 0]).below hb1 (by simp)
                    have hbc0 : w1.cell? ⟨wr.heap.size, 0, none⟩ = some (.string ⟨#[]⟩) := hbx1.cell 0
                    have hbc1 : w1.cell? ⟨wr.heap.size, 1, none⟩ = some (.int .i64 0) := hbx1.cell 1
                    have hbc2 : w1.cell? ⟨wr.heap.size, 2, none⟩ = some (.slice none 0 0) := hbx1.cell 2
                    have hbf0 := hbx1.frozen 0
                    have hbf1 := hbx1.frozen 1
                    have hbf2 := hbx1.frozen 2)
                 | skip))
        all_goals go_wp2_with fail
        all_goals first
          | (go_meet
             exact ⟨w1.heap.size, rfl, hz1, Blk.new w1 _ _, bel_alloc hc1.2.2.2.2.2.2 _⟩)
          | (go_meet
             exact ⟨wr.heap.size, rfl, Nat.le_refl _, ((hbx1.set_ 0 _).set_ 1 _).set_ 2 _, ((hc1.2.2.2.2.2.2.setCell (by simp) _).setCell (by simp) _).setCell (by simp) _⟩)
      case rest =>
        obtain ⟨G, rfl, hG, hbG, hbw⟩ := hcut
        have hcG : Blk wc (w.heap.size + 1 + 1) 24 #[.int .i64 size, .slice TA k TC] := Hc.out.below hbw hlt3
        have hbelc : Below w.heap.size w wc := hbel.trans (hbw.mono hbz)
        have hownc : wc.ownsRow (w.heap.size + 3) 51 3 (.slice TA k TC) k xs := own_below Hown.out hbw
        have helc : RElems wc (w.heap.size + 3) us ((Sh.keepR rs ss).take k) := hel.keep (Keeps.of_below hbw)
        have hzc := Hz.out.below hbw Hz.out.lt
        have hsc := Hs.out.below hbw Hs.out.lt
        have htc : Tups wc B (.slice UA UN UC) r2.tuples := htu.below (hbw.mono (by omega))
        have hGl := hbG.lt
        have hwz := hbw.size
        have hcall : ∀ W, Below wc.heap.size wc W → Calls Tryd.prog 69 #[.slice UA UN UC] W fun e w' => ∃ u, e = .returned u ∧ NTups w' W.heap.size u r2.tuples ∧ Below W.heap.size W w' := fun W hW =>
          copied_any _ r2.tuples W B (Nat.le_trans (by omega) hW.size) (htc.below (hW.mono (by omega))) (by have := Hsm.out.1; omega) (fun t ht => by have := Hsm.out.2 t ht; omega)
        have Hcall := Lib.hid hcall; clear hcall
        have hx0 : wc.drew.cell? ⟨G, 0, none⟩ = some (.string r2.name) := hbG.cell 0
        have hx1 : wc.drew.cell? ⟨G, 1, none⟩ = some (.int .i64 r2.arity) := hbG.cell 1
        have hx2 : wc.drew.cell? ⟨G, 2, none⟩ = some (.slice UA UN UC) := hbG.cell 2
        have hcc : wc.drew.cell? ⟨w.heap.size + 1 + 1, 1, none⟩ = some (.slice TA k TC) := hcG.cell 1
        have HbG := Lib.hid hbG; clear hbG
        have HcG := Lib.hid hcG; clear hcG
        have Hownc := Lib.hid hownc; clear hownc
        clear htu htc d0 d1 d2 c0 hel Hs0 Hall Hfind
        have hGne : G ≠ w.heap.size + 1 + 1 := by omega
        have hall2 : ∀ W, Blk W G 51 #[.string r2.name, .int .i64 r2.arity, .slice UA UN UC] → (W.cell? ⟨G, 0, none⟩ = some (.string r2.name) ∧ W.cell? ⟨G, 1, none⟩ = some (.int .i64 r2.arity) ∧ W.cell? ⟨G, 2, none⟩ = some (.slice UA UN UC)) := fun W h => ⟨h.cell 0, h.cell 1, h.cell 2⟩
        have Hall2 := Lib.hid hall2; clear hall2
        go_upto_region 6 with fail
        refine wp_region_held_drew (S := fun W => W.cell? ⟨G, 0, none⟩ = some (.string r2.name) ∧ W.cell? ⟨G, 1, none⟩ = some (.int .i64 r2.arity) ∧ W.cell? ⟨G, 2, none⟩ = some (.slice UA UN UC)) (by kernel_rfl) (Hall2.out _ HbG.out) (fun hHeld => ?_)
        refine wpAnyH_take (i := 0) (v := .pointer (some ⟨w.heap.size + 1 + 1, 1, none⟩)) rfl (by kernel_rfl) (by kernel_rfl) (by kernel_rfl) (fun _ _ _ h => h) (Or.inl ⟨by rfl, ?_⟩) (by assumption) ?_
        · (intro w' hSw; (try dsimp only at hSw); go_simp)
        try simp only [Act.put, List.setIfInBounds_toArray, List.set_cons_zero, List.set_cons_succ]
        refine wpAnyH_take (i := 2) (v := .pointer (some ⟨G, 0, none⟩)) rfl (by kernel_rfl) (by kernel_rfl) (by kernel_rfl) (fun _ _ _ h => h) (Or.inl ⟨by rfl, ?_⟩) (by assumption) ?_
        · (intro w' hSw; (try dsimp only at hSw); go_simp)
        try simp only [Act.put, List.setIfInBounds_toArray, List.set_cons_zero, List.set_cons_succ]
        refine wpAnyH_take (i := 3) (v := .string r2.name) rfl (by kernel_rfl) (by kernel_rfl) (by kernel_rfl) (fun _ _ _ h => h) (Or.inl ⟨by rfl, ?_⟩) (by assumption) ?_
        · (intro w' hSw; (try dsimp only at hSw); go_simp)
        try simp only [Act.put, List.setIfInBounds_toArray, List.set_cons_zero, List.set_cons_succ]
        refine wpAnyH_take (i := 4) (v := .pointer (some ⟨G, 1, none⟩)) rfl (by kernel_rfl) (by kernel_rfl) (by kernel_rfl) (fun _ _ _ h => h) (Or.inl ⟨by rfl, ?_⟩) (by assumption) ?_
        · (intro w' hSw; (try dsimp only at hSw); go_simp)
        try simp only [Act.put, List.setIfInBounds_toArray, List.set_cons_zero, List.set_cons_succ]
        refine wpAnyH_take (i := 5) (v := .int .i64 r2.arity) rfl (by kernel_rfl) (by kernel_rfl) (by kernel_rfl) (fun _ _ _ h => h) (Or.inl ⟨by rfl, ?_⟩) (by assumption) ?_
        · (intro w' hSw; (try dsimp only at hSw); go_simp)
        try simp only [Act.put, List.setIfInBounds_toArray, List.set_cons_zero, List.set_cons_succ]
        refine wpAnyH_take (i := 6) (v := .pointer (some ⟨G, 2, none⟩)) rfl (by kernel_rfl) (by kernel_rfl) (by kernel_rfl) (fun _ _ _ h => h) (Or.inl ⟨by rfl, ?_⟩) (by assumption) ?_
        · (intro w' hSw; (try dsimp only at hSw); go_simp)
        try simp only [Act.put, List.setIfInBounds_toArray, List.set_cons_zero, List.set_cons_succ]
        refine wpAnyH_take (i := 7) (v := .slice UA UN UC) rfl (by kernel_rfl) (by kernel_rfl) (by kernel_rfl) (fun _ _ _ h => h) (Or.inl ⟨by rfl, ?_⟩) (by assumption) ?_
        · (intro w' hSw; (try dsimp only at hSw); go_simp)
        try simp only [Act.put, List.setIfInBounds_toArray, List.set_cons_zero, List.set_cons_succ]
        refine wpAnyH_ready (rs := [1, 8]) (by kernel_rfl) (by simp) ?_
        refine AllReadyH.cons rfl (fun K hK => ?_) (AllReadyH.cons rfl (fun K hK => ?_) AllReadyH.nil)
        · skip
          go_simp
          refine hK.out _ _ ?_ (fun hHeld => ?_)
          · exact Hall2.out _ (HbG.out.drew)
          clear hK K
          try simp only [Act.put, List.setIfInBounds_toArray, List.set_cons_zero, List.set_cons_succ]
          refine wpAnyH_ready (rs := [8]) (by kernel_rfl) (by simp) ?_
          refine AllReadyH.cons rfl (fun K hK => ?_) AllReadyH.nil
          go_simp
          refine (Hcall.out _ (below_drewN (Below.refl _ _) 1)).mono ?_
          rintro e w7 ⟨x, rfl, hnt, hb7⟩
          have hnt' := hnt
          obtain ⟨XA, XN, XC, rfl, -⟩ := hnt'
          have hG7 : Blk w7 G 51 #[.string r2.name, .int .i64 r2.arity, .slice UA UN UC] := (HbG.out.drew).below hb7 (by simp; omega)
          have hc7 : Blk w7 (w.heap.size + 1 + 1) 24 #[.int .i64 size, .slice TA k TC] := (HcG.out.drew).below hb7 (by simp; omega)
          have hcc7 : w7.cell? ⟨w.heap.size + 1 + 1, 1, none⟩ = some (.slice TA k TC) := hc7.cell 1
          have hcc7' : (w7.alloc (.cells #[.string r2.name, .int .i64 r2.arity, .slice XA XN XC] 51)).cell? ⟨w.heap.size + 1 + 1, 1, none⟩ = some (.slice TA k TC) := (Blk.alloc hc7 _).cell 1
          have hown7 : (w7.alloc (.cells #[.string r2.name, .int .i64 r2.arity, .slice XA XN XC] 51)).ownsRow (w.heap.size + 3) 51 3 (.slice TA k TC) k xs := World.ownsRow.alloc (own_below (w := wc.drew) Hownc.out hb7) _
          refine hK.out _ _ ?_ (fun hHeld => ?_)
          · exact Hall2.out _ (hG7)
          clear hK K
          try simp only [Act.put, List.setIfInBounds_toArray, List.set_cons_zero, List.set_cons_succ]
          refine wpAnyH_ready (rs := [9]) (by kernel_rfl) (by simp) ?_
          refine AllReadyH.cons rfl (fun K hK => ?_) AllReadyH.nil
          go_simp
          refine hK.out _ _ ?_ (fun hHeld => ?_)
          · exact Hall2.out _ (hG7)
          clear hK K
          try simp only [Act.put, List.setIfInBounds_toArray, List.set_cons_zero, List.set_cons_succ]
          refine wpAnyH_ready (rs := [10]) (by kernel_rfl) (by simp) ?_
          refine AllReadyH.cons rfl (fun K hK => ?_) AllReadyH.nil
          go_simp
          refine hK.out _ _ ?_ (fun hHeld => ?_)
          · exact Hall2.out _ (Blk.alloc hG7 _)
          clear hK K
          try simp only [Act.put, List.setIfInBounds_toArray, List.set_cons_zero, List.set_cons_succ]
          refine wpAnyH_ready (rs := [11]) (by kernel_rfl) (by simp) ?_
          refine AllReadyH.cons rfl (fun K hK => ?_) AllReadyH.nil
          refine step_append_rel _ rfl _ _ rfl (w.heap.size + 3) _ k xs rfl hown7 w7.heap.size 1 _ _ _ rfl (Blk.new w7 51 #[.string r2.name, .int .i64 r2.arity, .slice XA XN XC]) rfl rfl rfl (by omega) (by have := hb7.size; simp at this ⊢; omega) ?_
          intro v8 w8 hown8 hg8
          obtain ⟨VA, VC, rfl⟩ := own_slice hown8
          have hc8 : Blk w8 (w.heap.size + 1 + 1) 24 #[.int .i64 size, .slice TA k TC] := Blk.grown (Blk.alloc hc7 _) hg8 (fun e => by have := (hown7.lt _ e.symm).1; omega)
          have hG8 : Blk w8 G 51 #[.string r2.name, .int .i64 r2.arity, .slice UA UN UC] := Blk.grown (Blk.alloc hG7 _) hg8 (fun e => by have := (Hown.out.lt _ e.symm).2; omega)
          have hcc8 : w8.cell? ⟨w.heap.size + 1 + 1, 1, none⟩ = some (.slice TA k TC) := hc8.cell 1
          have hcf8 := hc8.frozen 1
          refine hK.out _ _ ?_ (fun hHeld => ?_)
          · exact Hall2.out _ (hG8)
          clear hK K
          try simp only [Act.put, List.setIfInBounds_toArray, List.set_cons_zero, List.set_cons_succ]
          refine wpAnyH_ready (rs := [12]) (by kernel_rfl) (by simp) ?_
          refine AllReadyH.cons rfl (fun K hK => ?_) AllReadyH.nil
          go_simp
          refine hK.out _ _ ?_ (fun hHeld => ?_)
          · exact Hall2.out _ (hG8)
          clear hK K
          try simp only [Act.put, List.setIfInBounds_toArray, List.set_cons_zero, List.set_cons_succ]
          refine wpAnyH_ready (rs := [13]) (by kernel_rfl) (by simp) ?_
          refine AllReadyH.cons rfl (fun K hK => ?_) AllReadyH.nil
          go_simp
          refine hK.out _ _ ?_ (fun hHeld => ?_)
          · exact Hall2.out _ (Blk.far hG8 hGne _)
          clear hK K
          try simp only [Act.put, List.setIfInBounds_toArray, List.set_cons_zero, List.set_cons_succ]
          refine wpAnyH_done (by kernel_rfl) ?_ _
          go_wp2
          have hs7 : wc.heap.size ≤ w7.heap.size := hb7.size
          have hg8' : (w7.alloc (.cells #[.string r2.name, .int .i64 r2.arity, .slice XA XN XC] 51)).grownBy w8 (Value.slice TA k TC).ownBlock := hg8
          have hbase : ∀ g, (Value.slice TA k TC).ownBlock = some g → w.heap.size + 3 ≤ g := fun g e => (hown7.lt g e).1
          have hk7 : Keeps (w.heap.size + 3) [3, 35] w7 (w8.setCell ⟨w.heap.size + 1 + 1, 1, none⟩ (.slice VA (k + 1) VC)) :=
            (Keeps.alloc _ _ _ _).trans ((Keeps.own hg8' hown7 (by decide)).trans (Keeps.setCell (p := ⟨w.heap.size + 1 + 1, 1, none⟩) hc8 (by decide) _))
          refine ⟨⟨k + 1, .slice VA (k + 1) VC, xs ++ [.string r2.name, .int .i64 r2.arity, .slice XA XN XC], us ++ [.slice XA XN XC], by omega, by go_num, ?_, ?_, hc8.set_ 1 _, own_set hown8 (show w.heap.size + 1 + 1 < w.heap.size + 3 by omega) _, by rw [take_snoc Hkr.out]; exact Hrc.out.snoc r2 _, ?_, ?_⟩, by simp [intOf]; omega⟩
          · exact Blk.far (Blk.grown (Blk.alloc (hsc.drew.below hb7 (by simp; omega)) _) hg8' (fun e => by have := hbase _ e.symm; omega)) (by simp; omega) _
          · exact Blk.far (Blk.grown (Blk.alloc (hzc.drew.below hb7 (by simp; omega)) _) hg8' (fun e => by have := hbase _ e.symm; omega)) (by simp) _
          · rw [take_snoc Hkr.out]
            exact RElems.snoc ((helc.keep ((Keeps.drewN _ _ wc 1).trans (Keeps.of_below hb7))).keep hk7) Hrc.out.2.1 ((hnt.more (by simp; omega)).keep hk7) hnz
          · exact (((hbelc.drew.trans (hb7.mono (by simp; omega))).alloc (by omega) _).grown hg8' (by simp; omega) (fun g e => by have := hbase g e; omega)).setCell (show w.heap.size ≤ w.heap.size + 1 + 1 by omega) _
        · skip
          go_simp
          refine (Hcall.out _ (below_drewN (Below.refl _ _) 1)).mono ?_
          rintro e w7 ⟨x, rfl, hnt, hb7⟩
          have hnt' := hnt
          obtain ⟨XA, XN, XC, rfl, -⟩ := hnt'
          have hG7 : Blk w7 G 51 #[.string r2.name, .int .i64 r2.arity, .slice UA UN UC] := (HbG.out.drew).below hb7 (by simp; omega)
          have hc7 : Blk w7 (w.heap.size + 1 + 1) 24 #[.int .i64 size, .slice TA k TC] := (HcG.out.drew).below hb7 (by simp; omega)
          have hcc7 : w7.cell? ⟨w.heap.size + 1 + 1, 1, none⟩ = some (.slice TA k TC) := hc7.cell 1
          have hcc7' : (w7.alloc (.cells #[.string r2.name, .int .i64 r2.arity, .slice XA XN XC] 51)).cell? ⟨w.heap.size + 1 + 1, 1, none⟩ = some (.slice TA k TC) := (Blk.alloc hc7 _).cell 1
          have hown7 : (w7.alloc (.cells #[.string r2.name, .int .i64 r2.arity, .slice XA XN XC] 51)).ownsRow (w.heap.size + 3) 51 3 (.slice TA k TC) k xs := World.ownsRow.alloc (own_below (w := wc.drew) Hownc.out hb7) _
          refine hK.out _ _ ?_ (fun hHeld => ?_)
          · exact Hall2.out _ (hG7)
          clear hK K
          try simp only [Act.put, List.setIfInBounds_toArray, List.set_cons_zero, List.set_cons_succ]
          refine wpAnyH_take (i := 9) (v := .agg #[.string r2.name, .int .i64 r2.arity, .slice XA XN XC]) rfl (by kernel_rfl) (by kernel_rfl) (by kernel_rfl) (fun _ _ _ h => h) (Or.inl ⟨by rfl, ?_⟩) (by assumption) ?_
          · (intro w' hSw; (try dsimp only at hSw); go_simp)
          try simp only [Act.put, List.setIfInBounds_toArray, List.set_cons_zero, List.set_cons_succ]
          refine wpAnyH_ready (rs := [1, 10]) (by kernel_rfl) (by simp) ?_
          refine AllReadyH.cons rfl (fun K hK => ?_) (AllReadyH.cons rfl (fun K hK => ?_) AllReadyH.nil)
          · skip
            go_simp
            refine hK.out _ _ ?_ (fun hHeld => ?_)
            · exact Hall2.out _ (hG7)
            clear hK K
            try simp only [Act.put, List.setIfInBounds_toArray, List.set_cons_zero, List.set_cons_succ]
            refine wpAnyH_ready (rs := [10]) (by kernel_rfl) (by simp) ?_
            refine AllReadyH.cons rfl (fun K hK => ?_) AllReadyH.nil
            go_simp
            refine hK.out _ _ ?_ (fun hHeld => ?_)
            · exact Hall2.out _ (Blk.alloc hG7 _)
            clear hK K
            try simp only [Act.put, List.setIfInBounds_toArray, List.set_cons_zero, List.set_cons_succ]
            refine wpAnyH_ready (rs := [11]) (by kernel_rfl) (by simp) ?_
            refine AllReadyH.cons rfl (fun K hK => ?_) AllReadyH.nil
            refine step_append_rel _ rfl _ _ rfl (w.heap.size + 3) _ k xs rfl hown7 w7.heap.size 1 _ _ _ rfl (Blk.new w7 51 #[.string r2.name, .int .i64 r2.arity, .slice XA XN XC]) rfl rfl rfl (by omega) (by have := hb7.size; simp at this ⊢; omega) ?_
            intro v8 w8 hown8 hg8
            obtain ⟨VA, VC, rfl⟩ := own_slice hown8
            have hc8 : Blk w8 (w.heap.size + 1 + 1) 24 #[.int .i64 size, .slice TA k TC] := Blk.grown (Blk.alloc hc7 _) hg8 (fun e => by have := (hown7.lt _ e.symm).1; omega)
            have hG8 : Blk w8 G 51 #[.string r2.name, .int .i64 r2.arity, .slice UA UN UC] := Blk.grown (Blk.alloc hG7 _) hg8 (fun e => by have := (Hown.out.lt _ e.symm).2; omega)
            have hcc8 : w8.cell? ⟨w.heap.size + 1 + 1, 1, none⟩ = some (.slice TA k TC) := hc8.cell 1
            have hcf8 := hc8.frozen 1
            refine hK.out _ _ ?_ (fun hHeld => ?_)
            · exact Hall2.out _ (hG8)
            clear hK K
            try simp only [Act.put, List.setIfInBounds_toArray, List.set_cons_zero, List.set_cons_succ]
            refine wpAnyH_ready (rs := [12]) (by kernel_rfl) (by simp) ?_
            refine AllReadyH.cons rfl (fun K hK => ?_) AllReadyH.nil
            go_simp
            refine hK.out _ _ ?_ (fun hHeld => ?_)
            · exact Hall2.out _ (hG8)
            clear hK K
            try simp only [Act.put, List.setIfInBounds_toArray, List.set_cons_zero, List.set_cons_succ]
            refine wpAnyH_ready (rs := [13]) (by kernel_rfl) (by simp) ?_
            refine AllReadyH.cons rfl (fun K hK => ?_) AllReadyH.nil
            go_simp
            refine hK.out _ _ ?_ (fun hHeld => ?_)
            · exact Hall2.out _ (Blk.far hG8 hGne _)
            clear hK K
            try simp only [Act.put, List.setIfInBounds_toArray, List.set_cons_zero, List.set_cons_succ]
            refine wpAnyH_done (by kernel_rfl) ?_ _
            go_wp2
            have hs7 : wc.heap.size ≤ w7.heap.size := hb7.size
            have hg8' : (w7.alloc (.cells #[.string r2.name, .int .i64 r2.arity, .slice XA XN XC] 51)).grownBy w8 (Value.slice TA k TC).ownBlock := hg8
            have hbase : ∀ g, (Value.slice TA k TC).ownBlock = some g → w.heap.size + 3 ≤ g := fun g e => (hown7.lt g e).1
            have hk7 : Keeps (w.heap.size + 3) [3, 35] w7 (w8.setCell ⟨w.heap.size + 1 + 1, 1, none⟩ (.slice VA (k + 1) VC)) :=
              (Keeps.alloc _ _ _ _).trans ((Keeps.own hg8' hown7 (by decide)).trans (Keeps.setCell (p := ⟨w.heap.size + 1 + 1, 1, none⟩) hc8 (by decide) _))
            refine ⟨⟨k + 1, .slice VA (k + 1) VC, xs ++ [.string r2.name, .int .i64 r2.arity, .slice XA XN XC], us ++ [.slice XA XN XC], by omega, by go_num, ?_, ?_, hc8.set_ 1 _, own_set hown8 (show w.heap.size + 1 + 1 < w.heap.size + 3 by omega) _, by rw [take_snoc Hkr.out]; exact Hrc.out.snoc r2 _, ?_, ?_⟩, by simp [intOf]; omega⟩
            · exact Blk.far (Blk.grown (Blk.alloc (hsc.drew.below hb7 (by simp; omega)) _) hg8' (fun e => by have := hbase _ e.symm; omega)) (by simp; omega) _
            · exact Blk.far (Blk.grown (Blk.alloc (hzc.drew.below hb7 (by simp; omega)) _) hg8' (fun e => by have := hbase _ e.symm; omega)) (by simp) _
            · rw [take_snoc Hkr.out]
              exact RElems.snoc ((helc.keep ((Keeps.drewN _ _ wc 1).trans (Keeps.of_below hb7))).keep hk7) Hrc.out.2.1 ((hnt.more (by simp; omega)).keep hk7) hnz
            · exact (((hbelc.drew.trans (hb7.mono (by simp; omega))).alloc (by omega) _).grown hg8' (by simp; omega) (fun g e => by have := hbase g e; omega)).setCell (show w.heap.size ≤ w.heap.size + 1 + 1 by omega) _
          · skip
            go_simp
            refine hK.out _ _ ?_ (fun hHeld => ?_)
            · exact Hall2.out _ (Blk.alloc hG7 _)
            clear hK K
            try simp only [Act.put, List.setIfInBounds_toArray, List.set_cons_zero, List.set_cons_succ]
            refine wpAnyH_ready (rs := [1]) (by kernel_rfl) (by simp) ?_
            refine AllReadyH.cons rfl (fun K hK => ?_) AllReadyH.nil
            go_simp
            refine hK.out _ _ ?_ (fun hHeld => ?_)
            · exact Hall2.out _ (Blk.alloc hG7 _)
            clear hK K
            try simp only [Act.put, List.setIfInBounds_toArray, List.set_cons_zero, List.set_cons_succ]
            refine wpAnyH_ready (rs := [11]) (by kernel_rfl) (by simp) ?_
            refine AllReadyH.cons rfl (fun K hK => ?_) AllReadyH.nil
            refine step_append_rel _ rfl _ _ rfl (w.heap.size + 3) _ k xs rfl hown7 w7.heap.size 1 _ _ _ rfl (Blk.new w7 51 #[.string r2.name, .int .i64 r2.arity, .slice XA XN XC]) rfl rfl rfl (by omega) (by have := hb7.size; simp at this ⊢; omega) ?_
            intro v8 w8 hown8 hg8
            obtain ⟨VA, VC, rfl⟩ := own_slice hown8
            have hc8 : Blk w8 (w.heap.size + 1 + 1) 24 #[.int .i64 size, .slice TA k TC] := Blk.grown (Blk.alloc hc7 _) hg8 (fun e => by have := (hown7.lt _ e.symm).1; omega)
            have hG8 : Blk w8 G 51 #[.string r2.name, .int .i64 r2.arity, .slice UA UN UC] := Blk.grown (Blk.alloc hG7 _) hg8 (fun e => by have := (Hown.out.lt _ e.symm).2; omega)
            have hcc8 : w8.cell? ⟨w.heap.size + 1 + 1, 1, none⟩ = some (.slice TA k TC) := hc8.cell 1
            have hcf8 := hc8.frozen 1
            refine hK.out _ _ ?_ (fun hHeld => ?_)
            · exact Hall2.out _ (hG8)
            clear hK K
            try simp only [Act.put, List.setIfInBounds_toArray, List.set_cons_zero, List.set_cons_succ]
            refine wpAnyH_ready (rs := [12]) (by kernel_rfl) (by simp) ?_
            refine AllReadyH.cons rfl (fun K hK => ?_) AllReadyH.nil
            go_simp
            refine hK.out _ _ ?_ (fun hHeld => ?_)
            · exact Hall2.out _ (hG8)
            clear hK K
            try simp only [Act.put, List.setIfInBounds_toArray, List.set_cons_zero, List.set_cons_succ]
            refine wpAnyH_ready (rs := [13]) (by kernel_rfl) (by simp) ?_
            refine AllReadyH.cons rfl (fun K hK => ?_) AllReadyH.nil
            go_simp
            refine hK.out _ _ ?_ (fun hHeld => ?_)
            · exact Hall2.out _ (Blk.far hG8 hGne _)
            clear hK K
            try simp only [Act.put, List.setIfInBounds_toArray, List.set_cons_zero, List.set_cons_succ]
            refine wpAnyH_done (by kernel_rfl) ?_ _
            go_wp2
            have hs7 : wc.heap.size ≤ w7.heap.size := hb7.size
            have hg8' : (w7.alloc (.cells #[.string r2.name, .int .i64 r2.arity, .slice XA XN XC] 51)).grownBy w8 (Value.slice TA k TC).ownBlock := hg8
            have hbase : ∀ g, (Value.slice TA k TC).ownBlock = some g → w.heap.size + 3 ≤ g := fun g e => (hown7.lt g e).1
            have hk7 : Keeps (w.heap.size + 3) [3, 35] w7 (w8.setCell ⟨w.heap.size + 1 + 1, 1, none⟩ (.slice VA (k + 1) VC)) :=
              (Keeps.alloc _ _ _ _).trans ((Keeps.own hg8' hown7 (by decide)).trans (Keeps.setCell (p := ⟨w.heap.size + 1 + 1, 1, none⟩) hc8 (by decide) _))
            refine ⟨⟨k + 1, .slice VA (k + 1) VC, xs ++ [.string r2.name, .int .i64 r2.arity, .slice XA XN XC], us ++ [.slice XA XN XC], by omega, by go_num, ?_, ?_, hc8.set_ 1 _, own_set hown8 (show w.heap.size + 1 + 1 < w.heap.size + 3 by omega) _, by rw [take_snoc Hkr.out]; exact Hrc.out.snoc r2 _, ?_, ?_⟩, by simp [intOf]; omega⟩
            · exact Blk.far (Blk.grown (Blk.alloc (hsc.drew.below hb7 (by simp; omega)) _) hg8' (fun e => by have := hbase _ e.symm; omega)) (by simp; omega) _
            · exact Blk.far (Blk.grown (Blk.alloc (hzc.drew.below hb7 (by simp; omega)) _) hg8' (fun e => by have := hbase _ e.symm; omega)) (by simp) _
            · rw [take_snoc Hkr.out]
              exact RElems.snoc ((helc.keep ((Keeps.drewN _ _ wc 1).trans (Keeps.of_below hb7))).keep hk7) Hrc.out.2.1 ((hnt.more (by simp; omega)).keep hk7) hnz
            · exact (((hbelc.drew.trans (hb7.mono (by simp; omega))).alloc (by omega) _).grown hg8' (by simp; omega) (fun g e => by have := hbase g e; omega)).setCell (show w.heap.size ≤ w.heap.size + 1 + 1 by omega) _
    · have hkl : k = m := by omega
      subst hkl
      have htk : (Sh.keepR rs ss).take k = Sh.keepR rs ss := List.take_of_length_le (by rw [keepR_len]; have := Hm.out; omega)
      have hrc' := Hrc.out
      rw [htk] at hel hrc'
      have hnt : NRels wr (w.heap.size + 3) (.slice TA k TC) (Sh.keepR rs ss) := NRels.own Hown.out (Nat.le_refl _) (by omega) hrc' hel
      have hcc0 : wr.cell? ⟨w.heap.size + 1 + 1, 0, none⟩ = some (.int .i64 size) := hc.cell 0
      have hcc1 : wr.cell? ⟨w.heap.size + 1 + 1, 1, none⟩ = some (.slice TA k TC) := hc.cell 1
      have hzc0 : wr.cell? ⟨w.heap.size + 1, 0, none⟩ = some (.int .i64 0) := hz.cell 0
      have hzc1 : wr.cell? ⟨w.heap.size + 1, 1, none⟩ = some (.slice none 0 0) := hz.cell 1
      have hzf0 := hz.frozen 0
      have hzf1 := hz.frozen 1
      have Hnt := Lib.hid hnt; clear hnt htk hel hrc'
      go_wp2
      refine bodyPost_ret (v := .agg #[.int .i64 size, .slice TA k TC]) (by simp [results, Tryd.results43, go_sem, hzc0, hzc1]) rfl ?_
      have hk0 : Keeps (w.heap.size + 3) [3, 35, 51] wr ((wr.setCell ⟨w.heap.size + 1, 0, none⟩ (.int .i64 size)).setCell ⟨w.heap.size + 1, 1, none⟩ (.slice TA k TC)) :=
        (Keeps.setCell (p := ⟨w.heap.size + 1, 0, none⟩) hz (by decide) _).trans (Keeps.setCell (p := ⟨w.heap.size + 1, 1, none⟩) (hz.set_ _ _) (by decide) _)
      refine ⟨_, rfl, (Hnt.out.keep hk0).more (by omega), ?_⟩
      exact (hbel.setCell (by simp) _).setCell (by simp) _

end Go.Proofs.YtjkaicpohihncaaDoor
