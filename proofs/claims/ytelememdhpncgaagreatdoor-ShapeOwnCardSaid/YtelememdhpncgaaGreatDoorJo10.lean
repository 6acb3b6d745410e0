/-
  Texts joined: Rscopy, Few, Fewt.
-/
import Derived.Test.YtelememdhpncgaaGreatDoorJo9
import Derived.Deep.CutRange
import Derived.Deep.RegionHeld3
import Derived.Test.YtelememdhpncgaaGreatDoorJo1
import Derived.Test.YtelememdhpncgaaGreatDoorJo7

/-
  Walk: the reference's Copy.
-/
namespace Go.Proofs.YtelememdhpncgaaGreatDoor
open Go.RowKit

/-- The relations of a copy: the row is the call's own, and so is what it holds. -/
def CRels (w : World) (L : Nat) (v : Value) (rs : List Sh.Rel) : Prop := ∃ xs us, w.ownsRow L 57 3 v rs.length xs ∧ RCells xs us rs ∧ RElems w L us rs
theorem relems_more {w : World} {L L' : Nat} {us : List Value} {rs : List Sh.Rel} (h : RElems w L us rs) (hL : L' ≤ L) : RElems w L' us rs := fun j u r h1 h2 => ⟨(h j u r h1 h2).1.more hL, (h j u r h1 h2).2⟩
theorem CRels.rels {w : World} {L : Nat} {v : Value} {rs : List Sh.Rel} (h : CRels w L v rs) (hl : rs.length ≤ 1000000) : NRels w L v rs := by
  obtain ⟨xs, vs, h1, h2, h3⟩ := h
  exact NRels.own h1 (Nat.le_refl _) (by omega) h2 h3
theorem CRels.keep {w w' : World} {L : Nat} {v : Value} {rs : List Sh.Rel} (h : CRels w L v rs) (hk : Keeps L [3, 25, 57] w w') : CRels w' L v rs := by
  obtain ⟨xs, vs, h1, h2, h3⟩ := h
  exact ⟨xs, vs, own_keeps h1 hk (Nat.le_refl _) (by simp), h2, h3.keep (hk.mono (by simp))⟩

set_option maxRecDepth 100000 in
set_option maxHeartbeats 2000000 in
theorem refcopy_own (size : Int) (v : Value) (rs : List Sh.Rel) (w : World) (B : Nat) (hB : B ≤ w.heap.size) (h : Rels w B v rs) (hl : rs.length ≤ 1000000) (ht : ∀ r ∈ rs, r.tuples.length ≤ 1000000 ∧ ∀ t ∈ r.tuples, t.length ≤ 1000000) :
    Calls Tryz.prog 13 #[.agg #[.int .i64 size, v]] w fun e w' => ∃ x, e = .returned (.agg #[.int .i64 size, x]) ∧ CRels w' w.heap.size x rs ∧ Below w.heap.size w w' := by
  have h' := h
  obtain ⟨A, len, c, rfl, hlen, hmax, -⟩ := h'
  have hl' : len ≤ 1000000 := by omega
  clear hl hmax
  have Hlen := Lib.hid hlen; clear hlen
  have Ht := Lib.hid ht; clear ht
  go_enter Tryz.func13, Tryz.ntmps13
  go_wp2
  have hb3 : Below w.heap.size w (((w.alloc (.cells #[.int .i64 size, .slice A len c] 24)).alloc (.cells #[.int .i64 0, .slice none 0 0] 24)).alloc (.cells #[.int .i64 size, .slice none 0 0] 24)) :=
    (((Below.refl _ _).alloc (Nat.le_refl _) _).alloc (by simp) _).alloc (by simp; omega) _
  have hs3 : Blk (((w.alloc (.cells #[.int .i64 size, .slice A len c] 24)).alloc (.cells #[.int .i64 0, .slice none 0 0] 24)).alloc (.cells #[.int .i64 size, .slice none 0 0] 24)) w.heap.size 24 #[.int .i64 size, .slice A len c] := ((Blk.new w 24 #[.int .i64 size, .slice A len c]).alloc _).alloc _
  have hz3 : Blk (((w.alloc (.cells #[.int .i64 size, .slice A len c] 24)).alloc (.cells #[.int .i64 0, .slice none 0 0] 24)).alloc (.cells #[.int .i64 size, .slice none 0 0] 24)) (w.heap.size + 1) 24 #[.int .i64 0, .slice none 0 0] := by
    have := Blk.new (w.alloc (.cells #[.int .i64 size, .slice A len c] 24)) 24 #[.int .i64 0, .slice none 0 0]
    rw [World.size_alloc] at this
    exact this.alloc _
  have hc3 : Blk (((w.alloc (.cells #[.int .i64 size, .slice A len c] 24)).alloc (.cells #[.int .i64 0, .slice none 0 0] 24)).alloc (.cells #[.int .i64 size, .slice none 0 0] 24)) (w.heap.size + 1 + 1) 24 #[.int .i64 size, .slice none 0 0] := by
    have := Blk.new ((w.alloc (.cells #[.int .i64 size, .slice A len c] 24)).alloc (.cells #[.int .i64 0, .slice none 0 0] 24)) 24 #[.int .i64 size, .slice none 0 0]
    rw [World.size_alloc, World.size_alloc] at this
    exact this
  generalize ((w.alloc (.cells #[.int .i64 size, .slice A len c] 24)).alloc (.cells #[.int .i64 0, .slice none 0 0] 24)).alloc (.cells #[.int .i64 size, .slice none 0 0] 24) = W3 at *
  go_loopw [4] (fun i wr => ∃ (k : Nat) (tv : Value) (xs us : List Value), k ≤ len ∧ i = .int .i64 k ∧ Blk wr w.heap.size 24 #[.int .i64 size, .slice A len c] ∧ Blk wr (w.heap.size + 1) 24 #[.int .i64 0, .slice none 0 0] ∧
      Blk wr (w.heap.size + 1 + 1) 24 #[.int .i64 size, tv] ∧ wr.ownsRow (w.heap.size + 3) 57 3 tv k xs ∧ RCells xs us (rs.take k) ∧ RElems wr (w.heap.size + 3) us (rs.take k) ∧ Below w.heap.size w wr) (fun i _ => len - (intOf i).toNat)
  case atStart => exact ⟨0, .slice none 0 0, [], [], Nat.zero_le _, rfl, hs3, hz3, hc3, World.ownsRow_nil _ _ _ _, RCells.nil, (fun j u t h => by simp at h), hb3⟩
  case round =>
    obtain ⟨k, tv, xs, us, hk, rfl, hs, hz, hc, hown, hrc, hel, hbel⟩ := hrel
    clear hb3 hs3 hz3 hc3
    have Hown := Lib.hid hown; clear hown
    have Hrc := Lib.hid hrc; clear hrc
    obtain ⟨TA, TC, rfl⟩ := own_slice Hown.out
    have hlt3 := hc.lt
    have hs1 : wr.cell? ⟨w.heap.size, 1, none⟩ = some (.slice A len c) := hs.cell 1
    by_cases hlt : k < len
    · obtain ⟨ad, u2, r2, rfl, hb2, hr, d0, d1, d2, htu, hnz⟩ := (h.below (hbel.mono hB)).at_ hlt
      have htu' := htu
      obtain ⟨UA, UN, UC, rfl, -⟩ := htu'
      have hbz := hbel.size
      have Hr := Lib.hid hr; clear hr
      have hcall : ∀ W, Below wr.heap.size wr W → Calls Tryz.prog 36 #[.slice UA UN UC] W fun e w' => ∃ u, e = .returned u ∧ NTups w' W.heap.size u r2.tuples ∧ Below W.heap.size W w' := fun W hW =>
        copied_any _ r2.tuples W B (Nat.le_trans (by omega) hW.size) (htu.below (hW.mono (by omega))) (Ht.out r2 (List.mem_of_getElem? Hr.out)).1 (Ht.out r2 (List.mem_of_getElem? Hr.out)).2
      have hall2 : ∀ W, Below (w.heap.size + 1) wr W → (W.cell? ⟨w.heap.size, 1, none⟩ = some (.slice (some ad) len c) ∧ W.cell? (ad.add (k * 3)) = some (.string r2.name) ∧ W.cell? ⟨(ad.add (k * 3)).block, (ad.add (k * 3)).off + 1, none⟩ = some (.int .i64 r2.arity) ∧ W.cell? ⟨(ad.add (k * 3)).block, (ad.add (k * 3)).off + 2, none⟩ = some (.slice UA UN UC)) := fun W hW =>
        ⟨(hW.cell (p := ⟨w.heap.size, 1, none⟩) (by simp)).trans hs1, (hW.cell (by rw [block_of_add]; omega)).trans d0, (hW.cell (by show (ad.add _).block < _; rw [block_of_add]; omega)).trans d1, (hW.cell (by show (ad.add _).block < _; rw [block_of_add]; omega)).trans d2⟩
      have Hcall := Lib.hid hcall; clear hcall
      have Hall2 := Lib.hid hall2; clear hall2
      have Hs := Lib.hid hs; clear hs
      have Hz := Lib.hid hz; clear hz
      have hcc : wr.drew.cell? ⟨w.heap.size + 1 + 1, 1, none⟩ = some (.slice TA k TC) := hc.cell 1
      have Hc := Lib.hid hc; clear hc
      clear htu
      go_upto_region 5 with fail
      clear d0 d1 d2 hs1
      refine wp_region_held_drew (S := fun W => W.cell? ⟨w.heap.size, 1, none⟩ = some (.slice (some ad) len c) ∧ W.cell? (ad.add (k * 3)) = some (.string r2.name) ∧ W.cell? ⟨(ad.add (k * 3)).block, (ad.add (k * 3)).off + 1, none⟩ = some (.int .i64 r2.arity) ∧ W.cell? ⟨(ad.add (k * 3)).block, (ad.add (k * 3)).off + 2, none⟩ = some (.slice UA UN UC)) (by kernel_rfl) (Hall2.out _ (Below.refl _ _).drew) (fun hHeld => ?_)
      refine wpAnyH_take (i := 0) (v := .pointer (some ⟨w.heap.size + 1 + 1, 1, none⟩)) rfl (by kernel_rfl) (by kernel_rfl) (by kernel_rfl) (fun _ _ _ h => h) (Or.inl ⟨by rfl, ?_⟩) (by assumption) ?_
      · (intro w' hSw; (try dsimp only at hSw); go_simp)
      try simp only [Act.put, List.setIfInBounds_toArray, List.set_cons_zero, List.set_cons_succ]
      refine wpAnyH_take (i := 2) (v := .pointer (some ⟨w.heap.size, 1, none⟩)) rfl (by kernel_rfl) (by kernel_rfl) (by kernel_rfl) (fun _ _ _ h => h) (Or.inl ⟨by rfl, ?_⟩) (by assumption) ?_
      · (intro w' hSw; (try dsimp only at hSw); go_simp)
      try simp only [Act.put, List.setIfInBounds_toArray, List.set_cons_zero, List.set_cons_succ]
      refine wpAnyH_take (i := 3) (v := .slice (some ad) len c) rfl (by kernel_rfl) (by kernel_rfl) (by kernel_rfl) (fun _ _ _ h => h) (Or.inl ⟨by rfl, ?_⟩) (by assumption) ?_
      · (intro w' hSw; (try dsimp only at hSw); go_simp)
      try simp only [Act.put, List.setIfInBounds_toArray, List.set_cons_zero, List.set_cons_succ]
      refine wpAnyH_take (i := 4) (v := .int .i64 k) rfl (by kernel_rfl) (by kernel_rfl) (by kernel_rfl) (fun _ _ _ h => h) (Or.inl ⟨by rfl, ?_⟩) (by assumption) ?_
      · (intro w' hSw; (try dsimp only at hSw); go_simp)
      try simp only [Act.put, List.setIfInBounds_toArray, List.set_cons_zero, List.set_cons_succ]
      refine wpAnyH_take (i := 5) (v := .pointer (some (ad.add (k * 3)))) rfl (by kernel_rfl) (by kernel_rfl) (by kernel_rfl) (fun _ _ _ h => h) (Or.inl ⟨by rfl, ?_⟩) (by assumption) ?_
      · (intro w' hSw; (try dsimp only at hSw); go_simp)
      try simp only [Act.put, List.setIfInBounds_toArray, List.set_cons_zero, List.set_cons_succ]
      refine wpAnyH_take (i := 6) (v := .pointer (some (ad.add (k * 3)))) rfl (by kernel_rfl) (by kernel_rfl) (by kernel_rfl) (fun _ _ _ h => h) (Or.inl ⟨by rfl, ?_⟩) (by assumption) ?_
      · (intro w' hSw; (try dsimp only at hSw); go_simp)
      try simp only [Act.put, List.setIfInBounds_toArray, List.set_cons_zero, List.set_cons_succ]
      refine wpAnyH_take (i := 7) (v := .string r2.name) rfl (by kernel_rfl) (by kernel_rfl) (by kernel_rfl) (fun _ _ _ h => h) (Or.inl ⟨by rfl, ?_⟩) (by assumption) ?_
      · (intro w' hSw; (try dsimp only at hSw); go_simp)
      try simp only [Act.put, List.setIfInBounds_toArray, List.set_cons_zero, List.set_cons_succ]
      refine wpAnyH_take (i := 8) (v := .pointer (some ⟨w.heap.size, 1, none⟩)) rfl (by kernel_rfl) (by kernel_rfl) (by kernel_rfl) (fun _ _ _ h => h) (Or.inl ⟨by rfl, ?_⟩) (by assumption) ?_
      · (intro w' hSw; (try dsimp only at hSw); go_simp)
      try simp only [Act.put, List.setIfInBounds_toArray, List.set_cons_zero, List.set_cons_succ]
      refine wpAnyH_take (i := 9) (v := .slice (some ad) len c) rfl (by kernel_rfl) (by kernel_rfl) (by kernel_rfl) (fun _ _ _ h => h) (Or.inl ⟨by rfl, ?_⟩) (by assumption) ?_
      · (intro w' hSw; (try dsimp only at hSw); go_simp)
      try simp only [Act.put, List.setIfInBounds_toArray, List.set_cons_zero, List.set_cons_succ]
      refine wpAnyH_take (i := 10) (v := .int .i64 k) rfl (by kernel_rfl) (by kernel_rfl) (by kernel_rfl) (fun _ _ _ h => h) (Or.inl ⟨by rfl, ?_⟩) (by assumption) ?_
      · (intro w' hSw; (try dsimp only at hSw); go_simp)
      try simp only [Act.put, List.setIfInBounds_toArray, List.set_cons_zero, List.set_cons_succ]
      refine wpAnyH_take (i := 11) (v := .pointer (some (ad.add (k * 3)))) rfl (by kernel_rfl) (by kernel_rfl) (by kernel_rfl) (fun _ _ _ h => h) (Or.inl ⟨by rfl, ?_⟩) (by assumption) ?_
      · (intro w' hSw; (try dsimp only at hSw); go_simp)
      try simp only [Act.put, List.setIfInBounds_toArray, List.set_cons_zero, List.set_cons_succ]
      refine wpAnyH_take (i := 12) (v := .pointer (some ⟨(ad.add (k * 3)).block, (ad.add (k * 3)).off + 1, none⟩)) rfl (by kernel_rfl) (by kernel_rfl) (by kernel_rfl) (fun _ _ _ h => h) (Or.inl ⟨by rfl, ?_⟩) (by assumption) ?_
      · (intro w' hSw; (try dsimp only at hSw); go_simp)
      try simp only [Act.put, List.setIfInBounds_toArray, List.set_cons_zero, List.set_cons_succ]
      refine wpAnyH_take (i := 13) (v := .int .i64 r2.arity) rfl (by kernel_rfl) (by kernel_rfl) (by kernel_rfl) (fun _ _ _ h => h) (Or.inl ⟨by rfl, ?_⟩) (by assumption) ?_
      · (intro w' hSw; (try dsimp only at hSw); go_simp)
      try simp only [Act.put, List.setIfInBounds_toArray, List.set_cons_zero, List.set_cons_succ]
      refine wpAnyH_take (i := 14) (v := .pointer (some ⟨w.heap.size, 1, none⟩)) rfl (by kernel_rfl) (by kernel_rfl) (by kernel_rfl) (fun _ _ _ h => h) (Or.inl ⟨by rfl, ?_⟩) (by assumption) ?_
      · (intro w' hSw; (try dsimp only at hSw); go_simp)
      try simp only [Act.put, List.setIfInBounds_toArray, List.set_cons_zero, List.set_cons_succ]
      refine wpAnyH_take (i := 15) (v := .slice (some ad) len c) rfl (by kernel_rfl) (by kernel_rfl) (by kernel_rfl) (fun _ _ _ h => h) (Or.inl ⟨by rfl, ?_⟩) (by assumption) ?_
      · (intro w' hSw; (try dsimp only at hSw); go_simp)
      try simp only [Act.put, List.setIfInBounds_toArray, List.set_cons_zero, List.set_cons_succ]
      refine wpAnyH_take (i := 16) (v := .int .i64 k) rfl (by kernel_rfl) (by kernel_rfl) (by kernel_rfl) (fun _ _ _ h => h) (Or.inl ⟨by rfl, ?_⟩) (by assumption) ?_
      · (intro w' hSw; (try dsimp only at hSw); go_simp)
      try simp only [Act.put, List.setIfInBounds_toArray, List.set_cons_zero, List.set_cons_succ]
      refine wpAnyH_take (i := 17) (v := .pointer (some (ad.add (k * 3)))) rfl (by kernel_rfl) (by kernel_rfl) (by kernel_rfl) (fun _ _ _ h => h) (Or.inl ⟨by rfl, ?_⟩) (by assumption) ?_
      · (intro w' hSw; (try dsimp only at hSw); go_simp)
      try simp only [Act.put, List.setIfInBounds_toArray, List.set_cons_zero, List.set_cons_succ]
      refine wpAnyH_take (i := 18) (v := .pointer (some ⟨(ad.add (k * 3)).block, (ad.add (k * 3)).off + 2, none⟩)) rfl (by kernel_rfl) (by kernel_rfl) (by kernel_rfl) (fun _ _ _ h => h) (Or.inl ⟨by rfl, ?_⟩) (by assumption) ?_
      · (intro w' hSw; (try dsimp only at hSw); go_simp)
      try simp only [Act.put, List.setIfInBounds_toArray, List.set_cons_zero, List.set_cons_succ]
      refine wpAnyH_take (i := 19) (v := .slice UA UN UC) rfl (by kernel_rfl) (by kernel_rfl) (by kernel_rfl) (fun _ _ _ h => h) (Or.inl ⟨by rfl, ?_⟩) (by assumption) ?_
      · (intro w' hSw; (try dsimp only at hSw); go_simp)
      try simp only [Act.put, List.setIfInBounds_toArray, List.set_cons_zero, List.set_cons_succ]
      refine wpAnyH_ready (rs := [1, 20]) (by kernel_rfl) (by simp) ?_
      refine AllReadyH.cons rfl (fun K hK => ?_) (AllReadyH.cons rfl (fun K hK => ?_) AllReadyH.nil)
      · skip
        go_simp
        refine hK.out _ _ ?_ (fun hHeld => ?_)
        · exact Hall2.out _ ((Below.refl _ _).drew)
        clear hK K
        try simp only [Act.put, List.setIfInBounds_toArray, List.set_cons_zero, List.set_cons_succ]
        refine wpAnyH_ready (rs := [20]) (by kernel_rfl) (by simp) ?_
        refine AllReadyH.cons rfl (fun K hK => ?_) AllReadyH.nil
        go_simp
        refine (Hcall.out _ (below_drewN (Below.refl _ _) 1)).mono ?_
        rintro e w7 ⟨x, rfl, hnt, hb7⟩
        have hnt' := hnt
        obtain ⟨XA, XN, XC, rfl, -⟩ := hnt'
        have hs7 : wr.heap.size ≤ w7.heap.size := hb7.size
        have hbw7 : Below (w.heap.size + 1) wr w7 := (Below.refl (w.heap.size + 1) wr).drew.trans (hb7.mono (by simp; omega))
        have hbz7 : w.heap.size + 1 ≤ w7.heap.size := by omega
        have hc7 : Blk w7 (w.heap.size + 1 + 1) 24 #[.int .i64 size, .slice TA k TC] := (Hc.out.drew).below hb7 (by simp; omega)
        have hcc7 : w7.cell? ⟨w.heap.size + 1 + 1, 1, none⟩ = some (.slice TA k TC) := hc7.cell 1
        have hcc7' : (w7.alloc (.cells #[.string r2.name, .int .i64 r2.arity, .slice XA XN XC] 57)).cell? ⟨w.heap.size + 1 + 1, 1, none⟩ = some (.slice TA k TC) := (Blk.alloc hc7 _).cell 1
        have hown7 : (w7.alloc (.cells #[.string r2.name, .int .i64 r2.arity, .slice XA XN XC] 57)).ownsRow (w.heap.size + 3) 57 3 (.slice TA k TC) k xs := World.ownsRow.alloc (own_below (w := wr.drew) Hown.out hb7) _
        refine hK.out _ _ ?_ (fun hHeld => ?_)
        · exact Hall2.out _ (hbw7)
        clear hK K
        try simp only [Act.put, List.setIfInBounds_toArray, List.set_cons_zero, List.set_cons_succ]
        refine wpAnyH_ready (rs := [21]) (by kernel_rfl) (by simp) ?_
        refine AllReadyH.cons rfl (fun K hK => ?_) AllReadyH.nil
        go_simp
        refine hK.out _ _ ?_ (fun hHeld => ?_)
        · exact Hall2.out _ (hbw7)
        clear hK K
        try simp only [Act.put, List.setIfInBounds_toArray, List.set_cons_zero, List.set_cons_succ]
        refine wpAnyH_ready (rs := [22]) (by kernel_rfl) (by simp) ?_
        refine AllReadyH.cons rfl (fun K hK => ?_) AllReadyH.nil
        go_simp
        refine hK.out _ _ ?_ (fun hHeld => ?_)
        · exact Hall2.out _ (hbw7.alloc hbz7 _)
        clear hK K
        try simp only [Act.put, List.setIfInBounds_toArray, List.set_cons_zero, List.set_cons_succ]
        refine wpAnyH_ready (rs := [23]) (by kernel_rfl) (by simp) ?_
        refine AllReadyH.cons rfl (fun K hK => ?_) AllReadyH.nil
        refine step_append_rel _ rfl _ _ rfl (w.heap.size + 3) _ k xs rfl hown7 w7.heap.size 1 _ _ _ rfl (Blk.new w7 57 #[.string r2.name, .int .i64 r2.arity, .slice XA XN XC]) rfl rfl rfl (by omega) (by simp; omega) ?_
        intro v8 w8 hown8 hg8
        obtain ⟨VA, VC, rfl⟩ := own_slice hown8
        have hc8 : Blk w8 (w.heap.size + 1 + 1) 24 #[.int .i64 size, .slice TA k TC] := Blk.grown (Blk.alloc hc7 _) hg8 (fun e => by have := (hown7.lt _ e.symm).1; omega)
        have hbw8 : Below (w.heap.size + 1) wr w8 := (hbw7.alloc hbz7 _).grown hg8 (by simp; omega) (fun g e => by have := (hown7.lt g e).1; omega)
        have hcc8 : w8.cell? ⟨w.heap.size + 1 + 1, 1, none⟩ = some (.slice TA k TC) := hc8.cell 1
        have hcf8 := hc8.frozen 1
        refine hK.out _ _ ?_ (fun hHeld => ?_)
        · exact Hall2.out _ (hbw8)
        clear hK K
        try simp only [Act.put, List.setIfInBounds_toArray, List.set_cons_zero, List.set_cons_succ]
        refine wpAnyH_ready (rs := [24]) (by kernel_rfl) (by simp) ?_
        refine AllReadyH.cons rfl (fun K hK => ?_) AllReadyH.nil
        go_simp
        refine hK.out _ _ ?_ (fun hHeld => ?_)
        · exact Hall2.out _ (hbw8)
        clear hK K
        try simp only [Act.put, List.setIfInBounds_toArray, List.set_cons_zero, List.set_cons_succ]
        refine wpAnyH_ready (rs := [25]) (by kernel_rfl) (by simp) ?_
        refine AllReadyH.cons rfl (fun K hK => ?_) AllReadyH.nil
        go_simp
        refine hK.out _ _ ?_ (fun hHeld => ?_)
        · exact Hall2.out _ (hbw8.setCell (by simp) _)
        clear hK K
        try simp only [Act.put, List.setIfInBounds_toArray, List.set_cons_zero, List.set_cons_succ]
        refine wpAnyH_done (by kernel_rfl) ?_ _
        go_wp2
        have hg8' : (w7.alloc (.cells #[.string r2.name, .int .i64 r2.arity, .slice XA XN XC] 57)).grownBy w8 (Value.slice TA k TC).ownBlock := hg8
        have hbase : ∀ g, (Value.slice TA k TC).ownBlock = some g → w.heap.size + 3 ≤ g := fun g e => (hown7.lt g e).1
        have hk7 : Keeps (w.heap.size + 3) [3, 25] w7 (w8.setCell ⟨w.heap.size + 1 + 1, 1, none⟩ (.slice VA (k + 1) VC)) :=
          (Keeps.alloc _ _ _ _).trans ((Keeps.own hg8' hown7 (by decide)).trans (Keeps.setCell (p := ⟨w.heap.size + 1 + 1, 1, none⟩) hc8 (by decide) _))
        refine ⟨⟨k + 1, .slice VA (k + 1) VC, xs ++ [.string r2.name, .int .i64 r2.arity, .slice XA XN XC], us ++ [.slice XA XN XC], by omega, by go_num, ?_, ?_, hc8.set_ 1 _, own_set hown8 (show w.heap.size + 1 + 1 < w.heap.size + 3 by omega) _, by rw [take_snoc Hr.out]; exact Hrc.out.snoc r2 _, ?_, ?_⟩, by simp [intOf]; omega⟩
        · exact Blk.far (Blk.grown (Blk.alloc (Hs.out.drew.below hb7 (by simp; omega)) _) hg8' (fun e => by have := hbase _ e.symm; omega)) (by simp; omega) _
        · exact Blk.far (Blk.grown (Blk.alloc (Hz.out.drew.below hb7 (by simp; omega)) _) hg8' (fun e => by have := hbase _ e.symm; omega)) (by simp) _
        · rw [take_snoc Hr.out]
          exact RElems.snoc ((hel.keep ((Keeps.drewN _ _ wr 1).trans (Keeps.of_below hb7))).keep hk7) Hrc.out.2.1 ((hnt.more (by simp; omega)).keep hk7) hnz
        · exact (((hbel.drew.trans (hb7.mono (by simp; omega))).alloc (by omega) _).grown hg8' (by simp; omega) (fun g e => by have := hbase g e; omega)).setCell (show w.heap.size ≤ w.heap.size + 1 + 1 by omega) _
      · skip
        go_simp
        refine (Hcall.out _ (below_drewN (Below.refl _ _) 1)).mono ?_
        rintro e w7 ⟨x, rfl, hnt, hb7⟩
        have hnt' := hnt
        obtain ⟨XA, XN, XC, rfl, -⟩ := hnt'
        have hs7 : wr.heap.size ≤ w7.heap.size := hb7.size
        have hbw7 : Below (w.heap.size + 1) wr w7 := (Below.refl (w.heap.size + 1) wr).drew.trans (hb7.mono (by simp; omega))
        have hbz7 : w.heap.size + 1 ≤ w7.heap.size := by omega
        have hc7 : Blk w7 (w.heap.size + 1 + 1) 24 #[.int .i64 size, .slice TA k TC] := (Hc.out.drew).below hb7 (by simp; omega)
        have hcc7 : w7.cell? ⟨w.heap.size + 1 + 1, 1, none⟩ = some (.slice TA k TC) := hc7.cell 1
        have hcc7' : (w7.alloc (.cells #[.string r2.name, .int .i64 r2.arity, .slice XA XN XC] 57)).cell? ⟨w.heap.size + 1 + 1, 1, none⟩ = some (.slice TA k TC) := (Blk.alloc hc7 _).cell 1
        have hown7 : (w7.alloc (.cells #[.string r2.name, .int .i64 r2.arity, .slice XA XN XC] 57)).ownsRow (w.heap.size + 3) 57 3 (.slice TA k TC) k xs := World.ownsRow.alloc (own_below (w := wr.drew) Hown.out hb7) _
        refine hK.out _ _ ?_ (fun hHeld => ?_)
        · exact Hall2.out _ (hbw7)
        clear hK K
        try simp only [Act.put, List.setIfInBounds_toArray, List.set_cons_zero, List.set_cons_succ]
        refine wpAnyH_take (i := 21) (v := .agg #[.string r2.name, .int .i64 r2.arity, .slice XA XN XC]) rfl (by kernel_rfl) (by kernel_rfl) (by kernel_rfl) (fun _ _ _ h => h) (Or.inl ⟨by rfl, ?_⟩) (by assumption) ?_
        · (intro w' hSw; (try dsimp only at hSw); go_simp)
        try simp only [Act.put, List.setIfInBounds_toArray, List.set_cons_zero, List.set_cons_succ]
        refine wpAnyH_ready (rs := [1, 22]) (by kernel_rfl) (by simp) ?_
        refine AllReadyH.cons rfl (fun K hK => ?_) (AllReadyH.cons rfl (fun K hK => ?_) AllReadyH.nil)
        · skip
          go_simp
          refine hK.out _ _ ?_ (fun hHeld => ?_)
          · exact Hall2.out _ (hbw7)
          clear hK K
          try simp only [Act.put, List.setIfInBounds_toArray, List.set_cons_zero, List.set_cons_succ]
          refine wpAnyH_ready (rs := [22]) (by kernel_rfl) (by simp) ?_
          refine AllReadyH.cons rfl (fun K hK => ?_) AllReadyH.nil
          go_simp
          refine hK.out _ _ ?_ (fun hHeld => ?_)
          · exact Hall2.out _ (hbw7.alloc hbz7 _)
          clear hK K
          try simp only [Act.put, List.setIfInBounds_toArray, List.set_cons_zero, List.set_cons_succ]
          refine wpAnyH_ready (rs := [23]) (by kernel_rfl) (by simp) ?_
          refine AllReadyH.cons rfl (fun K hK => ?_) AllReadyH.nil
          refine step_append_rel _ rfl _ _ rfl (w.heap.size + 3) _ k xs rfl hown7 w7.heap.size 1 _ _ _ rfl (Blk.new w7 57 #[.string r2.name, .int .i64 r2.arity, .slice XA XN XC]) rfl rfl rfl (by omega) (by simp; omega) ?_
          intro v8 w8 hown8 hg8
          obtain ⟨VA, VC, rfl⟩ := own_slice hown8
          have hc8 : Blk w8 (w.heap.size + 1 + 1) 24 #[.int .i64 size, .slice TA k TC] := Blk.grown (Blk.alloc hc7 _) hg8 (fun e => by have := (hown7.lt _ e.symm).1; omega)
          have hbw8 : Below (w.heap.size + 1) wr w8 := (hbw7.alloc hbz7 _).grown hg8 (by simp; omega) (fun g e => by have := (hown7.lt g e).1; omega)
          have hcc8 : w8.cell? ⟨w.heap.size + 1 + 1, 1, none⟩ = some (.slice TA k TC) := hc8.cell 1
          have hcf8 := hc8.frozen 1
          refine hK.out _ _ ?_ (fun hHeld => ?_)
          · exact Hall2.out _ (hbw8)
          clear hK K
          try simp only [Act.put, List.setIfInBounds_toArray, List.set_cons_zero, List.set_cons_succ]
          refine wpAnyH_ready (rs := [24]) (by kernel_rfl) (by simp) ?_
          refine AllReadyH.cons rfl (fun K hK => ?_) AllReadyH.nil
          go_simp
          refine hK.out _ _ ?_ (fun hHeld => ?_)
          · exact Hall2.out _ (hbw8)
          clear hK K
          try simp only [Act.put, List.setIfInBounds_toArray, List.set_cons_zero, List.set_cons_succ]
          refine wpAnyH_ready (rs := [25]) (by kernel_rfl) (by simp) ?_
          refine AllReadyH.cons rfl (fun K hK => ?_) AllReadyH.nil
          go_simp
          refine hK.out _ _ ?_ (fun hHeld => ?_)
          · exact Hall2.out _ (hbw8.setCell (by simp) _)
          clear hK K
          try simp only [Act.put, List.setIfInBounds_toArray, List.set_cons_zero, List.set_cons_succ]
          refine wpAnyH_done (by kernel_rfl) ?_ _
          go_wp2
          have hg8' : (w7.alloc (.cells #[.string r2.name, .int .i64 r2.arity, .slice XA XN XC] 57)).grownBy w8 (Value.slice TA k TC).ownBlock := hg8
          have hbase : ∀ g, (Value.slice TA k TC).ownBlock = some g → w.heap.size + 3 ≤ g := fun g e => (hown7.lt g e).1
          have hk7 : Keeps (w.heap.size + 3) [3, 25] w7 (w8.setCell ⟨w.heap.size + 1 + 1, 1, none⟩ (.slice VA (k + 1) VC)) :=
            (Keeps.alloc _ _ _ _).trans ((Keeps.own hg8' hown7 (by decide)).trans (Keeps.setCell (p := ⟨w.heap.size + 1 + 1, 1, none⟩) hc8 (by decide) _))
          refine ⟨⟨k + 1, .slice VA (k + 1) VC, xs ++ [.string r2.name, .int .i64 r2.arity, .slice XA XN XC], us ++ [.slice XA XN XC], by omega, by go_num, ?_, ?_, hc8.set_ 1 _, own_set hown8 (show w.heap.size + 1 + 1 < w.heap.size + 3 by omega) _, by rw [take_snoc Hr.out]; exact Hrc.out.snoc r2 _, ?_, ?_⟩, by simp [intOf]; omega⟩
          · exact Blk.far (Blk.grown (Blk.alloc (Hs.out.drew.below hb7 (by simp; omega)) _) hg8' (fun e => by have := hbase _ e.symm; omega)) (by simp; omega) _
          · exact Blk.far (Blk.grown (Blk.alloc (Hz.out.drew.below hb7 (by simp; omega)) _) hg8' (fun e => by have := hbase _ e.symm; omega)) (by simp) _
          · rw [take_snoc Hr.out]
            exact RElems.snoc ((hel.keep ((Keeps.drewN _ _ wr 1).trans (Keeps.of_below hb7))).keep hk7) Hrc.out.2.1 ((hnt.more (by simp; omega)).keep hk7) hnz
          · exact (((hbel.drew.trans (hb7.mono (by simp; omega))).alloc (by omega) _).grown hg8' (by simp; omega) (fun g e => by have := hbase g e; omega)).setCell (show w.heap.size ≤ w.heap.size + 1 + 1 by omega) _
        · skip
          go_simp
          refine hK.out _ _ ?_ (fun hHeld => ?_)
          · exact Hall2.out _ (hbw7.alloc hbz7 _)
          clear hK K
          try simp only [Act.put, List.setIfInBounds_toArray, List.set_cons_zero, List.set_cons_succ]
          refine wpAnyH_ready (rs := [1]) (by kernel_rfl) (by simp) ?_
          refine AllReadyH.cons rfl (fun K hK => ?_) AllReadyH.nil
          go_simp
          refine hK.out _ _ ?_ (fun hHeld => ?_)
          · exact Hall2.out _ (hbw7.alloc hbz7 _)
          clear hK K
          try simp only [Act.put, List.setIfInBounds_toArray, List.set_cons_zero, List.set_cons_succ]
          refine wpAnyH_ready (rs := [23]) (by kernel_rfl) (by simp) ?_
          refine AllReadyH.cons rfl (fun K hK => ?_) AllReadyH.nil
          refine step_append_rel _ rfl _ _ rfl (w.heap.size + 3) _ k xs rfl hown7 w7.heap.size 1 _ _ _ rfl (Blk.new w7 57 #[.string r2.name, .int .i64 r2.arity, .slice XA XN XC]) rfl rfl rfl (by omega) (by simp; omega) ?_
          intro v8 w8 hown8 hg8
          obtain ⟨VA, VC, rfl⟩ := own_slice hown8
          have hc8 : Blk w8 (w.heap.size + 1 + 1) 24 #[.int .i64 size, .slice TA k TC] := Blk.grown (Blk.alloc hc7 _) hg8 (fun e => by have := (hown7.lt _ e.symm).1; omega)
          have hbw8 : Below (w.heap.size + 1) wr w8 := (hbw7.alloc hbz7 _).grown hg8 (by simp; omega) (fun g e => by have := (hown7.lt g e).1; omega)
          have hcc8 : w8.cell? ⟨w.heap.size + 1 + 1, 1, none⟩ = some (.slice TA k TC) := hc8.cell 1
          have hcf8 := hc8.frozen 1
          refine hK.out _ _ ?_ (fun hHeld => ?_)
          · exact Hall2.out _ (hbw8)
          clear hK K
          try simp only [Act.put, List.setIfInBounds_toArray, List.set_cons_zero, List.set_cons_succ]
          refine wpAnyH_ready (rs := [24]) (by kernel_rfl) (by simp) ?_
          refine AllReadyH.cons rfl (fun K hK => ?_) AllReadyH.nil
          go_simp
          refine hK.out _ _ ?_ (fun hHeld => ?_)
          · exact Hall2.out _ (hbw8)
          clear hK K
          try simp only [Act.put, List.setIfInBounds_toArray, List.set_cons_zero, List.set_cons_succ]
          refine wpAnyH_ready (rs := [25]) (by kernel_rfl) (by simp) ?_
          refine AllReadyH.cons rfl (fun K hK => ?_) AllReadyH.nil
          go_simp
          refine hK.out _ _ ?_ (fun hHeld => ?_)
          · exact Hall2.out _ (hbw8.setCell (by simp) _)
          clear hK K
          try simp only [Act.put, List.setIfInBounds_toArray, List.set_cons_zero, List.set_cons_succ]
          refine wpAnyH_done (by kernel_rfl) ?_ _
          go_wp2
          have hg8' : (w7.alloc (.cells #[.string r2.name, .int .i64 r2.arity, .slice XA XN XC] 57)).grownBy w8 (Value.slice TA k TC).ownBlock := hg8
          have hbase : ∀ g, (Value.slice TA k TC).ownBlock = some g → w.heap.size + 3 ≤ g := fun g e => (hown7.lt g e).1
          have hk7 : Keeps (w.heap.size + 3) [3, 25] w7 (w8.setCell ⟨w.heap.size + 1 + 1, 1, none⟩ (.slice VA (k + 1) VC)) :=
            (Keeps.alloc _ _ _ _).trans ((Keeps.own hg8' hown7 (by decide)).trans (Keeps.setCell (p := ⟨w.heap.size + 1 + 1, 1, none⟩) hc8 (by decide) _))
          refine ⟨⟨k + 1, .slice VA (k + 1) VC, xs ++ [.string r2.name, .int .i64 r2.arity, .slice XA XN XC], us ++ [.slice XA XN XC], by omega, by go_num, ?_, ?_, hc8.set_ 1 _, own_set hown8 (show w.heap.size + 1 + 1 < w.heap.size + 3 by omega) _, by rw [take_snoc Hr.out]; exact Hrc.out.snoc r2 _, ?_, ?_⟩, by simp [intOf]; omega⟩
          · exact Blk.far (Blk.grown (Blk.alloc (Hs.out.drew.below hb7 (by simp; omega)) _) hg8' (fun e => by have := hbase _ e.symm; omega)) (by simp; omega) _
          · exact Blk.far (Blk.grown (Blk.alloc (Hz.out.drew.below hb7 (by simp; omega)) _) hg8' (fun e => by have := hbase _ e.symm; omega)) (by simp) _
          · rw [take_snoc Hr.out]
            exact RElems.snoc ((hel.keep ((Keeps.drewN _ _ wr 1).trans (Keeps.of_below hb7))).keep hk7) Hrc.out.2.1 ((hnt.more (by simp; omega)).keep hk7) hnz
          · exact (((hbel.drew.trans (hb7.mono (by simp; omega))).alloc (by omega) _).grown hg8' (by simp; omega) (fun g e => by have := hbase g e; omega)).setCell (show w.heap.size ≤ w.heap.size + 1 + 1 by omega) _
    · have hkl : k = len := by omega
      subst hkl
      have htk : rs.take k = rs := List.take_of_length_le (by have := Hlen.out; omega)
      have hrc' := Hrc.out
      rw [htk] at hel hrc'
      have hown' := Hown.out
      have hkl' : k = rs.length := Hlen.out
      rw [hkl'] at hown'
      have hnt : CRels wr (w.heap.size + 3) (.slice TA rs.length TC) rs := ⟨xs, us, hown', hrc', hel⟩
      rw [← hkl'] at hnt
      have hcc0 : wr.cell? ⟨w.heap.size + 1 + 1, 0, none⟩ = some (.int .i64 size) := hc.cell 0
      have hcc1 : wr.cell? ⟨w.heap.size + 1 + 1, 1, none⟩ = some (.slice TA k TC) := hc.cell 1
      have hzc0 : wr.cell? ⟨w.heap.size + 1, 0, none⟩ = some (.int .i64 0) := hz.cell 0
      have hzc1 : wr.cell? ⟨w.heap.size + 1, 1, none⟩ = some (.slice none 0 0) := hz.cell 1
      have hzf0 := hz.frozen 0
      have hzf1 := hz.frozen 1
      have Hnt := Lib.hid hnt; clear hnt htk hel hrc' hown' hkl'
      go_wp2
      refine bodyPost_ret (v := .agg #[.int .i64 size, .slice TA k TC]) (by simp [results, Tryz.results13, go_sem, hzc0, hzc1]) rfl ?_
      have hk0 : Keeps (w.heap.size + 3) [3, 25, 57] wr ((wr.setCell ⟨w.heap.size + 1, 0, none⟩ (.int .i64 size)).setCell ⟨w.heap.size + 1, 1, none⟩ (.slice TA k TC)) :=
        (Keeps.setCell (p := ⟨w.heap.size + 1, 0, none⟩) hz (by decide) _).trans (Keeps.setCell (p := ⟨w.heap.size + 1, 1, none⟩) (hz.set_ _ _) (by decide) _)
      obtain ⟨xs', vs', g1, g2, g3⟩ := Hnt.out.keep hk0
      refine ⟨_, rfl, ⟨xs', vs', own_base g1 (by omega), g2, relems_more g3 (by omega)⟩, ?_⟩
      exact (hbel.setCell (by simp) _).setCell (by simp) _

end Go.Proofs.YtelememdhpncgaaGreatDoor

/-
  Walk: Few of one structure: it returns a truth value, and nothing turns.
-/
namespace Go.Proofs.YtelememdhpncgaaGreatDoor
open Go.RowKit

/-- It returns a truth value. -/
def IsBool (e : Ending) : Prop := ∃ b, e = .returned (.bool b)
theorem IsBool.mk {e : Ending} {b : Bool} (h : e = .returned (.bool b)) : IsBool e := ⟨b, h⟩

set_option maxRecDepth 100000 in
set_option maxHeartbeats 400000 in
theorem few_any (g : Nat) (size : Int) (A : Option Addr) (len c B : Nat) (rs : List Sh.Rel) (w : World) (hb : Blk w g 24 #[.int .i64 size, .slice A len c]) (h : Rels w B (.slice A len c) rs) :
    Calls Tryz.prog 5 #[.slice (some ⟨g, 0, none⟩) 1 1] w fun e w' => IsBool e ∧ w = w' := by
  have c1 : w.cell? ⟨g, 1, none⟩ = some (.slice A len c) := hb.cell 1
  clear hb
  go_enter Tryz.func5, Tryz.ntmps5
  go_wp2
  go_loop [3, 4, 5] (fun t e i => ∃ (T E : Int) (k : Nat), k ≤ 1 ∧ t = .int .i64 T ∧ e = .int .i64 E ∧ i = .int .i64 k) (fun _ _ i => 1 - (intOf i).toNat)
  case atStart => exact ⟨0, 0, 0, by omega, rfl, rfl, rfl⟩
  case round =>
    obtain ⟨T, E, k, hk, rfl, rfl, rfl⟩ := hrel
    by_cases hk1 : k < 1
    · obtain rfl : k = 0 := by omega
      by_cases h12 : 12 < len
      · go_wp2
        go_ret
        exact ⟨⟨_, rfl⟩, rfl⟩
      · go_wp2
        go_loop [3, 4, 6] (fun t e i => ∃ (T E : Int) (k : Nat), k ≤ len ∧ t = .int .i64 T ∧ e = .int .i64 E ∧ i = .int .i64 k) (fun _ _ i => len - (intOf i).toNat)
        case atStart => exact ⟨T, E, 0, by omega, rfl, rfl, rfl⟩
        case round =>
          obtain ⟨T, E, k, hk, rfl, rfl, rfl⟩ := hrel
          by_cases hkl : k < len
          · obtain ⟨ad, u, r, rfl, hbk, hr, hc0, -, hc2, htu, -⟩ := h.at_ hkl
            have htu' := htu
            obtain ⟨A2, n2, c2, rfl, hn2, hm2, -⟩ := htu'
            go_wp2
            all_goals first
              | (go_ret; exact ⟨⟨_, rfl⟩, rfl⟩)
              | skip
            go_loop [4, 7] (fun e i => ∃ (E : Int) (j : Nat), j ≤ n2 ∧ e = .int .i64 E ∧ i = .int .i64 j) (fun _ i => n2 - (intOf i).toNat)
            case atStart => exact ⟨E, 0, by omega, rfl, rfl⟩
            case round =>
              obtain ⟨E, j, hj, rfl, rfl⟩ := hrel
              by_cases hjn : j < n2
              · obtain ⟨ad2, u3, rfl, -, hc3, hiu⟩ := htu.at_ hjn
                have hiu' := hiu
                obtain ⟨A3, n3, c3, rfl, -⟩ := hiu'
                go_wp2
                exact ⟨⟨_, j + 1, by omega, rfl, by go_num⟩, by simp [intOf]; omega⟩
              · go_wp2
                exact ⟨⟨_, _, k + 1, by omega, rfl, rfl, by go_num⟩, by simp [intOf]; omega⟩
          · go_wp2
            exact ⟨⟨T, E, 1, by omega, rfl, rfl, by go_num⟩, by simp [intOf]⟩
    · go_wp2
      go_ret
      exact ⟨⟨_, rfl⟩, rfl⟩

end Go.Proofs.YtelememdhpncgaaGreatDoor

/-
  Walk: Few of one structure: where it says true, the structure is small.
-/
namespace Go.Proofs.YtelememdhpncgaaGreatDoor
open Go.RowKit

/-- At most 12 relations, each with at most 1500 tuples of at most 20000 elements. -/
def FewSays (rs : List Sh.Rel) : Prop := rs.length ≤ 12 ∧ ∀ r ∈ rs, r.tuples.length ≤ 1500 ∧ ∀ t ∈ r.tuples, t.length ≤ 20000
def IsFew (rs : List Sh.Rel) (e : Ending) : Prop := ∃ b, e = .returned (.bool b) ∧ (b = true → FewSays rs)
theorem IsFew.no (rs : List Sh.Rel) : IsFew rs (.returned (.bool false)) := ⟨false, rfl, fun h => by cases h⟩

/-- The first k relations have been counted. -/
def Cnt (rs : List Sh.Rel) (k T E : Nat) : Prop := T ≤ 1500 ∧ E ≤ T * 140737488351232 ∧ ∀ (j : Nat) (r : Sh.Rel), j < k → rs[j]? = some r → r.tuples.length ≤ 1500 ∧ ∀ t ∈ r.tuples, t.length ≤ E
/-- So have j tuples of a relation. -/
def Cnt2 (ts : List (List Int)) (j T0 E0 E : Nat) : Prop := E0 ≤ E ∧ E ≤ (T0 + j) * 140737488351232 ∧ ∀ (i : Nat) (t : List Int), i < j → ts[i]? = some t → t.length ≤ E

set_option maxRecDepth 100000 in
set_option maxHeartbeats 1000000 in
theorem few_true (g : Nat) (size : Int) (A : Option Addr) (len c B : Nat) (rs : List Sh.Rel) (w : World) (hb : Blk w g 24 #[.int .i64 size, .slice A len c]) (h : Rels w B (.slice A len c) rs) :
    Calls Tryz.prog 5 #[.slice (some ⟨g, 0, none⟩) 1 1] w fun e w' => IsFew rs e ∧ w = w' := by
  have c1 : w.cell? ⟨g, 1, none⟩ = some (.slice A len c) := hb.cell 1
  clear hb
  have hlen : len = rs.length := by obtain ⟨A', n', c', e, hl, -⟩ := h; injection e with _ e _; omega
  have Hlen := Lib.hid hlen; clear hlen
  go_enter Tryz.func5, Tryz.ntmps5
  go_wp2
  go_loop [3, 4, 5] (fun t e i => ∃ (T E : Nat) (k : Nat), k ≤ 1 ∧ t = .int .i64 T ∧ e = .int .i64 E ∧ i = .int .i64 k ∧ (k = 0 → T = 0 ∧ E = 0) ∧ (k = 1 → len ≤ 12 ∧ Cnt rs len T E)) (fun _ _ i => 1 - (intOf i).toNat)
  case atStart => exact ⟨0, 0, 0, by omega, rfl, rfl, rfl, fun _ => ⟨rfl, rfl⟩, fun h => absurd h (by decide)⟩
  case round =>
    obtain ⟨T, E, k, hk, rfl, rfl, rfl, h0, h1⟩ := hrel
    by_cases hk1 : k < 1
    · obtain rfl : k = 0 := by omega
      obtain ⟨rfl, rfl⟩ := h0 rfl
      by_cases h12 : 12 < len
      · go_wp2
        go_ret
        exact ⟨IsFew.no rs, rfl⟩
      · clear h0 h1
        go_wp2
        go_loop [3, 4, 6] (fun t e i => ∃ (T E : Nat) (k : Nat), k ≤ len ∧ t = .int .i64 T ∧ e = .int .i64 E ∧ i = .int .i64 k ∧ Cnt rs k T E) (fun _ _ i => len - (intOf i).toNat)
        case atStart => exact ⟨0, 0, 0, by omega, rfl, rfl, rfl, by omega, by omega, fun j r h => absurd h (by omega)⟩
        case round =>
          obtain ⟨T, E, k, hk, rfl, rfl, rfl, hT, hE, hall⟩ := hrel
          have Hall := Lib.hid hall; clear hall
          by_cases hkl : k < len
          · obtain ⟨ad, u, r, rfl, hbk, hr, hc0, -, hc2, htu, hnz⟩ := h.at_ hkl
            have htu' := htu
            obtain ⟨A2, n2, c2, rfl, hn2, hm2, -⟩ := htu'
            have Hr := Lib.hid hr; clear hr
            have Hn2 := Lib.hid hn2; clear hn2
            have hE2 : E ≤ 211106232526848000 := by omega
            by_cases hT2 : 1500 < T + n2
            · have hT3 : (1500 : Int) < (T : Int) + (n2 : Int) := by omega
              go_wp2
              go_ret
              exact ⟨IsFew.no rs, rfl⟩
            · have hT3 : ¬ (1500 : Int) < (T : Int) + (n2 : Int) := by omega
              by_cases hN : 1000 < r.name.size
              · go_wp2
                go_ret
                exact ⟨IsFew.no rs, rfl⟩
              · go_wp2
                go_loop [4, 7] (fun e i => ∃ (E' : Nat) (j : Nat), j ≤ n2 ∧ e = .int .i64 E' ∧ i = .int .i64 j ∧ Cnt2 r.tuples j T E E') (fun _ i => n2 - (intOf i).toNat)
                case atStart => exact ⟨E, 0, by omega, rfl, rfl, Nat.le_refl _, by simpa using hE, fun j r h => absurd h (by omega)⟩
                case round =>
                  obtain ⟨E', j, hj, rfl, rfl, he1, he2, hal2⟩ := hrel
                  have Hal2 := Lib.hid hal2; clear hal2
                  have hE3 : E' ≤ 211106232526848000 := Nat.le_trans he2 (Nat.le_trans (Nat.mul_le_mul_right _ (show T + j ≤ 1500 by omega)) (by omega))
                  by_cases hjn : j < n2
                  · obtain ⟨ad2, u3, rfl, -, hc3, hiu⟩ := htu.at_ hjn
                    have hiu' := hiu
                    obtain ⟨A3, n3, c3, rfl, hn3, hm3, -⟩ := hiu'
                    have htj : r.tuples[j]? = some (r.tuples.getD j []) := getD_some (d := []) (by rw [← Hn2.out]; exact hjn)
                    generalize r.tuples.getD j [] = t at *
                    have Htj := Lib.hid htj; clear htj
                    have Hn3 := Lib.hid hn3; clear hn3
                    go_wp2
                    refine ⟨⟨E' + n3, j + 1, by omega, by go_num, by go_num, by omega, ?_, fun i t' hi ht' => ?_⟩, by simp [intOf]; omega⟩
                    · have : (T + (j + 1)) * 140737488351232 = (T + j) * 140737488351232 + 140737488351232 := by rw [← Nat.add_assoc, Nat.add_mul (T + j) 1, Nat.one_mul]
                      omega
                    · by_cases hij : i = j
                      · subst hij
                        have := Option.some.inj (ht'.symm.trans Htj.out)
                        subst this
                        have := Hn3.out
                        omega
                      · have := Hal2.out i t' (by omega) ht'
                        omega
                  · obtain rfl : j = n2 := by omega
                    go_wp2
                    refine ⟨⟨T + j, E', k + 1, by omega, by go_num, rfl, by go_num, by omega, he2, fun i r' hi hr' => ?_⟩, by simp [intOf]; omega⟩
                    by_cases hik : i = k
                    · subst hik
                      have := Option.some.inj (hr'.symm.trans Hr.out)
                      subst this
                      refine ⟨by have := Hn2.out; omega, fun t ht => ?_⟩
                      obtain ⟨m, hm, rfl⟩ := List.mem_iff_getElem.1 ht
                      exact Hal2.out m _ (by have := Hn2.out; omega) (List.getElem?_eq_getElem hm)
                    · have := Hall.out i r' (by omega) hr'
                      exact ⟨this.1, fun t ht => Nat.le_trans (this.2 t ht) he1⟩
          · obtain rfl : k = len := by omega
            go_wp2
            exact ⟨⟨T, E, 1, by omega, rfl, rfl, by go_num, fun h => absurd h (by decide), fun _ => ⟨by omega, hT, hE, Hall.out⟩⟩, by simp [intOf]⟩
    · obtain rfl : k = 1 := by omega
      obtain ⟨h12, hT, hE, hall⟩ := h1 rfl
      have Hall := Lib.hid hall; clear hall h0 h1
      go_wp2
      go_ret
      refine ⟨⟨_, rfl, fun hb => ?_⟩, rfl⟩
      have hb' : E ≤ 20000 := by simp at hb; omega
      refine ⟨by have := Hlen.out; omega, fun r hr => ?_⟩
      obtain ⟨j, hj, rfl⟩ := List.mem_iff_getElem.1 hr
      have := Hall.out j _ (by have := Hlen.out; omega) (List.getElem?_eq_getElem hj)
      exact ⟨this.1, fun t ht => Nat.le_trans (this.2 t ht) hb'⟩

end Go.Proofs.YtelememdhpncgaaGreatDoor
