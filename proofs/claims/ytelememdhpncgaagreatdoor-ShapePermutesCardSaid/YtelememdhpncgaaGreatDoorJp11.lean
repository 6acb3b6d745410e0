/-
  Texts joined: Rscopy, Perms, Permm, Ren, Spec6.
-/
import Derived.Test.YtelememdhpncgaaGreatDoorJp8
import Derived.Deep.CutRange
import Derived.Deep.RegionHeld3
import Derived.Test.YtelememdhpncgaaGreatDoorJp7
import Derived.Test.YtelememdhpncgaaGreatDoorJp1
import Derived.Test.YtelememdhpncgaaGreatDoorJp9
import Derived.Test.YtelememdhpncgaaGreatDoorJp5

/-
  Walk: the reference's Copy.
-/
namespace Go.Proofs.YtelememdhpncgaaGreatDoor
open Go.RowKit

/-- The relations of a copy: the row is the call's own, and so is what it holds. -/
def CRels (w : World) (L : Nat) (v : Value) (rs : List Sh.Rel) : Prop := ∃ xs us, w.ownsRow L 57 3 v rs.length xs ∧ RCells xs us rs ∧ RElems w L us rs
theorem relems_more {w : World} {L L' : Nat} {us : List Value} {rs : List Sh.Rel} (h : RElems w L us rs) (hL : L' ≤ L) : RElems w L' us rs := fun j u r h1 h2 => ⟨(h j u r h1 h2).1.more hL, (h j u r h1 h2).2⟩
theorem CRels.rels {w : World} {L : Nat} {v : Value} {rs : List Sh.Rel} (h : CRels w L v rs) (hl : rs.length ≤ 1000000) : NRels w L v rs := by
  obtain ⟨xs, vs, h1, h2, h3⟩ := h
  exact NRels.own h1 (Nat.le_refl _) (by omega) h2 h3
theorem CRels.keep {w w' : World} {L : Nat} {v : Value} {rs : List Sh.Rel} (h : CRels w L v rs) (hk : Keeps L [3, 25, 57] w w') : CRels w' L v rs := by
  obtain ⟨xs, vs, h1, h2, h3⟩ := h
  exact ⟨xs, vs, own_keeps h1 hk (Nat.le_refl _) (by simp), h2, h3.keep (hk.mono (by simp))⟩

set_option maxRecDepth 100000 in
set_option maxHeartbeats 2000000 in
theorem refcopy_own (size : Int) (v : Value) (rs : List Sh.Rel) (w : World) (B : Nat) (hB : B ≤ w.heap.size) (h : Rels w B v rs) (hl : rs.length ≤ 1000000) (ht : ∀ r ∈ rs, r.tuples.length ≤ 1000000 ∧ ∀ t ∈ r.tuples, t.length ≤ 1000000) :
    Calls Tryz.prog 13 #[.agg #[.int .i64 size, v]] w fun e w' => ∃ x, e = .returned (.agg #[.int .i64 size, x]) ∧ CRels w' w.heap.size x rs ∧ Below w.heap.size w w' := by
  have h' := h
  obtain ⟨A, len, c, rfl, hlen, hmax, -⟩ := h'
  have hl' : len ≤ 1000000 := by omega
  clear hl hmax
  have Hlen := Lib.hid hlen; clear hlen
  have Ht := Lib.hid ht; clear ht
  go_enter Tryz.func13, Tryz.ntmps13
  go_wp2
  have hb3 : Below w.heap.size w (((w.alloc (.cells #[.int .i64 size, .slice A len c] 24)).alloc (.cells #[.int .i64 0, .slice none 0 0] 24)).alloc (.cells #[.int .i64 size, .slice none 0 0] 24)) :=
    (((Below.refl _ _).alloc (Nat.le_refl _) _).alloc (by simp) _).alloc (by simp; omega) _
  have hs3 : Blk (((w.alloc (.cells #[.int .i64 size, .slice A len c] 24)).alloc (.cells #[.int .i64 0, .slice none 0 0] 24)).alloc (.cells #[.int .i64 size, .slice none 0 0] 24)) w.heap.size 24 #[.int .i64 size, .slice A len c] := ((Blk.new w 24 #[.int .i64 size, .slice A len c]).alloc _).alloc _
  have hz3 : Blk (((w.alloc (.cells #[.int .i64 size, .slice A len c] 24)).alloc (.cells #[.int .i64 0, .slice none 0 0] 24)).alloc (.cells #[.int .i64 size, .slice none 0 0] 24)) (w.heap.size + 1) 24 #[.int .i64 0, .slice none 0 0] := by
    have := Blk.new (w.alloc (.cells #[.int .i64 size, .slice A len c] 24)) 24 #[.int .i64 0, .slice none 0 0]
    rw [World.size_alloc] at this
    exact this.alloc _
  have hc3 : Blk (((w.alloc (.cells #[.int .i64 size, .slice A len c] 24)).alloc (.cells #[.int .i64 0, .slice none 0 0] 24)).alloc (.cells #[.int .i64 size, .slice none 0 0] 24)) (w.heap.size + 1 + 1) 24 #[.int .i64 size, .slice none 0 0] := by
    have := Blk.new ((w.alloc (.cells #[.int .i64 size, .slice A len c] 24)).alloc (.cells #[.int .i64 0, .slice none 0 0] 24)) 24 #[.int .i64 size, .slice none 0 0]
    rw [World.size_alloc, World.size_alloc] at this
    exact this
  generalize ((w.alloc (.cells #[.int .i64 size, .slice A len c] 24)).alloc (.cells #[.int .i64 0, .slice none 0 0] 24)).alloc (.cells #[.int .i64 size, .slice none 0 0] 24) = W3 at *
  go_loopw [4] (fun i wr => ∃ (k : Nat) (tv : Value) (xs us : List Value), k ≤ len ∧ i = .int .i64 k ∧ Blk wr w.heap.size 24 #[.int .i64 size, .slice A len c] ∧ Blk wr (w.heap.size + 1) 24 #[.int .i64 0, .slice none 0 0] ∧
      Blk wr (w.heap.size + 1 + 1) 24 #[.int .i64 size, tv] ∧ wr.ownsRow (w.heap.size + 3) 57 3 tv k xs ∧ RCells xs us (rs.take k) ∧ RElems wr (w.heap.size + 3) us (rs.take k) ∧ Below w.heap.size w wr) (fun i _ => len - (intOf i).toNat)
  case atStart => exact ⟨0, .slice none 0 0, [], [], Nat.zero_le _, rfl, hs3, hz3, hc3, World.ownsRow_nil _ _ _ _, RCells.nil, (fun j u t h => by simp at h), hb3⟩
  case round =>
    obtain ⟨k, tv, xs, us, hk, rfl, hs, hz, hc, hown, hrc, hel, hbel⟩ := hrel
    clear hb3 hs3 hz3 hc3
    have Hown := Lib.hid hown; clear hown
    have Hrc := Lib.hid hrc; clear hrc
    obtain ⟨TA, TC, rfl⟩ := own_slice Hown.out
    have hlt3 := hc.lt
    have hs1 : wr.cell? ⟨w.heap.size, 1, none⟩ = some (.slice A len c) := hs.cell 1
    by_cases hlt : k < len
    · obtain ⟨ad, u2, r2, rfl, hb2, hr, d0, d1, d2, htu, hnz⟩ := (h.below (hbel.mono hB)).at_ hlt
      have htu' := htu
      obtain ⟨UA, UN, UC, rfl, -⟩ := htu'
      have hbz := hbel.size
      have Hr := Lib.hid hr; clear hr
      have hcall : ∀ W, Below wr.heap.size wr W → Calls Tryz.prog 36 #[.slice UA UN UC] W fun e w' => ∃ u, e = .returned u ∧ NTups w' W.heap.size u r2.tuples ∧ Below W.heap.size W w' := fun W hW =>
        copied_any _ r2.tuples W B (Nat.le_trans (by omega) hW.size) (htu.below (hW.mono (by omega))) (Ht.out r2 (List.mem_of_getElem? Hr.out)).1 (Ht.out r2 (List.mem_of_getElem? Hr.out)).2
      have hall2 : ∀ W, Below (w.heap.size + 1) wr W → (W.cell? ⟨w.heap.size, 1, none⟩ = some (.slice (some ad) len c) ∧ W.cell? (ad.add (k * 3)) = some (.string r2.name) ∧ W.cell? ⟨(ad.add (k * 3)).block, (ad.add (k * 3)).off + 1, none⟩ = some (.int .i64 r2.arity) ∧ W.cell? ⟨(ad.add (k * 3)).block, (ad.add (k * 3)).off + 2, none⟩ = some (.slice UA UN UC)) := fun W hW =>
        ⟨(hW.cell (p := ⟨w.heap.size, 1, none⟩) (by simp)).trans hs1, (hW.cell (by rw [block_of_add]; omega)).trans d0, (hW.cell (by show (ad.add _).block < _; rw [block_of_add]; omega)).trans d1, (hW.cell (by show (ad.add _).block < _; rw [block_of_add]; omega)).trans d2⟩
      have Hcall := Lib.hid hcall; clear hcall
      have Hall2 := Lib.hid hall2; clear hall2
      have Hs := Lib.hid hs; clear hs
      have Hz := Lib.hid hz; clear hz
      have hcc : wr.drew.cell? ⟨w.heap.size + 1 + 1, 1, none⟩ = some (.slice TA k TC) := hc.cell 1
      have Hc := Lib.hid hc; clear hc
      clear htu
      go_upto_region 5 with fail
      clear d0 d1 d2 hs1
      refine wp_region_held_drew (S := fun W => W.cell? ⟨w.heap.size, 1, none⟩ = some (.slice (some ad) len c) ∧ W.cell? (ad.add (k * 3)) = some (.string r2.name) ∧ W.cell? ⟨(ad.add (k * 3)).block, (ad.add (k * 3)).off + 1, none⟩ = some (.int .i64 r2.arity) ∧ W.cell? ⟨(ad.add (k * 3)).block, (ad.add (k * 3)).off + 2, none⟩ = some (.slice UA UN UC)) (by kernel_rfl) (Hall2.out _ (Below.refl _ _).drew) (fun hHeld => ?_)
      refine wpAnyH_take (i := 0) (v := .pointer (some ⟨w.heap.size + 1 + 1, 1, none⟩)) rfl (by kernel_rfl) (by kernel_rfl) (by kernel_rfl) (fun _ _ _ h => h) (Or.inl ⟨by rfl, ?_⟩) (by assumption) ?_
      · (intro w' hSw; (try dsimp only at hSw); go_simp)
      try simp only [Act.put, List.setIfInBounds_toArray, List.set_cons_zero, List.set_cons_succ]
      refine wpAnyH_take (i := 2) (v := .pointer (some ⟨w.heap.size, 1, none⟩)) rfl (by kernel_rfl) (by kernel_rfl) (by kernel_rfl) (fun _ _ _ h => h) (Or.inl ⟨by rfl, ?_⟩) (by assumption) ?_
      · (intro w' hSw; (try dsimp only at hSw); go_simp)
      try simp only [Act.put, List.setIfInBounds_toArray, List.set_cons_zero, List.set_cons_succ]
      refine wpAnyH_take (i := 3) (v := .slice (some ad) len c) rfl (by kernel_rfl) (by kernel_rfl) (by kernel_rfl) (fun _ _ _ h => h) (Or.inl ⟨by rfl, ?_⟩) (by assumption) ?_
      · (intro w' hSw; (try dsimp only at hSw); go_simp)
      try simp only [Act.put, List.setIfInBounds_toArray, List.set_cons_zero, List.set_cons_succ]
      refine wpAnyH_take (i := 4) (v := .int .i64 k) rfl (by kernel_rfl) (by kernel_rfl) (by kernel_rfl) (fun _ _ _ h => h) (Or.inl ⟨by rfl, ?_⟩) (by assumption) ?_
      · (intro w' hSw; (try dsimp only at hSw); go_simp)
      try simp only [Act.put, List.setIfInBounds_toArray, List.set_cons_zero, List.set_cons_succ]
      refine wpAnyH_take (i := 5) (v := .pointer (some (ad.add (k * 3)))) rfl (by kernel_rfl) (by kernel_rfl) (by kernel_rfl) (fun _ _ _ h => h) (Or.inl ⟨by rfl, ?_⟩) (by assumption) ?_
      · (intro w' hSw; (try dsimp only at hSw); go_simp)
      try simp only [Act.put, List.setIfInBounds_toArray, List.set_cons_zero, List.set_cons_succ]
      refine wpAnyH_take (i := 6) (v := .pointer (some (ad.add (k * 3)))) rfl (by kernel_rfl) (by kernel_rfl) (by kernel_rfl) (fun _ _ _ h => h) (Or.inl ⟨by rfl, ?_⟩) (by assumption) ?_
      · (intro w' hSw; (try dsimp only at hSw); go_simp)
      try simp only [Act.put, List.setIfInBounds_toArray, List.set_cons_zero, List.set_cons_succ]
      refine wpAnyH_take (i := 7) (v := .string r2.name) rfl (by kernel_rfl) (by kernel_rfl) (by kernel_rfl) (fun _ _ _ h => h) (Or.inl ⟨by rfl, ?_⟩) (by assumption) ?_
      · (intro w' hSw; (try dsimp only at hSw); go_simp)
      try simp only [Act.put, List.setIfInBounds_toArray, List.set_cons_zero, List.set_cons_succ]
      refine wpAnyH_take (i := 8) (v := .pointer (some ⟨w.heap.size, 1, none⟩)) rfl (by kernel_rfl) (by kernel_rfl) (by kernel_rfl) (fun _ _ _ h => h) (Or.inl ⟨by rfl, ?_⟩) (by assumption) ?_
      · (intro w' hSw; (try dsimp only at hSw); go_simp)
      try simp only [Act.put, List.setIfInBounds_toArray, List.set_cons_zero, List.set_cons_succ]
      refine wpAnyH_take (i := 9) (v := .slice (some ad) len c) rfl (by kernel_rfl) (by kernel_rfl) (by kernel_rfl) (fun _ _ _ h => h) (Or.inl ⟨by rfl, ?_⟩) (by assumption) ?_
      · (intro w' hSw; (try dsimp only at hSw); go_simp)
      try simp only [Act.put, List.setIfInBounds_toArray, List.set_cons_zero, List.set_cons_succ]
      refine wpAnyH_take (i := 10) (v := .int .i64 k) rfl (by kernel_rfl) (by kernel_rfl) (by kernel_rfl) (fun _ _ _ h => h) (Or.inl ⟨by rfl, ?_⟩) (by assumption) ?_
      · (intro w' hSw; (try dsimp only at hSw); go_simp)
      try simp only [Act.put, List.setIfInBounds_toArray, List.set_cons_zero, List.set_cons_succ]
      refine wpAnyH_take (i := 11) (v := .pointer (some (ad.add (k * 3)))) rfl (by kernel_rfl) (by kernel_rfl) (by kernel_rfl) (fun _ _ _ h => h) (Or.inl ⟨by rfl, ?_⟩) (by assumption) ?_
      · (intro w' hSw; (try dsimp only at hSw); go_simp)
      try simp only [Act.put, List.setIfInBounds_toArray, List.set_cons_zero, List.set_cons_succ]
      refine wpAnyH_take (i := 12) (v := .pointer (some ⟨(ad.add (k * 3)).block, (ad.add (k * 3)).off + 1, none⟩)) rfl (by kernel_rfl) (by kernel_rfl) (by kernel_rfl) (fun _ _ _ h => h) (Or.inl ⟨by rfl, ?_⟩) (by assumption) ?_
      · (intro w' hSw; (try dsimp only at hSw); go_simp)
      try simp only [Act.put, List.setIfInBounds_toArray, List.set_cons_zero, List.set_cons_succ]
      refine wpAnyH_take (i := 13) (v := .int .i64 r2.arity) rfl (by kernel_rfl) (by kernel_rfl) (by kernel_rfl) (fun _ _ _ h => h) (Or.inl ⟨by rfl, ?_⟩) (by assumption) ?_
      · (intro w' hSw; (try dsimp only at hSw); go_simp)
      try simp only [Act.put, List.setIfInBounds_toArray, List.set_cons_zero, List.set_cons_succ]
      refine wpAnyH_take (i := 14) (v := .pointer (some ⟨w.heap.size, 1, none⟩)) rfl (by kernel_rfl) (by kernel_rfl) (by kernel_rfl) (fun _ _ _ h => h) (Or.inl ⟨by rfl, ?_⟩) (by assumption) ?_
      · (intro w' hSw; (try dsimp only at hSw); go_simp)
      try simp only [Act.put, List.setIfInBounds_toArray, List.set_cons_zero, List.set_cons_succ]
      refine wpAnyH_take (i := 15) (v := .slice (some ad) len c) rfl (by kernel_rfl) (by kernel_rfl) (by kernel_rfl) (fun _ _ _ h => h) (Or.inl ⟨by rfl, ?_⟩) (by assumption) ?_
      · (intro w' hSw; (try dsimp only at hSw); go_simp)
      try simp only [Act.put, List.setIfInBounds_toArray, List.set_cons_zero, List.set_cons_succ]
      refine wpAnyH_take (i := 16) (v := .int .i64 k) rfl (by kernel_rfl) (by kernel_rfl) (by kernel_rfl) (fun _ _ _ h => h) (Or.inl ⟨by rfl, ?_⟩) (by assumption) ?_
      · (intro w' hSw; (try dsimp only at hSw); go_simp)
      try simp only [Act.put, List.setIfInBounds_toArray, List.set_cons_zero, List.set_cons_succ]
      refine wpAnyH_take (i := 17) (v := .pointer (some (ad.add (k * 3)))) rfl (by kernel_rfl) (by kernel_rfl) (by kernel_rfl) (fun _ _ _ h => h) (Or.inl ⟨by rfl, ?_⟩) (by assumption) ?_
      · (intro w' hSw; (try dsimp only at hSw); go_simp)
      try simp only [Act.put, List.setIfInBounds_toArray, List.set_cons_zero, List.set_cons_succ]
      refine wpAnyH_take (i := 18) (v := .pointer (some ⟨(ad.add (k * 3)).block, (ad.add (k * 3)).off + 2, none⟩)) rfl (by kernel_rfl) (by kernel_rfl) (by kernel_rfl) (fun _ _ _ h => h) (Or.inl ⟨by rfl, ?_⟩) (by assumption) ?_
      · (intro w' hSw; (try dsimp only at hSw); go_simp)
      try simp only [Act.put, List.setIfInBounds_toArray, List.set_cons_zero, List.set_cons_succ]
      refine wpAnyH_take (i := 19) (v := .slice UA UN UC) rfl (by kernel_rfl) (by kernel_rfl) (by kernel_rfl) (fun _ _ _ h => h) (Or.inl ⟨by rfl, ?_⟩) (by assumption) ?_
      · (intro w' hSw; (try dsimp only at hSw); go_simp)
      try simp only [Act.put, List.setIfInBounds_toArray, List.set_cons_zero, List.set_cons_succ]
      refine wpAnyH_ready (rs := [1, 20]) (by kernel_rfl) (by simp) ?_
      refine AllReadyH.cons rfl (fun K hK => ?_) (AllReadyH.cons rfl (fun K hK => ?_) AllReadyH.nil)
      · skip
        go_simp
        refine hK.out _ _ ?_ (fun hHeld => ?_)
        · exact Hall2.out _ ((Below.refl _ _).drew)
        clear hK K
        try simp only [Act.put, List.setIfInBounds_toArray, List.set_cons_zero, List.set_cons_succ]
        refine wpAnyH_ready (rs := [20]) (by kernel_rfl) (by simp) ?_
        refine AllReadyH.cons rfl (fun K hK => ?_) AllReadyH.nil
        go_simp
        refine (Hcall.out _ (below_drewN (Below.refl _ _) 1)).mono ?_
        rintro e w7 ⟨x, rfl, hnt, hb7⟩
        have hnt' := hnt
        obtain ⟨XA, XN, XC, rfl, -⟩ := hnt'
        have hs7 : wr.heap.size ≤ w7.heap.size := hb7.size
        have hbw7 : Below (w.heap.size + 1) wr w7 := (Below.refl (w.heap.size + 1) wr).drew.trans (hb7.mono (by simp; omega))
        have hbz7 : w.heap.size + 1 ≤ w7.heap.size := by omega
        have hc7 : Blk w7 (w.heap.size + 1 + 1) 24 #[.int .i64 size, .slice TA k TC] := (Hc.out.drew).below hb7 (by simp; omega)
        have hcc7 : w7.cell? ⟨w.heap.size + 1 + 1, 1, none⟩ = some (.slice TA k TC) := hc7.cell 1
        have hcc7' : (w7.alloc (.cells #[.string r2.name, .int .i64 r2.arity, .slice XA XN XC] 57)).cell? ⟨w.heap.size + 1 + 1, 1, none⟩ = some (.slice TA k TC) := (Blk.alloc hc7 _).cell 1
        have hown7 : (w7.alloc (.cells #[.string r2.name, .int .i64 r2.arity, .slice XA XN XC] 57)).ownsRow (w.heap.size + 3) 57 3 (.slice TA k TC) k xs := World.ownsRow.alloc (own_below (w := wr.drew) Hown.out hb7) _
        refine hK.out _ _ ?_ (fun hHeld => ?_)
        · exact Hall2.out _ (hbw7)
        clear hK K
        try simp only [Act.put, List.setIfInBounds_toArray, List.set_cons_zero, List.set_cons_succ]
        refine wpAnyH_ready (rs := [21]) (by kernel_rfl) (by simp) ?_
        refine AllReadyH.cons rfl (fun K hK => ?_) AllReadyH.nil
        go_simp
        refine hK.out _ _ ?_ (fun hHeld => ?_)
        · exact Hall2.out _ (hbw7)
        clear hK K
        try simp only [Act.put, List.setIfInBounds_toArray, List.set_cons_zero, List.set_cons_succ]
        refine wpAnyH_ready (rs := [22]) (by kernel_rfl) (by simp) ?_
        refine AllReadyH.cons rfl (fun K hK => ?_) AllReadyH.nil
        go_simp
        refine hK.out _ _ ?_ (fun hHeld => ?_)
        · exact Hall2.out _ (hbw7.alloc hbz7 _)
        clear hK K
        try simp only [Act.put, List.setIfInBounds_toArray, List.set_cons_zero, List.set_cons_succ]
        refine wpAnyH_ready (rs := [23]) (by kernel_rfl) (by simp) ?_
        refine AllReadyH.cons rfl (fun K hK => ?_) AllReadyH.nil
        refine step_append_rel _ rfl _ _ rfl (w.heap.size + 3) _ k xs rfl hown7 w7.heap.size 1 _ _ _ rfl (Blk.new w7 57 #[.string r2.name, .int .i64 r2.arity, .slice XA XN XC]) rfl rfl rfl (by omega) (by simp; omega) ?_
        intro v8 w8 hown8 hg8
        obtain ⟨VA, VC, rfl⟩ := own_slice hown8
        have hc8 : Blk w8 (w.heap.size + 1 + 1) 24 #[.int .i64 size, .slice TA k TC] := Blk.grown (Blk.alloc hc7 _) hg8 (fun e => by have := (hown7.lt _ e.symm).1; omega)
        have hbw8 : Below (w.heap.size + 1) wr w8 := (hbw7.alloc hbz7 _).grown hg8 (by simp; omega) (fun g e => by have := (hown7.lt g e).1; omega)
        have hcc8 : w8.cell? ⟨w.heap.size + 1 + 1, 1, none⟩ = some (.slice TA k TC) := hc8.cell 1
        have hcf8 := hc8.frozen 1
        refine hK.out _ _ ?_ (fun hHeld => ?_)
        · exact Hall2.out _ (hbw8)
        clear hK K
        try simp only [Act.put, List.setIfInBounds_toArray, List.set_cons_zero, List.set_cons_succ]
        refine wpAnyH_ready (rs := [24]) (by kernel_rfl) (by simp) ?_
        refine AllReadyH.cons rfl (fun K hK => ?_) AllReadyH.nil
        go_simp
        refine hK.out _ _ ?_ (fun hHeld => ?_)
        · exact Hall2.out _ (hbw8)
        clear hK K
        try simp only [Act.put, List.setIfInBounds_toArray, List.set_cons_zero, List.set_cons_succ]
        refine wpAnyH_ready (rs := [25]) (by kernel_rfl) (by simp) ?_
        refine AllReadyH.cons rfl (fun K hK => ?_) AllReadyH.nil
        go_simp
        refine hK.out _ _ ?_ (fun hHeld => ?_)
        · exact Hall2.out _ (hbw8.setCell (by simp) _)
        clear hK K
        try simp only [Act.put, List.setIfInBounds_toArray, List.set_cons_zero, List.set_cons_succ]
        refine wpAnyH_done (by kernel_rfl) ?_ _
        go_wp2
        have hg8' : (w7.alloc (.cells #[.string r2.name, .int .i64 r2.arity, .slice XA XN XC] 57)).grownBy w8 (Value.slice TA k TC).ownBlock := hg8
        have hbase : ∀ g, (Value.slice TA k TC).ownBlock = some g → w.heap.size + 3 ≤ g := fun g e => (hown7.lt g e).1
        have hk7 : Keeps (w.heap.size + 3) [3, 25] w7 (w8.setCell ⟨w.heap.size + 1 + 1, 1, none⟩ (.slice VA (k + 1) VC)) :=
          (Keeps.alloc _ _ _ _).trans ((Keeps.own hg8' hown7 (by decide)).trans (Keeps.setCell (p := ⟨w.heap.size + 1 + 1, 1, none⟩) hc8 (by decide) _))
        refine ⟨⟨k + 1, .slice VA (k + 1) VC, xs ++ [.string r2.name, .int .i64 r2.arity, .slice XA XN XC], us ++ [.slice XA XN XC], by omega, by go_num, ?_, ?_, hc8.set_ 1 _, own_set hown8 (show w.heap.size + 1 + 1 < w.heap.size + 3 by omega) _, by rw [take_snoc Hr.out]; exact Hrc.out.snoc r2 _, ?_, ?_⟩, by simp [intOf]; omega⟩
        · exact Blk.far (Blk.grown (Blk.alloc (Hs.out.drew.below hb7 (by simp; omega)) _) hg8' (fun e => by have := hbase _ e.symm; omega)) (by simp; omega) _
        · exact Blk.far (Blk.grown (Blk.alloc (Hz.out.drew.below hb7 (by simp; omega)) _) hg8' (fun e => by have := hbase _ e.symm; omega)) (by simp) _
        · rw [take_snoc Hr.out]
          exact RElems.snoc ((hel.keep ((Keeps.drewN _ _ wr 1).trans (Keeps.of_below hb7))).keep hk7) Hrc.out.2.1 ((hnt.more (by simp; omega)).keep hk7) hnz
        · exact (((hbel.drew.trans (hb7.mono (by simp; omega))).alloc (by omega) _).grown hg8' (by simp; omega) (fun g e => by have := hbase g e; omega)).setCell (show w.heap.size ≤ w.heap.size + 1 + 1 by omega) _
      · skip
        go_simp
        refine (Hcall.out _ (below_drewN (Below.refl _ _) 1)).mono ?_
        rintro e w7 ⟨x, rfl, hnt, hb7⟩
        have hnt' := hnt
        obtain ⟨XA, XN, XC, rfl, -⟩ := hnt'
        have hs7 : wr.heap.size ≤ w7.heap.size := hb7.size
        have hbw7 : Below (w.heap.size + 1) wr w7 := (Below.refl (w.heap.size + 1) wr).drew.trans (hb7.mono (by simp; omega))
        have hbz7 : w.heap.size + 1 ≤ w7.heap.size := by omega
        have hc7 : Blk w7 (w.heap.size + 1 + 1) 24 #[.int .i64 size, .slice TA k TC] := (Hc.out.drew).below hb7 (by simp; omega)
        have hcc7 : w7.cell? ⟨w.heap.size + 1 + 1, 1, none⟩ = some (.slice TA k TC) := hc7.cell 1
        have hcc7' : (w7.alloc (.cells #[.string r2.name, .int .i64 r2.arity, .slice XA XN XC] 57)).cell? ⟨w.heap.size + 1 + 1, 1, none⟩ = some (.slice TA k TC) := (Blk.alloc hc7 _).cell 1
        have hown7 : (w7.alloc (.cells #[.string r2.name, .int .i64 r2.arity, .slice XA XN XC] 57)).ownsRow (w.heap.size + 3) 57 3 (.slice TA k TC) k xs := World.ownsRow.alloc (own_below (w := wr.drew) Hown.out hb7) _
        refine hK.out _ _ ?_ (fun hHeld => ?_)
        · exact Hall2.out _ (hbw7)
        clear hK K
        try simp only [Act.put, List.setIfInBounds_toArray, List.set_cons_zero, List.set_cons_succ]
        refine wpAnyH_take (i := 21) (v := .agg #[.string r2.name, .int .i64 r2.arity, .slice XA XN XC]) rfl (by kernel_rfl) (by kernel_rfl) (by kernel_rfl) (fun _ _ _ h => h) (Or.inl ⟨by rfl, ?_⟩) (by assumption) ?_
        · (intro w' hSw; (try dsimp only at hSw); go_simp)
        try simp only [Act.put, List.setIfInBounds_toArray, List.set_cons_zero, List.set_cons_succ]
        refine wpAnyH_ready (rs := [1, 22]) (by kernel_rfl) (by simp) ?_
        refine AllReadyH.cons rfl (fun K hK => ?_) (AllReadyH.cons rfl (fun K hK => ?_) AllReadyH.nil)
        · skip
          go_simp
          refine hK.out _ _ ?_ (fun hHeld => ?_)
          · exact Hall2.out _ (hbw7)
          clear hK K
          try simp only [Act.put, List.setIfInBounds_toArray, List.set_cons_zero, List.set_cons_succ]
          refine wpAnyH_ready (rs := [22]) (by kernel_rfl) (by simp) ?_
          refine AllReadyH.cons rfl (fun K hK => ?_) AllReadyH.nil
          go_simp
          refine hK.out _ _ ?_ (fun hHeld => ?_)
          · exact Hall2.out _ (hbw7.alloc hbz7 _)
          clear hK K
          try simp only [Act.put, List.setIfInBounds_toArray, List.set_cons_zero, List.set_cons_succ]
          refine wpAnyH_ready (rs := [23]) (by kernel_rfl) (by simp) ?_
          refine AllReadyH.cons rfl (fun K hK => ?_) AllReadyH.nil
          refine step_append_rel _ rfl _ _ rfl (w.heap.size + 3) _ k xs rfl hown7 w7.heap.size 1 _ _ _ rfl (Blk.new w7 57 #[.string r2.name, .int .i64 r2.arity, .slice XA XN XC]) rfl rfl rfl (by omega) (by simp; omega) ?_
          intro v8 w8 hown8 hg8
          obtain ⟨VA, VC, rfl⟩ := own_slice hown8
          have hc8 : Blk w8 (w.heap.size + 1 + 1) 24 #[.int .i64 size, .slice TA k TC] := Blk.grown (Blk.alloc hc7 _) hg8 (fun e => by have := (hown7.lt _ e.symm).1; omega)
          have hbw8 : Below (w.heap.size + 1) wr w8 := (hbw7.alloc hbz7 _).grown hg8 (by simp; omega) (fun g e => by have := (hown7.lt g e).1; omega)
          have hcc8 : w8.cell? ⟨w.heap.size + 1 + 1, 1, none⟩ = some (.slice TA k TC) := hc8.cell 1
          have hcf8 := hc8.frozen 1
          refine hK.out _ _ ?_ (fun hHeld => ?_)
          · exact Hall2.out _ (hbw8)
          clear hK K
          try simp only [Act.put, List.setIfInBounds_toArray, List.set_cons_zero, List.set_cons_succ]
          refine wpAnyH_ready (rs := [24]) (by kernel_rfl) (by simp) ?_
          refine AllReadyH.cons rfl (fun K hK => ?_) AllReadyH.nil
          go_simp
          refine hK.out _ _ ?_ (fun hHeld => ?_)
          · exact Hall2.out _ (hbw8)
          clear hK K
          try simp only [Act.put, List.setIfInBounds_toArray, List.set_cons_zero, List.set_cons_succ]
          refine wpAnyH_ready (rs := [25]) (by kernel_rfl) (by simp) ?_
          refine AllReadyH.cons rfl (fun K hK => ?_) AllReadyH.nil
          go_simp
          refine hK.out _ _ ?_ (fun hHeld => ?_)
          · exact Hall2.out _ (hbw8.setCell (by simp) _)
          clear hK K
          try simp only [Act.put, List.setIfInBounds_toArray, List.set_cons_zero, List.set_cons_succ]
          refine wpAnyH_done (by kernel_rfl) ?_ _
          go_wp2
          have hg8' : (w7.alloc (.cells #[.string r2.name, .int .i64 r2.arity, .slice XA XN XC] 57)).grownBy w8 (Value.slice TA k TC).ownBlock := hg8
          have hbase : ∀ g, (Value.slice TA k TC).ownBlock = some g → w.heap.size + 3 ≤ g := fun g e => (hown7.lt g e).1
          have hk7 : Keeps (w.heap.size + 3) [3, 25] w7 (w8.setCell ⟨w.heap.size + 1 + 1, 1, none⟩ (.slice VA (k + 1) VC)) :=
            (Keeps.alloc _ _ _ _).trans ((Keeps.own hg8' hown7 (by decide)).trans (Keeps.setCell (p := ⟨w.heap.size + 1 + 1, 1, none⟩) hc8 (by decide) _))
          refine ⟨⟨k + 1, .slice VA (k + 1) VC, xs ++ [.string r2.name, .int .i64 r2.arity, .slice XA XN XC], us ++ [.slice XA XN XC], by omega, by go_num, ?_, ?_, hc8.set_ 1 _, own_set hown8 (show w.heap.size + 1 + 1 < w.heap.size + 3 by omega) _, by rw [take_snoc Hr.out]; exact Hrc.out.snoc r2 _, ?_, ?_⟩, by simp [intOf]; omega⟩
          · exact Blk.far (Blk.grown (Blk.alloc (Hs.out.drew.below hb7 (by simp; omega)) _) hg8' (fun e => by have := hbase _ e.symm; omega)) (by simp; omega) _
          · exact Blk.far (Blk.grown (Blk.alloc (Hz.out.drew.below hb7 (by simp; omega)) _) hg8' (fun e => by have := hbase _ e.symm; omega)) (by simp) _
          · rw [take_snoc Hr.out]
            exact RElems.snoc ((hel.keep ((Keeps.drewN _ _ wr 1).trans (Keeps.of_below hb7))).keep hk7) Hrc.out.2.1 ((hnt.more (by simp; omega)).keep hk7) hnz
          · exact (((hbel.drew.trans (hb7.mono (by simp; omega))).alloc (by omega) _).grown hg8' (by simp; omega) (fun g e => by have := hbase g e; omega)).setCell (show w.heap.size ≤ w.heap.size + 1 + 1 by omega) _
        · skip
          go_simp
          refine hK.out _ _ ?_ (fun hHeld => ?_)
          · exact Hall2.out _ (hbw7.alloc hbz7 _)
          clear hK K
          try simp only [Act.put, List.setIfInBounds_toArray, List.set_cons_zero, List.set_cons_succ]
          refine wpAnyH_ready (rs := [1]) (by kernel_rfl) (by simp) ?_
          refine AllReadyH.cons rfl (fun K hK => ?_) AllReadyH.nil
          go_simp
          refine hK.out _ _ ?_ (fun hHeld => ?_)
          · exact Hall2.out _ (hbw7.alloc hbz7 _)
          clear hK K
          try simp only [Act.put, List.setIfInBounds_toArray, List.set_cons_zero, List.set_cons_succ]
          refine wpAnyH_ready (rs := [23]) (by kernel_rfl) (by simp) ?_
          refine AllReadyH.cons rfl (fun K hK => ?_) AllReadyH.nil
          refine step_append_rel _ rfl _ _ rfl (w.heap.size + 3) _ k xs rfl hown7 w7.heap.size 1 _ _ _ rfl (Blk.new w7 57 #[.string r2.name, .int .i64 r2.arity, .slice XA XN XC]) rfl rfl rfl (by omega) (by simp; omega) ?_
          intro v8 w8 hown8 hg8
          obtain ⟨VA, VC, rfl⟩ := own_slice hown8
          have hc8 : Blk w8 (w.heap.size + 1 + 1) 24 #[.int .i64 size, .slice TA k TC] := Blk.grown (Blk.alloc hc7 _) hg8 (fun e => by have := (hown7.lt _ e.symm).1; omega)
          have hbw8 : Below (w.heap.size + 1) wr w8 := (hbw7.alloc hbz7 _).grown hg8 (by simp; omega) (fun g e => by have := (hown7.lt g e).1; omega)
          have hcc8 : w8.cell? ⟨w.heap.size + 1 + 1, 1, none⟩ = some (.slice TA k TC) := hc8.cell 1
          have hcf8 := hc8.frozen 1
          refine hK.out _ _ ?_ (fun hHeld => ?_)
          · exact Hall2.out _ (hbw8)
          clear hK K
          try simp only [Act.put, List.setIfInBounds_toArray, List.set_cons_zero, List.set_cons_succ]
          refine wpAnyH_ready (rs := [24]) (by kernel_rfl) (by simp) ?_
          refine AllReadyH.cons rfl (fun K hK => ?_) AllReadyH.nil
          go_simp
          refine hK.out _ _ ?_ (fun hHeld => ?_)
          · exact Hall2.out _ (hbw8)
          clear hK K
          try simp only [Act.put, List.setIfInBounds_toArray, List.set_cons_zero, List.set_cons_succ]
          refine wpAnyH_ready (rs := [25]) (by kernel_rfl) (by simp) ?_
          refine AllReadyH.cons rfl (fun K hK => ?_) AllReadyH.nil
          go_simp
          refine hK.out _ _ ?_ (fun hHeld => ?_)
          · exact Hall2.out _ (hbw8.setCell (by simp) _)
          clear hK K
          try simp only [Act.put, List.setIfInBounds_toArray, List.set_cons_zero, List.set_cons_succ]
          refine wpAnyH_done (by kernel_rfl) ?_ _
          go_wp2
          have hg8' : (w7.alloc (.cells #[.string r2.name, .int .i64 r2.arity, .slice XA XN XC] 57)).grownBy w8 (Value.slice TA k TC).ownBlock := hg8
          have hbase : ∀ g, (Value.slice TA k TC).ownBlock = some g → w.heap.size + 3 ≤ g := fun g e => (hown7.lt g e).1
          have hk7 : Keeps (w.heap.size + 3) [3, 25] w7 (w8.setCell ⟨w.heap.size + 1 + 1, 1, none⟩ (.slice VA (k + 1) VC)) :=
            (Keeps.alloc _ _ _ _).trans ((Keeps.own hg8' hown7 (by decide)).trans (Keeps.setCell (p := ⟨w.heap.size + 1 + 1, 1, none⟩) hc8 (by decide) _))
          refine ⟨⟨k + 1, .slice VA (k + 1) VC, xs ++ [.string r2.name, .int .i64 r2.arity, .slice XA XN XC], us ++ [.slice XA XN XC], by omega, by go_num, ?_, ?_, hc8.set_ 1 _, own_set hown8 (show w.heap.size + 1 + 1 < w.heap.size + 3 by omega) _, by rw [take_snoc Hr.out]; exact Hrc.out.snoc r2 _, ?_, ?_⟩, by simp [intOf]; omega⟩
          · exact Blk.far (Blk.grown (Blk.alloc (Hs.out.drew.below hb7 (by simp; omega)) _) hg8' (fun e => by have := hbase _ e.symm; omega)) (by simp; omega) _
          · exact Blk.far (Blk.grown (Blk.alloc (Hz.out.drew.below hb7 (by simp; omega)) _) hg8' (fun e => by have := hbase _ e.symm; omega)) (by simp) _
          · rw [take_snoc Hr.out]
            exact RElems.snoc ((hel.keep ((Keeps.drewN _ _ wr 1).trans (Keeps.of_below hb7))).keep hk7) Hrc.out.2.1 ((hnt.more (by simp; omega)).keep hk7) hnz
          · exact (((hbel.drew.trans (hb7.mono (by simp; omega))).alloc (by omega) _).grown hg8' (by simp; omega) (fun g e => by have := hbase g e; omega)).setCell (show w.heap.size ≤ w.heap.size + 1 + 1 by omega) _
    · have hkl : k = len := by omega
      subst hkl
      have htk : rs.take k = rs := List.take_of_length_le (by have := Hlen.out; omega)
      have hrc' := Hrc.out
      rw [htk] at hel hrc'
      have hown' := Hown.out
      have hkl' : k = rs.length := Hlen.out
      rw [hkl'] at hown'
      have hnt : CRels wr (w.heap.size + 3) (.slice TA rs.length TC) rs := ⟨xs, us, hown', hrc', hel⟩
      rw [← hkl'] at hnt
      have hcc0 : wr.cell? ⟨w.heap.size + 1 + 1, 0, none⟩ = some (.int .i64 size) := hc.cell 0
      have hcc1 : wr.cell? ⟨w.heap.size + 1 + 1, 1, none⟩ = some (.slice TA k TC) := hc.cell 1
      have hzc0 : wr.cell? ⟨w.heap.size + 1, 0, none⟩ = some (.int .i64 0) := hz.cell 0
      have hzc1 : wr.cell? ⟨w.heap.size + 1, 1, none⟩ = some (.slice none 0 0) := hz.cell 1
      have hzf0 := hz.frozen 0
      have hzf1 := hz.frozen 1
      have Hnt := Lib.hid hnt; clear hnt htk hel hrc' hown' hkl'
      go_wp2
      refine bodyPost_ret (v := .agg #[.int .i64 size, .slice TA k TC]) (by simp [results, Tryz.results13, go_sem, hzc0, hzc1]) rfl ?_
      have hk0 : Keeps (w.heap.size + 3) [3, 25, 57] wr ((wr.setCell ⟨w.heap.size + 1, 0, none⟩ (.int .i64 size)).setCell ⟨w.heap.size + 1, 1, none⟩ (.slice TA k TC)) :=
        (Keeps.setCell (p := ⟨w.heap.size + 1, 0, none⟩) hz (by decide) _).trans (Keeps.setCell (p := ⟨w.heap.size + 1, 1, none⟩) (hz.set_ _ _) (by decide) _)
      obtain ⟨xs', vs', g1, g2, g3⟩ := Hnt.out.keep hk0
      refine ⟨_, rfl, ⟨xs', vs', own_base g1 (by omega), g2, relems_more g3 (by omega)⟩, ?_⟩
      exact (hbel.setCell (by simp) _).setCell (by simp) _

end Go.Proofs.YtelememdhpncgaaGreatDoor

/-
  Walks: permutes; the reference's Perm comes later.
-/
namespace Go.Proofs.YtelememdhpncgaaGreatDoor
open Go.RowKit
open Go.Maps (Keyed)
open Go.ChangeMaps Go.MapKept

namespace Sh
/-- The list has each number from 0 to n - 1 exactly once. -/
def permB (n : Int) (p : List Int) : Bool := decide ((p.length : Int) = n) && inB n p && decide p.Nodup
end Sh

def numSet (l : List Int) : DataW Unit := l.foldl (fun D s => D.put (.int .i64 s) (.lit (.bool true))) (.map [])
theorem numSet_snoc (l : List Int) (s : Int) : numSet (l ++ [s]) = (numSet l).put (.int .i64 s) (.lit (.bool true)) := by
  unfold numSet; rw [List.foldl_append]; rfl
theorem numSet_tidy (l : List Int) : Go.Maps.Tidy (numSet l) := by
  have : ∀ (l : List Int) (D : DataW Unit), Go.Maps.Tidy D → Go.Maps.Tidy (l.foldl (fun D s => D.put (.int .i64 s) (.lit (.bool true))) D) := by
    intro l
    induction l with
    | nil => intro D h; exact h
    | cons x l ih => intro D h; exact ih _ (h.put (by trivial) _)
  exact this l _ Go.Maps.tidy_empty
theorem numSet_has (s : Int) (l : List Int) : Go.Maps.has (numSet l) (.int .i64 s) = l.contains s := by
  have : ∀ (l : List Int) (D : DataW Unit), Go.Maps.IsMap D → Go.Maps.has (l.foldl (fun D s => D.put (.int .i64 s) (.lit (.bool true))) D) (.int .i64 s) = (Go.Maps.has D (.int .i64 s) || l.contains s) := by
    intro l
    induction l with
    | nil => intro D _; simp
    | cons x l ih =>
      intro D h
      rw [List.foldl_cons, ih _ (h.put _ _), List.contains_cons]
      by_cases hx : s = x
      · subst hx
        rw [Go.Maps.has_put_same h (by trivial)]
        simp
      · rw [Go.Maps.has_put_other (by intro e; injection e with _ e; exact hx e)]
        have : (s == x) = false := by simpa using hx
        rw [this, Bool.false_or]
  have h := this l (.map []) Go.Maps.isMap_empty
  simpa [numSet, Go.Maps.has] using h
theorem int_nodup_succ {l : List Int} {k : Nat} {x : Int} (hk : l[k]? = some x) : (l.take (k + 1)).Nodup ↔ (l.take k).Nodup ∧ x ∉ l.take k := by
  rw [take_snoc hk, List.nodup_append]
  constructor
  · rintro ⟨h1, -, h3⟩
    exact ⟨h1, fun hm => h3 x hm x (List.mem_singleton.2 rfl) rfl⟩
  · rintro ⟨h1, h2⟩
    exact ⟨h1, by simp, fun a ha b hb e => h2 (by rw [List.mem_singleton] at hb; rw [← hb, ← e]; exact ha)⟩
theorem numSet_size (l : List Int) : ∀ k, k ≤ l.length → Go.Maps.size (numSet (l.take k)) ≤ k ∧ ((l.take k).Nodup ↔ Go.Maps.size (numSet (l.take k)) = k)
  | 0, _ => by simp [numSet, Go.Maps.size]
  | k + 1, h => by
    obtain ⟨h1, h2⟩ := numSet_size l k (by omega)
    have hk : l[k]? = some l[k] := List.getElem?_eq_getElem (by omega)
    rw [int_nodup_succ hk, take_snoc hk, numSet_snoc, Go.Maps.size_put (numSet_tidy _), numSet_has]
    cases hc : (l.take k).contains l[k] with
    | true =>
      rw [if_pos rfl]
      have hm := List.contains_iff_mem.1 hc
      exact ⟨by omega, ⟨fun hh => absurd hm hh.2, fun hh => by omega⟩⟩
    | false =>
      rw [if_neg (by simp)]
      have hm : l[k] ∉ l.take k := fun hm => by rw [List.contains_iff_mem.2 hm] at hc; cases hc
      exact ⟨by omega, ⟨fun hh => by rw [h2.1 hh.1], fun hh => ⟨h2.2 (by omega), hm⟩⟩⟩

theorem wf_small {x : Int} (h0 : 0 ≤ x) (h1 : x < 64) : (Lit.int .i64 x).wf = true := by
  have e1 : IntKind.i64.min = -9223372036854775808 := by decide
  have e2 : IntKind.i64.max = 9223372036854775807 := by decide
  unfold Lit.wf
  simp only [e1, e2, Bool.and_eq_true, decide_eq_true_eq]
  omega
theorem nums_keyed : Keyed Tryz.prog 3 := Go.Maps.int_keyed Tryz.underlying3
def NumSet (w : World) (b n : Nat) (l : List Int) : Prop := w.ownsMap Tryz.prog 3 (plainElem Tryz.prog 4) b n (numSet l)
theorem NumSet.made (w : World) : NumSet (w.alloc (.map #[] 0)) w.heap.size 0 [] := World.ownsMap_made _ _ _ _
theorem NumSet.below {w w' : World} {B b n : Nat} {l : List Int} (h : NumSet w b n l) (hb : Below B w w') (hB : b < B) : NumSet w' b n l := by
  obtain ⟨es, clock, h1, h2⟩ := h
  exact ⟨es, clock, (hb.block b hB).trans h1, h2⟩

set_option maxRecDepth 100000 in
set_option maxHeartbeats 1000000 in
theorem permutes_any (v : Value) (p : List Int) (n : Int) (w : World) (B : Nat) (hB : B ≤ w.heap.size) (h : Ints w B v p) (hn : n ≤ 64) :
    Calls Tryz.prog 32 #[v, .int .i64 n] w fun e w' => e = .returned (.bool (Sh.permB n p)) ∧ Below w.heap.size w w' := by
  have h' := h
  obtain ⟨A, len, c, rfl, hlen, hmax, -⟩ := h'
  have hel := fun W (hW : Below B w W) => elements_any (.slice A len c) p n W B (h.below hW)
  by_cases h1 : (len : Int) = n
  · have h1b : ((len : Int) != n) = false := by rw [h1]; simp
    cases h2 : Sh.inB n p
    · rw [h2] at hel
      have hf : Sh.permB n p = false := by unfold Sh.permB; rw [h2]; simp
      have Hf := Lib.hid hf; clear hf
      have Hel := Lib.hid hel; clear hel
      clear hlen h1 h2
      go_enter Tryz.func32, Tryz.ntmps32
      go_wp2_with (go_at_call 38; refine (Hel.out _ (Below.refl _ _)).mono ?_; rintro e w' ⟨rfl, rfl⟩)
      go_ret
      exact ⟨ret_bool Hf.out.symm, Below.refl _ _⟩
    · rw [h2] at hel
      have hpb : Sh.permB n p = decide p.Nodup := by unfold Sh.permB; rw [h2, ← hlen, decide_eq_true h1]; simp
      have hin : ∀ x ∈ p, 0 ≤ x ∧ x < n := fun x hx => of_decide_eq_true (List.all_eq_true.1 h2 x hx)
      have Hpb := Lib.hid hpb; clear hpb
      have Hel := Lib.hid hel; clear hel
      have Hin := Lib.hid hin; clear hin
      have Hlen := Lib.hid hlen; clear hlen
      have hl64 : len ≤ 64 := by omega
      have H1 := Lib.hid h1; clear h1 h2
      have hmm := @run_makeMap Tryz.prog
      go_enter Tryz.func32, Tryz.ntmps32
      go_wp2_with (go_at_call 38; refine (Hel.out _ (Below.refl _ _)).mono ?_; rintro e w' ⟨rfl, rfl⟩)
      go_loopw [21] (fun i wr => ∃ k : Nat, k ≤ len ∧ i = .int .i64 k ∧ NumSet wr w.heap.size k (p.take k) ∧ Below w.heap.size w wr) (fun i _ => len - (intOf i).toNat)
      case atStart =>
        refine ⟨0, Nat.zero_le _, rfl, ?_, (Below.refl _ _).alloc (Nat.le_refl _) _⟩
        simpa using NumSet.made w
      case round =>
        obtain ⟨k, hk, rfl, hset, hbel⟩ := hrel
        have Hset := Lib.hid hset; clear hset
        have Hbel := Lib.hid hbel; clear hbel
        by_cases hlt : k < len
        · obtain ⟨ad, rfl, hb, hc⟩ := (h.below (Hbel.out.mono hB)).at_ hlt
          have hxs : p[k]? = some (p.getD k 0) := getD_some (d := 0) (by rw [← Hlen.out]; exact hlt)
          have hx := Hin.out _ (List.mem_of_getElem? hxs)
          have htk := take_snoc hxs
          generalize p.getD k 0 = x at *
          have hkey : keyOf Tryz.prog 3 (.int .i64 x) = some (.int .i64 x) := Go.Maps.keyOf_int_mk Tryz.underlying3 (wf_small hx.1 (by omega))
          have Hkey := Lib.hid hkey; clear hkey
          have Htk := Lib.hid htk; clear htk hxs hx
          have hbz := Hbel.out.size
          go_wp2_with (at_mapUpdate; refine wpList_mapUpdate_own _ rfl _ _ _ 93 rfl 3 4 nums_keyed Tryz.underlying93 _ w.heap.size k _ rfl Hset.out (by unfold maxLen; omega) _ _ _ rfl rfl Hkey.out _ [] (plainElem_bool Tryz.underlying4 true) ?_; intro w2 hown2 hgrow2)
          refine ⟨⟨k + 1, by omega, by go_num, ?_, ?_⟩, by simp [intOf]; omega⟩
          · rw [Htk.out]; unfold NumSet; rw [numSet_snoc]; exact hown2
          · exact Hbel.out.grown hgrow2 (by omega) (by intro g hg; injection hg with hg; omega)
        · obtain rfl : k = len := by omega
          have htk : p.take k = p := List.take_of_length_le (by rw [Hlen.out]; exact Nat.le_refl _)
          have hsz := numSet_size p k (by rw [Hlen.out]; exact Nat.le_refl _)
          rw [htk] at hsz
          have hset := Hset.out
          rw [htk] at hset
          have Hset' := Lib.hid hset; clear hset
          have hfin : ((Go.Maps.size (numSet p) : Int) == n) = decide p.Nodup := by
            rw [← H1.out, Bool.eq_iff_iff]
            simp only [beq_iff_eq, decide_eq_true_eq]
            rw [hsz.2]
            omega
          have Hfin := Lib.hid hfin; clear hfin hsz htk
          go_wp2_with (at_len; refine wpList_len_own _ rfl _ 93 rfl 3 4 Tryz.underlying93 _ w.heap.size k _ rfl Hset'.out ?_)
          go_ret
          exact ⟨ret_bool (by rw [Hpb.out]; first | exact Hfin.out | (rw [← Hfin.out])), Hbel.out⟩
  · have h1b : ((len : Int) != n) = true := by rw [bne_iff_ne]; exact h1
    have hf : Sh.permB n p = false := by unfold Sh.permB; rw [← hlen, decide_eq_false h1]; simp
    have Hf := Lib.hid hf; clear hf hel
    clear hlen h1
    go_enter Tryz.func32, Tryz.ntmps32
    go_wp2
    go_ret
    exact ⟨ret_bool Hf.out.symm, Below.refl _ _⟩

end Go.Proofs.YtelememdhpncgaaGreatDoor

/-
  Plain mathematics: what a valid structure and a permutation give for Permute.
-/
namespace Go.Proofs.YtelememdhpncgaaGreatDoor
namespace Sh

theorem okB_get {n x : Int} (h : okB n x = true) : 0 ≤ x ∧ x < n := by
  refine ⟨?_, ?_⟩
  · rcases Int.lt_or_le x 0 with h1 | h1
    · rw [okB_lo h1] at h; cases h
    · exact h1
  · rcases Int.lt_or_le x n with h1 | h1
    · exact h1
    · rw [okB_hi h1] at h; cases h
theorem permB_get {n : Int} {p : List Int} (h : permB n p = true) : (p.length : Int) = n ∧ inB n p = true ∧ p.Nodup := by
  unfold permB at h
  simp only [Bool.and_eq_true, decide_eq_true_eq] at h
  exact ⟨h.1.1, h.1.2, h.2⟩
theorem perm_in {size : Int} {rs : List Rel} {p : List Int} (hv : validB ⟨size, rs⟩ = true) (hq : permB size p = true) : ∀ r ∈ rs, ∀ t ∈ r.tuples, ∀ x ∈ t, 0 ≤ x ∧ x.toNat < p.length := fun r hr t ht x hx => by
  have h1 := ((validB_iff size rs).1 hv).2.2.2.1 r hr
  have h2 := okB_get (List.all_eq_true.1 (relB_in h1 ht) x hx)
  have h3 := (permB_get hq).1
  omega
theorem perm_inj {p : List Int} (hn : p.Nodup) {x y : Int} (hx : 0 ≤ x ∧ x.toNat < p.length) (hy : 0 ≤ y ∧ y.toNat < p.length) (h : p.getD x.toNat 0 = p.getD y.toNat 0) : x = y := by
  rw [List.getD_eq_getElem?_getD, List.getD_eq_getElem?_getD, List.getElem?_eq_getElem hx.2, List.getElem?_eq_getElem hy.2] at h
  have h : p[x.toNat] = p[y.toNat] := h
  have hp := List.pairwise_iff_getElem.1 hn
  rcases Nat.lt_trichotomy x.toNat y.toNat with h1 | h1 | h1
  · exact absurd h (hp _ _ hx.2 hy.2 h1)
  · omega
  · exact absurd h.symm (hp _ _ hy.2 hx.2 h1)
theorem map_inj {f : Int → Int} {S : Int → Prop} (hf : ∀ x y, S x → S y → f x = f y → x = y) : ∀ s t : List Int, (∀ x ∈ s, S x) → (∀ x ∈ t, S x) → s.map f = t.map f → s = t
  | [], [], _, _, _ => rfl
  | [], _ :: _, _, _, h => by cases h
  | _ :: _, [], _, _, h => by cases h
  | x :: s, y :: t, hs, ht, h => by
    injection h with h1 h2
    rw [hf x y (hs x List.mem_cons_self) (ht y List.mem_cons_self) h1, map_inj hf s t (fun z hz => hs z (List.mem_cons_of_mem _ hz)) (fun z hz => ht z (List.mem_cons_of_mem _ hz)) h2]
theorem rising_nodup {ts : List (List Int)} (h : Rising ts) : ts.Nodup := by
  rw [rising_iff] at h
  exact h.imp fun {a b} hab e => by rw [e, cmpI_self] at hab; exact absurd hab (by decide)
theorem perm_nodup {size : Int} {rs : List Rel} {p : List Int} (hv : validB ⟨size, rs⟩ = true) (hq : permB size p = true) : ∀ r ∈ rs, (r.tuples.map (List.map fun x => p.getD x.toNat 0)).Nodup := fun r hr => by
  have h1 := ((validB_iff size rs).1 hv).2.2.2.1 r hr
  have hi := perm_in hv hq r hr
  have hn := rising_nodup (relB_rising h1)
  refine List.pairwise_map.2 (List.Pairwise.imp_of_mem (fun {a b} ha hb hab e => hab ?_) hn)
  exact map_inj (S := fun x => 0 ≤ x ∧ x.toNat < p.length) (fun x y hx hy he => perm_inj (permB_get hq).2.2 hx hy he) a b (hi a ha) (hi b hb) e
end Sh
end Go.Proofs.YtelememdhpncgaaGreatDoor

/-
  Walk: the reference's Renamed.
-/
namespace Go.Proofs.YtelememdhpncgaaGreatDoor
open Go.RowKit

namespace Sh
/-- A tuple with renamed elements. -/
def renT (p t : List Int) : List Int := t.map fun x => p.getD x.toNat 0
theorem renT_snoc (p t : List Int) (x : Int) : renT p (t ++ [x]) = renT p t ++ [p.getD x.toNat 0] := by unfold renT; rw [List.map_append]; rfl
end Sh

set_option maxRecDepth 100000 in
set_option maxHeartbeats 1000000 in
theorem renamed_any (v u : Value) (t p : List Int) (w : World) (B : Nat) (hB : B ≤ w.heap.size) (h : Ints w B v t) (g : Ints w B u p) (hl : t.length ≤ 1000) (hin : ∀ x ∈ t, 0 ≤ x ∧ x < p.length) :
    Calls Tryz.prog 29 #[v, u] w fun e w' => ∃ x, e = .returned x ∧ NInts w' w.heap.size x (Sh.renT p t) ∧ Below w.heap.size w w' := by
  have h' := h
  obtain ⟨A, len, c, rfl, hlen, hmax, -⟩ := h'
  have g' := g
  obtain ⟨PA, PN, PC, rfl, hpn, -⟩ := g'
  have hl1 : len ≤ 1000 := by omega
  have Hlen := Lib.hid hlen; clear hlen
  have Hpn := Lib.hid hpn; clear hpn
  have Hin := Lib.hid hin; clear hin hl
  go_enter Tryz.func29, Tryz.ntmps29
  go_wp2
  go_loopw [5, 6] (fun o i wr => ∃ k : Nat, k ≤ len ∧ i = .int .i64 k ∧ wr.ownsRow w.heap.size 3 1 o k ((Sh.renT p (t.take k)).map (Value.int .i64)) ∧ Below w.heap.size w wr) (fun _ i _ => len - (intOf i).toNat)
  case atStart => exact ⟨0, Nat.zero_le _, rfl, World.ownsRow_nil _ _ _ _, Below.refl _ _⟩
  case round =>
    obtain ⟨k, hk, rfl, hown, hbel⟩ := hrel
    obtain ⟨VA, VC, rfl⟩ := own_slice hown
    have Hown := Lib.hid hown; clear hown
    have Hbel := Lib.hid hbel; clear hbel
    have hbz := Hbel.out.size
    by_cases hlt : k < len
    · obtain ⟨ad, rfl, hb, hc⟩ := (h.below (Hbel.out.mono hB)).at_ hlt
      have hxs : t[k]? = some (t.getD k 0) := getD_some (d := 0) (by rw [← Hlen.out]; exact hlt)
      have hx := Hin.out _ (List.mem_of_getElem? hxs)
      have htk := take_snoc hxs
      generalize t.getD k 0 = x at *
      obtain ⟨y, rfl⟩ : ∃ y : Nat, x = y := ⟨x.toNat, by omega⟩
      have hy : y < PN := by rw [Hpn.out]; omega
      obtain ⟨ad2, rfl, hb2, hc2⟩ := (g.below (Hbel.out.mono hB)).at_ hy
      have hsn : Sh.renT p (t.take (k + 1)) = Sh.renT p (t.take k) ++ [p.getD y 0] := by rw [htk, Sh.renT_snoc]; simp
      generalize p.getD y 0 = z at *
      have Hsn := Lib.hid hsn; clear hsn htk hxs hx
      go_wp2_with (at_builtin
                   refine append1_int _ rfl _ _ rfl w.heap.size _ k _ rfl (World.ownsRow.alloc Hown.out _) ⟨wr.heap.size, 0, none⟩ 1 z rfl ((Blk.new wr 3 #[.int .i64 z]).cell 0) (by omega) (by simp; omega) ?_
                   intro v7 w7 hown7 hg7)
      refine ⟨⟨k + 1, by omega, by go_num, by rw [Hsn.out]; exact hown7, ?_⟩, by simp [intOf]; omega⟩
      exact (Hbel.out.alloc hbz _).grown hg7 (by simp; omega) (fun g e => (Hown.out.lt g e).1)
    · obtain rfl : k = len := by omega
      have htk : t.take k = t := List.take_of_length_le (by rw [Hlen.out]; exact Nat.le_refl _)
      have hown := Hown.out
      rw [htk] at hown
      have hni := NInts.own hown (Nat.le_refl _) (by omega)
      have Hni := Lib.hid hni; clear hni hown
      go_wp2
      go_ret
      exact ⟨_, rfl, Hni.out, Hbel.out⟩

end Go.Proofs.YtelememdhpncgaaGreatDoor

/-
  Plain mathematics: what Has answers behind Put.
-/
namespace Go.Proofs.YtelememdhpncgaaGreatDoor.Sh

theorem relFor_ok {size : Int} {rs : List Rel} {nm : List UInt8} {k : Int} (h : (relForE ⟨size, rs⟩ nm k).2 = 0) : validB ⟨size, rs⟩ = true ∧ ∃ (j : Nat) (r : Rel), relForE ⟨size, rs⟩ nm k = ((j : Int), 0) ∧ findI nm k rs = j ∧ rs[j]? = some r ∧ r.name.toList = nm ∧ r.arity = k := by
  unfold relForE at h ⊢
  by_cases h1 : validB ⟨size, rs⟩ = false
  · rw [if_pos h1] at h; exact absurd h (by decide)
  · rw [if_neg h1] at h ⊢
    by_cases h2 : findI nm k rs < 0
    · simp only [if_pos h2] at h; exact absurd h (by decide)
    · obtain ⟨j, r, e1, e2, e3, e4⟩ := findI_get h2
      refine ⟨by simpa using h1, j, r, ?_, e1, e2, e3, e4⟩
      simp only [e1]
      rw [if_neg (by omega)]
theorem relFor_mk {size : Int} {rs : List Rel} {nm : List UInt8} {k : Int} {j : Nat} (hv : validB ⟨size, rs⟩ = true) (hf : findI nm k rs = j) : relForE ⟨size, rs⟩ nm k = ((j : Int), 0) := by
  unfold relForE
  rw [if_neg (by rw [hv]; simp)]
  simp only [hf]
  rw [if_neg (by omega)]
theorem hasE_mk {size : Int} {rs : List Rel} {nm : List UInt8} {t : List Int} {j : Nat} {r : Rel} (hv : validB ⟨size, rs⟩ = true) (hf : findI nm t.length rs = j) (hr : rs[j]? = some r) : hasE ⟨size, rs⟩ nm t = (decide (t ∈ r.tuples), 0) := by
  unfold hasE
  rw [relFor_mk hv hf]
  simp only [Int.toNat_natCast, hr]
  rw [if_neg (by simp), (relB_rising (validB_rel hv hr)).found]
/-- A tuple of a relation is found. -/
theorem hasE_in {size : Int} {rs : List Rel} (hv : validB ⟨size, rs⟩ = true) {j : Nat} {r : Rel} (hr : rs[j]? = some r) {x : List Int} (hx : x ∈ r.tuples) : hasE ⟨size, rs⟩ r.name.toList x = (true, 0) := by
  have hl := relB_len (validB_rel hv hr) hx
  have hf := find_name (ar := (x.length : Int)) (valid_names hv) hr rfl
  rw [if_pos hl.symm] at hf
  rw [hasE_mk hv hf hr, decide_eq_true hx]
theorem putR_get {rs : List Rel} {k : Nat} {r : Rel} (hr : rs[k]? = some r) (t : List Int) (is : Bool) : (putR rs k t is)[k]? = some (putRel r t is) := by
  obtain ⟨hk, rfl⟩ := List.getElem?_eq_some_iff.1 hr
  unfold putR
  rw [getD_get _ _ _ hk, List.getElem?_set_self hk]
theorem putR_other {rs : List Rel} {k j : Nat} (h : j ≠ k) (t : List Int) (is : Bool) : (putR rs k t is)[j]? = rs[j]? := by
  unfold putR
  rw [List.getElem?_set_ne (fun e => h e.symm)]
theorem put_long {size : Int} {rs : List Rel} (hv : validB ⟨size, rs⟩ = true) {k : Nat} {r : Rel} (hr : rs[k]? = some r) {t : List Int} (ht : (t.length : Int) = r.arity) : Long t.length r.tuples := fun x hx => by
  have := relB_len (validB_rel hv hr) hx
  omega
/-- Has behind Put. -/
theorem has_put {size : Int} {rs : List Rel} {nm : List UInt8} {t : List Int} {k : Nat} {r : Rel} (hv : validB ⟨size, rs⟩ = true) (hr : rs[k]? = some r) (hn : r.name.toList = nm) (ht : (t.length : Int) = r.arity) (hin : inB size t = true) (is : Bool) :
    hasE ⟨size, putR rs k t is⟩ nm t = (is, 0) := by
  have hv' := put_valid hv hr ht hin is
  have hr' := putR_get hr t is
  have hf := find_name (ar := (t.length : Int)) (valid_names hv') hr' (show (putRel r t is).name.toList = nm from hn)
  rw [if_pos (show (putRel r t is).arity = t.length from ht.symm)] at hf
  rw [hasE_mk hv' hf hr']
  obtain ⟨-, -, hm⟩ := putT_ok (relB_rising (validB_rel hv hr)) (put_long hv hr ht) rfl is
  have : (t ∈ (putRel r t is).tuples) ↔ is = true := by
    show t ∈ putT r.tuples t is ↔ _
    rw [hm]
    constructor
    · rintro (⟨-, h⟩ | ⟨h, -⟩)
      · exact absurd rfl h
      · exact h
    · intro h; exact .inr ⟨h, rfl⟩
  cases is with
  | true => rw [decide_eq_true (this.2 rfl)]
  | false => rw [decide_eq_false (fun h => by have := this.1 h; cases this)]
/-- All but one tuple stay. -/
def ExceptOne (size : Int) (ra rb : List Rel) (nm : List UInt8) (t : List Int) : Prop := ∀ (j : Nat) (r : Rel) (x : List Int), ra[j]? = some r → x ∈ r.tuples → (r.name.toList = nm ∧ x = t) ∨ hasE ⟨size, rb⟩ r.name.toList x = (true, 0)
theorem except_put {size : Int} {rs : List Rel} {nm : List UInt8} {t : List Int} {k : Nat} {r : Rel} (hv : validB ⟨size, rs⟩ = true) (hr : rs[k]? = some r) (hn : r.name.toList = nm) (ht : (t.length : Int) = r.arity) (hin : inB size t = true) (is : Bool) :
    ExceptOne size rs (putR rs k t is) nm t ∧ ExceptOne size (putR rs k t is) rs nm t := by
  have hv' := put_valid hv hr ht hin is
  obtain ⟨-, -, hm⟩ := putT_ok (relB_rising (validB_rel hv hr)) (put_long hv hr ht) rfl is
  constructor
  · intro j r1 x h1 h2
    by_cases e : j = k
    · subst e
      obtain rfl : r1 = r := Option.some.inj (h1.symm.trans hr)
      by_cases ex : x = t
      · exact .inl ⟨hn, ex⟩
      · exact .inr (hasE_in hv' (putR_get hr t is) (show x ∈ putT r1.tuples t is from (hm x).2 (.inl ⟨h2, ex⟩)))
    · exact .inr (hasE_in hv' ((putR_other e t is).trans h1) h2)
  · intro j r1 x h1 h2
    by_cases e : j = k
    · subst e
      obtain rfl : r1 = putRel r t is := Option.some.inj (h1.symm.trans (putR_get hr t is))
      rcases (hm x).1 h2 with h | h
      · exact .inr (hasE_in hv hr h.1)
      · exact .inl ⟨hn, h.2⟩
    · exact .inr (hasE_in hv ((putR_other e t is).symm.trans h1) h2)

end Go.Proofs.YtelememdhpncgaaGreatDoor.Sh
