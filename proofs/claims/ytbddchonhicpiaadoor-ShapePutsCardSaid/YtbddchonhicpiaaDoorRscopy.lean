/-
  Walk: the reference's Copy.
-/
import Derived.Test.YtbddchonhicpiaaDoorRcopy
import Derived.Deep.CutRange
import Derived.Deep.RegionHeld3
namespace Go.Proofs.YtbddchonhicpiaaDoor
open Go.RowKit

/-- The relations of a copy: the row is the call's own, and so is what it holds. -/
def CRels (w : World) (L : Nat) (v : Value) (rs : List Sh.Rel) : Prop := ∃ xs us, w.ownsRow L 51 3 v rs.length xs ∧ RCells xs us rs ∧ RElems w L us rs
theorem relems_more {w : World} {L L' : Nat} {us : List Value} {rs : List Sh.Rel} (h : RElems w L us rs) (hL : L' ≤ L) : RElems w L' us rs := fun j u r h1 h2 => ⟨(h j u r h1 h2).1.more hL, (h j u r h1 h2).2⟩
theorem CRels.rels {w : World} {L : Nat} {v : Value} {rs : List Sh.Rel} (h : CRels w L v rs) (hl : rs.length ≤ 1000000) : NRels w L v rs := by
  obtain ⟨xs, vs, h1, h2, h3⟩ := h
  exact NRels.own h1 (Nat.le_refl _) (by omega) h2 h3
theorem CRels.keep {w w' : World} {L : Nat} {v : Value} {rs : List Sh.Rel} (h : CRels w L v rs) (hk : Keeps L [3, 35, 51] w w') : CRels w' L v rs := by
  obtain ⟨xs, vs, h1, h2, h3⟩ := h
  exact ⟨xs, vs, own_keeps h1 hk (Nat.le_refl _) (by simp), h2, h3.keep (hk.mono (by simp))⟩

set_option maxRecDepth 100000 in
set_option maxHeartbeats 2000000 in
theorem refcopy_own (size : Int) (v : Value) (rs : List Sh.Rel) (w : World) (B : Nat) (hB : B ≤ w.heap.size) (h : Rels w B v rs) (hl : rs.length ≤ 1000000) (ht : ∀ r ∈ rs, r.tuples.length ≤ 1000000 ∧ ∀ t ∈ r.tuples, t.length ≤ 1000000) :
    Calls Tryd.prog 67 #[.agg #[.int .i64 size, v]] w fun e w' => ∃ x, e = .returned (.agg #[.int .i64 size, x]) ∧ CRels w' w.heap.size x rs ∧ Below w.heap.size w w' := by
  have h' := h
  obtain ⟨A, len, c, rfl, hlen, hmax, -⟩ := h'
  have hl' : len ≤ 1000000 := by omega
  clear hl hmax
  have Hlen := Lib.hid hlen; clear hlen
  have Ht := Lib.hid ht; clear ht
  go_enter Tryd.func67, Tryd.ntmps67
  go_wp2
  have hb3 : Below w.heap.size w (((w.alloc (.cells #[.int .i64 size, .slice A len c] 24)).alloc (.cells #[.int .i64 0, .slice none 0 0] 24)).alloc (.cells #[.int .i64 size, .slice none 0 0] 24)) :=
    (((Below.refl _ _).alloc (Nat.le_refl _) _).alloc (by simp) _).alloc (by simp; omega) _
  have hs3 : Blk (((w.alloc (.cells #[.int .i64 size, .slice A len c] 24)).alloc (.cells #[.int .i64 0, .slice none 0 0] 24)).alloc (.cells #[.int .i64 size, .slice none 0 0] 24)) w.heap.size 24 #[.int .i64 size, .slice A len c] := ((Blk.new w 24 #[.int .i64 size, .slice A len c]).alloc _).alloc _
  have hz3 : Blk (((w.alloc (.cells #[.int .i64 size, .slice A len c] 24)).alloc (.cells #[.int .i64 0, .slice none 0 0] 24)).alloc (.cells #[.int .i64 size, .slice none 0 0] 24)) (w.heap.size + 1) 24 #[.int .i64 0, .slice none 0 0] := by
    have := Blk.new (w.alloc (.cells #[.int .i64 size, .slice A len c] 24)) 24 #[.int .i64 0, .slice none 0 0]
    rw [World.size_alloc] at this
    exact this.alloc _
  have hc3 : Blk (((w.alloc (.cells #[.int .i64 size, .slice A len c] 24)).alloc (.cells #[.int .i64 0, .slice none 0 0] 24)).alloc (.cells #[.int .i64 size, .slice none 0 0] 24)) (w.heap.size + 1 + 1) 24 #[.int .i64 size, .slice none 0 0] := by
    have := Blk.new ((w.alloc (.cells #[.int .i64 size, .slice A len c] 24)).alloc (.cells #[.int .i64 0, .slice none 0 0] 24)) 24 #[.int .i64 size, .slice none 0 0]
    rw [World.size_alloc, World.size_alloc] at this
    exact this
  generalize ((w.alloc (.cells #[.int .i64 size, .slice A len c] 24)).alloc (.cells #[.int .i64 0, .slice none 0 0] 24)).alloc (.cells #[.int .i64 size, .slice none 0 0] 24) = W3 at *
  go_loopw [4] (fun i wr => ∃ (k : Nat) (tv : Value) (xs us : List Value), k ≤ len ∧ i = .int .i64 k ∧ Blk wr w.heap.size 24 #[.int .i64 size, .slice A len c] ∧ Blk wr (w.heap.size + 1) 24 #[.int .i64 0, .slice none 0 0] ∧
      Blk wr (w.heap.size + 1 + 1) 24 #[.int .i64 size, tv] ∧ wr.ownsRow (w.heap.size + 3) 51 3 tv k xs ∧ RCells xs us (rs.take k) ∧ RElems wr (w.heap.size + 3) us (rs.take k) ∧ Below w.heap.size w wr) (fun i _ => len - (intOf i).toNat)
  case atStart => exact ⟨0, .slice none 0 0, [], [], Nat.zero_le _, rfl, hs3, hz3, hc3, World.ownsRow_nil _ _ _ _, RCells.nil, (fun j u t h => by simp at h), hb3⟩
  case round =>
    obtain ⟨k, tv, xs, us, hk, rfl, hs, hz, hc, hown, hrc, hel, hbel⟩ := hrel
    clear hb3 hs3 hz3 hc3
    have Hown := Lib.hid hown; clear hown
    have Hrc := Lib.hid hrc; clear hrc
    obtain ⟨TA, TC, rfl⟩ := own_slice Hown.out
    have hlt3 := hc.lt
    have hs1 : wr.cell? ⟨w.heap.size, 1, none⟩ = some (.slice A len c) := hs.cell 1
    by_cases hlt : k < len
    · obtain ⟨ad, u2, r2, rfl, hb2, hr, d0, d1, d2, htu, hnz⟩ := (h.below (hbel.mono hB)).at_ hlt
      have htu' := htu
      obtain ⟨UA, UN, UC, rfl, -⟩ := htu'
      have hbz := hbel.size
      have Hr := Lib.hid hr; clear hr
      have hcall : ∀ W, Below wr.heap.size wr W → Calls Tryd.prog 69 #[.slice UA UN UC] W fun e w' => ∃ u, e = .returned u ∧ NTups w' W.heap.size u r2.tuples ∧ Below W.heap.size W w' := fun W hW =>
        copied_any _ r2.tuples W B (Nat.le_trans (by omega) hW.size) (htu.below (hW.mono (by omega))) (Ht.out r2 (List.mem_of_getElem? Hr.out)).1 (Ht.out r2 (List.mem_of_getElem? Hr.out)).2
      have hall2 : ∀ W, Below (w.heap.size + 1) wr W → (W.cell? ⟨w.heap.size, 1, none⟩ = some (.slice (some ad) len c) ∧ W.cell? (ad.add (k * 3)) = some (.string r2.name) ∧ W.cell? ⟨(ad.add (k * 3)).block, (ad.add (k * 3)).off + 1, none⟩ = some (.int .i64 r2.arity) ∧ W.cell? ⟨(ad.add (k * 3)).block, (ad.add (k * 3)).off + 2, none⟩ = some (.slice UA UN UC)) := fun W hW =>
        ⟨(hW.cell (p := ⟨w.heap.size, 1, none⟩) (by simp)).trans hs1, (hW.cell (by rw [block_of_add]; omega)).trans d0, (hW.cell (by show (ad.add _).block < _; rw [block_of_add]; omega)).trans d1, (hW.cell (by show (ad.add _).block < _; rw [block_of_add]; omega)).trans d2⟩
      have Hcall := Lib.hid hcall; clear hcall
      have Hall2 := Lib.hid hall2; clear hall2
      have Hs := Lib.hid hs; clear hs
      have Hz := Lib.hid hz; clear hz
      have hcc : wr.drew.cell? ⟨w.heap.size + 1 + 1, 1, none⟩ = some (.slice TA k TC) := hc.cell 1
      have Hc := Lib.hid hc; clear hc
      clear htu
      go_upto_region 5 with fail
      clear d0 d1 d2 hs1
      refine wp_region_held_drew (S := fun W => W.cell? ⟨w.heap.size, 1, none⟩ = some (.slice (some ad) len c) ∧ W.cell? (ad.add (k * 3)) = some (.string r2.name) ∧ W.cell? ⟨(ad.add (k * 3)).block, (ad.add (k * 3)).off + 1, none⟩ = some (.int .i64 r2.arity) ∧ W.cell? ⟨(ad.add (k * 3)).block, (ad.add (k * 3)).off + 2, none⟩ = some (.slice UA UN UC)) (by kernel_rfl) (Hall2.out _ (Below.refl _ _).drew) (fun hHeld => ?_)
      refine wpAnyH_take (i := 0) (v := .pointer (some ⟨w.heap.size + 1 + 1, 1, none⟩)) rfl (by kernel_rfl) (by kernel_rfl) (by kernel_rfl) (fun _ _ _ h => h) (Or.inl ⟨by rfl, ?_⟩) (by assumption) ?_
      · (intro w' hSw; (try dsimp only at hSw); go_simp)
      try simp only [Act.put, List.setIfInBounds_toArray, List.set_cons_zero, List.set_cons_succ]
      refine wpAnyH_take (i := 2) (v := .pointer (some ⟨w.heap.size, 1, none⟩)) rfl (by kernel_rfl) (by kernel_rfl) (by kernel_rfl) (fun _ _ _ h => h) (Or.inl ⟨by rfl, ?_⟩) (by assumption) ?_
      · (intro w' hSw; (try dsimp only at hSw); go_simp)
      try simp only [Act.put, List.setIfInBounds_toArray, List.set_cons_zero, List.set_cons_succ]
      refine wpAnyH_take (i := 3) (v := .slice (some ad) len c) rfl (by kernel_rfl) (by kernel_rfl) (by kernel_rfl) (fun _ _ _ h => h) (Or.inl ⟨by rfl, ?_⟩) (by assumption) ?_
      · (intro w' hSw; (try dsimp only at hSw); go_simp)
      try simp only [Act.put, List.setIfInBounds_toArray, List.set_cons_zero, List.set_cons_succ]
      refine wpAnyH_take (i := 4) (v := .int .i64 k) rfl (by kernel_rfl) (by kernel_rfl) (by kernel_rfl) (fun _ _ _ h => h) (Or.inl ⟨by rfl, ?_⟩) (by assumption) ?_
      · (intro w' hSw; (try dsimp only at hSw); go_simp)
      try simp only [Act.put, List.setIfInBounds_toArray, List.set_cons_zero, List.set_cons_succ]
      refine wpAnyH_take (i := 5) (v := .pointer (some (ad.add (k * 3)))) rfl (by kernel_rfl) (by kernel_rfl) (by kernel_rfl) (fun _ _ _ h => h) (Or.inl ⟨by rfl, ?_⟩) (by assumption) ?_
      · (intro w' hSw; (try dsimp only at hSw); go_simp)
      try simp only [Act.put, List.setIfInBounds_toArray, List.set_cons_zero, List.set_cons_succ]
      refine wpAnyH_take (i := 6) (v := .pointer (some (ad.add (k * 3)))) rfl (by kernel_rfl) (by kernel_rfl) (by kernel_rfl) (fun _ _ _ h => h) (Or.inl ⟨by rfl, ?_⟩) (by assumption) ?_
      · (intro w' hSw; (try dsimp only at hSw); go_simp)
      try simp only [Act.put, List.setIfInBounds_toArray, List.set_cons_zero, List.set_cons_succ]
      refine wpAnyH_take (i := 7) (v := .string r2.name) rfl (by kernel_rfl) (by kernel_rfl) (by kernel_rfl) (fun _ _ _ h => h) (Or.inl ⟨by rfl, ?_⟩) (by assumption) ?_
      · (intro w' hSw; (try dsimp only at hSw); go_simp)
      try simp only [Act.put, List.setIfInBounds_toArray, List.set_cons_zero, List.set_cons_succ]
      refine wpAnyH_take (i := 8) (v := .pointer (some ⟨w.heap.size, 1, none⟩)) rfl (by kernel_rfl) (by kernel_rfl) (by kernel_rfl) (fun _ _ _ h => h) (Or.inl ⟨by rfl, ?_⟩) (by assumption) ?_
      · (intro w' hSw; (try dsimp only at hSw); go_simp)
      try simp only [Act.put, List.setIfInBounds_toArray, List.set_cons_zero, List.set_cons_succ]
      refine wpAnyH_take (i := 9) (v := .slice (some ad) len c) rfl (by kernel_rfl) (by kernel_rfl) (by kernel_rfl) (fun _ _ _ h => h) (Or.inl ⟨by rfl, ?_⟩) (by assumption) ?_
      · (intro w' hSw; (try dsimp only at hSw); go_simp)
      try simp only [Act.put, List.setIfInBounds_toArray, List.set_cons_zero, List.set_cons_succ]
      refine wpAnyH_take (i := 10) (v := .int .i64 k) rfl (by kernel_rfl) (by kernel_rfl) (by kernel_rfl) (fun _ _ _ h => h) (Or.inl ⟨by rfl, ?_⟩) (by assumption) ?_
      · (intro w' hSw; (try dsimp only at hSw); go_simp)
      try simp only [Act.put, List.setIfInBounds_toArray, List.set_cons_zero, List.set_cons_succ]
      refine wpAnyH_take (i := 11) (v := .pointer (some (ad.add (k * 3)))) rfl (by kernel_rfl) (by kernel_rfl) (by kernel_rfl) (fun _ _ _ h => h) (Or.inl ⟨by rfl, ?_⟩) (by assumption) ?_
      · (intro w' hSw; (try dsimp only at hSw); go_simp)
      try simp only [Act.put, List.setIfInBounds_toArray, List.set_cons_zero, List.set_cons_succ]
      refine wpAnyH_take (i := 12) (v := .pointer (some ⟨(ad.add (k * 3)).block, (ad.add (k * 3)).off + 1, none⟩)) rfl (by kernel_rfl) (by kernel_rfl) (by kernel_rfl) (fun _ _ _ h => h) (Or.inl ⟨by rfl, ?_⟩) (by assumption) ?_
      · (intro w' hSw; (try dsimp only at hSw); go_simp)
      try simp only [Act.put, List.setIfInBounds_toArray, List.set_cons_zero, List.set_cons_succ]
      refine wpAnyH_take (i := 13) (v := .int .i64 r2.arity) rfl (by kernel_rfl) (by kernel_rfl) (by kernel_rfl) (fun _ _ _ h => h) (Or.inl ⟨by rfl, ?_⟩) (by assumption) ?_
      · (intro w' hSw; (try dsimp only at hSw); go_simp)
      try simp only [Act.put, List.setIfInBounds_toArray, List.set_cons_zero, List.set_cons_succ]
      refine wpAnyH_take (i := 14) (v := .pointer (some ⟨w.heap.size, 1, none⟩)) rfl (by kernel_rfl) (by kernel_rfl) (by kernel_rfl) (fun _ _ _ h => h) (Or.inl ⟨by rfl, ?_⟩) (by assumption) ?_
      · (intro w' hSw; (try dsimp only at hSw); go_simp)
      try simp only [Act.put, List.setIfInBounds_toArray, List.set_cons_zero, List.set_cons_succ]
      refine wpAnyH_take (i := 15) (v := .slice (some ad) len c) rfl (by kernel_rfl) (by kernel_rfl) (by kernel_rfl) (fun _ _ _ h => h) (Or.inl ⟨by rfl, ?_⟩) (by assumption) ?_
      · (intro w' hSw; (try dsimp only at hSw); go_simp)
      try simp only [Act.put, List.setIfInBounds_toArray, List.set_cons_zero, List.set_cons_succ]
      refine wpAnyH_take (i := 16) (v := .int .i64 k) rfl (by kernel_rfl) (by kernel_rfl) (by kernel_rfl) (fun _ _ _ h => h) (Or.inl ⟨by rfl, ?_⟩) (by assumption) ?_
      · (intro w' hSw; (try dsimp only at hSw); go_simp)
      try simp only [Act.put, List.setIfInBounds_toArray, List.set_cons_zero, List.set_cons_succ]
      refine wpAnyH_take (i := 17) (v := .pointer (some (ad.add (k * 3)))) rfl (by kernel_rfl) (by kernel_rfl) (by kernel_rfl) (fun _ _ _ h => h) (Or.inl ⟨by rfl, ?_⟩) (by assumption) ?_
      · (intro w' hSw; (try dsimp only at hSw); go_simp)
      try simp only [Act.put, List.setIfInBounds_toArray, List.set_cons_zero, List.set_cons_succ]
      refine wpAnyH_take (i := 18) (v := .pointer (some ⟨(ad.add (k * 3)).block, (ad.add (k * 3)).off + 2, none⟩)) rfl (by kernel_rfl) (by kernel_rfl) (by kernel_rfl) (fun _ _ _ h => h) (Or.inl ⟨by rfl, ?_⟩) (by assumption) ?_
      · (intro w' hSw; (try dsimp only at hSw); go_simp)
      try simp only [Act.put, List.setIfInBounds_toArray, List.set_cons_zero, List.set_cons_succ]
      refine wpAnyH_take (i := 19) (v := .slice UA UN UC) rfl (by kernel_rfl) (by kernel_rfl) (by kernel_rfl) (fun _ _ _ h => h) (Or.inl ⟨by rfl, ?_⟩) (by assumption) ?_
      · (intro w' hSw; (try dsimp only at hSw); go_simp)
      try simp only [Act.put, List.setIfInBounds_toArray, List.set_cons_zero, List.set_cons_succ]
      refine wpAnyH_ready (rs := [1, 20]) (by kernel_rfl) (by simp) ?_
      refine AllReadyH.cons rfl (fun K hK => ?_) (AllReadyH.cons rfl (fun K hK => ?_) AllReadyH.nil)
      · skip
        go_simp
        refine hK.out _ _ ?_ (fun hHeld => ?_)
        · exact Hall2.out _ ((Below.refl _ _).drew)
        clear hK K
        try simp only [Act.put, List.setIfInBounds_toArray, List.set_cons_zero, List.set_cons_succ]
        refine wpAnyH_ready (rs := [20]) (by kernel_rfl) (by simp) ?_
        refine AllReadyH.cons rfl (fun K hK => ?_) AllReadyH.nil
        go_simp
        refine (Hcall.out _ (below_drewN (Below.refl _ _) 1)).mono ?_
        rintro e w7 ⟨x, rfl, hnt, hb7⟩
        have hnt' := hnt
        obtain ⟨XA, XN, XC, rfl, -⟩ := hnt'
        have hs7 : wr.heap.size ≤ w7.heap.size := hb7.size
        have hbw7 : Below (w.heap.size + 1) wr w7 := (Below.refl (w.heap.size + 1) wr).drew.trans (hb7.mono (by simp; omega))
        have hbz7 : w.heap.size + 1 ≤ w7.heap.size := by omega
        have hc7 : Blk w7 (w.heap.size + 1 + 1) 24 #[.int .i64 size, .slice TA k TC] := (Hc.out.drew).below hb7 (by simp; omega)
        have hcc7 : w7.cell? ⟨w.heap.size + 1 + 1, 1, none⟩ = some (.slice TA k TC) := hc7.cell 1
        have hcc7' : (w7.alloc (.cells #[.string r2.name, .int .i64 r2.arity, .slice XA XN XC] 51)).cell? ⟨w.heap.size + 1 + 1, 1, none⟩ = some (.slice TA k TC) := (Blk.alloc hc7 _).cell 1
        have hown7 : (w7.alloc (.cells #[.string r2.name, .int .i64 r2.arity, .slice XA XN XC] 51)).ownsRow (w.heap.size + 3) 51 3 (.slice TA k TC) k xs := World.ownsRow.alloc (own_below (w := wr.drew) Hown.out hb7) _
        refine hK.out _ _ ?_ (fun hHeld => ?_)
        · exact Hall2.out _ (hbw7)
        clear hK K
        try simp only [Act.put, List.setIfInBounds_toArray, List.set_cons_zero, List.set_cons_succ]
        refine wpAnyH_ready (rs := [21]) (by kernel_rfl) (by simp) ?_
        refine AllReadyH.cons rfl (fun K hK => ?_) AllReadyH.nil
        go_simp
        refine hK.out _ _ ?_ (fun hHeld => ?_)
        · exact Hall2.out _ (hbw7)
        clear hK K
        try simp only [Act.put, List.setIfInBounds_toArray, List.set_cons_zero, List.set_cons_succ]
        refine wpAnyH_ready (rs := [22]) (by kernel_rfl) (by simp) ?_
        refine AllReadyH.cons rfl (fun K hK => ?_) AllReadyH.nil
        go_simp
        refine hK.out _ _ ?_ (fun hHeld => ?_)
        · exact Hall2.out _ (hbw7.alloc hbz7 _)
        clear hK K
        try simp only [Act.put, List.setIfInBounds_toArray, List.set_cons_zero, List.set_cons_succ]
        refine wpAnyH_ready (rs := [23]) (by kernel_rfl) (by simp) ?_
        refine AllReadyH.cons rfl (fun K hK => ?_) AllReadyH.nil
        refine step_append_rel _ rfl _ _ rfl (w.heap.size + 3) _ k xs rfl hown7 w7.heap.size 1 _ _ _ rfl (Blk.new w7 51 #[.string r2.name, .int .i64 r2.arity, .slice XA XN XC]) rfl rfl rfl (by omega) (by simp; omega) ?_
        intro v8 w8 hown8 hg8
        obtain ⟨VA, VC, rfl⟩ := own_slice hown8
        have hc8 : Blk w8 (w.heap.size + 1 + 1) 24 #[.int .i64 size, .slice TA k TC] := Blk.grown (Blk.alloc hc7 _) hg8 (fun e => by have := (hown7.lt _ e.symm).1; omega)
        have hbw8 : Below (w.heap.size + 1) wr w8 := (hbw7.alloc hbz7 _).grown hg8 (by simp; omega) (fun g e => by have := (hown7.lt g e).1; omega)
        have hcc8 : w8.cell? ⟨w.heap.size + 1 + 1, 1, none⟩ = some (.slice TA k TC) := hc8.cell 1
        have hcf8 := hc8.frozen 1
        refine hK.out _ _ ?_ (fun hHeld => ?_)
        · exact Hall2.out _ (hbw8)
        clear hK K
        try simp only [Act.put, List.setIfInBounds_toArray, List.set_cons_zero, List.set_cons_succ]
        refine wpAnyH_ready (rs := [24]) (by kernel_rfl) (by simp) ?_
        refine AllReadyH.cons rfl (fun K hK => ?_) AllReadyH.nil
        go_simp
        refine hK.out _ _ ?_ (fun hHeld => ?_)
        · exact Hall2.out _ (hbw8)
        clear hK K
        try simp only [Act.put, List.setIfInBounds_toArray, List.set_cons_zero, List.set_cons_succ]
        refine wpAnyH_ready (rs := [25]) (by kernel_rfl) (by simp) ?_
        refine AllReadyH.cons rfl (fun K hK => ?_) AllReadyH.nil
        go_simp
        refine hK.out _ _ ?_ (fun hHeld => ?_)
        · exact Hall2.out _ (hbw8.setCell (by simp) _)
        clear hK K
        try simp only [Act.put, List.setIfInBounds_toArray, List.set_cons_zero, List.set_cons_succ]
        refine wpAnyH_done (by kernel_rfl) ?_ _
        go_wp2
        have hg8' : (w7.alloc (.cells #[.string r2.name, .int .i64 r2.arity, .slice XA XN XC] 51)).grownBy w8 (Value.slice TA k TC).ownBlock := hg8
        have hbase : ∀ g, (Value.slice TA k TC).ownBlock = some g → w.heap.size + 3 ≤ g := fun g e => (hown7.lt g e).1
        have hk7 : Keeps (w.heap.size + 3) [3, 35] w7 (w8.setCell ⟨w.heap.size + 1 + 1, 1, none⟩ (.slice VA (k + 1) VC)) :=
          (Keeps.alloc _ _ _ _).trans ((Keeps.own hg8' hown7 (by decide)).trans (Keeps.setCell (p := ⟨w.heap.size + 1 + 1, 1, none⟩) hc8 (by decide) _))
        refine ⟨⟨k + 1, .slice VA (k + 1) VC, xs ++ [.string r2.name, .int .i64 r2.arity, .slice XA XN XC], us ++ [.slice XA XN XC], by omega, by go_num, ?_, ?_, hc8.set_ 1 _, own_set hown8 (show w.heap.size + 1 + 1 < w.heap.size + 3 by omega) _, by rw [take_snoc Hr.out]; exact Hrc.out.snoc r2 _, ?_, ?_⟩, by simp [intOf]; omega⟩
        · exact Blk.far (Blk.grown (Blk.alloc (Hs.out.drew.below hb7 (by simp; omega)) _) hg8' (fun e => by have := hbase _ e.symm; omega)) (by simp; omega) _
        · exact Blk.far (Blk.grown (Blk.alloc (Hz.out.drew.below hb7 (by simp; omega)) _) hg8' (fun e => by have := hbase _ e.symm; omega)) (by simp) _
        · rw [take_snoc Hr.out]
          exact RElems.snoc ((hel.keep ((Keeps.drewN _ _ wr 1).trans (Keeps.of_below hb7))).keep hk7) Hrc.out.2.1 ((hnt.more (by simp; omega)).keep hk7) hnz
        · exact (((hbel.drew.trans (hb7.mono (by simp; omega))).alloc (by omega) _).grown hg8' (by simp; omega) (fun g e => by have := hbase g e; omega)).setCell (show w.heap.size ≤ w.heap.size + 1 + 1 by omega) _
      · skip
        go_simp
        refine (Hcall.out _ (below_drewN (Below.refl _ _) 1)).mono ?_
        rintro e w7 ⟨x, rfl, hnt, hb7⟩
        have hnt' := hnt
        obtain ⟨XA, XN, XC, rfl, -⟩ := hnt'
        have hs7 : wr.heap.size ≤ w7.heap.size := hb7.size
        have hbw7 : Below (w.heap.size + 1) wr w7 := (Below.refl (w.heap.size + 1) wr).drew.trans (hb7.mono (by simp; omega))
        have hbz7 : w.heap.size + 1 ≤ w7.heap.size := by omega
        have hc7 : Blk w7 (w.heap.size + 1 + 1) 24 #[.int .i64 size, .slice TA k TC] := (Hc.out.drew).below hb7 (by simp; omega)
        have hcc7 : w7.cell? ⟨w.heap.size + 1 + 1, 1, none⟩ = some (.slice TA k TC) := hc7.cell 1
        have hcc7' : (w7.alloc (.cells #[.string r2.name, .int .i64 r2.arity, .slice XA XN XC] 51)).cell? ⟨w.heap.size + 1 + 1, 1, none⟩ = some (.slice TA k TC) := (Blk.alloc hc7 _).cell 1
        have hown7 : (w7.alloc (.cells #[.string r2.name, .int .i64 r2.arity, .slice XA XN XC] 51)).ownsRow (w.heap.size + 3) 51 3 (.slice TA k TC) k xs := World.ownsRow.alloc (own_below (w := wr.drew) Hown.out hb7) _
        refine hK.out _ _ ?_ (fun hHeld => ?_)
        · exact Hall2.out _ (hbw7)
        clear hK K
        try simp only [Act.put, List.setIfInBounds_toArray, List.set_cons_zero, List.set_cons_succ]
        refine wpAnyH_take (i := 21) (v := .agg #[.string r2.name, .int .i64 r2.arity, .slice XA XN XC]) rfl (by kernel_rfl) (by kernel_rfl) (by kernel_rfl) (fun _ _ _ h => h) (Or.inl ⟨by rfl, ?_⟩) (by assumption) ?_
        · (intro w' hSw; (try dsimp only at hSw); go_simp)
        try simp only [Act.put, List.setIfInBounds_toArray, List.set_cons_zero, List.set_cons_succ]
        refine wpAnyH_ready (rs := [1, 22]) (by kernel_rfl) (by simp) ?_
        refine AllReadyH.cons rfl (fun K hK => ?_) (AllReadyH.cons rfl (fun K hK => ?_) AllReadyH.nil)
        · skip
          go_simp
          refine hK.out _ _ ?_ (fun hHeld => ?_)
          · exact Hall2.out _ (hbw7)
          clear hK K
          try simp only [Act.put, List.setIfInBounds_toArray, List.set_cons_zero, List.set_cons_succ]
          refine wpAnyH_ready (rs := [22]) (by kernel_rfl) (by simp) ?_
          refine AllReadyH.cons rfl (fun K hK => ?_) AllReadyH.nil
          go_simp
          refine hK.out _ _ ?_ (fun hHeld => ?_)
          · exact Hall2.out _ (hbw7.alloc hbz7 _)
          clear hK K
          try simp only [Act.put, List.setIfInBounds_toArray, List.set_cons_zero, List.set_cons_succ]
          refine wpAnyH_ready (rs := [23]) (by kernel_rfl) (by simp) ?_
          refine AllReadyH.cons rfl (fun K hK => ?_) AllReadyH.nil
          refine step_append_rel _ rfl _ _ rfl (w.heap.size + 3) _ k xs rfl hown7 w7.heap.size 1 _ _ _ rfl (Blk.new w7 51 #[.string r2.name, .int .i64 r2.arity, .slice XA XN XC]) rfl rfl rfl (by omega) (by simp; omega) ?_
          intro v8 w8 hown8 hg8
          obtain ⟨VA, VC, rfl⟩ := own_slice hown8
          have hc8 : Blk w8 (w.heap.size + 1 + 1) 24 #[.int .i64 size, .slice TA k TC] := Blk.grown (Blk.alloc hc7 _) hg8 (fun e => by have := (hown7.lt _ e.symm).1; omega)
          have hbw8 : Below (w.heap.size + 1) wr w8 := (hbw7.alloc hbz7 _).grown hg8 (by simp; omega) (fun g e => by have := (hown7.lt g e).1; omega)
          have hcc8 : w8.cell? ⟨w.heap.size + 1 + 1, 1, none⟩ = some (.slice TA k TC) := hc8.cell 1
          have hcf8 := hc8.frozen 1
          refine hK.out _ _ ?_ (fun hHeld => ?_)
          · exact Hall2.out _ (hbw8)
          clear hK K
          try simp only [Act.put, List.setIfInBounds_toArray, List.set_cons_zero, List.set_cons_succ]
          refine wpAnyH_ready (rs := [24]) (by kernel_rfl) (by simp) ?_
          refine AllReadyH.cons rfl (fun K hK => ?_) AllReadyH.nil
          go_simp
          refine hK.out _ _ ?_ (fun hHeld => ?_)
          · exact Hall2.out _ (hbw8)
          clear hK K
          try simp only [Act.put, List.setIfInBounds_toArray, List.set_cons_zero, List.set_cons_succ]
          refine wpAnyH_ready (rs := [25]) (by kernel_rfl) (by simp) ?_
          refine AllReadyH.cons rfl (fun K hK => ?_) AllReadyH.nil
          go_simp
          refine hK.out _ _ ?_ (fun hHeld => ?_)
          · exact Hall2.out _ (hbw8.setCell (by simp) _)
          clear hK K
          try simp only [Act.put, List.setIfInBounds_toArray, List.set_cons_zero, List.set_cons_succ]
          refine wpAnyH_done (by kernel_rfl) ?_ _
          go_wp2
          have hg8' : (w7.alloc (.cells #[.string r2.name, .int .i64 r2.arity, .slice XA XN XC] 51)).grownBy w8 (Value.slice TA k TC).ownBlock := hg8
          have hbase : ∀ g, (Value.slice TA k TC).ownBlock = some g → w.heap.size + 3 ≤ g := fun g e => (hown7.lt g e).1
          have hk7 : Keeps (w.heap.size + 3) [3, 35] w7 (w8.setCell ⟨w.heap.size + 1 + 1, 1, none⟩ (.slice VA (k + 1) VC)) :=
            (Keeps.alloc _ _ _ _).trans ((Keeps.own hg8' hown7 (by decide)).trans (Keeps.setCell (p := ⟨w.heap.size + 1 + 1, 1, none⟩) hc8 (by decide) _))
          refine ⟨⟨k + 1, .slice VA (k + 1) VC, xs ++ [.string r2.name, .int .i64 r2.arity, .slice XA XN XC], us ++ [.slice XA XN XC], by omega, by go_num, ?_, ?_, hc8.set_ 1 _, own_set hown8 (show w.heap.size + 1 + 1 < w.heap.size + 3 by omega) _, by rw [take_snoc Hr.out]; exact Hrc.out.snoc r2 _, ?_, ?_⟩, by simp [intOf]; omega⟩
          · exact Blk.far (Blk.grown (Blk.alloc (Hs.out.drew.below hb7 (by simp; omega)) _) hg8' (fun e => by have := hbase _ e.symm; omega)) (by simp; omega) _
          · exact Blk.far (Blk.grown (Blk.alloc (Hz.out.drew.below hb7 (by simp; omega)) _) hg8' (fun e => by have := hbase _ e.symm; omega)) (by simp) _
          · rw [take_snoc Hr.out]
            exact RElems.snoc ((hel.keep ((Keeps.drewN _ _ wr 1).trans (Keeps.of_below hb7))).keep hk7) Hrc.out.2.1 ((hnt.more (by simp; omega)).keep hk7) hnz
          · exact (((hbel.drew.trans (hb7.mono (by simp; omega))).alloc (by omega) _).grown hg8' (by simp; omega) (fun g e => by have := hbase g e; omega)).setCell (show w.heap.size ≤ w.heap.size + 1 + 1 by omega) _
        · skip
          go_simp
          refine hK.out _ _ ?_ (fun hHeld => ?_)
          · exact Hall2.out _ (hbw7.alloc hbz7 _)
          clear hK K
          try simp only [Act.put, List.setIfInBounds_toArray, List.set_cons_zero, List.set_cons_succ]
          refine wpAnyH_ready (rs := [1]) (by kernel_rfl) (by simp) ?_
          refine AllReadyH.cons rfl (fun K hK => ?_) AllReadyH.nil
          go_simp
          refine hK.out _ _ ?_ (fun hHeld => ?_)
          · exact Hall2.out _ (hbw7.alloc hbz7 _)
          clear hK K
          try simp only [Act.put, List.setIfInBounds_toArray, List.set_cons_zero, List.set_cons_succ]
          refine wpAnyH_ready (rs := [23]) (by kernel_rfl) (by simp) ?_
          refine AllReadyH.cons rfl (fun K hK => ?_) AllReadyH.nil
          refine step_append_rel _ rfl _ _ rfl (w.heap.size + 3) _ k xs rfl hown7 w7.heap.size 1 _ _ _ rfl (Blk.new w7 51 #[.string r2.name, .int .i64 r2.arity, .slice XA XN XC]) rfl rfl rfl (by omega) (by simp; omega) ?_
          intro v8 w8 hown8 hg8
          obtain ⟨VA, VC, rfl⟩ := own_slice hown8
          have hc8 : Blk w8 (w.heap.size + 1 + 1) 24 #[.int .i64 size, .slice TA k TC] := Blk.grown (Blk.alloc hc7 _) hg8 (fun e => by have := (hown7.lt _ e.symm).1; omega)
          have hbw8 : Below (w.heap.size + 1) wr w8 := (hbw7.alloc hbz7 _).grown hg8 (by simp; omega) (fun g e => by have := (hown7.lt g e).1; omega)
          have hcc8 : w8.cell? ⟨w.heap.size + 1 + 1, 1, none⟩ = some (.slice TA k TC) := hc8.cell 1
          have hcf8 := hc8.frozen 1
          refine hK.out _ _ ?_ (fun hHeld => ?_)
          · exact Hall2.out _ (hbw8)
          clear hK K
          try simp only [Act.put, List.setIfInBounds_toArray, List.set_cons_zero, List.set_cons_succ]
          refine wpAnyH_ready (rs := [24]) (by kernel_rfl) (by simp) ?_
          refine AllReadyH.cons rfl (fun K hK => ?_) AllReadyH.nil
          go_simp
          refine hK.out _ _ ?_ (fun hHeld => ?_)
          · exact Hall2.out _ (hbw8)
          clear hK K
          try simp only [Act.put, List.setIfInBounds_toArray, List.set_cons_zero, List.set_cons_succ]
          refine wpAnyH_ready (rs := [25]) (by kernel_rfl) (by simp) ?_
          refine AllReadyH.cons rfl (fun K hK => ?_) AllReadyH.nil
          go_simp
          refine hK.out _ _ ?_ (fun hHeld => ?_)
          · exact Hall2.out _ (hbw8.setCell (by simp) _)
          clear hK K
          try simp only [Act.put, List.setIfInBounds_toArray, List.set_cons_zero, List.set_cons_succ]
          refine wpAnyH_done (by kernel_rfl) ?_ _
          go_wp2
          have hg8' : (w7.alloc (.cells #[.string r2.name, .int .i64 r2.arity, .slice XA XN XC] 51)).grownBy w8 (Value.slice TA k TC).ownBlock := hg8
          have hbase : ∀ g, (Value.slice TA k TC).ownBlock = some g → w.heap.size + 3 ≤ g := fun g e => (hown7.lt g e).1
          have hk7 : Keeps (w.heap.size + 3) [3, 35] w7 (w8.setCell ⟨w.heap.size + 1 + 1, 1, none⟩ (.slice VA (k + 1) VC)) :=
            (Keeps.alloc _ _ _ _).trans ((Keeps.own hg8' hown7 (by decide)).trans (Keeps.setCell (p := ⟨w.heap.size + 1 + 1, 1, none⟩) hc8 (by decide) _))
          refine ⟨⟨k + 1, .slice VA (k + 1) VC, xs ++ [.string r2.name, .int .i64 r2.arity, .slice XA XN XC], us ++ [.slice XA XN XC], by omega, by go_num, ?_, ?_, hc8.set_ 1 _, own_set hown8 (show w.heap.size + 1 + 1 < w.heap.size + 3 by omega) _, by rw [take_snoc Hr.out]; exact Hrc.out.snoc r2 _, ?_, ?_⟩, by simp [intOf]; omega⟩
          · exact Blk.far (Blk.grown (Blk.alloc (Hs.out.drew.below hb7 (by simp; omega)) _) hg8' (fun e => by have := hbase _ e.symm; omega)) (by simp; omega) _
          · exact Blk.far (Blk.grown (Blk.alloc (Hz.out.drew.below hb7 (by simp; omega)) _) hg8' (fun e => by have := hbase _ e.symm; omega)) (by simp) _
          · rw [take_snoc Hr.out]
            exact RElems.snoc ((hel.keep ((Keeps.drewN _ _ wr 1).trans (Keeps.of_below hb7))).keep hk7) Hrc.out.2.1 ((hnt.more (by simp; omega)).keep hk7) hnz
          · exact (((hbel.drew.trans (hb7.mono (by simp; omega))).alloc (by omega) _).grown hg8' (by simp; omega) (fun g e => by have := hbase g e; omega)).setCell (show w.heap.size ≤ w.heap.size + 1 + 1 by omega) _
    · have hkl : k = len := by omega
      subst hkl
      have htk : rs.take k = rs := List.take_of_length_le (by have := Hlen.out; omega)
      have hrc' := Hrc.out
      rw [htk] at hel hrc'
      have hown' := Hown.out
      have hkl' : k = rs.length := Hlen.out
      rw [hkl'] at hown'
      have hnt : CRels wr (w.heap.size + 3) (.slice TA rs.length TC) rs := ⟨xs, us, hown', hrc', hel⟩
      rw [← hkl'] at hnt
      have hcc0 : wr.cell? ⟨w.heap.size + 1 + 1, 0, none⟩ = some (.int .i64 size) := hc.cell 0
      have hcc1 : wr.cell? ⟨w.heap.size + 1 + 1, 1, none⟩ = some (.slice TA k TC) := hc.cell 1
      have hzc0 : wr.cell? ⟨w.heap.size + 1, 0, none⟩ = some (.int .i64 0) := hz.cell 0
      have hzc1 : wr.cell? ⟨w.heap.size + 1, 1, none⟩ = some (.slice none 0 0) := hz.cell 1
      have hzf0 := hz.frozen 0
      have hzf1 := hz.frozen 1
      have Hnt := Lib.hid hnt; clear hnt htk hel hrc' hown' hkl'
      go_wp2
      refine bodyPost_ret (v := .agg #[.int .i64 size, .slice TA k TC]) (by simp [results, Tryd.results67, go_sem, hzc0, hzc1]) rfl ?_
      have hk0 : Keeps (w.heap.size + 3) [3, 35, 51] wr ((wr.setCell ⟨w.heap.size + 1, 0, none⟩ (.int .i64 size)).setCell ⟨w.heap.size + 1, 1, none⟩ (.slice TA k TC)) :=
        (Keeps.setCell (p := ⟨w.heap.size + 1, 0, none⟩) hz (by decide) _).trans (Keeps.setCell (p := ⟨w.heap.size + 1, 1, none⟩) (hz.set_ _ _) (by decide) _)
      obtain ⟨xs', vs', g1, g2, g3⟩ := Hnt.out.keep hk0
      refine ⟨_, rfl, ⟨xs', vs', own_base g1 (by omega), g2, relems_more g3 (by omega)⟩, ?_⟩
      exact (hbel.setCell (by simp) _).setCell (by simp) _

end Go.Proofs.YtbddchonhicpiaaDoor
