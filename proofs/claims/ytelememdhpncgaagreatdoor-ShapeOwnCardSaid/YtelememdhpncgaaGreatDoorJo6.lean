/-
  Texts joined: Struct, Less, Vrel.
-/
import Derived.Test.YtelememdhpncgaaGreatDoorJo5
import Derived.Test.YtelememdhpncgaaGreatDoorJo1
import Derived.Test.YtelememdhpncgaaGreatDoorJo4

/-
  Walks: the reader's method structure.
-/
namespace Go.Proofs.YtelememdhpncgaaGreatDoor
open Go.RowKit

/-- What structure leaves. -/
def StrPost (R n : Nat) (text : ByteArray) (w : World) (e : Ending) (w' : World) : Prop :=
  w.grownBy w' (some R) ∧ match strP (text.toList.drop n) with
    | some s => ∃ u, e = .returned (.agg #[.int .i64 s.size, u]) ∧ NRels w' w.heap.size u s.rels
    | none => e = .panicked errChain
theorem StrPost.bad {R n : Nat} {text : ByteArray} {w w' : World} (ht : strP (text.toList.drop n) = none) (hg : w.grownBy w' (some R)) : StrPost R n text w (.panicked errChain) w' :=
  ⟨hg, by rw [ht]⟩
theorem StrPost.ok {R n : Nat} {text : ByteArray} {w w' : World} {u : Value} {s : Sh.Str} (ht : strP (text.toList.drop n) = some s) (hg : w.grownBy w' (some R))
    (h1 : NRels w' w.heap.size u s.rels) : StrPost R n text w (.returned (.agg #[.int .i64 s.size, u])) w' :=
  ⟨hg, by rw [ht]; exact ⟨u, rfl, h1⟩⟩

set_option maxRecDepth 100000 in
set_option maxHeartbeats 400000 in
theorem structure_any (R n : Nat) (text : ByteArray) (w : World) (hr : Rdr w R text n) (hn : n ≤ text.size) (hs : text.size ≤ 100000) (hv : Vars w) (hR : 5 ≤ R) (hw : 5 ≤ w.heap.size) (hRw : R < w.heap.size) :
    Calls Tryz.prog 48 #[.pointer (some ⟨R, 0, none⟩)] w (StrPost R n text w) := by
  have hcall1 := fun W (h1 : Rdr W R text n) (h2 : Vars W) (h3 : 5 ≤ W.heap.size) => number_any R n text W h1 hn hs h2 hR h3
  cases hnp : numP (text.toList.drop n) with
  | none =>
    rw [hnp] at hcall1
    have hbad := strP_bad hnp
    have Hcall1 := Lib.hid hcall1; clear hcall1
    have Hbad := Lib.hid hbad; clear hbad hnp
    go_enter Tryz.func48, Tryz.ntmps48
    go_wp2_with (go_at_call 63; refine (Hcall1.out _ (Blk.alloc hr _) (hv.grown (World.grownBy_alloc _ _ _) hR hw) (by simp; omega)).mono ?_; rintro e w1 ⟨hg1, rfl⟩)
    exact ⟨rfl, StrPost.bad Hbad.out (grownBy_trans (World.grownBy_alloc _ _ _) hg1)⟩
  | some sz =>
    rw [hnp] at hcall1
    have hmore := strP_more hnp
    have hdr : digRun (text.toList.drop n) = runLen Sh.digitB text n := rfl
    have hn1 := runLen_le Sh.digitB text n hn
    rw [hdr] at hmore
    generalize runLen Sh.digitB text n = L1 at *
    rw [List.drop_drop] at hmore
    have Hcall1 := Lib.hid hcall1; clear hcall1
    have Hmore := Lib.hid hmore; clear hmore hnp hdr
    go_enter Tryz.func48, Tryz.ntmps48
    go_wp2_with (go_at_call 63
                 refine (Hcall1.out _ (Blk.alloc hr _) (hv.grown (World.grownBy_alloc _ _ _) hR hw) (by simp; omega)).mono ?_
                 rintro e w4 ⟨hg1, rfl, hr4⟩
                 have hz4 := (Blk.new w 24 #[.int .i64 0, .slice none 0 0]).grown hg1 (by simp; omega))
    have hlt4 := hz4.lt
    have hsz4 := hg1.size
    have hg04 : w.grownBy w4 (some R) := grownBy_trans (World.grownBy_alloc _ _ _) hg1
    have hsz04 := hg04.size
    have hr5 : Rdr (w4.alloc (.cells #[.int .i64 sz, .slice none 0 0] 24)) R text (n + L1) := Blk.alloc hr4 _
    have hz5 : Blk (w4.alloc (.cells #[.int .i64 sz, .slice none 0 0] 24)) w.heap.size 24 #[.int .i64 0, .slice none 0 0] := Blk.alloc hz4 _
    have hb5 : Blk (w4.alloc (.cells #[.int .i64 sz, .slice none 0 0] 24)) w4.heap.size 24 #[.int .i64 sz, .slice none 0 0] := Blk.new _ _ _
    have hbut5 : But w.heap.size R w (w4.alloc (.cells #[.int .i64 sz, .slice none 0 0] 24)) := (But.of_grown hg04 (Nat.le_refl _)).trans (But.alloc (by omega) _)
    generalize (w4.alloc (.cells #[.int .i64 sz, .slice none 0 0] 24)) = w5 at *
    clear hr4 hg1 hz4 hg04
    have hB1 : w4.heap.size < w5.heap.size := hb5.lt
    generalize w4.heap.size = B1 at *
    go_loopg [] text.size (fun gg wr => ∃ (k : Nat) (tv : Value) (xs us : List Value) (rs : List Sh.Rel), k ≤ text.size ∧ text.size - k ≤ gg ∧ rs.length ≤ k ∧ Rdr wr R text k ∧
      Blk wr w.heap.size 24 #[.int .i64 0, .slice none 0 0] ∧ Blk wr B1 24 #[.int .i64 sz, tv] ∧
      wr.ownsRow (B1 + 1) 57 3 tv rs.length xs ∧ RCells xs us rs ∧ RElems wr (B1 + 1) us rs ∧ But w.heap.size R w wr ∧
      strP (text.toList.drop n) = (relsP (text.toList.drop k)).map fun q => ⟨sz, rs ++ q⟩)
    case atStart => exact ⟨n + L1, .slice none 0 0, [], [], [], hn1, by omega, by simp, hr5, hz5, hb5, World.ownsRow_nil _ _ _ _, RCells.nil, (fun j u t h => by simp at h), hbut5, by rw [Hmore.out]; simp⟩
    case round =>
      obtain ⟨k, tv, xs, us, rs, hk, hgg, huk, hrk, hzk, hbk, hown, hrc, hel, hbut, heq⟩ := hrel
      have Heq := Lib.hid heq; clear heq
      have Hown := Lib.hid hown; clear hown
      have Hrc := Lib.hid hrc; clear hrc
      obtain ⟨TA, TC, rfl⟩ := own_slice Hown.out
      have hszk := hbut.size
      have c0 := hrk.c0
      have c1 := hrk.c1
      by_cases hlt : k < text.size
      · have hne : text.toList.drop k ≠ [] := fun e => by
          have := congrArg List.length e
          rw [List.length_drop, length_bytes] at this
          simp at this; omega
        have hrelc := fun W (h1 : Rdr W R text k) (h2 : Vars W) (h3 : 5 ≤ W.heap.size) (h4 : R < W.heap.size) => relation_any R k text W h1 hk hs h2 hR h3 h4
        cases htp : relP (text.toList.drop k) with
        | none =>
          have hst := relsP_bad hne htp
          have hcall : ∀ W, Rdr W R text k → Vars W → 5 ≤ W.heap.size → R < W.heap.size → Calls Tryz.prog 64 #[.pointer (some ⟨R, 0, none⟩)] W fun e w' => e = .panicked errChain ∧ W.grownBy w' (some R) := fun W h1 h2 h3 h4 =>
            (hrelc W h1 h2 h3 h4).mono fun e w' ⟨hg, hm⟩ => ⟨by rw [htp] at hm; exact hm, hg⟩
          have Hcall := Lib.hid hcall; clear hcall hrelc
          have Hst := Lib.hid hst; clear hst htp hne
          go_wp2
          go_quiet (fail)
          go_wp2_with fail
          have hr6 : Rdr (wr.drewN nq) R text k := hrk.drewN nq
          have hb6 : Blk (wr.drewN nq) B1 24 #[.int .i64 sz, .slice TA rs.length TC] := hbk.drewN nq
          have hz6 : Blk (wr.drewN nq) w.heap.size 24 #[.int .i64 0, .slice none 0 0] := hzk.drewN nq
          have hg6 : wr.grownBy (wr.drewN nq) (some R) := grownBy_drewN _ _ _
          generalize wr.drewN nq = w6 at *
          have hbc2 : w6.cell? ⟨B1, 1, none⟩ = some (.slice TA rs.length TC) := hb6.cell 1
          have hs6 := hg6.size
          have hg06 : w.grownBy w6 (some R) := (hbut.trans (But.of_grown hg6 hszk)).grown
          have hv6 := (hv.grown hg06 hR hw).drew
          have hr6' : Rdr w6.drew R text k := Blk.drew hr6
          clear c0 c1
          refine wp_region_held_drew (S := fun w' => w'.cell? ⟨B1, 1, none⟩ = some (.slice TA rs.length TC)) (by kernel_rfl) hbc2 (fun hHeld => ?_)
          refine wpAnyH_take (i := 0) (v := .pointer (some ⟨B1, 1, none⟩)) rfl (by kernel_rfl) (by kernel_rfl) (by kernel_rfl) (fun _ _ _ h => h) (Or.inl ⟨by rfl, ?_⟩) (by assumption) ?_
          · intro w' hSw
            go_simp
          try simp only [Act.put, List.setIfInBounds_toArray, List.set_cons_zero, List.set_cons_succ]
          refine wpAnyH_take (i := 1) (v := .slice TA rs.length TC) rfl (by kernel_rfl) (by kernel_rfl) (by kernel_rfl) (fun _ _ _ h => h) (Or.inl ⟨by rfl, ?_⟩) (by assumption) ?_
          · intro w' hSw
            go_simp
          try simp only [Act.put, List.setIfInBounds_toArray, List.set_cons_zero, List.set_cons_succ]
          refine wpAnyH_take (i := 2) (v := .pointer (some ⟨R, 0, none⟩)) rfl (by kernel_rfl) (by kernel_rfl) (by kernel_rfl) (fun _ _ _ h => h) (Or.inl ⟨by rfl, ?_⟩) (by assumption) ?_
          · intro w' hSw
            go_simp
          try simp only [Act.put, List.setIfInBounds_toArray, List.set_cons_zero, List.set_cons_succ]
          refine wpAnyH_ready (rs := [3]) (by kernel_rfl) (by simp) ?_
          refine AllReadyH.cons rfl (fun K hK => ?_) AllReadyH.nil
          go_simp
          refine (Hcall.out _ hr6' hv6 (by simp; omega) (by simp; omega)).mono ?_
          rintro e w7 ⟨rfl, hg7⟩
          exact ⟨rfl, StrPost.bad (by rw [Heq.out, Hst.out]; rfl) (grownBy_trans hg06 (grownBy_trans (grownBy_drewN w6 1 _) hg7))⟩
        | some p =>
          have hst := relsP_more hne htp
          have hplen := relP_len htp
          rw [List.length_drop, length_bytes] at hplen
          have hcall : ∀ W, Rdr W R text k → Vars W → 5 ≤ W.heap.size → R < W.heap.size → Calls Tryz.prog 64 #[.pointer (some ⟨R, 0, none⟩)] W fun e w' => ∃ u n', e = .returned (.agg #[.string p.1.name, .int .i64 p.1.arity, u]) ∧ NTups w' W.heap.size u p.1.tuples ∧ p.1.name.size ≤ 100000 ∧ n' ≤ text.size ∧ text.toList.drop n' = p.2 ∧ Rdr w' R text n' ∧ W.grownBy w' (some R) := fun W h1 h2 h3 h4 =>
            (hrelc W h1 h2 h3 h4).mono fun e w' ⟨hg, hm⟩ => by
              rw [htp] at hm
              obtain ⟨v, n', h1, h2, h3, h4, h5, h6⟩ := hm
              exact ⟨v, n', h1, h2, h3, h4, h5, h6, hg⟩
          have Hcall := Lib.hid hcall; clear hcall hrelc
          have Hst := Lib.hid hst; clear hst htp hne
          go_wp2
          go_quiet (fail)
          go_wp2_with fail
          have hr6 : Rdr (wr.drewN nq) R text k := hrk.drewN nq
          have hb6 : Blk (wr.drewN nq) B1 24 #[.int .i64 sz, .slice TA rs.length TC] := hbk.drewN nq
          have hz6 : Blk (wr.drewN nq) w.heap.size 24 #[.int .i64 0, .slice none 0 0] := hzk.drewN nq
          have hg6 : wr.grownBy (wr.drewN nq) (some R) := grownBy_drewN _ _ _
          generalize wr.drewN nq = w6 at *
          have hbc2 : w6.cell? ⟨B1, 1, none⟩ = some (.slice TA rs.length TC) := hb6.cell 1
          have hs6 := hg6.size
          have hg06 : w.grownBy w6 (some R) := (hbut.trans (But.of_grown hg6 hszk)).grown
          have hv6 := (hv.grown hg06 hR hw).drew
          have hr6' : Rdr w6.drew R text k := Blk.drew hr6
          clear c0 c1
          have hown6 := own_grown Hown.out hg6 (by omega)
          have hown6d : w6.drew.ownsRow (B1 + 1) 57 3 (.slice TA rs.length TC) rs.length xs := hown6
          have hbk1 := hbk.lt
          have hbc2d : w6.drew.cell? ⟨B1, 1, none⟩ = some (.slice TA rs.length TC) := hbc2
          refine wp_region_any (by kernel_rfl) ?_
          change wpAny _ _ _ _ _ _ _ (World.drew _)
          refine wpAny_take (i := 0) (v := .pointer (some ⟨B1, 1, none⟩)) rfl (by kernel_rfl) (by kernel_rfl) (by kernel_rfl) (fun _ _ _ h => h) (Or.inl ⟨by rfl, ?_⟩) ?_
          · intro w'
            go_simp
          try simp only [Act.put, List.setIfInBounds_toArray, List.set_cons_zero, List.set_cons_succ]
          refine wpAny_take (i := 2) (v := .pointer (some ⟨R, 0, none⟩)) rfl (by kernel_rfl) (by kernel_rfl) (by kernel_rfl) (fun _ _ _ h => h) (Or.inl ⟨by rfl, ?_⟩) ?_
          · intro w'
            go_simp
          try simp only [Act.put, List.setIfInBounds_toArray, List.set_cons_zero, List.set_cons_succ]
          refine wpAny_ready (rs := [1, 3]) (by kernel_rfl) (by simp) ?_
          refine AllReady.cons rfl (fun K hK => ?_) (AllReady.cons rfl (fun K hK => ?_) AllReady.nil)
          · skip
            go_simp
            refine hK _ _ ?_
            clear hK K
            try simp only [Act.put, List.setIfInBounds_toArray, List.set_cons_zero, List.set_cons_succ]
            refine wpAny_ready (rs := [3]) (by kernel_rfl) (by simp) ?_
            refine AllReady.cons rfl (fun K hK => ?_) AllReady.nil
            go_simp
            refine (Hcall.out _ hr6' hv6 (by simp; omega) (by simp; omega)).mono ?_
            rintro e w7 ⟨tu, n', rfl, hnt, hnz, hn', hrest, hr7, hg7⟩
            have hnt' := hnt
            obtain ⟨UA, UN, UC, rfl, -, -, -⟩ := hnt'
            have hrl : text.size - n' = p.2.length := by rw [← hrest, List.length_drop, length_bytes]
            have hs7 : w6.heap.size ≤ w7.heap.size := hg7.size
            have hb7 := Blk.grown (Blk.drew hb6) hg7 (by simp; omega)
            have hbc7 : w7.cell? ⟨B1, 1, none⟩ = some (.slice TA rs.length TC) := hb7.cell 1
            have hbc7' : (w7.alloc (.cells #[.string p.1.name, .int .i64 p.1.arity, .slice UA UN UC] 57)).cell? ⟨B1, 1, none⟩ = some (.slice TA rs.length TC) := (Blk.alloc hb7 _).cell 1
            refine hK _ _ ?_
            clear hK K
            try simp only [Act.put, List.setIfInBounds_toArray, List.set_cons_zero, List.set_cons_succ]
            refine wpAny_ready (rs := [4]) (by kernel_rfl) (by simp) ?_
            refine AllReady.cons rfl (fun K hK => ?_) AllReady.nil
            go_simp
            refine hK _ _ ?_
            clear hK K
            try simp only [Act.put, List.setIfInBounds_toArray, List.set_cons_zero, List.set_cons_succ]
            refine wpAny_ready (rs := [5]) (by kernel_rfl) (by simp) ?_
            refine AllReady.cons rfl (fun K hK => ?_) AllReady.nil
            have hown7 : (w7.alloc (.cells #[.string p.1.name, .int .i64 p.1.arity, .slice UA UN UC] 57)).ownsRow (B1 + 1) 57 3 (.slice TA rs.length TC) rs.length xs := World.ownsRow.alloc (own_grown hown6d hg7 (by omega)) _
            refine step_append_rel _ rfl _ _ rfl (B1 + 1) _ rs.length xs rfl hown7 w7.heap.size 1 _ _ _ rfl (Blk.new w7 57 #[.string p.1.name, .int .i64 p.1.arity, .slice UA UN UC]) rfl rfl rfl (by omega) (by simp; omega) ?_
            intro v8 w8 hown8 hg8
            obtain ⟨VA, VC, rfl⟩ := own_slice hown8
            have hb8 : Blk w8 B1 24 #[.int .i64 sz, .slice TA rs.length TC] := Blk.grown (Blk.alloc hb7 _) hg8 (fun e => by have := (hown7.lt B1 e.symm).1; omega)
            have hbc8 : w8.cell? ⟨B1, 1, none⟩ = some (.slice TA rs.length TC) := hb8.cell 1
            have hbf8 := hb8.frozen 1
            refine hK _ _ ?_
            clear hK K
            try simp only [Act.put, List.setIfInBounds_toArray, List.set_cons_zero, List.set_cons_succ]
            refine wpAny_ready (rs := [6]) (by kernel_rfl) (by simp) ?_
            refine AllReady.cons rfl (fun K hK => ?_) AllReady.nil
            go_simp
            refine hK _ _ ?_
            clear hK K
            try simp only [Act.put, List.setIfInBounds_toArray, List.set_cons_zero, List.set_cons_succ]
            refine wpAny_ready (rs := [7]) (by kernel_rfl) (by simp) ?_
            refine AllReady.cons rfl (fun K hK => ?_) AllReady.nil
            go_simp
            refine hK _ _ ?_
            clear hK K
            try simp only [Act.put, List.setIfInBounds_toArray, List.set_cons_zero, List.set_cons_succ]
            refine wpAny_done (by kernel_rfl) ?_ _
            go_wp2
            go_roundg (text.size - n')
            case measure => omega
            case rel =>
              have hg8' : (w7.alloc (.cells #[.string p.1.name, .int .i64 p.1.arity, .slice UA UN UC] 57)).grownBy w8 (Value.slice TA rs.length TC).ownBlock := hg8
              have hb7b : ∀ g, (Value.slice TA rs.length TC).ownBlock = some g → B1 + 1 ≤ g := fun g e => (hown7.lt g e).1
              refine ⟨n', .slice VA (rs.length + 1) VC, xs ++ [.string p.1.name, .int .i64 p.1.arity, .slice UA UN UC], us ++ [.slice UA UN UC], rs ++ [p.1], hn', Nat.le_refl _, by simp; omega, ?_, ?_, ?_, ?_, Hrc.out.snoc _ _, ?_, ?_, ?_⟩
              · exact Blk.far (Blk.grown (Blk.alloc hr7 _) hg8' (fun e => by have := hb7b R e.symm; omega)) (by simp; omega) _
              · exact Blk.far (Blk.grown (Blk.alloc (Blk.grown (Blk.drew hz6) hg7 (by simp; omega)) _) hg8' (fun e => by have := hb7b _ e.symm; omega)) (by simp; omega) _
              · exact hb8.set_ 1 _
              · have h9 := hown8.kept (row := some B1) (w' := w8.setCell ⟨B1, 1, none⟩ (.slice VA (rs.length + 1) VC)) ⟨rfl, rfl, rfl, by simp [World.setCell], fun i hi hne => Below.heap_setCell _ _ _ _ (fun e => hne (by rw [e]))⟩ (by
                  cases ho : (Value.slice VA (rs.length + 1) VC).ownBlock with
                  | none => exact .inl rfl
                  | some g => exact .inr (fun e => by injection e with e; have := (hown8.lt g ho).1; omega))
                simpa using h9
              · have hk7 : Keeps (B1 + 1) [3, 25] w7 (w8.setCell ⟨B1, 1, none⟩ (.slice VA (rs.length + 1) VC)) :=
                  (Keeps.alloc _ _ _ _).trans ((Keeps.own hg8' hown7 (by decide)).trans (Keeps.setCell (p := ⟨B1, 1, none⟩) hb8 (by decide) _))
                exact RElems.snoc ((hel.keep ((Keeps.of_grown hg6 (by omega)).trans ((Keeps.drewN _ _ w6 1).trans (Keeps.of_grown hg7 (by omega))))).keep hk7) Hrc.out.2.1 ((hnt.more (by simp; omega)).keep hk7) (by omega)
              · exact (But.of_grown hg06 (Nat.le_refl _)).trans ((But.drewN 1).trans ((But.of_grown hg7 (by simp; omega)).trans ((But.alloc (by omega) _).trans ((But.row hg8' (by simp; omega) (fun g e => by have := hb7b g e; omega)).trans (But.setL (p := ⟨B1, 1, none⟩) (by simp; omega) _)))))
              · rw [Heq.out, Hst.out, hrest, Option.map_map]
                congr 1
                funext q
                simp
          · skip
            go_simp
            refine (Hcall.out _ hr6' hv6 (by simp; omega) (by simp; omega)).mono ?_
            rintro e w7 ⟨tu, n', rfl, hnt, hnz, hn', hrest, hr7, hg7⟩
            have hnt' := hnt
            obtain ⟨UA, UN, UC, rfl, -, -, -⟩ := hnt'
            have hrl : text.size - n' = p.2.length := by rw [← hrest, List.length_drop, length_bytes]
            have hs7 : w6.heap.size ≤ w7.heap.size := hg7.size
            have hb7 := Blk.grown (Blk.drew hb6) hg7 (by simp; omega)
            have hbc7 : w7.cell? ⟨B1, 1, none⟩ = some (.slice TA rs.length TC) := hb7.cell 1
            have hbc7' : (w7.alloc (.cells #[.string p.1.name, .int .i64 p.1.arity, .slice UA UN UC] 57)).cell? ⟨B1, 1, none⟩ = some (.slice TA rs.length TC) := (Blk.alloc hb7 _).cell 1
            refine hK _ _ ?_
            clear hK K
            try simp only [Act.put, List.setIfInBounds_toArray, List.set_cons_zero, List.set_cons_succ]
            refine wpAny_ready (rs := [1, 4]) (by kernel_rfl) (by simp) ?_
            refine AllReady.cons rfl (fun K hK => ?_) (AllReady.cons rfl (fun K hK => ?_) AllReady.nil)
            · skip
              go_simp
              refine hK _ _ ?_
              clear hK K
              try simp only [Act.put, List.setIfInBounds_toArray, List.set_cons_zero, List.set_cons_succ]
              refine wpAny_ready (rs := [4]) (by kernel_rfl) (by simp) ?_
              refine AllReady.cons rfl (fun K hK => ?_) AllReady.nil
              go_simp
              refine hK _ _ ?_
              clear hK K
              try simp only [Act.put, List.setIfInBounds_toArray, List.set_cons_zero, List.set_cons_succ]
              refine wpAny_ready (rs := [5]) (by kernel_rfl) (by simp) ?_
              refine AllReady.cons rfl (fun K hK => ?_) AllReady.nil
              have hown7 : (w7.alloc (.cells #[.string p.1.name, .int .i64 p.1.arity, .slice UA UN UC] 57)).ownsRow (B1 + 1) 57 3 (.slice TA rs.length TC) rs.length xs := World.ownsRow.alloc (own_grown hown6d hg7 (by omega)) _
              refine step_append_rel _ rfl _ _ rfl (B1 + 1) _ rs.length xs rfl hown7 w7.heap.size 1 _ _ _ rfl (Blk.new w7 57 #[.string p.1.name, .int .i64 p.1.arity, .slice UA UN UC]) rfl rfl rfl (by omega) (by simp; omega) ?_
              intro v8 w8 hown8 hg8
              obtain ⟨VA, VC, rfl⟩ := own_slice hown8
              have hb8 : Blk w8 B1 24 #[.int .i64 sz, .slice TA rs.length TC] := Blk.grown (Blk.alloc hb7 _) hg8 (fun e => by have := (hown7.lt B1 e.symm).1; omega)
              have hbc8 : w8.cell? ⟨B1, 1, none⟩ = some (.slice TA rs.length TC) := hb8.cell 1
              have hbf8 := hb8.frozen 1
              refine hK _ _ ?_
              clear hK K
              try simp only [Act.put, List.setIfInBounds_toArray, List.set_cons_zero, List.set_cons_succ]
              refine wpAny_ready (rs := [6]) (by kernel_rfl) (by simp) ?_
              refine AllReady.cons rfl (fun K hK => ?_) AllReady.nil
              go_simp
              refine hK _ _ ?_
              clear hK K
              try simp only [Act.put, List.setIfInBounds_toArray, List.set_cons_zero, List.set_cons_succ]
              refine wpAny_ready (rs := [7]) (by kernel_rfl) (by simp) ?_
              refine AllReady.cons rfl (fun K hK => ?_) AllReady.nil
              go_simp
              refine hK _ _ ?_
              clear hK K
              try simp only [Act.put, List.setIfInBounds_toArray, List.set_cons_zero, List.set_cons_succ]
              refine wpAny_done (by kernel_rfl) ?_ _
              go_wp2
              go_roundg (text.size - n')
              case measure => omega
              case rel =>
                have hg8' : (w7.alloc (.cells #[.string p.1.name, .int .i64 p.1.arity, .slice UA UN UC] 57)).grownBy w8 (Value.slice TA rs.length TC).ownBlock := hg8
                have hb7b : ∀ g, (Value.slice TA rs.length TC).ownBlock = some g → B1 + 1 ≤ g := fun g e => (hown7.lt g e).1
                refine ⟨n', .slice VA (rs.length + 1) VC, xs ++ [.string p.1.name, .int .i64 p.1.arity, .slice UA UN UC], us ++ [.slice UA UN UC], rs ++ [p.1], hn', Nat.le_refl _, by simp; omega, ?_, ?_, ?_, ?_, Hrc.out.snoc _ _, ?_, ?_, ?_⟩
                · exact Blk.far (Blk.grown (Blk.alloc hr7 _) hg8' (fun e => by have := hb7b R e.symm; omega)) (by simp; omega) _
                · exact Blk.far (Blk.grown (Blk.alloc (Blk.grown (Blk.drew hz6) hg7 (by simp; omega)) _) hg8' (fun e => by have := hb7b _ e.symm; omega)) (by simp; omega) _
                · exact hb8.set_ 1 _
                · have h9 := hown8.kept (row := some B1) (w' := w8.setCell ⟨B1, 1, none⟩ (.slice VA (rs.length + 1) VC)) ⟨rfl, rfl, rfl, by simp [World.setCell], fun i hi hne => Below.heap_setCell _ _ _ _ (fun e => hne (by rw [e]))⟩ (by
                    cases ho : (Value.slice VA (rs.length + 1) VC).ownBlock with
                    | none => exact .inl rfl
                    | some g => exact .inr (fun e => by injection e with e; have := (hown8.lt g ho).1; omega))
                  simpa using h9
                · have hk7 : Keeps (B1 + 1) [3, 25] w7 (w8.setCell ⟨B1, 1, none⟩ (.slice VA (rs.length + 1) VC)) :=
                    (Keeps.alloc _ _ _ _).trans ((Keeps.own hg8' hown7 (by decide)).trans (Keeps.setCell (p := ⟨B1, 1, none⟩) hb8 (by decide) _))
                  exact RElems.snoc ((hel.keep ((Keeps.of_grown hg6 (by omega)).trans ((Keeps.drewN _ _ w6 1).trans (Keeps.of_grown hg7 (by omega))))).keep hk7) Hrc.out.2.1 ((hnt.more (by simp; omega)).keep hk7) (by omega)
                · exact (But.of_grown hg06 (Nat.le_refl _)).trans ((But.drewN 1).trans ((But.of_grown hg7 (by simp; omega)).trans ((But.alloc (by omega) _).trans ((But.row hg8' (by simp; omega) (fun g e => by have := hb7b g e; omega)).trans (But.setL (p := ⟨B1, 1, none⟩) (by simp; omega) _)))))
                · rw [Heq.out, Hst.out, hrest, Option.map_map]
                  congr 1
                  funext q
                  simp
            · skip
              go_simp
              refine hK _ _ ?_
              clear hK K
              try simp only [Act.put, List.setIfInBounds_toArray, List.set_cons_zero, List.set_cons_succ]
              refine wpAny_ready (rs := [1]) (by kernel_rfl) (by simp) ?_
              refine AllReady.cons rfl (fun K hK => ?_) AllReady.nil
              go_simp
              refine hK _ _ ?_
              clear hK K
              try simp only [Act.put, List.setIfInBounds_toArray, List.set_cons_zero, List.set_cons_succ]
              refine wpAny_ready (rs := [5]) (by kernel_rfl) (by simp) ?_
              refine AllReady.cons rfl (fun K hK => ?_) AllReady.nil
              have hown7 : (w7.alloc (.cells #[.string p.1.name, .int .i64 p.1.arity, .slice UA UN UC] 57)).ownsRow (B1 + 1) 57 3 (.slice TA rs.length TC) rs.length xs := World.ownsRow.alloc (own_grown hown6d hg7 (by omega)) _
              refine step_append_rel _ rfl _ _ rfl (B1 + 1) _ rs.length xs rfl hown7 w7.heap.size 1 _ _ _ rfl (Blk.new w7 57 #[.string p.1.name, .int .i64 p.1.arity, .slice UA UN UC]) rfl rfl rfl (by omega) (by simp; omega) ?_
              intro v8 w8 hown8 hg8
              obtain ⟨VA, VC, rfl⟩ := own_slice hown8
              have hb8 : Blk w8 B1 24 #[.int .i64 sz, .slice TA rs.length TC] := Blk.grown (Blk.alloc hb7 _) hg8 (fun e => by have := (hown7.lt B1 e.symm).1; omega)
              have hbc8 : w8.cell? ⟨B1, 1, none⟩ = some (.slice TA rs.length TC) := hb8.cell 1
              have hbf8 := hb8.frozen 1
              refine hK _ _ ?_
              clear hK K
              try simp only [Act.put, List.setIfInBounds_toArray, List.set_cons_zero, List.set_cons_succ]
              refine wpAny_ready (rs := [6]) (by kernel_rfl) (by simp) ?_
              refine AllReady.cons rfl (fun K hK => ?_) AllReady.nil
              go_simp
              refine hK _ _ ?_
              clear hK K
              try simp only [Act.put, List.setIfInBounds_toArray, List.set_cons_zero, List.set_cons_succ]
              refine wpAny_ready (rs := [7]) (by kernel_rfl) (by simp) ?_
              refine AllReady.cons rfl (fun K hK => ?_) AllReady.nil
              go_simp
              refine hK _ _ ?_
              clear hK K
              try simp only [Act.put, List.setIfInBounds_toArray, List.set_cons_zero, List.set_cons_succ]
              refine wpAny_done (by kernel_rfl) ?_ _
              go_wp2
              go_roundg (text.size - n')
              case measure => omega
              case rel =>
                have hg8' : (w7.alloc (.cells #[.string p.1.name, .int .i64 p.1.arity, .slice UA UN UC] 57)).grownBy w8 (Value.slice TA rs.length TC).ownBlock := hg8
                have hb7b : ∀ g, (Value.slice TA rs.length TC).ownBlock = some g → B1 + 1 ≤ g := fun g e => (hown7.lt g e).1
                refine ⟨n', .slice VA (rs.length + 1) VC, xs ++ [.string p.1.name, .int .i64 p.1.arity, .slice UA UN UC], us ++ [.slice UA UN UC], rs ++ [p.1], hn', Nat.le_refl _, by simp; omega, ?_, ?_, ?_, ?_, Hrc.out.snoc _ _, ?_, ?_, ?_⟩
                · exact Blk.far (Blk.grown (Blk.alloc hr7 _) hg8' (fun e => by have := hb7b R e.symm; omega)) (by simp; omega) _
                · exact Blk.far (Blk.grown (Blk.alloc (Blk.grown (Blk.drew hz6) hg7 (by simp; omega)) _) hg8' (fun e => by have := hb7b _ e.symm; omega)) (by simp; omega) _
                · exact hb8.set_ 1 _
                · have h9 := hown8.kept (row := some B1) (w' := w8.setCell ⟨B1, 1, none⟩ (.slice VA (rs.length + 1) VC)) ⟨rfl, rfl, rfl, by simp [World.setCell], fun i hi hne => Below.heap_setCell _ _ _ _ (fun e => hne (by rw [e]))⟩ (by
                    cases ho : (Value.slice VA (rs.length + 1) VC).ownBlock with
                    | none => exact .inl rfl
                    | some g => exact .inr (fun e => by injection e with e; have := (hown8.lt g ho).1; omega))
                  simpa using h9
                · have hk7 : Keeps (B1 + 1) [3, 25] w7 (w8.setCell ⟨B1, 1, none⟩ (.slice VA (rs.length + 1) VC)) :=
                    (Keeps.alloc _ _ _ _).trans ((Keeps.own hg8' hown7 (by decide)).trans (Keeps.setCell (p := ⟨B1, 1, none⟩) hb8 (by decide) _))
                  exact RElems.snoc ((hel.keep ((Keeps.of_grown hg6 (by omega)).trans ((Keeps.drewN _ _ w6 1).trans (Keeps.of_grown hg7 (by omega))))).keep hk7) Hrc.out.2.1 ((hnt.more (by simp; omega)).keep hk7) (by omega)
                · exact (But.of_grown hg06 (Nat.le_refl _)).trans ((But.drewN 1).trans ((But.of_grown hg7 (by simp; omega)).trans ((But.alloc (by omega) _).trans ((But.row hg8' (by simp; omega) (fun g e => by have := hb7b g e; omega)).trans (But.setL (p := ⟨B1, 1, none⟩) (by simp; omega) _)))))
                · rw [Heq.out, Hst.out, hrest, Option.map_map]
                  congr 1
                  funext q
                  simp
      · skip
        obtain rfl : k = text.size := by omega
        have hst : relsP (text.toList.drop text.size) = some [] := by rw [List.drop_of_length_le (by rw [length_bytes]; exact Nat.le_refl _)]; exact relsP_nil
        have Hst := Lib.hid hst; clear hst
        go_wp2
        go_quiet (fail)
        have hr6 : Rdr (wr.drewN nq) R text text.size := hrk.drewN nq
        have hb6 : Blk (wr.drewN nq) B1 24 #[.int .i64 sz, .slice TA rs.length TC] := hbk.drewN nq
        have hz6 : Blk (wr.drewN nq) w.heap.size 24 #[.int .i64 0, .slice none 0 0] := hzk.drewN nq
        have hg6 : wr.grownBy (wr.drewN nq) (some R) := grownBy_drewN _ _ _
        generalize wr.drewN nq = w6 at *
        have hzc0 : w6.cell? ⟨w.heap.size, 0, none⟩ = some (.int .i64 0) := hz6.cell 0
        have hzc1 : w6.cell? ⟨w.heap.size, 1, none⟩ = some (.slice none 0 0) := hz6.cell 1
        have hbc0 : w6.cell? ⟨B1, 0, none⟩ = some (.int .i64 sz) := hb6.cell 0
        have hbc1 : w6.cell? ⟨B1, 1, none⟩ = some (.slice TA rs.length TC) := hb6.cell 1
        have hzf0 := hz6.frozen 0
        have hzf1 := hz6.frozen 1
        clear c0 c1
        go_wp2
        have hg06 : w.grownBy w6 (some R) := (hbut.trans (But.of_grown hg6 hszk)).grown
        have hown6 := own_grown Hown.out hg6 (by omega)
        have hel6 := hel.keep (Keeps.of_grown hg6 (by omega))
        have hnt6 : NRels w6 (B1 + 1) (.slice TA rs.length TC) rs := NRels.own hown6 (Nat.le_refl _) (by omega) Hrc.out hel6
        refine bodyPost_ret (v := .agg #[.int .i64 sz, .slice TA rs.length TC]) (by simp [results, Tryz.results48, go_sem, hzc0, hzc1]) rfl ?_
        have hk0 : Keeps (B1 + 1) [3, 25, 57] w6 ((w6.setCell ⟨w.heap.size, 0, none⟩ (.int .i64 sz)).setCell ⟨w.heap.size, 1, none⟩ (.slice TA rs.length TC)) :=
          (Keeps.setCell (p := ⟨w.heap.size, 0, none⟩) hz6 (by decide) _).trans (Keeps.setCell (p := ⟨w.heap.size, 1, none⟩) (hz6.set_ _ _) (by decide) _)
        refine StrPost.ok (s := ⟨sz, rs⟩) (by rw [Heq.out, Hst.out]; simp) ?_ ((hnt6.keep hk0).more (by omega))
        exact (But.of_grown hg06 (Nat.le_refl _)).trans ((But.setL (p := ⟨w.heap.size, 0, none⟩) (Nat.le_refl _) _).trans (But.setL (p := ⟨w.heap.size, 1, none⟩) (Nat.le_refl _) _)) |>.grown

end Go.Proofs.YtelememdhpncgaaGreatDoor

/-
  Walks: the reference's Less, the library's cmp.Compare and slices.Compare at ints.
-/
namespace Go.Proofs.YtelememdhpncgaaGreatDoor
open Go.RowKit

set_option maxHeartbeats 400000 in
theorem less_any (v u : Value) (s t : List Int) (w : World) (B : Nat) (h : Ints w B v s) (g : Ints w B u t) (hst : s.length ≤ t.length) :
    Calls Tryz.prog 52 #[v, u] w fun e w' => e = .returned (.bool (Sh.lessB s t)) ∧ ∃ n, w' = w.drewN n := by
  have h' := h
  have g' := g
  obtain ⟨A, len, c, rfl, hlen, hmax, -⟩ := h'
  obtain ⟨A', len', c', rfl, glen, gmax, -⟩ := g'
  have hll : len ≤ len' := by omega
  have Hlen := Lib.hid hlen; clear hlen
  have Glen := Lib.hid glen; clear glen
  clear hst
  go_enter Tryz.func52, Tryz.ntmps52
  go_wp2
  go_loopw [5] (fun i wr => ∃ k m : Nat, k ≤ len ∧ i = .int .i64 k ∧ Sh.lessB s t = Sh.lessB (s.drop k) (t.drop k) ∧ wr = w.drewN m) (fun i _ => len - (intOf i).toNat)
  case atStart => exact ⟨0, 0, Nat.zero_le _, rfl, by simp, rfl⟩
  case round =>
    obtain ⟨k, m, hk, rfl, heq, rfl⟩ := hrel
    have Heq := Lib.hid heq; clear heq
    by_cases hlt : k < len
    · have hlt' : k < len' := by omega
      obtain ⟨ad, rfl, hb, hc⟩ := h.at_ hlt
      obtain ⟨ad', rfl, hb', hc'⟩ := g.at_ hlt'
      have hst := @Sh.lessB_step s t k (by have := Hlen.out; omega) (by have := Glen.out; omega)
      have hsp := @Sh.lessB_stop s t k (by have := Hlen.out; omega) (by have := Glen.out; omega)
      generalize s.getD k 0 = x at *
      generalize t.getD k 0 = y at *
      have Hst := Lib.hid hst; clear hst
      have Hsp := Lib.hid hsp; clear hsp
      by_cases he : x = y
      · subst he
        go_wp2
        go_quiet (fail)
        go_wp2
        exact ⟨⟨k + 1, _, by omega, by go_num, by rw [Heq.out]; exact Hst.out trivial, rfl⟩, by simp [intOf]; omega⟩
      · go_wp2
        go_quiet (fail)
        go_wp2
        go_quiet (fail)
        go_wp2
        go_ret
        exact ⟨ret_bool (by rw [Heq.out]; exact (Hsp.out he).symm), _, by simp only [World.drewN_drewN]; rfl⟩
    · have hend := @Sh.lessB_end s t k (by have := Hlen.out; omega)
      have Hend := Lib.hid hend; clear hend
      go_wp2
      go_ret
      exact ⟨ret_bool (by rw [Heq.out, Hend.out]), _, rfl⟩

theorem isnan_any (x : Int) (w : World) :
    Calls Tryz.prog 79 #[.int .i64 x] w fun e w' => e = .returned (.bool false) ∧ w = w' := by
  go_enter Tryz.func79, Tryz.ntmps79
  go_wp2
  go_ret
  exact ⟨by simp, rfl⟩

set_option maxHeartbeats 400000 in
theorem cmp_any (x y : Int) (w : World) :
    Calls Tryz.prog 56 #[.int .i64 x, .int .i64 y] w fun e w' => e = .returned (.int .i64 (Sh.cmpI [x] [y])) ∧ w = w' := by
  rcases Int.lt_trichotomy x y with h | h | h
  · have hs : Sh.cmpI [x] [y] = -1 := by simp [Sh.cmpI, h]
    have Hs := Lib.hid hs; clear hs
    go_enter Tryz.func56, Tryz.ntmps56
    go_wp2_with (go_at_call 79; refine (isnan_any _ _).mono ?_; rintro e w' ⟨rfl, rfl⟩)
    go_ret
    exact ⟨ret_int Hs.out.symm, rfl⟩
  · have hs : Sh.cmpI [x] [y] = 0 := by simp [Sh.cmpI, h]
    have Hs := Lib.hid hs; clear hs
    subst h
    go_enter Tryz.func56, Tryz.ntmps56
    go_wp2_with (go_at_call 79; refine (isnan_any _ _).mono ?_; rintro e w' ⟨rfl, rfl⟩)
    go_ret
    exact ⟨ret_int Hs.out.symm, rfl⟩
  · have hs : Sh.cmpI [x] [y] = 1 := by simp [Sh.cmpI, h]; omega
    have Hs := Lib.hid hs; clear hs
    go_enter Tryz.func56, Tryz.ntmps56
    go_wp2_with (go_at_call 79; refine (isnan_any _ _).mono ?_; rintro e w' ⟨rfl, rfl⟩)
    go_ret
    exact ⟨ret_int Hs.out.symm, rfl⟩

set_option maxHeartbeats 400000 in
theorem compare_any (v u : Value) (s t : List Int) (w : World) (B : Nat) (h : Ints w B v s) (g : Ints w B u t) :
    Calls Tryz.prog 35 #[v, u] w fun e w' => e = .returned (.int .i64 (Sh.cmpI s t)) ∧ w = w' := by
  have h' := h
  have g' := g
  obtain ⟨A, len, c, rfl, hlen, hmax, -⟩ := h'
  obtain ⟨A', len', c', rfl, glen, gmax, -⟩ := g'
  have Hlen := Lib.hid hlen; clear hlen
  have Glen := Lib.hid glen; clear glen
  go_enter Tryz.func35, Tryz.ntmps35
  go_wp2
  go_loop [11] (fun i => ∃ k : Nat, k ≤ len ∧ k ≤ len' ∧ i = .int .i64 k ∧ Sh.cmpI s t = Sh.cmpI (s.drop k) (t.drop k)) (fun i => len - (intOf i).toNat)
  case atStart => exact ⟨0, Nat.zero_le _, Nat.zero_le _, rfl, by simp⟩
  case round =>
    obtain ⟨k, hk, hk', rfl, heq⟩ := hrel
    have Heq := Lib.hid heq; clear heq
    by_cases hlt : k < len
    · obtain ⟨ad, rfl, hb, hc⟩ := h.at_ hlt
      by_cases hlt' : k < len'
      · obtain ⟨ad', rfl, hb', hc'⟩ := g.at_ hlt'
        have hst := @Sh.cmpI_step s t k (by have := Hlen.out; omega) (by have := Glen.out; omega)
        have h1 := @Sh.cmpI_lt s t k (by have := Hlen.out; omega) (by have := Glen.out; omega)
        have h2 := @Sh.cmpI_gt s t k (by have := Hlen.out; omega) (by have := Glen.out; omega)
        generalize s.getD k 0 = x at *
        generalize t.getD k 0 = y at *
        have Hst := Lib.hid hst; clear hst
        have H1 := Lib.hid h1; clear h1
        have H2 := Lib.hid h2; clear h2
        rcases Int.lt_trichotomy x y with hxy | hxy | hxy
        · have hs : Sh.cmpI [x] [y] = -1 := by simp [Sh.cmpI, hxy]
          go_wp2_with (go_at_call 56; refine (cmp_any _ _ _).mono ?_; rintro e w' ⟨rfl, rfl⟩)
          go_ret
          exact ⟨ret_int (by rw [Heq.out]; exact (H1.out hxy).symm), rfl⟩
        · have hs : Sh.cmpI [x] [y] = 0 := by simp [Sh.cmpI, hxy]
          subst hxy
          go_wp2_with (go_at_call 56; refine (cmp_any _ _ _).mono ?_; rintro e w' ⟨rfl, rfl⟩)
          go_round
          case rel => exact ⟨k + 1, by omega, by omega, by go_num, by rw [Heq.out]; exact Hst.out trivial⟩
          case measure => simp [intOf]; omega
        · have hs : Sh.cmpI [x] [y] = 1 := by simp [Sh.cmpI, hxy]; omega
          go_wp2_with (go_at_call 56; refine (cmp_any _ _ _).mono ?_; rintro e w' ⟨rfl, rfl⟩)
          go_ret
          exact ⟨ret_int (by rw [Heq.out]; exact (H2.out hxy).symm), rfl⟩
      · have hend := @Sh.cmpI_longer s t k (by have := Hlen.out; omega) (by have := Glen.out; omega)
        have Hend := Lib.hid hend; clear hend
        go_wp2
        go_ret
        exact ⟨ret_int (by rw [Heq.out, Hend.out]), rfl⟩
    · by_cases hlt' : k < len'
      · have hend := @Sh.cmpI_shorter s t k (by have := Hlen.out; omega) (by have := Glen.out; omega)
        have Hend := Lib.hid hend; clear hend
        go_wp2
        go_ret
        exact ⟨ret_int (by rw [Heq.out, Hend.out]), rfl⟩
      · have hend := @Sh.cmpI_end s t k (by have := Hlen.out; omega) (by have := Glen.out; omega)
        have Hend := Lib.hid hend; clear hend
        go_wp2
        go_ret
        exact ⟨ret_int (by rw [Heq.out, Hend.out]), rfl⟩

end Go.Proofs.YtelememdhpncgaaGreatDoor

/-
  Walks: shape.validRel, the reference's rel.
-/
namespace Go.Proofs.YtelememdhpncgaaGreatDoor
open Go.RowKit

set_option maxRecDepth 100000 in
set_option maxHeartbeats 400000 in
theorem validRel_any (r : Sh.Rel) (v : Value) (n : Int) (w : World) (B : Nat) (hB : B ≤ w.heap.size) (h : Tups w B v r.tuples) (hs : r.name.size ≤ 140737488351232) :
    Calls Tryz.prog 53 #[.agg #[.string r.name, .int .i64 r.arity, v], .int .i64 n] w fun e w' => e = .returned (.bool (Sh.relB n r)) ∧ Below w.heap.size w w' := by
  obtain ⟨name, arity, ts⟩ := r
  simp only at h hs ⊢
  have hdef : Sh.relB n ⟨name, arity, ts⟩ = (decide ((Sh.powE n arity).2 = 0) && Sh.nameB name.toList && (List.range ts.length).all (Sh.tupOk n arity ts)) := rfl
  generalize hpe : Sh.powE n arity = pe at hdef
  obtain ⟨p1, p2⟩ := pe
  simp only at hdef
  have Hpe := Lib.hid hpe; clear hpe
  by_cases hp2 : p2 = 0
  · subst hp2
    cases hnm : Sh.nameB name.toList
    · have hv : Sh.relB n ⟨name, arity, ts⟩ = false := by rw [hdef, hnm]; simp
      have Hv := Lib.hid hv; clear hv
      have Hd := Lib.hid hdef; clear hdef
      have Hnm := Lib.hid hnm; clear hnm
      go_enter Tryz.func53, Tryz.ntmps53
      go_wp2_with (first | (go_at_call 49; refine (power_any _ _ _).mono ?_; rw [Hpe.out]; rintro e w' ⟨rfl, rfl⟩) | (go_at_call 68; refine (name_any _ _ hs).mono ?_; rw [Hnm.out]; rintro e w1 ⟨rfl, hb1⟩))
      go_ret
      exact ⟨ret_bool Hv.out.symm, ((Below.refl _ _).alloc (Nat.le_refl _) _).trans (hb1.mono (by simp))⟩
    · have hv : Sh.relB n ⟨name, arity, ts⟩ = (List.range ts.length).all (Sh.tupOk n arity ts) := by rw [hdef, hnm]; simp
      have Hv := Lib.hid hv; clear hv
      have Hd := Lib.hid hdef; clear hdef
      have Hnm := Lib.hid hnm; clear hnm
      have h' := h
      obtain ⟨A, len, c, rfl, hlen, hmax, -⟩ := h'
      have Hlen := Lib.hid hlen; clear hlen
      go_enter Tryz.func53, Tryz.ntmps53
      go_wp2_with (first
        | (go_at_call 49; refine (power_any _ _ _).mono ?_; rw [Hpe.out]; rintro e w' ⟨rfl, rfl⟩)
        | (go_at_call 68
           refine (name_any _ _ hs).mono ?_
           rw [Hnm.out]
           rintro e w1 ⟨rfl, hb1⟩
           have hblk := (Blk.new w 57 #[.string name, .int .i64 arity, .slice A len c]).below hb1 (by simp)
           have c1 : w1.cell? ⟨w.heap.size, 1, none⟩ = some (.int .i64 arity) := hblk.cell 1
           have c2 : w1.cell? ⟨w.heap.size, 2, none⟩ = some (.slice A len c) := hblk.cell 2
           have ht1 := (h.below (((Below.refl _ _).alloc (Nat.le_refl _) _).mono hB)).below (hb1.mono (by simp; omega))
           have hbw : Below w.heap.size w w1 := ((Below.refl _ _).alloc (Nat.le_refl _) _).trans (hb1.mono (by simp))
           clear hb1 hblk))
      go_loop [27] (fun i => ∃ k : Nat, k ≤ len ∧ i = .int .i64 k ∧ (List.range k).all (Sh.tupOk n arity ts) = true) (fun i => len - (intOf i).toNat)
      case atStart => exact ⟨0, Nat.zero_le _, rfl, by simp⟩
      case round =>
        obtain ⟨k, hk, rfl, hall⟩ := hrel
        by_cases hlt : k < len
        · obtain ⟨ad, u, rfl, hb, hcu, hiu⟩ := ht1.at_ hlt
          have hiu' := hiu
          obtain ⟨A2, n2, c2, rfl, hn2, hm2, -⟩ := hiu'
          have hsucc := Sh.range_all_succ (Sh.tupOk n arity ts) k
          rw [hall, Bool.true_and] at hsucc
          have hfalse : Sh.tupOk n arity ts k = false → Sh.relB n ⟨name, arity, ts⟩ = false := fun hp => by
            rw [Hv.out]; exact Sh.range_all_false _ (by rw [← Hlen.out]; exact hlt) hp
          have htk : Sh.tupOk n arity ts k = (decide (((ts.getD k []).length : Int) = arity) && Sh.inB n (ts.getD k []) && (decide (k = 0) || Sh.lessB (ts.getD (k - 1) []) (ts.getD k []))) := rfl
          have Hall := Lib.hid hall; clear hall
          have Hsucc := Lib.hid hsucc; clear hsucc
          have Hfa := Lib.hid hfalse; clear hfalse
          by_cases hla : (n2 : Int) = arity
          · cases hin : Sh.inB n (ts.getD k [])
            · have Hf := Lib.hid (Hfa.out (by rw [htk, hin]; simp))
              have Hin := Lib.hid hin; clear hin
              have Hla := Lib.hid hla; clear hla
              have Hn2 := Lib.hid hn2; clear hn2
              clear htk
              have hbeq : ((n2 : Int) == arity) = true := by rw [Hla.out]; simp
              have hbne : ((n2 : Int) != arity) = false := by rw [Hla.out]; simp
              go_wp2_with (go_at_call 38; refine (elements_any _ _ _ _ _ hiu).mono ?_; rw [Hin.out]; rintro e w' ⟨rfl, rfl⟩)
              go_ret
              exact ⟨ret_bool Hf.out.symm, hbw⟩
            · rcases k with _ | k
              · rw [show ad.add 0 = ad from rfl] at hcu
                have htk' : Sh.tupOk n arity ts 0 = true := by rw [htk, hin, ← hn2]; simp [hla]
                have Htk := Lib.hid htk'; clear htk' htk
                have Hin := Lib.hid hin; clear hin
                have Hn2 := Lib.hid hn2; clear hn2
                have Hla := Lib.hid hla; clear hla
                have hbeq : ((n2 : Int) == arity) = true := by rw [Hla.out]; simp
                have hbne : ((n2 : Int) != arity) = false := by rw [Hla.out]; simp
                go_wp2_with (go_at_call 38; refine (elements_any _ _ _ _ _ hiu).mono ?_; rw [Hin.out]; rintro e w' ⟨rfl, rfl⟩)
                go_round
                case rel => exact ⟨1, by omega, by go_num, by rw [Hsucc.out]; exact Htk.out⟩
                case measure => simp [intOf]; omega
              · rw [show ad.add (k + 1) = ⟨ad.block, ad.off + (k + 1), none⟩ from rfl] at hcu
                have hprev := Sh.tupOk_len (Sh.range_all_get Hall.out (show k < k + 1 by omega))
                obtain ⟨ad', u', hadeq, hb', hcu', hiu'⟩ := ht1.at_ (show k < len by omega)
                injection hadeq with hadeq
                subst hadeq
                have hcl := Sh.cmpI_less (ts.getD k []) (ts.getD (k + 1) []) (by omega)
                have htk' : Sh.tupOk n arity ts (k + 1) = Sh.lessB (ts.getD k []) (ts.getD (k + 1) []) := by rw [htk, hin, ← hn2]; simp [hla]
                have Htk := Lib.hid htk'; clear htk' htk
                have Hin := Lib.hid hin; clear hin
                have Hn2 := Lib.hid hn2; clear hn2
                have Hla := Lib.hid hla; clear hla
                have Hprev := Lib.hid hprev; clear hprev
                have hbeq : ((n2 : Int) == arity) = true := by rw [Hla.out]; simp
                have hbne : ((n2 : Int) != arity) = false := by rw [Hla.out]; simp
                generalize hci : Sh.cmpI (ts.getD k []) (ts.getD (k + 1) []) = ci at *
                have Hci := Lib.hid hci; clear hci
                by_cases h0 : ci < 0
                · have hl := Hsucc.out.trans (Htk.out.trans (hcl.1 h0))
                  have Hl := Lib.hid hl; clear hl hcl
                  go_wp2_with (first | (go_at_call 38; refine (elements_any _ _ _ _ _ hiu).mono ?_; rw [Hin.out]; rintro e w' ⟨rfl, rfl⟩) | (go_at_call 35; refine (compare_any _ _ _ _ _ _ hiu' hiu).mono ?_; rw [Hci.out]; rintro e w' ⟨rfl, rfl⟩))
                  go_round
                  case rel => exact ⟨k + 1 + 1, by omega, by go_num, Hl.out⟩
                  case measure => simp [intOf]; omega
                · have hl : Sh.lessB (ts.getD k []) (ts.getD (k + 1) []) = false := by
                    cases hb : Sh.lessB (ts.getD k []) (ts.getD (k + 1) [])
                    · rfl
                    · exact absurd (hcl.2 hb) h0
                  have Hf := Lib.hid (Hfa.out (Htk.out.trans hl))
                  clear hl hcl
                  go_wp2_with (first | (go_at_call 38; refine (elements_any _ _ _ _ _ hiu).mono ?_; rw [Hin.out]; rintro e w' ⟨rfl, rfl⟩) | (go_at_call 35; refine (compare_any _ _ _ _ _ _ hiu' hiu).mono ?_; rw [Hci.out]; rintro e w' ⟨rfl, rfl⟩))
                  go_ret
                  exact ⟨ret_bool Hf.out.symm, hbw⟩
          · have Hf := Lib.hid (Hfa.out (by rw [htk, ← hn2, decide_eq_false hla]; simp))
            have Hn2 := Lib.hid hn2; clear hn2
            have hbeq : ((n2 : Int) == arity) = false := by simpa using hla
            have hbne : ((n2 : Int) != arity) = true := by simpa using hla
            clear htk
            go_wp2
            go_ret
            exact ⟨ret_bool Hf.out.symm, hbw⟩
        · obtain rfl : k = len := by omega
          have hfin := Hv.out
          rw [← Hlen.out, hall] at hfin
          have Hfin := Lib.hid hfin; clear hfin hall
          go_wp2
          go_ret
          exact ⟨ret_bool Hfin.out.symm, hbw⟩
  · have hv : Sh.relB n ⟨name, arity, ts⟩ = false := by rw [hdef]; simp [hp2]
    have Hv := Lib.hid hv; clear hv
    have Hd := Lib.hid hdef; clear hdef
    go_enter Tryz.func53, Tryz.ntmps53
    go_wp2_with (go_at_call 49; refine (power_any _ _ _).mono ?_; rw [Hpe.out]; rintro e w' ⟨rfl, rfl⟩)
    go_ret
    exact ⟨ret_bool Hv.out.symm, (Below.refl _ _).alloc (Nat.le_refl _) _⟩

set_option maxRecDepth 100000 in
set_option maxHeartbeats 400000 in
theorem refrel_any (r : Sh.Rel) (v : Value) (n : Nat) (w : World) (B : Nat) (hB : B ≤ w.heap.size) (h : Tups w B v r.tuples) (hs : r.name.size ≤ 140737488351232) (hn1 : 1 ≤ n) (hn2 : n ≤ 64) :
    Calls Tryz.prog 27 #[.int .i64 (n : Int), .agg #[.string r.name, .int .i64 r.arity, v]] w fun e w' => e = .returned (.bool (Sh.relB n r)) ∧ Below w.heap.size w w' := by
  obtain ⟨name, arity, ts⟩ := r
  simp only at h hs ⊢
  have hdef : Sh.relB n ⟨name, arity, ts⟩ = (decide ((Sh.powE n arity).2 = 0) && Sh.nameB name.toList && (List.range ts.length).all (Sh.tupOk n arity ts)) := rfl
  cases hnm : Sh.nameB name.toList
  · have hv : Sh.relB n ⟨name, arity, ts⟩ = false := by rw [hdef, hnm]; simp
    have Hv := Lib.hid hv; clear hv hdef
    have Hnm := Lib.hid hnm; clear hnm
    go_enter Tryz.func27, Tryz.ntmps27
    go_wp2_with (go_at_call 50; refine (refname_any _ _ hs).mono ?_; rw [Hnm.out]; rintro e w' ⟨rfl, rfl⟩)
    go_ret
    exact ⟨ret_bool Hv.out.symm, (Below.refl _ _).alloc (Nat.le_refl _) _⟩
  · have Hnm := Lib.hid hnm
    by_cases h0 : arity < 0
    · have hv : Sh.relB n ⟨name, arity, ts⟩ = false := by rw [hdef, Sh.powE_arg (by omega)]; simp
      have Hv := Lib.hid hv; clear hv hdef hnm
      go_enter Tryz.func27, Tryz.ntmps27
      go_wp2_with (go_at_call 50; refine (refname_any _ _ hs).mono ?_; rw [Hnm.out]; rintro e w' ⟨rfl, rfl⟩)
      go_ret
      exact ⟨ret_bool Hv.out.symm, (Below.refl _ _).alloc (Nat.le_refl _) _⟩
    · by_cases h12 : 12 < arity
      · have hv : Sh.relB n ⟨name, arity, ts⟩ = false := by rw [hdef, Sh.powE_arg (by omega)]; simp
        have Hv := Lib.hid hv; clear hv hdef hnm
        go_enter Tryz.func27, Tryz.ntmps27
        go_wp2_with (go_at_call 50; refine (refname_any _ _ hs).mono ?_; rw [Hnm.out]; rintro e w' ⟨rfl, rfl⟩)
        go_ret
        exact ⟨ret_bool Hv.out.symm, (Below.refl _ _).alloc (Nat.le_refl _) _⟩
      · obtain ⟨a, rfl⟩ := Int.eq_ofNat_of_zero_le (show 0 ≤ arity by omega)
        have hbd := Sh.powR_bd n a hn2
        obtain ⟨e1, e2⟩ := Sh.powR_eq n a hn1
        by_cases hp : n ^ a ≤ 4096
        · have hp' : Sh.powR n a ≤ 4096 := by rw [e1 hp]; exact hp
          have hv : Sh.relB n ⟨name, a, ts⟩ = (List.range ts.length).all (Sh.tupOk n a ts) := by rw [hdef, Sh.powE_ok hn1 hn2 (by omega) hp, hnm]; simp
          have Hv := Lib.hid hv; clear hv hdef hnm e1 e2 hp
          generalize hP : Sh.powR n a = P at *
          have HP := Lib.hid hP; clear hP
          have h' := h
          obtain ⟨A, len, c, rfl, hlen, hmax, -⟩ := h'
          have Hlen := Lib.hid hlen; clear hlen
          go_enter Tryz.func27, Tryz.ntmps27
          go_wp2_with (first
            | (go_at_call 50; refine (refname_any _ _ hs).mono ?_; rw [Hnm.out]; rintro e w' ⟨rfl, rfl⟩)
            | (go_at_call 51; refine (refpow_any _ _ _ hn2 (by omega)).mono ?_; rw [HP.out]; rintro e w' ⟨rfl, rfl⟩))
          have c1 := (Blk.new w 57 #[.string name, .int .i64 a, .slice A len c]).cell 1
          have c2 := (Blk.new w 57 #[.string name, .int .i64 a, .slice A len c]).cell 2
          have ht1 := h.below (((Below.refl _ _).alloc (Nat.le_refl _) (.cells #[.string name, .int .i64 a, .slice A len c] 57)).mono hB)
          have hbw := (Below.refl _ _).alloc (Nat.le_refl w.heap.size) (.cells #[.string name, .int .i64 a, .slice A len c] 57)
          generalize w.alloc (.cells #[.string name, .int .i64 a, .slice A len c] 57) = W at *
          have c1 : W.cell? ⟨w.heap.size, 1, none⟩ = some (.int .i64 a) := c1
          have c2 : W.cell? ⟨w.heap.size, 2, none⟩ = some (.slice A len c) := c2
          go_loopw [5] (fun i wr => ∃ k m : Nat, k ≤ len ∧ i = .int .i64 k ∧ (List.range k).all (Sh.tupOk n a ts) = true ∧ wr = W.drewN m) (fun i _ => len - (intOf i).toNat)
          case atStart => exact ⟨0, 0, Nat.zero_le _, rfl, by simp, rfl⟩
          case round =>
            obtain ⟨k, m, hk, rfl, hall, rfl⟩ := hrel
            by_cases hlt : k < len
            · obtain ⟨ad, u, rfl, hb, hcu, hiu⟩ := ht1.at_ hlt
              have hiu' := hiu
              obtain ⟨A2, n2, c2', rfl, hn2, hm2, -⟩ := hiu'
              have hsucc := Sh.range_all_succ (Sh.tupOk n a ts) k
              rw [hall, Bool.true_and] at hsucc
              have hfalse : Sh.tupOk n a ts k = false → Sh.relB n ⟨name, a, ts⟩ = false := fun hp => by
                rw [Hv.out]; exact Sh.range_all_false _ (by rw [← Hlen.out]; exact hlt) hp
              have htk : Sh.tupOk n a ts k = (decide (((ts.getD k []).length : Int) = a) && Sh.inB n (ts.getD k []) && (decide (k = 0) || Sh.lessB (ts.getD (k - 1) []) (ts.getD k []))) := rfl
              have Hall := Lib.hid hall; clear hall
              have Hsucc := Lib.hid hsucc; clear hsucc
              have Hfa := Lib.hid hfalse; clear hfalse
              by_cases hla : n2 = a
              · have hbne : ((n2 : Int) != (a : Int)) = false := by simp; omega
                cases hin : Sh.inB n (ts.getD k [])
                · have Hf := Lib.hid (Hfa.out (by rw [htk, hin]; simp))
                  have hcin := fun W' (hh : Ints W' B (.slice A2 n2 c2') (ts.getD k [])) => in_any (.slice A2 n2 c2') (ts.getD k []) n W' B hh
                  rw [hin] at hcin
                  have Hcin := Lib.hid hcin; clear hcin
                  clear hin htk hla
                  have Hn2 := Lib.hid hn2; clear hn2
                  go_wp2
                  go_quiet ((go_at_call 28; exact quiet_add_left (Hcin.out _ hiu)))
                  go_wp2
                  go_ret
                  exact ⟨ret_bool Hf.out.symm, by repeat (first | exact hbw | refine below_drewN ?_ _)⟩
                · have hcin := fun W' (hh : Ints W' B (.slice A2 n2 c2') (ts.getD k [])) => in_any (.slice A2 n2 c2') (ts.getD k []) n W' B hh
                  rw [hin] at hcin
                  have Hcin := Lib.hid hcin; clear hcin
                  rcases k with _ | k
                  · rw [show ad.add 0 = ad from rfl] at hcu
                    have htk' : Sh.tupOk n a ts 0 = true := by rw [htk, hin, ← hn2]; simp [hla]
                    have Htk := Lib.hid (Hsucc.out.trans htk'); clear htk' htk hin
                    have Hn2 := Lib.hid hn2; clear hn2
                    clear hla
                    go_wp2
                    go_quiet ((go_at_call 28; exact quiet_add_left (Hcin.out _ hiu)))
                    go_wp2
                    exact ⟨⟨1, _, by omega, by go_num, Htk.out, rfl⟩, by simp [intOf]; omega⟩
                  · rw [show ad.add (k + 1) = ⟨ad.block, ad.off + (k + 1), none⟩ from rfl] at hcu
                    have hprev := Sh.tupOk_len (Sh.range_all_get Hall.out (show k < k + 1 by omega))
                    obtain ⟨ad', u', hadeq, hb', hcu', hiu'⟩ := ht1.at_ (show k < len by omega)
                    injection hadeq with hadeq
                    subst hadeq
                    have htk' : Sh.tupOk n a ts (k + 1) = Sh.lessB (ts.getD k []) (ts.getD (k + 1) []) := by rw [htk, hin, ← hn2]; simp [hla]
                    have hcl := fun W' (h1 : Ints W' B u' (ts.getD k [])) (h2 : Ints W' B (.slice A2 n2 c2') (ts.getD (k + 1) [])) => less_any u' (.slice A2 n2 c2') (ts.getD k []) (ts.getD (k + 1) []) W' B h1 h2 (by omega)
                    clear htk hin
                    have Hn2 := Lib.hid hn2; clear hn2
                    have Hprev := Lib.hid hprev; clear hprev
                    clear hla
                    cases hlb : Sh.lessB (ts.getD k []) (ts.getD (k + 1) [])
                    · rw [hlb] at hcl htk'
                      have Hcl := Lib.hid hcl; clear hcl hlb
                      have Hf := Lib.hid (Hfa.out htk'); clear htk'
                      go_wp2
                      go_quiet (first
                        | (go_at_call 28; exact quiet_add_left (Hcin.out _ hiu))
                        | (go_at_call 52; exact quiet_add (Hcl.out _ hiu' hiu)))
                      go_wp2
                      go_ret
                      exact ⟨ret_bool Hf.out.symm, by repeat (first | exact hbw | refine below_drewN ?_ _)⟩
                    · rw [hlb] at hcl htk'
                      have Hcl := Lib.hid hcl; clear hcl hlb
                      have Htk := Lib.hid (Hsucc.out.trans htk'); clear htk'
                      go_wp2
                      go_quiet (first
                        | (go_at_call 28; exact quiet_add_left (Hcin.out _ hiu))
                        | (go_at_call 52; exact quiet_add (Hcl.out _ hiu' hiu)))
                      go_wp2
                      exact ⟨⟨k + 1 + 1, _, by omega, by go_num, Htk.out, rfl⟩, by simp [intOf]; omega⟩
              · have Hf := Lib.hid (Hfa.out (by rw [htk, ← hn2, decide_eq_false (by omega)]; simp))
                have Hn2 := Lib.hid hn2; clear hn2
                have hbne : ((n2 : Int) != (a : Int)) = true := by simp; omega
                clear htk
                go_wp2
                go_quiet (fail)
                go_wp2
                go_ret
                exact ⟨ret_bool Hf.out.symm, below_drewN (below_drewN hbw _) _⟩
            · obtain rfl : k = len := by omega
              have hfin := Hv.out
              rw [← Hlen.out, hall] at hfin
              have Hfin := Lib.hid hfin; clear hfin hall
              go_wp2
              go_ret
              exact ⟨ret_bool Hfin.out.symm, below_drewN hbw _⟩
        · have hp' : 4096 < Sh.powR n a := e2 (by omega)
          have hv : Sh.relB n ⟨name, a, ts⟩ = false := by rw [hdef, Sh.powE_size hn1 hn2 (by omega) (by omega)]; simp
          have Hv := Lib.hid hv; clear hv hdef hnm e1 e2 hp
          generalize hP : Sh.powR n a = P at *
          have HP := Lib.hid hP; clear hP
          go_enter Tryz.func27, Tryz.ntmps27
          go_wp2_with (first
            | (go_at_call 50; refine (refname_any _ _ hs).mono ?_; rw [Hnm.out]; rintro e w' ⟨rfl, rfl⟩)
            | (go_at_call 51; refine (refpow_any _ _ _ hn2 (by omega)).mono ?_; rw [HP.out]; rintro e w' ⟨rfl, rfl⟩))
          go_ret
          exact ⟨ret_bool Hv.out.symm, (Below.refl _ _).alloc (Nat.le_refl _) _⟩

end Go.Proofs.YtelememdhpncgaaGreatDoor
