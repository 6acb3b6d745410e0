/-
  Walks: the reader's method structure.
-/
import Derived.Test.YtbddchonhicpiaaDoorRelat
namespace Go.Proofs.YtbddchonhicpiaaDoor
open Go.RowKit

/-- What structure leaves. -/
def StrPost (R n : Nat) (text : ByteArray) (w : World) (e : Ending) (w' : World) : Prop :=
  w.grownBy w' (some R) ∧ match strP (text.toList.drop n) with
    | some s => ∃ u, e = .returned (.agg #[.int .i64 s.size, u]) ∧ NRels w' w.heap.size u s.rels
    | none => e = .panicked errChain
theorem StrPost.bad {R n : Nat} {text : ByteArray} {w w' : World} (ht : strP (text.toList.drop n) = none) (hg : w.grownBy w' (some R)) : StrPost R n text w (.panicked errChain) w' :=
  ⟨hg, by rw [ht]⟩
theorem StrPost.ok {R n : Nat} {text : ByteArray} {w w' : World} {u : Value} {s : Sh.Str} (ht : strP (text.toList.drop n) = some s) (hg : w.grownBy w' (some R))
    (h1 : NRels w' w.heap.size u s.rels) : StrPost R n text w (.returned (.agg #[.int .i64 s.size, u])) w' :=
  ⟨hg, by rw [ht]; exact ⟨u, rfl, h1⟩⟩

set_option maxRecDepth 100000 in
set_option maxHeartbeats 400000 in
theorem structure_any (R n : Nat) (text : ByteArray) (w : World) (hr : Rdr w R text n) (hn : n ≤ text.size) (hs : text.size ≤ 100000) (hv : Vars w) (hR : 5 ≤ R) (hw : 5 ≤ w.heap.size) (hRw : R < w.heap.size) :
    Calls Tryd.prog 82 #[.pointer (some ⟨R, 0, none⟩)] w (StrPost R n text w) := by
  have hcall1 := fun W (h1 : Rdr W R text n) (h2 : Vars W) (h3 : 5 ≤ W.heap.size) => number_any R n text W h1 hn hs h2 hR h3
  cases hnp : numP (text.toList.drop n) with
  | none =>
    rw [hnp] at hcall1
    have hbad := strP_bad hnp
    have Hcall1 := Lib.hid hcall1; clear hcall1
    have Hbad := Lib.hid hbad; clear hbad hnp
    go_enter Tryd.func82, Tryd.ntmps82
    go_wp2_with (go_at_call 97; refine (Hcall1.out _ (Blk.alloc hr _) (hv.grown (World.grownBy_alloc _ _ _) hR hw) (by simp; omega)).mono ?_; rintro e w1 ⟨hg1, rfl⟩)
    exact ⟨rfl, StrPost.bad Hbad.out (grownBy_trans (World.grownBy_alloc _ _ _) hg1)⟩
  | some sz =>
    rw [hnp] at hcall1
    have hmore := strP_more hnp
    have hdr : digRun (text.toList.drop n) = runLen Sh.digitB text n := rfl
    have hn1 := runLen_le Sh.digitB text n hn
    rw [hdr] at hmore
    generalize runLen Sh.digitB text n = L1 at *
    rw [List.drop_drop] at hmore
    have Hcall1 := Lib.hid hcall1; clear hcall1
    have Hmore := Lib.hid hmore; clear hmore hnp hdr
    go_enter Tryd.func82, Tryd.ntmps82
    go_wp2_with (go_at_call 97
                 refine (Hcall1.out _ (Blk.alloc hr _) (hv.grown (World.grownBy_alloc _ _ _) hR hw) (by simp; omega)).mono ?_
                 rintro e w4 ⟨hg1, rfl, hr4⟩
                 have hz4 := (Blk.new w 24 #[.int .i64 0, .slice none 0 0]).grown hg1 (by simp; omega))
    have hlt4 := hz4.lt
    have hsz4 := hg1.size
    have hg04 : w.grownBy w4 (some R) := grownBy_trans (World.grownBy_alloc _ _ _) hg1
    have hsz04 := hg04.size
    have hr5 : Rdr (w4.alloc (.cells #[.int .i64 sz, .slice none 0 0] 24)) R text (n + L1) := Blk.alloc hr4 _
    have hz5 : Blk (w4.alloc (.cells #[.int .i64 sz, .slice none 0 0] 24)) w.heap.size 24 #[.int .i64 0, .slice none 0 0] := Blk.alloc hz4 _
    have hb5 : Blk (w4.alloc (.cells #[.int .i64 sz, .slice none 0 0] 24)) w4.heap.size 24 #[.int .i64 sz, .slice none 0 0] := Blk.new _ _ _
    have hbut5 : But w.heap.size R w (w4.alloc (.cells #[.int .i64 sz, .slice none 0 0] 24)) := (But.of_grown hg04 (Nat.le_refl _)).trans (But.alloc (by omega) _)
    generalize (w4.alloc (.cells #[.int .i64 sz, .slice none 0 0] 24)) = w5 at *
    clear hr4 hg1 hz4 hg04
    have hB1 : w4.heap.size < w5.heap.size := hb5.lt
    generalize w4.heap.size = B1 at *
    go_loopg [] text.size (fun gg wr => ∃ (k : Nat) (tv : Value) (xs us : List Value) (rs : List Sh.Rel), k ≤ text.size ∧ text.size - k ≤ gg ∧ rs.length ≤ k ∧ Rdr wr R text k ∧
      Blk wr w.heap.size 24 #[.int .i64 0, .slice none 0 0] ∧ Blk wr B1 24 #[.int .i64 sz, tv] ∧
      wr.ownsRow (B1 + 1) 51 3 tv rs.length xs ∧ RCells xs us rs ∧ RElems wr (B1 + 1) us rs ∧ But w.heap.size R w wr ∧
      strP (text.toList.drop n) = (relsP (text.toList.drop k)).map fun q => ⟨sz, rs ++ q⟩)
    case atStart => exact ⟨n + L1, .slice none 0 0, [], [], [], hn1, by omega, by simp, hr5, hz5, hb5, World.ownsRow_nil _ _ _ _, RCells.nil, (fun j u t h => by simp at h), hbut5, by rw [Hmore.out]; simp⟩
    case round =>
      obtain ⟨k, tv, xs, us, rs, hk, hgg, huk, hrk, hzk, hbk, hown, hrc, hel, hbut, heq⟩ := hrel
      have Heq := Lib.hid heq; clear heq
      have Hown := Lib.hid hown; clear hown
      have Hrc := Lib.hid hrc; clear hrc
      obtain ⟨TA, TC, rfl⟩ := own_slice Hown.out
      have hszk := hbut.size
      have c0 := hrk.c0
      have c1 := hrk.c1
      by_cases hlt : k < text.size
      · have hne : text.toList.drop k ≠ [] := fun e => by
          have := congrArg List.length e
          rw [List.length_drop, length_bytes] at this
          simp at this; omega
        have hrelc := fun W (h1 : Rdr W R text k) (h2 : Vars W) (h3 : 5 ≤ W.heap.size) (h4 : R < W.heap.size) => relation_any R k text W h1 hk hs h2 hR h3 h4
        cases htp : relP (text.toList.drop k) with
        | none =>
          have hst := relsP_bad hne htp
          have hcall : ∀ W, Rdr W R text k → Vars W → 5 ≤ W.heap.size → R < W.heap.size → Calls Tryd.prog 98 #[.pointer (some ⟨R, 0, none⟩)] W fun e w' => e = .panicked errChain ∧ W.grownBy w' (some R) := fun W h1 h2 h3 h4 =>
            (hrelc W h1 h2 h3 h4).mono fun e w' ⟨hg, hm⟩ => ⟨by rw [htp] at hm; exact hm, hg⟩
          have Hcall := Lib.hid hcall; clear hcall hrelc
          have Hst := Lib.hid hst; clear hst htp hne
          go_wp2
          go_quiet (fail)
          go_wp2_with fail
          have hr6 : Rdr (wr.drewN nq) R text k := hrk.drewN nq
          have hb6 : Blk (wr.drewN nq) B1 24 #[.int .i64 sz, .slice TA rs.length TC] := hbk.drewN nq
          have hz6 : Blk (wr.drewN nq) w.heap.size 24 #[.int .i64 0, .slice none 0 0] := hzk.drewN nq
          have hg6 : wr.grownBy (wr.drewN nq) (some R) := grownBy_drewN _ _ _
          generalize wr.drewN nq = w6 at *
          have hbc2 : w6.cell? ⟨B1, 1, none⟩ = some (.slice TA rs.length TC) := hb6.cell 1
          have hs6 := hg6.size
          have hg06 : w.grownBy w6 (some R) := (hbut.trans (But.of_grown hg6 hszk)).grown
          have hv6 := (hv.grown hg06 hR hw).drew
          have hr6' : Rdr w6.drew R text k := Blk.drew hr6
          clear c0 c1
          refine wp_region_held_drew (S := fun w' => w'.cell? ⟨B1, 1, none⟩ = some (.slice TA rs.length TC)) (by kernel_rfl) hbc2 (fun hHeld => ?_)
          refine wpAnyH_take (i := 0) (v := .pointer (some ⟨B1, 1, none⟩)) rfl (by kernel_rfl) (by kernel_rfl) (by kernel_rfl) (fun _ _ _ h => h) (Or.inl ⟨by rfl, ?_⟩) (by assumption) ?_
          · intro w' hSw
            go_simp
          try simp only [Act.put, List.setIfInBounds_toArray, List.set_cons_zero, List.set_cons_succ]
          refine wpAnyH_take (i := 1) (v := .slice TA rs.length TC) rfl (by kernel_rfl) (by kernel_rfl) (by kernel_rfl) (fun _ _ _ h => h) (Or.inl ⟨by rfl, ?_⟩) (by assumption) ?_
          · intro w' hSw
            go_simp
          try simp only [Act.put, List.setIfInBounds_toArray, List.set_cons_zero, List.set_cons_succ]
          refine wpAnyH_take (i := 2) (v := .pointer (some ⟨R, 0, none⟩)) rfl (by kernel_rfl) (by kernel_rfl) (by kernel_rfl) (fun _ _ _ h => h) (Or.inl ⟨by rfl, ?_⟩) (by assumption) ?_
          · intro w' hSw
            go_simp
          try simp only [Act.put, List.setIfInBounds_toArray, List.set_cons_zero, List.set_cons_succ]
          refine wpAnyH_ready (rs := [3]) (by kernel_rfl) (by simp) ?_
          refine AllReadyH.cons rfl (fun K hK => ?_) AllReadyH.nil
          go_simp
          refine (Hcall.out _ hr6' hv6 (by simp; omega) (by simp; omega)).mono ?_
          rintro e w7 ⟨rfl, hg7⟩
          exact ⟨rfl, StrPost.bad (by rw [Heq.out, Hst.out]; rfl) (grownBy_trans hg06 (grownBy_trans (grownBy_drewN w6 1 _) hg7))⟩
        | some p =>
          have hst := relsP_more hne htp
          have hplen := relP_len htp
          rw [List.length_drop, length_bytes] at hplen
          have hcall : ∀ W, Rdr W R text k → Vars W → 5 ≤ W.heap.size → R < W.heap.size → Calls Tryd.prog 98 #[.pointer (some ⟨R, 0, none⟩)] W fun e w' => ∃ u n', e = .returned (.agg #[.string p.1.name, .int .i64 p.1.arity, u]) ∧ NTups w' W.heap.size u p.1.tuples ∧ p.1.name.size ≤ 100000 ∧ n' ≤ text.size ∧ text.toList.drop n' = p.2 ∧ Rdr w' R text n' ∧ W.grownBy w' (some R) := fun W h1 h2 h3 h4 =>
            (hrelc W h1 h2 h3 h4).mono fun e w' ⟨hg, hm⟩ => by
              rw [htp] at hm
              obtain ⟨v, n', h1, h2, h3, h4, h5, h6⟩ := hm
              exact ⟨v, n', h1, h2, h3, h4, h5, h6, hg⟩
          have Hcall := Lib.hid hcall; clear hcall hrelc
          have Hst := Lib.hid hst; clear hst htp hne
          go_wp2
          go_quiet (fail)
          go_wp2_with fail
          have hr6 : Rdr (wr.drewN nq) R text k := hrk.drewN nq
          have hb6 : Blk (wr.drewN nq) B1 24 #[.int .i64 sz, .slice TA rs.length TC] := hbk.drewN nq
          have hz6 : Blk (wr.drewN nq) w.heap.size 24 #[.int .i64 0, .slice none 0 0] := hzk.drewN nq
          have hg6 : wr.grownBy (wr.drewN nq) (some R) := grownBy_drewN _ _ _
          generalize wr.drewN nq = w6 at *
          have hbc2 : w6.cell? ⟨B1, 1, none⟩ = some (.slice TA rs.length TC) := hb6.cell 1
          have hs6 := hg6.size
          have hg06 : w.grownBy w6 (some R) := (hbut.trans (But.of_grown hg6 hszk)).grown
          have hv6 := (hv.grown hg06 hR hw).drew
          have hr6' : Rdr w6.drew R text k := Blk.drew hr6
          clear c0 c1
          have hown6 := own_grown Hown.out hg6 (by omega)
          have hown6d : w6.drew.ownsRow (B1 + 1) 51 3 (.slice TA rs.length TC) rs.length xs := hown6
          have hbk1 := hbk.lt
          have hbc2d : w6.drew.cell? ⟨B1, 1, none⟩ = some (.slice TA rs.length TC) := hbc2
          refine wp_region_any (by kernel_rfl) ?_
          change wpAny _ _ _ _ _ _ _ (World.drew _)
          refine wpAny_take (i := 0) (v := .pointer (some ⟨B1, 1, none⟩)) rfl (by kernel_rfl) (by kernel_rfl) (by kernel_rfl) (fun _ _ _ h => h) (Or.inl ⟨by rfl, ?_⟩) ?_
          · intro w'
            go_simp
          try simp only [Act.put, List.setIfInBounds_toArray, List.set_cons_zero, List.set_cons_succ]
          refine wpAny_take (i := 2) (v := .pointer (some ⟨R, 0, none⟩)) rfl (by kernel_rfl) (by kernel_rfl) (by kernel_rfl) (fun _ _ _ h => h) (Or.inl ⟨by rfl, ?_⟩) ?_
          · intro w'
            go_simp
          try simp only [Act.put, List.setIfInBounds_toArray, List.set_cons_zero, List.set_cons_succ]
          refine wpAny_ready (rs := [1, 3]) (by kernel_rfl) (by simp) ?_
          refine AllReady.cons rfl (fun K hK => ?_) (AllReady.cons rfl (fun K hK => ?_) AllReady.nil)
          · skip
            go_simp
            refine hK _ _ ?_
            clear hK K
            try simp only [Act.put, List.setIfInBounds_toArray, List.set_cons_zero, List.set_cons_succ]
            refine wpAny_ready (rs := [3]) (by kernel_rfl) (by simp) ?_
            refine AllReady.cons rfl (fun K hK => ?_) AllReady.nil
            go_simp
            refine (Hcall.out _ hr6' hv6 (by simp; omega) (by simp; omega)).mono ?_
            rintro e w7 ⟨tu, n', rfl, hnt, hnz, hn', hrest, hr7, hg7⟩
            have hnt' := hnt
            obtain ⟨UA, UN, UC, rfl, -, -, -⟩ := hnt'
            have hrl : text.size - n' = p.2.length := by rw [← hrest, List.length_drop, length_bytes]
            have hs7 : w6.heap.size ≤ w7.heap.size := hg7.size
            have hb7 := Blk.grown (Blk.drew hb6) hg7 (by simp; omega)
            have hbc7 : w7.cell? ⟨B1, 1, none⟩ = some (.slice TA rs.length TC) := hb7.cell 1
            have hbc7' : (w7.alloc (.cells #[.string p.1.name, .int .i64 p.1.arity, .slice UA UN UC] 51)).cell? ⟨B1, 1, none⟩ = some (.slice TA rs.length TC) := (Blk.alloc hb7 _).cell 1
            refine hK _ _ ?_
            clear hK K
            try simp only [Act.put, List.setIfInBounds_toArray, List.set_cons_zero, List.set_cons_succ]
            refine wpAny_ready (rs := [4]) (by kernel_rfl) (by simp) ?_
            refine AllReady.cons rfl (fun K hK => ?_) AllReady.nil
            go_simp
            refine hK _ _ ?_
            clear hK K
            try simp only [Act.put, List.setIfInBounds_toArray, List.set_cons_zero, List.set_cons_succ]
            refine wpAny_ready (rs := [5]) (by kernel_rfl) (by simp) ?_
            refine AllReady.cons rfl (fun K hK => ?_) AllReady.nil
            have hown7 : (w7.alloc (.cells #[.string p.1.name, .int .i64 p.1.arity, .slice UA UN UC] 51)).ownsRow (B1 + 1) 51 3 (.slice TA rs.length TC) rs.length xs := World.ownsRow.alloc (own_grown hown6d hg7 (by omega)) _
            refine step_append_rel _ rfl _ _ rfl (B1 + 1) _ rs.length xs rfl hown7 w7.heap.size 1 _ _ _ rfl (Blk.new w7 51 #[.string p.1.name, .int .i64 p.1.arity, .slice UA UN UC]) rfl rfl rfl (by omega) (by simp; omega) ?_
            intro v8 w8 hown8 hg8
            obtain ⟨VA, VC, rfl⟩ := own_slice hown8
            have hb8 : Blk w8 B1 24 #[.int .i64 sz, .slice TA rs.length TC] := Blk.grown (Blk.alloc hb7 _) hg8 (fun e => by have := (hown7.lt B1 e.symm).1; omega)
            have hbc8 : w8.cell? ⟨B1, 1, none⟩ = some (.slice TA rs.length TC) := hb8.cell 1
            have hbf8 := hb8.frozen 1
            refine hK _ _ ?_
            clear hK K
            try simp only [Act.put, List.setIfInBounds_toArray, List.set_cons_zero, List.set_cons_succ]
            refine wpAny_ready (rs := [6]) (by kernel_rfl) (by simp) ?_
            refine AllReady.cons rfl (fun K hK => ?_) AllReady.nil
            go_simp
            refine hK _ _ ?_
            clear hK K
            try simp only [Act.put, List.setIfInBounds_toArray, List.set_cons_zero, List.set_cons_succ]
            refine wpAny_ready (rs := [7]) (by kernel_rfl) (by simp) ?_
            refine AllReady.cons rfl (fun K hK => ?_) AllReady.nil
            go_simp
            refine hK _ _ ?_
            clear hK K
            try simp only [Act.put, List.setIfInBounds_toArray, List.set_cons_zero, List.set_cons_succ]
            refine wpAny_done (by kernel_rfl) ?_ _
            go_wp2
            go_roundg (text.size - n')
            case measure => omega
            case rel =>
              have hg8' : (w7.alloc (.cells #[.string p.1.name, .int .i64 p.1.arity, .slice UA UN UC] 51)).grownBy w8 (Value.slice TA rs.length TC).ownBlock := hg8
              have hb7b : ∀ g, (Value.slice TA rs.length TC).ownBlock = some g → B1 + 1 ≤ g := fun g e => (hown7.lt g e).1
              refine ⟨n', .slice VA (rs.length + 1) VC, xs ++ [.string p.1.name, .int .i64 p.1.arity, .slice UA UN UC], us ++ [.slice UA UN UC], rs ++ [p.1], hn', Nat.le_refl _, by simp; omega, ?_, ?_, ?_, ?_, Hrc.out.snoc _ _, ?_, ?_, ?_⟩
              · exact Blk.far (Blk.grown (Blk.alloc hr7 _) hg8' (fun e => by have := hb7b R e.symm; omega)) (by simp; omega) _
              · exact Blk.far (Blk.grown (Blk.alloc (Blk.grown (Blk.drew hz6) hg7 (by simp; omega)) _) hg8' (fun e => by have := hb7b _ e.symm; omega)) (by simp; omega) _
              · exact hb8.set_ 1 _
              · have h9 := hown8.kept (row := some B1) (w' := w8.setCell ⟨B1, 1, none⟩ (.slice VA (rs.length + 1) VC)) ⟨rfl, rfl, rfl, by simp [World.setCell], fun i hi hne => Below.heap_setCell _ _ _ _ (fun e => hne (by rw [e]))⟩ (by
                  cases ho : (Value.slice VA (rs.length + 1) VC).ownBlock with
                  | none => exact .inl rfl
                  | some g => exact .inr (fun e => by injection e with e; have := (hown8.lt g ho).1; omega))
                simpa using h9
              · have hk7 : Keeps (B1 + 1) [3, 35] w7 (w8.setCell ⟨B1, 1, none⟩ (.slice VA (rs.length + 1) VC)) :=
                  (Keeps.alloc _ _ _ _).trans ((Keeps.own hg8' hown7 (by decide)).trans (Keeps.setCell (p := ⟨B1, 1, none⟩) hb8 (by decide) _))
                exact RElems.snoc ((hel.keep ((Keeps.of_grown hg6 (by omega)).trans ((Keeps.drewN _ _ w6 1).trans (Keeps.of_grown hg7 (by omega))))).keep hk7) Hrc.out.2.1 ((hnt.more (by simp; omega)).keep hk7) (by omega)
              · exact (But.of_grown hg06 (Nat.le_refl _)).trans ((But.drewN 1).trans ((But.of_grown hg7 (by simp; omega)).trans ((But.alloc (by omega) _).trans ((But.row hg8' (by simp; omega) (fun g e => by have := hb7b g e; omega)).trans (But.setL (p := ⟨B1, 1, none⟩) (by simp; omega) _)))))
              · rw [Heq.out, Hst.out, hrest, Option.map_map]
                congr 1
                funext q
                simp
          · skip
            go_simp
            refine (Hcall.out _ hr6' hv6 (by simp; omega) (by simp; omega)).mono ?_
            rintro e w7 ⟨tu, n', rfl, hnt, hnz, hn', hrest, hr7, hg7⟩
            have hnt' := hnt
            obtain ⟨UA, UN, UC, rfl, -, -, -⟩ := hnt'
            have hrl : text.size - n' = p.2.length := by rw [← hrest, List.length_drop, length_bytes]
            have hs7 : w6.heap.size ≤ w7.heap.size := hg7.size
            have hb7 := Blk.grown (Blk.drew hb6) hg7 (by simp; omega)
            have hbc7 : w7.cell? ⟨B1, 1, none⟩ = some (.slice TA rs.length TC) := hb7.cell 1
            have hbc7' : (w7.alloc (.cells #[.string p.1.name, .int .i64 p.1.arity, .slice UA UN UC] 51)).cell? ⟨B1, 1, none⟩ = some (.slice TA rs.length TC) := (Blk.alloc hb7 _).cell 1
            refine hK _ _ ?_
            clear hK K
            try simp only [Act.put, List.setIfInBounds_toArray, List.set_cons_zero, List.set_cons_succ]
            refine wpAny_ready (rs := [1, 4]) (by kernel_rfl) (by simp) ?_
            refine AllReady.cons rfl (fun K hK => ?_) (AllReady.cons rfl (fun K hK => ?_) AllReady.nil)
            · skip
              go_simp
              refine hK _ _ ?_
              clear hK K
              try simp only [Act.put, List.setIfInBounds_toArray, List.set_cons_zero, List.set_cons_succ]
              refine wpAny_ready (rs := [4]) (by kernel_rfl) (by simp) ?_
              refine AllReady.cons rfl (fun K hK => ?_) AllReady.nil
              go_simp
              refine hK _ _ ?_
              clear hK K
              try simp only [Act.put, List.setIfInBounds_toArray, List.set_cons_zero, List.set_cons_succ]
              refine wpAny_ready (rs := [5]) (by kernel_rfl) (by simp) ?_
              refine AllReady.cons rfl (fun K hK => ?_) AllReady.nil
              have hown7 : (w7.alloc (.cells #[.string p.1.name, .int .i64 p.1.arity, .slice UA UN UC] 51)).ownsRow (B1 + 1) 51 3 (.slice TA rs.length TC) rs.length xs := World.ownsRow.alloc (own_grown hown6d hg7 (by omega)) _
              refine step_append_rel _ rfl _ _ rfl (B1 + 1) _ rs.length xs rfl hown7 w7.heap.size 1 _ _ _ rfl (Blk.new w7 51 #[.string p.1.name, .int .i64 p.1.arity, .slice UA UN UC]) rfl rfl rfl (by omega) (by simp; omega) ?_
              intro v8 w8 hown8 hg8
              obtain ⟨VA, VC, rfl⟩ := own_slice hown8
              have hb8 : Blk w8 B1 24 #[.int .i64 sz, .slice TA rs.length TC] := Blk.grown (Blk.alloc hb7 _) hg8 (fun e => by have := (hown7.lt B1 e.symm).1; omega)
              have hbc8 : w8.cell? ⟨B1, 1, none⟩ = some (.slice TA rs.length TC) := hb8.cell 1
              have hbf8 := hb8.frozen 1
              refine hK _ _ ?_
              clear hK K
              try simp only [Act.put, List.setIfInBounds_toArray, List.set_cons_zero, List.set_cons_succ]
              refine wpAny_ready (rs := [6]) (by kernel_rfl) (by simp) ?_
              refine AllReady.cons rfl (fun K hK => ?_) AllReady.nil
              go_simp
              refine hK _ _ ?_
              clear hK K
              try simp only [Act.put, List.setIfInBounds_toArray, List.set_cons_zero, List.set_cons_succ]
              refine wpAny_ready (rs := [7]) (by kernel_rfl) (by simp) ?_
              refine AllReady.cons rfl (fun K hK => ?_) AllReady.nil
              go_simp
              refine hK _ _ ?_
              clear hK K
              try simp only [Act.put, List.setIfInBounds_toArray, List.set_cons_zero, List.set_cons_succ]
              refine wpAny_done (by kernel_rfl) ?_ _
              go_wp2
              go_roundg (text.size - n')
              case measure => omega
              case rel =>
                have hg8' : (w7.alloc (.cells #[.string p.1.name, .int .i64 p.1.arity, .slice UA UN UC] 51)).grownBy w8 (Value.slice TA rs.length TC).ownBlock := hg8
                have hb7b : ∀ g, (Value.slice TA rs.length TC).ownBlock = some g → B1 + 1 ≤ g := fun g e => (hown7.lt g e).1
                refine ⟨n', .slice VA (rs.length + 1) VC, xs ++ [.string p.1.name, .int .i64 p.1.arity, .slice UA UN UC], us ++ [.slice UA UN UC], rs ++ [p.1], hn', Nat.le_refl _, by simp; omega, ?_, ?_, ?_, ?_, Hrc.out.snoc _ _, ?_, ?_, ?_⟩
                · exact Blk.far (Blk.grown (Blk.alloc hr7 _) hg8' (fun e => by have := hb7b R e.symm; omega)) (by simp; omega) _
                · exact Blk.far (Blk.grown (Blk.alloc (Blk.grown (Blk.drew hz6) hg7 (by simp; omega)) _) hg8' (fun e => by have := hb7b _ e.symm; omega)) (by simp; omega) _
                · exact hb8.set_ 1 _
                · have h9 := hown8.kept (row := some B1) (w' := w8.setCell ⟨B1, 1, none⟩ (.slice VA (rs.length + 1) VC)) ⟨rfl, rfl, rfl, by simp [World.setCell], fun i hi hne => Below.heap_setCell _ _ _ _ (fun e => hne (by rw [e]))⟩ (by
                    cases ho : (Value.slice VA (rs.length + 1) VC).ownBlock with
                    | none => exact .inl rfl
                    | some g => exact .inr (fun e => by injection e with e; have := (hown8.lt g ho).1; omega))
                  simpa using h9
                · have hk7 : Keeps (B1 + 1) [3, 35] w7 (w8.setCell ⟨B1, 1, none⟩ (.slice VA (rs.length + 1) VC)) :=
                    (Keeps.alloc _ _ _ _).trans ((Keeps.own hg8' hown7 (by decide)).trans (Keeps.setCell (p := ⟨B1, 1, none⟩) hb8 (by decide) _))
                  exact RElems.snoc ((hel.keep ((Keeps.of_grown hg6 (by omega)).trans ((Keeps.drewN _ _ w6 1).trans (Keeps.of_grown hg7 (by omega))))).keep hk7) Hrc.out.2.1 ((hnt.more (by simp; omega)).keep hk7) (by omega)
                · exact (But.of_grown hg06 (Nat.le_refl _)).trans ((But.drewN 1).trans ((But.of_grown hg7 (by simp; omega)).trans ((But.alloc (by omega) _).trans ((But.row hg8' (by simp; omega) (fun g e => by have := hb7b g e; omega)).trans (But.setL (p := ⟨B1, 1, none⟩) (by simp; omega) _)))))
                · rw [Heq.out, Hst.out, hrest, Option.map_map]
                  congr 1
                  funext q
                  simp
            · skip
              go_simp
              refine hK _ _ ?_
              clear hK K
              try simp only [Act.put, List.setIfInBounds_toArray, List.set_cons_zero, List.set_cons_succ]
              refine wpAny_ready (rs := [1]) (by kernel_rfl) (by simp) ?_
              refine AllReady.cons rfl (fun K hK => ?_) AllReady.nil
              go_simp
              refine hK _ _ ?_
              clear hK K
              try simp only [Act.put, List.setIfInBounds_toArray, List.set_cons_zero, List.set_cons_succ]
              refine wpAny_ready (rs := [5]) (by kernel_rfl) (by simp) ?_
              refine AllReady.cons rfl (fun K hK => ?_) AllReady.nil
              have hown7 : (w7.alloc (.cells #[.string p.1.name, .int .i64 p.1.arity, .slice UA UN UC] 51)).ownsRow (B1 + 1) 51 3 (.slice TA rs.length TC) rs.length xs := World.ownsRow.alloc (own_grown hown6d hg7 (by omega)) _
              refine step_append_rel _ rfl _ _ rfl (B1 + 1) _ rs.length xs rfl hown7 w7.heap.size 1 _ _ _ rfl (Blk.new w7 51 #[.string p.1.name, .int .i64 p.1.arity, .slice UA UN UC]) rfl rfl rfl (by omega) (by simp; omega) ?_
              intro v8 w8 hown8 hg8
              obtain ⟨VA, VC, rfl⟩ := own_slice hown8
              have hb8 : Blk w8 B1 24 #[.int .i64 sz, .slice TA rs.length TC] := Blk.grown (Blk.alloc hb7 _) hg8 (fun e => by have := (hown7.lt B1 e.symm).1; omega)
              have hbc8 : w8.cell? ⟨B1, 1, none⟩ = some (.slice TA rs.length TC) := hb8.cell 1
              have hbf8 := hb8.frozen 1
              refine hK _ _ ?_
              clear hK K
              try simp only [Act.put, List.setIfInBounds_toArray, List.set_cons_zero, List.set_cons_succ]
              refine wpAny_ready (rs := [6]) (by kernel_rfl) (by simp) ?_
              refine AllReady.cons rfl (fun K hK => ?_) AllReady.nil
              go_simp
              refine hK _ _ ?_
              clear hK K
              try simp only [Act.put, List.setIfInBounds_toArray, List.set_cons_zero, List.set_cons_succ]
              refine wpAny_ready (rs := [7]) (by kernel_rfl) (by simp) ?_
              refine AllReady.cons rfl (fun K hK => ?_) AllReady.nil
              go_simp
              refine hK _ _ ?_
              clear hK K
              try simp only [Act.put, List.setIfInBounds_toArray, List.set_cons_zero, List.set_cons_succ]
              refine wpAny_done (by kernel_rfl) ?_ _
              go_wp2
              go_roundg (text.size - n')
              case measure => omega
              case rel =>
                have hg8' : (w7.alloc (.cells #[.string p.1.name, .int .i64 p.1.arity, .slice UA UN UC] 51)).grownBy w8 (Value.slice TA rs.length TC).ownBlock := hg8
                have hb7b : ∀ g, (Value.slice TA rs.length TC).ownBlock = some g → B1 + 1 ≤ g := fun g e => (hown7.lt g e).1
                refine ⟨n', .slice VA (rs.length + 1) VC, xs ++ [.string p.1.name, .int .i64 p.1.arity, .slice UA UN UC], us ++ [.slice UA UN UC], rs ++ [p.1], hn', Nat.le_refl _, by simp; omega, ?_, ?_, ?_, ?_, Hrc.out.snoc _ _, ?_, ?_, ?_⟩
                · exact Blk.far (Blk.grown (Blk.alloc hr7 _) hg8' (fun e => by have := hb7b R e.symm; omega)) (by simp; omega) _
                · exact Blk.far (Blk.grown (Blk.alloc (Blk.grown (Blk.drew hz6) hg7 (by simp; omega)) _) hg8' (fun e => by have := hb7b _ e.symm; omega)) (by simp; omega) _
                · exact hb8.set_ 1 _
                · have h9 := hown8.kept (row := some B1) (w' := w8.setCell ⟨B1, 1, none⟩ (.slice VA (rs.length + 1) VC)) ⟨rfl, rfl, rfl, by simp [World.setCell], fun i hi hne => Below.heap_setCell _ _ _ _ (fun e => hne (by rw [e]))⟩ (by
                    cases ho : (Value.slice VA (rs.length + 1) VC).ownBlock with
                    | none => exact .inl rfl
                    | some g => exact .inr (fun e => by injection e with e; have := (hown8.lt g ho).1; omega))
                  simpa using h9
                · have hk7 : Keeps (B1 + 1) [3, 35] w7 (w8.setCell ⟨B1, 1, none⟩ (.slice VA (rs.length + 1) VC)) :=
                    (Keeps.alloc _ _ _ _).trans ((Keeps.own hg8' hown7 (by decide)).trans (Keeps.setCell (p := ⟨B1, 1, none⟩) hb8 (by decide) _))
                  exact RElems.snoc ((hel.keep ((Keeps.of_grown hg6 (by omega)).trans ((Keeps.drewN _ _ w6 1).trans (Keeps.of_grown hg7 (by omega))))).keep hk7) Hrc.out.2.1 ((hnt.more (by simp; omega)).keep hk7) (by omega)
                · exact (But.of_grown hg06 (Nat.le_refl _)).trans ((But.drewN 1).trans ((But.of_grown hg7 (by simp; omega)).trans ((But.alloc (by omega) _).trans ((But.row hg8' (by simp; omega) (fun g e => by have := hb7b g e; omega)).trans (But.setL (p := ⟨B1, 1, none⟩) (by simp; omega) _)))))
                · rw [Heq.out, Hst.out, hrest, Option.map_map]
                  congr 1
                  funext q
                  simp
      · skip
        obtain rfl : k = text.size := by omega
        have hst : relsP (text.toList.drop text.size) = some [] := by rw [List.drop_of_length_le (by rw [length_bytes]; exact Nat.le_refl _)]; exact relsP_nil
        have Hst := Lib.hid hst; clear hst
        go_wp2
        go_quiet (fail)
        have hr6 : Rdr (wr.drewN nq) R text text.size := hrk.drewN nq
        have hb6 : Blk (wr.drewN nq) B1 24 #[.int .i64 sz, .slice TA rs.length TC] := hbk.drewN nq
        have hz6 : Blk (wr.drewN nq) w.heap.size 24 #[.int .i64 0, .slice none 0 0] := hzk.drewN nq
        have hg6 : wr.grownBy (wr.drewN nq) (some R) := grownBy_drewN _ _ _
        generalize wr.drewN nq = w6 at *
        have hzc0 : w6.cell? ⟨w.heap.size, 0, none⟩ = some (.int .i64 0) := hz6.cell 0
        have hzc1 : w6.cell? ⟨w.heap.size, 1, none⟩ = some (.slice none 0 0) := hz6.cell 1
        have hbc0 : w6.cell? ⟨B1, 0, none⟩ = some (.int .i64 sz) := hb6.cell 0
        have hbc1 : w6.cell? ⟨B1, 1, none⟩ = some (.slice TA rs.length TC) := hb6.cell 1
        have hzf0 := hz6.frozen 0
        have hzf1 := hz6.frozen 1
        clear c0 c1
        go_wp2
        have hg06 : w.grownBy w6 (some R) := (hbut.trans (But.of_grown hg6 hszk)).grown
        have hown6 := own_grown Hown.out hg6 (by omega)
        have hel6 := hel.keep (Keeps.of_grown hg6 (by omega))
        have hnt6 : NRels w6 (B1 + 1) (.slice TA rs.length TC) rs := NRels.own hown6 (Nat.le_refl _) (by omega) Hrc.out hel6
        refine bodyPost_ret (v := .agg #[.int .i64 sz, .slice TA rs.length TC]) (by simp [results, Tryd.results82, go_sem, hzc0, hzc1]) rfl ?_
        have hk0 : Keeps (B1 + 1) [3, 35, 51] w6 ((w6.setCell ⟨w.heap.size, 0, none⟩ (.int .i64 sz)).setCell ⟨w.heap.size, 1, none⟩ (.slice TA rs.length TC)) :=
          (Keeps.setCell (p := ⟨w.heap.size, 0, none⟩) hz6 (by decide) _).trans (Keeps.setCell (p := ⟨w.heap.size, 1, none⟩) (hz6.set_ _ _) (by decide) _)
        refine StrPost.ok (s := ⟨sz, rs⟩) (by rw [Heq.out, Hst.out]; simp) ?_ ((hnt6.keep hk0).more (by omega))
        exact (But.of_grown hg06 (Nat.le_refl _)).trans ((But.setL (p := ⟨w.heap.size, 0, none⟩) (Nat.le_refl _) _).trans (But.setL (p := ⟨w.heap.size, 1, none⟩) (Nat.le_refl _) _)) |>.grown

end Go.Proofs.YtbddchonhicpiaaDoor
