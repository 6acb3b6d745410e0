/-
  Texts joined: Struct, Less, Vrel, Valid.
-/
import Derived.Test.YtelememdhpncgaaDoorJn5
import Derived.Test.YtelememdhpncgaaDoorJn1
import Derived.Test.YtelememdhpncgaaDoorJn4
import Derived.Maps.Own
import Derived.Maps.OwnOps
import Derived.Maps.OwnSet
import Derived.Maps.Views
import Derived.StringKeys

/-
  Walks: the reader's method structure.
-/
namespace Go.Proofs.YtelememdhpncgaaDoor
open Go.RowKit

/-- What structure leaves. -/
def StrPost (R n : Nat) (text : ByteArray) (w : World) (e : Ending) (w' : World) : Prop :=
  w.grownBy w' (some R) ∧ match strP (text.toList.drop n) with
    | some s => ∃ u, e = .returned (.agg #[.int .i64 s.size, u]) ∧ NRels w' w.heap.size u s.rels
    | none => e = .panicked errChain
theorem StrPost.bad {R n : Nat} {text : ByteArray} {w w' : World} (ht : strP (text.toList.drop n) = none) (hg : w.grownBy w' (some R)) : StrPost R n text w (.panicked errChain) w' :=
  ⟨hg, by rw [ht]⟩
theorem StrPost.ok {R n : Nat} {text : ByteArray} {w w' : World} {u : Value} {s : Sh.Str} (ht : strP (text.toList.drop n) = some s) (hg : w.grownBy w' (some R))
    (h1 : NRels w' w.heap.size u s.rels) : StrPost R n text w (.returned (.agg #[.int .i64 s.size, u])) w' :=
  ⟨hg, by rw [ht]; exact ⟨u, rfl, h1⟩⟩

set_option maxRecDepth 100000 in
set_option maxHeartbeats 400000 in
theorem structure_any (R n : Nat) (text : ByteArray) (w : World) (hr : Rdr w R text n) (hn : n ≤ text.size) (hs : text.size ≤ 100000) (hv : Vars w) (hR : 5 ≤ R) (hw : 5 ≤ w.heap.size) (hRw : R < w.heap.size) :
    Calls Tryd.prog 27 #[.pointer (some ⟨R, 0, none⟩)] w (StrPost R n text w) := by
  have hcall1 := fun W (h1 : Rdr W R text n) (h2 : Vars W) (h3 : 5 ≤ W.heap.size) => number_any R n text W h1 hn hs h2 hR h3
  cases hnp : numP (text.toList.drop n) with
  | none =>
    rw [hnp] at hcall1
    have hbad := strP_bad hnp
    have Hcall1 := Lib.hid hcall1; clear hcall1
    have Hbad := Lib.hid hbad; clear hbad hnp
    go_enter Tryd.func27, Tryd.ntmps27
    go_wp2_with (go_at_call 37; refine (Hcall1.out _ (Blk.alloc hr _) (hv.grown (World.grownBy_alloc _ _ _) hR hw) (by simp; omega)).mono ?_; rintro e w1 ⟨hg1, rfl⟩)
    exact ⟨rfl, StrPost.bad Hbad.out (grownBy_trans (World.grownBy_alloc _ _ _) hg1)⟩
  | some sz =>
    rw [hnp] at hcall1
    have hmore := strP_more hnp
    have hdr : digRun (text.toList.drop n) = runLen Sh.digitB text n := rfl
    have hn1 := runLen_le Sh.digitB text n hn
    rw [hdr] at hmore
    generalize runLen Sh.digitB text n = L1 at *
    rw [List.drop_drop] at hmore
    have Hcall1 := Lib.hid hcall1; clear hcall1
    have Hmore := Lib.hid hmore; clear hmore hnp hdr
    go_enter Tryd.func27, Tryd.ntmps27
    go_wp2_with (go_at_call 37
                 refine (Hcall1.out _ (Blk.alloc hr _) (hv.grown (World.grownBy_alloc _ _ _) hR hw) (by simp; omega)).mono ?_
                 rintro e w4 ⟨hg1, rfl, hr4⟩
                 have hz4 := (Blk.new w 24 #[.int .i64 0, .slice none 0 0]).grown hg1 (by simp; omega))
    have hlt4 := hz4.lt
    have hsz4 := hg1.size
    have hg04 : w.grownBy w4 (some R) := grownBy_trans (World.grownBy_alloc _ _ _) hg1
    have hsz04 := hg04.size
    have hr5 : Rdr (w4.alloc (.cells #[.int .i64 sz, .slice none 0 0] 24)) R text (n + L1) := Blk.alloc hr4 _
    have hz5 : Blk (w4.alloc (.cells #[.int .i64 sz, .slice none 0 0] 24)) w.heap.size 24 #[.int .i64 0, .slice none 0 0] := Blk.alloc hz4 _
    have hb5 : Blk (w4.alloc (.cells #[.int .i64 sz, .slice none 0 0] 24)) w4.heap.size 24 #[.int .i64 sz, .slice none 0 0] := Blk.new _ _ _
    have hbut5 : But w.heap.size R w (w4.alloc (.cells #[.int .i64 sz, .slice none 0 0] 24)) := (But.of_grown hg04 (Nat.le_refl _)).trans (But.alloc (by omega) _)
    generalize (w4.alloc (.cells #[.int .i64 sz, .slice none 0 0] 24)) = w5 at *
    clear hr4 hg1 hz4 hg04
    have hB1 : w4.heap.size < w5.heap.size := hb5.lt
    generalize w4.heap.size = B1 at *
    go_loopg [] text.size (fun gg wr => ∃ (k : Nat) (tv : Value) (xs us : List Value) (rs : List Sh.Rel), k ≤ text.size ∧ text.size - k ≤ gg ∧ rs.length ≤ k ∧ Rdr wr R text k ∧
      Blk wr w.heap.size 24 #[.int .i64 0, .slice none 0 0] ∧ Blk wr B1 24 #[.int .i64 sz, tv] ∧
      wr.ownsRow (B1 + 1) 36 3 tv rs.length xs ∧ RCells xs us rs ∧ RElems wr (B1 + 1) us rs ∧ But w.heap.size R w wr ∧
      strP (text.toList.drop n) = (relsP (text.toList.drop k)).map fun q => ⟨sz, rs ++ q⟩)
    case atStart => exact ⟨n + L1, .slice none 0 0, [], [], [], hn1, by omega, by simp, hr5, hz5, hb5, World.ownsRow_nil _ _ _ _, RCells.nil, (fun j u t h => by simp at h), hbut5, by rw [Hmore.out]; simp⟩
    case round =>
      obtain ⟨k, tv, xs, us, rs, hk, hgg, huk, hrk, hzk, hbk, hown, hrc, hel, hbut, heq⟩ := hrel
      have Heq := Lib.hid heq; clear heq
      have Hown := Lib.hid hown; clear hown
      have Hrc := Lib.hid hrc; clear hrc
      obtain ⟨TA, TC, rfl⟩ := own_slice Hown.out
      have hszk := hbut.size
      have c0 := hrk.c0
      have c1 := hrk.c1
      by_cases hlt : k < text.size
      · have hne : text.toList.drop k ≠ [] := fun e => by
          have := congrArg List.length e
          rw [List.length_drop, length_bytes] at this
          simp at this; omega
        have hrelc := fun W (h1 : Rdr W R text k) (h2 : Vars W) (h3 : 5 ≤ W.heap.size) (h4 : R < W.heap.size) => relation_any R k text W h1 hk hs h2 hR h3 h4
        cases htp : relP (text.toList.drop k) with
        | none =>
          have hst := relsP_bad hne htp
          have hcall : ∀ W, Rdr W R text k → Vars W → 5 ≤ W.heap.size → R < W.heap.size → Calls Tryd.prog 38 #[.pointer (some ⟨R, 0, none⟩)] W fun e w' => e = .panicked errChain ∧ W.grownBy w' (some R) := fun W h1 h2 h3 h4 =>
            (hrelc W h1 h2 h3 h4).mono fun e w' ⟨hg, hm⟩ => ⟨by rw [htp] at hm; exact hm, hg⟩
          have Hcall := Lib.hid hcall; clear hcall hrelc
          have Hst := Lib.hid hst; clear hst htp hne
          go_wp2
          go_quiet (fail)
          go_wp2_with fail
          have hr6 : Rdr (wr.drewN nq) R text k := hrk.drewN nq
          have hb6 : Blk (wr.drewN nq) B1 24 #[.int .i64 sz, .slice TA rs.length TC] := hbk.drewN nq
          have hz6 : Blk (wr.drewN nq) w.heap.size 24 #[.int .i64 0, .slice none 0 0] := hzk.drewN nq
          have hg6 : wr.grownBy (wr.drewN nq) (some R) := grownBy_drewN _ _ _
          generalize wr.drewN nq = w6 at *
          have hbc2 : w6.cell? ⟨B1, 1, none⟩ = some (.slice TA rs.length TC) := hb6.cell 1
          have hs6 := hg6.size
          have hg06 : w.grownBy w6 (some R) := (hbut.trans (But.of_grown hg6 hszk)).grown
          have hv6 := (hv.grown hg06 hR hw).drew
          have hr6' : Rdr w6.drew R text k := Blk.drew hr6
          clear c0 c1
          refine wp_region_held_drew (S := fun w' => w'.cell? ⟨B1, 1, none⟩ = some (.slice TA rs.length TC)) (by kernel_rfl) hbc2 (fun hHeld => ?_)
          refine wpAnyH_take (i := 0) (v := .pointer (some ⟨B1, 1, none⟩)) rfl (by kernel_rfl) (by kernel_rfl) (by kernel_rfl) (fun _ _ _ h => h) (Or.inl ⟨by rfl, ?_⟩) (by assumption) ?_
          · intro w' hSw
            go_simp
          try simp only [Act.put, List.setIfInBounds_toArray, List.set_cons_zero, List.set_cons_succ]
          refine wpAnyH_take (i := 1) (v := .slice TA rs.length TC) rfl (by kernel_rfl) (by kernel_rfl) (by kernel_rfl) (fun _ _ _ h => h) (Or.inl ⟨by rfl, ?_⟩) (by assumption) ?_
          · intro w' hSw
            go_simp
          try simp only [Act.put, List.setIfInBounds_toArray, List.set_cons_zero, List.set_cons_succ]
          refine wpAnyH_take (i := 2) (v := .pointer (some ⟨R, 0, none⟩)) rfl (by kernel_rfl) (by kernel_rfl) (by kernel_rfl) (fun _ _ _ h => h) (Or.inl ⟨by rfl, ?_⟩) (by assumption) ?_
          · intro w' hSw
            go_simp
          try simp only [Act.put, List.setIfInBounds_toArray, List.set_cons_zero, List.set_cons_succ]
          refine wpAnyH_ready (rs := [3]) (by kernel_rfl) (by simp) ?_
          refine AllReadyH.cons rfl (fun K hK => ?_) AllReadyH.nil
          go_simp
          refine (Hcall.out _ hr6' hv6 (by simp; omega) (by simp; omega)).mono ?_
          rintro e w7 ⟨rfl, hg7⟩
          exact ⟨rfl, StrPost.bad (by rw [Heq.out, Hst.out]; rfl) (grownBy_trans hg06 (grownBy_trans (grownBy_drewN w6 1 _) hg7))⟩
        | some p =>
          have hst := relsP_more hne htp
          have hplen := relP_len htp
          rw [List.length_drop, length_bytes] at hplen
          have hcall : ∀ W, Rdr W R text k → Vars W → 5 ≤ W.heap.size → R < W.heap.size → Calls Tryd.prog 38 #[.pointer (some ⟨R, 0, none⟩)] W fun e w' => ∃ u n', e = .returned (.agg #[.string p.1.name, .int .i64 p.1.arity, u]) ∧ NTups w' W.heap.size u p.1.tuples ∧ p.1.name.size ≤ 100000 ∧ n' ≤ text.size ∧ text.toList.drop n' = p.2 ∧ Rdr w' R text n' ∧ W.grownBy w' (some R) := fun W h1 h2 h3 h4 =>
            (hrelc W h1 h2 h3 h4).mono fun e w' ⟨hg, hm⟩ => by
              rw [htp] at hm
              obtain ⟨v, n', h1, h2, h3, h4, h5, h6⟩ := hm
              exact ⟨v, n', h1, h2, h3, h4, h5, h6, hg⟩
          have Hcall := Lib.hid hcall; clear hcall hrelc
          have Hst := Lib.hid hst; clear hst htp hne
          go_wp2
          go_quiet (fail)
          go_wp2_with fail
          have hr6 : Rdr (wr.drewN nq) R text k := hrk.drewN nq
          have hb6 : Blk (wr.drewN nq) B1 24 #[.int .i64 sz, .slice TA rs.length TC] := hbk.drewN nq
          have hz6 : Blk (wr.drewN nq) w.heap.size 24 #[.int .i64 0, .slice none 0 0] := hzk.drewN nq
          have hg6 : wr.grownBy (wr.drewN nq) (some R) := grownBy_drewN _ _ _
          generalize wr.drewN nq = w6 at *
          have hbc2 : w6.cell? ⟨B1, 1, none⟩ = some (.slice TA rs.length TC) := hb6.cell 1
          have hs6 := hg6.size
          have hg06 : w.grownBy w6 (some R) := (hbut.trans (But.of_grown hg6 hszk)).grown
          have hv6 := (hv.grown hg06 hR hw).drew
          have hr6' : Rdr w6.drew R text k := Blk.drew hr6
          clear c0 c1
          have hown6 := own_grown Hown.out hg6 (by omega)
          have hown6d : w6.drew.ownsRow (B1 + 1) 36 3 (.slice TA rs.length TC) rs.length xs := hown6
          have hbk1 := hbk.lt
          have hbc2d : w6.drew.cell? ⟨B1, 1, none⟩ = some (.slice TA rs.length TC) := hbc2
          refine wp_region_any (by kernel_rfl) ?_
          change wpAny _ _ _ _ _ _ _ (World.drew _)
          refine wpAny_take (i := 0) (v := .pointer (some ⟨B1, 1, none⟩)) rfl (by kernel_rfl) (by kernel_rfl) (by kernel_rfl) (fun _ _ _ h => h) (Or.inl ⟨by rfl, ?_⟩) ?_
          · intro w'
            go_simp
          try simp only [Act.put, List.setIfInBounds_toArray, List.set_cons_zero, List.set_cons_succ]
          refine wpAny_take (i := 2) (v := .pointer (some ⟨R, 0, none⟩)) rfl (by kernel_rfl) (by kernel_rfl) (by kernel_rfl) (fun _ _ _ h => h) (Or.inl ⟨by rfl, ?_⟩) ?_
          · intro w'
            go_simp
          try simp only [Act.put, List.setIfInBounds_toArray, List.set_cons_zero, List.set_cons_succ]
          refine wpAny_ready (rs := [1, 3]) (by kernel_rfl) (by simp) ?_
          refine AllReady.cons rfl (fun K hK => ?_) (AllReady.cons rfl (fun K hK => ?_) AllReady.nil)
          · skip
            go_simp
            refine hK _ _ ?_
            clear hK K
            try simp only [Act.put, List.setIfInBounds_toArray, List.set_cons_zero, List.set_cons_succ]
            refine wpAny_ready (rs := [3]) (by kernel_rfl) (by simp) ?_
            refine AllReady.cons rfl (fun K hK => ?_) AllReady.nil
            go_simp
            refine (Hcall.out _ hr6' hv6 (by simp; omega) (by simp; omega)).mono ?_
            rintro e w7 ⟨tu, n', rfl, hnt, hnz, hn', hrest, hr7, hg7⟩
            have hnt' := hnt
            obtain ⟨UA, UN, UC, rfl, -, -, -⟩ := hnt'
            have hrl : text.size - n' = p.2.length := by rw [← hrest, List.length_drop, length_bytes]
            have hs7 : w6.heap.size ≤ w7.heap.size := hg7.size
            have hb7 := Blk.grown (Blk.drew hb6) hg7 (by simp; omega)
            have hbc7 : w7.cell? ⟨B1, 1, none⟩ = some (.slice TA rs.length TC) := hb7.cell 1
            have hbc7' : (w7.alloc (.cells #[.string p.1.name, .int .i64 p.1.arity, .slice UA UN UC] 36)).cell? ⟨B1, 1, none⟩ = some (.slice TA rs.length TC) := (Blk.alloc hb7 _).cell 1
            refine hK _ _ ?_
            clear hK K
            try simp only [Act.put, List.setIfInBounds_toArray, List.set_cons_zero, List.set_cons_succ]
            refine wpAny_ready (rs := [4]) (by kernel_rfl) (by simp) ?_
            refine AllReady.cons rfl (fun K hK => ?_) AllReady.nil
            go_simp
            refine hK _ _ ?_
            clear hK K
            try simp only [Act.put, List.setIfInBounds_toArray, List.set_cons_zero, List.set_cons_succ]
            refine wpAny_ready (rs := [5]) (by kernel_rfl) (by simp) ?_
            refine AllReady.cons rfl (fun K hK => ?_) AllReady.nil
            have hown7 : (w7.alloc (.cells #[.string p.1.name, .int .i64 p.1.arity, .slice UA UN UC] 36)).ownsRow (B1 + 1) 36 3 (.slice TA rs.length TC) rs.length xs := World.ownsRow.alloc (own_grown hown6d hg7 (by omega)) _
            refine step_append_rel _ rfl _ _ rfl (B1 + 1) _ rs.length xs rfl hown7 w7.heap.size 1 _ _ _ rfl (Blk.new w7 36 #[.string p.1.name, .int .i64 p.1.arity, .slice UA UN UC]) rfl rfl rfl (by omega) (by simp; omega) ?_
            intro v8 w8 hown8 hg8
            obtain ⟨VA, VC, rfl⟩ := own_slice hown8
            have hb8 : Blk w8 B1 24 #[.int .i64 sz, .slice TA rs.length TC] := Blk.grown (Blk.alloc hb7 _) hg8 (fun e => by have := (hown7.lt B1 e.symm).1; omega)
            have hbc8 : w8.cell? ⟨B1, 1, none⟩ = some (.slice TA rs.length TC) := hb8.cell 1
            have hbf8 := hb8.frozen 1
            refine hK _ _ ?_
            clear hK K
            try simp only [Act.put, List.setIfInBounds_toArray, List.set_cons_zero, List.set_cons_succ]
            refine wpAny_ready (rs := [6]) (by kernel_rfl) (by simp) ?_
            refine AllReady.cons rfl (fun K hK => ?_) AllReady.nil
            go_simp
            refine hK _ _ ?_
            clear hK K
            try simp only [Act.put, List.setIfInBounds_toArray, List.set_cons_zero, List.set_cons_succ]
            refine wpAny_ready (rs := [7]) (by kernel_rfl) (by simp) ?_
            refine AllReady.cons rfl (fun K hK => ?_) AllReady.nil
            go_simp
            refine hK _ _ ?_
            clear hK K
            try simp only [Act.put, List.setIfInBounds_toArray, List.set_cons_zero, List.set_cons_succ]
            refine wpAny_done (by kernel_rfl) ?_ _
            go_wp2
            go_roundg (text.size - n')
            case measure => omega
            case rel =>
              have hg8' : (w7.alloc (.cells #[.string p.1.name, .int .i64 p.1.arity, .slice UA UN UC] 36)).grownBy w8 (Value.slice TA rs.length TC).ownBlock := hg8
              have hb7b : ∀ g, (Value.slice TA rs.length TC).ownBlock = some g → B1 + 1 ≤ g := fun g e => (hown7.lt g e).1
              refine ⟨n', .slice VA (rs.length + 1) VC, xs ++ [.string p.1.name, .int .i64 p.1.arity, .slice UA UN UC], us ++ [.slice UA UN UC], rs ++ [p.1], hn', Nat.le_refl _, by simp; omega, ?_, ?_, ?_, ?_, Hrc.out.snoc _ _, ?_, ?_, ?_⟩
              · exact Blk.far (Blk.grown (Blk.alloc hr7 _) hg8' (fun e => by have := hb7b R e.symm; omega)) (by simp; omega) _
              · exact Blk.far (Blk.grown (Blk.alloc (Blk.grown (Blk.drew hz6) hg7 (by simp; omega)) _) hg8' (fun e => by have := hb7b _ e.symm; omega)) (by simp; omega) _
              · exact hb8.set_ 1 _
              · have h9 := hown8.kept (row := some B1) (w' := w8.setCell ⟨B1, 1, none⟩ (.slice VA (rs.length + 1) VC)) ⟨rfl, rfl, rfl, by simp [World.setCell], fun i hi hne => Below.heap_setCell _ _ _ _ (fun e => hne (by rw [e]))⟩ (by
                  cases ho : (Value.slice VA (rs.length + 1) VC).ownBlock with
                  | none => exact .inl rfl
                  | some g => exact .inr (fun e => by injection e with e; have := (hown8.lt g ho).1; omega))
                simpa using h9
              · have hk7 : Keeps (B1 + 1) [3, 26] w7 (w8.setCell ⟨B1, 1, none⟩ (.slice VA (rs.length + 1) VC)) :=
                  (Keeps.alloc _ _ _ _).trans ((Keeps.own hg8' hown7 (by decide)).trans (Keeps.setCell (p := ⟨B1, 1, none⟩) hb8 (by decide) _))
                exact RElems.snoc ((hel.keep ((Keeps.of_grown hg6 (by omega)).trans ((Keeps.drewN _ _ w6 1).trans (Keeps.of_grown hg7 (by omega))))).keep hk7) Hrc.out.2.1 ((hnt.more (by simp; omega)).keep hk7) (by omega)
              · exact (But.of_grown hg06 (Nat.le_refl _)).trans ((But.drewN 1).trans ((But.of_grown hg7 (by simp; omega)).trans ((But.alloc (by omega) _).trans ((But.row hg8' (by simp; omega) (fun g e => by have := hb7b g e; omega)).trans (But.setL (p := ⟨B1, 1, none⟩) (by simp; omega) _)))))
              · rw [Heq.out, Hst.out, hrest, Option.map_map]
                congr 1
                funext q
                simp
          · skip
            go_simp
            refine (Hcall.out _ hr6' hv6 (by simp; omega) (by simp; omega)).mono ?_
            rintro e w7 ⟨tu, n', rfl, hnt, hnz, hn', hrest, hr7, hg7⟩
            have hnt' := hnt
            obtain ⟨UA, UN, UC, rfl, -, -, -⟩ := hnt'
            have hrl : text.size - n' = p.2.length := by rw [← hrest, List.length_drop, length_bytes]
            have hs7 : w6.heap.size ≤ w7.heap.size := hg7.size
            have hb7 := Blk.grown (Blk.drew hb6) hg7 (by simp; omega)
            have hbc7 : w7.cell? ⟨B1, 1, none⟩ = some (.slice TA rs.length TC) := hb7.cell 1
            have hbc7' : (w7.alloc (.cells #[.string p.1.name, .int .i64 p.1.arity, .slice UA UN UC] 36)).cell? ⟨B1, 1, none⟩ = some (.slice TA rs.length TC) := (Blk.alloc hb7 _).cell 1
            refine hK _ _ ?_
            clear hK K
            try simp only [Act.put, List.setIfInBounds_toArray, List.set_cons_zero, List.set_cons_succ]
            refine wpAny_ready (rs := [1, 4]) (by kernel_rfl) (by simp) ?_
            refine AllReady.cons rfl (fun K hK => ?_) (AllReady.cons rfl (fun K hK => ?_) AllReady.nil)
            · skip
              go_simp
              refine hK _ _ ?_
              clear hK K
              try simp only [Act.put, List.setIfInBounds_toArray, List.set_cons_zero, List.set_cons_succ]
              refine wpAny_ready (rs := [4]) (by kernel_rfl) (by simp) ?_
              refine AllReady.cons rfl (fun K hK => ?_) AllReady.nil
              go_simp
              refine hK _ _ ?_
              clear hK K
              try simp only [Act.put, List.setIfInBounds_toArray, List.set_cons_zero, List.set_cons_succ]
              refine wpAny_ready (rs := [5]) (by kernel_rfl) (by simp) ?_
              refine AllReady.cons rfl (fun K hK => ?_) AllReady.nil
              have hown7 : (w7.alloc (.cells #[.string p.1.name, .int .i64 p.1.arity, .slice UA UN UC] 36)).ownsRow (B1 + 1) 36 3 (.slice TA rs.length TC) rs.length xs := World.ownsRow.alloc (own_grown hown6d hg7 (by omega)) _
              refine step_append_rel _ rfl _ _ rfl (B1 + 1) _ rs.length xs rfl hown7 w7.heap.size 1 _ _ _ rfl (Blk.new w7 36 #[.string p.1.name, .int .i64 p.1.arity, .slice UA UN UC]) rfl rfl rfl (by omega) (by simp; omega) ?_
              intro v8 w8 hown8 hg8
              obtain ⟨VA, VC, rfl⟩ := own_slice hown8
              have hb8 : Blk w8 B1 24 #[.int .i64 sz, .slice TA rs.length TC] := Blk.grown (Blk.alloc hb7 _) hg8 (fun e => by have := (hown7.lt B1 e.symm).1; omega)
              have hbc8 : w8.cell? ⟨B1, 1, none⟩ = some (.slice TA rs.length TC) := hb8.cell 1
              have hbf8 := hb8.frozen 1
              refine hK _ _ ?_
              clear hK K
              try simp only [Act.put, List.setIfInBounds_toArray, List.set_cons_zero, List.set_cons_succ]
              refine wpAny_ready (rs := [6]) (by kernel_rfl) (by simp) ?_
              refine AllReady.cons rfl (fun K hK => ?_) AllReady.nil
              go_simp
              refine hK _ _ ?_
              clear hK K
              try simp only [Act.put, List.setIfInBounds_toArray, List.set_cons_zero, List.set_cons_succ]
              refine wpAny_ready (rs := [7]) (by kernel_rfl) (by simp) ?_
              refine AllReady.cons rfl (fun K hK => ?_) AllReady.nil
              go_simp
              refine hK _ _ ?_
              clear hK K
              try simp only [Act.put, List.setIfInBounds_toArray, List.set_cons_zero, List.set_cons_succ]
              refine wpAny_done (by kernel_rfl) ?_ _
              go_wp2
              go_roundg (text.size - n')
              case measure => omega
              case rel =>
                have hg8' : (w7.alloc (.cells #[.string p.1.name, .int .i64 p.1.arity, .slice UA UN UC] 36)).grownBy w8 (Value.slice TA rs.length TC).ownBlock := hg8
                have hb7b : ∀ g, (Value.slice TA rs.length TC).ownBlock = some g → B1 + 1 ≤ g := fun g e => (hown7.lt g e).1
                refine ⟨n', .slice VA (rs.length + 1) VC, xs ++ [.string p.1.name, .int .i64 p.1.arity, .slice UA UN UC], us ++ [.slice UA UN UC], rs ++ [p.1], hn', Nat.le_refl _, by simp; omega, ?_, ?_, ?_, ?_, Hrc.out.snoc _ _, ?_, ?_, ?_⟩
                · exact Blk.far (Blk.grown (Blk.alloc hr7 _) hg8' (fun e => by have := hb7b R e.symm; omega)) (by simp; omega) _
                · exact Blk.far (Blk.grown (Blk.alloc (Blk.grown (Blk.drew hz6) hg7 (by simp; omega)) _) hg8' (fun e => by have := hb7b _ e.symm; omega)) (by simp; omega) _
                · exact hb8.set_ 1 _
                · have h9 := hown8.kept (row := some B1) (w' := w8.setCell ⟨B1, 1, none⟩ (.slice VA (rs.length + 1) VC)) ⟨rfl, rfl, rfl, by simp [World.setCell], fun i hi hne => Below.heap_setCell _ _ _ _ (fun e => hne (by rw [e]))⟩ (by
                    cases ho : (Value.slice VA (rs.length + 1) VC).ownBlock with
                    | none => exact .inl rfl
                    | some g => exact .inr (fun e => by injection e with e; have := (hown8.lt g ho).1; omega))
                  simpa using h9
                · have hk7 : Keeps (B1 + 1) [3, 26] w7 (w8.setCell ⟨B1, 1, none⟩ (.slice VA (rs.length + 1) VC)) :=
                    (Keeps.alloc _ _ _ _).trans ((Keeps.own hg8' hown7 (by decide)).trans (Keeps.setCell (p := ⟨B1, 1, none⟩) hb8 (by decide) _))
                  exact RElems.snoc ((hel.keep ((Keeps.of_grown hg6 (by omega)).trans ((Keeps.drewN _ _ w6 1).trans (Keeps.of_grown hg7 (by omega))))).keep hk7) Hrc.out.2.1 ((hnt.more (by simp; omega)).keep hk7) (by omega)
                · exact (But.of_grown hg06 (Nat.le_refl _)).trans ((But.drewN 1).trans ((But.of_grown hg7 (by simp; omega)).trans ((But.alloc (by omega) _).trans ((But.row hg8' (by simp; omega) (fun g e => by have := hb7b g e; omega)).trans (But.setL (p := ⟨B1, 1, none⟩) (by simp; omega) _)))))
                · rw [Heq.out, Hst.out, hrest, Option.map_map]
                  congr 1
                  funext q
                  simp
            · skip
              go_simp
              refine hK _ _ ?_
              clear hK K
              try simp only [Act.put, List.setIfInBounds_toArray, List.set_cons_zero, List.set_cons_succ]
              refine wpAny_ready (rs := [1]) (by kernel_rfl) (by simp) ?_
              refine AllReady.cons rfl (fun K hK => ?_) AllReady.nil
              go_simp
              refine hK _ _ ?_
              clear hK K
              try simp only [Act.put, List.setIfInBounds_toArray, List.set_cons_zero, List.set_cons_succ]
              refine wpAny_ready (rs := [5]) (by kernel_rfl) (by simp) ?_
              refine AllReady.cons rfl (fun K hK => ?_) AllReady.nil
              have hown7 : (w7.alloc (.cells #[.string p.1.name, .int .i64 p.1.arity, .slice UA UN UC] 36)).ownsRow (B1 + 1) 36 3 (.slice TA rs.length TC) rs.length xs := World.ownsRow.alloc (own_grown hown6d hg7 (by omega)) _
              refine step_append_rel _ rfl _ _ rfl (B1 + 1) _ rs.length xs rfl hown7 w7.heap.size 1 _ _ _ rfl (Blk.new w7 36 #[.string p.1.name, .int .i64 p.1.arity, .slice UA UN UC]) rfl rfl rfl (by omega) (by simp; omega) ?_
              intro v8 w8 hown8 hg8
              obtain ⟨VA, VC, rfl⟩ := own_slice hown8
              have hb8 : Blk w8 B1 24 #[.int .i64 sz, .slice TA rs.length TC] := Blk.grown (Blk.alloc hb7 _) hg8 (fun e => by have := (hown7.lt B1 e.symm).1; omega)
              have hbc8 : w8.cell? ⟨B1, 1, none⟩ = some (.slice TA rs.length TC) := hb8.cell 1
              have hbf8 := hb8.frozen 1
              refine hK _ _ ?_
              clear hK K
              try simp only [Act.put, List.setIfInBounds_toArray, List.set_cons_zero, List.set_cons_succ]
              refine wpAny_ready (rs := [6]) (by kernel_rfl) (by simp) ?_
              refine AllReady.cons rfl (fun K hK => ?_) AllReady.nil
              go_simp
              refine hK _ _ ?_
              clear hK K
              try simp only [Act.put, List.setIfInBounds_toArray, List.set_cons_zero, List.set_cons_succ]
              refine wpAny_ready (rs := [7]) (by kernel_rfl) (by simp) ?_
              refine AllReady.cons rfl (fun K hK => ?_) AllReady.nil
              go_simp
              refine hK _ _ ?_
              clear hK K
              try simp only [Act.put, List.setIfInBounds_toArray, List.set_cons_zero, List.set_cons_succ]
              refine wpAny_done (by kernel_rfl) ?_ _
              go_wp2
              go_roundg (text.size - n')
              case measure => omega
              case rel =>
                have hg8' : (w7.alloc (.cells #[.string p.1.name, .int .i64 p.1.arity, .slice UA UN UC] 36)).grownBy w8 (Value.slice TA rs.length TC).ownBlock := hg8
                have hb7b : ∀ g, (Value.slice TA rs.length TC).ownBlock = some g → B1 + 1 ≤ g := fun g e => (hown7.lt g e).1
                refine ⟨n', .slice VA (rs.length + 1) VC, xs ++ [.string p.1.name, .int .i64 p.1.arity, .slice UA UN UC], us ++ [.slice UA UN UC], rs ++ [p.1], hn', Nat.le_refl _, by simp; omega, ?_, ?_, ?_, ?_, Hrc.out.snoc _ _, ?_, ?_, ?_⟩
                · exact Blk.far (Blk.grown (Blk.alloc hr7 _) hg8' (fun e => by have := hb7b R e.symm; omega)) (by simp; omega) _
                · exact Blk.far (Blk.grown (Blk.alloc (Blk.grown (Blk.drew hz6) hg7 (by simp; omega)) _) hg8' (fun e => by have := hb7b _ e.symm; omega)) (by simp; omega) _
                · exact hb8.set_ 1 _
                · have h9 := hown8.kept (row := some B1) (w' := w8.setCell ⟨B1, 1, none⟩ (.slice VA (rs.length + 1) VC)) ⟨rfl, rfl, rfl, by simp [World.setCell], fun i hi hne => Below.heap_setCell _ _ _ _ (fun e => hne (by rw [e]))⟩ (by
                    cases ho : (Value.slice VA (rs.length + 1) VC).ownBlock with
                    | none => exact .inl rfl
                    | some g => exact .inr (fun e => by injection e with e; have := (hown8.lt g ho).1; omega))
                  simpa using h9
                · have hk7 : Keeps (B1 + 1) [3, 26] w7 (w8.setCell ⟨B1, 1, none⟩ (.slice VA (rs.length + 1) VC)) :=
                    (Keeps.alloc _ _ _ _).trans ((Keeps.own hg8' hown7 (by decide)).trans (Keeps.setCell (p := ⟨B1, 1, none⟩) hb8 (by decide) _))
                  exact RElems.snoc ((hel.keep ((Keeps.of_grown hg6 (by omega)).trans ((Keeps.drewN _ _ w6 1).trans (Keeps.of_grown hg7 (by omega))))).keep hk7) Hrc.out.2.1 ((hnt.more (by simp; omega)).keep hk7) (by omega)
                · exact (But.of_grown hg06 (Nat.le_refl _)).trans ((But.drewN 1).trans ((But.of_grown hg7 (by simp; omega)).trans ((But.alloc (by omega) _).trans ((But.row hg8' (by simp; omega) (fun g e => by have := hb7b g e; omega)).trans (But.setL (p := ⟨B1, 1, none⟩) (by simp; omega) _)))))
                · rw [Heq.out, Hst.out, hrest, Option.map_map]
                  congr 1
                  funext q
                  simp
      · skip
        obtain rfl : k = text.size := by omega
        have hst : relsP (text.toList.drop text.size) = some [] := by rw [List.drop_of_length_le (by rw [length_bytes]; exact Nat.le_refl _)]; exact relsP_nil
        have Hst := Lib.hid hst; clear hst
        go_wp2
        go_quiet (fail)
        have hr6 : Rdr (wr.drewN nq) R text text.size := hrk.drewN nq
        have hb6 : Blk (wr.drewN nq) B1 24 #[.int .i64 sz, .slice TA rs.length TC] := hbk.drewN nq
        have hz6 : Blk (wr.drewN nq) w.heap.size 24 #[.int .i64 0, .slice none 0 0] := hzk.drewN nq
        have hg6 : wr.grownBy (wr.drewN nq) (some R) := grownBy_drewN _ _ _
        generalize wr.drewN nq = w6 at *
        have hzc0 : w6.cell? ⟨w.heap.size, 0, none⟩ = some (.int .i64 0) := hz6.cell 0
        have hzc1 : w6.cell? ⟨w.heap.size, 1, none⟩ = some (.slice none 0 0) := hz6.cell 1
        have hbc0 : w6.cell? ⟨B1, 0, none⟩ = some (.int .i64 sz) := hb6.cell 0
        have hbc1 : w6.cell? ⟨B1, 1, none⟩ = some (.slice TA rs.length TC) := hb6.cell 1
        have hzf0 := hz6.frozen 0
        have hzf1 := hz6.frozen 1
        clear c0 c1
        go_wp2
        have hg06 : w.grownBy w6 (some R) := (hbut.trans (But.of_grown hg6 hszk)).grown
        have hown6 := own_grown Hown.out hg6 (by omega)
        have hel6 := hel.keep (Keeps.of_grown hg6 (by omega))
        have hnt6 : NRels w6 (B1 + 1) (.slice TA rs.length TC) rs := NRels.own hown6 (Nat.le_refl _) (by omega) Hrc.out hel6
        refine bodyPost_ret (v := .agg #[.int .i64 sz, .slice TA rs.length TC]) (by simp [results, Tryd.results27, go_sem, hzc0, hzc1]) rfl ?_
        have hk0 : Keeps (B1 + 1) [3, 26, 36] w6 ((w6.setCell ⟨w.heap.size, 0, none⟩ (.int .i64 sz)).setCell ⟨w.heap.size, 1, none⟩ (.slice TA rs.length TC)) :=
          (Keeps.setCell (p := ⟨w.heap.size, 0, none⟩) hz6 (by decide) _).trans (Keeps.setCell (p := ⟨w.heap.size, 1, none⟩) (hz6.set_ _ _) (by decide) _)
        refine StrPost.ok (s := ⟨sz, rs⟩) (by rw [Heq.out, Hst.out]; simp) ?_ ((hnt6.keep hk0).more (by omega))
        exact (But.of_grown hg06 (Nat.le_refl _)).trans ((But.setL (p := ⟨w.heap.size, 0, none⟩) (Nat.le_refl _) _).trans (But.setL (p := ⟨w.heap.size, 1, none⟩) (Nat.le_refl _) _)) |>.grown

end Go.Proofs.YtelememdhpncgaaDoor

/-
  Walks: the reference's Less, the library's cmp.Compare and slices.Compare at ints.
-/
namespace Go.Proofs.YtelememdhpncgaaDoor
open Go.RowKit

theorem isnan_any (x : Int) (w : World) :
    Calls Tryd.prog 50 #[.int .i64 x] w fun e w' => e = .returned (.bool false) ∧ w = w' := by
  go_enter Tryd.func50, Tryd.ntmps50
  go_wp2
  go_ret
  exact ⟨by simp, rfl⟩

set_option maxHeartbeats 400000 in
theorem cmp_any (x y : Int) (w : World) :
    Calls Tryd.prog 31 #[.int .i64 x, .int .i64 y] w fun e w' => e = .returned (.int .i64 (Sh.cmpI [x] [y])) ∧ w = w' := by
  rcases Int.lt_trichotomy x y with h | h | h
  · have hs : Sh.cmpI [x] [y] = -1 := by simp [Sh.cmpI, h]
    have Hs := Lib.hid hs; clear hs
    go_enter Tryd.func31, Tryd.ntmps31
    go_wp2_with (go_at_call 50; refine (isnan_any _ _).mono ?_; rintro e w' ⟨rfl, rfl⟩)
    go_ret
    exact ⟨ret_int Hs.out.symm, rfl⟩
  · have hs : Sh.cmpI [x] [y] = 0 := by simp [Sh.cmpI, h]
    have Hs := Lib.hid hs; clear hs
    subst h
    go_enter Tryd.func31, Tryd.ntmps31
    go_wp2_with (go_at_call 50; refine (isnan_any _ _).mono ?_; rintro e w' ⟨rfl, rfl⟩)
    go_ret
    exact ⟨ret_int Hs.out.symm, rfl⟩
  · have hs : Sh.cmpI [x] [y] = 1 := by simp [Sh.cmpI, h]; omega
    have Hs := Lib.hid hs; clear hs
    go_enter Tryd.func31, Tryd.ntmps31
    go_wp2_with (go_at_call 50; refine (isnan_any _ _).mono ?_; rintro e w' ⟨rfl, rfl⟩)
    go_ret
    exact ⟨ret_int Hs.out.symm, rfl⟩

set_option maxHeartbeats 400000 in
theorem compare_any (v u : Value) (s t : List Int) (w : World) (B : Nat) (h : Ints w B v s) (g : Ints w B u t) :
    Calls Tryd.prog 19 #[v, u] w fun e w' => e = .returned (.int .i64 (Sh.cmpI s t)) ∧ w = w' := by
  have h' := h
  have g' := g
  obtain ⟨A, len, c, rfl, hlen, hmax, -⟩ := h'
  obtain ⟨A', len', c', rfl, glen, gmax, -⟩ := g'
  have Hlen := Lib.hid hlen; clear hlen
  have Glen := Lib.hid glen; clear glen
  go_enter Tryd.func19, Tryd.ntmps19
  go_wp2
  go_loop [11] (fun i => ∃ k : Nat, k ≤ len ∧ k ≤ len' ∧ i = .int .i64 k ∧ Sh.cmpI s t = Sh.cmpI (s.drop k) (t.drop k)) (fun i => len - (intOf i).toNat)
  case atStart => exact ⟨0, Nat.zero_le _, Nat.zero_le _, rfl, by simp⟩
  case round =>
    obtain ⟨k, hk, hk', rfl, heq⟩ := hrel
    have Heq := Lib.hid heq; clear heq
    by_cases hlt : k < len
    · obtain ⟨ad, rfl, hb, hc⟩ := h.at_ hlt
      by_cases hlt' : k < len'
      · obtain ⟨ad', rfl, hb', hc'⟩ := g.at_ hlt'
        have hst := @Sh.cmpI_step s t k (by have := Hlen.out; omega) (by have := Glen.out; omega)
        have h1 := @Sh.cmpI_lt s t k (by have := Hlen.out; omega) (by have := Glen.out; omega)
        have h2 := @Sh.cmpI_gt s t k (by have := Hlen.out; omega) (by have := Glen.out; omega)
        generalize s.getD k 0 = x at *
        generalize t.getD k 0 = y at *
        have Hst := Lib.hid hst; clear hst
        have H1 := Lib.hid h1; clear h1
        have H2 := Lib.hid h2; clear h2
        rcases Int.lt_trichotomy x y with hxy | hxy | hxy
        · have hs : Sh.cmpI [x] [y] = -1 := by simp [Sh.cmpI, hxy]
          go_wp2_with (go_at_call 31; refine (cmp_any _ _ _).mono ?_; rintro e w' ⟨rfl, rfl⟩)
          go_ret
          exact ⟨ret_int (by rw [Heq.out]; exact (H1.out hxy).symm), rfl⟩
        · have hs : Sh.cmpI [x] [y] = 0 := by simp [Sh.cmpI, hxy]
          subst hxy
          go_wp2_with (go_at_call 31; refine (cmp_any _ _ _).mono ?_; rintro e w' ⟨rfl, rfl⟩)
          go_round
          case rel => exact ⟨k + 1, by omega, by omega, by go_num, by rw [Heq.out]; exact Hst.out trivial⟩
          case measure => simp [intOf]; omega
        · have hs : Sh.cmpI [x] [y] = 1 := by simp [Sh.cmpI, hxy]; omega
          go_wp2_with (go_at_call 31; refine (cmp_any _ _ _).mono ?_; rintro e w' ⟨rfl, rfl⟩)
          go_ret
          exact ⟨ret_int (by rw [Heq.out]; exact (H2.out hxy).symm), rfl⟩
      · have hend := @Sh.cmpI_longer s t k (by have := Hlen.out; omega) (by have := Glen.out; omega)
        have Hend := Lib.hid hend; clear hend
        go_wp2
        go_ret
        exact ⟨ret_int (by rw [Heq.out, Hend.out]), rfl⟩
    · by_cases hlt' : k < len'
      · have hend := @Sh.cmpI_shorter s t k (by have := Hlen.out; omega) (by have := Glen.out; omega)
        have Hend := Lib.hid hend; clear hend
        go_wp2
        go_ret
        exact ⟨ret_int (by rw [Heq.out, Hend.out]), rfl⟩
      · have hend := @Sh.cmpI_end s t k (by have := Hlen.out; omega) (by have := Glen.out; omega)
        have Hend := Lib.hid hend; clear hend
        go_wp2
        go_ret
        exact ⟨ret_int (by rw [Heq.out, Hend.out]), rfl⟩

end Go.Proofs.YtelememdhpncgaaDoor

/-
  Walks: shape.validRel, the reference's rel.
-/
namespace Go.Proofs.YtelememdhpncgaaDoor
open Go.RowKit

set_option maxRecDepth 100000 in
set_option maxHeartbeats 400000 in
theorem validRel_any (r : Sh.Rel) (v : Value) (n : Int) (w : World) (B : Nat) (hB : B ≤ w.heap.size) (h : Tups w B v r.tuples) (hs : r.name.size ≤ 140737488351232) :
    Calls Tryd.prog 11 #[.agg #[.string r.name, .int .i64 r.arity, v], .int .i64 n] w fun e w' => e = .returned (.bool (Sh.relB n r)) ∧ Below w.heap.size w w' := by
  obtain ⟨name, arity, ts⟩ := r
  simp only at h hs ⊢
  have hdef : Sh.relB n ⟨name, arity, ts⟩ = (decide ((Sh.powE n arity).2 = 0) && Sh.nameB name.toList && (List.range ts.length).all (Sh.tupOk n arity ts)) := rfl
  generalize hpe : Sh.powE n arity = pe at hdef
  obtain ⟨p1, p2⟩ := pe
  simp only at hdef
  have Hpe := Lib.hid hpe; clear hpe
  by_cases hp2 : p2 = 0
  · subst hp2
    cases hnm : Sh.nameB name.toList
    · have hv : Sh.relB n ⟨name, arity, ts⟩ = false := by rw [hdef, hnm]; simp
      have Hv := Lib.hid hv; clear hv
      have Hd := Lib.hid hdef; clear hdef
      have Hnm := Lib.hid hnm; clear hnm
      go_enter Tryd.func11, Tryd.ntmps11
      go_wp2_with (first | (go_at_call 23; refine (power_any _ _ _).mono ?_; rw [Hpe.out]; rintro e w' ⟨rfl, rfl⟩) | (go_at_call 24; refine (name_any _ _ hs).mono ?_; rw [Hnm.out]; rintro e w1 ⟨rfl, hb1⟩))
      go_ret
      exact ⟨ret_bool Hv.out.symm, ((Below.refl _ _).alloc (Nat.le_refl _) _).trans (hb1.mono (by simp))⟩
    · have hv : Sh.relB n ⟨name, arity, ts⟩ = (List.range ts.length).all (Sh.tupOk n arity ts) := by rw [hdef, hnm]; simp
      have Hv := Lib.hid hv; clear hv
      have Hd := Lib.hid hdef; clear hdef
      have Hnm := Lib.hid hnm; clear hnm
      have h' := h
      obtain ⟨A, len, c, rfl, hlen, hmax, -⟩ := h'
      have Hlen := Lib.hid hlen; clear hlen
      go_enter Tryd.func11, Tryd.ntmps11
      go_wp2_with (first
        | (go_at_call 23; refine (power_any _ _ _).mono ?_; rw [Hpe.out]; rintro e w' ⟨rfl, rfl⟩)
        | (go_at_call 24
           refine (name_any _ _ hs).mono ?_
           rw [Hnm.out]
           rintro e w1 ⟨rfl, hb1⟩
           have hblk := (Blk.new w 36 #[.string name, .int .i64 arity, .slice A len c]).below hb1 (by simp)
           have c1 : w1.cell? ⟨w.heap.size, 1, none⟩ = some (.int .i64 arity) := hblk.cell 1
           have c2 : w1.cell? ⟨w.heap.size, 2, none⟩ = some (.slice A len c) := hblk.cell 2
           have ht1 := (h.below (((Below.refl _ _).alloc (Nat.le_refl _) _).mono hB)).below (hb1.mono (by simp; omega))
           have hbw : Below w.heap.size w w1 := ((Below.refl _ _).alloc (Nat.le_refl _) _).trans (hb1.mono (by simp))
           clear hb1 hblk))
      go_loop [27] (fun i => ∃ k : Nat, k ≤ len ∧ i = .int .i64 k ∧ (List.range k).all (Sh.tupOk n arity ts) = true) (fun i => len - (intOf i).toNat)
      case atStart => exact ⟨0, Nat.zero_le _, rfl, by simp⟩
      case round =>
        obtain ⟨k, hk, rfl, hall⟩ := hrel
        by_cases hlt : k < len
        · obtain ⟨ad, u, rfl, hb, hcu, hiu⟩ := ht1.at_ hlt
          have hiu' := hiu
          obtain ⟨A2, n2, c2, rfl, hn2, hm2, -⟩ := hiu'
          have hsucc := Sh.range_all_succ (Sh.tupOk n arity ts) k
          rw [hall, Bool.true_and] at hsucc
          have hfalse : Sh.tupOk n arity ts k = false → Sh.relB n ⟨name, arity, ts⟩ = false := fun hp => by
            rw [Hv.out]; exact Sh.range_all_false _ (by rw [← Hlen.out]; exact hlt) hp
          have htk : Sh.tupOk n arity ts k = (decide (((ts.getD k []).length : Int) = arity) && Sh.inB n (ts.getD k []) && (decide (k = 0) || Sh.lessB (ts.getD (k - 1) []) (ts.getD k []))) := rfl
          have Hall := Lib.hid hall; clear hall
          have Hsucc := Lib.hid hsucc; clear hsucc
          have Hfa := Lib.hid hfalse; clear hfalse
          by_cases hla : (n2 : Int) = arity
          · cases hin : Sh.inB n (ts.getD k [])
            · have Hf := Lib.hid (Hfa.out (by rw [htk, hin]; simp))
              have Hin := Lib.hid hin; clear hin
              have Hla := Lib.hid hla; clear hla
              have Hn2 := Lib.hid hn2; clear hn2
              clear htk
              have hbeq : ((n2 : Int) == arity) = true := by rw [Hla.out]; simp
              have hbne : ((n2 : Int) != arity) = false := by rw [Hla.out]; simp
              go_wp2_with (go_at_call 25; refine (elements_any _ _ _ _ _ hiu).mono ?_; rw [Hin.out]; rintro e w' ⟨rfl, rfl⟩)
              go_ret
              exact ⟨ret_bool Hf.out.symm, hbw⟩
            · rcases k with _ | k
              · rw [show ad.add 0 = ad from rfl] at hcu
                have htk' : Sh.tupOk n arity ts 0 = true := by rw [htk, hin, ← hn2]; simp [hla]
                have Htk := Lib.hid htk'; clear htk' htk
                have Hin := Lib.hid hin; clear hin
                have Hn2 := Lib.hid hn2; clear hn2
                have Hla := Lib.hid hla; clear hla
                have hbeq : ((n2 : Int) == arity) = true := by rw [Hla.out]; simp
                have hbne : ((n2 : Int) != arity) = false := by rw [Hla.out]; simp
                go_wp2_with (go_at_call 25; refine (elements_any _ _ _ _ _ hiu).mono ?_; rw [Hin.out]; rintro e w' ⟨rfl, rfl⟩)
                go_round
                case rel => exact ⟨1, by omega, by go_num, by rw [Hsucc.out]; exact Htk.out⟩
                case measure => simp [intOf]; omega
              · rw [show ad.add (k + 1) = ⟨ad.block, ad.off + (k + 1), none⟩ from rfl] at hcu
                have hprev := Sh.tupOk_len (Sh.range_all_get Hall.out (show k < k + 1 by omega))
                obtain ⟨ad', u', hadeq, hb', hcu', hiu'⟩ := ht1.at_ (show k < len by omega)
                injection hadeq with hadeq
                subst hadeq
                have hcl := Sh.cmpI_less (ts.getD k []) (ts.getD (k + 1) []) (by omega)
                have htk' : Sh.tupOk n arity ts (k + 1) = Sh.lessB (ts.getD k []) (ts.getD (k + 1) []) := by rw [htk, hin, ← hn2]; simp [hla]
                have Htk := Lib.hid htk'; clear htk' htk
                have Hin := Lib.hid hin; clear hin
                have Hn2 := Lib.hid hn2; clear hn2
                have Hla := Lib.hid hla; clear hla
                have Hprev := Lib.hid hprev; clear hprev
                have hbeq : ((n2 : Int) == arity) = true := by rw [Hla.out]; simp
                have hbne : ((n2 : Int) != arity) = false := by rw [Hla.out]; simp
                generalize hci : Sh.cmpI (ts.getD k []) (ts.getD (k + 1) []) = ci at *
                have Hci := Lib.hid hci; clear hci
                by_cases h0 : ci < 0
                · have hl := Hsucc.out.trans (Htk.out.trans (hcl.1 h0))
                  have Hl := Lib.hid hl; clear hl hcl
                  go_wp2_with (first | (go_at_call 25; refine (elements_any _ _ _ _ _ hiu).mono ?_; rw [Hin.out]; rintro e w' ⟨rfl, rfl⟩) | (go_at_call 19; refine (compare_any _ _ _ _ _ _ hiu' hiu).mono ?_; rw [Hci.out]; rintro e w' ⟨rfl, rfl⟩))
                  go_round
                  case rel => exact ⟨k + 1 + 1, by omega, by go_num, Hl.out⟩
                  case measure => simp [intOf]; omega
                · have hl : Sh.lessB (ts.getD k []) (ts.getD (k + 1) []) = false := by
                    cases hb : Sh.lessB (ts.getD k []) (ts.getD (k + 1) [])
                    · rfl
                    · exact absurd (hcl.2 hb) h0
                  have Hf := Lib.hid (Hfa.out (Htk.out.trans hl))
                  clear hl hcl
                  go_wp2_with (first | (go_at_call 25; refine (elements_any _ _ _ _ _ hiu).mono ?_; rw [Hin.out]; rintro e w' ⟨rfl, rfl⟩) | (go_at_call 19; refine (compare_any _ _ _ _ _ _ hiu' hiu).mono ?_; rw [Hci.out]; rintro e w' ⟨rfl, rfl⟩))
                  go_ret
                  exact ⟨ret_bool Hf.out.symm, hbw⟩
          · have Hf := Lib.hid (Hfa.out (by rw [htk, ← hn2, decide_eq_false hla]; simp))
            have Hn2 := Lib.hid hn2; clear hn2
            have hbeq : ((n2 : Int) == arity) = false := by simpa using hla
            have hbne : ((n2 : Int) != arity) = true := by simpa using hla
            clear htk
            go_wp2
            go_ret
            exact ⟨ret_bool Hf.out.symm, hbw⟩
        · obtain rfl : k = len := by omega
          have hfin := Hv.out
          rw [← Hlen.out, hall] at hfin
          have Hfin := Lib.hid hfin; clear hfin hall
          go_wp2
          go_ret
          exact ⟨ret_bool Hfin.out.symm, hbw⟩
  · have hv : Sh.relB n ⟨name, arity, ts⟩ = false := by rw [hdef]; simp [hp2]
    have Hv := Lib.hid hv; clear hv
    have Hd := Lib.hid hdef; clear hdef
    go_enter Tryd.func11, Tryd.ntmps11
    go_wp2_with (go_at_call 23; refine (power_any _ _ _).mono ?_; rw [Hpe.out]; rintro e w' ⟨rfl, rfl⟩)
    go_ret
    exact ⟨ret_bool Hv.out.symm, (Below.refl _ _).alloc (Nat.le_refl _) _⟩

end Go.Proofs.YtelememdhpncgaaDoor

/-
  Walks: shape.Valid, the reference's Valid.
-/
namespace Go.Proofs.YtelememdhpncgaaDoor
open Go.RowKit
open Go.Maps (Keyed)
open Go.ChangeMaps Go.MapKept

/-! ### a set of names: map[string]bool, made by the call -/

theorem plainElem_bool_inv {H : Type} {P : Program} {e : TypeId} (he : P.underlying e = some .bool) {v : Value} {z : DataW H × List MemPlace} (h : plainElem P e v = some z) : ∃ x, v = .bool x ∧ z = (.lit (.bool x), []) := by
  unfold plainElem at h
  rw [he] at h
  cases v <;> simp at h
  exact ⟨_, rfl, h.symm⟩

theorem wpList_lookup_own_bool {H : Type} {P : Program} (w : World) {ops : Array Oper} {rest : List Oper} {o : Oper} {a : Act} {Q : Exit → Act → World → Prop}
    (hg : o.guard = none) (m x : Operand) (t : TypeId) (hop : o.op = Op.lookup t m x false)
    (k e : TypeId) (K : Keyed P k) (ht : P.underlying t = some (.map k e)) (he : P.underlying e = some .bool) (hz : (zeroValue e).run P w = .ok (.bool false) w) (b n : Nat) (D : DataW H)
    (hm : a.eval m = .map (some b)) (hown : w.ownsMap P k (plainElem P e) b n D) (key : Value) (kl : Lit) (hx : a.eval x = key) (hkey : keyOf P k key = some kl) (c : Bool)
    (hat : D.atKey kl (.lit (.bool false)) = .lit (.bool c))
    (hK : wpList P ops Q rest (a.put o.dst (.bool c)) w) :
    wpList P ops Q (o :: rest) a w := by
  refine wpList_plain hg fun K' hK' => ?_
  obtain ⟨v, ps, hrun, hv⟩ := hown.lookup K ht hz (plainElem_bool he false) hkey
  obtain ⟨c', rfl, hc⟩ := plainElem_bool_inv he hv
  simp only [Prod.mk.injEq] at hc
  have e1 : c' = c := by
    have := hc.1.symm.trans hat
    injection this with this
    injection this
  subst e1
  unfold Oper.wp
  simp [execOp, hop, hm, hx, hrun, Result.andThen]
  exact hK' _ _ hK

/-- The datum of a set of names. -/
def nameSet (l : List (List UInt8)) : DataW Unit := l.foldl (fun D s => D.put (.string s) (.lit (.bool true))) (.map [])
theorem nameSet_snoc (l : List (List UInt8)) (s : List UInt8) : nameSet (l ++ [s]) = (nameSet l).put (.string s) (.lit (.bool true)) := by
  unfold nameSet; rw [List.foldl_append]; rfl

theorem fold_at (s : List UInt8) : ∀ (l : List (List UInt8)) (D : DataW Unit) (c : Bool), Go.Maps.IsMap D → D.atKey (.string s) (.lit (.bool false)) = .lit (.bool c) →
    (l.foldl (fun D s => D.put (.string s) (.lit (.bool true))) D).atKey (.string s) (.lit (.bool false)) = .lit (.bool (c || l.contains s))
  | [], D, c, _, h => by simpa using h
  | x :: l, D, c, hm, h => by
    rw [List.foldl_cons, fold_at s l _ (c || (x == s)) (hm.put _ _) ?_]
    · congr 2
      rw [List.contains_cons, Bool.or_assoc]
      congr 2
      exact Bool.eq_iff_iff.2 ⟨fun h => by simp at h; simp [h], fun h => by simp at h; simp [h]⟩
    · by_cases hx : x = s
      · subst hx
        rw [Go.Maps.atKey_put_same hm (by trivial)]
        simp
      · rw [Go.Maps.atKey_put_other (by intro e; injection e with e; exact hx e.symm), h]
        simp [hx]
theorem nameSet_at (l : List (List UInt8)) (s : List UInt8) : (nameSet l).atKey (.string s) (.lit (.bool false)) = .lit (.bool (l.contains s)) := by
  have := fold_at s l (.map []) false Go.Maps.isMap_empty rfl
  simpa [nameSet] using this

theorem names_keyed : Keyed Tryd.prog 9 := Go.Maps.string_keyed Tryd.underlying9
theorem zero_bool (w : World) : (zeroValue 4).run Tryd.prog w = .ok (.bool false) w := by kernel_rfl

/-- The map in block b holds just these names, each true. -/
def NameSet (w : World) (b n : Nat) (l : List (List UInt8)) : Prop := w.ownsMap Tryd.prog 9 (plainElem Tryd.prog 4) b n (nameSet l)

theorem NameSet.made (w : World) : NameSet (w.alloc (.map #[] 0)) w.heap.size 0 [] := World.ownsMap_made _ _ _ _
theorem NameSet.below {w w' : World} {B b n : Nat} {l : List (List UInt8)} (h : NameSet w b n l) (hb : Below B w w') (hB : b < B) : NameSet w' b n l := by
  obtain ⟨es, clock, h1, h2⟩ := h
  exact ⟨es, clock, (hb.block b hB).trans h1, h2⟩

set_option maxRecDepth 100000 in
set_option maxHeartbeats 400000 in
theorem valid_any (size : Int) (v : Value) (rs : List Sh.Rel) (w : World) (B : Nat) (hB : B ≤ w.heap.size) (h : Rels w B v rs) :
    Calls Tryd.prog 5 #[.agg #[.int .i64 size, v]] w fun e w' => e = .returned (.bool (Sh.validB ⟨size, rs⟩)) ∧ Below w.heap.size w w' := by
  have h' := h
  obtain ⟨A, len, c, rfl, hlen, hmax, -⟩ := h'
  have hdef : Sh.validB ⟨size, rs⟩ = (decide (1 ≤ size) && decide (size ≤ 64) && decide (len ≤ 8) && (List.range len).all (Sh.relAt size rs)) := by rw [hlen]; rfl
  have Hlen := Lib.hid hlen; clear hlen
  by_cases h1 : size < 1
  · have hv : Sh.validB ⟨size, rs⟩ = false := by rw [hdef, decide_eq_false (by omega)]; simp
    have Hv := Lib.hid hv; clear hv hdef
    go_enter Tryd.func5, Tryd.ntmps5
    go_wp2
    go_ret
    exact ⟨ret_bool Hv.out.symm, (Below.refl _ _).alloc (Nat.le_refl _) _⟩
  · by_cases h2 : 64 < size
    · have hv : Sh.validB ⟨size, rs⟩ = false := by rw [hdef, decide_eq_false (show ¬ size ≤ 64 by omega)]; simp
      have Hv := Lib.hid hv; clear hv hdef
      go_enter Tryd.func5, Tryd.ntmps5
      go_wp2
      go_ret
      exact ⟨ret_bool Hv.out.symm, (Below.refl _ _).alloc (Nat.le_refl _) _⟩
    · by_cases h3 : 8 < len
      · have hv : Sh.validB ⟨size, rs⟩ = false := by rw [hdef, decide_eq_false (show ¬ len ≤ 8 by omega)]; simp
        have Hv := Lib.hid hv; clear hv hdef
        go_enter Tryd.func5, Tryd.ntmps5
        go_wp2
        go_ret
        exact ⟨ret_bool Hv.out.symm, (Below.refl _ _).alloc (Nat.le_refl _) _⟩
      · have hv : Sh.validB ⟨size, rs⟩ = (List.range len).all (Sh.relAt size rs) := by rw [hdef, decide_eq_true (by omega), decide_eq_true (by omega), decide_eq_true (by omega)]; simp
        have Hv := Lib.hid hv; clear hv hdef
        have hmm := @run_makeMap Tryd.prog
        go_enter Tryd.func5, Tryd.ntmps5
        go_wp2
        go_loopw [24] (fun i wr => ∃ k : Nat, k ≤ len ∧ i = .int .i64 k ∧ (List.range k).all (Sh.relAt size rs) = true ∧ Blk wr w.heap.size 24 #[.int .i64 size, .slice A len c] ∧
          NameSet wr (w.heap.size + 1) k ((rs.take k).map (·.name.toList)) ∧ Below w.heap.size w wr ∧ w.heap.size + 2 ≤ wr.heap.size) (fun i _ => len - (intOf i).toNat)
        case atStart =>
          refine ⟨0, Nat.zero_le _, rfl, by simp, (Blk.new w _ _).alloc _, ?_, ((Below.refl _ _).alloc (Nat.le_refl _) _).alloc (by simp) _, by simp⟩
          have := NameSet.made (w.alloc (.cells #[.int .i64 size, .slice A len c] 24))
          simpa using this
        case round =>
          obtain ⟨k, hk, rfl, hall, hblk, hset, hbel, hsz⟩ := hrel
          have Hset := Lib.hid hset; clear hset
          by_cases hlt : k < len
          · obtain ⟨ad, u, r, rfl, hb, hr, hc0, hc1, hc2, htu, hrs⟩ := (h.below (hbel.mono hB)).at_ hlt
            have hs1 : wr.cell? ⟨w.heap.size, 1, none⟩ = some (.slice (some ad) len c) := hblk.cell 1
            have hs0 : wr.cell? ⟨w.heap.size, 0, none⟩ = some (.int .i64 size) := hblk.cell 0
            have Hall := Lib.hid hall; clear hall
            have Hr := Lib.hid hr; clear hr
            have htu' := htu
            obtain ⟨A2, n2, c2, rfl, -, -, -⟩ := htu'
            have hkey : keyOf Tryd.prog 9 (.string r.name) = some (.string r.name.data.toList) := Go.WideMaps.keyOf_string_mk Tryd.underlying9 (by unfold maxLen; omega)
            have Hkey := Lib.hid hkey; clear hkey
            have hat := nameSet_at ((rs.take k).map (·.name.toList)) r.name.data.toList
            have Hat := Lib.hid hat; clear hat
            have hrel : Sh.relAt size rs k = (Sh.relB size r && !((rs.take k).map (·.name.toList)).contains r.name.toList) := by unfold Sh.relAt; rw [Hr.out]
            rw [ByteArray.toList_eq r.name] at hrel
            have hfalse : Sh.relAt size rs k = false → Sh.validB ⟨size, rs⟩ = false := fun hp => by
              rw [Hv.out]; exact Sh.range_all_false _ hlt hp
            have hsucc := Sh.range_all_succ (Sh.relAt size rs) k
            rw [Hall.out, Bool.true_and] at hsucc
            have hsn : (rs.take (k + 1)).map (·.name.toList) = (rs.take k).map (·.name.toList) ++ [r.name.data.toList] := by
              have hl : k < rs.length := by have := Hlen.out; omega
              have hr' := Hr.out
              rw [List.getElem?_eq_getElem hl] at hr'
              injection hr' with hr'
              rw [List.take_succ_eq_append_getElem hl, List.map_append, hr', ← ByteArray.toList_eq]
              rfl
            have Hset0 := Hset.out.below (Below.alloc (Below.refl wr.heap.size _) (Nat.le_refl _) (.cells #[.string r.name, .int .i64 r.arity, .slice A2 n2 c2] 36)) (by omega)
            have Hset1 := Lib.hid Hset0; clear Hset0
            have htu1 : Tups (wr.alloc (.cells #[.string r.name, .int .i64 r.arity, .slice A2 n2 c2] 36)) B (.slice A2 n2 c2) r.tuples := htu.below (Below.alloc (Below.refl _ _) (by omega) _)
            have hs0' : (wr.alloc (.cells #[.string r.name, .int .i64 r.arity, .slice A2 n2 c2] 36)).cell? ⟨w.heap.size, 0, none⟩ = some (.int .i64 size) :=
              ((Below.alloc (Below.refl wr.heap.size _) (Nat.le_refl _) _).cell (p := ⟨w.heap.size, 0, none⟩) (by simp; omega)).trans hs0
            have Hrel := Lib.hid hrel; clear hrel
            have Hfa := Lib.hid hfalse; clear hfalse
            have Hsucc := Lib.hid hsucc; clear hsucc
            have Hsn := Lib.hid hsn; clear hsn
            cases hcon : ((rs.take k).map (·.name.toList)).contains r.name.data.toList
            · have Hcon := Lib.hid hcon; clear hcon
              cases hrb : Sh.relB size r
              · have Hrb := Lib.hid hrb; clear hrb
                go_wp2_with (first
                  | (at_lookup; refine wpList_lookup_own_bool _ rfl _ _ 42 rfl 9 4 names_keyed Tryd.underlying42 Tryd.underlying4 (zero_bool _) (w.heap.size + 1) k _ rfl Hset1.out _ _ rfl Hkey.out _ Hat.out ?_; rw [Hcon.out])
                  | (go_at_call 11; refine (validRel_any r _ _ _ B (by simp; omega) htu1 hrs).mono ?_; rw [Hrb.out]; rintro e w1 ⟨rfl, hb1⟩))
                go_ret
                exact ⟨ret_bool (Hfa.out (by rw [Hrel.out, Hrb.out]; rfl)).symm, (hbel.alloc (by omega) _).trans (hb1.mono (by simp; omega))⟩
              · have Hrb := Lib.hid hrb; clear hrb
                go_wp2_with (first
                  | (at_lookup; refine wpList_lookup_own_bool _ rfl _ _ 42 rfl 9 4 names_keyed Tryd.underlying42 Tryd.underlying4 (zero_bool _) (w.heap.size + 1) k _ rfl Hset1.out _ _ rfl Hkey.out _ Hat.out ?_; rw [Hcon.out])
                  | (go_at_call 11
                     refine (validRel_any r _ _ _ B (by simp; omega) htu1 hrs).mono ?_
                     rw [Hrb.out]
                     rintro e w1 ⟨rfl, hb1⟩
                     have hbox := (Blk.new wr 36 #[.string r.name, .int .i64 r.arity, .slice A2 n2 c2]).below hb1 (by simp)
                     have hn1 : w1.cell? ⟨wr.heap.size, 0, none⟩ = some (.string r.name) := hbox.cell 0
                     have hset1 := Hset1.out.below hb1 (by simp; omega)
                     have Hset2 := Lib.hid hset1; clear hset1
                     have hbw1 : Below wr.heap.size wr w1 := ((Below.refl _ _).alloc (Nat.le_refl _) _).trans (hb1.mono (by simp))
                     clear hb1 hbox)
                  | (at_mapUpdate; refine wpList_mapUpdate_own _ rfl _ _ _ 42 rfl 9 4 names_keyed Tryd.underlying42 _ (w.heap.size + 1) k _ rfl Hset2.out (by unfold maxLen; omega) _ _ _ rfl rfl Hkey.out _ [] (plainElem_bool Tryd.underlying4 true) ?_; intro w2 hown2 hgrow2))
                have hb2 : Below w.heap.size w w1 := hbel.trans (hbw1.mono (by omega))
                have hsz1 := hbw1.size
                have hsz2 := hgrow2.size
                refine ⟨⟨k + 1, by omega, by go_num, ?_, ?_, ?_, ?_, by omega⟩, by simp [intOf]; omega⟩
                · rw [Hsucc.out, Hrel.out, Hrb.out, Hcon.out]; rfl
                · exact (hblk.below hbw1 (by omega)).grown hgrow2 (by simp)
                · rw [Hsn.out]; unfold NameSet; rw [nameSet_snoc]; exact hown2
                · exact hb2.grown hgrow2 (by omega) (by intro g hg; injection hg with hg; omega)
            · have Hcon := Lib.hid hcon; clear hcon
              go_wp2_with (at_lookup; refine wpList_lookup_own_bool _ rfl _ _ 42 rfl 9 4 names_keyed Tryd.underlying42 Tryd.underlying4 (zero_bool _) (w.heap.size + 1) k _ rfl Hset1.out _ _ rfl Hkey.out _ Hat.out ?_; rw [Hcon.out])
              go_ret
              exact ⟨ret_bool (Hfa.out (by rw [Hrel.out, Hcon.out]; simp)).symm, hbel.alloc (by omega) _⟩
          · obtain rfl : k = len := by omega
            have hfin := Hv.out
            rw [hall] at hfin
            have Hfin := Lib.hid hfin; clear hfin hall
            go_wp2
            go_ret
            exact ⟨ret_bool Hfin.out.symm, hbel⟩

end Go.Proofs.YtelememdhpncgaaDoor
