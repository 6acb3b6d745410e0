/-
  Walk: ShapePut.
-/
import Derived.Test.YtjkaicpohihncaaDoorPut
import Derived.Test.YtjkaicpohihncaaDoorExcept
import Derived.Test.YtjkaicpohihncaaDoorChgs
import Derived.Test.YtjkaicpohihncaaDoorFew
import Derived.Test.YtjkaicpohihncaaDoorAlive
import Derived.Deep.CutRange
import Derived.Deep.RegionHeld3
namespace Go.Proofs.YtjkaicpohihncaaDoor
open Go.RowKit

private theorem bel_alloc2 {a W : World} (h : Below a.heap.size a W) (o : Obj) : Below a.heap.size a (W.alloc o) := h.alloc h.size o

set_option maxRecDepth 100000 in
set_option maxHeartbeats 16000000 in
theorem sput_any (size : Int) (v u : Value) (rs : List Sh.Rel) (l : List (ByteArray × List Int × Bool)) (w : World) (h : Rels w w.heap.size v rs) (g : Chgs w w.heap.size u l) (hv : Vars w) (hw : 5 ≤ w.heap.size) :
    Calls Tryd.prog 7 #[.agg #[.int .i64 size, v], u] w fun e w' => e = .returned (.bool true) ∧ Below w.heap.size w w' := by
  have h' := h
  obtain ⟨A, len, c, rfl, -, hmax, -⟩ := h'
  have g' := g
  obtain ⟨A', m, c', rfl, -, hmm, -⟩ := g'
  have hb1 := (Below.refl w.heap.size w).alloc (Nat.le_refl _) (.cells #[.int .i64 size, .slice A len c] 24)
  have hbx := Blk.alloc (Blk.new w 24 #[.int .i64 size, .slice A len c]) (.cells #[.int .i64 size, .slice A len c] 24)
  have hbel := (hb1.alloc (by simp) (.cells #[.int .i64 size, .slice A len c] 24))
  have hvar := Blk.new (w.alloc (.cells #[.int .i64 size, .slice A len c] 24)) 24 #[.int .i64 size, .slice A len c]
  rw [World.size_alloc] at hvar
  have hrels := h.below hbel
  have hval := valid_any size (.slice A len c) rs _ w.heap.size hbel.size hrels
  generalize Sh.validB ⟨size, rs⟩ = bv at hval
  have Hbx := Lib.hid hbx; clear hbx
  have Hbel := Lib.hid hbel; clear hbel
  have Hvar := Lib.hid hvar; clear hvar
  have Hrels := Lib.hid hrels; clear hrels
  have Hval := Lib.hid hval; clear hval
  clear hb1
  go_enter Tryd.func7, Tryd.ntmps7
  go_wp2_with (first
    | (go_at_call 12
       refine (few_any (w.heap.size + 1) size A len c _ rs _ Hvar.out Hrels.out).mono ?_
       rintro e w1 ⟨⟨b1, rfl⟩, rfl⟩)
    | (go_at_call 16
       refine Hval.out.mono ?_
       rintro e w2 ⟨rfl, hb2⟩
       have hs2 := Hbx.out.below hb2 Hbx.out.lt
       have hsc1 : w2.cell? ⟨w.heap.size, 1, none⟩ = some (.slice A len c) := hs2.cell 1
       have Hbel2 := Lib.hid (Hbel.out.trans (hb2.mono Hbel.out.size))
       have Hs2 := Lib.hid hs2
       clear hs2 hb2)
    | (go_at_call 13
       refine (alive_any _ (hv.below Hbel2.out hw) (Nat.le_trans hw (Below.size Hbel2.out))).mono ?_
       rintro e w9 ⟨rfl, hb9⟩
       have Hb9 := Lib.hid (Below.trans Hbel2.out (hb9.mono (Below.size Hbel2.out))))
    | (go_at_call 13
       refine (alive_any _ (hv.below Hbel.out hw) (Nat.le_trans hw (Below.size Hbel.out))).mono ?_
       rintro e w9 ⟨rfl, hb9⟩
       have Hb9 := Lib.hid (Below.trans Hbel.out (hb9.mono (Below.size Hbel.out)))))
  all_goals first
    | (refine ⟨rfl, .bool true, ?_, rfl, Hb9.out⟩
       simp [results, Tryd.f7, go_sem])
    | skip
  go_loop [5, 6] (fun t i => ∃ (T : Int) (k : Nat), k ≤ len ∧ t = .int .i64 T ∧ i = .int .i64 k) (fun _ i => len - (intOf i).toNat)
  case atStart => exact ⟨0, 0, Nat.zero_le _, rfl, rfl⟩
  case round =>
    obtain ⟨T, k, hk, rfl, rfl⟩ := hrel
    by_cases hlt : k < len
    · obtain ⟨ad, u1, r, rfl, -, -, -, -, hc2, htu, -⟩ := (h.below Hbel2.out).at_ hlt
      have htu' := htu
      obtain ⟨A2, n2, c2, rfl, -⟩ := htu'
      go_wp2
      exact ⟨⟨_, k + 1, by omega, rfl, by go_num⟩, by simp [intOf]; omega⟩
    · skip
      go_wp2_with (first
        | (go_at_call 13
           refine (alive_any _ (hv.below Hbel2.out hw) (Nat.le_trans hw (Below.size Hbel2.out))).mono ?_
           rintro e w9 ⟨rfl, hb9⟩
           have Hb9 := Lib.hid (Below.trans Hbel2.out (hb9.mono (Below.size Hbel2.out)))))
      all_goals first
        | (refine ⟨rfl, .bool true, ?_, rfl, Hb9.out⟩
           simp [results, Tryd.f7, go_sem])
        | skip
      clear hsc1 hlt hk
      go_loopw [7] (fun i wr => ∃ (k : Nat) (cur : Value) (qs : List Sh.Rel), k ≤ m ∧ i = .int .i64 k ∧ Blk wr w.heap.size 24 #[.int .i64 size, cur] ∧ (Rels wr w.heap.size cur qs ∨ ∃ L, NRels wr L cur qs) ∧ Below w.heap.size w wr) (fun i _ => m - (intOf i).toNat)
      case atStart => exact ⟨0, _, rs, Nat.zero_le _, rfl, Hs2.out, .inl (h.below Hbel2.out), Hbel2.out⟩
      case round =>
        clear Hs2 Hbel2 Hbx Hbel Hvar Hrels Hval
        obtain ⟨k, cur, qs, hk, rfl, hs, hrn, hbel⟩ := hrel
        have hbz := hbel.size
        have hr : Rels wr wr.heap.size cur qs := by
          rcases hrn with h1 | ⟨L, h1⟩
          · exact h1.more hbz
          · exact h1.rels
        have Hrn := Lib.hid hrn; clear hrn
        have hr' := hr
        obtain ⟨CA, CN, CC, rfl, -⟩ := hr'
        have Hbel := Lib.hid hbel
        by_cases hlt : k < m
        · obtain ⟨ad, uT, ⟨nm, t, is⟩, rfl, hab, -, c0, c1, c2, hti⟩ := (g.below hbel).at_ hlt
          simp only at c0 c2 hti
          have hti' := hti
          obtain ⟨TA, TN, TC, rfl, -⟩ := hti'
          have hall : ∀ W, Below wr.heap.size wr W → (W.cell? ⟨w.heap.size, 0, none⟩ = some (.int .i64 size) ∧ W.cell? ⟨w.heap.size, 1, none⟩ = some (.slice CA CN CC) ∧ W.cell? (ad.add (k * 3)) = some (.string nm) ∧ W.cell? ⟨(ad.add (k * 3)).block, (ad.add (k * 3)).off + 1, none⟩ = some (.slice TA TN TC) ∧ W.cell? ⟨(ad.add (k * 3)).block, (ad.add (k * 3)).off + 2, none⟩ = some (.bool is) ∧ Below wr.heap.size wr W) := fun W hW =>
            ⟨(hW.cell (p := ⟨w.heap.size, 0, none⟩) hs.lt).trans (hs.cell 0), (hW.cell (p := ⟨w.heap.size, 1, none⟩) hs.lt).trans (hs.cell 1), (hW.cell (by rw [block_of_add]; omega)).trans c0, (hW.cell (by show (ad.add _).block < _; rw [block_of_add]; omega)).trans c1, (hW.cell (by show (ad.add _).block < _; rw [block_of_add]; omega)).trans c2, hW⟩
          have Hall := Lib.hid hall; clear hall
          have Hs := Lib.hid hs; clear hs
          have Hr := Lib.hid hr; clear hr
          have Hti := Lib.hid hti; clear hti
          have Hk := Lib.hid hk; clear hk
          have Hbz := Lib.hid hbz; clear hbz
          have Hab := Lib.hid hab; clear hab
          clear hbel
          go_upto_region 15 with (first
            | (go_at_call 13
               refine (alive_any _ (hv.below Hbel.out hw) (Nat.le_trans hw (Below.size Hbel.out))).mono ?_
               rintro e w9 ⟨rfl, hb9⟩
               have Hb9 := Lib.hid (Below.trans Hbel.out (hb9.mono (Below.size Hbel.out)))))
          all_goals first
            | (refine ⟨rfl, .bool true, ?_, rfl, Hb9.out⟩
               simp [results, Tryd.f7, go_sem])
            | skip
          clear c0 c1 c2
          obtain ⟨x0, x1, x2, x3, x4, x5⟩ := Hall.out wr (Below.refl _ _)
          by_cases hput : (Sh.relForE ⟨size, qs⟩ nm.toList t.length).2 = 0 ∧ Sh.inB size t = true
          · obtain ⟨hvb, k2, r, e1, -, e3, e4, e5⟩ := Sh.relFor_ok hput.1
            have hin := hput.2
            have hhas := Sh.has_put hvb e3 e4 e5.symm hin is
            have hexc := Sh.except_put hvb e3 e4 e5.symm hin is
            have hvb2 := Sh.put_valid hvb e3 e5.symm hin is
            have hcall : ∀ W, (W.cell? ⟨w.heap.size, 0, none⟩ = some (.int .i64 size) ∧ W.cell? ⟨w.heap.size, 1, none⟩ = some (.slice CA CN CC) ∧ W.cell? (ad.add (k * 3)) = some (.string nm) ∧ W.cell? ⟨(ad.add (k * 3)).block, (ad.add (k * 3)).off + 1, none⟩ = some (.slice TA TN TC) ∧ W.cell? ⟨(ad.add (k * 3)).block, (ad.add (k * 3)).off + 2, none⟩ = some (.bool is) ∧ Below wr.heap.size wr W) → Calls Tryd.prog 34 #[.agg #[.int .i64 size, .slice CA CN CC], .string nm, .slice TA TN TC, .bool is] W fun e w' => ∃ x, e = .returned (.tuple #[.agg #[.int .i64 size, x], .int .i64 0]) ∧ NRels w' W.heap.size x (Sh.putR qs k2 t is) ∧ Below W.heap.size W w' ∧ (w'.cell? ⟨w.heap.size, 0, none⟩ = some (.int .i64 size) ∧ w'.cell? ⟨w.heap.size, 1, none⟩ = some (.slice CA CN CC) ∧ w'.cell? (ad.add (k * 3)) = some (.string nm) ∧ w'.cell? ⟨(ad.add (k * 3)).block, (ad.add (k * 3)).off + 1, none⟩ = some (.slice TA TN TC) ∧ w'.cell? ⟨(ad.add (k * 3)).block, (ad.add (k * 3)).off + 2, none⟩ = some (.bool is) ∧ Below wr.heap.size wr w') := fun W hW => by
              have hWb := hW.2.2.2.2.2
              refine (put_ok size _ qs nm _ t is k2 r W wr.heap.size hWb.size (Hr.out.below hWb) ((Hti.out.below (hWb.mono Hbz.out)).more Hbz.out) hvb e1 e3 e5.symm hin).mono ?_
              rintro e w' ⟨x, rfl, hn, hb⟩
              exact ⟨x, rfl, hn, hb, Hall.out w' (hWb.trans (hb.mono hWb.size))⟩
            have Hput := Lib.hid hcall; clear hcall
            have Hhas := Lib.hid hhas; clear hhas
            have Hexc := Lib.hid hexc; clear hexc
            have Hvb2 := Lib.hid hvb2; clear hvb2
            clear hput hvb e1 e3 e4 e5 hin
            generalize Sh.putR qs k2 t is = qs2 at *
            go_cut [8, 9] from 46 to 154 (fun s8 s9 wx => ∃ (G : Nat) (x : Value) (L : Nat), s8 = .pointer (some ⟨G, 0, none⟩) ∧ s9 = .int .i64 0 ∧ wr.heap.size ≤ G ∧ Blk wx G 24 #[.int .i64 size, x] ∧ NRels wx L x qs2 ∧ Below wr.heap.size wr wx)
            case first =>
              go_region_held3 (fun W => W.cell? ⟨w.heap.size, 0, none⟩ = some (.int .i64 size) ∧ W.cell? ⟨w.heap.size, 1, none⟩ = some (.slice CA CN CC) ∧ W.cell? (ad.add (k * 3)) = some (.string nm) ∧ W.cell? ⟨(ad.add (k * 3)).block, (ad.add (k * 3)).off + 1, none⟩ = some (.slice TA TN TC) ∧ W.cell? ⟨(ad.add (k * 3)).block, (ad.add (k * 3)).off + 2, none⟩ = some (.bool is) ∧ Below wr.heap.size wr W)
                (first
                  | assumption
                  | (refine Hall.out _ ?_
                     repeat (first | exact Below.refl _ _ | exact And.right (And.right (And.right (And.right (And.right (by assumption))))) | refine Below.drew ?_ | refine Below.setCell ?_ (by first | simp | (simp; omega)) _ | refine bel_alloc2 ?_ _)))
                (first
                  | (go_at_call 34; refine (Hput.out _ (by assumption)).mono ?_; rintro e w1 ⟨x, rfl, hn1, hb1, hc1⟩; have hz1 : wr.heap.size ≤ w1.heap.size := hc1.2.2.2.2.2.size
                     have hn1' := hn1
                     obtain ⟨XA, XN, XC, rfl, -⟩ := hn1'
                     first
                       | (have hbx1 : Blk w1 wr.heap.size 24 #[.int .i64 0, .slice none 0 0] := (Blk.new wr.drew 24 #[.int .i64 0, .slice none 0 0]).below hb1 (by simp)
                          have hbc0 : w1.cell? ⟨wr.heap.size, 0, none⟩ = some (.int .i64 0) := hbx1.cell 0
                          have hbc1 : w1.cell? ⟨wr.heap.size, 1, none⟩ = some (.slice none 0 0) := hbx1.cell 1
                          have hbf0 := hbx1.frozen 0
                          have hbf1 := hbx1.frozen 1)
                       | skip))
              all_goals go_wp2_with fail
              all_goals first
                | (go_meet
                   exact ⟨w1.heap.size, _, _, rfl, rfl, hz1, Blk.new w1 _ _, hn1.keep (Keeps.alloc _ _ w1 _), bel_alloc2 hc1.2.2.2.2.2 _⟩)
                | (go_meet
                   exact ⟨wr.heap.size, _, _, rfl, rfl, Nat.le_refl _, (hbx1.set_ 0 _).set_ 1 _, hn1.keep ((Keeps.setCell (p := ⟨wr.heap.size, 0, none⟩) hbx1 (by decide) _).trans (Keeps.setCell (p := ⟨wr.heap.size, 1, none⟩) (hbx1.set_ 0 _) (by decide) _)), (hc1.2.2.2.2.2.setCell (by simp) _).setCell (by simp) _⟩)
            case rest =>
              clear Hput x0 x1 x2 x3 x4 x5
              obtain ⟨G, x, L, rfl, rfl, hG, hbG, hnc, hbw⟩ := hcut
              have hnc' := hnc
              obtain ⟨XA, XN, XC, rfl, -⟩ := hnc'
              have hGl := hbG.lt
              have hwz := hbw.size
              have hslt := Hs.out.lt
              have hrc := hnc.rels
              have hall2 : ∀ W, Below wc.heap.size wc W → (W.cell? ⟨w.heap.size, 0, none⟩ = some (.int .i64 size) ∧ W.cell? ⟨w.heap.size, 1, none⟩ = some (.slice CA CN CC) ∧ W.cell? ⟨G, 0, none⟩ = some (.int .i64 size) ∧ W.cell? ⟨G, 1, none⟩ = some (.slice XA XN XC) ∧ W.cell? (ad.add (k * 3)) = some (.string nm) ∧ W.cell? ⟨(ad.add (k * 3)).block, (ad.add (k * 3)).off + 1, none⟩ = some (.slice TA TN TC) ∧ W.cell? ⟨(ad.add (k * 3)).block, (ad.add (k * 3)).off + 2, none⟩ = some (.bool is) ∧ Below wc.heap.size wc W) := fun W hW => by
                obtain ⟨q0, q1, q2, q3, q4, -⟩ := Hall.out W (hbw.trans (hW.mono hwz))
                exact ⟨q0, q1, (hW.cell (p := ⟨G, 0, none⟩) hGl).trans (hbG.cell 0), (hW.cell (p := ⟨G, 1, none⟩) hGl).trans (hbG.cell 1), q2, q3, q4, hW⟩
              have hcH : ∀ W, (W.cell? ⟨w.heap.size, 0, none⟩ = some (.int .i64 size) ∧ W.cell? ⟨w.heap.size, 1, none⟩ = some (.slice CA CN CC) ∧ W.cell? ⟨G, 0, none⟩ = some (.int .i64 size) ∧ W.cell? ⟨G, 1, none⟩ = some (.slice XA XN XC) ∧ W.cell? (ad.add (k * 3)) = some (.string nm) ∧ W.cell? ⟨(ad.add (k * 3)).block, (ad.add (k * 3)).off + 1, none⟩ = some (.slice TA TN TC) ∧ W.cell? ⟨(ad.add (k * 3)).block, (ad.add (k * 3)).off + 2, none⟩ = some (.bool is) ∧ Below wc.heap.size wc W) → Calls Tryd.prog 31 #[.agg #[.int .i64 size, .slice XA XN XC], .string nm, .slice TA TN TC] W fun e w' => e = .returned (.tuple #[.bool is, .int .i64 0]) ∧ (w'.cell? ⟨w.heap.size, 0, none⟩ = some (.int .i64 size) ∧ w'.cell? ⟨w.heap.size, 1, none⟩ = some (.slice CA CN CC) ∧ w'.cell? ⟨G, 0, none⟩ = some (.int .i64 size) ∧ w'.cell? ⟨G, 1, none⟩ = some (.slice XA XN XC) ∧ w'.cell? (ad.add (k * 3)) = some (.string nm) ∧ w'.cell? ⟨(ad.add (k * 3)).block, (ad.add (k * 3)).off + 1, none⟩ = some (.slice TA TN TC) ∧ w'.cell? ⟨(ad.add (k * 3)).block, (ad.add (k * 3)).off + 2, none⟩ = some (.bool is) ∧ Below wc.heap.size wc w') := fun W hW => by
                have hWb := hW.2.2.2.2.2.2.2
                have := has_any size (.slice XA XN XC) qs2 nm (.slice TA TN TC) t W wc.heap.size hWb.size (hrc.below hWb) ((Hti.out.below ((hbw.trans (hWb.mono hwz)).mono Hbz.out)).more (Nat.le_trans Hbz.out hwz))
                rw [Hhas.out] at this
                refine this.mono ?_
                rintro e w' ⟨rfl, hb⟩
                exact ⟨rfl, hall2 w' (hWb.trans (hb.mono hWb.size))⟩
              have hcV : ∀ W, (W.cell? ⟨w.heap.size, 0, none⟩ = some (.int .i64 size) ∧ W.cell? ⟨w.heap.size, 1, none⟩ = some (.slice CA CN CC) ∧ W.cell? ⟨G, 0, none⟩ = some (.int .i64 size) ∧ W.cell? ⟨G, 1, none⟩ = some (.slice XA XN XC) ∧ W.cell? (ad.add (k * 3)) = some (.string nm) ∧ W.cell? ⟨(ad.add (k * 3)).block, (ad.add (k * 3)).off + 1, none⟩ = some (.slice TA TN TC) ∧ W.cell? ⟨(ad.add (k * 3)).block, (ad.add (k * 3)).off + 2, none⟩ = some (.bool is) ∧ Below wc.heap.size wc W) → Calls Tryd.prog 16 #[.agg #[.int .i64 size, .slice XA XN XC]] W fun e w' => e = .returned (.bool true) ∧ (w'.cell? ⟨w.heap.size, 0, none⟩ = some (.int .i64 size) ∧ w'.cell? ⟨w.heap.size, 1, none⟩ = some (.slice CA CN CC) ∧ w'.cell? ⟨G, 0, none⟩ = some (.int .i64 size) ∧ w'.cell? ⟨G, 1, none⟩ = some (.slice XA XN XC) ∧ w'.cell? (ad.add (k * 3)) = some (.string nm) ∧ w'.cell? ⟨(ad.add (k * 3)).block, (ad.add (k * 3)).off + 1, none⟩ = some (.slice TA TN TC) ∧ w'.cell? ⟨(ad.add (k * 3)).block, (ad.add (k * 3)).off + 2, none⟩ = some (.bool is) ∧ Below wc.heap.size wc w') := fun W hW => by
                have hWb := hW.2.2.2.2.2.2.2
                have := valid_any size (.slice XA XN XC) qs2 W wc.heap.size hWb.size (hrc.below hWb)
                rw [Hvb2.out] at this
                refine this.mono ?_
                rintro e w' ⟨rfl, hb⟩
                exact ⟨rfl, hall2 w' (hWb.trans (hb.mono hWb.size))⟩
              have hcE : ∀ W, (W.cell? ⟨w.heap.size, 0, none⟩ = some (.int .i64 size) ∧ W.cell? ⟨w.heap.size, 1, none⟩ = some (.slice CA CN CC) ∧ W.cell? ⟨G, 0, none⟩ = some (.int .i64 size) ∧ W.cell? ⟨G, 1, none⟩ = some (.slice XA XN XC) ∧ W.cell? (ad.add (k * 3)) = some (.string nm) ∧ W.cell? ⟨(ad.add (k * 3)).block, (ad.add (k * 3)).off + 1, none⟩ = some (.slice TA TN TC) ∧ W.cell? ⟨(ad.add (k * 3)).block, (ad.add (k * 3)).off + 2, none⟩ = some (.bool is) ∧ Below wc.heap.size wc W) → Calls Tryd.prog 37 #[.agg #[.int .i64 size, .slice CA CN CC], .agg #[.int .i64 size, .slice XA XN XC], .string nm, .slice TA TN TC] W fun e w' => e = .returned (.bool true) ∧ (w'.cell? ⟨w.heap.size, 0, none⟩ = some (.int .i64 size) ∧ w'.cell? ⟨w.heap.size, 1, none⟩ = some (.slice CA CN CC) ∧ w'.cell? ⟨G, 0, none⟩ = some (.int .i64 size) ∧ w'.cell? ⟨G, 1, none⟩ = some (.slice XA XN XC) ∧ w'.cell? (ad.add (k * 3)) = some (.string nm) ∧ w'.cell? ⟨(ad.add (k * 3)).block, (ad.add (k * 3)).off + 1, none⟩ = some (.slice TA TN TC) ∧ w'.cell? ⟨(ad.add (k * 3)).block, (ad.add (k * 3)).off + 2, none⟩ = some (.bool is) ∧ Below wc.heap.size wc w') := fun W hW => by
                have hWb := hW.2.2.2.2.2.2.2
                refine (exceptone_any size _ _ qs qs2 nm _ t W wc.heap.size hWb.size ((Hr.out.below (hbw.trans (hWb.mono hwz))).more hwz) (hrc.below hWb) ((Hti.out.below ((hbw.trans (hWb.mono hwz)).mono Hbz.out)).more (Nat.le_trans Hbz.out hwz)) Hexc.out.1).mono ?_
                rintro e w' ⟨rfl, hb⟩
                exact ⟨rfl, hall2 w' (hWb.trans (hb.mono hWb.size))⟩
              have hcF : ∀ W, (W.cell? ⟨w.heap.size, 0, none⟩ = some (.int .i64 size) ∧ W.cell? ⟨w.heap.size, 1, none⟩ = some (.slice CA CN CC) ∧ W.cell? ⟨G, 0, none⟩ = some (.int .i64 size) ∧ W.cell? ⟨G, 1, none⟩ = some (.slice XA XN XC) ∧ W.cell? (ad.add (k * 3)) = some (.string nm) ∧ W.cell? ⟨(ad.add (k * 3)).block, (ad.add (k * 3)).off + 1, none⟩ = some (.slice TA TN TC) ∧ W.cell? ⟨(ad.add (k * 3)).block, (ad.add (k * 3)).off + 2, none⟩ = some (.bool is) ∧ Below wc.heap.size wc W) → Calls Tryd.prog 37 #[.agg #[.int .i64 size, .slice XA XN XC], .agg #[.int .i64 size, .slice CA CN CC], .string nm, .slice TA TN TC] W fun e w' => e = .returned (.bool true) ∧ (w'.cell? ⟨w.heap.size, 0, none⟩ = some (.int .i64 size) ∧ w'.cell? ⟨w.heap.size, 1, none⟩ = some (.slice CA CN CC) ∧ w'.cell? ⟨G, 0, none⟩ = some (.int .i64 size) ∧ w'.cell? ⟨G, 1, none⟩ = some (.slice XA XN XC) ∧ w'.cell? (ad.add (k * 3)) = some (.string nm) ∧ w'.cell? ⟨(ad.add (k * 3)).block, (ad.add (k * 3)).off + 1, none⟩ = some (.slice TA TN TC) ∧ w'.cell? ⟨(ad.add (k * 3)).block, (ad.add (k * 3)).off + 2, none⟩ = some (.bool is) ∧ Below wc.heap.size wc w') := fun W hW => by
                have hWb := hW.2.2.2.2.2.2.2
                refine (exceptone_any size _ _ qs2 qs nm _ t W wc.heap.size hWb.size (hrc.below hWb) ((Hr.out.below (hbw.trans (hWb.mono hwz))).more hwz) ((Hti.out.below ((hbw.trans (hWb.mono hwz)).mono Hbz.out)).more (Nat.le_trans Hbz.out hwz)) Hexc.out.2).mono ?_
                rintro e w' ⟨rfl, hb⟩
                exact ⟨rfl, hall2 w' (hWb.trans (hb.mono hWb.size))⟩
              have Hall2 := Lib.hid hall2; clear hall2
              have HcH := Lib.hid hcH; clear hcH
              have HcV := Lib.hid hcV; clear hcV
              have HcE := Lib.hid hcE; clear hcE
              have HcF := Lib.hid hcF; clear hcF
              have HbG := Lib.hid hbG; clear hbG
              have Hnc := Lib.hid hnc; clear hnc
              have Hrc := Lib.hid hrc; clear hrc
              have Hsc := Lib.hid (Hs.out.below hbw Hs.out.lt)
              have Hbelc := Lib.hid (Hbel.out.trans (hbw.mono Hbz.out))
              clear Hall
              obtain ⟨y0, y1, y2, y3, y4, y5, y6, y7⟩ := Hall2.out wc (Below.refl _ _)
              go_upto_region 17 with fail
              go_region_held3 (fun W => W.cell? ⟨w.heap.size, 0, none⟩ = some (.int .i64 size) ∧ W.cell? ⟨w.heap.size, 1, none⟩ = some (.slice CA CN CC) ∧ W.cell? ⟨G, 0, none⟩ = some (.int .i64 size) ∧ W.cell? ⟨G, 1, none⟩ = some (.slice XA XN XC) ∧ W.cell? (ad.add (k * 3)) = some (.string nm) ∧ W.cell? ⟨(ad.add (k * 3)).block, (ad.add (k * 3)).off + 1, none⟩ = some (.slice TA TN TC) ∧ W.cell? ⟨(ad.add (k * 3)).block, (ad.add (k * 3)).off + 2, none⟩ = some (.bool is) ∧ Below wc.heap.size wc W)
                (first
                  | assumption
                  | (refine Hall2.out _ ?_
                     repeat (first | exact Below.refl _ _ | exact And.right (And.right (And.right (And.right (And.right (And.right (And.right (by assumption))))))) | refine Below.drew ?_)))
                (first | (go_at_call 31; refine (HcH.out _ (by assumption)).mono ?_; rintro e w3 ⟨rfl, hc3⟩))
              all_goals clear y0 y1 y2 y3 y4 y5 y6 y7
              all_goals obtain ⟨z0, z1, z2, z3, z4, z5, z6, z7⟩ := hc3
              all_goals have hii : (is != is) = false := by simp
              all_goals go_upto_region 18 with fail
              all_goals go_region_held3 (fun W => W.cell? ⟨w.heap.size, 0, none⟩ = some (.int .i64 size) ∧ W.cell? ⟨w.heap.size, 1, none⟩ = some (.slice CA CN CC) ∧ W.cell? ⟨G, 0, none⟩ = some (.int .i64 size) ∧ W.cell? ⟨G, 1, none⟩ = some (.slice XA XN XC) ∧ W.cell? (ad.add (k * 3)) = some (.string nm) ∧ W.cell? ⟨(ad.add (k * 3)).block, (ad.add (k * 3)).off + 1, none⟩ = some (.slice TA TN TC) ∧ W.cell? ⟨(ad.add (k * 3)).block, (ad.add (k * 3)).off + 2, none⟩ = some (.bool is) ∧ Below wc.heap.size wc W)
                (first
                  | assumption
                  | (refine Hall2.out _ ?_
                     repeat (first | exact Below.refl _ _ | exact And.right (And.right (And.right (And.right (And.right (And.right (And.right (by assumption))))))) | refine Below.drew ?_)))
                (first
                  | (go_at_call 16; refine (HcV.out _ (by assumption)).mono ?_; rintro e w4 ⟨rfl, hc4⟩)
                  | (go_at_call 37; with_reducible refine (HcE.out w4 hc4).mono ?_; rintro e w5 ⟨rfl, hc5⟩)
                  | (go_at_call 37; with_reducible refine (HcF.out w5 hc5).mono ?_; rintro e w6 ⟨rfl, hc6⟩))
              all_goals
                obtain ⟨v0, v1, v2, v3, v4, v5, v6, v7⟩ := hc6
                have hse := Hsc.out.below v7 Hsc.out.lt
                have hsf0 := hse.frozen 0
                have hsf1 := hse.frozen 1
                have hzc := Hbelc.out.size
                go_wp2
                exact ⟨⟨k + 1, _, qs2, by have := Hk.out; omega, by go_num, (hse.set_ 0 _).set_ 1 _, .inr ⟨L, (Hnc.out.keep (Keeps.of_below v7)).keep ((Keeps.setCell (p := ⟨w.heap.size, 0, none⟩) hse (by decide) _).trans (Keeps.setCell (p := ⟨w.heap.size, 1, none⟩) (hse.set_ 0 _) (by decide) _))⟩, ((Hbelc.out.trans (v7.mono hzc)).setCell (by simp) _).setCell (by simp) _⟩, by simp [intOf]; omega⟩
          · obtain ⟨E, hE, hcall⟩ : ∃ E : Int, (E == 0) = false ∧ ∀ W, (W.cell? ⟨w.heap.size, 0, none⟩ = some (.int .i64 size) ∧ W.cell? ⟨w.heap.size, 1, none⟩ = some (.slice CA CN CC) ∧ W.cell? (ad.add (k * 3)) = some (.string nm) ∧ W.cell? ⟨(ad.add (k * 3)).block, (ad.add (k * 3)).off + 1, none⟩ = some (.slice TA TN TC) ∧ W.cell? ⟨(ad.add (k * 3)).block, (ad.add (k * 3)).off + 2, none⟩ = some (.bool is) ∧ Below wr.heap.size wr W) → Calls Tryd.prog 34 #[.agg #[.int .i64 size, .slice CA CN CC], .string nm, .slice TA TN TC, .bool is] W fun e w' => e = .returned (.tuple #[.agg #[.int .i64 0, .slice none 0 0], .int .i64 E]) ∧ Below W.heap.size W w' ∧ (w'.cell? ⟨w.heap.size, 0, none⟩ = some (.int .i64 size) ∧ w'.cell? ⟨w.heap.size, 1, none⟩ = some (.slice CA CN CC) ∧ w'.cell? (ad.add (k * 3)) = some (.string nm) ∧ w'.cell? ⟨(ad.add (k * 3)).block, (ad.add (k * 3)).off + 1, none⟩ = some (.slice TA TN TC) ∧ w'.cell? ⟨(ad.add (k * 3)).block, (ad.add (k * 3)).off + 2, none⟩ = some (.bool is) ∧ Below wr.heap.size wr w') := by
              by_cases hz : (Sh.relForE ⟨size, qs⟩ nm.toList t.length).2 = 0
              · refine ⟨2, rfl, fun W hW => ?_⟩
                have hWb := hW.2.2.2.2.2
                refine (put_arg size _ qs nm _ t is W wr.heap.size hWb.size (Hr.out.below hWb) ((Hti.out.below (hWb.mono Hbz.out)).more Hbz.out) hz (Bool.eq_false_iff.2 (fun hi => hput ⟨hz, hi⟩))).mono ?_
                rintro e w' ⟨rfl, hb⟩
                exact ⟨rfl, hb, Hall.out w' (hWb.trans (hb.mono hWb.size))⟩
              · refine ⟨_, by simpa using hz, fun W hW => ?_⟩
                have hWb := hW.2.2.2.2.2
                refine (put_bad size _ qs nm _ t is W wr.heap.size hWb.size (Hr.out.below hWb) ((Hti.out.below (hWb.mono Hbz.out)).more Hbz.out) hz).mono ?_
                rintro e w' ⟨rfl, hb⟩
                exact ⟨rfl, hb, Hall.out w' (hWb.trans (hb.mono hWb.size))⟩
            have Hput := Lib.hid hcall; clear hcall
            have hE2 : (E != 0) = true := by simpa using hE
            clear hput
            go_cut [8, 9] from 46 to 154 (fun s8 s9 wx => s9 = .int .i64 E ∧ Below wr.heap.size wr wx)
            case first =>
              clear hE hE2
              go_region_held3 (fun W => W.cell? ⟨w.heap.size, 0, none⟩ = some (.int .i64 size) ∧ W.cell? ⟨w.heap.size, 1, none⟩ = some (.slice CA CN CC) ∧ W.cell? (ad.add (k * 3)) = some (.string nm) ∧ W.cell? ⟨(ad.add (k * 3)).block, (ad.add (k * 3)).off + 1, none⟩ = some (.slice TA TN TC) ∧ W.cell? ⟨(ad.add (k * 3)).block, (ad.add (k * 3)).off + 2, none⟩ = some (.bool is) ∧ Below wr.heap.size wr W)
                (first
                  | assumption
                  | (refine Hall.out _ ?_
                     repeat (first | exact Below.refl _ _ | exact And.right (And.right (And.right (And.right (And.right (by assumption))))) | refine Below.drew ?_ | refine Below.setCell ?_ (by first | simp | (simp; omega)) _ | refine bel_alloc2 ?_ _)))
                (first
                  | (go_at_call 34; refine (Hput.out _ (by assumption)).mono ?_; rintro e w1 ⟨rfl, hb1, hc1⟩; have hz1 : wr.heap.size ≤ w1.heap.size := hc1.2.2.2.2.2.size
                     first
                       | (have hbx1 : Blk w1 wr.heap.size 24 #[.int .i64 0, .slice none 0 0] := (Blk.new wr.drew 24 #[.int .i64 0, .slice none 0 0]).below hb1 (by simp)
                          have hbc0 : w1.cell? ⟨wr.heap.size, 0, none⟩ = some (.int .i64 0) := hbx1.cell 0
                          have hbc1 : w1.cell? ⟨wr.heap.size, 1, none⟩ = some (.slice none 0 0) := hbx1.cell 1
                          have hbf0 := hbx1.frozen 0
                          have hbf1 := hbx1.frozen 1)
                       | skip))
              all_goals go_wp2_with fail
              all_goals first
                | (go_meet
                   exact ⟨rfl, bel_alloc2 hc1.2.2.2.2.2 _⟩)
                | (go_meet
                   exact ⟨rfl, (hc1.2.2.2.2.2.setCell (by simp) _).setCell (by simp) _⟩)
            case rest =>
              clear Hput x0 x1 x2 x3 x4 x5
              obtain ⟨rfl, hbw⟩ := hcut
              go_wp2
              exact ⟨⟨k + 1, _, qs, by have := Hk.out; omega, by go_num, Hs.out.below hbw Hs.out.lt, Or.elim Hrn.out (fun h1 => .inl (h1.below (hbw.mono Hbz.out))) (fun ⟨L, h1⟩ => .inr ⟨L, h1.keep (Keeps.of_below hbw)⟩), Hbel.out.trans (hbw.mono Hbz.out)⟩, by simp [intOf]; omega⟩
        · clear Hbel
          go_wp2_with (first
            | (go_at_call 13
               refine (alive_any _ (hv.below hbel hw) (Nat.le_trans hw (Below.size hbel))).mono ?_
               rintro e w9 ⟨rfl, hb9⟩
               have Hb9 := Lib.hid (Below.trans hbel (hb9.mono (Below.size hbel)))))
          go_ret
          exact ⟨rfl, Hb9.out⟩

end Go.Proofs.YtjkaicpohihncaaDoor
