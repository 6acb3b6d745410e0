/-
  Walk: the law's exceptOne, where it holds.
-/
import Derived.Test.YtjkaicpohihncaaDoorHas
import Derived.Test.YtjkaicpohihncaaDoorOwn
import Derived.Test.YtjkaicpohihncaaDoorSpec6
import Derived.StillTailTactics
import Derived.Deep.CutRange
import Derived.Deep.RegionHeld3
import Derived.Test.YtjkaicpohihncaaDoorCopyrel
namespace Go.Proofs.YtjkaicpohihncaaDoor
open Go.RowKit

set_option maxRecDepth 100000 in
set_option maxHeartbeats 1000000 in
theorem exceptone_any (size : Int) (va vb : Value) (ra rb : List Sh.Rel) (nm : ByteArray) (u : Value) (t : List Int) (w : World) (B : Nat) (hB : B ≤ w.heap.size) (ha : Rels w B va ra) (hb : Rels w B vb rb) (ht : Ints w B u t) (hx : Sh.ExceptOne size ra rb nm.toList t) :
    Calls Tryd.prog 37 #[.agg #[.int .i64 size, va], .agg #[.int .i64 size, vb], .string nm, u] w fun e w' => e = .returned (.bool true) ∧ Below w.heap.size w w' := by
  have ha' := ha
  obtain ⟨A, len, c, rfl, hlen, hmax, -⟩ := ha'
  have hb' := hb
  obtain ⟨A2, len2, c2, rfl, -⟩ := hb'
  have ht' := ht
  obtain ⟨TA, TN, TC, rfl, -⟩ := ht'
  have Hlen := Lib.hid hlen; clear hlen
  have Hx := Lib.hid hx; clear hx
  go_enter Tryd.func37, Tryd.ntmps37
  go_wp2
  have hb2 : Below w.heap.size w ((w.alloc (.cells #[.int .i64 size, .slice A len c] 24)).alloc (.cells #[.int .i64 size, .slice A2 len2 c2] 24)) := ((Below.refl _ _).alloc (Nat.le_refl _) _).alloc (by simp) _
  have hx2 : Blk ((w.alloc (.cells #[.int .i64 size, .slice A len c] 24)).alloc (.cells #[.int .i64 size, .slice A2 len2 c2] 24)) w.heap.size 24 #[.int .i64 size, .slice A len c] := (Blk.new _ _ _).alloc _
  have hy2 : Blk ((w.alloc (.cells #[.int .i64 size, .slice A len c] 24)).alloc (.cells #[.int .i64 size, .slice A2 len2 c2] 24)) (w.heap.size + 1) 24 #[.int .i64 size, .slice A2 len2 c2] := by
    have := Blk.new (w.alloc (.cells #[.int .i64 size, .slice A len c] 24)) 24 #[.int .i64 size, .slice A2 len2 c2]
    rw [World.size_alloc] at this
    exact this
  generalize ((w.alloc (.cells #[.int .i64 size, .slice A len c] 24)).alloc (.cells #[.int .i64 size, .slice A2 len2 c2] 24)) = W2 at *
  go_loopw [9] (fun i wr => ∃ k : Nat, k ≤ len ∧ i = .int .i64 k ∧ Blk wr w.heap.size 24 #[.int .i64 size, .slice A len c] ∧ Blk wr (w.heap.size + 1) 24 #[.int .i64 size, .slice A2 len2 c2] ∧ Below w.heap.size w wr) (fun i _ => len - (intOf i).toNat)
  case atStart => exact ⟨0, Nat.zero_le _, rfl, hx2, hy2, hb2⟩
  case round =>
    obtain ⟨k, hk, rfl, hx, hy, hbel⟩ := hrel
    clear hx2 hy2 hb2
    have hx1 : wr.cell? ⟨w.heap.size, 1, none⟩ = some (.slice A len c) := hx.cell 1
    by_cases hlt : k < len
    · obtain ⟨r, hr⟩ : ∃ r, ra[k]? = some r := ⟨_, List.getElem?_eq_getElem (by rw [← Hlen.out]; exact hlt)⟩
      have Hr := Lib.hid hr; clear hr
      generalize hN : r.tuples.length = N
      have HN := Lib.hid hN; clear hN
      go_wp2
      clear hx1
      go_loopw [10] (fun q wq => ∃ j : Nat, j ≤ N ∧ q = .int .i64 j ∧ Blk wq w.heap.size 24 #[.int .i64 size, .slice A len c] ∧ Blk wq (w.heap.size + 1) 24 #[.int .i64 size, .slice A2 len2 c2] ∧ Below w.heap.size w wq) (fun q _ => N - (intOf q).toNat)
      case atStart => exact ⟨0, Nat.zero_le _, rfl, hx, hy, hbel⟩
      case round =>
        obtain ⟨j, hj, rfl, hx, hy, hbel⟩ := hrel
        obtain ⟨ad, p, r', rfl, hbk, hr', d0, -, d2, htp, hnz⟩ := (ha.below (hbel.mono hB)).at_ hlt
        obtain rfl : r' = r := Option.some.inj (hr'.symm.trans Hr.out)
        have htp' := htp
        obtain ⟨PA, PN, PC, rfl, hpn, hpm, -⟩ := htp'
        obtain rfl : PN = N := hpn.trans HN.out
        have hx1 : wr.cell? ⟨w.heap.size, 1, none⟩ = some (.slice (some ad) len c) := hx.cell 1
        have hy0 : wr.cell? ⟨w.heap.size + 1, 0, none⟩ = some (.int .i64 size) := hy.cell 0
        have hy1 : wr.cell? ⟨w.heap.size + 1, 1, none⟩ = some (.slice A2 len2 c2) := hy.cell 1
        have hbz := hbel.size
        have Hpn := Lib.hid hpn; clear hpn hr'
        by_cases hjl : j < PN
        · obtain ⟨ad4, u4, rfl, hb4, hcu, hiu⟩ := htp.at_ hjl
          have hiu' := hiu
          obtain ⟨UA, UN, UC, rfl, -⟩ := hiu'
          have hmem : r'.tuples.getD j [] ∈ r'.tuples := List.mem_of_getElem? (getD_some (d := []) (by rw [← Hpn.out]; exact hjl))
          have hxx := Hx.out k r' _ Hr.out hmem
          generalize r'.tuples.getD j [] = x at *
          have hti := ht.below (hbel.mono hB)
          have heqc := equal_any (.slice UA UN UC) (.slice TA TN TC) x t wr B hiu hti
          cases hnm : (r'.name.toList == nm.toList)
          · have hhas : Sh.hasE ⟨size, rb⟩ r'.name.toList x = (true, 0) := by
              rcases hxx with ⟨e, -⟩ | h
              · rw [e] at hnm; simp at hnm
              · exact h
            have Hhas := Lib.hid hhas; clear hhas hxx heqc hmem htp hti
            have hall : ∀ W, Below wr.heap.size wr W → (W.cell? ⟨w.heap.size, 1, none⟩ = some (.slice (some ad) len c) ∧ W.cell? ⟨w.heap.size + 1, 0, none⟩ = some (.int .i64 size) ∧ W.cell? ⟨w.heap.size + 1, 1, none⟩ = some (.slice A2 len2 c2) ∧ W.cell? (ad.add (k * 3)) = some (.string r'.name) ∧ W.cell? ⟨(ad.add (k * 3)).block, (ad.add (k * 3)).off + 2, none⟩ = some (.slice (some ad4) PN PC) ∧ W.cell? (ad4.add j) = some (.slice UA UN UC) ∧ Below wr.heap.size wr W) := fun W hW =>
              ⟨(hW.cell (p := ⟨w.heap.size, 1, none⟩) hx.lt).trans hx1, (hW.cell (p := ⟨w.heap.size + 1, 0, none⟩) hy.lt).trans hy0, (hW.cell (p := ⟨w.heap.size + 1, 1, none⟩) hy.lt).trans hy1, (hW.cell (by rw [block_of_add]; omega)).trans d0, (hW.cell (by show (ad.add _).block < _; rw [block_of_add]; omega)).trans d2, (hW.cell (by rw [block_of_add]; omega)).trans hcu, hW⟩
            have hcall : ∀ W, (W.cell? ⟨w.heap.size, 1, none⟩ = some (.slice (some ad) len c) ∧ W.cell? ⟨w.heap.size + 1, 0, none⟩ = some (.int .i64 size) ∧ W.cell? ⟨w.heap.size + 1, 1, none⟩ = some (.slice A2 len2 c2) ∧ W.cell? (ad.add (k * 3)) = some (.string r'.name) ∧ W.cell? ⟨(ad.add (k * 3)).block, (ad.add (k * 3)).off + 2, none⟩ = some (.slice (some ad4) PN PC) ∧ W.cell? (ad4.add j) = some (.slice UA UN UC) ∧ Below wr.heap.size wr W) → Calls Tryd.prog 31 #[.agg #[.int .i64 size, .slice A2 len2 c2], .string r'.name, .slice UA UN UC] W fun e w' => e = .returned (.tuple #[.bool true, .int .i64 0]) ∧ (w'.cell? ⟨w.heap.size, 1, none⟩ = some (.slice (some ad) len c) ∧ w'.cell? ⟨w.heap.size + 1, 0, none⟩ = some (.int .i64 size) ∧ w'.cell? ⟨w.heap.size + 1, 1, none⟩ = some (.slice A2 len2 c2) ∧ w'.cell? (ad.add (k * 3)) = some (.string r'.name) ∧ w'.cell? ⟨(ad.add (k * 3)).block, (ad.add (k * 3)).off + 2, none⟩ = some (.slice (some ad4) PN PC) ∧ w'.cell? (ad4.add j) = some (.slice UA UN UC) ∧ Below wr.heap.size wr w') := fun W hW => by
              have hWb := hW.2.2.2.2.2.2
              have := has_any size (.slice A2 len2 c2) rb r'.name (.slice UA UN UC) x W B (Nat.le_trans (by omega) hWb.size) (hb.below ((hbel.trans (hWb.mono hbz)).mono hB)) (hiu.below (hWb.mono (by omega)))
              rw [Hhas.out] at this
              refine this.mono ?_
              rintro e w' ⟨rfl, hb9⟩
              exact ⟨rfl, hall w' (hWb.trans (hb9.mono hWb.size))⟩
            have Hcall := Lib.hid hcall; clear hcall
            have Hall := Lib.hid hall; clear hall
            have Hx2 := Lib.hid hx; clear hx
            have Hy2 := Lib.hid hy; clear hy
            go_upto_region 8 with fail
            obtain ⟨y0, y1, y2, y3, y4, y5, y6⟩ := Hall.out wr (Below.refl _ _)
            go_region_held3 (fun W => W.cell? ⟨w.heap.size, 1, none⟩ = some (.slice (some ad) len c) ∧ W.cell? ⟨w.heap.size + 1, 0, none⟩ = some (.int .i64 size) ∧ W.cell? ⟨w.heap.size + 1, 1, none⟩ = some (.slice A2 len2 c2) ∧ W.cell? (ad.add (k * 3)) = some (.string r'.name) ∧ W.cell? ⟨(ad.add (k * 3)).block, (ad.add (k * 3)).off + 2, none⟩ = some (.slice (some ad4) PN PC) ∧ W.cell? (ad4.add j) = some (.slice UA UN UC) ∧ Below wr.heap.size wr W)
              (first
                | assumption
                | (refine Hall.out _ ?_
                   repeat (first | exact Below.refl _ _ | exact below_drewN (Below.refl _ _) _ | exact And.right (And.right (And.right (And.right (And.right (And.right (by assumption)))))) | refine Below.drew ?_)))
              (first | (go_at_call 31; refine (Hcall.out _ (by assumption)).mono ?_; rintro e w1 ⟨rfl, hc1⟩))
            all_goals go_wp2_with fail
            all_goals
              have hb1 : Below wr.heap.size wr w1 := hc1.2.2.2.2.2.2
              exact ⟨⟨j + 1, by omega, by go_num, Hx2.out.below hb1 Hx2.out.lt, Hy2.out.below hb1 Hy2.out.lt, hbel.trans (hb1.mono hbz)⟩, by simp [intOf]; omega⟩
          · cases heq : Sh.eqB x t
            · have hhas : Sh.hasE ⟨size, rb⟩ r'.name.toList x = (true, 0) := by
                rcases hxx with ⟨-, e⟩ | h
                · rw [(Sh.eqB_iff x t).2 e] at heq; cases heq
                · exact h
              rw [heq] at heqc
              have Hhas := Lib.hid hhas; clear hhas hxx hmem htp hti heq
              have Heqc := Lib.hid heqc; clear heqc
              have hall : ∀ W, Below wr.heap.size wr W → (W.cell? ⟨w.heap.size, 1, none⟩ = some (.slice (some ad) len c) ∧ W.cell? ⟨w.heap.size + 1, 0, none⟩ = some (.int .i64 size) ∧ W.cell? ⟨w.heap.size + 1, 1, none⟩ = some (.slice A2 len2 c2) ∧ W.cell? (ad.add (k * 3)) = some (.string r'.name) ∧ W.cell? ⟨(ad.add (k * 3)).block, (ad.add (k * 3)).off + 2, none⟩ = some (.slice (some ad4) PN PC) ∧ W.cell? (ad4.add j) = some (.slice UA UN UC) ∧ Below wr.heap.size wr W) := fun W hW =>
                ⟨(hW.cell (p := ⟨w.heap.size, 1, none⟩) hx.lt).trans hx1, (hW.cell (p := ⟨w.heap.size + 1, 0, none⟩) hy.lt).trans hy0, (hW.cell (p := ⟨w.heap.size + 1, 1, none⟩) hy.lt).trans hy1, (hW.cell (by rw [block_of_add]; omega)).trans d0, (hW.cell (by show (ad.add _).block < _; rw [block_of_add]; omega)).trans d2, (hW.cell (by rw [block_of_add]; omega)).trans hcu, hW⟩
              have hcall : ∀ W, (W.cell? ⟨w.heap.size, 1, none⟩ = some (.slice (some ad) len c) ∧ W.cell? ⟨w.heap.size + 1, 0, none⟩ = some (.int .i64 size) ∧ W.cell? ⟨w.heap.size + 1, 1, none⟩ = some (.slice A2 len2 c2) ∧ W.cell? (ad.add (k * 3)) = some (.string r'.name) ∧ W.cell? ⟨(ad.add (k * 3)).block, (ad.add (k * 3)).off + 2, none⟩ = some (.slice (some ad4) PN PC) ∧ W.cell? (ad4.add j) = some (.slice UA UN UC) ∧ Below wr.heap.size wr W) → Calls Tryd.prog 31 #[.agg #[.int .i64 size, .slice A2 len2 c2], .string r'.name, .slice UA UN UC] W fun e w' => e = .returned (.tuple #[.bool true, .int .i64 0]) ∧ (w'.cell? ⟨w.heap.size, 1, none⟩ = some (.slice (some ad) len c) ∧ w'.cell? ⟨w.heap.size + 1, 0, none⟩ = some (.int .i64 size) ∧ w'.cell? ⟨w.heap.size + 1, 1, none⟩ = some (.slice A2 len2 c2) ∧ w'.cell? (ad.add (k * 3)) = some (.string r'.name) ∧ w'.cell? ⟨(ad.add (k * 3)).block, (ad.add (k * 3)).off + 2, none⟩ = some (.slice (some ad4) PN PC) ∧ w'.cell? (ad4.add j) = some (.slice UA UN UC) ∧ Below wr.heap.size wr w') := fun W hW => by
                have hWb := hW.2.2.2.2.2.2
                have := has_any size (.slice A2 len2 c2) rb r'.name (.slice UA UN UC) x W B (Nat.le_trans (by omega) hWb.size) (hb.below ((hbel.trans (hWb.mono hbz)).mono hB)) (hiu.below (hWb.mono (by omega)))
                rw [Hhas.out] at this
                refine this.mono ?_
                rintro e w' ⟨rfl, hb9⟩
                exact ⟨rfl, hall w' (hWb.trans (hb9.mono hWb.size))⟩
              have Hcall := Lib.hid hcall; clear hcall
              have Hall := Lib.hid hall; clear hall
              have Hx2 := Lib.hid hx; clear hx
              have Hy2 := Lib.hid hy; clear hy
              go_upto_region 8 with (go_at_call 27; refine Heqc.out.mono ?_; rintro e w' ⟨rfl, n7, rfl⟩)
              obtain ⟨y0, y1, y2, y3, y4, y5, y6⟩ := Hall.out (wr.drewN n7) (below_drewN (Below.refl _ _) n7)
              go_region_held3 (fun W => W.cell? ⟨w.heap.size, 1, none⟩ = some (.slice (some ad) len c) ∧ W.cell? ⟨w.heap.size + 1, 0, none⟩ = some (.int .i64 size) ∧ W.cell? ⟨w.heap.size + 1, 1, none⟩ = some (.slice A2 len2 c2) ∧ W.cell? (ad.add (k * 3)) = some (.string r'.name) ∧ W.cell? ⟨(ad.add (k * 3)).block, (ad.add (k * 3)).off + 2, none⟩ = some (.slice (some ad4) PN PC) ∧ W.cell? (ad4.add j) = some (.slice UA UN UC) ∧ Below wr.heap.size wr W)
                (first
                  | assumption
                  | (refine Hall.out _ ?_
                     repeat (first | exact Below.refl _ _ | exact below_drewN (Below.refl _ _) _ | exact And.right (And.right (And.right (And.right (And.right (And.right (by assumption)))))) | refine Below.drew ?_)))
                (first | (go_at_call 31; refine (Hcall.out _ (by assumption)).mono ?_; rintro e w1 ⟨rfl, hc1⟩))
              all_goals go_wp2_with fail
              all_goals
                have hb1 : Below wr.heap.size wr w1 := hc1.2.2.2.2.2.2
                exact ⟨⟨j + 1, by omega, by go_num, Hx2.out.below hb1 Hx2.out.lt, Hy2.out.below hb1 Hy2.out.lt, hbel.trans (hb1.mono hbz)⟩, by simp [intOf]; omega⟩
            · rw [heq] at heqc
              have Heqc := Lib.hid heqc; clear heqc hxx hmem htp hti heq
              go_wp2_with (go_at_call 27; refine Heqc.out.mono ?_; rintro e w' ⟨rfl, n7, rfl⟩)
              exact ⟨⟨j + 1, by omega, by go_num, hx.drewN n7, hy.drewN n7, below_drewN hbel n7⟩, by simp [intOf]; omega⟩
        · obtain rfl : j = PN := by omega
          go_wp2
          exact ⟨⟨k + 1, by omega, by go_num, hx, hy, hbel⟩, by simp [intOf]; omega⟩
    · go_wp2
      go_ret
      exact ⟨rfl, hbel⟩

end Go.Proofs.YtjkaicpohihncaaDoor
