/-
  Walk: the reference's Put, where the relation is there.
-/
import Derived.Test.YtbddchonhicpiaaDoorSorted
import Derived.Test.YtbddchonhicpiaaDoorRscopy
import Derived.Test.YtbddchonhicpiaaDoorRfind
import Derived.Test.YtbddchonhicpiaaDoorSpec6
import Derived.Deep.CutRange
import Derived.Deep.RegionHeld3
namespace Go.Proofs.YtbddchonhicpiaaDoor
open Go.RowKit

theorem others_snoc (l : List (List Int)) (x t : List Int) : Sh.othersR (l ++ [x]) t = Sh.othersR l t ++ (if Sh.eqB x t = true then [] else [x]) := by
  unfold Sh.othersR
  rw [List.filter_append]
  cases h : Sh.eqB x t <;> simp [h]
theorem tups_own {w : World} {base n : Nat} {v : Value} {us : List Value} {ts : List (List Int)} (h : w.ownsRow base 35 1 v n us) (hn : n ≤ 140737488351232) (hl : n = ts.length) (he : ∀ (j : Nat) (u : Value) (t : List Int), us[j]? = some u → ts[j]? = some t → Ints w w.heap.size u t) : Tups w w.heap.size v ts := by
  obtain ⟨A, c, rfl⟩ := own_slice h
  refine ⟨A, n, c, rfl, hl, hn, fun h0 => ?_⟩
  obtain ⟨ad, cs, rfl, g1, g2, g3⟩ := own_at h h0
  have hul := h.1
  refine ⟨ad, rfl, heap_lt g2, fun j x hx => ?_⟩
  have hj : j < us.length := by have := (List.getElem?_eq_some_iff.1 hx).1; omega
  exact ⟨us[j], g3 j _ (List.getElem?_eq_getElem hj), he j _ x (List.getElem?_eq_getElem hj) hx⟩
/-- One relation's tuples are replaced in the copy. -/
theorem crels_set {w : World} {L g n cap i : Nat} {rs : List Sh.Rel} {r r' : Sh.Rel} {v' : Value} (h : CRels w L (.slice (some ⟨g, 0, none⟩) n cap) rs) (hl : rs.length ≤ 1000000) (hr : rs[i]? = some r) (hname : r'.name = r.name) (har : r'.arity = r.arity) (hz : r.name.size ≤ 140737488351232) (hv : NTups w L v' r'.tuples) :
    NRels (w.setCell ⟨g, i * 3 + 2, none⟩ v') L (.slice (some ⟨g, 0, none⟩) n cap) (rs.set i r') := by
  obtain ⟨xs, us, h1, h2, h3⟩ := h
  have hi := (List.getElem?_eq_some_iff.1 hr).1
  have hbg : n = rs.length ∧ ∃ cs, w.heap[g]? = some (.cells cs 51 (0, 0)) := by
    rcases h1.2 with ⟨h, -⟩ | ⟨g2, c2, k2, h, -, hh, -⟩
    · injection h with h _ _; cases h
    · injection h with h hn _
      have := Option.some.inj h
      injection this with this _ _
      subst this
      exact ⟨hn, _, hh⟩
  obtain ⟨rfl, cs, hcs⟩ := hbg
  have hk9 : Keeps L [3, 35] w (w.setCell ⟨g, i * 3 + 2, none⟩ v') := Keeps.setCell (p := ⟨g, i * 3 + 2, none⟩) hcs (by decide) _
  have hx9 := h1.stored (i * 3 + 2) v'
  refine NRels.own hx9.1 (Nat.le_refl _) (by omega) (rcells_set h2 hr hname har v') (fun j u x h1 h2' => ?_)
  by_cases e : j = i
  · subst e
    rw [List.getElem?_set_self (by have := h2.2.1; omega)] at h1
    rw [List.getElem?_set_self hi] at h2'
    have e1 := Option.some.inj h1
    have e2 := Option.some.inj h2'
    subst e1 e2
    exact ⟨hv.keep hk9, by rw [hname]; exact hz⟩
  · rw [List.getElem?_set_ne (fun h => e h.symm)] at h1
    rw [List.getElem?_set_ne (fun h => e h.symm)] at h2'
    exact ⟨(h3 j u x h1 h2').1.keep hk9, (h3 j u x h1 h2').2⟩

set_option maxRecDepth 100000 in
set_option maxHeartbeats 16000000 in
theorem rput_any (size : Int) (v : Value) (rs : List Sh.Rel) (nm : ByteArray) (u : Value) (t : List Int) (is : Bool) (k : Nat) (r : Sh.Rel) (w : World) (B : Nat) (hB : B ≤ w.heap.size) (h : Rels w B v rs) (ht : Ints w B u t) (hvb : Sh.validB ⟨size, rs⟩ = true) (hni : Sh.nameI nm.toList rs = k) (hr : rs[k]? = some r) (har : (t.length : Int) = r.arity) :
    Calls Tryd.prog 35 #[.agg #[.int .i64 size, v], .string nm, u, .bool is] w fun e w' => ∃ x, e = .returned (.agg #[.int .i64 size, x]) ∧ NRels w' w.heap.size x (Sh.putR rs k t is) ∧ Below w.heap.size w w' := by
  have h' := h
  obtain ⟨A, len, c, rfl, hlen, -⟩ := h'
  have ht' := ht
  obtain ⟨TA, TN, TC, rfl, htn, -⟩ := ht'
  have hb2 := ((Below.refl w.heap.size w).alloc (Nat.le_refl _) (.cells #[.int .i64 size, .slice A len c] 24)).alloc (by simp) (.cells #[.int .i64 0, .slice none 0 0] 24)
  have hs := (Blk.new w 24 #[.int .i64 size, .slice A len c]).alloc (.cells #[.int .i64 0, .slice none 0 0] 24)
  have hz := Blk.new (w.alloc (.cells #[.int .i64 size, .slice A len c] 24)) 24 #[.int .i64 0, .slice none 0 0]
  rw [World.size_alloc] at hz
  have hv8 := (Sh.validB_size hvb).2.2
  simp only at hv8
  have hsmall : ∀ r ∈ rs, r.tuples.length ≤ 1000000 ∧ ∀ t ∈ r.tuples, t.length ≤ 1000000 := fun r hm => by
    obtain ⟨j, hj, rfl⟩ := List.mem_iff_getElem.1 hm
    have hs := Sh.relB_small (Sh.validB_rel hvb (List.getElem?_eq_getElem hj))
    exact ⟨by have := hs.1; omega, fun t ht => by have := hs.2 t ht; omega⟩
  have hrb := Sh.validB_rel hvb hr
  have hkl : k < rs.length := (List.getElem?_eq_some_iff.1 hr).1
  have hm0 := (Sh.relB_small hrb).1
  have hlong : Sh.Long t.length r.tuples := Sh.put_long hvb hr har
  have htl : t.length ≤ 1000000 := by
    obtain ⟨a, b, -, e2, hb, -, -⟩ := Sh.relB_arity hrb
    omega
  have hpt := Sh.put_ref (Sh.relB_rising hrb) hlong rfl is
  have hputd : Sh.putR rs k t is = rs.set k (Sh.putRel r t is) := by
    unfold Sh.putR
    have e := hr
    rw [List.getElem?_eq_getElem hkl] at e
    rw [Sh.getD_get _ _ _ hkl, Option.some.inj e]
  have hcopy := refcopy_own size (.slice A len c) rs _ w.heap.size hb2.size ((h.below (hb2.mono hB)).more hB) (by omega) hsmall
  have hl8 : len ≤ 8 := by omega
  have hkl2 : k < len := by omega
  have Hcopy := Lib.hid hcopy; clear hcopy
  have Hs := Lib.hid hs; clear hs
  have Hz := Lib.hid hz; clear hz
  have Hb2 := Lib.hid hb2; clear hb2
  have Hlen := Lib.hid hlen; clear hlen
  have Htn := Lib.hid htn; clear htn
  have Hr := Lib.hid hr; clear hr
  have Hlong := Lib.hid hlong; clear hlong
  have Hpt := Lib.hid hpt; clear hpt
  have Hputd := Lib.hid hputd; clear hputd
  have Hni := Lib.hid hni; clear hni
  have Hhz := Lib.hid hsmall; clear hsmall hrb hvb har hv8
  go_enter Tryd.func35, Tryd.ntmps35
  go_wp2_with (first
    | (go_at_call 67
       refine Hcopy.out.mono ?_
       rintro e w3 ⟨x, rfl, hcr, hb3⟩
       obtain ⟨xs0, vs0, hox, hxc, hxr⟩ := hcr
       obtain ⟨XA, XC, rfl⟩ := own_slice hox
       have Hcr := Lib.hid (show CRels w3 _ (.slice XA rs.length XC) rs from ⟨xs0, vs0, hox, hxc, hxr⟩)
       clear hox hxc hxr
       have hb4 := (Hb2.out.trans (hb3.mono Hb2.out.size))
       have hs3 := Hs.out.below hb3 Hs.out.lt
       have hz3 := Hz.out.below hb3 Hz.out.lt
       have hs4 := hs3.alloc (.cells #[.int .i64 size, .slice XA rs.length XC] 24)
       have hz4 := hz3.alloc (.cells #[.int .i64 size, .slice XA rs.length XC] 24)
       have hg4 := Blk.new w3 24 #[.int .i64 size, .slice XA rs.length XC]
       have hs40 : (w3.alloc (.cells #[.int .i64 size, .slice XA rs.length XC] 24)).cell? ⟨w.heap.size, 0, none⟩ = some (.int .i64 size) := hs4.cell 0
       have hs41 : (w3.alloc (.cells #[.int .i64 size, .slice XA rs.length XC] 24)).cell? ⟨w.heap.size, 1, none⟩ = some (.slice A len c) := hs4.cell 1
       have Hb4 := Lib.hid (hb4.alloc hb4.size (.cells #[.int .i64 size, .slice XA rs.length XC] 24))
       have Hcr4 := Lib.hid (Hcr.out.keep (Keeps.alloc _ _ w3 (.cells #[.int .i64 size, .slice XA rs.length XC] 24)))
       have Hs4 := Lib.hid hs4
       have Hz4 := Lib.hid hz4
       have Hg4 := Lib.hid hg4
       clear hb3 hb4 hs3 hz3 hs4 hz4 hg4)
    | (go_at_call 30
       refine (reffind_any size _ rs nm _ w.heap.size Hb4.out.size ((h.below (Hb4.out.mono hB)).more hB)).mono ?_
       rw [Hni.out]
       rintro e w5 ⟨rfl, hb5⟩
       have Hs5 := Lib.hid (Hs4.out.below hb5 Hs4.out.lt)
       have Hz5 := Lib.hid (Hz4.out.below hb5 Hz4.out.lt)
       have Hg5 := Lib.hid (Hg4.out.below hb5 Hg4.out.lt)
       have Hcr5 := Lib.hid (Hcr4.out.keep (Keeps.of_below hb5))
       have Hb5 := Lib.hid (Hb4.out.trans (hb5.mono Hb4.out.size))
       have hs51 : w5.cell? ⟨w.heap.size, 1, none⟩ = some (.slice A len c) := Hs5.out.cell 1
       clear hb5 hs40 hs41))
  obtain ⟨ad, u5, r5, rfl, hba, hr5, -, -, d2, htu, hnz⟩ := (h.below (Hb5.out.mono hB)).at_ hkl2
  obtain rfl : r5 = r := Option.some.inj (hr5.symm.trans Hr.out)
  have htu' := htu
  obtain ⟨PA, PN, PC, rfl, hpn, hpm, -⟩ := htu'
  have hpm1 : PN ≤ 50000 := by omega
  have Hpn := Lib.hid hpn; clear hpn hr5 hm0
  have hb5z : w.heap.size < w5.heap.size := Hs5.out.lt
  go_loopw [11, 12] (fun v i wr => ∃ (k2 : Nat) (us : List Value), k2 ≤ PN ∧ i = .int .i64 k2 ∧ us.length = (Sh.othersR (r5.tuples.take k2) t).length ∧ us.length ≤ k2 ∧ wr.ownsRow w5.heap.size 35 1 v us.length us ∧ (∀ (j : Nat) (x : Value) (y : List Int), us[j]? = some x → (Sh.othersR (r5.tuples.take k2) t)[j]? = some y → Ints w B x y) ∧ Below w5.heap.size w5 wr) (fun _ i _ => PN - (intOf i).toNat)
  case atStart => exact ⟨0, [], Nat.zero_le _, rfl, rfl, Nat.zero_le _, World.ownsRow_nil _ _ _ _, (fun j x y h => by simp at h), Below.refl _ _⟩
  case round =>
    obtain ⟨k2, us, hk2, rfl, hul, hule, hown, hti, hbel⟩ := hrel
    clear hs51
    generalize hn : us.length = n at *
    obtain ⟨VA, VC, rfl⟩ := own_slice hown
    have Hown := Lib.hid hown; clear hown
    have Hn := Lib.hid hn; clear hn
    have Hul := Lib.hid hul; clear hul
    have Hti := Lib.hid hti; clear hti
    have hbw : Below w.heap.size w wr := Hb5.out.trans (hbel.mono Hb5.out.size)
    have hbz := hbel.size
    have hs1 : wr.cell? ⟨w.heap.size, 1, none⟩ = some (.slice (some ad) len c) := (hbel.cell (p := ⟨w.heap.size, 1, none⟩) hb5z).trans (Hs5.out.cell 1)
    have e2 : wr.cell? ⟨(ad.add (k * 3)).block, (ad.add (k * 3)).off + 2, none⟩ = some (.slice PA PN PC) := (hbel.cell (by show (ad.add _).block < _; rw [block_of_add]; omega)).trans d2
    by_cases hlt : k2 < PN
    · obtain ⟨ad4, x4, rfl, hb4, hcu, hiu⟩ := (htu.below (hbel.mono (by omega))).at_ hlt
      have hiu' := hiu
      obtain ⟨UA, UN, UC, rfl, -⟩ := hiu'
      have hiw : Ints w B (.slice UA UN UC) (r5.tuples.getD k2 []) := hiu.keep (fun p hp => (hbw.cell (by omega)).symm)
      have hts : r5.tuples[k2]? = some (r5.tuples.getD k2 []) := getD_some (d := []) (by rw [← Hpn.out]; exact hlt)
      generalize r5.tuples.getD k2 [] = x at *
      have heqc := equal_any (.slice UA UN UC) (.slice TA TN TC) x t wr B hiu (ht.below (hbw.mono hB))
      have hos : Sh.othersR (r5.tuples.take (k2 + 1)) t = Sh.othersR (r5.tuples.take k2) t ++ (if Sh.eqB x t = true then [] else [x]) := by rw [take_snoc hts, others_snoc]
      have Hiw := Lib.hid hiw; clear hiw hiu hts
      cases heq : Sh.eqB x t
      · rw [heq] at heqc hos
        have Heqc := Lib.hid heqc; clear heqc
        have Hos := Lib.hid hos; clear hos heq
        go_wp2_with (first
          | (go_at_call 27; refine Heqc.out.mono ?_; rintro e w' ⟨rfl, n7, rfl⟩)
          | (at_builtin
             refine append_tup _ rfl _ _ rfl w5.heap.size _ n us rfl (World.ownsRow.alloc (own_below Hown.out (below_drewN (Below.refl _ _) _)) _) ⟨wr.heap.size, 0, none⟩ 1 (.slice UA UN UC) rfl ((Blk.new _ 35 #[.slice UA UN UC]).cell 0) rfl (by omega) (by simp; omega) ?_
             intro v8 w8 hown8 hg8))
        have hlen : (us ++ [Value.slice UA UN UC]).length = n + 1 := by have := Hn.out; simp; omega
        refine ⟨⟨k2 + 1, us ++ [.slice UA UN UC], by omega, by go_num, ?_, by rw [hlen]; omega, by rw [hlen]; exact hown8, ?_, ?_⟩, by simp [intOf]; omega⟩
        · rw [hlen, Hos.out, List.length_append, ← Hul.out]; rfl
        · intro j a b h1 h2
          rw [Hos.out] at h2
          by_cases hj : j < n
          · rw [List.getElem?_append_left (by rw [Hn.out]; exact hj)] at h1
            rw [List.getElem?_append_left (by rw [← Hul.out]; exact hj)] at h2
            exact Hti.out j a b h1 h2
          · have hj2 : j = n := by have := (List.getElem?_eq_some_iff.1 h1).1; omega
            subst hj2
            rw [List.getElem?_append_right (by rw [Hn.out]; exact Nat.le_refl _), Hn.out, Nat.sub_self] at h1
            rw [List.getElem?_append_right (by rw [← Hul.out]; exact Nat.le_refl _), ← Hul.out, Nat.sub_self] at h2
            simp at h1 h2
            subst h1 h2
            exact Hiw.out
        · exact ((below_drewN hbel _).alloc (by simp; omega) _).grown hg8 (by simp; omega) (fun g e => (Hown.out.lt g e).1)
      · rw [heq] at heqc hos
        have Heqc := Lib.hid heqc; clear heqc
        have Hos := Lib.hid hos; clear hos heq
        go_wp2_with (go_at_call 27; refine Heqc.out.mono ?_; rintro e w' ⟨rfl, n7, rfl⟩)
        refine ⟨⟨k2 + 1, us, by omega, by go_num, ?_, by have := Hn.out; omega, by rw [Hn.out]; exact own_below Hown.out (below_drewN (Below.refl _ _) _), ?_, below_drewN hbel _⟩, by simp [intOf]; omega⟩
        · rw [Hos.out, Hn.out]; simpa using Hul.out
        · rw [Hos.out]; simpa using Hti.out
    · have hkl0 : k2 = PN := by omega
      subst hkl0
      have htk : r5.tuples.take k2 = r5.tuples := List.take_of_length_le (by have := Hpn.out; omega)
      have hul := Hul.out
      have hti := Hti.out
      rw [htk] at hul hti
      obtain ⟨xs1, us1, hox, hxc, hxr⟩ := Hcr5.out
      obtain ⟨g, cap, hXA, hLg, hgl⟩ := hox.form (by omega)
      injection hXA with hXA _ hcap
      subst hXA hcap
      have hvl : k < us1.length := by have := hxc.2.1; omega
      obtain ⟨vi, hvi⟩ : ∃ x, us1[k]? = some x := ⟨_, List.getElem?_eq_getElem hvl⟩
      have hx2 := (hxc.2.2 k r5 Hr.out).2.2
      rw [hvi] at hx2
      have hc2 : w5.cell? ⟨g, k * 3 + 2, none⟩ = some vi := by
        have := hox.cells (g := g) rfl _ _ hx2
        rwa [Addr.add_lit, Nat.zero_add] at this
      have hgb : ∃ cs, Blk w5 g 51 cs := by
        rcases hox.2 with ⟨h, -⟩ | ⟨g2, c2, k2, h, -, hh, -⟩
        · injection h with h _ _; cases h
        · injection h with h _ _
          have := Option.some.inj h
          injection this with this _ _
          subst this
          exact ⟨_, hh⟩
      obtain ⟨cs, hgb⟩ := hgb
      have hLg2 : w.heap.size + 1 + 1 ≤ g := by simpa using hLg
      have hne : g ≠ w3.heap.size := fun e => by
        have h1 := hgb
        have h2 := Hg5.out
        rw [e] at h1
        unfold Blk at h1 h2
        rw [h1] at h2
        injection h2 with h2
        injection h2 with _ h2
        exact absurd h2 (by decide)
      have Hc2 := Lib.hid hc2; clear hc2
      have Hgb := Lib.hid hgb; clear hgb
      clear hox hxc hxr hx2 hvi hLg
      have hol : (Sh.othersR r5.tuples t).length ≤ 50000 := by omega
      have holg : ∀ x ∈ Sh.othersR r5.tuples t, x.length = t.length := fun x hx => Hlong.out x ((Sh.others_mem _ _ _).1 hx).1
      cases is
      · have htx : Tups wr wr.heap.size (.slice VA n VC) (Sh.othersR r5.tuples t) := tups_own Hown.out (by omega) hul (fun j a b h1 h2 => ((hti j a b h1 h2).below (hbw.mono hB)).more (Nat.le_trans hB hbw.size))
        have hpt2 : Sh.sortR (Sh.othersR r5.tuples t) = Sh.putT r5.tuples t false := by simpa using Hpt.out
        have hlg : Sh.Long t.length (Sh.othersR r5.tuples t) := holg
        have hln : (Sh.othersR r5.tuples t).length ≤ 100000 := by omega
        have hbx := hbel
        clear htk hul hti Hul Hti holg
        go_upto_region 11 with fail
        have hsrt : ∀ W, Below wr.heap.size wr W → Calls Tryd.prog 68 #[(.slice VA n VC)] W fun e w' => ∃ u, e = .returned u ∧ NTups w' W.heap.size u (Sh.putT r5.tuples t false) ∧ Below W.heap.size W w' := fun W hW => by
          have := sorted_any t.length (.slice VA n VC) (Sh.othersR r5.tuples t) W wr.heap.size hW.size (htx.below hW) hln hlg htl
          rw [hpt2] at this
          exact this
        have Hsrt := Lib.hid hsrt; clear hsrt
        have Htx := Lib.hid htx; clear htx hpt2 hlg
        have hG1 : wr.drew.cell? ⟨w3.heap.size, 1, none⟩ = some (.slice (some ⟨g, 0, none⟩) rs.length XC) := (hbx.cell (p := ⟨w3.heap.size, 1, none⟩) Hg5.out.lt).trans (Hg5.out.cell 1)
        go_region_law (first
          | (go_simp
             go_at_call 68
             refine (Hsrt.out _ (below_drewN (Below.refl _ _) 1)).mono ?_
             rintro e w7 ⟨y, rfl, hny, hb7⟩
             have hny' := hny
             obtain ⟨YA, YN, YC, rfl, -⟩ := hny'
             have hbw7 : Below w5.heap.size w5 w7 := hbx.drew.trans (hb7.mono hbx.size)
             have hG71 : w7.cell? ⟨w3.heap.size, 1, none⟩ = some (.slice (some ⟨g, 0, none⟩) rs.length XC) := (hbw7.cell (p := ⟨w3.heap.size, 1, none⟩) Hg5.out.lt).trans (Hg5.out.cell 1)
             have hgb7 := Hgb.out.below hbw7 Hgb.out.lt
             have hfz7 := hgb7.frozen (k * 3 + 2)
             have hcz7 : w7.cell? ⟨g, k * 3 + 2, none⟩ = some vi := (hbw7.cell (p := ⟨g, k * 3 + 2, none⟩) Hgb.out.lt).trans Hc2.out))
        all_goals
          have hg9 := (Hg5.out.below hbw7 Hg5.out.lt).far (p := ⟨g, k * 3 + 2, none⟩) (fun e => hne e.symm) (.slice YA YN YC)
          have hz9 := (Hz5.out.below hbw7 Hz5.out.lt).far (p := ⟨g, k * 3 + 2, none⟩) (show w.heap.size + 1 ≠ g by omega) (.slice YA YN YC)
          have q0 : (w7.setCell ⟨g, k * 3 + 2, none⟩ (.slice YA YN YC)).cell? ⟨w3.heap.size, 0, none⟩ = some (.int .i64 size) := hg9.cell 0
          have q1 : (w7.setCell ⟨g, k * 3 + 2, none⟩ (.slice YA YN YC)).cell? ⟨w3.heap.size, 1, none⟩ = some (.slice (some ⟨g, 0, none⟩) rs.length XC) := hg9.cell 1
          have q2 : (w7.setCell ⟨g, k * 3 + 2, none⟩ (.slice YA YN YC)).cell? ⟨w.heap.size + 1, 0, none⟩ = some (.int .i64 0) := hz9.cell 0
          have q3 : (w7.setCell ⟨g, k * 3 + 2, none⟩ (.slice YA YN YC)).cell? ⟨w.heap.size + 1, 1, none⟩ = some (.slice none 0 0) := hz9.cell 1
          have q4 : (w7.setCell ⟨g, k * 3 + 2, none⟩ (.slice YA YN YC)).frozen? ⟨w.heap.size + 1, 0, none⟩ = false := hz9.frozen 0
          have q5 : (w7.setCell ⟨g, k * 3 + 2, none⟩ (.slice YA YN YC)).frozen? ⟨w.heap.size + 1, 1, none⟩ = false := hz9.frozen 1
          go_wp2
          refine bodyPost_ret (v := .agg #[.int .i64 size, .slice (some ⟨g, 0, none⟩) rs.length XC]) (by simp [results, Tryd.results35, go_sem, q2, q3]) rfl ?_
          have hwx := hbx.size
          have hnr := crels_set (r' := Sh.putRel r5 t false) (Hcr5.out.keep (Keeps.of_below hbw7)) (by have := Hlen.out; omega) Hr.out rfl rfl hnz (show NTups w7 _ (.slice YA YN YC) (Sh.putT r5.tuples t false) from hny.more (by simp; omega))
          have hk0 : Keeps (w.heap.size + 2) [3, 35, 51] (w7.setCell ⟨g, k * 3 + 2, none⟩ (.slice YA YN YC)) (((w7.setCell ⟨g, k * 3 + 2, none⟩ (.slice YA YN YC)).setCell ⟨w.heap.size + 1, 0, none⟩ (.int .i64 size)).setCell ⟨w.heap.size + 1, 1, none⟩ (.slice (some ⟨g, 0, none⟩) rs.length XC)) :=
            (Keeps.setCell (p := ⟨w.heap.size + 1, 0, none⟩) hz9 (by decide) _).trans (Keeps.setCell (p := ⟨w.heap.size + 1, 1, none⟩) (hz9.set_ _ _) (by decide) _)
          refine ⟨_, rfl, ?_, (((Hb5.out.trans (hbw7.mono Hb5.out.size)).setCell (show w.heap.size ≤ g by omega) _).setCell (by simp) _).setCell (by simp) _⟩
          rw [Hputd.out]
          exact ((hnr.more (by simp)).keep hk0).more (by omega)
      · have Hul2 := Lib.hid hul; clear hul hti
        go_upto_region 11 with (at_builtin
                                refine append_tup _ rfl _ _ rfl w5.heap.size _ n us rfl (World.ownsRow.alloc Hown.out _) ⟨wr.heap.size, 0, none⟩ 1 (.slice TA TN TC) rfl ((Blk.new _ 35 #[.slice TA TN TC]).cell 0) rfl (by omega) (by simp; omega) ?_
                                intro v8 w8 hown8 hg8
                                have hbx : Below w5.heap.size w5 w8 := (hbel.alloc hbz _).grown hg8 (by simp; omega) (fun g e => (Hown.out.lt g e).1)
                                obtain ⟨NA, NC, rfl⟩ := own_slice hown8
                                have hbw8 : Below w.heap.size w w8 := Hb5.out.trans (hbx.mono Hb5.out.size))
        have hul := Hul2.out
        have hti := Hti.out
        rw [htk] at hti
        have htx : Tups w8 w8.heap.size (.slice NA (n + 1) NC) (Sh.othersR r5.tuples t ++ [t]) := tups_own hown8 (by omega) (by simp; omega) (fun j a b h1 h2 => by
          refine Ints.more (Ints.below (B := B) ?_ (hbw8.mono hB)) (Nat.le_trans hB hbw8.size)
          by_cases hj : j < n
          · rw [List.getElem?_append_left (by rw [Hn.out]; exact hj)] at h1
            rw [List.getElem?_append_left (by omega)] at h2
            exact hti j a b h1 h2
          · have hj2 : j = n := by have := (List.getElem?_eq_some_iff.1 h1).1; have := Hn.out; simp at *; omega
            subst hj2
            rw [List.getElem?_append_right (by rw [Hn.out]; exact Nat.le_refl _), Hn.out, Nat.sub_self] at h1
            rw [List.getElem?_append_right (by omega), ← hul, Nat.sub_self] at h2
            simp at h1 h2
            subst h1 h2
            exact ht)
        have hpt2 : Sh.sortR (Sh.othersR r5.tuples t ++ [t]) = Sh.putT r5.tuples t true := by simpa using Hpt.out
        have hlg : Sh.Long t.length (Sh.othersR r5.tuples t ++ [t]) := fun x hx => by
          rw [List.mem_append, List.mem_singleton] at hx
          rcases hx with h | h
          · exact holg x h
          · rw [h]
        have hln : (Sh.othersR r5.tuples t ++ [t]).length ≤ 100000 := by simp; omega
        clear htk hul hti Hul Hul2 Hti holg
        clear hown8 hg8
        generalize hN8 : n + 1 = N8 at *
        clear hN8
        have hsrt : ∀ W, Below w8.heap.size w8 W → Calls Tryd.prog 68 #[(.slice NA N8 NC)] W fun e w' => ∃ u, e = .returned u ∧ NTups w' W.heap.size u (Sh.putT r5.tuples t true) ∧ Below W.heap.size W w' := fun W hW => by
          have := sorted_any t.length (.slice NA N8 NC) (Sh.othersR r5.tuples t ++ [t]) W w8.heap.size hW.size (htx.below hW) hln hlg htl
          rw [hpt2] at this
          exact this
        have Hsrt := Lib.hid hsrt; clear hsrt
        have Htx := Lib.hid htx; clear htx hpt2 hlg
        have hG1 : w8.drew.cell? ⟨w3.heap.size, 1, none⟩ = some (.slice (some ⟨g, 0, none⟩) rs.length XC) := (hbx.cell (p := ⟨w3.heap.size, 1, none⟩) Hg5.out.lt).trans (Hg5.out.cell 1)
        go_region_law (first
          | (go_simp
             go_at_call 68
             refine (Hsrt.out _ (below_drewN (Below.refl _ _) 1)).mono ?_
             rintro e w7 ⟨y, rfl, hny, hb7⟩
             have hny' := hny
             obtain ⟨YA, YN, YC, rfl, -⟩ := hny'
             have hbw7 : Below w5.heap.size w5 w7 := hbx.drew.trans (hb7.mono hbx.size)
             have hG71 : w7.cell? ⟨w3.heap.size, 1, none⟩ = some (.slice (some ⟨g, 0, none⟩) rs.length XC) := (hbw7.cell (p := ⟨w3.heap.size, 1, none⟩) Hg5.out.lt).trans (Hg5.out.cell 1)
             have hgb7 := Hgb.out.below hbw7 Hgb.out.lt
             have hfz7 := hgb7.frozen (k * 3 + 2)
             have hcz7 : w7.cell? ⟨g, k * 3 + 2, none⟩ = some vi := (hbw7.cell (p := ⟨g, k * 3 + 2, none⟩) Hgb.out.lt).trans Hc2.out))
        all_goals
          have hg9 := (Hg5.out.below hbw7 Hg5.out.lt).far (p := ⟨g, k * 3 + 2, none⟩) (fun e => hne e.symm) (.slice YA YN YC)
          have hz9 := (Hz5.out.below hbw7 Hz5.out.lt).far (p := ⟨g, k * 3 + 2, none⟩) (show w.heap.size + 1 ≠ g by omega) (.slice YA YN YC)
          have q0 : (w7.setCell ⟨g, k * 3 + 2, none⟩ (.slice YA YN YC)).cell? ⟨w3.heap.size, 0, none⟩ = some (.int .i64 size) := hg9.cell 0
          have q1 : (w7.setCell ⟨g, k * 3 + 2, none⟩ (.slice YA YN YC)).cell? ⟨w3.heap.size, 1, none⟩ = some (.slice (some ⟨g, 0, none⟩) rs.length XC) := hg9.cell 1
          have q2 : (w7.setCell ⟨g, k * 3 + 2, none⟩ (.slice YA YN YC)).cell? ⟨w.heap.size + 1, 0, none⟩ = some (.int .i64 0) := hz9.cell 0
          have q3 : (w7.setCell ⟨g, k * 3 + 2, none⟩ (.slice YA YN YC)).cell? ⟨w.heap.size + 1, 1, none⟩ = some (.slice none 0 0) := hz9.cell 1
          have q4 : (w7.setCell ⟨g, k * 3 + 2, none⟩ (.slice YA YN YC)).frozen? ⟨w.heap.size + 1, 0, none⟩ = false := hz9.frozen 0
          have q5 : (w7.setCell ⟨g, k * 3 + 2, none⟩ (.slice YA YN YC)).frozen? ⟨w.heap.size + 1, 1, none⟩ = false := hz9.frozen 1
          go_wp2
          refine bodyPost_ret (v := .agg #[.int .i64 size, .slice (some ⟨g, 0, none⟩) rs.length XC]) (by simp [results, Tryd.results35, go_sem, q2, q3]) rfl ?_
          have hwx := hbx.size
          have hnr := crels_set (r' := Sh.putRel r5 t true) (Hcr5.out.keep (Keeps.of_below hbw7)) (by have := Hlen.out; omega) Hr.out rfl rfl hnz (show NTups w7 _ (.slice YA YN YC) (Sh.putT r5.tuples t true) from hny.more (by simp; omega))
          have hk0 : Keeps (w.heap.size + 2) [3, 35, 51] (w7.setCell ⟨g, k * 3 + 2, none⟩ (.slice YA YN YC)) (((w7.setCell ⟨g, k * 3 + 2, none⟩ (.slice YA YN YC)).setCell ⟨w.heap.size + 1, 0, none⟩ (.int .i64 size)).setCell ⟨w.heap.size + 1, 1, none⟩ (.slice (some ⟨g, 0, none⟩) rs.length XC)) :=
            (Keeps.setCell (p := ⟨w.heap.size + 1, 0, none⟩) hz9 (by decide) _).trans (Keeps.setCell (p := ⟨w.heap.size + 1, 1, none⟩) (hz9.set_ _ _) (by decide) _)
          refine ⟨_, rfl, ?_, (((Hb5.out.trans (hbw7.mono Hb5.out.size)).setCell (show w.heap.size ≤ g by omega) _).setCell (by simp) _).setCell (by simp) _⟩
          rw [Hputd.out]
          exact ((hnr.more (by simp)).keep hk0).more (by omega)

end Go.Proofs.YtbddchonhicpiaaDoor
