/-
  Texts joined: Permo, Permfine, Same, Few, Alive, Snames.
-/
import Derived.Test.YtelememdhpncgaaDoorJn9
import Derived.Test.YtelememdhpncgaaDoorJn10
import Derived.Test.YtelememdhpncgaaDoorJn1
import Derived.Test.YtelememdhpncgaaDoorJn5
import Derived.Deep.RegionHeld3
import Derived.Deep.QuietTactic
import Derived.BigQuiet
import Derived.StillTailTactics
import Derived.Test.YtelememdhpncgaaDoorJn7
import Derived.Test.YtelememdhpncgaaDoorJn4
import Derived.Deep.RegionLaw
import Derived.Deep.CutRange
import Derived.BigRegion

/-
  Walk: shape.Permute.
-/
namespace Go.Proofs.YtelememdhpncgaaDoor
open Go.RowKit

theorem set_same {α : Type} {l : List α} {k : Nat} {x : α} (h : l[k]? = some x) : l.set k x = l := by
  obtain ⟨hk, rfl⟩ := List.getElem?_eq_some_iff.1 h
  exact List.set_getElem_self hk
theorem add_zero_at (g m : Nat) : (⟨g, 0, none⟩ : Addr).add m = ⟨g, m, none⟩ := by
  unfold Addr.add
  by_cases h : m = 0 <;> simp [h]

/-- The new tuples of a relation: its tuples renamed, in rising order. -/
def TurnedT (f : Int → Int) (ts ts' : List (List Int)) : Prop := ts'.Perm (ts.map (·.map f)) ∧ Sh.Rising ts'

/-- The relations with other tuples. -/
def turnR (rs : List Sh.Rel) (tss : List (List (List Int))) : List Sh.Rel := List.zipWith (fun r ts => ⟨r.name, r.arity, ts⟩) rs tss
theorem turnR_length {rs : List Sh.Rel} {tss : List (List (List Int))} (hl : tss.length = rs.length) : (turnR rs tss).length = rs.length := by
  unfold turnR; rw [List.length_zipWith]; omega
theorem turnR_at {rs : List Sh.Rel} {tss : List (List (List Int))} {j : Nat} {r' : Sh.Rel} (h : (turnR rs tss)[j]? = some r') : ∃ r ts, rs[j]? = some r ∧ tss[j]? = some ts ∧ r' = ⟨r.name, r.arity, ts⟩ := by
  unfold turnR at h
  rw [List.getElem?_zipWith] at h
  cases h1 : rs[j]? with
  | none => rw [h1] at h; cases h
  | some r =>
    cases h2 : tss[j]? with
    | none => rw [h1, h2] at h; cases h
    | some ts =>
      rw [h1, h2] at h
      injection h with h
      exact ⟨r, ts, rfl, rfl, h.symm⟩
theorem turned_rels {w : World} {L H : Nat} {u : Value} {xs vs : List Value} {uss : List (List Value)} {rs : List Sh.Rel} {tss : List (List (List Int))} (h : PSt L H vs uss tss w) (ho : w.ownsRow L 36 3 u rs.length xs) (hc : RCells xs vs rs)
    (hsm : ∀ r ∈ rs, r.name.size ≤ 140737488351232) (htl : ∀ (j : Nat) (ts : List (List Int)), tss[j]? = some ts → ∀ t ∈ ts, t.length ≤ 1000000) (hl : rs.length ≤ 1000000) : NRels w L u (turnR rs tss) := by
  obtain ⟨hx, hv, hcc⟩ := hc
  have htt : tss.length = rs.length := by have := h.lenV; omega
  have hlen := turnR_length htt
  refine NRels.own (us := vs) ho (Nat.le_refl _) (by omega) ⟨by rw [hlen]; exact hx, by rw [hlen]; exact hv, fun j r' hr' => ?_⟩ fun j v r' hv' hr' => ?_
  · obtain ⟨r, ts, h1, -, rfl⟩ := turnR_at hr'
    exact hcc j r h1
  · obtain ⟨r, ts, h1, h2, rfl⟩ := turnR_at hr'
    have hju : j < uss.length := by have := (List.getElem?_eq_some_iff.1 h2).1; have := h.lenU; omega
    obtain ⟨a, b, c, d⟩ := h.row j v _ ts hv' (List.getElem?_eq_getElem hju) h2
    exact ⟨NTups.own c (Nat.le_refl _) (by omega) a (d.elems (htl j ts h2)), hsm r (List.mem_of_getElem? h1)⟩

set_option maxRecDepth 100000 in
set_option maxHeartbeats 2000000 in
theorem permute_ok (size : Int) (v : Value) (rs : List Sh.Rel) (u : Value) (p : List Int) (w : World) (B : Nat) (hB : B ≤ w.heap.size) (h : Rels w B v rs) (hp : Ints w B u p) (hv : Sh.validB ⟨size, rs⟩ = true) (hq : Sh.permB size p = true)
    (hin : ∀ r ∈ rs, ∀ t ∈ r.tuples, ∀ x ∈ t, 0 ≤ x ∧ x.toNat < p.length) (hnd : ∀ r ∈ rs, (r.tuples.map (List.map fun x => p.getD x.toNat 0)).Nodup) :
    Calls Tryd.prog 7 #[.agg #[.int .i64 size, v], u] w fun e w' => ∃ (x : Value) (tss : List (List (List Int))), e = .returned (.tuple #[.agg #[.int .i64 size, x], .int .i64 0]) ∧ tss.length = rs.length ∧
      (∀ (j : Nat) (r : Sh.Rel), rs[j]? = some r → ∃ ts, tss[j]? = some ts ∧ TurnedT (fun x => p.getD x.toNat 0) r.tuples ts) ∧ NRels w' w.heap.size x (turnR rs tss) ∧ Below w.heap.size w w' := by
  have h' := h
  obtain ⟨A, len, c, rfl, hlen, -⟩ := h'
  have hp' := hp
  obtain ⟨PA, PN, PC, rfl, hpn, -⟩ := hp'
  have hsz := (Sh.validB_size hv).2.1
  have hv8 := (Sh.validB_size hv).2.2
  simp only at hsz hv8
  have hsmall : ∀ r ∈ rs, r.tuples.length ≤ 1000000 ∧ ∀ t ∈ r.tuples, t.length ≤ 1000000 := fun r hm => by
    obtain ⟨j, hj, rfl⟩ := List.mem_iff_getElem.1 hm
    have hs := Sh.relB_small (Sh.validB_rel hv (List.getElem?_eq_getElem hj))
    exact ⟨by have := hs.1; omega, fun t ht => by have := hs.2 t ht; omega⟩
  have hnames : ∀ r ∈ rs, r.name.size ≤ 140737488351232 := fun r hm => by
    obtain ⟨j, hj, rfl⟩ := List.mem_iff_getElem.1 hm
    obtain ⟨-, -, r9, -, -, h9, -, -, -, -, hz9⟩ := h.at_ (k := j) (by omega)
    rw [List.getElem?_eq_getElem hj] at h9
    injection h9 with h9
    rw [h9]; exact hz9
  have Hnames := Lib.hid hnames; clear hnames
  have hb2 := ((Below.refl w.heap.size w).alloc (Nat.le_refl _) (.cells #[.int .i64 size, .slice A len c] 24)).alloc (by simp) (.cells #[.int .i64 0, .slice none 0 0] 24)
  have hcall := fun W (hW : Below w.heap.size w W) => valid_any size (.slice A len c) rs W B (Nat.le_trans hB hW.size) (h.below (hW.mono hB))
  rw [hv] at hcall
  have hperm := fun W (hW : Below w.heap.size w W) => permutes_any (.slice PA PN PC) p size W B (Nat.le_trans hB hW.size) (hp.below (hW.mono hB)) hsz
  rw [hq] at hperm
  have hcopy := fun W (hW : Below w.heap.size w W) => copyof_apart size (.slice A len c) rs W B (Nat.le_trans hB hW.size) (h.below (hW.mono hB)) (by omega) hsmall
  have hs := (Blk.new w 24 #[.int .i64 size, .slice A len c]).alloc (.cells #[.int .i64 0, .slice none 0 0] 24)
  have hz := Blk.new (w.alloc (.cells #[.int .i64 size, .slice A len c] 24)) 24 #[.int .i64 0, .slice none 0 0]
  rw [World.size_alloc] at hz
  have Hcall := Lib.hid hcall; clear hcall
  have Hperm := Lib.hid hperm; clear hperm
  have Hcopy := Lib.hid hcopy; clear hcopy
  have Hs := Lib.hid hs; clear hs
  have Hz := Lib.hid hz; clear hz
  have Hb2 := Lib.hid hb2; clear hb2
  have Hlen := Lib.hid hlen; clear hlen
  have Hpn := Lib.hid hpn; clear hpn
  have Hin := Lib.hid hin; clear hin
  have Hnd := Lib.hid hnd; clear hnd
  have Hsmall := Lib.hid hsmall; clear hsmall
  have Hv := Lib.hid hv; clear hv
  have Hq := Lib.hid hq; clear hq
  clear hsz
  go_enter Tryd.func7, Tryd.ntmps7
  go_upto_region 6 with (first
    | (go_at_call 5
       refine (Hcall.out _ Hb2.out).mono ?_
       rintro e w9 ⟨rfl, hb9⟩
       have hs9 := Hs.out.below hb9 (by simp; omega)
       have hs0 : w9.cell? ⟨w.heap.size, 0, none⟩ = some (.int .i64 size) := hs9.cell 0
       have Hz9 := Lib.hid (Hz.out.below hb9 (by simp))
       have Hs9 := Lib.hid hs9
       have Hb9 := Lib.hid (Hb2.out.trans (hb9.mono (by simp; omega)))
       clear hb9 hs9)
    | (go_at_call 16
       refine (Hperm.out _ Hb9.out).mono ?_
       rintro e w1 ⟨rfl, hb1⟩
       have hs1 := Hs9.out.below hb1 Hs9.out.lt
       have hs10 : w1.cell? ⟨w.heap.size, 0, none⟩ = some (.int .i64 size) := hs1.cell 0
       have hs11 : w1.cell? ⟨w.heap.size, 1, none⟩ = some (.slice A len c) := hs1.cell 1
       have Hz1 := Lib.hid (Hz9.out.below hb1 Hz9.out.lt)
       have Hs1 := Lib.hid hs1
       have Hb1 := Lib.hid (Hb9.out.trans (hb1.mono Hb9.out.size))
       clear hb1 hs1)
    | (go_at_call 17
       refine (Hcopy.out _ Hb1.out).mono ?_
       rintro e w2 ⟨x, rfl, hox, hb2⟩
       have hs2 := Hs1.out.below hb2 Hs1.out.lt
       have hs20 : w2.cell? ⟨w.heap.size, 0, none⟩ = some (.int .i64 size) := hs2.cell 0
       have hs21 : w2.cell? ⟨w.heap.size, 1, none⟩ = some (.slice A len c) := hs2.cell 1
       have hsf0 := hs2.frozen 0
       have hsf1 := hs2.frozen 1
       obtain ⟨xs, vs, uss, hxo, hxc, hxr, hav, hau⟩ := hox
       obtain ⟨XA, XC, rfl⟩ := own_slice hxo))
  have hs3 := (hs2.set_ 0 (.int .i64 size)).set_ 1 (.slice XA rs.length XC)
  have hz2 := Hz1.out.below hb2 Hz1.out.lt
  have hz3 := (hz2.far (p := ⟨w.heap.size, 0, none⟩) (show w.heap.size + 1 ≠ w.heap.size by omega) (.int .i64 size)).far (p := ⟨w.heap.size, 1, none⟩) (show w.heap.size + 1 ≠ w.heap.size by omega) (.slice XA rs.length XC)
  have hk3 : Keeps w1.heap.size [3, 26, 36] w2 ((w2.setCell ⟨w.heap.size, 0, none⟩ (.int .i64 size)).setCell ⟨w.heap.size, 1, none⟩ (.slice XA rs.length XC)) :=
    (Keeps.setCell (p := ⟨w.heap.size, 0, none⟩) hs2 (by decide) _).trans (Keeps.setCell (p := ⟨w.heap.size, 1, none⟩) (hs2.set_ 0 (.int .i64 size)) (by decide) _)
  have hxo3 := own_keeps hxo hk3 (Nat.le_refl _) (by simp)
  have hst3 := (PSt.of_rels hxr (Nat.le_refl _) hav hau).keep (hk3.mono (by simp))
  have hbel3 : Below w.heap.size w ((w2.setCell ⟨w.heap.size, 0, none⟩ (.int .i64 size)).setCell ⟨w.heap.size, 1, none⟩ (.slice XA rs.length XC)) := ((Hb1.out.trans (hb2.mono Hb1.out.size)).setCell (p := ⟨w.heap.size, 0, none⟩) (Nat.le_refl _) _).setCell (p := ⟨w.heap.size, 1, none⟩) (Nat.le_refl _) _
  have hL1 : w.heap.size + 1 < w1.heap.size := Hz1.out.lt
  clear hs20 hs21 hsf0 hsf1 hs0 hs10 hs11 hs2 hz2 hxo hxr hav hau hb2 hk3
  generalize ((w2.setCell ⟨w.heap.size, 0, none⟩ (.int .i64 size)).setCell ⟨w.heap.size, 1, none⟩ (.slice XA rs.length XC)) = W3 at *
  generalize w2.heap.size = H at *
  generalize w1.heap.size = L at *
  have Hst3 := Lib.hid hst3; clear hst3
  have Hxo3 := Lib.hid hxo3; clear hxo3
  have Hxc := Lib.hid hxc; clear hxc
  have hs31 : W3.cell? ⟨w.heap.size, 1, none⟩ = some (.slice XA rs.length XC) := hs3.cell 1
  go_wp2
  go_loopw [27] (fun i wr => ∃ (k : Nat) (uss : List (List Value)) (tss : List (List (List Int))), k ≤ rs.length ∧ i = .int .i64 k ∧ PSt L H vs uss tss wr ∧
      (∀ (j : Nat) (r : Sh.Rel), rs[j]? = some r → ∃ ts, tss[j]? = some ts ∧ (j < k → TurnedT (fun x => p.getD x.toNat 0) r.tuples ts) ∧ (k ≤ j → ts = r.tuples)) ∧
      wr.ownsRow L 36 3 (.slice XA rs.length XC) rs.length xs ∧ Blk wr w.heap.size 24 #[.int .i64 size, .slice XA rs.length XC] ∧
      Blk wr (w.heap.size + 1) 24 #[.int .i64 0, .slice none 0 0] ∧ Below w.heap.size w wr) (fun i _ => rs.length - (intOf i).toNat)
  case atStart =>
    refine ⟨0, uss, rs.map (·.tuples), Nat.zero_le _, rfl, Hst3.out, fun j r hr => ⟨r.tuples, by rw [List.getElem?_map, hr]; rfl, fun h => absurd h (by omega), fun _ => rfl⟩, Hxo3.out, hs3, hz3, hbel3⟩
  case round =>
    obtain ⟨k, uss, tss, hk, rfl, hst, hinv, hxo, hsb, hzb, hbel⟩ := hrel
    clear hs3 hz3 hbel3 hs31
    have Hinv := Lib.hid hinv; clear hinv
    have Hxo := Lib.hid hxo; clear hxo
    by_cases hlt : k < rs.length
    · have hsr : rs[k]? = some rs[k] := List.getElem?_eq_getElem hlt
      generalize rs[k] = r at hsr
      have hvl : vs.length = rs.length := Hxc.out.2.1
      obtain ⟨vk, hvk⟩ : ∃ x, vs[k]? = some x := ⟨_, List.getElem?_eq_getElem (show k < vs.length by omega)⟩
      have hul := hst.lenU
      have hvl2 := hst.lenV
      obtain ⟨us, huk⟩ : ∃ x, uss[k]? = some x := ⟨_, List.getElem?_eq_getElem (show k < uss.length by omega)⟩
      obtain ⟨ts, hts, -, hte⟩ := Hinv.out k r hsr
      obtain rfl := hte (Nat.le_refl _)
      obtain ⟨hlu, hln, hrow, -⟩ := hst.row k vk us _ hvk huk hts
      obtain ⟨VA, VC, rfl⟩ := own_slice hrow
      obtain ⟨ad, rfl, hLad, c0, c1, c2⟩ := relcells_at Hxo.out Hxc.out hlt hsr hvk
      have Hsr := Lib.hid hsr; clear hsr
      have Hvk := Lib.hid hvk; clear hvk
      have Huk := Lib.hid huk; clear huk
      have Hts := Lib.hid hts; clear hts
      have Hlu := Lib.hid hlu; clear hlu
      clear hvl hul hvl2 hrow hte
      have hbx := Blk.new wr 36 #[.string r.name, .int .i64 r.arity, .slice VA r.tuples.length VC]
      have hst5 := hst.keep (Keeps.alloc L [3, 26] wr (.cells #[.string r.name, .int .i64 r.arity, .slice VA r.tuples.length VC] 36))
      have hsb5 := hsb.alloc (.cells #[.string r.name, .int .i64 r.arity, .slice VA r.tuples.length VC] 36)
      have hzb5 := hzb.alloc (.cells #[.string r.name, .int .i64 r.arity, .slice VA r.tuples.length VC] 36)
      have hbel5 := hbel.alloc hbel.size (.cells #[.string r.name, .int .i64 r.arity, .slice VA r.tuples.length VC] 36)
      have Hxo5 := Lib.hid (Hxo.out.alloc (.cells #[.string r.name, .int .i64 r.arity, .slice VA r.tuples.length VC] 36))
      have hx2 : (wr.alloc (.cells #[.string r.name, .int .i64 r.arity, .slice VA r.tuples.length VC] 36)).cell? ⟨wr.heap.size, 2, none⟩ = some (.slice VA r.tuples.length VC) := hbx.cell 2
      have hszw := hbel.size
      obtain ⟨w4, rfl⟩ : ∃ x, x = wr := ⟨_, rfl⟩
      go_wp2
      go_loopw [34] (fun i w5 => ∃ j : Nat, j ≤ r.tuples.length ∧ i = .int .i64 j ∧ PSt L H vs uss (tss.set k (mixT (List.map fun x => p.getD x.toNat 0) r.tuples j)) w5 ∧
        Blk w5 w4.heap.size 36 #[.string r.name, .int .i64 r.arity, .slice VA r.tuples.length VC] ∧
        w5.ownsRow L 36 3 (.slice (some ad) rs.length XC) rs.length xs ∧ Blk w5 w.heap.size 24 #[.int .i64 size, .slice (some ad) rs.length XC] ∧
        Blk w5 (w.heap.size + 1) 24 #[.int .i64 0, .slice none 0 0] ∧ Below w.heap.size w w5) (fun i _ => r.tuples.length - (intOf i).toNat)
      case atStart =>
        refine ⟨0, Nat.zero_le _, rfl, ?_, hbx, Hxo5.out, hsb5, hzb5, hbel5⟩
        rw [mixT_zero, set_same Hts.out]
        exact hst5
      case round =>
        obtain ⟨j, hj, rfl, hst2, hbx2, hxo2, hsb2, hzb2, hbel2⟩ := hrel
        have Hxo2 := Lib.hid hxo2; clear hxo2
        have hkt : k < tss.length := (List.getElem?_eq_some_iff.1 Hts.out).1
        clear hst5 hsb5 hzb5 hbel5 Hxo5 hx2 hbx c0 c1 c2 hsb hzb
        have hx22 : wr.cell? ⟨w4.heap.size, 2, none⟩ = some (.slice VA r.tuples.length VC) := hbx2.cell 2
        by_cases hjl : j < r.tuples.length
        · have htj : r.tuples[j]? = some r.tuples[j] := List.getElem?_eq_getElem hjl
          generalize r.tuples[j] = t at htj
          obtain ⟨-, -, hrow2, hel2⟩ := hst2.row k _ us _ Hvk.out Huk.out (List.getElem?_set_self hkt)
          rw [mixT_length] at hrow2
          have hjm := mixT_at (List.map fun x => p.getD x.toNat 0) r.tuples htj
          obtain ⟨uj, huj⟩ : ∃ x, us[j]? = some x := ⟨_, List.getElem?_eq_getElem (show j < us.length by have := Hlu.out; omega)⟩
          obtain ⟨TA, tn, TC, rfl, rfl, -⟩ := hel2 j uj t huj hjm
          obtain ⟨ad2, cs2, rfl, hL2, -, hcell2⟩ := own_at hrow2 (by omega)
          have hcj := hcell2 j _ huj
          have Htj := Lib.hid htj; clear htj
          have Huj := Lib.hid huj; clear huj
          have Hjm := Lib.hid hjm; clear hjm
          clear hrow2 hel2 hcell2
          have hsz4 := hbel2.size
          obtain ⟨w5, rfl⟩ : ∃ x, x = wr := ⟨_, rfl⟩
          go_wp2
          go_loopw [40] (fun i w6 => ∃ m : Nat, m ≤ t.length ∧ i = .int .i64 m ∧ PSt L H vs uss (tss.set k ((mixT (List.map fun x => p.getD x.toNat 0) r.tuples j).set j (mixT (fun x => p.getD x.toNat 0) t m))) w6 ∧
            Blk w6 w4.heap.size 36 #[.string r.name, .int .i64 r.arity, .slice (some ad2) r.tuples.length VC] ∧
            w6.ownsRow L 36 3 (.slice (some ad) rs.length XC) rs.length xs ∧ Blk w6 w.heap.size 24 #[.int .i64 size, .slice (some ad) rs.length XC] ∧
            Blk w6 (w.heap.size + 1) 24 #[.int .i64 0, .slice none 0 0] ∧ Below w.heap.size w w6) (fun i _ => t.length - (intOf i).toNat)
          case atStart =>
            refine ⟨0, Nat.zero_le _, rfl, ?_, hbx2, Hxo2.out, hsb2, hzb2, hbel2⟩
            rw [mixT_zero, set_same Hjm.out]
            exact hst2
          case round =>
            obtain ⟨m, hm, rfl, hst3, hbx3, hxo3, hsb3, hzb3, hbel3⟩ := hrel
            obtain ⟨w6, rfl⟩ : ∃ x, x = wr := ⟨_, rfl⟩
            have Hxo3 := Lib.hid hxo3; clear hxo3
            clear hst2 hbx2 hsb2 hzb2 hx22 hcj
            by_cases hml : m < t.length
            · have htl : t.length ≤ 1000000 := (Hsmall.out r (List.mem_of_getElem? Hsr.out)).2 t (List.mem_of_getElem? Htj.out)
              have Hm1 := Lib.hid (show m + 1 ≤ t.length from hml)
              have htm : t[m]? = some t[m] := List.getElem?_eq_getElem hml
              have hxin := Hin.out r (List.mem_of_getElem? Hsr.out) t (List.mem_of_getElem? Htj.out) t[m] (List.getElem_mem hml)
              generalize t[m] = x at htm hxin
              obtain ⟨hx0, hxp⟩ := hxin
              obtain ⟨y, rfl⟩ := Int.eq_ofNat_of_zero_le hx0
              rw [Int.toNat_natCast] at hxp
              obtain ⟨-, -, -, hel3⟩ := hst3.row k _ us _ Hvk.out Huk.out (List.getElem?_set_self hkt)
              obtain ⟨A9, n9, c9, q1, q2, q3⟩ := hel3 j _ (mixT (fun x => p.getD x.toNat 0) t m) Huj.out (List.getElem?_set_self (by rw [mixT_length]; exact hjl))
              injection q1 with q1 q4 q5
              subst q1 q4 q5
              obtain ⟨g, cap, hTA, hLg, hgl⟩ := q3.form (by omega)
              injection hTA with hTA _ hcap
              subst hTA hcap
              obtain ⟨ad3, cs3, had3, -, hh3, hcell3⟩ := own_at q3 (by omega)
              obtain rfl := Option.some.inj had3
              have hmx := mixT_at (fun x => p.getD x.toNat 0) t htm
              have hcm := hcell3 m (.int .i64 (y : Int)) (by rw [List.getElem?_map, hmx]; rfl)
              have hfm : w6.frozen? ⟨g, m, none⟩ = false := Blk.frozen (w := w6) hh3 m
              have hp3 : Ints w6 B (.slice PA PN PC) p := hp.below (hbel3.mono hB)
              obtain ⟨ad9, rfl, hb9, hpc⟩ := hp3.at_ (k := y) (by have := Hpn.out; omega)
              rw [add_zero_at] at hcm
              have Htm := Lib.hid htm; clear htm
              have Hmx := Lib.hid hmx; clear hmx
              have Hel3 := Lib.hid hel3; clear hel3
              have Hq3 := Lib.hid q3; clear q3
              have Hhh3 := Lib.hid hh3; clear hh3 hcell3
              have hyn : y < PN := by have := Hpn.out; omega
              clear q2 hp3
              go_wp2
              have hpy : p[y] = p.getD y 0 := by rw [List.getD_eq_getElem?_getD, List.getElem?_eq_getElem hxp]; rfl
              have hgH : g < H := ((apart_flat hst.apU Huk.out).2 g (List.mem_filterMap.2 ⟨_, List.mem_of_getElem? Huj.out, rfl⟩)).2
              have hHw := hst.size
              rw [hpy]
              refine ⟨⟨m + 1, Hm1.out, by go_num, ?_, hbx3.far (p := ⟨g, m, none⟩) (show w4.heap.size ≠ g by omega) _, own_keeps Hxo3.out (Keeps.setCell (L := L) (ts := [36]) (p := ⟨g, m, none⟩) Hhh3.out (by decide) _) (Nat.le_refl _) (by simp), hsb3.far (p := ⟨g, m, none⟩) (show w.heap.size ≠ g by omega) _, hzb3.far (p := ⟨g, m, none⟩) (show w.heap.size + 1 ≠ g by omega) _, hbel3.setCell (p := ⟨g, m, none⟩) (show w.heap.size ≤ g by omega) _⟩, by have := Hm1.out; simp [intOf]; omega⟩
              have hms := mixT_set (fun x => p.getD x.toNat 0) t Htm.out
              simp only [Int.toNat_natCast] at hms
              have := hst3.store (j := j) (i := m) Hvk.out Huk.out (List.getElem?_set_self hkt) Huj.out (List.getElem?_set_self (by rw [mixT_length]; exact hjl)) (by rw [mixT_length]; exact hml) (p.getD y 0)
              rw [List.set_set, List.set_set, hms] at this
              exact this
            · obtain rfl : m = t.length := by omega
              rw [mixT_all, mixT_set _ _ Htj.out] at hst3
              go_wp2
              refine ⟨⟨j + 1, by omega, by go_num, hst3, hbx3, Hxo3.out, hsb3, hzb3, hbel3⟩, by simp [intOf]; omega⟩
        · obtain rfl : j = r.tuples.length := by omega
          rw [mixT_all] at hst2
          obtain ⟨hlu2, hln2, hrow2, hel2⟩ := hst2.row k _ us _ Hvk.out Huk.out (List.getElem?_set_self hkt)
          have hsort := sort_own _ us _ wr L hrow2 (hel2.elems fun t ht => by
            obtain ⟨t0, h0, rfl⟩ := List.mem_map.1 ht
            rw [List.length_map]
            exact (Hsmall.out r (List.mem_of_getElem? Hsr.out)).2 t0 h0) (Hnd.out r (List.mem_of_getElem? Hsr.out)) hln2
          have Hsort := Lib.hid hsort; clear hsort hlu2
          have Hrow2 := Lib.hid hrow2; clear hrow2
          go_wp2_with (go_at_call 18; refine Hsort.out.mono ?_; rintro e w6 ⟨rfl, hg6, us', ts', hp1, hp2, hri, hl6, ho6, -, hpair⟩)
          have hks : ∀ g, (Value.slice VA r.tuples.length VC).ownBlock = some g → L ≤ g := fun g e => (Hrow2.out.lt g e).1
          refine ⟨⟨k + 1, uss.set k us', tss.set k ts', by omega, by go_num, ?_, ?_, own_keeps Hxo2.out (Keeps.own (L := L) (ts := [36]) hg6 Hrow2.out (by decide)) (Nat.le_refl _) (by simp), hsb2.grown hg6 (fun e => by have := hks _ e.symm; omega), hzb2.grown hg6 (fun e => by have := hks _ e.symm; omega), hbel2.grown hg6 hbel2.size (fun g e => by have := hks g e; omega)⟩, by simp [intOf]; omega⟩
          · have := hst2.sort Hvk.out Huk.out (List.getElem?_set_self hkt) hg6 hp2 hp1 ho6 hpair
            rwa [List.set_set] at this
          · intro j' r' hr'
            by_cases hjk : k = j'
            · subst hjk
              have hrr := Hsr.out
              rw [hr'] at hrr
              injection hrr with hrr
              subst hrr
              exact ⟨ts', List.getElem?_set_self hkt, fun _ => ⟨hp1, hri⟩, fun hh => absurd hh (by omega)⟩
            · obtain ⟨t9, g1, g2, g3⟩ := Hinv.out j' r' hr'
              exact ⟨t9, by rw [List.getElem?_set_ne hjk]; exact g1, fun hh => g2 (by omega), fun hh => g3 (by omega)⟩
    · have hkl : k = rs.length := by omega
      have Hkl := Lib.hid hkl; clear hkl
      have hc0 : wr.cell? ⟨w.heap.size, 0, none⟩ = some (.int .i64 size) := hsb.cell 0
      have hc1 : wr.cell? ⟨w.heap.size, 1, none⟩ = some (.slice XA rs.length XC) := hsb.cell 1
      have hzc0 : wr.cell? ⟨w.heap.size + 1, 0, none⟩ = some (.int .i64 0) := hzb.cell 0
      have hzc1 : wr.cell? ⟨w.heap.size + 1, 1, none⟩ = some (.slice none 0 0) := hzb.cell 1
      have hzf0 := hzb.frozen 0
      have hzf1 := hzb.frozen 1
      go_wp2
      refine bodyPost_ret (v := .tuple #[.agg #[.int .i64 size, .slice XA rs.length XC], .int .i64 0]) (by simp [results, Tryd.results7, go_sem, hzc0, hzc1]) rfl ?_
      have hk0 : Keeps L [3, 26, 36] wr ((wr.setCell ⟨w.heap.size + 1, 0, none⟩ (.int .i64 size)).setCell ⟨w.heap.size + 1, 1, none⟩ (.slice XA rs.length XC)) :=
        (Keeps.setCell (p := ⟨w.heap.size + 1, 0, none⟩) hzb (by decide) _).trans (Keeps.setCell (p := ⟨w.heap.size + 1, 1, none⟩) (hzb.set_ _ _) (by decide) _)
      have htt : tss.length = rs.length := by have := hst.lenV; have := Hxc.out.2.1; omega
      have hturn : ∀ (j : Nat) (r : Sh.Rel), rs[j]? = some r → ∃ ts, tss[j]? = some ts ∧ TurnedT (fun x => p.getD x.toNat 0) r.tuples ts := fun j r hr => by
        obtain ⟨ts, g1, g2, -⟩ := Hinv.out j r hr
        exact ⟨ts, g1, g2 (by have := (List.getElem?_eq_some_iff.1 hr).1; have := Hkl.out; omega)⟩
      have hlens : ∀ (j : Nat) (ts : List (List Int)), tss[j]? = some ts → ∀ t ∈ ts, t.length ≤ 1000000 := fun j ts hj t ht => by
        have hjl : j < rs.length := by have := (List.getElem?_eq_some_iff.1 hj).1; omega
        obtain ⟨ts', g1, g2⟩ := hturn j _ (List.getElem?_eq_getElem hjl)
        rw [hj] at g1
        injection g1 with g1
        subst g1
        obtain ⟨t0, h0, rfl⟩ := List.mem_map.1 (g2.1.mem_iff.1 ht)
        rw [List.length_map]
        exact (Hsmall.out _ (List.getElem_mem hjl)).2 t0 h0
      refine ⟨_, tss, rfl, htt, hturn, (turned_rels (hst.keep (hk0.mono (by simp))) (own_keeps Hxo.out hk0 (Nat.le_refl _) (by simp)) Hxc.out Hnames.out hlens (by omega)).more (by omega), (hbel.setCell (by simp) _).setCell (by simp) _⟩

end Go.Proofs.YtelememdhpncgaaDoor

/-
  shape.Permute where it refuses and where it succeeds, in one place.
-/
namespace Go.Proofs.YtelememdhpncgaaDoor
open Go.RowKit

/-- The relations that Permute leaves are the renamed ones. -/
theorem turn_ren {size : Int} {rs : List Sh.Rel} {p : List Int} {tss : List (List (List Int))} (hv : Sh.validB ⟨size, rs⟩ = true) (hl : tss.length = rs.length)
    (h : ∀ (j : Nat) (r : Sh.Rel), rs[j]? = some r → ∃ ts, tss[j]? = some ts ∧ TurnedT (fun x => p.getD x.toNat 0) r.tuples ts) : turnR rs tss = Sh.renR p rs := by
  refine List.ext_getElem? fun j => ?_
  unfold turnR Sh.renR
  rw [List.getElem?_zipWith, List.getElem?_map]
  cases hr : rs[j]? with
  | none => rfl
  | some r =>
    obtain ⟨ts, ht, hp, hri⟩ := h j r hr
    rw [ht]
    have hrb := Sh.validB_rel hv hr
    show some (⟨r.name, r.arity, ts⟩ : Sh.Rel) = some (Sh.renRel p r)
    rw [Sh.ren_eq (Sh.rel_long hrb) hp hri]
    rfl
theorem permute_fine (size : Int) (v : Value) (rs : List Sh.Rel) (u : Value) (p : List Int) (w : World) (B : Nat) (hB : B ≤ w.heap.size) (h : Rels w B v rs) (hp : Ints w B u p) (hv : Sh.validB ⟨size, rs⟩ = true) (hq : Sh.permB size p = true) :
    Calls Tryd.prog 7 #[.agg #[.int .i64 size, v], u] w fun e w' => ∃ (x : Value), e = .returned (.tuple #[.agg #[.int .i64 size, x], .int .i64 0]) ∧ NRels w' w.heap.size x (Sh.renR p rs) ∧ Below w.heap.size w w' :=
  (permute_ok size v rs u p w B hB h hp hv hq (Sh.perm_in hv hq) (Sh.perm_nodup hv hq)).mono fun e w' ⟨x, tss, he, hl, ht, hn, hb⟩ => ⟨x, he, by rw [← turn_ren hv hl ht]; exact hn, hb⟩

end Go.Proofs.YtelememdhpncgaaDoor

/-
  Walks: the reference's SameTuples, Same at equal lists; the law's is.
-/
namespace Go.Proofs.YtelememdhpncgaaDoor
open Go.RowKit

set_option maxRecDepth 100000 in
set_option maxHeartbeats 400000 in
theorem sametuples_eq (v u : Value) (ts : List (List Int)) (w : World) (B : Nat) (h : Tups w B v ts) (g : Tups w B u ts) :
    Calls Tryd.prog 20 #[v, u] w fun e w' => e = .returned (.bool true) ∧ ∃ n, w' = w.drewN n := by
  have h' := h
  have g' := g
  obtain ⟨A, len, c, rfl, hlen, hmax, -⟩ := h'
  obtain ⟨A', len', c', rfl, glen, gmax, -⟩ := g'
  obtain rfl : len = len' := by omega
  have Hlen := Lib.hid hlen; clear hlen
  clear glen gmax
  go_enter Tryd.func20, Tryd.ntmps20
  go_wp2
  go_loopw [5] (fun i wr => ∃ k m : Nat, k ≤ len ∧ i = .int .i64 k ∧ wr = w.drewN m) (fun i _ => len - (intOf i).toNat)
  case atStart => exact ⟨0, 0, Nat.zero_le _, rfl, rfl⟩
  case round =>
    obtain ⟨k, m, hk, rfl, rfl⟩ := hrel
    by_cases hlt : k < len
    · obtain ⟨ad, x, rfl, -, h1, hx⟩ := h.at_ hlt
      obtain ⟨ad', y, rfl, -, g1, hy⟩ := g.at_ hlt
      have hcall := fun W (h1 : Ints W B x (ts.getD k [])) (h2 : Ints W B y (ts.getD k [])) => equal_any x y (ts.getD k []) (ts.getD k []) W B h1 h2
      rw [(Sh.eqB_iff _ _).2 rfl] at hcall
      have Hcall := Lib.hid hcall; clear hcall
      go_wp2
      go_quiet ((go_at_call 15; exact quiet_add (Hcall.out _ hx hy)))
      go_wp2
      exact ⟨⟨k + 1, _, by omega, by go_num, rfl⟩, by simp [intOf]; omega⟩
    · go_wp2
      go_ret
      exact ⟨rfl, _, rfl⟩

set_option maxRecDepth 100000 in
set_option maxHeartbeats 400000 in
theorem same_eq (size : Int) (v u : Value) (rs : List Sh.Rel) (w : World) (B : Nat) (hB : B ≤ w.heap.size) (h : Rels w B v rs) (g : Rels w B u rs) :
    Calls Tryd.prog 8 #[.agg #[.int .i64 size, v], .agg #[.int .i64 size, u]] w fun e w' => e = .returned (.bool true) ∧ Below w.heap.size w w' := by
  have h' := h
  have g' := g
  obtain ⟨A, len, c, rfl, hlen, hmax, -⟩ := h'
  obtain ⟨A', len', c', rfl, glen, gmax, -⟩ := g'
  obtain rfl : len = len' := by omega
  have Hlen := Lib.hid hlen; clear hlen
  clear glen gmax
  go_enter Tryd.func8, Tryd.ntmps8
  go_wp2
  have hb2 : Below w.heap.size w ((w.alloc (.cells #[.int .i64 size, .slice A len c] 24)).alloc (.cells #[.int .i64 size, .slice A' len c'] 24)) :=
    ((Below.refl _ _).alloc (Nat.le_refl _) _).alloc (by simp) _
  have hx2 : Blk ((w.alloc (.cells #[.int .i64 size, .slice A len c] 24)).alloc (.cells #[.int .i64 size, .slice A' len c'] 24)) w.heap.size 24 #[.int .i64 size, .slice A len c] := (Blk.new _ _ _).alloc _
  have hy2 : Blk ((w.alloc (.cells #[.int .i64 size, .slice A len c] 24)).alloc (.cells #[.int .i64 size, .slice A' len c'] 24)) (w.heap.size + 1) 24 #[.int .i64 size, .slice A' len c'] := by
    have := Blk.new (w.alloc (.cells #[.int .i64 size, .slice A len c] 24)) 24 #[.int .i64 size, .slice A' len c']
    rw [World.size_alloc] at this
    exact this
  generalize ((w.alloc (.cells #[.int .i64 size, .slice A len c] 24)).alloc (.cells #[.int .i64 size, .slice A' len c'] 24)) = W2 at *
  go_loopw [5] (fun i wr => ∃ k : Nat, k ≤ len ∧ i = .int .i64 k ∧ Blk wr w.heap.size 24 #[.int .i64 size, .slice A len c] ∧ Blk wr (w.heap.size + 1) 24 #[.int .i64 size, .slice A' len c'] ∧ Below w.heap.size w wr) (fun i _ => len - (intOf i).toNat)
  case atStart => exact ⟨0, Nat.zero_le _, rfl, hx2, hy2, hb2⟩
  case round =>
    obtain ⟨k, hk, rfl, hx, hy, hbel⟩ := hrel
    clear hx2 hy2 hb2
    have hy1 : wr.cell? ⟨w.heap.size + 1, 1, none⟩ = some (.slice A' len c') := hy.cell 1
    have hx1 : wr.cell? ⟨w.heap.size, 1, none⟩ = some (.slice A len c) := hx.cell 1
    have hbz := hbel.size
    by_cases hlt : k < len
    · obtain ⟨ad, p, r, rfl, hb, hr, c0, c1, c2, htp, -⟩ := (h.below (hbel.mono hB)).at_ hlt
      obtain ⟨ad', q, r', rfl, hb', hr', d0, d1, d2, htq, -⟩ := (g.below (hbel.mono hB)).at_ hlt
      obtain rfl : r = r' := Option.some.inj (hr.symm.trans hr')
      clear hr hr'
      have htp' := htp
      obtain ⟨PA, PN, PC, rfl, -⟩ := htp'
      have htq' := htq
      obtain ⟨QA, QN, QC, rfl, -⟩ := htq'
      have hxl := hx.lt
      have hyl := hy.lt
      have hall : ∀ W, Below wr.heap.size wr W → (W.cell? ⟨w.heap.size, 1, none⟩ = some (.slice (some ad) len c) ∧ W.cell? ⟨w.heap.size + 1, 1, none⟩ = some (.slice (some ad') len c') ∧
          W.cell? (ad.add (k * 3)) = some (.string r.name) ∧ W.cell? ⟨(ad.add (k * 3)).block, (ad.add (k * 3)).off + 1, none⟩ = some (.int .i64 r.arity) ∧ W.cell? ⟨(ad.add (k * 3)).block, (ad.add (k * 3)).off + 2, none⟩ = some (.slice PA PN PC) ∧
          W.cell? (ad'.add (k * 3)) = some (.string r.name) ∧ W.cell? ⟨(ad'.add (k * 3)).block, (ad'.add (k * 3)).off + 1, none⟩ = some (.int .i64 r.arity) ∧ W.cell? ⟨(ad'.add (k * 3)).block, (ad'.add (k * 3)).off + 2, none⟩ = some (.slice QA QN QC) ∧ Below wr.heap.size wr W) := fun W hW =>
        ⟨(hW.cell (p := ⟨w.heap.size, 1, none⟩) hxl).trans hx1, (hW.cell (p := ⟨w.heap.size + 1, 1, none⟩) hyl).trans hy1, (hW.cell (by rw [block_of_add]; omega)).trans c0, (hW.cell (by show (ad.add _).block < _; rw [block_of_add]; omega)).trans c1, (hW.cell (by show (ad.add _).block < _; rw [block_of_add]; omega)).trans c2,
         (hW.cell (by rw [block_of_add]; omega)).trans d0, (hW.cell (by show (ad'.add _).block < _; rw [block_of_add]; omega)).trans d1, (hW.cell (by show (ad'.add _).block < _; rw [block_of_add]; omega)).trans d2, hW⟩
      have hst : ∀ W, Below wr.heap.size wr W → Calls Tryd.prog 20 #[.slice PA PN PC, .slice QA QN QC] W fun e w' => e = .returned (.bool true) ∧ ∃ n, w' = W.drewN n := fun W hW =>
        sametuples_eq _ _ r.tuples W B (htp.below (hW.mono (by omega))) (htq.below (hW.mono (by omega)))
      have Hst := Lib.hid hst; clear hst
      have Hall := Lib.hid hall; clear hall
      have Hx := Lib.hid hx; clear hx
      have Hy := Lib.hid hy; clear hy
      go_wp2
      go_region_held3 (fun W => W.cell? ⟨w.heap.size, 1, none⟩ = some (.slice (some ad) len c) ∧ W.cell? ⟨w.heap.size + 1, 1, none⟩ = some (.slice (some ad') len c') ∧
          W.cell? (ad.add (k * 3)) = some (.string r.name) ∧ W.cell? ⟨(ad.add (k * 3)).block, (ad.add (k * 3)).off + 1, none⟩ = some (.int .i64 r.arity) ∧ W.cell? ⟨(ad.add (k * 3)).block, (ad.add (k * 3)).off + 2, none⟩ = some (.slice PA PN PC) ∧
          W.cell? (ad'.add (k * 3)) = some (.string r.name) ∧ W.cell? ⟨(ad'.add (k * 3)).block, (ad'.add (k * 3)).off + 1, none⟩ = some (.int .i64 r.arity) ∧ W.cell? ⟨(ad'.add (k * 3)).block, (ad'.add (k * 3)).off + 2, none⟩ = some (.slice QA QN QC) ∧ Below wr.heap.size wr W)
        (first
          | assumption
          | (refine Hall.out _ ?_
             repeat (first | exact Below.refl _ _ | refine Below.drew ?_ | refine Below.setCell ?_ (by simp) _ | refine Below.alloc ?_ (by simp) _)))
        (fail)
      all_goals
        go_wp2_with (go_at_call 20
                     refine (Hst.out _ (by repeat (first | exact Below.refl _ _ | refine Below.drew ?_ | refine Below.setCell ?_ (by simp) _ | refine Below.alloc ?_ (by simp) _))).mono ?_
                     rintro e w9 ⟨rfl, n, rfl⟩)
        have hbw := fun W (hW : Below wr.heap.size wr W) => (⟨Hx.out.below hW (by omega), Hy.out.below hW (by omega), hbel.trans (hW.mono hbz)⟩ : Blk W w.heap.size 24 #[.int .i64 size, .slice (some ad) len c] ∧ Blk W (w.heap.size + 1) 24 #[.int .i64 size, .slice (some ad') len c'] ∧ Below w.heap.size w W)
        exact ⟨⟨k + 1, by omega, by go_num, hbw _ (by
          repeat (first | exact Below.refl _ _ | refine below_drewN ?_ _ | refine Below.drew ?_ | refine Below.setCell ?_ (by simp) _ | refine Below.alloc ?_ (by simp) _))⟩, by simp [intOf]; omega⟩
    · go_wp2
      go_ret
      exact ⟨rfl, hbel⟩

theorem Rels.nil (w : World) (B : Nat) : Rels w B (.slice none 0 0) [] := ⟨_, _, _, rfl, rfl, by omega, fun h => absurd h (by omega)⟩

end Go.Proofs.YtelememdhpncgaaDoor

/-
  Walk: Few of one structure: it returns a truth value, and nothing turns.
-/
namespace Go.Proofs.YtelememdhpncgaaDoor
open Go.RowKit

/-- It returns a truth value. -/
def IsBool (e : Ending) : Prop := ∃ b, e = .returned (.bool b)
theorem IsBool.mk {e : Ending} {b : Bool} (h : e = .returned (.bool b)) : IsBool e := ⟨b, h⟩

set_option maxRecDepth 100000 in
set_option maxHeartbeats 400000 in
theorem few_any (g : Nat) (size : Int) (A : Option Addr) (len c B : Nat) (rs : List Sh.Rel) (w : World) (hb : Blk w g 24 #[.int .i64 size, .slice A len c]) (h : Rels w B (.slice A len c) rs) :
    Calls Tryd.prog 4 #[.slice (some ⟨g, 0, none⟩) 1 1] w fun e w' => IsBool e ∧ w = w' := by
  have c1 : w.cell? ⟨g, 1, none⟩ = some (.slice A len c) := hb.cell 1
  clear hb
  go_enter Tryd.func4, Tryd.ntmps4
  go_wp2
  go_loop [3, 4, 5] (fun t e i => ∃ (T E : Int) (k : Nat), k ≤ 1 ∧ t = .int .i64 T ∧ e = .int .i64 E ∧ i = .int .i64 k) (fun _ _ i => 1 - (intOf i).toNat)
  case atStart => exact ⟨0, 0, 0, by omega, rfl, rfl, rfl⟩
  case round =>
    obtain ⟨T, E, k, hk, rfl, rfl, rfl⟩ := hrel
    by_cases hk1 : k < 1
    · obtain rfl : k = 0 := by omega
      by_cases h12 : 12 < len
      · go_wp2
        go_ret
        exact ⟨⟨_, rfl⟩, rfl⟩
      · go_wp2
        go_loop [3, 4, 6] (fun t e i => ∃ (T E : Int) (k : Nat), k ≤ len ∧ t = .int .i64 T ∧ e = .int .i64 E ∧ i = .int .i64 k) (fun _ _ i => len - (intOf i).toNat)
        case atStart => exact ⟨T, E, 0, by omega, rfl, rfl, rfl⟩
        case round =>
          obtain ⟨T, E, k, hk, rfl, rfl, rfl⟩ := hrel
          by_cases hkl : k < len
          · obtain ⟨ad, u, r, rfl, hbk, hr, hc0, -, hc2, htu, -⟩ := h.at_ hkl
            have htu' := htu
            obtain ⟨A2, n2, c2, rfl, hn2, hm2, -⟩ := htu'
            go_wp2
            all_goals first
              | (go_ret; exact ⟨⟨_, rfl⟩, rfl⟩)
              | skip
            go_loop [4, 7] (fun e i => ∃ (E : Int) (j : Nat), j ≤ n2 ∧ e = .int .i64 E ∧ i = .int .i64 j) (fun _ i => n2 - (intOf i).toNat)
            case atStart => exact ⟨E, 0, by omega, rfl, rfl⟩
            case round =>
              obtain ⟨E, j, hj, rfl, rfl⟩ := hrel
              by_cases hjn : j < n2
              · obtain ⟨ad2, u3, rfl, -, hc3, hiu⟩ := htu.at_ hjn
                have hiu' := hiu
                obtain ⟨A3, n3, c3, rfl, -⟩ := hiu'
                go_wp2
                exact ⟨⟨_, j + 1, by omega, rfl, by go_num⟩, by simp [intOf]; omega⟩
              · go_wp2
                exact ⟨⟨_, _, k + 1, by omega, rfl, rfl, by go_num⟩, by simp [intOf]; omega⟩
          · go_wp2
            exact ⟨⟨T, E, 1, by omega, rfl, rfl, by go_num⟩, by simp [intOf]⟩
    · go_wp2
      go_ret
      exact ⟨⟨_, rfl⟩, rfl⟩

end Go.Proofs.YtelememdhpncgaaDoor

/-
  Walk: alive, the examples of the chapter.
-/
namespace Go.Proofs.YtelememdhpncgaaDoor
open Go.RowKit

theorem ex_t1 : tupP [48, 44, 49, 32, 49, 44, 50, 59, 32, 80, 47, 49, 32, 50, 59, 32, 81, 47, 48, 32, 40, 41] = some ([0, 1], [32, 49, 44, 50, 59, 32, 80, 47, 49, 32, 50, 59, 32, 81, 47, 48, 32, 40, 41]) := by
  rw [tupP_more (v := 0) rfl (by decide +kernel), show List.drop (digRun [48, 44, 49, 32, 49, 44, 50, 59, 32, 80, 47, 49, 32, 50, 59, 32, 81, 47, 48, 32, 40, 41]) [48, 44, 49, 32, 49, 44, 50, 59, 32, 80, 47, 49, 32, 50, 59, 32, 81, 47, 48, 32, 40, 41] = ([44, 49, 32, 49, 44, 50, 59, 32, 80, 47, 49, 32, 50, 59, 32, 81, 47, 48, 32, 40, 41] : List UInt8) from by decide +kernel]
  rw [numsP_more (v := 1) rfl (by decide +kernel), show List.drop (digRun (List.drop 1 [44, 49, 32, 49, 44, 50, 59, 32, 80, 47, 49, 32, 50, 59, 32, 81, 47, 48, 32, 40, 41])) (List.drop 1 [44, 49, 32, 49, 44, 50, 59, 32, 80, 47, 49, 32, 50, 59, 32, 81, 47, 48, 32, 40, 41]) = ([32, 49, 44, 50, 59, 32, 80, 47, 49, 32, 50, 59, 32, 81, 47, 48, 32, 40, 41] : List UInt8) from by decide +kernel]
  rw [numsP_stop rfl]
  rfl

theorem ex_t2 : tupP [49, 44, 50, 59, 32, 80, 47, 49, 32, 50, 59, 32, 81, 47, 48, 32, 40, 41] = some ([1, 2], [59, 32, 80, 47, 49, 32, 50, 59, 32, 81, 47, 48, 32, 40, 41]) := by
  rw [tupP_more (v := 1) rfl (by decide +kernel), show List.drop (digRun [49, 44, 50, 59, 32, 80, 47, 49, 32, 50, 59, 32, 81, 47, 48, 32, 40, 41]) [49, 44, 50, 59, 32, 80, 47, 49, 32, 50, 59, 32, 81, 47, 48, 32, 40, 41] = ([44, 50, 59, 32, 80, 47, 49, 32, 50, 59, 32, 81, 47, 48, 32, 40, 41] : List UInt8) from by decide +kernel]
  rw [numsP_more (v := 2) rfl (by decide +kernel), show List.drop (digRun (List.drop 1 [44, 50, 59, 32, 80, 47, 49, 32, 50, 59, 32, 81, 47, 48, 32, 40, 41])) (List.drop 1 [44, 50, 59, 32, 80, 47, 49, 32, 50, 59, 32, 81, 47, 48, 32, 40, 41]) = ([59, 32, 80, 47, 49, 32, 50, 59, 32, 81, 47, 48, 32, 40, 41] : List UInt8) from by decide +kernel]
  rw [numsP_stop rfl]
  rfl

theorem ex_t3 : tupP [50, 59, 32, 81, 47, 48, 32, 40, 41] = some ([2], [59, 32, 81, 47, 48, 32, 40, 41]) := by
  rw [tupP_more (v := 2) rfl (by decide +kernel), show List.drop (digRun [50, 59, 32, 81, 47, 48, 32, 40, 41]) [50, 59, 32, 81, 47, 48, 32, 40, 41] = ([59, 32, 81, 47, 48, 32, 40, 41] : List UInt8) from by decide +kernel]
  rw [numsP_stop rfl]
  rfl

theorem ex_t4 : tupP [40, 41] = some ([], []) := by rw [tupP_unit rfl]; rfl

theorem ex_r1 : relP [59, 32, 69, 47, 50, 32, 48, 44, 49, 32, 49, 44, 50, 59, 32, 80, 47, 49, 32, 50, 59, 32, 81, 47, 48, 32, 40, 41] = some (⟨⟨#[69]⟩, 2, [[0, 1], [1, 2]]⟩, [59, 32, 80, 47, 49, 32, 50, 59, 32, 81, 47, 48, 32, 40, 41]) := by
  rw [relP_more (k := 2) rfl (by decide +kernel) (by decide +kernel), show List.drop (digRun (List.drop 1 (List.drop (nameRun (List.drop 2 [59, 32, 69, 47, 50, 32, 48, 44, 49, 32, 49, 44, 50, 59, 32, 80, 47, 49, 32, 50, 59, 32, 81, 47, 48, 32, 40, 41])) (List.drop 2 [59, 32, 69, 47, 50, 32, 48, 44, 49, 32, 49, 44, 50, 59, 32, 80, 47, 49, 32, 50, 59, 32, 81, 47, 48, 32, 40, 41])))) (List.drop 1 (List.drop (nameRun (List.drop 2 [59, 32, 69, 47, 50, 32, 48, 44, 49, 32, 49, 44, 50, 59, 32, 80, 47, 49, 32, 50, 59, 32, 81, 47, 48, 32, 40, 41])) (List.drop 2 [59, 32, 69, 47, 50, 32, 48, 44, 49, 32, 49, 44, 50, 59, 32, 80, 47, 49, 32, 50, 59, 32, 81, 47, 48, 32, 40, 41]))) = ([32, 48, 44, 49, 32, 49, 44, 50, 59, 32, 80, 47, 49, 32, 50, 59, 32, 81, 47, 48, 32, 40, 41] : List UInt8) from by decide +kernel]
  rw [tupsP_more (l := [32, 48, 44, 49, 32, 49, 44, 50, 59, 32, 80, 47, 49, 32, 50, 59, 32, 81, 47, 48, 32, 40, 41]) (p := ([0, 1], [32, 49, 44, 50, 59, 32, 80, 47, 49, 32, 50, 59, 32, 81, 47, 48, 32, 40, 41])) rfl ex_t1]
  rw [tupsP_more (l := [32, 49, 44, 50, 59, 32, 80, 47, 49, 32, 50, 59, 32, 81, 47, 48, 32, 40, 41]) (p := ([1, 2], [59, 32, 80, 47, 49, 32, 50, 59, 32, 81, 47, 48, 32, 40, 41])) rfl ex_t2]
  rw [tupsP_stop rfl]
  rfl

theorem ex_r2 : relP [59, 32, 80, 47, 49, 32, 50, 59, 32, 81, 47, 48, 32, 40, 41] = some (⟨⟨#[80]⟩, 1, [[2]]⟩, [59, 32, 81, 47, 48, 32, 40, 41]) := by
  rw [relP_more (k := 1) rfl (by decide +kernel) (by decide +kernel), show List.drop (digRun (List.drop 1 (List.drop (nameRun (List.drop 2 [59, 32, 80, 47, 49, 32, 50, 59, 32, 81, 47, 48, 32, 40, 41])) (List.drop 2 [59, 32, 80, 47, 49, 32, 50, 59, 32, 81, 47, 48, 32, 40, 41])))) (List.drop 1 (List.drop (nameRun (List.drop 2 [59, 32, 80, 47, 49, 32, 50, 59, 32, 81, 47, 48, 32, 40, 41])) (List.drop 2 [59, 32, 80, 47, 49, 32, 50, 59, 32, 81, 47, 48, 32, 40, 41]))) = ([32, 50, 59, 32, 81, 47, 48, 32, 40, 41] : List UInt8) from by decide +kernel]
  rw [tupsP_more (l := [32, 50, 59, 32, 81, 47, 48, 32, 40, 41]) (p := ([2], [59, 32, 81, 47, 48, 32, 40, 41])) rfl ex_t3]
  rw [tupsP_stop rfl]
  rfl

theorem ex_r3 : relP [59, 32, 81, 47, 48, 32, 40, 41] = some (⟨⟨#[81]⟩, 0, [[]]⟩, []) := by
  rw [relP_more (k := 0) rfl (by decide +kernel) (by decide +kernel), show List.drop (digRun (List.drop 1 (List.drop (nameRun (List.drop 2 [59, 32, 81, 47, 48, 32, 40, 41])) (List.drop 2 [59, 32, 81, 47, 48, 32, 40, 41])))) (List.drop 1 (List.drop (nameRun (List.drop 2 [59, 32, 81, 47, 48, 32, 40, 41])) (List.drop 2 [59, 32, 81, 47, 48, 32, 40, 41]))) = ([32, 40, 41] : List UInt8) from by decide +kernel]
  rw [tupsP_more (l := [32, 40, 41]) (p := ([], [])) rfl ex_t4]
  rw [tupsP_stop rfl]
  rfl

def exS : Sh.Str := ⟨3, [⟨⟨#[69]⟩, 2, [[0, 1], [1, 2]]⟩, ⟨⟨#[80]⟩, 1, [[2]]⟩, ⟨⟨#[81]⟩, 0, [[]]⟩]⟩

theorem ex_parse : parseP [51, 59, 32, 69, 47, 50, 32, 48, 44, 49, 32, 49, 44, 50, 59, 32, 80, 47, 49, 32, 50, 59, 32, 81, 47, 48, 32, 40, 41] = some exS := by
  have h : strP [51, 59, 32, 69, 47, 50, 32, 48, 44, 49, 32, 49, 44, 50, 59, 32, 80, 47, 49, 32, 50, 59, 32, 81, 47, 48, 32, 40, 41] = some exS := by
    rw [strP_more (n := 3) (by decide +kernel), show List.drop (digRun [51, 59, 32, 69, 47, 50, 32, 48, 44, 49, 32, 49, 44, 50, 59, 32, 80, 47, 49, 32, 50, 59, 32, 81, 47, 48, 32, 40, 41]) [51, 59, 32, 69, 47, 50, 32, 48, 44, 49, 32, 49, 44, 50, 59, 32, 80, 47, 49, 32, 50, 59, 32, 81, 47, 48, 32, 40, 41] = ([59, 32, 69, 47, 50, 32, 48, 44, 49, 32, 49, 44, 50, 59, 32, 80, 47, 49, 32, 50, 59, 32, 81, 47, 48, 32, 40, 41] : List UInt8) from by decide +kernel]
    rw [relsP_more (by simp) ex_r1, relsP_more (by simp) ex_r2, relsP_more (by simp) ex_r3, relsP_nil]
    rfl
  unfold parseP
  rw [if_neg (by decide), h]
  exact if_pos (by decide +kernel)

theorem ex_rank : Sh.rankE 3 [1, 2] = (5, 0) := by decide +kernel
theorem ex_tup : Sh.tupE 2 3 5 = ([1, 0, 1], 0) := by decide +kernel
theorem ex_has : Sh.hasE exS [69] [1, 2] = (true, 0) := by decide +kernel
theorem ex_eq : Sh.eqB [1, 0, 1] [1, 0, 1] = true := by decide +kernel

def exL : ByteArray := ⟨#[51, 59, 32, 69, 47, 50, 32, 48, 44, 49, 32, 49, 44, 50, 59, 32, 80, 47, 49, 32, 50, 59, 32, 81, 47, 48, 32, 40, 41]⟩
theorem ex_out {w w' : World} {e : Ending} (h : ParsePost exL w e w') : Below w.heap.size w w' ∧ ∃ A n c, e = .returned (.tuple #[.agg #[.int .i64 3, .slice A n c], .int .i64 0]) ∧ NRels w' w.heap.size (.slice A n c) exS.rels := by
  obtain ⟨hb, h⟩ := h
  rw [show parseP exL.toList = some exS from (congrArg parseP (by decide +kernel)).trans ex_parse] at h
  obtain ⟨u, rfl, hu⟩ := h
  obtain ⟨A, n, c, rfl⟩ := hu.shape
  exact ⟨hb, A, n, c, rfl, hu⟩

theorem ints12 {w : World} {g : Nat} (h : Blk w g 3 #[.int .i64 1, .int .i64 2]) : Ints w w.heap.size (.slice (some ⟨g, 0, none⟩) 2 2) [1, 2] := by
  refine h.reads 2 2 [1, 2] rfl (by omega) fun i x hx => ?_
  match i, hx with
  | 0, hx => injection hx with hx; subst hx; rfl
  | 1, hx => injection hx with hx; subst hx; rfl
theorem ints101 {w : World} {g : Nat} (h : Blk w g 3 #[.int .i64 1, .int .i64 0, .int .i64 1]) : Ints w w.heap.size (.slice (some ⟨g, 0, none⟩) 3 3) [1, 0, 1] := by
  refine h.reads 3 3 [1, 0, 1] rfl (by omega) fun i x hx => ?_
  match i, hx with
  | 0, hx => injection hx with hx; subst hx; rfl
  | 1, hx => injection hx with hx; subst hx; rfl
  | 2, hx => injection hx with hx; subst hx; rfl

set_option maxRecDepth 100000 in
set_option maxHeartbeats 400000 in
theorem alive_any (w : World) (hv : Vars w) (hw : 5 ≤ w.heap.size) :
    Calls Tryd.prog 6 #[] w fun e w' => e = .returned (.bool true) ∧ Below w.heap.size w w' := by
  have hp := parse_any exL w (by decide +kernel) hv hw
  have Hp := Lib.hid hp; clear hp hv
  go_enter Tryd.func6, Tryd.ntmps6
  go_wp2_with (first
   | (go_at_call 12; refine Hp.out.mono ?_; rintro e w1 hpost; obtain ⟨hb1, A, n, c, rfl, hu1⟩ := ex_out hpost; clear hpost
      have Hb1 := Lib.hid hb1; clear hb1
      have Hu1 := Lib.hid hu1; clear hu1)
   | (go_at_call 13
      have k2 := Blk.alloc (Blk.new w1 24 #[.int .i64 3, .slice A n c]) (.cells #[.int .i64 1, .int .i64 2] 3)
      have l2 := Blk.new (w1.alloc (.cells #[.int .i64 3, .slice A n c] 24)) 3 #[.int .i64 1, .int .i64 2]
      have hb2 := (Hb1.out.alloc Hb1.out.size (.cells #[.int .i64 3, .slice A n c] 24)).alloc (by simp; have := Hb1.out.size; omega) (.cells #[.int .i64 1, .int .i64 2] 3)
      have hu2 := (Hu1.out.keep (Keeps.alloc _ _ _ (.cells #[.int .i64 3, .slice A n c] 24))).keep (Keeps.alloc _ _ _ (.cells #[.int .i64 1, .int .i64 2] 3))
      simp at l2
      generalize ((w1.alloc (.cells #[.int .i64 3, .slice A n c] 24)).alloc (.cells #[.int .i64 1, .int .i64 2] 3)) = w2 at k2 l2 hb2 hu2 ⊢
      refine (rank_any 3 _ [1, 2] w2 _ (ints12 l2)).mono ?_
      rintro e w3 ⟨rfl, rfl⟩
      rw [ex_rank]
      have d20 := k2.cell0
      have d21 := k2.cell1
      generalize w1.heap.size = g at k2 l2 d20 d21 ⊢
      clear l2 Hb1 Hu1
      have K2 := Lib.hid k2; clear k2
      have Hb2 := Lib.hid hb2; clear hb2
      have Hu2 := Lib.hid hu2; clear hu2)
   | (go_at_call 14
      refine (tuple_any 2 3 5 w2).mono ?_
      rintro e w4 ⟨v4, rfl, hv4, hb4⟩
      rw [ex_tup] at hv4 ⊢
      have k4 := Blk.below K2.out hb4 (Blk.lt K2.out)
      have hu4 := Hu2.out.keep (Keeps.of_below hb4)
      have hbw4 := Hb2.out.trans (hb4.mono Hb2.out.size)
      have d40 := k4.cell0
      have d41 := k4.cell1
      clear K2 Hb2 Hu2 d20 d21 hb4
      have K4 := Lib.hid k4; clear k4
      have Hu4 := Lib.hid hu4; clear hu4
      have Hb4 := Lib.hid hbw4; clear hbw4
      have Hv4 := Lib.hid hv4; clear hv4)
   | (go_at_call 9
      have l5 := Blk.new w4 3 #[.int .i64 1, .int .i64 2]
      have k5 := Blk.alloc K4.out (.cells #[.int .i64 1, .int .i64 2] 3)
      have hu5 := Hu4.out.keep (Keeps.alloc _ _ _ (.cells #[.int .i64 1, .int .i64 2] 3))
      have hv5 := (Hv4.out.below ((Below.refl _ w4).alloc (Nat.le_refl _) (.cells #[.int .i64 1, .int .i64 2] 3))).more (B' := (w4.alloc (.cells #[.int .i64 1, .int .i64 2] 3)).heap.size) (by simp)
      have hb5 := Hb4.out.alloc Hb4.out.size (.cells #[.int .i64 1, .int .i64 2] 3)
      generalize (w4.alloc (.cells #[.int .i64 1, .int .i64 2] 3)) = w5 at l5 k5 hu5 hv5 hb5 ⊢
      refine (has_any 3 (.slice A n c) exS.rels _ _ [1, 2] w5 _ (Nat.le_refl _) hu5.rels (ints12 l5)).mono ?_
      rintro e w6 ⟨rfl, hb6⟩
      rw [show Sh.hasE ⟨3, exS.rels⟩ (ByteArray.toList ⟨#[69]⟩) [1, 2] = (true, 0) from (congrArg (fun l => Sh.hasE exS l [1, 2]) (by decide +kernel)).trans ex_has]
      have k6 := Blk.below k5 hb6 (Blk.lt k5)
      have hv6 := (hv5.below hb6).more hb6.size
      have hbw6 := hb5.trans (hb6.mono hb5.size)
      have d60 := k6.cell0
      have d61 := k6.cell1
      clear K4 Hb4 Hu4 Hv4 d40 d41 l5 k5 hu5 hv5 hb5 hb6 k6
      have Hb6 := Lib.hid hbw6; clear hbw6
      have Hv6 := Lib.hid hv6; clear hv6)
   | (go_at_call 15
      have l7 := Blk.new w6 3 #[.int .i64 1, .int .i64 0, .int .i64 1]
      have hv7 := (Hv6.out.below ((Below.refl _ w6).alloc (Nat.le_refl _) (.cells #[.int .i64 1, .int .i64 0, .int .i64 1] 3))).more (B' := (w6.alloc (.cells #[.int .i64 1, .int .i64 0, .int .i64 1] 3)).heap.size) (by simp)
      have hb7 := Hb6.out.alloc Hb6.out.size (.cells #[.int .i64 1, .int .i64 0, .int .i64 1] 3)
      refine (equal_any _ _ [1, 0, 1] [1, 0, 1] _ _ hv7 (ints101 l7)).mono ?_
      rintro e w8 ⟨rfl, d8, rfl⟩
      rw [ex_eq]
      have Hb7 := Lib.hid hb7; clear hb7 hv7 l7))
  refine ⟨rfl, .bool true, ?_, rfl, below_drewN Hb7.out d8⟩
  simp [results, Tryd.results6, Tryd.f6, go_sem]

end Go.Proofs.YtelememdhpncgaaDoor

/-
  Walk: ShapeNames.
-/
namespace Go.Proofs.YtelememdhpncgaaDoor
open Go.RowKit

set_option maxRecDepth 100000 in
set_option maxHeartbeats 4000000 in
theorem snames_off (size : Int) (v : Value) (rs : List Sh.Rel) (u t : Value) (l tl : List Int) (w : World) (h : Rels w w.heap.size v rs) (hu : U8s w w.heap.size u l) (ht : Ints w w.heap.size t tl) (hv : Vars w) (hw : 5 ≤ w.heap.size) (hoff : Sh.validB ⟨size, rs⟩ = false ∨ 12 < tl.length) :
    Calls Tryd.prog 3 #[.agg #[.int .i64 size, v], u, t] w fun e w' => e = .returned (.bool true) ∧ Below w.heap.size w w' := by
  have h' := h
  obtain ⟨A, len, c, rfl, -⟩ := h'
  have hu' := hu
  obtain ⟨SA, SN, SC, rfl, -⟩ := hu'
  have ht' := ht
  obtain ⟨TA, TN, TC, rfl, htn, -⟩ := ht'
  rw [← htn] at hoff
  clear htn
  have hb1 := (Below.refl w.heap.size w).alloc (Nat.le_refl _) (.cells #[.int .i64 size, .slice A len c] 24)
  have hbel := hb1.alloc (by simp) (.cells #[.int .i64 size, .slice A len c] 24)
  have hsb := (Blk.new w 24 #[.int .i64 size, .slice A len c]).alloc (.cells #[.int .i64 size, .slice A len c] 24)
  have hvar := Blk.new (w.alloc (.cells #[.int .i64 size, .slice A len c] 24)) 24 #[.int .i64 size, .slice A len c]
  rw [World.size_alloc] at hvar
  have hrels := h.below hbel
  have hvs := hv.below hbel hw
  have Hbel := Lib.hid hbel; clear hbel hb1
  have Hvar := Lib.hid hvar; clear hvar
  have Hrels := Lib.hid hrels; clear hrels
  have Hvs := Lib.hid hvs; clear hvs
  have x0 : ((w.alloc (.cells #[.int .i64 size, .slice A len c] 24)).alloc (.cells #[.int .i64 size, .slice A len c] 24)).cell? ⟨w.heap.size, 0, none⟩ = some (.int .i64 size) := hsb.cell 0
  have x1 : ((w.alloc (.cells #[.int .i64 size, .slice A len c] 24)).alloc (.cells #[.int .i64 size, .slice A len c] 24)).cell? ⟨w.heap.size, 1, none⟩ = some (.slice A len c) := hsb.cell 1
  clear hsb
  generalize hvb : Sh.validB ⟨size, rs⟩ = vb at hoff
  have Hvb := Lib.hid hvb; clear hvb
  have Hoff := Lib.hid hoff; clear hoff
  go_enter Tryd.func3, Tryd.ntmps3
  cases vb
  · go_wp2_with (first
      | (go_at_call 4
         refine (few_any (w.heap.size + 1) size A len c _ rs _ Hvar.out Hrels.out).mono ?_
         rintro e w1 ⟨⟨b1, rfl⟩, rfl⟩)
      | (go_at_call 5
         refine (valid_any size _ rs _ w.heap.size Hbel.out.size (h.below Hbel.out)).mono ?_
         rw [Hvb.out]
         rintro e w3 ⟨rfl, hb3⟩
         have Hbel3 := Lib.hid (Hbel.out.trans (hb3.mono Hbel.out.size)))
      | (go_at_call 6
         with_reducible refine (alive_any _ Hvs.out (Nat.le_trans hw (Below.size Hbel.out))).mono ?_
         rintro e w12 ⟨rfl, hb12⟩
         have Hb12 := Lib.hid (Below.trans Hbel.out (hb12.mono (Below.size Hbel.out))))
      | (go_at_call 6
         refine (alive_any _ (hv.below Hbel3.out hw) (Nat.le_trans hw (Below.size Hbel3.out))).mono ?_
         rintro e w12 ⟨rfl, hb12⟩
         have Hb12 := Lib.hid (Below.trans Hbel3.out (hb12.mono (Below.size Hbel3.out)))))
    all_goals (
      refine ⟨rfl, .bool true, ?_, rfl, Hb12.out⟩
      simp [results, Tryd.results3, Tryd.f3, go_sem])
  · have h12 : 12 < TN := by rcases Hoff.out with h | h; cases h; exact h
    go_wp2_with (first
      | (go_at_call 4
         refine (few_any (w.heap.size + 1) size A len c _ rs _ Hvar.out Hrels.out).mono ?_
         rintro e w1 ⟨⟨b1, rfl⟩, rfl⟩)
      | (go_at_call 5
         refine (valid_any size _ rs _ w.heap.size Hbel.out.size (h.below Hbel.out)).mono ?_
         rw [Hvb.out]
         rintro e w3 ⟨rfl, hb3⟩
         have Hbel3 := Lib.hid (Hbel.out.trans (hb3.mono Hbel.out.size)))
      | (go_at_call 6
         with_reducible refine (alive_any _ Hvs.out (Nat.le_trans hw (Below.size Hbel.out))).mono ?_
         rintro e w12 ⟨rfl, hb12⟩
         have Hb12 := Lib.hid (Below.trans Hbel.out (hb12.mono (Below.size Hbel.out))))
      | (go_at_call 6
         refine (alive_any _ (hv.below Hbel3.out hw) (Nat.le_trans hw (Below.size Hbel3.out))).mono ?_
         rintro e w12 ⟨rfl, hb12⟩
         have Hb12 := Lib.hid (Below.trans Hbel3.out (hb12.mono (Below.size Hbel3.out)))))
    all_goals (
      refine ⟨rfl, .bool true, ?_, rfl, Hb12.out⟩
      simp [results, Tryd.results3, Tryd.f3, go_sem])

end Go.Proofs.YtelememdhpncgaaDoor
