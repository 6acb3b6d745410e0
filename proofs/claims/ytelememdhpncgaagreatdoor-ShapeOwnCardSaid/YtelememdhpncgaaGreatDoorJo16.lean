/-
  Texts joined: Permo, Permm, Ren, Spec6, Renm, Permfine.
-/
import Derived.Test.YtelememdhpncgaaGreatDoorJo14
import Derived.Test.YtelememdhpncgaaGreatDoorJo15
import Derived.Test.YtelememdhpncgaaGreatDoorJo13
import Derived.Test.YtelememdhpncgaaGreatDoorJo5
import Derived.Test.YtelememdhpncgaaGreatDoorJo7

/-
  Walk: shape.Permute.
-/
namespace Go.Proofs.YtelememdhpncgaaGreatDoor
open Go.RowKit

theorem set_same {α : Type} {l : List α} {k : Nat} {x : α} (h : l[k]? = some x) : l.set k x = l := by
  obtain ⟨hk, rfl⟩ := List.getElem?_eq_some_iff.1 h
  exact List.set_getElem_self hk
theorem add_zero_at (g m : Nat) : (⟨g, 0, none⟩ : Addr).add m = ⟨g, m, none⟩ := by
  unfold Addr.add
  by_cases h : m = 0 <;> simp [h]

/-- The new tuples of a relation: its tuples renamed, in rising order. -/
def TurnedT (f : Int → Int) (ts ts' : List (List Int)) : Prop := ts'.Perm (ts.map (·.map f)) ∧ Sh.Rising ts'

/-- The relations with other tuples. -/
def turnR (rs : List Sh.Rel) (tss : List (List (List Int))) : List Sh.Rel := List.zipWith (fun r ts => ⟨r.name, r.arity, ts⟩) rs tss
theorem turnR_length {rs : List Sh.Rel} {tss : List (List (List Int))} (hl : tss.length = rs.length) : (turnR rs tss).length = rs.length := by
  unfold turnR; rw [List.length_zipWith]; omega
theorem turnR_at {rs : List Sh.Rel} {tss : List (List (List Int))} {j : Nat} {r' : Sh.Rel} (h : (turnR rs tss)[j]? = some r') : ∃ r ts, rs[j]? = some r ∧ tss[j]? = some ts ∧ r' = ⟨r.name, r.arity, ts⟩ := by
  unfold turnR at h
  rw [List.getElem?_zipWith] at h
  cases h1 : rs[j]? with
  | none => rw [h1] at h; cases h
  | some r =>
    cases h2 : tss[j]? with
    | none => rw [h1, h2] at h; cases h
    | some ts =>
      rw [h1, h2] at h
      injection h with h
      exact ⟨r, ts, rfl, rfl, h.symm⟩
theorem turned_rels {w : World} {L H : Nat} {u : Value} {xs vs : List Value} {uss : List (List Value)} {rs : List Sh.Rel} {tss : List (List (List Int))} (h : PSt L H vs uss tss w) (ho : w.ownsRow L 57 3 u rs.length xs) (hc : RCells xs vs rs)
    (hsm : ∀ r ∈ rs, r.name.size ≤ 140737488351232) (htl : ∀ (j : Nat) (ts : List (List Int)), tss[j]? = some ts → ∀ t ∈ ts, t.length ≤ 1000000) (hl : rs.length ≤ 1000000) : NRels w L u (turnR rs tss) := by
  obtain ⟨hx, hv, hcc⟩ := hc
  have htt : tss.length = rs.length := by have := h.lenV; omega
  have hlen := turnR_length htt
  refine NRels.own (us := vs) ho (Nat.le_refl _) (by omega) ⟨by rw [hlen]; exact hx, by rw [hlen]; exact hv, fun j r' hr' => ?_⟩ fun j v r' hv' hr' => ?_
  · obtain ⟨r, ts, h1, -, rfl⟩ := turnR_at hr'
    exact hcc j r h1
  · obtain ⟨r, ts, h1, h2, rfl⟩ := turnR_at hr'
    have hju : j < uss.length := by have := (List.getElem?_eq_some_iff.1 h2).1; have := h.lenU; omega
    obtain ⟨a, b, c, d⟩ := h.row j v _ ts hv' (List.getElem?_eq_getElem hju) h2
    exact ⟨NTups.own c (Nat.le_refl _) (by omega) a (d.elems (htl j ts h2)), hsm r (List.mem_of_getElem? h1)⟩

set_option maxRecDepth 100000 in
set_option maxHeartbeats 2000000 in
theorem permute_ok (size : Int) (v : Value) (rs : List Sh.Rel) (u : Value) (p : List Int) (w : World) (B : Nat) (hB : B ≤ w.heap.size) (h : Rels w B v rs) (hp : Ints w B u p) (hv : Sh.validB ⟨size, rs⟩ = true) (hq : Sh.permB size p = true)
    (hin : ∀ r ∈ rs, ∀ t ∈ r.tuples, ∀ x ∈ t, 0 ≤ x ∧ x.toNat < p.length) (hnd : ∀ r ∈ rs, (r.tuples.map (List.map fun x => p.getD x.toNat 0)).Nodup) :
    Calls Tryz.prog 10 #[.agg #[.int .i64 size, v], u] w fun e w' => ∃ (x : Value) (tss : List (List (List Int))), e = .returned (.tuple #[.agg #[.int .i64 size, x], .int .i64 0]) ∧ tss.length = rs.length ∧
      (∀ (j : Nat) (r : Sh.Rel), rs[j]? = some r → ∃ ts, tss[j]? = some ts ∧ TurnedT (fun x => p.getD x.toNat 0) r.tuples ts) ∧ NRels w' w.heap.size x (turnR rs tss) ∧ Below w.heap.size w w' := by
  have h' := h
  obtain ⟨A, len, c, rfl, hlen, -⟩ := h'
  have hp' := hp
  obtain ⟨PA, PN, PC, rfl, hpn, -⟩ := hp'
  have hsz := (Sh.validB_size hv).2.1
  have hv8 := (Sh.validB_size hv).2.2
  simp only at hsz hv8
  have hsmall : ∀ r ∈ rs, r.tuples.length ≤ 1000000 ∧ ∀ t ∈ r.tuples, t.length ≤ 1000000 := fun r hm => by
    obtain ⟨j, hj, rfl⟩ := List.mem_iff_getElem.1 hm
    have hs := Sh.relB_small (Sh.validB_rel hv (List.getElem?_eq_getElem hj))
    exact ⟨by have := hs.1; omega, fun t ht => by have := hs.2 t ht; omega⟩
  have hnames : ∀ r ∈ rs, r.name.size ≤ 140737488351232 := fun r hm => by
    obtain ⟨j, hj, rfl⟩ := List.mem_iff_getElem.1 hm
    obtain ⟨-, -, r9, -, -, h9, -, -, -, -, hz9⟩ := h.at_ (k := j) (by omega)
    rw [List.getElem?_eq_getElem hj] at h9
    injection h9 with h9
    rw [h9]; exact hz9
  have Hnames := Lib.hid hnames; clear hnames
  have hb2 := ((Below.refl w.heap.size w).alloc (Nat.le_refl _) (.cells #[.int .i64 size, .slice A len c] 24)).alloc (by simp) (.cells #[.int .i64 0, .slice none 0 0] 24)
  have hcall := fun W (hW : Below w.heap.size w W) => valid_any size (.slice A len c) rs W B (Nat.le_trans hB hW.size) (h.below (hW.mono hB))
  rw [hv] at hcall
  have hperm := fun W (hW : Below w.heap.size w W) => permutes_any (.slice PA PN PC) p size W B (Nat.le_trans hB hW.size) (hp.below (hW.mono hB)) hsz
  rw [hq] at hperm
  have hcopy := fun W (hW : Below w.heap.size w W) => copyof_apart size (.slice A len c) rs W B (Nat.le_trans hB hW.size) (h.below (hW.mono hB)) (by omega) hsmall
  have hs := (Blk.new w 24 #[.int .i64 size, .slice A len c]).alloc (.cells #[.int .i64 0, .slice none 0 0] 24)
  have hz := Blk.new (w.alloc (.cells #[.int .i64 size, .slice A len c] 24)) 24 #[.int .i64 0, .slice none 0 0]
  rw [World.size_alloc] at hz
  have Hcall := Lib.hid hcall; clear hcall
  have Hperm := Lib.hid hperm; clear hperm
  have Hcopy := Lib.hid hcopy; clear hcopy
  have Hs := Lib.hid hs; clear hs
  have Hz := Lib.hid hz; clear hz
  have Hb2 := Lib.hid hb2; clear hb2
  have Hlen := Lib.hid hlen; clear hlen
  have Hpn := Lib.hid hpn; clear hpn
  have Hin := Lib.hid hin; clear hin
  have Hnd := Lib.hid hnd; clear hnd
  have Hsmall := Lib.hid hsmall; clear hsmall
  have Hv := Lib.hid hv; clear hv
  have Hq := Lib.hid hq; clear hq
  clear hsz
  go_enter Tryz.func10, Tryz.ntmps10
  go_upto_region 6 with (first
    | (go_at_call 31
       refine (Hcall.out _ Hb2.out).mono ?_
       rintro e w9 ⟨rfl, hb9⟩
       have hs9 := Hs.out.below hb9 (by simp; omega)
       have hs0 : w9.cell? ⟨w.heap.size, 0, none⟩ = some (.int .i64 size) := hs9.cell 0
       have Hz9 := Lib.hid (Hz.out.below hb9 (by simp))
       have Hs9 := Lib.hid hs9
       have Hb9 := Lib.hid (Hb2.out.trans (hb9.mono (by simp; omega)))
       clear hb9 hs9)
    | (go_at_call 32
       refine (Hperm.out _ Hb9.out).mono ?_
       rintro e w1 ⟨rfl, hb1⟩
       have hs1 := Hs9.out.below hb1 Hs9.out.lt
       have hs10 : w1.cell? ⟨w.heap.size, 0, none⟩ = some (.int .i64 size) := hs1.cell 0
       have hs11 : w1.cell? ⟨w.heap.size, 1, none⟩ = some (.slice A len c) := hs1.cell 1
       have Hz1 := Lib.hid (Hz9.out.below hb1 Hz9.out.lt)
       have Hs1 := Lib.hid hs1
       have Hb1 := Lib.hid (Hb9.out.trans (hb1.mono Hb9.out.size))
       clear hb1 hs1)
    | (go_at_call 33
       refine (Hcopy.out _ Hb1.out).mono ?_
       rintro e w2 ⟨x, rfl, hox, hb2⟩
       have hs2 := Hs1.out.below hb2 Hs1.out.lt
       have hs20 : w2.cell? ⟨w.heap.size, 0, none⟩ = some (.int .i64 size) := hs2.cell 0
       have hs21 : w2.cell? ⟨w.heap.size, 1, none⟩ = some (.slice A len c) := hs2.cell 1
       have hsf0 := hs2.frozen 0
       have hsf1 := hs2.frozen 1
       obtain ⟨xs, vs, uss, hxo, hxc, hxr, hav, hau⟩ := hox
       obtain ⟨XA, XC, rfl⟩ := own_slice hxo))
  have hs3 := (hs2.set_ 0 (.int .i64 size)).set_ 1 (.slice XA rs.length XC)
  have hz2 := Hz1.out.below hb2 Hz1.out.lt
  have hz3 := (hz2.far (p := ⟨w.heap.size, 0, none⟩) (show w.heap.size + 1 ≠ w.heap.size by omega) (.int .i64 size)).far (p := ⟨w.heap.size, 1, none⟩) (show w.heap.size + 1 ≠ w.heap.size by omega) (.slice XA rs.length XC)
  have hk3 : Keeps w1.heap.size [3, 25, 57] w2 ((w2.setCell ⟨w.heap.size, 0, none⟩ (.int .i64 size)).setCell ⟨w.heap.size, 1, none⟩ (.slice XA rs.length XC)) :=
    (Keeps.setCell (p := ⟨w.heap.size, 0, none⟩) hs2 (by decide) _).trans (Keeps.setCell (p := ⟨w.heap.size, 1, none⟩) (hs2.set_ 0 (.int .i64 size)) (by decide) _)
  have hxo3 := own_keeps hxo hk3 (Nat.le_refl _) (by simp)
  have hst3 := (PSt.of_rels hxr (Nat.le_refl _) hav hau).keep (hk3.mono (by simp))
  have hbel3 : Below w.heap.size w ((w2.setCell ⟨w.heap.size, 0, none⟩ (.int .i64 size)).setCell ⟨w.heap.size, 1, none⟩ (.slice XA rs.length XC)) := ((Hb1.out.trans (hb2.mono Hb1.out.size)).setCell (p := ⟨w.heap.size, 0, none⟩) (Nat.le_refl _) _).setCell (p := ⟨w.heap.size, 1, none⟩) (Nat.le_refl _) _
  have hL1 : w.heap.size + 1 < w1.heap.size := Hz1.out.lt
  clear hs20 hs21 hsf0 hsf1 hs0 hs10 hs11 hs2 hz2 hxo hxr hav hau hb2 hk3
  generalize ((w2.setCell ⟨w.heap.size, 0, none⟩ (.int .i64 size)).setCell ⟨w.heap.size, 1, none⟩ (.slice XA rs.length XC)) = W3 at *
  generalize w2.heap.size = H at *
  generalize w1.heap.size = L at *
  have Hst3 := Lib.hid hst3; clear hst3
  have Hxo3 := Lib.hid hxo3; clear hxo3
  have Hxc := Lib.hid hxc; clear hxc
  have hs31 : W3.cell? ⟨w.heap.size, 1, none⟩ = some (.slice XA rs.length XC) := hs3.cell 1
  go_wp2
  go_loopw [27] (fun i wr => ∃ (k : Nat) (uss : List (List Value)) (tss : List (List (List Int))), k ≤ rs.length ∧ i = .int .i64 k ∧ PSt L H vs uss tss wr ∧
      (∀ (j : Nat) (r : Sh.Rel), rs[j]? = some r → ∃ ts, tss[j]? = some ts ∧ (j < k → TurnedT (fun x => p.getD x.toNat 0) r.tuples ts) ∧ (k ≤ j → ts = r.tuples)) ∧
      wr.ownsRow L 57 3 (.slice XA rs.length XC) rs.length xs ∧ Blk wr w.heap.size 24 #[.int .i64 size, .slice XA rs.length XC] ∧
      Blk wr (w.heap.size + 1) 24 #[.int .i64 0, .slice none 0 0] ∧ Below w.heap.size w wr) (fun i _ => rs.length - (intOf i).toNat)
  case atStart =>
    refine ⟨0, uss, rs.map (·.tuples), Nat.zero_le _, rfl, Hst3.out, fun j r hr => ⟨r.tuples, by rw [List.getElem?_map, hr]; rfl, fun h => absurd h (by omega), fun _ => rfl⟩, Hxo3.out, hs3, hz3, hbel3⟩
  case round =>
    obtain ⟨k, uss, tss, hk, rfl, hst, hinv, hxo, hsb, hzb, hbel⟩ := hrel
    clear hs3 hz3 hbel3 hs31
    have Hinv := Lib.hid hinv; clear hinv
    have Hxo := Lib.hid hxo; clear hxo
    by_cases hlt : k < rs.length
    · have hsr : rs[k]? = some rs[k] := List.getElem?_eq_getElem hlt
      generalize rs[k] = r at hsr
      have hvl : vs.length = rs.length := Hxc.out.2.1
      obtain ⟨vk, hvk⟩ : ∃ x, vs[k]? = some x := ⟨_, List.getElem?_eq_getElem (show k < vs.length by omega)⟩
      have hul := hst.lenU
      have hvl2 := hst.lenV
      obtain ⟨us, huk⟩ : ∃ x, uss[k]? = some x := ⟨_, List.getElem?_eq_getElem (show k < uss.length by omega)⟩
      obtain ⟨ts, hts, -, hte⟩ := Hinv.out k r hsr
      obtain rfl := hte (Nat.le_refl _)
      obtain ⟨hlu, hln, hrow, -⟩ := hst.row k vk us _ hvk huk hts
      obtain ⟨VA, VC, rfl⟩ := own_slice hrow
      obtain ⟨ad, rfl, hLad, c0, c1, c2⟩ := relcells_at Hxo.out Hxc.out hlt hsr hvk
      have Hsr := Lib.hid hsr; clear hsr
      have Hvk := Lib.hid hvk; clear hvk
      have Huk := Lib.hid huk; clear huk
      have Hts := Lib.hid hts; clear hts
      have Hlu := Lib.hid hlu; clear hlu
      clear hvl hul hvl2 hrow hte
      have hbx := Blk.new wr 57 #[.string r.name, .int .i64 r.arity, .slice VA r.tuples.length VC]
      have hst5 := hst.keep (Keeps.alloc L [3, 25] wr (.cells #[.string r.name, .int .i64 r.arity, .slice VA r.tuples.length VC] 57))
      have hsb5 := hsb.alloc (.cells #[.string r.name, .int .i64 r.arity, .slice VA r.tuples.length VC] 57)
      have hzb5 := hzb.alloc (.cells #[.string r.name, .int .i64 r.arity, .slice VA r.tuples.length VC] 57)
      have hbel5 := hbel.alloc hbel.size (.cells #[.string r.name, .int .i64 r.arity, .slice VA r.tuples.length VC] 57)
      have Hxo5 := Lib.hid (Hxo.out.alloc (.cells #[.string r.name, .int .i64 r.arity, .slice VA r.tuples.length VC] 57))
      have hx2 : (wr.alloc (.cells #[.string r.name, .int .i64 r.arity, .slice VA r.tuples.length VC] 57)).cell? ⟨wr.heap.size, 2, none⟩ = some (.slice VA r.tuples.length VC) := hbx.cell 2
      have hszw := hbel.size
      obtain ⟨w4, rfl⟩ : ∃ x, x = wr := ⟨_, rfl⟩
      go_wp2
      go_loopw [34] (fun i w5 => ∃ j : Nat, j ≤ r.tuples.length ∧ i = .int .i64 j ∧ PSt L H vs uss (tss.set k (mixT (List.map fun x => p.getD x.toNat 0) r.tuples j)) w5 ∧
        Blk w5 w4.heap.size 57 #[.string r.name, .int .i64 r.arity, .slice VA r.tuples.length VC] ∧
        w5.ownsRow L 57 3 (.slice (some ad) rs.length XC) rs.length xs ∧ Blk w5 w.heap.size 24 #[.int .i64 size, .slice (some ad) rs.length XC] ∧
        Blk w5 (w.heap.size + 1) 24 #[.int .i64 0, .slice none 0 0] ∧ Below w.heap.size w w5) (fun i _ => r.tuples.length - (intOf i).toNat)
      case atStart =>
        refine ⟨0, Nat.zero_le _, rfl, ?_, hbx, Hxo5.out, hsb5, hzb5, hbel5⟩
        rw [mixT_zero, set_same Hts.out]
        exact hst5
      case round =>
        obtain ⟨j, hj, rfl, hst2, hbx2, hxo2, hsb2, hzb2, hbel2⟩ := hrel
        have Hxo2 := Lib.hid hxo2; clear hxo2
        have hkt : k < tss.length := (List.getElem?_eq_some_iff.1 Hts.out).1
        clear hst5 hsb5 hzb5 hbel5 Hxo5 hx2 hbx c0 c1 c2 hsb hzb
        have hx22 : wr.cell? ⟨w4.heap.size, 2, none⟩ = some (.slice VA r.tuples.length VC) := hbx2.cell 2
        by_cases hjl : j < r.tuples.length
        · have htj : r.tuples[j]? = some r.tuples[j] := List.getElem?_eq_getElem hjl
          generalize r.tuples[j] = t at htj
          obtain ⟨-, -, hrow2, hel2⟩ := hst2.row k _ us _ Hvk.out Huk.out (List.getElem?_set_self hkt)
          rw [mixT_length] at hrow2
          have hjm := mixT_at (List.map fun x => p.getD x.toNat 0) r.tuples htj
          obtain ⟨uj, huj⟩ : ∃ x, us[j]? = some x := ⟨_, List.getElem?_eq_getElem (show j < us.length by have := Hlu.out; omega)⟩
          obtain ⟨TA, tn, TC, rfl, rfl, -⟩ := hel2 j uj t huj hjm
          obtain ⟨ad2, cs2, rfl, hL2, -, hcell2⟩ := own_at hrow2 (by omega)
          have hcj := hcell2 j _ huj
          have Htj := Lib.hid htj; clear htj
          have Huj := Lib.hid huj; clear huj
          have Hjm := Lib.hid hjm; clear hjm
          clear hrow2 hel2 hcell2
          have hsz4 := hbel2.size
          obtain ⟨w5, rfl⟩ : ∃ x, x = wr := ⟨_, rfl⟩
          go_wp2
          go_loopw [40] (fun i w6 => ∃ m : Nat, m ≤ t.length ∧ i = .int .i64 m ∧ PSt L H vs uss (tss.set k ((mixT (List.map fun x => p.getD x.toNat 0) r.tuples j).set j (mixT (fun x => p.getD x.toNat 0) t m))) w6 ∧
            Blk w6 w4.heap.size 57 #[.string r.name, .int .i64 r.arity, .slice (some ad2) r.tuples.length VC] ∧
            w6.ownsRow L 57 3 (.slice (some ad) rs.length XC) rs.length xs ∧ Blk w6 w.heap.size 24 #[.int .i64 size, .slice (some ad) rs.length XC] ∧
            Blk w6 (w.heap.size + 1) 24 #[.int .i64 0, .slice none 0 0] ∧ Below w.heap.size w w6) (fun i _ => t.length - (intOf i).toNat)
          case atStart =>
            refine ⟨0, Nat.zero_le _, rfl, ?_, hbx2, Hxo2.out, hsb2, hzb2, hbel2⟩
            rw [mixT_zero, set_same Hjm.out]
            exact hst2
          case round =>
            obtain ⟨m, hm, rfl, hst3, hbx3, hxo3, hsb3, hzb3, hbel3⟩ := hrel
            obtain ⟨w6, rfl⟩ : ∃ x, x = wr := ⟨_, rfl⟩
            have Hxo3 := Lib.hid hxo3; clear hxo3
            clear hst2 hbx2 hsb2 hzb2 hx22 hcj
            by_cases hml : m < t.length
            · have htl : t.length ≤ 1000000 := (Hsmall.out r (List.mem_of_getElem? Hsr.out)).2 t (List.mem_of_getElem? Htj.out)
              have Hm1 := Lib.hid (show m + 1 ≤ t.length from hml)
              have htm : t[m]? = some t[m] := List.getElem?_eq_getElem hml
              have hxin := Hin.out r (List.mem_of_getElem? Hsr.out) t (List.mem_of_getElem? Htj.out) t[m] (List.getElem_mem hml)
              generalize t[m] = x at htm hxin
              obtain ⟨hx0, hxp⟩ := hxin
              obtain ⟨y, rfl⟩ := Int.eq_ofNat_of_zero_le hx0
              rw [Int.toNat_natCast] at hxp
              obtain ⟨-, -, -, hel3⟩ := hst3.row k _ us _ Hvk.out Huk.out (List.getElem?_set_self hkt)
              obtain ⟨A9, n9, c9, q1, q2, q3⟩ := hel3 j _ (mixT (fun x => p.getD x.toNat 0) t m) Huj.out (List.getElem?_set_self (by rw [mixT_length]; exact hjl))
              injection q1 with q1 q4 q5
              subst q1 q4 q5
              obtain ⟨g, cap, hTA, hLg, hgl⟩ := q3.form (by omega)
              injection hTA with hTA _ hcap
              subst hTA hcap
              obtain ⟨ad3, cs3, had3, -, hh3, hcell3⟩ := own_at q3 (by omega)
              obtain rfl := Option.some.inj had3
              have hmx := mixT_at (fun x => p.getD x.toNat 0) t htm
              have hcm := hcell3 m (.int .i64 (y : Int)) (by rw [List.getElem?_map, hmx]; rfl)
              have hfm : w6.frozen? ⟨g, m, none⟩ = false := Blk.frozen (w := w6) hh3 m
              have hp3 : Ints w6 B (.slice PA PN PC) p := hp.below (hbel3.mono hB)
              obtain ⟨ad9, rfl, hb9, hpc⟩ := hp3.at_ (k := y) (by have := Hpn.out; omega)
              rw [add_zero_at] at hcm
              have Htm := Lib.hid htm; clear htm
              have Hmx := Lib.hid hmx; clear hmx
              have Hel3 := Lib.hid hel3; clear hel3
              have Hq3 := Lib.hid q3; clear q3
              have Hhh3 := Lib.hid hh3; clear hh3 hcell3
              have hyn : y < PN := by have := Hpn.out; omega
              clear q2 hp3
              go_wp2
              have hpy : p[y] = p.getD y 0 := by rw [List.getD_eq_getElem?_getD, List.getElem?_eq_getElem hxp]; rfl
              have hgH : g < H := ((apart_flat hst.apU Huk.out).2 g (List.mem_filterMap.2 ⟨_, List.mem_of_getElem? Huj.out, rfl⟩)).2
              have hHw := hst.size
              rw [hpy]
              refine ⟨⟨m + 1, Hm1.out, by go_num, ?_, hbx3.far (p := ⟨g, m, none⟩) (show w4.heap.size ≠ g by omega) _, own_keeps Hxo3.out (Keeps.setCell (L := L) (ts := [57]) (p := ⟨g, m, none⟩) Hhh3.out (by decide) _) (Nat.le_refl _) (by simp), hsb3.far (p := ⟨g, m, none⟩) (show w.heap.size ≠ g by omega) _, hzb3.far (p := ⟨g, m, none⟩) (show w.heap.size + 1 ≠ g by omega) _, hbel3.setCell (p := ⟨g, m, none⟩) (show w.heap.size ≤ g by omega) _⟩, by have := Hm1.out; simp [intOf]; omega⟩
              have hms := mixT_set (fun x => p.getD x.toNat 0) t Htm.out
              simp only [Int.toNat_natCast] at hms
              have := hst3.store (j := j) (i := m) Hvk.out Huk.out (List.getElem?_set_self hkt) Huj.out (List.getElem?_set_self (by rw [mixT_length]; exact hjl)) (by rw [mixT_length]; exact hml) (p.getD y 0)
              rw [List.set_set, List.set_set, hms] at this
              exact this
            · obtain rfl : m = t.length := by omega
              rw [mixT_all, mixT_set _ _ Htj.out] at hst3
              go_wp2
              refine ⟨⟨j + 1, by omega, by go_num, hst3, hbx3, Hxo3.out, hsb3, hzb3, hbel3⟩, by simp [intOf]; omega⟩
        · obtain rfl : j = r.tuples.length := by omega
          rw [mixT_all] at hst2
          obtain ⟨hlu2, hln2, hrow2, hel2⟩ := hst2.row k _ us _ Hvk.out Huk.out (List.getElem?_set_self hkt)
          have hsort := sort_own _ us _ wr L hrow2 (hel2.elems fun t ht => by
            obtain ⟨t0, h0, rfl⟩ := List.mem_map.1 ht
            rw [List.length_map]
            exact (Hsmall.out r (List.mem_of_getElem? Hsr.out)).2 t0 h0) (Hnd.out r (List.mem_of_getElem? Hsr.out)) hln2
          have Hsort := Lib.hid hsort; clear hsort hlu2
          have Hrow2 := Lib.hid hrow2; clear hrow2
          go_wp2_with (go_at_call 34; refine Hsort.out.mono ?_; rintro e w6 ⟨rfl, hg6, us', ts', hp1, hp2, hri, hl6, ho6, -, hpair⟩)
          have hks : ∀ g, (Value.slice VA r.tuples.length VC).ownBlock = some g → L ≤ g := fun g e => (Hrow2.out.lt g e).1
          refine ⟨⟨k + 1, uss.set k us', tss.set k ts', by omega, by go_num, ?_, ?_, own_keeps Hxo2.out (Keeps.own (L := L) (ts := [57]) hg6 Hrow2.out (by decide)) (Nat.le_refl _) (by simp), hsb2.grown hg6 (fun e => by have := hks _ e.symm; omega), hzb2.grown hg6 (fun e => by have := hks _ e.symm; omega), hbel2.grown hg6 hbel2.size (fun g e => by have := hks g e; omega)⟩, by simp [intOf]; omega⟩
          · have := hst2.sort Hvk.out Huk.out (List.getElem?_set_self hkt) hg6 hp2 hp1 ho6 hpair
            rwa [List.set_set] at this
          · intro j' r' hr'
            by_cases hjk : k = j'
            · subst hjk
              have hrr := Hsr.out
              rw [hr'] at hrr
              injection hrr with hrr
              subst hrr
              exact ⟨ts', List.getElem?_set_self hkt, fun _ => ⟨hp1, hri⟩, fun hh => absurd hh (by omega)⟩
            · obtain ⟨t9, g1, g2, g3⟩ := Hinv.out j' r' hr'
              exact ⟨t9, by rw [List.getElem?_set_ne hjk]; exact g1, fun hh => g2 (by omega), fun hh => g3 (by omega)⟩
    · have hkl : k = rs.length := by omega
      have Hkl := Lib.hid hkl; clear hkl
      have hc0 : wr.cell? ⟨w.heap.size, 0, none⟩ = some (.int .i64 size) := hsb.cell 0
      have hc1 : wr.cell? ⟨w.heap.size, 1, none⟩ = some (.slice XA rs.length XC) := hsb.cell 1
      have hzc0 : wr.cell? ⟨w.heap.size + 1, 0, none⟩ = some (.int .i64 0) := hzb.cell 0
      have hzc1 : wr.cell? ⟨w.heap.size + 1, 1, none⟩ = some (.slice none 0 0) := hzb.cell 1
      have hzf0 := hzb.frozen 0
      have hzf1 := hzb.frozen 1
      go_wp2
      refine bodyPost_ret (v := .tuple #[.agg #[.int .i64 size, .slice XA rs.length XC], .int .i64 0]) (by simp [results, Tryz.results10, go_sem, hzc0, hzc1]) rfl ?_
      have hk0 : Keeps L [3, 25, 57] wr ((wr.setCell ⟨w.heap.size + 1, 0, none⟩ (.int .i64 size)).setCell ⟨w.heap.size + 1, 1, none⟩ (.slice XA rs.length XC)) :=
        (Keeps.setCell (p := ⟨w.heap.size + 1, 0, none⟩) hzb (by decide) _).trans (Keeps.setCell (p := ⟨w.heap.size + 1, 1, none⟩) (hzb.set_ _ _) (by decide) _)
      have htt : tss.length = rs.length := by have := hst.lenV; have := Hxc.out.2.1; omega
      have hturn : ∀ (j : Nat) (r : Sh.Rel), rs[j]? = some r → ∃ ts, tss[j]? = some ts ∧ TurnedT (fun x => p.getD x.toNat 0) r.tuples ts := fun j r hr => by
        obtain ⟨ts, g1, g2, -⟩ := Hinv.out j r hr
        exact ⟨ts, g1, g2 (by have := (List.getElem?_eq_some_iff.1 hr).1; have := Hkl.out; omega)⟩
      have hlens : ∀ (j : Nat) (ts : List (List Int)), tss[j]? = some ts → ∀ t ∈ ts, t.length ≤ 1000000 := fun j ts hj t ht => by
        have hjl : j < rs.length := by have := (List.getElem?_eq_some_iff.1 hj).1; omega
        obtain ⟨ts', g1, g2⟩ := hturn j _ (List.getElem?_eq_getElem hjl)
        rw [hj] at g1
        injection g1 with g1
        subst g1
        obtain ⟨t0, h0, rfl⟩ := List.mem_map.1 (g2.1.mem_iff.1 ht)
        rw [List.length_map]
        exact (Hsmall.out _ (List.getElem_mem hjl)).2 t0 h0
      refine ⟨_, tss, rfl, htt, hturn, (turned_rels (hst.keep (hk0.mono (by simp))) (own_keeps Hxo.out hk0 (Nat.le_refl _) (by simp)) Hxc.out Hnames.out hlens (by omega)).more (by omega), (hbel.setCell (by simp) _).setCell (by simp) _⟩

end Go.Proofs.YtelememdhpncgaaGreatDoor

/-
  Plain mathematics: what a valid structure and a permutation give for Permute.
-/
namespace Go.Proofs.YtelememdhpncgaaGreatDoor
namespace Sh

theorem okB_get {n x : Int} (h : okB n x = true) : 0 ≤ x ∧ x < n := by
  refine ⟨?_, ?_⟩
  · rcases Int.lt_or_le x 0 with h1 | h1
    · rw [okB_lo h1] at h; cases h
    · exact h1
  · rcases Int.lt_or_le x n with h1 | h1
    · exact h1
    · rw [okB_hi h1] at h; cases h
theorem permB_get {n : Int} {p : List Int} (h : permB n p = true) : (p.length : Int) = n ∧ inB n p = true ∧ p.Nodup := by
  unfold permB at h
  simp only [Bool.and_eq_true, decide_eq_true_eq] at h
  exact ⟨h.1.1, h.1.2, h.2⟩
theorem perm_in {size : Int} {rs : List Rel} {p : List Int} (hv : validB ⟨size, rs⟩ = true) (hq : permB size p = true) : ∀ r ∈ rs, ∀ t ∈ r.tuples, ∀ x ∈ t, 0 ≤ x ∧ x.toNat < p.length := fun r hr t ht x hx => by
  have h1 := ((validB_iff size rs).1 hv).2.2.2.1 r hr
  have h2 := okB_get (List.all_eq_true.1 (relB_in h1 ht) x hx)
  have h3 := (permB_get hq).1
  omega
theorem perm_inj {p : List Int} (hn : p.Nodup) {x y : Int} (hx : 0 ≤ x ∧ x.toNat < p.length) (hy : 0 ≤ y ∧ y.toNat < p.length) (h : p.getD x.toNat 0 = p.getD y.toNat 0) : x = y := by
  rw [List.getD_eq_getElem?_getD, List.getD_eq_getElem?_getD, List.getElem?_eq_getElem hx.2, List.getElem?_eq_getElem hy.2] at h
  have h : p[x.toNat] = p[y.toNat] := h
  have hp := List.pairwise_iff_getElem.1 hn
  rcases Nat.lt_trichotomy x.toNat y.toNat with h1 | h1 | h1
  · exact absurd h (hp _ _ hx.2 hy.2 h1)
  · omega
  · exact absurd h.symm (hp _ _ hy.2 hx.2 h1)
theorem map_inj {f : Int → Int} {S : Int → Prop} (hf : ∀ x y, S x → S y → f x = f y → x = y) : ∀ s t : List Int, (∀ x ∈ s, S x) → (∀ x ∈ t, S x) → s.map f = t.map f → s = t
  | [], [], _, _, _ => rfl
  | [], _ :: _, _, _, h => by cases h
  | _ :: _, [], _, _, h => by cases h
  | x :: s, y :: t, hs, ht, h => by
    injection h with h1 h2
    rw [hf x y (hs x List.mem_cons_self) (ht y List.mem_cons_self) h1, map_inj hf s t (fun z hz => hs z (List.mem_cons_of_mem _ hz)) (fun z hz => ht z (List.mem_cons_of_mem _ hz)) h2]
theorem rising_nodup {ts : List (List Int)} (h : Rising ts) : ts.Nodup := by
  rw [rising_iff] at h
  exact h.imp fun {a b} hab e => by rw [e, cmpI_self] at hab; exact absurd hab (by decide)
theorem perm_nodup {size : Int} {rs : List Rel} {p : List Int} (hv : validB ⟨size, rs⟩ = true) (hq : permB size p = true) : ∀ r ∈ rs, (r.tuples.map (List.map fun x => p.getD x.toNat 0)).Nodup := fun r hr => by
  have h1 := ((validB_iff size rs).1 hv).2.2.2.1 r hr
  have hi := perm_in hv hq r hr
  have hn := rising_nodup (relB_rising h1)
  refine List.pairwise_map.2 (List.Pairwise.imp_of_mem (fun {a b} ha hb hab e => hab ?_) hn)
  exact map_inj (S := fun x => 0 ≤ x ∧ x.toNat < p.length) (fun x y hx hy he => perm_inj (permB_get hq).2.2 hx hy he) a b (hi a ha) (hi b hb) e
end Sh
end Go.Proofs.YtelememdhpncgaaGreatDoor

/-
  Walk: the reference's Renamed.
-/
namespace Go.Proofs.YtelememdhpncgaaGreatDoor
open Go.RowKit

namespace Sh
/-- A tuple with renamed elements. -/
def renT (p t : List Int) : List Int := t.map fun x => p.getD x.toNat 0
theorem renT_snoc (p t : List Int) (x : Int) : renT p (t ++ [x]) = renT p t ++ [p.getD x.toNat 0] := by unfold renT; rw [List.map_append]; rfl
end Sh

set_option maxRecDepth 100000 in
set_option maxHeartbeats 1000000 in
theorem renamed_any (v u : Value) (t p : List Int) (w : World) (B : Nat) (hB : B ≤ w.heap.size) (h : Ints w B v t) (g : Ints w B u p) (hl : t.length ≤ 1000) (hin : ∀ x ∈ t, 0 ≤ x ∧ x < p.length) :
    Calls Tryz.prog 29 #[v, u] w fun e w' => ∃ x, e = .returned x ∧ NInts w' w.heap.size x (Sh.renT p t) ∧ Below w.heap.size w w' := by
  have h' := h
  obtain ⟨A, len, c, rfl, hlen, hmax, -⟩ := h'
  have g' := g
  obtain ⟨PA, PN, PC, rfl, hpn, -⟩ := g'
  have hl1 : len ≤ 1000 := by omega
  have Hlen := Lib.hid hlen; clear hlen
  have Hpn := Lib.hid hpn; clear hpn
  have Hin := Lib.hid hin; clear hin hl
  go_enter Tryz.func29, Tryz.ntmps29
  go_wp2
  go_loopw [5, 6] (fun o i wr => ∃ k : Nat, k ≤ len ∧ i = .int .i64 k ∧ wr.ownsRow w.heap.size 3 1 o k ((Sh.renT p (t.take k)).map (Value.int .i64)) ∧ Below w.heap.size w wr) (fun _ i _ => len - (intOf i).toNat)
  case atStart => exact ⟨0, Nat.zero_le _, rfl, World.ownsRow_nil _ _ _ _, Below.refl _ _⟩
  case round =>
    obtain ⟨k, hk, rfl, hown, hbel⟩ := hrel
    obtain ⟨VA, VC, rfl⟩ := own_slice hown
    have Hown := Lib.hid hown; clear hown
    have Hbel := Lib.hid hbel; clear hbel
    have hbz := Hbel.out.size
    by_cases hlt : k < len
    · obtain ⟨ad, rfl, hb, hc⟩ := (h.below (Hbel.out.mono hB)).at_ hlt
      have hxs : t[k]? = some (t.getD k 0) := getD_some (d := 0) (by rw [← Hlen.out]; exact hlt)
      have hx := Hin.out _ (List.mem_of_getElem? hxs)
      have htk := take_snoc hxs
      generalize t.getD k 0 = x at *
      obtain ⟨y, rfl⟩ : ∃ y : Nat, x = y := ⟨x.toNat, by omega⟩
      have hy : y < PN := by rw [Hpn.out]; omega
      obtain ⟨ad2, rfl, hb2, hc2⟩ := (g.below (Hbel.out.mono hB)).at_ hy
      have hsn : Sh.renT p (t.take (k + 1)) = Sh.renT p (t.take k) ++ [p.getD y 0] := by rw [htk, Sh.renT_snoc]; simp
      generalize p.getD y 0 = z at *
      have Hsn := Lib.hid hsn; clear hsn htk hxs hx
      go_wp2_with (at_builtin
                   refine append1_int _ rfl _ _ rfl w.heap.size _ k _ rfl (World.ownsRow.alloc Hown.out _) ⟨wr.heap.size, 0, none⟩ 1 z rfl ((Blk.new wr 3 #[.int .i64 z]).cell 0) (by omega) (by simp; omega) ?_
                   intro v7 w7 hown7 hg7)
      refine ⟨⟨k + 1, by omega, by go_num, by rw [Hsn.out]; exact hown7, ?_⟩, by simp [intOf]; omega⟩
      exact (Hbel.out.alloc hbz _).grown hg7 (by simp; omega) (fun g e => (Hown.out.lt g e).1)
    · obtain rfl : k = len := by omega
      have htk : t.take k = t := List.take_of_length_le (by rw [Hlen.out]; exact Nat.le_refl _)
      have hown := Hown.out
      rw [htk] at hown
      have hni := NInts.own hown (Nat.le_refl _) (by omega)
      have Hni := Lib.hid hni; clear hni hown
      go_wp2
      go_ret
      exact ⟨_, rfl, Hni.out, Hbel.out⟩

end Go.Proofs.YtelememdhpncgaaGreatDoor

/-
  Plain mathematics: what Has answers behind Put.
-/
namespace Go.Proofs.YtelememdhpncgaaGreatDoor.Sh

theorem relFor_ok {size : Int} {rs : List Rel} {nm : List UInt8} {k : Int} (h : (relForE ⟨size, rs⟩ nm k).2 = 0) : validB ⟨size, rs⟩ = true ∧ ∃ (j : Nat) (r : Rel), relForE ⟨size, rs⟩ nm k = ((j : Int), 0) ∧ findI nm k rs = j ∧ rs[j]? = some r ∧ r.name.toList = nm ∧ r.arity = k := by
  unfold relForE at h ⊢
  by_cases h1 : validB ⟨size, rs⟩ = false
  · rw [if_pos h1] at h; exact absurd h (by decide)
  · rw [if_neg h1] at h ⊢
    by_cases h2 : findI nm k rs < 0
    · simp only [if_pos h2] at h; exact absurd h (by decide)
    · obtain ⟨j, r, e1, e2, e3, e4⟩ := findI_get h2
      refine ⟨by simpa using h1, j, r, ?_, e1, e2, e3, e4⟩
      simp only [e1]
      rw [if_neg (by omega)]
theorem relFor_mk {size : Int} {rs : List Rel} {nm : List UInt8} {k : Int} {j : Nat} (hv : validB ⟨size, rs⟩ = true) (hf : findI nm k rs = j) : relForE ⟨size, rs⟩ nm k = ((j : Int), 0) := by
  unfold relForE
  rw [if_neg (by rw [hv]; simp)]
  simp only [hf]
  rw [if_neg (by omega)]
theorem hasE_mk {size : Int} {rs : List Rel} {nm : List UInt8} {t : List Int} {j : Nat} {r : Rel} (hv : validB ⟨size, rs⟩ = true) (hf : findI nm t.length rs = j) (hr : rs[j]? = some r) : hasE ⟨size, rs⟩ nm t = (decide (t ∈ r.tuples), 0) := by
  unfold hasE
  rw [relFor_mk hv hf]
  simp only [Int.toNat_natCast, hr]
  rw [if_neg (by simp), (relB_rising (validB_rel hv hr)).found]
/-- A tuple of a relation is found. -/
theorem hasE_in {size : Int} {rs : List Rel} (hv : validB ⟨size, rs⟩ = true) {j : Nat} {r : Rel} (hr : rs[j]? = some r) {x : List Int} (hx : x ∈ r.tuples) : hasE ⟨size, rs⟩ r.name.toList x = (true, 0) := by
  have hl := relB_len (validB_rel hv hr) hx
  have hf := find_name (ar := (x.length : Int)) (valid_names hv) hr rfl
  rw [if_pos hl.symm] at hf
  rw [hasE_mk hv hf hr, decide_eq_true hx]
theorem putR_get {rs : List Rel} {k : Nat} {r : Rel} (hr : rs[k]? = some r) (t : List Int) (is : Bool) : (putR rs k t is)[k]? = some (putRel r t is) := by
  obtain ⟨hk, rfl⟩ := List.getElem?_eq_some_iff.1 hr
  unfold putR
  rw [getD_get _ _ _ hk, List.getElem?_set_self hk]
theorem putR_other {rs : List Rel} {k j : Nat} (h : j ≠ k) (t : List Int) (is : Bool) : (putR rs k t is)[j]? = rs[j]? := by
  unfold putR
  rw [List.getElem?_set_ne (fun e => h e.symm)]
theorem put_long {size : Int} {rs : List Rel} (hv : validB ⟨size, rs⟩ = true) {k : Nat} {r : Rel} (hr : rs[k]? = some r) {t : List Int} (ht : (t.length : Int) = r.arity) : Long t.length r.tuples := fun x hx => by
  have := relB_len (validB_rel hv hr) hx
  omega
/-- Has behind Put. -/
theorem has_put {size : Int} {rs : List Rel} {nm : List UInt8} {t : List Int} {k : Nat} {r : Rel} (hv : validB ⟨size, rs⟩ = true) (hr : rs[k]? = some r) (hn : r.name.toList = nm) (ht : (t.length : Int) = r.arity) (hin : inB size t = true) (is : Bool) :
    hasE ⟨size, putR rs k t is⟩ nm t = (is, 0) := by
  have hv' := put_valid hv hr ht hin is
  have hr' := putR_get hr t is
  have hf := find_name (ar := (t.length : Int)) (valid_names hv') hr' (show (putRel r t is).name.toList = nm from hn)
  rw [if_pos (show (putRel r t is).arity = t.length from ht.symm)] at hf
  rw [hasE_mk hv' hf hr']
  obtain ⟨-, -, hm⟩ := putT_ok (relB_rising (validB_rel hv hr)) (put_long hv hr ht) rfl is
  have : (t ∈ (putRel r t is).tuples) ↔ is = true := by
    show t ∈ putT r.tuples t is ↔ _
    rw [hm]
    constructor
    · rintro (⟨-, h⟩ | ⟨h, -⟩)
      · exact absurd rfl h
      · exact h
    · intro h; exact .inr ⟨h, rfl⟩
  cases is with
  | true => rw [decide_eq_true (this.2 rfl)]
  | false => rw [decide_eq_false (fun h => by have := this.1 h; cases this)]
/-- All but one tuple stay. -/
def ExceptOne (size : Int) (ra rb : List Rel) (nm : List UInt8) (t : List Int) : Prop := ∀ (j : Nat) (r : Rel) (x : List Int), ra[j]? = some r → x ∈ r.tuples → (r.name.toList = nm ∧ x = t) ∨ hasE ⟨size, rb⟩ r.name.toList x = (true, 0)
theorem except_put {size : Int} {rs : List Rel} {nm : List UInt8} {t : List Int} {k : Nat} {r : Rel} (hv : validB ⟨size, rs⟩ = true) (hr : rs[k]? = some r) (hn : r.name.toList = nm) (ht : (t.length : Int) = r.arity) (hin : inB size t = true) (is : Bool) :
    ExceptOne size rs (putR rs k t is) nm t ∧ ExceptOne size (putR rs k t is) rs nm t := by
  have hv' := put_valid hv hr ht hin is
  obtain ⟨-, -, hm⟩ := putT_ok (relB_rising (validB_rel hv hr)) (put_long hv hr ht) rfl is
  constructor
  · intro j r1 x h1 h2
    by_cases e : j = k
    · subst e
      obtain rfl : r1 = r := Option.some.inj (h1.symm.trans hr)
      by_cases ex : x = t
      · exact .inl ⟨hn, ex⟩
      · exact .inr (hasE_in hv' (putR_get hr t is) (show x ∈ putT r1.tuples t is from (hm x).2 (.inl ⟨h2, ex⟩)))
    · exact .inr (hasE_in hv' ((putR_other e t is).trans h1) h2)
  · intro j r1 x h1 h2
    by_cases e : j = k
    · subst e
      obtain rfl : r1 = putRel r t is := Option.some.inj (h1.symm.trans (putR_get hr t is))
      rcases (hm x).1 h2 with h | h
      · exact .inr (hasE_in hv hr h.1)
      · exact .inl ⟨hn, h.2⟩
    · exact .inr (hasE_in hv ((putR_other e t is).symm.trans h1) h2)

end Go.Proofs.YtelememdhpncgaaGreatDoor.Sh

/-
  Plain mathematics: a structure with renamed elements.
-/
namespace Go.Proofs.YtelememdhpncgaaGreatDoor
namespace Sh

/-- The relations with renamed elements, their tuples in rising order. -/
def renRel (p : List Int) (r : Rel) : Rel := ⟨r.name, r.arity, sortR (r.tuples.map (renT p))⟩
def renR (p : List Int) (rs : List Rel) : List Rel := rs.map (renRel p)
/-- The first k are renamed. -/
def midR (p : List Int) (rs : List Rel) (k : Nat) : List Rel := (rs.take k).map (renRel p) ++ rs.drop k
theorem midR_zero (p : List Int) (rs : List Rel) : midR p rs 0 = rs := by simp [midR]
theorem midR_all (p : List Int) (rs : List Rel) {k : Nat} (h : rs.length ≤ k) : midR p rs k = renR p rs := by
  unfold midR renR; rw [List.take_of_length_le h, List.drop_eq_nil_of_le h, List.append_nil]
theorem midR_len (p : List Int) (rs : List Rel) (k : Nat) : (midR p rs k).length = rs.length := by
  unfold midR; simp; omega
theorem midR_at (p : List Int) {rs : List Rel} {k : Nat} {r : Rel} (h : rs[k]? = some r) : (midR p rs k)[k]? = some r := by
  have hk := (List.getElem?_eq_some_iff.1 h).1
  unfold midR
  rw [List.getElem?_append_right (by simp; omega)]
  rw [List.getElem?_drop, ← h]
  congr 1
  simp; omega
theorem midR_set (p : List Int) {rs : List Rel} {k : Nat} {r : Rel} (h : rs[k]? = some r) : (midR p rs k).set k (renRel p r) = midR p rs (k + 1) := by
  obtain ⟨hk, rfl⟩ := List.getElem?_eq_some_iff.1 h
  have hlen : ((rs.take k).map (renRel p)).length = k := by simp; omega
  unfold midR
  rw [List.set_append_right _ _ (by omega), hlen, Nat.sub_self, List.drop_eq_getElem_cons hk, List.set_cons_zero, List.take_succ_eq_append_getElem hk, List.map_append, List.append_assoc]
  rfl

theorem renT_len (p t : List Int) : (renT p t).length = t.length := by unfold renT; simp
theorem ren_long {p : List Int} {a : Nat} {ts : List (List Int)} (h : Long a ts) : Long a (ts.map (renT p)) := fun t ht => by
  obtain ⟨s, hs, rfl⟩ := List.mem_map.1 ht
  rw [renT_len]; exact h s hs
/-- Whatever rises and has the renamed tuples is the renamed relation. -/
theorem ren_eq {p : List Int} {a : Nat} {ts ts' : List (List Int)} (h : Long a ts) (hp : ts'.Perm (ts.map (·.map fun x => p.getD x.toNat 0))) (hr : Rising ts') : ts' = sortR (ts.map (renT p)) := by
  have hs := sortR_ok (ren_long (p := p) h)
  refine rising_ext hr hs.1 fun x => ?_
  rw [hs.2.2 x]
  exact hp.mem_iff
theorem rel_long {size : Int} {r : Rel} (h : relB size r = true) : Long r.arity.toNat r.tuples := fun t ht => by
  have := (((relB_iff size r).1 h).2.2.2 t ht).1
  omega

theorem getD_in {p : List Int} {n : Int} (h : inB n p = true) {k : Nat} (hk : k < p.length) : okB n (p.getD k 0) = true := by
  rw [List.getD_eq_getElem?_getD, List.getElem?_eq_getElem hk]
  exact List.all_eq_true.1 h _ (List.getElem_mem hk)
theorem okB_toNat {n x : Int} (h : okB n x = true) : x.toNat < n.toNat := by have := okB_get h; omega
theorem renT_in {n : Int} {p t : List Int} (hq : permB n p = true) (h : inB n t = true) : inB n (renT p t) = true := by
  refine List.all_eq_true.2 fun x hx => ?_
  obtain ⟨y, hy, rfl⟩ := List.mem_map.1 hx
  have h1 := okB_get (List.all_eq_true.1 h y hy)
  have h2 := permB_get hq
  exact getD_in h2.2.1 (by omega)
theorem ren_mem {size : Int} {p : List Int} {r : Rel} (h : relB size r = true) (x : List Int) : x ∈ (renRel p r).tuples ↔ ∃ t ∈ r.tuples, renT p t = x := by
  show x ∈ sortR _ ↔ _
  rw [(sortR_ok (ren_long (p := p) (rel_long h))).2.2 x, List.mem_map]
theorem ren_relB {size : Int} {p : List Int} {r : Rel} (hq : permB size p = true) (h : relB size r = true) : relB size (renRel p r) = true := by
  have h' := (relB_iff size r).1 h
  have hs := sortR_ok (ren_long (p := p) (rel_long h))
  refine (relB_iff size _).2 ⟨h'.1, h'.2.1, hs.1, fun t ht => ?_⟩
  obtain ⟨s, hs, rfl⟩ := (ren_mem h t).1 ht
  have h1 := h'.2.2.2 s hs
  exact ⟨by rw [renT_len]; exact h1.1, renT_in hq h1.2⟩
theorem ren_names (p : List Int) (rs : List Rel) : (renR p rs).map (·.name.toList) = rs.map (·.name.toList) := by
  unfold renR; rw [List.map_map]; rfl
theorem ren_valid {size : Int} {rs : List Rel} {p : List Int} (hv : validB ⟨size, rs⟩ = true) (hq : permB size p = true) : validB ⟨size, renR p rs⟩ = true := by
  have h := (validB_iff size rs).1 hv
  refine (validB_iff size _).2 ⟨h.1, h.2.1, by unfold renR; simpa using h.2.2.1, fun r hr => ?_, by rw [ren_names]; exact h.2.2.2.2⟩
  obtain ⟨s, hs, rfl⟩ := List.mem_map.1 hr
  exact ren_relB hq (h.2.2.2.1 s hs)

/-- b undoes p. -/
def Undo (p b : List Int) : Prop := ∀ k : Nat, k < p.length → b.getD (p.getD k 0).toNat 0 = k
theorem renT_back {n : Int} {p b t : List Int} (hq : permB n p = true) (hu : Undo p b) (h : inB n t = true) : renT b (renT p t) = t := by
  unfold renT
  rw [List.map_map]
  refine (List.map_congr_left fun x hx => ?_).trans (List.map_id t)
  have h1 := okB_get (List.all_eq_true.1 h x hx)
  have h2 := permB_get hq
  show b.getD (p.getD x.toNat 0).toNat 0 = x
  rw [hu x.toNat (by omega)]
  omega
theorem renRel_back {n : Int} {p b : List Int} {r : Rel} (hq : permB n p = true) (hu : Undo p b) (h : relB n r = true) : renRel b (renRel p r) = r := by
  have h' := (relB_iff n r).1 h
  have e : sortR ((sortR (r.tuples.map (renT p))).map (renT b)) = r.tuples := by
    have hs := sortR_ok (ren_long (p := p) (rel_long h))
    have hs2 := sortR_ok (ren_long (p := b) hs.2.1)
    refine rising_ext hs2.1 h'.2.2.1 fun x => ?_
    rw [hs2.2.2 x, List.mem_map]
    constructor
    · rintro ⟨y, hy, rfl⟩
      rw [hs.2.2 y] at hy
      obtain ⟨z, hz, rfl⟩ := List.mem_map.1 hy
      rw [renT_back hq hu (h'.2.2.2 z hz).2]
      exact hz
    · intro hx
      refine ⟨renT p x, (hs.2.2 _).2 (List.mem_map.2 ⟨x, hx, rfl⟩), renT_back hq hu (h'.2.2.2 x hx).2⟩
  show (⟨r.name, r.arity, sortR ((sortR (r.tuples.map (renT p))).map (renT b))⟩ : Rel) = r
  rw [e]
theorem renR_back {n : Int} {p b : List Int} {rs : List Rel} (hv : validB ⟨n, rs⟩ = true) (hq : permB n p = true) (hu : Undo p b) : renR b (renR p rs) = rs := by
  have h := (validB_iff n rs).1 hv
  unfold renR
  rw [List.map_map]
  refine (List.map_congr_left fun r hr => ?_).trans (List.map_id rs)
  exact renRel_back hq hu (h.2.2.2.1 r hr)
theorem undo_permB {n : Int} {p b : List Int} (hq : permB n p = true) (hb : b.length = p.length) (hu : Undo p b) : permB n b = true := by
  obtain ⟨h1, h2, h3⟩ := permB_get hq
  have hin : ∀ x ∈ p, 0 ≤ x ∧ x.toNat < p.length := fun x hx => by
    have := okB_get (List.all_eq_true.1 h2 x hx)
    omega
  -- p is onto: its places' numbers are a rising row's members
  have honto : ∀ j : Nat, j < p.length → ∃ k : Nat, k < p.length ∧ p.getD k 0 = j := fun j hj => by
    have hnd : (p.map Int.toNat).Nodup := by
      refine List.pairwise_map.2 (List.Pairwise.imp_of_mem (fun {a c} ha hc hac e => hac ?_) h3)
      have := hin a ha
      have := hin c hc
      omega
    have hm : j ∈ p.map Int.toNat := by
      rcases Classical.em (j ∈ p.map Int.toNat) with h | h
      · exact h
      · have hle := List.Nodup.length_le_of_subset (List.nodup_cons.2 ⟨h, hnd⟩) (l₂ := List.range p.length) (fun y hy => by
          rcases List.mem_cons.1 hy with rfl | hy
          · exact List.mem_range.2 hj
          · obtain ⟨x, hx, rfl⟩ := List.mem_map.1 hy
            exact List.mem_range.2 (hin x hx).2)
        simp at hle
        omega
    obtain ⟨x, hx, he⟩ := List.mem_map.1 hm
    obtain ⟨k, hk, hkx⟩ := List.mem_iff_getElem.1 hx
    refine ⟨k, hk, ?_⟩
    rw [List.getD_eq_getElem?_getD, List.getElem?_eq_getElem hk, hkx]
    have := (hin x hx).1
    show x = j
    omega
  have hbk : ∀ j : Nat, j < b.length → ∃ k : Nat, k < p.length ∧ b.getD j 0 = k ∧ p.getD k 0 = j := fun j hj => by
    obtain ⟨k, hk, he⟩ := honto j (by omega)
    have := hu k hk
    rw [he] at this
    exact ⟨k, hk, by simpa using this, he⟩
  unfold permB
  simp only [Bool.and_eq_true, decide_eq_true_eq]
  refine ⟨⟨by omega, List.all_eq_true.2 fun x hx => ?_⟩, ?_⟩
  · obtain ⟨j, hj, rfl⟩ := List.mem_iff_getElem.1 hx
    obtain ⟨k, hk, he, -⟩ := hbk j hj
    rw [List.getD_eq_getElem?_getD, List.getElem?_eq_getElem hj] at he
    have he' : b[j] = (k : Int) := he
    rw [he']
    exact okB_true (by omega) (by omega)
  · refine List.pairwise_iff_getElem.2 fun i j hi hj hij he => ?_
    obtain ⟨k, hk, e1, e2⟩ := hbk i hi
    obtain ⟨m, hm, e3, e4⟩ := hbk j hj
    rw [List.getD_eq_getElem?_getD, List.getElem?_eq_getElem hi] at e1
    rw [List.getD_eq_getElem?_getD, List.getElem?_eq_getElem hj] at e3
    have e1' : b[i] = (k : Int) := e1
    have e3' : b[j] = (m : Int) := e3
    rw [e1', e3'] at he
    have : m = k := by omega
    subst this
    rw [e2] at e4
    omega

theorem renT_inj {n : Int} {p s t : List Int} (hq : permB n p = true) (hs : inB n s = true) (ht : inB n t = true) (h : renT p s = renT p t) : s = t := by
  obtain ⟨h1, h2, h3⟩ := permB_get hq
  have hb : ∀ u : List Int, inB n u = true → ∀ x ∈ u, 0 ≤ x ∧ x.toNat < p.length := fun u hu x hx => by
    have := okB_get (List.all_eq_true.1 hu x hx)
    omega
  exact map_inj (S := fun x => 0 ≤ x ∧ x.toNat < p.length) (fun x y hx hy he => perm_inj h3 hx hy he) s t (hb s hs) (hb t ht) h
/-- Has of the renamed is Has. -/
theorem hasE_ren {size : Int} {rs : List Rel} {p : List Int} (hv : validB ⟨size, rs⟩ = true) (hq : permB size p = true) {j : Nat} {r : Rel} (hr : rs[j]? = some r) {x : List Int} (hx : (x.length : Int) = r.arity) (hin : inB size x = true) :
    hasE ⟨size, rs⟩ r.name.toList x = (decide (x ∈ r.tuples), 0) ∧ hasE ⟨size, renR p rs⟩ r.name.toList (renT p x) = (decide (x ∈ r.tuples), 0) := by
  have hvr := (validB_iff size rs).1 hv
  have hrb := hvr.2.2.2.1 r (List.mem_of_getElem? hr)
  have hr2 : (renR p rs)[j]? = some (renRel p r) := by unfold renR; rw [List.getElem?_map, hr]; rfl
  have hf : findI r.name.toList x.length rs = j := by rw [find_name hvr.2.2.2.2 hr rfl, if_pos hx.symm]
  have hf2 : findI r.name.toList (renT p x).length (renR p rs) = j := by
    have := find_name (ar := ((renT p x).length : Int)) (nm := r.name.toList) (by rw [ren_names]; exact hvr.2.2.2.2) hr2 rfl
    rw [this, if_pos (by rw [renT_len]; exact hx.symm)]
  refine ⟨hasE_mk hv hf hr, ?_⟩
  rw [hasE_mk (ren_valid hv hq) hf2 hr2]
  congr 1
  rw [decide_eq_decide, ren_mem hrb]
  constructor
  · rintro ⟨t, ht, he⟩
    have := renT_inj hq (((relB_iff size r).1 hrb).2.2.2 t ht).2 hin he
    rwa [← this]
  · exact fun h => ⟨x, h, rfl⟩
end Sh
end Go.Proofs.YtelememdhpncgaaGreatDoor

/-
  shape.Permute where it refuses and where it succeeds, in one place.
-/
namespace Go.Proofs.YtelememdhpncgaaGreatDoor
open Go.RowKit

/-- The relations that Permute leaves are the renamed ones. -/
theorem turn_ren {size : Int} {rs : List Sh.Rel} {p : List Int} {tss : List (List (List Int))} (hv : Sh.validB ⟨size, rs⟩ = true) (hl : tss.length = rs.length)
    (h : ∀ (j : Nat) (r : Sh.Rel), rs[j]? = some r → ∃ ts, tss[j]? = some ts ∧ TurnedT (fun x => p.getD x.toNat 0) r.tuples ts) : turnR rs tss = Sh.renR p rs := by
  refine List.ext_getElem? fun j => ?_
  unfold turnR Sh.renR
  rw [List.getElem?_zipWith, List.getElem?_map]
  cases hr : rs[j]? with
  | none => rfl
  | some r =>
    obtain ⟨ts, ht, hp, hri⟩ := h j r hr
    rw [ht]
    have hrb := Sh.validB_rel hv hr
    show some (⟨r.name, r.arity, ts⟩ : Sh.Rel) = some (Sh.renRel p r)
    rw [Sh.ren_eq (Sh.rel_long hrb) hp hri]
    rfl
theorem permute_fine (size : Int) (v : Value) (rs : List Sh.Rel) (u : Value) (p : List Int) (w : World) (B : Nat) (hB : B ≤ w.heap.size) (h : Rels w B v rs) (hp : Ints w B u p) (hv : Sh.validB ⟨size, rs⟩ = true) (hq : Sh.permB size p = true) :
    Calls Tryz.prog 10 #[.agg #[.int .i64 size, v], u] w fun e w' => ∃ (x : Value), e = .returned (.tuple #[.agg #[.int .i64 size, x], .int .i64 0]) ∧ NRels w' w.heap.size x (Sh.renR p rs) ∧ Below w.heap.size w w' :=
  (permute_ok size v rs u p w B hB h hp hv hq (Sh.perm_in hv hq) (Sh.perm_nodup hv hq)).mono fun e w' ⟨x, tss, he, hl, ht, hn, hb⟩ => ⟨x, he, by rw [← turn_ren hv hl ht]; exact hn, hb⟩

end Go.Proofs.YtelememdhpncgaaGreatDoor
