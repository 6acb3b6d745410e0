/-
  Walk: writeRel.
-/
import Derived.Test.YtbddchonhicpiaaDoorWtuple
import Derived.Deep.RegionLaw
namespace Go.Proofs.YtbddchonhicpiaaDoor
open Go.RowKit

theorem headS_bytes (nm : ByteArray) (i : Nat) : (((⟨#[59, 32]⟩ : ByteArray) ++ nm) ++ ⟨#[47]⟩ ++ ⟨(Lib.decDigits i).toArray⟩).data.toList = [59, 32] ++ (nm.toList ++ (47 :: Lib.decDigits i)) := by
  rw [ByteArray.toList_eq]
  simp [ByteArray.data_append]

set_option maxRecDepth 100000 in
set_option maxHeartbeats 4000000 in
theorem wrel_any (B b : Nat) (l : List UInt8) (v : Value) (r : Sh.Rel) (w : World) (hbw : b < w.heap.size) (h : Bld B b l w) (ht : Tups w B v r.tuples) (hr : Tx.RelSmall r) (hl : l.length ≤ 800000000) (hB : B ≤ w.heap.size) :
    Calls Tryd.prog 78 #[.pointer (some ⟨b, 0, none⟩), .agg #[.string r.name, .int .i64 r.arity, v]] w fun e w' => e = .returned (.tuple #[]) ∧ Bld B b (l ++ Tx.relS r) w' ∧ Wrote B b w w' := by
  obtain ⟨nm, ar, ts⟩ := r
  have ht' := ht
  obtain ⟨A, len, c, rfl, hlen, hmax, -⟩ := ht'
  have har := hr.ar
  simp only at har ht hlen
  obtain ⟨i, rfl⟩ : ∃ i : Nat, ar = i := ⟨ar.toNat, by omega⟩
  have hi : i < 100 := by omega
  have hnm := hr.nm
  simp only at hnm
  have hcnt := hr.count
  simp only at hcnt
  have htl : ∀ (k : Nat) (t : List Int), ts[k]? = some t → Tx.N2 t ∧ t.length ≤ 12 := fun k t hk => hr.tups t (List.mem_of_getElem? hk)
  have hpre : ∀ k, (Tx.tupsS (ts.take k)).length ≤ 1850000 := fun k => by
    have := Tx.tups_len (ts.take k) (fun t ht => hr.tups t (List.mem_of_mem_take ht))
    have h2 : (ts.take k).length ≤ 50000 := by rw [List.length_take]; omega
    omega
  have hhd : (Tx.headS ⟨nm, (i : Int), ts⟩).length ≤ 20 := Tx.head_len hr
  have hhe : ((((⟨#[59, 32]⟩ : ByteArray) ++ nm) ++ ⟨#[47]⟩) ++ ⟨(Lib.decDigits i).toArray⟩).data.toList = Tx.headS ⟨nm, (i : Int), ts⟩ := by
    rw [headS_bytes]
    unfold Tx.headS
    simp only
    rw [Tx.itoa_nat']
  have hhz : ((((⟨#[59, 32]⟩ : ByteArray) ++ nm) ++ ⟨#[47]⟩) ++ ⟨(Lib.decDigits i).toArray⟩).size ≤ 1000000000 := by
    have : ((((⟨#[59, 32]⟩ : ByteArray) ++ nm) ++ ⟨#[47]⟩) ++ ⟨(Lib.decDigits i).toArray⟩).size = (Tx.headS ⟨nm, (i : Int), ts⟩).length := by rw [← hhe, Array.length_toList]; rfl
    omega
  have hds : (⟨(Lib.decDigits i).toArray⟩ : ByteArray).size ≤ 2 := by have := itoa_size (x := (i : Int)) (by omega) (by omega); simpa using this
  have hit := fun W => itoa_small i hi W
  generalize (⟨(Lib.decDigits i).toArray⟩ : ByteArray) = ds at *
  have hz1 : ¬ 9223372036854775807 < 2 + nm.size := by omega
  have hz2 : ¬ 9223372036854775807 < 2 + nm.size + 1 := by omega
  have hz3 : ¬ 9223372036854775807 < 2 + nm.size + 1 + ds.size := by omega
  have hrel : Tx.relS ⟨nm, (i : Int), ts⟩ = Tx.headS ⟨nm, (i : Int), ts⟩ ++ Tx.tupsS ts := Tx.relS_head _
  generalize Tx.headS ⟨nm, (i : Int), ts⟩ = hd at *
  have Hlen := Lib.hid hlen; clear hlen
  have Htl := Lib.hid htl; clear htl
  have Hpre := Lib.hid hpre; clear hpre
  have Hhe := Lib.hid hhe; clear hhe
  have Hrel := Lib.hid hrel; clear hrel
  clear hr hcnt
  have hbd1 : Bld B b l (w.alloc (.cells #[.string nm, .int .i64 i, .slice A len c] 51)) := h.alloc _
  have hbel1 : Wrote B b w (w.alloc (.cells #[.string nm, .int .i64 i, .slice A len c] 51)) := (Wrote.refl B b w).alloc hB _
  have hbox : Blk (w.alloc (.cells #[.string nm, .int .i64 i, .slice A len c] 51)) w.heap.size 51 #[.string nm, .int .i64 i, .slice A len c] := Blk.new w _ _
  have hszb : w.heap.size < (w.alloc (.cells #[.string nm, .int .i64 i, .slice A len c] 51)).heap.size := by simp
  go_enter Tryd.func78, Tryd.ntmps78
  go_wp2
  generalize w.alloc (.cells #[.string nm, .int .i64 i, .slice A len c] 51) = w1 at *
  have q0 : w1.cell? ⟨w.heap.size, 0, none⟩ = some (.string nm) := hbox.cell 0
  have q1 : w1.cell? ⟨w.heap.size, 1, none⟩ = some (.int .i64 i) := hbox.cell 1
  have q2 : w1.cell? ⟨w.heap.size, 2, none⟩ = some (.slice A len c) := hbox.cell 2
  have hwr := wstr_any B b l ((((⟨#[59, 32]⟩ : ByteArray) ++ nm) ++ ⟨#[47]⟩) ++ ds) w1.drew hbd1 (by omega) hhz (Nat.le_trans hB hbel1.size)
  rw [Hhe.out] at hwr
  have Hwr := Lib.hid hwr; clear hwr
  go_region_law (first
    | (go_simp
       go_at_call 77
       refine (hit _).mono ?_
       rintro e w2 ⟨rfl, rfl⟩)
    | (go_simp
       go_at_call 76
       refine Hwr.out.mono ?_
       rintro e w3 ⟨rfl, h3, hb3⟩
       have H3 := Lib.hid h3; clear h3
       have hbox3 : Blk w3 w.heap.size 51 #[.string nm, .int .i64 i, .slice A len c] := Blk.wrote (w := w1.drew) hbox hb3 (by omega) (by decide)
       have q32 : w3.cell? ⟨w.heap.size, 2, none⟩ = some (.slice A len c) := hbox3.cell 2
       have Hb3 := Lib.hid (hbel1.drew.trans hb3)
       clear hb3 hbox3))
  all_goals (
    go_wp2
    go_loopw [19] (fun i wr => ∃ k : Nat, k ≤ len ∧ i = .int .i64 k ∧ Bld B b (l ++ hd ++ Tx.tupsS (ts.take k)) wr ∧ Wrote B b w wr) (fun i _ => len - (intOf i).toNat)
    case atStart => exact ⟨0, Nat.zero_le _, rfl, by simpa [Tx.tupsS] using H3.out, Hb3.out⟩
    case round =>
      obtain ⟨k, hkl, rfl, hbd, hbel⟩ := hrel
      have Hbd := Lib.hid hbd; clear hbd
      have Hbel := Lib.hid hbel; clear hbel
      by_cases hlt : k < len
      · obtain ⟨ad, u2, rfl, hb, hcu, hiu⟩ := (ht.below Hbel.out.1).at_ hlt
        have hiu' := hiu
        obtain ⟨UA, UN, UC, rfl, -⟩ := hiu'
        have hts : ts[k]? = some (ts.getD k []) := getD_some (d := []) (by rw [← Hlen.out]; exact hlt)
        have hfit := Htl.out k _ hts
        have htk := take_snoc hts
        have hpk := Hpre.out k
        generalize ts.getD k [] = t at *
        have Htk := Lib.hid htk; clear htk
        have Hts := Lib.hid hts; clear hts
        have hB1 : B ≤ wr.heap.size := Nat.le_trans hB Hbel.out.size
        have hlen1 : (l ++ hd ++ Tx.tupsS (ts.take k)).length ≤ 900000000 - 1 := by rw [List.length_append, List.length_append]; omega
        have hlen2 : (l ++ hd ++ Tx.tupsS (ts.take k) ++ [(32 : UInt8)]).length ≤ 900000000 := by rw [List.length_append, List.length_singleton]; omega
        go_wp2_with (first
          | (go_at_call 95
             refine (wbyte_any B b _ 32 _ Hbd.out (by omega) hB1).mono ?_
             rintro e w4 ⟨rfl, h4, hb4⟩
             have H4 := Lib.hid h4; clear h4
             have Hb4 := Lib.hid hb4; clear hb4)
          | (go_at_call 96
             refine (wtuple_any B b _ _ t _ H4.out (hiu.below Hb4.out.1) hfit.1 hfit.2 hlen2 (Nat.le_trans hB1 Hb4.out.size)).mono ?_
             rintro e w5 ⟨rfl, h5, hb5⟩
             have H5 := Lib.hid h5; clear h5
             have Hb5 := Lib.hid (Hbel.out.trans (Hb4.out.trans hb5)); clear hb5))
        refine ⟨⟨k + 1, by omega, by go_num, ?_, Hb5.out⟩, by simp [intOf]; omega⟩
        have e := H5.out
        rw [Htk.out, Tx.tupsS_snoc]
        simpa [List.append_assoc] using e
      · obtain rfl : k = len := by omega
        have htk : ts.take k = ts := List.take_of_length_le (by rw [Hlen.out]; exact Nat.le_refl _)
        go_wp2
        go_end0
        refine ⟨rfl, ?_, Hbel.out⟩
        have e := Hbd.out
        rw [htk] at e
        rw [Hrel.out, ← List.append_assoc]
        exact e)

end Go.Proofs.YtbddchonhicpiaaDoor
