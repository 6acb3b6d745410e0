/-
  Walk: Text.
-/
import Derived.Test.YtbddchonhicpiaaDoorWrel
import Derived.Test.YtbddchonhicpiaaDoorValid
import Derived.Test.YtbddchonhicpiaaDoorParse
namespace Go.Proofs.YtbddchonhicpiaaDoor
open Go.RowKit

theorem ret_text {a b : ByteArray} {i j : Int} (h : (b, j) = (a, i)) : Ending.returned (.tuple #[.string a, .int .i64 i]) = .returned (.tuple #[.string b, .int .i64 j]) := by
  injection h with h1 h2
  rw [h1, h2]

set_option maxRecDepth 100000 in
set_option maxHeartbeats 4000000 in
theorem text_form (size : Int) (v : Value) (rs : List Sh.Rel) (w : World) (B : Nat) (hB : B ≤ w.heap.size) (h : Rels w B v rs) (hvb : Sh.validB ⟨size, rs⟩ = false) :
    Calls Tryd.prog 48 #[.agg #[.int .i64 size, v]] w fun e w' => e = .returned (.tuple #[.string ⟨#[]⟩, .int .i64 1]) ∧ Below w.heap.size w w' := by
  have h' := h
  obtain ⟨A, len, c, rfl, -⟩ := h'
  have hbel : Below w.heap.size w (w.alloc (.cells #[.int .i64 size, .slice A len c] 24)) := (Below.refl _ _).alloc (Nat.le_refl _) _
  have hval := valid_any size (.slice A len c) rs _ B (Nat.le_trans hB hbel.size) (h.below (hbel.mono hB))
  rw [hvb] at hval
  have Hval := Lib.hid hval; clear hval
  have Hbel := Lib.hid hbel; clear hbel
  clear hvb
  go_enter Tryd.func48, Tryd.ntmps48
  go_wp2_with (go_at_call 16; refine Hval.out.mono ?_; rintro e w1 ⟨rfl, hb1⟩; have Hb1 := Lib.hid (Hbel.out.trans (hb1.mono Hbel.out.size)); clear hb1)
  go_ret2
  exact ⟨rfl, Hb1.out⟩

set_option maxRecDepth 100000 in
set_option maxHeartbeats 4000000 in
theorem text_valid (size : Int) (v : Value) (rs : List Sh.Rel) (w : World) (h : Rels w w.heap.size v rs) (hvb : Sh.validB ⟨size, rs⟩ = true) :
    Calls Tryd.prog 48 #[.agg #[.int .i64 size, v]] w fun e w' => e = .returned (.tuple #[.string (Tx.textE ⟨size, rs⟩).1, .int .i64 (Tx.textE ⟨size, rs⟩).2]) ∧ Below w.heap.size w w' := by
  have h' := h
  obtain ⟨A, len, c, rfl, hlen, hmax, -⟩ := h'
  obtain ⟨hsz, h8, hsm⟩ := Tx.small_of_valid hvb
  have hbel : Below w.heap.size w (w.alloc (.cells #[.int .i64 size, .slice A len c] 24)) := (Below.refl _ _).alloc (Nat.le_refl _) _
  have hbox : Blk (w.alloc (.cells #[.int .i64 size, .slice A len c] 24)) w.heap.size 24 #[.int .i64 size, .slice A len c] := Blk.new w _ _
  have hval := valid_any size (.slice A len c) rs _ w.heap.size hbel.size (h.below hbel)
  rw [hvb] at hval
  have hE : Tx.textE ⟨size, rs⟩ = if 40000 < (Tx.textS ⟨size, rs⟩).length then (⟨#[]⟩, 5) else (⟨(Tx.textS ⟨size, rs⟩).toArray⟩, 0) := by
    unfold Tx.textE
    rw [if_neg (by rw [hvb]; simp)]
  obtain ⟨i, rfl⟩ : ∃ i : Nat, size = i := ⟨size.toNat, by omega⟩
  have hi : i < 100 := by omega
  have htx : Tx.textS ⟨(i : Int), rs⟩ = Lib.decDigits i ++ rs.flatMap Tx.relS := by
    show Lib.itoa (i : Int) ++ _ = _
    rw [Tx.itoa_nat']
  have hdl : (Lib.decDigits i).length ≤ 2 := Tx.dec_len hi
  have hdne : Lib.decDigits i ≠ [] := Tx.dec_ne i
  have hds : (⟨(Lib.decDigits i).toArray⟩ : ByteArray).size ≤ 1000000000 := by
    show (Lib.decDigits i).toArray.size ≤ _
    rw [List.size_toArray]
    omega
  have hit := fun W => itoa_small i hi W
  have hpre : ∀ k, ((rs.take k).flatMap Tx.relS).length ≤ 16000000 := fun k => by
    have := Tx.rels_len (rs.take k) (fun r hr => hsm r (List.mem_of_mem_take hr))
    have h2 : (rs.take k).length ≤ 8 := by rw [List.length_take]; omega
    omega
  have hdd : (⟨(Lib.decDigits i).toArray⟩ : ByteArray).data.toList = Lib.decDigits i := rfl
  generalize (⟨(Lib.decDigits i).toArray⟩ : ByteArray) = ds at *
  generalize Lib.decDigits i = dl at *
  have Hval := Lib.hid hval; clear hval
  have Hbel := Lib.hid hbel; clear hbel
  have Hbox := Lib.hid hbox; clear hbox
  have Hlen := Lib.hid hlen; clear hlen
  have Hsm := Lib.hid hsm; clear hsm
  have HE := Lib.hid hE; clear hE
  have Htx := Lib.hid htx; clear htx
  have Hpre := Lib.hid hpre; clear hpre
  have Hdd := Lib.hid hdd; clear hdd
  have Hne := Lib.hid hdne; clear hdne
  clear hvb hsz
  go_enter Tryd.func48, Tryd.ntmps48
  go_wp2_with (first
    | (go_at_call 16
       refine Hval.out.mono ?_
       rintro e w1 ⟨rfl, hb1⟩
       have hb0 := Hbel.out.trans (hb1.mono Hbel.out.size)
       have hx1 := Hbox.out.below hb1 Hbox.out.lt
       have hlt1 := hx1.lt
       have Hbd2 := Lib.hid (Bld.new (w := w1) (B := w.heap.size) hb0.size)
       have hb2 := hb0.alloc hb0.size (.cells #[.pointer none, .slice none 0 0] 106)
       have hx2 := hx1.alloc (.cells #[.pointer none, .slice none 0 0] 106)
       have hlt2 : w1.heap.size < (w1.alloc (.cells #[.pointer none, .slice none 0 0] 106)).heap.size := by simp
       have q20 : (w1.alloc (.cells #[.pointer none, .slice none 0 0] 106)).cell? ⟨w.heap.size, 0, none⟩ = some (.int .i64 i) := hx2.cell 0
       have Hx2 := Lib.hid hx2
       have Hb2 := Lib.hid hb2
       clear hb1 hx1 hb0 hb2 hx2)
    | (go_at_call 77; refine (hit _).mono ?_; rintro e w2' ⟨rfl, rfl⟩)
    | (go_at_call 76
       refine (wstr_any w.heap.size w1.heap.size [] ds _ Hbd2.out (by simp) hds Hb2.out.size).mono ?_
       rintro e w3 ⟨rfl, h3, hb3⟩
       have Hbd3 := Lib.hid h3
       have hx3 := Blk.wrote Hx2.out hb3 (by omega) (by decide)
       have q31 : w3.cell? ⟨w.heap.size, 1, none⟩ = some (.slice A len c) := hx3.cell 1
       have hlt3 : w1.heap.size < w3.heap.size := Nat.lt_of_lt_of_le hlt2 hb3.size
       have Hb3 := Lib.hid (Hb2.out.trans hb3.1)
       clear h3 hb3 hx3))
  go_loopw [17] (fun x wr => ∃ k : Nat, k ≤ len ∧ x = .int .i64 k ∧ Bld w.heap.size w1.heap.size (dl ++ (rs.take k).flatMap Tx.relS) wr ∧ Below w.heap.size w wr ∧ w1.heap.size < wr.heap.size) (fun x _ => len - (intOf x).toNat)
  case atStart => exact ⟨0, Nat.zero_le _, rfl, by have e := Hbd3.out; rw [Hdd.out] at e; simpa using e, Hb3.out, hlt3⟩
  case round =>
    obtain ⟨k, hkl, rfl, hbd, hbel, hblt⟩ := hrel
    have Hbd := Lib.hid hbd; clear hbd
    have Hbelr := Lib.hid hbel; clear hbel
    by_cases hlt : k < len
    · obtain ⟨ad, u, r, rfl, hb, hr, hc0, hc1, hc2, htu, hrs⟩ := (h.below Hbelr.out).at_ hlt
      have htu' := htu
      obtain ⟨UA, UN, UC, rfl, -⟩ := htu'
      have hrsm := Hsm.out r (List.mem_of_getElem? hr)
      have htk := take_snoc hr
      have hpk := Hpre.out k
      have Htk := Lib.hid htk; clear htk
      have Hr := Lib.hid hr; clear hr
      have hlen1 : (dl ++ (rs.take k).flatMap Tx.relS).length ≤ 800000000 := by rw [List.length_append]; omega
      have Hrsm := Lib.hid hrsm; clear hrsm
      have hw4 : Below w.heap.size w (wr.alloc (.cells #[.string r.name, .int .i64 r.arity, .slice UA UN UC] 51)) := Hbelr.out.alloc Hbelr.out.size _
      have Hw4 := Lib.hid hw4; clear hw4
      have Hbd4 := Lib.hid (Hbd.out.alloc (.cells #[.string r.name, .int .i64 r.arity, .slice UA UN UC] 51))
      have Htu := Lib.hid (htu.below ((Below.refl wr.heap.size wr).alloc (Nat.le_refl _) (.cells #[.string r.name, .int .i64 r.arity, .slice UA UN UC] 51) |>.mono Hbelr.out.size))
      clear htu
      go_wp2_with (go_at_call 78
                   refine (wrel_any w.heap.size w1.heap.size _ (.slice UA UN UC) r _ (by simp; omega) Hbd4.out Htu.out Hrsm.out hlen1 Hw4.out.size).mono ?_
                   rintro e w5 ⟨rfl, h5, hb5⟩
                   have H5 := Lib.hid h5
                   have Hb5 := Lib.hid (Hw4.out.trans hb5.1)
                   have hlt5 : w1.heap.size < w5.heap.size := by have := hb5.size; simp at this; omega
                   clear h5 hb5)
      refine ⟨⟨k + 1, by omega, by go_num, ?_, Hb5.out, hlt5⟩, by simp [intOf]; omega⟩
      have e := H5.out
      rw [Htk.out, List.flatMap_append]
      simpa [List.append_assoc] using e
    · obtain rfl : k = len := by omega
      have htk : rs.take k = rs := List.take_of_length_le (by rw [Hlen.out]; exact Nat.le_refl _)
      have hbd := Hbd.out
      rw [htk, ← Htx.out] at hbd
      have Hbd9 := Lib.hid hbd; clear hbd
      have hne : Tx.textS ⟨(i : Int), rs⟩ ≠ [] := by rw [Htx.out]; simp [Hne.out]
      have Hne9 := Lib.hid hne; clear hne
      have hE := HE.out
      generalize Tx.textS ⟨(i : Int), rs⟩ = tx at *
      by_cases hl : 40000 < tx.length
      · rw [if_pos hl] at hE
        have HE9 := Lib.hid hE; clear hE
        go_wp2_with (first
          | (go_at_call 79; refine (blen_any _ _ _ _ Hbd9.out).mono ?_; rintro e w6 ⟨rfl, rfl⟩))
        go_ret2
        exact ⟨ret_text HE9.out, Hbelr.out⟩
      · rw [if_neg hl] at hE
        have HE9 := Lib.hid hE; clear hE
        go_wp2_with (first
          | (go_at_call 79; refine (blen_any _ _ _ _ Hbd9.out).mono ?_; rintro e w6 ⟨rfl, rfl⟩)
          | (go_at_call 80; refine (bstring_any _ _ _ _ Hbd9.out Hne9.out).mono ?_; rintro e w7 ⟨rfl, hb7⟩; have Hb7 := Lib.hid (Hbelr.out.trans hb7); clear hb7))
        go_ret2
        exact ⟨ret_text HE9.out, Hb7.out⟩

theorem text_any (size : Int) (v : Value) (rs : List Sh.Rel) (w : World) (B : Nat) (hB : B ≤ w.heap.size) (h : Rels w B v rs) :
    Calls Tryd.prog 48 #[.agg #[.int .i64 size, v]] w fun e w' => e = .returned (.tuple #[.string (Tx.textE ⟨size, rs⟩).1, .int .i64 (Tx.textE ⟨size, rs⟩).2]) ∧ Below w.heap.size w w' := by
  cases hvb : Sh.validB ⟨size, rs⟩
  · rw [Tx.textE_form hvb]
    exact text_form size v rs w B hB h hvb
  · exact text_valid size v rs w (h.more hB) hvb

end Go.Proofs.YtbddchonhicpiaaDoor
