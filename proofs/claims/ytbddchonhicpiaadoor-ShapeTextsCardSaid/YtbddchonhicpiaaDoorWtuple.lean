/-
  Walk: writeTuple.
-/
import Derived.Test.YtbddchonhicpiaaDoorBuild
import Derived.Test.YtbddchonhicpiaaDoorCopyrel
namespace Go.Proofs.YtbddchonhicpiaaDoor
open Go.RowKit

theorem itoa_bytes {x : Int} (h : 0 ≤ x) : (⟨(Lib.decDigits x.toNat).toArray⟩ : ByteArray).data.toList = Lib.itoa x := by rw [Tx.itoa_of h]
theorem itoa_size {x : Int} (h0 : 0 ≤ x) (h1 : x < 100) : (⟨(Lib.decDigits x.toNat).toArray⟩ : ByteArray).size ≤ 2 := by
  show (Lib.decDigits x.toNat).toArray.size ≤ 2
  rw [List.size_toArray]
  exact Tx.dec_len (by omega)

set_option maxRecDepth 100000 in
set_option maxHeartbeats 2000000 in
theorem wtuple_any (B b : Nat) (l : List UInt8) (v : Value) (t : List Int) (w : World) (h : Bld B b l w) (ht : Ints w B v t) (hn : Tx.N2 t) (hk : t.length ≤ 12) (hl : l.length ≤ 900000000) (hB : B ≤ w.heap.size) :
    Calls Tryd.prog 96 #[.pointer (some ⟨b, 0, none⟩), v] w fun e w' => e = .returned (.tuple #[]) ∧ Bld B b (l ++ Tx.tupS t) w' ∧ Wrote B b w w' := by
  have ht' := ht
  obtain ⟨A, len, c, rfl, hlen, -⟩ := ht'
  have Hlen := Lib.hid hlen; clear hlen
  have hl12 : len ≤ 12 := by have := Hlen.out; omega
  by_cases h0 : len = 0
  · subst h0
    have hte : t = [] := List.eq_nil_of_length_eq_zero Hlen.out.symm
    have Hte := Lib.hid hte; clear hte
    have hwr := wstr_any B b l ⟨#[40, 41]⟩ w h (by omega) (by decide) hB
    have Hwr := Lib.hid hwr; clear hwr h
    go_enter Tryd.func96, Tryd.ntmps96
    go_wp2_with (go_at_call 76; refine Hwr.out.mono ?_; rintro e w1 ⟨rfl, h1, hb1⟩; have H1 := Lib.hid h1; clear h1; have Hb1 := Lib.hid hb1; clear hb1)
    go_loopw [13] (fun i wr => i = .int .i64 0 ∧ wr = w1) (fun _ _ => 0)
    case atStart => exact ⟨rfl, rfl⟩
    case round =>
      obtain ⟨rfl, rfl⟩ := hrel
      go_wp2
      go_end0
      exact ⟨rfl, by rw [Hte.out]; exact H1.out, Hb1.out⟩
  · have htne : t ≠ [] := fun e => h0 (by rw [Hlen.out, e]; rfl)
    have Hne := Lib.hid htne; clear htne
    have hl0 : ((len : Int) == 0) = false := by simpa using h0
    have Hn := Lib.hid hn; clear hn
    go_enter Tryd.func96, Tryd.ntmps96
    go_wp2
    go_loopw [13] (fun i wr => ∃ k : Nat, k ≤ len ∧ i = .int .i64 k ∧ Bld B b (l ++ Tx.parS (t.take k)) wr ∧ Wrote B b w wr) (fun i _ => len - (intOf i).toNat)
    case atStart => exact ⟨0, Nat.zero_le _, rfl, by simpa [Tx.parS] using h, Wrote.refl _ _ _⟩
    case round =>
      obtain ⟨k, hkl, rfl, hbd, hbel⟩ := hrel
      have Hbd := Lib.hid hbd; clear hbd
      have Hbel := Lib.hid hbel; clear hbel
      by_cases hlt : k < len
      · obtain ⟨ad, rfl, hb, hc⟩ := (ht.below Hbel.out.1).at_ hlt
        have hts : t[k]? = some (t.getD k 0) := getD_some (d := 0) (by rw [← Hlen.out]; exact hlt)
        have hx := Hn.out _ (List.mem_of_getElem? hts)
        have htk := take_snoc hts
        have hpl := Tx.par_len (t := t.take k) (fun y hy => Hn.out y (List.mem_of_mem_take hy))
        generalize t.getD k 0 = x at *
        obtain ⟨i, rfl⟩ : ∃ i : Nat, x = i := ⟨x.toNat, by omega⟩
        have hi : i < 100 := by omega
        have hpl2 : (Tx.parS (t.take k)).length ≤ 36 := by
          have : (t.take k).length ≤ 12 := by rw [List.length_take]; omega
          omega
        have Htk := Lib.hid htk; clear htk
        have hB1 : B ≤ wr.heap.size := Nat.le_trans hB Hbel.out.size
        clear hts hpl hx
        rcases Nat.eq_zero_or_pos k with rfl | hk0
        · have hc0 : wr.cell? ad = some (.int .i64 i) := by simpa [Addr.add] using hc
          have hlen1 : (l ++ Tx.parS (t.take 0)).length ≤ 1000000000 := by rw [List.length_append]; omega
          go_wp2_with (first
            | (go_at_call 77; refine (itoa_small i hi _).mono ?_; rintro e w2 ⟨rfl, rfl⟩)
            | (go_at_call 76
               refine (wstr_any B b _ ⟨(Lib.decDigits i).toArray⟩ _ Hbd.out hlen1 (by have := itoa_size (x := i) (by omega) (by omega); simpa using Nat.le_trans this (by decide)) hB1).mono ?_
               rintro e w3 ⟨rfl, h3, hb3⟩
               have H3 := Lib.hid h3; clear h3
               have Hb3 := Lib.hid (Hbel.out.trans hb3); clear hb3))
          refine ⟨⟨1, by omega, by go_num, ?_, Hb3.out⟩, by simp [intOf]; omega⟩
          have e := H3.out
          rw [List.append_assoc] at e
          rw [Htk.out, List.take_zero, List.nil_append, Tx.parS_one, Tx.itoa_nat']
          simpa [Tx.parS] using e
        · have hne : t.take k ≠ [] := fun e => by have := congrArg List.length e; rw [List.length_take, List.length_nil] at this; have := Hlen.out; omega
          have Hnek := Lib.hid hne; clear hne
          have hlen1 : (l ++ Tx.parS (t.take k)).length ≤ 1000000000 := by rw [List.length_append]; omega
          have hlen2 : (l ++ Tx.parS (t.take k) ++ [(44 : UInt8)]).length ≤ 1000000000 := by rw [List.length_append, List.length_append, List.length_singleton]; omega
          go_wp2_with (first
            | (go_at_call 95
               refine (wbyte_any B b _ 44 _ Hbd.out hlen1 hB1).mono ?_
               rintro e w2 ⟨rfl, h2, hb2⟩
               have H2 := Lib.hid h2; clear h2
               have Hb2 := Lib.hid hb2; clear hb2
               have hB2 : B ≤ w2.heap.size := Nat.le_trans hB1 Hb2.out.size
               have hc2 : w2.cell? (ad.add k) = some (.int .i64 i) := (Hb2.out.1.cell (by rw [block_of_add]; exact hb)).trans hc)
            | (go_at_call 77; refine (itoa_small i hi _).mono ?_; rintro e w2' ⟨rfl, rfl⟩)
            | (go_at_call 76
               refine (wstr_any B b _ ⟨(Lib.decDigits i).toArray⟩ _ H2.out hlen2 (by have := itoa_size (x := i) (by omega) (by omega); simpa using Nat.le_trans this (by decide)) hB2).mono ?_
               rintro e w3 ⟨rfl, h3, hb3⟩
               have H3 := Lib.hid h3; clear h3
               have Hb3 := Lib.hid (Hbel.out.trans (Hb2.out.trans hb3)); clear hb3))
          refine ⟨⟨k + 1, by omega, by go_num, ?_, Hb3.out⟩, by simp [intOf]; omega⟩
          have e := H3.out
          rw [Htk.out, Tx.parS_snoc _ Hnek.out, Tx.itoa_nat']
          simpa [List.append_assoc] using e
      · obtain rfl : k = len := by omega
        have htk : t.take k = t := List.take_of_length_le (by rw [Hlen.out]; exact Nat.le_refl _)
        go_wp2
        go_end0
        refine ⟨rfl, ?_, Hbel.out⟩
        have e := Hbd.out
        rw [htk] at e
        rw [Tx.tupS_par Hne.out]
        exact e

end Go.Proofs.YtbddchonhicpiaaDoor
