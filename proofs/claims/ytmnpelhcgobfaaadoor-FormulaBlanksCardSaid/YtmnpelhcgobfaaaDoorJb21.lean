/-
  Texts joined: Fblalm, Fclose, Fargs.
-/
import Derived.Test.YtmnpelhcgobfaaaDoorJb20
import Derived.Test.YtmnpelhcgobfaaaDoorCards
import Derived.Test.YtmnpelhcgobfaaaDoorTie
import Derived.Test.YtmnpelhcgobfaaaDoorJb18
import Derived.WalkKit
import Derived.ProofKit
import Derived.OpenShut
import Derived.Deep.DeepHandedRow
import Derived.Deep.DeepWitnessRowRef
import Derived.Stop.LaidErr
import Derived.Lay
import Derived.Carry
import Derived.SizedLaws
import Derived.ChangeSlices
import Derived.Lib.SmallJoins
import Derived.Deep.Strs

/-
  Walk: FormulaBlanks, as it goes.
-/
namespace Go.Proofs.YtmnpelhcgobfaaaDoor
open Go.RowKit
open Fo (F)

set_option maxRecDepth 100000 in
set_option maxHeartbeats 2000000 in
theorem fblanks_any (text : ByteArray) (A : Option Addr) (m c : Nat) (w : World) (hs : text.size ≤ 140737488351232) (hm : m ≤ 140737488351232) (hA : 0 < m → ∃ ad, A = some ad ∧ ad.block < w.heap.size ∧ ByA w ad m) (hw : HasW w) :
    Calls Tryd.prog 3 #[.string text, .slice A m c] w fun e w' => e = .returned (.bool true) ∧ Below w.heap.size w w' := by
  by_cases hbig : 8000 < text.size
  · go_enter Tryd.func3, Tryd.ntmps3
    go_wp2_with (go_at_call 7; refine (falive_any _ hw).mono ?_; rintro e w5 ⟨rfl, hb5⟩)
    all_goals (
      go_ret
      exact ⟨rfl, hb5⟩)
  rcases Nat.eq_zero_or_pos m with rfl | hpos
  · go_enter Tryd.func3, Tryd.ntmps3
    go_wp2_with (go_at_call 7; refine (falive_any _ hw).mono ?_; rintro e w5 ⟨rfl, hb5⟩)
    all_goals (
      go_ret
      exact ⟨rfl, hb5⟩)
  obtain ⟨ad, rfl, had, hby⟩ := hA hpos
  have hs8 : text.size ≤ 8000 := by omega
  have htl : (Fo.toksAt text.toList 0).length ≤ text.size := by have := Fo.toks_sum text.toList.length 0 text.toList; rw [show Fo.toksAt text.toList 0 = Fo.toksN text.toList.length 0 text.toList from rfl]; rw [length_bytes] at this ⊢; exact this.2
  have htok := reftokens_any text w (by omega)
  generalize hts : Fo.toksAt text.toList 0 = ts at htok htl
  have Htok := Lib.hid htok; clear htok
  have Hby := Lib.hid hby; clear hby
  have Hw := Lib.hid hw; clear hw
  have Hts := Lib.hid hts; clear hts
  go_enter Tryd.func3, Tryd.ntmps3
  go_wp2_with (go_at_call 8; refine Htok.out.mono ?_; rintro e w1 ⟨hb1, V0, rfl, hrow⟩; obtain ⟨TA, TC, rfl⟩ := own_slice hrow)
  have Hrow := Lib.hid hrow; clear hrow Htok
  have hbB := Hby.out.below hb1 had
  have hadl : ad.block < w1.heap.size := Nat.lt_of_lt_of_le had hb1.size
  have Hby1 := Lib.hid hbB; clear hbB Hby
  have Hw1 := Lib.hid (Hw.out.below hb1 (Nat.le_refl _)); clear Hw
  have Hb1 := Lib.hid hb1; clear hb1
  go_loopw [6, 7] (fun ov i wr => ∃ (k : Nat), k ≤ ts.length + 1 ∧ i = .int .i64 k ∧ BLx w1 ts k ov wr) (fun _ i _ => ts.length + 1 - (intOf i).toNat)
  case atStart => exact ⟨0, Nat.zero_le _, rfl, [], Fo.Wrt.start _, OB.nil _⟩
  case round =>
    obtain ⟨k, hk, rfl, bs, hwrt, hob⟩ := hrel
    have hbl : bs.length ≤ 24002 := by have := Fo.Wrt.len (s := text.toList) (by rw [Hts.out]; exact hwrt); rw [length_bytes] at this; omega
    have Hwrt := Lib.hid hwrt; clear hwrt
    by_cases hlt : k ≤ ts.length
    · obtain ⟨j, hkj, hj⟩ : ∃ j : Nat, (k : Int).tmod (m : Int) = (j : Int) ∧ j < m := ⟨k % m, rfl, Nat.mod_lt _ hpos⟩
      obtain ⟨n, hn, hcell⟩ := Hby1.out.below hob.bel hadl j hj
      have HT0 := hob.bel
      have Hob := Lib.hid hob; clear hob
      rcases Nat.lt_or_ge k ts.length with hk2 | hk2
      · obtain ⟨g, rfl⟩ : ∃ g, TA = some ⟨g, 0, none⟩ := by
          obtain ⟨g, cap, e⟩ := Joins.ownsRow_form Hrow.out (by omega)
          injection e with e1 e2 e3
          exact ⟨g, e1⟩
        obtain ⟨t, ht⟩ : ∃ t, ts[k]? = some t := ⟨ts[k], List.getElem?_eq_getElem hk2⟩
        obtain ⟨-, hct⟩ := tok_at Hrow.out ht
        have hgl : g < w1.heap.size := own_lt2 Hrow.out
        have htx : t.2.length ≤ 1000000 := by
          have h1 := Fo.toks_sum text.toList.length 0 text.toList
          rw [show Fo.toksN text.toList.length 0 text.toList = ts from Hts.out, length_bytes] at h1
          have h2 := sum_mem (List.mem_of_getElem? (l := ts.map (·.2.length)) (i := k) (a := t.2.length) (by rw [List.getElem?_map, ht]; rfl))
          omega
        have hstep : ∀ {mid : Bool} (b : Fo.Bs), (0 < k → mid = true) → Fo.blanksOf n mid = b → ∀ V W, OB w1 V (bs ++ b ++ t.2) W → BLx w1 ts (k + 1) V W := fun b hm hb V W ho => by
          have hwr := Hwrt.out
          rw [← Hts.out] at hwr ht ⊢
          exact BLx.step hwr ht hm hb ho
        obtain ⟨i0, tx⟩ := t
        simp only at hct htx hstep
        have ht0 := fun (W : World) (hW : Below w1.heap.size w1 W) => (hW.cell (p := ⟨g, k * 2 + 1, none⟩) hgl).trans hct
        have Htx := Lib.hid htx; clear htx ht hct
        rcases Nat.lt_or_ge k 1 with hk0 | hk0
        · have hstep := fun b h => hstep (mid := false) b (by omega) h
          have HT := Lib.hid ht0
          have ct0 := HT.out _ HT0
          clear ht0 HT0
          obtain hr | hr | hr | hr : n % 4 = 0 ∨ n % 4 = 1 ∨ n % 4 = 2 ∨ n % 4 = 3 := by omega
          · obtain hq | hq : n / 4 % 2 = 0 ∨ n / 4 % 2 = 1 := by omega
            · have hcl : ∀ V W, OB w1 V (bs ++ tx) W → BLx w1 ts (k + 1) V W := fun V W ho => hstep [] (blanks0 hr) V W (by simpa using ho)
              have Hcl := Lib.hid hcl; clear hcl
              clear hstep
              go_wp2_with (first
                | (at_builtin; refine wpList_outS rfl _ _ rfl _ _ _ rfl Hob.out rfl (by (try simp only [List.length_append, List.length_singleton]); omega) Htx.out ?_; intro V6 w6 hob6; clear Hob; have Hob := Lib.hid hob6; clear hob6))
              all_goals go_roundw
              all_goals first | exact ⟨k + 1, by omega, by go_num, Hcl.out _ _ Hob.out⟩ | (simp [intOf] <;> omega)
            · have hcl : ∀ V W, OB w1 V (bs ++ tx) W → BLx w1 ts (k + 1) V W := fun V W ho => hstep [] (blanks0 hr) V W (by simpa using ho)
              have Hcl := Lib.hid hcl; clear hcl
              clear hstep
              go_wp2_with (first
                | (at_builtin; refine wpList_outS rfl _ _ rfl _ _ _ rfl Hob.out rfl (by (try simp only [List.length_append, List.length_singleton]); omega) Htx.out ?_; intro V6 w6 hob6; clear Hob; have Hob := Lib.hid hob6; clear hob6))
              all_goals go_roundw
              all_goals first | exact ⟨k + 1, by omega, by go_num, Hcl.out _ _ Hob.out⟩ | (simp [intOf] <;> omega)
          · obtain hq | hq : n / 4 % 2 = 0 ∨ n / 4 % 2 = 1 := by omega
            · have hcl : ∀ V W, OB w1 V (bs ++ [32] ++ tx) W → BLx w1 ts (k + 1) V W := fun V W ho => hstep [32] (blanks1 (.inl hr) (by rw [hq]; rfl)) V W (by simpa using ho)
              have Hcl := Lib.hid hcl; clear hcl
              clear hstep
              go_wp2_with (first
                | (at_builtin; refine wpList_outB rfl _ _ rfl _ _ rfl (Hob.out.alloc _) _ _ 32 _ (by first | rfl | decide) rfl (Blk.new _ _ _) (by (try simp only [List.length_append, List.length_singleton]); omega) ?_; intro V5 w5 hob5; have ct5 := HT.out _ hob5.bel; clear Hob; have Hob := Lib.hid hob5; clear hob5)
                | (at_builtin; refine wpList_outS rfl _ _ rfl _ _ _ rfl Hob.out rfl (by (try simp only [List.length_append, List.length_singleton]); omega) Htx.out ?_; intro V6 w6 hob6; clear Hob; have Hob := Lib.hid hob6; clear hob6))
              all_goals go_roundw
              all_goals first | exact ⟨k + 1, by omega, by go_num, Hcl.out _ _ Hob.out⟩ | (simp [intOf] <;> omega)
            · have hcl : ∀ V W, OB w1 V (bs ++ [10] ++ tx) W → BLx w1 ts (k + 1) V W := fun V W ho => hstep [10] (blanks1 (.inl hr) (by rw [hq]; rfl)) V W (by simpa using ho)
              have Hcl := Lib.hid hcl; clear hcl
              clear hstep
              go_wp2_with (first
                | (at_builtin; refine wpList_outB rfl _ _ rfl _ _ rfl (Hob.out.alloc _) _ _ 10 _ (by first | rfl | decide) rfl (Blk.new _ _ _) (by (try simp only [List.length_append, List.length_singleton]); omega) ?_; intro V5 w5 hob5; have ct5 := HT.out _ hob5.bel; clear Hob; have Hob := Lib.hid hob5; clear hob5)
                | (at_builtin; refine wpList_outS rfl _ _ rfl _ _ _ rfl Hob.out rfl (by (try simp only [List.length_append, List.length_singleton]); omega) Htx.out ?_; intro V6 w6 hob6; clear Hob; have Hob := Lib.hid hob6; clear hob6))
              all_goals go_roundw
              all_goals first | exact ⟨k + 1, by omega, by go_num, Hcl.out _ _ Hob.out⟩ | (simp [intOf] <;> omega)
          · obtain hq | hq : n / 4 % 2 = 0 ∨ n / 4 % 2 = 1 := by omega
            · have hcl : ∀ V W, OB w1 V (bs ++ [32] ++ tx) W → BLx w1 ts (k + 1) V W := fun V W ho => hstep [32] (blanks1 (.inr (.inl hr)) (by rw [hq]; rfl)) V W (by simpa using ho)
              have Hcl := Lib.hid hcl; clear hcl
              clear hstep
              go_wp2_with (first
                | (at_builtin; refine wpList_outB rfl _ _ rfl _ _ rfl (Hob.out.alloc _) _ _ 32 _ (by first | rfl | decide) rfl (Blk.new _ _ _) (by (try simp only [List.length_append, List.length_singleton]); omega) ?_; intro V5 w5 hob5; have ct5 := HT.out _ hob5.bel; clear Hob; have Hob := Lib.hid hob5; clear hob5)
                | (at_builtin; refine wpList_outS rfl _ _ rfl _ _ _ rfl Hob.out rfl (by (try simp only [List.length_append, List.length_singleton]); omega) Htx.out ?_; intro V6 w6 hob6; clear Hob; have Hob := Lib.hid hob6; clear hob6))
              all_goals go_roundw
              all_goals first | exact ⟨k + 1, by omega, by go_num, Hcl.out _ _ Hob.out⟩ | (simp [intOf] <;> omega)
            · have hcl : ∀ V W, OB w1 V (bs ++ [10] ++ tx) W → BLx w1 ts (k + 1) V W := fun V W ho => hstep [10] (blanks1 (.inr (.inl hr)) (by rw [hq]; rfl)) V W (by simpa using ho)
              have Hcl := Lib.hid hcl; clear hcl
              clear hstep
              go_wp2_with (first
                | (at_builtin; refine wpList_outB rfl _ _ rfl _ _ rfl (Hob.out.alloc _) _ _ 10 _ (by first | rfl | decide) rfl (Blk.new _ _ _) (by (try simp only [List.length_append, List.length_singleton]); omega) ?_; intro V5 w5 hob5; have ct5 := HT.out _ hob5.bel; clear Hob; have Hob := Lib.hid hob5; clear hob5)
                | (at_builtin; refine wpList_outS rfl _ _ rfl _ _ _ rfl Hob.out rfl (by (try simp only [List.length_append, List.length_singleton]); omega) Htx.out ?_; intro V6 w6 hob6; clear Hob; have Hob := Lib.hid hob6; clear hob6))
              all_goals go_roundw
              all_goals first | exact ⟨k + 1, by omega, by go_num, Hcl.out _ _ Hob.out⟩ | (simp [intOf] <;> omega)
          · obtain hq | hq : n / 4 % 2 = 0 ∨ n / 4 % 2 = 1 := by omega
            · have hcl : ∀ V W, OB w1 V (bs ++ [32] ++ [32] ++ tx) W → BLx w1 ts (k + 1) V W := fun V W ho => hstep [32, 32] (blanks2 hr (by rw [hq]; rfl)) V W (by simpa using ho)
              have Hcl := Lib.hid hcl; clear hcl
              clear hstep
              go_wp2_with (first
                | (at_builtin; refine wpList_outB rfl _ _ rfl _ _ rfl (Hob.out.alloc _) _ _ 32 _ (by first | rfl | decide) rfl (Blk.new _ _ _) (by (try simp only [List.length_append, List.length_singleton]); omega) ?_; intro V5 w5 hob5; have ct5 := HT.out _ hob5.bel; clear Hob; have Hob := Lib.hid hob5; clear hob5)
                | (at_builtin; refine wpList_outS rfl _ _ rfl _ _ _ rfl Hob.out rfl (by (try simp only [List.length_append, List.length_singleton]); omega) Htx.out ?_; intro V6 w6 hob6; clear Hob; have Hob := Lib.hid hob6; clear hob6))
              all_goals go_roundw
              all_goals first | exact ⟨k + 1, by omega, by go_num, Hcl.out _ _ Hob.out⟩ | (simp [intOf] <;> omega)
            · have hcl : ∀ V W, OB w1 V (bs ++ [10] ++ [32] ++ tx) W → BLx w1 ts (k + 1) V W := fun V W ho => hstep [10, 32] (blanks2 hr (by rw [hq]; rfl)) V W (by simpa using ho)
              have Hcl := Lib.hid hcl; clear hcl
              clear hstep
              go_wp2_with (first
                | (at_builtin; refine wpList_outB rfl _ _ rfl _ _ rfl (Hob.out.alloc _) _ _ 10 _ (by first | rfl | decide) rfl (Blk.new _ _ _) (by (try simp only [List.length_append, List.length_singleton]); omega) ?_; intro V5 w5 hob5; have ct5 := HT.out _ hob5.bel; clear Hob; have Hob := Lib.hid hob5; clear hob5)
                | (at_builtin; refine wpList_outB rfl _ _ rfl _ _ rfl (Hob.out.alloc _) _ _ 32 _ (by first | rfl | decide) rfl (Blk.new _ _ _) (by (try simp only [List.length_append, List.length_singleton]); omega) ?_; intro V5 w5 hob5; have ct5 := HT.out _ hob5.bel; clear Hob; have Hob := Lib.hid hob5; clear hob5)
                | (at_builtin; refine wpList_outS rfl _ _ rfl _ _ _ rfl Hob.out rfl (by (try simp only [List.length_append, List.length_singleton]); omega) Htx.out ?_; intro V6 w6 hob6; clear Hob; have Hob := Lib.hid hob6; clear hob6))
              all_goals go_roundw
              all_goals first | exact ⟨k + 1, by omega, by go_num, Hcl.out _ _ Hob.out⟩ | (simp [intOf] <;> omega)
        · have hstep := fun b h => hstep (mid := true) b (fun _ => rfl) h
          have HT := Lib.hid ht0
          have ct0 := HT.out _ HT0
          clear ht0 HT0
          obtain hr | hr | hr | hr : n % 4 = 0 ∨ n % 4 = 1 ∨ n % 4 = 2 ∨ n % 4 = 3 := by omega
          · obtain hq | hq : n / 4 % 2 = 0 ∨ n / 4 % 2 = 1 := by omega
            · have hcl : ∀ V W, OB w1 V (bs ++ [32] ++ tx) W → BLx w1 ts (k + 1) V W := fun V W ho => hstep [32] (blanks1 (.inr (.inr ⟨hr, rfl⟩)) (by rw [hq]; rfl)) V W (by simpa using ho)
              have Hcl := Lib.hid hcl; clear hcl
              clear hstep
              go_wp2_with (first
                | (at_builtin; refine wpList_outB rfl _ _ rfl _ _ rfl (Hob.out.alloc _) _ _ 32 _ (by first | rfl | decide) rfl (Blk.new _ _ _) (by (try simp only [List.length_append, List.length_singleton]); omega) ?_; intro V5 w5 hob5; have ct5 := HT.out _ hob5.bel; clear Hob; have Hob := Lib.hid hob5; clear hob5)
                | (at_builtin; refine wpList_outS rfl _ _ rfl _ _ _ rfl Hob.out rfl (by (try simp only [List.length_append, List.length_singleton]); omega) Htx.out ?_; intro V6 w6 hob6; clear Hob; have Hob := Lib.hid hob6; clear hob6))
              all_goals go_roundw
              all_goals first | exact ⟨k + 1, by omega, by go_num, Hcl.out _ _ Hob.out⟩ | (simp [intOf] <;> omega)
            · have hcl : ∀ V W, OB w1 V (bs ++ [10] ++ tx) W → BLx w1 ts (k + 1) V W := fun V W ho => hstep [10] (blanks1 (.inr (.inr ⟨hr, rfl⟩)) (by rw [hq]; rfl)) V W (by simpa using ho)
              have Hcl := Lib.hid hcl; clear hcl
              clear hstep
              go_wp2_with (first
                | (at_builtin; refine wpList_outB rfl _ _ rfl _ _ rfl (Hob.out.alloc _) _ _ 10 _ (by first | rfl | decide) rfl (Blk.new _ _ _) (by (try simp only [List.length_append, List.length_singleton]); omega) ?_; intro V5 w5 hob5; have ct5 := HT.out _ hob5.bel; clear Hob; have Hob := Lib.hid hob5; clear hob5)
                | (at_builtin; refine wpList_outS rfl _ _ rfl _ _ _ rfl Hob.out rfl (by (try simp only [List.length_append, List.length_singleton]); omega) Htx.out ?_; intro V6 w6 hob6; clear Hob; have Hob := Lib.hid hob6; clear hob6))
              all_goals go_roundw
              all_goals first | exact ⟨k + 1, by omega, by go_num, Hcl.out _ _ Hob.out⟩ | (simp [intOf] <;> omega)
          · obtain hq | hq : n / 4 % 2 = 0 ∨ n / 4 % 2 = 1 := by omega
            · have hcl : ∀ V W, OB w1 V (bs ++ [32] ++ tx) W → BLx w1 ts (k + 1) V W := fun V W ho => hstep [32] (blanks1 (.inl hr) (by rw [hq]; rfl)) V W (by simpa using ho)
              have Hcl := Lib.hid hcl; clear hcl
              clear hstep
              go_wp2_with (first
                | (at_builtin; refine wpList_outB rfl _ _ rfl _ _ rfl (Hob.out.alloc _) _ _ 32 _ (by first | rfl | decide) rfl (Blk.new _ _ _) (by (try simp only [List.length_append, List.length_singleton]); omega) ?_; intro V5 w5 hob5; have ct5 := HT.out _ hob5.bel; clear Hob; have Hob := Lib.hid hob5; clear hob5)
                | (at_builtin; refine wpList_outS rfl _ _ rfl _ _ _ rfl Hob.out rfl (by (try simp only [List.length_append, List.length_singleton]); omega) Htx.out ?_; intro V6 w6 hob6; clear Hob; have Hob := Lib.hid hob6; clear hob6))
              all_goals go_roundw
              all_goals first | exact ⟨k + 1, by omega, by go_num, Hcl.out _ _ Hob.out⟩ | (simp [intOf] <;> omega)
            · have hcl : ∀ V W, OB w1 V (bs ++ [10] ++ tx) W → BLx w1 ts (k + 1) V W := fun V W ho => hstep [10] (blanks1 (.inl hr) (by rw [hq]; rfl)) V W (by simpa using ho)
              have Hcl := Lib.hid hcl; clear hcl
              clear hstep
              go_wp2_with (first
                | (at_builtin; refine wpList_outB rfl _ _ rfl _ _ rfl (Hob.out.alloc _) _ _ 10 _ (by first | rfl | decide) rfl (Blk.new _ _ _) (by (try simp only [List.length_append, List.length_singleton]); omega) ?_; intro V5 w5 hob5; have ct5 := HT.out _ hob5.bel; clear Hob; have Hob := Lib.hid hob5; clear hob5)
                | (at_builtin; refine wpList_outS rfl _ _ rfl _ _ _ rfl Hob.out rfl (by (try simp only [List.length_append, List.length_singleton]); omega) Htx.out ?_; intro V6 w6 hob6; clear Hob; have Hob := Lib.hid hob6; clear hob6))
              all_goals go_roundw
              all_goals first | exact ⟨k + 1, by omega, by go_num, Hcl.out _ _ Hob.out⟩ | (simp [intOf] <;> omega)
          · obtain hq | hq : n / 4 % 2 = 0 ∨ n / 4 % 2 = 1 := by omega
            · have hcl : ∀ V W, OB w1 V (bs ++ [32] ++ tx) W → BLx w1 ts (k + 1) V W := fun V W ho => hstep [32] (blanks1 (.inr (.inl hr)) (by rw [hq]; rfl)) V W (by simpa using ho)
              have Hcl := Lib.hid hcl; clear hcl
              clear hstep
              go_wp2_with (first
                | (at_builtin; refine wpList_outB rfl _ _ rfl _ _ rfl (Hob.out.alloc _) _ _ 32 _ (by first | rfl | decide) rfl (Blk.new _ _ _) (by (try simp only [List.length_append, List.length_singleton]); omega) ?_; intro V5 w5 hob5; have ct5 := HT.out _ hob5.bel; clear Hob; have Hob := Lib.hid hob5; clear hob5)
                | (at_builtin; refine wpList_outS rfl _ _ rfl _ _ _ rfl Hob.out rfl (by (try simp only [List.length_append, List.length_singleton]); omega) Htx.out ?_; intro V6 w6 hob6; clear Hob; have Hob := Lib.hid hob6; clear hob6))
              all_goals go_roundw
              all_goals first | exact ⟨k + 1, by omega, by go_num, Hcl.out _ _ Hob.out⟩ | (simp [intOf] <;> omega)
            · have hcl : ∀ V W, OB w1 V (bs ++ [10] ++ tx) W → BLx w1 ts (k + 1) V W := fun V W ho => hstep [10] (blanks1 (.inr (.inl hr)) (by rw [hq]; rfl)) V W (by simpa using ho)
              have Hcl := Lib.hid hcl; clear hcl
              clear hstep
              go_wp2_with (first
                | (at_builtin; refine wpList_outB rfl _ _ rfl _ _ rfl (Hob.out.alloc _) _ _ 10 _ (by first | rfl | decide) rfl (Blk.new _ _ _) (by (try simp only [List.length_append, List.length_singleton]); omega) ?_; intro V5 w5 hob5; have ct5 := HT.out _ hob5.bel; clear Hob; have Hob := Lib.hid hob5; clear hob5)
                | (at_builtin; refine wpList_outS rfl _ _ rfl _ _ _ rfl Hob.out rfl (by (try simp only [List.length_append, List.length_singleton]); omega) Htx.out ?_; intro V6 w6 hob6; clear Hob; have Hob := Lib.hid hob6; clear hob6))
              all_goals go_roundw
              all_goals first | exact ⟨k + 1, by omega, by go_num, Hcl.out _ _ Hob.out⟩ | (simp [intOf] <;> omega)
          · obtain hq | hq : n / 4 % 2 = 0 ∨ n / 4 % 2 = 1 := by omega
            · have hcl : ∀ V W, OB w1 V (bs ++ [32] ++ [32] ++ tx) W → BLx w1 ts (k + 1) V W := fun V W ho => hstep [32, 32] (blanks2 hr (by rw [hq]; rfl)) V W (by simpa using ho)
              have Hcl := Lib.hid hcl; clear hcl
              clear hstep
              go_wp2_with (first
                | (at_builtin; refine wpList_outB rfl _ _ rfl _ _ rfl (Hob.out.alloc _) _ _ 32 _ (by first | rfl | decide) rfl (Blk.new _ _ _) (by (try simp only [List.length_append, List.length_singleton]); omega) ?_; intro V5 w5 hob5; have ct5 := HT.out _ hob5.bel; clear Hob; have Hob := Lib.hid hob5; clear hob5)
                | (at_builtin; refine wpList_outS rfl _ _ rfl _ _ _ rfl Hob.out rfl (by (try simp only [List.length_append, List.length_singleton]); omega) Htx.out ?_; intro V6 w6 hob6; clear Hob; have Hob := Lib.hid hob6; clear hob6))
              all_goals go_roundw
              all_goals first | exact ⟨k + 1, by omega, by go_num, Hcl.out _ _ Hob.out⟩ | (simp [intOf] <;> omega)
            · have hcl : ∀ V W, OB w1 V (bs ++ [10] ++ [32] ++ tx) W → BLx w1 ts (k + 1) V W := fun V W ho => hstep [10, 32] (blanks2 hr (by rw [hq]; rfl)) V W (by simpa using ho)
              have Hcl := Lib.hid hcl; clear hcl
              clear hstep
              go_wp2_with (first
                | (at_builtin; refine wpList_outB rfl _ _ rfl _ _ rfl (Hob.out.alloc _) _ _ 10 _ (by first | rfl | decide) rfl (Blk.new _ _ _) (by (try simp only [List.length_append, List.length_singleton]); omega) ?_; intro V5 w5 hob5; have ct5 := HT.out _ hob5.bel; clear Hob; have Hob := Lib.hid hob5; clear hob5)
                | (at_builtin; refine wpList_outB rfl _ _ rfl _ _ rfl (Hob.out.alloc _) _ _ 32 _ (by first | rfl | decide) rfl (Blk.new _ _ _) (by (try simp only [List.length_append, List.length_singleton]); omega) ?_; intro V5 w5 hob5; have ct5 := HT.out _ hob5.bel; clear Hob; have Hob := Lib.hid hob5; clear hob5)
                | (at_builtin; refine wpList_outS rfl _ _ rfl _ _ _ rfl Hob.out rfl (by (try simp only [List.length_append, List.length_singleton]); omega) Htx.out ?_; intro V6 w6 hob6; clear Hob; have Hob := Lib.hid hob6; clear hob6))
              all_goals go_roundw
              all_goals first | exact ⟨k + 1, by omega, by go_num, Hcl.out _ _ Hob.out⟩ | (simp [intOf] <;> omega)
      · obtain rfl : k = ts.length := by omega
        clear HT0
        obtain hr | hr | hr | hr : n % 4 = 0 ∨ n % 4 = 1 ∨ n % 4 = 2 ∨ n % 4 = 3 := by omega
        · obtain hq | hq : n / 4 % 2 = 0 ∨ n / 4 % 2 = 1 := by omega
          · have hcl : ∀ V W, OB w1 V (bs) W → BLx w1 ts (ts.length + 1) V W := fun V W ho => BLx.last (b := []) (mid := false) Hwrt.out (blanks0 hr) (by simpa using ho)
            have Hcl := Lib.hid hcl; clear hcl
            go_wp2
            all_goals go_roundw
            all_goals first | exact ⟨ts.length + 1, by omega, by go_num, Hcl.out _ _ Hob.out⟩ | (simp [intOf] <;> omega)
          · have hcl : ∀ V W, OB w1 V (bs) W → BLx w1 ts (ts.length + 1) V W := fun V W ho => BLx.last (b := []) (mid := false) Hwrt.out (blanks0 hr) (by simpa using ho)
            have Hcl := Lib.hid hcl; clear hcl
            go_wp2
            all_goals go_roundw
            all_goals first | exact ⟨ts.length + 1, by omega, by go_num, Hcl.out _ _ Hob.out⟩ | (simp [intOf] <;> omega)
        · obtain hq | hq : n / 4 % 2 = 0 ∨ n / 4 % 2 = 1 := by omega
          · have hcl : ∀ V W, OB w1 V (bs ++ [32]) W → BLx w1 ts (ts.length + 1) V W := fun V W ho => BLx.last (b := [32]) (mid := false) Hwrt.out (blanks1 (.inl hr) (by rw [hq]; rfl)) (by simpa using ho)
            have Hcl := Lib.hid hcl; clear hcl
            go_wp2_with (first
              | (at_builtin; refine wpList_outB rfl _ _ rfl _ _ rfl (Hob.out.alloc _) _ _ 32 _ (by first | rfl | decide) rfl (Blk.new _ _ _) (by (try simp only [List.length_append, List.length_singleton]); omega) ?_; intro V5 w5 hob5; clear Hob; have Hob := Lib.hid hob5; clear hob5))
            all_goals go_roundw
            all_goals first | exact ⟨ts.length + 1, by omega, by go_num, Hcl.out _ _ Hob.out⟩ | (simp [intOf] <;> omega)
          · have hcl : ∀ V W, OB w1 V (bs ++ [10]) W → BLx w1 ts (ts.length + 1) V W := fun V W ho => BLx.last (b := [10]) (mid := false) Hwrt.out (blanks1 (.inl hr) (by rw [hq]; rfl)) (by simpa using ho)
            have Hcl := Lib.hid hcl; clear hcl
            go_wp2_with (first
              | (at_builtin; refine wpList_outB rfl _ _ rfl _ _ rfl (Hob.out.alloc _) _ _ 10 _ (by first | rfl | decide) rfl (Blk.new _ _ _) (by (try simp only [List.length_append, List.length_singleton]); omega) ?_; intro V5 w5 hob5; clear Hob; have Hob := Lib.hid hob5; clear hob5))
            all_goals go_roundw
            all_goals first | exact ⟨ts.length + 1, by omega, by go_num, Hcl.out _ _ Hob.out⟩ | (simp [intOf] <;> omega)
        · obtain hq | hq : n / 4 % 2 = 0 ∨ n / 4 % 2 = 1 := by omega
          · have hcl : ∀ V W, OB w1 V (bs ++ [32]) W → BLx w1 ts (ts.length + 1) V W := fun V W ho => BLx.last (b := [32]) (mid := false) Hwrt.out (blanks1 (.inr (.inl hr)) (by rw [hq]; rfl)) (by simpa using ho)
            have Hcl := Lib.hid hcl; clear hcl
            go_wp2_with (first
              | (at_builtin; refine wpList_outB rfl _ _ rfl _ _ rfl (Hob.out.alloc _) _ _ 32 _ (by first | rfl | decide) rfl (Blk.new _ _ _) (by (try simp only [List.length_append, List.length_singleton]); omega) ?_; intro V5 w5 hob5; clear Hob; have Hob := Lib.hid hob5; clear hob5))
            all_goals go_roundw
            all_goals first | exact ⟨ts.length + 1, by omega, by go_num, Hcl.out _ _ Hob.out⟩ | (simp [intOf] <;> omega)
          · have hcl : ∀ V W, OB w1 V (bs ++ [10]) W → BLx w1 ts (ts.length + 1) V W := fun V W ho => BLx.last (b := [10]) (mid := false) Hwrt.out (blanks1 (.inr (.inl hr)) (by rw [hq]; rfl)) (by simpa using ho)
            have Hcl := Lib.hid hcl; clear hcl
            go_wp2_with (first
              | (at_builtin; refine wpList_outB rfl _ _ rfl _ _ rfl (Hob.out.alloc _) _ _ 10 _ (by first | rfl | decide) rfl (Blk.new _ _ _) (by (try simp only [List.length_append, List.length_singleton]); omega) ?_; intro V5 w5 hob5; clear Hob; have Hob := Lib.hid hob5; clear hob5))
            all_goals go_roundw
            all_goals first | exact ⟨ts.length + 1, by omega, by go_num, Hcl.out _ _ Hob.out⟩ | (simp [intOf] <;> omega)
        · obtain hq | hq : n / 4 % 2 = 0 ∨ n / 4 % 2 = 1 := by omega
          · have hcl : ∀ V W, OB w1 V (bs ++ [32] ++ [32]) W → BLx w1 ts (ts.length + 1) V W := fun V W ho => BLx.last (b := [32, 32]) (mid := false) Hwrt.out (blanks2 hr (by rw [hq]; rfl)) (by simpa using ho)
            have Hcl := Lib.hid hcl; clear hcl
            go_wp2_with (first
              | (at_builtin; refine wpList_outB rfl _ _ rfl _ _ rfl (Hob.out.alloc _) _ _ 32 _ (by first | rfl | decide) rfl (Blk.new _ _ _) (by (try simp only [List.length_append, List.length_singleton]); omega) ?_; intro V5 w5 hob5; clear Hob; have Hob := Lib.hid hob5; clear hob5))
            all_goals go_roundw
            all_goals first | exact ⟨ts.length + 1, by omega, by go_num, Hcl.out _ _ Hob.out⟩ | (simp [intOf] <;> omega)
          · have hcl : ∀ V W, OB w1 V (bs ++ [10] ++ [32]) W → BLx w1 ts (ts.length + 1) V W := fun V W ho => BLx.last (b := [10, 32]) (mid := false) Hwrt.out (blanks2 hr (by rw [hq]; rfl)) (by simpa using ho)
            have Hcl := Lib.hid hcl; clear hcl
            go_wp2_with (first
              | (at_builtin; refine wpList_outB rfl _ _ rfl _ _ rfl (Hob.out.alloc _) _ _ 10 _ (by first | rfl | decide) rfl (Blk.new _ _ _) (by (try simp only [List.length_append, List.length_singleton]); omega) ?_; intro V5 w5 hob5; clear Hob; have Hob := Lib.hid hob5; clear hob5)
              | (at_builtin; refine wpList_outB rfl _ _ rfl _ _ rfl (Hob.out.alloc _) _ _ 32 _ (by first | rfl | decide) rfl (Blk.new _ _ _) (by (try simp only [List.length_append, List.length_singleton]); omega) ?_; intro V5 w5 hob5; clear Hob; have Hob := Lib.hid hob5; clear hob5))
            all_goals go_roundw
            all_goals first | exact ⟨ts.length + 1, by omega, by go_num, Hcl.out _ _ Hob.out⟩ | (simp [intOf] <;> omega)
    · obtain rfl : k = ts.length + 1 := by omega
      have htoks := Hwrt.out
      rw [← Hts.out] at htoks
      have htoks := htoks.toks (by omega)
      have hal := outP_alike htoks
      have hsz2 : (⟨bs.toArray⟩ : ByteArray).size ≤ 40000 := by show bs.toArray.size ≤ 40000; rw [List.size_toArray]; omega
      have hbsl : (⟨bs.toArray⟩ : ByteArray).toList = bs := by rw [ByteArray.toList_eq]
      have hbk := fun (W : World) (hW : Below wr.heap.size wr W) => (hob.on hW).back
      rw [← hbsl] at hal
      generalize (⟨bs.toArray⟩ : ByteArray) = ot at hal hbk hsz2
      have Hal := Lib.hid hal; clear hal htoks
      have Hbk := Lib.hid hbk; clear hbk
      have Hw2 := Lib.hid (Hw1.out.below hob.bel (Nat.le_refl _))
      have Hbw := Lib.hid (Hb1.out.trans (hob.bel.mono Hb1.out.size))
      clear hob
      have Hp1 := Lib.hid (parse_pp text wr (by omega) Hw2.out)
      have Hp2 := Lib.hid (fun (W : World) (hW : HasW W) => parse_pp ot W hsz2 hW)
      clear hbsl hsz2 hbl hlt
      go_wp2_with (first
        | (go_at_call 9
           with_reducible refine Hp1.out.mono ?_
           rintro e w2 ⟨hb2, f1, i1, r1, k1, a1, x1, A3, n3, c3, A4, n4, c4, A1, m1, c1, heq1, rfl, hf2⟩
           have Hp := Lib.hid (BP.start hb2 Hw2.out Hbw.out hf2); clear hb2 hf2 Hw2 Hbw Hp1
           have Heq1 := Lib.hid heq1; clear heq1
           have hbk := Hbk.out _ Hp.out.bw; clear Hbk
           obtain ⟨e0, e1, e2, e3, e4, e5⟩ := Hp.out.six)
        | (go_at_call 9
           clear hbk e0 e1 e2 e3 e4 e5
           generalize w2.heap.size = g2 at *
           generalize (w2.alloc (.cells #[.int .i64 k1, .int .i64 a1, .string x1, .slice A3 n3 c3, .slice A4 n4 c4, .slice A1 m1 c1] 31)) = W2 at *
           with_reducible refine (Hp2.out _ Hp.out.wds).mono ?_
           rintro e w3 ⟨hb3, f2, i2, r2, k2, a2, x2, B3, s3, d3, B4, s4, d4, B1, s1, d1, heq2, rfl, hf3⟩
           obtain ⟨rfl, rfl⟩ := outs_same Hal.out Heq1.out heq2
           have Hq := Lib.hid (BQ.start (Hp.out.step hb3) hf3); clear hb3 hf3 Hp heq2
           obtain ⟨e0, e1, e2, e3, e4, e5⟩ := Hq.out.bp.six
           obtain ⟨y0, y1, y2, y3, y4, y5⟩ := Hq.out.siy)
        | (go_at_call 10
           clear e0 e1 e2 e3 e4 e5 y0 y1 y2 y3 y4 y5
           with_reducible refine Hq.out.same.mono ?_
           rintro e w4 ⟨rfl, hb4⟩
           have Hz := Lib.hid (Hq.out.bp.step hb4); clear hb4 Hq)
        | (go_at_call 7
           with_reducible refine (falive_any _ Hz.out.wds).mono ?_
           rintro e w5 ⟨rfl, hb5⟩
           have Hz5 := Lib.hid (Hz.out.step hb5); clear hb5 Hz))
      all_goals (
        go_ret
        exact ⟨rfl, Hz5.out.bel⟩)

end Go.Proofs.YtmnpelhcgobfaaaDoor

/-
  What closes a law of chapter 2: the listed variables' facts, the arguments as numbers and lists, the post-condition 'true, and every argument reads as it did', the witness's world.
-/
namespace Go.Proofs.YtmnpelhcgobfaaaDoor
open Go.ChangeShapes Go.WideShapes Go.ChangeAt Go.RowKit

theorem own : ownKnob Tryd.prog.godebug = none := by kernel_rfl
theorem laidOut : laidOutB Tryd.prog = true := by kernel_rfl
theorem star : "*" ++ "errors.errorString" = "*errors.errorString" := by decide
theorem rowErr (u : TypeId) (h : Tryd.prog.typeName? 3 u = some "*errors.errorString") : u = 148 :=
  typeName_ptr_named (nm := "errors.errorString") (by rw [star]; kernel_rfl) (by kernel_rfl) (by decide) u (by rw [star]; exact h)

def laidList : List (String × DataW Unit) := [("math/bits.deBruijn32tab", Rows.laid_math_bits_deBruijn32tab), ("math/bits.deBruijn64tab", Rows.laid_math_bits_deBruijn64tab), ("internal/strconv.uint64pow10", Rows.laid_internal_strconv_uint64pow10), ("strconv.ErrRange", Rows.laid_strconv_ErrRange), ("strconv.ErrSyntax", Rows.laid_strconv_ErrSyntax), ("paraphrast/formula.words", Rows.laid_paraphrast_formula_words)]

theorem words_len : wordsB.length = 12 := rfl
theorem words_lit : (Rows.laid_paraphrast_formula_words : DataW Unit) = .agg (wordsB.map fun s => .lit (.string s.data.toList)) := by kernel_rfl

set_option maxRecDepth 100000 in
theorem words_of_laid {W : World} (h : laidMet Tryd.prog laidList W) : HasW W := by
  obtain ⟨ps, ⟨g, t, cs, fuel, p, q, hg, ht, hv, htr, -⟩, -⟩ := h.tail.tail.tail.tail.tail
  have hg' : Tryd.prog.globalNamed "paraphrast/formula.words" = some 0 := by kernel_rfl
  obtain rfl := Option.some.inj (hg'.symm.trans hg)
  have ht' : (Tryd.prog.globals[0]?).map (·.type) = some 94 := by kernel_rfl
  obtain rfl := Option.some.inj (ht'.symm.trans ht)
  unfold World.var? at hv
  rw [hg', Option.bind_some] at hv
  have hb : ∃ t2 f2, W.heap[0]? = some (.cells cs t2 f2) := by
    split at hv
    · rename_i c2 t2 f2 he
      have e := Option.some.inj hv
      subst e
      exact ⟨t2, f2, he⟩
    · cases hv
  obtain ⟨t2, f2, he⟩ := hb
  have hlt : 0 < W.heap.size := by
    rcases Nat.lt_or_ge 0 W.heap.size with hz | hz
    · exact hz
    · rw [Array.getElem?_eq_none hz] at he; cases he
  refine ⟨fun j s hj => ?_, hlt⟩
  obtain ⟨xs, m, -, hx, hcl, hxl, hel⟩ := DataW.trod_array Tryd.underlying94 htr
  simp only [Prod.mk.injEq] at hx
  rw [words_lit] at hx
  have hx1 := hx.1
  injection hx1 with hx1
  have hj12 : j < 12 := by
    rcases Nat.lt_or_ge j 12 with h | h
    · exact h
    · rw [List.getElem?_eq_none (by rw [words_len]; exact h)] at hj; cases hj
  have h1 := hel j hj12
  rw [show Tryd.prog.cellsOf 9 = 1 by kernel_rfl, Nat.mul_one, List.getElem?_eq_getElem (by omega)] at h1
  obtain ⟨s', e0, e1, -⟩ := DataW.trod_string Tryd.underlying9 h1
  have e2 : (xs.map (·.1))[j]? = some (.lit (.string s'.data.toList)) := by
    rw [List.getElem?_map, List.getElem?_eq_getElem (by omega), Option.map_some, e1]
  rw [← hx1, List.getElem?_map, hj, Option.map_some] at e2
  have e3 : s.data.toList = s'.data.toList := by simpa using e2
  have e4 : s = s' := WideShapes.bytes_inj e3
  subst e4
  have hcs : cs[j]? = some (.string s) := by
    have h2 : (cs.toList.drop j).head? = some (.string s) := by
      have h3 : ((cs.toList.drop j).take 1).head? = some (.string s) := by rw [e0]; rfl
      rw [List.head?_take] at h3
      simpa using h3
    rw [List.head?_drop] at h2
    simpa using h2
  unfold World.cell?
  rw [he]
  simpa using hcs

theorem cellLt {w : World} {a : Addr} {v : Value} (h : w.cell? a = some v) : a.block < w.heap.size := by
  rcases Nat.lt_or_ge a.block w.heap.size with h' | h'
  · exact h'
  · unfold World.cell? at h
    rw [Array.getElem?_eq_none h'] at h
    cases h

section
variable {H : Type} {enc : TypeId × Value → H} {W W' : World}

/-- Every argument reads as it did, where below the heap's old size nothing has turned. -/
theorem args_keep (hb : Below W.heap.size W W') (sp : Nat → Bool) : ∀ (ts : List TypeId) (vs : List Value) (ds : List (DataW H)) (p : List MemPlace), DataW.TrodAll enc Tryd.prog W 0 (fun _ => true) true ts vs ds p →
    (∀ t ∈ ts, Tryd.prog.readableRec t = true ∧ t < Tryd.prog.types.size) → (∀ x ∈ p, x.block < W.heap.size) → (∀ x ∈ p, sp x.block = true) → DataW.TrodAll enc Tryd.prog W' 0 sp true ts vs ds p
  | [], vs, ds, p, h, _, _, _ => by
    obtain ⟨rfl, rfl, rfl⟩ := trodAll_nil h
    exact trodAll_mk0
  | t :: ts, vs, ds, p, h, hr, hl, hs => by
    obtain ⟨v0, vs0, d0, ds0, p0, q0, rfl, rfl, rfl, h0, r0⟩ := trodAll_cons h
    have ht := hr t (List.mem_cons_self ..)
    exact trodAll_cons_mk (WideElems.Trod_stays laidOut ht.1 ht.2 h0 (fun x hx => hb.same (hl x (List.mem_append_left _ hx))) (fun x hx => hs x (List.mem_append_left _ hx)))
      (args_keep hb sp ts vs0 ds0 q0 r0 (fun u hu => hr u (List.mem_cons_of_mem _ hu)) (fun x hx => hl x (List.mem_append_right _ hx)) (fun x hx => hs x (List.mem_append_right _ hx)))

theorem trodVars_nil_mk {sp : Nat → Bool} : DataW.TrodVars enc Tryd.prog W' sp [] [] [] := rfl

set_option maxRecDepth 100000 in
/-- The post-condition of every row here. -/
theorem post_true {f : Func} {s : ChangeSpec} {apart fresh handsOn again : Bool} {args : Array Value} {ds gs : List (DataW H)} {before : List MemPlace}
    (hf : f.resultTypes = #[4]) (hv : s.vars = []) (hs : s.fn H (ds ++ gs) = { results := [.lit (.bool true)], args := ds })
    (hr : ∀ t ∈ f.params.toList, Tryd.prog.readableRec t = true ∧ t < Tryd.prog.types.size)
    (hW : DataW.Whole enc Tryd.prog f.params.toList s.vars apart W args.toList ds gs before) (hb : Below W.heap.size W W') :
    s.post enc Tryd.prog f apart fresh handsOn again W args (.bool true) W' := by
  have hlt : ∀ x ∈ before, x.block < W.heap.size := fun x hx => hW.lt x hx
  have hW' := hW
  obtain ⟨p, q, hA, hV, hpq, hz, hn⟩ := hW
  rw [hv] at hV
  obtain ⟨rfl, rfl⟩ := trodVars_none hV
  rw [List.append_nil] at hpq
  subst hpq
  have hret : ∀ (b : Nat) (sp : Nat → Bool) (hd : Bool), DataW.TrodAll enc Tryd.prog W' b sp hd f.resultTypes.toList ((Value.bool true).resultList f.resultTypes.size) (s.fn H (ds ++ [])).results [] := fun b sp hd => by
    rw [hf, hs]; exact trodAll_cons_mk (shut_bool Tryd.underlying4 _) trodAll_mk0
  have hin : ∀ sp : Nat → Bool, (∀ x ∈ before, sp x.block = true) → DataW.TrodAll enc Tryd.prog W' 0 sp true f.params.toList args.toList (s.fn H (ds ++ [])).args before := fun sp hsp => by
    rw [hs]; exact args_keep hb sp _ _ _ _ hA hr hlt hsp
  have hvr : ∀ sp : Nat → Bool, DataW.TrodVars enc Tryd.prog W' sp s.vars (s.fn H (ds ++ [])).vars [] := fun sp => by
    rw [hs, hv]; exact trodVars_nil_mk
  have hok : ∀ (j : Nat) (t : TypeId) (r : Value), f.resultTypes[j]? = some t → ((Value.bool true).resultList f.resultTypes.size)[j]? = some r → Value.okWide Tryd.prog W' .any 0 t r :=
by
    intro j t r hj hr'
    rw [hf] at hj hr'
    match j, hj, hr' with
    | 0, hj, hr' =>
      simp [Value.resultList] at hj hr'
      subst hj; subst hr'
      exact okWide_bool_mk Tryd.underlying4 _
    | j + 1, hj, _ => simp at hj
  refine ⟨ds, [], before, [], before, [], hW', hret _ _ _, hin _ (fun x hx => by simpa using hlt x hx), hvr _, World.keptBut_mono (fun x hx => ⟨hx, Or.inr (by simpa using hx)⟩) (hb.frame (· ∈ before)), fun _ => ?_⟩
  refine ⟨hok, _, _, ([] ++ before) ++ [], ⟨[] ++ before, [], trodAll_append (hin _ (fun _ _ => rfl)) (hret _ _ _), hvr _, rfl, ?_, ?_⟩, ?_⟩
  · intro b off hp
    have hp' : MemPlace.cell b off ∈ before := by simpa using hp
    rw [hb.frozen (hlt _ hp')]
    exact hz b off hp'
  · intro ha
    simpa using hn ha
  · intro x hx _
    simpa using hx

end

end Go.Proofs.YtmnpelhcgobfaaaDoor

/-
  An argument as a formula.
-/
namespace Go.Proofs.YtmnpelhcgobfaaaDoor
open Go.ChangeShapes Go.WideShapes Go.ChangeAt Go.RowKit Go.Deep
open Fo (F)

section
variable {H : Type} {enc : TypeId × Value → H} {W : World}

/-- No list is longer than the machine's reach. -/
def Fits (t : TypeId) (d : DataW H) : Prop := ∀ n ∈ d.weights Tryd.prog t, n ≤ 140737488351232

theorem weights_all {t : TypeId} {n : Nat} : ∀ {l : List (DataW H)} {i : Nat} {d : DataW H}, l[i]? = some d → n ∈ d.weights Tryd.prog t → n ∈ DataW.weightsAll Tryd.prog t l
  | [], i, d, h, _ => by simp at h
  | x :: l, 0, d, h, hn => by
    simp at h; subst h
    unfold DataW.weightsAll
    exact List.mem_append_left _ hn
  | x :: l, i + 1, d, h, hn => by
    unfold DataW.weightsAll
    exact List.mem_append_right _ (weights_all (by simpa using h) hn)
theorem Fits.elem {t e : TypeId} {es sp : List (DataW H)} (hu : Tryd.prog.underlying t = some (.slice e)) (h : Fits t (.slice es sp)) {i : Nat} {d : DataW H} (hd : es[i]? = some d) : Fits e d := fun n hn =>
  h n (by
    simp only [DataW.weights, hu]
    exact List.mem_cons_of_mem _ (List.mem_append_left _ (weights_all hd hn)))
theorem Fits.len {t e : TypeId} {es sp : List (DataW H)} (hu : Tryd.prog.underlying t = some (.slice e)) (h : Fits t (.slice es sp)) : (es.length + sp.length) * Tryd.prog.bytesOf e ≤ 140737488351232 :=
  h _ (by simp only [DataW.weights, hu]; exact List.mem_cons_self ..)
theorem Fits.str {t : TypeId} {l : List UInt8} (h : Fits (H := H) t (.lit (.string l))) : l.length ≤ 140737488351232 := h _ (by simp only [DataW.weights]; exact List.mem_cons_self ..)

theorem exists_list {α : Type} {Q : Nat → α → Prop} : ∀ (n : Nat), (∀ i, i < n → ∃ a, Q i a) → ∃ l : List α, l.length = n ∧ ∀ i a, l[i]? = some a → Q i a
  | 0, _ => ⟨[], rfl, fun i a h => by simp at h⟩
  | n + 1, h => by
    obtain ⟨l, hl, hq⟩ := exists_list n (fun i hi => h i (by omega))
    obtain ⟨a, ha⟩ := h n (by omega)
    refine ⟨l ++ [a], by simp [hl], fun i x hx => ?_⟩
    by_cases hi : i < l.length
    · rw [List.getElem?_append_left hi] at hx
      exact hq i x hx
    · rw [List.getElem?_append_right (by omega)] at hx
      have : i = l.length := by
        rcases Nat.eq_or_lt_of_le (Nat.le_of_not_lt hi) with e | e
        · exact e.symm
        · rw [List.getElem?_eq_none (by simp; omega)] at hx; cases hx
      subst this
      simp at hx
      subst hx
      rw [hl]
      exact ha

set_option maxRecDepth 100000 in
theorem strs_read {fuel : Nat} {cs : List Value} {y : DataW H × List MemPlace} (h : DataW.trod enc Tryd.prog W 0 (fun _ => true) true fuel 28 cs = some y) (hz : Fits 28 y.1) : ∃ v l, cs = [v] ∧ Strs W (· < W.heap.size) v l := by
  rcases DataW.trod_slice Tryd.underlying28 h with ⟨hcs, hx⟩ | ⟨ad, len, cap, es, rest, n, _, hcs, hx, _, hlc, _, hel, hes, _, _⟩
  · exact ⟨_, [], hcs, Strs.nil⟩
  · subst hx
    have hb := Fits.len Tryd.underlying28 hz
    rw [show Tryd.prog.bytesOf 9 = 16 by kernel_rfl] at hb
    simp only [List.length_map] at hb
    have each : ∀ i, i < len → ∃ s : ByteArray, W.cell? (ad.add i) = some (.string s) ∧ s.size ≤ 140737488351232 := fun i hi => by
      have h1 := hes i hi
      rw [show Tryd.prog.cellsOf 9 = 1 by kernel_rfl, Nat.mul_one, List.getElem?_eq_getElem (by omega)] at h1
      obtain ⟨c, hc, h2⟩ := Option.bind_eq_some_iff.1 h1
      obtain ⟨s, rfl, e1, -⟩ := DataW.trod_string Tryd.underlying9 h2
      have hf := Fits.elem Tryd.underlying28 hz (i := i) (by rw [List.getElem?_map, List.getElem?_eq_getElem (by omega)]; rfl)
      rw [e1] at hf
      exact ⟨s, cell_of_cells?_one hc, by simpa using hf.str⟩
    obtain ⟨l, hl, hq⟩ := exists_list len each
    refine ⟨_, l, hcs, _, _, _, rfl, hl.symm, by omega, hlc, fun s hs => ?_, fun hn => ⟨ad, rfl, ?_, fun j s hs => (hq j s hs).1⟩⟩
    · obtain ⟨j, hj, rfl⟩ := List.mem_iff_getElem.1 hs
      exact (hq j _ (List.getElem?_eq_getElem hj)).2
    · obtain ⟨s, hc, _⟩ := each 0 hn
      have h0 := cellLt hc
      rw [block_of_add] at h0
      exact h0

theorem trod_struct6 {t : TypeId} {f0 f1 f2 f3 f4 f5 : Field} {fuel : Nat} {cs : List Value} {x : DataW H × List MemPlace} (ht : Tryd.prog.underlying t = some (.struct #[f0, f1, f2, f3, f4, f5])) (h : DataW.trod enc Tryd.prog W 0 (fun _ => true) true fuel t cs = some x) :
    ∃ y0 y1 y2 y3 y4 y5 n, fuel = n + 1 ∧ x.1 = .agg [y0.1, y1.1, y2.1, y3.1, y4.1, y5.1] ∧ cs.length = Tryd.prog.cellsOf t ∧
      DataW.trod enc Tryd.prog W 0 (fun _ => true) true n f0.type ((cs.drop f0.offset).take (Tryd.prog.cellsOf f0.type)) = some y0 ∧ DataW.trod enc Tryd.prog W 0 (fun _ => true) true n f1.type ((cs.drop f1.offset).take (Tryd.prog.cellsOf f1.type)) = some y1 ∧
      DataW.trod enc Tryd.prog W 0 (fun _ => true) true n f2.type ((cs.drop f2.offset).take (Tryd.prog.cellsOf f2.type)) = some y2 ∧ DataW.trod enc Tryd.prog W 0 (fun _ => true) true n f3.type ((cs.drop f3.offset).take (Tryd.prog.cellsOf f3.type)) = some y3 ∧
      DataW.trod enc Tryd.prog W 0 (fun _ => true) true n f4.type ((cs.drop f4.offset).take (Tryd.prog.cellsOf f4.type)) = some y4 ∧ DataW.trod enc Tryd.prog W 0 (fun _ => true) true n f5.type ((cs.drop f5.offset).take (Tryd.prog.cellsOf f5.type)) = some y5 := by
  obtain ⟨xs, n, hn, rfl, hl, hlen, hf⟩ := DataW.trod_struct ht h
  match xs, hlen with
  | [y0, y1, y2, y3, y4, y5], _ => exact ⟨y0, y1, y2, y3, y4, y5, n, hn, by simp, hl, by simpa using hf 0 f0 rfl, by simpa using hf 1 f1 rfl, by simpa using hf 2 f2 rfl, by simpa using hf 3 f3 rfl, by simpa using hf 4 f4 rfl, by simpa using hf 5 f5 rfl⟩

theorem FKids.mk {S : Nat → Prop} {ad : Addr} : ∀ (l : List FB) (j : Nat), (∀ i f, l[i]? = some f → ∃ x0 x1 x2 x3 x4 x5, W.cell? (ad.add ((j + i) * 6)) = some x0 ∧ W.cell? (ad.add ((j + i) * 6 + 1)) = some x1 ∧ W.cell? (ad.add ((j + i) * 6 + 2)) = some x2 ∧
      W.cell? (ad.add ((j + i) * 6 + 3)) = some x3 ∧ W.cell? (ad.add ((j + i) * 6 + 4)) = some x4 ∧ W.cell? (ad.add ((j + i) * 6 + 5)) = some x5 ∧ FVal W S f [x0, x1, x2, x3, x4, x5]) → FKids W S ad l j
  | [], j, _ => trivial
  | f :: l, j, h => by
    unfold FKids
    refine ⟨by simpa using h 0 f rfl, FKids.mk l (j + 1) fun i g hg => ?_⟩
    have := h (i + 1) g (by simpa using hg)
    rw [show j + (i + 1) = j + 1 + i by omega] at this
    exact this

set_option maxRecDepth 100000 in
theorem form_read : ∀ (N fuel : Nat), fuel ≤ N → ∀ (cs : List Value) (y : DataW H × List MemPlace), DataW.trod enc Tryd.prog W 0 (fun _ => true) true fuel 31 cs = some y → Fits 31 y.1 → ∃ f : FB, FVal W (· < W.heap.size) f cs
  | 0, fuel, hN, cs, y, h, _ => by
    obtain rfl : fuel = 0 := by omega
    simp [DataW.trod] at h
  | N + 1, fuel, hN, cs, y, h, hz => by
    obtain ⟨y0, y1, y2, y3, y4, y5, n, rfl, hx, hlen, h0, h1, h2, h3, h4, h5⟩ := trod_struct6 Tryd.underlying31 h
    rw [show Tryd.prog.cellsOf 31 = 6 by kernel_rfl] at hlen
    obtain ⟨c0, c1, c2, c3, c4, c5, rfl⟩ : ∃ a b c d e f, cs = [a, b, c, d, e, f] := by
      match cs, hlen with
      | [a, b, c, d, e, f], _ => exact ⟨a, b, c, d, e, f, rfl⟩
    have hfit : ∀ n ∈ DataW.weightsEach Tryd.prog [3, 3, 9, 28, 28, 29] [y0.1, y1.1, y2.1, y3.1, y4.1, y5.1], n ≤ 140737488351232 := fun n hn => hz n (by
      rw [hx]
      simp only [DataW.weights, Tryd.underlying31]
      exact hn)
    simp only [show Tryd.prog.cellsOf 9 = 1 by kernel_rfl, show Tryd.prog.cellsOf 3 = 1 by kernel_rfl, show Tryd.prog.cellsOf 28 = 1 by kernel_rfl, show Tryd.prog.cellsOf 29 = 1 by kernel_rfl] at h0 h1 h2 h3 h4 h5
    obtain ⟨k, e0, -, -⟩ := DataW.trod_int Tryd.underlying3 h0
    obtain ⟨a, e1, -, -⟩ := DataW.trod_int Tryd.underlying3 h1
    obtain ⟨s, e2, hs, -⟩ := DataW.trod_string Tryd.underlying9 h2
    obtain ⟨u3, vs, e3, hv3⟩ := strs_read h3 (fun n hn => hfit n (by
      simp only [DataW.weightsEach]
      exact List.mem_append_right _ (List.mem_append_right _ (List.mem_append_right _ (List.mem_append_left _ hn)))))
    obtain ⟨u4, ar, e4, hv4⟩ := strs_read h4 (fun n hn => hfit n (by
      simp only [DataW.weightsEach]
      exact List.mem_append_right _ (List.mem_append_right _ (List.mem_append_right _ (List.mem_append_right _ (List.mem_append_left _ hn))))))
    have hz5 : Fits 29 y5.1 := fun n hn => hfit n (by
      simp only [DataW.weightsEach]
      exact List.mem_append_right _ (List.mem_append_right _ (List.mem_append_right _ (List.mem_append_right _ (List.mem_append_right _ (List.mem_append_left _ hn))))))
    have hss : s.size ≤ 140737488351232 := by
      have := hfit s.data.toList.length (by
        rw [hs]
        simp only [DataW.weightsEach, DataW.weights]
        exact List.mem_append_right _ (List.mem_append_right _ (List.mem_append_left _ (List.mem_cons_self ..))))
      simpa using this
    simp at e0 e1 e2 e3 e4
    subst e0 e1 e2 e3 e4
    rcases DataW.trod_slice Tryd.underlying29 h5 with ⟨hcs, hx5⟩ | ⟨ad, len, cap, es, rest, n', hn', hcs, hx5, _, hlc, _, hel, hes, _, _⟩
    · simp at hcs
      subst hcs
      refine ⟨.mk k a s vs ar [], ?_⟩
      unfold FVal
      exact ⟨_, _, _, _, _, rfl, hss, hv3, hv4, rfl, by omega, by omega, fun h => absurd h (by omega)⟩
    · simp at hcs
      subst hcs hx5
      have hb := Fits.len Tryd.underlying29 hz5
      rw [show Tryd.prog.bytesOf 31 = 104 by kernel_rfl] at hb
      simp only [List.length_map] at hb
      have each : ∀ i, i < len → ∃ g : FB, ∃ x0 x1 x2 x3 x4 x5, W.cell? (ad.add (i * 6)) = some x0 ∧ W.cell? (ad.add (i * 6 + 1)) = some x1 ∧ W.cell? (ad.add (i * 6 + 2)) = some x2 ∧
          W.cell? (ad.add (i * 6 + 3)) = some x3 ∧ W.cell? (ad.add (i * 6 + 4)) = some x4 ∧ W.cell? (ad.add (i * 6 + 5)) = some x5 ∧ FVal W (· < W.heap.size) g [x0, x1, x2, x3, x4, x5] := fun i hi => by
        have h1 := hes i hi
        rw [show Tryd.prog.cellsOf 31 = 6 by kernel_rfl, List.getElem?_eq_getElem (by omega)] at h1
        obtain ⟨c, hc, h2⟩ := Option.bind_eq_some_iff.1 h1
        obtain ⟨g, hg⟩ := form_read N n' (by omega) c _ h2 (Fits.elem Tryd.underlying29 hz5 (i := i) (by rw [List.getElem?_map, List.getElem?_eq_getElem (by omega)]; rfl))
        obtain ⟨k', a', nm', ws', ar', ks'⟩ := g
        obtain ⟨B3, r3, s3, B4, r4, s4, B, r, s', hcs', -⟩ := hg.open_
        subst hcs'
        obtain ⟨-, -, hcell⟩ := World.cells?_some hc
        have q0 := hcell 0 (by omega)
        have q1 := hcell 1 (by omega)
        have q2 := hcell 2 (by omega)
        have q3 := hcell 3 (by omega)
        have q4 := hcell 4 (by omega)
        have q5 := hcell 5 (by omega)
        rw [add_of_add] at q0 q1 q2 q3 q4 q5
        exact ⟨_, _, _, _, _, _, _, q0, q1, q2, q3, q4, q5, hg⟩
      obtain ⟨ks, hks, hq⟩ := exists_list len each
      refine ⟨.mk k a s vs ar ks, ?_⟩
      unfold FVal
      refine ⟨_, _, _, _, _, rfl, hss, hv3, hv4, hks.symm, by omega, hlc, fun hn => ⟨ad, rfl, ?_, FKids.mk ks 0 fun i g hg => by rw [Nat.zero_add]; exact hq i g hg⟩⟩
      obtain ⟨g, x0, x1, x2, x3, x4, x5, hc, -⟩ := each 0 hn
      have h0 := cellLt hc
      rw [block_of_add] at h0
      exact h0

set_option maxRecDepth 100000 in
/-- An argument of type Formula. -/
theorem form_of_trod {v : Value} {d : DataW H} {p : List MemPlace} {r : Reach} {b0 : Nat} (hv : Value.okWide Tryd.prog W r b0 31 v) (h : DataW.Trod enc Tryd.prog W 0 (fun _ => true) true 31 v d p) (hz : Fits 31 d) :
    ∃ (f : FB) (cs : List Value), v = .agg cs.toArray ∧ FVal W (· < W.heap.size) f cs := by
  obtain ⟨cs, rfl, hsz⟩ := okWide_struct Tryd.underlying31 hv
  obtain ⟨fuel, hf⟩ := h
  obtain ⟨f, hfv⟩ := form_read fuel fuel (Nat.le_refl _) _ _ hf hz
  refine ⟨f, cs.toList, by simp, ?_⟩
  simpa [Value.cells] using hfv
end

end Go.Proofs.YtmnpelhcgobfaaaDoor
