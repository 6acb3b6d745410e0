/-
  Walk: the reference's Made.
-/
import Derived.Test.YtjkaicpohihncaaDoorMake
import Derived.Deep.RegionLaw
namespace Go.Proofs.YtjkaicpohihncaaDoor
open Go.RowKit

set_option maxRecDepth 100000 in
set_option maxHeartbeats 400000 in
theorem made_any (n : Int) (v : Value) (ss : List (ByteArray × Int)) (w : World) (B : Nat) (hB : B ≤ w.heap.size) (h : Syms w B v ss) (hf : SymFit ss) (hl : ss.length ≤ 1000) :
    Calls Tryd.prog 40 #[.int .i64 n, v] w fun e w' => ∃ u, e = .returned (.agg #[.int .i64 n, u]) ∧ NRels w' w.heap.size u (Sh.madeR ss) ∧ Below w.heap.size w w' := by
  have h' := h
  obtain ⟨A, len, c, rfl, hlen, -⟩ := h'
  have hl' : len ≤ 1000 := by omega
  have Hlen := Lib.hid hlen; clear hlen
  have Hf := Lib.hid hf; clear hf
  clear hl
  go_enter Tryd.func40, Tryd.ntmps40
  go_wp2
  have hb3 : Below w.heap.size w ((w.alloc (.cells #[.int .i64 0, .slice none 0 0] 24)).alloc (.cells #[.int .i64 n, .slice none 0 0] 24)) :=
    ((Below.refl _ _).alloc (Nat.le_refl _) _).alloc (by simp) _
  have hz3 : Blk ((w.alloc (.cells #[.int .i64 0, .slice none 0 0] 24)).alloc (.cells #[.int .i64 n, .slice none 0 0] 24)) w.heap.size 24 #[.int .i64 0, .slice none 0 0] := (Blk.new w 24 #[.int .i64 0, .slice none 0 0]).alloc _
  have hc3 : Blk ((w.alloc (.cells #[.int .i64 0, .slice none 0 0] 24)).alloc (.cells #[.int .i64 n, .slice none 0 0] 24)) (w.heap.size + 1) 24 #[.int .i64 n, .slice none 0 0] := by
    have := Blk.new (w.alloc (.cells #[.int .i64 0, .slice none 0 0] 24)) 24 #[.int .i64 n, .slice none 0 0]
    rw [World.size_alloc] at this
    exact this
  generalize ((w.alloc (.cells #[.int .i64 0, .slice none 0 0] 24)).alloc (.cells #[.int .i64 n, .slice none 0 0] 24)) = W3 at *
  go_loopw [6] (fun i wr => ∃ (k : Nat) (tv : Value) (xs us : List Value), k ≤ len ∧ i = .int .i64 k ∧ Blk wr w.heap.size 24 #[.int .i64 0, .slice none 0 0] ∧
      Blk wr (w.heap.size + 1) 24 #[.int .i64 n, tv] ∧ wr.ownsRow (w.heap.size + 2) 51 3 tv k xs ∧ RCells xs us ((Sh.madeR ss).take k) ∧ RElems wr (w.heap.size + 2) us ((Sh.madeR ss).take k) ∧ Below w.heap.size w wr) (fun i _ => len - (intOf i).toNat)
  case atStart => exact ⟨0, .slice none 0 0, [], [], Nat.zero_le _, rfl, hz3, hc3, World.ownsRow_nil _ _ _ _, RCells.nil, (fun j u t h => by simp at h), hb3⟩
  case round =>
    obtain ⟨k, tv, xs, us, hk, rfl, hz, hc, hown, hrc, hel, hbel⟩ := hrel
    clear hb3 hz3 hc3
    have Hown := Lib.hid hown; clear hown
    have Hrc := Lib.hid hrc; clear hrc
    obtain ⟨TA, TC, rfl⟩ := own_slice Hown.out
    have hlt3 := hc.lt
    have hc1 : wr.cell? ⟨w.heap.size + 1, 1, none⟩ = some (.slice TA k TC) := hc.cell 1
    by_cases hlt : k < len
    · obtain ⟨ad, s, rfl, hb, hs, c0, c1⟩ := (h.below (hbel.mono hB)).at_ hlt
      have hnz := Hf.out s (List.mem_of_getElem? hs)
      have hr := madeR_at hs
      have Hr := Lib.hid hr; clear hr
      have Hs := Lib.hid hs; clear hs
      obtain ⟨nm, ar⟩ := s
      simp only at c0 c1 hnz Hr
      have hbz := hbel.size
      have hcf := hc.frozen 1
      have hcd : Blk (wr.drew.alloc (.cells #[.string nm, .int .i64 ar, .slice none 0 0] 51)) (w.heap.size + 1) 24 #[.int .i64 n, .slice TA k TC] := (hc.drew).alloc _
      have hownd : (wr.drew.alloc (.cells #[.string nm, .int .i64 ar, .slice none 0 0] 51)).ownsRow (w.heap.size + 2) 51 3 (.slice TA k TC) k xs := World.ownsRow.alloc (w := wr.drew) Hown.out _
      have Hownd := Lib.hid hownd; clear hownd
      have Hcd := Lib.hid hcd; clear hcd
      go_wp2
      go_region_law (first
        | (refine step_append_rel _ rfl _ _ rfl (w.heap.size + 2) _ k xs rfl Hownd.out wr.heap.size 1 (.string nm) (.int .i64 ar) (.slice none 0 0) rfl (Blk.new wr.drew 51 #[.string nm, .int .i64 ar, .slice none 0 0]) rfl rfl rfl (by omega) (by simp; omega) ?_
           intro v8 w8 hown8 hg8
           obtain ⟨VA, VC, rfl⟩ := own_slice hown8
           have hc8 : Blk w8 (w.heap.size + 1) 24 #[.int .i64 n, .slice TA k TC] := Blk.grown Hcd.out hg8 (fun e => by have := (Hown.out.lt _ e.symm).1; omega)
           have hcc8 : w8.cell? ⟨w.heap.size + 1, 1, none⟩ = some (.slice TA k TC) := hc8.cell 1
           have hcf8 := hc8.frozen 1))
      all_goals
        go_wp2
        have hg8' : (wr.drew.alloc (.cells #[.string nm, .int .i64 ar, .slice none 0 0] 51)).grownBy w8 (Value.slice TA k TC).ownBlock := hg8
        have hbase : ∀ g, (Value.slice TA k TC).ownBlock = some g → w.heap.size + 2 ≤ g := fun g e => (Hown.out.lt g e).1
        have hk7 : Keeps (w.heap.size + 2) [3, 35] wr (w8.setCell ⟨w.heap.size + 1, 1, none⟩ (.slice VA (k + 1) VC)) :=
          (Keeps.drewN _ _ wr 1).trans ((Keeps.alloc _ _ _ _).trans ((Keeps.own hg8' Hownd.out (by decide)).trans (Keeps.setCell (p := ⟨w.heap.size + 1, 1, none⟩) hc8 (by decide) _)))
        refine ⟨⟨k + 1, .slice VA (k + 1) VC, xs ++ [.string nm, .int .i64 ar, .slice none 0 0], us ++ [.slice none 0 0], by omega, by go_num, ?_, hc8.set_ 1 _, own_set hown8 (show w.heap.size + 1 < w.heap.size + 2 by omega) _, by rw [take_snoc Hr.out]; exact Hrc.out.snoc ⟨nm, ar, []⟩ _, ?_, ?_⟩, by simp [intOf]; omega⟩
        · exact Blk.far (Blk.grown ((hz.drew).alloc _) hg8' (fun e => by have := hbase _ e.symm; omega)) (by simp) _
        · rw [take_snoc Hr.out]
          exact RElems.snoc (hel.keep hk7) Hrc.out.2.1 (NTups.nil _ _) hnz
        · exact ((hbel.drew.alloc hbz _).grown hg8' (by simp; omega) (fun g e => by have := hbase g e; omega)).setCell (show w.heap.size ≤ w.heap.size + 1 by omega) _
    · have hkl : k = len := by omega
      subst hkl
      have htk : (Sh.madeR ss).take k = Sh.madeR ss := List.take_of_length_le (by rw [madeR_len]; have := Hlen.out; omega)
      have hrc' := Hrc.out
      rw [htk] at hel hrc'
      have hnt : NRels wr (w.heap.size + 2) (.slice TA k TC) (Sh.madeR ss) := NRels.own Hown.out (Nat.le_refl _) (by omega) hrc' hel
      have hcc0 : wr.cell? ⟨w.heap.size + 1, 0, none⟩ = some (.int .i64 n) := hc.cell 0
      have hzc0 : wr.cell? ⟨w.heap.size, 0, none⟩ = some (.int .i64 0) := hz.cell 0
      have hzc1 : wr.cell? ⟨w.heap.size, 1, none⟩ = some (.slice none 0 0) := hz.cell 1
      have hzf0 := hz.frozen 0
      have hzf1 := hz.frozen 1
      have Hnt := Lib.hid hnt; clear hnt htk hel hrc'
      go_wp2
      refine bodyPost_ret (v := .agg #[.int .i64 n, .slice TA k TC]) (by simp [results, Tryd.results40, go_sem, hzc0, hzc1]) rfl ?_
      have hk0 : Keeps (w.heap.size + 2) [3, 35, 51] wr ((wr.setCell ⟨w.heap.size, 0, none⟩ (.int .i64 n)).setCell ⟨w.heap.size, 1, none⟩ (.slice TA k TC)) :=
        (Keeps.setCell (p := ⟨w.heap.size, 0, none⟩) hz (by decide) _).trans (Keeps.setCell (p := ⟨w.heap.size, 1, none⟩) (hz.set_ _ _) (by decide) _)
      exact ⟨_, rfl, (Hnt.out.keep hk0).more (by omega), (hbel.setCell (Nat.le_refl _) _).setCell (Nat.le_refl _) _⟩

end Go.Proofs.YtjkaicpohihncaaDoor
