/-
  Walks: the reference's Valid.
-/
import Derived.Test.YtbddchonhicpiaaDoorValid
import Derived.StillTailTactics
namespace Go.Proofs.YtbddchonhicpiaaDoor
open Go.RowKit

set_option maxRecDepth 100000 in
set_option maxHeartbeats 400000 in
theorem refvalid_any (size : Int) (v : Value) (rs : List Sh.Rel) (w : World) (B : Nat) (hB : B ≤ w.heap.size) (h : Rels w B v rs) :
    Calls Tryd.prog 14 #[.agg #[.int .i64 size, v]] w fun e w' => e = .returned (.bool (Sh.validB ⟨size, rs⟩)) ∧ Below w.heap.size w w' := by
  have h' := h
  obtain ⟨A, len, c, rfl, hlen, hmax, -⟩ := h'
  have hdef : Sh.validB ⟨size, rs⟩ = (decide (1 ≤ size) && decide (size ≤ 64) && decide (len ≤ 8) && (List.range len).all (Sh.relAt size rs)) := by rw [hlen]; rfl
  have Hlen := Lib.hid hlen; clear hlen
  by_cases h1 : size < 1
  · have hv : Sh.validB ⟨size, rs⟩ = false := by rw [hdef, decide_eq_false (by omega)]; simp
    have Hv := Lib.hid hv; clear hv hdef
    go_enter Tryd.func14, Tryd.ntmps14
    go_wp2
    go_ret
    exact ⟨ret_bool Hv.out.symm, (Below.refl _ _).alloc (Nat.le_refl _) _⟩
  · by_cases h2 : 64 < size
    · have hv : Sh.validB ⟨size, rs⟩ = false := by rw [hdef, decide_eq_false (show ¬ size ≤ 64 by omega)]; simp
      have Hv := Lib.hid hv; clear hv hdef
      go_enter Tryd.func14, Tryd.ntmps14
      go_wp2
      go_ret
      exact ⟨ret_bool Hv.out.symm, (Below.refl _ _).alloc (Nat.le_refl _) _⟩
    · by_cases h3 : 8 < len
      · have hv : Sh.validB ⟨size, rs⟩ = false := by rw [hdef, decide_eq_false (show ¬ len ≤ 8 by omega)]; simp
        have Hv := Lib.hid hv; clear hv hdef
        go_enter Tryd.func14, Tryd.ntmps14
        go_wp2
        go_ret
        exact ⟨ret_bool Hv.out.symm, (Below.refl _ _).alloc (Nat.le_refl _) _⟩
      · have hv : Sh.validB ⟨size, rs⟩ = (List.range len).all (Sh.relAt size rs) := by rw [hdef, decide_eq_true (by omega), decide_eq_true (by omega), decide_eq_true (by omega)]; simp
        have Hv := Lib.hid hv; clear hv hdef
        obtain ⟨n, rfl⟩ := Int.eq_ofNat_of_zero_le (show 0 ≤ size by omega)
        go_enter Tryd.func14, Tryd.ntmps14
        go_wp2
        go_loopw [3] (fun i wr => ∃ k : Nat, k ≤ len ∧ i = .int .i64 k ∧ (List.range k).all (Sh.relAt n rs) = true ∧ Blk wr w.heap.size 24 #[.int .i64 (n : Int), .slice A len c] ∧
          Below w.heap.size w wr) (fun i _ => len - (intOf i).toNat)
        case atStart =>
          exact ⟨0, Nat.zero_le _, rfl, by simp, Blk.new w _ _, (Below.refl _ _).alloc (Nat.le_refl _) _⟩
        case round =>
          obtain ⟨k, hk, rfl, hall, hblk, hbel⟩ := hrel
          have hsz := hblk.lt
          have hs1 : wr.cell? ⟨w.heap.size, 1, none⟩ = some (.slice A len c) := hblk.cell 1
          have hs0 : wr.cell? ⟨w.heap.size, 0, none⟩ = some (.int .i64 n) := hblk.cell 0
          have Hall := Lib.hid hall; clear hall
          by_cases hlt : k < len
          · obtain ⟨ad, u, r, rfl, hb, hr, hc0, hc1, hc2, htu, hrs⟩ := (h.below (hbel.mono hB)).at_ hlt
            have Hr := Lib.hid hr; clear hr
            have htu' := htu
            obtain ⟨A2, n2, c2, rfl, -, -, -⟩ := htu'
            have hrel : Sh.relAt n rs k = (Sh.relB n r && !((rs.take k).map (·.name.toList)).contains r.name.toList) := by unfold Sh.relAt; rw [Hr.out]
            have hfalse : Sh.relAt n rs k = false → Sh.validB ⟨n, rs⟩ = false := fun hp => by
              rw [Hv.out]; exact Sh.range_all_false _ hlt hp
            have hsucc := Sh.range_all_succ (Sh.relAt n rs) k
            rw [Hall.out, Bool.true_and] at hsucc
            have Hrel := Lib.hid hrel; clear hrel
            have Hfa := Lib.hid hfalse; clear hfalse
            have Hsucc := Lib.hid hsucc; clear hsucc
            cases hrb : Sh.relB n r
            · have Hf := Lib.hid (Hfa.out (by rw [Hrel.out, hrb]; rfl))
              have Hrb := Lib.hid hrb; clear hrb
              go_wp2
              go_still_tail 7, (by kernel_rfl)
              have htu' : Tups wr.drew B (.slice A2 n2 c2) r.tuples := htu
              have hbel' : Below w.heap.size w wr.drew := hbel.drew
              have hblk' : Blk wr.drew w.heap.size 24 #[.int .i64 (n : Int), .slice (some ad) len c] := hblk
              change wpList _ _ _ _ _ wr.drew
              generalize wr.drew = wd at *
              clear hblk hbel htu hc0 hc1 hc2 hs1 hs0
              have hsz := hblk'.lt
              go_wp2_with (go_at_call 52
                           refine (refrel_any r _ n _ B (by omega) htu' hrs (by omega) (by omega)).mono ?_
                           rw [Hrb.out]
                           rintro e w1 ⟨rfl, hb1⟩
                           have hbel1 := hbel'.trans (hb1.mono (by omega)))
              go_ret
              exact ⟨ret_bool Hf.out.symm, hbel1⟩
            · have Hrb := Lib.hid hrb; clear hrb
              go_wp2
              go_still_tail 7, (by kernel_rfl)
              have htu' : Tups wr.drew B (.slice A2 n2 c2) r.tuples := htu
              have hrd : Rels wr.drew B (.slice (some ad) len c) rs := h.below (hbel.drew.mono hB)
              have hbel' : Below w.heap.size w wr.drew := hbel.drew
              have hblk' : Blk wr.drew w.heap.size 24 #[.int .i64 (n : Int), .slice (some ad) len c] := hblk
              change wpList _ _ _ _ _ wr.drew
              generalize wr.drew = wd at *
              clear hblk hbel htu hc0 hc1 hc2 hs1 hs0
              have hsz := hblk'.lt
              have hs1 : wd.cell? ⟨w.heap.size, 1, none⟩ = some (.slice (some ad) len c) := hblk'.cell 1
              go_wp2_with (go_at_call 52
                           refine (refrel_any r _ n _ B (by omega) htu' hrs (by omega) (by omega)).mono ?_
                           rw [Hrb.out]
                           rintro e w1 ⟨rfl, hb1⟩
                           have hs1' : w1.cell? ⟨w.heap.size, 1, none⟩ = some (.slice (some ad) len c) := (hb1.cell (p := ⟨w.heap.size, 1, none⟩) hsz).trans hs1
                           have hblk1 := hblk'.below hb1 hsz
                           have hbel1 := hbel'.trans (hb1.mono (by omega)))
              have hrels1 := hrd.below (hb1.mono (by omega))
              clear hs1 hblk' hbel' hrd htu' hb1
              obtain ⟨ad', u1, r', hade, -, hr', hd0, -⟩ := hrels1.at_ hlt
              injection hade with hade
              subst hade
              have hrr : r' = r := Option.some.inj (hr'.symm.trans Hr.out)
              subst hrr
              clear hr'
              go_loopw [4] (fun q wq => ∃ j m : Nat, j ≤ k ∧ q = .int .i64 j ∧ ((rs.take j).map (·.name.toList)).contains r'.name.toList = false ∧ wq = w1.drewN m) (fun q _ => k - (intOf q).toNat)
              case atStart => exact ⟨0, 0, Nat.zero_le _, rfl, by simp, rfl⟩
              case round =>
                obtain ⟨j, m, hj, rfl, hno, rfl⟩ := hrel
                have Hno := Lib.hid hno; clear hno
                by_cases hjk : j < k
                · obtain ⟨ad', u2', rj, hade, -, hrj, hj0, -⟩ := hrels1.at_ (show j < len by omega)
                  injection hade with hade
                  subst hade
                  have hsn : (rs.take (j + 1)).map (·.name.toList) = (rs.take j).map (·.name.toList) ++ [rj.name.toList] := by
                    have hl : j < rs.length := by have := Hlen.out; omega
                    rw [List.getElem?_eq_getElem hl] at hrj
                    injection hrj with hrj
                    rw [List.take_succ_eq_append_getElem hl, List.map_append, hrj]
                    rfl
                  have hmem : rj ∈ rs.take k := by
                    have hl : j < rs.length := by have := Hlen.out; omega
                    rw [List.getElem?_eq_getElem hl] at hrj
                    injection hrj with hrj
                    rw [List.mem_iff_getElem]
                    exact ⟨j, by rw [List.length_take]; omega, by rw [List.getElem_take]; exact hrj⟩
                  have Hsn := Lib.hid hsn; clear hsn
                  have Hmem := Lib.hid hmem; clear hmem
                  clear hrj
                  cases heq : (rj.name.toList == r'.name.toList)
                  · have hcn : ((rs.take (j + 1)).map (·.name.toList)).contains r'.name.toList = false := by
                      rw [Hsn.out, List.contains_append, Hno.out]
                      have hne : ¬ r'.name.toList = rj.name.toList := fun e => by rw [e] at heq; simp at heq
                      simp [hne]
                    have Hcn := Lib.hid hcn; clear hcn
                    go_wp2
                    go_quiet (fail)
                    go_wp2
                    exact ⟨⟨j + 1, _, by omega, by go_num, Hcn.out, rfl⟩, by simp [intOf]; omega⟩
                  · have hf := Hfa.out (by
                      rw [Hrel.out]
                      have : ((rs.take k).map (·.name.toList)).contains r'.name.toList = true := by
                        rw [List.contains_iff_mem, List.mem_map]
                        exact ⟨rj, Hmem.out, by simpa using heq⟩
                      rw [this]; simp)
                    have Hf := Lib.hid hf; clear hf
                    go_wp2
                    go_quiet (fail)
                    go_wp2
                    go_ret
                    exact ⟨ret_bool Hf.out.symm, by repeat (first | exact hbel1 | refine below_drewN ?_ _)⟩
                · obtain rfl : j = k := by omega
                  have hok := Hsucc.out.trans (Hrel.out.trans (by rw [Hrb.out, Hno.out]; rfl : _ = true))
                  have Hok := Lib.hid hok; clear hok
                  go_wp2
                  exact ⟨⟨j + 1, by omega, by go_num, Hok.out, hblk1, below_drewN hbel1 _⟩, by simp [intOf]; omega⟩
          · obtain rfl : k = len := by omega
            have hfin := Hv.out
            rw [Hall.out] at hfin
            have Hfin := Lib.hid hfin; clear hfin
            go_wp2
            go_ret
            exact ⟨ret_bool Hfin.out.symm, hbel⟩

end Go.Proofs.YtbddchonhicpiaaDoor
