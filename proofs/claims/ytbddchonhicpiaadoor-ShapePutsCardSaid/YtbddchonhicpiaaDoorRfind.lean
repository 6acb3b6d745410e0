/-
  Walks: the reference's Find, Fits, Twice.
-/
import Derived.Test.YtbddchonhicpiaaDoorMake
import Derived.StillTailTactics
namespace Go.Proofs.YtbddchonhicpiaaDoor
open Go.RowKit

set_option maxRecDepth 100000 in
set_option maxHeartbeats 400000 in
theorem reffind_any (size : Int) (v : Value) (rs : List Sh.Rel) (nm : ByteArray) (w : World) (B : Nat) (hB : B ≤ w.heap.size) (h : Rels w B v rs) :
    Calls Tryd.prog 30 #[.agg #[.int .i64 size, v], .string nm] w fun e w' => e = .returned (.int .i64 (Sh.nameI nm.toList rs)) ∧ Below w.heap.size w w' := by
  have h' := h
  obtain ⟨A, len, c, rfl, hlen, hmax, -⟩ := h'
  have Hlen := Lib.hid hlen; clear hlen
  go_enter Tryd.func30, Tryd.ntmps30
  go_wp2
  have hbox := Blk.new w 24 #[.int .i64 size, .slice A len c]
  have hb1 : Below w.heap.size w (w.alloc (.cells #[.int .i64 size, .slice A len c] 24)) := (Below.refl _ _).alloc (Nat.le_refl _) _
  have hrel := h.below (hb1.mono hB)
  generalize w.alloc (.cells #[.int .i64 size, .slice A len c] 24) = W1 at *
  have c1 : W1.cell? ⟨w.heap.size, 1, none⟩ = some (.slice A len c) := hbox.cell 1
  clear hbox
  go_loop [5] (fun i => ∃ k : Nat, k ≤ len ∧ i = .int .i64 k ∧ Sh.NoneNamed nm.toList rs k) (fun i => len - (intOf i).toNat)
  case atStart => exact ⟨0, Nat.zero_le _, rfl, fun j r hj => absurd hj (Nat.not_lt_zero _)⟩
  case round =>
    obtain ⟨k, hk, rfl, hno⟩ := hrel
    by_cases hlt : k < len
    · obtain ⟨ad, u, r, rfl, hb, hr, c0, -⟩ := hrel.at_ hlt
      have Hr := Lib.hid hr; clear hr
      cases hs : (r.name.toList == nm.toList)
      · have Hs := Lib.hid (hno.succ Hr.out hs); clear hno
        go_wp2
        go_round
        case rel => exact ⟨k + 1, by omega, by go_num, Hs.out⟩
        case measure => simp [intOf]; omega
      · have Hs := Lib.hid (Sh.nameI_hit hno Hr.out hs); clear hno
        go_wp2
        go_ret
        exact ⟨ret_int Hs.out.symm, hb1⟩
    · obtain rfl : k = len := by omega
      have Hs := Lib.hid (Sh.nameI_none (by rw [← Hlen.out]; exact hno)); clear hno
      go_wp2
      go_ret
      exact ⟨ret_int Hs.out.symm, hb1⟩

theorem fits_take {rs : List Sh.Rel} {ss : List (ByteArray × Int)} {k : Nat} {s : ByteArray × Int} (hs : ss[k]? = some s) : Sh.fitsB rs (ss.take (k + 1)) = (Sh.fitsB rs (ss.take k) && Sh.fitB rs s) := by
  unfold Sh.fitsB
  rw [take_snoc hs, List.all_append]
  simp
theorem fits_false {rs : List Sh.Rel} {ss : List (ByteArray × Int)} {k : Nat} {s : ByteArray × Int} (hs : ss[k]? = some s) (hf : Sh.fitB rs s = false) : Sh.fitsB rs ss = false := by
  unfold Sh.fitsB
  rw [List.all_eq_false]
  exact ⟨s, List.mem_of_getElem? hs, by rw [hf]; simp⟩

set_option maxRecDepth 100000 in
set_option maxHeartbeats 400000 in
theorem fits_any (size : Int) (v u : Value) (rs : List Sh.Rel) (ss : List (ByteArray × Int)) (w : World) (B : Nat) (hB : B ≤ w.heap.size) (h : Rels w B v rs) (g : Syms w B u ss) (hvb : Sh.validB ⟨size, rs⟩ = true) :
    Calls Tryd.prog 41 #[.agg #[.int .i64 size, v], u] w fun e w' => e = .returned (.bool (Sh.fitsB rs ss)) ∧ Below w.heap.size w w' := by
  have h' := h
  obtain ⟨A, len, c, rfl, hlen, hmax, -⟩ := h'
  have g' := g
  obtain ⟨A', m, c', rfl, hm, hmm, -⟩ := g'
  have Hlen := Lib.hid hlen; clear hlen
  have Hm := Lib.hid hm; clear hm
  have Hvb := Lib.hid hvb; clear hvb
  go_enter Tryd.func41, Tryd.ntmps41
  go_wp2
  have hbox := Blk.new w 24 #[.int .i64 size, .slice A len c]
  have hb1 : Below w.heap.size w (w.alloc (.cells #[.int .i64 size, .slice A len c] 24)) := (Below.refl _ _).alloc (Nat.le_refl _) _
  generalize w.alloc (.cells #[.int .i64 size, .slice A len c] 24) = W1 at *
  go_loopw [5] (fun i wr => ∃ k : Nat, k ≤ m ∧ i = .int .i64 k ∧ Sh.fitsB rs (ss.take k) = true ∧ Blk wr w.heap.size 24 #[.int .i64 size, .slice A len c] ∧ Below w.heap.size w wr) (fun i _ => m - (intOf i).toNat)
  case atStart => exact ⟨0, Nat.zero_le _, rfl, rfl, hbox, hb1⟩
  case round =>
    obtain ⟨k, hk, rfl, hall, hbx, hbel⟩ := hrel
    clear hbox hb1
    have Hall := Lib.hid hall; clear hall
    by_cases hlt : k < m
    · obtain ⟨ad, s, rfl, hb, hs, c0, c1⟩ := (g.below (hbel.mono hB)).at_ hlt
      have hs0 : wr.cell? ⟨w.heap.size, 0, none⟩ = some (.int .i64 size) := hbx.cell 0
      have hs1 : wr.cell? ⟨w.heap.size, 1, none⟩ = some (.slice A len c) := hbx.cell 1
      have hft := fits_take (rs := rs) hs
      rw [Hall.out, Bool.true_and] at hft
      have hff := fits_false (rs := rs) hs
      have hfd : Sh.fitB rs s = decide (0 ≤ Sh.findI s.1.toList s.2 rs) := rfl
      have hcs := Sh.nameI_cases s.1.toList rs
      have hnms := Sh.valid_names Hvb.out
      obtain ⟨nm, ar⟩ := s
      simp only at c0 c1 hcs hfd
      have Hs := Lib.hid hs; clear hs
      have hbz := hbel.size
      have hbl := hbx.lt
      rcases hcs with ⟨e1, e2⟩ | ⟨j, r, e1, hr, e2⟩
      · have hf : Sh.fitB rs (nm, ar) = false := by rw [hfd, Sh.find_noname e2]; rfl
        have Hf := Lib.hid (hff hf)
        have He1 := Lib.hid e1; clear e1
        clear hft hff hfd hf e2 hnms
        go_wp2
        go_still_tail 6, (by kernel_rfl)
        change wpList _ _ _ _ _ wr.drew
        have hcall := reffind_any size (.slice A len c) rs nm wr.drew B (by simp; omega) (h.below (hbel.drew.mono hB))
        rw [He1.out] at hcall
        have Hcall := Lib.hid hcall; clear hcall
        have hbx' : Blk wr.drew w.heap.size 24 #[.int .i64 size, .slice A len c] := hbx
        have hbel' : Below w.heap.size w wr.drew := hbel.drew
        have hsz' : wr.drew.heap.size = wr.heap.size := rfl
        clear hbx hbel c0 c1 hs0 hs1
        generalize wr.drew = wd at *
        go_wp2_with (go_at_call 30; refine Hcall.out.mono ?_; rintro e w1 ⟨rfl, hb1⟩)
        go_quiet (fail)
        go_wp2
        go_ret
        exact ⟨ret_bool Hf.out.symm, by repeat (first | exact hbel'.trans (hb1.mono (by omega)) | refine below_drewN ?_ _)⟩
      · have hfn := Sh.find_name (ar := ar) hnms hr e2
        have hjl : j < len := by rw [Hlen.out]; exact (List.getElem?_eq_some_iff.1 hr).1
        have He1 := Lib.hid e1; clear e1
        have Hr := Lib.hid hr; clear hr
        have hjn : decide ((j : Int) < 0) = false := decide_eq_false (by omega)
        clear hnms e2
        by_cases har : r.arity = ar
        · have hf : Sh.fitB rs (nm, ar) = true := by rw [hfd, hfn, if_pos har]; exact decide_eq_true (by omega)
          have Hf := Lib.hid (hft.trans hf)
          clear hft hff hfd hf hfn
          have hne : (r.arity != ar) = false := by rw [har]; simp
          have heq : (r.arity == ar) = true := by rw [har]; simp
          clear har
          go_wp2
          go_still_tail 6, (by kernel_rfl)
          change wpList _ _ _ _ _ wr.drew
          have hcall := reffind_any size (.slice A len c) rs nm wr.drew B (by simp; omega) (h.below (hbel.drew.mono hB))
          rw [He1.out] at hcall
          have Hcall := Lib.hid hcall; clear hcall
          have hbx' : Blk wr.drew w.heap.size 24 #[.int .i64 size, .slice A len c] := hbx
          have hbel' : Below w.heap.size w wr.drew := hbel.drew
          have hsz' : wr.drew.heap.size = wr.heap.size := rfl
          clear hbx hbel c0 c1 hs0 hs1
          generalize wr.drew = wd at *
          go_wp2_with (go_at_call 30
                       refine Hcall.out.mono ?_
                       rintro e w1 ⟨rfl, hb1⟩
                       have hbel1 := hbel'.trans (hb1.mono (by omega))
                       have hbx1 := hbx'.below hb1 (by omega))
          obtain ⟨ad2, u2, r2, rfl, hb2, hr2, d0, d1, -⟩ := (h.below (hbel1.mono hB)).at_ hjl
          obtain rfl : r2 = r := Option.some.inj (hr2.symm.trans Hr.out)
          obtain ⟨ad3, s3, hade, hb3, hs3, g0, g1⟩ := (g.below (hbel1.mono hB)).at_ hlt
          obtain rfl := Option.some.inj hade
          obtain rfl := Option.some.inj (hs3.symm.trans Hs.out)
          simp only at g0 g1
          have hs1 : w1.cell? ⟨w.heap.size, 1, none⟩ = some (.slice (some ad2) len c) := hbx1.cell 1
          clear hr2 hs3 hade
          have Hbx1 := Lib.hid hbx1; clear hbx1
          go_quiet (fail)
          go_wp2
          exact ⟨⟨k + 1, by omega, by go_num, Hf.out, Hbx1.out.drewN _, below_drewN hbel1 _⟩, by simp [intOf]; omega⟩
        · have hf : Sh.fitB rs (nm, ar) = false := by rw [hfd, hfn, if_neg har]; rfl
          have Hf := Lib.hid (hff hf)
          clear hft hff hfd hf hfn
          have hne : (r.arity != ar) = true := by simpa using har
          have heq : (r.arity == ar) = false := by simpa using har
          clear har
          go_wp2
          go_still_tail 6, (by kernel_rfl)
          change wpList _ _ _ _ _ wr.drew
          have hcall := reffind_any size (.slice A len c) rs nm wr.drew B (by simp; omega) (h.below (hbel.drew.mono hB))
          rw [He1.out] at hcall
          have Hcall := Lib.hid hcall; clear hcall
          have hbx' : Blk wr.drew w.heap.size 24 #[.int .i64 size, .slice A len c] := hbx
          have hbel' : Below w.heap.size w wr.drew := hbel.drew
          have hsz' : wr.drew.heap.size = wr.heap.size := rfl
          clear hbx hbel c0 c1 hs0 hs1
          generalize wr.drew = wd at *
          go_wp2_with (go_at_call 30
                       refine Hcall.out.mono ?_
                       rintro e w1 ⟨rfl, hb1⟩
                       have hbel1 := hbel'.trans (hb1.mono (by omega))
                       have hbx1 := hbx'.below hb1 (by omega))
          obtain ⟨ad2, u2, r2, rfl, hb2, hr2, d0, d1, -⟩ := (h.below (hbel1.mono hB)).at_ hjl
          obtain rfl : r2 = r := Option.some.inj (hr2.symm.trans Hr.out)
          obtain ⟨ad3, s3, hade, hb3, hs3, g0, g1⟩ := (g.below (hbel1.mono hB)).at_ hlt
          obtain rfl := Option.some.inj hade
          obtain rfl := Option.some.inj (hs3.symm.trans Hs.out)
          simp only at g0 g1
          have hs1 : w1.cell? ⟨w.heap.size, 1, none⟩ = some (.slice (some ad2) len c) := hbx1.cell 1
          clear hr2 hs3 hade
          have Hbx1 := Lib.hid hbx1; clear hbx1
          go_quiet (fail)
          go_wp2
          go_ret
          exact ⟨ret_bool Hf.out.symm, below_drewN hbel1 _⟩
    · have hkm : k = m := by omega
      subst hkm
      have hfin := Hall.out
      rw [List.take_of_length_le (by have := Hm.out; omega)] at hfin
      have Hfin := Lib.hid hfin; clear hfin
      go_wp2
      go_ret
      exact ⟨ret_bool Hfin.out.symm, hbel⟩

set_option maxRecDepth 100000 in
set_option maxHeartbeats 400000 in
theorem twice_any (u : Value) (ss : List (ByteArray × Int)) (w : World) (B : Nat) (g : Syms w B u ss) :
    Calls Tryd.prog 42 #[u] w fun e w' => e = .returned (.bool (!Sh.onceB ss)) ∧ ∃ n, w' = w.drewN n := by
  have g' := g
  obtain ⟨A, len, c, rfl, hlen, hmax, -⟩ := g'
  have Hlen := Lib.hid hlen; clear hlen
  go_enter Tryd.func42, Tryd.ntmps42
  go_wp2
  go_loopw [3] (fun i wr => ∃ k m : Nat, k ≤ len ∧ i = .int .i64 k ∧ ((Sh.symNames ss).take k).Nodup ∧ wr = w.drewN m) (fun i _ => len - (intOf i).toNat)
  case atStart => exact ⟨0, 0, Nat.zero_le _, rfl, by simp, rfl⟩
  case round =>
    obtain ⟨k, m, hk, rfl, hnd, rfl⟩ := hrel
    have Hnd := Lib.hid hnd; clear hnd
    by_cases hlt : k < len
    · obtain ⟨ad, s, rfl, hb, hs, c0, -⟩ := g.at_ hlt
      have Hs := Lib.hid hs; clear hs
      go_wp2
      go_loopw [4] (fun q wq => ∃ j n : Nat, j ≤ k ∧ q = .int .i64 j ∧ s.1.toList ∉ (Sh.symNames ss).take j ∧ wq = w.drewN n) (fun q _ => k - (intOf q).toNat)
      case atStart => exact ⟨0, m, Nat.zero_le _, rfl, by simp, rfl⟩
      case round =>
        obtain ⟨j, n, hj, rfl, hno, rfl⟩ := hrel
        have Hno := Lib.hid hno; clear hno
        by_cases hjk : j < k
        · obtain ⟨ad', s', hade, hb', hs', d0, -⟩ := g.at_ (show j < len by omega)
          obtain rfl := Option.some.inj hade
          have Hs' := Lib.hid hs'; clear hs' hade
          cases heq : (s'.1.toList == s.1.toList)
          · have hno' : s.1.toList ∉ (Sh.symNames ss).take (j + 1) := by
              rw [take_snoc (Sh.symNames_at Hs'.out), List.mem_append]
              rintro (hh | hh)
              · exact Hno.out hh
              · rw [List.mem_singleton] at hh
                rw [hh] at heq
                simp at heq
            have Hno' := Lib.hid hno'; clear hno'
            go_wp2
            go_quiet (fail)
            go_wp2
            exact ⟨⟨j + 1, _, by omega, by go_num, Hno'.out, rfl⟩, by simp [intOf]; omega⟩
          · have hf : Sh.onceB ss = false := by
              refine Sh.once_false Hs.out ?_
              have e : s'.1.toList = s.1.toList := by simpa using heq
              rw [← e]
              have hm := Sh.symNames_at Hs'.out
              rw [List.mem_iff_getElem?]
              exact ⟨j, by rw [List.getElem?_take, if_pos hjk]; exact hm⟩
            have Hf := Lib.hid hf; clear hf
            go_wp2
            go_quiet (fail)
            go_wp2
            go_ret
            exact ⟨ret_bool (by rw [Hf.out]; rfl), _, World.drewN_drewN _ _ _⟩
        · obtain rfl : j = k := by omega
          have hn := (Sh.nodup_succ (Sh.symNames_at Hs.out)).2 ⟨Hnd.out, Hno.out⟩
          have Hn := Lib.hid hn; clear hn
          go_wp2
          exact ⟨⟨j + 1, _, by omega, by go_num, Hn.out, rfl⟩, by simp [intOf]; omega⟩
    · obtain rfl : k = len := by omega
      have hf := Sh.once_true (Nat.le_of_eq Hlen.out.symm) Hnd.out
      have Hf := Lib.hid hf; clear hf
      go_wp2
      go_ret
      exact ⟨ret_bool (by rw [Hf.out]; rfl), _, rfl⟩

end Go.Proofs.YtbddchonhicpiaaDoor
