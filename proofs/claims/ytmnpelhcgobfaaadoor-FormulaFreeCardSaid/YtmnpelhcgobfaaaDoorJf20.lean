/-
  Texts joined: Ffreem, Fclose, Fargs.
-/
import Derived.Test.YtmnpelhcgobfaaaDoorJf19
import Derived.Laws.Cover1
import Derived.BigQuiet
import Derived.StillTailTactics
import Derived.Sort.Walk0
import Derived.Test.YtmnpelhcgobfaaaDoorCards
import Derived.Test.YtmnpelhcgobfaaaDoorTie
import Derived.Test.YtmnpelhcgobfaaaDoorJf18
import Derived.WalkKit
import Derived.ProofKit
import Derived.OpenShut
import Derived.Deep.DeepHandedRow
import Derived.Deep.DeepWitnessRowRef
import Derived.Stop.LaidErr
import Derived.Lay
import Derived.Carry
import Derived.SizedLaws
import Derived.ChangeSlices
import Derived.Lib.SmallJoins
import Derived.Deep.Strs

/-
  Walk: FormulaFree.
-/
namespace Go.Proofs.YtmnpelhcgobfaaaDoor
open Go.RowKit
open Fo (F)

set_option maxRecDepth 100000 in
set_option maxHeartbeats 8000000 in
theorem ffreel_good (f : FB) (ws ar : List ByteArray) (ks : List FB) (k a : Int) (n : ByteArray) (A3 : Option Addr) (n3 c3 : Nat) (A4 : Option Addr) (n4 c4 : Nat) (A : Option Addr) (m c : Nat) (w : World) (hf : FVal w (· < w.heap.size) f [.int .i64 k, .int .i64 a, .string n, .slice A3 n3 c3, .slice A4 n4 c4, .slice A m c]) (hw : HasW w) (hv : Fo.Valid Fo.fitP f) (hfe : f = .mk k a n ws ar ks) :
    Calls Tryd.prog 5 #[.agg #[.int .i64 k, .int .i64 a, .string n, .slice A3 n3 c3, .slice A4 n4 c4, .slice A m c]] w fun e w' => e = .returned (.bool true) ∧ Below w.heap.size w w' := by
  have Hfew := Lib.hid (few_call 600 hf)
  have Hk0 := Lib.hid (PK.start (x0 := .int .i64 k) (x1 := .int .i64 a) (x2 := .string n) (x3 := .slice A3 n3 c3) (x4 := .slice A4 n4 c4) (x5 := .slice A m c) hw)
  have Hf := Lib.hid hf; clear hf
  have Hv := Lib.hid hv
  have Hfe := Lib.hid hfe; clear hfe
  have hval := fun W (hk : PK w (.int .i64 k) (.int .i64 a) (.string n) (.slice A3 n3 c3) (.slice A4 n4 c4) (.slice A m c) W) => fvalid_any f _ W w.heap.size hk.bx.bel.size (hk.val Hf.out)
  rw [some_valid hv] at hval
  have hall : ∀ W, PK w (.int .i64 k) (.int .i64 a) (.string n) (.slice A3 n3 c3) (.slice A4 n4 c4) (.slice A m c) W → (W.cell? ⟨w.heap.size, 0, none⟩ = some (.int .i64 k) ∧ W.cell? ⟨w.heap.size, 1, none⟩ = some (.int .i64 a) ∧ W.cell? ⟨w.heap.size, 2, none⟩ = some (.string n) ∧ W.cell? ⟨w.heap.size, 3, none⟩ = some (.slice A3 n3 c3) ∧ W.cell? ⟨w.heap.size, 4, none⟩ = some (.slice A4 n4 c4) ∧ W.cell? ⟨w.heap.size, 5, none⟩ = some (.slice A m c) ∧ PK w (.int .i64 k) (.int .i64 a) (.string n) (.slice A3 n3 c3) (.slice A4 n4 c4) (.slice A m c) W) := fun W h => by obtain ⟨e0, e1, e2, e3, e4, e5⟩ := h.six; exact ⟨e0, e1, e2, e3, e4, e5, h⟩
  have hfre : ∀ W, (W.cell? ⟨w.heap.size, 0, none⟩ = some (.int .i64 k) ∧ W.cell? ⟨w.heap.size, 1, none⟩ = some (.int .i64 a) ∧ W.cell? ⟨w.heap.size, 2, none⟩ = some (.string n) ∧ W.cell? ⟨w.heap.size, 3, none⟩ = some (.slice A3 n3 c3) ∧ W.cell? ⟨w.heap.size, 4, none⟩ = some (.slice A4 n4 c4) ∧ W.cell? ⟨w.heap.size, 5, none⟩ = some (.slice A m c) ∧ PK w (.int .i64 k) (.int .i64 a) (.string n) (.slice A3 n3 c3) (.slice A4 n4 c4) (.slice A m c) W) → Calls Tryd.prog 13 #[.agg #[.int .i64 k, .int .i64 a, .string n, .slice A3 n3 c3, .slice A4 n4 c4, .slice A m c]] W fun e w' => ∃ A' n' c', e = .returned (.slice A' n' c') ∧ FreeR f W w' (.slice A' n' c') ∧ (w'.cell? ⟨w.heap.size, 0, none⟩ = some (.int .i64 k) ∧ w'.cell? ⟨w.heap.size, 1, none⟩ = some (.int .i64 a) ∧ w'.cell? ⟨w.heap.size, 2, none⟩ = some (.string n) ∧ w'.cell? ⟨w.heap.size, 3, none⟩ = some (.slice A3 n3 c3) ∧ w'.cell? ⟨w.heap.size, 4, none⟩ = some (.slice A4 n4 c4) ∧ w'.cell? ⟨w.heap.size, 5, none⟩ = some (.slice A m c) ∧ PK w (.int .i64 k) (.int .i64 a) (.string n) (.slice A3 n3 c3) (.slice A4 n4 c4) (.slice A m c) w') := fun W hk =>
    (free_r hv hk.2.2.2.2.2.2.bx.bel.size (hk.2.2.2.2.2.2.val Hf.out)).mono fun e w' h => by
      obtain ⟨A', n', c', rfl, h⟩ := h
      exact ⟨A', n', c', rfl, h, hall _ (hk.2.2.2.2.2.2.step h.1)⟩
  have hsym : ∀ W, (W.cell? ⟨w.heap.size, 0, none⟩ = some (.int .i64 k) ∧ W.cell? ⟨w.heap.size, 1, none⟩ = some (.int .i64 a) ∧ W.cell? ⟨w.heap.size, 2, none⟩ = some (.string n) ∧ W.cell? ⟨w.heap.size, 3, none⟩ = some (.slice A3 n3 c3) ∧ W.cell? ⟨w.heap.size, 4, none⟩ = some (.slice A4 n4 c4) ∧ W.cell? ⟨w.heap.size, 5, none⟩ = some (.slice A m c) ∧ PK w (.int .i64 k) (.int .i64 a) (.string n) (.slice A3 n3 c3) (.slice A4 n4 c4) (.slice A m c) W) → Calls Tryd.prog 14 #[.agg #[.int .i64 k, .int .i64 a, .string n, .slice A3 n3 c3, .slice A4 n4 c4, .slice A m c]] W fun e w' => ∃ A' n' c', e = .returned (.slice A' n' c') ∧ SymR f W w' (.slice A' n' c') ∧ (w'.cell? ⟨w.heap.size, 0, none⟩ = some (.int .i64 k) ∧ w'.cell? ⟨w.heap.size, 1, none⟩ = some (.int .i64 a) ∧ w'.cell? ⟨w.heap.size, 2, none⟩ = some (.string n) ∧ w'.cell? ⟨w.heap.size, 3, none⟩ = some (.slice A3 n3 c3) ∧ w'.cell? ⟨w.heap.size, 4, none⟩ = some (.slice A4 n4 c4) ∧ w'.cell? ⟨w.heap.size, 5, none⟩ = some (.slice A m c) ∧ PK w (.int .i64 k) (.int .i64 a) (.string n) (.slice A3 n3 c3) (.slice A4 n4 c4) (.slice A m c) w') := fun W hk =>
    (sym_r hv hk.2.2.2.2.2.2.bx.bel.size (hk.2.2.2.2.2.2.val Hf.out)).mono fun e w' h => by
      obtain ⟨A', n', c', rfl, h⟩ := h
      exact ⟨A', n', c', rfl, h, hall _ (hk.2.2.2.2.2.2.step h.1)⟩
  have Hall := Lib.hid hall; clear hall
  have Hval := Lib.hid hval; clear hval hv
  have Hfre := Lib.hid hfre; clear hfre
  have Hsym := Lib.hid hsym; clear hsym
  go_enter Tryd.func5, Tryd.ntmps5
  go_upto_region 3 with (first
    | (go_at_call 11
       refine Hfew.out.mono ?_
       rintro e w1 ⟨⟨b, rfl⟩, hb1⟩
       have K1 := Lib.hid ((Hk0.out.alloc _).step hb1); clear hb1 Hfew
       obtain ⟨e0, e1, e2, e3, e4, e5⟩ := K1.out.six
       cases b)
    | (go_at_call 12
       refine (Hval.out _ K1.out).mono ?_
       rintro e w2 ⟨rfl, hb2⟩
       have K2 := Lib.hid (K1.out.step hb2); clear hb2 K1 e0 e1 e2 e3 e4 e5)
    | (go_at_call 7
       with_reducible refine (falive_any _ K1.out.wds).mono ?_
       rintro e w5 ⟨rfl, hb5⟩
       have K5 := Lib.hid (K1.out.step hb5)))
  all_goals first
    | (go_ret; exact ⟨rfl, K5.out.bx.bel⟩)
    | skip
  obtain ⟨e0, e1, e2, e3, e4, e5⟩ := K2.out.six
  go_cut [3, 4] from 27 to 30 (fun u v wx => ∃ FA FN FC SA SN SC l1 ss, u = .slice FA FN FC ∧ v = .slice SA SN SC ∧ FL w (.int .i64 k) (.int .i64 a) (.string n) (.slice A3 n3 c3) (.slice A4 n4 c4) (.slice A m c) u l1 v ss wx ∧ Lists f l1 ss)
  case first =>
    go_region_held3 (fun W => W.cell? ⟨w.heap.size, 0, none⟩ = some (.int .i64 k) ∧ W.cell? ⟨w.heap.size, 1, none⟩ = some (.int .i64 a) ∧ W.cell? ⟨w.heap.size, 2, none⟩ = some (.string n) ∧ W.cell? ⟨w.heap.size, 3, none⟩ = some (.slice A3 n3 c3) ∧ W.cell? ⟨w.heap.size, 4, none⟩ = some (.slice A4 n4 c4) ∧ W.cell? ⟨w.heap.size, 5, none⟩ = some (.slice A m c) ∧ PK w (.int .i64 k) (.int .i64 a) (.string n) (.slice A3 n3 c3) (.slice A4 n4 c4) (.slice A m c) W)
      (first
        | assumption
        | exact ⟨e0, e1, e2, e3, e4, e5, K2.out.step (Below.drew (Below.refl _ _))⟩)
      (first
        | (go_at_call 13; refine (Hfre.out _ (by assumption)).mono ?_; rintro e w3 ⟨FA, FN, FC, rfl, hfr, hc3⟩)
        | (go_at_call 14; refine (Hsym.out _ (by assumption)).mono ?_; rintro e w4 ⟨SA, SN, SC, rfl, hsy, hc4⟩))
    all_goals (
      go_wp2_with fail
      go_meet
      obtain ⟨l1, ss, h1, h2⟩ := FL.of1 (K2.out.step (Below.drew (Below.refl _ _))) hfr hsy
      exact ⟨_, _, _, _, _, _, l1, ss, rfl, rfl, h1, h2⟩)
  case rest =>
    obtain ⟨FA, FN, FC, SA, SN, SC, l1, ss, rfl, rfl, hfl, hls⟩ := hcut
    clear e0 e1 e2 e3 e4 e5 K2 Hval Hfre Hsym Hk0
    obtain ⟨e0, e1, e2, e3, e4, e5⟩ := hfl.pk.six
    have Hfl := Lib.hid hfl; clear hfl
    have Hls := Lib.hid hls; clear hls
    have hfn : FN = l1.length := Hfl.out.fr.length
    have hsn : SN = ss.length := by obtain ⟨_, _, _, e, h, -⟩ := Hfl.out.sy; injection e with _ e _; omega
    have Hfn := Lib.hid hfn; clear hfn
    have Hsn := Lib.hid hsn; clear hsn
    obtain ⟨-, h3, h4, hmk, hmm, -, hkid⟩ := six_of (k := k) (a := a) (n := n) (ws := ws) (ar := ar) (ks := ks) (by have := Hf.out; rw [Hfe.out] at this; exact this)
    have hm3 : n3 ≤ 140737488351232 := by obtain ⟨_, _, _, e, _, h, -⟩ := h3; injection e with _ e; omega
    have hm4 : n4 ≤ 140737488351232 := by obtain ⟨_, _, _, e, _, h, -⟩ := h4; injection e with _ e; omega
    have Hmk := Lib.hid hmk; clear hmk
    have Hkid := Lib.hid hkid; clear hkid
    have H3 := Lib.hid h3; clear h3
    have H4 := Lib.hid h4; clear h4
    have hfb : FN ≤ 1000000 := by have := Hfn.out; have := Hls.out.fl; omega
    have hsb : SN ≤ 1000000 := by have := Hsn.out; have := Hls.out.sl; omega
    have hbin := refbinds_any k a n A3 n3 c3 A4 n4 c4 A m c hm3 wc
    have Hbin := Lib.hid hbin; clear hbin
    go_upto_region 5 with (go_at_call 15
                           refine Hbin.out.mono ?_
                           rintro e w6 ⟨rfl, hb6⟩
                           have L6 := Lib.hid (Hfl.out.step hb6); clear hb6 Hbin e0 e1 e2 e3 e4 e5)
    obtain ⟨e0, e1, e2, e3, e4, e5⟩ := L6.out.pk.six
    have hbb : Below w.heap.size w w6 := L6.out.pk.bx.bel
    have H4w := Lib.hid (H4.out.below hbb)
    have hl1 := L6.out.fr
    have Hl1 := Lib.hid hl1; clear hl1 hbb
    generalize bindI k a n3 = bz at *
    go_wp2
    go_loop [7] (fun i => ∃ j : Nat, j ≤ n4 ∧ i = .int .i64 j) (fun i => n4 - (intOf i).toNat)
    case atStart => exact ⟨0, Nat.zero_le _, rfl⟩
    case round =>
      obtain ⟨j, hj, rfl⟩ := hrel
      by_cases hlt : j < n4
      · obtain ⟨ad, s, rfl, hb, hs, hc, hsz⟩ := H4w.out.at_ hlt
        have hin : decide (s ∈ l1) = true := decide_eq_true ((Hls.out.fm s).2 (by rw [Hfe.out]; exact Fo.free_kids.2 (.inl (List.mem_of_getElem? hs))))
        have hcall := famong_any (.slice FA FN FC) l1 s w6 _ Hl1.out
        rw [hin] at hcall
        have Hcall := Lib.hid hcall; clear hcall hin hs
        go_wp2_with (go_at_call 16; refine Hcall.out.mono ?_; rintro e w' ⟨rfl, rfl⟩)
        exact ⟨⟨j + 1, by omega, by go_num⟩, by simp [intOf]; omega⟩
      · obtain rfl : j = n4 := by omega
        obtain ⟨k0, hk0⟩ : ∃ k0, k0 = (if k = 0 then 1 else 0 : Nat) := ⟨_, rfl⟩
        have hk01 : k0 ≤ 1 := by rw [hk0]; split <;> omega
        have Hk0 := Lib.hid hk0; clear hk0
        obtain ⟨e0, e1, e2, e3, e4, e5⟩ := L6.out.pk.six
        go_upto_if 56 with fail
        go_cut [9] (fun v wx => w6 = wx ∧ v = .int .i64 (k0 : Nat))
        case first =>
          by_cases hk : k = 0
          · have hz := Hk0.out
            rw [if_pos hk] at hz
            subst hz hk
            go_wp2_with fail
            go_meet
            exact ⟨rfl, rfl⟩
          · have hz := Hk0.out
            rw [if_neg hk] at hz
            subst hz
            have hkb : (k == 0) = false := by simpa using hk
            go_wp2_with fail
            go_meet
            exact ⟨rfl, rfl⟩
        case rest =>
          obtain ⟨rfl, rfl⟩ := hcut
          obtain ⟨e0, e1, e2, e3, e4, e5⟩ := L6.out.pk.six
          have hm4000 : m ≤ 4000 := by
            have h1 := Hv.out.1
            rw [Hfe.out, Fo.size] at h1
            have := size_len ks
            have := Hmk.out
            omega
          clear H4w Hl1
          go_wp2
          go_loopw [8, 9, 10] (fun u v i wr => ∃ (t : Nat) (d1 : List ByteArray) (d2 : List (ByteArray × Int)), t ≤ m ∧ u = .int .i64 ((j + d1.length : Nat) : Int) ∧ v = .int .i64 ((k0 + d2.length : Nat) : Int) ∧ i = .int .i64 t ∧ Done ks t d1 d2 ∧ FL w (.int .i64 k) (.int .i64 a) (.string n) (.slice A3 n3 c3) (.slice A4 j c4) (.slice A m c) (.slice FA FN FC) l1 (.slice SA SN SC) ss wr) (fun _ _ i _ => m - (intOf i).toNat)
          case atStart => exact ⟨0, [], [], Nat.zero_le _, rfl, rfl, rfl, Done.zero ks, L6.out⟩
          case round =>
            obtain ⟨t, d1, d2, ht, rfl, rfl, rfl, hdn, hflr⟩ := hrel
            have Hdn := Lib.hid hdn; clear hdn
            have Lr := Lib.hid hflr; clear hflr e0 e1 e2 e3 e4 e5
            obtain ⟨e0, e1, e2, e3, e4, e5⟩ := Lr.out.pk.six
            have hd1b : d1.length ≤ 4000000000 := by have := Hdn.out.l1; omega
            have hd2b : d2.length ≤ 4000000000 := by have := Hdn.out.l2; omega
            by_cases htm : t < m
            · obtain ⟨ad, rfl, had, hkids⟩ := Hkid.out (by omega)
              obtain ⟨g, hg⟩ : ∃ g, ks[t]? = some g := ⟨ks[t]'(by have := Hmk.out; omega), List.getElem?_eq_getElem _⟩
              have hgm := List.mem_of_getElem? hg
              have hgv : Fo.Valid Fo.fitP g := (Fo.valid_kid fitK (by have := Hv.out; rw [Hfe.out] at this; exact this) hgm).2
              obtain ⟨k', a', n', B3, r3, s3, B4, r4, s4, B', r, s, hkd0⟩ := kid_at (wr := wr) hkids had hg (fun p hp => Lr.out.pk.bx.bel.cell hp)
              have hall : ∀ W, FL w (.int .i64 k) (.int .i64 a) (.string n) (.slice A3 n3 c3) (.slice A4 j c4) (.slice (some ad) m c) (.slice FA FN FC) l1 (.slice SA SN SC) ss W → (W.cell? ⟨w.heap.size, 5, none⟩ = some (.slice (some ad) m c) ∧ W.cell? (ad.add (t * 6)) = some (.int .i64 k') ∧ W.cell? ⟨(ad.add (t * 6)).block, (ad.add (t * 6)).off + 1, none⟩ = some (.int .i64 a') ∧ W.cell? ⟨(ad.add (t * 6)).block, (ad.add (t * 6)).off + 2, none⟩ = some (.string n') ∧ W.cell? ⟨(ad.add (t * 6)).block, (ad.add (t * 6)).off + 3, none⟩ = some (.slice B3 r3 s3) ∧ W.cell? ⟨(ad.add (t * 6)).block, (ad.add (t * 6)).off + 4, none⟩ = some (.slice B4 r4 s4) ∧ W.cell? ⟨(ad.add (t * 6)).block, (ad.add (t * 6)).off + 5, none⟩ = some (.slice B' r s) ∧ FL w (.int .i64 k) (.int .i64 a) (.string n) (.slice A3 n3 c3) (.slice A4 j c4) (.slice (some ad) m c) (.slice FA FN FC) l1 (.slice SA SN SC) ss W) := fun W h => by
                have hkd := (kid_at (wr := W) hkids had hg (fun p hp => h.pk.bx.bel.cell hp))
                have hold : FVal w (· < w.heap.size) g [.int .i64 k', .int .i64 a', .string n', .slice B3 r3 s3, .slice B4 r4 s4, .slice B' r s] := hkd0.old
                obtain ⟨k2, a2, n2, B32, r32, s32, B42, r42, s42, B2, r2, s2, hk2⟩ := hkd
                have h0 := fun i => h.pk.bx.bel.cell (p := ⟨(ad.add (t * 6)).block, (ad.add (t * 6)).off + i, none⟩) (by show (ad.add (t * 6)).block < w.heap.size; rw [block_of_add]; exact had)
                have h00 := h.pk.bx.bel.cell (p := ad.add (t * 6)) (by rw [block_of_add]; exact had)
                have g0 := fun i => Lr.out.pk.bx.bel.cell (p := ⟨(ad.add (t * 6)).block, (ad.add (t * 6)).off + i, none⟩) (by show (ad.add (t * 6)).block < w.heap.size; rw [block_of_add]; exact had)
                have g00 := Lr.out.pk.bx.bel.cell (p := ad.add (t * 6)) (by rw [block_of_add]; exact had)
                exact ⟨h.pk.six.2.2.2.2.2, (h00.trans g00.symm).trans hkd0.c0, ((h0 1).trans (g0 1).symm).trans hkd0.c1, ((h0 2).trans (g0 2).symm).trans hkd0.c2, ((h0 3).trans (g0 3).symm).trans hkd0.c3, ((h0 4).trans (g0 4).symm).trans hkd0.c4, ((h0 5).trans (g0 5).symm).trans hkd0.c5, h⟩
              have hfre : ∀ W, (W.cell? ⟨w.heap.size, 5, none⟩ = some (.slice (some ad) m c) ∧ W.cell? (ad.add (t * 6)) = some (.int .i64 k') ∧ W.cell? ⟨(ad.add (t * 6)).block, (ad.add (t * 6)).off + 1, none⟩ = some (.int .i64 a') ∧ W.cell? ⟨(ad.add (t * 6)).block, (ad.add (t * 6)).off + 2, none⟩ = some (.string n') ∧ W.cell? ⟨(ad.add (t * 6)).block, (ad.add (t * 6)).off + 3, none⟩ = some (.slice B3 r3 s3) ∧ W.cell? ⟨(ad.add (t * 6)).block, (ad.add (t * 6)).off + 4, none⟩ = some (.slice B4 r4 s4) ∧ W.cell? ⟨(ad.add (t * 6)).block, (ad.add (t * 6)).off + 5, none⟩ = some (.slice B' r s) ∧ FL w (.int .i64 k) (.int .i64 a) (.string n) (.slice A3 n3 c3) (.slice A4 j c4) (.slice (some ad) m c) (.slice FA FN FC) l1 (.slice SA SN SC) ss W) → Calls Tryd.prog 13 #[.agg #[.int .i64 k', .int .i64 a', .string n', .slice B3 r3 s3, .slice B4 r4 s4, .slice B' r s]] W fun e w' => ∃ A' n'' c', e = .returned (.slice A' n'' c') ∧ FreeR g W w' (.slice A' n'' c') ∧ (w'.cell? ⟨w.heap.size, 5, none⟩ = some (.slice (some ad) m c) ∧ w'.cell? (ad.add (t * 6)) = some (.int .i64 k') ∧ w'.cell? ⟨(ad.add (t * 6)).block, (ad.add (t * 6)).off + 1, none⟩ = some (.int .i64 a') ∧ w'.cell? ⟨(ad.add (t * 6)).block, (ad.add (t * 6)).off + 2, none⟩ = some (.string n') ∧ w'.cell? ⟨(ad.add (t * 6)).block, (ad.add (t * 6)).off + 3, none⟩ = some (.slice B3 r3 s3) ∧ w'.cell? ⟨(ad.add (t * 6)).block, (ad.add (t * 6)).off + 4, none⟩ = some (.slice B4 r4 s4) ∧ w'.cell? ⟨(ad.add (t * 6)).block, (ad.add (t * 6)).off + 5, none⟩ = some (.slice B' r s) ∧ FL w (.int .i64 k) (.int .i64 a) (.string n) (.slice A3 n3 c3) (.slice A4 j c4) (.slice (some ad) m c) (.slice FA FN FC) l1 (.slice SA SN SC) ss w') := fun W hk =>
                (free_r hgv hk.2.2.2.2.2.2.2.pk.bx.bel.size (hkd0.old.below hk.2.2.2.2.2.2.2.pk.bx.bel)).mono fun e w' h => by
                  obtain ⟨A', n'', c', rfl, h⟩ := h
                  exact ⟨A', n'', c', rfl, h, hall _ (hk.2.2.2.2.2.2.2.step h.1)⟩
              have hsym : ∀ W, (W.cell? ⟨w.heap.size, 5, none⟩ = some (.slice (some ad) m c) ∧ W.cell? (ad.add (t * 6)) = some (.int .i64 k') ∧ W.cell? ⟨(ad.add (t * 6)).block, (ad.add (t * 6)).off + 1, none⟩ = some (.int .i64 a') ∧ W.cell? ⟨(ad.add (t * 6)).block, (ad.add (t * 6)).off + 2, none⟩ = some (.string n') ∧ W.cell? ⟨(ad.add (t * 6)).block, (ad.add (t * 6)).off + 3, none⟩ = some (.slice B3 r3 s3) ∧ W.cell? ⟨(ad.add (t * 6)).block, (ad.add (t * 6)).off + 4, none⟩ = some (.slice B4 r4 s4) ∧ W.cell? ⟨(ad.add (t * 6)).block, (ad.add (t * 6)).off + 5, none⟩ = some (.slice B' r s) ∧ FL w (.int .i64 k) (.int .i64 a) (.string n) (.slice A3 n3 c3) (.slice A4 j c4) (.slice (some ad) m c) (.slice FA FN FC) l1 (.slice SA SN SC) ss W) → Calls Tryd.prog 14 #[.agg #[.int .i64 k', .int .i64 a', .string n', .slice B3 r3 s3, .slice B4 r4 s4, .slice B' r s]] W fun e w' => ∃ A' n'' c', e = .returned (.slice A' n'' c') ∧ SymR g W w' (.slice A' n'' c') ∧ (w'.cell? ⟨w.heap.size, 5, none⟩ = some (.slice (some ad) m c) ∧ w'.cell? (ad.add (t * 6)) = some (.int .i64 k') ∧ w'.cell? ⟨(ad.add (t * 6)).block, (ad.add (t * 6)).off + 1, none⟩ = some (.int .i64 a') ∧ w'.cell? ⟨(ad.add (t * 6)).block, (ad.add (t * 6)).off + 2, none⟩ = some (.string n') ∧ w'.cell? ⟨(ad.add (t * 6)).block, (ad.add (t * 6)).off + 3, none⟩ = some (.slice B3 r3 s3) ∧ w'.cell? ⟨(ad.add (t * 6)).block, (ad.add (t * 6)).off + 4, none⟩ = some (.slice B4 r4 s4) ∧ w'.cell? ⟨(ad.add (t * 6)).block, (ad.add (t * 6)).off + 5, none⟩ = some (.slice B' r s) ∧ FL w (.int .i64 k) (.int .i64 a) (.string n) (.slice A3 n3 c3) (.slice A4 j c4) (.slice (some ad) m c) (.slice FA FN FC) l1 (.slice SA SN SC) ss w') := fun W hk =>
                (sym_r hgv hk.2.2.2.2.2.2.2.pk.bx.bel.size (hkd0.old.below hk.2.2.2.2.2.2.2.pk.bx.bel)).mono fun e w' h => by
                  obtain ⟨A', n'', c', rfl, h⟩ := h
                  exact ⟨A', n'', c', rfl, h, hall _ (hk.2.2.2.2.2.2.2.step h.1)⟩
              have Hall := Lib.hid hall; clear hall hkd0 hkids
              have Hfre := Lib.hid hfre; clear hfre
              have Hsym := Lib.hid hsym; clear hsym
              have Hg := Lib.hid hg; clear hg hgm
              have Hgv := Lib.hid hgv; clear hgv
              go_upto_region 16 with fail
              go_cut [11, 12] from 64 to 75 (fun u v wx => ∃ GA GN GC TA TN TC m1 s2, u = .slice GA GN GC ∧ v = .slice TA TN TC ∧ FM w (.int .i64 k) (.int .i64 a) (.string n) (.slice A3 n3 c3) (.slice A4 j c4) (.slice (some ad) m c) (.slice FA FN FC) l1 (.slice SA SN SC) ss u m1 v s2 wx ∧ Lists g m1 s2)
              case first =>
                go_region_held3 (fun W => W.cell? ⟨w.heap.size, 5, none⟩ = some (.slice (some ad) m c) ∧ W.cell? (ad.add (t * 6)) = some (.int .i64 k') ∧ W.cell? ⟨(ad.add (t * 6)).block, (ad.add (t * 6)).off + 1, none⟩ = some (.int .i64 a') ∧ W.cell? ⟨(ad.add (t * 6)).block, (ad.add (t * 6)).off + 2, none⟩ = some (.string n') ∧ W.cell? ⟨(ad.add (t * 6)).block, (ad.add (t * 6)).off + 3, none⟩ = some (.slice B3 r3 s3) ∧ W.cell? ⟨(ad.add (t * 6)).block, (ad.add (t * 6)).off + 4, none⟩ = some (.slice B4 r4 s4) ∧ W.cell? ⟨(ad.add (t * 6)).block, (ad.add (t * 6)).off + 5, none⟩ = some (.slice B' r s) ∧ FL w (.int .i64 k) (.int .i64 a) (.string n) (.slice A3 n3 c3) (.slice A4 j c4) (.slice (some ad) m c) (.slice FA FN FC) l1 (.slice SA SN SC) ss W)
                  (first
                    | assumption
                    | exact Hall.out _ (Lr.out.step (Below.drew (Below.refl _ _))))
                  (first
                    | (go_at_call 13; refine (Hfre.out _ (by assumption)).mono ?_; rintro e w3 ⟨GA, GN, GC, rfl, hfr, hc3⟩)
                    | (go_at_call 14; refine (Hsym.out _ (by assumption)).mono ?_; rintro e w4 ⟨TA, TN, TC, rfl, hsy, hc4⟩))
                all_goals (
                  go_wp2_with fail
                  go_meet
                  obtain ⟨m1, s2, h1, h2⟩ := FM.of1 (Lr.out.step (Below.drew (Below.refl _ _))) hfr hsy
                  exact ⟨_, _, _, _, _, _, m1, s2, rfl, rfl, h1, h2⟩)
              case rest =>
                obtain ⟨GA, GN, GC, TA, TN, TC, m1, s2, rfl, rfl, hfm, hlg⟩ := hcut
                have M0 := Lib.hid hfm; clear hfm Hfre Hsym Hall e0 e1 e2 e3 e4 e5
                have Hlg := Lib.hid hlg; clear hlg
                have hgn : GN = m1.length := M0.out.kf.length
                have htn : TN = s2.length := by obtain ⟨_, _, _, e, h, -⟩ := M0.out.kt; injection e with _ e _; omega
                have hgb : GN ≤ 1000000 := by have := Hlg.out.fl; omega
                have htb : TN ≤ 1000000 := by have := Hlg.out.sl; omega
                have Hgn := Lib.hid hgn; clear hgn
                have Htn := Lib.hid htn; clear htn
                go_wp2
                go_loopw [8, 13] (fun u i wx => ∃ q : Nat, q ≤ GN ∧ u = .int .i64 ((j + d1.length + q : Nat) : Int) ∧ i = .int .i64 q ∧ FM w (.int .i64 k) (.int .i64 a) (.string n) (.slice A3 n3 c3) (.slice A4 j c4) (.slice (some ad) m c) (.slice FA FN FC) l1 (.slice SA SN SC) ss (.slice GA GN GC) m1 (.slice TA TN TC) s2 wx) (fun _ i _ => GN - (intOf i).toNat)
                case atStart => exact ⟨0, Nat.zero_le _, rfl, rfl, M0.out⟩
                case round =>
                  obtain ⟨q, hq, rfl, rfl, hm⟩ := hrel
                  have M1 := Lib.hid hm; clear hm
                  by_cases hqn : q < GN
                  · obtain ⟨ad2, x, rfl, had2, hx, hcx, -⟩ := M1.out.kf.at_ hqn
                    have hxg : Fo.freeB x g = true := (Hlg.out.fm x).1 (List.mem_of_getElem? hx)
                    have hxf : x ∈ ws ∨ x ∈ l1 := by
                      by_cases hw1 : x ∈ ws
                      · exact .inl hw1
                      · exact .inr ((Hls.out.fm x).2 (by rw [Hfe.out]; exact Fo.free_kids.2 (.inr ⟨hw1, g, List.mem_of_getElem? Hg.out, hxg⟩)))
                    have hbelw : Below w.heap.size w wr := M1.out.fl.pk.bx.bel
                    have hamv : ∀ nq, Calls Tryd.prog 16 #[.slice A3 n3 c3, .string x] (wr.drewN nq) fun e w' => e = .returned (.bool (decide (x ∈ ws))) ∧ wr.drewN nq = w' := fun nq =>
                      famong_any _ ws x _ _ ((H3.out.below hbelw).drewN nq)
                    have hamf : ∀ nq, Calls Tryd.prog 16 #[.slice FA FN FC, .string x] (wr.drewN nq) fun e w' => e = .returned (.bool (decide (x ∈ l1))) ∧ wr.drewN nq = w' := fun nq =>
                      famong_any _ l1 x _ _ (M1.out.fl.fr.drewN nq)
                    have c3 := M1.out.fl.pk.six.2.2.2.1
                    clear hxg hx hbelw
                    have hcase : (x ∈ ws) ∨ (x ∉ ws ∧ x ∈ l1) := by
                      by_cases hw1 : x ∈ ws
                      · exact .inl hw1
                      · exact .inr ⟨hw1, hxf.resolve_left hw1⟩
                    clear hxf
                    rcases hcase with hx1 | ⟨hx0, hx1⟩
                    · rw [decide_eq_true hx1] at hamv
                      have Hamv := Lib.hid hamv; clear hamv hamf hx1
                      go_wp2
                      go_quiet ((go_at_call 16; exact quiet_left (Hamv.out _)))
                      go_wp2
                      exact ⟨⟨q + 1, by omega, by go_num, by go_num, M1.out.step (below_drewN (Below.refl _ _) _)⟩, by simp [intOf]; omega⟩
                    · rw [decide_eq_false hx0] at hamv
                      rw [decide_eq_true hx1] at hamf
                      have Hamv := Lib.hid hamv; clear hamv hx0 hx1
                      have Hamf := Lib.hid hamf; clear hamf
                      go_wp2
                      go_quiet ((go_at_call 16; first | (with_reducible exact quiet_left (Hamv.out _)) | (with_reducible exact quiet_left (Hamf.out _))))
                      go_wp2
                      exact ⟨⟨q + 1, by omega, by go_num, by go_num, M1.out.step (below_drewN (Below.refl _ _) _)⟩, by simp [intOf]; omega⟩
                  · obtain rfl : q = GN := by omega
                    obtain ⟨FF, hFF⟩ : ∃ FF : Int, FF = ((j + d1.length + q : Nat) : Int) := ⟨_, rfl⟩
                    rw [← hFF]
                    have HFF := Lib.hid hFF; clear hFF
                    go_wp2
                    go_loopw [9, 14] (fun v i wx => ∃ r : Nat, r ≤ TN ∧ v = .int .i64 ((k0 + d2.length + r : Nat) : Int) ∧ i = .int .i64 r ∧ FM w (.int .i64 k) (.int .i64 a) (.string n) (.slice A3 n3 c3) (.slice A4 j c4) (.slice (some ad) m c) (.slice FA FN FC) l1 (.slice SA SN SC) ss (.slice GA q GC) m1 (.slice TA TN TC) s2 wx) (fun _ i _ => TN - (intOf i).toNat)
                    case atStart => exact ⟨0, Nat.zero_le _, rfl, rfl, M1.out⟩
                    case round =>
                      obtain ⟨r', hr, rfl, rfl, hm⟩ := hrel
                      clear M1
                      have M2 := Lib.hid hm; clear hm
                      by_cases hrn : r' < TN
                      · obtain ⟨ad3, p, rfl, had3, hp, hq0, hq1⟩ := M2.out.kt.at_ hrn
                        obtain ⟨pn, pa⟩ := p
                        have hpo : (pn, pa) ∈ Fo.occF g [] := (Hlg.out.sm _).1 (List.mem_of_getElem? hp)
                        have hk0 : k ≠ 0 := (Fo.valid_kid fitK (by have := Hv.out; rw [Hfe.out] at this; exact this) (List.mem_of_getElem? Hg.out)).1
                        have hin : ¬ (Fo.bindsB k = true ∧ pn = n) → (pn, pa) ∈ ss := fun h => (Hls.out.sm _).2 (by rw [Hfe.out]; exact (Fo.occ_kids hk0 _).2 ⟨g, List.mem_of_getElem? Hg.out, hpo, h⟩)
                        have c2 := M2.out.fl.pk.six.2.2.1
                        have Hp0 := Lib.hid hp
                        clear hpo hp hk0
                        have Hin := Lib.hid hin; clear hin
                        have hall : ∀ W, FM w (.int .i64 k) (.int .i64 a) (.string n) (.slice A3 n3 c3) (.slice A4 j c4) (.slice (some ad) m c) (.slice FA FN FC) l1 (.slice SA SN SC) ss (.slice GA q GC) m1 (.slice (some ad3) TN TC) s2 W → W.cell? (ad3.add (r' * 2)) = some (.string pn) ∧ W.cell? ⟨(ad3.add (r' * 2)).block, (ad3.add (r' * 2)).off + 1, none⟩ = some (.int .i64 pa) ∧ W.cell? ⟨w.heap.size, 2, none⟩ = some (.string n) ∧ FM w (.int .i64 k) (.int .i64 a) (.string n) (.slice A3 n3 c3) (.slice A4 j c4) (.slice (some ad) m c) (.slice FA FN FC) l1 (.slice SA SN SC) ss (.slice GA q GC) m1 (.slice (some ad3) TN TC) s2 W := fun W h => by
                          obtain ⟨ad4, p', he, -, hp', g0, g1⟩ := h.kt.at_ hrn
                          obtain rfl := Option.some.inj he
                          obtain rfl : (pn, pa) = p' := Option.some.inj (Hp0.out.symm.trans hp')
                          exact ⟨g0, g1, h.fl.pk.six.2.2.1, h⟩
                        have hhas : (pn, pa) ∈ ss → ∀ W, (W.cell? (ad3.add (r' * 2)) = some (.string pn) ∧ W.cell? ⟨(ad3.add (r' * 2)).block, (ad3.add (r' * 2)).off + 1, none⟩ = some (.int .i64 pa) ∧ W.cell? ⟨w.heap.size, 2, none⟩ = some (.string n) ∧ FM w (.int .i64 k) (.int .i64 a) (.string n) (.slice A3 n3 c3) (.slice A4 j c4) (.slice (some ad) m c) (.slice FA FN FC) l1 (.slice SA SN SC) ss (.slice GA q GC) m1 (.slice (some ad3) TN TC) s2 W) → Calls Tryd.prog 17 #[.slice SA SN SC, .agg #[.string pn, .int .i64 pa]] W fun e w' => e = .returned (.bool true) ∧ (w'.cell? (ad3.add (r' * 2)) = some (.string pn) ∧ w'.cell? ⟨(ad3.add (r' * 2)).block, (ad3.add (r' * 2)).off + 1, none⟩ = some (.int .i64 pa) ∧ w'.cell? ⟨w.heap.size, 2, none⟩ = some (.string n) ∧ FM w (.int .i64 k) (.int .i64 a) (.string n) (.slice A3 n3 c3) (.slice A4 j c4) (.slice (some ad) m c) (.slice FA FN FC) l1 (.slice SA SN SC) ss (.slice GA q GC) m1 (.slice (some ad3) TN TC) s2 w') := fun h W hm =>
                          (fhas_any (.slice SA SN SC) ss pn pa W W.heap.size (Nat.le_refl _) hm.2.2.2.fl.sy h).mono fun e w' hh => ⟨hh.1, hall _ (hm.2.2.2.step hh.2)⟩
                        have Hhas := Lib.hid hhas; clear hhas
                        have Hall := Lib.hid hall; clear hall
                        cases hbk : Fo.bindsB k
                        · have Hp := Lib.hid (Hin.out (by rw [hbk]; simp)); clear Hin
                          have Hbk := Lib.hid hbk; clear hbk
                          have Md := Lib.hid (M2.out.step (Below.drew (Below.refl _ _)))
                          have hS := Hall.out _ Md.out
                          have Hcall := Lib.hid (Hhas.out Hp.out _ hS)
                          have HS := Lib.hid hS; clear hS had3 Hhas Hp Hp0 Hall
                          go_wp2
                          refine region_quiet_tail 18 (by kernel_rfl) (by kernel_rfl) ?_
                          simp only [List.take_succ_cons, List.take_zero, List.drop_succ_cons, List.drop_zero]
                          repeat (go_big_quiet_step (fail))
                          refine wpQuiet_nil ?_
                          clear c2 M2 hq0 hq1
                          obtain ⟨f0, f1, f2, -⟩ := HS.out
                          clear HS
                          show wpList _ _ _ _ _ wr.drew
                          generalize wr.drew = wd at *
                          go_wp2_with (go_at_call 17
                                       refine (Hcall.out).mono ?_
                                       rintro e w1 ⟨rfl, -, -, -, hm3⟩
                                       have M3 := Lib.hid hm3; clear hm3 Md Hcall f0 f1 f2)
                          exact ⟨⟨r' + 1, by omega, by go_num, by go_num, M3.out⟩, by simp [intOf]; omega⟩
                        · by_cases hpn : pn = n
                          · subst hpn
                            clear Hhas Hin Hall Hp0
                            have Hbk := Lib.hid hbk; clear hbk
                            go_wp2
                            go_big_quiet (fail)
                            go_wp2
                            exact ⟨⟨r' + 1, by omega, by go_num, by go_num, M2.out.step (below_drewN (Below.refl _ _) _)⟩, by simp [intOf]; omega⟩
                          · have Hp := Lib.hid (Hin.out (by rw [hbk]; simp [hpn])); clear Hin
                            have Hbk := Lib.hid hbk; clear hbk
                            have hbq := ne_bytes hpn
                            have Md := Lib.hid (M2.out.step (Below.drew (Below.refl _ _)))
                            have hS := Hall.out _ Md.out
                            have Hcall := Lib.hid (Hhas.out Hp.out _ hS)
                            have HS := Lib.hid hS; clear hS had3 Hhas Hp Hp0 Hall
                            go_wp2
                            refine region_quiet_tail 18 (by kernel_rfl) (by kernel_rfl) ?_
                            simp only [List.take_succ_cons, List.take_zero, List.drop_succ_cons, List.drop_zero]
                            repeat (go_big_quiet_step (fail))
                            refine wpQuiet_nil ?_
                            clear c2 M2 hq0 hq1
                            obtain ⟨f0, f1, f2, -⟩ := HS.out
                            clear HS
                            show wpList _ _ _ _ _ wr.drew
                            generalize wr.drew = wd at *
                            go_wp2_with (go_at_call 17
                                         refine (Hcall.out).mono ?_
                                         rintro e w1 ⟨rfl, -, -, -, hm3⟩
                                         have M3 := Lib.hid hm3; clear hm3 Md Hcall f0 f1 f2)
                            exact ⟨⟨r' + 1, by omega, by go_num, by go_num, M3.out⟩, by simp [intOf]; omega⟩
                      · obtain rfl : r' = TN := by omega
                        go_wp2
                        refine ⟨⟨t + 1, d1 ++ m1, d2 ++ s2, by omega, congrArg (Value.int .i64) (by have := Hgn.out; have := HFF.out; simp only [List.length_append]; omega), congrArg (Value.int .i64) (by have := Htn.out; simp only [List.length_append]; omega), by go_num, Hdn.out.snoc Hg.out Hlg.out, M2.out.fl⟩, by simp [intOf]; omega⟩
            · obtain rfl : t = m := by omega
              obtain ⟨hc1, hc2⟩ := Done.counts Hfe.out Hv.out Hls.out (by have := Hdn.out; rw [Hmk.out] at this; exact this)
              rw [← Hk0.out, ← Hsn.out] at hc2
              have hal := H4.out.length
              rw [← hal, ← Hfn.out] at hc1
              have hc1i : (FN : Int) ≤ ((j + d1.length : Nat) : Int) := by omega
              have hc2i : (SN : Int) ≤ ((k0 + d2.length : Nat) : Int) := by omega
              clear Hdn hal L6 hc1 hc2
              generalize ((j + d1.length : Nat) : Int) = FF at *
              generalize ((k0 + d2.length : Nat) : Int) = NN at *
              go_wp2
              go_loopw [15] (fun i wx => ∃ q : Nat, (q < FN ∨ q = 0) ∧ i = .int .i64 ((q : Int) + 1) ∧ FL w (.int .i64 k) (.int .i64 a) (.string n) (.slice A3 n3 c3) (.slice A4 j c4) (.slice A t c) (.slice FA FN FC) l1 (.slice SA SN SC) ss wx) (fun i _ => FN - (intOf i).toNat)
              case atStart => exact ⟨0, .inr rfl, rfl, Lr.out⟩
              case round =>
                obtain ⟨q, hq2, rfl, hm⟩ := hrel
                have M5 := Lib.hid hm; clear hm Lr e0 e1 e2 e3 e4 e5
                by_cases hqn : q + 1 < FN
                · obtain ⟨ad2, y, rfl, had2, hy, hcy, -⟩ := M5.out.fr.at_ hqn
                  obtain ⟨ad2', x, he, -, hx, hcx, -⟩ := M5.out.fr.at_ (show q < FN by omega)
                  obtain rfl := Option.some.inj he
                  have hxy : x.toList < y.toList := by
                    obtain ⟨h1, rfl⟩ := List.getElem?_eq_some_iff.1 hx
                    obtain ⟨h2, rfl⟩ := List.getElem?_eq_some_iff.1 hy
                    exact List.pairwise_iff_getElem.1 Hls.out.fp q (q + 1) h1 h2 (by omega)
                  have hbl : Op.bytesLess x.toList y.toList = true := by rw [bytesLess_eq]; exact decide_eq_true hxy
                  clear hy hx hxy he
                  have hqi : (q : Int) + 1 < (FN : Int) := by omega
                  have hq0 : q < FN := by omega
                  have hcy2 : wr.cell? ⟨ad2.block, ad2.off + (q + 1), none⟩ = some (.string y) := by rw [← hcy]; simp [Addr.add]
                  go_wp2
                  have hwq2 : IntKind.i64.wrap (q : Int) = (q : Int) := IntWalk.i64_in _ (by omega)
                  go_big_quiet (fail)
                  go_wp2
                  exact ⟨⟨q + 1, .inl (by omega), by go_num, M5.out.step (below_drewN (Below.refl _ _) _)⟩, by simp [intOf]; omega⟩
                · clear hq2
                  go_wp2
                  go_loopw [16] (fun i wx => ∃ q : Nat, (q < SN ∨ q = 0) ∧ i = .int .i64 ((q : Int) + 1) ∧ FL w (.int .i64 k) (.int .i64 a) (.string n) (.slice A3 n3 c3) (.slice A4 j c4) (.slice A t c) (.slice FA FN FC) l1 (.slice SA SN SC) ss wx) (fun i _ => SN - (intOf i).toNat)
                  case atStart => exact ⟨0, .inr rfl, rfl, M5.out⟩
                  case round =>
                    obtain ⟨q2, hq2, rfl, hm⟩ := hrel
                    clear M5
                    have M6 := Lib.hid hm; clear hm hqn
                    by_cases hqn2 : q2 + 1 < SN
                    · obtain ⟨ad3, y, rfl, had3, hy, hcy, -⟩ := M6.out.sy.at_ hqn2
                      obtain ⟨ad3', x, he, -, hx, hcx, -⟩ := M6.out.sy.at_ (show q2 < SN by omega)
                      obtain rfl := Option.some.inj he
                      have hxy : x.1.toList < y.1.toList := by
                        obtain ⟨h1, rfl⟩ := List.getElem?_eq_some_iff.1 hx
                        obtain ⟨h2, rfl⟩ := List.getElem?_eq_some_iff.1 hy
                        exact List.pairwise_iff_getElem.1 Hls.out.sp q2 (q2 + 1) h1 h2 (by omega)
                      obtain ⟨xn, xa⟩ := x
                      obtain ⟨yn, ya⟩ := y
                      have hbl : Op.bytesLess xn.toList yn.toList = true := by rw [bytesLess_eq]; exact decide_eq_true hxy
                      clear hy hx hxy he
                      have hqi : (q2 : Int) + 1 < (SN : Int) := by omega
                      have hq0 : q2 < SN := by omega
                      have hcy2 : wr.cell? ⟨ad3.block, ad3.off + (q2 + 1) * 2, none⟩ = some (.string yn) := by rw [← hcy]; simp [Addr.add]
                      go_wp2
                      have hwq2 : IntKind.i64.wrap (q2 : Int) = (q2 : Int) := IntWalk.i64_in _ (by omega)
                      go_big_quiet (fail)
                      go_wp2
                      exact ⟨⟨q2 + 1, .inl (by omega), by go_num, M6.out.step (below_drewN (Below.refl _ _) _)⟩, by simp [intOf]; omega⟩
                    · have ha := falive_any wr M6.out.pk.wds
                      have Ha := Lib.hid ha; clear ha hq2
                      go_wp2_with (go_at_call 7
                                   refine (Ha.out).mono ?_
                                   rintro e w10 ⟨rfl, hb10⟩
                                   have M7 := Lib.hid (M6.out.step hb10); clear hb10 M6 Ha)
                      go_ret
                      exact ⟨rfl, M7.out.pk.bx.bel⟩

end Go.Proofs.YtmnpelhcgobfaaaDoor

/-
  What closes a law of chapter 2: the listed variables' facts, the arguments as numbers and lists, the post-condition 'true, and every argument reads as it did', the witness's world.
-/
namespace Go.Proofs.YtmnpelhcgobfaaaDoor
open Go.ChangeShapes Go.WideShapes Go.ChangeAt Go.RowKit

theorem own : ownKnob Tryd.prog.godebug = none := by kernel_rfl
theorem laidOut : laidOutB Tryd.prog = true := by kernel_rfl
theorem star : "*" ++ "errors.errorString" = "*errors.errorString" := by decide
theorem rowErr (u : TypeId) (h : Tryd.prog.typeName? 3 u = some "*errors.errorString") : u = 148 :=
  typeName_ptr_named (nm := "errors.errorString") (by rw [star]; kernel_rfl) (by kernel_rfl) (by decide) u (by rw [star]; exact h)

def laidList : List (String × DataW Unit) := [("math/bits.deBruijn32tab", Rows.laid_math_bits_deBruijn32tab), ("math/bits.deBruijn64tab", Rows.laid_math_bits_deBruijn64tab), ("internal/strconv.uint64pow10", Rows.laid_internal_strconv_uint64pow10), ("strconv.ErrRange", Rows.laid_strconv_ErrRange), ("strconv.ErrSyntax", Rows.laid_strconv_ErrSyntax), ("paraphrast/formula.words", Rows.laid_paraphrast_formula_words)]

theorem words_len : wordsB.length = 12 := rfl
theorem words_lit : (Rows.laid_paraphrast_formula_words : DataW Unit) = .agg (wordsB.map fun s => .lit (.string s.data.toList)) := by kernel_rfl

set_option maxRecDepth 100000 in
theorem words_of_laid {W : World} (h : laidMet Tryd.prog laidList W) : HasW W := by
  obtain ⟨ps, ⟨g, t, cs, fuel, p, q, hg, ht, hv, htr, -⟩, -⟩ := h.tail.tail.tail.tail.tail
  have hg' : Tryd.prog.globalNamed "paraphrast/formula.words" = some 0 := by kernel_rfl
  obtain rfl := Option.some.inj (hg'.symm.trans hg)
  have ht' : (Tryd.prog.globals[0]?).map (·.type) = some 94 := by kernel_rfl
  obtain rfl := Option.some.inj (ht'.symm.trans ht)
  unfold World.var? at hv
  rw [hg', Option.bind_some] at hv
  have hb : ∃ t2 f2, W.heap[0]? = some (.cells cs t2 f2) := by
    split at hv
    · rename_i c2 t2 f2 he
      have e := Option.some.inj hv
      subst e
      exact ⟨t2, f2, he⟩
    · cases hv
  obtain ⟨t2, f2, he⟩ := hb
  have hlt : 0 < W.heap.size := by
    rcases Nat.lt_or_ge 0 W.heap.size with hz | hz
    · exact hz
    · rw [Array.getElem?_eq_none hz] at he; cases he
  refine ⟨fun j s hj => ?_, hlt⟩
  obtain ⟨xs, m, -, hx, hcl, hxl, hel⟩ := DataW.trod_array Tryd.underlying94 htr
  simp only [Prod.mk.injEq] at hx
  rw [words_lit] at hx
  have hx1 := hx.1
  injection hx1 with hx1
  have hj12 : j < 12 := by
    rcases Nat.lt_or_ge j 12 with h | h
    · exact h
    · rw [List.getElem?_eq_none (by rw [words_len]; exact h)] at hj; cases hj
  have h1 := hel j hj12
  rw [show Tryd.prog.cellsOf 9 = 1 by kernel_rfl, Nat.mul_one, List.getElem?_eq_getElem (by omega)] at h1
  obtain ⟨s', e0, e1, -⟩ := DataW.trod_string Tryd.underlying9 h1
  have e2 : (xs.map (·.1))[j]? = some (.lit (.string s'.data.toList)) := by
    rw [List.getElem?_map, List.getElem?_eq_getElem (by omega), Option.map_some, e1]
  rw [← hx1, List.getElem?_map, hj, Option.map_some] at e2
  have e3 : s.data.toList = s'.data.toList := by simpa using e2
  have e4 : s = s' := WideShapes.bytes_inj e3
  subst e4
  have hcs : cs[j]? = some (.string s) := by
    have h2 : (cs.toList.drop j).head? = some (.string s) := by
      have h3 : ((cs.toList.drop j).take 1).head? = some (.string s) := by rw [e0]; rfl
      rw [List.head?_take] at h3
      simpa using h3
    rw [List.head?_drop] at h2
    simpa using h2
  unfold World.cell?
  rw [he]
  simpa using hcs

theorem cellLt {w : World} {a : Addr} {v : Value} (h : w.cell? a = some v) : a.block < w.heap.size := by
  rcases Nat.lt_or_ge a.block w.heap.size with h' | h'
  · exact h'
  · unfold World.cell? at h
    rw [Array.getElem?_eq_none h'] at h
    cases h

section
variable {H : Type} {enc : TypeId × Value → H} {W W' : World}

/-- Every argument reads as it did, where below the heap's old size nothing has turned. -/
theorem args_keep (hb : Below W.heap.size W W') (sp : Nat → Bool) : ∀ (ts : List TypeId) (vs : List Value) (ds : List (DataW H)) (p : List MemPlace), DataW.TrodAll enc Tryd.prog W 0 (fun _ => true) true ts vs ds p →
    (∀ t ∈ ts, Tryd.prog.readableRec t = true ∧ t < Tryd.prog.types.size) → (∀ x ∈ p, x.block < W.heap.size) → (∀ x ∈ p, sp x.block = true) → DataW.TrodAll enc Tryd.prog W' 0 sp true ts vs ds p
  | [], vs, ds, p, h, _, _, _ => by
    obtain ⟨rfl, rfl, rfl⟩ := trodAll_nil h
    exact trodAll_mk0
  | t :: ts, vs, ds, p, h, hr, hl, hs => by
    obtain ⟨v0, vs0, d0, ds0, p0, q0, rfl, rfl, rfl, h0, r0⟩ := trodAll_cons h
    have ht := hr t (List.mem_cons_self ..)
    exact trodAll_cons_mk (WideElems.Trod_stays laidOut ht.1 ht.2 h0 (fun x hx => hb.same (hl x (List.mem_append_left _ hx))) (fun x hx => hs x (List.mem_append_left _ hx)))
      (args_keep hb sp ts vs0 ds0 q0 r0 (fun u hu => hr u (List.mem_cons_of_mem _ hu)) (fun x hx => hl x (List.mem_append_right _ hx)) (fun x hx => hs x (List.mem_append_right _ hx)))

theorem trodVars_nil_mk {sp : Nat → Bool} : DataW.TrodVars enc Tryd.prog W' sp [] [] [] := rfl

set_option maxRecDepth 100000 in
/-- The post-condition of every row here. -/
theorem post_true {f : Func} {s : ChangeSpec} {apart fresh handsOn again : Bool} {args : Array Value} {ds gs : List (DataW H)} {before : List MemPlace}
    (hf : f.resultTypes = #[4]) (hv : s.vars = []) (hs : s.fn H (ds ++ gs) = { results := [.lit (.bool true)], args := ds })
    (hr : ∀ t ∈ f.params.toList, Tryd.prog.readableRec t = true ∧ t < Tryd.prog.types.size)
    (hW : DataW.Whole enc Tryd.prog f.params.toList s.vars apart W args.toList ds gs before) (hb : Below W.heap.size W W') :
    s.post enc Tryd.prog f apart fresh handsOn again W args (.bool true) W' := by
  have hlt : ∀ x ∈ before, x.block < W.heap.size := fun x hx => hW.lt x hx
  have hW' := hW
  obtain ⟨p, q, hA, hV, hpq, hz, hn⟩ := hW
  rw [hv] at hV
  obtain ⟨rfl, rfl⟩ := trodVars_none hV
  rw [List.append_nil] at hpq
  subst hpq
  have hret : ∀ (b : Nat) (sp : Nat → Bool) (hd : Bool), DataW.TrodAll enc Tryd.prog W' b sp hd f.resultTypes.toList ((Value.bool true).resultList f.resultTypes.size) (s.fn H (ds ++ [])).results [] := fun b sp hd => by
    rw [hf, hs]; exact trodAll_cons_mk (shut_bool Tryd.underlying4 _) trodAll_mk0
  have hin : ∀ sp : Nat → Bool, (∀ x ∈ before, sp x.block = true) → DataW.TrodAll enc Tryd.prog W' 0 sp true f.params.toList args.toList (s.fn H (ds ++ [])).args before := fun sp hsp => by
    rw [hs]; exact args_keep hb sp _ _ _ _ hA hr hlt hsp
  have hvr : ∀ sp : Nat → Bool, DataW.TrodVars enc Tryd.prog W' sp s.vars (s.fn H (ds ++ [])).vars [] := fun sp => by
    rw [hs, hv]; exact trodVars_nil_mk
  have hok : ∀ (j : Nat) (t : TypeId) (r : Value), f.resultTypes[j]? = some t → ((Value.bool true).resultList f.resultTypes.size)[j]? = some r → Value.okWide Tryd.prog W' .any 0 t r :=
by
    intro j t r hj hr'
    rw [hf] at hj hr'
    match j, hj, hr' with
    | 0, hj, hr' =>
      simp [Value.resultList] at hj hr'
      subst hj; subst hr'
      exact okWide_bool_mk Tryd.underlying4 _
    | j + 1, hj, _ => simp at hj
  refine ⟨ds, [], before, [], before, [], hW', hret _ _ _, hin _ (fun x hx => by simpa using hlt x hx), hvr _, World.keptBut_mono (fun x hx => ⟨hx, Or.inr (by simpa using hx)⟩) (hb.frame (· ∈ before)), fun _ => ?_⟩
  refine ⟨hok, _, _, ([] ++ before) ++ [], ⟨[] ++ before, [], trodAll_append (hin _ (fun _ _ => rfl)) (hret _ _ _), hvr _, rfl, ?_, ?_⟩, ?_⟩
  · intro b off hp
    have hp' : MemPlace.cell b off ∈ before := by simpa using hp
    rw [hb.frozen (hlt _ hp')]
    exact hz b off hp'
  · intro ha
    simpa using hn ha
  · intro x hx _
    simpa using hx

end

end Go.Proofs.YtmnpelhcgobfaaaDoor

/-
  An argument as a formula.
-/
namespace Go.Proofs.YtmnpelhcgobfaaaDoor
open Go.ChangeShapes Go.WideShapes Go.ChangeAt Go.RowKit Go.Deep
open Fo (F)

section
variable {H : Type} {enc : TypeId × Value → H} {W : World}

/-- No list is longer than the machine's reach. -/
def Fits (t : TypeId) (d : DataW H) : Prop := ∀ n ∈ d.weights Tryd.prog t, n ≤ 140737488351232

theorem weights_all {t : TypeId} {n : Nat} : ∀ {l : List (DataW H)} {i : Nat} {d : DataW H}, l[i]? = some d → n ∈ d.weights Tryd.prog t → n ∈ DataW.weightsAll Tryd.prog t l
  | [], i, d, h, _ => by simp at h
  | x :: l, 0, d, h, hn => by
    simp at h; subst h
    unfold DataW.weightsAll
    exact List.mem_append_left _ hn
  | x :: l, i + 1, d, h, hn => by
    unfold DataW.weightsAll
    exact List.mem_append_right _ (weights_all (by simpa using h) hn)
theorem Fits.elem {t e : TypeId} {es sp : List (DataW H)} (hu : Tryd.prog.underlying t = some (.slice e)) (h : Fits t (.slice es sp)) {i : Nat} {d : DataW H} (hd : es[i]? = some d) : Fits e d := fun n hn =>
  h n (by
    simp only [DataW.weights, hu]
    exact List.mem_cons_of_mem _ (List.mem_append_left _ (weights_all hd hn)))
theorem Fits.len {t e : TypeId} {es sp : List (DataW H)} (hu : Tryd.prog.underlying t = some (.slice e)) (h : Fits t (.slice es sp)) : (es.length + sp.length) * Tryd.prog.bytesOf e ≤ 140737488351232 :=
  h _ (by simp only [DataW.weights, hu]; exact List.mem_cons_self ..)
theorem Fits.str {t : TypeId} {l : List UInt8} (h : Fits (H := H) t (.lit (.string l))) : l.length ≤ 140737488351232 := h _ (by simp only [DataW.weights]; exact List.mem_cons_self ..)

theorem exists_list {α : Type} {Q : Nat → α → Prop} : ∀ (n : Nat), (∀ i, i < n → ∃ a, Q i a) → ∃ l : List α, l.length = n ∧ ∀ i a, l[i]? = some a → Q i a
  | 0, _ => ⟨[], rfl, fun i a h => by simp at h⟩
  | n + 1, h => by
    obtain ⟨l, hl, hq⟩ := exists_list n (fun i hi => h i (by omega))
    obtain ⟨a, ha⟩ := h n (by omega)
    refine ⟨l ++ [a], by simp [hl], fun i x hx => ?_⟩
    by_cases hi : i < l.length
    · rw [List.getElem?_append_left hi] at hx
      exact hq i x hx
    · rw [List.getElem?_append_right (by omega)] at hx
      have : i = l.length := by
        rcases Nat.eq_or_lt_of_le (Nat.le_of_not_lt hi) with e | e
        · exact e.symm
        · rw [List.getElem?_eq_none (by simp; omega)] at hx; cases hx
      subst this
      simp at hx
      subst hx
      rw [hl]
      exact ha

set_option maxRecDepth 100000 in
theorem strs_read {fuel : Nat} {cs : List Value} {y : DataW H × List MemPlace} (h : DataW.trod enc Tryd.prog W 0 (fun _ => true) true fuel 28 cs = some y) (hz : Fits 28 y.1) : ∃ v l, cs = [v] ∧ Strs W (· < W.heap.size) v l := by
  rcases DataW.trod_slice Tryd.underlying28 h with ⟨hcs, hx⟩ | ⟨ad, len, cap, es, rest, n, _, hcs, hx, _, hlc, _, hel, hes, _, _⟩
  · exact ⟨_, [], hcs, Strs.nil⟩
  · subst hx
    have hb := Fits.len Tryd.underlying28 hz
    rw [show Tryd.prog.bytesOf 9 = 16 by kernel_rfl] at hb
    simp only [List.length_map] at hb
    have each : ∀ i, i < len → ∃ s : ByteArray, W.cell? (ad.add i) = some (.string s) ∧ s.size ≤ 140737488351232 := fun i hi => by
      have h1 := hes i hi
      rw [show Tryd.prog.cellsOf 9 = 1 by kernel_rfl, Nat.mul_one, List.getElem?_eq_getElem (by omega)] at h1
      obtain ⟨c, hc, h2⟩ := Option.bind_eq_some_iff.1 h1
      obtain ⟨s, rfl, e1, -⟩ := DataW.trod_string Tryd.underlying9 h2
      have hf := Fits.elem Tryd.underlying28 hz (i := i) (by rw [List.getElem?_map, List.getElem?_eq_getElem (by omega)]; rfl)
      rw [e1] at hf
      exact ⟨s, cell_of_cells?_one hc, by simpa using hf.str⟩
    obtain ⟨l, hl, hq⟩ := exists_list len each
    refine ⟨_, l, hcs, _, _, _, rfl, hl.symm, by omega, hlc, fun s hs => ?_, fun hn => ⟨ad, rfl, ?_, fun j s hs => (hq j s hs).1⟩⟩
    · obtain ⟨j, hj, rfl⟩ := List.mem_iff_getElem.1 hs
      exact (hq j _ (List.getElem?_eq_getElem hj)).2
    · obtain ⟨s, hc, _⟩ := each 0 hn
      have h0 := cellLt hc
      rw [block_of_add] at h0
      exact h0

theorem trod_struct6 {t : TypeId} {f0 f1 f2 f3 f4 f5 : Field} {fuel : Nat} {cs : List Value} {x : DataW H × List MemPlace} (ht : Tryd.prog.underlying t = some (.struct #[f0, f1, f2, f3, f4, f5])) (h : DataW.trod enc Tryd.prog W 0 (fun _ => true) true fuel t cs = some x) :
    ∃ y0 y1 y2 y3 y4 y5 n, fuel = n + 1 ∧ x.1 = .agg [y0.1, y1.1, y2.1, y3.1, y4.1, y5.1] ∧ cs.length = Tryd.prog.cellsOf t ∧
      DataW.trod enc Tryd.prog W 0 (fun _ => true) true n f0.type ((cs.drop f0.offset).take (Tryd.prog.cellsOf f0.type)) = some y0 ∧ DataW.trod enc Tryd.prog W 0 (fun _ => true) true n f1.type ((cs.drop f1.offset).take (Tryd.prog.cellsOf f1.type)) = some y1 ∧
      DataW.trod enc Tryd.prog W 0 (fun _ => true) true n f2.type ((cs.drop f2.offset).take (Tryd.prog.cellsOf f2.type)) = some y2 ∧ DataW.trod enc Tryd.prog W 0 (fun _ => true) true n f3.type ((cs.drop f3.offset).take (Tryd.prog.cellsOf f3.type)) = some y3 ∧
      DataW.trod enc Tryd.prog W 0 (fun _ => true) true n f4.type ((cs.drop f4.offset).take (Tryd.prog.cellsOf f4.type)) = some y4 ∧ DataW.trod enc Tryd.prog W 0 (fun _ => true) true n f5.type ((cs.drop f5.offset).take (Tryd.prog.cellsOf f5.type)) = some y5 := by
  obtain ⟨xs, n, hn, rfl, hl, hlen, hf⟩ := DataW.trod_struct ht h
  match xs, hlen with
  | [y0, y1, y2, y3, y4, y5], _ => exact ⟨y0, y1, y2, y3, y4, y5, n, hn, by simp, hl, by simpa using hf 0 f0 rfl, by simpa using hf 1 f1 rfl, by simpa using hf 2 f2 rfl, by simpa using hf 3 f3 rfl, by simpa using hf 4 f4 rfl, by simpa using hf 5 f5 rfl⟩

theorem FKids.mk {S : Nat → Prop} {ad : Addr} : ∀ (l : List FB) (j : Nat), (∀ i f, l[i]? = some f → ∃ x0 x1 x2 x3 x4 x5, W.cell? (ad.add ((j + i) * 6)) = some x0 ∧ W.cell? (ad.add ((j + i) * 6 + 1)) = some x1 ∧ W.cell? (ad.add ((j + i) * 6 + 2)) = some x2 ∧
      W.cell? (ad.add ((j + i) * 6 + 3)) = some x3 ∧ W.cell? (ad.add ((j + i) * 6 + 4)) = some x4 ∧ W.cell? (ad.add ((j + i) * 6 + 5)) = some x5 ∧ FVal W S f [x0, x1, x2, x3, x4, x5]) → FKids W S ad l j
  | [], j, _ => trivial
  | f :: l, j, h => by
    unfold FKids
    refine ⟨by simpa using h 0 f rfl, FKids.mk l (j + 1) fun i g hg => ?_⟩
    have := h (i + 1) g (by simpa using hg)
    rw [show j + (i + 1) = j + 1 + i by omega] at this
    exact this

set_option maxRecDepth 100000 in
theorem form_read : ∀ (N fuel : Nat), fuel ≤ N → ∀ (cs : List Value) (y : DataW H × List MemPlace), DataW.trod enc Tryd.prog W 0 (fun _ => true) true fuel 31 cs = some y → Fits 31 y.1 → ∃ f : FB, FVal W (· < W.heap.size) f cs
  | 0, fuel, hN, cs, y, h, _ => by
    obtain rfl : fuel = 0 := by omega
    simp [DataW.trod] at h
  | N + 1, fuel, hN, cs, y, h, hz => by
    obtain ⟨y0, y1, y2, y3, y4, y5, n, rfl, hx, hlen, h0, h1, h2, h3, h4, h5⟩ := trod_struct6 Tryd.underlying31 h
    rw [show Tryd.prog.cellsOf 31 = 6 by kernel_rfl] at hlen
    obtain ⟨c0, c1, c2, c3, c4, c5, rfl⟩ : ∃ a b c d e f, cs = [a, b, c, d, e, f] := by
      match cs, hlen with
      | [a, b, c, d, e, f], _ => exact ⟨a, b, c, d, e, f, rfl⟩
    have hfit : ∀ n ∈ DataW.weightsEach Tryd.prog [3, 3, 9, 28, 28, 29] [y0.1, y1.1, y2.1, y3.1, y4.1, y5.1], n ≤ 140737488351232 := fun n hn => hz n (by
      rw [hx]
      simp only [DataW.weights, Tryd.underlying31]
      exact hn)
    simp only [show Tryd.prog.cellsOf 9 = 1 by kernel_rfl, show Tryd.prog.cellsOf 3 = 1 by kernel_rfl, show Tryd.prog.cellsOf 28 = 1 by kernel_rfl, show Tryd.prog.cellsOf 29 = 1 by kernel_rfl] at h0 h1 h2 h3 h4 h5
    obtain ⟨k, e0, -, -⟩ := DataW.trod_int Tryd.underlying3 h0
    obtain ⟨a, e1, -, -⟩ := DataW.trod_int Tryd.underlying3 h1
    obtain ⟨s, e2, hs, -⟩ := DataW.trod_string Tryd.underlying9 h2
    obtain ⟨u3, vs, e3, hv3⟩ := strs_read h3 (fun n hn => hfit n (by
      simp only [DataW.weightsEach]
      exact List.mem_append_right _ (List.mem_append_right _ (List.mem_append_right _ (List.mem_append_left _ hn)))))
    obtain ⟨u4, ar, e4, hv4⟩ := strs_read h4 (fun n hn => hfit n (by
      simp only [DataW.weightsEach]
      exact List.mem_append_right _ (List.mem_append_right _ (List.mem_append_right _ (List.mem_append_right _ (List.mem_append_left _ hn))))))
    have hz5 : Fits 29 y5.1 := fun n hn => hfit n (by
      simp only [DataW.weightsEach]
      exact List.mem_append_right _ (List.mem_append_right _ (List.mem_append_right _ (List.mem_append_right _ (List.mem_append_right _ (List.mem_append_left _ hn))))))
    have hss : s.size ≤ 140737488351232 := by
      have := hfit s.data.toList.length (by
        rw [hs]
        simp only [DataW.weightsEach, DataW.weights]
        exact List.mem_append_right _ (List.mem_append_right _ (List.mem_append_left _ (List.mem_cons_self ..))))
      simpa using this
    simp at e0 e1 e2 e3 e4
    subst e0 e1 e2 e3 e4
    rcases DataW.trod_slice Tryd.underlying29 h5 with ⟨hcs, hx5⟩ | ⟨ad, len, cap, es, rest, n', hn', hcs, hx5, _, hlc, _, hel, hes, _, _⟩
    · simp at hcs
      subst hcs
      refine ⟨.mk k a s vs ar [], ?_⟩
      unfold FVal
      exact ⟨_, _, _, _, _, rfl, hss, hv3, hv4, rfl, by omega, by omega, fun h => absurd h (by omega)⟩
    · simp at hcs
      subst hcs hx5
      have hb := Fits.len Tryd.underlying29 hz5
      rw [show Tryd.prog.bytesOf 31 = 104 by kernel_rfl] at hb
      simp only [List.length_map] at hb
      have each : ∀ i, i < len → ∃ g : FB, ∃ x0 x1 x2 x3 x4 x5, W.cell? (ad.add (i * 6)) = some x0 ∧ W.cell? (ad.add (i * 6 + 1)) = some x1 ∧ W.cell? (ad.add (i * 6 + 2)) = some x2 ∧
          W.cell? (ad.add (i * 6 + 3)) = some x3 ∧ W.cell? (ad.add (i * 6 + 4)) = some x4 ∧ W.cell? (ad.add (i * 6 + 5)) = some x5 ∧ FVal W (· < W.heap.size) g [x0, x1, x2, x3, x4, x5] := fun i hi => by
        have h1 := hes i hi
        rw [show Tryd.prog.cellsOf 31 = 6 by kernel_rfl, List.getElem?_eq_getElem (by omega)] at h1
        obtain ⟨c, hc, h2⟩ := Option.bind_eq_some_iff.1 h1
        obtain ⟨g, hg⟩ := form_read N n' (by omega) c _ h2 (Fits.elem Tryd.underlying29 hz5 (i := i) (by rw [List.getElem?_map, List.getElem?_eq_getElem (by omega)]; rfl))
        obtain ⟨k', a', nm', ws', ar', ks'⟩ := g
        obtain ⟨B3, r3, s3, B4, r4, s4, B, r, s', hcs', -⟩ := hg.open_
        subst hcs'
        obtain ⟨-, -, hcell⟩ := World.cells?_some hc
        have q0 := hcell 0 (by omega)
        have q1 := hcell 1 (by omega)
        have q2 := hcell 2 (by omega)
        have q3 := hcell 3 (by omega)
        have q4 := hcell 4 (by omega)
        have q5 := hcell 5 (by omega)
        rw [add_of_add] at q0 q1 q2 q3 q4 q5
        exact ⟨_, _, _, _, _, _, _, q0, q1, q2, q3, q4, q5, hg⟩
      obtain ⟨ks, hks, hq⟩ := exists_list len each
      refine ⟨.mk k a s vs ar ks, ?_⟩
      unfold FVal
      refine ⟨_, _, _, _, _, rfl, hss, hv3, hv4, hks.symm, by omega, hlc, fun hn => ⟨ad, rfl, ?_, FKids.mk ks 0 fun i g hg => by rw [Nat.zero_add]; exact hq i g hg⟩⟩
      obtain ⟨g, x0, x1, x2, x3, x4, x5, hc, -⟩ := each 0 hn
      have h0 := cellLt hc
      rw [block_of_add] at h0
      exact h0

set_option maxRecDepth 100000 in
/-- An argument of type Formula. -/
theorem form_of_trod {v : Value} {d : DataW H} {p : List MemPlace} {r : Reach} {b0 : Nat} (hv : Value.okWide Tryd.prog W r b0 31 v) (h : DataW.Trod enc Tryd.prog W 0 (fun _ => true) true 31 v d p) (hz : Fits 31 d) :
    ∃ (f : FB) (cs : List Value), v = .agg cs.toArray ∧ FVal W (· < W.heap.size) f cs := by
  obtain ⟨cs, rfl, hsz⟩ := okWide_struct Tryd.underlying31 hv
  obtain ⟨fuel, hf⟩ := h
  obtain ⟨f, hfv⟩ := form_read fuel fuel (Nat.le_refl _) _ _ hf hz
  refine ⟨f, cs.toList, by simp, ?_⟩
  simpa [Value.cells] using hfv
end

end Go.Proofs.YtmnpelhcgobfaaaDoor
