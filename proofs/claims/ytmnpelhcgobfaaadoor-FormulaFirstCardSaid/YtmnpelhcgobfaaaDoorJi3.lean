/-
  Texts joined: Fnext, Frep, Ffit.
-/
import Derived.Test.YtmnpelhcgobfaaaDoorJi2
import Derived.Test.YtmnpelhcgobfaaaDoorJi1
import Derived.Shelf.Abstract
import Derived.Deep.Fields
import Derived.Deep.LoopGhost
import Derived.BigGuardPart
import Derived.Deep.RegionWith

/-
  Walks: the method next of the parser: the token that comes next.
-/
namespace Go.Proofs.YtmnpelhcgobfaaaDoor
open Go.RowKit

theorem Blk.cell0 {w : World} {g : Nat} {t : TypeId} {x : Value} {xs : List Value} (h : Blk w g t (List.toArray (x :: xs))) : w.cell? ⟨g, 0, none⟩ = some x := (Blk.cell h 0).trans (by simp)
theorem Blk.cell1 {w : World} {g : Nat} {t : TypeId} {x y : Value} {xs : List Value} (h : Blk w g t (List.toArray (x :: y :: xs))) : w.cell? ⟨g, 1, none⟩ = some y := (Blk.cell h 1).trans (by simp)
theorem bytes_get (text : ByteArray) (k : Nat) (h : k < text.size) : text.toList[k]'(by rw [length_bytes]; exact h) = text[k] := by
  have h1 := getD_bytes text k h
  rw [List.getD_eq_getElem?_getD, List.getElem?_eq_getElem (by rw [length_bytes]; exact h)] at h1
  exact h1

/-- A parser: block R holds the text and the place. -/
def Psr (w : World) (R : Nat) (text : ByteArray) (n : Nat) : Prop := Blk w R 59 #[.string text, .int .i64 n]
theorem Psr.c0 {w : World} {R n : Nat} {text : ByteArray} (h : Psr w R text n) : w.cell? ⟨R, 0, none⟩ = some (.string text) := Blk.cell h 0
theorem Psr.c1 {w : World} {R n : Nat} {text : ByteArray} (h : Psr w R text n) : w.cell? ⟨R, 1, none⟩ = some (.int .i64 n) := Blk.cell h 1
theorem Psr.set_ {w : World} {R n m : Nat} {text : ByteArray} (h : Psr w R text n) : Psr (w.setCell ⟨R, 1, none⟩ (.int .i64 m)) R text m := Blk.set_ h 1 (.int .i64 m)

/-- The kind of a token's bytes. -/
def kindB (l : Fo.Bs) : ByteArray := if Sh.alnumB (l.getD 0 0) then kindS ⟨l.toArray⟩ else ⟨l.toArray⟩
/-- What next gives: the token that comes first, or the end. -/
def tokV (len : Nat) : List Fo.Tok → Value
  | [] => .agg #[.string endK, .string ⟨#[]⟩, .int .i64 len]
  | t :: _ => .agg #[.string (kindB t.2), .string ⟨t.2.toArray⟩, .int .i64 t.1]

/-- The bytes from j to e are letters and digits. -/
def RunA (s : ByteArray) (j e : Nat) : Prop := ((s.toList.drop j).take (e - j)).all Sh.alnumB = true
theorem RunA.start (s : ByteArray) (j : Nat) : RunA s j j := by unfold RunA; simp
theorem RunA.next {s : ByteArray} {j e : Nat} (h : RunA s j e) (hje : j ≤ e) (he : e < s.size) (hc : Sh.alnumB s[e] = true) : RunA s j (e + 1) := by
  unfold RunA at *
  have hl := length_bytes s
  have h1 : e + 1 - j = (e - j) + 1 := by omega
  rw [h1, List.take_add_one, List.all_append, h, Bool.true_and]
  rw [List.getElem?_drop, show j + (e - j) = e by omega, List.getElem?_eq_getElem (by omega)]
  simp only [Option.toList_some, List.all_cons, List.all_nil, Bool.and_true]
  rw [bytes_get s e he]; exact hc
theorem tw_of {p : UInt8 → Bool} : ∀ (l : Fo.Bs) (n : Nat), (l.take n).all p = true → (∀ h : n < l.length, p l[n] = false) → l.takeWhile p = l.take n
  | [], n, _, _ => by simp
  | c :: l, 0, _, h => by
    have := h (by simp)
    simp only [List.getElem_cons_zero] at this
    rw [List.takeWhile_cons_of_neg (by simp [this])]; rfl
  | c :: l, n + 1, h1, h2 => by
    simp only [List.take_succ_cons, List.all_cons, Bool.and_eq_true] at h1
    rw [List.takeWhile_cons_of_pos h1.1, List.take_succ_cons, tw_of l n h1.2 (fun h => by have := h2 (by simpa using h); simpa using this)]
/-- The token that begins at j. -/
theorem toks_run {s : ByteArray} {j e : Nat} (hj : j < s.size) (hje : j < e) (he : e ≤ s.size) (h : RunA s j e) (hend : ∀ h : e < s.size, Sh.alnumB s[e] = false) (hb : Fo.blankB s[j] = false) :
    Fo.toksAt s.toList j = (j, (s.extract j e).toList) :: Fo.toksAt s.toList e := by
  have hl := length_bytes s
  have hlj : s.toList[j]'(by omega) = s[j] := bytes_get s j hj
  rw [Fo.toksAt_cons (by omega) (by rw [hlj]; exact hb), hlj]
  have hd : s.toList.drop j = s[j] :: s.toList.drop (j + 1) := by rw [List.drop_eq_getElem_cons (by omega), hlj]
  unfold RunA at h
  have htw := tw_of (p := Sh.alnumB) (s.toList.drop j) (e - j) h (fun h' => by
    rw [List.length_drop] at h'
    rw [List.getElem_drop]
    have : s.toList[j + (e - j)]'(by omega) = s[e]'(by omega) := by
      have h0 := bytes_get s e (by omega)
      rw [← h0]; congr 1; omega
    rw [this]; exact hend (by omega))
  have hex : (s.extract j e).toList = (s.toList.drop j).take (e - j) := by
    rw [ByteArray.toList_eq, ByteArray.toList_eq, ByteArray.data_extract]
    simp [List.extract_eq_take_drop]
  have hc : Sh.alnumB s[j] = true := by
    rw [hd, show e - j = (e - j - 1) + 1 by omega, List.take_succ_cons, List.all_cons, Bool.and_eq_true] at h
    exact h.1
  have hm : s[j] :: Fo.moreT s[j] (s.toList.drop (j + 1)) = (s.toList.drop j).take (e - j) := by
    unfold Fo.moreT; rw [if_pos hc, ← htw, hd, List.takeWhile_cons_of_pos hc]
  have hml : j + 1 + (Fo.moreT s[j] (s.toList.drop (j + 1))).length = e := by
    have := congrArg List.length hm
    rw [List.length_cons, List.length_take, List.length_drop] at this
    omega
  rw [hm, hex, hml]
theorem toks_sign {s : ByteArray} {j : Nat} (hj : j < s.size) (hc : Sh.alnumB s[j] = false) (hb : Fo.blankB s[j] = false) :
    Fo.toksAt s.toList j = (j, [s[j]]) :: Fo.toksAt s.toList (j + 1) := by
  have hl := length_bytes s
  have hlj : s.toList[j]'(by omega) = s[j] := bytes_get s j hj
  rw [Fo.toksAt_cons (by omega) (by rw [hlj]; exact hb), hlj]
  unfold Fo.moreT
  rw [if_neg (by simp [hc])]; rfl

theorem alnum_or {c : UInt8} : Sh.alnumB c = (Sh.letterB c.toNat || Sh.digitB c.toNat) := rfl
theorem toks_skip {s : ByteArray} {j : Nat} (hj : j < s.size) (hb : Fo.blankB s[j] = true) : Fo.toksAt s.toList j = Fo.toksAt s.toList (j + 1) := by
  have hl := length_bytes s
  have hlj : s.toList[j]'(by omega) = s[j] := bytes_get s j hj
  exact Fo.toksAt_blank (by omega) (by rw [hlj]; exact hb)
theorem blank_nat (c : UInt8) : Fo.blankB c = decide (c.toNat = 32 ∨ c.toNat = 10) := by
  have a : (c = 32) ↔ (c.toNat = 32) := ⟨fun h => by rw [h]; rfl, fun h => UInt8.toNat_inj.1 h⟩
  have b : (c = 10) ↔ (c.toNat = 10) := ⟨fun h => by rw [h]; rfl, fun h => UInt8.toNat_inj.1 h⟩
  unfold Fo.blankB
  simp only [a, b]

/-- A token's cells, stored one after the other. -/
theorem tok_cells {w : World} {B : Nat} {x y z : Value} (h : Blk w B 62 #[x, y, z]) (a b c : Value) :
    (((w.setCell ⟨B, 0, none⟩ a).setCell ⟨B, 1, none⟩ b).setCell ⟨B, 2, none⟩ c).cell? ⟨B, 0, none⟩ = some a ∧
    (((w.setCell ⟨B, 0, none⟩ a).setCell ⟨B, 1, none⟩ b).setCell ⟨B, 2, none⟩ c).cell? ⟨B, 1, none⟩ = some b ∧
    (((w.setCell ⟨B, 0, none⟩ a).setCell ⟨B, 1, none⟩ b).setCell ⟨B, 2, none⟩ c).cell? ⟨B, 2, none⟩ = some c := by
  have h3 := ((h.set_ 0 a).set_ 1 b).set_ 2 c
  exact ⟨(Blk.cell h3 0).trans (by simp), (Blk.cell h3 1).trans (by simp), (Blk.cell h3 2).trans (by simp)⟩
theorem tok_below {w0 w : World} {B : Nat} (h : Below B w0 w) (a b c : Value) : Below B w0 (((w.setCell ⟨B, 0, none⟩ a).setCell ⟨B, 1, none⟩ b).setCell ⟨B, 2, none⟩ c) :=
  ((h.setCell (p := ⟨B, 0, none⟩) (Nat.le_refl _) a).setCell (p := ⟨B, 1, none⟩) (Nat.le_refl _) b).setCell (p := ⟨B, 2, none⟩) (Nat.le_refl _) c
theorem kindB_run {s : ByteArray} {j e : Nat} (hj : j < e) (he : e ≤ s.size) (h : RunA s j e) : kindB (s.extract j e).toList = kindS (s.extract j e) := by
  have hl := length_bytes s
  unfold kindB
  have hex : (s.extract j e).toList = (s.toList.drop j).take (e - j) := by
    rw [ByteArray.toList_eq, ByteArray.toList_eq, ByteArray.data_extract]
    simp [List.extract_eq_take_drop]
  have hc : Sh.alnumB ((s.extract j e).toList.getD 0 0) = true := by
    rw [hex]
    have hd : s.toList.drop j = s.toList[j]'(by omega) :: s.toList.drop (j + 1) := List.drop_eq_getElem_cons (by omega)
    unfold RunA at h
    rw [hd, show e - j = (e - j - 1) + 1 by omega, List.take_succ_cons] at h ⊢
    rw [List.all_cons, Bool.and_eq_true] at h
    exact h.1
  rw [if_pos hc, ByteArray.toList_eq]
theorem tokV_run {s : ByteArray} {j e : Nat} {ts : List Fo.Tok} {len : Nat} (hj : j < e) (he : e ≤ s.size) (h : RunA s j e) :
    Ending.returned (.agg #[.string (kindS (s.extract j e)), .string (s.extract j e), .int .i64 j]) = .returned (tokV len ((j, (s.extract j e).toList) :: ts)) := by
  unfold tokV
  simp only []
  rw [kindB_run hj he h, ByteArray.toList_eq]
theorem tokV_sign {s : ByteArray} {j : Nat} {ts : List Fo.Tok} {len : Nat} (hj : j < s.size) (hc : Sh.alnumB s[j] = false) :
    Ending.returned (.agg #[.string (s.extract j (j + 1)), .string (s.extract j (j + 1)), .int .i64 j]) = .returned (tokV len ((j, [s[j]]) :: ts)) := by
  have hl := length_bytes s
  have hex : (s.extract j (j + 1)) = ⟨[s[j]].toArray⟩ := by
    have : (s.extract j (j + 1)).toList = [s[j]] := by
      rw [ByteArray.toList_eq, ByteArray.data_extract, Array.toList_extract, List.extract_eq_take_drop, show j + 1 - j = 1 by omega]
      rw [← ByteArray.toList_eq, List.drop_eq_getElem_cons (by omega), bytes_get s j hj]; rfl
    rw [← this, ByteArray.toList_eq]
  unfold tokV
  simp only []
  rw [hex]
  unfold kindB
  rw [if_neg (by simpa using hc)]

set_option maxRecDepth 100000 in
set_option maxHeartbeats 400000 in
theorem next_any (R n : Nat) (text : ByteArray) (w : World) (hr : Psr w R text n) (hn : n ≤ text.size) (hs : text.size ≤ 100000) :
    Calls Tryd.prog 37 #[.pointer (some ⟨R, 0, none⟩)] w
      fun e w' => e = .returned (tokV text.size (Fo.toksAt text.toList n)) ∧ Below w.heap.size w w' := by
  have hRw := hr.lt
  have hr1 : Psr (w.alloc (.cells #[.string ⟨#[]⟩, .string ⟨#[]⟩, .int .i64 0] 62)) R text n := Blk.alloc hr _
  have hz : Blk (w.alloc (.cells #[.string ⟨#[]⟩, .string ⟨#[]⟩, .int .i64 0] 62)) w.heap.size 62 #[.string ⟨#[]⟩, .string ⟨#[]⟩, .int .i64 0] := Blk.new _ _ _
  have hbel : Below w.heap.size w (w.alloc (.cells #[.string ⟨#[]⟩, .string ⟨#[]⟩, .int .i64 0] 62)) := (Below.refl _ _).alloc (Nat.le_refl _) _
  have z0 := Blk.cell0 hz
  have z1 := Blk.cell1 hz
  have z2 : (w.alloc (.cells #[.string ⟨#[]⟩, .string ⟨#[]⟩, .int .i64 0] 62)).cell? ⟨w.heap.size, 2, none⟩ = some (.int .i64 0) := (Blk.cell hz 2).trans (by simp)
  have f0 := Blk.frozen hz 0
  have f1 := Blk.frozen hz 1
  have f2 := Blk.frozen hz 2
  have c0 := hr1.c0
  have c1 := hr1.c1
  go_enter Tryd.func37, Tryd.ntmps37
  go_wp2
  have hBW := hz.lt
  generalize (w.alloc (.cells #[.string ⟨#[]⟩, .string ⟨#[]⟩, .int .i64 0] 62)) = W at *
  generalize hB : w.heap.size = B at *
  have HB := Lib.hid hB; clear hB c1
  go_loop [3] (fun i => ∃ k : Nat, k ≤ text.size ∧ i = .int .i64 k ∧ Fo.toksAt text.toList n = Fo.toksAt text.toList k) (fun i => text.size - (intOf i).toNat)
  case atStart => exact ⟨n, hn, rfl, rfl⟩
  case round =>
    obtain ⟨k, hk, rfl, heq⟩ := hrel
    have Heq := Lib.hid heq; clear heq
    by_cases hlt : k < text.size
    · have hskip := fun h => toks_skip hlt h
      have hbn := blank_nat text[k]
      by_cases h32 : text[k].toNat = 32
      · have hnx := hskip (by rw [hbn, decide_eq_true (Or.inl h32)])
        have Hnx := Lib.hid hnx; clear hnx hskip hbn
        go_wp2
        go_round
        case rel => exact ⟨k + 1, by omega, by go_num, by rw [Heq.out, Hnx.out]⟩
        case measure => simp [intOf]; omega
      · by_cases h10 : text[k].toNat = 10
        · have hnx := hskip (by rw [hbn, decide_eq_true (Or.inr h10)])
          have Hnx := Lib.hid hnx; clear hnx hskip hbn
          go_wp2
          go_round
          case rel => exact ⟨k + 1, by omega, by go_num, by rw [Heq.out, Hnx.out]⟩
          case measure => simp [intOf]; omega
        · have hblank : Fo.blankB text[k] = false := by rw [hbn, decide_eq_false (by omega)]
          have Hblank := Lib.hid hblank; clear hblank hskip hbn
          have e32 : ((text[k].toNat : Int) == 32) = false := by simp; omega
          have e10 : ((text[k].toNat : Int) == 10) = false := by simp; omega
          clear h32 h10
          go_wp2
          go_loop [4] (fun i => ∃ e : Nat, k ≤ e ∧ e ≤ text.size ∧ i = .int .i64 e ∧ RunA text k e) (fun i => text.size - (intOf i).toNat)
          case atStart => exact ⟨k, Nat.le_refl _, hk, rfl, RunA.start _ _⟩
          case round =>
            obtain ⟨e, hke, hes, rfl, hrun⟩ := hrel
            have Hrun := Lib.hid hrun; clear hrun
            by_cases hle : e < text.size
            · have halo := alnum_or (c := text[e])
              cases hla : Sh.letterB text[e].toNat
              · cases hda : Sh.digitB text[e].toNat
                · have hno : Sh.alnumB text[e] = false := by rw [halo, hla, hda]; rfl
                  have Hla := Lib.hid hla; have Hda := Lib.hid hda; have Hno := Lib.hid hno; clear hla hda hno halo
                  by_cases hek : k < e
                  · have htk := toks_run hlt hek hes Hrun.out (fun _ => Hno.out) Hblank.out
                    have Htk := Lib.hid htk; clear htk
                    go_wp2_with (first | (go_at_call 45; refine (fletter_any _ _).mono ?_; rw [Hla.out]; rintro e w' ⟨rfl, rfl⟩) | (go_at_call 46; refine (fdigit_any _ _).mono ?_; rw [Hda.out]; rintro e w' ⟨rfl, rfl⟩) | (go_at_call 47; refine (fclassify_any _ _ (by rw [ByteArray.size_extract]; omega)).mono ?_; rintro e w2 ⟨rfl, hb2⟩; have hz2 := hz.below hb2 hBW; have y0 := Blk.cell0 hz2; have y1 := Blk.cell1 hz2; have y2 : w2.cell? ⟨B, 2, none⟩ = some (.int .i64 0) := (Blk.cell hz2 2).trans (by simp); have g0 := Blk.frozen hz2 0; have g1 := Blk.frozen hz2 1; have g2 := Blk.frozen hz2 2))
                    obtain ⟨x0, x1, x2⟩ := tok_cells hz2 (.string (kindS (text.extract k e))) (.string (text.extract k e)) (.int .i64 k)
                    refine bodyPost_ret (v := .agg #[.string (kindS (text.extract k e)), .string (text.extract k e), .int .i64 k]) (by simp [results, Tryd.results37, go_sem, x0, x1, x2]) rfl ?_
                    exact ⟨by rw [Heq.out, Htk.out]; exact tokV_run hek hes Hrun.out, by rw [HB.out]; exact tok_below (hbel.trans (hb2.mono (Nat.le_of_lt hBW))) _ _ _⟩
                  · obtain rfl : e = k := by omega
                    have htk := toks_sign hlt Hno.out Hblank.out
                    have Htk := Lib.hid htk; clear htk
                    go_wp2_with (first | (go_at_call 45; refine (fletter_any _ _).mono ?_; rw [Hla.out]; rintro e w' ⟨rfl, rfl⟩) | (go_at_call 46; refine (fdigit_any _ _).mono ?_; rw [Hda.out]; rintro e w' ⟨rfl, rfl⟩))
                    obtain ⟨x0, x1, x2⟩ := tok_cells hz (.string (text.extract e (e + 1))) (.string (text.extract e (e + 1))) (.int .i64 e)
                    refine bodyPost_ret (v := .agg #[.string (text.extract e (e + 1)), .string (text.extract e (e + 1)), .int .i64 e]) (by simp [results, Tryd.results37, go_sem, x0, x1, x2]) rfl ?_
                    exact ⟨by rw [Heq.out, Htk.out]; exact tokV_sign hlt Hno.out, by rw [HB.out]; exact tok_below hbel _ _ _⟩
                · have hyes : Sh.alnumB text[e] = true := by rw [halo, hla, hda]; rfl
                  have hnext := Hrun.out.next hke hle hyes
                  have Hnext := Lib.hid hnext
                  have Hla := Lib.hid hla; have Hda := Lib.hid hda; clear hla hda hyes halo hnext
                  go_wp2_with (first | (go_at_call 45; refine (fletter_any _ _).mono ?_; rw [Hla.out]; rintro e w' ⟨rfl, rfl⟩) | (go_at_call 46; refine (fdigit_any _ _).mono ?_; rw [Hda.out]; rintro e w' ⟨rfl, rfl⟩))
                  go_round
                  case rel => exact ⟨e + 1, by omega, by omega, by go_num, Hnext.out⟩
                  case measure => simp [intOf]; omega
              · have hyes : Sh.alnumB text[e] = true := by rw [halo, hla]; rfl
                have hnext := Hrun.out.next hke hle hyes
                have Hnext := Lib.hid hnext
                have Hla := Lib.hid hla; clear hla hyes halo hnext
                go_wp2_with (go_at_call 45; refine (fletter_any _ _).mono ?_; rw [Hla.out]; rintro e w' ⟨rfl, rfl⟩)
                go_round
                case rel => exact ⟨e + 1, by omega, by omega, by go_num, Hnext.out⟩
                case measure => simp [intOf]; omega
            · obtain rfl : e = text.size := by omega
              have htk := toks_run hlt hlt (Nat.le_refl _) Hrun.out (fun h => absurd h (Nat.lt_irrefl _)) Hblank.out
              have Htk := Lib.hid htk; clear htk hle
              go_wp2_with (go_at_call 47; refine (fclassify_any _ _ (by rw [ByteArray.size_extract]; omega)).mono ?_; rintro e w2 ⟨rfl, hb2⟩; have hz2 := hz.below hb2 hBW; have y0 := Blk.cell0 hz2; have y1 := Blk.cell1 hz2; have y2 : w2.cell? ⟨B, 2, none⟩ = some (.int .i64 0) := (Blk.cell hz2 2).trans (by simp); have g0 := Blk.frozen hz2 0; have g1 := Blk.frozen hz2 1; have g2 := Blk.frozen hz2 2)
              obtain ⟨x0, x1, x2⟩ := tok_cells hz2 (.string (kindS (text.extract k text.size))) (.string (text.extract k text.size)) (.int .i64 k)
              refine bodyPost_ret (v := .agg #[.string (kindS (text.extract k text.size)), .string (text.extract k text.size), .int .i64 k]) (by simp [results, Tryd.results37, go_sem, x0, x1, x2]) rfl ?_
              exact ⟨by rw [Heq.out, Htk.out]; exact tokV_run hlt (Nat.le_refl _) Hrun.out, by rw [HB.out]; exact tok_below (hbel.trans (hb2.mono (Nat.le_of_lt hBW))) _ _ _⟩
    · obtain rfl : k = text.size := by omega
      have hend : Fo.toksAt text.toList text.size = [] := Fo.toksAt_end (by rw [length_bytes]; omega)
      have Hend := Lib.hid hend; clear hend hlt
      go_wp2
      obtain ⟨x0, x1, x2⟩ := tok_cells hz (.string ⟨#[116, 104, 101, 32, 101, 110, 100]⟩) (.string ⟨#[]⟩) (.int .i64 text.size)
      refine bodyPost_ret (v := .agg #[.string ⟨#[116, 104, 101, 32, 101, 110, 100]⟩, .string ⟨#[]⟩, .int .i64 text.size]) (by simp [results, Tryd.results37, go_sem, x0, x1, x2]) rfl ?_
      exact ⟨by rw [Heq.out, Hend.out]; rfl, by rw [HB.out]; exact tok_below hbel _ _ _⟩

end Go.Proofs.YtmnpelhcgobfaaaDoor

/-
  Words for memory: a slice of strings; a formula, in blocks of a set S.
-/
namespace Go.Proofs.YtmnpelhcgobfaaaDoor
open Go.RowKit
open Fo (F)

abbrev FB := F ByteArray

/-- Membership is decided as the lists of Fspec decide it. -/
instance memDec (x : ByteArray) (l : List ByteArray) : Decidable (x ∈ l) := @List.instDecidableMemOfLawfulBEq ByteArray instBEqOfDecidableEq inferInstance x l

/-- A value that is a slice of strings, in blocks of S. -/
def Strs (w : World) (S : Nat → Prop) (v : Value) (l : List ByteArray) : Prop :=
  ∃ A n c, v = .slice A n c ∧ n = l.length ∧ n ≤ 140737488351232 ∧ n ≤ c ∧ (∀ s ∈ l, s.size ≤ 140737488351232) ∧
    (0 < n → ∃ ad, A = some ad ∧ S ad.block ∧ ∀ (j : Nat) (s : ByteArray), l[j]? = some s → w.cell? (ad.add j) = some (.string s))

mutual
/-- Six cells that are a formula. -/
def FVal (w : World) (S : Nat → Prop) : FB → List Value → Prop
  | .mk k a n vs ags ks, cs => ∃ u3 u4 A m c, cs = [.int .i64 k, .int .i64 a, .string n, u3, u4, .slice A m c] ∧ n.size ≤ 140737488351232 ∧ Strs w S u3 vs ∧ Strs w S u4 ags ∧ m = ks.length ∧ m ≤ 140737488351232 ∧ m ≤ c ∧
      (0 < m → ∃ ad, A = some ad ∧ S ad.block ∧ FKids w S ad ks 0)
/-- Formulas one after another, from the address ad on, from the j-th on. -/
def FKids (w : World) (S : Nat → Prop) (ad : Addr) : List FB → Nat → Prop
  | [], _ => True
  | f :: l, j => (∃ x0 x1 x2 x3 x4 x5, w.cell? (ad.add (j * 6)) = some x0 ∧ w.cell? (ad.add (j * 6 + 1)) = some x1 ∧ w.cell? (ad.add (j * 6 + 2)) = some x2 ∧ w.cell? (ad.add (j * 6 + 3)) = some x3 ∧
      w.cell? (ad.add (j * 6 + 4)) = some x4 ∧ w.cell? (ad.add (j * 6 + 5)) = some x5 ∧ FVal w S f [x0, x1, x2, x3, x4, x5]) ∧ FKids w S ad l (j + 1)
end

section
variable {w w' : World} {S S' : Nat → Prop} {v : Value} {l : List ByteArray}
theorem Strs.keep (h : Strs w S v l) (hk : ∀ p : Addr, S p.block → w'.cell? p = w.cell? p) : Strs w' S v l := by
  obtain ⟨A, n, c, h1, h2, h3, h3c, h4, h5⟩ := h
  refine ⟨A, n, c, h1, h2, h3, h3c, h4, fun hn => ?_⟩
  obtain ⟨ad, e, hb, hc⟩ := h5 hn
  exact ⟨ad, e, hb, fun j s hs => (hk _ (by rw [block_of_add]; exact hb)).trans (hc j s hs)⟩
theorem Strs.more (h : Strs w S v l) (hS : ∀ b, S b → S' b) : Strs w S' v l := by
  obtain ⟨A, n, c, h1, h2, h3, h3c, h4, h5⟩ := h
  refine ⟨A, n, c, h1, h2, h3, h3c, h4, fun hn => ?_⟩
  obtain ⟨ad, e, hb, hc⟩ := h5 hn
  exact ⟨ad, e, hS _ hb, hc⟩
theorem Strs.drewN (h : Strs w S v l) (k : Nat) : Strs (w.drewN k) S v l := h
theorem Strs.nil : Strs w S (.slice none 0 0) [] := ⟨_, _, _, rfl, rfl, by omega, by omega, by simp, fun h => absurd h (by omega)⟩
theorem Strs.at_ {A : Option Addr} {n c k : Nat} (h : Strs w S (.slice A n c) l) (hk : k < n) : ∃ ad s, A = some ad ∧ S ad.block ∧ l[k]? = some s ∧ w.cell? (ad.add k) = some (.string s) ∧ s.size ≤ 140737488351232 := by
  obtain ⟨A', n', c', h1, h2, h3, h3c, h4, h5⟩ := h
  injection h1 with e1 e2 e3
  subst e1 e2 e3
  obtain ⟨ad, e, hb, hc⟩ := h5 (by omega)
  have hl : k < l.length := by omega
  exact ⟨ad, l[k], e, hb, List.getElem?_eq_getElem hl, hc k _ (List.getElem?_eq_getElem hl), h4 _ (List.getElem_mem hl)⟩
theorem Strs.length {A : Option Addr} {n c : Nat} (h : Strs w S (.slice A n c) l) : n = l.length := by
  obtain ⟨A', n', c', h1, h2, -⟩ := h
  injection h1 with e1 e2 e3
  exact e2.trans h2

mutual
theorem FVal.keep (hk : ∀ p : Addr, S p.block → w'.cell? p = w.cell? p) : ∀ (f : FB) (cs : List Value), FVal w S f cs → FVal w' S f cs
  | .mk k a n vs ags ks, cs, h => by
    unfold FVal at h ⊢
    obtain ⟨u3, u4, A, m, c, h1, h2, h3, h4, h5, h6, h6c, h7⟩ := h
    refine ⟨u3, u4, A, m, c, h1, h2, h3.keep hk, h4.keep hk, h5, h6, h6c, fun hm => ?_⟩
    obtain ⟨ad, e, hb, hc⟩ := h7 hm
    exact ⟨ad, e, hb, FKids.keep hk ad hb ks 0 hc⟩
theorem FKids.keep (hk : ∀ p : Addr, S p.block → w'.cell? p = w.cell? p) (ad : Addr) (hb : S ad.block) : ∀ (l : List FB) (j : Nat), FKids w S ad l j → FKids w' S ad l j
  | [], _, _ => by unfold FKids; trivial
  | f :: l, j, h => by
    unfold FKids at h ⊢
    obtain ⟨⟨x0, x1, x2, x3, x4, x5, g0, g1, g2, g3, g4, g5, hf⟩, hl⟩ := h
    have hc : ∀ i, w'.cell? (ad.add i) = w.cell? (ad.add i) := fun i => hk _ (by rw [block_of_add]; exact hb)
    exact ⟨⟨x0, x1, x2, x3, x4, x5, (hc _).trans g0, (hc _).trans g1, (hc _).trans g2, (hc _).trans g3, (hc _).trans g4, (hc _).trans g5, FVal.keep hk f _ hf⟩, FKids.keep hk ad hb l (j + 1) hl⟩
end
mutual
theorem FVal.more (hS : ∀ b, S b → S' b) : ∀ (f : FB) (cs : List Value), FVal w S f cs → FVal w S' f cs
  | .mk k a n vs ags ks, cs, h => by
    unfold FVal at h ⊢
    obtain ⟨u3, u4, A, m, c, h1, h2, h3, h4, h5, h6, h6c, h7⟩ := h
    refine ⟨u3, u4, A, m, c, h1, h2, h3.more hS, h4.more hS, h5, h6, h6c, fun hm => ?_⟩
    obtain ⟨ad, e, hb, hc⟩ := h7 hm
    exact ⟨ad, e, hS _ hb, FKids.more hS ad ks 0 hc⟩
theorem FKids.more (hS : ∀ b, S b → S' b) (ad : Addr) : ∀ (l : List FB) (j : Nat), FKids w S ad l j → FKids w S' ad l j
  | [], _, _ => by unfold FKids; trivial
  | f :: l, j, h => by
    unfold FKids at h ⊢
    obtain ⟨⟨x0, x1, x2, x3, x4, x5, g0, g1, g2, g3, g4, g5, hf⟩, hl⟩ := h
    exact ⟨⟨x0, x1, x2, x3, x4, x5, g0, g1, g2, g3, g4, g5, FVal.more hS f _ hf⟩, FKids.more hS ad l (j + 1) hl⟩
end
theorem FVal.drewN {f : FB} {cs : List Value} (h : FVal w S f cs) (k : Nat) : FVal (w.drewN k) S f cs := FVal.keep (w := w) (w' := w.drewN k) (fun _ _ => rfl) f cs h
theorem FVal.below {B : Nat} {f : FB} {cs : List Value} (h : FVal w (· < B) f cs) (hb : Below B w w') : FVal w' (· < B) f cs := FVal.keep (fun _ hp => hb.cell hp) f cs h
theorem Strs.below {B : Nat} (h : Strs w (· < B) v l) (hb : Below B w w') : Strs w' (· < B) v l := h.keep fun _ hp => hb.cell hp

/-- What the six cells are. -/
theorem FVal.open_ {k a : Int} {n : ByteArray} {vs ags : List ByteArray} {ks : List FB} {cs : List Value} (h : FVal w S (.mk k a n vs ags ks) cs) :
    ∃ A3 n3 c3 A4 n4 c4 A m c, cs = [.int .i64 k, .int .i64 a, .string n, .slice A3 n3 c3, .slice A4 n4 c4, .slice A m c] ∧ n.size ≤ 140737488351232 ∧ Strs w S (.slice A3 n3 c3) vs ∧ Strs w S (.slice A4 n4 c4) ags ∧ m = ks.length ∧ m ≤ 140737488351232 ∧ m ≤ c ∧
      (0 < m → ∃ ad, A = some ad ∧ S ad.block ∧ FKids w S ad ks 0) := by
  unfold FVal at h
  obtain ⟨u3, u4, A, m, c, h1, h2, h3, h4, h5, h6, h6c, h7⟩ := h
  have h3' := h3
  have h4' := h4
  obtain ⟨A3, n3, c3, rfl, -⟩ := h3'
  obtain ⟨A4, n4, c4, rfl, -⟩ := h4'
  exact ⟨A3, n3, c3, A4, n4, c4, A, m, c, h1, h2, h3, h4, h5, h6, h6c, h7⟩

theorem FKids.get {ad : Addr} : ∀ (l : List FB) (j i : Nat) (f : FB), FKids w S ad l j → l[i]? = some f → ∃ x0 x1 x2 x3 x4 x5, w.cell? (ad.add ((j + i) * 6)) = some x0 ∧ w.cell? ⟨(ad.add ((j + i) * 6)).block, (ad.add ((j + i) * 6)).off + 1, none⟩ = some x1 ∧
      w.cell? ⟨(ad.add ((j + i) * 6)).block, (ad.add ((j + i) * 6)).off + 2, none⟩ = some x2 ∧ w.cell? ⟨(ad.add ((j + i) * 6)).block, (ad.add ((j + i) * 6)).off + 3, none⟩ = some x3 ∧ w.cell? ⟨(ad.add ((j + i) * 6)).block, (ad.add ((j + i) * 6)).off + 4, none⟩ = some x4 ∧
      w.cell? ⟨(ad.add ((j + i) * 6)).block, (ad.add ((j + i) * 6)).off + 5, none⟩ = some x5 ∧ FVal w S f [x0, x1, x2, x3, x4, x5]
  | [], _, _, _, _, hi => by simp at hi
  | f0 :: l, j, i, f, h, hi => by
    unfold FKids at h
    obtain ⟨⟨x0, x1, x2, x3, x4, x5, g0, g1, g2, g3, g4, g5, hf⟩, hl⟩ := h
    rcases i with _ | i
    · simp only [List.getElem?_cons_zero] at hi
      injection hi with hi
      subst hi
      have a1 := add_field ad (j * 6) 0
      have a2 := add_field ad (j * 6) 1
      have a3 := add_field ad (j * 6) 2
      have a4 := add_field ad (j * 6) 3
      have a5 := add_field ad (j * 6) 4
      exact ⟨x0, x1, x2, x3, x4, x5, g0, a1 ▸ g1, a2 ▸ g2, a3 ▸ g3, a4 ▸ g4, a5 ▸ g5, hf⟩
    · rw [show j + (i + 1) = (j + 1) + i by omega]
      exact FKids.get l (j + 1) i f hl (by simpa using hi)
end

end Go.Proofs.YtmnpelhcgobfaaaDoor

/-
  Walks: the tests of a formula's fields (package formula).
-/
namespace Go.Proofs.YtmnpelhcgobfaaaDoor
open Go.RowKit
open Fo (F)

theorem fbinds_any (k : Int) (w : World) :
    Calls Tryd.prog 33 #[.int .i64 k] w fun e w' => e = .returned (.bool (Fo.bindsB k)) ∧ w = w' := by
  go_enter Tryd.func33, Tryd.ntmps33
  go_wp2
  all_goals go_ret
  all_goals refine ⟨ret_bool ?_, rfl⟩
  all_goals unfold Fo.bindsB
  all_goals (rw [Bool.eq_iff_iff]; simp only [beq_iff_eq, decide_eq_true_eq, true_iff]; omega)

/-- A formula by value. -/
abbrev fagg (k a : Int) (n : ByteArray) (A3 : Option Addr) (n3 c3 : Nat) (A4 : Option Addr) (n4 c4 : Nat) (A : Option Addr) (m c : Nat) : Value :=
  .agg #[.int .i64 k, .int .i64 a, .string n, .slice A3 n3 c3, .slice A4 n4 c4, .slice A m c]

set_option maxRecDepth 100000 in
set_option maxHeartbeats 1000000 in
theorem fnumbers_any (k a : Int) (n : ByteArray) (A3 : Option Addr) (n3 c3 : Nat) (A4 : Option Addr) (n4 c4 : Nat) (A : Option Addr) (m c : Nat) (w : World) (h3 : n3 ≤ 140737488351232) (h4 : n4 ≤ 140737488351232) (_h5 : m ≤ 140737488351232) :
    Calls Tryd.prog 61 #[.agg #[.int .i64 k, .int .i64 a, .string n, .slice A3 n3 c3, .slice A4 n4 c4, .slice A m c]] w fun e w' => e = .returned (.bool (Fo.numbersB k n3 n4 m)) ∧ Below w.heap.size w w' := by
  go_enter Tryd.func61, Tryd.ntmps61
  go_wp2
  go_quiet (fail)
  go_wp2
  all_goals go_ret
  all_goals refine ⟨ret_bool ?_, (below_drewN ((Below.refl _ _).alloc (Nat.le_refl _) _) _)⟩
  all_goals (simp only [beq_iff_eq, beq_eq_false_iff_ne, ne_eq] at *)
  all_goals (unfold Fo.numbersB)
  all_goals (rw [Bool.eq_iff_iff])
  all_goals (simp_all)
  all_goals omega

theorem eq_bytes {x s : ByteArray} (h : x = s) : (x.toList == s.toList) = true := by rw [h]; simp
theorem ne_bytes {x s : ByteArray} (h : ¬ x = s) : (x.toList == s.toList) = false := by
  rw [beq_eq_false_iff_ne]
  intro e
  exact h (WideShapes.bytes_inj (by rw [← ByteArray.toList_eq, ← ByteArray.toList_eq]; exact e))

def IdxPost (x : ByteArray) (l : List ByteArray) (w : World) (e : Ending) (w' : World) : Prop := ∃ r : Int, (0 ≤ r ↔ x ∈ l) ∧ e = .returned (.int .i64 r) ∧ w = w'

set_option maxRecDepth 100000 in
set_option maxHeartbeats 400000 in
theorem index_any (v : Value) (l : List ByteArray) (x : ByteArray) (w : World) (S : Nat → Prop) (h : Strs w S v l) :
    Calls Tryd.prog 48 #[v, .string x] w (IdxPost x l w) := by
  have h' := h
  obtain ⟨A, len, c, rfl, hlen, hmax, hcap, -⟩ := h'
  have Hlen := Lib.hid hlen; clear hlen
  have H := Lib.hid h; clear h
  go_enter Tryd.func48, Tryd.ntmps48
  go_wp2
  go_loop [5, 8] (fun _ i => ∃ k : Nat, k ≤ len ∧ i = .int .i64 k ∧ x ∉ l.take k) (fun _ i => len - (intOf i).toNat)
  case atStart => exact ⟨0, Nat.zero_le _, rfl, by simp⟩
  case round =>
    obtain ⟨k, hk, rfl, hno⟩ := hrel
    have Hno := Lib.hid hno; clear hno
    by_cases hlt : k < len
    · obtain ⟨ad, s, rfl, hb, hs, hc, hsz⟩ := H.out.at_ hlt
      have Hs := Lib.hid hs; clear hs
      by_cases hx : x = s
      · have hin : x ∈ l := by rw [hx]; exact List.mem_of_getElem? Hs.out
        have Hin := Lib.hid hin; clear hin
        have hbq := eq_bytes hx
        have Hx := Lib.hid hx; clear hx
        go_wp2
        go_ret
        exact ⟨k, ⟨fun _ => Hin.out, fun _ => by omega⟩, rfl, rfl⟩
      · have hno2 : x ∉ l.take (k + 1) := by
          rw [List.take_add_one, Hs.out]
          simp only [Option.toList_some, List.mem_append, List.mem_singleton, not_or]
          exact ⟨Hno.out, hx⟩
        have Hno2 := Lib.hid hno2; clear hno2
        have hbq := ne_bytes hx
        have Hx := Lib.hid hx; clear hx
        go_wp2
        go_round
        case rel => exact ⟨k + 1, by omega, by go_num, Hno2.out⟩
        case measure => simp [intOf]; omega
    · have hfin : x ∉ l := by have := Hno.out; rwa [List.take_of_length_le (by have := Hlen.out; omega)] at this
      have Hfin := Lib.hid hfin; clear hfin
      go_wp2
      go_ret
      exact ⟨-1, ⟨fun h => by omega, fun h => absurd h Hfin.out⟩, rfl, rfl⟩

set_option maxRecDepth 100000 in
theorem contains_any (v : Value) (l : List ByteArray) (x : ByteArray) (w : World) (S : Nat → Prop) (h : Strs w S v l) :
    Calls Tryd.prog 38 #[v, .string x] w fun e w' => e = .returned (.bool (decide (x ∈ l))) ∧ w = w' := by
  have H := Lib.hid h; clear h
  cases hd : decide (x ∈ l)
  · have hn : x ∉ l := by simpa using hd
    have Hn := Lib.hid hn; clear hn hd
    go_enter Tryd.func38, Tryd.ntmps38
    go_wp2_with (go_at_call 48; refine (index_any _ l x _ S H.out).mono ?_; rintro e w' ⟨r, hr, rfl, rfl⟩; have hlt : ¬ 0 ≤ r := (fun hh => Hn.out (hr.1 hh)); clear hr)
    go_ret
    exact ⟨ret_bool (decide_eq_false (by omega)), rfl⟩
  · have hn : x ∈ l := by simpa using hd
    have Hn := Lib.hid hn; clear hn hd
    go_enter Tryd.func38, Tryd.ntmps38
    go_wp2_with (go_at_call 48; refine (index_any _ l x _ S H.out).mono ?_; rintro e w' ⟨r, hr, rfl, rfl⟩; have hlt : 0 ≤ r := hr.2 Hn.out; clear hr)
    go_ret
    exact ⟨rfl, rfl⟩

set_option maxRecDepth 100000 in
set_option maxHeartbeats 400000 in
theorem fnames_any (v : Value) (l : List ByteArray) (w : World) (B : Nat) (hB : B ≤ w.heap.size) (h : Strs w (· < B) v l) :
    Calls Tryd.prog 63 #[v] w fun e w' => e = .returned (.bool (l.all Fo.nmB)) ∧ Below w.heap.size w w' := by
  have h' := h
  obtain ⟨A, len, c, rfl, hlen, hmax, hcap, -⟩ := h'
  have Hlen := Lib.hid hlen; clear hlen
  have H := Lib.hid h; clear h
  go_enter Tryd.func63, Tryd.ntmps63
  go_wp2
  go_loopw [7] (fun i wr => ∃ k : Nat, k ≤ len ∧ i = .int .i64 k ∧ (l.take k).all Fo.nmB = true ∧ Below w.heap.size w wr) (fun i _ => len - (intOf i).toNat)
  case atStart => exact ⟨0, Nat.zero_le _, rfl, by simp, Below.refl _ _⟩
  case round =>
    obtain ⟨k, hk, rfl, hall, hbel⟩ := hrel
    have Hall := Lib.hid hall; clear hall
    have Hbel := Lib.hid hbel; clear hbel
    by_cases hlt : k < len
    · obtain ⟨ad, s, rfl, hb, hs, hc, hsz⟩ := (H.out.below (Hbel.out.mono hB)).at_ hlt
      have hd : l.getD k ⟨#[]⟩ = s := by rw [List.getD_eq_getElem?_getD, hs]; rfl
      have hts := all_take_succ Fo.nmB ⟨#[]⟩ l k (by have := Hlen.out; omega)
      have hfalse := all_of_take Fo.nmB ⟨#[]⟩ l k (by have := Hlen.out; omega)
      rw [Hall.out, Bool.true_and, hd] at hts
      rw [hd] at hfalse
      have Hs := Lib.hid hs; clear hs
      have Hts := Lib.hid hts; clear hts
      have Hfa := Lib.hid hfalse; clear hfalse
      clear hd
      cases hnm : Fo.nmB s
      · have Hnm := Lib.hid hnm; clear hnm
        go_wp2_with (go_at_call 59; refine (fname_any _ _ hsz).mono ?_; rw [show Sh.nameB s.toList = false from Hnm.out]; rintro e w1 ⟨rfl, hb1⟩)
        go_ret
        exact ⟨ret_bool (Hfa.out Hnm.out).symm, Hbel.out.trans (hb1.mono Hbel.out.size)⟩
      · have Hnm := Lib.hid hnm; clear hnm
        go_wp2_with (go_at_call 59; refine (fname_any _ _ hsz).mono ?_; rw [show Sh.nameB s.toList = true from Hnm.out]; rintro e w1 ⟨rfl, hb1⟩)
        go_roundw
        case rel => exact ⟨k + 1, by omega, by go_num, by rw [Hts.out]; exact Hnm.out, Hbel.out.trans (hb1.mono Hbel.out.size)⟩
        case measure => simp [intOf]; omega
    · have hall : l.all Fo.nmB = true := by
        have := Hall.out
        rwa [List.take_of_length_le (by have := Hlen.out; omega)] at this
      have Hal := Lib.hid hall; clear hall
      go_wp2
      go_ret
      exact ⟨ret_bool Hal.out.symm, Hbel.out⟩

theorem Strs.take {w : World} {S : Nat → Prop} {A : Option Addr} {n c k : Nat} {l : List ByteArray} (h : Strs w S (.slice A n c) l) (hk : k ≤ n) : Strs w S (.slice A k c) (l.take k) := by
  obtain ⟨A', n', c1, h1, h2, h3, h3c, h4, h5⟩ := h
  injection h1 with e1 e2 e3
  subst e1 e2 e3
  refine ⟨_, _, _, rfl, by rw [List.length_take]; omega, by omega, by omega, fun s hs => h4 s (List.mem_of_mem_take hs), fun hn => ?_⟩
  obtain ⟨ad, e, hb, hc⟩ := h5 (by omega)
  refine ⟨ad, e, hb, fun j s hs => hc j s ?_⟩
  rw [List.getElem?_take] at hs
  split at hs
  · exact hs
  · cases hs
theorem nodup_take_succ {l : List ByteArray} {k : Nat} {s : ByteArray} (hs : l[k]? = some s) : (l.take (k + 1)).Nodup ↔ (l.take k).Nodup ∧ s ∉ l.take k := by
  rw [List.take_add_one, hs, Option.toList_some, List.nodup_append]
  constructor
  · rintro ⟨h1, -, h3⟩
    exact ⟨h1, fun hm => h3 s hm s (List.mem_singleton.2 rfl) rfl⟩
  · rintro ⟨h1, h2⟩
    exact ⟨h1, by simp, fun a ha b hb e => h2 (by rw [List.mem_singleton] at hb; rw [← hb, ← e]; exact ha)⟩

set_option maxRecDepth 100000 in
set_option maxHeartbeats 400000 in
theorem fdifferent_any (v : Value) (l : List ByteArray) (w : World) (S : Nat → Prop) (h : Strs w S v l) :
    Calls Tryd.prog 64 #[v] w fun e w' => e = .returned (.bool (decide l.Nodup)) ∧ w = w' := by
  have h' := h
  obtain ⟨A, len, c, rfl, hlen, hmax, hcap, -⟩ := h'
  have Hlen := Lib.hid hlen; clear hlen
  have H := Lib.hid h; clear h
  go_enter Tryd.func64, Tryd.ntmps64
  go_wp2
  go_loop [3, 4, 7] (fun _ _ i => ∃ k : Nat, k ≤ len ∧ i = .int .i64 k ∧ (l.take k).Nodup) (fun _ _ i => len - (intOf i).toNat)
  case atStart => exact ⟨0, Nat.zero_le _, rfl, by simp⟩
  case round =>
    obtain ⟨k, hk, rfl, hnd⟩ := hrel
    have Hnd := Lib.hid hnd; clear hnd
    by_cases hlt : k < len
    · obtain ⟨ad, s, rfl, hb, hs, hc, hsz⟩ := H.out.at_ hlt
      have hts := nodup_take_succ hs
      have Hts := Lib.hid hts; clear hts
      have Hs := Lib.hid hs; clear hs
      cases hin : decide (s ∈ l.take k)
      · have Hin := Lib.hid hin; clear hin
        go_wp2_with (go_at_call 38; refine (contains_any _ (l.take k) s _ S (H.out.take (by omega))).mono ?_; rw [Hin.out]; rintro e w' ⟨rfl, rfl⟩)
        go_round
        case rel => exact ⟨k + 1, by omega, by go_num, Hts.out.2 ⟨Hnd.out, of_decide_eq_false Hin.out⟩⟩
        case measure => simp [intOf]; omega
      · have hbad : decide l.Nodup = false := by
          rw [decide_eq_false_iff_not]
          intro hl
          have h2 : (l.take (k + 1)).Nodup := hl.sublist (List.take_sublist _ _)
          exact (Hts.out.1 h2).2 (of_decide_eq_true hin)
        have Hbad := Lib.hid hbad; clear hbad
        have Hin := Lib.hid hin; clear hin
        go_wp2_with (go_at_call 38; refine (contains_any _ (l.take k) s _ S (H.out.take (by omega))).mono ?_; rw [Hin.out]; rintro e w' ⟨rfl, rfl⟩)
        go_ret
        exact ⟨ret_bool Hbad.out.symm, rfl⟩
    · have hfin : decide l.Nodup = true := by
        have := Hnd.out
        rw [List.take_of_length_le (by have := Hlen.out; omega)] at this
        exact decide_eq_true this
      have Hfin := Lib.hid hfin; clear hfin
      go_wp2
      go_ret
      exact ⟨ret_bool Hfin.out.symm, rfl⟩

set_option maxRecDepth 100000 in
set_option maxHeartbeats 1000000 in
theorem fnamed_any (k a : Int) (n : ByteArray) (A3 : Option Addr) (n3 c3 : Nat) (A4 : Option Addr) (n4 c4 : Nat) (A : Option Addr) (m c : Nat) (w : World) (hn : n.size ≤ 140737488351232) :
    Calls Tryd.prog 62 #[.agg #[.int .i64 k, .int .i64 a, .string n, .slice A3 n3 c3, .slice A4 n4 c4, .slice A m c]] w fun e w' => e = .returned (.bool (Fo.namedB k a n)) ∧ Below w.heap.size w w' := by
  have hfb : Fo.namedB k a n = if k = 11 then Sh.nameB n.toList && decide (0 ≤ a) && decide (a ≤ 12) else if k = 0 ∨ Fo.bindsB k = true then Sh.nameB n.toList && decide (a = 0) else decide (n.toList = []) && decide (a = 0) := rfl
  have hbw0 : Below w.heap.size w (w.alloc (.cells #[.int .i64 k, .int .i64 a, .string n, .slice A3 n3 c3, .slice A4 n4 c4, .slice A m c] 31)) := (Below.refl _ _).alloc (Nat.le_refl _) _
  have Hb0 := Lib.hid hbw0; clear hbw0
  by_cases h11 : k = 11
  · rw [if_pos h11] at hfb
    have Hfb := Lib.hid hfb; clear hfb
    have ht : (k == 11) = true := by rw [h11]; rfl
    have H11 := Lib.hid h11; clear h11
    cases hnm : Sh.nameB n.toList
    all_goals
      rw [hnm] at Hfb
      have Hnm := Lib.hid hnm; clear hnm
      go_enter Tryd.func62, Tryd.ntmps62
      go_wp2_with (go_at_call 59; refine (fname_any _ _ hn).mono ?_; rw [Hnm.out]; rintro e w1 ⟨rfl, hb1⟩
                   have hblk := (Blk.new w 31 #[_, .int .i64 a, .string n, .slice A3 n3 c3, .slice A4 n4 c4, .slice A m c]).below hb1 (by simp)
                   have d1 : w1.cell? ⟨w.heap.size, 1, none⟩ = some (.int .i64 a) := hblk.cell 1
                   have hbw := Hb0.out.trans (hb1.mono (by simp))
                   clear hb1 hblk)
      all_goals go_ret
      all_goals refine ⟨ret_bool ?_, hbw⟩
      all_goals rw [Hfb.out]
      all_goals first | rfl | (rw [Bool.eq_iff_iff]; simp only [Bool.true_and, Bool.and_eq_true, decide_eq_true_eq, Bool.false_eq_true, false_iff]; omega)
  · rw [if_neg h11] at hfb
    have ht : (k == 11) = false := by simpa using h11
    have H11 := Lib.hid h11; clear h11
    by_cases h0 : k = 0
    · subst h0
      rw [if_pos (.inl rfl)] at hfb
      have Hfb := Lib.hid hfb; clear hfb
      cases hnm : Sh.nameB n.toList
      all_goals
        rw [hnm] at Hfb
        have Hnm := Lib.hid hnm; clear hnm
        go_enter Tryd.func62, Tryd.ntmps62
        go_wp2_with (go_at_call 59; refine (fname_any _ _ hn).mono ?_; rw [Hnm.out]; rintro e w1 ⟨rfl, hb1⟩
                     have hblk := (Blk.new w 31 #[_, .int .i64 a, .string n, .slice A3 n3 c3, .slice A4 n4 c4, .slice A m c]).below hb1 (by simp)
                     have d1 : w1.cell? ⟨w.heap.size, 1, none⟩ = some (.int .i64 a) := hblk.cell 1
                     have hbw := Hb0.out.trans (hb1.mono (by simp))
                     clear hb1 hblk)
        all_goals go_ret
        all_goals refine ⟨ret_bool ?_, hbw⟩
        all_goals rw [Hfb.out]
        all_goals first | rfl | (rw [Bool.eq_iff_iff]; simp only [Bool.true_and, Bool.and_eq_true, decide_eq_true_eq, Bool.false_eq_true, false_iff, beq_iff_eq]; omega)
    · cases hbi : Fo.bindsB k
      · rw [if_neg (by rw [hbi]; simp; exact h0), show decide (n.toList = []) = n.toList.isEmpty by rw [Bool.eq_iff_iff]; simp] at hfb
        have Hfb := Lib.hid hfb; clear hfb
        have Hbi := Lib.hid hbi; clear hbi
        have hf : (k == 0) = false := by simpa using h0
        have H0 := Lib.hid h0; clear h0
        cases hem : n.toList.isEmpty
        all_goals
          go_enter Tryd.func62, Tryd.ntmps62
          go_wp2_with (go_at_call 33; refine (fbinds_any _ _).mono ?_; rw [Hbi.out]; rintro e w' ⟨rfl, rfl⟩)
          all_goals go_ret
          all_goals refine ⟨ret_bool ?_, Hb0.out⟩
          all_goals rw [Hfb.out, hem]
          all_goals first | rfl | (rw [Bool.eq_iff_iff]; simp)
      · rw [if_pos (.inr hbi)] at hfb
        have Hfb := Lib.hid hfb; clear hfb
        have Hbi := Lib.hid hbi; clear hbi
        have hf : (k == 0) = false := by simpa using h0
        have H0 := Lib.hid h0; clear h0
        cases hnm : Sh.nameB n.toList
        all_goals
          rw [hnm] at Hfb
          have Hnm := Lib.hid hnm; clear hnm
          go_enter Tryd.func62, Tryd.ntmps62
          go_wp2_with (first
            | (go_at_call 33; refine (fbinds_any _ _).mono ?_; rw [Hbi.out]; rintro e w' ⟨rfl, rfl⟩)
            | (go_at_call 59; refine (fname_any _ _ hn).mono ?_; rw [Hnm.out]; rintro e w1 ⟨rfl, hb1⟩
               have hblk := (Blk.new w 31 #[_, .int .i64 a, .string n, .slice A3 n3 c3, .slice A4 n4 c4, .slice A m c]).below hb1 (by simp)
               have d1 : w1.cell? ⟨w.heap.size, 1, none⟩ = some (.int .i64 a) := hblk.cell 1
               have hbw := Hb0.out.trans (hb1.mono (by simp))
               clear hb1 hblk))
          all_goals go_ret
          all_goals refine ⟨ret_bool ?_, hbw⟩
          all_goals rw [Hfb.out]
          all_goals first | rfl | (rw [Bool.eq_iff_iff]; simp only [Bool.true_and, Bool.and_eq_true, decide_eq_true_eq, Bool.false_eq_true, false_iff, beq_iff_eq]; omega)

/-- The box of a formula by value, since w. -/
structure Bx (w : World) (g : Nat) (t : TypeId) (cs : Array Value) (W : World) : Prop where
  blk : Blk W g t cs
  bel : Below w.heap.size w W
theorem Bx.step {w : World} {g : Nat} {t : TypeId} {cs : Array Value} {W W' : World} (h : Bx w g t cs W) (hb : Below W.heap.size W W') : Bx w g t cs W' :=
  ⟨Blk.below h.blk hb (Blk.lt h.blk), h.bel.trans (hb.mono h.bel.size)⟩
theorem Bx.new (w : World) (t : TypeId) (cs : Array Value) : Bx w w.heap.size t cs (w.alloc (.cells cs t)) := ⟨Blk.new w t cs, (Below.refl _ _).alloc (Nat.le_refl _) _⟩
theorem Bx.six {w : World} {g : Nat} {t : TypeId} {x0 x1 x2 x3 x4 x5 : Value} {W : World} (h : Bx w g t #[x0, x1, x2, x3, x4, x5] W) :
    W.cell? ⟨g, 0, none⟩ = some x0 ∧ W.cell? ⟨g, 1, none⟩ = some x1 ∧ W.cell? ⟨g, 2, none⟩ = some x2 ∧ W.cell? ⟨g, 3, none⟩ = some x3 ∧ W.cell? ⟨g, 4, none⟩ = some x4 ∧ W.cell? ⟨g, 5, none⟩ = some x5 :=
  ⟨h.blk.cell 0, h.blk.cell 1, h.blk.cell 2, h.blk.cell 3, h.blk.cell 4, h.blk.cell 5⟩

set_option maxRecDepth 100000 in
set_option maxHeartbeats 2000000 in
theorem ffits_any (k a : Int) (n : ByteArray) (vs ar : List ByteArray) (ks : List FB) (cs : List Value) (w : World) (B : Nat) (hB : B ≤ w.heap.size) (hf : FVal w (· < B) (.mk k a n vs ar ks) cs) :
    Calls Tryd.prog 49 #[.agg cs.toArray] w fun e w' => e = .returned (.bool (Fo.fitP k a n vs ar ks.length)) ∧ Below w.heap.size w w' := by
  obtain ⟨A3, n3, c3, A4, n4, c4, A, m, c, rfl, hn, h3, h4, hm, hmm, -, -⟩ := hf.open_
  have hm3 : n3 ≤ 140737488351232 := by obtain ⟨_, _, _, e, _, h, -⟩ := h3; injection e with _ e; omega
  have hm4 : n4 ≤ 140737488351232 := by obtain ⟨_, _, _, e, _, h, -⟩ := h4; injection e with _ e; omega
  have e3 := h3.length
  have e4 := h4.length
  have hdef : Fo.fitP k a n vs ar ks.length = (Fo.numbersB k n3 n4 m && Fo.namedB k a n && ar.all Fo.nmB && vs.all Fo.nmB && decide vs.Nodup) := by unfold Fo.fitP; rw [← e3, ← e4, ← hm]
  have hnum : ∀ W, Bx w w.heap.size 31 #[.int .i64 k, .int .i64 a, .string n, .slice A3 n3 c3, .slice A4 n4 c4, .slice A m c] W → Calls Tryd.prog 61 #[.agg #[.int .i64 k, .int .i64 a, .string n, .slice A3 n3 c3, .slice A4 n4 c4, .slice A m c]] W fun e w' => e = .returned (.bool (Fo.numbersB k n3 n4 m)) ∧ Bx w w.heap.size 31 #[.int .i64 k, .int .i64 a, .string n, .slice A3 n3 c3, .slice A4 n4 c4, .slice A m c] w' :=
    fun W hx => (fnumbers_any k a n A3 n3 c3 A4 n4 c4 A m c W hm3 hm4 hmm).mono fun _ _ ⟨he, hb⟩ => ⟨he, hx.step hb⟩
  have hnam : ∀ W, Bx w w.heap.size 31 #[.int .i64 k, .int .i64 a, .string n, .slice A3 n3 c3, .slice A4 n4 c4, .slice A m c] W → Calls Tryd.prog 62 #[.agg #[.int .i64 k, .int .i64 a, .string n, .slice A3 n3 c3, .slice A4 n4 c4, .slice A m c]] W fun e w' => e = .returned (.bool (Fo.namedB k a n)) ∧ Bx w w.heap.size 31 #[.int .i64 k, .int .i64 a, .string n, .slice A3 n3 c3, .slice A4 n4 c4, .slice A m c] w' :=
    fun W hx => (fnamed_any k a n A3 n3 c3 A4 n4 c4 A m c W hn).mono fun _ _ ⟨he, hb⟩ => ⟨he, hx.step hb⟩
  have har : ∀ W, Bx w w.heap.size 31 #[.int .i64 k, .int .i64 a, .string n, .slice A3 n3 c3, .slice A4 n4 c4, .slice A m c] W → Calls Tryd.prog 63 #[.slice A4 n4 c4] W fun e w' => e = .returned (.bool (ar.all Fo.nmB)) ∧ Bx w w.heap.size 31 #[.int .i64 k, .int .i64 a, .string n, .slice A3 n3 c3, .slice A4 n4 c4, .slice A m c] w' :=
    fun W hx => (fnames_any _ ar W B (Nat.le_trans hB hx.bel.size) (h4.below (hx.bel.mono hB))).mono fun _ _ ⟨he, hb⟩ => ⟨he, hx.step hb⟩
  have hva : ∀ W, Bx w w.heap.size 31 #[.int .i64 k, .int .i64 a, .string n, .slice A3 n3 c3, .slice A4 n4 c4, .slice A m c] W → Calls Tryd.prog 63 #[.slice A3 n3 c3] W fun e w' => e = .returned (.bool (vs.all Fo.nmB)) ∧ Bx w w.heap.size 31 #[.int .i64 k, .int .i64 a, .string n, .slice A3 n3 c3, .slice A4 n4 c4, .slice A m c] w' :=
    fun W hx => (fnames_any _ vs W B (Nat.le_trans hB hx.bel.size) (h3.below (hx.bel.mono hB))).mono fun _ _ ⟨he, hb⟩ => ⟨he, hx.step hb⟩
  have hdi : ∀ W, Bx w w.heap.size 31 #[.int .i64 k, .int .i64 a, .string n, .slice A3 n3 c3, .slice A4 n4 c4, .slice A m c] W → Calls Tryd.prog 64 #[.slice A3 n3 c3] W fun e w' => e = .returned (.bool (decide vs.Nodup)) ∧ Bx w w.heap.size 31 #[.int .i64 k, .int .i64 a, .string n, .slice A3 n3 c3, .slice A4 n4 c4, .slice A m c] w' :=
    fun W hx => (fdifferent_any _ vs W _ (h3.below (hx.bel.mono hB))).mono fun _ _ ⟨he, hb⟩ => ⟨he, hb ▸ hx⟩
  clear hm3 hm4 hmm hm e3 e4 h3 h4 hf
  rw [hdef]
  clear hdef
  have hb0 := Bx.new w 31 #[.int .i64 k, .int .i64 a, .string n, .slice A3 n3 c3, .slice A4 n4 c4, .slice A m c]
  have Hb0 := Lib.hid hb0; clear hb0
  generalize Fo.numbersB k n3 n4 m = b1 at *
  generalize Fo.namedB k a n = b2 at *
  generalize ar.all Fo.nmB = b3 at *
  generalize vs.all Fo.nmB = b4 at *
  generalize decide vs.Nodup = b5 at *
  have Hnum := Lib.hid hnum; clear hnum
  have Hnam := Lib.hid hnam; clear hnam
  have Har := Lib.hid har; clear har
  have Hva := Lib.hid hva; clear hva
  have Hdi := Lib.hid hdi; clear hdi
  cases b1 <;> cases b2 <;> cases b3 <;> cases b4
  all_goals
    go_enter Tryd.func49, Tryd.ntmps49
    go_wp2_with (first
      | (go_at_call 61; refine (Hnum.out _ Hb0.out).mono ?_; rintro e w1 ⟨rfl, hx1⟩; obtain ⟨d0, d1, d2, d3, d4, d5⟩ := hx1.six; have Hx1 := Lib.hid hx1; clear hx1)
      | (go_at_call 62; refine (Hnam.out _ Hx1.out).mono ?_; rintro e w2 ⟨rfl, hx2⟩; clear d0 d1 d2 d3 d4 d5; obtain ⟨d0, d1, d2, d3, d4, d5⟩ := hx2.six; have Hx2 := Lib.hid hx2; clear hx2)
      | (go_at_call_of 63 (Value.slice A4 n4 c4); refine (Har.out _ Hx2.out).mono ?_; rintro e w3 ⟨rfl, hx3⟩; clear d0 d1 d2 d3 d4 d5; obtain ⟨d0, d1, d2, d3, d4, d5⟩ := hx3.six; have Hx3 := Lib.hid hx3; clear hx3)
      | (go_at_call_of 63 (Value.slice A3 n3 c3); refine (Hva.out _ Hx3.out).mono ?_; rintro e w4 ⟨rfl, hx4⟩; clear d0 d1 d2 d3 d4 d5; obtain ⟨d0, d1, d2, d3, d4, d5⟩ := hx4.six; have Hx4 := Lib.hid hx4; clear hx4)
      | (go_at_call 64; refine (Hdi.out _ Hx4.out).mono ?_; rintro e w5 ⟨rfl, hx5⟩; have Hx5 := Lib.hid hx5; clear hx5)
      )
    go_ret
    refine ⟨ret_bool (by simp), ?_⟩
    first | exact Hx5.out.bel | exact Hx4.out.bel | exact Hx3.out.bel | exact Hx2.out.bel | exact Hx1.out.bel

end Go.Proofs.YtmnpelhcgobfaaaDoor
