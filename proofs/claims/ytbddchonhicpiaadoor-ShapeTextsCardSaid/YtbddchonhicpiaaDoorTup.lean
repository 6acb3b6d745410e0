/-
  Walks: the reader's method tuple.
-/
import Derived.Test.YtbddchonhicpiaaDoorNum
import Derived.Test.YtbddchonhicpiaaDoorNew
import Derived.Test.YtbddchonhicpiaaDoorTuple
namespace Go.Proofs.YtbddchonhicpiaaDoor
open Go.RowKit

/-- append of one int to a row of the call's own. -/
theorem append1_int {ops : Array Oper} {rest : List Oper} {o : Oper} {a : Act} {Q : Exit → Act → World → Prop} (w : World) (hgd : o.guard = none) (s x : Operand)
    (ho : o.op = .call { callee := .builtin .append, args := #[s, x], argTypes := #[35, 35] })
    (base : Nat) (v : Value) (n : Nat) (xs : List Int) (hs : a.eval s = v) (hown : w.ownsRow base 3 1 v n (xs.map (Value.int .i64)))
    (ad : Addr) (c : Nat) (y : Int) (hx : a.eval x = .slice (some ad) 1 c) (hc : w.cell? ad = some (.int .i64 y)) (hn : n ≤ 1000000) (hbase : base ≤ w.heap.size)
    (h : ∀ v' w', w'.ownsRow base 3 1 v' (n + 1) ((xs ++ [y]).map (Value.int .i64)) → w.grownBy w' v.ownBlock → wpList Tryd.prog ops Q rest (a.put o.dst v') w') :
    wpList Tryd.prog ops Q (o :: rest) a w := by
  obtain ⟨i0, hi, hz0, hz1, hz2⟩ := info_parts int_info
  refine wpList_append_own w hgd s x 35 ho base 3 i0 (.int .i64 0) 1 8 Tryd.underlying35 hi hz0 hz1 hz2 rfl (by decide) v n _ hs hown ad 1 c [.int .i64 y] hx rfl ?_ ?_ (by unfold maxLen; omega) (by omega) hbase ?_
  · intro j u hu
    rcases j with _ | j
    · simp at hu; rw [← hu]; exact hc
    · simp at hu
  · intro u hu; simp at hu; rw [hu]; rfl
  · intro v' w' h1 h2 _
    exact h v' w' (by rw [List.map_append]; exact h1) h2

theorem toList_lit (l : List UInt8) : (⟨l.toArray⟩ : ByteArray).toList = l := by rw [ByteArray.toList_eq]

/-- What tuple leaves: a tuple of its own behind which the reader stands, or the panic. -/
def TupPost (R n : Nat) (text : ByteArray) (w : World) (e : Ending) (w' : World) : Prop :=
  w.grownBy w' (some R) ∧ match tupP (text.toList.drop n) with
    | some p => ∃ v n', e = .returned v ∧ NInts w' w.heap.size v p.1 ∧ n' ≤ text.size ∧ text.toList.drop n' = p.2 ∧ Rdr w' R text n'
    | none => e = .panicked errChain
theorem TupPost.ok {R n : Nat} {text : ByteArray} {w w' : World} {v : Value} {p : List Int × List UInt8} (n' : Nat) (ht : tupP (text.toList.drop n) = some p) (hg : w.grownBy w' (some R))
    (h1 : NInts w' w.heap.size v p.1) (h2 : n' ≤ text.size) (h3 : text.toList.drop n' = p.2) (h4 : Rdr w' R text n') : TupPost R n text w (.returned v) w' :=
  ⟨hg, by rw [ht]; exact ⟨v, n', rfl, h1, h2, h3, h4⟩⟩
theorem TupPost.bad {R n : Nat} {text : ByteArray} {w w' : World} (ht : tupP (text.toList.drop n) = none) (hg : w.grownBy w' (some R)) : TupPost R n text w (.panicked errChain) w' :=
  ⟨hg, by rw [ht]⟩

set_option maxRecDepth 100000 in
set_option maxHeartbeats 400000 in
theorem rtuple_any (R n : Nat) (text : ByteArray) (w : World) (hr : Rdr w R text n) (hn : n ≤ text.size) (hs : text.size ≤ 100000) (hv : Vars w) (hR : 5 ≤ R) (hw : 5 ≤ w.heap.size) (hRw : R < w.heap.size) :
    Calls Tryd.prog 118 #[.pointer (some ⟨R, 0, none⟩)] w
      (TupPost R n text w) := by
  have hskip := skip_any R n text ⟨#[40, 41]⟩ w hr hn hs (by decide)
  rw [show (⟨#[40, 41]⟩ : ByteArray).toList = [40, 41] from toList_lit _, show (⟨#[40, 41]⟩ : ByteArray).size = 2 from rfl] at hskip
  cases hp : [40, 41].isPrefixOf (text.toList.drop n)
  · rw [hp] at hskip
    have hnum := fun W (h1 : Rdr W R text n) (h2 : Vars W) (h3 : 5 ≤ W.heap.size) => number_any R n text W h1 hn hs h2 hR h3
    cases hnp : numP (text.toList.drop n) with
    | none =>
      have htp := tupP_bad hp hnp
      rw [hnp] at hnum
      have Hskip := Lib.hid hskip; clear hskip
      have Hnum := Lib.hid hnum; clear hnum
      have Htp := Lib.hid htp; clear htp hnp hp
      go_enter Tryd.func118, Tryd.ntmps118
      go_wp2_with (first
        | (go_at_call 117; refine (Hskip.out).mono ?_; rintro e w1 ⟨rfl, hr1, hg1⟩)
        | (go_at_call 97; refine (Hnum.out w1 hr1 (hv.grown hg1 hR hw) (Nat.le_trans hw hg1.size)).mono ?_; rintro e w2 ⟨hg2, rfl⟩))
      exact ⟨rfl, TupPost.bad Htp.out (grownBy_trans hg1 hg2)⟩
    | some v0 =>
      have htp := tupP_more hp hnp
      rw [hnp] at hnum
      have hle := runLen_le Sh.digitB text n hn
      have hdr : digRun (text.toList.drop n) = runLen Sh.digitB text n := rfl
      rw [hdr, List.drop_drop] at htp
      have hpos : 1 ≤ runLen Sh.digitB text n := numP_pos hnp
      generalize runLen Sh.digitB text n = L0 at *
      have Hskip := Lib.hid hskip; clear hskip
      have Hnum := Lib.hid hnum; clear hnum
      have Htp := Lib.hid htp; clear htp hnp hp hdr
      go_enter Tryd.func118, Tryd.ntmps118
      go_wp2_with (first
        | (go_at_call 117; refine (Hskip.out).mono ?_; rintro e w1 ⟨rfl, hr1, hg1⟩)
        | (go_at_call 97; refine (Hnum.out w1 hr1 (hv.grown hg1 hR hw) (Nat.le_trans hw hg1.size)).mono ?_; rintro e w2 ⟨hg2, rfl, hr2⟩))
      have hr3 : Rdr (w2.alloc (.cells #[.int .i64 v0] 3)) R text (n + L0) := Blk.alloc hr2 _
      have hown3 : (w2.alloc (.cells #[.int .i64 v0] 3)).ownsRow w.heap.size 3 1 (.slice (some ⟨w2.heap.size, 0, none⟩) 1 1) 1 ([v0].map (Value.int .i64)) :=
        World.ownsRow_lit w2 #[.int .i64 v0] 1 (Nat.le_trans hg1.size hg2.size) (by decide) rfl
      have hbut3 : But w.heap.size R w (w2.alloc (.cells #[.int .i64 v0] 3)) :=
        (But.of_grown (grownBy_trans hg1 hg2) (Nat.le_refl _)).trans (But.alloc (Nat.le_trans hg1.size hg2.size) _)
      clear hr1 hr2 hg1
      generalize w2.alloc (.cells #[.int .i64 v0] 3) = w3 at *
      go_loopg [3] text.size (fun gg v wr => ∃ (k : Nat) (xs : List Int), k ≤ text.size ∧ text.size - k ≤ gg ∧ 1 ≤ xs.length ∧ xs.length ≤ k ∧ Rdr wr R text k ∧
        wr.ownsRow w.heap.size 3 1 v xs.length (xs.map (Value.int .i64)) ∧ But w.heap.size R w wr ∧
        tupP (text.toList.drop n) = (numsP (text.toList.drop k)).map fun p => (xs ++ p.1, p.2))
      case atStart => exact ⟨n + L0, [v0], hle, by omega, Nat.le_refl _, by simp; omega, hr3, hown3, hbut3, by rw [Htp.out]; rfl⟩
      case round =>
        obtain ⟨k, xs, hk, hgg, hx1, hxk, hrk, hown, hbut, heq⟩ := hrel
        have Heq := Lib.hid heq; clear heq
        have Hown := Lib.hid hown; clear hown
        have hskip := skip_any R k text ⟨#[44]⟩ wr hrk hk hs (by decide)
        rw [show (⟨#[44]⟩ : ByteArray).toList = [44] from toList_lit _, show (⟨#[44]⟩ : ByteArray).size = 1 from rfl] at hskip
        cases hc : [44].isPrefixOf (text.toList.drop k)
        · rw [hc] at hskip
          have hst := numsP_stop hc
          have Hst := Lib.hid hst; clear hst hc
          have Hskip2 := Lib.hid hskip; clear hskip
          go_wp2_with (go_at_call 117; refine (Hskip2.out).mono ?_; rintro e w4 ⟨rfl, hr4, hg4⟩)
          go_ret
          have hown4 := own_grown Hown.out hg4 hRw
          exact TupPost.ok k (by rw [Heq.out, Hst.out]; rfl) (hbut.trans (But.of_grown hg4 hbut.size)).grown (by simpa using NInts.own hown4 (Nat.le_refl _) (by omega)) hk rfl hr4
        · rw [hc] at hskip
          have hlen1 : k + 1 ≤ text.size := by
            have := (List.isPrefixOf_iff_prefix.1 hc).length_le
            rw [List.length_drop, length_bytes] at this
            simp at this; omega
          have hnum := fun W (h1 : Rdr W R text (k + 1)) (h2 : Vars W) (h3 : 5 ≤ W.heap.size) => number_any R (k + 1) text W h1 hlen1 hs h2 hR h3
          have hdd : text.toList.drop (k + 1) = (text.toList.drop k).drop 1 := by rw [List.drop_drop]
          rw [hdd] at hnum
          have Hskip2 := Lib.hid hskip; clear hskip
          have hszr := hbut.size
          cases hnp : numP ((text.toList.drop k).drop 1) with
          | none =>
            rw [hnp] at hnum
            have hst := numsP_bad hc hnp
            have Hst := Lib.hid hst; clear hst hc hnp
            have Hnum2 := Lib.hid hnum; clear hnum hdd
            go_wp2_with (first
              | (go_at_call 117; refine (Hskip2.out).mono ?_; rintro e w4 ⟨rfl, hr4, hg4⟩)
              | (go_at_call 97; refine (Hnum2.out w4 hr4 (hv.grown ((hbut.trans (But.of_grown hg4 hbut.size)).grown) hR hw) (Nat.le_trans hw (Nat.le_trans hszr hg4.size))).mono ?_; rintro e w5 ⟨hg5, rfl⟩))
            exact ⟨rfl, TupPost.bad (by rw [Heq.out, Hst.out]; rfl) (hbut.trans ((But.of_grown hg4 hszr).trans (But.of_grown hg5 (Nat.le_trans hszr hg4.size)))).grown⟩
          | some v1 =>
            rw [hnp] at hnum
            have hst := numsP_more hc hnp
            have hdr : digRun ((text.toList.drop k).drop 1) = runLen Sh.digitB text (k + 1) := by rw [← hdd]; rfl
            rw [hdr, ← hdd, List.drop_drop] at hst
            have hle2 := runLen_le Sh.digitB text (k + 1) hlen1
            have hpos2 : 1 ≤ runLen Sh.digitB text (k + 1) := by rw [← hdr]; exact numP_pos hnp
            generalize runLen Sh.digitB text (k + 1) = L1 at *
            have Hst := Lib.hid hst; clear hst hc hnp hdr
            have Hnum2 := Lib.hid hnum; clear hnum hdd
            go_wp2_with (first
              | (go_at_call 117; refine (Hskip2.out).mono ?_; rintro e w4 ⟨rfl, hr4, hg4⟩)
              | (go_at_call 97; refine (Hnum2.out w4 hr4 (hv.grown ((hbut.trans (But.of_grown hg4 hbut.size)).grown) hR hw) (Nat.le_trans hw (Nat.le_trans hszr hg4.size))).mono ?_; rintro e w5 ⟨hg5, rfl, hr5⟩; have Hown5 := Lib.hid (own_grown (own_grown Hown.out hg4 hRw) hg5 hRw); have hs4 := hg4.size; have hs5 := hg5.size)
              | (at_builtin; refine append1_int _ rfl _ _ rfl w.heap.size _ xs.length xs rfl (Hown5.out.alloc _) ⟨w5.heap.size, 0, none⟩ 1 v1 rfl ((Blk.new w5 3 #[.int .i64 v1]).cell 0) (by omega) (by simp; omega) ?_; intro v' w7 hown7 hg7))
            go_roundg (text.size - (k + 1 + L1))
            case measure => omega
            case rel =>
              refine ⟨k + 1 + L1, xs ++ [v1], by omega, by omega, by simp, by simp; omega, ?_, by simpa using hown7, ?_, ?_⟩
              · exact Blk.grown (Blk.alloc hr5 _) hg7 (fun e => absurd (Hown5.out.lt R e.symm).1 (by omega))
              · refine hbut.trans ((But.of_grown hg4 hszr).trans ((But.of_grown hg5 (by omega)).trans ((But.alloc (by omega) _).trans (But.row hg7 (by simp; omega) (fun g e => (Hown5.out.lt g e).1)))))
              · rw [Heq.out, Hst.out, Option.map_map]
                congr 1
                funext p
                simp
  · rw [hp] at hskip
    have htp := tupP_unit hp
    have hle2 : n + 2 ≤ text.size := by
      have := (List.isPrefixOf_iff_prefix.1 hp).length_le
      rw [List.length_drop, length_bytes] at this
      simp at this; omega
    rw [List.drop_drop] at htp
    have Hskip := Lib.hid hskip; clear hskip
    have Htp := Lib.hid htp; clear htp hp
    go_enter Tryd.func118, Tryd.ntmps118
    go_wp2_with (go_at_call 117; refine (Hskip.out).mono ?_; rintro e w1 ⟨rfl, hr1, hg1⟩)
    go_ret
    exact TupPost.ok (n + 2) Htp.out (grownBy_trans hg1 (World.grownBy_alloc _ _ _)) ⟨_, _, _, rfl, rfl, by omega, fun h => absurd h (by omega)⟩ hle2 rfl (Blk.alloc hr1 _)

end Go.Proofs.YtbddchonhicpiaaDoor
