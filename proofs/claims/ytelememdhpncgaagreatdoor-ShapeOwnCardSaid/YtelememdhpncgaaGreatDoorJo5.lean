/-
  Texts joined: Tup, Own, Relat.
-/
import Derived.Test.YtelememdhpncgaaGreatDoorJo4
import Derived.Deep.RegionHeld3

/-
  Walks: the reader's method tuple.
-/
namespace Go.Proofs.YtelememdhpncgaaGreatDoor
open Go.RowKit

/-- append of one int to a row of the call's own. -/
theorem append1_int {ops : Array Oper} {rest : List Oper} {o : Oper} {a : Act} {Q : Exit → Act → World → Prop} (w : World) (hgd : o.guard = none) (s x : Operand)
    (ho : o.op = .call { callee := .builtin .append, args := #[s, x], argTypes := #[25, 25] })
    (base : Nat) (v : Value) (n : Nat) (xs : List Int) (hs : a.eval s = v) (hown : w.ownsRow base 3 1 v n (xs.map (Value.int .i64)))
    (ad : Addr) (c : Nat) (y : Int) (hx : a.eval x = .slice (some ad) 1 c) (hc : w.cell? ad = some (.int .i64 y)) (hn : n ≤ 1000000) (hbase : base ≤ w.heap.size)
    (h : ∀ v' w', w'.ownsRow base 3 1 v' (n + 1) ((xs ++ [y]).map (Value.int .i64)) → w.grownBy w' v.ownBlock → wpList Tryz.prog ops Q rest (a.put o.dst v') w') :
    wpList Tryz.prog ops Q (o :: rest) a w := by
  obtain ⟨i0, hi, hz0, hz1, hz2⟩ := info_parts int_info
  refine wpList_append_own w hgd s x 25 ho base 3 i0 (.int .i64 0) 1 8 Tryz.underlying25 hi hz0 hz1 hz2 rfl (by decide) v n _ hs hown ad 1 c [.int .i64 y] hx rfl ?_ ?_ (by unfold maxLen; omega) (by omega) hbase ?_
  · intro j u hu
    rcases j with _ | j
    · simp at hu; rw [← hu]; exact hc
    · simp at hu
  · intro u hu; simp at hu; rw [hu]; rfl
  · intro v' w' h1 h2 _
    exact h v' w' (by rw [List.map_append]; exact h1) h2

theorem toList_lit (l : List UInt8) : (⟨l.toArray⟩ : ByteArray).toList = l := by rw [ByteArray.toList_eq]

/-- What tuple leaves: a tuple of its own behind which the reader stands, or the panic. -/
def TupPost (R n : Nat) (text : ByteArray) (w : World) (e : Ending) (w' : World) : Prop :=
  w.grownBy w' (some R) ∧ match tupP (text.toList.drop n) with
    | some p => ∃ v n', e = .returned v ∧ NInts w' w.heap.size v p.1 ∧ n' ≤ text.size ∧ text.toList.drop n' = p.2 ∧ Rdr w' R text n'
    | none => e = .panicked errChain
theorem TupPost.ok {R n : Nat} {text : ByteArray} {w w' : World} {v : Value} {p : List Int × List UInt8} (n' : Nat) (ht : tupP (text.toList.drop n) = some p) (hg : w.grownBy w' (some R))
    (h1 : NInts w' w.heap.size v p.1) (h2 : n' ≤ text.size) (h3 : text.toList.drop n' = p.2) (h4 : Rdr w' R text n') : TupPost R n text w (.returned v) w' :=
  ⟨hg, by rw [ht]; exact ⟨v, n', rfl, h1, h2, h3, h4⟩⟩
theorem TupPost.bad {R n : Nat} {text : ByteArray} {w w' : World} (ht : tupP (text.toList.drop n) = none) (hg : w.grownBy w' (some R)) : TupPost R n text w (.panicked errChain) w' :=
  ⟨hg, by rw [ht]⟩

set_option maxRecDepth 100000 in
set_option maxHeartbeats 400000 in
theorem rtuple_any (R n : Nat) (text : ByteArray) (w : World) (hr : Rdr w R text n) (hn : n ≤ text.size) (hs : text.size ≤ 100000) (hv : Vars w) (hR : 5 ≤ R) (hw : 5 ≤ w.heap.size) (hRw : R < w.heap.size) :
    Calls Tryz.prog 88 #[.pointer (some ⟨R, 0, none⟩)] w
      (TupPost R n text w) := by
  have hskip := skip_any R n text ⟨#[40, 41]⟩ w hr hn hs (by decide)
  rw [show (⟨#[40, 41]⟩ : ByteArray).toList = [40, 41] from toList_lit _, show (⟨#[40, 41]⟩ : ByteArray).size = 2 from rfl] at hskip
  cases hp : [40, 41].isPrefixOf (text.toList.drop n)
  · rw [hp] at hskip
    have hnum := fun W (h1 : Rdr W R text n) (h2 : Vars W) (h3 : 5 ≤ W.heap.size) => number_any R n text W h1 hn hs h2 hR h3
    cases hnp : numP (text.toList.drop n) with
    | none =>
      have htp := tupP_bad hp hnp
      rw [hnp] at hnum
      have Hskip := Lib.hid hskip; clear hskip
      have Hnum := Lib.hid hnum; clear hnum
      have Htp := Lib.hid htp; clear htp hnp hp
      go_enter Tryz.func88, Tryz.ntmps88
      go_wp2_with (first
        | (go_at_call 87; refine (Hskip.out).mono ?_; rintro e w1 ⟨rfl, hr1, hg1⟩)
        | (go_at_call 63; refine (Hnum.out w1 hr1 (hv.grown hg1 hR hw) (Nat.le_trans hw hg1.size)).mono ?_; rintro e w2 ⟨hg2, rfl⟩))
      exact ⟨rfl, TupPost.bad Htp.out (grownBy_trans hg1 hg2)⟩
    | some v0 =>
      have htp := tupP_more hp hnp
      rw [hnp] at hnum
      have hle := runLen_le Sh.digitB text n hn
      have hdr : digRun (text.toList.drop n) = runLen Sh.digitB text n := rfl
      rw [hdr, List.drop_drop] at htp
      have hpos : 1 ≤ runLen Sh.digitB text n := numP_pos hnp
      generalize runLen Sh.digitB text n = L0 at *
      have Hskip := Lib.hid hskip; clear hskip
      have Hnum := Lib.hid hnum; clear hnum
      have Htp := Lib.hid htp; clear htp hnp hp hdr
      go_enter Tryz.func88, Tryz.ntmps88
      go_wp2_with (first
        | (go_at_call 87; refine (Hskip.out).mono ?_; rintro e w1 ⟨rfl, hr1, hg1⟩)
        | (go_at_call 63; refine (Hnum.out w1 hr1 (hv.grown hg1 hR hw) (Nat.le_trans hw hg1.size)).mono ?_; rintro e w2 ⟨hg2, rfl, hr2⟩))
      have hr3 : Rdr (w2.alloc (.cells #[.int .i64 v0] 3)) R text (n + L0) := Blk.alloc hr2 _
      have hown3 : (w2.alloc (.cells #[.int .i64 v0] 3)).ownsRow w.heap.size 3 1 (.slice (some ⟨w2.heap.size, 0, none⟩) 1 1) 1 ([v0].map (Value.int .i64)) :=
        World.ownsRow_lit w2 #[.int .i64 v0] 1 (Nat.le_trans hg1.size hg2.size) (by decide) rfl
      have hbut3 : But w.heap.size R w (w2.alloc (.cells #[.int .i64 v0] 3)) :=
        (But.of_grown (grownBy_trans hg1 hg2) (Nat.le_refl _)).trans (But.alloc (Nat.le_trans hg1.size hg2.size) _)
      clear hr1 hr2 hg1
      generalize w2.alloc (.cells #[.int .i64 v0] 3) = w3 at *
      go_loopg [3] text.size (fun gg v wr => ∃ (k : Nat) (xs : List Int), k ≤ text.size ∧ text.size - k ≤ gg ∧ 1 ≤ xs.length ∧ xs.length ≤ k ∧ Rdr wr R text k ∧
        wr.ownsRow w.heap.size 3 1 v xs.length (xs.map (Value.int .i64)) ∧ But w.heap.size R w wr ∧
        tupP (text.toList.drop n) = (numsP (text.toList.drop k)).map fun p => (xs ++ p.1, p.2))
      case atStart => exact ⟨n + L0, [v0], hle, by omega, Nat.le_refl _, by simp; omega, hr3, hown3, hbut3, by rw [Htp.out]; rfl⟩
      case round =>
        obtain ⟨k, xs, hk, hgg, hx1, hxk, hrk, hown, hbut, heq⟩ := hrel
        have Heq := Lib.hid heq; clear heq
        have Hown := Lib.hid hown; clear hown
        have hskip := skip_any R k text ⟨#[44]⟩ wr hrk hk hs (by decide)
        rw [show (⟨#[44]⟩ : ByteArray).toList = [44] from toList_lit _, show (⟨#[44]⟩ : ByteArray).size = 1 from rfl] at hskip
        cases hc : [44].isPrefixOf (text.toList.drop k)
        · rw [hc] at hskip
          have hst := numsP_stop hc
          have Hst := Lib.hid hst; clear hst hc
          have Hskip2 := Lib.hid hskip; clear hskip
          go_wp2_with (go_at_call 87; refine (Hskip2.out).mono ?_; rintro e w4 ⟨rfl, hr4, hg4⟩)
          go_ret
          have hown4 := own_grown Hown.out hg4 hRw
          exact TupPost.ok k (by rw [Heq.out, Hst.out]; rfl) (hbut.trans (But.of_grown hg4 hbut.size)).grown (by simpa using NInts.own hown4 (Nat.le_refl _) (by omega)) hk rfl hr4
        · rw [hc] at hskip
          have hlen1 : k + 1 ≤ text.size := by
            have := (List.isPrefixOf_iff_prefix.1 hc).length_le
            rw [List.length_drop, length_bytes] at this
            simp at this; omega
          have hnum := fun W (h1 : Rdr W R text (k + 1)) (h2 : Vars W) (h3 : 5 ≤ W.heap.size) => number_any R (k + 1) text W h1 hlen1 hs h2 hR h3
          have hdd : text.toList.drop (k + 1) = (text.toList.drop k).drop 1 := by rw [List.drop_drop]
          rw [hdd] at hnum
          have Hskip2 := Lib.hid hskip; clear hskip
          have hszr := hbut.size
          cases hnp : numP ((text.toList.drop k).drop 1) with
          | none =>
            rw [hnp] at hnum
            have hst := numsP_bad hc hnp
            have Hst := Lib.hid hst; clear hst hc hnp
            have Hnum2 := Lib.hid hnum; clear hnum hdd
            go_wp2_with (first
              | (go_at_call 87; refine (Hskip2.out).mono ?_; rintro e w4 ⟨rfl, hr4, hg4⟩)
              | (go_at_call 63; refine (Hnum2.out w4 hr4 (hv.grown ((hbut.trans (But.of_grown hg4 hbut.size)).grown) hR hw) (Nat.le_trans hw (Nat.le_trans hszr hg4.size))).mono ?_; rintro e w5 ⟨hg5, rfl⟩))
            exact ⟨rfl, TupPost.bad (by rw [Heq.out, Hst.out]; rfl) (hbut.trans ((But.of_grown hg4 hszr).trans (But.of_grown hg5 (Nat.le_trans hszr hg4.size)))).grown⟩
          | some v1 =>
            rw [hnp] at hnum
            have hst := numsP_more hc hnp
            have hdr : digRun ((text.toList.drop k).drop 1) = runLen Sh.digitB text (k + 1) := by rw [← hdd]; rfl
            rw [hdr, ← hdd, List.drop_drop] at hst
            have hle2 := runLen_le Sh.digitB text (k + 1) hlen1
            have hpos2 : 1 ≤ runLen Sh.digitB text (k + 1) := by rw [← hdr]; exact numP_pos hnp
            generalize runLen Sh.digitB text (k + 1) = L1 at *
            have Hst := Lib.hid hst; clear hst hc hnp hdr
            have Hnum2 := Lib.hid hnum; clear hnum hdd
            go_wp2_with (first
              | (go_at_call 87; refine (Hskip2.out).mono ?_; rintro e w4 ⟨rfl, hr4, hg4⟩)
              | (go_at_call 63; refine (Hnum2.out w4 hr4 (hv.grown ((hbut.trans (But.of_grown hg4 hbut.size)).grown) hR hw) (Nat.le_trans hw (Nat.le_trans hszr hg4.size))).mono ?_; rintro e w5 ⟨hg5, rfl, hr5⟩; have Hown5 := Lib.hid (own_grown (own_grown Hown.out hg4 hRw) hg5 hRw); have hs4 := hg4.size; have hs5 := hg5.size)
              | (at_builtin; refine append1_int _ rfl _ _ rfl w.heap.size _ xs.length xs rfl (Hown5.out.alloc _) ⟨w5.heap.size, 0, none⟩ 1 v1 rfl ((Blk.new w5 3 #[.int .i64 v1]).cell 0) (by omega) (by simp; omega) ?_; intro v' w7 hown7 hg7))
            go_roundg (text.size - (k + 1 + L1))
            case measure => omega
            case rel =>
              refine ⟨k + 1 + L1, xs ++ [v1], by omega, by omega, by simp, by simp; omega, ?_, by simpa using hown7, ?_, ?_⟩
              · exact Blk.grown (Blk.alloc hr5 _) hg7 (fun e => absurd (Hown5.out.lt R e.symm).1 (by omega))
              · refine hbut.trans ((But.of_grown hg4 hszr).trans ((But.of_grown hg5 (by omega)).trans ((But.alloc (by omega) _).trans (But.row hg7 (by simp; omega) (fun g e => (Hown5.out.lt g e).1)))))
              · rw [Heq.out, Hst.out, Option.map_map]
                congr 1
                funext p
                simp
  · rw [hp] at hskip
    have htp := tupP_unit hp
    have hle2 : n + 2 ≤ text.size := by
      have := (List.isPrefixOf_iff_prefix.1 hp).length_le
      rw [List.length_drop, length_bytes] at this
      simp at this; omega
    rw [List.drop_drop] at htp
    have Hskip := Lib.hid hskip; clear hskip
    have Htp := Lib.hid htp; clear htp hp
    go_enter Tryz.func88, Tryz.ntmps88
    go_wp2_with (go_at_call 87; refine (Hskip.out).mono ?_; rintro e w1 ⟨rfl, hr1, hg1⟩)
    go_ret
    exact TupPost.ok (n + 2) Htp.out (grownBy_trans hg1 (World.grownBy_alloc _ _ _)) (NInts.own (t := []) (own_empty w1 3 1) (by have := hg1.size; omega) (by omega)) hle2 rfl (Blk.alloc hr1 _)

end Go.Proofs.YtelememdhpncgaaGreatDoor

/-
  Rows of the call's own: appends of tuples and of relations as steps of a region; rows that read as tuples, as relations.
-/
namespace Go.Proofs.YtelememdhpncgaaGreatDoor
open Go.RowKit

theorem tups_info : (Tryz.prog.info? 25).map (fun i => (i.zero, i.size, i.bytes)) = some (some (.slice none 0 0), 1, 24) := by kernel_rfl

/-- append of one slice value to a row of the call's own, as one step of a region that draws. -/
theorem step_append_tup {ops : Array Oper} {o : Oper} {a : Act} {K : Act → World → Prop} {Q : Exit → Act → World → Prop} {E : Prop} (w : World) (hgd : o.guard = none) (s x : Operand)
    (ho : o.op = .call { callee := .builtin .append, args := #[s, x], argTypes := #[55, 55] })
    (base : Nat) (v : Value) (n : Nat) (xs : List Value) (hs : a.eval s = v) (hown : w.ownsRow base 25 1 v n xs)
    (ad : Addr) (c : Nat) (y : Value) (hx : a.eval x = .slice (some ad) 1 c) (hc : w.cell? ad = some y) (hy : y.oneCell' = true) (hn : n ≤ 1000000) (hbase : base ≤ w.heap.size)
    (h : ∀ v' w', w'.ownsRow base 25 1 v' (n + 1) (xs ++ [y]) → w.grownBy w' v.ownBlock → K (a.put o.dst v') w') :
    if Region.wanted o (yielded ops a.tmps) = true then Oper.wp Tryz.prog o a w K Q else E := by
  obtain ⟨i0, hi, hz0, hz1, hz2⟩ := info_parts tups_info
  have hw : Region.wanted o (yielded ops a.tmps) = true := by simp [Region.wanted, hgd]
  rw [if_pos hw]
  refine wp_append_own w s x 55 ho base 25 i0 (.slice none 0 0) 1 24 Tryz.underlying55 hi hz0 hz1 hz2 rfl (by decide) v n _ hs hown ad 1 c [y] hx rfl ?_ ?_ (by unfold maxLen; omega) (by omega) hbase ?_
  · intro j u hu
    rcases j with _ | j
    · simp at hu; rw [← hu]; exact hc
    · simp at hu
  · intro u hu; simp at hu; rw [hu]; exact hy
  · intro v' w' h1 h2 _
    exact h v' w' h1 h2

/-- The slice values us are tuples of the call's own. -/
def Elems (w : World) (L : Nat) (us : List Value) (ts : List (List Int)) : Prop := ∀ (j : Nat) (u : Value) (t : List Int), us[j]? = some u → ts[j]? = some t → NInts w L u t
theorem Elems.keep {w w' : World} {L : Nat} {us : List Value} {ts : List (List Int)} (h : Elems w L us ts) (hk : Keeps L [3] w w') : Elems w' L us ts := fun j u t h1 h2 => (h j u t h1 h2).keep hk
theorem Elems.snoc {w : World} {L : Nat} {us : List Value} {ts : List (List Int)} (h : Elems w L us ts) (hl : us.length = ts.length) {u : Value} {t : List Int} (hu : NInts w L u t) : Elems w L (us ++ [u]) (ts ++ [t]) := by
  intro j u' t' h1 h2
  by_cases hj : j < us.length
  · rw [List.getElem?_append_left hj] at h1
    rw [List.getElem?_append_left (by omega)] at h2
    exact h j u' t' h1 h2
  · rw [List.getElem?_append_right (by omega)] at h1
    rw [List.getElem?_append_right (by omega)] at h2
    have hj0 : j - us.length = 0 := by
      have := (List.getElem?_eq_some_iff.1 h1).1
      simp at this; omega
    rw [hj0] at h1
    rw [show j - ts.length = 0 by omega] at h2
    simp at h1 h2
    rw [← h1, ← h2]; exact hu

theorem rel_info : (Tryz.prog.info? 57).map (fun i => (i.zero, i.size, i.bytes)) = some (some (.agg #[.string ⟨#[]⟩, .int .i64 0, .slice none 0 0]), 3, 48) := by kernel_rfl

/-- append of one relation to a row of the call's own, as one step of a region that draws. -/
theorem step_append_rel {ops : Array Oper} {o : Oper} {a : Act} {K : Act → World → Prop} {Q : Exit → Act → World → Prop} {E : Prop} (w : World) (hgd : o.guard = none) (s x : Operand)
    (ho : o.op = .call { callee := .builtin .append, args := #[s, x], argTypes := #[22, 22] })
    (base : Nat) (v : Value) (n : Nat) (xs : List Value) (hs : a.eval s = v) (hown : w.ownsRow base 57 3 v n xs)
    (g : Nat) (c : Nat) (y0 y1 y2 : Value) (hx : a.eval x = .slice (some ⟨g, 0, none⟩) 1 c) (hc : Blk w g 57 #[y0, y1, y2]) (h0 : y0.oneCell' = true) (h1 : y1.oneCell' = true) (h2 : y2.oneCell' = true) (hn : n ≤ 1000000) (hbase : base ≤ w.heap.size)
    (h : ∀ v' w', w'.ownsRow base 57 3 v' (n + 1) (xs ++ [y0, y1, y2]) → w.grownBy w' v.ownBlock → K (a.put o.dst v') w') :
    if Region.wanted o (yielded ops a.tmps) = true then Oper.wp Tryz.prog o a w K Q else E := by
  obtain ⟨i0, hi, hz0, hz1, hz2⟩ := info_parts rel_info
  have hw : Region.wanted o (yielded ops a.tmps) = true := by simp [Region.wanted, hgd]
  rw [if_pos hw]
  refine wp_append_own w s x 22 ho base 57 i0 _ 3 48 Tryz.underlying22 hi hz0 hz1 hz2 rfl (by decide) v n _ hs hown ⟨g, 0, none⟩ 1 c [y0, y1, y2] hx rfl ?_ ?_ (by unfold maxLen; omega) (by omega) hbase ?_
  · intro j u hu
    have e : (Addr.mk g 0 none).add j = ⟨g, j, none⟩ := by unfold Addr.add; split <;> simp_all
    rw [e, hc.cell j]
    simpa using hu
  · intro u hu
    simp at hu
    rcases hu with rfl | rfl | rfl <;> assumption
  · intro v' w' h1 h2 _
    exact h v' w' h1 h2

/-- A row's cells are those of the relations rs, whose tuples are the slices us. -/
def RCells (xs us : List Value) (rs : List Sh.Rel) : Prop :=
  xs.length = rs.length * 3 ∧ us.length = rs.length ∧ ∀ (j : Nat) (r : Sh.Rel), rs[j]? = some r → xs[j * 3]? = some (.string r.name) ∧ xs[j * 3 + 1]? = some (.int .i64 r.arity) ∧ xs[j * 3 + 2]? = us[j]?
theorem RCells.nil : RCells [] [] [] := ⟨rfl, rfl, fun j r h => by simp at h⟩
theorem RCells.snoc {xs us : List Value} {rs : List Sh.Rel} (h : RCells xs us rs) (r : Sh.Rel) (u : Value) : RCells (xs ++ [.string r.name, .int .i64 r.arity, u]) (us ++ [u]) (rs ++ [r]) := by
  obtain ⟨h1, h2, h3⟩ := h
  refine ⟨by simp [h1]; omega, by simp [h2], fun j r' hr => ?_⟩
  by_cases hj : j < rs.length
  · rw [List.getElem?_append_left hj] at hr
    obtain ⟨a, b, c⟩ := h3 j r' hr
    rw [List.getElem?_append_left (by omega), List.getElem?_append_left (by omega), List.getElem?_append_left (by omega), List.getElem?_append_left (by omega)]
    exact ⟨a, b, c⟩
  · rw [List.getElem?_append_right (by omega)] at hr
    have hj0 : j = rs.length := by
      have := (List.getElem?_eq_some_iff.1 hr).1
      simp at this; omega
    subst hj0
    simp at hr
    subst hr
    rw [List.getElem?_append_right (by omega), List.getElem?_append_right (by omega), List.getElem?_append_right (by omega), List.getElem?_append_right (by omega)]
    rw [show rs.length * 3 - xs.length = 0 by omega, show rs.length * 3 + 1 - xs.length = 1 by omega, show rs.length * 3 + 2 - xs.length = 2 by omega, show rs.length - us.length = 0 by omega]
    exact ⟨rfl, rfl, rfl⟩
/-- The tuples of the relations are the call's own. -/
def RElems (w : World) (L : Nat) (us : List Value) (rs : List Sh.Rel) : Prop := ∀ (j : Nat) (u : Value) (r : Sh.Rel), us[j]? = some u → rs[j]? = some r → NTups w L u r.tuples ∧ r.name.size ≤ 140737488351232
theorem RElems.keep {w w' : World} {L : Nat} {us : List Value} {rs : List Sh.Rel} (h : RElems w L us rs) (hk : Keeps L [3, 25] w w') : RElems w' L us rs := fun j u r h1 h2 => ⟨(h j u r h1 h2).1.keep hk, (h j u r h1 h2).2⟩
theorem RElems.snoc {w : World} {L : Nat} {us : List Value} {rs : List Sh.Rel} (h : RElems w L us rs) (hl : us.length = rs.length) {u : Value} {r : Sh.Rel} (hu : NTups w L u r.tuples) (hz : r.name.size ≤ 140737488351232) : RElems w L (us ++ [u]) (rs ++ [r]) := by
  intro j u' r' h1 h2
  by_cases hj : j < us.length
  · rw [List.getElem?_append_left hj] at h1
    rw [List.getElem?_append_left (by omega)] at h2
    exact h j u' r' h1 h2
  · rw [List.getElem?_append_right (by omega)] at h1
    rw [List.getElem?_append_right (by omega)] at h2
    have hj0 : j - us.length = 0 := by
      have := (List.getElem?_eq_some_iff.1 h1).1
      simp at this; omega
    rw [hj0] at h1
    rw [show j - rs.length = 0 by omega] at h2
    simp at h1 h2
    rw [← h1, ← h2]; exact ⟨hu, hz⟩
theorem NRels.own {w : World} {L base : Nat} {v : Value} {n : Nat} {xs us : List Value} {rs : List Sh.Rel} (h : w.ownsRow base 57 3 v n xs) (hL : L ≤ base) (hn : n ≤ 140737488351232) (hc : RCells xs us rs) (he : RElems w L us rs) : NRels w L v rs := by
  obtain ⟨A, c, rfl⟩ := own_slice h
  have hl := h.1
  obtain ⟨h1, h2, h3⟩ := hc
  refine ⟨A, n, c, rfl, by omega, hn, fun h0 => ?_, _, own_base h hL⟩
  obtain ⟨ad, cs, rfl, g1, g2, g3⟩ := own_at h h0
  refine ⟨ad, cs, rfl, by omega, g2, fun j r hr => ?_⟩
  obtain ⟨a, b, d⟩ := h3 j r hr
  have hj : j < us.length := by have := (List.getElem?_eq_some_iff.1 hr).1; omega
  rw [List.getElem?_eq_getElem hj] at d
  exact ⟨us[j], g3 _ _ a, g3 _ _ b, g3 _ _ d, (he j _ r (List.getElem?_eq_getElem hj) hr).1, (he j _ r (List.getElem?_eq_getElem hj) hr).2⟩

end Go.Proofs.YtelememdhpncgaaGreatDoor

/-
  Walks: the reader's method relation.
-/
namespace Go.Proofs.YtelememdhpncgaaGreatDoor
open Go.RowKit

/-- What relation leaves. -/
def RelPost (R n : Nat) (text : ByteArray) (w : World) (e : Ending) (w' : World) : Prop :=
  w.grownBy w' (some R) ∧ match relP (text.toList.drop n) with
    | some p => ∃ u n', e = .returned (.agg #[.string p.1.name, .int .i64 p.1.arity, u]) ∧ NTups w' w.heap.size u p.1.tuples ∧ p.1.name.size ≤ 100000 ∧ n' ≤ text.size ∧ text.toList.drop n' = p.2 ∧ Rdr w' R text n'
    | none => e = .panicked errChain
theorem RelPost.bad {R n : Nat} {text : ByteArray} {w w' : World} (ht : relP (text.toList.drop n) = none) (hg : w.grownBy w' (some R)) : RelPost R n text w (.panicked errChain) w' :=
  ⟨hg, by rw [ht]⟩
theorem RelPost.ok {R n : Nat} {text : ByteArray} {w w' : World} {u : Value} {p : Sh.Rel × List UInt8} (n' : Nat) (ht : relP (text.toList.drop n) = some p) (hg : w.grownBy w' (some R))
    (h1 : NTups w' w.heap.size u p.1.tuples) (h0 : p.1.name.size ≤ 100000) (h2 : n' ≤ text.size) (h3 : text.toList.drop n' = p.2) (h4 : Rdr w' R text n') : RelPost R n text w (.returned (.agg #[.string p.1.name, .int .i64 p.1.arity, u])) w' :=
  ⟨hg, by rw [ht]; exact ⟨u, n', rfl, h1, h0, h2, h3, h4⟩⟩

set_option maxRecDepth 100000 in
set_option maxHeartbeats 400000 in
theorem relation_any (R n : Nat) (text : ByteArray) (w : World) (hr : Rdr w R text n) (hn : n ≤ text.size) (hs : text.size ≤ 100000) (hv : Vars w) (hR : 5 ≤ R) (hw : 5 ≤ w.heap.size) (hRw : R < w.heap.size) :
    Calls Tryz.prog 64 #[.pointer (some ⟨R, 0, none⟩)] w (RelPost R n text w) := by
  cases hp : [59, 32].isPrefixOf (text.toList.drop n)
  · have hbad := relP_bad1 hp
    have hcall := fun W (h1 : Rdr W R text n) => expect_no R n text ⟨#[59, 32]⟩ W h1 hn hs (by decide) (by rw [toList_lit]; exact hp)
    have Hcall := Lib.hid hcall; clear hcall hp
    go_enter Tryz.func64, Tryz.ntmps64
    go_wp2_with (go_at_call 84; refine (Hcall.out _ (Blk.alloc hr _)).mono ?_; rintro e w1 ⟨rfl, hg1⟩)
    exact ⟨rfl, RelPost.bad hbad (grownBy_trans (World.grownBy_alloc _ _ _) hg1)⟩
  · have hn1 : n + 2 ≤ text.size := by
      have := (List.isPrefixOf_iff_prefix.1 hp).length_le
      rw [List.length_drop, length_bytes] at this
      simp at this; omega
    have hcall1 := fun W (h1 : Rdr W R text n) => expect_yes R n text ⟨#[59, 32]⟩ W h1 hn hs (by decide) (by rw [toList_lit]; exact hp)
    rw [show (⟨#[59, 32]⟩ : ByteArray).size = 2 from rfl] at hcall1
    have hcall2 := fun W (h1 : Rdr W R text (n + 2)) => while_any 85 (fun c => Sh.letterB c || Sh.digitB c) alnum_class alnum_enters R (n + 2) text W h1 hn1 hs
    have hd2 : (text.toList.drop n).drop 2 = text.toList.drop (n + 2) := by rw [List.drop_drop]
    have hnr : nameRun (text.toList.drop (n + 2)) = runLen (fun c => Sh.letterB c || Sh.digitB c) text (n + 2) := rfl
    have hn2 := runLen_le (fun c => Sh.letterB c || Sh.digitB c) text (n + 2) hn1
    have hname := runText (fun c => Sh.letterB c || Sh.digitB c) text (n + 2)
    have htw : (text.toList.drop (n + 2)).takeWhile (fun c => Sh.letterB c.toNat || Sh.digitB c.toNat) = (text.toList.drop (n + 2)).take (nameRun (text.toList.drop (n + 2))) :=
      List.prefix_iff_eq_take.1 (List.takeWhile_prefix _)
    rw [hnr] at htw
    generalize runLen (fun c => Sh.letterB c || Sh.digitB c) text (n + 2) = L1 at *
    have hd3 : (text.toList.drop (n + 2)).drop L1 = text.toList.drop (n + 2 + L1) := by rw [List.drop_drop]
    cases hp2 : [47].isPrefixOf (text.toList.drop (n + 2 + L1))
    · have hbad := relP_bad2 hp (by rw [hd2, hnr, hd3]; exact hp2)
      have hcall3 := fun W (h1 : Rdr W R text (n + 2 + L1)) => expect_no R (n + 2 + L1) text ⟨#[47]⟩ W h1 hn2 hs (by decide) (by rw [toList_lit]; exact hp2)
      have Hcall1 := Lib.hid hcall1; clear hcall1
      have Hcall2 := Lib.hid hcall2; clear hcall2
      have Hcall3 := Lib.hid hcall3; clear hcall3
      clear hp hp2 hd2 hnr hd3 hname htw
      have Hbad := Lib.hid hbad; clear hbad
      go_enter Tryz.func64, Tryz.ntmps64
      go_wp2_with (first
        | (go_at_call_of 84 (Value.string ⟨#[59, 32]⟩); refine (Hcall1.out _ (Blk.alloc hr _)).mono ?_; rintro e w1 ⟨rfl, hr1, hg1⟩)
        | (go_at_call 81; refine (Hcall2.out _ hr1).mono ?_; rintro e w2 ⟨rfl, hr2, hg2⟩)
        | (go_at_call_of 84 (Value.string ⟨#[47]⟩); refine (Hcall3.out _ hr2).mono ?_; rintro e w3 ⟨rfl, hg3⟩))
      exact ⟨rfl, RelPost.bad Hbad.out (grownBy_trans (World.grownBy_alloc _ _ _) (grownBy_trans hg1 (grownBy_trans hg2 hg3)))⟩
    · have hn3 : n + 2 + L1 + 1 ≤ text.size := by
        have := (List.isPrefixOf_iff_prefix.1 hp2).length_le
        rw [List.length_drop, length_bytes] at this
        simp at this; omega
      have hcall3 := fun W (h1 : Rdr W R text (n + 2 + L1)) => expect_yes R (n + 2 + L1) text ⟨#[47]⟩ W h1 hn2 hs (by decide) (by rw [toList_lit]; exact hp2)
      rw [show (⟨#[47]⟩ : ByteArray).size = 1 from rfl] at hcall3
      have hcall4 := fun W (h1 : Rdr W R text (n + 2 + L1 + 1)) (h2 : Vars W) (h3 : 5 ≤ W.heap.size) => number_any R (n + 2 + L1 + 1) text W h1 hn3 hs h2 hR h3
      have hd4 : (text.toList.drop (n + 2 + L1)).drop 1 = text.toList.drop (n + 2 + L1 + 1) := by rw [List.drop_drop]
      cases hnp : numP (text.toList.drop (n + 2 + L1 + 1)) with
      | none =>
        rw [hnp] at hcall4
        have hbad := relP_bad3 hp (by rw [hd2, hnr, hd3]; exact hp2) (by rw [hd2, hnr, hd3, hd4]; exact hnp)
        have Hcall1 := Lib.hid hcall1; clear hcall1
        have Hcall2 := Lib.hid hcall2; clear hcall2
        have Hcall3 := Lib.hid hcall3; clear hcall3
        have Hcall4 := Lib.hid hcall4; clear hcall4
        clear hp hp2 hd2 hnr hd3 hname htw hnp hd4
        have Hbad := Lib.hid hbad; clear hbad
        go_enter Tryz.func64, Tryz.ntmps64
        go_wp2_with (first
          | (go_at_call_of 84 (Value.string ⟨#[59, 32]⟩); refine (Hcall1.out _ (Blk.alloc hr _)).mono ?_; rintro e w1 ⟨rfl, hr1, hg1⟩)
          | (go_at_call 81; refine (Hcall2.out _ hr1).mono ?_; rintro e w2 ⟨rfl, hr2, hg2⟩)
          | (go_at_call_of 84 (Value.string ⟨#[47]⟩); refine (Hcall3.out _ hr2).mono ?_; rintro e w3 ⟨rfl, hr3, hg3⟩; have hg13 := grownBy_trans (World.grownBy_alloc w _ (some R)) (grownBy_trans hg1 (grownBy_trans hg2 hg3)))
          | (go_at_call 63; refine (Hcall4.out _ hr3 (hv.grown hg13 hR hw) (Nat.le_trans hw hg13.size)).mono ?_; rintro e w4 ⟨hg4, rfl⟩))
        exact ⟨rfl, RelPost.bad Hbad.out (grownBy_trans hg13 hg4)⟩
      | some ar =>
        rw [hnp] at hcall4
        have hmore := relP_more hp (by rw [hd2, hnr, hd3]; exact hp2) (by rw [hd2, hnr, hd3, hd4]; exact hnp)
        have hdr : digRun (text.toList.drop (n + 2 + L1 + 1)) = runLen Sh.digitB text (n + 2 + L1 + 1) := rfl
        have hn4 := runLen_le Sh.digitB text (n + 2 + L1 + 1) hn3
        rw [hd2, hnr, hd3, hd4, hdr] at hmore
        generalize runLen Sh.digitB text (n + 2 + L1 + 1) = L2 at *
        rw [List.drop_drop] at hmore
        have hnm : (⟨((text.toList.drop (n + 2)).take L1).toArray⟩ : ByteArray) = text.extract (n + 2) (n + 2 + L1) := by
          apply WideShapes.bytes_inj
          rw [← ByteArray.toList_eq (text.extract _ _), hname, ← htw]
        rw [hnm] at hmore
        have hnsz : (text.extract (n + 2) (n + 2 + L1)).size ≤ 100000 := by rw [ByteArray.size_extract]; omega
        generalize text.extract (n + 2) (n + 2 + L1) = nm at *
        have Hcall1 := Lib.hid hcall1; clear hcall1
        have Hcall2 := Lib.hid hcall2; clear hcall2
        have Hcall3 := Lib.hid hcall3; clear hcall3
        have Hcall4 := Lib.hid hcall4; clear hcall4
        have Hmore := Lib.hid hmore; clear hmore
        clear hp hp2 hd2 hnr hd3 hname htw hnp hd4 hdr hnm
        go_enter Tryz.func64, Tryz.ntmps64
        go_wp2_with (first
          | (go_at_call_of 84 (Value.string ⟨#[59, 32]⟩); refine (Hcall1.out _ (Blk.alloc hr _)).mono ?_; rintro e w1 ⟨rfl, hr1, hg1⟩; have hz1 := (Blk.new w 57 #[.string ⟨#[]⟩, .int .i64 0, .slice none 0 0]).grown hg1 (by simp; omega))
          | (go_at_call 81; refine (Hcall2.out _ hr1).mono ?_; rintro e w2 ⟨rfl, hr2, hg2⟩; have hz2 := hz1.grown hg2 (by simp; omega))
          | (go_at_call_of 84 (Value.string ⟨#[47]⟩); refine (Hcall3.out _ hr2).mono ?_; rintro e w3 ⟨rfl, hr3, hg3⟩; have hg13 := grownBy_trans (World.grownBy_alloc w _ (some R)) (grownBy_trans hg1 (grownBy_trans hg2 hg3)); have hz3 := hz2.grown hg3 (by simp; omega))
          | (go_at_call 63; refine (Hcall4.out _ hr3 (hv.grown hg13 hR hw) (Nat.le_trans hw hg13.size)).mono ?_; rintro e w4 ⟨hg4, rfl, hr4⟩))
        have hz4 := hz3.grown hg4 (by simp; omega)
        have hlt4 := hz4.lt
        have hsz4 := hg4.size
        have hsz13 := hg13.size
        have hr5 : Rdr (w4.alloc (.cells #[.string nm, .int .i64 ar, .slice none 0 0] 57)) R text (n + 2 + L1 + 1 + L2) := Blk.alloc hr4 _
        have hz5 : Blk (w4.alloc (.cells #[.string nm, .int .i64 ar, .slice none 0 0] 57)) w.heap.size 57 #[.string ⟨#[]⟩, .int .i64 0, .slice none 0 0] := Blk.alloc hz4 _
        have hb5 : Blk (w4.alloc (.cells #[.string nm, .int .i64 ar, .slice none 0 0] 57)) w4.heap.size 57 #[.string nm, .int .i64 ar, .slice none 0 0] := Blk.new _ _ _
        have hbut5 : But w.heap.size R w (w4.alloc (.cells #[.string nm, .int .i64 ar, .slice none 0 0] 57)) :=
          (But.of_grown (grownBy_trans hg13 hg4) (Nat.le_refl _)).trans (But.alloc (by omega) _)
        have hsz5 : (w4.alloc (.cells #[.string nm, .int .i64 ar, .slice none 0 0] 57)).heap.size = w4.heap.size + 1 := by simp
        generalize w4.alloc (.cells #[.string nm, .int .i64 ar, .slice none 0 0] 57) = w5 at *
        clear hr1 hr2 hr3 hr4 hg1 hg2 hg3 hg4 hz1 hz2 hz3 hz4 hg13
        generalize w4.heap.size = B1 at *
        have HB1 := Lib.hid hsz5; clear hsz5
        have hB1 : B1 < w5.heap.size := hb5.lt
        go_loopg [] text.size (fun gg wr => ∃ (k : Nat) (tv : Value) (us : List Value) (ts : List (List Int)), k ≤ text.size ∧ text.size - k ≤ gg ∧ us.length = ts.length ∧ us.length ≤ k ∧ Rdr wr R text k ∧
          Blk wr w.heap.size 57 #[.string ⟨#[]⟩, .int .i64 0, .slice none 0 0] ∧ Blk wr B1 57 #[.string nm, .int .i64 ar, tv] ∧
          wr.ownsRow (B1 + 1) 25 1 tv us.length us ∧ Elems wr (B1 + 1) us ts ∧ But w.heap.size R w wr ∧
          relP (text.toList.drop n) = (tupsP (text.toList.drop k)).map fun q => (⟨nm, ar, ts ++ q.1⟩, q.2))
        case atStart => exact ⟨n + 2 + L1 + 1 + L2, .slice none 0 0, [], [], hn4, by omega, rfl, by simp, hr5, hz5, hb5, World.ownsRow_nil _ _ _ _, (fun j u t h => by simp at h), hbut5, by rw [Hmore.out]; simp⟩
        case round =>
          obtain ⟨k, tv, us, ts, hk, hgg, hut, huk, hrk, hzk, hbk, hown, hel, hbut, heq⟩ := hrel
          have Heq := Lib.hid heq; clear heq
          have Hown := Lib.hid hown; clear hown
          have Hut := Lib.hid hut; clear hut
          obtain ⟨TA, TC, rfl⟩ := own_slice Hown.out
          have hskip := skip_any R k text ⟨#[32]⟩ wr hrk hk hs (by decide)
          rw [toList_lit, show (⟨#[32].toList.toArray⟩ : ByteArray).size = 1 from rfl] at hskip
          have hszk := hbut.size
          cases hc : [32].isPrefixOf (text.toList.drop k)
          · rw [hc] at hskip
            have hst := tupsP_stop hc
            have Hst := Lib.hid hst; clear hst hc
            have Hskip2 := Lib.hid hskip; clear hskip
            go_wp2_with (go_at_call 87
                         refine (Hskip2.out).mono ?_
                         rintro e w6 ⟨rfl, hr6, hg6⟩
                         have hz6 := hzk.grown hg6 (by simp; omega)
                         have hb6 := hbk.grown hg6 (by simp; omega)
                         have hzc0 : w6.cell? ⟨w.heap.size, 0, none⟩ = some (.string ⟨#[]⟩) := hz6.cell 0
                         have hzc1 : w6.cell? ⟨w.heap.size, 1, none⟩ = some (.int .i64 0) := hz6.cell 1
                         have hzc2 : w6.cell? ⟨w.heap.size, 2, none⟩ = some (.slice none 0 0) := hz6.cell 2
                         have hbc0 : w6.cell? ⟨B1, 0, none⟩ = some (.string nm) := hb6.cell 0
                         have hbc1 : w6.cell? ⟨B1, 1, none⟩ = some (.int .i64 ar) := hb6.cell 1
                         have hbc2 : w6.cell? ⟨B1, 2, none⟩ = some (.slice TA us.length TC) := hb6.cell 2
                         have hzf0 := hz6.frozen 0
                         have hzf1 := hz6.frozen 1
                         have hzf2 := hz6.frozen 2)
            have hg06 : w.grownBy w6 (some R) := (hbut.trans (But.of_grown hg6 hszk)).grown
            have hown6 := own_grown Hown.out hg6 (by omega)
            have hel6 := hel.keep (Keeps.of_grown hg6 (by omega))
            have hnt6 : NTups w6 (B1 + 1) (.slice TA us.length TC) ts := NTups.own hown6 (Nat.le_refl _) (by omega) Hut.out hel6
            refine bodyPost_ret (v := .agg #[.string nm, .int .i64 ar, .slice TA us.length TC]) (by simp [results, Tryz.results64, go_sem, hzc0, hzc1, hzc2]) rfl ?_
            have hk0 : Keeps (B1 + 1) [3, 25] w6 (((w6.setCell ⟨w.heap.size, 0, none⟩ (.string nm)).setCell ⟨w.heap.size, 1, none⟩ (.int .i64 ar)).setCell ⟨w.heap.size, 2, none⟩ (.slice TA us.length TC)) :=
              (Keeps.setCell (p := ⟨w.heap.size, 0, none⟩) hz6 (by decide) _).trans ((Keeps.setCell (p := ⟨w.heap.size, 1, none⟩) (hz6.set_ _ _) (by decide) _).trans (Keeps.setCell (p := ⟨w.heap.size, 2, none⟩) ((hz6.set_ _ _).set_ _ _) (by decide) _))
            refine RelPost.ok (p := (⟨nm, ar, ts⟩, text.toList.drop k)) k (by rw [Heq.out, Hst.out]; simp) ?_ ((hnt6.keep hk0).more (by omega)) hnsz hk rfl ?_
            · exact (But.of_grown hg06 (Nat.le_refl _)).trans ((But.setL (p := ⟨w.heap.size, 0, none⟩) (Nat.le_refl _) _).trans ((But.setL (p := ⟨w.heap.size, 1, none⟩) (Nat.le_refl _) _).trans (But.setL (p := ⟨w.heap.size, 2, none⟩) (Nat.le_refl _) _))) |>.grown
            · exact Blk.far (Blk.far (Blk.far hr6 (by simp; omega) _) (by simp; omega) _) (by simp; omega) _
          · rw [hc] at hskip
            have hlen1 : k + 1 ≤ text.size := by
              have := (List.isPrefixOf_iff_prefix.1 hc).length_le
              rw [List.length_drop, length_bytes] at this
              simp at this; omega
            have Hskip2 := Lib.hid hskip; clear hskip
            have hdd : text.toList.drop (k + 1) = (text.toList.drop k).drop 1 := by rw [List.drop_drop]
            have htup := fun W (h1 : Rdr W R text (k + 1)) (h2 : Vars W) (h3 : 5 ≤ W.heap.size) (h4 : R < W.heap.size) => rtuple_any R (k + 1) text W h1 hlen1 hs h2 hR h3 h4
            cases htp : tupP ((text.toList.drop k).drop 1) with
            | none =>
              have hst := tupsP_bad hc htp
              have hcall : ∀ W, Rdr W R text (k + 1) → Vars W → 5 ≤ W.heap.size → R < W.heap.size → Calls Tryz.prog 88 #[.pointer (some ⟨R, 0, none⟩)] W fun e w' => e = .panicked errChain ∧ W.grownBy w' (some R) := fun W h1 h2 h3 h4 =>
                (htup W h1 h2 h3 h4).mono fun e w' ⟨hg, hm⟩ => ⟨by rw [hdd, htp] at hm; exact hm, hg⟩
              have Hcall := Lib.hid hcall; clear hcall htup
              have Hst := Lib.hid hst; clear hst hc htp hdd
              go_wp2_with (go_at_call 87
                           refine (Hskip2.out).mono ?_
                           rintro e w6 ⟨rfl, hr6, hg6⟩
                           have hb6 := hbk.grown hg6 (by simp; omega)
                           have hbc2 : w6.cell? ⟨B1, 2, none⟩ = some (.slice TA us.length TC) := hb6.cell 2
                           have hs6 := hg6.size
                           have hg06 : w.grownBy w6 (some R) := (hbut.trans (But.of_grown hg6 hszk)).grown
                           have hv6 := (hv.grown hg06 hR hw).drew
                           have hr6' : Rdr w6.drew R text (k + 1) := Blk.drew hr6)
              refine wp_region_held_drew (S := fun w' => w'.cell? ⟨B1, 2, none⟩ = some (.slice TA us.length TC)) (by kernel_rfl) hbc2 (fun hHeld => ?_)
              refine wpAnyH_take (i := 0) (v := .pointer (some ⟨B1, 2, none⟩)) rfl (by kernel_rfl) (by kernel_rfl) (by kernel_rfl) (fun _ _ _ h => h) (Or.inl ⟨by rfl, ?_⟩) (by assumption) ?_
              · intro w' hSw
                go_simp
              try simp only [Act.put, List.setIfInBounds_toArray, List.set_cons_zero, List.set_cons_succ]
              refine wpAnyH_take (i := 1) (v := .slice TA us.length TC) rfl (by kernel_rfl) (by kernel_rfl) (by kernel_rfl) (fun _ _ _ h => h) (Or.inl ⟨by rfl, ?_⟩) (by assumption) ?_
              · intro w' hSw
                go_simp
              try simp only [Act.put, List.setIfInBounds_toArray, List.set_cons_zero, List.set_cons_succ]
              refine wpAnyH_take (i := 2) (v := .pointer (some ⟨R, 0, none⟩)) rfl (by kernel_rfl) (by kernel_rfl) (by kernel_rfl) (fun _ _ _ h => h) (Or.inl ⟨by rfl, ?_⟩) (by assumption) ?_
              · intro w' hSw
                go_simp
              try simp only [Act.put, List.setIfInBounds_toArray, List.set_cons_zero, List.set_cons_succ]
              refine wpAnyH_ready (rs := [3]) (by kernel_rfl) (by simp) ?_
              refine AllReadyH.cons rfl (fun K hK => ?_) AllReadyH.nil
              go_simp
              refine (Hcall.out _ hr6' hv6 (by simp; omega) (by simp; omega)).mono ?_
              rintro e w7 ⟨rfl, hg7⟩
              exact ⟨rfl, RelPost.bad (by rw [Heq.out, Hst.out]; rfl) (grownBy_trans hg06 (grownBy_trans (grownBy_drewN w6 1 _) hg7))⟩
            | some p =>
              have hst := tupsP_more hc htp
              have hplen := tupP_len htp
              rw [← hdd, List.length_drop, length_bytes] at hplen
              have hcall : ∀ W, Rdr W R text (k + 1) → Vars W → 5 ≤ W.heap.size → R < W.heap.size → Calls Tryz.prog 88 #[.pointer (some ⟨R, 0, none⟩)] W fun e w' => ∃ v n', e = .returned v ∧ NInts w' W.heap.size v p.1 ∧ n' ≤ text.size ∧ text.toList.drop n' = p.2 ∧ Rdr w' R text n' ∧ W.grownBy w' (some R) := fun W h1 h2 h3 h4 =>
                (htup W h1 h2 h3 h4).mono fun e w' ⟨hg, hm⟩ => by
                  rw [hdd, htp] at hm
                  obtain ⟨v, n', h1, h2, h3, h4, h5⟩ := hm
                  exact ⟨v, n', h1, h2, h3, h4, h5, hg⟩
              have Hcall := Lib.hid hcall; clear hcall htup
              have Hst := Lib.hid hst; clear hst hc htp hdd
              go_wp2_with (go_at_call 87
                           refine (Hskip2.out).mono ?_
                           rintro e w6 ⟨rfl, hr6, hg6⟩
                           have hb6 := hbk.grown hg6 (by simp; omega)
                           have hz6 := hzk.grown hg6 (by simp; omega)
                           have hbc2 : w6.cell? ⟨B1, 2, none⟩ = some (.slice TA us.length TC) := hb6.cell 2
                           have hs6 := hg6.size
                           have hg06 : w.grownBy w6 (some R) := (hbut.trans (But.of_grown hg6 hszk)).grown
                           have hv6 := (hv.grown hg06 hR hw).drew
                           have hr6' : Rdr w6.drew R text (k + 1) := Blk.drew hr6)
              have hown6 := own_grown Hown.out hg6 (by omega)
              have hown6d : w6.drew.ownsRow (B1 + 1) 25 1 (.slice TA us.length TC) us.length us := hown6
              have hbk1 := hbk.lt
              have hbc2d : w6.drew.cell? ⟨B1, 2, none⟩ = some (.slice TA us.length TC) := hbc2
              refine wp_region_any (by kernel_rfl) ?_
              change wpAny _ _ _ _ _ _ _ (World.drew _)
              refine wpAny_take (i := 0) (v := .pointer (some ⟨B1, 2, none⟩)) rfl (by kernel_rfl) (by kernel_rfl) (by kernel_rfl) (fun _ _ _ h => h) (Or.inl ⟨by rfl, ?_⟩) ?_
              · intro w'
                go_simp
              try simp only [Act.put, List.setIfInBounds_toArray, List.set_cons_zero, List.set_cons_succ]
              refine wpAny_take (i := 2) (v := .pointer (some ⟨R, 0, none⟩)) rfl (by kernel_rfl) (by kernel_rfl) (by kernel_rfl) (fun _ _ _ h => h) (Or.inl ⟨by rfl, ?_⟩) ?_
              · intro w'
                go_simp
              try simp only [Act.put, List.setIfInBounds_toArray, List.set_cons_zero, List.set_cons_succ]
              refine wpAny_ready (rs := [1, 3]) (by kernel_rfl) (by simp) ?_
              refine AllReady.cons rfl (fun K hK => ?_) (AllReady.cons rfl (fun K hK => ?_) AllReady.nil)
              · skip
                go_simp
                refine hK _ _ ?_
                clear hK K
                try simp only [Act.put, List.setIfInBounds_toArray, List.set_cons_zero, List.set_cons_succ]
                refine wpAny_ready (rs := [3]) (by kernel_rfl) (by simp) ?_
                refine AllReady.cons rfl (fun K hK => ?_) AllReady.nil
                go_simp
                refine (Hcall.out _ hr6' hv6 (by simp; omega) (by simp; omega)).mono ?_
                rintro e w7 ⟨tu, n', rfl, hnt, hn', hrest, hr7, hg7⟩
                have hnt' := hnt
                obtain ⟨UA, UN, UC, rfl, -, -, -⟩ := hnt'
                have hrl : text.size - n' = p.2.length := by rw [← hrest, List.length_drop, length_bytes]
                have hs7 : w6.heap.size ≤ w7.heap.size := hg7.size
                have hb7 := Blk.grown (Blk.drew hb6) hg7 (by simp; omega)
                have hbc7 : w7.cell? ⟨B1, 2, none⟩ = some (.slice TA us.length TC) := hb7.cell 2
                have hbc7' : (w7.alloc (.cells #[.slice UA UN UC] 25)).cell? ⟨B1, 2, none⟩ = some (.slice TA us.length TC) := (Blk.alloc hb7 _).cell 2
                refine hK _ _ ?_
                clear hK K
                try simp only [Act.put, List.setIfInBounds_toArray, List.set_cons_zero, List.set_cons_succ]
                refine wpAny_ready (rs := [4]) (by kernel_rfl) (by simp) ?_
                refine AllReady.cons rfl (fun K hK => ?_) AllReady.nil
                go_simp
                refine hK _ _ ?_
                clear hK K
                try simp only [Act.put, List.setIfInBounds_toArray, List.set_cons_zero, List.set_cons_succ]
                refine wpAny_ready (rs := [5]) (by kernel_rfl) (by simp) ?_
                refine AllReady.cons rfl (fun K hK => ?_) AllReady.nil
                have hown7 : (w7.alloc (.cells #[.slice UA UN UC] 25)).ownsRow (B1 + 1) 25 1 (.slice TA us.length TC) us.length us := World.ownsRow.alloc (own_grown hown6d hg7 (by omega)) _
                refine step_append_tup _ rfl _ _ rfl (B1 + 1) _ us.length us rfl hown7 ⟨w7.heap.size, 0, none⟩ 1 (.slice UA UN UC) rfl ((Blk.new w7 25 #[.slice UA UN UC]).cell 0) rfl (by omega) (by simp; omega) ?_
                intro v8 w8 hown8 hg8
                obtain ⟨VA, VC, rfl⟩ := own_slice hown8
                have hb8 : Blk w8 B1 57 #[.string nm, .int .i64 ar, .slice TA us.length TC] := Blk.grown (Blk.alloc hb7 _) hg8 (fun e => by have := (hown7.lt B1 e.symm).1; omega)
                have hbc8 : w8.cell? ⟨B1, 2, none⟩ = some (.slice TA us.length TC) := hb8.cell 2
                have hbf8 := hb8.frozen 2
                refine hK _ _ ?_
                clear hK K
                try simp only [Act.put, List.setIfInBounds_toArray, List.set_cons_zero, List.set_cons_succ]
                refine wpAny_ready (rs := [6]) (by kernel_rfl) (by simp) ?_
                refine AllReady.cons rfl (fun K hK => ?_) AllReady.nil
                go_simp
                refine hK _ _ ?_
                clear hK K
                try simp only [Act.put, List.setIfInBounds_toArray, List.set_cons_zero, List.set_cons_succ]
                refine wpAny_ready (rs := [7]) (by kernel_rfl) (by simp) ?_
                refine AllReady.cons rfl (fun K hK => ?_) AllReady.nil
                go_simp
                refine hK _ _ ?_
                clear hK K
                try simp only [Act.put, List.setIfInBounds_toArray, List.set_cons_zero, List.set_cons_succ]
                refine wpAny_done (by kernel_rfl) ?_ _
                go_wp2
                go_roundg (text.size - n')
                case measure => omega
                case rel =>
                  have hg8' : (w7.alloc (.cells #[.slice UA UN UC] 25)).grownBy w8 (Value.slice TA us.length TC).ownBlock := hg8
                  have hb7b : ∀ g, (Value.slice TA us.length TC).ownBlock = some g → B1 + 1 ≤ g := fun g e => (hown7.lt g e).1
                  refine ⟨n', .slice VA (us.length + 1) VC, us ++ [.slice UA UN UC], ts ++ [p.1], hn', Nat.le_refl _, by simp [Hut.out], by simp; omega, ?_, ?_, ?_, ?_, ?_, ?_, ?_⟩
                  · exact Blk.far (Blk.grown (Blk.alloc hr7 _) hg8' (fun e => by have := hb7b R e.symm; omega)) (by simp; omega) _
                  · exact Blk.far (Blk.grown (Blk.alloc (Blk.grown (Blk.drew hz6) hg7 (by simp; omega)) _) hg8' (fun e => by have := hb7b _ e.symm; omega)) (by simp; omega) _
                  · exact hb8.set_ 2 _
                  · have h9 := hown8.kept (row := some B1) (w' := w8.setCell ⟨B1, 2, none⟩ (.slice VA (us.length + 1) VC)) ⟨rfl, rfl, rfl, by simp [World.setCell], fun i hi hne => Below.heap_setCell _ _ _ _ (fun e => hne (by rw [e]))⟩ (by
                      cases ho : (Value.slice VA (us.length + 1) VC).ownBlock with
                      | none => exact .inl rfl
                      | some g => exact .inr (fun e => by injection e with e; have := (hown8.lt g ho).1; omega))
                    simpa using h9
                  · have hk7 : Keeps (B1 + 1) [3] w7 (w8.setCell ⟨B1, 2, none⟩ (.slice VA (us.length + 1) VC)) :=
                      (Keeps.alloc _ _ _ _).trans ((Keeps.own hg8' hown7 (by decide)).trans (Keeps.setCell (p := ⟨B1, 2, none⟩) hb8 (by decide) _))
                    exact Elems.snoc ((hel.keep ((Keeps.of_grown hg6 (by omega)).trans ((Keeps.drewN _ _ w6 1).trans (Keeps.of_grown hg7 (by omega))))).keep hk7) Hut.out ((hnt.more (by simp; omega)).keep hk7)
                  · exact (But.of_grown hg06 (Nat.le_refl _)).trans ((But.drewN 1).trans ((But.of_grown hg7 (by simp; omega)).trans ((But.alloc (by omega) _).trans ((But.row hg8' (by simp; omega) (fun g e => by have := hb7b g e; omega)).trans (But.setL (p := ⟨B1, 2, none⟩) (by simp; omega) _)))))
                  · rw [Heq.out, Hst.out, hrest, Option.map_map]
                    congr 1
                    funext q
                    simp
              · skip
                go_simp
                refine (Hcall.out _ hr6' hv6 (by simp; omega) (by simp; omega)).mono ?_
                rintro e w7 ⟨tu, n', rfl, hnt, hn', hrest, hr7, hg7⟩
                have hnt' := hnt
                obtain ⟨UA, UN, UC, rfl, -, -, -⟩ := hnt'
                have hrl : text.size - n' = p.2.length := by rw [← hrest, List.length_drop, length_bytes]
                have hs7 : w6.heap.size ≤ w7.heap.size := hg7.size
                have hb7 := Blk.grown (Blk.drew hb6) hg7 (by simp; omega)
                have hbc7 : w7.cell? ⟨B1, 2, none⟩ = some (.slice TA us.length TC) := hb7.cell 2
                have hbc7' : (w7.alloc (.cells #[.slice UA UN UC] 25)).cell? ⟨B1, 2, none⟩ = some (.slice TA us.length TC) := (Blk.alloc hb7 _).cell 2
                refine hK _ _ ?_
                clear hK K
                try simp only [Act.put, List.setIfInBounds_toArray, List.set_cons_zero, List.set_cons_succ]
                refine wpAny_ready (rs := [1, 4]) (by kernel_rfl) (by simp) ?_
                refine AllReady.cons rfl (fun K hK => ?_) (AllReady.cons rfl (fun K hK => ?_) AllReady.nil)
                · skip
                  go_simp
                  refine hK _ _ ?_
                  clear hK K
                  try simp only [Act.put, List.setIfInBounds_toArray, List.set_cons_zero, List.set_cons_succ]
                  refine wpAny_ready (rs := [4]) (by kernel_rfl) (by simp) ?_
                  refine AllReady.cons rfl (fun K hK => ?_) AllReady.nil
                  go_simp
                  refine hK _ _ ?_
                  clear hK K
                  try simp only [Act.put, List.setIfInBounds_toArray, List.set_cons_zero, List.set_cons_succ]
                  refine wpAny_ready (rs := [5]) (by kernel_rfl) (by simp) ?_
                  refine AllReady.cons rfl (fun K hK => ?_) AllReady.nil
                  have hown7 : (w7.alloc (.cells #[.slice UA UN UC] 25)).ownsRow (B1 + 1) 25 1 (.slice TA us.length TC) us.length us := World.ownsRow.alloc (own_grown hown6d hg7 (by omega)) _
                  refine step_append_tup _ rfl _ _ rfl (B1 + 1) _ us.length us rfl hown7 ⟨w7.heap.size, 0, none⟩ 1 (.slice UA UN UC) rfl ((Blk.new w7 25 #[.slice UA UN UC]).cell 0) rfl (by omega) (by simp; omega) ?_
                  intro v8 w8 hown8 hg8
                  obtain ⟨VA, VC, rfl⟩ := own_slice hown8
                  have hb8 : Blk w8 B1 57 #[.string nm, .int .i64 ar, .slice TA us.length TC] := Blk.grown (Blk.alloc hb7 _) hg8 (fun e => by have := (hown7.lt B1 e.symm).1; omega)
                  have hbc8 : w8.cell? ⟨B1, 2, none⟩ = some (.slice TA us.length TC) := hb8.cell 2
                  have hbf8 := hb8.frozen 2
                  refine hK _ _ ?_
                  clear hK K
                  try simp only [Act.put, List.setIfInBounds_toArray, List.set_cons_zero, List.set_cons_succ]
                  refine wpAny_ready (rs := [6]) (by kernel_rfl) (by simp) ?_
                  refine AllReady.cons rfl (fun K hK => ?_) AllReady.nil
                  go_simp
                  refine hK _ _ ?_
                  clear hK K
                  try simp only [Act.put, List.setIfInBounds_toArray, List.set_cons_zero, List.set_cons_succ]
                  refine wpAny_ready (rs := [7]) (by kernel_rfl) (by simp) ?_
                  refine AllReady.cons rfl (fun K hK => ?_) AllReady.nil
                  go_simp
                  refine hK _ _ ?_
                  clear hK K
                  try simp only [Act.put, List.setIfInBounds_toArray, List.set_cons_zero, List.set_cons_succ]
                  refine wpAny_done (by kernel_rfl) ?_ _
                  go_wp2
                  go_roundg (text.size - n')
                  case measure => omega
                  case rel =>
                    have hg8' : (w7.alloc (.cells #[.slice UA UN UC] 25)).grownBy w8 (Value.slice TA us.length TC).ownBlock := hg8
                    have hb7b : ∀ g, (Value.slice TA us.length TC).ownBlock = some g → B1 + 1 ≤ g := fun g e => (hown7.lt g e).1
                    refine ⟨n', .slice VA (us.length + 1) VC, us ++ [.slice UA UN UC], ts ++ [p.1], hn', Nat.le_refl _, by simp [Hut.out], by simp; omega, ?_, ?_, ?_, ?_, ?_, ?_, ?_⟩
                    · exact Blk.far (Blk.grown (Blk.alloc hr7 _) hg8' (fun e => by have := hb7b R e.symm; omega)) (by simp; omega) _
                    · exact Blk.far (Blk.grown (Blk.alloc (Blk.grown (Blk.drew hz6) hg7 (by simp; omega)) _) hg8' (fun e => by have := hb7b _ e.symm; omega)) (by simp; omega) _
                    · exact hb8.set_ 2 _
                    · have h9 := hown8.kept (row := some B1) (w' := w8.setCell ⟨B1, 2, none⟩ (.slice VA (us.length + 1) VC)) ⟨rfl, rfl, rfl, by simp [World.setCell], fun i hi hne => Below.heap_setCell _ _ _ _ (fun e => hne (by rw [e]))⟩ (by
                        cases ho : (Value.slice VA (us.length + 1) VC).ownBlock with
                        | none => exact .inl rfl
                        | some g => exact .inr (fun e => by injection e with e; have := (hown8.lt g ho).1; omega))
                      simpa using h9
                    · have hk7 : Keeps (B1 + 1) [3] w7 (w8.setCell ⟨B1, 2, none⟩ (.slice VA (us.length + 1) VC)) :=
                        (Keeps.alloc _ _ _ _).trans ((Keeps.own hg8' hown7 (by decide)).trans (Keeps.setCell (p := ⟨B1, 2, none⟩) hb8 (by decide) _))
                      exact Elems.snoc ((hel.keep ((Keeps.of_grown hg6 (by omega)).trans ((Keeps.drewN _ _ w6 1).trans (Keeps.of_grown hg7 (by omega))))).keep hk7) Hut.out ((hnt.more (by simp; omega)).keep hk7)
                    · exact (But.of_grown hg06 (Nat.le_refl _)).trans ((But.drewN 1).trans ((But.of_grown hg7 (by simp; omega)).trans ((But.alloc (by omega) _).trans ((But.row hg8' (by simp; omega) (fun g e => by have := hb7b g e; omega)).trans (But.setL (p := ⟨B1, 2, none⟩) (by simp; omega) _)))))
                    · rw [Heq.out, Hst.out, hrest, Option.map_map]
                      congr 1
                      funext q
                      simp
                · skip
                  go_simp
                  refine hK _ _ ?_
                  clear hK K
                  try simp only [Act.put, List.setIfInBounds_toArray, List.set_cons_zero, List.set_cons_succ]
                  refine wpAny_ready (rs := [1]) (by kernel_rfl) (by simp) ?_
                  refine AllReady.cons rfl (fun K hK => ?_) AllReady.nil
                  go_simp
                  refine hK _ _ ?_
                  clear hK K
                  try simp only [Act.put, List.setIfInBounds_toArray, List.set_cons_zero, List.set_cons_succ]
                  refine wpAny_ready (rs := [5]) (by kernel_rfl) (by simp) ?_
                  refine AllReady.cons rfl (fun K hK => ?_) AllReady.nil
                  have hown7 : (w7.alloc (.cells #[.slice UA UN UC] 25)).ownsRow (B1 + 1) 25 1 (.slice TA us.length TC) us.length us := World.ownsRow.alloc (own_grown hown6d hg7 (by omega)) _
                  refine step_append_tup _ rfl _ _ rfl (B1 + 1) _ us.length us rfl hown7 ⟨w7.heap.size, 0, none⟩ 1 (.slice UA UN UC) rfl ((Blk.new w7 25 #[.slice UA UN UC]).cell 0) rfl (by omega) (by simp; omega) ?_
                  intro v8 w8 hown8 hg8
                  obtain ⟨VA, VC, rfl⟩ := own_slice hown8
                  have hb8 : Blk w8 B1 57 #[.string nm, .int .i64 ar, .slice TA us.length TC] := Blk.grown (Blk.alloc hb7 _) hg8 (fun e => by have := (hown7.lt B1 e.symm).1; omega)
                  have hbc8 : w8.cell? ⟨B1, 2, none⟩ = some (.slice TA us.length TC) := hb8.cell 2
                  have hbf8 := hb8.frozen 2
                  refine hK _ _ ?_
                  clear hK K
                  try simp only [Act.put, List.setIfInBounds_toArray, List.set_cons_zero, List.set_cons_succ]
                  refine wpAny_ready (rs := [6]) (by kernel_rfl) (by simp) ?_
                  refine AllReady.cons rfl (fun K hK => ?_) AllReady.nil
                  go_simp
                  refine hK _ _ ?_
                  clear hK K
                  try simp only [Act.put, List.setIfInBounds_toArray, List.set_cons_zero, List.set_cons_succ]
                  refine wpAny_ready (rs := [7]) (by kernel_rfl) (by simp) ?_
                  refine AllReady.cons rfl (fun K hK => ?_) AllReady.nil
                  go_simp
                  refine hK _ _ ?_
                  clear hK K
                  try simp only [Act.put, List.setIfInBounds_toArray, List.set_cons_zero, List.set_cons_succ]
                  refine wpAny_done (by kernel_rfl) ?_ _
                  go_wp2
                  go_roundg (text.size - n')
                  case measure => omega
                  case rel =>
                    have hg8' : (w7.alloc (.cells #[.slice UA UN UC] 25)).grownBy w8 (Value.slice TA us.length TC).ownBlock := hg8
                    have hb7b : ∀ g, (Value.slice TA us.length TC).ownBlock = some g → B1 + 1 ≤ g := fun g e => (hown7.lt g e).1
                    refine ⟨n', .slice VA (us.length + 1) VC, us ++ [.slice UA UN UC], ts ++ [p.1], hn', Nat.le_refl _, by simp [Hut.out], by simp; omega, ?_, ?_, ?_, ?_, ?_, ?_, ?_⟩
                    · exact Blk.far (Blk.grown (Blk.alloc hr7 _) hg8' (fun e => by have := hb7b R e.symm; omega)) (by simp; omega) _
                    · exact Blk.far (Blk.grown (Blk.alloc (Blk.grown (Blk.drew hz6) hg7 (by simp; omega)) _) hg8' (fun e => by have := hb7b _ e.symm; omega)) (by simp; omega) _
                    · exact hb8.set_ 2 _
                    · have h9 := hown8.kept (row := some B1) (w' := w8.setCell ⟨B1, 2, none⟩ (.slice VA (us.length + 1) VC)) ⟨rfl, rfl, rfl, by simp [World.setCell], fun i hi hne => Below.heap_setCell _ _ _ _ (fun e => hne (by rw [e]))⟩ (by
                        cases ho : (Value.slice VA (us.length + 1) VC).ownBlock with
                        | none => exact .inl rfl
                        | some g => exact .inr (fun e => by injection e with e; have := (hown8.lt g ho).1; omega))
                      simpa using h9
                    · have hk7 : Keeps (B1 + 1) [3] w7 (w8.setCell ⟨B1, 2, none⟩ (.slice VA (us.length + 1) VC)) :=
                        (Keeps.alloc _ _ _ _).trans ((Keeps.own hg8' hown7 (by decide)).trans (Keeps.setCell (p := ⟨B1, 2, none⟩) hb8 (by decide) _))
                      exact Elems.snoc ((hel.keep ((Keeps.of_grown hg6 (by omega)).trans ((Keeps.drewN _ _ w6 1).trans (Keeps.of_grown hg7 (by omega))))).keep hk7) Hut.out ((hnt.more (by simp; omega)).keep hk7)
                    · exact (But.of_grown hg06 (Nat.le_refl _)).trans ((But.drewN 1).trans ((But.of_grown hg7 (by simp; omega)).trans ((But.alloc (by omega) _).trans ((But.row hg8' (by simp; omega) (fun g e => by have := hb7b g e; omega)).trans (But.setL (p := ⟨B1, 2, none⟩) (by simp; omega) _)))))
                    · rw [Heq.out, Hst.out, hrest, Option.map_map]
                      congr 1
                      funext q
                      simp

end Go.Proofs.YtelememdhpncgaaGreatDoor
