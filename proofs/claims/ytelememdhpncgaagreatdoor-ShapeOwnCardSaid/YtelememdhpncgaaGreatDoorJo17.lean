/-
  Texts joined: Make, Rfind, Rkeep, Keep.
-/
import Derived.Test.YtelememdhpncgaaGreatDoorJo8
import Derived.Test.YtelememdhpncgaaGreatDoorJo7
import Derived.Test.YtelememdhpncgaaGreatDoorJo5
import Derived.Test.YtelememdhpncgaaGreatDoorJo9
import Derived.StillTailTactics
import Derived.Deep.CutRange
import Derived.Deep.RegionLaw
import Derived.Deep.RegionHeld3
import Derived.Test.YtelememdhpncgaaGreatDoorJo13
import Derived.Test.YtelememdhpncgaaGreatDoorJo12

/-
  Walks: the law's FewSymbols, shape.Make.
-/
namespace Go.Proofs.YtelememdhpncgaaGreatDoor
open Go.RowKit

/-- No name is longer than the machine's reach. -/
def SymFit (ss : List (ByteArray × Int)) : Prop := ∀ s ∈ ss, s.1.size ≤ 140737488351232

/-- Some truth value is returned. -/
def SomeBool (e : Ending) : Prop := ∃ b, e = .returned (.bool b)

set_option maxRecDepth 100000 in
set_option maxHeartbeats 400000 in
theorem fewsyms_some (v : Value) (ss : List (ByteArray × Int)) (w : World) (B : Nat) (h : Syms w B v ss) (hf : SymFit ss) :
    Calls Tryz.prog 12 #[v] w fun e w' => SomeBool e ∧ w = w' := by
  have h' := h
  obtain ⟨A, len, c, rfl, hlen, hmax, -⟩ := h'
  have Hlen := Lib.hid hlen; clear hlen
  go_enter Tryz.func12, Tryz.ntmps12
  go_wp2
  go_loop [3] (fun i => ∃ k : Nat, k ≤ len ∧ i = .int .i64 k) (fun i => len - (intOf i).toNat)
  case atStart => exact ⟨0, Nat.zero_le _, rfl⟩
  case round =>
    obtain ⟨k, hk, rfl⟩ := hrel
    by_cases hlt : k < len
    · by_cases h41 : (k : Int) < 41
      · obtain ⟨ad, s, rfl, -, hs, c0, -⟩ := h.at_ hlt
        have hz := hf s (List.mem_of_getElem? hs)
        clear hs
        by_cases hb : (1000 : Int) < s.1.size
        · go_wp2
          go_ret
          exact ⟨⟨_, rfl⟩, rfl⟩
        · go_wp2
          go_round
          case rel => exact ⟨k + 1, by omega, by go_num⟩
          case measure => simp [intOf]; omega
      · go_wp2
        go_ret
        exact ⟨⟨_, rfl⟩, rfl⟩
    · go_wp2
      go_ret
      exact ⟨⟨_, rfl⟩, rfl⟩

set_option maxRecDepth 100000 in
set_option maxHeartbeats 400000 in
theorem fewsyms_many (v : Value) (ss : List (ByteArray × Int)) (w : World) (B : Nat) (h : Syms w B v ss) (hf : SymFit ss) (hm : 40 < ss.length) :
    Calls Tryz.prog 12 #[v] w fun e w' => e = .returned (.bool false) ∧ w = w' := by
  have h' := h
  obtain ⟨A, len, c, rfl, hlen, hmax, -⟩ := h'
  have hm' : 40 < len := by omega
  have Hlen := Lib.hid hlen; clear hlen
  clear hm
  go_enter Tryz.func12, Tryz.ntmps12
  go_wp2
  go_loop [3] (fun i => ∃ k : Nat, k ≤ 41 ∧ i = .int .i64 k) (fun i => 41 - (intOf i).toNat)
  case atStart => exact ⟨0, Nat.zero_le _, rfl⟩
  case round =>
    obtain ⟨k, hk, rfl⟩ := hrel
    by_cases h41 : (k : Int) < 41
    · have hlt : k < len := by omega
      obtain ⟨ad, s, rfl, -, hs, c0, -⟩ := h.at_ hlt
      have hz := hf s (List.mem_of_getElem? hs)
      clear hs
      by_cases hb : (1000 : Int) < s.1.size
      · go_wp2
        go_ret
        exact ⟨rfl, rfl⟩
      · go_wp2
        go_round
        case rel => exact ⟨k + 1, by omega, by go_num⟩
        case measure => simp [intOf]; omega
    · by_cases hlt : k < len
      · go_wp2
        go_ret
        exact ⟨ret_bool (decide_eq_false (by omega)), rfl⟩
      · go_wp2
        go_ret
        exact ⟨ret_bool (decide_eq_false (by omega)), rfl⟩

/-- append of one relation to a row of the call's own. -/
theorem append_rel {ops : Array Oper} {rest : List Oper} {o : Oper} {a : Act} {Q : Exit → Act → World → Prop} (w : World) (hgd : o.guard = none) (s x : Operand)
    (ho : o.op = .call { callee := .builtin .append, args := #[s, x], argTypes := #[22, 22] })
    (base : Nat) (v : Value) (n : Nat) (xs : List Value) (hs : a.eval s = v) (hown : w.ownsRow base 57 3 v n xs)
    (g : Nat) (c : Nat) (y0 y1 y2 : Value) (hx : a.eval x = .slice (some ⟨g, 0, none⟩) 1 c) (hc : Blk w g 57 #[y0, y1, y2]) (h0 : y0.oneCell' = true) (h1 : y1.oneCell' = true) (h2 : y2.oneCell' = true) (hn : n ≤ 1000000) (hbase : base ≤ w.heap.size)
    (h : ∀ v' w', w'.ownsRow base 57 3 v' (n + 1) (xs ++ [y0, y1, y2]) → w.grownBy w' v.ownBlock → wpList Tryz.prog ops Q rest (a.put o.dst v') w') :
    wpList Tryz.prog ops Q (o :: rest) a w := by
  obtain ⟨i0, hi, hz0, hz1, hz2⟩ := info_parts rel_info
  refine wpList_append_own w hgd s x 22 ho base 57 i0 _ 3 48 Tryz.underlying22 hi hz0 hz1 hz2 rfl (by decide) v n _ hs hown ⟨g, 0, none⟩ 1 c [y0, y1, y2] hx rfl ?_ ?_ (by unfold maxLen; omega) (by omega) hbase ?_
  · intro j u hu
    have e : (Addr.mk g 0 none).add j = ⟨g, j, none⟩ := by unfold Addr.add; split <;> simp_all
    rw [e, hc.cell j]
    simpa using hu
  · intro u hu
    simp at hu
    rcases hu with rfl | rfl | rfl <;> assumption
  · intro v' w' h1 h2 _
    exact h v' w' h1 h2

theorem madeR_at {ss : List (ByteArray × Int)} {k : Nat} {s : ByteArray × Int} (h : ss[k]? = some s) : (Sh.madeR ss)[k]? = some ⟨s.1, s.2, []⟩ := by
  unfold Sh.madeR; rw [List.getElem?_map, h]; rfl
theorem madeR_len (ss : List (ByteArray × Int)) : (Sh.madeR ss).length = ss.length := by unfold Sh.madeR; simp

def MakePost (b : Bool) (n : Int) (ss : List (ByteArray × Int)) (w : World) (e : Ending) (w' : World) : Prop :=
  match b with
  | true => ∃ u, e = .returned (.tuple #[.agg #[.int .i64 n, u], .int .i64 0]) ∧ NRels w' w.heap.size u (Sh.madeR ss) ∧ Below w.heap.size w w'
  | false => e = .returned (.tuple #[.agg #[.int .i64 0, .slice none 0 0], .int .i64 1]) ∧ Below w.heap.size w w'

set_option maxRecDepth 100000 in
set_option maxHeartbeats 400000 in
theorem make_any (b : Bool) (n : Int) (v : Value) (ss : List (ByteArray × Int)) (w : World) (B : Nat) (hB : B ≤ w.heap.size) (h : Syms w B v ss) (hf : SymFit ss) (hl : ss.length ≤ 1000) (hvb : Sh.validB ⟨n, Sh.madeR ss⟩ = b) :
    Calls Tryz.prog 16 #[.int .i64 n, v] w (MakePost b n ss w) := by
  have h' := h
  obtain ⟨A, len, c, rfl, hlen, -⟩ := h'
  have hl' : len ≤ 1000 := by omega
  have Hlen := Lib.hid hlen; clear hlen
  have Hf := Lib.hid hf; clear hf
  have Hvb := Lib.hid hvb; clear hvb
  clear hl
  go_enter Tryz.func16, Tryz.ntmps16
  go_wp2
  have hb3 : Below w.heap.size w ((w.alloc (.cells #[.int .i64 0, .slice none 0 0] 24)).alloc (.cells #[.int .i64 n, .slice none 0 0] 24)) :=
    ((Below.refl _ _).alloc (Nat.le_refl _) _).alloc (by simp) _
  have hz3 : Blk ((w.alloc (.cells #[.int .i64 0, .slice none 0 0] 24)).alloc (.cells #[.int .i64 n, .slice none 0 0] 24)) w.heap.size 24 #[.int .i64 0, .slice none 0 0] := (Blk.new w 24 #[.int .i64 0, .slice none 0 0]).alloc _
  have hc3 : Blk ((w.alloc (.cells #[.int .i64 0, .slice none 0 0] 24)).alloc (.cells #[.int .i64 n, .slice none 0 0] 24)) (w.heap.size + 1) 24 #[.int .i64 n, .slice none 0 0] := by
    have := Blk.new (w.alloc (.cells #[.int .i64 0, .slice none 0 0] 24)) 24 #[.int .i64 n, .slice none 0 0]
    rw [World.size_alloc] at this
    exact this
  generalize ((w.alloc (.cells #[.int .i64 0, .slice none 0 0] 24)).alloc (.cells #[.int .i64 n, .slice none 0 0] 24)) = W3 at *
  go_loopw [13] (fun i wr => ∃ (k : Nat) (tv : Value) (xs us : List Value), k ≤ len ∧ i = .int .i64 k ∧ Blk wr w.heap.size 24 #[.int .i64 0, .slice none 0 0] ∧
      Blk wr (w.heap.size + 1) 24 #[.int .i64 n, tv] ∧ wr.ownsRow (w.heap.size + 2) 57 3 tv k xs ∧ RCells xs us ((Sh.madeR ss).take k) ∧ RElems wr (w.heap.size + 2) us ((Sh.madeR ss).take k) ∧ Below w.heap.size w wr) (fun i _ => len - (intOf i).toNat)
  case atStart => exact ⟨0, .slice none 0 0, [], [], Nat.zero_le _, rfl, hz3, hc3, World.ownsRow_nil _ _ _ _, RCells.nil, (fun j u t h => by simp at h), hb3⟩
  case round =>
    obtain ⟨k, tv, xs, us, hk, rfl, hz, hc, hown, hrc, hel, hbel⟩ := hrel
    clear hb3 hz3 hc3
    have Hown := Lib.hid hown; clear hown
    have Hrc := Lib.hid hrc; clear hrc
    obtain ⟨TA, TC, rfl⟩ := own_slice Hown.out
    have hlt3 := hc.lt
    have hc1 : wr.cell? ⟨w.heap.size + 1, 1, none⟩ = some (.slice TA k TC) := hc.cell 1
    by_cases hlt : k < len
    · obtain ⟨ad, s, rfl, hb, hs, c0, c1⟩ := (h.below (hbel.mono hB)).at_ hlt
      have hnz := Hf.out s (List.mem_of_getElem? hs)
      have hr := madeR_at hs
      have Hr := Lib.hid hr; clear hr
      have Hs := Lib.hid hs; clear hs
      obtain ⟨nm, ar⟩ := s
      simp only at c0 c1 hnz Hr
      have hbz := hbel.size
      have hcf := hc.frozen 1
      go_wp2_with (at_builtin
                   refine append_rel _ rfl _ _ rfl (w.heap.size + 2) _ k xs rfl ((Hown.out.alloc (.cells #[.string nm, .int .i64 ar] 72)).alloc _) (wr.heap.size + 1) 1 (.string nm) (.int .i64 ar) (.slice none 0 0) rfl (by have hh := Blk.new (wr.alloc (.cells #[.string nm, .int .i64 ar] 72)) 57 #[.string nm, .int .i64 ar, .slice none 0 0]; rw [World.size_alloc] at hh; exact hh) rfl rfl rfl (by omega) (by simp; omega) ?_
                   intro v8 w8 hown8 hg8
                   obtain ⟨VA, VC, rfl⟩ := own_slice hown8
                   have hc8 : Blk w8 (w.heap.size + 1) 24 #[.int .i64 n, .slice TA k TC] := Blk.grown (Blk.alloc (Blk.alloc hc _) _) hg8 (fun e => by have := (Hown.out.lt _ e.symm).1; omega)
                   have hcc8 : w8.cell? ⟨w.heap.size + 1, 1, none⟩ = some (.slice TA k TC) := hc8.cell 1
                   have hcf8 := hc8.frozen 1)
      have hg8' : ((wr.alloc (.cells #[.string nm, .int .i64 ar] 72)).alloc (.cells #[.string nm, .int .i64 ar, .slice none 0 0] 57)).grownBy w8 (Value.slice TA k TC).ownBlock := hg8
      have hbase : ∀ g, (Value.slice TA k TC).ownBlock = some g → w.heap.size + 2 ≤ g := fun g e => (Hown.out.lt g e).1
      have hk7 : Keeps (w.heap.size + 2) [3, 25] wr (w8.setCell ⟨w.heap.size + 1, 1, none⟩ (.slice VA (k + 1) VC)) :=
        (Keeps.alloc _ _ _ _).trans ((Keeps.alloc _ _ _ _).trans ((Keeps.own hg8' ((Hown.out.alloc _).alloc _) (by decide)).trans (Keeps.setCell (p := ⟨w.heap.size + 1, 1, none⟩) hc8 (by decide) _)))
      refine ⟨⟨k + 1, .slice VA (k + 1) VC, xs ++ [.string nm, .int .i64 ar, .slice none 0 0], us ++ [.slice none 0 0], by omega, by go_num, ?_, hc8.set_ 1 _, own_set hown8 (show w.heap.size + 1 < w.heap.size + 2 by omega) _, by rw [take_snoc Hr.out]; exact Hrc.out.snoc ⟨nm, ar, []⟩ _, ?_, ?_⟩, by simp [intOf]; omega⟩
      · exact Blk.far (Blk.grown ((hz.alloc _).alloc _) hg8' (fun e => by have := hbase _ e.symm; omega)) (by simp) _
      · rw [take_snoc Hr.out]
        exact RElems.snoc (hel.keep hk7) Hrc.out.2.1 (NTups.nil _ _) hnz
      · exact ((((hbel.alloc hbz _).alloc (by simp; omega) _)).grown hg8' (by simp; omega) (fun g e => by have := hbase g e; omega)).setCell (show w.heap.size ≤ w.heap.size + 1 by omega) _
    · have hkl : k = len := by omega
      subst hkl
      have htk : (Sh.madeR ss).take k = Sh.madeR ss := List.take_of_length_le (by rw [madeR_len]; have := Hlen.out; omega)
      have hrc' := Hrc.out
      rw [htk] at hel hrc'
      have hnt : NRels wr (w.heap.size + 2) (.slice TA k TC) (Sh.madeR ss) := NRels.own Hown.out (Nat.le_refl _) (by omega) hrc' hel
      have hcall := valid_any n (.slice TA k TC) (Sh.madeR ss) wr wr.heap.size (Nat.le_refl _) hnt.rels
      rw [Hvb.out] at hcall
      have Hcall := Lib.hid hcall; clear hcall
      have hcc0 : wr.cell? ⟨w.heap.size + 1, 0, none⟩ = some (.int .i64 n) := hc.cell 0
      have Hnt := Lib.hid hnt; clear hnt htk hel hrc'
      have hbz := hbel.size
      cases b
      · go_wp2_with (go_at_call 31
                     refine Hcall.out.mono ?_
                     rintro e w9 ⟨rfl, hb9⟩
                     have hz9 := hz.below hb9 (by omega)
                     have hzc0 : w9.cell? ⟨w.heap.size, 0, none⟩ = some (.int .i64 0) := hz9.cell 0
                     have hzc1 : w9.cell? ⟨w.heap.size, 1, none⟩ = some (.slice none 0 0) := hz9.cell 1
                     have hzf0 := hz9.frozen 0
                     have hzf1 := hz9.frozen 1)
        refine bodyPost_ret (v := .tuple #[.agg #[.int .i64 0, .slice none 0 0], .int .i64 1]) (by simp [results, Tryz.results16, go_sem, hzc0, hzc1]) rfl ?_
        exact ⟨rfl, ((hbel.trans (hb9.mono hbz)).setCell (Nat.le_refl _) _).setCell (Nat.le_refl _) _⟩
      · go_wp2_with (go_at_call 31
                     refine Hcall.out.mono ?_
                     rintro e w9 ⟨rfl, hb9⟩
                     have hz9 := hz.below hb9 (by omega)
                     have hc9 := hc.below hb9 (by omega)
                     have hcd0 : w9.cell? ⟨w.heap.size + 1, 0, none⟩ = some (.int .i64 n) := hc9.cell 0
                     have hcd1 : w9.cell? ⟨w.heap.size + 1, 1, none⟩ = some (.slice TA k TC) := hc9.cell 1
                     have hzc0 : w9.cell? ⟨w.heap.size, 0, none⟩ = some (.int .i64 0) := hz9.cell 0
                     have hzc1 : w9.cell? ⟨w.heap.size, 1, none⟩ = some (.slice none 0 0) := hz9.cell 1
                     have hzf0 := hz9.frozen 0
                     have hzf1 := hz9.frozen 1)
        refine bodyPost_ret (v := .tuple #[.agg #[.int .i64 n, .slice TA k TC], .int .i64 0]) (by simp [results, Tryz.results16, go_sem, hzc0, hzc1]) rfl ?_
        have hk0 : Keeps (w.heap.size + 2) [3, 25, 57] wr ((w9.setCell ⟨w.heap.size, 0, none⟩ (.int .i64 n)).setCell ⟨w.heap.size, 1, none⟩ (.slice TA k TC)) :=
          (Keeps.of_below hb9).trans ((Keeps.setCell (p := ⟨w.heap.size, 0, none⟩) hz9 (by decide) _).trans (Keeps.setCell (p := ⟨w.heap.size, 1, none⟩) (hz9.set_ _ _) (by decide) _))
        exact ⟨_, rfl, (Hnt.out.keep hk0).more (by omega), ((hbel.trans (hb9.mono hbz)).setCell (Nat.le_refl _) _).setCell (Nat.le_refl _) _⟩

end Go.Proofs.YtelememdhpncgaaGreatDoor

/-
  Walks: the reference's Find, Fits, Twice.
-/
namespace Go.Proofs.YtelememdhpncgaaGreatDoor
open Go.RowKit

theorem fits_take {rs : List Sh.Rel} {ss : List (ByteArray × Int)} {k : Nat} {s : ByteArray × Int} (hs : ss[k]? = some s) : Sh.fitsB rs (ss.take (k + 1)) = (Sh.fitsB rs (ss.take k) && Sh.fitB rs s) := by
  unfold Sh.fitsB
  rw [take_snoc hs, List.all_append]
  simp
theorem fits_false {rs : List Sh.Rel} {ss : List (ByteArray × Int)} {k : Nat} {s : ByteArray × Int} (hs : ss[k]? = some s) (hf : Sh.fitB rs s = false) : Sh.fitsB rs ss = false := by
  unfold Sh.fitsB
  rw [List.all_eq_false]
  exact ⟨s, List.mem_of_getElem? hs, by rw [hf]; simp⟩

end Go.Proofs.YtelememdhpncgaaGreatDoor

/-
  Walk: the reference's Keep.
-/
namespace Go.Proofs.YtelememdhpncgaaGreatDoor
open Go.RowKit

theorem bel_alloc {a W : World} (h : Below a.heap.size a W) (o : Obj) : Below a.heap.size a (W.alloc o) := h.alloc h.size o
theorem keepR_at {rs : List Sh.Rel} {ss : List (ByteArray × Int)} {k : Nat} {s : ByteArray × Int} (h : ss[k]? = some s) : (Sh.keepR rs ss)[k]? = some (Sh.keepOne rs s) := by
  unfold Sh.keepR; rw [List.getElem?_map, h]; rfl
theorem keepR_len (rs : List Sh.Rel) (ss : List (ByteArray × Int)) : (Sh.keepR rs ss).length = ss.length := by unfold Sh.keepR; simp

end Go.Proofs.YtelememdhpncgaaGreatDoor

/-
  Walk: shape.Keep.
-/
namespace Go.Proofs.YtelememdhpncgaaGreatDoor
open Go.RowKit
open Go.Maps (Keyed)
open Go.ChangeMaps Go.MapKept

theorem nameSet_tidy : ∀ l : List (List UInt8), Go.Maps.Tidy (nameSet l) := by
  have : ∀ (l : List (List UInt8)) (D : DataW Unit), Go.Maps.Tidy D → Go.Maps.Tidy (l.foldl (fun D s => D.put (.string s) (.lit (.bool true))) D) := by
    intro l
    induction l with
    | nil => intro D h; exact h
    | cons x l ih => intro D h; exact ih _ (h.put (by trivial) _)
  exact fun l => this l _ Go.Maps.tidy_empty
theorem nameSet_has (s : List UInt8) : ∀ l : List (List UInt8), Go.Maps.has (nameSet l) (.string s) = l.contains s := by
  have : ∀ (l : List (List UInt8)) (D : DataW Unit), Go.Maps.IsMap D → Go.Maps.has (l.foldl (fun D s => D.put (.string s) (.lit (.bool true))) D) (.string s) = (Go.Maps.has D (.string s) || l.contains s) := by
    intro l
    induction l with
    | nil => intro D _; simp
    | cons x l ih =>
      intro D h
      rw [List.foldl_cons, ih _ (h.put _ _), List.contains_cons]
      by_cases hx : s = x
      · subst hx
        rw [Go.Maps.has_put_same h (by trivial)]
        simp
      · rw [Go.Maps.has_put_other (by intro e; injection e with e; exact hx e)]
        have : (s == x) = false := by simpa using hx
        rw [this, Bool.false_or]
  intro l
  have h := this l (.map []) Go.Maps.isMap_empty
  simpa [nameSet, Go.Maps.has] using h
theorem nameSet_size (l : List (List UInt8)) : ∀ k, k ≤ l.length → Go.Maps.size (nameSet (l.take k)) ≤ k ∧ ((l.take k).Nodup ↔ Go.Maps.size (nameSet (l.take k)) = k)
  | 0, _ => by simp [nameSet, Go.Maps.size]
  | k + 1, h => by
    obtain ⟨h1, h2⟩ := nameSet_size l k (by omega)
    have hk : l[k]? = some l[k] := List.getElem?_eq_getElem (by omega)
    rw [Sh.nodup_succ hk, take_snoc hk, nameSet_snoc, Go.Maps.size_put (nameSet_tidy _), nameSet_has]
    cases hc : (l.take k).contains l[k] with
    | true =>
      rw [if_pos rfl]
      have hm := List.contains_iff_mem.1 hc
      exact ⟨by omega, ⟨fun hh => absurd hm hh.2, fun hh => by omega⟩⟩
    | false =>
      rw [if_neg (by simp)]
      have hm : l[k] ∉ l.take k := fun hm => by rw [List.contains_iff_mem.2 hm] at hc; cases hc
      exact ⟨by omega, ⟨fun hh => by rw [h2.1 hh.1], fun hh => ⟨h2.2 (by omega), hm⟩⟩⟩

/-- What Keep leaves, at a valid structure: f: the symbols fit; o: no name stands twice. -/
def KeepPost (f o : Bool) (size : Int) (rs : List Sh.Rel) (ss : List (ByteArray × Int)) (w : World) (e : Ending) (w' : World) : Prop :=
  Below w.heap.size w w' ∧ match f, o with
    | false, _ => e = .returned (.tuple #[.agg #[.int .i64 0, .slice none 0 0], .int .i64 4])
    | true, false => e = .returned (.tuple #[.agg #[.int .i64 0, .slice none 0 0], .int .i64 2])
    | true, true => ∃ x, e = .returned (.tuple #[.agg #[.int .i64 size, x], .int .i64 0]) ∧ NRels w' w.heap.size x (Sh.keepR rs ss)
theorem KeepPost.name {o : Bool} {size : Int} {rs : List Sh.Rel} {ss : List (ByteArray × Int)} {w w' : World} (h : Below w.heap.size w w') : KeepPost false o size rs ss w (.returned (.tuple #[.agg #[.int .i64 0, .slice none 0 0], .int .i64 4])) w' := ⟨h, rfl⟩
theorem KeepPost.arg {size : Int} {rs : List Sh.Rel} {ss : List (ByteArray × Int)} {w w' : World} (h : Below w.heap.size w w') : KeepPost true false size rs ss w (.returned (.tuple #[.agg #[.int .i64 0, .slice none 0 0], .int .i64 2])) w' := ⟨h, rfl⟩
theorem KeepPost.ok {size : Int} {rs : List Sh.Rel} {ss : List (ByteArray × Int)} {w w' : World} {x : Value} (h : Below w.heap.size w w') (hx : NRels w' w.heap.size x (Sh.keepR rs ss)) : KeepPost true true size rs ss w (.returned (.tuple #[.agg #[.int .i64 size, x], .int .i64 0])) w' := ⟨h, x, rfl, hx⟩

set_option maxRecDepth 100000 in
set_option maxHeartbeats 400000 in
theorem keep_form (size : Int) (v u : Value) (rs : List Sh.Rel) (w : World) (B : Nat) (hB : B ≤ w.heap.size) (h : Rels w B v rs) (hvb : Sh.validB ⟨size, rs⟩ = false) :
    Calls Tryz.prog 15 #[.agg #[.int .i64 size, v], u] w fun e w' => e = .returned (.tuple #[.agg #[.int .i64 0, .slice none 0 0], .int .i64 1]) ∧ Below w.heap.size w w' := by
  have h' := h
  obtain ⟨A, len, c, rfl, -⟩ := h'
  have hcall := fun W (hW : Below w.heap.size w W) => valid_any size (.slice A len c) rs W B (Nat.le_trans hB hW.size) (h.below (hW.mono hB))
  rw [hvb] at hcall
  have Hcall := Lib.hid hcall; clear hcall
  have hz := Blk.new (w.alloc (.cells #[.int .i64 size, .slice A len c] 24)) 24 #[.int .i64 0, .slice none 0 0]
  rw [World.size_alloc] at hz
  have Hz := Lib.hid hz; clear hz
  have hb2 := ((Below.refl w.heap.size w).alloc (Nat.le_refl _) (.cells #[.int .i64 size, .slice A len c] 24)).alloc (by simp) (.cells #[.int .i64 0, .slice none 0 0] 24)
  have Hb2 := Lib.hid hb2; clear hb2
  go_enter Tryz.func15, Tryz.ntmps15
  go_wp2_with (go_at_call 31
               refine (Hcall.out _ Hb2.out).mono ?_
               rintro e w9 ⟨rfl, hb9⟩
               have hz9 := Hz.out.below hb9 (by simp)
               have hzc0 : w9.cell? ⟨w.heap.size + 1, 0, none⟩ = some (.int .i64 0) := hz9.cell 0
               have hzc1 : w9.cell? ⟨w.heap.size + 1, 1, none⟩ = some (.slice none 0 0) := hz9.cell 1
               have hzf0 := hz9.frozen 0
               have hzf1 := hz9.frozen 1)
  refine bodyPost_ret (v := .tuple #[.agg #[.int .i64 0, .slice none 0 0], .int .i64 1]) (by simp [results, Tryz.results15, go_sem, hzc0, hzc1]) rfl ?_
  exact ⟨rfl, ((Hb2.out.trans (hb9.mono (by simp; omega))).setCell (by simp) _).setCell (by simp) _⟩

end Go.Proofs.YtelememdhpncgaaGreatDoor
