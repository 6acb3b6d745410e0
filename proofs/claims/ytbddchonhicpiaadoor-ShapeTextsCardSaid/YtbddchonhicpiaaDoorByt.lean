/-
  A row of bytes of the call's own that '[]byte(s)' began: appends, and its text.
-/
import Derived.Test.YtbddchonhicpiaaDoorBuild
import Derived.Laws.IdiomStrings
import Derived.Lib.AppendStr
namespace Go.Proofs.YtbddchonhicpiaaDoor
open Go.RowKit

/-- The slice holds these bytes in a row of the call's own; a frozen stretch of the row lies within them or behind the row. -/
def OwnB (w : World) (base : Nat) (v : Value) (l : List UInt8) : Prop :=
  ∃ g cap cur fz, v = .slice (some ⟨g, 0, none⟩) l.length cap ∧ base ≤ g ∧ w.heap[g]? = some (.cells cur 5 fz) ∧ (fz.2 ≤ l.length ∨ cap ≤ fz.1) ∧ l.length ≤ cap ∧ cap ≤ maxLen ∧ cur.size = cap ∧ cur.toList.take l.length = Lib.byteCells l

theorem OwnB.cells {w : World} {base : Nat} {v : Value} {l : List UInt8} (h : OwnB w base v l) {g c : Nat} (hv : v = .slice (some ⟨g, 0, none⟩) l.length c) : ∀ j (hj : j < l.length), w.cell? ((⟨g, 0, none⟩ : Addr).add j) = some (.int .u8 (l[j].toNat : Int)) := by
  intro j hj
  obtain ⟨g', cap, cur, fz, rfl, -, hgg, -, -, -, -, htake⟩ := h
  injection hv with hv _ _
  injection hv with hv
  injection hv with hv _ _
  subst hv
  have hadd : (⟨g', 0, none⟩ : Addr).add j = ⟨g', j, none⟩ := by unfold Addr.add; split <;> simp_all
  have hu : (Lib.byteCells l)[j]? = some (.int .u8 (l[j].toNat : Int)) := by simp [Lib.byteCells, hj]
  rw [hadd, cell_of_row w g' j cur 5 fz hgg]
  rw [← htake, List.getElem?_take, if_pos hj] at hu
  simpa using hu
theorem OwnB.kept {w w' : World} {base : Nat} {v : Value} {l : List UInt8} (h : OwnB w base v l) (hg : w.grownBy w' none) : OwnB w' base v l := by
  obtain ⟨g, cap, cur, fz, hv, hb, hgg, rest⟩ := h
  exact ⟨g, cap, cur, fz, hv, hb, (hg.block g (Array.getElem?_eq_some_iff.1 hgg).1 (by simp)).trans hgg, rest⟩
theorem OwnB.alloc {w : World} {base : Nat} {v : Value} {l : List UInt8} (h : OwnB w base v l) (o : Obj) : OwnB (w.alloc o) base v l := h.kept (World.grownBy_alloc w o none)
theorem OwnB.drew {w : World} {base : Nat} {v : Value} {l : List UInt8} (h : OwnB w base v l) : OwnB w.drew base v l := h
theorem OwnB.form {w : World} {base : Nat} {v : Value} {l : List UInt8} (h : OwnB w base v l) : ∃ g c, v = .slice (some ⟨g, 0, none⟩) l.length c ∧ base ≤ g ∧ g < w.heap.size := by
  obtain ⟨g, cap, cur, fz, hv, hb, hgg, -⟩ := h
  exact ⟨g, cap, hv, hb, (Array.getElem?_eq_some_iff.1 hgg).1⟩

theorem store_bytes (g o : Nat) (t : TypeId) (fz : Nat × Nat) : ∀ (vs : List Value) (i : Nat) (cur : Array Value) (w : World), w.heap[g]? = some (.cells cur t fz) → (fz.2 ≤ o + i ∨ cur.size ≤ fz.1) → o + i + vs.length ≤ cur.size → (∀ v ∈ vs, v.oneCell' = true) →
    (storeCells ⟨g, o, none⟩ vs i).run Tryd.prog w = .ok () (w.setRow g (cur.toList.take (o + i) ++ vs ++ cur.toList.drop (o + i + vs.length)).toArray)
  | [], i, cur, w, hg, _, _, _ => by
    simp only [storeCells, List.append_nil, List.length_nil, Nat.add_zero, List.take_append_drop, Array.toArray_toList]
    rw [setRow_self w g cur t fz hg]
    rfl
  | v :: rest, i, cur, w, hg, hfz, hl, h1 => by
    have hi : o + i < cur.size := by simp at hl; omega
    have hadd : (⟨g, o, none⟩ : Addr).add i = ⟨g, o + i, none⟩ := by unfold Addr.add; split <;> simp_all
    have hcell : w.cell? ⟨g, o + i, none⟩ = some cur[o + i] := by simp [World.cell?, hg, hi]
    have hfro : w.frozen? ⟨g, o + i, none⟩ = false := by
      obtain ⟨lo, hi'⟩ := fz
      simp only [World.frozen?, hg, Bool.and_eq_false_iff, decide_eq_false_iff_not]
      simp only at hfz
      omega
    have hst : (store ((⟨g, o, none⟩ : Addr).add i) v).run Tryd.prog w = .ok () (w.setRow g (cur.setIfInBounds (o + i) v)) := by
      rw [hadd, run_store Tryd.prog w _ v _ (h1 v (by simp)), hcell]
      simp [hfro, setCell_eq_setRow w g (o + i) cur t fz v hg]
    have ih := store_bytes g o t fz rest (i + 1) (cur.setIfInBounds (o + i) v) (w.setRow g (cur.setIfInBounds (o + i) v)) (setRow_heap w g cur _ t _ hg) (by rcases hfz with h | h; exact .inl (by omega); exact .inr (by simpa using h)) (by simp at hl ⊢; omega) (fun x hx => h1 x (by simp [hx]))
    simp only [storeCells, Sem.run_bind, hst, Result.andThen_ok, ih, setRow_setRow]
    congr 3
    have e := list_seg_step cur.toList (o + i) v rest (by simp at hl ⊢; omega)
    simpa [Array.toList_setIfInBounds, Nat.add_assoc] using e

/-- append(b, s...). -/
theorem run_appendB_str (w : World) (base : Nat) (ty : TypeId) (v : Value) (l : List UInt8) (h : OwnB w base v l) (s : ByteArray) (hl : l.length ≤ 1000000000) (hs : s.size ≤ 1000000000) (hbase : base ≤ w.heap.size) :
    ∃ v' w', (Builtin.append_ #[71, 9] ty #[v, .string s]).run Tryd.prog w = .ok v' w' ∧ OwnB w' base v' (l ++ s.data.toList) ∧ w.grownBy w' v.ownBlock := by
  obtain ⟨i, hi, hz0, hz1, hz2⟩ := info_parts info_byte
  obtain ⟨g, cap, cur, fz, rfl, hbg, hg, hfz, hnc, hcm, hcs, htake⟩ := id h
  have hsl : (l ++ s.data.toList).length = l.length + s.size := by rw [List.length_append, Array.length_toList]; rfl
  have hlen : (Lib.byteCells l ++ Lib.strCells s).length = l.length + s.size := by rw [List.length_append, Lib.byteCells_length, Lib.strCells_length]
  have hbc : Lib.byteCells (l ++ s.data.toList) = Lib.byteCells l ++ Lib.strCells s := by rw [Lib.byteCells_append]; rfl
  by_cases hroom : l.length + s.size ≤ cap
  · have hf := Lib.run_firstCells_string (P := Tryd.prog) w 1 s
    have hst := store_bytes g l.length 5 fz (Lib.strCells s) 0 cur w hg (by rw [hcs]; simpa using hfz) (by rw [Lib.strCells_length]; omega) (Lib.strCells_oneCell s)
    simp only [Nat.add_zero, Lib.strCells_length] at hst
    have hr : (Builtin.append_ #[71, 9] ty #[.slice (some ⟨g, 0, none⟩) l.length cap, .string s]).run Tryd.prog w =
        .ok (.slice (some ⟨g, 0, none⟩) (l.length + s.size) cap) (w.setRow g (cur.toList.take l.length ++ Lib.strCells s ++ cur.toList.drop (l.length + s.size)).toArray) := by
      simp [Builtin.append_, run_underlying Tryd.underlying71, run_underlying Tryd.underlying9, sizeOf, typeInfo, hi, hz1, Builtin.lenOf, hroom, hf, Addr.add_lit, hst]
    refine ⟨_, _, hr, ⟨g, cap, _, fz, by rw [hsl], hbg, setRow_heap w g cur _ 5 _ hg, by rw [hsl]; rcases hfz with h | h; exact .inl (by omega); exact .inr h, by rw [hsl]; exact hroom, hcm, ?_, ?_⟩, ⟨rfl, rfl, rfl, by simp, fun k _ hk => setRow_other w g k _ (fun e => hk (by simp [Value.ownBlock, e]))⟩⟩
    · simp only [List.size_toArray, List.length_append, List.length_take, List.length_drop, Array.length_toList, Lib.strCells_length]
      omega
    · rw [hsl, hbc, htake, ← hlen]
      exact List.take_left
  · have holds : ∀ j u, (Lib.byteCells l)[j]? = some u → w.cell? ((⟨g, 0, none⟩ : Addr).add j) = some u := fun j u hu => by
      have hj : j < l.length := by have := (List.getElem?_eq_some_iff.1 hu).1; rwa [Lib.byteCells_length] at this
      rw [OwnB.cells h rfl j hj]
      simp [Lib.byteCells, hj] at hu
      rw [← hu]
    have hr := Lib.run_append_grow_string (P := Tryd.prog) w 71 9 ty 5 i (.int .u8 0) Tryd.underlying71 Tryd.underlying9 hi hz0 ⟨g, 0, none⟩ l.length cap (Lib.byteCells l) (by rw [hz1, Lib.byteCells_length, Nat.mul_one]) holds s (by omega) (by omega) (by rw [hz2]; exact growslice_fits (by omega) (by omega))
    have hge := grownCap_ge w (l.length + s.size) cap 5
    have hcm2 : grownCap w (l.length + s.size) cap 5 ≤ maxLen := grownCap_le_maxLen w (l.length + s.size) cap 5 (by unfold maxLen; omega)
    refine ⟨_, _, hr, ⟨w.heap.size, _, _, (0, 0), by rw [hsl], hbase, heap_alloc_new w.drew _, .inl (Nat.zero_le _), by rw [hsl]; exact hge, hcm2, ?_, ?_⟩, ⟨rfl, rfl, rfl, by simp, fun k hk _ => heap_alloc_old w.drew _ hk⟩⟩
    · have hz1' : (Value.int IntKind.u8 0).cells.size = 1 := rfl
      simp only [Array.size_append, List.size_toArray, size_zeroCells, hz1', Lib.byteCells_length, Lib.strCells_length]
      omega
    · simp only [Array.toList_append, List.append_assoc]
      rw [hbc, hsl, ← List.append_assoc, ← hlen]
      exact List.take_left

/-- append(b, c). -/
theorem run_appendB_byte (w : World) (base : Nat) (ty : TypeId) (v : Value) (l : List UInt8) (h : OwnB w base v l) (a : Addr) (c : Nat) (y : UInt8) (hy : w.cell? a = some (.int .u8 y.toNat)) (hl : l.length ≤ 1000000000) (hbase : base ≤ w.heap.size) :
    ∃ v' w', (Builtin.append_ #[71, 71] ty #[v, .slice (some a) 1 c]).run Tryd.prog w = .ok v' w' ∧ OwnB w' base v' (l ++ [y]) ∧ w.grownBy w' v.ownBlock := by
  obtain ⟨i, hi, hz0, hz1, hz2⟩ := info_parts info_byte
  obtain ⟨g, cap, cur, fz, rfl, hbg, hg, hfz, hnc, hcm, hcs, htake⟩ := id h
  have hsl : (l ++ [y]).length = l.length + 1 := by simp
  have hlen : (Lib.byteCells l ++ [Value.int .u8 y.toNat]).length = l.length + 1 := by simp [Lib.byteCells_length]
  have hbc : Lib.byteCells (l ++ [y]) = Lib.byteCells l ++ [Value.int .u8 y.toNat] := by rw [Lib.byteCells_append]; rfl
  have hnews : ∀ j u, [Value.int .u8 y.toNat][j]? = some u → w.cell? (a.add j) = some u := fun j u hu => by
    rcases j with _ | j
    · simp at hu; rw [← hu]; simpa [Addr.add] using hy
    · simp at hu
  have h1 : ∀ u ∈ [Value.int .u8 y.toNat], u.oneCell' = true := fun u hu => by simp at hu; rw [hu]; rfl
  by_cases hroom : l.length + 1 ≤ cap
  · have hf := run_firstCells_some (P := Tryd.prog) w i.size 1 a 1 c [Value.int .u8 y.toNat] (by rw [hz1]; rfl) hnews
    have hst := store_bytes g l.length 5 fz [Value.int .u8 y.toNat] 0 cur w hg (by rw [hcs]; simpa using hfz) (by simp; omega) h1
    simp only [Nat.add_zero] at hst
    rw [hz1] at hf
    have hr : (Builtin.append_ #[71, 71] ty #[.slice (some ⟨g, 0, none⟩) l.length cap, .slice (some a) 1 c]).run Tryd.prog w =
        .ok (.slice (some ⟨g, 0, none⟩) (l.length + 1) cap) (w.setRow g (cur.toList.take l.length ++ [Value.int .u8 y.toNat] ++ cur.toList.drop (l.length + [Value.int .u8 (y.toNat : Int)].length)).toArray) := by
      simp [Builtin.append_, run_underlying Tryd.underlying71, sizeOf, typeInfo, hi, hz1, Builtin.lenOf, hroom, hf, Addr.add_lit] at hst ⊢
      rw [hst]
      rfl
    refine ⟨_, _, hr, ⟨g, cap, _, fz, by rw [hsl], hbg, setRow_heap w g cur _ 5 _ hg, by rw [hsl]; rcases hfz with h | h; exact .inl (by omega); exact .inr h, by rw [hsl]; exact hroom, hcm, ?_, ?_⟩, ⟨rfl, rfl, rfl, by simp, fun k _ hk => setRow_other w g k _ (fun e => hk (by simp [Value.ownBlock, e]))⟩⟩
    · simp only [List.size_toArray, List.length_append, List.length_take, List.length_drop, Array.length_toList, List.length_singleton]
      omega
    · rw [hsl, hbc, htake, ← hlen]
      exact List.take_left
  · have holds : ∀ j u, (Lib.byteCells l)[j]? = some u → w.cell? ((⟨g, 0, none⟩ : Addr).add j) = some u := fun j u hu => by
      have hj : j < l.length := by have := (List.getElem?_eq_some_iff.1 hu).1; rwa [Lib.byteCells_length] at this
      rw [OwnB.cells h rfl j hj]
      simp [Lib.byteCells, hj] at hu
      rw [← hu]
    have hr := run_append_grow (P := Tryd.prog) w 71 ty 5 i (.int .u8 0) Tryd.underlying71 hi hz0 ⟨g, 0, none⟩ l.length cap (Lib.byteCells l) (by rw [hz1, Lib.byteCells_length, Nat.mul_one]) holds a 1 c [Value.int .u8 y.toNat] (by rw [hz1]; rfl) hnews (by omega) (by omega) (growslice_fits (by omega) (by rw [hz2]; omega))
    have hge := grownCap_ge w (l.length + 1) cap 5
    have hcm2 : grownCap w (l.length + 1) cap 5 ≤ maxLen := grownCap_le_maxLen w (l.length + 1) cap 5 (by unfold maxLen; omega)
    refine ⟨_, _, hr, ⟨w.heap.size, _, _, (0, 0), by rw [hsl], hbase, heap_alloc_new w.drew _, .inl (Nat.zero_le _), by rw [hsl]; exact hge, hcm2, ?_, ?_⟩, ⟨rfl, rfl, rfl, by simp, fun k hk _ => heap_alloc_old w.drew _ hk⟩⟩
    · have hz1' : (Value.int IntKind.u8 0).cells.size = 1 := rfl
      simp only [Array.size_append, List.size_toArray, size_zeroCells, hz1', Lib.byteCells_length, List.length_singleton]
      omega
    · simp only [Array.toList_append, List.append_assoc]
      rw [hbc, hsl, ← List.append_assoc, ← hlen]
      exact List.take_left

/-- '[]byte(s)'. -/
theorem convB (w : World) (s : ByteArray) (base : Nat) (hbase : base ≤ w.heap.size) (hs : s.size ≤ 1000000000) :
    ∃ v' w', (convert 9 71 (.string s)).run Tryd.prog w = .ok v' w' ∧ OwnB w' base v' s.data.toList ∧ w.grownBy w' none := by
  have hr := run_bytes_of_string w 9 71 5 s Tryd.underlying9 Tryd.underlying71 Tryd.underlying5
  have hge := grownCap_ge w s.size 0 5
  have hcm2 : grownCap w s.size 0 5 ≤ maxLen := grownCap_le_maxLen w s.size 0 5 (by unfold maxLen; omega)
  have hsz : s.data.toList.length = s.size := by rw [Array.length_toList]; rfl
  have hrow : (bytesRow s (grownCap w s.size 0 5)).size = grownCap w s.size 0 5 := by
    unfold bytesRow
    rw [Array.size_append, Array.size_map, Array.size_replicate]
    show s.size + _ = _
    omega
  refine ⟨_, _, hr, ⟨w.heap.size, grownCap w s.size 0 5, bytesRow s (grownCap w s.size 0 5), _, by rw [hsz], hbase, heap_alloc_new w.drew _, .inr (by rw [hrow]; exact Nat.le_refl _), by rw [hsz]; exact hge, hcm2, hrow, ?_⟩, ⟨rfl, rfl, rfl, by simp, fun k hk _ => heap_alloc_old w.drew _ hk⟩⟩
  unfold bytesRow
  rw [Array.toList_append, Array.toList_map, List.take_left' (by rw [List.length_map])]
  rfl

/-- 'string(b)'. -/
theorem backB {w : World} {base : Nat} {v : Value} {l : List UInt8} (h : OwnB w base v l) : (convert 71 9 v).run Tryd.prog w = .ok (.string ⟨l.toArray⟩) w := by
  obtain ⟨g, c, rfl, -, -⟩ := h.form
  exact run_convert_bytes_back w 71 9 5 ⟨g, 0, none⟩ c l Tryd.underlying71 Tryd.underlying5 Tryd.underlying9 (h.cells rfl)

end Go.Proofs.YtbddchonhicpiaaDoor
