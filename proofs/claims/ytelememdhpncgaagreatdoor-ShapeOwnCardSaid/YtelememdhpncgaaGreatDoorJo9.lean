/-
  Texts joined: Spec4, Regs, Rcopy.
-/
import Derived.Test.YtelememdhpncgaaGreatDoorJo1
import Derived.Test.YtelememdhpncgaaGreatDoorJo8
import Derived.Test.YtelememdhpncgaaGreatDoorJo7
import Derived.Test.YtelememdhpncgaaGreatDoorJo4

/-
  Plain mathematics: structures made of symbols, relations kept, how many tuples a valid relation has.
-/
namespace Go.Proofs.YtelememdhpncgaaGreatDoor.Sh

/-- The structure with empty relations. -/
def madeR (ss : List (ByteArray × Int)) : List Rel := ss.map fun s => ⟨s.1, s.2, []⟩

/-- A list's elements at two places differ. -/
theorem nodup_succ {α : Type} {l : List α} {k : Nat} {a : α} (ha : l[k]? = some a) : (l.take (k + 1)).Nodup ↔ (l.take k).Nodup ∧ a ∉ l.take k := by
  obtain ⟨hk, rfl⟩ := List.getElem?_eq_some_iff.1 ha
  rw [List.take_succ_eq_append_getElem hk, List.nodup_append]
  constructor
  · rintro ⟨h1, -, h3⟩
    exact ⟨h1, fun hm => h3 _ hm _ (List.mem_singleton_self _) rfl⟩
  · rintro ⟨h1, h2⟩
    refine ⟨h1, by simp, fun x hx y hy e => ?_⟩
    rw [List.mem_singleton] at hy
    subst hy
    exact h2 (e ▸ hx)
theorem nodup_take {α : Type} {l : List α} (h : l.Nodup) (k : Nat) : (l.take k).Nodup := h.sublist (List.take_sublist k l)

/-- The names of a valid structure differ. -/
theorem names_take {size : Int} {rs : List Rel} : ∀ (k : Nat), k ≤ rs.length → (List.range k).all (relAt size rs) = true → ((rs.take k).map (·.name.toList)).Nodup
  | 0, _, _ => by simp
  | k + 1, hk, h => by
    rw [range_all_succ] at h
    simp only [Bool.and_eq_true] at h
    have h1 := names_take k (by omega) h.1
    have h2 := h.2
    unfold relAt at h2
    rw [List.getElem?_eq_getElem (by omega)] at h2
    simp only [Bool.and_eq_true, Bool.not_eq_true'] at h2
    rw [List.take_succ_eq_append_getElem (by omega), List.map_append, List.nodup_append]
    refine ⟨h1, by simp, fun x hx y hy e => ?_⟩
    simp only [List.map_cons, List.map_nil, List.mem_singleton] at hy
    have hc : ((rs.take k).map (·.name.toList)).contains rs[k].name.toList = true := List.contains_iff_mem.2 (by rw [← hy, ← e]; exact hx)
    rw [hc] at h2
    exact absurd h2.2 (by simp)
theorem valid_names {size : Int} {rs : List Rel} (h : validB ⟨size, rs⟩ = true) : (rs.map (·.name.toList)).Nodup := by
  unfold validB at h
  simp only [Bool.and_eq_true] at h
  have := names_take rs.length (Nat.le_refl _) h.2
  rwa [List.take_length] at this

/-- Find: by the name alone. -/
def nameI (nm : List UInt8) (rs : List Rel) : Int :=
  match rs.findIdx? (fun r => r.name.toList == nm) with
  | some i => i
  | none => -1
def NoneNamed (nm : List UInt8) (rs : List Rel) (k : Nat) : Prop := ∀ j r, j < k → rs[j]? = some r → (r.name.toList == nm) = false
theorem NoneNamed.succ {nm : List UInt8} {rs : List Rel} {k : Nat} {r : Rel} (h : NoneNamed nm rs k) (hr : rs[k]? = some r) (hf : (r.name.toList == nm) = false) : NoneNamed nm rs (k + 1) := by
  intro j r' hj hr'
  by_cases hjk : j = k
  · subst hjk; rw [hr] at hr'; injection hr' with hr'; rw [← hr']; exact hf
  · exact h j r' (by omega) hr'
theorem nameI_hit {nm : List UInt8} {rs : List Rel} {k : Nat} {r : Rel} (h : NoneNamed nm rs k) (hr : rs[k]? = some r) (hf : (r.name.toList == nm) = true) : nameI nm rs = k := by
  unfold nameI
  obtain ⟨hk, hrk⟩ := List.getElem?_eq_some_iff.1 hr
  have : rs.findIdx? (fun r => r.name.toList == nm) = some k := by
    rw [List.findIdx?_eq_some_iff_getElem]
    refine ⟨hk, by rw [hrk]; exact hf, fun j hj => ?_⟩
    have := h j _ hj (List.getElem?_eq_getElem (by omega))
    simpa using this
  rw [this]
theorem nameI_none {nm : List UInt8} {rs : List Rel} (h : NoneNamed nm rs rs.length) : nameI nm rs = -1 := by
  unfold nameI
  have : rs.findIdx? (fun r => r.name.toList == nm) = none := by
    rw [List.findIdx?_eq_none_iff]
    intro r hr
    obtain ⟨j, hj, rfl⟩ := List.mem_iff_getElem.1 hr
    exact h j _ hj (List.getElem?_eq_getElem hj)
  rw [this]
theorem nameI_cases (nm : List UInt8) (rs : List Rel) : (nameI nm rs = -1 ∧ ∀ r ∈ rs, r.name.toList ≠ nm) ∨ ∃ (k : Nat) (r : Rel), nameI nm rs = k ∧ rs[k]? = some r ∧ r.name.toList = nm := by
  unfold nameI
  cases hf : rs.findIdx? (fun r => r.name.toList == nm) with
  | none =>
    rw [List.findIdx?_eq_none_iff] at hf
    exact .inl ⟨rfl, fun r hr e => by have := hf r hr; simp [e] at this⟩
  | some i =>
    obtain ⟨hk, hp, -⟩ := List.findIdx?_eq_some_iff_getElem.1 hf
    exact .inr ⟨i, rs[i], rfl, List.getElem?_eq_getElem hk, by simpa using hp⟩

/-- Among different names both ways to look a symbol up agree. -/
theorem find_name {nm : List UInt8} {ar : Int} {rs : List Rel} (hn : (rs.map (·.name.toList)).Nodup) {k : Nat} {r : Rel} (hr : rs[k]? = some r) (he : r.name.toList = nm) : findI nm ar rs = if r.arity = ar then (k : Int) else -1 := by
  obtain ⟨hk, rfl⟩ := List.getElem?_eq_some_iff.1 hr
  have huniq : ∀ j (hj : j < rs.length), rs[j].name.toList = nm → j = k := fun j hj e => by
    have hp := List.pairwise_iff_getElem.1 hn
    rcases Nat.lt_trichotomy j k with h | h | h
    · have h2 := hp j k (by simpa using hj) (by simpa using hk) h
      rw [List.getElem_map, List.getElem_map, e, he] at h2
      exact absurd rfl h2
    · exact h
    · have h2 := hp k j (by simpa using hk) (by simpa using hj) h
      rw [List.getElem_map, List.getElem_map, e, he] at h2
      exact absurd rfl h2
  have hbefore : NoneOf nm ar rs k := fun j r' hj hr' => by
    obtain ⟨hj', rfl⟩ := List.getElem?_eq_some_iff.1 hr'
    unfold symB
    have : rs[j].name.toList ≠ nm := fun e => by have := huniq j hj' e; omega
    simp [this]
  by_cases ha : rs[k].arity = ar
  · rw [if_pos ha]
    exact findI_hit hbefore hr (by unfold symB; simp [he, ha])
  · rw [if_neg ha]
    refine findI_none fun j r' hj hr' => ?_
    obtain ⟨hj', rfl⟩ := List.getElem?_eq_some_iff.1 hr'
    unfold symB
    by_cases e : rs[j].name.toList = nm
    · have hjk := huniq j hj' e
      subst hjk
      simp [ha]
    · simp [e]
theorem find_noname {nm : List UInt8} {ar : Int} {rs : List Rel} (h : ∀ r ∈ rs, r.name.toList ≠ nm) : findI nm ar rs = -1 := by
  refine findI_none fun j r' hj hr' => ?_
  obtain ⟨hj', rfl⟩ := List.getElem?_eq_some_iff.1 hr'
  unfold symB
  have := h rs[j] (List.getElem_mem hj')
  simp [this]

/-- The symbols fit; two have the same name. -/
def fitB (rs : List Rel) (s : ByteArray × Int) : Bool := decide (0 ≤ findI s.1.toList s.2 rs)
def fitsB (rs : List Rel) (ss : List (ByteArray × Int)) : Bool := ss.all (fitB rs)
def symNames (ss : List (ByteArray × Int)) : List (List UInt8) := ss.map (·.1.toList)
def onceB (ss : List (ByteArray × Int)) : Bool := decide (symNames ss).Nodup
theorem symNames_at {ss : List (ByteArray × Int)} {k : Nat} {s : ByteArray × Int} (h : ss[k]? = some s) : (symNames ss)[k]? = some s.1.toList := by
  unfold symNames; rw [List.getElem?_map, h]; rfl
theorem symNames_take (ss : List (ByteArray × Int)) (k : Nat) : symNames (ss.take k) = (symNames ss).take k := by
  unfold symNames; rw [List.map_take]
theorem once_false {ss : List (ByteArray × Int)} {k : Nat} {s : ByteArray × Int} (h : ss[k]? = some s) (hm : s.1.toList ∈ (symNames ss).take k) : onceB ss = false := by
  unfold onceB
  rw [decide_eq_false_iff_not]
  intro hn
  exact ((nodup_succ (symNames_at h)).1 (nodup_take hn (k + 1))).2 hm
theorem once_true {ss : List (ByteArray × Int)} {k : Nat} (hk : ss.length ≤ k) (h : ((symNames ss).take k).Nodup) : onceB ss = true := by
  unfold onceB
  rw [decide_eq_true_eq]
  rwa [List.take_of_length_le (by simpa [symNames] using hk)] at h

def relDummy : Rel := ⟨⟨#[]⟩, 0, []⟩
/-- The relation of a symbol; those of symbols. -/
def keepOne (rs : List Rel) (s : ByteArray × Int) : Rel := rs.getD (findI s.1.toList s.2 rs).toNat relDummy
def keepR (rs : List Rel) (ss : List (ByteArray × Int)) : List Rel := ss.map (keepOne rs)
def keepErr (size : Int) (rs : List Rel) (ss : List (ByteArray × Int)) : Int :=
  if validB ⟨size, rs⟩ = false then 1 else if fitsB rs ss = false then 4 else if onceB ss = false then 2 else 0
theorem fits_get {rs : List Rel} {ss : List (ByteArray × Int)} (h : fitsB rs ss = true) {k : Nat} {s : ByteArray × Int} (hs : ss[k]? = some s) : ∃ (j : Nat) (r : Rel), findI s.1.toList s.2 rs = j ∧ rs[j]? = some r ∧ keepOne rs s = r ∧ r.name.toList = s.1.toList := by
  unfold fitsB at h
  rw [List.all_eq_true] at h
  have h1 := h s (List.mem_of_getElem? hs)
  unfold fitB at h1
  have h2 := of_decide_eq_true h1
  obtain ⟨j, r, e, hr, hn, -⟩ := findI_get (nm := s.1.toList) (ar := s.2) (rs := rs) (by omega)
  refine ⟨j, r, e, hr, ?_, hn⟩
  unfold keepOne
  rw [e, Int.toNat_natCast, List.getD_eq_getElem?_getD, hr]
  rfl

/-- A valid relation has at most 4096 tuples, each of at most 12 elements; a valid structure has at most 8 relations. -/
theorem rising_rank {n : Nat} {ts : List (List Int)} {a : Nat} (hl : ∀ t ∈ ts, t.length = a) (hi : ∀ t ∈ ts, inB n t = true) (hr : Rising ts) : ∀ (i : Nat) (h : i < ts.length), (i : Int) ≤ rankI n ts[i]
  | 0, h => (rank_full n _ (hi _ (List.getElem_mem h))).1
  | i + 1, h => by
    have h0 := rising_rank hl hi hr i (by omega)
    have h1 := hr i h
    rw [getD_get [] ts i (by omega), getD_get [] ts (i + 1) h] at h1
    have la := hl _ (List.getElem_mem (show i < ts.length by omega))
    have lb := hl _ (List.getElem_mem h)
    have hlt := (rank_order n ts[i] ts[i + 1] (by omega) (hi _ (List.getElem_mem _)) (hi _ (List.getElem_mem _))).1 ((cmpI_less _ _ (by omega)).1 h1)
    omega
theorem relB_arity {n : Int} {r : Rel} (h : relB n r = true) : ∃ a b : Nat, n = a ∧ r.arity = b ∧ b ≤ 12 ∧ a ^ b ≤ 4096 ∧ 1 ≤ a := by
  unfold relB at h
  simp only [Bool.and_eq_true, decide_eq_true_eq] at h
  rcases powE_cases n r.arity with ⟨h1, -⟩ | ⟨a, b, e1, e2, ha, -, hb, hp, -⟩
  · exact absurd h.1.1 h1
  · exact ⟨a, b, e1, e2, hb, hp, ha⟩
theorem relB_small {n : Int} {r : Rel} (h : relB n r = true) : r.tuples.length ≤ 4096 ∧ ∀ t ∈ r.tuples, t.length ≤ 12 := by
  obtain ⟨a, b, rfl, e2, hb, hp, ha⟩ := relB_arity h
  have hl : ∀ t ∈ r.tuples, t.length = b := fun t ht => by have := relB_len h ht; omega
  refine ⟨?_, fun t ht => by rw [hl t ht]; exact hb⟩
  rcases Nat.eq_zero_or_pos r.tuples.length with h0 | h0
  · omega
  · have h1 := rising_rank hl (fun t ht => relB_in h ht) (relB_rising h) (r.tuples.length - 1) (by omega)
    have h2 := (rank_full a _ (relB_in h (List.getElem_mem (show r.tuples.length - 1 < r.tuples.length by omega)))).2
    rw [hl _ (List.getElem_mem _)] at h2
    have h3 : ((a ^ b : Nat) : Int) ≤ ((4096 : Nat) : Int) := Int.ofNat_le.2 hp
    rw [Int.natCast_pow] at h3
    omega

end Go.Proofs.YtelememdhpncgaaGreatDoor.Sh

/-
  Steps of a region at an act that is a letter: loads, addresses of fields, rows, boxes, appends, calls.
-/
namespace Go.Proofs.YtelememdhpncgaaGreatDoor
open Go.RowKit

section
variable {a : Act} {w : World} {K : Act → World → Prop} {Q : Exit → Act → World → Prop} {d j : Nat} {ty : TypeId} {ps : String}
set_option maxRecDepth 100000
theorem st_load_str {af : Array Edge} (g : Nat) (x y : Value) (he : a.eval (.tmp j) = .pointer (some ⟨g, 0, none⟩)) (h0 : w.cell? ⟨g, 0, none⟩ = some x) (h1 : w.cell? ⟨g, 1, none⟩ = some y) (h : K (a.put (some d) (.agg #[x, y])) w) :
    Oper.wp Tryz.prog { dst := some d, op := .load 24 (.tmp j), type := ty, pos := ps, after := af, guard := none } a w K Q := by
  unfold Oper.wp execOp
  simp only [he]
  go_simp
  exact h
theorem st_load_ints {af : Array Edge} (ad : Addr) (x : Value) (he : a.eval (.tmp j) = .pointer (some ad)) (h0 : w.cell? ad = some x) (h : K (a.put (some d) x) w) :
    Oper.wp Tryz.prog { dst := some d, op := .load 25 (.tmp j), type := ty, pos := ps, after := af, guard := none } a w K Q := by
  unfold Oper.wp execOp
  simp only [he]
  go_simp
  exact h
theorem st_load_syms {af : Array Edge} (ad : Addr) (x : Value) (he : a.eval (.tmp j) = .pointer (some ad)) (h0 : w.cell? ad = some x) (h : K (a.put (some d) x) w) :
    Oper.wp Tryz.prog { dst := some d, op := .load 38 (.tmp j), type := ty, pos := ps, after := af, guard := none } a w K Q := by
  unfold Oper.wp execOp
  simp only [he]
  go_simp
  exact h
theorem st_field_change1 {af : Array Edge} (g : Nat) (he : a.eval (.tmp j) = .pointer (some ⟨g, 0, none⟩)) (h : K (a.put (some d) (.pointer (some ⟨g, 1, none⟩))) w) :
    Oper.wp Tryz.prog { dst := some d, op := .fieldAddr 37 (.tmp j) 1, type := ty, pos := ps, after := af, guard := none } a w K Q := by
  unfold Oper.wp execOp
  simp only [he]
  go_simp
  exact h
theorem st_field_own {af : Array Edge} (g k : Nat) (hk : k < 2) (he : a.eval (.tmp j) = .pointer (some ⟨g, 0, none⟩)) (h : K (a.put (some d) (.pointer (some ⟨g, k, none⟩))) w) :
    Oper.wp Tryz.prog { dst := some d, op := .fieldAddr 40 (.tmp j) k, type := ty, pos := ps, after := af, guard := none } a w K Q := by
  rcases k with _ | _ | k
  · unfold Oper.wp execOp
    simp only [he]
    go_simp
    exact h
  · unfold Oper.wp execOp
    simp only [he]
    go_simp
    exact h
  · omega
theorem st_row_ints {af : Array Edge} (h : K (a.put (some d) (.slice (some ⟨w.heap.size, 0, none⟩) 0 0)) (w.alloc (.cells #[] 3))) :
    Oper.wp Tryz.prog { dst := some d, op := .buildSlice 25 0 #[], type := ty, pos := ps, after := af, guard := none } a w K Q := by
  unfold Oper.wp execOp
  go_simp
  exact h
theorem st_row_syms {af : Array Edge} (h : K (a.put (some d) (.slice (some ⟨w.heap.size, 0, none⟩) 0 0)) (w.alloc (.cells #[] 72))) :
    Oper.wp Tryz.prog { dst := some d, op := .buildSlice 38 0 #[], type := ty, pos := ps, after := af, guard := none } a w K Q := by
  unfold Oper.wp execOp
  go_simp
  exact h
theorem st_alloc_str {af : Array Edge} (h : K (a.put (some d) (.pointer (some ⟨w.heap.size, 0, none⟩))) (w.alloc (.cells #[.int .i64 0, .slice none 0 0] 24))) :
    Oper.wp Tryz.prog { dst := some d, op := .alloc 24, type := ty, pos := ps, after := af, guard := none } a w K Q := by
  unfold Oper.wp execOp
  go_simp
  exact h
theorem st_store_str {af : Array Edge} {i : Nat} (g : Nat) (x y x0 y0 : Value) (he : a.eval (.tmp j) = .pointer (some ⟨g, 0, none⟩)) (hv : a.eval (.tmp i) = .agg #[x, y]) (h0 : w.cell? ⟨g, 0, none⟩ = some x0) (h1 : w.cell? ⟨g, 1, none⟩ = some y0) (f0 : w.frozen? ⟨g, 0, none⟩ = false) (f1 : w.frozen? ⟨g, 1, none⟩ = false)
    (hx : ∃ n, x = .int .i64 n) (hy : ∃ A n c, y = .slice A n c)
    (h : K a ((w.setCell ⟨g, 0, none⟩ x).setCell ⟨g, 1, none⟩ y)) :
    Oper.wp Tryz.prog { dst := none, op := .store 24 (.tmp j) (.tmp i), type := ty, pos := ps, after := af, guard := none } a w K Q := by
  obtain ⟨n, rfl⟩ := hx
  obtain ⟨A, m, c, rfl⟩ := hy
  unfold Oper.wp execOp
  simp only [he, hv]
  go_simp
  exact h
theorem st_assign {af : Array Edge} {v : Value} (he : a.eval (.tmp j) = v) (h : K (a.put (some d) v) w) :
    Oper.wp Tryz.prog { dst := some d, op := .assign (.tmp j), type := ty, pos := ps, after := af, guard := none } a w K Q := by
  unfold Oper.wp execOp
  simp only [he]
  go_simp
  exact h
theorem st_move {af : Array Edge} {v : Value} (he : a.eval (.tmp j) = v) (h : K (a.put (some d) v) w) :
    Oper.wp Tryz.prog { dst := some d, op := .move (.tmp j), type := ty, pos := ps, after := af, guard := none } a w K Q := by
  unfold Oper.wp execOp
  simp only [he]
  go_simp
  exact h
theorem st_call_copy {af : Array Edge} {v : Value} {R : Ending → World → Prop} (he : a.eval (.tmp j) = v) (hc : Calls Tryz.prog 13 #[v] w R) (h : ∀ e w', R e w' → ∃ u, e = .returned u ∧ K (a.put (some d) u) w') :
    Oper.wp Tryz.prog { dst := some d, op := .call { callee := Callee.value (Operand.func 13), args := #[Operand.tmp j], argTypes := #[24] }, type := ty, pos := ps, after := af, guard := none } a w K Q := by
  unfold Oper.wp execOp
  simp only [List.map_toArray, List.map_cons, List.map_nil, he]
  have he' : a.tmps[j]?.getD undef = v := by rw [← he]; simp [Act.eval]
  go_simp
  try rw [he']
  refine hc.mono fun e w' hR => ?_
  obtain ⟨u, rfl, hk⟩ := h e w' hR
  exact hk
theorem st_copy_ints {af : Array Edge} {i : Nat} {L B : Nat} (b : Nat) (u : Value) (t : List Int) (he : a.eval (.tmp i) = .slice (some ⟨b, 0, none⟩) 0 0) (hb : Blk w b 3 #[]) (hL : L ≤ b) (hLw : L ≤ w.heap.size) (hx : a.eval (.tmp j) = u) (hu : Ints w B u t) (ht : t.length ≤ 1000000)
    (h : ∀ v' w', NInts w' L v' t → w.grownBy w' none → K (a.put (some d) v') w') :
    Oper.wp Tryz.prog { dst := some d, op := .call { callee := .builtin .append, args := #[Operand.tmp i, Operand.tmp j], argTypes := #[25, 25] }, type := ty, pos := ps, after := af, guard := none } a w K Q := by
  obtain ⟨i0, hi, hz0, hz1, hz2⟩ := info_parts int_info
  have hown : w.ownsRow L 3 1 (.slice (some ⟨b, 0, none⟩) 0 0) 0 [] := ⟨by simp, .inr ⟨b, 0, #[], rfl, hL, hb, Nat.le_refl _, by unfold maxLen; omega, by simp, by simp⟩⟩
  obtain ⟨A, m, c, rfl, rfl, -, hr⟩ := hu
  by_cases h0 : t = []
  · subst h0
    rcases A with _ | ad
    · have hrun := run_append_none (P := Tryz.prog) w L 25 ty 3 i0 1 Tryz.underlying25 hi (.slice (some ⟨b, 0, none⟩) 0 0) 0 _ hown c
      unfold Oper.wp execOp
      simp only [resolve, invoke, builtin, Sem.run_bind, Sem.run_pure, Result.andThen_ok, List.map_toArray, List.map_cons, List.map_nil, he, hx, List.length_nil, hrun]
      exact h _ _ (NInts.own (t := []) hown (Nat.le_refl _) (by omega)) (World.grownBy.refl w _)
    · have hrun := run_append_room_cells (P := Tryz.prog) w 25 ty 3 i0 Tryz.underlying25 hi b 0 0 0 ad 0 c [] (by simp) (fun k x hk => by simp at hk) (fun x hx => by cases hx) (Nat.le_refl _) (fun k hk => by simp at hk) (fun k hk => by simp at hk)
      unfold Oper.wp execOp
      simp only [resolve, invoke, builtin, Sem.run_bind, Sem.run_pure, Result.andThen_ok, List.map_toArray, List.map_cons, List.map_nil, he, hx, List.length_nil, hrun]
      exact h _ _ (NInts.own (t := []) hown (Nat.le_refl _) (by omega)) (World.grownBy.refl w _)
  · have hl : 0 < t.length := List.length_pos_iff.2 h0
    obtain ⟨ad, rfl, -, hcell⟩ := hr.2 hl
    obtain ⟨v', w', hrun, r1, r2⟩ := run_append_arg_grows (P := Tryz.prog) w 25 ty 3 i0 (.int .i64 0) 1 8 Tryz.underlying25 hi hz0 hz1 hz2 rfl (by decide) ⟨b, 0, none⟩ 0 0 [] (by simp) (fun k x hk => by simp at hk) ad t.length c (t.map (Value.int .i64)) (by simp) (fun k x hk => hcell k x hk) (by omega) (by unfold maxLen; omega) (by omega)
    unfold Oper.wp execOp
    simp only [resolve, invoke, builtin, Sem.run_bind, Sem.run_pure, Result.andThen_ok, List.map_toArray, List.map_cons, List.map_nil, he, hx, hrun]
    rw [Nat.zero_add, List.nil_append] at r1
    exact h _ _ (NInts.own r1 hLw (by omega)) r2
end

theorem symCells_get {rs : List Sh.Rel} {k : Nat} {u : Value} (h : (symCells rs)[k]? = some u) : ∃ j r, rs[j]? = some r ∧ ((k = j * 2 ∧ u = .string r.name) ∨ (k = j * 2 + 1 ∧ u = .int .i64 r.arity)) := by
  have hk := (List.getElem?_eq_some_iff.1 h).1
  rw [symCells_len] at hk
  have hj : k / 2 < rs.length := by omega
  obtain ⟨h1, h2⟩ := symCells_at rs (k / 2) _ (List.getElem?_eq_getElem hj)
  refine ⟨k / 2, rs[k / 2], List.getElem?_eq_getElem hj, ?_⟩
  rcases Nat.mod_two_eq_zero_or_one k with hm | hm
  · have e : k / 2 * 2 = k := by omega
    rw [e] at h1
    exact .inl ⟨e.symm, Option.some.inj (h.symm.trans h1)⟩
  · have e : k / 2 * 2 + 1 = k := by omega
    rw [e] at h2
    exact .inr ⟨e.symm, Option.some.inj (h.symm.trans h2)⟩
section
variable {a : Act} {w : World} {K : Act → World → Prop} {Q : Exit → Act → World → Prop} {d j : Nat} {ty : TypeId} {ps : String}
/-- A row of symbols lies in a block of symbols. -/
def SymB (w : World) (x : Value) : Prop := ∀ (ad : Addr) (n c : Nat), x = .slice (some ad) n c → 0 < n → ∃ cs, w.heap[ad.block]? = some (.cells cs 72 (0, 0))
theorem SymB.below {w w' : World} {x : Value} (h : SymB w x) (hb : Below w.heap.size w w') : SymB w' x := fun ad n c e hn => by
  obtain ⟨cs, hh⟩ := h ad n c e hn
  exact ⟨cs, (hb.block _ (heap_lt hh)).trans hh⟩
theorem Syms.store {w : World} {B g o : Nat} {x u : Value} {ss : List (ByteArray × Int)} {cs : Array Value} (h : Syms w B x ss) (hs : SymB w x) (hb : Blk w g 24 cs) : Syms (w.setCell ⟨g, o, none⟩ u) B x ss := by
  obtain ⟨A, n, c, rfl, h2, h3, h4⟩ := h
  refine ⟨A, n, c, rfl, h2, h3, fun hn => ?_⟩
  obtain ⟨ad, rfl, hB, hc⟩ := h4 hn
  obtain ⟨cs', hh⟩ := hs ad n c rfl hn
  have hne : ad.block ≠ g := fun e => by
    rw [e] at hh
    unfold Blk at hb
    rw [hb] at hh
    injection hh with hh
    injection hh with _ hh
    exact absurd hh (by decide)
  have hk : ∀ k, (w.setCell ⟨g, o, none⟩ u).cell? (ad.add k) = w.cell? (ad.add k) := fun k => World.cell?_of_block (by rw [block_of_add]; exact Below.heap_setCell w ⟨g, o, none⟩ u ad.block hne)
  exact ⟨ad, rfl, hB, fun j s hj => by rw [hk, hk]; exact hc j s hj⟩
/-- A row of symbols lies from block L on. -/
def SymL (L : Nat) (x : Value) : Prop := ∀ (ad : Addr) (n c : Nat), x = .slice (some ad) n c → 0 < n → L ≤ ad.block
theorem symbol_one (ss : List (ByteArray × Int)) : ∀ u ∈ symCells (Sh.madeR ss), u.oneCell' = true := by
  intro u hu
  unfold symCells at hu
  obtain ⟨r, -, hr⟩ := List.mem_flatMap.1 hu
  simp at hr
  rcases hr with rfl | rfl <;> rfl
theorem symsOf_made (ss : List (ByteArray × Int)) : symsOf (Sh.madeR ss) = ss := by
  unfold symsOf Sh.madeR
  rw [List.map_map]
  exact List.map_id ss
set_option maxRecDepth 100000
theorem st_copy_syms {af : Array Edge} {i : Nat} {B : Nat} (b : Nat) (u : Value) (ss : List (ByteArray × Int)) (he : a.eval (.tmp i) = .slice (some ⟨b, 0, none⟩) 0 0) (hb : Blk w b 72 #[]) (hx : a.eval (.tmp j) = u) (hu : Syms w B u ss) (ht : ss.length ≤ 1000000)
    (h : ∀ v' w', Syms w' w'.heap.size v' ss → SymB w' v' → SymL w.heap.size v' → w.grownBy w' none → K (a.put (some d) v') w') :
    Oper.wp Tryz.prog { dst := some d, op := .call { callee := .builtin .append, args := #[Operand.tmp i, Operand.tmp j], argTypes := #[38, 38] }, type := ty, pos := ps, after := af, guard := none } a w K Q := by
  obtain ⟨i0, hi, hz0, hz1, hz2⟩ := info_parts sym_info
  have hown : w.ownsRow b 72 2 (.slice (some ⟨b, 0, none⟩) 0 0) 0 [] := ⟨by simp, .inr ⟨b, 0, #[], rfl, Nat.le_refl _, hb, Nat.le_refl _, by unfold maxLen; omega, by simp, by simp⟩⟩
  have hnil : Syms w w.heap.size (.slice (some ⟨b, 0, none⟩) 0 0) [] := ⟨_, _, _, rfl, rfl, by omega, fun h => absurd h (by omega)⟩
  obtain ⟨A, m, c, rfl, rfl, -, hr⟩ := hu
  by_cases h0 : ss = []
  · subst h0
    rcases A with _ | ad
    · have hrun := run_append_none (P := Tryz.prog) w b 38 ty 72 i0 2 Tryz.underlying38 hi (.slice (some ⟨b, 0, none⟩) 0 0) 0 _ hown c
      unfold Oper.wp execOp
      simp only [resolve, invoke, builtin, Sem.run_bind, Sem.run_pure, Result.andThen_ok, List.map_toArray, List.map_cons, List.map_nil, he, hx, List.length_nil, hrun]
      exact h _ _ hnil (fun ad n c e hn => by injection e with _ e _; omega) (fun ad n c e hn => by injection e with _ e _; omega) (World.grownBy.refl w _)
    · have hrun := run_append_room_cells (P := Tryz.prog) w 38 ty 72 i0 Tryz.underlying38 hi b 0 0 0 ad 0 c [] (by simp) (fun k x hk => by simp at hk) (fun x hx => by cases hx) (Nat.le_refl _) (fun k hk => by simp at hk) (fun k hk => by simp at hk)
      unfold Oper.wp execOp
      simp only [resolve, invoke, builtin, Sem.run_bind, Sem.run_pure, Result.andThen_ok, List.map_toArray, List.map_cons, List.map_nil, he, hx, List.length_nil, hrun]
      exact h _ _ hnil (fun ad n c e hn => by injection e with _ e _; omega) (fun ad n c e hn => by injection e with _ e _; omega) (World.grownBy.refl w _)
  · have hl : 0 < ss.length := List.length_pos_iff.2 h0
    obtain ⟨ad, rfl, -, hcell⟩ := hr hl
    have hml : (Sh.madeR ss).length = ss.length := by unfold Sh.madeR; simp
    obtain ⟨v', w', hrun, r1, r2⟩ := run_append_arg_grows (P := Tryz.prog) w 38 ty 72 i0 _ 2 24 Tryz.underlying38 hi hz0 hz1 hz2 rfl (by decide) ⟨b, 0, none⟩ 0 0 [] (by simp) (fun k x hk => by simp at hk) ad ss.length c (symCells (Sh.madeR ss)) (by rw [symCells_len, hml]) (fun k x hk => by
      obtain ⟨j, r, hj, hx⟩ := symCells_get hk
      unfold Sh.madeR at hj
      rw [List.getElem?_map] at hj
      obtain ⟨s, hs, rfl⟩ := Option.map_eq_some_iff.1 hj
      rcases hx with ⟨rfl, rfl⟩ | ⟨rfl, rfl⟩
      · exact (hcell j s hs).1
      · exact (hcell j s hs).2) (by omega) (by unfold maxLen; omega) (by omega)
    unfold Oper.wp execOp
    simp only [resolve, invoke, builtin, Sem.run_bind, Sem.run_pure, Result.andThen_ok, List.map_toArray, List.map_cons, List.map_nil, he, hx, hrun]
    rw [Nat.zero_add, List.nil_append] at r1
    have hsy := Syms.own r1 hml.symm (by omega)
    rw [symsOf_made] at hsy
    exact h _ _ hsy (fun ad n c e hn => by
      subst e
      rcases r1.2 with ⟨e, -⟩ | ⟨g, cap, cur, e, -, hh, -⟩
      · cases e
      · injection e with e _ _
        injection e with e
        subst e
        exact ⟨_, hh⟩) (fun ad n c e hn => by
      subst e
      rcases r1.2 with ⟨e, -⟩ | ⟨g, cap, cur, e, h9, hh, -⟩
      · cases e
      · injection e with e _ _
        injection e with e
        subst e
        exact h9) r2
end

end Go.Proofs.YtelememdhpncgaaGreatDoor

/-
  Walk: the reference's copied.
-/
namespace Go.Proofs.YtelememdhpncgaaGreatDoor
open Go.RowKit

/-- append of one slice value to a row of the call's own. -/
theorem append_tup {ops : Array Oper} {rest : List Oper} {o : Oper} {a : Act} {Q : Exit → Act → World → Prop} (w : World) (hgd : o.guard = none) (s x : Operand)
    (ho : o.op = .call { callee := .builtin .append, args := #[s, x], argTypes := #[55, 55] })
    (base : Nat) (v : Value) (n : Nat) (xs : List Value) (hs : a.eval s = v) (hown : w.ownsRow base 25 1 v n xs)
    (ad : Addr) (c : Nat) (y : Value) (hx : a.eval x = .slice (some ad) 1 c) (hc : w.cell? ad = some y) (hy : y.oneCell' = true) (hn : n ≤ 1000000) (hbase : base ≤ w.heap.size)
    (h : ∀ v' w', w'.ownsRow base 25 1 v' (n + 1) (xs ++ [y]) → w.grownBy w' v.ownBlock → wpList Tryz.prog ops Q rest (a.put o.dst v') w') :
    wpList Tryz.prog ops Q (o :: rest) a w := by
  obtain ⟨i0, hi, hz0, hz1, hz2⟩ := info_parts tups_info
  refine wpList_append_own w hgd s x 55 ho base 25 i0 (.slice none 0 0) 1 24 Tryz.underlying55 hi hz0 hz1 hz2 rfl (by decide) v n _ hs hown ad 1 c [y] hx rfl ?_ ?_ (by unfold maxLen; omega) (by omega) hbase ?_
  · intro j u hu
    rcases j with _ | j
    · simp at hu; rw [← hu]; exact hc
    · simp at hu
  · intro u hu; simp at hu; rw [hu]; exact hy
  · intro v' w' h1 h2 _
    exact h v' w' h1 h2

set_option maxRecDepth 100000 in
set_option maxHeartbeats 400000 in
theorem copied_any (v : Value) (ts : List (List Int)) (w : World) (B : Nat) (hB : B ≤ w.heap.size) (h : Tups w B v ts) (hl : ts.length ≤ 1000000) (ht : ∀ t ∈ ts, t.length ≤ 1000000) :
    Calls Tryz.prog 36 #[v] w fun e w' => ∃ u, e = .returned u ∧ NTups w' w.heap.size u ts ∧ Below w.heap.size w w' := by
  have h' := h
  obtain ⟨A, len, c, rfl, hlen, -⟩ := h'
  have hl' : len ≤ 1000000 := by omega
  have Hlen := Lib.hid hlen; clear hlen
  have Ht := Lib.hid ht; clear ht hl
  go_enter Tryz.func36, Tryz.ntmps36
  go_wp2
  go_loopw [3, 4] (fun v i wr => ∃ (k : Nat) (us : List Value), k ≤ len ∧ i = .int .i64 k ∧ us.length = k ∧ wr.ownsRow w.heap.size 25 1 v k us ∧ Elems wr w.heap.size us (ts.take k) ∧ Below w.heap.size w wr) (fun _ i _ => len - (intOf i).toNat)
  case atStart => exact ⟨0, [], Nat.zero_le _, rfl, rfl, World.ownsRow_nil _ _ _ _, (fun j u t h => by simp at h), Below.refl _ _⟩
  case round =>
    obtain ⟨k, us, hk, rfl, hus, hown, hel, hbel⟩ := hrel
    have Hown := Lib.hid hown; clear hown
    obtain ⟨TA, TC, rfl⟩ := own_slice Hown.out
    have Hus := Lib.hid hus; clear hus
    by_cases hlt : k < len
    · obtain ⟨ad, u, rfl, hb, hcu, hiu⟩ := (h.below (hbel.mono hB)).at_ hlt
      have hiu' := hiu
      obtain ⟨UA, UN, UC, rfl, -⟩ := hiu'
      have hts : ts[k]? = some (ts.getD k []) := getD_some (d := []) (by rw [← Hlen.out]; exact hlt)
      generalize ts.getD k [] = t0 at *
      have Hts := Lib.hid hts; clear hts
      have hbz := hbel.size
      have htl := Ht.out _ (List.mem_of_getElem? Hts.out)
      have hiu2 : Ints (wr.alloc (.cells #[] 3)) B (.slice UA UN UC) t0 := hiu.keep (fun p hp => World.cell?_alloc_lt _ _ _ (by omega))
      have hcu2 : (wr.alloc (.cells #[] 3)).cell? (ad.add k) = some (.slice UA UN UC) := (World.cell?_alloc_lt _ _ _ (by rw [block_of_add]; omega)).trans hcu
      have Hiu := Lib.hid hiu2; clear hiu2 hiu
      go_wp2_with (first
        | (at_builtin
           refine append_ints _ rfl _ _ rfl wr.heap.size _ 0 [] rfl (own_empty wr 3 1) B (.slice UA UN UC) t0 rfl Hiu.out (by omega) htl (by simp) ?_
           intro v5 w5 hown5 hg5
           have hown5 : w5.ownsRow wr.heap.size 3 1 v5 t0.length (t0.map (Value.int .i64)) := by simpa using hown5
           obtain ⟨XA, XC, rfl⟩ := own_slice hown5
           have hn5 : NInts w5 wr.heap.size (.slice XA t0.length XC) t0 := NInts.own hown5 (Nat.le_refl _) (by omega)
           have hb5 : Below wr.heap.size wr w5 := ((Below.refl _ _).alloc (Nat.le_refl _) _).grown hg5 (by simp) (fun g e => Nat.le_of_eq (Option.some.inj (show some wr.heap.size = some g from e)))
           have Hn5 := Lib.hid hn5; clear hn5
           have Hb5 := Lib.hid hb5; clear hb5 hown5)
        | (at_builtin
           refine append_tup _ rfl _ _ rfl w.heap.size _ k us rfl (World.ownsRow.alloc (own_below Hown.out Hb5.out) _) ⟨w5.heap.size, 0, none⟩ 1 (.slice XA t0.length XC) rfl ((Blk.new w5 25 #[.slice XA t0.length XC]).cell 0) rfl (by omega) (by have := Hb5.out.size; simp; omega) ?_
           intro v8 w8 hown8 hg8))
      have hg8' : (w5.alloc (.cells #[.slice XA t0.length XC] 25)).grownBy w8 (Value.slice TA k TC).ownBlock := hg8
      have hb5 := Hb5.out
      have hz5 := hb5.size
      have hk8 : Keeps w.heap.size [3] w5 w8 := (Keeps.alloc _ _ _ _).trans (Keeps.own hg8' (World.ownsRow.alloc (own_below Hown.out Hb5.out) _) (by decide))
      refine ⟨⟨k + 1, us ++ [.slice XA t0.length XC], by omega, by go_num, by rw [List.length_append, Hus.out]; rfl, hown8, ?_, ?_⟩, by simp [intOf]; omega⟩
      · rw [take_snoc Hts.out]
        exact Elems.snoc ((hel.keep (Keeps.of_below hb5)).keep hk8) (by rw [Hus.out, List.length_take]; have := Hlen.out; omega) ((Hn5.out.more hbz).keep hk8)
      · exact ((hbel.trans (hb5.mono hbz)).alloc (by omega) _).grown hg8' (by simp; omega) (fun g e => (Hown.out.lt g e).1)
    · have hkl : k = len := by omega
      subst hkl
      have htk : ts.take k = ts := List.take_of_length_le (by have := Hlen.out; omega)
      rw [htk] at hel
      have hnt : NTups wr w.heap.size (.slice TA k TC) ts := NTups.own Hown.out (Nat.le_refl _) (by omega) (by rw [Hus.out]; exact Hlen.out) hel
      have Hnt := Lib.hid hnt; clear hnt htk hel
      go_wp2
      go_ret
      exact ⟨_, rfl, Hnt.out, hbel⟩

end Go.Proofs.YtelememdhpncgaaGreatDoor
