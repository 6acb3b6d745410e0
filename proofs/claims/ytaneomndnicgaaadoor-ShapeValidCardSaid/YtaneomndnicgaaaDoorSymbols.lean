/-
  Walk: shape.Symbols.
-/
import Derived.Test.YtaneomndnicgaaaDoorSyms
import Derived.Test.YtaneomndnicgaaaDoorValid
import Derived.Test.YtaneomndnicgaaaDoorTuple
namespace Go.Proofs.YtaneomndnicgaaaDoor
open Go.RowKit

/-- The symbols of a list of relations; their cells. -/
def symsOf (rs : List Sh.Rel) : List (ByteArray × Int) := rs.map fun r => (r.name, r.arity)
def symCells (rs : List Sh.Rel) : List Value := rs.flatMap fun r => [.string r.name, .int .i64 r.arity]
theorem symCells_len : ∀ rs, (symCells rs).length = rs.length * 2
  | [] => rfl
  | r :: rs => by
    have h := symCells_len rs
    unfold symCells at h ⊢
    rw [List.flatMap_cons, List.length_append, h, List.length_cons]
    simp; omega
theorem symCells_at : ∀ (rs : List Sh.Rel) (j : Nat) (r : Sh.Rel), rs[j]? = some r → (symCells rs)[j * 2]? = some (.string r.name) ∧ (symCells rs)[j * 2 + 1]? = some (.int .i64 r.arity)
  | [], j, r, h => by simp at h
  | x :: rs, 0, r, h => by simp at h; subst h; exact ⟨rfl, rfl⟩
  | x :: rs, j + 1, r, h => by
    have h1 := symCells_at rs j r (by simpa using h)
    unfold symCells at h1 ⊢
    rw [List.flatMap_cons, show (j + 1) * 2 = 2 + j * 2 by omega, show 2 + j * 2 + 1 = 2 + (j * 2 + 1) by omega]
    rw [List.getElem?_append_right (by simp), List.getElem?_append_right (by simp)]
    simpa using h1
theorem symCells_snoc (rs : List Sh.Rel) (r : Sh.Rel) : symCells (rs ++ [r]) = symCells rs ++ [.string r.name, .int .i64 r.arity] := by
  unfold symCells
  rw [List.flatMap_append]
  rfl
theorem Syms.own {w : World} {base n : Nat} {v : Value} {rs : List Sh.Rel} (h : w.ownsRow base 85 2 v n (symCells rs)) (hn : n = rs.length) (hm : n ≤ 140737488351232) : Syms w w.heap.size v (symsOf rs) := by
  have hform : ∃ A c, v = .slice A n c := by
    rcases h.2 with ⟨rfl, rfl, -⟩ | ⟨g, cap, cur, rfl, -⟩
    · exact ⟨_, _, rfl⟩
    · exact ⟨_, _, rfl⟩
  obtain ⟨A, c, rfl⟩ := hform
  have hr := Reads.of_own h
  refine ⟨A, n, c, rfl, by simp [symsOf, hn], hm, fun h0 => ?_⟩
  obtain ⟨ad, hA, hb, hc⟩ := hr.2 h0
  refine ⟨ad, hA, hb, fun j s hs => ?_⟩
  unfold symsOf at hs
  rw [List.getElem?_map] at hs
  obtain ⟨r, hrj, rfl⟩ := Option.map_eq_some_iff.1 hs
  obtain ⟨h1, h2⟩ := symCells_at rs j r hrj
  exact ⟨hc _ _ h1, hc _ _ h2⟩

theorem sym_info : (Tryd.prog.info? 85).map (fun i => (i.zero, i.size, i.bytes)) = some (some (.agg #[.string ⟨#[]⟩, .int .i64 0]), 2, 24) := by kernel_rfl
/-- append of one symbol to a row of the call's own. -/
theorem append_sym {ops : Array Oper} {rest : List Oper} {o : Oper} {a : Act} {Q : Exit → Act → World → Prop} (w : World) (hgd : o.guard = none) (s x : Operand)
    (ho : o.op = .call { callee := .builtin .append, args := #[s, x], argTypes := #[27, 27] })
    (base : Nat) (v : Value) (n : Nat) (rs : List Sh.Rel) (hs : a.eval s = v) (hown : w.ownsRow base 85 2 v n (symCells rs))
    (g c : Nat) (r : Sh.Rel) (hx : a.eval x = .slice (some ⟨g, 0, none⟩) 1 c) (hc : Blk w g 85 #[.string r.name, .int .i64 r.arity]) (hn : n ≤ 1000000) (hbase : base ≤ w.heap.size)
    (h : ∀ v' w', w'.ownsRow base 85 2 v' (n + 1) (symCells (rs ++ [r])) → w.grownBy w' v.ownBlock → wpList Tryd.prog ops Q rest (a.put o.dst v') w') :
    wpList Tryd.prog ops Q (o :: rest) a w := by
  obtain ⟨i0, hi, hz0, hz1, hz2⟩ := info_parts sym_info
  refine wpList_append_own w hgd s x 27 ho base 85 i0 _ 2 24 Tryd.underlying27 hi hz0 hz1 hz2 rfl (by decide) v n _ hs hown ⟨g, 0, none⟩ 1 c [.string r.name, .int .i64 r.arity] hx rfl ?_ ?_ (by unfold maxLen; omega) (by omega) hbase ?_
  · intro j u hu
    have e : (Addr.mk g 0 none).add j = ⟨g, j, none⟩ := by unfold Addr.add; split <;> simp_all
    rw [e, hc.cell j]
    simpa using hu
  · intro u hu
    simp at hu
    rcases hu with rfl | rfl <;> rfl
  · intro v' w' h1 h2 _
    exact h v' w' (by rw [symCells_snoc]; exact h1) h2

set_option maxRecDepth 100000 in
set_option maxHeartbeats 400000 in
theorem symbols_bad (size : Int) (v : Value) (rs : List Sh.Rel) (w : World) (B : Nat) (hB : B ≤ w.heap.size) (h : Rels w B v rs) (hvb : Sh.validB ⟨size, rs⟩ = false) :
    Calls Tryd.prog 20 #[.agg #[.int .i64 size, v]] w fun e w' => e = .returned (.slice none 0 0) ∧ Below w.heap.size w w' := by
  have h' := h
  obtain ⟨A, len, c, rfl, -⟩ := h'
  have hb0 := (Below.refl w.heap.size w).alloc (Nat.le_refl _) (.cells #[.int .i64 size, .slice A len c] 24)
  have hcall := valid_any size (.slice A len c) rs (w.alloc (.cells #[.int .i64 size, .slice A len c] 24)) B (by simp; omega) (h.below (hb0.mono hB))
  have Hcall := Lib.hid hcall; clear hcall
  have Hb0 := Lib.hid hb0; clear hb0
  have Hvb := Lib.hid hvb; clear hvb
  go_enter Tryd.func20, Tryd.ntmps20
  go_wp2_with (go_at_call 16; refine Hcall.out.mono ?_; rw [Hvb.out]; rintro e w1 ⟨rfl, hb1⟩)
  go_ret
  exact ⟨rfl, Hb0.out.trans (hb1.mono (by simp))⟩

set_option maxRecDepth 100000 in
set_option maxHeartbeats 400000 in
theorem symbols_ok (size : Int) (v : Value) (rs : List Sh.Rel) (w : World) (B : Nat) (hB : B ≤ w.heap.size) (h : Rels w B v rs) (hvb : Sh.validB ⟨size, rs⟩ = true) (hl : rs.length ≤ 1000) :
    Calls Tryd.prog 20 #[.agg #[.int .i64 size, v]] w fun e w' => ∃ u, e = .returned u ∧ Syms w' w'.heap.size u (symsOf rs) ∧ Below w.heap.size w w' := by
  have h' := h
  obtain ⟨A, len, c, rfl, hlen, -⟩ := h'
  have hb0 := (Below.refl w.heap.size w).alloc (Nat.le_refl _) (.cells #[.int .i64 size, .slice A len c] 24)
  have hcall := valid_any size (.slice A len c) rs (w.alloc (.cells #[.int .i64 size, .slice A len c] 24)) B (by simp; omega) (h.below (hb0.mono hB))
  have hbox := Blk.new w 24 #[.int .i64 size, .slice A len c]
  have Hcall := Lib.hid hcall; clear hcall
  have Hb0 := Lib.hid hb0; clear hb0
  have Hvb := Lib.hid hvb; clear hvb
  have Hbox := Lib.hid hbox; clear hbox
  have Hlen := Lib.hid hlen; clear hlen
  go_enter Tryd.func20, Tryd.ntmps20
  go_wp2_with (go_at_call 16; refine Hcall.out.mono ?_; rw [Hvb.out]; rintro e w1 ⟨rfl, hb1⟩
               have hbx := Hbox.out.below hb1 (by simp)
               have bx1 : w1.cell? ⟨w.heap.size, 1, none⟩ = some (.slice A len c) := hbx.cell 1
               have hs1 : w.heap.size + 1 ≤ w1.heap.size := by have := hb1.size; simp at this; exact this
               have Hb1 := Lib.hid (Hb0.out.trans (hb1.mono (by simp))); clear hb1 hbx)
  go_loopw [3, 12] (fun v i wr => ∃ k : Nat, k ≤ len ∧ i = .int .i64 k ∧ wr.ownsRow (w.heap.size + 1) 85 2 v k (symCells (rs.take k)) ∧ Below w.heap.size w wr ∧ w.heap.size + 1 ≤ wr.heap.size) (fun _ i _ => len - (intOf i).toNat)
  case atStart => exact ⟨0, Nat.zero_le _, rfl, by simpa [symCells] using World.ownsRow_nil _ _ _ _, Hb1.out, hs1⟩
  case round =>
    obtain ⟨k, hk, rfl, hown, hbel, hsz⟩ := hrel
    have Hown := Lib.hid hown; clear hown
    by_cases hlt : k < len
    · obtain ⟨ad, u, r, rfl, hb, hr, c0, c1, c2, htu, hn⟩ := (h.below (hbel.mono hB)).at_ hlt
      obtain ⟨UA, UN, UC, rfl, -⟩ := htu
      have htk : rs.take (k + 1) = rs.take k ++ [r] := by
        have hl' : k < rs.length := by have := Hlen.out; omega
        rw [List.take_succ_eq_append_getElem hl']
        rw [List.getElem?_eq_getElem hl'] at hr
        injection hr with hr
        rw [hr]
      have Htk := Lib.hid htk; clear htk
      have hk1000 : k ≤ 1000 := by have := Hlen.out; omega
      have Hr := Lib.hid hr; clear hr
      have Hbel := Lib.hid hbel; clear hbel
      go_wp2_with (at_builtin; refine append_sym _ rfl _ _ rfl (w.heap.size + 1) _ k (rs.take k) rfl ((Hown.out.alloc _).alloc _) (wr.heap.size + 1) 1 r rfl (by have hh := Blk.new (wr.alloc (.cells #[.string r.name, .int .i64 r.arity, .slice UA UN UC] 51)) 85 #[.string r.name, .int .i64 r.arity]; rw [World.size_alloc] at hh; exact hh) (by omega) (by simp only [World.size_alloc]; omega) ?_; intro v' w7 hown7 hg7)
      refine ⟨⟨k + 1, by omega, by go_num, by rw [Htk.out]; exact hown7, ?_, ?_⟩, by simp [intOf]; omega⟩
      · exact ((Hbel.out.alloc (by omega) _).alloc (by simp only [World.size_alloc]; omega) _).grown hg7 (by simp only [World.size_alloc]; omega) (fun g e => by have := (Hown.out.lt g e).1; omega)
      · have := hg7.size
        simp only [World.size_alloc] at this
        omega
    · have hkl : k = len := by omega
      subst hkl
      have htk : rs.take k = rs := List.take_of_length_le (by have := Hlen.out; omega)
      have hsy : Syms wr wr.heap.size _ (symsOf rs) := Syms.own (by have h1 := Hown.out; rw [htk] at h1; exact h1) Hlen.out (by have := Hlen.out; omega)
      have Hsy := Lib.hid hsy; clear hsy htk
      go_wp2
      go_ret
      exact ⟨_, rfl, Hsy.out, hbel⟩

end Go.Proofs.YtaneomndnicgaaaDoor
