/-
  Walk: the reference's Symbols.
-/
import Derived.Test.YtaneomndnicgaaaDoorSymbols
import Derived.Deep.RegionLaw
namespace Go.Proofs.YtaneomndnicgaaaDoor
open Go.RowKit

theorem step_append_sym {ops : Array Oper} {o : Oper} {a : Act} {K : Act → World → Prop} {Q : Exit → Act → World → Prop} {E : Prop} (w : World) (hgd : o.guard = none) (s x : Operand)
    (ho : o.op = .call { callee := .builtin .append, args := #[s, x], argTypes := #[27, 27] })
    (base : Nat) (v : Value) (n : Nat) (rs : List Sh.Rel) (hs : a.eval s = v) (hown : w.ownsRow base 85 2 v n (symCells rs))
    (g c : Nat) (r : Sh.Rel) (hx : a.eval x = .slice (some ⟨g, 0, none⟩) 1 c) (hc : Blk w g 85 #[.string r.name, .int .i64 r.arity]) (hn : n ≤ 1000000) (hbase : base ≤ w.heap.size)
    (h : ∀ v' w', w'.ownsRow base 85 2 v' (n + 1) (symCells (rs ++ [r])) → w.grownBy w' v.ownBlock → K (a.put o.dst v') w') :
    if Region.wanted o (yielded ops a.tmps) = true then Oper.wp Tryd.prog o a w K Q else E := by
  obtain ⟨i0, hi, hz0, hz1, hz2⟩ := info_parts sym_info
  have hw : Region.wanted o (yielded ops a.tmps) = true := by simp [Region.wanted, hgd]
  rw [if_pos hw]
  refine wp_append_own w s x 27 ho base 85 i0 _ 2 24 Tryd.underlying27 hi hz0 hz1 hz2 rfl (by decide) v n _ hs hown ⟨g, 0, none⟩ 1 c [.string r.name, .int .i64 r.arity] hx rfl ?_ ?_ (by unfold maxLen; omega) (by omega) hbase ?_
  · intro j u hu
    have e : (Addr.mk g 0 none).add j = ⟨g, j, none⟩ := by unfold Addr.add; split <;> simp_all
    rw [e, hc.cell j]
    simpa using hu
  · intro u hu
    simp at hu
    rcases hu with rfl | rfl <;> rfl
  · intro v' w' h1 h2 _
    exact h v' w' (by rw [symCells_snoc]; exact h1) h2

set_option maxRecDepth 100000 in
set_option maxHeartbeats 400000 in
theorem refsymbols_any (size : Int) (v : Value) (rs : List Sh.Rel) (w : World) (B : Nat) (hB : B ≤ w.heap.size) (h : Rels w B v rs) (hl : rs.length ≤ 1000) :
    Calls Tryd.prog 15 #[.agg #[.int .i64 size, v]] w fun e w' => ∃ u, e = .returned u ∧ Syms w' w'.heap.size u (symsOf rs) ∧ Below w.heap.size w w' := by
  have h' := h
  obtain ⟨A, len, c, rfl, hlen, -⟩ := h'
  have hbox := Blk.new w 24 #[.int .i64 size, .slice A len c]
  have hb0 := (Below.refl w.heap.size w).alloc (Nat.le_refl _) (.cells #[.int .i64 size, .slice A len c] 24)
  have Hb0 := Lib.hid hb0; clear hb0
  have Hbox := Lib.hid hbox; clear hbox
  have Hlen := Lib.hid hlen; clear hlen
  go_enter Tryd.func15, Tryd.ntmps15
  go_wp2
  go_loopw [3, 4] (fun v i wr => ∃ k : Nat, k ≤ len ∧ i = .int .i64 k ∧ wr.ownsRow (w.heap.size + 1) 85 2 v k (symCells (rs.take k)) ∧ Blk wr w.heap.size 24 #[.int .i64 size, .slice A len c] ∧ Below w.heap.size w wr ∧ w.heap.size + 1 ≤ wr.heap.size) (fun _ i _ => len - (intOf i).toNat)
  case atStart => exact ⟨0, Nat.zero_le _, rfl, by simpa [symCells] using World.ownsRow_nil _ _ _ _, Hbox.out, Hb0.out, by simp⟩
  case round =>
    obtain ⟨k, hk, rfl, hown, hbx, hbel, hsz⟩ := hrel
    have Hown := Lib.hid hown; clear hown
    have bx1 : wr.cell? ⟨w.heap.size, 1, none⟩ = some (.slice A len c) := hbx.cell 1
    have Hbx := Lib.hid hbx; clear hbx
    by_cases hlt : k < len
    · obtain ⟨ad, u, r, rfl, hb, hr, c0, c1, c2, htu, hn⟩ := (h.below (hbel.mono hB)).at_ hlt
      clear htu c2
      have htk : rs.take (k + 1) = rs.take k ++ [r] := by
        have hl' : k < rs.length := by have := Hlen.out; omega
        rw [List.take_succ_eq_append_getElem hl']
        rw [List.getElem?_eq_getElem hl'] at hr
        injection hr with hr
        rw [hr]
      have Htk := Lib.hid htk; clear htk
      have hk1000 : k ≤ 1000 := by have := Hlen.out; omega
      have Hr := Lib.hid hr; clear hr
      have hbel_le : w.heap.size ≤ wr.heap.size := by omega
      have Hbel := Lib.hid hbel; clear hbel
      go_wp2
      go_region_law (first | (refine step_append_sym _ rfl _ _ rfl (w.heap.size + 1) _ k (rs.take k) rfl (Hown.out.drew.alloc _) wr.heap.size 1 r rfl (Blk.new _ _ _) (by omega) (by simp; omega) ?_; intro v' w7 hown7 hg7))
      all_goals
        go_wp2
        refine ⟨⟨k + 1, by omega, by go_num, by rw [Htk.out]; exact hown7, ?_, ?_, ?_⟩, by simp [intOf]; omega⟩
        · exact Blk.grown (by first | exact (Blk.alloc (Blk.drew Hbx.out) _) | exact Blk.drew (Blk.alloc Hbx.out _)) hg7 (fun e => by have := (Hown.out.lt _ e.symm).1; omega)
        · exact Below.grown (by first | exact Below.alloc Hbel.out.drew hbel_le _ | exact (Hbel.out.alloc hbel_le _).drew) hg7 (by simp; omega) (fun g e => by have := (Hown.out.lt g e).1; omega)
        · have := hg7.size
          simp at this
          omega
    · have hkl : k = len := by omega
      subst hkl
      have htk : rs.take k = rs := List.take_of_length_le (by have := Hlen.out; omega)
      have hsy : Syms wr wr.heap.size _ (symsOf rs) := Syms.own (by have h1 := Hown.out; rw [htk] at h1; exact h1) Hlen.out (by have := Hlen.out; omega)
      have Hsy := Lib.hid hsy; clear hsy htk
      go_wp2
      go_ret
      exact ⟨_, rfl, Hsy.out, hbel⟩

end Go.Proofs.YtaneomndnicgaaaDoor
