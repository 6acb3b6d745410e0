/-
  Walk: shape.copyRel.
-/
import Derived.Test.YtbddchonhicpiaaDoorCopy
import Derived.Test.YtbddchonhicpiaaDoorOwn
import Derived.Deep.RegionLaw
namespace Go.Proofs.YtbddchonhicpiaaDoor
open Go.RowKit

theorem take_snoc {α : Type} {l : List α} {k : Nat} {x : α} (h : l[k]? = some x) : l.take (k + 1) = l.take k ++ [x] := by
  obtain ⟨hk, rfl⟩ := List.getElem?_eq_some_iff.1 h
  exact List.take_succ_eq_append_getElem hk
theorem getD_some {α : Type} {l : List α} {k : Nat} {d : α} (h : k < l.length) : l[k]? = some (l.getD k d) := by
  rw [List.getD_eq_getElem?_getD, List.getElem?_eq_getElem h]; rfl
/-- A cell store into a block that is none of the row's. -/
theorem own_set {w : World} {base n size : Nat} {e : TypeId} {v : Value} {xs : List Value} (h : w.ownsRow base e size v n xs) {p : Addr} (hp : p.block < base) (u : Value) : (w.setCell p u).ownsRow base e size v n xs :=
  h.kept (row := some p.block) ⟨rfl, rfl, rfl, by simp [World.setCell], fun i _ hne => Below.heap_setCell _ _ _ _ (fun e => hne (by rw [e]))⟩ (by
    cases ho : v.ownBlock with
    | none => exact .inl rfl
    | some g => exact .inr (fun e => by injection e with e; have := (h.lt g ho).1; omega))
theorem own_below {w w' : World} {base n size : Nat} {e : TypeId} {v : Value} {xs : List Value} (h : w.ownsRow base e size v n xs) (hb : Below w.heap.size w w') : w'.ownsRow base e size v n xs :=
  h.kept (row := none) ⟨hb.os, hb.tape, hb.output, hb.size, fun i hi _ => hb.block i hi⟩ (by
    cases ho : v.ownBlock with
    | none => exact .inl rfl
    | some g => exact .inr (fun e => by cases e))

theorem own_base {w : World} {base base' n size : Nat} {e : TypeId} {v : Value} {xs : List Value} (h : w.ownsRow base e size v n xs) (hb : base' ≤ base) : w.ownsRow base' e size v n xs := by
  rcases h with ⟨h1, h2 | ⟨g, cap, cur, e1, e2, h3⟩⟩
  · exact ⟨h1, .inl h2⟩
  · exact ⟨h1, .inr ⟨g, cap, cur, e1, by omega, h3⟩⟩
theorem own_keeps {w w' : World} {L base n size : Nat} {e : TypeId} {ts : List TypeId} {v : Value} {xs : List Value} (h : w.ownsRow base e size v n xs) (hk : Keeps L ts w w') (hL : L ≤ base) (he : e ∈ ts) : w'.ownsRow base e size v n xs := by
  rcases h with ⟨h1, h2 | ⟨g, cap, cur, e1, e2, h3, h4⟩⟩
  · exact ⟨h1, .inl h2⟩
  · exact ⟨h1, .inr ⟨g, cap, cur, e1, e2, (hk.2 g cur e (by omega) he h3).trans h3, h4⟩⟩

set_option maxRecDepth 100000 in
set_option maxHeartbeats 400000 in
theorem copyrel_own (r : Sh.Rel) (v : Value) (w : World) (B : Nat) (hB : B ≤ w.heap.size) (h : Tups w B v r.tuples) (hl : r.tuples.length ≤ 1000000) (ht : ∀ t ∈ r.tuples, t.length ≤ 1000000) :
    Calls Tryd.prog 71 #[.agg #[.string r.name, .int .i64 r.arity, v]] w fun e w' => ∃ (u : Value) (us : List Value), e = .returned (.agg #[.string r.name, .int .i64 r.arity, u]) ∧ us.length = r.tuples.length ∧ w'.ownsRow w.heap.size 35 1 u r.tuples.length us ∧ Elems w' w.heap.size us r.tuples ∧ Below w.heap.size w w' := by
  obtain ⟨name, arity, ts⟩ := r
  simp only at h hl ht ⊢
  have h' := h
  obtain ⟨A, len, c, rfl, hlen, -⟩ := h'
  have hcall := fun (W : World) (u : Value) (t : List Int) (hu : Ints W B u t) (hW : B ≤ W.heap.size) (hm : t ∈ ts) => copytuple_any u t W B hW hu (ht t hm)
  have Hcall := Lib.hid hcall; clear hcall
  have Hlen := Lib.hid hlen; clear hlen
  have hl' : len ≤ 1000000 := by rw [Hlen.out]; exact hl
  clear hl ht
  go_enter Tryd.func71, Tryd.ntmps71
  go_wp2
  have hb3 : Below w.heap.size w (((w.alloc (.cells #[.string name, .int .i64 arity, .slice A len c] 51)).alloc (.cells #[.string ⟨#[]⟩, .int .i64 0, .slice none 0 0] 51)).alloc (.cells #[.string name, .int .i64 arity, .slice none 0 0] 51)) :=
    (((Below.refl _ _).alloc (Nat.le_refl _) _).alloc (by simp) _).alloc (by simp; omega) _
  have hz3 : Blk (((w.alloc (.cells #[.string name, .int .i64 arity, .slice A len c] 51)).alloc (.cells #[.string ⟨#[]⟩, .int .i64 0, .slice none 0 0] 51)).alloc (.cells #[.string name, .int .i64 arity, .slice none 0 0] 51)) (w.heap.size + 1) 51 #[.string ⟨#[]⟩, .int .i64 0, .slice none 0 0] := by
    have := Blk.new (w.alloc (.cells #[.string name, .int .i64 arity, .slice A len c] 51)) 51 #[.string ⟨#[]⟩, .int .i64 0, .slice none 0 0]
    rw [World.size_alloc] at this
    exact this.alloc _
  have hc3 : Blk (((w.alloc (.cells #[.string name, .int .i64 arity, .slice A len c] 51)).alloc (.cells #[.string ⟨#[]⟩, .int .i64 0, .slice none 0 0] 51)).alloc (.cells #[.string name, .int .i64 arity, .slice none 0 0] 51)) (w.heap.size + 1 + 1) 51 #[.string name, .int .i64 arity, .slice none 0 0] := by
    have := Blk.new ((w.alloc (.cells #[.string name, .int .i64 arity, .slice A len c] 51)).alloc (.cells #[.string ⟨#[]⟩, .int .i64 0, .slice none 0 0] 51)) 51 #[.string name, .int .i64 arity, .slice none 0 0]
    rw [World.size_alloc, World.size_alloc] at this
    exact this
  generalize ((w.alloc (.cells #[.string name, .int .i64 arity, .slice A len c] 51)).alloc (.cells #[.string ⟨#[]⟩, .int .i64 0, .slice none 0 0] 51)).alloc (.cells #[.string name, .int .i64 arity, .slice none 0 0] 51) = W3 at *
  go_loopw [14] (fun i wr => ∃ (k : Nat) (tv : Value) (us : List Value), k ≤ len ∧ i = .int .i64 k ∧ us.length = k ∧ Blk wr (w.heap.size + 1) 51 #[.string ⟨#[]⟩, .int .i64 0, .slice none 0 0] ∧
      Blk wr (w.heap.size + 1 + 1) 51 #[.string name, .int .i64 arity, tv] ∧ wr.ownsRow (w.heap.size + 3) 35 1 tv k us ∧ Elems wr (w.heap.size + 3) us (ts.take k) ∧ Below w.heap.size w wr) (fun i _ => len - (intOf i).toNat)
  case atStart => exact ⟨0, .slice none 0 0, [], Nat.zero_le _, rfl, rfl, hz3, hc3, World.ownsRow_nil _ _ _ _, (fun j u t h => by simp at h), hb3⟩
  case round =>
    obtain ⟨k, tv, us, hk, rfl, hus, hz, hc, hown, hel, hbel⟩ := hrel
    clear hb3 hz3 hc3
    have Hown := Lib.hid hown; clear hown
    obtain ⟨TA, TC, rfl⟩ := own_slice Hown.out
    have hlt3 := hc.lt
    have Hus := Lib.hid hus; clear hus
    by_cases hlt : k < len
    · obtain ⟨ad, u, rfl, hb, hcu, hiu⟩ := (h.below (hbel.mono hB)).at_ hlt
      have hiu' := hiu
      obtain ⟨UA, UN, UC, rfl, -⟩ := hiu'
      have hts : ts[k]? = some (ts.getD k []) := getD_some (by rw [← Hlen.out]; exact hlt)
      have Hts := Lib.hid hts; clear hts
      have hcl2 : wr.drew.cell? ⟨w.heap.size + 1 + 1, 2, none⟩ = some (.slice TA k TC) := hc.cell 2
      have hiud : Ints wr.drew B (.slice UA UN UC) (ts.getD k []) := hiu
      have hbelz : w.heap.size ≤ wr.heap.size := hbel.size
      go_wp2
      go_region_law (first
        | (go_simp
           go_at_call 65
           refine (Hcall.out _ _ _ hiud (by simp; omega) (List.mem_of_getElem? Hts.out)).mono ?_
           rintro e w7 ⟨x, rfl, hni, hb7⟩
           have hni' := hni
           obtain ⟨XA, XN, XC, rfl, -⟩ := hni'
           have hc7 := (Blk.drew hc).below hb7 (by simp; omega)
           have hcc7 : w7.cell? ⟨w.heap.size + 1 + 1, 2, none⟩ = some (.slice TA k TC) := hc7.cell 2
           have hcc7' : (w7.alloc (.cells #[.slice XA XN XC] 35)).cell? ⟨w.heap.size + 1 + 1, 2, none⟩ = some (.slice TA k TC) := (Blk.alloc hc7 _).cell 2
           have hown7 : (w7.alloc (.cells #[.slice XA XN XC] 35)).ownsRow (w.heap.size + 3) 35 1 (.slice TA k TC) k us := World.ownsRow.alloc (own_below (w := wr.drew) Hown.out hb7) _)
        | (refine step_append_tup _ rfl _ _ rfl (w.heap.size + 3) _ k us rfl hown7 ⟨w7.heap.size, 0, none⟩ 1 (.slice XA XN XC) rfl ((Blk.new w7 35 #[.slice XA XN XC]).cell 0) rfl (by omega) (by have := hb7.size; simp at this ⊢; omega) ?_
           intro v8 w8 hown8 hg8
           obtain ⟨VA, VC, rfl⟩ := own_slice hown8
           have hc8 : Blk w8 (w.heap.size + 1 + 1) 51 #[.string name, .int .i64 arity, .slice TA k TC] := Blk.grown (Blk.alloc hc7 _) hg8 (fun e => by have := (hown7.lt _ e.symm).1; omega)
           have hcc8 : w8.cell? ⟨w.heap.size + 1 + 1, 2, none⟩ = some (.slice TA k TC) := hc8.cell 2
           have hcf8 := hc8.frozen 2))
      all_goals
        go_wp2
        have hs7 : wr.heap.size ≤ w7.heap.size := hb7.size
        have hg8' : (w7.alloc (.cells #[.slice XA XN XC] 35)).grownBy w8 (Value.slice TA k TC).ownBlock := hg8
        have hbase : ∀ g, (Value.slice TA k TC).ownBlock = some g → w.heap.size + 3 ≤ g := fun g e => (hown7.lt g e).1
        have hk7 : Keeps (w.heap.size + 3) [3] w7 (w8.setCell ⟨w.heap.size + 1 + 1, 2, none⟩ (.slice VA (k + 1) VC)) :=
          (Keeps.alloc _ _ _ _).trans ((Keeps.own hg8' hown7 (by decide)).trans (Keeps.setCell (p := ⟨w.heap.size + 1 + 1, 2, none⟩) hc8 (by decide) _))
        refine ⟨⟨k + 1, .slice VA (k + 1) VC, us ++ [.slice XA XN XC], by omega, by go_num, by rw [List.length_append, Hus.out]; rfl, ?_, hc8.set_ 2 _, own_set hown8 (show w.heap.size + 1 + 1 < w.heap.size + 3 by omega) _, ?_, ?_⟩, by simp [intOf]; omega⟩
        · exact Blk.far (Blk.grown (Blk.alloc ((Blk.drew hz).below hb7 (by simp; omega)) _) hg8' (fun e => by have := hbase _ e.symm; omega)) (by simp) _
        · rw [take_snoc Hts.out]
          exact Elems.snoc ((hel.keep ((Keeps.drewN _ _ wr 1).trans (Keeps.of_below hb7))).keep hk7) (by rw [Hus.out, List.length_take]; have := Hlen.out; omega) ((hni.more (by simp; omega)).keep hk7)
        · exact ((((hbel.drew).trans (hb7.mono hbelz)).alloc (by omega) _).grown hg8' (by simp; omega) (fun g e => by have := hbase g e; omega)).setCell (show w.heap.size ≤ w.heap.size + 1 + 1 by omega) _
    · have hkl : k = len := by omega
      subst hkl
      have htk : ts.take k = ts := List.take_of_length_le (by have := Hlen.out; omega)
      rw [htk] at hel
      have hcc0 : wr.cell? ⟨w.heap.size + 1 + 1, 0, none⟩ = some (.string name) := hc.cell 0
      have hcc1 : wr.cell? ⟨w.heap.size + 1 + 1, 1, none⟩ = some (.int .i64 arity) := hc.cell 1
      have hcc2 : wr.cell? ⟨w.heap.size + 1 + 1, 2, none⟩ = some (.slice TA k TC) := hc.cell 2
      have hzc0 : wr.cell? ⟨w.heap.size + 1, 0, none⟩ = some (.string ⟨#[]⟩) := hz.cell 0
      have hzc1 : wr.cell? ⟨w.heap.size + 1, 1, none⟩ = some (.int .i64 0) := hz.cell 1
      have hzc2 : wr.cell? ⟨w.heap.size + 1, 2, none⟩ = some (.slice none 0 0) := hz.cell 2
      have hzf0 := hz.frozen 0
      have hzf1 := hz.frozen 1
      have hzf2 := hz.frozen 2
      have Hel := Lib.hid hel; clear htk hel
      go_wp2
      refine bodyPost_ret (v := .agg #[.string name, .int .i64 arity, .slice TA k TC]) (by simp [results, Tryd.results71, go_sem, hzc0, hzc1, hzc2]) rfl ?_
      have hk0 : Keeps (w.heap.size + 3) [3] wr (((wr.setCell ⟨w.heap.size + 1, 0, none⟩ (.string name)).setCell ⟨w.heap.size + 1, 1, none⟩ (.int .i64 arity)).setCell ⟨w.heap.size + 1, 2, none⟩ (.slice TA k TC)) :=
        (Keeps.setCell (p := ⟨w.heap.size + 1, 0, none⟩) hz (by decide) _).trans ((Keeps.setCell (p := ⟨w.heap.size + 1, 1, none⟩) (hz.set_ _ _) (by decide) _).trans (Keeps.setCell (p := ⟨w.heap.size + 1, 2, none⟩) ((hz.set_ _ _).set_ _ _) (by decide) _))
      have hlk : k = ts.length := Hlen.out
      refine ⟨_, us, rfl, by rw [Hus.out]; exact hlk, ?_, fun j x t h1 h2 => (Hel.out.keep hk0 j x t h1 h2).more (by omega), ?_⟩
      · have ho := own_set (own_set (own_set Hown.out (p := ⟨w.heap.size + 1, 0, none⟩) (show w.heap.size + 1 < w.heap.size + 3 by omega) (.string name)) (p := ⟨w.heap.size + 1, 1, none⟩) (show w.heap.size + 1 < w.heap.size + 3 by omega) (.int .i64 arity)) (p := ⟨w.heap.size + 1, 2, none⟩) (show w.heap.size + 1 < w.heap.size + 3 by omega) (.slice TA k TC)
        rw [← hlk]
        exact own_base ho (by omega)
      · exact ((hbel.setCell (by simp) _).setCell (by simp) _).setCell (by simp) _

theorem copyrel_any (r : Sh.Rel) (v : Value) (w : World) (B : Nat) (hB : B ≤ w.heap.size) (h : Tups w B v r.tuples) (hl : r.tuples.length ≤ 1000000) (ht : ∀ t ∈ r.tuples, t.length ≤ 1000000) :
    Calls Tryd.prog 71 #[.agg #[.string r.name, .int .i64 r.arity, v]] w fun e w' => ∃ u, e = .returned (.agg #[.string r.name, .int .i64 r.arity, u]) ∧ NTups w' w.heap.size u r.tuples ∧ Below w.heap.size w w' :=
  (copyrel_own r v w B hB h hl ht).mono fun _ _ ⟨u, us, he, hlen, ho, hel, hb⟩ => ⟨u, he, NTups.own ho (Nat.le_refl _) (by omega) hlen hel, hb⟩

end Go.Proofs.YtbddchonhicpiaaDoor
