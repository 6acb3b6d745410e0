/-
  Walk: the reference's copied.
-/
import Derived.Test.YtbddchonhicpiaaDoorCopyrel
namespace Go.Proofs.YtbddchonhicpiaaDoor
open Go.RowKit

/-- append of one slice value to a row of the call's own. -/
theorem append_tup {ops : Array Oper} {rest : List Oper} {o : Oper} {a : Act} {Q : Exit → Act → World → Prop} (w : World) (hgd : o.guard = none) (s x : Operand)
    (ho : o.op = .call { callee := .builtin .append, args := #[s, x], argTypes := #[49, 49] })
    (base : Nat) (v : Value) (n : Nat) (xs : List Value) (hs : a.eval s = v) (hown : w.ownsRow base 35 1 v n xs)
    (ad : Addr) (c : Nat) (y : Value) (hx : a.eval x = .slice (some ad) 1 c) (hc : w.cell? ad = some y) (hy : y.oneCell' = true) (hn : n ≤ 1000000) (hbase : base ≤ w.heap.size)
    (h : ∀ v' w', w'.ownsRow base 35 1 v' (n + 1) (xs ++ [y]) → w.grownBy w' v.ownBlock → wpList Tryd.prog ops Q rest (a.put o.dst v') w') :
    wpList Tryd.prog ops Q (o :: rest) a w := by
  obtain ⟨i0, hi, hz0, hz1, hz2⟩ := info_parts tups_info
  refine wpList_append_own w hgd s x 49 ho base 35 i0 (.slice none 0 0) 1 24 Tryd.underlying49 hi hz0 hz1 hz2 rfl (by decide) v n _ hs hown ad 1 c [y] hx rfl ?_ ?_ (by unfold maxLen; omega) (by omega) hbase ?_
  · intro j u hu
    rcases j with _ | j
    · simp at hu; rw [← hu]; exact hc
    · simp at hu
  · intro u hu; simp at hu; rw [hu]; exact hy
  · intro v' w' h1 h2 _
    exact h v' w' h1 h2

set_option maxRecDepth 100000 in
set_option maxHeartbeats 400000 in
theorem copied_any (v : Value) (ts : List (List Int)) (w : World) (B : Nat) (hB : B ≤ w.heap.size) (h : Tups w B v ts) (hl : ts.length ≤ 1000000) (ht : ∀ t ∈ ts, t.length ≤ 1000000) :
    Calls Tryd.prog 69 #[v] w fun e w' => ∃ u, e = .returned u ∧ NTups w' w.heap.size u ts ∧ Below w.heap.size w w' := by
  have h' := h
  obtain ⟨A, len, c, rfl, hlen, -⟩ := h'
  have hl' : len ≤ 1000000 := by omega
  have Hlen := Lib.hid hlen; clear hlen
  have Ht := Lib.hid ht; clear ht hl
  go_enter Tryd.func69, Tryd.ntmps69
  go_wp2
  go_loopw [3, 4] (fun v i wr => ∃ (k : Nat) (us : List Value), k ≤ len ∧ i = .int .i64 k ∧ us.length = k ∧ wr.ownsRow w.heap.size 35 1 v k us ∧ Elems wr w.heap.size us (ts.take k) ∧ Below w.heap.size w wr) (fun _ i _ => len - (intOf i).toNat)
  case atStart => exact ⟨0, [], Nat.zero_le _, rfl, rfl, World.ownsRow_nil _ _ _ _, (fun j u t h => by simp at h), Below.refl _ _⟩
  case round =>
    obtain ⟨k, us, hk, rfl, hus, hown, hel, hbel⟩ := hrel
    have Hown := Lib.hid hown; clear hown
    obtain ⟨TA, TC, rfl⟩ := own_slice Hown.out
    have Hus := Lib.hid hus; clear hus
    by_cases hlt : k < len
    · obtain ⟨ad, u, rfl, hb, hcu, hiu⟩ := (h.below (hbel.mono hB)).at_ hlt
      have hiu' := hiu
      obtain ⟨UA, UN, UC, rfl, -⟩ := hiu'
      have hts : ts[k]? = some (ts.getD k []) := getD_some (d := []) (by rw [← Hlen.out]; exact hlt)
      generalize ts.getD k [] = t0 at *
      have Hts := Lib.hid hts; clear hts
      have hbz := hbel.size
      have htl := Ht.out _ (List.mem_of_getElem? Hts.out)
      have hiu2 : Ints (wr.alloc (.cells #[] 3)) B (.slice UA UN UC) t0 := hiu.keep (fun p hp => World.cell?_alloc_lt _ _ _ (by omega))
      have hcu2 : (wr.alloc (.cells #[] 3)).cell? (ad.add k) = some (.slice UA UN UC) := (World.cell?_alloc_lt _ _ _ (by rw [block_of_add]; omega)).trans hcu
      have Hiu := Lib.hid hiu2; clear hiu2 hiu
      go_wp2_with (first
        | (at_builtin
           refine append_ints _ rfl _ _ rfl wr.heap.size _ 0 [] rfl (own_empty wr 3 1) B (.slice UA UN UC) t0 rfl Hiu.out (by omega) htl (by simp) ?_
           intro v5 w5 hown5 hg5
           have hown5 : w5.ownsRow wr.heap.size 3 1 v5 t0.length (t0.map (Value.int .i64)) := by simpa using hown5
           obtain ⟨XA, XC, rfl⟩ := own_slice hown5
           have hn5 : NInts w5 wr.heap.size (.slice XA t0.length XC) t0 := NInts.own hown5 (Nat.le_refl _) (by omega)
           have hb5 : Below wr.heap.size wr w5 := ((Below.refl _ _).alloc (Nat.le_refl _) _).grown hg5 (by simp) (fun g e => Nat.le_of_eq (Option.some.inj (show some wr.heap.size = some g from e)))
           have Hn5 := Lib.hid hn5; clear hn5
           have Hb5 := Lib.hid hb5; clear hb5 hown5)
        | (at_builtin
           refine append_tup _ rfl _ _ rfl w.heap.size _ k us rfl (World.ownsRow.alloc (own_below Hown.out Hb5.out) _) ⟨w5.heap.size, 0, none⟩ 1 (.slice XA t0.length XC) rfl ((Blk.new w5 35 #[.slice XA t0.length XC]).cell 0) rfl (by omega) (by have := Hb5.out.size; simp; omega) ?_
           intro v8 w8 hown8 hg8))
      have hg8' : (w5.alloc (.cells #[.slice XA t0.length XC] 35)).grownBy w8 (Value.slice TA k TC).ownBlock := hg8
      have hb5 := Hb5.out
      have hz5 := hb5.size
      have hk8 : Keeps w.heap.size [3] w5 w8 := (Keeps.alloc _ _ _ _).trans (Keeps.own hg8' (World.ownsRow.alloc (own_below Hown.out Hb5.out) _) (by decide))
      refine ⟨⟨k + 1, us ++ [.slice XA t0.length XC], by omega, by go_num, by rw [List.length_append, Hus.out]; rfl, hown8, ?_, ?_⟩, by simp [intOf]; omega⟩
      · rw [take_snoc Hts.out]
        exact Elems.snoc ((hel.keep (Keeps.of_below hb5)).keep hk8) (by rw [Hus.out, List.length_take]; have := Hlen.out; omega) ((Hn5.out.more hbz).keep hk8)
      · exact ((hbel.trans (hb5.mono hbz)).alloc (by omega) _).grown hg8' (by simp; omega) (fun g e => (Hown.out.lt g e).1)
    · have hkl : k = len := by omega
      subst hkl
      have htk : ts.take k = ts := List.take_of_length_le (by have := Hlen.out; omega)
      rw [htk] at hel
      have hnt : NTups wr w.heap.size (.slice TA k TC) ts := NTups.own Hown.out (Nat.le_refl _) (by omega) (by rw [Hus.out]; exact Hlen.out) hel
      have Hnt := Lib.hid hnt; clear hnt htk hel
      go_wp2
      go_ret
      exact ⟨_, rfl, Hnt.out, hbel⟩

end Go.Proofs.YtbddchonhicpiaaDoor
