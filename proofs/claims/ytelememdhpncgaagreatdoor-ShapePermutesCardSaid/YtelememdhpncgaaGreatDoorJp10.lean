/-
  Texts joined: Sorted.
-/
import Derived.Test.YtelememdhpncgaaGreatDoorJp6
import Derived.Test.YtelememdhpncgaaGreatDoorJp9
import Derived.Deep.CutRange
import Derived.BigQuiet

/-
  Walk: the reference's Sorted.
-/
namespace Go.Proofs.YtelememdhpncgaaGreatDoor
open Go.RowKit

theorem stopR_succ_t {out : List (List Int)} {t : List Int} {k : Nat} (h : Sh.lessB t (out.getD k []) = true) : Sh.stopR out t (k + 1) = Sh.stopR out t k := by
  show (if Sh.lessB t (out.getD k []) = true then _ else _) = _
  rw [if_pos h]
theorem stopR_succ_f {out : List (List Int)} {t : List Int} {k : Nat} (h : Sh.lessB t (out.getD k []) = false) : Sh.stopR out t (k + 1) = k + 1 := by
  show (if Sh.lessB t (out.getD k []) = true then _ else _) = _
  rw [if_neg (by rw [h]; simp)]
theorem keeps_setCells {w : World} {L g : Nat} {ts : List TypeId} {cs : Array Value} {t : TypeId} (hb : Blk w g t cs) (ht : t ∉ ts) (o : Nat) (vs : List Value) : Keeps L ts w (w.setCells g o vs) :=
  Keeps.row (grown_setCells g vs o w) (fun x e => by
    have := Option.some.inj e
    subst this
    exact ⟨cs, t, (0, 0), hb, ht⟩)

/-- The row behind the three stores of an insertion: the last cell is stored later. -/
theorem own_inserted {W w5 : World} {base g cap n j : Nat} {us : List Value} {y z : Value} {cur : Array Value} (hj : j ≤ n) (hul : us.length = n) (hbg : base ≤ g) (hh : Blk W g 25 cur) (hnc : n + 1 ≤ cap) (hcm : cap ≤ maxLen) (hcs : cur.size = cap)
    (hcell : ∀ i u, (us ++ [z])[i]? = some u → W.cell? ⟨g, i, none⟩ = some u) (hb5 : Below (W.setCells g (j + 1) (us.drop j)).heap.size (W.setCells g (j + 1) (us.drop j)) w5) :
    (w5.setCell ⟨g, j, none⟩ y).ownsRow base 25 1 (.slice (some ⟨g, 0, none⟩) (n + 1) cap) (n + 1) (us.take j ++ y :: us.drop j) := by
  obtain ⟨c1, hk1, hs1⟩ := blk_setCells g 25 (us.drop j) (j + 1) W cur hh
  have hk5 : Blk w5 g 25 c1 := hk1.below hb5 hk1.lt
  have hk6 := hk5.set_ j y
  refine own_of_cells hbg hk6 hnc hcm (by rw [Array.size_setIfInBounds]; omega) (by simp; omega) (fun i u hu => ?_)
  have hic := (ins_cells (W := W) (b := g) (y := y) hj hul (fun i hi => by rw [hh.cell i, Array.getElem?_eq_getElem (by omega)]; rfl) (fun i u hi hu => hcell i u (by rw [List.getElem?_append_left (by omega)]; exact hu))).1 i u hu
  by_cases e : i = j
  · subst e
    have hu' : u = y := by
      rcases ins_at' (by omega) hu with ⟨a, -⟩ | ⟨-, h⟩ | ⟨a, -⟩
      · omega
      · exact h
      · omega
    subst hu'
    rw [hk6.cell i, Array.getElem?_setIfInBounds_self_of_lt (by omega)]
  · rw [World.cell?_setCells_out g _ _ _ ⟨g, i, none⟩ (fun _ _ => by simp; omega)] at hic
    rw [hk6.cell i, Array.getElem?_setIfInBounds_ne (fun h => e h.symm), ← hk5.cell i]
    exact (hb5.cell (p := ⟨g, i, none⟩) hk1.lt).trans hic

set_option maxRecDepth 100000 in
set_option maxHeartbeats 4000000 in
theorem sorted_any (a : Nat) (v : Value) (l : List (List Int)) (w : World) (B : Nat) (hB : B ≤ w.heap.size) (h : Tups w B v l) (hl : l.length ≤ 100000) (hlong : Sh.Long a l) (ha : a ≤ 1000000) :
    Calls Tryz.prog 30 #[v] w fun e w' => ∃ u, e = .returned u ∧ NTups w' w.heap.size u (Sh.sortR l) ∧ Below w.heap.size w w' := by
  have h' := h
  obtain ⟨A, len, c, rfl, hlen, hmax, -⟩ := h'
  have hl' : len ≤ 100000 := by omega
  clear hl hmax
  have Hlen := Lib.hid hlen; clear hlen
  have Hlong := Lib.hid hlong; clear hlong
  go_enter Tryz.func30, Tryz.ntmps30
  go_wp2
  go_loopw [3, 4] (fun v i wr => ∃ (k : Nat) (us : List Value), k ≤ len ∧ i = .int .i64 k ∧ us.length = (Sh.sortR (l.take k)).length ∧ us.length ≤ k ∧ wr.ownsRow w.heap.size 25 1 v us.length us ∧ Elems wr w.heap.size us (Sh.sortR (l.take k)) ∧ Below w.heap.size w wr) (fun _ i _ => len - (intOf i).toNat)
  case atStart => exact ⟨0, [], Nat.zero_le _, rfl, rfl, Nat.zero_le _, World.ownsRow_nil _ _ _ _, (fun j u t h => by simp at h), Below.refl _ _⟩
  case round =>
    obtain ⟨k, us, hk, rfl, hus, husk, hown, hel, hbel⟩ := hrel
    generalize hn : us.length = n at *
    obtain ⟨TA, TC, rfl⟩ := own_slice hown
    have Hown := Lib.hid hown; clear hown
    have Hn := Lib.hid hn; clear hn
    have Hus := Lib.hid hus; clear hus
    by_cases hlt : k < len
    · obtain ⟨ad, u, rfl, hb, hcu, hiu⟩ := (h.below (hbel.mono hB)).at_ hlt
      have hiu' := hiu
      obtain ⟨UA, UN, UC, rfl, -⟩ := hiu'
      have hts : l[k]? = some (l.getD k []) := getD_some (d := []) (by rw [← Hlen.out]; exact hlt)
      generalize l.getD k [] = t0 at *
      have htl : t0.length = a := Hlong.out t0 (List.mem_of_getElem? hts)
      have hso := Sh.sortR_ok (l := l.take k) (a := a) (fun x hx => Hlong.out x (List.mem_of_mem_take hx))
      have hsn : Sh.sortR (l.take (k + 1)) = Sh.insR (Sh.sortR (l.take k)) t0 := by rw [take_snoc hts, Sh.sortR_snoc]
      generalize Sh.sortR (l.take k) = out at *
      have hol := hso.2.1
      have hnt : NTups wr w.heap.size (.slice TA n TC) out := NTups.own Hown.out (Nat.le_refl _) (by omega) (by rw [Hn.out]; exact Hus.out) hel
      have hbz := hbel.size
      have hless : ∀ (j : Nat) (u2 : Value), j < n → Ints wr wr.heap.size u2 (out.getD j []) → ∀ W : World, (∀ p, W.cell? p = wr.cell? p) → Calls Tryz.prog 52 #[.slice UA UN UC, u2] W fun e w' => e = .returned (.bool (Sh.lessB t0 (out.getD j []))) ∧ ∃ n, w' = W.drewN n := fun j u2 hj hi W hW =>
        less_any (.slice UA UN UC) u2 t0 _ W wr.heap.size ((hiu.more (by omega)).keep (fun p _ => hW p)) (hi.keep (fun p _ => hW p)) (by rw [htl, hol _ (List.mem_of_getElem? (getD_some (d := []) (by rw [← Hus.out]; exact hj)))]; exact Nat.le_refl _)
      have hequal : ∀ (j : Nat) (u2 : Value), Ints wr wr.heap.size u2 (out.getD j []) → ∀ W : World, (∀ p, W.cell? p = wr.cell? p) → Calls Tryz.prog 22 #[u2, .slice UA UN UC] W fun e w' => e = .returned (.bool (Sh.eqB (out.getD j []) t0)) ∧ ∃ n, w' = W.drewN n := fun j u2 hi W hW =>
        equal_any u2 (.slice UA UN UC) _ t0 W wr.heap.size (hi.keep (fun p _ => hW p)) ((hiu.more (by omega)).keep (fun p _ => hW p))
      have Hless := Lib.hid hless; clear hless
      have Hequal := Lib.hid hequal; clear hequal
      have Hnt := Lib.hid hnt; clear hnt
      have Hsn := Lib.hid hsn; clear hsn hso hol
      have Hts := Lib.hid hts; clear hts
      have Htl := Lib.hid htl; clear htl
      have Hiu := Lib.hid hiu; clear hiu
      go_wp2
      go_loopw [5] (fun q wq => ∃ j m : Nat, q = .int .i64 j ∧ j ≤ n ∧ Sh.stopR out t0 n = Sh.stopR out t0 j ∧ wq = wr.drewN m) (fun q _ => (intOf q).toNat)
      case atStart => exact ⟨n, 0, rfl, Nat.le_refl _, rfl, rfl⟩
      case round =>
        obtain ⟨j, m, rfl, hj, hst, rfl⟩ := hrel
        have Hst := Lib.hid hst; clear hst
        by_cases hj0 : 0 < j
        · obtain ⟨q, hq⟩ : ∃ q, j = q + 1 := ⟨j - 1, by omega⟩
          have Hq := Lib.hid hq
          have hqn : q < n := by omega
          obtain ⟨ad2, u2, rfl, hb2, hc2, hi2⟩ := Hnt.out.tups.at_ hqn
          have hi2' := hi2
          obtain ⟨VA, VN, VC, rfl, -⟩ := hi2'
          have hw1 : IntKind.i64.wrap ((j : Int) - 1) = (q : Int) := by rw [IntKind.wrap_i64]; omega
          have hd0 : decide ((0 : Int) < (j : Int)) = true := decide_eq_true (by omega)
          clear hq
          have hcall := Hless.out q _ hqn hi2
          cases hb : Sh.lessB t0 (out.getD q [])
          · rw [hb] at hcall
            have hstop : Sh.stopR out t0 n = j := by
              have := stopR_succ_f (k := q) hb
              rw [← Hq.out] at this
              exact Hst.out.trans this
            have Hstop := Lib.hid hstop; clear hstop hb Hst
            have Hcall := Lib.hid hcall; clear hcall
            have hcall2 := Hequal.out q _ hi2
            cases hqb : Sh.eqB (out.getD q []) t0
            · rw [hqb] at hcall2
              have hins : Sh.insR out t0 = out.take j ++ t0 :: out.drop j := by
                unfold Sh.insR
                rw [← Hus.out, Hstop.out, if_neg]
                rintro ⟨-, hh⟩
                rw [show j - 1 = q by have := Hq.out; omega] at hh
                rw [(Sh.eqB_iff _ _).2 hh] at hqb
                cases hqb
              have Hins := Lib.hid hins; clear hins hqb
              have Hcall2 := Lib.hid hcall2; clear hcall2 hi2
              go_wp2
              go_quiet ((go_at_call 52; exact quiet_add (Hcall.out _ (fun _ => rfl))))
              go_wp2
              go_quiet ((go_at_call 22; exact quiet_add (Hcall2.out _ (fun _ => rfl))))
              go_wp2_with (first
                | (at_builtin
                   refine append_tup _ rfl _ _ rfl w.heap.size _ n us rfl (World.ownsRow.alloc (own_below Hown.out (below_drewN (Below.refl _ _) _)) _) ⟨wr.heap.size, 0, none⟩ 1 (.slice none 0 0) rfl ((Blk.new _ 25 #[.slice none 0 0]).cell 0) rfl (by omega) (by simp; omega) ?_
                   intro v6 w6 hown6 hg6
                   have hb6 : Below w.heap.size wr w6 := ((below_drewN (Below.refl w.heap.size wr) _).alloc (by simp; omega) _).grown hg6 (by simp; omega) (fun g e => (Hown.out.lt g e).1)
                   have hk6 : Keeps w.heap.size [3] wr w6 := (Keeps.drewN _ _ wr _).trans ((Keeps.alloc _ _ _ _).trans (Keeps.own hg6 (World.ownsRow.alloc (own_below Hown.out (below_drewN (Below.refl _ _) _)) _) (by decide)))
                   obtain ⟨g, cap, cur, rfl, hbg, hh, hnc, hcm, hcs, -⟩ := hown6.2.resolve_left (by rintro ⟨-, hz⟩; omega)
                   have Hown6 := Lib.hid hown6; clear hown6
                   have Hg6 := Lib.hid hg6; clear hg6))
              have hcell : ∀ i u, (us ++ [.slice none 0 0])[i]? = some u → w6.cell? ⟨g, i, none⟩ = some u := fun i u hu => by
                have := Hown6.out.cells (g := g) rfl i u hu
                rwa [Addr.add_lit, Nat.zero_add] at this
              have hblk : Blk w6 g 25 cur := hh
              have hcz : cur.size = cap := by omega
              have hone := elems_one hel (by rw [Hn.out]; exact Hus.out)
              have hdl : (us.drop j).length = n - j := by rw [List.length_drop, Hn.out]
              have hcm2 := hcm
              unfold maxLen at hcm2
              have hcp : ∀ ty dc sc, (Builtin.copy_ #[55, 55] ty #[.slice (some ⟨g, j + 1, none⟩) (n - j) dc, .slice (some ⟨g, j, none⟩) (n + 1 - j) sc]).run Tryz.prog w6.drew = .ok (goInt (us.drop j).length) (w6.drew.setCells g (j + 1) (us.drop j)) := fun ty dc sc =>
                run_copy_cells w6.drew _ _ ty 25 g (j + 1) (n - j) dc ⟨g, j, none⟩ (n + 1 - j) sc (us.drop j) Tryz.underlying55 tup_sz (by rw [hdl]; simp only [Nat.min_def]; split <;> omega)
                  (fun i v hi => by rw [Addr.add_lit]; rw [List.getElem?_drop] at hi; exact hcell (j + i) v (by rw [List.getElem?_append_left (by have := (List.getElem?_eq_some_iff.1 hi).1; omega)]; exact hi))
                  (fun i hi => by show (w6.cell? ⟨g, j + 1 + i, none⟩).isSome = true; rw [hblk.cell (j + 1 + i), Array.getElem?_eq_getElem (by rw [hdl] at hi; omega)]; rfl) (fun i hi => hblk.frozen _) (fun v hv => hone v (List.mem_of_mem_drop hv))
              have hcp0 : j = n → ∀ o ty dc sc, (Builtin.copy_ #[55, 55] ty #[.slice (some ⟨g, o, none⟩) (n - j) dc, .slice (some ⟨g, j, none⟩) (n + 1 - j) sc]).run Tryz.prog w6.drew = .ok (goInt 0) (w6.drew.setCells g (j + 1) (us.drop j)) := fun hjn o ty dc sc => by
                have := run_copy_cells w6.drew 55 55 ty 25 g o 0 dc ⟨g, j, none⟩ (n + 1 - j) sc [] Tryz.underlying55 tup_sz (by simp) (fun i v hi => by simp at hi) (fun i hi => by simp at hi) (fun i hi => by simp at hi) (fun v hv => by simp at hv)
                rw [List.drop_of_length_le (by rw [Hn.out]; omega), show n - j = 0 by omega]
                exact this
              obtain ⟨W7, hW7⟩ : ∃ W7, W7 = w6.drew.setCells g (j + 1) (us.drop j) := ⟨_, rfl⟩
              obtain ⟨c1, hk1, hs1⟩ := blk_setCells g 25 (us.drop j) (j + 1) w6.drew cur hblk.drew
              rw [← hW7] at hcp hcp0 hk1
              have hb7 : Below w.heap.size wr W7 := by
                rw [hW7]
                exact hb6.drew.grown (grown_setCells g _ _ _) (by have := hb6.size; simp; omega) (fun x e => by have := Option.some.inj e; omega)
              have hk7 : Keeps w.heap.size [3] wr W7 := by
                rw [hW7]
                exact hk6.trans ((Keeps.drewN _ _ w6 1).trans (keeps_setCells hblk.drew (by decide) _ _))
              have hz7 := hb7.size
              have hcu7 : (W7.alloc (.cells #[] 3)).cell? (ad.add k) = some (.slice UA UN UC) := ((hb7.alloc (by omega) _).cell (by rw [block_of_add]; omega)).trans hcu
              have hiu7 : Ints (W7.alloc (.cells #[] 3)) B (.slice UA UN UC) t0 := Hiu.out.below ((hb7.alloc (by omega) _).mono hB)
              have Hiu7 := Lib.hid hiu7; clear hiu7
              have Hcell := Lib.hid hcell; clear hcell
              have HW7 := Lib.hid hW7; clear hW7
              have hwj : IntKind.i64.wrap ((j : Int) + 1) = (j : Int) + 1 := by rw [IntKind.wrap_i64]; omega
              have hj1 : (0 : Int) ≤ (j : Int) + 1 := by omega
              have htn : ((j : Int) + 1).toNat = j + 1 := by omega
              have hj3 : (j : Int) ≤ (n : Int) + 1 := by omega
              have hj4 : ¬ (cap = j) := by omega
              have hjn1 : j < n + 1 := by omega
              obtain ⟨z, hzj⟩ : ∃ z, c1[j]? = some z := ⟨_, Array.getElem?_eq_getElem (by omega)⟩
              have Hone := Lib.hid hone; clear hone
              have Hcp := Lib.hid hcp; clear hcp
              have Hcp0 := Lib.hid (fun e : cap = j + 1 => hcp0 (by omega)); clear hcp0
              by_cases hend : cap = j + 1
              · have Hend := Lib.hid hend
                go_region_law (refine step_copy_runI rfl _ _ 55 55 rfl (.slice (some ⟨g, 0, none⟩) (n - j) 0) (.slice (some ⟨g, j, none⟩) (n + 1 - j) 1) (by simp [Act.eval, Act.put]) (by simp [Act.eval, Act.put]) (Hcp0.out Hend.out 0 3 0 1) ?_)
                go_wp2_with (first
                  | (at_builtin
                     refine append_ints _ rfl _ _ rfl W7.heap.size _ 0 [] rfl (own_empty W7 3 1) B (.slice UA UN UC) t0 rfl Hiu7.out (by omega) (by rw [Htl.out]; exact ha) (by simp) ?_
                     intro v8 w8 hown8 hg8
                     have hown8 : w8.ownsRow W7.heap.size 3 1 v8 t0.length (t0.map (Value.int .i64)) := by simpa using hown8
                     obtain ⟨XA, XC, rfl⟩ := own_slice hown8
                     have hn8 : NInts w8 W7.heap.size (.slice XA t0.length XC) t0 := NInts.own hown8 (Nat.le_refl _) (by rw [Htl.out]; omega)
                     have hb8 : Below W7.heap.size W7 w8 := ((Below.refl _ _).alloc (Nat.le_refl _) _).grown hg8 (by simp) (fun g e => Nat.le_of_eq (Option.some.inj (show some W7.heap.size = some g from e)))
                     have hk8 := hk1.below hb8 hk1.lt
                     have hcj8 : w8.cell? ⟨g, j, none⟩ = some z := (hk8.cell j).trans hzj
                     have hcf8 := hk8.frozen j
                     have Hn8 := Lib.hid hn8; clear hn8
                     have Hb8 := Lib.hid hb8; clear hb8 hown8 hg8))
                have hlen : (us.take j ++ Value.slice XA t0.length XC :: us.drop j).length = n + 1 := by have := Hn.out; simp; omega
                have hk9 : Keeps w.heap.size [3] w8 (w8.setCell ⟨g, j, none⟩ (.slice XA t0.length XC)) := Keeps.setCell (p := ⟨g, j, none⟩) hk8 (by decide) _
                refine ⟨⟨k + 1, us.take j ++ Value.slice XA t0.length XC :: us.drop j, by omega, by go_num, ?_, by omega, ?_, ?_, ?_⟩, by simp [intOf]; omega⟩
                · rw [hlen, Hsn.out, Hins.out]
                  have := Hus.out
                  simp; omega
                · rw [hlen]
                  first
                    | exact own_inserted hj Hn.out hbg hblk.drew hnc hcm hcz Hcell.out (by rw [← HW7.out]; exact Hb8.out)
                    | (rw [← hend]; exact own_inserted hj Hn.out hbg hblk.drew hnc hcm hcz Hcell.out (by rw [← HW7.out]; exact Hb8.out))
                · rw [Hsn.out, Hins.out]
                  exact elems_insert (((hel.keep hk7).keep (Keeps.of_below Hb8.out)).keep hk9) (by rw [Hn.out]; exact Hus.out) (by rw [Hn.out]; exact hj) ((Hn8.out.more (by omega)).keep hk9)
                · exact ((hbel.trans hb7).trans (Hb8.out.mono (by omega))).setCell hbg _
              · go_region_law (refine step_copy_runI rfl _ _ 55 55 rfl (.slice (some ⟨g, j + 1, none⟩) (n - j) (cap - (j + 1))) (.slice (some ⟨g, j, none⟩) (n + 1 - j) (cap - j)) (by simp [Act.eval, Act.put]) (by simp [Act.eval, Act.put]) (Hcp.out 3 (cap - (j + 1)) (cap - j)) ?_)
                go_wp2_with (first
                  | (at_builtin
                     refine append_ints _ rfl _ _ rfl W7.heap.size _ 0 [] rfl (own_empty W7 3 1) B (.slice UA UN UC) t0 rfl Hiu7.out (by omega) (by rw [Htl.out]; exact ha) (by simp) ?_
                     intro v8 w8 hown8 hg8
                     have hown8 : w8.ownsRow W7.heap.size 3 1 v8 t0.length (t0.map (Value.int .i64)) := by simpa using hown8
                     obtain ⟨XA, XC, rfl⟩ := own_slice hown8
                     have hn8 : NInts w8 W7.heap.size (.slice XA t0.length XC) t0 := NInts.own hown8 (Nat.le_refl _) (by rw [Htl.out]; omega)
                     have hb8 : Below W7.heap.size W7 w8 := ((Below.refl _ _).alloc (Nat.le_refl _) _).grown hg8 (by simp) (fun g e => Nat.le_of_eq (Option.some.inj (show some W7.heap.size = some g from e)))
                     have hk8 := hk1.below hb8 hk1.lt
                     have hcj8 : w8.cell? ⟨g, j, none⟩ = some z := (hk8.cell j).trans hzj
                     have hcf8 := hk8.frozen j
                     have Hn8 := Lib.hid hn8; clear hn8
                     have Hb8 := Lib.hid hb8; clear hb8 hown8 hg8))
                have hlen : (us.take j ++ Value.slice XA t0.length XC :: us.drop j).length = n + 1 := by have := Hn.out; simp; omega
                have hk9 : Keeps w.heap.size [3] w8 (w8.setCell ⟨g, j, none⟩ (.slice XA t0.length XC)) := Keeps.setCell (p := ⟨g, j, none⟩) hk8 (by decide) _
                refine ⟨⟨k + 1, us.take j ++ Value.slice XA t0.length XC :: us.drop j, by omega, by go_num, ?_, by omega, ?_, ?_, ?_⟩, by simp [intOf]; omega⟩
                · rw [hlen, Hsn.out, Hins.out]
                  have := Hus.out
                  simp; omega
                · rw [hlen]
                  first
                    | exact own_inserted hj Hn.out hbg hblk.drew hnc hcm hcz Hcell.out (by rw [← HW7.out]; exact Hb8.out)
                    | (rw [← hend]; exact own_inserted hj Hn.out hbg hblk.drew hnc hcm hcz Hcell.out (by rw [← HW7.out]; exact Hb8.out))
                · rw [Hsn.out, Hins.out]
                  exact elems_insert (((hel.keep hk7).keep (Keeps.of_below Hb8.out)).keep hk9) (by rw [Hn.out]; exact Hus.out) (by rw [Hn.out]; exact hj) ((Hn8.out.more (by omega)).keep hk9)
                · exact ((hbel.trans hb7).trans (Hb8.out.mono (by omega))).setCell hbg _
            · rw [hqb] at hcall2
              have hins : Sh.insR out t0 = out := by
                unfold Sh.insR
                rw [← Hus.out, Hstop.out, if_pos ⟨hj0, by rw [show j - 1 = q by have := Hq.out; omega]; exact (Sh.eqB_iff _ _).1 hqb⟩]
              have Hins := Lib.hid hins; clear hins hqb
              have Hcall2 := Lib.hid hcall2; clear hcall2 hi2
              go_wp2
              go_quiet ((go_at_call 52; exact quiet_add (Hcall.out _ (fun _ => rfl))))
              go_wp2
              go_quiet ((go_at_call 22; exact quiet_add (Hcall2.out _ (fun _ => rfl))))
              go_wp2
              refine ⟨⟨k + 1, us, by omega, by go_num, ?_, by have := Hn.out; omega, ?_, ?_, below_drewN hbel _⟩, by simp [intOf]; omega⟩
              · rw [Hsn.out, Hins.out, Hn.out]; exact Hus.out
              · rw [Hn.out]; exact own_below Hown.out (below_drewN (Below.refl _ _) _)
              · rw [Hsn.out, Hins.out]; exact hel
          · rw [hb] at hcall
            have hst2 : Sh.stopR out t0 n = Sh.stopR out t0 q := by
              have := stopR_succ_t (k := q) hb
              rw [← Hq.out] at this
              exact Hst.out.trans this
            have Hst2 := Lib.hid hst2; clear hst2 hb Hst
            have Hcall := Lib.hid hcall; clear hcall hi2
            go_wp2
            go_quiet ((go_at_call 52; exact quiet_add (Hcall.out _ (fun _ => rfl))))
            go_wp2
            exact ⟨⟨q, _, by first | rfl | go_num, by omega, Hst2.out, rfl⟩, by have := Hq.out; simp [intOf]; omega⟩
        · have hd0 : decide ((0 : Int) < (j : Int)) = false := decide_eq_false (by omega)
          have hd1 : ¬ ((0 : Int) < (j : Int)) := by omega
          have hj00 : j = 0 := by omega
          have hins : Sh.insR out t0 = out.take j ++ t0 :: out.drop j := by
            have hstop : Sh.stopR out t0 n = j := by rw [Hst.out, hj00]; rfl
            unfold Sh.insR
            rw [← Hus.out, hstop, if_neg (by rintro ⟨hh, -⟩; omega)]
          have Hins := Lib.hid hins; clear hins Hst
          have Hj00 := Lib.hid hj00; clear hj00
          go_wp2
          go_quiet (fail)
          go_wp2
          go_quiet (fail)
          go_wp2_with (first
            | (at_builtin
               refine append_tup _ rfl _ _ rfl w.heap.size _ n us rfl (World.ownsRow.alloc (own_below Hown.out (below_drewN (Below.refl _ _) _)) _) ⟨wr.heap.size, 0, none⟩ 1 (.slice none 0 0) rfl ((Blk.new _ 25 #[.slice none 0 0]).cell 0) rfl (by omega) (by simp; omega) ?_
               intro v6 w6 hown6 hg6
               have hb6 : Below w.heap.size wr w6 := ((below_drewN (Below.refl w.heap.size wr) _).alloc (by simp; omega) _).grown hg6 (by simp; omega) (fun g e => (Hown.out.lt g e).1)
               have hk6 : Keeps w.heap.size [3] wr w6 := (Keeps.drewN _ _ wr _).trans ((Keeps.alloc _ _ _ _).trans (Keeps.own hg6 (World.ownsRow.alloc (own_below Hown.out (below_drewN (Below.refl _ _) _)) _) (by decide)))
               obtain ⟨g, cap, cur, rfl, hbg, hh, hnc, hcm, hcs, -⟩ := hown6.2.resolve_left (by rintro ⟨-, hz⟩; omega)
               have Hown6 := Lib.hid hown6; clear hown6
               have Hg6 := Lib.hid hg6; clear hg6))
          have hcell : ∀ i u, (us ++ [.slice none 0 0])[i]? = some u → w6.cell? ⟨g, i, none⟩ = some u := fun i u hu => by
            have := Hown6.out.cells (g := g) rfl i u hu
            rwa [Addr.add_lit, Nat.zero_add] at this
          have hblk : Blk w6 g 25 cur := hh
          have hcz : cur.size = cap := by omega
          have hone := elems_one hel (by rw [Hn.out]; exact Hus.out)
          have hdl : (us.drop j).length = n - j := by rw [List.length_drop, Hn.out]
          have hcm2 := hcm
          unfold maxLen at hcm2
          have hcp : ∀ ty dc sc, (Builtin.copy_ #[55, 55] ty #[.slice (some ⟨g, j + 1, none⟩) (n - j) dc, .slice (some ⟨g, j, none⟩) (n + 1 - j) sc]).run Tryz.prog w6.drew = .ok (goInt (us.drop j).length) (w6.drew.setCells g (j + 1) (us.drop j)) := fun ty dc sc =>
            run_copy_cells w6.drew _ _ ty 25 g (j + 1) (n - j) dc ⟨g, j, none⟩ (n + 1 - j) sc (us.drop j) Tryz.underlying55 tup_sz (by rw [hdl]; simp only [Nat.min_def]; split <;> omega)
              (fun i v hi => by rw [Addr.add_lit]; rw [List.getElem?_drop] at hi; exact hcell (j + i) v (by rw [List.getElem?_append_left (by have := (List.getElem?_eq_some_iff.1 hi).1; omega)]; exact hi))
              (fun i hi => by show (w6.cell? ⟨g, j + 1 + i, none⟩).isSome = true; rw [hblk.cell (j + 1 + i), Array.getElem?_eq_getElem (by rw [hdl] at hi; omega)]; rfl) (fun i hi => hblk.frozen _) (fun v hv => hone v (List.mem_of_mem_drop hv))
          have hcp0 : j = n → ∀ o ty dc sc, (Builtin.copy_ #[55, 55] ty #[.slice (some ⟨g, o, none⟩) (n - j) dc, .slice (some ⟨g, j, none⟩) (n + 1 - j) sc]).run Tryz.prog w6.drew = .ok (goInt 0) (w6.drew.setCells g (j + 1) (us.drop j)) := fun hjn o ty dc sc => by
            have := run_copy_cells w6.drew 55 55 ty 25 g o 0 dc ⟨g, j, none⟩ (n + 1 - j) sc [] Tryz.underlying55 tup_sz (by simp) (fun i v hi => by simp at hi) (fun i hi => by simp at hi) (fun i hi => by simp at hi) (fun v hv => by simp at hv)
            rw [List.drop_of_length_le (by rw [Hn.out]; omega), show n - j = 0 by omega]
            exact this
          obtain ⟨W7, hW7⟩ : ∃ W7, W7 = w6.drew.setCells g (j + 1) (us.drop j) := ⟨_, rfl⟩
          obtain ⟨c1, hk1, hs1⟩ := blk_setCells g 25 (us.drop j) (j + 1) w6.drew cur hblk.drew
          rw [← hW7] at hcp hcp0 hk1
          have hb7 : Below w.heap.size wr W7 := by
            rw [hW7]
            exact hb6.drew.grown (grown_setCells g _ _ _) (by have := hb6.size; simp; omega) (fun x e => by have := Option.some.inj e; omega)
          have hk7 : Keeps w.heap.size [3] wr W7 := by
            rw [hW7]
            exact hk6.trans ((Keeps.drewN _ _ w6 1).trans (keeps_setCells hblk.drew (by decide) _ _))
          have hz7 := hb7.size
          have hcu7 : (W7.alloc (.cells #[] 3)).cell? (ad.add k) = some (.slice UA UN UC) := ((hb7.alloc (by omega) _).cell (by rw [block_of_add]; omega)).trans hcu
          have hiu7 : Ints (W7.alloc (.cells #[] 3)) B (.slice UA UN UC) t0 := Hiu.out.below ((hb7.alloc (by omega) _).mono hB)
          have Hiu7 := Lib.hid hiu7; clear hiu7
          have Hcell := Lib.hid hcell; clear hcell
          have HW7 := Lib.hid hW7; clear hW7
          have hwj : IntKind.i64.wrap ((j : Int) + 1) = (j : Int) + 1 := by rw [IntKind.wrap_i64]; omega
          have hj1 : (0 : Int) ≤ (j : Int) + 1 := by omega
          have htn : ((j : Int) + 1).toNat = j + 1 := by omega
          have hj3 : (j : Int) ≤ (n : Int) + 1 := by omega
          have hj4 : ¬ (cap = j) := by omega
          have hjn1 : j < n + 1 := by omega
          obtain ⟨z, hzj⟩ : ∃ z, c1[j]? = some z := ⟨_, Array.getElem?_eq_getElem (by omega)⟩
          have Hone := Lib.hid hone; clear hone
          have Hcp := Lib.hid hcp; clear hcp
          have Hcp0 := Lib.hid (fun e : cap = j + 1 => hcp0 (by omega)); clear hcp0
          by_cases hend : cap = j + 1
          · have Hend := Lib.hid hend
            go_region_law (refine step_copy_runI rfl _ _ 55 55 rfl (.slice (some ⟨g, 0, none⟩) (n - j) 0) (.slice (some ⟨g, j, none⟩) (n + 1 - j) 1) (by simp [Act.eval, Act.put]) (by simp [Act.eval, Act.put]) (Hcp0.out Hend.out 0 3 0 1) ?_)
            go_wp2_with (first
              | (at_builtin
                 refine append_ints _ rfl _ _ rfl W7.heap.size _ 0 [] rfl (own_empty W7 3 1) B (.slice UA UN UC) t0 rfl Hiu7.out (by omega) (by rw [Htl.out]; exact ha) (by simp) ?_
                 intro v8 w8 hown8 hg8
                 have hown8 : w8.ownsRow W7.heap.size 3 1 v8 t0.length (t0.map (Value.int .i64)) := by simpa using hown8
                 obtain ⟨XA, XC, rfl⟩ := own_slice hown8
                 have hn8 : NInts w8 W7.heap.size (.slice XA t0.length XC) t0 := NInts.own hown8 (Nat.le_refl _) (by rw [Htl.out]; omega)
                 have hb8 : Below W7.heap.size W7 w8 := ((Below.refl _ _).alloc (Nat.le_refl _) _).grown hg8 (by simp) (fun g e => Nat.le_of_eq (Option.some.inj (show some W7.heap.size = some g from e)))
                 have hk8 := hk1.below hb8 hk1.lt
                 have hcj8 : w8.cell? ⟨g, j, none⟩ = some z := (hk8.cell j).trans hzj
                 have hcf8 := hk8.frozen j
                 have Hn8 := Lib.hid hn8; clear hn8
                 have Hb8 := Lib.hid hb8; clear hb8 hown8 hg8))
            have hlen : (us.take j ++ Value.slice XA t0.length XC :: us.drop j).length = n + 1 := by have := Hn.out; simp; omega
            have hk9 : Keeps w.heap.size [3] w8 (w8.setCell ⟨g, j, none⟩ (.slice XA t0.length XC)) := Keeps.setCell (p := ⟨g, j, none⟩) hk8 (by decide) _
            refine ⟨⟨k + 1, us.take j ++ Value.slice XA t0.length XC :: us.drop j, by omega, by go_num, ?_, by omega, ?_, ?_, ?_⟩, by simp [intOf]; omega⟩
            · rw [hlen, Hsn.out, Hins.out]
              have := Hus.out
              simp; omega
            · rw [hlen]
              first
                | exact own_inserted hj Hn.out hbg hblk.drew hnc hcm hcz Hcell.out (by rw [← HW7.out]; exact Hb8.out)
                | (rw [← hend]; exact own_inserted hj Hn.out hbg hblk.drew hnc hcm hcz Hcell.out (by rw [← HW7.out]; exact Hb8.out))
            · rw [Hsn.out, Hins.out]
              exact elems_insert (((hel.keep hk7).keep (Keeps.of_below Hb8.out)).keep hk9) (by rw [Hn.out]; exact Hus.out) (by rw [Hn.out]; exact hj) ((Hn8.out.more (by omega)).keep hk9)
            · exact ((hbel.trans hb7).trans (Hb8.out.mono (by omega))).setCell hbg _
          · go_region_law (refine step_copy_runI rfl _ _ 55 55 rfl (.slice (some ⟨g, j + 1, none⟩) (n - j) (cap - (j + 1))) (.slice (some ⟨g, j, none⟩) (n + 1 - j) (cap - j)) (by simp [Act.eval, Act.put]) (by simp [Act.eval, Act.put]) (Hcp.out 3 (cap - (j + 1)) (cap - j)) ?_)
            go_wp2_with (first
              | (at_builtin
                 refine append_ints _ rfl _ _ rfl W7.heap.size _ 0 [] rfl (own_empty W7 3 1) B (.slice UA UN UC) t0 rfl Hiu7.out (by omega) (by rw [Htl.out]; exact ha) (by simp) ?_
                 intro v8 w8 hown8 hg8
                 have hown8 : w8.ownsRow W7.heap.size 3 1 v8 t0.length (t0.map (Value.int .i64)) := by simpa using hown8
                 obtain ⟨XA, XC, rfl⟩ := own_slice hown8
                 have hn8 : NInts w8 W7.heap.size (.slice XA t0.length XC) t0 := NInts.own hown8 (Nat.le_refl _) (by rw [Htl.out]; omega)
                 have hb8 : Below W7.heap.size W7 w8 := ((Below.refl _ _).alloc (Nat.le_refl _) _).grown hg8 (by simp) (fun g e => Nat.le_of_eq (Option.some.inj (show some W7.heap.size = some g from e)))
                 have hk8 := hk1.below hb8 hk1.lt
                 have hcj8 : w8.cell? ⟨g, j, none⟩ = some z := (hk8.cell j).trans hzj
                 have hcf8 := hk8.frozen j
                 have Hn8 := Lib.hid hn8; clear hn8
                 have Hb8 := Lib.hid hb8; clear hb8 hown8 hg8))
            have hlen : (us.take j ++ Value.slice XA t0.length XC :: us.drop j).length = n + 1 := by have := Hn.out; simp; omega
            have hk9 : Keeps w.heap.size [3] w8 (w8.setCell ⟨g, j, none⟩ (.slice XA t0.length XC)) := Keeps.setCell (p := ⟨g, j, none⟩) hk8 (by decide) _
            refine ⟨⟨k + 1, us.take j ++ Value.slice XA t0.length XC :: us.drop j, by omega, by go_num, ?_, by omega, ?_, ?_, ?_⟩, by simp [intOf]; omega⟩
            · rw [hlen, Hsn.out, Hins.out]
              have := Hus.out
              simp; omega
            · rw [hlen]
              first
                | exact own_inserted hj Hn.out hbg hblk.drew hnc hcm hcz Hcell.out (by rw [← HW7.out]; exact Hb8.out)
                | (rw [← hend]; exact own_inserted hj Hn.out hbg hblk.drew hnc hcm hcz Hcell.out (by rw [← HW7.out]; exact Hb8.out))
            · rw [Hsn.out, Hins.out]
              exact elems_insert (((hel.keep hk7).keep (Keeps.of_below Hb8.out)).keep hk9) (by rw [Hn.out]; exact Hus.out) (by rw [Hn.out]; exact hj) ((Hn8.out.more (by omega)).keep hk9)
            · exact ((hbel.trans hb7).trans (Hb8.out.mono (by omega))).setCell hbg _
    · have hkl : k = len := by omega
      subst hkl
      have htk : l.take k = l := List.take_of_length_le (by have := Hlen.out; omega)
      rw [htk] at hel
      have hus' := Hus.out
      rw [htk] at hus'
      have hnt : NTups wr w.heap.size (.slice TA n TC) (Sh.sortR l) := NTups.own Hown.out (Nat.le_refl _) (by omega) (by rw [Hn.out]; exact hus') hel
      have Hnt := Lib.hid hnt; clear hnt htk hel hus'
      go_wp2
      go_ret
      exact ⟨_, rfl, Hnt.out, hbel⟩

end Go.Proofs.YtelememdhpncgaaGreatDoor
