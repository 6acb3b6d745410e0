/-
  Walk: the reference's tuple.
-/
import Derived.Test.YtbddchonhicpiaaDoorRnum
import Derived.Test.YtbddchonhicpiaaDoorTup
import Derived.OwnWalk
import Derived.Test.YtbddchonhicpiaaDoorCopyrel
namespace Go.Proofs.YtbddchonhicpiaaDoor
open Go.RowKit

theorem bytes_inj {a b : ByteArray} (h : a.toList = b.toList) : a = b := by
  rw [ByteArray.toList_eq, ByteArray.toList_eq] at h
  cases a with
  | mk a =>
    cases b with
    | mk b =>
      have : a = b := Array.toList_inj.1 h
      rw [this]

def RTupPost (k : Nat) (s : ByteArray) (w : World) (e : Ending) (w' : World) : Prop :=
  Below w.heap.size w w' ∧ match Tx.tupR k s.toList with
  | some p => ∃ v r, e = .returned (.tuple #[v, .string r, .bool true]) ∧ r.toList = p.2 ∧ NInts w' w.heap.size v p.1
  | none => ∃ r, e = .returned (.tuple #[.slice none 0 0, .string r, .bool false])
theorem RTupPost.bad {k : Nat} {s : ByteArray} {w w' : World} {r : ByteArray} (h : Tx.tupR k s.toList = none) (hb : Below w.heap.size w w') : RTupPost k s w (.returned (.tuple #[.slice none 0 0, .string r, .bool false])) w' :=
  ⟨hb, by rw [h]; exact ⟨r, rfl⟩⟩
theorem RTupPost.ok {k : Nat} {s : ByteArray} {w w' : World} {r : ByteArray} {v : Value} {xs : List Int} (h : Tx.tupR k s.toList = some (xs, r.toList)) (hb : Below w.heap.size w w') (hv : NInts w' w.heap.size v xs) : RTupPost k s w (.returned (.tuple #[v, .string r, .bool true])) w' :=
  ⟨hb, by rw [h]; exact ⟨v, r, rfl, rfl, hv⟩⟩
theorem RTupPost.hit {k : Nat} {s : ByteArray} {w w' : World} {e : Ending} {p : List Int × List UInt8} (h : RTupPost k s w e w') (ht : Tx.tupR k s.toList = some p) : Below w.heap.size w w' ∧ ∃ v r, e = .returned (.tuple #[v, .string r, .bool true]) ∧ r.toList = p.2 ∧ NInts w' w.heap.size v p.1 := by
  obtain ⟨hb, h⟩ := h
  rw [ht] at h
  exact ⟨hb, h⟩
theorem RTupPost.miss {k : Nat} {s : ByteArray} {w w' : World} {e : Ending} (h : RTupPost k s w e w') (ht : Tx.tupR k s.toList = none) : Below w.heap.size w w' ∧ ∃ r, e = .returned (.tuple #[.slice none 0 0, .string r, .bool false]) := by
  obtain ⟨hb, h⟩ := h
  rw [ht] at h
  exact ⟨hb, h⟩

theorem Tx.numR_short {l : List UInt8} {a : Int} {l1 : List UInt8} (h : Tx.numR l = (a, l1)) (ha : ¬ a < 0) : l1.length ≤ l.length := by
  have := (Tx.numR_inv (l := l) (by rw [h]; simp only; omega)).1
  have := congrArg List.length this
  rw [List.length_append, h] at this
  simp only at this
  omega

set_option maxRecDepth 100000 in
set_option maxHeartbeats 1000000 in
theorem rtup_zero (s : ByteArray) (w : World) (hs : s.size ≤ 50000) :
    Calls Tryd.prog 84 #[.string s, .int .i64 (0 : Nat)] w (RTupPost 0 s w) := by
  have hl := length_bytes s
  cases hp : [40, 41].isPrefixOf s.toList
  · have ht : Tx.tupR 0 s.toList = none := by rw [Tx.tupR, hp]; rfl
    have Ht := Lib.hid ht; clear ht
    by_cases h2 : s.size < 2
    · clear hp hl
      go_enter Tryd.func84, Tryd.ntmps84
      go_wp2
      go_ret3
      exact RTupPost.bad Ht.out (Below.refl _ _)
    · have hne : ((s.extract 0 2).toList == [40, 41]) = false := by
        rw [beq_eq_false_iff_ne]
        intro this
        rw [extract_take] at this
        rw [isPrefixOf_take, Bool.and_eq_false_iff] at hp
        rcases hp with h | h
        · simp at h; omega
        · rw [show ([40, 41] : List UInt8).length = 2 from rfl, this] at h
          simp at h
      clear hp hl
      go_enter Tryd.func84, Tryd.ntmps84
      go_wp2
      go_ret3
      exact RTupPost.bad Ht.out (Below.refl _ _)
  · have h2 : ¬ s.size < 2 := by
      have := (List.isPrefixOf_iff_prefix.1 hp).length_le
      rw [hl] at this
      simpa using this
    have ht : Tx.tupR 0 s.toList = some ([], (s.extract 2 s.size).toList) := by rw [Tx.tupR, hp, extract_drop]; rfl
    have hne : ((s.extract 0 2).toList == [40, 41]) = true := by
      rw [extract_take]
      rw [isPrefixOf_take, Bool.and_eq_true] at hp
      exact hp.2
    have Ht := Lib.hid ht; clear ht
    clear hp hl
    go_enter Tryd.func84, Tryd.ntmps84
    go_wp2
    go_region
    all_goals (
      go_wp2
      go_ret3
      refine RTupPost.ok Ht.out ?_ ⟨_, _, _, rfl, rfl, by omega, fun h => absurd h (by omega)⟩
      first
        | exact ((Below.refl _ _).drew).alloc (Nat.le_refl _) _
        | exact (Below.refl _ _).alloc (Nat.le_refl _) _)

set_option maxRecDepth 100000 in
set_option maxHeartbeats 4000000 in
theorem rtup_some (k : Nat) (s : ByteArray) (w : World) (hs : s.size ≤ 50000) (hk : k < 100) :
    Calls Tryd.prog 84 #[.string s, .int .i64 ((k + 1 : Nat) : Int)] w (RTupPost (k + 1) s w) := by
  have hk1 : (((k + 1 : Nat) : Int) == 0) = false := by simp; omega
  generalize hK : k + 1 = K at *
  have hK1 : K ≤ 100 := by omega
  go_enter Tryd.func84, Tryd.ntmps84
  go_wp2
  go_loopw [0, 7, 8] (fun sv tv x wr => ∃ (j : Nat) (r : ByteArray) (xs : List Int), j ≤ K ∧ x = .int .i64 j ∧ sv = .string r ∧ xs.length = j ∧ r.size ≤ s.size ∧ wr.ownsRow w.heap.size 3 1 tv j (xs.map (Value.int .i64)) ∧ Below w.heap.size w wr ∧ (j = 0 → r = s ∧ xs = []) ∧ (0 < j → Tx.tupR K s.toList = (Tx.numsR (K - j) r.toList).map fun p => (xs ++ p.1, p.2))) (fun _ _ x _ => K - (intOf x).toNat)
  case atStart => exact ⟨0, s, [], Nat.zero_le _, rfl, rfl, rfl, Nat.le_refl _, World.ownsRow_nil _ _ _ _, Below.refl _ _, fun _ => ⟨rfl, rfl⟩, fun h => absurd h (by omega)⟩
  case round =>
    obtain ⟨j, r, xs, hjk, rfl, rfl, hxl, hrs, hown, hbel, hz, hp⟩ := hrel
    obtain ⟨VA, VC, rfl⟩ := own_slice hown
    have Hown := Lib.hid hown; clear hown
    have Hbel := Lib.hid hbel; clear hbel
    have Hxl := Lib.hid hxl; clear hxl
    have hbz := Hbel.out.size
    by_cases hlt : j < K
    · rcases Nat.eq_zero_or_pos j with hj0 | hj0
      · obtain ⟨rfl, hx0⟩ := hz hj0
        have hjI : ¬ (0 : Int) < (j : Int) := by omega
        have Hx0 := Lib.hid hx0; clear hx0
        have Hj0 := Lib.hid hj0; clear hj0
        clear hz hp
        obtain ⟨a, l1, hn⟩ : ∃ a l1, Tx.numR r.toList = (a, l1) := ⟨_, _, rfl⟩
        have hnum := rnumber_any r wr hs
        by_cases ha : a < 0
        · have ht : Tx.tupR K r.toList = none := by rw [← hK, Tx.tupR, hn, if_pos ha]
          have Ht := Lib.hid ht; clear ht
          have Hn := Lib.hid hn; clear hn
          have Hnum := Lib.hid hnum; clear hnum
          go_wp2_with (go_at_call 83; refine Hnum.out.mono ?_; rintro e w4 ⟨⟨r1, rfl, hr1⟩, n4, rfl⟩; rw [Hn.out])
          go_ret3
          exact RTupPost.bad Ht.out (below_drewN Hbel.out _)
        · have ht : Tx.tupR K r.toList = (Tx.numsR (K - 1) l1).map fun p => (a :: p.1, p.2) := by
            rw [← hK, Tx.tupR, hn, if_neg ha]
            rfl
          have hsh := Tx.numR_short hn ha
          rw [length_bytes] at hsh
          have Ht := Lib.hid ht; clear ht
          have Hn := Lib.hid hn; clear hn
          have Hnum := Lib.hid hnum; clear hnum
          go_wp2_with (first
            | (go_at_call 83
               refine Hnum.out.mono ?_
               rintro e w4 ⟨⟨r1, rfl, hr1⟩, n4, rfl⟩
               rw [Hn.out]
               rw [Hn.out] at hr1
               have Hr1 := Lib.hid hr1; clear hr1)
            | (at_builtin
               refine append1_int _ rfl _ _ rfl w.heap.size _ j xs rfl ((own_below (w' := wr.drewN n4) Hown.out (below_drewN (Below.refl _ _) n4)).alloc _) ⟨wr.heap.size, 0, none⟩ 1 a rfl ((Blk.new (wr.drewN n4) 3 #[.int .i64 a]).cell 0) (by omega) (by simp; omega) ?_
               intro v7 w7 hown7 hg7))
          refine ⟨⟨j + 1, r1, xs ++ [a], by omega, by go_num, rfl, by rw [List.length_append, Hxl.out]; rfl, ?_, hown7, ?_, fun h => absurd h (by omega), fun _ => ?_⟩, by simp [intOf]; omega⟩
          · have := Hr1.out
            rw [← length_bytes, show r1.toList = l1 from this]
            exact hsh
          · exact ((below_drewN Hbel.out n4).alloc (by simp; omega) _).grown hg7 (by simp; omega) (fun g e => (Hown.out.lt g e).1)
          · rw [Ht.out, Hr1.out, Hx0.out, Hj0.out]
            rfl
      · have hpp := hp hj0
        clear hz hp
        obtain ⟨m, hm⟩ : ∃ m, K - j = m + 1 := ⟨K - j - 1, by omega⟩
        have hm2 : K - (j + 1) = m := by omega
        rw [hm, Tx.numsR] at hpp
        have hjI : (0 : Int) < (j : Int) := by omega
        rcases Nat.eq_zero_or_pos r.size with h0 | h0
        · have he : r = ⟨#[]⟩ := by
            refine bytes_inj (Eq.trans ?_ (toList_lit []).symm)
            exact List.eq_nil_of_length_eq_zero (by rw [length_bytes]; exact h0)
          have heb : (r.toList == []) = true := by rw [he, toList_lit []]; rfl
          have heb2 : r.toList.isEmpty = true := by rw [he, toList_lit []]; rfl
          have ht : Tx.tupR K s.toList = none := by
            rw [hpp, he, toList_lit []]
            rfl
          have Ht := Lib.hid ht; clear ht hpp he
          go_wp2
          go_ret3
          exact RTupPost.bad Ht.out Hbel.out
        · have hcons := bytes_cons h0
          have heb : (r.toList == []) = false := by rw [hcons]; rfl
          have heb2 : r.toList.isEmpty = false := by rw [hcons]; rfl
          by_cases hc : r[0].toNat = 44
          · have hc2 : ((r[0].toNat : Int) != 44) = false := by rw [hc]; rfl
            have hr0 : r[0] = 44 := UInt8.toNat_inj.1 hc
            have hhd : r.toList.head? = some 44 := by rw [hcons, hr0]; rfl
            have hdr : r.toList.drop 1 = (r.extract 1 r.size).toList := by rw [extract_drop]
            rw [if_pos hhd, hdr] at hpp
            have hz1 : (r.extract 1 r.size).size ≤ r.size := by rw [ByteArray.size_extract]; omega
            have hnum := rnumber_any (r.extract 1 r.size) wr (by omega)
            obtain ⟨a, l1, hn⟩ : ∃ a l1, Tx.numR (r.extract 1 r.size).toList = (a, l1) := ⟨_, _, rfl⟩
            rw [hn] at hpp
            simp only at hpp
            by_cases ha : a < 0
            · rw [if_pos ha] at hpp
              have Ht := Lib.hid (show Tx.tupR K s.toList = none by rw [hpp]; rfl)
              have Hn := Lib.hid hn; clear hn
              have Hnum := Lib.hid hnum; clear hnum
              clear hpp hcons hhd hdr hr0 hc
              go_wp2_with (go_at_call 83; refine Hnum.out.mono ?_; rintro e w4 ⟨⟨r1, rfl, hr1⟩, n4, rfl⟩; rw [Hn.out])
              go_ret3
              exact RTupPost.bad Ht.out (below_drewN Hbel.out _)
            · rw [if_neg ha] at hpp
              have hsh := Tx.numR_short hn ha
              rw [length_bytes] at hsh
              have Hpp := Lib.hid hpp
              have Hn := Lib.hid hn; clear hn
              have Hnum := Lib.hid hnum; clear hnum
              clear hpp hcons hhd hdr hr0 hc
              go_wp2_with (first
                | (go_at_call 83
                   refine Hnum.out.mono ?_
                   rintro e w4 ⟨⟨r1, rfl, hr1⟩, n4, rfl⟩
                   rw [Hn.out]
                   rw [Hn.out] at hr1
                   have Hr1 := Lib.hid hr1; clear hr1)
                | (at_builtin
                   refine append1_int _ rfl _ _ rfl w.heap.size _ j xs rfl ((own_below (w' := wr.drewN n4) Hown.out (below_drewN (Below.refl _ _) n4)).alloc _) ⟨wr.heap.size, 0, none⟩ 1 a rfl ((Blk.new (wr.drewN n4) 3 #[.int .i64 a]).cell 0) (by omega) (by simp; omega) ?_
                   intro v7 w7 hown7 hg7))
              refine ⟨⟨j + 1, r1, xs ++ [a], by omega, by go_num, rfl, by rw [List.length_append, Hxl.out]; rfl, ?_, hown7, ?_, fun h => absurd h (by omega), fun _ => ?_⟩, by simp [intOf]; omega⟩
              · have := Hr1.out
                rw [← length_bytes, show r1.toList = l1 from this]
                omega
              · exact ((below_drewN Hbel.out n4).alloc (by simp; omega) _).grown hg7 (by simp; omega) (fun g e => (Hown.out.lt g e).1)
              · rw [Hpp.out, hm2, Hr1.out, Option.map_map]
                congr 1
                funext p
                simp
          · have hc2 : ((r[0].toNat : Int) != 44) = true := by rw [bne_iff_ne]; omega
            have hhd : ¬ r.toList.head? = some 44 := by
              rw [hcons]
              intro e
              injection e with e
              rw [e] at hc
              exact hc rfl
            rw [if_neg hhd] at hpp
            have Ht := Lib.hid (show Tx.tupR K s.toList = none by rw [hpp]; rfl)
            clear hpp hcons hhd hc
            go_wp2
            go_ret3
            exact RTupPost.bad Ht.out Hbel.out
    · obtain rfl : j = K := by omega
      have hpp := hp (by omega)
      rw [Nat.sub_self, Tx.numsR] at hpp
      have Ht := Lib.hid (show Tx.tupR j s.toList = some (xs, r.toList) by rw [hpp]; simp)
      clear hpp hp hz
      go_wp2
      go_ret3
      exact RTupPost.ok Ht.out Hbel.out (by have := NInts.own (t := xs) Hown.out (Nat.le_refl _) (by omega); simpa using this)

theorem rtuple_ref (k : Nat) (s : ByteArray) (w : World) (hs : s.size ≤ 50000) (hk : k ≤ 100) :
    Calls Tryd.prog 84 #[.string s, .int .i64 (k : Int)] w (RTupPost k s w) := by
  cases k with
  | zero => exact rtup_zero s w hs
  | succ k => exact rtup_some k s w hs (by omega)

end Go.Proofs.YtbddchonhicpiaaDoor
