/-
  Walk: slices.Delete of one tuple out of a row of tuples of the call's own.
-/
import Derived.Test.YtbddchonhicpiaaDoorInsert
import Derived.Lib.SliceRun
namespace Go.Proofs.YtbddchonhicpiaaDoor
open Go.RowKit Go.Lib

theorem zero_tup (w : World) : (zeroValue 35).run Tryd.prog w = .ok (.slice none 0 0) w := by kernel_rfl

set_option maxHeartbeats 4000000 in
set_option maxRecDepth 1000000 in
theorem delete_cells (blk off cap n i j : Nat) (us : List Value) (w : World) (hul : us.length = n) (hH : ∀ k u, us[k]? = some u → w.cell? ⟨blk, off + k, none⟩ = some u) (hF : ∀ k, w.frozen? ⟨blk, k, none⟩ = false) (h1 : ∀ u ∈ us, u.oneCell' = true)
    (hcap : n ≤ cap) (hm : cap ≤ 9223372036854775807) (hij : i < j) (hj : j ≤ n) :
    Calls Tryd.prog 66 #[.slice (some ⟨blk, off, none⟩) n cap, .int .i64 i, .int .i64 j] w fun e w' => e = .returned (.slice (some ⟨blk, off, none⟩) (i + (n - j)) cap) ∧
      w' = (w.drew.setCells blk (off + i * 1) (us.drop j)).setCells blk (off + (i + (n - j))) (List.replicate (n - (i + (n - j))) (.slice none 0 0)) := by
  obtain ⟨i0, hi0, hz0, hz1, hz2⟩ := info_parts tups_info
  obtain ⟨news, hnews⟩ : ∃ news, news = us.drop j := ⟨_, rfl⟩
  have hlen : news.length = n - j := by rw [hnews]; simp; omega
  have hsome : ∀ k, k < n → (w.cell? ⟨blk, off + k, none⟩).isSome = true := fun k hk => by rw [hH k us[k] (List.getElem?_eq_getElem (by omega))]; rfl
  obtain ⟨A, hA, hsrc⟩ : ∃ A : Addr, (if cap = j then some (⟨blk, off, none⟩ : Addr) else some ⟨blk, off + j, none⟩) = some A ∧ Hid (∀ t u, news[t]? = some u → w.drew.cell? (A.add t) = some u) := by
    by_cases h : cap = j
    · refine ⟨⟨blk, off, none⟩, by simp [h], fun t u hu => ?_⟩
      have h0 : news.length = 0 := by rw [hlen]; omega
      rw [List.length_eq_zero_iff.1 h0] at hu
      simp at hu
    · refine ⟨⟨blk, off + j, none⟩, by simp [h], fun t u hu => ?_⟩
      rw [hnews, List.getElem?_drop] at hu
      rw [Addr.add_lit, show off + j + t = off + (j + t) by omega]
      exact hH _ u hu
  have s1 : Hid (news.length = (n - j) * 1) := by rw [Nat.mul_one]; exact hlen
  have s2 : Hid (∀ u ∈ news, u.oneCell' = true) := fun u hu => h1 u (List.mem_of_mem_drop (hnews ▸ hu))
  have s3 : Hid (∀ t, t < news.length → (w.drew.cell? ⟨blk, off + i * 1 + t, none⟩).isSome = true ∧ w.drew.frozen? ⟨blk, off + i * 1 + t, none⟩ = false) := by
    intro t ht
    rw [hlen] at ht
    rw [Nat.mul_one, Nat.add_assoc]
    exact ⟨hsome _ (by omega), hF _⟩
  obtain ⟨W1, hW1⟩ : ∃ W1, W1 = w.drew.setCells blk (off + i * 1) news := ⟨_, rfl⟩
  have hsome1 : ∀ k, k < n → (W1.cell? ⟨blk, off + k, none⟩).isSome = true := fun k hk => by
    rw [hW1]
    exact isSome_setCells blk _ _ _ (fun t ht => by rw [hlen] at ht; rw [Nat.mul_one, Nat.add_assoc]; exact hsome _ (by omega)) _ (hsome k hk)
  have hcl : ∀ ty, (Builtin.clear_ #[49] ty #[.slice (some ⟨blk, off + (i + (n - j)), none⟩) (n - (i + (n - j))) (cap - (i + (n - j)))]).run Tryd.prog W1 = .ok (.tuple #[]) (W1.setCells blk (off + (i + (n - j))) (List.replicate (n - (i + (n - j))) (.slice none 0 0))) :=
    fun ty => Lib.run_clear_slice W1 _ _ ty _ Tryd.underlying49 zero_tup rfl rfl blk (off + (i + (n - j))) _ _ (by omega) (fun t ht => by rw [show off + (i + (n - j)) + t = off + (i + (n - j) + t) by omega]; exact hsome1 _ (by omega)) (fun t ht => by rw [hW1, World.frozen?_setCells]; exact hF _)
  have hW : Hid (W1 = w.drew.setCells blk (off + i * 1) news) := hW1
  have hN : Hid (news = us.drop j) := hnews
  have hic : i ≤ cap := by omega
  have hjc : j ≤ cap := by omega
  have hne : ¬ i = j := by omega
  clear hW1 hH hF hnews hlen hsome hsome1 h1
  go_enter Tryd.func66, Tryd.ntmps66
  go_wp2_with fail
  go_region_law (refine step_append_room rfl (.tmp 22) (.tmp 25) 49 rfl 35 i0 1 Tryd.underlying49 hi0 hz1 blk off i cap (by simp [Act.eval, Act.put]) A (n - j) (cap - j) news (by simp [Act.eval, Act.put]) s1.out hsrc.out s2.out (by omega) s3.out ?_; rw [← hW.out])
  go_wp2
  go_ret
  exact ⟨rfl, by rw [hW.out, hN.out]⟩

/-- One element at i. -/
theorem delete_any (v : Value) (n i : Nat) (us : List Value) (base : Nat) (w : World) (hi : i < n) (hown : w.ownsRow base 35 1 v n us) (h1 : ∀ u ∈ us, u.oneCell' = true) :
    Calls Tryd.prog 66 #[v, .int .i64 i, .int .i64 ((i + 1 : Nat) : Int)] w fun e w' => ∃ v', e = .returned v' ∧ w'.ownsRow base 35 1 v' (n - 1) (us.take i ++ us.drop (i + 1)) ∧ w.grownBy w' v.ownBlock := by
  have hul : us.length = n := by have := hown.1; omega
  have hown' := hown
  rcases hown'.2 with ⟨rfl, rfl⟩ | ⟨g, cap, cur, rfl, hbg, hh, hnc, hcm, hcs, htk⟩
  · omega
  · have hblk : Blk w g 35 cur := hh
    have hcell : ∀ j u, us[j]? = some u → w.cell? ⟨g, j, none⟩ = some u := fun j u hu => by
      have := hown.cells (g := g) rfl j u hu
      rwa [Addr.add_lit, Nat.zero_add] at this
    have hm := hcm
    unfold maxLen at hm
    refine (delete_cells g 0 cap n i (i + 1) us w hul (fun k u hu => by rw [Nat.zero_add]; exact hcell k u hu) (fun k => hblk.frozen k) h1 hnc hm (by omega) (by omega)).mono ?_
    rintro e w' ⟨rfl, rfl⟩
    obtain ⟨c1, hk2, hs2⟩ := blk_setCells g 35 (us.drop (i + 1)) (0 + i * 1) _ _ hblk.drew
    obtain ⟨c2, hk3, hs3⟩ := blk_setCells g 35 (List.replicate (n - (i + (n - (i + 1)))) (.slice none 0 0)) (0 + (i + (n - (i + 1)))) _ _ hk2
    have e1 : i + (n - (i + 1)) = n - 1 := by omega
    refine ⟨_, rfl, ?_, grown_trans (grown_drewN w 1 (some g)) (grown_trans (grown_setCells g _ _ _) (grown_setCells g _ _ _))⟩
    rw [e1] at hk3 ⊢
    refine own_of_cells hbg hk3 (by omega) hcm (by omega) (by simp; omega) (fun j u hu => ?_)
    have hjl : j < n - 1 := by
      have := (List.getElem?_eq_some_iff.1 hu).1
      simp at this; omega
    rw [World.cell?_setCells_out g _ _ _ ⟨g, j, none⟩ (fun _ _ => .inl (show j < 0 + (n - 1) by omega))]
    have htl : (us.take i).length = i := by rw [List.length_take]; omega
    by_cases hji : j < i
    · rw [List.getElem?_append_left (by omega), List.getElem?_take, if_pos hji] at hu
      rw [World.cell?_setCells_out g _ _ _ ⟨g, j, none⟩ (fun _ _ => .inl (show j < 0 + i * 1 by omega))]
      exact hcell j u hu
    · rw [List.getElem?_append_right (by omega), htl] at hu
      have hq : j - i < (us.drop (i + 1)).length := (List.getElem?_eq_some_iff.1 hu).1
      have hdl : (us.drop (i + 1)).length = n - (i + 1) := by rw [List.length_drop, hul]
      have := World.cell?_setCells_in g (us.drop (i + 1)) (0 + i * 1) w.drew (fun k hk => by
        show (w.cell? _).isSome = true
        rw [hblk.cell, Array.getElem?_eq_getElem (by omega)]; rfl) (j - i) hq
      rw [show 0 + i * 1 + (j - i) = j by omega] at this
      rw [this, ← hu, List.getElem?_eq_getElem hq]

end Go.Proofs.YtbddchonhicpiaaDoor
