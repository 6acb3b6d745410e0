/-
  Texts joined: Renm, Rpermute, Rperm, Permf, Copya.
-/
import Derived.Test.YtelememdhpncgaaGreatDoorJp11
import Derived.Test.YtelememdhpncgaaGreatDoorJp10
import Derived.Test.YtelememdhpncgaaGreatDoorJp7
import Derived.Test.YtelememdhpncgaaGreatDoorJp1
import Derived.Test.YtelememdhpncgaaGreatDoorJp8

/-
  Plain mathematics: a structure with renamed elements.
-/
namespace Go.Proofs.YtelememdhpncgaaGreatDoor
namespace Sh

/-- The relations with renamed elements, their tuples in rising order. -/
def renRel (p : List Int) (r : Rel) : Rel := ⟨r.name, r.arity, sortR (r.tuples.map (renT p))⟩
def renR (p : List Int) (rs : List Rel) : List Rel := rs.map (renRel p)
/-- The first k are renamed. -/
def midR (p : List Int) (rs : List Rel) (k : Nat) : List Rel := (rs.take k).map (renRel p) ++ rs.drop k
theorem midR_zero (p : List Int) (rs : List Rel) : midR p rs 0 = rs := by simp [midR]
theorem midR_all (p : List Int) (rs : List Rel) {k : Nat} (h : rs.length ≤ k) : midR p rs k = renR p rs := by
  unfold midR renR; rw [List.take_of_length_le h, List.drop_eq_nil_of_le h, List.append_nil]
theorem midR_len (p : List Int) (rs : List Rel) (k : Nat) : (midR p rs k).length = rs.length := by
  unfold midR; simp; omega
theorem midR_at (p : List Int) {rs : List Rel} {k : Nat} {r : Rel} (h : rs[k]? = some r) : (midR p rs k)[k]? = some r := by
  have hk := (List.getElem?_eq_some_iff.1 h).1
  unfold midR
  rw [List.getElem?_append_right (by simp; omega)]
  rw [List.getElem?_drop, ← h]
  congr 1
  simp; omega
theorem midR_set (p : List Int) {rs : List Rel} {k : Nat} {r : Rel} (h : rs[k]? = some r) : (midR p rs k).set k (renRel p r) = midR p rs (k + 1) := by
  obtain ⟨hk, rfl⟩ := List.getElem?_eq_some_iff.1 h
  have hlen : ((rs.take k).map (renRel p)).length = k := by simp; omega
  unfold midR
  rw [List.set_append_right _ _ (by omega), hlen, Nat.sub_self, List.drop_eq_getElem_cons hk, List.set_cons_zero, List.take_succ_eq_append_getElem hk, List.map_append, List.append_assoc]
  rfl

theorem renT_len (p t : List Int) : (renT p t).length = t.length := by unfold renT; simp
theorem ren_long {p : List Int} {a : Nat} {ts : List (List Int)} (h : Long a ts) : Long a (ts.map (renT p)) := fun t ht => by
  obtain ⟨s, hs, rfl⟩ := List.mem_map.1 ht
  rw [renT_len]; exact h s hs
/-- Whatever rises and has the renamed tuples is the renamed relation. -/
theorem ren_eq {p : List Int} {a : Nat} {ts ts' : List (List Int)} (h : Long a ts) (hp : ts'.Perm (ts.map (·.map fun x => p.getD x.toNat 0))) (hr : Rising ts') : ts' = sortR (ts.map (renT p)) := by
  have hs := sortR_ok (ren_long (p := p) h)
  refine rising_ext hr hs.1 fun x => ?_
  rw [hs.2.2 x]
  exact hp.mem_iff
theorem rel_long {size : Int} {r : Rel} (h : relB size r = true) : Long r.arity.toNat r.tuples := fun t ht => by
  have := (((relB_iff size r).1 h).2.2.2 t ht).1
  omega

theorem getD_in {p : List Int} {n : Int} (h : inB n p = true) {k : Nat} (hk : k < p.length) : okB n (p.getD k 0) = true := by
  rw [List.getD_eq_getElem?_getD, List.getElem?_eq_getElem hk]
  exact List.all_eq_true.1 h _ (List.getElem_mem hk)
theorem okB_toNat {n x : Int} (h : okB n x = true) : x.toNat < n.toNat := by have := okB_get h; omega
theorem renT_in {n : Int} {p t : List Int} (hq : permB n p = true) (h : inB n t = true) : inB n (renT p t) = true := by
  refine List.all_eq_true.2 fun x hx => ?_
  obtain ⟨y, hy, rfl⟩ := List.mem_map.1 hx
  have h1 := okB_get (List.all_eq_true.1 h y hy)
  have h2 := permB_get hq
  exact getD_in h2.2.1 (by omega)
theorem ren_mem {size : Int} {p : List Int} {r : Rel} (h : relB size r = true) (x : List Int) : x ∈ (renRel p r).tuples ↔ ∃ t ∈ r.tuples, renT p t = x := by
  show x ∈ sortR _ ↔ _
  rw [(sortR_ok (ren_long (p := p) (rel_long h))).2.2 x, List.mem_map]
theorem ren_relB {size : Int} {p : List Int} {r : Rel} (hq : permB size p = true) (h : relB size r = true) : relB size (renRel p r) = true := by
  have h' := (relB_iff size r).1 h
  have hs := sortR_ok (ren_long (p := p) (rel_long h))
  refine (relB_iff size _).2 ⟨h'.1, h'.2.1, hs.1, fun t ht => ?_⟩
  obtain ⟨s, hs, rfl⟩ := (ren_mem h t).1 ht
  have h1 := h'.2.2.2 s hs
  exact ⟨by rw [renT_len]; exact h1.1, renT_in hq h1.2⟩
theorem ren_names (p : List Int) (rs : List Rel) : (renR p rs).map (·.name.toList) = rs.map (·.name.toList) := by
  unfold renR; rw [List.map_map]; rfl
theorem ren_valid {size : Int} {rs : List Rel} {p : List Int} (hv : validB ⟨size, rs⟩ = true) (hq : permB size p = true) : validB ⟨size, renR p rs⟩ = true := by
  have h := (validB_iff size rs).1 hv
  refine (validB_iff size _).2 ⟨h.1, h.2.1, by unfold renR; simpa using h.2.2.1, fun r hr => ?_, by rw [ren_names]; exact h.2.2.2.2⟩
  obtain ⟨s, hs, rfl⟩ := List.mem_map.1 hr
  exact ren_relB hq (h.2.2.2.1 s hs)

/-- b undoes p. -/
def Undo (p b : List Int) : Prop := ∀ k : Nat, k < p.length → b.getD (p.getD k 0).toNat 0 = k
theorem renT_back {n : Int} {p b t : List Int} (hq : permB n p = true) (hu : Undo p b) (h : inB n t = true) : renT b (renT p t) = t := by
  unfold renT
  rw [List.map_map]
  refine (List.map_congr_left fun x hx => ?_).trans (List.map_id t)
  have h1 := okB_get (List.all_eq_true.1 h x hx)
  have h2 := permB_get hq
  show b.getD (p.getD x.toNat 0).toNat 0 = x
  rw [hu x.toNat (by omega)]
  omega
theorem renRel_back {n : Int} {p b : List Int} {r : Rel} (hq : permB n p = true) (hu : Undo p b) (h : relB n r = true) : renRel b (renRel p r) = r := by
  have h' := (relB_iff n r).1 h
  have e : sortR ((sortR (r.tuples.map (renT p))).map (renT b)) = r.tuples := by
    have hs := sortR_ok (ren_long (p := p) (rel_long h))
    have hs2 := sortR_ok (ren_long (p := b) hs.2.1)
    refine rising_ext hs2.1 h'.2.2.1 fun x => ?_
    rw [hs2.2.2 x, List.mem_map]
    constructor
    · rintro ⟨y, hy, rfl⟩
      rw [hs.2.2 y] at hy
      obtain ⟨z, hz, rfl⟩ := List.mem_map.1 hy
      rw [renT_back hq hu (h'.2.2.2 z hz).2]
      exact hz
    · intro hx
      refine ⟨renT p x, (hs.2.2 _).2 (List.mem_map.2 ⟨x, hx, rfl⟩), renT_back hq hu (h'.2.2.2 x hx).2⟩
  show (⟨r.name, r.arity, sortR ((sortR (r.tuples.map (renT p))).map (renT b))⟩ : Rel) = r
  rw [e]
theorem renR_back {n : Int} {p b : List Int} {rs : List Rel} (hv : validB ⟨n, rs⟩ = true) (hq : permB n p = true) (hu : Undo p b) : renR b (renR p rs) = rs := by
  have h := (validB_iff n rs).1 hv
  unfold renR
  rw [List.map_map]
  refine (List.map_congr_left fun r hr => ?_).trans (List.map_id rs)
  exact renRel_back hq hu (h.2.2.2.1 r hr)
theorem undo_permB {n : Int} {p b : List Int} (hq : permB n p = true) (hb : b.length = p.length) (hu : Undo p b) : permB n b = true := by
  obtain ⟨h1, h2, h3⟩ := permB_get hq
  have hin : ∀ x ∈ p, 0 ≤ x ∧ x.toNat < p.length := fun x hx => by
    have := okB_get (List.all_eq_true.1 h2 x hx)
    omega
  -- p is onto: its places' numbers are a rising row's members
  have honto : ∀ j : Nat, j < p.length → ∃ k : Nat, k < p.length ∧ p.getD k 0 = j := fun j hj => by
    have hnd : (p.map Int.toNat).Nodup := by
      refine List.pairwise_map.2 (List.Pairwise.imp_of_mem (fun {a c} ha hc hac e => hac ?_) h3)
      have := hin a ha
      have := hin c hc
      omega
    have hm : j ∈ p.map Int.toNat := by
      rcases Classical.em (j ∈ p.map Int.toNat) with h | h
      · exact h
      · have hle := List.Nodup.length_le_of_subset (List.nodup_cons.2 ⟨h, hnd⟩) (l₂ := List.range p.length) (fun y hy => by
          rcases List.mem_cons.1 hy with rfl | hy
          · exact List.mem_range.2 hj
          · obtain ⟨x, hx, rfl⟩ := List.mem_map.1 hy
            exact List.mem_range.2 (hin x hx).2)
        simp at hle
        omega
    obtain ⟨x, hx, he⟩ := List.mem_map.1 hm
    obtain ⟨k, hk, hkx⟩ := List.mem_iff_getElem.1 hx
    refine ⟨k, hk, ?_⟩
    rw [List.getD_eq_getElem?_getD, List.getElem?_eq_getElem hk, hkx]
    have := (hin x hx).1
    show x = j
    omega
  have hbk : ∀ j : Nat, j < b.length → ∃ k : Nat, k < p.length ∧ b.getD j 0 = k ∧ p.getD k 0 = j := fun j hj => by
    obtain ⟨k, hk, he⟩ := honto j (by omega)
    have := hu k hk
    rw [he] at this
    exact ⟨k, hk, by simpa using this, he⟩
  unfold permB
  simp only [Bool.and_eq_true, decide_eq_true_eq]
  refine ⟨⟨by omega, List.all_eq_true.2 fun x hx => ?_⟩, ?_⟩
  · obtain ⟨j, hj, rfl⟩ := List.mem_iff_getElem.1 hx
    obtain ⟨k, hk, he, -⟩ := hbk j hj
    rw [List.getD_eq_getElem?_getD, List.getElem?_eq_getElem hj] at he
    have he' : b[j] = (k : Int) := he
    rw [he']
    exact okB_true (by omega) (by omega)
  · refine List.pairwise_iff_getElem.2 fun i j hi hj hij he => ?_
    obtain ⟨k, hk, e1, e2⟩ := hbk i hi
    obtain ⟨m, hm, e3, e4⟩ := hbk j hj
    rw [List.getD_eq_getElem?_getD, List.getElem?_eq_getElem hi] at e1
    rw [List.getD_eq_getElem?_getD, List.getElem?_eq_getElem hj] at e3
    have e1' : b[i] = (k : Int) := e1
    have e3' : b[j] = (m : Int) := e3
    rw [e1', e3'] at he
    have : m = k := by omega
    subst this
    rw [e2] at e4
    omega

theorem renT_inj {n : Int} {p s t : List Int} (hq : permB n p = true) (hs : inB n s = true) (ht : inB n t = true) (h : renT p s = renT p t) : s = t := by
  obtain ⟨h1, h2, h3⟩ := permB_get hq
  have hb : ∀ u : List Int, inB n u = true → ∀ x ∈ u, 0 ≤ x ∧ x.toNat < p.length := fun u hu x hx => by
    have := okB_get (List.all_eq_true.1 hu x hx)
    omega
  exact map_inj (S := fun x => 0 ≤ x ∧ x.toNat < p.length) (fun x y hx hy he => perm_inj h3 hx hy he) s t (hb s hs) (hb t ht) h
/-- Has of the renamed is Has. -/
theorem hasE_ren {size : Int} {rs : List Rel} {p : List Int} (hv : validB ⟨size, rs⟩ = true) (hq : permB size p = true) {j : Nat} {r : Rel} (hr : rs[j]? = some r) {x : List Int} (hx : (x.length : Int) = r.arity) (hin : inB size x = true) :
    hasE ⟨size, rs⟩ r.name.toList x = (decide (x ∈ r.tuples), 0) ∧ hasE ⟨size, renR p rs⟩ r.name.toList (renT p x) = (decide (x ∈ r.tuples), 0) := by
  have hvr := (validB_iff size rs).1 hv
  have hrb := hvr.2.2.2.1 r (List.mem_of_getElem? hr)
  have hr2 : (renR p rs)[j]? = some (renRel p r) := by unfold renR; rw [List.getElem?_map, hr]; rfl
  have hf : findI r.name.toList x.length rs = j := by rw [find_name hvr.2.2.2.2 hr rfl, if_pos hx.symm]
  have hf2 : findI r.name.toList (renT p x).length (renR p rs) = j := by
    have := find_name (ar := ((renT p x).length : Int)) (nm := r.name.toList) (by rw [ren_names]; exact hvr.2.2.2.2) hr2 rfl
    rw [this, if_pos (by rw [renT_len]; exact hx.symm)]
  refine ⟨hasE_mk hv hf hr, ?_⟩
  rw [hasE_mk (ren_valid hv hq) hf2 hr2]
  congr 1
  rw [decide_eq_decide, ren_mem hrb]
  constructor
  · rintro ⟨t, ht, he⟩
    have := renT_inj hq (((relB_iff size r).1 hrb).2.2.2 t ht).2 hin he
    rwa [← this]
  · exact fun h => ⟨x, h, rfl⟩
end Sh
end Go.Proofs.YtelememdhpncgaaGreatDoor

/-
  Walk: the reference's Permute.
-/
namespace Go.Proofs.YtelememdhpncgaaGreatDoor
open Go.RowKit

/-- One relation's tuples are replaced in the copy: the copy stays the call's own. -/
theorem crels_setC {w : World} {L g n cap i : Nat} {rs : List Sh.Rel} {r r' : Sh.Rel} {v' : Value} (h : CRels w L (.slice (some ⟨g, 0, none⟩) n cap) rs) (hr : rs[i]? = some r) (hname : r'.name = r.name) (har : r'.arity = r.arity) (hz : r.name.size ≤ 140737488351232) (hv : NTups w L v' r'.tuples) :
    CRels (w.setCell ⟨g, i * 3 + 2, none⟩ v') L (.slice (some ⟨g, 0, none⟩) n cap) (rs.set i r') := by
  obtain ⟨xs, us, h1, h2, h3⟩ := h
  have hi := (List.getElem?_eq_some_iff.1 hr).1
  have hbg : n = rs.length ∧ ∃ cs, w.heap[g]? = some (.cells cs 57 (0, 0)) := by
    rcases h1.2 with ⟨h, -⟩ | ⟨g2, c2, k2, h, -, hh, -⟩
    · injection h with h _ _; cases h
    · injection h with h hn _
      have := Option.some.inj h
      injection this with this _ _
      subst this
      exact ⟨hn, _, hh⟩
  obtain ⟨rfl, cs, hcs⟩ := hbg
  have hk9 : Keeps L [3, 25] w (w.setCell ⟨g, i * 3 + 2, none⟩ v') := Keeps.setCell (p := ⟨g, i * 3 + 2, none⟩) hcs (by decide) _
  have hx9 := h1.stored (i * 3 + 2) v'
  refine ⟨_, _, by rw [List.length_set]; exact hx9.1, rcells_set h2 hr hname har v', fun j u x h1 h2' => ?_⟩
  by_cases e : j = i
  · subst e
    rw [List.getElem?_set_self (by have := h2.2.1; omega)] at h1
    rw [List.getElem?_set_self hi] at h2'
    have e1 := Option.some.inj h1
    have e2 := Option.some.inj h2'
    subst e1 e2
    exact ⟨hv.keep hk9, by rw [hname]; exact hz⟩
  · rw [List.getElem?_set_ne (fun h => e h.symm)] at h1
    rw [List.getElem?_set_ne (fun h => e h.symm)] at h2'
    exact ⟨(h3 j u x h1 h2').1.keep hk9, (h3 j u x h1 h2').2⟩

set_option maxRecDepth 100000 in
set_option maxHeartbeats 4000000 in
theorem rpermute_any (size : Int) (v : Value) (rs : List Sh.Rel) (u : Value) (p : List Int) (w : World) (B : Nat) (hB : B ≤ w.heap.size) (h : Rels w B v rs) (hp : Ints w B u p) (hvb : Sh.validB ⟨size, rs⟩ = true) (hq : Sh.permB size p = true) :
    Calls Tryz.prog 9 #[.agg #[.int .i64 size, v], u] w fun e w' => ∃ x, e = .returned (.agg #[.int .i64 size, x]) ∧ NRels w' w.heap.size x (Sh.renR p rs) ∧ Below w.heap.size w w' := by
  have h' := h
  obtain ⟨A, len, c, rfl, hlen, -⟩ := h'
  have hp' := hp
  obtain ⟨PA, PN, PC, rfl, hpn, -⟩ := hp'
  have hb2 := ((Below.refl w.heap.size w).alloc (Nat.le_refl _) (.cells #[.int .i64 size, .slice A len c] 24)).alloc (by simp) (.cells #[.int .i64 0, .slice none 0 0] 24)
  have hs := (Blk.new w 24 #[.int .i64 size, .slice A len c]).alloc (.cells #[.int .i64 0, .slice none 0 0] 24)
  have hz := Blk.new (w.alloc (.cells #[.int .i64 size, .slice A len c] 24)) 24 #[.int .i64 0, .slice none 0 0]
  rw [World.size_alloc] at hz
  have hv8 := (Sh.validB_size hvb).2.2
  simp only at hv8
  have hsmall : ∀ r ∈ rs, r.tuples.length ≤ 1000000 ∧ ∀ t ∈ r.tuples, t.length ≤ 1000000 := fun r hm => by
    obtain ⟨j, hj, rfl⟩ := List.mem_iff_getElem.1 hm
    have hs := Sh.relB_small (Sh.validB_rel hvb (List.getElem?_eq_getElem hj))
    exact ⟨by have := hs.1; omega, fun t ht => by have := hs.2 t ht; omega⟩
  have hsm2 : ∀ r ∈ rs, r.tuples.length ≤ 50000 ∧ (∀ t ∈ r.tuples, t.length ≤ 1000) ∧ Sh.Long r.arity.toNat r.tuples ∧ r.arity.toNat ≤ 1000000 := fun r hm => by
    obtain ⟨j, hj, rfl⟩ := List.mem_iff_getElem.1 hm
    have hrb := Sh.validB_rel hvb (List.getElem?_eq_getElem hj)
    have hs := Sh.relB_small hrb
    refine ⟨by have := hs.1; omega, fun t ht => by have := hs.2 t ht; omega, Sh.rel_long hrb, ?_⟩
    obtain ⟨a, b, -, e2, hb, -, -⟩ := Sh.relB_arity hrb
    omega
  have hin := Sh.perm_in hvb hq
  have hcopy := refcopy_own size (.slice A len c) rs _ w.heap.size hb2.size ((h.below (hb2.mono hB)).more hB) (by omega) hsmall
  have Hcopy := Lib.hid hcopy; clear hcopy
  have Hs := Lib.hid hs; clear hs
  have Hz := Lib.hid hz; clear hz
  have Hb2 := Lib.hid hb2; clear hb2
  have hl8 : len ≤ 8 := by omega
  have Hlen := Lib.hid hlen; clear hlen
  have Hpn := Lib.hid hpn; clear hpn
  have Hin := Lib.hid hin; clear hin
  have Hsm := Lib.hid hsm2; clear hsm2 hsmall hvb hq hv8
  go_enter Tryz.func9, Tryz.ntmps9
  go_wp2_with (go_at_call 13
               refine Hcopy.out.mono ?_
               rintro e w3 ⟨x, rfl, hcr, hb3⟩
               obtain ⟨XA, XC, rfl⟩ : ∃ A c, x = .slice A rs.length c := by obtain ⟨xs0, vs0, hox, -⟩ := hcr; exact own_slice hox
               have Hcr := Lib.hid hcr; clear hcr
               have hb4 := (Hb2.out.trans (hb3.mono Hb2.out.size))
               have hs3 := Hs.out.below hb3 Hs.out.lt
               have hz3 := Hz.out.below hb3 Hz.out.lt
               have hs4 := hs3.alloc (.cells #[.int .i64 size, .slice XA rs.length XC] 24)
               have hz4 := hz3.alloc (.cells #[.int .i64 size, .slice XA rs.length XC] 24)
               have hg4 := Blk.new w3 24 #[.int .i64 size, .slice XA rs.length XC]
               have Hb4 := Lib.hid (hb4.alloc hb4.size (.cells #[.int .i64 size, .slice XA rs.length XC] 24))
               have Hcr4 := Lib.hid (Hcr.out.keep (Keeps.alloc _ _ w3 (.cells #[.int .i64 size, .slice XA rs.length XC] 24)))
               have Hs4 := Lib.hid hs4
               have Hz4 := Lib.hid hz4
               have Hg4 := Lib.hid hg4
               have hw3 : w.heap.size + 2 ≤ w3.heap.size := by have := hb3.size; simpa using this
               clear hb3 hb4 hs3 hz3 hs4 hz4 hg4)
  go_loopw [6] (fun i wr => ∃ k : Nat, k ≤ len ∧ i = .int .i64 k ∧ CRels wr (w.heap.size + 2) (.slice XA rs.length XC) (Sh.midR p rs k) ∧ Blk wr w.heap.size 24 #[.int .i64 size, .slice A len c] ∧
      Blk wr (w.heap.size + 1) 24 #[.int .i64 0, .slice none 0 0] ∧ Blk wr w3.heap.size 24 #[.int .i64 size, .slice XA rs.length XC] ∧ Below w.heap.size w wr) (fun i _ => len - (intOf i).toNat)
  case atStart =>
    refine ⟨0, Nat.zero_le _, rfl, ?_, Hs4.out, Hz4.out, Hg4.out, Hb4.out⟩
    rw [Sh.midR_zero]
    have hcr := Hcr4.out
    simpa using hcr
  case round =>
    obtain ⟨k, hk, rfl, hcr, hs5, hz5, hg5, hbel⟩ := hrel
    have Hcr5 := Lib.hid hcr; clear hcr
    have Hz5 := Lib.hid hz5; clear hz5
    have Hg5 := Lib.hid hg5; clear hg5
    have hs51 : wr.cell? ⟨w.heap.size, 1, none⟩ = some (.slice A len c) := hs5.cell 1
    have Hs5 := Lib.hid hs5; clear hs5
    by_cases hlt : k < len
    · obtain ⟨ad, u5, r, rfl, hba, hr, -, -, d2, htu, hnz⟩ := (h.below (hbel.mono hB)).at_ hlt
      have htu' := htu
      obtain ⟨TA, TN, TC, rfl, htn, -, -⟩ := htu'
      obtain ⟨hsm1, hsm3, hsm4, hsm5⟩ := Hsm.out r (List.mem_of_getElem? hr)
      have htn5 : TN ≤ 50000 := by omega
      have hrin := Hin.out r (List.mem_of_getElem? hr)
      have Htn := Lib.hid htn; clear htn
      have Hr := Lib.hid hr; clear hr
      have Hsm3 := Lib.hid hsm3; clear hsm3
      have Hsm4 := Lib.hid hsm4; clear hsm4
      have Hrin := Lib.hid hrin; clear hrin
      have hbz0 := hbel.size
      have hwz : w.heap.size < wr.heap.size := Hs5.out.lt
      have htu0 : Tups wr w.heap.size (.slice TA TN TC) r.tuples := htu.more hB
      have Htu0 := Lib.hid htu0; clear htu0
      obtain ⟨w4, rfl⟩ : ∃ x, x = wr := ⟨_, rfl⟩
      go_wp2
      go_loopw [7, 8] (fun v i w5 => ∃ (m : Nat) (us : List Value), m ≤ TN ∧ i = .int .i64 m ∧ us.length = m ∧ w5.ownsRow w4.heap.size 25 1 v m us ∧ Elems w5 w4.heap.size us ((r.tuples.take m).map (Sh.renT p)) ∧ Below w4.heap.size w4 w5) (fun _ i _ => TN - (intOf i).toNat)
      case atStart => exact ⟨0, [], Nat.zero_le _, rfl, rfl, World.ownsRow_nil _ _ _ _, (fun j x y h => by simp at h), Below.refl _ _⟩
      case round =>
        obtain ⟨m, us, hm, rfl, hul, hown, hel, hb5⟩ := hrel
        clear hs51
        obtain ⟨VA, VC, rfl⟩ := own_slice hown
        have Hown := Lib.hid hown; clear hown
        have Hul := Lib.hid hul; clear hul
        have Hel := Lib.hid hel; clear hel
        obtain ⟨w5, rfl⟩ : ∃ x, x = wr := ⟨_, rfl⟩
        have hbw : Below w.heap.size w w5 := hbel.trans (hb5.mono hbz0)
        have hbz := hb5.size
        have hs1 : w5.cell? ⟨w.heap.size, 1, none⟩ = some (.slice (some ad) len c) := (hb5.cell (p := ⟨w.heap.size, 1, none⟩) hwz).trans (Hs5.out.cell 1)
        have e2 : w5.cell? ⟨(ad.add (k * 3)).block, (ad.add (k * 3)).off + 2, none⟩ = some (.slice TA TN TC) := (hb5.cell (by show (ad.add _).block < _; rw [block_of_add]; omega)).trans d2
        by_cases hlm : m < TN
        · obtain ⟨ad4, x4, rfl, hb4, hcu, hiu⟩ := (Htu0.out.below (hb5.mono hbz0)).at_ hlm
          have hiu' := hiu
          obtain ⟨UA, UN, UC, rfl, -⟩ := hiu'
          have hts : r.tuples[m]? = some (r.tuples.getD m []) := getD_some (d := []) (by rw [← Htn.out]; exact hlm)
          generalize r.tuples.getD m [] = t at *
          have hcall := renamed_any (.slice UA UN UC) (.slice PA PN PC) t p w5 w.heap.size hbw.size hiu ((hp.below (hbw.mono hB)).more hB) (Hsm3.out t (List.mem_of_getElem? hts)) (fun x hx => by have := Hrin.out t (List.mem_of_getElem? hts) x hx; omega)
          have Hcall := Lib.hid hcall; clear hcall hiu
          have Hts := Lib.hid hts; clear hts
          go_wp2_with (first
            | (go_at_call 29
               refine Hcall.out.mono ?_
               rintro e w7 ⟨y, rfl, hy, hb7⟩
               have hy' := hy
               obtain ⟨YA, YN, YC, rfl, -⟩ := hy'
               have Hy := Lib.hid hy; clear hy
               have Hb7 := Lib.hid hb7; clear hb7)
            | (at_builtin
               refine append_tup _ rfl _ _ rfl w4.heap.size _ m us rfl (World.ownsRow.alloc (own_below Hown.out Hb7.out) _) ⟨w7.heap.size, 0, none⟩ 1 (.slice YA YN YC) rfl ((Blk.new w7 25 #[.slice YA YN YC]).cell 0) rfl (by omega) (by have := Hb7.out.size; simp; omega) ?_
               intro v8 w8 hown8 hg8))
          have hg8' : (w7.alloc (.cells #[.slice YA YN YC] 25)).grownBy w8 (Value.slice VA m VC).ownBlock := hg8
          have hb7 := Hb7.out
          have hz7 := hb7.size
          have hk8 : Keeps w4.heap.size [3] w7 w8 := (Keeps.alloc _ _ _ _).trans (Keeps.own hg8' (World.ownsRow.alloc (own_below Hown.out Hb7.out) _) (by decide))
          refine ⟨⟨m + 1, us ++ [.slice YA YN YC], by omega, by go_num, by rw [List.length_append, Hul.out]; rfl, hown8, ?_, ?_⟩, by simp [intOf]; omega⟩
          · rw [take_snoc Hts.out, List.map_append]
            exact Elems.snoc ((Hel.out.keep (Keeps.of_below hb7)).keep hk8) (by rw [Hul.out, List.length_map, List.length_take]; have := Htn.out; omega) ((Hy.out.more hbz).keep hk8)
          · exact ((hb5.trans (hb7.mono hbz)).alloc (by omega) _).grown hg8' (by simp; omega) (fun g e => (Hown.out.lt g e).1)
        · obtain rfl : m = TN := by omega
          have hel := Hel.out
          rw [List.take_of_length_le (by have := Htn.out; omega)] at hel
          have hnt : NTups w5 w4.heap.size (.slice VA m VC) (r.tuples.map (Sh.renT p)) := NTups.own Hown.out (Nat.le_refl _) (by omega) (by rw [Hul.out, List.length_map]; exact Htn.out) hel
          have Hnt := Lib.hid hnt; clear hnt hel Hel
          obtain ⟨xs1, us1, hox, hxc, hxr⟩ := Hcr5.out
          rw [Sh.midR_len] at hox
          obtain ⟨g, cap, hXA, hLg, hgl⟩ := hox.form (by have := Hlen.out; omega)
          injection hXA with hXA _ hcap
          subst hXA hcap
          have hmr := Sh.midR_at p Hr.out
          have hvl : k < us1.length := by have := hxc.2.1; rw [Sh.midR_len] at this; have := Hlen.out; omega
          obtain ⟨vi, hvi⟩ : ∃ x, us1[k]? = some x := ⟨_, List.getElem?_eq_getElem hvl⟩
          have hx2 := (hxc.2.2 k r hmr).2.2
          rw [hvi] at hx2
          have hc2 : w4.cell? ⟨g, k * 3 + 2, none⟩ = some vi := by
            have := hox.cells (g := g) rfl _ _ hx2
            rwa [Addr.add_lit, Nat.zero_add] at this
          have hgb : ∃ cs, Blk w4 g 57 cs := by
            rcases hox.2 with ⟨h, -⟩ | ⟨g2, c2, k2, h, -, hh, -⟩
            · injection h with h _ _; cases h
            · injection h with h _ _
              have := Option.some.inj h
              injection this with this _ _
              subst this
              exact ⟨_, hh⟩
          obtain ⟨cs, hgb⟩ := hgb
          have hne : g ≠ w3.heap.size := fun e => by
            have h1 := hgb
            have h2 := Hg5.out
            rw [e] at h1
            unfold Blk at h1 h2
            rw [h1] at h2
            injection h2 with h2
            injection h2 with _ h2
            exact absurd h2 (by decide)
          have Hc2 := Lib.hid hc2; clear hc2
          have Hgb := Lib.hid hgb; clear hgb
          clear hox hxc hxr hx2 hvi hmr
          have hsrt : ∀ W, Below w5.heap.size w5 W → Calls Tryz.prog 30 #[(.slice VA m VC)] W fun e w' => ∃ u, e = .returned u ∧ NTups w' W.heap.size u (Sh.sortR (r.tuples.map (Sh.renT p))) ∧ Below W.heap.size W w' := fun W hW =>
            sorted_any r.arity.toNat (.slice VA m VC) _ W w5.heap.size hW.size (Hnt.out.tups.below hW) (by rw [List.length_map]; have := Htn.out; omega) (Sh.ren_long Hsm4.out) hsm5
          have Hsrt := Lib.hid hsrt; clear hsrt
          have hbx := hb5
          have hk64 : (k : Int) < rs.length := by have := Hlen.out; omega
          go_upto_region 10 with fail
          have hG1 : w5.drew.cell? ⟨w3.heap.size, 1, none⟩ = some (.slice (some ⟨g, 0, none⟩) rs.length XC) := (hbx.cell (p := ⟨w3.heap.size, 1, none⟩) Hg5.out.lt).trans (Hg5.out.cell 1)
          go_region_law (first
            | (go_simp
               go_at_call 30
               refine (Hsrt.out _ (below_drewN (Below.refl _ _) 1)).mono ?_
               rintro e w7 ⟨y, rfl, hny, hb7⟩
               have hny' := hny
               obtain ⟨YA, YN, YC, rfl, -⟩ := hny'
               have hbw7 : Below w4.heap.size w4 w7 := hbx.drew.trans (hb7.mono hbx.size)
               have hG71 : w7.cell? ⟨w3.heap.size, 1, none⟩ = some (.slice (some ⟨g, 0, none⟩) rs.length XC) := (hbw7.cell (p := ⟨w3.heap.size, 1, none⟩) Hg5.out.lt).trans (Hg5.out.cell 1)
               have hgb7 := Hgb.out.below hbw7 Hgb.out.lt
               have hfz7 := hgb7.frozen (k * 3 + 2)
               have hcz7 : w7.cell? ⟨g, k * 3 + 2, none⟩ = some vi := (hbw7.cell (p := ⟨g, k * 3 + 2, none⟩) Hgb.out.lt).trans Hc2.out))
          all_goals
            go_wp2
            have hg9 := (Hg5.out.below hbw7 Hg5.out.lt).far (p := ⟨g, k * 3 + 2, none⟩) (fun e => hne e.symm) (.slice YA YN YC)
            have hz9 := (Hz5.out.below hbw7 Hz5.out.lt).far (p := ⟨g, k * 3 + 2, none⟩) (show w.heap.size + 1 ≠ g by omega) (.slice YA YN YC)
            have hs9 := (Hs5.out.below hbw7 Hs5.out.lt).far (p := ⟨g, k * 3 + 2, none⟩) (show w.heap.size ≠ g by omega) (.slice YA YN YC)
            have hcr9 := crels_setC (r' := Sh.renRel p r) (Hcr5.out.keep (Keeps.of_below hbw7)) (Sh.midR_at p Hr.out) rfl rfl hnz (show NTups w7 _ (.slice YA YN YC) (Sh.renRel p r).tuples from hny.more (by show _ ≤ w5.drew.heap.size; simp; omega))
            rw [Sh.midR_set p Hr.out] at hcr9
            exact ⟨⟨k + 1, by omega, by go_num, hcr9, hs9, hz9, hg9, (hbel.trans (hbw7.mono hbz0)).setCell (show w.heap.size ≤ g by omega) _⟩, by simp [intOf]; omega⟩
    · obtain rfl : k = len := by omega
      have hcr := Hcr5.out
      rw [Sh.midR_all p rs (by have := Hlen.out; omega)] at hcr
      have hnr := hcr.rels (by unfold Sh.renR; rw [List.length_map]; have := Hlen.out; omega)
      have Hnr := Lib.hid hnr; clear hnr hcr
      have hz5 := Hz5.out
      have hg0 : wr.cell? ⟨w3.heap.size, 0, none⟩ = some (.int .i64 size) := Hg5.out.cell 0
      have hg1 : wr.cell? ⟨w3.heap.size, 1, none⟩ = some (.slice XA rs.length XC) := Hg5.out.cell 1
      have q2 : wr.cell? ⟨w.heap.size + 1, 0, none⟩ = some (.int .i64 0) := hz5.cell 0
      have q3 : wr.cell? ⟨w.heap.size + 1, 1, none⟩ = some (.slice none 0 0) := hz5.cell 1
      have q4 : wr.frozen? ⟨w.heap.size + 1, 0, none⟩ = false := hz5.frozen 0
      have q5 : wr.frozen? ⟨w.heap.size + 1, 1, none⟩ = false := hz5.frozen 1
      have Hz6 := Lib.hid hz5; clear hz5
      go_wp2
      refine bodyPost_ret (v := .agg #[.int .i64 size, .slice XA rs.length XC]) (by simp [results, Tryz.results9, go_sem, q2, q3]) rfl ?_
      have hk0 : Keeps (w.heap.size + 2) [3, 25, 57] wr ((wr.setCell ⟨w.heap.size + 1, 0, none⟩ (.int .i64 size)).setCell ⟨w.heap.size + 1, 1, none⟩ (.slice XA rs.length XC)) :=
        (Keeps.setCell (p := ⟨w.heap.size + 1, 0, none⟩) Hz6.out (by decide) _).trans (Keeps.setCell (p := ⟨w.heap.size + 1, 1, none⟩) (Hz6.out.set_ _ _) (by decide) _)
      exact ⟨_, rfl, (Hnr.out.keep hk0).more (by omega), (hbel.setCell (by simp) _).setCell (by simp) _⟩

end Go.Proofs.YtelememdhpncgaaGreatDoor

/-
  Walk: the reference's Perm.
-/
namespace Go.Proofs.YtelememdhpncgaaGreatDoor
open Go.RowKit

set_option maxRecDepth 100000 in
set_option maxHeartbeats 1000000 in
theorem refperm_any (v : Value) (p : List Int) (n : Int) (w : World) (B : Nat) (h : Ints w B v p) :
    Calls Tryz.prog 8 #[.int .i64 n, v] w fun e w' => e = .returned (.bool (Sh.permB n p)) ∧ ∃ m, w' = w.drewN m := by
  have h' := h
  obtain ⟨A, len, c, rfl, hlen, hmax, -⟩ := h'
  have hel := in_any (.slice A len c) p n w B h
  by_cases h1 : (len : Int) = n
  · have h1b : ((len : Int) != n) = false := by rw [h1]; simp
    cases h2 : Sh.inB n p
    · rw [h2] at hel
      have hf : Sh.permB n p = false := by unfold Sh.permB; rw [h2]; simp
      have Hf := Lib.hid hf; clear hf
      have Hel := Lib.hid hel; clear hel
      clear hlen h1 h2
      go_enter Tryz.func8, Tryz.ntmps8
      go_wp2_with (go_at_call 28; refine Hel.out.mono ?_; rintro e w' ⟨rfl, rfl⟩)
      go_ret
      exact ⟨ret_bool Hf.out.symm, 0, rfl⟩
    · rw [h2] at hel
      have hpb : Sh.permB n p = decide p.Nodup := by unfold Sh.permB; rw [h2, ← hlen, decide_eq_true h1]; simp
      have Hpb := Lib.hid hpb; clear hpb
      have Hel := Lib.hid hel; clear hel
      have Hlen := Lib.hid hlen; clear hlen
      clear h1 h2
      go_enter Tryz.func8, Tryz.ntmps8
      go_wp2_with (go_at_call 28; refine Hel.out.mono ?_; rintro e w' ⟨rfl, rfl⟩)
      go_loopw [5] (fun i wr => ∃ k m : Nat, k ≤ len ∧ i = .int .i64 k ∧ (p.take k).Nodup ∧ wr = w.drewN m) (fun i _ => len - (intOf i).toNat)
      case atStart => exact ⟨0, 0, Nat.zero_le _, rfl, by simp, rfl⟩
      case round =>
        obtain ⟨k, m, hk, rfl, hnd, rfl⟩ := hrel
        have Hnd := Lib.hid hnd; clear hnd
        by_cases hlt : k < len
        · obtain ⟨ad, rfl, hb, c0⟩ := h.at_ hlt
          have hxs : p[k]? = some (p.getD k 0) := getD_some (d := 0) (by rw [← Hlen.out]; exact hlt)
          generalize p.getD k 0 = x at *
          have Hxs := Lib.hid hxs; clear hxs
          go_wp2
          go_loopw [6] (fun q wq => ∃ j n : Nat, j ≤ k ∧ q = .int .i64 j ∧ x ∉ p.take j ∧ wq = w.drewN n) (fun q _ => k - (intOf q).toNat)
          case atStart => exact ⟨0, m, Nat.zero_le _, rfl, by simp, rfl⟩
          case round =>
            obtain ⟨j, n, hj, rfl, hno, rfl⟩ := hrel
            have Hno := Lib.hid hno; clear hno
            by_cases hjk : j < k
            · obtain ⟨ad', hade, hb', d0⟩ := h.at_ (show j < len by omega)
              obtain rfl := Option.some.inj hade
              have hys : p[j]? = some (p.getD j 0) := getD_some (d := 0) (by rw [← Hlen.out]; omega)
              generalize p.getD j 0 = y at *
              have Hys := Lib.hid hys; clear hys hade
              cases heq : (y == x)
              · have hno' : x ∉ p.take (j + 1) := by
                  rw [take_snoc Hys.out, List.mem_append]
                  rintro (hh | hh)
                  · exact Hno.out hh
                  · rw [List.mem_singleton] at hh
                    rw [hh] at heq
                    simp at heq
                have Hno' := Lib.hid hno'; clear hno'
                go_wp2
                go_quiet (fail)
                go_wp2
                exact ⟨⟨j + 1, _, by omega, by go_num, Hno'.out, rfl⟩, by simp [intOf]; omega⟩
              · have hf : decide p.Nodup = false := by
                  rw [decide_eq_false_iff_not]
                  intro hn
                  have e : y = x := by simpa using heq
                  subst e
                  obtain ⟨hj1, e1⟩ := List.getElem?_eq_some_iff.1 Hys.out
                  obtain ⟨hk1, e2⟩ := List.getElem?_eq_some_iff.1 Hxs.out
                  exact (List.pairwise_iff_getElem.1 hn) j k hj1 hk1 hjk (e1.trans e2.symm)
                have Hf := Lib.hid hf; clear hf
                go_wp2
                go_quiet (fail)
                go_wp2
                go_ret
                exact ⟨ret_bool (by rw [Hpb.out, Hf.out]), _, World.drewN_drewN _ _ _⟩
            · obtain rfl : j = k := by omega
              have hn := (int_nodup_succ Hxs.out).2 ⟨Hnd.out, Hno.out⟩
              have Hn := Lib.hid hn; clear hn
              go_wp2
              exact ⟨⟨j + 1, _, by omega, by go_num, Hn.out, rfl⟩, by simp [intOf]; omega⟩
        · obtain rfl : k = len := by omega
          have hf : decide p.Nodup = true := by
            rw [decide_eq_true_iff]
            have := Hnd.out
            rwa [List.take_of_length_le (by rw [Hlen.out]; exact Nat.le_refl _)] at this
          have Hf := Lib.hid hf; clear hf
          go_wp2
          go_ret
          exact ⟨ret_bool (by rw [Hpb.out, Hf.out]), _, rfl⟩
  · have h1b : ((len : Int) != n) = true := by rw [bne_iff_ne]; exact h1
    have hf : Sh.permB n p = false := by unfold Sh.permB; rw [← hlen, decide_eq_false h1]; simp
    have Hf := Lib.hid hf; clear hf hel
    clear hlen h1
    go_enter Tryz.func8, Tryz.ntmps8
    go_wp2
    go_ret
    exact ⟨ret_bool Hf.out.symm, 0, rfl⟩

end Go.Proofs.YtelememdhpncgaaGreatDoor

/-
  Walk: shape.Permute, where it refuses.
-/
namespace Go.Proofs.YtelememdhpncgaaGreatDoor
open Go.RowKit

set_option maxRecDepth 100000 in
set_option maxHeartbeats 400000 in
theorem permute_bad (size : Int) (v : Value) (rs : List Sh.Rel) (u : Value) (p : List Int) (w : World) (B : Nat) (hB : B ≤ w.heap.size) (h : Rels w B v rs) (hp : Ints w B u p) (hv : Sh.validB ⟨size, rs⟩ = false) :
    Calls Tryz.prog 10 #[.agg #[.int .i64 size, v], u] w fun e w' => e = .returned (.tuple #[.agg #[.int .i64 0, .slice none 0 0], .int .i64 1]) ∧ Below w.heap.size w w' := by
  have h' := h
  obtain ⟨A, len, c, rfl, -⟩ := h'
  have hp' := hp
  obtain ⟨PA, PN, PC, rfl, -⟩ := hp'
  have hb2 := ((Below.refl w.heap.size w).alloc (Nat.le_refl _) (.cells #[.int .i64 size, .slice A len c] 24)).alloc (by simp) (.cells #[.int .i64 0, .slice none 0 0] 24)
  have hcall := fun W (hW : Below w.heap.size w W) => valid_any size (.slice A len c) rs W B (Nat.le_trans hB hW.size) (h.below (hW.mono hB))
  rw [hv] at hcall
  have hz := Blk.new (w.alloc (.cells #[.int .i64 size, .slice A len c] 24)) 24 #[.int .i64 0, .slice none 0 0]
  rw [World.size_alloc] at hz
  have Hcall := Lib.hid hcall; clear hcall
  have Hz := Lib.hid hz; clear hz
  have Hb2 := Lib.hid hb2; clear hb2
  clear hv
  go_enter Tryz.func10, Tryz.ntmps10
  go_wp2_with (go_at_call 31
               refine (Hcall.out _ Hb2.out).mono ?_
               rintro e w9 ⟨rfl, hb9⟩
               have hz9 := Hz.out.below hb9 (by simp)
               have hzc0 : w9.cell? ⟨w.heap.size + 1, 0, none⟩ = some (.int .i64 0) := hz9.cell 0
               have hzc1 : w9.cell? ⟨w.heap.size + 1, 1, none⟩ = some (.slice none 0 0) := hz9.cell 1
               have hzf0 := hz9.frozen 0
               have hzf1 := hz9.frozen 1)
  refine bodyPost_ret (v := .tuple #[.agg #[.int .i64 0, .slice none 0 0], .int .i64 1]) (by simp [results, Tryz.results10, go_sem, hzc0, hzc1]) rfl ?_
  exact ⟨rfl, ((Hb2.out.trans (hb9.mono (by simp; omega))).setCell (by simp) _).setCell (by simp) _⟩

set_option maxRecDepth 100000 in
set_option maxHeartbeats 400000 in
theorem permute_arg (size : Int) (v : Value) (rs : List Sh.Rel) (u : Value) (p : List Int) (w : World) (B : Nat) (hB : B ≤ w.heap.size) (h : Rels w B v rs) (hp : Ints w B u p) (hv : Sh.validB ⟨size, rs⟩ = true) (hq : Sh.permB size p = false) :
    Calls Tryz.prog 10 #[.agg #[.int .i64 size, v], u] w fun e w' => e = .returned (.tuple #[.agg #[.int .i64 0, .slice none 0 0], .int .i64 2]) ∧ Below w.heap.size w w' := by
  have h' := h
  obtain ⟨A, len, c, rfl, -⟩ := h'
  have hp' := hp
  obtain ⟨PA, PN, PC, rfl, -⟩ := hp'
  have hsz := (Sh.validB_size hv).2.1
  simp only at hsz
  have hb2 := ((Below.refl w.heap.size w).alloc (Nat.le_refl _) (.cells #[.int .i64 size, .slice A len c] 24)).alloc (by simp) (.cells #[.int .i64 0, .slice none 0 0] 24)
  have hcall := fun W (hW : Below w.heap.size w W) => valid_any size (.slice A len c) rs W B (Nat.le_trans hB hW.size) (h.below (hW.mono hB))
  rw [hv] at hcall
  have hperm := fun W (hW : Below w.heap.size w W) => permutes_any (.slice PA PN PC) p size W B (Nat.le_trans hB hW.size) (hp.below (hW.mono hB)) hsz
  rw [hq] at hperm
  have hs := (Blk.new w 24 #[.int .i64 size, .slice A len c]).alloc (.cells #[.int .i64 0, .slice none 0 0] 24)
  have hz := Blk.new (w.alloc (.cells #[.int .i64 size, .slice A len c] 24)) 24 #[.int .i64 0, .slice none 0 0]
  rw [World.size_alloc] at hz
  have Hcall := Lib.hid hcall; clear hcall
  have Hperm := Lib.hid hperm; clear hperm
  have Hs := Lib.hid hs; clear hs
  have Hz := Lib.hid hz; clear hz
  have Hb2 := Lib.hid hb2; clear hb2
  clear hv hq hsz
  go_enter Tryz.func10, Tryz.ntmps10
  go_wp2_with (first
    | (go_at_call 31
       refine (Hcall.out _ Hb2.out).mono ?_
       rintro e w9 ⟨rfl, hb9⟩
       have hz9 := Hz.out.below hb9 (by simp)
       have hs9 := Hs.out.below hb9 (by simp; omega)
       have hs0 : w9.cell? ⟨w.heap.size, 0, none⟩ = some (.int .i64 size) := hs9.cell 0
       have Hz9 := Lib.hid hz9
       have Hb9 := Lib.hid (Hb2.out.trans (hb9.mono (by simp; omega)))
       clear hb9 hz9)
    | (go_at_call 32
       refine (Hperm.out _ Hb9.out).mono ?_
       rintro e w8 ⟨rfl, hb8⟩
       have hz8 := Hz9.out.below hb8 Hz9.out.lt
       have hzc0 : w8.cell? ⟨w.heap.size + 1, 0, none⟩ = some (.int .i64 0) := hz8.cell 0
       have hzc1 : w8.cell? ⟨w.heap.size + 1, 1, none⟩ = some (.slice none 0 0) := hz8.cell 1
       have hzf0 := hz8.frozen 0
       have hzf1 := hz8.frozen 1))
  refine bodyPost_ret (v := .tuple #[.agg #[.int .i64 0, .slice none 0 0], .int .i64 2]) (by simp [results, Tryz.results10, go_sem, hzc0, hzc1]) rfl ?_
  exact ⟨rfl, ((Hb9.out.trans (hb8.mono Hb9.out.size)).setCell (by simp) _).setCell (by simp) _⟩

end Go.Proofs.YtelememdhpncgaaGreatDoor

/-
  Walk: shape.copyRel, once more: what it says of the tuples' own blocks.
-/
namespace Go.Proofs.YtelememdhpncgaaGreatDoor
open Go.RowKit

/-- A tuple in a row of its own. -/
def OInts (w : World) (L : Nat) (v : Value) (t : List Int) : Prop := ∃ A n c, v = .slice A n c ∧ n = t.length ∧ w.ownsRow L 3 1 v n (t.map (Value.int .i64))
theorem OInts.keep {w w' : World} {L : Nat} {v : Value} {t : List Int} (h : OInts w L v t) (hk : Keeps L [3] w w') : OInts w' L v t := by
  obtain ⟨A, n, c, h1, h2, h3⟩ := h
  exact ⟨A, n, c, h1, h2, own_keeps h3 hk (Nat.le_refl _) (by simp)⟩
theorem OInts.more {w : World} {L L' : Nat} {v : Value} {t : List Int} (h : OInts w L v t) (hL : L' ≤ L) : OInts w L' v t := by
  obtain ⟨A, n, c, h1, h2, h3⟩ := h
  exact ⟨A, n, c, h1, h2, own_base h3 hL⟩
theorem OInts.ints {w : World} {L : Nat} {v : Value} {t : List Int} (h : OInts w L v t) (ht : t.length ≤ 1000000) : NInts w L v t := by
  obtain ⟨A, n, c, h1, h2, h3⟩ := h
  exact NInts.own h3 (Nat.le_refl _) (by omega)
theorem OInts.lt {w : World} {L g : Nat} {v : Value} {t : List Int} (h : OInts w L v t) (hg : v.ownBlock = some g) : L ≤ g ∧ g < w.heap.size := by
  obtain ⟨A, n, c, h1, h2, h3⟩ := h
  exact h3.lt g hg
/-- The values are tuples in rows of their own. -/
def OElems (w : World) (L : Nat) (us : List Value) (ts : List (List Int)) : Prop := ∀ (j : Nat) (u : Value) (t : List Int), us[j]? = some u → ts[j]? = some t → OInts w L u t
theorem OElems.keep {w w' : World} {L : Nat} {us : List Value} {ts : List (List Int)} (h : OElems w L us ts) (hk : Keeps L [3] w w') : OElems w' L us ts := fun j u t h1 h2 => (h j u t h1 h2).keep hk
theorem OElems.elems {w : World} {L : Nat} {us : List Value} {ts : List (List Int)} (h : OElems w L us ts) (ht : ∀ t ∈ ts, t.length ≤ 1000000) : Elems w L us ts := fun j u t h1 h2 => (h j u t h1 h2).ints (ht t (List.mem_of_getElem? h2))
theorem OElems.snoc {w : World} {L : Nat} {us : List Value} {ts : List (List Int)} (h : OElems w L us ts) (hl : us.length = ts.length) {u : Value} {t : List Int} (hu : OInts w L u t) : OElems w L (us ++ [u]) (ts ++ [t]) := by
  intro j u' t' h1 h2
  by_cases hj : j < us.length
  · rw [List.getElem?_append_left hj] at h1
    rw [List.getElem?_append_left (by omega)] at h2
    exact h j u' t' h1 h2
  · have hjl : j < (us ++ [u]).length := (List.getElem?_eq_some_iff.1 h1).1
    rw [List.length_append, List.length_singleton] at hjl
    obtain rfl : j = us.length := by omega
    rw [List.getElem?_append_right (by omega), Nat.sub_self] at h1
    rw [List.getElem?_append_right (by omega), hl, Nat.sub_self] at h2
    obtain rfl : u = u' := by simpa using h1
    obtain rfl : t = t' := by simpa using h2
    exact hu

/-- The values' own blocks are pairwise distinct, and lie from lo on, below hi. -/
def Apart (us : List Value) (lo hi : Nat) : Prop := (us.filterMap Value.ownBlock).Nodup ∧ ∀ g ∈ us.filterMap Value.ownBlock, lo ≤ g ∧ g < hi
theorem Apart.nil (lo hi : Nat) : Apart [] lo hi := ⟨List.nodup_nil, fun g h => by cases h⟩
theorem Apart.mono {us : List Value} {lo hi lo' hi' : Nat} (h : Apart us lo hi) (h1 : lo' ≤ lo) (h2 : hi ≤ hi') : Apart us lo' hi' := ⟨h.1, fun g hg => by have := h.2 g hg; omega⟩
theorem Apart.perm {us us' : List Value} {lo hi : Nat} (h : Apart us lo hi) (hp : us'.Perm us) : Apart us' lo hi :=
  have hq := hp.filterMap Value.ownBlock
  ⟨hq.nodup_iff.2 h.1, fun g hg => h.2 g (hq.mem_iff.1 hg)⟩
theorem Apart.snoc {us : List Value} {lo hi hi' : Nat} (h : Apart us lo hi) (h1 : lo ≤ hi) (h2 : hi ≤ hi') {u : Value} (hu : ∀ g, u.ownBlock = some g → hi ≤ g ∧ g < hi') : Apart (us ++ [u]) lo hi' := by
  unfold Apart
  rw [List.filterMap_append]
  cases ho : u.ownBlock with
  | none => 
    rw [show List.filterMap Value.ownBlock [u] = [] by simp [ho], List.append_nil]
    exact h.mono (Nat.le_refl _) h2
  | some g =>
    have hg := hu g ho
    rw [show List.filterMap Value.ownBlock [u] = [g] by simp [ho]]
    refine ⟨List.nodup_append.2 ⟨h.1, (by simp), fun a ha b hb => ?_⟩, fun a ha => ?_⟩
    · have := (h.2 a ha).2
      rw [List.mem_singleton] at hb
      omega
    · rcases List.mem_append.1 ha with ha | ha
      · have := h.2 a ha; omega
      · rw [List.mem_singleton] at ha; omega

set_option maxRecDepth 100000 in
set_option maxHeartbeats 400000 in
theorem copytuple_own (v : Value) (t : List Int) (w : World) (B : Nat) (hB : B ≤ w.heap.size) (h : Ints w B v t) (ht : t.length ≤ 1000000) :
    Calls Tryz.prog 41 #[v] w fun e w' => ∃ u, e = .returned u ∧ OInts w' w.heap.size u t ∧ Below w.heap.size w w' := by
  go_enter Tryz.func41, Tryz.ntmps41
  go_wp2_with (at_builtin; refine append_ints _ rfl _ _ rfl w.heap.size _ 0 [] rfl (own_empty w 3 1) B v t rfl (h.below (((Below.refl _ _).alloc (Nat.le_refl _) _).mono hB)) (by omega) ht (by simp) ?_; intro v' w' hown hg)
  go_ret
  have hown' : w'.ownsRow w.heap.size 3 1 v' t.length (t.map (Value.int .i64)) := by simpa using hown
  obtain ⟨A, c, rfl⟩ := own_slice hown'
  refine ⟨_, rfl, ⟨A, t.length, c, rfl, rfl, hown'⟩, ?_⟩
  exact ((Below.refl _ _).alloc (Nat.le_refl _) _).grown hg (by simp) (fun g e => Nat.le_of_eq (Option.some.inj (show some w.heap.size = some g from e)))

set_option maxRecDepth 100000 in
set_option maxHeartbeats 400000 in
theorem copyrel_apart (r : Sh.Rel) (v : Value) (w : World) (B : Nat) (hB : B ≤ w.heap.size) (h : Tups w B v r.tuples) (hl : r.tuples.length ≤ 1000000) (ht : ∀ t ∈ r.tuples, t.length ≤ 1000000) :
    Calls Tryz.prog 44 #[.agg #[.string r.name, .int .i64 r.arity, v]] w fun e w' => ∃ (u : Value) (us : List Value), e = .returned (.agg #[.string r.name, .int .i64 r.arity, u]) ∧ us.length = r.tuples.length ∧ w'.ownsRow w.heap.size 25 1 u r.tuples.length us ∧ OElems w' w.heap.size us r.tuples ∧ Below w.heap.size w w' ∧ Apart us w.heap.size w'.heap.size := by
  obtain ⟨name, arity, ts⟩ := r
  simp only at h hl ht ⊢
  have h' := h
  obtain ⟨A, len, c, rfl, hlen, -⟩ := h'
  have hcall := fun (W : World) (u : Value) (t : List Int) (hu : Ints W B u t) (hW : B ≤ W.heap.size) (hm : t ∈ ts) => copytuple_own u t W B hW hu (ht t hm)
  have Hcall := Lib.hid hcall; clear hcall
  have Hlen := Lib.hid hlen; clear hlen
  have hl' : len ≤ 1000000 := by rw [Hlen.out]; exact hl
  clear hl ht
  go_enter Tryz.func44, Tryz.ntmps44
  go_wp2
  have hb3 : Below w.heap.size w (((w.alloc (.cells #[.string name, .int .i64 arity, .slice A len c] 57)).alloc (.cells #[.string ⟨#[]⟩, .int .i64 0, .slice none 0 0] 57)).alloc (.cells #[.string name, .int .i64 arity, .slice none 0 0] 57)) :=
    (((Below.refl _ _).alloc (Nat.le_refl _) _).alloc (by simp) _).alloc (by simp; omega) _
  have hz3 : Blk (((w.alloc (.cells #[.string name, .int .i64 arity, .slice A len c] 57)).alloc (.cells #[.string ⟨#[]⟩, .int .i64 0, .slice none 0 0] 57)).alloc (.cells #[.string name, .int .i64 arity, .slice none 0 0] 57)) (w.heap.size + 1) 57 #[.string ⟨#[]⟩, .int .i64 0, .slice none 0 0] := by
    have := Blk.new (w.alloc (.cells #[.string name, .int .i64 arity, .slice A len c] 57)) 57 #[.string ⟨#[]⟩, .int .i64 0, .slice none 0 0]
    rw [World.size_alloc] at this
    exact this.alloc _
  have hc3 : Blk (((w.alloc (.cells #[.string name, .int .i64 arity, .slice A len c] 57)).alloc (.cells #[.string ⟨#[]⟩, .int .i64 0, .slice none 0 0] 57)).alloc (.cells #[.string name, .int .i64 arity, .slice none 0 0] 57)) (w.heap.size + 1 + 1) 57 #[.string name, .int .i64 arity, .slice none 0 0] := by
    have := Blk.new ((w.alloc (.cells #[.string name, .int .i64 arity, .slice A len c] 57)).alloc (.cells #[.string ⟨#[]⟩, .int .i64 0, .slice none 0 0] 57)) 57 #[.string name, .int .i64 arity, .slice none 0 0]
    rw [World.size_alloc, World.size_alloc] at this
    exact this
  generalize ((w.alloc (.cells #[.string name, .int .i64 arity, .slice A len c] 57)).alloc (.cells #[.string ⟨#[]⟩, .int .i64 0, .slice none 0 0] 57)).alloc (.cells #[.string name, .int .i64 arity, .slice none 0 0] 57) = W3 at *
  go_loopw [14] (fun i wr => ∃ (k : Nat) (tv : Value) (us : List Value), k ≤ len ∧ i = .int .i64 k ∧ us.length = k ∧ Blk wr (w.heap.size + 1) 57 #[.string ⟨#[]⟩, .int .i64 0, .slice none 0 0] ∧
      Blk wr (w.heap.size + 1 + 1) 57 #[.string name, .int .i64 arity, tv] ∧ wr.ownsRow (w.heap.size + 3) 25 1 tv k us ∧ OElems wr (w.heap.size + 3) us (ts.take k) ∧ Below w.heap.size w wr ∧ Apart us w.heap.size wr.heap.size) (fun i _ => len - (intOf i).toNat)
  case atStart => exact ⟨0, .slice none 0 0, [], Nat.zero_le _, rfl, rfl, hz3, hc3, World.ownsRow_nil _ _ _ _, (fun j u t h => by simp at h), hb3, Apart.nil _ _⟩
  case round =>
    obtain ⟨k, tv, us, hk, rfl, hus, hz, hc, hown, hel, hbel, hap⟩ := hrel
    clear hb3 hz3 hc3
    have Hown := Lib.hid hown; clear hown
    obtain ⟨TA, TC, rfl⟩ := own_slice Hown.out
    have hlt3 := hc.lt
    have Hus := Lib.hid hus; clear hus
    by_cases hlt : k < len
    · obtain ⟨ad, u, rfl, hb, hcu, hiu⟩ := (h.below (hbel.mono hB)).at_ hlt
      have hiu' := hiu
      obtain ⟨UA, UN, UC, rfl, -⟩ := hiu'
      have hts : ts[k]? = some (ts.getD k []) := getD_some (by rw [← Hlen.out]; exact hlt)
      have Hts := Lib.hid hts; clear hts
      have hcl2 : wr.drew.cell? ⟨w.heap.size + 1 + 1, 2, none⟩ = some (.slice TA k TC) := hc.cell 2
      have hiud : Ints wr.drew B (.slice UA UN UC) (ts.getD k []) := hiu
      have hbelz : w.heap.size ≤ wr.heap.size := hbel.size
      go_wp2
      go_region_law (first
        | (go_simp
           go_at_call 41
           refine (Hcall.out _ _ _ hiud (by simp; omega) (List.mem_of_getElem? Hts.out)).mono ?_
           rintro e w7 ⟨x, rfl, hni, hb7⟩
           have hni' := hni
           obtain ⟨XA, XN, XC, rfl, -⟩ := hni'
           have hc7 := (Blk.drew hc).below hb7 (by simp; omega)
           have hcc7 : w7.cell? ⟨w.heap.size + 1 + 1, 2, none⟩ = some (.slice TA k TC) := hc7.cell 2
           have hcc7' : (w7.alloc (.cells #[.slice XA XN XC] 25)).cell? ⟨w.heap.size + 1 + 1, 2, none⟩ = some (.slice TA k TC) := (Blk.alloc hc7 _).cell 2
           have hown7 : (w7.alloc (.cells #[.slice XA XN XC] 25)).ownsRow (w.heap.size + 3) 25 1 (.slice TA k TC) k us := World.ownsRow.alloc (own_below (w := wr.drew) Hown.out hb7) _)
        | (refine step_append_tup _ rfl _ _ rfl (w.heap.size + 3) _ k us rfl hown7 ⟨w7.heap.size, 0, none⟩ 1 (.slice XA XN XC) rfl ((Blk.new w7 25 #[.slice XA XN XC]).cell 0) rfl (by omega) (by have := hb7.size; simp at this ⊢; omega) ?_
           intro v8 w8 hown8 hg8
           obtain ⟨VA, VC, rfl⟩ := own_slice hown8
           have hc8 : Blk w8 (w.heap.size + 1 + 1) 57 #[.string name, .int .i64 arity, .slice TA k TC] := Blk.grown (Blk.alloc hc7 _) hg8 (fun e => by have := (hown7.lt _ e.symm).1; omega)
           have hcc8 : w8.cell? ⟨w.heap.size + 1 + 1, 2, none⟩ = some (.slice TA k TC) := hc8.cell 2
           have hcf8 := hc8.frozen 2))
      all_goals
        go_wp2
        have hs7 : wr.heap.size ≤ w7.heap.size := hb7.size
        have hg8' : (w7.alloc (.cells #[.slice XA XN XC] 25)).grownBy w8 (Value.slice TA k TC).ownBlock := hg8
        have hbase : ∀ g, (Value.slice TA k TC).ownBlock = some g → w.heap.size + 3 ≤ g := fun g e => (hown7.lt g e).1
        have hk7 : Keeps (w.heap.size + 3) [3] w7 (w8.setCell ⟨w.heap.size + 1 + 1, 2, none⟩ (.slice VA (k + 1) VC)) :=
          (Keeps.alloc _ _ _ _).trans ((Keeps.own hg8' hown7 (by decide)).trans (Keeps.setCell (p := ⟨w.heap.size + 1 + 1, 2, none⟩) hc8 (by decide) _))
        refine ⟨⟨k + 1, .slice VA (k + 1) VC, us ++ [.slice XA XN XC], by omega, by go_num, by rw [List.length_append, Hus.out]; rfl, ?_, hc8.set_ 2 _, own_set hown8 (show w.heap.size + 1 + 1 < w.heap.size + 3 by omega) _, ?_, ?_, ?_⟩, by simp [intOf]; omega⟩
        · exact Blk.far (Blk.grown (Blk.alloc ((Blk.drew hz).below hb7 (by simp; omega)) _) hg8' (fun e => by have := hbase _ e.symm; omega)) (by simp) _
        · rw [take_snoc Hts.out]
          exact OElems.snoc ((hel.keep ((Keeps.drewN _ _ wr 1).trans (Keeps.of_below hb7))).keep hk7) (by rw [Hus.out, List.length_take]; have := Hlen.out; omega) ((hni.more (by simp; omega)).keep hk7)
        · exact ((((hbel.drew).trans (hb7.mono hbelz)).alloc (by omega) _).grown hg8' (by simp; omega) (fun g e => by have := hbase g e; omega)).setCell (show w.heap.size ≤ w.heap.size + 1 + 1 by omega) _
        · have hs8 := hg8'.size
          rw [World.size_alloc] at hs8
          rw [World.size_setCell]
          refine hap.snoc (by omega) (by omega) fun g hg => ?_
          have h9 := hni.lt hg
          have h10 : wr.drew.heap.size = wr.heap.size := rfl
          omega
    · have hkl : k = len := by omega
      subst hkl
      have htk : ts.take k = ts := List.take_of_length_le (by have := Hlen.out; omega)
      rw [htk] at hel
      have hcc0 : wr.cell? ⟨w.heap.size + 1 + 1, 0, none⟩ = some (.string name) := hc.cell 0
      have hcc1 : wr.cell? ⟨w.heap.size + 1 + 1, 1, none⟩ = some (.int .i64 arity) := hc.cell 1
      have hcc2 : wr.cell? ⟨w.heap.size + 1 + 1, 2, none⟩ = some (.slice TA k TC) := hc.cell 2
      have hzc0 : wr.cell? ⟨w.heap.size + 1, 0, none⟩ = some (.string ⟨#[]⟩) := hz.cell 0
      have hzc1 : wr.cell? ⟨w.heap.size + 1, 1, none⟩ = some (.int .i64 0) := hz.cell 1
      have hzc2 : wr.cell? ⟨w.heap.size + 1, 2, none⟩ = some (.slice none 0 0) := hz.cell 2
      have hzf0 := hz.frozen 0
      have hzf1 := hz.frozen 1
      have hzf2 := hz.frozen 2
      have Hel := Lib.hid hel; clear htk hel
      go_wp2
      refine bodyPost_ret (v := .agg #[.string name, .int .i64 arity, .slice TA k TC]) (by simp [results, Tryz.results44, go_sem, hzc0, hzc1, hzc2]) rfl ?_
      have hk0 : Keeps (w.heap.size + 3) [3] wr (((wr.setCell ⟨w.heap.size + 1, 0, none⟩ (.string name)).setCell ⟨w.heap.size + 1, 1, none⟩ (.int .i64 arity)).setCell ⟨w.heap.size + 1, 2, none⟩ (.slice TA k TC)) :=
        (Keeps.setCell (p := ⟨w.heap.size + 1, 0, none⟩) hz (by decide) _).trans ((Keeps.setCell (p := ⟨w.heap.size + 1, 1, none⟩) (hz.set_ _ _) (by decide) _).trans (Keeps.setCell (p := ⟨w.heap.size + 1, 2, none⟩) ((hz.set_ _ _).set_ _ _) (by decide) _))
      have hlk : k = ts.length := Hlen.out
      refine ⟨_, us, rfl, by rw [Hus.out]; exact hlk, ?_, fun j x t h1 h2 => (Hel.out.keep hk0 j x t h1 h2).more (by omega), ?_, ?_⟩
      · have ho := own_set (own_set (own_set Hown.out (p := ⟨w.heap.size + 1, 0, none⟩) (show w.heap.size + 1 < w.heap.size + 3 by omega) (.string name)) (p := ⟨w.heap.size + 1, 1, none⟩) (show w.heap.size + 1 < w.heap.size + 3 by omega) (.int .i64 arity)) (p := ⟨w.heap.size + 1, 2, none⟩) (show w.heap.size + 1 < w.heap.size + 3 by omega) (.slice TA k TC)
        rw [← hlk]
        exact own_base ho (by omega)
      · exact ((hbel.setCell (by simp) _).setCell (by simp) _).setCell (by simp) _
      · rw [World.size_setCell, World.size_setCell, World.size_setCell]; exact hap

end Go.Proofs.YtelememdhpncgaaGreatDoor
