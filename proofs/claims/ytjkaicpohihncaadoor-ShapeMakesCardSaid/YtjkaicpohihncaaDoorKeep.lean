/-
  Walk: shape.Keep.
-/
import Derived.Test.YtjkaicpohihncaaDoorRkeep
import Derived.Test.YtjkaicpohihncaaDoorFind
import Derived.Test.YtjkaicpohihncaaDoorCopyof
namespace Go.Proofs.YtjkaicpohihncaaDoor
open Go.RowKit
open Go.Maps (Keyed)
open Go.ChangeMaps Go.MapKept

theorem nameSet_tidy : ∀ l : List (List UInt8), Go.Maps.Tidy (nameSet l) := by
  have : ∀ (l : List (List UInt8)) (D : DataW Unit), Go.Maps.Tidy D → Go.Maps.Tidy (l.foldl (fun D s => D.put (.string s) (.lit (.bool true))) D) := by
    intro l
    induction l with
    | nil => intro D h; exact h
    | cons x l ih => intro D h; exact ih _ (h.put (by trivial) _)
  exact fun l => this l _ Go.Maps.tidy_empty
theorem nameSet_has (s : List UInt8) : ∀ l : List (List UInt8), Go.Maps.has (nameSet l) (.string s) = l.contains s := by
  have : ∀ (l : List (List UInt8)) (D : DataW Unit), Go.Maps.IsMap D → Go.Maps.has (l.foldl (fun D s => D.put (.string s) (.lit (.bool true))) D) (.string s) = (Go.Maps.has D (.string s) || l.contains s) := by
    intro l
    induction l with
    | nil => intro D _; simp
    | cons x l ih =>
      intro D h
      rw [List.foldl_cons, ih _ (h.put _ _), List.contains_cons]
      by_cases hx : s = x
      · subst hx
        rw [Go.Maps.has_put_same h (by trivial)]
        simp
      · rw [Go.Maps.has_put_other (by intro e; injection e with e; exact hx e)]
        have : (s == x) = false := by simpa using hx
        rw [this, Bool.false_or]
  intro l
  have h := this l (.map []) Go.Maps.isMap_empty
  simpa [nameSet, Go.Maps.has] using h
theorem nameSet_size (l : List (List UInt8)) : ∀ k, k ≤ l.length → Go.Maps.size (nameSet (l.take k)) ≤ k ∧ ((l.take k).Nodup ↔ Go.Maps.size (nameSet (l.take k)) = k)
  | 0, _ => by simp [nameSet, Go.Maps.size]
  | k + 1, h => by
    obtain ⟨h1, h2⟩ := nameSet_size l k (by omega)
    have hk : l[k]? = some l[k] := List.getElem?_eq_getElem (by omega)
    rw [Sh.nodup_succ hk, take_snoc hk, nameSet_snoc, Go.Maps.size_put (nameSet_tidy _), nameSet_has]
    cases hc : (l.take k).contains l[k] with
    | true =>
      rw [if_pos rfl]
      have hm := List.contains_iff_mem.1 hc
      exact ⟨by omega, ⟨fun hh => absurd hm hh.2, fun hh => by omega⟩⟩
    | false =>
      rw [if_neg (by simp)]
      have hm : l[k] ∉ l.take k := fun hm => by rw [List.contains_iff_mem.2 hm] at hc; cases hc
      exact ⟨by omega, ⟨fun hh => by rw [h2.1 hh.1], fun hh => ⟨h2.2 (by omega), hm⟩⟩⟩

/-- What Keep leaves, at a valid structure: f: the symbols fit; o: no name stands twice. -/
def KeepPost (f o : Bool) (size : Int) (rs : List Sh.Rel) (ss : List (ByteArray × Int)) (w : World) (e : Ending) (w' : World) : Prop :=
  Below w.heap.size w w' ∧ match f, o with
    | false, _ => e = .returned (.tuple #[.agg #[.int .i64 0, .slice none 0 0], .int .i64 4])
    | true, false => e = .returned (.tuple #[.agg #[.int .i64 0, .slice none 0 0], .int .i64 2])
    | true, true => ∃ x, e = .returned (.tuple #[.agg #[.int .i64 size, x], .int .i64 0]) ∧ NRels w' w.heap.size x (Sh.keepR rs ss)
theorem KeepPost.name {o : Bool} {size : Int} {rs : List Sh.Rel} {ss : List (ByteArray × Int)} {w w' : World} (h : Below w.heap.size w w') : KeepPost false o size rs ss w (.returned (.tuple #[.agg #[.int .i64 0, .slice none 0 0], .int .i64 4])) w' := ⟨h, rfl⟩
theorem KeepPost.arg {size : Int} {rs : List Sh.Rel} {ss : List (ByteArray × Int)} {w w' : World} (h : Below w.heap.size w w') : KeepPost true false size rs ss w (.returned (.tuple #[.agg #[.int .i64 0, .slice none 0 0], .int .i64 2])) w' := ⟨h, rfl⟩
theorem KeepPost.ok {size : Int} {rs : List Sh.Rel} {ss : List (ByteArray × Int)} {w w' : World} {x : Value} (h : Below w.heap.size w w') (hx : NRels w' w.heap.size x (Sh.keepR rs ss)) : KeepPost true true size rs ss w (.returned (.tuple #[.agg #[.int .i64 size, x], .int .i64 0])) w' := ⟨h, x, rfl, hx⟩

set_option maxRecDepth 100000 in
set_option maxHeartbeats 400000 in
theorem keep_form (size : Int) (v u : Value) (rs : List Sh.Rel) (w : World) (B : Nat) (hB : B ≤ w.heap.size) (h : Rels w B v rs) (hvb : Sh.validB ⟨size, rs⟩ = false) :
    Calls Tryd.prog 44 #[.agg #[.int .i64 size, v], u] w fun e w' => e = .returned (.tuple #[.agg #[.int .i64 0, .slice none 0 0], .int .i64 1]) ∧ Below w.heap.size w w' := by
  have h' := h
  obtain ⟨A, len, c, rfl, -⟩ := h'
  have hcall := fun W (hW : Below w.heap.size w W) => valid_any size (.slice A len c) rs W B (Nat.le_trans hB hW.size) (h.below (hW.mono hB))
  rw [hvb] at hcall
  have Hcall := Lib.hid hcall; clear hcall
  have hz := Blk.new (w.alloc (.cells #[.int .i64 size, .slice A len c] 24)) 24 #[.int .i64 0, .slice none 0 0]
  rw [World.size_alloc] at hz
  have Hz := Lib.hid hz; clear hz
  have hb2 := ((Below.refl w.heap.size w).alloc (Nat.le_refl _) (.cells #[.int .i64 size, .slice A len c] 24)).alloc (by simp) (.cells #[.int .i64 0, .slice none 0 0] 24)
  have Hb2 := Lib.hid hb2; clear hb2
  go_enter Tryd.func44, Tryd.ntmps44
  go_wp2_with (go_at_call 16
               refine (Hcall.out _ Hb2.out).mono ?_
               rintro e w9 ⟨rfl, hb9⟩
               have hz9 := Hz.out.below hb9 (by simp)
               have hzc0 : w9.cell? ⟨w.heap.size + 1, 0, none⟩ = some (.int .i64 0) := hz9.cell 0
               have hzc1 : w9.cell? ⟨w.heap.size + 1, 1, none⟩ = some (.slice none 0 0) := hz9.cell 1
               have hzf0 := hz9.frozen 0
               have hzf1 := hz9.frozen 1)
  refine bodyPost_ret (v := .tuple #[.agg #[.int .i64 0, .slice none 0 0], .int .i64 1]) (by simp [results, Tryd.results44, go_sem, hzc0, hzc1]) rfl ?_
  exact ⟨rfl, ((Hb2.out.trans (hb9.mono (by simp; omega))).setCell (by simp) _).setCell (by simp) _⟩

end Go.Proofs.YtjkaicpohihncaaDoor
