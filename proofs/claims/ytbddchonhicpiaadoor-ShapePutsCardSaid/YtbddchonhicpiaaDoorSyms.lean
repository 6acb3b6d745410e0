/-
  Symbols in memory; walk: SameSymbols of two slices with the same symbols.
-/
import Derived.Test.YtbddchonhicpiaaDoorElems
namespace Go.Proofs.YtbddchonhicpiaaDoor
open Go.RowKit

/-- A value that is a slice of symbols. -/
def Syms (w : World) (B : Nat) (v : Value) (ss : List (ByteArray × Int)) : Prop :=
  ∃ A n c, v = .slice A n c ∧ n = ss.length ∧ n ≤ 140737488351232 ∧
    (0 < n → ∃ ad, A = some ad ∧ ad.block < B ∧ ∀ j s, ss[j]? = some s → w.cell? (ad.add (j * 2)) = some (.string s.1) ∧ w.cell? (ad.add (j * 2 + 1)) = some (.int .i64 s.2))
section
variable {w w' : World} {B B' : Nat} {v : Value} {ss : List (ByteArray × Int)}
theorem Syms.nil : Syms w B (.slice none 0 0) [] := ⟨_, _, _, rfl, rfl, by omega, fun h => absurd h (by omega)⟩
theorem Syms.keep (h : Syms w B v ss) (hk : ∀ p : Addr, p.block < B → w'.cell? p = w.cell? p) : Syms w' B v ss := by
  obtain ⟨A, n, c, h1, h2, h3, h4⟩ := h
  refine ⟨A, n, c, h1, h2, h3, fun hn => ?_⟩
  obtain ⟨ad, e, hb, hc⟩ := h4 hn
  exact ⟨ad, e, hb, fun j s hs => ⟨(hk _ (by rw [block_of_add]; exact hb)).trans (hc j s hs).1, (hk _ (by rw [block_of_add]; exact hb)).trans (hc j s hs).2⟩⟩
theorem Syms.below (h : Syms w B v ss) (hb : Below B w w') : Syms w' B v ss := h.keep fun _ hp => hb.cell hp
theorem Syms.more (h : Syms w B v ss) (hB : B ≤ B') : Syms w B' v ss := by
  obtain ⟨A, n, c, h1, h2, h3, h4⟩ := h
  refine ⟨A, n, c, h1, h2, h3, fun hn => ?_⟩
  obtain ⟨ad, e, hb, hc⟩ := h4 hn
  exact ⟨ad, e, by omega, hc⟩
theorem Syms.at_ {A : Option Addr} {n c k : Nat} (h : Syms w B (.slice A n c) ss) (hk : k < n) :
    ∃ ad s, A = some ad ∧ ad.block < B ∧ ss[k]? = some s ∧ w.cell? (ad.add (k * 2)) = some (.string s.1) ∧ w.cell? ⟨(ad.add (k * 2)).block, (ad.add (k * 2)).off + 1, none⟩ = some (.int .i64 s.2) := by
  obtain ⟨A', n', c', h1, h2, h3, h4⟩ := h
  injection h1 with e1 e2 e3
  subst e1 e2 e3
  obtain ⟨ad, hA, hb, hc⟩ := h4 (by omega)
  have hl : k < ss.length := by omega
  obtain ⟨h1, h2⟩ := hc k ss[k] (List.getElem?_eq_getElem hl)
  refine ⟨ad, ss[k], hA, hb, List.getElem?_eq_getElem hl, h1, ?_⟩
  rw [← add_field ad (k * 2) 0]; exact h2
end

set_option maxRecDepth 100000 in
set_option maxHeartbeats 400000 in
theorem same_symbols (v u : Value) (ss : List (ByteArray × Int)) (w : World) (B : Nat) (h : Syms w B v ss) (g : Syms w B u ss) :
    Calls Tryd.prog 19 #[v, u] w fun e w' => e = .returned (.bool true) ∧ ∃ n, w' = w.drewN n := by
  have h' := h
  have g' := g
  obtain ⟨A, len, c, rfl, hlen, hmax, -⟩ := h'
  obtain ⟨A', len', c', rfl, glen, gmax, -⟩ := g'
  obtain rfl : len = len' := by omega
  go_enter Tryd.func19, Tryd.ntmps19
  go_wp2
  go_loopw [5] (fun i wr => ∃ k m : Nat, k ≤ len ∧ i = .int .i64 k ∧ wr = w.drewN m) (fun i _ => len - (intOf i).toNat)
  case atStart => exact ⟨0, 0, Nat.zero_le _, rfl, rfl⟩
  case round =>
    obtain ⟨k, m, hk, rfl, rfl⟩ := hrel
    by_cases hlt : k < len
    · obtain ⟨ad, s, rfl, -, hs, h1, h2⟩ := h.at_ hlt
      obtain ⟨ad', s', rfl, -, hs', g1, g2⟩ := g.at_ hlt
      obtain rfl : s = s' := by rw [hs] at hs'; injection hs'
      go_wp2
      go_quiet (fail)
      go_wp2
      exact ⟨⟨k + 1, _, by omega, by go_num, rfl⟩, by simp [intOf]; omega⟩
    · go_wp2
      go_ret
      exact ⟨rfl, _, rfl⟩

end Go.Proofs.YtbddchonhicpiaaDoor
