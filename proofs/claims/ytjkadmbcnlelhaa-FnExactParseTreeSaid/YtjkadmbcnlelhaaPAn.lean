/- Plain facts of names. -/
import Derived.Test.YtjkadmbcnlelhaaI
namespace Go.Proofs.Ytjkadmbcnlelhaa
open Go.RowKit

theorem findN_spec (s : ByteArray) : ∀ (L : List Cls) (j : Int), (findN L s j = -1 ∧ ∀ i (h : i < L.length), L[i].name ≠ s) ∨ ∃ i, ∃ h : i < L.length, findN L s j = j + i ∧ L[i].name = s ∧ ∀ k (hk : k < i), (L[k]'(by omega)).name ≠ s
  | [], j => .inl ⟨rfl, fun i h => absurd h (by simp)⟩
  | c :: r, j => by
    unfold findN
    by_cases h : c.name = s
    · rw [if_pos h]
      exact .inr ⟨0, by simp, by simp, h, fun k hk => absurd hk (by omega)⟩
    · rw [if_neg h]
      rcases findN_spec s r (j + 1) with ⟨h1, h2⟩ | ⟨i, hi, h1, h2, h3⟩
      · refine .inl ⟨h1, fun i hi => ?_⟩
        cases i with
        | zero => exact h
        | succ i => exact h2 i (by simpa using hi)
      · refine .inr ⟨i + 1, by simpa using hi, by rw [h1]; omega, h2, fun k hk => ?_⟩
        cases k with
        | zero => exact h
        | succ k => exact h3 k (by omega)
theorem names_ne {xs : List Cls} (g : Good xs) {i k : Nat} (hik : i < k) (hk : k < xs.length) : (xs[i]'(by omega)).name ≠ xs[k].name := by
  have h := g.diff k hk
  rcases findN_spec xs[k].name (xs.take k) 0 with ⟨_, h2⟩ | ⟨j, hj, h1, _, _⟩
  · have := h2 i (by rw [List.length_take]; omega)
    rwa [List.getElem_take] at this
  · omega
theorem findN_here {xs : List Cls} (g : Good xs) {k : Nat} (hk : k < xs.length) : findN xs xs[k].name 0 = k := by
  rcases findN_spec xs[k].name xs 0 with ⟨_, h2⟩ | ⟨j, hj, h1, h2, h3⟩
  · exact absurd rfl (h2 k hk)
  · rcases Nat.lt_trichotomy j k with h | h | h
    · exact absurd h2 (names_ne g h hk)
    · omega
    · exact absurd rfl (h3 k h)
theorem findN_hit {xs : List Cls} {s : ByteArray} (h : 0 ≤ findN xs s 0) : ∃ i, ∃ hi : i < xs.length, findN xs s 0 = i ∧ xs[i].name = s := by
  rcases findN_spec s xs 0 with ⟨h1, _⟩ | ⟨j, hj, h1, h2, _⟩
  · omega
  · exact ⟨j, hj, by omega, h2⟩

end Go.Proofs.Ytjkadmbcnlelhaa
