import Derived.Test.YtjcellhpmooifaaN
import Derived.Test.YtjcellhpmooifaaOP
namespace Go.Proofs.Ytjcellhpmooifaa
open Go.RowKit


theorem isA_any (A : Option Addr) (n cap : Nat) (xs : List Cls) (a b : Int) (w : World) (hR : Sl w A n cap xs) (g : Good xs) (ha : a < xs.length) (ha0 : -1 ≤ a) :
    Calls Try.prog 91 #[.agg #[.slice A n cap], .int .i64 a, .int .i64 b] w fun e w' => e = .returned (.bool (isAL xs a b)) ∧ Le w w' := by
  have hl := Le.new w (.cells #[.slice A n cap] 31)
  have hS := hR.le hl
  go_enter Try.func91, Try.ntmps91
  go_wp2_with fail
  refine (above_any A n cap xs a _ hS g ha ha0).mono ?_
  rintro e w2 ⟨v, rfl, hown, hle⟩
  have hok : ∀ x ∈ aboveL xs a, Enc.ok x := by
    intro x hx
    have := aboveL_mem g _ a rfl ha x hx
    have := g.hi
    exact ⟨by omega, by omega⟩
  obtain ⟨A2, c2, rfl⟩ : ∃ A2 c2, v = .slice A2 (aboveL xs a).length c2 := by
    rcases hown.2 with ⟨h, h0⟩ | ⟨g2, c2, _, h, _⟩
    · exact ⟨none, 0, by rw [h0]; exact h⟩
    · exact ⟨_, c2, h⟩
  have hSa : Sl w2 A2 (aboveL xs a).length c2 (aboveL xs a) := Sl.of_own hown rfl (by decide) hok
  clear hown hok
  go_wp2_with fail
  refine (hasInt_any _ _ _ (aboveL xs a) b _ hSa).mono ?_
  rintro e w3 ⟨rfl, rfl⟩
  go_wp2
  go_ret
  exact ⟨ret_bool rfl, hl.trans hle⟩

/-- what nodesOf hands back, as one slice -/
theorem nodes_one {xs : List Cls} {w w' : World} {e : Ending} (h : NodesOut xs w e w') : Le w w' ∧ ∃ A n gs, e = .returned (.slice A n n) ∧ Sl w' A n n gs ∧ ((okTree xs = false ∧ n = 0 ∧ gs = []) ∨ (okTree xs = true ∧ n = xs.length ∧ Nds w' gs xs)) := by
  obtain ⟨hl, ⟨h0, rfl⟩ | ⟨h1, g, gs, rfl, hS, hN⟩⟩ := h
  · exact ⟨hl, none, 0, [], rfl, Sl.nil _ _ _ (by omega), .inl ⟨h0, rfl, rfl⟩⟩
  · exact ⟨hl, _, _, gs, rfl, hS, .inr ⟨h1, rfl, hN⟩⟩

theorem ptr_cases {gs : List PB} {xs : List Cls} (hl : gs.length = xs.length) (a : Int) : (hasK xs a = false ∧ ptrOf gs a = none) ∨ (hasK xs a = true ∧ ∃ i : Nat, ∃ h : i < gs.length, a = i ∧ ptrOf gs a = some ⟨gs[i].g, 0, none⟩) := by
  by_cases h0 : a < 0
  · exact .inl ⟨by unfold hasK; simp; omega, ptrOf_neg h0⟩
  · by_cases h1 : (gs.length : Int) ≤ a
    · exact .inl ⟨by unfold hasK; simp; omega, ptrOf_high h1⟩
    · obtain ⟨i, rfl⟩ := Int.eq_ofNat_of_zero_le (by omega : 0 ≤ a)
      exact .inr ⟨hasK_iff.2 (by omega), i, by omega, rfl, ptrOf_at (by omega)⟩
theorem ptrOf_nil (a : Int) : ptrOf [] a = none := by unfold ptrOf; split <;> simp

end Go.Proofs.Ytjcellhpmooifaa
