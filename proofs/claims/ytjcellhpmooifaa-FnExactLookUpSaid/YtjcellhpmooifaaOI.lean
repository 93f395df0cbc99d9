import Derived.Test.YtjcellhpmooifaaO
namespace Go.Proofs.Ytjcellhpmooifaa
open Go.RowKit

set_option maxHeartbeats 1000000 in
theorem iIsA_any (A : Option Addr) (n cap : Nat) (xs : List Cls) (a b : Int) (w : World) (hR : Sl w A n cap xs) :
    Calls Try.prog 94 #[.agg #[.slice A n cap], .int .i64 a, .int .i64 b] w fun e w' => e = .returned (.bool (isAx xs a b)) ∧ Le w w' := by
  have hl := Le.new w (.cells #[.slice A n cap] 31)
  have hS := hR.le hl
  go_enter Try.func94, Try.ntmps94
  go_wp2_with fail
  refine (nodesOf_any A n cap xs _ hS).mono ?_
  intro e w2 hout
  obtain ⟨hle, A2, n2, gs, rfl, hS2, hcase⟩ := nodes_one hout
  go_wp2_with fail
  refine (nodeAt_any _ _ _ gs a _ hS2).mono ?_
  rintro e w3 ⟨rfl, rfl⟩
  go_wp2_with fail
  refine (nodeAt_any _ _ _ gs b _ hS2).mono ?_
  rintro e w3 ⟨rfl, rfl⟩
  rcases hcase with ⟨h0, _, rfl⟩ | ⟨h1, _, hN⟩
  · have HF : Hid (isAx xs a b = false) := by show _ = _; unfold isAx; rw [h0]; rfl
    rw [ptrOf_nil, ptrOf_nil]
    clear h0
    go_wp2
    go_ret
    exact ⟨ret_bool HF.out.symm, hl.trans hle⟩
  · have g := good_of h1
    have HL := Lib.hid hN.len
    rcases ptr_cases HL.out a with ⟨h2, h3⟩ | ⟨h2, i, hi, rfl, h3⟩
    · have HF : Hid (isAx xs a b = false) := by show _ = _; unfold isAx; rw [h1, h2]; rfl
      rw [h3]
      clear h1 h2 h3
      go_wp2
      go_ret
      exact ⟨ret_bool HF.out.symm, hl.trans hle⟩
    · rcases ptr_cases HL.out b with ⟨h4, h5⟩ | ⟨h4, j, hj, rfl, h5⟩
      · have HF : Hid (isAx xs i b = false) := by show _ = _; unfold isAx; rw [h1, h2, h4]; rfl
        rw [h3, h5]
        clear h1 h2 h3 h4 h5
        go_wp2
        go_ret
        exact ⟨ret_bool HF.out.symm, hl.trans hle⟩
      · have HF : Hid (isAx xs i j = isAL xs i j) := by show _ = _; unfold isAx; rw [h1, h2, h4]; rfl
        have HP := Lib.hid h3
        rw [h3, h5]
        clear h1 h2 h3 h4 h5
        go_wp2_with fail
        have hc := catches_any gs xs g j hj (i : Int) (by have := HL.out; omega) (by omega) w2 hN
        rw [HP.out] at hc
        refine hc.mono ?_
        rintro e w3 ⟨rfl, rfl⟩
        go_wp2
        go_ret
        exact ⟨ret_bool HF.out.symm, hl.trans hle⟩
end Go.Proofs.Ytjcellhpmooifaa
