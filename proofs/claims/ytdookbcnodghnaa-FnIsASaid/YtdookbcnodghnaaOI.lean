import Derived.Test.YtdookbcnodghnaaO
namespace Go.Proofs.Ytdookbcnodghnaa
open Go.RowKit

theorem sIsA_any (A : Option Addr) (n cap : Nat) (xs : List Cls) (a b : Int) (w : World) (hR : Sl w A n cap xs) :
    Calls Try.prog 20 #[.agg #[.slice A n cap], .int .i64 a, .int .i64 b] w fun e w' => e = .returned (.bool (isAx xs a b)) ∧ Le w w' := by
  have hl := Le.new w (.cells #[.slice A n cap] 25)
  have c0 : (w.alloc (.cells #[.slice A n cap] 25)).cell? ⟨w.heap.size, 0, none⟩ = some (.slice A n cap) := by rw [World.cell?_alloc_at _ _ _ _ rfl]; rfl
  have hz : w.heap.size < (w.alloc (.cells #[.slice A n cap] 25)).heap.size := by simp
  have hS := hR.le hl
  have hgood : okTree xs = true → Good xs := good_of
  have HGo := Lib.hid hgood; clear hgood
  cases h1 : okTree xs && hasK xs a
  · have HF : Hid (isAx xs a b = false) := by show _ = _; unfold isAx; rw [h1]; rfl
    go_enter Try.func20, Try.ntmps20
    go_wp2_with fail
    generalize w.alloc (.cells #[.slice A n cap] 25) = W at *
    refine (goodClass_any A n cap xs a _ hS).mono ?_
    rintro e w2 ⟨rfl, hle⟩
    rw [h1]
    clear h1
    go_wp2
    go_ret
    exact ⟨ret_bool HF.out.symm, hl.trans hle⟩
  · have hab : okTree xs = true ∧ hasK xs a = true := by simpa using h1
    have g := HGo.out hab.1
    have hka := hasK_iff.1 hab.2
    have HAB := Lib.hid hab; clear hab
    cases h2 : hasK xs b
    · have HF : Hid (isAx xs a b = false) := by show _ = _; unfold isAx; rw [h1, h2]; rfl
      go_enter Try.func20, Try.ntmps20
      go_wp2_with fail
      generalize w.alloc (.cells #[.slice A n cap] 25) = W at *
      refine (goodClass_any A n cap xs a _ hS).mono ?_
      rintro e w2 ⟨rfl, hle⟩
      rw [h1]
      clear h1
      have c2 := (hle.cell hz).trans c0
      have hz2 := Nat.lt_of_lt_of_le hz hle.size
      have hS2 := hS.le hle
      go_wp2_with fail
      refine (hasClass_any A n cap xs b _ hS2).mono ?_
      rintro e w3 ⟨rfl, hle3⟩
      rw [h2]
      clear h2
      go_wp2
      go_ret
      exact ⟨ret_bool HF.out.symm, (hl.trans hle).trans hle3⟩
    · have HF : Hid (isAx xs a b = isAL xs a b) := by show _ = _; unfold isAx; rw [h1, h2]; rfl
      go_enter Try.func20, Try.ntmps20
      go_wp2_with fail
      generalize w.alloc (.cells #[.slice A n cap] 25) = W at *
      refine (goodClass_any A n cap xs a _ hS).mono ?_
      rintro e w2 ⟨rfl, hle⟩
      rw [h1]
      clear h1
      have c2 := (hle.cell hz).trans c0
      have hz2 := Nat.lt_of_lt_of_le hz hle.size
      have hS2 := hS.le hle
      go_wp2_with fail
      refine (hasClass_any A n cap xs b _ hS2).mono ?_
      rintro e w3 ⟨rfl, hle3⟩
      rw [h2]
      clear h2
      have c3 := (hle3.cell hz2).trans c2
      have hS3 := hS2.le hle3
      go_wp2_with fail
      refine (isA_any A n cap xs a b _ hS3 g hka.2 (by omega)).mono ?_
      rintro e w4 ⟨rfl, hle4⟩
      go_wp2
      go_ret
      exact ⟨ret_bool HF.out.symm, ((hl.trans hle).trans hle3).trans hle4⟩

set_option maxHeartbeats 1000000 in
theorem iIsA_any (A : Option Addr) (n cap : Nat) (xs : List Cls) (a b : Int) (w : World) (hR : Sl w A n cap xs) :
    Calls Try.prog 19 #[.agg #[.slice A n cap], .int .i64 a, .int .i64 b] w fun e w' => e = .returned (.bool (isAx xs a b)) ∧ Le w w' := by
  have hl := Le.new w (.cells #[.slice A n cap] 25)
  have hS := hR.le hl
  go_enter Try.func19, Try.ntmps19
  go_wp2_with fail
  refine (nodesOf_any A n cap xs _ hS).mono ?_
  intro e w2 hout
  obtain ⟨hle, A2, n2, gs, rfl, hS2, hcase⟩ := nodes_one hout
  go_wp2_with fail
  refine (nodeAt_any _ _ _ gs a _ hS2).mono ?_
  rintro e w3 ⟨rfl, rfl⟩
  go_wp2_with fail
  refine (nodeAt_any _ _ _ gs b _ hS2).mono ?_
  rintro e w3 ⟨rfl, rfl⟩
  rcases hcase with ⟨h0, _, rfl⟩ | ⟨h1, _, hN⟩
  · have HF : Hid (isAx xs a b = false) := by show _ = _; unfold isAx; rw [h0]; rfl
    rw [ptrOf_nil, ptrOf_nil]
    clear h0
    go_wp2
    go_ret
    exact ⟨ret_bool HF.out.symm, hl.trans hle⟩
  · have g := good_of h1
    have HL := Lib.hid hN.len
    rcases ptr_cases HL.out a with ⟨h2, h3⟩ | ⟨h2, i, hi, rfl, h3⟩
    · have HF : Hid (isAx xs a b = false) := by show _ = _; unfold isAx; rw [h1, h2]; rfl
      rw [h3]
      clear h1 h2 h3
      go_wp2
      go_ret
      exact ⟨ret_bool HF.out.symm, hl.trans hle⟩
    · rcases ptr_cases HL.out b with ⟨h4, h5⟩ | ⟨h4, j, hj, rfl, h5⟩
      · have HF : Hid (isAx xs i b = false) := by show _ = _; unfold isAx; rw [h1, h2, h4]; rfl
        rw [h3, h5]
        clear h1 h2 h3 h4 h5
        go_wp2
        go_ret
        exact ⟨ret_bool HF.out.symm, hl.trans hle⟩
      · have HF : Hid (isAx xs i j = isAL xs i j) := by show _ = _; unfold isAx; rw [h1, h2, h4]; rfl
        have HP := Lib.hid h3
        rw [h3, h5]
        clear h1 h2 h3 h4 h5
        go_wp2_with fail
        have hc := catches_any gs xs g j hj (i : Int) (by have := HL.out; omega) (by omega) w2 hN
        rw [HP.out] at hc
        refine hc.mono ?_
        rintro e w3 ⟨rfl, rfl⟩
        go_wp2
        go_ret
        exact ⟨ret_bool HF.out.symm, hl.trans hle⟩
end Go.Proofs.Ytdookbcnodghnaa
