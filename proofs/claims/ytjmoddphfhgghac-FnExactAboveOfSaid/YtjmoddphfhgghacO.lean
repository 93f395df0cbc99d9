import Derived.Test.YtjmoddphfhgghacN
namespace Go.Proofs.Ytjmoddphfhgghac
open Go.RowKit

def isAx (xs : List Cls) (a b : Int) : Bool := okTree xs && hasK xs a && hasK xs b && isAL xs a b
theorem isAx_of {xs : List Cls} {t p q r : Bool} {a b : Int} (h1 : okTree xs = t) (h2 : hasK xs a = p) (h3 : hasK xs b = q) (h4 : isAL xs a b = r) : isAx xs a b = (t && p && q && r) := by unfold isAx; rw [h1, h2, h3, h4]
theorem hasK_iff {xs : List Cls} {a : Int} : hasK xs a = true ↔ 0 ≤ a ∧ a < xs.length := by unfold hasK; simp; omega

theorem isA_any (A : Option Addr) (n cap : Nat) (xs : List Cls) (a b : Int) (w : World) (hR : Sl w A n cap xs) (g : Good xs) (ha : a < xs.length) (ha0 : -1 ≤ a) :
    Calls Try.prog 60 #[.agg #[.slice A n cap], .int .i64 a, .int .i64 b] w fun e w' => e = .returned (.bool (isAL xs a b)) ∧ Le w w' := by
  have hl := Le.new w (.cells #[.slice A n cap] 26)
  have hS := hR.le hl
  go_enter Try.func60, Try.ntmps60
  go_wp2_with fail
  refine (above_any A n cap xs a _ hS g ha ha0).mono ?_
  rintro e w2 ⟨v, rfl, hown, hle⟩
  have hok : ∀ x ∈ aboveL xs a, Enc.ok x := by
    intro x hx
    have := aboveL_mem g _ a rfl ha x hx
    have := g.hi
    exact ⟨by omega, by omega⟩
  obtain ⟨A2, c2, rfl⟩ : ∃ A2 c2, v = .slice A2 (aboveL xs a).length c2 := by
    rcases hown.2 with ⟨h, h0⟩ | ⟨g2, c2, _, h, _⟩
    · exact ⟨none, 0, by rw [h0]; exact h⟩
    · exact ⟨_, c2, h⟩
  have hSa : Sl w2 A2 (aboveL xs a).length c2 (aboveL xs a) := Sl.of_own hown rfl (by decide) hok
  clear hown hok
  go_wp2_with fail
  refine (hasInt_any _ _ _ (aboveL xs a) b _ hSa).mono ?_
  rintro e w3 ⟨rfl, rfl⟩
  go_wp2
  go_ret
  exact ⟨ret_bool rfl, hl.trans hle⟩

theorem sIsA_any (A : Option Addr) (n cap : Nat) (xs : List Cls) (a b : Int) (w : World) (hR : Sl w A n cap xs) :
    Calls Try.prog 26 #[.agg #[.slice A n cap], .int .i64 a, .int .i64 b] w fun e w' => e = .returned (.bool (isAx xs a b)) ∧ Le w w' := by
  have hl := Le.new w (.cells #[.slice A n cap] 26)
  have c0 : (w.alloc (.cells #[.slice A n cap] 26)).cell? ⟨w.heap.size, 0, none⟩ = some (.slice A n cap) := by rw [World.cell?_alloc_at _ _ _ _ rfl]; rfl
  have hz : w.heap.size < (w.alloc (.cells #[.slice A n cap] 26)).heap.size := by simp
  have hS := hR.le hl
  have hgood : okTree xs = true → Good xs := good_of
  have HGo := Lib.hid hgood; clear hgood
  cases h1 : okTree xs && hasK xs a
  · have HF : Hid (isAx xs a b = false) := by show _ = _; unfold isAx; rw [h1]; rfl
    go_enter Try.func26, Try.ntmps26
    go_wp2_with fail
    generalize w.alloc (.cells #[.slice A n cap] 26) = W at *
    refine (goodClass_any A n cap xs a _ hS).mono ?_
    rintro e w2 ⟨rfl, hle⟩
    rw [h1]
    clear h1
    go_wp2
    go_ret
    exact ⟨ret_bool HF.out.symm, hl.trans hle⟩
  · have hab : okTree xs = true ∧ hasK xs a = true := by simpa using h1
    have g := HGo.out hab.1
    have hka := hasK_iff.1 hab.2
    have HAB := Lib.hid hab; clear hab
    cases h2 : hasK xs b
    · have HF : Hid (isAx xs a b = false) := by show _ = _; unfold isAx; rw [h1, h2]; rfl
      go_enter Try.func26, Try.ntmps26
      go_wp2_with fail
      generalize w.alloc (.cells #[.slice A n cap] 26) = W at *
      refine (goodClass_any A n cap xs a _ hS).mono ?_
      rintro e w2 ⟨rfl, hle⟩
      rw [h1]
      clear h1
      have c2 := (hle.cell hz).trans c0
      have hz2 := Nat.lt_of_lt_of_le hz hle.size
      have hS2 := hS.le hle
      go_wp2_with fail
      refine (hasClass_any A n cap xs b _ hS2).mono ?_
      rintro e w3 ⟨rfl, hle3⟩
      rw [h2]
      clear h2
      go_wp2
      go_ret
      exact ⟨ret_bool HF.out.symm, (hl.trans hle).trans hle3⟩
    · have HF : Hid (isAx xs a b = isAL xs a b) := by show _ = _; unfold isAx; rw [h1, h2]; rfl
      go_enter Try.func26, Try.ntmps26
      go_wp2_with fail
      generalize w.alloc (.cells #[.slice A n cap] 26) = W at *
      refine (goodClass_any A n cap xs a _ hS).mono ?_
      rintro e w2 ⟨rfl, hle⟩
      rw [h1]
      clear h1
      have c2 := (hle.cell hz).trans c0
      have hz2 := Nat.lt_of_lt_of_le hz hle.size
      have hS2 := hS.le hle
      go_wp2_with fail
      refine (hasClass_any A n cap xs b _ hS2).mono ?_
      rintro e w3 ⟨rfl, hle3⟩
      rw [h2]
      clear h2
      have c3 := (hle3.cell hz2).trans c2
      have hS3 := hS2.le hle3
      go_wp2_with fail
      refine (isA_any A n cap xs a b _ hS3 g hka.2 (by omega)).mono ?_
      rintro e w4 ⟨rfl, hle4⟩
      go_wp2
      go_ret
      exact ⟨ret_bool HF.out.symm, ((hl.trans hle).trans hle3).trans hle4⟩

/-- what nodesOf hands back, as one slice -/
theorem nodes_one {xs : List Cls} {w w' : World} {e : Ending} (h : NodesOut xs w e w') : Le w w' ∧ ∃ A n gs, e = .returned (.slice A n n) ∧ Sl w' A n n gs ∧ ((okTree xs = false ∧ n = 0 ∧ gs = []) ∨ (okTree xs = true ∧ n = xs.length ∧ Nds w' gs xs)) := by
  obtain ⟨hl, ⟨h0, rfl⟩ | ⟨h1, g, gs, rfl, hS, hN⟩⟩ := h
  · exact ⟨hl, none, 0, [], rfl, Sl.nil _ _ _ (by omega), .inl ⟨h0, rfl, rfl⟩⟩
  · exact ⟨hl, _, _, gs, rfl, hS, .inr ⟨h1, rfl, hN⟩⟩

theorem ptr_cases {gs : List PB} {xs : List Cls} (hl : gs.length = xs.length) (a : Int) : (hasK xs a = false ∧ ptrOf gs a = none) ∨ (hasK xs a = true ∧ ∃ i : Nat, ∃ h : i < gs.length, a = i ∧ ptrOf gs a = some ⟨gs[i].g, 0, none⟩) := by
  by_cases h0 : a < 0
  · exact .inl ⟨by unfold hasK; simp; omega, ptrOf_neg h0⟩
  · by_cases h1 : (gs.length : Int) ≤ a
    · exact .inl ⟨by unfold hasK; simp; omega, ptrOf_high h1⟩
    · obtain ⟨i, rfl⟩ := Int.eq_ofNat_of_zero_le (by omega : 0 ≤ a)
      exact .inr ⟨hasK_iff.2 (by omega), i, by omega, rfl, ptrOf_at (by omega)⟩
theorem ptrOf_nil (a : Int) : ptrOf [] a = none := by unfold ptrOf; split <;> simp

set_option maxHeartbeats 1000000 in
theorem iIsA_any (A : Option Addr) (n cap : Nat) (xs : List Cls) (a b : Int) (w : World) (hR : Sl w A n cap xs) :
    Calls Try.prog 27 #[.agg #[.slice A n cap], .int .i64 a, .int .i64 b] w fun e w' => e = .returned (.bool (isAx xs a b)) ∧ Le w w' := by
  have hl := Le.new w (.cells #[.slice A n cap] 26)
  have hS := hR.le hl
  go_enter Try.func27, Try.ntmps27
  go_wp2_with fail
  refine (nodesOf_any A n cap xs _ hS).mono ?_
  intro e w2 hout
  obtain ⟨hle, A2, n2, gs, rfl, hS2, hcase⟩ := nodes_one hout
  go_wp2_with fail
  refine (nodeAt_any _ _ _ gs a _ hS2).mono ?_
  rintro e w3 ⟨rfl, rfl⟩
  go_wp2_with fail
  refine (nodeAt_any _ _ _ gs b _ hS2).mono ?_
  rintro e w3 ⟨rfl, rfl⟩
  rcases hcase with ⟨h0, _, rfl⟩ | ⟨h1, _, hN⟩
  · have HF : Hid (isAx xs a b = false) := by show _ = _; unfold isAx; rw [h0]; rfl
    rw [ptrOf_nil, ptrOf_nil]
    clear h0
    go_wp2
    go_ret
    exact ⟨ret_bool HF.out.symm, hl.trans hle⟩
  · have g := good_of h1
    have HL := Lib.hid hN.len
    rcases ptr_cases HL.out a with ⟨h2, h3⟩ | ⟨h2, i, hi, rfl, h3⟩
    · have HF : Hid (isAx xs a b = false) := by show _ = _; unfold isAx; rw [h1, h2]; rfl
      rw [h3]
      clear h1 h2 h3
      go_wp2
      go_ret
      exact ⟨ret_bool HF.out.symm, hl.trans hle⟩
    · rcases ptr_cases HL.out b with ⟨h4, h5⟩ | ⟨h4, j, hj, rfl, h5⟩
      · have HF : Hid (isAx xs i b = false) := by show _ = _; unfold isAx; rw [h1, h2, h4]; rfl
        rw [h3, h5]
        clear h1 h2 h3 h4 h5
        go_wp2
        go_ret
        exact ⟨ret_bool HF.out.symm, hl.trans hle⟩
      · have HF : Hid (isAx xs i j = isAL xs i j) := by show _ = _; unfold isAx; rw [h1, h2, h4]; rfl
        have HP := Lib.hid h3
        rw [h3, h5]
        clear h1 h2 h3 h4 h5
        go_wp2_with fail
        have hc := catches_any gs xs g j hj (i : Int) (by have := HL.out; omega) (by omega) w2 hN
        rw [HP.out] at hc
        refine hc.mono ?_
        rintro e w3 ⟨rfl, rfl⟩
        go_wp2
        go_ret
        exact ⟨ret_bool HF.out.symm, hl.trans hle⟩
end Go.Proofs.Ytjmoddphfhgghac
