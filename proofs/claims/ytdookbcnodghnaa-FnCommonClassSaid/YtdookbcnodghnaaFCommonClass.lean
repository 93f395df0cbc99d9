/- the law FnCommonClass -/
import Derived.Test.YtdookbcnodghnaaFAboveOf
import Derived.Test.YtdookbcnodghnaaPB
import Derived.Test.YtdookbcnodghnaaOI
import Derived.Test.YtdookbcnodghnaaCD
namespace Go.Proofs.Ytdookbcnodghnaa
open Go.RowKit

set_option maxHeartbeats 4000000 in
set_option maxRecDepth 100000 in
theorem fnCommonClass_walk (A : Option Addr) (n cap : Nat) (bs : List By) (w : World) (hR : Sl w A n cap bs) :
    Calls Try.prog 7 #[.slice A n cap] w fun e w' => e = .returned (.bool true) ∧ Le w w' := by
  have hm := hR.n_le
  by_cases hbig : 1048576 < n
  · go_enter Try.func7, Try.ntmps7
    go_wp2
    go_ret
    exact ⟨rfl, Le.refl w⟩
  go_enter Try.func7, Try.ntmps7
  go_wp2_with fail
  refine (drawCommonClass_any A n cap bs w hR).mono ?_
  rintro e w1 ⟨B, m, c, xs, a, b, rfl, S, hm8, _, ha, hb, L0⟩
  go_wp2_with fail
  obtain ⟨ct, zt, hleB⟩ := box1 w1 (.slice B m c) 25
  replace S := S.le hleB
  replace L0 := L0.trans hleB
  clear hleB
  generalize w1.alloc (.cells #[.slice B m c] 25) = W1 at *
  go_wp2_with fail
  refine (iCommonClass_any B m c xs a b W1 S).mono ?_
  rintro e w2 ⟨rfl, hle⟩
  replace ct := (hle.cell zt).trans ct
  replace zt := Nat.lt_of_lt_of_le zt hle.size
  replace S := S.le hle
  replace L0 := L0.trans hle
  clear hle
  go_wp2_with fail
  refine (sCommonClass_any B m c xs a b w2 S).mono ?_
  rintro e w3 ⟨rfl, hle⟩
  replace ct := (hle.cell zt).trans ct
  replace zt := Nat.lt_of_lt_of_le zt hle.size
  replace S := S.le hle
  replace L0 := L0.trans hle
  clear hle
  have hbb : (commonX xs a b != commonX xs a b) = false := by simp
  have hbb2 : (commonX xs a b == commonX xs a b) = true := by simp
  rcases Bool.eq_false_or_eq_true (okTree xs && hasK xs a && hasK xs b) with ho | ho
  rotate_left
  · have hX := commonX_of ho
    have hX2 : commonX xs a b < 0 := by rw [hX]; show (-1 : Int) < 0; omega
    clear hX ho
    go_wp2_with fail
    refine (sCommonClass_any B m c xs a b w3 S).mono ?_
    rintro e w9 ⟨rfl, hle⟩
    replace L0 := L0.trans hle
    clear hle
    go_wp2
    go_ret
    exact ⟨rfl, L0⟩
  have hX := commonX_of ho
  have hX2 : commonX xs a b = firstIs xs b (aboveL xs a) := hX
  simp only [Bool.and_eq_true] at ho
  have g := good_of ho.1.1
  have ra := hasK_iff.1 ho.1.2
  have rb := hasK_iff.1 ho.2
  have K := common_of g ra rb
  have K2 := common_of g rb ra
  have hY : commonX xs b a = firstIs xs a (aboveL xs b) := commonX_of (t := true) (by rw [ho.1.1, ho.1.2, ho.2]; rfl)
  rw [← hX2] at K
  rw [← hY] at K2
  have E1 : Hid (commonX xs b a = commonX xs a b) := K.eq g K2
  have XA : ∀ x y : Int, 0 ≤ x ∧ x < xs.length → 0 ≤ y ∧ y < xs.length → isAx xs x y = isAL xs x y := fun x y hx hy => by
    unfold isAx; rw [ho.1.1, hasK_iff.2 hx, hasK_iff.2 hy]; rfl
  have ro := And.intro K.lo K.hi
  have E2 : Hid (isAx xs a (commonX xs a b) = true) := by show _ = _; rw [XA _ _ ra ro]; exact K.left
  have E3 : Hid (isAx xs b (commonX xs a b) = true) := by show _ = _; rw [XA _ _ rb ro]; exact K.right
  have E4 : Hid (isAx xs a b = false ∨ commonX xs a b = b) := by
    show _ ∨ _
    cases h : isAL xs a b
    · left; rw [XA _ _ ra rb]; exact h
    · right; exact K.sub g rb h
  have E5 : Hid (∀ k : Nat, k < xs.length → isAx xs a k = true → isAx xs b k = true → isAx xs (commonX xs a b) k = true) := by
    intro k hk
    have rk : 0 ≤ (k : Int) ∧ (k : Int) < xs.length := by omega
    rw [XA _ _ ra rk, XA _ _ rb rk, XA _ _ ro rk]
    exact K.low k
  have hlo := K.lo
  have ho0 : ¬ commonX xs a b < 0 := by omega
  clear hX hX2 hY XA K K2 ho g
  generalize commonX xs a b = o at *
  have hsl := S.len
  have hod : decide (o < 0) = false := decide_eq_false ho0
  go_wp2
  go_loopw [7] (fun i wr => ∃ k : Nat, i = .int .i64 k ∧ Le w3 wr) (fun i _ => m - (intOf i).toNat)
  case atStart => exact ⟨0, rfl, Le.refl _⟩
  case round =>
    obtain ⟨k, rfl, LW⟩ := hrel
    replace ct := (LW.cell zt).trans ct
    replace zt := Nat.lt_of_lt_of_le zt LW.size
    replace S := S.le LW
    replace L0 := L0.trans LW
    by_cases hlt : k < m
    · have h5 := E5.out k (by omega)
      go_wp2_with fail
      refine (iIsA_any B m c xs a k wr S).mono ?_
      rintro e w4 ⟨rfl, hle2⟩
      replace ct := (hle2.cell zt).trans ct
      replace zt := Nat.lt_of_lt_of_le zt hle2.size
      replace S := S.le hle2
      replace L0 := L0.trans hle2
      replace LW := LW.trans hle2
      clear hle2
      cases q1 : isAx xs a k
      · go_wp2
        go_roundw
        case rel => exact ⟨k + 1, by go_num, LW⟩
        case measure => simp [intOf]; omega
      · go_wp2_with fail
        refine (iIsA_any B m c xs b k w4 S).mono ?_
        rintro e w5 ⟨rfl, hle2⟩
        replace ct := (hle2.cell zt).trans ct
        replace zt := Nat.lt_of_lt_of_le zt hle2.size
        replace S := S.le hle2
        replace L0 := L0.trans hle2
        replace LW := LW.trans hle2
        clear hle2
        cases q2 : isAx xs b k
        · go_wp2
          go_roundw
          case rel => exact ⟨k + 1, by go_num, LW⟩
          case measure => simp [intOf]; omega
        · have q3 := h5 q1 q2
          go_wp2_with fail
          refine (iIsA_any B m c xs o k w5 S).mono ?_
          rintro e w6 ⟨rfl, hle2⟩
          replace ct := (hle2.cell zt).trans ct
          replace zt := Nat.lt_of_lt_of_le zt hle2.size
          replace S := S.le hle2
          replace L0 := L0.trans hle2
          replace LW := LW.trans hle2
          clear hle2
          rw [q3]
          go_wp2
          go_roundw
          case rel => exact ⟨k + 1, by go_num, LW⟩
          case measure => simp [intOf]; omega
    · go_wp2_with fail
      refine (iCommonClass_any B m c xs b a wr S).mono ?_
      rintro e w7 ⟨rfl, hle2⟩
      replace ct := (hle2.cell zt).trans ct
      replace zt := Nat.lt_of_lt_of_le zt hle2.size
      replace S := S.le hle2
      replace L0 := L0.trans hle2
      replace LW := LW.trans hle2
      clear hle2
      rw [E1.out]
      go_wp2_with fail
      refine (iIsA_any B m c xs a o w7 S).mono ?_
      rintro e w8 ⟨rfl, hle2⟩
      replace ct := (hle2.cell zt).trans ct
      replace zt := Nat.lt_of_lt_of_le zt hle2.size
      replace S := S.le hle2
      replace L0 := L0.trans hle2
      replace LW := LW.trans hle2
      clear hle2
      rw [E2.out]
      go_wp2_with fail
      refine (iIsA_any B m c xs b o w8 S).mono ?_
      rintro e w9 ⟨rfl, hle2⟩
      replace ct := (hle2.cell zt).trans ct
      replace zt := Nat.lt_of_lt_of_le zt hle2.size
      replace S := S.le hle2
      replace L0 := L0.trans hle2
      replace LW := LW.trans hle2
      clear hle2
      rw [E3.out]
      go_wp2_with fail
      refine (iIsA_any B m c xs a b w9 S).mono ?_
      rintro e w10 ⟨rfl, hle2⟩
      replace ct := (hle2.cell zt).trans ct
      replace zt := Nat.lt_of_lt_of_le zt hle2.size
      replace S := S.le hle2
      replace L0 := L0.trans hle2
      replace LW := LW.trans hle2
      clear hle2
      rcases E4.out with h4 | h4
      · rw [h4]
        go_wp2
        go_ret
        exact ⟨rfl, L0⟩
      · subst h4
        cases isAx xs a o
        all_goals
          go_wp2
          go_ret
          exact ⟨rfl, L0⟩
end Go.Proofs.Ytdookbcnodghnaa
