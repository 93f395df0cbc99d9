/- the law FnIsA -/
import Derived.Test.YtdookbcnodghnaaFAboveOf
import Derived.Test.YtdookbcnodghnaaOI
import Derived.Test.YtdookbcnodghnaaY
import Derived.Test.YtdookbcnodghnaaZ
import Derived.Test.YtdookbcnodghnaaD
namespace Go.Proofs.Ytdookbcnodghnaa
open Go.RowKit

set_option maxHeartbeats 4000000 in
set_option maxRecDepth 100000 in
theorem fnIsA_walk (A : Option Addr) (n cap : Nat) (bs : List By) (w : World) (hR : Sl w A n cap bs) :
    Calls Try.prog 4 #[.slice A n cap] w fun e w' => e = .returned (.bool true) ∧ Le w w' := by
  have hm := hR.n_le
  by_cases hbig : 1048576 < n
  · go_enter Try.func4, Try.ntmps4
    go_wp2
    go_ret
    exact ⟨rfl, Le.refl w⟩
  go_enter Try.func4, Try.ntmps4
  go_wp2_with fail
  refine (drawIsA_any A n cap bs w hR).mono ?_
  rintro e w1 ⟨B, m, c, xs, a, b, rfl, S, hm8, _, ha, hb, L0⟩
  go_wp2_with fail
  obtain ⟨ct, zt, hleB⟩ := box1 w1 (.slice B m c) 25
  replace S := S.le hleB
  replace L0 := L0.trans hleB
  clear hleB
  generalize w1.alloc (.cells #[.slice B m c] 25) = W1 at *
  refine (iIsA_any B m c xs a b W1 S).mono ?_
  rintro e w2 ⟨rfl, hle⟩
  replace ct := (hle.cell zt).trans ct
  replace zt := Nat.lt_of_lt_of_le zt hle.size
  replace S := S.le hle
  replace L0 := L0.trans hle
  clear hle
  go_wp2_with fail
  refine (sIsA_any B m c xs a b w2 S).mono ?_
  rintro e w3 ⟨rfl, hle⟩
  replace ct := (hle.cell zt).trans ct
  replace zt := Nat.lt_of_lt_of_le zt hle.size
  replace S := S.le hle
  replace L0 := L0.trans hle
  clear hle
  have hbb : (isAx xs a b != isAx xs a b) = false := by simp
  have hbb2 : (isAx xs a b == isAx xs a b) = true := by simp
  go_wp2_with fail
  refine (iValidTree_any B m c xs w3 S).mono ?_
  rintro e w4 ⟨rfl, hle⟩
  replace ct := (hle.cell zt).trans ct
  replace zt := Nat.lt_of_lt_of_le zt hle.size
  replace S := S.le hle
  replace L0 := L0.trans hle
  clear hle
  rcases Bool.eq_false_or_eq_true (okTree xs) with ho | ho
  rotate_left
  · rw [ho]
    go_wp2_with fail
    refine (sIsA_any B m c xs a b _ S).mono ?_
    rintro e w9 ⟨rfl, hle⟩
    replace L0 := L0.trans hle
    clear hle
    go_wp2
    go_ret
    exact ⟨rfl, L0⟩
  have hok := Lib.hid ho
  rw [ho]
  clear ho
  go_wp2_with fail
  refine (has_any B m c xs a w4 S).mono ?_
  rintro e w5 ⟨rfl, hle⟩
  replace ct := (hle.cell zt).trans ct
  replace zt := Nat.lt_of_lt_of_le zt hle.size
  replace S := S.le hle
  replace L0 := L0.trans hle
  clear hle
  rcases Bool.eq_false_or_eq_true (hasK xs a) with hka | hka
  rotate_left
  · rw [hka]
    go_wp2_with fail
    refine (sIsA_any B m c xs a b _ S).mono ?_
    rintro e w9 ⟨rfl, hle⟩
    replace L0 := L0.trans hle
    clear hle
    go_wp2
    go_ret
    exact ⟨rfl, L0⟩
  have hoa := Lib.hid hka
  rw [hka]
  clear hka
  go_wp2_with fail
  refine (has_any B m c xs b w5 S).mono ?_
  rintro e w6 ⟨rfl, hle⟩
  replace ct := (hle.cell zt).trans ct
  replace zt := Nat.lt_of_lt_of_le zt hle.size
  replace S := S.le hle
  replace L0 := L0.trans hle
  clear hle
  rcases Bool.eq_false_or_eq_true (hasK xs b) with hkb | hkb
  rotate_left
  · rw [hkb]
    go_wp2_with fail
    refine (sIsA_any B m c xs a b _ S).mono ?_
    rintro e w9 ⟨rfl, hle⟩
    replace L0 := L0.trans hle
    clear hle
    go_wp2
    go_ret
    exact ⟨rfl, L0⟩
  have hob := Lib.hid hkb
  rw [hkb]
  clear hkb
  have g := good_of hok.out
  have ra := Lib.hid (hasK_iff.1 hoa.out)
  have rb := Lib.hid (hasK_iff.1 hob.out)
  have XA : ∀ x y : Int, 0 ≤ x ∧ x < xs.length → 0 ≤ y ∧ y < xs.length → isAx xs x y = isAL xs x y := fun x y hx hy => by
    unfold isAx; rw [hok.out, hasK_iff.2 hx, hasK_iff.2 hy]; rfl
  have hr0 : (0 : Int) ≤ 0 ∧ (0 : Int) < xs.length := ⟨by omega, by have := ra.out; omega⟩
  have e1 := XA a a ra.out ra.out
  rw [isAL_self ra.out.1] at e1
  have e2 := XA a 0 ra.out hr0
  rw [isA_root g ra.out.1 ra.out.2] at e2
  have e3 := XA a b ra.out rb.out
  have e4 := XA b a rb.out ra.out
  have e5 : hasI (belowX xs b) a = isAL xs a b := by
    rw [belowX_of (b := true) (by rw [hok.out, hob.out]; rfl), Bool.eq_iff_iff, hasI_iff]
    show a ∈ belowK xs b xs.length ↔ _
    rw [belowK_mem]
    exact ⟨fun h => h.2.2, fun h => ⟨ra.out.1, ra.out.2, h⟩⟩
  have e6 : hasI (aboveX xs a) b = isAL xs a b := by
    rw [aboveX_of (b := true) (by rw [hok.out, hoa.out]; rfl)]; rfl
  have e7 : (a == b) = true ∨ isAL xs a b = false ∨ isAL xs b a = false := by
    cases h1 : isAL xs a b
    · exact .inr (.inl rfl)
    · cases h2 : isAL xs b a
      · exact .inr (.inr rfl)
      · left; rw [beq_iff_eq]; exact isAL_anti g ra.out.2 rb.out.2 h1 h2
  clear XA hr0 ra rb g hoa hob hok
  have E5 := Lib.hid e5
  have E6 := Lib.hid e6
  have E7 := Lib.hid e7
  have E4 := Lib.hid e4
  have E1 := Lib.hid e1
  have E2 := Lib.hid e2
  clear e5 e6 e7 e4 e1 e2
  rw [e3]
  generalize isAx xs a b = q at *
  subst e3
  go_wp2_with fail
  refine (iIsA_any B m c xs a a w6 S).mono ?_
  rintro e w7 ⟨rfl, hle⟩
  replace ct := (hle.cell zt).trans ct
  replace zt := Nat.lt_of_lt_of_le zt hle.size
  replace S := S.le hle
  replace L0 := L0.trans hle
  clear hle
  rw [E1.out]
  go_wp2_with fail
  refine (iIsA_any B m c xs a 0 w7 S).mono ?_
  rintro e w8 ⟨rfl, hle⟩
  replace ct := (hle.cell zt).trans ct
  replace zt := Nat.lt_of_lt_of_le zt hle.size
  replace S := S.le hle
  replace L0 := L0.trans hle
  clear hle
  rw [E2.out]
  have hlb := belowX_len xs b
  have hla := aboveX_len xs a
  go_wp2_with fail
  refine (Calls.ints (iBelowOf_any B m c xs b w8 S)).mono ?_
  rintro e w9 ⟨A9, c9, rfl, S9, hle⟩
  replace ct := (hle.cell zt).trans ct
  replace zt := Nat.lt_of_lt_of_le zt hle.size
  replace S := S.le hle
  replace L0 := L0.trans hle
  clear hle
  go_wp2_with fail
  refine (isIn_any A9 _ c9 _ a w9 S9).mono ?_
  rintro e w10 ⟨rfl, rfl⟩
  rw [E5.out]
  clear S9
  go_wp2_with fail
  refine (Calls.ints (iAboveOf_any B m c xs a w9 S)).mono ?_
  rintro e w11 ⟨A11, c11, rfl, S11, hle⟩
  replace ct := (hle.cell zt).trans ct
  replace zt := Nat.lt_of_lt_of_le zt hle.size
  replace S := S.le hle
  replace L0 := L0.trans hle
  clear hle
  go_wp2_with fail
  refine (isIn_any A11 _ c11 _ b w11 S11).mono ?_
  rintro e w12 ⟨rfl, rfl⟩
  rw [E6.out]
  clear S11
  rcases E7.out with h7 | h7 | h7
  · go_wp2
    go_ret
    exact ⟨rfl, L0⟩
  · rw [h7] at hbb hbb2
    rw [h7]
    cases hab : (a == b)
    all_goals
      go_wp2
      go_ret
      exact ⟨rfl, L0⟩
  · cases hab : (a == b)
    · cases hq : isAL xs a b
      · rw [hq] at hbb hbb2
        go_wp2
        go_ret
        exact ⟨rfl, L0⟩
      · rw [hq] at hbb hbb2
        go_wp2_with fail
        refine (iIsA_any B m c xs b a _ S).mono ?_
        rintro e w13 ⟨rfl, hle⟩
        replace ct := (hle.cell zt).trans ct
        replace zt := Nat.lt_of_lt_of_le zt hle.size
        replace S := S.le hle
        replace L0 := L0.trans hle
        clear hle
        rw [E4.out, h7]
        go_wp2
        go_ret
        exact ⟨rfl, L0⟩
    · go_wp2
      go_ret
      exact ⟨rfl, L0⟩
end Go.Proofs.Ytdookbcnodghnaa
