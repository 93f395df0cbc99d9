/- the law FnShownNext -/
import Derived.Test.YtalcpdjldmgcdaaFH0
import Derived.Test.YtalcpdjldmgcdaaHpJ
import Derived.Test.YtalcpdjldmgcdaaLD
import Derived.Test.YtalcpdjldmgcdaaRC
namespace Go.Proofs.Ytalcpdjldmgcdaa
open Go.RowKit
set_option maxHeartbeats 4000000 in
set_option maxRecDepth 100000 in
theorem fnShownNext_walk (A : Option Addr) (n cap : Nat) (bs : List By) (w : World) (hR : Sl w A n cap bs) :
    Calls Try.prog 4 #[.slice A n cap] w fun e w' => e = .returned (.bool true) ∧ Le w w' := by
  have hm := hR.n_le
  by_cases hbig : 1048576 < n
  · go_enter Try.func4, Try.ntmps4
    go_wp2
    go_ret
    exact ⟨rfl, Le.refl w⟩
  go_enter Try.func4, Try.ntmps4
  go_wp2_with fail
  refine (drawShownNext_any A n cap bs w hR).mono ?_
  rintro e w1 ⟨B, m, c, xs, A1, q1, hs, _, rfl, ⟨f, rfl, hf0, hf1⟩, S, hm8, S2, hl6, L0⟩
  go_wp2_with fail
  obtain ⟨ct, zt, ch, zh, hleB⟩ := box2 w1 (.slice B m c) (.slice A1 hs.length q1) 25 28
  replace S := S.le hleB
  replace S2 := S2.le hleB
  replace L0 := L0.trans hleB
  clear hleB
  generalize (w1.alloc (.cells #[.slice B m c] 25)).alloc (.cells #[.slice A1 hs.length q1] 28) = W1 at *
  have hbb : (shownX xs hs f != shownX xs hs f) = false := by simp
  have hbc : (shownX xs hs f == shownX xs hs f) = true := by simp
  go_wp2_with fail
  refine (iShownNext_any B A1 m c hs.length q1 xs hs f W1 S S2 (by omega)).mono ?_
  rintro e w2 ⟨rfl, hle⟩
  replace ct := (hle.cell zt).trans ct
  replace ch := (hle.cell zh).trans ch
  replace zt := Nat.lt_of_lt_of_le zt hle.size
  replace zh := Nat.lt_of_lt_of_le zh hle.size
  replace S := S.le hle
  replace S2 := S2.le hle
  replace L0 := L0.trans hle
  clear hle
  go_wp2_with fail
  refine (sShownNext_any B A1 m c hs.length q1 xs hs f w2 S S2 (by omega)).mono ?_
  rintro e w3 ⟨rfl, hle⟩
  replace ct := (hle.cell zt).trans ct
  replace ch := (hle.cell zh).trans ch
  replace zt := Nat.lt_of_lt_of_le zt hle.size
  replace zh := Nat.lt_of_lt_of_le zh hle.size
  replace S := S.le hle
  replace S2 := S2.le hle
  replace L0 := L0.trans hle
  clear hle
  by_cases hneg : shownX xs hs f < 0
  · have hd : decide (shownX xs hs f < 0) = true := decide_eq_true hneg
    go_wp2_with fail
    refine (sShownNext_any B A1 m c hs.length q1 xs hs f w3 S S2 (by omega)).mono ?_
    rintro e w4 ⟨rfl, hle⟩
    replace L0 := L0.trans hle
    clear hle
    go_wp2
    go_ret
    exact ⟨rfl, L0⟩
  have hd : decide (shownX xs hs f < 0) = false := decide_eq_false hneg
  have ho : goodF xs hs f = true := by
    cases h : goodF xs hs f
    · rw [shownX_of h] at hneg; exact absurd (show (cond false (shownAt hs f) (-2) : Int) < 0 by show (-2 : Int) < 0; omega) hneg
    · rfl
  have hX : shownX xs hs f = shownAt hs f := by rw [shownX_of ho]; rfl
  obtain ⟨i, rfl, hi⟩ := goodF_at ho
  have hin := goodF_in ho
  have hY : reachX xs hs (i : Int) = reachL hs (i : Int) := by unfold reachX; rw [ho]; rfl
  have E1 : Hid (hasI (reachX xs hs (i : Int)) (shownX xs hs (i : Int)) = true) := by
    show _ = _
    rw [hY, hX]; exact hasI_iff'.2 (shown_reach hin.1 hin.2.1 hin.2.2 (by rw [hX] at hneg; omega))
  have hy : shownX xs hs (i : Int) = cond (decide (0 ≤ hs[i].cause)) hs[i].cause (cond hs[i].hide (-1) hs[i].ctx) := by rw [hX, shownAt_at hi]; rfl
  have hylen := reachX_len xs hs (i : Int)
  obtain ⟨b, off, rfl, hbl, k0, k1, k2, k3, k4, _⟩ := S2.flt_at hi
  have hil2 : (i : Int) < (hs.length : Int) := by omega
  clear hX hY hin ho
  generalize shownX xs hs (i : Int) = y at *
  generalize hs[i].cls = v0 at *
  generalize hs[i].code = v1 at *
  generalize hs[i].cause = vc at *
  generalize hs[i].ctx = vx at *
  generalize hs[i].hide = vh at *
  have hyv : (0 ≤ vc ∧ y = vc) ∨ (vc < 0 ∧ vh = false ∧ y = vx) := by
    rw [hy] at hneg ⊢
    by_cases h : 0 ≤ vc
    · left; rw [decide_eq_true h]; exact ⟨h, rfl⟩
    · right
      rw [decide_eq_false h] at hneg ⊢
      cases vh
      · exact ⟨by omega, rfl, rfl⟩
      · exact absurd (show (cond false vc (cond true (-1) vx) : Int) < 0 by show (-1 : Int) < 0; omega) hneg
  clear hy
  rcases hyv with ⟨h0, rfl⟩ | ⟨h0, rfl, rfl⟩
  · have b1 : (y == y) = true := by simp
    go_wp2_with fail
    obtain ⟨x0, x1, x2, x3, x4, zx, hleX⟩ := box5 w3 (.int .i64 v0) (.int .i64 v1) (.int .i64 y) (.int .i64 vx) (.bool vh) 35
    replace S := S.le hleX
    replace S2 := S2.le hleX
    replace L0 := L0.trans hleX
    clear hleX x0 x1 x2 x3 x4
    generalize w3.alloc (.cells #[.int .i64 v0, .int .i64 v1, .int .i64 y, .int .i64 vx, .bool vh] 35) = w4 at *
    refine (Calls.intsH (iReachOf_any B _ m c hs.length q1 xs hs (i : Int) w4 S S2 (by omega))).mono ?_
    rintro e w5 ⟨A5, c5, rfl, S5, hle⟩
    replace L0 := L0.trans hle
    clear hle
    go_wp2_with fail
    refine (Calls.val (isIn_any A5 _ c5 _ y w5 S5) (vb E1.out)).mono ?_
    rintro e w6 ⟨rfl, rfl⟩
    go_wp2
    go_ret
    exact ⟨rfl, L0⟩
  · have b1 : (y == y) = true := by simp
    have b2 : (y == vc) = false := by rw [beq_eq_false_iff_ne]; omega
    have d1 : decide (vc < 0) = true := decide_eq_true h0
    go_wp2_with fail
    obtain ⟨x0, x1, x2, x3, x4, zx, hleX⟩ := box5 w3 (.int .i64 v0) (.int .i64 v1) (.int .i64 vc) (.int .i64 y) (.bool false) 35
    replace S := S.le hleX
    replace S2 := S2.le hleX
    replace L0 := L0.trans hleX
    clear hleX x0 x1 x2 x3 x4
    generalize w3.alloc (.cells #[.int .i64 v0, .int .i64 v1, .int .i64 vc, .int .i64 y, .bool false] 35) = w4 at *
    refine (Calls.intsH (iReachOf_any B _ m c hs.length q1 xs hs (i : Int) w4 S S2 (by omega))).mono ?_
    rintro e w5 ⟨A5, c5, rfl, S5, hle⟩
    replace L0 := L0.trans hle
    clear hle
    go_wp2_with fail
    refine (Calls.val (isIn_any A5 _ c5 _ y w5 S5) (vb E1.out)).mono ?_
    rintro e w6 ⟨rfl, rfl⟩
    go_wp2
    go_ret
    exact ⟨rfl, L0⟩
end Go.Proofs.Ytalcpdjldmgcdaa
