/- programs: validNumbers of the model (wip/gen/vnum.py) -/
import Derived.Test.YtldnjihakkekkaaPhC
import Derived.Test.YtldnjihakkekkaaPhF
import Derived.Test.YtldnjihakkekkaaI
namespace Go.Proofs.Ytldnjihakkekkaa
open Go.RowKit
theorem boxTL (w : World) (s a b c d : Value) (T U : TypeId) : ((w.alloc (.cells #[s] T)).alloc (.cells #[a, b, c, d] U)).cell? ⟨w.heap.size, 0, none⟩ = some s ∧ ((w.alloc (.cells #[s] T)).alloc (.cells #[a, b, c, d] U)).cell? ⟨w.heap.size + 1, 1, none⟩ = some b ∧
    ((w.alloc (.cells #[s] T)).alloc (.cells #[a, b, c, d] U)).cell? ⟨w.heap.size + 1, 2, none⟩ = some c ∧ ((w.alloc (.cells #[s] T)).alloc (.cells #[a, b, c, d] U)).cell? ⟨w.heap.size + 1, 3, none⟩ = some d ∧
    w.heap.size < ((w.alloc (.cells #[s] T)).alloc (.cells #[a, b, c, d] U)).heap.size ∧ w.heap.size + 1 < ((w.alloc (.cells #[s] T)).alloc (.cells #[a, b, c, d] U)).heap.size ∧ Le w ((w.alloc (.cells #[s] T)).alloc (.cells #[a, b, c, d] U)) := by
  have hs : (w.alloc (.cells #[s] T)).heap.size = w.heap.size + 1 := by simp
  refine ⟨?_, ?_, ?_, ?_, by simp; omega, by simp, (Le.new w _).alloc _⟩
  · rw [World.cell?_alloc_past _ _ _ (by simp), World.cell?_alloc_at _ _ _ _ rfl]; rfl
  all_goals (rw [World.cell?_alloc_at _ _ _ _ (by simp)]; rfl)
set_option maxHeartbeats 1000000 in
theorem validNumbers_any (B : Option Addr) (m c : Nat) (xs : List Cls) (vd k a b : Int) (w : World) (hR : Sl w B m c xs) :
    Calls Try.prog 56 #[.agg #[.slice B m c], .agg #[.int .i64 vd, .int .i64 k, .int .i64 a, .int .i64 b]] w fun e w' => e = .returned (.bool (numS xs k a b)) ∧ Le w w' := by
  have H0 : Hid (numS xs k a b = if k = 1 ∨ k = 4 then rng 0 99 a && (b == 0) else if k = 2 then hasK xs a && rng 0 99 b else if k = 8 then hasK xs a && (b == 0) else if k = 11 then rng 0 9 a && rng 0 1 b else if k = 12 then rng 0 3 a && (b == 0) else rng 0 10 k && (a == 0) && (b == 0)) := rfl
  generalize numS xs k a b = R at *
  by_cases h1 : k = 1
  · subst h1
    have HF : Hid (R = (rng 0 99 a && (b == 0))) := H0.out
    clear H0
    go_enter Try.func56, Try.ntmps56
    go_wp2_with fail
    obtain ⟨x0, x1, x2, x3, s0, s1, L1⟩ := boxTL w (.slice B m c) (.int .i64 vd) (.int .i64 1) (.int .i64 a) (.int .i64 b) 31 49
    have T := hR.le L1
    clear hR
    generalize hX : w.heap.size + 1 = X at *
    generalize w.heap.size = X0 at *
    generalize (w.alloc (.cells #[.slice B m c] 31)).alloc _ = W at *
    refine (inRange_any a 0 99 _).mono ?_
    rintro e w2 ⟨rfl, rfl⟩
    cases r1 : (decide (0 ≤ a) && decide (a ≤ 99))
    · have HF2 : Hid (R = false) := HF.out.trans (by show ((decide (0 ≤ a) && decide (a ≤ 99)) && _) = _; rw [r1]; rfl)
      clear HF
      go_wp2
      go_ret
      exact ⟨ret_bool HF2.out.symm, L1⟩
    · have HF2 : Hid (R = (b == 0)) := HF.out.trans (by show ((decide (0 ≤ a) && decide (a ≤ 99)) && _) = _; rw [r1]; rfl)
      clear HF
      go_wp2
      go_ret
      exact ⟨ret_bool HF2.out.symm, L1⟩
  by_cases h4 : k = 4
  · subst h4
    have HF : Hid (R = (rng 0 99 a && (b == 0))) := H0.out
    clear H0
    go_enter Try.func56, Try.ntmps56
    go_wp2_with fail
    obtain ⟨x0, x1, x2, x3, s0, s1, L1⟩ := boxTL w (.slice B m c) (.int .i64 vd) (.int .i64 4) (.int .i64 a) (.int .i64 b) 31 49
    have T := hR.le L1
    clear hR
    generalize hX : w.heap.size + 1 = X at *
    generalize w.heap.size = X0 at *
    generalize (w.alloc (.cells #[.slice B m c] 31)).alloc _ = W at *
    refine (inRange_any a 0 99 _).mono ?_
    rintro e w2 ⟨rfl, rfl⟩
    cases r1 : (decide (0 ≤ a) && decide (a ≤ 99))
    · have HF2 : Hid (R = false) := HF.out.trans (by show ((decide (0 ≤ a) && decide (a ≤ 99)) && _) = _; rw [r1]; rfl)
      clear HF
      go_wp2
      go_ret
      exact ⟨ret_bool HF2.out.symm, L1⟩
    · have HF2 : Hid (R = (b == 0)) := HF.out.trans (by show ((decide (0 ≤ a) && decide (a ≤ 99)) && _) = _; rw [r1]; rfl)
      clear HF
      go_wp2
      go_ret
      exact ⟨ret_bool HF2.out.symm, L1⟩
  by_cases h2 : k = 2
  · subst h2
    have HF : Hid (R = (hasK xs a && rng 0 99 b)) := H0.out
    clear H0
    go_enter Try.func56, Try.ntmps56
    go_wp2_with fail
    obtain ⟨x0, x1, x2, x3, s0, s1, L1⟩ := boxTL w (.slice B m c) (.int .i64 vd) (.int .i64 2) (.int .i64 a) (.int .i64 b) 31 49
    have T := hR.le L1
    clear hR
    generalize hX : w.heap.size + 1 = X at *
    generalize w.heap.size = X0 at *
    generalize (w.alloc (.cells #[.slice B m c] 31)).alloc _ = W at *
    refine (hasClass_any B m c xs a _ T).mono ?_
    rintro e w2 ⟨rfl, hl⟩
    have y3 := (hl.cell s1).trans x3
    have L2 := L1.trans hl
    clear x0 x1 x2 x3 s0 s1 T L1 hl
    cases r1 : hasK xs a
    · have HF2 : Hid (R = false) := HF.out.trans (by rw [r1]; rfl)
      clear HF
      go_wp2
      go_ret
      exact ⟨ret_bool HF2.out.symm, L2⟩
    · have HF2 : Hid (R = rng 0 99 b) := HF.out.trans (by rw [r1]; rfl)
      clear HF
      go_wp2_with fail
      refine (inRange_any b 0 99 _).mono ?_
      rintro e w3 ⟨rfl, rfl⟩
      go_wp2
      go_ret
      exact ⟨ret_bool HF2.out.symm, L2⟩
  by_cases h8 : k = 8
  · subst h8
    have HF : Hid (R = (hasK xs a && (b == 0))) := H0.out
    clear H0
    go_enter Try.func56, Try.ntmps56
    go_wp2_with fail
    obtain ⟨x0, x1, x2, x3, s0, s1, L1⟩ := boxTL w (.slice B m c) (.int .i64 vd) (.int .i64 8) (.int .i64 a) (.int .i64 b) 31 49
    have T := hR.le L1
    clear hR
    generalize hX : w.heap.size + 1 = X at *
    generalize w.heap.size = X0 at *
    generalize (w.alloc (.cells #[.slice B m c] 31)).alloc _ = W at *
    refine (hasClass_any B m c xs a _ T).mono ?_
    rintro e w2 ⟨rfl, hl⟩
    have y3 := (hl.cell s1).trans x3
    have L2 := L1.trans hl
    clear x0 x1 x2 x3 s0 s1 T L1 hl
    cases r1 : hasK xs a
    · have HF2 : Hid (R = false) := HF.out.trans (by rw [r1]; rfl)
      clear HF
      go_wp2
      go_ret
      exact ⟨ret_bool HF2.out.symm, L2⟩
    · have HF2 : Hid (R = (b == 0)) := HF.out.trans (by rw [r1]; rfl)
      clear HF
      go_wp2
      go_ret
      exact ⟨ret_bool HF2.out.symm, L2⟩
  by_cases h11 : k = 11
  · subst h11
    have HF : Hid (R = (rng 0 9 a && rng 0 1 b)) := H0.out
    clear H0
    go_enter Try.func56, Try.ntmps56
    go_wp2_with fail
    obtain ⟨x0, x1, x2, x3, s0, s1, L1⟩ := boxTL w (.slice B m c) (.int .i64 vd) (.int .i64 11) (.int .i64 a) (.int .i64 b) 31 49
    have T := hR.le L1
    clear hR
    generalize hX : w.heap.size + 1 = X at *
    generalize w.heap.size = X0 at *
    generalize (w.alloc (.cells #[.slice B m c] 31)).alloc _ = W at *
    refine (inRange_any a 0 9 _).mono ?_
    rintro e w2 ⟨rfl, rfl⟩
    cases r1 : (decide (0 ≤ a) && decide (a ≤ 9))
    · have HF2 : Hid (R = false) := HF.out.trans (by show ((decide (0 ≤ a) && decide (a ≤ 9)) && _) = _; rw [r1]; rfl)
      clear HF
      go_wp2
      go_ret
      exact ⟨ret_bool HF2.out.symm, L1⟩
    · have HF2 : Hid (R = rng 0 1 b) := HF.out.trans (by show ((decide (0 ≤ a) && decide (a ≤ 9)) && _) = _; rw [r1]; rfl)
      clear HF
      go_wp2_with fail
      refine (inRange_any b 0 1 _).mono ?_
      rintro e w3 ⟨rfl, rfl⟩
      go_wp2
      go_ret
      exact ⟨ret_bool HF2.out.symm, L1⟩
  by_cases h12 : k = 12
  · subst h12
    have HF : Hid (R = (rng 0 3 a && (b == 0))) := H0.out
    clear H0
    go_enter Try.func56, Try.ntmps56
    go_wp2_with fail
    obtain ⟨x0, x1, x2, x3, s0, s1, L1⟩ := boxTL w (.slice B m c) (.int .i64 vd) (.int .i64 12) (.int .i64 a) (.int .i64 b) 31 49
    have T := hR.le L1
    clear hR
    generalize hX : w.heap.size + 1 = X at *
    generalize w.heap.size = X0 at *
    generalize (w.alloc (.cells #[.slice B m c] 31)).alloc _ = W at *
    refine (inRange_any a 0 3 _).mono ?_
    rintro e w2 ⟨rfl, rfl⟩
    cases r1 : (decide (0 ≤ a) && decide (a ≤ 3))
    · have HF2 : Hid (R = false) := HF.out.trans (by show ((decide (0 ≤ a) && decide (a ≤ 3)) && _) = _; rw [r1]; rfl)
      clear HF
      go_wp2
      go_ret
      exact ⟨ret_bool HF2.out.symm, L1⟩
    · have HF2 : Hid (R = (b == 0)) := HF.out.trans (by show ((decide (0 ≤ a) && decide (a ≤ 3)) && _) = _; rw [r1]; rfl)
      clear HF
      go_wp2
      go_ret
      exact ⟨ret_bool HF2.out.symm, L1⟩
  have b1 := bf h1
  have b4 := bf h4
  have b2 := bf h2
  have b8 := bf h8
  have b11 := bf h11
  have b12 := bf h12
  have HF : Hid (R = (rng 0 10 k && (a == 0) && (b == 0))) := H0.out.trans (by rw [if_neg (by omega), if_neg h2, if_neg h8, if_neg h11, if_neg h12])
  clear H0 h1 h2 h4 h8 h11 h12
  go_enter Try.func56, Try.ntmps56
  go_wp2_with fail
  obtain ⟨x0, x1, x2, x3, s0, s1, L1⟩ := boxTL w (.slice B m c) (.int .i64 vd) (.int .i64 k) (.int .i64 a) (.int .i64 b) 31 49
  have T := hR.le L1
  clear hR
  generalize hX : w.heap.size + 1 = X at *
  generalize w.heap.size = X0 at *
  generalize (w.alloc (.cells #[.slice B m c] 31)).alloc _ = W at *
  refine (inRange_any k 0 10 _).mono ?_
  rintro e w2 ⟨rfl, rfl⟩
  cases r1 : (decide (0 ≤ k) && decide (k ≤ 10))
  · have HF2 : Hid (R = false) := HF.out.trans (by show (((decide (0 ≤ k) && decide (k ≤ 10)) && _) && _) = _; rw [r1]; rfl)
    clear HF
    go_wp2
    go_ret
    exact ⟨ret_bool HF2.out.symm, L1⟩
  · cases r2 : (a == 0)
    · have HF2 : Hid (R = false) := HF.out.trans (by show (((decide (0 ≤ k) && decide (k ≤ 10)) && _) && _) = _; rw [r1, r2]; rfl)
      clear HF
      go_wp2
      go_ret
      exact ⟨ret_bool HF2.out.symm, L1⟩
    · have HF2 : Hid (R = (b == 0)) := HF.out.trans (by show (((decide (0 ≤ k) && decide (k ≤ 10)) && _) && _) = _; rw [r1, r2]; rfl)
      clear HF
      go_wp2
      go_ret
      exact ⟨ret_bool HF2.out.symm, L1⟩
end Go.Proofs.Ytldnjihakkekkaa
