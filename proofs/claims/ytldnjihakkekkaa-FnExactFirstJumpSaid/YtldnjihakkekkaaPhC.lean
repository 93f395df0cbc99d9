/- programs: hasBlock, mayFollow, mostNumbers of the program -/
import Derived.Test.YtldnjihakkekkaaPgA
import Derived.Test.YtldnjihakkekkaaKB
import Derived.Test.YtldnjihakkekkaaI
namespace Go.Proofs.Ytldnjihakkekkaa
open Go.RowKit
theorem bf {a b : Int} (h : a ≠ b) : (a == b) = false := beq_eq_false_iff_ne.2 h
theorem hasBlock_any (k : Int) (w : World) : Calls Try.prog 47 #[.int .i64 k] w fun e w' => e = .returned (.bool (opn k)) ∧ w = w' := by
  by_cases h : 7 ≤ k ∧ k ≤ 12
  · have h6 : k = 7 ∨ k = 8 ∨ k = 9 ∨ k = 10 ∨ k = 11 ∨ k = 12 := by omega
    rcases h6 with rfl | rfl | rfl | rfl | rfl | rfl
    all_goals
      go_enter Try.func47, Try.ntmps47
      go_wp2
      go_ret
      exact ⟨rfl, rfl⟩
  · have b7 := bf (show k ≠ 7 by omega)
    have b8 := bf (show k ≠ 8 by omega)
    have b9 := bf (show k ≠ 9 by omega)
    have b10 := bf (show k ≠ 10 by omega)
    have b11 := bf (show k ≠ 11 by omega)
    have b12 := bf (show k ≠ 12 by omega)
    have HF : Hid (opn k = false) := by
      show _ = _
      cases e : opn k
      · rfl
      · exact absurd (opn_iff.1 e) h
    clear h
    go_enter Try.func47, Try.ntmps47
    go_wp2
    go_ret
    exact ⟨ret_bool HF.out.symm, rfl⟩
theorem mayF_not {a k : Int} (h : ¬ ((k = 8 ∧ (a = 7 ∨ a = 8)) ∨ (k = 9 ∧ a = 8) ∨ (k = 10 ∧ (a = 7 ∨ a = 8 ∨ a = 9)))) : mayF a k = false := by
  cases e : mayF a k
  · rfl
  · exact absurd (mayF_iff.1 e) h
theorem mayFollow_any (a k : Int) (w : World) : Calls Try.prog 82 #[.int .i64 a, .int .i64 k] w fun e w' => e = .returned (.bool (mayF a k)) ∧ w = w' := by
  by_cases h8 : k = 8
  · subst h8
    by_cases a7 : a = 7
    · subst a7
      go_enter Try.func82, Try.ntmps82
      go_wp2
      go_ret
      exact ⟨rfl, rfl⟩
    · by_cases a8 : a = 8
      · subst a8
        go_enter Try.func82, Try.ntmps82
        go_wp2
        go_ret
        exact ⟨rfl, rfl⟩
      · have HF := Lib.hid (mayF_not (a := a) (k := 8) (by omega))
        have b7 := bf a7
        have b8 := bf a8
        clear a7 a8
        go_enter Try.func82, Try.ntmps82
        go_wp2
        go_ret
        exact ⟨ret_bool HF.out.symm, rfl⟩
  · by_cases h9 : k = 9
    · subst h9
      by_cases a8 : a = 8
      · subst a8
        go_enter Try.func82, Try.ntmps82
        go_wp2
        go_ret
        exact ⟨rfl, rfl⟩
      · have HF := Lib.hid (mayF_not (a := a) (k := 9) (by omega))
        have b8 := bf a8
        clear a8
        go_enter Try.func82, Try.ntmps82
        go_wp2
        go_ret
        exact ⟨ret_bool HF.out.symm, rfl⟩
    · by_cases h10 : k = 10
      · subst h10
        by_cases a789 : a = 7 ∨ a = 8 ∨ a = 9
        · rcases a789 with rfl | rfl | rfl
          all_goals
            go_enter Try.func82, Try.ntmps82
            go_wp2
            go_ret
            exact ⟨rfl, rfl⟩
        · have HF := Lib.hid (mayF_not (a := a) (k := 10) (by omega))
          have b7 := bf (show a ≠ 7 by omega)
          have b8 := bf (show a ≠ 8 by omega)
          have b9 := bf (show a ≠ 9 by omega)
          clear a789
          go_enter Try.func82, Try.ntmps82
          go_wp2
          go_ret
          exact ⟨ret_bool HF.out.symm, rfl⟩
      · have HF := Lib.hid (mayF_not (a := a) (k := k) (by omega))
        have b8 := bf h8
        have b9 := bf h9
        have b10 := bf h10
        clear h8 h9 h10
        go_enter Try.func82, Try.ntmps82
        go_wp2
        go_ret
        exact ⟨ret_bool HF.out.symm, rfl⟩
theorem mostNumbers_any (A : Option Addr) (n c : Nat) (k : Int) (w : World) (hn : n ≤ 1048576) :
    Calls Try.prog 68 #[.agg #[.slice A n c], .int .i64 k] w fun e w' => e = .returned (.tuple #[.int .i64 (mostA n k), .int .i64 (mostB k)]) ∧ Le w w' := by
  have hw : IntKind.i64.wrap ((n : Int) - 1) = (n : Int) - 1 := IntWalk.i64_in _ (by omega)
  by_cases h : 0 ≤ k ∧ k ≤ 12
  · have h6 : k = 0 ∨ k = 1 ∨ k = 2 ∨ k = 3 ∨ k = 4 ∨ k = 5 ∨ k = 6 ∨ k = 7 ∨ k = 8 ∨ k = 9 ∨ k = 10 ∨ k = 11 ∨ k = 12 := by omega
    rcases h6 with rfl | rfl | rfl | rfl | rfl | rfl | rfl | rfl | rfl | rfl | rfl | rfl | rfl
    · go_enter Try.func68, Try.ntmps68
      go_wp2
      exact bodyPost_ret (v := .tuple #[.int .i64 0, .int .i64 0]) (by simp [results, Try.results68, go_sem]) rfl ⟨rfl, Le.new w _⟩
    · go_enter Try.func68, Try.ntmps68
      go_wp2
      exact bodyPost_ret (v := .tuple #[.int .i64 99, .int .i64 0]) (by simp [results, Try.results68, go_sem]) rfl ⟨rfl, Le.new w _⟩
    · go_enter Try.func68, Try.ntmps68
      go_wp2
      exact bodyPost_ret (v := .tuple #[.int .i64 ((n : Int) - 1), .int .i64 99]) (by simp [results, Try.results68, go_sem]) rfl ⟨rfl, Le.new w _⟩
    · go_enter Try.func68, Try.ntmps68
      go_wp2
      exact bodyPost_ret (v := .tuple #[.int .i64 0, .int .i64 0]) (by simp [results, Try.results68, go_sem]) rfl ⟨rfl, Le.new w _⟩
    · go_enter Try.func68, Try.ntmps68
      go_wp2
      exact bodyPost_ret (v := .tuple #[.int .i64 99, .int .i64 0]) (by simp [results, Try.results68, go_sem]) rfl ⟨rfl, Le.new w _⟩
    · go_enter Try.func68, Try.ntmps68
      go_wp2
      exact bodyPost_ret (v := .tuple #[.int .i64 0, .int .i64 0]) (by simp [results, Try.results68, go_sem]) rfl ⟨rfl, Le.new w _⟩
    · go_enter Try.func68, Try.ntmps68
      go_wp2
      exact bodyPost_ret (v := .tuple #[.int .i64 0, .int .i64 0]) (by simp [results, Try.results68, go_sem]) rfl ⟨rfl, Le.new w _⟩
    · go_enter Try.func68, Try.ntmps68
      go_wp2
      exact bodyPost_ret (v := .tuple #[.int .i64 0, .int .i64 0]) (by simp [results, Try.results68, go_sem]) rfl ⟨rfl, Le.new w _⟩
    · go_enter Try.func68, Try.ntmps68
      go_wp2
      exact bodyPost_ret (v := .tuple #[.int .i64 ((n : Int) - 1), .int .i64 0]) (by simp [results, Try.results68, go_sem]) rfl ⟨rfl, Le.new w _⟩
    · go_enter Try.func68, Try.ntmps68
      go_wp2
      exact bodyPost_ret (v := .tuple #[.int .i64 0, .int .i64 0]) (by simp [results, Try.results68, go_sem]) rfl ⟨rfl, Le.new w _⟩
    · go_enter Try.func68, Try.ntmps68
      go_wp2
      exact bodyPost_ret (v := .tuple #[.int .i64 0, .int .i64 0]) (by simp [results, Try.results68, go_sem]) rfl ⟨rfl, Le.new w _⟩
    · go_enter Try.func68, Try.ntmps68
      go_wp2
      exact bodyPost_ret (v := .tuple #[.int .i64 9, .int .i64 1]) (by simp [results, Try.results68, go_sem]) rfl ⟨rfl, Le.new w _⟩
    · go_enter Try.func68, Try.ntmps68
      go_wp2
      exact bodyPost_ret (v := .tuple #[.int .i64 3, .int .i64 0]) (by simp [results, Try.results68, go_sem]) rfl ⟨rfl, Le.new w _⟩
  · have HA : Hid (mostA n k = -1) := by
      show _ = _
      unfold mostA; rw [if_neg (by omega), if_neg (by omega), if_neg (by omega), if_neg (by omega), if_neg (by omega)]
    have HB : Hid (mostB k = -1) := by
      show _ = _
      unfold mostB; rw [if_neg (by omega), if_neg (by omega), if_neg (by omega), if_neg (by omega), if_neg (by omega), if_neg (by omega)]
    have b0 := bf (show k ≠ 0 by omega)
    have b1 := bf (show k ≠ 1 by omega)
    have b2 := bf (show k ≠ 2 by omega)
    have b3 := bf (show k ≠ 3 by omega)
    have b4 := bf (show k ≠ 4 by omega)
    have b5 := bf (show k ≠ 5 by omega)
    have b6 := bf (show k ≠ 6 by omega)
    have b7 := bf (show k ≠ 7 by omega)
    have b8 := bf (show k ≠ 8 by omega)
    have b9 := bf (show k ≠ 9 by omega)
    have b10 := bf (show k ≠ 10 by omega)
    have b11 := bf (show k ≠ 11 by omega)
    have b12 := bf (show k ≠ 12 by omega)
    clear h
    go_enter Try.func68, Try.ntmps68
    go_wp2
    exact bodyPost_ret (v := .tuple #[.int .i64 (-1), .int .i64 (-1)]) (by simp [results, Try.results68, go_sem]) rfl ⟨by rw [HA.out, HB.out], Le.new w _⟩
end Go.Proofs.Ytldnjihakkekkaa
