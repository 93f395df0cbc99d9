/- groups: impl.validDepth, impl.validPart -/
import Derived.Test.YtpdggodmiliijaaGpB
import Derived.Test.YtpdggodmiliijaaD
namespace Go.Proofs.Ytpdggodmiliijaa
open Go.RowKit
theorem giRange_any (a b c : Int) (w : World) : Calls Try.prog 82 #[.int .i64 a, .int .i64 b, .int .i64 c] w fun e w' => e = .returned (.bool (rng b c a)) ∧ w = w' := by
  go_enter Try.func82, Try.ntmps82
  go_wp2
  all_goals (go_ret; simp_all [rng])
  all_goals omega
set_option maxHeartbeats 1000000 in
theorem ivalidDepth_any (A : Option Addr) (n cap : Nat) (g : List Prt) (k : Nat) (hk : k < g.length) (w : World) (hR : Sl w A n cap g)
    (hp : 0 < k → 0 ≤ (gAt g (k - 1)).depth ∧ (gAt g (k - 1)).depth ≤ 5) :
    Calls Try.prog 83 #[.slice A n cap, .int .i64 k] w fun e w' => e = .returned (.bool (depthP g k)) ∧ Le w w' := by
  obtain rfl := hR.len
  have hm := hR.n_le
  obtain ⟨b, off, rfl, hb, c0, c1, -⟩ := hR.prt_at hk
  by_cases h0 : k = 0
  · subst h0
    have HF : Hid (depthP g 0 = (g[0].depth == 0)) := by
      show _ = _
      unfold depthP; rw [if_pos rfl, gAt_at hk]; rfl
    simp only [Nat.zero_mul, Nat.add_zero] at c0
    go_enter Try.func83, Try.ntmps83
    go_wp2
    go_ret
    exact ⟨ret_bool HF.out.symm, Le.refl _⟩
  · obtain ⟨j, hjk⟩ : ∃ j, k = j + 1 := ⟨k - 1, by omega⟩
    have hjl : j < g.length := by omega
    have hp2 := hp (by omega)
    rw [show k - 1 = j by omega, gAt_at hjl] at hp2
    obtain ⟨b2, off2, e2, hb2, d0, d1, -⟩ := hR.prt_at hjl
    cases e2
    have HF : Hid (depthP g k = rng 1 (min (g[j].depth + (if g[j].group = true then 1 else 0)) 5) g[k].depth) := by
      show _ = _
      unfold depthP; rw [if_neg h0, show k - 1 = j by omega, gAt_at hjl, gAt_at hk]
    have hwz : IntKind.i64.wrap ((k : Int) - 1) = (j : Int) := by rw [show (k : Int) - 1 = (j : Int) by omega]; exact IntWalk.i64_in _ (by omega)
    have hwd : IntKind.i64.wrap (g[j].depth + 1) = g[j].depth + 1 := IntWalk.i64_in _ (by omega)
    have hj0 : (0 : Int) ≤ (j : Int) := by omega
    have hjn : (j : Int) < (g.length : Int) := by omega
    have hk0 : ((k : Int) == 0) = false := by simp; omega
    clear hjk hp
    cases hg : g[j].group
    · have HF2 : Hid (depthP g k = rng 1 g[j].depth g[k].depth) := by
        show _ = _
        rw [HF.out, hg, if_neg (by decide), Int.add_zero, Int.min_eq_left (by omega)]
      clear HF
      rw [hg] at d1
      have h5 : g[j].depth ≤ 5 := hp2.2
      go_enter Try.func83, Try.ntmps83
      go_wp2_with (go_at_call 82; refine (giRange_any _ _ _ _).mono ?_; rintro e w' ⟨rfl, rfl⟩)
      go_ret
      exact ⟨ret_bool HF2.out.symm, Le.refl _⟩
    · rw [hg] at d1
      by_cases h5 : g[j].depth + 1 ≤ 5
      all_goals
        first
          | have HF2 : Hid (depthP g k = rng 1 (g[j].depth + 1) g[k].depth) := by
              show _ = _
              rw [HF.out, hg, if_pos rfl, Int.min_eq_left h5]
          | have HF2 : Hid (depthP g k = rng 1 5 g[k].depth) := by
              show _ = _
              rw [HF.out, hg, if_pos rfl, Int.min_eq_right (by omega)]
        clear HF
        go_enter Try.func83, Try.ntmps83
        go_wp2_with (go_at_call 82; refine (giRange_any _ _ _ _).mono ?_; rintro e w' ⟨rfl, rfl⟩)
        go_ret
        exact ⟨ret_bool HF2.out.symm, Le.refl _⟩
end Go.Proofs.Ytpdggodmiliijaa
