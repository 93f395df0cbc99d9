/- law helpers: equal exits -/
import Derived.Test.YtonpgohigncjeaaCx4
import Derived.Test.YtonpgohigncjeaaRows
import Derived.Test.YtonpgohigncjeaaCx1
import Derived.Test.YtonpgohigncjeaaCx2
import Derived.RegionTactic
namespace Go.Proofs.Ytonpgohigncjeaa
open Go.RowKit
set_option maxRecDepth 100000 in
theorem equalExits_self (A B : Option Addr) (n c d : Nat) (xs : List Xit) (w : World) (hR : Sl w A n c xs) (hS : Sl w B n d xs) :
    Calls Try.prog 18 #[.slice A n c, .slice B n d] w fun e w' => e = .returned (.bool true) ∧ Le w w' := by
  obtain rfl := hR.len
  have hm := hR.n_le
  have hb : ((xs.length : Int) != (xs.length : Int)) = false := by simp
  go_enter Try.func18, Try.ntmps18
  go_wp2
  go_loopw [5] (fun i wr => ∃ k : Nat, k ≤ xs.length ∧ i = .int .i64 k ∧ Le w wr) (fun i _ => xs.length - (intOf i).toNat)
  case atStart => exact ⟨0, Nat.zero_le _, rfl, Le.refl _⟩
  case round =>
    obtain ⟨k, hk, rfl, hle⟩ := hrel
    have hRr := hR.le hle
    have hSr := hS.le hle
    clear hR hS
    by_cases hlt : k < xs.length
    · obtain ⟨b, off, rfl, hb, hcell0, hcell1, hcell2, _⟩ := hRr.xit_at hlt
      obtain ⟨b2, off2, rfl, hb2, hdell0, hdell1, hdell2, _⟩ := hSr.xit_at hlt
      have E0 := cell_ext hb hcell0
      have F0 := cell_ext hb2 hdell0
      have E1 := cell_ext hb hcell1
      have F1 := cell_ext hb2 hdell1
      have E2 := cell_ext hb hcell2
      have F2 := cell_ext hb2 hdell2
      have q0 : (xs[k].kind == xs[k].kind) = true := by simp
      have q1 : (xs[k].a == xs[k].a) = true := by simp
      have q2 : (xs[k].b == xs[k].b) = true := by simp
      go_wp2_with fail
      refine wp_region_ext (by kernel_rfl) (by kernel_rfl) ?_
      repeat (go_big_quiet_step (fail))
      refine wpQuiet_nil ?_
      intro _ hw'
      obtain ⟨g, rfl⟩ := hw'
      have hw1 := Le.ext wr g
      generalize wr.ext g = W2 at *
      go_wp2
      go_roundw
      case rel => exact ⟨k + 1, by omega, by go_num, hle.trans hw1⟩
      case measure => simp [intOf]; omega
    · go_wp2
      go_ret
      exact ⟨rfl, hle⟩
end Go.Proofs.Ytonpgohigncjeaa
