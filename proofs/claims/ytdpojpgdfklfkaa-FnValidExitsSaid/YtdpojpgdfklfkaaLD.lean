/- laws: helpers of the drawn laws. -/
import Derived.Test.YtdpojpgdfklfkaaRows
import Derived.Test.YtdpojpgdfklfkaaP
import Derived.Test.YtdpojpgdfklfkaaI
import Derived.RegionTactic
namespace Go.Proofs.Ytdpojpgdfklfkaa
open Go.RowKit

theorem equalInts_self (A B : Option Addr) (n c d : Nat) (xs : List Int) (w : World) (hR : Sl w A n c xs) (hS : Sl w B n d xs) :
    Calls Try.prog 14 #[.slice A n c, .slice B n d] w fun e w' => e = .returned (.bool true) ∧ Le w w' := by
  obtain rfl := hR.len
  have hm := hR.n_le
  have hb : ((xs.length : Int) != (xs.length : Int)) = false := by simp
  go_enter Try.func14, Try.ntmps14
  go_wp2
  go_loopw [5] (fun i wr => ∃ k : Nat, k ≤ xs.length ∧ i = .int .i64 k ∧ Le w wr) (fun i _ => xs.length - (intOf i).toNat)
  case atStart => exact ⟨0, Nat.zero_le _, rfl, Le.refl _⟩
  case round =>
    obtain ⟨k, hk, rfl, hle⟩ := hrel
    have hRr := hR.le hle
    have hSr := hS.le hle
    clear hR hS
    by_cases hlt : k < xs.length
    · obtain ⟨b, off, rfl, hb, hcell, _, _⟩ := hRr.int_at hlt
      obtain ⟨b2, off2, rfl, hb2, hcell3, _, _⟩ := hSr.int_at hlt
      have E1 := cell_ext hb hcell
      have E2 := cell_ext hb2 hcell3
      have he2 : (xs[k] != xs[k]) = false := by simp
      go_wp2_with fail
      refine wp_region_ext (by kernel_rfl) (by kernel_rfl) ?_
      repeat (go_big_quiet_step (fail))
      refine wpQuiet_nil ?_
      intro _ hw'
      obtain ⟨g, rfl⟩ := hw'
      have hw1 := Le.ext wr g
      generalize wr.ext g = W2 at *
      go_wp2
      go_roundw
      case rel => exact ⟨k + 1, by omega, by go_num, hle.trans hw1⟩
      case measure => simp [intOf]; omega
    · go_wp2
      go_ret
      exact ⟨rfl, hle⟩

end Go.Proofs.Ytdpojpgdfklfkaa
