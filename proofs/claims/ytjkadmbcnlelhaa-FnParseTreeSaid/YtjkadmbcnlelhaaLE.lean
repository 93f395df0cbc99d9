/- laws: equalTree of equal trees -/
import Derived.Test.YtjkadmbcnlelhaaLD
import Derived.Test.YtjkadmbcnlelhaaKB
namespace Go.Proofs.Ytjkadmbcnlelhaa
open Go.RowKit

theorem equalTree_self (A B : Option Addr) (n c d : Nat) (xs : List Cls) (w : World) (hR : Sl w A n c xs) (hS : Sl w B n d xs) :
    Calls Try.prog 11 #[.agg #[.slice A n c], .agg #[.slice B n d]] w fun e w' => e = .returned (.bool true) ∧ Le w w' := by
  obtain rfl := hR.len
  have hm := hR.n_le
  have hb : ((xs.length : Int) != (xs.length : Int)) = false := by simp
  go_enter Try.func11, Try.ntmps11
  go_wp2
  obtain ⟨c0, z0, c1, z1, L0⟩ := box2 w (.slice A xs.length c) (.slice B xs.length d) 25 25
  have S1 := hR.le L0
  have S2 := hS.le L0
  generalize (w.alloc (.cells #[.slice A xs.length c] 25)).alloc (.cells #[.slice B xs.length d] 25) = W at *
  go_loopw [5] (fun i wr => ∃ k : Nat, k ≤ xs.length ∧ i = .int .i64 k ∧ Le W wr) (fun i _ => xs.length - (intOf i).toNat)
  case atStart => exact ⟨0, Nat.zero_le _, rfl, Le.refl _⟩
  case round =>
    obtain ⟨k, hk, rfl, hle⟩ := hrel
    replace c0 := (hle.cell z0).trans c0
    replace c1 := (hle.cell z1).trans c1
    replace z0 := Nat.lt_of_lt_of_le z0 hle.size
    replace z1 := Nat.lt_of_lt_of_le z1 hle.size
    replace L0 := L0.trans hle
    replace S1 := S1.le hle
    replace S2 := S2.le hle
    by_cases hlt : k < xs.length
    · obtain ⟨b, off, rfl, hb1, hcell0, hcell1, _⟩ := S1.cls_at hlt
      obtain ⟨b2, off2, rfl, hb2, hdell0, hdell1, _⟩ := S2.cls_at hlt
      have E0 := cell_ext hb1 hcell0
      have E1 := cell_ext hb1 hcell1
      have F0 := cell_ext hb2 hdell0
      have F1 := cell_ext hb2 hdell1
      have G0 := cell_ext z0 c0
      have G1 := cell_ext z1 c1
      generalize xs[k].name = nm at *
      generalize xs[k].parent = pa at *
      go_wp2_with fail
      refine wp_region_ext (by kernel_rfl) (by kernel_rfl) ?_
      repeat (go_big_quiet_step (fail))
      refine wpQuiet_nil ?_
      intro _ hw'
      obtain ⟨g, rfl⟩ := hw'
      have hw1 := Le.ext wr g
      generalize wr.ext g = W2 at *
      go_wp2
      go_roundw
      case rel => exact ⟨k + 1, by omega, by go_num, hle.trans hw1⟩
      case measure => simp [intOf]; omega
    · go_wp2
      go_ret
      exact ⟨rfl, L0⟩
end Go.Proofs.Ytjkadmbcnlelhaa
