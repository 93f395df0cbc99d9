/- groups: spec.endOf -/
import Derived.Test.YtpdggodmiliijaaGpB
import Derived.Test.YtpdggodmiliijaaI
namespace Go.Proofs.Ytpdggodmiliijaa
open Go.RowKit
theorem endF_step (g : List Prt) (i : Nat) {k : Nat} (h : k < g.length) :
    endFrom g i (g.length - k) k = if (gAt g i).depth < (gAt g k).depth then endFrom g i (g.length - (k + 1)) (k + 1) else k := by
  obtain ⟨m, hm⟩ : ∃ m, g.length - k = m + 1 := ⟨g.length - k - 1, by omega⟩
  rw [hm, show g.length - (k + 1) = m by omega]
  show (if k < g.length ∧ (gAt g i).depth < (gAt g k).depth then _ else _) = _
  by_cases hd : (gAt g i).depth < (gAt g k).depth
  · rw [if_pos ⟨h, hd⟩, if_pos hd]
  · rw [if_neg (fun x => hd x.2), if_neg hd]
theorem endF_end (g : List Prt) (i : Nat) {k : Nat} (h : ¬ k < g.length) : endFrom g i (g.length - k) k = k := by
  rw [show g.length - k = 0 by omega]; rfl
set_option maxHeartbeats 1000000 in
theorem endOf_any (A : Option Addr) (n cap : Nat) (g : List Prt) (i : Nat) (hi : i < g.length) (w : World) (hR : Sl w A n cap g) :
    Calls Try.prog 77 #[.slice A n cap, .int .i64 i] w fun e w' => e = .returned (.int .i64 (endN g i)) ∧ Le w w' := by
  obtain rfl := hR.len
  have hm := hR.n_le
  have H0 : Hid (endN g i = endFrom g i (g.length - (i + 1)) (i + 1)) := rfl
  obtain ⟨bi, oi, rfl, hbi, hi0, -⟩ := hR.prt_at hi
  have hwi : IntKind.i64.wrap ((i : Int) + 1) = (i : Int) + 1 := IntWalk.i64_in _ (by omega)
  have hix : (0 : Int) ≤ (i : Int) := by omega
  have hin : (i : Int) < (g.length : Int) := by omega
  go_enter Try.func77, Try.ntmps77
  go_wp2
  go_loopw [5] (fun kk wr => ∃ k : Nat, i < k ∧ k ≤ g.length ∧ kk = .int .i64 k ∧ endN g i = endFrom g i (g.length - k) k ∧ Le w wr) (fun kk _ => g.length - (intOf kk).toNat)
  case atStart => exact ⟨i + 1, by omega, by omega, by go_num, H0.out, Le.refl _⟩
  case round =>
    obtain ⟨k, hik, hk, rfl, he, hle⟩ := hrel
    have HE := Lib.hid he
    clear he H0
    have T := hR.le hle
    clear hR hi0
    obtain ⟨b3, off3, e3, hb3, c0, -⟩ := T.prt_at hi
    cases e3
    have F0 := cell_ext hb3 c0
    have hkx : (0 : Int) ≤ (k : Int) := by omega
    by_cases hlt : k < g.length
    · obtain ⟨b2, off2, e2, hb2, d0, -⟩ := T.prt_at hlt
      cases e2
      have E0 := cell_ext hb2 d0
      by_cases hd : g[i].depth < g[k].depth
      · have HE2 : Hid (endN g i = endFrom g i (g.length - (k + 1)) (k + 1)) := by
          show _ = _
          rw [HE.out, endF_step g i hlt, gAt_at hi, gAt_at hlt, if_pos hd]
        clear HE
        go_wp2_with fail
        refine wp_region_ext (by kernel_rfl) (by kernel_rfl) ?_
        repeat (go_big_quiet_step (fail))
        refine wpQuiet_nil ?_
        intro _ hw'
        obtain ⟨gg, rfl⟩ := hw'
        have hw1 := Le.ext wr gg
        generalize wr.ext gg = W2 at *
        go_wp2
        go_roundw
        case rel => exact ⟨k + 1, by omega, by omega, by go_num, HE2.out, hle.trans hw1⟩
        case measure => simp [intOf]; omega
      · have HE2 : Hid (endN g i = k) := by
          show _ = _
          rw [HE.out, endF_step g i hlt, gAt_at hi, gAt_at hlt, if_neg hd]
        clear HE
        go_wp2_with fail
        refine wp_region_ext (by kernel_rfl) (by kernel_rfl) ?_
        repeat (go_big_quiet_step (fail))
        refine wpQuiet_nil ?_
        intro _ hw'
        obtain ⟨gg, rfl⟩ := hw'
        have hw1 := Le.ext wr gg
        generalize wr.ext gg = W2 at *
        go_wp2
        go_ret
        exact ⟨congrArg (fun z : Nat => Ending.returned (.int .i64 (z : Int))) HE2.out.symm, hle.trans hw1⟩
    · have HE2 : Hid (endN g i = k) := by
        show _ = _
        rw [HE.out, endF_end g i hlt]
      clear HE
      go_wp2_with fail
      refine wp_region_ext (by kernel_rfl) (by kernel_rfl) ?_
      repeat (go_big_quiet_step (fail))
      refine wpQuiet_nil ?_
      intro _ hw'
      obtain ⟨gg, rfl⟩ := hw'
      have hw1 := Le.ext wr gg
      generalize wr.ext gg = W2 at *
      go_wp2
      go_ret
      exact ⟨congrArg (fun z : Nat => Ending.returned (.int .i64 (z : Int))) HE2.out.symm, hle.trans hw1⟩
end Go.Proofs.Ytpdggodmiliijaa
