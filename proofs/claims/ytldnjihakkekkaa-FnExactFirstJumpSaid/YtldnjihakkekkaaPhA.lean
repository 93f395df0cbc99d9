/- programs: blockEnd of the model and of the program -/
import Derived.Test.YtldnjihakkekkaaPgA
import Derived.Test.YtldnjihakkekkaaI
namespace Go.Proofs.Ytldnjihakkekkaa
open Go.RowKit
theorem bGo_step (p : List Lin) (d : Int) {k : Nat} (h : k < p.length) : bGo p d (p.length - k) k = if d < dep p k then bGo p d (p.length - (k + 1)) (k + 1) else k := by
  obtain ⟨m, hm⟩ : ∃ m, p.length - k = m + 1 := ⟨p.length - k - 1, by omega⟩
  rw [hm, show p.length - (k + 1) = m by omega]
  rfl
theorem bGo_end (p : List Lin) (d : Int) {k : Nat} (h : ¬ k < p.length) : bGo p d (p.length - k) k = k := by
  rw [show p.length - k = 0 by omega]; rfl
set_option maxHeartbeats 1000000 in
theorem sBlockEnd_any (A : Option Addr) (n cap : Nat) (p : List Lin) (i : Nat) (hi : i < p.length) (w : World) (hR : Sl w A n cap p) :
    Calls Try.prog 65 #[.slice A n cap, .int .i64 i] w fun e w' => e = .returned (.int .i64 (bEnd p i)) ∧ Le w w' := by
  obtain rfl := hR.len
  have hm := hR.n_le
  have H0 : Hid (bEnd p i = bGo p (dep p i) (p.length - (i + 1)) (i + 1)) := rfl
  obtain ⟨bi, oi, rfl, hbi, hi0, -⟩ := hR.lin_at hi
  have hwi : IntKind.i64.wrap ((i : Int) + 1) = (i : Int) + 1 := IntWalk.i64_in _ (by omega)
  have hix : (0 : Int) ≤ (i : Int) := by omega
  have hin : (i : Int) < (p.length : Int) := by omega
  go_enter Try.func65, Try.ntmps65
  go_wp2
  go_loopw [5] (fun kk wr => ∃ k : Nat, i < k ∧ k ≤ p.length ∧ kk = .int .i64 k ∧ bEnd p i = bGo p (dep p i) (p.length - k) k ∧ Le w wr) (fun kk _ => p.length - (intOf kk).toNat)
  case atStart => exact ⟨i + 1, by omega, by omega, by go_num, H0.out, Le.refl _⟩
  case round =>
    obtain ⟨k, hik, hk, rfl, he, hle⟩ := hrel
    have HE := Lib.hid he
    clear he H0
    have T := hR.le hle
    clear hR hi0
    obtain ⟨b3, off3, e3, hb3, c0, -⟩ := T.lin_at hi
    cases e3
    have F0 := cell_ext hb3 c0
    have hkx : (0 : Int) ≤ (k : Int) := by omega
    by_cases hlt : k < p.length
    · obtain ⟨b2, off2, e2, hb2, d0, -⟩ := T.lin_at hlt
      cases e2
      have E0 := cell_ext hb2 d0
      by_cases hd : p[i].depth < p[k].depth
      · have HE2 : Hid (bEnd p i = bGo p (dep p i) (p.length - (k + 1)) (k + 1)) := by
          show _ = _
          rw [HE.out, bGo_step p _ hlt, dep_at hi, dep_at hlt, if_pos hd]
        clear HE
        go_wp2_with fail
        refine wp_region_ext (by kernel_rfl) (by kernel_rfl) ?_
        repeat (go_big_quiet_step (fail))
        refine wpQuiet_nil ?_
        intro _ hw'
        obtain ⟨gg, rfl⟩ := hw'
        have hw1 := Le.ext wr gg
        generalize wr.ext gg = W2 at *
        go_wp2
        go_roundw
        case rel => exact ⟨k + 1, by omega, by omega, by go_num, HE2.out, hle.trans hw1⟩
        case measure => simp [intOf]; omega
      · have HE2 : Hid (bEnd p i = k) := by
          show _ = _
          rw [HE.out, bGo_step p _ hlt, dep_at hi, dep_at hlt, if_neg hd]
        clear HE
        go_wp2_with fail
        refine wp_region_ext (by kernel_rfl) (by kernel_rfl) ?_
        repeat (go_big_quiet_step (fail))
        refine wpQuiet_nil ?_
        intro _ hw'
        obtain ⟨gg, rfl⟩ := hw'
        have hw1 := Le.ext wr gg
        generalize wr.ext gg = W2 at *
        go_wp2
        go_ret
        exact ⟨congrArg (fun z : Nat => Ending.returned (.int .i64 (z : Int))) HE2.out.symm, hle.trans hw1⟩
    · have HE2 : Hid (bEnd p i = k) := by
        show _ = _
        rw [HE.out, bGo_end p _ hlt]
      clear HE
      go_wp2_with fail
      refine wp_region_ext (by kernel_rfl) (by kernel_rfl) ?_
      repeat (go_big_quiet_step (fail))
      refine wpQuiet_nil ?_
      intro _ hw'
      obtain ⟨gg, rfl⟩ := hw'
      have hw1 := Le.ext wr gg
      generalize wr.ext gg = W2 at *
      go_wp2
      go_ret
      exact ⟨congrArg (fun z : Nat => Ending.returned (.int .i64 (z : Int))) HE2.out.symm, hle.trans hw1⟩
set_option maxHeartbeats 1000000 in
theorem iBlockEnd_any (A : Option Addr) (n cap : Nat) (p : List Lin) (i : Nat) (hi : i < p.length) (w : World) (hR : Sl w A n cap p) :
    Calls Try.prog 27 #[.slice A n cap, .int .i64 i] w fun e w' => e = .returned (.int .i64 (bEnd p i)) ∧ Le w w' := by
  obtain rfl := hR.len
  have hm := hR.n_le
  have H0 : Hid (bEnd p i = bGo p (dep p i) (p.length - (i + 1)) (i + 1)) := rfl
  obtain ⟨bi, oi, rfl, hbi, hi0, -⟩ := hR.lin_at hi
  have hwi : IntKind.i64.wrap ((i : Int) + 1) = (i : Int) + 1 := IntWalk.i64_in _ (by omega)
  have hix : (0 : Int) ≤ (i : Int) := by omega
  have hin : (i : Int) < (p.length : Int) := by omega
  go_enter Try.func27, Try.ntmps27
  go_wp2
  go_loopw [5] (fun kk wr => ∃ k : Nat, i < k ∧ k ≤ p.length ∧ kk = .int .i64 k ∧ bEnd p i = bGo p (dep p i) (p.length - k) k ∧ Le w wr) (fun kk _ => p.length - (intOf kk).toNat)
  case atStart => exact ⟨i + 1, by omega, by omega, by go_num, H0.out, Le.refl _⟩
  case round =>
    obtain ⟨k, hik, hk, rfl, he, hle⟩ := hrel
    have HE := Lib.hid he
    clear he H0
    have T := hR.le hle
    clear hR hi0
    obtain ⟨b3, off3, e3, hb3, c0, -⟩ := T.lin_at hi
    cases e3
    have F0 := cell_ext hb3 c0
    have hkx : (0 : Int) ≤ (k : Int) := by omega
    by_cases hlt : k < p.length
    · obtain ⟨b2, off2, e2, hb2, d0, -⟩ := T.lin_at hlt
      cases e2
      have E0 := cell_ext hb2 d0
      by_cases hd : p[i].depth < p[k].depth
      · have HE2 : Hid (bEnd p i = bGo p (dep p i) (p.length - (k + 1)) (k + 1)) := by
          show _ = _
          rw [HE.out, bGo_step p _ hlt, dep_at hi, dep_at hlt, if_pos hd]
        clear HE
        go_wp2_with fail
        refine wp_region_ext (by kernel_rfl) (by kernel_rfl) ?_
        repeat (go_big_quiet_step (fail))
        refine wpQuiet_nil ?_
        intro _ hw'
        obtain ⟨gg, rfl⟩ := hw'
        have hw1 := Le.ext wr gg
        generalize wr.ext gg = W2 at *
        go_wp2
        go_roundw
        case rel => exact ⟨k + 1, by omega, by omega, by go_num, HE2.out, hle.trans hw1⟩
        case measure => simp [intOf]; omega
      · have HE2 : Hid (bEnd p i = k) := by
          show _ = _
          rw [HE.out, bGo_step p _ hlt, dep_at hi, dep_at hlt, if_neg hd]
        clear HE
        go_wp2_with fail
        refine wp_region_ext (by kernel_rfl) (by kernel_rfl) ?_
        repeat (go_big_quiet_step (fail))
        refine wpQuiet_nil ?_
        intro _ hw'
        obtain ⟨gg, rfl⟩ := hw'
        have hw1 := Le.ext wr gg
        generalize wr.ext gg = W2 at *
        go_wp2
        go_ret
        exact ⟨congrArg (fun z : Nat => Ending.returned (.int .i64 (z : Int))) HE2.out.symm, hle.trans hw1⟩
    · have HE2 : Hid (bEnd p i = k) := by
        show _ = _
        rw [HE.out, bGo_end p _ hlt]
      clear HE
      go_wp2_with fail
      refine wp_region_ext (by kernel_rfl) (by kernel_rfl) ?_
      repeat (go_big_quiet_step (fail))
      refine wpQuiet_nil ?_
      intro _ hw'
      obtain ⟨gg, rfl⟩ := hw'
      have hw1 := Le.ext wr gg
      generalize wr.ext gg = W2 at *
      go_wp2
      go_ret
      exact ⟨congrArg (fun z : Nat => Ending.returned (.int .i64 (z : Int))) HE2.out.symm, hle.trans hw1⟩
end Go.Proofs.Ytldnjihakkekkaa
