import Derived.Test.YtjldbpbamankfaaPhC
import Derived.Test.YtjldbpbamankfaaPhF
namespace Go.Proofs.Ytjldbpbamankfaa
open Go.RowKit
theorem box4 (w : World) (a b c d : Value) (T : TypeId) : (w.alloc (.cells #[a, b, c, d] T)).cell? ⟨w.heap.size, 0, none⟩ = some a ∧ (w.alloc (.cells #[a, b, c, d] T)).cell? ⟨w.heap.size, 1, none⟩ = some b ∧
    w.heap.size < (w.alloc (.cells #[a, b, c, d] T)).heap.size ∧ Le w (w.alloc (.cells #[a, b, c, d] T)) := by
  refine ⟨?_, ?_, by simp, Le.new w _⟩ <;> (rw [World.cell?_alloc_at _ _ _ _ rfl]; rfl)
set_option maxHeartbeats 1000000 in
theorem validLineDepth_any (A : Option Addr) (n cap : Nat) (p : List Lin) (i : Nat) (hi : i < p.length) (hsm : p.length ≤ 1048576) (hpr : 0 < i → 0 ≤ dep p (i - 1) ∧ dep p (i - 1) ≤ 5) (w : World) (hR : Sl w A n cap p) :
    Calls Try.prog 112 #[.slice A n cap, .int .i64 i] w fun e w' => e = .returned (.bool (depB p i)) ∧ Le w w' := by
  obtain rfl := hR.len
  obtain ⟨b, off, rfl, hb, c0, -⟩ := hR.lin_at hi
  cases i with
  | zero =>
    have HF : Hid (depB p 0 = (p[0].depth == 0)) := by show _ = _; unfold depB; rw [if_pos rfl, dep_at hi]
    simp only [Nat.zero_mul, Nat.add_zero] at c0
    have h0n : (0 : Int) < (p.length : Int) := by omega
    go_enter Try.func112, Try.ntmps112
    go_wp2
    go_ret
    exact ⟨ret_bool HF.out.symm, Le.refl _⟩
  | succ j =>
    have hj : j < p.length := by omega
    have hp2 := hpr (by omega)
    rw [Nat.add_sub_cancel, dep_at hj] at hp2
    obtain ⟨b', off', e, _, d0, d1, d2, d3, hok⟩ := hR.lin_at hj
    injection e with e
    injection e with e1 e2
    subst e1
    subst e2
    have hcast : ((j + 1 : Nat) : Int) = (j : Int) + 1 := by omega
    have hwj : IntKind.i64.wrap ((j : Int) + 1 - 1) = (j : Int) := by rw [Int.add_sub_cancel]; exact IntWalk.i64_in _ (by omega)
    have hwj2 : IntKind.i64.wrap (j : Int) = (j : Int) := IntWalk.i64_in _ (by omega)
    have hj0 : (0 : Int) ≤ (j : Int) := by omega
    have hj1 : (0 : Int) ≤ (j : Int) + 1 := by omega
    have hjn : (j : Int) < (p.length : Int) := by omega
    have hjn2 : (j : Int) + 1 < (p.length : Int) := by omega
    have hne : ((j : Int) + 1 == 0) = false := bf (by omega)
    have hwd : IntKind.i64.wrap (p[j].depth + 1) = p[j].depth + 1 := IntWalk.i64_in _ (by omega)
    have HF : Hid (depB p (j + 1) = if opn p[j].kind = true then decide (p[j].depth < 5) && (p[j + 1].depth == p[j].depth + 1) else rng 0 p[j].depth p[j + 1].depth) := by
      show _ = _
      unfold depB
      rw [if_neg (by omega), Nat.add_sub_cancel, knd_at hj, dep_at hj, dep_at hi]
    rw [hcast]
    clear hpr hok
    generalize p[j].depth = vd at *
    generalize p[j].kind = vk at *
    generalize p[j].a = va at *
    generalize p[j].b = vb at *
    generalize p[j + 1].depth = vi at *
    go_enter Try.func112, Try.ntmps112
    go_wp2_with fail
    obtain ⟨x0, x1, x2, L1⟩ := box4 w (.int .i64 vd) (.int .i64 vk) (.int .i64 va) (.int .i64 vb) 52
    have k0 := (L1.cell hb).trans c0
    have hb1 : b < (w.alloc (.cells #[.int .i64 vd, .int .i64 vk, .int .i64 va, .int .i64 vb] 52)).heap.size := Nat.lt_of_lt_of_le hb L1.size
    clear d0 d1 d2 d3 hR c0
    generalize hbx : w.heap.size = B at *
    refine (hasBlock_any vk _).mono ?_
    rintro e w2 ⟨rfl, rfl⟩
    generalize hW : w.alloc _ = W at *
    have X0 := cell_ext x2 x0
    have K0 := cell_ext hb1 k0
    cases ho : opn vk
    · have HF2 : Hid (depB p (j + 1) = rng 0 vd vi) := by show _ = _; rw [HF.out, ho, if_neg (by simp)]
      clear HF
      cases hr : rng 0 vd vi
      all_goals
        rw [hr] at HF2
        have hc := fun U : World => iRange_any vi 0 vd U
        rw [hr] at hc
        go_wp2_with fail
        refine wp_region_ext (by kernel_rfl) (by kernel_rfl) ?_
        repeat (go_big_quiet_step (fail))
        go_big_quiet_step (first | (go_at_call 75; exact Calls.ext_same (hc _)))
        repeat (go_big_quiet_step (fail))
        refine wpQuiet_nil ?_
        intro _ hw'
        obtain ⟨gg, rfl⟩ := hw'
        have hw1 := Le.ext W gg
        generalize W.ext gg = W2 at *
        go_wp2
        go_ret
        exact ⟨ret_bool HF2.out.symm, L1.trans hw1⟩
    · by_cases h5 : vd < 5
      · have h5b : decide (vd < 5) = true := decide_eq_true h5
        have HF2 : Hid (depB p (j + 1) = (vi == vd + 1)) := by show _ = _; rw [HF.out, ho, if_pos rfl, h5b, Bool.true_and]
        clear HF
        go_wp2_with fail
        refine wp_region_ext (by kernel_rfl) (by kernel_rfl) ?_
        repeat (go_big_quiet_step (fail))
        refine wpQuiet_nil ?_
        intro _ hw'
        obtain ⟨gg, rfl⟩ := hw'
        have hw1 := Le.ext W gg
        generalize W.ext gg = W2 at *
        go_wp2
        go_ret
        exact ⟨ret_bool HF2.out.symm, L1.trans hw1⟩
      · have h5b : decide (vd < 5) = false := decide_eq_false h5
        have HF2 : Hid (depB p (j + 1) = false) := by show _ = _; rw [HF.out, ho, if_pos rfl, h5b, Bool.false_and]
        clear HF
        go_wp2_with fail
        refine wp_region_ext (by kernel_rfl) (by kernel_rfl) ?_
        repeat (go_big_quiet_step (fail))
        refine wpQuiet_nil ?_
        intro _ hw'
        obtain ⟨gg, rfl⟩ := hw'
        have hw1 := Le.ext W gg
        generalize W.ext gg = W2 at *
        go_wp2
        go_ret
        exact ⟨ret_bool HF2.out.symm, L1.trans hw1⟩
end Go.Proofs.Ytjldbpbamankfaa
