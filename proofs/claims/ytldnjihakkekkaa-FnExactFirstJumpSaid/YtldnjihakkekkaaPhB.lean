/- programs: opens, follows, sameNext, headOf, inLoop of the model -/
import Derived.Test.YtldnjihakkekkaaPhA
import Derived.Test.YtldnjihakkekkaaHpB
namespace Go.Proofs.Ytldnjihakkekkaa
open Go.RowKit
theorem opens_any (k : Int) (w : World) : Calls Try.prog 58 #[.int .i64 k] w fun e w' => e = .returned (.bool (opn k)) ∧ w = w' := by
  go_enter Try.func58, Try.ntmps58
  go_wp2_with fail
  refine (rng_any _ _ _ _).mono ?_
  rintro e w' ⟨rfl, rfl⟩
  have HF : Hid (rng 7 12 k = opn k) := rfl
  rw [HF.out]
  go_wp2
  go_ret
  exact ⟨rfl, rfl⟩
theorem follows_any (k : Int) (w : World) : Calls Try.prog 61 #[.int .i64 k] w fun e w' => e = .returned (.bool (fol k)) ∧ w = w' := by
  go_enter Try.func61, Try.ntmps61
  go_wp2_with fail
  refine (rng_any _ _ _ _).mono ?_
  rintro e w' ⟨rfl, rfl⟩
  have HF : Hid (rng 8 10 k = fol k) := rfl
  rw [HF.out]
  go_wp2
  go_ret
  exact ⟨rfl, rfl⟩
set_option maxHeartbeats 1000000 in
theorem sNext_any (A : Option Addr) (n cap : Nat) (p : List Lin) (i : Nat) (hi : i < p.length) (w : World) (hR : Sl w A n cap p) :
    Calls Try.prog 73 #[.slice A n cap, .int .i64 i] w fun e w' => e = .returned (.int .i64 (sNext p i)) ∧ Le w w' := by
  obtain rfl := hR.len
  have hm := hR.n_le
  have hbl := bEnd_le hi
  have H1 : Hid (bEnd p i < p.length → dep p (bEnd p i) = dep p i → sNext p i = bEnd p i) := fun h1 h2 => if_pos ⟨h1, h2⟩
  have H2 : Hid (bEnd p i < p.length → dep p (bEnd p i) ≠ dep p i → sNext p i = p.length) := fun _ h2 => if_neg (fun q => h2 q.2)
  have H3 : Hid (¬ bEnd p i < p.length → sNext p i = p.length) := fun h1 => if_neg (fun q => h1 q.1)
  have hin : (i : Int) < (p.length : Int) := by omega
  have hix : (0 : Int) ≤ (i : Int) := by omega
  go_enter Try.func73, Try.ntmps73
  go_wp2_with fail
  refine (sBlockEnd_any A p.length cap p i hi w hR).mono ?_
  rintro e w2 ⟨rfl, hle⟩
  have T := hR.le hle
  clear hR
  obtain ⟨b, off, rfl, hb, c0, -⟩ := T.lin_at hi
  have E0 := cell_ext hb c0
  by_cases hlt : bEnd p i < p.length
  · obtain ⟨b2, off2, e2, hb2, d0, -⟩ := T.lin_at hlt
    cases e2
    have D0 := cell_ext hb2 d0
    by_cases hd : p[bEnd p i].depth = p[i].depth
    · have HE := Lib.hid (H1.out hlt (by rw [dep_at hlt, dep_at hi]; exact hd))
      have hbd : (p[bEnd p i].depth == p[i].depth) = true := by simpa using hd
      clear H1 H2 H3 hd
      have hkl : (bEnd p i : Int) < (p.length : Int) := by omega
      have hk0 : (0 : Int) ≤ (bEnd p i : Int) := by omega
      go_wp2_with fail
      refine wp_region_ext (by kernel_rfl) (by kernel_rfl) ?_
      repeat (go_big_quiet_step (fail))
      refine wpQuiet_nil ?_
      intro _ hw'
      obtain ⟨gg, rfl⟩ := hw'
      have hw1 := Le.ext w2 gg
      generalize w2.ext gg = W2 at *
      go_wp2
      go_ret
      exact ⟨congrArg (fun z : Nat => Ending.returned (.int .i64 (z : Int))) HE.out.symm, hle.trans hw1⟩
    · have HE := Lib.hid (H2.out hlt (by rw [dep_at hlt, dep_at hi]; exact hd))
      have hbd : (p[bEnd p i].depth == p[i].depth) = false := by simpa using hd
      clear H1 H2 H3 hd
      have hkl : (bEnd p i : Int) < (p.length : Int) := by omega
      have hk0 : (0 : Int) ≤ (bEnd p i : Int) := by omega
      go_wp2_with fail
      refine wp_region_ext (by kernel_rfl) (by kernel_rfl) ?_
      repeat (go_big_quiet_step (fail))
      refine wpQuiet_nil ?_
      intro _ hw'
      obtain ⟨gg, rfl⟩ := hw'
      have hw1 := Le.ext w2 gg
      generalize w2.ext gg = W2 at *
      go_wp2
      go_ret
      exact ⟨congrArg (fun z : Nat => Ending.returned (.int .i64 (z : Int))) HE.out.symm, hle.trans hw1⟩
  · have HE := Lib.hid (H3.out hlt)
    have hkl : ¬ (bEnd p i : Int) < (p.length : Int) := by omega
    clear H1 H2 H3
    go_wp2_with fail
    refine wp_region_ext (by kernel_rfl) (by kernel_rfl) ?_
    repeat (go_big_quiet_step (fail))
    refine wpQuiet_nil ?_
    intro _ hw'
    obtain ⟨gg, rfl⟩ := hw'
    have hw1 := Le.ext w2 gg
    generalize w2.ext gg = W2 at *
    go_wp2
    go_ret
    exact ⟨congrArg (fun z : Nat => Ending.returned (.int .i64 (z : Int))) HE.out.symm, hle.trans hw1⟩
end Go.Proofs.Ytldnjihakkekkaa
