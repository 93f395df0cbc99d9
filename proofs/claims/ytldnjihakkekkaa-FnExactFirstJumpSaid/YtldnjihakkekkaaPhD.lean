/- programs: outside, inLoop of the program; inLoop, headOf of the model -/
import Derived.Test.YtldnjihakkekkaaPhC
namespace Go.Proofs.Ytldnjihakkekkaa
open Go.RowKit
def oI : Option Nat → Int
  | none => -1
  | some j => (j : Int)
theorem oGo_succ (p : List Lin) (d : Int) (k : Nat) : oGo p d (k + 1) = if dep p k < d then some k else oGo p d k := rfl
set_option maxHeartbeats 1000000 in
theorem outside_any (A : Option Addr) (n cap : Nat) (p : List Lin) (i : Nat) (hi : i < p.length) (hsm : p.length ≤ 1048576) (w : World) (hR : Sl w A n cap p) :
    Calls Try.prog 81 #[.slice A n cap, .int .i64 i] w fun e w' => e = .returned (.int .i64 (oI (outs p i))) ∧ Le w w' := by
  obtain rfl := hR.len
  have H0 : Hid (outs p i = oGo p (dep p i) i) := rfl
  have hwi : IntKind.i64.wrap ((i : Int) - 1) = (i : Int) - 1 := IntWalk.i64_in _ (by omega)
  have hix : (0 : Int) ≤ (i : Int) := by omega
  have hin : (i : Int) < (p.length : Int) := by omega
  go_enter Try.func81, Try.ntmps81
  go_wp2
  go_loopw [5] (fun jj wr => ∃ k : Nat, k ≤ i ∧ jj = .int .i64 ((k : Int) - 1) ∧ outs p i = oGo p (dep p i) k ∧ Le w wr) (fun jj _ => (intOf jj + 1).toNat)
  case atStart => exact ⟨i, Nat.le_refl _, rfl, H0.out, Le.refl _⟩
  case round =>
    obtain ⟨k, hk, rfl, he, hle⟩ := hrel
    have HE := Lib.hid he
    clear he H0
    have T := hR.le hle
    clear hR
    cases k with
    | zero =>
      have HF : Hid (oI (outs p i) = -1) := by show _ = _; rw [HE.out]; rfl
      have hneg : ¬ (0 : Int) ≤ ((0 : Nat) : Int) - 1 := by omega
      go_wp2
      go_ret
      exact ⟨ret_int HF.out.symm, hle⟩
    | succ k =>
      have hkl : k < p.length := by omega
      obtain ⟨b, off, rfl, hb, c0, -⟩ := T.lin_at hi
      obtain ⟨b2, off2, e2, hb2, d0, -⟩ := T.lin_at hkl
      cases e2
      have E0 := cell_ext hb c0
      have D0 := cell_ext hb2 d0
      have hkk : (((k + 1 : Nat) : Int) - 1) = (k : Int) := by omega
      have hk0 : (0 : Int) ≤ (k : Int) := by omega
      have hkn : (k : Int) < (p.length : Int) := by omega
      have hwk : IntKind.i64.wrap ((k : Int) - 1) = (k : Int) - 1 := IntWalk.i64_in _ (by omega)
      rw [hkk]
      by_cases hd : p[k].depth < p[i].depth
      · have HF : Hid (oI (outs p i) = (k : Int)) := by show _ = _; rw [HE.out, oGo_succ, dep_at hi, dep_at hkl, if_pos hd]; rfl
        clear HE
        go_wp2_with fail
        refine wp_region_ext (by kernel_rfl) (by kernel_rfl) ?_
        repeat (go_big_quiet_step (fail))
        refine wpQuiet_nil ?_
        intro _ hw'
        obtain ⟨gg, rfl⟩ := hw'
        have hw1 := Le.ext wr gg
        generalize wr.ext gg = W2 at *
        go_wp2
        go_ret
        exact ⟨ret_int HF.out.symm, hle.trans hw1⟩
      · have HF : Hid (outs p i = oGo p (dep p i) k) := by show _ = _; rw [HE.out, oGo_succ, dep_at hkl, if_neg (by rw [dep_at hi]; exact hd)]
        clear HE
        go_wp2_with fail
        refine wp_region_ext (by kernel_rfl) (by kernel_rfl) ?_
        repeat (go_big_quiet_step (fail))
        refine wpQuiet_nil ?_
        intro _ hw'
        obtain ⟨gg, rfl⟩ := hw'
        have hw1 := Le.ext wr gg
        generalize wr.ext gg = W2 at *
        go_wp2
        go_roundw
        case rel => exact ⟨k, by omega, by go_num, HF.out, hle.trans hw1⟩
        case measure => simp [intOf]
end Go.Proofs.Ytldnjihakkekkaa
