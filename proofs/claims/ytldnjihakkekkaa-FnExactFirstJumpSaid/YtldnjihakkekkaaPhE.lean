/- programs: inLoop, headOf of the model -/
import Derived.Test.YtldnjihakkekkaaPhB
namespace Go.Proofs.Ytldnjihakkekkaa
open Go.RowKit
theorem inGo_succ (p : List Lin) (d : Int) (k : Nat) : inGo p d (k + 1) = if dep p k < d then (if knd p k = 12 then true else inGo p (dep p k) k) else inGo p d k := rfl
theorem hGo_succ (p : List Lin) (d : Int) (k : Nat) : hGo p d (k + 1) = if dep p k < d then -1 else if dep p k = d then (k : Int) else hGo p d k := rfl
set_option maxHeartbeats 1000000 in
theorem sInLoop_any (A : Option Addr) (n cap : Nat) (p : List Lin) (i : Nat) (hi : i < p.length) (hsm : p.length ≤ 4294967296) (w : World) (hR : Sl w A n cap p) :
    Calls Try.prog 60 #[.slice A n cap, .int .i64 i] w fun e w' => e = .returned (.bool (inL p i)) ∧ Le w w' := by
  obtain rfl := hR.len
  have H0 : Hid (inL p i = inGo p p[i].depth i) := by show _ = _; unfold inL; rw [dep_at hi]
  have hwi : IntKind.i64.wrap ((i : Int) - 1) = (i : Int) - 1 := IntWalk.i64_in _ (by omega)
  have hix : (0 : Int) ≤ (i : Int) := by omega
  have hin : (i : Int) < (p.length : Int) := by omega
  obtain ⟨b0, o0, e0, hb0, c0, -⟩ := hR.lin_at hi
  go_enter Try.func60, Try.ntmps60
  subst e0
  go_wp2
  go_loopw [5, 6] (fun dd kk wr => ∃ (k : Nat) (d : Int), k ≤ i ∧ dd = .int .i64 d ∧ kk = .int .i64 ((k : Int) - 1) ∧ inL p i = inGo p d k ∧ Le w wr) (fun _ kk _ => (intOf kk + 1).toNat)
  case atStart => exact ⟨i, p[i].depth, Nat.le_refl _, rfl, rfl, H0.out, Le.refl _⟩
  case round =>
    obtain ⟨k, d, hk, rfl, rfl, he, hle⟩ := hrel
    have HE := Lib.hid he
    clear he H0 c0
    have T := hR.le hle
    clear hR
    cases k with
    | zero =>
      have HF : Hid (inL p i = false) := by show _ = _; rw [HE.out]; rfl
      have hneg : ¬ (0 : Int) ≤ ((0 : Nat) : Int) - 1 := by omega
      go_wp2
      go_ret
      exact ⟨ret_bool HF.out.symm, hle⟩
    | succ k =>
      have hkl : k < p.length := by omega
      obtain ⟨b2, off2, e2, hb2, d0, d1, -⟩ := T.lin_at hkl
      cases e2
      have hkk : (((k + 1 : Nat) : Int) - 1) = (k : Int) := by omega
      have hk0 : (0 : Int) ≤ (k : Int) := by omega
      have hkn : (k : Int) < (p.length : Int) := by omega
      have hwk : IntKind.i64.wrap ((k : Int) - 1) = (k : Int) - 1 := IntWalk.i64_in _ (by omega)
      rw [hkk]
      by_cases hd : p[k].depth < d
      · by_cases hl : p[k].kind = 12
        · have HF : Hid (inL p i = true) := by show _ = _; rw [HE.out, inGo_succ, dep_at hkl, knd_at hkl, if_pos hd, if_pos hl]
          have hlb : (p[k].kind == 12) = true := by simpa using hl
          clear HE
          go_wp2
          go_ret
          exact ⟨ret_bool HF.out.symm, hle⟩
        · have HF : Hid (inL p i = inGo p p[k].depth k) := by show _ = _; rw [HE.out, inGo_succ, dep_at hkl, knd_at hkl, if_pos hd, if_neg hl]
          have hlb : (p[k].kind == 12) = false := by simpa using hl
          clear HE hl
          go_wp2
          go_roundw
          case rel => exact ⟨k, p[k].depth, by omega, rfl, by go_num, HF.out, hle⟩
          case measure => simp [intOf]
      · have HF : Hid (inL p i = inGo p d k) := by show _ = _; rw [HE.out, inGo_succ, dep_at hkl, if_neg hd]
        clear HE
        go_wp2
        go_roundw
        case rel => exact ⟨k, d, by omega, rfl, by go_num, HF.out, hle⟩
        case measure => simp [intOf]
set_option maxHeartbeats 1000000 in
theorem headOf_any (A : Option Addr) (n cap : Nat) (p : List Lin) (i : Nat) (hi : i < p.length) (hsm : p.length ≤ 4294967296) (w : World) (hR : Sl w A n cap p) :
    Calls Try.prog 62 #[.slice A n cap, .int .i64 i] w fun e w' => e = .returned (.int .i64 (headOf p i)) ∧ Le w w' := by
  obtain rfl := hR.len
  have H0 : Hid (headOf p i = hGo p (dep p i) i) := rfl
  have hwi : IntKind.i64.wrap ((i : Int) - 1) = (i : Int) - 1 := IntWalk.i64_in _ (by omega)
  have hix : (0 : Int) ≤ (i : Int) := by omega
  have hin : (i : Int) < (p.length : Int) := by omega
  go_enter Try.func62, Try.ntmps62
  go_wp2
  go_loopw [5] (fun jj wr => ∃ k : Nat, k ≤ i ∧ jj = .int .i64 ((k : Int) - 1) ∧ headOf p i = hGo p (dep p i) k ∧ Le w wr) (fun jj _ => (intOf jj + 1).toNat)
  case atStart => exact ⟨i, Nat.le_refl _, rfl, H0.out, Le.refl _⟩
  case round =>
    obtain ⟨k, hk, rfl, he, hle⟩ := hrel
    have HE := Lib.hid he
    clear he H0
    have T := hR.le hle
    clear hR
    cases k with
    | zero =>
      have HF : Hid (headOf p i = -1) := by show _ = _; rw [HE.out]; rfl
      have hneg : ¬ (0 : Int) ≤ ((0 : Nat) : Int) - 1 := by omega
      go_wp2
      go_ret
      exact ⟨ret_int HF.out.symm, hle⟩
    | succ k =>
      have hkl : k < p.length := by omega
      obtain ⟨b, off, rfl, hb, c0, -⟩ := T.lin_at hi
      obtain ⟨b2, off2, e2, hb2, d0, -⟩ := T.lin_at hkl
      cases e2
      have E0 := cell_ext hb c0
      have D0 := cell_ext hb2 d0
      have hkk : (((k + 1 : Nat) : Int) - 1) = (k : Int) := by omega
      have hk0 : (0 : Int) ≤ (k : Int) := by omega
      have hkn : (k : Int) < (p.length : Int) := by omega
      have hwk : IntKind.i64.wrap ((k : Int) - 1) = (k : Int) - 1 := IntWalk.i64_in _ (by omega)
      rw [hkk]
      by_cases hd : p[k].depth < p[i].depth
      · have HF : Hid (headOf p i = -1) := by show _ = _; rw [HE.out, hGo_succ, dep_at hi, dep_at hkl, if_pos hd]
        clear HE
        go_wp2_with fail
        refine wp_region_ext (by kernel_rfl) (by kernel_rfl) ?_
        repeat (go_big_quiet_step (fail))
        refine wpQuiet_nil ?_
        intro _ hw'
        obtain ⟨gg, rfl⟩ := hw'
        have hw1 := Le.ext wr gg
        generalize wr.ext gg = W2 at *
        go_wp2
        go_ret
        exact ⟨ret_int HF.out.symm, hle.trans hw1⟩
      · by_cases he2 : p[k].depth = p[i].depth
        · have HF : Hid (headOf p i = (k : Int)) := by show _ = _; rw [HE.out, hGo_succ, dep_at hi, dep_at hkl, if_neg hd, if_pos he2]
          have hbe : (p[k].depth == p[i].depth) = true := by simpa using he2
          clear HE he2
          go_wp2_with fail
          refine wp_region_ext (by kernel_rfl) (by kernel_rfl) ?_
          repeat (go_big_quiet_step (fail))
          refine wpQuiet_nil ?_
          intro _ hw'
          obtain ⟨gg, rfl⟩ := hw'
          have hw1 := Le.ext wr gg
          have T2 := T.le hw1
          generalize wr.ext gg = W2 at *
          obtain ⟨b3, off3, e3, hb3, c3, -⟩ := T2.lin_at hi
          cases e3
          obtain ⟨b4, off4, e4, hb4, d4, -⟩ := T2.lin_at hkl
          cases e4
          have E3 := cell_ext hb3 c3
          have D4 := cell_ext hb4 d4
          go_wp2_with fail
          refine wp_region_ext (by kernel_rfl) (by kernel_rfl) ?_
          repeat (go_big_quiet_step (fail))
          refine wpQuiet_nil ?_
          intro _ hw'
          obtain ⟨gg, rfl⟩ := hw'
          have hw2 := Le.ext W2 gg
          generalize W2.ext gg = W3 at *
          go_wp2
          go_ret
          exact ⟨ret_int HF.out.symm, (hle.trans hw1).trans hw2⟩
        · have HF : Hid (headOf p i = hGo p (dep p i) k) := by show _ = _; rw [HE.out, hGo_succ, dep_at hkl, if_neg (by rw [dep_at hi]; exact hd), if_neg (by rw [dep_at hi]; exact he2)]
          have hbe : (p[k].depth == p[i].depth) = false := by simpa using he2
          clear HE he2
          go_wp2_with fail
          refine wp_region_ext (by kernel_rfl) (by kernel_rfl) ?_
          repeat (go_big_quiet_step (fail))
          refine wpQuiet_nil ?_
          intro _ hw'
          obtain ⟨gg, rfl⟩ := hw'
          have hw1 := Le.ext wr gg
          have T2 := T.le hw1
          generalize wr.ext gg = W2 at *
          obtain ⟨b3, off3, e3, hb3, c3, -⟩ := T2.lin_at hi
          cases e3
          obtain ⟨b4, off4, e4, hb4, d4, -⟩ := T2.lin_at hkl
          cases e4
          have E3 := cell_ext hb3 c3
          have D4 := cell_ext hb4 d4
          go_wp2_with fail
          refine wp_region_ext (by kernel_rfl) (by kernel_rfl) ?_
          repeat (go_big_quiet_step (fail))
          refine wpQuiet_nil ?_
          intro _ hw'
          obtain ⟨gg, rfl⟩ := hw'
          have hw2 := Le.ext W2 gg
          generalize W2.ext gg = W3 at *
          go_wp2
          go_roundw
          case rel => exact ⟨k, by omega, by go_num, HF.out, (hle.trans hw1).trans hw2⟩
          case measure => simp [intOf]
end Go.Proofs.Ytldnjihakkekkaa
