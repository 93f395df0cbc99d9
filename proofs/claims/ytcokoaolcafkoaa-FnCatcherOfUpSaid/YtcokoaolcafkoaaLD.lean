/- laws: helpers of the drawn laws. -/
import Derived.Test.YtcokoaolcafkoaaRows
import Derived.Test.YtcokoaolcafkoaaP
import Derived.Test.YtcokoaolcafkoaaI
import Derived.RegionTactic
namespace Go.Proofs.Ytcokoaolcafkoaa
open Go.RowKit

theorem equalInts_self (A B : Option Addr) (n c d : Nat) (xs : List Int) (w : World) (hR : Sl w A n c xs) (hS : Sl w B n d xs) :
    Calls Try.prog 18 #[.slice A n c, .slice B n d] w fun e w' => e = .returned (.bool true) ∧ Le w w' := by
  obtain rfl := hR.len
  have hm := hR.n_le
  have hb : ((xs.length : Int) != (xs.length : Int)) = false := by simp
  go_enter Try.func18, Try.ntmps18
  go_wp2
  go_loopw [5] (fun i wr => ∃ k : Nat, k ≤ xs.length ∧ i = .int .i64 k ∧ Le w wr) (fun i _ => xs.length - (intOf i).toNat)
  case atStart => exact ⟨0, Nat.zero_le _, rfl, Le.refl _⟩
  case round =>
    obtain ⟨k, hk, rfl, hle⟩ := hrel
    have hRr := hR.le hle
    have hSr := hS.le hle
    clear hR hS
    by_cases hlt : k < xs.length
    · obtain ⟨b, off, rfl, hb, hcell, _, _⟩ := hRr.int_at hlt
      obtain ⟨b2, off2, rfl, hb2, hcell3, _, _⟩ := hSr.int_at hlt
      have E1 := cell_ext hb hcell
      have E2 := cell_ext hb2 hcell3
      have he2 : (xs[k] != xs[k]) = false := by simp
      go_wp2_with fail
      refine wp_region_ext (by kernel_rfl) (by kernel_rfl) ?_
      repeat (go_big_quiet_step (fail))
      refine wpQuiet_nil ?_
      intro _ hw'
      obtain ⟨g, rfl⟩ := hw'
      have hw1 := Le.ext wr g
      generalize wr.ext g = W2 at *
      go_wp2
      go_roundw
      case rel => exact ⟨k + 1, by omega, by go_num, hle.trans hw1⟩
      case measure => simp [intOf]; omega
    · go_wp2
      go_ret
      exact ⟨rfl, hle⟩

theorem isIn_any (A : Option Addr) (n cap : Nat) (zs : List Int) (x : Int) (w : World) (hR : Sl w A n cap zs) :
    Calls Try.prog 23 #[.slice A n cap, .int .i64 x] w fun e w' => e = .returned (.bool (hasI zs x)) ∧ w = w' := by
  obtain rfl := hR.len
  have hm := hR.n_le
  go_enter Try.func23, Try.ntmps23
  go_wp2
  go_loop [5] (fun i => ∃ k : Nat, k ≤ zs.length ∧ i = .int .i64 k ∧ hasI zs x = hasI (zs.drop k) x) (fun i => zs.length - (intOf i).toNat)
  case atStart => exact ⟨0, Nat.zero_le _, rfl, rfl⟩
  case round =>
    obtain ⟨k, hk, rfl, hr⟩ := hrel
    have HR := Lib.hid hr; clear hr
    by_cases hlt : k < zs.length
    · obtain ⟨b, off, rfl, _, hcell, _, _⟩ := hR.int_at hlt
      cases he : zs[k] == x
      · have HF : Hid (hasI zs x = hasI (zs.drop (k + 1)) x) := by show _ = _; rw [HR.out, hasI_at hlt, he]; rfl
        go_wp2
        go_round
        case rel => exact ⟨k + 1, by omega, by go_num, HF.out⟩
        case measure => simp [intOf]; omega
      · have HF : Hid (hasI zs x = true) := by show _ = _; rw [HR.out, hasI_at hlt, he]; rfl
        go_wp2
        go_ret
        exact ⟨ret_bool HF.out.symm, rfl⟩
    · have HF : Hid (hasI zs x = false) := by show _ = _; rw [HR.out, hasI_end hlt]
      go_wp2
      go_ret
      exact ⟨ret_bool HF.out.symm, rfl⟩


theorem ascends_any (A : Option Addr) (n cap : Nat) (zs : List Int) (w : World) (hR : Sl w A n cap zs) (h : zs.Pairwise (· < ·)) :
    Calls Try.prog 24 #[.slice A n cap] w fun e w' => e = .returned (.bool true) ∧ Le w w' := by
  obtain rfl := hR.len
  have hm := hR.n_le
  rw [List.pairwise_iff_getElem] at h
  have HA := Lib.hid h; clear h
  go_enter Try.func24, Try.ntmps24
  go_wp2
  go_loopw [3] (fun i wr => ∃ j : Nat, i = .int .i64 ((j : Int) + 1) ∧ Le w wr) (fun i _ => zs.length - (intOf i).toNat)
  case atStart => exact ⟨0, rfl, Le.refl _⟩
  case round =>
    obtain ⟨j, rfl, hle⟩ := hrel
    have hRr := hR.le hle
    clear hR
    by_cases hlt : j + 1 < zs.length
    · obtain ⟨b, off, rfl, hb, hcell, _, _⟩ := hRr.int_at hlt
      obtain ⟨b2, off2, e2, hb2, hcell2, _, _⟩ := hRr.int_at (k := j) (by omega)
      injection e2 with e2
      injection e2 with e21 e22
      subst e21; subst e22
      have hcmp := HA.out j (j + 1) (by omega) hlt (by omega)
      have hcmp2 : ¬ zs[j + 1] ≤ zs[j] := by omega
      have hw1 : IntKind.i64.wrap ((j : Int) + 1 - 1) = (j : Int) := by
        have e : (j : Int) + 1 - 1 = j := by omega
        rw [e]; exact IntWalk.i64_in _ (by omega)
      have hj1 : (j : Int) < zs.length := by omega
      have hj2 : (j : Int) + 1 < zs.length := by omega
      have E1 := cell_ext hb hcell
      have E2 := cell_ext hb hcell2
      go_wp2_with fail
      refine wp_region_ext (by kernel_rfl) (by kernel_rfl) ?_
      repeat (go_big_quiet_step (fail))
      refine wpQuiet_nil ?_
      intro _ hw'
      obtain ⟨g, rfl⟩ := hw'
      have hw2 := Le.ext wr g
      generalize wr.ext g = W2 at *
      go_wp2
      go_roundw
      case rel => exact ⟨j + 1, by go_num, hle.trans hw2⟩
      case measure => simp [intOf]; omega
    · have hj2 : ¬ (j : Int) + 1 < zs.length := by omega
      go_wp2
      go_ret
      exact ⟨rfl, hle⟩

theorem has_any (A : Option Addr) (n cap : Nat) (xs : List Cls) (a : Int) (w : World) (hR : Sl w A n cap xs) :
    Calls Try.prog 31 #[.agg #[.slice A n cap], .int .i64 a] w fun e w' => e = .returned (.bool (hasK xs a)) ∧ Le w w' := by
  obtain rfl := hR.len
  have hm := hR.n_le
  by_cases h0 : 0 ≤ a
  · by_cases h1 : a < xs.length
    · have HF : Hid (hasK xs a = true) := by show _ = _; unfold hasK; simp; omega
      go_enter Try.func31, Try.ntmps31
      go_wp2
      go_ret
      exact ⟨ret_bool HF.out.symm, Le.new w _⟩
    · have HF : Hid (hasK xs a = false) := by show _ = _; unfold hasK; simp; omega
      go_enter Try.func31, Try.ntmps31
      go_wp2
      go_ret
      exact ⟨ret_bool HF.out.symm, Le.new w _⟩
  · have HF : Hid (hasK xs a = false) := by show _ = _; unfold hasK; simp; omega
    go_enter Try.func31, Try.ntmps31
    go_wp2
    go_ret
    exact ⟨ret_bool HF.out.symm, Le.new w _⟩
end Go.Proofs.Ytcokoaolcafkoaa
