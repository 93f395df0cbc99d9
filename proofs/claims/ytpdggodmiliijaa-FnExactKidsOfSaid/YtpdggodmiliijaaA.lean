import Derived.Test.YtpdggodmiliijaaRows
import Derived.Test.YtpdggodmiliijaaP
namespace Go.Proofs.Ytpdggodmiliijaa
open Go.RowKit

theorem inRange_any (a b c : Int) (w : World) : Calls Try.prog 76 #[.int .i64 a, .int .i64 b, .int .i64 c] w fun e w' => e = .returned (.bool (decide (b ≤ a) && decide (a ≤ c))) ∧ w = w' := by
  go_enter Try.func76, Try.ntmps76
  go_wp2
  all_goals (go_ret; simp_all)
  all_goals omega

theorem hasInt_any (A : Option Addr) (n cap : Nat) (zs : List Int) (x : Int) (w : World) (hR : Sl w A n cap zs) :
    Calls Try.prog 105 #[.slice A n cap, .int .i64 x] w fun e w' => e = .returned (.bool (hasI zs x)) ∧ w = w' := by
  obtain rfl := hR.len
  have hm := hR.n_le
  go_enter Try.func105, Try.ntmps105
  go_wp2
  go_loop [5] (fun i => ∃ k : Nat, k ≤ zs.length ∧ i = .int .i64 k ∧ hasI zs x = hasI (zs.drop k) x) (fun i => zs.length - (intOf i).toNat)
  case atStart => exact ⟨0, Nat.zero_le _, rfl, rfl⟩
  case round =>
    obtain ⟨k, hk, rfl, hr⟩ := hrel
    have HR := Lib.hid hr; clear hr
    by_cases hlt : k < zs.length
    · obtain ⟨b, off, rfl, _, hcell, _, _⟩ := hR.int_at hlt
      cases he : zs[k] == x
      · have HF : Hid (hasI zs x = hasI (zs.drop (k + 1)) x) := by show _ = _; rw [HR.out, hasI_at hlt, he]; rfl
        go_wp2
        go_round
        case rel => exact ⟨k + 1, by omega, by go_num, HF.out⟩
        case measure => simp [intOf]; omega
      · have HF : Hid (hasI zs x = true) := by show _ = _; rw [HR.out, hasI_at hlt, he]; rfl
        go_wp2
        go_ret
        exact ⟨ret_bool HF.out.symm, rfl⟩
    · have HF : Hid (hasI zs x = false) := by show _ = _; rw [HR.out, hasI_end hlt]
      go_wp2
      go_ret
      exact ⟨ret_bool HF.out.symm, rfl⟩

theorem validName_any (s : ByteArray) (w : World) (hs : s.size ≤ 9223372036854775807) : Calls Try.prog 96 #[.string s] w fun e w' => e = .returned (.bool (okName s)) ∧ w = w' := by
  go_enter Try.func96, Try.ntmps96
  go_wp2
  go_loop [3] (fun i => ∃ k : Nat, k ≤ s.size ∧ i = .int .i64 k ∧ lowers s.data.toList = lowers (s.data.toList.drop k)) (fun i => s.size - (intOf i).toNat)
  case atStart => exact ⟨0, Nat.zero_le _, rfl, rfl⟩
  case round =>
    obtain ⟨k, hk, rfl, hr⟩ := hrel
    have HR := Lib.hid hr; clear hr
    by_cases hlt : k < s.size
    · have hc : 0 ≤ (s[k].toNat : Int) ∧ (s[k].toNat : Int) ≤ 255 := by have := UInt8.toNat_lt s[k]; omega
      by_cases h1 : s[k].toNat < 97
      · have HF : Hid (okName s = false) := by show _ = _; unfold okName; rw [HR.out, lowers_at hlt, decide_eq_false (p := 97 ≤ s[k].toNat) (by omega)]; rfl
        go_wp2
        go_ret
        exact ⟨ret_bool HF.out.symm, rfl⟩
      · by_cases h2 : 122 < s[k].toNat
        · have HF : Hid (okName s = false) := by show _ = _; unfold okName; rw [HR.out, lowers_at hlt, decide_eq_false (p := s[k].toNat ≤ 122) (by omega)]; simp
          go_wp2
          go_ret
          exact ⟨ret_bool HF.out.symm, rfl⟩
        · have HF : Hid (lowers s.data.toList = lowers (s.data.toList.drop (k + 1))) := by show _ = _; rw [HR.out, lowers_at hlt, decide_eq_true (p := 97 ≤ s[k].toNat) (by omega), decide_eq_true (p := s[k].toNat ≤ 122) (by omega)]; rfl
          go_wp2
          go_round
          case rel => exact ⟨k + 1, by omega, by go_num, HF.out⟩
          case measure => simp [intOf]; omega
    · have HF : Hid (okName s = (decide ((1 : Int) ≤ s.size) && decide ((s.size : Int) ≤ 6))) := by
        show _ = _; unfold okName; rw [HR.out, lowers_end hlt, Bool.true_and]; congr 1 <;> exact decide_eq_decide.2 (by omega)
      go_wp2_with (go_at_call 76; refine (inRange_any _ _ _ _).mono ?_; rintro e w' ⟨rfl, rfl⟩)
      go_ret
      exact ⟨ret_bool HF.out.symm, rfl⟩

theorem classNamed_any (A : Option Addr) (n cap : Nat) (xs : List Cls) (s : ByteArray) (w : World) (hR : Sl w A n cap xs) :
    Calls Try.prog 97 #[.slice A n cap, .string s] w fun e w' => e = .returned (.int .i64 (findN xs s 0)) ∧ w = w' := by
  obtain rfl := hR.len
  have hm := hR.n_le
  go_enter Try.func97, Try.ntmps97
  go_wp2
  go_loop [5] (fun i => ∃ k : Nat, k ≤ xs.length ∧ i = .int .i64 k ∧ findN xs s 0 = findN (xs.drop k) s k) (fun i => xs.length - (intOf i).toNat)
  case atStart => exact ⟨0, Nat.zero_le _, rfl, rfl⟩
  case round =>
    obtain ⟨k, hk, rfl, hr⟩ := hrel
    have HR := Lib.hid hr; clear hr
    by_cases hlt : k < xs.length
    · obtain ⟨b, off, rfl, _, hcell, hcell2, _, _, _⟩ := hR.cls_at hlt
      by_cases he : xs[k].name = s
      · have he' := str_eq he
        have HF : Hid (findN xs s 0 = k) := by show _ = _; rw [HR.out, findN_at hlt, if_pos he]
        go_wp2
        go_ret
        exact ⟨ret_int HF.out.symm, rfl⟩
      · have he' := str_ne he
        have HF : Hid (findN xs s 0 = findN (xs.drop (k + 1)) s ((k + 1 : Nat) : Int)) := by show _ = _; rw [HR.out, findN_at hlt, if_neg he]; rfl
        go_wp2
        go_round
        case rel => exact ⟨k + 1, by omega, by go_num, HF.out⟩
        case measure => simp [intOf]; omega
    · have HF : Hid (findN xs s 0 = -1) := by show _ = _; rw [HR.out, findN_end hlt]
      go_wp2
      go_ret
      exact ⟨ret_int HF.out.symm, rfl⟩
end Go.Proofs.Ytpdggodmiliijaa
