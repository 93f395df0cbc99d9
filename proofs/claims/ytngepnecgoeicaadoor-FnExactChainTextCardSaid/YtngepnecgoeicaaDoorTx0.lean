/- Texts of numbers: the model's and strconv.Itoa, up to two digits -/
import Derived.Test.YtngepnecgoeicaaDoorDc
namespace Go.Proofs.YtngepnecgoeicaaDoor
open Go.RowKit

def digs : ByteArray := ⟨#[48, 49, 50, 51, 52, 53, 54, 55, 56, 57]⟩
def one1 (n : Nat) : ByteArray := digs.extract n (n + 1)
theorem one1_size : ∀ n : Fin 10, (one1 n.1).size ≤ 1 := by decide +kernel
theorem one1_le {n : Nat} (h : n < 10) : (one1 n).size ≤ 1 := one1_size ⟨n, h⟩
def numT (n : Nat) : ByteArray := if n < 10 then one1 n else one1 (n / 10) ++ one1 (n % 10)
theorem numT_size : ∀ n : Fin 100, (numT n.1).size ≤ 2 := by decide +kernel
theorem numT_le {n : Nat} (h : n < 100) : (numT n).size ≤ 2 := numT_size ⟨n, h⟩

set_option maxRecDepth 100000 in
theorem number1_any (n : Nat) (w : World) (h : n < 10) : Calls Tryd.prog 82 #[.int .i64 n] w fun e w' => e = .returned (.string (one1 n)) ∧ w = w' := by
  have hw : IntKind.i64.wrap ((n : Int) + 1) = (n : Int) + 1 := IntWalk.i64_in _ (by omega)
  have h3 : (n : Int) < 10 := by omega
  have h4 : (0 : Int) ≤ (n : Int) := by omega
  have h5 : (n : Int) + 1 ≤ 10 := by omega
  have h6 : (n : Int) ≤ (n : Int) + 1 := by omega
  go_enter Tryd.func82, Tryd.ntmps82
  go_wp2
  go_ret
  exact ⟨rfl, rfl⟩
set_option maxRecDepth 100000 in
theorem number_any (n : Nat) (w : World) (h : n < 100) : Calls Tryd.prog 82 #[.int .i64 n] w fun e w' => e = .returned (.string (numT n)) ∧ w = w' := by
  by_cases h10 : n < 10
  · have e : numT n = one1 n := by unfold numT; rw [if_pos h10]
    rw [e]
    exact number1_any n w h10
  · have e : numT n = one1 (n / 10) ++ one1 (n % 10) := by unfold numT; rw [if_neg h10]
    have HE := Lib.hid e; clear e
    have h3 : ¬ (n : Int) < 10 := by omega
    have hd : decide ((n : Int) < 10) = false := decide_eq_false h3
    have hq : (n : Int) / 10 = ((n / 10 : Nat) : Int) := by omega
    have hr : (n : Int) % 10 = ((n % 10 : Nat) : Int) := by omega
    have z1 : ((one1 (n / 10)).size : Int) ≤ 8388608 := by have := one1_le (n := n / 10) (by omega); omega
    have z2 : ((one1 (n % 10)).size : Int) ≤ 8388608 := by have := one1_le (n := n % 10) (by omega); omega
    have HQE := Lib.hid hq; have HRE := Lib.hid hr
    clear hq hr
    have HQ := Lib.hid (number1_any (n / 10) w (by omega))
    have HR := Lib.hid (number1_any (n % 10) w (by omega))
    go_enter Tryd.func82, Tryd.ntmps82
    go_wp2_with fail
    rw [HQE.out]
    refine HQ.out.mono ?_
    rintro e w' ⟨rfl, rfl⟩
    generalize one1 (n / 10) = u1 at *
    go_wp2_with fail
    rw [HRE.out]
    refine HR.out.mono ?_
    rintro e w' ⟨rfl, rfl⟩
    generalize one1 (n % 10) = u2 at *
    go_wp2
    go_ret
    exact ⟨ret_str HE.out.symm, rfl⟩
def smalls : ByteArray := ⟨#[48, 48, 48, 49, 48, 50, 48, 51, 48, 52, 48, 53, 48, 54, 48, 55, 48, 56, 48, 57, 49, 48, 49, 49, 49, 50, 49, 51, 49, 52, 49, 53, 49, 54, 49, 55, 49, 56, 49, 57, 50, 48, 50, 49, 50, 50, 50, 51, 50, 52, 50, 53, 50, 54, 50, 55, 50, 56, 50, 57, 51, 48, 51, 49, 51, 50, 51, 51, 51, 52, 51, 53, 51, 54, 51, 55, 51, 56, 51, 57, 52, 48, 52, 49, 52, 50, 52, 51, 52, 52, 52, 53, 52, 54, 52, 55, 52, 56, 52, 57, 53, 48, 53, 49, 53, 50, 53, 51, 53, 52, 53, 53, 53, 54, 53, 55, 53, 56, 53, 57, 54, 48, 54, 49, 54, 50, 54, 51, 54, 52, 54, 53, 54, 54, 54, 55, 54, 56, 54, 57, 55, 48, 55, 49, 55, 50, 55, 51, 55, 52, 55, 53, 55, 54, 55, 55, 55, 56, 55, 57, 56, 48, 56, 49, 56, 50, 56, 51, 56, 52, 56, 53, 56, 54, 56, 55, 56, 56, 56, 57, 57, 48, 57, 49, 57, 50, 57, 51, 57, 52, 57, 53, 57, 54, 57, 55, 57, 56, 57, 57]⟩
def digs36 : ByteArray := ⟨#[48, 49, 50, 51, 52, 53, 54, 55, 56, 57, 97, 98, 99, 100, 101, 102, 103, 104, 105, 106, 107, 108, 109, 110, 111, 112, 113, 114, 115, 116, 117, 118, 119, 120, 121, 122]⟩
theorem small_lo : ∀ n : Fin 10, digs36.extract n.1 (n.1 + 1) = numT n.1 := by decide +kernel
theorem small_hi : ∀ n : Fin 100, 10 ≤ n.1 → smalls.extract (n.1 * 2) (n.1 * 2 + 2) = numT n.1 := by decide +kernel
set_option maxRecDepth 100000 in
theorem itoa_any (n : Nat) (w : World) (h : n < 100) : Calls Tryd.prog 70 #[.int .i64 n] w fun e w' => e = .returned (.string (numT n)) ∧ Le w w' := by
  have h3 : (n : Int) < 100 := by omega
  have h4 : (0 : Int) ≤ (n : Int) := by omega
  by_cases h10 : n < 10
  · have e := small_lo ⟨n, h10⟩
    have HE := Lib.hid e; clear e
    have hd : decide ((n : Int) < 10) = true := decide_eq_true (by omega)
    have hw : IntKind.i64.wrap ((n : Int) + 1) = (n : Int) + 1 := IntWalk.i64_in _ (by omega)
    have k1 : (n : Int) ≤ (n : Int) + 1 := by omega
    have k2 : (n : Int) + 1 ≤ 36 := by omega
    have k3 : (n : Int) < 10 := by omega
    go_enter Tryd.func70, Tryd.ntmps70
    go_wp2
    go_ret
    refine ⟨ret_str HE.out, ?_⟩
    first | exact Le.refl _ | exact Le.new _ _ | exact (Le.new _ _).alloc _ | exact ((Le.new _ _).alloc _).alloc _
  · have e := small_hi ⟨n, h⟩ (by show 10 ≤ n; omega)
    have HE := Lib.hid e; clear e
    have hd : decide ((n : Int) < 10) = false := decide_eq_false (by omega)
    have hw : IntKind.i64.wrap ((n : Int) * 2) = (n : Int) * 2 := IntWalk.i64_in _ (by omega)
    have hw2 : IntKind.i64.wrap ((n : Int) * 2 + 2) = (n : Int) * 2 + 2 := IntWalk.i64_in _ (by omega)
    have k1 : (n : Int) * 2 ≤ (n : Int) * 2 + 2 := by omega
    have k2 : (n : Int) * 2 + 2 ≤ 200 := by omega
    have k3 : ¬ (n : Int) < 10 := by omega
    have k4 : (0 : Int) ≤ (n : Int) * 2 := by omega
    go_enter Tryd.func70, Tryd.ntmps70
    go_wp2
    go_ret
    refine ⟨ret_str HE.out, ?_⟩
    first | exact Le.refl _ | exact Le.new _ _ | exact (Le.new _ _).alloc _ | exact ((Le.new _ _).alloc _).alloc _
end Go.Proofs.YtngepnecgoeicaaDoor
