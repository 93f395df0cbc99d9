/- TrimTrace of the model and of the program -/
import Derived.Test.YtakkmgeocmndjaaTrD
namespace Go.Proofs.Ytakkmgeocmndjaa
open Go.RowKit
def trimR (xs : List Frm) (a : Int) : List Frm := if 0 ≤ a then xs.take a.toNat else xs.drop (xs.length - (-a).toNat)
def trimX (xs : List Frm) (a : Int) : List Frm := cond (vTr xs) (trimR xs a) []
theorem trimX_of {xs : List Frm} {a : Int} {p : Bool} (h1 : vTr xs = p) : trimX xs a = cond p (trimR xs a) [] := by unfold trimX; rw [h1]
theorem trimX_len (xs : List Frm) (a : Int) : (trimX xs a).length ≤ 1048576 := by
  cases h : vTr xs
  · rw [trimX_of h]; simp
  · have := vTr_small h
    rw [trimX_of h]
    show (trimR xs a).length ≤ _
    unfold trimR
    split <;> simp <;> omega
theorem trim_all {xs : List Frm} {a : Int} (h : (xs.length : Int) ≤ a ∨ (a ≤ -(xs.length : Int) ∧ a < 0)) : trimR xs a = xs := by
  unfold trimR
  split
  · exact List.take_of_length_le (by omega)
  · rw [show xs.length - (-a).toNat = 0 by omega]; rfl
theorem trim_neg {xs : List Frm} {a : Int} {k : Nat} (h : a < 0) (h2 : -(xs.length : Int) < a) (hk : (xs.length : Int) + a = k) : trimR xs a = xs.drop k := by
  unfold trimR
  rw [if_neg (by omega), show xs.length - (-a).toNat = k by omega]
theorem trim_pos {xs : List Frm} {k : Nat} : trimR xs (k : Int) = xs.take k := by
  unfold trimR
  rw [if_pos (by omega)]; rfl

set_option maxRecDepth 100000 in
theorem sTrimTrace_any (A : Option Addr) (n c : Nat) (xs : List Frm) (a : Int) (w : World) (hR : Sl w A n c xs) (ha : -9223372036854775808 ≤ a ∧ a ≤ 9223372036854775807) :
    Calls Try.prog 24 #[.slice A n c, .int .i64 a] w fun e w' => ∃ v, e = .returned v ∧ Owd 28 w w' v (trimX xs a) ∧ Le w w' := by
  cases h1 : vTr xs
  · have HX := Lib.hid (trimX_of (a := a) h1)
    go_enter Try.func24, Try.ntmps24
    go_wp2_with fail
    refine (validTrace_any _ _ _ xs _ hR).mono ?_
    rintro e w1 ⟨rfl, hle⟩
    rw [h1]
    go_wp2
    go_ret
    exact ⟨_, rfl, by rw [HX.out]; exact Owd.nil _ _ _, hle⟩
  · have hX := trimX_of (a := a) h1
    have hsm := vTr_small h1
    have hcp := hR.cap_
    have hmx := hR.max
    obtain rfl := hR.len
    have hneg : IntKind.i64.wrap (-(xs.length : Int)) = -(xs.length : Int) := IntWalk.i64_in _ (by omega)
    by_cases hall : (xs.length : Int) ≤ a ∨ (a ≤ -(xs.length : Int) ∧ a < 0)
    · rw [trim_all hall] at hX
      have HX := Lib.hid hX
      clear hX
      rcases hall with h | ⟨h, h2⟩
      all_goals
        first | have d1 : decide ((xs.length : Int) ≤ a) = true := decide_eq_true h | (have d1 : decide ((xs.length : Int) ≤ a) = false := decide_eq_false (by omega); have d2 : decide (a ≤ -(xs.length : Int)) = true := decide_eq_true h; have d3 : decide (a < 0) = true := decide_eq_true h2)
        go_enter Try.func24, Try.ntmps24
        go_wp2_with fail
        refine (validTrace_any _ _ _ xs _ hR).mono ?_
        rintro e w1 ⟨rfl, hle⟩
        rw [h1]
        have S1 := hR.le hle
        go_wp2_with fail
        refine (copyFrames_any _ _ _ (xs) _ (S1) (by omega)).mono ?_
        rintro e w4 ⟨v, rfl, D, hle2⟩
        replace D := D.mono hle
        have LZ := hle.trans hle2
        clear hle hle2
        go_wp2
        go_ret
        exact ⟨_, rfl, by rw [HX.out]; exact D, LZ⟩
    · by_cases h0 : a < 0
      · obtain ⟨k, hk⟩ : ∃ k : Nat, (xs.length : Int) + a = k := ⟨((xs.length : Int) + a).toNat, by omega⟩
        rw [trim_neg h0 (by omega) hk] at hX
        have HX := Lib.hid hX
        clear hX
        have d1 : decide ((xs.length : Int) ≤ a) = false := decide_eq_false (by omega)
        have d2 : decide (a ≤ -(xs.length : Int)) = false := decide_eq_false (by omega)
        have d3 : decide (a < 0) = true := decide_eq_true h0
        have hw : IntKind.i64.wrap ((xs.length : Int) + a) = (k : Int) := by rw [hk]; exact IntWalk.i64_in _ (by omega)
        rcases A with _ | ad
        · have e0 := hR.none_nil
          subst e0
          simp at hk
          omega
        have hck : ¬ c = k := by omega
        have hkl : k ≤ xs.length := by omega
        go_enter Try.func24, Try.ntmps24
        go_wp2_with fail
        refine (validTrace_any _ _ _ xs _ hR).mono ?_
        rintro e w1 ⟨rfl, hle⟩
        rw [h1]
        have S1 := hR.le hle
        have S3 := S1.cutS k hkl (s := k * 2) rfl
        clear hall hk h0
        go_wp2_with fail
        refine (copyFrames_any _ _ _ (xs.drop k) _ (S3) (by omega)).mono ?_
        rintro e w4 ⟨v, rfl, D, hle2⟩
        replace D := D.mono hle
        have LZ := hle.trans hle2
        clear hle hle2
        go_wp2
        go_ret
        exact ⟨_, rfl, by rw [HX.out]; exact D, LZ⟩
      · obtain ⟨k, rfl⟩ : ∃ k : Nat, a = k := ⟨a.toNat, by omega⟩
        rw [trim_pos] at hX
        have HX := Lib.hid hX
        clear hX
        have d1 : decide (xs.length ≤ k) = false := decide_eq_false (by omega)
        have hkq : k < xs.length := by omega
        have d2 : decide ((k : Int) ≤ -(xs.length : Int)) = false := decide_eq_false (by omega)
        have d3 : decide ((k : Int) < 0) = false := decide_eq_false (by omega)
        have hkl : k ≤ xs.length := by omega
        go_enter Try.func24, Try.ntmps24
        go_wp2_with fail
        refine (validTrace_any _ _ _ xs _ hR).mono ?_
        rintro e w1 ⟨rfl, hle⟩
        rw [h1]
        have S1 := hR.le hle
        have S3 := S1.take_ k hkl
        have hkc : k ≤ c := by omega
        clear hall h0
        go_wp2_with fail
        refine (copyFrames_any _ _ _ (xs.take k) _ (S3) (by omega)).mono ?_
        rintro e w4 ⟨v, rfl, D, hle2⟩
        replace D := D.mono hle
        have LZ := hle.trans hle2
        clear hle hle2
        go_wp2
        go_ret
        exact ⟨_, rfl, by rw [HX.out]; exact D, LZ⟩

set_option maxRecDepth 100000 in
theorem iTrimTrace_any (A : Option Addr) (n c : Nat) (xs : List Frm) (a : Int) (w : World) (hR : Sl w A n c xs) (ha : -9223372036854775808 ≤ a ∧ a ≤ 9223372036854775807) :
    Calls Try.prog 22 #[.slice A n c, .int .i64 a] w fun e w' => ∃ v, e = .returned v ∧ OwdW 28 w w' v (trimX xs a) ∧ Le w w' := by
  cases h1 : vTr xs
  · have HX := Lib.hid (trimX_of (a := a) h1)
    go_enter Try.func22, Try.ntmps22
    go_wp2_with fail
    refine (iValidTrace_any _ _ _ xs _ hR).mono ?_
    rintro e w1 ⟨rfl, hle⟩
    rw [h1]
    go_wp2
    go_ret
    exact ⟨_, rfl, by rw [HX.out]; exact OwdW.of (Owd.nil _ _ _), hle⟩
  · have hX := trimX_of (a := a) h1
    have hsm := vTr_small h1
    obtain rfl := hR.len
    have hok := Lib.hid hR.ok
    by_cases h0 : 0 ≤ a
    · obtain ⟨k, rfl⟩ : ∃ k : Nat, a = k := ⟨a.toNat, by omega⟩
      rw [trim_pos] at hX
      clear h0
      by_cases hk : xs.length < k
      · rw [List.take_of_length_le (by omega)] at hX
        have HX := Lib.hid (hX.trans (show _ = xs.take xs.length by rw [List.take_length]; rfl))
        clear hX
        go_enter Try.func22, Try.ntmps22
        go_wp2_with fail
        refine (iValidTrace_any _ _ _ xs _ hR).mono ?_
        rintro e w1 ⟨rfl, hle⟩
        rw [h1]
        have S1 := hR.le hle
        go_wp2_with fail
        refine (cutFrames_any _ _ _ xs (xs.length) _ S1 (by omega) (by omega)).mono ?_
        rintro e w2 ⟨rfl, O, hle2⟩
        have HD := Lib.hid (cut_head (n := xs.length) (k := xs.length) O rfl (by omega) hok.out (by omega) hle)
        have LZ := hle.trans hle2
        clear O hle hle2
        generalize cutP w1.heap.size xs.length (xs.length) = PP at *
        go_wp2
        go_ret
        exact ⟨_, rfl, by rw [HX.out]; exact HD.out, LZ⟩
      · have HX := Lib.hid hX
        clear hX
        go_enter Try.func22, Try.ntmps22
        go_wp2_with fail
        refine (iValidTrace_any _ _ _ xs _ hR).mono ?_
        rintro e w1 ⟨rfl, hle⟩
        rw [h1]
        have S1 := hR.le hle
        go_wp2_with fail
        refine (cutFrames_any _ _ _ xs (k) _ S1 (by omega) (by omega)).mono ?_
        rintro e w2 ⟨rfl, O, hle2⟩
        have HD := Lib.hid (cut_head (n := xs.length) (k := k) O rfl (by omega) hok.out (by omega) hle)
        have LZ := hle.trans hle2
        clear O hle hle2
        generalize cutP w1.heap.size xs.length (k) = PP at *
        go_wp2
        go_ret
        exact ⟨_, rfl, by rw [HX.out]; exact HD.out, LZ⟩
    · have d1 : decide (0 ≤ a) = false := decide_eq_false h0
      by_cases hs : 0 ≤ (xs.length : Int) + a
      · obtain ⟨k, hk⟩ : ∃ k : Nat, (xs.length : Int) + a = k := ⟨((xs.length : Int) + a).toNat, by omega⟩
        have hX2 : trimR xs a = xs.drop k := by
          by_cases h2 : -(xs.length : Int) < a
          · exact trim_neg (by omega) h2 hk
          · rw [trim_all (.inr ⟨by omega, by omega⟩)]
            obtain rfl : k = 0 := by omega
            rfl
        rw [hX2] at hX
        have HX := Lib.hid hX
        clear hX hX2
        go_enter Try.func22, Try.ntmps22
        go_wp2_with fail
        refine (iValidTrace_any _ _ _ xs _ hR).mono ?_
        rintro e w1 ⟨rfl, hle⟩
        rw [h1]
        have S1 := hR.le hle
        go_wp2_with fail
        refine (cutFrames_any _ _ _ xs (k) _ S1 (by omega) (by omega)).mono ?_
        rintro e w2 ⟨rfl, O, hle2⟩
        have HD := Lib.hid (cut_rest (n := xs.length) (k := k) O rfl (by omega) hok.out (by omega) hle)
        have LZ := hle.trans hle2
        clear O hle hle2
        generalize cutP w1.heap.size xs.length (k) = PP at *
        go_wp2
        go_ret
        exact ⟨_, rfl, by rw [HX.out]; exact HD.out, LZ⟩
      · have hX2 : trimR xs a = xs.drop 0 := trim_all (.inr ⟨by omega, by omega⟩)
        rw [hX2] at hX
        have HX := Lib.hid hX
        clear hX hX2
        go_enter Try.func22, Try.ntmps22
        go_wp2_with fail
        refine (iValidTrace_any _ _ _ xs _ hR).mono ?_
        rintro e w1 ⟨rfl, hle⟩
        rw [h1]
        have S1 := hR.le hle
        go_wp2_with fail
        refine (cutFrames_any _ _ _ xs (0) _ S1 (by omega) (by omega)).mono ?_
        rintro e w2 ⟨rfl, O, hle2⟩
        have HD := Lib.hid (cut_rest (n := xs.length) (k := 0) O rfl (by omega) hok.out (by omega) hle)
        have LZ := hle.trans hle2
        clear O hle hle2
        generalize cutP w1.heap.size xs.length (0) = PP at *
        go_wp2
        go_ret
        exact ⟨_, rfl, by rw [HX.out]; exact HD.out, LZ⟩
end Go.Proofs.Ytakkmgeocmndjaa
