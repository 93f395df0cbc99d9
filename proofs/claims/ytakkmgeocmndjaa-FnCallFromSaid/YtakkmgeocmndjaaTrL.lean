/- FoldTrace of the model and of the program -/
import Derived.Test.YtakkmgeocmndjaaTrK
namespace Go.Proofs.Ytakkmgeocmndjaa
open Go.RowKit
def foldX (xs : List Frm) : List Rwf := cond (vTr xs) (foldL xs) []
theorem foldX_of {xs : List Frm} {p : Bool} (h : vTr xs = p) : foldX xs = cond p (foldL xs) [] := by unfold foldX; rw [h]
theorem foldX_len (xs : List Frm) : (foldX xs).length ≤ 1048576 := by
  cases h : vTr xs
  · rw [foldX_of h]; simp
  · have := vTr_small h
    have h2 := (foldK_len xs xs.length).1
    rw [foldX_of h]; show (foldK xs xs.length).length ≤ _; omega
theorem sFoldTrace_any (A : Option Addr) (n c : Nat) (xs : List Frm) (w : World) (hR : Sl w A n c xs) :
    Calls Try.prog 32 #[.slice A n c] w fun e w' => ∃ v, e = .returned v ∧ Owd 48 w w' v (foldX xs) ∧ Le w w' := by
  cases h1 : vTr xs
  · have HX := Lib.hid (foldX_of h1)
    go_enter Try.func32, Try.ntmps32
    go_wp2_with fail
    refine (validTrace_any _ _ _ xs _ hR).mono ?_
    rintro e w1 ⟨rfl, hle⟩
    rw [h1]
    go_wp2
    go_ret
    exact ⟨_, rfl, by rw [HX.out]; exact Owd.nil _ _ _, hle⟩
  · have hsm := vTr_small h1
    have hlen := hR.len
    have HX := Lib.hid (foldX_of h1)
    go_enter Try.func32, Try.ntmps32
    go_wp2_with fail
    refine (validTrace_any _ _ _ xs _ hR).mono ?_
    rintro e w1 ⟨rfl, hle⟩
    rw [h1]
    have S1 := hR.le hle
    go_wp2_with fail
    refine (sfold_any _ _ _ xs _ S1 (by omega)).mono ?_
    rintro e w2 ⟨v, rfl, D, hle2⟩
    go_wp2
    go_ret
    exact ⟨_, rfl, by rw [HX.out]; exact D.mono hle, hle.trans hle2⟩
theorem iFoldTrace_any (A : Option Addr) (n c : Nat) (xs : List Frm) (w : World) (hR : Sl w A n c xs) :
    Calls Try.prog 30 #[.slice A n c] w fun e w' => ∃ v, e = .returned v ∧ Owd 48 w w' v (foldX xs) ∧ Le w w' := by
  cases h1 : vTr xs
  · have HX := Lib.hid (foldX_of h1)
    go_enter Try.func30, Try.ntmps30
    go_wp2_with fail
    refine (iValidTrace_any _ _ _ xs _ hR).mono ?_
    rintro e w1 ⟨rfl, hle⟩
    rw [h1]
    go_wp2
    go_ret
    exact ⟨_, rfl, by rw [HX.out]; exact Owd.nil _ _ _, hle⟩
  · have hsm := vTr_small h1
    have hlen := hR.len
    have HX := Lib.hid (foldX_of h1)
    go_enter Try.func30, Try.ntmps30
    go_wp2_with fail
    refine (iValidTrace_any _ _ _ xs _ hR).mono ?_
    rintro e w1 ⟨rfl, hle⟩
    rw [h1]
    have S1 := hR.le hle
    go_wp2_with fail
    refine (ifold_any _ _ _ xs _ S1 (by omega)).mono ?_
    rintro e w2 ⟨v, rfl, D, hle2⟩
    go_wp2
    go_ret
    exact ⟨_, rfl, by rw [HX.out]; exact D.mono hle, hle.trans hle2⟩
end Go.Proofs.Ytakkmgeocmndjaa
