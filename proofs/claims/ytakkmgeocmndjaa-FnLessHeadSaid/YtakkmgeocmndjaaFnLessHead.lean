/- the law FnLessHead -/
import Derived.Test.YtakkmgeocmndjaaFT0
namespace Go.Proofs.Ytakkmgeocmndjaa
open Go.RowKit
set_option maxHeartbeats 1000000 in
set_option maxRecDepth 100000 in
theorem fnLessHead_walk (A : Option Addr) (n cap : Nat) (bs : List By) (w : World) (hR : Sl w A n cap bs) :
    Calls Try.prog 10 #[.slice A n cap] w fun e w' => e = .returned (.bool true) ∧ Le w w' := by
  have hm := hR.n_le
  by_cases hbig : 1048576 < n
  · go_enter Try.func10, Try.ntmps10
    go_wp2
    go_ret
    exact ⟨rfl, Le.refl w⟩
  go_enter Try.func10, Try.ntmps10
  go_wp2_with fail
  refine (drawLessHead_any A n cap bs w hR).mono ?_
  rintro e w1 ⟨B, D, m, c, k, d, xs, ys, rfl, S, hm8, S2, hk8, L0⟩
  have hbb : (comX xs ys != comX xs ys) = false := by simp
  have hbc : (comX xs ys == comX xs ys) = true := by simp
  go_wp2_with fail
  refine (Calls.sl2W (by decide) (iLessHead_any _ _ _ _ _ _ xs ys _ S S2)).mono ?_
  rintro e w2 ⟨A3, c3, rfl, S3, hle⟩
  replace S := S.le hle
  replace S2 := S2.le hle
  replace L0 := L0.trans hle
  clear hle
  go_wp2_with fail
  refine (Calls.sl2 (by decide) (sLessHead_any _ _ _ _ _ _ xs ys _ S S2)).mono ?_
  rintro e w3 ⟨A4, c4, rfl, S4, hle⟩
  replace S := S.le hle
  replace S2 := S2.le hle
  replace S3 := S3.le hle
  replace L0 := L0.trans hle
  clear hle
  go_wp2_with fail
  refine (equalTrace_self _ _ _ _ _ _ _ S3 S4).mono ?_
  rintro e w4 ⟨rfl, hle⟩
  replace S := S.le hle
  replace S2 := S2.le hle
  replace S3 := S3.le hle
  replace S4 := S4.le hle
  replace L0 := L0.trans hle
  clear hle
  cases h1 : (vTr xs && vTr ys)
  · have HF := Lib.hid (show comX xs ys = -1 by unfold comX; rw [h1]; rfl)
    rw [HF.out] at hbb hbc ⊢
    go_wp2_with fail
    refine (equalTrace_self _ _ _ _ _ _ _ S3 S4).mono ?_
    rintro e w5 ⟨rfl, hle⟩
    replace L0 := L0.trans hle
    clear hle
    go_wp2
    go_ret
    exact ⟨rfl, L0⟩
  · have hc := comH_le xs ys
    simp at h1
    have hF : comX xs ys = (comH xs ys : Int) := by unfold comX; rw [h1.1, h1.2]; rfl
    have hX : lessX xs ys = xs.drop (comH xs ys) := by unfold lessX; rw [h1.1, h1.2]; rfl
    have hw1 : withOk ys (comH xs ys) (xs.drop (comH xs ys)) = true := by
      have h2 : vTr (xs.drop (comH xs ys)) = true := vTr_of (fun f hf => vTr_all h1.1 f (List.mem_of_mem_drop hf)) (by have := vTr_small h1.1; simp; omega)
      have h3 := vTr_small h1.1
      unfold withOk; rw [h1.2, h2]; simp; omega
    have hw2 : withX ys (comH xs ys) (xs.drop (comH xs ys)) = xs := by
      rw [withX_of hw1]
      show ys.take (Int.toNat ((comH xs ys : Nat) : Int)) ++ _ = _
      rw [Int.toNat_natCast, ← comH_take, List.take_append_drop]
    have hlen := S.len
    have HL := Lib.hid hlen
    rw [hX, List.length_drop, hlen] at S3 ⊢
    rw [hF] at hbb hbc ⊢
    have hcX := Lib.hid hF
    have HW1 := Lib.hid hw1
    have HW2 := Lib.hid hw2
    have hneg : decide (((comH xs ys : Nat) : Int) < 0) = false := decide_eq_false (by omega)
    have hq : comH xs ys ≤ 12 := by omega
    clear S4 hX hF hw1 hw2 h1 hc hlen
    generalize comH xs ys = q at *
    go_wp2_with fail
    refine (Calls.sl2W (by decide) (iWithHead_any _ _ _ _ _ _ ys (xs.drop q) q _ S2 S3 ⟨by omega, by omega⟩)).mono ?_
    rintro e w5 ⟨A5, c5, rfl, S5, hle⟩
    replace S := S.le hle
    replace S2 := S2.le hle
    replace L0 := L0.trans hle
    clear hle
    rw [HW1.out]
    rw [HW2.out, HL.out] at S5 ⊢
    go_wp2_with fail
    refine (equalTrace_self _ _ _ _ _ _ _ S5 S).mono ?_
    rintro e w6 ⟨rfl, hle⟩
    replace S := S.le hle
    replace S2 := S2.le hle
    replace L0 := L0.trans hle
    clear hle
    go_wp2_with fail
    refine (iCommonHead_any _ _ _ _ _ _ xs ys _ S S2).mono ?_
    rintro e w7 ⟨rfl, hle⟩
    replace L0 := L0.trans hle
    clear hle
    rw [hcX.out]
    go_wp2
    go_ret
    exact ⟨rfl, L0⟩

end Go.Proofs.Ytakkmgeocmndjaa
