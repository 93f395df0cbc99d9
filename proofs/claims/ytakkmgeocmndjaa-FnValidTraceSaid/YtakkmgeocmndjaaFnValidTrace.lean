/- the law FnValidTrace -/
import Derived.Test.YtakkmgeocmndjaaFT0
namespace Go.Proofs.Ytakkmgeocmndjaa
open Go.RowKit
theorem vTr_drop {xs : List Frm} (h : vTr xs = true) (k : Nat) : vTr (xs.drop k) = true := vTr_of (fun f hf => vTr_all h f (List.mem_of_mem_drop hf)) (by have := vTr_small h; simp; omega)
theorem vTr_take {xs : List Frm} (h : vTr xs = true) (k : Nat) : vTr (xs.take k) = true := vTr_of (fun f hf => vTr_all h f (List.mem_of_mem_take hf)) (by have := vTr_small h; simp; omega)
set_option maxHeartbeats 1000000 in
set_option maxRecDepth 100000 in
theorem fnValidTrace_walk (A : Option Addr) (n cap : Nat) (bs : List By) (w : World) (hR : Sl w A n cap bs) :
    Calls Try.prog 3 #[.slice A n cap] w fun e w' => e = .returned (.bool true) ∧ Le w w' := by
  have hm := hR.n_le
  by_cases hbig : 1048576 < n
  · go_enter Try.func3, Try.ntmps3
    go_wp2
    go_ret
    exact ⟨rfl, Le.refl w⟩
  go_enter Try.func3, Try.ntmps3
  go_wp2_with fail
  refine (drawValidTrace_any A n cap bs w hR).mono ?_
  rintro e w1 ⟨B, m, c, xs, rfl, S, hm8, L0⟩
  go_wp2_with fail
  refine (iValidTrace_any _ _ _ xs _ S).mono ?_
  rintro e w2 ⟨rfl, hle⟩
  replace S := S.le hle
  replace L0 := L0.trans hle
  clear hle
  go_wp2_with fail
  refine (sValidTrace_any _ _ _ xs _ S).mono ?_
  rintro e w3 ⟨rfl, hle⟩
  replace S := S.le hle
  replace L0 := L0.trans hle
  clear hle
  cases h1 : vTr xs
  · go_wp2_with fail
    refine (sValidTrace_any _ _ _ xs _ S).mono ?_
    rintro e w4 ⟨rfl, hle⟩
    replace S := S.le hle
    replace L0 := L0.trans hle
    clear hle
    rw [h1]
    go_wp2
    go_ret
    exact ⟨rfl, L0⟩
  · have hlen := S.len
    rcases Nat.eq_zero_or_pos m with h0 | h0
    · subst h0
      go_wp2
      go_ret
      exact ⟨rfl, L0⟩
    · obtain ⟨j, rfl⟩ : ∃ j, m = j + 1 := ⟨m - 1, by omega⟩
      have hcp := S.cap_
      have hmx := S.max
      have HD := Lib.hid (vTr_drop h1 1)
      have HT := Lib.hid (vTr_take h1 j)
      have hwj : IntKind.i64.wrap ((j : Int) + 1 - 1) = (j : Int) := by rw [Int.add_sub_cancel]; exact IntWalk.i64_in _ (by omega)
      have hj0 : ((j : Int) + 1 == 0) = false := by simp; omega
      have hjc : j ≤ c := by omega
      have S5 := S.take_ j (by omega)
      obtain ⟨b, off, rfl, -⟩ := S.frm_at (k := 0) (by omega)
      by_cases hc : c = 1
      · subst hc
        have S4 := S.cutE (some ⟨b, off, none⟩) hcp
        obtain rfl : j = 0 := by omega
        clear hlen hcp hmx h1
        go_wp2_with fail
        refine (iValidTrace_any _ _ _ (xs.drop 1) _ S4).mono ?_
        rintro e w4 ⟨rfl, hle⟩
        rw [HD.out]
        replace S5 := S5.le hle
        replace L0 := L0.trans hle
        clear hle S S4
        go_wp2_with fail
        refine (iValidTrace_any _ _ _ (xs.take 0) _ S5).mono ?_
        rintro e w5 ⟨rfl, hle⟩
        rw [HT.out]
        replace L0 := L0.trans hle
        go_wp2
        go_ret
        exact ⟨rfl, L0⟩
      · have S4 : Sl w3 (some ⟨b, off + 2, none⟩) j (c - 1) (xs.drop 1) := S.dropK 1 (by omega)
        clear hlen h1
        go_wp2_with fail
        refine (iValidTrace_any _ _ _ (xs.drop 1) _ S4).mono ?_
        rintro e w4 ⟨rfl, hle⟩
        rw [HD.out]
        replace S5 := S5.le hle
        replace L0 := L0.trans hle
        clear hle S S4
        go_wp2_with fail
        refine (iValidTrace_any _ _ _ (xs.take j) _ S5).mono ?_
        rintro e w5 ⟨rfl, hle⟩
        rw [HT.out]
        replace L0 := L0.trans hle
        go_wp2
        go_ret
        exact ⟨rfl, L0⟩
end Go.Proofs.Ytakkmgeocmndjaa
