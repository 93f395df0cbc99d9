/- the law FnWithHead -/
import Derived.Test.YtakkmgeocmndjaaFT0
import Derived.Test.YtakkmgeocmndjaaDP
namespace Go.Proofs.Ytakkmgeocmndjaa
open Go.RowKit
theorem comH_ge : ∀ (xs ys : List Frm) (k : Nat), k ≤ xs.length → k ≤ comH (xs.take k ++ ys) xs
  | _, _, 0, _ => Nat.zero_le _
  | x :: r, ys, k + 1, h => by
    have ih := comH_ge r ys k (by simpa using h)
    show k + 1 ≤ comH (x :: (r.take k ++ ys)) (x :: r)
    rw [comH, if_pos ⟨rfl, rfl⟩]; omega
set_option maxHeartbeats 1000000 in
set_option maxRecDepth 100000 in
theorem fnWithHead_walk (A : Option Addr) (n cap : Nat) (bs : List By) (w : World) (hR : Sl w A n cap bs) :
    Calls Try.prog 11 #[.slice A n cap] w fun e w' => e = .returned (.bool true) ∧ Le w w' := by
  have hm := hR.n_le
  by_cases hbig : 1048576 < n
  · go_enter Try.func11, Try.ntmps11
    go_wp2
    go_ret
    exact ⟨rfl, Le.refl w⟩
  go_enter Try.func11, Try.ntmps11
  go_wp2_with fail
  refine (drawWithHead_any A n cap bs w hR).mono ?_
  rintro e w1 ⟨B, D, m, c, k, d, xs, ys, a, rfl, S, hm8, S2, hk8, ha, L0⟩
  have hai : -9223372036854775808 ≤ a ∧ a ≤ 9223372036854775807 := by omega
  go_wp2_with fail
  refine (Calls.sl2W (by decide) (iWithHead_any _ _ _ _ _ _ xs ys a _ S S2 hai)).mono ?_
  rintro e w2 ⟨A3, c3, rfl, S3, hle⟩
  replace S := S.le hle
  replace S2 := S2.le hle
  replace L0 := L0.trans hle
  clear hle
  go_wp2_with fail
  refine (Calls.sl2 (by decide) (sWithHead_any _ _ _ _ _ _ xs ys a _ S S2 hai)).mono ?_
  rintro e w3 ⟨A4, c4, rfl, S4, hle⟩
  replace S := S.le hle
  replace S2 := S2.le hle
  replace S3 := S3.le hle
  replace L0 := L0.trans hle
  clear hle
  go_wp2_with fail
  refine (equalTrace_self _ _ _ _ _ _ _ S3 S4).mono ?_
  rintro e w4 ⟨rfl, hle⟩
  replace S := S.le hle
  replace S2 := S2.le hle
  replace S3 := S3.le hle
  replace S4 := S4.le hle
  replace L0 := L0.trans hle
  clear hle
  cases h1 : withOk xs a ys
  · go_wp2_with fail
    refine (equalTrace_self _ _ _ _ _ _ _ S3 S4).mono ?_
    rintro e w5 ⟨rfl, hle⟩
    replace L0 := L0.trans hle
    clear hle
    go_wp2
    go_ret
    exact ⟨rfl, L0⟩
  · have hlen := S.len
    have hlen2 := S2.len
    have h2 := h1
    unfold withOk at h2
    simp only [Bool.and_eq_true] at h2
    obtain ⟨⟨⟨v1, v2⟩, q1, q2⟩, q3⟩ := h2
    have q4 : 0 ≤ a ∧ a ≤ xs.length := ⟨by simpa using q1, by simpa using q2⟩
    have q5 : a + (ys.length : Int) ≤ 12 := by simpa using q3
    obtain ⟨j, rfl⟩ : ∃ j : Nat, a = j := ⟨a.toNat, by omega⟩
    have hX : withX xs (j : Int) ys = xs.take j ++ ys := by rw [withX_of h1]; rfl
    have hl : (xs.take j ++ ys).length = j + k := by simp; omega
    have hv : vTr (xs.take j ++ ys) = true := by rw [vTr_join v1 v2 j (by omega)]; exact decide_eq_true (by omega)
    have hc := comH_ge xs ys j (by omega)
    have hcl := comH_le (xs.take j ++ ys) xs
    have hC : comX (xs.take j ++ ys) xs = (comH (xs.take j ++ ys) xs : Int) := by unfold comX; rw [hv, v1]; rfl
    rw [hX, hl] at S3 ⊢
    have hjm : j ≤ m := by omega
    have hcp := S.cap_
    have hcp3 := S3.cap_
    have hmx3 := S3.max
    have hjc : j ≤ c := by omega
    have hjc3 : j ≤ c3 := by omega
    have T1 := S3.take_ j (by omega)
    have T2 := S.take_ j hjm
    have htt : (xs.take j ++ ys).take j = xs.take j := by rw [List.take_left' (by rw [List.length_take]; omega)]
    rw [htt] at T1
    have hdd : (xs.take j ++ ys).drop j = ys := by rw [List.drop_left' (by rw [List.length_take]; omega)]
    have HC := Lib.hid hC
    have HDD := Lib.hid hdd
    generalize hq : comH (xs.take j ++ ys) xs = q at *
    have hqj : decide ((j : Int) ≤ (q : Int)) = true := decide_eq_true (by omega)
    have hqj2 : decide (j ≤ q) = true := decide_eq_true hc
    clear S4 hX hl hv hcl hC htt hdd hq v1 v2 q1 q2 q3 q4 q5 h1 hlen hlen2 hc
    have hjk : j + k - j = k := by omega
    rcases A3 with _ | ad
    · have e0 := S3.none_nil
      have hl0 := S3.len
      rw [e0] at hl0
      simp at hl0
      obtain ⟨rfl, rfl⟩ : j = 0 ∧ k = 0 := by omega
      have T3 : Sl w4 none 0 c3 ys := by
        have := HDD.out
        rw [e0] at this
        simp at this
        subst this
        exact Sl.nil _ _ _ hmx3
      clear e0 hl0 HDD hjk
      go_wp2_with fail
      refine wp_region_ext (by kernel_rfl) (by kernel_rfl) ?_
      repeat (go_big_quiet_step (first | (go_at_call 21; with_reducible exact Calls.ext_of (equalTrace_self _ _ _ _ _ _ _ (T1.ext _) (T2.ext _))) | (go_at_call 21; with_reducible exact Calls.ext_of (equalTrace_self _ _ _ _ _ _ _ (T3.ext _) (S2.ext _))) | (go_at_call 37; with_reducible exact Calls.ext_of (Calls.val (iCommonHead_any _ _ _ _ _ _ _ _ _ (S3.ext _) (S.ext _)) (vi HC.out)))))
      refine wpQuiet_nil ?_
      intro _ hw'
      obtain ⟨g, rfl⟩ := hw'
      replace L0 := L0.trans (Le.ext _ g)
      generalize w4.ext g = W2 at *
      go_wp2
      go_ret
      exact ⟨rfl, L0⟩
    · by_cases hcj : c3 = j
      · subst hcj
        obtain rfl : k = 0 := by omega
        have T3 : Sl w4 (some ad) 0 0 ys := by
          have h := S3.cutE (some ad) (by omega)
          rw [HDD.out] at h; exact h
        clear HDD hjk
        go_wp2_with fail
        refine wp_region_ext (by kernel_rfl) (by kernel_rfl) ?_
        repeat (go_big_quiet_step (first | (go_at_call 21; with_reducible exact Calls.ext_of (equalTrace_self _ _ _ _ _ _ _ (T1.ext _) (T2.ext _))) | (go_at_call 21; with_reducible exact Calls.ext_of (equalTrace_self _ _ _ _ _ _ _ (T3.ext _) (S2.ext _))) | (go_at_call 37; with_reducible exact Calls.ext_of (Calls.val (iCommonHead_any _ _ _ _ _ _ _ _ _ (S3.ext _) (S.ext _)) (vi HC.out)))))
        refine wpQuiet_nil ?_
        intro _ hw'
        obtain ⟨g, rfl⟩ := hw'
        replace L0 := L0.trans (Le.ext _ g)
        generalize w4.ext g = W2 at *
        go_wp2
        go_ret
        exact ⟨rfl, L0⟩
      · have T3 : Sl w4 (some (ad.add (j * 2))) k (c3 - j) ys := by
          have h := S3.cutS j (by omega) (s := j * 2) rfl
          rw [HDD.out, hjk] at h; exact h
        clear HDD
        go_wp2_with fail
        refine wp_region_ext (by kernel_rfl) (by kernel_rfl) ?_
        repeat (go_big_quiet_step (first | (go_at_call 21; with_reducible exact Calls.ext_of (equalTrace_self _ _ _ _ _ _ _ (T1.ext _) (T2.ext _))) | (go_at_call 21; with_reducible exact Calls.ext_of (equalTrace_self _ _ _ _ _ _ _ (T3.ext _) (S2.ext _))) | (go_at_call 37; with_reducible exact Calls.ext_of (Calls.val (iCommonHead_any _ _ _ _ _ _ _ _ _ (S3.ext _) (S.ext _)) (vi HC.out)))))
        refine wpQuiet_nil ?_
        intro _ hw'
        obtain ⟨g, rfl⟩ := hw'
        replace L0 := L0.trans (Le.ext _ g)
        generalize w4.ext g = W2 at *
        go_wp2
        go_ret
        exact ⟨rfl, L0⟩
end Go.Proofs.Ytakkmgeocmndjaa
