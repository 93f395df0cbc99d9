/- the law FnCommonHead -/
import Derived.Test.YtakkmgeocmndjaaFT0
namespace Go.Proofs.Ytakkmgeocmndjaa
open Go.RowKit
set_option maxHeartbeats 1000000 in
set_option maxRecDepth 100000 in
theorem fnCommonHead_walk (A : Option Addr) (n cap : Nat) (bs : List By) (w : World) (hR : Sl w A n cap bs) :
    Calls Try.prog 9 #[.slice A n cap] w fun e w' => e = .returned (.bool true) ∧ Le w w' := by
  have hm := hR.n_le
  by_cases hbig : 1048576 < n
  · go_enter Try.func9, Try.ntmps9
    go_wp2
    go_ret
    exact ⟨rfl, Le.refl w⟩
  go_enter Try.func9, Try.ntmps9
  go_wp2_with fail
  refine (drawCommonHead_any A n cap bs w hR).mono ?_
  rintro e w1 ⟨B, D, m, c, k, d, xs, ys, rfl, S, hm8, S2, hk8, L0⟩
  have hbb : (comX xs ys != comX xs ys) = false := by simp
  have hbc : (comX xs ys == comX xs ys) = true := by simp
  go_wp2_with fail
  refine (iCommonHead_any _ _ _ _ _ _ xs ys _ S S2).mono ?_
  rintro e w2 ⟨rfl, hle⟩
  replace S := S.le hle
  replace S2 := S2.le hle
  replace L0 := L0.trans hle
  clear hle
  go_wp2_with fail
  refine (sCommonHead_any _ _ _ _ _ _ xs ys _ S S2).mono ?_
  rintro e w3 ⟨rfl, hle⟩
  replace S := S.le hle
  replace S2 := S2.le hle
  replace L0 := L0.trans hle
  clear hle
  cases h1 : (vTr xs && vTr ys)
  · have HF := Lib.hid (show comX xs ys = -1 by unfold comX; rw [h1]; rfl)
    rw [HF.out] at hbb hbc ⊢
    go_wp2_with fail
    refine (sCommonHead_any _ _ _ _ _ _ xs ys _ S S2).mono ?_
    rintro e w5 ⟨rfl, hle⟩
    replace L0 := L0.trans hle
    clear hle
    rw [HF.out]
    go_wp2
    go_ret
    exact ⟨rfl, L0⟩
  · have hc := comH_le xs ys
    simp at h1
    have hF : comX xs ys = (comH xs ys : Int) := by unfold comX; rw [h1.1, h1.2]; rfl
    have HF := Lib.hid hF
    have HG := Lib.hid (show comX ys xs = (comH xs ys : Int) by unfold comX; rw [h1.1, h1.2, comH_comm]; rfl)
    have HS := Lib.hid (show comX xs xs = (xs.length : Int) by unfold comX; rw [h1.1, comH_self]; rfl)
    have HT1 := Lib.hid (show trimX xs (comH xs ys) = xs.take (comH xs ys) by rw [trimX_of h1.1]; exact trim_pos)
    have HT2 := Lib.hid (show trimX ys (comH xs ys) = xs.take (comH xs ys) by rw [trimX_of h1.2, comH_take]; exact trim_pos)
    have HST := Lib.hid (comH_stop xs ys)
    obtain rfl := S.len
    obtain rfl := S2.len
    rw [hF] at hbb hbc ⊢
    have hneg : decide (((comH xs ys : Nat) : Int) < 0) = false := decide_eq_false (by omega)
    have hq : comH xs ys ≤ 12 := by omega
    clear hF h1
    generalize comH xs ys = q at *
    go_wp2_with fail
    refine (Calls.sl1W (by decide) (iTrimTrace_any _ _ _ xs q _ S ⟨by omega, by omega⟩)).mono ?_
    rintro e w4 ⟨A3, c3, rfl, S3, hle⟩
    replace S := S.le hle
    replace S2 := S2.le hle
    replace L0 := L0.trans hle
    clear hle
    go_wp2_with fail
    refine (Calls.sl1W (by decide) (iTrimTrace_any _ _ _ ys q _ S2 ⟨by omega, by omega⟩)).mono ?_
    rintro e w5 ⟨A4, c4, rfl, S4, hle⟩
    replace S := S.le hle
    replace S2 := S2.le hle
    replace S3 := S3.le hle
    replace L0 := L0.trans hle
    clear hle
    have hlt : (xs.take q).length = q := by rw [List.length_take]; omega
    rw [HT1.out, hlt] at S3 ⊢
    rw [HT2.out, hlt] at S4 ⊢
    go_wp2_with fail
    refine (equalTrace_self _ _ _ _ _ _ _ S3 S4).mono ?_
    rintro e w6 ⟨rfl, hle⟩
    replace S := S.le hle
    replace S2 := S2.le hle
    replace L0 := L0.trans hle
    clear hle
    have HC1 : Hid (∀ W, Le w6 W → Calls Try.prog 37 #[.slice D ys.length d, .slice B xs.length c] W fun e w' => e = .returned (.int .i64 q) ∧ Le W w') := fun W hl => by
      have h := iCommonHead_any _ _ _ _ _ _ ys xs W (S2.le hl) (S.le hl)
      rw [HG.out] at h; exact h
    have HC2 : Hid (∀ W, Le w6 W → Calls Try.prog 37 #[.slice B xs.length c, .slice B xs.length c] W fun e w' => e = .returned (.int .i64 xs.length) ∧ Le W w') := fun W hl => by
      have h := iCommonHead_any _ _ _ _ _ _ xs xs W (S.le hl) (S.le hl)
      rw [HS.out] at h; exact h
    have hll : ((xs.length : Int) == (xs.length : Int)) = true := by simp
    by_cases h1 : q = xs.length
    · have e1 : ((q : Int) == (xs.length : Int)) = true := by rw [h1]; simp
      clear h1 S S2 S3 S4 hlt hc
      go_wp2_with fail
      refine wp_region_ext (by kernel_rfl) (by kernel_rfl) ?_
      repeat (go_big_quiet_step (first | (go_at_call 37; with_reducible exact Calls.ext_of (HC1.out _ (Le.ext _ _))) | (go_at_call 37; with_reducible exact Calls.ext_of (HC2.out _ (Le.ext _ _)))))
      refine wpQuiet_nil ?_
      intro _ hw'
      obtain ⟨g, rfl⟩ := hw'
      replace L0 := L0.trans (Le.ext _ g)
      generalize w6.ext g = W2 at *
      go_wp2
      go_ret
      exact ⟨rfl, L0⟩
    · have e1 : ((q : Int) == (xs.length : Int)) = false := by simp; omega
      by_cases h2 : q = ys.length
      · have e2 : ((q : Int) == (ys.length : Int)) = true := by rw [h2]; simp
        clear h1 h2 S S2 S3 S4 hlt hc
        go_wp2_with fail
        refine wp_region_ext (by kernel_rfl) (by kernel_rfl) ?_
        repeat (go_big_quiet_step (first | (go_at_call 37; with_reducible exact Calls.ext_of (HC1.out _ (Le.ext _ _))) | (go_at_call 37; with_reducible exact Calls.ext_of (HC2.out _ (Le.ext _ _)))))
        refine wpQuiet_nil ?_
        intro _ hw'
        obtain ⟨g, rfl⟩ := hw'
        replace L0 := L0.trans (Le.ext _ g)
        generalize w6.ext g = W2 at *
        go_wp2
        go_ret
        exact ⟨rfl, L0⟩
      · have e2 : ((q : Int) == (ys.length : Int)) = false := by simp; omega
        have hq1 : q < xs.length := by omega
        have hq2 : q < ys.length := by omega
        have hst := HST.out hq1 hq2
        obtain ⟨b, off, rfl, hb, hcell0, hcell1, _⟩ := S.frm_at hq1
        obtain ⟨b2, off2, rfl, hb2, hdell0, hdell1, _⟩ := S2.frm_at hq2
        have E0 := cell_ext hb hcell0
        have E1 := cell_ext hb hcell1
        have F0 := cell_ext hb2 hdell0
        have F1 := cell_ext hb2 hdell1
        by_cases h3 : xs[q].fn = ys[q].fn
        · have e3 := str_eq h3
          have e4 : (xs[q].line == ys[q].line) = false := by simp; exact fun h => hst ⟨h3, h⟩
          clear h1 h2 h3 hst S S2 S3 S4 hlt hc
          go_wp2_with fail
          refine wp_region_ext (by kernel_rfl) (by kernel_rfl) ?_
          repeat (go_big_quiet_step (first | (go_at_call 37; with_reducible exact Calls.ext_of (HC1.out _ (Le.ext _ _))) | (go_at_call 37; with_reducible exact Calls.ext_of (HC2.out _ (Le.ext _ _)))))
          refine wpQuiet_nil ?_
          intro _ hw'
          obtain ⟨g, rfl⟩ := hw'
          replace L0 := L0.trans (Le.ext _ g)
          generalize w6.ext g = W2 at *
          go_wp2
          go_ret
          exact ⟨rfl, L0⟩
        · have e3 := str_ne h3
          clear h1 h2 h3 hst S S2 S3 S4 hlt hc
          go_wp2_with fail
          refine wp_region_ext (by kernel_rfl) (by kernel_rfl) ?_
          repeat (go_big_quiet_step (first | (go_at_call 37; with_reducible exact Calls.ext_of (HC1.out _ (Le.ext _ _))) | (go_at_call 37; with_reducible exact Calls.ext_of (HC2.out _ (Le.ext _ _)))))
          refine wpQuiet_nil ?_
          intro _ hw'
          obtain ⟨g, rfl⟩ := hw'
          replace L0 := L0.trans (Le.ext _ g)
          generalize w6.ext g = W2 at *
          go_wp2
          go_ret
          exact ⟨rfl, L0⟩
end Go.Proofs.Ytakkmgeocmndjaa
