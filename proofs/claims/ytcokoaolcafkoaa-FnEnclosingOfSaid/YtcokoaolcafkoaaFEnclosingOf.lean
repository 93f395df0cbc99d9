/- the law FnEnclosingOf -/
import Derived.Test.YtcokoaolcafkoaaDPg
import Derived.Test.YtcokoaolcafkoaaPdA
import Derived.Test.YtcokoaolcafkoaaLD
namespace Go.Proofs.Ytcokoaolcafkoaa
open Go.RowKit
set_option maxHeartbeats 4000000 in
set_option maxRecDepth 100000 in
theorem fnEnclosingOf_walk (A : Option Addr) (n cap : Nat) (bs : List By) (w : World) (hR : Sl w A n cap bs) :
    Calls Try.prog 4 #[.slice A n cap] w fun e w' => e = .returned (.bool true) ∧ Le w w' := by
  have hm := hR.n_le
  by_cases hbig : 1048576 < n
  · go_enter Try.func4, Try.ntmps4
    go_wp2
    go_ret
    exact ⟨rfl, Le.refl w⟩
  go_enter Try.func4, Try.ntmps4
  go_wp2_with fail
  refine (drawEnclosingOf_any A n cap bs w hR).mono ?_
  rintro e w1 ⟨B, D, m, c, q, d, xs, p, i, rfl, S, hm8, S2, hq24, hi, L0⟩
  obtain rfl := S2.len
  have hm1 : m ≤ 1048576 := by omega
  have hsm : p.length ≤ 1048576 := by omega
  clear hbig hm hR
  go_wp2_with fail
  obtain ⟨ct, zt, hleB⟩ := box1 w1 (.slice B m c) 25
  replace S := S.le hleB
  replace L0 := L0.trans hleB
  replace S2 := S2.le hleB
  clear hleB
  generalize w1.alloc (.cells #[.slice B m c] 25) = W1 at *
  go_wp2_with fail
  refine (Calls.sl1 (by decide) (iEnclosingOf_any B D m c _ d xs p i hm1 W1 S S2)).mono ?_
  rintro e w2 ⟨A3, c3, rfl, S3, hle⟩
  replace ct := (hle.cell zt).trans ct
  replace zt := Nat.lt_of_lt_of_le zt hle.size
  replace S := S.le hle
  replace L0 := L0.trans hle
  replace S2 := S2.le hle
  clear hle
  go_wp2_with fail
  refine (Calls.sl1 (by decide) (sEnclosingOf_any B D m c _ d xs p i hsm w2 S S2)).mono ?_
  rintro e w3 ⟨A4, c4, rfl, S4, hle⟩
  replace ct := (hle.cell zt).trans ct
  replace zt := Nat.lt_of_lt_of_le zt hle.size
  replace S := S.le hle
  replace L0 := L0.trans hle
  replace S2 := S2.le hle
  replace S3 := S3.le hle
  clear hle
  go_wp2_with fail
  refine (equalInts_self _ _ _ _ _ _ _ S3 S4).mono ?_
  rintro e w4 ⟨rfl, hle⟩
  replace ct := (hle.cell zt).trans ct
  replace zt := Nat.lt_of_lt_of_le zt hle.size
  replace S := S.le hle
  replace L0 := L0.trans hle
  replace S2 := S2.le hle
  replace S3 := S3.le hle
  clear hle
  clear S4
  go_wp2_with fail
  refine (pValidProgram_any B D m c _ d xs p hm1 w4 S S2).mono ?_
  rintro e w5 ⟨rfl, hle⟩
  replace ct := (hle.cell zt).trans ct
  replace zt := Nat.lt_of_lt_of_le zt hle.size
  replace S := S.le hle
  replace L0 := L0.trans hle
  replace S2 := S2.le hle
  replace S3 := S3.le hle
  clear hle
  cases hv : vp xs p
  · go_wp2_with fail
    refine (Calls.sl1 (by decide) (sEnclosingOf_any B D m c _ d xs p i hsm w5 S S2)).mono ?_
    rintro e w8 ⟨A6, c6, rfl, S6, hle⟩
    replace L0 := L0.trans hle
    replace S3 := S3.le hle
    clear hle
    go_wp2_with fail
    refine (equalInts_self _ _ _ _ _ _ _ S3 S6).mono ?_
    rintro e w9 ⟨rfl, hle⟩
    replace L0 := L0.trans hle
    clear hle
    go_wp2
    go_ret
    exact ⟨rfl, L0⟩
  by_cases h0 : i < 0
  · go_wp2_with fail
    refine (Calls.sl1 (by decide) (sEnclosingOf_any B D m c _ d xs p i hsm w5 S S2)).mono ?_
    rintro e w8 ⟨A6, c6, rfl, S6, hle⟩
    replace L0 := L0.trans hle
    replace S3 := S3.le hle
    clear hle
    go_wp2_with fail
    refine (equalInts_self _ _ _ _ _ _ _ S3 S6).mono ?_
    rintro e w9 ⟨rfl, hle⟩
    replace L0 := L0.trans hle
    clear hle
    go_wp2
    go_ret
    exact ⟨rfl, L0⟩
  obtain ⟨k, rfl⟩ := Int.eq_ofNat_of_zero_le (show 0 ≤ i by omega)
  by_cases hk : p.length ≤ k
  · have hk2 : (p.length : Int) ≤ (k : Int) := by omega
    go_wp2_with fail
    refine (Calls.sl1 (by decide) (sEnclosingOf_any B D m c _ d xs p _ hsm w5 S S2)).mono ?_
    rintro e w8 ⟨A6, c6, rfl, S6, hle⟩
    replace L0 := L0.trans hle
    replace S3 := S3.le hle
    clear hle
    go_wp2_with fail
    refine (equalInts_self _ _ _ _ _ _ _ S3 S6).mono ?_
    rintro e w9 ⟨rfl, hle⟩
    replace L0 := L0.trans hle
    clear hle
    go_wp2
    go_ret
    exact ⟨rfl, L0⟩
  have hkp : k < p.length := by omega
  have hk0 : (0 : Int) ≤ (k : Int) := by omega
  have hkn : (k : Int) < (p.length : Int) := by omega
  have g := goodP_of hv
  have HE : enX xs p k = nI (encl p k) := by unfold enX; rw [glB_ok hv hkp]; rfl
  have hd := encl_deep g hkp
  rw [dep_at hkp] at hd
  have HD : Hid (∀ j (h : j < (encl p k).length), ∃ hx : (encl p k)[j] < p.length, (encl p k)[j] < k ∧ p[(encl p k)[j]].depth = p[k].depth - 1 - j) := fun j h => by
    have h1 := encl_lt _ (List.getElem_mem h)
    have h2 := hd.2 j h
    rw [dep_at (by omega)] at h2
    exact ⟨by omega, h1, h2⟩
  have hdl := hd.1
  have hsl : (encl p k).length ≤ 24 := by have := encl_len p k; omega
  rw [HE, nI_len] at S3 ⊢
  have HEL := Lib.hid (nI_len (encl p k))
  have HAT : Hid (∀ j (h : j < (encl p k).length), (nI (encl p k))[j]'(by rw [nI_len]; exact h) = ((encl p k)[j] : Int)) := fun j h => nI_at h
  clear HE hd g
  generalize encl p k = E at *
  go_wp2
  go_loopw [7] (fun i wr => ∃ j : Nat, i = .int .i64 j ∧ Le w5 wr) (fun i _ => E.length - (intOf i).toNat)
  case atStart => exact ⟨0, rfl, Le.refl _⟩
  case round =>
    obtain ⟨j, rfl, LW⟩ := hrel
    replace L0 := L0.trans LW
    replace S2 := S2.le LW
    replace S3 := S3.le LW
    by_cases hlt : j < E.length
    · obtain ⟨hx, hxk, hdx⟩ := HD.out j hlt
      obtain ⟨b, off, rfl, hb, hcell, _, _⟩ := S3.int_at (k := j) (by rw [HEL.out]; exact hlt)
      rw [HAT.out j hlt] at hcell
      obtain ⟨b2, off2, rfl, hb2, cx, -⟩ := S2.lin_at hx
      obtain ⟨b3, off3, e3, hb3, ck, -, -, -, hok, hok2, -⟩ := S2.lin_at hkp
      injection e3 with e3
      injection e3 with e3 e4
      subst e3; subst e4
      rw [hdx] at cx
      generalize E[j] = x at *
      have hd1 : decide (k ≤ x) = false := decide_eq_false (by omega)
      have hx0 : (0 : Int) ≤ (x : Int) := by omega
      have hxn : (x : Int) < (p.length : Int) := by omega
      have hj0 : (j : Int) < (E.length : Int) := by omega
      generalize p[k].depth = dk at *
      have hw1 : IntKind.i64.wrap (dk - 1) = dk - 1 := IntWalk.i64_in _ (by omega)
      have hw2 : IntKind.i64.wrap (dk - 1 - (j : Int)) = dk - 1 - (j : Int) := IntWalk.i64_in _ (by omega)
      have hne : (dk - 1 - (j : Int) != dk - 1 - (j : Int)) = false := by simp
      have F1 := cell_ext hb hcell
      have F2 := cell_ext hb2 cx
      have F3 := cell_ext hb3 ck
      go_wp2_with fail
      refine wp_region_ext (by kernel_rfl) (by kernel_rfl) ?_
      repeat (go_big_quiet_step (fail))
      refine wpQuiet_nil ?_
      intro _ hw'
      obtain ⟨gg, rfl⟩ := hw'
      have hw3 := Le.ext wr gg
      generalize wr.ext gg = W2 at *
      go_wp2
      go_roundw
      case rel => exact ⟨j + 1, by go_num, LW.trans hw3⟩
      case measure => simp [intOf]; omega
    · obtain ⟨b3, off3, rfl, hb3, ck, -⟩ := S2.lin_at hkp
      have hee : ((E.length : Int) == p[k].depth) = true := by rw [hdl]; simp
      go_wp2
      go_ret
      exact ⟨rfl, L0⟩
end Go.Proofs.Ytcokoaolcafkoaa
