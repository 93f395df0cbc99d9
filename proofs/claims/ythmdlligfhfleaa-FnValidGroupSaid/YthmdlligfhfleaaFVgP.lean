/- the law FnValidGroup -/
import Derived.Test.YthmdlligfhfleaaCj11
import Derived.Test.YthmdlligfhfleaaCj16
import Derived.Test.YthmdlligfhfleaaCj15
import Derived.Test.YthmdlligfhfleaaCj7
namespace Go.Proofs.Ythmdlligfhfleaa
open Go.RowKit
theorem iValid_S (A B : Option Addr) (n cap m c : Nat) (xs : List Cls) (g : List Prt) (w : World) (hT : Sl w A n cap xs) (hG : Sl w B m c g) :
    Calls Try.prog 9 #[.agg #[.slice A n cap], .slice B m c] w fun e w' => e = .returned (.bool (gOkS xs g)) ∧ Le w w' := by
  rw [gOk_same]; exact iValidGroup_any A B n cap m c xs g w hT hG
set_option maxHeartbeats 4000000 in
set_option maxRecDepth 100000 in
theorem fnValidGroup_walk (A : Option Addr) (n cap : Nat) (bs : List By) (w : World) (hR : Sl w A n cap bs) :
    Calls Try.prog 3 #[.slice A n cap] w fun e w' => e = .returned (.bool true) ∧ Le w w' := by
  have hm := hR.n_le
  by_cases hbig : 1048576 < n
  · go_enter Try.func3, Try.ntmps3
    go_wp2
    go_ret
    exact ⟨rfl, Le.refl w⟩
  go_enter Try.func3, Try.ntmps3
  go_wp2_with fail
  refine (drawValidGroup_any A n cap bs w hR).mono ?_
  rintro e w1 ⟨B, D, m, c, k, d, xs, L, rfl, S, hm8, S2, hk40, hW, L0⟩
  go_wp2_with fail
  obtain ⟨ct, zt, hleB⟩ := box1 w1 (.slice B m c) 25
  replace S := S.le hleB
  replace L0 := L0.trans hleB
  replace S2 := S2.le hleB
  clear hleB
  generalize w1.alloc (.cells #[.slice B m c] 25) = W1 at *
  have hlen2 := S2.len
  go_wp2_with fail
  refine (iValid_S B D m c k d xs L W1 S S2).mono ?_
  rintro e w2 ⟨rfl, hle⟩
  replace ct := (hle.cell zt).trans ct
  replace zt := Nat.lt_of_lt_of_le zt hle.size
  replace S := S.le hle
  replace L0 := L0.trans hle
  replace S2 := S2.le hle
  clear hle
  go_wp2_with fail
  refine (sValidGroup_any B D m c k d xs L w2 S S2).mono ?_
  rintro e w3 ⟨rfl, hle⟩
  replace ct := (hle.cell zt).trans ct
  replace zt := Nat.lt_of_lt_of_le zt hle.size
  replace S := S.le hle
  replace L0 := L0.trans hle
  replace S2 := S2.le hle
  clear hle
  cases ho : gOkS xs L
  · go_wp2_with fail
    refine (sValidGroup_any B D m c k d xs L w3 S S2).mono ?_
    rintro e w4 ⟨rfl, hle⟩
    replace L0 := L0.trans hle
    clear hle
    rw [ho]
    go_wp2
    go_ret
    exact ⟨rfl, L0⟩
  obtain ⟨hv, hlv, hpos, hgk⟩ := kids_facts ho
  have HV := Lib.hid hv
  have HLV := Lib.hid hlv
  have HGK := Lib.hid hgk
  clear hv hlv hgk
  go_wp2_with fail
  refine (Calls.kidsO (iKidsOf_any B D m c k d xs L w3 S S2)).mono ?_
  rintro e w4 ⟨A4, c4, hs, rfl, S4, R4, hle⟩
  replace ct := (hle.cell zt).trans ct
  replace zt := Nat.lt_of_lt_of_le zt hle.size
  replace S := S.le hle
  replace L0 := L0.trans hle
  replace S2 := S2.le hle
  clear hle
  have hsl := S4.len
  have hm4 := S4.n_le
  have hg0 : gAt L 0 = L[0] := gAt_at hpos
  have HQ : Hid ((decide (0 < (kidsX xs L).length) == L[0].group) = true) := by
    show _ = true
    rw [beq_iff_eq, ← hg0, ← HGK.out]
  clear HGK hg0
  generalize kidsX xs L = M at *
  go_wp2
  go_loopw [7] (fun i wr => ∃ a : Nat, i = .int .i64 a ∧ Le w4 wr) (fun i _ => M.length - (intOf i).toNat)
  case atStart => exact ⟨0, rfl, Le.refl _⟩
  case round =>
    obtain ⟨a, rfl, LW⟩ := hrel
    replace ct := (LW.cell zt).trans ct
    replace zt := Nat.lt_of_lt_of_le zt LW.size
    replace S := S.le LW
    replace L0 := L0.trans LW
    replace S2 := S2.le LW
    replace S4 := S4.le LW
    replace R4 := R4.le LW
    by_cases hlt : a < M.length
    · have hai : (a : Int) < M.length := by omega
      have hah : a < hs.length := by omega
      obtain ⟨b, off, rfl, hb, hcell⟩ := S4.hdr_at hah
      have s1 := R4.at_ hah hlt
      have hv := HV.out M[a] (List.getElem_mem hlt)
      have F1 := cell_ext hb hcell
      have F2 := cell_ext zt ct
      go_wp2_with fail
      refine wp_region_ext (by kernel_rfl) (by kernel_rfl) ?_
      repeat (go_big_quiet_step (first | (go_at_call 9; exact Calls.ext_of (Calls.val (iValid_S _ _ m c _ _ xs M[a] _ (S.le (Le.ext _ _)) (s1.le (Le.ext _ _))) (vb hv)))))
      refine wpQuiet_nil ?_
      intro _ hw'
      obtain ⟨gg, rfl⟩ := hw'
      have hw2 := Le.ext wr gg
      generalize wr.ext gg = W2 at *
      go_wp2
      go_roundw
      case rel => exact ⟨a + 1, by go_num, LW.trans hw2⟩
      case measure => simp [intOf]; omega
    · have hai : ¬ (a : Int) < M.length := by omega
      go_wp2_with fail
      refine (Calls.sl1o (by decide) (iLeavesOf_any B D m c k d xs L wr S S2)).mono ?_
      rintro e w6 ⟨A6, c6, rfl, S6, hle⟩
      replace L0 := L0.trans hle
      replace S2 := S2.le hle
      clear hle
      obtain ⟨b0, o0, rfl, hb0, q0, q1, -, -, -⟩ := S2.prt_at hpos
      have hl6 : decide ((0 : Int) < (lvX xs L).length) = true := decide_eq_true (by have := HLV.out; omega)
      have hl7 := HLV.out
      have hq := HQ.out
      have hk0 : 0 < k := by omega
      have hk1 : (0 : Int) < k := by omega
      rw [Nat.zero_mul, Nat.add_zero] at q0 q1
      clear HLV HQ HV S4 R4 S6 ct S
      go_wp2
      go_ret
      exact ⟨rfl, L0⟩
end Go.Proofs.Ythmdlligfhfleaa
