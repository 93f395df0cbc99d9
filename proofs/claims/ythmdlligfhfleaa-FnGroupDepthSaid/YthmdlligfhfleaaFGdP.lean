/- the law FnGroupDepth -/
import Derived.Test.YthmdlligfhfleaaCj11
import Derived.Test.YthmdlligfhfleaaCj16
import Derived.Test.YthmdlligfhfleaaCj15
namespace Go.Proofs.Ythmdlligfhfleaa
open Go.RowKit
theorem dep_lo (xs : List Cls) (L : List Prt) : -1 ≤ depX xs L := by
  unfold depX; split
  · have := (depK_max L L.length).1; omega
  · exact Int.le_refl _
theorem mxD_lo (xs : List Cls) (G : List (List Prt)) : ∀ k, k ≤ G.length → -1 ≤ mxD xs (G.take k)
  | 0, _ => Int.le_refl _
  | k + 1, h => by
    rw [mxD_snoc xs (by omega)]
    have := mxD_lo xs G k (by omega)
    have := dep_lo xs G[k]
    split <;> omega
set_option maxHeartbeats 4000000 in
set_option maxRecDepth 100000 in
theorem fnGroupDepth_walk (A : Option Addr) (n cap : Nat) (bs : List By) (w : World) (hR : Sl w A n cap bs) :
    Calls Try.prog 5 #[.slice A n cap] w fun e w' => e = .returned (.bool true) ∧ Le w w' := by
  have hm := hR.n_le
  by_cases hbig : 1048576 < n
  · go_enter Try.func5, Try.ntmps5
    go_wp2
    go_ret
    exact ⟨rfl, Le.refl w⟩
  go_enter Try.func5, Try.ntmps5
  go_wp2_with fail
  refine (drawGroupDepth_any A n cap bs w hR).mono ?_
  rintro e w1 ⟨B, D, m, c, k, d, xs, L, rfl, S, hm8, S2, hk40, hW, L0⟩
  go_wp2_with fail
  obtain ⟨ct, zt, hleB⟩ := box1 w1 (.slice B m c) 25
  replace S := S.le hleB
  replace L0 := L0.trans hleB
  replace S2 := S2.le hleB
  clear hleB
  generalize w1.alloc (.cells #[.slice B m c] 25) = W1 at *
  have hlen2 := S2.len
  go_wp2_with fail
  refine (iGroupDepth_any B D m c k d xs L W1 S S2).mono ?_
  rintro e w2 ⟨rfl, hle⟩
  replace ct := (hle.cell zt).trans ct
  replace zt := Nat.lt_of_lt_of_le zt hle.size
  replace S := S.le hle
  replace L0 := L0.trans hle
  replace S2 := S2.le hle
  clear hle
  go_wp2_with fail
  refine (sGroupDepth_any B D m c k d xs L w2 S S2).mono ?_
  rintro e w3 ⟨rfl, hle⟩
  replace ct := (hle.cell zt).trans ct
  replace zt := Nat.lt_of_lt_of_le zt hle.size
  replace S := S.le hle
  replace L0 := L0.trans hle
  replace S2 := S2.le hle
  clear hle
  have hne : (depX xs L != depX xs L) = false := by simp
  cases ho : gOkS xs L
  · have hx := (kids_bad ho).2
    have hneg : decide (depX xs L < 0) = true := decide_eq_true (by omega)
    go_wp2_with fail
    refine (sGroupDepth_any B D m c k d xs L w3 S S2).mono ?_
    rintro e w4 ⟨rfl, hle⟩
    replace L0 := L0.trans hle
    clear hle
    have heq : (depX xs L == depX xs L) = true := by simp
    go_wp2
    go_ret
    exact ⟨by first | rfl | exact ret_bool heq, L0⟩
  obtain ⟨hdk, hd0⟩ := dep_facts ho
  have hnn : decide (depX xs L < 0) = false := decide_eq_false (by omega)
  have HDK := Lib.hid hdk
  have hd16 : depX xs L ≤ 1000 := by
    obtain ⟨t, rfl, ht⟩ := gOk_iff.1 ho
    rw [depX_tree ht]; have := ht.ht; omega
  clear hdk
  go_wp2_with fail
  refine (Calls.kidsO (iKidsOf_any B D m c k d xs L w3 S S2)).mono ?_
  rintro e w4 ⟨A4, c4, hs, rfl, S4, R4, hle⟩
  replace ct := (hle.cell zt).trans ct
  replace zt := Nat.lt_of_lt_of_le zt hle.size
  replace S := S.le hle
  replace L0 := L0.trans hle
  replace S2 := S2.le hle
  clear hle
  have hsl := S4.len
  have hm4 := S4.n_le
  generalize kidsX xs L = M at *
  go_wp2
  go_loopw [6, 8] (fun v i wr => ∃ a : Nat, a ≤ M.length ∧ i = .int .i64 a ∧ v = .int .i64 (mxD xs (M.take a)) ∧ Le w4 wr) (fun _ i _ => M.length - (intOf i).toNat)
  case atStart => exact ⟨0, Nat.zero_le _, rfl, rfl, Le.refl _⟩
  case round =>
    obtain ⟨a, ha, rfl, rfl, LW⟩ := hrel
    replace ct := (LW.cell zt).trans ct
    replace zt := Nat.lt_of_lt_of_le zt LW.size
    replace S := S.le LW
    replace L0 := L0.trans LW
    replace S2 := S2.le LW
    replace S4 := S4.le LW
    replace R4 := R4.le LW
    by_cases hlt : a < M.length
    · have hai : (a : Int) < M.length := by omega
      have hah : a < hs.length := by omega
      obtain ⟨b, off, rfl, hb, hcell⟩ := S4.hdr_at hah
      have s1 := R4.at_ hah hlt
      have hmx := mxD_snoc xs hlt
      have hlo := mxD_lo xs M a ha
      have hlo2 := dep_lo xs M[a]
      have F1 := cell_ext hb hcell
      have F2 := cell_ext zt ct
      go_wp2_with fail
      refine wp_region_ext (by kernel_rfl) (by kernel_rfl) ?_
      repeat (go_big_quiet_step (first | (go_at_call 17; exact Calls.ext_of (iGroupDepth_any _ _ m c _ _ xs M[a] _ (S.le (Le.ext _ _)) (s1.le (Le.ext _ _))))))
      refine wpQuiet_nil ?_
      intro _ hw'
      obtain ⟨gg, rfl⟩ := hw'
      have hw2 := Le.ext wr gg
      generalize wr.ext gg = W2 at *
      go_wp2
      go_roundw
      case rel => exact ⟨a + 1, by omega, by go_num, by rw [hmx], LW.trans hw2⟩
      case measure => simp [intOf]; omega
    · have hai : ¬ (a : Int) < M.length := by omega
      obtain rfl : a = M.length := by omega
      rw [List.take_length]
      have hw1 : IntKind.i64.wrap (mxD xs M + 1) = mxD xs M + 1 := IntWalk.i64_in _ (by have := HDK.out; omega)
      have hq : (depX xs L == mxD xs M + 1) = true := by rw [beq_iff_eq]; exact HDK.out
      go_wp2
      go_ret
      exact ⟨by first | rfl | exact ret_bool hq, L0⟩
end Go.Proofs.Ythmdlligfhfleaa
