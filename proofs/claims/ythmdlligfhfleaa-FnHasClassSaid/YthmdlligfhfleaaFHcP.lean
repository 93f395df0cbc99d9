/- the law FnHasClass -/
import Derived.Test.YthmdlligfhfleaaDrWP
import Derived.Test.YthmdlligfhfleaaCj16
import Derived.Test.YthmdlligfhfleaaCj14
import Derived.Test.YthmdlligfhfleaaCj10
import Derived.Test.YthmdlligfhfleaaCj7
import Derived.Test.YthmdlligfhfleaaCj8
namespace Go.Proofs.Ythmdlligfhfleaa
open Go.RowKit
theorem iValid_S (A B : Option Addr) (n cap m c : Nat) (xs : List Cls) (g : List Prt) (w : World) (hT : Sl w A n cap xs) (hG : Sl w B m c g) :
    Calls Try.prog 9 #[.agg #[.slice A n cap], .slice B m c] w fun e w' => e = .returned (.bool (gOkS xs g)) ∧ Le w w' := by
  rw [gOk_same]; exact iValidGroup_any A B n cap m c xs g w hT hG
set_option maxHeartbeats 4000000 in
set_option maxRecDepth 100000 in
theorem fnHasClass_walk (A : Option Addr) (n cap : Nat) (bs : List By) (w : World) (hR : Sl w A n cap bs) :
    Calls Try.prog 6 #[.slice A n cap] w fun e w' => e = .returned (.bool true) ∧ Le w w' := by
  have hm := hR.n_le
  by_cases hbig : 1048576 < n
  · go_enter Try.func6, Try.ntmps6
    go_wp2
    go_ret
    exact ⟨rfl, Le.refl w⟩
  go_enter Try.func6, Try.ntmps6
  go_wp2_with fail
  refine (drawHasClass_any A n cap bs w hR).mono ?_
  rintro e w1 ⟨B, D, m, c, k, d, xs, L, a, rfl, S, hm8, S2, hk40, hW, ha0, ha1, L0⟩
  go_wp2_with fail
  obtain ⟨ct, zt, hleB⟩ := box1 w1 (.slice B m c) 25
  replace S := S.le hleB
  replace L0 := L0.trans hleB
  replace S2 := S2.le hleB
  clear hleB
  generalize w1.alloc (.cells #[.slice B m c] 25) = W1 at *
  have hlen2 := S2.len
  have hnn : (hcX xs L a != hcX xs L a) = false := by simp
  have hee : (hcX xs L a == hcX xs L a) = true := by simp
  go_wp2_with fail
  refine (iHasClass_any B D m c k d xs L a W1 S S2).mono ?_
  rintro e w2 ⟨rfl, hle⟩
  replace ct := (hle.cell zt).trans ct
  replace zt := Nat.lt_of_lt_of_le zt hle.size
  replace S := S.le hle
  replace L0 := L0.trans hle
  replace S2 := S2.le hle
  clear hle
  go_wp2_with fail
  refine (sHasClass_any B D m c k d xs L a w2 S S2).mono ?_
  rintro e w3 ⟨rfl, hle⟩
  replace ct := (hle.cell zt).trans ct
  replace zt := Nat.lt_of_lt_of_le zt hle.size
  replace S := S.le hle
  replace L0 := L0.trans hle
  replace S2 := S2.le hle
  clear hle
  go_wp2_with fail
  refine (iValid_S B D m c k d xs L w3 S S2).mono ?_
  rintro e w4 ⟨rfl, hle⟩
  replace ct := (hle.cell zt).trans ct
  replace zt := Nat.lt_of_lt_of_le zt hle.size
  replace S := S.le hle
  replace L0 := L0.trans hle
  replace S2 := S2.le hle
  clear hle
  cases ho : gOkS xs L
  · go_wp2_with fail
    refine (sHasClass_any B D m c k d xs L a w4 S S2).mono ?_
    rintro e w5 ⟨rfl, hle⟩
    replace L0 := L0.trans hle
    clear hle
    go_wp2
    go_ret
    exact ⟨by first | rfl | exact ret_bool hee, L0⟩
  go_wp2_with fail
  refine (has_any B m c xs a w4 S).mono ?_
  rintro e w5 ⟨rfl, hle⟩
  replace ct := (hle.cell zt).trans ct
  replace zt := Nat.lt_of_lt_of_le zt hle.size
  replace S := S.le hle
  replace L0 := L0.trans hle
  replace S2 := S2.le hle
  clear hle
  cases hh : hasK xs a
  · go_wp2_with fail
    refine (sHasClass_any B D m c k d xs L a w5 S S2).mono ?_
    rintro e w6 ⟨rfl, hle⟩
    replace L0 := L0.trans hle
    clear hle
    go_wp2
    go_ret
    exact ⟨by first | rfl | exact ret_bool hee, L0⟩
  obtain ⟨hf, hf0⟩ := hc_facts ho hh
  have HF := Lib.hid hf
  clear hf hnn hee
  go_wp2_with fail
  refine (Calls.sl1o (by decide) (iLeavesOf_any B D m c k d xs L w5 S S2)).mono ?_
  rintro e w6 ⟨A6, c6, rfl, S3, hle⟩
  replace ct := (hle.cell zt).trans ct
  replace zt := Nat.lt_of_lt_of_le zt hle.size
  replace S := S.le hle
  replace L0 := L0.trans hle
  replace S2 := S2.le hle
  clear hle
  have hm6 := S3.n_le
  generalize lvX xs L = V at *
  go_wp2
  go_loopw [7, 9] (fun v i wr => ∃ j : Nat, j ≤ V.length ∧ i = .int .i64 j ∧ v = .bool ((V.take j).any (fun x => isAx xs x.cls a)) ∧ Le w6 wr) (fun _ i _ => V.length - (intOf i).toNat)
  case atStart => exact ⟨0, Nat.zero_le _, rfl, rfl, Le.refl _⟩
  case round =>
    obtain ⟨j, hj, rfl, rfl, LW⟩ := hrel
    replace ct := (LW.cell zt).trans ct
    replace zt := Nat.lt_of_lt_of_le zt LW.size
    replace S := S.le LW
    replace L0 := L0.trans LW
    replace S2 := S2.le LW
    replace S3 := S3.le LW
    by_cases hlt : j < V.length
    · have hai : (j : Int) < V.length := by omega
      have hsn : (V.take (j + 1)).any (fun x => isAx xs x.cls a) = ((V.take j).any (fun x => isAx xs x.cls a) || isAx xs V[j].cls a) := by
        rw [List.take_succ_eq_append_getElem hlt, List.any_append]; simp
      obtain ⟨b, off, rfl, hb, hcell, -, -⟩ := S3.lef_at hlt
      have F1 := cell_ext hb hcell
      have F2 := cell_ext zt ct
      cases hq : (V.take j).any (fun x => isAx xs x.cls a)
      all_goals
        rw [hq] at hsn
        go_wp2_with fail
        refine wp_region_ext (by kernel_rfl) (by kernel_rfl) ?_
        repeat (go_big_quiet_step (first | (go_at_call 23; exact Calls.ext_of (iIsA_any _ m c xs V[j].cls a _ (S.le (Le.ext _ _))))))
        refine wpQuiet_nil ?_
        intro _ hw'
        obtain ⟨gg, rfl⟩ := hw'
        have hw2 := Le.ext wr gg
        generalize wr.ext gg = W2 at *
        go_wp2
        go_roundw
        case rel => exact ⟨j + 1, by omega, by go_num, by rw [hsn]; rfl, LW.trans hw2⟩
        case measure => simp [intOf]; omega
    · have hai : ¬ (j : Int) < V.length := by omega
      obtain rfl : j = V.length := by omega
      rw [List.take_length]
      have hf := HF.out
      generalize V.any (fun x => isAx xs x.cls a) = vb at *
      have hee : (hcX xs L a == vb) = true := by rw [hf]; simp
      go_wp2_with fail
      refine (iHasClass_any B D m c k d xs L 0 wr S S2).mono ?_
      rintro e w7 ⟨rfl, hle⟩
      replace L0 := L0.trans hle
      clear hle
      go_wp2
      go_ret
      exact ⟨by first | rfl | exact ret_bool hf0, L0⟩
end Go.Proofs.Ythmdlligfhfleaa
