/- the law FnClassNamed -/
import Derived.Test.YtdookbcnodghnaaDC
import Derived.Test.YtdookbcnodghnaaPA
import Derived.Test.YtdookbcnodghnaaJ
import Derived.Test.YtdookbcnodghnaaD
namespace Go.Proofs.Ytdookbcnodghnaa
open Go.RowKit

set_option maxHeartbeats 4000000 in
set_option maxRecDepth 100000 in
theorem fnClassNamed_walk (A : Option Addr) (n cap : Nat) (bs : List By) (w : World) (hR : Sl w A n cap bs) :
    Calls Try.prog 3 #[.slice A n cap] w fun e w' => e = .returned (.bool true) ∧ Le w w' := by
  have hm := hR.n_le
  by_cases hbig : 1048576 < n
  · go_enter Try.func3, Try.ntmps3
    go_wp2
    go_ret
    exact ⟨rfl, Le.refl w⟩
  go_enter Try.func3, Try.ntmps3
  go_wp2_with fail
  refine (drawClassNamed_any A n cap bs w hR).mono ?_
  rintro e w1 ⟨B, m, c, xs, s, rfl, S, hm8, hs, L0⟩
  go_wp2_with fail
  obtain ⟨ct, zt, hleB⟩ := box1 w1 (.slice B m c) 25
  replace S := S.le hleB
  replace L0 := L0.trans hleB
  clear hleB
  generalize w1.alloc (.cells #[.slice B m c] 25) = W1 at *
  go_wp2_with fail
  refine (iClassNamed_any B m c xs s W1 S).mono ?_
  rintro e w2 ⟨rfl, hle⟩
  replace ct := (hle.cell zt).trans ct
  replace zt := Nat.lt_of_lt_of_le zt hle.size
  replace S := S.le hle
  replace L0 := L0.trans hle
  clear hle
  go_wp2_with fail
  refine (sClassNamed_any B m c xs s w2 S).mono ?_
  rintro e w3 ⟨rfl, hle⟩
  replace ct := (hle.cell zt).trans ct
  replace zt := Nat.lt_of_lt_of_le zt hle.size
  replace S := S.le hle
  replace L0 := L0.trans hle
  clear hle
  have hbb : (cNamed xs s != cNamed xs s) = false := by simp
  have hbb2 : (cNamed xs s == cNamed xs s) = true := by simp
  go_wp2_with fail
  refine (iValidTree_any B m c xs w3 S).mono ?_
  rintro e w4 ⟨rfl, hle⟩
  replace ct := (hle.cell zt).trans ct
  replace zt := Nat.lt_of_lt_of_le zt hle.size
  replace S := S.le hle
  replace L0 := L0.trans hle
  clear hle
  rcases Bool.eq_false_or_eq_true (okTree xs) with ho | ho
  rotate_left
  · rw [ho]
    go_wp2_with fail
    refine (sClassNamed_any B m c xs s _ S).mono ?_
    rintro e w9 ⟨rfl, hle⟩
    replace L0 := L0.trans hle
    clear hle
    go_wp2
    go_ret
    exact ⟨rfl, L0⟩
  have g := good_of ho
  have hX : ∀ s, cNamed xs s = findN xs s 0 := fun s => by unfold cNamed; rw [if_pos ho]
  have hsl := S.len
  have E1 : Hid (∀ k (h : k < xs.length), cNamed xs xs[k].name = k) := fun k h => by rw [hX]; exact findN_here g h
  have E2 : cNamed xs s < 0 ∨ ∃ i, ∃ h : i < xs.length, cNamed xs s = i ∧ xs[i].name = s := by
    rw [hX]
    by_cases h : findN xs s 0 < 0
    · exact .inl h
    · exact .inr (findN_hit (by omega))
  have E3 := Lib.hid E2
  rw [ho]
  clear ho hX g E2
  generalize cNamed xs s = q at *
  go_wp2
  go_loopw [6] (fun i wr => ∃ k : Nat, i = .int .i64 k ∧ Le w4 wr) (fun i _ => m - (intOf i).toNat)
  case atStart => exact ⟨0, rfl, Le.refl _⟩
  case round =>
    obtain ⟨k, rfl, LW⟩ := hrel
    replace ct := (LW.cell zt).trans ct
    replace zt := Nat.lt_of_lt_of_le zt LW.size
    replace S := S.le LW
    replace L0 := L0.trans LW
    by_cases hlt : k < m
    · have hkx : k < xs.length := by omega
      have he := E1.out k hkx
      obtain ⟨b, off, rfl, hb, hn, _, hnz, _, _⟩ := S.cls_at hkx
      generalize xs[k].name = nm at he hn hnz
      have hkk : (cNamed xs nm != (k : Int)) = false := by rw [he]; simp
      have hkk2 : ((k : Int) != (k : Int)) = false := by simp
      have hki : (k : Int) < m := by omega
      have E2 := cell_ext hb hn
      have E4 := cell_ext zt ct
      go_wp2_with fail
      refine wp_region_ext (by kernel_rfl) (by kernel_rfl) ?_
      repeat (go_big_quiet_step (first | (go_at_call 15; exact Calls.ext_of (Calls.val (iClassNamed_any _ m c xs nm _ (S.ext _)) (vi he)))))
      refine wpQuiet_nil ?_
      intro _ hw'
      obtain ⟨gg, rfl⟩ := hw'
      have hw2 := Le.ext wr gg
      generalize wr.ext gg = W2 at *
      go_wp2
      go_roundw
      case rel => exact ⟨k + 1, by go_num, LW.trans hw2⟩
      case measure => simp [intOf]; omega
    · rcases E3.out with h | ⟨i, hi, he, hn⟩
      · go_wp2
        go_ret
        exact ⟨rfl, L0⟩
      · obtain ⟨b, off, rfl, hb, hc, _, hnz, _, _⟩ := S.cls_at (k := i) hi
        rw [hn] at hc
        have hii : (i : Int) < m := by omega
        have hss : (s.toList == s.toList) = true := str_eq rfl
        have hq0 : ¬ (i : Int) < 0 := by omega
        subst he
        go_wp2
        go_ret
        exact ⟨rfl, L0⟩
end Go.Proofs.Ytdookbcnodghnaa
