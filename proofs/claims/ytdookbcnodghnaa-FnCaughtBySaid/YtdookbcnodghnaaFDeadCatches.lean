/- the law FnDeadCatches -/
import Derived.Test.YtdookbcnodghnaaDF
import Derived.Test.YtdookbcnodghnaaFAboveOf
import Derived.Test.YtdookbcnodghnaaPB
import Derived.Test.YtdookbcnodghnaaHF
import Derived.Test.YtdookbcnodghnaaHI
namespace Go.Proofs.Ytdookbcnodghnaa
open Go.RowKit

/-- valid lists of catches: what FirstCatch tells of the root and of the others -/
theorem firstX_good {xs : List Cls} {L : List Int} (h : goodC xs L = true) : (∀ a : Int, 0 ≤ a ∧ a < xs.length → firstX xs L a = firstC xs L a 0) ∧ (firstX xs L 0 == -2) = false := by
  have gc := goodC_of h
  have h1 : ∀ a : Int, 0 ≤ a ∧ a < xs.length → firstX xs L a = firstC xs L a 0 := fun a ha => firstX_of (t := true) (by rw [h, hasK_iff.2 ha]; rfl)
  refine ⟨h1, ?_⟩
  rw [h1 0 ⟨Int.le_refl 0, by have := gc.tree.lo; omega⟩, beq_eq_false_iff_ne]
  rcases firstC_range xs 0 L 0 (by omega) with e | e <;> omega
theorem firstX_bad {xs : List Cls} {L : List Int} (h : goodC xs L = false) : (firstX xs L 0 == -2) = true := by
  rw [firstX_of (t := false) (by rw [h]; rfl)]; rfl

set_option maxHeartbeats 4000000 in
set_option maxRecDepth 100000 in
theorem fnDeadCatches_walk (A : Option Addr) (n cap : Nat) (bs : List By) (w : World) (hR : Sl w A n cap bs) :
    Calls Try.prog 10 #[.slice A n cap] w fun e w' => e = .returned (.bool true) ∧ Le w w' := by
  have hm := hR.n_le
  by_cases hbig : 1048576 < n
  · go_enter Try.func10, Try.ntmps10
    go_wp2
    go_ret
    exact ⟨rfl, Le.refl w⟩
  go_enter Try.func10, Try.ntmps10
  go_wp2_with fail
  refine (drawDeadCatches_any A n cap bs w hR).mono ?_
  rintro e w1 ⟨B, D, m, c, k, d, xs, L, rfl, S, hm8, S2, _, _, hk8, L0⟩
  go_wp2_with fail
  obtain ⟨ct, zt, hleB⟩ := box1 w1 (.slice B m c) 25
  replace S := S.le hleB
  replace L0 := L0.trans hleB
  replace S2 := S2.le hleB
  clear hleB
  generalize w1.alloc (.cells #[.slice B m c] 25) = W1 at *
  have hdl := deadX_len xs L
  go_wp2_with fail
  refine (Calls.intsO (iDeadCatches_any B D m c k d xs L W1 S S2)).mono ?_
  rintro e w2 ⟨A2, c2, rfl, S3, hle⟩
  replace ct := (hle.cell zt).trans ct
  replace zt := Nat.lt_of_lt_of_le zt hle.size
  replace S := S.le hle
  replace L0 := L0.trans hle
  replace S2 := S2.le hle
  clear hle
  go_wp2_with fail
  refine (Calls.intsO (sDeadCatches_any B D m c k d xs L w2 S S2)).mono ?_
  rintro e w3 ⟨A3, c3, rfl, S4, hle⟩
  replace ct := (hle.cell zt).trans ct
  replace zt := Nat.lt_of_lt_of_le zt hle.size
  replace S := S.le hle
  replace L0 := L0.trans hle
  replace S2 := S2.le hle
  replace S3 := S3.le hle
  clear hle
  go_wp2_with fail
  refine (equalInts_self A2 A3 _ c2 c3 (deadX xs L) w3 S3 S4).mono ?_
  rintro e w4 ⟨rfl, hle⟩
  replace ct := (hle.cell zt).trans ct
  replace zt := Nat.lt_of_lt_of_le zt hle.size
  replace S := S.le hle
  replace L0 := L0.trans hle
  replace S2 := S2.le hle
  replace S3 := S3.le hle
  clear hle
  clear S4
  go_wp2_with fail
  refine (iFirstCatch_any B D m c k d xs L 0 w4 S S2).mono ?_
  rintro e w5 ⟨rfl, hle⟩
  replace ct := (hle.cell zt).trans ct
  replace zt := Nat.lt_of_lt_of_le zt hle.size
  replace S := S.le hle
  replace L0 := L0.trans hle
  replace S2 := S2.le hle
  replace S3 := S3.le hle
  clear hle
  rcases Bool.eq_false_or_eq_true (goodC xs L) with ho | ho
  rotate_left
  · have hb := firstX_bad ho
    clear ho
    go_wp2_with fail
    refine (Calls.intsO (sDeadCatches_any B D m c k d xs L w5 S S2)).mono ?_
    rintro e w6 ⟨A6, c6, rfl, S6, hle⟩
    replace L0 := L0.trans hle
    replace S3 := S3.le hle
    clear hle
    go_wp2_with fail
    refine (equalInts_self A2 A6 _ c2 c6 (deadX xs L) w6 S3 S6).mono ?_
    rintro e w7 ⟨rfl, hle⟩
    replace L0 := L0.trans hle
    clear hle
    go_wp2
    go_ret
    exact ⟨rfl, L0⟩
  have gc := goodC_of ho
  obtain ⟨hfx, hf0⟩ := firstX_good ho
  have hX : deadX xs L = deadK xs L L.length := deadX_of ho
  have hlen := S.len
  have hlen2 := S2.len
  have E1 : Hid (∀ a : Nat, a < xs.length → hasI (deadX xs L) (firstX xs L a) = false) := fun a ha => by
    rw [hfx a (by omega), hX]; exact dead_first gc (by omega)
  have E2 : Hid (∀ j (h : j < L.length), hasI (deadX xs L) (j : Int) = true ∨ (hasI (deadX xs L) (j : Int) = false ∧ firstX xs L L[j] = j)) := fun j hj => by
    cases h : hasI (deadX xs L) (j : Int)
    · right
      refine ⟨rfl, ?_⟩
      rw [hX] at h
      rw [hfx _ (gc.mem _ (List.getElem_mem hj))]; exact live_first gc hj h
    · left; rfl
  have E3 : Hid ((deadX xs L).Pairwise (· < ·)) := by
    show List.Pairwise _ _
    rw [hX]; exact deadK_asc _ _ _
  clear hX hfx gc ho
  generalize deadX xs L = M at *
  go_wp2
  go_loopw [6] (fun i wr => ∃ a : Nat, i = .int .i64 a ∧ Le w5 wr) (fun i _ => m - (intOf i).toNat)
  case atStart => exact ⟨0, rfl, Le.refl _⟩
  case round =>
    obtain ⟨a, rfl, LW⟩ := hrel
    replace ct := (LW.cell zt).trans ct
    replace zt := Nat.lt_of_lt_of_le zt LW.size
    replace S := S.le LW
    replace L0 := L0.trans LW
    replace S2 := S2.le LW
    replace S3 := S3.le LW
    by_cases hlt : a < m
    · have he := E1.out a (by omega)
      have hai : (a : Int) < m := by omega
      go_wp2_with fail
      refine (iFirstCatch_any B D m c k d xs L a wr S S2).mono ?_
      rintro e w6 ⟨rfl, hle⟩
      replace ct := (hle.cell zt).trans ct
      replace zt := Nat.lt_of_lt_of_le zt hle.size
      replace S := S.le hle
      replace L0 := L0.trans hle
      replace S2 := S2.le hle
      replace S3 := S3.le hle
      replace LW := LW.trans hle
      clear hle
      go_wp2_with fail
      refine (isIn_any A2 _ c2 M (firstX xs L a) w6 S3).mono ?_
      rintro e w7 ⟨rfl, rfl⟩
      rw [he]
      go_wp2
      go_roundw
      case rel => exact ⟨a + 1, by go_num, LW⟩
      case measure => simp [intOf]; omega
    · have hai : ¬ (a : Int) < m := by omega
      go_wp2
      go_loopw [7] (fun i wq => ∃ j : Nat, i = .int .i64 j ∧ Le wr wq) (fun i _ => k - (intOf i).toNat)
      case atStart => exact ⟨0, rfl, Le.refl _⟩
      case round =>
        obtain ⟨j, rfl, LQ⟩ := hrel
        clear LW
        replace ct := (LQ.cell zt).trans ct
        replace zt := Nat.lt_of_lt_of_le zt LQ.size
        replace S := S.le LQ
        replace L0 := L0.trans LQ
        replace S2 := S2.le LQ
        replace S3 := S3.le LQ
        by_cases hlj : j < k
        · have hjx : j < L.length := by omega
          have he := E2.out j hjx
          obtain ⟨b, off, rfl, hb, hcell, _, _⟩ := S2.int_at hjx
          generalize L[j] = x at he hcell
          have hji : (j : Int) < k := by omega
          have F1 := cell_ext hb hcell
          have F2 := cell_ext zt ct
          rcases he with he | ⟨he, hfe⟩
          all_goals
            have hjj : ((j : Int) != (j : Int)) = false := by simp
            go_wp2_with fail
            refine wp_region_ext (by kernel_rfl) (by kernel_rfl) ?_
            repeat (go_big_quiet_step (first | (go_at_call 22; exact Calls.ext_same (Calls.val (isIn_any A2 _ c2 M j _ (S3.ext _)) (vb he))) | (go_at_call 39; exact Calls.ext_of (Calls.val (iFirstCatch_any B _ m c k d xs L x _ (S.ext _) (S2.ext _)) (vi hfe)))))
            refine wpQuiet_nil ?_
            intro _ hw'
            obtain ⟨gg, rfl⟩ := hw'
            have hw2 := Le.ext wr gg
            generalize wr.ext gg = W2 at *
            go_wp2
            go_roundw
            case rel => exact ⟨j + 1, by go_num, LQ.trans hw2⟩
            case measure => simp [intOf]; omega
        · have hji : ¬ (j : Int) < k := by omega
          go_wp2_with fail
          refine (ascends_any A2 _ c2 M _ S3 E3.out).mono ?_
          rintro e w8 ⟨rfl, hle⟩
          replace L0 := L0.trans hle
          clear hle
          go_wp2
          go_ret
          exact ⟨rfl, L0⟩
end Go.Proofs.Ytdookbcnodghnaa
