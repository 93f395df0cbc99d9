/- the law FnCaughtBy -/
import Derived.Test.YtdookbcnodghnaaFDeadCatches
import Derived.Test.YtdookbcnodghnaaHK
import Derived.Test.YtdookbcnodghnaaZ
namespace Go.Proofs.Ytdookbcnodghnaa
open Go.RowKit

theorem liveK_ok {xs : List Cls} {L : List Int} (h : ∀ x ∈ L, Enc.ok x) {k : Nat} (hk : k ≤ L.length) : ∀ x ∈ liveK xs L k, Enc.ok x := by
  intro x hx
  obtain ⟨i, _, h2, _, rfl⟩ := (liveK_mem hk).1 hx
  exact h _ (List.getElem_mem h2)

set_option maxHeartbeats 4000000 in
set_option maxRecDepth 100000 in
theorem fnCaughtBy_walk (A : Option Addr) (n cap : Nat) (bs : List By) (w : World) (hR : Sl w A n cap bs) :
    Calls Try.prog 11 #[.slice A n cap] w fun e w' => e = .returned (.bool true) ∧ Le w w' := by
  have hm := hR.n_le
  by_cases hbig : 1048576 < n
  · go_enter Try.func11, Try.ntmps11
    go_wp2
    go_ret
    exact ⟨rfl, Le.refl w⟩
  go_enter Try.func11, Try.ntmps11
  go_wp2_with fail
  refine (drawCaughtBy_any A n cap bs w hR).mono ?_
  rintro e w1 ⟨B, D, m, c, k, d, xs, L, rfl, S, hm8, S2, _, _, hk8, L0⟩
  go_wp2_with fail
  obtain ⟨ct, zt, hleB⟩ := box1 w1 (.slice B m c) 25
  replace S := S.le hleB
  replace L0 := L0.trans hleB
  replace S2 := S2.le hleB
  clear hleB
  generalize w1.alloc (.cells #[.slice B m c] 25) = W1 at *
  have hcl := caughtX_len xs L
  go_wp2_with fail
  refine (Calls.intsO (iCaughtBy_any B D m c k d xs L W1 S S2)).mono ?_
  rintro e w2 ⟨A2, c2, rfl, S3, hle⟩
  replace ct := (hle.cell zt).trans ct
  replace zt := Nat.lt_of_lt_of_le zt hle.size
  replace S := S.le hle
  replace L0 := L0.trans hle
  replace S2 := S2.le hle
  clear hle
  go_wp2_with fail
  refine (Calls.intsO (sCaughtBy_any B D m c k d xs L w2 S S2)).mono ?_
  rintro e w3 ⟨A3, c3, rfl, S4, hle⟩
  replace ct := (hle.cell zt).trans ct
  replace zt := Nat.lt_of_lt_of_le zt hle.size
  replace S := S.le hle
  replace L0 := L0.trans hle
  replace S2 := S2.le hle
  replace S3 := S3.le hle
  clear hle
  go_wp2_with fail
  refine (equalInts_self A2 A3 _ c2 c3 (caughtX xs L) w3 S3 S4).mono ?_
  rintro e w4 ⟨rfl, hle⟩
  replace ct := (hle.cell zt).trans ct
  replace zt := Nat.lt_of_lt_of_le zt hle.size
  replace S := S.le hle
  replace L0 := L0.trans hle
  replace S2 := S2.le hle
  replace S3 := S3.le hle
  clear hle
  clear S4
  go_wp2_with fail
  refine (iFirstCatch_any B D m c k d xs L 0 w4 S S2).mono ?_
  rintro e w5 ⟨rfl, hle⟩
  replace ct := (hle.cell zt).trans ct
  replace zt := Nat.lt_of_lt_of_le zt hle.size
  replace S := S.le hle
  replace L0 := L0.trans hle
  replace S2 := S2.le hle
  replace S3 := S3.le hle
  clear hle
  rcases Bool.eq_false_or_eq_true (goodC xs L) with ho | ho
  rotate_left
  · have hb := firstX_bad ho
    clear ho
    go_wp2_with fail
    refine (Calls.intsO (sCaughtBy_any B D m c k d xs L w5 S S2)).mono ?_
    rintro e w6 ⟨A6, c6, rfl, S6, hle⟩
    replace L0 := L0.trans hle
    replace S3 := S3.le hle
    clear hle
    go_wp2_with fail
    refine (equalInts_self A2 A6 _ c2 c6 (caughtX xs L) w6 S3 S6).mono ?_
    rintro e w7 ⟨rfl, hle⟩
    replace L0 := L0.trans hle
    clear hle
    go_wp2
    go_ret
    exact ⟨rfl, L0⟩
  have gc := goodC_of ho
  have hf0 := (firstX_good ho).2
  have hX : deadX xs L = deadK xs L L.length := deadX_of ho
  have hC : caughtX xs L = caughtK xs L xs.length := caughtX_of ho
  have hlen := S.len
  have hlen2 := S2.len
  have hdl := deadX_len xs L
  have HX := Lib.hid hX
  have E1 : Hid (caughtX xs (liveK xs L L.length) = caughtX xs L) := caught_live ho
  have E2 : Hid (∀ x ∈ caughtX xs L, ∀ y ∈ belowX xs x, hasI (caughtX xs L) y = true) := by
    show ∀ x ∈ caughtX xs L, _
    rw [hC]
    intro x hx y hy
    have hx2 := caughtK_mem.1 hx
    rw [belowX_of (b := true) (by rw [goodC_ok ho, hasK_iff.2 ⟨hx2.1, hx2.2.1⟩]; rfl)] at hy
    exact hasI_iff.2 (caught_below gc.tree hx hy)
  have E3 : Hid ((caughtX xs L).Pairwise (· < ·)) := by
    show List.Pairwise _ _
    rw [hC]; exact caughtK_asc _ _ _
  have hk6 := gc.few
  have HOK := Lib.hid (S2.ok)
  clear hX hC gc ho
  generalize caughtX xs L = M at *
  go_wp2_with fail
  refine (Calls.intsO (iDeadCatches_any B D m c k d xs L w5 S S2)).mono ?_
  rintro e w6 ⟨A6, c6, rfl, S6, hle⟩
  replace ct := (hle.cell zt).trans ct
  replace zt := Nat.lt_of_lt_of_le zt hle.size
  replace S := S.le hle
  replace L0 := L0.trans hle
  replace S2 := S2.le hle
  replace S3 := S3.le hle
  clear hle
  have O0 := own_empty (w := w6) (base := w6.heap.size) (g := w6.heap.size) (e := 3) (size := 1) (Nat.le_refl _) rfl
  have L6 := Le.new w6 (.cells #[] 3)
  obtain ⟨i0, hi0, hz0, hz1, hz2⟩ := info_parts intInfo
  go_wp2
  go_loopw [7, 8] (fun v i wr => ∃ j : Nat, i = .int .i64 j ∧ j ≤ L.length ∧ wr.ownsRow w6.heap.size 3 1 v (liveK xs L j).length ((liveK xs L j).flatMap Enc.cells) ∧ Le w6 wr) (fun _ i _ => k - (intOf i).toNat)
  case atStart => exact ⟨0, rfl, Nat.zero_le _, O0, L6⟩
  case round =>
    clear O0 L6
    obtain ⟨j, rfl, hjL, O, LW⟩ := hrel
    replace ct := (LW.cell zt).trans ct
    replace zt := Nat.lt_of_lt_of_le zt LW.size
    replace S := S.le LW
    replace L0 := L0.trans LW
    replace S2 := S2.le LW
    replace S3 := S3.le LW
    replace S6 := S6.le LW
    by_cases hlt : j < k
    · have hjx : j < L.length := by omega
      obtain ⟨b, off, rfl, hb, hcell, _, _⟩ := S2.int_at hjx
      have hji : (j : Int) < k := by omega
      have hll := liveK_len xs L j
      go_wp2_with fail
      refine (isIn_any A6 _ c6 (deadX xs L) j wr S6).mono ?_
      rintro e w7 ⟨rfl, rfl⟩
      cases he : hasI (deadX xs L) (j : Int)
      · have he2 : hasI (deadK xs L L.length) (j : Int) = false := by rw [← HX.out]; exact he
        have hl := liveK_no hjx he2
        have HL := Lib.hid hl
        clear hl he2
        generalize L[j] = x at *
        have hc3 : (liveK xs L j).length + 1 ≤ maxLen := by unfold maxLen; omega
        have hc4 : ((liveK xs L j).length + 1) * 8 ≤ 140737488355328 := by omega
        go_wp2_with (at_builtin; refine wpList_append_own _ rfl _ _ 38 rfl w6.heap.size 3 i0 (.int .i64 0) 1 8 Try.underlying38 hi0 hz0 hz1 hz2 rfl (by decide) _ _ _ rfl (O.alloc _) ⟨wr.heap.size, 0, none⟩ 1 1 [.int .i64 x] rfl rfl ?c1 ?c2 hc3 hc4 ?c5 ?_)
        case c1 => exact one_new _ _ _
        case c2 => intro u hu; simp at hu; subst hu; rfl
        case c5 => have := LW.size; simp; omega
        intro v1 w8 O1 hg1 _
        have LW2 := (LW.alloc (.cells #[.int .i64 x] 3)).grown hg1 (fun k hk => (O.lt k hk).1)
        go_wp2
        go_roundw
        case rel => exact ⟨j + 1, by go_num, hjx, by rw [HL.out]; simpa [Enc.cells] using O1, LW2⟩
        case measure => simp [intOf]; omega
      · have he2 : hasI (deadK xs L L.length) (j : Int) = true := by rw [← HX.out]; exact he
        have hl := liveK_yes he2
        have HL := Lib.hid hl
        clear hl he2
        go_wp2
        go_roundw
        case rel => exact ⟨j + 1, by go_num, hjx, by rw [HL.out]; exact O, LW⟩
        case measure => simp [intOf]; omega
    · have hji : ¬ (j : Int) < k := by omega
      obtain rfl : j = L.length := by omega
      clear S6
      obtain ⟨A9, c9, rfl⟩ := own_form O
      have S9 := Sl.of_own O rfl (by decide) (liveK_ok HOK.out (Nat.le_refl _))
      clear O
      have E4 := Lib.hid (iCaughtBy_any B A9 m c (liveK xs L L.length).length c9 xs (liveK xs L L.length))
      rw [E1.out] at E4
      generalize liveK xs L L.length = V at *
      clear E1
      go_wp2
      go_loopw [9] (fun i wq => ∃ j : Nat, i = .int .i64 j ∧ Le wr wq) (fun i _ => M.length - (intOf i).toNat)
      case atStart => exact ⟨0, rfl, Le.refl _⟩
      case round =>
        obtain ⟨j, rfl, LQ⟩ := hrel
        clear LW
        replace ct := (LQ.cell zt).trans ct
        replace zt := Nat.lt_of_lt_of_le zt LQ.size
        replace S := S.le LQ
        replace L0 := L0.trans LQ
        replace S2 := S2.le LQ
        replace S3 := S3.le LQ
        replace S9 := S9.le LQ
        by_cases hlj : j < M.length
        · obtain ⟨b, off, rfl, hb, hcell, _, _⟩ := S3.int_at hlj
          have hbe := E2.out _ (List.getElem_mem hlj)
          generalize M[j] = x at *
          have HBE := Lib.hid hbe
          have hlx := belowX_len xs x
          clear hbe
          have hkl : (j : Int) < M.length := by omega
          have cl := hcell
          have zl := hb
          go_wp2_with fail
          replace ct := (show wr.drew.cell? _ = _ from ct)
          replace zt := (show _ < wr.drew.heap.size from zt)
          replace cl := (show wr.drew.cell? _ = _ from cl)
          replace zl := (show _ < wr.drew.heap.size from zl)
          replace S := S.le (Le.refl _).drew
          replace L0 := L0.drew
          replace S2 := S2.le (Le.refl _).drew
          replace S3 := S3.le (Le.refl _).drew
          replace S9 := S9.le (Le.refl _).drew
          replace LQ := LQ.drew
          go_region_held3 (fun w' => w'.cell? ⟨w1.heap.size, 0, none⟩ = some (.slice B m c) ∧ w'.cell? ⟨b, off + j, none⟩ = some (.int .i64 x))
            (first | exact ⟨ct, cl⟩)
            (first
            | (go_at_call 23; refine (Calls.ints (iBelowOf_any B m c xs x _ S)).mono ?_; rintro e w10 ⟨A10, c10, rfl, S10, hle⟩; replace ct := (hle.cell zt).trans ct; replace cl := (hle.cell zl).trans cl; replace zt := Nat.lt_of_lt_of_le zt hle.size; replace zl := Nat.lt_of_lt_of_le zl hle.size; replace S := S.le hle; replace L0 := L0.trans hle; replace S2 := S2.le hle; replace S3 := S3.le hle; replace S9 := S9.le hle; replace LQ := LQ.trans hle; clear hle)
            )
          clear cl zl hcell hb
          go_wp2
          go_loopw [11] (fun i wq => ∃ p : Nat, i = .int .i64 p ∧ Le w10 wq) (fun i _ => (belowX xs x).length - (intOf i).toNat)
          case atStart => exact ⟨0, rfl, Le.refl _⟩
          case round =>
            obtain ⟨p, rfl, LP⟩ := hrel
            replace ct := (LP.cell zt).trans ct
            replace zt := Nat.lt_of_lt_of_le zt LP.size
            replace S := S.le LP
            replace L0 := L0.trans LP
            replace S2 := S2.le LP
            replace S3 := S3.le LP
            replace S9 := S9.le LP
            replace S10 := S10.le LP
            replace LQ := LQ.trans LP
            by_cases hlp : p < (belowX xs x).length
            · obtain ⟨bj, oj, rfl, hbj, hcj, _, _⟩ := S10.int_at hlp
              have hq := HBE.out _ (List.getElem_mem hlp)
              generalize (belowX xs x)[p] = y at *
              have hjl : (p : Int) < (belowX xs x).length := by omega
              go_wp2_with fail
              refine (isIn_any _ _ c2 M y _ S3).mono ?_
              rintro e w11 ⟨rfl, rfl⟩
              rw [hq]
              go_wp2
              go_roundw
              case rel => exact ⟨p + 1, by go_num, LP⟩
              case measure => simp [intOf]; omega
            · have hjl : ¬ (p : Int) < (belowX xs x).length := by omega
              go_wp2
              go_roundw
              case rel => exact ⟨j + 1, by go_num, LQ⟩
              case measure => simp [intOf]; omega
        · have hkl : ¬ (j : Int) < M.length := by omega
          go_wp2_with fail
          refine (ascends_any A2 _ c2 M _ S3 E3.out).mono ?_
          rintro e w10 ⟨rfl, hle⟩
          replace ct := (hle.cell zt).trans ct
          replace zt := Nat.lt_of_lt_of_le zt hle.size
          replace S := S.le hle
          replace L0 := L0.trans hle
          replace S3 := S3.le hle
          replace S9 := S9.le hle
          clear hle
          go_wp2_with fail
          refine (Calls.intsO (E4.out _ S S9)).mono ?_
          rintro e w11 ⟨A11, c11, rfl, S11, hle⟩
          replace L0 := L0.trans hle
          replace S3 := S3.le hle
          clear hle
          go_wp2_with fail
          refine (equalInts_self A11 A2 _ c11 c2 M _ S11 S3).mono ?_
          rintro e w12 ⟨rfl, hle⟩
          replace L0 := L0.trans hle
          clear hle
          go_wp2
          go_ret
          exact ⟨rfl, L0⟩
end Go.Proofs.Ytdookbcnodghnaa
