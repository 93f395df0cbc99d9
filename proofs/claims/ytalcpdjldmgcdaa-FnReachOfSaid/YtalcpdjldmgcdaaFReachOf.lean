/- the law FnReachOf -/
import Derived.Test.YtalcpdjldmgcdaaFH0
import Derived.Test.YtalcpdjldmgcdaaHpJ
import Derived.Test.YtalcpdjldmgcdaaLD
import Derived.Test.YtalcpdjldmgcdaaRC
namespace Go.Proofs.Ytalcpdjldmgcdaa
open Go.RowKit
set_option maxHeartbeats 4000000 in
set_option maxRecDepth 100000 in
theorem fnReachOf_walk (A : Option Addr) (n cap : Nat) (bs : List By) (w : World) (hR : Sl w A n cap bs) :
    Calls Try.prog 5 #[.slice A n cap] w fun e w' => e = .returned (.bool true) ∧ Le w w' := by
  have hm := hR.n_le
  by_cases hbig : 1048576 < n
  · go_enter Try.func5, Try.ntmps5
    go_wp2
    go_ret
    exact ⟨rfl, Le.refl w⟩
  go_enter Try.func5, Try.ntmps5
  go_wp2_with fail
  refine (drawReachOf_any A n cap bs w hR).mono ?_
  rintro e w1 ⟨B, m, c, xs, A1, q1, hs, _, rfl, ⟨f, rfl, hf0, hf1⟩, S, hm8, S2, hl6, L0⟩
  go_wp2_with fail
  obtain ⟨ct, zt, ch, zh, hleB⟩ := box2 w1 (.slice B m c) (.slice A1 hs.length q1) 25 28
  replace S := S.le hleB
  replace S2 := S2.le hleB
  replace L0 := L0.trans hleB
  clear hleB
  generalize (w1.alloc (.cells #[.slice B m c] 25)).alloc (.cells #[.slice A1 hs.length q1] 28) = W1 at *
  have hlen : (reachX xs hs f).length ≤ 1048576 := reachX_len xs hs f
  go_wp2_with fail
  refine (Calls.intsH (iReachOf_any B A1 m c hs.length q1 xs hs f W1 S S2 (by omega))).mono ?_
  rintro e w2 ⟨A2, c2, rfl, S3, hle⟩
  replace ct := (hle.cell zt).trans ct
  replace ch := (hle.cell zh).trans ch
  replace zt := Nat.lt_of_lt_of_le zt hle.size
  replace zh := Nat.lt_of_lt_of_le zh hle.size
  replace S := S.le hle
  replace S2 := S2.le hle
  replace L0 := L0.trans hle
  clear hle
  go_wp2_with fail
  refine (Calls.intsH (sReachOf_any B A1 m c hs.length q1 xs hs f w2 S S2 (by omega))).mono ?_
  rintro e w3 ⟨A3, c3, rfl, S4, hle⟩
  replace ct := (hle.cell zt).trans ct
  replace ch := (hle.cell zh).trans ch
  replace zt := Nat.lt_of_lt_of_le zt hle.size
  replace zh := Nat.lt_of_lt_of_le zh hle.size
  replace S := S.le hle
  replace S2 := S2.le hle
  replace S3 := S3.le hle
  replace L0 := L0.trans hle
  clear hle
  go_wp2_with fail
  refine (equalInts_self A2 A3 _ c2 c3 (reachX xs hs f) w3 S3 S4).mono ?_
  rintro e w4 ⟨rfl, hle⟩
  replace ct := (hle.cell zt).trans ct
  replace ch := (hle.cell zh).trans ch
  replace zt := Nat.lt_of_lt_of_le zt hle.size
  replace zh := Nat.lt_of_lt_of_le zh hle.size
  replace S := S.le hle
  replace S2 := S2.le hle
  replace S3 := S3.le hle
  replace L0 := L0.trans hle
  clear hle
  clear S4
  rcases Bool.eq_false_or_eq_true (goodF xs hs f) with ho | ho
  rotate_left
  · have hX : reachX xs hs f = [] := by unfold reachX; rw [ho]; rfl
    have hl0 : (reachX xs hs f).length = 0 := by rw [hX]; rfl
    have hb0 : (((reachX xs hs f).length : Int) == 0) = true := by rw [hl0]; rfl
    clear hX hl0 ho
    go_wp2_with fail
    refine (Calls.intsH (sReachOf_any B A1 m c hs.length q1 xs hs f w4 S S2 (by omega))).mono ?_
    rintro e w5 ⟨A5, c5, rfl, S5, hle⟩
    replace L0 := L0.trans hle
    replace S3 := S3.le hle
    clear hle
    go_wp2_with fail
    refine (equalInts_self A2 A5 _ c2 c5 (reachX xs hs f) w5 S3 S5).mono ?_
    rintro e w6 ⟨rfl, hle⟩
    replace L0 := L0.trans hle
    clear hle
    go_wp2
    go_ret
    exact ⟨rfl, L0⟩
  have hok : okHeap xs hs = true := by have h := ho; unfold goodF at h; rw [Bool.and_eq_true] at h; exact h.1
  have hin := goodF_in ho
  have hY : reachX xs hs f = reachL hs f := by unfold reachX; rw [ho]; rfl
  have hrng : ∀ x ∈ reachX xs hs f, 0 ≤ x ∧ x < hs.length := fun x hx => by rw [hY] at hx; exact reach_rng hx
  have hcau : ∀ i (hi : i < hs.length), (i : Int) ∈ reachX xs hs f → 0 ≤ hs[i].cause → hasI (reachX xs hs f) hs[i].cause = true := fun i hi hm hc => by
    rw [hY] at hm ⊢; exact hasI_iff'.2 (reach_cause hin.1 hin.2.1 hin.2.2 hi hm hc)
  have hctx : ∀ i (hi : i < hs.length), (i : Int) ∈ reachX xs hs f → 0 ≤ hs[i].ctx → hasI (reachX xs hs f) hs[i].ctx = true := fun i hi hm hc => by
    rw [hY] at hm ⊢; exact hasI_iff'.2 (reach_ctx hin.1 hin.2.1 hin.2.2 hi hm hc)
  have hsub : ∀ g ∈ reachX xs hs f, ∀ x ∈ reachX xs hs g, hasI (reachX xs hs f) x = true := fun g hg x hx => by
    obtain ⟨i, rfl⟩ := Int.eq_ofNat_of_zero_le (hrng g hg).1
    have hi : i < hs.length := by have := (hrng _ hg).2; omega
    have hYg : reachX xs hs (i : Int) = reachL hs (i : Int) := by unfold reachX; rw [goodF_mk hok hi]; rfl
    rw [hYg] at hx
    rw [hY] at hg ⊢
    exact hasI_iff'.2 (reach_sub hin.1 hin.2.1 hin.2.2 hg x hx)
  have hself : hasI (reachX xs hs f) f = true := by rw [hY]; exact hasI_iff'.2 (reach_self hin.1 hin.2.1 hin.2.2)
  have hasc : (reachX xs hs f).Pairwise (· < ·) := by rw [hY]; exact reachL_asc hs f
  have HRNG := Lib.hid hrng
  have HCAU := Lib.hid hcau
  have HCTX := Lib.hid hctx
  have HSUB := Lib.hid hsub
  have HSELF := Lib.hid hself
  have HASC := Lib.hid hasc
  have HLEN : Hid (∀ g, (reachX xs hs g).length ≤ 1048576) := fun g => reachX_len xs hs g
  have hpos : 0 < (reachX xs hs f).length := List.length_pos_of_mem (hasI_iff'.1 hself)
  have hb0 : (((reachX xs hs f).length : Int) == 0) = false := by rw [beq_eq_false_iff_ne]; omega
  clear ho hok hin hY hrng hcau hctx hsub hself hasc
  generalize hR : reachX xs hs f = R at *
  clear hR
  go_wp2
  go_loopw [7] (fun k wr => ∃ q : Nat, k = .int .i64 q ∧ Le w4 wr) (fun k _ => R.length - (intOf k).toNat)
  case atStart => exact ⟨0, rfl, Le.refl _⟩
  case round =>
    obtain ⟨q, rfl, hle⟩ := hrel
    have HW := Lib.hid hle
    replace ct := (hle.cell zt).trans ct
    replace ch := (hle.cell zh).trans ch
    replace zt := Nat.lt_of_lt_of_le zt hle.size
    replace zh := Nat.lt_of_lt_of_le zh hle.size
    replace S := S.le hle
    replace S2 := S2.le hle
    replace S3 := S3.le hle
    replace L0 := L0.trans hle
    clear hle
    by_cases hlt : q < R.length
    · obtain ⟨b, off, rfl, hbl, cq, hr1, hr2⟩ := S3.int_at hlt
      have hmem := List.getElem_mem hlt
      obtain ⟨i, hi⟩ := Int.eq_ofNat_of_zero_le (HRNG.out _ hmem).1
      have hil : i < hs.length := by have := (HRNG.out _ hmem).2; omega
      rw [hi] at cq hmem
      have E1 := Lib.hid (HCAU.out i hil hmem)
      have E2 := Lib.hid (HCTX.out i hil hmem)
      have E3 := Lib.hid (HSUB.out _ hmem)
      have hgl := HLEN.out (i : Int)
      obtain ⟨b2, off2, rfl, hb2, k0, k1, k2, k3, k4, _⟩ := S2.flt_at hil
      have hil2 : (i : Int) < (hs.length : Int) := by omega
      have hql : (q : Int) < (R.length : Int) := by omega
      clear hi hmem
      generalize hs[i].cls = v0 at *
      generalize hs[i].code = v1 at *
      generalize hs[i].cause = vc at *
      generalize hs[i].ctx = vx at *
      generalize hs[i].hide = vh at *
      go_wp2_with fail
      replace cq : wr.drew.cell? ⟨b, off + q, none⟩ = some (.int .i64 (i : Int)) := cq
      replace k0 : wr.drew.cell? ⟨b2, off2 + i * 5, none⟩ = some (.int .i64 v0) := k0
      replace k1 : wr.drew.cell? ⟨b2, off2 + i * 5 + 1, none⟩ = some (.int .i64 v1) := k1
      replace k2 : wr.drew.cell? ⟨b2, off2 + i * 5 + 2, none⟩ = some (.int .i64 vc) := k2
      replace k3 : wr.drew.cell? ⟨b2, off2 + i * 5 + 3, none⟩ = some (.int .i64 vx) := k3
      replace k4 : wr.drew.cell? ⟨b2, off2 + i * 5 + 4, none⟩ = some (.bool vh) := k4
      have LR := (Le.refl wr).drew
      replace ct := (show wr.drew.cell? _ = _ from ct)
      replace zt := (show _ < wr.drew.heap.size from zt)
      replace ch := (show wr.drew.cell? _ = _ from ch)
      replace zh := (show _ < wr.drew.heap.size from zh)
      replace S := S.le (Le.refl _).drew
      replace S2 := S2.le (Le.refl _).drew
      replace S3 := S3.le (Le.refl _).drew
      replace L0 := L0.drew
      refine wp_region_noPanic ?_
      refine wp_region_Z (fun w' => w'.cell? ⟨w1.heap.size + 1, 0, none⟩ = some (.slice (some ⟨b2, off2, none⟩) hs.length q1) ∧ w'.cell? ⟨b, off + q, none⟩ = some (.int .i64 (i : Int)) ∧ w'.cell? ⟨b2, off2 + i * 5, none⟩ = some (.int .i64 v0) ∧ w'.cell? ⟨b2, off2 + i * 5 + 1, none⟩ = some (.int .i64 v1) ∧ w'.cell? ⟨b2, off2 + i * 5 + 2, none⟩ = some (.int .i64 vc) ∧ w'.cell? ⟨b2, off2 + i * 5 + 3, none⟩ = some (.int .i64 vx) ∧ w'.cell? ⟨b2, off2 + i * 5 + 4, none⟩ = some (.bool vh)) [9] (by kernel_rfl) ?_
      refine wpAnyZ_take (i := 0) (v := ?_) rfl (by kernel_rfl) (fun _ _ _ h => h) (Or.inl ⟨by rfl, ?_⟩) (⟨ch, cq, k0, k1, k2, k3, k4⟩) ?_
      rotate_left 1
      · (intro w hSw; (try dsimp only at hSw); go_simp; try with_reducible rfl)
      try simp only [Act.put, List.setIfInBounds_toArray, List.set_cons_zero, List.set_cons_succ]
      refine wpAnyZ_take (i := 1) (v := ?_) rfl (by kernel_rfl) (fun _ _ _ h => h) (Or.inl ⟨by rfl, ?_⟩) (⟨ch, cq, k0, k1, k2, k3, k4⟩) ?_
      rotate_left 1
      · (intro w hSw; (try dsimp only at hSw); go_simp; try with_reducible rfl)
      try simp only [Act.put, List.setIfInBounds_toArray, List.set_cons_zero, List.set_cons_succ]
      refine wpAnyZ_take (i := 2) (v := ?_) rfl (by kernel_rfl) (fun _ _ _ h => h) (Or.inl ⟨by rfl, ?_⟩) (⟨ch, cq, k0, k1, k2, k3, k4⟩) ?_
      rotate_left 1
      · (intro w hSw; (try dsimp only at hSw); go_simp; try with_reducible rfl)
      try simp only [Act.put, List.setIfInBounds_toArray, List.set_cons_zero, List.set_cons_succ]
      refine wpAnyZ_take (i := 3) (v := ?_) rfl (by kernel_rfl) (fun _ _ _ h => h) (Or.inl ⟨by rfl, ?_⟩) (⟨ch, cq, k0, k1, k2, k3, k4⟩) ?_
      rotate_left 1
      · (intro w hSw; (try dsimp only at hSw); go_simp; try with_reducible rfl)
      try simp only [Act.put, List.setIfInBounds_toArray, List.set_cons_zero, List.set_cons_succ]
      refine wpAnyZ_take (i := 4) (v := ?_) rfl (by kernel_rfl) (fun _ _ _ h => h) (Or.inl ⟨by rfl, ?_⟩) (⟨ch, cq, k0, k1, k2, k3, k4⟩) ?_
      rotate_left 1
      · (intro w hSw; (try dsimp only at hSw); go_simp; try with_reducible rfl)
      try simp only [Act.put, List.setIfInBounds_toArray, List.set_cons_zero, List.set_cons_succ]
      refine wpAnyZ_take (i := 5) (v := ?_) rfl (by kernel_rfl) (fun _ _ _ h => h) (Or.inl ⟨by rfl, ?_⟩) (⟨ch, cq, k0, k1, k2, k3, k4⟩) ?_
      rotate_left 1
      · (intro w hSw; (try dsimp only at hSw); go_simp; try with_reducible rfl)
      try simp only [Act.put, List.setIfInBounds_toArray, List.set_cons_zero, List.set_cons_succ]
      refine wpAnyZ_take (i := 6) (v := ?_) rfl (by kernel_rfl) (fun _ _ _ h => h) (Or.inl ⟨by rfl, ?_⟩) (⟨ch, cq, k0, k1, k2, k3, k4⟩) ?_
      rotate_left 1
      · (intro w hSw; (try dsimp only at hSw); go_simp; try with_reducible rfl)
      try simp only [Act.put, List.setIfInBounds_toArray, List.set_cons_zero, List.set_cons_succ]
      refine wpAnyZ_take (i := 7) (v := ?_) rfl (by kernel_rfl) (fun _ _ _ h => h) (Or.inl ⟨by rfl, ?_⟩) (⟨ch, cq, k0, k1, k2, k3, k4⟩) ?_
      rotate_left 1
      · (intro w hSw; (try dsimp only at hSw); go_simp; try with_reducible rfl)
      try simp only [Act.put, List.setIfInBounds_toArray, List.set_cons_zero, List.set_cons_succ]
      refine wpAnyZ_one (i := 8) (by kernel_rfl) (ReadyZ.mk rfl (fun K hK => ?_))
      go_simp
      have zq0 : b < wr.drew.heap.size := hbl
      have zk0 : b2 < wr.drew.heap.size := hb2
      have LN := Le.new wr.drew (.cells #[.int .i64 0, .int .i64 0, .int .i64 0, .int .i64 0, .bool false] 35)
      refine hK.out _ _ (fun _ => ⟨(LN.cell zh).trans ch, (LN.cell zq0).trans cq, (LN.cell zk0).trans k0, (LN.cell zk0).trans k1, (LN.cell zk0).trans k2, (LN.cell zk0).trans k3, (LN.cell zk0).trans k4⟩) ?_
      clear hK K
      try simp only [Act.put, List.setIfInBounds_toArray, List.set_cons_zero, List.set_cons_succ]
      clear LN
      refine wpAnyZ_one (i := 9) (by kernel_rfl) (ReadyZ.mk rfl (fun K hK => ?_))
      go_simp
      refine hK.out _ _ (fun h => absurd h (by decide)) ?_
      clear hK K
      try simp only [Act.put, List.setIfInBounds_toArray, List.set_cons_zero, List.set_cons_succ]
      refine wpAnyZ_done (by kernel_rfl) ?_ _
      refine NoPanic.normal ?_
      obtain ⟨_, _, x2, x3, _, zx, hleX⟩ := box5 wr.drew (.int .i64 v0) (.int .i64 v1) (.int .i64 vc) (.int .i64 vx) (.bool vh) 35
      replace cq := (hleX.cell zq0).trans cq
      replace LR := LR.trans hleX
      replace ct := (hleX.cell zt).trans ct
      replace ch := (hleX.cell zh).trans ch
      replace zt := Nat.lt_of_lt_of_le zt hleX.size
      replace zh := Nat.lt_of_lt_of_le zh hleX.size
      replace S := S.le hleX
      replace S2 := S2.le hleX
      replace S3 := S3.le hleX
      replace L0 := L0.trans hleX
      have zq := Nat.lt_of_lt_of_le zq0 hleX.size
      clear hleX k0 k1 k2 k3 k4
      replace x2 : (wr.drew.alloc (.cells #[.int .i64 v0, .int .i64 v1, .int .i64 vc, .int .i64 vx, .bool vh] 35)).cell? ⟨wr.heap.size, 2, none⟩ = some (.int .i64 vc) := x2
      replace x3 : (wr.drew.alloc (.cells #[.int .i64 v0, .int .i64 v1, .int .i64 vc, .int .i64 vx, .bool vh] 35)).cell? ⟨wr.heap.size, 3, none⟩ = some (.int .i64 vx) := x3
      replace zx : wr.heap.size < (wr.drew.alloc (.cells #[.int .i64 v0, .int .i64 v1, .int .i64 vc, .int .i64 vx, .bool vh] 35)).heap.size := zx
      have hW9 : (wr.alloc (.cells #[.int .i64 v0, .int .i64 v1, .int .i64 vc, .int .i64 vx, .bool vh] 35)).drew = wr.drew.alloc (.cells #[.int .i64 v0, .int .i64 v1, .int .i64 vc, .int .i64 vx, .bool vh] 35) := rfl
      rw [hW9]
      clear hW9
      generalize wr.drew.alloc (.cells #[.int .i64 v0, .int .i64 v1, .int .i64 vc, .int .i64 vx, .bool vh] 35) = w9 at *
      generalize wr.heap.size = FX at *
      have toIsIn : ∀ z, hasI R z = true → Calls Try.prog 14 #[.slice (some ⟨b, off, none⟩) R.length c2, .int .i64 z] w9 fun e w' => e = .returned (.bool true) ∧ w9 = w' := fun z hz => Calls.val (isIn_any _ _ c2 R z w9 S3) (vb hz)
      have hq9 : True := trivial
      by_cases h1 : 0 ≤ vc
      · by_cases h2 : 0 ≤ vx
        · skip
          have q1' := toIsIn _ (E1.out h1)
          have q2' := toIsIn _ (E2.out h2)
          clear toIsIn
          go_wp2_with fail
          refine q1'.mono ?_
          rintro e w10 ⟨rfl, rfl⟩
          go_wp2_with fail
          clear q1'
          refine q2'.mono ?_
          rintro e w10 ⟨rfl, rfl⟩
          go_wp2_with fail
          clear q2'
          clear x2 x3
          replace cq : w9.drew.cell? ⟨b, off + q, none⟩ = some (.int .i64 (i : Int)) := cq
          replace ct := (show w9.drew.cell? _ = _ from ct)
          replace zt := (show _ < w9.drew.heap.size from zt)
          replace ch := (show w9.drew.cell? _ = _ from ch)
          replace zh := (show _ < w9.drew.heap.size from zh)
          replace S := S.le (Le.refl _).drew
          replace S2 := S2.le (Le.refl _).drew
          replace S3 := S3.le (Le.refl _).drew
          replace L0 := L0.drew
          replace LR := LR.drew
          have zq' : b < w9.drew.heap.size := zq
          go_region_held3 (fun w' => w'.cell? ⟨w1.heap.size, 0, none⟩ = some (.slice B m c) ∧ w'.cell? ⟨w1.heap.size + 1, 0, none⟩ = some (.slice (some ⟨b2, off2, none⟩) hs.length q1) ∧ w'.cell? ⟨b, off + q, none⟩ = some (.int .i64 (i : Int)))
            (first | exact ⟨ct, ch, cq⟩)
            (first
            | (go_at_call 15; refine (Calls.intsH (iReachOf_any B _ m c hs.length q1 xs hs (i : Int) _ S S2 (by omega))).mono ?_; rintro e w11 ⟨A11, c11, rfl, S11, hle⟩; replace cq := (hle.cell zq').trans cq; replace ct := (hle.cell zt).trans ct; replace ch := (hle.cell zh).trans ch; replace zt := Nat.lt_of_lt_of_le zt hle.size; replace zh := Nat.lt_of_lt_of_le zh hle.size; replace S := S.le hle; replace S2 := S2.le hle; replace S3 := S3.le hle; replace L0 := L0.trans hle; replace LR := LR.trans hle; clear hle)
            )
          have hwr := HW
          generalize wr = wr0 at *
          clear zx zq zq' zq0 zk0 hbl hb2 cq hq9
          generalize reachX xs hs (i : Int) = Y at *
          go_wp2
          go_loopw [10] (fun k wr => ∃ j : Nat, k = .int .i64 j ∧ Le w11 wr) (fun k _ => Y.length - (intOf k).toNat)
          case atStart => exact ⟨0, rfl, Le.refl _⟩
          case round =>
            obtain ⟨j, rfl, LQ⟩ := hrel
            have HQ9 := Lib.hid LQ
            replace S3 := S3.le LQ
            replace S11 := S11.le LQ
            clear LQ
            by_cases hjl : j < Y.length
            · obtain ⟨bj, oj, rfl, hbj, cj, hj1, hj2⟩ := S11.int_at hjl
              have E5 := Lib.hid (E3.out _ (List.getElem_mem hjl))
              have hjl2 : (j : Int) < (Y.length : Int) := by omega
              generalize Y[j] = yj at *
              go_wp2_with fail
              refine (Calls.val (isIn_any _ _ c2 R yj wr S3) (vb E5.out)).mono ?_
              rintro e w12 ⟨rfl, rfl⟩
              go_wp2
              go_roundw
              case rel => exact ⟨j + 1, by go_num, HQ9.out⟩
              case measure => (simp [intOf]) <;> omega
            · have hjl2 : ¬ (j : Int) < (Y.length : Int) := by omega
              go_wp2
              go_roundw
              case rel => exact ⟨q + 1, by go_num, hwr.out.trans (LR.trans HQ9.out)⟩
              case measure => (simp [intOf]) <;> omega
        · skip
          have q1' := toIsIn _ (E1.out h1)
          clear toIsIn
          go_wp2_with fail
          refine q1'.mono ?_
          rintro e w10 ⟨rfl, rfl⟩
          go_wp2_with fail
          clear q1'
          clear x2 x3
          replace cq : w9.drew.cell? ⟨b, off + q, none⟩ = some (.int .i64 (i : Int)) := cq
          replace ct := (show w9.drew.cell? _ = _ from ct)
          replace zt := (show _ < w9.drew.heap.size from zt)
          replace ch := (show w9.drew.cell? _ = _ from ch)
          replace zh := (show _ < w9.drew.heap.size from zh)
          replace S := S.le (Le.refl _).drew
          replace S2 := S2.le (Le.refl _).drew
          replace S3 := S3.le (Le.refl _).drew
          replace L0 := L0.drew
          replace LR := LR.drew
          have zq' : b < w9.drew.heap.size := zq
          go_region_held3 (fun w' => w'.cell? ⟨w1.heap.size, 0, none⟩ = some (.slice B m c) ∧ w'.cell? ⟨w1.heap.size + 1, 0, none⟩ = some (.slice (some ⟨b2, off2, none⟩) hs.length q1) ∧ w'.cell? ⟨b, off + q, none⟩ = some (.int .i64 (i : Int)))
            (first | exact ⟨ct, ch, cq⟩)
            (first
            | (go_at_call 15; refine (Calls.intsH (iReachOf_any B _ m c hs.length q1 xs hs (i : Int) _ S S2 (by omega))).mono ?_; rintro e w11 ⟨A11, c11, rfl, S11, hle⟩; replace cq := (hle.cell zq').trans cq; replace ct := (hle.cell zt).trans ct; replace ch := (hle.cell zh).trans ch; replace zt := Nat.lt_of_lt_of_le zt hle.size; replace zh := Nat.lt_of_lt_of_le zh hle.size; replace S := S.le hle; replace S2 := S2.le hle; replace S3 := S3.le hle; replace L0 := L0.trans hle; replace LR := LR.trans hle; clear hle)
            )
          have hwr := HW
          generalize wr = wr0 at *
          clear zx zq zq' zq0 zk0 hbl hb2 cq hq9
          generalize reachX xs hs (i : Int) = Y at *
          go_wp2
          go_loopw [10] (fun k wr => ∃ j : Nat, k = .int .i64 j ∧ Le w11 wr) (fun k _ => Y.length - (intOf k).toNat)
          case atStart => exact ⟨0, rfl, Le.refl _⟩
          case round =>
            obtain ⟨j, rfl, LQ⟩ := hrel
            have HQ9 := Lib.hid LQ
            replace S3 := S3.le LQ
            replace S11 := S11.le LQ
            clear LQ
            by_cases hjl : j < Y.length
            · obtain ⟨bj, oj, rfl, hbj, cj, hj1, hj2⟩ := S11.int_at hjl
              have E5 := Lib.hid (E3.out _ (List.getElem_mem hjl))
              have hjl2 : (j : Int) < (Y.length : Int) := by omega
              generalize Y[j] = yj at *
              go_wp2_with fail
              refine (Calls.val (isIn_any _ _ c2 R yj wr S3) (vb E5.out)).mono ?_
              rintro e w12 ⟨rfl, rfl⟩
              go_wp2
              go_roundw
              case rel => exact ⟨j + 1, by go_num, HQ9.out⟩
              case measure => (simp [intOf]) <;> omega
            · have hjl2 : ¬ (j : Int) < (Y.length : Int) := by omega
              go_wp2
              go_roundw
              case rel => exact ⟨q + 1, by go_num, hwr.out.trans (LR.trans HQ9.out)⟩
              case measure => (simp [intOf]) <;> omega
      · by_cases h2 : 0 ≤ vx
        · skip
          have q2' := toIsIn _ (E2.out h2)
          clear toIsIn
          go_wp2_with fail
          refine q2'.mono ?_
          rintro e w10 ⟨rfl, rfl⟩
          go_wp2_with fail
          clear q2'
          clear x2 x3
          replace cq : w9.drew.cell? ⟨b, off + q, none⟩ = some (.int .i64 (i : Int)) := cq
          replace ct := (show w9.drew.cell? _ = _ from ct)
          replace zt := (show _ < w9.drew.heap.size from zt)
          replace ch := (show w9.drew.cell? _ = _ from ch)
          replace zh := (show _ < w9.drew.heap.size from zh)
          replace S := S.le (Le.refl _).drew
          replace S2 := S2.le (Le.refl _).drew
          replace S3 := S3.le (Le.refl _).drew
          replace L0 := L0.drew
          replace LR := LR.drew
          have zq' : b < w9.drew.heap.size := zq
          go_region_held3 (fun w' => w'.cell? ⟨w1.heap.size, 0, none⟩ = some (.slice B m c) ∧ w'.cell? ⟨w1.heap.size + 1, 0, none⟩ = some (.slice (some ⟨b2, off2, none⟩) hs.length q1) ∧ w'.cell? ⟨b, off + q, none⟩ = some (.int .i64 (i : Int)))
            (first | exact ⟨ct, ch, cq⟩)
            (first
            | (go_at_call 15; refine (Calls.intsH (iReachOf_any B _ m c hs.length q1 xs hs (i : Int) _ S S2 (by omega))).mono ?_; rintro e w11 ⟨A11, c11, rfl, S11, hle⟩; replace cq := (hle.cell zq').trans cq; replace ct := (hle.cell zt).trans ct; replace ch := (hle.cell zh).trans ch; replace zt := Nat.lt_of_lt_of_le zt hle.size; replace zh := Nat.lt_of_lt_of_le zh hle.size; replace S := S.le hle; replace S2 := S2.le hle; replace S3 := S3.le hle; replace L0 := L0.trans hle; replace LR := LR.trans hle; clear hle)
            )
          have hwr := HW
          generalize wr = wr0 at *
          clear zx zq zq' zq0 zk0 hbl hb2 cq hq9
          generalize reachX xs hs (i : Int) = Y at *
          go_wp2
          go_loopw [10] (fun k wr => ∃ j : Nat, k = .int .i64 j ∧ Le w11 wr) (fun k _ => Y.length - (intOf k).toNat)
          case atStart => exact ⟨0, rfl, Le.refl _⟩
          case round =>
            obtain ⟨j, rfl, LQ⟩ := hrel
            have HQ9 := Lib.hid LQ
            replace S3 := S3.le LQ
            replace S11 := S11.le LQ
            clear LQ
            by_cases hjl : j < Y.length
            · obtain ⟨bj, oj, rfl, hbj, cj, hj1, hj2⟩ := S11.int_at hjl
              have E5 := Lib.hid (E3.out _ (List.getElem_mem hjl))
              have hjl2 : (j : Int) < (Y.length : Int) := by omega
              generalize Y[j] = yj at *
              go_wp2_with fail
              refine (Calls.val (isIn_any _ _ c2 R yj wr S3) (vb E5.out)).mono ?_
              rintro e w12 ⟨rfl, rfl⟩
              go_wp2
              go_roundw
              case rel => exact ⟨j + 1, by go_num, HQ9.out⟩
              case measure => (simp [intOf]) <;> omega
            · have hjl2 : ¬ (j : Int) < (Y.length : Int) := by omega
              go_wp2
              go_roundw
              case rel => exact ⟨q + 1, by go_num, hwr.out.trans (LR.trans HQ9.out)⟩
              case measure => (simp [intOf]) <;> omega
        · skip
          clear toIsIn
          go_wp2_with fail
          clear x2 x3
          replace cq : w9.drew.cell? ⟨b, off + q, none⟩ = some (.int .i64 (i : Int)) := cq
          replace ct := (show w9.drew.cell? _ = _ from ct)
          replace zt := (show _ < w9.drew.heap.size from zt)
          replace ch := (show w9.drew.cell? _ = _ from ch)
          replace zh := (show _ < w9.drew.heap.size from zh)
          replace S := S.le (Le.refl _).drew
          replace S2 := S2.le (Le.refl _).drew
          replace S3 := S3.le (Le.refl _).drew
          replace L0 := L0.drew
          replace LR := LR.drew
          have zq' : b < w9.drew.heap.size := zq
          go_region_held3 (fun w' => w'.cell? ⟨w1.heap.size, 0, none⟩ = some (.slice B m c) ∧ w'.cell? ⟨w1.heap.size + 1, 0, none⟩ = some (.slice (some ⟨b2, off2, none⟩) hs.length q1) ∧ w'.cell? ⟨b, off + q, none⟩ = some (.int .i64 (i : Int)))
            (first | exact ⟨ct, ch, cq⟩)
            (first
            | (go_at_call 15; refine (Calls.intsH (iReachOf_any B _ m c hs.length q1 xs hs (i : Int) _ S S2 (by omega))).mono ?_; rintro e w11 ⟨A11, c11, rfl, S11, hle⟩; replace cq := (hle.cell zq').trans cq; replace ct := (hle.cell zt).trans ct; replace ch := (hle.cell zh).trans ch; replace zt := Nat.lt_of_lt_of_le zt hle.size; replace zh := Nat.lt_of_lt_of_le zh hle.size; replace S := S.le hle; replace S2 := S2.le hle; replace S3 := S3.le hle; replace L0 := L0.trans hle; replace LR := LR.trans hle; clear hle)
            )
          have hwr := HW
          generalize wr = wr0 at *
          clear zx zq zq' zq0 zk0 hbl hb2 cq hq9
          generalize reachX xs hs (i : Int) = Y at *
          go_wp2
          go_loopw [10] (fun k wr => ∃ j : Nat, k = .int .i64 j ∧ Le w11 wr) (fun k _ => Y.length - (intOf k).toNat)
          case atStart => exact ⟨0, rfl, Le.refl _⟩
          case round =>
            obtain ⟨j, rfl, LQ⟩ := hrel
            have HQ9 := Lib.hid LQ
            replace S3 := S3.le LQ
            replace S11 := S11.le LQ
            clear LQ
            by_cases hjl : j < Y.length
            · obtain ⟨bj, oj, rfl, hbj, cj, hj1, hj2⟩ := S11.int_at hjl
              have E5 := Lib.hid (E3.out _ (List.getElem_mem hjl))
              have hjl2 : (j : Int) < (Y.length : Int) := by omega
              generalize Y[j] = yj at *
              go_wp2_with fail
              refine (Calls.val (isIn_any _ _ c2 R yj wr S3) (vb E5.out)).mono ?_
              rintro e w12 ⟨rfl, rfl⟩
              go_wp2
              go_roundw
              case rel => exact ⟨j + 1, by go_num, HQ9.out⟩
              case measure => (simp [intOf]) <;> omega
            · have hjl2 : ¬ (j : Int) < (Y.length : Int) := by omega
              go_wp2
              go_roundw
              case rel => exact ⟨q + 1, by go_num, hwr.out.trans (LR.trans HQ9.out)⟩
              case measure => (simp [intOf]) <;> omega
    · have hqx : ¬ (q : Int) < (R.length : Int) := by omega
      go_wp2_with fail
      refine (ascends_any _ _ c2 R wr S3 HASC.out).mono ?_
      rintro e w5 ⟨rfl, hle⟩
      replace S3 := S3.le hle
      replace L0 := L0.trans hle
      clear hle
      go_wp2_with fail
      refine (Calls.val (isIn_any _ _ c2 R f w5 S3) (vb HSELF.out)).mono ?_
      rintro e w6 ⟨rfl, rfl⟩
      go_wp2
      go_ret
      exact ⟨rfl, L0⟩
end Go.Proofs.Ytalcpdjldmgcdaa
