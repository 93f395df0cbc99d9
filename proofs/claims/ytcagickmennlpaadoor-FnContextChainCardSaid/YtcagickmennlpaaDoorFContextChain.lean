/- the law FnContextChain -/
import Derived.Test.YtcagickmennlpaaDoorFH0
import Derived.Test.YtcagickmennlpaaDoorHpJ
import Derived.Test.YtcagickmennlpaaDoorLD
import Derived.Test.YtcagickmennlpaaDoorPK
import Derived.Test.YtcagickmennlpaaDoorRZ
import Derived.Test.YtcagickmennlpaaDoorRC
namespace Go.Proofs.YtcagickmennlpaaDoor
open Go.RowKit
set_option maxHeartbeats 4000000 in
set_option maxRecDepth 100000 in
theorem fnContextChain_walk (A : Option Addr) (n cap : Nat) (bs : List By) (w : World) (hR : Sl w A n cap bs) (NG : GotErr w) :
    Calls Tryd.prog 9 #[.slice A n cap] w fun e w' => e = .returned (.bool true) ∧ Le w w' := by
  have hm := hR.n_le
  by_cases hbig : 1048576 < n
  · go_enter Tryd.func9, Tryd.ntmps9
    go_wp2
    go_ret
    exact ⟨rfl, Le.refl w⟩
  go_enter Tryd.func9, Tryd.ntmps9
  go_wp2_with fail
  refine (drawContextChain_any A n cap bs w hR).mono ?_
  rintro e w1 ⟨B, m, c, xs, A1, q1, hs, _, rfl, ⟨f, rfl, hf0, hf1⟩, S, hm8, S2, hl6, L0⟩
  replace NG := NG.le L0
  go_wp2_with fail
  obtain ⟨ct, zt, ch, zh, hleB⟩ := box2 w1 (.slice B m c) (.slice A1 hs.length q1) 25 28
  replace S := S.le hleB
  replace S2 := S2.le hleB
  replace L0 := L0.trans hleB
  replace NG := NG.le hleB
  clear hleB
  generalize (w1.alloc (.cells #[.slice B m c] 25)).alloc (.cells #[.slice A1 hs.length q1] 28) = W1 at *
  have hlen : (chX xs hs f).length ≤ 1048576 := chX_len xs hs f
  go_wp2_with fail
  refine (Calls.intsH (iContextChain_any B A1 m c hs.length q1 xs hs f W1 S S2 (by omega) NG)).mono ?_
  rintro e w2 ⟨A2, c2, rfl, S3, hle⟩
  replace ct := (hle.cell zt).trans ct
  replace ch := (hle.cell zh).trans ch
  replace zt := Nat.lt_of_lt_of_le zt hle.size
  replace zh := Nat.lt_of_lt_of_le zh hle.size
  replace S := S.le hle
  replace S2 := S2.le hle
  replace L0 := L0.trans hle
  replace NG := NG.le hle
  clear hle
  go_wp2_with fail
  refine (Calls.intsH (sContextChain_any B A1 m c hs.length q1 xs hs f w2 S S2 (by omega))).mono ?_
  rintro e w3 ⟨A3, c3, rfl, S4, hle⟩
  replace ct := (hle.cell zt).trans ct
  replace ch := (hle.cell zh).trans ch
  replace zt := Nat.lt_of_lt_of_le zt hle.size
  replace zh := Nat.lt_of_lt_of_le zh hle.size
  replace S := S.le hle
  replace S2 := S2.le hle
  replace S3 := S3.le hle
  replace L0 := L0.trans hle
  replace NG := NG.le hle
  clear hle
  go_wp2_with fail
  refine (equalInts_self A2 A3 _ c2 c3 (chX xs hs f) w3 S3 S4).mono ?_
  rintro e w4 ⟨rfl, hle⟩
  replace ct := (hle.cell zt).trans ct
  replace ch := (hle.cell zh).trans ch
  replace zt := Nat.lt_of_lt_of_le zt hle.size
  replace zh := Nat.lt_of_lt_of_le zh hle.size
  replace S := S.le hle
  replace S2 := S2.le hle
  replace S3 := S3.le hle
  replace L0 := L0.trans hle
  replace NG := NG.le hle
  clear hle
  clear S4
  rcases Bool.eq_false_or_eq_true (goodF xs hs f) with ho | ho
  rotate_left
  · have hX : chX xs hs f = [] := by unfold chX; rw [ho]; rfl
    have hl0 : (chX xs hs f).length = 0 := by rw [hX]; rfl
    have hb0 : (((chX xs hs f).length : Int) == 0) = true := by rw [hl0]; rfl
    clear hX hl0 ho
    go_wp2_with fail
    refine (Calls.intsH (sContextChain_any B A1 m c hs.length q1 xs hs f w4 S S2 (by omega))).mono ?_
    rintro e w5 ⟨A5, c5, rfl, S5, hle⟩
    replace L0 := L0.trans hle
    replace S3 := S3.le hle
    clear hle
    go_wp2_with fail
    refine (equalInts_self A2 A5 _ c2 c5 (chX xs hs f) w5 S3 S5).mono ?_
    rintro e w6 ⟨rfl, hle⟩
    replace L0 := L0.trans hle
    clear hle
    go_wp2
    go_ret
    exact ⟨rfl, L0⟩
  have hok : okHeap xs hs = true := by have h := ho; unfold goodF at h; rw [Bool.and_eq_true] at h; exact h.1
  have hin := goodF_in ho
  have gh := goodH_of hok
  have hX : chX xs hs f = chainN (ctxOf hs) hs.length f := by unfold chX; rw [ho]; rfl
  have hI : Chn.Is (ctxOf hs) f (chX xs hs f) := by rw [hX]; exact chain_is hin.1.ctxlt hin.2.1 hin.2.2
  have hrng : ∀ x ∈ chX xs hs f, 0 ≤ x ∧ x < hs.length := hI.rngD hin.2.2 hin.1.ctxlt
  have hY : reachX xs hs f = reachL hs f := by unfold reachX; rw [ho]; rfl
  have hlast : ∀ x, (chX xs hs f).getLast? = some x → ctxOf hs x = -1 := fun x hx => by rw [hX] at hx; exact (chain_last hin.1 gh.fin hin.2.1 hin.2.2 hx).1
  have hsub : ∀ x ∈ chX xs hs f, hasI (reachX xs hs f) x = true := fun x hx => by
    rw [hY]; rw [hX] at hx; exact hasI_iff'.2 (chain_reach hin.1 hin.2.1 hin.2.2 x hx)
  have hylen : (reachX xs hs f).length ≤ 1048576 := reachX_len xs hs f
  have HI := Lib.hid hI
  have HRNG := Lib.hid hrng
  have HLAST := Lib.hid hlast
  have HSUB := Lib.hid hsub
  have hne := hI.ne
  have hpos : 0 < (chX xs hs f).length := by rcases Nat.eq_zero_or_pos (chX xs hs f).length with h | h; exact absurd (List.eq_nil_of_length_eq_zero h) hne; exact h
  have hb0 : (((chX xs hs f).length : Int) == 0) = false := by simp; omega
  clear ho hok hin hX hI hrng hne hlast hsub hY gh
  generalize chX xs hs f = X at *
  go_wp2_with fail
  refine (Calls.intsH (iReachOf_any B A1 m c hs.length q1 xs hs f w4 S S2 (by omega))).mono ?_
  rintro e w5 ⟨A5, c5, rfl, S5, hle⟩
  replace ct := (hle.cell zt).trans ct
  replace ch := (hle.cell zh).trans ch
  replace zt := Nat.lt_of_lt_of_le zt hle.size
  replace zh := Nat.lt_of_lt_of_le zh hle.size
  replace S := S.le hle
  replace S2 := S2.le hle
  replace S3 := S3.le hle
  replace L0 := L0.trans hle
  clear hle
  generalize reachX xs hs f = Y at *
  go_wp2
  go_loopw [8] (fun k wr => ∃ q : Nat, k = .int .i64 q ∧ Le w5 wr) (fun k _ => X.length - (intOf k).toNat)
  case atStart => exact ⟨0, rfl, Le.refl _⟩
  case round =>
    obtain ⟨q, rfl, hle⟩ := hrel
    have HW := Lib.hid hle
    replace ct := (hle.cell zt).trans ct
    replace ch := (hle.cell zh).trans ch
    replace zt := Nat.lt_of_lt_of_le zt hle.size
    replace zh := Nat.lt_of_lt_of_le zh hle.size
    replace S := S.le hle
    replace S2 := S2.le hle
    replace S3 := S3.le hle
    replace S5 := S5.le hle
    replace L0 := L0.trans hle
    clear hle
    by_cases hlt : q < X.length
    · obtain ⟨b, off, rfl, hbl, cq, hr1, hr2⟩ := S3.int_at hlt
      have E2 := Lib.hid (HSUB.out _ (List.getElem_mem hlt))
      have E3 : Hid (hasI (X.take q) X[q] = false) := by
        show _ = _
        refine hasI_not (fun hm => ?_)
        obtain ⟨i, hi, e⟩ := List.getElem_of_mem hm
        rw [List.length_take] at hi
        rw [List.getElem_take] at e
        have := Chn.nd_inj HI.out.nd (by omega) hlt e
        omega
      have hcap := S3.cap_
      have hql : (q : Int) < (X.length : Int) := by omega
      have hqc : q ≤ c2 := by omega
      have hqc2 : (q : Int) ≤ (c2 : Int) := by omega
      have S4 := S3.take_ q (by omega)
      have zq := hbl
      have HS3 := Lib.hid S3
      replace cq : wr.drew.cell? ⟨b, off + q, none⟩ = some (.int .i64 X[q]) := cq
      replace zq : b < wr.drew.heap.size := zq
      rcases Nat.eq_zero_or_pos q with hq0 | hq0
      · subst hq0
        have h00 : (0 : Int) < (X.length : Int) := by omega
        generalize X[0] = xq at *
        replace cq : wr.drew.cell? ⟨b, off, none⟩ = some (.int .i64 xq) := cq
        clear hqc2 hql
        go_wp2_with fail
        have LR := (Le.refl wr).drew
        replace ch : wr.drew.cell? ⟨w1.heap.size + 1, 0, none⟩ = some (.slice A1 hs.length q1) := ch
        replace S4 := S4.le LR
        replace S5 := S5.le LR
        refine wp_region_noPanic ?_
        refine wp_region_Z (fun w' => w'.cell? ⟨w1.heap.size + 1, 0, none⟩ = some (.slice A1 hs.length q1) ∧ w'.cell? ⟨b, off, none⟩ = some (.int .i64 xq)) [] (by kernel_rfl) ?_
        refine wpAnyZ_take (i := 0) (v := ?_) rfl (by kernel_rfl) (fun _ _ _ h => h) (Or.inl ⟨by rfl, ?_⟩) (⟨ch, cq⟩) ?_
        rotate_left 1
        · (intro w hSw; (try dsimp only at hSw); go_simp; try with_reducible rfl)
        try simp only [Act.put, List.setIfInBounds_toArray, List.set_cons_zero, List.set_cons_succ]
        refine wpAnyZ_take (i := 1) (v := ?_) rfl (by kernel_rfl) (fun _ _ _ h => h) (Or.inl ⟨by rfl, ?_⟩) (⟨ch, cq⟩) ?_
        rotate_left 1
        · (intro w hSw; (try dsimp only at hSw); go_simp; try with_reducible rfl)
        try simp only [Act.put, List.setIfInBounds_toArray, List.set_cons_zero, List.set_cons_succ]
        refine wpAnyZ_take (i := 2) (v := ?_) rfl (by kernel_rfl) (fun _ _ _ h => h) (Or.inl ⟨by rfl, ?_⟩) (⟨ch, cq⟩) ?_
        rotate_left 1
        · (intro w hSw; (try dsimp only at hSw); go_simp; try with_reducible rfl)
        try simp only [Act.put, List.setIfInBounds_toArray, List.set_cons_zero, List.set_cons_succ]
        refine wpAnyZ_take (i := 3) (v := ?_) rfl (by kernel_rfl) (fun _ _ _ h => h) (Or.inl ⟨by rfl, ?_⟩) (⟨ch, cq⟩) ?_
        rotate_left 1
        · (intro w hSw; (try dsimp only at hSw); go_simp; try with_reducible rfl)
        try simp only [Act.put, List.setIfInBounds_toArray, List.set_cons_zero, List.set_cons_succ]
        refine wpAnyZ_take (i := 4) (v := ?_) rfl (by kernel_rfl) (fun _ _ _ h => h) (Or.inl ⟨by rfl, ?_⟩) (⟨ch, cq⟩) ?_
        rotate_left 1
        · (intro w hSw; (try dsimp only at hSw); go_simp; try with_reducible rfl)
        try simp only [Act.put, List.setIfInBounds_toArray, List.set_cons_zero, List.set_cons_succ]
        refine wpAnyZ_take (i := 5) (v := ?_) rfl (by kernel_rfl) (fun _ _ _ h => h) (Or.inl ⟨by rfl, ?_⟩) (⟨ch, cq⟩) ?_
        rotate_left 1
        · (intro w hSw; (try dsimp only at hSw); go_simp; try with_reducible rfl)
        try simp only [Act.put, List.setIfInBounds_toArray, List.set_cons_zero, List.set_cons_succ]
        refine wpAnyZ_take (i := 6) (v := ?_) rfl (by kernel_rfl) (fun _ _ _ h => h) (Or.inl ⟨by rfl, ?_⟩) (⟨ch, cq⟩) ?_
        rotate_left 1
        · (intro w hSw; (try dsimp only at hSw); go_simp; try with_reducible rfl)
        try simp only [Act.put, List.setIfInBounds_toArray, List.set_cons_zero, List.set_cons_succ]
        refine wpAnyZ_one (i := 7) (by kernel_rfl) (ReadyZ.mk rfl (fun K hK => ?_))
        go_simp
        go_at_call 29
        refine (Calls.val (isIn_any _ _ c2 _ xq _ S4) (vb E3.out)).mono ?_
        rintro e w7 ⟨rfl, rfl⟩
        refine hK.out _ _ (fun _ => ⟨ch, cq⟩) ?_
        clear hK K
        try simp only [Act.put, List.setIfInBounds_toArray, List.set_cons_zero, List.set_cons_succ]
        refine wpAnyZ_take (i := 8) (v := ?_) rfl (by kernel_rfl) (fun _ _ _ h => h) (Or.inl ⟨by rfl, ?_⟩) (⟨ch, cq⟩) ?_
        rotate_left 1
        · (intro w hSw; (try dsimp only at hSw); go_simp; try with_reducible rfl)
        try simp only [Act.put, List.setIfInBounds_toArray, List.set_cons_zero, List.set_cons_succ]
        refine wpAnyZ_take (i := 9) (v := ?_) rfl (by kernel_rfl) (fun _ _ _ h => h) (Or.inl ⟨by rfl, ?_⟩) (⟨ch, cq⟩) ?_
        rotate_left 1
        · (intro w hSw; (try dsimp only at hSw); go_simp; try with_reducible rfl)
        try simp only [Act.put, List.setIfInBounds_toArray, List.set_cons_zero, List.set_cons_succ]
        refine wpAnyZ_take (i := 10) (v := ?_) rfl (by kernel_rfl) (fun _ _ _ h => h) (Or.inl ⟨by rfl, ?_⟩) (⟨ch, cq⟩) ?_
        rotate_left 1
        · (intro w hSw; (try dsimp only at hSw); go_simp; try with_reducible rfl)
        try simp only [Act.put, List.setIfInBounds_toArray, List.set_cons_zero, List.set_cons_succ]
        refine wpAnyZ_take (i := 11) (v := ?_) rfl (by kernel_rfl) (fun _ _ _ h => h) (Or.inl ⟨by rfl, ?_⟩) (⟨ch, cq⟩) ?_
        rotate_left 1
        · (intro w hSw; (try dsimp only at hSw); go_simp; try with_reducible rfl)
        try simp only [Act.put, List.setIfInBounds_toArray, List.set_cons_zero, List.set_cons_succ]
        refine wpAnyZ_take (i := 12) (v := ?_) rfl (by kernel_rfl) (fun _ _ _ h => h) (Or.inl ⟨by rfl, ?_⟩) (⟨ch, cq⟩) ?_
        rotate_left 1
        · (intro w hSw; (try dsimp only at hSw); go_simp; try with_reducible rfl)
        try simp only [Act.put, List.setIfInBounds_toArray, List.set_cons_zero, List.set_cons_succ]
        refine wpAnyZ_take (i := 13) (v := ?_) rfl (by kernel_rfl) (fun _ _ _ h => h) (Or.inl ⟨by rfl, ?_⟩) (⟨ch, cq⟩) ?_
        rotate_left 1
        · (intro w hSw; (try dsimp only at hSw); go_simp; try with_reducible rfl)
        try simp only [Act.put, List.setIfInBounds_toArray, List.set_cons_zero, List.set_cons_succ]
        refine wpAnyZ_one (i := 14) (by kernel_rfl) (ReadyZ.mk rfl (fun K hK => ?_))
        go_simp
        go_at_call 29
        refine (Calls.val (isIn_any _ _ c5 _ xq _ S5) (vb E2.out)).mono ?_
        rintro e w8 ⟨rfl, rfl⟩
        refine hK.out _ _ (fun _ => ⟨ch, cq⟩) ?_
        clear hK K
        try simp only [Act.put, List.setIfInBounds_toArray, List.set_cons_zero, List.set_cons_succ]
        refine wpAnyZ_take (i := 15) (v := ?_) rfl (by kernel_rfl) (fun _ _ _ h => h) (Or.inl ⟨by rfl, ?_⟩) (⟨ch, cq⟩) ?_
        rotate_left 1
        · (intro w hSw; (try dsimp only at hSw); go_simp; try with_reducible rfl)
        try simp only [Act.put, List.setIfInBounds_toArray, List.set_cons_zero, List.set_cons_succ]
        refine wpAnyZ_take (i := 16) (v := ?_) rfl (by kernel_rfl) (fun _ _ _ h => h) (Or.inl ⟨by rfl, ?_⟩) (⟨ch, cq⟩) ?_
        rotate_left 1
        · (intro w hSw; (try dsimp only at hSw); go_simp; try with_reducible rfl)
        try simp only [Act.put, List.setIfInBounds_toArray, List.set_cons_zero, List.set_cons_succ]
        refine wpAnyZ_take (i := 17) (v := ?_) rfl (by kernel_rfl) (fun _ _ _ h => h) (Or.inl ⟨by rfl, ?_⟩) (⟨ch, cq⟩) ?_
        rotate_left 1
        · (intro w hSw; (try dsimp only at hSw); go_simp; try with_reducible rfl)
        try simp only [Act.put, List.setIfInBounds_toArray, List.set_cons_zero, List.set_cons_succ]
        refine wpAnyZ_take (i := 18) (v := ?_) rfl (by kernel_rfl) (fun _ _ _ h => h) (Or.inl ⟨by rfl, ?_⟩) (⟨ch, cq⟩) ?_
        rotate_left 1
        · (intro w hSw; (try dsimp only at hSw); go_simp; try with_reducible rfl)
        try simp only [Act.put, List.setIfInBounds_toArray, List.set_cons_zero, List.set_cons_succ]
        refine wpAnyZ_take (i := 19) (v := ?_) rfl (by kernel_rfl) (fun _ _ _ h => h) (Or.inl ⟨by rfl, ?_⟩) (⟨ch, cq⟩) ?_
        rotate_left 1
        · (intro w hSw; (try dsimp only at hSw); go_simp; try with_reducible rfl)
        try simp only [Act.put, List.setIfInBounds_toArray, List.set_cons_zero, List.set_cons_succ]
        refine wpAnyZ_take (i := 20) (v := ?_) rfl (by kernel_rfl) (fun _ _ _ h => h) (Or.inl ⟨by rfl, ?_⟩) (⟨ch, cq⟩) ?_
        rotate_left 1
        · (intro w hSw; (try dsimp only at hSw); go_simp; try with_reducible rfl)
        try simp only [Act.put, List.setIfInBounds_toArray, List.set_cons_zero, List.set_cons_succ]
        refine wpAnyZ_take (i := 21) (v := undef) rfl (by kernel_rfl) (fun _ _ _ h => h) (Or.inr ⟨?_, rfl⟩) (⟨ch, cq⟩) ?_
        · rfl
        try simp only [Act.put, List.setIfInBounds_toArray, List.set_cons_zero, List.set_cons_succ]
        refine wpAnyZ_take (i := 22) (v := undef) rfl (by kernel_rfl) (fun _ _ _ h => h) (Or.inr ⟨?_, rfl⟩) (⟨ch, cq⟩) ?_
        · rfl
        try simp only [Act.put, List.setIfInBounds_toArray, List.set_cons_zero, List.set_cons_succ]
        refine wpAnyZ_take (i := 23) (v := undef) rfl (by kernel_rfl) (fun _ _ _ h => h) (Or.inr ⟨?_, rfl⟩) (⟨ch, cq⟩) ?_
        · rfl
        try simp only [Act.put, List.setIfInBounds_toArray, List.set_cons_zero, List.set_cons_succ]
        refine wpAnyZ_take (i := 24) (v := undef) rfl (by kernel_rfl) (fun _ _ _ h => h) (Or.inr ⟨?_, rfl⟩) (⟨ch, cq⟩) ?_
        · rfl
        try simp only [Act.put, List.setIfInBounds_toArray, List.set_cons_zero, List.set_cons_succ]
        refine wpAnyZ_take (i := 25) (v := undef) rfl (by kernel_rfl) (fun _ _ _ h => h) (Or.inr ⟨?_, rfl⟩) (⟨ch, cq⟩) ?_
        · rfl
        try simp only [Act.put, List.setIfInBounds_toArray, List.set_cons_zero, List.set_cons_succ]
        refine wpAnyZ_take (i := 26) (v := undef) rfl (by kernel_rfl) (fun _ _ _ h => h) (Or.inr ⟨?_, rfl⟩) (⟨ch, cq⟩) ?_
        · rfl
        try simp only [Act.put, List.setIfInBounds_toArray, List.set_cons_zero, List.set_cons_succ]
        refine wpAnyZ_take (i := 27) (v := undef) rfl (by kernel_rfl) (fun _ _ _ h => h) (Or.inr ⟨?_, rfl⟩) (⟨ch, cq⟩) ?_
        · rfl
        try simp only [Act.put, List.setIfInBounds_toArray, List.set_cons_zero, List.set_cons_succ]
        refine wpAnyZ_take (i := 28) (v := undef) rfl (by kernel_rfl) (fun _ _ _ h => h) (Or.inr ⟨?_, rfl⟩) (⟨ch, cq⟩) ?_
        · rfl
        try simp only [Act.put, List.setIfInBounds_toArray, List.set_cons_zero, List.set_cons_succ]
        refine wpAnyZ_take (i := 29) (v := undef) rfl (by kernel_rfl) (fun _ _ _ h => h) (Or.inr ⟨?_, rfl⟩) (⟨ch, cq⟩) ?_
        · rfl
        try simp only [Act.put, List.setIfInBounds_toArray, List.set_cons_zero, List.set_cons_succ]
        refine wpAnyZ_take (i := 30) (v := undef) rfl (by kernel_rfl) (fun _ _ _ h => h) (Or.inr ⟨?_, rfl⟩) (⟨ch, cq⟩) ?_
        · rfl
        try simp only [Act.put, List.setIfInBounds_toArray, List.set_cons_zero, List.set_cons_succ]
        refine wpAnyZ_take (i := 31) (v := undef) rfl (by kernel_rfl) (fun _ _ _ h => h) (Or.inr ⟨?_, rfl⟩) (⟨ch, cq⟩) ?_
        · rfl
        try simp only [Act.put, List.setIfInBounds_toArray, List.set_cons_zero, List.set_cons_succ]
        refine wpAnyZ_take (i := 32) (v := undef) rfl (by kernel_rfl) (fun _ _ _ h => h) (Or.inr ⟨?_, rfl⟩) (⟨ch, cq⟩) ?_
        · rfl
        try simp only [Act.put, List.setIfInBounds_toArray, List.set_cons_zero, List.set_cons_succ]
        refine wpAnyZ_take (i := 33) (v := undef) rfl (by kernel_rfl) (fun _ _ _ h => h) (Or.inr ⟨?_, rfl⟩) (⟨ch, cq⟩) ?_
        · rfl
        try simp only [Act.put, List.setIfInBounds_toArray, List.set_cons_zero, List.set_cons_succ]
        refine wpAnyZ_take (i := 34) (v := undef) rfl (by kernel_rfl) (fun _ _ _ h => h) (Or.inr ⟨?_, rfl⟩) (⟨ch, cq⟩) ?_
        · rfl
        try simp only [Act.put, List.setIfInBounds_toArray, List.set_cons_zero, List.set_cons_succ]
        refine wpAnyZ_take (i := 35) (v := undef) rfl (by kernel_rfl) (fun _ _ _ h => h) (Or.inr ⟨?_, rfl⟩) (⟨ch, cq⟩) ?_
        · rfl
        try simp only [Act.put, List.setIfInBounds_toArray, List.set_cons_zero, List.set_cons_succ]
        refine wpAnyZ_take (i := 36) (v := ?_) rfl (by kernel_rfl) (fun _ _ _ h => h) (Or.inl ⟨by rfl, ?_⟩) (⟨ch, cq⟩) ?_
        rotate_left 1
        · (intro w hSw; (try dsimp only at hSw); go_simp; try with_reducible rfl)
        try simp only [Act.put, List.setIfInBounds_toArray, List.set_cons_zero, List.set_cons_succ]
        refine wpAnyZ_take (i := 37) (v := ?_) rfl (by kernel_rfl) (fun _ _ _ h => h) (Or.inl ⟨by rfl, ?_⟩) (⟨ch, cq⟩) ?_
        rotate_left 1
        · (intro w hSw; (try dsimp only at hSw); go_simp; try with_reducible rfl)
        try simp only [Act.put, List.setIfInBounds_toArray, List.set_cons_zero, List.set_cons_succ]
        refine wpAnyZ_done (by kernel_rfl) ?_ _
        refine NoPanic.normal ?_
        go_wp2
        go_roundw
        case rel => exact ⟨0 + 1, by go_num, HW.out.trans LR⟩
        case measure => (simp [intOf]) <;> omega
      · obtain ⟨j, rfl⟩ : ∃ j, q = j + 1 := ⟨q - 1, by omega⟩
        obtain ⟨b', off', e, _, cp, hr3, hr4⟩ := S3.int_at (k := j) (by omega)
        injection e with e
        injection e with e1 e2
        subst e1
        subst e2
        have hst := HI.out.st j hlt
        obtain ⟨i, hi⟩ := Int.eq_ofNat_of_zero_le (HRNG.out _ (List.getElem_mem (show j < X.length by omega))).1
        have hil : i < hs.length := by have := (HRNG.out _ (List.getElem_mem (show j < X.length by omega))).2; omega
        rw [hi] at cp hst
        rw [ctxOf_at hil] at hst
        obtain ⟨b2, off2, rfl, hb2, _, _, _, kx, _, _⟩ := S2.flt_at hil
        rw [← hst] at kx
        have hil2 : (i : Int) < (hs.length : Int) := by omega
        have hwj : IntKind.i64.wrap ((j : Int) + 1 - 1) = (j : Int) := by rw [Int.add_sub_cancel]; exact IntWalk.i64_in _ (by omega)
        have hwj2 : IntKind.i64.wrap (j : Int) = (j : Int) := IntWalk.i64_in _ (by omega)
        have hj0 : (0 : Int) ≤ (j : Int) + 1 := by omega
        have hj1 : (0 : Int) < (j : Int) + 1 := by omega
        have hjl2 : (j : Int) < (X.length : Int) := by omega
        have hql' : (j : Int) + 1 < (X.length : Int) := by omega
        have hqc' : (j : Int) + 1 ≤ (c2 : Int) := by omega
        have hb4 : (X[j + 1] != X[j + 1]) = false := by simp
        clear hst hi hq0
        generalize X[j + 1] = xq at *
        replace cp : wr.drew.cell? ⟨b, off + j, none⟩ = some (.int .i64 (i : Int)) := cp
        replace kx : wr.drew.cell? ⟨b2, off2 + i * 5 + 3, none⟩ = some (.int .i64 xq) := kx
        go_wp2_with fail
        have LR := (Le.refl wr).drew
        replace ch : wr.drew.cell? ⟨w1.heap.size + 1, 0, none⟩ = some (.slice (some ⟨b2, off2, none⟩) hs.length q1) := ch
        replace S4 := S4.le LR
        replace S5 := S5.le LR
        refine wp_region_noPanic ?_
        refine wp_region_Z (fun w' => w'.cell? ⟨w1.heap.size + 1, 0, none⟩ = some (.slice (some ⟨b2, off2, none⟩) hs.length q1) ∧ w'.cell? ⟨b, off + (j + 1), none⟩ = some (.int .i64 xq) ∧ w'.cell? ⟨b, off + j, none⟩ = some (.int .i64 (i : Int)) ∧ w'.cell? ⟨b2, off2 + i * 5 + 3, none⟩ = some (.int .i64 xq)) [] (by kernel_rfl) ?_
        refine wpAnyZ_take (i := 0) (v := ?_) rfl (by kernel_rfl) (fun _ _ _ h => h) (Or.inl ⟨by rfl, ?_⟩) (⟨ch, cq, cp, kx⟩) ?_
        rotate_left 1
        · (intro w hSw; (try dsimp only at hSw); go_simp; try with_reducible rfl)
        try simp only [Act.put, List.setIfInBounds_toArray, List.set_cons_zero, List.set_cons_succ]
        refine wpAnyZ_take (i := 1) (v := ?_) rfl (by kernel_rfl) (fun _ _ _ h => h) (Or.inl ⟨by rfl, ?_⟩) (⟨ch, cq, cp, kx⟩) ?_
        rotate_left 1
        · (intro w hSw; (try dsimp only at hSw); go_simp; try with_reducible rfl)
        try simp only [Act.put, List.setIfInBounds_toArray, List.set_cons_zero, List.set_cons_succ]
        refine wpAnyZ_take (i := 2) (v := ?_) rfl (by kernel_rfl) (fun _ _ _ h => h) (Or.inl ⟨by rfl, ?_⟩) (⟨ch, cq, cp, kx⟩) ?_
        rotate_left 1
        · (intro w hSw; (try dsimp only at hSw); go_simp; try with_reducible rfl)
        try simp only [Act.put, List.setIfInBounds_toArray, List.set_cons_zero, List.set_cons_succ]
        refine wpAnyZ_take (i := 3) (v := ?_) rfl (by kernel_rfl) (fun _ _ _ h => h) (Or.inl ⟨by rfl, ?_⟩) (⟨ch, cq, cp, kx⟩) ?_
        rotate_left 1
        · (intro w hSw; (try dsimp only at hSw); go_simp; try with_reducible rfl)
        try simp only [Act.put, List.setIfInBounds_toArray, List.set_cons_zero, List.set_cons_succ]
        refine wpAnyZ_take (i := 4) (v := ?_) rfl (by kernel_rfl) (fun _ _ _ h => h) (Or.inl ⟨by rfl, ?_⟩) (⟨ch, cq, cp, kx⟩) ?_
        rotate_left 1
        · (intro w hSw; (try dsimp only at hSw); go_simp; try with_reducible rfl)
        try simp only [Act.put, List.setIfInBounds_toArray, List.set_cons_zero, List.set_cons_succ]
        refine wpAnyZ_take (i := 5) (v := ?_) rfl (by kernel_rfl) (fun _ _ _ h => h) (Or.inl ⟨by rfl, ?_⟩) (⟨ch, cq, cp, kx⟩) ?_
        rotate_left 1
        · (intro w hSw; (try dsimp only at hSw); go_simp; try with_reducible rfl)
        try simp only [Act.put, List.setIfInBounds_toArray, List.set_cons_zero, List.set_cons_succ]
        refine wpAnyZ_take (i := 6) (v := ?_) rfl (by kernel_rfl) (fun _ _ _ h => h) (Or.inl ⟨by rfl, ?_⟩) (⟨ch, cq, cp, kx⟩) ?_
        rotate_left 1
        · (intro w hSw; (try dsimp only at hSw); go_simp; try with_reducible rfl)
        try simp only [Act.put, List.setIfInBounds_toArray, List.set_cons_zero, List.set_cons_succ]
        refine wpAnyZ_one (i := 7) (by kernel_rfl) (ReadyZ.mk rfl (fun K hK => ?_))
        go_simp
        go_at_call 29
        refine (Calls.val (isIn_any _ _ c2 _ xq _ S4) (vb E3.out)).mono ?_
        rintro e w7 ⟨rfl, rfl⟩
        refine hK.out _ _ (fun _ => ⟨ch, cq, cp, kx⟩) ?_
        clear hK K
        try simp only [Act.put, List.setIfInBounds_toArray, List.set_cons_zero, List.set_cons_succ]
        refine wpAnyZ_take (i := 8) (v := ?_) rfl (by kernel_rfl) (fun _ _ _ h => h) (Or.inl ⟨by rfl, ?_⟩) (⟨ch, cq, cp, kx⟩) ?_
        rotate_left 1
        · (intro w hSw; (try dsimp only at hSw); go_simp; try with_reducible rfl)
        try simp only [Act.put, List.setIfInBounds_toArray, List.set_cons_zero, List.set_cons_succ]
        refine wpAnyZ_take (i := 9) (v := ?_) rfl (by kernel_rfl) (fun _ _ _ h => h) (Or.inl ⟨by rfl, ?_⟩) (⟨ch, cq, cp, kx⟩) ?_
        rotate_left 1
        · (intro w hSw; (try dsimp only at hSw); go_simp; try with_reducible rfl)
        try simp only [Act.put, List.setIfInBounds_toArray, List.set_cons_zero, List.set_cons_succ]
        refine wpAnyZ_take (i := 10) (v := ?_) rfl (by kernel_rfl) (fun _ _ _ h => h) (Or.inl ⟨by rfl, ?_⟩) (⟨ch, cq, cp, kx⟩) ?_
        rotate_left 1
        · (intro w hSw; (try dsimp only at hSw); go_simp; try with_reducible rfl)
        try simp only [Act.put, List.setIfInBounds_toArray, List.set_cons_zero, List.set_cons_succ]
        refine wpAnyZ_take (i := 11) (v := ?_) rfl (by kernel_rfl) (fun _ _ _ h => h) (Or.inl ⟨by rfl, ?_⟩) (⟨ch, cq, cp, kx⟩) ?_
        rotate_left 1
        · (intro w hSw; (try dsimp only at hSw); go_simp; try with_reducible rfl)
        try simp only [Act.put, List.setIfInBounds_toArray, List.set_cons_zero, List.set_cons_succ]
        refine wpAnyZ_take (i := 12) (v := ?_) rfl (by kernel_rfl) (fun _ _ _ h => h) (Or.inl ⟨by rfl, ?_⟩) (⟨ch, cq, cp, kx⟩) ?_
        rotate_left 1
        · (intro w hSw; (try dsimp only at hSw); go_simp; try with_reducible rfl)
        try simp only [Act.put, List.setIfInBounds_toArray, List.set_cons_zero, List.set_cons_succ]
        refine wpAnyZ_take (i := 13) (v := ?_) rfl (by kernel_rfl) (fun _ _ _ h => h) (Or.inl ⟨by rfl, ?_⟩) (⟨ch, cq, cp, kx⟩) ?_
        rotate_left 1
        · (intro w hSw; (try dsimp only at hSw); go_simp; try with_reducible rfl)
        try simp only [Act.put, List.setIfInBounds_toArray, List.set_cons_zero, List.set_cons_succ]
        refine wpAnyZ_one (i := 14) (by kernel_rfl) (ReadyZ.mk rfl (fun K hK => ?_))
        go_simp
        go_at_call 29
        refine (Calls.val (isIn_any _ _ c5 _ xq _ S5) (vb E2.out)).mono ?_
        rintro e w8 ⟨rfl, rfl⟩
        refine hK.out _ _ (fun _ => ⟨ch, cq, cp, kx⟩) ?_
        clear hK K
        try simp only [Act.put, List.setIfInBounds_toArray, List.set_cons_zero, List.set_cons_succ]
        refine wpAnyZ_take (i := 15) (v := ?_) rfl (by kernel_rfl) (fun _ _ _ h => h) (Or.inl ⟨by rfl, ?_⟩) (⟨ch, cq, cp, kx⟩) ?_
        rotate_left 1
        · (intro w hSw; (try dsimp only at hSw); go_simp; try with_reducible rfl)
        try simp only [Act.put, List.setIfInBounds_toArray, List.set_cons_zero, List.set_cons_succ]
        refine wpAnyZ_take (i := 16) (v := ?_) rfl (by kernel_rfl) (fun _ _ _ h => h) (Or.inl ⟨by rfl, ?_⟩) (⟨ch, cq, cp, kx⟩) ?_
        rotate_left 1
        · (intro w hSw; (try dsimp only at hSw); go_simp; try with_reducible rfl)
        try simp only [Act.put, List.setIfInBounds_toArray, List.set_cons_zero, List.set_cons_succ]
        refine wpAnyZ_take (i := 17) (v := ?_) rfl (by kernel_rfl) (fun _ _ _ h => h) (Or.inl ⟨by rfl, ?_⟩) (⟨ch, cq, cp, kx⟩) ?_
        rotate_left 1
        · (intro w hSw; (try dsimp only at hSw); go_simp; try with_reducible rfl)
        try simp only [Act.put, List.setIfInBounds_toArray, List.set_cons_zero, List.set_cons_succ]
        refine wpAnyZ_take (i := 18) (v := ?_) rfl (by kernel_rfl) (fun _ _ _ h => h) (Or.inl ⟨by rfl, ?_⟩) (⟨ch, cq, cp, kx⟩) ?_
        rotate_left 1
        · (intro w hSw; (try dsimp only at hSw); go_simp; try with_reducible rfl)
        try simp only [Act.put, List.setIfInBounds_toArray, List.set_cons_zero, List.set_cons_succ]
        refine wpAnyZ_take (i := 19) (v := ?_) rfl (by kernel_rfl) (fun _ _ _ h => h) (Or.inl ⟨by rfl, ?_⟩) (⟨ch, cq, cp, kx⟩) ?_
        rotate_left 1
        · (intro w hSw; (try dsimp only at hSw); go_simp; try with_reducible rfl)
        try simp only [Act.put, List.setIfInBounds_toArray, List.set_cons_zero, List.set_cons_succ]
        refine wpAnyZ_take (i := 20) (v := ?_) rfl (by kernel_rfl) (fun _ _ _ h => h) (Or.inl ⟨by rfl, ?_⟩) (⟨ch, cq, cp, kx⟩) ?_
        rotate_left 1
        · (intro w hSw; (try dsimp only at hSw); go_simp; try with_reducible rfl)
        try simp only [Act.put, List.setIfInBounds_toArray, List.set_cons_zero, List.set_cons_succ]
        refine wpAnyZ_take (i := 21) (v := ?_) rfl (by kernel_rfl) (fun _ _ _ h => h) (Or.inl ⟨by rfl, ?_⟩) (⟨ch, cq, cp, kx⟩) ?_
        rotate_left 1
        · (intro w hSw; (try dsimp only at hSw); go_simp; try with_reducible rfl)
        try simp only [Act.put, List.setIfInBounds_toArray, List.set_cons_zero, List.set_cons_succ]
        refine wpAnyZ_take (i := 22) (v := ?_) rfl (by kernel_rfl) (fun _ _ _ h => h) (Or.inl ⟨by rfl, ?_⟩) (⟨ch, cq, cp, kx⟩) ?_
        rotate_left 1
        · (intro w hSw; (try dsimp only at hSw); go_simp; try with_reducible rfl)
        try simp only [Act.put, List.setIfInBounds_toArray, List.set_cons_zero, List.set_cons_succ]
        refine wpAnyZ_take (i := 23) (v := ?_) rfl (by kernel_rfl) (fun _ _ _ h => h) (Or.inl ⟨by rfl, ?_⟩) (⟨ch, cq, cp, kx⟩) ?_
        rotate_left 1
        · (intro w hSw; (try dsimp only at hSw); go_simp; try with_reducible rfl)
        try simp only [Act.put, List.setIfInBounds_toArray, List.set_cons_zero, List.set_cons_succ]
        refine wpAnyZ_take (i := 24) (v := ?_) rfl (by kernel_rfl) (fun _ _ _ h => h) (Or.inl ⟨by rfl, ?_⟩) (⟨ch, cq, cp, kx⟩) ?_
        rotate_left 1
        · (intro w hSw; (try dsimp only at hSw); go_simp; try with_reducible rfl)
        try simp only [Act.put, List.setIfInBounds_toArray, List.set_cons_zero, List.set_cons_succ]
        refine wpAnyZ_take (i := 25) (v := ?_) rfl (by kernel_rfl) (fun _ _ _ h => h) (Or.inl ⟨by rfl, ?_⟩) (⟨ch, cq, cp, kx⟩) ?_
        rotate_left 1
        · (intro w hSw; (try dsimp only at hSw); go_simp; try with_reducible rfl)
        try simp only [Act.put, List.setIfInBounds_toArray, List.set_cons_zero, List.set_cons_succ]
        refine wpAnyZ_take (i := 26) (v := ?_) rfl (by kernel_rfl) (fun _ _ _ h => h) (Or.inl ⟨by rfl, ?_⟩) (⟨ch, cq, cp, kx⟩) ?_
        rotate_left 1
        · (intro w hSw; (try dsimp only at hSw); go_simp; try with_reducible rfl)
        try simp only [Act.put, List.setIfInBounds_toArray, List.set_cons_zero, List.set_cons_succ]
        refine wpAnyZ_take (i := 27) (v := ?_) rfl (by kernel_rfl) (fun _ _ _ h => h) (Or.inl ⟨by rfl, ?_⟩) (⟨ch, cq, cp, kx⟩) ?_
        rotate_left 1
        · (intro w hSw; (try dsimp only at hSw); go_simp; try with_reducible rfl)
        try simp only [Act.put, List.setIfInBounds_toArray, List.set_cons_zero, List.set_cons_succ]
        refine wpAnyZ_take (i := 28) (v := ?_) rfl (by kernel_rfl) (fun _ _ _ h => h) (Or.inl ⟨by rfl, ?_⟩) (⟨ch, cq, cp, kx⟩) ?_
        rotate_left 1
        · (intro w hSw; (try dsimp only at hSw); go_simp; try with_reducible rfl)
        try simp only [Act.put, List.setIfInBounds_toArray, List.set_cons_zero, List.set_cons_succ]
        refine wpAnyZ_take (i := 29) (v := ?_) rfl (by kernel_rfl) (fun _ _ _ h => h) (Or.inl ⟨by rfl, ?_⟩) (⟨ch, cq, cp, kx⟩) ?_
        rotate_left 1
        · (intro w hSw; (try dsimp only at hSw); go_simp; try with_reducible rfl)
        try simp only [Act.put, List.setIfInBounds_toArray, List.set_cons_zero, List.set_cons_succ]
        refine wpAnyZ_take (i := 30) (v := ?_) rfl (by kernel_rfl) (fun _ _ _ h => h) (Or.inl ⟨by rfl, ?_⟩) (⟨ch, cq, cp, kx⟩) ?_
        rotate_left 1
        · (intro w hSw; (try dsimp only at hSw); go_simp; try with_reducible rfl)
        try simp only [Act.put, List.setIfInBounds_toArray, List.set_cons_zero, List.set_cons_succ]
        refine wpAnyZ_take (i := 31) (v := ?_) rfl (by kernel_rfl) (fun _ _ _ h => h) (Or.inl ⟨by rfl, ?_⟩) (⟨ch, cq, cp, kx⟩) ?_
        rotate_left 1
        · (intro w hSw; (try dsimp only at hSw); go_simp; try with_reducible rfl)
        try simp only [Act.put, List.setIfInBounds_toArray, List.set_cons_zero, List.set_cons_succ]
        refine wpAnyZ_take (i := 32) (v := ?_) rfl (by kernel_rfl) (fun _ _ _ h => h) (Or.inl ⟨by rfl, ?_⟩) (⟨ch, cq, cp, kx⟩) ?_
        rotate_left 1
        · (intro w hSw; (try dsimp only at hSw); go_simp; try with_reducible rfl)
        try simp only [Act.put, List.setIfInBounds_toArray, List.set_cons_zero, List.set_cons_succ]
        refine wpAnyZ_take (i := 33) (v := ?_) rfl (by kernel_rfl) (fun _ _ _ h => h) (Or.inl ⟨by rfl, ?_⟩) (⟨ch, cq, cp, kx⟩) ?_
        rotate_left 1
        · (intro w hSw; (try dsimp only at hSw); go_simp; try with_reducible rfl)
        try simp only [Act.put, List.setIfInBounds_toArray, List.set_cons_zero, List.set_cons_succ]
        refine wpAnyZ_take (i := 34) (v := ?_) rfl (by kernel_rfl) (fun _ _ _ h => h) (Or.inl ⟨by rfl, ?_⟩) (⟨ch, cq, cp, kx⟩) ?_
        rotate_left 1
        · (intro w hSw; (try dsimp only at hSw); go_simp; try with_reducible rfl)
        try simp only [Act.put, List.setIfInBounds_toArray, List.set_cons_zero, List.set_cons_succ]
        refine wpAnyZ_take (i := 35) (v := ?_) rfl (by kernel_rfl) (fun _ _ _ h => h) (Or.inl ⟨by rfl, ?_⟩) (⟨ch, cq, cp, kx⟩) ?_
        rotate_left 1
        · (intro w hSw; (try dsimp only at hSw); go_simp; try with_reducible rfl)
        try simp only [Act.put, List.setIfInBounds_toArray, List.set_cons_zero, List.set_cons_succ]
        refine wpAnyZ_take (i := 36) (v := ?_) rfl (by kernel_rfl) (fun _ _ _ h => h) (Or.inl ⟨by rfl, ?_⟩) (⟨ch, cq, cp, kx⟩) ?_
        rotate_left 1
        · (intro w hSw; (try dsimp only at hSw); go_simp; try with_reducible rfl)
        try simp only [Act.put, List.setIfInBounds_toArray, List.set_cons_zero, List.set_cons_succ]
        refine wpAnyZ_take (i := 37) (v := ?_) rfl (by kernel_rfl) (fun _ _ _ h => h) (Or.inl ⟨by rfl, ?_⟩) (⟨ch, cq, cp, kx⟩) ?_
        rotate_left 1
        · (intro w hSw; (try dsimp only at hSw); go_simp; try with_reducible rfl)
        try simp only [Act.put, List.setIfInBounds_toArray, List.set_cons_zero, List.set_cons_succ]
        refine wpAnyZ_done (by kernel_rfl) ?_ _
        refine NoPanic.normal ?_
        go_wp2
        go_roundw
        case rel => exact ⟨j + 1 + 1, by go_num, HW.out.trans LR⟩
        case measure => (simp [intOf]) <;> omega
    · obtain ⟨j, hj⟩ : ∃ j, X.length = j + 1 := ⟨X.length - 1, by omega⟩
      have hlj : j < X.length := by omega
      obtain ⟨b, off, rfl, hbl, cp, hr3, hr4⟩ := S3.int_at hlj
      have hlc := HLAST.out X[j] (by rw [List.getLast?_eq_getElem?, hj, Nat.add_sub_cancel, List.getElem?_eq_getElem hlj])
      have hrg := HRNG.out _ (List.getElem_mem hlj)
      obtain ⟨i, hi⟩ := Int.eq_ofNat_of_zero_le hrg.1
      have hil : i < hs.length := by omega
      rw [hi] at cp hlc
      rw [ctxOf_at hil] at hlc
      obtain ⟨b2, off2, rfl, hb2, _, _, _, kx, _, _⟩ := S2.flt_at hil
      rw [hlc] at kx
      have hwj : IntKind.i64.wrap ((X.length : Int) - 1) = (j : Int) := by rw [hj]; rw [show (((j + 1 : Nat) : Int) - 1) = (j : Int) by omega]; exact IntWalk.i64_in _ (by omega)
      have hjl : (j : Int) < (X.length : Int) := by omega
      have hil2 : (i : Int) < (hs.length : Int) := by omega
      have hqx : ¬ (q : Int) < (X.length : Int) := by omega
      clear hj hlc hi hrg
      go_wp2_with fail
      replace cp : wr.drew.cell? ⟨b, off + j, none⟩ = some (.int .i64 (i : Int)) := cp
      replace kx : wr.drew.cell? ⟨b2, off2 + i * 5 + 3, none⟩ = some (.int .i64 (-1)) := kx
      replace ch : wr.drew.cell? ⟨w1.heap.size + 1, 0, none⟩ = some (.slice (some ⟨b2, off2, none⟩) hs.length q1) := ch
      replace L0 := L0.drew
      go_region_held3 (fun w' => w'.cell? ⟨w1.heap.size + 1, 0, none⟩ = some (.slice (some ⟨b2, off2, none⟩) hs.length q1) ∧ w'.cell? ⟨b, off + j, none⟩ = some (.int .i64 (i : Int)) ∧ w'.cell? ⟨b2, off2 + i * 5 + 3, none⟩ = some (.int .i64 (-1)))
        (exact ⟨ch, cp, kx⟩)
        (fail)
      go_wp2
      go_ret
      exact ⟨rfl, L0⟩
end Go.Proofs.YtcagickmennlpaaDoor
