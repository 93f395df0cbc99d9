/- the law FnShownChain -/
import Derived.Test.YtcagickmennlpaaDoorFH0
import Derived.Test.YtcagickmennlpaaDoorHpJ
import Derived.Test.YtcagickmennlpaaDoorLD
import Derived.Test.YtcagickmennlpaaDoorPK
import Derived.Test.YtcagickmennlpaaDoorRZ
namespace Go.Proofs.YtcagickmennlpaaDoor
open Go.RowKit
set_option maxHeartbeats 4000000 in
set_option maxRecDepth 100000 in
theorem fnShownChain_walk (A : Option Addr) (n cap : Nat) (bs : List By) (w : World) (hR : Sl w A n cap bs) (NG : GotErr w) :
    Calls Tryd.prog 8 #[.slice A n cap] w fun e w' => e = .returned (.bool true) ∧ Le w w' := by
  have hm := hR.n_le
  by_cases hbig : 1048576 < n
  · go_enter Tryd.func8, Tryd.ntmps8
    go_wp2
    go_ret
    exact ⟨rfl, Le.refl w⟩
  go_enter Tryd.func8, Tryd.ntmps8
  go_wp2_with fail
  refine (drawShownChain_any A n cap bs w hR).mono ?_
  rintro e w1 ⟨B, m, c, xs, A1, q1, hs, _, rfl, ⟨f, rfl, hf0, hf1⟩, S, hm8, S2, hl6, L0⟩
  replace NG := NG.le L0
  go_wp2_with fail
  obtain ⟨ct, zt, ch, zh, hleB⟩ := box2 w1 (.slice B m c) (.slice A1 hs.length q1) 25 28
  replace S := S.le hleB
  replace S2 := S2.le hleB
  replace L0 := L0.trans hleB
  replace NG := NG.le hleB
  clear hleB
  generalize (w1.alloc (.cells #[.slice B m c] 25)).alloc (.cells #[.slice A1 hs.length q1] 28) = W1 at *
  have hlen : (shX xs hs f).length ≤ 1048576 := shX_len xs hs f
  go_wp2_with fail
  refine (Calls.intsH (iShownChain_any B A1 m c hs.length q1 xs hs f W1 S S2 (by omega) NG)).mono ?_
  rintro e w2 ⟨A2, c2, rfl, S3, hle⟩
  replace ct := (hle.cell zt).trans ct
  replace ch := (hle.cell zh).trans ch
  replace zt := Nat.lt_of_lt_of_le zt hle.size
  replace zh := Nat.lt_of_lt_of_le zh hle.size
  replace S := S.le hle
  replace S2 := S2.le hle
  replace L0 := L0.trans hle
  replace NG := NG.le hle
  clear hle
  go_wp2_with fail
  refine (Calls.intsH (sShownChain_any B A1 m c hs.length q1 xs hs f w2 S S2 (by omega))).mono ?_
  rintro e w3 ⟨A3, c3, rfl, S4, hle⟩
  replace ct := (hle.cell zt).trans ct
  replace ch := (hle.cell zh).trans ch
  replace zt := Nat.lt_of_lt_of_le zt hle.size
  replace zh := Nat.lt_of_lt_of_le zh hle.size
  replace S := S.le hle
  replace S2 := S2.le hle
  replace S3 := S3.le hle
  replace L0 := L0.trans hle
  replace NG := NG.le hle
  clear hle
  go_wp2_with fail
  refine (equalInts_self A2 A3 _ c2 c3 (shX xs hs f) w3 S3 S4).mono ?_
  rintro e w4 ⟨rfl, hle⟩
  replace ct := (hle.cell zt).trans ct
  replace ch := (hle.cell zh).trans ch
  replace zt := Nat.lt_of_lt_of_le zt hle.size
  replace zh := Nat.lt_of_lt_of_le zh hle.size
  replace S := S.le hle
  replace S2 := S2.le hle
  replace S3 := S3.le hle
  replace L0 := L0.trans hle
  replace NG := NG.le hle
  clear hle
  clear S4
  rcases Bool.eq_false_or_eq_true (goodF xs hs f) with ho | ho
  rotate_left
  · have hX : shX xs hs f = [] := by unfold shX; rw [ho]; rfl
    have hl0 : (shX xs hs f).length = 0 := by rw [hX]; rfl
    have hb0 : (((shX xs hs f).length : Int) == 0) = true := by rw [hl0]; rfl
    clear hX hl0 ho
    go_wp2_with fail
    refine (Calls.intsH (sShownChain_any B A1 m c hs.length q1 xs hs f w4 S S2 (by omega))).mono ?_
    rintro e w5 ⟨A5, c5, rfl, S5, hle⟩
    replace L0 := L0.trans hle
    replace S3 := S3.le hle
    clear hle
    go_wp2_with fail
    refine (equalInts_self A2 A5 _ c2 c5 (shX xs hs f) w5 S3 S5).mono ?_
    rintro e w6 ⟨rfl, hle⟩
    replace L0 := L0.trans hle
    clear hle
    go_wp2
    go_ret
    exact ⟨rfl, L0⟩
  have hok : okHeap xs hs = true := by have h := ho; unfold goodF at h; rw [Bool.and_eq_true] at h; exact h.1
  have hin := goodF_in ho
  have hX : shX xs hs f = chainN (shownAt hs) hs.length f := by unfold shX; rw [ho]; rfl
  have hI : Chn.Is (shownAt hs) f (shX xs hs f) := by rw [hX]; exact chain_is (shownAt_lt hin.1) hin.2.1 hin.2.2
  have hrng : ∀ x ∈ shX xs hs f, 0 ≤ x ∧ x < hs.length := hI.rngD hin.2.2 (shownAt_lt hin.1)
  have E1 : Hid (∀ x ∈ shX xs hs f, shownX xs hs x = shownAt hs x) := fun x hx => by
    obtain ⟨i, rfl⟩ := Int.eq_ofNat_of_zero_le (hrng x hx).1
    unfold shownX; rw [goodF_mk hok (by have := (hrng _ hx).2; omega)]; rfl
  have HI := Lib.hid hI
  have HRNG := Lib.hid hrng
  have HIN := Lib.hid hin
  have hne := hI.ne
  have hpos : 0 < (shX xs hs f).length := by rcases Nat.eq_zero_or_pos (shX xs hs f).length with h | h; exact absurd (List.eq_nil_of_length_eq_zero h) hne; exact h
  have hb0 : (((shX xs hs f).length : Int) == 0) = false := by simp; omega
  clear ho hok hin hX hI hrng hne
  generalize shX xs hs f = X at *
  go_wp2
  go_loopw [7] (fun k wr => ∃ q : Nat, k = .int .i64 q ∧ 1 ≤ q ∧ Le w4 wr) (fun k _ => X.length - (intOf k).toNat)
  case atStart => exact ⟨1, rfl, Nat.le_refl _, Le.refl _⟩
  case round =>
    obtain ⟨q, rfl, hq, hle⟩ := hrel
    have HW := Lib.hid hle
    replace ct := (hle.cell zt).trans ct
    replace ch := (hle.cell zh).trans ch
    replace zt := Nat.lt_of_lt_of_le zt hle.size
    replace zh := Nat.lt_of_lt_of_le zh hle.size
    replace S := S.le hle
    replace S2 := S2.le hle
    replace S3 := S3.le hle
    replace L0 := L0.trans hle
    replace NG := NG.le hle
    clear hle
    by_cases hlt : q < X.length
    · obtain ⟨j, rfl⟩ : ∃ j, q = j + 1 := ⟨q - 1, by omega⟩
      obtain ⟨b, off, rfl, hbl, cq, hr1, hr2⟩ := S3.int_at hlt
      obtain ⟨b', off', e, _, cp, hr3, hr4⟩ := S3.int_at (k := j) (by omega)
      injection e with e
      injection e with e1 e2
      subst e1
      subst e2
      have E2 := Lib.hid (E1.out _ (List.getElem_mem (show j < X.length by omega)))
      have hst := HI.out.st j hlt
      have E3 : Hid (hasI (X.take (j + 1)) X[j + 1] = false) := by
        show _ = _
        refine hasI_not (fun hm => ?_)
        obtain ⟨i, hi, e⟩ := List.getElem_of_mem hm
        rw [List.length_take] at hi
        rw [List.getElem_take] at e
        have := Chn.nd_inj HI.out.nd (by omega) hlt e
        omega
      have E4 := Lib.hid (E2.out.trans hst.symm)
      have hcap := S3.cap_
      have hjl : (j : Int) + 1 < (X.length : Int) := by omega
      have hjl2 : (j : Int) < (X.length : Int) := by omega
      have hjc : j + 1 ≤ c2 := by omega
      have hjc2 : (j : Int) + 1 ≤ (c2 : Int) := by omega
      have hwj : IntKind.i64.wrap ((j : Int) + 1 - 1) = (j : Int) := by rw [Int.add_sub_cancel]; exact IntWalk.i64_in _ (by omega)
      have hwj2 : IntKind.i64.wrap (j : Int) = (j : Int) := IntWalk.i64_in _ (by omega)
      have hj0 : (0 : Int) ≤ (j : Int) + 1 := by omega
      have S4 := S3.take_ (j + 1) (by omega)
      have hb4 : (X[j + 1] != X[j + 1]) = false := by simp
      clear hst
      generalize X[j + 1] = xq at *
      generalize X[j] = xp at *
      replace cq : wr.drew.cell? ⟨b, off + (j + 1), none⟩ = some (.int .i64 xq) := cq
      replace cp : wr.drew.cell? ⟨b, off + j, none⟩ = some (.int .i64 xp) := cp
      have zb := hbl
      replace zq : b < wr.drew.heap.size := hbl
      have zp := zq
      go_wp2_with fail
      replace ct := (show wr.drew.cell? _ = _ from ct)
      replace zt := (show _ < wr.drew.heap.size from zt)
      replace ch := (show wr.drew.cell? _ = _ from ch)
      replace zh := (show _ < wr.drew.heap.size from zh)
      replace S := S.le (Le.refl _).drew
      replace S2 := S2.le (Le.refl _).drew
      replace S4 := S4.le (Le.refl _).drew
      replace L0 := L0.drew
      have LR := (Le.refl wr).drew
      refine wp_region_noPanic ?_
      refine wp_region_Z (fun w' => w'.cell? ⟨w1.heap.size, 0, none⟩ = some (.slice B m c) ∧ w'.cell? ⟨w1.heap.size + 1, 0, none⟩ = some (.slice A1 hs.length q1) ∧ w'.cell? ⟨b, off + j, none⟩ = some (.int .i64 xp) ∧ w'.cell? ⟨b, off + (j + 1), none⟩ = some (.int .i64 xq)) [] (by kernel_rfl) ?_
      refine wpAnyZ_take (i := 0) (v := ?_) rfl (by kernel_rfl) (fun _ _ _ h => h) (Or.inl ⟨by rfl, ?_⟩) (⟨ct, ch, cp, cq⟩) ?_
      rotate_left 1
      · (intro w hSw; (try dsimp only at hSw); go_simp; try with_reducible rfl)
      try simp only [Act.put, List.setIfInBounds_toArray, List.set_cons_zero, List.set_cons_succ]
      refine wpAnyZ_take (i := 1) (v := ?_) rfl (by kernel_rfl) (fun _ _ _ h => h) (Or.inl ⟨by rfl, ?_⟩) (⟨ct, ch, cp, cq⟩) ?_
      rotate_left 1
      · (intro w hSw; (try dsimp only at hSw); go_simp; try with_reducible rfl)
      try simp only [Act.put, List.setIfInBounds_toArray, List.set_cons_zero, List.set_cons_succ]
      refine wpAnyZ_take (i := 2) (v := ?_) rfl (by kernel_rfl) (fun _ _ _ h => h) (Or.inl ⟨by rfl, ?_⟩) (⟨ct, ch, cp, cq⟩) ?_
      rotate_left 1
      · (intro w hSw; (try dsimp only at hSw); go_simp; try with_reducible rfl)
      try simp only [Act.put, List.setIfInBounds_toArray, List.set_cons_zero, List.set_cons_succ]
      refine wpAnyZ_take (i := 3) (v := ?_) rfl (by kernel_rfl) (fun _ _ _ h => h) (Or.inl ⟨by rfl, ?_⟩) (⟨ct, ch, cp, cq⟩) ?_
      rotate_left 1
      · (intro w hSw; (try dsimp only at hSw); go_simp; try with_reducible rfl)
      try simp only [Act.put, List.setIfInBounds_toArray, List.set_cons_zero, List.set_cons_succ]
      refine wpAnyZ_take (i := 4) (v := ?_) rfl (by kernel_rfl) (fun _ _ _ h => h) (Or.inl ⟨by rfl, ?_⟩) (⟨ct, ch, cp, cq⟩) ?_
      rotate_left 1
      · (intro w hSw; (try dsimp only at hSw); go_simp; try with_reducible rfl)
      try simp only [Act.put, List.setIfInBounds_toArray, List.set_cons_zero, List.set_cons_succ]
      refine wpAnyZ_take (i := 5) (v := ?_) rfl (by kernel_rfl) (fun _ _ _ h => h) (Or.inl ⟨by rfl, ?_⟩) (⟨ct, ch, cp, cq⟩) ?_
      rotate_left 1
      · (intro w hSw; (try dsimp only at hSw); go_simp; try with_reducible rfl)
      try simp only [Act.put, List.setIfInBounds_toArray, List.set_cons_zero, List.set_cons_succ]
      refine wpAnyZ_take (i := 6) (v := ?_) rfl (by kernel_rfl) (fun _ _ _ h => h) (Or.inl ⟨by rfl, ?_⟩) (⟨ct, ch, cp, cq⟩) ?_
      rotate_left 1
      · (intro w hSw; (try dsimp only at hSw); go_simp; try with_reducible rfl)
      try simp only [Act.put, List.setIfInBounds_toArray, List.set_cons_zero, List.set_cons_succ]
      refine wpAnyZ_take (i := 8) (v := ?_) rfl (by kernel_rfl) (fun _ _ _ h => h) (Or.inl ⟨by rfl, ?_⟩) (⟨ct, ch, cp, cq⟩) ?_
      rotate_left 1
      · (intro w hSw; (try dsimp only at hSw); go_simp; try with_reducible rfl)
      try simp only [Act.put, List.setIfInBounds_toArray, List.set_cons_zero, List.set_cons_succ]
      refine wpAnyZ_take (i := 9) (v := ?_) rfl (by kernel_rfl) (fun _ _ _ h => h) (Or.inl ⟨by rfl, ?_⟩) (⟨ct, ch, cp, cq⟩) ?_
      rotate_left 1
      · (intro w hSw; (try dsimp only at hSw); go_simp; try with_reducible rfl)
      try simp only [Act.put, List.setIfInBounds_toArray, List.set_cons_zero, List.set_cons_succ]
      refine wpAnyZ_take (i := 10) (v := ?_) rfl (by kernel_rfl) (fun _ _ _ h => h) (Or.inl ⟨by rfl, ?_⟩) (⟨ct, ch, cp, cq⟩) ?_
      rotate_left 1
      · (intro w hSw; (try dsimp only at hSw); go_simp; try with_reducible rfl)
      try simp only [Act.put, List.setIfInBounds_toArray, List.set_cons_zero, List.set_cons_succ]
      refine wpAnyZ_take (i := 11) (v := ?_) rfl (by kernel_rfl) (fun _ _ _ h => h) (Or.inl ⟨by rfl, ?_⟩) (⟨ct, ch, cp, cq⟩) ?_
      rotate_left 1
      · (intro w hSw; (try dsimp only at hSw); go_simp; try with_reducible rfl)
      try simp only [Act.put, List.setIfInBounds_toArray, List.set_cons_zero, List.set_cons_succ]
      refine wpAnyZ_one (i := 7) (by kernel_rfl) (ReadyZ.mk rfl (fun K hK => ?_))
      go_simp
      go_at_call 26
      refine (Calls.val (iShownNext_any B A1 m c hs.length q1 xs hs xp _ S S2 (by omega)) (vi E4.out)).mono ?_
      rintro e w7 ⟨rfl, hle⟩
      replace ct := (hle.cell zt).trans ct
      replace ch := (hle.cell zh).trans ch
      replace cp := (hle.cell zp).trans cp
      replace cq := (hle.cell zq).trans cq
      replace zt := Nat.lt_of_lt_of_le zt hle.size
      replace zh := Nat.lt_of_lt_of_le zh hle.size
      replace zp := Nat.lt_of_lt_of_le zp hle.size
      replace zq := Nat.lt_of_lt_of_le zq hle.size
      replace S4 := S4.le hle
      replace LR := LR.trans hle
      clear hle
      refine hK.out _ _ (fun _ => ⟨ct, ch, cp, cq⟩) ?_
      clear hK K
      try simp only [Act.put, List.setIfInBounds_toArray, List.set_cons_zero, List.set_cons_succ]
      refine wpAnyZ_take (i := 12) (v := ?_) rfl (by kernel_rfl) (fun _ _ _ h => h) (Or.inl ⟨by rfl, ?_⟩) (⟨ct, ch, cp, cq⟩) ?_
      rotate_left 1
      · (intro w hSw; (try dsimp only at hSw); go_simp; try with_reducible rfl)
      try simp only [Act.put, List.setIfInBounds_toArray, List.set_cons_zero, List.set_cons_succ]
      refine wpAnyZ_take (i := 13) (v := ?_) rfl (by kernel_rfl) (fun _ _ _ h => h) (Or.inl ⟨by rfl, ?_⟩) (⟨ct, ch, cp, cq⟩) ?_
      rotate_left 1
      · (intro w hSw; (try dsimp only at hSw); go_simp; try with_reducible rfl)
      try simp only [Act.put, List.setIfInBounds_toArray, List.set_cons_zero, List.set_cons_succ]
      refine wpAnyZ_take (i := 14) (v := ?_) rfl (by kernel_rfl) (fun _ _ _ h => h) (Or.inl ⟨by rfl, ?_⟩) (⟨ct, ch, cp, cq⟩) ?_
      rotate_left 1
      · (intro w hSw; (try dsimp only at hSw); go_simp; try with_reducible rfl)
      try simp only [Act.put, List.setIfInBounds_toArray, List.set_cons_zero, List.set_cons_succ]
      refine wpAnyZ_take (i := 15) (v := ?_) rfl (by kernel_rfl) (fun _ _ _ h => h) (Or.inl ⟨by rfl, ?_⟩) (⟨ct, ch, cp, cq⟩) ?_
      rotate_left 1
      · (intro w hSw; (try dsimp only at hSw); go_simp; try with_reducible rfl)
      try simp only [Act.put, List.setIfInBounds_toArray, List.set_cons_zero, List.set_cons_succ]
      refine wpAnyZ_take (i := 16) (v := ?_) rfl (by kernel_rfl) (fun _ _ _ h => h) (Or.inl ⟨by rfl, ?_⟩) (⟨ct, ch, cp, cq⟩) ?_
      rotate_left 1
      · (intro w hSw; (try dsimp only at hSw); go_simp; try with_reducible rfl)
      try simp only [Act.put, List.setIfInBounds_toArray, List.set_cons_zero, List.set_cons_succ]
      refine wpAnyZ_take (i := 17) (v := ?_) rfl (by kernel_rfl) (fun _ _ _ h => h) (Or.inl ⟨by rfl, ?_⟩) (⟨ct, ch, cp, cq⟩) ?_
      rotate_left 1
      · (intro w hSw; (try dsimp only at hSw); go_simp; try with_reducible rfl)
      try simp only [Act.put, List.setIfInBounds_toArray, List.set_cons_zero, List.set_cons_succ]
      refine wpAnyZ_take (i := 18) (v := ?_) rfl (by kernel_rfl) (fun _ _ _ h => h) (Or.inl ⟨by rfl, ?_⟩) (⟨ct, ch, cp, cq⟩) ?_
      rotate_left 1
      · (intro w hSw; (try dsimp only at hSw); go_simp; try with_reducible rfl)
      try simp only [Act.put, List.setIfInBounds_toArray, List.set_cons_zero, List.set_cons_succ]
      refine wpAnyZ_take (i := 19) (v := ?_) rfl (by kernel_rfl) (fun _ _ _ h => h) (Or.inl ⟨by rfl, ?_⟩) (⟨ct, ch, cp, cq⟩) ?_
      rotate_left 1
      · (intro w hSw; (try dsimp only at hSw); go_simp; try with_reducible rfl)
      try simp only [Act.put, List.setIfInBounds_toArray, List.set_cons_zero, List.set_cons_succ]
      refine wpAnyZ_take (i := 20) (v := ?_) rfl (by kernel_rfl) (fun _ _ _ h => h) (Or.inl ⟨by rfl, ?_⟩) (⟨ct, ch, cp, cq⟩) ?_
      rotate_left 1
      · (intro w hSw; (try dsimp only at hSw); go_simp; try with_reducible rfl)
      try simp only [Act.put, List.setIfInBounds_toArray, List.set_cons_zero, List.set_cons_succ]
      refine wpAnyZ_one (i := 21) (by kernel_rfl) (ReadyZ.mk rfl (fun K hK => ?_))
      go_simp
      go_at_call 29
      refine (Calls.val (isIn_any _ _ c2 _ xq w7 S4) (vb E3.out)).mono ?_
      rintro e w8 ⟨rfl, rfl⟩
      refine hK.out _ _ (fun _ => ⟨ct, ch, cp, cq⟩) ?_
      clear hK K
      try simp only [Act.put, List.setIfInBounds_toArray, List.set_cons_zero, List.set_cons_succ]
      refine wpAnyZ_take (i := 22) (v := ?_) rfl (by kernel_rfl) (fun _ _ _ h => h) (Or.inl ⟨by rfl, ?_⟩) (⟨ct, ch, cp, cq⟩) ?_
      rotate_left 1
      · (intro w hSw; (try dsimp only at hSw); go_simp; try with_reducible rfl)
      try simp only [Act.put, List.setIfInBounds_toArray, List.set_cons_zero, List.set_cons_succ]
      refine wpAnyZ_done (by kernel_rfl) ?_ _
      refine NoPanic.normal ?_
      go_wp2
      go_roundw
      case rel => exact ⟨j + 1 + 1, by go_num, by omega, (HW.out).trans LR⟩
      case measure => (simp [intOf]) <;> omega
    · obtain ⟨j, hj⟩ : ∃ j, X.length = j + 1 := ⟨X.length - 1, by omega⟩
      have hlj : j < X.length := by omega
      obtain ⟨b, off, rfl, hbl, cp, hr3, hr4⟩ := S3.int_at hlj
      obtain ⟨b', off', e, _, c0, hr1, hr2⟩ := S3.int_at hpos
      injection e with e
      injection e with e1 e2
      subst e1
      subst e2
      have E2 := Lib.hid (E1.out _ (List.getElem_mem hlj))
      have hwj : IntKind.i64.wrap ((X.length : Int) - 1) = (j : Int) := by rw [hj]; rw [show (((j + 1 : Nat) : Int) - 1) = (j : Int) by omega]; exact IntWalk.i64_in _ (by omega)
      have hjl : (j : Int) < (X.length : Int) := by omega
      have h0l : (0 : Int) < (X.length : Int) := by omega
      have hx0 : X[0] = f := by
        have := HI.out.hd
        rw [List.head?_eq_getElem?, List.getElem?_eq_getElem hpos] at this
        injection this
      have hbf : (f == f) = true := by simp
      have hen := HI.out.en X[j] (by rw [List.getLast?_eq_getElem?, hj, Nat.add_sub_cancel, List.getElem?_eq_getElem hlj])
      have hge : -1 ≤ shownAt hs X[j] := by
        have hr := HRNG.out _ (List.getElem_mem hlj)
        obtain ⟨i, hi⟩ := Int.eq_ofNat_of_zero_le hr.1
        rw [hi]; exact shownAt_ge HIN.out.1 i (by omega)
      have HEN := Lib.hid hen
      have HGE := Lib.hid hge
      rw [hx0] at c0
      have hqx : ¬ (q : Int) < (X.length : Int) := by omega
      clear hj hen hge hx0
      generalize X[j] = xp at *
      go_wp2_with fail
      have zp := hbl
      have z0 := hbl
      clear hbl
      replace cp : wr.drew.cell? ⟨b, off + j, none⟩ = some (.int .i64 xp) := cp
      replace c0 : wr.drew.cell? ⟨b, off, none⟩ = some (.int .i64 f) := c0
      replace ct := (show wr.drew.cell? _ = _ from ct)
      replace zt := (show _ < wr.drew.heap.size from zt)
      replace ch := (show wr.drew.cell? _ = _ from ch)
      replace zh := (show _ < wr.drew.heap.size from zh)
      replace S := S.le (Le.refl _).drew
      replace S2 := S2.le (Le.refl _).drew
      replace S3 := S3.le (Le.refl _).drew
      replace L0 := L0.drew
      go_region_held3 (fun w' => w'.cell? ⟨w1.heap.size, 0, none⟩ = some (.slice B m c) ∧ w'.cell? ⟨w1.heap.size + 1, 0, none⟩ = some (.slice A1 hs.length q1) ∧ w'.cell? ⟨b, off + j, none⟩ = some (.int .i64 xp))
        (first | exact ⟨ct, ch, cp⟩)
        (first
        | (go_at_call 26; refine (Calls.val (iShownNext_any B A1 m c hs.length q1 xs hs xp _ S S2 (by omega)) (vi E2.out)).mono ?_; rintro e w5 ⟨rfl, hle⟩; replace ct := (hle.cell zt).trans ct; replace ch := (hle.cell zh).trans ch; replace cp := (hle.cell zp).trans cp; replace c0 := (hle.cell z0).trans c0; replace zt := Nat.lt_of_lt_of_le zt hle.size; replace zh := Nat.lt_of_lt_of_le zh hle.size; replace zp := Nat.lt_of_lt_of_le zp hle.size; replace z0 := Nat.lt_of_lt_of_le z0 hle.size; replace S3 := S3.le hle; replace L0 := L0.trans hle; clear hle)
        )
      have H1 := HEN.out
      have H2 := HGE.out
      clear E2 HEN HGE
      generalize shownAt hs xp = y at *
      by_cases hy : y = -1
      · subst hy
        clear H1 H2
        go_wp2
        go_ret
        exact ⟨rfl, L0⟩
      · have hyb : (y == -1) = false := by simpa using hy
        have hin : hasI X y = true := hasI_iff'.2 (by rcases H1 with h | h; omega; exact h)
        clear H1 H2 hy
        go_wp2_with fail
        refine (Calls.val (isIn_any _ _ c2 X y w5 S3) (vb hin)).mono ?_
        rintro e w6 ⟨rfl, rfl⟩
        go_wp2
        go_ret
        exact ⟨rfl, L0⟩
end Go.Proofs.YtcagickmennlpaaDoor
