/- one text of YpF, CtL, YpFb, YpH, LL, LD, Nwl -/
import Derived.Test.YtkcnjoikdalgjaaGreatDoorZp14
import Derived.Test.YtkcnjoikdalgjaaGreatDoorZp8
import Derived.Test.YtkcnjoikdalgjaaGreatDoorZp9
import Derived.Test.YtkcnjoikdalgjaaGreatDoorZp6
import Derived.Test.YtkcnjoikdalgjaaGreatDoorZp12
import Derived.Test.YtkcnjoikdalgjaaGreatDoorZp2
import Derived.Test.YtkcnjoikdalgjaaGreatDoorZp15
import Derived.Test.YtkcnjoikdalgjaaGreatDoorRows
import Derived.Test.YtkcnjoikdalgjaaGreatDoorZp1
import Derived.RegionTactic
namespace Go.Proofs.YtkcnjoikdalgjaaGreatDoor
open Go.RowKit
set_option linter.unusedVariables false
section
def lnz (d k a b : Int) : Lin := ⟨d, k, a, b⟩
theorem pLI_w {xs : List Cls} {l : List UInt8} (h : lkW (atW (splitL 32 (l.drop (spN l))) 0) = 11) (b : Bool) (hb : decide (atW (splitL 32 (l.drop (spN l))) 2 = lwQuiet) = b) : pLI xs l = ⟨spN l, 11, atI (atW (splitL 32 (l.drop (spN l))) 1), cond b 1 0⟩ := by
  rw [pLI_11 h, h]
  cases b
  · rw [if_neg (of_decide_eq_false hb)]; rfl
  · rw [if_pos (of_decide_eq_true hb)]; rfl
set_option maxHeartbeats 8000000 in
set_option maxRecDepth 100000 in
theorem iparseLine_any (B : Option Addr) (m c : Nat) (xs : List Cls) (s : ByteArray) (w : World) (hT : Sl w B m c xs) (hs : s.size ≤ 1048576) (hX : LnW w) (hE : ErrW w) :
    Calls Tryz.prog 35 #[.agg #[.slice B m c], .string s] w (LinO (pLI xs (bl s)) w) := by
  obtain ⟨z, hz⟩ : ∃ z, Hid (pLI xs (bl s) = z) := ⟨_, Lib.hid rfl⟩
  have P1 := Lib.hid (pLI_1 (xs := xs) (l := bl s))
  have P11 := Lib.hid (pLI_w (xs := xs) (l := bl s))
  have P2 := Lib.hid (pLI_2 (xs := xs) (l := bl s))
  have P8 := Lib.hid (pLI_8 (xs := xs) (l := bl s))
  have PN := Lib.hid (pLI_no (xs := xs) (l := bl s))
  rw [hz.out] at P1 P11 P2 P8 PN
  have hnl := spN_le (bl s)
  rw [bl_len] at hnl
  have HTL := Lib.hid (fun W => trimLeft_any s W)
  have htz : (tb ((bl s).drop (spN (bl s)))).size = s.size - spN (bl s) := by rw [tb_size, List.length_drop, bl_len]
  have HPC : Hid (∀ x ∈ splitL 32 ((bl s).drop (spN (bl s))), x.length ≤ 1048576) := fun x hx => by
    have := splitL_len2 32 _ x hx
    rw [List.length_drop, bl_len] at this; omega
  have HPH := Lib.hid (fun W => phraseOf_any (tb ((bl s).drop (spN (bl s)))) W (by omega))
  rw [bl_tb] at HPH
  generalize splitL 32 ((bl s).drop (spN (bl s))) = W at *
  generalize tb ((bl s).drop (spN (bl s))) = tx at *
  generalize spN (bl s) = n at *
  have hkor := lkW_rng (atW W 0)
  have HEK := Lib.hid (fun W' h => lineKind_any (tb (atW W 0)) W' h)
  have ekb : Hid (lkW (bl (tb (atW W 0))) = lkW (atW W 0)) := rfl
  rw [ekb.out] at HEK
  have hsub : IntKind.i64.wrap ((s.size : Int) - (tx.size : Int)) = (n : Int) := by rw [show (s.size : Int) - (tx.size : Int) = (n : Int) by omega]; exact IntWalk.i64_in _ (by omega)
  have hsub2 : (s.size : Int) - (tx.size : Int) = (n : Int) := by omega
  have htl : tx.size ≤ 1048576 := by omega
  clear htz
  go_enter Tryz.func35, Tryz.ntmps35
  go_wp2_with fail
  obtain ⟨W0, hW0, ct, zt, r0, r1, r2, r3, zx, L0⟩ := boxTLn w (.slice B m c) (.int .i64 0) (.int .i64 0) (.int .i64 0) (.int .i64 0) 25 54
  have RA : LinAt W0 (w.heap.size + 1) ⟨0, 0, 0, 0⟩ := by
    have h := linAt_new (w.alloc (.cells #[.slice B m c] 25)) 0 0 0 0 54
    have e : (w.alloc (.cells #[.slice B m c] 25)).heap.size = w.heap.size + 1 := by simp
    rw [e, hW0] at h; exact h
  rw [hW0]
  clear hW0 r0 r1 r2 r3
  refine (HTL.out W0).mono ?_
  rintro e w' ⟨rfl, rfl⟩
  go_wp2_with fail
  refine (HPH.out W0).mono ?_
  rintro e w1 ⟨v, rfl, D, hle⟩
  obtain ⟨A1, c1, rfl, S, -⟩ := D.form (by decide)
  have z1 := hle.size
  replace RA := RA.le hle
  replace ct := (hle.cell zt).trans ct
  replace zt := Nat.lt_of_lt_of_le zt hle.size
  replace L0 := L0.trans hle
  clear D hle zx HPH HTL
  have hlm : (W.map tb).length = W.length := List.length_map ..
  rw [hlm] at S ⊢
  have HA0 := Lib.hid (at_any A1 W.length c1 W 0 w1 (by omega) S)
  have HK0 := Lib.hid (HEK.out w1 (hX.le L0))
  have HC1 : Hid (∀ W', Le w1 W' → Calls Tryz.prog 72 #[.slice A1 W.length c1, .agg #[.slice B m c], .int .i64 1] W' fun e w' => e = .returned (.int .i64 (findN xs (tb (atW W 1)) 0)) ∧ Le W' w') := fun W' h => wclass_any A1 B W.length c1 m c W xs 1 W' (by omega) (S.le h) (hT.le (L0.trans h))
  have HN1 : Hid (∀ W', Le w1 W' → Calls Tryz.prog 71 #[.slice A1 W.length c1, .int .i64 1] W' fun e w' => e = .returned (.int .i64 (atI (atW W 1))) ∧ Le W' w') := fun W' h => wnumber_any A1 W.length c1 W 1 W' (by omega) (S.le h) HPC.out (hE.le (L0.trans h))
  have HN2 : Hid (∀ W', Le w1 W' → Calls Tryz.prog 71 #[.slice A1 W.length c1, .int .i64 2] W' fun e w' => e = .returned (.int .i64 (atI (atW W 2))) ∧ Le W' w') := fun W' h => wnumber_any A1 W.length c1 W 2 W' (by omega) (S.le h) HPC.out (hE.le (L0.trans h))
  have HA2 : Hid (∀ W', Le w1 W' → Calls Tryz.prog 70 #[.slice A1 W.length c1, .int .i64 2] W' fun e w' => e = .returned (.string (tb (atW W 2))) ∧ W' = w') := fun W' h => at_any A1 W.length c1 W 2 W' (by omega) (S.le h)
  have hqd : Hid (((tb (atW W 2)).toList == (⟨#[113, 117, 105, 101, 116]⟩ : ByteArray).toList) = decide (atW W 2 = lwQuiet)) := by
    show _ = _
    by_cases h : atW W 2 = lwQuiet
    · rw [decide_eq_true h, h]; exact str_yesL (tb lwQuiet)
    · rw [decide_eq_false h]
      exact str_ne (fun e => h ((tb_eqL (s := tb lwQuiet)).1 e).symm)
  generalize decide (atW W 2 = lwQuiet) = qd at *
  clear S HPC HEK ekb hlm
  generalize findN xs (tb (atW W 1)) 0 = vc at *
  generalize atI (atW W 1) = v1 at *
  generalize atI (atW W 2) = v2 at *
  generalize lkW (atW W 0) = kd at *
  generalize tb (atW W 0) = x0 at *
  generalize tb (atW W 2) = x2 at *
  go_wp2_with fail
  refine HA0.out.mono ?_
  rintro e w' ⟨rfl, rfl⟩
  go_wp2_with fail
  refine HK0.out.mono ?_
  rintro e w' ⟨rfl, rfl⟩
  have RB : LinAt (w1.alloc (.cells #[.int .i64 n, .int .i64 kd, .int .i64 0, .int .i64 0] 54)) w1.heap.size ⟨n, kd, 0, 0⟩ := linAt_new w1 n kd 0 0 _
  have LB := Le.new w1 (.cells #[.int .i64 n, .int .i64 kd, .int .i64 0, .int .i64 0] 54)
  have RA2 := RA.le LB
  have L1 := L0.trans LB
  have ct1 := (LB.cell zt).trans ct
  have zt1 := Nat.lt_of_lt_of_le zt LB.size
  have hab : w1.heap.size ≠ w.heap.size + 1 := by have := RA.z; omega
  have haw : w.heap.size ≤ w1.heap.size := by have := RA.z; omega
  have htw : w.heap.size < w1.heap.size := by have := RA.z; omega
  have hka := RB.c1
  clear RA L0 ct zt HA0 HK0
  by_cases hk1 : kd = 1 ∨ kd = 4 ∨ kd = 12
  · have HZ : Hid (z = ⟨n, kd, v1, 0⟩) := P1.out hk1
    clear P1 P11 P2 P8 PN HC1 HN2 HA2 hqd
    rcases hk1 with rfl | rfl | rfl
    · -- 1
      have LW : Le w1 (w1.alloc (.cells #[.int .i64 n, .int .i64 1, .int .i64 0, .int .i64 0] 54)) := LB
      clear LB
      go_wp2_with fail
      generalize w1.alloc (.cells #[.int .i64 n, .int .i64 1, .int .i64 0, .int .i64 0] 54) = W2 at *
      clear hka
      refine (HN1.out _ LW).mono ?_
      rintro e w3 ⟨rfl, hle⟩
      replace RB := RB.le hle
      replace RA2 := RA2.le hle
      replace ct1 := (hle.cell zt1).trans ct1
      replace zt1 := Nat.lt_of_lt_of_le zt1 hle.size
      replace L1 := L1.trans hle
      replace LW := LW.trans hle
      clear hle
      have q2 := RB.c2
      have h2 := RB.f 2
      replace RB := RB.set2 v1
      replace RA2 := RA2.other (q := w1.heap.size) (o := 2) (u := .int .i64 v1) hab
      replace ct1 := (cell_set_other (b := w1.heap.size) (o := 2) (v := .int .i64 v1) (.inl (by omega))).trans ct1
      replace L1 := L1.setCell (b := w1.heap.size) (o := 2) haw (.int .i64 v1)
      replace LW := LW.setCell (b := w1.heap.size) (o := 2) (Nat.le_refl _) (.int .i64 v1)
      have n0 := RB.c0
      have n1 := RB.c1
      have n2 := RB.c2
      have n3 := RB.c3
      have S1 := RA2.set0 (n : Int)
      have S2 := S1.set1 1
      have S3 := S2.set2 v1
      have S4 := S3.set3 0
      have a0 := RA2.c0
      have g0 := RA2.f 0
      have a1 := S1.c1
      have g1 := S1.f 1
      have a2 := S2.c2
      have g2 := S2.f 2
      have a3 := S3.c3
      have g3 := S3.f 3
      have m0 := S4.c0
      have m1 := S4.c1
      have m2 := S4.c2
      have m3 := S4.c3
      have LF := (((L1.setCell (b := w.heap.size + 1) (o := 0) (by omega) (.int .i64 n)).setCell (b := w.heap.size + 1) (o := 1) (by omega) (.int .i64 1)).setCell (b := w.heap.size + 1) (o := 2) (by omega) (.int .i64 v1)).setCell (b := w.heap.size + 1) (o := 3) (by omega) (.int .i64 0)
      clear RA2 RB S1 S2 S3 S4 L1
      go_wp2
      exact bodyPost_ret (v := .agg #[.int .i64 n, .int .i64 1, .int .i64 v1, .int .i64 0]) (by simp [results, Tryz.results35, go_sem, m0, m1, m2, m3]) rfl ⟨by rw [hz.out, HZ.out], LF⟩
    · -- 4
      have LW : Le w1 (w1.alloc (.cells #[.int .i64 n, .int .i64 4, .int .i64 0, .int .i64 0] 54)) := LB
      clear LB
      go_wp2_with fail
      generalize w1.alloc (.cells #[.int .i64 n, .int .i64 4, .int .i64 0, .int .i64 0] 54) = W2 at *
      clear hka
      refine (HN1.out _ LW).mono ?_
      rintro e w3 ⟨rfl, hle⟩
      replace RB := RB.le hle
      replace RA2 := RA2.le hle
      replace ct1 := (hle.cell zt1).trans ct1
      replace zt1 := Nat.lt_of_lt_of_le zt1 hle.size
      replace L1 := L1.trans hle
      replace LW := LW.trans hle
      clear hle
      have q2 := RB.c2
      have h2 := RB.f 2
      replace RB := RB.set2 v1
      replace RA2 := RA2.other (q := w1.heap.size) (o := 2) (u := .int .i64 v1) hab
      replace ct1 := (cell_set_other (b := w1.heap.size) (o := 2) (v := .int .i64 v1) (.inl (by omega))).trans ct1
      replace L1 := L1.setCell (b := w1.heap.size) (o := 2) haw (.int .i64 v1)
      replace LW := LW.setCell (b := w1.heap.size) (o := 2) (Nat.le_refl _) (.int .i64 v1)
      have n0 := RB.c0
      have n1 := RB.c1
      have n2 := RB.c2
      have n3 := RB.c3
      have S1 := RA2.set0 (n : Int)
      have S2 := S1.set1 4
      have S3 := S2.set2 v1
      have S4 := S3.set3 0
      have a0 := RA2.c0
      have g0 := RA2.f 0
      have a1 := S1.c1
      have g1 := S1.f 1
      have a2 := S2.c2
      have g2 := S2.f 2
      have a3 := S3.c3
      have g3 := S3.f 3
      have m0 := S4.c0
      have m1 := S4.c1
      have m2 := S4.c2
      have m3 := S4.c3
      have LF := (((L1.setCell (b := w.heap.size + 1) (o := 0) (by omega) (.int .i64 n)).setCell (b := w.heap.size + 1) (o := 1) (by omega) (.int .i64 4)).setCell (b := w.heap.size + 1) (o := 2) (by omega) (.int .i64 v1)).setCell (b := w.heap.size + 1) (o := 3) (by omega) (.int .i64 0)
      clear RA2 RB S1 S2 S3 S4 L1
      go_wp2
      exact bodyPost_ret (v := .agg #[.int .i64 n, .int .i64 4, .int .i64 v1, .int .i64 0]) (by simp [results, Tryz.results35, go_sem, m0, m1, m2, m3]) rfl ⟨by rw [hz.out, HZ.out], LF⟩
    · -- 12
      have LW : Le w1 (w1.alloc (.cells #[.int .i64 n, .int .i64 12, .int .i64 0, .int .i64 0] 54)) := LB
      clear LB
      go_wp2_with fail
      generalize w1.alloc (.cells #[.int .i64 n, .int .i64 12, .int .i64 0, .int .i64 0] 54) = W2 at *
      clear hka
      refine (HN1.out _ LW).mono ?_
      rintro e w3 ⟨rfl, hle⟩
      replace RB := RB.le hle
      replace RA2 := RA2.le hle
      replace ct1 := (hle.cell zt1).trans ct1
      replace zt1 := Nat.lt_of_lt_of_le zt1 hle.size
      replace L1 := L1.trans hle
      replace LW := LW.trans hle
      clear hle
      have q2 := RB.c2
      have h2 := RB.f 2
      replace RB := RB.set2 v1
      replace RA2 := RA2.other (q := w1.heap.size) (o := 2) (u := .int .i64 v1) hab
      replace ct1 := (cell_set_other (b := w1.heap.size) (o := 2) (v := .int .i64 v1) (.inl (by omega))).trans ct1
      replace L1 := L1.setCell (b := w1.heap.size) (o := 2) haw (.int .i64 v1)
      replace LW := LW.setCell (b := w1.heap.size) (o := 2) (Nat.le_refl _) (.int .i64 v1)
      have n0 := RB.c0
      have n1 := RB.c1
      have n2 := RB.c2
      have n3 := RB.c3
      have S1 := RA2.set0 (n : Int)
      have S2 := S1.set1 12
      have S3 := S2.set2 v1
      have S4 := S3.set3 0
      have a0 := RA2.c0
      have g0 := RA2.f 0
      have a1 := S1.c1
      have g1 := S1.f 1
      have a2 := S2.c2
      have g2 := S2.f 2
      have a3 := S3.c3
      have g3 := S3.f 3
      have m0 := S4.c0
      have m1 := S4.c1
      have m2 := S4.c2
      have m3 := S4.c3
      have LF := (((L1.setCell (b := w.heap.size + 1) (o := 0) (by omega) (.int .i64 n)).setCell (b := w.heap.size + 1) (o := 1) (by omega) (.int .i64 12)).setCell (b := w.heap.size + 1) (o := 2) (by omega) (.int .i64 v1)).setCell (b := w.heap.size + 1) (o := 3) (by omega) (.int .i64 0)
      clear RA2 RB S1 S2 S3 S4 L1
      go_wp2
      exact bodyPost_ret (v := .agg #[.int .i64 n, .int .i64 12, .int .i64 v1, .int .i64 0]) (by simp [results, Tryz.results35, go_sem, m0, m1, m2, m3]) rfl ⟨by rw [hz.out, HZ.out], LF⟩
  by_cases hk11 : kd = 11
  · subst hk11
    have HZ : Hid (z = ⟨n, 11, v1, cond qd 1 0⟩) := P11.out rfl qd rfl
    clear P1 P11 P2 P8 PN HC1 HN2
    have LW : Le w1 (w1.alloc (.cells #[.int .i64 n, .int .i64 11, .int .i64 0, .int .i64 0] 54)) := LB
    clear LB
    go_wp2_with fail
    generalize w1.alloc (.cells #[.int .i64 n, .int .i64 11, .int .i64 0, .int .i64 0] 54) = W2 at *
    clear hka
    refine (HN1.out _ LW).mono ?_
    rintro e w3 ⟨rfl, hle⟩
    replace RB := RB.le hle
    replace RA2 := RA2.le hle
    replace ct1 := (hle.cell zt1).trans ct1
    replace zt1 := Nat.lt_of_lt_of_le zt1 hle.size
    replace L1 := L1.trans hle
    replace LW := LW.trans hle
    clear hle
    have q2 := RB.c2
    have h2 := RB.f 2
    replace RB := RB.set2 v1
    replace RA2 := RA2.other (q := w1.heap.size) (o := 2) (u := .int .i64 v1) hab
    replace ct1 := (cell_set_other (b := w1.heap.size) (o := 2) (v := .int .i64 v1) (.inl (by omega))).trans ct1
    replace L1 := L1.setCell (b := w1.heap.size) (o := 2) haw (.int .i64 v1)
    replace LW := LW.setCell (b := w1.heap.size) (o := 2) (Nat.le_refl _) (.int .i64 v1)
    go_wp2_with fail
    refine (HA2.out _ LW).mono ?_
    rintro e w' ⟨rfl, rfl⟩
    have hqq := hqd.out
    have hql : (⟨#[113, 117, 105, 101, 116]⟩ : ByteArray).toList = [113, 117, 105, 101, 116] := by first | rfl | decide +kernel | simp
    rw [hql] at hqq
    clear hqd HA2 hql
    cases qd
    · -- no
      have n0 := RB.c0
      have n1 := RB.c1
      have n2 := RB.c2
      have n3 := RB.c3
      have S1 := RA2.set0 (n : Int)
      have S2 := S1.set1 11
      have S3 := S2.set2 v1
      have S4 := S3.set3 0
      have a0 := RA2.c0
      have g0 := RA2.f 0
      have a1 := S1.c1
      have g1 := S1.f 1
      have a2 := S2.c2
      have g2 := S2.f 2
      have a3 := S3.c3
      have g3 := S3.f 3
      have m0 := S4.c0
      have m1 := S4.c1
      have m2 := S4.c2
      have m3 := S4.c3
      have LF := (((L1.setCell (b := w.heap.size + 1) (o := 0) (by omega) (.int .i64 n)).setCell (b := w.heap.size + 1) (o := 1) (by omega) (.int .i64 11)).setCell (b := w.heap.size + 1) (o := 2) (by omega) (.int .i64 v1)).setCell (b := w.heap.size + 1) (o := 3) (by omega) (.int .i64 0)
      clear RA2 RB S1 S2 S3 S4 L1
      go_wp2
      exact bodyPost_ret (v := .agg #[.int .i64 n, .int .i64 11, .int .i64 v1, .int .i64 0]) (by simp [results, Tryz.results35, go_sem, m0, m1, m2, m3]) rfl ⟨by rw [hz.out, HZ.out]; rfl, LF⟩
    · -- quiet
      have q4 := RB.c3
      have h4 := RB.f 3
      replace RB := RB.set3 1
      replace RA2 := RA2.other (q := w1.heap.size) (o := 3) (u := .int .i64 1) hab
      replace ct1 := (cell_set_other (b := w1.heap.size) (o := 3) (v := .int .i64 1) (.inl (by omega))).trans ct1
      replace L1 := L1.setCell (b := w1.heap.size) (o := 3) haw (.int .i64 1)
      replace LW := LW.setCell (b := w1.heap.size) (o := 3) (Nat.le_refl _) (.int .i64 1)
      have n0 := RB.c0
      have n1 := RB.c1
      have n2 := RB.c2
      have n3 := RB.c3
      have S1 := RA2.set0 (n : Int)
      have S2 := S1.set1 11
      have S3 := S2.set2 v1
      have S4 := S3.set3 1
      have a0 := RA2.c0
      have g0 := RA2.f 0
      have a1 := S1.c1
      have g1 := S1.f 1
      have a2 := S2.c2
      have g2 := S2.f 2
      have a3 := S3.c3
      have g3 := S3.f 3
      have m0 := S4.c0
      have m1 := S4.c1
      have m2 := S4.c2
      have m3 := S4.c3
      have LF := (((L1.setCell (b := w.heap.size + 1) (o := 0) (by omega) (.int .i64 n)).setCell (b := w.heap.size + 1) (o := 1) (by omega) (.int .i64 11)).setCell (b := w.heap.size + 1) (o := 2) (by omega) (.int .i64 v1)).setCell (b := w.heap.size + 1) (o := 3) (by omega) (.int .i64 1)
      clear RA2 RB S1 S2 S3 S4 L1
      go_wp2
      exact bodyPost_ret (v := .agg #[.int .i64 n, .int .i64 11, .int .i64 v1, .int .i64 1]) (by simp [results, Tryz.results35, go_sem, m0, m1, m2, m3]) rfl ⟨by rw [hz.out, HZ.out]; rfl, LF⟩
  by_cases hk2 : kd = 2
  · subst hk2
    have HZ : Hid (z = ⟨n, 2, vc, v2⟩) := P2.out rfl
    clear P1 P11 P2 P8 PN HA2 HN1 hqd
    have LW : Le w1 (w1.alloc (.cells #[.int .i64 n, .int .i64 2, .int .i64 0, .int .i64 0] 54)) := LB
    clear LB
    go_wp2_with fail
    generalize w1.alloc (.cells #[.int .i64 n, .int .i64 2, .int .i64 0, .int .i64 0] 54) = W2 at *
    clear hka
    refine (HC1.out _ LW).mono ?_
    rintro e w3 ⟨rfl, hle⟩
    replace RB := RB.le hle
    replace RA2 := RA2.le hle
    replace ct1 := (hle.cell zt1).trans ct1
    replace zt1 := Nat.lt_of_lt_of_le zt1 hle.size
    replace L1 := L1.trans hle
    replace LW := LW.trans hle
    clear hle
    go_wp2_with fail
    refine (HN2.out _ LW).mono ?_
    rintro e w4 ⟨rfl, hle⟩
    replace RB := RB.le hle
    replace RA2 := RA2.le hle
    replace ct1 := (hle.cell zt1).trans ct1
    replace zt1 := Nat.lt_of_lt_of_le zt1 hle.size
    replace L1 := L1.trans hle
    replace LW := LW.trans hle
    clear hle
    have q2 := RB.c2
    have h2 := RB.f 2
    replace RB := RB.set2 vc
    replace RA2 := RA2.other (q := w1.heap.size) (o := 2) (u := .int .i64 vc) hab
    replace ct1 := (cell_set_other (b := w1.heap.size) (o := 2) (v := .int .i64 vc) (.inl (by omega))).trans ct1
    replace L1 := L1.setCell (b := w1.heap.size) (o := 2) haw (.int .i64 vc)
    replace LW := LW.setCell (b := w1.heap.size) (o := 2) (Nat.le_refl _) (.int .i64 vc)
    have q3 := RB.c3
    have h3 := RB.f 3
    replace RB := RB.set3 v2
    replace RA2 := RA2.other (q := w1.heap.size) (o := 3) (u := .int .i64 v2) hab
    replace ct1 := (cell_set_other (b := w1.heap.size) (o := 3) (v := .int .i64 v2) (.inl (by omega))).trans ct1
    replace L1 := L1.setCell (b := w1.heap.size) (o := 3) haw (.int .i64 v2)
    replace LW := LW.setCell (b := w1.heap.size) (o := 3) (Nat.le_refl _) (.int .i64 v2)
    have n0 := RB.c0
    have n1 := RB.c1
    have n2 := RB.c2
    have n3 := RB.c3
    have S1 := RA2.set0 (n : Int)
    have S2 := S1.set1 2
    have S3 := S2.set2 vc
    have S4 := S3.set3 v2
    have a0 := RA2.c0
    have g0 := RA2.f 0
    have a1 := S1.c1
    have g1 := S1.f 1
    have a2 := S2.c2
    have g2 := S2.f 2
    have a3 := S3.c3
    have g3 := S3.f 3
    have m0 := S4.c0
    have m1 := S4.c1
    have m2 := S4.c2
    have m3 := S4.c3
    have LF := (((L1.setCell (b := w.heap.size + 1) (o := 0) (by omega) (.int .i64 n)).setCell (b := w.heap.size + 1) (o := 1) (by omega) (.int .i64 2)).setCell (b := w.heap.size + 1) (o := 2) (by omega) (.int .i64 vc)).setCell (b := w.heap.size + 1) (o := 3) (by omega) (.int .i64 v2)
    clear RA2 RB S1 S2 S3 S4 L1
    go_wp2
    exact bodyPost_ret (v := .agg #[.int .i64 n, .int .i64 2, .int .i64 vc, .int .i64 v2]) (by simp [results, Tryz.results35, go_sem, m0, m1, m2, m3]) rfl ⟨by rw [hz.out, HZ.out], LF⟩
  by_cases hk8 : kd = 8
  · subst hk8
    have HZ : Hid (z = ⟨n, 8, vc, 0⟩) := P8.out rfl
    clear P1 P11 P2 P8 PN HA2 HN1 HN2 hqd
    have LW : Le w1 (w1.alloc (.cells #[.int .i64 n, .int .i64 8, .int .i64 0, .int .i64 0] 54)) := LB
    clear LB
    go_wp2_with fail
    generalize w1.alloc (.cells #[.int .i64 n, .int .i64 8, .int .i64 0, .int .i64 0] 54) = W2 at *
    clear hka
    refine (HC1.out _ LW).mono ?_
    rintro e w3 ⟨rfl, hle⟩
    replace RB := RB.le hle
    replace RA2 := RA2.le hle
    replace ct1 := (hle.cell zt1).trans ct1
    replace zt1 := Nat.lt_of_lt_of_le zt1 hle.size
    replace L1 := L1.trans hle
    replace LW := LW.trans hle
    clear hle
    have q2 := RB.c2
    have h2 := RB.f 2
    replace RB := RB.set2 vc
    replace RA2 := RA2.other (q := w1.heap.size) (o := 2) (u := .int .i64 vc) hab
    replace ct1 := (cell_set_other (b := w1.heap.size) (o := 2) (v := .int .i64 vc) (.inl (by omega))).trans ct1
    replace L1 := L1.setCell (b := w1.heap.size) (o := 2) haw (.int .i64 vc)
    replace LW := LW.setCell (b := w1.heap.size) (o := 2) (Nat.le_refl _) (.int .i64 vc)
    have n0 := RB.c0
    have n1 := RB.c1
    have n2 := RB.c2
    have n3 := RB.c3
    have S1 := RA2.set0 (n : Int)
    have S2 := S1.set1 8
    have S3 := S2.set2 vc
    have S4 := S3.set3 0
    have a0 := RA2.c0
    have g0 := RA2.f 0
    have a1 := S1.c1
    have g1 := S1.f 1
    have a2 := S2.c2
    have g2 := S2.f 2
    have a3 := S3.c3
    have g3 := S3.f 3
    have m0 := S4.c0
    have m1 := S4.c1
    have m2 := S4.c2
    have m3 := S4.c3
    have LF := (((L1.setCell (b := w.heap.size + 1) (o := 0) (by omega) (.int .i64 n)).setCell (b := w.heap.size + 1) (o := 1) (by omega) (.int .i64 8)).setCell (b := w.heap.size + 1) (o := 2) (by omega) (.int .i64 vc)).setCell (b := w.heap.size + 1) (o := 3) (by omega) (.int .i64 0)
    clear RA2 RB S1 S2 S3 S4 L1
    go_wp2
    exact bodyPost_ret (v := .agg #[.int .i64 n, .int .i64 8, .int .i64 vc, .int .i64 0]) (by simp [results, Tryz.results35, go_sem, m0, m1, m2, m3]) rfl ⟨by rw [hz.out, HZ.out], LF⟩
  have HZ : Hid (z = ⟨n, kd, 0, 0⟩) := PN.out hk1 hk11 hk2 hk8
  have hb1 : (kd == 1) = false := by rw [beq_eq_false_iff_ne]; omega
  have hb4 : (kd == 4) = false := by rw [beq_eq_false_iff_ne]; omega
  have hb12 : (kd == 12) = false := by rw [beq_eq_false_iff_ne]; omega
  have hb11 : (kd == 11) = false := by rw [beq_eq_false_iff_ne]; omega
  have hb2 : (kd == 2) = false := by rw [beq_eq_false_iff_ne]; omega
  have hb8 : (kd == 8) = false := by rw [beq_eq_false_iff_ne]; omega
  clear P1 P11 P2 P8 PN HA2 HN1 HN2 HC1 hqd LB hk1 hk11 hk2 hk8 hkor hka
  have n0 := RB.c0
  have n1 := RB.c1
  have n2 := RB.c2
  have n3 := RB.c3
  have S1 := RA2.set0 (n : Int)
  have S2 := S1.set1 kd
  have S3 := S2.set2 0
  have S4 := S3.set3 0
  have a0 := RA2.c0
  have g0 := RA2.f 0
  have a1 := S1.c1
  have g1 := S1.f 1
  have a2 := S2.c2
  have g2 := S2.f 2
  have a3 := S3.c3
  have g3 := S3.f 3
  have m0 := S4.c0
  have m1 := S4.c1
  have m2 := S4.c2
  have m3 := S4.c3
  have LF := (((L1.setCell (b := w.heap.size + 1) (o := 0) (by omega) (.int .i64 n)).setCell (b := w.heap.size + 1) (o := 1) (by omega) (.int .i64 kd)).setCell (b := w.heap.size + 1) (o := 2) (by omega) (.int .i64 0)).setCell (b := w.heap.size + 1) (o := 3) (by omega) (.int .i64 0)
  clear RA2 RB S1 S2 S3 S4 L1
  go_wp2
  exact bodyPost_ret (v := .agg #[.int .i64 n, .int .i64 kd, .int .i64 0, .int .i64 0]) (by simp [results, Tryz.results35, go_sem, m0, m1, m2, m3]) rfl ⟨by rw [hz.out, HZ.out], LF⟩
end

section
def szOf : Value → Nat
  | .string s => s.size
  | _ => 0
def CutOutG (M : Nat) (w : World) (s : ByteArray) (e : Ending) (w' : World) : Prop :=
  (M < (linesT (bl s)).length ∧ ∃ v, e = .returned (.tuple #[v, .bool false]) ∧ Le w w') ∨
  ((linesT (bl s)).length ≤ M ∧ ∃ v, e = .returned (.tuple #[v, .bool true]) ∧ Owd 9 w w' v ((linesT (bl s)).map tb) ∧ Le w w')
set_option maxHeartbeats 2000000 in
set_option maxRecDepth 100000 in
theorem cutLinesG_any (M : Nat) (hM : M ≤ 1000) (s : ByteArray) (w : World) (hs : s.size ≤ 1048576) :
    Calls Tryz.prog 34 #[.string s, .int .i64 M] w (CutOutG M w s) := by
  obtain ⟨i0, hi, hz0, hz1, hz2⟩ := info_parts infoStrT
  obtain ⟨Q, hQ⟩ : ∃ Q, Hid (linesT (bl s) = Q) := ⟨_, Lib.hid rfl⟩
  go_enter Tryz.func34, Tryz.ntmps34
  go_wp2
  go_loopw [6, 7] (fun v r wr => ∃ (L : List ByteArray) (t : ByteArray) (A' : Option Addr) (c' : Nat), L.length ≤ M ∧ v = .slice A' L.length c' ∧ r = .string t ∧ Hid (L ++ (linesT (bl t)).map tb = Q.map tb) ∧ t.size ≤ s.size ∧ Hid (∀ x ∈ L, Enc.ok x) ∧
      wr.ownsRow w.heap.size 9 1 v L.length (L.flatMap Enc.cells) ∧ Le w wr) (fun _ r _ => szOf r)
  case atStart => exact ⟨[], s, none, 0, Nat.zero_le _, rfl, rfl, by rw [hQ.out]; rfl, Nat.le_refl _, Lib.hid (fun x h => by simp at h), World.ownsRow_nil _ _ _ _, Le.refl _⟩
  case round =>
    obtain ⟨L, t, A', c', hL, rfl, rfl, HSP, hts, HL, O, LW⟩ := hrel
    by_cases ht0 : bl t = []
    · have he := empT.2 ht0
      have hQL : Hid (Q.map tb = L) := by
        show _ = _
        rw [← HSP.out, ht0, linesT_nil]; simp
      have D := Lib.hid (show Owd 9 w wr (.slice A' L.length c') L from ⟨O, HL.out⟩)
      have hql : Q.length ≤ M := by
        have := congrArg List.length hQL.out
        rw [List.length_map] at this; omega
      clear O HL HSP ht0
      go_wp2
      go_ret2
      exact .inr ⟨by rw [hQ.out]; exact hql, _, rfl, by rw [hQ.out, hQL.out]; exact D.out, LW⟩
    · have he := empF ht0
      have htp : 0 < t.size := by rw [← bl_len]; exact List.length_pos_iff.2 ht0
      by_cases h8 : L.length = M
      · have h8b : ((L.length : Int) == (M : Int)) = true := by rw [beq_iff_eq]; omega
        have hq9 : M < Q.length := by
          have := congrArg List.length HSP.out
          rw [linesT_step ht0, List.length_append, List.length_map, List.length_map, List.length_cons] at this; omega
        clear O HSP
        go_wp2
        go_ret2
        exact .inl ⟨by rw [hQ.out]; exact hq9, _, rfl, LW⟩
      · have h8b : ((L.length : Int) == (M : Int)) = false := by rw [beq_eq_false_iff_ne]; omega
        have hsh := cut_shorter 10 ht0
        rw [bl_len] at hsh
        have hl1 := (cut_fst_len 10 (bl t)).1
        rw [bl_len] at hl1
        have HC := Lib.hid (cut_any t 10 wr (by omega))
        have HSN : Hid (L ++ [tb (Lib.cut (bl t) [10]).1] ++ (linesT (Lib.cut (bl t) [10]).2.1).map tb = Q.map tb) := by
          show _ = _
          rw [← HSP.out, linesT_step ht0]; simp
        obtain ⟨a, ha⟩ : ∃ a, (Lib.cut (bl t) [10]).1 = a := ⟨_, rfl⟩
        obtain ⟨q, hq⟩ : ∃ q, (Lib.cut (bl t) [10]).2.1 = q := ⟨_, rfl⟩
        obtain ⟨f, hf⟩ : ∃ f, (Lib.cut (bl t) [10]).2.2 = f := ⟨_, rfl⟩
        rw [ha, hq] at HSN
        rw [ha, hq, hf] at HC
        rw [ha] at hl1
        rw [hq] at hsh
        obtain ⟨x, hx⟩ : ∃ x, tb a = x := ⟨_, rfl⟩
        rw [hx] at HSN HC
        have hxs : x.size ≤ 1048576 := by rw [← hx, tb_size]; omega
        have hfo : Enc.ok x := by show x.size ≤ 9223372036854775807; omega
        have HL2 : Hid (∀ y ∈ L ++ [x], Enc.ok y) := fun y hy => by
          rcases List.mem_append.1 hy with h | h
          · exact HL.out y h
          · rw [List.mem_singleton.1 h]; exact hfo
        have htbq : (tb q).size = q.length := rfl
        have hL7 : L.length + 1 ≤ M := by omega
        clear ha hq hf ht0 HSP h8 HL hx hl1
        go_wp2_with fail
        refine HC.out.mono ?_
        rintro e w3 ⟨rfl, hle⟩
        replace O := own_le O hle
        replace LW := LW.trans hle
        clear hle HC
        go_wp2_with (first | (at_builtin; refine wpList_append_sl rfl _ _ 66 rfl w.heap.size 9 i0 _ 16 Tryz.underlying66 hi hz0 hz1 hz2 rfl (.slice A' L.length c') L.length L rfl (O.alloc _) _ 1 1 [x] rfl (sl_one x rfl hfo rfl) (by unfold maxLen; omega) (by omega) (LW.alloc _).size ?_; intro v1 w4 O4 hg4 hat4; have L4 := (LW.alloc _).grown hg4 (fun j hj => (O.lt j hj).1); clear hg4 hat4))
        obtain ⟨A5, q5, rfl⟩ := own_form O4
        go_roundw
        case rel => exact ⟨L ++ [x], tb q, A5, q5, by simp; omega, by simp, rfl, HSN.out, by omega, HL2.out, by rw [List.length_append]; exact O4, L4⟩
        case measure => simp [szOf]; omega
end

section
def PpOut (w : World) (xs : List Cls) (s : ByteArray) (e : Ending) (w' : World) : Prop := ∃ v, e = .returned (.tuple #[v, .bool (ppO xs (bl s))]) ∧ Owd 54 w w' v (ppX xs (bl s)) ∧ Le w w'
set_option maxHeartbeats 4000000 in
set_option maxRecDepth 100000 in
theorem iParseProgram_any (B : Option Addr) (m c : Nat) (xs : List Cls) (s : ByteArray) (w : World) (hT : Sl w B m c xs) (hm : m ≤ 1048576) (hs : s.size ≤ 1048576) (hX : LnW w) (hE : ErrW w) (hN : TabW w) :
    Calls Tryz.prog 10 #[.agg #[.slice B m c], .string s] w (PpOut w xs s) := by
  obtain ⟨i0, hi, hz0, hz1, hz2⟩ := info_parts infoLn
  have hmx := hT.n_le
  have hml := hT.len
  obtain ⟨ob, hob⟩ : ∃ ob, Hid (ppO xs (bl s) = ob) := ⟨_, Lib.hid rfl⟩
  obtain ⟨xb, hxb⟩ : ∃ xb, Hid (ppX xs (bl s) = xb) := ⟨_, Lib.hid rfl⟩
  have HV : Hid (vp xs (plI xs (bl s)) = false → ob = false ∧ xb = []) := fun h => by rw [← hob.out, ← hxb.out]; exact pp_v (vP_no h)
  have HB8 : Hid (24 < (linesT (bl s)).length → ob = false ∧ xb = []) := fun h => by rw [← hob.out, ← hxb.out]; exact pp_many h
  have HXX : Hid (pgB xs (plI xs (bl s)) ≠ bl s → ob = false ∧ xb = []) := fun h => by rw [← hob.out, ← hxb.out]; exact pp_text h
  have HGG : Hid (vp xs (plI xs (bl s)) = true → pgB xs (plI xs (bl s)) = bl s → ob = true ∧ xb = plI xs (bl s)) := fun h1 h2 => by rw [← hob.out, ← hxb.out]; exact pp_some (vP_iff.1 h1) h2
  have HPC : Hid (∀ l ∈ linesT (bl s), l.length ≤ 1048576) := fun l hl => by
    have := linI_piece hl
    rw [bl_len] at this; omega
  have hLI : Hid (plI xs (bl s) = (linesT (bl s)).map (pLI xs)) := rfl
  rw [hLI.out] at HV HXX HGG
  clear hLI
  go_enter Tryz.func10, Tryz.ntmps10
  go_wp2_with fail
  obtain ⟨c0, z0, L0⟩ := box1 w (.slice B m c) 25
  have HT := Lib.hid (hT.le L0)
  have HX := Lib.hid (hX.le L0)
  have HE := Lib.hid (hE.le L0)
  have HN := Lib.hid (hN.le L0)
  generalize w.alloc (.cells #[.slice B m c] 25) = W1 at *
  clear hX hE hN hT
  have HCL : Calls Tryz.prog 34 #[.string s, .int .i64 24] W1 (CutOutG 24 W1 s) := cutLinesG_any 24 (by omega) s W1 hs
  refine HCL.mono ?_
  rintro e w2 (⟨h8, v, rfl, hle⟩ | ⟨h8, v, rfl, D, hle⟩)
  · have HB := Lib.hid (HB8.out h8)
    have LF := L0.trans hle
    clear h8 HV HB8 HXX HGG
    go_wp2
    go_ret2
    exact ⟨_, by rw [hob.out, HB.out.1]; rfl, by rw [hxb.out, HB.out.2]; exact Owd.nil _ _ _, LF⟩
  obtain ⟨A1, c1, rfl, S, -⟩ := D.form (by decide)
  have hlm : ((linesT (bl s)).map tb).length = (linesT (bl s)).length := List.length_map ..
  rw [hlm] at S ⊢
  generalize linesT (bl s) = Q at *
  replace c0 := (hle.cell z0).trans c0
  have z2 := Nat.lt_of_lt_of_le z0 hle.size
  replace L0 := L0.trans hle
  have LW1 := hle
  have HC := Lib.hid c0
  have HS := Lib.hid S
  clear D hle HB8 c0 S
  go_wp2
  go_loopw [8, 20] (fun v i wr => ∃ (k : Nat) (A' : Option Addr) (c' : Nat), k ≤ Q.length ∧ i = .int .i64 k ∧ v = .slice A' k c' ∧ wr.ownsRow w2.heap.size 54 4 v k (((Q.take k).map (pLI xs)).flatMap Enc.cells) ∧ Le w2 wr) (fun _ i _ => Q.length - (intOf i).toNat)
  case atStart => exact ⟨0, none, 0, Nat.zero_le _, rfl, rfl, World.ownsRow_nil _ _ _ _, Le.refl _⟩
  case round =>
    obtain ⟨k, A', c', hk, rfl, rfl, O, LR⟩ := hrel
    by_cases hlt : k < Q.length
    · have hki : (k : Int) < Q.length := by omega
      obtain ⟨b, off, rfl, hb, k0⟩ := str_at (HS.out.le LR) (k := k) (by rw [hlm]; exact hlt)
      rw [List.getElem_map] at k0
      have c0 := (LR.cell z2).trans HC.out
      have zt := Nat.lt_of_lt_of_le z2 LR.size
      have hwl := HPC.out Q[k] (List.getElem_mem hlt)
      have hpok := pLI_ok (xs := xs) (l := Q[k]) hwl (by omega)
      have LX := LW1.trans LR
      have HPE := Lib.hid (iparseLine_any B m c xs (tb Q[k]) wr (HT.out.le LX) (by rw [tb_size]; exact hwl) (HX.out.le LX) (HE.out.le LX))
      have e9 : Hid (pLI xs (bl (tb Q[k])) = pLI xs Q[k]) := rfl
      rw [e9.out] at HPE
      have hsn : Hid ((Q.take (k + 1)).map (pLI xs) = (Q.take k).map (pLI xs) ++ [pLI xs Q[k]]) := by show _ = _; rw [List.take_succ_eq_append_getElem hlt, List.map_append]; rfl
      have htl : Hid (((Q.take k).map (pLI xs)).length = k) := by show _ = _; rw [List.length_map, List.length_take]; omega
      obtain ⟨E, hEE⟩ : ∃ E, (Q.take k).map (pLI xs) = E := ⟨_, rfl⟩
      rw [hEE] at O hsn htl
      clear hEE hwl e9 LX
      generalize pLI xs Q[k] = x at *
      generalize tb Q[k] = tq at *
      go_wp2_with fail
      refine HPE.out.mono ?_
      rintro e w3 ⟨rfl, hle⟩
      replace O := own_le O hle
      replace LR := LR.trans hle
      clear hle HPE k0 c0
      go_wp2_with (first | (at_builtin; refine wpList_append_sl rfl _ _ 26 rfl w2.heap.size 54 i0 _ 32 Tryz.underlying26 hi hz0 hz1 hz2 rfl (.slice A' k c') k E rfl (O.alloc _) _ 1 1 [x] rfl (sl_one x rfl hpok rfl) (by unfold maxLen; omega) (by omega) (LR.alloc _).size ?_; intro v2 w4 O4 hg4 hat4; have L4 := (LR.alloc _).grown hg4 (fun j hj => (O.lt j hj).1); clear hg4 hat4))
      obtain ⟨A5, q5, rfl⟩ := own_form O4
      go_roundw
      case rel => exact ⟨k + 1, A5, q5, by omega, by go_num, rfl, by rw [hsn.out]; exact O4, L4⟩
      case measure => simp [intOf]; omega
    · have hki : ¬ (k : Int) < Q.length := by omega
      have hkk : k = Q.length := by omega
      have htk : (Q.take k).map (pLI xs) = Q.map (pLI xs) := by rw [hkk, List.take_length]
      rw [htk] at O
      have hlq : (Q.map (pLI xs)).length = k := by rw [List.length_map]; exact hkk.symm
      have O' : wr.ownsRow w2.heap.size 54 4 (.slice A' (Q.map (pLI xs)).length c') (Q.map (pLI xs)).length ((Q.map (pLI xs)).flatMap Enc.cells) := by rw [hlq]; exact O
      have hok : ∀ x ∈ Q.map (pLI xs), Enc.ok x := fun x hx => by
        obtain ⟨l, hl, rfl⟩ := List.mem_map.1 hx
        exact pLI_ok (HPC.out l hl) (by omega)
      have S := Sl.of_own O' rfl (by decide) hok
      have DO : Owd 54 w wr (.slice A' (Q.map (pLI xs)).length c') (Q.map (pLI xs)) := ⟨own_mono O' L0.size, hok⟩
      rw [hlq] at S DO
      have LL := L0.trans LR
      have LX := LW1.trans LR
      have c0 := (LR.cell z2).trans HC.out
      have zt := Nat.lt_of_lt_of_le z2 LR.size
      clear O O' hok htk hkk HS HC HPC hlm
      generalize Q.map (pLI xs) = R at *
      go_wp2_with fail
      refine (pValidProgram_any B A' m c k c' xs R hm wr (HT.out.le LX) S).mono ?_
      rintro e w5 ⟨rfl, hle⟩
      replace S := S.le hle
      replace DO := DO.le hle
      replace LL := LL.trans hle
      replace LX := LX.trans hle
      replace c0 := (hle.cell zt).trans c0
      replace zt := Nat.lt_of_lt_of_le zt hle.size
      clear hle
      cases hv : vp xs R
      · have HB := Lib.hid (HV.out hv)
        clear hv HV HXX HGG S DO
        go_wp2
        go_ret2
        exact ⟨_, by rw [hob.out, HB.out.1]; rfl, by rw [hxb.out, HB.out.2]; exact Owd.nil _ _ _, LL⟩
      · have HET := Lib.hid (iProgramText_any B A' m c k c' xs R w5 hm (HT.out.le LX) S (HX.out.le LX) (HN.out.le LX))
        have hxt : ptP xs R = tb (pgB xs R) := ptP_of hv
        rw [hxt] at HET
        by_cases hq : pgB xs R = bl s
        · have HG := Lib.hid (HGG.out hv hq)
          have ht : tb (pgB xs R) = s := by rw [hq, tb_bl]
          rw [ht] at HET
          have hb2 : (s.toList == s.toList) = true := by simp
          have hb3 : (s.toList != s.toList) = false := by simp
          clear hv HV HXX HGG hq ht hxt S
          go_wp2_with fail
          refine HET.out.mono ?_
          rintro e w6 ⟨rfl, hle⟩
          have D6 := Lib.hid (DO.le hle)
          have L6 := LL.trans hle
          clear DO hle HET c0
          go_wp2
          go_ret2
          exact ⟨_, by rw [hob.out, HG.out.1]; rfl, by rw [hxb.out, HG.out.2]; exact D6.out, L6⟩
        · have HB := Lib.hid (HXX.out hq)
          have hne : tb (pgB xs R) ≠ s := fun e => hq (by rw [← e, bl_tb])
          have hb2 : ((tb (pgB xs R)).toList == s.toList) = false := str_ne hne
          have hb3 : ((tb (pgB xs R)).toList != s.toList) = true := by simp only [bne, hb2]; rfl
          generalize tb (pgB xs R) = ty at *
          clear hv HV HXX HGG hq hne hxt S
          go_wp2_with fail
          refine HET.out.mono ?_
          rintro e w6 ⟨rfl, hle⟩
          have L6 := LL.trans hle
          clear DO hle HET c0
          go_wp2
          go_ret2
          exact ⟨_, by rw [hob.out, HB.out.1]; rfl, by rw [hxb.out, HB.out.2]; exact Owd.nil _ _ _, L6⟩
end

section
theorem owd_grB {α : Type} [Enc α] {T : TypeId} {w0 w w' : World} {v : Value} {xs : List α} {S : Nat → Prop} (h : Owd T w0 w v xs) (hg : GrB S w w') (hS : ∀ k, w0.heap.size ≤ k → k < w.heap.size → ¬ S k) : Owd T w0 w' v xs :=
  ⟨own_grB h.row hg (fun k e => hS k (h.row.lt k e).1 (h.row.lt k e).2), h.ok⟩
def psR (xs : List Cls) (R : List Lin) (s : List UInt8) : Bool := vp xs R && decide (pgB xs R = s)
def PsOut (w : World) (xs : List Cls) (s : ByteArray) (e : Ending) (w' : World) : Prop := ∃ v, e = .returned (.tuple #[v, .bool (psR xs (plS xs (bl s)) (bl s))]) ∧ Owd 54 w w' v (plS xs (bl s)) ∧ Le w w'
theorem ps_yes {xs : List Cls} {s : List UInt8} (h : psR xs (plS xs s) s = true) : ppO xs s = true ∧ ppX xs s = plS xs s := by
  unfold psR at h
  rw [Bool.and_eq_true, decide_eq_true_eq] at h
  exact pp_some (vP_iff.1 h.1) h.2
theorem ps_no {xs : List Cls} {s : List UInt8} (h : psR xs (plS xs s) s = false) : ppO xs s = false ∧ ppX xs s = [] := by
  unfold psR at h
  rw [Bool.and_eq_false_iff, decide_eq_false_iff_not] at h
  rcases h with h | h
  · exact pps_v (vP_no h)
  · exact pps_text h
set_option maxHeartbeats 4000000 in
set_option maxRecDepth 100000 in
theorem sparseProgram_any (B : Option Addr) (m c : Nat) (xs : List Cls) (s : ByteArray) (w : World) (hT : Sl w B m c xs) (hs : s.size ≤ 1048576) :
    Calls Tryz.prog 41 #[.agg #[.slice B m c], .string s] w (PsOut w xs s) := by
  obtain ⟨i0, hi, hz0, hz1, hz2⟩ := info_parts infoLn
  have hmx := hT.n_le
  have hml := hT.len
  have hLI : Hid (plS xs (bl s) = ((splitL 10 (bl s)).take ((splitL 10 (bl s)).length - 1)).map (pLS xs)) := rfl
  have HPC : Hid (∀ x ∈ splitL 10 (bl s), x.length ≤ 1048576) := fun x hx => by
    have := splitL_len2 10 (bl s) x hx
    rw [bl_len] at this; omega
  have hPL : (splitL 10 (bl s)).length ≤ 1048577 := by
    have h1 := splitL_len 10 (bl s)
    have h2 := List.count_le_length (a := (10 : UInt8)) (l := bl s)
    rw [bl_len] at h2; omega
  have hp0 : 0 < (splitL 10 (bl s)).length := List.length_pos_iff.2 (splitL_ne 10 _)
  have HSPL := Lib.hid (fun W => splitAt_any s 10 W hs)
  generalize splitL 10 (bl s) = Q at *
  go_enter Tryz.func41, Tryz.ntmps41
  go_wp2_with fail
  obtain ⟨c0, z0, L0⟩ := box1 w (.slice B m c) 25
  have HT := Lib.hid (hT.le L0)
  have hW1s : (w.alloc (.cells #[.slice B m c] 25)).heap.size = w.heap.size + 1 := by simp
  generalize w.alloc (.cells #[.slice B m c] 25) = W1 at *
  rw [← hW1s]
  clear hW1s
  clear hT
  have hle : Le W1 W1 := Le.refl W1
  have O1 := own_empty (w := W1) (base := W1.heap.size) (g := W1.heap.size) (e := 54) (size := 4) (Nat.le_refl _) rfl
  have L1 := Le.new W1 (.cells #[] 54)
  have hsz1 : Hid ((W1.alloc (.cells #[] 54)).heap.size = W1.heap.size + 1) := by show _ = _; simp
  have HW1 := Lib.hid hle.size
  generalize W1.alloc (.cells #[] 54) = W2 at *
  refine (HSPL.out W2).mono ?_
  rintro e w3 ⟨v1, rfl, D, hle2⟩
  replace O1 := own_le O1 hle2
  have LA : Le W1 w3 := (hle.trans L1).trans hle2
  have z1 : Hid (W1.heap.size + 1 ≤ w3.heap.size) := by show _ ≤ _; have := hsz1.out; have := hle2.size; omega
  obtain ⟨A1, c1, rfl, -, -⟩ := D.form (by decide)
  have hlm : (Q.map tb).length = Q.length := List.length_map ..
  rw [hlm] at D ⊢
  have HC := Lib.hid c0
  clear hle hle2 L1 HSPL c0
  go_wp2
  go_loopw [6, 8] (fun v i wr => ∃ (k : Nat) (A' : Option Addr) (c' : Nat), k + 1 ≤ Q.length ∧ i = .int .i64 k ∧ v = .slice A' k c' ∧ wr.ownsRow W1.heap.size 54 4 v k (((Q.take k).map (pLS xs)).flatMap Enc.cells) ∧
      (∀ q, v.ownBlock = some q → q = W1.heap.size ∨ w3.heap.size ≤ q) ∧ GrB (fun k => k = W1.heap.size ∨ w3.heap.size ≤ k) w3 wr) (fun _ i _ => Q.length - (intOf i).toNat)
  case atStart => exact ⟨0, some ⟨W1.heap.size, 0, none⟩, 0, hp0, rfl, rfl, O1, fun q e => .inl (by simp [Value.ownBlock] at e; omega), GrB.refl _ _⟩
  case round =>
    obtain ⟨k, A', c', hk, rfl, rfl, O, hob2, GB⟩ := hrel
    have LX : Le W1 wr := LA.grB GB (fun k h => by have := z1.out; have := HW1.out; rcases h with h | h <;> omega)
    have hwk : IntKind.i64.wrap ((k : Int) + 1) = (k : Int) + 1 := IntWalk.i64_in _ (by omega)
    by_cases hlt : k + 1 < Q.length
    · have hki : (k : Int) + 1 < Q.length := by omega
      have hki2 : (k : Int) < Q.length := by omega
      have hDr := owd_grB D GB (fun k h1 h2 h3 => by have := hsz1.out; rcases h3 with h3 | h3 <;> omega)
      obtain ⟨A'', c'', e', S, -⟩ := hDr.form (by decide)
      injection e' with e1 e2 e3
      subst e1
      subst e3
      clear e2 hDr
      obtain ⟨b, off, rfl, hb, k0⟩ := str_at S (k := k) (by rw [hlm]; omega)
      rw [List.getElem_map] at k0
      have hwl := HPC.out (Q[k]'(by omega)) (List.getElem_mem (by omega))
      have hpok := pLS_ok (xs := xs) (l := Q[k]'(by omega)) hwl (by omega)
      have hsn : Hid ((Q.take (k + 1)).map (pLS xs) = (Q.take k).map (pLS xs) ++ [pLS xs (Q[k]'(by omega))]) := by show _ = _; rw [List.take_succ_eq_append_getElem (by omega), List.map_append]; rfl
      have htl : Hid (((Q.take k).map (pLS xs)).length = k) := by show _ = _; rw [List.length_map, List.length_take]; omega
      have HPE : Hid (∀ W', Le W1 W' → Calls Tryz.prog 80 #[.agg #[.slice B m c], .string (tb (Q[k]'(by omega)))] W' fun e w' => e = .returned (.agg #[.int .i64 (pLS xs (Q[k]'(by omega))).depth, .int .i64 (pLS xs (Q[k]'(by omega))).kind, .int .i64 (pLS xs (Q[k]'(by omega))).a, .int .i64 (pLS xs (Q[k]'(by omega))).b]) ∧ Le W' w') := fun W' h => sparseLine_any B m c xs (tb (Q[k]'(by omega))) W' (HT.out.le h) (by rw [tb_size]; exact hwl)
      obtain ⟨E, hEE⟩ : ∃ E, (Q.take k).map (pLS xs) = E := ⟨_, rfl⟩
      rw [hEE] at O hsn htl
      clear hEE hwl S
      generalize pLS xs (Q[k]'(by omega)) = x at *
      generalize tb (Q[k]'(by omega)) = tq at *
      have c0 := (LX.cell z0).trans HC.out
      have d0 : wr.drew.cell? ⟨w.heap.size, 0, none⟩ = some (.slice B m c) := c0
      have d1 : wr.drew.cell? ⟨b, off + k, none⟩ = some (.string tq) := k0
      have Od : wr.drew.ownsRow W1.heap.size 54 4 (.slice A' k c') k (E.flatMap Enc.cells) := own_le O (Le.refl wr).drew
      have GBd := GB.trans (GrB.of_le (Le.refl wr).drew)
      have LXd : Le W1 wr.drew := LX.trans (Le.refl wr).drew
      have hb' : b < wr.drew.heap.size := hb
      have hz' : w.heap.size < wr.drew.heap.size := Nat.lt_of_lt_of_le z0 LX.size
      clear O GB LX k0 c0 hb
      go_wp2_with fail
      refine wp_region_Z (fun w' => w'.cell? ⟨w.heap.size, 0, none⟩ = some (.slice B m c) ∧ w'.cell? ⟨b, off + k, none⟩ = some (.string tq)) [8, 9] (by kernel_rfl) ?_
      generalize wr.drew = WD at *
      refine wpAnyZ_take (i := 0) (v := ?_) rfl (by kernel_rfl) (fun _ _ _ h => h) (Or.inl ⟨by rfl, ?_⟩) (⟨d0, d1⟩) ?_
      rotate_left 1
      · (intro w hSw; (try dsimp only at hSw); go_simp; try with_reducible rfl)
      try simp only [Act.put, List.setIfInBounds_toArray, List.set_cons_zero, List.set_cons_succ]
      refine wpAnyZ_take (i := 1) (v := ?_) rfl (by kernel_rfl) (fun _ _ _ h => h) (Or.inl ⟨by rfl, ?_⟩) (⟨d0, d1⟩) ?_
      rotate_left 1
      · (intro w hSw; (try dsimp only at hSw); go_simp; try with_reducible rfl)
      try simp only [Act.put, List.setIfInBounds_toArray, List.set_cons_zero, List.set_cons_succ]
      refine wpAnyZ_take (i := 2) (v := ?_) rfl (by kernel_rfl) (fun _ _ _ h => h) (Or.inl ⟨by rfl, ?_⟩) (⟨d0, d1⟩) ?_
      rotate_left 1
      · (intro w hSw; (try dsimp only at hSw); go_simp; try with_reducible rfl)
      try simp only [Act.put, List.setIfInBounds_toArray, List.set_cons_zero, List.set_cons_succ]
      refine wpAnyZ_take (i := 3) (v := ?_) rfl (by kernel_rfl) (fun _ _ _ h => h) (Or.inl ⟨by rfl, ?_⟩) (⟨d0, d1⟩) ?_
      rotate_left 1
      · (intro w hSw; (try dsimp only at hSw); go_simp; try with_reducible rfl)
      try simp only [Act.put, List.setIfInBounds_toArray, List.set_cons_zero, List.set_cons_succ]
      refine wpAnyZ_take (i := 4) (v := ?_) rfl (by kernel_rfl) (fun _ _ _ h => h) (Or.inl ⟨by rfl, ?_⟩) (⟨d0, d1⟩) ?_
      rotate_left 1
      · (intro w hSw; (try dsimp only at hSw); go_simp; try with_reducible rfl)
      try simp only [Act.put, List.setIfInBounds_toArray, List.set_cons_zero, List.set_cons_succ]
      refine wpAnyZ_take (i := 5) (v := ?_) rfl (by kernel_rfl) (fun _ _ _ h => h) (Or.inl ⟨by rfl, ?_⟩) (⟨d0, d1⟩) ?_
      rotate_left 1
      · (intro w hSw; (try dsimp only at hSw); go_simp; try with_reducible rfl)
      try simp only [Act.put, List.setIfInBounds_toArray, List.set_cons_zero, List.set_cons_succ]
      refine wpAnyZ_one (i := 6) (by kernel_rfl) (ReadyZ.mk rfl (fun K hK => ?_))
      go_simp
      go_at_call 80
      refine (HPE.out WD LXd).mono ?_
      rintro e w5 ⟨rfl, hle⟩
      have O5 := own_le Od hle
      have GB5 := GBd.trans (GrB.of_le hle)
      have L5 := LXd.trans hle
      have d0' := (hle.cell hz').trans d0
      have d1' := (hle.cell hb').trans d1
      have hz5 := Nat.lt_of_lt_of_le hz' hle.size
      have hb5 := Nat.lt_of_lt_of_le hb' hle.size
      clear hle Od GBd LXd d0 d1
      dsimp only
      refine hK.out _ _ (fun _ => ⟨d0', d1'⟩) ?_
      clear hK K
      try simp only [Act.put, List.setIfInBounds_toArray, List.set_cons_zero, List.set_cons_succ]
      refine wpAnyZ_one (i := 7) (by kernel_rfl) (ReadyZ.mk rfl (fun K hK => ?_))
      go_simp
      have LN := Le.new w5 (.cells #[.int .i64 x.depth, .int .i64 x.kind, .int .i64 x.a, .int .i64 x.b] 54)
      refine hK.out _ _ (fun _ => ⟨(LN.cell hz5).trans d0', (LN.cell hb5).trans d1'⟩) ?_
      clear hK K
      try simp only [Act.put, List.setIfInBounds_toArray, List.set_cons_zero, List.set_cons_succ]
      refine wpAnyZ_one (i := 8) (by kernel_rfl) (ReadyZ.mk rfl (fun K hK => ?_))
      refine step_append_sl rfl (.tmp 19) (.tmp 26) 26 rfl W1.heap.size 54 i0 _ 32 Tryz.underlying26 hi hz0 hz1 hz2 rfl (.slice A' k c') k E rfl (own_le O5 LN) (some ⟨w5.heap.size, 0, none⟩) 1 1 [x] rfl (sl_one x rfl hpok rfl) (by unfold maxLen; omega) (by omega) (by have := LN.size; have := L5.size; have := z1.out; have := GB5.size; omega) ?_
      intro v2 w4 O4 hg4 hat4
      have GB4 := (GB5.trans (GrB.of_le LN)).trans (GrB.of_grown hg4 (fun k e => hob2 k e))
      have hob4 : ∀ q, v2.ownBlock = some q → q = W1.heap.size ∨ w3.heap.size ≤ q := fun q e => by
        rcases hat4 with h | h
        · exact hob2 q (h ▸ e)
        · rw [h] at e; injection e with e; have h9 := GB5.size; have h10 := LN.size; exact .inr (by omega)
      clear hg4 hat4 LN O5 GB5 d0' d1'
      refine hK.out _ _ (fun h => absurd h (by decide)) ?_
      clear hK K
      try simp only [Act.put, List.setIfInBounds_toArray, List.set_cons_zero, List.set_cons_succ]
      refine wpAnyZ_one (i := 9) (by kernel_rfl) (ReadyZ.mk rfl (fun K hK => ?_))
      go_simp
      refine hK.out _ _ (fun h => absurd h (by decide)) ?_
      clear hK K
      try simp only [Act.put, List.setIfInBounds_toArray, List.set_cons_zero, List.set_cons_succ]
      refine wpAnyZ_done (by kernel_rfl) ?_ _
      obtain ⟨A5, q5, rfl⟩ := own_form O4
      go_wp2
      go_roundw
      case rel => exact ⟨k + 1, A5, q5, by omega, by go_num, rfl, by rw [hsn.out]; exact O4, hob4, GB4⟩
      case measure => simp [intOf]; omega
    · have hki : ¬ (k : Int) + 1 < Q.length := by omega
      have hkk : k = Q.length - 1 := by omega
      rw [hkk] at O
      rw [← hkk] at O hLI
      have hlq : ((Q.take k).map (pLS xs)).length = k := by rw [List.length_map, List.length_take]; omega
      have O' : wr.ownsRow W1.heap.size 54 4 (.slice A' ((Q.take k).map (pLS xs)).length c') ((Q.take k).map (pLS xs)).length (((Q.take k).map (pLS xs)).flatMap Enc.cells) := by rw [hlq]; exact O
      have hok : ∀ x ∈ (Q.take k).map (pLS xs), Enc.ok x := fun x hx => by
        obtain ⟨l, hl, rfl⟩ := List.mem_map.1 hx
        exact pLS_ok (HPC.out l (List.mem_of_mem_take hl)) (by omega)
      have S := Sl.of_own O' rfl (by decide) hok
      have DO : Owd 54 w wr (.slice A' ((Q.take k).map (pLS xs)).length c') ((Q.take k).map (pLS xs)) := ⟨own_mono O' (by have := HW1.out; have := L0.size; omega), hok⟩
      rw [hlq] at S DO
      have LL := L0.trans LX
      have c0 := (LX.cell z0).trans HC.out
      have zt := Nat.lt_of_lt_of_le z0 LX.size
      have hkb : k ≤ 1048576 := by omega
      clear O O' hok hkk HC HPC hlm GB D
      generalize (Q.take k).map (pLS xs) = R at *
      go_wp2_with fail
      refine (svalidProgram_any B A' m c k c' xs R (by have := S.len; omega) wr (HT.out.le LX) S).mono ?_
      rintro e w5 ⟨rfl, hle⟩
      replace S := S.le hle
      replace DO := DO.le hle
      replace LL := LL.trans hle
      replace LX := LX.trans hle
      replace c0 := (hle.cell zt).trans c0
      replace zt := Nat.lt_of_lt_of_le zt hle.size
      clear hle
      have HPO : Hid (psR xs R (bl s) = (vp xs R && decide (pgB xs R = bl s))) := rfl
      cases hv : vp xs R
      · have HB : Hid (psR xs R (bl s) = false) := by show _ = _; rw [HPO.out, hv]; rfl
        have HD := Lib.hid DO
        clear hv S DO HPO
        go_wp2
        go_ret2
        exact ⟨_, by rw [hLI.out, HB.out]; rfl, by rw [hLI.out]; exact HD.out, LL⟩
      · have HET := Lib.hid (sprogramText_any B A' m c k c' xs R w5 (HT.out.le LX) S hv)
        by_cases hq : pgB xs R = bl s
        · have HB : Hid (psR xs R (bl s) = true) := by show _ = _; rw [HPO.out, hv, decide_eq_true hq]; rfl
          have ht : tb (pgB xs R) = s := by rw [hq, tb_bl]
          rw [ht] at HET
          have hb2 : (s.toList == s.toList) = true := by simp
          clear hv hq ht S HPO
          go_wp2_with fail
          refine HET.out.mono ?_
          rintro e w6 ⟨rfl, hle⟩
          have D6 := Lib.hid (DO.le hle)
          have L6 := LL.trans hle
          clear DO hle HET c0
          go_wp2
          go_ret2
          exact ⟨_, by rw [hLI.out, HB.out]; rfl, by rw [hLI.out]; exact D6.out, L6⟩
        · have HB : Hid (psR xs R (bl s) = false) := by show _ = _; rw [HPO.out, hv, decide_eq_false hq]; rfl
          have hne : tb (pgB xs R) ≠ s := fun e => hq (by rw [← e, bl_tb])
          have hb2 : ((tb (pgB xs R)).toList == s.toList) = false := str_ne hne
          generalize tb (pgB xs R) = ty at *
          clear hv hq hne S HPO
          go_wp2_with fail
          refine HET.out.mono ?_
          rintro e w6 ⟨rfl, hle⟩
          have D6 := Lib.hid (DO.le hle)
          have L6 := LL.trans hle
          clear DO hle HET c0
          go_wp2
          go_ret2
          exact ⟨_, by rw [hLI.out, HB.out]; rfl, by rw [hLI.out]; exact D6.out, L6⟩
set_option maxHeartbeats 2000000 in
set_option maxRecDepth 100000 in
theorem sParseProgram_any (B : Option Addr) (m c : Nat) (xs : List Cls) (s : ByteArray) (w : World) (hT : Sl w B m c xs) (hs : s.size ≤ 1048576) :
    Calls Tryz.prog 14 #[.agg #[.slice B m c], .string s] w (PpOut w xs s) := by
  obtain ⟨ob, hob⟩ : ∃ ob, Hid (ppO xs (bl s) = ob) := ⟨_, Lib.hid rfl⟩
  obtain ⟨xb, hxb⟩ : ∃ xb, Hid (ppX xs (bl s) = xb) := ⟨_, Lib.hid rfl⟩
  have HTR : Hid (okTree xs = false → ob = false ∧ xb = []) := fun h => by rw [← hob.out, ← hxb.out]; exact pps_tree h
  have HY : Hid (psR xs (plS xs (bl s)) (bl s) = true → ob = true ∧ xb = plS xs (bl s)) := fun h => by rw [← hob.out, ← hxb.out]; exact ps_yes h
  have HNO : Hid (psR xs (plS xs (bl s)) (bl s) = false → ob = false ∧ xb = []) := fun h => by rw [← hob.out, ← hxb.out]; exact ps_no h
  have HPP : Hid (∀ W, Sl W B m c xs → Calls Tryz.prog 41 #[.agg #[.slice B m c], .string s] W (PsOut W xs s)) := fun W h => sparseProgram_any B m c xs s W h hs
  unfold PsOut at HPP
  generalize psR xs (plS xs (bl s)) (bl s) = q at *
  generalize plS xs (bl s) = R at *
  go_enter Tryz.func14, Tryz.ntmps14
  go_wp2_with fail
  obtain ⟨c0, z0, L0⟩ := box1 w (.slice B m c) 25
  have ST := hT.le L0
  generalize w.alloc (.cells #[.slice B m c] 25) = W1 at *
  clear hT
  refine (validTree_any B m c xs W1 ST).mono ?_
  rintro e w1 ⟨rfl, hle⟩
  replace c0 := (hle.cell z0).trans c0
  replace z0 := Nat.lt_of_lt_of_le z0 hle.size
  replace L0 := L0.trans hle
  replace ST := ST.le hle
  clear hle
  cases ho : okTree xs
  · have HB := Lib.hid (HTR.out ho)
    clear ho HTR HY HNO HPP
    go_wp2
    go_ret2
    exact ⟨_, by rw [hob.out, HB.out.1]; rfl, by rw [hxb.out, HB.out.2]; exact Owd.nil _ _ _, L0⟩
  clear ho HTR
  go_wp2_with fail
  refine (HPP.out w1 ST).mono ?_
  rintro e w2 ⟨v, rfl, D, hle⟩
  have LF := Lib.hid (L0.trans hle)
  cases q
  · have HB := Lib.hid (HNO.out rfl)
    clear HNO HY HPP D hle c0 ST L0
    go_wp2
    go_ret2
    exact ⟨_, by rw [hob.out, HB.out.1]; rfl, by rw [hxb.out, HB.out.2]; exact Owd.nil _ _ _, LF.out⟩
  · have HB := Lib.hid (HY.out rfl)
    have HD := Lib.hid (D.mono L0)
    clear HNO HY HPP D hle c0 ST L0
    go_wp2
    go_ret2
    exact ⟨_, by rw [hob.out, HB.out.1]; rfl, by rw [hxb.out, HB.out.2]; exact HD.out, LF.out⟩
end

section
set_option maxRecDepth 100000 in
theorem equalLines_self (A B : Option Addr) (n c d : Nat) (xs : List Lin) (w : World) (hR : Sl w A n c xs) (hS : Sl w B n d xs) :
    Calls Tryz.prog 11 #[.slice A n c, .slice B n d] w fun e w' => e = .returned (.bool true) ∧ Le w w' := by
  obtain rfl := hR.len
  have hm := hR.n_le
  have hb : ((xs.length : Int) != (xs.length : Int)) = false := by simp
  go_enter Tryz.func11, Tryz.ntmps11
  go_wp2
  go_loopw [5] (fun i wr => ∃ k : Nat, k ≤ xs.length ∧ i = .int .i64 k ∧ Le w wr) (fun i _ => xs.length - (intOf i).toNat)
  case atStart => exact ⟨0, Nat.zero_le _, rfl, Le.refl _⟩
  case round =>
    obtain ⟨k, hk, rfl, hle⟩ := hrel
    have hRr := hR.le hle
    have hSr := hS.le hle
    clear hR hS
    by_cases hlt : k < xs.length
    · obtain ⟨b, off, rfl, hb, hcell0, hcell1, hcell2, hcell3, _⟩ := hRr.lin_at hlt
      obtain ⟨b2, off2, rfl, hb2, hdell0, hdell1, hdell2, hdell3, _⟩ := hSr.lin_at hlt
      have E0 := cell_ext hb hcell0
      have F0 := cell_ext hb2 hdell0
      have E1 := cell_ext hb hcell1
      have F1 := cell_ext hb2 hdell1
      have E2 := cell_ext hb hcell2
      have F2 := cell_ext hb2 hdell2
      have E3 := cell_ext hb hcell3
      have F3 := cell_ext hb2 hdell3
      have q0 : (xs[k].kind == xs[k].kind) = true := by simp
      have q3 : (xs[k].depth == xs[k].depth) = true := by simp
      have q1 : (xs[k].a == xs[k].a) = true := by simp
      have q2 : (xs[k].b == xs[k].b) = true := by simp
      go_wp2_with fail
      refine wp_region_ext (by kernel_rfl) (by kernel_rfl) ?_
      repeat (go_big_quiet_step (fail))
      refine wpQuiet_nil ?_
      intro _ hw'
      obtain ⟨g, rfl⟩ := hw'
      have hw1 := Le.ext wr g
      generalize wr.ext g = W2 at *
      go_wp2
      go_roundw
      case rel => exact ⟨k + 1, by omega, by go_num, hle.trans hw1⟩
      case measure => simp [intOf]; omega
    · go_wp2
      go_ret
      exact ⟨rfl, hle⟩
end

section
end

section
theorem count_step {s : ByteArray} {k : Nat} (h : k < s.size) (c : UInt8) : ((bl s).take (k + 1)).count c = ((bl s).take k).count c + (if s[k] = c then 1 else 0) := by
  have h' : k < (bl s).length := by rw [bl_len]; exact h
  rw [List.take_succ_eq_append_getElem h', List.count_append]
  have h3 : List.count c [(bl s)[k]] = if s[k] = c then 1 else 0 := by
    by_cases hc : s[k] = c
    · rw [show (bl s)[k] = c from hc, if_pos hc]; simp
    · rw [if_neg hc]; exact List.count_eq_zero_of_not_mem (by simp; exact fun e => hc e.symm)
  rw [h3]
  rfl
set_option maxRecDepth 100000 in
theorem newlines_any (s : ByteArray) (w : World) (hs : s.size ≤ 1048576) : Calls Tryz.prog 12 #[.string s] w fun e w' => e = .returned (.int .i64 ((bl s).count 10 : Nat)) ∧ Le w w' := by
  go_enter Tryz.func12, Tryz.ntmps12
  go_wp2
  go_loopw [3, 4] (fun v i wr => ∃ k : Nat, k ≤ s.size ∧ i = .int .i64 k ∧ v = .int .i64 (((bl s).take k).count 10 : Nat) ∧ w = wr) (fun _ i _ => s.size - (intOf i).toNat)
  case atStart => exact ⟨0, Nat.zero_le _, rfl, rfl, by first | trivial | rfl⟩
  case round =>
    obtain ⟨k, hk, rfl, rfl, rfl⟩ := hrel
    by_cases hlt : k < s.size
    · have hc : 0 ≤ (s[k].toNat : Int) ∧ (s[k].toNat : Int) ≤ 255 := by have := UInt8.toNat_lt s[k]; omega
      have hst := count_step hlt 10
      have hle : ((bl s).take k).count 10 ≤ k := by
        have := List.count_le_length (a := (10 : UInt8)) (l := (bl s).take k)
        rw [List.length_take] at this; omega
      have hkl : (k : Int) < (s.size : Int) := by omega
      by_cases h10 : s[k] = 10
      · rw [if_pos h10] at hst
        have hb : ((s[k].toNat : Int) == 10) = true := by rw [h10]; rfl
        have HK := Lib.hid hst
        clear hst h10
        generalize ((bl s).take k).count 10 = u at *
        go_wp2
        go_roundw
        case rel => exact ⟨k + 1, by omega, by go_num, by rw [HK.out]; go_num, by first | trivial | rfl⟩
        case measure => (simp [intOf]) <;> omega
      · rw [if_neg h10] at hst
        have hb : ((s[k].toNat : Int) == 10) = false := by
          rw [beq_eq_false_iff_ne]; intro e; exact h10 (UInt8.toNat_inj.1 (by show s[k].toNat = 10; omega))
        have HK := Lib.hid hst
        clear hst h10
        go_wp2
        go_roundw
        case rel => exact ⟨k + 1, by omega, by go_num, by rw [HK.out]; rfl, by first | trivial | rfl⟩
        case measure => (simp [intOf]) <;> omega
    · have hkl : ¬ (k : Int) < (s.size : Int) := by omega
      have HE : Hid ((bl s).take k = bl s) := List.take_of_length_le (by rw [bl_len]; omega)
      go_wp2
      go_ret
      exact ⟨by show Ending.returned (.int .i64 (((bl s).take k).count 10 : Nat)) = _; rw [HE.out], Le.refl _⟩
end
end Go.Proofs.YtkcnjoikdalgjaaGreatDoor
