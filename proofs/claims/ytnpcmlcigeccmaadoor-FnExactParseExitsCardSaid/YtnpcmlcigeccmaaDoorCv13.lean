/- one text of XkG, XkH, LX, LD, Nwl, LyX -/
import Derived.Test.YtnpcmlcigeccmaaDoorCv11
import Derived.Test.YtnpcmlcigeccmaaDoorCv12
import Derived.Test.YtnpcmlcigeccmaaDoorCv4
import Derived.Test.YtnpcmlcigeccmaaDoorRows
import Derived.Test.YtnpcmlcigeccmaaDoorCv1
import Derived.Test.YtnpcmlcigeccmaaDoorCv2
import Derived.Test.YtnpcmlcigeccmaaDoorCv8
import Derived.Test.YtnpcmlcigeccmaaDoorCv10
import Derived.RegionTactic
import Derived.ChangeVars
import Derived.LaidLaws
import Derived.LaidHandle
namespace Go.Proofs.YtnpcmlcigeccmaaDoor
open Go.RowKit
set_option linter.unusedVariables false
section
theorem indexLit (s : ByteArray) (w : World) : Calls Tryd.prog 71 #[.slice (some ⟨w.heap.size, 0, none⟩) 4 4, .string s] (w.alloc (.cells #[.string ⟨#[99, 97, 108, 108]⟩, .string ⟨#[116, 101, 108, 108]⟩, .string ⟨#[99, 97, 116, 99, 104]⟩, .string ⟨#[114, 97, 105, 115, 101]⟩] 9)) fun e w' => e = .returned (.int .i64 (xkW (bl s))) ∧ w.alloc (.cells #[.string ⟨#[99, 97, 108, 108]⟩, .string ⟨#[116, 101, 108, 108]⟩, .string ⟨#[99, 97, 116, 99, 104]⟩, .string ⟨#[114, 97, 105, 115, 101]⟩] 9) = w' :=
  indexText_any w.heap.size s _ (by refine ⟨?_, ?_, ?_, ?_⟩ <;> (rw [World.cell?_alloc_at _ _ _ _ rfl]; rfl))
theorem pXS_eq (xs : List Cls) (l : List UInt8) : pXS xs l = ⟨xkW (atW (splitL 32 l) 0), if 1 < (splitL 32 l).length ∧ 2 ≤ xkW (atW (splitL 32 l) 0) then findN xs (tb (atW (splitL 32 l) 1)) 0 else if 1 < (splitL 32 l).length then rdN 100 (atW (splitL 32 l) 1) else -1, if 2 < (splitL 32 l).length then rdN 100 (atW (splitL 32 l) 2) else 0⟩ := rfl
set_option linter.unusedSimpArgs false in
set_option maxHeartbeats 4000000 in
set_option maxRecDepth 100000 in
theorem sparseExit_any (B : Option Addr) (m c : Nat) (xs : List Cls) (s : ByteArray) (w : World) (hT : Sl w B m c xs) (hs : s.size ≤ 1048576) :
    Calls Tryd.prog 42 #[.agg #[.slice B m c], .string s] w (XitO (pXS xs (bl s)) w) := by
  obtain ⟨z, hz⟩ : ∃ z, Hid (pXS xs (bl s) = z) := ⟨_, Lib.hid rfl⟩
  have PZ := Lib.hid (pXS_eq xs (bl s))
  rw [hz.out] at PZ
  have HPC : Hid (∀ x ∈ splitL 32 (bl s), x.length ≤ 1048576) := fun x hx => by
    have := splitL_len2 32 (bl s) x hx
    rw [bl_len] at this; omega
  have hwl : (splitL 32 (bl s)).length ≤ 1048577 := by
    have h1 := splitL_len 32 (bl s)
    have h2 := List.count_le_length (a := (32 : UInt8)) (l := bl s)
    rw [bl_len] at h2; omega
  have hp0 : 0 < (splitL 32 (bl s)).length := List.length_pos_iff.2 (splitL_ne 32 _)
  have HPH := Lib.hid (fun W => splitAt_any s 32 W hs)
  generalize splitL 32 (bl s) = W at *
  have ekb : Hid (xkW (bl (tb (atW W 0))) = xkW (atW W 0)) := rfl
  have HR1 : Hid (∀ W', Calls Tryd.prog 72 #[.string (tb (atW W 1))] W' fun e w' => e = .returned (.int .i64 (rdN 100 (atW W 1))) ∧ W' = w') := fun W' => readNumber_any (tb (atW W 1)) W' (by rw [tb_size]; exact atW_len HPC.out)
  have HR2 : Hid (∀ W', Calls Tryd.prog 72 #[.string (tb (atW W 2))] W' fun e w' => e = .returned (.int .i64 (rdN 100 (atW W 2))) ∧ W' = w') := fun W' => readNumber_any (tb (atW W 2)) W' (by rw [tb_size]; exact atW_len HPC.out)
  go_enter Tryd.func42, Tryd.ntmps42
  go_wp2_with fail
  obtain ⟨ct, zt, -, -, -, zx, L0⟩ := boxTX w (.slice B m c) (.int .i64 0) (.int .i64 0) (.int .i64 0) 25 58
  have RA : XitAt ((w.alloc (.cells #[.slice B m c] 25)).alloc (.cells #[.int .i64 0, .int .i64 0, .int .i64 0] 58)) (w.heap.size + 1) ⟨0, 0, 0⟩ := by
    have h := xitAt_new (w.alloc (.cells #[.slice B m c] 25)) 0 0 0 58
    have e : (w.alloc (.cells #[.slice B m c] 25)).heap.size = w.heap.size + 1 := by simp
    rw [e] at h; exact h
  generalize (w.alloc (.cells #[.slice B m c] 25)).alloc _ = W0 at *
  refine (HPH.out W0).mono ?_
  rintro e w1 ⟨v, rfl, D, hle⟩
  obtain ⟨A1, c1, rfl, S, -⟩ := D.form (by decide)
  have hlm : (W.map tb).length = W.length := List.length_map ..
  obtain ⟨b1, o1, rfl, hb1, k0⟩ := str_at S (k := 0) (by rw [hlm]; exact hp0)
  have HKW : Hid (∀ (i : Nat) (h : i < W.length) W', Le w1 W' → W'.cell? ⟨b1, o1 + i, none⟩ = some (.string (tb (atW W i)))) := fun i h W' hl => by
    obtain ⟨b2, o2, e2, hb2, k2⟩ := str_at S (k := i) (by rw [hlm]; exact h)
    simp only [Option.some.injEq, Addr.mk.injEq, and_true] at e2
    obtain ⟨rfl, rfl⟩ := e2
    rw [(hl.cell hb2).trans k2, List.getElem_map, atW_at h]
  rw [hlm] at S ⊢
  replace RA := RA.le hle
  replace ct := (hle.cell zt).trans ct
  replace zt := Nat.lt_of_lt_of_le zt hle.size
  replace L0 := L0.trans hle
  clear D hle zx HPH k0 S hlm
  have LL := Le.new w1 (.cells #[.string ⟨#[99, 97, 108, 108]⟩, .string ⟨#[116, 101, 108, 108]⟩, .string ⟨#[99, 97, 116, 99, 104]⟩, .string ⟨#[114, 97, 105, 115, 101]⟩] 9)
  have k0 : (w1.alloc (.cells #[.string ⟨#[99, 97, 108, 108]⟩, .string ⟨#[116, 101, 108, 108]⟩, .string ⟨#[99, 97, 116, 99, 104]⟩, .string ⟨#[114, 97, 105, 115, 101]⟩] 9)).cell? ⟨b1, o1, none⟩ = some (.string (tb (atW W 0))) := by simpa using HKW.out 0 hp0 _ LL
  have HIT := Lib.hid (indexLit (tb (atW W 0)) w1)
  rw [ekb.out] at HIT
  have HCN : Hid (∀ W', Le w1 W' → Calls Tryd.prog 69 #[.slice B m c, .string (tb (atW W 1))] W' fun e w' => e = .returned (.int .i64 (findN xs (tb (atW W 1)) 0)) ∧ W' = w') := fun W' h => classNamed_any B m c xs _ W' (hT.le (L0.trans h))
  have HK1 : Hid (1 < W.length → ∀ W', Le w1 W' → W'.cell? ⟨b1, o1 + 1, none⟩ = some (.string (tb (atW W 1)))) := fun h => HKW.out 1 h
  have HK2 : Hid (2 < W.length → ∀ W', Le w1 W' → W'.cell? ⟨b1, o1 + 2, none⟩ = some (.string (tb (atW W 2)))) := fun h => HKW.out 2 h
  clear HPC ekb HKW
  generalize findN xs (tb (atW W 1)) 0 = vc at *
  generalize rdN 100 (atW W 1) = v1 at *
  generalize rdN 100 (atW W 2) = v2 at *
  generalize xkW (atW W 0) = kd at *
  generalize tb (atW W 0) = x0 at *
  generalize tb (atW W 1) = x1 at *
  generalize tb (atW W 2) = x2 at *
  generalize W.length = n at *
  have hp0i : (0 : Int) < (n : Int) := by omega
  have haw : w.heap.size + 1 < w1.heap.size := RA.z
  have haw1 : w.heap.size ≤ w1.heap.size := by omega
  have ctL := (LL.cell zt).trans ct
  have RAL := RA.le LL
  have L0L := L0.trans LL
  have ztL := Nat.lt_of_lt_of_le zt LL.size
  clear RA L0 ct zt
  go_wp2_with fail
  generalize w1.alloc (.cells #[.string ⟨#[99, 97, 108, 108]⟩, .string ⟨#[116, 101, 108, 108]⟩, .string ⟨#[99, 97, 116, 99, 104]⟩, .string ⟨#[114, 97, 105, 115, 101]⟩] 9) = W2 at *
  refine HIT.out.mono ?_
  rintro e w' ⟨rfl, rfl⟩
  clear HIT k0
  have RB : XitAt (W2.alloc (.cells #[.int .i64 kd, .int .i64 (-1), .int .i64 0] 58)) W2.heap.size ⟨kd, -1, 0⟩ := xitAt_new W2 kd (-1) 0 _
  have LB := Le.new W2 (.cells #[.int .i64 kd, .int .i64 (-1), .int .i64 0] 58)
  have RA2 := RAL.le LB
  have L1 := L0L.trans LB
  have LW := LL.trans LB
  have ct1 := (LB.cell ztL).trans ctL
  have zt1 := Nat.lt_of_lt_of_le ztL LB.size
  have hW12 : w1.heap.size ≤ W2.heap.size := LL.size
  have hab : W2.heap.size ≠ w.heap.size + 1 := by omega
  have hxw : w.heap.size ≤ W2.heap.size := by omega
  clear RAL L0L ctL ztL LL LB
  by_cases h1 : 1 < n
  · have h1a : decide ((1 : Int) < (n : Int)) = true := decide_eq_true (by omega)
    have h1i : (1 : Int) < (n : Int) := by omega
    have hK1 := Lib.hid (HK1.out h1)
    have hkd := RB.c0
    by_cases hk2 : (2 : Int) ≤ kd
    · have hk2a : decide ((2 : Int) ≤ kd) = true := decide_eq_true hk2
      have H1 := Lib.hid h1
      have H2 := Lib.hid hk2
      go_wp2_with fail
      clear hkd
      generalize W2.alloc (.cells #[.int .i64 kd, .int .i64 (-1), .int .i64 0] 58) = W3 at *
      have d0 : W3.drew.cell? ⟨w.heap.size, 0, none⟩ = some (.slice B m c) := ct1
      have d1 : W3.drew.cell? ⟨b1, o1 + 1, none⟩ = some (.string x1) := hK1.out _ (LW.trans (Le.refl W3).drew)
      have HC := Lib.hid (HCN.out W3.drew (LW.trans (Le.refl W3).drew))
      replace RB := RB.le (Le.refl W3).drew
      replace RA2 := RA2.le (Le.refl W3).drew
      replace L1 := L1.trans (Le.refl W3).drew
      replace LW := LW.trans (Le.refl W3).drew
      replace ct1 := d0
      refine wp_region_Z (fun w' => w'.cell? ⟨w.heap.size, 0, none⟩ = some (.slice B m c) ∧ w'.cell? ⟨b1, o1 + 1, none⟩ = some (.string x1)) [7] (by kernel_rfl) ?_
      generalize W3.drew = WD at *
      have q1 := RB.c1
      have h1 := RB.f 1
      replace RB := RB.set1 vc
      replace RA2 := RA2.other (q := W2.heap.size) (o := 1) (u := .int .i64 vc) hab
      replace ct1 := (cell_set_other (b := W2.heap.size) (o := 1) (v := .int .i64 vc) (.inl (by omega))).trans ct1
      replace L1 := L1.setCell (b := W2.heap.size) (o := 1) hxw (.int .i64 vc)
      replace LW := LW.setCell (b := W2.heap.size) (o := 1) hW12 (.int .i64 vc)
      refine wpAnyZ_take (i := 0) (v := ?_) rfl (by kernel_rfl) (fun _ _ _ h => h) (Or.inl ⟨by rfl, ?_⟩) (⟨d0, d1⟩) ?_
      rotate_left 1
      · (intro w hSw; (try dsimp only at hSw); go_simp; try with_reducible rfl)
      try simp only [Act.put, List.setIfInBounds_toArray, List.set_cons_zero, List.set_cons_succ]
      refine wpAnyZ_take (i := 1) (v := ?_) rfl (by kernel_rfl) (fun _ _ _ h => h) (Or.inl ⟨by rfl, ?_⟩) (⟨d0, d1⟩) ?_
      rotate_left 1
      · (intro w hSw; (try dsimp only at hSw); go_simp; try with_reducible rfl)
      try simp only [Act.put, List.setIfInBounds_toArray, List.set_cons_zero, List.set_cons_succ]
      refine wpAnyZ_take (i := 2) (v := ?_) rfl (by kernel_rfl) (fun _ _ _ h => h) (Or.inl ⟨by rfl, ?_⟩) (⟨d0, d1⟩) ?_
      rotate_left 1
      · (intro w hSw; (try dsimp only at hSw); go_simp; try with_reducible rfl)
      try simp only [Act.put, List.setIfInBounds_toArray, List.set_cons_zero, List.set_cons_succ]
      refine wpAnyZ_take (i := 3) (v := ?_) rfl (by kernel_rfl) (fun _ _ _ h => h) (Or.inl ⟨by rfl, ?_⟩) (⟨d0, d1⟩) ?_
      rotate_left 1
      · (intro w hSw; (try dsimp only at hSw); go_simp; try with_reducible rfl)
      try simp only [Act.put, List.setIfInBounds_toArray, List.set_cons_zero, List.set_cons_succ]
      refine wpAnyZ_take (i := 4) (v := ?_) rfl (by kernel_rfl) (fun _ _ _ h => h) (Or.inl ⟨by rfl, ?_⟩) (⟨d0, d1⟩) ?_
      rotate_left 1
      · (intro w hSw; (try dsimp only at hSw); go_simp; try with_reducible rfl)
      try simp only [Act.put, List.setIfInBounds_toArray, List.set_cons_zero, List.set_cons_succ]
      refine wpAnyZ_one (i := 5) (by kernel_rfl) (ReadyZ.mk rfl (fun K hK => ?_))
      go_simp
      go_at_call 69
      refine HC.out.mono ?_
      rintro e wz ⟨rfl, rfl⟩
      dsimp only
      refine hK.out _ _ (fun _ => ⟨d0, d1⟩) ?_
      clear hK K
      try simp only [Act.put, List.setIfInBounds_toArray, List.set_cons_zero, List.set_cons_succ]
      refine wpAnyZ_take (i := 6) (v := ?_) rfl (by kernel_rfl) (fun _ _ _ h => h) (Or.inl ⟨by rfl, ?_⟩) (⟨d0, d1⟩) ?_
      rotate_left 1
      · (intro w hSw; (try dsimp only at hSw); go_simp; try with_reducible rfl)
      try simp only [Act.put, List.setIfInBounds_toArray, List.set_cons_zero, List.set_cons_succ]
      refine wpAnyZ_one (i := 7) (by kernel_rfl) (ReadyZ.mk rfl (fun K hK => ?_))
      go_simp
      refine hK.out _ _ (fun h => absurd h (by decide)) ?_
      clear hK K
      try simp only [Act.put, List.setIfInBounds_toArray, List.set_cons_zero, List.set_cons_succ]
      refine wpAnyZ_done (by kernel_rfl) ?_ _
      clear d0 d1 q1 h1 HC
      generalize (WD.setCell ⟨W2.heap.size, 1, none⟩ (.int .i64 vc)) = WZ at *
      by_cases h2 : 2 < n
      · have h2a : decide ((2 : Int) < (n : Int)) = true := decide_eq_true (by omega)
        have h2i : (2 : Int) < (n : Int) := by omega
        have HZ : Hid (z = ⟨kd, vc, v2⟩) := by show _ = _; have e1 := H1.out; have e2 := H2.out; rw [PZ.out]; simp [h2, e1, e2] <;> (intro; omega)
        have k2 := HK2.out h2 _ LW
        clear PZ h2
        go_wp2_with fail
        refine (HR2.out _).mono ?_
        rintro e w' ⟨rfl, rfl⟩
        have q2 := RB.c2
        have h2 := RB.f 2
        replace RB := RB.set2 v2
        replace RA2 := RA2.other (q := W2.heap.size) (o := 2) (u := .int .i64 v2) hab
        replace ct1 := (cell_set_other (b := W2.heap.size) (o := 2) (v := .int .i64 v2) (.inl (by omega))).trans ct1
        replace L1 := L1.setCell (b := W2.heap.size) (o := 2) hxw (.int .i64 v2)
        replace LW := LW.setCell (b := W2.heap.size) (o := 2) hW12 (.int .i64 v2)
        clear k2
        have n0 := RB.c0
        have n1 := RB.c1
        have n2 := RB.c2
        have S1 := RA2.set0 kd
        have S2 := S1.set1 vc
        have S3 := S2.set2 v2
        have a0 := RA2.c0
        have g0 := RA2.f 0
        have a1 := S1.c1
        have g1 := S1.f 1
        have a2 := S2.c2
        have g2 := S2.f 2
        have m0 := S3.c0
        have m1 := S3.c1
        have m2 := S3.c2
        have LF := ((L1.setCell (b := w.heap.size + 1) (o := 0) (by omega) (.int .i64 kd)).setCell (b := w.heap.size + 1) (o := 1) (by omega) (.int .i64 vc)).setCell (b := w.heap.size + 1) (o := 2) (by omega) (.int .i64 v2)
        clear RA2 RB S1 S2 S3 L1 ct1 LW
        go_wp2
        exact bodyPost_ret (v := .agg #[.int .i64 kd, .int .i64 vc, .int .i64 v2]) (by simp [results, Tryd.results42, go_sem, m0, m1, m2]) rfl ⟨by rw [hz.out, HZ.out], LF⟩
      · have h2a : decide ((2 : Int) < (n : Int)) = false := decide_eq_false (by omega)
        have h2i : ¬ (2 : Int) < (n : Int) := by omega
        have HZ : Hid (z = ⟨kd, vc, 0⟩) := by show _ = _; have e1 := H1.out; have e2 := H2.out; rw [PZ.out]; simp [h2, e1, e2] <;> (intro; omega)
        clear PZ h2
        have n0 := RB.c0
        have n1 := RB.c1
        have n2 := RB.c2
        have S1 := RA2.set0 kd
        have S2 := S1.set1 vc
        have S3 := S2.set2 0
        have a0 := RA2.c0
        have g0 := RA2.f 0
        have a1 := S1.c1
        have g1 := S1.f 1
        have a2 := S2.c2
        have g2 := S2.f 2
        have m0 := S3.c0
        have m1 := S3.c1
        have m2 := S3.c2
        have LF := ((L1.setCell (b := w.heap.size + 1) (o := 0) (by omega) (.int .i64 kd)).setCell (b := w.heap.size + 1) (o := 1) (by omega) (.int .i64 vc)).setCell (b := w.heap.size + 1) (o := 2) (by omega) (.int .i64 0)
        clear RA2 RB S1 S2 S3 L1 ct1 LW
        go_wp2
        exact bodyPost_ret (v := .agg #[.int .i64 kd, .int .i64 vc, .int .i64 0]) (by simp [results, Tryd.results42, go_sem, m0, m1, m2]) rfl ⟨by rw [hz.out, HZ.out], LF⟩
    · have hk2a : decide ((2 : Int) ≤ kd) = false := decide_eq_false hk2
      have H1 := Lib.hid h1
      have H2 := Lib.hid hk2
      have k1 := hK1.out _ LW
      go_wp2_with fail
      generalize W2.alloc (.cells #[.int .i64 kd, .int .i64 (-1), .int .i64 0] 58) = W3 at *
      clear hkd k1
      refine (HR1.out _).mono ?_
      rintro e w' ⟨rfl, rfl⟩
      have q1 := RB.c1
      have h1 := RB.f 1
      replace RB := RB.set1 v1
      replace RA2 := RA2.other (q := W2.heap.size) (o := 1) (u := .int .i64 v1) hab
      replace ct1 := (cell_set_other (b := W2.heap.size) (o := 1) (v := .int .i64 v1) (.inl (by omega))).trans ct1
      replace L1 := L1.setCell (b := W2.heap.size) (o := 1) hxw (.int .i64 v1)
      replace LW := LW.setCell (b := W2.heap.size) (o := 1) hW12 (.int .i64 v1)
      by_cases h2 : 2 < n
      · have h2a : decide ((2 : Int) < (n : Int)) = true := decide_eq_true (by omega)
        have h2i : (2 : Int) < (n : Int) := by omega
        have HZ : Hid (z = ⟨kd, v1, v2⟩) := by show _ = _; have e1 := H1.out; have e2 := H2.out; rw [PZ.out]; simp [h2, e1, e2] <;> (intro; omega)
        have k2 := HK2.out h2 _ LW
        clear PZ h2
        go_wp2_with fail
        refine (HR2.out _).mono ?_
        rintro e w' ⟨rfl, rfl⟩
        have q2 := RB.c2
        have h2 := RB.f 2
        replace RB := RB.set2 v2
        replace RA2 := RA2.other (q := W2.heap.size) (o := 2) (u := .int .i64 v2) hab
        replace ct1 := (cell_set_other (b := W2.heap.size) (o := 2) (v := .int .i64 v2) (.inl (by omega))).trans ct1
        replace L1 := L1.setCell (b := W2.heap.size) (o := 2) hxw (.int .i64 v2)
        replace LW := LW.setCell (b := W2.heap.size) (o := 2) hW12 (.int .i64 v2)
        clear k2
        have n0 := RB.c0
        have n1 := RB.c1
        have n2 := RB.c2
        have S1 := RA2.set0 kd
        have S2 := S1.set1 v1
        have S3 := S2.set2 v2
        have a0 := RA2.c0
        have g0 := RA2.f 0
        have a1 := S1.c1
        have g1 := S1.f 1
        have a2 := S2.c2
        have g2 := S2.f 2
        have m0 := S3.c0
        have m1 := S3.c1
        have m2 := S3.c2
        have LF := ((L1.setCell (b := w.heap.size + 1) (o := 0) (by omega) (.int .i64 kd)).setCell (b := w.heap.size + 1) (o := 1) (by omega) (.int .i64 v1)).setCell (b := w.heap.size + 1) (o := 2) (by omega) (.int .i64 v2)
        clear RA2 RB S1 S2 S3 L1 ct1 LW
        go_wp2
        exact bodyPost_ret (v := .agg #[.int .i64 kd, .int .i64 v1, .int .i64 v2]) (by simp [results, Tryd.results42, go_sem, m0, m1, m2]) rfl ⟨by rw [hz.out, HZ.out], LF⟩
      · have h2a : decide ((2 : Int) < (n : Int)) = false := decide_eq_false (by omega)
        have h2i : ¬ (2 : Int) < (n : Int) := by omega
        have HZ : Hid (z = ⟨kd, v1, 0⟩) := by show _ = _; have e1 := H1.out; have e2 := H2.out; rw [PZ.out]; simp [h2, e1, e2] <;> (intro; omega)
        clear PZ h2
        have n0 := RB.c0
        have n1 := RB.c1
        have n2 := RB.c2
        have S1 := RA2.set0 kd
        have S2 := S1.set1 v1
        have S3 := S2.set2 0
        have a0 := RA2.c0
        have g0 := RA2.f 0
        have a1 := S1.c1
        have g1 := S1.f 1
        have a2 := S2.c2
        have g2 := S2.f 2
        have m0 := S3.c0
        have m1 := S3.c1
        have m2 := S3.c2
        have LF := ((L1.setCell (b := w.heap.size + 1) (o := 0) (by omega) (.int .i64 kd)).setCell (b := w.heap.size + 1) (o := 1) (by omega) (.int .i64 v1)).setCell (b := w.heap.size + 1) (o := 2) (by omega) (.int .i64 0)
        clear RA2 RB S1 S2 S3 L1 ct1 LW
        go_wp2
        exact bodyPost_ret (v := .agg #[.int .i64 kd, .int .i64 v1, .int .i64 0]) (by simp [results, Tryd.results42, go_sem, m0, m1, m2]) rfl ⟨by rw [hz.out, HZ.out], LF⟩
  · have h1a : decide ((1 : Int) < (n : Int)) = false := decide_eq_false (by omega)
    have h1i : ¬ (1 : Int) < (n : Int) := by omega
    have h2a : decide ((2 : Int) < (n : Int)) = false := decide_eq_false (by omega)
    have h2i : ¬ (2 : Int) < (n : Int) := by omega
    have HZ : Hid (z = ⟨kd, -1, 0⟩) := by show _ = _; rw [PZ.out, if_neg (fun h => h1 h.1), if_neg h1, if_neg (by omega)]
    clear PZ h1
    have n0 := RB.c0
    have n1 := RB.c1
    have n2 := RB.c2
    have S1 := RA2.set0 kd
    have S2 := S1.set1 (-1)
    have S3 := S2.set2 0
    have a0 := RA2.c0
    have g0 := RA2.f 0
    have a1 := S1.c1
    have g1 := S1.f 1
    have a2 := S2.c2
    have g2 := S2.f 2
    have m0 := S3.c0
    have m1 := S3.c1
    have m2 := S3.c2
    have LF := ((L1.setCell (b := w.heap.size + 1) (o := 0) (by omega) (.int .i64 kd)).setCell (b := w.heap.size + 1) (o := 1) (by omega) (.int .i64 (-1))).setCell (b := w.heap.size + 1) (o := 2) (by omega) (.int .i64 0)
    clear RA2 RB S1 S2 S3 L1 ct1 LW
    go_wp2
    exact bodyPost_ret (v := .agg #[.int .i64 kd, .int .i64 (-1), .int .i64 0]) (by simp [results, Tryd.results42, go_sem, m0, m1, m2]) rfl ⟨by rw [hz.out, HZ.out], LF⟩
end

section
theorem owd_grB {α : Type} [Enc α] {T : TypeId} {w0 w w' : World} {v : Value} {xs : List α} {S : Nat → Prop} (h : Owd T w0 w v xs) (hg : GrB S w w') (hS : ∀ k, w0.heap.size ≤ k → k < w.heap.size → ¬ S k) : Owd T w0 w' v xs :=
  ⟨own_grB h.row hg (fun k e => hS k (h.row.lt k e).1 (h.row.lt k e).2), h.ok⟩
theorem xks_good {xs : List Cls} {s : List UInt8} (h : vxs xs (linS xs s) = true) (e : xsB xs (linS xs s) = s) : xkO xs s = true ∧ xkX xs s = linS xs s := xk_some h e
set_option maxHeartbeats 4000000 in
set_option maxRecDepth 100000 in
theorem sParseExits_any (B : Option Addr) (m c : Nat) (xs : List Cls) (s : ByteArray) (w : World) (hT : Sl w B m c xs) (hs : s.size ≤ 1048576) :
    Calls Tryd.prog 15 #[.agg #[.slice B m c], .string s] w (XkOut w xs s) := by
  obtain ⟨i0, hi, hz0, hz1, hz2⟩ := info_parts infoXtF
  have hmx := hT.n_le
  have hml := hT.len
  obtain ⟨ob, hob⟩ : ∃ ob, Hid (xkO xs (bl s) = ob) := ⟨_, Lib.hid rfl⟩
  obtain ⟨xb, hxb⟩ : ∃ xb, Hid (xkX xs (bl s) = xb) := ⟨_, Lib.hid rfl⟩
  have HTR : Hid (okTree xs = false → ob = false ∧ xb = []) := fun h => by rw [← hob.out, ← hxb.out]; exact xks_tree h
  have HV : Hid (vxs xs (linS xs (bl s)) = false → ob = false ∧ xb = []) := fun h => by rw [← hob.out, ← hxb.out]; exact xks_v h
  have HXX : Hid (xsB xs (linS xs (bl s)) ≠ bl s → ob = false ∧ xb = []) := fun h => by rw [← hob.out, ← hxb.out]; exact xks_text h
  have HGG : Hid (vxs xs (linS xs (bl s)) = true → xsB xs (linS xs (bl s)) = bl s → ob = true ∧ xb = linS xs (bl s)) := fun h1 h2 => by rw [← hob.out, ← hxb.out]; exact xks_good h1 h2
  have hLI : Hid (linS xs (bl s) = ((splitL 10 (bl s)).take ((splitL 10 (bl s)).length - 1)).map (pXS xs)) := rfl
  rw [hLI.out] at HV HXX HGG
  clear hLI
  have HPC : Hid (∀ x ∈ splitL 10 (bl s), x.length ≤ 1048576) := fun x hx => by
    have := splitL_len2 10 (bl s) x hx
    rw [bl_len] at this; omega
  have hPL : (splitL 10 (bl s)).length ≤ 1048577 := by
    have h1 := splitL_len 10 (bl s)
    have h2 := List.count_le_length (a := (10 : UInt8)) (l := bl s)
    rw [bl_len] at h2; omega
  have hp0 : 0 < (splitL 10 (bl s)).length := List.length_pos_iff.2 (splitL_ne 10 _)
  have HSPL := Lib.hid (fun W => splitAt_any s 10 W hs)
  generalize splitL 10 (bl s) = Q at *
  go_enter Tryd.func15, Tryd.ntmps15
  go_wp2_with fail
  obtain ⟨c0, z0, L0⟩ := box1 w (.slice B m c) 25
  have HT := Lib.hid (hT.le L0)
  generalize w.alloc (.cells #[.slice B m c] 25) = W1 at *
  clear hT
  refine (validTree_any B m c xs W1 HT.out).mono ?_
  rintro e w1 ⟨rfl, hle⟩
  cases ho : okTree xs
  · have HB := Lib.hid (HTR.out ho)
    have LF := L0.trans hle
    clear ho HV HTR HXX HGG
    go_wp2
    go_ret2
    exact ⟨_, by rw [hob.out, HB.out.1]; rfl, by rw [hxb.out, HB.out.2]; exact Owd.nil _ _ _, LF⟩
  clear ho HTR
  have O1 := own_empty (w := w1) (base := w1.heap.size) (g := w1.heap.size) (e := 58) (size := 3) (Nat.le_refl _) rfl
  have L1 := Le.new w1 (.cells #[] 58)
  have hsz1 : Hid ((w1.alloc (.cells #[] 58)).heap.size = w1.heap.size + 1) := by show _ = _; simp
  have HW1 := Lib.hid hle.size
  go_wp2_with fail
  generalize w1.alloc (.cells #[] 58) = W2 at *
  refine (HSPL.out W2).mono ?_
  rintro e w3 ⟨v1, rfl, D, hle2⟩
  replace O1 := own_le O1 hle2
  have LA : Le W1 w3 := (hle.trans L1).trans hle2
  have z1 : Hid (w1.heap.size + 1 ≤ w3.heap.size) := by show _ ≤ _; have := hsz1.out; have := hle2.size; omega
  obtain ⟨A1, c1, rfl, -, -⟩ := D.form (by decide)
  have hlm : (Q.map tb).length = Q.length := List.length_map ..
  rw [hlm] at D ⊢
  have HC := Lib.hid c0
  clear hle hle2 L1 HSPL c0
  go_wp2
  go_loopw [6, 8] (fun v i wr => ∃ (k : Nat) (A' : Option Addr) (c' : Nat), k + 1 ≤ Q.length ∧ i = .int .i64 k ∧ v = .slice A' k c' ∧ wr.ownsRow w1.heap.size 58 3 v k (((Q.take k).map (pXS xs)).flatMap Enc.cells) ∧
      (∀ q, v.ownBlock = some q → q = w1.heap.size ∨ w3.heap.size ≤ q) ∧ GrB (fun k => k = w1.heap.size ∨ w3.heap.size ≤ k) w3 wr) (fun _ i _ => Q.length - (intOf i).toNat)
  case atStart => exact ⟨0, some ⟨w1.heap.size, 0, none⟩, 0, hp0, rfl, rfl, O1, fun q e => .inl (by simp [Value.ownBlock] at e; omega), GrB.refl _ _⟩
  case round =>
    obtain ⟨k, A', c', hk, rfl, rfl, O, hob2, GB⟩ := hrel
    have LX : Le W1 wr := LA.grB GB (fun k h => by have := z1.out; have := HW1.out; rcases h with h | h <;> omega)
    have hwk : IntKind.i64.wrap ((k : Int) + 1) = (k : Int) + 1 := IntWalk.i64_in _ (by omega)
    by_cases hlt : k + 1 < Q.length
    · have hki : (k : Int) + 1 < Q.length := by omega
      have hki2 : (k : Int) < Q.length := by omega
      have hDr := owd_grB D GB (fun k h1 h2 h3 => by have := hsz1.out; rcases h3 with h3 | h3 <;> omega)
      obtain ⟨A'', c'', e', S, -⟩ := hDr.form (by decide)
      injection e' with e1 e2 e3
      subst e1
      subst e3
      clear e2 hDr
      obtain ⟨b, off, rfl, hb, k0⟩ := str_at S (k := k) (by rw [hlm]; omega)
      rw [List.getElem_map] at k0
      have hwl := HPC.out (Q[k]'(by omega)) (List.getElem_mem (by omega))
      have hpok := pXS_ok (xs := xs) (l := Q[k]'(by omega)) (by omega)
      have hsn : Hid ((Q.take (k + 1)).map (pXS xs) = (Q.take k).map (pXS xs) ++ [pXS xs (Q[k]'(by omega))]) := by show _ = _; rw [List.take_succ_eq_append_getElem (by omega), List.map_append]; rfl
      have htl : Hid (((Q.take k).map (pXS xs)).length = k) := by show _ = _; rw [List.length_map, List.length_take]; omega
      have HPE : Hid (∀ W', Le W1 W' → Calls Tryd.prog 42 #[.agg #[.slice B m c], .string (tb (Q[k]'(by omega)))] W' fun e w' => e = .returned (.agg #[.int .i64 (pXS xs (Q[k]'(by omega))).kind, .int .i64 (pXS xs (Q[k]'(by omega))).a, .int .i64 (pXS xs (Q[k]'(by omega))).b]) ∧ Le W' w') := fun W' h => sparseExit_any B m c xs (tb (Q[k]'(by omega))) W' (HT.out.le h) (by rw [tb_size]; exact hwl)
      obtain ⟨E, hEE⟩ : ∃ E, (Q.take k).map (pXS xs) = E := ⟨_, rfl⟩
      rw [hEE] at O hsn htl
      clear hEE hwl S
      generalize pXS xs (Q[k]'(by omega)) = x at *
      generalize tb (Q[k]'(by omega)) = tq at *
      have c0 := (LX.cell z0).trans HC.out
      have d0 : wr.drew.cell? ⟨w.heap.size, 0, none⟩ = some (.slice B m c) := c0
      have d1 : wr.drew.cell? ⟨b, off + k, none⟩ = some (.string tq) := k0
      have Od : wr.drew.ownsRow w1.heap.size 58 3 (.slice A' k c') k (E.flatMap Enc.cells) := own_le O (Le.refl wr).drew
      have GBd := GB.trans (GrB.of_le (Le.refl wr).drew)
      have LXd : Le W1 wr.drew := LX.trans (Le.refl wr).drew
      have hb' : b < wr.drew.heap.size := hb
      have hz' : w.heap.size < wr.drew.heap.size := Nat.lt_of_lt_of_le z0 LX.size
      clear O GB LX k0 c0 hb
      go_wp2_with fail
      refine wp_region_Z (fun w' => w'.cell? ⟨w.heap.size, 0, none⟩ = some (.slice B m c) ∧ w'.cell? ⟨b, off + k, none⟩ = some (.string tq)) [8, 9] (by kernel_rfl) ?_
      generalize wr.drew = WD at *
      refine wpAnyZ_take (i := 0) (v := ?_) rfl (by kernel_rfl) (fun _ _ _ h => h) (Or.inl ⟨by rfl, ?_⟩) (⟨d0, d1⟩) ?_
      rotate_left 1
      · (intro w hSw; (try dsimp only at hSw); go_simp; try with_reducible rfl)
      try simp only [Act.put, List.setIfInBounds_toArray, List.set_cons_zero, List.set_cons_succ]
      refine wpAnyZ_take (i := 1) (v := ?_) rfl (by kernel_rfl) (fun _ _ _ h => h) (Or.inl ⟨by rfl, ?_⟩) (⟨d0, d1⟩) ?_
      rotate_left 1
      · (intro w hSw; (try dsimp only at hSw); go_simp; try with_reducible rfl)
      try simp only [Act.put, List.setIfInBounds_toArray, List.set_cons_zero, List.set_cons_succ]
      refine wpAnyZ_take (i := 2) (v := ?_) rfl (by kernel_rfl) (fun _ _ _ h => h) (Or.inl ⟨by rfl, ?_⟩) (⟨d0, d1⟩) ?_
      rotate_left 1
      · (intro w hSw; (try dsimp only at hSw); go_simp; try with_reducible rfl)
      try simp only [Act.put, List.setIfInBounds_toArray, List.set_cons_zero, List.set_cons_succ]
      refine wpAnyZ_take (i := 3) (v := ?_) rfl (by kernel_rfl) (fun _ _ _ h => h) (Or.inl ⟨by rfl, ?_⟩) (⟨d0, d1⟩) ?_
      rotate_left 1
      · (intro w hSw; (try dsimp only at hSw); go_simp; try with_reducible rfl)
      try simp only [Act.put, List.setIfInBounds_toArray, List.set_cons_zero, List.set_cons_succ]
      refine wpAnyZ_take (i := 4) (v := ?_) rfl (by kernel_rfl) (fun _ _ _ h => h) (Or.inl ⟨by rfl, ?_⟩) (⟨d0, d1⟩) ?_
      rotate_left 1
      · (intro w hSw; (try dsimp only at hSw); go_simp; try with_reducible rfl)
      try simp only [Act.put, List.setIfInBounds_toArray, List.set_cons_zero, List.set_cons_succ]
      refine wpAnyZ_take (i := 5) (v := ?_) rfl (by kernel_rfl) (fun _ _ _ h => h) (Or.inl ⟨by rfl, ?_⟩) (⟨d0, d1⟩) ?_
      rotate_left 1
      · (intro w hSw; (try dsimp only at hSw); go_simp; try with_reducible rfl)
      try simp only [Act.put, List.setIfInBounds_toArray, List.set_cons_zero, List.set_cons_succ]
      refine wpAnyZ_one (i := 6) (by kernel_rfl) (ReadyZ.mk rfl (fun K hK => ?_))
      go_simp
      go_at_call 42
      refine (HPE.out WD LXd).mono ?_
      rintro e w5 ⟨rfl, hle⟩
      have O5 := own_le Od hle
      have GB5 := GBd.trans (GrB.of_le hle)
      have L5 := LXd.trans hle
      have d0' := (hle.cell hz').trans d0
      have d1' := (hle.cell hb').trans d1
      have hz5 := Nat.lt_of_lt_of_le hz' hle.size
      have hb5 := Nat.lt_of_lt_of_le hb' hle.size
      clear hle Od GBd LXd d0 d1
      dsimp only
      refine hK.out _ _ (fun _ => ⟨d0', d1'⟩) ?_
      clear hK K
      try simp only [Act.put, List.setIfInBounds_toArray, List.set_cons_zero, List.set_cons_succ]
      refine wpAnyZ_one (i := 7) (by kernel_rfl) (ReadyZ.mk rfl (fun K hK => ?_))
      go_simp
      have LN := Le.new w5 (.cells #[.int .i64 x.kind, .int .i64 x.a, .int .i64 x.b] 58)
      refine hK.out _ _ (fun _ => ⟨(LN.cell hz5).trans d0', (LN.cell hb5).trans d1'⟩) ?_
      clear hK K
      try simp only [Act.put, List.setIfInBounds_toArray, List.set_cons_zero, List.set_cons_succ]
      refine wpAnyZ_one (i := 8) (by kernel_rfl) (ReadyZ.mk rfl (fun K hK => ?_))
      refine step_append_sl rfl (.tmp 22) (.tmp 29) 26 rfl w1.heap.size 58 i0 _ 24 Tryd.underlying26 hi hz0 hz1 hz2 rfl (.slice A' k c') k E rfl (own_le O5 LN) (some ⟨w5.heap.size, 0, none⟩) 1 1 [x] rfl (sl_one x rfl hpok rfl) (by unfold maxLen; omega) (by omega) (by have := LN.size; have := L5.size; have := z1.out; have := GB5.size; omega) ?_
      intro v2 w4 O4 hg4 hat4
      have GB4 := (GB5.trans (GrB.of_le LN)).trans (GrB.of_grown hg4 (fun k e => hob2 k e))
      have hob4 : ∀ q, v2.ownBlock = some q → q = w1.heap.size ∨ w3.heap.size ≤ q := fun q e => by
        rcases hat4 with h | h
        · exact hob2 q (h ▸ e)
        · rw [h] at e; injection e with e; have h9 := GB5.size; have h10 := LN.size; exact .inr (by omega)
      clear hg4 hat4 LN O5 GB5 d0' d1'
      refine hK.out _ _ (fun h => absurd h (by decide)) ?_
      clear hK K
      try simp only [Act.put, List.setIfInBounds_toArray, List.set_cons_zero, List.set_cons_succ]
      refine wpAnyZ_one (i := 9) (by kernel_rfl) (ReadyZ.mk rfl (fun K hK => ?_))
      go_simp
      refine hK.out _ _ (fun h => absurd h (by decide)) ?_
      clear hK K
      try simp only [Act.put, List.setIfInBounds_toArray, List.set_cons_zero, List.set_cons_succ]
      refine wpAnyZ_done (by kernel_rfl) ?_ _
      obtain ⟨A5, q5, rfl⟩ := own_form O4
      go_wp2
      go_roundw
      case rel => exact ⟨k + 1, A5, q5, by omega, by go_num, rfl, by rw [hsn.out]; exact O4, hob4, GB4⟩
      case measure => simp [intOf]; omega
    · have hki : ¬ (k : Int) + 1 < Q.length := by omega
      have hkk : k = Q.length - 1 := by omega
      rw [hkk] at O
      rw [← hkk] at O HV HXX HGG
      have hlq : ((Q.take k).map (pXS xs)).length = k := by rw [List.length_map, List.length_take]; omega
      have O' : wr.ownsRow w1.heap.size 58 3 (.slice A' ((Q.take k).map (pXS xs)).length c') ((Q.take k).map (pXS xs)).length (((Q.take k).map (pXS xs)).flatMap Enc.cells) := by rw [hlq]; exact O
      have hok : ∀ x ∈ (Q.take k).map (pXS xs), Enc.ok x := fun x hx => by
        obtain ⟨l, hl, rfl⟩ := List.mem_map.1 hx
        exact pXS_ok (by omega)
      have S := Sl.of_own O' rfl (by decide) hok
      have DO : Owd 58 w wr (.slice A' ((Q.take k).map (pXS xs)).length c') ((Q.take k).map (pXS xs)) := ⟨own_mono O' (by have := HW1.out; have := L0.size; omega), hok⟩
      rw [hlq] at S DO
      have LL := L0.trans LX
      have c0 := (LX.cell z0).trans HC.out
      have zt := Nat.lt_of_lt_of_le z0 LX.size
      clear O O' hok hkk HC HPC hlm GB D
      generalize (Q.take k).map (pXS xs) = R at *
      go_wp2_with fail
      refine (svalidExits_any B A' m c k c' xs R wr (HT.out.le LX) S).mono ?_
      rintro e w5 ⟨rfl, hle⟩
      replace S := S.le hle
      replace DO := DO.le hle
      replace LL := LL.trans hle
      replace LX := LX.trans hle
      replace c0 := (hle.cell zt).trans c0
      replace zt := Nat.lt_of_lt_of_le zt hle.size
      clear hle
      cases hv : vxs xs R
      · have HB := Lib.hid (HV.out hv)
        clear hv HV HXX HGG S DO
        go_wp2
        go_ret2
        exact ⟨_, by rw [hob.out, HB.out.1]; rfl, by rw [hxb.out, HB.out.2]; exact Owd.nil _ _ _, LL⟩
      · have HET := Lib.hid (sexitsText_any B A' m c k c' xs R w5 (HT.out.le LX) S hv)
        by_cases hq : xsB xs R = bl s
        · have HG := Lib.hid (HGG.out hv hq)
          have ht : tb (xsB xs R) = s := by rw [hq, tb_bl]
          rw [ht] at HET
          have hb2 : (s.toList == s.toList) = true := by simp
          have hb3 : (s.toList != s.toList) = false := by simp
          clear hv HV HXX HGG hq ht S
          go_wp2_with fail
          refine HET.out.mono ?_
          rintro e w6 ⟨rfl, hle⟩
          have D6 := Lib.hid (DO.le hle)
          have L6 := LL.trans hle
          clear DO hle HET c0
          go_wp2
          go_ret2
          exact ⟨_, by rw [hob.out, HG.out.1]; rfl, by rw [hxb.out, HG.out.2]; exact D6.out, L6⟩
        · have HB := Lib.hid (HXX.out hq)
          have hne : tb (xsB xs R) ≠ s := fun e => hq (by rw [← e, bl_tb])
          have hb2 : ((tb (xsB xs R)).toList == s.toList) = false := str_ne hne
          have hb3 : ((tb (xsB xs R)).toList != s.toList) = true := by simp only [bne, hb2]; rfl
          generalize tb (xsB xs R) = ty at *
          clear hv HV HXX HGG hq hne S
          go_wp2_with fail
          refine HET.out.mono ?_
          rintro e w6 ⟨rfl, hle⟩
          have L6 := LL.trans hle
          clear DO hle HET c0
          go_wp2
          go_ret2
          exact ⟨_, by rw [hob.out, HB.out.1]; rfl, by rw [hxb.out, HB.out.2]; exact Owd.nil _ _ _, L6⟩
end

section
set_option maxRecDepth 100000 in
theorem equalExits_self (A B : Option Addr) (n c d : Nat) (xs : List Xit) (w : World) (hR : Sl w A n c xs) (hS : Sl w B n d xs) :
    Calls Tryd.prog 12 #[.slice A n c, .slice B n d] w fun e w' => e = .returned (.bool true) ∧ Le w w' := by
  obtain rfl := hR.len
  have hm := hR.n_le
  have hb : ((xs.length : Int) != (xs.length : Int)) = false := by simp
  go_enter Tryd.func12, Tryd.ntmps12
  go_wp2
  go_loopw [5] (fun i wr => ∃ k : Nat, k ≤ xs.length ∧ i = .int .i64 k ∧ Le w wr) (fun i _ => xs.length - (intOf i).toNat)
  case atStart => exact ⟨0, Nat.zero_le _, rfl, Le.refl _⟩
  case round =>
    obtain ⟨k, hk, rfl, hle⟩ := hrel
    have hRr := hR.le hle
    have hSr := hS.le hle
    clear hR hS
    by_cases hlt : k < xs.length
    · obtain ⟨b, off, rfl, hb, hcell0, hcell1, hcell2, _⟩ := hRr.xit_at hlt
      obtain ⟨b2, off2, rfl, hb2, hdell0, hdell1, hdell2, _⟩ := hSr.xit_at hlt
      have E0 := cell_ext hb hcell0
      have F0 := cell_ext hb2 hdell0
      have E1 := cell_ext hb hcell1
      have F1 := cell_ext hb2 hdell1
      have E2 := cell_ext hb hcell2
      have F2 := cell_ext hb2 hdell2
      have q0 : (xs[k].kind == xs[k].kind) = true := by simp
      have q1 : (xs[k].a == xs[k].a) = true := by simp
      have q2 : (xs[k].b == xs[k].b) = true := by simp
      go_wp2_with fail
      refine wp_region_ext (by kernel_rfl) (by kernel_rfl) ?_
      repeat (go_big_quiet_step (fail))
      refine wpQuiet_nil ?_
      intro _ hw'
      obtain ⟨g, rfl⟩ := hw'
      have hw1 := Le.ext wr g
      generalize wr.ext g = W2 at *
      go_wp2
      go_roundw
      case rel => exact ⟨k + 1, by omega, by go_num, hle.trans hw1⟩
      case measure => simp [intOf]; omega
    · go_wp2
      go_ret
      exact ⟨rfl, hle⟩
end

section
end

section
theorem count_step {s : ByteArray} {k : Nat} (h : k < s.size) (c : UInt8) : ((bl s).take (k + 1)).count c = ((bl s).take k).count c + (if s[k] = c then 1 else 0) := by
  have h' : k < (bl s).length := by rw [bl_len]; exact h
  rw [List.take_succ_eq_append_getElem h', List.count_append]
  have h3 : List.count c [(bl s)[k]] = if s[k] = c then 1 else 0 := by
    by_cases hc : s[k] = c
    · rw [show (bl s)[k] = c from hc, if_pos hc]; simp
    · rw [if_neg hc]; exact List.count_eq_zero_of_not_mem (by simp; exact fun e => hc e.symm)
  rw [h3]
  rfl
set_option maxRecDepth 100000 in
theorem newlines_any (s : ByteArray) (w : World) (hs : s.size ≤ 1048576) : Calls Tryd.prog 13 #[.string s] w fun e w' => e = .returned (.int .i64 ((bl s).count 10 : Nat)) ∧ Le w w' := by
  go_enter Tryd.func13, Tryd.ntmps13
  go_wp2
  go_loopw [3, 4] (fun v i wr => ∃ k : Nat, k ≤ s.size ∧ i = .int .i64 k ∧ v = .int .i64 (((bl s).take k).count 10 : Nat) ∧ w = wr) (fun _ i _ => s.size - (intOf i).toNat)
  case atStart => exact ⟨0, Nat.zero_le _, rfl, rfl, by first | trivial | rfl⟩
  case round =>
    obtain ⟨k, hk, rfl, rfl, rfl⟩ := hrel
    by_cases hlt : k < s.size
    · have hc : 0 ≤ (s[k].toNat : Int) ∧ (s[k].toNat : Int) ≤ 255 := by have := UInt8.toNat_lt s[k]; omega
      have hst := count_step hlt 10
      have hle : ((bl s).take k).count 10 ≤ k := by
        have := List.count_le_length (a := (10 : UInt8)) (l := (bl s).take k)
        rw [List.length_take] at this; omega
      have hkl : (k : Int) < (s.size : Int) := by omega
      by_cases h10 : s[k] = 10
      · rw [if_pos h10] at hst
        have hb : ((s[k].toNat : Int) == 10) = true := by rw [h10]; rfl
        have HK := Lib.hid hst
        clear hst h10
        generalize ((bl s).take k).count 10 = u at *
        go_wp2
        go_roundw
        case rel => exact ⟨k + 1, by omega, by go_num, by rw [HK.out]; go_num, by first | trivial | rfl⟩
        case measure => (simp [intOf]) <;> omega
      · rw [if_neg h10] at hst
        have hb : ((s[k].toNat : Int) == 10) = false := by
          rw [beq_eq_false_iff_ne]; intro e; exact h10 (UInt8.toNat_inj.1 (by show s[k].toNat = 10; omega))
        have HK := Lib.hid hst
        clear hst h10
        go_wp2
        go_roundw
        case rel => exact ⟨k + 1, by omega, by go_num, by rw [HK.out]; rfl, by first | trivial | rfl⟩
        case measure => (simp [intOf]) <;> omega
    · have hkl : ¬ (k : Int) < (s.size : Int) := by omega
      have HE : Hid ((bl s).take k = bl s) := List.take_of_length_le (by rw [bl_len]; omega)
      go_wp2
      go_ret
      exact ⟨by show Ending.returned (.int .i64 (((bl s).take k).count 10 : Nat)) = _; rw [HE.out], Le.refl _⟩
end

section
open Go.ChangeShapes Go.WideShapes Go.RowKit
theorem str_of_trod {H : Type} {enc : TypeId × Value → H} {P : Program} {w : World} {base : Nat} {sp : Nat → Bool} {held : Bool} {fuel : Nat} {c : Value} {y : DataW H × List MemPlace} {t : TypeId}
    (ht : P.underlying t = Tryd.prog.underlying 9) (h : DataW.trod enc P w base sp held fuel t [c] = some y) : ∃ s : ByteArray, c = .string s ∧ y = (.lit (.string s.data.toList), []) := by
  cases fuel with
  | zero => simp [DataW.trod] at h
  | succ fuel =>
    rw [Tryd.underlying9] at ht
    cases c <;> simp [DataW.trod, ht] at h
    rename_i s
    exact ⟨s, rfl, by first | exact h.symm | exact h.2.symm | (obtain ⟨_, rfl⟩ := h; rfl)⟩
theorem exw_type : (Tryd.prog.globals[0]?).map (·.type) = some 87 := by kernel_rfl
theorem cells4S : Tryd.prog.cellsOf 87 = 4 := by kernel_rfl
theorem cells1S : Tryd.prog.cellsOf 9 = 1 := by kernel_rfl
set_option maxRecDepth 100000 in
theorem xw_of_laid {W : World} (h : laidMet Tryd.prog [("loop.example/faultcleanup/impl.exitWords", Rows.laid_loop_example_faultcleanup_impl_exitWords)] W) : ExW W := by
  obtain ⟨ps, ⟨g, t, cs, fuel, p, q, hg, ht, hvar, hd, _, _⟩, _⟩ := h
  obtain rfl := Option.some.inj (exw_named.symm.trans hg)
  obtain rfl := Option.some.inj (exw_type.symm.trans ht)
  show W.var? _ _ = _
  rw [hvar]
  congr 1
  obtain ⟨l⟩ := cs
  cases fuel with
  | zero => simp [DataW.trod] at hd
  | succ fuel =>
    simp only [DataW.trod, Tryd.underlying87, cells4S, cells1S] at hd
    split at hd
    · rename_i hl
      obtain ⟨c0, c1, c2, c3, rfl⟩ : ∃ c0 c1 c2 c3, l = [c0, c1, c2, c3] := by
        match l, hl with
        | [a, b, c, d], _ => exact ⟨a, b, c, d, rfl⟩
      have e : List.range 4 = [0, 1, 2, 3] := rfl
      rw [e] at hd
      simp only [Option.map_eq_some_iff, List.mapM_cons, List.mapM_nil, Option.bind_eq_bind, Option.bind_eq_some_iff, Option.pure_def, Option.some.injEq] at hd
      obtain ⟨xs, ⟨y0, h0, _, ⟨y1, h1, _, ⟨y2, h2, _, ⟨y3, h3, _, rfl, rfl⟩, rfl⟩, rfl⟩, rfl⟩, hx⟩ := hd
      obtain ⟨n0, rfl, rfl⟩ := str_of_trod rfl h0
      obtain ⟨n1, rfl, rfl⟩ := str_of_trod rfl h1
      obtain ⟨n2, rfl, rfl⟩ := str_of_trod rfl h2
      obtain ⟨n3, rfl, rfl⟩ := str_of_trod rfl h3
      simp [Rows.laid_loop_example_faultcleanup_impl_exitWords] at hx
      obtain ⟨⟨e0, e1, e2, e3⟩, _⟩ := hx
      have k : ∀ {n : ByteArray} {l : List UInt8}, n.data.toList = l → n = tb l := fun {n l} h => tb_eq.2 h ▸ rfl
      rw [k e0, k e1, k e2, k e3]; rfl
    · cases hd
set_option maxRecDepth 100000 in
theorem reads_xw {H : Type} (enc : TypeId × Value → H) (W : World) (sp : Nat → Bool) : DataW.trod enc Tryd.prog W 0 sp true 4 87 xwCells.toList = some (Rows.laid_loop_example_faultcleanup_impl_exitWords, []) := by kernel_rfl
end
end Go.Proofs.YtnpcmlcigeccmaaDoor
