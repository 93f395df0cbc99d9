/- groups: split of the model, HasClass of the model -/
import Derived.Test.YtpdggodmiliijaaGL
import Derived.Test.YtpdggodmiliijaaGpC
import Derived.Test.YtpdggodmiliijaaM
import Derived.Test.YtpdggodmiliijaaAP
import Derived.Test.YtpdggodmiliijaaRZp
namespace Go.Proofs.Ytpdggodmiliijaa
open Go.RowKit
/-- the test of the model's split -/
def tS (xs : List Cls) (a : Int) (wi : Bool) (q : Prt) : Bool := isAL xs q.cls a == wi
theorem anyF_at {f : Nat → Bool} {n k : Nat} (h : k < n) : anyF f k (n - k) = (f k || anyF f (k + 1) (n - (k + 1))) := by
  rw [show n - k = (n - (k + 1)) + 1 by omega]; rfl
theorem anyF_end {f : Nat → Bool} {n k : Nat} (h : ¬ k < n) : anyF f k (n - k) = false := by
  rw [show n - k = 0 by omega]; rfl
set_option maxRecDepth 100000 in
set_option maxHeartbeats 2000000 in
theorem keeps_any (A B : Option Addr) (n cap m c : Nat) (xs : List Cls) (g : List Prt) (G : GoodG xs g) (i : Nat) (hi : i < g.length) (a : Int) (wi : Bool) (w : World) (hT : Sl w A n cap xs) (hG : Sl w B m c g) :
    Calls Try.prog 89 #[.agg #[.slice A n cap], .slice B m c, .int .i64 i, .int .i64 a, .bool wi] w fun e w' => e = .returned (.bool (keepsAt (tS xs a wi) g i)) ∧ Le w w' := by
  obtain rfl := hG.len
  have hmx := hG.n_le
  have g0 := good_of G.tree
  obtain ⟨c0, z0, hl⟩ := box1 w (.slice A n cap) 32
  have hS := hT.le hl
  have hG1 := hG.le hl
  have hend := endN_gt g i
  have hendl := endN_le hi
  go_enter Try.func89, Try.ntmps89
  go_wp2_with fail
  generalize w.alloc (.cells #[.slice A n cap] 32) = w1 at *
  go_loopw [11] (fun q wr => ∃ k : Nat, i ≤ k ∧ k ≤ endN g i ∧ q = .int .i64 k ∧ keepsAt (tS xs a wi) g i = anyF (passAt (tS xs a wi) g) k (endN g i - k) ∧ Le w1 wr) (fun q _ => endN g i - (intOf q).toNat)
  case atStart => exact ⟨i, Nat.le_refl _, by omega, rfl, rfl, Le.refl _⟩
  case round =>
    obtain ⟨k, hk0, hk, rfl, hF, hle⟩ := hrel
    have HF := Lib.hid hF
    clear hF
    have hGr := hG1.le hle
    have hSr := hS.le hle
    have d0 := (hle.cell z0).trans c0
    go_wp2_with fail
    refine (endOf_any _ _ _ g i hi _ hGr).mono ?_
    rintro e w2 ⟨rfl, hle2⟩
    have hL := hle.trans hle2
    have hS2 := hSr.le hle2
    have hG2 := hGr.le hle2
    have d2 := (hle2.cell (Nat.lt_of_lt_of_le z0 hle.size)).trans d0
    have hLL := hl.trans hL
    clear hle hle2 hGr hSr d0
    by_cases hlt : k < endN g i
    · have hkg : k < g.length := by omega
      obtain ⟨b, off, rfl, hb, p0, p1, p2, p3, -⟩ := hG2.prt_at hkg
      have HA : Hid (anyF (passAt (tS xs a wi) g) k (endN g i - k) = (passAt (tS xs a wi) g k || anyF (passAt (tS xs a wi) g) (k + 1) (endN g i - (k + 1)))) := anyF_at hlt
      have HQ : Hid (passAt (tS xs a wi) g k = (!g[k].group && (isAL xs g[k].cls a == wi))) := by show _ = _; unfold passAt tS; rw [gAt_at hkg]
      have HLf := Lib.hid (G.leaf k hkg)
      rw [gAt_at hkg] at HLf
      have d3 : w2.drew.cell? ⟨w.heap.size, 0, none⟩ = some (.slice A n cap) := d2
      have q1 : w2.drew.cell? ⟨b, off + k * 4 + 1, none⟩ = some (.bool g[k].group) := p1
      have q2 : w2.drew.cell? ⟨b, off + k * 4 + 2, none⟩ = some (.int .i64 g[k].cls) := p2
      have hS3 := hS2.le (Le.refl w2).drew
      have HLD := Lib.hid (hL.drew)
      have zb : b < w2.drew.heap.size := hb
      have zw : w.heap.size < w2.drew.heap.size := Nat.lt_of_lt_of_le z0 hL.size
      clear d2 p0 p1 p2 p3
      go_wp2_with fail
      refine wp_region_noPanic ?_
      refine wp_region_Z (fun w' => w'.cell? ⟨w.heap.size, 0, none⟩ = some (.slice A n cap) ∧ w'.cell? ⟨b, off + k * 4 + 1, none⟩ = some (.bool g[k].group) ∧ w'.cell? ⟨b, off + k * 4 + 2, none⟩ = some (.int .i64 g[k].cls)) [] (by kernel_rfl) ?_
      generalize w2.drew = V at *
      cases hgr : g[k].group
      · rw [hgr] at q1
        have hlf := HLf.out hgr
        refine wpAnyZ_take (i := 0) (v := ?_) rfl (by kernel_rfl) (fun _ _ _ h => h) (Or.inl ⟨by rfl, ?_⟩) (⟨d3, q1, q2⟩) ?_
        rotate_left 1
        · (intro w hSw; (try dsimp only at hSw); go_simp; try with_reducible rfl)
        try simp only [Act.put, List.setIfInBounds_toArray, List.set_cons_zero, List.set_cons_succ]
        refine wpAnyZ_take (i := 1) (v := ?_) rfl (by kernel_rfl) (fun _ _ _ h => h) (Or.inl ⟨by rfl, ?_⟩) (⟨d3, q1, q2⟩) ?_
        rotate_left 1
        · (intro w hSw; (try dsimp only at hSw); go_simp; try with_reducible rfl)
        try simp only [Act.put, List.setIfInBounds_toArray, List.set_cons_zero, List.set_cons_succ]
        refine wpAnyZ_take (i := 2) (v := ?_) rfl (by kernel_rfl) (fun _ _ _ h => h) (Or.inl ⟨by rfl, ?_⟩) (⟨d3, q1, q2⟩) ?_
        rotate_left 1
        · (intro w hSw; (try dsimp only at hSw); go_simp; try with_reducible rfl)
        try simp only [Act.put, List.setIfInBounds_toArray, List.set_cons_zero, List.set_cons_succ]
        refine wpAnyZ_take (i := 3) (v := ?_) rfl (by kernel_rfl) (fun _ _ _ h => h) (Or.inl ⟨by rfl, ?_⟩) (⟨d3, q1, q2⟩) ?_
        rotate_left 1
        · (intro w hSw; (try dsimp only at hSw); go_simp; try with_reducible rfl)
        try simp only [Act.put, List.setIfInBounds_toArray, List.set_cons_zero, List.set_cons_succ]
        refine wpAnyZ_take (i := 4) (v := ?_) rfl (by kernel_rfl) (fun _ _ _ h => h) (Or.inl ⟨by rfl, ?_⟩) (⟨d3, q1, q2⟩) ?_
        rotate_left 1
        · (intro w hSw; (try dsimp only at hSw); go_simp; try with_reducible rfl)
        try simp only [Act.put, List.setIfInBounds_toArray, List.set_cons_zero, List.set_cons_succ]
        refine wpAnyZ_take (i := 5) (v := ?_) rfl (by kernel_rfl) (fun _ _ _ h => h) (Or.inl ⟨by rfl, ?_⟩) (⟨d3, q1, q2⟩) ?_
        rotate_left 1
        · (intro w hSw; (try dsimp only at hSw); go_simp; try with_reducible rfl)
        try simp only [Act.put, List.setIfInBounds_toArray, List.set_cons_zero, List.set_cons_succ]
        refine wpAnyZ_take (i := 6) (v := ?_) rfl (by kernel_rfl) (fun _ _ _ h => h) (Or.inl ⟨by rfl, ?_⟩) (⟨d3, q1, q2⟩) ?_
        rotate_left 1
        · (intro w hSw; (try dsimp only at hSw); go_simp; try with_reducible rfl)
        try simp only [Act.put, List.setIfInBounds_toArray, List.set_cons_zero, List.set_cons_succ]
        refine wpAnyZ_take (i := 7) (v := ?_) rfl (by kernel_rfl) (fun _ _ _ h => h) (Or.inl ⟨by rfl, ?_⟩) (⟨d3, q1, q2⟩) ?_
        rotate_left 1
        · (intro w hSw; (try dsimp only at hSw); go_simp; try with_reducible rfl)
        try simp only [Act.put, List.setIfInBounds_toArray, List.set_cons_zero, List.set_cons_succ]
        refine wpAnyZ_take (i := 8) (v := ?_) rfl (by kernel_rfl) (fun _ _ _ h => h) (Or.inl ⟨by rfl, ?_⟩) (⟨d3, q1, q2⟩) ?_
        rotate_left 1
        · (intro w hSw; (try dsimp only at hSw); go_simp; try with_reducible rfl)
        try simp only [Act.put, List.setIfInBounds_toArray, List.set_cons_zero, List.set_cons_succ]
        refine wpAnyZ_take (i := 9) (v := ?_) rfl (by kernel_rfl) (fun _ _ _ h => h) (Or.inl ⟨by rfl, ?_⟩) (⟨d3, q1, q2⟩) ?_
        rotate_left 1
        · (intro w hSw; (try dsimp only at hSw); go_simp; try with_reducible rfl)
        try simp only [Act.put, List.setIfInBounds_toArray, List.set_cons_zero, List.set_cons_succ]
        refine wpAnyZ_take (i := 10) (v := ?_) rfl (by kernel_rfl) (fun _ _ _ h => h) (Or.inl ⟨by rfl, ?_⟩) (⟨d3, q1, q2⟩) ?_
        rotate_left 1
        · (intro w hSw; (try dsimp only at hSw); go_simp; try with_reducible rfl)
        try simp only [Act.put, List.setIfInBounds_toArray, List.set_cons_zero, List.set_cons_succ]
        refine wpAnyZ_take (i := 11) (v := ?_) rfl (by kernel_rfl) (fun _ _ _ h => h) (Or.inl ⟨by rfl, ?_⟩) (⟨d3, q1, q2⟩) ?_
        rotate_left 1
        · (intro w hSw; (try dsimp only at hSw); go_simp; try with_reducible rfl)
        try simp only [Act.put, List.setIfInBounds_toArray, List.set_cons_zero, List.set_cons_succ]
        refine wpAnyZ_take (i := 12) (v := ?_) rfl (by kernel_rfl) (fun _ _ _ h => h) (Or.inl ⟨by rfl, ?_⟩) (⟨d3, q1, q2⟩) ?_
        rotate_left 1
        · (intro w hSw; (try dsimp only at hSw); go_simp; try with_reducible rfl)
        try simp only [Act.put, List.setIfInBounds_toArray, List.set_cons_zero, List.set_cons_succ]
        refine wpAnyZ_take (i := 13) (v := ?_) rfl (by kernel_rfl) (fun _ _ _ h => h) (Or.inl ⟨by rfl, ?_⟩) (⟨d3, q1, q2⟩) ?_
        rotate_left 1
        · (intro w hSw; (try dsimp only at hSw); go_simp; try with_reducible rfl)
        try simp only [Act.put, List.setIfInBounds_toArray, List.set_cons_zero, List.set_cons_succ]
        refine wpAnyZ_take (i := 15) (v := ?_) rfl (by kernel_rfl) (fun _ _ _ h => h) (Or.inl ⟨by rfl, ?_⟩) (⟨d3, q1, q2⟩) ?_
        rotate_left 1
        · (intro w hSw; (try dsimp only at hSw); go_simp; try with_reducible rfl)
        try simp only [Act.put, List.setIfInBounds_toArray, List.set_cons_zero, List.set_cons_succ]
        refine wpAnyZ_one (i := 14) (by kernel_rfl) (ReadyZ.mk rfl (fun K hK => ?_))
        go_simp
        go_at_call 100
        refine (isA_any A n cap xs g[k].cls a _ hS3 g0 (by omega) (by omega)).mono ?_
        rintro e V4 ⟨rfl, hle4⟩
        refine hK.out _ _ (fun _ => ⟨(hle4.cell zw).trans d3, (hle4.cell zb).trans q1, (hle4.cell zb).trans q2⟩) ?_
        clear hK K
        try simp only [Act.put, List.setIfInBounds_toArray, List.set_cons_zero, List.set_cons_succ]
        refine wpAnyZ_take (i := 16) (v := ?_) rfl (by kernel_rfl) (fun _ _ _ h => h) (Or.inl ⟨by rfl, ?_⟩) (⟨(hle4.cell zw).trans d3, (hle4.cell zb).trans q1, (hle4.cell zb).trans q2⟩) ?_
        rotate_left 1
        · (intro w hSw; (try dsimp only at hSw); go_simp; try with_reducible rfl)
        try simp only [Act.put, List.setIfInBounds_toArray, List.set_cons_zero, List.set_cons_succ]
        refine wpAnyZ_take (i := 17) (v := ?_) rfl (by kernel_rfl) (fun _ _ _ h => h) (Or.inl ⟨by rfl, ?_⟩) (⟨(hle4.cell zw).trans d3, (hle4.cell zb).trans q1, (hle4.cell zb).trans q2⟩) ?_
        rotate_left 1
        · (intro w hSw; (try dsimp only at hSw); go_simp; try with_reducible rfl)
        try simp only [Act.put, List.setIfInBounds_toArray, List.set_cons_zero, List.set_cons_succ]
        refine wpAnyZ_done (by kernel_rfl) ?_ _
        refine NoPanic.normal ?_
        rw [hgr] at HQ
        cases h1 : isAL xs g[k].cls a
        · rw [h1] at HQ
          cases wi
          · have HQ' := HQ
            have HY : Hid (keepsAt (tS xs a false) g i = true) := by
              show _ = _
              rw [HF.out, HA.out, HQ.out]; simp
            have HW := Lib.hid (hl.trans (HLD.out.trans hle4))
            go_wp2
            go_ret
            exact ⟨ret_bool HY.out.symm, HW.out⟩
          · have HQ' := HQ
            have HY : Hid (keepsAt (tS xs a true) g i = anyF (passAt (tS xs a true) g) (k + 1) (endN g i - (k + 1))) := by
              show _ = _
              rw [HF.out, HA.out, HQ.out]; simp
            have HW := Lib.hid (HLD.out.trans hle4)
            go_wp2
            go_roundw
            case rel => exact ⟨k + 1, by omega, by omega, by go_num, HY.out, HW.out⟩
            case measure => simp [intOf]; omega
        · rw [h1] at HQ
          cases wi
          · have HQ' := HQ
            have HY : Hid (keepsAt (tS xs a false) g i = anyF (passAt (tS xs a false) g) (k + 1) (endN g i - (k + 1))) := by
              show _ = _
              rw [HF.out, HA.out, HQ.out]; simp
            have HW := Lib.hid (HLD.out.trans hle4)
            go_wp2
            go_roundw
            case rel => exact ⟨k + 1, by omega, by omega, by go_num, HY.out, HW.out⟩
            case measure => simp [intOf]; omega
          · have HQ' := HQ
            have HY : Hid (keepsAt (tS xs a true) g i = true) := by
              show _ = _
              rw [HF.out, HA.out, HQ.out]; simp
            have HW := Lib.hid (hl.trans (HLD.out.trans hle4))
            go_wp2
            go_ret
            exact ⟨ret_bool HY.out.symm, HW.out⟩
      · rw [hgr] at q1
        refine wpAnyZ_take (i := 0) (v := ?_) rfl (by kernel_rfl) (fun _ _ _ h => h) (Or.inl ⟨by rfl, ?_⟩) (⟨d3, q1, q2⟩) ?_
        rotate_left 1
        · (intro w hSw; (try dsimp only at hSw); go_simp; try with_reducible rfl)
        try simp only [Act.put, List.setIfInBounds_toArray, List.set_cons_zero, List.set_cons_succ]
        refine wpAnyZ_take (i := 1) (v := ?_) rfl (by kernel_rfl) (fun _ _ _ h => h) (Or.inl ⟨by rfl, ?_⟩) (⟨d3, q1, q2⟩) ?_
        rotate_left 1
        · (intro w hSw; (try dsimp only at hSw); go_simp; try with_reducible rfl)
        try simp only [Act.put, List.setIfInBounds_toArray, List.set_cons_zero, List.set_cons_succ]
        refine wpAnyZ_take (i := 2) (v := ?_) rfl (by kernel_rfl) (fun _ _ _ h => h) (Or.inl ⟨by rfl, ?_⟩) (⟨d3, q1, q2⟩) ?_
        rotate_left 1
        · (intro w hSw; (try dsimp only at hSw); go_simp; try with_reducible rfl)
        try simp only [Act.put, List.setIfInBounds_toArray, List.set_cons_zero, List.set_cons_succ]
        refine wpAnyZ_take (i := 3) (v := ?_) rfl (by kernel_rfl) (fun _ _ _ h => h) (Or.inl ⟨by rfl, ?_⟩) (⟨d3, q1, q2⟩) ?_
        rotate_left 1
        · (intro w hSw; (try dsimp only at hSw); go_simp; try with_reducible rfl)
        try simp only [Act.put, List.setIfInBounds_toArray, List.set_cons_zero, List.set_cons_succ]
        refine wpAnyZ_take (i := 4) (v := ?_) rfl (by kernel_rfl) (fun _ _ _ h => h) (Or.inl ⟨by rfl, ?_⟩) (⟨d3, q1, q2⟩) ?_
        rotate_left 1
        · (intro w hSw; (try dsimp only at hSw); go_simp; try with_reducible rfl)
        try simp only [Act.put, List.setIfInBounds_toArray, List.set_cons_zero, List.set_cons_succ]
        refine wpAnyZ_take (i := 5) (v := ?_) rfl (by kernel_rfl) (fun _ _ _ h => h) (Or.inl ⟨by rfl, ?_⟩) (⟨d3, q1, q2⟩) ?_
        rotate_left 1
        · (intro w hSw; (try dsimp only at hSw); go_simp; try with_reducible rfl)
        try simp only [Act.put, List.setIfInBounds_toArray, List.set_cons_zero, List.set_cons_succ]
        refine wpAnyZ_take (i := 6) (v := ?_) rfl (by kernel_rfl) (fun _ _ _ h => h) (Or.inl ⟨by rfl, ?_⟩) (⟨d3, q1, q2⟩) ?_
        rotate_left 1
        · (intro w hSw; (try dsimp only at hSw); go_simp; try with_reducible rfl)
        try simp only [Act.put, List.setIfInBounds_toArray, List.set_cons_zero, List.set_cons_succ]
        refine wpAnyZ_take (i := 7) (v := undef) rfl (by kernel_rfl) (fun _ _ _ h => h) (Or.inr ⟨?_, rfl⟩) (⟨d3, q1, q2⟩) ?_
        · rfl
        try simp only [Act.put, List.setIfInBounds_toArray, List.set_cons_zero, List.set_cons_succ]
        refine wpAnyZ_take (i := 8) (v := undef) rfl (by kernel_rfl) (fun _ _ _ h => h) (Or.inr ⟨?_, rfl⟩) (⟨d3, q1, q2⟩) ?_
        · rfl
        try simp only [Act.put, List.setIfInBounds_toArray, List.set_cons_zero, List.set_cons_succ]
        refine wpAnyZ_take (i := 9) (v := undef) rfl (by kernel_rfl) (fun _ _ _ h => h) (Or.inr ⟨?_, rfl⟩) (⟨d3, q1, q2⟩) ?_
        · rfl
        try simp only [Act.put, List.setIfInBounds_toArray, List.set_cons_zero, List.set_cons_succ]
        refine wpAnyZ_take (i := 10) (v := undef) rfl (by kernel_rfl) (fun _ _ _ h => h) (Or.inr ⟨?_, rfl⟩) (⟨d3, q1, q2⟩) ?_
        · rfl
        try simp only [Act.put, List.setIfInBounds_toArray, List.set_cons_zero, List.set_cons_succ]
        refine wpAnyZ_take (i := 11) (v := undef) rfl (by kernel_rfl) (fun _ _ _ h => h) (Or.inr ⟨?_, rfl⟩) (⟨d3, q1, q2⟩) ?_
        · rfl
        try simp only [Act.put, List.setIfInBounds_toArray, List.set_cons_zero, List.set_cons_succ]
        refine wpAnyZ_take (i := 12) (v := undef) rfl (by kernel_rfl) (fun _ _ _ h => h) (Or.inr ⟨?_, rfl⟩) (⟨d3, q1, q2⟩) ?_
        · rfl
        try simp only [Act.put, List.setIfInBounds_toArray, List.set_cons_zero, List.set_cons_succ]
        refine wpAnyZ_take (i := 13) (v := undef) rfl (by kernel_rfl) (fun _ _ _ h => h) (Or.inr ⟨?_, rfl⟩) (⟨d3, q1, q2⟩) ?_
        · rfl
        try simp only [Act.put, List.setIfInBounds_toArray, List.set_cons_zero, List.set_cons_succ]
        refine wpAnyZ_take (i := 14) (v := undef) rfl (by kernel_rfl) (fun _ _ _ h => h) (Or.inr ⟨?_, rfl⟩) (⟨d3, q1, q2⟩) ?_
        · rfl
        try simp only [Act.put, List.setIfInBounds_toArray, List.set_cons_zero, List.set_cons_succ]
        refine wpAnyZ_take (i := 15) (v := undef) rfl (by kernel_rfl) (fun _ _ _ h => h) (Or.inr ⟨?_, rfl⟩) (⟨d3, q1, q2⟩) ?_
        · rfl
        try simp only [Act.put, List.setIfInBounds_toArray, List.set_cons_zero, List.set_cons_succ]
        refine wpAnyZ_take (i := 16) (v := undef) rfl (by kernel_rfl) (fun _ _ _ h => h) (Or.inr ⟨?_, rfl⟩) (⟨d3, q1, q2⟩) ?_
        · rfl
        try simp only [Act.put, List.setIfInBounds_toArray, List.set_cons_zero, List.set_cons_succ]
        refine wpAnyZ_take (i := 17) (v := ?_) rfl (by kernel_rfl) (fun _ _ _ h => h) (Or.inl ⟨by rfl, ?_⟩) (⟨d3, q1, q2⟩) ?_
        rotate_left 1
        · (intro w hSw; (try dsimp only at hSw); go_simp; try with_reducible rfl)
        try simp only [Act.put, List.setIfInBounds_toArray, List.set_cons_zero, List.set_cons_succ]
        refine wpAnyZ_done (by kernel_rfl) ?_ _
        refine NoPanic.normal ?_
        rw [hgr] at HQ
        have HY : Hid (keepsAt (tS xs a wi) g i = anyF (passAt (tS xs a wi) g) (k + 1) (endN g i - (k + 1))) := by
          show _ = _
          rw [HF.out, HA.out, HQ.out]; simp
        have HW := Lib.hid (HLD.out.trans (Le.refl _))
        go_wp2
        go_roundw
        case rel => exact ⟨k + 1, by omega, by omega, by go_num, HY.out, HW.out⟩
        case measure => simp [intOf]; omega
    · obtain rfl : k = endN g i := by omega
      have HE := Lib.hid (HF.out.trans (anyF_end (f := passAt (tS xs a wi) g) (n := endN g i) (k := endN g i) (by omega)))
      go_wp2
      go_ret
      exact ⟨ret_bool HE.out.symm, hLL⟩
end Go.Proofs.Ytpdggodmiliijaa
