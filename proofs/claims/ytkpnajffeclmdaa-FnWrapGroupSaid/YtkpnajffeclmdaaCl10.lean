/- one text of ItE, GpD, ItF -/
import Derived.Test.YtkpnajffeclmdaaCl8
import Derived.Test.YtkpnajffeclmdaaCl9
import Derived.Test.YtkpnajffeclmdaaCl5
import Derived.Test.YtkpnajffeclmdaaCl3
namespace Go.Proofs.Ytkpnajffeclmdaa
open Go.RowKit
set_option linter.unusedVariables false
section
/-- the test of the model's split -/
def tS (xs : List Cls) (a : Int) (wi : Bool) (q : Prt) : Bool := isAL xs q.cls a == wi
theorem anyF_at {f : Nat → Bool} {n k : Nat} (h : k < n) : anyF f k (n - k) = (f k || anyF f (k + 1) (n - (k + 1))) := by
  rw [show n - k = (n - (k + 1)) + 1 by omega]; rfl
theorem anyF_end {f : Nat → Bool} {n k : Nat} (h : ¬ k < n) : anyF f k (n - k) = false := by
  rw [show n - k = 0 by omega]; rfl
set_option maxRecDepth 100000 in
set_option maxHeartbeats 2000000 in
theorem keeps_any (A B : Option Addr) (n cap m c : Nat) (xs : List Cls) (g : List Prt) (G : GoodG xs g) (i : Nat) (hi : i < g.length) (a : Int) (wi : Bool) (w : World) (hT : Sl w A n cap xs) (hG : Sl w B m c g) :
    Calls Try.prog 71 #[.agg #[.slice A n cap], .slice B m c, .int .i64 i, .int .i64 a, .bool wi] w fun e w' => e = .returned (.bool (keepsAt (tS xs a wi) g i)) ∧ Le w w' := by
  obtain rfl := hG.len
  have hmx := hG.n_le
  have g0 := good_of G.tree
  obtain ⟨c0, z0, hl⟩ := box1 w (.slice A n cap) 25
  have hS := hT.le hl
  have hG1 := hG.le hl
  have hend := endN_gt g i
  have hendl := endN_le hi
  go_enter Try.func71, Try.ntmps71
  go_wp2_with fail
  generalize w.alloc (.cells #[.slice A n cap] 25) = w1 at *
  go_loopw [11] (fun q wr => ∃ k : Nat, i ≤ k ∧ k ≤ endN g i ∧ q = .int .i64 k ∧ keepsAt (tS xs a wi) g i = anyF (passAt (tS xs a wi) g) k (endN g i - k) ∧ Le w1 wr) (fun q _ => endN g i - (intOf q).toNat)
  case atStart => exact ⟨i, Nat.le_refl _, by omega, rfl, rfl, Le.refl _⟩
  case round =>
    obtain ⟨k, hk0, hk, rfl, hF, hle⟩ := hrel
    have HF := Lib.hid hF
    clear hF
    have hGr := hG1.le hle
    have hSr := hS.le hle
    have d0 := (hle.cell z0).trans c0
    go_wp2_with fail
    refine (endOf_any _ _ _ g i hi _ hGr).mono ?_
    rintro e w2 ⟨rfl, hle2⟩
    have hL := hle.trans hle2
    have hS2 := hSr.le hle2
    have hG2 := hGr.le hle2
    have d2 := (hle2.cell (Nat.lt_of_lt_of_le z0 hle.size)).trans d0
    have hLL := hl.trans hL
    clear hle hle2 hGr hSr d0
    by_cases hlt : k < endN g i
    · have hkg : k < g.length := by omega
      obtain ⟨b, off, rfl, hb, p0, p1, p2, p3, -⟩ := hG2.prt_at hkg
      have HA : Hid (anyF (passAt (tS xs a wi) g) k (endN g i - k) = (passAt (tS xs a wi) g k || anyF (passAt (tS xs a wi) g) (k + 1) (endN g i - (k + 1)))) := anyF_at hlt
      have HQ : Hid (passAt (tS xs a wi) g k = (!g[k].group && (isAL xs g[k].cls a == wi))) := by show _ = _; unfold passAt tS; rw [gAt_at hkg]
      have HLf := Lib.hid (G.leaf k hkg)
      rw [gAt_at hkg] at HLf
      have d3 : w2.drew.cell? ⟨w.heap.size, 0, none⟩ = some (.slice A n cap) := d2
      have q1 : w2.drew.cell? ⟨b, off + k * 4 + 1, none⟩ = some (.bool g[k].group) := p1
      have q2 : w2.drew.cell? ⟨b, off + k * 4 + 2, none⟩ = some (.int .i64 g[k].cls) := p2
      have hS3 := hS2.le (Le.refl w2).drew
      have HLD := Lib.hid (hL.drew)
      have zb : b < w2.drew.heap.size := hb
      have zw : w.heap.size < w2.drew.heap.size := Nat.lt_of_lt_of_le z0 hL.size
      clear d2 p0 p1 p2 p3
      go_wp2_with fail
      refine wp_region_noPanic ?_
      refine wp_region_Z (fun w' => w'.cell? ⟨w.heap.size, 0, none⟩ = some (.slice A n cap) ∧ w'.cell? ⟨b, off + k * 4 + 1, none⟩ = some (.bool g[k].group) ∧ w'.cell? ⟨b, off + k * 4 + 2, none⟩ = some (.int .i64 g[k].cls)) [] (by kernel_rfl) ?_
      generalize w2.drew = V at *
      cases hgr : g[k].group
      · rw [hgr] at q1
        have hlf := HLf.out hgr
        refine wpAnyZ_take (i := 0) (v := ?_) rfl (by kernel_rfl) (fun _ _ _ h => h) (Or.inl ⟨by rfl, ?_⟩) (⟨d3, q1, q2⟩) ?_
        rotate_left 1
        · (intro w hSw; (try dsimp only at hSw); go_simp; try with_reducible rfl)
        try simp only [Act.put, List.setIfInBounds_toArray, List.set_cons_zero, List.set_cons_succ]
        refine wpAnyZ_take (i := 1) (v := ?_) rfl (by kernel_rfl) (fun _ _ _ h => h) (Or.inl ⟨by rfl, ?_⟩) (⟨d3, q1, q2⟩) ?_
        rotate_left 1
        · (intro w hSw; (try dsimp only at hSw); go_simp; try with_reducible rfl)
        try simp only [Act.put, List.setIfInBounds_toArray, List.set_cons_zero, List.set_cons_succ]
        refine wpAnyZ_take (i := 2) (v := ?_) rfl (by kernel_rfl) (fun _ _ _ h => h) (Or.inl ⟨by rfl, ?_⟩) (⟨d3, q1, q2⟩) ?_
        rotate_left 1
        · (intro w hSw; (try dsimp only at hSw); go_simp; try with_reducible rfl)
        try simp only [Act.put, List.setIfInBounds_toArray, List.set_cons_zero, List.set_cons_succ]
        refine wpAnyZ_take (i := 3) (v := ?_) rfl (by kernel_rfl) (fun _ _ _ h => h) (Or.inl ⟨by rfl, ?_⟩) (⟨d3, q1, q2⟩) ?_
        rotate_left 1
        · (intro w hSw; (try dsimp only at hSw); go_simp; try with_reducible rfl)
        try simp only [Act.put, List.setIfInBounds_toArray, List.set_cons_zero, List.set_cons_succ]
        refine wpAnyZ_take (i := 4) (v := ?_) rfl (by kernel_rfl) (fun _ _ _ h => h) (Or.inl ⟨by rfl, ?_⟩) (⟨d3, q1, q2⟩) ?_
        rotate_left 1
        · (intro w hSw; (try dsimp only at hSw); go_simp; try with_reducible rfl)
        try simp only [Act.put, List.setIfInBounds_toArray, List.set_cons_zero, List.set_cons_succ]
        refine wpAnyZ_take (i := 5) (v := ?_) rfl (by kernel_rfl) (fun _ _ _ h => h) (Or.inl ⟨by rfl, ?_⟩) (⟨d3, q1, q2⟩) ?_
        rotate_left 1
        · (intro w hSw; (try dsimp only at hSw); go_simp; try with_reducible rfl)
        try simp only [Act.put, List.setIfInBounds_toArray, List.set_cons_zero, List.set_cons_succ]
        refine wpAnyZ_take (i := 6) (v := ?_) rfl (by kernel_rfl) (fun _ _ _ h => h) (Or.inl ⟨by rfl, ?_⟩) (⟨d3, q1, q2⟩) ?_
        rotate_left 1
        · (intro w hSw; (try dsimp only at hSw); go_simp; try with_reducible rfl)
        try simp only [Act.put, List.setIfInBounds_toArray, List.set_cons_zero, List.set_cons_succ]
        refine wpAnyZ_take (i := 7) (v := ?_) rfl (by kernel_rfl) (fun _ _ _ h => h) (Or.inl ⟨by rfl, ?_⟩) (⟨d3, q1, q2⟩) ?_
        rotate_left 1
        · (intro w hSw; (try dsimp only at hSw); go_simp; try with_reducible rfl)
        try simp only [Act.put, List.setIfInBounds_toArray, List.set_cons_zero, List.set_cons_succ]
        refine wpAnyZ_take (i := 8) (v := ?_) rfl (by kernel_rfl) (fun _ _ _ h => h) (Or.inl ⟨by rfl, ?_⟩) (⟨d3, q1, q2⟩) ?_
        rotate_left 1
        · (intro w hSw; (try dsimp only at hSw); go_simp; try with_reducible rfl)
        try simp only [Act.put, List.setIfInBounds_toArray, List.set_cons_zero, List.set_cons_succ]
        refine wpAnyZ_take (i := 9) (v := ?_) rfl (by kernel_rfl) (fun _ _ _ h => h) (Or.inl ⟨by rfl, ?_⟩) (⟨d3, q1, q2⟩) ?_
        rotate_left 1
        · (intro w hSw; (try dsimp only at hSw); go_simp; try with_reducible rfl)
        try simp only [Act.put, List.setIfInBounds_toArray, List.set_cons_zero, List.set_cons_succ]
        refine wpAnyZ_take (i := 10) (v := ?_) rfl (by kernel_rfl) (fun _ _ _ h => h) (Or.inl ⟨by rfl, ?_⟩) (⟨d3, q1, q2⟩) ?_
        rotate_left 1
        · (intro w hSw; (try dsimp only at hSw); go_simp; try with_reducible rfl)
        try simp only [Act.put, List.setIfInBounds_toArray, List.set_cons_zero, List.set_cons_succ]
        refine wpAnyZ_take (i := 11) (v := ?_) rfl (by kernel_rfl) (fun _ _ _ h => h) (Or.inl ⟨by rfl, ?_⟩) (⟨d3, q1, q2⟩) ?_
        rotate_left 1
        · (intro w hSw; (try dsimp only at hSw); go_simp; try with_reducible rfl)
        try simp only [Act.put, List.setIfInBounds_toArray, List.set_cons_zero, List.set_cons_succ]
        refine wpAnyZ_take (i := 12) (v := ?_) rfl (by kernel_rfl) (fun _ _ _ h => h) (Or.inl ⟨by rfl, ?_⟩) (⟨d3, q1, q2⟩) ?_
        rotate_left 1
        · (intro w hSw; (try dsimp only at hSw); go_simp; try with_reducible rfl)
        try simp only [Act.put, List.setIfInBounds_toArray, List.set_cons_zero, List.set_cons_succ]
        refine wpAnyZ_take (i := 13) (v := ?_) rfl (by kernel_rfl) (fun _ _ _ h => h) (Or.inl ⟨by rfl, ?_⟩) (⟨d3, q1, q2⟩) ?_
        rotate_left 1
        · (intro w hSw; (try dsimp only at hSw); go_simp; try with_reducible rfl)
        try simp only [Act.put, List.setIfInBounds_toArray, List.set_cons_zero, List.set_cons_succ]
        refine wpAnyZ_take (i := 15) (v := ?_) rfl (by kernel_rfl) (fun _ _ _ h => h) (Or.inl ⟨by rfl, ?_⟩) (⟨d3, q1, q2⟩) ?_
        rotate_left 1
        · (intro w hSw; (try dsimp only at hSw); go_simp; try with_reducible rfl)
        try simp only [Act.put, List.setIfInBounds_toArray, List.set_cons_zero, List.set_cons_succ]
        refine wpAnyZ_one (i := 14) (by kernel_rfl) (ReadyZ.mk rfl (fun K hK => ?_))
        go_simp
        go_at_call 85
        refine (isA_any A n cap xs g[k].cls a _ hS3 g0 (by omega) (by omega)).mono ?_
        rintro e V4 ⟨rfl, hle4⟩
        refine hK.out _ _ (fun _ => ⟨(hle4.cell zw).trans d3, (hle4.cell zb).trans q1, (hle4.cell zb).trans q2⟩) ?_
        clear hK K
        try simp only [Act.put, List.setIfInBounds_toArray, List.set_cons_zero, List.set_cons_succ]
        refine wpAnyZ_take (i := 16) (v := ?_) rfl (by kernel_rfl) (fun _ _ _ h => h) (Or.inl ⟨by rfl, ?_⟩) (⟨(hle4.cell zw).trans d3, (hle4.cell zb).trans q1, (hle4.cell zb).trans q2⟩) ?_
        rotate_left 1
        · (intro w hSw; (try dsimp only at hSw); go_simp; try with_reducible rfl)
        try simp only [Act.put, List.setIfInBounds_toArray, List.set_cons_zero, List.set_cons_succ]
        refine wpAnyZ_take (i := 17) (v := ?_) rfl (by kernel_rfl) (fun _ _ _ h => h) (Or.inl ⟨by rfl, ?_⟩) (⟨(hle4.cell zw).trans d3, (hle4.cell zb).trans q1, (hle4.cell zb).trans q2⟩) ?_
        rotate_left 1
        · (intro w hSw; (try dsimp only at hSw); go_simp; try with_reducible rfl)
        try simp only [Act.put, List.setIfInBounds_toArray, List.set_cons_zero, List.set_cons_succ]
        refine wpAnyZ_done (by kernel_rfl) ?_ _
        refine NoPanic.normal ?_
        rw [hgr] at HQ
        cases h1 : isAL xs g[k].cls a
        · rw [h1] at HQ
          cases wi
          · have HQ' := HQ
            have HY : Hid (keepsAt (tS xs a false) g i = true) := by
              show _ = _
              rw [HF.out, HA.out, HQ.out]; simp
            have HW := Lib.hid (hl.trans (HLD.out.trans hle4))
            go_wp2
            go_ret
            exact ⟨ret_bool HY.out.symm, HW.out⟩
          · have HQ' := HQ
            have HY : Hid (keepsAt (tS xs a true) g i = anyF (passAt (tS xs a true) g) (k + 1) (endN g i - (k + 1))) := by
              show _ = _
              rw [HF.out, HA.out, HQ.out]; simp
            have HW := Lib.hid (HLD.out.trans hle4)
            go_wp2
            go_roundw
            case rel => exact ⟨k + 1, by omega, by omega, by go_num, HY.out, HW.out⟩
            case measure => simp [intOf]; omega
        · rw [h1] at HQ
          cases wi
          · have HQ' := HQ
            have HY : Hid (keepsAt (tS xs a false) g i = anyF (passAt (tS xs a false) g) (k + 1) (endN g i - (k + 1))) := by
              show _ = _
              rw [HF.out, HA.out, HQ.out]; simp
            have HW := Lib.hid (HLD.out.trans hle4)
            go_wp2
            go_roundw
            case rel => exact ⟨k + 1, by omega, by omega, by go_num, HY.out, HW.out⟩
            case measure => simp [intOf]; omega
          · have HQ' := HQ
            have HY : Hid (keepsAt (tS xs a true) g i = true) := by
              show _ = _
              rw [HF.out, HA.out, HQ.out]; simp
            have HW := Lib.hid (hl.trans (HLD.out.trans hle4))
            go_wp2
            go_ret
            exact ⟨ret_bool HY.out.symm, HW.out⟩
      · rw [hgr] at q1
        refine wpAnyZ_take (i := 0) (v := ?_) rfl (by kernel_rfl) (fun _ _ _ h => h) (Or.inl ⟨by rfl, ?_⟩) (⟨d3, q1, q2⟩) ?_
        rotate_left 1
        · (intro w hSw; (try dsimp only at hSw); go_simp; try with_reducible rfl)
        try simp only [Act.put, List.setIfInBounds_toArray, List.set_cons_zero, List.set_cons_succ]
        refine wpAnyZ_take (i := 1) (v := ?_) rfl (by kernel_rfl) (fun _ _ _ h => h) (Or.inl ⟨by rfl, ?_⟩) (⟨d3, q1, q2⟩) ?_
        rotate_left 1
        · (intro w hSw; (try dsimp only at hSw); go_simp; try with_reducible rfl)
        try simp only [Act.put, List.setIfInBounds_toArray, List.set_cons_zero, List.set_cons_succ]
        refine wpAnyZ_take (i := 2) (v := ?_) rfl (by kernel_rfl) (fun _ _ _ h => h) (Or.inl ⟨by rfl, ?_⟩) (⟨d3, q1, q2⟩) ?_
        rotate_left 1
        · (intro w hSw; (try dsimp only at hSw); go_simp; try with_reducible rfl)
        try simp only [Act.put, List.setIfInBounds_toArray, List.set_cons_zero, List.set_cons_succ]
        refine wpAnyZ_take (i := 3) (v := ?_) rfl (by kernel_rfl) (fun _ _ _ h => h) (Or.inl ⟨by rfl, ?_⟩) (⟨d3, q1, q2⟩) ?_
        rotate_left 1
        · (intro w hSw; (try dsimp only at hSw); go_simp; try with_reducible rfl)
        try simp only [Act.put, List.setIfInBounds_toArray, List.set_cons_zero, List.set_cons_succ]
        refine wpAnyZ_take (i := 4) (v := ?_) rfl (by kernel_rfl) (fun _ _ _ h => h) (Or.inl ⟨by rfl, ?_⟩) (⟨d3, q1, q2⟩) ?_
        rotate_left 1
        · (intro w hSw; (try dsimp only at hSw); go_simp; try with_reducible rfl)
        try simp only [Act.put, List.setIfInBounds_toArray, List.set_cons_zero, List.set_cons_succ]
        refine wpAnyZ_take (i := 5) (v := ?_) rfl (by kernel_rfl) (fun _ _ _ h => h) (Or.inl ⟨by rfl, ?_⟩) (⟨d3, q1, q2⟩) ?_
        rotate_left 1
        · (intro w hSw; (try dsimp only at hSw); go_simp; try with_reducible rfl)
        try simp only [Act.put, List.setIfInBounds_toArray, List.set_cons_zero, List.set_cons_succ]
        refine wpAnyZ_take (i := 6) (v := ?_) rfl (by kernel_rfl) (fun _ _ _ h => h) (Or.inl ⟨by rfl, ?_⟩) (⟨d3, q1, q2⟩) ?_
        rotate_left 1
        · (intro w hSw; (try dsimp only at hSw); go_simp; try with_reducible rfl)
        try simp only [Act.put, List.setIfInBounds_toArray, List.set_cons_zero, List.set_cons_succ]
        refine wpAnyZ_take (i := 7) (v := undef) rfl (by kernel_rfl) (fun _ _ _ h => h) (Or.inr ⟨?_, rfl⟩) (⟨d3, q1, q2⟩) ?_
        · rfl
        try simp only [Act.put, List.setIfInBounds_toArray, List.set_cons_zero, List.set_cons_succ]
        refine wpAnyZ_take (i := 8) (v := undef) rfl (by kernel_rfl) (fun _ _ _ h => h) (Or.inr ⟨?_, rfl⟩) (⟨d3, q1, q2⟩) ?_
        · rfl
        try simp only [Act.put, List.setIfInBounds_toArray, List.set_cons_zero, List.set_cons_succ]
        refine wpAnyZ_take (i := 9) (v := undef) rfl (by kernel_rfl) (fun _ _ _ h => h) (Or.inr ⟨?_, rfl⟩) (⟨d3, q1, q2⟩) ?_
        · rfl
        try simp only [Act.put, List.setIfInBounds_toArray, List.set_cons_zero, List.set_cons_succ]
        refine wpAnyZ_take (i := 10) (v := undef) rfl (by kernel_rfl) (fun _ _ _ h => h) (Or.inr ⟨?_, rfl⟩) (⟨d3, q1, q2⟩) ?_
        · rfl
        try simp only [Act.put, List.setIfInBounds_toArray, List.set_cons_zero, List.set_cons_succ]
        refine wpAnyZ_take (i := 11) (v := undef) rfl (by kernel_rfl) (fun _ _ _ h => h) (Or.inr ⟨?_, rfl⟩) (⟨d3, q1, q2⟩) ?_
        · rfl
        try simp only [Act.put, List.setIfInBounds_toArray, List.set_cons_zero, List.set_cons_succ]
        refine wpAnyZ_take (i := 12) (v := undef) rfl (by kernel_rfl) (fun _ _ _ h => h) (Or.inr ⟨?_, rfl⟩) (⟨d3, q1, q2⟩) ?_
        · rfl
        try simp only [Act.put, List.setIfInBounds_toArray, List.set_cons_zero, List.set_cons_succ]
        refine wpAnyZ_take (i := 13) (v := undef) rfl (by kernel_rfl) (fun _ _ _ h => h) (Or.inr ⟨?_, rfl⟩) (⟨d3, q1, q2⟩) ?_
        · rfl
        try simp only [Act.put, List.setIfInBounds_toArray, List.set_cons_zero, List.set_cons_succ]
        refine wpAnyZ_take (i := 14) (v := undef) rfl (by kernel_rfl) (fun _ _ _ h => h) (Or.inr ⟨?_, rfl⟩) (⟨d3, q1, q2⟩) ?_
        · rfl
        try simp only [Act.put, List.setIfInBounds_toArray, List.set_cons_zero, List.set_cons_succ]
        refine wpAnyZ_take (i := 15) (v := undef) rfl (by kernel_rfl) (fun _ _ _ h => h) (Or.inr ⟨?_, rfl⟩) (⟨d3, q1, q2⟩) ?_
        · rfl
        try simp only [Act.put, List.setIfInBounds_toArray, List.set_cons_zero, List.set_cons_succ]
        refine wpAnyZ_take (i := 16) (v := undef) rfl (by kernel_rfl) (fun _ _ _ h => h) (Or.inr ⟨?_, rfl⟩) (⟨d3, q1, q2⟩) ?_
        · rfl
        try simp only [Act.put, List.setIfInBounds_toArray, List.set_cons_zero, List.set_cons_succ]
        refine wpAnyZ_take (i := 17) (v := ?_) rfl (by kernel_rfl) (fun _ _ _ h => h) (Or.inl ⟨by rfl, ?_⟩) (⟨d3, q1, q2⟩) ?_
        rotate_left 1
        · (intro w hSw; (try dsimp only at hSw); go_simp; try with_reducible rfl)
        try simp only [Act.put, List.setIfInBounds_toArray, List.set_cons_zero, List.set_cons_succ]
        refine wpAnyZ_done (by kernel_rfl) ?_ _
        refine NoPanic.normal ?_
        rw [hgr] at HQ
        have HY : Hid (keepsAt (tS xs a wi) g i = anyF (passAt (tS xs a wi) g) (k + 1) (endN g i - (k + 1))) := by
          show _ = _
          rw [HF.out, HA.out, HQ.out]; simp
        have HW := Lib.hid (HLD.out.trans (Le.refl _))
        go_wp2
        go_roundw
        case rel => exact ⟨k + 1, by omega, by omega, by go_num, HY.out, HW.out⟩
        case measure => simp [intOf]; omega
    · obtain rfl : k = endN g i := by omega
      have HE := Lib.hid (HF.out.trans (anyF_end (f := passAt (tS xs a wi) g) (n := endN g i) (k := endN g i) (by omega)))
      go_wp2
      go_ret
      exact ⟨ret_bool HE.out.symm, hLL⟩
end

section
def selL (f : Nat → Bool) (g : List Prt) : Nat → Nat → List Prt
  | _, 0 => []
  | k, m + 1 => cond (f k) [gAt g k] [] ++ selL f g (k + 1) m
theorem selL_append (f : Nat → Bool) (g : List Prt) : ∀ m k j, selL f g k (m + j) = selL f g k m ++ selL f g (k + m) j
  | 0, k, j => by simp [selL]
  | m + 1, k, j => by
    have e : m + 1 + j = (m + j) + 1 := by omega
    rw [e, selL, selL, selL_append f g m (k + 1) j, List.append_assoc, show k + 1 + m = k + (m + 1) by omega]
theorem selL_none {f : Nat → Bool} {g : List Prt} : ∀ m k, (∀ i, k ≤ i → i < k + m → f i = false) → selL f g k m = []
  | 0, _, _ => rfl
  | m + 1, k, h => by
    rw [selL, h k (Nat.le_refl _) (by omega), selL_none m (k + 1) (fun i a b => h i (by omega) (by omega))]
    rfl
/-- the visits of the pieces from f up to b -/
def vis (t : Prt → Bool) (g : List Prt) : Nat → Nat → Nat → List Prt
  | 0, _, _ => []
  | m + 1, f, b => if f < b then cond (anyF (passAt t g) f (endN g f - f)) (gAt g f :: vis t g m (f + 1) (endN g f)) [] ++ vis t g m (endN g f) b else []
theorem vis_is (t : Prt → Bool) (g : List Prt) : ∀ (m f b : Nat), b ≤ g.length → (∀ i, f ≤ i → i < b → endN g i ≤ b) → b - f ≤ m → vis t g m f b = selL (keepsAt t g) g f (b - f)
  | 0, f, b, _, _, hm => by rw [show b - f = 0 by omega]; rfl
  | m + 1, f, b, hb, hn, hm => by
    unfold vis
    by_cases h : f < b
    · rw [if_pos h]
      have hgt := endN_gt g f
      have hle := hn f (Nat.le_refl _) h
      have hfl : f < g.length := by omega
      have ih2 := vis_is t g m (endN g f) b hb (fun i a c => hn i (by omega) c) (by omega)
      have ih1 := vis_is t g m (f + 1) (endN g f) (by omega) (fun i a c => endN_nest hfl (by omega) c) (by omega)
      rw [ih2]
      have es : b - f = (endN g f - f) + (b - endN g f) := by omega
      rw [es, selL_append, show f + (endN g f - f) = endN g f by omega]
      congr 1
      have e1 : endN g f - f = (endN g f - (f + 1)) + 1 := by omega
      cases ha : anyF (passAt t g) f (endN g f - f)
      · rw [cond_false]
        symm
        refine selL_none _ _ (fun i h1 h2 => ?_)
        cases hk : keepsAt t g i
        · rfl
        · exfalso
          obtain ⟨k, a1, a2, a3⟩ := keeps_iff.1 hk
          have hne : endN g i ≤ endN g f := by
            by_cases e : i = f
            · subst e; exact Nat.le_refl _
            · exact endN_nest hfl (by omega) (by omega)
          have : anyF (passAt t g) f (endN g f - f) = true := (anyF_iff _ _).2 ⟨k, by omega, by omega, a3⟩
          rw [this] at ha; cases ha
      · rw [cond_true, ih1, e1, selL]
        have hk : keepsAt t g f = true := ha
        rw [hk]
        rfl
    · rw [if_neg h, show b - f = 0 by omega]; rfl
/-- the whole of a valid group -/
theorem vis_all {xs : List Cls} {g : List Prt} (t : Prt → Bool) (_h : GoodG xs g) : vis t g g.length 0 g.length = selL (keepsAt t g) g 0 g.length :=
  vis_is t g g.length 0 g.length (Nat.le_refl _) (fun _ _ c => endN_le c) (by omega)
end

section
theorem infoPrtS : (Try.prog.info? 57).map (fun i => (i.zero, i.size, i.bytes)) = some (some (.agg #[.int .i64 0, .bool false, .int .i64 0, .int .i64 0]), 4, 32) := by kernel_rfl
instance instOnePrt : EncOne Prt := ⟨by decide, fun x u hu => by simp [Enc.cells] at hu; rcases hu with rfl | rfl | rfl | rfl <;> rfl⟩
def Apart (v u : Value) : Prop := v.ownBlock = none ∨ v.ownBlock ≠ u.ownBlock
theorem Apart.symm {v u : Value} (h : Apart v u) : Apart u v := by
  rcases h with h | h
  · unfold Apart; rw [h]
    cases u.ownBlock
    · exact .inl rfl
    · exact .inr (by simp)
  · exact .inr (Ne.symm h)
theorem Apart.new {w : World} {v u v1 : Value} {base size n m : Nat} {e : TypeId} {xs : List Value} (h : Apart v u) (hu : w.ownsRow base e size u n xs) (hat : v1.ownBlock = v.ownBlock ∨ v1.ownBlock = some m) (hm : w.heap.size ≤ m) : Apart v1 u := by
  rcases hat with h1 | h1
  · unfold Apart; rw [h1]; exact h
  · refine .inr fun e => ?_
    rw [h1] at e
    have := (hu.lt m e.symm).2
    omega
/-- what is kept of a group's first parts -/
def selK (f : Nat → Bool) (g : List Prt) (k : Nat) : List Prt := selL f g 0 k
theorem selK_yes {f : Nat → Bool} {g : List Prt} {k : Nat} (hk : k < g.length) (h : f k = true) : selK f g (k + 1) = selK f g k ++ [g[k]] := by
  unfold selK
  rw [selL_append]
  simp [selL, h, gAt_at hk]
theorem selK_no {f : Nat → Bool} {g : List Prt} {k : Nat} (h : f k = false) : selK f g (k + 1) = selK f g k := by
  unfold selK
  rw [selL_append]
  simp [selL, h]
theorem selK_len (f : Nat → Bool) (g : List Prt) : ∀ k, (selK f g k).length ≤ k
  | 0 => Nat.le_refl _
  | k + 1 => by
    have := selK_len f g k
    unfold selK at this ⊢
    rw [selL_append]
    cases h : f k <;> simp [selL, h] <;> omega
theorem selK_mem {f : Nat → Bool} {g : List Prt} : ∀ k, k ≤ g.length → ∀ x ∈ selK f g k, x ∈ g
  | 0, _, x, h => nomatch h
  | k + 1, hk, x, h => by
    cases e : f k
    · rw [selK_no e] at h; exact selK_mem k (by omega) x h
    · rw [selK_yes (by omega) e] at h
      rcases List.mem_append.1 h with h | h
      · exact selK_mem k (by omega) x h
      · rw [List.mem_singleton.1 h]; exact List.getElem_mem _
def SpOut (w : World) (L M : List Prt) (e : Ending) (w' : World) : Prop := ∃ v u, e = .returned (.tuple #[v, u]) ∧ Owd 57 w w' v L ∧ Owd 57 w w' u M ∧ Apart v u ∧ Le w w'
set_option maxRecDepth 100000 in
set_option maxHeartbeats 4000000 in
theorem split_any (A B : Option Addr) (n cap m c : Nat) (xs : List Cls) (g : List Prt) (G : GoodG xs g) (a : Int) (w : World) (hT : Sl w A n cap xs) (hG : Sl w B m c g) :
    Calls Try.prog 39 #[.agg #[.slice A n cap], .slice B m c, .int .i64 a] w (SpOut w (selK (keepsAt (tS xs a true) g) g g.length) (selK (keepsAt (tS xs a false) g) g g.length)) := by
  obtain ⟨i0, hi, hz0, hz1, hz2⟩ := info_parts infoPrtS
  obtain rfl := hG.len
  have hmx := G.len.2
  have HOK : Hid (∀ (f : Nat → Bool), ∀ x ∈ selK f g g.length, Enc.ok x) := fun f x hx => hG.ok x (selK_mem g.length (Nat.le_refl _) x hx)
  obtain ⟨c0, z0, hl⟩ := box1 w (.slice A n cap) 25
  have hS := hT.le hl
  have hG1 := hG.le hl
  go_enter Try.func39, Try.ntmps39
  go_wp2_with fail
  have hs1 : (w.alloc (.cells #[.slice A n cap] 25)).heap.size = w.heap.size + 1 := by simp
  generalize w.alloc (.cells #[.slice A n cap] 25) = w1 at *
  rw [← hs1]
  clear hs1
  go_loopw [8, 9, 10] (fun v u q wr => ∃ k : Nat, k ≤ g.length ∧ q = .int .i64 k ∧ wr.ownsRow w1.heap.size 57 4 v (selK (keepsAt (tS xs a true) g) g k).length ((selK (keepsAt (tS xs a true) g) g k).flatMap Enc.cells) ∧ wr.ownsRow w1.heap.size 57 4 u (selK (keepsAt (tS xs a false) g) g k).length ((selK (keepsAt (tS xs a false) g) g k).flatMap Enc.cells) ∧ Apart v u ∧ Le w1 wr) (fun _ _ q _ => g.length - (intOf q).toNat)
  case atStart => exact ⟨0, Nat.zero_le _, rfl, (own_empty (Nat.le_refl _) rfl).alloc _, own_empty (by simp) (by simp), .inr (by simp [Value.ownBlock]), (Le.new w1 _).alloc _⟩
  case round =>
    obtain ⟨k, hk, rfl, O1, O2, AP, L⟩ := hrel
    have T := hS.le L
    have R := hG1.le L
    have d0 := (L.cell z0).trans c0
    by_cases hlt : k < g.length
    · have hl1 := selK_len (keepsAt (tS xs a true) g) g k
      have hl2 := selK_len (keepsAt (tS xs a false) g) g k
      go_wp2_with fail
      refine (keeps_any _ _ _ _ _ _ xs g G k hlt a true _ T R).mono ?_
      rintro e w3 ⟨rfl, hle3⟩
      have T3 := T.le hle3
      have R3 := R.le hle3
      have d3 := (hle3.cell (Nat.lt_of_lt_of_le z0 L.size)).trans d0
      have P1 := own_le O1 hle3
      have P2 := own_le O2 hle3
      have L3 := L.trans hle3
      clear O1 O2 T R d0 hle3
      obtain ⟨b, off, rfl, hb, p0, p1, p2, p3, -⟩ := R3.prt_at hlt
      have hok : Enc.ok g[k] := R3.ok _ (List.getElem_mem hlt)
      cases h1 : keepsAt (tS xs a true) g k
      · have HB1 := Lib.hid (selK_no (g := g) h1)
        have T4 := hS.le L3
        have R4 := hG1.le L3
        go_wp2_with fail
        refine (keeps_any _ _ _ _ _ _ xs g G k hlt a false _ T4 R4).mono ?_
        rintro e w5 ⟨rfl, hle5⟩
        have L5 := L3.trans hle5
        have R5 := hG1.le L5
        have d5 := (L5.cell z0).trans c0
        have O51 := own_le P1 hle5
        have O52 := own_le P2 hle5
        clear T4 R4 hle5 P1 P2 d3
        obtain ⟨b5, off5, e5, hb5, s0, s1, s2, s3, -⟩ := R5.prt_at hlt
        cases e5
        cases h2 : keepsAt (tS xs a false) g k
        · have HB2 := Lib.hid (selK_no (g := g) h2)
          go_wp2
          go_roundw
          case rel => exact ⟨k + 1, by omega, by go_num, by rw [HB1.out]; exact O51, by rw [HB2.out]; exact O52, AP, L5⟩
          case measure => simp [intOf]; omega
        · have HB2 := Lib.hid (selK_yes hlt h2)
          go_wp2_with (at_builtin; refine wpList_append_sl rfl _ _ 26 rfl w1.heap.size 57 i0 _ 32 Try.underlying26 hi hz0 hz1 hz2 rfl _ _ (selK (keepsAt (tS xs a false) g) g k) rfl (O52.alloc _) _ 1 1 [g[k]] rfl (sl_one g[k] rfl hok rfl) (by unfold maxLen; omega) (by omega) (L5.alloc _).size ?_; intro v6 w6 U2 hg6 hat6; have L6 := (L5.alloc _).grown hg6 (fun k hk => (O52.lt k hk).1); have U1 := (O51.alloc (.cells #[.int .i64 g[k].depth, .bool g[k].group, .int .i64 g[k].cls, .int .i64 g[k].code] 57)).kept hg6 AP; have AP6 := (Apart.new (Apart.symm AP) (O51.alloc (.cells #[.int .i64 g[k].depth, .bool g[k].group, .int .i64 g[k].cls, .int .i64 g[k].code] 57)) hat6 (Nat.le_refl _)).symm; have d6 := (L6.cell z0).trans c0; clear hg6 hat6)
          go_roundw
          case rel => exact ⟨k + 1, by omega, by go_num, by rw [HB1.out]; exact U1, by rw [HB2.out, List.length_append]; exact U2, AP6, L6⟩
          case measure => simp [intOf]; omega
      · have HB1 := Lib.hid (selK_yes hlt h1)
        go_wp2_with (at_builtin; refine wpList_append_sl rfl _ _ 26 rfl w1.heap.size 57 i0 _ 32 Try.underlying26 hi hz0 hz1 hz2 rfl _ _ (selK (keepsAt (tS xs a true) g) g k) rfl (P1.alloc _) _ 1 1 [g[k]] rfl (sl_one g[k] rfl hok rfl) (by unfold maxLen; omega) (by omega) (L3.alloc _).size ?_; intro v4 w4 Q1 hg4 hat4; have L4 := (L3.alloc _).grown hg4 (fun k hk => (P1.lt k hk).1); have Q2 := (P2.alloc (.cells #[.int .i64 g[k].depth, .bool g[k].group, .int .i64 g[k].cls, .int .i64 g[k].code] 57)).kept hg4 AP.symm; have AP4 := AP.new (P2.alloc (.cells #[.int .i64 g[k].depth, .bool g[k].group, .int .i64 g[k].cls, .int .i64 g[k].code] 57)) hat4 (Nat.le_refl _); have d4 := (L4.cell z0).trans c0; clear hg4 hat4)
        have T4 := hS.le L4
        have R4 := hG1.le L4
        go_wp2_with fail
        refine (keeps_any _ _ _ _ _ _ xs g G k hlt a false _ T4 R4).mono ?_
        rintro e w5 ⟨rfl, hle5⟩
        have L5 := L4.trans hle5
        have R5 := hG1.le L5
        have d5 := (L5.cell z0).trans c0
        have O51 := own_le Q1 hle5
        have O52 := own_le Q2 hle5
        clear T4 R4 hle5 Q1 Q2 d4
        obtain ⟨b5, off5, e5, hb5, s0, s1, s2, s3, -⟩ := R5.prt_at hlt
        cases e5
        cases h2 : keepsAt (tS xs a false) g k
        · have HB2 := Lib.hid (selK_no (g := g) h2)
          go_wp2
          go_roundw
          case rel => exact ⟨k + 1, by omega, by go_num, by rw [HB1.out, List.length_append]; exact O51, by rw [HB2.out]; exact O52, AP4, L5⟩
          case measure => simp [intOf]; omega
        · have HB2 := Lib.hid (selK_yes hlt h2)
          go_wp2_with (at_builtin; refine wpList_append_sl rfl _ _ 26 rfl w1.heap.size 57 i0 _ 32 Try.underlying26 hi hz0 hz1 hz2 rfl _ _ (selK (keepsAt (tS xs a false) g) g k) rfl (O52.alloc _) _ 1 1 [g[k]] rfl (sl_one g[k] rfl hok rfl) (by unfold maxLen; omega) (by omega) (L5.alloc _).size ?_; intro v6 w6 U2 hg6 hat6; have L6 := (L5.alloc _).grown hg6 (fun k hk => (O52.lt k hk).1); have U1 := (O51.alloc (.cells #[.int .i64 g[k].depth, .bool g[k].group, .int .i64 g[k].cls, .int .i64 g[k].code] 57)).kept hg6 AP4; have AP6 := (Apart.new (Apart.symm AP4) (O51.alloc (.cells #[.int .i64 g[k].depth, .bool g[k].group, .int .i64 g[k].cls, .int .i64 g[k].code] 57)) hat6 (Nat.le_refl _)).symm; have d6 := (L6.cell z0).trans c0; clear hg6 hat6)
          go_roundw
          case rel => exact ⟨k + 1, by omega, by go_num, by rw [HB1.out, List.length_append]; exact U1, by rw [HB2.out, List.length_append]; exact U2, AP6, L6⟩
          case measure => simp [intOf]; omega
    · obtain rfl : k = g.length := by omega
      have W1 : Owd 57 w wr u8 (selK (keepsAt (tS xs a true) g) g g.length) := ⟨own_mono O1 hl.size, HOK.out _⟩
      have W2 : Owd 57 w wr u9 (selK (keepsAt (tS xs a false) g) g g.length) := ⟨own_mono O2 hl.size, HOK.out _⟩
      have HW : Hid (SpOut w (selK (keepsAt (tS xs a true) g) g g.length) (selK (keepsAt (tS xs a false) g) g g.length) (.returned (.tuple #[u8, u9])) wr) := ⟨_, _, rfl, W1, W2, AP, hl.trans L⟩
      clear O1 O2 W1 W2
      go_wp2
      go_ret2
      exact HW.out
/-- a leaf that the class takes is kept -/
theorem keep_any {xs : List Cls} {g : List Prt} (a : Int) : decide (0 < (selK (keepsAt (tS xs a true) g) g g.length).length) = (leavesL g).any (fun x => isAL xs x.cls a) := by
  have h1 : ∀ (f : Nat → Bool) (k : Nat), decide (0 < (selK f g k).length) = anyF f 0 k := by
    intro f k
    unfold selK
    rw [Bool.eq_iff_iff, anyF_iff, decide_eq_true_iff]
    constructor
    · intro h
      by_cases e : ∃ i, 0 ≤ i ∧ i < 0 + k ∧ f i = true
      · exact e
      · rw [selL_none k 0 (fun i a b => by cases hf : f i; rfl; exact absurd ⟨i, a, b, hf⟩ e)] at h; simp at h
    · rintro ⟨i, _, hi, hf⟩
      have e : k = i + (1 + (k - i - 1)) := by omega
      rw [e, selL_append, selL_append]
      simp [selL, hf]
      omega
  rw [h1, kept_any, Bool.eq_iff_iff, anyF_iff, List.any_eq_true]
  unfold leavesL
  constructor
  · rintro ⟨i, _, hi, hp⟩
    have hi' : i < g.length := by omega
    unfold passAt tS at hp
    rw [gAt_at hi'] at hp
    simp only [Bool.and_eq_true, Bool.not_eq_true', beq_iff_eq] at hp
    exact ⟨_, List.mem_map.2 ⟨g[i], List.mem_filter.2 ⟨List.getElem_mem hi', by simp [hp.1]⟩, rfl⟩, hp.2⟩
  · rintro ⟨x, hx, hp⟩
    obtain ⟨q, hq, rfl⟩ := List.mem_map.1 hx
    obtain ⟨hm, hg⟩ := List.mem_filter.1 hq
    obtain ⟨i, hi, e⟩ := List.getElem_of_mem hm
    refine ⟨i, Nat.zero_le _, by omega, ?_⟩
    unfold passAt tS
    rw [gAt_at hi, e]
    have hp' : isAL xs q.cls a = true := hp
    simp [hp']
    simpa using hg
end
end Go.Proofs.Ytkpnajffeclmdaa
