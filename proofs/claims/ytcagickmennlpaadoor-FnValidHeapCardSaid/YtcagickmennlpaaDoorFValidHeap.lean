/- the law FnValidHeap -/
import Derived.Test.YtcagickmennlpaaDoorFH0
import Derived.Test.YtcagickmennlpaaDoorHpJ
import Derived.Test.YtcagickmennlpaaDoorLD
import Derived.Test.YtcagickmennlpaaDoorPK
import Derived.Test.YtcagickmennlpaaDoorRZ
namespace Go.Proofs.YtcagickmennlpaaDoor
open Go.RowKit
set_option maxHeartbeats 4000000 in
set_option maxRecDepth 100000 in
theorem fnValidHeap_walk (A : Option Addr) (n cap : Nat) (bs : List By) (w : World) (hR : Sl w A n cap bs) (NG : GotErr w) :
    Calls Tryd.prog 3 #[.slice A n cap] w fun e w' => e = .returned (.bool true) ∧ Le w w' := by
  have hm := hR.n_le
  by_cases hbig : 1048576 < n
  · go_enter Tryd.func3, Tryd.ntmps3
    go_wp2
    go_ret
    exact ⟨rfl, Le.refl w⟩
  go_enter Tryd.func3, Tryd.ntmps3
  go_wp2_with fail
  refine (drawValidHeap_any A n cap bs w hR).mono ?_
  rintro e w1 ⟨B, m, c, xs, A1, q1, hs, _, rfl, rfl, S, hm8, S2, hl6, L0⟩
  replace NG := NG.le L0
  go_wp2_with fail
  obtain ⟨ct, zt, ch, zh, hleB⟩ := box2 w1 (.slice B m c) (.slice A1 hs.length q1) 25 28
  replace S := S.le hleB
  replace S2 := S2.le hleB
  replace L0 := L0.trans hleB
  replace NG := NG.le hleB
  clear hleB
  generalize (w1.alloc (.cells #[.slice B m c] 25)).alloc (.cells #[.slice A1 hs.length q1] 28) = W1 at *
  have hbb : (okHeap xs hs != okHeap xs hs) = false := by simp
  have hbc : (okHeap xs hs == okHeap xs hs) = true := by simp
  go_wp2_with fail
  refine (iValidHeap_any B A1 m c hs.length q1 xs hs W1 S S2 (by omega)).mono ?_
  rintro e w2 ⟨rfl, hle⟩
  replace ct := (hle.cell zt).trans ct
  replace ch := (hle.cell zh).trans ch
  replace zt := Nat.lt_of_lt_of_le zt hle.size
  replace zh := Nat.lt_of_lt_of_le zh hle.size
  replace S := S.le hle
  replace S2 := S2.le hle
  replace L0 := L0.trans hle
  replace NG := NG.le hle
  clear hle
  go_wp2_with fail
  refine (sValidHeap_any B A1 m c hs.length q1 xs hs w2 S S2 (by omega)).mono ?_
  rintro e w3 ⟨rfl, hle⟩
  replace ct := (hle.cell zt).trans ct
  replace ch := (hle.cell zh).trans ch
  replace zt := Nat.lt_of_lt_of_le zt hle.size
  replace zh := Nat.lt_of_lt_of_le zh hle.size
  replace S := S.le hle
  replace S2 := S2.le hle
  replace L0 := L0.trans hle
  replace NG := NG.le hle
  clear hle
  rcases Bool.eq_false_or_eq_true (okHeap xs hs) with ho | ho
  rotate_left
  · rw [ho] at hbb hbc ⊢
    go_wp2_with fail
    refine (Calls.val (sValidHeap_any B A1 m c hs.length q1 xs hs w3 S S2 (by omega)) (vb ho)).mono ?_
    rintro e w4 ⟨rfl, hle⟩
    replace L0 := L0.trans hle
    clear hle
    go_wp2
    go_ret
    exact ⟨rfl, L0⟩
  have gh := goodH_of ho
  have hch : ∀ i, i < hs.length → ∃ j, (chX xs hs (i : Int)).length = j + 1 ∧ (∀ h0 : 0 < (chX xs hs (i : Int)).length, (chX xs hs (i : Int))[0] = (i : Int)) ∧ ∃ k, k < hs.length ∧ (∀ hj : j < (chX xs hs (i : Int)).length, (chX xs hs (i : Int))[j] = (k : Int)) ∧ ∀ hk : k < hs.length, hs[k].ctx = -1 := fun i hi => by
    have hX : chX xs hs (i : Int) = chainN (ctxOf hs) hs.length (i : Int) := by unfold chX; rw [goodF_mk ho hi]; rfl
    have hI := chain_is (n := hs.length) gh.lnk.ctxlt (show (0 : Int) ≤ i by omega) (by omega)
    have hrng := hI.rngD (show ((i : Nat) : Int) < hs.length by omega) gh.lnk.ctxlt
    have hlast := fun x hx => (chain_last gh.lnk gh.fin (show (0 : Int) ≤ i by omega) (by omega) (x := x) hx)
    rw [hX]
    generalize chainN (ctxOf hs) hs.length (i : Int) = X at *
    have hpos : 0 < X.length := by rcases Nat.eq_zero_or_pos X.length with h | h; exact absurd (List.eq_nil_of_length_eq_zero h) hI.ne; exact h
    obtain ⟨j, hj⟩ : ∃ j, X.length = j + 1 := ⟨X.length - 1, by omega⟩
    refine ⟨j, hj, fun h0 => ?_, ?_⟩
    · have := hI.hd
      rw [List.head?_eq_getElem?, List.getElem?_eq_getElem h0] at this
      injection this
    · have hl := hlast (X[j]'(by omega)) (by rw [List.getLast?_eq_getElem?, show X.length - 1 = j by omega, List.getElem?_eq_getElem (show j < X.length by omega)])
      obtain ⟨k, hk⟩ := Int.eq_ofNat_of_zero_le hl.2.1
      have hkl : k < hs.length := by have := hl.2.2; omega
      refine ⟨k, hkl, fun _ => hk, fun _ => ?_⟩
      have h1 := hl.1
      rw [hk, ctxOf_at hkl] at h1
      exact h1
  have HCH := Lib.hid hch
  have E1 : Hid (okHeap xs [] = true) := okHeap_mk (fun i h => absurd h (by simp)) (fun _ f h0 h1 => absurd h1 (by simp; omega)) (okHeap_fall ho).2.2.1 (by simp)
  rw [ho] at hbb hbc ⊢
  clear hch gh ho
  go_wp2
  go_loopw [6] (fun k wr => ∃ q : Nat, k = .int .i64 q ∧ Le w3 wr) (fun k _ => hs.length - (intOf k).toNat)
  case atStart => exact ⟨0, rfl, Le.refl _⟩
  case round =>
    obtain ⟨q, rfl, hle⟩ := hrel
    have HW := Lib.hid hle
    replace ct := (hle.cell zt).trans ct
    replace ch := (hle.cell zh).trans ch
    replace zt := Nat.lt_of_lt_of_le zt hle.size
    replace zh := Nat.lt_of_lt_of_le zh hle.size
    replace S := S.le hle
    replace S2 := S2.le hle
    replace L0 := L0.trans hle
    replace NG := NG.le hle
    clear hle
    by_cases hlt : q < hs.length
    · obtain ⟨j, hj, hx0, i, hil, hxj, hcx⟩ := HCH.out q hlt
      have hxl := chX_len xs hs (q : Int)
      have hql : (q : Int) < (hs.length : Int) := by omega
      have HJ := Lib.hid hj
      have HX0 := Lib.hid hx0
      have HXJ := Lib.hid hxj
      have HCX := Lib.hid hcx
      clear hj hx0 hxj hcx
      go_wp2_with fail
      refine (Calls.intsH (iContextChain_any B A1 m c hs.length q1 xs hs (q : Int) wr S S2 (by omega) NG)).mono ?_
      rintro e w5 ⟨A5, c5, rfl, S5, hle2⟩
      have HL := Lib.hid hle2
      replace ct := (hle2.cell zt).trans ct
      replace ch := (hle2.cell zh).trans ch
      replace zt := Nat.lt_of_lt_of_le zt hle2.size
      replace zh := Nat.lt_of_lt_of_le zh hle2.size
      replace S := S.le hle2
      replace S2 := S2.le hle2
      replace L0 := L0.trans hle2
      clear hle2
      generalize chX xs hs (q : Int) = X at *
      have hpos : 0 < X.length := by have := HJ.out; omega
      have hlj : j < X.length := by have := HJ.out; omega
      obtain ⟨b, off, rfl, hbl, cp, hr3, hr4⟩ := S5.int_at hlj
      obtain ⟨b', off', e, _, c0, hr1, hr2⟩ := S5.int_at hpos
      injection e with e
      injection e with e1 e2
      subst e1
      subst e2
      rw [HXJ.out hlj] at cp
      rw [HX0.out hpos] at c0
      obtain ⟨b2, off2, rfl, hb2, _, _, _, kx, _, _⟩ := S2.flt_at hil
      rw [HCX.out hil] at kx
      have hb0 : ((X.length : Int) == 0) = false := by rw [beq_eq_false_iff_ne]; omega
      have hwj : IntKind.i64.wrap ((X.length : Int) - 1) = (j : Int) := by rw [HJ.out]; rw [show (((j + 1 : Nat) : Int) - 1) = (j : Int) by omega]; exact IntWalk.i64_in _ (by omega)
      have hjl : (j : Int) < (X.length : Int) := by omega
      have h0l : (0 : Int) < (X.length : Int) := by omega
      have hil2 : (i : Int) < (hs.length : Int) := by omega
      have hqq : ((q : Int) != (q : Int)) = false := by simp
      go_wp2_with fail
      replace cp : w5.drew.cell? ⟨b, off + j, none⟩ = some (.int .i64 (i : Int)) := cp
      replace c0 : w5.drew.cell? ⟨b, off, none⟩ = some (.int .i64 (q : Int)) := c0
      replace kx : w5.drew.cell? ⟨b2, off2 + i * 5 + 3, none⟩ = some (.int .i64 (-1)) := kx
      replace ch : w5.drew.cell? ⟨w1.heap.size + 1, 0, none⟩ = some (.slice (some ⟨b2, off2, none⟩) hs.length q1) := ch
      go_region_held3 (fun w' => w'.cell? ⟨w1.heap.size + 1, 0, none⟩ = some (.slice (some ⟨b2, off2, none⟩) hs.length q1) ∧ w'.cell? ⟨b, off + j, none⟩ = some (.int .i64 (i : Int)) ∧ w'.cell? ⟨b2, off2 + i * 5 + 3, none⟩ = some (.int .i64 (-1)) ∧ w'.cell? ⟨b, off, none⟩ = some (.int .i64 (q : Int)))
        (exact ⟨ch, cp, kx, c0⟩)
        (fail)
      go_wp2
      go_roundw
      case rel => exact ⟨q + 1, by go_num, HW.out.trans (HL.out.trans (Le.refl _).drew)⟩
      case measure => (simp [intOf]) <;> omega
    · have hqx : ¬ (q : Int) < (hs.length : Int) := by omega
      go_wp2_with fail
      refine (Calls.val (iValidHeap_any B none m c 0 0 xs [] wr S (Sl.nil _ _ _ (by omega)) (by omega)) (vb E1.out)).mono ?_
      rintro e w6 ⟨rfl, hle⟩
      replace L0 := L0.trans hle
      clear hle
      go_wp2
      go_ret
      exact ⟨rfl, L0⟩
end Go.Proofs.YtcagickmennlpaaDoor
