/- the law FnSetCause -/
import Derived.Test.YtcagickmennlpaaDoorFH0
import Derived.Test.YtcagickmennlpaaDoorHpSs
import Derived.Test.YtcagickmennlpaaDoorHpSi
import Derived.Test.YtcagickmennlpaaDoorHpJ
namespace Go.Proofs.YtcagickmennlpaaDoor
open Go.RowKit
set_option maxHeartbeats 4000000 in
set_option maxRecDepth 100000 in
theorem fnSetCause_walk (A : Option Addr) (n cap : Nat) (bs : List By) (w : World) (hR : Sl w A n cap bs) (NG : GotErr w) :
    Calls Tryd.prog 7 #[.slice A n cap] w fun e w' => e = .returned (.bool true) ∧ Le w w' := by
  have hm := hR.n_le
  by_cases hbig : 1048576 < n
  · go_enter Tryd.func7, Tryd.ntmps7
    go_wp2
    go_ret
    exact ⟨rfl, Le.refl w⟩
  go_enter Tryd.func7, Tryd.ntmps7
  go_wp2_with fail
  refine (drawSetCause_any A n cap bs w hR).mono ?_
  rintro e w1 ⟨B, m, c, xs, A1, q1, hs, _, rfl, ⟨f, p, rfl, hf0, hf1, hp0, hp1⟩, S, hm8, S2, hl6, L0⟩
  replace NG := NG.le L0
  go_wp2_with fail
  obtain ⟨ct, zt, ch, zh, hleB⟩ := box2 w1 (.slice B m c) (.slice A1 hs.length q1) 25 28
  replace S := S.le hleB
  replace S2 := S2.le hleB
  replace L0 := L0.trans hleB
  replace NG := NG.le hleB
  clear hleB
  generalize (w1.alloc (.cells #[.slice B m c] 25)).alloc (.cells #[.slice A1 hs.length q1] 28) = W1 at *
  have hpr : -9223372036854775808 ≤ p ∧ p ≤ 9223372036854775807 := by omega
  have hI := iSetCause_any B A1 m c hs.length q1 xs hs f p W1 S S2 (by omega) hpr
  have HQ : Hid (∀ w, Sl w B m c xs → Sl w A1 hs.length q1 hs → _) := fun w h h2 => sSetCause_any B A1 m c hs.length q1 xs hs f p w h h2 (by omega) hpr
  have hlen : (scX xs hs f p).length ≤ 6 := by
    cases h : scOk xs hs f p
    · rw [scX_of h]; simp
    · rw [scX_of h]; show (setF _ _ _).length ≤ 6; rw [setF_len]; exact hl6
  have HF : scOk xs hs f p = true → goodF xs hs f = true ∧ vl hs.length f p = true := fun h => by unfold scOk at h; rw [Bool.and_eq_true] at h; exact h
  have HX : scOk xs hs f p = true → scX xs hs f p = setF hs f (cauF p) := fun h => by rw [scX_of h]; rfl
  rcases Bool.eq_false_or_eq_true (scOk xs hs f p) with ho | ho
  · obtain ⟨hg, hv⟩ := HF ho
    have hX := HX ho
    obtain ⟨i, rfl, hi⟩ := goodF_at hg
    have hok : okHeap xs hs = true := by unfold goodF at hg; rw [Bool.and_eq_true] at hg; exact hg.1
    have hv2 : p ≠ (i : Int) ∧ -1 ≤ p ∧ p < hs.length := by
      unfold vl at hv; rw [Bool.and_eq_true, rng_iff, bne_iff_ne] at hv; exact ⟨hv.1, by omega, by omega⟩
    have ok2 := ok_cau hi (c := p) ⟨hv2.2.1, hv2.2.2, hv2.1⟩ hok
    have hlx : (setF hs (i : Int) (cauF p)).length = hs.length := setF_len ..
    have hg2 : goodF xs (setF hs (i : Int) (cauF p)) (i : Int) = true := goodF_mk ok2 (by rw [hlx]; exact hi)
    have E1 : Hid (scOk xs (setF hs (i : Int) (cauF p)) (i : Int) p = true) := by
      show _ = _
      unfold scOk; rw [hg2, hlx, hv]; rfl
    have E2 : Hid (scX xs (setF hs (i : Int) (cauF p)) (i : Int) p = setF hs (i : Int) (cauF p)) := by
      show _ = _
      rw [scX_of E1.out]; exact cau_twice hs i hi p
    have E3 : Hid (shownX xs (setF hs (i : Int) (cauF p)) (i : Int) = p) := by
      show _ = _
      unfold shownX; rw [hg2]; exact shown_cau hi hv2.2.1
    have E4 : Hid (chX xs (setF hs (i : Int) (cauF p)) (i : Int) = chX xs hs (i : Int)) := by
      show _ = _
      unfold chX; rw [hg2, hg]; exact chain_cau hi p (i : Int)
    rw [ho, hX] at hI HQ
    rw [hX] at hlen
    clear HF HX ho hX hg hv hok hv2 ok2 hlx hg2 hi
    generalize setF hs (i : Int) (cauF p) = L at *
    generalize (i : Int) = f at *
    refine (Calls.heap2 hI).mono ?_
    rintro e w2 ⟨A2, q2, rfl, S3, hle⟩
    replace ct := (hle.cell zt).trans ct
    replace ch := (hle.cell zh).trans ch
    replace zt := Nat.lt_of_lt_of_le zt hle.size
    replace zh := Nat.lt_of_lt_of_le zh hle.size
    replace S := S.le hle
    replace S2 := S2.le hle
    replace L0 := L0.trans hle
    replace NG := NG.le hle
    clear hle hI
    go_wp2_with fail
    obtain ⟨co, zo, hleB⟩ := box1 w2 (.slice A2 L.length q2) 28
    replace ct := (hleB.cell zt).trans ct
    replace ch := (hleB.cell zh).trans ch
    replace zt := Nat.lt_of_lt_of_le zt hleB.size
    replace zh := Nat.lt_of_lt_of_le zh hleB.size
    replace S := S.le hleB
    replace L0 := L0.trans hleB
    replace S2 := S2.le hleB
    replace S3 := S3.le hleB
    replace NG := NG.le hleB
    clear hleB
    generalize w2.alloc (.cells #[.slice A2 L.length q2] 28) = w3 at *
    refine (Calls.heap2 (HQ.out w3 S S2)).mono ?_
    rintro e w4 ⟨A4, q4, rfl, S4, hle⟩
    replace ct := (hle.cell zt).trans ct
    replace ch := (hle.cell zh).trans ch
    replace co := (hle.cell zo).trans co
    replace zt := Nat.lt_of_lt_of_le zt hle.size
    replace zh := Nat.lt_of_lt_of_le zh hle.size
    replace zo := Nat.lt_of_lt_of_le zo hle.size
    replace S := S.le hle
    replace L0 := L0.trans hle
    replace S2 := S2.le hle
    replace S3 := S3.le hle
    replace NG := NG.le hle
    clear hle
    go_wp2_with fail
    obtain ⟨cv, zv, hleB⟩ := box1 w4 (.slice A4 L.length q4) 28
    replace ct := (hleB.cell zt).trans ct
    replace ch := (hleB.cell zh).trans ch
    replace co := (hleB.cell zo).trans co
    replace zt := Nat.lt_of_lt_of_le zt hleB.size
    replace zh := Nat.lt_of_lt_of_le zh hleB.size
    replace zo := Nat.lt_of_lt_of_le zo hleB.size
    replace S := S.le hleB
    replace L0 := L0.trans hleB
    replace S2 := S2.le hleB
    replace S3 := S3.le hleB
    replace S4 := S4.le hleB
    replace NG := NG.le hleB
    clear hleB
    generalize w4.alloc (.cells #[.slice A4 L.length q4] 28) = w5 at *
    refine (equalHeap_self A2 A4 _ q2 q4 L w5 S3 S4).mono ?_
    rintro e w6 ⟨rfl, hle⟩
    replace ct := (hle.cell zt).trans ct
    replace ch := (hle.cell zh).trans ch
    replace co := (hle.cell zo).trans co
    replace zt := Nat.lt_of_lt_of_le zt hle.size
    replace zh := Nat.lt_of_lt_of_le zh hle.size
    replace zo := Nat.lt_of_lt_of_le zo hle.size
    replace S := S.le hle
    replace L0 := L0.trans hle
    replace S2 := S2.le hle
    replace S3 := S3.le hle
    replace NG := NG.le hle
    clear hle S4
    go_wp2_with fail
    refine (Calls.asH2 E2.out E1.out (Calls.heap2 (iSetCause_any B A2 m c L.length q2 xs L f p w6 S S3 (by omega) hpr))).mono ?_
    rintro e w7 ⟨A7, q7, rfl, S7, hle⟩
    replace ct := (hle.cell zt).trans ct
    replace ch := (hle.cell zh).trans ch
    replace co := (hle.cell zo).trans co
    replace zt := Nat.lt_of_lt_of_le zt hle.size
    replace zh := Nat.lt_of_lt_of_le zh hle.size
    replace zo := Nat.lt_of_lt_of_le zo hle.size
    replace S := S.le hle
    replace L0 := L0.trans hle
    replace S2 := S2.le hle
    replace S3 := S3.le hle
    replace NG := NG.le hle
    clear hle cv zv
    go_wp2_with fail
    obtain ⟨ca, za, hleB⟩ := box1 w7 (.slice A7 L.length q7) 28
    replace ct := (hleB.cell zt).trans ct
    replace ch := (hleB.cell zh).trans ch
    replace co := (hleB.cell zo).trans co
    replace zt := Nat.lt_of_lt_of_le zt hleB.size
    replace zh := Nat.lt_of_lt_of_le zh hleB.size
    replace zo := Nat.lt_of_lt_of_le zo hleB.size
    replace S := S.le hleB
    replace L0 := L0.trans hleB
    replace S2 := S2.le hleB
    replace S3 := S3.le hleB
    replace S7 := S7.le hleB
    replace NG := NG.le hleB
    clear hleB
    generalize w7.alloc (.cells #[.slice A7 L.length q7] 28) = w8 at *
    have hb3 : (p == p) = true := by simp
    replace ct := (show w8.drew.cell? _ = _ from ct)
    replace zt := (show _ < w8.drew.heap.size from zt)
    replace ch := (show w8.drew.cell? _ = _ from ch)
    replace zh := (show _ < w8.drew.heap.size from zh)
    replace co := (show w8.drew.cell? _ = _ from co)
    replace zo := (show _ < w8.drew.heap.size from zo)
    replace ca := (show w8.drew.cell? _ = _ from ca)
    replace za := (show _ < w8.drew.heap.size from za)
    replace S := S.le (Le.refl _).drew
    replace L0 := L0.drew
    replace S2 := S2.le (Le.refl _).drew
    replace S3 := S3.le (Le.refl _).drew
    replace S7 := S7.le (Le.refl _).drew
    replace NG := NG.le (Le.refl _).drew
    go_region_held3 (fun w' => w'.cell? ⟨w1.heap.size, 0, none⟩ = some (.slice B m c) ∧ w'.cell? ⟨w1.heap.size + 1, 0, none⟩ = some (.slice A1 hs.length q1) ∧ w'.cell? ⟨w2.heap.size, 0, none⟩ = some (.slice A2 L.length q2) ∧ w'.cell? ⟨w7.heap.size, 0, none⟩ = some (.slice A7 L.length q7))
      (first | exact ⟨ct, ch, co, ca⟩)
      (first
      | (go_at_call 18; refine (equalInts_self A11 A12 _ q11 q12 (chX xs hs f) _ S11 S12).mono ?_; rintro e w13 ⟨rfl, hle⟩; replace ct := (hle.cell zt).trans ct; replace ch := (hle.cell zh).trans ch; replace co := (hle.cell zo).trans co; replace ca := (hle.cell za).trans ca; replace zt := Nat.lt_of_lt_of_le zt hle.size; replace zh := Nat.lt_of_lt_of_le zh hle.size; replace zo := Nat.lt_of_lt_of_le zo hle.size; replace za := Nat.lt_of_lt_of_le za hle.size; replace L0 := L0.trans hle; clear hle)
      | (go_at_call 13; have hzz := S11; refine (Calls.intsH (iContextChain_any B A1 m c hs.length q1 xs hs f _ S S2 (by omega) NG)).mono ?_; rintro e w12 ⟨A12, q12, rfl, S12, hle⟩; replace ct := (hle.cell zt).trans ct; replace ch := (hle.cell zh).trans ch; replace co := (hle.cell zo).trans co; replace ca := (hle.cell za).trans ca; replace zt := Nat.lt_of_lt_of_le zt hle.size; replace zh := Nat.lt_of_lt_of_le zh hle.size; replace zo := Nat.lt_of_lt_of_le zo hle.size; replace za := Nat.lt_of_lt_of_le za hle.size; replace L0 := L0.trans hle; replace S11 := S11.le hle; clear hle)
      | (go_at_call 13; refine (Calls.asL E4.out (Calls.intsH (iContextChain_any B A2 m c L.length q2 xs L f _ S S3 (by omega) NG))).mono ?_; rintro e w11 ⟨A11, q11, rfl, S11, hle⟩; replace ct := (hle.cell zt).trans ct; replace ch := (hle.cell zh).trans ch; replace co := (hle.cell zo).trans co; replace ca := (hle.cell za).trans ca; replace zt := Nat.lt_of_lt_of_le zt hle.size; replace zh := Nat.lt_of_lt_of_le zh hle.size; replace zo := Nat.lt_of_lt_of_le zo hle.size; replace za := Nat.lt_of_lt_of_le za hle.size; replace L0 := L0.trans hle; replace S := S.le hle; replace S2 := S2.le hle; replace NG := NG.le hle; clear hle)
      | (go_at_call 17; refine (equalHeap_self A7 A2 _ q7 q2 L _ S7 S3).mono ?_; rintro e w10 ⟨rfl, hle⟩; replace ct := (hle.cell zt).trans ct; replace ch := (hle.cell zh).trans ch; replace co := (hle.cell zo).trans co; replace ca := (hle.cell za).trans ca; replace zt := Nat.lt_of_lt_of_le zt hle.size; replace zh := Nat.lt_of_lt_of_le zh hle.size; replace zo := Nat.lt_of_lt_of_le zo hle.size; replace za := Nat.lt_of_lt_of_le za hle.size; replace S := S.le hle; replace L0 := L0.trans hle; replace S2 := S2.le hle; replace S3 := S3.le hle; replace NG := NG.le hle; clear hle)
      | (go_at_call 26; refine (Calls.val (iShownNext_any B A2 m c L.length q2 xs L f _ S S3 (by omega)) (vi E3.out)).mono ?_; rintro e w9 ⟨rfl, hle⟩; replace ct := (hle.cell zt).trans ct; replace ch := (hle.cell zh).trans ch; replace co := (hle.cell zo).trans co; replace ca := (hle.cell za).trans ca; replace zt := Nat.lt_of_lt_of_le zt hle.size; replace zh := Nat.lt_of_lt_of_le zh hle.size; replace zo := Nat.lt_of_lt_of_le zo hle.size; replace za := Nat.lt_of_lt_of_le za hle.size; replace S := S.le hle; replace L0 := L0.trans hle; replace S2 := S2.le hle; replace S3 := S3.le hle; replace S7 := S7.le hle; replace NG := NG.le hle; clear hle)
      )
    go_wp2
    go_ret
    exact ⟨rfl, L0⟩
  · rw [ho] at hI HQ
    clear ho HF HX
    generalize scX xs hs f p = L at *
    refine (Calls.heap2 hI).mono ?_
    rintro e w2 ⟨A2, q2, rfl, S3, hle⟩
    replace ct := (hle.cell zt).trans ct
    replace ch := (hle.cell zh).trans ch
    replace zt := Nat.lt_of_lt_of_le zt hle.size
    replace zh := Nat.lt_of_lt_of_le zh hle.size
    replace S := S.le hle
    replace S2 := S2.le hle
    replace L0 := L0.trans hle
    replace NG := NG.le hle
    clear hle hI
    go_wp2_with fail
    obtain ⟨co, zo, hleB⟩ := box1 w2 (.slice A2 L.length q2) 28
    replace ct := (hleB.cell zt).trans ct
    replace ch := (hleB.cell zh).trans ch
    replace zt := Nat.lt_of_lt_of_le zt hleB.size
    replace zh := Nat.lt_of_lt_of_le zh hleB.size
    replace S := S.le hleB
    replace L0 := L0.trans hleB
    replace S2 := S2.le hleB
    replace S3 := S3.le hleB
    replace NG := NG.le hleB
    clear hleB
    generalize w2.alloc (.cells #[.slice A2 L.length q2] 28) = w3 at *
    refine (Calls.heap2 (HQ.out w3 S S2)).mono ?_
    rintro e w4 ⟨A4, q4, rfl, S4, hle⟩
    replace ct := (hle.cell zt).trans ct
    replace ch := (hle.cell zh).trans ch
    replace co := (hle.cell zo).trans co
    replace zt := Nat.lt_of_lt_of_le zt hle.size
    replace zh := Nat.lt_of_lt_of_le zh hle.size
    replace zo := Nat.lt_of_lt_of_le zo hle.size
    replace S := S.le hle
    replace L0 := L0.trans hle
    replace S2 := S2.le hle
    replace S3 := S3.le hle
    replace NG := NG.le hle
    clear hle
    go_wp2_with fail
    obtain ⟨cv, zv, hleB⟩ := box1 w4 (.slice A4 L.length q4) 28
    replace ct := (hleB.cell zt).trans ct
    replace ch := (hleB.cell zh).trans ch
    replace co := (hleB.cell zo).trans co
    replace zt := Nat.lt_of_lt_of_le zt hleB.size
    replace zh := Nat.lt_of_lt_of_le zh hleB.size
    replace zo := Nat.lt_of_lt_of_le zo hleB.size
    replace S := S.le hleB
    replace L0 := L0.trans hleB
    replace S2 := S2.le hleB
    replace S3 := S3.le hleB
    replace S4 := S4.le hleB
    replace NG := NG.le hleB
    clear hleB
    generalize w4.alloc (.cells #[.slice A4 L.length q4] 28) = w5 at *
    refine (equalHeap_self A2 A4 _ q2 q4 L w5 S3 S4).mono ?_
    rintro e w6 ⟨rfl, hle⟩
    replace co := (hle.cell zo).trans co
    replace cv := (hle.cell zv).trans cv
    replace zo := Nat.lt_of_lt_of_le zo hle.size
    replace zv := Nat.lt_of_lt_of_le zv hle.size
    replace L0 := L0.trans hle
    replace S3 := S3.le hle
    replace S4 := S4.le hle
    clear hle
    go_wp2_with fail
    refine (equalHeap_self A2 A4 _ q2 q4 L _ S3 S4).mono ?_
    rintro e w7 ⟨rfl, hle⟩
    replace L0 := L0.trans hle
    clear hle
    go_wp2
    go_ret
    exact ⟨rfl, L0⟩
end Go.Proofs.YtcagickmennlpaaDoor
