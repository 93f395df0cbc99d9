/- the law FnRaiseWhile -/
import Derived.Test.YtcagickmennlpaaDoorFH0
import Derived.Test.YtcagickmennlpaaDoorRW
import Derived.Test.YtcagickmennlpaaDoorHpE
namespace Go.Proofs.YtcagickmennlpaaDoor
open Go.RowKit
set_option maxHeartbeats 4000000 in
set_option maxRecDepth 100000 in
theorem fnRaiseWhile_walk (A : Option Addr) (n cap : Nat) (bs : List By) (w : World) (hR : Sl w A n cap bs) (NG : GotErr w) :
    Calls Tryd.prog 5 #[.slice A n cap] w fun e w' => e = .returned (.bool true) ∧ Le w w' := by
  have hm := hR.n_le
  by_cases hbig : 1048576 < n
  · go_enter Tryd.func5, Tryd.ntmps5
    go_wp2
    go_ret
    exact ⟨rfl, Le.refl w⟩
  go_enter Tryd.func5, Tryd.ntmps5
  go_wp2_with fail
  refine (drawRaiseWhile_any A n cap bs w hR).mono ?_
  rintro e w1 ⟨B, m, c, xs, A1, q1, hs, _, rfl, ⟨f, g, rfl, hf0, hf1, hg0, hg1⟩, S, hm8, S2, hl6, L0⟩
  replace NG := NG.le L0
  go_wp2_with fail
  obtain ⟨ct, zt, ch, zh, hleB⟩ := box2 w1 (.slice B m c) (.slice A1 hs.length q1) 25 28
  replace S := S.le hleB
  replace S2 := S2.le hleB
  replace L0 := L0.trans hleB
  replace NG := NG.le hleB
  clear hleB
  generalize (w1.alloc (.cells #[.slice B m c] 25)).alloc (.cells #[.slice A1 hs.length q1] 28) = W1 at *
  have hI := iRaiseWhile_any B A1 m c hs.length q1 xs hs f g W1 S S2 (by omega) NG
  have HQ : Hid (∀ w, Sl w B m c xs → Sl w A1 hs.length q1 hs → _) := fun w h h2 => sRaiseWhile_any B A1 m c hs.length q1 xs hs f g w h h2 (by omega)
  have hlen : (rwX xs hs f g).length ≤ 6 := by
    cases h : rwOk xs hs f g
    · rw [rwX_of h]; simp
    · rw [rwX_of h]; show (raisedL _ _ _).length ≤ 6; rw [raisedL_len]; exact hl6
  have HF : rwOk xs hs f g = true → goodF xs hs f = true ∧ goodF xs hs g = true := fun h => by unfold rwOk at h; rw [Bool.and_eq_true] at h; exact h
  have HX : rwOk xs hs f g = true → rwX xs hs f g = raisedL hs f g := fun h => by rw [rwX_of h]; rfl
  rcases Bool.eq_false_or_eq_true (rwOk xs hs f g) with ho | ho
  · obtain ⟨hgf, hgg⟩ := HF ho
    have hX := HX ho
    obtain ⟨i, rfl, hi⟩ := goodF_at hgf
    obtain ⟨j, rfl, hj⟩ := goodF_at hgg
    have hok : okHeap xs hs = true := by have h := hgf; unfold goodF at h; rw [Bool.and_eq_true] at h; exact h.1
    have ok2 := ok_raised hok hi hj
    have hlx := raisedL_len hs (i : Int) (j : Int)
    have E1 : Hid (rwOk xs (raisedL hs (i : Int) (j : Int)) (i : Int) (j : Int) = true) := by
      show _ = _
      unfold rwOk; rw [goodF_mk ok2 (by omega), goodF_mk ok2 (by omega)]; rfl
    have E2 : Hid (rwX xs (raisedL hs (i : Int) (j : Int)) (i : Int) (j : Int) = raisedL hs (i : Int) (j : Int)) := by
      show _ = _
      rw [rwX_of E1.out]; exact raised_twice hok hi hj
    have E3 := Lib.hid ok2
    have E4 : Hid (i = j → raisedL hs (i : Int) (j : Int) = hs) := fun e => by subst e; exact raisedL_same _ _
    have E5 : Hid (i ≠ j → ∀ h : i < (raisedL hs (i : Int) (j : Int)).length, (raisedL hs (i : Int) (j : Int))[i].ctx = (j : Int)) := fun e h => by
      have hx := ctx_raised hi hj e (ctxCh_of hgg) (i : Int) (by omega)
      rw [if_pos rfl, ctxOf_at h] at hx; exact hx
    rw [ho, hX] at hI HQ
    rw [hX] at hlen
    have HLX := Lib.hid hlx
    clear HF HX ho hX hgf hgg hok ok2 hlx hf0 hf1 hg0 hg1
    generalize raisedL hs (i : Int) (j : Int) = L at *
    refine (Calls.heap2 hI).mono ?_
    rintro e w2 ⟨A2, q2, rfl, S3, hle⟩
    replace ct := (hle.cell zt).trans ct
    replace ch := (hle.cell zh).trans ch
    replace zt := Nat.lt_of_lt_of_le zt hle.size
    replace zh := Nat.lt_of_lt_of_le zh hle.size
    replace S := S.le hle
    replace S2 := S2.le hle
    replace L0 := L0.trans hle
    replace NG := NG.le hle
    clear hle hI
    go_wp2_with fail
    obtain ⟨co, zo, hleB⟩ := box1 w2 (.slice A2 L.length q2) 28
    replace ct := (hleB.cell zt).trans ct
    replace ch := (hleB.cell zh).trans ch
    replace zt := Nat.lt_of_lt_of_le zt hleB.size
    replace zh := Nat.lt_of_lt_of_le zh hleB.size
    replace S := S.le hleB
    replace L0 := L0.trans hleB
    replace S2 := S2.le hleB
    replace S3 := S3.le hleB
    replace NG := NG.le hleB
    clear hleB
    generalize w2.alloc (.cells #[.slice A2 L.length q2] 28) = w3 at *
    refine (Calls.heap2 (HQ.out w3 S S2)).mono ?_
    rintro e w4 ⟨A4, q4, rfl, S4, hle⟩
    replace ct := (hle.cell zt).trans ct
    replace ch := (hle.cell zh).trans ch
    replace co := (hle.cell zo).trans co
    replace zt := Nat.lt_of_lt_of_le zt hle.size
    replace zh := Nat.lt_of_lt_of_le zh hle.size
    replace zo := Nat.lt_of_lt_of_le zo hle.size
    replace S := S.le hle
    replace L0 := L0.trans hle
    replace S2 := S2.le hle
    replace S3 := S3.le hle
    replace NG := NG.le hle
    clear hle
    go_wp2_with fail
    obtain ⟨cv, zv, hleB⟩ := box1 w4 (.slice A4 L.length q4) 28
    replace ct := (hleB.cell zt).trans ct
    replace ch := (hleB.cell zh).trans ch
    replace co := (hleB.cell zo).trans co
    replace zt := Nat.lt_of_lt_of_le zt hleB.size
    replace zh := Nat.lt_of_lt_of_le zh hleB.size
    replace zo := Nat.lt_of_lt_of_le zo hleB.size
    replace S := S.le hleB
    replace L0 := L0.trans hleB
    replace S2 := S2.le hleB
    replace S3 := S3.le hleB
    replace S4 := S4.le hleB
    replace NG := NG.le hleB
    clear hleB
    generalize w4.alloc (.cells #[.slice A4 L.length q4] 28) = w5 at *
    refine (equalHeap_self A2 A4 _ q2 q4 L w5 S3 S4).mono ?_
    rintro e w6 ⟨rfl, hle⟩
    replace ct := (hle.cell zt).trans ct
    replace ch := (hle.cell zh).trans ch
    replace co := (hle.cell zo).trans co
    replace cv := (hle.cell zv).trans cv
    replace zt := Nat.lt_of_lt_of_le zt hle.size
    replace zh := Nat.lt_of_lt_of_le zh hle.size
    replace zo := Nat.lt_of_lt_of_le zo hle.size
    replace zv := Nat.lt_of_lt_of_le zv hle.size
    replace S := S.le hle
    replace L0 := L0.trans hle
    replace S2 := S2.le hle
    replace S3 := S3.le hle
    replace S4 := S4.le hle
    replace NG := NG.le hle
    clear hle
    clear cv zv S4
    go_wp2_with fail
    refine (Calls.asH2 E2.out E1.out (Calls.heap2 (iRaiseWhile_any B A2 m c L.length q2 xs L (i : Int) (j : Int) w6 S S3 (by omega) NG))).mono ?_
    rintro e w7 ⟨A7, q7, rfl, S7, hle⟩
    replace ct := (hle.cell zt).trans ct
    replace ch := (hle.cell zh).trans ch
    replace co := (hle.cell zo).trans co
    replace zt := Nat.lt_of_lt_of_le zt hle.size
    replace zh := Nat.lt_of_lt_of_le zh hle.size
    replace zo := Nat.lt_of_lt_of_le zo hle.size
    replace S := S.le hle
    replace L0 := L0.trans hle
    replace S2 := S2.le hle
    replace S3 := S3.le hle
    replace NG := NG.le hle
    clear hle
    go_wp2_with fail
    obtain ⟨ca, za, hleB⟩ := box1 w7 (.slice A7 L.length q7) 28
    replace ct := (hleB.cell zt).trans ct
    replace ch := (hleB.cell zh).trans ch
    replace co := (hleB.cell zo).trans co
    replace zt := Nat.lt_of_lt_of_le zt hleB.size
    replace zh := Nat.lt_of_lt_of_le zh hleB.size
    replace zo := Nat.lt_of_lt_of_le zo hleB.size
    replace S := S.le hleB
    replace L0 := L0.trans hleB
    replace S2 := S2.le hleB
    replace S3 := S3.le hleB
    replace S7 := S7.le hleB
    replace NG := NG.le hleB
    clear hleB
    generalize w7.alloc (.cells #[.slice A7 L.length q7] 28) = w8 at *
    by_cases hij : i = j
    · have hLE := E4.out hij
      subst hij
      have hb1 : ((i : Int) == (i : Int)) = true := by simp
      have hb2 : ((i : Int) != (i : Int)) = false := by simp
      clear E4 E5 E1 E2
      subst hLE
      refine (Calls.val (iValidHeap_any B A2 m c _ q2 xs _ _ S S3 (by omega)) (vb E3.out)).mono ?_
      rintro e w9 ⟨rfl, hle⟩
      replace ct := (hle.cell zt).trans ct
      replace ch := (hle.cell zh).trans ch
      replace co := (hle.cell zo).trans co
      replace ca := (hle.cell za).trans ca
      replace zt := Nat.lt_of_lt_of_le zt hle.size
      replace zh := Nat.lt_of_lt_of_le zh hle.size
      replace zo := Nat.lt_of_lt_of_le zo hle.size
      replace za := Nat.lt_of_lt_of_le za hle.size
      replace L0 := L0.trans hle
      replace S2 := S2.le hle
      replace S3 := S3.le hle
      replace S7 := S7.le hle
      clear hle
      go_wp2_with fail
      refine (equalHeap_self A7 A2 _ q7 q2 _ _ S7 S3).mono ?_
      rintro e w10 ⟨rfl, hle⟩
      replace ct := (hle.cell zt).trans ct
      replace ch := (hle.cell zh).trans ch
      replace co := (hle.cell zo).trans co
      replace ca := (hle.cell za).trans ca
      replace zt := Nat.lt_of_lt_of_le zt hle.size
      replace zh := Nat.lt_of_lt_of_le zh hle.size
      replace zo := Nat.lt_of_lt_of_le zo hle.size
      replace za := Nat.lt_of_lt_of_le za hle.size
      replace L0 := L0.trans hle
      replace S2 := S2.le hle
      replace S3 := S3.le hle
      clear hle
      go_wp2_with fail
      refine (equalHeap_self A2 A1 _ q2 q1 _ _ S3 S2).mono ?_
      rintro e w11 ⟨rfl, hle⟩
      replace L0 := L0.trans hle
      clear hle
      go_wp2
      go_ret
      exact ⟨rfl, L0⟩
    · have hb1 : ((i : Int) == (j : Int)) = false := by simp; omega
      have hb2 : ((i : Int) != (j : Int)) = true := by simp; omega
      have hiL : i < L.length := by have := HLX.out; omega
      have HC := Lib.hid (E5.out hij hiL)
      clear E4 E5 E1 E2
      refine (Calls.val (iValidHeap_any B A2 m c L.length q2 xs L _ S S3 (by omega)) (vb E3.out)).mono ?_
      rintro e w9 ⟨rfl, hle⟩
      replace ct := (hle.cell zt).trans ct
      replace ch := (hle.cell zh).trans ch
      replace co := (hle.cell zo).trans co
      replace ca := (hle.cell za).trans ca
      replace zt := Nat.lt_of_lt_of_le zt hle.size
      replace zh := Nat.lt_of_lt_of_le zh hle.size
      replace zo := Nat.lt_of_lt_of_le zo hle.size
      replace za := Nat.lt_of_lt_of_le za hle.size
      replace L0 := L0.trans hle
      replace S2 := S2.le hle
      replace S3 := S3.le hle
      replace S7 := S7.le hle
      clear hle
      go_wp2_with fail
      refine (equalHeap_self A7 A2 _ q7 q2 L _ S7 S3).mono ?_
      rintro e w10 ⟨rfl, hle⟩
      replace ct := (hle.cell zt).trans ct
      replace ch := (hle.cell zh).trans ch
      replace co := (hle.cell zo).trans co
      replace ca := (hle.cell za).trans ca
      replace zt := Nat.lt_of_lt_of_le zt hle.size
      replace zh := Nat.lt_of_lt_of_le zh hle.size
      replace zo := Nat.lt_of_lt_of_le zo hle.size
      replace za := Nat.lt_of_lt_of_le za hle.size
      replace L0 := L0.trans hle
      replace S2 := S2.le hle
      replace S3 := S3.le hle
      clear hle
      obtain ⟨b, off, rfl, hbl, k0, k1, k2, k3, k4, _⟩ := S3.flt_at hiL
      rw [HC.out] at k3
      have hb3 : ((j : Int) == (j : Int)) = true := by simp
      have hil2 : (i : Int) < (L.length : Int) := by omega
      go_wp2
      go_ret
      exact ⟨rfl, L0⟩
  · rw [ho] at hI HQ
    clear ho HF HX
    generalize rwX xs hs f g = L at *
    refine (Calls.heap2 hI).mono ?_
    rintro e w2 ⟨A2, q2, rfl, S3, hle⟩
    replace ct := (hle.cell zt).trans ct
    replace ch := (hle.cell zh).trans ch
    replace zt := Nat.lt_of_lt_of_le zt hle.size
    replace zh := Nat.lt_of_lt_of_le zh hle.size
    replace S := S.le hle
    replace S2 := S2.le hle
    replace L0 := L0.trans hle
    replace NG := NG.le hle
    clear hle hI
    go_wp2_with fail
    obtain ⟨co, zo, hleB⟩ := box1 w2 (.slice A2 L.length q2) 28
    replace ct := (hleB.cell zt).trans ct
    replace ch := (hleB.cell zh).trans ch
    replace zt := Nat.lt_of_lt_of_le zt hleB.size
    replace zh := Nat.lt_of_lt_of_le zh hleB.size
    replace S := S.le hleB
    replace L0 := L0.trans hleB
    replace S2 := S2.le hleB
    replace S3 := S3.le hleB
    replace NG := NG.le hleB
    clear hleB
    generalize w2.alloc (.cells #[.slice A2 L.length q2] 28) = w3 at *
    refine (Calls.heap2 (HQ.out w3 S S2)).mono ?_
    rintro e w4 ⟨A4, q4, rfl, S4, hle⟩
    replace ct := (hle.cell zt).trans ct
    replace ch := (hle.cell zh).trans ch
    replace co := (hle.cell zo).trans co
    replace zt := Nat.lt_of_lt_of_le zt hle.size
    replace zh := Nat.lt_of_lt_of_le zh hle.size
    replace zo := Nat.lt_of_lt_of_le zo hle.size
    replace S := S.le hle
    replace L0 := L0.trans hle
    replace S2 := S2.le hle
    replace S3 := S3.le hle
    replace NG := NG.le hle
    clear hle
    go_wp2_with fail
    obtain ⟨cv, zv, hleB⟩ := box1 w4 (.slice A4 L.length q4) 28
    replace ct := (hleB.cell zt).trans ct
    replace ch := (hleB.cell zh).trans ch
    replace co := (hleB.cell zo).trans co
    replace zt := Nat.lt_of_lt_of_le zt hleB.size
    replace zh := Nat.lt_of_lt_of_le zh hleB.size
    replace zo := Nat.lt_of_lt_of_le zo hleB.size
    replace S := S.le hleB
    replace L0 := L0.trans hleB
    replace S2 := S2.le hleB
    replace S3 := S3.le hleB
    replace S4 := S4.le hleB
    replace NG := NG.le hleB
    clear hleB
    generalize w4.alloc (.cells #[.slice A4 L.length q4] 28) = w5 at *
    refine (equalHeap_self A2 A4 _ q2 q4 L w5 S3 S4).mono ?_
    rintro e w6 ⟨rfl, hle⟩
    replace ct := (hle.cell zt).trans ct
    replace ch := (hle.cell zh).trans ch
    replace co := (hle.cell zo).trans co
    replace cv := (hle.cell zv).trans cv
    replace zt := Nat.lt_of_lt_of_le zt hle.size
    replace zh := Nat.lt_of_lt_of_le zh hle.size
    replace zo := Nat.lt_of_lt_of_le zo hle.size
    replace zv := Nat.lt_of_lt_of_le zv hle.size
    replace S := S.le hle
    replace L0 := L0.trans hle
    replace S2 := S2.le hle
    replace S3 := S3.le hle
    replace S4 := S4.le hle
    replace NG := NG.le hle
    clear hle
    go_wp2_with fail
    refine (equalHeap_self A2 A4 _ q2 q4 L _ S3 S4).mono ?_
    rintro e w7 ⟨rfl, hle⟩
    replace L0 := L0.trans hle
    clear hle
    go_wp2
    go_ret
    exact ⟨rfl, L0⟩
end Go.Proofs.YtcagickmennlpaaDoor
