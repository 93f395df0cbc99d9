/- the laws FnLinesOf, FnInnerTrace -/
import Derived.Test.YtakkmgeocmndjaaFT0
import Derived.Test.YtakkmgeocmndjaaDO
import Derived.Test.YtakkmgeocmndjaaAG
import Derived.Test.YtakkmgeocmndjaaLTI
import Derived.Test.YtakkmgeocmndjaaTrG
import Derived.Test.YtakkmgeocmndjaaTrH
namespace Go.Proofs.Ytakkmgeocmndjaa
open Go.RowKit
theorem one_has (s x : ByteArray) : hasS [s] x = decide (s = x) := by
  unfold hasS idxS
  by_cases h : s = x
  · rw [if_pos h]; simp [h]
  · rw [if_neg h]; simp [idxS, h]
theorem lin_hide (xs : List Frm) (s : ByteArray) : ∀ k, (linK xs s k).length + (hidK xs [s] k).length = k
  | 0 => rfl
  | k + 1 => by
    have ih := lin_hide xs s k
    show (linK xs s k ++ _).length + (hidK xs [s] k ++ _).length = k + 1
    rw [one_has]
    by_cases h : (xs.getD k frm0).fn = s
    · have h2 : s = (xs.getD k frm0).fn := h.symm
      rw [show (⟨ByteArray.empty, 0⟩ : Frm) = frm0 from rfl, if_pos h, if_pos (by simpa using h2)]; simp; omega
    · have h2 : ¬ s = (xs.getD k frm0).fn := fun e => h e.symm
      rw [show (⟨ByteArray.empty, 0⟩ : Frm) = frm0 from rfl, if_neg h, if_neg (by simpa using h2)]; simp; omega
set_option maxHeartbeats 1000000 in
set_option maxRecDepth 100000 in
theorem fnLinesOf_walk (A : Option Addr) (n cap : Nat) (bs : List By) (w : World) (hR : Sl w A n cap bs) :
    Calls Try.prog 12 #[.slice A n cap] w fun e w' => e = .returned (.bool true) ∧ Le w w' := by
  have hm := hR.n_le
  by_cases hbig : 1048576 < n
  · go_enter Try.func12, Try.ntmps12
    go_wp2
    go_ret
    exact ⟨rfl, Le.refl w⟩
  go_enter Try.func12, Try.ntmps12
  go_wp2_with fail
  refine (drawLinesOf_any A n cap bs w hR).mono ?_
  rintro e w1 ⟨B, m, c, xs, s, rfl, S, hm8, hs, L0⟩
  go_wp2_with fail
  refine (Calls.sl1 (by decide) (iLinesOf_any _ _ _ xs s _ S)).mono ?_
  rintro e w2 ⟨A3, c3, rfl, S3, hle⟩
  replace S := S.le hle
  replace L0 := L0.trans hle
  clear hle
  go_wp2_with fail
  refine (Calls.sl1 (by decide) (sLinesOf_any _ _ _ xs s _ S)).mono ?_
  rintro e w3 ⟨A4, c4, rfl, S4, hle⟩
  replace S := S.le hle
  replace S3 := S3.le hle
  replace L0 := L0.trans hle
  clear hle
  go_wp2_with fail
  refine (equalIntsT_self _ _ _ _ _ _ _ S3 S4).mono ?_
  rintro e w4 ⟨rfl, hle⟩
  replace S := S.le hle
  replace S3 := S3.le hle
  replace S4 := S4.le hle
  replace L0 := L0.trans hle
  clear hle
  go_wp2_with fail
  refine (iValidTrace_any _ _ _ xs _ S).mono ?_
  rintro e w5 ⟨rfl, hle⟩
  replace S := S.le hle
  replace S3 := S3.le hle
  replace L0 := L0.trans hle
  clear hle
  cases h1 : vTr xs
  · go_wp2_with fail
    refine (Calls.sl1 (by decide) (sLinesOf_any _ _ _ xs s _ S)).mono ?_
    rintro e w6 ⟨A5, c5, rfl, S5, hle⟩
    replace S := S.le hle
    replace S3 := S3.le hle
    replace L0 := L0.trans hle
    clear hle
    go_wp2_with fail
    refine (equalIntsT_self _ _ _ _ _ _ _ S3 S5).mono ?_
    rintro e w7 ⟨rfl, hle⟩
    replace L0 := L0.trans hle
    clear hle
    go_wp2
    go_ret
    exact ⟨rfl, L0⟩
  · have hX := linX_of (s := s) h1
    have hH := hideX_of (ns := [s]) h1
    have hsum := lin_hide xs s xs.length
    have hlen := S.len
    have hpl : (linX xs s).length + (hideX xs [s]).length = m := by rw [hX, hH]; exact hsum.trans hlen
    have HPL := Lib.hid hpl
    have hso : Enc.ok s := (show s.size ≤ _ by omega)
    clear hX hH hsum hpl h1 S4
    go_wp2_with fail
    refine (Calls.sl1 (by decide) (iHideFuncs_any _ _ _ _ _ _ xs [s] _ (S.alloc _) (sl_one s rfl hso rfl))).mono ?_
    rintro e w6 ⟨A6, c6, rfl, S6, hle⟩
    have L6 := (L0.alloc _).trans hle
    have hab := HPL.out
    clear S6 hle HPL S S3 hlen hso hs
    generalize (linX xs s).length = a at *
    generalize (hideX xs [s]).length = b at *
    have hw : IntKind.i64.wrap ((a : Int) + (b : Int)) = (m : Int) := by rw [show (a : Int) + (b : Int) = (m : Int) by omega]; exact IntWalk.i64_in _ (by omega)
    clear hab
    go_wp2
    go_ret
    exact ⟨rfl, L6⟩
end Go.Proofs.Ytakkmgeocmndjaa
