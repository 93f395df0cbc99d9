/- the law FnUnfoldTrace -/
import Derived.Test.YtakkmgeocmndjaaFT0
import Derived.Test.YtakkmgeocmndjaaDQ
namespace Go.Proofs.Ytakkmgeocmndjaa
open Go.RowKit
set_option maxHeartbeats 1000000 in
set_option maxRecDepth 100000 in
theorem fnUnfoldTrace_walk (A : Option Addr) (n cap : Nat) (bs : List By) (w : World) (hR : Sl w A n cap bs) :
    Calls Try.prog 8 #[.slice A n cap] w fun e w' => e = .returned (.bool true) ∧ Le w w' := by
  have hm := hR.n_le
  by_cases hbig : 1048576 < n
  · go_enter Try.func8, Try.ntmps8
    go_wp2
    go_ret
    exact ⟨rfl, Le.refl w⟩
  go_enter Try.func8, Try.ntmps8
  go_wp2_with fail
  refine (drawUnfoldTrace_any A n cap bs w hR).mono ?_
  rintro e w1 ⟨B, m, c, rs, rfl, S, hm8, L0⟩
  go_wp2_with fail
  refine (Calls.sl2 (by decide) (iUnfoldTrace_any _ _ _ rs _ S (by omega))).mono ?_
  rintro e w2 ⟨A3, c3, rfl, S3, hle⟩
  replace S := S.le hle
  replace L0 := L0.trans hle
  clear hle
  go_wp2_with fail
  refine (Calls.sl2 (by decide) (sUnfoldTrace_any _ _ _ rs _ S (by omega))).mono ?_
  rintro e w3 ⟨A4, c4, rfl, S4, hle⟩
  replace S := S.le hle
  replace S3 := S3.le hle
  replace L0 := L0.trans hle
  clear hle
  go_wp2_with fail
  refine (equalTrace_self _ _ _ _ _ _ _ S3 S4).mono ?_
  rintro e w4 ⟨rfl, hle⟩
  replace S := S.le hle
  replace S3 := S3.le hle
  replace S4 := S4.le hle
  replace L0 := L0.trans hle
  clear hle
  cases h1 : unfOk rs
  · go_wp2_with fail
    refine (equalTrace_self _ _ _ _ _ _ _ S3 S4).mono ?_
    rintro e w5 ⟨rfl, hle⟩
    replace L0 := L0.trans hle
    clear hle
    go_wp2
    go_ret
    exact ⟨rfl, L0⟩
  · have hlen := S.len
    have h2 := h1
    unfold unfOk at h2
    simp at h2
    have hX : unfX rs = unfL rs := unfX_of h1
    have HF := Lib.hid (show foldX (unfL rs) = rs by rw [foldX_of h2.1]; exact h2.2)
    have HV := Lib.hid h2.1
    rw [hX] at S3 ⊢
    clear S4 hX h2 h1
    go_wp2_with fail
    refine (Calls.sl1 (by decide) (iFoldTrace_any _ _ _ (unfL rs) _ S3)).mono ?_
    rintro e w5 ⟨A5, c5, rfl, S5, hle⟩
    rw [HF.out, hlen] at S5 ⊢
    replace S := S.le hle
    replace S3 := S3.le hle
    replace L0 := L0.trans hle
    clear hle
    go_wp2_with fail
    refine (equalRows_self _ _ _ _ _ _ _ S5 S).mono ?_
    rintro e w6 ⟨rfl, hle⟩
    replace S3 := S3.le hle
    replace L0 := L0.trans hle
    clear hle
    go_wp2_with fail
    refine (iValidTrace_any _ _ _ (unfL rs) _ S3).mono ?_
    rintro e w7 ⟨rfl, hle⟩
    rw [HV.out]
    go_wp2
    go_ret
    exact ⟨rfl, L0.trans hle⟩
end Go.Proofs.Ytakkmgeocmndjaa
