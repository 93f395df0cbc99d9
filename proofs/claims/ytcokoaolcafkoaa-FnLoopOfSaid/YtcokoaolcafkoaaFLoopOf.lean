/- the law FnLoopOf -/
import Derived.Test.YtcokoaolcafkoaaDPg
import Derived.Test.YtcokoaolcafkoaaPdA
import Derived.Test.YtcokoaolcafkoaaLD
namespace Go.Proofs.Ytcokoaolcafkoaa
open Go.RowKit
set_option maxHeartbeats 4000000 in
set_option maxRecDepth 100000 in
theorem fnLoopOf_walk (A : Option Addr) (n cap : Nat) (bs : List By) (w : World) (hR : Sl w A n cap bs) :
    Calls Try.prog 6 #[.slice A n cap] w fun e w' => e = .returned (.bool true) ∧ Le w w' := by
  have hm := hR.n_le
  by_cases hbig : 1048576 < n
  · go_enter Try.func6, Try.ntmps6
    go_wp2
    go_ret
    exact ⟨rfl, Le.refl w⟩
  go_enter Try.func6, Try.ntmps6
  go_wp2_with fail
  refine (drawLoopOf_any A n cap bs w hR).mono ?_
  rintro e w1 ⟨B, D, m, c, q, d, xs, p, i, rfl, S, hm8, S2, hq24, hi, L0⟩
  obtain rfl := S2.len
  have hm1 : m ≤ 1048576 := by omega
  have hsm : p.length ≤ 1048576 := by omega
  clear hbig hm hR
  go_wp2_with fail
  obtain ⟨ct, zt, hleB⟩ := box1 w1 (.slice B m c) 25
  replace S := S.le hleB
  replace L0 := L0.trans hleB
  replace S2 := S2.le hleB
  clear hleB
  generalize w1.alloc (.cells #[.slice B m c] 25) = W1 at *
  go_wp2_with fail
  refine (iLoopOf_any B D m c _ d xs p i hm1 W1 S S2).mono ?_
  rintro e w2 ⟨rfl, hle⟩
  replace ct := (hle.cell zt).trans ct
  replace zt := Nat.lt_of_lt_of_le zt hle.size
  replace S := S.le hle
  replace L0 := L0.trans hle
  replace S2 := S2.le hle
  clear hle
  go_wp2_with fail
  refine (sLoopOf_any B D m c _ d xs p i hsm w2 S S2).mono ?_
  rintro e w3 ⟨rfl, hle⟩
  replace ct := (hle.cell zt).trans ct
  replace zt := Nat.lt_of_lt_of_le zt hle.size
  replace S := S.le hle
  replace L0 := L0.trans hle
  replace S2 := S2.le hle
  clear hle
  have hbb : (loX xs p i != loX xs p i) = false := by simp
  have hbb2 : (loX xs p i == loX xs p i) = true := by simp
  go_wp2_with fail
  refine (pValidProgram_any B D m c _ d xs p hm1 w3 S S2).mono ?_
  rintro e w4 ⟨rfl, hle⟩
  replace ct := (hle.cell zt).trans ct
  replace zt := Nat.lt_of_lt_of_le zt hle.size
  replace S := S.le hle
  replace L0 := L0.trans hle
  replace S2 := S2.le hle
  clear hle
  cases hv : vp xs p
  · go_wp2_with fail
    refine (sLoopOf_any B D m c _ d xs p i hsm w4 S S2).mono ?_
    rintro e w9 ⟨rfl, hle⟩
    replace L0 := L0.trans hle
    clear hle
    go_wp2
    go_ret
    exact ⟨rfl, L0⟩
  by_cases h0 : i < 0
  · go_wp2_with fail
    refine (sLoopOf_any B D m c _ d xs p i hsm w4 S S2).mono ?_
    rintro e w9 ⟨rfl, hle⟩
    replace L0 := L0.trans hle
    clear hle
    go_wp2
    go_ret
    exact ⟨rfl, L0⟩
  obtain ⟨k, rfl⟩ := Int.eq_ofNat_of_zero_le (show 0 ≤ i by omega)
  by_cases hk : p.length ≤ k
  · have hk2 : (p.length : Int) ≤ (k : Int) := by omega
    go_wp2_with fail
    refine (sLoopOf_any B D m c _ d xs p _ hsm w4 S S2).mono ?_
    rintro e w9 ⟨rfl, hle⟩
    replace L0 := L0.trans hle
    clear hle
    go_wp2
    go_ret
    exact ⟨rfl, L0⟩
  have hkp : k < p.length := by omega
  have hk0 : (0 : Int) ≤ (k : Int) := by omega
  have hkn : (k : Int) < (p.length : Int) := by omega
  have g := goodP_of hv
  have HX : loX xs p k = loA p (encl p k) := by unfold loX; rw [glB_ok hv hkp]; rfl
  have HE : enX xs p k = nI (encl p k) := by unfold enX; rw [glB_ok hv hkp]; rfl
  rcases loA_two p (encl p k) with ⟨h1, h2⟩ | ⟨x, hx, h1, h2⟩
  · rw [h1] at HX
    have hne : ¬ (p[k].kind = 5 ∨ p[k].kind = 6) := fun h => by
      obtain ⟨y, hy, h3⟩ := inL_encl p _ k (Nat.lt_succ_self k) ((g.line k hkp).2.2.2.2.1 h)
      exact h2 y hy h3
    have h5 : (p[k].kind != 5) = true := by rw [bne_iff_ne]; exact fun h => hne (.inl h)
    have h6 : (p[k].kind != 6) = true := by rw [bne_iff_ne]; exact fun h => hne (.inr h)
    obtain ⟨b, off, rfl, hb, c0, c1, -⟩ := S2.lin_at hkp
    rw [HX] at hbb hbb2 ⊢
    clear h1 h2 hne g HE
    go_wp2
    go_ret
    exact ⟨rfl, L0⟩
  · rw [h1] at HX
    have hxk := encl_lt x hx
    have hxp : x < p.length := by omega
    have hx0 : (0 : Int) ≤ (x : Int) := by omega
    have hxn : (x : Int) < (p.length : Int) := by omega
    have h3 := hasI_nI hx
    rw [← HE] at h3
    have hxk2 : (p[x].kind == 12) = true := by rw [← knd_at hxp, h2]; rfl
    rw [HX] at hbb hbb2 ⊢
    clear h1 h2 g HE hx
    go_wp2_with fail
    refine (Calls.sl1 (by decide) (iEnclosingOf_any B D m c _ d xs p k hm1 w4 S S2)).mono ?_
    rintro e w5 ⟨A5, c5, rfl, S5, hle⟩
    replace S2 := S2.le hle
    replace L0 := L0.trans hle
    go_wp2_with fail
    refine (isIn_any _ _ _ (enX xs p k) x w5 S5).mono ?_
    rintro e w6 ⟨rfl, rfl⟩
    rw [h3]
    obtain ⟨b, off, rfl, hb, c0, c1, -⟩ := S2.lin_at hxp
    go_wp2
    go_ret
    exact ⟨rfl, L0⟩
end Go.Proofs.Ytcokoaolcafkoaa
