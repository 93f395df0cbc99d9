/- the law FnParseExits -/
import Derived.Test.YtnpcmlcigeccmaaDoorCv11
import Derived.Test.YtnpcmlcigeccmaaDoorCv13
import Derived.Test.YtnpcmlcigeccmaaDoorGotDP
namespace Go.Proofs.YtnpcmlcigeccmaaDoor
open Go.RowKit
theorem xk_true {xs : List Cls} {s : List UInt8} (h : xkO xs s = true) : vxs xs (xkX xs s) = true ∧ xsB xs (xkX xs s) = s := by
  by_cases hex : ∃ L, vxs xs L = true ∧ xsB xs L = s
  · obtain ⟨L, h1, h2⟩ := hex
    rw [(xk_some h1 h2).2]; exact ⟨h1, h2⟩
  · rw [(xk_none (fun L h1 h2 => hex ⟨L, h1, h2⟩)).1] at h; cases h
set_option maxHeartbeats 4000000 in
set_option maxRecDepth 100000 in
theorem fnParseExits_walk (A : Option Addr) (n cap : Nat) (bs : List By) (w : World) (hR : Sl w A n cap bs) (hG : GotErr w) :
    Calls Tryd.prog 4 #[.slice A n cap] w fun e w' => e = .returned (.bool true) ∧ Le w w' := by
  have hm := hR.n_le
  by_cases hbig : 1048576 < n
  · go_enter Tryd.func4, Tryd.ntmps4
    go_wp2
    go_ret
    exact ⟨rfl, Le.refl w⟩
  go_enter Tryd.func4, Tryd.ntmps4
  go_wp2_with fail
  refine (drawParseExits_any A n cap bs w hR).mono ?_
  rintro e w1 ⟨B, m, c, xs, s, rfl, S, hm8, hs, L0⟩
  clear hbig hm hR
  have HFX : Hid (xkO xs (bl s) = true → xtX xs (xkX xs (bl s)) = s ∧ vxs xs (xkX xs (bl s)) = true) := fun h => by
    obtain ⟨h1, h2⟩ := xk_true h
    rw [xtX_of h1]
    exact ⟨by show tb _ = s; rw [h2, tb_bl], h1⟩
  have HI : Hid (∀ W, Sl W B m c xs → GotErr W → Calls Tryd.prog 11 #[.agg #[.slice B m c], .string s] W (XkOut W xs s)) := fun W S h => iParseExits_any B m c xs s W S (by omega) h.1 h.2.2 h.2.1
  have HS : Hid (∀ W, Sl W B m c xs → Calls Tryd.prog 15 #[.agg #[.slice B m c], .string s] W (XkOut W xs s)) := fun W S => sParseExits_any B m c xs s W S (by omega)
  unfold XkOut at HI HS
  have hbb : (xkO xs (bl s) != xkO xs (bl s)) = false := by simp
  have hbb2 : (xkO xs (bl s) == xkO xs (bl s)) = true := by simp
  generalize xkX xs (bl s) = X at *
  go_wp2_with fail
  obtain ⟨ct, zt, hleB⟩ := box1 w1 (.slice B m c) 25
  replace S := S.le hleB
  replace L0 := L0.trans hleB
  clear hleB
  generalize w1.alloc (.cells #[.slice B m c] 25) = W1 at *
  refine (HI.out W1 S (hG.le L0)).mono ?_
  rintro e w2 ⟨v, rfl, D, hle⟩
  replace ct := (hle.cell zt).trans ct
  replace zt := Nat.lt_of_lt_of_le zt hle.size
  replace S := S.le hle
  replace L0 := L0.trans hle
  clear hle
  obtain ⟨A2, q2, rfl, S2, -⟩ := D.form (by decide)
  clear D
  go_wp2_with fail
  refine (HS.out w2 S).mono ?_
  rintro e w4 ⟨v, rfl, D, hle⟩
  replace ct := (hle.cell zt).trans ct
  replace zt := Nat.lt_of_lt_of_le zt hle.size
  replace S := S.le hle
  replace L0 := L0.trans hle
  replace S2 := S2.le hle
  clear hle
  obtain ⟨A4, q4, rfl, S4, -⟩ := D.form (by decide)
  clear D HI HS
  go_wp2_with fail
  refine (equalExits_self A2 A4 _ q2 q4 X w4 S2 S4).mono ?_
  rintro e w6 ⟨rfl, hle⟩
  replace ct := (hle.cell zt).trans ct
  replace zt := Nat.lt_of_lt_of_le zt hle.size
  replace S := S.le hle
  replace L0 := L0.trans hle
  replace S2 := S2.le hle
  replace S4 := S4.le hle
  clear hle
  generalize xkO xs (bl s) = ok at *
  cases ok
  · go_wp2_with fail
    refine (equalExits_self A2 A4 _ q2 q4 X _ S2 S4).mono ?_
    rintro e w7 ⟨rfl, hle⟩
    replace L0 := L0.trans hle
    clear hle
    go_wp2
    go_ret
    exact ⟨rfl, L0⟩
  · obtain ⟨h1, h2⟩ := HFX.out rfl
    have HV : Hid (Value.string (xtX xs X) = Value.string s) := by show _ = _; rw [h1]
    have H2 := Lib.hid h2
    clear h1 h2 HFX
    have hss : (s.toList == s.toList) = true := by simp
    go_wp2_with fail
    refine (Calls.val (iExitsText_any B A2 m c _ q2 xs X w6 S S2 (hG.le L0).1 (hG.le L0).2.1) HV.out).mono ?_
    rintro e w7 ⟨rfl, hle⟩
    replace ct := (hle.cell zt).trans ct
    replace zt := Nat.lt_of_lt_of_le zt hle.size
    replace S := S.le hle
    replace S2 := S2.le hle
    replace L0 := L0.trans hle
    clear hle
    go_wp2_with fail
    refine (Calls.val (iValidExits_any B A2 m c _ q2 xs X w7 S S2) (by rw [H2.out])).mono ?_
    rintro e w8 ⟨rfl, hle⟩
    replace L0 := L0.trans hle
    clear hle
    go_wp2
    go_ret
    exact ⟨rfl, L0⟩
end Go.Proofs.YtnpcmlcigeccmaaDoor
