/- groups: HasClass of the model -/
import Derived.Test.YtpdggodmiliijaaItF
import Derived.Test.YtpdggodmiliijaaItD
namespace Go.Proofs.Ytpdggodmiliijaa
open Go.RowKit
set_option maxRecDepth 100000 in
set_option maxHeartbeats 2000000 in
theorem sHasClass_any (A B : Option Addr) (n cap m c : Nat) (xs : List Cls) (g : List Prt) (a : Int) (w : World) (hT : Sl w A n cap xs) (hG : Sl w B m c g) :
    Calls Try.prog 24 #[.agg #[.slice A n cap], .slice B m c, .int .i64 a] w fun e w' => e = .returned (.bool (hcX xs g a)) ∧ Le w w' := by
  obtain ⟨c0, z0, hl⟩ := box1 w (.slice A n cap) 32
  have hS := hT.le hl
  have hG1 := hG.le hl
  go_enter Try.func24, Try.ntmps24
  go_wp2_with fail
  generalize w.alloc (.cells #[.slice A n cap] 32) = w1 at *
  refine (validGroup_any _ _ _ _ _ _ xs g _ hS hG1).mono ?_
  rintro e w2 ⟨rfl, hle⟩
  have hS2 := hS.le hle
  have hG2 := hG1.le hle
  have hLL := hl.trans hle
  have d0 := (hle.cell z0).trans c0
  cases hg : gOkS xs g
  · have HF : Hid (hcX xs g a = false) := by show _ = _; unfold hcX; rw [hg]; rfl
    clear hg
    go_wp2
    go_ret
    exact ⟨ret_bool HF.out.symm, hLL⟩
  · have HG := Lib.hid hg
    have G := goodG_of (by rw [← gOk_same]; exact hg)
    clear hg
    cases hk : hasK xs a
    · have HF : Hid (hcX xs g a = false) := by show _ = _; unfold hcX; rw [HG.out, hk]; rfl
      go_wp2_with (go_at_call 59; refine (hasClass_any A n cap xs a _ hS2).mono ?_; rintro e w3 ⟨rfl, hle3⟩; rw [hk])
      go_ret
      exact ⟨ret_bool HF.out.symm, hLL.trans hle3⟩
    · have HF : Hid (hcX xs g a = (leavesL g).any (fun x => isAL xs x.cls a)) := by show _ = _; unfold hcX; rw [HG.out, hk]; rfl
      go_wp2_with (go_at_call 59; refine (hasClass_any A n cap xs a _ hS2).mono ?_; rintro e w3 ⟨rfl, hle3⟩; rw [hk]; have d3 := (hle3.cell (Nat.lt_of_lt_of_le z0 hle.size)).trans d0)
      refine (split_any _ _ _ _ _ _ xs g G a _ (hS2.le hle3) (hG2.le hle3)).mono ?_
      rintro e w4 ⟨v, u, rfl, O1, O2, _, hle4⟩
      obtain ⟨A1, c1, rfl, S1, -⟩ := O1.form (by decide)
      obtain ⟨A2, c2, rfl, S2, -⟩ := O2.form (by decide)
      have HW := Lib.hid ((hLL.trans hle3).trans hle4)
      have HF2 := Lib.hid (HF.out.trans (keep_any (xs := xs) (g := g) a).symm)
      clear O1 O2 S1 S2
      go_wp2
      go_ret
      exact ⟨ret_bool HF2.out.symm, HW.out⟩
end Go.Proofs.Ytpdggodmiliijaa
