/- programs: RunProgram of both, RunLog of both -/
import Derived.Test.YtlepgfccnfcagaaWp12
import Derived.Test.YtlepgfccnfcagaaRsJP
namespace Go.Proofs.Ytlepgfccnfcagaa
open Go.RowKit
theorem sRp_any (B A : Option Addr) (m c n cap : Nat) (xs : List Cls) (p : List Lin) (hsm : p.length ≤ 1048576) (w : World) (hT : Sl w B m c xs) (hR : Sl w A n cap p) :
    Calls Try.prog 13 #[.agg #[.slice B m c], .slice A n cap] w (ResOut w (rpL xs p) (rpH xs p) (rpE xs p) (rpV xs p)) :=
  sRunProgram_any B A m c n cap xs p hsm (fun h => run_jl (goodP_of h)) (fun h => run_sm (goodP_of h)) w hT hR
set_option maxHeartbeats 1000000 in
set_option maxRecDepth 100000 in
theorem iRunLog_any (B A : Option Addr) (m c n cap : Nat) (xs : List Cls) (p : List Lin) (hm : m ≤ 1048576) (w : World) (hT : Sl w B m c xs) (hR : Sl w A n cap p) :
    Calls Try.prog 16 #[.agg #[.slice B m c], .slice A n cap] w fun e w' => ∃ v, e = .returned v ∧ Owd 3 w w' v (rpL xs p) ∧ Le w w' := by
  have L1 := Le.new w (.cells #[.slice B m c] 25)
  go_enter Try.func16, Try.ntmps16
  go_wp2_with fail
  refine (iRp_any B A m c n cap xs p hm _ (hT.le L1) (hR.le L1)).mono ?_
  rintro e w2 ⟨lv, hv, rfl, D, -, -, hle⟩
  have HD := Lib.hid (And.intro (D.mono L1) (L1.trans hle))
  have q0 := fld0
  clear D hle
  go_wp2
  go_ret
  exact ⟨_, rfl, HD.out.1, HD.out.2⟩
set_option maxHeartbeats 1000000 in
set_option maxRecDepth 100000 in
theorem sRunLog_any (B A : Option Addr) (m c n cap : Nat) (xs : List Cls) (p : List Lin) (hsm : p.length ≤ 1048576) (w : World) (hT : Sl w B m c xs) (hR : Sl w A n cap p) :
    Calls Try.prog 18 #[.agg #[.slice B m c], .slice A n cap] w fun e w' => ∃ v, e = .returned v ∧ Owd 3 w w' v (rpL xs p) ∧ Le w w' := by
  have L1 := Le.new w (.cells #[.slice B m c] 25)
  have t0 : (w.alloc (.cells #[.slice B m c] 25)).cell? ⟨w.heap.size, 0, none⟩ = some (.slice B m c) := by rw [World.cell?_alloc_at _ _ _ _ rfl]; rfl
  have zt : w.heap.size < (w.alloc (.cells #[.slice B m c] 25)).heap.size := by simp
  have T1 := hT.le L1
  have R1 := hR.le L1
  go_enter Try.func18, Try.ntmps18
  go_wp2_with fail
  generalize w.alloc (.cells #[.slice B m c] 25) = W at *
  refine (svalidProgram_any B A m c n cap xs p hsm W T1 R1).mono ?_
  rintro e w2 ⟨rfl, hle⟩
  replace t0 := (hle.cell zt).trans t0
  have L2 := L1.trans hle
  replace T1 := T1.le hle
  replace R1 := R1.le hle
  clear hle zt L1 hT hR
  cases hvt : vp xs p
  · have HX : Hid (rpL xs p = []) := by show _ = _; unfold rpL; rw [hvt]; rfl
    clear hvt
    go_wp2
    go_ret
    exact ⟨_, rfl, by rw [HX.out]; exact Owd.nil _ _ _, L2⟩
  · have g := goodP_of hvt
    have HX : Hid (rpL xs p = (runI xs p).2.1) := by show _ = _; unfold rpL; rw [hvt]; rfl
    clear hvt
    go_wp2_with fail
    refine (run_any B A m c n cap xs p g (run_sm g) (run_jl g) w2 T1 R1).mono ?_
    rintro e w5 ⟨lv5, hv5, rfl, D4, -, -, hl5⟩
    have HD := Lib.hid (And.intro (D4.mono L2) (L2.trans hl5))
    have q0 := fld0
    clear D4 hl5 t0
    go_wp2
    go_ret
    exact ⟨_, rfl, by rw [HX.out]; exact HD.out.1, HD.out.2⟩
end Go.Proofs.Ytlepgfccnfcagaa
