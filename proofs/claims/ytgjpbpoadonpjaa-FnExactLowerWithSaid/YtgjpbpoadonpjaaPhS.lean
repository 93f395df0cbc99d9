/- programs: held against the rules: ifValid, checkedProgram; ThenProgram of both -/
import Derived.Test.YtgjpbpoadonpjaaPhR
import Derived.Test.YtgjpbpoadonpjaaCcL0
import Derived.Test.YtgjpbpoadonpjaaRg
namespace Go.Proofs.Ytgjpbpoadonpjaa
open Go.RowKit
def chkV (xs : List Cls) (p : List Lin) (v : Value) : Value := cond (vp xs p) v (.slice none 0 0)
theorem chk_owd {xs : List Cls} {p : List Lin} {w0 w : World} {v : Value} (h : Owd 55 w0 w v p) : Owd 55 w0 w (chkV xs p v) (chkX xs p) := by
  unfold chkV chkX
  cases vp xs p
  · exact Owd.nil _ _ _
  · exact h
theorem chkX_len (xs : List Cls) (p : List Lin) : (chkX xs p).length ≤ 24 := by
  unfold chkX
  cases h : vp xs p
  · simp
  · exact (goodP_of h).len
theorem ret2 {a b : Bool} {v u : Value} (h : a = b) (h2 : v = u) : Ending.returned (.tuple #[v, .bool a]) = .returned (.tuple #[u, .bool b]) := by rw [h, h2]
theorem iifValid_any (B A : Option Addr) (m c n cap : Nat) (xs : List Cls) (p : List Lin) (hm : m ≤ 1048576) (w : World) (hT : Sl w B m c xs) (hR : Sl w A n cap p) :
    Calls Try.prog 40 #[.agg #[.slice B m c], .slice A n cap] w fun e w' => e = .returned (.tuple #[chkV xs p (.slice A n cap), .bool (vp xs p)]) ∧ Le w w' := by
  have HV : Hid (chkV xs p (.slice A n cap) = cond (vp xs p) (.slice A n cap) (.slice none 0 0)) := rfl
  go_enter Try.func40, Try.ntmps40
  go_wp2_with fail
  obtain ⟨ct, zt, hleB⟩ := box1 w (.slice B m c) 33
  have L0 := hleB
  clear hleB
  generalize w.alloc (.cells #[.slice B m c] 33) = W at *
  refine (pValidProgram_any B A m c n cap xs p hm _ (hT.le L0) (hR.le L0)).mono ?_
  rintro e w1 ⟨rfl, hle⟩
  cases h : vp xs p
  · rw [h] at HV
    go_wp2
    exact bodyPost_ret (v := .tuple #[.slice none 0 0, .bool false]) (by simp [results, Try.results40, go_sem]) rfl ⟨ret2 h.symm HV.out.symm, L0.trans hle⟩
  · rw [h] at HV
    go_wp2
    exact bodyPost_ret (v := .tuple #[.slice A n cap, .bool true]) (by simp [results, Try.results40, go_sem]) rfl ⟨ret2 h.symm HV.out.symm, L0.trans hle⟩
theorem scheckedProgram_any (B A : Option Addr) (m c n cap : Nat) (xs : List Cls) (p : List Lin) (hsm : p.length ≤ 1048576) (w : World) (hT : Sl w B m c xs) (hR : Sl w A n cap p) :
    Calls Try.prog 35 #[.agg #[.slice B m c], .slice A n cap] w fun e w' => e = .returned (.tuple #[chkV xs p (.slice A n cap), .bool (vp xs p)]) ∧ Le w w' := by
  have HV : Hid (chkV xs p (.slice A n cap) = cond (vp xs p) (.slice A n cap) (.slice none 0 0)) := rfl
  go_enter Try.func35, Try.ntmps35
  go_wp2_with fail
  obtain ⟨ct, zt, hleB⟩ := box1 w (.slice B m c) 33
  have L0 := hleB
  clear hleB
  generalize w.alloc (.cells #[.slice B m c] 33) = W at *
  refine (svalidProgram_any B A m c n cap xs p hsm _ (hT.le L0) (hR.le L0)).mono ?_
  rintro e w1 ⟨rfl, hle⟩
  cases h : vp xs p
  · rw [h] at HV
    go_wp2
    exact bodyPost_ret (v := .tuple #[.slice none 0 0, .bool false]) (by simp [results, Try.results35, go_sem]) rfl ⟨ret2 h.symm HV.out.symm, L0.trans hle⟩
  · rw [h] at HV
    go_wp2
    exact bodyPost_ret (v := .tuple #[.slice A n cap, .bool true]) (by simp [results, Try.results35, go_sem]) rfl ⟨ret2 h.symm HV.out.symm, L0.trans hle⟩
def thX (xs : List Cls) (p q : List Lin) : List Lin := cond (vp xs p && vp xs q) (chkX xs (p ++ q)) []
def thOk (xs : List Cls) (p q : List Lin) : Bool := (vp xs p && vp xs q) && vp xs (p ++ q)
theorem thX_len (xs : List Cls) (p q : List Lin) : (thX xs p q).length ≤ 1048576 := by
  unfold thX
  cases vp xs p && vp xs q
  · simp
  · exact Nat.le_trans (chkX_len _ _) (by omega)
end Go.Proofs.Ytgjpbpoadonpjaa
