/- tables: TryOf of both -/
import Derived.Test.YtldnjihakkekkaaPhW
import Derived.Test.YtldnjihakkekkaaIx
import Derived.Test.YtldnjihakkekkaaPhE
import Derived.Test.YtldnjihakkekkaaPhJ
namespace Go.Proofs.Ytldnjihakkekkaa
open Go.RowKit
set_option maxHeartbeats 1000000 in
theorem tryOf_any (A : Option Addr) (n cap : Nat) (p : List Lin) (i j : Nat) (hi : i < p.length) (ht : IsTry p j i) (hsm : p.length ≤ 1048576) (w : World) (hR : Sl w A n cap p) :
    Calls Try.prog 51 #[.slice A n cap, .int .i64 i] w fun e w' => e = .returned (.int .i64 j) ∧ Le w w' := by
  obtain rfl := hR.len
  go_enter Try.func51, Try.ntmps51
  go_wp2
  go_loopw [1] (fun ii wr => ∃ x : Nat, ii = .int .i64 x ∧ x < p.length ∧ IsTry p j x ∧ Le w wr) (fun ii _ => (intOf ii + 1).toNat)
  case atStart => exact ⟨i, rfl, hi, ht, Le.refl _⟩
  case round =>
    obtain ⟨x, rfl, hx, hty, hle⟩ := hrel
    have T := hR.le hle
    obtain ⟨b, off, rfl, hb, d0, d1, -⟩ := T.lin_at hx
    have hx0 : (0 : Int) ≤ (x : Int) := by omega
    have hxn : (x : Int) < (p.length : Int) := by omega
    rcases try_step hty with ⟨h7, rfl⟩ | ⟨hf, y, hy, hyx, -, hty2⟩
    · rw [knd_at hx] at h7
      rw [h7] at d1
      have h7b : ((7 : Int) != 7) = false := rfl
      clear h7 ht hty
      go_wp2
      go_ret
      exact ⟨rfl, hle⟩
    · rw [knd_at hx] at hf
      have h7b : (p[x].kind != 7) = true := by
        have := fol_iff.1 hf
        simp; omega
      have HTY := Lib.hid hty2
      have HY := Lib.hid hy
      generalize p[x].kind = vk at *
      clear hf ht hty hty2 hy
      generalize wr = W0 at *
      go_wp2_with fail
      refine (headOf_any _ p.length cap p x hx (by omega) W0 T).mono ?_
      rintro e w2 ⟨rfl, hle2⟩
      rw [HY.out]
      go_wp2
      go_roundw
      case rel => exact ⟨y, rfl, by omega, HTY.out, hle.trans hle2⟩
      case measure => simp [intOf]; omega
def tyX (xs : List Cls) (p : List Lin) (i : Int) : List Int := cond (glB xs p i) (match tryAt p i.toNat with | some j => nI (parts p j) | none => []) []
theorem tyX_len (xs : List Cls) (p : List Lin) (i : Int) : (tyX xs p i).length ≤ 1048576 := by
  unfold tyX
  cases h : glB xs p i
  · simp
  · obtain ⟨h1, k, rfl, hk⟩ := glB_iff.1 h
    have h2 := (goodP_of h1).len
    show (match tryAt p (k : Int).toNat with | some j => nI (parts p j) | none => []).length ≤ _
    cases tryAt p (k : Int).toNat with
    | none => simp
    | some j =>
      have := parts_len p j
      show (nI _).length ≤ _
      rw [nI_len]; omega
theorem tyX_none {xs : List Cls} {p : List Lin} {k : Nat} (h : glB xs p k = true) (h2 : tryAt p k = none) : tyX xs p k = [] := by
  unfold tyX; rw [h, Int.toNat_natCast, h2]; rfl
theorem tyX_some {xs : List Cls} {p : List Lin} {k j : Nat} (h : glB xs p k = true) (h2 : tryAt p k = some j) : tyX xs p k = nI (parts p j) := by
  unfold tyX; rw [h, Int.toNat_natCast, h2]; rfl
theorem nI_contains (L : List Nat) (x : Nat) : (nI L).contains (x : Int) = L.contains x := by
  rw [Bool.eq_iff_iff, List.contains_iff_mem, List.contains_iff_mem]
  unfold nI
  rw [List.mem_map]
  exact ⟨fun ⟨y, hy, e⟩ => by rw [← Int.ofNat.inj e]; exact hy, fun h => ⟨x, h, rfl⟩⟩
theorem tyGo_yes {p : List Lin} {i j : Nat} (h7 : knd p j = 7) (hm : (parts p j).contains i = true) : tyGo p i (j + 1) = some j := by
  unfold tyGo; rw [if_pos ⟨h7, List.contains_iff_mem.1 hm⟩]
theorem tyGo_no {p : List Lin} {i j : Nat} (h : knd p j ≠ 7 ∨ (parts p j).contains i = false) : tyGo p i (j + 1) = tyGo p i j := by
  show (if _ then _ else _) = _
  rw [if_neg]
  rintro ⟨h1, h2⟩
  rcases h with h | h
  · exact h h1
  · rw [List.contains_iff_mem.2 h2] at h; cases h
end Go.Proofs.Ytldnjihakkekkaa
