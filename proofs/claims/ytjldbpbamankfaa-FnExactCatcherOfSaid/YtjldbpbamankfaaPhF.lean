/- programs: inLoop, inRange of the program; what it asks of a depth -/
import Derived.Test.YtjldbpbamankfaaPhD
import Derived.Test.YtjldbpbamankfaaPhA
import Derived.Test.YtjldbpbamankfaaHpB
namespace Go.Proofs.Ytjldbpbamankfaa
open Go.RowKit
def upF (p : List Lin) : Option Nat → Bool
  | none => false
  | some j => if knd p j = 12 then true else inL p j
theorem inL_upF (p : List Lin) (i : Nat) : inL p i = upF p (outs p i) := by
  unfold inL; rw [in_out]; rfl
set_option maxHeartbeats 1000000 in
theorem iInLoop_any (A : Option Addr) (n cap : Nat) (p : List Lin) (i : Nat) (hi : i < p.length) (hsm : p.length ≤ 1048576) (w : World) (hR : Sl w A n cap p) :
    Calls Try.prog 113 #[.slice A n cap, .int .i64 i] w fun e w' => e = .returned (.bool (inL p i)) ∧ Le w w' := by
  obtain rfl := hR.len
  have H0 := Lib.hid (inL_upF p i)
  have hlt : Hid (∀ j, outs p i = some j → j < i) := fun j h => oGo_lt h
  go_enter Try.func113, Try.ntmps113
  go_wp2_with fail
  refine (outside_any A p.length cap p i hi hsm w hR).mono ?_
  rintro e w2 ⟨rfl, hle⟩
  have T2 := hR.le hle
  clear hR
  go_wp2
  go_loopw [1] (fun ii wr => ∃ o : Option Nat, ii = .int .i64 (oI o) ∧ inL p i = upF p o ∧ (∀ j, o = some j → j < p.length) ∧ Le w2 wr) (fun ii _ => (intOf ii + 1).toNat)
  case atStart => exact ⟨outs p i, rfl, H0.out, fun j h => by have := hlt.out j h; omega, Le.refl _⟩
  case round =>
    obtain ⟨o, rfl, he, hb, hle2⟩ := hrel
    have HE := Lib.hid he
    clear he H0 hlt
    have T := T2.le hle2
    clear T2
    cases o with
    | none =>
      have HF : Hid (inL p i = false) := by show _ = _; rw [HE.out]; rfl
      have hneg : ¬ (0 : Int) ≤ oI none := by show ¬ (0 : Int) ≤ -1; omega
      have hn2 : oI none = -1 := rfl
      rw [hn2]
      clear hneg hb
      go_wp2
      go_ret
      exact ⟨ret_bool HF.out.symm, hle.trans hle2⟩
    | some j =>
      have hjl := hb j rfl
      have hn2 : oI (some j) = (j : Int) := rfl
      rw [hn2]
      clear hb
      obtain ⟨b, off, rfl, hbl, c0, c1, -⟩ := T.lin_at hjl
      have hj0 : (0 : Int) ≤ (j : Int) := by omega
      have hjn : (j : Int) < (p.length : Int) := by omega
      by_cases hk : p[j].kind = 12
      · have HF : Hid (inL p i = true) := by show _ = _; rw [HE.out]; show (if knd p j = 12 then true else inL p j) = true; rw [knd_at hjl, if_pos hk]
        have hkb : (p[j].kind == 12) = true := by simpa using hk
        clear HE hk
        go_wp2
        go_ret
        exact ⟨ret_bool HF.out.symm, hle.trans hle2⟩
      · have HF : Hid (inL p i = upF p (outs p j)) := by show _ = _; rw [HE.out, ← inL_upF]; show (if knd p j = 12 then true else inL p j) = inL p j; rw [knd_at hjl, if_neg hk]
        have hkb : (p[j].kind == 12) = false := by simpa using hk
        have hlt : Hid (∀ x, outs p j = some x → x < j) := fun x h => oGo_lt h
        clear HE hk
        generalize wr = wr0 at *
        go_wp2_with fail
        refine (outside_any _ p.length cap p j hjl hsm wr0 T).mono ?_
        rintro e w3 ⟨rfl, hle3⟩
        go_wp2
        go_roundw
        case rel => exact ⟨outs p j, rfl, HF.out, fun x h => by have := hlt.out x h; omega, hle2.trans hle3⟩
        case measure =>
          cases ho : outs p j with
          | none => simp [intOf, oI]
          | some x => have := hlt.out x ho; simp [intOf, oI]; omega
/-- what the program asks of the depth of a line, as it reads it -/
def depB (p : List Lin) (i : Nat) : Bool := if i = 0 then dep p 0 == 0 else if opn (knd p (i - 1)) = true then decide (dep p (i - 1) < 5) && (dep p i == dep p (i - 1) + 1) else rng 0 (dep p (i - 1)) (dep p i)
theorem depB_iff {p : List Lin} {i : Nat} : depB p i = true ↔ depI p i := by
  unfold depB depI
  cases i with
  | zero => rw [if_pos rfl, beq_iff_eq]; exact ⟨fun h => ⟨fun _ => h, fun j hj => by omega⟩, fun h => h.1 rfl⟩
  | succ j =>
    rw [if_neg (by omega), Nat.add_sub_cancel]
    cases ho : opn (knd p j)
    · rw [if_neg (by simp), rng_iff]
      constructor
      · intro h
        refine ⟨fun h => by omega, fun j' hj' => ?_⟩
        obtain rfl : j' = j := by omega
        exact ⟨fun h => (by rw [ho] at h; cases h), fun _ => h⟩
      · intro h
        exact (h.2 j rfl).2 ho
    · rw [if_pos rfl, Bool.and_eq_true, decide_eq_true_eq, beq_iff_eq]
      constructor
      · intro h
        refine ⟨fun h => by omega, fun j' hj' => ?_⟩
        obtain rfl : j' = j := by omega
        exact ⟨fun _ => h, fun h => (by rw [ho] at h; cases h)⟩
      · intro h
        exact (h.2 j rfl).1 ho
theorem iRange_any (a b c : Int) (w : World) : Calls Try.prog 75 #[.int .i64 a, .int .i64 b, .int .i64 c] w fun e w' => e = .returned (.bool (rng b c a)) ∧ w = w' := by
  go_enter Try.func75, Try.ntmps75
  go_wp2
  all_goals (go_ret; simp_all [rng])
  all_goals omega
end Go.Proofs.Ytjldbpbamankfaa
