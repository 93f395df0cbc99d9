/- one text of PhF, PhI, PhB, PhJ, PhL, PhE, PhH -/
import Derived.Test.YtkcnjoikdalgjaaDoorDp5
import Derived.Test.YtkcnjoikdalgjaaDoorDp1
import Derived.Test.YtkcnjoikdalgjaaDoorDp2
namespace Go.Proofs.YtkcnjoikdalgjaaDoor
open Go.RowKit
set_option linter.unusedVariables false
section
section
def upF (p : List Lin) : Option Nat → Bool
  | none => false
  | some j => if knd p j = 12 then true else inL p j
theorem inL_upF (p : List Lin) (i : Nat) : inL p i = upF p (outs p i) := by
  unfold inL; rw [in_out]; rfl
set_option maxHeartbeats 1000000 in
theorem iInLoop_any (A : Option Addr) (n cap : Nat) (p : List Lin) (i : Nat) (hi : i < p.length) (hsm : p.length ≤ 1048576) (w : World) (hR : Sl w A n cap p) :
    Calls Tryd.prog 57 #[.slice A n cap, .int .i64 i] w fun e w' => e = .returned (.bool (inL p i)) ∧ Le w w' := by
  obtain rfl := hR.len
  have H0 := Lib.hid (inL_upF p i)
  have hlt : Hid (∀ j, outs p i = some j → j < i) := fun j h => oGo_lt h
  go_enter Tryd.func57, Tryd.ntmps57
  go_wp2_with fail
  refine (outside_any A p.length cap p i hi hsm w hR).mono ?_
  rintro e w2 ⟨rfl, hle⟩
  have T2 := hR.le hle
  clear hR
  go_wp2
  go_loopw [1] (fun ii wr => ∃ o : Option Nat, ii = .int .i64 (oI o) ∧ inL p i = upF p o ∧ (∀ j, o = some j → j < p.length) ∧ Le w2 wr) (fun ii _ => (intOf ii + 1).toNat)
  case atStart => exact ⟨outs p i, rfl, H0.out, fun j h => by have := hlt.out j h; omega, Le.refl _⟩
  case round =>
    obtain ⟨o, rfl, he, hb, hle2⟩ := hrel
    have HE := Lib.hid he
    clear he H0 hlt
    have T := T2.le hle2
    clear T2
    cases o with
    | none =>
      have HF : Hid (inL p i = false) := by show _ = _; rw [HE.out]; rfl
      have hneg : ¬ (0 : Int) ≤ oI none := by show ¬ (0 : Int) ≤ -1; omega
      have hn2 : oI none = -1 := rfl
      rw [hn2]
      clear hneg hb
      go_wp2
      go_ret
      exact ⟨ret_bool HF.out.symm, hle.trans hle2⟩
    | some j =>
      have hjl := hb j rfl
      have hn2 : oI (some j) = (j : Int) := rfl
      rw [hn2]
      clear hb
      obtain ⟨b, off, rfl, hbl, c0, c1, -⟩ := T.lin_at hjl
      have hj0 : (0 : Int) ≤ (j : Int) := by omega
      have hjn : (j : Int) < (p.length : Int) := by omega
      by_cases hk : p[j].kind = 12
      · have HF : Hid (inL p i = true) := by show _ = _; rw [HE.out]; show (if knd p j = 12 then true else inL p j) = true; rw [knd_at hjl, if_pos hk]
        have hkb : (p[j].kind == 12) = true := by simpa using hk
        clear HE hk
        go_wp2
        go_ret
        exact ⟨ret_bool HF.out.symm, hle.trans hle2⟩
      · have HF : Hid (inL p i = upF p (outs p j)) := by show _ = _; rw [HE.out, ← inL_upF]; show (if knd p j = 12 then true else inL p j) = inL p j; rw [knd_at hjl, if_neg hk]
        have hkb : (p[j].kind == 12) = false := by simpa using hk
        have hlt : Hid (∀ x, outs p j = some x → x < j) := fun x h => oGo_lt h
        clear HE hk
        generalize wr = wr0 at *
        go_wp2_with fail
        refine (outside_any _ p.length cap p j hjl hsm wr0 T).mono ?_
        rintro e w3 ⟨rfl, hle3⟩
        go_wp2
        go_roundw
        case rel => exact ⟨outs p j, rfl, HF.out, fun x h => by have := hlt.out x h; omega, hle2.trans hle3⟩
        case measure =>
          cases ho : outs p j with
          | none => simp [intOf, oI]
          | some x => have := hlt.out x ho; simp [intOf, oI]; omega
/-- what the program asks of the depth of a line, as it reads it -/
def depB (p : List Lin) (i : Nat) : Bool := if i = 0 then dep p 0 == 0 else if opn (knd p (i - 1)) = true then decide (dep p (i - 1) < 5) && (dep p i == dep p (i - 1) + 1) else rng 0 (dep p (i - 1)) (dep p i)
theorem depB_iff {p : List Lin} {i : Nat} : depB p i = true ↔ depI p i := by
  unfold depB depI
  cases i with
  | zero => rw [if_pos rfl, beq_iff_eq]; exact ⟨fun h => ⟨fun _ => h, fun j hj => by omega⟩, fun h => h.1 rfl⟩
  | succ j =>
    rw [if_neg (by omega), Nat.add_sub_cancel]
    cases ho : opn (knd p j)
    · rw [if_neg (by simp), rng_iff]
      constructor
      · intro h
        refine ⟨fun h => by omega, fun j' hj' => ?_⟩
        obtain rfl : j' = j := by omega
        exact ⟨fun h => (by rw [ho] at h; cases h), fun _ => h⟩
      · intro h
        exact (h.2 j rfl).2 ho
    · rw [if_pos rfl, Bool.and_eq_true, decide_eq_true_eq, beq_iff_eq]
      constructor
      · intro h
        refine ⟨fun h => by omega, fun j' hj' => ?_⟩
        obtain rfl : j' = j := by omega
        exact ⟨fun _ => h, fun h => (by rw [ho] at h; cases h)⟩
      · intro h
        exact (h.2 j rfl).1 ho
theorem iRange_any (a b c : Int) (w : World) : Calls Tryd.prog 55 #[.int .i64 a, .int .i64 b, .int .i64 c] w fun e w' => e = .returned (.bool (rng b c a)) ∧ w = w' := by
  go_enter Tryd.func55, Tryd.ntmps55
  go_wp2
  all_goals (go_ret; simp_all [rng])
  all_goals omega
end

section
theorem box4 (w : World) (a b c d : Value) (T : TypeId) : (w.alloc (.cells #[a, b, c, d] T)).cell? ⟨w.heap.size, 0, none⟩ = some a ∧ (w.alloc (.cells #[a, b, c, d] T)).cell? ⟨w.heap.size, 1, none⟩ = some b ∧
    w.heap.size < (w.alloc (.cells #[a, b, c, d] T)).heap.size ∧ Le w (w.alloc (.cells #[a, b, c, d] T)) := by
  refine ⟨?_, ?_, by simp, Le.new w _⟩ <;> (rw [World.cell?_alloc_at _ _ _ _ rfl]; rfl)
set_option maxHeartbeats 1000000 in
theorem validLineDepth_any (A : Option Addr) (n cap : Nat) (p : List Lin) (i : Nat) (hi : i < p.length) (hsm : p.length ≤ 1048576) (hpr : 0 < i → 0 ≤ dep p (i - 1) ∧ dep p (i - 1) ≤ 5) (w : World) (hR : Sl w A n cap p) :
    Calls Tryd.prog 56 #[.slice A n cap, .int .i64 i] w fun e w' => e = .returned (.bool (depB p i)) ∧ Le w w' := by
  obtain rfl := hR.len
  obtain ⟨b, off, rfl, hb, c0, -⟩ := hR.lin_at hi
  cases i with
  | zero =>
    have HF : Hid (depB p 0 = (p[0].depth == 0)) := by show _ = _; unfold depB; rw [if_pos rfl, dep_at hi]
    simp only [Nat.zero_mul, Nat.add_zero] at c0
    have h0n : (0 : Int) < (p.length : Int) := by omega
    go_enter Tryd.func56, Tryd.ntmps56
    go_wp2
    go_ret
    exact ⟨ret_bool HF.out.symm, Le.refl _⟩
  | succ j =>
    have hj : j < p.length := by omega
    have hp2 := hpr (by omega)
    rw [Nat.add_sub_cancel, dep_at hj] at hp2
    obtain ⟨b', off', e, _, d0, d1, d2, d3, hok⟩ := hR.lin_at hj
    injection e with e
    injection e with e1 e2
    subst e1
    subst e2
    have hcast : ((j + 1 : Nat) : Int) = (j : Int) + 1 := by omega
    have hwj : IntKind.i64.wrap ((j : Int) + 1 - 1) = (j : Int) := by rw [Int.add_sub_cancel]; exact IntWalk.i64_in _ (by omega)
    have hwj2 : IntKind.i64.wrap (j : Int) = (j : Int) := IntWalk.i64_in _ (by omega)
    have hj0 : (0 : Int) ≤ (j : Int) := by omega
    have hj1 : (0 : Int) ≤ (j : Int) + 1 := by omega
    have hjn : (j : Int) < (p.length : Int) := by omega
    have hjn2 : (j : Int) + 1 < (p.length : Int) := by omega
    have hne : ((j : Int) + 1 == 0) = false := bf (by omega)
    have hwd : IntKind.i64.wrap (p[j].depth + 1) = p[j].depth + 1 := IntWalk.i64_in _ (by omega)
    have HF : Hid (depB p (j + 1) = if opn p[j].kind = true then decide (p[j].depth < 5) && (p[j + 1].depth == p[j].depth + 1) else rng 0 p[j].depth p[j + 1].depth) := by
      show _ = _
      unfold depB
      rw [if_neg (by omega), Nat.add_sub_cancel, knd_at hj, dep_at hj, dep_at hi]
    rw [hcast]
    clear hpr hok
    generalize p[j].depth = vd at *
    generalize p[j].kind = vk at *
    generalize p[j].a = va at *
    generalize p[j].b = vb at *
    generalize p[j + 1].depth = vi at *
    go_enter Tryd.func56, Tryd.ntmps56
    go_wp2_with fail
    obtain ⟨x0, x1, x2, L1⟩ := box4 w (.int .i64 vd) (.int .i64 vk) (.int .i64 va) (.int .i64 vb) 42
    have k0 := (L1.cell hb).trans c0
    have hb1 : b < (w.alloc (.cells #[.int .i64 vd, .int .i64 vk, .int .i64 va, .int .i64 vb] 42)).heap.size := Nat.lt_of_lt_of_le hb L1.size
    clear d0 d1 d2 d3 hR c0
    generalize hbx : w.heap.size = B at *
    refine (hasBlock_any vk _).mono ?_
    rintro e w2 ⟨rfl, rfl⟩
    generalize hW : w.alloc _ = W at *
    have X0 := cell_ext x2 x0
    have K0 := cell_ext hb1 k0
    cases ho : opn vk
    · have HF2 : Hid (depB p (j + 1) = rng 0 vd vi) := by show _ = _; rw [HF.out, ho, if_neg (by simp)]
      clear HF
      cases hr : rng 0 vd vi
      all_goals
        rw [hr] at HF2
        have hc := fun U : World => iRange_any vi 0 vd U
        rw [hr] at hc
        go_wp2_with fail
        refine wp_region_ext (by kernel_rfl) (by kernel_rfl) ?_
        repeat (go_big_quiet_step (fail))
        go_big_quiet_step (first | (go_at_call 55; exact Calls.ext_same (hc _)))
        repeat (go_big_quiet_step (fail))
        refine wpQuiet_nil ?_
        intro _ hw'
        obtain ⟨gg, rfl⟩ := hw'
        have hw1 := Le.ext W gg
        generalize W.ext gg = W2 at *
        go_wp2
        go_ret
        exact ⟨ret_bool HF2.out.symm, L1.trans hw1⟩
    · by_cases h5 : vd < 5
      · have h5b : decide (vd < 5) = true := decide_eq_true h5
        have HF2 : Hid (depB p (j + 1) = (vi == vd + 1)) := by show _ = _; rw [HF.out, ho, if_pos rfl, h5b, Bool.true_and]
        clear HF
        go_wp2_with fail
        refine wp_region_ext (by kernel_rfl) (by kernel_rfl) ?_
        repeat (go_big_quiet_step (fail))
        refine wpQuiet_nil ?_
        intro _ hw'
        obtain ⟨gg, rfl⟩ := hw'
        have hw1 := Le.ext W gg
        generalize W.ext gg = W2 at *
        go_wp2
        go_ret
        exact ⟨ret_bool HF2.out.symm, L1.trans hw1⟩
      · have h5b : decide (vd < 5) = false := decide_eq_false h5
        have HF2 : Hid (depB p (j + 1) = false) := by show _ = _; rw [HF.out, ho, if_pos rfl, h5b, Bool.false_and]
        clear HF
        go_wp2_with fail
        refine wp_region_ext (by kernel_rfl) (by kernel_rfl) ?_
        repeat (go_big_quiet_step (fail))
        refine wpQuiet_nil ?_
        intro _ hw'
        obtain ⟨gg, rfl⟩ := hw'
        have hw1 := Le.ext W gg
        generalize W.ext gg = W2 at *
        go_wp2
        go_ret
        exact ⟨ret_bool HF2.out.symm, L1.trans hw1⟩
end
end

section
theorem boxTL (w : World) (s a b c d : Value) (T U : TypeId) : ((w.alloc (.cells #[s] T)).alloc (.cells #[a, b, c, d] U)).cell? ⟨w.heap.size, 0, none⟩ = some s ∧ ((w.alloc (.cells #[s] T)).alloc (.cells #[a, b, c, d] U)).cell? ⟨w.heap.size + 1, 1, none⟩ = some b ∧
    ((w.alloc (.cells #[s] T)).alloc (.cells #[a, b, c, d] U)).cell? ⟨w.heap.size + 1, 2, none⟩ = some c ∧ ((w.alloc (.cells #[s] T)).alloc (.cells #[a, b, c, d] U)).cell? ⟨w.heap.size + 1, 3, none⟩ = some d ∧
    w.heap.size < ((w.alloc (.cells #[s] T)).alloc (.cells #[a, b, c, d] U)).heap.size ∧ w.heap.size + 1 < ((w.alloc (.cells #[s] T)).alloc (.cells #[a, b, c, d] U)).heap.size ∧ Le w ((w.alloc (.cells #[s] T)).alloc (.cells #[a, b, c, d] U)) := by
  have hs : (w.alloc (.cells #[s] T)).heap.size = w.heap.size + 1 := by simp
  refine ⟨?_, ?_, ?_, ?_, by simp; omega, by simp, (Le.new w _).alloc _⟩
  · rw [World.cell?_alloc_past _ _ _ (by simp), World.cell?_alloc_at _ _ _ _ rfl]; rfl
  all_goals (rw [World.cell?_alloc_at _ _ _ _ (by simp)]; rfl)
set_option maxHeartbeats 1000000 in
theorem validNumbers_any (B : Option Addr) (m c : Nat) (xs : List Cls) (vd k a b : Int) (w : World) (hR : Sl w B m c xs) :
    Calls Tryd.prog 41 #[.agg #[.slice B m c], .agg #[.int .i64 vd, .int .i64 k, .int .i64 a, .int .i64 b]] w fun e w' => e = .returned (.bool (numS xs k a b)) ∧ Le w w' := by
  have H0 : Hid (numS xs k a b = if k = 1 ∨ k = 4 then rng 0 99 a && (b == 0) else if k = 2 then hasK xs a && rng 0 99 b else if k = 8 then hasK xs a && (b == 0) else if k = 11 then rng 0 9 a && rng 0 1 b else if k = 12 then rng 0 3 a && (b == 0) else rng 0 10 k && (a == 0) && (b == 0)) := rfl
  generalize numS xs k a b = R at *
  by_cases h1 : k = 1
  · subst h1
    have HF : Hid (R = (rng 0 99 a && (b == 0))) := H0.out
    clear H0
    go_enter Tryd.func41, Tryd.ntmps41
    go_wp2_with fail
    obtain ⟨x0, x1, x2, x3, s0, s1, L1⟩ := boxTL w (.slice B m c) (.int .i64 vd) (.int .i64 1) (.int .i64 a) (.int .i64 b) 31 42
    have T := hR.le L1
    clear hR
    generalize hX : w.heap.size + 1 = X at *
    generalize w.heap.size = X0 at *
    generalize (w.alloc (.cells #[.slice B m c] 31)).alloc _ = W at *
    refine (inRange_any a 0 99 _).mono ?_
    rintro e w2 ⟨rfl, rfl⟩
    cases r1 : (decide (0 ≤ a) && decide (a ≤ 99))
    · have HF2 : Hid (R = false) := HF.out.trans (by show ((decide (0 ≤ a) && decide (a ≤ 99)) && _) = _; rw [r1]; rfl)
      clear HF
      go_wp2
      go_ret
      exact ⟨ret_bool HF2.out.symm, L1⟩
    · have HF2 : Hid (R = (b == 0)) := HF.out.trans (by show ((decide (0 ≤ a) && decide (a ≤ 99)) && _) = _; rw [r1]; rfl)
      clear HF
      go_wp2
      go_ret
      exact ⟨ret_bool HF2.out.symm, L1⟩
  by_cases h4 : k = 4
  · subst h4
    have HF : Hid (R = (rng 0 99 a && (b == 0))) := H0.out
    clear H0
    go_enter Tryd.func41, Tryd.ntmps41
    go_wp2_with fail
    obtain ⟨x0, x1, x2, x3, s0, s1, L1⟩ := boxTL w (.slice B m c) (.int .i64 vd) (.int .i64 4) (.int .i64 a) (.int .i64 b) 31 42
    have T := hR.le L1
    clear hR
    generalize hX : w.heap.size + 1 = X at *
    generalize w.heap.size = X0 at *
    generalize (w.alloc (.cells #[.slice B m c] 31)).alloc _ = W at *
    refine (inRange_any a 0 99 _).mono ?_
    rintro e w2 ⟨rfl, rfl⟩
    cases r1 : (decide (0 ≤ a) && decide (a ≤ 99))
    · have HF2 : Hid (R = false) := HF.out.trans (by show ((decide (0 ≤ a) && decide (a ≤ 99)) && _) = _; rw [r1]; rfl)
      clear HF
      go_wp2
      go_ret
      exact ⟨ret_bool HF2.out.symm, L1⟩
    · have HF2 : Hid (R = (b == 0)) := HF.out.trans (by show ((decide (0 ≤ a) && decide (a ≤ 99)) && _) = _; rw [r1]; rfl)
      clear HF
      go_wp2
      go_ret
      exact ⟨ret_bool HF2.out.symm, L1⟩
  by_cases h2 : k = 2
  · subst h2
    have HF : Hid (R = (hasK xs a && rng 0 99 b)) := H0.out
    clear H0
    go_enter Tryd.func41, Tryd.ntmps41
    go_wp2_with fail
    obtain ⟨x0, x1, x2, x3, s0, s1, L1⟩ := boxTL w (.slice B m c) (.int .i64 vd) (.int .i64 2) (.int .i64 a) (.int .i64 b) 31 42
    have T := hR.le L1
    clear hR
    generalize hX : w.heap.size + 1 = X at *
    generalize w.heap.size = X0 at *
    generalize (w.alloc (.cells #[.slice B m c] 31)).alloc _ = W at *
    refine (hasClass_any B m c xs a _ T).mono ?_
    rintro e w2 ⟨rfl, hl⟩
    have y3 := (hl.cell s1).trans x3
    have L2 := L1.trans hl
    clear x0 x1 x2 x3 s0 s1 T L1 hl
    cases r1 : hasK xs a
    · have HF2 : Hid (R = false) := HF.out.trans (by rw [r1]; rfl)
      clear HF
      go_wp2
      go_ret
      exact ⟨ret_bool HF2.out.symm, L2⟩
    · have HF2 : Hid (R = rng 0 99 b) := HF.out.trans (by rw [r1]; rfl)
      clear HF
      go_wp2_with fail
      refine (inRange_any b 0 99 _).mono ?_
      rintro e w3 ⟨rfl, rfl⟩
      go_wp2
      go_ret
      exact ⟨ret_bool HF2.out.symm, L2⟩
  by_cases h8 : k = 8
  · subst h8
    have HF : Hid (R = (hasK xs a && (b == 0))) := H0.out
    clear H0
    go_enter Tryd.func41, Tryd.ntmps41
    go_wp2_with fail
    obtain ⟨x0, x1, x2, x3, s0, s1, L1⟩ := boxTL w (.slice B m c) (.int .i64 vd) (.int .i64 8) (.int .i64 a) (.int .i64 b) 31 42
    have T := hR.le L1
    clear hR
    generalize hX : w.heap.size + 1 = X at *
    generalize w.heap.size = X0 at *
    generalize (w.alloc (.cells #[.slice B m c] 31)).alloc _ = W at *
    refine (hasClass_any B m c xs a _ T).mono ?_
    rintro e w2 ⟨rfl, hl⟩
    have y3 := (hl.cell s1).trans x3
    have L2 := L1.trans hl
    clear x0 x1 x2 x3 s0 s1 T L1 hl
    cases r1 : hasK xs a
    · have HF2 : Hid (R = false) := HF.out.trans (by rw [r1]; rfl)
      clear HF
      go_wp2
      go_ret
      exact ⟨ret_bool HF2.out.symm, L2⟩
    · have HF2 : Hid (R = (b == 0)) := HF.out.trans (by rw [r1]; rfl)
      clear HF
      go_wp2
      go_ret
      exact ⟨ret_bool HF2.out.symm, L2⟩
  by_cases h11 : k = 11
  · subst h11
    have HF : Hid (R = (rng 0 9 a && rng 0 1 b)) := H0.out
    clear H0
    go_enter Tryd.func41, Tryd.ntmps41
    go_wp2_with fail
    obtain ⟨x0, x1, x2, x3, s0, s1, L1⟩ := boxTL w (.slice B m c) (.int .i64 vd) (.int .i64 11) (.int .i64 a) (.int .i64 b) 31 42
    have T := hR.le L1
    clear hR
    generalize hX : w.heap.size + 1 = X at *
    generalize w.heap.size = X0 at *
    generalize (w.alloc (.cells #[.slice B m c] 31)).alloc _ = W at *
    refine (inRange_any a 0 9 _).mono ?_
    rintro e w2 ⟨rfl, rfl⟩
    cases r1 : (decide (0 ≤ a) && decide (a ≤ 9))
    · have HF2 : Hid (R = false) := HF.out.trans (by show ((decide (0 ≤ a) && decide (a ≤ 9)) && _) = _; rw [r1]; rfl)
      clear HF
      go_wp2
      go_ret
      exact ⟨ret_bool HF2.out.symm, L1⟩
    · have HF2 : Hid (R = rng 0 1 b) := HF.out.trans (by show ((decide (0 ≤ a) && decide (a ≤ 9)) && _) = _; rw [r1]; rfl)
      clear HF
      go_wp2_with fail
      refine (inRange_any b 0 1 _).mono ?_
      rintro e w3 ⟨rfl, rfl⟩
      go_wp2
      go_ret
      exact ⟨ret_bool HF2.out.symm, L1⟩
  by_cases h12 : k = 12
  · subst h12
    have HF : Hid (R = (rng 0 3 a && (b == 0))) := H0.out
    clear H0
    go_enter Tryd.func41, Tryd.ntmps41
    go_wp2_with fail
    obtain ⟨x0, x1, x2, x3, s0, s1, L1⟩ := boxTL w (.slice B m c) (.int .i64 vd) (.int .i64 12) (.int .i64 a) (.int .i64 b) 31 42
    have T := hR.le L1
    clear hR
    generalize hX : w.heap.size + 1 = X at *
    generalize w.heap.size = X0 at *
    generalize (w.alloc (.cells #[.slice B m c] 31)).alloc _ = W at *
    refine (inRange_any a 0 3 _).mono ?_
    rintro e w2 ⟨rfl, rfl⟩
    cases r1 : (decide (0 ≤ a) && decide (a ≤ 3))
    · have HF2 : Hid (R = false) := HF.out.trans (by show ((decide (0 ≤ a) && decide (a ≤ 3)) && _) = _; rw [r1]; rfl)
      clear HF
      go_wp2
      go_ret
      exact ⟨ret_bool HF2.out.symm, L1⟩
    · have HF2 : Hid (R = (b == 0)) := HF.out.trans (by show ((decide (0 ≤ a) && decide (a ≤ 3)) && _) = _; rw [r1]; rfl)
      clear HF
      go_wp2
      go_ret
      exact ⟨ret_bool HF2.out.symm, L1⟩
  have b1 := bf h1
  have b4 := bf h4
  have b2 := bf h2
  have b8 := bf h8
  have b11 := bf h11
  have b12 := bf h12
  have HF : Hid (R = (rng 0 10 k && (a == 0) && (b == 0))) := H0.out.trans (by rw [if_neg (by omega), if_neg h2, if_neg h8, if_neg h11, if_neg h12])
  clear H0 h1 h2 h4 h8 h11 h12
  go_enter Tryd.func41, Tryd.ntmps41
  go_wp2_with fail
  obtain ⟨x0, x1, x2, x3, s0, s1, L1⟩ := boxTL w (.slice B m c) (.int .i64 vd) (.int .i64 k) (.int .i64 a) (.int .i64 b) 31 42
  have T := hR.le L1
  clear hR
  generalize hX : w.heap.size + 1 = X at *
  generalize w.heap.size = X0 at *
  generalize (w.alloc (.cells #[.slice B m c] 31)).alloc _ = W at *
  refine (inRange_any k 0 10 _).mono ?_
  rintro e w2 ⟨rfl, rfl⟩
  cases r1 : (decide (0 ≤ k) && decide (k ≤ 10))
  · have HF2 : Hid (R = false) := HF.out.trans (by show (((decide (0 ≤ k) && decide (k ≤ 10)) && _) && _) = _; rw [r1]; rfl)
    clear HF
    go_wp2
    go_ret
    exact ⟨ret_bool HF2.out.symm, L1⟩
  · cases r2 : (a == 0)
    · have HF2 : Hid (R = false) := HF.out.trans (by show (((decide (0 ≤ k) && decide (k ≤ 10)) && _) && _) = _; rw [r1, r2]; rfl)
      clear HF
      go_wp2
      go_ret
      exact ⟨ret_bool HF2.out.symm, L1⟩
    · have HF2 : Hid (R = (b == 0)) := HF.out.trans (by show (((decide (0 ≤ k) && decide (k ≤ 10)) && _) && _) = _; rw [r1, r2]; rfl)
      clear HF
      go_wp2
      go_ret
      exact ⟨ret_bool HF2.out.symm, L1⟩
end

section
theorem opens_any (k : Int) (w : World) : Calls Tryd.prog 43 #[.int .i64 k] w fun e w' => e = .returned (.bool (opn k)) ∧ w = w' := by
  go_enter Tryd.func43, Tryd.ntmps43
  go_wp2_with fail
  refine (rng_any _ _ _ _).mono ?_
  rintro e w' ⟨rfl, rfl⟩
  have HF : Hid (rng 7 12 k = opn k) := rfl
  rw [HF.out]
  go_wp2
  go_ret
  exact ⟨rfl, rfl⟩
theorem follows_any (k : Int) (w : World) : Calls Tryd.prog 46 #[.int .i64 k] w fun e w' => e = .returned (.bool (fol k)) ∧ w = w' := by
  go_enter Tryd.func46, Tryd.ntmps46
  go_wp2_with fail
  refine (rng_any _ _ _ _).mono ?_
  rintro e w' ⟨rfl, rfl⟩
  have HF : Hid (rng 8 10 k = fol k) := rfl
  rw [HF.out]
  go_wp2
  go_ret
  exact ⟨rfl, rfl⟩
set_option maxHeartbeats 1000000 in
theorem sNext_any (A : Option Addr) (n cap : Nat) (p : List Lin) (i : Nat) (hi : i < p.length) (w : World) (hR : Sl w A n cap p) :
    Calls Tryd.prog 76 #[.slice A n cap, .int .i64 i] w fun e w' => e = .returned (.int .i64 (sNext p i)) ∧ Le w w' := by
  obtain rfl := hR.len
  have hm := hR.n_le
  have hbl := bEnd_le hi
  have H1 : Hid (bEnd p i < p.length → dep p (bEnd p i) = dep p i → sNext p i = bEnd p i) := fun h1 h2 => if_pos ⟨h1, h2⟩
  have H2 : Hid (bEnd p i < p.length → dep p (bEnd p i) ≠ dep p i → sNext p i = p.length) := fun _ h2 => if_neg (fun q => h2 q.2)
  have H3 : Hid (¬ bEnd p i < p.length → sNext p i = p.length) := fun h1 => if_neg (fun q => h1 q.1)
  have hin : (i : Int) < (p.length : Int) := by omega
  have hix : (0 : Int) ≤ (i : Int) := by omega
  go_enter Tryd.func76, Tryd.ntmps76
  go_wp2_with fail
  refine (sBlockEnd_any A p.length cap p i hi w hR).mono ?_
  rintro e w2 ⟨rfl, hle⟩
  have T := hR.le hle
  clear hR
  obtain ⟨b, off, rfl, hb, c0, -⟩ := T.lin_at hi
  have E0 := cell_ext hb c0
  by_cases hlt : bEnd p i < p.length
  · obtain ⟨b2, off2, e2, hb2, d0, -⟩ := T.lin_at hlt
    cases e2
    have D0 := cell_ext hb2 d0
    by_cases hd : p[bEnd p i].depth = p[i].depth
    · have HE := Lib.hid (H1.out hlt (by rw [dep_at hlt, dep_at hi]; exact hd))
      have hbd : (p[bEnd p i].depth == p[i].depth) = true := by simpa using hd
      clear H1 H2 H3 hd
      have hkl : (bEnd p i : Int) < (p.length : Int) := by omega
      have hk0 : (0 : Int) ≤ (bEnd p i : Int) := by omega
      go_wp2_with fail
      refine wp_region_ext (by kernel_rfl) (by kernel_rfl) ?_
      repeat (go_big_quiet_step (fail))
      refine wpQuiet_nil ?_
      intro _ hw'
      obtain ⟨gg, rfl⟩ := hw'
      have hw1 := Le.ext w2 gg
      generalize w2.ext gg = W2 at *
      go_wp2
      go_ret
      exact ⟨congrArg (fun z : Nat => Ending.returned (.int .i64 (z : Int))) HE.out.symm, hle.trans hw1⟩
    · have HE := Lib.hid (H2.out hlt (by rw [dep_at hlt, dep_at hi]; exact hd))
      have hbd : (p[bEnd p i].depth == p[i].depth) = false := by simpa using hd
      clear H1 H2 H3 hd
      have hkl : (bEnd p i : Int) < (p.length : Int) := by omega
      have hk0 : (0 : Int) ≤ (bEnd p i : Int) := by omega
      go_wp2_with fail
      refine wp_region_ext (by kernel_rfl) (by kernel_rfl) ?_
      repeat (go_big_quiet_step (fail))
      refine wpQuiet_nil ?_
      intro _ hw'
      obtain ⟨gg, rfl⟩ := hw'
      have hw1 := Le.ext w2 gg
      generalize w2.ext gg = W2 at *
      go_wp2
      go_ret
      exact ⟨congrArg (fun z : Nat => Ending.returned (.int .i64 (z : Int))) HE.out.symm, hle.trans hw1⟩
  · have HE := Lib.hid (H3.out hlt)
    have hkl : ¬ (bEnd p i : Int) < (p.length : Int) := by omega
    clear H1 H2 H3
    go_wp2_with fail
    refine wp_region_ext (by kernel_rfl) (by kernel_rfl) ?_
    repeat (go_big_quiet_step (fail))
    refine wpQuiet_nil ?_
    intro _ hw'
    obtain ⟨gg, rfl⟩ := hw'
    have hw1 := Le.ext w2 gg
    generalize w2.ext gg = W2 at *
    go_wp2
    go_ret
    exact ⟨congrArg (fun z : Nat => Ending.returned (.int .i64 (z : Int))) HE.out.symm, hle.trans hw1⟩
end

section
def nI (L : List Nat) : List Int := L.map fun k : Nat => (k : Int)
theorem nI_flat (L : List Nat) : ((nI L).flatMap Enc.cells).length = L.length := by
  induction L with
  | nil => rfl
  | cons k L ih =>
    show ([Value.int .i64 (k : Int)] ++ (nI L).flatMap Enc.cells).length = _
    rw [List.length_append, ih]; simp; omega
theorem nI_len (L : List Nat) : (nI L).length = L.length := by unfold nI; simp
theorem sNext_le {p : List Lin} {i : Nat} : sNext p i ≤ p.length := by
  unfold sNext; split <;> omega
theorem chGo_on {p : List Lin} {m k : Nat} (hm : p.length ≤ m + k) (hk : k < p.length) (hf : fol (knd p k) = true) : chGo p m k = k :: chGo p (m - 1) (sNext p k) := by
  obtain ⟨n, rfl⟩ : ∃ n, m = n + 1 := ⟨m - 1, by omega⟩
  show (if _ then _ else _) = _
  rw [if_pos ⟨hk, hf⟩, Nat.add_sub_cancel]
theorem chGo_off {p : List Lin} {m k : Nat} (h : ¬ (k < p.length ∧ fol (knd p k) = true)) : chGo p m k = [] := by
  cases m with
  | zero => rfl
  | succ m => exact if_neg h
set_option maxHeartbeats 2000000 in
set_option maxRecDepth 100000 in
theorem chainOf_any (A : Option Addr) (n cap : Nat) (p : List Lin) (i : Nat) (hi : i < p.length) (hsm : p.length ≤ 1048576) (w : World) (hR : Sl w A n cap p) :
    Calls Tryd.prog 68 #[.slice A n cap, .int .i64 i] w fun e w' => ∃ v, e = .returned v ∧ Owd 3 w w' v (nI (chain p i)) ∧ Le w w' := by
  obtain rfl := hR.len
  obtain ⟨i0, hq, hz0, hz1, hz2⟩ := info_parts intInfoB
  go_enter Tryd.func68, Tryd.ntmps68
  go_wp2_with fail
  have O0 : (w.alloc (.cells #[.int .i64 (i : Int)] 3)).ownsRow w.heap.size 3 1 (.slice (some ⟨w.heap.size, 0, none⟩) 1 1) 1 [.int .i64 (i : Int)] := World.ownsRow_lit (base := w.heap.size) (e := 3) (size := 1) w #[.int .i64 (i : Int)] 1 (Nat.le_refl _) (by unfold maxLen; omega) (by simp)
  have L0 := Le.new w (.cells #[.int .i64 (i : Int)] 3)
  generalize w.alloc (.cells #[.int .i64 (i : Int)] 3) = W at *
  refine (sNext_any A p.length cap p i hi W (hR.le L0)).mono ?_
  rintro e w2 ⟨rfl, hl2⟩
  have O1 := own_le O0 hl2
  have L1 := L0.trans hl2
  clear O0 L0 hl2
  go_wp2_with fail
  go_loopw [5, 6] (fun v kk wr => ∃ (k : Nat) (out : List Nat) (m : Nat) (A' : Option Addr) (c' : Nat), kk = .int .i64 k ∧ i < k ∧ k ≤ p.length ∧ v = .slice A' out.length c' ∧ chain p i = out ++ chGo p m k ∧ p.length ≤ m + k ∧ (∀ x ∈ out, x < p.length) ∧ out.length ≤ k ∧
      wr.ownsRow w.heap.size 3 1 (.slice A' out.length c') out.length ((nI out).flatMap Enc.cells) ∧ Le w wr) (fun _ kk _ => p.length - (intOf kk).toNat)
  case atStart => exact ⟨sNext p i, [i], p.length, _, _, rfl, sNext_gt hi, sNext_le, rfl, rfl, by omega, fun x hx => by (have := List.mem_singleton.1 hx; omega), by (have := sNext_gt hi; simp; omega), O1, L1⟩
  case round =>
    obtain ⟨k, out, m, A', c', rfl, hik, hkp, rfl, he, hm, hin, hol, OW, L⟩ := hrel
    have HE := Lib.hid he
    have HI := Lib.hid hin
    have T := hR.le L
    have hk0 : (0 : Int) ≤ (k : Int) := by omega
    have hoko : Hid (∀ y ∈ nI out, Enc.ok y) := fun y hy => by
      obtain ⟨x, hx, rfl⟩ := List.mem_map.1 hy
      have := hin x hx
      exact ⟨by omega, by omega⟩
    clear he hin O1 L1
    by_cases hlt : k < p.length
    · obtain ⟨b, off, rfl, hb, d0, d1, -⟩ := T.lin_at hlt
      have hkn : (k : Int) < (p.length : Int) := by omega
      have hK : Hid (knd p k = p[k].kind) := knd_at hlt
      generalize p[k].kind = kd at *
      go_wp2_with fail
      refine (follows_any kd wr).mono ?_
      rintro e w3 ⟨rfl, rfl⟩
      cases hf : fol kd
      · have HF : Hid (Owd 3 w wr (.slice A' out.length c') (nI (chain p i))) := by
          show Owd _ _ _ _ _
          rw [HE.out, chGo_off (by rw [hK.out, hf]; simp), List.append_nil]
          exact ⟨by rw [nI_len]; exact OW, hoko.out⟩
        clear HE OW
        go_wp2
        go_ret
        exact ⟨_, rfl, HF.out, L⟩
      · have HN : Hid (chain p i = (out ++ [k]) ++ chGo p (m - 1) (sNext p k)) := by
          show _ = _
          rw [HE.out, chGo_on hm hlt (by rw [hK.out, hf]), List.append_assoc]; rfl
        have hg := sNext_gt hlt
        have hle : sNext p k ≤ p.length := sNext_le
        clear HE
        go_wp2_with (at_builtin; refine wpList_append_own _ rfl _ _ 89 rfl w.heap.size 3 i0 (.int .i64 0) 1 8 Tryd.underlying89 hq hz0 hz1 hz2 rfl (by decide) _ _ _ rfl (OW.alloc _) ⟨wr.heap.size, 0, none⟩ 1 1 [.int .i64 k] rfl rfl (one_newB _ _ _) (by intro u hu; simp at hu; subst hu; rfl) (by unfold maxLen; omega) (by omega) (by have := L.size; simp; omega) ?_; intro v1 w1 hown1 hg1 _; have hle1 := (L.alloc (.cells #[.int .i64 (k : Int)] 3)).grown hg1 (fun j hj => (OW.lt j hj).1))
        have T1 := hR.le hle1
        obtain ⟨A5, q5, rfl⟩ := own_form hown1
        refine (sNext_any _ p.length cap p k hlt _ T1).mono ?_
        rintro e w5 ⟨rfl, hle5⟩
        have O6 := own_le hown1 hle5
        have L6 := hle1.trans hle5
        clear hg1 hown1 hle1 T T1
        go_wp2
        go_roundw
        case rel =>
          refine ⟨sNext p k, out ++ [k], m - 1, A5, q5, rfl, by omega, hle, by simp, HN.out, by omega, ?_, by simp; omega, ?_, L6⟩
          · intro x hx
            rcases List.mem_append.1 hx with h | h
            · exact HI.out x h
            · rw [List.mem_singleton.1 h]; exact hlt
          · simpa [nI, Enc.cells] using O6
        case measure => simp [intOf]; omega
    · have HF : Hid (Owd 3 w wr (.slice A' out.length c') (nI (chain p i))) := by
        show Owd _ _ _ _ _
        rw [HE.out, chGo_off (by omega), List.append_nil]
        exact ⟨by rw [nI_len]; exact OW, hoko.out⟩
      have hkn : ¬ (k : Int) < (p.length : Int) := by omega
      clear HE OW
      go_wp2
      go_ret
      exact ⟨_, rfl, HF.out, L⟩
end

section
theorem chGo_lt (p : List Lin) : ∀ m k, ∀ x ∈ chGo p m k, x < p.length
  | 0, _, x, h => by simp [chGo] at h
  | m + 1, k, x, h => by
    unfold chGo at h
    split at h
    · rename_i hc
      rcases List.mem_cons.1 h with rfl | h
      · exact hc.1
      · exact chGo_lt p m _ x h
    · cases h
theorem chain_lt {p : List Lin} {i : Nat} (hi : i < p.length) : ∀ x ∈ chain p i, x < p.length := by
  intro x h
  rcases List.mem_cons.1 h with rfl | h
  · exact hi
  · exact chGo_lt p _ _ x h
def vDone (n : Nat) : Option Nat → Bool
  | none => false
  | some ex => decide (1 < n) && decide (ex ≤ 6)
theorem nI_at {L : List Nat} {k : Nat} (h : k < L.length) : (nI L)[k]'(by rw [nI_len]; exact h) = ((L[k] : Nat) : Int) := by unfold nI; simp
set_option maxHeartbeats 2000000 in
set_option maxRecDepth 100000 in
theorem validChain_any (A : Option Addr) (n cap : Nat) (p : List Lin) (i : Nat) (hi : i < p.length) (hsm : p.length ≤ 1048576) (w : World) (hR : Sl w A n cap p) :
    Calls Tryd.prog 44 #[.slice A n cap, .int .i64 i] w fun e w' => e = .returned (.bool (vChain p i)) ∧ Le w w' := by
  obtain rfl := hR.len
  go_enter Tryd.func44, Tryd.ntmps44
  go_wp2_with fail
  refine (chainOf_any A p.length cap p i hi hsm w hR).mono ?_
  rintro e w2 ⟨v, rfl, hO, hle⟩
  obtain ⟨A2, c2, rfl, S2, -⟩ := hO.form (by decide)
  have T2 := hR.le hle
  clear hO
  have HV0 : vChain p i = vDone (chain p i).length (vcGo p true 0 0 ((chain p i).drop 1)) := by
    unfold vChain vDone; rfl
  have hCl : 1 ≤ (chain p i).length := by unfold chain; simp
  have hCn := S2.n_le
  rw [nI_len] at hCn
  have HLT := Lib.hid (chain_lt hi)
  generalize chain p i = C at *
  generalize hRV : vChain p i = R at *
  have HV := Lib.hid HV0
  clear HV0 hR
  go_wp2
  go_loopw [6, 7] (fun ee kk wr => ∃ (k ex : Nat) (prev : Int), ee = .int .i64 ex ∧ kk = .int .i64 k ∧ 1 ≤ k ∧ k ≤ C.length ∧ ex ≤ k ∧ (∀ h : 1 < k, ∀ h2 : k - 1 < C.length, prev = knd p C[k - 1]) ∧ R = vDone C.length (vcGo p (decide (k = 1)) prev ex (C.drop k)) ∧ Le w2 wr) (fun _ kk _ => C.length - (intOf kk).toNat)
  case atStart => exact ⟨1, 0, 0, rfl, rfl, by omega, hCl, by omega, fun h => by omega, HV.out, Le.refl _⟩
  case round =>
    obtain ⟨k, ex, prev, rfl, rfl, hk1, hkC, hex, hp, he, hl⟩ := hrel
    have HE := Lib.hid he
    clear he HV
    have S := S2.le hl
    have T := T2.le hl
    have L := hle.trans hl
    have hk0 : (0 : Int) ≤ (k : Int) := by omega
    by_cases hk : k < C.length
    · have hki : k < (nI C).length := by rw [nI_len]; exact hk
      have hkl : (k : Int) < ((nI C).length : Int) := by omega
      obtain ⟨b, off, rfl, hb, s0, -⟩ := S.int_at hki
      rw [nI_at hk] at s0
      have hx := HLT.out _ (List.getElem_mem hk)
      have hD : C.drop k = C[k] :: C.drop (k + 1) := List.drop_eq_getElem_cons hk
      rw [hD] at HE
      obtain ⟨b2, off2, rfl, hb2, -, t1, -⟩ := T.lin_at hx
      have hkn := knd_at hx
      have hx0 : (0 : Int) ≤ ((C[k] : Nat) : Int) := by omega
      have hxn : ((C[k] : Nat) : Int) < (p.length : Int) := by omega
      have hwe : IntKind.i64.wrap ((ex : Int) + 1) = (ex : Int) + 1 := IntWalk.i64_in _ (by omega)
      have hex1 : (((ex : Int) + 1) == 0) = false := bf (by omega)
      by_cases h1 : k = 1
      · have hf1 : Hid (decide (k = 1) = true) := decide_eq_true h1
        have hd1 : decide ((1 : Int) < (k : Int)) = false := decide_eq_false (by omega)
        generalize p[C[k]].kind = kn at *
        generalize hxx : C[k] = x at *
        clear hp h1
        by_cases h8 : kn = 8
        · subst h8
          have hv : ¬ badV (decide (k = 1)) prev ex (knd p x) := (by unfold badV; rw [hkn, hf1.out, exN_8 rfl]; simp; try omega)
          have HN : Hid (R = vDone C.length (vcGo p false 8 (ex + 1) (C.drop (k + 1)))) := by show _ = _; rw [HE.out, vc_ok hv, hkn, exN_8 rfl]
          clear HE
          go_wp2
          go_roundw
          case rel => exact ⟨k + 1, (ex + 1), 8, by go_num, by go_num, by omega, by omega, by omega, fun _ _ => (by simp only [Nat.add_sub_cancel]; rw [hxx]; exact hkn.symm), (by rw [show decide (k + 1 = 1) = false from decide_eq_false (by omega)]; exact HN.out), hl⟩
          case measure => simp [intOf]; omega
        · by_cases h9 : kn = 9
          · subst h9
            by_cases hz : ex = 0
            · have hzb : ((ex : Int) == 0) = true := by (rw [beq_iff_eq]; omega)
              have hv : badV (decide (k = 1)) prev ex (knd p x) := (by unfold badV; rw [hkn, hf1.out, exN_no (by omega : (9 : Int) ≠ 8)]; simp; try omega)
              clear hz
              have HF : Hid (R = false) := by show _ = _; rw [HE.out, vc_bad hv]; rfl
              clear HE
              go_wp2
              go_ret
              first | exact ⟨ret_bool HF.out.symm, L⟩ | exact ⟨ret_bool (HF.out.symm.trans hRV.symm), L⟩
            · have hzb : ((ex : Int) == 0) = false := bf (by omega)
              have hv : ¬ badV (decide (k = 1)) prev ex (knd p x) := (by unfold badV; rw [hkn, hf1.out, exN_no (by omega : (9 : Int) ≠ 8)]; simp; try omega)
              have HN : Hid (R = vDone C.length (vcGo p false 9 ex (C.drop (k + 1)))) := by show _ = _; rw [HE.out, vc_ok hv, hkn, exN_no (by omega : (9 : Int) ≠ 8)]
              clear HE
              go_wp2
              go_roundw
              case rel => exact ⟨k + 1, ex, 9, by go_num, by go_num, by omega, by omega, by omega, fun _ _ => (by simp only [Nat.add_sub_cancel]; rw [hxx]; exact hkn.symm), (by rw [show decide (k + 1 = 1) = false from decide_eq_false (by omega)]; exact HN.out), hl⟩
              case measure => simp [intOf]; omega
          · have h8b := bf h8
            have h9b := bf h9
            have hv : ¬ badV (decide (k = 1)) prev ex (knd p x) := (by unfold badV; rw [hkn, hf1.out, exN_no h8]; simp; try omega)
            have HN : Hid (R = vDone C.length (vcGo p false kn ex (C.drop (k + 1)))) := by show _ = _; rw [HE.out, vc_ok hv, hkn, exN_no h8]
            clear HE
            go_wp2
            go_roundw
            case rel => exact ⟨k + 1, ex, kn, by go_num, by go_num, by omega, by omega, by omega, fun _ _ => (by simp only [Nat.add_sub_cancel]; rw [hxx]; exact hkn.symm), (by rw [show decide (k + 1 = 1) = false from decide_eq_false (by omega)]; exact HN.out), hl⟩
            case measure => simp [intOf]; omega
      · have hf1 : Hid (decide (k = 1) = false) := decide_eq_false h1
        have hd1 : decide ((1 : Int) < (k : Int)) = true := decide_eq_true (by omega)
        have hk2 : k - 1 < C.length := by omega
        have hki2 : k - 1 < (nI C).length := by rw [nI_len]; exact hk2
        have hwk : IntKind.i64.wrap ((k : Int) - 1) = ((k - 1 : Nat) : Int) := by rw [IntWalk.i64_in _ (by omega)]; omega
        have hkm0 : (0 : Int) ≤ ((k - 1 : Nat) : Int) := by omega
        have hkml : ((k - 1 : Nat) : Int) < ((nI C).length : Int) := by omega
        obtain ⟨b3, off3, e3, hb3, s1, -⟩ := S.int_at hki2
        cases e3
        rw [nI_at hk2] at s1
        have hy := HLT.out _ (List.getElem_mem hk2)
        obtain ⟨b4, off4, e4, hb4, -, u1, -⟩ := T.lin_at hy
        cases e4
        have hpv := hp (by omega) hk2
        rw [knd_at hy] at hpv
        have hy0 : (0 : Int) ≤ ((C[k - 1] : Nat) : Int) := by omega
        have hyn : ((C[k - 1] : Nat) : Int) < (p.length : Int) := by omega
        clear hp
        generalize p[C[k]].kind = kn at *
        generalize hxx : C[k] = x at *
        generalize p[C[k - 1]].kind = kp at *
        generalize C[k - 1] = y at *
        subst hpv
        by_cases h8 : kn = 8
        · subst h8
          by_cases hlt : (8 : Int) < prev
          · have hld : decide ((8 : Int) < prev) = true := decide_eq_true hlt
            have hv : badV (decide (k = 1)) prev ex (knd p x) := (by unfold badV; rw [hkn, hf1.out, exN_8 rfl]; simp; try omega)
            have HF : Hid (R = false) := by show _ = _; rw [HE.out, vc_bad hv]; rfl
            clear HE
            go_wp2
            go_ret
            first | exact ⟨ret_bool HF.out.symm, L⟩ | exact ⟨ret_bool (HF.out.symm.trans hRV.symm), L⟩
          · have hld : decide ((8 : Int) < prev) = false := decide_eq_false hlt
            by_cases heq : (8 : Int) = prev
            · have hqb : ((8 : Int) == prev) = true := by rw [beq_iff_eq]; exact heq
              have hv : ¬ badV (decide (k = 1)) prev ex (knd p x) := (by unfold badV; rw [hkn, hf1.out, exN_8 rfl]; simp; try omega)
              have HN : Hid (R = vDone C.length (vcGo p false 8 (ex + 1) (C.drop (k + 1)))) := by show _ = _; rw [HE.out, vc_ok hv, hkn, exN_8 rfl]
              clear HE
              go_wp2
              go_roundw
              case rel => exact ⟨k + 1, (ex + 1), 8, by go_num, by go_num, by omega, by omega, by omega, fun _ _ => (by simp only [Nat.add_sub_cancel]; rw [hxx]; exact hkn.symm), (by rw [show decide (k + 1 = 1) = false from decide_eq_false (by omega)]; exact HN.out), hl⟩
              case measure => simp [intOf]; omega
            · have hqb : ((8 : Int) == prev) = false := bf heq
              have hv : ¬ badV (decide (k = 1)) prev ex (knd p x) := (by unfold badV; rw [hkn, hf1.out, exN_8 rfl]; simp; try omega)
              have HN : Hid (R = vDone C.length (vcGo p false 8 (ex + 1) (C.drop (k + 1)))) := by show _ = _; rw [HE.out, vc_ok hv, hkn, exN_8 rfl]
              clear HE
              go_wp2
              go_roundw
              case rel => exact ⟨k + 1, (ex + 1), 8, by go_num, by go_num, by omega, by omega, by omega, fun _ _ => (by simp only [Nat.add_sub_cancel]; rw [hxx]; exact hkn.symm), (by rw [show decide (k + 1 = 1) = false from decide_eq_false (by omega)]; exact HN.out), hl⟩
              case measure => simp [intOf]; omega
        · by_cases h9 : kn = 9
          · subst h9
            by_cases hlt : (9 : Int) < prev
            · have hld : decide ((9 : Int) < prev) = true := decide_eq_true hlt
              have hv : badV (decide (k = 1)) prev ex (knd p x) := (by unfold badV; rw [hkn, hf1.out, exN_no (by omega : (9 : Int) ≠ 8)]; simp; try omega)
              have HF : Hid (R = false) := by show _ = _; rw [HE.out, vc_bad hv]; rfl
              clear HE
              go_wp2
              go_ret
              first | exact ⟨ret_bool HF.out.symm, L⟩ | exact ⟨ret_bool (HF.out.symm.trans hRV.symm), L⟩
            · have hld : decide ((9 : Int) < prev) = false := decide_eq_false hlt
              by_cases heq : (9 : Int) = prev
              · have hqb : ((9 : Int) == prev) = true := by rw [beq_iff_eq]; exact heq
                have hv : badV (decide (k = 1)) prev ex (knd p x) := (by unfold badV; rw [hkn, hf1.out, exN_no (by omega : (9 : Int) ≠ 8)]; simp; try omega)
                have HF : Hid (R = false) := by show _ = _; rw [HE.out, vc_bad hv]; rfl
                clear HE
                go_wp2
                go_ret
                first | exact ⟨ret_bool HF.out.symm, L⟩ | exact ⟨ret_bool (HF.out.symm.trans hRV.symm), L⟩
              · have hqb : ((9 : Int) == prev) = false := bf heq
                by_cases hz : ex = 0
                · have hzb : ((ex : Int) == 0) = true := by (rw [beq_iff_eq]; omega)
                  have hv : badV (decide (k = 1)) prev ex (knd p x) := (by unfold badV; rw [hkn, hf1.out, exN_no (by omega : (9 : Int) ≠ 8)]; simp; try omega)
                  clear hz
                  have HF : Hid (R = false) := by show _ = _; rw [HE.out, vc_bad hv]; rfl
                  clear HE
                  go_wp2
                  go_ret
                  first | exact ⟨ret_bool HF.out.symm, L⟩ | exact ⟨ret_bool (HF.out.symm.trans hRV.symm), L⟩
                · have hzb : ((ex : Int) == 0) = false := bf (by omega)
                  have hv : ¬ badV (decide (k = 1)) prev ex (knd p x) := (by unfold badV; rw [hkn, hf1.out, exN_no (by omega : (9 : Int) ≠ 8)]; simp; try omega)
                  have HN : Hid (R = vDone C.length (vcGo p false 9 ex (C.drop (k + 1)))) := by show _ = _; rw [HE.out, vc_ok hv, hkn, exN_no (by omega : (9 : Int) ≠ 8)]
                  clear HE
                  go_wp2
                  go_roundw
                  case rel => exact ⟨k + 1, ex, 9, by go_num, by go_num, by omega, by omega, by omega, fun _ _ => (by simp only [Nat.add_sub_cancel]; rw [hxx]; exact hkn.symm), (by rw [show decide (k + 1 = 1) = false from decide_eq_false (by omega)]; exact HN.out), hl⟩
                  case measure => simp [intOf]; omega
          · have h8b := bf h8
            have h9b := bf h9
            by_cases hlt : kn < prev
            · have hld : decide (kn < prev) = true := decide_eq_true hlt
              have hv : badV (decide (k = 1)) prev ex (knd p x) := (by unfold badV; rw [hkn, hf1.out, exN_no h8]; simp; try omega)
              have HF : Hid (R = false) := by show _ = _; rw [HE.out, vc_bad hv]; rfl
              clear HE
              go_wp2
              go_ret
              first | exact ⟨ret_bool HF.out.symm, L⟩ | exact ⟨ret_bool (HF.out.symm.trans hRV.symm), L⟩
            · have hld : decide (kn < prev) = false := decide_eq_false hlt
              by_cases heq : kn = prev
              · have hqb : (kn == prev) = true := by rw [beq_iff_eq]; exact heq
                have h8c : (kn != 8) = true := by simpa using h8
                have hv : badV (decide (k = 1)) prev ex (knd p x) := (by unfold badV; rw [hkn, hf1.out, exN_no h8]; simp; try omega)
                have HF : Hid (R = false) := by show _ = _; rw [HE.out, vc_bad hv]; rfl
                clear HE
                go_wp2
                go_ret
                first | exact ⟨ret_bool HF.out.symm, L⟩ | exact ⟨ret_bool (HF.out.symm.trans hRV.symm), L⟩
              · have hqb : (kn == prev) = false := bf heq
                have hv : ¬ badV (decide (k = 1)) prev ex (knd p x) := (by unfold badV; rw [hkn, hf1.out, exN_no h8]; simp; try omega)
                have HN : Hid (R = vDone C.length (vcGo p false kn ex (C.drop (k + 1)))) := by show _ = _; rw [HE.out, vc_ok hv, hkn, exN_no h8]
                clear HE
                go_wp2
                go_roundw
                case rel => exact ⟨k + 1, ex, kn, by go_num, by go_num, by omega, by omega, by omega, fun _ _ => (by simp only [Nat.add_sub_cancel]; rw [hxx]; exact hkn.symm), (by rw [show decide (k + 1 = 1) = false from decide_eq_false (by omega)]; exact HN.out), hl⟩
                case measure => simp [intOf]; omega
    · have hkl : ¬ (k : Int) < ((nI C).length : Int) := by rw [nI_len]; omega
      obtain rfl : k = C.length := by omega
      have HF : Hid (R = (decide (1 < C.length) && decide (ex ≤ 6))) := by
        show _ = _
        rw [HE.out, List.drop_length]; rfl
      clear HE
      by_cases hl1 : 1 < C.length
      · have hl1d : decide ((1 : Int) < ((nI C).length : Int)) = true := decide_eq_true (by rw [nI_len]; omega)
        have HF2 : Hid (R = decide ((ex : Int) ≤ 6)) := by
          show _ = _
          rw [HF.out, decide_eq_true hl1, Bool.true_and]; exact decide_eq_decide.2 (by omega)
        clear HF
        go_wp2
        go_ret
        exact ⟨ret_bool HF2.out.symm, L⟩
      · have hl1d : decide ((1 : Int) < ((nI C).length : Int)) = false := decide_eq_false (by rw [nI_len]; omega)
        have HF2 : Hid (R = false) := by
          show _ = _
          rw [HF.out, decide_eq_false hl1, Bool.false_and]
        clear HF
        go_wp2
        go_ret
        exact ⟨ret_bool HF2.out.symm, L⟩
end

section
theorem inGo_succ (p : List Lin) (d : Int) (k : Nat) : inGo p d (k + 1) = if dep p k < d then (if knd p k = 12 then true else inGo p (dep p k) k) else inGo p d k := rfl
theorem hGo_succ (p : List Lin) (d : Int) (k : Nat) : hGo p d (k + 1) = if dep p k < d then -1 else if dep p k = d then (k : Int) else hGo p d k := rfl
set_option maxHeartbeats 1000000 in
theorem sInLoop_any (A : Option Addr) (n cap : Nat) (p : List Lin) (i : Nat) (hi : i < p.length) (hsm : p.length ≤ 4294967296) (w : World) (hR : Sl w A n cap p) :
    Calls Tryd.prog 45 #[.slice A n cap, .int .i64 i] w fun e w' => e = .returned (.bool (inL p i)) ∧ Le w w' := by
  obtain rfl := hR.len
  have H0 : Hid (inL p i = inGo p p[i].depth i) := by show _ = _; unfold inL; rw [dep_at hi]
  have hwi : IntKind.i64.wrap ((i : Int) - 1) = (i : Int) - 1 := IntWalk.i64_in _ (by omega)
  have hix : (0 : Int) ≤ (i : Int) := by omega
  have hin : (i : Int) < (p.length : Int) := by omega
  obtain ⟨b0, o0, e0, hb0, c0, -⟩ := hR.lin_at hi
  go_enter Tryd.func45, Tryd.ntmps45
  subst e0
  go_wp2
  go_loopw [5, 6] (fun dd kk wr => ∃ (k : Nat) (d : Int), k ≤ i ∧ dd = .int .i64 d ∧ kk = .int .i64 ((k : Int) - 1) ∧ inL p i = inGo p d k ∧ Le w wr) (fun _ kk _ => (intOf kk + 1).toNat)
  case atStart => exact ⟨i, p[i].depth, Nat.le_refl _, rfl, rfl, H0.out, Le.refl _⟩
  case round =>
    obtain ⟨k, d, hk, rfl, rfl, he, hle⟩ := hrel
    have HE := Lib.hid he
    clear he H0 c0
    have T := hR.le hle
    clear hR
    cases k with
    | zero =>
      have HF : Hid (inL p i = false) := by show _ = _; rw [HE.out]; rfl
      have hneg : ¬ (0 : Int) ≤ ((0 : Nat) : Int) - 1 := by omega
      go_wp2
      go_ret
      exact ⟨ret_bool HF.out.symm, hle⟩
    | succ k =>
      have hkl : k < p.length := by omega
      obtain ⟨b2, off2, e2, hb2, d0, d1, -⟩ := T.lin_at hkl
      cases e2
      have hkk : (((k + 1 : Nat) : Int) - 1) = (k : Int) := by omega
      have hk0 : (0 : Int) ≤ (k : Int) := by omega
      have hkn : (k : Int) < (p.length : Int) := by omega
      have hwk : IntKind.i64.wrap ((k : Int) - 1) = (k : Int) - 1 := IntWalk.i64_in _ (by omega)
      rw [hkk]
      by_cases hd : p[k].depth < d
      · by_cases hl : p[k].kind = 12
        · have HF : Hid (inL p i = true) := by show _ = _; rw [HE.out, inGo_succ, dep_at hkl, knd_at hkl, if_pos hd, if_pos hl]
          have hlb : (p[k].kind == 12) = true := by simpa using hl
          clear HE
          go_wp2
          go_ret
          exact ⟨ret_bool HF.out.symm, hle⟩
        · have HF : Hid (inL p i = inGo p p[k].depth k) := by show _ = _; rw [HE.out, inGo_succ, dep_at hkl, knd_at hkl, if_pos hd, if_neg hl]
          have hlb : (p[k].kind == 12) = false := by simpa using hl
          clear HE hl
          go_wp2
          go_roundw
          case rel => exact ⟨k, p[k].depth, by omega, rfl, by go_num, HF.out, hle⟩
          case measure => simp [intOf]
      · have HF : Hid (inL p i = inGo p d k) := by show _ = _; rw [HE.out, inGo_succ, dep_at hkl, if_neg hd]
        clear HE
        go_wp2
        go_roundw
        case rel => exact ⟨k, d, by omega, rfl, by go_num, HF.out, hle⟩
        case measure => simp [intOf]
set_option maxHeartbeats 1000000 in
theorem headOf_any (A : Option Addr) (n cap : Nat) (p : List Lin) (i : Nat) (hi : i < p.length) (hsm : p.length ≤ 4294967296) (w : World) (hR : Sl w A n cap p) :
    Calls Tryd.prog 47 #[.slice A n cap, .int .i64 i] w fun e w' => e = .returned (.int .i64 (headOf p i)) ∧ Le w w' := by
  obtain rfl := hR.len
  have H0 : Hid (headOf p i = hGo p (dep p i) i) := rfl
  have hwi : IntKind.i64.wrap ((i : Int) - 1) = (i : Int) - 1 := IntWalk.i64_in _ (by omega)
  have hix : (0 : Int) ≤ (i : Int) := by omega
  have hin : (i : Int) < (p.length : Int) := by omega
  go_enter Tryd.func47, Tryd.ntmps47
  go_wp2
  go_loopw [5] (fun jj wr => ∃ k : Nat, k ≤ i ∧ jj = .int .i64 ((k : Int) - 1) ∧ headOf p i = hGo p (dep p i) k ∧ Le w wr) (fun jj _ => (intOf jj + 1).toNat)
  case atStart => exact ⟨i, Nat.le_refl _, rfl, H0.out, Le.refl _⟩
  case round =>
    obtain ⟨k, hk, rfl, he, hle⟩ := hrel
    have HE := Lib.hid he
    clear he H0
    have T := hR.le hle
    clear hR
    cases k with
    | zero =>
      have HF : Hid (headOf p i = -1) := by show _ = _; rw [HE.out]; rfl
      have hneg : ¬ (0 : Int) ≤ ((0 : Nat) : Int) - 1 := by omega
      go_wp2
      go_ret
      exact ⟨ret_int HF.out.symm, hle⟩
    | succ k =>
      have hkl : k < p.length := by omega
      obtain ⟨b, off, rfl, hb, c0, -⟩ := T.lin_at hi
      obtain ⟨b2, off2, e2, hb2, d0, -⟩ := T.lin_at hkl
      cases e2
      have E0 := cell_ext hb c0
      have D0 := cell_ext hb2 d0
      have hkk : (((k + 1 : Nat) : Int) - 1) = (k : Int) := by omega
      have hk0 : (0 : Int) ≤ (k : Int) := by omega
      have hkn : (k : Int) < (p.length : Int) := by omega
      have hwk : IntKind.i64.wrap ((k : Int) - 1) = (k : Int) - 1 := IntWalk.i64_in _ (by omega)
      rw [hkk]
      by_cases hd : p[k].depth < p[i].depth
      · have HF : Hid (headOf p i = -1) := by show _ = _; rw [HE.out, hGo_succ, dep_at hi, dep_at hkl, if_pos hd]
        clear HE
        go_wp2_with fail
        refine wp_region_ext (by kernel_rfl) (by kernel_rfl) ?_
        repeat (go_big_quiet_step (fail))
        refine wpQuiet_nil ?_
        intro _ hw'
        obtain ⟨gg, rfl⟩ := hw'
        have hw1 := Le.ext wr gg
        generalize wr.ext gg = W2 at *
        go_wp2
        go_ret
        exact ⟨ret_int HF.out.symm, hle.trans hw1⟩
      · by_cases he2 : p[k].depth = p[i].depth
        · have HF : Hid (headOf p i = (k : Int)) := by show _ = _; rw [HE.out, hGo_succ, dep_at hi, dep_at hkl, if_neg hd, if_pos he2]
          have hbe : (p[k].depth == p[i].depth) = true := by simpa using he2
          clear HE he2
          go_wp2_with fail
          refine wp_region_ext (by kernel_rfl) (by kernel_rfl) ?_
          repeat (go_big_quiet_step (fail))
          refine wpQuiet_nil ?_
          intro _ hw'
          obtain ⟨gg, rfl⟩ := hw'
          have hw1 := Le.ext wr gg
          have T2 := T.le hw1
          generalize wr.ext gg = W2 at *
          obtain ⟨b3, off3, e3, hb3, c3, -⟩ := T2.lin_at hi
          cases e3
          obtain ⟨b4, off4, e4, hb4, d4, -⟩ := T2.lin_at hkl
          cases e4
          have E3 := cell_ext hb3 c3
          have D4 := cell_ext hb4 d4
          go_wp2_with fail
          refine wp_region_ext (by kernel_rfl) (by kernel_rfl) ?_
          repeat (go_big_quiet_step (fail))
          refine wpQuiet_nil ?_
          intro _ hw'
          obtain ⟨gg, rfl⟩ := hw'
          have hw2 := Le.ext W2 gg
          generalize W2.ext gg = W3 at *
          go_wp2
          go_ret
          exact ⟨ret_int HF.out.symm, (hle.trans hw1).trans hw2⟩
        · have HF : Hid (headOf p i = hGo p (dep p i) k) := by show _ = _; rw [HE.out, hGo_succ, dep_at hkl, if_neg (by rw [dep_at hi]; exact hd), if_neg (by rw [dep_at hi]; exact he2)]
          have hbe : (p[k].depth == p[i].depth) = false := by simpa using he2
          clear HE he2
          go_wp2_with fail
          refine wp_region_ext (by kernel_rfl) (by kernel_rfl) ?_
          repeat (go_big_quiet_step (fail))
          refine wpQuiet_nil ?_
          intro _ hw'
          obtain ⟨gg, rfl⟩ := hw'
          have hw1 := Le.ext wr gg
          have T2 := T.le hw1
          generalize wr.ext gg = W2 at *
          obtain ⟨b3, off3, e3, hb3, c3, -⟩ := T2.lin_at hi
          cases e3
          obtain ⟨b4, off4, e4, hb4, d4, -⟩ := T2.lin_at hkl
          cases e4
          have E3 := cell_ext hb3 c3
          have D4 := cell_ext hb4 d4
          go_wp2_with fail
          refine wp_region_ext (by kernel_rfl) (by kernel_rfl) ?_
          repeat (go_big_quiet_step (fail))
          refine wpQuiet_nil ?_
          intro _ hw'
          obtain ⟨gg, rfl⟩ := hw'
          have hw2 := Le.ext W2 gg
          generalize W2.ext gg = W3 at *
          go_wp2
          go_roundw
          case rel => exact ⟨k, by omega, by go_num, HF.out, (hle.trans hw1).trans hw2⟩
          case measure => simp [intOf]
end

section
def jmp (k : Int) : Bool := k == 5 || k == 6
def lineB (n : Nat) (p : List Lin) (i : Nat) (x : Lin) : Bool := rng 0 (mostA n x.kind) x.a && rng 0 (mostB x.kind) x.b && depB p i && (!jmp x.kind || inL p i)
theorem box4b (w : World) (a b c d : Value) (T : TypeId) : (w.alloc (.cells #[a, b, c, d] T)).cell? ⟨w.heap.size, 2, none⟩ = some c ∧ (w.alloc (.cells #[a, b, c, d] T)).cell? ⟨w.heap.size, 3, none⟩ = some d := by
  refine ⟨?_, ?_⟩ <;> (rw [World.cell?_alloc_at _ _ _ _ rfl]; rfl)
set_option maxHeartbeats 1000000 in
theorem validLine_any (B A : Option Addr) (m c n cap : Nat) (p : List Lin) (i : Nat) (hi : i < p.length) (hm : m ≤ 1048576) (hsm : p.length ≤ 1048576) (hpr : 0 < i → 0 ≤ dep p (i - 1) ∧ dep p (i - 1) ≤ 5) (w : World) (hR : Sl w A n cap p) :
    Calls Tryd.prog 30 #[.agg #[.slice B m c], .slice A n cap, .int .i64 i] w fun e w' => e = .returned (.bool (lineB m p i p[i])) ∧ Le w w' := by
  obtain rfl := hR.len
  have HP := Lib.hid hpr
  obtain ⟨b, off, rfl, hb, d0, d1, d2, d3, -⟩ := hR.lin_at hi
  have HF : Hid (lineB m p i p[i] = (rng 0 (mostA m p[i].kind) p[i].a && rng 0 (mostB p[i].kind) p[i].b && depB p i && (!jmp p[i].kind || inL p i))) := rfl
  have hin : (i : Int) < (p.length : Int) := by omega
  have hi0 : (0 : Int) ≤ (i : Int) := by omega
  generalize lineB m p i p[i] = R at *
  generalize p[i].depth = vd at *
  generalize p[i].kind = vk at *
  generalize p[i].a = va at *
  generalize p[i].b = vb at *
  clear hpr
  go_enter Tryd.func30, Tryd.ntmps30
  go_wp2_with fail
  have hsz : (w.alloc (.cells #[.slice B m c] 31)).heap.size = w.heap.size + 1 := by simp
  obtain ⟨x0, x1, x4, L1⟩ := box4 (w.alloc (.cells #[.slice B m c] 31)) (.int .i64 vd) (.int .i64 vk) (.int .i64 va) (.int .i64 vb) 42
  obtain ⟨x2, x3⟩ := box4b (w.alloc (.cells #[.slice B m c] 31)) (.int .i64 vd) (.int .i64 vk) (.int .i64 va) (.int .i64 vb) 42
  rw [hsz] at x0 x1 x2 x3 x4
  have L2 := (Le.new w (.cells #[.slice B m c] 31)).trans L1
  clear L1 hsz d0 d1 d2 d3
  generalize w.heap.size + 1 = X at *
  generalize (w.alloc (.cells #[.slice B m c] 31)).alloc _ = W at *
  refine (mostNumbers_any B m c vk W hm).mono ?_
  rintro e w2 ⟨rfl, hl⟩
  have y1 := (hl.cell x4).trans x1
  have y2 := (hl.cell x4).trans x2
  have y3 := (hl.cell x4).trans x3
  have y4 : X < w2.heap.size := Nat.lt_of_lt_of_le x4 hl.size
  have L3 := L2.trans hl
  have T := hR.le L3
  clear x0 x1 x2 x3 x4 L2 hl hR
  generalize mostA m vk = na at *
  generalize mostB vk = nb at *
  go_wp2_with fail
  refine (iRange_any va 0 na w2).mono ?_
  rintro e w3 ⟨rfl, rfl⟩
  cases r1 : rng 0 na va
  · have HF2 : Hid (R = false) := by show _ = _; rw [HF.out, r1]; rfl
    clear HF
    go_wp2
    go_ret
    exact ⟨ret_bool HF2.out.symm, L3⟩
  · go_wp2_with fail
    refine (iRange_any vb 0 nb w2).mono ?_
    rintro e w3 ⟨rfl, rfl⟩
    cases r2 : rng 0 nb vb
    · have HF2 : Hid (R = false) := by show _ = _; rw [HF.out, r1, r2]; rfl
      clear HF
      go_wp2
      go_ret
      exact ⟨ret_bool HF2.out.symm, L3⟩
    · go_wp2_with fail
      refine (validLineDepth_any _ p.length cap p i hi hsm HP.out w2 T).mono ?_
      rintro e w3 ⟨rfl, hl3⟩
      have z1 := (hl3.cell y4).trans y1
      have T3 := T.le hl3
      have L4 := L3.trans hl3
      have z4 : X < w3.heap.size := Nat.lt_of_lt_of_le y4 hl3.size
      clear y1 y2 y3 y4 T L3 hl3
      cases r3 : depB p i
      · have HF2 : Hid (R = false) := by show _ = _; rw [HF.out, r1, r2, r3]; rfl
        clear HF
        go_wp2
        go_ret
        exact ⟨ret_bool HF2.out.symm, L4⟩
      · have HG : Hid (R = (!jmp vk || inL p i)) := by show _ = _; rw [HF.out, r1, r2, r3]; rfl
        clear HF
        by_cases h5 : vk = 5
        · subst h5
          have HF2 : Hid (R = inL p i) := HG.out
          clear HG
          go_wp2_with fail
          refine (iInLoop_any _ p.length cap p i hi hsm w3 T3).mono ?_
          rintro e w4 ⟨rfl, hl4⟩
          go_wp2
          go_ret
          exact ⟨ret_bool HF2.out.symm, L4.trans hl4⟩
        · by_cases h6 : vk = 6
          · subst h6
            have HF2 : Hid (R = inL p i) := HG.out
            clear HG
            go_wp2_with fail
            refine (iInLoop_any _ p.length cap p i hi hsm w3 T3).mono ?_
            rintro e w4 ⟨rfl, hl4⟩
            go_wp2
            go_ret
            exact ⟨ret_bool HF2.out.symm, L4.trans hl4⟩
          · have b5 := bf h5
            have b6 := bf h6
            have HF2 : Hid (R = true) := by show _ = _; rw [HG.out]; unfold jmp; rw [b5, b6]; rfl
            clear HG
            go_wp2
            go_ret
            exact ⟨ret_bool HF2.out.symm, L4⟩
theorem lineB_iff (xs : List Cls) (p : List Lin) (i : Nat) (h : i < p.length) : lineB xs.length p i p[i] = true ↔ lineI xs p i p[i] := by
  unfold lineB lineI jmp
  rw [Bool.and_eq_true, Bool.and_eq_true, Bool.and_eq_true, depB_iff, inL_up, and_assoc, and_assoc]
  refine and_congr_right fun _ => and_congr_right fun _ => and_congr_right fun _ => ?_
  rw [Bool.or_eq_true, Bool.not_eq_true', Bool.or_eq_false_iff, beq_eq_false_iff_ne, beq_eq_false_iff_ne]
  constructor
  · rintro (⟨a, b⟩ | a) (c | c)
    · exact absurd c a
    · exact absurd c b
    · exact a
    · exact a
  · intro H
    by_cases a : p[i].kind = 5
    · exact Or.inr (H (Or.inl a))
    · by_cases b : p[i].kind = 6
      · exact Or.inr (H (Or.inr b))
      · exact Or.inl ⟨a, b⟩
end
end Go.Proofs.YtkcnjoikdalgjaaDoor
