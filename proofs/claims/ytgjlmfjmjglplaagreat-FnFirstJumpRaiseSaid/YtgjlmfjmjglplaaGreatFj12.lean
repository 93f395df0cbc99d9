/- one text of PhD, HpB, PhF, PhI -/
import Derived.Test.YtgjlmfjmjglplaaGreatFj11
import Derived.Test.YtgjlmfjmjglplaaGreatFj9
import Derived.Test.YtgjlmfjmjglplaaGreatFj2
import Derived.Test.YtgjlmfjmjglplaaGreatFj3
namespace Go.Proofs.YtgjlmfjmjglplaaGreat
open Go.RowKit
set_option linter.unusedVariables false
section
def oI : Option Nat → Int
  | none => -1
  | some j => (j : Int)
theorem oGo_succ (p : List Lin) (d : Int) (k : Nat) : oGo p d (k + 1) = if dep p k < d then some k else oGo p d k := rfl
set_option maxHeartbeats 1000000 in
theorem outside_any (A : Option Addr) (n cap : Nat) (p : List Lin) (i : Nat) (hi : i < p.length) (hsm : p.length ≤ 1048576) (w : World) (hR : Sl w A n cap p) :
    Calls Tryz.prog 43 #[.slice A n cap, .int .i64 i] w fun e w' => e = .returned (.int .i64 (oI (outs p i))) ∧ Le w w' := by
  obtain rfl := hR.len
  have H0 : Hid (outs p i = oGo p (dep p i) i) := rfl
  have hwi : IntKind.i64.wrap ((i : Int) - 1) = (i : Int) - 1 := IntWalk.i64_in _ (by omega)
  have hix : (0 : Int) ≤ (i : Int) := by omega
  have hin : (i : Int) < (p.length : Int) := by omega
  go_enter Tryz.func43, Tryz.ntmps43
  go_wp2
  go_loopw [5] (fun jj wr => ∃ k : Nat, k ≤ i ∧ jj = .int .i64 ((k : Int) - 1) ∧ outs p i = oGo p (dep p i) k ∧ Le w wr) (fun jj _ => (intOf jj + 1).toNat)
  case atStart => exact ⟨i, Nat.le_refl _, rfl, H0.out, Le.refl _⟩
  case round =>
    obtain ⟨k, hk, rfl, he, hle⟩ := hrel
    have HE := Lib.hid he
    clear he H0
    have T := hR.le hle
    clear hR
    cases k with
    | zero =>
      have HF : Hid (oI (outs p i) = -1) := by show _ = _; rw [HE.out]; rfl
      have hneg : ¬ (0 : Int) ≤ ((0 : Nat) : Int) - 1 := by omega
      go_wp2
      go_ret
      exact ⟨ret_int HF.out.symm, hle⟩
    | succ k =>
      have hkl : k < p.length := by omega
      obtain ⟨b, off, rfl, hb, c0, -⟩ := T.lin_at hi
      obtain ⟨b2, off2, e2, hb2, d0, -⟩ := T.lin_at hkl
      cases e2
      have E0 := cell_ext hb c0
      have D0 := cell_ext hb2 d0
      have hkk : (((k + 1 : Nat) : Int) - 1) = (k : Int) := by omega
      have hk0 : (0 : Int) ≤ (k : Int) := by omega
      have hkn : (k : Int) < (p.length : Int) := by omega
      have hwk : IntKind.i64.wrap ((k : Int) - 1) = (k : Int) - 1 := IntWalk.i64_in _ (by omega)
      rw [hkk]
      by_cases hd : p[k].depth < p[i].depth
      · have HF : Hid (oI (outs p i) = (k : Int)) := by show _ = _; rw [HE.out, oGo_succ, dep_at hi, dep_at hkl, if_pos hd]; rfl
        clear HE
        go_wp2_with fail
        refine wp_region_ext (by kernel_rfl) (by kernel_rfl) ?_
        repeat (go_big_quiet_step (fail))
        refine wpQuiet_nil ?_
        intro _ hw'
        obtain ⟨gg, rfl⟩ := hw'
        have hw1 := Le.ext wr gg
        generalize wr.ext gg = W2 at *
        go_wp2
        go_ret
        exact ⟨ret_int HF.out.symm, hle.trans hw1⟩
      · have HF : Hid (outs p i = oGo p (dep p i) k) := by show _ = _; rw [HE.out, oGo_succ, dep_at hkl, if_neg (by rw [dep_at hi]; exact hd)]
        clear HE
        go_wp2_with fail
        refine wp_region_ext (by kernel_rfl) (by kernel_rfl) ?_
        repeat (go_big_quiet_step (fail))
        refine wpQuiet_nil ?_
        intro _ hw'
        obtain ⟨gg, rfl⟩ := hw'
        have hw1 := Le.ext wr gg
        generalize wr.ext gg = W2 at *
        go_wp2
        go_roundw
        case rel => exact ⟨k, by omega, by go_num, HF.out, hle.trans hw1⟩
        case measure => simp [intOf]
end

section
theorem rng_any (a b c : Int) (w : World) : Calls Tryz.prog 60 #[.int .i64 a, .int .i64 b, .int .i64 c] w fun e w' => e = .returned (.bool (rng b c a)) ∧ w = w' := inRange_any a b c w
theorem intInfoB : (Tryz.prog.info? 3).map (fun i => (i.zero, i.size, i.bytes)) = some (some (.int .i64 0), 1, 8) := by kernel_rfl
theorem one_newB (w : World) (a : Value) (t : TypeId) : ∀ j u, [a][j]? = some u → (w.alloc (.cells #[a] t)).cell? ((⟨w.heap.size, 0, none⟩ : Addr).add j) = some u := by
  intro j u hu
  cases j with
  | zero =>
    simp at hu; subst hu
    show (w.alloc (.cells #[a] t)).cell? ⟨w.heap.size, 0, none⟩ = some a
    rw [World.cell?_alloc_at _ _ _ _ rfl]; rfl
  | succ j => simp at hu

theorem go_len {nx : Int → Int} : ∀ (m : Nat) (f : Int) (out : List Int), (Chn.go nx m f out).length ≤ m + out.length
  | 0, _, out => by simp [Chn.go]
  | m + 1, f, out => by
    unfold Chn.go
    split
    · omega
    · have := go_len (nx := nx) m (nx f) (out ++ [f]); simp at this; omega
theorem go_stop {nx : Int → Int} {m : Nat} {f : Int} {out : List Int} (h : f < 0 ∨ f ∈ out) : Chn.go nx m f out = out := by
  cases m with
  | zero => rfl
  | succ m => rw [Chn.go, if_pos h]
theorem go_on {nx : Int → Int} {m : Nat} {f : Int} {out : List Int} (h0 : 0 ≤ f) (h : f ∉ out) : Chn.go nx (m + 1) f out = Chn.go nx m (nx f) (out ++ [f]) := by
  rw [Chn.go, if_neg (by rintro (h1 | h1); omega; exact h h1)]
theorem hasI_not {x : Int} {L : List Int} (h : x ∉ L) : hasI L x = false := by
  cases e : hasI L x
  · rfl
  · exact absurd (hasI_iff'.1 e) h

def slLen : Value → Nat
  | .slice _ n _ => n
  | _ => 0
end

section
section
def upF (p : List Lin) : Option Nat → Bool
  | none => false
  | some j => if knd p j = 12 then true else inL p j
theorem inL_upF (p : List Lin) (i : Nat) : inL p i = upF p (outs p i) := by
  unfold inL; rw [in_out]; rfl
set_option maxHeartbeats 1000000 in
theorem iInLoop_any (A : Option Addr) (n cap : Nat) (p : List Lin) (i : Nat) (hi : i < p.length) (hsm : p.length ≤ 1048576) (w : World) (hR : Sl w A n cap p) :
    Calls Tryz.prog 57 #[.slice A n cap, .int .i64 i] w fun e w' => e = .returned (.bool (inL p i)) ∧ Le w w' := by
  obtain rfl := hR.len
  have H0 := Lib.hid (inL_upF p i)
  have hlt : Hid (∀ j, outs p i = some j → j < i) := fun j h => oGo_lt h
  go_enter Tryz.func57, Tryz.ntmps57
  go_wp2_with fail
  refine (outside_any A p.length cap p i hi hsm w hR).mono ?_
  rintro e w2 ⟨rfl, hle⟩
  have T2 := hR.le hle
  clear hR
  go_wp2
  go_loopw [1] (fun ii wr => ∃ o : Option Nat, ii = .int .i64 (oI o) ∧ inL p i = upF p o ∧ (∀ j, o = some j → j < p.length) ∧ Le w2 wr) (fun ii _ => (intOf ii + 1).toNat)
  case atStart => exact ⟨outs p i, rfl, H0.out, fun j h => by have := hlt.out j h; omega, Le.refl _⟩
  case round =>
    obtain ⟨o, rfl, he, hb, hle2⟩ := hrel
    have HE := Lib.hid he
    clear he H0 hlt
    have T := T2.le hle2
    clear T2
    cases o with
    | none =>
      have HF : Hid (inL p i = false) := by show _ = _; rw [HE.out]; rfl
      have hneg : ¬ (0 : Int) ≤ oI none := by show ¬ (0 : Int) ≤ -1; omega
      have hn2 : oI none = -1 := rfl
      rw [hn2]
      clear hneg hb
      go_wp2
      go_ret
      exact ⟨ret_bool HF.out.symm, hle.trans hle2⟩
    | some j =>
      have hjl := hb j rfl
      have hn2 : oI (some j) = (j : Int) := rfl
      rw [hn2]
      clear hb
      obtain ⟨b, off, rfl, hbl, c0, c1, -⟩ := T.lin_at hjl
      have hj0 : (0 : Int) ≤ (j : Int) := by omega
      have hjn : (j : Int) < (p.length : Int) := by omega
      by_cases hk : p[j].kind = 12
      · have HF : Hid (inL p i = true) := by show _ = _; rw [HE.out]; show (if knd p j = 12 then true else inL p j) = true; rw [knd_at hjl, if_pos hk]
        have hkb : (p[j].kind == 12) = true := by simpa using hk
        clear HE hk
        go_wp2
        go_ret
        exact ⟨ret_bool HF.out.symm, hle.trans hle2⟩
      · have HF : Hid (inL p i = upF p (outs p j)) := by show _ = _; rw [HE.out, ← inL_upF]; show (if knd p j = 12 then true else inL p j) = inL p j; rw [knd_at hjl, if_neg hk]
        have hkb : (p[j].kind == 12) = false := by simpa using hk
        have hlt : Hid (∀ x, outs p j = some x → x < j) := fun x h => oGo_lt h
        clear HE hk
        generalize wr = wr0 at *
        go_wp2_with fail
        refine (outside_any _ p.length cap p j hjl hsm wr0 T).mono ?_
        rintro e w3 ⟨rfl, hle3⟩
        go_wp2
        go_roundw
        case rel => exact ⟨outs p j, rfl, HF.out, fun x h => by have := hlt.out x h; omega, hle2.trans hle3⟩
        case measure =>
          cases ho : outs p j with
          | none => simp [intOf, oI]
          | some x => have := hlt.out x ho; simp [intOf, oI]; omega
/-- what the program asks of the depth of a line, as it reads it -/
def depB (p : List Lin) (i : Nat) : Bool := if i = 0 then dep p 0 == 0 else if opn (knd p (i - 1)) = true then decide (dep p (i - 1) < 5) && (dep p i == dep p (i - 1) + 1) else rng 0 (dep p (i - 1)) (dep p i)
theorem depB_iff {p : List Lin} {i : Nat} : depB p i = true ↔ depI p i := by
  unfold depB depI
  cases i with
  | zero => rw [if_pos rfl, beq_iff_eq]; exact ⟨fun h => ⟨fun _ => h, fun j hj => by omega⟩, fun h => h.1 rfl⟩
  | succ j =>
    rw [if_neg (by omega), Nat.add_sub_cancel]
    cases ho : opn (knd p j)
    · rw [if_neg (by simp), rng_iff]
      constructor
      · intro h
        refine ⟨fun h => by omega, fun j' hj' => ?_⟩
        obtain rfl : j' = j := by omega
        exact ⟨fun h => (by rw [ho] at h; cases h), fun _ => h⟩
      · intro h
        exact (h.2 j rfl).2 ho
    · rw [if_pos rfl, Bool.and_eq_true, decide_eq_true_eq, beq_iff_eq]
      constructor
      · intro h
        refine ⟨fun h => by omega, fun j' hj' => ?_⟩
        obtain rfl : j' = j := by omega
        exact ⟨fun _ => h, fun h => (by rw [ho] at h; cases h)⟩
      · intro h
        exact (h.2 j rfl).1 ho
theorem iRange_any (a b c : Int) (w : World) : Calls Tryz.prog 40 #[.int .i64 a, .int .i64 b, .int .i64 c] w fun e w' => e = .returned (.bool (rng b c a)) ∧ w = w' := by
  go_enter Tryz.func40, Tryz.ntmps40
  go_wp2
  all_goals (go_ret; simp_all [rng])
  all_goals omega
end

section
theorem box4 (w : World) (a b c d : Value) (T : TypeId) : (w.alloc (.cells #[a, b, c, d] T)).cell? ⟨w.heap.size, 0, none⟩ = some a ∧ (w.alloc (.cells #[a, b, c, d] T)).cell? ⟨w.heap.size, 1, none⟩ = some b ∧
    w.heap.size < (w.alloc (.cells #[a, b, c, d] T)).heap.size ∧ Le w (w.alloc (.cells #[a, b, c, d] T)) := by
  refine ⟨?_, ?_, by simp, Le.new w _⟩ <;> (rw [World.cell?_alloc_at _ _ _ _ rfl]; rfl)
set_option maxHeartbeats 1000000 in
theorem validLineDepth_any (A : Option Addr) (n cap : Nat) (p : List Lin) (i : Nat) (hi : i < p.length) (hsm : p.length ≤ 1048576) (hpr : 0 < i → 0 ≤ dep p (i - 1) ∧ dep p (i - 1) ≤ 5) (w : World) (hR : Sl w A n cap p) :
    Calls Tryz.prog 56 #[.slice A n cap, .int .i64 i] w fun e w' => e = .returned (.bool (depB p i)) ∧ Le w w' := by
  obtain rfl := hR.len
  obtain ⟨b, off, rfl, hb, c0, -⟩ := hR.lin_at hi
  cases i with
  | zero =>
    have HF : Hid (depB p 0 = (p[0].depth == 0)) := by show _ = _; unfold depB; rw [if_pos rfl, dep_at hi]
    simp only [Nat.zero_mul, Nat.add_zero] at c0
    have h0n : (0 : Int) < (p.length : Int) := by omega
    go_enter Tryz.func56, Tryz.ntmps56
    go_wp2
    go_ret
    exact ⟨ret_bool HF.out.symm, Le.refl _⟩
  | succ j =>
    have hj : j < p.length := by omega
    have hp2 := hpr (by omega)
    rw [Nat.add_sub_cancel, dep_at hj] at hp2
    obtain ⟨b', off', e, _, d0, d1, d2, d3, hok⟩ := hR.lin_at hj
    injection e with e
    injection e with e1 e2
    subst e1
    subst e2
    have hcast : ((j + 1 : Nat) : Int) = (j : Int) + 1 := by omega
    have hwj : IntKind.i64.wrap ((j : Int) + 1 - 1) = (j : Int) := by rw [Int.add_sub_cancel]; exact IntWalk.i64_in _ (by omega)
    have hwj2 : IntKind.i64.wrap (j : Int) = (j : Int) := IntWalk.i64_in _ (by omega)
    have hj0 : (0 : Int) ≤ (j : Int) := by omega
    have hj1 : (0 : Int) ≤ (j : Int) + 1 := by omega
    have hjn : (j : Int) < (p.length : Int) := by omega
    have hjn2 : (j : Int) + 1 < (p.length : Int) := by omega
    have hne : ((j : Int) + 1 == 0) = false := bf (by omega)
    have hwd : IntKind.i64.wrap (p[j].depth + 1) = p[j].depth + 1 := IntWalk.i64_in _ (by omega)
    have HF : Hid (depB p (j + 1) = if opn p[j].kind = true then decide (p[j].depth < 5) && (p[j + 1].depth == p[j].depth + 1) else rng 0 p[j].depth p[j + 1].depth) := by
      show _ = _
      unfold depB
      rw [if_neg (by omega), Nat.add_sub_cancel, knd_at hj, dep_at hj, dep_at hi]
    rw [hcast]
    clear hpr hok
    generalize p[j].depth = vd at *
    generalize p[j].kind = vk at *
    generalize p[j].a = va at *
    generalize p[j].b = vb at *
    generalize p[j + 1].depth = vi at *
    go_enter Tryz.func56, Tryz.ntmps56
    go_wp2_with fail
    obtain ⟨x0, x1, x2, L1⟩ := box4 w (.int .i64 vd) (.int .i64 vk) (.int .i64 va) (.int .i64 vb) 31
    have k0 := (L1.cell hb).trans c0
    have hb1 : b < (w.alloc (.cells #[.int .i64 vd, .int .i64 vk, .int .i64 va, .int .i64 vb] 31)).heap.size := Nat.lt_of_lt_of_le hb L1.size
    clear d0 d1 d2 d3 hR c0
    generalize hbx : w.heap.size = B at *
    refine (hasBlock_any vk _).mono ?_
    rintro e w2 ⟨rfl, rfl⟩
    generalize hW : w.alloc _ = W at *
    have X0 := cell_ext x2 x0
    have K0 := cell_ext hb1 k0
    cases ho : opn vk
    · have HF2 : Hid (depB p (j + 1) = rng 0 vd vi) := by show _ = _; rw [HF.out, ho, if_neg (by simp)]
      clear HF
      cases hr : rng 0 vd vi
      all_goals
        rw [hr] at HF2
        have hc := fun U : World => iRange_any vi 0 vd U
        rw [hr] at hc
        go_wp2_with fail
        refine wp_region_ext (by kernel_rfl) (by kernel_rfl) ?_
        repeat (go_big_quiet_step (fail))
        go_big_quiet_step (first | (go_at_call 40; exact Calls.ext_same (hc _)))
        repeat (go_big_quiet_step (fail))
        refine wpQuiet_nil ?_
        intro _ hw'
        obtain ⟨gg, rfl⟩ := hw'
        have hw1 := Le.ext W gg
        generalize W.ext gg = W2 at *
        go_wp2
        go_ret
        exact ⟨ret_bool HF2.out.symm, L1.trans hw1⟩
    · by_cases h5 : vd < 5
      · have h5b : decide (vd < 5) = true := decide_eq_true h5
        have HF2 : Hid (depB p (j + 1) = (vi == vd + 1)) := by show _ = _; rw [HF.out, ho, if_pos rfl, h5b, Bool.true_and]
        clear HF
        go_wp2_with fail
        refine wp_region_ext (by kernel_rfl) (by kernel_rfl) ?_
        repeat (go_big_quiet_step (fail))
        refine wpQuiet_nil ?_
        intro _ hw'
        obtain ⟨gg, rfl⟩ := hw'
        have hw1 := Le.ext W gg
        generalize W.ext gg = W2 at *
        go_wp2
        go_ret
        exact ⟨ret_bool HF2.out.symm, L1.trans hw1⟩
      · have h5b : decide (vd < 5) = false := decide_eq_false h5
        have HF2 : Hid (depB p (j + 1) = false) := by show _ = _; rw [HF.out, ho, if_pos rfl, h5b, Bool.false_and]
        clear HF
        go_wp2_with fail
        refine wp_region_ext (by kernel_rfl) (by kernel_rfl) ?_
        repeat (go_big_quiet_step (fail))
        refine wpQuiet_nil ?_
        intro _ hw'
        obtain ⟨gg, rfl⟩ := hw'
        have hw1 := Le.ext W gg
        generalize W.ext gg = W2 at *
        go_wp2
        go_ret
        exact ⟨ret_bool HF2.out.symm, L1.trans hw1⟩
end
end

section
theorem boxTL (w : World) (s a b c d : Value) (T U : TypeId) : ((w.alloc (.cells #[s] T)).alloc (.cells #[a, b, c, d] U)).cell? ⟨w.heap.size, 0, none⟩ = some s ∧ ((w.alloc (.cells #[s] T)).alloc (.cells #[a, b, c, d] U)).cell? ⟨w.heap.size + 1, 1, none⟩ = some b ∧
    ((w.alloc (.cells #[s] T)).alloc (.cells #[a, b, c, d] U)).cell? ⟨w.heap.size + 1, 2, none⟩ = some c ∧ ((w.alloc (.cells #[s] T)).alloc (.cells #[a, b, c, d] U)).cell? ⟨w.heap.size + 1, 3, none⟩ = some d ∧
    w.heap.size < ((w.alloc (.cells #[s] T)).alloc (.cells #[a, b, c, d] U)).heap.size ∧ w.heap.size + 1 < ((w.alloc (.cells #[s] T)).alloc (.cells #[a, b, c, d] U)).heap.size ∧ Le w ((w.alloc (.cells #[s] T)).alloc (.cells #[a, b, c, d] U)) := by
  have hs : (w.alloc (.cells #[s] T)).heap.size = w.heap.size + 1 := by simp
  refine ⟨?_, ?_, ?_, ?_, by simp; omega, by simp, (Le.new w _).alloc _⟩
  · rw [World.cell?_alloc_past _ _ _ (by simp), World.cell?_alloc_at _ _ _ _ rfl]; rfl
  all_goals (rw [World.cell?_alloc_at _ _ _ _ (by simp)]; rfl)
set_option maxHeartbeats 1000000 in
theorem validNumbers_any (B : Option Addr) (m c : Nat) (xs : List Cls) (vd k a b : Int) (w : World) (hR : Sl w B m c xs) :
    Calls Tryz.prog 59 #[.agg #[.slice B m c], .agg #[.int .i64 vd, .int .i64 k, .int .i64 a, .int .i64 b]] w fun e w' => e = .returned (.bool (numS xs k a b)) ∧ Le w w' := by
  have H0 : Hid (numS xs k a b = if k = 1 ∨ k = 4 then rng 0 99 a && (b == 0) else if k = 2 then hasK xs a && rng 0 99 b else if k = 8 then hasK xs a && (b == 0) else if k = 11 then rng 0 9 a && rng 0 1 b else if k = 12 then rng 0 3 a && (b == 0) else rng 0 10 k && (a == 0) && (b == 0)) := rfl
  generalize numS xs k a b = R at *
  by_cases h1 : k = 1
  · subst h1
    have HF : Hid (R = (rng 0 99 a && (b == 0))) := H0.out
    clear H0
    go_enter Tryz.func59, Tryz.ntmps59
    go_wp2_with fail
    obtain ⟨x0, x1, x2, x3, s0, s1, L1⟩ := boxTL w (.slice B m c) (.int .i64 vd) (.int .i64 1) (.int .i64 a) (.int .i64 b) 25 31
    have T := hR.le L1
    clear hR
    generalize hX : w.heap.size + 1 = X at *
    generalize w.heap.size = X0 at *
    generalize (w.alloc (.cells #[.slice B m c] 25)).alloc _ = W at *
    refine (inRange_any a 0 99 _).mono ?_
    rintro e w2 ⟨rfl, rfl⟩
    cases r1 : (decide (0 ≤ a) && decide (a ≤ 99))
    · have HF2 : Hid (R = false) := HF.out.trans (by show ((decide (0 ≤ a) && decide (a ≤ 99)) && _) = _; rw [r1]; rfl)
      clear HF
      go_wp2
      go_ret
      exact ⟨ret_bool HF2.out.symm, L1⟩
    · have HF2 : Hid (R = (b == 0)) := HF.out.trans (by show ((decide (0 ≤ a) && decide (a ≤ 99)) && _) = _; rw [r1]; rfl)
      clear HF
      go_wp2
      go_ret
      exact ⟨ret_bool HF2.out.symm, L1⟩
  by_cases h4 : k = 4
  · subst h4
    have HF : Hid (R = (rng 0 99 a && (b == 0))) := H0.out
    clear H0
    go_enter Tryz.func59, Tryz.ntmps59
    go_wp2_with fail
    obtain ⟨x0, x1, x2, x3, s0, s1, L1⟩ := boxTL w (.slice B m c) (.int .i64 vd) (.int .i64 4) (.int .i64 a) (.int .i64 b) 25 31
    have T := hR.le L1
    clear hR
    generalize hX : w.heap.size + 1 = X at *
    generalize w.heap.size = X0 at *
    generalize (w.alloc (.cells #[.slice B m c] 25)).alloc _ = W at *
    refine (inRange_any a 0 99 _).mono ?_
    rintro e w2 ⟨rfl, rfl⟩
    cases r1 : (decide (0 ≤ a) && decide (a ≤ 99))
    · have HF2 : Hid (R = false) := HF.out.trans (by show ((decide (0 ≤ a) && decide (a ≤ 99)) && _) = _; rw [r1]; rfl)
      clear HF
      go_wp2
      go_ret
      exact ⟨ret_bool HF2.out.symm, L1⟩
    · have HF2 : Hid (R = (b == 0)) := HF.out.trans (by show ((decide (0 ≤ a) && decide (a ≤ 99)) && _) = _; rw [r1]; rfl)
      clear HF
      go_wp2
      go_ret
      exact ⟨ret_bool HF2.out.symm, L1⟩
  by_cases h2 : k = 2
  · subst h2
    have HF : Hid (R = (hasK xs a && rng 0 99 b)) := H0.out
    clear H0
    go_enter Tryz.func59, Tryz.ntmps59
    go_wp2_with fail
    obtain ⟨x0, x1, x2, x3, s0, s1, L1⟩ := boxTL w (.slice B m c) (.int .i64 vd) (.int .i64 2) (.int .i64 a) (.int .i64 b) 25 31
    have T := hR.le L1
    clear hR
    generalize hX : w.heap.size + 1 = X at *
    generalize w.heap.size = X0 at *
    generalize (w.alloc (.cells #[.slice B m c] 25)).alloc _ = W at *
    refine (hasClass_any B m c xs a _ T).mono ?_
    rintro e w2 ⟨rfl, hl⟩
    have y3 := (hl.cell s1).trans x3
    have L2 := L1.trans hl
    clear x0 x1 x2 x3 s0 s1 T L1 hl
    cases r1 : hasK xs a
    · have HF2 : Hid (R = false) := HF.out.trans (by rw [r1]; rfl)
      clear HF
      go_wp2
      go_ret
      exact ⟨ret_bool HF2.out.symm, L2⟩
    · have HF2 : Hid (R = rng 0 99 b) := HF.out.trans (by rw [r1]; rfl)
      clear HF
      go_wp2_with fail
      refine (inRange_any b 0 99 _).mono ?_
      rintro e w3 ⟨rfl, rfl⟩
      go_wp2
      go_ret
      exact ⟨ret_bool HF2.out.symm, L2⟩
  by_cases h8 : k = 8
  · subst h8
    have HF : Hid (R = (hasK xs a && (b == 0))) := H0.out
    clear H0
    go_enter Tryz.func59, Tryz.ntmps59
    go_wp2_with fail
    obtain ⟨x0, x1, x2, x3, s0, s1, L1⟩ := boxTL w (.slice B m c) (.int .i64 vd) (.int .i64 8) (.int .i64 a) (.int .i64 b) 25 31
    have T := hR.le L1
    clear hR
    generalize hX : w.heap.size + 1 = X at *
    generalize w.heap.size = X0 at *
    generalize (w.alloc (.cells #[.slice B m c] 25)).alloc _ = W at *
    refine (hasClass_any B m c xs a _ T).mono ?_
    rintro e w2 ⟨rfl, hl⟩
    have y3 := (hl.cell s1).trans x3
    have L2 := L1.trans hl
    clear x0 x1 x2 x3 s0 s1 T L1 hl
    cases r1 : hasK xs a
    · have HF2 : Hid (R = false) := HF.out.trans (by rw [r1]; rfl)
      clear HF
      go_wp2
      go_ret
      exact ⟨ret_bool HF2.out.symm, L2⟩
    · have HF2 : Hid (R = (b == 0)) := HF.out.trans (by rw [r1]; rfl)
      clear HF
      go_wp2
      go_ret
      exact ⟨ret_bool HF2.out.symm, L2⟩
  by_cases h11 : k = 11
  · subst h11
    have HF : Hid (R = (rng 0 9 a && rng 0 1 b)) := H0.out
    clear H0
    go_enter Tryz.func59, Tryz.ntmps59
    go_wp2_with fail
    obtain ⟨x0, x1, x2, x3, s0, s1, L1⟩ := boxTL w (.slice B m c) (.int .i64 vd) (.int .i64 11) (.int .i64 a) (.int .i64 b) 25 31
    have T := hR.le L1
    clear hR
    generalize hX : w.heap.size + 1 = X at *
    generalize w.heap.size = X0 at *
    generalize (w.alloc (.cells #[.slice B m c] 25)).alloc _ = W at *
    refine (inRange_any a 0 9 _).mono ?_
    rintro e w2 ⟨rfl, rfl⟩
    cases r1 : (decide (0 ≤ a) && decide (a ≤ 9))
    · have HF2 : Hid (R = false) := HF.out.trans (by show ((decide (0 ≤ a) && decide (a ≤ 9)) && _) = _; rw [r1]; rfl)
      clear HF
      go_wp2
      go_ret
      exact ⟨ret_bool HF2.out.symm, L1⟩
    · have HF2 : Hid (R = rng 0 1 b) := HF.out.trans (by show ((decide (0 ≤ a) && decide (a ≤ 9)) && _) = _; rw [r1]; rfl)
      clear HF
      go_wp2_with fail
      refine (inRange_any b 0 1 _).mono ?_
      rintro e w3 ⟨rfl, rfl⟩
      go_wp2
      go_ret
      exact ⟨ret_bool HF2.out.symm, L1⟩
  by_cases h12 : k = 12
  · subst h12
    have HF : Hid (R = (rng 0 3 a && (b == 0))) := H0.out
    clear H0
    go_enter Tryz.func59, Tryz.ntmps59
    go_wp2_with fail
    obtain ⟨x0, x1, x2, x3, s0, s1, L1⟩ := boxTL w (.slice B m c) (.int .i64 vd) (.int .i64 12) (.int .i64 a) (.int .i64 b) 25 31
    have T := hR.le L1
    clear hR
    generalize hX : w.heap.size + 1 = X at *
    generalize w.heap.size = X0 at *
    generalize (w.alloc (.cells #[.slice B m c] 25)).alloc _ = W at *
    refine (inRange_any a 0 3 _).mono ?_
    rintro e w2 ⟨rfl, rfl⟩
    cases r1 : (decide (0 ≤ a) && decide (a ≤ 3))
    · have HF2 : Hid (R = false) := HF.out.trans (by show ((decide (0 ≤ a) && decide (a ≤ 3)) && _) = _; rw [r1]; rfl)
      clear HF
      go_wp2
      go_ret
      exact ⟨ret_bool HF2.out.symm, L1⟩
    · have HF2 : Hid (R = (b == 0)) := HF.out.trans (by show ((decide (0 ≤ a) && decide (a ≤ 3)) && _) = _; rw [r1]; rfl)
      clear HF
      go_wp2
      go_ret
      exact ⟨ret_bool HF2.out.symm, L1⟩
  have b1 := bf h1
  have b4 := bf h4
  have b2 := bf h2
  have b8 := bf h8
  have b11 := bf h11
  have b12 := bf h12
  have HF : Hid (R = (rng 0 10 k && (a == 0) && (b == 0))) := H0.out.trans (by rw [if_neg (by omega), if_neg h2, if_neg h8, if_neg h11, if_neg h12])
  clear H0 h1 h2 h4 h8 h11 h12
  go_enter Tryz.func59, Tryz.ntmps59
  go_wp2_with fail
  obtain ⟨x0, x1, x2, x3, s0, s1, L1⟩ := boxTL w (.slice B m c) (.int .i64 vd) (.int .i64 k) (.int .i64 a) (.int .i64 b) 25 31
  have T := hR.le L1
  clear hR
  generalize hX : w.heap.size + 1 = X at *
  generalize w.heap.size = X0 at *
  generalize (w.alloc (.cells #[.slice B m c] 25)).alloc _ = W at *
  refine (inRange_any k 0 10 _).mono ?_
  rintro e w2 ⟨rfl, rfl⟩
  cases r1 : (decide (0 ≤ k) && decide (k ≤ 10))
  · have HF2 : Hid (R = false) := HF.out.trans (by show (((decide (0 ≤ k) && decide (k ≤ 10)) && _) && _) = _; rw [r1]; rfl)
    clear HF
    go_wp2
    go_ret
    exact ⟨ret_bool HF2.out.symm, L1⟩
  · cases r2 : (a == 0)
    · have HF2 : Hid (R = false) := HF.out.trans (by show (((decide (0 ≤ k) && decide (k ≤ 10)) && _) && _) = _; rw [r1, r2]; rfl)
      clear HF
      go_wp2
      go_ret
      exact ⟨ret_bool HF2.out.symm, L1⟩
    · have HF2 : Hid (R = (b == 0)) := HF.out.trans (by show (((decide (0 ≤ k) && decide (k ≤ 10)) && _) && _) = _; rw [r1, r2]; rfl)
      clear HF
      go_wp2
      go_ret
      exact ⟨ret_bool HF2.out.symm, L1⟩
end
end Go.Proofs.YtgjlmfjmjglplaaGreat
