/- WyB: one text of PhCb, PhWq, PdW -/
import Derived.Test.YtomdhpfelchjeaaPhW
import Derived.Test.YtomdhpfelchjeaaPhJ
import Derived.Test.YtomdhpfelchjeaaPhF
import Derived.Test.YtomdhpfelchjeaaHCw
import Derived.Test.YtomdhpfelchjeaaM
import Derived.Test.YtomdhpfelchjeaaRg
import Derived.Test.YtomdhpfelchjeaaWyA
import Derived.Test.YtomdhpfelchjeaaPhK
import Derived.WalkMore
import Derived.Scope
import Derived.Deep.LoopGhost
import Derived.Maps.OwnOps
import Derived.Maps.OwnSet
import Derived.Maps.Views
namespace Go.Proofs.Ytomdhpfelchjeaa
open Go.RowKit
section
section
def lnBc (p : List Lin) (i : Nat) : Int := match p[i]? with | some x => x.b | none => 0
theorem lnBc_at {p : List Lin} {i : Nat} (h : i < p.length) : lnBc p i = p[i].b := by unfold lnBc; rw [List.getElem?_eq_getElem h]
/-- the first of some lines whose class a class is -/
def ctE (xs : List Cls) (p : List Lin) (a : Int) : List Nat → Int
  | [] => -1
  | x :: r => if isAL xs a (lnA p x) = true then (x : Int) else ctE xs p a r
/-- what catches in the block of a line -/
def ctAt (xs : List Cls) (p : List Lin) (a : Int) (i : Nat) : Int := if knd p i = 7 then ctE xs p a (exL p i) else if knd p i = 11 ∧ lnBc p i = 1 then (i : Int) else -1
/-- what catches in the blocks of some lines, and how many are left -/
def coF (xs : List Cls) (p : List Lin) (a : Int) : List Nat → Int
  | [] => -1
  | x :: r => if 0 ≤ ctAt xs p a x then ctAt xs p a x else coF xs p a r
def coN (xs : List Cls) (p : List Lin) (a : Int) : List Nat → Nat
  | [] => 0
  | x :: r => if 0 ≤ ctAt xs p a x then 0 else coN xs p a r + 1
theorem coF_at {xs : List Cls} {p : List Lin} {a : Int} {L : List Nat} {k : Nat} (h : k < L.length) : coF xs p a (L.drop k) = if 0 ≤ ctAt xs p a L[k] then ctAt xs p a L[k] else coF xs p a (L.drop (k + 1)) := by rw [List.drop_eq_getElem_cons h]; rfl
theorem coF_end {xs : List Cls} {p : List Lin} {a : Int} {L : List Nat} {k : Nat} (h : ¬ k < L.length) : coF xs p a (L.drop k) = -1 := by rw [List.drop_eq_nil_of_le (by omega)]; rfl
theorem coN_at {xs : List Cls} {p : List Lin} {a : Int} {L : List Nat} {k : Nat} (h : k < L.length) : coN xs p a (L.drop k) = if 0 ≤ ctAt xs p a L[k] then 0 else coN xs p a (L.drop (k + 1)) + 1 := by rw [List.drop_eq_getElem_cons h]; rfl
theorem coN_end {xs : List Cls} {p : List Lin} {a : Int} {L : List Nat} {k : Nat} (h : ¬ k < L.length) : coN xs p a (L.drop k) = 0 := by rw [List.drop_eq_nil_of_le (by omega)]; rfl
theorem coN_le (xs : List Cls) (p : List Lin) (a : Int) : ∀ L, coN xs p a L ≤ L.length
  | [] => Nat.le_refl _
  | x :: r => by
    unfold coN
    have := coN_le xs p a r
    split <;> simp <;> omega
theorem ex_drop {p : List Lin} {C : List Nat} {k : Nat} (h : k < C.length) : exF p (C.drop k) = if knd p C[k] = 8 then C[k] :: exF p (C.drop (k + 1)) else exF p (C.drop (k + 1)) := by
  rw [List.drop_eq_getElem_cons h]
  unfold exF
  rw [List.filter_cons]
  by_cases e : knd p C[k] = 8
  · rw [if_pos e, if_pos (by simpa using e)]
  · rw [if_neg e, if_neg (by simpa using e)]
theorem ct_two (xs : List Cls) (p : List Lin) (a : Int) : ∀ (E : List Nat) (z : Nat), (firstC xs (E.map (lnA p)) a z = -1 ∧ ctE xs p a E = -1) ∨ ∃ j : Nat, ∃ h : j < E.length, firstC xs (E.map (lnA p)) a z = ((z + j : Nat) : Int) ∧ ctE xs p a E = (E[j] : Int)
  | [], z => .inl ⟨rfl, rfl⟩
  | x :: r, z => by
    rw [List.map_cons]
    unfold firstC ctE
    by_cases h : isAL xs a (lnA p x) = true
    · rw [if_pos h, if_pos h]
      exact .inr ⟨0, by simp, by simp, rfl⟩
    · rw [if_neg h, if_neg h]
      rcases ct_two xs p a r (z + 1) with ⟨h1, h2⟩ | ⟨j, hj, h1, h2⟩
      · exact .inl ⟨h1, h2⟩
      · exact .inr ⟨j + 1, by simpa using hj, by rw [show ((z : Int) + 1) = ((z + 1 : Nat) : Int) by omega, h1]; omega, by rw [h2]; rfl⟩
theorem good_exc {xs : List Cls} {p : List Lin} (g : GoodP xs p) {i : Nat} (hi : i < p.length) (h7 : knd p i = 7) : goodC xs (clL p i) = true := by
  have hx : exs p (parts p i) ≤ 6 := ((g.tries i hi).1 h7).2
  rw [exs_len] at hx
  refine goodC_yes g.tree (by unfold clL; rw [clF_len]; exact hx) (goodL_mk fun b hb => ?_)
  obtain ⟨x, hx2, rfl⟩ := List.mem_map.1 hb
  have hm := List.mem_filter.1 hx2
  have hl := parts_lt hi x hm.1
  have hk : knd p x = 8 := by simpa using hm.2
  have hn := (g.line x hl).1
  rw [lnA_at hl]
  rw [knd_at hl] at hk
  unfold numS at hn
  rw [hk] at hn
  simp at hn
  exact hn.1
set_option maxHeartbeats 2000000 in
set_option maxRecDepth 100000 in
theorem catcher_any (B A : Option Addr) (m c n cap : Nat) (xs : List Cls) (p : List Lin) (i : Nat) (a : Int) (hi : i < p.length) (g : GoodP xs p) (ha : a < xs.length) (ha0 : 0 ≤ a) (w : World) (hT : Sl w B m c xs) (hR : Sl w A n cap p) :
    Calls Try.prog 48 #[.agg #[.slice B m c], .slice A n cap, .int .i64 i, .int .i64 a] w fun e w' => e = .returned (.int .i64 (ctAt xs p a i)) ∧ Le w w' := by
  obtain rfl := hR.len
  have hp := g.len
  have HG := Lib.hid (good_of g.tree)
  have HCP := Lib.hid (chain_parts g.tries hi)
  have HX : Hid (ctAt xs p a i = if knd p i = 7 then ctE xs p a (exL p i) else if knd p i = 11 ∧ lnBc p i = 1 then (i : Int) else -1) := rfl
  have HEX : Hid (exL p i = exF p (parts p i)) := rfl
  have HPL := Lib.hid (parts_lt hi)
  have hplen := parts_len p i
  have HK := Lib.hid (knd_at hi)
  have HB := Lib.hid (lnBc_at hi)
  have hx0 : (0 : Int) ≤ (i : Int) := by omega
  have hxn : (i : Int) < (p.length : Int) := by omega
  have HC0 : Hid (parts p i = i :: (parts p i).drop 1) := rfl
  clear g
  go_enter Try.func48, Try.ntmps48
  obtain ⟨b, off, rfl, hb, d0, d1, d2, d3, -⟩ := hR.lin_at hi
  obtain ⟨ct, zt, L0⟩ := box1 w (.slice B m c) 25
  have T1 := hT.le L0
  have S1 := hR.le L0
  have e1 := (L0.cell hb).trans d1
  have e3 := (L0.cell hb).trans d3
  generalize p[i].kind = vk at *
  generalize p[i].b = vb at *
  by_cases h7 : vk = 7
  · subst h7
    have HY : Hid (ctAt xs p a i = ctE xs p a (exF p (parts p i))) := by show _ = _; rw [HX.out, if_pos HK.out]; rfl
    have HY1 : Hid (exF p (parts p i) = exF p ((parts p i).drop 1)) := by
      show _ = _
      have h0 := ex_drop (p := p) (C := parts p i) (k := 0) (by unfold parts; simp)
      rw [List.drop_zero] at h0
      rw [h0]
      exact if_neg (show knd p i ≠ 8 by rw [HK.out]; decide)
    clear HX HB
    go_wp2_with fail
    generalize w.alloc (.cells #[.slice B m c] 25) = W at *
    refine (chainOf_any _ p.length cap p i hi (by omega) W S1).mono ?_
    rintro e w2 ⟨v, rfl, D, hle⟩
    rw [HCP.out] at D
    obtain ⟨A2, q2, rfl, S2, -⟩ := D.form (by decide)
    rw [nI_len] at S2 ⊢
    have L2 := L0.trans hle
    have T2 := T1.le hle
    have R2 := S1.le hle
    replace ct := (hle.cell zt).trans ct
    replace zt := Nat.lt_of_lt_of_le zt hle.size
    generalize parts p i = C at *
    clear D hle T1 S1 d0 d1 d2 d3 e1 e3
    go_wp2
    go_loopw [10] (fun q wr => ∃ k : Nat, k ≤ C.length + 1 ∧ q = .int .i64 k ∧ ctE xs p a (exF p C) = ctE xs p a (exF p (C.drop k)) ∧ Le w2 wr) (fun q _ => C.length + 1 - (intOf q).toNat)
    case atStart => exact ⟨1, by omega, rfl, by rw [HY1.out], Le.refl _⟩
    case round =>
      obtain ⟨k, hk, rfl, he, hle⟩ := hrel
      have HE := Lib.hid he; clear he
      have T := T2.le hle
      have S := R2.le hle
      have SC := S2.le hle
      replace ct := (hle.cell zt).trans ct
      replace zt := Nat.lt_of_lt_of_le zt hle.size
      clear T2 R2 S2
      by_cases hl : k < C.length
      · obtain ⟨b5, off5, rfl, hb5, c5, -⟩ := SC.int_at (k := k) (by rw [nI_len]; exact hl)
        rw [nI_at hl] at c5
        have hx := HPL.out C[k] (List.getElem_mem hl)
        obtain ⟨b6, off6, e6, hb6, -, k1, k2, -⟩ := S.lin_at hx
        injection e6 with e6
        injection e6 with e61 e62
        subst e61
        subst e62
        have HKX := Lib.hid (knd_at hx)
        have HLX := Lib.hid (lnA_at hx)
        have HD := Lib.hid (ex_drop (p := p) hl)
        have HCT : Hid (∀ r, ctE xs p a (C[k] :: r) = if isAL xs a (lnA p C[k]) = true then (C[k] : Int) else ctE xs p a r) := fun r => rfl
        generalize C[k] = x at *
        generalize p[x].kind = xk at *
        generalize p[x].a = xa at *
        have E5 := cell_ext hb5 c5
        have E6 := cell_ext hb6 k1
        have E7 := cell_ext hb6 k2
        have Et := cell_ext zt ct
        have hk0 : (0 : Int) ≤ (k : Int) := by omega
        have hkn : (k : Int) < (C.length : Int) := by omega
        have hy0 : (0 : Int) ≤ (x : Int) := by omega
        have hyn : (x : Int) < (p.length : Int) := by omega
        clear k1 k2 ct
        by_cases h8 : xk = 8
        · subst h8
          have HZ : Hid (ctE xs p a (exF p C) = if isAL xs a xa = true then (x : Int) else ctE xs p a (exF p (C.drop (k + 1)))) := by show _ = _; rw [HE.out, HD.out, if_pos HKX.out, HCT.out, HLX.out]
          have hca : ∀ (g : Ext wr) (_ : True), Calls Try.prog 67 #[.agg #[.slice B m c], .int .i64 a, .int .i64 xa] (wr.ext g) fun e w' => e = .returned (.bool (isAL xs a xa)) ∧ Le (wr.ext g) w' := fun g _ => isA_any B m c xs a xa _ (T.le (Le.ext wr g)) HG.out (by omega) (by omega)
          clear HD HCT HE
          generalize isAL xs a xa = q1 at *
          go_wp2_with fail
          cases q1
          · have HF : Hid (ctE xs p a (exF p C) = ctE xs p a (exF p (C.drop (k + 1)))) := by show _ = _; rw [HZ.out, if_neg (by simp)]
            refine wp_region_ext (by kernel_rfl) (by kernel_rfl) ?_
            repeat (go_big_quiet_step (first | (go_at_call 67; exact Calls.ext_of (hca _ trivial))))
            refine wpQuiet_nil ?_
            intro _ hw'
            obtain ⟨gg, rfl⟩ := hw'
            have hw1 := Le.ext wr gg
            generalize wr.ext gg = W2 at *
            go_wp2
            go_roundw
            case rel => exact ⟨k + 1, by omega, by go_num, HF.out, hle.trans hw1⟩
            case measure => simp [intOf]; omega
          · have HF : Hid (ctAt xs p a i = (x : Int)) := by show _ = _; rw [HY.out, HZ.out, if_pos rfl]
            refine wp_region_ext (by kernel_rfl) (by kernel_rfl) ?_
            repeat (go_big_quiet_step (first | (go_at_call 67; exact Calls.ext_of (hca _ trivial))))
            refine wpQuiet_nil ?_
            intro _ hw'
            obtain ⟨gg, rfl⟩ := hw'
            have hw1 := Le.ext wr gg
            generalize wr.ext gg = W2 at *
            replace c5 := (hw1.cell hb5).trans c5
            go_wp2
            go_ret
            exact ⟨ret_int HF.out.symm, L2.trans (hle.trans hw1)⟩
        · have h8b := bf h8
          have HF : Hid (ctE xs p a (exF p C) = ctE xs p a (exF p (C.drop (k + 1)))) := by show _ = _; rw [HE.out, HD.out, if_neg (by rw [HKX.out]; exact h8)]
          clear HD HCT HE
          go_wp2_with fail
          refine wp_region_ext (by kernel_rfl) (by kernel_rfl) ?_
          repeat (go_big_quiet_step (fail))
          refine wpQuiet_nil ?_
          intro _ hw'
          obtain ⟨gg, rfl⟩ := hw'
          have hw1 := Le.ext wr gg
          generalize wr.ext gg = W2 at *
          go_wp2
          go_roundw
          case rel => exact ⟨k + 1, by omega, by go_num, HF.out, hle.trans hw1⟩
          case measure => simp [intOf]; omega
      · have HF : Hid (ctAt xs p a i = -1) := by show _ = _; rw [HY.out, HE.out, List.drop_eq_nil_of_le (by omega)]; rfl
        go_wp2
        go_ret
        exact ⟨ret_int HF.out.symm, L2.trans hle⟩
  · have h7b : (vk != 7) = true := by simpa using h7
    by_cases h11 : vk = 11
    · subst h11
      by_cases hb1 : vb = 1
      · have hb1b : (vb == 1) = true := by simpa using hb1
        have HF : Hid (ctAt xs p a i = (i : Int)) := by show _ = _; rw [HX.out, if_neg (by rw [HK.out]; decide), if_pos ⟨HK.out, by rw [HB.out]; exact hb1⟩]
        clear HX hb1
        go_wp2
        go_ret
        exact ⟨ret_int HF.out.symm, L0⟩
      · have hb1b : (vb == 1) = false := bf hb1
        have HF : Hid (ctAt xs p a i = -1) := by show _ = _; rw [HX.out, if_neg (by rw [HK.out]; decide), if_neg (by rw [HB.out]; exact fun h => hb1 h.2)]
        clear HX
        go_wp2
        go_ret
        exact ⟨ret_int HF.out.symm, L0⟩
    · have h11b := bf h11
      have HF : Hid (ctAt xs p a i = -1) := by show _ = _; rw [HX.out, if_neg (by rw [HK.out]; exact h7), if_neg (by rw [HK.out]; exact fun h => h11 h.1)]
      clear HX
      go_wp2
      go_ret
      exact ⟨ret_int HF.out.symm, L0⟩
end

section
def grB (xs : List Cls) (p : List Lin) (i a : Int) : Bool := glB xs p i && hasK xs a
theorem goodRaise_any (B A : Option Addr) (m c n cap : Nat) (xs : List Cls) (p : List Lin) (i a : Int) (hsm : p.length ≤ 1048576) (w : World) (hT : Sl w B m c xs) (hR : Sl w A n cap p) :
    Calls Try.prog 47 #[.agg #[.slice B m c], .slice A n cap, .int .i64 i, .int .i64 a] w fun e w' => e = .returned (.bool (grB xs p i a)) ∧ Le w w' := by
  have HX : Hid (grB xs p i a = (glB xs p i && hasK xs a)) := rfl
  go_enter Try.func47, Try.ntmps47
  go_wp2_with fail
  obtain ⟨ct, zt, hleB⟩ := box1 w (.slice B m c) 25
  have L0 := hleB
  clear hleB
  generalize w.alloc (.cells #[.slice B m c] 25) = W at *
  refine (goodLine_any B A m c n cap xs p i hsm _ (hT.le L0) (hR.le L0)).mono ?_
  rintro e w1 ⟨rfl, hle⟩
  replace ct := (hle.cell zt).trans ct
  replace zt := Nat.lt_of_lt_of_le zt hle.size
  replace L0 := L0.trans hle
  cases h : glB xs p i
  · have HF : Hid (grB xs p i a = false) := by show _ = _; rw [HX.out, h]; rfl
    go_wp2
    go_ret
    exact ⟨ret_bool HF.out.symm, L0⟩
  · have HF : Hid (grB xs p i a = hasK xs a) := by show _ = _; rw [HX.out, h, Bool.true_and]
    go_wp2_with fail
    refine (hasClass_any B m c xs a _ (hT.le L0)).mono ?_
    rintro e w2 ⟨rfl, hle2⟩
    go_wp2
    go_ret
    exact ⟨ret_bool HF.out.symm, L0.trans hle2⟩
theorem isClass_any (A : Option Addr) (n cap : Nat) (xs : List Cls) (a : Int) (w : World) (hR : Sl w A n cap xs) :
    Calls Try.prog 45 #[.agg #[.slice A n cap], .int .i64 a] w fun e w' => e = .returned (.bool (hasK xs a)) ∧ Le w w' := by
  obtain rfl := hR.len
  have hm := hR.n_le
  have hw : IntKind.i64.wrap ((xs.length : Int) - 1) = (xs.length : Int) - 1 := IntWalk.i64_in _ (by omega)
  go_enter Try.func45, Try.ntmps45
  go_wp2_with (go_at_call 68; refine (iRange_any _ _ _ _).mono ?_; rintro e w' ⟨rfl, rfl⟩)
  go_ret
  exact ⟨rfl, Le.new w _⟩
def caX (xs : List Cls) (p : List Lin) (i a : Int) : Int := cond (grB xs p i a) (coF xs p a (encl p i.toNat)) (-1)
set_option maxHeartbeats 1000000 in
theorem sCatcherOf_any (B A : Option Addr) (m c n cap : Nat) (xs : List Cls) (p : List Lin) (i a : Int) (hsm : p.length ≤ 1048576) (w : World) (hT : Sl w B m c xs) (hR : Sl w A n cap p) :
    Calls Try.prog 17 #[.agg #[.slice B m c], .slice A n cap, .int .i64 i, .int .i64 a] w fun e w' => e = .returned (.int .i64 (caX xs p i a)) ∧ Le w w' := by
  have HX : Hid (caX xs p i a = cond (grB xs p i a) (coF xs p a (encl p i.toNat)) (-1)) := rfl
  go_enter Try.func17, Try.ntmps17
  go_wp2_with fail
  obtain ⟨ct, zt, hleB⟩ := box1 w (.slice B m c) 25
  have L0 := hleB
  clear hleB
  generalize w.alloc (.cells #[.slice B m c] 25) = W at *
  refine (goodRaise_any B A m c n cap xs p i a hsm _ (hT.le L0) (hR.le L0)).mono ?_
  rintro e w1 ⟨rfl, hle⟩
  replace ct := (hle.cell zt).trans ct
  replace zt := Nat.lt_of_lt_of_le zt hle.size
  replace L0 := L0.trans hle
  clear hle
  cases h : grB xs p i a
  · have HF : Hid (caX xs p i a = -1) := by show _ = _; rw [HX.out, h]; rfl
    go_wp2
    go_ret
    exact ⟨ret_int HF.out.symm, L0⟩
  · have h2 := Bool.and_eq_true_iff.1 h
    obtain ⟨h1, k, rfl, hk⟩ := glB_iff.1 h2.1
    have g := goodP_of h1
    have ha := hasK_iff.1 h2.2
    have HY : Hid (caX xs p k a = coF xs p a (encl p k)) := by show _ = _; rw [HX.out, h]; rfl
    have HEL : Hid (∀ x ∈ encl p k, x < p.length) := fun x hx => by have := encl_lt x hx; omega
    have hel := encl_len p k
    obtain rfl := hR.len
    have S1 := hR.le L0
    have T1 := hT.le L0
    have HGP := Lib.hid g
    have hp := g.len
    clear HX h h2 h1 g hT hR
    go_wp2_with fail
    refine (enclosing_any A _ cap p k hk (by omega) w1 S1).mono ?_
    rintro e w2 ⟨v, rfl, D, hle2⟩
    obtain ⟨A2, q2, rfl, S2, -⟩ := D.form (by decide)
    have L2 := L0.trans hle2
    have T2 := T1.le hle2
    have R2 := S1.le hle2
    replace ct := (hle2.cell zt).trans ct
    replace zt := Nat.lt_of_lt_of_le zt hle2.size
    rw [nI_len] at S2 ⊢
    generalize encl p k = E at *
    clear D S1 T1
    go_wp2
    go_loopw [10, 11] (fun q _ wr => ∃ j : Nat, j ≤ E.length ∧ q = .int .i64 j ∧ coF xs p a E = coF xs p a (E.drop j) ∧ Le w2 wr) (fun q _ _ => E.length - (intOf q).toNat)
    case atStart => exact ⟨0, Nat.zero_le _, rfl, rfl, Le.refl _⟩
    case round =>
      obtain ⟨j, hj, rfl, hr, hle3⟩ := hrel
      have HR := Lib.hid hr; clear hr
      have T := T2.le hle3
      have R := R2.le hle3
      have S3 := S2.le hle3
      replace ct := (hle3.cell zt).trans ct
      replace zt := Nat.lt_of_lt_of_le zt hle3.size
      clear S2 T2 R2
      by_cases hl : j < E.length
      · obtain ⟨b, off, rfl, hb5, hcell, -⟩ := S3.int_at (k := j) (by rw [nI_len]; exact hl)
        rw [nI_at hl] at hcell
        have hx := HEL.out E[j] (List.getElem_mem hl)
        have HN := Lib.hid (coF_at (xs := xs) (p := p) (a := a) hl)
        generalize E[j] = x at *
        generalize wr = W0 at *
        have hca : ∀ (g : Ext W0) (_ : True), Calls Try.prog 48 #[.agg #[.slice B m c], .slice A p.length cap, .int .i64 x, .int .i64 a] (W0.ext g) fun e w' => e = .returned (.int .i64 (ctAt xs p a x)) ∧ Le (W0.ext g) w' := fun g _ => catcher_any B A m c _ cap xs p x a hx HGP.out (by omega) (by omega) _ (T.le (Le.ext W0 g)) (R.le (Le.ext W0 g))
        have Et := cell_ext zt ct
        have E5 := cell_ext hb5 hcell
        have hj0 : (0 : Int) ≤ (j : Int) := by omega
        have hjn : (j : Int) < (E.length : Int) := by omega
        clear ct hcell
        go_wp2_with fail
        refine wp_region_ext (by kernel_rfl) (by kernel_rfl) ?_
        repeat (go_big_quiet_step (first | (go_at_call 48; exact Calls.ext_of (hca _ trivial))))
        refine wpQuiet_nil ?_
        intro _ hw'
        obtain ⟨gg, rfl⟩ := hw'
        have hle4 := Le.ext W0 gg
        generalize W0.ext gg = w4 at *
        clear hca
        generalize ctAt xs p a x = z at *
        by_cases hz : 0 ≤ z
        · have hzb : decide ((0 : Int) ≤ z) = true := decide_eq_true hz
          have HF : Hid (caX xs p k a = z) := by show _ = _; rw [HY.out, HR.out, HN.out, if_pos hz]
          go_wp2
          go_ret
          exact ⟨ret_int HF.out.symm, L2.trans (hle3.trans hle4)⟩
        · have hzb : decide ((0 : Int) ≤ z) = false := decide_eq_false hz
          have HF : Hid (coF xs p a E = coF xs p a (E.drop (j + 1))) := by show _ = _; rw [HR.out, HN.out, if_neg hz]
          go_wp2
          go_roundw
          case rel => exact ⟨j + 1, by omega, by go_num, HF.out, hle3.trans hle4⟩
          case measure => simp [intOf]; omega
      · have HF : Hid (caX xs p k a = -1) := by show _ = _; rw [HY.out, HR.out, coF_end hl]
        go_wp2
        go_ret
        exact ⟨ret_int HF.out.symm, L2.trans hle3⟩
theorem tup2 {a b c d : Int} (h : a = c) (h2 : b = d) : Ending.returned (.tuple #[.int .i64 a, .int .i64 b]) = .returned (.tuple #[.int .i64 c, .int .i64 d]) := by rw [h, h2]
set_option maxHeartbeats 2000000 in
set_option maxRecDepth 100000 in
theorem catchAt_any (B A C : Option Addr) (m c n cap q d : Nat) (xs : List Cls) (p : List Lin) (E : List Nat) (a : Int) (g : GoodP xs p) (ha : hasK xs a = true) (hE : ∀ x ∈ E, x < p.length) (hel : E.length ≤ 24) (w : World) (hT : Sl w B m c xs) (hR : Sl w A n cap p) (hL : Sl w C q d (nI E)) :
    Calls Try.prog 46 #[.agg #[.slice B m c], .slice A n cap, .slice C q d, .int .i64 a] w fun e w' => e = .returned (.tuple #[.int .i64 (coF xs p a E), .int .i64 (coN xs p a E)]) ∧ Le w w' := by
  obtain rfl := hR.len
  have hlen := hL.len
  rw [nI_len] at hlen
  obtain rfl := hlen
  have HGP := Lib.hid g
  have hp := g.len
  have HEL := Lib.hid hE
  have HHA := Lib.hid ha
  clear g hE
  go_enter Try.func46, Try.ntmps46
  go_wp2
  obtain ⟨ct, zt, hleB⟩ := box1 w (.slice B m c) 25
  have L0 := hleB
  clear hleB
  generalize w.alloc (.cells #[.slice B m c] 25) = W at *
  go_step3
  go_wp2
  go_step3
  go_wp2
  have T1 := hT.le L0
  have S1 := hR.le L0
  have C1 := hL.le L0
  clear hT hR hL
  go_loopw [8, 9, 10, 11, 12, 13, 14, 19] (fun s8 s9 _ _ _ _ _ q wr => ∃ j : Nat, j ≤ E.length ∧ q = .int .i64 j ∧ s8 = .int .i64 (-1) ∧ s9 = .int .i64 E.length ∧ coF xs p a E = coF xs p a (E.drop j) ∧ coN xs p a E = j + coN xs p a (E.drop j) ∧ Le W wr) (fun _ _ _ _ _ _ _ q _ => E.length - (intOf q).toNat)
  case atStart => exact ⟨0, Nat.zero_le _, rfl, rfl, rfl, rfl, (Nat.zero_add _).symm, Le.refl _⟩
  case round =>
    obtain ⟨j, hj, rfl, rfl, rfl, hr, hn, hle⟩ := hrel
    have HR := Lib.hid hr
    have HN := Lib.hid hn
    clear hr hn
    have T := T1.le hle
    have R := S1.le hle
    have S := C1.le hle
    replace ct := (hle.cell zt).trans ct
    replace zt := Nat.lt_of_lt_of_le zt hle.size
    clear T1 S1 C1
    by_cases hl : j < E.length
    · obtain ⟨b, off, rfl, hb5, hcell, -⟩ := S.int_at (k := j) (by rw [nI_len]; exact hl)
      rw [nI_at hl] at hcell
      have hx := HEL.out E[j] (List.getElem_mem hl)
      have HA := Lib.hid (coF_at (xs := xs) (p := p) (a := a) hl)
      have HB := Lib.hid (coN_at (xs := xs) (p := p) (a := a) hl)
      generalize E[j] = x at *
      obtain ⟨b2, off2, rfl, hb6, d0, d1, d2, d3, -⟩ := R.lin_at hx
      have HK := Lib.hid (knd_at hx)
      have HLB := Lib.hid (lnBc_at hx)
      have HX : Hid (ctAt xs p a x = if knd p x = 7 then ctE xs p a (exL p x) else if knd p x = 11 ∧ lnBc p x = 1 then (x : Int) else -1) := rfl
      have HGC : Hid (knd p x = 7 → goodC xs (clL p x) = true) := good_exc HGP.out hx
      have hell : (exL p x).length ≤ p.length + 1 := Nat.le_trans (exF_len _ _) (parts_len p x)
      have HFX : Hid (∀ t, (goodC xs (clL p x) && hasK xs a) = t → firstX xs (clL p x) a = cond t (firstC xs (clL p x) a 0) (-2)) := fun t => firstX_of
      have HCL : Hid (clL p x = (exL p x).map (lnA p)) := rfl
      have hx0 : (0 : Int) ≤ (x : Int) := by omega
      have hxn : (x : Int) < (p.length : Int) := by omega
      have hj0 : (0 : Int) ≤ (j : Int) := by omega
      have hjn : (j : Int) < (E.length : Int) := by omega
      generalize p[x].kind = vk at *
      generalize p[x].b = vb at *
      generalize wr = W0 at *
      by_cases h7 : vk = 7
      · subst h7
        have HX2 : Hid (ctAt xs p a x = ctE xs p a (exL p x)) := by show _ = _; rw [HX.out, if_pos HK.out]
        have HF1 : Hid (firstX xs (clL p x) a = firstC xs ((exL p x).map (lnA p)) a 0) := by show _ = _; rw [HFX.out true (by rw [HGC.out HK.out, HHA.out]; rfl), HCL.out]; rfl
        clear HX HFX HGC HLB d0 d2 d3
        go_wp2_with fail
        refine (exceptsOf_any _ p.length cap p x hx (by omega) W0 R).mono ?_
        rintro e w3 ⟨v3, u3, rfl, D3, D4, hle3⟩
        obtain ⟨A3, q3, rfl, S3, -⟩ := D3.form (by decide)
        obtain ⟨A4, q4, rfl, S4, -⟩ := D4.form (by decide)
        replace ct := (hle3.cell zt).trans ct
        replace zt := Nat.lt_of_lt_of_le zt hle3.size
        have T3 := T.le hle3
        rw [nI_len] at S3 ⊢
        generalize clL p x = cL at *
        generalize exL p x = eL at *
        clear D3 D4
        go_wp2_with fail
        refine (iFirstCatch_any B A4 m c _ q4 xs cL a w3 T3 S4).mono ?_
        rintro e w4 ⟨rfl, hle4⟩
        have L4 := hle.trans (hle3.trans hle4)
        have S5 := S3.le hle4
        rw [HF1.out]
        rcases ct_two xs p a eL 0 with ⟨h1, h2⟩ | ⟨r, hr, h1, h2⟩
        · have h1' : firstC xs (eL.map (lnA p)) a 0 = -1 := h1
          rw [h1']
          have HZ : Hid (ctAt xs p a x = -1) := by show _ = _; rw [HX2.out, h2]
          have HF : Hid (coF xs p a E = coF xs p a (E.drop (j + 1))) := by show _ = _; rw [HR.out, HA.out, HZ.out, if_neg (by decide)]
          have HG : Hid (coN xs p a E = (j + 1) + coN xs p a (E.drop (j + 1))) := by show _ = _; rw [HN.out, HB.out, HZ.out, if_neg (by decide)]; omega
          clear h1 h1' h2
          go_wp2
          go_roundw
          case rel => exact ⟨j + 1, by omega, by go_num, rfl, rfl, HF.out, HG.out, L4⟩
          case measure => simp [intOf]; omega
        · have h1' : firstC xs (eL.map (lnA p)) a 0 = (r : Int) := by rw [show (0 : Int) = ((0 : Nat) : Int) from rfl, h1]; omega
          rw [h1']
          obtain ⟨b7, off7, rfl, hb7, c7, -⟩ := S5.int_at (k := r) (by rw [nI_len]; exact hr)
          rw [nI_at hr] at c7
          have HZ : Hid (ctAt xs p a x = (eL[r] : Int)) := by show _ = _; rw [HX2.out, h2]
          have HF : Hid (coF xs p a E = (eL[r] : Int)) := by show _ = _; rw [HR.out, HA.out, HZ.out, if_pos (by omega)]
          have HG : Hid ((coN xs p a E : Int) = (j : Int)) := by show _ = _; rw [HN.out, HB.out, HZ.out, if_pos (by omega)]; rfl
          generalize eL[r] = z at *
          have hr0 : (0 : Int) ≤ (r : Int) := by omega
          have hrn : (r : Int) < (eL.length : Int) := by omega
          have hrb : decide ((0 : Int) ≤ (r : Int)) = true := decide_eq_true hr0
          clear h1 h1' h2
          go_wp2
          try rw [Exit.noGoto_ret]
          exact bodyPost_ret (v := .tuple #[.int .i64 (z : Int), .int .i64 (j : Int)]) (by simp [results, Try.results46, go_sem]) rfl ⟨tup2 HF.out.symm HG.out.symm, L0.trans L4⟩
      · have h7b := bf h7
        by_cases h11 : vk = 11
        · subst h11
          by_cases hb1 : vb = 1
          · have hb1b : (vb == 1) = true := by simpa using hb1
            have HZ : Hid (ctAt xs p a x = (x : Int)) := by show _ = _; rw [HX.out, if_neg (by rw [HK.out]; decide), if_pos ⟨HK.out, by rw [HLB.out]; exact hb1⟩]
            have HF : Hid (coF xs p a E = (x : Int)) := by show _ = _; rw [HR.out, HA.out, HZ.out, if_pos (by omega)]
            have HG : Hid ((coN xs p a E : Int) = (j : Int)) := by show _ = _; rw [HN.out, HB.out, HZ.out, if_pos (by omega)]; rfl
            clear hb1 HX HFX HGC
            go_wp2
            try rw [Exit.noGoto_ret]
            exact bodyPost_ret (v := .tuple #[.int .i64 (x : Int), .int .i64 (j : Int)]) (by simp [results, Try.results46, go_sem]) rfl ⟨tup2 HF.out.symm HG.out.symm, L0.trans hle⟩
          · have hb1b : (vb == 1) = false := bf hb1
            have HZ : Hid (ctAt xs p a x = -1) := by show _ = _; rw [HX.out, if_neg (by rw [HK.out]; decide), if_neg (by rw [HLB.out]; exact fun h => hb1 h.2)]
            have HF : Hid (coF xs p a E = coF xs p a (E.drop (j + 1))) := by show _ = _; rw [HR.out, HA.out, HZ.out, if_neg (by decide)]
            have HG : Hid (coN xs p a E = (j + 1) + coN xs p a (E.drop (j + 1))) := by show _ = _; rw [HN.out, HB.out, HZ.out, if_neg (by decide)]; omega
            clear HX HFX HGC
            go_wp2
            go_roundw
            case rel => exact ⟨j + 1, by omega, by go_num, rfl, rfl, HF.out, HG.out, hle⟩
            case measure => simp [intOf]; omega
        · have h11b := bf h11
          have HZ : Hid (ctAt xs p a x = -1) := by show _ = _; rw [HX.out, if_neg (by rw [HK.out]; exact h7), if_neg (by rw [HK.out]; exact fun h => h11 h.1)]
          have HF : Hid (coF xs p a E = coF xs p a (E.drop (j + 1))) := by show _ = _; rw [HR.out, HA.out, HZ.out, if_neg (by decide)]
          have HG : Hid (coN xs p a E = (j + 1) + coN xs p a (E.drop (j + 1))) := by show _ = _; rw [HN.out, HB.out, HZ.out, if_neg (by decide)]; omega
          clear HX HFX HGC
          go_wp2
          go_roundw
          case rel => exact ⟨j + 1, by omega, by go_num, rfl, rfl, HF.out, HG.out, hle⟩
          case measure => simp [intOf]; omega
    · obtain rfl : j = E.length := by omega
      have HF : Hid (coF xs p a E = -1) := by show _ = _; rw [HR.out, coF_end hl]
      have HG : Hid ((coN xs p a E : Int) = (E.length : Int)) := by show _ = _; rw [HN.out, coN_end hl]; rfl
      go_wp2
      try rw [Exit.noGoto_ret]
      exact bodyPost_ret (v := .tuple #[.int .i64 (-1), .int .i64 (E.length : Int)]) (by simp [results, Try.results46, go_sem]) rfl ⟨tup2 HF.out.symm HG.out.symm, L0.trans hle⟩
set_option maxHeartbeats 1000000 in
theorem iCatcherOf_any (B A : Option Addr) (m c n cap : Nat) (xs : List Cls) (p : List Lin) (i a : Int) (hm : m ≤ 1048576) (w : World) (hT : Sl w B m c xs) (hR : Sl w A n cap p) :
    Calls Try.prog 16 #[.agg #[.slice B m c], .slice A n cap, .int .i64 i, .int .i64 a] w fun e w' => e = .returned (.int .i64 (caX xs p i a)) ∧ Le w w' := by
  have HX : Hid (caX xs p i a = cond (glB xs p i && hasK xs a) (coF xs p a (encl p i.toNat)) (-1)) := rfl
  go_enter Try.func16, Try.ntmps16
  go_wp2_with fail
  obtain ⟨ct, zt, hleB⟩ := box1 w (.slice B m c) 25
  have L0 := hleB
  clear hleB
  generalize w.alloc (.cells #[.slice B m c] 25) = W at *
  refine (hasLine_any B A m c n cap xs p i hm _ (hT.le L0) (hR.le L0)).mono ?_
  rintro e w1 ⟨rfl, hle⟩
  replace ct := (hle.cell zt).trans ct
  replace zt := Nat.lt_of_lt_of_le zt hle.size
  replace L0 := L0.trans hle
  clear hle
  cases h : glB xs p i
  · have HF : Hid (caX xs p i a = -1) := by show _ = _; rw [HX.out, h]; rfl
    go_wp2
    go_ret
    exact ⟨ret_int HF.out.symm, L0⟩
  · obtain ⟨h1, k, rfl, hk⟩ := glB_iff.1 h
    have g := goodP_of h1
    have hp := g.len
    have hel := encl_len p k
    have HEL : Hid (∀ x ∈ encl p k, x < p.length) := fun x hx => by have := encl_lt x hx; omega
    have HY : Hid (caX xs p k a = cond (hasK xs a) (coF xs p a (encl p k)) (-1)) := by show _ = _; rw [HX.out, h]; rfl
    have HGP := Lib.hid g
    obtain rfl := hR.len
    have S1 := hR.le L0
    have T1 := hT.le L0
    clear HX h h1 g hT hR
    go_wp2_with fail
    refine (isClass_any B m c xs a _ T1).mono ?_
    rintro e w2 ⟨rfl, hle⟩
    replace ct := (hle.cell zt).trans ct
    replace zt := Nat.lt_of_lt_of_le zt hle.size
    replace L0 := L0.trans hle
    replace S1 := S1.le hle
    replace T1 := T1.le hle
    clear hle
    cases hk2 : hasK xs a
    · have HF : Hid (caX xs p k a = -1) := by show _ = _; rw [HY.out, hk2]; rfl
      go_wp2
      go_ret
      exact ⟨ret_int HF.out.symm, L0⟩
    · have HF : Hid (caX xs p k a = coF xs p a (encl p k)) := by show _ = _; rw [HY.out, hk2]; rfl
      have HHK := Lib.hid hk2
      clear HY hk2
      have HHO : Hid (∀ (U : World), Sl U A p.length cap p → Calls Try.prog 37 #[.slice A p.length cap, .int .i64 k] U fun e w' => ∃ v, e = .returned v ∧ Owd 3 U w' v (nI (encl p k)) ∧ Le U w') := fun U h1 => headsOf_any A p.length cap p k hk (by omega) U h1
      have ct0 : w2.drew.cell? ⟨w.heap.size, 0, none⟩ = some (.slice B m c) := ct
      have L1 := L0.drew
      have S2 := S1.le (Le.refl w2).drew
      have T2 := T1.le (Le.refl w2).drew
      generalize encl p k = E at *
      have HCC : Hid (∀ (U : World) (A2 : Option Addr) (q2 : Nat), Sl U B m c xs → Sl U A p.length cap p → Sl U A2 E.length q2 (nI E) → Calls Try.prog 46 #[.agg #[.slice B m c], .slice A p.length cap, .slice A2 E.length q2, .int .i64 a] U fun e w' => e = .returned (.tuple #[.int .i64 (coF xs p a E), .int .i64 (coN xs p a E)]) ∧ Le U w') := fun U A2 q2 h1 h2 h3 => catchAt_any B A A2 m c p.length cap E.length q2 xs p E a HGP.out HHK.out HEL.out (by omega) U h1 h2 h3
      go_wp2_with fail
      refine wp_region_noPanic ?_
      refine wp_region_held_drew (S := fun w' => w'.cell? ⟨w.heap.size, 0, none⟩ = some (.slice B m c)) (by kernel_rfl) ct0 (fun hHeld => ?_)
      refine wpAnyH_takeL (i := 0) (v := ?_) rfl (by kernel_rfl) (by kernel_rfl) (by kernel_rfl) (fun _ _ _ h => h) (Or.inl ⟨by rfl, ?_⟩) (by assumption) ?_
      rotate_left 1
      · (intro w hSw; (try dsimp only at hSw); go_simp; try with_reducible rfl)
      try simp only [Act.put, List.setIfInBounds_toArray, List.set_cons_zero, List.set_cons_succ]
      refine wpAnyH_takeL (i := 1) (v := ?_) rfl (by kernel_rfl) (by kernel_rfl) (by kernel_rfl) (fun _ _ _ h => h) (Or.inl ⟨by rfl, ?_⟩) (by assumption) ?_
      rotate_left 1
      · (intro w hSw; (try dsimp only at hSw); go_simp; try with_reducible rfl)
      try simp only [Act.put, List.setIfInBounds_toArray, List.set_cons_zero, List.set_cons_succ]
      refine wpAnyH_takeL (i := 2) (v := ?_) rfl (by kernel_rfl) (by kernel_rfl) (by kernel_rfl) (fun _ _ _ h => h) (Or.inl ⟨by rfl, ?_⟩) (by assumption) ?_
      rotate_left 1
      · (intro w hSw; (try dsimp only at hSw); go_simp; try with_reducible rfl)
      try simp only [Act.put, List.setIfInBounds_toArray, List.set_cons_zero, List.set_cons_succ]
      refine wpAnyH_takeL (i := 3) (v := ?_) rfl (by kernel_rfl) (by kernel_rfl) (by kernel_rfl) (fun _ _ _ h => h) (Or.inl ⟨by rfl, ?_⟩) (by assumption) ?_
      rotate_left 1
      · (intro w hSw; (try dsimp only at hSw); go_simp; try with_reducible rfl)
      try simp only [Act.put, List.setIfInBounds_toArray, List.set_cons_zero, List.set_cons_succ]
      refine wpAnyH_takeL (i := 5) (v := ?_) rfl (by kernel_rfl) (by kernel_rfl) (by kernel_rfl) (fun _ _ _ h => h) (Or.inl ⟨by rfl, ?_⟩) (by assumption) ?_
      rotate_left 1
      · (intro w hSw; (try dsimp only at hSw); go_simp; try with_reducible rfl)
      try simp only [Act.put, List.setIfInBounds_toArray, List.set_cons_zero, List.set_cons_succ]
      refine wpAnyH_ready (rs := [4]) (by kernel_rfl) (by simp) (AllReadyH.consL (i := 4) rfl (fun K hK => ?_) AllReadyH.nil)
      go_simp
      go_at_call 37
      refine (HHO.out _ S2).mono ?_
      rintro e w3 ⟨v3, rfl, D3, hle⟩
      obtain ⟨A3, q3, rfl, S3, -⟩ := D3.form (by decide)
      rw [nI_len] at S3 ⊢
      have ctC := (hle.cell (show w.heap.size < w2.drew.heap.size from zt)).trans ct0
      have zC := Nat.lt_of_lt_of_le (show w.heap.size < w2.drew.heap.size from zt) hle.size
      refine hK.out _ _ (ctC) (fun hHeld => ?_)
      clear hK K
      try simp only [Act.put, List.setIfInBounds_toArray, List.set_cons_zero, List.set_cons_succ]
      refine wpAnyH_ready (rs := [6]) (by kernel_rfl) (by simp) (AllReadyH.consL (i := 6) rfl (fun K hK => ?_) AllReadyH.nil)
      go_simp
      go_at_call 46
      refine (HCC.out _ A3 q3 (T2.le hle) (S2.le hle) S3).mono ?_
      rintro e w4 ⟨rfl, hle4⟩
      refine hK.out _ _ (((hle4.cell zC).trans ctC)) (fun hHeld => ?_)
      clear hK K
      try simp only [Act.put, List.setIfInBounds_toArray, List.set_cons_zero, List.set_cons_succ]
      refine wpAnyH_takeL (i := 7) (v := ?_) rfl (by kernel_rfl) (by kernel_rfl) (by kernel_rfl) (fun _ _ _ h => h) (Or.inl ⟨by rfl, ?_⟩) (by assumption) ?_
      rotate_left 1
      · (intro w hSw; (try dsimp only at hSw); go_simp; try with_reducible rfl)
      try simp only [Act.put, List.setIfInBounds_toArray, List.set_cons_zero, List.set_cons_succ]
      refine wpAnyH_takeL (i := 8) (v := ?_) rfl (by kernel_rfl) (by kernel_rfl) (by kernel_rfl) (fun _ _ _ h => h) (Or.inl ⟨by rfl, ?_⟩) (by assumption) ?_
      rotate_left 1
      · (intro w hSw; (try dsimp only at hSw); go_simp; try with_reducible rfl)
      try simp only [Act.put, List.setIfInBounds_toArray, List.set_cons_zero, List.set_cons_succ]
      refine wpAnyH_takeL (i := 9) (v := ?_) rfl (by kernel_rfl) (by kernel_rfl) (by kernel_rfl) (fun _ _ _ h => h) (Or.inl ⟨by rfl, ?_⟩) (by assumption) ?_
      rotate_left 1
      · (intro w hSw; (try dsimp only at hSw); go_simp; try with_reducible rfl)
      try simp only [Act.put, List.setIfInBounds_toArray, List.set_cons_zero, List.set_cons_succ]
      refine wpAnyH_takeL (i := 10) (v := ?_) rfl (by kernel_rfl) (by kernel_rfl) (by kernel_rfl) (fun _ _ _ h => h) (Or.inl ⟨by rfl, ?_⟩) (by assumption) ?_
      rotate_left 1
      · (intro w hSw; (try dsimp only at hSw); go_simp; try with_reducible rfl)
      try simp only [Act.put, List.setIfInBounds_toArray, List.set_cons_zero, List.set_cons_succ]
      refine wpAnyH_takeL (i := 11) (v := ?_) rfl (by kernel_rfl) (by kernel_rfl) (by kernel_rfl) (fun _ _ _ h => h) (Or.inl ⟨by rfl, ?_⟩) (by assumption) ?_
      rotate_left 1
      · (intro w hSw; (try dsimp only at hSw); go_simp; try with_reducible rfl)
      try simp only [Act.put, List.setIfInBounds_toArray, List.set_cons_zero, List.set_cons_succ]
      refine wpAnyH_done (by kernel_rfl) ?_ _
      refine NoPanic.normal ?_
      go_wp2
      go_ret
      exact ⟨ret_int HF.out.symm, L1.trans (hle.trans hle4)⟩
end
end

section
section
def oM (o : Option Nat) : Int := match o with | some k => (k : Int) | none => -1
theorem lastE_11 {p : List Lin} {i : Nat} (h : knd p i = 11) : lastE p i = some i := if_pos h
theorem lastE_no {p : List Lin} {i : Nat} (h : knd p i = 12 ∨ knd p i = 10) : lastE p i = none := by unfold lastE; rw [if_neg (by omega), if_pos h]
theorem lastE_try {p : List Lin} {i j : Nat} (h1 : knd p i ≠ 11) (h2 : ¬ (knd p i = 12 ∨ knd p i = 10)) (hj : tryAt p i = some j) : lastE p i = finE p j := by unfold lastE; rw [if_neg h1, if_neg h2, hj]
theorem finE_at {p : List Lin} {j k : Nat} (h : (parts p j).length = k + 1) : finE p j = if knd p ((parts p j)[k]'(by omega)) = 10 then some ((parts p j)[k]'(by omega)) else none := by
  have h2 : (parts p j).getLast? = some ((parts p j)[k]'(by omega)) := by
    have e : (parts p j).length - 1 = k := by omega
    rw [List.getLast?_eq_getElem?, e, List.getElem?_eq_getElem (by omega)]
  unfold finE; rw [h2]
theorem lastE_lt {p : List Lin} {i k : Nat} (hi : i < p.length) (h : lastE p i = some k) : k < p.length := by
  unfold lastE at h
  split at h
  · injection h with h; omega
  · split at h
    · cases h
    · split at h
      · next j hj =>
        have hl := (finE_10 h).2
        have hm := List.mem_of_getLast? hl
        have hj2 : j < p.length := by have := try_le i i (Nat.le_refl _) (tryAt_is hj); omega
        exact parts_lt hj2 k hm
      · cases h
set_option maxHeartbeats 1000000 in
set_option maxRecDepth 100000 in
theorem lastOf_any (A : Option Addr) (n cap : Nat) (xs : List Cls) (p : List Lin) (i : Nat) (hi : i < p.length) (g : GoodP xs p) (ho : opn (knd p i) = true) (w : World) (hR : Sl w A n cap p) :
    Calls Try.prog 74 #[.slice A n cap, .int .i64 i] w fun e w' => e = .returned (.int .i64 (oM (lastE p i))) ∧ Le w w' := by
  obtain rfl := hR.len
  have hp := g.len
  have ho' := opn_iff.1 ho
  have X11 := Lib.hid (fun h => lastE_11 (p := p) (i := i) h)
  have XNO := Lib.hid (fun h => lastE_no (p := p) (i := i) h)
  have XTR : Hid (knd p i ≠ 11 → ¬ (knd p i = 12 ∨ knd p i = 10) → ∃ j, IsTry p j i ∧ j < p.length ∧ chain p j = parts p j ∧ lastE p i = finE p j) := fun h1 h2 => by
    obtain ⟨j, hj⟩ := tryAt_has g.tries hi (by
      by_cases h7 : knd p i = 7
      · exact .inl h7
      · exact .inr (fol_iff.2 (by omega)))
    have hjl : j < p.length := by have := try_le i i (Nat.le_refl _) (tryAt_is hj); omega
    exact ⟨j, tryAt_is hj, hjl, chain_parts g.tries hjl, lastE_try h1 h2 hj⟩
  have HK := Lib.hid (knd_at hi)
  have hi0 : (0 : Int) ≤ (i : Int) := by omega
  have hin : (i : Int) < (p.length : Int) := by omega
  obtain ⟨b, off, rfl, hb, d0, d1, -⟩ := hR.lin_at hi
  clear g ho'
  generalize p[i].kind = vk at *
  clear ho
  go_enter Try.func74, Try.ntmps74
  by_cases h11 : vk = 11
  · have HF : Hid (lastE p i = some i) := X11.out (HK.out.trans h11)
    subst h11
    go_wp2
    go_ret
    exact ⟨ret_int (by rw [HF.out]; rfl), Le.refl _⟩
  have h11b : (vk == 11) = false := by simpa using h11
  by_cases h12 : vk = 12
  · have HF : Hid (lastE p i = none) := XNO.out (.inl (HK.out.trans h12))
    subst h12
    clear h11 h11b
    go_wp2
    go_ret
    exact ⟨ret_int (by rw [HF.out]; rfl), Le.refl _⟩
  have h12b : (vk == 12) = false := by simpa using h12
  by_cases h10 : vk = 10
  · have HF : Hid (lastE p i = none) := XNO.out (.inr (HK.out.trans h10))
    subst h10
    clear h11 h11b h12 h12b
    go_wp2
    go_ret
    exact ⟨ret_int (by rw [HF.out]; rfl), Le.refl _⟩
  have h10b : (vk == 10) = false := by simpa using h10
  obtain ⟨j, hit, hjl, hch, hle⟩ := XTR.out (by rw [HK.out]; exact h11) (by rw [HK.out]; omega)
  have HIT := Lib.hid hit
  have HCH := Lib.hid hch
  have HLE := Lib.hid hle
  clear X11 XNO XTR h11 h12 h10 hit hch hle
  go_wp2_with fail
  refine (tryOf_any _ p.length cap p i j hi HIT.out (by omega) w hR).mono ?_
  rintro e w2 ⟨rfl, hle2⟩
  go_wp2_with fail
  refine (chainOf_any _ p.length cap p j hjl (by omega) w2 (hR.le hle2)).mono ?_
  rintro e w3 ⟨v, rfl, D, hle3⟩
  rw [HCH.out] at D
  obtain ⟨k, hk⟩ : ∃ k, (parts p j).length = k + 1 := ⟨(parts p j).length - 1, by have := parts_pos p j; omega⟩
  have HFA := Lib.hid (finE_at hk)
  obtain ⟨A2, q2, rfl, S2, -⟩ := D.form (by decide)
  have hkl : k < (nI (parts p j)).length := by rw [nI_len]; omega
  obtain ⟨b2, off2, rfl, hb2, y0, -⟩ := S2.int_at hkl
  have hpl := parts_lt hjl ((parts p j)[k]'(by omega)) (List.getElem_mem _)
  have hplen := parts_len p j
  have hat : (nI (parts p j))[k]'hkl = (((parts p j)[k]'(by omega) : Nat) : Int) := nI_at (by omega)
  rw [hat] at y0
  rw [nI_len, hk]
  have HKL := Lib.hid (knd_at hpl)
  have L3 := hle2.trans hle3
  have S3 := hR.le L3
  generalize hz : (parts p j)[k]'(by omega) = z at *
  obtain ⟨b3, off3, e3, hb3, -, z1, -⟩ := S3.lin_at hpl
  cases e3
  have hk0 : (0 : Int) ≤ (k : Int) := by omega
  have hkn : (k : Int) < (k : Int) + 1 := by omega
  have hz0 : (0 : Int) ≤ (z : Int) := by omega
  have hzn : (z : Int) < (p.length : Int) := by omega
  have hkk : k ≤ 1048576 := by omega
  clear D S2 hat hz hk hkl hle2 hle3
  generalize p[z].kind = vz at *
  by_cases hv : vz = 10
  · have HF : Hid (lastE p i = some z) := by show _ = _; rw [HLE.out, HFA.out, if_pos (by rw [HKL.out]; exact hv)]
    subst hv
    go_wp2
    go_ret
    exact ⟨ret_int (by rw [HF.out]; rfl), L3⟩
  · have hvb : (vz == 10) = false := by simpa using hv
    have HF : Hid (lastE p i = none) := by show _ = _; rw [HLE.out, HFA.out, if_neg (by rw [HKL.out]; exact hv)]
    clear hv
    go_wp2
    go_ret
    exact ⟨ret_int (by rw [HF.out]; rfl), L3⟩
theorem wayL_drop {p : List Lin} {L : List Nat} {k : Nat} (h : k < L.length) : wayL p (L.take (k + 1)) = wayL p (L.take k) ++ (match lastE p L[k] with | some x => [x] | none => []) := by
  unfold wayL
  rw [List.take_succ_eq_append_getElem h, List.filterMap_append]
  congr 1
  simp only [List.filterMap_cons, List.filterMap_nil]
  cases lastE p L[k] <;> rfl
theorem wayL_len (p : List Lin) (L : List Nat) : (wayL p L).length ≤ L.length := List.length_filterMap_le _ _
theorem wayL_lt {p : List Lin} {L : List Nat} (hL : ∀ x ∈ L, x < p.length) : ∀ y ∈ wayL p L, y < p.length := fun y hy => by
  obtain ⟨x, hx, h⟩ := List.mem_filterMap.1 hy
  exact lastE_lt (hL x hx) h
set_option maxHeartbeats 2000000 in
set_option maxRecDepth 100000 in
theorem swayOut_any (A B : Option Addr) (n cap m c : Nat) (xs : List Cls) (p : List Lin) (L : List Nat) (hL : ∀ x ∈ L, x < p.length) (hLl : L.length ≤ 1048576) (g : GoodP xs p) (ho : ∀ x ∈ L, opn (knd p x) = true) (w : World) (hR : Sl w A n cap p) (hS : Sl w B m c (nI L)) :
    Calls Try.prog 42 #[.slice A n cap, .slice B m c] w fun e w' => ∃ v, e = .returned v ∧ Owd 3 w w' v (nI (wayL p L)) ∧ Le w w' := by
  have hml := hS.len
  rw [nI_len] at hml
  subst hml
  obtain ⟨i0, hq, hz0, hz1, hz2⟩ := info_parts intInfoB
  have hp := g.len
  have HO := Lib.hid ho
  have HLT := Lib.hid hL
  have HG := Lib.hid g
  have HLW := Lib.hid (fun k (h : k < L.length) => wayL_drop (p := p) (L := L) h)
  have HLN := Lib.hid (fun k => wayL_len p (L.take k))
  have HOK : Hid (∀ y ∈ nI (wayL p L), Enc.ok y) := nI_ok (wayL_lt hL) (by omega)
  clear ho hL g
  go_enter Try.func42, Try.ntmps42
  have LE := Le.new w (.cells #[] 3)
  have OE : (w.alloc (.cells #[] 3)).ownsRow w.heap.size 3 1 (.slice (some ⟨w.heap.size, 0, none⟩) 0 0) 0 [] := own_empty (Nat.le_refl _) rfl
  go_wp2
  go_loopw [5, 6] (fun v kk wr => ∃ k : Nat, k ≤ L.length ∧ kk = .int .i64 k ∧ wr.ownsRow w.heap.size 3 1 v (wayL p (L.take k)).length ((nI (wayL p (L.take k))).flatMap Enc.cells) ∧ Le w wr) (fun _ kk _ => L.length - (intOf kk).toNat)
  case atStart => exact ⟨0, Nat.zero_le _, rfl, OE, LE⟩
  case round =>
    obtain ⟨k, hk, rfl, O1, L1⟩ := hrel
    have T := hR.le L1
    have S := hS.le L1
    clear OE LE
    by_cases hlt : k < L.length
    · have hol : (wayL p (L.take k)).length ≤ 1048576 := by have := HLN.out k; rw [List.length_take] at this; omega
      have HST := Lib.hid (HLW.out k hlt)
      obtain ⟨b, off, e1, hb, c0, -⟩ := S.int_at (k := k) (by rw [nI_len]; exact hlt)
      cases e1
      rw [nI_at hlt] at c0
      have hxl := HLT.out _ (List.getElem_mem hlt)
      have hxo := Lib.hid (HO.out _ (List.getElem_mem hlt))
      generalize L[k] = x at *
      generalize hWT : wayL p (L.take k) = WT at *
      clear hWT
      go_wp2_with fail
      refine (lastOf_any A n cap xs p x hxl HG.out hxo.out wr T).mono ?_
      rintro e w2 ⟨rfl, hle⟩
      have O2 := own_le O1 hle
      have L2 := L1.trans hle
      clear O1
      cases hx : lastE p x with
      | none =>
        have HF : Hid (wayL p (L.take (k + 1)) = WT) := by show _ = _; rw [HST.out, hx]; exact List.append_nil _
        have hm1 : oM none = -1 := rfl
        rw [hm1]
        clear hx
        go_wp2
        go_roundw
        case rel => exact ⟨k + 1, by omega, by go_num, by rw [HF.out]; exact O2, L2⟩
        case measure => simp [intOf]; omega
      | some y =>
        have HF : Hid (wayL p (L.take (k + 1)) = WT ++ [y]) := by show _ = _; rw [HST.out, hx]
        have hm1 : oM (some y) = (y : Int) := rfl
        have hyl := lastE_lt hxl hx
        have hy0 : (0 : Int) ≤ (y : Int) := by omega
        have hoky : Enc.ok (y : Int) := ⟨by omega, by omega⟩
        rw [hm1]
        clear hx
        go_wp2_with (at_builtin; refine wpList_append_sl rfl _ _ 29 rfl w.heap.size 3 i0 _ 8 Try.underlying29 hq hz0 hz1 hz2 rfl _ WT.length (nI WT) rfl (O2.alloc _) _ 1 1 [(y : Int)] rfl (sl_one (y : Int) rfl hoky rfl) (by unfold maxLen; omega) (by omega) (L2.alloc _).size ?_; intro v1 w3 O3 hg3 _; have L3 := (L2.alloc _).grown hg3 (fun k hk => (O2.lt k hk).1); clear hg3)
        go_roundw
        case rel => exact ⟨k + 1, by omega, by go_num, by rw [HF.out, nI_snoc, List.length_append]; exact O3, L3⟩
        case measure => simp [intOf]; omega
    · have HF : Hid (∀ v, wr.ownsRow w.heap.size 3 1 v (wayL p (L.take k)).length ((nI (wayL p (L.take k))).flatMap Enc.cells) → Owd 3 w wr v (nI (wayL p L))) := fun v hv => by
        rw [List.take_of_length_le (by omega)] at hv
        exact ⟨by rw [nI_len]; exact hv, HOK.out⟩
      go_wp2
      go_ret
      exact ⟨_, rfl, HF.out _ O1, L1⟩
end

section
open Go.RowKit Go.Maps
theorem lawI : Keyed Try.prog 3 := int_keyed Try.underlying3
theorem zeroI (w : World) : (zeroValue 3).run Try.prog w = .ok (.int .i64 0) w := by kernel_rfl
theorem wfI {n : Nat} (h : n ≤ 1048576) : (Lit.int .i64 (n : Int)).wf = true := by simp [Lit.wf, IntKind.min, IntKind.max, IntKind.signed, IntKind.bits]; omega
/-- a map reads as a function of numbers -/
def MapIs (D : DataW Unit) (f : Nat → Option Nat) : Prop := IsMap D ∧ ∀ x : Nat, Go.Maps.has D (.int .i64 x) = (f x).isSome ∧ ∀ y, f x = some y → D.atKey (.int .i64 x) (.lit (.int .i64 0)) = .lit (.int .i64 y)
theorem MapIs.empty : MapIs (.map []) (fun _ => none) := ⟨isMap_empty, fun _ => ⟨rfl, fun _ h => nomatch h⟩⟩
theorem MapIs.put {D : DataW Unit} {f : Nat → Option Nat} (h : MapIs D f) (x y : Nat) {g : Nat → Option Nat} (hg : ∀ z, g z = if z = x then some y else f z) : MapIs (D.put (.int .i64 x) (.lit (.int .i64 y))) g := by
  refine ⟨h.1.put _ _, fun z => ?_⟩
  rw [hg z]
  by_cases e : z = x
  · subst e
    rw [if_pos rfl]
    exact ⟨has_put_same (k := .int .i64 (z : Int)) h.1 trivial _, fun y' hy => by injection hy with hy; subst hy; exact atKey_put_same (k := .int .i64 (z : Int)) h.1 trivial _ _⟩
  · rw [if_neg e]
    have hne : (Lit.int .i64 (z : Int)) ≠ Lit.int .i64 (x : Int) := fun e2 => e (by injection e2 with _ e2; omega)
    exact ⟨(has_put_other hne _).trans (h.2 z).1, fun y' hy => (atKey_put_other hne _ _).trans ((h.2 z).2 y' hy)⟩
theorem MapIs.congr {D : DataW Unit} {f g : Nat → Option Nat} (h : MapIs D f) (e : ∀ z, g z = f z) : MapIs D g := by
  have : g = f := funext e
  rw [this]; exact h
/-- the lines of a try but the last one put into the map, some of them yet -/
def tkE (f : Nat → Option Nat) (L : List Nat) (l t z : Nat) : Option Nat := if z ∈ L.take t then some l else f z
theorem tkE_0 (f : Nat → Option Nat) (L : List Nat) (l z : Nat) : tkE f L l 0 z = f z := by unfold tkE; rw [if_neg (by simp)]
theorem tkE_succ (f : Nat → Option Nat) (L : List Nat) (l : Nat) {t : Nat} (h : t < L.length) (z : Nat) : tkE f L l (t + 1) z = if z = L[t] then some l else tkE f L l t z := by
  unfold tkE
  rw [List.take_succ_eq_append_getElem h]
  by_cases e : z = L[t]
  · rw [if_pos (by rw [e]; exact List.mem_append.2 (.inr (List.mem_singleton.2 rfl))), if_pos e]
  · rw [if_neg e]
    by_cases h2 : z ∈ L.take t
    · rw [if_pos h2, if_pos (List.mem_append.2 (.inl h2))]
    · rw [if_neg h2, if_neg (fun h3 => by rcases List.mem_append.1 h3 with h3 | h3; exact h2 h3; exact e (by simpa using h3))]
theorem eGo_11 {p : List Lin} {k : Nat} (h : knd p k = 11) (x : Nat) : eGo p (k + 1) x = if x = k then some k else eGo p k x := if_pos h
theorem eGo_no {p : List Lin} {k : Nat} (h : knd p k ≠ 11) (h7 : knd p k ≠ 7) (x : Nat) : eGo p (k + 1) x = eGo p k x := by show (if _ then _ else _) = _; rw [if_neg h, if_neg h7]
theorem eGo_7n {p : List Lin} {k : Nat} (h7 : knd p k = 7) (hf : finE p k = none) (x : Nat) : eGo p (k + 1) x = eGo p k x := by show (if _ then _ else _) = _; rw [if_neg (by omega), if_pos h7, hf]
theorem eGo_7s {p : List Lin} {k l : Nat} (h7 : knd p k = 7) (hf : finE p k = some l) (x : Nat) : eGo p (k + 1) x = tkE (eGo p k) (parts p k) l ((parts p k).length - 1) x := by show (if _ then _ else _) = _; rw [if_neg (by omega), if_pos h7, hf]; rfl
def EndsOut (p : List Lin) (w : World) (e : Ending) (w' : World) : Prop := ∃ (b m : Nat) (D : DataW Unit), e = .returned (.map (some b)) ∧ w'.ownsMap Try.prog 3 (plainElem Try.prog 3) b m D ∧ MapIs D (eGo p p.length) ∧ Le w w'
set_option maxHeartbeats 4000000 in
set_option maxRecDepth 100000 in
theorem endsOf_any (A : Option Addr) (n cap : Nat) (p : List Lin) (hp : p.length ≤ 24) (w : World) (hR : Sl w A n cap p) : Calls Try.prog 72 #[.slice A n cap] w (EndsOut p w) := by
  obtain rfl := hR.len
  have hmm := @run_makeMap Try.prog
  go_enter Try.func72, Try.ntmps72
  go_wp2
  have HM0 := World.ownsMap_made (H := Unit) w Try.prog 3 (plainElem Try.prog 3)
  have L0 := Le.new w (.map #[] 0)
  go_loopw [4, 5, 6, 7, 9, 13] (fun _ _ _ _ _ q wr => ∃ (k m : Nat) (D : DataW Unit), k ≤ p.length ∧ q = .int .i64 k ∧ m ≤ k * 100 ∧ wr.ownsMap Try.prog 3 (plainElem Try.prog 3) w.heap.size m D ∧ MapIs D (eGo p k) ∧ Le w wr) (fun _ _ _ _ _ q _ => p.length - (intOf q).toNat)
  case atStart => exact ⟨0, 0, _, Nat.zero_le _, rfl, Nat.le_refl _, HM0, MapIs.empty, L0⟩
  case round =>
    obtain ⟨k, m, D, hk, rfl, hm, hown, hD, L⟩ := hrel
    clear HM0 L0 hmm
    have HD := Lib.hid hD
    have T := hR.le L
    clear hD
    by_cases hlt : k < p.length
    · obtain ⟨b, off, rfl, hb, d0, d1, d2, d3, -⟩ := T.lin_at hlt
      have HK := Lib.hid (knd_at hlt)
      have X11 := Lib.hid (eGo_11 (p := p) (k := k))
      have XNO := Lib.hid (eGo_no (p := p) (k := k))
      have X7N := Lib.hid (eGo_7n (p := p) (k := k))
      have X7S := Lib.hid (fun l => eGo_7s (p := p) (k := k) (l := l))
      have hk0 : (0 : Int) ≤ (k : Int) := by omega
      have hkn : (k : Int) < (p.length : Int) := by omega
      generalize p[k].depth = vd at *
      generalize p[k].kind = vk at *
      generalize p[k].a = va at *
      generalize p[k].b = vb at *
      obtain ⟨x0, x1, z0, hle2⟩ := box4 wr (.int .i64 vd) (.int .i64 vk) (.int .i64 va) (.int .i64 vb) 34
      have hown2 := hown.alloc (.cells #[.int .i64 vd, .int .i64 vk, .int .i64 va, .int .i64 vb] 34)
      have L2 := L.trans hle2
      have T2 := T.le hle2
      have wfk := wfI (n := k) (by omega)
      by_cases h11 : vk = 11
      · have HE : Hid (∀ x, eGo p (k + 1) x = if x = k then some k else eGo p k x) := X11.out (by rw [HK.out]; exact h11)
        subst h11
        clear X11 XNO X7N X7S
        go_wp2_with (at_mapUpdate; refine wpList_mapUpdate_own _ rfl _ _ _ 91 rfl 3 3 lawI Try.underlying91 _ w.heap.size m _ rfl hown2 (by unfold maxLen; omega) _ _ _ rfl rfl (keyOf_int_mk Try.underlying3 wfk) _ [] (plainElem_int Try.underlying3 wfk) ?_; intro w1 hown1 hgrow1; have L3 := L2.grown hgrow1 (fun j hj => by injection hj with hj; omega))
        go_roundw
        case rel => exact ⟨k + 1, m + 1, _, by omega, by go_num, by omega, hown1, HD.out.put k k HE.out, L3⟩
        case measure => simp [intOf]; omega
      · have h11b : (vk == 11) = false := by simpa using h11
        by_cases h7 : vk = 7
        · have h7k := HK.out.trans h7
          subst h7
          have HN := Lib.hid (X7N.out h7k)
          have HS := Lib.hid (fun l h => X7S.out l h7k h)
          obtain ⟨j, hj⟩ : ∃ j, (parts p k).length = j + 1 := ⟨(parts p k).length - 1, by have := parts_pos p k; omega⟩
          have HFA := Lib.hid (finE_at hj)
          have hplen := parts_len p k
          have HPL := Lib.hid (parts_lt hlt)
          clear X11 XNO X7N X7S h11 h7k
          go_wp2_with fail
          refine (partsOf_any _ p.length cap p k hlt (by omega) _ T2).mono ?_
          rintro e w3 ⟨v, rfl, D3, hle3⟩
          have own3 := hown2.kept (w' := w3) (row := none) ⟨hle3.os, hle3.tape, hle3.output, hle3.size, fun i hi _ => Below.block hle3 i hi⟩ (by simp)
          have L3 := L2.trans hle3
          have T3 := T2.le hle3
          obtain ⟨A3, q3, rfl, S3, hB3⟩ := D3.form (by decide)
          have hjl : j < (nI (parts p k)).length := by rw [nI_len]; omega
          obtain ⟨b3, off3, rfl, hb3, c3, -⟩ := S3.int_at hjl
          have hjp : j < (parts p k).length := by omega
          rw [nI_at hjp] at c3
          rw [nI_len, hj] at S3 ⊢
          have hzl : (parts p k)[j] < p.length := HPL.out _ (List.getElem_mem hjp)
          have hex : ∃ Z, (parts p k)[j] = Z := ⟨_, rfl⟩
          obtain ⟨Z, hZ0⟩ := hex
          have HFA2 : Hid (finE p k = if knd p Z = 10 then some Z else none) := by show _ = _; rw [HFA.out, hZ0]
          rw [hZ0] at c3 hzl
          clear HFA hZ0
          have HKZ := Lib.hid (knd_at hzl)
          obtain ⟨bz, offz, ez, hbz, -, z1, -⟩ := T3.lin_at hzl
          cases ez
          have hj0 : (0 : Int) ≤ (j : Int) := by omega
          have hjn : (j : Int) < (j : Int) + 1 := by omega
          have hz0 : (0 : Int) ≤ (Z : Int) := by omega
          have hzn : (Z : Int) < (p.length : Int) := by omega
          have hjk : j ≤ 100 := by omega
          generalize p[Z].kind = vz at *
          have hb3w : w.heap.size < b3 := by have h1 := (hB3 b3 rfl).1; have h2 := hown2.lt; omega
          clear D3 x0 x1 z0 hle2 hle3 hown hown2 L L2 hB3
          by_cases hv : vz = 10
          · have hf : finE p k = some Z := by rw [HFA2.out, if_pos (by rw [HKZ.out]; exact hv)]
            have HE := Lib.hid (HS.out Z hf)
            have S4 := S3.take_ j (by omega)
            have hjq : j ≤ q3 := by have := S3.cap_; omega
            have wfz := wfI (n := Z) (by omega)
            have HTS := Lib.hid (fun t (h : t < (parts p k).length) => tkE_succ (eGo p k) (parts p k) Z h)
            have HT0 : Hid (MapIs D (tkE (eGo p k) (parts p k) Z 0)) := HD.out.congr (tkE_0 _ _ _)
            have HJ := Lib.hid hj
            subst hv
            clear hf HN HS HFA2 hjl hjp hj
            go_wp2
            go_loopw [9, 48] (fun _ q wx => ∃ (t m2 : Nat) (D2 : DataW Unit), t ≤ j ∧ q = .int .i64 t ∧ m2 ≤ k * 100 + t ∧ wx.ownsMap Try.prog 3 (plainElem Try.prog 3) w.heap.size m2 D2 ∧ MapIs D2 (tkE (eGo p k) (parts p k) Z t) ∧ w3.grownBy wx (some w.heap.size)) (fun _ q _ => j - (intOf q).toNat)
            case atStart => exact ⟨0, m, D, Nat.zero_le _, rfl, by omega, own3, HT0.out, World.grownBy.refl _ _⟩
            case round =>
              obtain ⟨t, m2, D2, ht, rfl, hm2, hown4, hD4, hgr⟩ := hrel
              have HD4 := Lib.hid hD4
              clear hD4 own3 HT0 HD
              by_cases hlt2 : t < j
              · have htp : t < (parts p k).length := by have := HJ.out; omega
                have HST := Lib.hid (HTS.out t htp)
                obtain ⟨b4, off4, e4, -, c4, -⟩ := S3.int_at (k := t) (by rw [nI_len]; exact htp)
                cases e4
                rw [nI_at htp] at c4
                have hxl := HPL.out _ (List.getElem_mem htp)
                generalize (parts p k)[t] = x at *
                have c5 := (hgr.cell (a := ⟨b3, off3 + t, none⟩) c4 (fun e => by have e2 : b3 = w.heap.size := (by injection e); omega))
                have wfx := wfI (n := x) (by omega)
                have ht0 : (0 : Int) ≤ (t : Int) := by omega
                have htj : (t : Int) < (j : Int) := by omega
                go_wp2_with (at_mapUpdate; refine wpList_mapUpdate_own _ rfl _ _ _ 91 rfl 3 3 lawI Try.underlying91 _ w.heap.size m2 _ rfl hown4 (by unfold maxLen; omega) _ _ _ rfl rfl (keyOf_int_mk Try.underlying3 wfx) _ [] (plainElem_int Try.underlying3 wfz) ?_; intro w1 hown1 hgrow1; have hgr2 := hgr.trans hgrow1)
                go_roundw
                case rel => exact ⟨t + 1, m2 + 1, _, by omega, by go_num, by omega, hown1, HD4.out.put x Z HST.out, hgr2⟩
                case measure => simp [intOf]; omega
              · obtain rfl : t = j := by omega
                have HF : Hid (∀ z, eGo p (k + 1) z = tkE (eGo p k) (parts p k) Z t z) := fun z => by rw [HE.out z, HJ.out, Nat.add_sub_cancel]
                have L5 := L3.grown hgr (fun j hj => by injection hj with hj; omega)
                go_wp2
                go_roundw
                case rel => exact ⟨k + 1, m2, D2, by omega, by go_num, by omega, hown4, HD4.out.congr HF.out, L5⟩
                case measure => simp [intOf]; omega
          · have hvb : (vz != 10) = true := by simpa using hv
            have hf : finE p k = none := by rw [HFA2.out, if_neg (by rw [HKZ.out]; exact hv)]
            have HE := Lib.hid (HN.out hf)
            clear hf HN HS HFA2 hv
            go_wp2
            go_roundw
            case rel => exact ⟨k + 1, m, D, by omega, by go_num, by omega, own3, HD.out.congr HE.out, L3⟩
            case measure => simp [intOf]; omega
        · have h7b : (vk == 7) = false := by simpa using h7
          have HE : Hid (∀ x, eGo p (k + 1) x = eGo p k x) := XNO.out (by rw [HK.out]; exact h11) (by rw [HK.out]; exact h7)
          clear X11 XNO X7N X7S h11 h7
          go_wp2
          go_roundw
          case rel => exact ⟨k + 1, m, D, by omega, by go_num, by omega, hown2, HD.out.congr HE.out, L2⟩
          case measure => simp [intOf]; omega
    · obtain rfl : k = p.length := by omega
      go_wp2
      go_ret
      exact ⟨_, m, D, rfl, hown, HD.out, L⟩
set_option maxHeartbeats 4000000 in
set_option maxRecDepth 100000 in
theorem wayThrough_any (A B : Option Addr) (n cap m c : Nat) (xs : List Cls) (p : List Lin) (L : List Nat) (hL : ∀ x ∈ L, x < p.length) (hLl : L.length ≤ 1048576) (g : GoodP xs p) (ho : ∀ x ∈ L, opn (knd p x) = true) (w : World) (hR : Sl w A n cap p) (hS : Sl w B m c (nI L)) :
    Calls Try.prog 39 #[.slice A n cap, .slice B m c] w fun e w' => ∃ v, e = .returned v ∧ Owd 3 w w' v (nI (wayL p L)) ∧ Le w w' := by
  have hml := hS.len
  rw [nI_len] at hml
  subst hml
  obtain ⟨i0, hq, hz0, hz1, hz2⟩ := info_parts intInfoB
  have hp := g.len
  have HLT := Lib.hid hL
  have HLA : Hid (∀ x ∈ L, eGo p p.length x = lastE p x) := fun x hx => eGo_last g (hL x hx) (ho x hx)
  have HLW := Lib.hid (fun k (h : k < L.length) => wayL_drop (p := p) (L := L) h)
  have HLN := Lib.hid (fun k => wayL_len p (L.take k))
  have HOK : Hid (∀ y ∈ nI (wayL p L), Enc.ok y) := nI_ok (wayL_lt hL) (by omega)
  clear ho hL g
  go_enter Try.func39, Try.ntmps39
  go_wp2_with fail
  refine (endsOf_any A n cap p hp w hR).mono ?_
  rintro e w1 ⟨mb, mn, D, rfl, hown, hD, hle⟩
  have S1 := hS.le hle
  have hs1 := hle.size
  have HDM := Lib.hid hD
  have hbl := hown.lt
  clear hD
  go_wp2
  go_loopw [6, 8, 9, 10, 15] (fun v _ _ _ kk wr => ∃ k : Nat, k ≤ L.length ∧ kk = .int .i64 k ∧ wr.ownsRow w1.heap.size 3 1 v (wayL p (L.take k)).length ((nI (wayL p (L.take k))).flatMap Enc.cells) ∧ Le w1 wr) (fun _ _ _ _ kk _ => L.length - (intOf kk).toNat)
  case atStart => exact ⟨0, Nat.zero_le _, rfl, World.ownsRow_nil _ _ _ _, Le.refl _⟩
  case round =>
    obtain ⟨k, hk, rfl, O1, L1⟩ := hrel
    have S := S1.le L1
    have own1 := hown.kept (w' := wr) (row := none) ⟨L1.os, L1.tape, L1.output, L1.size, fun i hi _ => Below.block L1 i hi⟩ (by simp)
    clear hown S1
    by_cases hlt : k < L.length
    · have hol : (wayL p (L.take k)).length ≤ 1048576 := by have := HLN.out k; rw [List.length_take] at this; omega
      have HST := Lib.hid (HLW.out k hlt)
      obtain ⟨b, off, e1, hb, c0, -⟩ := S.int_at (k := k) (by rw [nI_len]; exact hlt)
      cases e1
      rw [nI_at hlt] at c0
      have hxl := HLT.out _ (List.getElem_mem hlt)
      have HXL := Lib.hid (HLA.out _ (List.getElem_mem hlt))
      generalize L[k] = x at *
      generalize hWT : wayL p (L.take k) = WT at *
      clear hWT
      have hk0 : (0 : Int) ≤ (k : Int) := by omega
      have hkn : (k : Int) < (L.length : Int) := by omega
      have wfx := wfI (n := x) (by omega)
      have hh := (HDM.out.2 x).1
      have hv := (HDM.out.2 x).2
      rw [HXL.out] at hh hv
      have HV := Lib.hid hv
      have HH := Lib.hid hh
      clear hh hv
      cases hx : lastE p x with
      | none =>
        have HF : Hid (wayL p (L.take (k + 1)) = WT) := by show _ = _; rw [HST.out, hx]; exact List.append_nil _
        have hhf : Go.Maps.has D (.int .i64 x) = false := by rw [HH.out, hx]; rfl
        clear hx
        go_wp2_with (at_lookup; refine wpList_lookup_own_ok_int _ rfl _ _ 91 rfl 3 3 .i64 lawI Try.underlying91 Try.underlying3 (zeroI _) mb mn D rfl own1 _ _ rfl (keyOf_int_mk Try.underlying3 wfx) ?_; intro c hat hwc; rw [hhf])
        go_roundw
        case rel => exact ⟨k + 1, by omega, by go_num, by rw [HF.out]; exact O1, L1⟩
        case measure => simp [intOf]; omega
      | some y =>
        have HF : Hid (wayL p (L.take (k + 1)) = WT ++ [y]) := by show _ = _; rw [HST.out, hx]
        have hhf : Go.Maps.has D (.int .i64 x) = true := by rw [HH.out, hx]; rfl
        have HAT := Lib.hid (HV.out y hx)
        have hyl := lastE_lt hxl hx
        have hoky : Enc.ok (y : Int) := ⟨by omega, by omega⟩
        clear hx
        go_wp2_with (first
          | (at_lookup; refine wpList_lookup_own_ok_int _ rfl _ _ 91 rfl 3 3 .i64 lawI Try.underlying91 Try.underlying3 (zeroI _) mb mn D rfl own1 _ _ rfl (keyOf_int_mk Try.underlying3 wfx) ?_; intro cc hat hwc; rw [hhf]; rw [HAT.out] at hat; obtain rfl : cc = (y : Int) := by (injection hat with hat; injection hat with _ hat; exact hat.symm))
          | (at_builtin; refine wpList_append_sl rfl _ _ 29 rfl w1.heap.size 3 i0 _ 8 Try.underlying29 hq hz0 hz1 hz2 rfl _ WT.length (nI WT) rfl (O1.alloc _) _ 1 1 [(y : Int)] rfl (sl_one (y : Int) rfl hoky rfl) (by unfold maxLen; omega) (by omega) (L1.alloc _).size ?_; intro v1 w3 O3 hg3 _; have L3 := (L1.alloc _).grown hg3 (fun k hk => (O1.lt k hk).1); clear hg3))
        go_roundw
        case rel => exact ⟨k + 1, by omega, by go_num, by rw [HF.out, nI_snoc, List.length_append]; exact O3, L3⟩
        case measure => simp [intOf]; omega
    · have HF : Hid (∀ v, wr.ownsRow w1.heap.size 3 1 v (wayL p (L.take k)).length ((nI (wayL p (L.take k))).flatMap Enc.cells) → Owd 3 w wr v (nI (wayL p L))) := fun v hv => by
        rw [List.take_of_length_le (by omega)] at hv
        exact ⟨by rw [nI_len]; exact own_mono hv hs1, HOK.out⟩
      go_wp2
      go_ret
      exact ⟨_, rfl, HF.out _ O1, hle.trans L1⟩
end

section
def woX (xs : List Cls) (p : List Lin) (i : Int) : List Int := cond (glB xs p i) (nI (wayL p (encl p i.toNat))) []
theorem woX_len (xs : List Cls) (p : List Lin) (i : Int) : (woX xs p i).length ≤ 1048576 := by
  unfold woX
  cases h : glB xs p i
  · simp
  · obtain ⟨h1, k, rfl, hk⟩ := glB_iff.1 h
    have := (goodP_of h1).len
    have := encl_len p k
    have := wayL_len p (encl p k)
    show (nI _).length ≤ _
    rw [nI_len, Int.toNat_natCast]; omega
def wlX (xs : List Cls) (p : List Lin) (i : Int) : List Int := cond (glB xs p i && decide (0 ≤ loN p (encl p i.toNat) 0)) (nI (wayL p ((encl p i.toNat).take (loN p (encl p i.toNat) 0).toNat))) []
theorem wlX_len (xs : List Cls) (p : List Lin) (i : Int) : (wlX xs p i).length ≤ 1048576 := by
  unfold wlX
  cases h : (glB xs p i && decide (0 ≤ loN p (encl p i.toNat) 0))
  · simp
  · obtain ⟨h1, k, rfl, hk⟩ := glB_iff.1 (Bool.and_eq_true_iff.1 h).1
    have := (goodP_of h1).len
    have := encl_len p k
    have := wayL_len p ((encl p k).take (loN p (encl p k) 0).toNat)
    rw [List.length_take] at this
    show (nI _).length ≤ _
    rw [nI_len, Int.toNat_natCast]; omega
def wfX (xs : List Cls) (p : List Lin) (i a : Int) : List Int := cond (grB xs p i a) (nI (wayL p ((encl p i.toNat).take (coN xs p a (encl p i.toNat))))) []
theorem wfX_len (xs : List Cls) (p : List Lin) (i a : Int) : (wfX xs p i a).length ≤ 1048576 := by
  unfold wfX
  cases h : grB xs p i a
  · simp
  · unfold grB at h
    obtain ⟨h1, k, rfl, hk⟩ := glB_iff.1 (Bool.and_eq_true_iff.1 h).1
    have := (goodP_of h1).len
    have := encl_len p k
    have := wayL_len p ((encl p k).take (coN xs p a (encl p k)))
    rw [List.length_take] at this
    show (nI _).length ≤ _
    rw [nI_len, Int.toNat_natCast]; omega
theorem loA_12 (p : List Lin) : ∀ (L : List Nat) (y : Nat), loA p L = (y : Int) → knd p y = 12 ∧ y ∈ L
  | [], y, h => by have : loA p [] = -1 := rfl; omega
  | x :: r, y, h => by
    unfold loA at h
    by_cases hx : knd p x = 12
    · rw [if_pos hx] at h
      have e : x = y := by omega
      subst e
      exact ⟨hx, List.mem_cons_self ..⟩
    · rw [if_neg hx] at h
      have := loA_12 p r y h
      exact ⟨this.1, List.mem_cons_of_mem _ this.2⟩
theorem lo_zero (p : List Lin) (L : List Nat) : (loN p L 0 = -1 ∧ loA p L = -1) ∨ ∃ j : Nat, ∃ h : j < L.length, loN p L 0 = (j : Int) ∧ loA p L = (L[j] : Int) := by
  rcases lo_two p L 0 with h | ⟨j, hj, h1, h2⟩
  · exact .inl h
  · exact .inr ⟨j, hj, by have e : ((0 : Nat) : Int) = 0 := rfl; rw [e] at h1; omega, h2⟩
theorem idx_lo (p : List Lin) : ∀ (L : List Nat) (z : Int), 0 ≤ loA p L → idx (nI L) (loA p L) z = loN p L z
  | [], _, h => by have : loA p [] = -1 := rfl; omega
  | x :: r, z, h => by
    show (if (x : Int) = loA p (x :: r) then z else idx (nI r) (loA p (x :: r)) (z + 1)) = loN p (x :: r) z
    unfold loN
    unfold loA at h ⊢
    by_cases hx : knd p x = 12
    · rw [if_pos hx, if_pos rfl, if_pos hx]
    · rw [if_neg hx] at h ⊢
      rw [if_neg hx]
      have hne : ¬ (x : Int) = loA p r := fun e => hx (loA_12 p r x e.symm).1
      rw [if_neg hne]
      exact idx_lo p r (z + 1) h
set_option maxHeartbeats 1000000 in
theorem iWayOut_any (B A : Option Addr) (m c n cap : Nat) (xs : List Cls) (p : List Lin) (i : Int) (hz : m ≤ 1048576) (w : World) (hT : Sl w B m c xs) (hR : Sl w A n cap p) :
    Calls Try.prog 13 #[.agg #[.slice B m c], .slice A n cap, .int .i64 i] w fun e w' => ∃ v, e = .returned v ∧ Owd 3 w w' v (woX xs p i) ∧ Le w w' := by
  have HX : Hid (woX xs p i = cond (glB xs p i) (nI (wayL p (encl p i.toNat))) []) := rfl
  go_enter Try.func13, Try.ntmps13
  go_wp2_with fail
  obtain ⟨ct, zt, hleB⟩ := box1 w (.slice B m c) 25
  have L0 := hleB
  clear hleB
  generalize w.alloc (.cells #[.slice B m c] 25) = W at *
  refine (hasLine_any B A m c n cap xs p i hz _ (hT.le L0) (hR.le L0)).mono ?_
  rintro e w1 ⟨rfl, hle⟩
  have L1 := L0.trans hle
  cases h : glB xs p i
  · have HO : Hid (Owd 3 w w1 (.slice none 0 0) (woX xs p i)) := by show Owd _ _ _ _ _; rw [HX.out, h]; exact Owd.nil _ _ _
    go_wp2
    go_ret
    exact ⟨_, rfl, HO.out, L1⟩
  · obtain ⟨h1, k, rfl, hk⟩ := glB_iff.1 h
    have g := goodP_of h1
    have hp := g.len
    have HG := Lib.hid g
    have HEO := Lib.hid (encl_opn g hk)
    have HEL : Hid (∀ x ∈ encl p k, x < p.length) := fun x hx => by have := encl_lt x hx; omega
    have hel := encl_len p k
    clear g
    go_wp2_with fail
    refine (headsOf_any A n cap p k hk (by omega) w1 (hR.le L1)).mono ?_
    rintro e w2 ⟨v, rfl, D, hle2⟩
    obtain ⟨A2, q2, rfl, S2, -⟩ := D.form (by decide)
    go_wp2_with fail
    refine (wayThrough_any A A2 n cap _ q2 xs p (encl p k) HEL.out (by omega) HG.out HEO.out w2 (hR.le (L1.trans hle2)) S2).mono ?_
    rintro e w3 ⟨v, rfl, D3, hle3⟩
    have HO : Hid (Owd 3 w w3 v (woX xs p k)) := by show Owd _ _ _ _ _; rw [HX.out, h, Int.toNat_natCast]; exact D3.mono (L1.trans hle2)
    go_wp2
    go_ret
    exact ⟨_, rfl, HO.out, (L1.trans hle2).trans hle3⟩
/-! WayToLoop -/
set_option maxHeartbeats 1000000 in
theorem iWayToLoop_any (B A : Option Addr) (m c n cap : Nat) (xs : List Cls) (p : List Lin) (i : Int) (hz : m ≤ 1048576) (w : World) (hT : Sl w B m c xs) (hR : Sl w A n cap p) :
    Calls Try.prog 10 #[.agg #[.slice B m c], .slice A n cap, .int .i64 i] w fun e w' => ∃ v, e = .returned v ∧ Owd 3 w w' v (wlX xs p i) ∧ Le w w' := by
  have HX : Hid (wlX xs p i = cond (glB xs p i && decide (0 ≤ loN p (encl p i.toNat) 0)) (nI (wayL p ((encl p i.toNat).take (loN p (encl p i.toNat) 0).toNat))) []) := rfl
  go_enter Try.func10, Try.ntmps10
  go_wp2_with fail
  obtain ⟨ct, zt, hleB⟩ := box1 w (.slice B m c) 25
  have L0 := hleB
  clear hleB
  generalize w.alloc (.cells #[.slice B m c] 25) = W at *
  refine (hasLine_any B A m c n cap xs p i hz _ (hT.le L0) (hR.le L0)).mono ?_
  rintro e w1 ⟨rfl, hle⟩
  have L1 := L0.trans hle
  cases h : glB xs p i
  · have HO : Hid (Owd 3 w w1 (.slice none 0 0) (wlX xs p i)) := by show Owd _ _ _ _ _; rw [HX.out, h]; exact Owd.nil _ _ _
    go_wp2
    go_ret
    exact ⟨_, rfl, HO.out, L1⟩
  · obtain ⟨h1, k, rfl, hk⟩ := glB_iff.1 h
    have g := goodP_of h1
    have hp := g.len
    have HG := Lib.hid g
    have HEO := Lib.hid (encl_opn g hk)
    have HEL : Hid (∀ x ∈ encl p k, x < p.length) := fun x hx => by have := encl_lt x hx; omega
    have hel := encl_len p k
    rw [h, Int.toNat_natCast, Bool.true_and] at HX
    clear g h
    go_wp2_with fail
    refine (headsOf_any A n cap p k hk (by omega) w1 (hR.le L1)).mono ?_
    rintro e w2 ⟨v, rfl, D, hle2⟩
    obtain ⟨A2, q2, rfl, S2, -⟩ := D.form (by decide)
    have L2 := L1.trans hle2
    generalize hE : encl p k = E at *
    clear D hE hle2
    rw [nI_len] at S2 ⊢
    go_wp2_with fail
    refine (loopAt_any A A2 n cap E.length q2 p E w2 (hR.le L2) S2 HEL.out).mono ?_
    rintro e w3 ⟨rfl, hle3⟩
    have L3 := L2.trans hle3
    have S3 := S2.le hle3
    have HLO := Lib.hid (lo_zero p E)
    generalize loN p E 0 = q at *
    by_cases hq : 0 ≤ q
    · obtain ⟨j, hj, rfl⟩ : ∃ j : Nat, j < E.length ∧ q = (j : Int) := by
        rcases HLO.out with ⟨h, _⟩ | ⟨j, hj, h, _⟩
        · omega
        · exact ⟨j, hj, by omega⟩
      have HY : Hid (wlX xs p k = nI (wayL p (E.take j))) := by show _ = _; rw [HX.out, decide_eq_true hq, Int.toNat_natCast]; rfl
      have S4 := S3.take_ j (by omega)
      have HTK : Hid (nI (E.take j) = (nI E).take j) := by show _ = _; unfold nI; rw [List.map_take]
      rw [← HTK.out] at S4
      have HEL2 : Hid (∀ x ∈ E.take j, x < p.length) := fun x hx => HEL.out x (List.mem_of_mem_take hx)
      have HEO2 : Hid (∀ x ∈ E.take j, opn (knd p x) = true) := fun x hx => HEO.out x (List.mem_of_mem_take hx)
      have HTL : Hid ((E.take j).length ≤ 1048576) := by show _ ≤ _; rw [List.length_take]; omega
      have hneg : decide ((j : Int) < 0) = false := by rw [decide_eq_false_iff_not]; omega
      have hjq : j ≤ q2 := by have := S3.cap_; omega
      have hjE : j ≤ E.length := by omega
      clear HX HLO hq
      go_wp2_with fail
      refine (wayThrough_any A A2 n cap j q2 xs p (E.take j) HEL2.out HTL.out HG.out HEO2.out w3 (hR.le L3) S4).mono ?_
      rintro e w4 ⟨v, rfl, D3, hle4⟩
      have HO : Hid (Owd 3 w w4 v (wlX xs p k)) := by show Owd _ _ _ _ _; rw [HY.out]; exact D3.mono L3
      go_wp2
      go_ret
      exact ⟨_, rfl, HO.out, L3.trans hle4⟩
    · have HO : Hid (Owd 3 w w3 (.slice none 0 0) (wlX xs p k)) := by show Owd _ _ _ _ _; rw [HX.out, decide_eq_false hq]; exact Owd.nil _ _ _
      have hneg : decide (q < 0) = true := by rw [decide_eq_true_iff]; omega
      clear HX HLO
      go_wp2
      go_ret
      exact ⟨_, rfl, HO.out, L3⟩
set_option maxHeartbeats 1000000 in
theorem sWayToLoop_any (B A : Option Addr) (m c n cap : Nat) (xs : List Cls) (p : List Lin) (i : Int) (hz : p.length ≤ 1048576) (w : World) (hT : Sl w B m c xs) (hR : Sl w A n cap p) :
    Calls Try.prog 12 #[.agg #[.slice B m c], .slice A n cap, .int .i64 i] w fun e w' => ∃ v, e = .returned v ∧ Owd 3 w w' v (wlX xs p i) ∧ Le w w' := by
  have HX : Hid (wlX xs p i = cond (glB xs p i && decide (0 ≤ loN p (encl p i.toNat) 0)) (nI (wayL p ((encl p i.toNat).take (loN p (encl p i.toNat) 0).toNat))) []) := rfl
  have HL : Hid (loX xs p i = cond (glB xs p i) (loA p (encl p i.toNat)) (-1)) := rfl
  go_enter Try.func12, Try.ntmps12
  go_wp2_with fail
  obtain ⟨ct, zt, hleB⟩ := box1 w (.slice B m c) 25
  have L0 := hleB
  clear hleB
  generalize w.alloc (.cells #[.slice B m c] 25) = W at *
  refine (sLoopOf_any B A m c n cap xs p i hz _ (hT.le L0) (hR.le L0)).mono ?_
  rintro e w1 ⟨rfl, hle⟩
  have L1 := L0.trans hle
  cases h : glB xs p i
  · have HO : Hid (Owd 3 w w1 (.slice none 0 0) (wlX xs p i)) := by show Owd _ _ _ _ _; rw [HX.out, h]; exact Owd.nil _ _ _
    have HL2 : Hid (loX xs p i = -1) := by show _ = _; rw [HL.out, h]; rfl
    rw [HL2.out]
    clear HX HL
    go_wp2
    go_ret
    exact ⟨_, rfl, HO.out, L1⟩
  · obtain ⟨h1, k, rfl, hk⟩ := glB_iff.1 h
    have g := goodP_of h1
    have hp := g.len
    have HG := Lib.hid g
    have HEO := Lib.hid (encl_opn g hk)
    have HEL : Hid (∀ x ∈ encl p k, x < p.length) := fun x hx => by have := encl_lt x hx; omega
    have hel := encl_len p k
    rw [h, Int.toNat_natCast, Bool.true_and] at HX
    rw [h, Int.toNat_natCast] at HL
    have HLO := Lib.hid (lo_zero p (encl p k))
    have HID := Lib.hid (idx_lo p (encl p k) 0)
    have HLC : Hid (loX xs p k = loA p (encl p k)) := HL.out
    rw [HLC.out]
    clear g h HL
    have HEN := Lib.hid (enclosing_any A n cap p k hk (by omega) w1 (hR.le L1))
    generalize hE : encl p k = E at *
    clear hE
    rcases HLO.out with ⟨ha, hb⟩ | ⟨j, hj, ha, hb⟩
    · rw [hb]
      have HO : Hid (Owd 3 w w1 (.slice none 0 0) (wlX xs p k)) := by show Owd _ _ _ _ _; rw [HX.out, ha]; exact Owd.nil _ _ _
      clear HX HLO HID HLC ha hb
      go_wp2
      go_ret
      exact ⟨_, rfl, HO.out, L1⟩
    · rw [hb]
      have hidx : idx (nI E) (E[j] : Int) 0 = (j : Int) := by rw [← hb, HID.out (by rw [hb]; omega), ha]
      have HIX := Lib.hid hidx
      have HY : Hid (wlX xs p k = nI (wayL p (E.take j))) := by
        show _ = _
        rw [HX.out, ha]
        rw [Int.toNat_natCast, decide_eq_true (by omega)]; rfl
      have HEJ : Hid ((E[j] : Nat) < p.length) := HEL.out _ (List.getElem_mem hj)
      generalize hej : E[j] = y at *
      have hneg : decide ((y : Int) < 0) = false := by rw [decide_eq_false_iff_not]; omega
      have HEL2 : Hid (∀ x ∈ E.take j, x < p.length) := fun x hx => HEL.out x (List.mem_of_mem_take hx)
      have HEO2 : Hid (∀ x ∈ E.take j, opn (knd p x) = true) := fun x hx => HEO.out x (List.mem_of_mem_take hx)
      have HTL : Hid ((E.take j).length ≤ 1048576) := by show _ ≤ _; rw [List.length_take]; omega
      have hjE : j ≤ E.length := by omega
      have hj0 : (0 : Int) ≤ (j : Int) := by omega
      clear HX HLO HID HLC ha hb hidx hej
      go_wp2_with fail
      refine HEN.out.mono ?_
      rintro e w2 ⟨v, rfl, D, hle2⟩
      obtain ⟨A2, q2, rfl, S2, -⟩ := D.form (by decide)
      have L2 := L1.trans hle2
      have hjq : j ≤ q2 := by have := S2.cap_; rw [nI_len] at this; omega
      rw [nI_len] at S2 ⊢
      clear D hle2
      go_wp2_with fail
      refine (sIndexOf_any A2 E.length q2 (nI E) y w2 S2 (by omega)).mono ?_
      rintro e w3 ⟨rfl, rfl⟩
      rw [HIX.out]
      have S4 := S2.take_ j hjE
      have HTK : Hid (nI (E.take j) = (nI E).take j) := by show _ = _; unfold nI; rw [List.map_take]
      rw [← HTK.out] at S4
      go_wp2_with fail
      refine (swayOut_any A A2 n cap j q2 xs p (E.take j) HEL2.out HTL.out HG.out HEO2.out w2 (hR.le L2) S4).mono ?_
      rintro e w4 ⟨v, rfl, D3, hle4⟩
      have HO : Hid (Owd 3 w w4 v (wlX xs p k)) := by show Owd _ _ _ _ _; rw [HY.out]; exact D3.mono L2
      go_wp2
      go_ret
      exact ⟨_, rfl, HO.out, L2.trans hle4⟩
/-! WayOfFault -/
set_option maxHeartbeats 1000000 in
theorem iWayOfFault_any (B A : Option Addr) (m c n cap : Nat) (xs : List Cls) (p : List Lin) (i a : Int) (hz : m ≤ 1048576) (w : World) (hT : Sl w B m c xs) (hR : Sl w A n cap p) :
    Calls Try.prog 23 #[.agg #[.slice B m c], .slice A n cap, .int .i64 i, .int .i64 a] w fun e w' => ∃ v, e = .returned v ∧ Owd 3 w w' v (wfX xs p i a) ∧ Le w w' := by
  have HX : Hid (wfX xs p i a = cond (glB xs p i && hasK xs a) (nI (wayL p ((encl p i.toNat).take (coN xs p a (encl p i.toNat))))) []) := rfl
  go_enter Try.func23, Try.ntmps23
  go_wp2_with fail
  obtain ⟨ct, zt, hleB⟩ := box1 w (.slice B m c) 25
  have L0 := hleB
  clear hleB
  generalize w.alloc (.cells #[.slice B m c] 25) = W at *
  refine (hasLine_any B A m c n cap xs p i hz _ (hT.le L0) (hR.le L0)).mono ?_
  rintro e w1 ⟨rfl, hle⟩
  replace ct := (hle.cell zt).trans ct
  replace zt := Nat.lt_of_lt_of_le zt hle.size
  replace L0 := L0.trans hle
  clear hle
  have HN : Hid (∀ w', (glB xs p i && hasK xs a) = false → Owd 3 w w' (.slice none 0 0) (wfX xs p i a)) := fun w' h => by rw [HX.out, h]; exact Owd.nil _ _ _
  cases h : glB xs p i
  · have HO := Lib.hid (HN.out w1 (by rw [h]; rfl))
    go_wp2
    go_ret
    exact ⟨_, rfl, HO.out, L0⟩
  · obtain ⟨h1, k, rfl, hk⟩ := glB_iff.1 h
    have g := goodP_of h1
    have hp := g.len
    have HG := Lib.hid g
    have HEO := Lib.hid (encl_opn g hk)
    have HEL : Hid (∀ x ∈ encl p k, x < p.length) := fun x hx => by have := encl_lt x hx; omega
    have hel := encl_len p k
    clear g
    go_wp2_with fail
    refine (isClass_any B m c xs a w1 (hT.le L0)).mono ?_
    rintro e w2 ⟨rfl, hle⟩
    replace ct := (hle.cell zt).trans ct
    replace zt := Nat.lt_of_lt_of_le zt hle.size
    replace L0 := L0.trans hle
    clear hle
    cases hc : hasK xs a
    · have HO := Lib.hid (HN.out w2 (by rw [hc]; simp))
      go_wp2
      go_ret
      exact ⟨_, rfl, HO.out, L0⟩
    · rw [h, hc, Int.toNat_natCast, Bool.true_and] at HX
      clear HN h
      go_wp2_with fail
      refine (headsOf_any A n cap p k hk (by omega) w2 (hR.le L0)).mono ?_
      rintro e w3 ⟨v, rfl, D, hle⟩
      obtain ⟨A2, q2, rfl, S2, -⟩ := D.form (by decide)
      replace ct := (hle.cell zt).trans ct
      replace zt := Nat.lt_of_lt_of_le zt hle.size
      replace L0 := L0.trans hle
      generalize hE : encl p k = E at *
      clear D hE hle
      rw [nI_len] at S2 ⊢
      have hcl := coN_le xs p a E
      go_wp2_with fail
      refine (catchAt_any B A A2 m c n cap E.length q2 xs p E a HG.out hc HEL.out (by omega) w3 (hT.le L0) (hR.le L0) S2).mono ?_
      rintro e w4 ⟨rfl, hle⟩
      have S4 := S2.le hle
      have L4 := L0.trans hle
      generalize coN xs p a E = j at *
      generalize coF xs p a E = q at *
      have HY : Hid (wfX xs p k a = nI (wayL p (E.take j))) := HX.out
      have S5 := S4.take_ j (by omega)
      have HTK : Hid (nI (E.take j) = (nI E).take j) := by show _ = _; unfold nI; rw [List.map_take]
      rw [← HTK.out] at S5
      have HEL2 : Hid (∀ x ∈ E.take j, x < p.length) := fun x hx => HEL.out x (List.mem_of_mem_take hx)
      have HEO2 : Hid (∀ x ∈ E.take j, opn (knd p x) = true) := fun x hx => HEO.out x (List.mem_of_mem_take hx)
      have HTL : Hid ((E.take j).length ≤ 1048576) := by show _ ≤ _; rw [List.length_take]; omega
      have hjq : j ≤ q2 := by have := S4.cap_; omega
      have hj0 : (0 : Int) ≤ (j : Int) := by omega
      clear HX hle hc
      go_wp2_with fail
      refine (wayThrough_any A A2 n cap j q2 xs p (E.take j) HEL2.out HTL.out HG.out HEO2.out w4 (hR.le L4) S5).mono ?_
      rintro e w5 ⟨v, rfl, D3, hle4⟩
      have HO : Hid (Owd 3 w w5 v (wfX xs p k a)) := by show Owd _ _ _ _ _; rw [HY.out]; exact D3.mono L4
      go_wp2
      go_ret
      exact ⟨_, rfl, HO.out, L4.trans hle4⟩
set_option maxHeartbeats 2000000 in
set_option maxRecDepth 100000 in
theorem sWayOfFault_any (B A : Option Addr) (m c n cap : Nat) (xs : List Cls) (p : List Lin) (i a : Int) (hz : p.length ≤ 1048576) (w : World) (hT : Sl w B m c xs) (hR : Sl w A n cap p) :
    Calls Try.prog 24 #[.agg #[.slice B m c], .slice A n cap, .int .i64 i, .int .i64 a] w fun e w' => ∃ v, e = .returned v ∧ Owd 3 w w' v (wfX xs p i a) ∧ Le w w' := by
  have HX : Hid (wfX xs p i a = cond (grB xs p i a) (nI (wayL p ((encl p i.toNat).take (coN xs p a (encl p i.toNat))))) []) := rfl
  go_enter Try.func24, Try.ntmps24
  go_wp2_with fail
  obtain ⟨ct, zt, hleB⟩ := box1 w (.slice B m c) 25
  have L0 := hleB
  clear hleB
  generalize w.alloc (.cells #[.slice B m c] 25) = W at *
  refine (goodRaise_any B A m c n cap xs p i a hz _ (hT.le L0) (hR.le L0)).mono ?_
  rintro e w1 ⟨rfl, hle⟩
  replace ct := (hle.cell zt).trans ct
  replace zt := Nat.lt_of_lt_of_le zt hle.size
  replace L0 := L0.trans hle
  clear hle
  cases h : grB xs p i a
  · have HO : Hid (Owd 3 w w1 (.slice none 0 0) (wfX xs p i a)) := by show Owd _ _ _ _ _; rw [HX.out, h]; exact Owd.nil _ _ _
    go_wp2
    go_ret
    exact ⟨_, rfl, HO.out, L0⟩
  · have h' := h
    unfold grB at h'
    obtain ⟨hg, hc⟩ := Bool.and_eq_true_iff.1 h'
    obtain ⟨h1, k, rfl, hk⟩ := glB_iff.1 hg
    have g := goodP_of h1
    have hp := g.len
    have HG := Lib.hid g
    have HEO := Lib.hid (encl_opn g hk)
    have HEL : Hid (∀ x ∈ encl p k, x < p.length) := fun x hx => by have := encl_lt x hx; omega
    have hel := encl_len p k
    have hca := hasK_iff.1 hc
    rw [h, Int.toNat_natCast] at HX
    clear g h h' hg hc
    go_wp2_with fail
    refine (enclosing_any A n cap p k hk (by omega) w1 (hR.le L0)).mono ?_
    rintro e w3 ⟨v, rfl, D, hle⟩
    obtain ⟨A2, q2, rfl, S2, -⟩ := D.form (by decide)
    replace ct := (hle.cell zt).trans ct
    replace zt := Nat.lt_of_lt_of_le zt hle.size
    replace L0 := L0.trans hle
    generalize hE : encl p k = E at *
    clear D hE hle
    rw [nI_len] at S2 ⊢
    have HCN := Lib.hid (fun j (h : j < E.length) => coN_at (xs := xs) (p := p) (a := a) (L := E) h)
    have HCE := Lib.hid (fun j (h : ¬ j < E.length) => coN_end (xs := xs) (p := p) (a := a) (L := E) h)
    go_wp2
    go_loopw [10] (fun q wr => ∃ j : Nat, j ≤ E.length ∧ q = .int .i64 j ∧ coN xs p a E = j + coN xs p a (E.drop j) ∧ Le w3 wr) (fun q _ => E.length - (intOf q).toNat)
    case atStart => exact ⟨0, Nat.zero_le _, rfl, by rw [List.drop_zero, Nat.zero_add], Le.refl _⟩
    case round =>
      obtain ⟨j, hj, rfl, he, hle⟩ := hrel
      have HE := Lib.hid he
      clear he
      replace S2 := S2.le hle
      have LW := L0.trans hle
      have ctw := (hle.cell zt).trans ct
      have ztw := Nat.lt_of_lt_of_le zt hle.size
      have STw := hT.le LW
      have SPw := hR.le LW
      have HEND : Hid (coN xs p a E = j → ∀ wx, Le w wx → Sl wx A2 E.length q2 (nI E) → Calls Try.prog 42 #[.slice A n cap, .slice A2 j q2] wx fun e w' => ∃ v, e = .returned v ∧ Owd 3 w w' v (wfX xs p k a) ∧ Le w w') := fun e wx hl S => by
        have S5 := S.take_ j hj
        have HTK : nI (E.take j) = (nI E).take j := by unfold nI; rw [List.map_take]
        rw [← HTK] at S5
        refine (swayOut_any A A2 n cap j q2 xs p (E.take j) (fun x hx => HEL.out x (List.mem_of_mem_take hx)) (by rw [List.length_take]; omega) HG.out (fun x hx => HEO.out x (List.mem_of_mem_take hx)) wx (hR.le hl) S5).mono ?_
        rintro e2 w5 ⟨v, rfl, D3, hle4⟩
        refine ⟨_, rfl, ?_, hl.trans hle4⟩
        rw [HX.out, e]; exact D3.mono hl
      by_cases hlt : j < E.length
      · obtain ⟨b, off, e1, hb, c0, -⟩ := S2.int_at (k := j) (by rw [nI_len]; exact hlt)
        cases e1
        rw [nI_at hlt] at c0
        have HCJ := Lib.hid (HCN.out j hlt)
        have hxl := HEL.out _ (List.getElem_mem hlt)
        generalize E[j] = x at *
        have hj0 : (0 : Int) ≤ (j : Int) := by omega
        have hjn : (j : Int) < (E.length : Int) := by omega
        have F0 := cell_ext ztw ctw
        have F1 := cell_ext hb c0
        have hjq : j ≤ q2 := by have := S2.cap_; omega
        by_cases hc0 : 0 ≤ ctAt xs p a x
        · have hcb : decide (ctAt xs p a x < 0) = false := by rw [decide_eq_false_iff_not]; omega
          have HF : Hid (coN xs p a E = j) := by show _ = _; rw [HE.out, HCJ.out, if_pos hc0]; rfl
          clear HCJ HE hc0
          go_wp2_with fail
          refine wp_region_ext (by kernel_rfl) (by kernel_rfl) ?_
          repeat (go_big_quiet_step (first | (go_at_call 48; exact Calls.ext_of (catcher_any B A m c n cap xs p x a hxl HG.out (by omega) (by omega) _ (STw.ext _) (SPw.ext _)))))
          refine wpQuiet_nil ?_
          intro _ hw'
          obtain ⟨gg, rfl⟩ := hw'
          have hle2 := Le.ext wr gg
          have S6 := S2.le hle2
          have L6 := LW.trans hle2
          clear F0 F1
          generalize wr.ext gg = W2 at *
          go_wp2_with fail
          refine (HEND.out HF.out W2 L6 S6).mono ?_
          rintro e w5 ⟨v, rfl, D3, hle4⟩
          go_wp2
          go_ret
          exact ⟨_, rfl, D3, hle4⟩
        · have hcb : decide (ctAt xs p a x < 0) = true := by rw [decide_eq_true_iff]; omega
          have HF : Hid (coN xs p a E = j + 1 + coN xs p a (E.drop (j + 1))) := by show _ = _; rw [HE.out, HCJ.out, if_neg hc0]; omega
          clear HCJ HE hc0
          go_wp2_with fail
          refine wp_region_ext (by kernel_rfl) (by kernel_rfl) ?_
          repeat (go_big_quiet_step (first | (go_at_call 48; exact Calls.ext_of (catcher_any B A m c n cap xs p x a hxl HG.out (by omega) (by omega) _ (STw.ext _) (SPw.ext _)))))
          refine wpQuiet_nil ?_
          intro _ hw'
          obtain ⟨gg, rfl⟩ := hw'
          have hle2 := hle.trans (Le.ext wr gg)
          clear F0 F1
          generalize wr.ext gg = W2 at *
          go_wp2
          go_roundw
          case rel => exact ⟨j + 1, by omega, by go_num, HF.out, hle2⟩
          case measure => simp [intOf]; omega
      · obtain rfl : j = E.length := by omega
        have HF : Hid (coN xs p a E = E.length) := by show _ = _; rw [HE.out, HCE.out _ hlt]; rfl
        have hjq : E.length ≤ q2 := by have := S2.cap_; omega
        clear HE
        go_wp2_with fail
        refine wp_region_ext (by kernel_rfl) (by kernel_rfl) ?_
        repeat (go_big_quiet_step (fail))
        refine wpQuiet_nil ?_
        intro _ hw'
        obtain ⟨gg, rfl⟩ := hw'
        have hle2 := Le.ext wr gg
        have S6 := S2.le hle2
        have L6 := LW.trans hle2
        generalize wr.ext gg = W2 at *
        go_wp2_with fail
        refine (HEND.out HF.out W2 L6 S6).mono ?_
        rintro e w5 ⟨v, rfl, D3, hle4⟩
        go_wp2
        go_ret
        exact ⟨_, rfl, D3, hle4⟩
end
end

section
theorem Calls.sl1w {α : Type} [Enc α] {P : Program} {f : FuncId} {args : Array Value} {w : World} {xs : List α} {T : TypeId} (hp : 0 < Enc.size α) (h : Calls P f args w fun e w' => ∃ v, e = .returned v ∧ Owd T w w' v xs ∧ Le w w') : Calls P f args w fun e w' => ∃ A c, e = .returned (.slice A xs.length c) ∧ Sl w' A xs.length c xs ∧ Le w w' := by
  refine h.mono ?_
  rintro e w' ⟨v, rfl, D, hle⟩
  obtain ⟨A, c, rfl, S, _⟩ := D.form hp
  exact ⟨A, c, rfl, S, hle⟩
theorem glB_okw {xs : List Cls} {p : List Lin} {k : Nat} (h : vp xs p = true) (hk : k < p.length) : glB xs p k = true := glB_iff.2 ⟨h, k, rfl, hk⟩
theorem enGo_head {p : List Lin} {y : Nat} {r : List Nat} : ∀ (d : Int) (k : Nat), enGo p d k = y :: r → r = encl p y
  | _, 0, h => by cases h
  | d, k + 1, h => by
    rw [enGo_succ] at h
    by_cases c : dep p k < d
    · rw [if_pos c] at h
      injection h with h1 h2
      rw [← h2, ← h1]; rfl
    · rw [if_neg c] at h
      exact enGo_head d k h
/-- the way out of a line is what is at the end of the block around it, and the way out of that block's line -/
theorem way_up {xs : List Cls} {p : List Lin} {k : Nat} (h : vp xs p = true) (hk : k < p.length) : (encl p k = [] ∧ enX xs p k = [] ∧ woX xs p k = []) ∨ ∃ (y : Nat) (r o : List Nat), encl p k = y :: r ∧ y < p.length ∧ enX xs p k = nI (y :: r) ∧ o.length ≤ 1 ∧ woX xs p k = nI o ++ woX xs p y := by
  have hg := glB_okw h hk
  have h1 : woX xs p k = nI (wayL p (encl p k)) := by unfold woX; rw [hg]; rfl
  have h2 : enX xs p k = nI (encl p k) := by unfold enX; rw [hg]; rfl
  cases he : encl p k with
  | nil => exact .inl ⟨rfl, by rw [h2, he]; rfl, by rw [h1, he]; rfl⟩
  | cons y r =>
    have hy : y < p.length := by have := encl_lt (p := p) (i := k) y (by rw [he]; exact List.mem_cons_self ..); omega
    have hr : r = encl p y := enGo_head _ _ he
    have h3 : woX xs p y = nI (wayL p (encl p y)) := by unfold woX; rw [glB_okw h hy]; rfl
    refine .inr ⟨y, r, (match lastE p y with | some x => [x] | none => []), rfl, hy, by rw [h2, he], by cases lastE p y <;> simp, ?_⟩
    rw [h1, he, h3, ← hr]
    unfold wayL
    rw [List.filterMap_cons]
    cases lastE p y <;> rfl
end
end Go.Proofs.Ytomdhpfelchjeaa
