/- tables: what catches in the block of a line: catcher of the model, catchAt of the program; CatcherOf of both -/
import Derived.Test.YtjldbpbamankfaaPhW
import Derived.Test.YtjldbpbamankfaaPhJ
import Derived.Test.YtjldbpbamankfaaPhG
import Derived.Test.YtjldbpbamankfaaHC
import Derived.Test.YtjldbpbamankfaaM
namespace Go.Proofs.Ytjldbpbamankfaa
open Go.RowKit
def lnBc (p : List Lin) (i : Nat) : Int := match p[i]? with | some x => x.b | none => 0
theorem lnBc_at {p : List Lin} {i : Nat} (h : i < p.length) : lnBc p i = p[i].b := by unfold lnBc; rw [List.getElem?_eq_getElem h]
/-- the first of some lines whose class a class is -/
def ctE (xs : List Cls) (p : List Lin) (a : Int) : List Nat → Int
  | [] => -1
  | x :: r => if isAL xs a (lnA p x) = true then (x : Int) else ctE xs p a r
/-- what catches in the block of a line -/
def ctAt (xs : List Cls) (p : List Lin) (a : Int) (i : Nat) : Int := if knd p i = 7 then ctE xs p a (exL p i) else if knd p i = 11 ∧ lnBc p i = 1 then (i : Int) else -1
/-- what catches in the blocks of some lines, and how many are left -/
def coF (xs : List Cls) (p : List Lin) (a : Int) : List Nat → Int
  | [] => -1
  | x :: r => if 0 ≤ ctAt xs p a x then ctAt xs p a x else coF xs p a r
def coN (xs : List Cls) (p : List Lin) (a : Int) : List Nat → Nat
  | [] => 0
  | x :: r => if 0 ≤ ctAt xs p a x then 0 else coN xs p a r + 1
theorem coF_at {xs : List Cls} {p : List Lin} {a : Int} {L : List Nat} {k : Nat} (h : k < L.length) : coF xs p a (L.drop k) = if 0 ≤ ctAt xs p a L[k] then ctAt xs p a L[k] else coF xs p a (L.drop (k + 1)) := by rw [List.drop_eq_getElem_cons h]; rfl
theorem coF_end {xs : List Cls} {p : List Lin} {a : Int} {L : List Nat} {k : Nat} (h : ¬ k < L.length) : coF xs p a (L.drop k) = -1 := by rw [List.drop_eq_nil_of_le (by omega)]; rfl
theorem coN_at {xs : List Cls} {p : List Lin} {a : Int} {L : List Nat} {k : Nat} (h : k < L.length) : coN xs p a (L.drop k) = if 0 ≤ ctAt xs p a L[k] then 0 else coN xs p a (L.drop (k + 1)) + 1 := by rw [List.drop_eq_getElem_cons h]; rfl
theorem coN_end {xs : List Cls} {p : List Lin} {a : Int} {L : List Nat} {k : Nat} (h : ¬ k < L.length) : coN xs p a (L.drop k) = 0 := by rw [List.drop_eq_nil_of_le (by omega)]; rfl
theorem coN_le (xs : List Cls) (p : List Lin) (a : Int) : ∀ L, coN xs p a L ≤ L.length
  | [] => Nat.le_refl _
  | x :: r => by
    unfold coN
    have := coN_le xs p a r
    split <;> simp <;> omega
theorem ex_drop {p : List Lin} {C : List Nat} {k : Nat} (h : k < C.length) : exF p (C.drop k) = if knd p C[k] = 8 then C[k] :: exF p (C.drop (k + 1)) else exF p (C.drop (k + 1)) := by
  rw [List.drop_eq_getElem_cons h]
  unfold exF
  rw [List.filter_cons]
  by_cases e : knd p C[k] = 8
  · rw [if_pos e, if_pos (by simpa using e)]
  · rw [if_neg e, if_neg (by simpa using e)]
theorem ct_two (xs : List Cls) (p : List Lin) (a : Int) : ∀ (E : List Nat) (z : Nat), (firstC xs (E.map (lnA p)) a z = -1 ∧ ctE xs p a E = -1) ∨ ∃ j : Nat, ∃ h : j < E.length, firstC xs (E.map (lnA p)) a z = ((z + j : Nat) : Int) ∧ ctE xs p a E = (E[j] : Int)
  | [], z => .inl ⟨rfl, rfl⟩
  | x :: r, z => by
    rw [List.map_cons]
    unfold firstC ctE
    by_cases h : isAL xs a (lnA p x) = true
    · rw [if_pos h, if_pos h]
      exact .inr ⟨0, by simp, by simp, rfl⟩
    · rw [if_neg h, if_neg h]
      rcases ct_two xs p a r (z + 1) with ⟨h1, h2⟩ | ⟨j, hj, h1, h2⟩
      · exact .inl ⟨h1, h2⟩
      · exact .inr ⟨j + 1, by simpa using hj, by rw [show ((z : Int) + 1) = ((z + 1 : Nat) : Int) by omega, h1]; omega, by rw [h2]; rfl⟩
theorem good_exc {xs : List Cls} {p : List Lin} (g : GoodP xs p) {i : Nat} (hi : i < p.length) (h7 : knd p i = 7) : goodC xs (clL p i) = true := by
  have hx : exs p (parts p i) ≤ 6 := ((g.tries i hi).1 h7).2
  rw [exs_len] at hx
  refine goodC_yes g.tree (by unfold clL; rw [clF_len]; exact hx) (goodL_mk fun b hb => ?_)
  obtain ⟨x, hx2, rfl⟩ := List.mem_map.1 hb
  have hm := List.mem_filter.1 hx2
  have hl := parts_lt hi x hm.1
  have hk : knd p x = 8 := by simpa using hm.2
  have hn := (g.line x hl).1
  rw [lnA_at hl]
  rw [knd_at hl] at hk
  unfold numS at hn
  rw [hk] at hn
  simp at hn
  exact hn.1
set_option maxHeartbeats 2000000 in
set_option maxRecDepth 100000 in
theorem catcher_any (B A : Option Addr) (m c n cap : Nat) (xs : List Cls) (p : List Lin) (i : Nat) (a : Int) (hi : i < p.length) (g : GoodP xs p) (ha : a < xs.length) (ha0 : 0 ≤ a) (w : World) (hT : Sl w B m c xs) (hR : Sl w A n cap p) :
    Calls Try.prog 57 #[.agg #[.slice B m c], .slice A n cap, .int .i64 i, .int .i64 a] w fun e w' => e = .returned (.int .i64 (ctAt xs p a i)) ∧ Le w w' := by
  obtain rfl := hR.len
  have hp := g.len
  have HG := Lib.hid (good_of g.tree)
  have HCP := Lib.hid (chain_parts g.tries hi)
  have HX : Hid (ctAt xs p a i = if knd p i = 7 then ctE xs p a (exL p i) else if knd p i = 11 ∧ lnBc p i = 1 then (i : Int) else -1) := rfl
  have HEX : Hid (exL p i = exF p (parts p i)) := rfl
  have HPL := Lib.hid (parts_lt hi)
  have hplen := parts_len p i
  have HK := Lib.hid (knd_at hi)
  have HB := Lib.hid (lnBc_at hi)
  have hx0 : (0 : Int) ≤ (i : Int) := by omega
  have hxn : (i : Int) < (p.length : Int) := by omega
  have HC0 : Hid (parts p i = i :: (parts p i).drop 1) := rfl
  clear g
  go_enter Try.func57, Try.ntmps57
  obtain ⟨b, off, rfl, hb, d0, d1, d2, d3, -⟩ := hR.lin_at hi
  obtain ⟨ct, zt, L0⟩ := box1 w (.slice B m c) 32
  have T1 := hT.le L0
  have S1 := hR.le L0
  have e1 := (L0.cell hb).trans d1
  have e3 := (L0.cell hb).trans d3
  generalize p[i].kind = vk at *
  generalize p[i].b = vb at *
  by_cases h7 : vk = 7
  · subst h7
    have HY : Hid (ctAt xs p a i = ctE xs p a (exF p (parts p i))) := by show _ = _; rw [HX.out, if_pos HK.out]; rfl
    have HY1 : Hid (exF p (parts p i) = exF p ((parts p i).drop 1)) := by
      show _ = _
      have h0 := ex_drop (p := p) (C := parts p i) (k := 0) (by unfold parts; simp)
      rw [List.drop_zero] at h0
      rw [h0]
      exact if_neg (show knd p i ≠ 8 by rw [HK.out]; decide)
    clear HX HB
    go_wp2_with fail
    generalize w.alloc (.cells #[.slice B m c] 32) = W at *
    refine (chainOf_any _ p.length cap p i hi (by omega) W S1).mono ?_
    rintro e w2 ⟨v, rfl, D, hle⟩
    rw [HCP.out] at D
    obtain ⟨A2, q2, rfl, S2, -⟩ := D.form (by decide)
    rw [nI_len] at S2 ⊢
    have L2 := L0.trans hle
    have T2 := T1.le hle
    have R2 := S1.le hle
    replace ct := (hle.cell zt).trans ct
    replace zt := Nat.lt_of_lt_of_le zt hle.size
    generalize parts p i = C at *
    clear D hle T1 S1 d0 d1 d2 d3 e1 e3
    go_wp2
    go_loopw [10] (fun q wr => ∃ k : Nat, k ≤ C.length + 1 ∧ q = .int .i64 k ∧ ctE xs p a (exF p C) = ctE xs p a (exF p (C.drop k)) ∧ Le w2 wr) (fun q _ => C.length + 1 - (intOf q).toNat)
    case atStart => exact ⟨1, by omega, rfl, by rw [HY1.out], Le.refl _⟩
    case round =>
      obtain ⟨k, hk, rfl, he, hle⟩ := hrel
      have HE := Lib.hid he; clear he
      have T := T2.le hle
      have S := R2.le hle
      have SC := S2.le hle
      replace ct := (hle.cell zt).trans ct
      replace zt := Nat.lt_of_lt_of_le zt hle.size
      clear T2 R2 S2
      by_cases hl : k < C.length
      · obtain ⟨b5, off5, rfl, hb5, c5, -⟩ := SC.int_at (k := k) (by rw [nI_len]; exact hl)
        rw [nI_at hl] at c5
        have hx := HPL.out C[k] (List.getElem_mem hl)
        obtain ⟨b6, off6, e6, hb6, -, k1, k2, -⟩ := S.lin_at hx
        injection e6 with e6
        injection e6 with e61 e62
        subst e61
        subst e62
        have HKX := Lib.hid (knd_at hx)
        have HLX := Lib.hid (lnA_at hx)
        have HD := Lib.hid (ex_drop (p := p) hl)
        have HCT : Hid (∀ r, ctE xs p a (C[k] :: r) = if isAL xs a (lnA p C[k]) = true then (C[k] : Int) else ctE xs p a r) := fun r => rfl
        generalize C[k] = x at *
        generalize p[x].kind = xk at *
        generalize p[x].a = xa at *
        have E5 := cell_ext hb5 c5
        have E6 := cell_ext hb6 k1
        have E7 := cell_ext hb6 k2
        have Et := cell_ext zt ct
        have hk0 : (0 : Int) ≤ (k : Int) := by omega
        have hkn : (k : Int) < (C.length : Int) := by omega
        have hy0 : (0 : Int) ≤ (x : Int) := by omega
        have hyn : (x : Int) < (p.length : Int) := by omega
        clear k1 k2 ct
        by_cases h8 : xk = 8
        · subst h8
          have HZ : Hid (ctE xs p a (exF p C) = if isAL xs a xa = true then (x : Int) else ctE xs p a (exF p (C.drop (k + 1)))) := by show _ = _; rw [HE.out, HD.out, if_pos HKX.out, HCT.out, HLX.out]
          have hca : ∀ (g : Ext wr) (_ : True), Calls Try.prog 86 #[.agg #[.slice B m c], .int .i64 a, .int .i64 xa] (wr.ext g) fun e w' => e = .returned (.bool (isAL xs a xa)) ∧ Le (wr.ext g) w' := fun g _ => isA_any B m c xs a xa _ (T.le (Le.ext wr g)) HG.out (by omega) (by omega)
          clear HD HCT HE
          generalize isAL xs a xa = q1 at *
          go_wp2_with fail
          cases q1
          · have HF : Hid (ctE xs p a (exF p C) = ctE xs p a (exF p (C.drop (k + 1)))) := by show _ = _; rw [HZ.out, if_neg (by simp)]
            refine wp_region_ext (by kernel_rfl) (by kernel_rfl) ?_
            repeat (go_big_quiet_step (first | (go_at_call 86; exact Calls.ext_of (hca _ trivial))))
            refine wpQuiet_nil ?_
            intro _ hw'
            obtain ⟨gg, rfl⟩ := hw'
            have hw1 := Le.ext wr gg
            generalize wr.ext gg = W2 at *
            go_wp2
            go_roundw
            case rel => exact ⟨k + 1, by omega, by go_num, HF.out, hle.trans hw1⟩
            case measure => simp [intOf]; omega
          · have HF : Hid (ctAt xs p a i = (x : Int)) := by show _ = _; rw [HY.out, HZ.out, if_pos rfl]
            refine wp_region_ext (by kernel_rfl) (by kernel_rfl) ?_
            repeat (go_big_quiet_step (first | (go_at_call 86; exact Calls.ext_of (hca _ trivial))))
            refine wpQuiet_nil ?_
            intro _ hw'
            obtain ⟨gg, rfl⟩ := hw'
            have hw1 := Le.ext wr gg
            generalize wr.ext gg = W2 at *
            replace c5 := (hw1.cell hb5).trans c5
            go_wp2
            go_ret
            exact ⟨ret_int HF.out.symm, L2.trans (hle.trans hw1)⟩
        · have h8b := bf h8
          have HF : Hid (ctE xs p a (exF p C) = ctE xs p a (exF p (C.drop (k + 1)))) := by show _ = _; rw [HE.out, HD.out, if_neg (by rw [HKX.out]; exact h8)]
          clear HD HCT HE
          go_wp2_with fail
          refine wp_region_ext (by kernel_rfl) (by kernel_rfl) ?_
          repeat (go_big_quiet_step (fail))
          refine wpQuiet_nil ?_
          intro _ hw'
          obtain ⟨gg, rfl⟩ := hw'
          have hw1 := Le.ext wr gg
          generalize wr.ext gg = W2 at *
          go_wp2
          go_roundw
          case rel => exact ⟨k + 1, by omega, by go_num, HF.out, hle.trans hw1⟩
          case measure => simp [intOf]; omega
      · have HF : Hid (ctAt xs p a i = -1) := by show _ = _; rw [HY.out, HE.out, List.drop_eq_nil_of_le (by omega)]; rfl
        go_wp2
        go_ret
        exact ⟨ret_int HF.out.symm, L2.trans hle⟩
  · have h7b : (vk != 7) = true := by simpa using h7
    by_cases h11 : vk = 11
    · subst h11
      by_cases hb1 : vb = 1
      · have hb1b : (vb == 1) = true := by simpa using hb1
        have HF : Hid (ctAt xs p a i = (i : Int)) := by show _ = _; rw [HX.out, if_neg (by rw [HK.out]; decide), if_pos ⟨HK.out, by rw [HB.out]; exact hb1⟩]
        clear HX hb1
        go_wp2
        go_ret
        exact ⟨ret_int HF.out.symm, L0⟩
      · have hb1b : (vb == 1) = false := bf hb1
        have HF : Hid (ctAt xs p a i = -1) := by show _ = _; rw [HX.out, if_neg (by rw [HK.out]; decide), if_neg (by rw [HB.out]; exact fun h => hb1 h.2)]
        clear HX
        go_wp2
        go_ret
        exact ⟨ret_int HF.out.symm, L0⟩
    · have h11b := bf h11
      have HF : Hid (ctAt xs p a i = -1) := by show _ = _; rw [HX.out, if_neg (by rw [HK.out]; exact h7), if_neg (by rw [HK.out]; exact fun h => h11 h.1)]
      clear HX
      go_wp2
      go_ret
      exact ⟨ret_int HF.out.symm, L0⟩
end Go.Proofs.Ytjldbpbamankfaa
