/- one text of PhCb -/
import Derived.Test.YtgjlmfjmjglplaaGreatFj17
import Derived.Test.YtgjlmfjmjglplaaGreatFj13
import Derived.Test.YtgjlmfjmjglplaaGreatFj12
import Derived.Test.YtgjlmfjmjglplaaGreatFj20
import Derived.Test.YtgjlmfjmjglplaaGreatFj18
import Derived.Test.YtgjlmfjmjglplaaGreatFj4
import Derived.WalkMore
import Derived.Scope
import Derived.Deep.LoopGhost
namespace Go.Proofs.YtgjlmfjmjglplaaGreat
open Go.RowKit
set_option linter.unusedVariables false
section
section
def lnBc (p : List Lin) (i : Nat) : Int := match p[i]? with | some x => x.b | none => 0
theorem lnBc_at {p : List Lin} {i : Nat} (h : i < p.length) : lnBc p i = p[i].b := by unfold lnBc; rw [List.getElem?_eq_getElem h]
/-- the first of some lines whose class a class is -/
def ctE (xs : List Cls) (p : List Lin) (a : Int) : List Nat → Int
  | [] => -1
  | x :: r => if isAL xs a (lnA p x) = true then (x : Int) else ctE xs p a r
/-- what catches in the block of a line -/
def ctAt (xs : List Cls) (p : List Lin) (a : Int) (i : Nat) : Int := if knd p i = 7 then ctE xs p a (exL p i) else if knd p i = 11 ∧ lnBc p i = 1 then (i : Int) else -1
/-- what catches in the blocks of some lines, and how many are left -/
def coF (xs : List Cls) (p : List Lin) (a : Int) : List Nat → Int
  | [] => -1
  | x :: r => if 0 ≤ ctAt xs p a x then ctAt xs p a x else coF xs p a r
def coN (xs : List Cls) (p : List Lin) (a : Int) : List Nat → Nat
  | [] => 0
  | x :: r => if 0 ≤ ctAt xs p a x then 0 else coN xs p a r + 1
theorem coF_at {xs : List Cls} {p : List Lin} {a : Int} {L : List Nat} {k : Nat} (h : k < L.length) : coF xs p a (L.drop k) = if 0 ≤ ctAt xs p a L[k] then ctAt xs p a L[k] else coF xs p a (L.drop (k + 1)) := by rw [List.drop_eq_getElem_cons h]; rfl
theorem coF_end {xs : List Cls} {p : List Lin} {a : Int} {L : List Nat} {k : Nat} (h : ¬ k < L.length) : coF xs p a (L.drop k) = -1 := by rw [List.drop_eq_nil_of_le (by omega)]; rfl
theorem coN_at {xs : List Cls} {p : List Lin} {a : Int} {L : List Nat} {k : Nat} (h : k < L.length) : coN xs p a (L.drop k) = if 0 ≤ ctAt xs p a L[k] then 0 else coN xs p a (L.drop (k + 1)) + 1 := by rw [List.drop_eq_getElem_cons h]; rfl
theorem coN_end {xs : List Cls} {p : List Lin} {a : Int} {L : List Nat} {k : Nat} (h : ¬ k < L.length) : coN xs p a (L.drop k) = 0 := by rw [List.drop_eq_nil_of_le (by omega)]; rfl
theorem coN_le (xs : List Cls) (p : List Lin) (a : Int) : ∀ L, coN xs p a L ≤ L.length
  | [] => Nat.le_refl _
  | x :: r => by
    unfold coN
    have := coN_le xs p a r
    split <;> simp <;> omega
theorem ex_drop {p : List Lin} {C : List Nat} {k : Nat} (h : k < C.length) : exF p (C.drop k) = if knd p C[k] = 8 then C[k] :: exF p (C.drop (k + 1)) else exF p (C.drop (k + 1)) := by
  rw [List.drop_eq_getElem_cons h]
  unfold exF
  rw [List.filter_cons]
  by_cases e : knd p C[k] = 8
  · rw [if_pos e, if_pos (by simpa using e)]
  · rw [if_neg e, if_neg (by simpa using e)]
theorem ct_two (xs : List Cls) (p : List Lin) (a : Int) : ∀ (E : List Nat) (z : Nat), (firstC xs (E.map (lnA p)) a z = -1 ∧ ctE xs p a E = -1) ∨ ∃ j : Nat, ∃ h : j < E.length, firstC xs (E.map (lnA p)) a z = ((z + j : Nat) : Int) ∧ ctE xs p a E = (E[j] : Int)
  | [], z => .inl ⟨rfl, rfl⟩
  | x :: r, z => by
    rw [List.map_cons]
    unfold firstC ctE
    by_cases h : isAL xs a (lnA p x) = true
    · rw [if_pos h, if_pos h]
      exact .inr ⟨0, by simp, by simp, rfl⟩
    · rw [if_neg h, if_neg h]
      rcases ct_two xs p a r (z + 1) with ⟨h1, h2⟩ | ⟨j, hj, h1, h2⟩
      · exact .inl ⟨h1, h2⟩
      · exact .inr ⟨j + 1, by simpa using hj, by rw [show ((z : Int) + 1) = ((z + 1 : Nat) : Int) by omega, h1]; omega, by rw [h2]; rfl⟩
theorem good_exc {xs : List Cls} {p : List Lin} (g : GoodP xs p) {i : Nat} (hi : i < p.length) (h7 : knd p i = 7) : goodC xs (clL p i) = true := by
  have hx : exs p (parts p i) ≤ 6 := ((g.tries i hi).1 h7).2
  rw [exs_len] at hx
  refine goodC_yes g.tree (by unfold clL; rw [clF_len]; exact hx) (goodL_mk fun b hb => ?_)
  obtain ⟨x, hx2, rfl⟩ := List.mem_map.1 hb
  have hm := List.mem_filter.1 hx2
  have hl := parts_lt hi x hm.1
  have hk : knd p x = 8 := by simpa using hm.2
  have hn := (g.line x hl).1
  rw [lnA_at hl]
  rw [knd_at hl] at hk
  unfold numS at hn
  rw [hk] at hn
  simp at hn
  exact hn.1
end

section
def grB (xs : List Cls) (p : List Lin) (i a : Int) : Bool := glB xs p i && hasK xs a
theorem isClass_any (A : Option Addr) (n cap : Nat) (xs : List Cls) (a : Int) (w : World) (hR : Sl w A n cap xs) :
    Calls Tryz.prog 20 #[.agg #[.slice A n cap], .int .i64 a] w fun e w' => e = .returned (.bool (hasK xs a)) ∧ Le w w' := by
  obtain rfl := hR.len
  have hm := hR.n_le
  have hw : IntKind.i64.wrap ((xs.length : Int) - 1) = (xs.length : Int) - 1 := IntWalk.i64_in _ (by omega)
  go_enter Tryz.func20, Tryz.ntmps20
  go_wp2_with (go_at_call 40; refine (iRange_any _ _ _ _).mono ?_; rintro e w' ⟨rfl, rfl⟩)
  go_ret
  exact ⟨rfl, Le.new w _⟩
def caX (xs : List Cls) (p : List Lin) (i a : Int) : Int := cond (grB xs p i a) (coF xs p a (encl p i.toNat)) (-1)
theorem tup2 {a b c d : Int} (h : a = c) (h2 : b = d) : Ending.returned (.tuple #[.int .i64 a, .int .i64 b]) = .returned (.tuple #[.int .i64 c, .int .i64 d]) := by rw [h, h2]
set_option maxHeartbeats 2000000 in
set_option maxRecDepth 100000 in
theorem catchAt_any (B A C : Option Addr) (m c n cap q d : Nat) (xs : List Cls) (p : List Lin) (E : List Nat) (a : Int) (g : GoodP xs p) (ha : hasK xs a = true) (hE : ∀ x ∈ E, x < p.length) (hel : E.length ≤ 24) (w : World) (hT : Sl w B m c xs) (hR : Sl w A n cap p) (hL : Sl w C q d (nI E)) :
    Calls Tryz.prog 21 #[.agg #[.slice B m c], .slice A n cap, .slice C q d, .int .i64 a] w fun e w' => e = .returned (.tuple #[.int .i64 (coF xs p a E), .int .i64 (coN xs p a E)]) ∧ Le w w' := by
  obtain rfl := hR.len
  have hlen := hL.len
  rw [nI_len] at hlen
  obtain rfl := hlen
  have HGP := Lib.hid g
  have hp := g.len
  have HEL := Lib.hid hE
  have HHA := Lib.hid ha
  clear g hE
  go_enter Tryz.func21, Tryz.ntmps21
  go_wp2
  obtain ⟨ct, zt, hleB⟩ := box1 w (.slice B m c) 25
  have L0 := hleB
  clear hleB
  generalize w.alloc (.cells #[.slice B m c] 25) = W at *
  go_step3
  go_wp2
  go_step3
  go_wp2
  have T1 := hT.le L0
  have S1 := hR.le L0
  have C1 := hL.le L0
  clear hT hR hL
  go_loopw [8, 9, 10, 11, 12, 13, 14, 19] (fun s8 s9 _ _ _ _ _ q wr => ∃ j : Nat, j ≤ E.length ∧ q = .int .i64 j ∧ s8 = .int .i64 (-1) ∧ s9 = .int .i64 E.length ∧ coF xs p a E = coF xs p a (E.drop j) ∧ coN xs p a E = j + coN xs p a (E.drop j) ∧ Le W wr) (fun _ _ _ _ _ _ _ q _ => E.length - (intOf q).toNat)
  case atStart => exact ⟨0, Nat.zero_le _, rfl, rfl, rfl, rfl, (Nat.zero_add _).symm, Le.refl _⟩
  case round =>
    obtain ⟨j, hj, rfl, rfl, rfl, hr, hn, hle⟩ := hrel
    have HR := Lib.hid hr
    have HN := Lib.hid hn
    clear hr hn
    have T := T1.le hle
    have R := S1.le hle
    have S := C1.le hle
    replace ct := (hle.cell zt).trans ct
    replace zt := Nat.lt_of_lt_of_le zt hle.size
    clear T1 S1 C1
    by_cases hl : j < E.length
    · obtain ⟨b, off, rfl, hb5, hcell, -⟩ := S.int_at (k := j) (by rw [nI_len]; exact hl)
      rw [nI_at hl] at hcell
      have hx := HEL.out E[j] (List.getElem_mem hl)
      have HA := Lib.hid (coF_at (xs := xs) (p := p) (a := a) hl)
      have HB := Lib.hid (coN_at (xs := xs) (p := p) (a := a) hl)
      generalize E[j] = x at *
      obtain ⟨b2, off2, rfl, hb6, d0, d1, d2, d3, -⟩ := R.lin_at hx
      have HK := Lib.hid (knd_at hx)
      have HLB := Lib.hid (lnBc_at hx)
      have HX : Hid (ctAt xs p a x = if knd p x = 7 then ctE xs p a (exL p x) else if knd p x = 11 ∧ lnBc p x = 1 then (x : Int) else -1) := rfl
      have HGC : Hid (knd p x = 7 → goodC xs (clL p x) = true) := good_exc HGP.out hx
      have hell : (exL p x).length ≤ p.length + 1 := Nat.le_trans (exF_len _ _) (parts_len p x)
      have HFX : Hid (∀ t, (goodC xs (clL p x) && hasK xs a) = t → firstX xs (clL p x) a = cond t (firstC xs (clL p x) a 0) (-2)) := fun t => firstX_of
      have HCL : Hid (clL p x = (exL p x).map (lnA p)) := rfl
      have hx0 : (0 : Int) ≤ (x : Int) := by omega
      have hxn : (x : Int) < (p.length : Int) := by omega
      have hj0 : (0 : Int) ≤ (j : Int) := by omega
      have hjn : (j : Int) < (E.length : Int) := by omega
      generalize p[x].kind = vk at *
      generalize p[x].b = vb at *
      generalize wr = W0 at *
      by_cases h7 : vk = 7
      · subst h7
        have HX2 : Hid (ctAt xs p a x = ctE xs p a (exL p x)) := by show _ = _; rw [HX.out, if_pos HK.out]
        have HF1 : Hid (firstX xs (clL p x) a = firstC xs ((exL p x).map (lnA p)) a 0) := by show _ = _; rw [HFX.out true (by rw [HGC.out HK.out, HHA.out]; rfl), HCL.out]; rfl
        clear HX HFX HGC HLB d0 d2 d3
        go_wp2_with fail
        refine (exceptsOf_any _ p.length cap p x hx (by omega) W0 R).mono ?_
        rintro e w3 ⟨v3, u3, rfl, D3, D4, hle3⟩
        obtain ⟨A3, q3, rfl, S3, -⟩ := D3.form (by decide)
        obtain ⟨A4, q4, rfl, S4, -⟩ := D4.form (by decide)
        replace ct := (hle3.cell zt).trans ct
        replace zt := Nat.lt_of_lt_of_le zt hle3.size
        have T3 := T.le hle3
        rw [nI_len] at S3 ⊢
        generalize clL p x = cL at *
        generalize exL p x = eL at *
        clear D3 D4
        go_wp2_with fail
        refine (iFirstCatch_any B A4 m c _ q4 xs cL a w3 T3 S4).mono ?_
        rintro e w4 ⟨rfl, hle4⟩
        have L4 := hle.trans (hle3.trans hle4)
        have S5 := S3.le hle4
        rw [HF1.out]
        rcases ct_two xs p a eL 0 with ⟨h1, h2⟩ | ⟨r, hr, h1, h2⟩
        · have h1' : firstC xs (eL.map (lnA p)) a 0 = -1 := h1
          rw [h1']
          have HZ : Hid (ctAt xs p a x = -1) := by show _ = _; rw [HX2.out, h2]
          have HF : Hid (coF xs p a E = coF xs p a (E.drop (j + 1))) := by show _ = _; rw [HR.out, HA.out, HZ.out, if_neg (by decide)]
          have HG : Hid (coN xs p a E = (j + 1) + coN xs p a (E.drop (j + 1))) := by show _ = _; rw [HN.out, HB.out, HZ.out, if_neg (by decide)]; omega
          clear h1 h1' h2
          go_wp2
          go_roundw
          case rel => exact ⟨j + 1, by omega, by go_num, rfl, rfl, HF.out, HG.out, L4⟩
          case measure => simp [intOf]; omega
        · have h1' : firstC xs (eL.map (lnA p)) a 0 = (r : Int) := by rw [show (0 : Int) = ((0 : Nat) : Int) from rfl, h1]; omega
          rw [h1']
          obtain ⟨b7, off7, rfl, hb7, c7, -⟩ := S5.int_at (k := r) (by rw [nI_len]; exact hr)
          rw [nI_at hr] at c7
          have HZ : Hid (ctAt xs p a x = (eL[r] : Int)) := by show _ = _; rw [HX2.out, h2]
          have HF : Hid (coF xs p a E = (eL[r] : Int)) := by show _ = _; rw [HR.out, HA.out, HZ.out, if_pos (by omega)]
          have HG : Hid ((coN xs p a E : Int) = (j : Int)) := by show _ = _; rw [HN.out, HB.out, HZ.out, if_pos (by omega)]; rfl
          generalize eL[r] = z at *
          have hr0 : (0 : Int) ≤ (r : Int) := by omega
          have hrn : (r : Int) < (eL.length : Int) := by omega
          have hrb : decide ((0 : Int) ≤ (r : Int)) = true := decide_eq_true hr0
          clear h1 h1' h2
          go_wp2
          try rw [Exit.noGoto_ret]
          exact bodyPost_ret (v := .tuple #[.int .i64 (z : Int), .int .i64 (j : Int)]) (by simp [results, Tryz.results21, go_sem]) rfl ⟨tup2 HF.out.symm HG.out.symm, L0.trans L4⟩
      · have h7b := bf h7
        by_cases h11 : vk = 11
        · subst h11
          by_cases hb1 : vb = 1
          · have hb1b : (vb == 1) = true := by simpa using hb1
            have HZ : Hid (ctAt xs p a x = (x : Int)) := by show _ = _; rw [HX.out, if_neg (by rw [HK.out]; decide), if_pos ⟨HK.out, by rw [HLB.out]; exact hb1⟩]
            have HF : Hid (coF xs p a E = (x : Int)) := by show _ = _; rw [HR.out, HA.out, HZ.out, if_pos (by omega)]
            have HG : Hid ((coN xs p a E : Int) = (j : Int)) := by show _ = _; rw [HN.out, HB.out, HZ.out, if_pos (by omega)]; rfl
            clear hb1 HX HFX HGC
            go_wp2
            try rw [Exit.noGoto_ret]
            exact bodyPost_ret (v := .tuple #[.int .i64 (x : Int), .int .i64 (j : Int)]) (by simp [results, Tryz.results21, go_sem]) rfl ⟨tup2 HF.out.symm HG.out.symm, L0.trans hle⟩
          · have hb1b : (vb == 1) = false := bf hb1
            have HZ : Hid (ctAt xs p a x = -1) := by show _ = _; rw [HX.out, if_neg (by rw [HK.out]; decide), if_neg (by rw [HLB.out]; exact fun h => hb1 h.2)]
            have HF : Hid (coF xs p a E = coF xs p a (E.drop (j + 1))) := by show _ = _; rw [HR.out, HA.out, HZ.out, if_neg (by decide)]
            have HG : Hid (coN xs p a E = (j + 1) + coN xs p a (E.drop (j + 1))) := by show _ = _; rw [HN.out, HB.out, HZ.out, if_neg (by decide)]; omega
            clear HX HFX HGC
            go_wp2
            go_roundw
            case rel => exact ⟨j + 1, by omega, by go_num, rfl, rfl, HF.out, HG.out, hle⟩
            case measure => simp [intOf]; omega
        · have h11b := bf h11
          have HZ : Hid (ctAt xs p a x = -1) := by show _ = _; rw [HX.out, if_neg (by rw [HK.out]; exact h7), if_neg (by rw [HK.out]; exact fun h => h11 h.1)]
          have HF : Hid (coF xs p a E = coF xs p a (E.drop (j + 1))) := by show _ = _; rw [HR.out, HA.out, HZ.out, if_neg (by decide)]
          have HG : Hid (coN xs p a E = (j + 1) + coN xs p a (E.drop (j + 1))) := by show _ = _; rw [HN.out, HB.out, HZ.out, if_neg (by decide)]; omega
          clear HX HFX HGC
          go_wp2
          go_roundw
          case rel => exact ⟨j + 1, by omega, by go_num, rfl, rfl, HF.out, HG.out, hle⟩
          case measure => simp [intOf]; omega
    · obtain rfl : j = E.length := by omega
      have HF : Hid (coF xs p a E = -1) := by show _ = _; rw [HR.out, coF_end hl]
      have HG : Hid ((coN xs p a E : Int) = (E.length : Int)) := by show _ = _; rw [HN.out, coN_end hl]; rfl
      go_wp2
      try rw [Exit.noGoto_ret]
      exact bodyPost_ret (v := .tuple #[.int .i64 (-1), .int .i64 (E.length : Int)]) (by simp [results, Tryz.results21, go_sem]) rfl ⟨tup2 HF.out.symm HG.out.symm, L0.trans hle⟩
set_option maxHeartbeats 1000000 in
theorem iCatcherOf_any (B A : Option Addr) (m c n cap : Nat) (xs : List Cls) (p : List Lin) (i a : Int) (hm : m ≤ 1048576) (w : World) (hT : Sl w B m c xs) (hR : Sl w A n cap p) :
    Calls Tryz.prog 7 #[.agg #[.slice B m c], .slice A n cap, .int .i64 i, .int .i64 a] w fun e w' => e = .returned (.int .i64 (caX xs p i a)) ∧ Le w w' := by
  have HX : Hid (caX xs p i a = cond (glB xs p i && hasK xs a) (coF xs p a (encl p i.toNat)) (-1)) := rfl
  go_enter Tryz.func7, Tryz.ntmps7
  go_wp2_with fail
  obtain ⟨ct, zt, hleB⟩ := box1 w (.slice B m c) 25
  have L0 := hleB
  clear hleB
  generalize w.alloc (.cells #[.slice B m c] 25) = W at *
  refine (hasLine_any B A m c n cap xs p i hm _ (hT.le L0) (hR.le L0)).mono ?_
  rintro e w1 ⟨rfl, hle⟩
  replace ct := (hle.cell zt).trans ct
  replace zt := Nat.lt_of_lt_of_le zt hle.size
  replace L0 := L0.trans hle
  clear hle
  cases h : glB xs p i
  · have HF : Hid (caX xs p i a = -1) := by show _ = _; rw [HX.out, h]; rfl
    go_wp2
    go_ret
    exact ⟨ret_int HF.out.symm, L0⟩
  · obtain ⟨h1, k, rfl, hk⟩ := glB_iff.1 h
    have g := goodP_of h1
    have hp := g.len
    have hel := encl_len p k
    have HEL : Hid (∀ x ∈ encl p k, x < p.length) := fun x hx => by have := encl_lt x hx; omega
    have HY : Hid (caX xs p k a = cond (hasK xs a) (coF xs p a (encl p k)) (-1)) := by show _ = _; rw [HX.out, h]; rfl
    have HGP := Lib.hid g
    obtain rfl := hR.len
    have S1 := hR.le L0
    have T1 := hT.le L0
    clear HX h h1 g hT hR
    go_wp2_with fail
    refine (isClass_any B m c xs a _ T1).mono ?_
    rintro e w2 ⟨rfl, hle⟩
    replace ct := (hle.cell zt).trans ct
    replace zt := Nat.lt_of_lt_of_le zt hle.size
    replace L0 := L0.trans hle
    replace S1 := S1.le hle
    replace T1 := T1.le hle
    clear hle
    cases hk2 : hasK xs a
    · have HF : Hid (caX xs p k a = -1) := by show _ = _; rw [HY.out, hk2]; rfl
      go_wp2
      go_ret
      exact ⟨ret_int HF.out.symm, L0⟩
    · have HF : Hid (caX xs p k a = coF xs p a (encl p k)) := by show _ = _; rw [HY.out, hk2]; rfl
      have HHK := Lib.hid hk2
      clear HY hk2
      have HHO : Hid (∀ (U : World), Sl U A p.length cap p → Calls Tryz.prog 22 #[.slice A p.length cap, .int .i64 k] U fun e w' => ∃ v, e = .returned v ∧ Owd 3 U w' v (nI (encl p k)) ∧ Le U w') := fun U h1 => headsOf_any A p.length cap p k hk (by omega) U h1
      have ct0 : w2.drew.cell? ⟨w.heap.size, 0, none⟩ = some (.slice B m c) := ct
      have L1 := L0.drew
      have S2 := S1.le (Le.refl w2).drew
      have T2 := T1.le (Le.refl w2).drew
      generalize encl p k = E at *
      have HCC : Hid (∀ (U : World) (A2 : Option Addr) (q2 : Nat), Sl U B m c xs → Sl U A p.length cap p → Sl U A2 E.length q2 (nI E) → Calls Tryz.prog 21 #[.agg #[.slice B m c], .slice A p.length cap, .slice A2 E.length q2, .int .i64 a] U fun e w' => e = .returned (.tuple #[.int .i64 (coF xs p a E), .int .i64 (coN xs p a E)]) ∧ Le U w') := fun U A2 q2 h1 h2 h3 => catchAt_any B A A2 m c p.length cap E.length q2 xs p E a HGP.out HHK.out HEL.out (by omega) U h1 h2 h3
      go_wp2_with fail
      refine wp_region_noPanic ?_
      refine wp_region_held_drew (S := fun w' => w'.cell? ⟨w.heap.size, 0, none⟩ = some (.slice B m c)) (by kernel_rfl) ct0 (fun hHeld => ?_)
      refine wpAnyH_takeL (i := 0) (v := ?_) rfl (by kernel_rfl) (by kernel_rfl) (by kernel_rfl) (fun _ _ _ h => h) (Or.inl ⟨by rfl, ?_⟩) (by assumption) ?_
      rotate_left 1
      · (intro w hSw; (try dsimp only at hSw); go_simp; try with_reducible rfl)
      try simp only [Act.put, List.setIfInBounds_toArray, List.set_cons_zero, List.set_cons_succ]
      refine wpAnyH_takeL (i := 1) (v := ?_) rfl (by kernel_rfl) (by kernel_rfl) (by kernel_rfl) (fun _ _ _ h => h) (Or.inl ⟨by rfl, ?_⟩) (by assumption) ?_
      rotate_left 1
      · (intro w hSw; (try dsimp only at hSw); go_simp; try with_reducible rfl)
      try simp only [Act.put, List.setIfInBounds_toArray, List.set_cons_zero, List.set_cons_succ]
      refine wpAnyH_takeL (i := 2) (v := ?_) rfl (by kernel_rfl) (by kernel_rfl) (by kernel_rfl) (fun _ _ _ h => h) (Or.inl ⟨by rfl, ?_⟩) (by assumption) ?_
      rotate_left 1
      · (intro w hSw; (try dsimp only at hSw); go_simp; try with_reducible rfl)
      try simp only [Act.put, List.setIfInBounds_toArray, List.set_cons_zero, List.set_cons_succ]
      refine wpAnyH_takeL (i := 3) (v := ?_) rfl (by kernel_rfl) (by kernel_rfl) (by kernel_rfl) (fun _ _ _ h => h) (Or.inl ⟨by rfl, ?_⟩) (by assumption) ?_
      rotate_left 1
      · (intro w hSw; (try dsimp only at hSw); go_simp; try with_reducible rfl)
      try simp only [Act.put, List.setIfInBounds_toArray, List.set_cons_zero, List.set_cons_succ]
      refine wpAnyH_takeL (i := 5) (v := ?_) rfl (by kernel_rfl) (by kernel_rfl) (by kernel_rfl) (fun _ _ _ h => h) (Or.inl ⟨by rfl, ?_⟩) (by assumption) ?_
      rotate_left 1
      · (intro w hSw; (try dsimp only at hSw); go_simp; try with_reducible rfl)
      try simp only [Act.put, List.setIfInBounds_toArray, List.set_cons_zero, List.set_cons_succ]
      refine wpAnyH_ready (rs := [4]) (by kernel_rfl) (by simp) (AllReadyH.consL (i := 4) rfl (fun K hK => ?_) AllReadyH.nil)
      go_simp
      go_at_call 22
      refine (HHO.out _ S2).mono ?_
      rintro e w3 ⟨v3, rfl, D3, hle⟩
      obtain ⟨A3, q3, rfl, S3, -⟩ := D3.form (by decide)
      rw [nI_len] at S3 ⊢
      have ctC := (hle.cell (show w.heap.size < w2.drew.heap.size from zt)).trans ct0
      have zC := Nat.lt_of_lt_of_le (show w.heap.size < w2.drew.heap.size from zt) hle.size
      refine hK.out _ _ (ctC) (fun hHeld => ?_)
      clear hK K
      try simp only [Act.put, List.setIfInBounds_toArray, List.set_cons_zero, List.set_cons_succ]
      refine wpAnyH_ready (rs := [6]) (by kernel_rfl) (by simp) (AllReadyH.consL (i := 6) rfl (fun K hK => ?_) AllReadyH.nil)
      go_simp
      go_at_call 21
      refine (HCC.out _ A3 q3 (T2.le hle) (S2.le hle) S3).mono ?_
      rintro e w4 ⟨rfl, hle4⟩
      refine hK.out _ _ (((hle4.cell zC).trans ctC)) (fun hHeld => ?_)
      clear hK K
      try simp only [Act.put, List.setIfInBounds_toArray, List.set_cons_zero, List.set_cons_succ]
      refine wpAnyH_takeL (i := 7) (v := ?_) rfl (by kernel_rfl) (by kernel_rfl) (by kernel_rfl) (fun _ _ _ h => h) (Or.inl ⟨by rfl, ?_⟩) (by assumption) ?_
      rotate_left 1
      · (intro w hSw; (try dsimp only at hSw); go_simp; try with_reducible rfl)
      try simp only [Act.put, List.setIfInBounds_toArray, List.set_cons_zero, List.set_cons_succ]
      refine wpAnyH_takeL (i := 8) (v := ?_) rfl (by kernel_rfl) (by kernel_rfl) (by kernel_rfl) (fun _ _ _ h => h) (Or.inl ⟨by rfl, ?_⟩) (by assumption) ?_
      rotate_left 1
      · (intro w hSw; (try dsimp only at hSw); go_simp; try with_reducible rfl)
      try simp only [Act.put, List.setIfInBounds_toArray, List.set_cons_zero, List.set_cons_succ]
      refine wpAnyH_takeL (i := 9) (v := ?_) rfl (by kernel_rfl) (by kernel_rfl) (by kernel_rfl) (fun _ _ _ h => h) (Or.inl ⟨by rfl, ?_⟩) (by assumption) ?_
      rotate_left 1
      · (intro w hSw; (try dsimp only at hSw); go_simp; try with_reducible rfl)
      try simp only [Act.put, List.setIfInBounds_toArray, List.set_cons_zero, List.set_cons_succ]
      refine wpAnyH_takeL (i := 10) (v := ?_) rfl (by kernel_rfl) (by kernel_rfl) (by kernel_rfl) (fun _ _ _ h => h) (Or.inl ⟨by rfl, ?_⟩) (by assumption) ?_
      rotate_left 1
      · (intro w hSw; (try dsimp only at hSw); go_simp; try with_reducible rfl)
      try simp only [Act.put, List.setIfInBounds_toArray, List.set_cons_zero, List.set_cons_succ]
      refine wpAnyH_takeL (i := 11) (v := ?_) rfl (by kernel_rfl) (by kernel_rfl) (by kernel_rfl) (fun _ _ _ h => h) (Or.inl ⟨by rfl, ?_⟩) (by assumption) ?_
      rotate_left 1
      · (intro w hSw; (try dsimp only at hSw); go_simp; try with_reducible rfl)
      try simp only [Act.put, List.setIfInBounds_toArray, List.set_cons_zero, List.set_cons_succ]
      refine wpAnyH_done (by kernel_rfl) ?_ _
      refine NoPanic.normal ?_
      go_wp2
      go_ret
      exact ⟨ret_int HF.out.symm, L1.trans (hle.trans hle4)⟩
end
end
end Go.Proofs.YtgjlmfjmjglplaaGreat
