/- WyT: one text of PhYb, PhZ, PhZs -/
import Derived.Test.YtomdhpfelchjeaaWyC
import Derived.Test.YtomdhpfelchjeaaTyRange
import Derived.Test.YtomdhpfelchjeaaPhI
import Derived.Test.YtomdhpfelchjeaaPhF
import Derived.Test.YtomdhpfelchjeaaPhO
import Derived.Test.YtomdhpfelchjeaaWyM
import Derived.Test.YtomdhpfelchjeaaPhW
import Derived.Test.YtomdhpfelchjeaaPhJ
import Derived.Test.YtomdhpfelchjeaaRg
namespace Go.Proofs.Ytomdhpfelchjeaa
open Go.RowKit
section
def rgOk (xs : List Cls) (r : Rng) : Bool := rng 0 24 r.lo && rng r.lo 24 r.hi && rng 0 23 r.target && hasK xs r.cls
def vrB (xs : List Cls) (L : List Rng) : Bool := okTree xs && decide (L.length ≤ 24) && L.all (rgOk xs)
def luF (xs : List Cls) (i a : Int) : List Rng → Int
  | [] => -1
  | r :: L => if (decide (r.lo ≤ i) && decide (i < r.hi) && isAx xs a r.cls) = true then r.target else luF xs i a L
def luX (xs : List Cls) (L : List Rng) (i a : Int) : Int := cond (vrB xs L) (luF xs i a L) (-1)
theorem luF_at {xs : List Cls} {i a : Int} {L : List Rng} {k : Nat} (h : k < L.length) : luF xs i a (L.drop k) = if (decide (L[k].lo ≤ i) && decide (i < L[k].hi) && isAx xs a L[k].cls) = true then L[k].target else luF xs i a (L.drop (k + 1)) := by rw [List.drop_eq_getElem_cons h]; rfl
theorem luF_end {xs : List Cls} {i a : Int} {L : List Rng} {k : Nat} (h : ¬ k < L.length) : luF xs i a (L.drop k) = -1 := by rw [List.drop_eq_nil_of_le (by omega)]; rfl
theorem luF_no {xs : List Cls} {i a : Int} (ha : hasK xs a = false) : ∀ L, luF xs i a L = -1
  | [] => rfl
  | r :: L => by
    unfold luF
    rw [if_neg (by unfold isAx; rw [ha]; simp), luF_no ha L]
theorem all_at {xs : List Cls} {L : List Rng} {k : Nat} (h : k < L.length) : (L.drop k).all (rgOk xs) = (rgOk xs L[k] && (L.drop (k + 1)).all (rgOk xs)) := by rw [List.drop_eq_getElem_cons h]; rfl
set_option maxHeartbeats 2000000 in
set_option maxRecDepth 100000 in
theorem svalidRanges_any (B A : Option Addr) (m c n cap : Nat) (xs : List Cls) (L : List Rng) (hsm : n ≤ 1048576) (w : World) (hT : Sl w B m c xs) (hR : Sl w A n cap L) :
    Calls Try.prog 64 #[.agg #[.slice B m c], .slice A n cap] w fun e w' => e = .returned (.bool (vrB xs L)) ∧ Le w w' := by
  obtain rfl := hR.len
  obtain rfl := hT.len
  have HX : Hid (vrB xs L = (okTree xs && decide (L.length ≤ 24) && L.all (rgOk xs))) := rfl
  go_enter Try.func64, Try.ntmps64
  go_wp2_with fail
  obtain ⟨ct, zt, hleB⟩ := box1 w (.slice B xs.length c) 25
  have L0 := hleB
  clear hleB
  generalize w.alloc (.cells #[.slice B xs.length c] 25) = W at *
  have S1 := hR.le L0
  have T1 := hT.le L0
  clear hR hT
  go_loopw [5, 6] (fun q _ wr => ∃ k : Nat, k ≤ L.length ∧ q = .int .i64 k ∧ L.all (rgOk xs) = (L.drop k).all (rgOk xs) ∧ Le W wr) (fun q _ _ => L.length - (intOf q).toNat)
  case atStart => exact ⟨0, Nat.zero_le _, rfl, rfl, Le.refl _⟩
  case round =>
    obtain ⟨k, hk, rfl, he, hle⟩ := hrel
    have HE := Lib.hid he; clear he
    have S := S1.le hle
    have T := T1.le hle
    replace ct := (hle.cell zt).trans ct
    replace zt := Nat.lt_of_lt_of_le zt hle.size
    clear S1 T1
    by_cases hlt : k < L.length
    · obtain ⟨b, off, rfl, hb, d0, d1, d2, d3, -⟩ := S.rng_at hlt
      have HA : Hid ((L.drop k).all (rgOk xs) = ((rng 0 24 L[k].lo && rng L[k].lo 24 L[k].hi && rng 0 23 L[k].target && hasK xs L[k].cls) && (L.drop (k + 1)).all (rgOk xs))) := all_at hlt
      generalize L[k].lo = v0 at *
      generalize L[k].hi = v1 at *
      generalize L[k].target = v2 at *
      generalize L[k].cls = v3 at *
      go_wp2_with fail
      obtain ⟨x0, x1, z0, hle2⟩ := box4 wr (.int .i64 v0) (.int .i64 v1) (.int .i64 v2) (.int .i64 v3) 51
      obtain ⟨x2, x3⟩ := box4b wr (.int .i64 v0) (.int .i64 v1) (.int .i64 v2) (.int .i64 v3) 51
      have cX := (hle2.cell zt).trans ct
      have T2 := T.le hle2
      have L2 := hle.trans hle2
      generalize wr.heap.size = X at *
      generalize wr.alloc _ = W2 at *
      refine (rng_any v0 0 24 W2).mono ?_
      rintro e w' ⟨rfl, rfl⟩
      cases r0 : rng 0 24 v0
      · have HF : Hid (vrB xs L = false) := by show _ = _; rw [HX.out, HE.out, HA.out, r0]; simp
        go_wp2
        go_ret
        exact ⟨ret_bool HF.out.symm, L0.trans L2⟩
      · go_wp2_with fail
        refine (rng_any v1 v0 24 W2).mono ?_
        rintro e w' ⟨rfl, rfl⟩
        cases r1 : rng v0 24 v1
        · have HF : Hid (vrB xs L = false) := by show _ = _; rw [HX.out, HE.out, HA.out, r1]; simp
          go_wp2
          go_ret
          exact ⟨ret_bool HF.out.symm, L0.trans L2⟩
        · go_wp2_with fail
          refine (rng_any v2 0 23 W2).mono ?_
          rintro e w' ⟨rfl, rfl⟩
          cases r2 : rng 0 23 v2
          · have HF : Hid (vrB xs L = false) := by show _ = _; rw [HX.out, HE.out, HA.out, r2]; simp
            go_wp2
            go_ret
            exact ⟨ret_bool HF.out.symm, L0.trans L2⟩
          · go_wp2_with fail
            refine (hasClass_any B xs.length c xs v3 W2 T2).mono ?_
            rintro e w3 ⟨rfl, hle3⟩
            cases r3 : hasK xs v3
            · have HF : Hid (vrB xs L = false) := by show _ = _; rw [HX.out, HE.out, HA.out, r3]; simp
              go_wp2
              go_ret
              exact ⟨ret_bool HF.out.symm, L0.trans (L2.trans hle3)⟩
            · have HF : Hid (L.all (rgOk xs) = (L.drop (k + 1)).all (rgOk xs)) := by show _ = _; rw [HE.out, HA.out, r0, r1, r2, r3]; rfl
              go_wp2
              go_roundw
              case rel => exact ⟨k + 1, by omega, by go_num, HF.out, L2.trans hle3⟩
              case measure => simp [intOf]; omega
    · obtain rfl : k = L.length := by omega
      have HY : Hid (vrB xs L = (okTree xs && decide (L.length ≤ 24))) := by show _ = _; rw [HX.out, HE.out, List.drop_length]; simp
      clear HX HE
      go_wp2_with fail
      refine (validTree_any B xs.length c xs wr T).mono ?_
      rintro e w2 ⟨rfl, hl2⟩
      cases ht : okTree xs
      · have HF : Hid (vrB xs L = false) := by show _ = _; rw [HY.out, ht]; rfl
        go_wp2
        go_ret
        exact ⟨ret_bool HF.out.symm, L0.trans (hle.trans hl2)⟩
      · have HF : Hid (vrB xs L = decide ((L.length : Int) ≤ 24)) := by show _ = _; rw [HY.out, ht, Bool.true_and]; exact decide_eq_decide.2 (by omega)
        go_wp2
        go_ret
        exact ⟨ret_bool HF.out.symm, L0.trans (hle.trans hl2)⟩
set_option maxHeartbeats 2000000 in
set_option maxRecDepth 100000 in
theorem ivalidRanges_any (B A : Option Addr) (m c n cap : Nat) (xs : List Cls) (L : List Rng) (w : World) (hT : Sl w B m c xs) (hR : Sl w A n cap L) :
    Calls Try.prog 62 #[.agg #[.slice B m c], .slice A n cap] w fun e w' => e = .returned (.bool (vrB xs L)) ∧ Le w w' := by
  obtain rfl := hR.len
  obtain rfl := hT.len
  have hnl := hR.n_le
  have HX : Hid (vrB xs L = (okTree xs && decide (L.length ≤ 24) && L.all (rgOk xs))) := rfl
  go_enter Try.func62, Try.ntmps62
  go_wp2_with fail
  obtain ⟨ct, zt, hleB⟩ := box1 w (.slice B xs.length c) 25
  have L0 := hleB
  clear hleB
  generalize w.alloc (.cells #[.slice B xs.length c] 25) = W at *
  refine (iValidTree_any B xs.length c xs _ (hT.le L0)).mono ?_
  rintro e w1 ⟨rfl, hle⟩
  replace ct := (hle.cell zt).trans ct
  replace zt := Nat.lt_of_lt_of_le zt hle.size
  replace L0 := L0.trans hle
  clear hle
  cases ht : okTree xs
  · have HF : Hid (vrB xs L = false) := by show _ = _; rw [HX.out, ht]; rfl
    clear HX
    go_wp2
    go_ret
    exact ⟨ret_bool HF.out.symm, L0⟩
  · by_cases h24 : 24 < L.length
    · have h24b : decide ((24 : Int) < (L.length : Int)) = true := decide_eq_true (by omega)
      have HF : Hid (vrB xs L = false) := by show _ = _; rw [HX.out, ht, decide_eq_false (by omega)]; rfl
      clear HX
      go_wp2
      go_ret
      exact ⟨ret_bool HF.out.symm, L0⟩
    · have h24b : decide ((24 : Int) < (L.length : Int)) = false := decide_eq_false (by omega)
      have HY : Hid (vrB xs L = L.all (rgOk xs)) := by show _ = _; rw [HX.out, ht, decide_eq_true (by omega), Bool.true_and, Bool.true_and]
      clear HX
      have S1 := hR.le L0
      have T1 := hT.le L0
      clear hR hT
      go_wp2
      go_loopw [6, 7, 18] (fun _ _ q wr => ∃ k : Nat, k ≤ L.length ∧ q = .int .i64 k ∧ L.all (rgOk xs) = (L.drop k).all (rgOk xs) ∧ Le w1 wr) (fun _ _ q _ => L.length - (intOf q).toNat)
      case atStart => exact ⟨0, Nat.zero_le _, rfl, rfl, Le.refl _⟩
      case round =>
        obtain ⟨k, hk, rfl, he, hle⟩ := hrel
        have HE := Lib.hid he; clear he
        have S := S1.le hle
        have T := T1.le hle
        replace ct := (hle.cell zt).trans ct
        replace zt := Nat.lt_of_lt_of_le zt hle.size
        clear S1 T1
        by_cases hlt : k < L.length
        · obtain ⟨b, off, rfl, hb, d0, d1, d2, d3, -⟩ := S.rng_at hlt
          have HA : Hid ((L.drop k).all (rgOk xs) = ((rng 0 24 L[k].lo && rng L[k].lo 24 L[k].hi && rng 0 23 L[k].target && hasK xs L[k].cls) && (L.drop (k + 1)).all (rgOk xs))) := all_at hlt
          generalize L[k].lo = v0 at *
          generalize L[k].hi = v1 at *
          generalize L[k].target = v2 at *
          generalize L[k].cls = v3 at *
          go_wp2_with fail
          obtain ⟨x0, x1, z0, hle2⟩ := box4 wr (.int .i64 v0) (.int .i64 v1) (.int .i64 v2) (.int .i64 v3) 51
          obtain ⟨x2, x3⟩ := box4b wr (.int .i64 v0) (.int .i64 v1) (.int .i64 v2) (.int .i64 v3) 51
          have cX := (hle2.cell zt).trans ct
          have T2 := T.le hle2
          have L2 := hle.trans hle2
          clear d0 d1 d2 d3
          generalize wr.heap.size = X at *
          generalize wr.alloc _ = W2 at *
          refine (iRange_any v0 0 24 W2).mono ?_
          rintro e w' ⟨rfl, rfl⟩
          cases r0 : rng 0 24 v0
          · have HF : Hid (vrB xs L = false) := by show _ = _; rw [HY.out, HE.out, HA.out, r0]; simp
            go_wp2
            go_ret
            exact ⟨ret_bool HF.out.symm, L0.trans L2⟩
          · go_wp2_with fail
            refine (iRange_any v1 v0 24 W2).mono ?_
            rintro e w' ⟨rfl, rfl⟩
            cases r1 : rng v0 24 v1
            · have HF : Hid (vrB xs L = false) := by show _ = _; rw [HY.out, HE.out, HA.out, r1]; simp
              go_wp2
              go_ret
              exact ⟨ret_bool HF.out.symm, L0.trans L2⟩
            · go_wp2_with fail
              refine (iRange_any v2 0 23 W2).mono ?_
              rintro e w' ⟨rfl, rfl⟩
              cases r2 : rng 0 23 v2
              · have HF : Hid (vrB xs L = false) := by show _ = _; rw [HY.out, HE.out, HA.out, r2]; simp
                go_wp2
                go_ret
                exact ⟨ret_bool HF.out.symm, L0.trans L2⟩
              · go_wp2_with fail
                refine (isClass_any B xs.length c xs v3 W2 T2).mono ?_
                rintro e w3 ⟨rfl, hle3⟩
                cases r3 : hasK xs v3
                · have HF : Hid (vrB xs L = false) := by show _ = _; rw [HY.out, HE.out, HA.out, r3]; simp
                  go_wp2
                  go_ret
                  exact ⟨ret_bool HF.out.symm, L0.trans (L2.trans hle3)⟩
                · have HF : Hid (L.all (rgOk xs) = (L.drop (k + 1)).all (rgOk xs)) := by show _ = _; rw [HE.out, HA.out, r0, r1, r2, r3]; rfl
                  go_wp2
                  go_roundw
                  case rel => exact ⟨k + 1, by omega, by go_num, HF.out, L2.trans hle3⟩
                  case measure => simp [intOf]; omega
        · obtain rfl : k = L.length := by omega
          have HF : Hid (vrB xs L = true) := by show _ = _; rw [HY.out, HE.out, List.drop_length]; rfl
          go_wp2
          go_ret
          exact ⟨ret_bool HF.out.symm, L0.trans hle⟩
theorem vr_len {xs : List Cls} {L : List Rng} (h : vrB xs L = true) : L.length ≤ 24 ∧ okTree xs = true ∧ ∀ r ∈ L, rgOk xs r = true := by
  unfold vrB at h
  rw [Bool.and_eq_true, Bool.and_eq_true, decide_eq_true_eq, List.all_eq_true] at h
  exact ⟨h.1.2, h.1.1, h.2⟩
set_option maxHeartbeats 2000000 in
set_option maxRecDepth 100000 in
theorem iLookUp_any (B A : Option Addr) (m c n cap : Nat) (xs : List Cls) (L : List Rng) (i a : Int) (w : World) (hT : Sl w B m c xs) (hR : Sl w A n cap L) :
    Calls Try.prog 29 #[.agg #[.slice B m c], .slice A n cap, .int .i64 i, .int .i64 a] w fun e w' => e = .returned (.int .i64 (luX xs L i a)) ∧ Le w w' := by
  have HX : Hid (luX xs L i a = cond (vrB xs L) (luF xs i a L) (-1)) := rfl
  go_enter Try.func29, Try.ntmps29
  go_wp2_with fail
  obtain ⟨ct, zt, hleB⟩ := box1 w (.slice B m c) 25
  have L0 := hleB
  clear hleB
  generalize w.alloc (.cells #[.slice B m c] 25) = W at *
  refine (ivalidRanges_any B A m c n cap xs L _ (hT.le L0) (hR.le L0)).mono ?_
  rintro e w1 ⟨rfl, hle⟩
  replace ct := (hle.cell zt).trans ct
  replace zt := Nat.lt_of_lt_of_le zt hle.size
  replace L0 := L0.trans hle
  clear hle
  cases h : vrB xs L
  · have HF : Hid (luX xs L i a = -1) := by show _ = _; rw [HX.out, h]; rfl
    go_wp2
    go_ret
    exact ⟨ret_int HF.out.symm, L0⟩
  · have HY : Hid (luX xs L i a = luF xs i a L) := by show _ = _; rw [HX.out, h]; rfl
    have hl := (vr_len h).1
    obtain rfl := hR.len
    have S1 := hR.le L0
    have T1 := hT.le L0
    clear HX hR hT
    go_wp2
    go_loopw [10, 17] (fun _ q wr => ∃ k : Nat, k ≤ L.length ∧ q = .int .i64 k ∧ luF xs i a L = luF xs i a (L.drop k) ∧ Le w1 wr) (fun _ q _ => L.length - (intOf q).toNat)
    case atStart => exact ⟨0, Nat.zero_le _, rfl, rfl, Le.refl _⟩
    case round =>
      obtain ⟨k, hk, rfl, he, hle⟩ := hrel
      have HE := Lib.hid he; clear he
      have S := S1.le hle
      have T := T1.le hle
      replace ct := (hle.cell zt).trans ct
      replace zt := Nat.lt_of_lt_of_le zt hle.size
      clear S1 T1
      by_cases hlt : k < L.length
      · obtain ⟨b, off, rfl, hb, d0, d1, d2, d3, -⟩ := S.rng_at hlt
        have HA := Lib.hid (luF_at (xs := xs) (i := i) (a := a) hlt)
        generalize L[k].lo = v0 at *
        generalize L[k].hi = v1 at *
        generalize L[k].target = v2 at *
        generalize L[k].cls = v3 at *
        obtain ⟨x0, x1, z0, hle2⟩ := box4 wr (.int .i64 v0) (.int .i64 v1) (.int .i64 v2) (.int .i64 v3) 51
        obtain ⟨x2, x3⟩ := box4b wr (.int .i64 v0) (.int .i64 v1) (.int .i64 v2) (.int .i64 v3) 51
        have cX := (hle2.cell zt).trans ct
        have T2 := T.le hle2
        have L2 := hle.trans hle2
        cases r0 : decide (v0 ≤ i)
        · have HF : Hid (luF xs i a L = luF xs i a (L.drop (k + 1))) := by show _ = _; rw [HE.out, HA.out, r0, if_neg (by simp)]
          go_wp2
          go_roundw
          case rel => exact ⟨k + 1, by omega, by go_num, HF.out, L2⟩
          case measure => simp [intOf]; omega
        · cases r1 : decide (i < v1)
          · have HF : Hid (luF xs i a L = luF xs i a (L.drop (k + 1))) := by show _ = _; rw [HE.out, HA.out, r1, if_neg (by simp)]
            go_wp2
            go_roundw
            case rel => exact ⟨k + 1, by omega, by go_num, HF.out, L2⟩
            case measure => simp [intOf]; omega
          · go_wp2_with fail
            refine (iIsA_any B m c xs a v3 _ T2).mono ?_
            rintro e w3 ⟨rfl, hle3⟩
            have x5 := (hle3.cell z0).trans x2
            cases r2 : isAx xs a v3
            · have HF : Hid (luF xs i a L = luF xs i a (L.drop (k + 1))) := by show _ = _; rw [HE.out, HA.out, r2, if_neg (by simp)]
              go_wp2
              go_roundw
              case rel => exact ⟨k + 1, by omega, by go_num, HF.out, L2.trans hle3⟩
              case measure => simp [intOf]; omega
            · have HF : Hid (luX xs L i a = v2) := by show _ = _; rw [HY.out, HE.out, HA.out, r0, r1, r2]; rfl
              go_wp2
              go_ret
              exact ⟨ret_int HF.out.symm, L0.trans (L2.trans hle3)⟩
      · have HF : Hid (luX xs L i a = -1) := by show _ = _; rw [HY.out, HE.out, luF_end hlt]
        go_wp2
        go_ret
        exact ⟨ret_int HF.out.symm, L0.trans hle⟩
set_option maxHeartbeats 2000000 in
set_option maxRecDepth 100000 in
theorem sLookUp_any (B A : Option Addr) (m c n cap : Nat) (xs : List Cls) (L : List Rng) (i a : Int) (hsm : n ≤ 1048576) (w : World) (hT : Sl w B m c xs) (hR : Sl w A n cap L) :
    Calls Try.prog 31 #[.agg #[.slice B m c], .slice A n cap, .int .i64 i, .int .i64 a] w fun e w' => e = .returned (.int .i64 (luX xs L i a)) ∧ Le w w' := by
  have HX : Hid (luX xs L i a = cond (vrB xs L) (luF xs i a L) (-1)) := rfl
  go_enter Try.func31, Try.ntmps31
  go_wp2_with fail
  obtain ⟨ct, zt, hleB⟩ := box1 w (.slice B m c) 25
  have L0 := hleB
  clear hleB
  generalize w.alloc (.cells #[.slice B m c] 25) = W at *
  refine (svalidRanges_any B A m c n cap xs L hsm _ (hT.le L0) (hR.le L0)).mono ?_
  rintro e w1 ⟨rfl, hle⟩
  replace ct := (hle.cell zt).trans ct
  replace zt := Nat.lt_of_lt_of_le zt hle.size
  replace L0 := L0.trans hle
  clear hle
  cases h : vrB xs L
  · have HF : Hid (luX xs L i a = -1) := by show _ = _; rw [HX.out, h]; rfl
    go_wp2
    go_ret
    exact ⟨ret_int HF.out.symm, L0⟩
  · have HY : Hid (luX xs L i a = luF xs i a L) := by show _ = _; rw [HX.out, h]; rfl
    have hl := (vr_len h).1
    have hok := (vr_len h).2.1
    have HRO := Lib.hid (vr_len h).2.2
    obtain rfl := hR.len
    have S1 := hR.le L0
    have T1 := hT.le L0
    clear HX hR hT h
    go_wp2_with fail
    refine (hasClass_any B m c xs a _ T1).mono ?_
    rintro e w2 ⟨rfl, hle⟩
    replace ct := (hle.cell zt).trans ct
    replace zt := Nat.lt_of_lt_of_le zt hle.size
    replace L0 := L0.trans hle
    replace S1 := S1.le hle
    replace T1 := T1.le hle
    clear hle
    cases hk : hasK xs a
    · have HF : Hid (luX xs L i a = -1) := by show _ = _; rw [HY.out, luF_no hk]
      go_wp2
      go_ret
      exact ⟨ret_int HF.out.symm, L0⟩
    · go_wp2
      have ha := hasK_iff.1 hk
      have HG := Lib.hid (good_of hok)
      have HIA : Hid (∀ b, hasK xs b = true → isAx xs a b = isAL xs a b) := fun b hb => by unfold isAx; rw [hok, hk, hb]; rfl
      go_loopw [9] (fun q wr => ∃ k : Nat, k ≤ L.length ∧ q = .int .i64 k ∧ luF xs i a L = luF xs i a (L.drop k) ∧ Le w2 wr) (fun q _ => L.length - (intOf q).toNat)
      case atStart => exact ⟨0, Nat.zero_le _, rfl, rfl, Le.refl _⟩
      case round =>
        obtain ⟨k, hk, rfl, he, hle⟩ := hrel
        have HE := Lib.hid he; clear he
        have S := S1.le hle
        have T := T1.le hle
        replace ct := (hle.cell zt).trans ct
        replace zt := Nat.lt_of_lt_of_le zt hle.size
        clear S1 T1
        by_cases hlt : k < L.length
        · have hr := HRO.out L[k] (List.getElem_mem hlt)
          obtain ⟨b, off, rfl, hb, d0, d1, d2, d3, -⟩ := S.rng_at hlt
          have HA := Lib.hid (luF_at (xs := xs) (i := i) (a := a) hlt)
          unfold rgOk at hr
          generalize L[k].lo = v0 at *
          generalize L[k].hi = v1 at *
          generalize L[k].target = v2 at *
          generalize L[k].cls = v3 at *
          simp only [Bool.and_eq_true, rng_iff] at hr
          obtain ⟨⟨⟨hr0, hr1⟩, hr2⟩, hr3⟩ := hr
          have HI3 := Lib.hid (HIA.out v3 hr3)
          have hw1 : IntKind.i64.wrap (v1 - 1) = v1 - 1 := IntWalk.i64_in _ (by omega)
          have HRR : Hid ((decide (v0 ≤ i) && decide (i < v1)) = rng v0 (v1 - 1) i) := by show _ = _; rw [Bool.eq_iff_iff, Bool.and_eq_true, decide_eq_true_eq, decide_eq_true_eq, rng_iff]; omega
          clear hr0 hr1 hr2 hr3
          have Et := cell_ext zt ct
          have E0 := cell_ext hb d0
          have E1 := cell_ext hb d1
          have E3 := cell_ext hb d3
          have hcr : ∀ U : World, Calls Try.prog 66 #[.int .i64 i, .int .i64 v0, .int .i64 (v1 - 1)] U fun e w' => e = .returned (.bool (rng v0 (v1 - 1) i)) ∧ U = w' := fun U => rng_any i v0 (v1 - 1) U
          have hca : ∀ (g : Ext wr) (_ : True), Calls Try.prog 67 #[.agg #[.slice B m c], .int .i64 a, .int .i64 v3] (wr.ext g) fun e w' => e = .returned (.bool (isAL xs a v3)) ∧ Le (wr.ext g) w' := fun g _ => isA_any B m c xs a v3 _ (T.le (Le.ext wr g)) HG.out (by omega) (by omega)
          have hkx0 : (0 : Int) ≤ (k : Int) := by omega
          have hkxn : (k : Int) < (L.length : Int) := by omega
          clear ct d0 d1 d3
          generalize rng v0 (v1 - 1) i = q0 at *
          generalize isAL xs a v3 = q1 at *
          go_wp2_with fail
          cases q0
          · have HF : Hid (luF xs i a L = luF xs i a (L.drop (k + 1))) := by show _ = _; rw [HE.out, HA.out, HRR.out, if_neg (by simp)]
            refine wp_region_ext (by kernel_rfl) (by kernel_rfl) ?_
            repeat (go_big_quiet_step (first | (go_at_call 66; exact Calls.ext_same (hcr _)) | (go_at_call 67; exact Calls.ext_of (hca _ trivial))))
            refine wpQuiet_nil ?_
            intro _ hw'
            obtain ⟨gg, rfl⟩ := hw'
            have hw1 := Le.ext wr gg
            generalize wr.ext gg = W2 at *
            go_wp2
            go_roundw
            case rel => exact ⟨k + 1, by omega, by go_num, HF.out, hle.trans hw1⟩
            case measure => simp [intOf]; omega
          · cases q1
            · have HF : Hid (luF xs i a L = luF xs i a (L.drop (k + 1))) := by show _ = _; rw [HE.out, HA.out, HRR.out, HI3.out, if_neg (by simp)]
              refine wp_region_ext (by kernel_rfl) (by kernel_rfl) ?_
              repeat (go_big_quiet_step (first | (go_at_call 66; exact Calls.ext_same (hcr _)) | (go_at_call 67; exact Calls.ext_of (hca _ trivial))))
              refine wpQuiet_nil ?_
              intro _ hw'
              obtain ⟨gg, rfl⟩ := hw'
              have hw1 := Le.ext wr gg
              generalize wr.ext gg = W2 at *
              go_wp2
              go_roundw
              case rel => exact ⟨k + 1, by omega, by go_num, HF.out, hle.trans hw1⟩
              case measure => simp [intOf]; omega
            · have HF : Hid (luX xs L i a = v2) := by show _ = _; rw [HY.out, HE.out, HA.out, HRR.out, HI3.out]; rfl
              refine wp_region_ext (by kernel_rfl) (by kernel_rfl) ?_
              repeat (go_big_quiet_step (first | (go_at_call 66; exact Calls.ext_same (hcr _)) | (go_at_call 67; exact Calls.ext_of (hca _ trivial))))
              refine wpQuiet_nil ?_
              intro _ hw'
              obtain ⟨gg, rfl⟩ := hw'
              have hw1 := Le.ext wr gg
              generalize wr.ext gg = W2 at *
              replace d2 := (hw1.cell hb).trans d2
              go_wp2
              go_ret
              exact ⟨ret_int HF.out.symm, L0.trans (hle.trans hw1)⟩
        · have HF : Hid (luX xs L i a = -1) := by show _ = _; rw [HY.out, HE.out, luF_end hlt]
          go_wp2
          go_ret
          exact ⟨ret_int HF.out.symm, L0.trans hle⟩
end

section
instance instOneRng : EncOne Rng := ⟨by decide, fun x u hu => by simp [Enc.cells] at hu; rcases hu with rfl | rfl | rfl | rfl <;> rfl⟩
theorem infoRg : (Try.prog.info? 51).map (fun i => (i.zero, i.size, i.bytes)) = some (some (.agg #[.int .i64 0, .int .i64 0, .int .i64 0, .int .i64 0]), 4, 32) := by kernel_rfl
def lnB (p : List Lin) (i : Nat) : Int := match p[i]? with | some x => x.b | none => 0
theorem lnB_at {p : List Lin} {i : Nat} (h : i < p.length) : lnB p i = p[i].b := by unfold lnB; rw [List.getElem?_eq_getElem h]
/-- the range of a line that catches in the block of a line -/
def rgL (p : List Lin) (i k : Nat) : Rng := ⟨(i : Int) + 1, (bEnd p i : Int), (k : Int), lnA p k⟩
def rgW (p : List Lin) (i : Nat) : Rng := ⟨(i : Int) + 1, (bEnd p i : Int), (i : Int), 0⟩
/-- the ranges of a line -/
def tbAt (p : List Lin) (i : Nat) : List Rng := if knd p i = 7 then (exL p i).map (rgL p i) else if knd p i = 11 ∧ lnB p i = 1 then [rgW p i] else []
/-- the ranges of the last lines -/
def tbD (p : List Lin) : Nat → List Rng
  | 0 => []
  | m + 1 => tbD p m ++ tbAt p (p.length - 1 - m)
theorem tbAt_len (p : List Lin) (i : Nat) : (tbAt p i).length ≤ p.length + 1 := by
  unfold tbAt
  split
  · rw [List.length_map]; exact Nat.le_trans (exF_len _ _) (parts_len p i)
  · split <;> simp
theorem tbD_len (p : List Lin) : ∀ m, (tbD p m).length ≤ m * (p.length + 1)
  | 0 => by simp [tbD]
  | m + 1 => by
    unfold tbD
    rw [List.length_append, Nat.succ_mul]
    have := tbD_len p m
    have := tbAt_len p (p.length - 1 - m)
    omega
theorem rgL_ok {p : List Lin} {i k : Nat} (hp : ∀ x ∈ p, Enc.ok x) (hi : i < p.length) (hk : k < p.length) (hsm : p.length ≤ 1048576) : Enc.ok (rgL p i k) := by
  have h1 := bEnd_le hi
  have h2 := hp _ (List.getElem_mem hk)
  unfold rgL
  rw [lnA_at hk]
  exact ⟨show (-9223372036854775808 : Int) ≤ (i : Int) + 1 by omega, show (i : Int) + 1 ≤ 9223372036854775807 by omega, show (-9223372036854775808 : Int) ≤ (bEnd p i : Int) by omega, show (bEnd p i : Int) ≤ 9223372036854775807 by omega, show (-9223372036854775808 : Int) ≤ (k : Int) by omega, show (k : Int) ≤ 9223372036854775807 by omega, h2.2.2.2.2.1, h2.2.2.2.2.2.1⟩
theorem rgW_ok {p : List Lin} {i : Nat} (hi : i < p.length) (hsm : p.length ≤ 1048576) : Enc.ok (rgW p i) := by
  have h1 := bEnd_le hi
  unfold rgW
  exact ⟨show (-9223372036854775808 : Int) ≤ (i : Int) + 1 by omega, show (i : Int) + 1 ≤ 9223372036854775807 by omega, show (-9223372036854775808 : Int) ≤ (bEnd p i : Int) by omega, show (bEnd p i : Int) ≤ 9223372036854775807 by omega, show (-9223372036854775808 : Int) ≤ (i : Int) by omega, show (i : Int) ≤ 9223372036854775807 by omega, show (-9223372036854775808 : Int) ≤ 0 by omega, show (0 : Int) ≤ 9223372036854775807 by omega⟩
theorem tbD_ok {p : List Lin} (hp : ∀ x ∈ p, Enc.ok x) (hsm : p.length ≤ 1048576) : ∀ m, m ≤ p.length → ∀ x ∈ tbD p m, Enc.ok x
  | 0, _, x, h => nomatch h
  | m + 1, hm, x, h => by
    unfold tbD at h
    rcases List.mem_append.1 h with h | h
    · exact tbD_ok hp hsm m (by omega) x h
    · have hi : p.length - 1 - m < p.length := by omega
      unfold tbAt at h
      split at h
      · obtain ⟨k, hk, rfl⟩ := List.mem_map.1 h
        exact rgL_ok hp hi (parts_lt hi k (List.mem_filter.1 hk).1) hsm
      · split at h
        · rw [List.mem_singleton.1 h]; exact rgW_ok hi hsm
        · cases h
def tbX (xs : List Cls) (p : List Lin) : List Rng := cond (vp xs p) (tbD p p.length) []
theorem tbX_len (xs : List Cls) (p : List Lin) : (tbX xs p).length ≤ 1048576 := by
  unfold tbX
  cases h : vp xs p
  · simp
  · have h1 := (goodP_of h).len
    have h2 := tbD_len p p.length
    have h3 : p.length * (p.length + 1) ≤ 24 * 25 := Nat.mul_le_mul h1 (by omega)
    show (tbD p p.length).length ≤ _
    omega
theorem tb_step {p : List Lin} {k : Nat} (hk : k < p.length) : tbD p (p.length - k) = tbD p (p.length - (k + 1)) ++ tbAt p k := by
  rw [show p.length - k = (p.length - (k + 1)) + 1 by omega]
  show tbD p (p.length - (k + 1)) ++ tbAt p (p.length - 1 - (p.length - (k + 1))) = _
  rw [show p.length - 1 - (p.length - (k + 1)) = k by omega]
theorem tb_bound {p : List Lin} (hp : p.length ≤ 24) (k : Nat) (hk : k ≤ 24) : (tbD p k).length ≤ 600 := by
  have h2 := tbD_len p k
  have h3 : k * (p.length + 1) ≤ 24 * 25 := Nat.mul_le_mul hk (by omega)
  omega
theorem size_alloc1 (w : World) (o : Obj) : (w.alloc o).heap.size = w.heap.size + 1 := by simp
theorem apart_new {v u : Value} {b m : Nat} (h : v.ownBlock ≠ some b ∧ b < m) (hat : u.ownBlock = v.ownBlock ∨ u.ownBlock = some (m + 1)) : u.ownBlock ≠ some b := by
  rcases hat with e | e
  · rw [e]; exact h.1
  · rw [e]; intro e2; injection e2 with e2; omega
set_option maxHeartbeats 2000000 in
set_option maxRecDepth 100000 in
theorem iTableOf_any (B A : Option Addr) (m c n cap : Nat) (xs : List Cls) (p : List Lin) (hm : m ≤ 1048576) (w : World) (hT : Sl w B m c xs) (hR : Sl w A n cap p) :
    Calls Try.prog 26 #[.agg #[.slice B m c], .slice A n cap] w fun e w' => ∃ v, e = .returned v ∧ Owd 51 w w' v (tbX xs p) ∧ Le w w' := by
  obtain ⟨i0, hq, hz0, hz1, hz2⟩ := info_parts infoRg
  have HX : Hid (tbX xs p = cond (vp xs p) (tbD p p.length) []) := rfl
  go_enter Try.func26, Try.ntmps26
  go_wp2_with fail
  obtain ⟨ct, zt, hleB⟩ := box1 w (.slice B m c) 25
  have L0 := hleB
  clear hleB
  generalize w.alloc (.cells #[.slice B m c] 25) = W at *
  refine (pValidProgram_any B A m c n cap xs p hm _ (hT.le L0) (hR.le L0)).mono ?_
  rintro e w1 ⟨rfl, hle⟩
  have L1 := L0.trans hle
  cases h : vp xs p
  · have HO : Hid (Owd 51 w w1 (.slice none 0 0) (tbX xs p)) := by show Owd _ _ _ _ _; rw [HX.out, h]; exact Owd.nil _ _ _
    go_wp2
    go_ret
    exact ⟨_, rfl, HO.out, L1⟩
  · have HY : Hid (tbX xs p = tbD p p.length) := by show _ = _; rw [HX.out, h]; rfl
    have hp := (goodP_of h).len
    obtain rfl := hR.len
    have HRO := Lib.hid hR.ok
    have HOK := Lib.hid (tbD_ok hR.ok (by omega) p.length (Nat.le_refl _))
    have HBD := Lib.hid (tb_bound hp)
    have S1 := hR.le L1
    have hwn : IntKind.i64.wrap ((p.length : Int) - 1) = (p.length : Int) - 1 := IntWalk.i64_in _ (by omega)
    clear HX hT hR L0 hle ct zt
    go_wp2
    have O0 : w1.ownsRow w1.heap.size 51 4 (.slice none 0 0) (tbD p 0).length ((tbD p 0).flatMap Enc.cells) := World.ownsRow_nil _ _ _ _
    go_loopw [5, 6, 7, 8, 9, 10, 11, 12] (fun v q _ _ _ _ _ _ wr => ∃ k : Nat, k ≤ p.length ∧ q = .int .i64 ((k : Int) - 1) ∧ wr.ownsRow w1.heap.size 51 4 v (tbD p (p.length - k)).length ((tbD p (p.length - k)).flatMap Enc.cells) ∧ Le w1 wr) (fun _ q _ _ _ _ _ _ _ => (intOf q + 1).toNat)
    case atStart => exact ⟨p.length, Nat.le_refl _, rfl, by rw [Nat.sub_self]; exact O0, Le.refl _⟩
    case round =>
      obtain ⟨k, hk, rfl, O1, L⟩ := hrel
      have T := S1.le L
      have hLs := L.size
      clear O0
      cases k with
      | zero =>
        have HF : Hid (∀ v, wr.ownsRow w1.heap.size 51 4 v (tbD p (p.length - 0)).length ((tbD p (p.length - 0)).flatMap Enc.cells) → Owd 51 w wr v (tbX xs p)) := fun v hv => ⟨own_mono (by rw [HY.out]; exact hv) L1.size, by rw [HY.out]; exact HOK.out⟩
        have hneg : ¬ (0 : Int) ≤ ((0 : Nat) : Int) - 1 := by omega
        go_wp2
        go_ret
        exact ⟨_, rfl, HF.out _ O1, L1.trans L⟩
      | succ j =>
        have hjl : j < p.length := by omega
        have hkk : (((j + 1 : Nat) : Int) - 1) = (j : Int) := by omega
        have hj0 : (0 : Int) ≤ (j : Int) := by omega
        have hjn : (j : Int) < (p.length : Int) := by omega
        have hwj : IntKind.i64.wrap ((j : Int) - 1) = (j : Int) - 1 := IntWalk.i64_in _ (by omega)
        have hwj1 : IntKind.i64.wrap ((j : Int) + 1) = (j : Int) + 1 := IntWalk.i64_in _ (by omega)
        rw [hkk]
        have HST := Lib.hid (tb_step hjl)
        have hTl := HBD.out (p.length - (j + 1)) (by omega)
        have HAT : Hid (tbAt p j = if knd p j = 7 then (exL p j).map (rgL p j) else if knd p j = 11 ∧ lnB p j = 1 then [rgW p j] else []) := rfl
        have HKJ := Lib.hid (knd_at hjl)
        have HBJ := Lib.hid (lnB_at hjl)
        have HEL : Hid (∀ x ∈ exL p j, x < p.length) := fun x hx => parts_lt hjl x (List.mem_filter.1 hx).1
        have hell : (exL p j).length ≤ p.length + 1 := Nat.le_trans (exF_len _ _) (parts_len p j)
        have HRL : Hid (∀ x, x < p.length → Enc.ok (rgL p j x)) := fun x hx => rgL_ok HRO.out hjl hx (by omega)
        have hokW := rgW_ok hjl (by omega)
        generalize tbD p (p.length - (j + 1)) = TB at *
        go_wp2_with fail
        refine (iBlockEnd_any _ p.length cap p j hjl wr T).mono ?_
        rintro e w2 ⟨rfl, hle2⟩
        have O2 := own_le O1 hle2
        have L2 := L.trans hle2
        have T2 := T.le hle2
        obtain ⟨b, off, rfl, hb, d0, d1, d2, d3, -⟩ := T2.lin_at hjl
        generalize p[j].kind = vk at *
        generalize p[j].b = vb at *
        clear T O1 L hle2 d0 d2
        by_cases h7 : vk = 7
        · subst h7
          have HN : Hid (tbD p (p.length - j) = TB ++ (exL p j).map (rgL p j)) := by show _ = _; rw [HST.out, HAT.out, if_pos HKJ.out]
          clear HST HAT
          go_wp2_with fail
          refine (exceptsOf_any _ p.length cap p j hjl (by omega) w2 T2).mono ?_
          rintro e w3 ⟨v3, u3, rfl, D3, D4, hle3⟩
          obtain ⟨A3, q3, rfl, S3, hB3⟩ := D3.form (by decide)
          obtain ⟨A4, q4, rfl, S4, hB4⟩ := D4.form (by decide)
          have HOL := Lib.hid (fun k hk => (O2.lt k hk).2)
          have O3 := own_le O2 hle3
          have L3 := L2.trans hle3
          have hcl : clL p j = (exL p j).map (lnA p) := rfl
          rw [hcl] at S4 ⊢
          rw [nI_len] at S3 ⊢
          rw [List.length_map] at S4 ⊢
          have HRV : Hid (∀ x, rgL p j x = ⟨(j : Int) + 1, (bEnd p j : Int), (x : Int), lnA p x⟩) := fun x => rfl
          rw [nI_len] at hB3
          rw [hcl, List.length_map] at hB4
          generalize exL p j = E at *
          generalize bEnd p j = be at *
          have hA3 : ∀ a, A3 = some a → w2.heap.size ≤ a.block ∧ a.block < w3.heap.size := fun a ha => hB3 a.block (by rw [ha]; rfl)
          have hA4 : ∀ a, A4 = some a → w2.heap.size ≤ a.block ∧ a.block < w3.heap.size := fun a ha => hB4 a.block (by rw [ha]; rfl)
          have HAP3 : Hid (∀ a, A3 = some a → Value.ownBlock u5 ≠ some a.block ∧ a.block < w3.heap.size) := fun a ha => ⟨fun e => by have := HOL.out _ e; have := (hA3 a ha).1; omega, (hA3 a ha).2⟩
          have HAP4 : Hid (∀ a, A4 = some a → Value.ownBlock u5 ≠ some a.block ∧ a.block < w3.heap.size) := fun a ha => ⟨fun e => by have := HOL.out _ e; have := (hA4 a ha).1; omega, (hA4 a ha).2⟩
          clear hB3 hB4 hA3 hA4 HOL
          have O3b : w3.ownsRow w1.heap.size 51 4 u5 (TB ++ (E.take 0).map (rgL p j)).length ((TB ++ (E.take 0).map (rgL p j)).flatMap Enc.cells) := by simpa using O3
          clear hcl D3 D4 O2 O3 hle3 T2 L2 d1 d3
          go_wp2
          generalize wr = W0 at *
          go_loopw [5, 11, 12, 44] (fun v _ _ q wr => ∃ r : Nat, r ≤ E.length ∧ q = .int .i64 r ∧ wr.ownsRow w1.heap.size 51 4 v (TB ++ (E.take r).map (rgL p j)).length ((TB ++ (E.take r).map (rgL p j)).flatMap Enc.cells) ∧ Le w1 wr ∧ Sl wr A3 E.length q3 (nI E) ∧ Sl wr A4 E.length q4 (E.map (lnA p)) ∧ (∀ a, A3 = some a → v.ownBlock ≠ some a.block ∧ a.block < wr.heap.size) ∧ (∀ a, A4 = some a → v.ownBlock ≠ some a.block ∧ a.block < wr.heap.size)) (fun _ _ _ q _ => E.length - (intOf q).toNat)
          case atStart => exact ⟨0, Nat.zero_le _, rfl, O3b, L3, S3, S4, HAP3.out, HAP4.out⟩
          case round =>
            obtain ⟨r, hr, rfl, O4, L14, S34, S44, hp3, hp4⟩ := hrel
            have HP3 := Lib.hid hp3
            have HP4 := Lib.hid hp4
            clear hp3 hp4 S3 S4 HAP3 HAP4
            have hl4 := L14.size
            have htl : (TB ++ (E.take r).map (rgL p j)).length ≤ 600 + r := by rw [List.length_append, List.length_map, List.length_take]; omega
            clear O3b
            by_cases hlr : r < E.length
            · obtain ⟨b5, off5, rfl, hb5, c5, -⟩ := S34.int_at (k := r) (by rw [nI_len]; exact hlr)
              obtain ⟨b6, off6, rfl, hb6, c6, -⟩ := S44.int_at (k := r) (by rw [List.length_map]; exact hlr)
              rw [nI_at hlr] at c5
              rw [List.getElem_map] at c6
              have HT : Hid (TB ++ (E.take (r + 1)).map (rgL p j) = (TB ++ (E.take r).map (rgL p j)) ++ [rgL p j E[r]]) := by
                show _ = _
                rw [List.take_succ_eq_append_getElem hlr, List.map_append, List.append_assoc]; rfl
              have hokr := HRL.out E[r] (HEL.out _ (List.getElem_mem hlr))
              rw [HRV.out E[r]] at hokr HT
              generalize E[r] = x at *
              generalize lnA p x = va at *
              generalize TB ++ (E.take r).map (rgL p j) = G at *
              have hr0 : (0 : Int) ≤ (r : Int) := by omega
              have hrn : (r : Int) < (E.length : Int) := by omega
              go_wp2_with (at_builtin; refine wpList_append_sl rfl _ _ 46 rfl w1.heap.size 51 i0 _ 32 Try.underlying46 hq hz0 hz1 hz2 rfl _ G.length G rfl (O4.alloc _) _ 1 1 [(⟨(j : Int) + 1, (be : Int), (x : Int), va⟩ : Rng)] rfl (sl_one (⟨(j : Int) + 1, (be : Int), (x : Int), va⟩ : Rng) rfl hokr rfl) (by unfold maxLen; omega) (by omega) (L14.alloc _).size ?_; intro v5 w5 O5 hg5 hat5; have L5 := (L14.alloc _).grown hg5 (fun k hk => (O4.lt k hk).1); have S35 := (S34.alloc (.cells #[.int .i64 ((j : Int) + 1), .int .i64 (be : Int), .int .i64 (x : Int), .int .i64 va] 51)).grown hg5 (fun _ a e h => (HP3.out a e).1 h.symm); have S45 := (S44.alloc (.cells #[.int .i64 ((j : Int) + 1), .int .i64 (be : Int), .int .i64 (x : Int), .int .i64 va] 51)).grown hg5 (fun _ a e h => (HP4.out a e).1 h.symm); have hsz5 := hg5.size; rw [size_alloc1] at hsz5 hat5; clear hg5)
              go_roundw
              case rel => exact ⟨r + 1, by omega, by go_num, by rw [HT.out, List.length_append]; exact O5, L5, S35, S45, fun a e => ⟨apart_new (HP3.out a e) hat5, by have := (HP3.out a e).2; omega⟩, fun a e => ⟨apart_new (HP4.out a e) hat5, by have := (HP4.out a e).2; omega⟩⟩
              case measure => simp [intOf]; omega
            · obtain rfl : r = E.length := by omega
              have HO : Hid (∀ v, wr.ownsRow w1.heap.size 51 4 v (TB ++ (E.take E.length).map (rgL p j)).length ((TB ++ (E.take E.length).map (rgL p j)).flatMap Enc.cells) → wr.ownsRow w1.heap.size 51 4 v (tbD p (p.length - j)).length ((tbD p (p.length - j)).flatMap Enc.cells)) := fun v hv => by
                rw [HN.out]
                rwa [List.take_length] at hv
              go_wp2
              go_roundw
              case rel => exact ⟨j, by omega, by go_num, HO.out _ O4, L14⟩
              case measure => simp [intOf]
        · have h7b := bf h7
          by_cases h11 : vk = 11
          · subst h11
            by_cases hb1 : vb = 1
            · have hb1b : (vb == 1) = true := by simpa using hb1
              have HN : Hid (tbD p (p.length - j) = TB ++ [rgW p j]) := by show _ = _; rw [HST.out, HAT.out, if_neg (by rw [HKJ.out]; omega), if_pos ⟨HKJ.out, by rw [HBJ.out]; exact hb1⟩]
              have HRV : Hid (rgW p j = ⟨(j : Int) + 1, (bEnd p j : Int), (j : Int), 0⟩) := rfl
              rw [HRV.out] at hokW HN
              generalize bEnd p j = be at *
              clear hb1 HST HAT
              go_wp2_with (at_builtin; refine wpList_append_sl rfl _ _ 46 rfl w1.heap.size 51 i0 _ 32 Try.underlying46 hq hz0 hz1 hz2 rfl _ TB.length TB rfl (O2.alloc _) _ 1 1 [(⟨(j : Int) + 1, (be : Int), (j : Int), 0⟩ : Rng)] rfl (sl_one (⟨(j : Int) + 1, (be : Int), (j : Int), 0⟩ : Rng) rfl hokW rfl) (by unfold maxLen; omega) (by omega) (L2.alloc _).size ?_; intro v5 w5 O5 hg5 _; have L5 := (L2.alloc _).grown hg5 (fun k hk => (O2.lt k hk).1); clear hg5)
              go_roundw
              case rel => exact ⟨j, by omega, by go_num, by rw [HN.out, List.length_append]; exact O5, L5⟩
              case measure => simp [intOf]
            · have hb1b : (vb == 1) = false := bf hb1
              have HN : Hid (tbD p (p.length - j) = TB) := by show _ = _; rw [HST.out, HAT.out, if_neg (by rw [HKJ.out]; omega), if_neg (by rw [HBJ.out]; exact fun h => hb1 h.2), List.append_nil]
              clear HST HAT
              go_wp2
              go_roundw
              case rel => exact ⟨j, by omega, by go_num, by rw [HN.out]; exact O2, L2⟩
              case measure => simp [intOf]
          · have h11b := bf h11
            have HN : Hid (tbD p (p.length - j) = TB) := by show _ = _; rw [HST.out, HAT.out, if_neg (by rw [HKJ.out]; exact h7), if_neg (by rw [HKJ.out]; exact fun h => h11 h.1), List.append_nil]
            clear HST HAT
            go_wp2
            go_roundw
            case rel => exact ⟨j, by omega, by go_num, by rw [HN.out]; exact O2, L2⟩
            case measure => simp [intOf]
end

section
set_option maxHeartbeats 2000000 in
set_option maxRecDepth 100000 in
theorem stableOf_any (A : Option Addr) (n cap : Nat) (p : List Lin) (hp : p.length ≤ 24) (H : triesI p) (w : World) (hR : Sl w A n cap p) :
    Calls Try.prog 61 #[.slice A n cap] w fun e w' => ∃ v, e = .returned v ∧ Owd 51 w w' v (tbD p p.length) ∧ Le w w' := by
  obtain ⟨i0, hq, hz0, hz1, hz2⟩ := info_parts infoRg
  obtain rfl := hR.len
  have HRO := Lib.hid hR.ok
  have HOK := Lib.hid (tbD_ok hR.ok (by omega) p.length (Nat.le_refl _))
  have HBD := Lib.hid (tb_bound hp)
  have HCP : Hid (∀ j, j < p.length → chain p j = parts p j) := fun j hj => chain_parts H hj
  clear H
  have hwn : IntKind.i64.wrap ((p.length : Int) - 1) = (p.length : Int) - 1 := IntWalk.i64_in _ (by omega)
  have OE : (w.alloc (.cells #[] 51)).ownsRow w.heap.size 51 4 (.slice (some ⟨w.heap.size, 0, none⟩) 0 0) 0 [] := own_empty (Nat.le_refl _) rfl
  have LE := Le.new w (.cells #[] 51)
  go_enter Try.func61, Try.ntmps61
  go_wp2
  have O0 : (w.alloc (.cells #[] 51)).ownsRow w.heap.size 51 4 (.slice (some ⟨w.heap.size, 0, none⟩) 0 0) (tbD p 0).length ((tbD p 0).flatMap Enc.cells) := OE
  go_loopw [3, 4, 5, 6] (fun v q _ _ wr => ∃ k : Nat, k ≤ p.length ∧ q = .int .i64 ((k : Int) - 1) ∧ wr.ownsRow w.heap.size 51 4 v (tbD p (p.length - k)).length ((tbD p (p.length - k)).flatMap Enc.cells) ∧ Le w wr) (fun _ q _ _ _ => (intOf q + 1).toNat)
  case atStart => exact ⟨p.length, Nat.le_refl _, rfl, by rw [Nat.sub_self]; exact O0, LE⟩
  case round =>
    obtain ⟨k, hk, rfl, O1, L⟩ := hrel
    have T := hR.le L
    have hLs := L.size
    clear O0 OE LE
    cases k with
    | zero =>
      have HF : Hid (∀ v, wr.ownsRow w.heap.size 51 4 v (tbD p (p.length - 0)).length ((tbD p (p.length - 0)).flatMap Enc.cells) → Owd 51 w wr v (tbD p p.length)) := fun v hv => ⟨hv, HOK.out⟩
      have hneg : ¬ (0 : Int) ≤ ((0 : Nat) : Int) - 1 := by omega
      go_wp2
      go_ret
      exact ⟨_, rfl, HF.out _ O1, L⟩
    | succ j =>
      have hjl : j < p.length := by omega
      have hkk : (((j + 1 : Nat) : Int) - 1) = (j : Int) := by omega
      have hj0 : (0 : Int) ≤ (j : Int) := by omega
      have hjn : (j : Int) < (p.length : Int) := by omega
      have hwj : IntKind.i64.wrap ((j : Int) - 1) = (j : Int) - 1 := IntWalk.i64_in _ (by omega)
      have hwj1 : IntKind.i64.wrap ((j : Int) + 1) = (j : Int) + 1 := IntWalk.i64_in _ (by omega)
      rw [hkk]
      have HST := Lib.hid (tb_step hjl)
      have hTl := HBD.out (p.length - (j + 1)) (by omega)
      have HAT : Hid (tbAt p j = if knd p j = 7 then (exL p j).map (rgL p j) else if knd p j = 11 ∧ lnB p j = 1 then [rgW p j] else []) := rfl
      have HKJ := Lib.hid (knd_at hjl)
      have HBJ := Lib.hid (lnB_at hjl)
      have HRL : Hid (∀ x, x < p.length → Enc.ok (rgL p j x)) := fun x hx => rgL_ok HRO.out hjl hx (by omega)
      have hokW : Enc.ok (⟨(j : Int) + 1, (bEnd p j : Int), (j : Int), 0⟩ : Rng) := rgW_ok hjl (by omega)
      generalize tbD p (p.length - (j + 1)) = TB at *
      obtain ⟨b, off, rfl, hbw, d0w, d1w, d2w, d3w, -⟩ := hR.lin_at hjl
      have hb := Nat.lt_of_lt_of_le hbw L.size
      have d1 := (L.cell hbw).trans d1w
      have d3 := (L.cell hbw).trans d3w
      clear d0w d2w d3w
      generalize p[j].kind = vk at *
      generalize p[j].b = vb at *
      by_cases h7 : vk = 7
      · subst h7
        have HN : Hid (tbD p (p.length - j) = TB ++ (exL p j).map (rgL p j)) := by show _ = _; rw [HST.out, HAT.out, if_pos HKJ.out]
        have HC1 : Hid (exL p j = exF p (parts p j)) := rfl
        have HPL := Lib.hid (parts_lt hjl)
        have hplen := parts_len p j
        have HP0 : Hid (exF p ((parts p j).take 1) = []) := by
          show _ = _
          have : (parts p j).take 1 = [j] := rfl
          rw [this]
          unfold exF
          rw [List.filter_cons, HKJ.out]; rfl
        clear HST HAT
        go_wp2_with fail
        refine (chainOf_any _ p.length cap p j hjl (by omega) wr T).mono ?_
        rintro e w3 ⟨v3, rfl, D3, hle3⟩
        rw [HCP.out j hjl] at D3
        obtain ⟨A3, q3, rfl, S3, hB3⟩ := D3.form (by decide)
        have HOL := Lib.hid (fun k hk => (O1.lt k hk).2)
        have O3 := own_le O1 hle3
        have L3 := L.trans hle3
        rw [nI_len] at S3 hB3 ⊢
        rw [HC1.out] at HN
        have hC1 : 1 ≤ (parts p j).length := by unfold parts; simp
        generalize parts p j = C at *
        have hA3 : ∀ a, A3 = some a → wr.heap.size ≤ a.block ∧ a.block < w3.heap.size := fun a ha => hB3 a.block (by rw [ha]; rfl)
        have HAP3 : Hid (∀ a, A3 = some a → Value.ownBlock u3 ≠ some a.block ∧ a.block < w3.heap.size) := fun a ha => ⟨fun e => by have := HOL.out _ e; have := (hA3 a ha).1; omega, (hA3 a ha).2⟩
        have O3b : w3.ownsRow w.heap.size 51 4 u3 (TB ++ (exF p (C.take 1)).map (rgL p j)).length ((TB ++ (exF p (C.take 1)).map (rgL p j)).flatMap Enc.cells) := by rw [HP0.out]; simpa using O3
        clear hB3 hA3 HOL D3 O1 O3 hle3 d1 d3
        go_wp2
        generalize wr = W0 at *
        go_loopw [3, 6] (fun v q wr => ∃ r : Nat, 1 ≤ r ∧ r ≤ C.length ∧ q = .int .i64 r ∧ wr.ownsRow w.heap.size 51 4 v (TB ++ (exF p (C.take r)).map (rgL p j)).length ((TB ++ (exF p (C.take r)).map (rgL p j)).flatMap Enc.cells) ∧ Le w wr ∧ Sl wr A3 C.length q3 (nI C) ∧ (∀ a, A3 = some a → v.ownBlock ≠ some a.block ∧ a.block < wr.heap.size)) (fun _ q _ => C.length - (intOf q).toNat)
        case atStart => exact ⟨1, Nat.le_refl _, hC1, rfl, O3b, L3, S3, HAP3.out⟩
        case round =>
          obtain ⟨r, hr1, hr, rfl, O4, L4, S34, hp3⟩ := hrel
          have HP3 := Lib.hid hp3
          have T4 := hR.le L4
          have hl4 := L4.size
          have hef := exF_take_len p C r
          have htl : (TB ++ (exF p (C.take r)).map (rgL p j)).length ≤ 600 + r := by rw [List.length_append, List.length_map]; omega
          clear O3b hp3 S3 HAP3
          by_cases hlr : r < C.length
          · obtain ⟨b5, off5, rfl, hb5, c5, -⟩ := S34.int_at (k := r) (by rw [nI_len]; exact hlr)
            rw [nI_at hlr] at c5
            have hx := HPL.out C[r] (List.getElem_mem hlr)
            obtain ⟨b6, off6, e6, hb6, -, k1, k2, -⟩ := T4.lin_at hx
            injection e6 with e6
            injection e6 with e61 e62
            subst e61
            subst e62
            have HKX := Lib.hid (knd_at hx)
            have HLX := Lib.hid (lnA_at hx)
            have HY1 := Lib.hid (exF_yes (p := p) hlr)
            have HY0 := Lib.hid (exF_no (p := p) hlr)
            have hokr := HRL.out C[r] hx
            have HRV : Hid (∀ x, rgL p j x = ⟨(j : Int) + 1, (bEnd p j : Int), (x : Int), lnA p x⟩) := fun x => rfl
            rw [HRV.out C[r], HLX.out] at hokr
            have HRX : Hid (rgL p j C[r] = ⟨(j : Int) + 1, (bEnd p j : Int), (C[r] : Int), p[C[r]].a⟩) := by show _ = _; rw [HRV.out, HLX.out]
            clear HLX
            generalize hxx : C[r] = x at *
            have HCX := Lib.hid hxx
            clear hxx
            generalize p[x].kind = xk at *
            generalize p[x].a = xa at *
            have hr0 : (0 : Int) ≤ (r : Int) := by omega
            have hrn : (r : Int) < (C.length : Int) := by omega
            have hx0 : (0 : Int) ≤ (x : Int) := by omega
            have hxn : (x : Int) < (p.length : Int) := by omega
            by_cases h8 : xk = 8
            · subst h8
              have HT : Hid (TB ++ (exF p (C.take (r + 1))).map (rgL p j) = (TB ++ (exF p (C.take r)).map (rgL p j)) ++ [(⟨(j : Int) + 1, (bEnd p j : Int), (x : Int), xa⟩ : Rng)]) := by
                show _ = _
                rw [HY1.out HKX.out, List.map_append, List.append_assoc, ← HRX.out]; rfl
              generalize TB ++ (exF p (C.take r)).map (rgL p j) = G at *
              clear HRX HY1 HY0
              have L4d := L4.drew
              have T4d := T4.le (Le.refl wr).drew
              have O4d := O4.drew
              have S4d := S34.le (Le.refl wr).drew
              have c5d : wr.drew.cell? ⟨b5, off5 + r, none⟩ = some (.int .i64 (x : Int)) := c5
              have k2d : wr.drew.cell? ⟨b, off + x * 4 + 2, none⟩ = some (.int .i64 xa) := k2
              go_wp2_with fail
              refine wp_region_noPanic ?_
              refine wp_region_held_drew (S := fun w' => w'.cell? ⟨b5, off5 + r, none⟩ = some (.int .i64 (x : Int)) ∧ w'.cell? ⟨b, off + x * 4 + 2, none⟩ = some (.int .i64 xa)) (by kernel_rfl) ⟨c5d, k2d⟩ (fun hHeld => ?_)
              refine wpAnyH_takeL (i := 0) (v := ?_) rfl (by kernel_rfl) (by kernel_rfl) (by kernel_rfl) (fun _ _ _ h => h) (Or.inl ⟨by rfl, ?_⟩) (by assumption) ?_
              rotate_left 1
              · (intro w hSw; (try dsimp only at hSw); go_simp; try with_reducible rfl)
              try simp only [Act.put, List.setIfInBounds_toArray, List.set_cons_zero, List.set_cons_succ]
              refine wpAnyH_takeL (i := 1) (v := ?_) rfl (by kernel_rfl) (by kernel_rfl) (by kernel_rfl) (fun _ _ _ h => h) (Or.inl ⟨by rfl, ?_⟩) (by assumption) ?_
              rotate_left 1
              · (intro w hSw; (try dsimp only at hSw); go_simp; try with_reducible rfl)
              try simp only [Act.put, List.setIfInBounds_toArray, List.set_cons_zero, List.set_cons_succ]
              refine wpAnyH_takeL (i := 2) (v := ?_) rfl (by kernel_rfl) (by kernel_rfl) (by kernel_rfl) (fun _ _ _ h => h) (Or.inl ⟨by rfl, ?_⟩) (by assumption) ?_
              rotate_left 1
              · (intro w hSw; (try dsimp only at hSw); go_simp; try with_reducible rfl)
              try simp only [Act.put, List.setIfInBounds_toArray, List.set_cons_zero, List.set_cons_succ]
              refine wpAnyH_takeL (i := 3) (v := ?_) rfl (by kernel_rfl) (by kernel_rfl) (by kernel_rfl) (fun _ _ _ h => h) (Or.inl ⟨by rfl, ?_⟩) (by assumption) ?_
              rotate_left 1
              · (intro w hSw; (try dsimp only at hSw); go_simp; try with_reducible rfl)
              try simp only [Act.put, List.setIfInBounds_toArray, List.set_cons_zero, List.set_cons_succ]
              refine wpAnyH_takeL (i := 4) (v := ?_) rfl (by kernel_rfl) (by kernel_rfl) (by kernel_rfl) (fun _ _ _ h => h) (Or.inl ⟨by rfl, ?_⟩) (by assumption) ?_
              rotate_left 1
              · (intro w hSw; (try dsimp only at hSw); go_simp; try with_reducible rfl)
              try simp only [Act.put, List.setIfInBounds_toArray, List.set_cons_zero, List.set_cons_succ]
              refine wpAnyH_takeL (i := 6) (v := ?_) rfl (by kernel_rfl) (by kernel_rfl) (by kernel_rfl) (fun _ _ _ h => h) (Or.inl ⟨by rfl, ?_⟩) (by assumption) ?_
              rotate_left 1
              · (intro w hSw; (try dsimp only at hSw); go_simp; try with_reducible rfl)
              try simp only [Act.put, List.setIfInBounds_toArray, List.set_cons_zero, List.set_cons_succ]
              refine wpAnyH_takeL (i := 7) (v := ?_) rfl (by kernel_rfl) (by kernel_rfl) (by kernel_rfl) (fun _ _ _ h => h) (Or.inl ⟨by rfl, ?_⟩) (by assumption) ?_
              rotate_left 1
              · (intro w hSw; (try dsimp only at hSw); go_simp; try with_reducible rfl)
              try simp only [Act.put, List.setIfInBounds_toArray, List.set_cons_zero, List.set_cons_succ]
              refine wpAnyH_takeL (i := 8) (v := ?_) rfl (by kernel_rfl) (by kernel_rfl) (by kernel_rfl) (fun _ _ _ h => h) (Or.inl ⟨by rfl, ?_⟩) (by assumption) ?_
              rotate_left 1
              · (intro w hSw; (try dsimp only at hSw); go_simp; try with_reducible rfl)
              try simp only [Act.put, List.setIfInBounds_toArray, List.set_cons_zero, List.set_cons_succ]
              refine wpAnyH_takeL (i := 9) (v := ?_) rfl (by kernel_rfl) (by kernel_rfl) (by kernel_rfl) (fun _ _ _ h => h) (Or.inl ⟨by rfl, ?_⟩) (by assumption) ?_
              rotate_left 1
              · (intro w hSw; (try dsimp only at hSw); go_simp; try with_reducible rfl)
              try simp only [Act.put, List.setIfInBounds_toArray, List.set_cons_zero, List.set_cons_succ]
              refine wpAnyH_takeL (i := 10) (v := ?_) rfl (by kernel_rfl) (by kernel_rfl) (by kernel_rfl) (fun _ _ _ h => h) (Or.inl ⟨by rfl, ?_⟩) (by assumption) ?_
              rotate_left 1
              · (intro w hSw; (try dsimp only at hSw); go_simp; try with_reducible rfl)
              try simp only [Act.put, List.setIfInBounds_toArray, List.set_cons_zero, List.set_cons_succ]
              refine wpAnyH_takeL (i := 11) (v := ?_) rfl (by kernel_rfl) (by kernel_rfl) (by kernel_rfl) (fun _ _ _ h => h) (Or.inl ⟨by rfl, ?_⟩) (by assumption) ?_
              rotate_left 1
              · (intro w hSw; (try dsimp only at hSw); go_simp; try with_reducible rfl)
              try simp only [Act.put, List.setIfInBounds_toArray, List.set_cons_zero, List.set_cons_succ]
              refine wpAnyH_takeL (i := 12) (v := ?_) rfl (by kernel_rfl) (by kernel_rfl) (by kernel_rfl) (fun _ _ _ h => h) (Or.inl ⟨by rfl, ?_⟩) (by assumption) ?_
              rotate_left 1
              · (intro w hSw; (try dsimp only at hSw); go_simp; try with_reducible rfl)
              try simp only [Act.put, List.setIfInBounds_toArray, List.set_cons_zero, List.set_cons_succ]
              refine wpAnyH_takeL (i := 13) (v := ?_) rfl (by kernel_rfl) (by kernel_rfl) (by kernel_rfl) (fun _ _ _ h => h) (Or.inl ⟨by rfl, ?_⟩) (by assumption) ?_
              rotate_left 1
              · (intro w hSw; (try dsimp only at hSw); go_simp; try with_reducible rfl)
              try simp only [Act.put, List.setIfInBounds_toArray, List.set_cons_zero, List.set_cons_succ]
              refine wpAnyH_takeL (i := 14) (v := ?_) rfl (by kernel_rfl) (by kernel_rfl) (by kernel_rfl) (fun _ _ _ h => h) (Or.inl ⟨by rfl, ?_⟩) (by assumption) ?_
              rotate_left 1
              · (intro w hSw; (try dsimp only at hSw); go_simp; try with_reducible rfl)
              try simp only [Act.put, List.setIfInBounds_toArray, List.set_cons_zero, List.set_cons_succ]
              refine wpAnyH_takeL (i := 15) (v := ?_) rfl (by kernel_rfl) (by kernel_rfl) (by kernel_rfl) (fun _ _ _ h => h) (Or.inl ⟨by rfl, ?_⟩) (by assumption) ?_
              rotate_left 1
              · (intro w hSw; (try dsimp only at hSw); go_simp; try with_reducible rfl)
              try simp only [Act.put, List.setIfInBounds_toArray, List.set_cons_zero, List.set_cons_succ]
              refine wpAnyH_takeL (i := 16) (v := ?_) rfl (by kernel_rfl) (by kernel_rfl) (by kernel_rfl) (fun _ _ _ h => h) (Or.inl ⟨by rfl, ?_⟩) (by assumption) ?_
              rotate_left 1
              · (intro w hSw; (try dsimp only at hSw); go_simp; try with_reducible rfl)
              try simp only [Act.put, List.setIfInBounds_toArray, List.set_cons_zero, List.set_cons_succ]
              refine wpAnyH_takeL (i := 17) (v := ?_) rfl (by kernel_rfl) (by kernel_rfl) (by kernel_rfl) (fun _ _ _ h => h) (Or.inl ⟨by rfl, ?_⟩) (by assumption) ?_
              rotate_left 1
              · (intro w hSw; (try dsimp only at hSw); go_simp; try with_reducible rfl)
              try simp only [Act.put, List.setIfInBounds_toArray, List.set_cons_zero, List.set_cons_succ]
              refine wpAnyH_ready (rs := [5]) (by kernel_rfl) (by simp) (AllReadyH.consL (i := 5) rfl (fun K hK => ?_) AllReadyH.nil)
              go_simp
              go_at_call 87
              refine (sBlockEnd_any _ p.length cap p j hjl _ T4d).mono ?_
              rintro e w5 ⟨rfl, hle5⟩
              have L5 := L4d.trans hle5
              have O5 := own_le O4d hle5
              have S5 := S4d.le hle5
              have c55 := (hle5.cell (show b5 < wr.drew.heap.size from hb5)).trans c5d
              have k25 := (hle5.cell (show b < wr.drew.heap.size from hb6)).trans k2d
              have hz5 : wr.heap.size ≤ w5.heap.size := hle5.size
              obtain ⟨WB, hWB⟩ : ∃ WB, w5.alloc (.cells #[.int .i64 ((j : Int) + 1), .int .i64 (bEnd p j : Int), .int .i64 (x : Int), .int .i64 xa] 51) = WB := ⟨_, rfl⟩
              have LB := Le.new w5 (.cells #[.int .i64 ((j : Int) + 1), .int .i64 (bEnd p j : Int), .int .i64 (x : Int), .int .i64 xa] 51)
              have SX := sl_one (w := w5) (cs := #[.int .i64 ((j : Int) + 1), .int .i64 (bEnd p j : Int), .int .i64 (x : Int), .int .i64 xa]) (T := 51) (⟨(j : Int) + 1, (bEnd p j : Int), (x : Int), xa⟩ : Rng) rfl hokr (b := w5.heap.size) rfl
              have hzB := size_alloc1 w5 (.cells #[.int .i64 ((j : Int) + 1), .int .i64 (bEnd p j : Int), .int .i64 (x : Int), .int .i64 xa] 51)
              rw [hWB] at LB SX hzB
              have L6 := L5.trans LB
              have O6 := own_le O5 LB
              have S6 := S5.le LB
              have c56 := (LB.cell (Nat.lt_of_lt_of_le hb5 hz5)).trans c55
              have k26 := (LB.cell (Nat.lt_of_lt_of_le hb6 hz5)).trans k25
              have HZB := Lib.hid hzB; clear hzB
              have h63 : G.length + 1 ≤ maxLen := by unfold maxLen; omega
              have h64 : (G.length + 1) * 32 ≤ 140737488355328 := by omega
              refine hK.out _ _ (⟨c55, k25⟩) (fun hHeld => ?_)
              clear hK K
              try simp only [Act.put, List.setIfInBounds_toArray, List.set_cons_zero, List.set_cons_succ]
              refine wpAnyH_takeL (i := 18) (v := ?_) rfl (by kernel_rfl) (by kernel_rfl) (by kernel_rfl) (fun _ _ _ h => h) (Or.inl ⟨by rfl, ?_⟩) (by assumption) ?_
              rotate_left 1
              · (intro w hSw; (try dsimp only at hSw); go_simp; try with_reducible rfl)
              try simp only [Act.put, List.setIfInBounds_toArray, List.set_cons_zero, List.set_cons_succ]
              refine wpAnyH_ready (rs := [19]) (by kernel_rfl) (by simp) (AllReadyH.consL (i := 19) rfl (fun K hK => ?_) AllReadyH.nil)
              go_simp
              refine hK.out _ _ (⟨c56, k26⟩) (fun hHeld => ?_)
              clear hK K
              try simp only [Act.put, List.setIfInBounds_toArray, List.set_cons_zero, List.set_cons_succ]
              refine wpAnyH_ready (rs := [20]) (by kernel_rfl) (by simp) (AllReadyH.consL (i := 20) rfl (fun K hK => ?_) AllReadyH.nil)
              refine step_append_sl rfl (.tmp 63) (.tmp 82) 46 rfl w.heap.size 51 i0 _ 32 Try.underlying46 hq hz0 hz1 hz2 rfl u3 G.length G rfl O6 (some ⟨w5.heap.size, 0, none⟩) 1 1 [(⟨(j : Int) + 1, (bEnd p j : Int), (x : Int), xa⟩ : Rng)] rfl SX h63 h64 L6.size ?_
              intro v7 w7 O7 hg7 hat7
              have L7 := L6.grown hg7 (fun k hk => (O6.lt k hk).1)
              have S7 := S6.grown hg7 (fun _ a e h => (HP3.out a e).1 h.symm)
              have hz7 := hg7.size
              rw [HZB.out] at hat7 hz7
              have HP7 : Hid (∀ a, some (⟨b5, off5, none⟩ : Addr) = some a → v7.ownBlock ≠ some a.block ∧ a.block < w7.heap.size) := fun a e => by
                have h1 := HP3.out a e
                refine ⟨apart_new (m := w5.heap.size) ⟨h1.1, by omega⟩ hat7, by omega⟩
              have c57 : w7.cell? ⟨b5, off5 + r, none⟩ = some (.int .i64 (x : Int)) := by
                obtain ⟨b8, off8, e8, hb8, c8, -⟩ := S7.int_at (k := r) (by rw [nI_len]; exact hlr)
                injection e8 with e8
                injection e8 with e81 e82
                subst e81
                subst e82
                rw [nI_at hlr, HCX.out] at c8
                exact c8
              have k27 : w7.cell? ⟨b, off + x * 4 + 2, none⟩ = some (.int .i64 xa) := (L7.cell hbw).trans ((L4.cell hbw).symm.trans k2)
              refine hK.out _ _ (⟨c57, k27⟩) (fun hHeld => ?_)
              clear hK K
              try simp only [Act.put, List.setIfInBounds_toArray, List.set_cons_zero, List.set_cons_succ]
              refine wpAnyH_takeL (i := 21) (v := ?_) rfl (by kernel_rfl) (by kernel_rfl) (by kernel_rfl) (fun _ _ _ h => h) (Or.inl ⟨by rfl, ?_⟩) (by assumption) ?_
              rotate_left 1
              · (intro w hSw; (try dsimp only at hSw); go_simp; try with_reducible rfl)
              try simp only [Act.put, List.setIfInBounds_toArray, List.set_cons_zero, List.set_cons_succ]
              refine wpAnyH_done (by kernel_rfl) ?_ _
              refine NoPanic.normal ?_
              go_wp2
              go_roundw
              case rel => exact ⟨r + 1, by omega, by omega, by go_num, by rw [HT.out, List.length_append]; exact O7, L7, S7, HP7.out⟩
              case measure => simp [intOf]; omega
            · have h8b := bf h8
              have HT : Hid (exF p (C.take (r + 1)) = exF p (C.take r)) := HY0.out (by rw [HKX.out]; exact h8)
              clear HRX HY1 HY0
              go_wp2
              go_roundw
              case rel => exact ⟨r + 1, by omega, by omega, by go_num, by rw [HT.out]; exact O4, L4, S34, HP3.out⟩
              case measure => simp [intOf]; omega
          · obtain rfl : r = C.length := by omega
            have HO : Hid (∀ v, wr.ownsRow w.heap.size 51 4 v (TB ++ (exF p (C.take C.length)).map (rgL p j)).length ((TB ++ (exF p (C.take C.length)).map (rgL p j)).flatMap Enc.cells) → wr.ownsRow w.heap.size 51 4 v (tbD p (p.length - j)).length ((tbD p (p.length - j)).flatMap Enc.cells)) := fun v hv => by
              rw [HN.out]
              rwa [List.take_length] at hv
            go_wp2
            go_roundw
            case rel => exact ⟨j, by omega, by go_num, HO.out _ O4, L4⟩
            case measure => simp [intOf]
      · have h7b := bf h7
        have h7c : (vk != 7) = true := by simpa using h7
        by_cases h11 : vk = 11
        · subst h11
          by_cases hb1 : vb = 1
          · have hb1b : (vb == 1) = true := by simpa using hb1
            have HN : Hid (tbD p (p.length - j) = TB ++ [(⟨(j : Int) + 1, (bEnd p j : Int), (j : Int), 0⟩ : Rng)]) := by show _ = _; rw [HST.out, HAT.out, if_neg (by rw [HKJ.out]; omega), if_pos ⟨HKJ.out, by rw [HBJ.out]; exact hb1⟩]; rfl
            clear hb1 HST HAT
            go_wp2_with (first | (go_at_call 87; refine (sBlockEnd_any _ p.length cap p j hjl wr T).mono ?_; rintro e w2 ⟨rfl, hle2⟩; have O2 := own_le O1 hle2; have L2 := L.trans hle2; have d5 := (hle2.cell hb).trans d1) | (at_builtin; refine wpList_append_sl rfl _ _ 46 rfl w.heap.size 51 i0 _ 32 Try.underlying46 hq hz0 hz1 hz2 rfl _ TB.length TB rfl (O2.alloc _) _ 1 1 [(⟨(j : Int) + 1, (bEnd p j : Int), (j : Int), 0⟩ : Rng)] rfl (sl_one (⟨(j : Int) + 1, (bEnd p j : Int), (j : Int), 0⟩ : Rng) rfl hokW rfl) (by unfold maxLen; omega) (by omega) (L2.alloc _).size ?_; intro v5 w5 O5 hg5 _; have L5 := (L2.alloc _).grown hg5 (fun k hk => (O2.lt k hk).1); clear hg5; have d7 := (L5.cell hbw).trans d1w))
            go_roundw
            case rel => exact ⟨j, by omega, by go_num, by rw [HN.out, List.length_append]; exact O5, L5⟩
            case measure => simp [intOf]
          · have hb1b : (vb == 1) = false := bf hb1
            have HN : Hid (tbD p (p.length - j) = TB) := by show _ = _; rw [HST.out, HAT.out, if_neg (by rw [HKJ.out]; omega), if_neg (by rw [HBJ.out]; exact fun h => hb1 h.2), List.append_nil]
            clear HST HAT
            go_wp2
            go_roundw
            case rel => exact ⟨j, by omega, by go_num, by rw [HN.out]; exact O1, L⟩
            case measure => simp [intOf]
        · have h11b := bf h11
          have HN : Hid (tbD p (p.length - j) = TB) := by show _ = _; rw [HST.out, HAT.out, if_neg (by rw [HKJ.out]; exact h7), if_neg (by rw [HKJ.out]; exact fun h => h11 h.1), List.append_nil]
          clear HST HAT
          go_wp2
          go_roundw
          case rel => exact ⟨j, by omega, by go_num, by rw [HN.out]; exact O1, L⟩
          case measure => simp [intOf]
theorem sTableOf_any (B A : Option Addr) (m c n cap : Nat) (xs : List Cls) (p : List Lin) (hsm : p.length ≤ 1048576) (w : World) (hT : Sl w B m c xs) (hR : Sl w A n cap p) :
    Calls Try.prog 28 #[.agg #[.slice B m c], .slice A n cap] w fun e w' => ∃ v, e = .returned v ∧ Owd 51 w w' v (tbX xs p) ∧ Le w w' := by
  have HX : Hid (tbX xs p = cond (vp xs p) (tbD p p.length) []) := rfl
  go_enter Try.func28, Try.ntmps28
  go_wp2_with fail
  obtain ⟨ct, zt, hleB⟩ := box1 w (.slice B m c) 25
  have L0 := hleB
  clear hleB
  generalize w.alloc (.cells #[.slice B m c] 25) = W at *
  refine (svalidProgram_any B A m c n cap xs p hsm _ (hT.le L0) (hR.le L0)).mono ?_
  rintro e w1 ⟨rfl, hle⟩
  have L1 := L0.trans hle
  cases h : vp xs p
  · have HO : Hid (Owd 51 w w1 (.slice none 0 0) (tbX xs p)) := by show Owd _ _ _ _ _; rw [HX.out, h]; exact Owd.nil _ _ _
    go_wp2
    go_ret
    exact ⟨_, rfl, HO.out, L1⟩
  · have g := goodP_of h
    go_wp2_with fail
    refine (stableOf_any A n cap p g.len g.tries w1 (hR.le L1)).mono ?_
    rintro e w2 ⟨v, rfl, D, hle2⟩
    have HO : Hid (Owd 51 w w2 v (tbX xs p)) := by show Owd _ _ _ _ _; rw [HX.out, h]; exact D.mono L1
    go_wp2
    go_ret
    exact ⟨_, rfl, HO.out, L1.trans hle2⟩
end
end Go.Proofs.Ytomdhpfelchjeaa
