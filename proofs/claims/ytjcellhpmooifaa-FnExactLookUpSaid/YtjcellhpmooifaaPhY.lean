/- tables: LookUp of both -/
import Derived.Test.YtjcellhpmooifaaTyRange
import Derived.Test.YtjcellhpmooifaaPhI
import Derived.Test.YtjcellhpmooifaaPhG
import Derived.Test.YtjcellhpmooifaaPhO
import Derived.Test.YtjcellhpmooifaaOI
namespace Go.Proofs.Ytjcellhpmooifaa
open Go.RowKit
def rgOk (xs : List Cls) (r : Rng) : Bool := rng 0 24 r.lo && rng r.lo 24 r.hi && rng 0 23 r.target && hasK xs r.cls
def vrB (xs : List Cls) (L : List Rng) : Bool := okTree xs && decide (L.length ≤ 24) && L.all (rgOk xs)
def luF (xs : List Cls) (i a : Int) : List Rng → Int
  | [] => -1
  | r :: L => if (decide (r.lo ≤ i) && decide (i < r.hi) && isAx xs a r.cls) = true then r.target else luF xs i a L
def luX (xs : List Cls) (L : List Rng) (i a : Int) : Int := cond (vrB xs L) (luF xs i a L) (-1)
theorem luF_at {xs : List Cls} {i a : Int} {L : List Rng} {k : Nat} (h : k < L.length) : luF xs i a (L.drop k) = if (decide (L[k].lo ≤ i) && decide (i < L[k].hi) && isAx xs a L[k].cls) = true then L[k].target else luF xs i a (L.drop (k + 1)) := by rw [List.drop_eq_getElem_cons h]; rfl
theorem luF_end {xs : List Cls} {i a : Int} {L : List Rng} {k : Nat} (h : ¬ k < L.length) : luF xs i a (L.drop k) = -1 := by rw [List.drop_eq_nil_of_le (by omega)]; rfl
theorem luF_no {xs : List Cls} {i a : Int} (ha : hasK xs a = false) : ∀ L, luF xs i a L = -1
  | [] => rfl
  | r :: L => by
    unfold luF
    rw [if_neg (by unfold isAx; rw [ha]; simp), luF_no ha L]
theorem all_at {xs : List Cls} {L : List Rng} {k : Nat} (h : k < L.length) : (L.drop k).all (rgOk xs) = (rgOk xs L[k] && (L.drop (k + 1)).all (rgOk xs)) := by rw [List.drop_eq_getElem_cons h]; rfl
theorem isClass_any (A : Option Addr) (n cap : Nat) (xs : List Cls) (a : Int) (w : World) (hR : Sl w A n cap xs) :
    Calls Try.prog 122 #[.agg #[.slice A n cap], .int .i64 a] w fun e w' => e = .returned (.bool (hasK xs a)) ∧ Le w w' := by
  obtain rfl := hR.len
  have hm := hR.n_le
  have hw : IntKind.i64.wrap ((xs.length : Int) - 1) = (xs.length : Int) - 1 := IntWalk.i64_in _ (by omega)
  go_enter Try.func122, Try.ntmps122
  go_wp2_with (go_at_call 104; refine (iRange_any _ _ _ _).mono ?_; rintro e w' ⟨rfl, rfl⟩)
  go_ret
  exact ⟨rfl, Le.new w _⟩
set_option maxHeartbeats 2000000 in
set_option maxRecDepth 100000 in
theorem svalidRanges_any (B A : Option Addr) (m c n cap : Nat) (xs : List Cls) (L : List Rng) (hsm : n ≤ 1048576) (w : World) (hT : Sl w B m c xs) (hR : Sl w A n cap L) :
    Calls Try.prog 88 #[.agg #[.slice B m c], .slice A n cap] w fun e w' => e = .returned (.bool (vrB xs L)) ∧ Le w w' := by
  obtain rfl := hR.len
  obtain rfl := hT.len
  have HX : Hid (vrB xs L = (okTree xs && decide (L.length ≤ 24) && L.all (rgOk xs))) := rfl
  go_enter Try.func88, Try.ntmps88
  go_wp2_with fail
  obtain ⟨ct, zt, hleB⟩ := box1 w (.slice B xs.length c) 31
  have L0 := hleB
  clear hleB
  generalize w.alloc (.cells #[.slice B xs.length c] 31) = W at *
  have S1 := hR.le L0
  have T1 := hT.le L0
  clear hR hT
  go_loopw [5, 6] (fun q _ wr => ∃ k : Nat, k ≤ L.length ∧ q = .int .i64 k ∧ L.all (rgOk xs) = (L.drop k).all (rgOk xs) ∧ Le W wr) (fun q _ _ => L.length - (intOf q).toNat)
  case atStart => exact ⟨0, Nat.zero_le _, rfl, rfl, Le.refl _⟩
  case round =>
    obtain ⟨k, hk, rfl, he, hle⟩ := hrel
    have HE := Lib.hid he; clear he
    have S := S1.le hle
    have T := T1.le hle
    replace ct := (hle.cell zt).trans ct
    replace zt := Nat.lt_of_lt_of_le zt hle.size
    clear S1 T1
    by_cases hlt : k < L.length
    · obtain ⟨b, off, rfl, hb, d0, d1, d2, d3, -⟩ := S.rng_at hlt
      have HA : Hid ((L.drop k).all (rgOk xs) = ((rng 0 24 L[k].lo && rng L[k].lo 24 L[k].hi && rng 0 23 L[k].target && hasK xs L[k].cls) && (L.drop (k + 1)).all (rgOk xs))) := all_at hlt
      generalize L[k].lo = v0 at *
      generalize L[k].hi = v1 at *
      generalize L[k].target = v2 at *
      generalize L[k].cls = v3 at *
      go_wp2_with fail
      obtain ⟨x0, x1, z0, hle2⟩ := box4 wr (.int .i64 v0) (.int .i64 v1) (.int .i64 v2) (.int .i64 v3) 90
      obtain ⟨x2, x3⟩ := box4b wr (.int .i64 v0) (.int .i64 v1) (.int .i64 v2) (.int .i64 v3) 90
      have cX := (hle2.cell zt).trans ct
      have T2 := T.le hle2
      have L2 := hle.trans hle2
      generalize wr.heap.size = X at *
      generalize wr.alloc _ = W2 at *
      refine (rng_any v0 0 24 W2).mono ?_
      rintro e w' ⟨rfl, rfl⟩
      cases r0 : rng 0 24 v0
      · have HF : Hid (vrB xs L = false) := by show _ = _; rw [HX.out, HE.out, HA.out, r0]; simp
        go_wp2
        go_ret
        exact ⟨ret_bool HF.out.symm, L0.trans L2⟩
      · go_wp2_with fail
        refine (rng_any v1 v0 24 W2).mono ?_
        rintro e w' ⟨rfl, rfl⟩
        cases r1 : rng v0 24 v1
        · have HF : Hid (vrB xs L = false) := by show _ = _; rw [HX.out, HE.out, HA.out, r1]; simp
          go_wp2
          go_ret
          exact ⟨ret_bool HF.out.symm, L0.trans L2⟩
        · go_wp2_with fail
          refine (rng_any v2 0 23 W2).mono ?_
          rintro e w' ⟨rfl, rfl⟩
          cases r2 : rng 0 23 v2
          · have HF : Hid (vrB xs L = false) := by show _ = _; rw [HX.out, HE.out, HA.out, r2]; simp
            go_wp2
            go_ret
            exact ⟨ret_bool HF.out.symm, L0.trans L2⟩
          · go_wp2_with fail
            refine (hasClass_any B xs.length c xs v3 W2 T2).mono ?_
            rintro e w3 ⟨rfl, hle3⟩
            cases r3 : hasK xs v3
            · have HF : Hid (vrB xs L = false) := by show _ = _; rw [HX.out, HE.out, HA.out, r3]; simp
              go_wp2
              go_ret
              exact ⟨ret_bool HF.out.symm, L0.trans (L2.trans hle3)⟩
            · have HF : Hid (L.all (rgOk xs) = (L.drop (k + 1)).all (rgOk xs)) := by show _ = _; rw [HE.out, HA.out, r0, r1, r2, r3]; rfl
              go_wp2
              go_roundw
              case rel => exact ⟨k + 1, by omega, by go_num, HF.out, L2.trans hle3⟩
              case measure => simp [intOf]; omega
    · obtain rfl : k = L.length := by omega
      have HY : Hid (vrB xs L = (okTree xs && decide (L.length ≤ 24))) := by show _ = _; rw [HX.out, HE.out, List.drop_length]; simp
      clear HX HE
      go_wp2_with fail
      refine (validTree_any B xs.length c xs wr T).mono ?_
      rintro e w2 ⟨rfl, hl2⟩
      cases ht : okTree xs
      · have HF : Hid (vrB xs L = false) := by show _ = _; rw [HY.out, ht]; rfl
        go_wp2
        go_ret
        exact ⟨ret_bool HF.out.symm, L0.trans (hle.trans hl2)⟩
      · have HF : Hid (vrB xs L = decide ((L.length : Int) ≤ 24)) := by show _ = _; rw [HY.out, ht, Bool.true_and]; exact decide_eq_decide.2 (by omega)
        go_wp2
        go_ret
        exact ⟨ret_bool HF.out.symm, L0.trans (hle.trans hl2)⟩
set_option maxHeartbeats 2000000 in
set_option maxRecDepth 100000 in
theorem ivalidRanges_any (B A : Option Addr) (m c n cap : Nat) (xs : List Cls) (L : List Rng) (w : World) (hT : Sl w B m c xs) (hR : Sl w A n cap L) :
    Calls Try.prog 93 #[.agg #[.slice B m c], .slice A n cap] w fun e w' => e = .returned (.bool (vrB xs L)) ∧ Le w w' := by
  obtain rfl := hR.len
  obtain rfl := hT.len
  have hnl := hR.n_le
  have HX : Hid (vrB xs L = (okTree xs && decide (L.length ≤ 24) && L.all (rgOk xs))) := rfl
  go_enter Try.func93, Try.ntmps93
  go_wp2_with fail
  obtain ⟨ct, zt, hleB⟩ := box1 w (.slice B xs.length c) 31
  have L0 := hleB
  clear hleB
  generalize w.alloc (.cells #[.slice B xs.length c] 31) = W at *
  refine (iValidTree_any B xs.length c xs _ (hT.le L0)).mono ?_
  rintro e w1 ⟨rfl, hle⟩
  replace ct := (hle.cell zt).trans ct
  replace zt := Nat.lt_of_lt_of_le zt hle.size
  replace L0 := L0.trans hle
  clear hle
  cases ht : okTree xs
  · have HF : Hid (vrB xs L = false) := by show _ = _; rw [HX.out, ht]; rfl
    clear HX
    go_wp2
    go_ret
    exact ⟨ret_bool HF.out.symm, L0⟩
  · by_cases h24 : 24 < L.length
    · have h24b : decide ((24 : Int) < (L.length : Int)) = true := decide_eq_true (by omega)
      have HF : Hid (vrB xs L = false) := by show _ = _; rw [HX.out, ht, decide_eq_false (by omega)]; rfl
      clear HX
      go_wp2
      go_ret
      exact ⟨ret_bool HF.out.symm, L0⟩
    · have h24b : decide ((24 : Int) < (L.length : Int)) = false := decide_eq_false (by omega)
      have HY : Hid (vrB xs L = L.all (rgOk xs)) := by show _ = _; rw [HX.out, ht, decide_eq_true (by omega), Bool.true_and, Bool.true_and]
      clear HX
      have S1 := hR.le L0
      have T1 := hT.le L0
      clear hR hT
      go_wp2
      go_loopw [6, 7, 18] (fun _ _ q wr => ∃ k : Nat, k ≤ L.length ∧ q = .int .i64 k ∧ L.all (rgOk xs) = (L.drop k).all (rgOk xs) ∧ Le w1 wr) (fun _ _ q _ => L.length - (intOf q).toNat)
      case atStart => exact ⟨0, Nat.zero_le _, rfl, rfl, Le.refl _⟩
      case round =>
        obtain ⟨k, hk, rfl, he, hle⟩ := hrel
        have HE := Lib.hid he; clear he
        have S := S1.le hle
        have T := T1.le hle
        replace ct := (hle.cell zt).trans ct
        replace zt := Nat.lt_of_lt_of_le zt hle.size
        clear S1 T1
        by_cases hlt : k < L.length
        · obtain ⟨b, off, rfl, hb, d0, d1, d2, d3, -⟩ := S.rng_at hlt
          have HA : Hid ((L.drop k).all (rgOk xs) = ((rng 0 24 L[k].lo && rng L[k].lo 24 L[k].hi && rng 0 23 L[k].target && hasK xs L[k].cls) && (L.drop (k + 1)).all (rgOk xs))) := all_at hlt
          generalize L[k].lo = v0 at *
          generalize L[k].hi = v1 at *
          generalize L[k].target = v2 at *
          generalize L[k].cls = v3 at *
          go_wp2_with fail
          obtain ⟨x0, x1, z0, hle2⟩ := box4 wr (.int .i64 v0) (.int .i64 v1) (.int .i64 v2) (.int .i64 v3) 90
          obtain ⟨x2, x3⟩ := box4b wr (.int .i64 v0) (.int .i64 v1) (.int .i64 v2) (.int .i64 v3) 90
          have cX := (hle2.cell zt).trans ct
          have T2 := T.le hle2
          have L2 := hle.trans hle2
          clear d0 d1 d2 d3
          generalize wr.heap.size = X at *
          generalize wr.alloc _ = W2 at *
          refine (iRange_any v0 0 24 W2).mono ?_
          rintro e w' ⟨rfl, rfl⟩
          cases r0 : rng 0 24 v0
          · have HF : Hid (vrB xs L = false) := by show _ = _; rw [HY.out, HE.out, HA.out, r0]; simp
            go_wp2
            go_ret
            exact ⟨ret_bool HF.out.symm, L0.trans L2⟩
          · go_wp2_with fail
            refine (iRange_any v1 v0 24 W2).mono ?_
            rintro e w' ⟨rfl, rfl⟩
            cases r1 : rng v0 24 v1
            · have HF : Hid (vrB xs L = false) := by show _ = _; rw [HY.out, HE.out, HA.out, r1]; simp
              go_wp2
              go_ret
              exact ⟨ret_bool HF.out.symm, L0.trans L2⟩
            · go_wp2_with fail
              refine (iRange_any v2 0 23 W2).mono ?_
              rintro e w' ⟨rfl, rfl⟩
              cases r2 : rng 0 23 v2
              · have HF : Hid (vrB xs L = false) := by show _ = _; rw [HY.out, HE.out, HA.out, r2]; simp
                go_wp2
                go_ret
                exact ⟨ret_bool HF.out.symm, L0.trans L2⟩
              · go_wp2_with fail
                refine (isClass_any B xs.length c xs v3 W2 T2).mono ?_
                rintro e w3 ⟨rfl, hle3⟩
                cases r3 : hasK xs v3
                · have HF : Hid (vrB xs L = false) := by show _ = _; rw [HY.out, HE.out, HA.out, r3]; simp
                  go_wp2
                  go_ret
                  exact ⟨ret_bool HF.out.symm, L0.trans (L2.trans hle3)⟩
                · have HF : Hid (L.all (rgOk xs) = (L.drop (k + 1)).all (rgOk xs)) := by show _ = _; rw [HE.out, HA.out, r0, r1, r2, r3]; rfl
                  go_wp2
                  go_roundw
                  case rel => exact ⟨k + 1, by omega, by go_num, HF.out, L2.trans hle3⟩
                  case measure => simp [intOf]; omega
        · obtain rfl : k = L.length := by omega
          have HF : Hid (vrB xs L = true) := by show _ = _; rw [HY.out, HE.out, List.drop_length]; rfl
          go_wp2
          go_ret
          exact ⟨ret_bool HF.out.symm, L0.trans hle⟩
theorem vr_len {xs : List Cls} {L : List Rng} (h : vrB xs L = true) : L.length ≤ 24 ∧ okTree xs = true ∧ ∀ r ∈ L, rgOk xs r = true := by
  unfold vrB at h
  rw [Bool.and_eq_true, Bool.and_eq_true, decide_eq_true_eq, List.all_eq_true] at h
  exact ⟨h.1.2, h.1.1, h.2⟩
set_option maxHeartbeats 2000000 in
set_option maxRecDepth 100000 in
theorem iLookUp_any (B A : Option Addr) (m c n cap : Nat) (xs : List Cls) (L : List Rng) (i a : Int) (w : World) (hT : Sl w B m c xs) (hR : Sl w A n cap L) :
    Calls Try.prog 53 #[.agg #[.slice B m c], .slice A n cap, .int .i64 i, .int .i64 a] w fun e w' => e = .returned (.int .i64 (luX xs L i a)) ∧ Le w w' := by
  have HX : Hid (luX xs L i a = cond (vrB xs L) (luF xs i a L) (-1)) := rfl
  go_enter Try.func53, Try.ntmps53
  go_wp2_with fail
  obtain ⟨ct, zt, hleB⟩ := box1 w (.slice B m c) 31
  have L0 := hleB
  clear hleB
  generalize w.alloc (.cells #[.slice B m c] 31) = W at *
  refine (ivalidRanges_any B A m c n cap xs L _ (hT.le L0) (hR.le L0)).mono ?_
  rintro e w1 ⟨rfl, hle⟩
  replace ct := (hle.cell zt).trans ct
  replace zt := Nat.lt_of_lt_of_le zt hle.size
  replace L0 := L0.trans hle
  clear hle
  cases h : vrB xs L
  · have HF : Hid (luX xs L i a = -1) := by show _ = _; rw [HX.out, h]; rfl
    go_wp2
    go_ret
    exact ⟨ret_int HF.out.symm, L0⟩
  · have HY : Hid (luX xs L i a = luF xs i a L) := by show _ = _; rw [HX.out, h]; rfl
    have hl := (vr_len h).1
    obtain rfl := hR.len
    have S1 := hR.le L0
    have T1 := hT.le L0
    clear HX hR hT
    go_wp2
    go_loopw [10, 17] (fun _ q wr => ∃ k : Nat, k ≤ L.length ∧ q = .int .i64 k ∧ luF xs i a L = luF xs i a (L.drop k) ∧ Le w1 wr) (fun _ q _ => L.length - (intOf q).toNat)
    case atStart => exact ⟨0, Nat.zero_le _, rfl, rfl, Le.refl _⟩
    case round =>
      obtain ⟨k, hk, rfl, he, hle⟩ := hrel
      have HE := Lib.hid he; clear he
      have S := S1.le hle
      have T := T1.le hle
      replace ct := (hle.cell zt).trans ct
      replace zt := Nat.lt_of_lt_of_le zt hle.size
      clear S1 T1
      by_cases hlt : k < L.length
      · obtain ⟨b, off, rfl, hb, d0, d1, d2, d3, -⟩ := S.rng_at hlt
        have HA := Lib.hid (luF_at (xs := xs) (i := i) (a := a) hlt)
        generalize L[k].lo = v0 at *
        generalize L[k].hi = v1 at *
        generalize L[k].target = v2 at *
        generalize L[k].cls = v3 at *
        obtain ⟨x0, x1, z0, hle2⟩ := box4 wr (.int .i64 v0) (.int .i64 v1) (.int .i64 v2) (.int .i64 v3) 90
        obtain ⟨x2, x3⟩ := box4b wr (.int .i64 v0) (.int .i64 v1) (.int .i64 v2) (.int .i64 v3) 90
        have cX := (hle2.cell zt).trans ct
        have T2 := T.le hle2
        have L2 := hle.trans hle2
        cases r0 : decide (v0 ≤ i)
        · have HF : Hid (luF xs i a L = luF xs i a (L.drop (k + 1))) := by show _ = _; rw [HE.out, HA.out, r0, if_neg (by simp)]
          go_wp2
          go_roundw
          case rel => exact ⟨k + 1, by omega, by go_num, HF.out, L2⟩
          case measure => simp [intOf]; omega
        · cases r1 : decide (i < v1)
          · have HF : Hid (luF xs i a L = luF xs i a (L.drop (k + 1))) := by show _ = _; rw [HE.out, HA.out, r1, if_neg (by simp)]
            go_wp2
            go_roundw
            case rel => exact ⟨k + 1, by omega, by go_num, HF.out, L2⟩
            case measure => simp [intOf]; omega
          · go_wp2_with fail
            refine (iIsA_any B m c xs a v3 _ T2).mono ?_
            rintro e w3 ⟨rfl, hle3⟩
            have x5 := (hle3.cell z0).trans x2
            cases r2 : isAx xs a v3
            · have HF : Hid (luF xs i a L = luF xs i a (L.drop (k + 1))) := by show _ = _; rw [HE.out, HA.out, r2, if_neg (by simp)]
              go_wp2
              go_roundw
              case rel => exact ⟨k + 1, by omega, by go_num, HF.out, L2.trans hle3⟩
              case measure => simp [intOf]; omega
            · have HF : Hid (luX xs L i a = v2) := by show _ = _; rw [HY.out, HE.out, HA.out, r0, r1, r2]; rfl
              go_wp2
              go_ret
              exact ⟨ret_int HF.out.symm, L0.trans (L2.trans hle3)⟩
      · have HF : Hid (luX xs L i a = -1) := by show _ = _; rw [HY.out, HE.out, luF_end hlt]
        go_wp2
        go_ret
        exact ⟨ret_int HF.out.symm, L0.trans hle⟩
set_option maxHeartbeats 2000000 in
set_option maxRecDepth 100000 in
theorem sLookUp_any (B A : Option Addr) (m c n cap : Nat) (xs : List Cls) (L : List Rng) (i a : Int) (hsm : n ≤ 1048576) (w : World) (hT : Sl w B m c xs) (hR : Sl w A n cap L) :
    Calls Try.prog 51 #[.agg #[.slice B m c], .slice A n cap, .int .i64 i, .int .i64 a] w fun e w' => e = .returned (.int .i64 (luX xs L i a)) ∧ Le w w' := by
  have HX : Hid (luX xs L i a = cond (vrB xs L) (luF xs i a L) (-1)) := rfl
  go_enter Try.func51, Try.ntmps51
  go_wp2_with fail
  obtain ⟨ct, zt, hleB⟩ := box1 w (.slice B m c) 31
  have L0 := hleB
  clear hleB
  generalize w.alloc (.cells #[.slice B m c] 31) = W at *
  refine (svalidRanges_any B A m c n cap xs L hsm _ (hT.le L0) (hR.le L0)).mono ?_
  rintro e w1 ⟨rfl, hle⟩
  replace ct := (hle.cell zt).trans ct
  replace zt := Nat.lt_of_lt_of_le zt hle.size
  replace L0 := L0.trans hle
  clear hle
  cases h : vrB xs L
  · have HF : Hid (luX xs L i a = -1) := by show _ = _; rw [HX.out, h]; rfl
    go_wp2
    go_ret
    exact ⟨ret_int HF.out.symm, L0⟩
  · have HY : Hid (luX xs L i a = luF xs i a L) := by show _ = _; rw [HX.out, h]; rfl
    have hl := (vr_len h).1
    have hok := (vr_len h).2.1
    have HRO := Lib.hid (vr_len h).2.2
    obtain rfl := hR.len
    have S1 := hR.le L0
    have T1 := hT.le L0
    clear HX hR hT h
    go_wp2_with fail
    refine (hasClass_any B m c xs a _ T1).mono ?_
    rintro e w2 ⟨rfl, hle⟩
    replace ct := (hle.cell zt).trans ct
    replace zt := Nat.lt_of_lt_of_le zt hle.size
    replace L0 := L0.trans hle
    replace S1 := S1.le hle
    replace T1 := T1.le hle
    clear hle
    cases hk : hasK xs a
    · have HF : Hid (luX xs L i a = -1) := by show _ = _; rw [HY.out, luF_no hk]
      go_wp2
      go_ret
      exact ⟨ret_int HF.out.symm, L0⟩
    · go_wp2
      have ha := hasK_iff.1 hk
      have HG := Lib.hid (good_of hok)
      have HIA : Hid (∀ b, hasK xs b = true → isAx xs a b = isAL xs a b) := fun b hb => by unfold isAx; rw [hok, hk, hb]; rfl
      go_loopw [9] (fun q wr => ∃ k : Nat, k ≤ L.length ∧ q = .int .i64 k ∧ luF xs i a L = luF xs i a (L.drop k) ∧ Le w2 wr) (fun q _ => L.length - (intOf q).toNat)
      case atStart => exact ⟨0, Nat.zero_le _, rfl, rfl, Le.refl _⟩
      case round =>
        obtain ⟨k, hk, rfl, he, hle⟩ := hrel
        have HE := Lib.hid he; clear he
        have S := S1.le hle
        have T := T1.le hle
        replace ct := (hle.cell zt).trans ct
        replace zt := Nat.lt_of_lt_of_le zt hle.size
        clear S1 T1
        by_cases hlt : k < L.length
        · have hr := HRO.out L[k] (List.getElem_mem hlt)
          obtain ⟨b, off, rfl, hb, d0, d1, d2, d3, -⟩ := S.rng_at hlt
          have HA := Lib.hid (luF_at (xs := xs) (i := i) (a := a) hlt)
          unfold rgOk at hr
          generalize L[k].lo = v0 at *
          generalize L[k].hi = v1 at *
          generalize L[k].target = v2 at *
          generalize L[k].cls = v3 at *
          simp only [Bool.and_eq_true, rng_iff] at hr
          obtain ⟨⟨⟨hr0, hr1⟩, hr2⟩, hr3⟩ := hr
          have HI3 := Lib.hid (HIA.out v3 hr3)
          have hw1 : IntKind.i64.wrap (v1 - 1) = v1 - 1 := IntWalk.i64_in _ (by omega)
          have HRR : Hid ((decide (v0 ≤ i) && decide (i < v1)) = rng v0 (v1 - 1) i) := by show _ = _; rw [Bool.eq_iff_iff, Bool.and_eq_true, decide_eq_true_eq, decide_eq_true_eq, rng_iff]; omega
          clear hr0 hr1 hr2 hr3
          have Et := cell_ext zt ct
          have E0 := cell_ext hb d0
          have E1 := cell_ext hb d1
          have E3 := cell_ext hb d3
          have hcr : ∀ U : World, Calls Try.prog 90 #[.int .i64 i, .int .i64 v0, .int .i64 (v1 - 1)] U fun e w' => e = .returned (.bool (rng v0 (v1 - 1) i)) ∧ U = w' := fun U => rng_any i v0 (v1 - 1) U
          have hca : ∀ (g : Ext wr) (_ : True), Calls Try.prog 91 #[.agg #[.slice B m c], .int .i64 a, .int .i64 v3] (wr.ext g) fun e w' => e = .returned (.bool (isAL xs a v3)) ∧ Le (wr.ext g) w' := fun g _ => isA_any B m c xs a v3 _ (T.le (Le.ext wr g)) HG.out (by omega) (by omega)
          have hkx0 : (0 : Int) ≤ (k : Int) := by omega
          have hkxn : (k : Int) < (L.length : Int) := by omega
          clear ct d0 d1 d3
          generalize rng v0 (v1 - 1) i = q0 at *
          generalize isAL xs a v3 = q1 at *
          go_wp2_with fail
          cases q0
          · have HF : Hid (luF xs i a L = luF xs i a (L.drop (k + 1))) := by show _ = _; rw [HE.out, HA.out, HRR.out, if_neg (by simp)]
            refine wp_region_ext (by kernel_rfl) (by kernel_rfl) ?_
            repeat (go_big_quiet_step (first | (go_at_call 90; exact Calls.ext_same (hcr _)) | (go_at_call 91; exact Calls.ext_of (hca _ trivial))))
            refine wpQuiet_nil ?_
            intro _ hw'
            obtain ⟨gg, rfl⟩ := hw'
            have hw1 := Le.ext wr gg
            generalize wr.ext gg = W2 at *
            go_wp2
            go_roundw
            case rel => exact ⟨k + 1, by omega, by go_num, HF.out, hle.trans hw1⟩
            case measure => simp [intOf]; omega
          · cases q1
            · have HF : Hid (luF xs i a L = luF xs i a (L.drop (k + 1))) := by show _ = _; rw [HE.out, HA.out, HRR.out, HI3.out, if_neg (by simp)]
              refine wp_region_ext (by kernel_rfl) (by kernel_rfl) ?_
              repeat (go_big_quiet_step (first | (go_at_call 90; exact Calls.ext_same (hcr _)) | (go_at_call 91; exact Calls.ext_of (hca _ trivial))))
              refine wpQuiet_nil ?_
              intro _ hw'
              obtain ⟨gg, rfl⟩ := hw'
              have hw1 := Le.ext wr gg
              generalize wr.ext gg = W2 at *
              go_wp2
              go_roundw
              case rel => exact ⟨k + 1, by omega, by go_num, HF.out, hle.trans hw1⟩
              case measure => simp [intOf]; omega
            · have HF : Hid (luX xs L i a = v2) := by show _ = _; rw [HY.out, HE.out, HA.out, HRR.out, HI3.out]; rfl
              refine wp_region_ext (by kernel_rfl) (by kernel_rfl) ?_
              repeat (go_big_quiet_step (first | (go_at_call 90; exact Calls.ext_same (hcr _)) | (go_at_call 91; exact Calls.ext_of (hca _ trivial))))
              refine wpQuiet_nil ?_
              intro _ hw'
              obtain ⟨gg, rfl⟩ := hw'
              have hw1 := Le.ext wr gg
              generalize wr.ext gg = W2 at *
              replace d2 := (hw1.cell hb).trans d2
              go_wp2
              go_ret
              exact ⟨ret_int HF.out.symm, L0.trans (hle.trans hw1)⟩
        · have HF : Hid (luX xs L i a = -1) := by show _ = _; rw [HY.out, HE.out, luF_end hlt]
          go_wp2
          go_ret
          exact ⟨ret_int HF.out.symm, L0.trans hle⟩
end Go.Proofs.Ytjcellhpmooifaa
