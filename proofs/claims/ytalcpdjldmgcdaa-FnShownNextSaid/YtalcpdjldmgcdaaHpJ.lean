/- ShownNext of the model and of the program -/
import Derived.Test.YtalcpdjldmgcdaaHpE
import Derived.Test.YtalcpdjldmgcdaaVH
namespace Go.Proofs.Ytalcpdjldmgcdaa
open Go.RowKit

/-- what is shown ahead of a fault -/
def shownOf (x : Flt) : Int := cond (decide (0 ≤ x.cause)) x.cause (cond x.hide (-1) x.ctx)
def shownAt (hs : List Flt) (f : Int) : Int := match hs[f.toNat]? with | some x => shownOf x | none => -1
theorem shownAt_at {hs : List Flt} {i : Nat} (h : i < hs.length) : shownAt hs (i : Int) = shownOf hs[i] := by
  unfold shownAt; rw [Int.toNat_natCast, List.getElem?_eq_getElem h]
def shownX (xs : List Cls) (hs : List Flt) (f : Int) : Int := cond (goodF xs hs f) (shownAt hs f) (-2)
theorem shownX_of {xs : List Cls} {hs : List Flt} {f : Int} {t : Bool} (h : goodF xs hs f = t) : shownX xs hs f = cond t (shownAt hs f) (-2) := by unfold shownX; rw [h]

theorem shownLink_any (x : Flt) (w : World) : Calls Try.prog 32 #[.agg #[.int .i64 x.cls, .int .i64 x.code, .int .i64 x.cause, .int .i64 x.ctx, .bool x.hide]] w fun e w' => e = .returned (.int .i64 (shownOf x)) ∧ Le w w' := by
  have hX : shownOf x = cond (decide (0 ≤ x.cause)) x.cause (cond x.hide (-1) x.ctx) := rfl
  have HX := Lib.hid hX; clear hX
  by_cases h : 0 ≤ x.cause
  · have h2 : ¬ x.cause < 0 := by omega
    have e : shownOf x = x.cause := by rw [HX.out, decide_eq_true h]; rfl
    have HE := Lib.hid e; clear e
    go_enter Try.func32, Try.ntmps32
    go_wp2
    go_ret
    exact ⟨ret_int HE.out.symm, Le.new _ _⟩
  · have h2 : x.cause < 0 := by omega
    cases hh : x.hide
    · have e : shownOf x = x.ctx := by rw [HX.out, decide_eq_false h, hh]; rfl
      have HE := Lib.hid e; clear e
      go_enter Try.func32, Try.ntmps32
      go_wp2
      go_ret
      exact ⟨ret_int HE.out.symm, Le.new _ _⟩
    · have e : shownOf x = -1 := by rw [HX.out, decide_eq_false h, hh]; rfl
      have HE := Lib.hid e; clear e
      go_enter Try.func32, Try.ntmps32
      go_wp2
      go_ret
      exact ⟨ret_int HE.out.symm, Le.new _ _⟩

theorem iHasFault_any (A H : Option Addr) (n cap m c : Nat) (xs : List Cls) (hs : List Flt) (f : Int) (w : World) (hR : Sl w A n cap xs) (hH : Sl w H m c hs) (hm : m ≤ 2097152) :
    Calls Try.prog 28 #[.agg #[.slice A n cap], .agg #[.slice H m c], .int .i64 f] w fun e w' => e = .returned (.bool (goodF xs hs f)) ∧ Le w w' := by
  have HG : Hid (goodF xs hs f = (hasF hs f && okHeap xs hs)) := by show _ = _; unfold goodF; rw [Bool.and_comm]
  obtain rfl := hH.len
  have hnn : IntKind.i64.wrap ((hs.length : Int) - 1) = (hs.length : Int) - 1 := IntWalk.i64_in _ (by omega)
  go_enter Try.func28, Try.ntmps28
  go_wp2_with fail
  obtain ⟨c0, z0, c1, z1, L0⟩ := box2 w (.slice A n cap) (.slice H hs.length c) 25 28
  generalize (w.alloc (.cells #[.slice A n cap] 25)).alloc (.cells #[.slice H hs.length c] 28) = W at *
  refine (iInRange_any _ _ _ _).mono ?_
  rintro e w1 ⟨rfl, hle⟩
  replace c0 := (hle.cell z0).trans c0
  replace c1 := (hle.cell z1).trans c1
  replace z0 := Nat.lt_of_lt_of_le z0 hle.size
  replace z1 := Nat.lt_of_lt_of_le z1 hle.size
  replace L0 := L0.trans hle
  clear hle
  have hq : rng 0 ((hs.length : Int) - 1) f = hasF hs f := rfl
  rw [hq]
  cases ho : hasF hs f
  · rw [ho] at HG
    go_wp2
    go_ret
    exact ⟨ret_bool (by rw [HG.out]; rfl), L0⟩
  · rw [ho] at HG
    go_wp2_with fail
    refine (iValidHeap_any A H n cap hs.length c xs hs w1 (hR.le L0) (hH.le L0) hm).mono ?_
    rintro e w2 ⟨rfl, hle⟩
    go_wp2
    go_ret
    exact ⟨ret_bool (by rw [HG.out]; rfl), L0.trans hle⟩

set_option maxRecDepth 100000 in
theorem iShownNext_any (A H : Option Addr) (n cap m c : Nat) (xs : List Cls) (hs : List Flt) (f : Int) (w : World) (hR : Sl w A n cap xs) (hH : Sl w H m c hs) (hm : m ≤ 2097152) :
    Calls Try.prog 11 #[.agg #[.slice A n cap], .agg #[.slice H m c], .int .i64 f] w fun e w' => e = .returned (.int .i64 (shownX xs hs f)) ∧ Le w w' := by
  go_enter Try.func11, Try.ntmps11
  go_wp2_with fail
  obtain ⟨c0, z0, c1, z1, L0⟩ := box2 w (.slice A n cap) (.slice H m c) 25 28
  have S0 := hH.le L0
  generalize (w.alloc (.cells #[.slice A n cap] 25)).alloc (.cells #[.slice H m c] 28) = W at *
  refine (iHasFault_any A H n cap m c xs hs f W (hR.le L0) S0 hm).mono ?_
  rintro e w1 ⟨rfl, hle⟩
  replace c0 := (hle.cell z0).trans c0
  replace c1 := (hle.cell z1).trans c1
  replace z0 := Nat.lt_of_lt_of_le z0 hle.size
  replace z1 := Nat.lt_of_lt_of_le z1 hle.size
  replace L0 := L0.trans hle
  replace S0 := S0.le hle
  clear hle
  cases ho : goodF xs hs f
  · have HX := Lib.hid (shownX_of ho)
    clear ho
    go_wp2
    go_ret
    exact ⟨ret_int HX.out.symm, L0⟩
  · have HX := Lib.hid (shownX_of ho)
    have hf : hasF hs f = true := by unfold goodF at ho; simp at ho; exact ho.2
    have hf2 := hasF_iff.1 hf
    obtain ⟨i, rfl⟩ := Int.eq_ofNat_of_zero_le hf2.1
    have hi : i < hs.length := by omega
    have hlen := S0.len
    have hA := shownAt_at hi
    have HA := Lib.hid hA
    clear ho hf hA
    obtain ⟨b, off, rfl, hb, q0, q1, q2, q3, q4, _⟩ := S0.flt_at hi
    have him : (i : Int) < m := by omega
    generalize hs[i] = x at *
    go_wp2_with fail
    refine (shownLink_any x _).mono ?_
    rintro e w2 ⟨rfl, hle⟩
    go_wp2
    go_ret
    exact ⟨ret_int (by rw [HX.out]; exact HA.out.symm), L0.trans hle⟩

set_option maxRecDepth 100000 in
theorem shownNext_any (H : Option Addr) (m c : Nat) (hs : List Flt) (i : Nat) (w : World) (hH : Sl w H m c hs) (hi : i < hs.length) :
    Calls Try.prog 34 #[.agg #[.slice H m c], .int .i64 i] w fun e w' => e = .returned (.int .i64 (shownAt hs i)) ∧ Le w w' := by
  have HA := Lib.hid (shownAt_at hi)
  have hlen := hH.len
  obtain ⟨b, off, rfl, hb, q0, q1, q2, q3, q4, _⟩ := hH.flt_at hi
  have him : (i : Int) < m := by omega
  have hX : shownOf hs[i] = cond (decide (0 ≤ hs[i].cause)) hs[i].cause (cond hs[i].hide (-1) hs[i].ctx) := rfl
  have HX := Lib.hid hX; clear hX
  have L1 := Le.new w (.cells #[.slice (some ⟨b, off, none⟩) m c] 28)
  replace q0 := (L1.cell hb).trans q0
  replace q1 := (L1.cell hb).trans q1
  replace q2 := (L1.cell hb).trans q2
  replace q3 := (L1.cell hb).trans q3
  replace q4 := (L1.cell hb).trans q4
  clear hlen
  generalize hs[i] = x at *
  by_cases h : 0 ≤ x.cause
  · have e : shownOf x = x.cause := by rw [HX.out, decide_eq_true h]; rfl
    have HE := Lib.hid e; clear e
    go_enter Try.func34, Try.ntmps34
    go_wp2
    go_ret
    exact ⟨ret_int (by rw [HA.out, HE.out]), (Le.new _ _).alloc _⟩
  · cases hh : x.hide
    · have e : shownOf x = x.ctx := by rw [HX.out, decide_eq_false h, hh]; rfl
      have HE := Lib.hid e; clear e
      go_enter Try.func34, Try.ntmps34
      go_wp2
      go_ret
      exact ⟨ret_int (by rw [HA.out, HE.out]), (Le.new _ _).alloc _⟩
    · have e : shownOf x = -1 := by rw [HX.out, decide_eq_false h, hh]; rfl
      have HE := Lib.hid e; clear e
      go_enter Try.func34, Try.ntmps34
      go_wp2
      go_ret
      exact ⟨ret_int (by rw [HA.out, HE.out]), (Le.new _ _).alloc _⟩

theorem sShownNext_any (A H : Option Addr) (n cap m c : Nat) (xs : List Cls) (hs : List Flt) (f : Int) (w : World) (hR : Sl w A n cap xs) (hH : Sl w H m c hs) (hm : m ≤ 2097152) :
    Calls Try.prog 13 #[.agg #[.slice A n cap], .agg #[.slice H m c], .int .i64 f] w fun e w' => e = .returned (.int .i64 (shownX xs hs f)) ∧ Le w w' := by
  go_enter Try.func13, Try.ntmps13
  go_wp2_with fail
  obtain ⟨c0, z0, c1, z1, L0⟩ := box2 w (.slice A n cap) (.slice H m c) 25 28
  have S0 := hH.le L0
  generalize (w.alloc (.cells #[.slice A n cap] 25)).alloc (.cells #[.slice H m c] 28) = W at *
  refine (goodFault_any A H n cap m c xs hs f W (hR.le L0) S0 hm).mono ?_
  rintro e w1 ⟨rfl, hle⟩
  replace c0 := (hle.cell z0).trans c0
  replace c1 := (hle.cell z1).trans c1
  replace z0 := Nat.lt_of_lt_of_le z0 hle.size
  replace z1 := Nat.lt_of_lt_of_le z1 hle.size
  replace L0 := L0.trans hle
  replace S0 := S0.le hle
  clear hle
  cases ho : goodF xs hs f
  · have HX := Lib.hid (shownX_of ho)
    clear ho
    go_wp2
    go_ret
    exact ⟨ret_int HX.out.symm, L0⟩
  · have HX := Lib.hid (shownX_of ho)
    have hf : hasF hs f = true := by unfold goodF at ho; simp at ho; exact ho.2
    have hf2 := hasF_iff.1 hf
    obtain ⟨i, rfl⟩ := Int.eq_ofNat_of_zero_le hf2.1
    have hi : i < hs.length := by omega
    clear ho hf
    go_wp2_with fail
    refine (shownNext_any H m c hs i _ S0 hi).mono ?_
    rintro e w2 ⟨rfl, hle⟩
    go_wp2
    go_ret
    exact ⟨ret_int HX.out.symm, L0.trans hle⟩
end Go.Proofs.Ytalcpdjldmgcdaa
