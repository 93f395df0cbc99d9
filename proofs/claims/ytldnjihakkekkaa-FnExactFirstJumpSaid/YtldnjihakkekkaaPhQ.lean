/- programs: validProgram, ValidProgram of the model; what both ask is one -/
import Derived.Test.YtldnjihakkekkaaPhP
import Derived.Test.YtldnjihakkekkaaPhO
namespace Go.Proofs.Ytldnjihakkekkaa
open Go.RowKit
def lsB (xs : List Cls) (p : List Lin) (i : Nat) : Bool := match p[i]? with | some x => lineT xs p i x | none => true
theorem lsB_at {xs : List Cls} {p : List Lin} {i : Nat} (h : i < p.length) : lsB xs p i = lineT xs p i p[i] := by unfold lsB; rw [List.getElem?_eq_getElem h]
/-- what the model asks of a program -/
def vp (xs : List Cls) (p : List Lin) : Bool := (List.range p.length).all (lsB xs p) && okTree xs && decide (p.length ≤ 24)
theorem vp_iff {xs : List Cls} {p : List Lin} : vp xs p = true ↔ okTree xs = true ∧ p.length ≤ 24 ∧ ∀ i (h : i < p.length), lineS xs p i p[i] := by
  unfold vp
  rw [Bool.and_eq_true, Bool.and_eq_true, List.all_eq_true, decide_eq_true_eq]
  constructor
  · rintro ⟨⟨h1, h2⟩, h3⟩
    refine ⟨h2, h3, fun i hi => (lineT_iff xs p i hi).1 ?_⟩
    have := h1 i (List.mem_range.2 hi)
    rwa [lsB_at hi] at this
  · rintro ⟨h2, h3, h1⟩
    refine ⟨⟨fun i hi => ?_, h2⟩, h3⟩
    have hi := List.mem_range.1 hi
    rw [lsB_at hi]
    exact (lineT_iff xs p i hi).2 (h1 i hi)
theorem vpI_iff {xs : List Cls} {p : List Lin} : vpI xs p = true ↔ okTree xs = true ∧ p.length ≤ 24 ∧ (∀ i (h : i < p.length), lineI xs p i p[i]) ∧ (∀ h : 0 < p.length, opn (p[p.length - 1]'(by omega)).kind = false) ∧ triesI p := by
  unfold vpI
  rw [Bool.and_eq_true, Bool.and_eq_true, Bool.and_eq_true, Bool.and_eq_true, List.all_eq_true, decide_eq_true_eq, trB_iff]
  have hlast : ((!lastB p) = true) ↔ (∀ h : 0 < p.length, opn (p[p.length - 1]'(by omega)).kind = false) := by
    unfold lastB
    rw [Bool.not_eq_true', Bool.and_eq_false_iff, decide_eq_false_iff_not]
    constructor
    · intro h h0
      have h1 := h.resolve_left (fun e => e h0)
      rwa [knd_at (by omega)] at h1
    · intro h
      by_cases h0 : 0 < p.length
      · refine .inr ?_
        rw [knd_at (by omega)]
        exact h h0
      · exact .inl h0
  rw [hlast]
  constructor
  · rintro ⟨⟨⟨⟨h1, h2⟩, h3⟩, h4⟩, h5⟩
    refine ⟨h1, h2, fun i hi => (lineB_iff xs p i hi).1 ?_, h4, h5⟩
    have := h3 i (List.mem_range.2 hi)
    rwa [liB_at hi] at this
  · rintro ⟨h1, h2, h3, h4, h5⟩
    refine ⟨⟨⟨⟨h1, h2⟩, fun i hi => ?_⟩, h4⟩, h5⟩
    have hi := List.mem_range.1 hi
    rw [liB_at hi]
    exact (lineB_iff xs p i hi).2 (h3 i hi)
theorem vp_same (xs : List Cls) (p : List Lin) : vpI xs p = vp xs p := by
  rw [Bool.eq_iff_iff, vpI_iff, vp_iff]
  refine and_congr_right fun _ => and_congr_right fun _ => ?_
  exact (lines_same xs p).symm
/-- what a valid program is -/
structure GoodP (xs : List Cls) (p : List Lin) : Prop where
  tree : okTree xs = true
  len : p.length ≤ 24
  line : ∀ i (h : i < p.length), lineS xs p i p[i]
  tries : triesI p
theorem goodP_of {xs : List Cls} {p : List Lin} (h : vp xs p = true) : GoodP xs p := by
  have a := vp_iff.1 h
  exact ⟨a.1, a.2.1, a.2.2, ((lines_same xs p).1 a.2.2).2.2⟩
theorem dep_aheadS {xs : List Cls} {p : List Lin} {k : Nat} (hk : k < p.length) (H : ∀ j, j < k → lsB xs p j = true) : 0 < k → 0 ≤ dep p (k - 1) ∧ dep p (k - 1) ≤ 5 := fun h0 => by
  have h := H (k - 1) (by omega)
  rw [lsB_at (by omega)] at h
  exact ((lineT_iff xs p (k - 1) (by omega)).1 h).2.1.1
set_option maxHeartbeats 2000000 in
set_option maxRecDepth 100000 in
theorem svalidProgram_any (B A : Option Addr) (m c n cap : Nat) (xs : List Cls) (p : List Lin) (hsm : p.length ≤ 1048576) (w : World) (hT : Sl w B m c xs) (hR : Sl w A n cap p) :
    Calls Try.prog 21 #[.agg #[.slice B m c], .slice A n cap] w fun e w' => e = .returned (.bool (vp xs p)) ∧ Le w w' := by
  obtain rfl := hR.len
  obtain rfl := hT.len
  have HX : Hid (vp xs p = ((List.range p.length).all (lsB xs p) && okTree xs && decide (p.length ≤ 24))) := rfl
  go_enter Try.func21, Try.ntmps21
  go_wp2_with fail
  obtain ⟨ct, zt, hleB⟩ := box1 w (.slice B xs.length c) 31
  have L0 := hleB
  clear hleB
  generalize w.alloc (.cells #[.slice B xs.length c] 31) = W at *
  have S1 := hR.le L0
  have T1 := hT.le L0
  clear hR hT
  go_loopw [5] (fun q wr => ∃ k : Nat, k ≤ p.length ∧ q = .int .i64 k ∧ (∀ j, j < k → lsB xs p j = true) ∧ Le W wr) (fun q _ => p.length - (intOf q).toNat)
  case atStart => exact ⟨0, Nat.zero_le _, rfl, fun j h => absurd h (by omega), Le.refl _⟩
  case round =>
    obtain ⟨k, hk, rfl, hall, L⟩ := hrel
    have HALL := Lib.hid hall
    clear hall
    have S := S1.le L
    have T := T1.le L
    replace ct := (L.cell zt).trans ct
    clear S1 T1
    by_cases hlt : k < p.length
    · have HPR := Lib.hid (dep_aheadS hlt HALL.out)
      have HLI := Lib.hid (lsB_at (xs := xs) hlt)
      have HNO : Hid (lsB xs p k = false → (List.range p.length).all (lsB xs p) = false) := all_no hlt
      have HYES : Hid (lsB xs p k = true → ∀ j, j < k + 1 → lsB xs p j = true) := fun h j hj => by
        by_cases e : j = k
        · rw [e]; exact h
        · exact HALL.out j (by omega)
      go_wp2_with fail
      refine (sValidLine_any B A xs.length c p.length cap xs p k hlt hsm HPR.out wr T S).mono ?_
      rintro e w2 ⟨rfl, hl2⟩
      rw [← HLI.out]
      cases hb : lsB xs p k
      · have HF : Hid (vp xs p = false) := by show _ = _; rw [HX.out, HNO.out hb]; rfl
        go_wp2
        go_ret
        exact ⟨ret_bool HF.out.symm, L0.trans (L.trans hl2)⟩
      · have HF := Lib.hid (HYES.out hb)
        go_wp2
        go_roundw
        case rel => exact ⟨k + 1, by omega, by go_num, HF.out, L.trans hl2⟩
        case measure => simp [intOf]; omega
    · obtain rfl : k = p.length := by omega
      have HZ : Hid (vp xs p = (okTree xs && decide (p.length ≤ 24))) := by show _ = _; rw [HX.out, all_yes HALL.out, Bool.true_and]
      clear HX
      go_wp2_with fail
      refine (validTree_any B xs.length c xs wr T).mono ?_
      rintro e w2 ⟨rfl, hl2⟩
      cases ht : okTree xs
      · have HF : Hid (vp xs p = false) := by show _ = _; rw [HZ.out, ht]; rfl
        go_wp2
        go_ret
        exact ⟨ret_bool HF.out.symm, L0.trans (L.trans hl2)⟩
      · have HF : Hid (vp xs p = decide ((p.length : Int) ≤ 24)) := by show _ = _; rw [HZ.out, ht, Bool.true_and]; exact decide_eq_decide.2 (by omega)
        go_wp2
        go_ret
        exact ⟨ret_bool HF.out.symm, L0.trans (L.trans hl2)⟩
/-- the program's answer in the model's word -/
theorem pValidProgram_any (B A : Option Addr) (m c n cap : Nat) (xs : List Cls) (p : List Lin) (hm : m ≤ 1048576) (w : World) (hT : Sl w B m c xs) (hR : Sl w A n cap p) :
    Calls Try.prog 25 #[.agg #[.slice B m c], .slice A n cap] w fun e w' => e = .returned (.bool (vp xs p)) ∧ Le w w' := by
  rw [← vp_same]
  exact iValidProgram_any B A m c n cap xs p hm w hT hR
end Go.Proofs.Ytldnjihakkekkaa
