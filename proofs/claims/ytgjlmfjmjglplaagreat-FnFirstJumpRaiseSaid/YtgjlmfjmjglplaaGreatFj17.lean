/- one text of PhO, PhQ, PhW -/
import Derived.Test.YtgjlmfjmjglplaaGreatFj16
import Derived.Test.YtgjlmfjmjglplaaGreatFj14
import Derived.Test.YtgjlmfjmjglplaaGreatFj10
import Derived.Test.YtgjlmfjmjglplaaGreatFj15
namespace Go.Proofs.YtgjlmfjmjglplaaGreat
open Go.RowKit
set_option linter.unusedVariables false
section
/-- what the program asks of a program -/
def liB (xs : List Cls) (p : List Lin) (i : Nat) : Bool := match p[i]? with | some x => lineB xs.length p i x | none => true
theorem liB_at {xs : List Cls} {p : List Lin} {i : Nat} (h : i < p.length) : liB xs p i = lineB xs.length p i p[i] := by unfold liB; rw [List.getElem?_eq_getElem h]
def lastB (p : List Lin) : Bool := decide (0 < p.length) && opn (knd p (p.length - 1))
def vpI (xs : List Cls) (p : List Lin) : Bool := okTree xs && decide (p.length ≤ 24) && (List.range p.length).all (liB xs p) && !lastB p && trB p
theorem all_no {n i : Nat} {f : Nat → Bool} (hi : i < n) (h : f i = false) : (List.range n).all f = false := by
  cases e : (List.range n).all f
  · rfl
  · rw [List.all_eq_true] at e
    rw [e i (List.mem_range.2 hi)] at h; cases h
theorem all_yes {n : Nat} {f : Nat → Bool} (h : ∀ i, i < n → f i = true) : (List.range n).all f = true := by
  rw [List.all_eq_true]; exact fun i hi => h i (List.mem_range.1 hi)
/-- the depths ahead of a line are right when the lines ahead are -/
theorem dep_ahead {xs : List Cls} {p : List Lin} {k : Nat} (hk : k < p.length) (H : ∀ j, j < k → liB xs p j = true) : 0 < k → 0 ≤ dep p (k - 1) ∧ dep p (k - 1) ≤ 5 := fun h0 =>
  ((dep_same p k).2 (fun j hj => ((lineB_iff xs p j (by omega)).1 (by have := H j hj; rw [liB_at (by omega)] at this; exact this)).2.2.1) (k - 1) (by omega)).1
set_option maxHeartbeats 2000000 in
set_option maxRecDepth 100000 in
theorem iValidProgram_any (B A : Option Addr) (m c n cap : Nat) (xs : List Cls) (p : List Lin) (hm : m ≤ 1048576) (w : World) (hT : Sl w B m c xs) (hR : Sl w A n cap p) :
    Calls Tryz.prog 14 #[.agg #[.slice B m c], .slice A n cap] w fun e w' => e = .returned (.bool (vpI xs p)) ∧ Le w w' := by
  obtain rfl := hR.len
  obtain rfl := hT.len
  have HX : Hid (vpI xs p = (okTree xs && decide (p.length ≤ 24) && (List.range p.length).all (liB xs p) && !lastB p && trB p)) := rfl
  go_enter Tryz.func14, Tryz.ntmps14
  go_wp2_with fail
  obtain ⟨ct, zt, hleB⟩ := box1 w (.slice B xs.length c) 25
  have L0 := hleB
  clear hleB
  generalize w.alloc (.cells #[.slice B xs.length c] 25) = W at *
  refine (iValidTree_any B xs.length c xs _ (hT.le L0)).mono ?_
  rintro e w1 ⟨rfl, hle⟩
  replace ct := (hle.cell zt).trans ct
  replace zt := Nat.lt_of_lt_of_le zt hle.size
  replace L0 := L0.trans hle
  clear hle
  cases ht : okTree xs
  · have HF : Hid (vpI xs p = false) := by show _ = _; rw [HX.out, ht]; rfl
    clear HX
    go_wp2
    go_ret
    exact ⟨ret_bool HF.out.symm, L0⟩
  · by_cases h24 : 24 < p.length
    · have h24b : decide ((24 : Int) < (p.length : Int)) = true := decide_eq_true (by omega)
      have HF : Hid (vpI xs p = false) := by show _ = _; rw [HX.out, ht, decide_eq_false (by omega)]; rfl
      clear HX
      go_wp2
      go_ret
      exact ⟨ret_bool HF.out.symm, L0⟩
    · have h24b : decide ((24 : Int) < (p.length : Int)) = false := decide_eq_false (by omega)
      have HY : Hid (vpI xs p = ((List.range p.length).all (liB xs p) && !lastB p && trB p)) := by show _ = _; rw [HX.out, ht, decide_eq_true (by omega), Bool.true_and, Bool.true_and]
      clear HX
      go_wp2
      have S1 := hR.le L0
      clear hR hT
      go_loopw [5, 16] (fun _ q wr => ∃ k : Nat, k ≤ p.length ∧ q = .int .i64 k ∧ (∀ j, j < k → liB xs p j = true) ∧ Le w1 wr) (fun _ q _ => p.length - (intOf q).toNat)
      case atStart => exact ⟨0, Nat.zero_le _, rfl, fun j h => absurd h (by omega), Le.refl _⟩
      case round =>
        obtain ⟨k, hk, rfl, hall, L⟩ := hrel
        have HALL := Lib.hid hall
        clear hall
        have T := S1.le L
        replace ct := (L.cell zt).trans ct
        clear S1
        by_cases hlt : k < p.length
        · have HPR := Lib.hid (dep_ahead hlt HALL.out)
          have HLI := Lib.hid (liB_at (xs := xs) hlt)
          have HNO : Hid (liB xs p k = false → (List.range p.length).all (liB xs p) = false) := all_no hlt
          have HYES : Hid (liB xs p k = true → ∀ j, j < k + 1 → liB xs p j = true) := fun h j hj => by
            by_cases e : j = k
            · rw [e]; exact h
            · exact HALL.out j (by omega)
          go_wp2_with fail
          refine (validLine_any B A xs.length c p.length cap p k hlt hm (by omega) HPR.out wr T).mono ?_
          rintro e w2 ⟨rfl, hl2⟩
          rw [← HLI.out]
          cases hb : liB xs p k
          · have HF : Hid (vpI xs p = false) := by show _ = _; rw [HY.out, HNO.out hb]; rfl
            go_wp2
            go_ret
            exact ⟨ret_bool HF.out.symm, L0.trans (L.trans hl2)⟩
          · have HF := Lib.hid (HYES.out hb)
            go_wp2
            go_roundw
            case rel => exact ⟨k + 1, by omega, by go_num, HF.out, L.trans hl2⟩
            case measure => simp [intOf]; omega
        · obtain rfl : k = p.length := by omega
          have HZ : Hid (vpI xs p = (!lastB p && trB p)) := by show _ = _; rw [HY.out, all_yes HALL.out, Bool.true_and]
          have HLB : Hid (lastB p = (decide (0 < p.length) && opn (knd p (p.length - 1)))) := rfl
          clear HY
          by_cases h0 : 0 < p.length
          · have h0b : decide ((0 : Int) < (p.length : Int)) = true := decide_eq_true (by omega)
            obtain ⟨j, hj⟩ : ∃ j, p.length = j + 1 := ⟨p.length - 1, by omega⟩
            have hjl : j < p.length := by omega
            obtain ⟨b, off, rfl, hb, d0, d1, -⟩ := T.lin_at hjl
            have HK : Hid (lastB p = opn p[j].kind) := by show _ = _; rw [HLB.out, decide_eq_true h0, Bool.true_and, show p.length - 1 = j by omega, knd_at hjl]
            have hwj : IntKind.i64.wrap ((p.length : Int) - 1) = (j : Int) := by rw [show (p.length : Int) - 1 = (j : Int) by omega]; exact IntWalk.i64_in _ (by omega)
            have hj0 : (0 : Int) ≤ (j : Int) := by omega
            have hjn : (j : Int) < (p.length : Int) := by omega
            generalize p[j].kind = vk at *
            clear hj HLB d0
            cases ho : opn vk
            · rw [ho] at HK
              have HF : Hid (vpI xs p = trB p) := by show _ = _; rw [HZ.out, HK.out]; rfl
              clear HZ HK
              go_wp2_with fail
              refine (hasBlock_any vk wr).mono ?_
              rintro e w2 ⟨rfl, rfl⟩
              rw [ho]
              go_wp2_with fail
              refine (validTries_any _ p.length cap p (by omega) wr T).mono ?_
              rintro e w2 ⟨rfl, hl2⟩
              go_wp2
              go_ret
              exact ⟨ret_bool HF.out.symm, L0.trans (L.trans hl2)⟩
            · rw [ho] at HK
              have HF : Hid (vpI xs p = false) := by show _ = _; rw [HZ.out, HK.out]; rfl
              clear HZ HK
              go_wp2_with fail
              refine (hasBlock_any vk wr).mono ?_
              rintro e w2 ⟨rfl, rfl⟩
              rw [ho]
              go_wp2
              go_ret
              exact ⟨ret_bool HF.out.symm, L0.trans L⟩
          · have h0b : decide ((0 : Int) < (p.length : Int)) = false := decide_eq_false (by omega)
            have HK : Hid (lastB p = false) := by show _ = _; rw [HLB.out, decide_eq_false h0]; rfl
            have HF : Hid (vpI xs p = trB p) := by show _ = _; rw [HZ.out, HK.out]; rfl
            clear HZ HK HLB
            go_wp2_with fail
            refine (validTries_any _ p.length cap p (by omega) wr T).mono ?_
            rintro e w2 ⟨rfl, hl2⟩
            go_wp2
            go_ret
            exact ⟨ret_bool HF.out.symm, L0.trans (L.trans hl2)⟩
end

section
def lsB (xs : List Cls) (p : List Lin) (i : Nat) : Bool := match p[i]? with | some x => lineT xs p i x | none => true
theorem lsB_at {xs : List Cls} {p : List Lin} {i : Nat} (h : i < p.length) : lsB xs p i = lineT xs p i p[i] := by unfold lsB; rw [List.getElem?_eq_getElem h]
/-- what the model asks of a program -/
def vp (xs : List Cls) (p : List Lin) : Bool := (List.range p.length).all (lsB xs p) && okTree xs && decide (p.length ≤ 24)
theorem vp_iff {xs : List Cls} {p : List Lin} : vp xs p = true ↔ okTree xs = true ∧ p.length ≤ 24 ∧ ∀ i (h : i < p.length), lineS xs p i p[i] := by
  unfold vp
  rw [Bool.and_eq_true, Bool.and_eq_true, List.all_eq_true, decide_eq_true_eq]
  constructor
  · rintro ⟨⟨h1, h2⟩, h3⟩
    refine ⟨h2, h3, fun i hi => (lineT_iff xs p i hi).1 ?_⟩
    have := h1 i (List.mem_range.2 hi)
    rwa [lsB_at hi] at this
  · rintro ⟨h2, h3, h1⟩
    refine ⟨⟨fun i hi => ?_, h2⟩, h3⟩
    have hi := List.mem_range.1 hi
    rw [lsB_at hi]
    exact (lineT_iff xs p i hi).2 (h1 i hi)
theorem vpI_iff {xs : List Cls} {p : List Lin} : vpI xs p = true ↔ okTree xs = true ∧ p.length ≤ 24 ∧ (∀ i (h : i < p.length), lineI xs p i p[i]) ∧ (∀ h : 0 < p.length, opn (p[p.length - 1]'(by omega)).kind = false) ∧ triesI p := by
  unfold vpI
  rw [Bool.and_eq_true, Bool.and_eq_true, Bool.and_eq_true, Bool.and_eq_true, List.all_eq_true, decide_eq_true_eq, trB_iff]
  have hlast : ((!lastB p) = true) ↔ (∀ h : 0 < p.length, opn (p[p.length - 1]'(by omega)).kind = false) := by
    unfold lastB
    rw [Bool.not_eq_true', Bool.and_eq_false_iff, decide_eq_false_iff_not]
    constructor
    · intro h h0
      have h1 := h.resolve_left (fun e => e h0)
      rwa [knd_at (by omega)] at h1
    · intro h
      by_cases h0 : 0 < p.length
      · refine .inr ?_
        rw [knd_at (by omega)]
        exact h h0
      · exact .inl h0
  rw [hlast]
  constructor
  · rintro ⟨⟨⟨⟨h1, h2⟩, h3⟩, h4⟩, h5⟩
    refine ⟨h1, h2, fun i hi => (lineB_iff xs p i hi).1 ?_, h4, h5⟩
    have := h3 i (List.mem_range.2 hi)
    rwa [liB_at hi] at this
  · rintro ⟨h1, h2, h3, h4, h5⟩
    refine ⟨⟨⟨⟨h1, h2⟩, fun i hi => ?_⟩, h4⟩, h5⟩
    have hi := List.mem_range.1 hi
    rw [liB_at hi]
    exact (lineB_iff xs p i hi).2 (h3 i hi)
theorem vp_same (xs : List Cls) (p : List Lin) : vpI xs p = vp xs p := by
  rw [Bool.eq_iff_iff, vpI_iff, vp_iff]
  refine and_congr_right fun _ => and_congr_right fun _ => ?_
  exact (lines_same xs p).symm
/-- what a valid program is -/
structure GoodP (xs : List Cls) (p : List Lin) : Prop where
  tree : okTree xs = true
  len : p.length ≤ 24
  line : ∀ i (h : i < p.length), lineS xs p i p[i]
  tries : triesI p
theorem goodP_of {xs : List Cls} {p : List Lin} (h : vp xs p = true) : GoodP xs p := by
  have a := vp_iff.1 h
  exact ⟨a.1, a.2.1, a.2.2, ((lines_same xs p).1 a.2.2).2.2⟩
theorem dep_aheadS {xs : List Cls} {p : List Lin} {k : Nat} (hk : k < p.length) (H : ∀ j, j < k → lsB xs p j = true) : 0 < k → 0 ≤ dep p (k - 1) ∧ dep p (k - 1) ≤ 5 := fun h0 => by
  have h := H (k - 1) (by omega)
  rw [lsB_at (by omega)] at h
  exact ((lineT_iff xs p (k - 1) (by omega)).1 h).2.1.1
set_option maxHeartbeats 2000000 in
set_option maxRecDepth 100000 in
theorem svalidProgram_any (B A : Option Addr) (m c n cap : Nat) (xs : List Cls) (p : List Lin) (hsm : p.length ≤ 1048576) (w : World) (hT : Sl w B m c xs) (hR : Sl w A n cap p) :
    Calls Tryz.prog 17 #[.agg #[.slice B m c], .slice A n cap] w fun e w' => e = .returned (.bool (vp xs p)) ∧ Le w w' := by
  obtain rfl := hR.len
  obtain rfl := hT.len
  have HX : Hid (vp xs p = ((List.range p.length).all (lsB xs p) && okTree xs && decide (p.length ≤ 24))) := rfl
  go_enter Tryz.func17, Tryz.ntmps17
  go_wp2_with fail
  obtain ⟨ct, zt, hleB⟩ := box1 w (.slice B xs.length c) 25
  have L0 := hleB
  clear hleB
  generalize w.alloc (.cells #[.slice B xs.length c] 25) = W at *
  have S1 := hR.le L0
  have T1 := hT.le L0
  clear hR hT
  go_loopw [5] (fun q wr => ∃ k : Nat, k ≤ p.length ∧ q = .int .i64 k ∧ (∀ j, j < k → lsB xs p j = true) ∧ Le W wr) (fun q _ => p.length - (intOf q).toNat)
  case atStart => exact ⟨0, Nat.zero_le _, rfl, fun j h => absurd h (by omega), Le.refl _⟩
  case round =>
    obtain ⟨k, hk, rfl, hall, L⟩ := hrel
    have HALL := Lib.hid hall
    clear hall
    have S := S1.le L
    have T := T1.le L
    replace ct := (L.cell zt).trans ct
    clear S1 T1
    by_cases hlt : k < p.length
    · have HPR := Lib.hid (dep_aheadS hlt HALL.out)
      have HLI := Lib.hid (lsB_at (xs := xs) hlt)
      have HNO : Hid (lsB xs p k = false → (List.range p.length).all (lsB xs p) = false) := all_no hlt
      have HYES : Hid (lsB xs p k = true → ∀ j, j < k + 1 → lsB xs p j = true) := fun h j hj => by
        by_cases e : j = k
        · rw [e]; exact h
        · exact HALL.out j (by omega)
      go_wp2_with fail
      refine (sValidLine_any B A xs.length c p.length cap xs p k hlt hsm HPR.out wr T S).mono ?_
      rintro e w2 ⟨rfl, hl2⟩
      rw [← HLI.out]
      cases hb : lsB xs p k
      · have HF : Hid (vp xs p = false) := by show _ = _; rw [HX.out, HNO.out hb]; rfl
        go_wp2
        go_ret
        exact ⟨ret_bool HF.out.symm, L0.trans (L.trans hl2)⟩
      · have HF := Lib.hid (HYES.out hb)
        go_wp2
        go_roundw
        case rel => exact ⟨k + 1, by omega, by go_num, HF.out, L.trans hl2⟩
        case measure => simp [intOf]; omega
    · obtain rfl : k = p.length := by omega
      have HZ : Hid (vp xs p = (okTree xs && decide (p.length ≤ 24))) := by show _ = _; rw [HX.out, all_yes HALL.out, Bool.true_and]
      clear HX
      go_wp2_with fail
      refine (validTree_any B xs.length c xs wr T).mono ?_
      rintro e w2 ⟨rfl, hl2⟩
      cases ht : okTree xs
      · have HF : Hid (vp xs p = false) := by show _ = _; rw [HZ.out, ht]; rfl
        go_wp2
        go_ret
        exact ⟨ret_bool HF.out.symm, L0.trans (L.trans hl2)⟩
      · have HF : Hid (vp xs p = decide ((p.length : Int) ≤ 24)) := by show _ = _; rw [HZ.out, ht, Bool.true_and]; exact decide_eq_decide.2 (by omega)
        go_wp2
        go_ret
        exact ⟨ret_bool HF.out.symm, L0.trans (L.trans hl2)⟩
/-- the program's answer in the model's word -/
theorem pValidProgram_any (B A : Option Addr) (m c n cap : Nat) (xs : List Cls) (p : List Lin) (hm : m ≤ 1048576) (w : World) (hT : Sl w B m c xs) (hR : Sl w A n cap p) :
    Calls Tryz.prog 14 #[.agg #[.slice B m c], .slice A n cap] w fun e w' => e = .returned (.bool (vp xs p)) ∧ Le w w' := by
  rw [← vp_same]
  exact iValidProgram_any B A m c n cap xs p hm w hT hR
end

section
def glB (xs : List Cls) (p : List Lin) (i : Int) : Bool := vp xs p && rng 0 ((p.length : Int) - 1) i
theorem glB_iff {xs : List Cls} {p : List Lin} {i : Int} : glB xs p i = true ↔ vp xs p = true ∧ ∃ k : Nat, i = k ∧ k < p.length := by
  unfold glB
  rw [Bool.and_eq_true, rng_iff]
  refine and_congr_right fun _ => ?_
  constructor
  · rintro ⟨h1, h2⟩
    exact ⟨i.toNat, by omega, by omega⟩
  · rintro ⟨k, rfl, h⟩
    omega
theorem hasLine_any (B A : Option Addr) (m c n cap : Nat) (xs : List Cls) (p : List Lin) (i : Int) (hm : m ≤ 1048576) (w : World) (hT : Sl w B m c xs) (hR : Sl w A n cap p) :
    Calls Tryz.prog 19 #[.agg #[.slice B m c], .slice A n cap, .int .i64 i] w fun e w' => e = .returned (.bool (glB xs p i)) ∧ Le w w' := by
  have HX : Hid (glB xs p i = (vp xs p && rng 0 ((p.length : Int) - 1) i)) := rfl
  go_enter Tryz.func19, Tryz.ntmps19
  go_wp2_with fail
  obtain ⟨ct, zt, hleB⟩ := box1 w (.slice B m c) 25
  have L0 := hleB
  clear hleB
  generalize w.alloc (.cells #[.slice B m c] 25) = W at *
  refine (pValidProgram_any B A m c n cap xs p hm _ (hT.le L0) (hR.le L0)).mono ?_
  rintro e w1 ⟨rfl, hle⟩
  cases h : vp xs p
  · have HF : Hid (glB xs p i = false) := by show _ = _; rw [HX.out, h]; rfl
    go_wp2
    go_ret
    exact ⟨ret_bool HF.out.symm, L0.trans hle⟩
  · have hp := (goodP_of h).len
    obtain rfl := hR.len
    have HF : Hid (glB xs p i = rng 0 ((p.length : Int) - 1) i) := by show _ = _; rw [HX.out, h, Bool.true_and]
    have hwn : IntKind.i64.wrap ((p.length : Int) - 1) = (p.length : Int) - 1 := IntWalk.i64_in _ (by omega)
    clear HX
    go_wp2_with fail
    refine (iRange_any i 0 _ w1).mono ?_
    rintro e w2 ⟨rfl, rfl⟩
    go_wp2
    go_ret
    exact ⟨ret_bool HF.out.symm, L0.trans hle⟩
theorem encl_ok {p : List Lin} {i : Nat} (hi : i < p.length) (hsm : p.length ≤ 1048576) : ∀ y ∈ nI (encl p i), Enc.ok y := nI_ok (fun x hx => by have := encl_lt x hx; exact this) (by omega)
set_option maxHeartbeats 2000000 in
set_option maxRecDepth 100000 in
theorem headsOf_any (A : Option Addr) (n cap : Nat) (p : List Lin) (i : Nat) (hi : i < p.length) (hsm : p.length ≤ 1048576) (w : World) (hR : Sl w A n cap p) :
    Calls Tryz.prog 22 #[.slice A n cap, .int .i64 i] w fun e w' => ∃ v, e = .returned v ∧ Owd 3 w w' v (nI (encl p i)) ∧ Le w w' := by
  obtain rfl := hR.len
  obtain ⟨i0, hq, hz0, hz1, hz2⟩ := info_parts intInfoB
  have H0 := Lib.hid (encl_out p i)
  have HOK := Lib.hid (encl_ok hi hsm)
  have HLN := Lib.hid (encl_len p i)
  have hlt : Hid (∀ j, outs p i = some j → j < i) := fun j h => oGo_lt h
  go_enter Tryz.func22, Tryz.ntmps22
  go_wp2_with fail
  refine (outside_any A p.length cap p i hi hsm w hR).mono ?_
  rintro e w2 ⟨rfl, hle⟩
  go_wp2
  go_loopw [1, 5] (fun ii v wr => ∃ (o : Option Nat) (out : List Nat), ii = .int .i64 (oI o) ∧ encl p i = out ++ enO p o ∧ (∀ j, o = some j → j < p.length) ∧
      wr.ownsRow w.heap.size 3 1 v out.length ((nI out).flatMap Enc.cells) ∧ Le w wr) (fun ii _ _ => (intOf ii + 1).toNat)
  case atStart => exact ⟨outs p i, [], rfl, H0.out, fun j h => by have := hlt.out j h; omega, World.ownsRow_nil _ _ _ _, hle⟩
  case round =>
    obtain ⟨o, out, rfl, he, hb, O1, L1⟩ := hrel
    have HE := Lib.hid he
    have hol : out.length ≤ i := by have := HLN.out; rw [he, List.length_append] at this; omega
    clear he H0 hlt hle
    have T := hR.le L1
    have hs1 := L1.size
    cases o with
    | none =>
      have HF : Hid (∀ v, wr.ownsRow w.heap.size 3 1 v out.length ((nI out).flatMap Enc.cells) → Owd 3 w wr v (nI (encl p i))) := fun v hv => by
        have e : encl p i = out := by rw [HE.out]; exact List.append_nil _
        have h2 := HOK.out
        rw [e] at h2 ⊢
        exact ⟨by rw [nI_len]; exact hv, h2⟩
      have hn2 : oI none = -1 := rfl
      rw [hn2]
      clear hb
      go_wp2
      go_ret
      exact ⟨_, rfl, HF.out _ O1, L1⟩
    | some j =>
      have hjl := hb j rfl
      have hn2 : oI (some j) = (j : Int) := rfl
      rw [hn2]
      clear hb
      have hj0 : (0 : Int) ≤ (j : Int) := by omega
      have hjn : (j : Int) < (p.length : Int) := by omega
      have hokk : Enc.ok (j : Int) := ⟨by omega, by omega⟩
      have HF : Hid (encl p i = (out ++ [j]) ++ enO p (outs p j)) := by show _ = _; rw [HE.out, ← encl_out, List.append_assoc]; rfl
      have hlt : Hid (∀ x, outs p j = some x → x < j) := fun x h => oGo_lt h
      clear HE
      generalize wr = wr0 at *
      go_wp2_with (at_builtin; refine wpList_append_sl rfl _ _ 34 rfl w.heap.size 3 i0 _ 8 Tryz.underlying34 hq hz0 hz1 hz2 rfl _ out.length (nI out) rfl (O1.alloc _) _ 1 1 [(j : Int)] rfl (sl_one (j : Int) rfl hokk rfl) (by unfold maxLen; omega) (by omega) (L1.alloc _).size ?_; intro v1 w3 O3 hg3 _; have L3 := (L1.alloc _).grown hg3 (fun k hk => (O1.lt k hk).1); clear hg3)
      refine (outside_any _ p.length cap p j hjl hsm w3 (hR.le L3)).mono ?_
      rintro e w4 ⟨rfl, hle4⟩
      have O4 := own_le O3 hle4
      go_wp2
      go_roundw
      case rel => exact ⟨outs p j, out ++ [j], rfl, HF.out, fun x h => by have := hlt.out x h; omega, by rw [nI_snoc, List.length_append]; exact O4, L3.trans hle4⟩
      case measure =>
        cases ho : outs p j with
        | none => simp [intOf, oI]
        | some x => have := hlt.out x ho; simp [intOf, oI]; omega
/-! EnclosingOf -/
def enX (xs : List Cls) (p : List Lin) (i : Int) : List Int := cond (glB xs p i) (nI (encl p i.toNat)) []
theorem enX_len (xs : List Cls) (p : List Lin) (i : Int) : (enX xs p i).length ≤ 1048576 := by
  unfold enX
  cases h : glB xs p i
  · simp
  · obtain ⟨h1, k, rfl, hk⟩ := glB_iff.1 h
    have := (goodP_of h1).len
    have := encl_len p k
    show (nI _).length ≤ _
    rw [nI_len, Int.toNat_natCast]; omega
end
end Go.Proofs.YtgjlmfjmjglplaaGreat
