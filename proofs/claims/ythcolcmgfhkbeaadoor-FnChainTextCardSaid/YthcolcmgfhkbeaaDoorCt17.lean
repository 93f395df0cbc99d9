/- one text of FOldestShown, FChainText, RDs -/
import Derived.Test.YthcolcmgfhkbeaaDoorCt12
import Derived.Test.YthcolcmgfhkbeaaDoorCt13
import Derived.Test.YthcolcmgfhkbeaaDoorCt1
import Derived.Test.YthcolcmgfhkbeaaDoorCt16
import Derived.Deep.RegionHeld3
namespace Go.Proofs.YthcolcmgfhkbeaaDoor
open Go.RowKit
set_option linter.unusedVariables false
section
theorem vst {a b : ByteArray} (h : a = b) : Value.string a = Value.string b := by rw [h]
theorem ext_head (a b : ByteArray) : (a ++ b).extract 0 a.size = a := by
  exact ByteArray.extract_append_eq_left rfl
theorem ext_tail (a b : ByteArray) : (a ++ b).extract a.size (a ++ b).size = b := by
  exact ByteArray.extract_append_eq_right rfl ByteArray.size_append
/-- what the law says of the oldest fault that is shown -/
theorem oldest_facts {xs : List Cls} {hs : List Flt} {f : Int} (h : goodF xs hs f = true) : ∃ (z : Nat) (U s : ByteArray), z < hs.length ∧ oldX xs hs f = (z : Int) ∧ goodF xs hs (z : Int) = true ∧ (shX xs hs f).getLast? = some (z : Int) ∧
    scOk xs (hcX xs hs (z : Int) true) (z : Int) (-1) = true ∧ ctX xs (scX xs (hcX xs hs (z : Int) true) (z : Int) (-1)) (z : Int) = U ∧ ctX xs hs f = U ++ s := by
  have hin := goodF_in h
  have hok := goodF_ok h
  obtain ⟨L, x, hL⟩ := chain_snoc (shownAt_lt hin.1) hin.2.1 hin.2.2
  have hI := chain_is (shownAt_lt hin.1) hin.2.1 hin.2.2
  have hm : x ∈ chainN (shownAt hs) hs.length f := by rw [hL]; simp
  have h0 := hI.pos x hm
  have h1 := hI.rng hin.2.2 (shownAt_lt hin.1) x hm
  obtain ⟨z, rfl⟩ := Int.eq_ofNat_of_zero_le h0
  have hz : z < hs.length := by omega
  have hg := goodF_mk hok hz
  have hl : (chainN (shownAt hs) hs.length f).getLast? = some (z : Int) := by rw [hL]; simp
  have e1 : hcX xs hs (z : Int) true = setF hs (z : Int) (hidF true) := by rw [hcX_of hg]; rfl
  have hz2 : z < (setF hs (z : Int) (hidF true)).length := by rw [setF_len]; exact hz
  have hok2 := ok_hid hz true hok
  have e2 : scOk xs (setF hs (z : Int) (hidF true)) (z : Int) (-1) = true := by
    unfold scOk; rw [goodF_mk hok2 hz2]
    unfold vl
    rw [rng_iff.2 ⟨by omega, by omega⟩]
    simp
  have e3 : scX xs (setF hs (z : Int) (hidF true)) (z : Int) (-1) = setF (setF hs (z : Int) (hidF true)) (z : Int) (cauF (-1)) := by rw [scX_of e2]; rfl
  have hok3 := ok_cau hz2 (c := -1) ⟨by omega, by omega, by omega⟩ hok2
  have hz3 : z < (setF (setF hs (z : Int) (hidF true)) (z : Int) (cauF (-1))).length := by rw [setF_len]; exact hz2
  obtain ⟨s, hs'⟩ := chT_begins xs hs _ (z : Int) hl
  refine ⟨z, fT xs hs (z : Int), s, hz, ?_, hg, ?_, ?_, ?_, ?_⟩
  · rw [oldX_of h, hL]; exact getLastD_snoc L _ _
  · have : shX xs hs f = chainN (shownAt hs) hs.length f := by unfold shX; rw [h]; rfl
    rw [this]; exact hl
  · rw [e1]; exact e2
  · rw [e1, e3, ctX_of (goodF_mk hok3 hz3)]
    show chT xs _ _ = _
    rw [text_alone hz2]
    have a := hid_same hs z hz true z hz hz2
    exact fT_same hz hz2 a.1 a.2.1
  · rw [ctX_of h]; exact hs'
theorem ctX_size (xs : List Cls) (hs : List Flt) (f : Int) : (ctX xs hs f).size ≤ 300 := by
  cases h : goodF xs hs f
  · rw [ctX_of h]; show ByteArray.empty.size ≤ 300; decide
  · rw [ctX_of h]
    have hin := goodF_in h
    have hok := goodF_ok h
    have hI := chain_is (shownAt_lt hin.1) hin.2.1 hin.2.2
    have hl : (chainN (shownAt hs) hs.length f).length ≤ hs.length := Chn.go_len2 (shownAt_lt hin.1) hin.2.1 hin.2.2
    have := chT_size (short_of hok) _ (fun x hx => ⟨hI.pos x hx, hI.rng hin.2.2 (shownAt_lt hin.1) x hx⟩)
    have hf := (goodH_of hok).few
    show (chT xs hs _).size ≤ 300
    omega
set_option maxHeartbeats 4000000 in
set_option maxRecDepth 100000 in
theorem fnOldestShown_walk (A : Option Addr) (n cap : Nat) (bs : List By) (w : World) (hR : Sl w A n cap bs) (NG : GotErr w) :
    Calls Tryd.prog 4 #[.slice A n cap] w fun e w' => e = .returned (.bool true) ∧ Le w w' := by
  have hm := hR.n_le
  by_cases hbig : 1048576 < n
  · go_enter Tryd.func4, Tryd.ntmps4
    go_wp2
    go_ret
    exact ⟨rfl, Le.refl w⟩
  go_enter Tryd.func4, Tryd.ntmps4
  go_wp2_with fail
  refine (drawOldestShown_any A n cap bs w hR).mono ?_
  rintro e w1 ⟨B, m, c, xs, A1, q1, hs, _, rfl, ⟨f, rfl, hf0, hf1⟩, S, hm8, S2, hl6, L0⟩
  replace NG := NG.le L0
  go_wp2_with fail
  obtain ⟨ct, zt, ch, zh, hleB⟩ := box2 w1 (.slice B m c) (.slice A1 hs.length q1) 25 28
  replace S := S.le hleB
  replace S2 := S2.le hleB
  replace L0 := L0.trans hleB
  replace NG := NG.le hleB
  clear hleB
  generalize (w1.alloc (.cells #[.slice B m c] 25)).alloc (.cells #[.slice A1 hs.length q1] 28) = W1 at *
  rcases Bool.eq_false_or_eq_true (goodF xs hs f) with ho | ho
  rotate_left
  · have hX : oldX xs hs f = -1 := by rw [oldX_of ho]; rfl
    go_wp2_with fail
    refine (Calls.val (iOldestShown_any B A1 m c hs.length q1 xs hs f W1 S S2 (by omega) NG) (vi hX)).mono ?_
    rintro e w2 ⟨rfl, hle⟩
    replace ct := (hle.cell zt).trans ct
    replace ch := (hle.cell zh).trans ch
    replace zt := Nat.lt_of_lt_of_le zt hle.size
    replace zh := Nat.lt_of_lt_of_le zh hle.size
    replace S := S.le hle
    replace S2 := S2.le hle
    replace L0 := L0.trans hle
    replace NG := NG.le hle
    clear hle
    go_wp2_with fail
    refine (Calls.val (sOldestShown_any B A1 m c hs.length q1 xs hs f w2 S S2 (by omega)) (vi hX)).mono ?_
    rintro e w3 ⟨rfl, hle⟩
    replace ct := (hle.cell zt).trans ct
    replace ch := (hle.cell zh).trans ch
    replace zt := Nat.lt_of_lt_of_le zt hle.size
    replace zh := Nat.lt_of_lt_of_le zh hle.size
    replace S := S.le hle
    replace S2 := S2.le hle
    replace L0 := L0.trans hle
    clear hle
    go_wp2_with fail
    refine (Calls.val (sOldestShown_any B A1 m c hs.length q1 xs hs f w3 S S2 (by omega)) (vi hX)).mono ?_
    rintro e w4 ⟨rfl, hle⟩
    replace L0 := L0.trans hle
    clear hle
    go_wp2
    go_ret
    exact ⟨rfl, L0⟩
  obtain ⟨z, U, s, hz, hX, hg, hlast, hsc, hU, hT⟩ := oldest_facts ho
  have HX := Lib.hid hX
  have hUT : U.size ≤ (U ++ s).size := by rw [ByteArray.size_append]; omega
  have hT3 := ctX_size xs hs f
  rw [hT] at hT3
  have HEX := Lib.hid (str_eq (ext_head U s))
  have HT := Lib.hid hT
  have hne : (shX xs hs f) ≠ [] := by intro e; rw [e] at hlast; cases hlast
  have hpos : 0 < (shX xs hs f).length := List.length_pos_iff.2 hne
  have hlen : (shX xs hs f).length ≤ 1048576 := shX_len xs hs f
  have HSH : Hid (∀ w, Sl w B m c xs → Sl w A1 hs.length q1 hs → GotErr w → _) := fun w h h2 h3 => Calls.intsH (iShownChain_any B A1 m c hs.length q1 xs hs f w h h2 (by omega) h3)
  have hXe : (shX xs hs f)[(shX xs hs f).length - 1]? = some (z : Int) := by rw [← List.getLast?_eq_getElem?]; exact hlast
  have HG := Lib.hid hg
  have HSC := Lib.hid hsc
  have HU := Lib.hid hU
  have hl1 : (hcX xs hs (z : Int) true).length ≤ 6 := by rw [hcX_of hg]; show (setF _ _ _).length ≤ 6; rw [setF_len]; exact hl6
  have hl2 : (scX xs (hcX xs hs (z : Int) true) (z : Int) (-1)).length ≤ 6 := by rw [scX_of hsc]; show (setF _ _ _).length ≤ 6; rw [setF_len]; exact hl1
  have hz0 : decide ((z : Int) < 0) = false := decide_eq_false (by omega)
  have hzz : ((z : Int) == (z : Int)) = true := by simp
  have hzn : ((z : Int) != (z : Int)) = false := by simp
  clear hT hX hg hsc hU ho hlast hne
  obtain ⟨X, hXX⟩ : ∃ X, shX xs hs f = X := ⟨_, rfl⟩
  rw [hXX] at HSH hpos hlen hXe
  clear hXX
  obtain ⟨H1, hH1⟩ : ∃ X, hcX xs hs (z : Int) true = X := ⟨_, rfl⟩
  have HH1 := Lib.hid hH1
  rw [hH1] at hl1 hl2 HSC HU
  clear hH1
  obtain ⟨H2, hH2⟩ : ∃ X, scX xs H1 (z : Int) (-1) = X := ⟨_, rfl⟩
  have HH2 := Lib.hid hH2
  rw [hH2] at hl2 HU
  clear hH2
  go_wp2_with fail
  refine (Calls.val (iOldestShown_any B A1 m c hs.length q1 xs hs f W1 S S2 (by omega) NG) (vi HX.out)).mono ?_
  rintro e w2 ⟨rfl, hle⟩
  replace ct := (hle.cell zt).trans ct
  replace ch := (hle.cell zh).trans ch
  replace zt := Nat.lt_of_lt_of_le zt hle.size
  replace zh := Nat.lt_of_lt_of_le zh hle.size
  replace S := S.le hle
  replace S2 := S2.le hle
  replace L0 := L0.trans hle
  replace NG := NG.le hle
  clear hle
  go_wp2_with fail
  refine (Calls.val (sOldestShown_any B A1 m c hs.length q1 xs hs f w2 S S2 (by omega)) (vi HX.out)).mono ?_
  rintro e w3 ⟨rfl, hle⟩
  replace ct := (hle.cell zt).trans ct
  replace ch := (hle.cell zh).trans ch
  replace zt := Nat.lt_of_lt_of_le zt hle.size
  replace zh := Nat.lt_of_lt_of_le zh hle.size
  replace S := S.le hle
  replace S2 := S2.le hle
  replace L0 := L0.trans hle
  replace NG := NG.le hle
  clear hle
  go_wp2_with fail
  refine (HSH.out w3 S S2 NG).mono ?_
  rintro e w4 ⟨A4, c4, rfl, S4, hle⟩
  replace ct := (hle.cell zt).trans ct
  replace ch := (hle.cell zh).trans ch
  replace zt := Nat.lt_of_lt_of_le zt hle.size
  replace zh := Nat.lt_of_lt_of_le zh hle.size
  replace S := S.le hle
  replace S2 := S2.le hle
  replace L0 := L0.trans hle
  replace NG := NG.le hle
  clear hle
  clear HSH
  go_wp2_with fail
  refine (Calls.val (iChainText_any B A1 m c hs.length q1 xs hs f w4 S S2 (by omega) NG) (vst HT.out)).mono ?_
  rintro e w5 ⟨rfl, hle⟩
  replace ct := (hle.cell zt).trans ct
  replace ch := (hle.cell zh).trans ch
  replace zt := Nat.lt_of_lt_of_le zt hle.size
  replace zh := Nat.lt_of_lt_of_le zh hle.size
  replace S := S.le hle
  replace S2 := S2.le hle
  replace S4 := S4.le hle
  replace L0 := L0.trans hle
  replace NG := NG.le hle
  clear hle
  go_wp2_with fail
  refine (Calls.asH2 HH1.out HG.out (Calls.heap2 (iHideContext_any B A1 m c hs.length q1 xs hs (z : Int) true w5 S S2 (by omega)))).mono ?_
  rintro e w6 ⟨A6, q6, rfl, S6, hle⟩
  replace ct := (hle.cell zt).trans ct
  replace ch := (hle.cell zh).trans ch
  replace zt := Nat.lt_of_lt_of_le zt hle.size
  replace zh := Nat.lt_of_lt_of_le zh hle.size
  replace S := S.le hle
  replace S4 := S4.le hle
  replace L0 := L0.trans hle
  replace NG := NG.le hle
  clear hle
  go_wp2_with fail
  obtain ⟨cx, zx, hleB⟩ := box1 w6 (.slice A6 H1.length q6) 28
  replace ct := (hleB.cell zt).trans ct
  replace ch := (hleB.cell zh).trans ch
  replace zt := Nat.lt_of_lt_of_le zt hleB.size
  replace zh := Nat.lt_of_lt_of_le zh hleB.size
  replace S := S.le hleB
  replace L0 := L0.trans hleB
  replace S4 := S4.le hleB
  replace S6 := S6.le hleB
  replace NG := NG.le hleB
  clear hleB
  generalize w6.alloc (.cells #[.slice A6 H1.length q6] 28) = w7 at *
  refine (Calls.asH2 HH2.out HSC.out (Calls.heap2 (iSetCause_any B A6 m c H1.length q6 xs H1 (z : Int) (-1) w7 S S6 (by omega) (by decide)))).mono ?_
  rintro e w8 ⟨A8, q8, rfl, S8, hle⟩
  replace ct := (hle.cell zt).trans ct
  replace cx := (hle.cell zx).trans cx
  replace zt := Nat.lt_of_lt_of_le zt hle.size
  replace zx := Nat.lt_of_lt_of_le zx hle.size
  replace S := S.le hle
  replace S4 := S4.le hle
  replace L0 := L0.trans hle
  replace NG := NG.le hle
  clear hle
  go_wp2_with fail
  obtain ⟨cy, zy, hleB⟩ := box1 w8 (.slice A8 H2.length q8) 28
  replace ct := (hleB.cell zt).trans ct
  replace cx := (hleB.cell zx).trans cx
  replace zt := Nat.lt_of_lt_of_le zt hleB.size
  replace zx := Nat.lt_of_lt_of_le zx hleB.size
  replace S := S.le hleB
  replace L0 := L0.trans hleB
  replace S4 := S4.le hleB
  replace S8 := S8.le hleB
  replace NG := NG.le hleB
  clear hleB
  generalize w8.alloc (.cells #[.slice A8 H2.length q8] 28) = w9 at *
  refine (Calls.val (iChainText_any B A8 m c H2.length q8 xs H2 (z : Int) w9 S S8 (by omega) NG) (vst HU.out)).mono ?_
  rintro e w10 ⟨rfl, hle⟩
  replace S4 := S4.le hle
  replace L0 := L0.trans hle
  clear hle
  obtain ⟨j, hj⟩ : ∃ j, X.length = j + 1 := ⟨X.length - 1, by omega⟩
  have hlj : j < X.length := by omega
  obtain ⟨b, off, rfl, hbl, cp, hr3, hr4⟩ := S4.int_at hlj
  have hXj : X[j] = (z : Int) := by
    have e : X.length - 1 = j := by omega
    rw [e, List.getElem?_eq_getElem hlj] at hXe
    injection hXe
  rw [hXj] at cp
  have hwj : IntKind.i64.wrap ((X.length : Int) - 1) = (j : Int) := by rw [show ((X.length : Int) - 1) = (j : Int) by omega]; exact IntWalk.i64_in _ (by omega)
  have hjl : (j : Int) < (X.length : Int) := by omega
  have h1 := HEX.out
  have hu1 : (U.size : Int) ≤ ((U ++ s).size : Int) := by omega
  have hu2 : decide ((U.size : Int) ≤ ((U ++ s).size : Int)) = true := decide_eq_true hu1
  have hu3 : ((U ++ s).size : Int) ≤ 300 := by omega
  clear hj hXe hXj
  generalize U ++ s = T at *
  go_wp2
  go_ret
  exact ⟨rfl, L0⟩
end

section
/-- the colons among the first k bytes -/
def colK (s : ByteArray) (k : Nat) : Nat := (s.data.toList.take k).countP (· == 58)
theorem colK_succ {s : ByteArray} {k : Nat} (h : k < s.size) : colK s (k + 1) = colK s k + (if s[k].toNat = 58 then 1 else 0) := by
  unfold colK
  have h' : k < s.data.toList.length := by simpa using h
  rw [List.take_succ_eq_append_getElem h', List.countP_append]
  have e : s.data.toList[k] = s[k] := rfl
  rw [e]
  congr 1
  by_cases h58 : s[k].toNat = 58
  · rw [if_pos h58]
    have : s[k] = 58 := UInt8.toNat_inj.1 h58
    rw [this]; rfl
  · rw [if_neg h58]
    have : ¬ s[k] = 58 := fun e => h58 (by rw [e]; rfl)
    simp [this]
theorem colK_all (s : ByteArray) : colK s s.size = colons s := by
  unfold colK colons
  rw [List.take_of_length_le (by simp)]
theorem colK_le (s : ByteArray) (k : Nat) : colK s k ≤ k := by
  unfold colK
  have := List.countP_le_length (l := s.data.toList.take k) (p := (· == 58))
  rw [List.length_take] at this
  omega
/-- what the law says of a text -/
theorem ctext_facts {xs : List Cls} {hs : List Flt} {f : Int} (h : goodF xs hs f = true) : ∃ (T U p : ByteArray), ctX xs hs f = T ∧ T = p ++ U ∧ T.size ≠ 0 ∧ colons T = (shX xs hs f).length ∧ scOk xs hs f (-1) = true ∧ ctX xs (scX xs hs f (-1)) f = U := by
  have hin := goodF_in h
  have hok := goodF_ok h
  obtain ⟨z, rfl⟩ := Int.eq_ofNat_of_zero_le hin.2.1
  have hz : z < hs.length := by omega
  have hI := chain_is (shownAt_lt hin.1) hin.2.1 hin.2.2
  have e2 : scOk xs hs (z : Int) (-1) = true := by
    unfold scOk; rw [h]
    unfold vl
    rw [rng_iff.2 ⟨by omega, by omega⟩]
    simp
  have e3 : scX xs hs (z : Int) (-1) = setF hs (z : Int) (cauF (-1)) := by rw [scX_of e2]; rfl
  have hok3 := ok_cau hz (c := -1) ⟨by omega, by omega, by omega⟩ hok
  have hz3 : z < (setF hs (z : Int) (cauF (-1))).length := by rw [setF_len]; exact hz
  have hsh : shX xs hs (z : Int) = chainN (shownAt hs) hs.length (z : Int) := by unfold shX; rw [h]; rfl
  have hcol := colons_chT hok (chainN (shownAt hs) hs.length (z : Int)) (fun x hx => ⟨hI.pos x hx, hI.rng hin.2.2 (shownAt_lt hin.1) x hx⟩)
  obtain ⟨r, hr⟩ : ∃ r, chainN (shownAt hs) hs.length (z : Int) = (z : Int) :: r := by
    have a := hI.hd
    generalize chainN (shownAt hs) hs.length (z : Int) = L at *
    cases L with
    | nil => cases a
    | cons y r => injection a with a; subst a; exact ⟨r, rfl⟩
  obtain ⟨p, hp⟩ := chT_ends xs hs (z : Int) r
  have ht : ctX xs hs (z : Int) = chT xs hs (chainN (shownAt hs) hs.length (z : Int)) := by rw [ctX_of h]; rfl
  refine ⟨_, fT xs hs (z : Int), p, rfl, ?_, ?_, ?_, e2, ?_⟩
  · rw [ht, hr]; exact hp
  · intro e
    rw [ht] at e
    have : colons (chT xs hs (chainN (shownAt hs) hs.length (z : Int))) = 0 := by
      have := colK_le (chT xs hs (chainN (shownAt hs) hs.length (z : Int))) 0
      rw [← colK_all, e]; omega
    rw [hcol, hr] at this
    simp at this
  · rw [ht, hsh]; exact hcol
  · rw [e3, ctX_of (goodF_mk hok3 hz3)]
    exact text_alone hz
set_option maxHeartbeats 4000000 in
set_option maxRecDepth 100000 in
theorem fnChainText_walk (A : Option Addr) (n cap : Nat) (bs : List By) (w : World) (hR : Sl w A n cap bs) (NG : GotErr w) :
    Calls Tryd.prog 5 #[.slice A n cap] w fun e w' => e = .returned (.bool true) ∧ Le w w' := by
  have hm := hR.n_le
  by_cases hbig : 1048576 < n
  · go_enter Tryd.func5, Tryd.ntmps5
    go_wp2
    go_ret
    exact ⟨rfl, Le.refl w⟩
  go_enter Tryd.func5, Tryd.ntmps5
  go_wp2_with fail
  refine (drawChainText_any A n cap bs w hR).mono ?_
  rintro e w1 ⟨B, m, c, xs, A1, q1, hs, _, rfl, ⟨f, rfl, hf0, hf1⟩, S, hm8, S2, hl6, L0⟩
  replace NG := NG.le L0
  go_wp2_with fail
  obtain ⟨ct, zt, ch, zh, hleB⟩ := box2 w1 (.slice B m c) (.slice A1 hs.length q1) 25 28
  replace S := S.le hleB
  replace S2 := S2.le hleB
  replace L0 := L0.trans hleB
  replace NG := NG.le hleB
  clear hleB
  generalize (w1.alloc (.cells #[.slice B m c] 25)).alloc (.cells #[.slice A1 hs.length q1] 28) = W1 at *
  rcases Bool.eq_false_or_eq_true (goodF xs hs f) with ho | ho
  rotate_left
  · have hX : ctX xs hs f = ByteArray.empty := by rw [ctX_of ho]; rfl
    go_wp2_with fail
    refine (Calls.val (iChainText_any B A1 m c hs.length q1 xs hs f W1 S S2 (by omega) NG) (vst hX)).mono ?_
    rintro e w2 ⟨rfl, hle⟩
    replace ct := (hle.cell zt).trans ct
    replace ch := (hle.cell zh).trans ch
    replace zt := Nat.lt_of_lt_of_le zt hle.size
    replace zh := Nat.lt_of_lt_of_le zh hle.size
    replace S := S.le hle
    replace S2 := S2.le hle
    replace L0 := L0.trans hle
    replace NG := NG.le hle
    clear hle
    go_wp2_with fail
    refine (Calls.val (sChainText_any B A1 m c hs.length q1 xs hs f w2 S S2 (by omega)) (vst hX)).mono ?_
    rintro e w3 ⟨rfl, hle⟩
    replace ct := (hle.cell zt).trans ct
    replace ch := (hle.cell zh).trans ch
    replace zt := Nat.lt_of_lt_of_le zt hle.size
    replace zh := Nat.lt_of_lt_of_le zh hle.size
    replace S := S.le hle
    replace S2 := S2.le hle
    replace L0 := L0.trans hle
    clear hle
    go_wp2_with fail
    refine (Calls.val (sChainText_any B A1 m c hs.length q1 xs hs f w3 S S2 (by omega)) (vst hX)).mono ?_
    rintro e w4 ⟨rfl, hle⟩
    replace L0 := L0.trans hle
    clear hle
    go_wp2
    go_ret
    exact ⟨rfl, L0⟩
  obtain ⟨T, U, p, hT, hTU, hTn, hcol, hsc, hU⟩ := ctext_facts ho
  have hT3 := ctX_size xs hs f
  rw [hT] at hT3
  have HT := Lib.hid hT
  have hlen : (shX xs hs f).length ≤ 1048576 := shX_len xs hs f
  have HSH : Hid (∀ w, Sl w B m c xs → Sl w A1 hs.length q1 hs → GotErr w → _) := fun w h h2 h3 => Calls.intsH (iShownChain_any B A1 m c hs.length q1 xs hs f w h h2 (by omega) h3)
  have HSC := Lib.hid hsc
  have HU := Lib.hid hU
  have hl2 : (scX xs hs f (-1)).length ≤ 6 := by rw [scX_of hsc]; show (setF _ _ _).length ≤ 6; rw [setF_len]; exact hl6
  clear hT hsc hU ho
  obtain ⟨X, hXX⟩ : ∃ X, shX xs hs f = X := ⟨_, rfl⟩
  rw [hXX] at HSH hlen hcol
  clear hXX
  obtain ⟨H2, hH2⟩ : ∃ X, scX xs hs f (-1) = X := ⟨_, rfl⟩
  have HH2 := Lib.hid hH2
  rw [hH2] at hl2 HU
  clear hH2
  have htt := str_ne (a := T) (b := ByteArray.empty) (fun e => hTn (by rw [e]; rfl))
  have htt1 : (T.toList != T.toList) = false := by simp
  have htt2 : (T.toList == ByteArray.toList { data := #[] }) = false := htt
  have hte : T.toList.isEmpty = false := by
    cases h : T.toList with
    | nil => rw [h] at htt; exact absurd htt (by decide +kernel)
    | cons _ _ => rfl
  have hcol2 : colK T T.size = X.length := by rw [colK_all]; exact hcol
  have HCOL := Lib.hid hcol2
  have hUT : U.size ≤ T.size := by rw [hTU, ByteArray.size_append]; omega
  have HEX : Hid (((T.extract (T.size - U.size) T.size).toList == U.toList) = true) := by
    refine str_eq ?_
    rw [hTU]
    have e : (p ++ U).size - U.size = p.size := by rw [ByteArray.size_append]; omega
    rw [e]; exact ext_tail p U
  clear hTn hcol hcol2 hTU
  go_wp2_with fail
  refine (Calls.val (iChainText_any B A1 m c hs.length q1 xs hs f W1 S S2 (by omega) NG) (vst HT.out)).mono ?_
  rintro e w2 ⟨rfl, hle⟩
  replace ct := (hle.cell zt).trans ct
  replace ch := (hle.cell zh).trans ch
  replace zt := Nat.lt_of_lt_of_le zt hle.size
  replace zh := Nat.lt_of_lt_of_le zh hle.size
  replace S := S.le hle
  replace S2 := S2.le hle
  replace L0 := L0.trans hle
  replace NG := NG.le hle
  clear hle
  go_wp2_with fail
  refine (Calls.val (sChainText_any B A1 m c hs.length q1 xs hs f w2 S S2 (by omega)) (vst HT.out)).mono ?_
  rintro e w3 ⟨rfl, hle⟩
  replace ct := (hle.cell zt).trans ct
  replace ch := (hle.cell zh).trans ch
  replace zt := Nat.lt_of_lt_of_le zt hle.size
  replace zh := Nat.lt_of_lt_of_le zh hle.size
  replace S := S.le hle
  replace S2 := S2.le hle
  replace L0 := L0.trans hle
  replace NG := NG.le hle
  clear hle
  go_wp2
  go_loopw [7, 8] (fun v k wr => ∃ q : Nat, q ≤ T.size ∧ k = .int .i64 q ∧ v = .int .i64 (colK T q) ∧ w3 = wr) (fun _ k _ => T.size - (intOf k).toNat)
  case atStart => exact ⟨0, Nat.zero_le _, rfl, rfl, rfl⟩
  case round =>
    obtain ⟨q, hq, rfl, rfl, rfl⟩ := hrel
    by_cases hlt : q < T.size
    · have hc : 0 ≤ (T[q].toNat : Int) ∧ (T[q].toNat : Int) ≤ 255 := by have := UInt8.toNat_lt T[q]; omega
      have hk := colK_succ hlt
      have hkl := colK_le T q
      have hqi : (q : Int) < (T.size : Int) := by omega
      by_cases h58 : T[q].toNat = 58
      · rw [if_pos h58] at hk
        have hb : ((T[q].toNat : Int) == 58) = true := by rw [h58]; rfl
        have HK := Lib.hid hk
        clear hk
        generalize colK T q = u at *
        go_wp2
        go_roundw
        case rel => exact ⟨q + 1, by omega, by go_num, by rw [HK.out]; go_num, by first | trivial | rfl⟩
        case measure => (simp [intOf]) <;> omega
      · rw [if_neg h58] at hk
        have hb : ((T[q].toNat : Int) == 58) = false := by simp; omega
        have HK := Lib.hid hk
        clear hk
        go_wp2
        go_roundw
        case rel => exact ⟨q + 1, by omega, by go_num, by rw [HK.out]; rfl, by first | trivial | rfl⟩
        case measure => (simp [intOf]) <;> omega
    · have hqe : q = T.size := by omega
      subst hqe
      have hnl : ¬ ((T.size : Int) < (T.size : Int)) := by omega
      have hkx := HCOL.out
      go_wp2_with fail
      refine (Calls.asH2 HH2.out HSC.out (Calls.heap2 (iSetCause_any B A1 m c hs.length q1 xs hs f (-1) w3 S S2 (by omega) (by decide)))).mono ?_
      rintro e w8 ⟨A8, q8, rfl, S8, hle⟩
      replace ct := (hle.cell zt).trans ct
      replace ch := (hle.cell zh).trans ch
      replace zt := Nat.lt_of_lt_of_le zt hle.size
      replace zh := Nat.lt_of_lt_of_le zh hle.size
      replace S := S.le hle
      replace S2 := S2.le hle
      replace L0 := L0.trans hle
      replace NG := NG.le hle
      clear hle
      go_wp2_with fail
      obtain ⟨cy, zy, hleB⟩ := box1 w8 (.slice A8 H2.length q8) 28
      replace ct := (hleB.cell zt).trans ct
      replace ch := (hleB.cell zh).trans ch
      replace zt := Nat.lt_of_lt_of_le zt hleB.size
      replace zh := Nat.lt_of_lt_of_le zh hleB.size
      replace S := S.le hleB
      replace S2 := S2.le hleB
      replace L0 := L0.trans hleB
      replace S8 := S8.le hleB
      replace NG := NG.le hleB
      clear hleB
      generalize w8.alloc (.cells #[.slice A8 H2.length q8] 28) = w9 at *
      refine (Calls.val (iChainText_any B A8 m c H2.length q8 xs H2 f w9 S S8 (by omega) NG) (vst HU.out)).mono ?_
      rintro e w10 ⟨rfl, hle⟩
      replace ct := (hle.cell zt).trans ct
      replace ch := (hle.cell zh).trans ch
      replace zt := Nat.lt_of_lt_of_le zt hle.size
      replace zh := Nat.lt_of_lt_of_le zh hle.size
      replace S := S.le hle
      replace S2 := S2.le hle
      replace L0 := L0.trans hle
      replace NG := NG.le hle
      clear hle
      go_wp2_with fail
      refine (HSH.out w10 S S2 NG).mono ?_
      rintro e w11 ⟨A4, c4, rfl, S4, hle⟩
      replace L0 := L0.trans hle
      clear hle
      have h1 := HEX.out
      have hcx : (((colK T T.size : Nat) : Int) == (X.length : Int)) = true := by rw [hkx]; simp
      have hu1 : (U.size : Int) ≤ (T.size : Int) := by omega
      have hu2 : decide ((U.size : Int) ≤ (T.size : Int)) = true := decide_eq_true hu1
      have hw : IntKind.i64.wrap ((T.size : Int) - (U.size : Int)) = ((T.size - U.size : Nat) : Int) := by
        rw [show ((T.size : Int) - (U.size : Int)) = ((T.size - U.size : Nat) : Int) by omega]; exact IntWalk.i64_in _ (by omega)
      have hs1 : ((T.size - U.size : Nat) : Int) ≤ (T.size : Int) := by omega
      have hs2 : T.size - U.size ≤ T.size := by omega
      clear hkx
      go_wp2
      go_ret
      exact ⟨rfl, L0⟩
end

section
set_option maxHeartbeats 8000000 in
set_option maxRecDepth 100000 in
theorem sIsolated_any (H : Option Addr) (m c : Nat) (hs : List Flt) (f : Int) (w : World) (hH : Sl w H m c hs) (lk : Lnk hs) (h0 : 0 ≤ f) (h1 : f < hs.length) (hm : m ≤ 1048576) :
    Calls Tryd.prog 35 #[.agg #[.slice H m c], .int .i64 f] w fun e w' => ∃ v, e = .returned (.tuple #[.agg #[v], .int .i64 (idx (reachL hs f) f 0)]) ∧ Owd 49 w w' v (isoL hs (reachL hs f)) ∧ Le w w' := by
  obtain rfl := hH.len
  obtain ⟨i0, hi, hz0, hz1, hz2⟩ := info_parts infoCcFault
  obtain ⟨c0, z0, c1, z1, L0⟩ := box2 w (.slice H hs.length c) (.slice none 0 0) 28 28
  have f1 : ((w.alloc (.cells #[.slice H hs.length c] 28)).alloc (.cells #[.slice none 0 0] 28)).frozen? ⟨w.heap.size + 1, 0, none⟩ = false := World.frozen?_alloc_at _ _ _ _ (by simp)
  have hs0 : w.heap.size + 1 + 1 = ((w.alloc (.cells #[.slice H hs.length c] 28)).alloc (.cells #[.slice none 0 0] 28)).heap.size := by simp
  have HS0 := Lib.hid hs0; clear hs0
  have S0 := hH.le L0
  have HOKH := Lib.hid hH.ok
  have HUB : Hid (0 < hs.length → ∀ a, H = some a → a.block < w.heap.size + 1 + 1) := fun h a e => by have := hH.under h a e; omega
  have HRI := Lib.hid (fun x => rch0_iff lk h0 h1 x)
  have HRL := Lib.hid (fun x => reachL_mem lk h0 h1 x)
  have HFN := Lib.hid (rch0_fnd lk h1)
  have HLK := Lib.hid lk; clear lk
  have HRR : Hid (∀ x ∈ reachL hs f, 0 ≤ x ∧ x < hs.length) := fun x hx => by have := ascOf_mem.1 (show x ∈ ascOf (rch0 hs f) hs.length from hx); exact ⟨this.1, this.2.1⟩
  have hlr : (reachL hs f).length ≤ hs.length := ascOf_len (L := rch0 hs f) hs.length
  go_enter Tryd.func35, Tryd.ntmps35
  go_wp2_with fail
  generalize (w.alloc (.cells #[.slice H hs.length c] 28)).alloc (.cells #[.slice none 0 0] 28) = W at *
  refine (sReach_any H hs.length c hs HLK.out (by omega) (hs.length + 1) f [] (w.heap.size + 1 + 1) _ _ (S0.alloc _) h1 (Fnd.nil _) (by simp) (own_empty (by rw [HS0.out]; exact Nat.le_refl _) HS0.out) (by rw [HS0.out]; exact (Le.new W _).size) HUB.out).mono ?_
  rintro e w2 ⟨v, rfl, O, hg, -⟩
  have L1 : Le W w2 := (Le.new W _).grown hg (fun k hk => by injection hk with hk; rw [← HS0.out]; exact Nat.le_of_eq hk)
  have hl9 : (rch0 hs f).length ≤ hs.length := HFN.out.len
  have hok : ∀ x ∈ rch0 hs f, Enc.ok x := fun x hx => by have := HFN.out.rng x hx; exact ⟨by omega, by omega⟩
  have O' : w2.ownsRow (w.heap.size + 1 + 1) 3 1 v (rch0 hs f).length ((rch0 hs f).flatMap Enc.cells) := O
  obtain ⟨A2, q2, rfl⟩ := own_form O'
  have SV := Sl.of_own O' rfl (by decide) hok
  clear O O' hg hok
  go_wp2_with fail
  refine (sorted_any A2 _ q2 (rch0 hs f) _ SV (by omega)).mono ?_
  rintro e w3 ⟨v3, M, rfl, D, hle, ha, hmem, -⟩
  have hM : M = reachL hs f := reachL_eq HLK.out h0 h1 ha (fun x => (hmem x).trans (HRI.out x))
  subst hM
  clear ha hmem SV
  replace hle := L1.trans hle
  clear L1
  obtain ⟨AL, cL, rfl, SL, -⟩ := D.form (by decide)
  replace c0 := (hle.cell z0).trans c0
  replace c1 := (hle.cell z1).trans c1
  replace f1 := (hle.frozen z1).trans f1
  replace z0 := Nat.lt_of_lt_of_le z0 hle.size
  replace z1 := Nat.lt_of_lt_of_le z1 hle.size
  replace L0 := L0.trans hle
  replace S0 := S0.le hle
  have s3 := hle.size
  clear D hle
  have HC0 := Lib.hid c0; have HC1 := Lib.hid c1; have HF1 := Lib.hid f1; have HL0 := Lib.hid L0; have HS := Lib.hid S0; have HSL := Lib.hid SL
  have y0 := z0; have y1 := z1
  have HISO : Hid (∀ x : Int, Enc.ok (isoF hs (reachL hs f) x)) := fun x => isoF_ok HOKH.out (by omega) x
  clear HRI HRL HFN HUB HLK
  go_wp2
  generalize hLL : reachL hs f = L at *
  have HLL := Lib.hid hLL; clear hLL
  clear c0 c1 f1 z0 z1 L0 S0 SL
  go_loopw [8, 9] (fun q _ wr => ∃ (k : Nat) (A' : Option Addr) (c' : Nat), k ≤ L.length ∧ q = .int .i64 k ∧ Le w3 wr ∧ w3.heap.size + 1 < wr.heap.size ∧ wr.cell? ⟨w3.heap.size + 1, 0, none⟩ = some (.slice A' k c') ∧ wr.frozen? ⟨w3.heap.size + 1, 0, none⟩ = false ∧
    wr.ownsRow w3.heap.size 49 5 (.slice A' k c') k (((L.take k).map (isoF hs L)).flatMap Enc.cells) ∧ (Value.slice A' k c').ownBlock ≠ some (w3.heap.size + 1)) (fun q _ _ => L.length - (intOf q).toNat)
  case atStart => exact ⟨0, some ⟨w3.heap.size, 0, none⟩, 0, Nat.zero_le _, rfl, (Le.new w3 _).alloc _, by simp, by rw [World.cell?_alloc_at _ _ _ _ (by simp)]; rfl, World.frozen?_alloc_at _ _ _ _ (by simp), (own_empty (Nat.le_refl _) rfl).alloc _, fun e => by injection e with e; have e2 : w3.heap.size = w3.heap.size + 1 := e; omega⟩
  case round =>
    obtain ⟨k, A', c', hk, rfl, hle, zB, cB, fB, O, hne⟩ := hrel
    have c0 := (hle.cell y0).trans HC0.out
    have c1 := (hle.cell y1).trans HC1.out
    have f1 := (hle.frozen y1).trans HF1.out
    have z0 := Nat.lt_of_lt_of_le y0 hle.size
    have z1 := Nat.lt_of_lt_of_le y1 hle.size
    have L0 := HL0.out.trans hle
    have S0 := HS.out.le hle
    have SL := HSL.out.le hle
    have hltO := O.lt
    have HLTO := Lib.hid hltO; clear hltO
    have HNE := Lib.hid hne; clear hne
    by_cases hlt : k < L.length
    · have hr := HRR.out _ (List.getElem_mem hlt)
      have HT := Lib.hid (isoL_take (hs := hs) hlt)
      have HOK := Lib.hid (HISO.out L[k])
      obtain ⟨i, hi2⟩ := Int.eq_ofNat_of_zero_le hr.1
      rw [hi2] at hr HT HOK
      obtain ⟨b, off, rfl, hb, hx, _, _⟩ := SL.int_at hlt
      rw [hi2] at hx
      have hil : i < hs.length := by omega
      have hi3 : (i : Int) < (hs.length : Int) := by omega
      have hk3 : (k : Int) < (L.length : Int) := by omega
      obtain ⟨b2, off2, rfl, hb2, q0, q1, q2, q3, q4, -⟩ := S0.flt_at hil
      have hsh := isoF_at (L := L) hil
      have HSH := Lib.hid hsh
      clear hsh hi2
      generalize hs[i] = x at *
      generalize x.cls = xc at *
      generalize x.code = xd at *
      generalize x.cause = xa at *
      generalize x.ctx = xb at *
      generalize x.hide = xh at *
      have HA : Hid (∀ w, Sl w (some ⟨b, off, none⟩) L.length cL L → Calls Tryd.prog 60 #[.slice (some ⟨b, off, none⟩) L.length cL, .int .i64 xa] w fun e w' => e = .returned (.int .i64 (idx L xa 0)) ∧ w = w') := fun w h => sIndexOf_any _ _ _ L xa w h (by omega)
      have HB : Hid (∀ w, Sl w (some ⟨b, off, none⟩) L.length cL L → Calls Tryd.prog 60 #[.slice (some ⟨b, off, none⟩) L.length cL, .int .i64 xb] w fun e w' => e = .returned (.int .i64 (idx L xb 0)) ∧ w = w') := fun w h => sIndexOf_any _ _ _ L xb w h (by omega)
      generalize idx L xa 0 = ya at *
      generalize idx L xb 0 = yb at *
      replace c0 := (show wr.drew.cell? _ = _ from c0)
      replace hx := (show wr.drew.cell? _ = _ from hx)
      replace q0 := (show wr.drew.cell? _ = _ from q0)
      replace q1 := (show wr.drew.cell? _ = _ from q1)
      replace q2 := (show wr.drew.cell? _ = _ from q2)
      replace q3 := (show wr.drew.cell? _ = _ from q3)
      replace q4 := (show wr.drew.cell? _ = _ from q4)
      have zD : w.heap.size < wr.drew.heap.size := z0
      have zD1 : b < wr.drew.heap.size := hb
      have zD2 : b2 < wr.drew.heap.size := hb2
      have HKZ : Hid ((wr.drew.alloc (.cells #[.int .i64 0, .int .i64 0, .int .i64 0, .int .i64 0, .bool false] 49)).cell? ⟨w.heap.size, 0, none⟩ = some (.slice (some ⟨b2, off2, none⟩) hs.length c) ∧ (wr.drew.alloc (.cells #[.int .i64 0, .int .i64 0, .int .i64 0, .int .i64 0, .bool false] 49)).cell? ⟨b, off + k, none⟩ = some (.int .i64 i) ∧ (wr.drew.alloc (.cells #[.int .i64 0, .int .i64 0, .int .i64 0, .int .i64 0, .bool false] 49)).cell? ⟨b2, off2 + i * 5, none⟩ = some (.int .i64 xc) ∧ (wr.drew.alloc (.cells #[.int .i64 0, .int .i64 0, .int .i64 0, .int .i64 0, .bool false] 49)).cell? ⟨b2, off2 + i * 5 + 1, none⟩ = some (.int .i64 xd) ∧ (wr.drew.alloc (.cells #[.int .i64 0, .int .i64 0, .int .i64 0, .int .i64 0, .bool false] 49)).cell? ⟨b2, off2 + i * 5 + 2, none⟩ = some (.int .i64 xa) ∧ (wr.drew.alloc (.cells #[.int .i64 0, .int .i64 0, .int .i64 0, .int .i64 0, .bool false] 49)).cell? ⟨b2, off2 + i * 5 + 3, none⟩ = some (.int .i64 xb) ∧ (wr.drew.alloc (.cells #[.int .i64 0, .int .i64 0, .int .i64 0, .int .i64 0, .bool false] 49)).cell? ⟨b2, off2 + i * 5 + 4, none⟩ = some (.bool xh)) := ⟨((Le.new _ _).cell zD).trans c0, ((Le.new _ _).cell zD1).trans hx, ((Le.new _ _).cell zD2).trans q0, ((Le.new _ _).cell zD2).trans q1, ((Le.new _ _).cell zD2).trans q2, ((Le.new _ _).cell zD2).trans q3, ((Le.new _ _).cell zD2).trans q4⟩
      have HKC : Hid ((wr.drew.alloc (.cells #[.int .i64 xc, .int .i64 xd, .int .i64 xa, .int .i64 xb, .bool xh] 49)).cell? ⟨w.heap.size, 0, none⟩ = some (.slice (some ⟨b2, off2, none⟩) hs.length c) ∧ (wr.drew.alloc (.cells #[.int .i64 xc, .int .i64 xd, .int .i64 xa, .int .i64 xb, .bool xh] 49)).cell? ⟨b, off + k, none⟩ = some (.int .i64 i) ∧ (wr.drew.alloc (.cells #[.int .i64 xc, .int .i64 xd, .int .i64 xa, .int .i64 xb, .bool xh] 49)).cell? ⟨b2, off2 + i * 5, none⟩ = some (.int .i64 xc) ∧ (wr.drew.alloc (.cells #[.int .i64 xc, .int .i64 xd, .int .i64 xa, .int .i64 xb, .bool xh] 49)).cell? ⟨b2, off2 + i * 5 + 1, none⟩ = some (.int .i64 xd) ∧ (wr.drew.alloc (.cells #[.int .i64 xc, .int .i64 xd, .int .i64 xa, .int .i64 xb, .bool xh] 49)).cell? ⟨b2, off2 + i * 5 + 2, none⟩ = some (.int .i64 xa) ∧ (wr.drew.alloc (.cells #[.int .i64 xc, .int .i64 xd, .int .i64 xa, .int .i64 xb, .bool xh] 49)).cell? ⟨b2, off2 + i * 5 + 3, none⟩ = some (.int .i64 xb) ∧ (wr.drew.alloc (.cells #[.int .i64 xc, .int .i64 xd, .int .i64 xa, .int .i64 xb, .bool xh] 49)).cell? ⟨b2, off2 + i * 5 + 4, none⟩ = some (.bool xh)) := ⟨((Le.new _ _).cell zD).trans c0, ((Le.new _ _).cell zD1).trans hx, ((Le.new _ _).cell zD2).trans q0, ((Le.new _ _).cell zD2).trans q1, ((Le.new _ _).cell zD2).trans q2, ((Le.new _ _).cell zD2).trans q3, ((Le.new _ _).cell zD2).trans q4⟩
      go_wp2_with fail
      go_region_held3 (fun w' => w'.cell? ⟨w.heap.size, 0, none⟩ = some (.slice (some ⟨b2, off2, none⟩) hs.length c) ∧ w'.cell? ⟨b, off + k, none⟩ = some (.int .i64 i) ∧ w'.cell? ⟨b2, off2 + i * 5, none⟩ = some (.int .i64 xc) ∧ w'.cell? ⟨b2, off2 + i * 5 + 1, none⟩ = some (.int .i64 xd) ∧ w'.cell? ⟨b2, off2 + i * 5 + 2, none⟩ = some (.int .i64 xa) ∧ w'.cell? ⟨b2, off2 + i * 5 + 3, none⟩ = some (.int .i64 xb) ∧ w'.cell? ⟨b2, off2 + i * 5 + 4, none⟩ = some (.bool xh))
        (first | exact ⟨c0, hx, q0, q1, q2, q3, q4⟩ | exact HKZ.out | exact HKC.out) (fail)
      go_wp2_with fail
      refine (HA.out _ ((SL.alloc (.cells #[.int .i64 xc, .int .i64 xd, .int .i64 xa, .int .i64 xb, .bool xh] 49)).le (Le.refl _).drew)).mono ?_
      rintro e wq ⟨rfl, rfl⟩
      go_wp2_with fail
      refine (HB.out _ ((SL.alloc (.cells #[.int .i64 xc, .int .i64 xd, .int .i64 ya, .int .i64 xb, .bool xh] 49)).le (Le.refl _).drew)).mono ?_
      rintro e wq ⟨rfl, rfl⟩
      have LX : Le wr (((wr.alloc (.cells #[.int .i64 xc, .int .i64 xd, .int .i64 ya, .int .i64 yb, .bool xh] 49)).alloc (.cells #[.int .i64 xc, .int .i64 xd, .int .i64 ya, .int .i64 yb, .bool xh] 49)).drew) := ((Le.new wr (.cells #[.int .i64 xc, .int .i64 xd, .int .i64 ya, .int .i64 yb, .bool xh] 49)).alloc (.cells #[.int .i64 xc, .int .i64 xd, .int .i64 ya, .int .i64 yb, .bool xh] 49)).drew
      have cBX := (LX.cell zB).trans cB
      have fBX := (LX.frozen zB).trans fB
      have sX := LX.size
      have hX1 : (wr.alloc (.cells #[.int .i64 xc, .int .i64 xd, .int .i64 ya, .int .i64 yb, .bool xh] 49)).heap.size = wr.heap.size + 1 := by simp
      have hX2 : (((wr.alloc (.cells #[.int .i64 xc, .int .i64 xd, .int .i64 ya, .int .i64 yb, .bool xh] 49)).alloc (.cells #[.int .i64 xc, .int .i64 xd, .int .i64 ya, .int .i64 yb, .bool xh] 49)).drew).heap.size = wr.heap.size + 1 + 1 := by show ((wr.alloc _).alloc _).heap.size = _; simp
      rw [HSH.out] at HOK
      have SX := sl_one (w := wr.alloc (.cells #[.int .i64 xc, .int .i64 xd, .int .i64 ya, .int .i64 yb, .bool xh] 49)) (cs := #[.int .i64 xc, .int .i64 xd, .int .i64 ya, .int .i64 yb, .bool xh]) (T := 49) (⟨xc, xd, ya, yb, xh⟩ : Flt) rfl HOK.out (b := wr.heap.size + 1) hX1.symm
      have SX2 : Sl (((wr.alloc (.cells #[.int .i64 xc, .int .i64 xd, .int .i64 ya, .int .i64 yb, .bool xh] 49)).alloc (.cells #[.int .i64 xc, .int .i64 xd, .int .i64 ya, .int .i64 yb, .bool xh] 49)).drew) (some ⟨wr.heap.size + 1, 0, none⟩) 1 1 [(⟨xc, xd, ya, yb, xh⟩ : Flt)] := SX.le (Le.refl _).drew
      have OX : (((wr.alloc (.cells #[.int .i64 xc, .int .i64 xd, .int .i64 ya, .int .i64 yb, .bool xh] 49)).alloc (.cells #[.int .i64 xc, .int .i64 xd, .int .i64 ya, .int .i64 yb, .bool xh] 49)).drew).ownsRow w3.heap.size 49 5 (.slice A' k c') k (((L.take k).map (isoF hs L)).flatMap Enc.cells) := ((O.alloc (.cells #[.int .i64 xc, .int .i64 xd, .int .i64 ya, .int .i64 yb, .bool xh] 49)).alloc (.cells #[.int .i64 xc, .int .i64 xd, .int .i64 ya, .int .i64 yb, .bool xh] 49)).drew
      have HX2 := Lib.hid hX2
      have m1 : k + 1 ≤ maxLen := by unfold maxLen; omega
      have m2 : (k + 1) * 40 ≤ 140737488355328 := by omega
      have m3 : w3.heap.size ≤ (((wr.alloc (.cells #[.int .i64 xc, .int .i64 xd, .int .i64 ya, .int .i64 yb, .bool xh] 49)).alloc (.cells #[.int .i64 xc, .int .i64 xd, .int .i64 ya, .int .i64 yb, .bool xh] 49)).drew).heap.size := Nat.le_trans hle.size sX
      clear hX1 hX2 SX
      go_wp2_with (at_builtin; refine wpList_append_sl rfl _ _ 26 rfl (w3.heap.size) 49 i0 _ 40 Tryd.underlying26 hi hz0 hz1 hz2 rfl (.slice A' k c') k ((L.take k).map (isoF hs L)) rfl OX (some ⟨wr.heap.size + 1, 0, none⟩) 1 1 [(⟨xc, xd, ya, yb, xh⟩ : Flt)] rfl SX2 m1 m2 m3 ?_; intro v1 w1 O1 hg1 hat; have cB1 := hg1.cell (a := ⟨w3.heap.size + 1, 0, none⟩) cBX (fun e => HNE.out e.symm); have fB1 := (World.frozen?_of_block (a := ⟨w3.heap.size + 1, 0, none⟩) (hg1.block (w3.heap.size + 1) (Nat.lt_of_lt_of_le zB sX) (fun e => HNE.out e.symm))).trans fBX; obtain ⟨A2, q2, rfl⟩ := own_form O1)
      have hne2 : (Value.slice A2 (k + 1) q2).ownBlock ≠ some (w3.heap.size + 1) := by
        rcases hat with h | h
        · rw [h]; exact HNE.out
        · rw [h, HX2.out]; intro e; injection e with e; omega
      have L1 := (hle.trans LX).grown hg1 (fun k hk => (HLTO.out k hk).1)
      have s1 := hg1.size
      rw [show (L.take k).map (isoF hs L) ++ [(⟨xc, xd, ya, yb, xh⟩ : Flt)] = (L.take (k + 1)).map (isoF hs L) from by rw [← HT.out, HSH.out]] at O1
      have O2 := O1.kept (grown_set w1 (w3.heap.size + 1) 0 (.slice A2 (k + 1) q2)) (.inr hne2)
      go_roundw
      case rel => exact ⟨k + 1, A2, q2, by omega, by go_num, L1.setCell (by omega) _, by simpa [World.setCell] using Nat.lt_of_lt_of_le (Nat.lt_of_lt_of_le zB sX) s1, cell_set_same cB1, by simpa using fB1, O2, hne2⟩
      case measure => simp [intOf]; omega
    · have hkk : k = L.length := by omega
      subst hkk
      have hT : (L.take L.length).map (isoF hs L) = isoL hs L := by rw [List.take_length]; rfl
      rw [hT] at O
      have hII : isoL hs L = L.map (isoF hs L) := rfl
      have hokL : ∀ x ∈ isoL hs L, Enc.ok x := fun x hx => by obtain ⟨y, _, rfl⟩ := List.mem_map.1 hx; exact HISO.out y
      have hlI : (isoL hs L).length = L.length := by rw [hII, List.length_map]
      have HE := Lib.hid (res_end (r := w.heap.size + 1) L0.drew (by omega) y1 (show wr.drew.ownsRow w3.heap.size 49 (Enc.size Flt) (.slice A' L.length c') (isoL hs L).length ((isoL hs L).flatMap Enc.cells) from by rw [hlI]; exact O.drew) hokL)
      have SD := SL.le (Le.refl wr).drew
      have HC : Hid (∀ w, Sl w AL L.length cL L → Calls Tryd.prog 60 #[.slice AL L.length cL, .int .i64 f] w fun e w' => e = .returned (.int .i64 (idx L f 0)) ∧ w = w') := fun w h => sIndexOf_any _ _ _ L f w h (by omega)
      have c1w := c1
      have cB2 : ∀ u, (wr.setCell ⟨w.heap.size + 1, 0, none⟩ u).cell? ⟨w3.heap.size + 1, 0, none⟩ = some (.slice A' L.length c') := fun u => (cell_set_other (.inl (by omega))).trans cB
      have HCB2 := Lib.hid cB2; clear cB2
      have hend : ∀ u, (wr.setCell ⟨w.heap.size + 1, 0, none⟩ u).cell? ⟨w.heap.size + 1, 0, none⟩ = some u := fun u => cell_set_same c1w
      replace cB := (show wr.drew.cell? _ = _ from cB)
      replace c1 := (show wr.drew.cell? _ = _ from c1)
      replace f1 := (show wr.drew.frozen? _ = _ from f1)
      clear hT hII hokL hlI O
      generalize hyf : idx L f 0 = yf at *
      have HYF := Lib.hid hyf; clear hyf
      go_wp2_with fail
      go_region_held3 (fun w' => w'.cell? ⟨w3.heap.size + 1, 0, none⟩ = some (.slice A' L.length c'))
        (first | exact cB | exact HCB2.out _)
        (first
        | (go_at_call 60; refine (HC.out _ SD).mono ?_; rintro e wq ⟨rfl, rfl⟩))
      go_wp2
      exact bodyPost_ret (v := .tuple #[.agg #[.slice A' L.length c'], .int .i64 yf]) (by simp [results, Tryd.results35, go_sem, hend]) rfl ⟨_, by rw [HLL.out, HYF.out], by rw [HLL.out]; exact (HE.out (.slice A' L.length c')).1, (HE.out (.slice A' L.length c')).2⟩
end
end Go.Proofs.YthcolcmgfhkbeaaDoor
