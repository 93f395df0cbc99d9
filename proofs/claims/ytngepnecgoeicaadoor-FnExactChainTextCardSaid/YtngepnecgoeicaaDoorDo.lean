/- OldestShown of the model and of the program -/
import Derived.Test.YtngepnecgoeicaaDoorDc
namespace Go.Proofs.YtngepnecgoeicaaDoor
open Go.RowKit

def oldX (xs : List Cls) (hs : List Flt) (f : Int) : Int := cond (goodF xs hs f) ((chainN (shownAt hs) hs.length f).getLastD (-1)) (-1)
theorem oldX_of {xs : List Cls} {hs : List Flt} {f : Int} {t : Bool} (h : goodF xs hs f = t) : oldX xs hs f = cond t ((chainN (shownAt hs) hs.length f).getLastD (-1)) (-1) := by unfold oldX; rw [h]
theorem chain_snoc {nx : Int → Int} {n : Nat} {f : Int} (hb : ∀ x : Int, 0 ≤ x → x < n → nx x < n) (h0 : 0 ≤ f) (h1 : f < n) : ∃ L x, chainN nx n f = L ++ [x] := by
  have h := chain_is hb h0 h1
  exact ⟨_, _, (List.dropLast_concat_getLast h.ne).symm⟩
theorem getLastD_snoc (L : List Int) (x d : Int) : (L ++ [x]).getLastD d = x := by simp [List.getLastD_eq_getLast?]

set_option maxRecDepth 100000 in
theorem sOldestShown_any (A H : Option Addr) (n cap m c : Nat) (xs : List Cls) (hs : List Flt) (f : Int) (w : World) (hR : Sl w A n cap xs) (hH : Sl w H m c hs) (hm : m ≤ 1048576) :
    Calls Tryd.prog 26 #[.agg #[.slice A n cap], .agg #[.slice H m c], .int .i64 f] w fun e w' => e = .returned (.int .i64 (oldX xs hs f)) ∧ Le w w' := by
  go_enter Tryd.func26, Tryd.ntmps26
  go_wp2_with fail
  obtain ⟨c0, z0, c1, z1, L0⟩ := box2 w (.slice A n cap) (.slice H m c) 37 32
  have S0 := hH.le L0
  generalize (w.alloc (.cells #[.slice A n cap] 37)).alloc (.cells #[.slice H m c] 32) = W at *
  refine (goodFault_any A H n cap m c xs hs f W (hR.le L0) S0 (by omega)).mono ?_
  rintro e w1 ⟨rfl, hle⟩
  replace c0 := (hle.cell z0).trans c0
  replace c1 := (hle.cell z1).trans c1
  replace z0 := Nat.lt_of_lt_of_le z0 hle.size
  replace z1 := Nat.lt_of_lt_of_le z1 hle.size
  replace L0 := L0.trans hle
  replace S0 := S0.le hle
  clear hle
  cases ho : goodF xs hs f
  · have HX := Lib.hid (oldX_of ho)
    clear ho
    go_wp2
    go_ret
    exact ⟨ret_int HX.out.symm, L0⟩
  · have HX := Lib.hid (oldX_of ho)
    have hf := goodF_in ho
    have hfew := goodF_few ho
    obtain ⟨L, x, hL⟩ := chain_snoc (shownAt_lt hf.1) hf.2.1 hf.2.2
    have hll := Chn.go_len2 (shownAt_lt hf.1) hf.2.1 hf.2.2
    have HG := Lib.hid hf
    clear ho hf
    rw [hL] at hll
    simp only [List.length_append, List.length_singleton] at hll
    go_wp2_with fail
    refine (sShown_any H m c hs f w1 S0 HG.out.1 HG.out.2.1 HG.out.2.2 (by omega)).mono ?_
    rintro e w2 ⟨v, rfl, D, hle⟩
    rw [hL] at D HX
    obtain ⟨A2, c2, rfl, SV, -⟩ := D.form (by decide)
    simp only [List.length_append, List.length_singleton] at SV ⊢
    have hx : (L ++ [x])[L.length]'(by simp) = x := by simp
    obtain ⟨b, off, rfl, hb, q0, _, _⟩ := SV.int_at (k := L.length) (by simp)
    rw [hx] at q0
    have hw1 : IntKind.i64.wrap ((L.length : Int) + 1 - 1) = (L.length : Int) := by rw [Int.add_sub_cancel]; exact IntWalk.i64_in _ (by omega)
    have hw2 : IntKind.i64.wrap (L.length : Int) = (L.length : Int) := IntWalk.i64_in _ (by omega)
    have hlt : (L.length : Int) < (L.length : Int) + 1 := by omega
    have LL := L0.trans hle
    clear D SV hx hL
    go_wp2
    go_ret
    exact ⟨ret_int (by rw [HX.out]; exact (getLastD_snoc L x (-1)).symm), LL⟩
set_option maxRecDepth 100000 in
theorem iOldestShown_any (A H : Option Addr) (n cap m c : Nat) (xs : List Cls) (hs : List Flt) (f : Int) (w : World) (hR : Sl w A n cap xs) (hH : Sl w H m c hs) (hm : m ≤ 1048576) (hG : GotErr w) :
    Calls Tryd.prog 27 #[.agg #[.slice A n cap], .agg #[.slice H m c], .int .i64 f] w fun e w' => e = .returned (.int .i64 (oldX xs hs f)) ∧ Le w w' := by
  go_enter Tryd.func27, Tryd.ntmps27
  go_wp2_with fail
  obtain ⟨c0, z0, c1, z1, L0⟩ := box2 w (.slice A n cap) (.slice H m c) 37 32
  have S0 := hH.le L0
  generalize (w.alloc (.cells #[.slice A n cap] 37)).alloc (.cells #[.slice H m c] 32) = W at *
  refine (iHasFault_any A H n cap m c xs hs f W (hR.le L0) S0 (by omega)).mono ?_
  rintro e w1 ⟨rfl, hle⟩
  replace c0 := (hle.cell z0).trans c0
  replace c1 := (hle.cell z1).trans c1
  replace z0 := Nat.lt_of_lt_of_le z0 hle.size
  replace z1 := Nat.lt_of_lt_of_le z1 hle.size
  replace L0 := L0.trans hle
  replace S0 := S0.le hle
  clear hle
  cases ho : goodF xs hs f
  · have HX := Lib.hid (oldX_of ho)
    clear ho
    go_wp2
    go_ret
    exact ⟨ret_int HX.out.symm, L0⟩
  · have HX := Lib.hid (oldX_of ho)
    have hf := goodF_in ho
    have hfew := goodF_few ho
    obtain ⟨L, x, hL⟩ := chain_snoc (shownAt_lt hf.1) hf.2.1 hf.2.2
    have hll := Chn.go_len2 (shownAt_lt hf.1) hf.2.1 hf.2.2
    have HG := Lib.hid hf
    obtain ⟨i, rfl, hil⟩ := goodF_at ho
    clear ho hf
    rw [hL] at hll
    simp only [List.length_append, List.length_singleton] at hll
    go_wp2_with fail
    refine (iShown_any A H n cap m c i w1).mono ?_
    rintro e w2 ⟨g, rfl, hg, hgs, hle⟩
    have S2 := S0.le hle
    have L2 := L0.trans hle
    have F2 := FCh.one hg
    clear hg hle
    go_wp2_with fail
    refine (indicesShn_any _ H m c hs g i w2 S2 ⟨_, _, _, rfl⟩ (shownAt_lt HG.out.1) hil (by omega) F2 (hG.le L2)).mono ?_
    rintro e w3 ⟨v, rfl, D, hle⟩
    replace D : Owd 3 w2 w3 v (chainN (shownAt hs) hs.length i) := D
    rw [hL] at D HX
    obtain ⟨A2, c2, rfl, SV, -⟩ := D.form (by decide)
    simp only [List.length_append, List.length_singleton] at SV ⊢
    have hx : (L ++ [x])[L.length]'(by simp) = x := by simp
    obtain ⟨b, off, rfl, hb, q0, _, _⟩ := SV.int_at (k := L.length) (by simp)
    rw [hx] at q0
    have hw1 : IntKind.i64.wrap ((L.length : Int) + 1 - 1) = (L.length : Int) := by rw [Int.add_sub_cancel]; exact IntWalk.i64_in _ (by omega)
    have hw2 : IntKind.i64.wrap (L.length : Int) = (L.length : Int) := IntWalk.i64_in _ (by omega)
    have hlt : (L.length : Int) < (L.length : Int) + 1 := by omega
    have LL := L2.trans hle
    clear D SV hx hL
    go_wp2
    go_ret
    exact ⟨ret_int (by rw [HX.out]; exact (getLastD_snoc L x (-1)).symm), LL⟩
end Go.Proofs.YtngepnecgoeicaaDoor
