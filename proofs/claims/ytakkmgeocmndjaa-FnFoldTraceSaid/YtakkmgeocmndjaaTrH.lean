/- HideFuncs of the model and of the program -/
import Derived.Test.YtakkmgeocmndjaaTrC
import Derived.Test.YtakkmgeocmndjaaTyStr
namespace Go.Proofs.Ytakkmgeocmndjaa
open Go.RowKit
def idxS : List ByteArray → ByteArray → Int → Int
  | [], _, _ => -1
  | x :: r, s, j => if x = s then j else idxS r s (j + 1)
theorem idxS_at {L : List ByteArray} {k : Nat} (h : k < L.length) (s : ByteArray) (j : Int) : idxS (L.drop k) s j = if L[k] = s then j else idxS (L.drop (k + 1)) s (j + 1) := by
  rw [List.drop_eq_getElem_cons h]; rfl
theorem idxS_end {L : List ByteArray} {k : Nat} (h : ¬ k < L.length) (s : ByteArray) (j : Int) : idxS (L.drop k) s j = -1 := by
  rw [List.drop_eq_nil_of_le (by omega)]; rfl
def hasS (L : List ByteArray) (s : ByteArray) : Bool := decide (0 ≤ idxS L s 0)
theorem hasS_of {L : List ByteArray} {s : ByteArray} {j : Int} (h : idxS L s 0 = j) : hasS L s = decide (0 ≤ j) := by unfold hasS; rw [h]
theorem hasText_any (A : Option Addr) (n c : Nat) (L : List ByteArray) (x : ByteArray) (w : World) (hL : Sl w A n c L) :
    Calls Try.prog 64 #[.slice A n c, .string x] w fun e w' => e = .returned (.bool (hasS L x)) ∧ w = w' := by
  obtain rfl := hL.len
  have hm := hL.n_le
  go_enter Try.func64, Try.ntmps64
  go_wp2
  go_loop [5] (fun q => ∃ k : Nat, k ≤ L.length ∧ q = .int .i64 k ∧ idxS L x 0 = idxS (L.drop k) x k) (fun q => L.length - (intOf q).toNat)
  case atStart => exact ⟨0, Nat.zero_le _, rfl, rfl⟩
  case round =>
    obtain ⟨k, hk, rfl, hr⟩ := hrel
    by_cases hlt : k < L.length
    · obtain ⟨b, off, rfl, hb, hx⟩ := hL.str_at hlt
      rw [idxS_at hlt] at hr
      by_cases he : L[k] = x
      · have hb1 := str_eq he
        rw [if_pos he] at hr
        have HR := Lib.hid ((hasS_of hr).trans (decide_eq_true (by omega))); clear hr he
        go_wp2
        go_ret
        exact ⟨ret_bool HR.out.symm, rfl⟩
      · have hb1 := str_ne he
        rw [if_neg he] at hr
        have HR := Lib.hid hr; clear hr he
        go_wp2
        go_round
        case rel => exact ⟨k + 1, by omega, by go_num, by rw [HR.out]; rfl⟩
        case measure => simp [intOf]; omega
    · rw [idxS_end hlt] at hr
      have HR := Lib.hid ((hasS_of hr).trans (decide_eq_false (by omega))); clear hr
      go_wp2
      go_ret
      exact ⟨ret_bool HR.out.symm, rfl⟩
set_option maxRecDepth 100000 in
theorem iIndexS_any (A : Option Addr) (n c : Nat) (L : List ByteArray) (x : ByteArray) (w : World) (hL : Sl w A n c L) :
    Calls Try.prog 77 #[.slice A n c, .string x] w fun e w' => e = .returned (.int .i64 (idxS L x 0)) ∧ w = w' := by
  obtain rfl := hL.len
  have hm := hL.n_le
  go_enter Try.func77, Try.ntmps77
  go_wp2
  go_loop [5, 8] (fun _ q => ∃ k : Nat, k ≤ L.length ∧ q = .int .i64 k ∧ idxS L x 0 = idxS (L.drop k) x k) (fun _ q => L.length - (intOf q).toNat)
  case atStart => exact ⟨0, Nat.zero_le _, rfl, rfl⟩
  case round =>
    obtain ⟨k, hk, rfl, hr⟩ := hrel
    by_cases hlt : k < L.length
    · obtain ⟨b, off, rfl, hb, hx⟩ := hL.str_at hlt
      rw [idxS_at hlt] at hr
      have hki : (k : Int) < (L.length : Int) := by omega
      by_cases he : L[k] = x
      · have hb1 := str_eq he.symm
        rw [if_pos he] at hr
        have HR := Lib.hid hr; clear hr he
        go_wp2
        go_ret
        exact ⟨ret_int HR.out.symm, rfl⟩
      · have hb1 := str_ne (fun e => he e.symm)
        rw [if_neg he] at hr
        have HR := Lib.hid hr; clear hr he
        go_wp2
        go_round
        case rel => exact ⟨k + 1, by omega, by go_num, by rw [HR.out]; rfl⟩
        case measure => simp [intOf]; omega
    · rw [idxS_end hlt] at hr
      have HR := Lib.hid hr; clear hr
      go_wp2
      go_ret
      exact ⟨ret_int HR.out.symm, rfl⟩
theorem iContainsS_any (A : Option Addr) (n c : Nat) (L : List ByteArray) (x : ByteArray) (w : World) (hL : Sl w A n c L) :
    Calls Try.prog 63 #[.slice A n c, .string x] w fun e w' => e = .returned (.bool (hasS L x)) ∧ w = w' := by
  go_enter Try.func63, Try.ntmps63
  go_wp2_with fail
  refine (iIndexS_any A n c L x _ hL).mono ?_
  rintro e w' ⟨rfl, rfl⟩
  have HR := Lib.hid (hasS_of (rfl : idxS L x 0 = idxS L x 0))
  generalize idxS L x 0 = j at *
  go_wp2
  go_ret
  exact ⟨ret_bool HR.out.symm, rfl⟩

def frm0 : Frm := ⟨ByteArray.empty, 0⟩
def hidK (xs : List Frm) (ns : List ByteArray) : Nat → List Frm
  | 0 => []
  | k + 1 => hidK xs ns k ++ (if hasS ns (xs.getD k frm0).fn then [] else [xs.getD k frm0])
theorem hidK_no {xs : List Frm} {ns : List ByteArray} {k : Nat} (hk : k < xs.length) (h : hasS ns xs[k].fn = true) : hidK xs ns (k + 1) = hidK xs ns k := by
  rw [hidK, List.getD_eq_getElem?_getD, List.getElem?_eq_getElem hk, Option.getD_some, h, if_pos rfl, List.append_nil]
theorem hidK_yes {xs : List Frm} {ns : List ByteArray} {k : Nat} (hk : k < xs.length) (h : hasS ns xs[k].fn = false) : hidK xs ns (k + 1) = hidK xs ns k ++ [xs[k]] := by
  rw [hidK, List.getD_eq_getElem?_getD, List.getElem?_eq_getElem hk, Option.getD_some, h, if_neg (by simp)]
theorem hidK_len (xs : List Frm) (ns : List ByteArray) : ∀ k, (hidK xs ns k).length ≤ k
  | 0 => Nat.le_refl _
  | k + 1 => by
    have := hidK_len xs ns k
    unfold hidK
    split <;> simp <;> omega
theorem hidK_mem (xs : List Frm) (ns : List ByteArray) : ∀ k, k ≤ xs.length → ∀ x ∈ hidK xs ns k, x ∈ xs
  | 0, _, x, h => nomatch h
  | k + 1, hk, x, h => by
    have hk' : k < xs.length := hk
    cases he : hasS ns xs[k].fn
    · rw [hidK_yes hk' he] at h
      rcases List.mem_append.1 h with h | h
      · exact hidK_mem xs ns k (by omega) x h
      · simp at h; subst h; exact List.getElem_mem hk'
    · rw [hidK_no hk' he] at h
      exact hidK_mem xs ns k (by omega) x h
def hideX (xs : List Frm) (ns : List ByteArray) : List Frm := cond (vTr xs) (hidK xs ns xs.length) []
theorem hideX_of {xs : List Frm} {ns : List ByteArray} {p : Bool} (h : vTr xs = p) : hideX xs ns = cond p (hidK xs ns xs.length) [] := by unfold hideX; rw [h]
theorem hideX_len (xs : List Frm) (ns : List ByteArray) : (hideX xs ns).length ≤ 1048576 := by
  cases h : vTr xs
  · rw [hideX_of h]; simp
  · have := vTr_small h
    have h2 := hidK_len xs ns xs.length
    rw [hideX_of h]; show (hidK xs ns xs.length).length ≤ _; omega

set_option maxRecDepth 100000 in
theorem sHideFuncs_any (A B : Option Addr) (n c m d : Nat) (xs : List Frm) (ns : List ByteArray) (w : World) (hR : Sl w A n c xs) (hS : Sl w B m d ns) :
    Calls Try.prog 27 #[.slice A n c, .slice B m d] w fun e w' => ∃ v, e = .returned v ∧ Owd 28 w w' v (hideX xs ns) ∧ Le w w' := by
  obtain ⟨i0, hi, hz0, hz1, hz2⟩ := info_parts infoFrame
  cases h1 : vTr xs
  · have HX := Lib.hid (hideX_of (ns := ns) h1)
    go_enter Try.func27, Try.ntmps27
    go_wp2_with fail
    refine (validTrace_any _ _ _ xs _ hR).mono ?_
    rintro e w1 ⟨rfl, hle⟩
    rw [h1]
    go_wp2
    go_ret
    exact ⟨_, rfl, by rw [HX.out]; exact Owd.nil _ _ _, hle⟩
  · have hsm := vTr_small h1
    have HX := Lib.hid (hideX_of (ns := ns) h1)
    obtain rfl := hR.len
    have HOK := Lib.hid (fun x hx => hR.ok x (hidK_mem xs ns xs.length (Nat.le_refl _) x hx))
    go_enter Try.func27, Try.ntmps27
    go_wp2_with fail
    refine (validTrace_any _ _ _ xs _ hR).mono ?_
    rintro e w1 ⟨rfl, hle⟩
    rw [h1]
    have S1 := hR.le hle
    have S2 := hS.le hle
    clear h1 hR hS
    go_wp2
    go_loopw [5, 6] (fun v i wr => ∃ k : Nat, k ≤ xs.length ∧ i = .int .i64 k ∧ wr.ownsRow w1.heap.size 28 2 v (hidK xs ns k).length ((hidK xs ns k).flatMap Enc.cells) ∧ Le w1 wr) (fun _ i _ => xs.length - (intOf i).toNat)
    case atStart => exact ⟨0, Nat.zero_le _, rfl, own_empty (Nat.le_refl _) rfl, Le.new _ _⟩
    case round =>
      obtain ⟨k, hk, rfl, O1, hle1⟩ := hrel
      have SR := S1.le hle1
      have SN := S2.le hle1
      clear S1 S2
      by_cases hlt : k < xs.length
      · obtain ⟨b, off, rfl, hb, hcell0, hcell1, hns, hp1, hp2⟩ := SR.frm_at hlt
        have hll := hidK_len xs ns k
        have hsz := hle1.size
        cases he : hasS ns xs[k].fn
        · have HB := Lib.hid (hidK_yes hlt he)
          have hokx : Enc.ok xs[k] := ⟨hns, hp1, hp2⟩
          go_wp2_with (first | (go_at_call 64; refine (hasText_any _ _ _ ns _ _ SN).mono ?_; rintro e w' ⟨rfl, rfl⟩; rw [he]) | (at_builtin; refine wpList_append_sl rfl _ _ 23 rfl w1.heap.size 28 i0 _ 24 Try.underlying23 hi hz0 hz1 hz2 rfl _ _ (hidK xs ns k) rfl (O1.alloc _) _ 1 1 [xs[k]] rfl (sl_one xs[k] rfl hokx rfl) (by unfold maxLen; omega) (by omega) (hle1.alloc _).size ?_; intro v1 w3 O2 hg2 _; have L2 := (hle1.alloc _).grown hg2 (fun k hk => (O1.lt k hk).1); clear hg2))
          go_roundw
          case rel => exact ⟨k + 1, by omega, by go_num, by rw [HB.out, List.length_append]; exact O2, L2⟩
          case measure => simp [intOf]; omega
        · have HB := Lib.hid (hidK_no hlt he)
          go_wp2_with (go_at_call 64; refine (hasText_any _ _ _ ns _ _ SN).mono ?_; rintro e w' ⟨rfl, rfl⟩; rw [he])
          go_roundw
          case rel => exact ⟨k + 1, by omega, by go_num, by rw [HB.out]; exact O1, hle1⟩
          case measure => simp [intOf]; omega
      · obtain rfl : k = xs.length := by omega
        have HO := Lib.hid (⟨own_mono O1 hle.size, HOK.out⟩ : Owd 28 w wr _ (hidK xs ns xs.length))
        clear O1
        go_wp2
        go_ret
        exact ⟨_, rfl, by rw [HX.out]; exact HO.out, hle.trans hle1⟩
set_option maxRecDepth 100000 in
theorem iHideFuncs_any (A B : Option Addr) (n c m d : Nat) (xs : List Frm) (ns : List ByteArray) (w : World) (hR : Sl w A n c xs) (hS : Sl w B m d ns) :
    Calls Try.prog 26 #[.slice A n c, .slice B m d] w fun e w' => ∃ v, e = .returned v ∧ Owd 28 w w' v (hideX xs ns) ∧ Le w w' := by
  obtain ⟨i0, hi, hz0, hz1, hz2⟩ := info_parts infoFrame
  cases h1 : vTr xs
  · have HX := Lib.hid (hideX_of (ns := ns) h1)
    go_enter Try.func26, Try.ntmps26
    go_wp2_with fail
    refine (iValidTrace_any _ _ _ xs _ hR).mono ?_
    rintro e w1 ⟨rfl, hle⟩
    rw [h1]
    go_wp2
    go_ret
    exact ⟨_, rfl, by rw [HX.out]; exact Owd.nil _ _ _, hle⟩
  · have hsm := vTr_small h1
    have HX := Lib.hid (hideX_of (ns := ns) h1)
    obtain rfl := hR.len
    have HOK := Lib.hid (fun x hx => hR.ok x (hidK_mem xs ns xs.length (Nat.le_refl _) x hx))
    go_enter Try.func26, Try.ntmps26
    go_wp2_with fail
    refine (iValidTrace_any _ _ _ xs _ hR).mono ?_
    rintro e w1 ⟨rfl, hle⟩
    rw [h1]
    have S1 := hR.le hle
    have S2 := hS.le hle
    clear h1 hR hS
    go_wp2
    go_loopw [5, 13] (fun v i wr => ∃ k : Nat, k ≤ xs.length ∧ i = .int .i64 k ∧ wr.ownsRow w1.heap.size 28 2 v (hidK xs ns k).length ((hidK xs ns k).flatMap Enc.cells) ∧ Le w1 wr) (fun _ i _ => xs.length - (intOf i).toNat)
    case atStart => exact ⟨0, Nat.zero_le _, rfl, World.ownsRow_nil _ _ _ _, Le.refl _⟩
    case round =>
      obtain ⟨k, hk, rfl, O1, hle1⟩ := hrel
      have SR := S1.le hle1
      have SN := S2.le hle1
      clear S1 S2
      by_cases hlt : k < xs.length
      · obtain ⟨b, off, rfl, hb, hcell0, hcell1, hns, hp1, hp2⟩ := SR.frm_at hlt
        have hll := hidK_len xs ns k
        have hsz := hle1.size
        cases he : hasS ns xs[k].fn
        · have HB := Lib.hid (hidK_yes hlt he)
          have hokx : Enc.ok xs[k] := ⟨hns, hp1, hp2⟩
          go_wp2_with (first | (go_at_call 63; refine (iContainsS_any _ _ _ ns _ _ (SN.alloc _)).mono ?_; rintro e w' ⟨rfl, rfl⟩; rw [he]) | (at_builtin; refine wpList_append_sl rfl _ _ 23 rfl w1.heap.size 28 i0 _ 24 Try.underlying23 hi hz0 hz1 hz2 rfl _ _ (hidK xs ns k) rfl ((O1.alloc _).alloc _) _ 1 1 [xs[k]] rfl (sl_one xs[k] rfl hokx (by simp)) (by unfold maxLen; omega) (by omega) ((hle1.alloc _).alloc _).size ?_; intro v1 w3 O2 hg2 _; have L2 := ((hle1.alloc _).alloc _).grown hg2 (fun k hk => (O1.lt k hk).1); clear hg2))
          go_roundw
          case rel => exact ⟨k + 1, by omega, by go_num, by rw [HB.out, List.length_append]; exact O2, L2⟩
          case measure => simp [intOf]; omega
        · have HB := Lib.hid (hidK_no hlt he)
          go_wp2_with (go_at_call 63; refine (iContainsS_any _ _ _ ns _ _ (SN.alloc _)).mono ?_; rintro e w' ⟨rfl, rfl⟩; rw [he])
          go_roundw
          case rel => exact ⟨k + 1, by omega, by go_num, by rw [HB.out]; exact O1.alloc _, hle1.alloc _⟩
          case measure => simp [intOf]; omega
      · obtain rfl : k = xs.length := by omega
        have HO := Lib.hid (⟨own_mono O1 hle.size, HOK.out⟩ : Owd 28 w wr _ (hidK xs ns xs.length))
        clear O1
        go_wp2
        go_ret
        exact ⟨_, rfl, by rw [HX.out]; exact HO.out, hle.trans hle1⟩
end Go.Proofs.Ytakkmgeocmndjaa
