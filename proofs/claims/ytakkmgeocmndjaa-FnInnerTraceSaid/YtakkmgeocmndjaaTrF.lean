/- InnerTrace of the model and of the program -/
import Derived.Test.YtakkmgeocmndjaaTrD
namespace Go.Proofs.Ytakkmgeocmndjaa
open Go.RowKit
/-- the last one of the first k frames with the name, -1 if there is none -/
def lastF (xs : List Frm) (s : ByteArray) : Nat → Int
  | 0 => -1
  | k + 1 => if (xs.getD k ⟨ByteArray.empty, 0⟩).fn = s then (k : Int) else lastF xs s k
theorem lastF_yes {xs : List Frm} {s : ByteArray} {k : Nat} (hk : k < xs.length) (h : xs[k].fn = s) : lastF xs s (k + 1) = k := by
  rw [lastF, List.getD_eq_getElem?_getD, List.getElem?_eq_getElem hk, Option.getD_some, if_pos h]
theorem lastF_no {xs : List Frm} {s : ByteArray} {k : Nat} (hk : k < xs.length) (h : ¬ xs[k].fn = s) : lastF xs s (k + 1) = lastF xs s k := by
  rw [lastF, List.getD_eq_getElem?_getD, List.getElem?_eq_getElem hk, Option.getD_some, if_neg h]
theorem lastF_range (xs : List Frm) (s : ByteArray) : ∀ k, lastF xs s k = -1 ∨ (0 ≤ lastF xs s k ∧ lastF xs s k < k)
  | 0 => .inl rfl
  | k + 1 => by
    unfold lastF
    have := lastF_range xs s k
    split <;> omega
def innI (xs : List Frm) (s : ByteArray) : Int := lastF xs s xs.length
def innOk (xs : List Frm) (s : ByteArray) : Bool := vTr xs && decide (0 ≤ innI xs s)
def innX (xs : List Frm) (s : ByteArray) : List Frm := cond (innOk xs s) (xs.drop (innI xs s).toNat) []
theorem innX_len (xs : List Frm) (s : ByteArray) : (innX xs s).length ≤ 1048576 := by
  cases h : innOk xs s
  · unfold innX; rw [h]; simp
  · have h2 := h
    unfold innOk at h2; simp at h2
    have := vTr_small h2.1
    unfold innX; rw [h]; simp; omega
theorem innOk_bad {xs : List Frm} {s : ByteArray} (h : vTr xs = false) : innOk xs s = false := by unfold innOk; rw [h]; rfl
theorem inn_none {xs : List Frm} {s : ByteArray} (h : innI xs s = -1) : innOk xs s = false := by unfold innOk; rw [h]; simp
theorem inn_some {xs : List Frm} {s : ByteArray} {k : Nat} (h0 : vTr xs = true) (h : innI xs s = k) : innOk xs s = true ∧ innX xs s = xs.drop k := by
  have h1 : innOk xs s = true := by unfold innOk; rw [h, h0]; simp
  exact ⟨h1, by unfold innX; rw [h1, h]; rfl⟩
theorem inn_no {xs : List Frm} {s : ByteArray} (h : innOk xs s = false) : innX xs s = [] := by unfold innX; rw [h]; rfl

set_option maxRecDepth 100000 in
theorem sInnerTrace_any (A : Option Addr) (n c : Nat) (xs : List Frm) (s : ByteArray) (w : World) (hR : Sl w A n c xs) :
    Calls Try.prog 50 #[.slice A n c, .string s] w fun e w' => ∃ v, e = .returned (.tuple #[v, .bool (innOk xs s)]) ∧ Owd 28 w w' v (innX xs s) ∧ Le w w' := by
  cases h1 : vTr xs
  · have HF := Lib.hid (innOk_bad (s := s) h1)
    have HX := Lib.hid (inn_no HF.out)
    go_enter Try.func50, Try.ntmps50
    go_wp2_with fail
    refine (validTrace_any _ _ _ xs _ hR).mono ?_
    rintro e w1 ⟨rfl, hle⟩
    rw [h1]
    go_wp2
    exact bodyPost_ret (v := .tuple #[.slice none 0 0, .bool false]) (by simp [results, Try.results50, go_sem]) rfl ⟨_, by rw [HF.out], by rw [HX.out]; exact Owd.nil _ _ _, hle⟩
  · have hsm := vTr_small h1
    have hcp := hR.cap_
    have hmx := hR.max
    obtain rfl := hR.len
    have H1 := Lib.hid h1
    go_enter Try.func50, Try.ntmps50
    go_wp2_with fail
    refine (validTrace_any _ _ _ xs _ hR).mono ?_
    rintro e w1 ⟨rfl, hle⟩
    rw [h1]
    have S1 := hR.le hle
    clear h1 hR
    have hwn : IntKind.i64.wrap ((xs.length : Int) - 1) = (xs.length : Int) - 1 := IntWalk.i64_in _ (by omega)
    go_wp2
    go_loop [6] (fun i => ∃ k : Nat, ∃ z : Int, k ≤ xs.length ∧ i = .int .i64 z ∧ z = (k : Int) - 1 ∧ innI xs s = lastF xs s k) (fun i => (intOf i + 1).toNat)
    case atStart => exact ⟨xs.length, _, Nat.le_refl _, rfl, rfl, rfl⟩
    case round =>
      obtain ⟨k, z, hk, rfl, hz, hr⟩ := hrel
      have HR := Lib.hid hr; clear hr hwn
      cases k with
      | zero =>
        obtain rfl : z = -1 := by omega
        clear hz hk
        have HF := Lib.hid (inn_none HR.out)
        have HX := Lib.hid (inn_no HF.out)
        go_wp2
        exact bodyPost_ret (v := .tuple #[.slice none 0 0, .bool false]) (by simp [results, Try.results50, go_sem]) rfl ⟨_, by rw [HF.out], by rw [HX.out]; exact (Owd.nil _ _ _), hle⟩
      | succ j =>
        obtain rfl : z = j := by omega
        have hj : j < xs.length := hk
        clear hz
        obtain ⟨b, off, rfl, hb, hcell0, hcell1, hns, hp1, hp2⟩ := S1.frm_at hj
        by_cases he : xs[j].fn = s
        · have he' := str_eq he
          have HS := inn_some H1.out (HR.out.trans (lastF_yes hj he))
          have HF := Lib.hid HS.1
          have HX := Lib.hid HS.2
          clear HS he HR
          have hcj : ¬ c = j := by omega
          have hjl : j ≤ xs.length := by omega
          have hjc : j ≤ c := by omega
          have S3 : Sl w1 (some ⟨b, off + j * 2, none⟩) (xs.length - j) (c - j) (xs.drop j) := S1.dropK j hjl
          go_wp2_with fail
          refine (copyFrames_any _ _ _ (xs.drop j) _ S3 (by omega)).mono ?_
          rintro e w4 ⟨v, rfl, D, hle2⟩
          replace D := D.mono hle
          have LZ := hle.trans hle2
          clear hle hle2
          go_wp2
          exact bodyPost_ret (v := .tuple #[v, .bool true]) (by simp [results, Try.results50, go_sem]) rfl ⟨_, by rw [HF.out], by rw [HX.out]; exact D, LZ⟩
        · have he' := str_ne he
          have HN := Lib.hid (HR.out.trans (lastF_no hj he))
          clear HR he
          go_wp2
          go_round
          case rel => exact ⟨j, (j : Int) - 1, by omega, by go_num, rfl, HN.out⟩
          case measure => (simp [intOf]) <;> omega
set_option maxRecDepth 100000 in
theorem iInnerTrace_any (A : Option Addr) (n c : Nat) (xs : List Frm) (s : ByteArray) (w : World) (hR : Sl w A n c xs) :
    Calls Try.prog 49 #[.slice A n c, .string s] w fun e w' => ∃ v, e = .returned (.tuple #[v, .bool (innOk xs s)]) ∧ OwdW 28 w w' v (innX xs s) ∧ Le w w' := by
  cases h1 : vTr xs
  · have HF := Lib.hid (innOk_bad (s := s) h1)
    have HX := Lib.hid (inn_no HF.out)
    go_enter Try.func49, Try.ntmps49
    go_wp2_with fail
    refine (iValidTrace_any _ _ _ xs _ hR).mono ?_
    rintro e w1 ⟨rfl, hle⟩
    rw [h1]
    go_wp2
    exact bodyPost_ret (v := .tuple #[.slice none 0 0, .bool false]) (by simp [results, Try.results49, go_sem]) rfl ⟨_, by rw [HF.out], by rw [HX.out]; exact OwdW.of (Owd.nil _ _ _), hle⟩
  · have hsm := vTr_small h1
    have hcp := hR.cap_
    have hmx := hR.max
    obtain rfl := hR.len
    have H1 := Lib.hid h1
    have hok := Lib.hid hR.ok
    go_enter Try.func49, Try.ntmps49
    go_wp2_with fail
    refine (iValidTrace_any _ _ _ xs _ hR).mono ?_
    rintro e w1 ⟨rfl, hle⟩
    rw [h1]
    have S1 := hR.le hle
    clear h1 hR
    have hwn : IntKind.i64.wrap ((xs.length : Int) - 1) = (xs.length : Int) - 1 := IntWalk.i64_in _ (by omega)
    go_wp2
    go_loop [6] (fun i => ∃ k : Nat, ∃ z : Int, k ≤ xs.length ∧ i = .int .i64 z ∧ z = (k : Int) - 1 ∧ innI xs s = lastF xs s k) (fun i => (intOf i + 1).toNat)
    case atStart => exact ⟨xs.length, _, Nat.le_refl _, rfl, rfl, rfl⟩
    case round =>
      obtain ⟨k, z, hk, rfl, hz, hr⟩ := hrel
      have HR := Lib.hid hr; clear hr hwn
      cases k with
      | zero =>
        obtain rfl : z = -1 := by omega
        clear hz hk
        have HF := Lib.hid (inn_none HR.out)
        have HX := Lib.hid (inn_no HF.out)
        go_wp2
        exact bodyPost_ret (v := .tuple #[.slice none 0 0, .bool false]) (by simp [results, Try.results49, go_sem]) rfl ⟨_, by rw [HF.out], by rw [HX.out]; exact OwdW.of (Owd.nil _ _ _), hle⟩
      | succ j =>
        obtain rfl : z = j := by omega
        have hj : j < xs.length := hk
        clear hz
        obtain ⟨b, off, rfl, hb, hcell0, hcell1, hns, hp1, hp2⟩ := S1.frm_at hj
        by_cases he : xs[j].fn = s
        · have he' := str_eq he
          have HS := inn_some H1.out (HR.out.trans (lastF_yes hj he))
          have HF := Lib.hid HS.1
          have HX := Lib.hid HS.2
          clear HS he HR
          have hcj : ¬ c = j := by omega
          have hjl : j ≤ xs.length := by omega
          have hjc : j ≤ c := by omega
          go_wp2_with fail
          refine (cutFrames_any _ _ _ xs j _ S1 (by omega) (by omega)).mono ?_
          rintro e w2 ⟨rfl, O, hle2⟩
          have HD := Lib.hid (cut_rest (n := xs.length) (k := j) O rfl (by omega) hok.out (by omega) hle)
          have LZ := hle.trans hle2
          clear O hle hle2
          generalize cutP w1.heap.size xs.length j = PP at *
          go_wp2
          exact bodyPost_ret (v := .tuple #[.slice PP (xs.length - j) (xs.length - j), .bool true]) (by simp [results, Try.results49, go_sem]) rfl ⟨_, by rw [HF.out], by rw [HX.out]; exact HD.out, LZ⟩
        · have he' := str_ne he
          have HN := Lib.hid (HR.out.trans (lastF_no hj he))
          clear HR he
          go_wp2
          go_round
          case rel => exact ⟨j, (j : Int) - 1, by omega, by go_num, rfl, HN.out⟩
          case measure => (simp [intOf]) <;> omega
end Go.Proofs.Ytakkmgeocmndjaa
