import Derived.Test.YtdookbcnodghnaaV
namespace Go.Proofs.Ytdookbcnodghnaa
open Go.RowKit

def firstIs (xs : List Cls) (b : Int) : List Int → Int
  | [] => -1
  | x :: r => if isAL xs b x then x else firstIs xs b r
def commonX (xs : List Cls) (a b : Int) : Int := cond (okTree xs && hasK xs a && hasK xs b) (firstIs xs b (aboveL xs a)) (-1)
theorem commonX_of {xs : List Cls} {a b : Int} {t : Bool} (h : (okTree xs && hasK xs a && hasK xs b) = t) : commonX xs a b = cond t (firstIs xs b (aboveL xs a)) (-1) := by unfold commonX; rw [h]
theorem firstIs_at {xs : List Cls} {L : List Int} {k : Nat} (h : k < L.length) (b : Int) : firstIs xs b (L.drop k) = if isAL xs b L[k] then L[k] else firstIs xs b (L.drop (k + 1)) := by
  rw [List.drop_eq_getElem_cons h]; rfl
/-- the root is above all, and all is the root -/
theorem root_mem {xs : List Cls} (g : Good xs) : ∀ (m : Nat) (i : Nat), i = m → i < xs.length → (0 : Int) ∈ aboveL xs (i : Int) := by
  intro m
  induction m using Nat.strongRecOn with
  | _ m ih =>
    intro i hm hi
    rw [aboveL_at g hi]
    by_cases h0 : i = 0
    · subst h0; exact List.mem_cons_self
    · have hp := g.par i hi (by omega)
      obtain ⟨p, hpe⟩ := Int.eq_ofNat_of_zero_le hp.1
      rw [hpe]
      exact List.mem_cons_of_mem _ (ih p (by omega) p rfl (by omega))
theorem hasI_mem {L : List Int} {x : Int} (h : x ∈ L) : hasI L x = true := by
  induction L with
  | nil => cases h
  | cons z r ih =>
    rcases List.mem_cons.1 h with rfl | h
    · simp [hasI]
    · simp [hasI, ih h]
theorem isA_root {xs : List Cls} (g : Good xs) {b : Int} (h0 : 0 ≤ b) (hb : b < xs.length) : isAL xs b 0 = true := by
  obtain ⟨i, rfl⟩ := Int.eq_ofNat_of_zero_le h0
  exact hasI_mem (root_mem g i i rfl (by omega))

set_option maxRecDepth 100000 in
theorem sCommonClass_any (A : Option Addr) (n cap : Nat) (xs : List Cls) (a b : Int) (w : World) (hR : Sl w A n cap xs) :
    Calls Try.prog 33 #[.agg #[.slice A n cap], .int .i64 a, .int .i64 b] w fun e w' => e = .returned (.int .i64 (commonX xs a b)) ∧ Le w w' := by
  have hl := Le.new w (.cells #[.slice A n cap] 25)
  have c0 : (w.alloc (.cells #[.slice A n cap] 25)).cell? ⟨w.heap.size, 0, none⟩ = some (.slice A n cap) := by rw [World.cell?_alloc_at _ _ _ _ rfl]; rfl
  have hz : w.heap.size < (w.alloc (.cells #[.slice A n cap] 25)).heap.size := by simp
  have hS := hR.le hl
  cases h1 : okTree xs && hasK xs a
  · have HF := Lib.hid (commonX_of (xs := xs) (a := a) (b := b) (t := false) (by rw [h1]; rfl))
    go_enter Try.func33, Try.ntmps33
    go_wp2_with fail
    generalize w.alloc (.cells #[.slice A n cap] 25) = W at *
    refine (goodClass_any A n cap xs a _ hS).mono ?_
    rintro e w2 ⟨rfl, hle⟩
    rw [h1]
    clear h1
    go_wp2
    go_ret
    exact ⟨ret_int HF.out.symm, hl.trans hle⟩
  · cases h2 : hasK xs b
    · have HF := Lib.hid (commonX_of (xs := xs) (a := a) (b := b) (t := false) (by rw [h1, h2]; rfl))
      go_enter Try.func33, Try.ntmps33
      go_wp2_with fail
      generalize w.alloc (.cells #[.slice A n cap] 25) = W at *
      refine (goodClass_any A n cap xs a _ hS).mono ?_
      rintro e w2 ⟨rfl, hle⟩
      rw [h1]
      clear h1
      have c2 := (hle.cell hz).trans c0
      go_wp2_with fail
      refine (hasClass_any A n cap xs b _ (hS.le hle)).mono ?_
      rintro e w3 ⟨rfl, hle3⟩
      rw [h2]
      clear h2
      go_wp2
      go_ret
      exact ⟨ret_int HF.out.symm, (hl.trans hle).trans hle3⟩
    · have hab : okTree xs = true ∧ hasK xs a = true := by simpa using h1
      have g := good_of hab.1
      have hka := hasK_iff.1 hab.2
      have hkb := hasK_iff.1 h2
      have hhi := g.hi
      have HF := Lib.hid (commonX_of (xs := xs) (a := a) (b := b) (t := true) (by rw [h1, h2]; rfl))
      clear hab
      go_enter Try.func33, Try.ntmps33
      go_wp2_with fail
      generalize w.alloc (.cells #[.slice A n cap] 25) = W at *
      refine (goodClass_any A n cap xs a _ hS).mono ?_
      rintro e w2 ⟨rfl, hle⟩
      rw [h1]
      clear h1
      have c2 := (hle.cell hz).trans c0
      have hz2 := Nat.lt_of_lt_of_le hz hle.size
      go_wp2_with fail
      refine (hasClass_any A n cap xs b _ (hS.le hle)).mono ?_
      rintro e w3 ⟨rfl, hle3⟩
      rw [h2]
      clear h2
      have c3 := (hle3.cell hz2).trans c2
      have hz3 := Nat.lt_of_lt_of_le hz2 hle3.size
      have hl3 := (hl.trans hle).trans hle3
      go_wp2_with fail
      refine (above_any A n cap xs a _ (hR.le hl3) g hka.2 (by omega)).mono ?_
      rintro e w4 ⟨v, rfl, hown, hle4⟩
      obtain ⟨A4, q4, rfl⟩ : ∃ A c, v = .slice A (aboveL xs a).length c := by
        rcases hown.2 with ⟨h, h0⟩ | ⟨g, c, _, h, _⟩
        · exact ⟨none, 0, by rw [h0]; exact h⟩
        · exact ⟨_, c, h⟩
      have hSa : Sl w4 A4 (aboveL xs a).length q4 (aboveL xs a) := Sl.of_own hown rfl (by decide) (above_ok g hka.2)
      have c4 := (hle4.cell hz3).trans c3
      have hz4 := Nat.lt_of_lt_of_le hz3 hle4.size
      have hl4 := hl3.trans hle4
      have hroot : (0 : Int) ∈ aboveL xs a := by
        obtain ⟨i, rfl⟩ := Int.eq_ofNat_of_zero_le hka.1
        exact root_mem g i i rfl (by omega)
      have HRT := Lib.hid hroot
      have HRB := Lib.hid (isA_root g hkb.1 hkb.2)
      have hln := aboveL_len g _ a rfl hka.2
      have HAM := Lib.hid (aboveL_mem g _ a rfl hka.2)
      clear hroot hown c0 c2 c3 hz hz2 hz3 hle hle3 hle4 hl hl3
      go_wp2
      go_loopw [8] (fun q wr => ∃ k : Nat, k < (aboveL xs a).length ∧ q = .int .i64 k ∧ firstIs xs b (aboveL xs a) = firstIs xs b ((aboveL xs a).drop k) ∧ (0 : Int) ∈ (aboveL xs a).drop k ∧ Le w4 wr) (fun q _ => (aboveL xs a).length - (intOf q).toNat)
      case atStart => exact ⟨0, by have := List.length_pos_of_mem HRT.out; omega, rfl, rfl, HRT.out, Le.refl _⟩
      case round =>
        obtain ⟨k, hk, rfl, hr, hm, hle⟩ := hrel
        have HR := Lib.hid hr; clear hr
        have cr := (hle.cell hz4).trans c4
        have hzr := Nat.lt_of_lt_of_le hz4 hle.size
        have hwr := hl4.trans hle
        obtain ⟨bb, off, rfl, hb, hcell, _, _⟩ := (hSa.le hle).int_at hk
        have E1 := cell_ext hzr cr
        have E2 := cell_ext hb hcell
        have hRr := hR.le hwr
        have hlm := HAM.out _ (List.getElem_mem hk)
        have HD := Lib.hid (List.drop_eq_getElem_cons hk)
        cases hi1 : isAL xs b (aboveL xs a)[k]
        · have HF1 : Hid (firstIs xs b (aboveL xs a) = firstIs xs b ((aboveL xs a).drop (k + 1))) := by show _ = _; rw [HR.out, firstIs_at hk, hi1]; rfl
          have HM : Hid ((0 : Int) ∈ (aboveL xs a).drop (k + 1)) := by
            show _ ∈ _
            rw [HD.out] at hm
            rcases List.mem_cons.1 hm with h | h
            · rw [← h, HRB.out] at hi1; cases hi1
            · exact h
          have HK : Hid (k + 1 < (aboveL xs a).length) := by
            have := List.length_pos_of_mem HM.out
            rw [List.length_drop] at this
            show _ < _; omega
          clear hm
          go_wp2_with fail
          refine wp_region_ext (by kernel_rfl) (by kernel_rfl) ?_
          repeat (go_big_quiet_step (first | (go_at_call 68; exact Calls.ext_of (Calls.val (isA_any _ _ _ xs b _ _ (hRr.ext _) g hkb.2 (by omega)) (vb hi1)))))
          refine wpQuiet_nil ?_
          intro _ hw'
          obtain ⟨gx, rfl⟩ := hw'
          have hgx := hle.trans (Le.ext wr gx)
          generalize wr.ext gx = W2 at *
          go_wp2
          go_roundw
          case rel => exact ⟨k + 1, HK.out, by go_num, HF1.out, HM.out, hgx⟩
          case measure => have := HK.out; simp [intOf]; omega
        · have HF1 : Hid (commonX xs a b = (aboveL xs a)[k]) := by show _ = _; rw [HF.out]; show firstIs xs b (aboveL xs a) = _; rw [HR.out, firstIs_at hk, hi1]; rfl
          clear hm
          go_wp2_with fail
          refine wp_region_ext (by kernel_rfl) (by kernel_rfl) ?_
          repeat (go_big_quiet_step (first | (go_at_call 68; exact Calls.ext_of (Calls.val (isA_any _ _ _ xs b _ _ (hRr.ext _) g hkb.2 (by omega)) (vb hi1)))))
          refine wpQuiet_nil ?_
          intro _ hw'
          obtain ⟨gx, rfl⟩ := hw'
          have hgx := hle.trans (Le.ext wr gx)
          have hc2 := E2 gx
          generalize wr.ext gx = W2 at *
          go_wp2
          go_ret
          exact ⟨ret_int HF1.out.symm, hl4.trans hgx⟩
end Go.Proofs.Ytdookbcnodghnaa
