/- the law FnInnerTrace -/
import Derived.Test.YtakkmgeocmndjaaFnLinesOf
import Derived.Test.YtakkmgeocmndjaaTrF
namespace Go.Proofs.Ytakkmgeocmndjaa
open Go.RowKit
theorem last_lin (xs : List Frm) (s : ByteArray) (j : Nat) (hj : j < xs.length) : lastF xs s xs.length = j → xs[j].fn = s ∧ (linK (xs.drop j) s (xs.drop j).length).length = 1 := by
  have gen : ∀ k, k ≤ xs.length → lastF xs s k = j → j < k ∧ xs[j].fn = s ∧ ∀ i, j < i → i < k → ∀ h : i < xs.length, xs[i].fn ≠ s := by
    intro k
    induction k with
    | zero => intro _ h; simp [lastF] at h
    | succ k ih =>
      intro hk h
      have hk' : k < xs.length := hk
      by_cases he : xs[k].fn = s
      · rw [lastF_yes hk' he] at h
        have e : k = j := by omega
        subst e
        exact ⟨by omega, he, fun i h1 h2 => by omega⟩
      · rw [lastF_no hk' he] at h
        obtain ⟨a, b, c⟩ := ih (by omega) h
        refine ⟨by omega, b, fun i h1 h2 hi => ?_⟩
        by_cases e : i = k
        · subst e; exact he
        · exact c i h1 (by omega) hi
  intro h
  obtain ⟨_, hf, hn⟩ := gen xs.length (Nat.le_refl _) h
  refine ⟨hf, ?_⟩
  have g2 : ∀ k, k + 1 ≤ (xs.drop j).length → (linK (xs.drop j) s (k + 1)).length = 1 := by
    intro k
    induction k with
    | zero =>
      intro hk
      rw [linK_yes (by omega) (by rw [List.getElem_drop]; exact hf)]
      rfl
    | succ k ih =>
      intro hk
      rw [linK_no (by omega) (by rw [List.getElem_drop]; exact hn _ (by omega) (by rw [List.length_drop] at hk; omega) _)]
      exact ih (by omega)
  have hl : (xs.drop j).length = (xs.length - j - 1) + 1 := by rw [List.length_drop]; omega
  rw [hl]
  exact g2 _ (by omega)
set_option maxHeartbeats 1000000 in
set_option maxRecDepth 100000 in
theorem fnInnerTrace_walk (A : Option Addr) (n cap : Nat) (bs : List By) (w : World) (hR : Sl w A n cap bs) :
    Calls Try.prog 13 #[.slice A n cap] w fun e w' => e = .returned (.bool true) ∧ Le w w' := by
  have hm := hR.n_le
  by_cases hbig : 1048576 < n
  · go_enter Try.func13, Try.ntmps13
    go_wp2
    go_ret
    exact ⟨rfl, Le.refl w⟩
  go_enter Try.func13, Try.ntmps13
  go_wp2_with fail
  refine (drawInnerTrace_any A n cap bs w hR).mono ?_
  rintro e w1 ⟨B, m, c, xs, s, rfl, S, hm8, hs, L0⟩
  go_wp2_with fail
  refine (Calls.sl2W (by decide) (iInnerTrace_any _ _ _ xs s _ S)).mono ?_
  rintro e w2 ⟨A3, c3, rfl, S3, hle⟩
  replace S := S.le hle
  replace L0 := L0.trans hle
  clear hle
  go_wp2_with fail
  refine (Calls.sl2 (by decide) (sInnerTrace_any _ _ _ xs s _ S)).mono ?_
  rintro e w3 ⟨A4, c4, rfl, S4, hle⟩
  replace S := S.le hle
  replace S3 := S3.le hle
  replace L0 := L0.trans hle
  clear hle
  go_wp2_with fail
  refine (equalTrace_self _ _ _ _ _ _ _ S3 S4).mono ?_
  rintro e w4 ⟨rfl, hle⟩
  replace S := S.le hle
  replace S3 := S3.le hle
  replace S4 := S4.le hle
  replace L0 := L0.trans hle
  clear hle
  cases h1 : innOk xs s
  · go_wp2_with fail
    refine (equalTrace_self _ _ _ _ _ _ _ S3 S4).mono ?_
    rintro e w5 ⟨rfl, hle⟩
    replace L0 := L0.trans hle
    clear hle
    go_wp2
    go_ret
    exact ⟨rfl, L0⟩
  · have hlen := S.len
    have h2 := h1
    unfold innOk at h2
    simp at h2
    have hrg := lastF_range xs s xs.length
    obtain ⟨j, hj⟩ : ∃ j : Nat, innI xs s = j := ⟨(innI xs s).toNat, by omega⟩
    have hjl : j < xs.length := by
      have e : lastF xs s xs.length = (j : Int) := hj
      omega
    have hX : innX xs s = xs.drop j := (inn_some h2.1 hj).2
    obtain ⟨hfn, hone⟩ := last_lin xs s j hjl hj
    have hv : vTr (xs.drop j) = true := vTr_of (fun f hf => vTr_all h2.1 f (List.mem_of_mem_drop hf)) (by have := vTr_small h2.1; simp; omega)
    have hL : (linX (xs.drop j) s).length = 1 := by rw [linX_of hv]; exact hone
    have hdl : (xs.drop j).length = m - j := by rw [List.length_drop, hlen]
    have hT : trimX xs (-((m - j : Nat) : Int)) = xs.drop j := by
      rw [trimX_of h2.1]
      show trimR xs _ = _
      by_cases h0 : j = 0
      · subst h0
        exact (trim_all (.inr ⟨by omega, by omega⟩)).trans rfl
      · exact trim_neg (by omega) (by omega) (by omega)
    have hjm : j < m := by omega
    rw [hX, hdl] at S3 S4 ⊢
    have h0 : (xs.drop j)[0]'(by rw [hdl]; omega) = xs[j] := by rw [List.getElem_drop]; rfl
    obtain ⟨b, off, rfl, hb, hcell0, hcell1, -⟩ := S3.frm_at (k := 0) (by rw [hdl]; omega)
    rw [h0] at hcell0 hcell1
    simp only [Nat.zero_mul, Nat.add_zero] at hcell0 hcell1
    have hstr := str_eq hfn
    have HL := Lib.hid hL
    have HT := Lib.hid hT
    have hpos : 0 < m - j := by omega
    have hw : IntKind.i64.wrap (-((m - j : Nat) : Int)) = -((m - j : Nat) : Int) := IntWalk.i64_in _ (by omega)
    have HDL := Lib.hid hdl
    have hq12 : m - j ≤ 12 := by omega
    clear hX hdl hL hT h0 hone hv h2 hrg hj h1 S4 hfn
    generalize m - j = q at *
    go_wp2_with fail
    refine (Calls.sl1 (by decide) (iLinesOf_any _ _ _ (xs.drop j) s _ S3)).mono ?_
    rintro e w5 ⟨A5, c5, rfl, _, hle⟩
    rw [HL.out]
    replace S := S.le hle
    replace S3 := S3.le hle
    replace L0 := L0.trans hle
    clear hle hcell0 hcell1
    go_wp2_with fail
    refine (Calls.sl1W (by decide) (iTrimTrace_any _ _ _ xs (-(q : Int)) _ S ⟨by omega, by omega⟩)).mono ?_
    rintro e w6 ⟨A6, c6, rfl, S6, hle⟩
    rw [HT.out, HDL.out] at S6 ⊢
    replace S3 := S3.le hle
    replace L0 := L0.trans hle
    clear hle S
    go_wp2_with fail
    refine (equalTrace_self _ _ _ _ _ _ _ S6 S3).mono ?_
    rintro e w7 ⟨rfl, hle⟩
    go_wp2
    go_ret
    exact ⟨rfl, L0.trans hle⟩
end Go.Proofs.Ytakkmgeocmndjaa
