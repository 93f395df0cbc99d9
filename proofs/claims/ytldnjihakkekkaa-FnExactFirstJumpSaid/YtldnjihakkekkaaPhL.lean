/- programs: validChain of the model -/
import Derived.Test.YtldnjihakkekkaaPhJ
import Derived.Test.YtldnjihakkekkaaPhC
namespace Go.Proofs.Ytldnjihakkekkaa
open Go.RowKit
theorem chGo_lt (p : List Lin) : ∀ m k, ∀ x ∈ chGo p m k, x < p.length
  | 0, _, x, h => by simp [chGo] at h
  | m + 1, k, x, h => by
    unfold chGo at h
    split at h
    · rename_i hc
      rcases List.mem_cons.1 h with rfl | h
      · exact hc.1
      · exact chGo_lt p m _ x h
    · cases h
theorem chain_lt {p : List Lin} {i : Nat} (hi : i < p.length) : ∀ x ∈ chain p i, x < p.length := by
  intro x h
  rcases List.mem_cons.1 h with rfl | h
  · exact hi
  · exact chGo_lt p _ _ x h
def vDone (n : Nat) : Option Nat → Bool
  | none => false
  | some ex => decide (1 < n) && decide (ex ≤ 6)
theorem nI_at {L : List Nat} {k : Nat} (h : k < L.length) : (nI L)[k]'(by rw [nI_len]; exact h) = ((L[k] : Nat) : Int) := by unfold nI; simp
set_option maxHeartbeats 2000000 in
set_option maxRecDepth 100000 in
theorem validChain_any (A : Option Addr) (n cap : Nat) (p : List Lin) (i : Nat) (hi : i < p.length) (hsm : p.length ≤ 1048576) (w : World) (hR : Sl w A n cap p) :
    Calls Try.prog 59 #[.slice A n cap, .int .i64 i] w fun e w' => e = .returned (.bool (vChain p i)) ∧ Le w w' := by
  obtain rfl := hR.len
  go_enter Try.func59, Try.ntmps59
  go_wp2_with fail
  refine (chainOf_any A p.length cap p i hi hsm w hR).mono ?_
  rintro e w2 ⟨v, rfl, hO, hle⟩
  obtain ⟨A2, c2, rfl, S2, -⟩ := hO.form (by decide)
  have T2 := hR.le hle
  clear hO
  have HV0 : vChain p i = vDone (chain p i).length (vcGo p true 0 0 ((chain p i).drop 1)) := by
    unfold vChain vDone; rfl
  have hCl : 1 ≤ (chain p i).length := by unfold chain; simp
  have hCn := S2.n_le
  rw [nI_len] at hCn
  have HLT := Lib.hid (chain_lt hi)
  generalize chain p i = C at *
  generalize hRV : vChain p i = R at *
  have HV := Lib.hid HV0
  clear HV0 hR
  go_wp2
  go_loopw [6, 7] (fun ee kk wr => ∃ (k ex : Nat) (prev : Int), ee = .int .i64 ex ∧ kk = .int .i64 k ∧ 1 ≤ k ∧ k ≤ C.length ∧ ex ≤ k ∧ (∀ h : 1 < k, ∀ h2 : k - 1 < C.length, prev = knd p C[k - 1]) ∧ R = vDone C.length (vcGo p (decide (k = 1)) prev ex (C.drop k)) ∧ Le w2 wr) (fun _ kk _ => C.length - (intOf kk).toNat)
  case atStart => exact ⟨1, 0, 0, rfl, rfl, by omega, hCl, by omega, fun h => by omega, HV.out, Le.refl _⟩
  case round =>
    obtain ⟨k, ex, prev, rfl, rfl, hk1, hkC, hex, hp, he, hl⟩ := hrel
    have HE := Lib.hid he
    clear he HV
    have S := S2.le hl
    have T := T2.le hl
    have L := hle.trans hl
    have hk0 : (0 : Int) ≤ (k : Int) := by omega
    by_cases hk : k < C.length
    · have hki : k < (nI C).length := by rw [nI_len]; exact hk
      have hkl : (k : Int) < ((nI C).length : Int) := by omega
      obtain ⟨b, off, rfl, hb, s0, -⟩ := S.int_at hki
      rw [nI_at hk] at s0
      have hx := HLT.out _ (List.getElem_mem hk)
      have hD : C.drop k = C[k] :: C.drop (k + 1) := List.drop_eq_getElem_cons hk
      rw [hD] at HE
      obtain ⟨b2, off2, rfl, hb2, -, t1, -⟩ := T.lin_at hx
      have hkn := knd_at hx
      have hx0 : (0 : Int) ≤ ((C[k] : Nat) : Int) := by omega
      have hxn : ((C[k] : Nat) : Int) < (p.length : Int) := by omega
      have hwe : IntKind.i64.wrap ((ex : Int) + 1) = (ex : Int) + 1 := IntWalk.i64_in _ (by omega)
      have hex1 : (((ex : Int) + 1) == 0) = false := bf (by omega)
      by_cases h1 : k = 1
      · have hf1 : Hid (decide (k = 1) = true) := decide_eq_true h1
        have hd1 : decide ((1 : Int) < (k : Int)) = false := decide_eq_false (by omega)
        generalize p[C[k]].kind = kn at *
        generalize hxx : C[k] = x at *
        clear hp h1
        by_cases h8 : kn = 8
        · subst h8
          have hv : ¬ badV (decide (k = 1)) prev ex (knd p x) := (by unfold badV; rw [hkn, hf1.out, exN_8 rfl]; simp; try omega)
          have HN : Hid (R = vDone C.length (vcGo p false 8 (ex + 1) (C.drop (k + 1)))) := by show _ = _; rw [HE.out, vc_ok hv, hkn, exN_8 rfl]
          clear HE
          go_wp2
          go_roundw
          case rel => exact ⟨k + 1, (ex + 1), 8, by go_num, by go_num, by omega, by omega, by omega, fun _ _ => (by simp only [Nat.add_sub_cancel]; rw [hxx]; exact hkn.symm), (by rw [show decide (k + 1 = 1) = false from decide_eq_false (by omega)]; exact HN.out), hl⟩
          case measure => simp [intOf]; omega
        · by_cases h9 : kn = 9
          · subst h9
            by_cases hz : ex = 0
            · have hzb : ((ex : Int) == 0) = true := by (rw [beq_iff_eq]; omega)
              have hv : badV (decide (k = 1)) prev ex (knd p x) := (by unfold badV; rw [hkn, hf1.out, exN_no (by omega : (9 : Int) ≠ 8)]; simp; try omega)
              clear hz
              have HF : Hid (R = false) := by show _ = _; rw [HE.out, vc_bad hv]; rfl
              clear HE
              go_wp2
              go_ret
              first | exact ⟨ret_bool HF.out.symm, L⟩ | exact ⟨ret_bool (HF.out.symm.trans hRV.symm), L⟩
            · have hzb : ((ex : Int) == 0) = false := bf (by omega)
              have hv : ¬ badV (decide (k = 1)) prev ex (knd p x) := (by unfold badV; rw [hkn, hf1.out, exN_no (by omega : (9 : Int) ≠ 8)]; simp; try omega)
              have HN : Hid (R = vDone C.length (vcGo p false 9 ex (C.drop (k + 1)))) := by show _ = _; rw [HE.out, vc_ok hv, hkn, exN_no (by omega : (9 : Int) ≠ 8)]
              clear HE
              go_wp2
              go_roundw
              case rel => exact ⟨k + 1, ex, 9, by go_num, by go_num, by omega, by omega, by omega, fun _ _ => (by simp only [Nat.add_sub_cancel]; rw [hxx]; exact hkn.symm), (by rw [show decide (k + 1 = 1) = false from decide_eq_false (by omega)]; exact HN.out), hl⟩
              case measure => simp [intOf]; omega
          · have h8b := bf h8
            have h9b := bf h9
            have hv : ¬ badV (decide (k = 1)) prev ex (knd p x) := (by unfold badV; rw [hkn, hf1.out, exN_no h8]; simp; try omega)
            have HN : Hid (R = vDone C.length (vcGo p false kn ex (C.drop (k + 1)))) := by show _ = _; rw [HE.out, vc_ok hv, hkn, exN_no h8]
            clear HE
            go_wp2
            go_roundw
            case rel => exact ⟨k + 1, ex, kn, by go_num, by go_num, by omega, by omega, by omega, fun _ _ => (by simp only [Nat.add_sub_cancel]; rw [hxx]; exact hkn.symm), (by rw [show decide (k + 1 = 1) = false from decide_eq_false (by omega)]; exact HN.out), hl⟩
            case measure => simp [intOf]; omega
      · have hf1 : Hid (decide (k = 1) = false) := decide_eq_false h1
        have hd1 : decide ((1 : Int) < (k : Int)) = true := decide_eq_true (by omega)
        have hk2 : k - 1 < C.length := by omega
        have hki2 : k - 1 < (nI C).length := by rw [nI_len]; exact hk2
        have hwk : IntKind.i64.wrap ((k : Int) - 1) = ((k - 1 : Nat) : Int) := by rw [IntWalk.i64_in _ (by omega)]; omega
        have hkm0 : (0 : Int) ≤ ((k - 1 : Nat) : Int) := by omega
        have hkml : ((k - 1 : Nat) : Int) < ((nI C).length : Int) := by omega
        obtain ⟨b3, off3, e3, hb3, s1, -⟩ := S.int_at hki2
        cases e3
        rw [nI_at hk2] at s1
        have hy := HLT.out _ (List.getElem_mem hk2)
        obtain ⟨b4, off4, e4, hb4, -, u1, -⟩ := T.lin_at hy
        cases e4
        have hpv := hp (by omega) hk2
        rw [knd_at hy] at hpv
        have hy0 : (0 : Int) ≤ ((C[k - 1] : Nat) : Int) := by omega
        have hyn : ((C[k - 1] : Nat) : Int) < (p.length : Int) := by omega
        clear hp
        generalize p[C[k]].kind = kn at *
        generalize hxx : C[k] = x at *
        generalize p[C[k - 1]].kind = kp at *
        generalize C[k - 1] = y at *
        subst hpv
        by_cases h8 : kn = 8
        · subst h8
          by_cases hlt : (8 : Int) < prev
          · have hld : decide ((8 : Int) < prev) = true := decide_eq_true hlt
            have hv : badV (decide (k = 1)) prev ex (knd p x) := (by unfold badV; rw [hkn, hf1.out, exN_8 rfl]; simp; try omega)
            have HF : Hid (R = false) := by show _ = _; rw [HE.out, vc_bad hv]; rfl
            clear HE
            go_wp2
            go_ret
            first | exact ⟨ret_bool HF.out.symm, L⟩ | exact ⟨ret_bool (HF.out.symm.trans hRV.symm), L⟩
          · have hld : decide ((8 : Int) < prev) = false := decide_eq_false hlt
            by_cases heq : (8 : Int) = prev
            · have hqb : ((8 : Int) == prev) = true := by rw [beq_iff_eq]; exact heq
              have hv : ¬ badV (decide (k = 1)) prev ex (knd p x) := (by unfold badV; rw [hkn, hf1.out, exN_8 rfl]; simp; try omega)
              have HN : Hid (R = vDone C.length (vcGo p false 8 (ex + 1) (C.drop (k + 1)))) := by show _ = _; rw [HE.out, vc_ok hv, hkn, exN_8 rfl]
              clear HE
              go_wp2
              go_roundw
              case rel => exact ⟨k + 1, (ex + 1), 8, by go_num, by go_num, by omega, by omega, by omega, fun _ _ => (by simp only [Nat.add_sub_cancel]; rw [hxx]; exact hkn.symm), (by rw [show decide (k + 1 = 1) = false from decide_eq_false (by omega)]; exact HN.out), hl⟩
              case measure => simp [intOf]; omega
            · have hqb : ((8 : Int) == prev) = false := bf heq
              have hv : ¬ badV (decide (k = 1)) prev ex (knd p x) := (by unfold badV; rw [hkn, hf1.out, exN_8 rfl]; simp; try omega)
              have HN : Hid (R = vDone C.length (vcGo p false 8 (ex + 1) (C.drop (k + 1)))) := by show _ = _; rw [HE.out, vc_ok hv, hkn, exN_8 rfl]
              clear HE
              go_wp2
              go_roundw
              case rel => exact ⟨k + 1, (ex + 1), 8, by go_num, by go_num, by omega, by omega, by omega, fun _ _ => (by simp only [Nat.add_sub_cancel]; rw [hxx]; exact hkn.symm), (by rw [show decide (k + 1 = 1) = false from decide_eq_false (by omega)]; exact HN.out), hl⟩
              case measure => simp [intOf]; omega
        · by_cases h9 : kn = 9
          · subst h9
            by_cases hlt : (9 : Int) < prev
            · have hld : decide ((9 : Int) < prev) = true := decide_eq_true hlt
              have hv : badV (decide (k = 1)) prev ex (knd p x) := (by unfold badV; rw [hkn, hf1.out, exN_no (by omega : (9 : Int) ≠ 8)]; simp; try omega)
              have HF : Hid (R = false) := by show _ = _; rw [HE.out, vc_bad hv]; rfl
              clear HE
              go_wp2
              go_ret
              first | exact ⟨ret_bool HF.out.symm, L⟩ | exact ⟨ret_bool (HF.out.symm.trans hRV.symm), L⟩
            · have hld : decide ((9 : Int) < prev) = false := decide_eq_false hlt
              by_cases heq : (9 : Int) = prev
              · have hqb : ((9 : Int) == prev) = true := by rw [beq_iff_eq]; exact heq
                have hv : badV (decide (k = 1)) prev ex (knd p x) := (by unfold badV; rw [hkn, hf1.out, exN_no (by omega : (9 : Int) ≠ 8)]; simp; try omega)
                have HF : Hid (R = false) := by show _ = _; rw [HE.out, vc_bad hv]; rfl
                clear HE
                go_wp2
                go_ret
                first | exact ⟨ret_bool HF.out.symm, L⟩ | exact ⟨ret_bool (HF.out.symm.trans hRV.symm), L⟩
              · have hqb : ((9 : Int) == prev) = false := bf heq
                by_cases hz : ex = 0
                · have hzb : ((ex : Int) == 0) = true := by (rw [beq_iff_eq]; omega)
                  have hv : badV (decide (k = 1)) prev ex (knd p x) := (by unfold badV; rw [hkn, hf1.out, exN_no (by omega : (9 : Int) ≠ 8)]; simp; try omega)
                  clear hz
                  have HF : Hid (R = false) := by show _ = _; rw [HE.out, vc_bad hv]; rfl
                  clear HE
                  go_wp2
                  go_ret
                  first | exact ⟨ret_bool HF.out.symm, L⟩ | exact ⟨ret_bool (HF.out.symm.trans hRV.symm), L⟩
                · have hzb : ((ex : Int) == 0) = false := bf (by omega)
                  have hv : ¬ badV (decide (k = 1)) prev ex (knd p x) := (by unfold badV; rw [hkn, hf1.out, exN_no (by omega : (9 : Int) ≠ 8)]; simp; try omega)
                  have HN : Hid (R = vDone C.length (vcGo p false 9 ex (C.drop (k + 1)))) := by show _ = _; rw [HE.out, vc_ok hv, hkn, exN_no (by omega : (9 : Int) ≠ 8)]
                  clear HE
                  go_wp2
                  go_roundw
                  case rel => exact ⟨k + 1, ex, 9, by go_num, by go_num, by omega, by omega, by omega, fun _ _ => (by simp only [Nat.add_sub_cancel]; rw [hxx]; exact hkn.symm), (by rw [show decide (k + 1 = 1) = false from decide_eq_false (by omega)]; exact HN.out), hl⟩
                  case measure => simp [intOf]; omega
          · have h8b := bf h8
            have h9b := bf h9
            by_cases hlt : kn < prev
            · have hld : decide (kn < prev) = true := decide_eq_true hlt
              have hv : badV (decide (k = 1)) prev ex (knd p x) := (by unfold badV; rw [hkn, hf1.out, exN_no h8]; simp; try omega)
              have HF : Hid (R = false) := by show _ = _; rw [HE.out, vc_bad hv]; rfl
              clear HE
              go_wp2
              go_ret
              first | exact ⟨ret_bool HF.out.symm, L⟩ | exact ⟨ret_bool (HF.out.symm.trans hRV.symm), L⟩
            · have hld : decide (kn < prev) = false := decide_eq_false hlt
              by_cases heq : kn = prev
              · have hqb : (kn == prev) = true := by rw [beq_iff_eq]; exact heq
                have h8c : (kn != 8) = true := by simpa using h8
                have hv : badV (decide (k = 1)) prev ex (knd p x) := (by unfold badV; rw [hkn, hf1.out, exN_no h8]; simp; try omega)
                have HF : Hid (R = false) := by show _ = _; rw [HE.out, vc_bad hv]; rfl
                clear HE
                go_wp2
                go_ret
                first | exact ⟨ret_bool HF.out.symm, L⟩ | exact ⟨ret_bool (HF.out.symm.trans hRV.symm), L⟩
              · have hqb : (kn == prev) = false := bf heq
                have hv : ¬ badV (decide (k = 1)) prev ex (knd p x) := (by unfold badV; rw [hkn, hf1.out, exN_no h8]; simp; try omega)
                have HN : Hid (R = vDone C.length (vcGo p false kn ex (C.drop (k + 1)))) := by show _ = _; rw [HE.out, vc_ok hv, hkn, exN_no h8]
                clear HE
                go_wp2
                go_roundw
                case rel => exact ⟨k + 1, ex, kn, by go_num, by go_num, by omega, by omega, by omega, fun _ _ => (by simp only [Nat.add_sub_cancel]; rw [hxx]; exact hkn.symm), (by rw [show decide (k + 1 = 1) = false from decide_eq_false (by omega)]; exact HN.out), hl⟩
                case measure => simp [intOf]; omega
    · have hkl : ¬ (k : Int) < ((nI C).length : Int) := by rw [nI_len]; omega
      obtain rfl : k = C.length := by omega
      have HF : Hid (R = (decide (1 < C.length) && decide (ex ≤ 6))) := by
        show _ = _
        rw [HE.out, List.drop_length]; rfl
      clear HE
      by_cases hl1 : 1 < C.length
      · have hl1d : decide ((1 : Int) < ((nI C).length : Int)) = true := decide_eq_true (by rw [nI_len]; omega)
        have HF2 : Hid (R = decide ((ex : Int) ≤ 6)) := by
          show _ = _
          rw [HF.out, decide_eq_true hl1, Bool.true_and]; exact decide_eq_decide.2 (by omega)
        clear HF
        go_wp2
        go_ret
        exact ⟨ret_bool HF2.out.symm, L⟩
      · have hl1d : decide ((1 : Int) < ((nI C).length : Int)) = false := decide_eq_false (by rw [nI_len]; omega)
        have HF2 : Hid (R = false) := by
          show _ = _
          rw [HF.out, decide_eq_false hl1, Bool.false_and]
        clear HF
        go_wp2
        go_ret
        exact ⟨ret_bool HF2.out.symm, L⟩
end Go.Proofs.Ytldnjihakkekkaa
