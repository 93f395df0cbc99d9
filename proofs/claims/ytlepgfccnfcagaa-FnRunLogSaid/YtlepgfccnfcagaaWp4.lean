/- one text of PhL, PhE, PhH, PhP, PhK -/
import Derived.Test.YtlepgfccnfcagaaWp3
import Derived.Test.YtlepgfccnfcagaaWp2
import Derived.Deep.Cut
namespace Go.Proofs.Ytlepgfccnfcagaa
open Go.RowKit
set_option linter.unusedVariables false
section
theorem chGo_lt (p : List Lin) : ∀ m k, ∀ x ∈ chGo p m k, x < p.length
  | 0, _, x, h => by simp [chGo] at h
  | m + 1, k, x, h => by
    unfold chGo at h
    split at h
    · rename_i hc
      rcases List.mem_cons.1 h with rfl | h
      · exact hc.1
      · exact chGo_lt p m _ x h
    · cases h
theorem chain_lt {p : List Lin} {i : Nat} (hi : i < p.length) : ∀ x ∈ chain p i, x < p.length := by
  intro x h
  rcases List.mem_cons.1 h with rfl | h
  · exact hi
  · exact chGo_lt p _ _ x h
def vDone (n : Nat) : Option Nat → Bool
  | none => false
  | some ex => decide (1 < n) && decide (ex ≤ 6)
theorem nI_at {L : List Nat} {k : Nat} (h : k < L.length) : (nI L)[k]'(by rw [nI_len]; exact h) = ((L[k] : Nat) : Int) := by unfold nI; simp
set_option maxHeartbeats 2000000 in
set_option maxRecDepth 100000 in
theorem validChain_any (A : Option Addr) (n cap : Nat) (p : List Lin) (i : Nat) (hi : i < p.length) (hsm : p.length ≤ 1048576) (w : World) (hR : Sl w A n cap p) :
    Calls Try.prog 90 #[.slice A n cap, .int .i64 i] w fun e w' => e = .returned (.bool (vChain p i)) ∧ Le w w' := by
  obtain rfl := hR.len
  go_enter Try.func90, Try.ntmps90
  go_wp2_with fail
  refine (chainOf_any A p.length cap p i hi hsm w hR).mono ?_
  rintro e w2 ⟨v, rfl, hO, hle⟩
  obtain ⟨A2, c2, rfl, S2, -⟩ := hO.form (by decide)
  have T2 := hR.le hle
  clear hO
  have HV0 : vChain p i = vDone (chain p i).length (vcGo p true 0 0 ((chain p i).drop 1)) := by
    unfold vChain vDone; rfl
  have hCl : 1 ≤ (chain p i).length := by unfold chain; simp
  have hCn := S2.n_le
  rw [nI_len] at hCn
  have HLT := Lib.hid (chain_lt hi)
  generalize chain p i = C at *
  generalize hRV : vChain p i = R at *
  have HV := Lib.hid HV0
  clear HV0 hR
  go_wp2
  go_loopw [6, 7] (fun ee kk wr => ∃ (k ex : Nat) (prev : Int), ee = .int .i64 ex ∧ kk = .int .i64 k ∧ 1 ≤ k ∧ k ≤ C.length ∧ ex ≤ k ∧ (∀ h : 1 < k, ∀ h2 : k - 1 < C.length, prev = knd p C[k - 1]) ∧ R = vDone C.length (vcGo p (decide (k = 1)) prev ex (C.drop k)) ∧ Le w2 wr) (fun _ kk _ => C.length - (intOf kk).toNat)
  case atStart => exact ⟨1, 0, 0, rfl, rfl, by omega, hCl, by omega, fun h => by omega, HV.out, Le.refl _⟩
  case round =>
    obtain ⟨k, ex, prev, rfl, rfl, hk1, hkC, hex, hp, he, hl⟩ := hrel
    have HE := Lib.hid he
    clear he HV
    have S := S2.le hl
    have T := T2.le hl
    have L := hle.trans hl
    have hk0 : (0 : Int) ≤ (k : Int) := by omega
    by_cases hk : k < C.length
    · have hki : k < (nI C).length := by rw [nI_len]; exact hk
      have hkl : (k : Int) < ((nI C).length : Int) := by omega
      obtain ⟨b, off, rfl, hb, s0, -⟩ := S.int_at hki
      rw [nI_at hk] at s0
      have hx := HLT.out _ (List.getElem_mem hk)
      have hD : C.drop k = C[k] :: C.drop (k + 1) := List.drop_eq_getElem_cons hk
      rw [hD] at HE
      obtain ⟨b2, off2, rfl, hb2, -, t1, -⟩ := T.lin_at hx
      have hkn := knd_at hx
      have hx0 : (0 : Int) ≤ ((C[k] : Nat) : Int) := by omega
      have hxn : ((C[k] : Nat) : Int) < (p.length : Int) := by omega
      have hwe : IntKind.i64.wrap ((ex : Int) + 1) = (ex : Int) + 1 := IntWalk.i64_in _ (by omega)
      have hex1 : (((ex : Int) + 1) == 0) = false := bf (by omega)
      by_cases h1 : k = 1
      · have hf1 : Hid (decide (k = 1) = true) := decide_eq_true h1
        have hd1 : decide ((1 : Int) < (k : Int)) = false := decide_eq_false (by omega)
        generalize p[C[k]].kind = kn at *
        generalize hxx : C[k] = x at *
        clear hp h1
        by_cases h8 : kn = 8
        · subst h8
          have hv : ¬ badV (decide (k = 1)) prev ex (knd p x) := (by unfold badV; rw [hkn, hf1.out, exN_8 rfl]; simp; try omega)
          have HN : Hid (R = vDone C.length (vcGo p false 8 (ex + 1) (C.drop (k + 1)))) := by show _ = _; rw [HE.out, vc_ok hv, hkn, exN_8 rfl]
          clear HE
          go_wp2
          go_roundw
          case rel => exact ⟨k + 1, (ex + 1), 8, by go_num, by go_num, by omega, by omega, by omega, fun _ _ => (by simp only [Nat.add_sub_cancel]; rw [hxx]; exact hkn.symm), (by rw [show decide (k + 1 = 1) = false from decide_eq_false (by omega)]; exact HN.out), hl⟩
          case measure => simp [intOf]; omega
        · by_cases h9 : kn = 9
          · subst h9
            by_cases hz : ex = 0
            · have hzb : ((ex : Int) == 0) = true := by (rw [beq_iff_eq]; omega)
              have hv : badV (decide (k = 1)) prev ex (knd p x) := (by unfold badV; rw [hkn, hf1.out, exN_no (by omega : (9 : Int) ≠ 8)]; simp; try omega)
              clear hz
              have HF : Hid (R = false) := by show _ = _; rw [HE.out, vc_bad hv]; rfl
              clear HE
              go_wp2
              go_ret
              first | exact ⟨ret_bool HF.out.symm, L⟩ | exact ⟨ret_bool (HF.out.symm.trans hRV.symm), L⟩
            · have hzb : ((ex : Int) == 0) = false := bf (by omega)
              have hv : ¬ badV (decide (k = 1)) prev ex (knd p x) := (by unfold badV; rw [hkn, hf1.out, exN_no (by omega : (9 : Int) ≠ 8)]; simp; try omega)
              have HN : Hid (R = vDone C.length (vcGo p false 9 ex (C.drop (k + 1)))) := by show _ = _; rw [HE.out, vc_ok hv, hkn, exN_no (by omega : (9 : Int) ≠ 8)]
              clear HE
              go_wp2
              go_roundw
              case rel => exact ⟨k + 1, ex, 9, by go_num, by go_num, by omega, by omega, by omega, fun _ _ => (by simp only [Nat.add_sub_cancel]; rw [hxx]; exact hkn.symm), (by rw [show decide (k + 1 = 1) = false from decide_eq_false (by omega)]; exact HN.out), hl⟩
              case measure => simp [intOf]; omega
          · have h8b := bf h8
            have h9b := bf h9
            have hv : ¬ badV (decide (k = 1)) prev ex (knd p x) := (by unfold badV; rw [hkn, hf1.out, exN_no h8]; simp; try omega)
            have HN : Hid (R = vDone C.length (vcGo p false kn ex (C.drop (k + 1)))) := by show _ = _; rw [HE.out, vc_ok hv, hkn, exN_no h8]
            clear HE
            go_wp2
            go_roundw
            case rel => exact ⟨k + 1, ex, kn, by go_num, by go_num, by omega, by omega, by omega, fun _ _ => (by simp only [Nat.add_sub_cancel]; rw [hxx]; exact hkn.symm), (by rw [show decide (k + 1 = 1) = false from decide_eq_false (by omega)]; exact HN.out), hl⟩
            case measure => simp [intOf]; omega
      · have hf1 : Hid (decide (k = 1) = false) := decide_eq_false h1
        have hd1 : decide ((1 : Int) < (k : Int)) = true := decide_eq_true (by omega)
        have hk2 : k - 1 < C.length := by omega
        have hki2 : k - 1 < (nI C).length := by rw [nI_len]; exact hk2
        have hwk : IntKind.i64.wrap ((k : Int) - 1) = ((k - 1 : Nat) : Int) := by rw [IntWalk.i64_in _ (by omega)]; omega
        have hkm0 : (0 : Int) ≤ ((k - 1 : Nat) : Int) := by omega
        have hkml : ((k - 1 : Nat) : Int) < ((nI C).length : Int) := by omega
        obtain ⟨b3, off3, e3, hb3, s1, -⟩ := S.int_at hki2
        cases e3
        rw [nI_at hk2] at s1
        have hy := HLT.out _ (List.getElem_mem hk2)
        obtain ⟨b4, off4, e4, hb4, -, u1, -⟩ := T.lin_at hy
        cases e4
        have hpv := hp (by omega) hk2
        rw [knd_at hy] at hpv
        have hy0 : (0 : Int) ≤ ((C[k - 1] : Nat) : Int) := by omega
        have hyn : ((C[k - 1] : Nat) : Int) < (p.length : Int) := by omega
        clear hp
        generalize p[C[k]].kind = kn at *
        generalize hxx : C[k] = x at *
        generalize p[C[k - 1]].kind = kp at *
        generalize C[k - 1] = y at *
        subst hpv
        by_cases h8 : kn = 8
        · subst h8
          by_cases hlt : (8 : Int) < prev
          · have hld : decide ((8 : Int) < prev) = true := decide_eq_true hlt
            have hv : badV (decide (k = 1)) prev ex (knd p x) := (by unfold badV; rw [hkn, hf1.out, exN_8 rfl]; simp; try omega)
            have HF : Hid (R = false) := by show _ = _; rw [HE.out, vc_bad hv]; rfl
            clear HE
            go_wp2
            go_ret
            first | exact ⟨ret_bool HF.out.symm, L⟩ | exact ⟨ret_bool (HF.out.symm.trans hRV.symm), L⟩
          · have hld : decide ((8 : Int) < prev) = false := decide_eq_false hlt
            by_cases heq : (8 : Int) = prev
            · have hqb : ((8 : Int) == prev) = true := by rw [beq_iff_eq]; exact heq
              have hv : ¬ badV (decide (k = 1)) prev ex (knd p x) := (by unfold badV; rw [hkn, hf1.out, exN_8 rfl]; simp; try omega)
              have HN : Hid (R = vDone C.length (vcGo p false 8 (ex + 1) (C.drop (k + 1)))) := by show _ = _; rw [HE.out, vc_ok hv, hkn, exN_8 rfl]
              clear HE
              go_wp2
              go_roundw
              case rel => exact ⟨k + 1, (ex + 1), 8, by go_num, by go_num, by omega, by omega, by omega, fun _ _ => (by simp only [Nat.add_sub_cancel]; rw [hxx]; exact hkn.symm), (by rw [show decide (k + 1 = 1) = false from decide_eq_false (by omega)]; exact HN.out), hl⟩
              case measure => simp [intOf]; omega
            · have hqb : ((8 : Int) == prev) = false := bf heq
              have hv : ¬ badV (decide (k = 1)) prev ex (knd p x) := (by unfold badV; rw [hkn, hf1.out, exN_8 rfl]; simp; try omega)
              have HN : Hid (R = vDone C.length (vcGo p false 8 (ex + 1) (C.drop (k + 1)))) := by show _ = _; rw [HE.out, vc_ok hv, hkn, exN_8 rfl]
              clear HE
              go_wp2
              go_roundw
              case rel => exact ⟨k + 1, (ex + 1), 8, by go_num, by go_num, by omega, by omega, by omega, fun _ _ => (by simp only [Nat.add_sub_cancel]; rw [hxx]; exact hkn.symm), (by rw [show decide (k + 1 = 1) = false from decide_eq_false (by omega)]; exact HN.out), hl⟩
              case measure => simp [intOf]; omega
        · by_cases h9 : kn = 9
          · subst h9
            by_cases hlt : (9 : Int) < prev
            · have hld : decide ((9 : Int) < prev) = true := decide_eq_true hlt
              have hv : badV (decide (k = 1)) prev ex (knd p x) := (by unfold badV; rw [hkn, hf1.out, exN_no (by omega : (9 : Int) ≠ 8)]; simp; try omega)
              have HF : Hid (R = false) := by show _ = _; rw [HE.out, vc_bad hv]; rfl
              clear HE
              go_wp2
              go_ret
              first | exact ⟨ret_bool HF.out.symm, L⟩ | exact ⟨ret_bool (HF.out.symm.trans hRV.symm), L⟩
            · have hld : decide ((9 : Int) < prev) = false := decide_eq_false hlt
              by_cases heq : (9 : Int) = prev
              · have hqb : ((9 : Int) == prev) = true := by rw [beq_iff_eq]; exact heq
                have hv : badV (decide (k = 1)) prev ex (knd p x) := (by unfold badV; rw [hkn, hf1.out, exN_no (by omega : (9 : Int) ≠ 8)]; simp; try omega)
                have HF : Hid (R = false) := by show _ = _; rw [HE.out, vc_bad hv]; rfl
                clear HE
                go_wp2
                go_ret
                first | exact ⟨ret_bool HF.out.symm, L⟩ | exact ⟨ret_bool (HF.out.symm.trans hRV.symm), L⟩
              · have hqb : ((9 : Int) == prev) = false := bf heq
                by_cases hz : ex = 0
                · have hzb : ((ex : Int) == 0) = true := by (rw [beq_iff_eq]; omega)
                  have hv : badV (decide (k = 1)) prev ex (knd p x) := (by unfold badV; rw [hkn, hf1.out, exN_no (by omega : (9 : Int) ≠ 8)]; simp; try omega)
                  clear hz
                  have HF : Hid (R = false) := by show _ = _; rw [HE.out, vc_bad hv]; rfl
                  clear HE
                  go_wp2
                  go_ret
                  first | exact ⟨ret_bool HF.out.symm, L⟩ | exact ⟨ret_bool (HF.out.symm.trans hRV.symm), L⟩
                · have hzb : ((ex : Int) == 0) = false := bf (by omega)
                  have hv : ¬ badV (decide (k = 1)) prev ex (knd p x) := (by unfold badV; rw [hkn, hf1.out, exN_no (by omega : (9 : Int) ≠ 8)]; simp; try omega)
                  have HN : Hid (R = vDone C.length (vcGo p false 9 ex (C.drop (k + 1)))) := by show _ = _; rw [HE.out, vc_ok hv, hkn, exN_no (by omega : (9 : Int) ≠ 8)]
                  clear HE
                  go_wp2
                  go_roundw
                  case rel => exact ⟨k + 1, ex, 9, by go_num, by go_num, by omega, by omega, by omega, fun _ _ => (by simp only [Nat.add_sub_cancel]; rw [hxx]; exact hkn.symm), (by rw [show decide (k + 1 = 1) = false from decide_eq_false (by omega)]; exact HN.out), hl⟩
                  case measure => simp [intOf]; omega
          · have h8b := bf h8
            have h9b := bf h9
            by_cases hlt : kn < prev
            · have hld : decide (kn < prev) = true := decide_eq_true hlt
              have hv : badV (decide (k = 1)) prev ex (knd p x) := (by unfold badV; rw [hkn, hf1.out, exN_no h8]; simp; try omega)
              have HF : Hid (R = false) := by show _ = _; rw [HE.out, vc_bad hv]; rfl
              clear HE
              go_wp2
              go_ret
              first | exact ⟨ret_bool HF.out.symm, L⟩ | exact ⟨ret_bool (HF.out.symm.trans hRV.symm), L⟩
            · have hld : decide (kn < prev) = false := decide_eq_false hlt
              by_cases heq : kn = prev
              · have hqb : (kn == prev) = true := by rw [beq_iff_eq]; exact heq
                have h8c : (kn != 8) = true := by simpa using h8
                have hv : badV (decide (k = 1)) prev ex (knd p x) := (by unfold badV; rw [hkn, hf1.out, exN_no h8]; simp; try omega)
                have HF : Hid (R = false) := by show _ = _; rw [HE.out, vc_bad hv]; rfl
                clear HE
                go_wp2
                go_ret
                first | exact ⟨ret_bool HF.out.symm, L⟩ | exact ⟨ret_bool (HF.out.symm.trans hRV.symm), L⟩
              · have hqb : (kn == prev) = false := bf heq
                have hv : ¬ badV (decide (k = 1)) prev ex (knd p x) := (by unfold badV; rw [hkn, hf1.out, exN_no h8]; simp; try omega)
                have HN : Hid (R = vDone C.length (vcGo p false kn ex (C.drop (k + 1)))) := by show _ = _; rw [HE.out, vc_ok hv, hkn, exN_no h8]
                clear HE
                go_wp2
                go_roundw
                case rel => exact ⟨k + 1, ex, kn, by go_num, by go_num, by omega, by omega, by omega, fun _ _ => (by simp only [Nat.add_sub_cancel]; rw [hxx]; exact hkn.symm), (by rw [show decide (k + 1 = 1) = false from decide_eq_false (by omega)]; exact HN.out), hl⟩
                case measure => simp [intOf]; omega
    · have hkl : ¬ (k : Int) < ((nI C).length : Int) := by rw [nI_len]; omega
      obtain rfl : k = C.length := by omega
      have HF : Hid (R = (decide (1 < C.length) && decide (ex ≤ 6))) := by
        show _ = _
        rw [HE.out, List.drop_length]; rfl
      clear HE
      by_cases hl1 : 1 < C.length
      · have hl1d : decide ((1 : Int) < ((nI C).length : Int)) = true := decide_eq_true (by rw [nI_len]; omega)
        have HF2 : Hid (R = decide ((ex : Int) ≤ 6)) := by
          show _ = _
          rw [HF.out, decide_eq_true hl1, Bool.true_and]; exact decide_eq_decide.2 (by omega)
        clear HF
        go_wp2
        go_ret
        exact ⟨ret_bool HF2.out.symm, L⟩
      · have hl1d : decide ((1 : Int) < ((nI C).length : Int)) = false := decide_eq_false (by rw [nI_len]; omega)
        have HF2 : Hid (R = false) := by
          show _ = _
          rw [HF.out, decide_eq_false hl1, Bool.false_and]
        clear HF
        go_wp2
        go_ret
        exact ⟨ret_bool HF2.out.symm, L⟩
end

section
theorem inGo_succ (p : List Lin) (d : Int) (k : Nat) : inGo p d (k + 1) = if dep p k < d then (if knd p k = 12 then true else inGo p (dep p k) k) else inGo p d k := rfl
theorem hGo_succ (p : List Lin) (d : Int) (k : Nat) : hGo p d (k + 1) = if dep p k < d then -1 else if dep p k = d then (k : Int) else hGo p d k := rfl
set_option maxHeartbeats 1000000 in
theorem sInLoop_any (A : Option Addr) (n cap : Nat) (p : List Lin) (i : Nat) (hi : i < p.length) (hsm : p.length ≤ 4294967296) (w : World) (hR : Sl w A n cap p) :
    Calls Try.prog 91 #[.slice A n cap, .int .i64 i] w fun e w' => e = .returned (.bool (inL p i)) ∧ Le w w' := by
  obtain rfl := hR.len
  have H0 : Hid (inL p i = inGo p p[i].depth i) := by show _ = _; unfold inL; rw [dep_at hi]
  have hwi : IntKind.i64.wrap ((i : Int) - 1) = (i : Int) - 1 := IntWalk.i64_in _ (by omega)
  have hix : (0 : Int) ≤ (i : Int) := by omega
  have hin : (i : Int) < (p.length : Int) := by omega
  obtain ⟨b0, o0, e0, hb0, c0, -⟩ := hR.lin_at hi
  go_enter Try.func91, Try.ntmps91
  subst e0
  go_wp2
  go_loopw [5, 6] (fun dd kk wr => ∃ (k : Nat) (d : Int), k ≤ i ∧ dd = .int .i64 d ∧ kk = .int .i64 ((k : Int) - 1) ∧ inL p i = inGo p d k ∧ Le w wr) (fun _ kk _ => (intOf kk + 1).toNat)
  case atStart => exact ⟨i, p[i].depth, Nat.le_refl _, rfl, rfl, H0.out, Le.refl _⟩
  case round =>
    obtain ⟨k, d, hk, rfl, rfl, he, hle⟩ := hrel
    have HE := Lib.hid he
    clear he H0 c0
    have T := hR.le hle
    clear hR
    cases k with
    | zero =>
      have HF : Hid (inL p i = false) := by show _ = _; rw [HE.out]; rfl
      have hneg : ¬ (0 : Int) ≤ ((0 : Nat) : Int) - 1 := by omega
      go_wp2
      go_ret
      exact ⟨ret_bool HF.out.symm, hle⟩
    | succ k =>
      have hkl : k < p.length := by omega
      obtain ⟨b2, off2, e2, hb2, d0, d1, -⟩ := T.lin_at hkl
      cases e2
      have hkk : (((k + 1 : Nat) : Int) - 1) = (k : Int) := by omega
      have hk0 : (0 : Int) ≤ (k : Int) := by omega
      have hkn : (k : Int) < (p.length : Int) := by omega
      have hwk : IntKind.i64.wrap ((k : Int) - 1) = (k : Int) - 1 := IntWalk.i64_in _ (by omega)
      rw [hkk]
      by_cases hd : p[k].depth < d
      · by_cases hl : p[k].kind = 12
        · have HF : Hid (inL p i = true) := by show _ = _; rw [HE.out, inGo_succ, dep_at hkl, knd_at hkl, if_pos hd, if_pos hl]
          have hlb : (p[k].kind == 12) = true := by simpa using hl
          clear HE
          go_wp2
          go_ret
          exact ⟨ret_bool HF.out.symm, hle⟩
        · have HF : Hid (inL p i = inGo p p[k].depth k) := by show _ = _; rw [HE.out, inGo_succ, dep_at hkl, knd_at hkl, if_pos hd, if_neg hl]
          have hlb : (p[k].kind == 12) = false := by simpa using hl
          clear HE hl
          go_wp2
          go_roundw
          case rel => exact ⟨k, p[k].depth, by omega, rfl, by go_num, HF.out, hle⟩
          case measure => simp [intOf]
      · have HF : Hid (inL p i = inGo p d k) := by show _ = _; rw [HE.out, inGo_succ, dep_at hkl, if_neg hd]
        clear HE
        go_wp2
        go_roundw
        case rel => exact ⟨k, d, by omega, rfl, by go_num, HF.out, hle⟩
        case measure => simp [intOf]
set_option maxHeartbeats 1000000 in
theorem headOf_any (A : Option Addr) (n cap : Nat) (p : List Lin) (i : Nat) (hi : i < p.length) (hsm : p.length ≤ 4294967296) (w : World) (hR : Sl w A n cap p) :
    Calls Try.prog 93 #[.slice A n cap, .int .i64 i] w fun e w' => e = .returned (.int .i64 (headOf p i)) ∧ Le w w' := by
  obtain rfl := hR.len
  have H0 : Hid (headOf p i = hGo p (dep p i) i) := rfl
  have hwi : IntKind.i64.wrap ((i : Int) - 1) = (i : Int) - 1 := IntWalk.i64_in _ (by omega)
  have hix : (0 : Int) ≤ (i : Int) := by omega
  have hin : (i : Int) < (p.length : Int) := by omega
  go_enter Try.func93, Try.ntmps93
  go_wp2
  go_loopw [5] (fun jj wr => ∃ k : Nat, k ≤ i ∧ jj = .int .i64 ((k : Int) - 1) ∧ headOf p i = hGo p (dep p i) k ∧ Le w wr) (fun jj _ => (intOf jj + 1).toNat)
  case atStart => exact ⟨i, Nat.le_refl _, rfl, H0.out, Le.refl _⟩
  case round =>
    obtain ⟨k, hk, rfl, he, hle⟩ := hrel
    have HE := Lib.hid he
    clear he H0
    have T := hR.le hle
    clear hR
    cases k with
    | zero =>
      have HF : Hid (headOf p i = -1) := by show _ = _; rw [HE.out]; rfl
      have hneg : ¬ (0 : Int) ≤ ((0 : Nat) : Int) - 1 := by omega
      go_wp2
      go_ret
      exact ⟨ret_int HF.out.symm, hle⟩
    | succ k =>
      have hkl : k < p.length := by omega
      obtain ⟨b, off, rfl, hb, c0, -⟩ := T.lin_at hi
      obtain ⟨b2, off2, e2, hb2, d0, -⟩ := T.lin_at hkl
      cases e2
      have E0 := cell_ext hb c0
      have D0 := cell_ext hb2 d0
      have hkk : (((k + 1 : Nat) : Int) - 1) = (k : Int) := by omega
      have hk0 : (0 : Int) ≤ (k : Int) := by omega
      have hkn : (k : Int) < (p.length : Int) := by omega
      have hwk : IntKind.i64.wrap ((k : Int) - 1) = (k : Int) - 1 := IntWalk.i64_in _ (by omega)
      rw [hkk]
      by_cases hd : p[k].depth < p[i].depth
      · have HF : Hid (headOf p i = -1) := by show _ = _; rw [HE.out, hGo_succ, dep_at hi, dep_at hkl, if_pos hd]
        clear HE
        go_wp2_with fail
        refine wp_region_ext (by kernel_rfl) (by kernel_rfl) ?_
        repeat (go_big_quiet_step (fail))
        refine wpQuiet_nil ?_
        intro _ hw'
        obtain ⟨gg, rfl⟩ := hw'
        have hw1 := Le.ext wr gg
        generalize wr.ext gg = W2 at *
        go_wp2
        go_ret
        exact ⟨ret_int HF.out.symm, hle.trans hw1⟩
      · by_cases he2 : p[k].depth = p[i].depth
        · have HF : Hid (headOf p i = (k : Int)) := by show _ = _; rw [HE.out, hGo_succ, dep_at hi, dep_at hkl, if_neg hd, if_pos he2]
          have hbe : (p[k].depth == p[i].depth) = true := by simpa using he2
          clear HE he2
          go_wp2_with fail
          refine wp_region_ext (by kernel_rfl) (by kernel_rfl) ?_
          repeat (go_big_quiet_step (fail))
          refine wpQuiet_nil ?_
          intro _ hw'
          obtain ⟨gg, rfl⟩ := hw'
          have hw1 := Le.ext wr gg
          have T2 := T.le hw1
          generalize wr.ext gg = W2 at *
          obtain ⟨b3, off3, e3, hb3, c3, -⟩ := T2.lin_at hi
          cases e3
          obtain ⟨b4, off4, e4, hb4, d4, -⟩ := T2.lin_at hkl
          cases e4
          have E3 := cell_ext hb3 c3
          have D4 := cell_ext hb4 d4
          go_wp2_with fail
          refine wp_region_ext (by kernel_rfl) (by kernel_rfl) ?_
          repeat (go_big_quiet_step (fail))
          refine wpQuiet_nil ?_
          intro _ hw'
          obtain ⟨gg, rfl⟩ := hw'
          have hw2 := Le.ext W2 gg
          generalize W2.ext gg = W3 at *
          go_wp2
          go_ret
          exact ⟨ret_int HF.out.symm, (hle.trans hw1).trans hw2⟩
        · have HF : Hid (headOf p i = hGo p (dep p i) k) := by show _ = _; rw [HE.out, hGo_succ, dep_at hkl, if_neg (by rw [dep_at hi]; exact hd), if_neg (by rw [dep_at hi]; exact he2)]
          have hbe : (p[k].depth == p[i].depth) = false := by simpa using he2
          clear HE he2
          go_wp2_with fail
          refine wp_region_ext (by kernel_rfl) (by kernel_rfl) ?_
          repeat (go_big_quiet_step (fail))
          refine wpQuiet_nil ?_
          intro _ hw'
          obtain ⟨gg, rfl⟩ := hw'
          have hw1 := Le.ext wr gg
          have T2 := T.le hw1
          generalize wr.ext gg = W2 at *
          obtain ⟨b3, off3, e3, hb3, c3, -⟩ := T2.lin_at hi
          cases e3
          obtain ⟨b4, off4, e4, hb4, d4, -⟩ := T2.lin_at hkl
          cases e4
          have E3 := cell_ext hb3 c3
          have D4 := cell_ext hb4 d4
          go_wp2_with fail
          refine wp_region_ext (by kernel_rfl) (by kernel_rfl) ?_
          repeat (go_big_quiet_step (fail))
          refine wpQuiet_nil ?_
          intro _ hw'
          obtain ⟨gg, rfl⟩ := hw'
          have hw2 := Le.ext W2 gg
          generalize W2.ext gg = W3 at *
          go_wp2
          go_roundw
          case rel => exact ⟨k, by omega, by go_num, HF.out, (hle.trans hw1).trans hw2⟩
          case measure => simp [intOf]
end

section
def jmp (k : Int) : Bool := k == 5 || k == 6
def lineB (n : Nat) (p : List Lin) (i : Nat) (x : Lin) : Bool := rng 0 (mostA n x.kind) x.a && rng 0 (mostB x.kind) x.b && depB p i && (!jmp x.kind || inL p i)
theorem box4b (w : World) (a b c d : Value) (T : TypeId) : (w.alloc (.cells #[a, b, c, d] T)).cell? ⟨w.heap.size, 2, none⟩ = some c ∧ (w.alloc (.cells #[a, b, c, d] T)).cell? ⟨w.heap.size, 3, none⟩ = some d := by
  refine ⟨?_, ?_⟩ <;> (rw [World.cell?_alloc_at _ _ _ _ rfl]; rfl)
set_option maxHeartbeats 1000000 in
theorem validLine_any (B A : Option Addr) (m c n cap : Nat) (p : List Lin) (i : Nat) (hi : i < p.length) (hm : m ≤ 1048576) (hsm : p.length ≤ 1048576) (hpr : 0 < i → 0 ≤ dep p (i - 1) ∧ dep p (i - 1) ≤ 5) (w : World) (hR : Sl w A n cap p) :
    Calls Try.prog 40 #[.agg #[.slice B m c], .slice A n cap, .int .i64 i] w fun e w' => e = .returned (.bool (lineB m p i p[i])) ∧ Le w w' := by
  obtain rfl := hR.len
  have HP := Lib.hid hpr
  obtain ⟨b, off, rfl, hb, d0, d1, d2, d3, -⟩ := hR.lin_at hi
  have HF : Hid (lineB m p i p[i] = (rng 0 (mostA m p[i].kind) p[i].a && rng 0 (mostB p[i].kind) p[i].b && depB p i && (!jmp p[i].kind || inL p i))) := rfl
  have hin : (i : Int) < (p.length : Int) := by omega
  have hi0 : (0 : Int) ≤ (i : Int) := by omega
  generalize lineB m p i p[i] = R at *
  generalize p[i].depth = vd at *
  generalize p[i].kind = vk at *
  generalize p[i].a = va at *
  generalize p[i].b = vb at *
  clear hpr
  go_enter Try.func40, Try.ntmps40
  go_wp2_with fail
  have hsz : (w.alloc (.cells #[.slice B m c] 25)).heap.size = w.heap.size + 1 := by simp
  obtain ⟨x0, x1, x4, L1⟩ := box4 (w.alloc (.cells #[.slice B m c] 25)) (.int .i64 vd) (.int .i64 vk) (.int .i64 va) (.int .i64 vb) 42
  obtain ⟨x2, x3⟩ := box4b (w.alloc (.cells #[.slice B m c] 25)) (.int .i64 vd) (.int .i64 vk) (.int .i64 va) (.int .i64 vb) 42
  rw [hsz] at x0 x1 x2 x3 x4
  have L2 := (Le.new w (.cells #[.slice B m c] 25)).trans L1
  clear L1 hsz d0 d1 d2 d3
  generalize w.heap.size + 1 = X at *
  generalize (w.alloc (.cells #[.slice B m c] 25)).alloc _ = W at *
  refine (mostNumbers_any B m c vk W hm).mono ?_
  rintro e w2 ⟨rfl, hl⟩
  have y1 := (hl.cell x4).trans x1
  have y2 := (hl.cell x4).trans x2
  have y3 := (hl.cell x4).trans x3
  have y4 : X < w2.heap.size := Nat.lt_of_lt_of_le x4 hl.size
  have L3 := L2.trans hl
  have T := hR.le L3
  clear x0 x1 x2 x3 x4 L2 hl hR
  generalize mostA m vk = na at *
  generalize mostB vk = nb at *
  go_wp2_with fail
  refine (iRange_any va 0 na w2).mono ?_
  rintro e w3 ⟨rfl, rfl⟩
  cases r1 : rng 0 na va
  · have HF2 : Hid (R = false) := by show _ = _; rw [HF.out, r1]; rfl
    clear HF
    go_wp2
    go_ret
    exact ⟨ret_bool HF2.out.symm, L3⟩
  · go_wp2_with fail
    refine (iRange_any vb 0 nb w2).mono ?_
    rintro e w3 ⟨rfl, rfl⟩
    cases r2 : rng 0 nb vb
    · have HF2 : Hid (R = false) := by show _ = _; rw [HF.out, r1, r2]; rfl
      clear HF
      go_wp2
      go_ret
      exact ⟨ret_bool HF2.out.symm, L3⟩
    · go_wp2_with fail
      refine (validLineDepth_any _ p.length cap p i hi hsm HP.out w2 T).mono ?_
      rintro e w3 ⟨rfl, hl3⟩
      have z1 := (hl3.cell y4).trans y1
      have T3 := T.le hl3
      have L4 := L3.trans hl3
      have z4 : X < w3.heap.size := Nat.lt_of_lt_of_le y4 hl3.size
      clear y1 y2 y3 y4 T L3 hl3
      cases r3 : depB p i
      · have HF2 : Hid (R = false) := by show _ = _; rw [HF.out, r1, r2, r3]; rfl
        clear HF
        go_wp2
        go_ret
        exact ⟨ret_bool HF2.out.symm, L4⟩
      · have HG : Hid (R = (!jmp vk || inL p i)) := by show _ = _; rw [HF.out, r1, r2, r3]; rfl
        clear HF
        by_cases h5 : vk = 5
        · subst h5
          have HF2 : Hid (R = inL p i) := HG.out
          clear HG
          go_wp2_with fail
          refine (iInLoop_any _ p.length cap p i hi hsm w3 T3).mono ?_
          rintro e w4 ⟨rfl, hl4⟩
          go_wp2
          go_ret
          exact ⟨ret_bool HF2.out.symm, L4.trans hl4⟩
        · by_cases h6 : vk = 6
          · subst h6
            have HF2 : Hid (R = inL p i) := HG.out
            clear HG
            go_wp2_with fail
            refine (iInLoop_any _ p.length cap p i hi hsm w3 T3).mono ?_
            rintro e w4 ⟨rfl, hl4⟩
            go_wp2
            go_ret
            exact ⟨ret_bool HF2.out.symm, L4.trans hl4⟩
          · have b5 := bf h5
            have b6 := bf h6
            have HF2 : Hid (R = true) := by show _ = _; rw [HG.out]; unfold jmp; rw [b5, b6]; rfl
            clear HG
            go_wp2
            go_ret
            exact ⟨ret_bool HF2.out.symm, L4⟩
theorem lineB_iff (xs : List Cls) (p : List Lin) (i : Nat) (h : i < p.length) : lineB xs.length p i p[i] = true ↔ lineI xs p i p[i] := by
  unfold lineB lineI jmp
  rw [Bool.and_eq_true, Bool.and_eq_true, Bool.and_eq_true, depB_iff, inL_up, and_assoc, and_assoc]
  refine and_congr_right fun _ => and_congr_right fun _ => and_congr_right fun _ => ?_
  rw [Bool.or_eq_true, Bool.not_eq_true', Bool.or_eq_false_iff, beq_eq_false_iff_ne, beq_eq_false_iff_ne]
  constructor
  · rintro (⟨a, b⟩ | a) (c | c)
    · exact absurd c a
    · exact absurd c b
    · exact a
    · exact a
  · intro H
    by_cases a : p[i].kind = 5
    · exact Or.inr (H (Or.inl a))
    · by_cases b : p[i].kind = 6
      · exact Or.inr (H (Or.inr b))
      · exact Or.inl ⟨a, b⟩
end

section
/-- what the model asks of the depth of a line behind lines that are right -/
def dpB (p : List Lin) (i : Nat) : Bool := if i = 0 then dep p 0 == 0 else !(decide (dep p (i - 1) + 1 < dep p i) || (opn (knd p (i - 1)) != (dep p i == dep p (i - 1) + 1)))
def lineT (xs : List Cls) (p : List Lin) (i : Nat) (x : Lin) : Bool :=
  numS xs x.kind x.a x.b && rng 0 5 x.depth && dpB p i && !(decide (i + 1 = p.length) && opn x.kind) && (x.kind != 7 || vChain p i) && (!jmp x.kind || inL p i) && (!fol x.kind || headOk p i)
theorem dpB_iff {p : List Lin} {i : Nat} : dpB p i = true ↔ (i = 0 → dep p i = 0) ∧ (∀ j, i = j + 1 → dep p i ≤ dep p j + 1 ∧ (opn (knd p j) = true ↔ dep p i = dep p j + 1)) := by
  unfold dpB
  by_cases h : i = 0
  · subst h
    rw [if_pos rfl, beq_iff_eq]
    exact ⟨fun h => ⟨fun _ => h, fun j hj => by omega⟩, fun h => h.1 rfl⟩
  · rw [if_neg h, Bool.not_eq_true', Bool.or_eq_false_iff, decide_eq_false_iff_not, bne_eq_false_iff_eq]
    obtain ⟨j, rfl⟩ : ∃ j, i = j + 1 := ⟨i - 1, by omega⟩
    rw [Nat.add_sub_cancel, Bool.eq_iff_iff, beq_iff_eq]
    constructor
    · rintro ⟨h1, h2⟩
      refine ⟨fun h => by omega, fun j' hj' => ?_⟩
      obtain rfl : j' = j := by omega
      exact ⟨by omega, h2⟩
    · rintro ⟨_, h2⟩
      have := h2 j rfl
      exact ⟨by omega, this.2⟩
theorem lineT_iff (xs : List Cls) (p : List Lin) (i : Nat) (h : i < p.length) : lineT xs p i p[i] = true ↔ lineS xs p i p[i] := by
  unfold lineT lineS depS
  simp only [Bool.and_eq_true]
  rw [dpB_iff, rng_iff, dep_at h, Bool.not_eq_true', Bool.and_eq_false_iff, decide_eq_false_iff_not]
  have e1 : ((p[i].kind != 7 || vChain p i) = true) ↔ (p[i].kind = 7 → vChain p i = true) := by
    rw [Bool.or_eq_true, bne_iff_ne]
    refine ⟨fun h e => h.resolve_left fun h => h e, fun h => ?_⟩
    by_cases e : p[i].kind = 7
    · exact .inr (h e)
    · exact .inl e
  have e2 : ((!jmp p[i].kind || inL p i) = true) ↔ (p[i].kind = 5 ∨ p[i].kind = 6 → inL p i = true) := by
    unfold jmp
    rw [Bool.or_eq_true, Bool.not_eq_true', Bool.or_eq_false_iff, beq_eq_false_iff_ne, beq_eq_false_iff_ne]
    constructor
    · intro h e
      exact h.resolve_left (fun h => e.elim h.1 h.2)
    · intro h
      by_cases e : p[i].kind = 5 ∨ p[i].kind = 6
      · exact .inr (h e)
      · exact .inl ⟨fun a => e (.inl a), fun a => e (.inr a)⟩
  have e3 : ((!fol p[i].kind || headOk p i) = true) ↔ (fol p[i].kind = true → headOk p i = true) := by
    rw [Bool.or_eq_true, Bool.not_eq_true']
    refine ⟨fun h e => h.resolve_left (fun h => by rw [e] at h; cases h), fun h => ?_⟩
    cases e : fol p[i].kind
    · exact .inl rfl
    · exact .inr (h e)
  have e4 : (¬ i + 1 = p.length ∨ opn p[i].kind = false) ↔ (i + 1 = p.length → opn p[i].kind = false) := by
    refine ⟨fun h e => h.resolve_left fun h => h e, fun h => ?_⟩
    by_cases e : i + 1 = p.length
    · exact .inr (h e)
    · exact .inl e
  rw [e1, e2, e3, e4]
  simp only [and_assoc]
theorem boxTL0 (w : World) (s a b c d : Value) (T U : TypeId) : ((w.alloc (.cells #[s] T)).alloc (.cells #[a, b, c, d] U)).cell? ⟨w.heap.size + 1, 0, none⟩ = some a := by
  rw [World.cell?_alloc_at _ _ _ _ (by simp)]; rfl
set_option maxHeartbeats 2000000 in
set_option maxRecDepth 100000 in
theorem sValidLine_any (B A : Option Addr) (m c n cap : Nat) (xs : List Cls) (p : List Lin) (i : Nat) (hi : i < p.length) (hsm : p.length ≤ 1048576) (hpr : 0 < i → 0 ≤ dep p (i - 1) ∧ dep p (i - 1) ≤ 5) (w : World) (hT : Sl w B m c xs) (hR : Sl w A n cap p) :
    Calls Try.prog 60 #[.agg #[.slice B m c], .slice A n cap, .int .i64 i] w fun e w' => e = .returned (.bool (lineT xs p i p[i])) ∧ Le w w' := by
  obtain rfl := hR.len
  obtain rfl := hT.len
  have HP := Lib.hid hpr
  obtain ⟨b, off, rfl, hb, d0, d1, d2, d3, -⟩ := hR.lin_at hi
  have HF : Hid (lineT xs p i p[i] = (numS xs p[i].kind p[i].a p[i].b && rng 0 5 p[i].depth && dpB p i && !(decide (i + 1 = p.length) && opn p[i].kind) && (p[i].kind != 7 || vChain p i) && (!jmp p[i].kind || inL p i) && (!fol p[i].kind || headOk p i))) := rfl
  have HD : Hid (dep p i = p[i].depth) := dep_at hi
  have hin : (i : Int) < (p.length : Int) := by omega
  have hi0 : (0 : Int) ≤ (i : Int) := by omega
  generalize lineT xs p i p[i] = R at *
  generalize p[i].depth = vd at *
  generalize p[i].kind = vk at *
  generalize p[i].a = va at *
  generalize p[i].b = vb at *
  clear hpr
  go_enter Try.func60, Try.ntmps60
  go_wp2_with fail
  have x4 := boxTL0 w (.slice B xs.length c) (.int .i64 vd) (.int .i64 vk) (.int .i64 va) (.int .i64 vb) 25 42
  obtain ⟨x0, x1, x2, x3, z0, z1, L0⟩ := boxTL w (.slice B xs.length c) (.int .i64 vd) (.int .i64 vk) (.int .i64 va) (.int .i64 vb) 25 42
  have T0 := hT.le L0
  have S0 := hR.le L0
  clear d0 d1 d2 d3 x0 x2 x3 z0
  generalize w.heap.size + 1 = X at *
  generalize (w.alloc (.cells #[.slice B xs.length c] 25)).alloc _ = W at *
  refine (validNumbers_any B xs.length c xs vd vk va vb W T0).mono ?_
  rintro e w2 ⟨rfl, hl⟩
  have y0 := (hl.cell z1).trans x4
  have y1 := (hl.cell z1).trans x1
  have z2 : X < w2.heap.size := Nat.lt_of_lt_of_le z1 hl.size
  have L2 := L0.trans hl
  have S2 := S0.le hl
  clear x1 x4 z1 L0 hl T0 hT S0
  cases r1 : numS xs vk va vb
  · have HF2 : Hid (R = false) := by show _ = _; rw [HF.out, r1]; rfl
    clear HF
    go_wp2
    go_ret
    exact ⟨ret_bool HF2.out.symm, L2⟩
  · go_wp2_with fail
    refine (rng_any vd 0 5 w2).mono ?_
    rintro e w3 ⟨rfl, rfl⟩
    cases r2 : rng 0 5 vd
    · have HF2 : Hid (R = false) := by show _ = _; rw [HF.out, r1, r2]; rfl
      clear HF
      go_wp2
      go_ret
      exact ⟨ret_bool HF2.out.symm, L2⟩
    · have HG : Hid (R = (dpB p i && !(decide (i + 1 = p.length) && opn vk) && (vk != 7 || vChain p i) && (!jmp vk || inL p i) && (!fol vk || headOk p i))) := by show _ = _; rw [HF.out, r1, r2, Bool.true_and, Bool.true_and]
      have hvd := rng_iff.1 r2
      clear HF
      have E0 := cell_ext z2 y0
      have E1 := cell_ext z2 y1
      go_wp2_with fail
      have hwi : IntKind.i64.wrap ((i : Int) + 1) = (i : Int) + 1 := IntWalk.i64_in _ (by omega)
      have HDP : Hid (dpB p i = if i = 0 then dep p 0 == 0 else !(decide (dep p (i - 1) + 1 < dep p i) || (opn (knd p (i - 1)) != (dep p i == dep p (i - 1) + 1)))) := rfl
      generalize dpB p i = dq at *
      go_cut [77] from 23 (fun z wx => z = .bool (!(dq && !(decide (i + 1 = p.length) && opn vk))) ∧ Le w2 wx)
      case first =>
        by_cases h0 : i = 0
        · have h0b : ((i : Int) == 0) = true := by (rw [beq_iff_eq]; omega)
          have h0c : decide ((0 : Int) < (i : Int)) = false := decide_eq_false (by omega)
          have h0d : decide (0 < i) = false := decide_eq_false (by omega)
          have HDQ : Hid (dq = (vd == 0)) := by show _ = _; rw [HDP.out, if_pos h0, ← HD.out, h0]
          clear HDP
          by_cases hv : vd = 0
          · have hvb : (vd != 0) = false := by simpa using hv
            have HQ : Hid (dq = true) := by show _ = _; rw [HDQ.out, beq_iff_eq]; exact hv
            clear hv h0 HDQ
            by_cases hl : i + 1 = p.length
            · have hlb : ((i : Int) + 1 == (p.length : Int)) = true := by (rw [beq_iff_eq]; omega)
              have hld : decide (i + 1 = p.length) = true := decide_eq_true hl
              cases ho : opn vk
              · have hck : ∀ U : World, Calls Try.prog 89 #[.int .i64 vk] U fun e w' => e = .returned (.bool false) ∧ U = w' := fun U => by rw [← ho]; exact opens_any vk U
                have HV : Hid ((!(dq && !(decide (i + 1 = p.length) && opn vk))) = false) := by show _ = _; rw [HQ.out, hld, ho]; rfl
                clear hl ho hld
                refine wp_region_ext (by kernel_rfl) (by kernel_rfl) ?_
                repeat (go_big_quiet_step (first | (go_at_call 89; exact Calls.ext_same (hck _))))
                refine wpQuiet_nil ?_
                intro _ hw
                obtain ⟨gg, rfl⟩ := hw
                have hw1 := Le.ext w2 gg
                generalize w2.ext gg = W2 at *
                go_wp2
                go_meet
                exact ⟨congrArg Value.bool HV.out.symm, hw1⟩
              · have hck : ∀ U : World, Calls Try.prog 89 #[.int .i64 vk] U fun e w' => e = .returned (.bool true) ∧ U = w' := fun U => by rw [← ho]; exact opens_any vk U
                have HV : Hid ((!(dq && !(decide (i + 1 = p.length) && opn vk))) = true) := by show _ = _; rw [HQ.out, hld, ho]; rfl
                clear hl ho hld
                refine wp_region_ext (by kernel_rfl) (by kernel_rfl) ?_
                repeat (go_big_quiet_step (first | (go_at_call 89; exact Calls.ext_same (hck _))))
                refine wpQuiet_nil ?_
                intro _ hw
                obtain ⟨gg, rfl⟩ := hw
                have hw1 := Le.ext w2 gg
                generalize w2.ext gg = W2 at *
                go_wp2
                go_meet
                exact ⟨congrArg Value.bool HV.out.symm, hw1⟩
            · have hlb : ((i : Int) + 1 == (p.length : Int)) = false := bf (by omega)
              have HV : Hid ((!(dq && !(decide (i + 1 = p.length) && opn vk))) = false) := by show _ = _; rw [HQ.out, decide_eq_false hl]; rfl
              refine wp_region_ext (by kernel_rfl) (by kernel_rfl) ?_
              repeat (go_big_quiet_step (fail))
              refine wpQuiet_nil ?_
              intro _ hw
              obtain ⟨gg, rfl⟩ := hw
              have hw1 := Le.ext w2 gg
              generalize w2.ext gg = W2 at *
              go_wp2
              go_meet
              exact ⟨congrArg Value.bool HV.out.symm, hw1⟩
          · have hvb : (vd != 0) = true := by simpa using hv
            have HV : Hid ((!(dq && !(decide (i + 1 = p.length) && opn vk))) = true) := by show _ = _; rw [HDQ.out, bf hv]; rfl
            clear hv h0 HDQ
            refine wp_region_ext (by kernel_rfl) (by kernel_rfl) ?_
            repeat (go_big_quiet_step (fail))
            refine wpQuiet_nil ?_
            intro _ hw
            obtain ⟨gg, rfl⟩ := hw
            have hw1 := Le.ext w2 gg
            generalize w2.ext gg = W2 at *
            go_wp2
            go_meet
            exact ⟨congrArg Value.bool HV.out.symm, hw1⟩
        · have h0b : ((i : Int) == 0) = false := bf (by omega)
          have h0c : decide ((0 : Int) < (i : Int)) = true := decide_eq_true (by omega)
          have h0d : decide (0 < i) = true := decide_eq_true (by omega)
          obtain ⟨j, hj⟩ : ∃ j, i = j + 1 := ⟨i - 1, by omega⟩
          have hjl : j < p.length := by omega
          have hp2 := HP.out (by omega)
          have HDQ : Hid (dq = !(decide (p[j].depth + 1 < vd) || (opn p[j].kind != (vd == p[j].depth + 1)))) := by show _ = _; rw [HDP.out, if_neg h0, HD.out, show i - 1 = j by omega, dep_at hjl, knd_at hjl]
          rw [show i - 1 = j by omega, dep_at hjl] at hp2
          obtain ⟨bj, offj, ej, hbj, k0, k1, -⟩ := S2.lin_at hjl
          injection ej with ej
          injection ej with ej1 ej2
          subst ej1
          subst ej2
          have hwj : IntKind.i64.wrap ((i : Int) - 1) = (j : Int) := by rw [show (i : Int) - 1 = (j : Int) by omega]; exact IntWalk.i64_in _ (by omega)
          have hj0 : (0 : Int) ≤ (j : Int) := by omega
          have hjn : (j : Int) < (p.length : Int) := by omega
          have hwd : IntKind.i64.wrap (p[j].depth + 1) = p[j].depth + 1 := IntWalk.i64_in _ (by omega)
          generalize p[j].depth = jd at *
          generalize p[j].kind = jk at *
          have K0 := cell_ext hbj k0
          have K1 := cell_ext hbj k1
          clear HDP k0 k1 hj h0
          by_cases hlt : jd + 1 < vd
          · have hltb : decide (jd + 1 < vd) = true := decide_eq_true hlt
            have HV : Hid ((!(dq && !(decide (i + 1 = p.length) && opn vk))) = true) := by show _ = _; rw [HDQ.out, hltb]; rfl
            clear HDQ
            refine wp_region_ext (by kernel_rfl) (by kernel_rfl) ?_
            repeat (go_big_quiet_step (fail))
            refine wpQuiet_nil ?_
            intro _ hw
            obtain ⟨gg, rfl⟩ := hw
            have hw1 := Le.ext w2 gg
            generalize w2.ext gg = W2 at *
            go_wp2
            go_meet
            exact ⟨congrArg Value.bool HV.out.symm, hw1⟩
          · have hltb : decide (jd + 1 < vd) = false := decide_eq_false hlt
            cases hoj : opn jk
            · have hcj : ∀ U : World, Calls Try.prog 89 #[.int .i64 jk] U fun e w' => e = .returned (.bool false) ∧ U = w' := fun U => by rw [← hoj]; exact opens_any jk U
              by_cases hq : vd = jd + 1
              · have hqb : (vd == jd + 1) = true := by (rw [beq_iff_eq]; exact hq)
                have HV : Hid ((!(dq && !(decide (i + 1 = p.length) && opn vk))) = true) := by show _ = _; rw [HDQ.out, hltb, hoj, hqb]; rfl
                clear HDQ hoj hlt hq
                refine wp_region_ext (by kernel_rfl) (by kernel_rfl) ?_
                repeat (go_big_quiet_step (first | (go_at_call 89; exact Calls.ext_same (hcj _))))
                refine wpQuiet_nil ?_
                intro _ hw
                obtain ⟨gg, rfl⟩ := hw
                have hw1 := Le.ext w2 gg
                generalize w2.ext gg = W2 at *
                go_wp2
                go_meet
                exact ⟨congrArg Value.bool HV.out.symm, hw1⟩
              · have hqb : (vd == jd + 1) = false := bf hq
                have HQ : Hid (dq = true) := by show _ = _; rw [HDQ.out, hltb, hoj, hqb]; rfl
                clear HDQ hoj hlt hq
                by_cases hl : i + 1 = p.length
                · have hlb : ((i : Int) + 1 == (p.length : Int)) = true := by (rw [beq_iff_eq]; omega)
                  have hld : decide (i + 1 = p.length) = true := decide_eq_true hl
                  cases ho : opn vk
                  · have hck : ∀ U : World, Calls Try.prog 89 #[.int .i64 vk] U fun e w' => e = .returned (.bool false) ∧ U = w' := fun U => by rw [← ho]; exact opens_any vk U
                    have HV : Hid ((!(dq && !(decide (i + 1 = p.length) && opn vk))) = false) := by show _ = _; rw [HQ.out, hld, ho]; rfl
                    clear hl ho hld
                    refine wp_region_ext (by kernel_rfl) (by kernel_rfl) ?_
                    repeat (go_big_quiet_step (first | (go_at_call 89; exact Calls.ext_same (hck _)) | (go_at_call 89; exact Calls.ext_same (hcj _))))
                    refine wpQuiet_nil ?_
                    intro _ hw
                    obtain ⟨gg, rfl⟩ := hw
                    have hw1 := Le.ext w2 gg
                    generalize w2.ext gg = W2 at *
                    go_wp2
                    go_meet
                    exact ⟨congrArg Value.bool HV.out.symm, hw1⟩
                  · have hck : ∀ U : World, Calls Try.prog 89 #[.int .i64 vk] U fun e w' => e = .returned (.bool true) ∧ U = w' := fun U => by rw [← ho]; exact opens_any vk U
                    have HV : Hid ((!(dq && !(decide (i + 1 = p.length) && opn vk))) = true) := by show _ = _; rw [HQ.out, hld, ho]; rfl
                    clear hl ho hld
                    refine wp_region_ext (by kernel_rfl) (by kernel_rfl) ?_
                    repeat (go_big_quiet_step (first | (go_at_call 89; exact Calls.ext_same (hck _)) | (go_at_call 89; exact Calls.ext_same (hcj _))))
                    refine wpQuiet_nil ?_
                    intro _ hw
                    obtain ⟨gg, rfl⟩ := hw
                    have hw1 := Le.ext w2 gg
                    generalize w2.ext gg = W2 at *
                    go_wp2
                    go_meet
                    exact ⟨congrArg Value.bool HV.out.symm, hw1⟩
                · have hlb : ((i : Int) + 1 == (p.length : Int)) = false := bf (by omega)
                  have HV : Hid ((!(dq && !(decide (i + 1 = p.length) && opn vk))) = false) := by show _ = _; rw [HQ.out, decide_eq_false hl]; rfl
                  refine wp_region_ext (by kernel_rfl) (by kernel_rfl) ?_
                  repeat (go_big_quiet_step (first | (go_at_call 89; exact Calls.ext_same (hcj _))))
                  refine wpQuiet_nil ?_
                  intro _ hw
                  obtain ⟨gg, rfl⟩ := hw
                  have hw1 := Le.ext w2 gg
                  generalize w2.ext gg = W2 at *
                  go_wp2
                  go_meet
                  exact ⟨congrArg Value.bool HV.out.symm, hw1⟩
            · have hcj : ∀ U : World, Calls Try.prog 89 #[.int .i64 jk] U fun e w' => e = .returned (.bool true) ∧ U = w' := fun U => by rw [← hoj]; exact opens_any jk U
              by_cases hq : vd = jd + 1
              · have hqb : (vd == jd + 1) = true := by (rw [beq_iff_eq]; exact hq)
                have HQ : Hid (dq = true) := by show _ = _; rw [HDQ.out, hltb, hoj, hqb]; rfl
                clear HDQ hoj hlt hq
                by_cases hl : i + 1 = p.length
                · have hlb : ((i : Int) + 1 == (p.length : Int)) = true := by (rw [beq_iff_eq]; omega)
                  have hld : decide (i + 1 = p.length) = true := decide_eq_true hl
                  cases ho : opn vk
                  · have hck : ∀ U : World, Calls Try.prog 89 #[.int .i64 vk] U fun e w' => e = .returned (.bool false) ∧ U = w' := fun U => by rw [← ho]; exact opens_any vk U
                    have HV : Hid ((!(dq && !(decide (i + 1 = p.length) && opn vk))) = false) := by show _ = _; rw [HQ.out, hld, ho]; rfl
                    clear hl ho hld
                    refine wp_region_ext (by kernel_rfl) (by kernel_rfl) ?_
                    repeat (go_big_quiet_step (first | (go_at_call 89; exact Calls.ext_same (hck _)) | (go_at_call 89; exact Calls.ext_same (hcj _))))
                    refine wpQuiet_nil ?_
                    intro _ hw
                    obtain ⟨gg, rfl⟩ := hw
                    have hw1 := Le.ext w2 gg
                    generalize w2.ext gg = W2 at *
                    go_wp2
                    go_meet
                    exact ⟨congrArg Value.bool HV.out.symm, hw1⟩
                  · have hck : ∀ U : World, Calls Try.prog 89 #[.int .i64 vk] U fun e w' => e = .returned (.bool true) ∧ U = w' := fun U => by rw [← ho]; exact opens_any vk U
                    have HV : Hid ((!(dq && !(decide (i + 1 = p.length) && opn vk))) = true) := by show _ = _; rw [HQ.out, hld, ho]; rfl
                    clear hl ho hld
                    refine wp_region_ext (by kernel_rfl) (by kernel_rfl) ?_
                    repeat (go_big_quiet_step (first | (go_at_call 89; exact Calls.ext_same (hck _)) | (go_at_call 89; exact Calls.ext_same (hcj _))))
                    refine wpQuiet_nil ?_
                    intro _ hw
                    obtain ⟨gg, rfl⟩ := hw
                    have hw1 := Le.ext w2 gg
                    generalize w2.ext gg = W2 at *
                    go_wp2
                    go_meet
                    exact ⟨congrArg Value.bool HV.out.symm, hw1⟩
                · have hlb : ((i : Int) + 1 == (p.length : Int)) = false := bf (by omega)
                  have HV : Hid ((!(dq && !(decide (i + 1 = p.length) && opn vk))) = false) := by show _ = _; rw [HQ.out, decide_eq_false hl]; rfl
                  refine wp_region_ext (by kernel_rfl) (by kernel_rfl) ?_
                  repeat (go_big_quiet_step (first | (go_at_call 89; exact Calls.ext_same (hcj _))))
                  refine wpQuiet_nil ?_
                  intro _ hw
                  obtain ⟨gg, rfl⟩ := hw
                  have hw1 := Le.ext w2 gg
                  generalize w2.ext gg = W2 at *
                  go_wp2
                  go_meet
                  exact ⟨congrArg Value.bool HV.out.symm, hw1⟩
              · have hqb : (vd == jd + 1) = false := bf hq
                have HV : Hid ((!(dq && !(decide (i + 1 = p.length) && opn vk))) = true) := by show _ = _; rw [HDQ.out, hltb, hoj, hqb]; rfl
                clear HDQ hoj hlt hq
                refine wp_region_ext (by kernel_rfl) (by kernel_rfl) ?_
                repeat (go_big_quiet_step (first | (go_at_call 89; exact Calls.ext_same (hcj _))))
                refine wpQuiet_nil ?_
                intro _ hw
                obtain ⟨gg, rfl⟩ := hw
                have hw1 := Le.ext w2 gg
                generalize w2.ext gg = W2 at *
                go_wp2
                go_meet
                exact ⟨congrArg Value.bool HV.out.symm, hw1⟩
      case rest =>
        obtain ⟨rfl, hle⟩ := hcut
        generalize wc = w4 at *
        replace y0 := (hle.cell z2).trans y0
        replace y1 := (hle.cell z2).trans y1
        replace z2 := Nat.lt_of_lt_of_le z2 hle.size
        replace L2 := L2.trans hle
        replace S2 := S2.le hle
        clear hle E0 E1 HDP
        cases hz : (dq && !(decide (i + 1 = p.length) && opn vk))
        · have HF2 : Hid (R = false) := by show _ = _; rw [HG.out, hz]; rfl
          clear HG
          go_wp2
          go_ret
          exact ⟨ret_bool HF2.out.symm, L2⟩
        · have HH : Hid (R = ((vk != 7 || vChain p i) && (!jmp vk || inL p i) && (!fol vk || headOk p i))) := by show _ = _; rw [HG.out, hz, Bool.true_and]
          clear HG hz
          by_cases h7 : vk = 7
          · subst h7
            have HI : Hid (R = vChain p i) := by show _ = _; rw [HH.out]; simp [jmp, fol]
            clear HH
            go_wp2_with fail
            refine (validChain_any _ p.length cap p i hi hsm w4 S2).mono ?_
            rintro e w5 ⟨rfl, hle⟩
            replace y1 := (hle.cell z2).trans y1
            replace L2 := L2.trans hle
            cases hv : vChain p i
            · have HF2 : Hid (R = false) := by show _ = _; rw [HI.out, hv]
              clear HI
              go_wp2
              go_ret
              exact ⟨ret_bool HF2.out.symm, L2⟩
            · have HF2 : Hid (R = true) := by show _ = _; rw [HI.out, hv]
              clear HI
              go_wp2_with fail
              refine (follows_any 7 w5).mono ?_
              rintro e w6 ⟨rfl, rfl⟩
              rw [show fol 7 = false from rfl]
              go_wp2
              go_ret
              exact ⟨ret_bool HF2.out.symm, L2⟩
          · have h7b := bf h7
            have h7c : (vk != 7) = true := by simpa using h7
            by_cases hj : vk = 5 ∨ vk = 6
            · have HI : Hid (R = inL p i) := by
                show _ = _
                rw [HH.out, h7c]
                rcases hj with rfl | rfl <;> simp [jmp, fol]
              clear HH
              have hfj : fol vk = false := by rcases hj with rfl | rfl <;> rfl
              rcases hj with rfl | rfl
              all_goals
                go_wp2_with fail
                refine (sInLoop_any _ p.length cap p i hi (by omega) w4 S2).mono ?_
                rintro e w5 ⟨rfl, hle⟩
                replace y1 := (hle.cell z2).trans y1
                replace L2 := L2.trans hle
                cases hv : inL p i
                · have HF2 : Hid (R = false) := by show _ = _; rw [HI.out, hv]
                  clear HI
                  go_wp2
                  go_ret
                  exact ⟨ret_bool HF2.out.symm, L2⟩
                · have HF2 : Hid (R = true) := by show _ = _; rw [HI.out, hv]
                  clear HI
                  go_wp2_with fail
                  refine (follows_any _ w5).mono ?_
                  rintro e w6 ⟨rfl, rfl⟩
                  rw [hfj]
                  go_wp2
                  go_ret
                  exact ⟨ret_bool HF2.out.symm, L2⟩
            · have h5b : (vk == 5) = false := bf (by omega)
              have h6b : (vk == 6) = false := bf (by omega)
              have HI : Hid (R = (!fol vk || headOk p i)) := by show _ = _; rw [HH.out, h7c]; simp [jmp, h5b, h6b]
              clear HH
              go_wp2_with fail
              refine (follows_any vk w4).mono ?_
              rintro e w6 ⟨rfl, rfl⟩
              cases hf : fol vk
              · have HF2 : Hid (R = true) := by show _ = _; rw [HI.out, hf]; rfl
                clear HI
                go_wp2
                go_ret
                exact ⟨ret_bool HF2.out.symm, L2⟩
              · have HJ : Hid (R = (decide (0 ≤ headOf p i) && (knd p (headOf p i).toNat == 7 || fol (knd p (headOf p i).toNat)))) := by show _ = _; rw [HI.out, hf]; rfl
                clear HI
                go_wp2_with fail
                refine (headOf_any _ p.length cap p i hi (by omega) w4 S2).mono ?_
                rintro e w5 ⟨rfl, hle⟩
                replace L2 := L2.trans hle
                replace S2 := S2.le hle
                have hG := hGo_is p (dep p i) i
                have HG2 : Hid (headOf p i = hGo p (dep p i) i) := rfl
                rcases hG with ⟨hg, -⟩ | ⟨j, hg, hj2, -⟩
                · have hh : headOf p i = -1 := by rw [HG2.out, hg]
                  rw [hh] at HJ ⊢
                  have HF2 : Hid (R = false) := HJ.out
                  clear hg hh HG2 HJ
                  go_wp2
                  go_ret
                  exact ⟨ret_bool HF2.out.symm, L2⟩
                · have hh : headOf p i = (j : Int) := by rw [HG2.out, hg]
                  rw [hh] at HJ ⊢
                  have hjl : j < p.length := by omega
                  obtain ⟨bj, offj, ej, hbj, k0, k1, -⟩ := S2.lin_at hjl
                  injection ej with ej
                  injection ej with ej1 ej2
                  subst ej1
                  subst ej2
                  have HF1 : Hid (R = (p[j].kind == 7 || fol p[j].kind)) := by
                    show _ = _
                    rw [HJ.out, Int.toNat_natCast, knd_at hjl, decide_eq_true (by omega), Bool.true_and]
                  have hj0 : (0 : Int) ≤ (j : Int) := by omega
                  have hjn : (j : Int) < (p.length : Int) := by omega
                  have hj0b : decide ((0 : Int) ≤ (j : Int)) = true := decide_eq_true hj0
                  generalize p[j].kind = jk at *
                  clear hg hh HG2 HJ hj2 k0
                  by_cases hq : jk = 7
                  · have hqb : (jk == 7) = true := by simpa using hq
                    have HF2 : Hid (R = true) := by show _ = _; rw [HF1.out, hqb]; rfl
                    clear hq HF1
                    go_wp2
                    go_ret
                    exact ⟨ret_bool HF2.out.symm, L2⟩
                  · have hqb := bf hq
                    have HF2 : Hid (R = fol jk) := by show _ = _; rw [HF1.out, hqb, Bool.false_or]
                    clear HF1
                    go_wp2_with fail
                    refine (follows_any jk w5).mono ?_
                    rintro e w6 ⟨rfl, rfl⟩
                    go_wp2
                    go_ret
                    exact ⟨ret_bool HF2.out.symm, L2⟩
end

section
theorem ptGo_on {p : List Lin} {d : Int} {m k : Nat} (hm : p.length ≤ m + k) (hk : bEnd p k < p.length) (hd : dep p (bEnd p k) = d) (hf : mayF (knd p k) (knd p (bEnd p k)) = true) : ptGo p d m k = bEnd p k :: ptGo p d (m - 1) (bEnd p k) := by
  have := bEnd_gt p k
  obtain ⟨n, rfl⟩ : ∃ n, m = n + 1 := ⟨m - 1, by omega⟩
  show (if _ then _ else _) = _
  rw [if_pos ⟨hk, hd, hf⟩, Nat.add_sub_cancel]
theorem ptGo_off {p : List Lin} {d : Int} {m k : Nat} (h : ¬ (bEnd p k < p.length ∧ dep p (bEnd p k) = d ∧ mayF (knd p k) (knd p (bEnd p k)) = true)) : ptGo p d m k = [] := by
  cases m with
  | zero => rfl
  | succ m => exact if_neg h
set_option maxHeartbeats 2000000 in
set_option maxRecDepth 100000 in
theorem partsOf_any (A : Option Addr) (n cap : Nat) (p : List Lin) (i : Nat) (hi : i < p.length) (hsm : p.length ≤ 1048576) (w : World) (hR : Sl w A n cap p) :
    Calls Try.prog 70 #[.slice A n cap, .int .i64 i] w fun e w' => ∃ v, e = .returned v ∧ Owd 3 w w' v (nI (parts p i)) ∧ Le w w' := by
  obtain rfl := hR.len
  obtain ⟨i0, hq, hz0, hz1, hz2⟩ := info_parts intInfoB
  obtain ⟨b, off, rfl, hb, d0, -⟩ := hR.lin_at hi
  have hDi : Hid (dep p i = p[i].depth) := dep_at hi
  generalize p[i].depth = di at *
  go_enter Try.func70, Try.ntmps70
  go_wp2_with fail
  have O1 : (w.alloc (.cells #[.int .i64 (i : Int)] 3)).ownsRow w.heap.size 3 1 (.slice (some ⟨w.heap.size, 0, none⟩) 1 1) 1 [.int .i64 (i : Int)] := World.ownsRow_lit (base := w.heap.size) (e := 3) (size := 1) w #[.int .i64 (i : Int)] 1 (Nat.le_refl _) (by unfold maxLen; omega) (by simp)
  have L1 := Le.new w (.cells #[.int .i64 (i : Int)] 3)
  generalize w.alloc (.cells #[.int .i64 (i : Int)] 3) = W at *
  go_loopw [5, 6] (fun v kk wr => ∃ (k : Nat) (out : List Nat) (m : Nat) (A' : Option Addr) (c' : Nat), kk = .int .i64 k ∧ k < p.length ∧ v = .slice A' out.length c' ∧ parts p i = out ++ ptGo p (dep p i) m k ∧ p.length ≤ m + k ∧ (∀ x ∈ out, x < p.length) ∧ out.length ≤ k + 1 ∧
      wr.ownsRow w.heap.size 3 1 (.slice A' out.length c') out.length ((nI out).flatMap Enc.cells) ∧ Le w wr) (fun _ kk _ => p.length - (intOf kk).toNat)
  case atStart => exact ⟨i, [i], p.length, _, _, rfl, hi, rfl, rfl, by omega, fun x hx => by (have := List.mem_singleton.1 hx; omega), by simp, O1, L1⟩
  case round =>
    obtain ⟨k, out, m, A', c', rfl, hkp, rfl, he, hm, hin, hol, OW, L⟩ := hrel
    have HE := Lib.hid he
    have HI := Lib.hid hin
    have T := hR.le L
    have hk0 : (0 : Int) ≤ (k : Int) := by omega
    have hkn : (k : Int) < (p.length : Int) := by omega
    have hi0 : (0 : Int) ≤ (i : Int) := by omega
    have hin0 : (i : Int) < (p.length : Int) := by omega
    have hoko : Hid (∀ y ∈ nI out, Enc.ok y) := fun y hy => by
      obtain ⟨x, hx, rfl⟩ := List.mem_map.1 hy
      have := hin x hx
      exact ⟨by omega, by omega⟩
    clear he hin O1 L1
    go_wp2_with fail
    refine (iBlockEnd_any _ p.length cap p k hkp wr T).mono ?_
    rintro e w2 ⟨rfl, hl2⟩
    have L3 := L.trans hl2
    have O3 := own_le OW hl2
    have T3 := hR.le L3
    have hble := bEnd_le hkp
    have hbg := bEnd_gt p k
    have E0 := cell_ext (Nat.lt_of_lt_of_le hb L3.size) ((L3.cell hb).trans d0)
    obtain ⟨b2, off2, e2, hb2, -, k1, -⟩ := T3.lin_at hkp
    cases e2
    have K0 := cell_ext hb2 k1
    have hKk : Hid (knd p k = p[k].kind) := knd_at hkp
    generalize p[k].kind = kk at *
    have hn0 : (0 : Int) ≤ (bEnd p k : Int) := by omega
    clear OW L hl2 T k1
    by_cases hlt : bEnd p k < p.length
    · have hnn : (bEnd p k : Int) < (p.length : Int) := by omega
      have hne : ((bEnd p k : Int) == (p.length : Int)) = false := bf (by omega)
      obtain ⟨b3, off3, e3, hb3, n0, n1, -⟩ := T3.lin_at hlt
      cases e3
      have N0 := cell_ext hb3 n0
      have N1 := cell_ext hb3 n1
      have hDn : Hid (dep p (bEnd p k) = p[bEnd p k].depth) := dep_at hlt
      have hKn : Hid (knd p (bEnd p k) = p[bEnd p k].kind) := knd_at hlt
      generalize p[bEnd p k].depth = dn at *
      generalize p[bEnd p k].kind = kn at *
      clear n0 n1 T3
      by_cases hd : dn = di
      · have hde : (dn == di) = true := by simpa using hd
        have hc := fun U : World => mayFollow_any kk kn U
        cases hf : mayF kk kn
        · rw [hf] at hc
          have HF : Hid (Owd 3 w w2 (.slice A' out.length c') (nI (parts p i))) := by
            show Owd _ _ _ _ _
            rw [HE.out, ptGo_off (by rw [hKk.out, hKn.out, hf]; simp), List.append_nil]
            exact ⟨by rw [nI_len]; exact O3, hoko.out⟩
          clear HE
          go_wp2_with fail
          refine wp_region_ext (by kernel_rfl) (by kernel_rfl) ?_
          repeat (go_big_quiet_step (first | (go_at_call 104; exact Calls.ext_same (hc _))))
          refine wpQuiet_nil ?_
          intro _ hw'
          obtain ⟨gg, rfl⟩ := hw'
          have hw1 := Le.ext w2 gg
          have O4 := own_le O3 hw1
          have L4 := L3.trans hw1
          clear E0 K0 O3 L3
          generalize w2.ext gg = W2 at *
          go_wp2
          go_ret
          exact ⟨_, rfl, ⟨own_le HF.out.row hw1, HF.out.ok⟩, L4⟩
        · rw [hf] at hc
          have HN : Hid (parts p i = (out ++ [bEnd p k]) ++ ptGo p (dep p i) (m - 1) (bEnd p k)) := by
            show _ = _
            rw [HE.out, ptGo_on hm hlt (by rw [hDn.out, hDi.out, hd]) (by rw [hKk.out, hKn.out, hf]), List.append_assoc]; rfl
          clear HE
          go_wp2_with fail
          refine wp_region_ext (by kernel_rfl) (by kernel_rfl) ?_
          repeat (go_big_quiet_step (first | (go_at_call 104; exact Calls.ext_same (hc _))))
          refine wpQuiet_nil ?_
          intro _ hw'
          obtain ⟨gg, rfl⟩ := hw'
          have hw1 := Le.ext w2 gg
          have O4 := own_le O3 hw1
          have L4 := L3.trans hw1
          clear E0 K0 O3 L3
          generalize w2.ext gg = W2 at *
          go_wp2_with (at_builtin; refine wpList_append_own _ rfl _ _ 29 rfl w.heap.size 3 i0 (.int .i64 0) 1 8 Try.underlying29 hq hz0 hz1 hz2 rfl (by decide) _ _ _ rfl (O4.alloc _) ⟨W2.heap.size, 0, none⟩ 1 1 [.int .i64 (bEnd p k : Nat)] rfl rfl (one_newB _ _ _) (by intro u hu; simp at hu; subst hu; rfl) (by unfold maxLen; omega) (by omega) (by have := L4.size; simp; omega) ?_; intro v1 w1 hown1 hg1 _; have hle1 := (L4.alloc (.cells #[.int .i64 (bEnd p k : Nat)] 3)).grown hg1 (fun j hj => (O4.lt j hj).1))
          obtain ⟨A5, q5, rfl⟩ := own_form hown1
          clear hg1
          go_wp2
          go_roundw
          case rel =>
            refine ⟨bEnd p k, out ++ [bEnd p k], m - 1, A5, q5, rfl, hlt, by simp, HN.out, by omega, ?_, by simp; omega, ?_, hle1⟩
            · intro x hx
              rcases List.mem_append.1 hx with h | h
              · exact HI.out x h
              · rw [List.mem_singleton.1 h]; exact hlt
            · simpa [nI, Enc.cells] using hown1
          case measure => simp [intOf]; omega
      · have hde : (dn == di) = false := bf hd
        have hdn : (dn != di) = true := by simpa using hd
        have HF : Hid (Owd 3 w w2 (.slice A' out.length c') (nI (parts p i))) := by
          show Owd _ _ _ _ _
          rw [HE.out, ptGo_off (by rw [hDn.out, hDi.out]; exact fun h => hd h.2.1), List.append_nil]
          exact ⟨by rw [nI_len]; exact O3, hoko.out⟩
        clear HE
        go_wp2_with fail
        refine wp_region_ext (by kernel_rfl) (by kernel_rfl) ?_
        repeat (go_big_quiet_step (fail))
        refine wpQuiet_nil ?_
        intro _ hw'
        obtain ⟨gg, rfl⟩ := hw'
        have hw1 := Le.ext w2 gg
        have O4 := own_le O3 hw1
        have L4 := L3.trans hw1
        clear E0 K0 O3 L3
        generalize w2.ext gg = W2 at *
        go_wp2
        go_ret
        exact ⟨_, rfl, ⟨own_le HF.out.row hw1, HF.out.ok⟩, L4⟩
    · have hne : ((bEnd p k : Int) == (p.length : Int)) = true := by (rw [beq_iff_eq]; omega)
      have HF : Hid (Owd 3 w w2 (.slice A' out.length c') (nI (parts p i))) := by
        show Owd _ _ _ _ _
        rw [HE.out, ptGo_off (by exact fun h => hlt h.1), List.append_nil]
        exact ⟨by rw [nI_len]; exact O3, hoko.out⟩
      clear HE
      go_wp2_with fail
      refine wp_region_ext (by kernel_rfl) (by kernel_rfl) ?_
      repeat (go_big_quiet_step (fail))
      refine wpQuiet_nil ?_
      intro _ hw'
      obtain ⟨gg, rfl⟩ := hw'
      have hw1 := Le.ext w2 gg
      have O4 := own_le O3 hw1
      have L4 := L3.trans hw1
      clear E0 K0 O3 L3
      generalize w2.ext gg = W2 at *
      go_wp2
      go_ret
      exact ⟨_, rfl, ⟨own_le HF.out.row hw1, HF.out.ok⟩, L4⟩
end
end Go.Proofs.Ytlepgfccnfcagaa
