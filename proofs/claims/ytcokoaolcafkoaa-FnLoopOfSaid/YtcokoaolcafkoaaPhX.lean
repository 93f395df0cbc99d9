/- tables: LoopOf of both -/
import Derived.Test.YtcokoaolcafkoaaPhW
namespace Go.Proofs.Ytcokoaolcafkoaa
open Go.RowKit
/-- the place of the first loop of some lines -/
def loN (p : List Lin) : List Nat → Int → Int
  | [], _ => -1
  | x :: r, k => if knd p x = 12 then k else loN p r (k + 1)
/-- the first loop of some lines -/
def loA (p : List Lin) : List Nat → Int
  | [] => -1
  | x :: r => if knd p x = 12 then (x : Int) else loA p r
theorem loN_at {p : List Lin} {L : List Nat} {k : Nat} (h : k < L.length) (z : Int) : loN p (L.drop k) z = if knd p L[k] = 12 then z else loN p (L.drop (k + 1)) (z + 1) := by rw [List.drop_eq_getElem_cons h]; rfl
theorem loN_end {p : List Lin} {L : List Nat} {k : Nat} (h : ¬ k < L.length) (z : Int) : loN p (L.drop k) z = -1 := by rw [List.drop_eq_nil_of_le (by omega)]; rfl
theorem loA_at {p : List Lin} {L : List Nat} {k : Nat} (h : k < L.length) : loA p (L.drop k) = if knd p L[k] = 12 then (L[k] : Int) else loA p (L.drop (k + 1)) := by rw [List.drop_eq_getElem_cons h]; rfl
theorem loA_end {p : List Lin} {L : List Nat} {k : Nat} (h : ¬ k < L.length) : loA p (L.drop k) = -1 := by rw [List.drop_eq_nil_of_le (by omega)]; rfl
theorem lo_two (p : List Lin) : ∀ (L : List Nat) (z : Nat), (loN p L z = -1 ∧ loA p L = -1) ∨ ∃ j : Nat, ∃ h : j < L.length, loN p L z = ((z + j : Nat) : Int) ∧ loA p L = (L[j] : Int)
  | [], z => .inl ⟨rfl, rfl⟩
  | x :: r, z => by
    unfold loN loA
    by_cases h : knd p x = 12
    · rw [if_pos h, if_pos h]
      exact .inr ⟨0, by simp, by simp, rfl⟩
    · rw [if_neg h, if_neg h]
      rcases lo_two p r (z + 1) with ⟨h1, h2⟩ | ⟨j, hj, h1, h2⟩
      · exact .inl ⟨h1, h2⟩
      · exact .inr ⟨j + 1, by simpa using hj, by rw [show ((z : Int) + 1) = ((z + 1 : Nat) : Int) by omega, h1]; omega, by rw [h2]; rfl⟩
theorem closureL_any (A : Option Addr) (n cap : Nat) (p : List Lin) (x : Nat) (hx : x < p.length) (g : Nat) (w : World) (hR : Sl w A n cap p) (hg : w.cell? ⟨g, 0, none⟩ = some (.slice A n cap)) :
    Calls Try.prog 103 #[.int .i64 x, .pointer (some ⟨g, 0, none⟩)] w fun e w' => e = .returned (.bool (p[x].kind == 12)) ∧ Le w w' := by
  obtain rfl := hR.len
  obtain ⟨b, off, rfl, hb, c0, c1, -⟩ := hR.lin_at hx
  have hx0 : (0 : Int) ≤ (x : Int) := by omega
  have hxn : (x : Int) < (p.length : Int) := by omega
  go_enter Try.func103, Try.ntmps103
  go_wp2
  go_ret
  exact ⟨rfl, Le.refl _⟩
set_option maxHeartbeats 1000000 in
theorem indexFuncL_any (A C : Option Addr) (n cap m c : Nat) (p : List Lin) (L : List Nat) (g : Nat) (w : World) (hR : Sl w A n cap p) (hL : Sl w C m c (nI L)) (hlt : ∀ x ∈ L, x < p.length) (hg : w.cell? ⟨g, 0, none⟩ = some (.slice A n cap)) (hgl : g < w.heap.size) :
    Calls Try.prog 102 #[.slice C m c, .func (.func 103) #[] #[.pointer (some ⟨g, 0, none⟩)]] w fun e w' => e = .returned (.int .i64 (loN p L 0)) ∧ Le w w' := by
  obtain rfl := hR.len
  have hlen := hL.len
  rw [nI_len] at hlen
  obtain rfl := hlen
  have hm := hL.n_le
  have HLT := Lib.hid hlt; clear hlt
  go_enter Try.func102, Try.ntmps102
  go_wp2
  go_loopw [8] (fun i wr => ∃ k : Nat, k ≤ L.length ∧ i = .int .i64 k ∧ loN p L 0 = loN p (L.drop k) k ∧ Le w wr) (fun i _ => L.length - (intOf i).toNat)
  case atStart => exact ⟨0, Nat.zero_le _, rfl, rfl, Le.refl _⟩
  case round =>
    obtain ⟨k, hk, rfl, hr, hle⟩ := hrel
    have HR := Lib.hid hr; clear hr
    have hRr := hR.le hle
    have hLr := hL.le hle
    have hgr := (hle.cell hgl).trans hg
    clear hR hL hg
    by_cases hl : k < L.length
    · obtain ⟨b, off, rfl, _, hcell, -⟩ := hLr.int_at (k := k) (by rw [nI_len]; exact hl)
      rw [nI_at hl] at hcell
      have hx := HLT.out L[k] (List.getElem_mem hl)
      have HK := Lib.hid (knd_at hx)
      have HC := Lib.hid (fun U (hU : Sl U A p.length cap p) (hc : U.cell? ⟨g, 0, none⟩ = some (.slice A p.length cap)) => closureL_any A p.length cap p L[k] hx g U hU hc)
      have HN := Lib.hid (loN_at (p := p) hl (k : Int))
      generalize L[k] = x at *
      generalize p[x].kind = vk at *
      by_cases he : vk = 12
      · have he' : (vk == 12) = true := by simpa using he
        have HF : Hid (loN p L 0 = k) := by show _ = _; rw [HR.out, HN.out, HK.out, if_pos he]
        clear he
        go_wp2_with (go_at_call 103; refine (HC.out _ hRr hgr).mono ?_; rintro e w' ⟨rfl, hw1⟩)
        go_ret
        exact ⟨ret_int HF.out.symm, hle.trans hw1⟩
      · have he' : (vk == 12) = false := by simpa using he
        have HF : Hid (loN p L 0 = loN p (L.drop (k + 1)) ((k + 1 : Nat) : Int)) := by show _ = _; rw [HR.out, HN.out, HK.out, if_neg he]; rfl
        clear he
        go_wp2_with (go_at_call 103; refine (HC.out _ hRr hgr).mono ?_; rintro e w' ⟨rfl, hw1⟩)
        go_roundw
        case rel => exact ⟨k + 1, by omega, by go_num, HF.out, hle.trans hw1⟩
        case measure => simp [intOf]; omega
    · have HF : Hid (loN p L 0 = -1) := by show _ = _; rw [HR.out, loN_end hl]
      go_wp2
      go_ret
      exact ⟨ret_int HF.out.symm, hle⟩
theorem loopAt_any (A C : Option Addr) (n cap m c : Nat) (p : List Lin) (L : List Nat) (w : World) (hR : Sl w A n cap p) (hL : Sl w C m c (nI L)) (hlt : ∀ x ∈ L, x < p.length) :
    Calls Try.prog 64 #[.slice A n cap, .slice C m c] w fun e w' => e = .returned (.int .i64 (loN p L 0)) ∧ Le w w' := by
  go_enter Try.func64, Try.ntmps64
  go_wp2_with fail
  refine (indexFuncL_any A C n cap m c p L _ _ (hR.alloc _) (hL.alloc _) hlt (by simp) (by simp)).mono ?_
  rintro e w' ⟨rfl, hw1⟩
  go_wp2
  go_ret
  exact ⟨rfl, (Le.new w _).trans hw1⟩
def loX (xs : List Cls) (p : List Lin) (i : Int) : Int := cond (glB xs p i) (loA p (encl p i.toNat)) (-1)
set_option maxHeartbeats 1000000 in
theorem iLoopOf_any (B A : Option Addr) (m c n cap : Nat) (xs : List Cls) (p : List Lin) (i : Int) (hm : m ≤ 1048576) (w : World) (hT : Sl w B m c xs) (hR : Sl w A n cap p) :
    Calls Try.prog 26 #[.agg #[.slice B m c], .slice A n cap, .int .i64 i] w fun e w' => e = .returned (.int .i64 (loX xs p i)) ∧ Le w w' := by
  have HX : Hid (loX xs p i = cond (glB xs p i) (loA p (encl p i.toNat)) (-1)) := rfl
  go_enter Try.func26, Try.ntmps26
  go_wp2_with fail
  obtain ⟨ct, zt, hleB⟩ := box1 w (.slice B m c) 25
  have L0 := hleB
  clear hleB
  generalize w.alloc (.cells #[.slice B m c] 25) = W at *
  refine (hasLine_any B A m c n cap xs p i hm _ (hT.le L0) (hR.le L0)).mono ?_
  rintro e w1 ⟨rfl, hle⟩
  have L1 := L0.trans hle
  cases h : glB xs p i
  · have HF : Hid (loX xs p i = -1) := by show _ = _; rw [HX.out, h]; rfl
    go_wp2
    go_ret
    exact ⟨ret_int HF.out.symm, L1⟩
  · obtain ⟨h1, k, rfl, hk⟩ := glB_iff.1 h
    have hp := (goodP_of h1).len
    have HY : Hid (loX xs p k = loA p (encl p k)) := by show _ = _; rw [HX.out, h]; rfl
    have HEL : Hid (∀ x ∈ encl p k, x < p.length) := fun x hx => by have := encl_lt x hx; omega
    clear HX
    go_wp2_with fail
    refine (headsOf_any A n cap p k hk (by omega) w1 (hR.le L1)).mono ?_
    rintro e w2 ⟨v, rfl, D, hle2⟩
    obtain ⟨A2, q2, rfl, S2, -⟩ := D.form (by decide)
    have L2 := L1.trans hle2
    rw [nI_len] at S2 ⊢
    have hel := encl_len p k
    generalize encl p k = E at *
    clear D
    go_wp2_with fail
    refine (loopAt_any A A2 n cap _ q2 p E w2 (hR.le L2) S2 HEL.out).mono ?_
    rintro e w3 ⟨rfl, hle3⟩
    have L3 := L2.trans hle3
    have S3 := S2.le hle3
    rcases lo_two p E 0 with ⟨h2, h3⟩ | ⟨j, hj, h2, h3⟩
    · have h2' : loN p E 0 = -1 := h2
      rw [h2']
      have HF : Hid (loX xs p k = -1) := by show _ = _; rw [HY.out, h3]
      clear h2 h2' h3
      go_wp2
      go_ret
      exact ⟨ret_int HF.out.symm, L3⟩
    · have h2' : loN p E 0 = (j : Int) := by rw [show (0 : Int) = ((0 : Nat) : Int) from rfl, h2]; omega
      rw [h2']
      have HF : Hid (loX xs p k = (E[j] : Int)) := by show _ = _; rw [HY.out, h3]
      obtain ⟨b, off, rfl, hb, hc, -⟩ := S3.int_at (k := j) (by rw [nI_len]; exact hj)
      rw [nI_at hj] at hc
      generalize E[j] = x at *
      have hj0 : (0 : Int) ≤ (j : Int) := by omega
      have hjn : (j : Int) < (E.length : Int) := by omega
      clear h2 h2' h3
      go_wp2
      go_ret
      exact ⟨ret_int HF.out.symm, L3⟩
set_option maxHeartbeats 1000000 in
theorem sLoopOf_any (B A : Option Addr) (m c n cap : Nat) (xs : List Cls) (p : List Lin) (i : Int) (hsm : p.length ≤ 1048576) (w : World) (hT : Sl w B m c xs) (hR : Sl w A n cap p) :
    Calls Try.prog 27 #[.agg #[.slice B m c], .slice A n cap, .int .i64 i] w fun e w' => e = .returned (.int .i64 (loX xs p i)) ∧ Le w w' := by
  have HX : Hid (loX xs p i = cond (glB xs p i) (loA p (encl p i.toNat)) (-1)) := rfl
  go_enter Try.func27, Try.ntmps27
  go_wp2_with fail
  obtain ⟨ct, zt, hleB⟩ := box1 w (.slice B m c) 25
  have L0 := hleB
  clear hleB
  generalize w.alloc (.cells #[.slice B m c] 25) = W at *
  refine (goodLine_any B A m c n cap xs p i hsm _ (hT.le L0) (hR.le L0)).mono ?_
  rintro e w1 ⟨rfl, hle⟩
  have L1 := L0.trans hle
  cases h : glB xs p i
  · have HF : Hid (loX xs p i = -1) := by show _ = _; rw [HX.out, h]; rfl
    go_wp2
    go_ret
    exact ⟨ret_int HF.out.symm, L1⟩
  · obtain ⟨h1, k, rfl, hk⟩ := glB_iff.1 h
    have hp := (goodP_of h1).len
    have HY : Hid (loX xs p k = loA p (encl p k)) := by show _ = _; rw [HX.out, h]; rfl
    have HEL : Hid (∀ x ∈ encl p k, x < p.length) := fun x hx => by have := encl_lt x hx; omega
    clear HX
    go_wp2_with fail
    refine (enclosing_any A n cap p k hk (by omega) w1 (hR.le L1)).mono ?_
    rintro e w2 ⟨v, rfl, D, hle2⟩
    obtain ⟨A2, q2, rfl, S2, -⟩ := D.form (by decide)
    have L2 := L1.trans hle2
    rw [nI_len] at S2 ⊢
    have hel := encl_len p k
    generalize encl p k = E at *
    obtain rfl := hR.len
    have S0 := hR.le L2
    clear D hR
    go_wp2
    go_loopw [8] (fun q wr => ∃ j : Nat, j ≤ E.length ∧ q = .int .i64 j ∧ loA p E = loA p (E.drop j) ∧ Le w2 wr) (fun q _ => E.length - (intOf q).toNat)
    case atStart => exact ⟨0, Nat.zero_le _, rfl, rfl, Le.refl _⟩
    case round =>
      obtain ⟨j, hj, rfl, hr, hle3⟩ := hrel
      have HR := Lib.hid hr; clear hr
      have T := S0.le hle3
      have S3 := S2.le hle3
      clear S2 S0
      by_cases hl : j < E.length
      · obtain ⟨b, off, rfl, _, hcell, -⟩ := S3.int_at (k := j) (by rw [nI_len]; exact hl)
        rw [nI_at hl] at hcell
        have hx := HEL.out E[j] (List.getElem_mem hl)
        have HK := Lib.hid (knd_at hx)
        have HN := Lib.hid (loA_at (p := p) hl)
        obtain ⟨b2, off2, rfl, _, d0, d1, -⟩ := T.lin_at hx
        generalize E[j] = x at *
        generalize p[x].kind = vk at *
        have hx0 : (0 : Int) ≤ (x : Int) := by omega
        have hxn : (x : Int) < (p.length : Int) := by omega
        by_cases he : vk = 12
        · have he' : (vk == 12) = true := by simpa using he
          have HF : Hid (loX xs p k = (x : Int)) := by show _ = _; rw [HY.out, HR.out, HN.out, HK.out, if_pos he]
          clear he
          go_wp2
          go_ret
          exact ⟨ret_int HF.out.symm, L2.trans hle3⟩
        · have he' : (vk == 12) = false := by simpa using he
          have HF : Hid (loA p E = loA p (E.drop (j + 1))) := by show _ = _; rw [HR.out, HN.out, HK.out, if_neg he]
          clear he
          go_wp2
          go_roundw
          case rel => exact ⟨j + 1, by omega, by go_num, HF.out, hle3⟩
          case measure => simp [intOf]; omega
      · have HF : Hid (loX xs p k = -1) := by show _ = _; rw [HY.out, HR.out, loA_end hl]
        go_wp2
        go_ret
        exact ⟨ret_int HF.out.symm, L2.trans hle3⟩
end Go.Proofs.Ytcokoaolcafkoaa
