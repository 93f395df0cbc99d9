/- tables: TryOf of both -/
import Derived.Test.YtcokoaolcafkoaaPhW
import Derived.Test.YtcokoaolcafkoaaIx
import Derived.Test.YtcokoaolcafkoaaPhE
import Derived.Test.YtcokoaolcafkoaaPhJ
namespace Go.Proofs.Ytcokoaolcafkoaa
open Go.RowKit
set_option maxHeartbeats 1000000 in
theorem tryOf_any (A : Option Addr) (n cap : Nat) (p : List Lin) (i j : Nat) (hi : i < p.length) (ht : IsTry p j i) (hsm : p.length ≤ 1048576) (w : World) (hR : Sl w A n cap p) :
    Calls Try.prog 63 #[.slice A n cap, .int .i64 i] w fun e w' => e = .returned (.int .i64 j) ∧ Le w w' := by
  obtain rfl := hR.len
  go_enter Try.func63, Try.ntmps63
  go_wp2
  go_loopw [1] (fun ii wr => ∃ x : Nat, ii = .int .i64 x ∧ x < p.length ∧ IsTry p j x ∧ Le w wr) (fun ii _ => (intOf ii + 1).toNat)
  case atStart => exact ⟨i, rfl, hi, ht, Le.refl _⟩
  case round =>
    obtain ⟨x, rfl, hx, hty, hle⟩ := hrel
    have T := hR.le hle
    obtain ⟨b, off, rfl, hb, d0, d1, -⟩ := T.lin_at hx
    have hx0 : (0 : Int) ≤ (x : Int) := by omega
    have hxn : (x : Int) < (p.length : Int) := by omega
    rcases try_step hty with ⟨h7, rfl⟩ | ⟨hf, y, hy, hyx, -, hty2⟩
    · rw [knd_at hx] at h7
      rw [h7] at d1
      have h7b : ((7 : Int) != 7) = false := rfl
      clear h7 ht hty
      go_wp2
      go_ret
      exact ⟨rfl, hle⟩
    · rw [knd_at hx] at hf
      have h7b : (p[x].kind != 7) = true := by
        have := fol_iff.1 hf
        simp; omega
      have HTY := Lib.hid hty2
      have HY := Lib.hid hy
      generalize p[x].kind = vk at *
      clear hf ht hty hty2 hy
      generalize wr = W0 at *
      go_wp2_with fail
      refine (headOf_any _ p.length cap p x hx (by omega) W0 T).mono ?_
      rintro e w2 ⟨rfl, hle2⟩
      rw [HY.out]
      go_wp2
      go_roundw
      case rel => exact ⟨y, rfl, by omega, HTY.out, hle.trans hle2⟩
      case measure => simp [intOf]; omega
def tyX (xs : List Cls) (p : List Lin) (i : Int) : List Int := cond (glB xs p i) (match tryAt p i.toNat with | some j => nI (parts p j) | none => []) []
theorem tyX_len (xs : List Cls) (p : List Lin) (i : Int) : (tyX xs p i).length ≤ 1048576 := by
  unfold tyX
  cases h : glB xs p i
  · simp
  · obtain ⟨h1, k, rfl, hk⟩ := glB_iff.1 h
    have h2 := (goodP_of h1).len
    show (match tryAt p (k : Int).toNat with | some j => nI (parts p j) | none => []).length ≤ _
    cases tryAt p (k : Int).toNat with
    | none => simp
    | some j =>
      have := parts_len p j
      show (nI _).length ≤ _
      rw [nI_len]; omega
theorem tyX_none {xs : List Cls} {p : List Lin} {k : Nat} (h : glB xs p k = true) (h2 : tryAt p k = none) : tyX xs p k = [] := by
  unfold tyX; rw [h, Int.toNat_natCast, h2]; rfl
theorem tyX_some {xs : List Cls} {p : List Lin} {k j : Nat} (h : glB xs p k = true) (h2 : tryAt p k = some j) : tyX xs p k = nI (parts p j) := by
  unfold tyX; rw [h, Int.toNat_natCast, h2]; rfl
set_option maxHeartbeats 1000000 in
theorem sTryOf_any (B A : Option Addr) (m c n cap : Nat) (xs : List Cls) (p : List Lin) (i : Int) (hsm : p.length ≤ 1048576) (w : World) (hT : Sl w B m c xs) (hR : Sl w A n cap p) :
    Calls Try.prog 22 #[.agg #[.slice B m c], .slice A n cap, .int .i64 i] w fun e w' => ∃ v, e = .returned v ∧ Owd 3 w w' v (tyX xs p i) ∧ Le w w' := by
  have HX : Hid (tyX xs p i = cond (glB xs p i) (match tryAt p i.toNat with | some j => nI (parts p j) | none => []) []) := rfl
  go_enter Try.func22, Try.ntmps22
  go_wp2_with fail
  obtain ⟨ct, zt, hleB⟩ := box1 w (.slice B m c) 25
  have L0 := hleB
  clear hleB
  generalize w.alloc (.cells #[.slice B m c] 25) = W at *
  refine (goodLine_any B A m c n cap xs p i hsm _ (hT.le L0) (hR.le L0)).mono ?_
  rintro e w1 ⟨rfl, hle⟩
  have L1 := L0.trans hle
  cases h : glB xs p i
  · have HO : Hid (Owd 3 w w1 (.slice none 0 0) (tyX xs p i)) := by show Owd _ _ _ _ _; rw [HX.out, h]; exact Owd.nil _ _ _
    go_wp2
    go_ret
    exact ⟨_, rfl, HO.out, L1⟩
  · obtain ⟨h1, k, rfl, hk⟩ := glB_iff.1 h
    have g := goodP_of h1
    have HN : Hid (tryAt p k = none → tyX xs p k = []) := tyX_none h
    have HS : Hid (∀ j, tryAt p k = some j → tyX xs p k = nI (parts p j)) := fun j => tyX_some h
    have HC : Hid (∀ j, j < p.length → chain p j = parts p j) := fun j hj => chain_parts g.tries hj
    have HT : Hid (knd p k = 7 ∨ fol (knd p k) = true → ∃ j, tryAt p k = some j) := tryAt_has g.tries hk
    have HTK : Hid (∀ j, tryAt p k = some j → knd p k = 7 ∨ fol (knd p k) = true) := fun j => tryAt_kind
    have HK := Lib.hid (knd_at hk)
    obtain rfl := hR.len
    have S1 := hR.le L1
    obtain ⟨b, off, rfl, hb, d0, d1, -⟩ := S1.lin_at hk
    have hk0 : (0 : Int) ≤ (k : Int) := by omega
    have hkn : (k : Int) < (p.length : Int) := by omega
    have hp24 := g.len
    generalize p[k].kind = vk at *
    clear HX g h h1 hle
    cases ht : tryAt p k with
    | none =>
      have HF := HN.out ht
      have HO : Hid (Owd 3 w w1 (.slice none 0 0) (tyX xs p k)) := by show Owd _ _ _ _ _; rw [HF]; exact Owd.nil _ _ _
      have hno : ¬ (vk = 7 ∨ fol vk = true) := fun e => by obtain ⟨j, hj⟩ := HT.out (by rw [HK.out]; exact e); rw [ht] at hj; cases hj
      have h7b : (vk != 7) = true := by simpa using fun e => hno (.inl e)
      have hf : fol vk = false := by
        cases e : fol vk
        · rfl
        · exact absurd (.inr e) hno
      clear HF hno ht
      go_wp2_with fail
      refine (follows_any vk w1).mono ?_
      rintro e w2 ⟨rfl, rfl⟩
      rw [hf]
      go_wp2
      go_ret
      exact ⟨_, rfl, HO.out, L1⟩
    | some j =>
      have hkd := HTK.out j ht
      rw [HK.out] at hkd
      have hj : j < p.length := by have := try_le k k (Nat.le_refl _) (tryAt_is ht); omega
      have HE := Lib.hid (HS.out j ht)
      have hcj := HC.out j hj
      have hit := tryAt_is ht
      have HIT := Lib.hid hit
      have HCJ := Lib.hid hcj
      clear ht hit hcj
      rcases hkd with rfl | hf
      · go_wp2_with fail
        refine (tryOf_any _ p.length cap p k j hk HIT.out (by omega) w1 S1).mono ?_
        rintro e w2 ⟨rfl, hle2⟩
        go_wp2_with fail
        refine (chainOf_any _ p.length cap p j hj (by omega) w2 (S1.le hle2)).mono ?_
        rintro e w3 ⟨v, rfl, D, hle3⟩
        rw [HCJ.out] at D
        have HO : Hid (Owd 3 w w3 v (tyX xs p k)) := by show Owd _ _ _ _ _; rw [HE.out]; exact D.mono (L1.trans hle2)
        go_wp2
        go_ret
        exact ⟨_, rfl, HO.out, (L1.trans hle2).trans hle3⟩
      · have h7b : (vk != 7) = true := by have := fol_iff.1 hf; simp; omega
        go_wp2_with fail
        refine (follows_any vk w1).mono ?_
        rintro e w2 ⟨rfl, rfl⟩
        rw [hf]
        go_wp2_with fail
        refine (tryOf_any _ p.length cap p k j hk HIT.out (by omega) w1 S1).mono ?_
        rintro e w2 ⟨rfl, hle2⟩
        go_wp2_with fail
        refine (chainOf_any _ p.length cap p j hj (by omega) w2 (S1.le hle2)).mono ?_
        rintro e w3 ⟨v, rfl, D, hle3⟩
        rw [HCJ.out] at D
        have HO : Hid (Owd 3 w w3 v (tyX xs p k)) := by show Owd _ _ _ _ _; rw [HE.out]; exact D.mono (L1.trans hle2)
        go_wp2
        go_ret
        exact ⟨_, rfl, HO.out, (L1.trans hle2).trans hle3⟩
theorem nI_contains (L : List Nat) (x : Nat) : (nI L).contains (x : Int) = L.contains x := by
  rw [Bool.eq_iff_iff, List.contains_iff_mem, List.contains_iff_mem]
  unfold nI
  rw [List.mem_map]
  exact ⟨fun ⟨y, hy, e⟩ => by rw [← Int.ofNat.inj e]; exact hy, fun h => ⟨x, h, rfl⟩⟩
theorem tyGo_yes {p : List Lin} {i j : Nat} (h7 : knd p j = 7) (hm : (parts p j).contains i = true) : tyGo p i (j + 1) = some j := by
  unfold tyGo; rw [if_pos ⟨h7, List.contains_iff_mem.1 hm⟩]
theorem tyGo_no {p : List Lin} {i j : Nat} (h : knd p j ≠ 7 ∨ (parts p j).contains i = false) : tyGo p i (j + 1) = tyGo p i j := by
  show (if _ then _ else _) = _
  rw [if_neg]
  rintro ⟨h1, h2⟩
  rcases h with h | h
  · exact h h1
  · rw [List.contains_iff_mem.2 h2] at h; cases h
set_option maxHeartbeats 1000000 in
theorem iTryOf_any (B A : Option Addr) (m c n cap : Nat) (xs : List Cls) (p : List Lin) (i : Int) (hm : m ≤ 1048576) (w : World) (hT : Sl w B m c xs) (hR : Sl w A n cap p) :
    Calls Try.prog 21 #[.agg #[.slice B m c], .slice A n cap, .int .i64 i] w fun e w' => ∃ v, e = .returned v ∧ Owd 3 w w' v (tyX xs p i) ∧ Le w w' := by
  have HX : Hid (tyX xs p i = cond (glB xs p i) (match tryAt p i.toNat with | some j => nI (parts p j) | none => []) []) := rfl
  go_enter Try.func21, Try.ntmps21
  go_wp2_with fail
  obtain ⟨ct, zt, hleB⟩ := box1 w (.slice B m c) 25
  have L0 := hleB
  clear hleB
  generalize w.alloc (.cells #[.slice B m c] 25) = W at *
  refine (hasLine_any B A m c n cap xs p i hm _ (hT.le L0) (hR.le L0)).mono ?_
  rintro e w1 ⟨rfl, hle⟩
  have L1 := L0.trans hle
  cases h : glB xs p i
  · have HO : Hid (Owd 3 w w1 (.slice none 0 0) (tyX xs p i)) := by show Owd _ _ _ _ _; rw [HX.out, h]; exact Owd.nil _ _ _
    go_wp2
    go_ret
    exact ⟨_, rfl, HO.out, L1⟩
  · obtain ⟨h1, k, rfl, hk⟩ := glB_iff.1 h
    have hp24 := (goodP_of h1).len
    have HN : Hid (tryAt p k = none → tyX xs p k = []) := tyX_none h
    have HS : Hid (∀ j, tryAt p k = some j → tyX xs p k = nI (parts p j)) := fun j => tyX_some h
    obtain rfl := hR.len
    have S1 := hR.le L1
    have HT0 : Hid (tryAt p k = tyGo p k (k + 1)) := rfl
    clear HX h h1 hle hT hR
    go_wp2
    go_loopw [7, 8] (fun q _ wr => ∃ x : Nat, x ≤ p.length ∧ q = .int .i64 ((x : Int) - 1) ∧ tryAt p k = tyGo p k x ∧ Le w1 wr) (fun q _ _ => (intOf q + 1).toNat)
    case atStart => exact ⟨k + 1, by omega, by congr 1; omega, HT0.out, Le.refl _⟩
    case round =>
      obtain ⟨x, hx, rfl, he, hle⟩ := hrel
      have HE := Lib.hid he
      have T := S1.le hle
      clear he HT0
      cases x with
      | zero =>
        have HF := HN.out (by rw [HE.out]; rfl)
        have HO : Hid (Owd 3 w wr (.slice none 0 0) (tyX xs p k)) := by show Owd _ _ _ _ _; rw [HF]; exact Owd.nil _ _ _
        have hneg : ¬ (0 : Int) ≤ ((0 : Nat) : Int) - 1 := by omega
        clear HF
        go_wp2
        go_ret
        exact ⟨_, rfl, HO.out, L1.trans hle⟩
      | succ j =>
        have hjl : j < p.length := by omega
        have hjj : (((j + 1 : Nat) : Int) - 1) = (j : Int) := by omega
        have hj0 : (0 : Int) ≤ (j : Int) := by omega
        have hjn : (j : Int) < (p.length : Int) := by omega
        have hwj : IntKind.i64.wrap ((j : Int) - 1) = (j : Int) - 1 := IntWalk.i64_in _ (by omega)
        rw [hjj]
        obtain ⟨b, off, rfl, hb, d0, d1, -⟩ := T.lin_at hjl
        have HK := Lib.hid (knd_at hjl)
        have HGY := Lib.hid (tyGo_yes (p := p) (i := k) (j := j))
        have HGN := Lib.hid (tyGo_no (p := p) (i := k) (j := j))
        have hplen := parts_len p j
        generalize p[j].kind = vk at *
        by_cases h7 : vk = 7
        · subst h7
          go_wp2_with fail
          refine (partsOf_any _ p.length cap p j hjl (by omega) wr T).mono ?_
          rintro e w2 ⟨v, rfl, D, hle2⟩
          have HD := Lib.hid D
          obtain ⟨A2, q2, rfl, S2, -⟩ := D.form (by decide)
          have HNC := Lib.hid (nI_contains (parts p j) k)
          rw [nI_len] at S2 ⊢
          clear D
          go_wp2_with fail
          refine (iContains_any A2 _ q2 (nI (parts p j)) k w2 S2 (by omega)).mono ?_
          rintro e w3 ⟨rfl, rfl⟩
          rw [HNC.out]
          cases hc : (parts p j).contains k
          · have HF : Hid (tryAt p k = tyGo p k j) := by show _ = _; rw [HE.out, HGN.out (.inr hc)]
            go_wp2
            go_roundw
            case rel => exact ⟨j, by omega, by go_num, HF.out, hle.trans hle2⟩
            case measure => simp [intOf]
          · have HF := HS.out j (by rw [HE.out, HGY.out HK.out hc])
            have HO : Hid (Owd 3 w w2 (.slice A2 (parts p j).length q2) (tyX xs p k)) := by
              show Owd _ _ _ _ _
              rw [HF]
              have := HD.out.mono (L1.trans hle)
              rw [nI_len] at this
              exact this
            clear HF
            go_wp2
            go_ret
            exact ⟨_, rfl, HO.out, (L1.trans hle).trans hle2⟩
        · have h7b : (vk != 7) = true := by simpa using h7
          have HF : Hid (tryAt p k = tyGo p k j) := by show _ = _; rw [HE.out, HGN.out (.inl (by rw [HK.out]; exact h7))]
          go_wp2
          go_roundw
          case rel => exact ⟨j, by omega, by go_num, HF.out, hle⟩
          case measure => simp [intOf]
end Go.Proofs.Ytcokoaolcafkoaa
