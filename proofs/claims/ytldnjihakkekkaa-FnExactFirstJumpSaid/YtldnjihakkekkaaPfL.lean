/- tables: FirstJump of the program -/
import Derived.Test.YtldnjihakkekkaaPfK
import Derived.Test.YtldnjihakkekkaaPhPs
import Derived.Test.YtldnjihakkekkaaPhH
namespace Go.Proofs.Ytldnjihakkekkaa
open Go.RowKit
set_option maxHeartbeats 4000000 in
set_option maxRecDepth 100000 in
theorem iFirstJump_any (B A : Option Addr) (m c n cap : Nat) (xs : List Cls) (p : List Lin) (hm : m ≤ 1048576) (w : World) (hT : Sl w B m c xs) (hR : Sl w A n cap p) :
    Calls Try.prog 10 #[.agg #[.slice B m c], .slice A n cap] w fun e w' => e = .returned (.int .i64 (fjX xs p)) ∧ Le w w' := by
  have HX : Hid (fjX xs p = cond (vp xs p) (scn p 0 p.length) (-1)) := rfl
  go_enter Try.func10, Try.ntmps10
  go_wp2_with fail
  obtain ⟨ct, zt, hleB⟩ := box1 w (.slice B m c) 31
  have L0 := hleB
  clear hleB
  generalize w.alloc (.cells #[.slice B m c] 31) = W at *
  refine (pValidProgram_any B A m c n cap xs p hm _ (hT.le L0) (hR.le L0)).mono ?_
  rintro e w1 ⟨rfl, hle⟩
  have L1 := L0.trans hle
  cases h : vp xs p
  · have HF : Hid (fjX xs p = -1) := by show _ = _; rw [HX.out, h]; rfl
    go_wp2
    go_ret
    exact ⟨ret_int HF.out.symm, L1⟩
  · have HY : Hid (fjX xs p = scn p 0 p.length) := by show _ = _; rw [HX.out, h]; rfl
    have hp := (goodP_of h).len
    obtain rfl := hR.len
    have S1 := hR.le L1
    clear HX h hT hR hle ct zt
    go_wp2
    go_loopw [5, 6] (fun ii _ wr => ∃ i : Nat, ii = .int .i64 i ∧ i ≤ p.length ∧ fjX xs p = scn p i p.length ∧ Le w1 wr) (fun ii _ _ => p.length - (intOf ii).toNat)
    case atStart => exact ⟨0, rfl, Nat.zero_le _, HY.out, Le.refl _⟩
    case round =>
      obtain ⟨i, rfl, hip, hsc, LW⟩ := hrel
      have HSC := Lib.hid hsc
      clear hsc
      have SR := S1.le LW
      by_cases hlt : i < p.length
      · obtain ⟨b, off, rfl, hb, d0, d1, d2, d3, -⟩ := SR.lin_at hlt
        have hx0 : (0 : Int) ≤ (i : Int) := by omega
        have hxn : (i : Int) < (p.length : Int) := by omega
        have HS := Lib.hid (scn_at (p := p) hlt)
        have HLZ : Hid (lpz p i = (decide (p[i].kind = 12) && decide (p[i].a = 0))) := by show _ = _; unfold lpz; rw [knd_at hlt, lnA_at hlt]
        have HK := Lib.hid (knd_at hlt)
        have hbe := bEnd_le hlt
        have hbg := bEnd_gt p i
        rw [HLZ.out, HK.out] at HS
        generalize p[i].depth = v0 at *
        generalize p[i].kind = v1 at *
        generalize p[i].a = v2 at *
        generalize p[i].b = v3 at *
        obtain ⟨x0, x1, z0, LX⟩ := box4 wr (.int .i64 v0) (.int .i64 v1) (.int .i64 v2) (.int .i64 v3) 49
        obtain ⟨x2, x3⟩ := box4b wr (.int .i64 v0) (.int .i64 v1) (.int .i64 v2) (.int .i64 v3) 49
        have SR2 := SR.le LX
        have L2 := LW.trans LX
        have hwi : IntKind.i64.wrap ((i : Int) + 1) = (i : Int) + 1 := IntWalk.i64_in _ (by omega)
        go_wp2_with fail
        refine (ijumps_any v1 _).mono ?_
        rintro e w' ⟨rfl, rfl⟩
        cases hj : jmpK v1
        · by_cases h8 : v1 = 8
          · have hb8 : (v1 == 8) = true := by rw [h8]; rfl
            have HF : Hid (fjX xs p = scn p (bEnd p i) p.length) := by show _ = _; rw [HSC.out, HS.out, if_neg (by rw [hj]; decide), if_pos (.inl h8)]
            clear HS hj
            subst h8
            go_wp2_with fail
            refine (iBlockEnd_any _ p.length cap p i hlt _ SR2).mono ?_
            rintro e w5 ⟨rfl, hle5⟩
            go_wp2
            go_roundw
            case rel => exact ⟨bEnd p i, rfl, by omega, HF.out, L2.trans hle5⟩
            case measure => simp [intOf]; omega
          · have hb8 : (v1 == 8) = false := bf h8
            by_cases h12 : v1 = 12
            · have hb12 : (v1 == 12) = true := by rw [h12]; rfl
              by_cases ha : v2 = 0
              · have hba : (v2 == 0) = true := by rw [ha]; rfl
                have HF : Hid (fjX xs p = scn p (bEnd p i) p.length) := by show _ = _; rw [HSC.out, HS.out, if_neg (by rw [hj]; decide), if_pos (.inr (by rw [h12, ha]; rfl))]
                clear HS hj
                subst h12
                subst ha
                go_wp2_with fail
                refine (iBlockEnd_any _ p.length cap p i hlt _ SR2).mono ?_
                rintro e w5 ⟨rfl, hle5⟩
                go_wp2
                go_roundw
                case rel => exact ⟨bEnd p i, rfl, by omega, HF.out, L2.trans hle5⟩
                case measure => simp [intOf]; omega
              · have hba : (v2 == 0) = false := bf ha
                have HF : Hid (fjX xs p = scn p (i + 1) p.length) := by show _ = _; rw [HSC.out, HS.out, if_neg (by rw [hj]; decide), if_neg (by rw [decide_eq_false ha, Bool.and_false]; rintro (h | h); exact h8 h; cases h)]
                clear HS hj
                subst h12
                go_wp2
                go_roundw
                case rel => exact ⟨i + 1, by go_num, by omega, HF.out, L2⟩
                case measure => simp [intOf]; omega
            · have hb12 : (v1 == 12) = false := bf h12
              have HF : Hid (fjX xs p = scn p (i + 1) p.length) := by show _ = _; rw [HSC.out, HS.out, if_neg (by rw [hj]; decide), if_neg (by rw [decide_eq_false h12, Bool.false_and]; rintro (h | h); exact h8 h; cases h)]
              clear HS hj
              go_wp2
              go_roundw
              case rel => exact ⟨i + 1, by go_num, by omega, HF.out, L2⟩
              case measure => simp [intOf]; omega
        · have HF : Hid (fjX xs p = (i : Int)) := by show _ = _; rw [HSC.out, HS.out, if_pos hj]
          clear HS hj
          go_wp2
          go_ret
          exact ⟨ret_int HF.out.symm, L1.trans L2⟩
      · have hxn : ¬ (i : Int) < (p.length : Int) := by omega
        have HF : Hid (fjX xs p = -1) := by show _ = _; rw [HSC.out, scn_end hlt]
        go_wp2
        go_ret
        exact ⟨ret_int HF.out.symm, L1.trans LW⟩
end Go.Proofs.Ytldnjihakkekkaa
