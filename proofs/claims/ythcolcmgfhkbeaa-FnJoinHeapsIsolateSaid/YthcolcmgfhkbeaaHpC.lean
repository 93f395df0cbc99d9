/- spec.validHeap -/
import Derived.Test.YthcolcmgfhkbeaaHpB
namespace Go.Proofs.Ythcolcmgfhkbeaa
open Go.RowKit

set_option maxHeartbeats 4000000 in
set_option maxRecDepth 100000 in
theorem validHeap_any (A H : Option Addr) (n cap m c : Nat) (xs : List Cls) (hs : List Flt) (w : World) (hR : Sl w A n cap xs) (hH : Sl w H m c hs) (hm : m ≤ 2097152) :
    Calls Try.prog 15 #[.agg #[.slice A n cap], .agg #[.slice H m c]] w fun e w' => e = .returned (.bool (okHeap xs hs)) ∧ Le w w' := by
  obtain rfl := hH.len
  have HO : Hid (okHeap xs hs = (allF xs hs.length 0 (hs.drop 0) && (endsF hs 0 hs.length && okTree xs && decide (hs.length ≤ 24)))) := by
    show _ = _
    unfold okHeap; rw [List.drop_zero]; simp only [Bool.and_assoc]
  go_enter Try.func15, Try.ntmps15
  go_wp2
  obtain ⟨c0, z0, c1, z1, L0⟩ := box2 w (.slice A n cap) (.slice H hs.length c) 25 28
  generalize (w.alloc (.cells #[.slice A n cap] 25)).alloc (.cells #[.slice H hs.length c] 28) = W at *
  go_loopw [5] (fun q wr => ∃ k : Nat, k ≤ hs.length ∧ q = .int .i64 k ∧ allF xs hs.length 0 (hs.drop 0) = allF xs hs.length k (hs.drop k) ∧ Le W wr) (fun q _ => hs.length - (intOf q).toNat)
  case atStart => exact ⟨0, Nat.zero_le _, rfl, rfl, Le.refl _⟩
  case round =>
    obtain ⟨k, hk, rfl, hr, hle⟩ := hrel
    have HR := Lib.hid hr; clear hr
    have LW := L0
    replace c0 := (hle.cell z0).trans c0
    replace c1 := (hle.cell z1).trans c1
    replace z0 := Nat.lt_of_lt_of_le z0 hle.size
    replace z1 := Nat.lt_of_lt_of_le z1 hle.size
    replace L0 := L0.trans hle
    by_cases hlt : k < hs.length
    · obtain ⟨b, off, rfl, hb, k0, k1, k2, k3, k4, -⟩ := (hH.le L0).flt_at hlt
      have HX : Hid (allF xs hs.length 0 (hs.drop 0) = (fOk xs hs.length k hs[k] && allF xs hs.length (k + 1) (hs.drop (k + 1)))) := by show _ = _; rw [HR.out, allF_at hlt]
      have HFO : Hid (fOk xs hs.length k hs[k] = (hasK xs hs[k].cls && rng 0 99 hs[k].code && linksOk hs.length k hs[k])) := by show _ = _; rfl
      cases h1 : hasK xs hs[k].cls
      case' true => cases h2 : rng 0 99 hs[k].code
      case' true.true => cases h3 : linksOk hs.length k hs[k]
      all_goals
        have hx2 := HX.out.trans (by rw [HFO.out])
        rw [h1] at hx2
        try rw [h2] at hx2
        try rw [h3] at hx2
        have HY := Lib.hid hx2
        clear hx2
        go_wp2_with fail
        obtain ⟨d0, d1, d2, d3, d4, zd, hld⟩ := box5 wr (.int .i64 hs[k].cls) (.int .i64 hs[k].code) (.int .i64 hs[k].cause) (.int .i64 hs[k].ctx) (.bool hs[k].hide) 45
        replace c0 := (hld.cell z0).trans c0
        replace c1 := (hld.cell z1).trans c1
        replace z0 := Nat.lt_of_lt_of_le z0 hld.size
        replace z1 := Nat.lt_of_lt_of_le z1 hld.size
        have L2 := L0.trans hld
        replace hle := hle.trans hld
        clear hld k0 k1 k2 k3 k4
        generalize wr.alloc (.cells #[.int .i64 hs[k].cls, .int .i64 hs[k].code, .int .i64 hs[k].cause, .int .i64 hs[k].ctx, .bool hs[k].hide] 45) = W3 at *
        refine (hasClass_any A n cap xs _ _ (hR.le L2)).mono ?_
        rintro e w4 ⟨rfl, hle4⟩
        rw [h1]
        replace c0 := (hle4.cell z0).trans c0
        replace c1 := (hle4.cell z1).trans c1
        replace d1 := (hle4.cell zd).trans d1
        replace z0 := Nat.lt_of_lt_of_le z0 hle4.size
        replace z1 := Nat.lt_of_lt_of_le z1 hle4.size
        replace L2 := L2.trans hle4
        replace hle := hle.trans hle4
        clear hle4 d0 d2 d3 d4
        go_wp2_with fail
        first
          | (go_ret
             exact ⟨ret_bool (by rw [HO.out, HY.out]; simp), L2⟩)
          | (refine (rng_any _ _ _ _).mono ?_
             rintro e w5 ⟨rfl, rfl⟩
             rw [h2]
             go_wp2_with fail
             first
               | (go_ret
                  exact ⟨ret_bool (by rw [HO.out, HY.out]; simp), L2⟩)
               | (refine (validLinks_any (some ⟨b, off, none⟩) hs.length c hs k hlt _ (hH.le L2)).mono ?_
                  rintro e w6 ⟨rfl, hle6⟩
                  rw [h3]
                  replace L2 := L2.trans hle6
                  replace hle := hle.trans hle6
                  clear hle6
                  go_wp2
                  first
                    | (go_ret
                       exact ⟨ret_bool (by rw [HO.out, HY.out]; simp), L2⟩)
                    | (go_roundw
                       case rel => exact ⟨k + 1, by omega, by go_num, by rw [HY.out]; simp, hle⟩
                       case measure => simp [intOf]; omega)))
    · have HA : Hid (allF xs hs.length 0 (hs.drop 0) = true) := by show _ = _; rw [HR.out, allF_end hlt]
      have lk : Lnk hs := by
        have := HA.out
        rw [List.drop_zero] at this
        exact lnk_of this
      have HO2 : Hid (okHeap xs hs = (endsF hs 0 hs.length && okTree xs && decide (hs.length ≤ 24))) := by show _ = _; rw [HO.out, HA.out, Bool.true_and]
      clear HR HO HA
      obtain ⟨wo, rfl⟩ : ∃ wo : World, wo = wr := ⟨_, rfl⟩
      go_wp2
      clear hlt hk
      go_loopw [7] (fun q w2 => ∃ k : Nat, k ≤ hs.length ∧ q = .int .i64 k ∧ endsF hs 0 hs.length = endsF hs k (hs.length - k) ∧ Le wo w2) (fun q _ => hs.length - (intOf q).toNat)
      case atStart => exact ⟨0, Nat.zero_le _, rfl, rfl, Le.refl _⟩
      case round =>
        obtain ⟨k, hk, rfl, hr, hle2⟩ := hrel
        have HR := Lib.hid hr; clear hr
        have L2 := L0.trans hle2
        replace c0 := (hle2.cell z0).trans c0
        replace c1 := (hle2.cell z1).trans c1
        replace z0 := Nat.lt_of_lt_of_le z0 hle2.size
        replace z1 := Nat.lt_of_lt_of_le z1 hle2.size
        by_cases hlt : k < hs.length
        · have hx : hs.length - k = (hs.length - (k + 1)) + 1 := by omega
          have HX : Hid (endsF hs 0 hs.length = (endsAt hs k && endsF hs (k + 1) (hs.length - (k + 1)))) := by show _ = _; rw [HR.out, hx]; rfl
          clear hx
          go_wp2_with fail
          refine (contexts_any H hs.length c hs (k : Int) _ (hH.le L2) lk (by omega) (by omega) hm).mono ?_
          rintro e w3 ⟨v, rfl, D, hle3⟩
          obtain ⟨A3, q3, rfl, S3, -⟩ := D.form (by decide)
          have hch := chain_is lk.ctxlt (f := (k : Int)) (by omega) (by omega)
          obtain ⟨x, hxl, hxm⟩ := is_last hch
          replace c0 := (hle3.cell z0).trans c0
          replace c1 := (hle3.cell z1).trans c1
          replace z0 := Nat.lt_of_lt_of_le z0 hle3.size
          replace z1 := Nat.lt_of_lt_of_le z1 hle3.size
          replace L2 := L2.trans hle3
          replace hle2 := hle2.trans hle3
          have hend : endsAt hs k = decide (ctxOf hs x < 0) := by unfold endsAt; rw [last_of hxl]
          have HE := Lib.hid hend; clear hend
          clear D hle3
          have hxr := hch.lt lk.ctxlt (by omega) x hxm
          obtain ⟨i, rfl⟩ := Int.eq_ofNat_of_zero_le hxr.1
          have hil : i < hs.length := by omega
          have hcx := ctxOf_at hil
          rw [hcx] at HE
          have hne := hch.ne
          generalize chainN (ctxOf hs) hs.length (k : Int) = M at *
          obtain ⟨l, hl⟩ : ∃ l, M.length = l + 1 := ⟨M.length - 1, by cases M with | nil => exact absurd rfl hne | cons _ _ => simp⟩
          have hMl : M[l]'(by omega) = (i : Int) := by
            rw [List.getLast?_eq_getElem?, hl, Nat.add_sub_cancel, List.getElem?_eq_getElem (by omega)] at hxl
            injection hxl
          rw [hl] at S3 ⊢
          obtain ⟨bM, oM, rfl, hbM, hcM, -, -⟩ := S3.int_at (k := l) (by omega)
          rw [hMl] at hcM
          obtain ⟨bH, oH, rfl, hbH, -, -, -, k3, -⟩ := (hH.le L2).flt_at hil
          have hcapM := S3.cap_
          have hrl : (l : Int) + 1 ≤ 9223372036854775807 := by have := S3.n_le; omega
          have hiI : (0 : Int) ≤ (i : Int) ∧ (i : Int) < hs.length := by omega
          have hwl : IntKind.i64.wrap ((l : Int) + 1 - 1) = (l : Int) := by rw [show (l : Int) + 1 - 1 = l by omega]; exact IntWalk.i64_in _ (by omega)
          have E0 := cell_ext z1 c1
          have E1 := cell_ext hbM hcM
          have E2 := cell_ext hbH k3
          clear hch hxl hxm hne hcx hl hMl hxr
          cases hd : decide (hs[i].ctx < 0)
          all_goals
            rw [hd] at HE
            have hd2 : decide (0 ≤ hs[i].ctx) = !decide (hs[i].ctx < 0) := by
              by_cases h : hs[i].ctx < 0
              · rw [decide_eq_true h, decide_eq_false (by omega)]; rfl
              · rw [decide_eq_false h, decide_eq_true (by omega)]; rfl
            rw [hd] at hd2
            go_wp2_with fail
            refine wp_region_ext (by kernel_rfl) (by kernel_rfl) ?_
            repeat (go_big_quiet_step (fail))
            refine wpQuiet_nil ?_
            intro _ hw'
            obtain ⟨gg, rfl⟩ := hw'
            replace L2 := L2.trans (Le.ext w3 gg)
            replace hle2 := hle2.trans (Le.ext w3 gg)
            clear E0 E1 E2 c0 c1 hcM k3
            generalize w3.ext gg = W4 at *
            go_wp2
          · go_ret
            exact ⟨ret_bool (by rw [HO2.out, HX.out, HE.out]; rfl), L2⟩
          · go_roundw
            case rel => exact ⟨k + 1, by omega, by go_num, by rw [HX.out, HE.out]; rfl, hle2⟩
            case measure => simp [intOf]; omega
        · have hk' : k = hs.length := by omega
          have HF : Hid (endsF hs 0 hs.length = true) := by show _ = _; rw [HR.out, hk', Nat.sub_self]; rfl
          cases hok : okTree xs
          all_goals
            go_wp2_with fail
            refine (validTree_any A n cap xs _ (hR.le L2)).mono ?_
            rintro e w5 ⟨rfl, hle5⟩
            rw [hok]
            replace c1 := (hle5.cell z1).trans c1
            replace L2 := L2.trans hle5
            go_wp2
            go_ret
            exact ⟨ret_bool (by rw [HO2.out, HF.out, hok]; simp <;> omega), L2⟩
end Go.Proofs.Ythcolcmgfhkbeaa
