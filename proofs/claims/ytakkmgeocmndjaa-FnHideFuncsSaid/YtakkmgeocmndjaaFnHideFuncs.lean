/- the law FnHideFuncs -/
import Derived.Test.YtakkmgeocmndjaaFT0
import Derived.Test.YtakkmgeocmndjaaDP
import Derived.Test.YtakkmgeocmndjaaTrG
import Derived.Test.YtakkmgeocmndjaaTrH
namespace Go.Proofs.Ytakkmgeocmndjaa
open Go.RowKit
theorem hidK_has (xs : List Frm) (ns : List ByteArray) : ∀ k, k ≤ xs.length → ∀ f ∈ hidK xs ns k, hasS ns f.fn = false
  | 0, _, f, h => nomatch h
  | k + 1, hk, f, h => by
    have hk' : k < xs.length := hk
    cases he : hasS ns xs[k].fn
    · rw [hidK_yes hk' he] at h
      rcases List.mem_append.1 h with h | h
      · exact hidK_has xs ns k (by omega) f h
      · simp at h; subst h; exact he
    · rw [hidK_no hk' he] at h
      exact hidK_has xs ns k (by omega) f h
theorem hidK_id (xs : List Frm) (ns : List ByteArray) (h : ∀ f ∈ xs, hasS ns f.fn = false) : ∀ k, k ≤ xs.length → hidK xs ns k = xs.take k
  | 0, _ => rfl
  | k + 1, hk => by
    have hk' : k < xs.length := hk
    rw [hidK_yes hk' (h _ (List.getElem_mem hk')), hidK_id xs ns h k (by omega), List.take_succ_eq_append_getElem hk']
theorem idxS_mem : ∀ (L : List ByteArray) (s : ByteArray) (j : Int), 0 ≤ j → s ∈ L → 0 ≤ idxS L s j
  | x :: r, s, j, hj, h => by
    unfold idxS
    by_cases he : x = s
    · rw [if_pos he]; exact hj
    · rw [if_neg he]
      rcases List.mem_cons.1 h with h | h
      · exact absurd h.symm he
      · exact idxS_mem r s (j + 1) (by omega) h
theorem lin_none (xs : List Frm) (s : ByteArray) (h : ∀ f ∈ xs, f.fn ≠ s) : ∀ k, k ≤ xs.length → linK xs s k = []
  | 0, _ => rfl
  | k + 1, hk => by
    have hk' : k < xs.length := hk
    rw [linK_no hk' (h _ (List.getElem_mem hk')), lin_none xs s h k (by omega)]
/-- what is kept of the first k is the first part of what is kept -/
theorem hidK_pre (xs : List Frm) (ns : List ByteArray) (k : Nat) : ∀ j, k ≤ j → j ≤ xs.length → ∃ r, hidK xs ns j = hidK xs ns k ++ r := by
  intro j hkj
  induction j with
  | zero => intro _; cases Nat.le_zero.1 hkj; exact ⟨[], by simp⟩
  | succ j ih =>
    intro hj
    by_cases e : k = j + 1
    · subst e; exact ⟨[], by simp⟩
    · obtain ⟨r, hr⟩ := ih (by omega) (by omega)
      have hj' : j < xs.length := hj
      cases he : hasS ns xs[j].fn
      · rw [hidK_yes hj' he, hr]; exact ⟨r ++ [xs[j]], by simp⟩
      · rw [hidK_no hj' he]; exact ⟨r, hr⟩
theorem hid_step (xs : List Frm) (ns : List ByteArray) (k q : Nat) (hk : k < xs.length) (hq : (hidK xs ns k).length ≤ q) (hl : q ≤ (hidK xs ns xs.length).length) :
    (hidK xs ns (k + 1)).length ≤ q ∨ ∃ h : q < (hidK xs ns xs.length).length, xs[k] = (hidK xs ns xs.length)[q] ∧ (hidK xs ns (k + 1)).length = q + 1 := by
  cases he : hasS ns xs[k].fn
  · by_cases e : (hidK xs ns k).length = q
    · right
      obtain ⟨r, hr⟩ := hidK_pre xs ns (k + 1) xs.length hk (Nat.le_refl _)
      rw [hidK_yes hk he] at hr
      have h1 : q < (hidK xs ns xs.length).length := by rw [hr]; simp; omega
      refine ⟨h1, ?_, by rw [hidK_yes hk he]; simp; exact e⟩
      subst e
      simp only [hr, List.append_assoc]
      rw [List.getElem_append_right (Nat.le_refl _)]
      simp
    · left; rw [hidK_yes hk he]; simp; omega
  · left; rw [hidK_no hk he]; exact hq
theorem hidK_mono (xs : List Frm) (ns : List ByteArray) (k : Nat) : (hidK xs ns (k + 1)).length ≤ (hidK xs ns k).length + 1 := by
  show (hidK xs ns k ++ _).length ≤ _
  rw [List.length_append]
  split <;> simp
set_option maxHeartbeats 1000000 in
set_option maxRecDepth 100000 in
theorem fnHideFuncs_walk (A : Option Addr) (n cap : Nat) (bs : List By) (w : World) (hR : Sl w A n cap bs) :
    Calls Try.prog 6 #[.slice A n cap] w fun e w' => e = .returned (.bool true) ∧ Le w w' := by
  have hm := hR.n_le
  by_cases hbig : 1048576 < n
  · go_enter Try.func6, Try.ntmps6
    go_wp2
    go_ret
    exact ⟨rfl, Le.refl w⟩
  go_enter Try.func6, Try.ntmps6
  go_wp2_with fail
  refine (drawHideFuncs_any A n cap bs w hR).mono ?_
  rintro e w1 ⟨B, D, m, c, k, d, xs, ns, rfl, S, hm8, S2, hk8, L0⟩
  go_wp2_with fail
  refine (Calls.sl1 (by decide) (iHideFuncs_any _ _ _ _ _ _ xs ns _ S S2)).mono ?_
  rintro e w2 ⟨A3, c3, rfl, S3, hle⟩
  replace S := S.le hle
  replace S2 := S2.le hle
  replace L0 := L0.trans hle
  clear hle
  go_wp2_with fail
  refine (Calls.sl1 (by decide) (sHideFuncs_any _ _ _ _ _ _ xs ns _ S S2)).mono ?_
  rintro e w3 ⟨A4, c4, rfl, S4, hle⟩
  replace S := S.le hle
  replace S2 := S2.le hle
  replace S3 := S3.le hle
  replace L0 := L0.trans hle
  clear hle
  go_wp2_with fail
  refine (equalTrace_self _ _ _ _ _ _ _ S3 S4).mono ?_
  rintro e w4 ⟨rfl, hle⟩
  replace S := S.le hle
  replace S2 := S2.le hle
  replace S3 := S3.le hle
  replace S4 := S4.le hle
  replace L0 := L0.trans hle
  clear hle
  go_wp2_with fail
  refine (iValidTrace_any _ _ _ xs _ S).mono ?_
  rintro e w5 ⟨rfl, hle⟩
  replace S := S.le hle
  replace S2 := S2.le hle
  replace S3 := S3.le hle
  replace L0 := L0.trans hle
  clear hle
  cases h1 : vTr xs
  · go_wp2_with fail
    refine (Calls.sl1 (by decide) (sHideFuncs_any _ _ _ _ _ _ xs ns _ S S2)).mono ?_
    rintro e w6 ⟨A5, c5, rfl, S5, hle⟩
    replace S := S.le hle
    replace S3 := S3.le hle
    replace L0 := L0.trans hle
    clear hle
    go_wp2_with fail
    refine (equalTrace_self _ _ _ _ _ _ _ S3 S5).mono ?_
    rintro e w7 ⟨rfl, hle⟩
    replace L0 := L0.trans hle
    clear hle
    go_wp2
    go_ret
    exact ⟨rfl, L0⟩
  · have hlen := S.len
    have hlen2 := S2.len
    have hX : hideX xs ns = hidK xs ns xs.length := hideX_of h1
    have hmem := hidK_mem xs ns xs.length (Nat.le_refl _)
    have hhas := hidK_has xs ns xs.length (Nat.le_refl _)
    have hql := hidK_len xs ns xs.length
    have hv : vTr (hidK xs ns xs.length) = true := vTr_of (fun f hf => vTr_all h1 f (hmem f hf)) (by have := vTr_small h1; omega)
    have HLIN : Hid (∀ s ∈ ns, linX (hidK xs ns xs.length) s = []) := fun s hs => by
      rw [linX_of hv]
      exact lin_none _ s (fun f hf e => by
        have h := hhas f hf
        unfold hasS at h
        have h2 := idxS_mem ns f.fn 0 (by omega) (by rw [e]; exact hs)
        simp at h; omega) _ (Nat.le_refl _)
    have HIDE := Lib.hid (show hideX (hidK xs ns xs.length) ns = hidK xs ns xs.length by
      rw [hideX_of hv]
      exact (hidK_id _ ns hhas _ (Nat.le_refl _)).trans (List.take_length ..))
    have HST := Lib.hid (fun k q hk => hid_step xs ns k q hk)
    rw [hX] at S3 ⊢
    obtain rfl := hlen2
    obtain rfl := hlen
    have HK0 : Hid ((hidK xs ns 0).length ≤ 0) := Nat.le_refl _
    have hqm : (hidK xs ns xs.length).length ≤ 12 := by omega
    clear S4 hX hmem hhas hv h1 hql
    go_wp2
    generalize w5 = W5 at *
    go_loopw [7] (fun i wr => ∃ k : Nat, k ≤ ns.length ∧ i = .int .i64 k ∧ Le W5 wr) (fun i _ => ns.length - (intOf i).toNat)
    case atStart => exact ⟨0, Nat.zero_le _, rfl, Le.refl _⟩
    case round =>
      obtain ⟨k, hk, rfl, hle⟩ := hrel
      have SR := S.le hle
      have SR2 := S2.le hle
      have SR3 := S3.le hle
      have LR := L0.trans hle
      clear S S2 S3
      by_cases hlt : k < ns.length
      · have hmem := List.getElem_mem hlt
        have hlx := HLIN.out _ hmem
        obtain ⟨b, off, rfl, hb, hcell⟩ := SR2.str_at hlt
        have HLX := Lib.hid hlx
        clear hlx hmem
        go_wp2_with fail
        refine (Calls.sl1 (by decide) (iLinesOf_any _ _ _ _ ns[k] _ SR3)).mono ?_
        rintro e w6 ⟨A6, c6, rfl, _, hle6⟩
        rw [HLX.out]
        go_wp2
        go_roundw
        case rel => exact ⟨k + 1, by omega, by go_num, hle.trans hle6⟩
        case measure => simp [intOf]; omega
      · generalize wr = W6 at *
        go_wp2
        clear hk hlt hle
        have SRN := SR2
        clear SR2
        go_loopw [6, 8] (fun u i wr => ∃ k q : Nat, k ≤ xs.length ∧ i = .int .i64 k ∧ u = .int .i64 q ∧ (hidK xs ns k).length ≤ q ∧ q ≤ (hidK xs ns xs.length).length ∧ Le W6 wr) (fun _ i _ => xs.length - (intOf i).toNat)
        case atStart => exact ⟨0, 0, Nat.zero_le _, rfl, rfl, HK0.out, Nat.zero_le _, Le.refl _⟩
        case round =>
          obtain ⟨k, q, hk, rfl, rfl, hq1, hq2, hle⟩ := hrel
          have T := SR.le hle
          have T3 := SR3.le hle
          have L3 := LR.trans hle
          clear SR SR3 LR
          by_cases hlt : k < xs.length
          · have hst := HST.out k q hlt hq1 hq2
            have hkx : (0 : Int) ≤ (k : Int) := by omega
            by_cases hql : q < (hidK xs ns xs.length).length
            · obtain ⟨b, off, rfl, hb, hcell0, hcell1, -⟩ := T.frm_at hlt
              obtain ⟨b2, off2, rfl, hb2, hdell0, hdell1, -⟩ := T3.frm_at hql
              have E0 := cell_ext hb hcell0
              have E1 := cell_ext hb hcell1
              have F0 := cell_ext hb2 hdell0
              have F1 := cell_ext hb2 hdell1
              have hmono := hidK_mono xs ns k
              by_cases h3 : xs[k].fn = (hidK xs ns xs.length)[q].fn ∧ xs[k].line = (hidK xs ns xs.length)[q].line
              · have e1 := str_eq h3.1
                have e2 : (xs[k].line == (hidK xs ns xs.length)[q].line) = true := by simpa using h3.2
                have HQ : Hid ((hidK xs ns (k + 1)).length ≤ q + 1 ∧ q + 1 ≤ (hidK xs ns xs.length).length) := ⟨by omega, by omega⟩
                have hq12 : q < 12 := by omega
                clear hst h3 hmono hq1 hq2
                go_wp2_with fail
                refine wp_region_ext (by kernel_rfl) (by kernel_rfl) ?_
                repeat (go_big_quiet_step (fail))
                refine wpQuiet_nil ?_
                intro _ hw'
                obtain ⟨g, rfl⟩ := hw'
                have hw1 := Le.ext wr g
                generalize wr.ext g = W2 at *
                go_wp2
                go_roundw
                case rel => exact ⟨k + 1, q + 1, by omega, by go_num, by go_num, HQ.out.1, HQ.out.2, hle.trans hw1⟩
                case measure => simp [intOf]; omega
              · have HQ : Hid ((hidK xs ns (k + 1)).length ≤ q) := by
                  rcases hst with h | ⟨h, e, _⟩
                  · exact h
                  · exact absurd ⟨by rw [e], by rw [e]⟩ h3
                have hcase : xs[k].fn ≠ (hidK xs ns xs.length)[q].fn ∨ (xs[k].fn = (hidK xs ns xs.length)[q].fn ∧ xs[k].line ≠ (hidK xs ns xs.length)[q].line) := by
                  by_cases h1 : xs[k].fn = (hidK xs ns xs.length)[q].fn
                  · exact .inr ⟨h1, fun h2 => h3 ⟨h1, h2⟩⟩
                  · exact .inl h1
                clear hst h3 hmono hq1
                rcases hcase with h1 | ⟨h1, h2⟩
                all_goals
                  first | have e1 := str_ne h1 | (have e1 := str_eq h1; have e2 : (xs[k].line == (hidK xs ns xs.length)[q].line) = false := by simpa using h2)
                  clear h1
                  go_wp2_with fail
                  refine wp_region_ext (by kernel_rfl) (by kernel_rfl) ?_
                  repeat (go_big_quiet_step (fail))
                  refine wpQuiet_nil ?_
                  intro _ hw'
                  obtain ⟨g, rfl⟩ := hw'
                  have hw1 := Le.ext wr g
                  generalize wr.ext g = W2 at *
                  go_wp2
                  go_roundw
                  case rel => exact ⟨k + 1, q, by omega, by go_num, rfl, HQ.out, hq2, hle.trans hw1⟩
                  case measure => simp [intOf]; omega
            · have HQ : Hid ((hidK xs ns (k + 1)).length ≤ q) := by
                rcases hst with h | ⟨h, _⟩
                · exact h
                · exact absurd h hql
              clear hst hq1
              go_wp2_with fail
              refine wp_region_ext (by kernel_rfl) (by kernel_rfl) ?_
              repeat (go_big_quiet_step (fail))
              refine wpQuiet_nil ?_
              intro _ hw'
              obtain ⟨g, rfl⟩ := hw'
              have hw1 := Le.ext wr g
              generalize wr.ext g = W2 at *
              go_wp2
              go_roundw
              case rel => exact ⟨k + 1, q, by omega, by go_num, rfl, HQ.out, hq2, hle.trans hw1⟩
              case measure => simp [intOf]; omega
          · obtain rfl : k = xs.length := by omega
            have e : q = (hidK xs ns xs.length).length := by omega
            subst e
            have hself : (((hidK xs ns xs.length).length : Int) == ((hidK xs ns xs.length).length : Int)) = true := by simp
            clear hq1 hq2 T
            go_wp2_with fail
            refine (Calls.sl1 (by decide) (iHideFuncs_any _ _ _ _ _ _ _ ns _ T3 (SRN.le hle))).mono ?_
            rintro e w7 ⟨A7, c7, rfl, S7, hle7⟩
            rw [HIDE.out] at S7 ⊢
            replace T3 := T3.le hle7
            replace L3 := L3.trans hle7
            go_wp2_with fail
            refine (equalTrace_self _ _ _ _ _ _ _ S7 T3).mono ?_
            rintro e w8 ⟨rfl, hle8⟩
            go_wp2
            go_ret
            exact ⟨rfl, L3.trans hle8⟩
end Go.Proofs.Ytakkmgeocmndjaa
