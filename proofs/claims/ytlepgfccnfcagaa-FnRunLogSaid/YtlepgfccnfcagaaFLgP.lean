/- the law FnRunLog -/
import Derived.Test.YtlepgfccnfcagaaDPdP
import Derived.Test.YtlepgfccnfcagaaPrMP
import Derived.Test.YtlepgfccnfcagaaWp5
import Derived.Test.YtlepgfccnfcagaaWp18
import Derived.Test.YtlepgfccnfcagaaRnLP
namespace Go.Proofs.Ytlepgfccnfcagaa
open Go.RowKit
theorem vp_told {xs : List Cls} {p : List Lin} (h : vp xs p = true) (j : Nat) (hj : j < p.length) (hk : p[j].kind = 1) : 0 ≤ p[j].a ∧ p[j].a ≤ 99 := by
  have hn := ((vp_iff.1 h).2.2 j hj).1
  unfold numS at hn
  rw [hk, if_pos (by decide), Bool.and_eq_true, rng_iff] at hn
  exact hn.1
theorem put_form {p L : List Lin} {j : Nat} (hM : MidQ p L j) (hj : j < p.length) (hjl : j < L.length) : ({L[j] with a := 99 - p[j].a} : Lin) = ⟨p[j].depth, p[j].kind, 99 - p[j].a, p[j].b⟩ := by
  rw [hM.at_ hj]
set_option maxHeartbeats 8000000 in
set_option maxRecDepth 100000 in
theorem fnRunLog_walk (A : Option Addr) (n cap : Nat) (bs : List By) (w : World) (hR : Sl w A n cap bs) :
    Calls Try.prog 4 #[.slice A n cap] w fun e w' => e = .returned (.bool true) ∧ Le w w' := by
  have hm := hR.n_le
  obtain ⟨i0, hi, hz0, hz1, hz2⟩ := info_parts infoLn
  by_cases hbig : 1048576 < n
  · go_enter Try.func4, Try.ntmps4
    go_wp2
    go_ret
    exact ⟨rfl, Le.refl w⟩
  go_enter Try.func4, Try.ntmps4
  go_wp2_with fail
  refine (drawRunLog_any A n cap bs w hR).mono ?_
  rintro e w1 ⟨B, D, m, c, q, d, xs, p, rfl, S, hm8, S2, hq24, L0⟩
  obtain rfl := S2.len
  have hm1 : m ≤ 1048576 := by omega
  have hsm : p.length ≤ 1048576 := by omega
  clear hbig hm hR
  have HRL : Hid (∀ W A q P, Sl W B m c xs → Sl W A p.length q P → Calls Try.prog 16 #[.agg #[.slice B m c], .slice A p.length q] W fun e w' => ∃ A q, e = .returned (.slice A (rpL xs P).length q) ∧ Sl w' A (rpL xs P).length q (rpL xs P) ∧ Le W w') := fun W A q P h1 h2 => (iRunLog_any B A m c _ q xs P hm1 W h1 h2).mono (by
    rintro e w' ⟨v, rfl, DD, hle⟩
    obtain ⟨A0, q0, rfl, S0, -⟩ := DD.form (by decide)
    exact ⟨A0, q0, rfl, S0, hle⟩)
  have HSL : Hid (∀ W, Sl W B m c xs → Sl W D p.length d p → Calls Try.prog 18 #[.agg #[.slice B m c], .slice D p.length d] W fun e w' => ∃ A q, e = .returned (.slice A (rpL xs p).length q) ∧ Sl w' A (rpL xs p).length q (rpL xs p) ∧ Le W w') := fun W h1 h2 => (sRunLog_any B D m c _ d xs p hsm W h1 h2).mono (by
    rintro e w' ⟨v, rfl, DD, hle⟩
    obtain ⟨A0, q0, rfl, S0, -⟩ := DD.form (by decide)
    exact ⟨A0, q0, rfl, S0, hle⟩)
  have HRI : Hid (∀ W, Sl W B m c xs → Sl W D p.length d p → Calls Try.prog 11 #[.agg #[.slice B m c], .slice D p.length d] W fun e w' => ∃ A0 q0 A1 q1, e = .returned (.agg #[.slice A0 (rpL xs p).length q0, .int .i64 (rpE xs p), .int .i64 (rpV xs p), .slice A1 (rpH xs p).length q1]) ∧ Sl w' A0 (rpL xs p).length q0 (rpL xs p) ∧ Sl w' A1 (rpH xs p).length q1 (rpH xs p) ∧ Le W w') := fun W a b => Calls.rs (iRp_any B D m c _ d xs _ hm1 W a b)
  have HV : Hid (∀ W, Sl W B m c xs → Sl W D p.length d p → Calls Try.prog 14 #[.agg #[.slice B m c], .slice D p.length d] W fun e w' => e = .returned (.bool (vp xs p)) ∧ Le W w') := fun W a b => pValidProgram_any B D m c _ d xs p hm1 W a b
  have HLP := Lib.hid (rpL_len xs p)
  have HQ : Hid (vp xs p = true → (rpL xs (p.map ql)).length = (rpL xs p).length ∧ ∀ k (h1 : k < (rpL xs p).length) (h2 : k < (rpL xs (p.map ql)).length), Rl (rpL xs p)[k] (rpL xs (p.map ql))[k]) := fun h => rp_ql h
  have HT : Hid (vp xs p = true → ∀ j (hj : j < p.length), p[j].kind = 1 → 0 ≤ p[j].a ∧ p[j].a ≤ 99) := fun h j hj hk => vp_told h j hj hk
  generalize hLQ : rpL xs (p.map ql) = LQ at *
  replace hLQ := Lib.hid hLQ
  generalize hLP : rpL xs p = LP at *
  replace hLP := Lib.hid hLP
  generalize rpE xs p = EP at *
  generalize rpV xs p = VP at *
  generalize rpH xs p = HP at *
  generalize vp xs p = ok at *
  go_wp2_with fail
  obtain ⟨ct, zt, hleB⟩ := box1 w1 (.slice B m c) 25
  replace S := S.le hleB
  replace L0 := L0.trans hleB
  replace S2 := S2.le hleB
  clear hleB
  generalize w1.alloc (.cells #[.slice B m c] 25) = W1 at *
  refine (HRL.out W1 D d p S S2).mono ?_
  rw [hLP.out]
  rintro e w2 ⟨A2, q2, rfl, S4, hle⟩
  replace ct := (hle.cell zt).trans ct
  replace zt := Nat.lt_of_lt_of_le zt hle.size
  replace S := S.le hle
  replace L0 := L0.trans hle
  replace S2 := S2.le hle
  clear hle
  go_wp2_with fail
  refine (HSL.out w2 S S2).mono ?_
  rintro e w3 ⟨A3, q3, rfl, S5, hle⟩
  replace ct := (hle.cell zt).trans ct
  replace zt := Nat.lt_of_lt_of_le zt hle.size
  replace S := S.le hle
  replace L0 := L0.trans hle
  replace S2 := S2.le hle
  replace S4 := S4.le hle
  clear hle
  go_wp2_with fail
  refine (equalInts_self A2 A3 _ q2 q3 LP w3 S4 S5).mono ?_
  rintro e w4 ⟨rfl, hle⟩
  replace ct := (hle.cell zt).trans ct
  replace zt := Nat.lt_of_lt_of_le zt hle.size
  replace S := S.le hle
  replace L0 := L0.trans hle
  replace S2 := S2.le hle
  replace S4 := S4.le hle
  clear hle
  clear S5
  go_wp2_with fail
  refine (HV.out w4 S S2).mono ?_
  rintro e w5 ⟨rfl, hle⟩
  replace ct := (hle.cell zt).trans ct
  replace zt := Nat.lt_of_lt_of_le zt hle.size
  replace S := S.le hle
  replace L0 := L0.trans hle
  replace S2 := S2.le hle
  replace S4 := S4.le hle
  clear hle HV
  cases ok
  · go_wp2_with fail
    refine (HSL.out w5 S S2).mono ?_
    rintro e w6 ⟨A6, q6, rfl, S6, hle⟩
    replace L0 := L0.trans hle
    replace S4 := S4.le hle
    clear hle HSL
    go_wp2_with fail
    refine (equalInts_self A2 A6 _ q2 q6 LP w6 S4 S6).mono ?_
    rintro e w7 ⟨rfl, hle⟩
    replace L0 := L0.trans hle
    clear hle
    go_wp2
    go_ret
    exact ⟨rfl, L0⟩
  replace HQ := Lib.hid (HQ.out rfl)
  replace HT := Lib.hid (HT.out rfl)
  have hl1 := HLP.out
  clear HSL
  have O0 := own_empty (w := w5) (base := w5.heap.size) (g := w5.heap.size) (e := 42) (size := 4) (by simp) (by simp)
  have LE := Le.new w5 (.cells #[] 42)
  have SX := S2.le LE
  have HOKp := Lib.hid S2.ok
  go_wp2_with (at_builtin; refine wpList_append_sl rfl (.tmp 38) (.tmp 39) 26 rfl w5.heap.size 42 i0 _ 32 Try.underlying26 hi hz0 hz1 hz2 rfl (.slice (some ⟨w5.heap.size, 0, none⟩) 0 0) 0 ([] : List Lin) rfl O0 D p.length d p rfl SX (by unfold maxLen; omega) (by omega) (by simp) ?_; intro v6 w6 O4 hg4 hbl; simp only [Nat.zero_add, List.nil_append] at O4; have L6 := LE.grown hg4 (fun j hj => (O0.lt j hj).1); clear hg4 hbl O0 SX LE)
  obtain ⟨G, gq, rfl⟩ := own_form O4
  have HG : Hid (0 < p.length → ∃ b, G = some ⟨b, 0, none⟩ ∧ w5.heap.size ≤ b) := by
    intro h0
    obtain ⟨j, hj⟩ : ∃ j, p.length = j + 1 := ⟨p.length - 1, by omega⟩
    have O := O4
    rw [hj] at O
    obtain ⟨b, cp, e⟩ := own_some O
    have hb := (O.lt b (by rw [e]; rfl)).1
    injection e with e
    exact ⟨b, e, hb⟩
  go_loopw [7] (fun i wr => ∃ (j : Nat) (L : List Lin), i = .int .i64 j ∧ Hid (MidQ p L j) ∧ L.length = p.length ∧ Hid (∀ x ∈ L, Enc.ok x) ∧ wr.ownsRow w5.heap.size 42 (Enc.size Lin) (.slice G p.length gq) p.length (L.flatMap Enc.cells) ∧ Le w5 wr) (fun i _ => p.length - (intOf i).toNat)
  case atStart => exact ⟨0, p, rfl, Lib.hid (MidQ.start p), rfl, HOKp, O4, L6⟩
  case round =>
    clear O4 L6
    obtain ⟨j, L, rfl, HM, hLl, HOK, O, LW⟩ := hrel
    by_cases hlt : j < p.length
    · obtain ⟨b, rfl, hb⟩ := HG.out (by omega)
      have hjl : j < L.length := by omega
      have hat := HM.out.at_ hlt
      have c1 : wr.cell? ⟨b, j * 4 + 1, none⟩ = some (.int .i64 p[j].kind) := by rw [O.cellAt _ (by show _ < _ * 4; omega), ← hat]; exact flat_at L j hjl 1 (by decide)
      have hji : (j : Int) < (p.length : Int) := by omega
      by_cases hk : p[j].kind = 1
      · have c2 : wr.cell? ⟨b, j * 4 + 2, none⟩ = some (.int .i64 p[j].a) := by rw [O.cellAt _ (by show _ < _ * 4; omega), ← hat]; exact flat_at L j hjl 2 (by decide)
        have f2 := O.frozenAt (j * 4 + 2)
        have ha := HT.out j hlt hk
        have HP := Lib.hid (HM.out.put hlt hk)
        have h4 := (O.stored (j * 4 + 2) (.int .i64 (99 - p[j].a))).1
        rw [flat_lin_a L j hjl, put_form HM.out hlt hjl] at h4
        have HO4 := Lib.hid h4
        have HOK4 : Hid (∀ x ∈ L.set j ⟨p[j].depth, p[j].kind, 99 - p[j].a, p[j].b⟩, Enc.ok x) := fun x hx => by
          rcases List.mem_or_eq_of_mem_set hx with h | rfl
          · exact HOK.out x h
          · have h := HOK.out _ (List.getElem_mem hjl)
            rw [hat] at h
            obtain ⟨a1, a2, a3, a4, a5, a6, a7, a8⟩ := h
            exact ⟨a1, a2, a3, a4, by show -9223372036854775808 ≤ 99 - p[j].a; omega, by show 99 - p[j].a ≤ 9223372036854775807; omega, a7, a8⟩
        have hll : Hid ((L.set j ⟨p[j].depth, p[j].kind, 99 - p[j].a, p[j].b⟩).length = p.length) := by show _ = _; rw [List.length_set, hLl]
        have hw : IntKind.i64.wrap (99 - p[j].a) = 99 - p[j].a := IntWalk.i64_in _ (by omega)
        have HL4 := Lib.hid (LW.setCell (b := b) (o := j * 4 + 2) hb (.int .i64 (99 - p[j].a)))
        rw [hk] at c1
        clear h4 O hat
        go_wp2
        go_roundw
        case rel => exact ⟨j + 1, _, by go_num, HP, hll.out, HOK4, HO4.out, HL4.out⟩
        case measure => simp [intOf]; omega
      · have hkb : (p[j].kind == 1) = false := beq_eq_false_iff_ne.2 hk
        have HP := Lib.hid (HM.out.keep hlt hk)
        clear hat
        go_wp2
        go_roundw
        case rel => exact ⟨j + 1, L, by go_num, HP, hLl, HOK, O, LW⟩
        case measure => simp [intOf]; omega
    · have hji : ¬ (j : Int) < (p.length : Int) := by omega
      have hL := HM.out.done (by omega)
      have SL := Sl.of_own O rfl (by decide) HOK.out
      clear O HM HOK hLl
      subst hL
      have SB := S.le LW
      have SD := S2.le LW
      have SP := S4.le LW
      have ct9 := (LW.cell zt).trans ct
      have zt9 : w1.heap.size < wr.heap.size := Nat.lt_of_lt_of_le zt LW.size
      have LF := L0.trans LW
      clear S S2 S4 ct zt L0 LW
      go_wp2_with fail
      refine (HRL.out wr G gq (p.map ql) SB SL).mono ?_
      rw [hLQ.out]
      rintro e w7 ⟨A5, q5, rfl, S5, hle⟩
      have hqp := HQ.out.1
      have HEL : Hid (∀ k (h1 : k < LP.length) (h2 : k < LQ.length), Rl LP[k] LQ[k]) := HQ.out.2
      rw [hqp] at S5 ⊢
      replace ct9 := (hle.cell zt9).trans ct9
      replace zt9 := Nat.lt_of_lt_of_le zt9 hle.size
      replace SB := SB.le hle
      replace SD := SD.le hle
      replace SP := SP.le hle
      replace LF := LF.trans hle
      clear hle HRL SL HQ
      replace hqp := Lib.hid hqp
      go_wp2_with fail
      go_loopw [9] (fun i wr => ∃ k : Nat, k ≤ LP.length ∧ i = .int .i64 k ∧ Le w7 wr) (fun i _ => LP.length - (intOf i).toNat)
      case atStart => exact ⟨0, Nat.zero_le _, rfl, Le.refl _⟩
      case round =>
        obtain ⟨k, hk, rfl, LW⟩ := hrel
        have ct := (LW.cell zt9).trans ct9
        have SBw := SB.le LW
        have SDw := SD.le LW
        have SPw := SP.le LW
        have S5w := S5.le LW
        have LG := LF.trans LW
        have HPK := Lib.hid SPw.ok
        by_cases hkL : k < LP.length
        · have hki : (k : Int) < (LP.length : Int) := by omega
          have hkq : k < LQ.length := by rw [hqp.out]; exact hkL
          obtain ⟨b2, off2, rfl, hb2, hc2, _, _⟩ := SPw.int_at hkL
          obtain ⟨b5, off5, rfl, hb5, hc5, _, _⟩ := S5w.int_at hkq
          have hrl := HEL.out k hkL hkq
          have hxk : -9223372036854775808 ≤ LP[k] ∧ LP[k] ≤ 9223372036854775807 := HPK.out _ (List.getElem_mem hkL)
          clear SPw S5w SBw SDw ct
          have dc2 : wr.drew.cell? ⟨b2, off2 + k, none⟩ = some (.int .i64 LP[k]) := hc2
          have dc5 : wr.drew.cell? ⟨b5, off5 + k, none⟩ = some (.int .i64 LQ[k]) := hc5
          have LWd := LW.trans (Le.refl wr).drew
          generalize LP[k] = x at *
          generalize LQ[k] = y at *
          by_cases hxy : y = x
          · subst hxy
            have hyy : (y != y) = false := by simp
            go_wp2_with fail
            refine wp_region_noPanic ?_
            refine wp_region_held_drew (S := fun w' => w'.cell? ⟨b2, off2 + k, none⟩ = some (.int .i64 y) ∧ w'.cell? ⟨b5, off5 + k, none⟩ = some (.int .i64 y)) (by kernel_rfl) ⟨dc2, dc5⟩ (fun hHeld => ?_)
            refine wpAnyH_takeL (i := 0) (v := ?_) rfl (by kernel_rfl) (by kernel_rfl) (by kernel_rfl) (fun _ _ _ h => h) (Or.inl ⟨by rfl, ?_⟩) (by assumption) ?_
            rotate_left 1
            · (intro w hSw; (try dsimp only at hSw); go_simp; try with_reducible rfl)
            try simp only [Act.put, List.setIfInBounds_toArray, List.set_cons_zero, List.set_cons_succ]
            refine wpAnyH_takeL (i := 1) (v := ?_) rfl (by kernel_rfl) (by kernel_rfl) (by kernel_rfl) (fun _ _ _ h => h) (Or.inl ⟨by rfl, ?_⟩) (by assumption) ?_
            rotate_left 1
            · (intro w hSw; (try dsimp only at hSw); go_simp; try with_reducible rfl)
            try simp only [Act.put, List.setIfInBounds_toArray, List.set_cons_zero, List.set_cons_succ]
            refine wpAnyH_takeL (i := 2) (v := ?_) rfl (by kernel_rfl) (by kernel_rfl) (by kernel_rfl) (fun _ _ _ h => h) (Or.inl ⟨by rfl, ?_⟩) (by assumption) ?_
            rotate_left 1
            · (intro w hSw; (try dsimp only at hSw); go_simp; try with_reducible rfl)
            try simp only [Act.put, List.setIfInBounds_toArray, List.set_cons_zero, List.set_cons_succ]
            refine wpAnyH_takeL (i := 3) (v := ?_) rfl (by kernel_rfl) (by kernel_rfl) (by kernel_rfl) (fun _ _ _ h => h) (Or.inl ⟨by rfl, ?_⟩) (by assumption) ?_
            rotate_left 1
            · (intro w hSw; (try dsimp only at hSw); go_simp; try with_reducible rfl)
            try simp only [Act.put, List.setIfInBounds_toArray, List.set_cons_zero, List.set_cons_succ]
            refine wpAnyH_takeL (i := 4) (v := ?_) rfl (by kernel_rfl) (by kernel_rfl) (by kernel_rfl) (fun _ _ _ h => h) (Or.inl ⟨by rfl, ?_⟩) (by assumption) ?_
            rotate_left 1
            · (intro w hSw; (try dsimp only at hSw); go_simp; try with_reducible rfl)
            try simp only [Act.put, List.setIfInBounds_toArray, List.set_cons_zero, List.set_cons_succ]
            refine wpAnyH_takeL (i := 5) (v := ?_) rfl (by kernel_rfl) (by kernel_rfl) (by kernel_rfl) (fun _ _ _ h => h) (Or.inl ⟨by rfl, ?_⟩) (by assumption) ?_
            rotate_left 1
            · (intro w hSw; (try dsimp only at hSw); go_simp; try with_reducible rfl)
            try simp only [Act.put, List.setIfInBounds_toArray, List.set_cons_zero, List.set_cons_succ]
            refine wpAnyH_takeL (i := 6) (v := ?_) rfl (by kernel_rfl) (by kernel_rfl) (by kernel_rfl) (fun _ _ _ h => h) (Or.inl ⟨by rfl, ?_⟩) (by assumption) ?_
            rotate_left 1
            · (intro w hSw; (try dsimp only at hSw); go_simp; try with_reducible rfl)
            try simp only [Act.put, List.setIfInBounds_toArray, List.set_cons_zero, List.set_cons_succ]
            refine wpAnyH_takeL (i := 7) (v := ?_) rfl (by kernel_rfl) (by kernel_rfl) (by kernel_rfl) (fun _ _ _ h => h) (Or.inl ⟨by rfl, ?_⟩) (by assumption) ?_
            rotate_left 1
            · (intro w hSw; (try dsimp only at hSw); go_simp; try with_reducible rfl)
            try simp only [Act.put, List.setIfInBounds_toArray, List.set_cons_zero, List.set_cons_succ]
            refine wpAnyH_takeL (i := 8) (v := ?_) rfl (by kernel_rfl) (by kernel_rfl) (by kernel_rfl) (fun _ _ _ h => h) (Or.inl ⟨by rfl, ?_⟩) (by assumption) ?_
            rotate_left 1
            · (intro w hSw; (try dsimp only at hSw); go_simp; try with_reducible rfl)
            try simp only [Act.put, List.setIfInBounds_toArray, List.set_cons_zero, List.set_cons_succ]
            refine wpAnyH_takeL (i := 9) (v := ?_) rfl (by kernel_rfl) (by kernel_rfl) (by kernel_rfl) (fun _ _ _ h => h) (Or.inl ⟨by rfl, ?_⟩) (by assumption) ?_
            rotate_left 1
            · (intro w hSw; (try dsimp only at hSw); go_simp; try with_reducible rfl)
            try simp only [Act.put, List.setIfInBounds_toArray, List.set_cons_zero, List.set_cons_succ]
            refine wpAnyH_takeL (i := 10) (v := undef) rfl (by kernel_rfl) (by kernel_rfl) (by kernel_rfl) (fun _ _ _ h => h) (Or.inr ⟨?_, rfl⟩) (by assumption) ?_
            · rfl
            try simp only [Act.put, List.setIfInBounds_toArray, List.set_cons_zero, List.set_cons_succ]
            refine wpAnyH_takeL (i := 11) (v := undef) rfl (by kernel_rfl) (by kernel_rfl) (by kernel_rfl) (fun _ _ _ h => h) (Or.inr ⟨?_, rfl⟩) (by assumption) ?_
            · rfl
            try simp only [Act.put, List.setIfInBounds_toArray, List.set_cons_zero, List.set_cons_succ]
            refine wpAnyH_takeL (i := 12) (v := undef) rfl (by kernel_rfl) (by kernel_rfl) (by kernel_rfl) (fun _ _ _ h => h) (Or.inr ⟨?_, rfl⟩) (by assumption) ?_
            · rfl
            try simp only [Act.put, List.setIfInBounds_toArray, List.set_cons_zero, List.set_cons_succ]
            refine wpAnyH_takeL (i := 13) (v := undef) rfl (by kernel_rfl) (by kernel_rfl) (by kernel_rfl) (fun _ _ _ h => h) (Or.inr ⟨?_, rfl⟩) (by assumption) ?_
            · rfl
            try simp only [Act.put, List.setIfInBounds_toArray, List.set_cons_zero, List.set_cons_succ]
            refine wpAnyH_takeL (i := 14) (v := undef) rfl (by kernel_rfl) (by kernel_rfl) (by kernel_rfl) (fun _ _ _ h => h) (Or.inr ⟨?_, rfl⟩) (by assumption) ?_
            · rfl
            try simp only [Act.put, List.setIfInBounds_toArray, List.set_cons_zero, List.set_cons_succ]
            refine wpAnyH_takeL (i := 15) (v := undef) rfl (by kernel_rfl) (by kernel_rfl) (by kernel_rfl) (fun _ _ _ h => h) (Or.inr ⟨?_, rfl⟩) (by assumption) ?_
            · rfl
            try simp only [Act.put, List.setIfInBounds_toArray, List.set_cons_zero, List.set_cons_succ]
            refine wpAnyH_takeL (i := 16) (v := undef) rfl (by kernel_rfl) (by kernel_rfl) (by kernel_rfl) (fun _ _ _ h => h) (Or.inr ⟨?_, rfl⟩) (by assumption) ?_
            · rfl
            try simp only [Act.put, List.setIfInBounds_toArray, List.set_cons_zero, List.set_cons_succ]
            refine wpAnyH_takeL (i := 17) (v := undef) rfl (by kernel_rfl) (by kernel_rfl) (by kernel_rfl) (fun _ _ _ h => h) (Or.inr ⟨?_, rfl⟩) (by assumption) ?_
            · rfl
            try simp only [Act.put, List.setIfInBounds_toArray, List.set_cons_zero, List.set_cons_succ]
            refine wpAnyH_takeL (i := 18) (v := undef) rfl (by kernel_rfl) (by kernel_rfl) (by kernel_rfl) (fun _ _ _ h => h) (Or.inr ⟨?_, rfl⟩) (by assumption) ?_
            · rfl
            try simp only [Act.put, List.setIfInBounds_toArray, List.set_cons_zero, List.set_cons_succ]
            refine wpAnyH_takeL (i := 19) (v := undef) rfl (by kernel_rfl) (by kernel_rfl) (by kernel_rfl) (fun _ _ _ h => h) (Or.inr ⟨?_, rfl⟩) (by assumption) ?_
            · rfl
            try simp only [Act.put, List.setIfInBounds_toArray, List.set_cons_zero, List.set_cons_succ]
            refine wpAnyH_takeL (i := 20) (v := ?_) rfl (by kernel_rfl) (by kernel_rfl) (by kernel_rfl) (fun _ _ _ h => h) (Or.inl ⟨by rfl, ?_⟩) (by assumption) ?_
            rotate_left 1
            · (intro w hSw; (try dsimp only at hSw); go_simp; try with_reducible rfl)
            try simp only [Act.put, List.setIfInBounds_toArray, List.set_cons_zero, List.set_cons_succ]
            refine wpAnyH_done (by kernel_rfl) ?_ _
            refine NoPanic.normal ?_
            clear hHeld
            go_wp2_with fail
            go_roundw
            case rel => exact ⟨k + 1, by omega, by go_num, LWd⟩
            case measure => simp [intOf]; omega
          · have hne : (x != y) = true := by rw [bne_iff_ne]; exact fun h => hxy h.symm
            have hy : y = 99 - x := hrl.resolve_left hxy
            have hx99 : 99 - y = x := by omega
            have hwx : IntKind.i64.wrap (99 - y) = x := by rw [hx99]; exact IntWalk.i64_in _ (by omega)
            have hxx : (x != x) = false := by simp
            clear hrl hy hx99
            go_wp2_with fail
            refine wp_region_noPanic ?_
            refine wp_region_held_drew (S := fun w' => w'.cell? ⟨b2, off2 + k, none⟩ = some (.int .i64 x) ∧ w'.cell? ⟨b5, off5 + k, none⟩ = some (.int .i64 y)) (by kernel_rfl) ⟨dc2, dc5⟩ (fun hHeld => ?_)
            refine wpAnyH_takeL (i := 0) (v := ?_) rfl (by kernel_rfl) (by kernel_rfl) (by kernel_rfl) (fun _ _ _ h => h) (Or.inl ⟨by rfl, ?_⟩) (by assumption) ?_
            rotate_left 1
            · (intro w hSw; (try dsimp only at hSw); go_simp; try with_reducible rfl)
            try simp only [Act.put, List.setIfInBounds_toArray, List.set_cons_zero, List.set_cons_succ]
            refine wpAnyH_takeL (i := 1) (v := ?_) rfl (by kernel_rfl) (by kernel_rfl) (by kernel_rfl) (fun _ _ _ h => h) (Or.inl ⟨by rfl, ?_⟩) (by assumption) ?_
            rotate_left 1
            · (intro w hSw; (try dsimp only at hSw); go_simp; try with_reducible rfl)
            try simp only [Act.put, List.setIfInBounds_toArray, List.set_cons_zero, List.set_cons_succ]
            refine wpAnyH_takeL (i := 2) (v := ?_) rfl (by kernel_rfl) (by kernel_rfl) (by kernel_rfl) (fun _ _ _ h => h) (Or.inl ⟨by rfl, ?_⟩) (by assumption) ?_
            rotate_left 1
            · (intro w hSw; (try dsimp only at hSw); go_simp; try with_reducible rfl)
            try simp only [Act.put, List.setIfInBounds_toArray, List.set_cons_zero, List.set_cons_succ]
            refine wpAnyH_takeL (i := 3) (v := ?_) rfl (by kernel_rfl) (by kernel_rfl) (by kernel_rfl) (fun _ _ _ h => h) (Or.inl ⟨by rfl, ?_⟩) (by assumption) ?_
            rotate_left 1
            · (intro w hSw; (try dsimp only at hSw); go_simp; try with_reducible rfl)
            try simp only [Act.put, List.setIfInBounds_toArray, List.set_cons_zero, List.set_cons_succ]
            refine wpAnyH_takeL (i := 4) (v := ?_) rfl (by kernel_rfl) (by kernel_rfl) (by kernel_rfl) (fun _ _ _ h => h) (Or.inl ⟨by rfl, ?_⟩) (by assumption) ?_
            rotate_left 1
            · (intro w hSw; (try dsimp only at hSw); go_simp; try with_reducible rfl)
            try simp only [Act.put, List.setIfInBounds_toArray, List.set_cons_zero, List.set_cons_succ]
            refine wpAnyH_takeL (i := 5) (v := ?_) rfl (by kernel_rfl) (by kernel_rfl) (by kernel_rfl) (fun _ _ _ h => h) (Or.inl ⟨by rfl, ?_⟩) (by assumption) ?_
            rotate_left 1
            · (intro w hSw; (try dsimp only at hSw); go_simp; try with_reducible rfl)
            try simp only [Act.put, List.setIfInBounds_toArray, List.set_cons_zero, List.set_cons_succ]
            refine wpAnyH_takeL (i := 6) (v := ?_) rfl (by kernel_rfl) (by kernel_rfl) (by kernel_rfl) (fun _ _ _ h => h) (Or.inl ⟨by rfl, ?_⟩) (by assumption) ?_
            rotate_left 1
            · (intro w hSw; (try dsimp only at hSw); go_simp; try with_reducible rfl)
            try simp only [Act.put, List.setIfInBounds_toArray, List.set_cons_zero, List.set_cons_succ]
            refine wpAnyH_takeL (i := 7) (v := ?_) rfl (by kernel_rfl) (by kernel_rfl) (by kernel_rfl) (fun _ _ _ h => h) (Or.inl ⟨by rfl, ?_⟩) (by assumption) ?_
            rotate_left 1
            · (intro w hSw; (try dsimp only at hSw); go_simp; try with_reducible rfl)
            try simp only [Act.put, List.setIfInBounds_toArray, List.set_cons_zero, List.set_cons_succ]
            refine wpAnyH_takeL (i := 8) (v := ?_) rfl (by kernel_rfl) (by kernel_rfl) (by kernel_rfl) (fun _ _ _ h => h) (Or.inl ⟨by rfl, ?_⟩) (by assumption) ?_
            rotate_left 1
            · (intro w hSw; (try dsimp only at hSw); go_simp; try with_reducible rfl)
            try simp only [Act.put, List.setIfInBounds_toArray, List.set_cons_zero, List.set_cons_succ]
            refine wpAnyH_takeL (i := 9) (v := ?_) rfl (by kernel_rfl) (by kernel_rfl) (by kernel_rfl) (fun _ _ _ h => h) (Or.inl ⟨by rfl, ?_⟩) (by assumption) ?_
            rotate_left 1
            · (intro w hSw; (try dsimp only at hSw); go_simp; try with_reducible rfl)
            try simp only [Act.put, List.setIfInBounds_toArray, List.set_cons_zero, List.set_cons_succ]
            refine wpAnyH_takeL (i := 10) (v := ?_) rfl (by kernel_rfl) (by kernel_rfl) (by kernel_rfl) (fun _ _ _ h => h) (Or.inl ⟨by rfl, ?_⟩) (by assumption) ?_
            rotate_left 1
            · (intro w hSw; (try dsimp only at hSw); go_simp; try with_reducible rfl)
            try simp only [Act.put, List.setIfInBounds_toArray, List.set_cons_zero, List.set_cons_succ]
            refine wpAnyH_takeL (i := 11) (v := ?_) rfl (by kernel_rfl) (by kernel_rfl) (by kernel_rfl) (fun _ _ _ h => h) (Or.inl ⟨by rfl, ?_⟩) (by assumption) ?_
            rotate_left 1
            · (intro w hSw; (try dsimp only at hSw); go_simp; try with_reducible rfl)
            try simp only [Act.put, List.setIfInBounds_toArray, List.set_cons_zero, List.set_cons_succ]
            refine wpAnyH_takeL (i := 12) (v := ?_) rfl (by kernel_rfl) (by kernel_rfl) (by kernel_rfl) (fun _ _ _ h => h) (Or.inl ⟨by rfl, ?_⟩) (by assumption) ?_
            rotate_left 1
            · (intro w hSw; (try dsimp only at hSw); go_simp; try with_reducible rfl)
            try simp only [Act.put, List.setIfInBounds_toArray, List.set_cons_zero, List.set_cons_succ]
            refine wpAnyH_takeL (i := 13) (v := ?_) rfl (by kernel_rfl) (by kernel_rfl) (by kernel_rfl) (fun _ _ _ h => h) (Or.inl ⟨by rfl, ?_⟩) (by assumption) ?_
            rotate_left 1
            · (intro w hSw; (try dsimp only at hSw); go_simp; try with_reducible rfl)
            try simp only [Act.put, List.setIfInBounds_toArray, List.set_cons_zero, List.set_cons_succ]
            refine wpAnyH_takeL (i := 14) (v := ?_) rfl (by kernel_rfl) (by kernel_rfl) (by kernel_rfl) (fun _ _ _ h => h) (Or.inl ⟨by rfl, ?_⟩) (by assumption) ?_
            rotate_left 1
            · (intro w hSw; (try dsimp only at hSw); go_simp; try with_reducible rfl)
            try simp only [Act.put, List.setIfInBounds_toArray, List.set_cons_zero, List.set_cons_succ]
            refine wpAnyH_takeL (i := 15) (v := ?_) rfl (by kernel_rfl) (by kernel_rfl) (by kernel_rfl) (fun _ _ _ h => h) (Or.inl ⟨by rfl, ?_⟩) (by assumption) ?_
            rotate_left 1
            · (intro w hSw; (try dsimp only at hSw); go_simp; try with_reducible rfl)
            try simp only [Act.put, List.setIfInBounds_toArray, List.set_cons_zero, List.set_cons_succ]
            refine wpAnyH_takeL (i := 16) (v := ?_) rfl (by kernel_rfl) (by kernel_rfl) (by kernel_rfl) (fun _ _ _ h => h) (Or.inl ⟨by rfl, ?_⟩) (by assumption) ?_
            rotate_left 1
            · (intro w hSw; (try dsimp only at hSw); go_simp; try with_reducible rfl)
            try simp only [Act.put, List.setIfInBounds_toArray, List.set_cons_zero, List.set_cons_succ]
            refine wpAnyH_takeL (i := 17) (v := ?_) rfl (by kernel_rfl) (by kernel_rfl) (by kernel_rfl) (fun _ _ _ h => h) (Or.inl ⟨by rfl, ?_⟩) (by assumption) ?_
            rotate_left 1
            · (intro w hSw; (try dsimp only at hSw); go_simp; try with_reducible rfl)
            try simp only [Act.put, List.setIfInBounds_toArray, List.set_cons_zero, List.set_cons_succ]
            refine wpAnyH_takeL (i := 18) (v := ?_) rfl (by kernel_rfl) (by kernel_rfl) (by kernel_rfl) (fun _ _ _ h => h) (Or.inl ⟨by rfl, ?_⟩) (by assumption) ?_
            rotate_left 1
            · (intro w hSw; (try dsimp only at hSw); go_simp; try with_reducible rfl)
            try simp only [Act.put, List.setIfInBounds_toArray, List.set_cons_zero, List.set_cons_succ]
            refine wpAnyH_takeL (i := 19) (v := ?_) rfl (by kernel_rfl) (by kernel_rfl) (by kernel_rfl) (fun _ _ _ h => h) (Or.inl ⟨by rfl, ?_⟩) (by assumption) ?_
            rotate_left 1
            · (intro w hSw; (try dsimp only at hSw); go_simp; try with_reducible rfl)
            try simp only [Act.put, List.setIfInBounds_toArray, List.set_cons_zero, List.set_cons_succ]
            refine wpAnyH_takeL (i := 20) (v := ?_) rfl (by kernel_rfl) (by kernel_rfl) (by kernel_rfl) (fun _ _ _ h => h) (Or.inl ⟨by rfl, ?_⟩) (by assumption) ?_
            rotate_left 1
            · (intro w hSw; (try dsimp only at hSw); go_simp; try with_reducible rfl)
            try simp only [Act.put, List.setIfInBounds_toArray, List.set_cons_zero, List.set_cons_succ]
            refine wpAnyH_done (by kernel_rfl) ?_ _
            refine NoPanic.normal ?_
            clear hHeld
            go_wp2_with fail
            go_roundw
            case rel => exact ⟨k + 1, by omega, by go_num, LWd⟩
            case measure => simp [intOf]; omega
        · have hki : ¬ (k : Int) < (LP.length : Int) := by omega
          clear S5w
          go_wp2_with fail
          refine (HRI.out wr SBw SDw).mono ?_
          rintro e w8 ⟨Aa, qa, Ha, ha, rfl, SLa, SHa, hle⟩
          have SP8 := SPw.le hle
          have LG8 := LG.trans hle
          have q0 := fld0
          clear hle HRI SBw SDw SHa SPw
          go_wp2_with fail
          refine (equalInts_self Aa A2 _ qa q2 LP w8 SLa SP8).mono ?_
          rintro e w9 ⟨rfl, hle⟩
          replace LG8 := LG8.trans hle
          clear hle SLa SP8
          have hll : (LP.length == LP.length) = true := by simp
          go_wp2
          go_ret
          exact ⟨rfl, LG8⟩
end Go.Proofs.Ytlepgfccnfcagaa
