/- the law FnInLoop -/
import Derived.Test.YtlepgfccnfcagaaWp16
import Derived.Test.YtlepgfccnfcagaaWp13
import Derived.Test.YtlepgfccnfcagaaWp17
import Derived.Test.YtlepgfccnfcagaaWp18
namespace Go.Proofs.Ytlepgfccnfcagaa
open Go.RowKit
theorem il_parts {xs : List Cls} {p : List Lin} {i : Int} (h : ilOk xs p i = true) : vp xs p = true ∧ vp xs (undL ⟨0, 12, i, 0⟩ p) = true ∧ ilX xs p i = undL ⟨0, 12, i, 0⟩ p ∧ 0 ≤ i ∧ i ≤ 3 := by
  unfold ilOk at h
  rw [Bool.and_eq_true] at h
  refine ⟨h.1, h.2, by unfold ilX chkX; rw [h.1, h.2]; rfl, ?_⟩
  have h0 : 0 < (undL ⟨0, 12, i, 0⟩ p).length := by unfold undL; simp
  have := ((vp_iff.1 h.2).2.2 0 h0).1
  have e : (undL ⟨0, 12, i, 0⟩ p)[0] = ⟨0, 12, i, 0⟩ := by simp [undL]
  rw [e] at this
  unfold numS at this
  dsimp only at this
  rw [if_neg (by omega), if_neg (by omega), if_neg (by omega), if_neg (by omega), if_pos rfl, Bool.and_eq_true, rng_iff] at this
  exact this.1
theorem repL_len (t : List Int) : ∀ n, (repL t n).length = n * t.length
  | 0 => by simp [repL]
  | n + 1 => by rw [repL, List.length_append, repL_len t n, Nat.add_mul]; omega
theorem repL_ok {t : List Int} (h : ∀ x ∈ t, Enc.ok x) : ∀ n, ∀ x ∈ repL t n, Enc.ok x
  | 0, x, hx => by simp [repL] at hx
  | n + 1, x, hx => by
    rw [repL] at hx
    rcases List.mem_append.1 hx with h2 | h2
    · exact h x h2
    · exact repL_ok h n x h2
set_option maxHeartbeats 8000000 in
set_option maxRecDepth 100000 in
theorem fnInLoop_walk (A : Option Addr) (n cap : Nat) (bs : List By) (w : World) (hR : Sl w A n cap bs) :
    Calls Try.prog 7 #[.slice A n cap] w fun e w' => e = .returned (.bool true) ∧ Le w w' := by
  have hm := hR.n_le
  obtain ⟨i0, hi, hz0, hz1, hz2⟩ := info_parts infoInt
  by_cases hbig : 1048576 < n
  · go_enter Try.func7, Try.ntmps7
    go_wp2
    go_ret
    exact ⟨rfl, Le.refl w⟩
  go_enter Try.func7, Try.ntmps7
  go_wp2_with fail
  refine (drawInLoop_any A n cap bs w hR).mono ?_
  rintro e w1 ⟨B, D, m, c, q, d, xs, p, u, rfl, S, hm8, S2, hq24, hu0, hu1, L0⟩
  obtain rfl := S2.len
  have hm1 : m ≤ 1048576 := by omega
  have hsm : p.length ≤ 1048576 := by omega
  have hu : -9223372036854775808 ≤ u ∧ u ≤ 9223372036854775807 := by omega
  clear hbig hm hR
  have HI : Hid (∀ W, Sl W B m c xs → Sl W D p.length d p → Calls Try.prog 28 #[.agg #[.slice B m c], .slice D p.length d, .int .i64 u] W fun e w' => ∃ A q, e = .returned (.tuple #[.slice A (ilX xs p u).length q, .bool (ilOk xs p u)]) ∧ Sl w' A (ilX xs p u).length q (ilX xs p u) ∧ Le W w') := fun W a b => Calls.ln (iInLoopP_any B D m c _ d xs p u hm1 hu W a b)
  have HS : Hid (∀ W, Sl W B m c xs → Sl W D p.length d p → Calls Try.prog 29 #[.agg #[.slice B m c], .slice D p.length d, .int .i64 u] W fun e w' => ∃ A q, e = .returned (.tuple #[.slice A (ilX xs p u).length q, .bool (ilOk xs p u)]) ∧ Sl w' A (ilX xs p u).length q (ilX xs p u) ∧ Le W w') := fun W a b => Calls.ln (sInLoopP_any B D m c _ d xs p u hsm hu W a b)
  have HU : Hid (ilOk xs p u = true → 0 ≤ u ∧ u ≤ 3) := fun h => (il_parts h).2.2.2
  have HZ : Hid (ilOk xs p u = true → u = 0 → rpL xs (ilX xs p u) = [] ∧ rpE xs (ilX xs p u) = 0) := fun h h2 => by
    obtain ⟨a, b, c, -⟩ := il_parts h
    rw [c]
    subst h2
    exact loop_0 a b
  have HNO : Hid (ilOk xs p u = true → 0 < u → rpE xs p ≠ 0 → rpL xs (ilX xs p u) = rpL xs p ∧ rpE xs (ilX xs p u) = rpE xs p ∧ rpV xs (ilX xs p u) = rpV xs p ∧ rpH xs (ilX xs p u) = rpH xs p) := fun h h2 h3 => by
    obtain ⟨a, b, c, -⟩ := il_parts h
    rw [c]; exact loop_no a b h2 h3
  have HYES : Hid (ilOk xs p u = true → rpE xs p = 0 → rpL xs (ilX xs p u) = repL (rpL xs p) u.toNat ∧ rpE xs (ilX xs p u) = 0) := fun h h2 => by
    obtain ⟨a, b, c, -⟩ := il_parts h
    rw [c]; exact loop_yes a b h2
  have HLP := Lib.hid (rpL_len xs p)
  have HRX : Hid (∀ W A q, Sl W B m c xs → Sl W A (ilX xs p u).length q (ilX xs p u) → Calls Try.prog 11 #[.agg #[.slice B m c], .slice A (ilX xs p u).length q] W fun e w' => ∃ A0 q0 A1 q1, e = .returned (.agg #[.slice A0 (rpL xs (ilX xs p u)).length q0, .int .i64 (rpE xs (ilX xs p u)), .int .i64 (rpV xs (ilX xs p u)), .slice A1 (rpH xs (ilX xs p u)).length q1]) ∧ Sl w' A0 (rpL xs (ilX xs p u)).length q0 (rpL xs (ilX xs p u)) ∧ Sl w' A1 (rpH xs (ilX xs p u)).length q1 (rpH xs (ilX xs p u)) ∧ Le W w') := fun W A q a b => Calls.rs (iRp_any B A m c _ q xs _ hm1 W a b)
  have HRP : Hid (∀ W, Sl W B m c xs → Sl W D p.length d p → Calls Try.prog 11 #[.agg #[.slice B m c], .slice D p.length d] W fun e w' => ∃ A0 q0 A1 q1, e = .returned (.agg #[.slice A0 (rpL xs p).length q0, .int .i64 (rpE xs p), .int .i64 (rpV xs p), .slice A1 (rpH xs p).length q1]) ∧ Sl w' A0 (rpL xs p).length q0 (rpL xs p) ∧ Sl w' A1 (rpH xs p).length q1 (rpH xs p) ∧ Le W w') := fun W a b => Calls.rs (iRp_any B D m c _ d xs _ hm1 W a b)
  generalize rpL xs (ilX xs p u) = LX at *
  generalize rpE xs (ilX xs p u) = EX at *
  generalize rpV xs (ilX xs p u) = VX at *
  generalize rpH xs (ilX xs p u) = HX at *
  generalize ilX xs p u = X at *
  generalize ilOk xs p u = ok at *
  generalize rpL xs p = LP at *
  generalize rpE xs p = EP at *
  generalize rpV xs p = VP at *
  generalize rpH xs p = HP at *
  have hbb : (ok != ok) = false := by simp
  have hbb2 : (ok == ok) = true := by simp
  clear hu
  go_wp2_with fail
  obtain ⟨ct, zt, hleB⟩ := box1 w1 (.slice B m c) 25
  replace S := S.le hleB
  replace L0 := L0.trans hleB
  replace S2 := S2.le hleB
  clear hleB
  generalize w1.alloc (.cells #[.slice B m c] 25) = W1 at *
  refine (HI.out W1 S S2).mono ?_
  rintro e w2 ⟨A2, q2, rfl, S4, hle⟩
  replace ct := (hle.cell zt).trans ct
  replace zt := Nat.lt_of_lt_of_le zt hle.size
  replace S := S.le hle
  replace L0 := L0.trans hle
  replace S2 := S2.le hle
  clear hle
  go_wp2_with fail
  refine (HS.out w2 S S2).mono ?_
  rintro e w3 ⟨A3, q3, rfl, S5, hle⟩
  replace ct := (hle.cell zt).trans ct
  replace zt := Nat.lt_of_lt_of_le zt hle.size
  replace S := S.le hle
  replace L0 := L0.trans hle
  replace S2 := S2.le hle
  replace S4 := S4.le hle
  clear hle HI HS
  go_wp2_with fail
  refine (equalLines_self A2 A3 _ q2 q3 X w3 S4 S5).mono ?_
  rintro e w4 ⟨rfl, hle⟩
  replace ct := (hle.cell zt).trans ct
  replace zt := Nat.lt_of_lt_of_le zt hle.size
  replace S := S.le hle
  replace L0 := L0.trans hle
  replace S2 := S2.le hle
  replace S4 := S4.le hle
  replace S5 := S5.le hle
  clear hle
  cases ok
  · go_wp2_with fail
    refine (equalLines_self A2 A3 _ q2 q3 X w4 S4 S5).mono ?_
    rintro e w5 ⟨rfl, hle⟩
    replace L0 := L0.trans hle
    clear hle
    go_wp2
    go_ret
    exact ⟨rfl, L0⟩
  replace HNO := Lib.hid (HNO.out rfl)
  replace HYES := Lib.hid (HYES.out rfl)
  replace HZ := Lib.hid (HZ.out rfl)
  have hu2 := HU.out rfl
  clear hbb hbb2 S5 HU hu0 hu1
  go_wp2_with fail
  refine (HRP.out w4 S S2).mono ?_
  rintro e w5 ⟨Aa, qa, Ha, ha, rfl, SLa, SHa, hle⟩
  replace ct := (hle.cell zt).trans ct
  replace zt := Nat.lt_of_lt_of_le zt hle.size
  replace S := S.le hle
  replace L0 := L0.trans hle
  replace S2 := S2.le hle
  replace S4 := S4.le hle
  clear hle HRP
  obtain ⟨ca0, ca1, ca2, ca3, za0, LB⟩ := boxRr w5 (.slice Aa LP.length qa) (.int .i64 EP) (.int .i64 VP) (.slice Ha HP.length ha) 34
  have za1 := za0
  have za2 := za0
  have za3 := za0
  replace ct := (LB.cell zt).trans ct
  replace zt := Nat.lt_of_lt_of_le zt LB.size
  replace S := S.le LB
  replace L0 := L0.trans LB
  replace S2 := S2.le LB
  replace S4 := S4.le LB
  replace SLa := SLa.le LB
  replace SHa := SHa.le LB
  clear LB
  go_wp2_with fail
  generalize w5.alloc (.cells #[.slice Aa LP.length qa, .int .i64 EP, .int .i64 VP, .slice Ha HP.length ha] 34) = W5 at *
  generalize w5.heap.size = ba at *
  refine (HRX.out W5 A2 q2 S S4).mono ?_
  rintro e w7 ⟨Ac, qc, Hc, hc, rfl, SLc, SHc, hle⟩
  replace ct := (hle.cell zt).trans ct
  replace ca0 := (hle.cell za0).trans ca0
  replace ca1 := (hle.cell za1).trans ca1
  replace ca2 := (hle.cell za2).trans ca2
  replace ca3 := (hle.cell za3).trans ca3
  replace zt := Nat.lt_of_lt_of_le zt hle.size
  replace za0 := Nat.lt_of_lt_of_le za0 hle.size
  replace za1 := Nat.lt_of_lt_of_le za1 hle.size
  replace za2 := Nat.lt_of_lt_of_le za2 hle.size
  replace za3 := Nat.lt_of_lt_of_le za3 hle.size
  replace L0 := L0.trans hle
  replace SLa := SLa.le hle
  replace SHa := SHa.le hle
  clear hle HRX
  obtain ⟨cc0, cc1, cc2, cc3, zc0, LB⟩ := boxRr w7 (.slice Ac LX.length qc) (.int .i64 EX) (.int .i64 VX) (.slice Hc HX.length hc) 34
  have zc1 := zc0
  have zc2 := zc0
  have zc3 := zc0
  replace ca0 := (LB.cell za0).trans ca0
  replace ca1 := (LB.cell za1).trans ca1
  replace ca2 := (LB.cell za2).trans ca2
  replace ca3 := (LB.cell za3).trans ca3
  replace za0 := Nat.lt_of_lt_of_le za0 LB.size
  replace za1 := Nat.lt_of_lt_of_le za1 LB.size
  replace za2 := Nat.lt_of_lt_of_le za2 LB.size
  replace za3 := Nat.lt_of_lt_of_le za3 LB.size
  replace L0 := L0.trans LB
  replace SLa := SLa.le LB
  replace SHa := SHa.le LB
  replace SLc := SLc.le LB
  replace SHc := SHc.le LB
  clear LB
  by_cases hu0 : u = 0
  · subst hu0
    obtain ⟨rfl, rfl⟩ := HZ.out (by trivial)
    clear HZ HNO HYES
    go_wp2
    go_ret
    exact ⟨rfl, L0⟩
  have hub : (u == 0) = false := by rw [beq_eq_false_iff_ne]; exact hu0
  have hup : 0 < u := by omega
  clear HZ
  by_cases he : EP = 0
  · subst he
    obtain ⟨hl, rfl⟩ := HYES.out (by trivial)
    have HLX := Lib.hid hl
    have hl1 := HLP.out
    obtain ⟨N, rfl⟩ := Int.eq_ofNat_of_zero_le hu2.1
    have hN3 : N ≤ 3 := by omega
    have HRL : Hid (∀ k, k ≤ N → (repL LP k).length ≤ 3145728) := fun k hk => by
      rw [repL_len]
      have : k * LP.length ≤ 3 * 1048576 := Nat.mul_le_mul (by omega) hl1
      omega
    have HOK : Hid (∀ k, ∀ x ∈ repL LP k, Enc.ok x) := fun k => repL_ok SLa.ok k
    have hN0 : ¬ N = 0 := by omega
    have hubn : (N == 0) = false := by rw [beq_eq_false_iff_ne]; exact hN0
    clear HYES HNO hl hu0 hup hu2
    have hs7 : (w7.alloc (.cells #[.slice Ac LX.length qc, .int .i64 0, .int .i64 VX, .slice Hc HX.length hc] 34)).heap.size = w7.heap.size + 1 := by simp
    go_wp2_with fail
    generalize w7.alloc (.cells #[.slice Ac LX.length qc, .int .i64 0, .int .i64 VX, .slice Hc HX.length hc] 34) = W7 at *
    rw [← hs7]
    clear hs7 hub hubn
    generalize w7.heap.size = bx at *
    have O1 := own_empty (w := W7) (base := W7.heap.size) (g := W7.heap.size) (e := 3) (size := 1) (Nat.le_refl _) rfl
    have L1 := Le.new W7 (.cells #[] 3)
    have HA := Lib.hid ca0
    have HSa := Lib.hid SLa
    go_loopw [12, 13] (fun v i wr => ∃ k : Nat, k ≤ N ∧ i = .int .i64 k ∧ wr.ownsRow W7.heap.size 3 1 v (repL LP k).length ((repL LP k).flatMap Enc.cells) ∧ Le W7 wr) (fun _ i _ => N - (intOf i).toNat)
    case atStart => exact ⟨0, Nat.zero_le _, rfl, O1, L1⟩
    case round =>
      clear O1 L1 ca0
      obtain ⟨k, hk, rfl, O, LR⟩ := hrel
      have hrl := HRL.out k hk
      have hsn := Lib.hid (repL_snoc LP k)
      obtain ⟨A9, q9, rfl⟩ := own_form O
      by_cases hkN : k < N
      · have hki : (k : Int) < (N : Int) := by omega
        have ca0 := (LR.cell za0).trans HA.out
        have SL := HSa.out.le LR
        have zr : ba < wr.heap.size := Nat.lt_of_lt_of_le za0 LR.size
        have hl9 : (repL LP k).length + LP.length = (repL LP (k + 1)).length := by rw [hsn.out, List.length_append]
        go_wp2_with (first | (at_builtin; refine wpList_append_sl rfl _ _ 29 rfl W7.heap.size 3 i0 _ 8 Try.underlying29 hi hz0 hz1 hz2 rfl (.slice A9 (repL LP k).length q9) (repL LP k).length (repL LP k) rfl O Aa LP.length qa LP rfl SL (by unfold maxLen; omega) (by omega) LR.size ?_; intro v1 w9 O9 hg9 hat9; have L9 := LR.grown hg9 (fun j hj => (O.lt j hj).1); clear hg9 hat9))
        rw [hl9, ← hsn.out] at O9
        go_roundw
        case rel => exact ⟨k + 1, by omega, by go_num, O9, L9⟩
        case measure => simp [intOf]; omega
      · have hki : ¬ (k : Int) < (N : Int) := by omega
        obtain rfl : k = N := by omega
        have e9 : Hid (repL LP k = LX) := by show _ = _; rw [HLX.out, Int.toNat_natCast]
        rw [e9.out] at O
        have SX := Sl.of_own O rfl (by decide) (xs := LX) (fun x hx => HOK.out k x (by rw [e9.out]; exact hx))
        have SC := SLc.le LR
        have cc0 := (LR.cell zc0).trans cc0
        have cc1 := (LR.cell zc0).trans cc1
        have zr : bx < wr.heap.size := Nat.lt_of_lt_of_le zc0 LR.size
        have LF := L0.trans LR
        rw [e9.out]
        clear O hrl hsn
        go_wp2_with fail
        refine (equalInts_self Ac A9 _ qc q9 LX wr SC SX).mono ?_
        rintro e wf ⟨rfl, hle⟩
        replace cc1 := (hle.cell zr).trans cc1
        replace LF := LF.trans hle
        clear hle SX SC cc0
        go_wp2
        go_ret
        exact ⟨rfl, LF⟩
  · have heb : (EP != 0) = true := by simp [he]
    obtain ⟨rfl, rfl, rfl, rfl⟩ := HNO.out hup he
    clear HYES HNO
    go_wp2_with fail
    generalize w7.alloc (.cells #[.slice Ac LX.length qc, .int .i64 EX, .int .i64 VX, .slice Hc HX.length hc] 34) = W7 at *
    refine (equalResult_self Ac Aa Hc Ha _ qc qa _ hc ha _ _ _ _ W7 SLc SLa SHc SHa).mono ?_
    rintro e w8 ⟨rfl, hle⟩
    have LF := L0.trans hle
    clear hle
    go_wp2
    go_ret
    exact ⟨rfl, LF⟩
end Go.Proofs.Ytlepgfccnfcagaa
