/- the law FnWithFinally -/
import Derived.Test.YtlepgfccnfcagaaWp16
import Derived.Test.YtlepgfccnfcagaaWp13
import Derived.Test.YtlepgfccnfcagaaWp18
namespace Go.Proofs.Ytlepgfccnfcagaa
open Go.RowKit
theorem wf_parts {xs : List Cls} {p q : List Lin} (h : twOk xs p ⟨0, 10, 0, 0⟩ q = true) : vp xs p = true ∧ vp xs q = true ∧ vp xs (undL ⟨0, 7, 0, 0⟩ p ++ undL ⟨0, 10, 0, 0⟩ q) = true ∧ twX xs p ⟨0, 10, 0, 0⟩ q = undL ⟨0, 7, 0, 0⟩ p ++ undL ⟨0, 10, 0, 0⟩ q := by
  unfold twOk at h
  rw [Bool.and_eq_true, Bool.and_eq_true] at h
  refine ⟨h.1.1, h.1.2, h.2, ?_⟩
  unfold twX chkX
  rw [h.1.1, h.1.2, h.2]; rfl
theorem Sl.cutI {w : World} {ad : Addr} {n cap : Nat} {xs : List Int} (h : Sl w (some ad) n cap xs) (k : Nat) (hk : k ≤ n) : Sl w (some (ad.add k)) (n - k) (cap - k) (xs.drop k) := by
  by_cases hn : n = k
  · subst hn
    have e : xs.drop n = [] := List.drop_eq_nil_of_le (by rw [h.len]; exact Nat.le_refl _)
    rw [e, Nat.sub_self]
    exact Sl.nil _ _ _ (by have := h.max; omega)
  · obtain ⟨b, off, e, _⟩ := h.at_ (by omega)
    simp only [Option.some.injEq] at e
    subst e
    have e : (⟨b, off, none⟩ : Addr).add k = ⟨b, off + k, none⟩ := by
      unfold Addr.add; split
      · next h => simp_all
      · rfl
    rw [e]
    refine ⟨by rw [List.length_drop, h.len], by have := h.cap_; omega, by have := h.max; omega, fun x hx => h.ok x (List.mem_of_mem_drop hx), fun hn => ?_⟩
    obtain ⟨b', off', e, hb, hc⟩ := h.at_ (by omega)
    simp only [Option.some.injEq, Addr.mk.injEq, and_true] at e
    obtain ⟨rfl, rfl⟩ := e
    refine ⟨b, _, rfl, hb, fun j u hu => ?_⟩
    have e2 : xs.flatMap (Enc.cells (α := Int)) = (xs.take k).flatMap Enc.cells ++ (xs.drop k).flatMap Enc.cells := by rw [← List.flatMap_append, List.take_append_drop]
    have e3 : ((xs.take k).flatMap (Enc.cells (α := Int))).length = k := by rw [flat_len, List.length_take, Nat.min_eq_left (by rw [h.len]; exact hk)]; exact Nat.mul_one k
    have := hc (k + j) u (by rw [e2, List.getElem?_append_right (by omega), e3, Nat.add_sub_cancel_left]; exact hu)
    rw [← Nat.add_assoc] at this; exact this
theorem Sl.none_nilI {w : World} {n cap : Nat} {xs : List Int} (h : Sl w none n cap xs) : xs = [] := by
  rcases Nat.eq_zero_or_pos n with h0 | h0
  · exact List.eq_nil_of_length_eq_zero (by rw [h.len, h0])
  · obtain ⟨b, off, e, _⟩ := h.at_ h0; cases e
theorem Sl.cutO {w : World} {A : Option Addr} {n cap : Nat} {xs : List Int} (h : Sl w A n cap xs) (k : Nat) (hk : k ≤ n) : Sl w (A.map fun x => x.add k) (n - k) (cap - k) (xs.drop k) := by
  cases A with
  | none =>
    have e := h.none_nilI
    have hl := h.len
    have hm := h.max
    rw [e] at hl
    subst e
    simp at hl
    obtain rfl : n = 0 := hl.symm
    obtain rfl : k = 0 := by omega
    exact Sl.nil _ _ _ (by omega)
  | some ad => exact h.cutI k hk
theorem no3_snoc {r : List Lin} {k : Nat} (hk : k < r.length) (h : ∀ x ∈ r.take k, x.kind ≠ 3) (h2 : r[k].kind ≠ 3) : ∀ x ∈ r.take (k + 1), x.kind ≠ 3 := by
  intro x hx
  rw [List.take_succ_eq_append_getElem hk] at hx
  rcases List.mem_append.1 hx with h3 | h3
  · exact h x h3
  · rw [List.mem_singleton] at h3
    subst h3; exact h2
set_option maxHeartbeats 8000000 in
set_option maxRecDepth 100000 in
theorem fnWithFinally_walk (A : Option Addr) (n cap : Nat) (bs : List By) (w : World) (hR : Sl w A n cap bs) :
    Calls Try.prog 6 #[.slice A n cap] w fun e w' => e = .returned (.bool true) ∧ Le w w' := by
  have hm := hR.n_le
  obtain ⟨i0, hi, hz0, hz1, hz2⟩ := info_parts infoInt
  by_cases hbig : 1048576 < n
  · go_enter Try.func6, Try.ntmps6
    go_wp2
    go_ret
    exact ⟨rfl, Le.refl w⟩
  go_enter Try.func6, Try.ntmps6
  go_wp2_with fail
  refine (drawWithFinally_any A n cap bs w hR).mono ?_
  rintro e w1 ⟨B, D, E, m, c, q, d, q2, d2, xs, p, r, rfl, S, hm8, S2, hq24, S3, hq8, L0⟩
  obtain rfl := S2.len
  obtain rfl := S3.len
  have hm1 : m ≤ 1048576 := by omega
  have hsm : p.length ≤ 1048576 := by omega
  have hsq : r.length ≤ 1048576 := by omega
  clear hbig hm hR
  have HI : Hid (∀ W, Sl W B m c xs → Sl W D p.length d p → Sl W E r.length d2 r → Calls Try.prog 24 #[.agg #[.slice B m c], .slice D p.length d, .slice E r.length d2] W fun e w' => ∃ A q, e = .returned (.tuple #[.slice A (twX xs p ⟨0, 10, 0, 0⟩ r).length q, .bool (twOk xs p ⟨0, 10, 0, 0⟩ r)]) ∧ Sl w' A (twX xs p ⟨0, 10, 0, 0⟩ r).length q (twX xs p ⟨0, 10, 0, 0⟩ r) ∧ Le W w') := fun W a b e => Calls.ln (iWithFinally_any B D E m c _ d _ d2 xs p r hm1 W a b e)
  have HS : Hid (∀ W, Sl W B m c xs → Sl W D p.length d p → Sl W E r.length d2 r → Calls Try.prog 25 #[.agg #[.slice B m c], .slice D p.length d, .slice E r.length d2] W fun e w' => ∃ A q, e = .returned (.tuple #[.slice A (twX xs p ⟨0, 10, 0, 0⟩ r).length q, .bool (twOk xs p ⟨0, 10, 0, 0⟩ r)]) ∧ Sl w' A (twX xs p ⟨0, 10, 0, 0⟩ r).length q (twX xs p ⟨0, 10, 0, 0⟩ r) ∧ Le W w') := fun W a b e => Calls.ln (sWithFinally_any B D E m c _ d _ d2 xs p r hsm hsq W a b e)
  have HLG : Hid (twOk xs p ⟨0, 10, 0, 0⟩ r = true → ∃ t, rpL xs (twX xs p ⟨0, 10, 0, 0⟩ r) = rpL xs p ++ t) := fun h => by
    obtain ⟨a, b, c, e⟩ := wf_parts h
    rw [e]; exact wf_log a b c
  have HNK : Hid (twOk xs p ⟨0, 10, 0, 0⟩ r = true → (∀ x ∈ r, x.kind ≠ 3) → rpL xs (twX xs p ⟨0, 10, 0, 0⟩ r) = rpL xs p ++ rpL xs r ∧ (rpE xs r = 0 → rpE xs (twX xs p ⟨0, 10, 0, 0⟩ r) = rpE xs p ∧ rpV xs (twX xs p ⟨0, 10, 0, 0⟩ r) = rpV xs p ∧ rpH xs (twX xs p ⟨0, 10, 0, 0⟩ r) = rpH xs p) ∧ (rpE xs r ≠ 0 → rpE xs (twX xs p ⟨0, 10, 0, 0⟩ r) = rpE xs r ∧ (rpE xs r = 2 ∨ rpV xs (twX xs p ⟨0, 10, 0, 0⟩ r) = rpV xs r))) := fun h h2 => by
    obtain ⟨a, b, c, e⟩ := wf_parts h
    rw [e]; exact wf_no a b c h2
  have HLP := Lib.hid (rpL_len xs p)
  have HLR := Lib.hid (rpL_len xs r)
  have HRX : Hid (∀ W A q, Sl W B m c xs → Sl W A (twX xs p ⟨0, 10, 0, 0⟩ r).length q (twX xs p ⟨0, 10, 0, 0⟩ r) → Calls Try.prog 11 #[.agg #[.slice B m c], .slice A (twX xs p ⟨0, 10, 0, 0⟩ r).length q] W fun e w' => ∃ A0 q0 A1 q1, e = .returned (.agg #[.slice A0 (rpL xs (twX xs p ⟨0, 10, 0, 0⟩ r)).length q0, .int .i64 (rpE xs (twX xs p ⟨0, 10, 0, 0⟩ r)), .int .i64 (rpV xs (twX xs p ⟨0, 10, 0, 0⟩ r)), .slice A1 (rpH xs (twX xs p ⟨0, 10, 0, 0⟩ r)).length q1]) ∧ Sl w' A0 (rpL xs (twX xs p ⟨0, 10, 0, 0⟩ r)).length q0 (rpL xs (twX xs p ⟨0, 10, 0, 0⟩ r)) ∧ Sl w' A1 (rpH xs (twX xs p ⟨0, 10, 0, 0⟩ r)).length q1 (rpH xs (twX xs p ⟨0, 10, 0, 0⟩ r)) ∧ Le W w') := fun W A q a b => Calls.rs (iRp_any B A m c _ q xs _ hm1 W a b)
  have HRP : Hid (∀ W, Sl W B m c xs → Sl W D p.length d p → Calls Try.prog 11 #[.agg #[.slice B m c], .slice D p.length d] W fun e w' => ∃ A0 q0 A1 q1, e = .returned (.agg #[.slice A0 (rpL xs p).length q0, .int .i64 (rpE xs p), .int .i64 (rpV xs p), .slice A1 (rpH xs p).length q1]) ∧ Sl w' A0 (rpL xs p).length q0 (rpL xs p) ∧ Sl w' A1 (rpH xs p).length q1 (rpH xs p) ∧ Le W w') := fun W a b => Calls.rs (iRp_any B D m c _ d xs _ hm1 W a b)
  have HRR : Hid (∀ W, Sl W B m c xs → Sl W E r.length d2 r → Calls Try.prog 11 #[.agg #[.slice B m c], .slice E r.length d2] W fun e w' => ∃ A0 q0 A1 q1, e = .returned (.agg #[.slice A0 (rpL xs r).length q0, .int .i64 (rpE xs r), .int .i64 (rpV xs r), .slice A1 (rpH xs r).length q1]) ∧ Sl w' A0 (rpL xs r).length q0 (rpL xs r) ∧ Sl w' A1 (rpH xs r).length q1 (rpH xs r) ∧ Le W w') := fun W a b => Calls.rs (iRp_any B E m c _ d2 xs _ hm1 W a b)
  generalize rpL xs (twX xs p ⟨0, 10, 0, 0⟩ r) = LX at *
  generalize rpE xs (twX xs p ⟨0, 10, 0, 0⟩ r) = EX at *
  generalize rpV xs (twX xs p ⟨0, 10, 0, 0⟩ r) = VX at *
  generalize rpH xs (twX xs p ⟨0, 10, 0, 0⟩ r) = HX at *
  generalize twX xs p ⟨0, 10, 0, 0⟩ r = X at *
  generalize twOk xs p ⟨0, 10, 0, 0⟩ r = ok at *
  generalize rpL xs p = LP at *
  generalize rpE xs p = EP at *
  generalize rpV xs p = VP at *
  generalize rpH xs p = HP at *
  generalize rpL xs r = LR at *
  generalize rpE xs r = ER at *
  generalize rpV xs r = VR at *
  generalize rpH xs r = HR at *
  have hbb : (ok != ok) = false := by simp
  have hbb2 : (ok == ok) = true := by simp
  go_wp2_with fail
  obtain ⟨ct, zt, hleB⟩ := box1 w1 (.slice B m c) 25
  replace S := S.le hleB
  replace L0 := L0.trans hleB
  replace S2 := S2.le hleB
  replace S3 := S3.le hleB
  clear hleB
  generalize w1.alloc (.cells #[.slice B m c] 25) = W1 at *
  refine (HI.out W1 S S2 S3).mono ?_
  rintro e w2 ⟨A2, q2, rfl, S4, hle⟩
  replace ct := (hle.cell zt).trans ct
  replace zt := Nat.lt_of_lt_of_le zt hle.size
  replace S := S.le hle
  replace L0 := L0.trans hle
  replace S2 := S2.le hle
  replace S3 := S3.le hle
  clear hle
  go_wp2_with fail
  refine (HS.out w2 S S2 S3).mono ?_
  rintro e w3 ⟨A3, q3, rfl, S5, hle⟩
  replace ct := (hle.cell zt).trans ct
  replace zt := Nat.lt_of_lt_of_le zt hle.size
  replace S := S.le hle
  replace L0 := L0.trans hle
  replace S2 := S2.le hle
  replace S3 := S3.le hle
  replace S4 := S4.le hle
  clear hle HI HS
  go_wp2_with fail
  refine (equalLines_self A2 A3 _ q2 q3 X w3 S4 S5).mono ?_
  rintro e w4 ⟨rfl, hle⟩
  replace ct := (hle.cell zt).trans ct
  replace zt := Nat.lt_of_lt_of_le zt hle.size
  replace S := S.le hle
  replace L0 := L0.trans hle
  replace S2 := S2.le hle
  replace S3 := S3.le hle
  replace S4 := S4.le hle
  replace S5 := S5.le hle
  clear hle
  cases ok
  · go_wp2_with fail
    refine (equalLines_self A2 A3 _ q2 q3 X w4 S4 S5).mono ?_
    rintro e w5 ⟨rfl, hle⟩
    replace L0 := L0.trans hle
    clear hle
    go_wp2
    go_ret
    exact ⟨rfl, L0⟩
  replace HNK := Lib.hid (HNK.out rfl)
  obtain ⟨t, HLt⟩ := HLG.out rfl
  replace HLt := Lib.hid HLt
  clear HLG
  clear hbb hbb2 S5
  go_wp2_with fail
  refine (HRP.out w4 S S2).mono ?_
  rintro e w5 ⟨Aa, qa, Ha, ha, rfl, SLa, SHa, hle⟩
  replace ct := (hle.cell zt).trans ct
  replace zt := Nat.lt_of_lt_of_le zt hle.size
  replace S := S.le hle
  replace L0 := L0.trans hle
  replace S2 := S2.le hle
  replace S3 := S3.le hle
  replace S4 := S4.le hle
  clear hle HRP
  obtain ⟨ca0, ca1, ca2, ca3, za0, LB⟩ := boxRr w5 (.slice Aa LP.length qa) (.int .i64 EP) (.int .i64 VP) (.slice Ha HP.length ha) 34
  have za1 := za0
  have za2 := za0
  have za3 := za0
  replace ct := (LB.cell zt).trans ct
  replace zt := Nat.lt_of_lt_of_le zt LB.size
  replace S := S.le LB
  replace L0 := L0.trans LB
  replace S2 := S2.le LB
  replace S3 := S3.le LB
  replace S4 := S4.le LB
  replace SLa := SLa.le LB
  replace SHa := SHa.le LB
  clear LB
  go_wp2_with fail
  generalize w5.alloc (.cells #[.slice Aa LP.length qa, .int .i64 EP, .int .i64 VP, .slice Ha HP.length ha] 34) = W5 at *
  generalize w5.heap.size = ba at *
  refine (HRR.out W5 S S3).mono ?_
  rintro e w6 ⟨Ab, qb, Hb, hb, rfl, SLb, SHb, hle⟩
  replace ct := (hle.cell zt).trans ct
  replace ca0 := (hle.cell za0).trans ca0
  replace ca1 := (hle.cell za1).trans ca1
  replace ca2 := (hle.cell za2).trans ca2
  replace ca3 := (hle.cell za3).trans ca3
  replace zt := Nat.lt_of_lt_of_le zt hle.size
  replace za0 := Nat.lt_of_lt_of_le za0 hle.size
  replace za1 := Nat.lt_of_lt_of_le za1 hle.size
  replace za2 := Nat.lt_of_lt_of_le za2 hle.size
  replace za3 := Nat.lt_of_lt_of_le za3 hle.size
  replace S := S.le hle
  replace L0 := L0.trans hle
  replace S2 := S2.le hle
  replace S3 := S3.le hle
  replace S4 := S4.le hle
  replace SLa := SLa.le hle
  replace SHa := SHa.le hle
  clear hle HRR
  obtain ⟨cb0, cb1, cb2, cb3, zb0, LB⟩ := boxRr w6 (.slice Ab LR.length qb) (.int .i64 ER) (.int .i64 VR) (.slice Hb HR.length hb) 34
  have zb1 := zb0
  have zb2 := zb0
  have zb3 := zb0
  have fb0 : (w6.alloc (.cells #[.slice Ab LR.length qb, .int .i64 ER, .int .i64 VR, .slice Hb HR.length hb] 34)).frozen? ⟨w6.heap.size, 0, none⟩ = false := World.frozen?_alloc_at _ _ _ _ rfl
  have hab : ba < w6.heap.size := za0
  have HWB : Hid (w.heap.size ≤ w6.heap.size) := L0.size
  replace ct := (LB.cell zt).trans ct
  replace ca0 := (LB.cell za0).trans ca0
  replace ca1 := (LB.cell za1).trans ca1
  replace ca2 := (LB.cell za2).trans ca2
  replace ca3 := (LB.cell za3).trans ca3
  replace zt := Nat.lt_of_lt_of_le zt LB.size
  replace za0 := Nat.lt_of_lt_of_le za0 LB.size
  replace za1 := Nat.lt_of_lt_of_le za1 LB.size
  replace za2 := Nat.lt_of_lt_of_le za2 LB.size
  replace za3 := Nat.lt_of_lt_of_le za3 LB.size
  replace S := S.le LB
  replace L0 := L0.trans LB
  replace S3 := S3.le LB
  replace S4 := S4.le LB
  replace SLa := SLa.le LB
  replace SHa := SHa.le LB
  replace SLb := SLb.le LB
  replace SHb := SHb.le LB
  clear LB
  go_wp2_with fail
  generalize w6.alloc (.cells #[.slice Ab LR.length qb, .int .i64 ER, .int .i64 VR, .slice Hb HR.length hb] 34) = W6 at *
  generalize w6.heap.size = bb at *
  refine (HRX.out W6 A2 q2 S S4).mono ?_
  rintro e w7 ⟨Ac, qc, Hc, hc, rfl, SLc, SHc, hle⟩
  replace fb0 := (hle.frozen zb0).trans fb0
  replace ct := (hle.cell zt).trans ct
  replace ca0 := (hle.cell za0).trans ca0
  replace ca1 := (hle.cell za1).trans ca1
  replace ca2 := (hle.cell za2).trans ca2
  replace ca3 := (hle.cell za3).trans ca3
  replace cb0 := (hle.cell zb0).trans cb0
  replace cb1 := (hle.cell zb1).trans cb1
  replace cb2 := (hle.cell zb2).trans cb2
  replace cb3 := (hle.cell zb3).trans cb3
  replace zt := Nat.lt_of_lt_of_le zt hle.size
  replace za0 := Nat.lt_of_lt_of_le za0 hle.size
  replace za1 := Nat.lt_of_lt_of_le za1 hle.size
  replace za2 := Nat.lt_of_lt_of_le za2 hle.size
  replace za3 := Nat.lt_of_lt_of_le za3 hle.size
  replace zb0 := Nat.lt_of_lt_of_le zb0 hle.size
  replace zb1 := Nat.lt_of_lt_of_le zb1 hle.size
  replace zb2 := Nat.lt_of_lt_of_le zb2 hle.size
  replace zb3 := Nat.lt_of_lt_of_le zb3 hle.size
  replace L0 := L0.trans hle
  replace S3 := S3.le hle
  replace SLa := SLa.le hle
  replace SHa := SHa.le hle
  replace SLb := SLb.le hle
  replace SHb := SHb.le hle
  clear hle HRX
  obtain ⟨cc0, cc1, cc2, cc3, zc0, LB⟩ := boxRr w7 (.slice Ac LX.length qc) (.int .i64 EX) (.int .i64 VX) (.slice Hc HX.length hc) 34
  have zc1 := zc0
  have zc2 := zc0
  have zc3 := zc0
  have hbc : bb < w7.heap.size := zb0
  replace fb0 := (LB.frozen zb0).trans fb0
  replace ca0 := (LB.cell za0).trans ca0
  replace ca1 := (LB.cell za1).trans ca1
  replace ca2 := (LB.cell za2).trans ca2
  replace ca3 := (LB.cell za3).trans ca3
  replace cb0 := (LB.cell zb0).trans cb0
  replace cb1 := (LB.cell zb1).trans cb1
  replace cb2 := (LB.cell zb2).trans cb2
  replace cb3 := (LB.cell zb3).trans cb3
  replace za0 := Nat.lt_of_lt_of_le za0 LB.size
  replace za1 := Nat.lt_of_lt_of_le za1 LB.size
  replace za2 := Nat.lt_of_lt_of_le za2 LB.size
  replace za3 := Nat.lt_of_lt_of_le za3 LB.size
  replace zb0 := Nat.lt_of_lt_of_le zb0 LB.size
  replace zb1 := Nat.lt_of_lt_of_le zb1 LB.size
  replace zb2 := Nat.lt_of_lt_of_le zb2 LB.size
  replace zb3 := Nat.lt_of_lt_of_le zb3 LB.size
  replace L0 := L0.trans LB
  replace S3 := S3.le LB
  replace SLa := SLa.le LB
  replace SHa := SHa.le LB
  replace SLb := SLb.le LB
  replace SHb := SHb.le LB
  replace SLc := SLc.le LB
  replace SHc := SHc.le LB
  clear LB
  have hl1 := HLP.out
  have hlx : LX.length = LP.length + t.length := by rw [HLt.out, List.length_append]
  have hcap : LP.length ≤ qc := by have := SLc.cap_; omega
  have hci : (LP.length : Int) ≤ (qc : Int) := by omega
  have hlt : ¬ (LX.length : Int) < (LP.length : Int) := by omega
  have hltn : ¬ LX.length < LP.length := by omega
  have hltc : decide (LX.length < LP.length) = false := decide_eq_false hltn
  have hltb : decide ((LX.length : Int) < (LP.length : Int)) = false := decide_eq_false hlt
  have HQ := Lib.hid SLc.cap_
  have STK : ∀ W : World, Sl W Ac LX.length qc LX → Sl W Ac LP.length qc LP := fun W h => by
    have h2 := h.take_ LP.length (by omega)
    rw [HLt.out, List.take_left] at h2
    exact h2
  have SDR : ∀ W : World, Sl W Ac LX.length qc LX → Sl W (Ac.map fun x => x.add LP.length) t.length (qc - LP.length) t := fun W h => by
    have h2 := h.cutO LP.length (by omega)
    rw [hlx, Nat.add_sub_cancel_left, HLt.out, List.drop_left] at h2
    exact h2
  replace STK := Lib.hid STK
  replace hlx := Lib.hid hlx
  replace SDR := Lib.hid SDR
  have hwb : Hid (w.heap.size ≤ bb) := HWB
  go_wp2_with fail
  generalize w7.alloc (.cells #[.slice Ac LX.length qc, .int .i64 EX, .int .i64 VX, .slice Hc HX.length hc] 34) = W7 at *
  generalize w7.heap.size = bx at *
  have EQ1 : Hid (∀ W, Sl W Ac LX.length qc LX → Sl W Aa LP.length qa LP → Calls Try.prog 17 #[.slice Ac LP.length qc, .slice Aa LP.length qa] W fun e w' => e = .returned (.bool true) ∧ Le W w') := fun W h1 h2 => equalInts_self Ac Aa _ qc qa LP W (STK.out W h1) h2
  replace ca0 := (show W7.drew.cell? _ = _ from ca0)
  replace za0 := (show _ < W7.drew.heap.size from za0)
  replace ca1 := (show W7.drew.cell? _ = _ from ca1)
  replace za1 := (show _ < W7.drew.heap.size from za1)
  replace ca2 := (show W7.drew.cell? _ = _ from ca2)
  replace za2 := (show _ < W7.drew.heap.size from za2)
  replace ca3 := (show W7.drew.cell? _ = _ from ca3)
  replace za3 := (show _ < W7.drew.heap.size from za3)
  replace cb0 := (show W7.drew.cell? _ = _ from cb0)
  replace zb0 := (show _ < W7.drew.heap.size from zb0)
  replace cb1 := (show W7.drew.cell? _ = _ from cb1)
  replace zb1 := (show _ < W7.drew.heap.size from zb1)
  replace cb2 := (show W7.drew.cell? _ = _ from cb2)
  replace zb2 := (show _ < W7.drew.heap.size from zb2)
  replace cb3 := (show W7.drew.cell? _ = _ from cb3)
  replace zb3 := (show _ < W7.drew.heap.size from zb3)
  replace cc0 := (show W7.drew.cell? _ = _ from cc0)
  replace zc0 := (show _ < W7.drew.heap.size from zc0)
  replace cc1 := (show W7.drew.cell? _ = _ from cc1)
  replace zc1 := (show _ < W7.drew.heap.size from zc1)
  replace cc2 := (show W7.drew.cell? _ = _ from cc2)
  replace zc2 := (show _ < W7.drew.heap.size from zc2)
  replace cc3 := (show W7.drew.cell? _ = _ from cc3)
  replace zc3 := (show _ < W7.drew.heap.size from zc3)
  replace L0 := L0.drew
  replace S3 := S3.le (Le.refl _).drew
  replace SLa := SLa.le (Le.refl _).drew
  replace SLb := SLb.le (Le.refl _).drew
  replace SLc := SLc.le (Le.refl _).drew
  replace SHa := SHa.le (Le.refl _).drew
  replace SHb := SHb.le (Le.refl _).drew
  replace SHc := SHc.le (Le.refl _).drew
  refine wp_region_noPanic ?_
  refine wp_region_held_drew (S := fun w' => w'.cell? ⟨ba, 0, none⟩ = some (.slice Aa LP.length qa) ∧ w'.cell? ⟨bx, 0, none⟩ = some (.slice Ac LX.length qc)) (by kernel_rfl) ⟨ca0, cc0⟩ (fun hHeld => ?_)
  refine wpAnyH_takeL (i := 0) (v := ?_) rfl (by kernel_rfl) (by kernel_rfl) (by kernel_rfl) (fun _ _ _ h => h) (Or.inl ⟨by rfl, ?_⟩) (by assumption) ?_
  rotate_left 1
  · (intro w hSw; (try dsimp only at hSw); go_simp; try with_reducible rfl)
  try simp only [Act.put, List.setIfInBounds_toArray, List.set_cons_zero, List.set_cons_succ]
  refine wpAnyH_takeL (i := 1) (v := ?_) rfl (by kernel_rfl) (by kernel_rfl) (by kernel_rfl) (fun _ _ _ h => h) (Or.inl ⟨by rfl, ?_⟩) (by assumption) ?_
  rotate_left 1
  · (intro w hSw; (try dsimp only at hSw); go_simp; try with_reducible rfl)
  try simp only [Act.put, List.setIfInBounds_toArray, List.set_cons_zero, List.set_cons_succ]
  refine wpAnyH_takeL (i := 2) (v := ?_) rfl (by kernel_rfl) (by kernel_rfl) (by kernel_rfl) (fun _ _ _ h => h) (Or.inl ⟨by rfl, ?_⟩) (by assumption) ?_
  rotate_left 1
  · (intro w hSw; (try dsimp only at hSw); go_simp; try with_reducible rfl)
  try simp only [Act.put, List.setIfInBounds_toArray, List.set_cons_zero, List.set_cons_succ]
  refine wpAnyH_takeL (i := 3) (v := ?_) rfl (by kernel_rfl) (by kernel_rfl) (by kernel_rfl) (fun _ _ _ h => h) (Or.inl ⟨by rfl, ?_⟩) (by assumption) ?_
  rotate_left 1
  · (intro w hSw; (try dsimp only at hSw); go_simp; try with_reducible rfl)
  try simp only [Act.put, List.setIfInBounds_toArray, List.set_cons_zero, List.set_cons_succ]
  refine wpAnyH_takeL (i := 4) (v := ?_) rfl (by kernel_rfl) (by kernel_rfl) (by kernel_rfl) (fun _ _ _ h => h) (Or.inl ⟨by rfl, ?_⟩) (by assumption) ?_
  rotate_left 1
  · (intro w hSw; (try dsimp only at hSw); go_simp; try with_reducible rfl)
  try simp only [Act.put, List.setIfInBounds_toArray, List.set_cons_zero, List.set_cons_succ]
  refine wpAnyH_takeL (i := 5) (v := ?_) rfl (by kernel_rfl) (by kernel_rfl) (by kernel_rfl) (fun _ _ _ h => h) (Or.inl ⟨by rfl, ?_⟩) (by assumption) ?_
  rotate_left 1
  · (intro w hSw; (try dsimp only at hSw); go_simp; try with_reducible rfl)
  try simp only [Act.put, List.setIfInBounds_toArray, List.set_cons_zero, List.set_cons_succ]
  refine wpAnyH_takeL (i := 6) (v := ?_) rfl (by kernel_rfl) (by kernel_rfl) (by kernel_rfl) (fun _ _ _ h => h) (Or.inl ⟨by rfl, ?_⟩) (by assumption) ?_
  rotate_left 1
  · (intro w hSw; (try dsimp only at hSw); go_simp; try with_reducible rfl)
  try simp only [Act.put, List.setIfInBounds_toArray, List.set_cons_zero, List.set_cons_succ]
  refine wpAnyH_takeL (i := 7) (v := ?_) rfl (by kernel_rfl) (by kernel_rfl) (by kernel_rfl) (fun _ _ _ h => h) (Or.inl ⟨by rfl, ?_⟩) (by assumption) ?_
  rotate_left 1
  · (intro w hSw; (try dsimp only at hSw); go_simp; try with_reducible rfl)
  try simp only [Act.put, List.setIfInBounds_toArray, List.set_cons_zero, List.set_cons_succ]
  refine wpAnyH_takeL (i := 8) (v := ?_) rfl (by kernel_rfl) (by kernel_rfl) (by kernel_rfl) (fun _ _ _ h => h) (Or.inl ⟨by rfl, ?_⟩) (by assumption) ?_
  rotate_left 1
  · (intro w hSw; (try dsimp only at hSw); go_simp; try with_reducible rfl)
  try simp only [Act.put, List.setIfInBounds_toArray, List.set_cons_zero, List.set_cons_succ]
  refine wpAnyH_takeL (i := 9) (v := ?_) rfl (by kernel_rfl) (by kernel_rfl) (by kernel_rfl) (fun _ _ _ h => h) (Or.inl ⟨by rfl, ?_⟩) (by assumption) ?_
  rotate_left 1
  · (intro w hSw; (try dsimp only at hSw); go_simp; try with_reducible rfl)
  try simp only [Act.put, List.setIfInBounds_toArray, List.set_cons_zero, List.set_cons_succ]
  refine wpAnyH_takeL (i := 10) (v := ?_) rfl (by kernel_rfl) (by kernel_rfl) (by kernel_rfl) (fun _ _ _ h => h) (Or.inl ⟨by rfl, ?_⟩) (by assumption) ?_
  rotate_left 1
  · (intro w hSw; (try dsimp only at hSw); go_simp; try with_reducible rfl)
  try simp only [Act.put, List.setIfInBounds_toArray, List.set_cons_zero, List.set_cons_succ]
  refine wpAnyH_takeL (i := 11) (v := ?_) rfl (by kernel_rfl) (by kernel_rfl) (by kernel_rfl) (fun _ _ _ h => h) (Or.inl ⟨by rfl, ?_⟩) (by assumption) ?_
  rotate_left 1
  · (intro w hSw; (try dsimp only at hSw); go_simp; try with_reducible rfl)
  try simp only [Act.put, List.setIfInBounds_toArray, List.set_cons_zero, List.set_cons_succ]
  refine wpAnyH_takeL (i := 12) (v := ?_) rfl (by kernel_rfl) (by kernel_rfl) (by kernel_rfl) (fun _ _ _ h => h) (Or.inl ⟨by rfl, ?_⟩) (by assumption) ?_
  rotate_left 1
  · (intro w hSw; (try dsimp only at hSw); go_simp; try with_reducible rfl)
  try simp only [Act.put, List.setIfInBounds_toArray, List.set_cons_zero, List.set_cons_succ]
  refine wpAnyH_takeL (i := 13) (v := ?_) rfl (by kernel_rfl) (by kernel_rfl) (by kernel_rfl) (fun _ _ _ h => h) (Or.inl ⟨by rfl, ?_⟩) (by assumption) ?_
  rotate_left 1
  · (intro w hSw; (try dsimp only at hSw); go_simp; try with_reducible rfl)
  try simp only [Act.put, List.setIfInBounds_toArray, List.set_cons_zero, List.set_cons_succ]
  refine wpAnyH_takeL (i := 14) (v := ?_) rfl (by kernel_rfl) (by kernel_rfl) (by kernel_rfl) (fun _ _ _ h => h) (Or.inl ⟨by rfl, ?_⟩) (by assumption) ?_
  rotate_left 1
  · (intro w hSw; (try dsimp only at hSw); go_simp; try with_reducible rfl)
  try simp only [Act.put, List.setIfInBounds_toArray, List.set_cons_zero, List.set_cons_succ]
  refine wpAnyH_takeL (i := 15) (v := ?_) rfl (by kernel_rfl) (by kernel_rfl) (by kernel_rfl) (fun _ _ _ h => h) (Or.inl ⟨by rfl, ?_⟩) (by assumption) ?_
  rotate_left 1
  · (intro w hSw; (try dsimp only at hSw); go_simp; try with_reducible rfl)
  try simp only [Act.put, List.setIfInBounds_toArray, List.set_cons_zero, List.set_cons_succ]
  refine wpAnyH_ready (rs := [16]) (by kernel_rfl) (by simp) (AllReadyH.consL (i := 16) rfl (fun K hK => ?_) AllReadyH.nil)
  go_simp
  go_at_call 17
  refine (EQ1.out _ SLc SLa).mono ?_
  rintro e w8 ⟨rfl, hle⟩
  replace ca0 := (hle.cell za0).trans ca0
  replace ca1 := (hle.cell za1).trans ca1
  replace ca2 := (hle.cell za2).trans ca2
  replace ca3 := (hle.cell za3).trans ca3
  replace cb0 := (hle.cell zb0).trans cb0
  replace cb1 := (hle.cell zb1).trans cb1
  replace cb2 := (hle.cell zb2).trans cb2
  replace cb3 := (hle.cell zb3).trans cb3
  replace cc0 := (hle.cell zc0).trans cc0
  replace cc1 := (hle.cell zc1).trans cc1
  replace cc2 := (hle.cell zc2).trans cc2
  replace cc3 := (hle.cell zc3).trans cc3
  replace za0 := Nat.lt_of_lt_of_le za0 hle.size
  replace za1 := Nat.lt_of_lt_of_le za1 hle.size
  replace za2 := Nat.lt_of_lt_of_le za2 hle.size
  replace za3 := Nat.lt_of_lt_of_le za3 hle.size
  replace zb0 := Nat.lt_of_lt_of_le zb0 hle.size
  replace zb1 := Nat.lt_of_lt_of_le zb1 hle.size
  replace zb2 := Nat.lt_of_lt_of_le zb2 hle.size
  replace zb3 := Nat.lt_of_lt_of_le zb3 hle.size
  replace zc0 := Nat.lt_of_lt_of_le zc0 hle.size
  replace zc1 := Nat.lt_of_lt_of_le zc1 hle.size
  replace zc2 := Nat.lt_of_lt_of_le zc2 hle.size
  replace zc3 := Nat.lt_of_lt_of_le zc3 hle.size
  replace L0 := L0.trans hle
  replace S3 := S3.le hle
  replace SLa := SLa.le hle
  replace SLb := SLb.le hle
  replace SLc := SLc.le hle
  replace SHa := SHa.le hle
  replace SHc := SHc.le hle
  clear hle EQ1
  refine hK.out _ _ (⟨ca0, cc0⟩) (fun hHeld => ?_)
  clear hK K
  try simp only [Act.put, List.setIfInBounds_toArray, List.set_cons_zero, List.set_cons_succ]
  refine wpAnyH_takeL (i := 17) (v := ?_) rfl (by kernel_rfl) (by kernel_rfl) (by kernel_rfl) (fun _ _ _ h => h) (Or.inl ⟨by rfl, ?_⟩) (by assumption) ?_
  rotate_left 1
  · (intro w hSw; (try dsimp only at hSw); go_simp; try with_reducible rfl)
  try simp only [Act.put, List.setIfInBounds_toArray, List.set_cons_zero, List.set_cons_succ]
  refine wpAnyH_takeL (i := 18) (v := ?_) rfl (by kernel_rfl) (by kernel_rfl) (by kernel_rfl) (fun _ _ _ h => h) (Or.inl ⟨by rfl, ?_⟩) (by assumption) ?_
  rotate_left 1
  · (intro w hSw; (try dsimp only at hSw); go_simp; try with_reducible rfl)
  try simp only [Act.put, List.setIfInBounds_toArray, List.set_cons_zero, List.set_cons_succ]
  refine wpAnyH_done (by kernel_rfl) ?_ _
  refine NoPanic.normal ?_
  have HR3 : Hid (∀ k (hk : k < r.length), (∀ x ∈ r.take k, x.kind ≠ 3) → r[k].kind ≠ 3 → ∀ x ∈ r.take (k + 1), x.kind ≠ 3) := fun k hk h h2 => no3_snoc hk h h2
  clear hci hlt hltb hltn hltc hHeld
  go_wp2_with fail
  go_loopw [13] (fun i wr => ∃ k : Nat, k ≤ r.length ∧ i = .int .i64 k ∧ Hid (∀ x ∈ r.take k, x.kind ≠ 3) ∧ Le w8 wr) (fun i _ => r.length - (intOf i).toNat)
  case atStart => exact ⟨0, Nat.zero_le _, rfl, Lib.hid (by simp), Le.refl _⟩
  case round =>
    obtain ⟨k, hk, rfl, hno, LW⟩ := hrel
    replace ca0 := (LW.cell za0).trans ca0
    replace ca1 := (LW.cell za1).trans ca1
    replace ca2 := (LW.cell za2).trans ca2
    replace ca3 := (LW.cell za3).trans ca3
    replace cb0 := (LW.cell zb0).trans cb0
    replace cb1 := (LW.cell zb1).trans cb1
    replace cb2 := (LW.cell zb2).trans cb2
    replace cb3 := (LW.cell zb3).trans cb3
    replace cc0 := (LW.cell zc0).trans cc0
    replace cc1 := (LW.cell zc1).trans cc1
    replace cc2 := (LW.cell zc2).trans cc2
    replace cc3 := (LW.cell zc3).trans cc3
    replace za0 := Nat.lt_of_lt_of_le za0 LW.size
    replace za1 := Nat.lt_of_lt_of_le za1 LW.size
    replace za2 := Nat.lt_of_lt_of_le za2 LW.size
    replace za3 := Nat.lt_of_lt_of_le za3 LW.size
    replace zb0 := Nat.lt_of_lt_of_le zb0 LW.size
    replace zb1 := Nat.lt_of_lt_of_le zb1 LW.size
    replace zb2 := Nat.lt_of_lt_of_le zb2 LW.size
    replace zb3 := Nat.lt_of_lt_of_le zb3 LW.size
    replace zc0 := Nat.lt_of_lt_of_le zc0 LW.size
    replace zc1 := Nat.lt_of_lt_of_le zc1 LW.size
    replace zc2 := Nat.lt_of_lt_of_le zc2 LW.size
    replace zc3 := Nat.lt_of_lt_of_le zc3 LW.size
    replace L0 := L0.trans LW
    replace S3 := S3.le LW
    replace SLa := SLa.le LW
    replace SLb := SLb.le LW
    replace SLc := SLc.le LW
    replace SHa := SHa.le LW
    replace SHc := SHc.le LW
    by_cases hkr : k < r.length
    · have hki : (k : Int) < (r.length : Int) := by omega
      obtain ⟨b, off, rfl, hb, hd0, hd1, -⟩ := S3.lin_at hkr
      by_cases h3 : r[k].kind = 3
      · rw [h3] at hd1
        clear hd0 HR3
        go_wp2
        go_ret
        exact ⟨rfl, L0⟩
      · have h3b : (r[k].kind == 3) = false := by rw [beq_eq_false_iff_ne]; exact h3
        have hno2 := Lib.hid (HR3.out k hkr hno.out h3)
        clear hd0
        go_wp2_with fail
        go_roundw
        case rel => exact ⟨k + 1, by omega, by go_num, hno2, LW⟩
        case measure => simp [intOf]; omega
    · have hki : ¬ (k : Int) < (r.length : Int) := by omega
      obtain rfl : k = r.length := by omega
      obtain ⟨hlr, hz, hnz⟩ := HNK.out (by have h := hno.out; rw [List.take_length] at h; exact h)
      have htl : t = LR := List.append_cancel_left (HLt.out.symm.trans hlr)
      subst htl
      have hcap2 := HQ.out
      have hxl := hlx.out
      have hlc : (LP.length : Int) ≤ ((LP.length + t.length : Nat) : Int) := by omega
      have hld : (LP.length : Int) ≤ (LP.length : Int) + (t.length : Int) := by omega
      have EQ2 : Hid (∀ W A q, Sl W A t.length q t → Sl W Ab t.length qb t → Calls Try.prog 17 #[.slice A t.length q, .slice Ab t.length qb] W fun e w' => e = .returned (.bool true) ∧ Le W w') := fun W A q h1 h2 => equalInts_self A Ab _ q qb t W h1 h2
      have hx1 : LP.length ≤ LP.length + t.length := by omega
      have hx2 : LP.length + t.length - LP.length = t.length := by omega
      have hx3 : (LP.length : Int) + (t.length : Int) - (LP.length : Int) = (t.length : Int) := by omega
      have HZ := Lib.hid hz
      have HNZ := Lib.hid hnz
      have SX0 := SDR.out _ SLc
      rw [hxl] at cc0 hcap2 ⊢
      clear hz hnz hlr HLt hno HR3 HNK hki hk LW SLc hxl hlx STK SDR S3
      by_cases hqc : qc = LP.length
      · have htn : t = [] := List.eq_nil_of_length_eq_zero (by omega)
        have SX : Sl wr Ac t.length 0 t := by rw [htn]; exact Sl.nil _ _ _ (by omega)
        clear SX0 htn
        go_wp2_with fail
        replace ca0 := (show wr.drew.cell? _ = _ from ca0)
        replace za0 := (show _ < wr.drew.heap.size from za0)
        replace ca1 := (show wr.drew.cell? _ = _ from ca1)
        replace za1 := (show _ < wr.drew.heap.size from za1)
        replace ca2 := (show wr.drew.cell? _ = _ from ca2)
        replace za2 := (show _ < wr.drew.heap.size from za2)
        replace ca3 := (show wr.drew.cell? _ = _ from ca3)
        replace za3 := (show _ < wr.drew.heap.size from za3)
        replace cb0 := (show wr.drew.cell? _ = _ from cb0)
        replace zb0 := (show _ < wr.drew.heap.size from zb0)
        replace cb1 := (show wr.drew.cell? _ = _ from cb1)
        replace zb1 := (show _ < wr.drew.heap.size from zb1)
        replace cb2 := (show wr.drew.cell? _ = _ from cb2)
        replace zb2 := (show _ < wr.drew.heap.size from zb2)
        replace cb3 := (show wr.drew.cell? _ = _ from cb3)
        replace zb3 := (show _ < wr.drew.heap.size from zb3)
        replace cc0 := (show wr.drew.cell? _ = _ from cc0)
        replace zc0 := (show _ < wr.drew.heap.size from zc0)
        replace cc1 := (show wr.drew.cell? _ = _ from cc1)
        replace zc1 := (show _ < wr.drew.heap.size from zc1)
        replace cc2 := (show wr.drew.cell? _ = _ from cc2)
        replace zc2 := (show _ < wr.drew.heap.size from zc2)
        replace cc3 := (show wr.drew.cell? _ = _ from cc3)
        replace zc3 := (show _ < wr.drew.heap.size from zc3)
        replace L0 := L0.drew
        replace SX := SX.le (Le.refl _).drew
        replace SLb := SLb.le (Le.refl _).drew
        replace SHa := SHa.le (Le.refl _).drew
        replace SHc := SHc.le (Le.refl _).drew
        refine wp_region_noPanic ?_
        refine wp_region_held_drew (S := fun w' => w'.cell? ⟨ba, 0, none⟩ = some (.slice Aa LP.length qa) ∧ w'.cell? ⟨bb, 0, none⟩ = some (.slice Ab t.length qb) ∧ w'.cell? ⟨bx, 0, none⟩ = some (.slice Ac (LP.length + t.length) qc)) (by kernel_rfl) ⟨ca0, cb0, cc0⟩ (fun hHeld => ?_)
        refine wpAnyH_takeL (i := 0) (v := ?_) rfl (by kernel_rfl) (by kernel_rfl) (by kernel_rfl) (fun _ _ _ h => h) (Or.inl ⟨by rfl, ?_⟩) (by assumption) ?_
        rotate_left 1
        · (intro w hSw; (try dsimp only at hSw); go_simp; try with_reducible rfl)
        try simp only [Act.put, List.setIfInBounds_toArray, List.set_cons_zero, List.set_cons_succ]
        refine wpAnyH_takeL (i := 1) (v := ?_) rfl (by kernel_rfl) (by kernel_rfl) (by kernel_rfl) (fun _ _ _ h => h) (Or.inl ⟨by rfl, ?_⟩) (by assumption) ?_
        rotate_left 1
        · (intro w hSw; (try dsimp only at hSw); go_simp; try with_reducible rfl)
        try simp only [Act.put, List.setIfInBounds_toArray, List.set_cons_zero, List.set_cons_succ]
        refine wpAnyH_takeL (i := 2) (v := ?_) rfl (by kernel_rfl) (by kernel_rfl) (by kernel_rfl) (fun _ _ _ h => h) (Or.inl ⟨by rfl, ?_⟩) (by assumption) ?_
        rotate_left 1
        · (intro w hSw; (try dsimp only at hSw); go_simp; try with_reducible rfl)
        try simp only [Act.put, List.setIfInBounds_toArray, List.set_cons_zero, List.set_cons_succ]
        refine wpAnyH_takeL (i := 3) (v := ?_) rfl (by kernel_rfl) (by kernel_rfl) (by kernel_rfl) (fun _ _ _ h => h) (Or.inl ⟨by rfl, ?_⟩) (by assumption) ?_
        rotate_left 1
        · (intro w hSw; (try dsimp only at hSw); go_simp; try with_reducible rfl)
        try simp only [Act.put, List.setIfInBounds_toArray, List.set_cons_zero, List.set_cons_succ]
        refine wpAnyH_takeL (i := 4) (v := ?_) rfl (by kernel_rfl) (by kernel_rfl) (by kernel_rfl) (fun _ _ _ h => h) (Or.inl ⟨by rfl, ?_⟩) (by assumption) ?_
        rotate_left 1
        · (intro w hSw; (try dsimp only at hSw); go_simp; try with_reducible rfl)
        try simp only [Act.put, List.setIfInBounds_toArray, List.set_cons_zero, List.set_cons_succ]
        refine wpAnyH_takeL (i := 5) (v := ?_) rfl (by kernel_rfl) (by kernel_rfl) (by kernel_rfl) (fun _ _ _ h => h) (Or.inl ⟨by rfl, ?_⟩) (by assumption) ?_
        rotate_left 1
        · (intro w hSw; (try dsimp only at hSw); go_simp; try with_reducible rfl)
        try simp only [Act.put, List.setIfInBounds_toArray, List.set_cons_zero, List.set_cons_succ]
        refine wpAnyH_takeL (i := 6) (v := ?_) rfl (by kernel_rfl) (by kernel_rfl) (by kernel_rfl) (fun _ _ _ h => h) (Or.inl ⟨by rfl, ?_⟩) (by assumption) ?_
        rotate_left 1
        · (intro w hSw; (try dsimp only at hSw); go_simp; try with_reducible rfl)
        try simp only [Act.put, List.setIfInBounds_toArray, List.set_cons_zero, List.set_cons_succ]
        refine wpAnyH_takeL (i := 7) (v := ?_) rfl (by kernel_rfl) (by kernel_rfl) (by kernel_rfl) (fun _ _ _ h => h) (Or.inl ⟨by rfl, ?_⟩) (by assumption) ?_
        rotate_left 1
        · (intro w hSw; (try dsimp only at hSw); go_simp; try with_reducible rfl)
        try simp only [Act.put, List.setIfInBounds_toArray, List.set_cons_zero, List.set_cons_succ]
        refine wpAnyH_ready (rs := [8]) (by kernel_rfl) (by simp) (AllReadyH.consL (i := 8) rfl (fun K hK => ?_) AllReadyH.nil)
        go_simp
        go_at_call 17
        refine (EQ2.out _ _ _ SX SLb).mono ?_
        rintro e w9 ⟨rfl, hle⟩
        replace ca0 := (hle.cell za0).trans ca0
        replace ca1 := (hle.cell za1).trans ca1
        replace ca2 := (hle.cell za2).trans ca2
        replace ca3 := (hle.cell za3).trans ca3
        replace cb0 := (hle.cell zb0).trans cb0
        replace cb1 := (hle.cell zb1).trans cb1
        replace cb2 := (hle.cell zb2).trans cb2
        replace cb3 := (hle.cell zb3).trans cb3
        replace cc0 := (hle.cell zc0).trans cc0
        replace cc1 := (hle.cell zc1).trans cc1
        replace cc2 := (hle.cell zc2).trans cc2
        replace cc3 := (hle.cell zc3).trans cc3
        replace za0 := Nat.lt_of_lt_of_le za0 hle.size
        replace za1 := Nat.lt_of_lt_of_le za1 hle.size
        replace za2 := Nat.lt_of_lt_of_le za2 hle.size
        replace za3 := Nat.lt_of_lt_of_le za3 hle.size
        replace zb0 := Nat.lt_of_lt_of_le zb0 hle.size
        replace zb1 := Nat.lt_of_lt_of_le zb1 hle.size
        replace zb2 := Nat.lt_of_lt_of_le zb2 hle.size
        replace zb3 := Nat.lt_of_lt_of_le zb3 hle.size
        replace zc0 := Nat.lt_of_lt_of_le zc0 hle.size
        replace zc1 := Nat.lt_of_lt_of_le zc1 hle.size
        replace zc2 := Nat.lt_of_lt_of_le zc2 hle.size
        replace zc3 := Nat.lt_of_lt_of_le zc3 hle.size
        replace L0 := L0.trans hle
        replace SHa := SHa.le hle
        replace SHc := SHc.le hle
        clear hle EQ2
        refine hK.out _ _ (⟨ca0, cb0, cc0⟩) (fun hHeld => ?_)
        clear hK K
        try simp only [Act.put, List.setIfInBounds_toArray, List.set_cons_zero, List.set_cons_succ]
        refine wpAnyH_takeL (i := 9) (v := ?_) rfl (by kernel_rfl) (by kernel_rfl) (by kernel_rfl) (fun _ _ _ h => h) (Or.inl ⟨by rfl, ?_⟩) (by assumption) ?_
        rotate_left 1
        · (intro w hSw; (try dsimp only at hSw); go_simp; try with_reducible rfl)
        try simp only [Act.put, List.setIfInBounds_toArray, List.set_cons_zero, List.set_cons_succ]
        refine wpAnyH_done (by kernel_rfl) ?_ _
        refine NoPanic.normal ?_
        clear hHeld SX SLb
        by_cases he : ER = 0
        · subst he
          obtain ⟨e1, e2, e3⟩ := HZ.out rfl
          subst e1 e2 e3
          have hx : (EX == EX) = true := by simp
          have hy : (VX == VX) = true := by simp
          clear HZ HNZ
          go_wp2_with fail
          refine (equalHeap_self Hc Ha _ hc ha HX w9 SHc SHa).mono ?_
          rintro e w10 ⟨rfl, hle⟩
          replace L0 := L0.trans hle
          clear hle
          go_wp2
          go_ret
          exact ⟨rfl, L0⟩
        · have heb : (ER == 0) = false := by rw [beq_eq_false_iff_ne]; exact he
          obtain ⟨e1, h2⟩ := HNZ.out he
          subst e1
          have hx : (EX == EX) = true := by simp
          have HV2 := Lib.hid h2
          clear HZ HNZ h2
          by_cases h2 : EX = 2
          · subst h2
            clear HV2
            go_wp2
            go_ret
            exact ⟨rfl, L0⟩
          · have h2b : (EX == 2) = false := by rw [beq_eq_false_iff_ne]; exact h2
            obtain rfl := HV2.out.resolve_left h2
            have hy : (VX == VX) = true := by simp
            clear HV2
            go_wp2
            go_ret
            exact ⟨rfl, L0⟩
      · have SX := SX0
        clear SX0
        go_wp2_with fail
        replace ca0 := (show wr.drew.cell? _ = _ from ca0)
        replace za0 := (show _ < wr.drew.heap.size from za0)
        replace ca1 := (show wr.drew.cell? _ = _ from ca1)
        replace za1 := (show _ < wr.drew.heap.size from za1)
        replace ca2 := (show wr.drew.cell? _ = _ from ca2)
        replace za2 := (show _ < wr.drew.heap.size from za2)
        replace ca3 := (show wr.drew.cell? _ = _ from ca3)
        replace za3 := (show _ < wr.drew.heap.size from za3)
        replace cb0 := (show wr.drew.cell? _ = _ from cb0)
        replace zb0 := (show _ < wr.drew.heap.size from zb0)
        replace cb1 := (show wr.drew.cell? _ = _ from cb1)
        replace zb1 := (show _ < wr.drew.heap.size from zb1)
        replace cb2 := (show wr.drew.cell? _ = _ from cb2)
        replace zb2 := (show _ < wr.drew.heap.size from zb2)
        replace cb3 := (show wr.drew.cell? _ = _ from cb3)
        replace zb3 := (show _ < wr.drew.heap.size from zb3)
        replace cc0 := (show wr.drew.cell? _ = _ from cc0)
        replace zc0 := (show _ < wr.drew.heap.size from zc0)
        replace cc1 := (show wr.drew.cell? _ = _ from cc1)
        replace zc1 := (show _ < wr.drew.heap.size from zc1)
        replace cc2 := (show wr.drew.cell? _ = _ from cc2)
        replace zc2 := (show _ < wr.drew.heap.size from zc2)
        replace cc3 := (show wr.drew.cell? _ = _ from cc3)
        replace zc3 := (show _ < wr.drew.heap.size from zc3)
        replace L0 := L0.drew
        replace SX := SX.le (Le.refl _).drew
        replace SLb := SLb.le (Le.refl _).drew
        replace SHa := SHa.le (Le.refl _).drew
        replace SHc := SHc.le (Le.refl _).drew
        refine wp_region_noPanic ?_
        refine wp_region_held_drew (S := fun w' => w'.cell? ⟨ba, 0, none⟩ = some (.slice Aa LP.length qa) ∧ w'.cell? ⟨bb, 0, none⟩ = some (.slice Ab t.length qb) ∧ w'.cell? ⟨bx, 0, none⟩ = some (.slice Ac (LP.length + t.length) qc)) (by kernel_rfl) ⟨ca0, cb0, cc0⟩ (fun hHeld => ?_)
        refine wpAnyH_takeL (i := 0) (v := ?_) rfl (by kernel_rfl) (by kernel_rfl) (by kernel_rfl) (fun _ _ _ h => h) (Or.inl ⟨by rfl, ?_⟩) (by assumption) ?_
        rotate_left 1
        · (intro w hSw; (try dsimp only at hSw); go_simp; try with_reducible rfl)
        try simp only [Act.put, List.setIfInBounds_toArray, List.set_cons_zero, List.set_cons_succ]
        refine wpAnyH_takeL (i := 1) (v := ?_) rfl (by kernel_rfl) (by kernel_rfl) (by kernel_rfl) (fun _ _ _ h => h) (Or.inl ⟨by rfl, ?_⟩) (by assumption) ?_
        rotate_left 1
        · (intro w hSw; (try dsimp only at hSw); go_simp; try with_reducible rfl)
        try simp only [Act.put, List.setIfInBounds_toArray, List.set_cons_zero, List.set_cons_succ]
        refine wpAnyH_takeL (i := 2) (v := ?_) rfl (by kernel_rfl) (by kernel_rfl) (by kernel_rfl) (fun _ _ _ h => h) (Or.inl ⟨by rfl, ?_⟩) (by assumption) ?_
        rotate_left 1
        · (intro w hSw; (try dsimp only at hSw); go_simp; try with_reducible rfl)
        try simp only [Act.put, List.setIfInBounds_toArray, List.set_cons_zero, List.set_cons_succ]
        refine wpAnyH_takeL (i := 3) (v := ?_) rfl (by kernel_rfl) (by kernel_rfl) (by kernel_rfl) (fun _ _ _ h => h) (Or.inl ⟨by rfl, ?_⟩) (by assumption) ?_
        rotate_left 1
        · (intro w hSw; (try dsimp only at hSw); go_simp; try with_reducible rfl)
        try simp only [Act.put, List.setIfInBounds_toArray, List.set_cons_zero, List.set_cons_succ]
        refine wpAnyH_takeL (i := 4) (v := ?_) rfl (by kernel_rfl) (by kernel_rfl) (by kernel_rfl) (fun _ _ _ h => h) (Or.inl ⟨by rfl, ?_⟩) (by assumption) ?_
        rotate_left 1
        · (intro w hSw; (try dsimp only at hSw); go_simp; try with_reducible rfl)
        try simp only [Act.put, List.setIfInBounds_toArray, List.set_cons_zero, List.set_cons_succ]
        refine wpAnyH_takeL (i := 5) (v := ?_) rfl (by kernel_rfl) (by kernel_rfl) (by kernel_rfl) (fun _ _ _ h => h) (Or.inl ⟨by rfl, ?_⟩) (by assumption) ?_
        rotate_left 1
        · (intro w hSw; (try dsimp only at hSw); go_simp; try with_reducible rfl)
        try simp only [Act.put, List.setIfInBounds_toArray, List.set_cons_zero, List.set_cons_succ]
        refine wpAnyH_takeL (i := 6) (v := ?_) rfl (by kernel_rfl) (by kernel_rfl) (by kernel_rfl) (fun _ _ _ h => h) (Or.inl ⟨by rfl, ?_⟩) (by assumption) ?_
        rotate_left 1
        · (intro w hSw; (try dsimp only at hSw); go_simp; try with_reducible rfl)
        try simp only [Act.put, List.setIfInBounds_toArray, List.set_cons_zero, List.set_cons_succ]
        refine wpAnyH_takeL (i := 7) (v := ?_) rfl (by kernel_rfl) (by kernel_rfl) (by kernel_rfl) (fun _ _ _ h => h) (Or.inl ⟨by rfl, ?_⟩) (by assumption) ?_
        rotate_left 1
        · (intro w hSw; (try dsimp only at hSw); go_simp; try with_reducible rfl)
        try simp only [Act.put, List.setIfInBounds_toArray, List.set_cons_zero, List.set_cons_succ]
        refine wpAnyH_ready (rs := [8]) (by kernel_rfl) (by simp) (AllReadyH.consL (i := 8) rfl (fun K hK => ?_) AllReadyH.nil)
        go_simp
        go_at_call 17
        refine (EQ2.out _ _ _ SX SLb).mono ?_
        rintro e w9 ⟨rfl, hle⟩
        replace ca0 := (hle.cell za0).trans ca0
        replace ca1 := (hle.cell za1).trans ca1
        replace ca2 := (hle.cell za2).trans ca2
        replace ca3 := (hle.cell za3).trans ca3
        replace cb0 := (hle.cell zb0).trans cb0
        replace cb1 := (hle.cell zb1).trans cb1
        replace cb2 := (hle.cell zb2).trans cb2
        replace cb3 := (hle.cell zb3).trans cb3
        replace cc0 := (hle.cell zc0).trans cc0
        replace cc1 := (hle.cell zc1).trans cc1
        replace cc2 := (hle.cell zc2).trans cc2
        replace cc3 := (hle.cell zc3).trans cc3
        replace za0 := Nat.lt_of_lt_of_le za0 hle.size
        replace za1 := Nat.lt_of_lt_of_le za1 hle.size
        replace za2 := Nat.lt_of_lt_of_le za2 hle.size
        replace za3 := Nat.lt_of_lt_of_le za3 hle.size
        replace zb0 := Nat.lt_of_lt_of_le zb0 hle.size
        replace zb1 := Nat.lt_of_lt_of_le zb1 hle.size
        replace zb2 := Nat.lt_of_lt_of_le zb2 hle.size
        replace zb3 := Nat.lt_of_lt_of_le zb3 hle.size
        replace zc0 := Nat.lt_of_lt_of_le zc0 hle.size
        replace zc1 := Nat.lt_of_lt_of_le zc1 hle.size
        replace zc2 := Nat.lt_of_lt_of_le zc2 hle.size
        replace zc3 := Nat.lt_of_lt_of_le zc3 hle.size
        replace L0 := L0.trans hle
        replace SHa := SHa.le hle
        replace SHc := SHc.le hle
        clear hle EQ2
        refine hK.out _ _ (⟨ca0, cb0, cc0⟩) (fun hHeld => ?_)
        clear hK K
        try simp only [Act.put, List.setIfInBounds_toArray, List.set_cons_zero, List.set_cons_succ]
        refine wpAnyH_takeL (i := 9) (v := ?_) rfl (by kernel_rfl) (by kernel_rfl) (by kernel_rfl) (fun _ _ _ h => h) (Or.inl ⟨by rfl, ?_⟩) (by assumption) ?_
        rotate_left 1
        · (intro w hSw; (try dsimp only at hSw); go_simp; try with_reducible rfl)
        try simp only [Act.put, List.setIfInBounds_toArray, List.set_cons_zero, List.set_cons_succ]
        refine wpAnyH_done (by kernel_rfl) ?_ _
        refine NoPanic.normal ?_
        clear hHeld SX SLb
        by_cases he : ER = 0
        · subst he
          obtain ⟨e1, e2, e3⟩ := HZ.out rfl
          subst e1 e2 e3
          have hx : (EX == EX) = true := by simp
          have hy : (VX == VX) = true := by simp
          clear HZ HNZ
          go_wp2_with fail
          refine (equalHeap_self Hc Ha _ hc ha HX w9 SHc SHa).mono ?_
          rintro e w10 ⟨rfl, hle⟩
          replace L0 := L0.trans hle
          clear hle
          go_wp2
          go_ret
          exact ⟨rfl, L0⟩
        · have heb : (ER == 0) = false := by rw [beq_eq_false_iff_ne]; exact he
          obtain ⟨e1, h2⟩ := HNZ.out he
          subst e1
          have hx : (EX == EX) = true := by simp
          have HV2 := Lib.hid h2
          clear HZ HNZ h2
          by_cases h2 : EX = 2
          · subst h2
            clear HV2
            go_wp2
            go_ret
            exact ⟨rfl, L0⟩
          · have h2b : (EX == 2) = false := by rw [beq_eq_false_iff_ne]; exact h2
            obtain rfl := HV2.out.resolve_left h2
            have hy : (VX == VX) = true := by simp
            clear HV2
            go_wp2
            go_ret
            exact ⟨rfl, L0⟩
end Go.Proofs.Ytlepgfccnfcagaa
