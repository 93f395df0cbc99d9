/- the law FnJoinExits: the walk -/
import Derived.Test.YtonpgohigncjeaaFJxP
namespace Go.Proofs.Ytonpgohigncjeaa
open Go.RowKit
theorem step_append_slG {α : Type} [Enc α] [EncOne α] {P : Program} {w : World} {ops : Array Oper} {o : Oper} {a : Act} {K : Act → World → Prop} {Q : Exit → Act → World → Prop} {E : Prop} (hw : Region.wanted o (yielded ops a.tmps) = true) (s x : Operand) (t : TypeId)
    (ho : o.op = .call { callee := .builtin .append, args := #[s, x], argTypes := #[t, t] })
    (base : Nat) (e : TypeId) (i : TypeInfo) (z : Value) (bytes : Nat) (ht : P.underlying t = some (.slice e)) (hi : P.info? e = some i) (hz : i.zero = some z)
    (hsize : i.size = Enc.size α) (hby : i.bytes = bytes) (hzs : z.cells.size = Enc.size α) (v : Value) (n : Nat) (xs : List α) (hs : a.eval s = v) (hown : w.ownsRow base e (Enc.size α) v n (xs.flatMap Enc.cells))
    (A : Option Addr) (m c : Nat) (ys : List α) (hx : a.eval x = .slice A m c) (hS : Sl w A m c ys) (h63 : n + m ≤ maxLen) (hbytes : (n + m) * bytes ≤ 140737488355328) (hbase : base ≤ w.heap.size)
    (h : ∀ v' w', w'.ownsRow base e (Enc.size α) v' (n + m) ((xs ++ ys).flatMap Enc.cells) → w.grownBy w' v.ownBlock → (v'.ownBlock = v.ownBlock ∨ v'.ownBlock = some w.heap.size) → K (a.put o.dst v') w') :
    if Region.wanted o (yielded ops a.tmps) = true then Oper.wp P o a w K Q else E := by
  rw [if_pos hw]
  exact wp_append_sl s x t ho base e i z bytes ht hi hz hsize hby hzs v n xs hs hown A m c ys hx hS h63 hbytes hbase h
set_option maxHeartbeats 8000000 in
set_option maxRecDepth 100000 in
theorem fnJoinExits_walk (A : Option Addr) (n cap : Nat) (bs : List By) (w : World) (hR : Sl w A n cap bs) :
    Calls Try.prog 5 #[.slice A n cap] w fun e w' => e = .returned (.bool true) ∧ Le w w' := by
  have hm := hR.n_le
  by_cases hbig : 1048576 < n
  · go_enter Try.func5, Try.ntmps5
    go_wp2
    go_ret
    exact ⟨rfl, Le.refl w⟩
  go_enter Try.func5, Try.ntmps5
  go_wp2_with fail
  refine (drawJoinExits_any A n cap bs w hR).mono ?_
  rintro e w1 ⟨B, D, F, m, c, q, d, q2, d2, xs, L, M, rfl, S, hm8, S2, hq8, S3, hq9, L0⟩
  obtain rfl := S.len
  obtain rfl := S2.len
  obtain rfl := S3.len
  clear hbig hm hR
  have hsm : L.length ≤ 1048576 := by omega
  have hsm2 : M.length ≤ 1048576 := by omega
  obtain ⟨i0, hq, hz0, hz1, hz2⟩ := info_parts infoIntR
  go_wp2_with fail
  obtain ⟨ct, zt, hleB⟩ := box1 w1 (.slice B xs.length c) 25
  replace S := S.le hleB
  replace L0 := L0.trans hleB
  replace S2 := S2.le hleB
  replace S3 := S3.le hleB
  clear hleB
  generalize w1.alloc (.cells #[.slice B xs.length c] 25) = W1 at *
  refine (Calls.jx rfl rfl (iJoinExits_any B D F _ c _ d _ d2 xs L M hsm hsm2 W1 S S2 S3)).mono ?_
  rintro e w2 ⟨A4, c4, rfl, S4, hle⟩
  replace ct := (hle.cell zt).trans ct
  replace zt := Nat.lt_of_lt_of_le zt hle.size
  replace S := S.le hle
  replace L0 := L0.trans hle
  replace S2 := S2.le hle
  replace S3 := S3.le hle
  clear hle
  go_wp2_with fail
  refine (Calls.jx rfl rfl (sJoinExits_any B D F _ c _ d _ d2 xs L M hsm hsm2 w2 S S2 S3)).mono ?_
  rintro e w3 ⟨A5, c5, rfl, S5, hle⟩
  replace ct := (hle.cell zt).trans ct
  replace zt := Nat.lt_of_lt_of_le zt hle.size
  replace S := S.le hle
  replace L0 := L0.trans hle
  replace S2 := S2.le hle
  replace S3 := S3.le hle
  replace S4 := S4.le hle
  clear hle
  go_wp2_with fail
  refine (equalExits_self _ _ _ _ _ _ _ S4 S5).mono ?_
  rintro e w4 ⟨rfl, hle⟩
  replace ct := (hle.cell zt).trans ct
  replace zt := Nat.lt_of_lt_of_le zt hle.size
  replace S := S.le hle
  replace L0 := L0.trans hle
  replace S2 := S2.le hle
  replace S3 := S3.le hle
  replace S4 := S4.le hle
  replace S5 := S5.le hle
  clear hle
  cases hv : vxs xs (L ++ M)
  · go_wp2_with fail
    refine (equalExits_self _ _ _ _ _ _ _ S4 S5).mono ?_
    rintro e w5 ⟨rfl, hle⟩
    replace L0 := L0.trans hle
    clear hle
    go_wp2
    go_ret
    exact ⟨rfl, L0⟩
  have hjx : jxX xs L M = L ++ M := by unfold jxX; rw [hv]; rfl
  rw [hjx] at S4 ⊢
  clear S5 hjx
  have HV := Lib.hid hv
  clear hv
  obtain ⟨J, HJ⟩ : ∃ J, Hid (L ++ M = J) := ⟨_, Lib.hid rfl⟩
  rw [HJ.out] at S4 ⊢
  go_wp2
  go_loopw [10, 11, 12, 13, 14, 15, 16, 17, 18, 19, 20] (fun i _ _ _ _ _ _ _ _ _ _ wr => ∃ z : Int, -1 ≤ z ∧ z ≤ (xs.length : Int) ∧ i = .int .i64 z ∧ Le w4 wr) (fun i _ _ _ _ _ _ _ _ _ _ _ => xs.length + 1 - (intOf i + 1).toNat)
  case atStart => exact ⟨-1, by omega, by omega, rfl, Le.refl _⟩
  case round =>
    obtain ⟨z, hz1', hz2', rfl, hle⟩ := hrel
    have HLE := Lib.hid hle
    replace ct := (hle.cell zt).trans ct
    replace zt := Nat.lt_of_lt_of_le zt hle.size
    replace S := S.le hle
    replace L0 := L0.trans hle
    replace S2 := S2.le hle
    replace S3 := S3.le hle
    replace S4 := S4.le hle
    clear hle
    by_cases hlt : z < (xs.length : Int)
    · by_cases h0 : 0 ≤ z
      · have h0b : decide ((0 : Int) ≤ z) = true := decide_eq_true h0
        have HCS : csv xs true z 5 = true := by unfold csv; rw [if_pos rfl, hasK_iff.2 ⟨h0, hlt⟩]; rfl
        obtain ⟨ok1, ok2⟩ := csv_ok HCS hm8
        obtain ⟨m0, e0⟩ : ∃ m0, soF xs (ceE xs M true z 5) (ceV xs M true z 5) (ceH xs M true z 5) = m0 := ⟨_, rfl⟩
        obtain ⟨m1, e1⟩ : ∃ m1, soC xs (ceE xs M true z 5) (ceV xs M true z 5) (ceH xs M true z 5) = m1 := ⟨_, rfl⟩
        obtain ⟨m2, e2⟩ : ∃ m2, soK xs (ceE xs M true z 5) (ceV xs M true z 5) (ceH xs M true z 5) = m2 := ⟨_, rfl⟩
        obtain ⟨j1, j2, j3, j4, j5, j6, j7, j8⟩ := join_ce HV.out HCS e0 e1 e2
        rw [HJ.out] at j1 j3 j5 j6 j7
        obtain ⟨x0, y0⟩ : ∃ x0, soF xs (ceE xs L m0 m1 m2) (ceV xs L m0 m1 m2) (ceH xs L m0 m1 m2) = x0 := ⟨_, rfl⟩
        obtain ⟨x1, y1⟩ : ∃ x1, soC xs (ceE xs L m0 m1 m2) (ceV xs L m0 m1 m2) (ceH xs L m0 m1 m2) = x1 := ⟨_, rfl⟩
        obtain ⟨x2, y2⟩ : ∃ x2, soK xs (ceE xs L m0 m1 m2) (ceV xs L m0 m1 m2) (ceH xs L m0 m1 m2) = x2 := ⟨_, rfl⟩
        rw [y0] at j5
        rw [y1] at j6
        rw [y2] at j7
        obtain ⟨ok3, ok4⟩ := csv_ok j8 hm8
        obtain ⟨lA, HLA⟩ : ∃ l, Hid (ceL xs J true z 5 = l) := ⟨_, Lib.hid rfl⟩
        obtain ⟨hA, HHA⟩ : ∃ h, Hid (ceH xs J true z 5 = h) := ⟨_, Lib.hid rfl⟩
        obtain ⟨enA, HEA⟩ : ∃ h, Hid (ceE xs J true z 5 = h) := ⟨_, Lib.hid rfl⟩
        obtain ⟨vaA, HVA⟩ : ∃ h, Hid (ceV xs J true z 5 = h) := ⟨_, Lib.hid rfl⟩
        obtain ⟨lB, HLB⟩ : ∃ l, Hid (ceL xs M true z 5 = l) := ⟨_, Lib.hid rfl⟩
        obtain ⟨hB, HHB⟩ : ∃ h, Hid (ceH xs M true z 5 = h) := ⟨_, Lib.hid rfl⟩
        obtain ⟨enB, HEB⟩ : ∃ h, Hid (ceE xs M true z 5 = h) := ⟨_, Lib.hid rfl⟩
        obtain ⟨vaB, HVB⟩ : ∃ h, Hid (ceV xs M true z 5 = h) := ⟨_, Lib.hid rfl⟩
        obtain ⟨lC, HLC⟩ : ∃ l, Hid (ceL xs L m0 m1 m2 = l) := ⟨_, Lib.hid rfl⟩
        obtain ⟨hC, HHC⟩ : ∃ h, Hid (ceH xs L m0 m1 m2 = h) := ⟨_, Lib.hid rfl⟩
        obtain ⟨enC, HEC⟩ : ∃ h, Hid (ceE xs L m0 m1 m2 = h) := ⟨_, Lib.hid rfl⟩
        obtain ⟨vaC, HVC⟩ : ∃ h, Hid (ceV xs L m0 m1 m2 = h) := ⟨_, Lib.hid rfl⟩
        have HCA : Hid (∀ w0, Sl w0 B xs.length c xs → Sl w0 A4 J.length c4 J → Calls Try.prog 10 #[.agg #[.slice B xs.length c], .slice A4 J.length c4, .agg #[.bool true, .int .i64 z, .int .i64 5]] w0 fun e w' => ∃ A0 q0 A1 q1, e = .returned (.agg #[.slice A0 lA.length q0, .int .i64 enA, .int .i64 vaA, .slice A1 hA.length q1]) ∧ Sl w' A0 lA.length q0 lA ∧ Sl w' A1 hA.length q1 hA ∧ Le w0 w') := fun w0 h1 h2 => by
          have h := Calls.ce (iCloseExits_any B A4 _ c _ c4 xs J true z 5 ok1 ok2 w0 h1 h2)
          rw [HLA.out, HHA.out, HEA.out, HVA.out] at h
          exact h
        have HCB : Hid (∀ w0, Sl w0 B xs.length c xs → Sl w0 F M.length d2 M → Calls Try.prog 10 #[.agg #[.slice B xs.length c], .slice F M.length d2, .agg #[.bool true, .int .i64 z, .int .i64 5]] w0 fun e w' => ∃ A0 q0 A1 q1, e = .returned (.agg #[.slice A0 lB.length q0, .int .i64 enB, .int .i64 vaB, .slice A1 hB.length q1]) ∧ Sl w' A0 lB.length q0 lB ∧ Sl w' A1 hB.length q1 hB ∧ Le w0 w') := fun w0 h1 h2 => by
          have h := Calls.ce (iCloseExits_any B F _ c _ d2 xs M true z 5 ok1 ok2 w0 h1 h2)
          rw [HLB.out, HHB.out, HEB.out, HVB.out] at h
          exact h
        have HCC : Hid (∀ w0, Sl w0 B xs.length c xs → Sl w0 D L.length d L → Calls Try.prog 10 #[.agg #[.slice B xs.length c], .slice D L.length d, .agg #[.bool m0, .int .i64 m1, .int .i64 m2]] w0 fun e w' => ∃ A0 q0 A1 q1, e = .returned (.agg #[.slice A0 lC.length q0, .int .i64 enC, .int .i64 vaC, .slice A1 hC.length q1]) ∧ Sl w' A0 lC.length q0 lC ∧ Sl w' A1 hC.length q1 hC ∧ Le w0 w') := fun w0 h1 h2 => by
          have h := Calls.ce (iCloseExits_any B D _ c _ d xs L m0 m1 m2 ok3 ok4 w0 h1 h2)
          rw [HLC.out, HHC.out, HEC.out, HVC.out] at h
          exact h
        have HSB : Hid (∀ w0 LA nl ql H ch, Sl w0 B xs.length c xs → Sl w0 H hB.length ch hB → Calls Try.prog 23 #[.agg #[.slice B xs.length c], .agg #[.slice LA nl ql, .int .i64 enB, .int .i64 vaB, .slice H hB.length ch]] w0 fun e w' => e = .returned (.tuple #[.agg #[.bool m0, .int .i64 m1, .int .i64 m2], .bool true]) ∧ Le w0 w') := fun w0 LA nl ql H ch h1 h2 =>
          Calls.soJ (by rw [← HEB.out, ← HVB.out, ← HHB.out]; exact e0) (by rw [← HEB.out, ← HVB.out, ← HHB.out]; exact j2) (by rw [← HEB.out, ← HVB.out, ← HHB.out]; exact e1) (by rw [← HEB.out, ← HVB.out, ← HHB.out]; exact e2) (iStartOf_any B LA H _ c nl ql _ ch xs enB vaB hB (by rw [← HHB.out]; exact ceH_len _ _ _ _ _) w0 h1 h2)
        have HSA : Hid (∀ w0 LA nl ql H ch, Sl w0 B xs.length c xs → Sl w0 H hA.length ch hA → Calls Try.prog 23 #[.agg #[.slice B xs.length c], .agg #[.slice LA nl ql, .int .i64 enA, .int .i64 vaA, .slice H hA.length ch]] w0 fun e w' => e = .returned (.tuple #[.agg #[.bool x0, .int .i64 x1, .int .i64 x2], .bool true]) ∧ Le w0 w') := fun w0 LA nl ql H ch h1 h2 =>
          Calls.soJ (by rw [← HEA.out, ← HVA.out, ← HHA.out]; exact j5) (by rw [← HEA.out, ← HVA.out, ← HHA.out]; exact j3) (by rw [← HEA.out, ← HVA.out, ← HHA.out]; exact j6) (by rw [← HEA.out, ← HVA.out, ← HHA.out]; exact j7) (iStartOf_any B LA H _ c nl ql _ ch xs enA vaA hA (by rw [← HHA.out]; exact ceH_len _ _ _ _ _) w0 h1 h2)
        have HSC : Hid (∀ w0 LA nl ql H ch, Sl w0 B xs.length c xs → Sl w0 H hC.length ch hC → Calls Try.prog 23 #[.agg #[.slice B xs.length c], .agg #[.slice LA nl ql, .int .i64 enC, .int .i64 vaC, .slice H hC.length ch]] w0 fun e w' => e = .returned (.tuple #[.agg #[.bool x0, .int .i64 x1, .int .i64 x2], .bool true]) ∧ Le w0 w') := fun w0 LA nl ql H ch h1 h2 =>
          Calls.soJ (by rw [← HEC.out, ← HVC.out, ← HHC.out]; exact y0) (by rw [← HEC.out, ← HVC.out, ← HHC.out]; exact j4) (by rw [← HEC.out, ← HVC.out, ← HHC.out]; exact y1) (by rw [← HEC.out, ← HVC.out, ← HHC.out]; exact y2) (iStartOf_any B LA H _ c nl ql _ ch xs enC vaC hC (by rw [← HHC.out]; exact ceH_len _ _ _ _ _) w0 h1 h2)
        have HLJ : Hid (lA = lB ++ lC) := by show _ = _; rw [← HLA.out, ← HLB.out, ← HLC.out]; exact j1
        have HNB : lB.length ≤ 1048576 := by rw [← HLB.out]; exact ceL_len _ _ _ _ _
        have HNC : lC.length ≤ 1048576 := by rw [← HLC.out]; exact ceL_len _ _ _ _ _
        clear HCS ok1 ok2 ok3 ok4 e0 e1 e2 j1 j2 j3 j4 j5 j6 j7 j8 y0 y1 y2 HLA HLB HLC HHA HHB HHC HEA HEB HEC HVA HVB HVC
        go_wp2_with fail
        obtain ⟨cs0, cs1, cs2, zs0, LX⟩ := boxT wr (.bool true) (.int .i64 z) (.int .i64 5) 28
        have zs1 := zs0
        have zs2 := zs0
        replace ct := (LX.cell zt).trans ct
        replace zt := Nat.lt_of_lt_of_le zt LX.size
        replace S := S.le LX
        replace L0 := L0.trans LX
        replace S2 := S2.le LX
        replace S3 := S3.le LX
        replace S4 := S4.le LX
        have HL1 := Lib.hid (HLE.out.trans LX)
        clear LX
        generalize wr.alloc (.cells #[.bool true, .int .i64 z, .int .i64 5] 28) = W6 at *
        refine (HCA.out W6 S S4).mono ?_
        rintro e u1 ⟨Aa0, qAa0, Aa1, qAa1, rfl, Sa, SH, hle⟩
        replace ct := (hle.cell zt).trans ct
        replace cs0 := (hle.cell zs0).trans cs0
        replace cs1 := (hle.cell zs1).trans cs1
        replace cs2 := (hle.cell zs2).trans cs2
        replace zt := Nat.lt_of_lt_of_le zt hle.size
        replace zs0 := Nat.lt_of_lt_of_le zs0 hle.size
        replace zs1 := Nat.lt_of_lt_of_le zs1 hle.size
        replace zs2 := Nat.lt_of_lt_of_le zs2 hle.size
        replace S := S.le hle
        replace L0 := L0.trans hle
        replace S2 := S2.le hle
        replace S3 := S3.le hle
        replace S4 := S4.le hle
        have HM1 := Lib.hid (HL1.out.trans hle)
        clear hle
        obtain ⟨ca0, ca1, ca2, ca3, za0, LR⟩ := boxRr u1 (.slice Aa0 lA.length qAa0) (.int .i64 enA) (.int .i64 vaA) (.slice Aa1 hA.length qAa1) 36
        have za1 := za0
        have za2 := za0
        have za3 := za0
        replace ct := (LR.cell zt).trans ct
        replace cs0 := (LR.cell zs0).trans cs0
        replace cs1 := (LR.cell zs1).trans cs1
        replace cs2 := (LR.cell zs2).trans cs2
        replace zt := Nat.lt_of_lt_of_le zt LR.size
        replace zs0 := Nat.lt_of_lt_of_le zs0 LR.size
        replace zs1 := Nat.lt_of_lt_of_le zs1 LR.size
        replace zs2 := Nat.lt_of_lt_of_le zs2 LR.size
        replace S := S.le LR
        replace L0 := L0.trans LR
        replace S2 := S2.le LR
        replace S3 := S3.le LR
        replace S4 := S4.le LR
        replace Sa := Sa.le LR
        replace SH := SH.le LR
        have HN1 := Lib.hid (HM1.out.trans LR)
        clear LR
        have SHa := SH
        clear SH
        go_wp2_with fail
        generalize u1.alloc (.cells #[.slice Aa0 lA.length qAa0, .int .i64 enA, .int .i64 vaA, .slice Aa1 hA.length qAa1] 36) = U1 at *
        refine (HCB.out U1 S S3).mono ?_
        rintro e u2 ⟨Ab0, qAb0, Ab1, qAb1, rfl, Sb, SH, hle⟩
        replace ct := (hle.cell zt).trans ct
        replace cs0 := (hle.cell zs0).trans cs0
        replace cs1 := (hle.cell zs1).trans cs1
        replace cs2 := (hle.cell zs2).trans cs2
        replace ca0 := (hle.cell za0).trans ca0
        replace ca1 := (hle.cell za1).trans ca1
        replace ca2 := (hle.cell za2).trans ca2
        replace ca3 := (hle.cell za3).trans ca3
        replace zt := Nat.lt_of_lt_of_le zt hle.size
        replace zs0 := Nat.lt_of_lt_of_le zs0 hle.size
        replace zs1 := Nat.lt_of_lt_of_le zs1 hle.size
        replace zs2 := Nat.lt_of_lt_of_le zs2 hle.size
        replace S := S.le hle
        replace L0 := L0.trans hle
        replace S2 := S2.le hle
        replace S3 := S3.le hle
        replace S4 := S4.le hle
        replace za0 := Nat.lt_of_lt_of_le za0 hle.size
        replace za1 := Nat.lt_of_lt_of_le za1 hle.size
        replace za2 := Nat.lt_of_lt_of_le za2 hle.size
        replace za3 := Nat.lt_of_lt_of_le za3 hle.size
        replace Sa := Sa.le hle
        replace SHa := SHa.le hle
        have HM2 := Lib.hid (HN1.out.trans hle)
        clear hle
        obtain ⟨cb0, cb1, cb2, cb3, zb0, LR⟩ := boxRr u2 (.slice Ab0 lB.length qAb0) (.int .i64 enB) (.int .i64 vaB) (.slice Ab1 hB.length qAb1) 36
        have zb1 := zb0
        have zb2 := zb0
        have zb3 := zb0
        replace ct := (LR.cell zt).trans ct
        replace cs0 := (LR.cell zs0).trans cs0
        replace cs1 := (LR.cell zs1).trans cs1
        replace cs2 := (LR.cell zs2).trans cs2
        replace ca0 := (LR.cell za0).trans ca0
        replace ca1 := (LR.cell za1).trans ca1
        replace ca2 := (LR.cell za2).trans ca2
        replace ca3 := (LR.cell za3).trans ca3
        replace zt := Nat.lt_of_lt_of_le zt LR.size
        replace zs0 := Nat.lt_of_lt_of_le zs0 LR.size
        replace zs1 := Nat.lt_of_lt_of_le zs1 LR.size
        replace zs2 := Nat.lt_of_lt_of_le zs2 LR.size
        replace S := S.le LR
        replace L0 := L0.trans LR
        replace S2 := S2.le LR
        replace S3 := S3.le LR
        replace S4 := S4.le LR
        replace za0 := Nat.lt_of_lt_of_le za0 LR.size
        replace za1 := Nat.lt_of_lt_of_le za1 LR.size
        replace za2 := Nat.lt_of_lt_of_le za2 LR.size
        replace za3 := Nat.lt_of_lt_of_le za3 LR.size
        replace Sa := Sa.le LR
        replace SHa := SHa.le LR
        replace Sb := Sb.le LR
        replace SH := SH.le LR
        have HN2 := Lib.hid (HM2.out.trans LR)
        clear LR
        have SHb := SH
        clear SH
        go_wp2_with fail
        generalize u2.alloc (.cells #[.slice Ab0 lB.length qAb0, .int .i64 enB, .int .i64 vaB, .slice Ab1 hB.length qAb1] 36) = U2 at *
        refine (HSB.out U2 Ab0 _ qAb0 Ab1 qAb1 S SHb).mono ?_
        rintro e u3 ⟨rfl, hle⟩
        replace ct := (hle.cell zt).trans ct
        replace cs0 := (hle.cell zs0).trans cs0
        replace cs1 := (hle.cell zs1).trans cs1
        replace cs2 := (hle.cell zs2).trans cs2
        replace ca0 := (hle.cell za0).trans ca0
        replace ca1 := (hle.cell za1).trans ca1
        replace ca2 := (hle.cell za2).trans ca2
        replace ca3 := (hle.cell za3).trans ca3
        replace cb0 := (hle.cell zb0).trans cb0
        replace cb1 := (hle.cell zb1).trans cb1
        replace cb2 := (hle.cell zb2).trans cb2
        replace cb3 := (hle.cell zb3).trans cb3
        replace zt := Nat.lt_of_lt_of_le zt hle.size
        replace zs0 := Nat.lt_of_lt_of_le zs0 hle.size
        replace zs1 := Nat.lt_of_lt_of_le zs1 hle.size
        replace zs2 := Nat.lt_of_lt_of_le zs2 hle.size
        replace S := S.le hle
        replace L0 := L0.trans hle
        replace S2 := S2.le hle
        replace S3 := S3.le hle
        replace S4 := S4.le hle
        replace za0 := Nat.lt_of_lt_of_le za0 hle.size
        replace za1 := Nat.lt_of_lt_of_le za1 hle.size
        replace za2 := Nat.lt_of_lt_of_le za2 hle.size
        replace za3 := Nat.lt_of_lt_of_le za3 hle.size
        replace Sa := Sa.le hle
        replace SHa := SHa.le hle
        replace zb0 := Nat.lt_of_lt_of_le zb0 hle.size
        replace zb1 := Nat.lt_of_lt_of_le zb1 hle.size
        replace zb2 := Nat.lt_of_lt_of_le zb2 hle.size
        replace zb3 := Nat.lt_of_lt_of_le zb3 hle.size
        replace Sb := Sb.le hle
        replace SHb := SHb.le hle
        have HM3 := Lib.hid (HN2.out.trans hle)
        clear hle
        obtain ⟨cm0, cm1, cm2, zm0, LX⟩ := boxT u3 (.bool m0) (.int .i64 m1) (.int .i64 m2) 28
        have zm1 := zm0
        have zm2 := zm0
        replace ct := (LX.cell zt).trans ct
        replace cs0 := (LX.cell zs0).trans cs0
        replace cs1 := (LX.cell zs1).trans cs1
        replace cs2 := (LX.cell zs2).trans cs2
        replace ca0 := (LX.cell za0).trans ca0
        replace ca1 := (LX.cell za1).trans ca1
        replace ca2 := (LX.cell za2).trans ca2
        replace ca3 := (LX.cell za3).trans ca3
        replace cb0 := (LX.cell zb0).trans cb0
        replace cb1 := (LX.cell zb1).trans cb1
        replace cb2 := (LX.cell zb2).trans cb2
        replace cb3 := (LX.cell zb3).trans cb3
        replace zt := Nat.lt_of_lt_of_le zt LX.size
        replace zs0 := Nat.lt_of_lt_of_le zs0 LX.size
        replace zs1 := Nat.lt_of_lt_of_le zs1 LX.size
        replace zs2 := Nat.lt_of_lt_of_le zs2 LX.size
        replace S := S.le LX
        replace L0 := L0.trans LX
        replace S2 := S2.le LX
        replace S3 := S3.le LX
        replace S4 := S4.le LX
        replace za0 := Nat.lt_of_lt_of_le za0 LX.size
        replace za1 := Nat.lt_of_lt_of_le za1 LX.size
        replace za2 := Nat.lt_of_lt_of_le za2 LX.size
        replace za3 := Nat.lt_of_lt_of_le za3 LX.size
        replace Sa := Sa.le LX
        replace SHa := SHa.le LX
        replace zb0 := Nat.lt_of_lt_of_le zb0 LX.size
        replace zb1 := Nat.lt_of_lt_of_le zb1 LX.size
        replace zb2 := Nat.lt_of_lt_of_le zb2 LX.size
        replace zb3 := Nat.lt_of_lt_of_le zb3 LX.size
        replace Sb := Sb.le LX
        replace SHb := SHb.le LX
        have HN3 := Lib.hid (HM3.out.trans LX)
        clear LX
        go_wp2_with fail
        generalize u3.alloc (.cells #[.bool m0, .int .i64 m1, .int .i64 m2] 28) = U3 at *
        refine (HCC.out U3 S S2).mono ?_
        rintro e u4 ⟨Ag0, qAg0, Ag1, qAg1, rfl, Sg, SH, hle⟩
        replace ct := (hle.cell zt).trans ct
        replace cs0 := (hle.cell zs0).trans cs0
        replace cs1 := (hle.cell zs1).trans cs1
        replace cs2 := (hle.cell zs2).trans cs2
        replace ca0 := (hle.cell za0).trans ca0
        replace ca1 := (hle.cell za1).trans ca1
        replace ca2 := (hle.cell za2).trans ca2
        replace ca3 := (hle.cell za3).trans ca3
        replace cb0 := (hle.cell zb0).trans cb0
        replace cb1 := (hle.cell zb1).trans cb1
        replace cb2 := (hle.cell zb2).trans cb2
        replace cb3 := (hle.cell zb3).trans cb3
        replace cm0 := (hle.cell zm0).trans cm0
        replace cm1 := (hle.cell zm1).trans cm1
        replace cm2 := (hle.cell zm2).trans cm2
        replace zt := Nat.lt_of_lt_of_le zt hle.size
        replace zs0 := Nat.lt_of_lt_of_le zs0 hle.size
        replace zs1 := Nat.lt_of_lt_of_le zs1 hle.size
        replace zs2 := Nat.lt_of_lt_of_le zs2 hle.size
        replace S := S.le hle
        replace L0 := L0.trans hle
        replace S2 := S2.le hle
        replace S3 := S3.le hle
        replace S4 := S4.le hle
        replace za0 := Nat.lt_of_lt_of_le za0 hle.size
        replace za1 := Nat.lt_of_lt_of_le za1 hle.size
        replace za2 := Nat.lt_of_lt_of_le za2 hle.size
        replace za3 := Nat.lt_of_lt_of_le za3 hle.size
        replace Sa := Sa.le hle
        replace SHa := SHa.le hle
        replace zb0 := Nat.lt_of_lt_of_le zb0 hle.size
        replace zb1 := Nat.lt_of_lt_of_le zb1 hle.size
        replace zb2 := Nat.lt_of_lt_of_le zb2 hle.size
        replace zb3 := Nat.lt_of_lt_of_le zb3 hle.size
        replace Sb := Sb.le hle
        replace SHb := SHb.le hle
        replace zm0 := Nat.lt_of_lt_of_le zm0 hle.size
        replace zm1 := Nat.lt_of_lt_of_le zm1 hle.size
        replace zm2 := Nat.lt_of_lt_of_le zm2 hle.size
        have HM4 := Lib.hid (HN3.out.trans hle)
        clear hle
        obtain ⟨cg0, cg1, cg2, cg3, zg0, LR⟩ := boxRr u4 (.slice Ag0 lC.length qAg0) (.int .i64 enC) (.int .i64 vaC) (.slice Ag1 hC.length qAg1) 36
        have zg1 := zg0
        have zg2 := zg0
        have zg3 := zg0
        replace ct := (LR.cell zt).trans ct
        replace cs0 := (LR.cell zs0).trans cs0
        replace cs1 := (LR.cell zs1).trans cs1
        replace cs2 := (LR.cell zs2).trans cs2
        replace ca0 := (LR.cell za0).trans ca0
        replace ca1 := (LR.cell za1).trans ca1
        replace ca2 := (LR.cell za2).trans ca2
        replace ca3 := (LR.cell za3).trans ca3
        replace cb0 := (LR.cell zb0).trans cb0
        replace cb1 := (LR.cell zb1).trans cb1
        replace cb2 := (LR.cell zb2).trans cb2
        replace cb3 := (LR.cell zb3).trans cb3
        replace cm0 := (LR.cell zm0).trans cm0
        replace cm1 := (LR.cell zm1).trans cm1
        replace cm2 := (LR.cell zm2).trans cm2
        replace zt := Nat.lt_of_lt_of_le zt LR.size
        replace zs0 := Nat.lt_of_lt_of_le zs0 LR.size
        replace zs1 := Nat.lt_of_lt_of_le zs1 LR.size
        replace zs2 := Nat.lt_of_lt_of_le zs2 LR.size
        replace S := S.le LR
        replace L0 := L0.trans LR
        replace S2 := S2.le LR
        replace S3 := S3.le LR
        replace S4 := S4.le LR
        replace za0 := Nat.lt_of_lt_of_le za0 LR.size
        replace za1 := Nat.lt_of_lt_of_le za1 LR.size
        replace za2 := Nat.lt_of_lt_of_le za2 LR.size
        replace za3 := Nat.lt_of_lt_of_le za3 LR.size
        replace Sa := Sa.le LR
        replace SHa := SHa.le LR
        replace zb0 := Nat.lt_of_lt_of_le zb0 LR.size
        replace zb1 := Nat.lt_of_lt_of_le zb1 LR.size
        replace zb2 := Nat.lt_of_lt_of_le zb2 LR.size
        replace zb3 := Nat.lt_of_lt_of_le zb3 LR.size
        replace Sb := Sb.le LR
        replace SHb := SHb.le LR
        replace zm0 := Nat.lt_of_lt_of_le zm0 LR.size
        replace zm1 := Nat.lt_of_lt_of_le zm1 LR.size
        replace zm2 := Nat.lt_of_lt_of_le zm2 LR.size
        replace Sg := Sg.le LR
        replace SH := SH.le LR
        have HN4 := Lib.hid (HM4.out.trans LR)
        clear LR
        have SHg := SH
        clear SH
        go_wp2_with fail
        generalize u4.alloc (.cells #[.slice Ag0 lC.length qAg0, .int .i64 enC, .int .i64 vaC, .slice Ag1 hC.length qAg1] 36) = U4 at *
        refine (HSA.out U4 Aa0 _ qAa0 Aa1 qAa1 S SHa).mono ?_
        rintro e u5 ⟨rfl, hle⟩
        replace ct := (hle.cell zt).trans ct
        replace cs0 := (hle.cell zs0).trans cs0
        replace cs1 := (hle.cell zs1).trans cs1
        replace cs2 := (hle.cell zs2).trans cs2
        replace ca0 := (hle.cell za0).trans ca0
        replace ca1 := (hle.cell za1).trans ca1
        replace ca2 := (hle.cell za2).trans ca2
        replace ca3 := (hle.cell za3).trans ca3
        replace cb0 := (hle.cell zb0).trans cb0
        replace cb1 := (hle.cell zb1).trans cb1
        replace cb2 := (hle.cell zb2).trans cb2
        replace cb3 := (hle.cell zb3).trans cb3
        replace cm0 := (hle.cell zm0).trans cm0
        replace cm1 := (hle.cell zm1).trans cm1
        replace cm2 := (hle.cell zm2).trans cm2
        replace cg0 := (hle.cell zg0).trans cg0
        replace cg1 := (hle.cell zg1).trans cg1
        replace cg2 := (hle.cell zg2).trans cg2
        replace cg3 := (hle.cell zg3).trans cg3
        replace zt := Nat.lt_of_lt_of_le zt hle.size
        replace zs0 := Nat.lt_of_lt_of_le zs0 hle.size
        replace zs1 := Nat.lt_of_lt_of_le zs1 hle.size
        replace zs2 := Nat.lt_of_lt_of_le zs2 hle.size
        replace S := S.le hle
        replace L0 := L0.trans hle
        replace S2 := S2.le hle
        replace S3 := S3.le hle
        replace S4 := S4.le hle
        replace za0 := Nat.lt_of_lt_of_le za0 hle.size
        replace za1 := Nat.lt_of_lt_of_le za1 hle.size
        replace za2 := Nat.lt_of_lt_of_le za2 hle.size
        replace za3 := Nat.lt_of_lt_of_le za3 hle.size
        replace Sa := Sa.le hle
        replace SHa := SHa.le hle
        replace zb0 := Nat.lt_of_lt_of_le zb0 hle.size
        replace zb1 := Nat.lt_of_lt_of_le zb1 hle.size
        replace zb2 := Nat.lt_of_lt_of_le zb2 hle.size
        replace zb3 := Nat.lt_of_lt_of_le zb3 hle.size
        replace Sb := Sb.le hle
        replace SHb := SHb.le hle
        replace zm0 := Nat.lt_of_lt_of_le zm0 hle.size
        replace zm1 := Nat.lt_of_lt_of_le zm1 hle.size
        replace zm2 := Nat.lt_of_lt_of_le zm2 hle.size
        replace zg0 := Nat.lt_of_lt_of_le zg0 hle.size
        replace zg1 := Nat.lt_of_lt_of_le zg1 hle.size
        replace zg2 := Nat.lt_of_lt_of_le zg2 hle.size
        replace zg3 := Nat.lt_of_lt_of_le zg3 hle.size
        replace Sg := Sg.le hle
        replace SHg := SHg.le hle
        have HM5 := Lib.hid (HN4.out.trans hle)
        clear hle
        obtain ⟨cx0, cx1, cx2, zx0, LX⟩ := boxT u5 (.bool x0) (.int .i64 x1) (.int .i64 x2) 28
        have zx1 := zx0
        have zx2 := zx0
        replace ct := (LX.cell zt).trans ct
        replace cs0 := (LX.cell zs0).trans cs0
        replace cs1 := (LX.cell zs1).trans cs1
        replace cs2 := (LX.cell zs2).trans cs2
        replace ca0 := (LX.cell za0).trans ca0
        replace ca1 := (LX.cell za1).trans ca1
        replace ca2 := (LX.cell za2).trans ca2
        replace ca3 := (LX.cell za3).trans ca3
        replace cb0 := (LX.cell zb0).trans cb0
        replace cb1 := (LX.cell zb1).trans cb1
        replace cb2 := (LX.cell zb2).trans cb2
        replace cb3 := (LX.cell zb3).trans cb3
        replace cm0 := (LX.cell zm0).trans cm0
        replace cm1 := (LX.cell zm1).trans cm1
        replace cm2 := (LX.cell zm2).trans cm2
        replace cg0 := (LX.cell zg0).trans cg0
        replace cg1 := (LX.cell zg1).trans cg1
        replace cg2 := (LX.cell zg2).trans cg2
        replace cg3 := (LX.cell zg3).trans cg3
        replace zt := Nat.lt_of_lt_of_le zt LX.size
        replace zs0 := Nat.lt_of_lt_of_le zs0 LX.size
        replace zs1 := Nat.lt_of_lt_of_le zs1 LX.size
        replace zs2 := Nat.lt_of_lt_of_le zs2 LX.size
        replace S := S.le LX
        replace L0 := L0.trans LX
        replace S2 := S2.le LX
        replace S3 := S3.le LX
        replace S4 := S4.le LX
        replace za0 := Nat.lt_of_lt_of_le za0 LX.size
        replace za1 := Nat.lt_of_lt_of_le za1 LX.size
        replace za2 := Nat.lt_of_lt_of_le za2 LX.size
        replace za3 := Nat.lt_of_lt_of_le za3 LX.size
        replace Sa := Sa.le LX
        replace SHa := SHa.le LX
        replace zb0 := Nat.lt_of_lt_of_le zb0 LX.size
        replace zb1 := Nat.lt_of_lt_of_le zb1 LX.size
        replace zb2 := Nat.lt_of_lt_of_le zb2 LX.size
        replace zb3 := Nat.lt_of_lt_of_le zb3 LX.size
        replace Sb := Sb.le LX
        replace SHb := SHb.le LX
        replace zm0 := Nat.lt_of_lt_of_le zm0 LX.size
        replace zm1 := Nat.lt_of_lt_of_le zm1 LX.size
        replace zm2 := Nat.lt_of_lt_of_le zm2 LX.size
        replace zg0 := Nat.lt_of_lt_of_le zg0 LX.size
        replace zg1 := Nat.lt_of_lt_of_le zg1 LX.size
        replace zg2 := Nat.lt_of_lt_of_le zg2 LX.size
        replace zg3 := Nat.lt_of_lt_of_le zg3 LX.size
        replace Sg := Sg.le LX
        replace SHg := SHg.le LX
        have HN5 := Lib.hid (HM5.out.trans LX)
        clear LX
        go_wp2_with fail
        generalize u5.alloc (.cells #[.bool x0, .int .i64 x1, .int .i64 x2] 28) = U5 at *
        refine (HSC.out U5 Ag0 _ qAg0 Ag1 qAg1 S SHg).mono ?_
        rintro e u6 ⟨rfl, hle⟩
        replace ct := (hle.cell zt).trans ct
        replace cs0 := (hle.cell zs0).trans cs0
        replace cs1 := (hle.cell zs1).trans cs1
        replace cs2 := (hle.cell zs2).trans cs2
        replace ca0 := (hle.cell za0).trans ca0
        replace ca1 := (hle.cell za1).trans ca1
        replace ca2 := (hle.cell za2).trans ca2
        replace ca3 := (hle.cell za3).trans ca3
        replace cb0 := (hle.cell zb0).trans cb0
        replace cb1 := (hle.cell zb1).trans cb1
        replace cb2 := (hle.cell zb2).trans cb2
        replace cb3 := (hle.cell zb3).trans cb3
        replace cm0 := (hle.cell zm0).trans cm0
        replace cm1 := (hle.cell zm1).trans cm1
        replace cm2 := (hle.cell zm2).trans cm2
        replace cg0 := (hle.cell zg0).trans cg0
        replace cg1 := (hle.cell zg1).trans cg1
        replace cg2 := (hle.cell zg2).trans cg2
        replace cg3 := (hle.cell zg3).trans cg3
        replace cx0 := (hle.cell zx0).trans cx0
        replace cx1 := (hle.cell zx1).trans cx1
        replace cx2 := (hle.cell zx2).trans cx2
        replace zt := Nat.lt_of_lt_of_le zt hle.size
        replace zs0 := Nat.lt_of_lt_of_le zs0 hle.size
        replace zs1 := Nat.lt_of_lt_of_le zs1 hle.size
        replace zs2 := Nat.lt_of_lt_of_le zs2 hle.size
        replace S := S.le hle
        replace L0 := L0.trans hle
        replace S2 := S2.le hle
        replace S3 := S3.le hle
        replace S4 := S4.le hle
        replace za0 := Nat.lt_of_lt_of_le za0 hle.size
        replace za1 := Nat.lt_of_lt_of_le za1 hle.size
        replace za2 := Nat.lt_of_lt_of_le za2 hle.size
        replace za3 := Nat.lt_of_lt_of_le za3 hle.size
        replace Sa := Sa.le hle
        replace SHa := SHa.le hle
        replace zb0 := Nat.lt_of_lt_of_le zb0 hle.size
        replace zb1 := Nat.lt_of_lt_of_le zb1 hle.size
        replace zb2 := Nat.lt_of_lt_of_le zb2 hle.size
        replace zb3 := Nat.lt_of_lt_of_le zb3 hle.size
        replace Sb := Sb.le hle
        replace SHb := SHb.le hle
        replace zm0 := Nat.lt_of_lt_of_le zm0 hle.size
        replace zm1 := Nat.lt_of_lt_of_le zm1 hle.size
        replace zm2 := Nat.lt_of_lt_of_le zm2 hle.size
        replace zg0 := Nat.lt_of_lt_of_le zg0 hle.size
        replace zg1 := Nat.lt_of_lt_of_le zg1 hle.size
        replace zg2 := Nat.lt_of_lt_of_le zg2 hle.size
        replace zg3 := Nat.lt_of_lt_of_le zg3 hle.size
        replace Sg := Sg.le hle
        replace SHg := SHg.le hle
        replace zx0 := Nat.lt_of_lt_of_le zx0 hle.size
        replace zx1 := Nat.lt_of_lt_of_le zx1 hle.size
        replace zx2 := Nat.lt_of_lt_of_le zx2 hle.size
        have HM6 := Lib.hid (HN5.out.trans hle)
        clear hle
        obtain ⟨cy0, cy1, cy2, zy0, LX⟩ := boxT u6 (.bool x0) (.int .i64 x1) (.int .i64 x2) 28
        have zy1 := zy0
        have zy2 := zy0
        replace ct := (LX.cell zt).trans ct
        replace cs0 := (LX.cell zs0).trans cs0
        replace cs1 := (LX.cell zs1).trans cs1
        replace cs2 := (LX.cell zs2).trans cs2
        replace ca0 := (LX.cell za0).trans ca0
        replace ca1 := (LX.cell za1).trans ca1
        replace ca2 := (LX.cell za2).trans ca2
        replace ca3 := (LX.cell za3).trans ca3
        replace cb0 := (LX.cell zb0).trans cb0
        replace cb1 := (LX.cell zb1).trans cb1
        replace cb2 := (LX.cell zb2).trans cb2
        replace cb3 := (LX.cell zb3).trans cb3
        replace cm0 := (LX.cell zm0).trans cm0
        replace cm1 := (LX.cell zm1).trans cm1
        replace cm2 := (LX.cell zm2).trans cm2
        replace cg0 := (LX.cell zg0).trans cg0
        replace cg1 := (LX.cell zg1).trans cg1
        replace cg2 := (LX.cell zg2).trans cg2
        replace cg3 := (LX.cell zg3).trans cg3
        replace cx0 := (LX.cell zx0).trans cx0
        replace cx1 := (LX.cell zx1).trans cx1
        replace cx2 := (LX.cell zx2).trans cx2
        replace zt := Nat.lt_of_lt_of_le zt LX.size
        replace zs0 := Nat.lt_of_lt_of_le zs0 LX.size
        replace zs1 := Nat.lt_of_lt_of_le zs1 LX.size
        replace zs2 := Nat.lt_of_lt_of_le zs2 LX.size
        replace S := S.le LX
        replace L0 := L0.trans LX
        replace S2 := S2.le LX
        replace S3 := S3.le LX
        replace S4 := S4.le LX
        replace za0 := Nat.lt_of_lt_of_le za0 LX.size
        replace za1 := Nat.lt_of_lt_of_le za1 LX.size
        replace za2 := Nat.lt_of_lt_of_le za2 LX.size
        replace za3 := Nat.lt_of_lt_of_le za3 LX.size
        replace Sa := Sa.le LX
        replace SHa := SHa.le LX
        replace zb0 := Nat.lt_of_lt_of_le zb0 LX.size
        replace zb1 := Nat.lt_of_lt_of_le zb1 LX.size
        replace zb2 := Nat.lt_of_lt_of_le zb2 LX.size
        replace zb3 := Nat.lt_of_lt_of_le zb3 LX.size
        replace Sb := Sb.le LX
        replace SHb := SHb.le LX
        replace zm0 := Nat.lt_of_lt_of_le zm0 LX.size
        replace zm1 := Nat.lt_of_lt_of_le zm1 LX.size
        replace zm2 := Nat.lt_of_lt_of_le zm2 LX.size
        replace zg0 := Nat.lt_of_lt_of_le zg0 LX.size
        replace zg1 := Nat.lt_of_lt_of_le zg1 LX.size
        replace zg2 := Nat.lt_of_lt_of_le zg2 LX.size
        replace zg3 := Nat.lt_of_lt_of_le zg3 LX.size
        replace Sg := Sg.le LX
        replace SHg := SHg.le LX
        replace zx0 := Nat.lt_of_lt_of_le zx0 LX.size
        replace zx1 := Nat.lt_of_lt_of_le zx1 LX.size
        replace zx2 := Nat.lt_of_lt_of_le zx2 LX.size
        have HN6 := Lib.hid (HM6.out.trans LX)
        clear LX
        have hxe : (x1 == x1) = true := by simp
        have hxf : (x2 == x2) = true := by simp
        have hxg : (x0 == x0) = true := by simp
        have hxn : (x1 != x1) = false := by simp
        have hxo : (x2 != x2) = false := by simp
        have hxp : (x0 != x0) = false := by simp
        go_wp2_with fail
        generalize u6.alloc (.cells #[.bool x0, .int .i64 x1, .int .i64 x2] 28) = U6 at *
        clear HCA HCB HCC HSA HSB HSC SHa SHb SHg S2 S3 S4 S cs0 cs1 cs2 ca1 ca2 ca3 cb1 cb2 cb3 cg1 cg2 cg3 cm0 cm1 cm2
        have HLD := Lib.hid (HN6.out.drew)
        replace ct := (show U6.drew.cell? _ = _ from ct)
        replace zt := (show _ < U6.drew.heap.size from zt)
        replace ca0 := (show U6.drew.cell? _ = _ from ca0)
        replace za0 := (show _ < U6.drew.heap.size from za0)
        replace cb0 := (show U6.drew.cell? _ = _ from cb0)
        replace zb0 := (show _ < U6.drew.heap.size from zb0)
        replace cg0 := (show U6.drew.cell? _ = _ from cg0)
        replace zg0 := (show _ < U6.drew.heap.size from zg0)
        replace cx0 := (show U6.drew.cell? _ = _ from cx0)
        replace zx0 := (show _ < U6.drew.heap.size from zx0)
        replace cx1 := (show U6.drew.cell? _ = _ from cx1)
        replace zx1 := (show _ < U6.drew.heap.size from zx1)
        replace cx2 := (show U6.drew.cell? _ = _ from cx2)
        replace zx2 := (show _ < U6.drew.heap.size from zx2)
        replace cy0 := (show U6.drew.cell? _ = _ from cy0)
        replace zy0 := (show _ < U6.drew.heap.size from zy0)
        replace cy1 := (show U6.drew.cell? _ = _ from cy1)
        replace zy1 := (show _ < U6.drew.heap.size from zy1)
        replace cy2 := (show U6.drew.cell? _ = _ from cy2)
        replace zy2 := (show _ < U6.drew.heap.size from zy2)
        replace L0 := L0.drew
        replace Sa := Sa.le (Le.refl _).drew
        replace Sb := Sb.le (Le.refl _).drew
        replace Sg := Sg.le (Le.refl _).drew
        refine wp_region_noPanic ?_
        refine wp_region_Z (fun w' => w'.cell? ⟨u5.heap.size, 0, none⟩ = some (.bool x0) ∧ w'.cell? ⟨u5.heap.size, 1, none⟩ = some (.int .i64 x1) ∧ w'.cell? ⟨u5.heap.size, 2, none⟩ = some (.int .i64 x2) ∧ w'.cell? ⟨u6.heap.size, 0, none⟩ = some (.bool x0) ∧ w'.cell? ⟨u6.heap.size, 1, none⟩ = some (.int .i64 x1) ∧ w'.cell? ⟨u6.heap.size, 2, none⟩ = some (.int .i64 x2) ∧ w'.cell? ⟨u1.heap.size, 0, none⟩ = some (.slice Aa0 lA.length qAa0) ∧ w'.cell? ⟨u2.heap.size, 0, none⟩ = some (.slice Ab0 lB.length qAb0) ∧ w'.cell? ⟨u4.heap.size, 0, none⟩ = some (.slice Ag0 lC.length qAg0)) [] (by kernel_rfl) ?_
        generalize U6.drew = V at *
        have VL : ∀ (W : World), Le V W → _ := fun W (LV : Le V W) => (⟨(LV.cell zx0).trans cx0, (LV.cell zx1).trans cx1, (LV.cell zx2).trans cx2, (LV.cell zy0).trans cy0, (LV.cell zy1).trans cy1, (LV.cell zy2).trans cy2, (LV.cell za0).trans ca0, (LV.cell zb0).trans cb0, (LV.cell zg0).trans cg0⟩ : W.cell? ⟨u5.heap.size, 0, none⟩ = some (.bool x0) ∧ W.cell? ⟨u5.heap.size, 1, none⟩ = some (.int .i64 x1) ∧ W.cell? ⟨u5.heap.size, 2, none⟩ = some (.int .i64 x2) ∧ W.cell? ⟨u6.heap.size, 0, none⟩ = some (.bool x0) ∧ W.cell? ⟨u6.heap.size, 1, none⟩ = some (.int .i64 x1) ∧ W.cell? ⟨u6.heap.size, 2, none⟩ = some (.int .i64 x2) ∧ W.cell? ⟨u1.heap.size, 0, none⟩ = some (.slice Aa0 lA.length qAa0) ∧ W.cell? ⟨u2.heap.size, 0, none⟩ = some (.slice Ab0 lB.length qAb0) ∧ W.cell? ⟨u4.heap.size, 0, none⟩ = some (.slice Ag0 lC.length qAg0))
        have HVL := Lib.hid VL
        refine wpAnyZ_take (i := 0) (v := ?_) rfl (by kernel_rfl) (fun _ _ _ h => h) (Or.inl ⟨by rfl, ?_⟩) ((HVL.out _ (Le.refl V))) ?_
        rotate_left 1
        · (intro w hSw; (try dsimp only at hSw); go_simp; try with_reducible rfl)
        try simp only [Act.put, List.setIfInBounds_toArray, List.set_cons_zero, List.set_cons_succ]
        refine wpAnyZ_take (i := 1) (v := ?_) rfl (by kernel_rfl) (fun _ _ _ h => h) (Or.inl ⟨by rfl, ?_⟩) ((HVL.out _ (Le.refl V))) ?_
        rotate_left 1
        · (intro w hSw; (try dsimp only at hSw); go_simp; try with_reducible rfl)
        try simp only [Act.put, List.setIfInBounds_toArray, List.set_cons_zero, List.set_cons_succ]
        refine wpAnyZ_take (i := 2) (v := ?_) rfl (by kernel_rfl) (fun _ _ _ h => h) (Or.inl ⟨by rfl, ?_⟩) ((HVL.out _ (Le.refl V))) ?_
        rotate_left 1
        · (intro w hSw; (try dsimp only at hSw); go_simp; try with_reducible rfl)
        try simp only [Act.put, List.setIfInBounds_toArray, List.set_cons_zero, List.set_cons_succ]
        refine wpAnyZ_take (i := 3) (v := ?_) rfl (by kernel_rfl) (fun _ _ _ h => h) (Or.inl ⟨by rfl, ?_⟩) ((HVL.out _ (Le.refl V))) ?_
        rotate_left 1
        · (intro w hSw; (try dsimp only at hSw); go_simp; try with_reducible rfl)
        try simp only [Act.put, List.setIfInBounds_toArray, List.set_cons_zero, List.set_cons_succ]
        refine wpAnyZ_take (i := 4) (v := ?_) rfl (by kernel_rfl) (fun _ _ _ h => h) (Or.inl ⟨by rfl, ?_⟩) ((HVL.out _ (Le.refl V))) ?_
        rotate_left 1
        · (intro w hSw; (try dsimp only at hSw); go_simp; try with_reducible rfl)
        try simp only [Act.put, List.setIfInBounds_toArray, List.set_cons_zero, List.set_cons_succ]
        refine wpAnyZ_take (i := 5) (v := ?_) rfl (by kernel_rfl) (fun _ _ _ h => h) (Or.inl ⟨by rfl, ?_⟩) ((HVL.out _ (Le.refl V))) ?_
        rotate_left 1
        · (intro w hSw; (try dsimp only at hSw); go_simp; try with_reducible rfl)
        try simp only [Act.put, List.setIfInBounds_toArray, List.set_cons_zero, List.set_cons_succ]
        refine wpAnyZ_take (i := 6) (v := ?_) rfl (by kernel_rfl) (fun _ _ _ h => h) (Or.inl ⟨by rfl, ?_⟩) ((HVL.out _ (Le.refl V))) ?_
        rotate_left 1
        · (intro w hSw; (try dsimp only at hSw); go_simp; try with_reducible rfl)
        try simp only [Act.put, List.setIfInBounds_toArray, List.set_cons_zero, List.set_cons_succ]
        refine wpAnyZ_take (i := 7) (v := ?_) rfl (by kernel_rfl) (fun _ _ _ h => h) (Or.inl ⟨by rfl, ?_⟩) ((HVL.out _ (Le.refl V))) ?_
        rotate_left 1
        · (intro w hSw; (try dsimp only at hSw); go_simp; try with_reducible rfl)
        try simp only [Act.put, List.setIfInBounds_toArray, List.set_cons_zero, List.set_cons_succ]
        refine wpAnyZ_take (i := 8) (v := ?_) rfl (by kernel_rfl) (fun _ _ _ h => h) (Or.inl ⟨by rfl, ?_⟩) ((HVL.out _ (Le.refl V))) ?_
        rotate_left 1
        · (intro w hSw; (try dsimp only at hSw); go_simp; try with_reducible rfl)
        try simp only [Act.put, List.setIfInBounds_toArray, List.set_cons_zero, List.set_cons_succ]
        refine wpAnyZ_take (i := 9) (v := ?_) rfl (by kernel_rfl) (fun _ _ _ h => h) (Or.inl ⟨by rfl, ?_⟩) ((HVL.out _ (Le.refl V))) ?_
        rotate_left 1
        · (intro w hSw; (try dsimp only at hSw); go_simp; try with_reducible rfl)
        try simp only [Act.put, List.setIfInBounds_toArray, List.set_cons_zero, List.set_cons_succ]
        refine wpAnyZ_take (i := 10) (v := ?_) rfl (by kernel_rfl) (fun _ _ _ h => h) (Or.inl ⟨by rfl, ?_⟩) ((HVL.out _ (Le.refl V))) ?_
        rotate_left 1
        · (intro w hSw; (try dsimp only at hSw); go_simp; try with_reducible rfl)
        try simp only [Act.put, List.setIfInBounds_toArray, List.set_cons_zero, List.set_cons_succ]
        refine wpAnyZ_take (i := 11) (v := ?_) rfl (by kernel_rfl) (fun _ _ _ h => h) (Or.inl ⟨by rfl, ?_⟩) ((HVL.out _ (Le.refl V))) ?_
        rotate_left 1
        · (intro w hSw; (try dsimp only at hSw); go_simp; try with_reducible rfl)
        try simp only [Act.put, List.setIfInBounds_toArray, List.set_cons_zero, List.set_cons_succ]
        refine wpAnyZ_take (i := 12) (v := ?_) rfl (by kernel_rfl) (fun _ _ _ h => h) (Or.inl ⟨by rfl, ?_⟩) ((HVL.out _ (Le.refl V))) ?_
        rotate_left 1
        · (intro w hSw; (try dsimp only at hSw); go_simp; try with_reducible rfl)
        try simp only [Act.put, List.setIfInBounds_toArray, List.set_cons_zero, List.set_cons_succ]
        refine wpAnyZ_take (i := 13) (v := ?_) rfl (by kernel_rfl) (fun _ _ _ h => h) (Or.inl ⟨by rfl, ?_⟩) ((HVL.out _ (Le.refl V))) ?_
        rotate_left 1
        · (intro w hSw; (try dsimp only at hSw); go_simp; try with_reducible rfl)
        try simp only [Act.put, List.setIfInBounds_toArray, List.set_cons_zero, List.set_cons_succ]
        refine wpAnyZ_take (i := 14) (v := ?_) rfl (by kernel_rfl) (fun _ _ _ h => h) (Or.inl ⟨by rfl, ?_⟩) ((HVL.out _ (Le.refl V))) ?_
        rotate_left 1
        · (intro w hSw; (try dsimp only at hSw); go_simp; try with_reducible rfl)
        try simp only [Act.put, List.setIfInBounds_toArray, List.set_cons_zero, List.set_cons_succ]
        refine wpAnyZ_take (i := 15) (v := ?_) rfl (by kernel_rfl) (fun _ _ _ h => h) (Or.inl ⟨by rfl, ?_⟩) ((HVL.out _ (Le.refl V))) ?_
        rotate_left 1
        · (intro w hSw; (try dsimp only at hSw); go_simp; try with_reducible rfl)
        try simp only [Act.put, List.setIfInBounds_toArray, List.set_cons_zero, List.set_cons_succ]
        refine wpAnyZ_take (i := 16) (v := ?_) rfl (by kernel_rfl) (fun _ _ _ h => h) (Or.inl ⟨by rfl, ?_⟩) ((HVL.out _ (Le.refl V))) ?_
        rotate_left 1
        · (intro w hSw; (try dsimp only at hSw); go_simp; try with_reducible rfl)
        try simp only [Act.put, List.setIfInBounds_toArray, List.set_cons_zero, List.set_cons_succ]
        refine wpAnyZ_take (i := 17) (v := ?_) rfl (by kernel_rfl) (fun _ _ _ h => h) (Or.inl ⟨by rfl, ?_⟩) ((HVL.out _ (Le.refl V))) ?_
        rotate_left 1
        · (intro w hSw; (try dsimp only at hSw); go_simp; try with_reducible rfl)
        try simp only [Act.put, List.setIfInBounds_toArray, List.set_cons_zero, List.set_cons_succ]
        refine wpAnyZ_take (i := 19) (v := ?_) rfl (by kernel_rfl) (fun _ _ _ h => h) (Or.inl ⟨by rfl, ?_⟩) ((HVL.out _ (Le.refl V))) ?_
        rotate_left 1
        · (intro w hSw; (try dsimp only at hSw); go_simp; try with_reducible rfl)
        try simp only [Act.put, List.setIfInBounds_toArray, List.set_cons_zero, List.set_cons_succ]
        refine wpAnyZ_take (i := 20) (v := ?_) rfl (by kernel_rfl) (fun _ _ _ h => h) (Or.inl ⟨by rfl, ?_⟩) ((HVL.out _ (Le.refl V))) ?_
        rotate_left 1
        · (intro w hSw; (try dsimp only at hSw); go_simp; try with_reducible rfl)
        try simp only [Act.put, List.setIfInBounds_toArray, List.set_cons_zero, List.set_cons_succ]
        refine wpAnyZ_take (i := 22) (v := ?_) rfl (by kernel_rfl) (fun _ _ _ h => h) (Or.inl ⟨by rfl, ?_⟩) ((HVL.out _ (Le.refl V))) ?_
        rotate_left 1
        · (intro w hSw; (try dsimp only at hSw); go_simp; try with_reducible rfl)
        try simp only [Act.put, List.setIfInBounds_toArray, List.set_cons_zero, List.set_cons_succ]
        refine wpAnyZ_take (i := 23) (v := ?_) rfl (by kernel_rfl) (fun _ _ _ h => h) (Or.inl ⟨by rfl, ?_⟩) ((HVL.out _ (Le.refl V))) ?_
        rotate_left 1
        · (intro w hSw; (try dsimp only at hSw); go_simp; try with_reducible rfl)
        try simp only [Act.put, List.setIfInBounds_toArray, List.set_cons_zero, List.set_cons_succ]
        refine wpAnyZ_one (i := 18) (by kernel_rfl) (ReadyZ.mk rfl (fun K hK => ?_))
        go_simp
        have O0 := own_empty (w := V) (base := V.heap.size) (g := V.heap.size) (e := 3) (size := 1) (by omega) rfl
        have LV1 := Le.new V (.cells #[] 3)
        generalize V.alloc (.cells #[] 3) = V1 at *
        refine hK.out _ _ (fun _ => (HVL.out _ LV1)) ?_
        clear hK K
        try simp only [Act.put, List.setIfInBounds_toArray, List.set_cons_zero, List.set_cons_succ]
        refine wpAnyZ_one (i := 21) (by kernel_rfl) (ReadyZ.mk rfl (fun K hK => ?_))
        refine step_append_slG (by first | rfl | simp [Region.wanted, yielded]) (.tmp 125) (.tmp 127) 31 rfl V.heap.size 3 i0 _ 8 Try.underlying31 hq hz0 hz1 hz2 rfl _ 0 [] rfl O0 Ab0 lB.length qAb0 lB rfl (Sb.le LV1) (by unfold maxLen; omega) (by omega) LV1.size ?_
        intro v1 V2 O2 hg2 hbl2
        have LV2 := LV1.grown hg2 (fun kb hkb => (O0.lt kb hkb).1)
        obtain ⟨A8, c8, rfl⟩ := own_form O2
        clear hg2 hbl2 O0
        refine hK.out _ _ (fun _ => (HVL.out _ LV2)) ?_
        clear hK K
        try simp only [Act.put, List.setIfInBounds_toArray, List.set_cons_zero, List.set_cons_succ]
        refine wpAnyZ_one (i := 24) (by kernel_rfl) (ReadyZ.mk rfl (fun K hK => ?_))
        refine step_append_slG (by first | rfl | simp [Region.wanted, yielded]) (.tmp 128) (.tmp 130) 31 rfl V.heap.size 3 i0 _ 8 Try.underlying31 hq hz0 hz1 hz2 rfl _ (0 + lB.length) ([] ++ lB) rfl O2 Ag0 lC.length qAg0 lC rfl (Sg.le LV2) (by unfold maxLen; omega) (by omega) LV2.size ?_
        intro v3 V3 O3 hg3 hbl3
        have LV3 := LV2.grown hg3 (fun kb hkb => (O2.lt kb hkb).1)
        obtain ⟨A9, c9, rfl⟩ := own_form O3
        clear hg3 hbl3 O2
        refine hK.out _ _ (fun _ => (HVL.out _ LV3)) ?_
        clear hK K
        try simp only [Act.put, List.setIfInBounds_toArray, List.set_cons_zero, List.set_cons_succ]
        have hNN : 0 + lB.length + lC.length = lA.length := by rw [HLJ.out, List.length_append]; omega
        have hlj : ([] ++ lB) ++ lC = lA := by rw [HLJ.out]; rfl
        rw [hlj, hNN] at O3
        have S9 := Sl.of_own O3 rfl (by decide) (Sa.ok)
        rw [hNN]
        clear O3
        refine wpAnyZ_one (i := 25) (by kernel_rfl) (ReadyZ.mk rfl (fun K hK => ?_))
        go_simp
        go_at_call 19
        refine (equalInts_self _ _ _ _ _ lA _ (Sa.le LV3) S9).mono ?_
        rintro e V4 ⟨rfl, hle⟩
        have LV4 := LV3.trans hle
        have HEND := Lib.hid (HLD.out.trans LV4)
        refine hK.out _ _ (fun _ => (HVL.out _ LV4)) ?_
        clear hK K
        try simp only [Act.put, List.setIfInBounds_toArray, List.set_cons_zero, List.set_cons_succ]
        refine wpAnyZ_take (i := 26) (v := ?_) rfl (by kernel_rfl) (fun _ _ _ h => h) (Or.inl ⟨by rfl, ?_⟩) ((HVL.out _ LV4)) ?_
        rotate_left 1
        · (intro w hSw; (try dsimp only at hSw); go_simp; try with_reducible rfl)
        try simp only [Act.put, List.setIfInBounds_toArray, List.set_cons_zero, List.set_cons_succ]
        refine wpAnyZ_take (i := 27) (v := ?_) rfl (by kernel_rfl) (fun _ _ _ h => h) (Or.inl ⟨by rfl, ?_⟩) ((HVL.out _ LV4)) ?_
        rotate_left 1
        · (intro w hSw; (try dsimp only at hSw); go_simp; try with_reducible rfl)
        try simp only [Act.put, List.setIfInBounds_toArray, List.set_cons_zero, List.set_cons_succ]
        refine wpAnyZ_done (by kernel_rfl) ?_ _
        refine NoPanic.normal ?_
        clear hle VL
        go_wp2
        go_roundw
        case rel => exact ⟨z + 1, by omega, by omega, by go_num, HEND.out⟩
        case measure => (simp [intOf]) <;> omega
      · have h0b : decide ((0 : Int) ≤ z) = false := decide_eq_false h0
        obtain rfl : z = -1 := by omega
        have HCS : csv xs false 0 0 = true := rfl
        obtain ⟨ok1, ok2⟩ := csv_ok HCS hm8
        obtain ⟨m0, e0⟩ : ∃ m0, soF xs (ceE xs M false 0 0) (ceV xs M false 0 0) (ceH xs M false 0 0) = m0 := ⟨_, rfl⟩
        obtain ⟨m1, e1⟩ : ∃ m1, soC xs (ceE xs M false 0 0) (ceV xs M false 0 0) (ceH xs M false 0 0) = m1 := ⟨_, rfl⟩
        obtain ⟨m2, e2⟩ : ∃ m2, soK xs (ceE xs M false 0 0) (ceV xs M false 0 0) (ceH xs M false 0 0) = m2 := ⟨_, rfl⟩
        obtain ⟨j1, j2, j3, j4, j5, j6, j7, j8⟩ := join_ce HV.out HCS e0 e1 e2
        rw [HJ.out] at j1 j3 j5 j6 j7
        obtain ⟨x0, y0⟩ : ∃ x0, soF xs (ceE xs L m0 m1 m2) (ceV xs L m0 m1 m2) (ceH xs L m0 m1 m2) = x0 := ⟨_, rfl⟩
        obtain ⟨x1, y1⟩ : ∃ x1, soC xs (ceE xs L m0 m1 m2) (ceV xs L m0 m1 m2) (ceH xs L m0 m1 m2) = x1 := ⟨_, rfl⟩
        obtain ⟨x2, y2⟩ : ∃ x2, soK xs (ceE xs L m0 m1 m2) (ceV xs L m0 m1 m2) (ceH xs L m0 m1 m2) = x2 := ⟨_, rfl⟩
        rw [y0] at j5
        rw [y1] at j6
        rw [y2] at j7
        obtain ⟨ok3, ok4⟩ := csv_ok j8 hm8
        obtain ⟨lA, HLA⟩ : ∃ l, Hid (ceL xs J false 0 0 = l) := ⟨_, Lib.hid rfl⟩
        obtain ⟨hA, HHA⟩ : ∃ h, Hid (ceH xs J false 0 0 = h) := ⟨_, Lib.hid rfl⟩
        obtain ⟨enA, HEA⟩ : ∃ h, Hid (ceE xs J false 0 0 = h) := ⟨_, Lib.hid rfl⟩
        obtain ⟨vaA, HVA⟩ : ∃ h, Hid (ceV xs J false 0 0 = h) := ⟨_, Lib.hid rfl⟩
        obtain ⟨lB, HLB⟩ : ∃ l, Hid (ceL xs M false 0 0 = l) := ⟨_, Lib.hid rfl⟩
        obtain ⟨hB, HHB⟩ : ∃ h, Hid (ceH xs M false 0 0 = h) := ⟨_, Lib.hid rfl⟩
        obtain ⟨enB, HEB⟩ : ∃ h, Hid (ceE xs M false 0 0 = h) := ⟨_, Lib.hid rfl⟩
        obtain ⟨vaB, HVB⟩ : ∃ h, Hid (ceV xs M false 0 0 = h) := ⟨_, Lib.hid rfl⟩
        obtain ⟨lC, HLC⟩ : ∃ l, Hid (ceL xs L m0 m1 m2 = l) := ⟨_, Lib.hid rfl⟩
        obtain ⟨hC, HHC⟩ : ∃ h, Hid (ceH xs L m0 m1 m2 = h) := ⟨_, Lib.hid rfl⟩
        obtain ⟨enC, HEC⟩ : ∃ h, Hid (ceE xs L m0 m1 m2 = h) := ⟨_, Lib.hid rfl⟩
        obtain ⟨vaC, HVC⟩ : ∃ h, Hid (ceV xs L m0 m1 m2 = h) := ⟨_, Lib.hid rfl⟩
        have HCA : Hid (∀ w0, Sl w0 B xs.length c xs → Sl w0 A4 J.length c4 J → Calls Try.prog 10 #[.agg #[.slice B xs.length c], .slice A4 J.length c4, .agg #[.bool false, .int .i64 0, .int .i64 0]] w0 fun e w' => ∃ A0 q0 A1 q1, e = .returned (.agg #[.slice A0 lA.length q0, .int .i64 enA, .int .i64 vaA, .slice A1 hA.length q1]) ∧ Sl w' A0 lA.length q0 lA ∧ Sl w' A1 hA.length q1 hA ∧ Le w0 w') := fun w0 h1 h2 => by
          have h := Calls.ce (iCloseExits_any B A4 _ c _ c4 xs J false 0 0 ok1 ok2 w0 h1 h2)
          rw [HLA.out, HHA.out, HEA.out, HVA.out] at h
          exact h
        have HCB : Hid (∀ w0, Sl w0 B xs.length c xs → Sl w0 F M.length d2 M → Calls Try.prog 10 #[.agg #[.slice B xs.length c], .slice F M.length d2, .agg #[.bool false, .int .i64 0, .int .i64 0]] w0 fun e w' => ∃ A0 q0 A1 q1, e = .returned (.agg #[.slice A0 lB.length q0, .int .i64 enB, .int .i64 vaB, .slice A1 hB.length q1]) ∧ Sl w' A0 lB.length q0 lB ∧ Sl w' A1 hB.length q1 hB ∧ Le w0 w') := fun w0 h1 h2 => by
          have h := Calls.ce (iCloseExits_any B F _ c _ d2 xs M false 0 0 ok1 ok2 w0 h1 h2)
          rw [HLB.out, HHB.out, HEB.out, HVB.out] at h
          exact h
        have HCC : Hid (∀ w0, Sl w0 B xs.length c xs → Sl w0 D L.length d L → Calls Try.prog 10 #[.agg #[.slice B xs.length c], .slice D L.length d, .agg #[.bool m0, .int .i64 m1, .int .i64 m2]] w0 fun e w' => ∃ A0 q0 A1 q1, e = .returned (.agg #[.slice A0 lC.length q0, .int .i64 enC, .int .i64 vaC, .slice A1 hC.length q1]) ∧ Sl w' A0 lC.length q0 lC ∧ Sl w' A1 hC.length q1 hC ∧ Le w0 w') := fun w0 h1 h2 => by
          have h := Calls.ce (iCloseExits_any B D _ c _ d xs L m0 m1 m2 ok3 ok4 w0 h1 h2)
          rw [HLC.out, HHC.out, HEC.out, HVC.out] at h
          exact h
        have HSB : Hid (∀ w0 LA nl ql H ch, Sl w0 B xs.length c xs → Sl w0 H hB.length ch hB → Calls Try.prog 23 #[.agg #[.slice B xs.length c], .agg #[.slice LA nl ql, .int .i64 enB, .int .i64 vaB, .slice H hB.length ch]] w0 fun e w' => e = .returned (.tuple #[.agg #[.bool m0, .int .i64 m1, .int .i64 m2], .bool true]) ∧ Le w0 w') := fun w0 LA nl ql H ch h1 h2 =>
          Calls.soJ (by rw [← HEB.out, ← HVB.out, ← HHB.out]; exact e0) (by rw [← HEB.out, ← HVB.out, ← HHB.out]; exact j2) (by rw [← HEB.out, ← HVB.out, ← HHB.out]; exact e1) (by rw [← HEB.out, ← HVB.out, ← HHB.out]; exact e2) (iStartOf_any B LA H _ c nl ql _ ch xs enB vaB hB (by rw [← HHB.out]; exact ceH_len _ _ _ _ _) w0 h1 h2)
        have HSA : Hid (∀ w0 LA nl ql H ch, Sl w0 B xs.length c xs → Sl w0 H hA.length ch hA → Calls Try.prog 23 #[.agg #[.slice B xs.length c], .agg #[.slice LA nl ql, .int .i64 enA, .int .i64 vaA, .slice H hA.length ch]] w0 fun e w' => e = .returned (.tuple #[.agg #[.bool x0, .int .i64 x1, .int .i64 x2], .bool true]) ∧ Le w0 w') := fun w0 LA nl ql H ch h1 h2 =>
          Calls.soJ (by rw [← HEA.out, ← HVA.out, ← HHA.out]; exact j5) (by rw [← HEA.out, ← HVA.out, ← HHA.out]; exact j3) (by rw [← HEA.out, ← HVA.out, ← HHA.out]; exact j6) (by rw [← HEA.out, ← HVA.out, ← HHA.out]; exact j7) (iStartOf_any B LA H _ c nl ql _ ch xs enA vaA hA (by rw [← HHA.out]; exact ceH_len _ _ _ _ _) w0 h1 h2)
        have HSC : Hid (∀ w0 LA nl ql H ch, Sl w0 B xs.length c xs → Sl w0 H hC.length ch hC → Calls Try.prog 23 #[.agg #[.slice B xs.length c], .agg #[.slice LA nl ql, .int .i64 enC, .int .i64 vaC, .slice H hC.length ch]] w0 fun e w' => e = .returned (.tuple #[.agg #[.bool x0, .int .i64 x1, .int .i64 x2], .bool true]) ∧ Le w0 w') := fun w0 LA nl ql H ch h1 h2 =>
          Calls.soJ (by rw [← HEC.out, ← HVC.out, ← HHC.out]; exact y0) (by rw [← HEC.out, ← HVC.out, ← HHC.out]; exact j4) (by rw [← HEC.out, ← HVC.out, ← HHC.out]; exact y1) (by rw [← HEC.out, ← HVC.out, ← HHC.out]; exact y2) (iStartOf_any B LA H _ c nl ql _ ch xs enC vaC hC (by rw [← HHC.out]; exact ceH_len _ _ _ _ _) w0 h1 h2)
        have HLJ : Hid (lA = lB ++ lC) := by show _ = _; rw [← HLA.out, ← HLB.out, ← HLC.out]; exact j1
        have HNB : lB.length ≤ 1048576 := by rw [← HLB.out]; exact ceL_len _ _ _ _ _
        have HNC : lC.length ≤ 1048576 := by rw [← HLC.out]; exact ceL_len _ _ _ _ _
        clear HCS ok1 ok2 ok3 ok4 e0 e1 e2 j1 j2 j3 j4 j5 j6 j7 j8 y0 y1 y2 HLA HLB HLC HHA HHB HHC HEA HEB HEC HVA HVB HVC
        go_wp2_with fail
        obtain ⟨cs0, cs1, cs2, zs0, LX⟩ := boxT wr (.bool false) (.int .i64 0) (.int .i64 0) 28
        have zs1 := zs0
        have zs2 := zs0
        replace ct := (LX.cell zt).trans ct
        replace zt := Nat.lt_of_lt_of_le zt LX.size
        replace S := S.le LX
        replace L0 := L0.trans LX
        replace S2 := S2.le LX
        replace S3 := S3.le LX
        replace S4 := S4.le LX
        have HL1 := Lib.hid (HLE.out.trans LX)
        clear LX
        generalize wr.alloc (.cells #[.bool false, .int .i64 0, .int .i64 0] 28) = W6 at *
        refine (HCA.out W6 S S4).mono ?_
        rintro e u1 ⟨Aa0, qAa0, Aa1, qAa1, rfl, Sa, SH, hle⟩
        replace ct := (hle.cell zt).trans ct
        replace cs0 := (hle.cell zs0).trans cs0
        replace cs1 := (hle.cell zs1).trans cs1
        replace cs2 := (hle.cell zs2).trans cs2
        replace zt := Nat.lt_of_lt_of_le zt hle.size
        replace zs0 := Nat.lt_of_lt_of_le zs0 hle.size
        replace zs1 := Nat.lt_of_lt_of_le zs1 hle.size
        replace zs2 := Nat.lt_of_lt_of_le zs2 hle.size
        replace S := S.le hle
        replace L0 := L0.trans hle
        replace S2 := S2.le hle
        replace S3 := S3.le hle
        replace S4 := S4.le hle
        have HM1 := Lib.hid (HL1.out.trans hle)
        clear hle
        obtain ⟨ca0, ca1, ca2, ca3, za0, LR⟩ := boxRr u1 (.slice Aa0 lA.length qAa0) (.int .i64 enA) (.int .i64 vaA) (.slice Aa1 hA.length qAa1) 36
        have za1 := za0
        have za2 := za0
        have za3 := za0
        replace ct := (LR.cell zt).trans ct
        replace cs0 := (LR.cell zs0).trans cs0
        replace cs1 := (LR.cell zs1).trans cs1
        replace cs2 := (LR.cell zs2).trans cs2
        replace zt := Nat.lt_of_lt_of_le zt LR.size
        replace zs0 := Nat.lt_of_lt_of_le zs0 LR.size
        replace zs1 := Nat.lt_of_lt_of_le zs1 LR.size
        replace zs2 := Nat.lt_of_lt_of_le zs2 LR.size
        replace S := S.le LR
        replace L0 := L0.trans LR
        replace S2 := S2.le LR
        replace S3 := S3.le LR
        replace S4 := S4.le LR
        replace Sa := Sa.le LR
        replace SH := SH.le LR
        have HN1 := Lib.hid (HM1.out.trans LR)
        clear LR
        have SHa := SH
        clear SH
        go_wp2_with fail
        generalize u1.alloc (.cells #[.slice Aa0 lA.length qAa0, .int .i64 enA, .int .i64 vaA, .slice Aa1 hA.length qAa1] 36) = U1 at *
        refine (HCB.out U1 S S3).mono ?_
        rintro e u2 ⟨Ab0, qAb0, Ab1, qAb1, rfl, Sb, SH, hle⟩
        replace ct := (hle.cell zt).trans ct
        replace cs0 := (hle.cell zs0).trans cs0
        replace cs1 := (hle.cell zs1).trans cs1
        replace cs2 := (hle.cell zs2).trans cs2
        replace ca0 := (hle.cell za0).trans ca0
        replace ca1 := (hle.cell za1).trans ca1
        replace ca2 := (hle.cell za2).trans ca2
        replace ca3 := (hle.cell za3).trans ca3
        replace zt := Nat.lt_of_lt_of_le zt hle.size
        replace zs0 := Nat.lt_of_lt_of_le zs0 hle.size
        replace zs1 := Nat.lt_of_lt_of_le zs1 hle.size
        replace zs2 := Nat.lt_of_lt_of_le zs2 hle.size
        replace S := S.le hle
        replace L0 := L0.trans hle
        replace S2 := S2.le hle
        replace S3 := S3.le hle
        replace S4 := S4.le hle
        replace za0 := Nat.lt_of_lt_of_le za0 hle.size
        replace za1 := Nat.lt_of_lt_of_le za1 hle.size
        replace za2 := Nat.lt_of_lt_of_le za2 hle.size
        replace za3 := Nat.lt_of_lt_of_le za3 hle.size
        replace Sa := Sa.le hle
        replace SHa := SHa.le hle
        have HM2 := Lib.hid (HN1.out.trans hle)
        clear hle
        obtain ⟨cb0, cb1, cb2, cb3, zb0, LR⟩ := boxRr u2 (.slice Ab0 lB.length qAb0) (.int .i64 enB) (.int .i64 vaB) (.slice Ab1 hB.length qAb1) 36
        have zb1 := zb0
        have zb2 := zb0
        have zb3 := zb0
        replace ct := (LR.cell zt).trans ct
        replace cs0 := (LR.cell zs0).trans cs0
        replace cs1 := (LR.cell zs1).trans cs1
        replace cs2 := (LR.cell zs2).trans cs2
        replace ca0 := (LR.cell za0).trans ca0
        replace ca1 := (LR.cell za1).trans ca1
        replace ca2 := (LR.cell za2).trans ca2
        replace ca3 := (LR.cell za3).trans ca3
        replace zt := Nat.lt_of_lt_of_le zt LR.size
        replace zs0 := Nat.lt_of_lt_of_le zs0 LR.size
        replace zs1 := Nat.lt_of_lt_of_le zs1 LR.size
        replace zs2 := Nat.lt_of_lt_of_le zs2 LR.size
        replace S := S.le LR
        replace L0 := L0.trans LR
        replace S2 := S2.le LR
        replace S3 := S3.le LR
        replace S4 := S4.le LR
        replace za0 := Nat.lt_of_lt_of_le za0 LR.size
        replace za1 := Nat.lt_of_lt_of_le za1 LR.size
        replace za2 := Nat.lt_of_lt_of_le za2 LR.size
        replace za3 := Nat.lt_of_lt_of_le za3 LR.size
        replace Sa := Sa.le LR
        replace SHa := SHa.le LR
        replace Sb := Sb.le LR
        replace SH := SH.le LR
        have HN2 := Lib.hid (HM2.out.trans LR)
        clear LR
        have SHb := SH
        clear SH
        go_wp2_with fail
        generalize u2.alloc (.cells #[.slice Ab0 lB.length qAb0, .int .i64 enB, .int .i64 vaB, .slice Ab1 hB.length qAb1] 36) = U2 at *
        refine (HSB.out U2 Ab0 _ qAb0 Ab1 qAb1 S SHb).mono ?_
        rintro e u3 ⟨rfl, hle⟩
        replace ct := (hle.cell zt).trans ct
        replace cs0 := (hle.cell zs0).trans cs0
        replace cs1 := (hle.cell zs1).trans cs1
        replace cs2 := (hle.cell zs2).trans cs2
        replace ca0 := (hle.cell za0).trans ca0
        replace ca1 := (hle.cell za1).trans ca1
        replace ca2 := (hle.cell za2).trans ca2
        replace ca3 := (hle.cell za3).trans ca3
        replace cb0 := (hle.cell zb0).trans cb0
        replace cb1 := (hle.cell zb1).trans cb1
        replace cb2 := (hle.cell zb2).trans cb2
        replace cb3 := (hle.cell zb3).trans cb3
        replace zt := Nat.lt_of_lt_of_le zt hle.size
        replace zs0 := Nat.lt_of_lt_of_le zs0 hle.size
        replace zs1 := Nat.lt_of_lt_of_le zs1 hle.size
        replace zs2 := Nat.lt_of_lt_of_le zs2 hle.size
        replace S := S.le hle
        replace L0 := L0.trans hle
        replace S2 := S2.le hle
        replace S3 := S3.le hle
        replace S4 := S4.le hle
        replace za0 := Nat.lt_of_lt_of_le za0 hle.size
        replace za1 := Nat.lt_of_lt_of_le za1 hle.size
        replace za2 := Nat.lt_of_lt_of_le za2 hle.size
        replace za3 := Nat.lt_of_lt_of_le za3 hle.size
        replace Sa := Sa.le hle
        replace SHa := SHa.le hle
        replace zb0 := Nat.lt_of_lt_of_le zb0 hle.size
        replace zb1 := Nat.lt_of_lt_of_le zb1 hle.size
        replace zb2 := Nat.lt_of_lt_of_le zb2 hle.size
        replace zb3 := Nat.lt_of_lt_of_le zb3 hle.size
        replace Sb := Sb.le hle
        replace SHb := SHb.le hle
        have HM3 := Lib.hid (HN2.out.trans hle)
        clear hle
        obtain ⟨cm0, cm1, cm2, zm0, LX⟩ := boxT u3 (.bool m0) (.int .i64 m1) (.int .i64 m2) 28
        have zm1 := zm0
        have zm2 := zm0
        replace ct := (LX.cell zt).trans ct
        replace cs0 := (LX.cell zs0).trans cs0
        replace cs1 := (LX.cell zs1).trans cs1
        replace cs2 := (LX.cell zs2).trans cs2
        replace ca0 := (LX.cell za0).trans ca0
        replace ca1 := (LX.cell za1).trans ca1
        replace ca2 := (LX.cell za2).trans ca2
        replace ca3 := (LX.cell za3).trans ca3
        replace cb0 := (LX.cell zb0).trans cb0
        replace cb1 := (LX.cell zb1).trans cb1
        replace cb2 := (LX.cell zb2).trans cb2
        replace cb3 := (LX.cell zb3).trans cb3
        replace zt := Nat.lt_of_lt_of_le zt LX.size
        replace zs0 := Nat.lt_of_lt_of_le zs0 LX.size
        replace zs1 := Nat.lt_of_lt_of_le zs1 LX.size
        replace zs2 := Nat.lt_of_lt_of_le zs2 LX.size
        replace S := S.le LX
        replace L0 := L0.trans LX
        replace S2 := S2.le LX
        replace S3 := S3.le LX
        replace S4 := S4.le LX
        replace za0 := Nat.lt_of_lt_of_le za0 LX.size
        replace za1 := Nat.lt_of_lt_of_le za1 LX.size
        replace za2 := Nat.lt_of_lt_of_le za2 LX.size
        replace za3 := Nat.lt_of_lt_of_le za3 LX.size
        replace Sa := Sa.le LX
        replace SHa := SHa.le LX
        replace zb0 := Nat.lt_of_lt_of_le zb0 LX.size
        replace zb1 := Nat.lt_of_lt_of_le zb1 LX.size
        replace zb2 := Nat.lt_of_lt_of_le zb2 LX.size
        replace zb3 := Nat.lt_of_lt_of_le zb3 LX.size
        replace Sb := Sb.le LX
        replace SHb := SHb.le LX
        have HN3 := Lib.hid (HM3.out.trans LX)
        clear LX
        go_wp2_with fail
        generalize u3.alloc (.cells #[.bool m0, .int .i64 m1, .int .i64 m2] 28) = U3 at *
        refine (HCC.out U3 S S2).mono ?_
        rintro e u4 ⟨Ag0, qAg0, Ag1, qAg1, rfl, Sg, SH, hle⟩
        replace ct := (hle.cell zt).trans ct
        replace cs0 := (hle.cell zs0).trans cs0
        replace cs1 := (hle.cell zs1).trans cs1
        replace cs2 := (hle.cell zs2).trans cs2
        replace ca0 := (hle.cell za0).trans ca0
        replace ca1 := (hle.cell za1).trans ca1
        replace ca2 := (hle.cell za2).trans ca2
        replace ca3 := (hle.cell za3).trans ca3
        replace cb0 := (hle.cell zb0).trans cb0
        replace cb1 := (hle.cell zb1).trans cb1
        replace cb2 := (hle.cell zb2).trans cb2
        replace cb3 := (hle.cell zb3).trans cb3
        replace cm0 := (hle.cell zm0).trans cm0
        replace cm1 := (hle.cell zm1).trans cm1
        replace cm2 := (hle.cell zm2).trans cm2
        replace zt := Nat.lt_of_lt_of_le zt hle.size
        replace zs0 := Nat.lt_of_lt_of_le zs0 hle.size
        replace zs1 := Nat.lt_of_lt_of_le zs1 hle.size
        replace zs2 := Nat.lt_of_lt_of_le zs2 hle.size
        replace S := S.le hle
        replace L0 := L0.trans hle
        replace S2 := S2.le hle
        replace S3 := S3.le hle
        replace S4 := S4.le hle
        replace za0 := Nat.lt_of_lt_of_le za0 hle.size
        replace za1 := Nat.lt_of_lt_of_le za1 hle.size
        replace za2 := Nat.lt_of_lt_of_le za2 hle.size
        replace za3 := Nat.lt_of_lt_of_le za3 hle.size
        replace Sa := Sa.le hle
        replace SHa := SHa.le hle
        replace zb0 := Nat.lt_of_lt_of_le zb0 hle.size
        replace zb1 := Nat.lt_of_lt_of_le zb1 hle.size
        replace zb2 := Nat.lt_of_lt_of_le zb2 hle.size
        replace zb3 := Nat.lt_of_lt_of_le zb3 hle.size
        replace Sb := Sb.le hle
        replace SHb := SHb.le hle
        replace zm0 := Nat.lt_of_lt_of_le zm0 hle.size
        replace zm1 := Nat.lt_of_lt_of_le zm1 hle.size
        replace zm2 := Nat.lt_of_lt_of_le zm2 hle.size
        have HM4 := Lib.hid (HN3.out.trans hle)
        clear hle
        obtain ⟨cg0, cg1, cg2, cg3, zg0, LR⟩ := boxRr u4 (.slice Ag0 lC.length qAg0) (.int .i64 enC) (.int .i64 vaC) (.slice Ag1 hC.length qAg1) 36
        have zg1 := zg0
        have zg2 := zg0
        have zg3 := zg0
        replace ct := (LR.cell zt).trans ct
        replace cs0 := (LR.cell zs0).trans cs0
        replace cs1 := (LR.cell zs1).trans cs1
        replace cs2 := (LR.cell zs2).trans cs2
        replace ca0 := (LR.cell za0).trans ca0
        replace ca1 := (LR.cell za1).trans ca1
        replace ca2 := (LR.cell za2).trans ca2
        replace ca3 := (LR.cell za3).trans ca3
        replace cb0 := (LR.cell zb0).trans cb0
        replace cb1 := (LR.cell zb1).trans cb1
        replace cb2 := (LR.cell zb2).trans cb2
        replace cb3 := (LR.cell zb3).trans cb3
        replace cm0 := (LR.cell zm0).trans cm0
        replace cm1 := (LR.cell zm1).trans cm1
        replace cm2 := (LR.cell zm2).trans cm2
        replace zt := Nat.lt_of_lt_of_le zt LR.size
        replace zs0 := Nat.lt_of_lt_of_le zs0 LR.size
        replace zs1 := Nat.lt_of_lt_of_le zs1 LR.size
        replace zs2 := Nat.lt_of_lt_of_le zs2 LR.size
        replace S := S.le LR
        replace L0 := L0.trans LR
        replace S2 := S2.le LR
        replace S3 := S3.le LR
        replace S4 := S4.le LR
        replace za0 := Nat.lt_of_lt_of_le za0 LR.size
        replace za1 := Nat.lt_of_lt_of_le za1 LR.size
        replace za2 := Nat.lt_of_lt_of_le za2 LR.size
        replace za3 := Nat.lt_of_lt_of_le za3 LR.size
        replace Sa := Sa.le LR
        replace SHa := SHa.le LR
        replace zb0 := Nat.lt_of_lt_of_le zb0 LR.size
        replace zb1 := Nat.lt_of_lt_of_le zb1 LR.size
        replace zb2 := Nat.lt_of_lt_of_le zb2 LR.size
        replace zb3 := Nat.lt_of_lt_of_le zb3 LR.size
        replace Sb := Sb.le LR
        replace SHb := SHb.le LR
        replace zm0 := Nat.lt_of_lt_of_le zm0 LR.size
        replace zm1 := Nat.lt_of_lt_of_le zm1 LR.size
        replace zm2 := Nat.lt_of_lt_of_le zm2 LR.size
        replace Sg := Sg.le LR
        replace SH := SH.le LR
        have HN4 := Lib.hid (HM4.out.trans LR)
        clear LR
        have SHg := SH
        clear SH
        go_wp2_with fail
        generalize u4.alloc (.cells #[.slice Ag0 lC.length qAg0, .int .i64 enC, .int .i64 vaC, .slice Ag1 hC.length qAg1] 36) = U4 at *
        refine (HSA.out U4 Aa0 _ qAa0 Aa1 qAa1 S SHa).mono ?_
        rintro e u5 ⟨rfl, hle⟩
        replace ct := (hle.cell zt).trans ct
        replace cs0 := (hle.cell zs0).trans cs0
        replace cs1 := (hle.cell zs1).trans cs1
        replace cs2 := (hle.cell zs2).trans cs2
        replace ca0 := (hle.cell za0).trans ca0
        replace ca1 := (hle.cell za1).trans ca1
        replace ca2 := (hle.cell za2).trans ca2
        replace ca3 := (hle.cell za3).trans ca3
        replace cb0 := (hle.cell zb0).trans cb0
        replace cb1 := (hle.cell zb1).trans cb1
        replace cb2 := (hle.cell zb2).trans cb2
        replace cb3 := (hle.cell zb3).trans cb3
        replace cm0 := (hle.cell zm0).trans cm0
        replace cm1 := (hle.cell zm1).trans cm1
        replace cm2 := (hle.cell zm2).trans cm2
        replace cg0 := (hle.cell zg0).trans cg0
        replace cg1 := (hle.cell zg1).trans cg1
        replace cg2 := (hle.cell zg2).trans cg2
        replace cg3 := (hle.cell zg3).trans cg3
        replace zt := Nat.lt_of_lt_of_le zt hle.size
        replace zs0 := Nat.lt_of_lt_of_le zs0 hle.size
        replace zs1 := Nat.lt_of_lt_of_le zs1 hle.size
        replace zs2 := Nat.lt_of_lt_of_le zs2 hle.size
        replace S := S.le hle
        replace L0 := L0.trans hle
        replace S2 := S2.le hle
        replace S3 := S3.le hle
        replace S4 := S4.le hle
        replace za0 := Nat.lt_of_lt_of_le za0 hle.size
        replace za1 := Nat.lt_of_lt_of_le za1 hle.size
        replace za2 := Nat.lt_of_lt_of_le za2 hle.size
        replace za3 := Nat.lt_of_lt_of_le za3 hle.size
        replace Sa := Sa.le hle
        replace SHa := SHa.le hle
        replace zb0 := Nat.lt_of_lt_of_le zb0 hle.size
        replace zb1 := Nat.lt_of_lt_of_le zb1 hle.size
        replace zb2 := Nat.lt_of_lt_of_le zb2 hle.size
        replace zb3 := Nat.lt_of_lt_of_le zb3 hle.size
        replace Sb := Sb.le hle
        replace SHb := SHb.le hle
        replace zm0 := Nat.lt_of_lt_of_le zm0 hle.size
        replace zm1 := Nat.lt_of_lt_of_le zm1 hle.size
        replace zm2 := Nat.lt_of_lt_of_le zm2 hle.size
        replace zg0 := Nat.lt_of_lt_of_le zg0 hle.size
        replace zg1 := Nat.lt_of_lt_of_le zg1 hle.size
        replace zg2 := Nat.lt_of_lt_of_le zg2 hle.size
        replace zg3 := Nat.lt_of_lt_of_le zg3 hle.size
        replace Sg := Sg.le hle
        replace SHg := SHg.le hle
        have HM5 := Lib.hid (HN4.out.trans hle)
        clear hle
        obtain ⟨cx0, cx1, cx2, zx0, LX⟩ := boxT u5 (.bool x0) (.int .i64 x1) (.int .i64 x2) 28
        have zx1 := zx0
        have zx2 := zx0
        replace ct := (LX.cell zt).trans ct
        replace cs0 := (LX.cell zs0).trans cs0
        replace cs1 := (LX.cell zs1).trans cs1
        replace cs2 := (LX.cell zs2).trans cs2
        replace ca0 := (LX.cell za0).trans ca0
        replace ca1 := (LX.cell za1).trans ca1
        replace ca2 := (LX.cell za2).trans ca2
        replace ca3 := (LX.cell za3).trans ca3
        replace cb0 := (LX.cell zb0).trans cb0
        replace cb1 := (LX.cell zb1).trans cb1
        replace cb2 := (LX.cell zb2).trans cb2
        replace cb3 := (LX.cell zb3).trans cb3
        replace cm0 := (LX.cell zm0).trans cm0
        replace cm1 := (LX.cell zm1).trans cm1
        replace cm2 := (LX.cell zm2).trans cm2
        replace cg0 := (LX.cell zg0).trans cg0
        replace cg1 := (LX.cell zg1).trans cg1
        replace cg2 := (LX.cell zg2).trans cg2
        replace cg3 := (LX.cell zg3).trans cg3
        replace zt := Nat.lt_of_lt_of_le zt LX.size
        replace zs0 := Nat.lt_of_lt_of_le zs0 LX.size
        replace zs1 := Nat.lt_of_lt_of_le zs1 LX.size
        replace zs2 := Nat.lt_of_lt_of_le zs2 LX.size
        replace S := S.le LX
        replace L0 := L0.trans LX
        replace S2 := S2.le LX
        replace S3 := S3.le LX
        replace S4 := S4.le LX
        replace za0 := Nat.lt_of_lt_of_le za0 LX.size
        replace za1 := Nat.lt_of_lt_of_le za1 LX.size
        replace za2 := Nat.lt_of_lt_of_le za2 LX.size
        replace za3 := Nat.lt_of_lt_of_le za3 LX.size
        replace Sa := Sa.le LX
        replace SHa := SHa.le LX
        replace zb0 := Nat.lt_of_lt_of_le zb0 LX.size
        replace zb1 := Nat.lt_of_lt_of_le zb1 LX.size
        replace zb2 := Nat.lt_of_lt_of_le zb2 LX.size
        replace zb3 := Nat.lt_of_lt_of_le zb3 LX.size
        replace Sb := Sb.le LX
        replace SHb := SHb.le LX
        replace zm0 := Nat.lt_of_lt_of_le zm0 LX.size
        replace zm1 := Nat.lt_of_lt_of_le zm1 LX.size
        replace zm2 := Nat.lt_of_lt_of_le zm2 LX.size
        replace zg0 := Nat.lt_of_lt_of_le zg0 LX.size
        replace zg1 := Nat.lt_of_lt_of_le zg1 LX.size
        replace zg2 := Nat.lt_of_lt_of_le zg2 LX.size
        replace zg3 := Nat.lt_of_lt_of_le zg3 LX.size
        replace Sg := Sg.le LX
        replace SHg := SHg.le LX
        have HN5 := Lib.hid (HM5.out.trans LX)
        clear LX
        go_wp2_with fail
        generalize u5.alloc (.cells #[.bool x0, .int .i64 x1, .int .i64 x2] 28) = U5 at *
        refine (HSC.out U5 Ag0 _ qAg0 Ag1 qAg1 S SHg).mono ?_
        rintro e u6 ⟨rfl, hle⟩
        replace ct := (hle.cell zt).trans ct
        replace cs0 := (hle.cell zs0).trans cs0
        replace cs1 := (hle.cell zs1).trans cs1
        replace cs2 := (hle.cell zs2).trans cs2
        replace ca0 := (hle.cell za0).trans ca0
        replace ca1 := (hle.cell za1).trans ca1
        replace ca2 := (hle.cell za2).trans ca2
        replace ca3 := (hle.cell za3).trans ca3
        replace cb0 := (hle.cell zb0).trans cb0
        replace cb1 := (hle.cell zb1).trans cb1
        replace cb2 := (hle.cell zb2).trans cb2
        replace cb3 := (hle.cell zb3).trans cb3
        replace cm0 := (hle.cell zm0).trans cm0
        replace cm1 := (hle.cell zm1).trans cm1
        replace cm2 := (hle.cell zm2).trans cm2
        replace cg0 := (hle.cell zg0).trans cg0
        replace cg1 := (hle.cell zg1).trans cg1
        replace cg2 := (hle.cell zg2).trans cg2
        replace cg3 := (hle.cell zg3).trans cg3
        replace cx0 := (hle.cell zx0).trans cx0
        replace cx1 := (hle.cell zx1).trans cx1
        replace cx2 := (hle.cell zx2).trans cx2
        replace zt := Nat.lt_of_lt_of_le zt hle.size
        replace zs0 := Nat.lt_of_lt_of_le zs0 hle.size
        replace zs1 := Nat.lt_of_lt_of_le zs1 hle.size
        replace zs2 := Nat.lt_of_lt_of_le zs2 hle.size
        replace S := S.le hle
        replace L0 := L0.trans hle
        replace S2 := S2.le hle
        replace S3 := S3.le hle
        replace S4 := S4.le hle
        replace za0 := Nat.lt_of_lt_of_le za0 hle.size
        replace za1 := Nat.lt_of_lt_of_le za1 hle.size
        replace za2 := Nat.lt_of_lt_of_le za2 hle.size
        replace za3 := Nat.lt_of_lt_of_le za3 hle.size
        replace Sa := Sa.le hle
        replace SHa := SHa.le hle
        replace zb0 := Nat.lt_of_lt_of_le zb0 hle.size
        replace zb1 := Nat.lt_of_lt_of_le zb1 hle.size
        replace zb2 := Nat.lt_of_lt_of_le zb2 hle.size
        replace zb3 := Nat.lt_of_lt_of_le zb3 hle.size
        replace Sb := Sb.le hle
        replace SHb := SHb.le hle
        replace zm0 := Nat.lt_of_lt_of_le zm0 hle.size
        replace zm1 := Nat.lt_of_lt_of_le zm1 hle.size
        replace zm2 := Nat.lt_of_lt_of_le zm2 hle.size
        replace zg0 := Nat.lt_of_lt_of_le zg0 hle.size
        replace zg1 := Nat.lt_of_lt_of_le zg1 hle.size
        replace zg2 := Nat.lt_of_lt_of_le zg2 hle.size
        replace zg3 := Nat.lt_of_lt_of_le zg3 hle.size
        replace Sg := Sg.le hle
        replace SHg := SHg.le hle
        replace zx0 := Nat.lt_of_lt_of_le zx0 hle.size
        replace zx1 := Nat.lt_of_lt_of_le zx1 hle.size
        replace zx2 := Nat.lt_of_lt_of_le zx2 hle.size
        have HM6 := Lib.hid (HN5.out.trans hle)
        clear hle
        obtain ⟨cy0, cy1, cy2, zy0, LX⟩ := boxT u6 (.bool x0) (.int .i64 x1) (.int .i64 x2) 28
        have zy1 := zy0
        have zy2 := zy0
        replace ct := (LX.cell zt).trans ct
        replace cs0 := (LX.cell zs0).trans cs0
        replace cs1 := (LX.cell zs1).trans cs1
        replace cs2 := (LX.cell zs2).trans cs2
        replace ca0 := (LX.cell za0).trans ca0
        replace ca1 := (LX.cell za1).trans ca1
        replace ca2 := (LX.cell za2).trans ca2
        replace ca3 := (LX.cell za3).trans ca3
        replace cb0 := (LX.cell zb0).trans cb0
        replace cb1 := (LX.cell zb1).trans cb1
        replace cb2 := (LX.cell zb2).trans cb2
        replace cb3 := (LX.cell zb3).trans cb3
        replace cm0 := (LX.cell zm0).trans cm0
        replace cm1 := (LX.cell zm1).trans cm1
        replace cm2 := (LX.cell zm2).trans cm2
        replace cg0 := (LX.cell zg0).trans cg0
        replace cg1 := (LX.cell zg1).trans cg1
        replace cg2 := (LX.cell zg2).trans cg2
        replace cg3 := (LX.cell zg3).trans cg3
        replace cx0 := (LX.cell zx0).trans cx0
        replace cx1 := (LX.cell zx1).trans cx1
        replace cx2 := (LX.cell zx2).trans cx2
        replace zt := Nat.lt_of_lt_of_le zt LX.size
        replace zs0 := Nat.lt_of_lt_of_le zs0 LX.size
        replace zs1 := Nat.lt_of_lt_of_le zs1 LX.size
        replace zs2 := Nat.lt_of_lt_of_le zs2 LX.size
        replace S := S.le LX
        replace L0 := L0.trans LX
        replace S2 := S2.le LX
        replace S3 := S3.le LX
        replace S4 := S4.le LX
        replace za0 := Nat.lt_of_lt_of_le za0 LX.size
        replace za1 := Nat.lt_of_lt_of_le za1 LX.size
        replace za2 := Nat.lt_of_lt_of_le za2 LX.size
        replace za3 := Nat.lt_of_lt_of_le za3 LX.size
        replace Sa := Sa.le LX
        replace SHa := SHa.le LX
        replace zb0 := Nat.lt_of_lt_of_le zb0 LX.size
        replace zb1 := Nat.lt_of_lt_of_le zb1 LX.size
        replace zb2 := Nat.lt_of_lt_of_le zb2 LX.size
        replace zb3 := Nat.lt_of_lt_of_le zb3 LX.size
        replace Sb := Sb.le LX
        replace SHb := SHb.le LX
        replace zm0 := Nat.lt_of_lt_of_le zm0 LX.size
        replace zm1 := Nat.lt_of_lt_of_le zm1 LX.size
        replace zm2 := Nat.lt_of_lt_of_le zm2 LX.size
        replace zg0 := Nat.lt_of_lt_of_le zg0 LX.size
        replace zg1 := Nat.lt_of_lt_of_le zg1 LX.size
        replace zg2 := Nat.lt_of_lt_of_le zg2 LX.size
        replace zg3 := Nat.lt_of_lt_of_le zg3 LX.size
        replace Sg := Sg.le LX
        replace SHg := SHg.le LX
        replace zx0 := Nat.lt_of_lt_of_le zx0 LX.size
        replace zx1 := Nat.lt_of_lt_of_le zx1 LX.size
        replace zx2 := Nat.lt_of_lt_of_le zx2 LX.size
        have HN6 := Lib.hid (HM6.out.trans LX)
        clear LX
        have hxe : (x1 == x1) = true := by simp
        have hxf : (x2 == x2) = true := by simp
        have hxg : (x0 == x0) = true := by simp
        have hxn : (x1 != x1) = false := by simp
        have hxo : (x2 != x2) = false := by simp
        have hxp : (x0 != x0) = false := by simp
        go_wp2_with fail
        generalize u6.alloc (.cells #[.bool x0, .int .i64 x1, .int .i64 x2] 28) = U6 at *
        clear HCA HCB HCC HSA HSB HSC SHa SHb SHg S2 S3 S4 S cs0 cs1 cs2 ca1 ca2 ca3 cb1 cb2 cb3 cg1 cg2 cg3 cm0 cm1 cm2
        have HLD := Lib.hid (HN6.out.drew)
        replace ct := (show U6.drew.cell? _ = _ from ct)
        replace zt := (show _ < U6.drew.heap.size from zt)
        replace ca0 := (show U6.drew.cell? _ = _ from ca0)
        replace za0 := (show _ < U6.drew.heap.size from za0)
        replace cb0 := (show U6.drew.cell? _ = _ from cb0)
        replace zb0 := (show _ < U6.drew.heap.size from zb0)
        replace cg0 := (show U6.drew.cell? _ = _ from cg0)
        replace zg0 := (show _ < U6.drew.heap.size from zg0)
        replace cx0 := (show U6.drew.cell? _ = _ from cx0)
        replace zx0 := (show _ < U6.drew.heap.size from zx0)
        replace cx1 := (show U6.drew.cell? _ = _ from cx1)
        replace zx1 := (show _ < U6.drew.heap.size from zx1)
        replace cx2 := (show U6.drew.cell? _ = _ from cx2)
        replace zx2 := (show _ < U6.drew.heap.size from zx2)
        replace cy0 := (show U6.drew.cell? _ = _ from cy0)
        replace zy0 := (show _ < U6.drew.heap.size from zy0)
        replace cy1 := (show U6.drew.cell? _ = _ from cy1)
        replace zy1 := (show _ < U6.drew.heap.size from zy1)
        replace cy2 := (show U6.drew.cell? _ = _ from cy2)
        replace zy2 := (show _ < U6.drew.heap.size from zy2)
        replace L0 := L0.drew
        replace Sa := Sa.le (Le.refl _).drew
        replace Sb := Sb.le (Le.refl _).drew
        replace Sg := Sg.le (Le.refl _).drew
        refine wp_region_noPanic ?_
        refine wp_region_Z (fun w' => w'.cell? ⟨u5.heap.size, 0, none⟩ = some (.bool x0) ∧ w'.cell? ⟨u5.heap.size, 1, none⟩ = some (.int .i64 x1) ∧ w'.cell? ⟨u5.heap.size, 2, none⟩ = some (.int .i64 x2) ∧ w'.cell? ⟨u6.heap.size, 0, none⟩ = some (.bool x0) ∧ w'.cell? ⟨u6.heap.size, 1, none⟩ = some (.int .i64 x1) ∧ w'.cell? ⟨u6.heap.size, 2, none⟩ = some (.int .i64 x2) ∧ w'.cell? ⟨u1.heap.size, 0, none⟩ = some (.slice Aa0 lA.length qAa0) ∧ w'.cell? ⟨u2.heap.size, 0, none⟩ = some (.slice Ab0 lB.length qAb0) ∧ w'.cell? ⟨u4.heap.size, 0, none⟩ = some (.slice Ag0 lC.length qAg0)) [] (by kernel_rfl) ?_
        generalize U6.drew = V at *
        have VL : ∀ (W : World), Le V W → _ := fun W (LV : Le V W) => (⟨(LV.cell zx0).trans cx0, (LV.cell zx1).trans cx1, (LV.cell zx2).trans cx2, (LV.cell zy0).trans cy0, (LV.cell zy1).trans cy1, (LV.cell zy2).trans cy2, (LV.cell za0).trans ca0, (LV.cell zb0).trans cb0, (LV.cell zg0).trans cg0⟩ : W.cell? ⟨u5.heap.size, 0, none⟩ = some (.bool x0) ∧ W.cell? ⟨u5.heap.size, 1, none⟩ = some (.int .i64 x1) ∧ W.cell? ⟨u5.heap.size, 2, none⟩ = some (.int .i64 x2) ∧ W.cell? ⟨u6.heap.size, 0, none⟩ = some (.bool x0) ∧ W.cell? ⟨u6.heap.size, 1, none⟩ = some (.int .i64 x1) ∧ W.cell? ⟨u6.heap.size, 2, none⟩ = some (.int .i64 x2) ∧ W.cell? ⟨u1.heap.size, 0, none⟩ = some (.slice Aa0 lA.length qAa0) ∧ W.cell? ⟨u2.heap.size, 0, none⟩ = some (.slice Ab0 lB.length qAb0) ∧ W.cell? ⟨u4.heap.size, 0, none⟩ = some (.slice Ag0 lC.length qAg0))
        have HVL := Lib.hid VL
        refine wpAnyZ_take (i := 0) (v := ?_) rfl (by kernel_rfl) (fun _ _ _ h => h) (Or.inl ⟨by rfl, ?_⟩) ((HVL.out _ (Le.refl V))) ?_
        rotate_left 1
        · (intro w hSw; (try dsimp only at hSw); go_simp; try with_reducible rfl)
        try simp only [Act.put, List.setIfInBounds_toArray, List.set_cons_zero, List.set_cons_succ]
        refine wpAnyZ_take (i := 1) (v := ?_) rfl (by kernel_rfl) (fun _ _ _ h => h) (Or.inl ⟨by rfl, ?_⟩) ((HVL.out _ (Le.refl V))) ?_
        rotate_left 1
        · (intro w hSw; (try dsimp only at hSw); go_simp; try with_reducible rfl)
        try simp only [Act.put, List.setIfInBounds_toArray, List.set_cons_zero, List.set_cons_succ]
        refine wpAnyZ_take (i := 2) (v := ?_) rfl (by kernel_rfl) (fun _ _ _ h => h) (Or.inl ⟨by rfl, ?_⟩) ((HVL.out _ (Le.refl V))) ?_
        rotate_left 1
        · (intro w hSw; (try dsimp only at hSw); go_simp; try with_reducible rfl)
        try simp only [Act.put, List.setIfInBounds_toArray, List.set_cons_zero, List.set_cons_succ]
        refine wpAnyZ_take (i := 3) (v := ?_) rfl (by kernel_rfl) (fun _ _ _ h => h) (Or.inl ⟨by rfl, ?_⟩) ((HVL.out _ (Le.refl V))) ?_
        rotate_left 1
        · (intro w hSw; (try dsimp only at hSw); go_simp; try with_reducible rfl)
        try simp only [Act.put, List.setIfInBounds_toArray, List.set_cons_zero, List.set_cons_succ]
        refine wpAnyZ_take (i := 4) (v := ?_) rfl (by kernel_rfl) (fun _ _ _ h => h) (Or.inl ⟨by rfl, ?_⟩) ((HVL.out _ (Le.refl V))) ?_
        rotate_left 1
        · (intro w hSw; (try dsimp only at hSw); go_simp; try with_reducible rfl)
        try simp only [Act.put, List.setIfInBounds_toArray, List.set_cons_zero, List.set_cons_succ]
        refine wpAnyZ_take (i := 5) (v := ?_) rfl (by kernel_rfl) (fun _ _ _ h => h) (Or.inl ⟨by rfl, ?_⟩) ((HVL.out _ (Le.refl V))) ?_
        rotate_left 1
        · (intro w hSw; (try dsimp only at hSw); go_simp; try with_reducible rfl)
        try simp only [Act.put, List.setIfInBounds_toArray, List.set_cons_zero, List.set_cons_succ]
        refine wpAnyZ_take (i := 6) (v := ?_) rfl (by kernel_rfl) (fun _ _ _ h => h) (Or.inl ⟨by rfl, ?_⟩) ((HVL.out _ (Le.refl V))) ?_
        rotate_left 1
        · (intro w hSw; (try dsimp only at hSw); go_simp; try with_reducible rfl)
        try simp only [Act.put, List.setIfInBounds_toArray, List.set_cons_zero, List.set_cons_succ]
        refine wpAnyZ_take (i := 7) (v := ?_) rfl (by kernel_rfl) (fun _ _ _ h => h) (Or.inl ⟨by rfl, ?_⟩) ((HVL.out _ (Le.refl V))) ?_
        rotate_left 1
        · (intro w hSw; (try dsimp only at hSw); go_simp; try with_reducible rfl)
        try simp only [Act.put, List.setIfInBounds_toArray, List.set_cons_zero, List.set_cons_succ]
        refine wpAnyZ_take (i := 8) (v := ?_) rfl (by kernel_rfl) (fun _ _ _ h => h) (Or.inl ⟨by rfl, ?_⟩) ((HVL.out _ (Le.refl V))) ?_
        rotate_left 1
        · (intro w hSw; (try dsimp only at hSw); go_simp; try with_reducible rfl)
        try simp only [Act.put, List.setIfInBounds_toArray, List.set_cons_zero, List.set_cons_succ]
        refine wpAnyZ_take (i := 9) (v := ?_) rfl (by kernel_rfl) (fun _ _ _ h => h) (Or.inl ⟨by rfl, ?_⟩) ((HVL.out _ (Le.refl V))) ?_
        rotate_left 1
        · (intro w hSw; (try dsimp only at hSw); go_simp; try with_reducible rfl)
        try simp only [Act.put, List.setIfInBounds_toArray, List.set_cons_zero, List.set_cons_succ]
        refine wpAnyZ_take (i := 10) (v := ?_) rfl (by kernel_rfl) (fun _ _ _ h => h) (Or.inl ⟨by rfl, ?_⟩) ((HVL.out _ (Le.refl V))) ?_
        rotate_left 1
        · (intro w hSw; (try dsimp only at hSw); go_simp; try with_reducible rfl)
        try simp only [Act.put, List.setIfInBounds_toArray, List.set_cons_zero, List.set_cons_succ]
        refine wpAnyZ_take (i := 11) (v := ?_) rfl (by kernel_rfl) (fun _ _ _ h => h) (Or.inl ⟨by rfl, ?_⟩) ((HVL.out _ (Le.refl V))) ?_
        rotate_left 1
        · (intro w hSw; (try dsimp only at hSw); go_simp; try with_reducible rfl)
        try simp only [Act.put, List.setIfInBounds_toArray, List.set_cons_zero, List.set_cons_succ]
        refine wpAnyZ_take (i := 12) (v := ?_) rfl (by kernel_rfl) (fun _ _ _ h => h) (Or.inl ⟨by rfl, ?_⟩) ((HVL.out _ (Le.refl V))) ?_
        rotate_left 1
        · (intro w hSw; (try dsimp only at hSw); go_simp; try with_reducible rfl)
        try simp only [Act.put, List.setIfInBounds_toArray, List.set_cons_zero, List.set_cons_succ]
        refine wpAnyZ_take (i := 13) (v := ?_) rfl (by kernel_rfl) (fun _ _ _ h => h) (Or.inl ⟨by rfl, ?_⟩) ((HVL.out _ (Le.refl V))) ?_
        rotate_left 1
        · (intro w hSw; (try dsimp only at hSw); go_simp; try with_reducible rfl)
        try simp only [Act.put, List.setIfInBounds_toArray, List.set_cons_zero, List.set_cons_succ]
        refine wpAnyZ_take (i := 14) (v := ?_) rfl (by kernel_rfl) (fun _ _ _ h => h) (Or.inl ⟨by rfl, ?_⟩) ((HVL.out _ (Le.refl V))) ?_
        rotate_left 1
        · (intro w hSw; (try dsimp only at hSw); go_simp; try with_reducible rfl)
        try simp only [Act.put, List.setIfInBounds_toArray, List.set_cons_zero, List.set_cons_succ]
        refine wpAnyZ_take (i := 15) (v := ?_) rfl (by kernel_rfl) (fun _ _ _ h => h) (Or.inl ⟨by rfl, ?_⟩) ((HVL.out _ (Le.refl V))) ?_
        rotate_left 1
        · (intro w hSw; (try dsimp only at hSw); go_simp; try with_reducible rfl)
        try simp only [Act.put, List.setIfInBounds_toArray, List.set_cons_zero, List.set_cons_succ]
        refine wpAnyZ_take (i := 16) (v := ?_) rfl (by kernel_rfl) (fun _ _ _ h => h) (Or.inl ⟨by rfl, ?_⟩) ((HVL.out _ (Le.refl V))) ?_
        rotate_left 1
        · (intro w hSw; (try dsimp only at hSw); go_simp; try with_reducible rfl)
        try simp only [Act.put, List.setIfInBounds_toArray, List.set_cons_zero, List.set_cons_succ]
        refine wpAnyZ_take (i := 17) (v := ?_) rfl (by kernel_rfl) (fun _ _ _ h => h) (Or.inl ⟨by rfl, ?_⟩) ((HVL.out _ (Le.refl V))) ?_
        rotate_left 1
        · (intro w hSw; (try dsimp only at hSw); go_simp; try with_reducible rfl)
        try simp only [Act.put, List.setIfInBounds_toArray, List.set_cons_zero, List.set_cons_succ]
        refine wpAnyZ_take (i := 19) (v := ?_) rfl (by kernel_rfl) (fun _ _ _ h => h) (Or.inl ⟨by rfl, ?_⟩) ((HVL.out _ (Le.refl V))) ?_
        rotate_left 1
        · (intro w hSw; (try dsimp only at hSw); go_simp; try with_reducible rfl)
        try simp only [Act.put, List.setIfInBounds_toArray, List.set_cons_zero, List.set_cons_succ]
        refine wpAnyZ_take (i := 20) (v := ?_) rfl (by kernel_rfl) (fun _ _ _ h => h) (Or.inl ⟨by rfl, ?_⟩) ((HVL.out _ (Le.refl V))) ?_
        rotate_left 1
        · (intro w hSw; (try dsimp only at hSw); go_simp; try with_reducible rfl)
        try simp only [Act.put, List.setIfInBounds_toArray, List.set_cons_zero, List.set_cons_succ]
        refine wpAnyZ_take (i := 22) (v := ?_) rfl (by kernel_rfl) (fun _ _ _ h => h) (Or.inl ⟨by rfl, ?_⟩) ((HVL.out _ (Le.refl V))) ?_
        rotate_left 1
        · (intro w hSw; (try dsimp only at hSw); go_simp; try with_reducible rfl)
        try simp only [Act.put, List.setIfInBounds_toArray, List.set_cons_zero, List.set_cons_succ]
        refine wpAnyZ_take (i := 23) (v := ?_) rfl (by kernel_rfl) (fun _ _ _ h => h) (Or.inl ⟨by rfl, ?_⟩) ((HVL.out _ (Le.refl V))) ?_
        rotate_left 1
        · (intro w hSw; (try dsimp only at hSw); go_simp; try with_reducible rfl)
        try simp only [Act.put, List.setIfInBounds_toArray, List.set_cons_zero, List.set_cons_succ]
        refine wpAnyZ_one (i := 18) (by kernel_rfl) (ReadyZ.mk rfl (fun K hK => ?_))
        go_simp
        have O0 := own_empty (w := V) (base := V.heap.size) (g := V.heap.size) (e := 3) (size := 1) (by omega) rfl
        have LV1 := Le.new V (.cells #[] 3)
        generalize V.alloc (.cells #[] 3) = V1 at *
        refine hK.out _ _ (fun _ => (HVL.out _ LV1)) ?_
        clear hK K
        try simp only [Act.put, List.setIfInBounds_toArray, List.set_cons_zero, List.set_cons_succ]
        refine wpAnyZ_one (i := 21) (by kernel_rfl) (ReadyZ.mk rfl (fun K hK => ?_))
        refine step_append_slG (by first | rfl | simp [Region.wanted, yielded]) (.tmp 125) (.tmp 127) 31 rfl V.heap.size 3 i0 _ 8 Try.underlying31 hq hz0 hz1 hz2 rfl _ 0 [] rfl O0 Ab0 lB.length qAb0 lB rfl (Sb.le LV1) (by unfold maxLen; omega) (by omega) LV1.size ?_
        intro v1 V2 O2 hg2 hbl2
        have LV2 := LV1.grown hg2 (fun kb hkb => (O0.lt kb hkb).1)
        obtain ⟨A8, c8, rfl⟩ := own_form O2
        clear hg2 hbl2 O0
        refine hK.out _ _ (fun _ => (HVL.out _ LV2)) ?_
        clear hK K
        try simp only [Act.put, List.setIfInBounds_toArray, List.set_cons_zero, List.set_cons_succ]
        refine wpAnyZ_one (i := 24) (by kernel_rfl) (ReadyZ.mk rfl (fun K hK => ?_))
        refine step_append_slG (by first | rfl | simp [Region.wanted, yielded]) (.tmp 128) (.tmp 130) 31 rfl V.heap.size 3 i0 _ 8 Try.underlying31 hq hz0 hz1 hz2 rfl _ (0 + lB.length) ([] ++ lB) rfl O2 Ag0 lC.length qAg0 lC rfl (Sg.le LV2) (by unfold maxLen; omega) (by omega) LV2.size ?_
        intro v3 V3 O3 hg3 hbl3
        have LV3 := LV2.grown hg3 (fun kb hkb => (O2.lt kb hkb).1)
        obtain ⟨A9, c9, rfl⟩ := own_form O3
        clear hg3 hbl3 O2
        refine hK.out _ _ (fun _ => (HVL.out _ LV3)) ?_
        clear hK K
        try simp only [Act.put, List.setIfInBounds_toArray, List.set_cons_zero, List.set_cons_succ]
        have hNN : 0 + lB.length + lC.length = lA.length := by rw [HLJ.out, List.length_append]; omega
        have hlj : ([] ++ lB) ++ lC = lA := by rw [HLJ.out]; rfl
        rw [hlj, hNN] at O3
        have S9 := Sl.of_own O3 rfl (by decide) (Sa.ok)
        rw [hNN]
        clear O3
        refine wpAnyZ_one (i := 25) (by kernel_rfl) (ReadyZ.mk rfl (fun K hK => ?_))
        go_simp
        go_at_call 19
        refine (equalInts_self _ _ _ _ _ lA _ (Sa.le LV3) S9).mono ?_
        rintro e V4 ⟨rfl, hle⟩
        have LV4 := LV3.trans hle
        have HEND := Lib.hid (HLD.out.trans LV4)
        refine hK.out _ _ (fun _ => (HVL.out _ LV4)) ?_
        clear hK K
        try simp only [Act.put, List.setIfInBounds_toArray, List.set_cons_zero, List.set_cons_succ]
        refine wpAnyZ_take (i := 26) (v := ?_) rfl (by kernel_rfl) (fun _ _ _ h => h) (Or.inl ⟨by rfl, ?_⟩) ((HVL.out _ LV4)) ?_
        rotate_left 1
        · (intro w hSw; (try dsimp only at hSw); go_simp; try with_reducible rfl)
        try simp only [Act.put, List.setIfInBounds_toArray, List.set_cons_zero, List.set_cons_succ]
        refine wpAnyZ_take (i := 27) (v := ?_) rfl (by kernel_rfl) (fun _ _ _ h => h) (Or.inl ⟨by rfl, ?_⟩) ((HVL.out _ LV4)) ?_
        rotate_left 1
        · (intro w hSw; (try dsimp only at hSw); go_simp; try with_reducible rfl)
        try simp only [Act.put, List.setIfInBounds_toArray, List.set_cons_zero, List.set_cons_succ]
        refine wpAnyZ_done (by kernel_rfl) ?_ _
        refine NoPanic.normal ?_
        clear hle VL
        go_wp2
        go_roundw
        case rel => exact ⟨0, by omega, by omega, by go_num, HEND.out⟩
        case measure => (simp [intOf]) <;> omega
    · go_wp2
      go_ret
      exact ⟨rfl, L0⟩
end Go.Proofs.Ytonpgohigncjeaa
