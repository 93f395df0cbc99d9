/- one text of LvQ, LRe, LvI, PAn, Y, CC, HA, HB, HE, HG, HJ, HL, HC, HI -/
import Derived.Test.YtonpgohigncjeaaCx17
import Derived.Test.YtonpgohigncjeaaCx8
import Derived.Test.YtonpgohigncjeaaCx11
import Derived.Test.YtonpgohigncjeaaCx2
namespace Go.Proofs.Ytonpgohigncjeaa
open Go.RowKit
set_option linter.unusedVariables false
section
/-- a result in new memory -/
def CeOut (w : World) (lg : List Int) (hs : List Flt) (en va : Int) (e : Ending) (w' : World) : Prop :=
  ∃ lv hv, e = .returned (.agg #[lv, .int .i64 en, .int .i64 va, hv]) ∧ Owd 3 w w' lv lg ∧ Owd 80 w w' hv hs ∧ (lv.ownBlock = none ∨ lv.ownBlock ≠ hv.ownBlock) ∧ Le w w'
theorem ret4q {a b d e : Value} {x y z u : Int} (h1 : a = b) (h2 : x = y) (h3 : z = u) (h4 : d = e) : Ending.returned (.agg #[a, .int .i64 x, .int .i64 z, d]) = .returned (.agg #[b, .int .i64 y, .int .i64 u, e]) := by rw [h1, h2, h3, h4]
set_option maxHeartbeats 4000000 in
set_option maxRecDepth 100000 in
theorem sCloseExits_any (B A : Option Addr) (m c n cap : Nat) (xs : List Cls) (L : List Xit) (has : Bool) (cl k : Int) (hcl : Enc.ok cl) (hk : Enc.ok k) (w : World) (hT : Sl w B m c xs) (hL : Sl w A n cap L) :
    Calls Try.prog 12 #[.agg #[.slice B m c], .slice A n cap, .agg #[.bool has, .int .i64 cl, .int .i64 k]] w (CeOut w (ceL xs L has cl k) (ceH xs L has cl k) (ceE xs L has cl k) (ceV xs L has cl k)) := by
  obtain ⟨ct, s0, s1, s2, ZB, L0⟩ := box_tsr w (.slice B m c) (.bool has) (.int .i64 cl) (.int .i64 k) 25 28 36
  have T1 := hT.le L0
  have SL1 := hL.le L0
  have zt : w.heap.size + 1 + 1 < _ := ZB.lt
  unfold CeOut
  go_enter Try.func12, Try.ntmps12
  go_wp2_with fail
  generalize ((w.alloc (.cells #[.slice B m c] 25)).alloc (.cells #[.bool has, .int .i64 cl, .int .i64 k] 28)).alloc _ = W at *
  refine (goodClose_any B A m c n cap xs L has cl k W T1 SL1).mono ?_
  rintro e w2 ⟨rfl, hle⟩
  have L2 := L0.trans hle
  replace ct := (hle.cell (by omega)).trans ct
  replace s0 := (hle.cell (by omega)).trans s0
  replace s1 := (hle.cell (by omega)).trans s1
  replace s2 := (hle.cell (by omega)).trans s2
  replace ZB := ZB.le hle
  have T2 := hT.le L2
  have SL2 := hL.le L2
  have zt2 : w.heap.size + 1 + 1 < w2.heap.size := ZB.lt
  clear T1 SL1 zt hle
  cases h1 : ceOk xs L has cl k
  · obtain ⟨q0, q1, q2, q3⟩ := ce_no h1
    obtain ⟨z0, z0f, z1, z1f, z2, z2f, z3, z3f⟩ := ZB.four (.slice none 0 0) (.int .i64 0) (.int .i64 0)
    have ZA := Lib.hid (ZB.all (.slice none 0 0) (.int .i64 0) (.int .i64 0) (.slice none 0 0))
    clear ZB
    go_wp2
    have e0 := ZA.out.c0
    have e1 := ZA.out.c1
    have e2 := ZA.out.c2
    have e3 := ZA.out.c3
    refine bodyPost_ret (v := .agg #[.slice none 0 0, .int .i64 0, .int .i64 0, .slice none 0 0]) (by simp [results, Try.results12, go_sem, e0, e1, e2, e3]) rfl ?_
    rw [q0, q1, q2, q3]
    exact ⟨_, _, rfl, Owd.nil _ _ _, Owd.nil _ _ _, .inl rfl, (((L2.setCell (by omega) _).setCell (by omega) _).setCell (by omega) _).setCell (by omega) _⟩
  · obtain ⟨hv, hc⟩ := ceOk_iff.1 h1
    obtain ⟨q0, q1, q2, q3⟩ := ce_yes h1
    go_wp2_with fail
    refine (closed_any B A m c n cap xs L has cl k hcl hk hv (csv_cl hc) w2 T2 SL2).mono ?_
    rintro e w3 ⟨lv, hv3, rfl, D0, D1, hap, hle⟩
    have L3 := L2.trans hle
    replace ZB := ZB.le hle
    rw [← q0] at D0
    rw [← q3] at D1
    rw [← q1, ← q2]
    obtain ⟨A0, c0, rfl⟩ := own_form D0.row
    obtain ⟨A1, c1, rfl⟩ := own_form D1.row
    clear q0 q1 q2 q3 ct s0 s1 s2 T2 SL2 hle
    have b0 : (Value.slice A0 (ceL xs L has cl k).length c0).ownBlock ≠ some (w.heap.size + 1 + 1) := fun e => by have := (D0.row.lt _ e).1; omega
    have b1 : (Value.slice A1 (ceH xs L has cl k).length c1).ownBlock ≠ some (w.heap.size + 1 + 1) := fun e => by have := (D1.row.lt _ e).1; omega
    obtain ⟨z0, z0f, z1, z1f, z2, z2f, z3, z3f⟩ := ZB.four (.slice A0 (ceL xs L has cl k).length c0) (.int .i64 (ceE xs L has cl k)) (.int .i64 (ceV xs L has cl k))
    have ZA := Lib.hid (ZB.all (.slice A0 (ceL xs L has cl k).length c0) (.int .i64 (ceE xs L has cl k)) (.int .i64 (ceV xs L has cl k)) (.slice A1 (ceH xs L has cl k).length c1))
    have R0 := Lib.hid (Owd.mk (own_mono (row_all (b := w.heap.size + 1 + 1) D0.row b0 (.slice A0 (ceL xs L has cl k).length c0) (.int .i64 (ceE xs L has cl k)) (.int .i64 (ceV xs L has cl k)) (.slice A1 (ceH xs L has cl k).length c1)) L2.size) D0.ok)
    have R1 := Lib.hid (Owd.mk (own_mono (row_all (b := w.heap.size + 1 + 1) D1.row b1 (.slice A0 (ceL xs L has cl k).length c0) (.int .i64 (ceE xs L has cl k)) (.int .i64 (ceV xs L has cl k)) (.slice A1 (ceH xs L has cl k).length c1)) L2.size) D1.ok)
    have HAP : Hid ((Value.slice A0 (ceL xs L has cl k).length c0).ownBlock = none ∨ (Value.slice A0 (ceL xs L has cl k).length c0).ownBlock ≠ (Value.slice A1 (ceH xs L has cl k).length c1).ownBlock) := by
      cases e : (Value.slice A0 (ceL xs L has cl k).length c0).ownBlock with
      | none => exact .inl rfl
      | some b => exact .inr fun e2 => hap b e e2.symm
    clear ZB D0 D1 b0 b1 hap
    go_wp2
    have e0 := ZA.out.c0
    have e1 := ZA.out.c1
    have e2 := ZA.out.c2
    have e3 := ZA.out.c3
    refine bodyPost_ret (v := .agg #[.slice A0 (ceL xs L has cl k).length c0, .int .i64 (ceE xs L has cl k), .int .i64 (ceV xs L has cl k), .slice A1 (ceH xs L has cl k).length c1]) (by simp [results, Try.results12, go_sem, e0, e1, e2, e3]) rfl ?_
    exact ⟨_, _, rfl, R0.out, R1.out, HAP.out, (((L3.setCell (by omega) _).setCell (by omega) _).setCell (by omega) _).setCell (by omega) _⟩
set_option maxHeartbeats 4000000 in
set_option maxRecDepth 100000 in
theorem iCloseExits_any (B A : Option Addr) (m c n cap : Nat) (xs : List Cls) (L : List Xit) (has : Bool) (cl k : Int) (hcl : Enc.ok cl) (hk : Enc.ok k) (w : World) (hT : Sl w B m c xs) (hL : Sl w A n cap L) :
    Calls Try.prog 10 #[.agg #[.slice B m c], .slice A n cap, .agg #[.bool has, .int .i64 cl, .int .i64 k]] w (CeOut w (ceL xs L has cl k) (ceH xs L has cl k) (ceE xs L has cl k) (ceV xs L has cl k)) := by
  obtain rfl := hL.len
  obtain ⟨ct, s0, s1, s2, ZB, L0⟩ := box_tsr w (.slice B m c) (.bool has) (.int .i64 cl) (.int .i64 k) 25 28 36
  have T1 := hT.le L0
  have SL1 := hL.le L0
  have zt : w.heap.size + 1 + 1 < _ := ZB.lt
  have HNO : Hid (ceOk xs L has cl k = false → (ceL xs L has cl k = [] ∧ ceE xs L has cl k = 0 ∧ ceV xs L has cl k = 0 ∧ ceH xs L has cl k = [])) := ce_no
  have HOK : Hid (ceOk xs L has cl k = (vxs xs L && csv xs has cl k)) := rfl
  unfold CeOut
  go_enter Try.func10, Try.ntmps10
  go_wp2_with fail
  generalize ((w.alloc (.cells #[.slice B m c] 25)).alloc (.cells #[.bool has, .int .i64 cl, .int .i64 k] 28)).alloc _ = W at *
  refine (iValidExits_any B A m c L.length cap xs L W T1 SL1).mono ?_
  rintro e w2 ⟨rfl, hle⟩
  have L2 := L0.trans hle
  replace ct := (hle.cell (by omega)).trans ct
  replace s0 := (hle.cell (by omega)).trans s0
  replace s1 := (hle.cell (by omega)).trans s1
  replace s2 := (hle.cell (by omega)).trans s2
  replace ZB := ZB.le hle
  have T2 := hT.le L2
  have SL2 := hL.le L2
  have zt2 : w.heap.size + 1 + 1 < w2.heap.size := ZB.lt
  clear T1 SL1 zt hle
  cases h1 : vxs xs L
  · obtain ⟨q0, q1, q2, q3⟩ := HNO.out (by rw [HOK.out, h1]; rfl)
    obtain ⟨z0, z0f, z1, z1f, z2, z2f, z3, z3f⟩ := ZB.four (.slice none 0 0) (.int .i64 0) (.int .i64 0)
    have ZA := Lib.hid (ZB.all (.slice none 0 0) (.int .i64 0) (.int .i64 0) (.slice none 0 0))
    clear ZB
    go_wp2
    have e0 := ZA.out.c0
    have e1 := ZA.out.c1
    have e2 := ZA.out.c2
    have e3 := ZA.out.c3
    refine bodyPost_ret (v := .agg #[.slice none 0 0, .int .i64 0, .int .i64 0, .slice none 0 0]) (by simp [results, Try.results10, go_sem, e0, e1, e2, e3]) rfl ?_
    rw [q0, q1, q2, q3]
    exact ⟨_, _, rfl, Owd.nil _ _ _, Owd.nil _ _ _, .inl rfl, (((L2.setCell (by omega) _).setCell (by omega) _).setCell (by omega) _).setCell (by omega) _⟩
  go_wp2_with fail
  refine (ivalidStart_any B m c xs has cl k w2 T2).mono ?_
  rintro e w3 ⟨rfl, hle⟩
  have L3 := L2.trans hle
  replace ct := (hle.cell (by omega)).trans ct
  replace s0 := (hle.cell (by omega)).trans s0
  replace s1 := (hle.cell (by omega)).trans s1
  replace s2 := (hle.cell (by omega)).trans s2
  replace ZB := ZB.le hle
  have T3 := hT.le L3
  have SL3 := hL.le L3
  have zt3 : w.heap.size + 1 + 1 < w3.heap.size := ZB.lt
  clear T2 SL2 hle zt2 L2
  cases h2 : csv xs has cl k
  · obtain ⟨q0, q1, q2, q3⟩ := HNO.out (by rw [HOK.out, h1, h2]; rfl)
    obtain ⟨z0, z0f, z1, z1f, z2, z2f, z3, z3f⟩ := ZB.four (.slice none 0 0) (.int .i64 0) (.int .i64 0)
    have ZA := Lib.hid (ZB.all (.slice none 0 0) (.int .i64 0) (.int .i64 0) (.slice none 0 0))
    clear ZB
    go_wp2
    have e0 := ZA.out.c0
    have e1 := ZA.out.c1
    have e2 := ZA.out.c2
    have e3 := ZA.out.c3
    refine bodyPost_ret (v := .agg #[.slice none 0 0, .int .i64 0, .int .i64 0, .slice none 0 0]) (by simp [results, Try.results10, go_sem, e0, e1, e2, e3]) rfl ?_
    rw [q0, q1, q2, q3]
    exact ⟨_, _, rfl, Owd.nil _ _ _, Owd.nil _ _ _, .inl rfl, (((L3.setCell (by omega) _).setCell (by omega) _).setCell (by omega) _).setCell (by omega) _⟩
  have h3 : ceOk xs L has cl k = true := by rw [HOK.out, h1, h2]; rfl
  have CO := ce_ok h3
  obtain ⟨q0, q1, q2, q3⟩ := ce_yes h3
  have hl8 := (vxs_iff.1 h1).2.1
  go_wp2_with fail
  refine (closeExits_any B m c xs A L.length cap L has cl k hcl hk (by omega) w3 T3 SL3).mono ?_
  rintro e w4 ⟨R, lv, hv, rfl, LV⟩
  have hle := LV.G
  have hR0 := LV.h0
  have O4 := LV.O
  have okl4 := LV.okl
  have L4 := L3.trans hle
  replace ZB := ZB.le hle
  have zt4 : w.heap.size + 1 + 1 < w4.heap.size := ZB.lt
  have lnk := CO.lnk
  have hlo := CO.ok.lo
  have hhi := CO.ok.hi
  have hhn := CO.ok.h
  generalize clX xs L (stS has cl k) = s at *
  obtain ⟨lg, hs, fa⟩ := s
  clear hle CO ct s0 s1 s2 T3 SL3
  go_wp2_with fail
  refine (lresult_any w3 R m c B xs lv hv lg hs fa lnk hlo hhi (Nat.le_trans hhn (by omega)) w4 LV).mono ?_
  rintro e w5 ⟨hv', rfl, D1, hle⟩
  have L5 := L4.trans hle
  replace ZB := ZB.le hle
  have O5 := own_le O4 hle
  have HLT : ∀ b, lv.ownBlock = some b → hv'.ownBlock ≠ some b := fun b e e2 => by have h1 := (O4.lt b e).2; have h2 := (D1.row.lt b e2).1; omega
  try dsimp only at q0 q1 q2 q3
  rw [← q3] at D1
  rw [← q1, ← q2]
  have O6 : w5.ownsRow R 3 1 lv (ceL xs L has cl k).length ((ceL xs L has cl k).flatMap Enc.cells) := by rw [q0]; exact O5
  have okl6 : ∀ x ∈ ceL xs L has cl k, Enc.ok x := by rw [q0]; exact okl4
  obtain ⟨A0, c0, rfl⟩ := own_form O6
  obtain ⟨A1, c1, rfl⟩ := own_form D1.row
  clear q0 q1 q2 q3 O4 O5 okl4 hle LV lnk
  have b0 : (Value.slice A0 (ceL xs L has cl k).length c0).ownBlock ≠ some (w.heap.size + 1 + 1) := fun e => by have := (O6.lt _ e).1; omega
  have b1 : (Value.slice A1 (ceH xs L has cl k).length c1).ownBlock ≠ some (w.heap.size + 1 + 1) := fun e => by have := (D1.row.lt _ e).1; omega
  obtain ⟨z0, z0f, z1, z1f, z2, z2f, z3, z3f⟩ := ZB.four (.slice A0 (ceL xs L has cl k).length c0) (.int .i64 (ceE xs L has cl k)) (.int .i64 (ceV xs L has cl k))
  have ZA := Lib.hid (ZB.all (.slice A0 (ceL xs L has cl k).length c0) (.int .i64 (ceE xs L has cl k)) (.int .i64 (ceV xs L has cl k)) (.slice A1 (ceH xs L has cl k).length c1))
  have R0 := Lib.hid (Owd.mk (own_mono (row_all (b := w.heap.size + 1 + 1) O6 b0 (.slice A0 (ceL xs L has cl k).length c0) (.int .i64 (ceE xs L has cl k)) (.int .i64 (ceV xs L has cl k)) (.slice A1 (ceH xs L has cl k).length c1)) (show w.heap.size ≤ R by have := L3.size; omega)) okl6)
  have R1 := Lib.hid (Owd.mk (own_mono (row_all (b := w.heap.size + 1 + 1) D1.row b1 (.slice A0 (ceL xs L has cl k).length c0) (.int .i64 (ceE xs L has cl k)) (.int .i64 (ceV xs L has cl k)) (.slice A1 (ceH xs L has cl k).length c1)) L4.size) D1.ok)
  have HAP : Hid ((Value.slice A0 (ceL xs L has cl k).length c0).ownBlock = none ∨ (Value.slice A0 (ceL xs L has cl k).length c0).ownBlock ≠ (Value.slice A1 (ceH xs L has cl k).length c1).ownBlock) := by
    cases e : (Value.slice A0 (ceL xs L has cl k).length c0).ownBlock with
    | none => exact .inl rfl
    | some b => exact .inr fun e2 => HLT b e e2.symm
  clear ZB D1 b0 b1 HLT O6 okl6
  go_wp2
  have e0 := ZA.out.c0
  have e1 := ZA.out.c1
  have e2 := ZA.out.c2
  have e3 := ZA.out.c3
  refine bodyPost_ret (v := .agg #[.slice A0 (ceL xs L has cl k).length c0, .int .i64 (ceE xs L has cl k), .int .i64 (ceV xs L has cl k), .slice A1 (ceH xs L has cl k).length c1]) (by simp [results, Try.results10, go_sem, e0, e1, e2, e3]) rfl ?_
  exact ⟨_, _, rfl, R0.out, R1.out, HAP.out, (((L5.setCell (by omega) _).setCell (by omega) _).setCell (by omega) _).setCell (by omega) _⟩
end

section
theorem boxRr (w : World) (a b c d : Value) (T : TypeId) : (w.alloc (.cells #[a, b, c, d] T)).cell? ⟨w.heap.size, 0, none⟩ = some a ∧ (w.alloc (.cells #[a, b, c, d] T)).cell? ⟨w.heap.size, 1, none⟩ = some b ∧ (w.alloc (.cells #[a, b, c, d] T)).cell? ⟨w.heap.size, 2, none⟩ = some c ∧ (w.alloc (.cells #[a, b, c, d] T)).cell? ⟨w.heap.size, 3, none⟩ = some d ∧
    w.heap.size < (w.alloc (.cells #[a, b, c, d] T)).heap.size ∧ Le w (w.alloc (.cells #[a, b, c, d] T)) := by
  have B := B4.new w a b c d T
  exact ⟨B.c0, B.c1, B.c2, B.c3, B.lt, Le.new w _⟩
theorem Calls.ce {f : FuncId} {args : Array Value} {w : World} {lg : List Int} {hs : List Flt} {en va : Int} (h : Calls Try.prog f args w (CeOut w lg hs en va)) :
    Calls Try.prog f args w fun e w' => ∃ A0 q0 A1 q1, e = .returned (.agg #[.slice A0 lg.length q0, .int .i64 en, .int .i64 va, .slice A1 hs.length q1]) ∧ Sl w' A0 lg.length q0 lg ∧ Sl w' A1 hs.length q1 hs ∧ Le w w' := by
  refine h.mono ?_
  rintro e w' ⟨lv, hv, rfl, D0, D1, -, hle⟩
  obtain ⟨A0, q0, rfl, S0, -⟩ := D0.form (by decide)
  obtain ⟨A1, q1, rfl, S1, -⟩ := D1.form (by decide)
  exact ⟨A0, q0, A1, q1, rfl, S0, S1, hle⟩
set_option maxHeartbeats 2000000 in
set_option maxRecDepth 100000 in
theorem equalResult_self (A B E F : Option Addr) (n c d m e f : Nat) (xs : List Int) (hs : List Flt) (x y : Int) (w : World) (hA : Sl w A n c xs) (hB : Sl w B n d xs) (hE : Sl w E m e hs) (hF : Sl w F m f hs) :
    Calls Try.prog 11 #[.agg #[.slice A n c, .int .i64 x, .int .i64 y, .slice E m e], .agg #[.slice B n d, .int .i64 x, .int .i64 y, .slice F m f]] w fun e w' => e = .returned (.bool true) ∧ Le w w' := by
  obtain ⟨ca0, ca1, ca2, ca3, za0, L0⟩ := boxRr w (.slice A n c) (.int .i64 x) (.int .i64 y) (.slice E m e) 36
  obtain ⟨cb0, cb1, cb2, cb3, zb0, L1⟩ := boxRr (w.alloc (.cells #[.slice A n c, .int .i64 x, .int .i64 y, .slice E m e] 36)) (.slice B n d) (.int .i64 x) (.int .i64 y) (.slice F m f) 36
  have ez : (w.alloc (.cells #[.slice A n c, .int .i64 x, .int .i64 y, .slice E m e] 36)).heap.size = w.heap.size + 1 := by simp
  rw [ez] at cb0 cb1 cb2 cb3 zb0
  have za1 := za0
  have za2 := za0
  have za3 := za0
  have zb1 := zb0
  have zb2 := zb0
  have zb3 := zb0
  replace ca0 := (L1.cell za0).trans ca0
  replace ca1 := (L1.cell za1).trans ca1
  replace ca2 := (L1.cell za2).trans ca2
  replace ca3 := (L1.cell za3).trans ca3
  replace za0 := Nat.lt_of_lt_of_le za0 L1.size
  replace za1 := Nat.lt_of_lt_of_le za1 L1.size
  replace za2 := Nat.lt_of_lt_of_le za2 L1.size
  replace za3 := Nat.lt_of_lt_of_le za3 L1.size
  replace L0 := L0.trans L1
  have SA := hA.le L0
  have SB := hB.le L0
  have SE := hE.le L0
  have SF := hF.le L0
  clear L1 ez
  have hx : (x == x) = true := by simp
  have hy : (y == y) = true := by simp
  go_enter Try.func11, Try.ntmps11
  go_wp2_with fail
  generalize (w.alloc (.cells #[.slice A n c, .int .i64 x, .int .i64 y, .slice E m e] 36)).alloc (.cells #[.slice B n d, .int .i64 x, .int .i64 y, .slice F m f] 36) = W at *
  refine (equalInts_self A B n c d xs W SA SB).mono ?_
  rintro e1 w2 ⟨rfl, hle⟩
  replace ca0 := (hle.cell za0).trans ca0
  replace ca1 := (hle.cell za1).trans ca1
  replace ca2 := (hle.cell za2).trans ca2
  replace ca3 := (hle.cell za3).trans ca3
  replace cb0 := (hle.cell zb0).trans cb0
  replace cb1 := (hle.cell zb1).trans cb1
  replace cb2 := (hle.cell zb2).trans cb2
  replace cb3 := (hle.cell zb3).trans cb3
  replace za0 := Nat.lt_of_lt_of_le za0 hle.size
  replace za1 := Nat.lt_of_lt_of_le za1 hle.size
  replace za2 := Nat.lt_of_lt_of_le za2 hle.size
  replace za3 := Nat.lt_of_lt_of_le za3 hle.size
  replace zb0 := Nat.lt_of_lt_of_le zb0 hle.size
  replace zb1 := Nat.lt_of_lt_of_le zb1 hle.size
  replace zb2 := Nat.lt_of_lt_of_le zb2 hle.size
  replace zb3 := Nat.lt_of_lt_of_le zb3 hle.size
  replace L0 := L0.trans hle
  replace SE := SE.le hle
  replace SF := SF.le hle
  clear hle
  go_wp2_with fail
  refine (equalHeap_self E F m e f hs w2 SE SF).mono ?_
  rintro e2 w3 ⟨rfl, hle⟩
  replace L0 := L0.trans hle
  clear hle
  go_wp2
  go_ret
  exact ⟨rfl, L0⟩
end

section
def quK (xs : List Cls) (L : List Xit) (k : Nat) : Bool := decide (0 ≤ faX xs L true (k : Int))
def quI (xs : List Cls) (L : List Xit) : Bool := vxs xs L && (!decide (0 ≤ faX xs L false 0) && (List.range xs.length).all fun k => !quK xs L k)
theorem quI_yes {xs : List Cls} {L : List Xit} (h : vxs xs L = true) (h0 : ¬ 0 ≤ faX xs L false 0) (hk : ∀ j, j < xs.length → quK xs L j = false) : quI xs L = true := by
  unfold quI
  rw [h, decide_eq_false h0, Bool.true_and, Bool.not_false, Bool.true_and, List.all_eq_true]
  intro k hm
  rw [hk k (List.mem_range.1 hm)]; rfl
theorem quI_no {xs : List Cls} {L : List Xit} {j : Nat} (hj : j < xs.length) (hk : quK xs L j = true) : quI xs L = false := by
  unfold quI
  have : ((List.range xs.length).all fun k => !quK xs L k) = false := by
    cases h : (List.range xs.length).all fun k => !quK xs L k
    · rfl
    · have := List.all_eq_true.1 h j (List.mem_range.2 hj)
      rw [hk] at this; cases this
  rw [this]; simp
set_option maxHeartbeats 2000000 in
set_option maxRecDepth 100000 in
theorem iIsQuiet_any (B A : Option Addr) (m c n cap : Nat) (xs : List Cls) (L : List Xit) (w : World) (hT : Sl w B m c xs) (hL : Sl w A n cap L) :
    Calls Try.prog 31 #[.agg #[.slice B m c], .slice A n cap] w fun e w' => e = .returned (.bool (quI xs L)) ∧ Le w w' := by
  have hl := Le.new w (.cells #[.slice B m c] 25)
  have c0 : (w.alloc (.cells #[.slice B m c] 25)).cell? ⟨w.heap.size, 0, none⟩ = some (.slice B m c) := by rw [World.cell?_alloc_at _ _ _ _ rfl]; rfl
  have hz : w.heap.size < (w.alloc (.cells #[.slice B m c] 25)).heap.size := by simp
  have hS := hT.le hl
  have hSL := hL.le hl
  have HQ : Hid (quI xs L = (vxs xs L && (!decide (0 ≤ faX xs L false 0) && (List.range xs.length).all fun k => !quK xs L k))) := rfl
  cases h1 : vxs xs L
  · have HF : Hid (quI xs L = false) := by show _ = _; rw [HQ.out, h1]; rfl
    clear HQ
    go_enter Try.func31, Try.ntmps31
    go_wp2_with fail
    generalize w.alloc (.cells #[.slice B m c] 25) = W at *
    refine (iValidExits_any B A m c n cap xs L _ hS hSL).mono ?_
    rintro e w2 ⟨rfl, hle⟩
    rw [h1]
    clear h1
    go_wp2
    go_ret
    exact ⟨ret_bool HF.out.symm, hl.trans hle⟩
  · have hab := vxs_iff.1 h1
    have g := good_of hab.1
    have hLl := hab.2.1
    clear hab
    have hhi := g.hi
    obtain rfl := hT.len
    have hnl := hL.len
    have HV := Lib.hid h1
    go_enter Try.func31, Try.ntmps31
    go_wp2_with fail
    generalize w.alloc (.cells #[.slice B xs.length c] 25) = W at *
    refine (iValidExits_any B A xs.length c n cap xs L _ hS hSL).mono ?_
    rintro e w2 ⟨rfl, hle⟩
    rw [h1]
    clear h1
    have c2 := (hle.cell hz).trans c0
    have hz2' := Nat.lt_of_lt_of_le hz hle.size
    have hl2 := hl.trans hle
    have S2 := hT.le hl2
    have SL2 := hL.le hl2
    clear c0 hz hle hl hS hSL
    go_wp2_with fail
    refine (closeExits_any B xs.length c xs A n cap L false 0 0 ⟨by omega, by omega⟩ ⟨by omega, by omega⟩ (by omega) _ S2 SL2).mono ?_
    rintro e w3 ⟨R0, lv0, hv0, rfl, LV0⟩
    have k0 := LV0.c3
    have L3 := LV0.G
    have HF0 : Hid (faX xs L false 0 = (clX xs L (stS false 0 0)).2.2) := rfl
    generalize (clX xs L (stS false 0 0)).2.2 = fa0 at *
    have c3 := (L3.cell hz2').trans c2
    have hz3' := Nat.lt_of_lt_of_le hz2' L3.size
    have hl3 := hl2.trans L3
    clear LV0 c2 hz2' L3 S2 SL2
    by_cases hf0 : 0 ≤ fa0
    · have HF : Hid (quI xs L = false) := by show _ = _; rw [HQ.out, HF0.out, decide_eq_true hf0]; simp
      go_wp2
      go_ret
      exact ⟨ret_bool HF.out.symm, hl3⟩
    · have HN : Hid (¬ 0 ≤ faX xs L false 0) := by show ¬ _; rw [HF0.out]; exact hf0
      go_wp2
      go_loopw [23] (fun q wr => ∃ k : Nat, k ≤ xs.length ∧ q = .int .i64 k ∧ (∀ j, j < k → quK xs L j = false) ∧ Le w3 wr) (fun q _ => xs.length - (intOf q).toNat)
      case atStart => exact ⟨0, Nat.zero_le _, rfl, fun j h => absurd h (by omega), Le.refl w3⟩
      case round =>
        obtain ⟨k, hk, rfl, hall, hle⟩ := hrel
        have HA := Lib.hid hall
        clear hall
        have cr := (hle.cell hz3').trans c3
        have hRr := hT.le (hl3.trans hle)
        have hLr := hL.le (hl3.trans hle)
        by_cases hlt : k < xs.length
        · go_wp2_with fail
          refine (closeExits_any B xs.length c xs A n cap L true (k : Int) 0 ⟨by omega, by omega⟩ ⟨by omega, by omega⟩ (by omega) _ hRr hLr).mono ?_
          rintro e w4 ⟨R, lv, hv, rfl, LV⟩
          have k3 := LV.c3
          have hle' := hle.trans LV.G
          have HFK : Hid (quK xs L k = decide (0 ≤ (clX xs L (stS true (k : Int) 0)).2.2)) := rfl
          generalize (clX xs L (stS true (k : Int) 0)).2.2 = fa at *
          clear LV hle
          by_cases hi1 : 0 ≤ fa
          · have HF : Hid (quI xs L = false) := quI_no hlt (by rw [HFK.out]; exact decide_eq_true hi1)
            go_wp2
            go_ret
            exact ⟨ret_bool HF.out.symm, hl3.trans hle'⟩
          · have HB : Hid (∀ j, j < k + 1 → quK xs L j = false) := fun j hj => by
              rcases Nat.lt_or_ge j k with h2 | h2
              · exact HA.out j h2
              · have e : j = k := by omega
                rw [e, HFK.out]; exact decide_eq_false hi1
            go_wp2
            go_roundw
            case rel => exact ⟨k + 1, by omega, by go_num, HB.out, hle'⟩
            case measure => simp [intOf]; omega
        · have HF : Hid (quI xs L = true) := quI_yes HV.out (by have := HN.out; omega) fun j hj => HA.out j (by omega)
          go_wp2
          go_ret
          exact ⟨ret_bool HF.out.symm, hl3.trans hle⟩
end

section
theorem findN_spec (s : ByteArray) : ∀ (L : List Cls) (j : Int), (findN L s j = -1 ∧ ∀ i (h : i < L.length), L[i].name ≠ s) ∨ ∃ i, ∃ h : i < L.length, findN L s j = j + i ∧ L[i].name = s ∧ ∀ k (hk : k < i), (L[k]'(by omega)).name ≠ s
  | [], j => .inl ⟨rfl, fun i h => absurd h (by simp)⟩
  | c :: r, j => by
    unfold findN
    by_cases h : c.name = s
    · rw [if_pos h]
      exact .inr ⟨0, by simp, by simp, h, fun k hk => absurd hk (by omega)⟩
    · rw [if_neg h]
      rcases findN_spec s r (j + 1) with ⟨h1, h2⟩ | ⟨i, hi, h1, h2, h3⟩
      · refine .inl ⟨h1, fun i hi => ?_⟩
        cases i with
        | zero => exact h
        | succ i => exact h2 i (by simpa using hi)
      · refine .inr ⟨i + 1, by simpa using hi, by rw [h1]; omega, h2, fun k hk => ?_⟩
        cases k with
        | zero => exact h
        | succ k => exact h3 k (by omega)
theorem names_ne {xs : List Cls} (g : Good xs) {i k : Nat} (hik : i < k) (hk : k < xs.length) : (xs[i]'(by omega)).name ≠ xs[k].name := by
  have h := g.diff k hk
  rcases findN_spec xs[k].name (xs.take k) 0 with ⟨_, h2⟩ | ⟨j, hj, h1, _, _⟩
  · have := h2 i (by rw [List.length_take]; omega)
    rwa [List.getElem_take] at this
  · omega
theorem findN_here {xs : List Cls} (g : Good xs) {k : Nat} (hk : k < xs.length) : findN xs xs[k].name 0 = k := by
  rcases findN_spec xs[k].name xs 0 with ⟨_, h2⟩ | ⟨j, hj, h1, h2, h3⟩
  · exact absurd rfl (h2 k hk)
  · rcases Nat.lt_trichotomy j k with h | h | h
    · exact absurd h2 (names_ne g h hk)
    · omega
    · exact absurd rfl (h3 k h)
theorem findN_hit {xs : List Cls} {s : ByteArray} (h : 0 ≤ findN xs s 0) : ∃ i, ∃ hi : i < xs.length, findN xs s 0 = i ∧ xs[i].name = s := by
  rcases findN_spec s xs 0 with ⟨h1, _⟩ | ⟨j, hj, h1, h2, _⟩
  · omega
  · exact ⟨j, hj, by omega, h2⟩
end

section
def belowK (xs : List Cls) (a : Int) : Nat → List Int
  | 0 => []
  | k + 1 => belowK xs a k ++ (if isAL xs (k : Int) a then [(k : Int)] else [])
theorem belowK_len (xs : List Cls) (a : Int) : ∀ k, (belowK xs a k).length ≤ k
  | 0 => Nat.le_refl _
  | k + 1 => by
    have := belowK_len xs a k
    unfold belowK
    split <;> simp <;> omega
theorem belowK_ok (xs : List Cls) (a : Int) : ∀ k, k ≤ 8 → ∀ x ∈ belowK xs a k, Enc.ok x
  | 0, _, x, h => nomatch h
  | k + 1, hk, x, h => by
    unfold belowK at h
    rcases List.mem_append.1 h with h | h
    · exact belowK_ok xs a k (by omega) x h
    · split at h
      · simp at h; subst h; exact ⟨by omega, by omega⟩
      · cases h
def belowX (xs : List Cls) (a : Int) : List Int := cond (okTree xs && hasK xs a) (belowK xs a xs.length) []
theorem belowX_of {xs : List Cls} {a : Int} {b : Bool} (h : (okTree xs && hasK xs a) = b) : belowX xs a = cond b (belowK xs a xs.length) [] := by unfold belowX; rw [h]
theorem belowX_len (xs : List Cls) (a : Int) : (belowX xs a).length ≤ 1048576 := by
  cases h : okTree xs && hasK xs a
  · rw [belowX_of h]; simp
  · have hab : okTree xs = true ∧ hasK xs a = true := by simpa using h
    have g := good_of hab.1
    have := belowK_len xs a xs.length
    have := g.hi
    rw [belowX_of h]; show (belowK xs a xs.length).length ≤ _; omega

end

section
def firstIs (xs : List Cls) (b : Int) : List Int → Int
  | [] => -1
  | x :: r => if isAL xs b x then x else firstIs xs b r
def commonX (xs : List Cls) (a b : Int) : Int := cond (okTree xs && hasK xs a && hasK xs b) (firstIs xs b (aboveL xs a)) (-1)
theorem commonX_of {xs : List Cls} {a b : Int} {t : Bool} (h : (okTree xs && hasK xs a && hasK xs b) = t) : commonX xs a b = cond t (firstIs xs b (aboveL xs a)) (-1) := by unfold commonX; rw [h]
theorem firstIs_at {xs : List Cls} {L : List Int} {k : Nat} (h : k < L.length) (b : Int) : firstIs xs b (L.drop k) = if isAL xs b L[k] then L[k] else firstIs xs b (L.drop (k + 1)) := by
  rw [List.drop_eq_getElem_cons h]; rfl
/-- the root is above all, and all is the root -/
theorem root_mem {xs : List Cls} (g : Good xs) : ∀ (m : Nat) (i : Nat), i = m → i < xs.length → (0 : Int) ∈ aboveL xs (i : Int) := by
  intro m
  induction m using Nat.strongRecOn with
  | _ m ih =>
    intro i hm hi
    rw [aboveL_at g hi]
    by_cases h0 : i = 0
    · subst h0; exact List.mem_cons_self
    · have hp := g.par i hi (by omega)
      obtain ⟨p, hpe⟩ := Int.eq_ofNat_of_zero_le hp.1
      rw [hpe]
      exact List.mem_cons_of_mem _ (ih p (by omega) p rfl (by omega))
theorem hasI_mem {L : List Int} {x : Int} (h : x ∈ L) : hasI L x = true := by
  induction L with
  | nil => cases h
  | cons z r ih =>
    rcases List.mem_cons.1 h with rfl | h
    · simp [hasI]
    · simp [hasI, ih h]
theorem isA_root {xs : List Cls} (g : Good xs) {b : Int} (h0 : 0 ≤ b) (hb : b < xs.length) : isAL xs b 0 = true := by
  obtain ⟨i, rfl⟩ := Int.eq_ofNat_of_zero_le h0
  exact hasI_mem (root_mem g i i rfl (by omega))

end

section
def firstC (xs : List Cls) : List Int → Int → Int → Int
  | [], _, _ => -1
  | b :: r, a, k => if isAL xs a b then k else firstC xs r a (k + 1)
theorem firstC_at {xs : List Cls} {L : List Int} {k : Nat} (h : k < L.length) (a j : Int) : firstC xs (L.drop k) a j = if isAL xs a L[k] then j else firstC xs (L.drop (k + 1)) a (j + 1) := by
  rw [List.drop_eq_getElem_cons h]; rfl
theorem firstC_end {xs : List Cls} {L : List Int} {k : Nat} (h : ¬ k < L.length) (a j : Int) : firstC xs (L.drop k) a j = -1 := by
  rw [List.drop_eq_nil_of_le (by omega)]; rfl
theorem firstC_range (xs : List Cls) (a : Int) : ∀ (L : List Int) (j : Int), 0 ≤ j → firstC xs L a j = -1 ∨ (j ≤ firstC xs L a j ∧ firstC xs L a j < j + L.length)
  | [], _, _ => .inl rfl
  | b :: r, j, hj => by
    unfold firstC
    split
    · right; simp; omega
    · rcases firstC_range xs a r (j + 1) (by omega) with h | ⟨h1, h2⟩
      · exact .inl h
      · right; simp; omega
def goodL (xs : List Cls) : List Int → Bool
  | [] => true
  | b :: r => hasK xs b && goodL xs r
def goodC (xs : List Cls) (L : List Int) : Bool := okTree xs && goodL xs L && decide (L.length ≤ 6)
theorem goodL_at {xs : List Cls} {L : List Int} {k : Nat} (h : k < L.length) : goodL xs (L.drop k) = (hasK xs L[k] && goodL xs (L.drop (k + 1))) := by
  rw [List.drop_eq_getElem_cons h]; rfl
theorem goodL_end {xs : List Cls} {L : List Int} {k : Nat} (h : ¬ k < L.length) : goodL xs (L.drop k) = true := by
  rw [List.drop_eq_nil_of_le (by omega)]; rfl
theorem goodL_mem {xs : List Cls} : ∀ {L : List Int}, goodL xs L = true → ∀ b ∈ L, hasK xs b = true
  | [], _, _, h => nomatch h
  | c :: r, h, b, hb => by
    rw [goodL, Bool.and_eq_true] at h
    rcases List.mem_cons.1 hb with rfl | hb
    · exact h.1
    · exact goodL_mem h.2 b hb
theorem goodL_mk {xs : List Cls} : ∀ {L : List Int}, (∀ b ∈ L, hasK xs b = true) → goodL xs L = true
  | [], _ => rfl
  | c :: r, h => by rw [goodL, h c (by simp), goodL_mk (fun b hb => h b (by simp [hb]))]; rfl
theorem goodL_no {xs : List Cls} {L : List Int} {b : Int} (hb : b ∈ L) (h : hasK xs b = false) : goodL xs L = false := by
  cases hg : goodL xs L
  · rfl
  · rw [goodL_mem hg b hb] at h; cases h
structure GoodC (xs : List Cls) (L : List Int) : Prop where
  tree : Good xs
  mem : ∀ b ∈ L, 0 ≤ b ∧ b < xs.length
  few : L.length ≤ 6
theorem goodC_of {xs : List Cls} {L : List Int} (h : goodC xs L = true) : GoodC xs L := by
  unfold goodC at h
  simp only [Bool.and_eq_true, decide_eq_true_eq] at h
  exact ⟨good_of h.1.1, fun b hb => hasK_iff.1 (goodL_mem h.1.2 b hb), h.2⟩
def firstX (xs : List Cls) (L : List Int) (a : Int) : Int := cond (goodC xs L && hasK xs a) (firstC xs L a 0) (-2)
theorem firstX_of {xs : List Cls} {L : List Int} {a : Int} {t : Bool} (h : (goodC xs L && hasK xs a) = t) : firstX xs L a = cond t (firstC xs L a 0) (-2) := by unfold firstX; rw [h]
end

section
end

section
end

section
def deadK (xs : List Cls) (L : List Int) : Nat → List Int
  | 0 => []
  | k + 1 => deadK xs L k ++ (if 0 ≤ firstC xs (L.take k) (L.getD k 0) 0 then [(k : Int)] else [])
theorem deadK_len (xs : List Cls) (L : List Int) : ∀ k, (deadK xs L k).length ≤ k
  | 0 => Nat.le_refl _
  | k + 1 => by
    have := deadK_len xs L k
    unfold deadK
    split <;> simp <;> omega
theorem deadK_ok (xs : List Cls) (L : List Int) : ∀ k, k ≤ 8 → ∀ x ∈ deadK xs L k, Enc.ok x
  | 0, _, x, h => nomatch h
  | k + 1, hk, x, h => by
    unfold deadK at h
    rcases List.mem_append.1 h with h | h
    · exact deadK_ok xs L k (by omega) x h
    · split at h
      · simp at h; subst h; exact ⟨by omega, by omega⟩
      · cases h
theorem deadK_yes {xs : List Cls} {L : List Int} {k : Nat} (hk : k < L.length) (h : 0 ≤ firstC xs (L.take k) L[k] 0) : deadK xs L (k + 1) = deadK xs L k ++ [(k : Int)] := by
  rw [deadK, List.getD_eq_getElem?_getD, List.getElem?_eq_getElem hk, Option.getD_some, if_pos h]
theorem deadK_no {xs : List Cls} {L : List Int} {k : Nat} (hk : k < L.length) (h : ¬ 0 ≤ firstC xs (L.take k) L[k] 0) : deadK xs L (k + 1) = deadK xs L k := by
  rw [deadK, List.getD_eq_getElem?_getD, List.getElem?_eq_getElem hk, Option.getD_some, if_neg h, List.append_nil]
def deadX (xs : List Cls) (L : List Int) : List Int := cond (goodC xs L) (deadK xs L L.length) []
theorem deadX_of {xs : List Cls} {L : List Int} {t : Bool} (h : goodC xs L = t) : deadX xs L = cond t (deadK xs L L.length) [] := by unfold deadX; rw [h]
theorem deadX_len (xs : List Cls) (L : List Int) : (deadX xs L).length ≤ 1048576 := by
  cases h : goodC xs L
  · rw [deadX_of h]; simp
  · have := (goodC_of h).few
    have h2 := deadK_len xs L L.length
    rw [deadX_of h]; show (deadK xs L L.length).length ≤ _; omega

end

section
def caughtK (xs : List Cls) (L : List Int) : Nat → List Int
  | 0 => []
  | k + 1 => caughtK xs L k ++ (if 0 ≤ firstC xs L (k : Int) 0 then [(k : Int)] else [])
theorem caughtK_len (xs : List Cls) (L : List Int) : ∀ k, (caughtK xs L k).length ≤ k
  | 0 => Nat.le_refl _
  | k + 1 => by
    have := caughtK_len xs L k
    unfold caughtK
    split <;> simp <;> omega
theorem caughtK_ok (xs : List Cls) (L : List Int) : ∀ k, k ≤ 8 → ∀ x ∈ caughtK xs L k, Enc.ok x
  | 0, _, x, h => nomatch h
  | k + 1, hk, x, h => by
    unfold caughtK at h
    rcases List.mem_append.1 h with h | h
    · exact caughtK_ok xs L k (by omega) x h
    · split at h
      · simp at h; subst h; exact ⟨by omega, by omega⟩
      · cases h
theorem caughtK_yes {xs : List Cls} {L : List Int} {k : Nat} (h : 0 ≤ firstC xs L (k : Int) 0) : caughtK xs L (k + 1) = caughtK xs L k ++ [(k : Int)] := by rw [caughtK, if_pos h]
theorem caughtK_no {xs : List Cls} {L : List Int} {k : Nat} (h : ¬ 0 ≤ firstC xs L (k : Int) 0) : caughtK xs L (k + 1) = caughtK xs L k := by rw [caughtK, if_neg h, List.append_nil]
def caughtX (xs : List Cls) (L : List Int) : List Int := cond (goodC xs L) (caughtK xs L xs.length) []
theorem caughtX_of {xs : List Cls} {L : List Int} {t : Bool} (h : goodC xs L = t) : caughtX xs L = cond t (caughtK xs L xs.length) [] := by unfold caughtX; rw [h]
theorem caughtX_len (xs : List Cls) (L : List Int) : (caughtX xs L).length ≤ 1048576 := by
  cases h : goodC xs L
  · rw [caughtX_of h]; simp
  · have := (goodC_of h).tree.hi
    have h2 := caughtK_len xs L xs.length
    rw [caughtX_of h]; show (caughtK xs L xs.length).length ≤ _; omega

end

section
def allN (xs : List Cls) (a : Int) : List Int → Bool
  | [] => true
  | b :: r => (b == a || !isAL xs a b) && allN xs a r
theorem allN_at {xs : List Cls} {a : Int} {L : List Int} {k : Nat} (h : k < L.length) : allN xs a (L.drop k) = ((L[k] == a || !isAL xs a L[k]) && allN xs a (L.drop (k + 1))) := by
  rw [List.drop_eq_getElem_cons h]; rfl
theorem allN_end {xs : List Cls} {a : Int} {L : List Int} {k : Nat} (h : ¬ k < L.length) : allN xs a (L.drop k) = true := by
  rw [List.drop_eq_nil_of_le (by omega)]; rfl
def needC (xs : List Cls) (L : List Int) (a : Int) : Bool := hasI L a && allN xs a L
def leastK (xs : List Cls) (L : List Int) : Nat → List Int
  | 0 => []
  | k + 1 => leastK xs L k ++ (if needC xs L (k : Int) then [(k : Int)] else [])
theorem leastK_len (xs : List Cls) (L : List Int) : ∀ k, (leastK xs L k).length ≤ k
  | 0 => Nat.le_refl _
  | k + 1 => by
    have := leastK_len xs L k
    unfold leastK
    split <;> simp <;> omega
theorem leastK_mem (xs : List Cls) (L : List Int) : ∀ k x, x ∈ leastK xs L k ↔ 0 ≤ x ∧ x < k ∧ needC xs L x = true
  | 0, x => by simp [leastK]; omega
  | k + 1, x => by
    unfold leastK
    rw [List.mem_append, leastK_mem xs L k x]
    cases h : needC xs L (k : Int)
    · simp only [Bool.false_eq_true, if_false, List.not_mem_nil, or_false]
      constructor
      · rintro ⟨h0, h1, h2⟩; exact ⟨h0, by omega, h2⟩
      · rintro ⟨h0, h1, h2⟩
        have : x ≠ k := fun e => by subst e; rw [h] at h2; cases h2
        exact ⟨h0, by omega, h2⟩
    · simp
      constructor
      · rintro (⟨h0, h1, h2⟩ | rfl)
        · exact ⟨h0, by omega, h2⟩
        · exact ⟨by omega, by omega, h⟩
      · rintro ⟨h0, h1, h2⟩
        by_cases e : x = k
        · exact .inr e
        · exact .inl ⟨h0, by omega, h2⟩
theorem leastK_asc (xs : List Cls) (L : List Int) : ∀ k, (leastK xs L k).Pairwise (· < ·)
  | 0 => by simp [leastK]
  | k + 1 => by
    unfold leastK
    rw [List.pairwise_append]
    refine ⟨leastK_asc xs L k, by split <;> simp, fun a ha b hb => ?_⟩
    have h1 := (leastK_mem xs L k a).1 ha
    split at hb
    · simp at hb; omega
    · cases hb
theorem leastK_yes {xs : List Cls} {L : List Int} {k : Nat} (h : needC xs L (k : Int) = true) : leastK xs L (k + 1) = leastK xs L k ++ [(k : Int)] := by rw [leastK, if_pos h]
theorem leastK_no {xs : List Cls} {L : List Int} {k : Nat} (h : needC xs L (k : Int) = false) : leastK xs L (k + 1) = leastK xs L k := by rw [leastK, h]; simp
def leastX (xs : List Cls) (L : List Int) : List Int := cond (goodC xs L) (leastK xs L xs.length) []
theorem leastX_of {xs : List Cls} {L : List Int} {t : Bool} (h : goodC xs L = t) : leastX xs L = cond t (leastK xs L xs.length) [] := by unfold leastX; rw [h]
theorem leastK_ok (xs : List Cls) (L : List Int) (k : Nat) (hk : k ≤ 8) : ∀ x ∈ leastK xs L k, Enc.ok x := by
  intro x hx
  have := (leastK_mem xs L k x).1 hx
  exact ⟨by omega, by omega⟩
theorem leastX_len (xs : List Cls) (L : List Int) : (leastX xs L).length ≤ 1048576 := by
  cases h : goodC xs L
  · rw [leastX_of h]; simp
  · have := (goodC_of h).tree.hi
    have h2 := leastK_len xs L xs.length
    rw [leastX_of h]; show (leastK xs L xs.length).length ≤ _; omega

end

section
section
/-- the node of a class -/
def pbAt (gs : List PB) (b : Int) : PB := gs.getD b.toNat ⟨0⟩
theorem pbAt_at {gs : List PB} {i : Nat} (h : i < gs.length) : pbAt gs (i : Int) = gs[i] := by
  unfold pbAt; rw [Int.toNat_natCast, List.getD_eq_getElem?_getD, List.getElem?_eq_getElem h]; rfl
theorem ptrOf_pb {gs : List PB} {b : Int} (h0 : 0 ≤ b) (h1 : b < gs.length) : ptrOf gs b = some ⟨(pbAt gs b).g, 0, none⟩ := by
  obtain ⟨i, rfl⟩ := Int.eq_ofNat_of_zero_le h0
  rw [ptrOf_at (by omega), pbAt_at (by omega)]

end

section
def HandOut (xs : List Cls) (L : List Int) (gs : List PB) (w : World) (e : Ending) (w' : World) : Prop :=
  Le w w' ∧ ((goodC xs L = false ∧ e = .returned (.tuple #[.slice none 0 0, .bool false])) ∨ (goodC xs L = true ∧ ∃ H c, e = .returned (.tuple #[.slice H L.length c, .bool true]) ∧ Sl w' H L.length c (L.map (pbAt gs))))
theorem goodC_no {xs : List Cls} {L : List Int} (h : okTree xs = false ∨ 6 < L.length ∨ goodL xs L = false) : goodC xs L = false := by
  unfold goodC
  rcases h with h | h | h
  · rw [h]; rfl
  · rw [decide_eq_false (p := L.length ≤ 6) (by omega), Bool.and_false]
  · rw [h, Bool.and_false]; rfl
theorem goodC_yes {xs : List Cls} {L : List Int} (h : okTree xs = true) (h2 : L.length ≤ 6) (h3 : goodL xs L = true) : goodC xs L = true := by
  unfold goodC; rw [h, h3, decide_eq_true h2]; rfl

end

section
end
end

section
theorem hand_tree {xs : List Cls} {L : List Int} (h : goodC xs L = true) : okTree xs = true := by unfold goodC at h; simp at h; exact h.1.1
end
end Go.Proofs.Ytonpgohigncjeaa
