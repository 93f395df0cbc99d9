/- one text of LvQ -/
import Derived.Test.YtacilbglnhgifaaCe14
namespace Go.Proofs.Ytacilbglnhgifaa
open Go.RowKit
set_option linter.unusedVariables false
section
/-- a result in new memory -/
def CeOut (w : World) (lg : List Int) (hs : List Flt) (en va : Int) (e : Ending) (w' : World) : Prop :=
  ∃ lv hv, e = .returned (.agg #[lv, .int .i64 en, .int .i64 va, hv]) ∧ Owd 3 w w' lv lg ∧ Owd 84 w w' hv hs ∧ (lv.ownBlock = none ∨ lv.ownBlock ≠ hv.ownBlock) ∧ Le w w'
theorem ret4q {a b d e : Value} {x y z u : Int} (h1 : a = b) (h2 : x = y) (h3 : z = u) (h4 : d = e) : Ending.returned (.agg #[a, .int .i64 x, .int .i64 z, d]) = .returned (.agg #[b, .int .i64 y, .int .i64 u, e]) := by rw [h1, h2, h3, h4]
set_option maxHeartbeats 4000000 in
set_option maxRecDepth 100000 in
theorem sCloseExits_any (B A : Option Addr) (m c n cap : Nat) (xs : List Cls) (L : List Xit) (has : Bool) (cl k : Int) (hcl : Enc.ok cl) (hk : Enc.ok k) (w : World) (hT : Sl w B m c xs) (hL : Sl w A n cap L) :
    Calls Try.prog 8 #[.agg #[.slice B m c], .slice A n cap, .agg #[.bool has, .int .i64 cl, .int .i64 k]] w (CeOut w (ceL xs L has cl k) (ceH xs L has cl k) (ceE xs L has cl k) (ceV xs L has cl k)) := by
  obtain ⟨ct, s0, s1, s2, ZB, L0⟩ := box_tsr w (.slice B m c) (.bool has) (.int .i64 cl) (.int .i64 k) 39 43 35
  have T1 := hT.le L0
  have SL1 := hL.le L0
  have zt : w.heap.size + 1 + 1 < _ := ZB.lt
  unfold CeOut
  go_enter Try.func8, Try.ntmps8
  go_wp2_with fail
  generalize ((w.alloc (.cells #[.slice B m c] 39)).alloc (.cells #[.bool has, .int .i64 cl, .int .i64 k] 43)).alloc _ = W at *
  refine (goodClose_any B A m c n cap xs L has cl k W T1 SL1).mono ?_
  rintro e w2 ⟨rfl, hle⟩
  have L2 := L0.trans hle
  replace ct := (hle.cell (by omega)).trans ct
  replace s0 := (hle.cell (by omega)).trans s0
  replace s1 := (hle.cell (by omega)).trans s1
  replace s2 := (hle.cell (by omega)).trans s2
  replace ZB := ZB.le hle
  have T2 := hT.le L2
  have SL2 := hL.le L2
  have zt2 : w.heap.size + 1 + 1 < w2.heap.size := ZB.lt
  clear T1 SL1 zt hle
  cases h1 : ceOk xs L has cl k
  · obtain ⟨q0, q1, q2, q3⟩ := ce_no h1
    obtain ⟨z0, z0f, z1, z1f, z2, z2f, z3, z3f⟩ := ZB.four (.slice none 0 0) (.int .i64 0) (.int .i64 0)
    have ZA := Lib.hid (ZB.all (.slice none 0 0) (.int .i64 0) (.int .i64 0) (.slice none 0 0))
    clear ZB
    go_wp2
    have e0 := ZA.out.c0
    have e1 := ZA.out.c1
    have e2 := ZA.out.c2
    have e3 := ZA.out.c3
    refine bodyPost_ret (v := .agg #[.slice none 0 0, .int .i64 0, .int .i64 0, .slice none 0 0]) (by simp [results, Try.results8, go_sem, e0, e1, e2, e3]) rfl ?_
    rw [q0, q1, q2, q3]
    exact ⟨_, _, rfl, Owd.nil _ _ _, Owd.nil _ _ _, .inl rfl, (((L2.setCell (by omega) _).setCell (by omega) _).setCell (by omega) _).setCell (by omega) _⟩
  · obtain ⟨hv, hc⟩ := ceOk_iff.1 h1
    obtain ⟨q0, q1, q2, q3⟩ := ce_yes h1
    go_wp2_with fail
    refine (closed_any B A m c n cap xs L has cl k hcl hk hv (csv_cl hc) w2 T2 SL2).mono ?_
    rintro e w3 ⟨lv, hv3, rfl, D0, D1, hap, hle⟩
    have L3 := L2.trans hle
    replace ZB := ZB.le hle
    rw [← q0] at D0
    rw [← q3] at D1
    rw [← q1, ← q2]
    obtain ⟨A0, c0, rfl⟩ := own_form D0.row
    obtain ⟨A1, c1, rfl⟩ := own_form D1.row
    clear q0 q1 q2 q3 ct s0 s1 s2 T2 SL2 hle
    have b0 : (Value.slice A0 (ceL xs L has cl k).length c0).ownBlock ≠ some (w.heap.size + 1 + 1) := fun e => by have := (D0.row.lt _ e).1; omega
    have b1 : (Value.slice A1 (ceH xs L has cl k).length c1).ownBlock ≠ some (w.heap.size + 1 + 1) := fun e => by have := (D1.row.lt _ e).1; omega
    obtain ⟨z0, z0f, z1, z1f, z2, z2f, z3, z3f⟩ := ZB.four (.slice A0 (ceL xs L has cl k).length c0) (.int .i64 (ceE xs L has cl k)) (.int .i64 (ceV xs L has cl k))
    have ZA := Lib.hid (ZB.all (.slice A0 (ceL xs L has cl k).length c0) (.int .i64 (ceE xs L has cl k)) (.int .i64 (ceV xs L has cl k)) (.slice A1 (ceH xs L has cl k).length c1))
    have R0 := Lib.hid (Owd.mk (own_mono (row_all (b := w.heap.size + 1 + 1) D0.row b0 (.slice A0 (ceL xs L has cl k).length c0) (.int .i64 (ceE xs L has cl k)) (.int .i64 (ceV xs L has cl k)) (.slice A1 (ceH xs L has cl k).length c1)) L2.size) D0.ok)
    have R1 := Lib.hid (Owd.mk (own_mono (row_all (b := w.heap.size + 1 + 1) D1.row b1 (.slice A0 (ceL xs L has cl k).length c0) (.int .i64 (ceE xs L has cl k)) (.int .i64 (ceV xs L has cl k)) (.slice A1 (ceH xs L has cl k).length c1)) L2.size) D1.ok)
    have HAP : Hid ((Value.slice A0 (ceL xs L has cl k).length c0).ownBlock = none ∨ (Value.slice A0 (ceL xs L has cl k).length c0).ownBlock ≠ (Value.slice A1 (ceH xs L has cl k).length c1).ownBlock) := by
      cases e : (Value.slice A0 (ceL xs L has cl k).length c0).ownBlock with
      | none => exact .inl rfl
      | some b => exact .inr fun e2 => hap b e e2.symm
    clear ZB D0 D1 b0 b1 hap
    go_wp2
    have e0 := ZA.out.c0
    have e1 := ZA.out.c1
    have e2 := ZA.out.c2
    have e3 := ZA.out.c3
    refine bodyPost_ret (v := .agg #[.slice A0 (ceL xs L has cl k).length c0, .int .i64 (ceE xs L has cl k), .int .i64 (ceV xs L has cl k), .slice A1 (ceH xs L has cl k).length c1]) (by simp [results, Try.results8, go_sem, e0, e1, e2, e3]) rfl ?_
    exact ⟨_, _, rfl, R0.out, R1.out, HAP.out, (((L3.setCell (by omega) _).setCell (by omega) _).setCell (by omega) _).setCell (by omega) _⟩
set_option maxHeartbeats 4000000 in
set_option maxRecDepth 100000 in
theorem iCloseExits_any (B A : Option Addr) (m c n cap : Nat) (xs : List Cls) (L : List Xit) (has : Bool) (cl k : Int) (hcl : Enc.ok cl) (hk : Enc.ok k) (w : World) (hT : Sl w B m c xs) (hL : Sl w A n cap L) :
    Calls Try.prog 12 #[.agg #[.slice B m c], .slice A n cap, .agg #[.bool has, .int .i64 cl, .int .i64 k]] w (CeOut w (ceL xs L has cl k) (ceH xs L has cl k) (ceE xs L has cl k) (ceV xs L has cl k)) := by
  obtain rfl := hL.len
  obtain ⟨ct, s0, s1, s2, ZB, L0⟩ := box_tsr w (.slice B m c) (.bool has) (.int .i64 cl) (.int .i64 k) 39 43 35
  have T1 := hT.le L0
  have SL1 := hL.le L0
  have zt : w.heap.size + 1 + 1 < _ := ZB.lt
  have HNO : Hid (ceOk xs L has cl k = false → (ceL xs L has cl k = [] ∧ ceE xs L has cl k = 0 ∧ ceV xs L has cl k = 0 ∧ ceH xs L has cl k = [])) := ce_no
  have HOK : Hid (ceOk xs L has cl k = (vxs xs L && csv xs has cl k)) := rfl
  unfold CeOut
  go_enter Try.func12, Try.ntmps12
  go_wp2_with fail
  generalize ((w.alloc (.cells #[.slice B m c] 39)).alloc (.cells #[.bool has, .int .i64 cl, .int .i64 k] 43)).alloc _ = W at *
  refine (iValidExits_any B A m c L.length cap xs L W T1 SL1).mono ?_
  rintro e w2 ⟨rfl, hle⟩
  have L2 := L0.trans hle
  replace ct := (hle.cell (by omega)).trans ct
  replace s0 := (hle.cell (by omega)).trans s0
  replace s1 := (hle.cell (by omega)).trans s1
  replace s2 := (hle.cell (by omega)).trans s2
  replace ZB := ZB.le hle
  have T2 := hT.le L2
  have SL2 := hL.le L2
  have zt2 : w.heap.size + 1 + 1 < w2.heap.size := ZB.lt
  clear T1 SL1 zt hle
  cases h1 : vxs xs L
  · obtain ⟨q0, q1, q2, q3⟩ := HNO.out (by rw [HOK.out, h1]; rfl)
    obtain ⟨z0, z0f, z1, z1f, z2, z2f, z3, z3f⟩ := ZB.four (.slice none 0 0) (.int .i64 0) (.int .i64 0)
    have ZA := Lib.hid (ZB.all (.slice none 0 0) (.int .i64 0) (.int .i64 0) (.slice none 0 0))
    clear ZB
    go_wp2
    have e0 := ZA.out.c0
    have e1 := ZA.out.c1
    have e2 := ZA.out.c2
    have e3 := ZA.out.c3
    refine bodyPost_ret (v := .agg #[.slice none 0 0, .int .i64 0, .int .i64 0, .slice none 0 0]) (by simp [results, Try.results12, go_sem, e0, e1, e2, e3]) rfl ?_
    rw [q0, q1, q2, q3]
    exact ⟨_, _, rfl, Owd.nil _ _ _, Owd.nil _ _ _, .inl rfl, (((L2.setCell (by omega) _).setCell (by omega) _).setCell (by omega) _).setCell (by omega) _⟩
  go_wp2_with fail
  refine (ivalidStart_any B m c xs has cl k w2 T2).mono ?_
  rintro e w3 ⟨rfl, hle⟩
  have L3 := L2.trans hle
  replace ct := (hle.cell (by omega)).trans ct
  replace s0 := (hle.cell (by omega)).trans s0
  replace s1 := (hle.cell (by omega)).trans s1
  replace s2 := (hle.cell (by omega)).trans s2
  replace ZB := ZB.le hle
  have T3 := hT.le L3
  have SL3 := hL.le L3
  have zt3 : w.heap.size + 1 + 1 < w3.heap.size := ZB.lt
  clear T2 SL2 hle zt2 L2
  cases h2 : csv xs has cl k
  · obtain ⟨q0, q1, q2, q3⟩ := HNO.out (by rw [HOK.out, h1, h2]; rfl)
    obtain ⟨z0, z0f, z1, z1f, z2, z2f, z3, z3f⟩ := ZB.four (.slice none 0 0) (.int .i64 0) (.int .i64 0)
    have ZA := Lib.hid (ZB.all (.slice none 0 0) (.int .i64 0) (.int .i64 0) (.slice none 0 0))
    clear ZB
    go_wp2
    have e0 := ZA.out.c0
    have e1 := ZA.out.c1
    have e2 := ZA.out.c2
    have e3 := ZA.out.c3
    refine bodyPost_ret (v := .agg #[.slice none 0 0, .int .i64 0, .int .i64 0, .slice none 0 0]) (by simp [results, Try.results12, go_sem, e0, e1, e2, e3]) rfl ?_
    rw [q0, q1, q2, q3]
    exact ⟨_, _, rfl, Owd.nil _ _ _, Owd.nil _ _ _, .inl rfl, (((L3.setCell (by omega) _).setCell (by omega) _).setCell (by omega) _).setCell (by omega) _⟩
  have h3 : ceOk xs L has cl k = true := by rw [HOK.out, h1, h2]; rfl
  have CO := ce_ok h3
  obtain ⟨q0, q1, q2, q3⟩ := ce_yes h3
  have hl8 := (vxs_iff.1 h1).2.1
  go_wp2_with fail
  refine (closeExits_any B m c xs A L.length cap L has cl k hcl hk (by omega) w3 T3 SL3).mono ?_
  rintro e w4 ⟨R, lv, hv, rfl, LV⟩
  have hle := LV.G
  have hR0 := LV.h0
  have O4 := LV.O
  have okl4 := LV.okl
  have L4 := L3.trans hle
  replace ZB := ZB.le hle
  have zt4 : w.heap.size + 1 + 1 < w4.heap.size := ZB.lt
  have lnk := CO.lnk
  have hlo := CO.ok.lo
  have hhi := CO.ok.hi
  have hhn := CO.ok.h
  generalize clX xs L (stS has cl k) = s at *
  obtain ⟨lg, hs, fa⟩ := s
  clear hle CO ct s0 s1 s2 T3 SL3
  go_wp2_with fail
  refine (lresult_any w3 R m c B xs lv hv lg hs fa lnk hlo hhi (Nat.le_trans hhn (by omega)) w4 LV).mono ?_
  rintro e w5 ⟨hv', rfl, D1, hle⟩
  have L5 := L4.trans hle
  replace ZB := ZB.le hle
  have O5 := own_le O4 hle
  have HLT : ∀ b, lv.ownBlock = some b → hv'.ownBlock ≠ some b := fun b e e2 => by have h1 := (O4.lt b e).2; have h2 := (D1.row.lt b e2).1; omega
  try dsimp only at q0 q1 q2 q3
  rw [← q3] at D1
  rw [← q1, ← q2]
  have O6 : w5.ownsRow R 3 1 lv (ceL xs L has cl k).length ((ceL xs L has cl k).flatMap Enc.cells) := by rw [q0]; exact O5
  have okl6 : ∀ x ∈ ceL xs L has cl k, Enc.ok x := by rw [q0]; exact okl4
  obtain ⟨A0, c0, rfl⟩ := own_form O6
  obtain ⟨A1, c1, rfl⟩ := own_form D1.row
  clear q0 q1 q2 q3 O4 O5 okl4 hle LV lnk
  have b0 : (Value.slice A0 (ceL xs L has cl k).length c0).ownBlock ≠ some (w.heap.size + 1 + 1) := fun e => by have := (O6.lt _ e).1; omega
  have b1 : (Value.slice A1 (ceH xs L has cl k).length c1).ownBlock ≠ some (w.heap.size + 1 + 1) := fun e => by have := (D1.row.lt _ e).1; omega
  obtain ⟨z0, z0f, z1, z1f, z2, z2f, z3, z3f⟩ := ZB.four (.slice A0 (ceL xs L has cl k).length c0) (.int .i64 (ceE xs L has cl k)) (.int .i64 (ceV xs L has cl k))
  have ZA := Lib.hid (ZB.all (.slice A0 (ceL xs L has cl k).length c0) (.int .i64 (ceE xs L has cl k)) (.int .i64 (ceV xs L has cl k)) (.slice A1 (ceH xs L has cl k).length c1))
  have R0 := Lib.hid (Owd.mk (own_mono (row_all (b := w.heap.size + 1 + 1) O6 b0 (.slice A0 (ceL xs L has cl k).length c0) (.int .i64 (ceE xs L has cl k)) (.int .i64 (ceV xs L has cl k)) (.slice A1 (ceH xs L has cl k).length c1)) (show w.heap.size ≤ R by have := L3.size; omega)) okl6)
  have R1 := Lib.hid (Owd.mk (own_mono (row_all (b := w.heap.size + 1 + 1) D1.row b1 (.slice A0 (ceL xs L has cl k).length c0) (.int .i64 (ceE xs L has cl k)) (.int .i64 (ceV xs L has cl k)) (.slice A1 (ceH xs L has cl k).length c1)) L4.size) D1.ok)
  have HAP : Hid ((Value.slice A0 (ceL xs L has cl k).length c0).ownBlock = none ∨ (Value.slice A0 (ceL xs L has cl k).length c0).ownBlock ≠ (Value.slice A1 (ceH xs L has cl k).length c1).ownBlock) := by
    cases e : (Value.slice A0 (ceL xs L has cl k).length c0).ownBlock with
    | none => exact .inl rfl
    | some b => exact .inr fun e2 => HLT b e e2.symm
  clear ZB D1 b0 b1 HLT O6 okl6
  go_wp2
  have e0 := ZA.out.c0
  have e1 := ZA.out.c1
  have e2 := ZA.out.c2
  have e3 := ZA.out.c3
  refine bodyPost_ret (v := .agg #[.slice A0 (ceL xs L has cl k).length c0, .int .i64 (ceE xs L has cl k), .int .i64 (ceV xs L has cl k), .slice A1 (ceH xs L has cl k).length c1]) (by simp [results, Try.results12, go_sem, e0, e1, e2, e3]) rfl ?_
  exact ⟨_, _, rfl, R0.out, R1.out, HAP.out, (((L5.setCell (by omega) _).setCell (by omega) _).setCell (by omega) _).setCell (by omega) _⟩
end
end Go.Proofs.Ytacilbglnhgifaa
