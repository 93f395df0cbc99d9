/- one text of DPe, DPu, DPv, DPw, CcLine, CcL0 -/
import Derived.Test.YtlepgfccnfcagaaWp14
import Derived.Test.YtlepgfccnfcagaaWp15
import Derived.Test.YtlepgfccnfcagaaWp6
import Derived.Test.YtlepgfccnfcagaaWp13
import Derived.Test.YtlepgfccnfcagaaWp1
import Derived.Test.YtlepgfccnfcagaaWp8
import Derived.Test.YtlepgfccnfcagaaRows
import Derived.Lib.AppendZerosOnto
namespace Go.Proofs.Ytlepgfccnfcagaa
open Go.RowKit
set_option linter.unusedVariables false
section
section
theorem blk_0 : DrawC 78 0 3 13 := block_of 0 stmt_0 (by decide)
theorem try_1 : DrawC 77 1 20 73 := try_of 0 3 13 blk_0 (by decide) (by decide)
theorem stm_1 : DrawC 105 1 20 78 := stmt_of 0 3 13 blk_0 try_1 (by decide) (by decide)
theorem blk_1 : DrawC 78 1 60 235 := block_of 1 stm_1 (by decide)
theorem try_2 : DrawC 77 2 305 1183 := try_of 1 60 235 blk_1 (by decide) (by decide)
theorem stm_2 : DrawC 105 2 305 1188 := stmt_of 1 60 235 blk_1 try_2 (by decide) (by decide)
theorem blk_2 : DrawC 78 2 915 3565 := block_of 2 stm_2 (by decide)
theorem try_3 : DrawC 77 3 4580 17833 := try_of 2 915 3565 blk_2 (by decide) (by decide)
theorem stm_3 : DrawC 105 3 4580 17838 := stmt_of 2 915 3565 blk_2 try_3 (by decide) (by decide)
theorem blk_3 : DrawC 78 3 13740 53515 := block_of 3 stm_3 (by decide)
/-- lines that were drawn anew -/
theorem Ts.new {w wr w2 : World} {g p : Nat} {A : Option Addr} {n cap : Nat} {bs : List By} {B : Option Addr} {m c : Nat} {v : Value} {L : List Lin} (G : Gx g w wr) (gw : g < w.heap.size) (ct : wr.cell? ⟨w.heap.size, 0, none⟩ = some (.slice B m c)) (zt : w.heap.size < wr.heap.size)
    (O : w2.ownsRow wr.heap.size 42 4 v L.length (L.flatMap Enc.cells)) (ok : ∀ x ∈ L, Enc.ok x) (R : Rd w2 g p A n cap bs) (hg : Gx g wr w2) : Ts w w2 g p A n cap bs B m c v L :=
  ⟨own_mono O G.size, ok, R, G.trans hg, gw, (hg.cell zt (by omega)).trans ct, Nat.lt_of_lt_of_le zt hg.size, fun e => by have := (O.lt _ e).1; omega⟩
def fourL : List Lin := [⟨0, 7, 0, 0⟩, ⟨1, 2, 0, 1⟩, ⟨0, 10, 0, 0⟩, ⟨1, 1, 1, 0⟩]
theorem fourL_ok : ∀ x ∈ fourL, Enc.ok x := by
  intro x hx; simp [fourL] at hx
  rcases hx with rfl | rfl | rfl | rfl <;> exact ⟨by decide, by decide, by decide, by decide, by decide, by decide, by decide, by decide⟩
set_option maxHeartbeats 4000000 in
set_option maxRecDepth 100000 in
theorem goodProgram_any (B : Option Addr) (m c g p : Nat) (A : Option Addr) (n cap : Nat) (bs : List By) (w : World) (hm : m ≤ 8) (hp : p ≤ 300000) (hR : Rd w g p A n cap bs) :
    Calls Try.prog 54 #[.pointer (some ⟨g, 0, none⟩), .agg #[.slice B m c]] w (LnsOut 24 500000 g p A n cap bs w) := by
  have hgw := hR.lt
  have HA : Hid (0 < n → ∀ a, A = some a → a.block < w.heap.size) := fun hn a e => hR.sl.under hn a e
  obtain ⟨i0, hi, hz0, hz1, hz2⟩ := info_parts infoLn
  have HT : Hid (∀ (q : Nat) (wx : World), q + 17833 ≤ 900000 → Rd wx g q A n cap bs → Calls Try.prog 77 #[.pointer (some ⟨g, 0, none⟩), .agg #[.slice B m c], .int .i64 0, .bool false] wx (LnsOut 4580 17833 g q A n cap bs wx)) := fun q wx hq hr => try_3 0 false B m c g q A n cap bs wx (by decide) (by decide) hm hq hr
  have HB : Hid (∀ (q : Nat) (wx : World), q + 53515 ≤ 900000 → Rd wx g q A n cap bs → Calls Try.prog 78 #[.pointer (some ⟨g, 0, none⟩), .agg #[.slice B m c], .int .i64 0, .bool false] wx (LnsOut 13740 53515 g q A n cap bs wx)) := fun q wx hq hr => blk_3 0 false B m c g q A n cap bs wx (by decide) (by decide) hm hq hr
  obtain ⟨ct, zt, L0⟩ := box1 w (.slice B m c) 25
  have R0 := hR.le L0
  have G0 := Gx.of_le (g := g) L0
  clear L0 hR
  go_enter Try.func54, Try.ntmps54
  go_wp2
  go_loopw [5, 6] (fun i _ wr => ∃ (k p' : Nat), i = .int .i64 k ∧ k ≤ 4 ∧ p' + (4 - k) * 125000 ≤ p + 500000 ∧ Rd wr g p' A n cap bs ∧ Gx g w wr ∧ wr.cell? ⟨w.heap.size, 0, none⟩ = some (.slice B m c) ∧ w.heap.size < wr.heap.size) (fun i _ _ => (4 - intOf i).toNat)
  case atStart => exact ⟨0, p, rfl, by omega, by omega, R0, G0, ct, zt⟩
  case round =>
    clear R0 G0 ct zt
    obtain ⟨k, p', rfl, hk, hpk, R, G, ct, zt⟩ := hrel
    by_cases hk4 : k < 4
    · have hkb : (k : Int) < 4 := by omega
      have hkw : k ≤ 4 := hk
      go_wp2_with fail
      refine (HT.out p' wr (by omega) R).mono ?_
      rintro e0 u0 ⟨v0, M0, p0, rfl, O0, hM0, hm0, ht0, hp0, R0, hg0⟩
      have T0 := Ts.new G hgw ct zt O0 hM0 R0 hg0
      obtain ⟨B0, q0, rfl⟩ := own_form O0
      clear O0 hM0 R0 hg0 ct zt R G
      go_wp2_with fail
      refine (pick_any 3 g p0 A n cap bs u0 (by omega) (by omega) (by omega) T0.R).mono ?_
      rintro e1 y1 ⟨a1, rfl, _, _, R1, hg1⟩
      have T1 := T0.call R1 hg1
      have ct1 := T1.ct
      have zt1 := T1.zt
      clear R1 hg1 T0
      by_cases hz1 : a1 = 0
      · subst hz1
        go_wp2_with fail
        refine (HB.out (p0 + 1) y1 (by omega) T1.R).mono ?_
        rintro e2 u2 ⟨v2, M2, p2, rfl, O2, hM2, hm2, ht2, hp2, R2, hg2⟩
        have C2 := T1.call R2 hg2
        have z2 := C2.zt
        obtain ⟨B2, q2, rfl⟩ := own_form O2
        have S2 := Sl.of_own O2 rfl (by decide) hM2
        clear hg2 R2 O2 T1
        go_wp2_with (at_builtin; refine wpList_append_sl rfl _ _ 26 rfl w.heap.size 42 i0 _ 32 Try.underlying26 hi hz0 hz1 hz2 rfl _ M0.length M0 rfl C2.O B2 M2.length q2 M2 rfl S2 (by unfold maxLen; omega) (by omega) (Nat.le_of_lt z2) ?_; intro x2 y2 OO2 gg2 bb2; have T2 := C2.app HA.out OO2 hM2 gg2 bb2; generalize hL2 : M0 ++ M2 = L2 at T2; have hl2 : M0.length ≤ L2.length ∧ L2.length ≤ M0.length + M2.length := (by rw [← hL2, List.length_append]; omega); obtain ⟨BX2, qX2, rfl⟩ := own_form T2.O; have ct2 := T2.ct; have zt2 := T2.zt; clear OO2 gg2 bb2 S2 hM2 C2 z2 hL2)
        refine (pick_any 4 g p2 A n cap bs y2 (by omega) (by omega) (by omega) T2.R).mono ?_
        rintro e3 y3 ⟨a3, rfl, _, _, R3, hg3⟩
        have T3 := T2.call R3 hg3
        have ct3 := T3.ct
        have zt3 := T3.zt
        clear R3 hg3 T2
        by_cases hz3 : a3 = 0
        · subst hz3
          go_wp2_with fail
          refine (HB.out (p2 + 1) y3 (by omega) T3.R).mono ?_
          rintro e4 u4 ⟨v4, M4, p4, rfl, O4, hM4, hm4, ht4, hp4, R4, hg4⟩
          have T4 := Ts.new T3.G hgw T3.ct T3.zt O4 hM4 R4 hg4
          obtain ⟨B4, q4, rfl⟩ := own_form O4
          clear O4 hM4 R4 hg4 T3
          by_cases hl24 : M4.length ≤ 24
          · have hlb : decide ((M4.length : Int) ≤ 24) = true := decide_eq_true (by omega)
            have HF := Lib.hid (T4.out (lim := 24) (k := 500000) (p0 := p) (by omega) hl24 (by omega))
            go_wp2
            go_ret
            exact HF.out
          · have hlb : decide ((M4.length : Int) ≤ 24) = false := decide_eq_false (by omega)
            go_wp2
            go_roundw
            case rel => exact ⟨k + 1, p4, by go_num, by omega, by omega, T4.R, T4.G, T4.ct, T4.zt⟩
            case measure => simp [intOf]; omega
        · have hzb3 : (a3 == 0) = false := by simpa using hz3
          clear hz3
          by_cases hl24 : L2.length ≤ 24
          · have hlb : decide ((L2.length : Int) ≤ 24) = true := decide_eq_true (by omega)
            have HF := Lib.hid (T3.out (lim := 24) (k := 500000) (p0 := p) (by omega) hl24 (by omega))
            go_wp2
            go_ret
            exact HF.out
          · have hlb : decide ((L2.length : Int) ≤ 24) = false := decide_eq_false (by omega)
            go_wp2
            go_roundw
            case rel => exact ⟨k + 1, (p2 + 1), by go_num, by omega, by omega, T3.R, T3.G, T3.ct, T3.zt⟩
            case measure => simp [intOf]; omega
      · have hzb1 : (a1 == 0) = false := by simpa using hz1
        clear hz1
        go_wp2_with fail
        refine (pick_any 4 g (p0 + 1) A n cap bs y1 (by omega) (by omega) (by omega) T1.R).mono ?_
        rintro e5 y5 ⟨a5, rfl, _, _, R5, hg5⟩
        have T5 := T1.call R5 hg5
        have ct5 := T5.ct
        have zt5 := T5.zt
        clear R5 hg5 T1
        by_cases hz5 : a5 = 0
        · subst hz5
          go_wp2_with fail
          refine (HB.out ((p0 + 1) + 1) y5 (by omega) T5.R).mono ?_
          rintro e6 u6 ⟨v6, M6, p6, rfl, O6, hM6, hm6, ht6, hp6, R6, hg6⟩
          have T6 := Ts.new T5.G hgw T5.ct T5.zt O6 hM6 R6 hg6
          obtain ⟨B6, q6, rfl⟩ := own_form O6
          clear O6 hM6 R6 hg6 T5
          by_cases hl24 : M6.length ≤ 24
          · have hlb : decide ((M6.length : Int) ≤ 24) = true := decide_eq_true (by omega)
            have HF := Lib.hid (T6.out (lim := 24) (k := 500000) (p0 := p) (by omega) hl24 (by omega))
            go_wp2
            go_ret
            exact HF.out
          · have hlb : decide ((M6.length : Int) ≤ 24) = false := decide_eq_false (by omega)
            go_wp2
            go_roundw
            case rel => exact ⟨k + 1, p6, by go_num, by omega, by omega, T6.R, T6.G, T6.ct, T6.zt⟩
            case measure => simp [intOf]; omega
        · have hzb5 : (a5 == 0) = false := by simpa using hz5
          clear hz5
          by_cases hl24 : M0.length ≤ 24
          · have hlb : decide ((M0.length : Int) ≤ 24) = true := decide_eq_true (by omega)
            have HF := Lib.hid (T5.out (lim := 24) (k := 500000) (p0 := p) (by omega) hl24 (by omega))
            go_wp2
            go_ret
            exact HF.out
          · have hlb : decide ((M0.length : Int) ≤ 24) = false := decide_eq_false (by omega)
            go_wp2
            go_roundw
            case rel => exact ⟨k + 1, ((p0 + 1) + 1), by go_num, by omega, by omega, T5.R, T5.G, T5.ct, T5.zt⟩
            case measure => simp [intOf]; omega
    · have hkb : ¬ (k : Int) < 4 := by omega
      have OW := World.ownsRow_lit (base := w.heap.size) (e := 42) (size := 4) wr #[.int .i64 0, .int .i64 7, .int .i64 0, .int .i64 0, .int .i64 1, .int .i64 2, .int .i64 0, .int .i64 1, .int .i64 0, .int .i64 10, .int .i64 0, .int .i64 0, .int .i64 1, .int .i64 1, .int .i64 1, .int .i64 0] 4 (Nat.le_of_lt zt) (by unfold maxLen; omega) (by simp)
      have HO := Lib.hid OW
      have HR := Lib.hid R
      clear OW R
      go_wp2
      go_ret
      exact ⟨_, fourL, p', rfl, HO.out, fourL_ok, by decide, by decide, by omega, HR.out.le (Le.new _ _), G.trans (Gx.of_le (Le.new _ _))⟩
end

section
/-- a tree and lines that were drawn -/
def ProgOut (k g p : Nat) (A : Option Addr) (n cap : Nat) (bs : List By) (w : World) (e : Ending) (w' : World) : Prop :=
  ∃ (B D : Option Addr) (m c q d : Nat) (xs : List Cls) (L : List Lin) (p' : Nat), e = .returned (.tuple #[.agg #[.slice B m c], .slice D q d]) ∧ Sl w' B m c xs ∧ m ≤ 8 ∧ (0 < m → ∀ a, B = some a → w.heap.size < a.block) ∧ Sl w' D q d L ∧ q ≤ 24 ∧ (0 < q → ∀ a, D = some a → w.heap.size < a.block) ∧ p' ≤ p + k ∧ Rd w' g p' A n cap bs ∧ Gx g w w'
/-- where the draw stands: the result's box, the tree's box -/
structure Ps (w wr : World) (g p : Nat) (A : Option Addr) (n cap : Nat) (bs : List By) (B : Option Addr) (m c : Nat) (xs : List Cls) (tb : Nat) : Prop where
  R : Rd wr g p A n cap bs
  G : Gx g w wr
  gw : g < w.heap.size
  c0 : wr.cell? ⟨w.heap.size, 0, none⟩ = some (.slice none 0 0)
  f0 : wr.frozen? ⟨w.heap.size, 0, none⟩ = false
  ct : wr.cell? ⟨tb, 0, none⟩ = some (.slice B m c)
  z0 : w.heap.size < tb
  zt : tb < wr.heap.size
  S : Sl wr B m c xs
  hB : 0 < m → ∀ a, B = some a → w.heap.size < a.block ∧ a.block < tb
section
variable {w wr w2 : World} {g p p2 : Nat} {A : Option Addr} {n cap : Nat} {bs : List By} {B : Option Addr} {m c tb : Nat} {xs : List Cls}
theorem Ps.call (h : Ps w wr g p A n cap bs B m c xs tb) (R2 : Rd w2 g p2 A n cap bs) (hg : Gx g wr w2) : Ps w w2 g p2 A n cap bs B m c xs tb :=
  ⟨R2, h.G.trans hg, h.gw, (hg.cell (by have := h.z0; have := h.zt; omega) (by have := h.gw; omega)).trans h.c0, (hg.frozen (by have := h.z0; have := h.zt; omega) (by have := h.gw; omega)).trans h.f0, (hg.cell h.zt (by have := h.gw; have := h.z0; omega)).trans h.ct, h.z0, Nat.lt_of_lt_of_le h.zt hg.size, h.S.gx (fun hn a e => by have := h.hB hn a e; have := h.gw; omega) hg, h.hB⟩
theorem Ps.le (h : Ps w wr g p A n cap bs B m c xs tb) (hl : Le wr w2) : Ps w w2 g p A n cap bs B m c xs tb := h.call (h.R.le hl) (Gx.of_le hl)
theorem Ps.grown (h : Ps w wr g p A n cap bs B m c xs tb) (hA : 0 < n → ∀ a, A = some a → a.block < w.heap.size) {X : Nat} (hg : wr.grownBy w2 (some X)) (hX : tb < X) : Ps w w2 g p A n cap bs B m c xs tb :=
  ⟨h.R.grown hg (fun e => by injection e with e; have := h.gw; have := h.z0; omega) (fun hn a e e2 => by injection e2 with e2; have := hA hn a e; have := h.z0; omega), h.G.grown hg (fun k hk => by injection hk with hk; have := h.z0; omega), h.gw,
    hg.cell (a := ⟨w.heap.size, 0, none⟩) h.c0 (fun e => by have e1 : w.heap.size = X := (by injection e); have := h.z0; omega), (World.frozen?_of_block (a := ⟨w.heap.size, 0, none⟩) (hg.block w.heap.size (by have := h.z0; have := h.zt; omega) (fun e => by have e1 : w.heap.size = X := (by injection e); have := h.z0; omega))).trans h.f0,
    hg.cell (a := ⟨tb, 0, none⟩) h.ct (fun e => by have e1 : tb = X := (by injection e); omega), h.z0, Nat.lt_of_lt_of_le h.zt hg.size, h.S.grown hg (fun hn a e e2 => by have e3 : a.block = X := (by injection e2); have := h.hB hn a e; omega), h.hB⟩
theorem Ps.out (h : Ps w wr g p A n cap bs B m c xs tb) (hA : 0 < n → ∀ a, A = some a → a.block < w.heap.size) (hm : m ≤ 8) {D : Option Addr} {q d : Nat} {L : List Lin} (SD : Sl wr D q d L) (hq : q ≤ 24) (hD : 0 < q → ∀ a, D = some a → w.heap.size < a.block) {k p0 : Nat} (hp : p ≤ p0 + k) (u : Value) :
    ProgOut k g p0 A n cap bs w (.returned (.tuple #[.agg #[.slice B m c], .slice D q d])) (wr.setCell ⟨w.heap.size, 0, none⟩ u) :=
  ⟨B, D, m, c, q, d, xs, L, p, rfl, h.S.grown (grown_set wr w.heap.size 0 u) (fun hn a e e2 => by have e3 : a.block = w.heap.size := (by injection e2); have := h.hB hn a e; omega), hm, fun hn a e => (h.hB hn a e).1, SD.grown (grown_set wr w.heap.size 0 u) (fun hn a e e2 => by have e3 : a.block = w.heap.size := (by injection e2); have := hD hn a e; omega), hq, hD, hp,
    h.R.setNew u (by have := h.gw; omega) (fun hn a e => by have := hA hn a e; omega), h.G.setNewF (Nat.le_refl _) u⟩
end
theorem linSl_drop {w : World} {b off n cap : Nat} {xs : List Lin} (h : Sl w (some ⟨b, off, none⟩) n cap xs) (k : Nat) (hk : k ≤ n) : Sl w (some ⟨b, off + k * 4, none⟩) (n - k) (cap - k) (xs.drop k) := by
  have hl := h.len
  have hc := h.cap_
  have hx := h.max
  refine ⟨by rw [List.length_drop]; omega, by omega, by omega, fun x hx => h.ok x (List.mem_of_mem_drop hx), fun hn => ?_⟩
  obtain ⟨b2, off2, e, hb, hcell⟩ := h.at_ (by omega)
  injection e with e
  injection e with e1 e2
  subst e1; subst e2
  refine ⟨b, off + k * 4, rfl, hb, fun j u hu => ?_⟩
  have hsplit : xs.flatMap Enc.cells = (xs.take k).flatMap Enc.cells ++ (xs.drop k).flatMap Enc.cells := by rw [← List.flatMap_append, List.take_append_drop]
  have hfl : ((xs.take k).flatMap (Enc.cells (α := Lin))).length = k * 4 := by rw [flat_len, List.length_take]; show _ * 4 = _; rw [Nat.min_eq_left (by omega)]
  have := hcell (k * 4 + j) u (by rw [hsplit, List.getElem?_append_right (by omega), hfl, Nat.add_sub_cancel_left]; exact hu)
  rw [show off + k * 4 + j = off + (k * 4 + j) by omega]; exact this
set_option maxHeartbeats 4000000 in
set_option maxRecDepth 100000 in
theorem someProgram_any (g p : Nat) (A : Option Addr) (n cap : Nat) (bs : List By) (w : World) (hp : p ≤ 200000) (hR : Rd w g p A n cap bs) :
    Calls Try.prog 33 #[.pointer (some ⟨g, 0, none⟩)] w (ProgOut 500100 g p A n cap bs w) := by
  have hgw := hR.lt
  have HA : Hid (0 < n → ∀ a, A = some a → a.block < w.heap.size) := fun hn a e => hR.sl.under hn a e
  go_enter Try.func33, Try.ntmps33
  go_wp2_with fail
  obtain ⟨c0, z0, L0⟩ := box1 w (.slice none 0 0) 25
  have f0 : (w.alloc (.cells #[.slice none 0 0] 25)).frozen? ⟨w.heap.size, 0, none⟩ = false := World.frozen?_alloc_at _ _ _ _ rfl
  have R0 := hR.le L0
  generalize w.alloc (.cells #[.slice none 0 0] 25) = W at *
  refine (someTree_any g p A n cap bs W (by omega) R0).mono ?_
  rintro e w1 ⟨B, m, c, p1, xs, rfl, S, hm, hoff, hab, hp1, R, hg⟩
  have PS : Ps w (w1.alloc (.cells #[.slice B m c] 25)) g p1 A n cap bs B m c xs w1.heap.size := by
    obtain ⟨ct, zt, LB⟩ := box1 w1 (.slice B m c) 25
    have hz1 : w.heap.size < w1.heap.size := Nat.lt_of_lt_of_le z0 hg.size
    exact ⟨R.le LB, ((Gx.of_le (g := g) L0).trans hg).trans (Gx.of_le LB), hgw, (LB.cell hz1).trans ((hg.cell z0 (by omega)).trans c0), (LB.frozen hz1).trans ((hg.frozen z0 (by omega)).trans f0), ct, hz1, zt, S.le LB, fun hn a e => ⟨by have := hab hn a e; omega, S.under hn a e⟩⟩
  clear R S hoff hab hg R0 L0 f0 c0 z0 hR
  have ct := PS.ct
  have c0 := PS.c0
  have f0 := PS.f0
  by_cases hm0 : m = 0
  · subst hm0
    have HP0 : Hid (Ps w ((w1.alloc (.cells #[.slice B 0 c] 25)).alloc (.cells #[.int .i64 0, .int .i64 0, .int .i64 0, .int .i64 0] 42)) g p1 A n cap bs B 0 c xs w1.heap.size) := PS.le (Le.new _ _)
    have hzx : w.heap.size < (w1.alloc (.cells #[.slice B 0 c] 25)).heap.size := by have := PS.z0; have := PS.zt; omega
    have HSL := Lib.hid (sl_one (w := w1.alloc (.cells #[.slice B 0 c] 25)) (cs := #[.int .i64 0, .int .i64 0, .int .i64 0, .int .i64 0]) (T := 42) (⟨0, 0, 0, 0⟩ : Lin) rfl ⟨by decide, by decide, by decide, by decide, by decide, by decide, by decide, by decide⟩ (b := (w1.alloc (.cells #[.slice B 0 c] 25)).heap.size) rfl)
    have c1 := HP0.out.c0
    have f1 := HP0.out.f0
    have hend : ∀ u, (((w1.alloc (.cells #[.slice B 0 c] 25)).alloc (.cells #[.int .i64 0, .int .i64 0, .int .i64 0, .int .i64 0] 42)).setCell ⟨w.heap.size, 0, none⟩ u).cell? ⟨w.heap.size, 0, none⟩ = some u := fun u => cell_set_same c1
    clear PS
    have HSZ : Hid ((w1.alloc (.cells #[.slice B 0 c] 25)).heap.size = w1.heap.size + 1) := by show _ = _; simp
    go_wp2
    refine bodyPost_ret (v := .tuple #[.agg #[.slice B 0 c], .slice (some ⟨w1.heap.size + 1, 0, none⟩) 1 1]) (by simp [results, Try.results33, go_sem, hend]) rfl ?_
    have SX := HSL.out
    rw [HSZ.out] at SX
    rw [HSZ.out] at hzx
    exact HP0.out.out HA.out hm SX (by decide) (fun _ a e => by injection e with e; rw [← e]; exact hzx) (by omega) _
  have hmb : ((m : Int) == 0) = false := by simp; omega
  go_wp2_with fail
  generalize w1.alloc (.cells #[.slice B m c] 25) = W1 at *
  generalize w1.heap.size = tb at *
  refine (goodProgram_any B m c g p1 A n cap bs W1 hm (by omega) PS.R).mono ?_
  rintro e w2 ⟨v, L, p2, rfl, O, hok, hl0, hl24, hp2, R2, hg⟩
  have PS2 := PS.call R2 hg
  have htb := PS.zt
  obtain ⟨j, hj⟩ : ∃ j, L.length = j + 1 := ⟨L.length - 1, by omega⟩
  have HOK := Lib.hid hok
  rw [hj] at O
  obtain ⟨b, cp, rfl⟩ := own_some O
  have hbb := (O.lt b rfl)
  have hbt : tb < b := by omega
  have HJ := Lib.hid hj
  have hj24 : j ≤ 23 := by omega
  have hcap : j + 1 ≤ cp := by have := (Sl.of_own O rfl (by decide) (xs := L) hok).cap_; omega
  have hgb : b ≠ g := by have := PS.z0; omega
  have hp2b : p2 ≤ p + 500018 := by omega
  clear PS R2 hg ct c0 f0 hok hj hl0 hl24 hp1
  go_wp2_with fail
  refine (pick_any ((j + 1 : Nat) : Int) g p2 A n cap bs w2 (by omega) (by omega) (by omega) PS2.R).mono ?_
  rintro e w3 ⟨x, rfl, hx0, hx1, R3, hg3⟩
  have PS3 := PS2.call R3 hg3
  have O3 := O.kept hg3 (.inr (fun e => hgb (by injection e)))
  obtain ⟨k, rfl⟩ := Int.eq_ofNat_of_zero_le hx0
  have hk : k < j + 1 := by rcases hx1 with h | h <;> omega
  clear PS2 R3 hg3 O hx0 hx1
  go_wp2_with fail
  refine (pick_any 24 g (p2 + 1) A n cap bs w3 (by omega) (by omega) (by omega) PS3.R).mono ?_
  rintro e w4 ⟨y, rfl, hy0, hy1, R4, hg4⟩
  have PS4 := PS3.call R4 hg4
  have O4 := O3.kept hg4 (.inr (fun e => hgb (by injection e)))
  clear PS3 R4 hg4 O3 hy1
  have hkx : k < L.length := by have := HJ.out; omega
  have hk0 : (0 : Int) ≤ (k : Int) := by omega
  have hkn : (k : Int) < (j : Int) + 1 := by omega
  clear hy0
  by_cases hy0 : y = 0
  · subst hy0
    go_wp2_with fail
    refine (one_lit [-1, 6, 0, 1] 4 _ _ g (p2 + 1 + 1) A n cap bs w4 _ rfl rfl (by decide) (by decide) (by intro x hx; simp at hx; constructor <;> omega) (by omega) rfl PS4.R).mono ?_
    rintro e w5 ⟨s, rfl, hs, R5, hg5⟩
    have hso : -9223372036854775808 ≤ s ∧ s ≤ 9223372036854775807 := by simp at hs; omega
    have PS5 := PS4.call R5 hg5
    have O5 := O4.kept hg5 (.inr (fun e => hgb (by injection e)))
    have hcw : w5.cell? ⟨b, k * 4, none⟩ = some (.int .i64 L[k].depth) := by rw [O5.cellAt _ (by omega)]; exact flat_at L k hkx 0 (by decide)
    have hfw := O5.frozenAt (k * 4)
    have h1 := (O5.stored (k * 4) (.int .i64 s)).1
    rw [flat_lin_depth L k hkx s] at h1
    have HOK2 : Hid (∀ x ∈ L.set k {L[k] with depth := s}, Enc.ok x) := fun x hx => by
      rcases List.mem_or_eq_of_mem_set hx with h | rfl
      · exact HOK.out x h
      · have hq := HOK.out _ (List.getElem_mem hkx)
        exact ⟨hso.1, hso.2, hq.2.2.1, hq.2.2.2.1, hq.2.2.2.2.1, hq.2.2.2.2.2.1, hq.2.2.2.2.2.2.1, hq.2.2.2.2.2.2.2⟩
    have PS6 := PS5.grown HA.out (grown_set w5 b (k * 4) (.int .i64 s)) hbt
    clear R5 hg5 hs PS4 O4 PS5 O5
    have HSX := Lib.hid (Sl.of_own h1 rfl (by decide) HOK2.out)
    clear h1
    have HP := Lib.hid PS6
    have HS := Lib.hid HSX.out
    have ct := HP.out.ct
    have c0 := HP.out.c0
    have f0 := HP.out.f0
    have hend : ∀ u, ((w5.setCell ⟨b, k * 4, none⟩ (.int .i64 s)).setCell ⟨w.heap.size, 0, none⟩ u).cell? ⟨w.heap.size, 0, none⟩ = some u := fun u => cell_set_same c0
    have hzb : w.heap.size < b := by have := HP.out.z0; omega
    go_wp2
    exact bodyPost_ret (v := .tuple #[.agg #[.slice B m c], .slice (some ⟨b, 0, none⟩) (j + 1) (cp)]) (by simp [results, Try.results33, go_sem, hend]) rfl (HP.out.out HA.out hm HS.out (by omega) (fun _ a e => by injection e with e; rw [← e]; exact hzb) (by omega) _)
  have yb0 : (y == 0) = false := by simpa using hy0
  by_cases hy1 : y = 1
  · subst hy1
    go_wp2_with fail
    refine (one_lit [-1, 13, 5, 9, 0] 5 _ _ g (p2 + 1 + 1) A n cap bs w4 _ rfl rfl (by decide) (by decide) (by intro x hx; simp at hx; constructor <;> omega) (by omega) rfl PS4.R).mono ?_
    rintro e w5 ⟨s, rfl, hs, R5, hg5⟩
    have hso : -9223372036854775808 ≤ s ∧ s ≤ 9223372036854775807 := by simp at hs; omega
    have PS5 := PS4.call R5 hg5
    have O5 := O4.kept hg5 (.inr (fun e => hgb (by injection e)))
    have hcw : w5.cell? ⟨b, k * 4 + 1, none⟩ = some (.int .i64 L[k].kind) := by rw [O5.cellAt _ (by omega)]; exact flat_at L k hkx 1 (by decide)
    have hfw := O5.frozenAt (k * 4 + 1)
    have h1 := (O5.stored (k * 4 + 1) (.int .i64 s)).1
    rw [flat_lin_kind L k hkx s] at h1
    have HOK2 : Hid (∀ x ∈ L.set k {L[k] with kind := s}, Enc.ok x) := fun x hx => by
      rcases List.mem_or_eq_of_mem_set hx with h | rfl
      · exact HOK.out x h
      · have hq := HOK.out _ (List.getElem_mem hkx)
        exact ⟨hq.1, hq.2.1, hso.1, hso.2, hq.2.2.2.2.1, hq.2.2.2.2.2.1, hq.2.2.2.2.2.2.1, hq.2.2.2.2.2.2.2⟩
    have PS6 := PS5.grown HA.out (grown_set w5 b (k * 4 + 1) (.int .i64 s)) hbt
    clear R5 hg5 hs PS4 O4 PS5 O5
    have HSX := Lib.hid (Sl.of_own h1 rfl (by decide) HOK2.out)
    clear h1
    have HP := Lib.hid PS6
    have HS := Lib.hid HSX.out
    have ct := HP.out.ct
    have c0 := HP.out.c0
    have f0 := HP.out.f0
    have hend : ∀ u, ((w5.setCell ⟨b, k * 4 + 1, none⟩ (.int .i64 s)).setCell ⟨w.heap.size, 0, none⟩ u).cell? ⟨w.heap.size, 0, none⟩ = some u := fun u => cell_set_same c0
    have hzb : w.heap.size < b := by have := HP.out.z0; omega
    go_wp2
    exact bodyPost_ret (v := .tuple #[.agg #[.slice B m c], .slice (some ⟨b, 0, none⟩) (j + 1) (cp)]) (by simp [results, Try.results33, go_sem, hend]) rfl (HP.out.out HA.out hm HS.out (by omega) (fun _ a e => by injection e with e; rw [← e]; exact hzb) (by omega) _)
  have yb1 : (y == 1) = false := by simpa using hy1
  by_cases hy2 : y = 2
  · subst hy2
    go_wp2_with fail
    refine (one_lit [-1, 100, 8] 3 _ _ g (p2 + 1 + 1) A n cap bs w4 _ rfl rfl (by decide) (by decide) (by intro x hx; simp at hx; constructor <;> omega) (by omega) rfl PS4.R).mono ?_
    rintro e w5 ⟨s, rfl, hs, R5, hg5⟩
    have hso : -9223372036854775808 ≤ s ∧ s ≤ 9223372036854775807 := by simp at hs; omega
    have PS5 := PS4.call R5 hg5
    have O5 := O4.kept hg5 (.inr (fun e => hgb (by injection e)))
    have hcw : w5.cell? ⟨b, k * 4 + 2, none⟩ = some (.int .i64 L[k].a) := by rw [O5.cellAt _ (by omega)]; exact flat_at L k hkx 2 (by decide)
    have hfw := O5.frozenAt (k * 4 + 2)
    have h1 := (O5.stored (k * 4 + 2) (.int .i64 s)).1
    rw [flat_lin_a L k hkx s] at h1
    have HOK2 : Hid (∀ x ∈ L.set k {L[k] with a := s}, Enc.ok x) := fun x hx => by
      rcases List.mem_or_eq_of_mem_set hx with h | rfl
      · exact HOK.out x h
      · have hq := HOK.out _ (List.getElem_mem hkx)
        exact ⟨hq.1, hq.2.1, hq.2.2.1, hq.2.2.2.1, hso.1, hso.2, hq.2.2.2.2.2.2.1, hq.2.2.2.2.2.2.2⟩
    have PS6 := PS5.grown HA.out (grown_set w5 b (k * 4 + 2) (.int .i64 s)) hbt
    clear R5 hg5 hs PS4 O4 PS5 O5
    have HSX := Lib.hid (Sl.of_own h1 rfl (by decide) HOK2.out)
    clear h1
    have HP := Lib.hid PS6
    have HS := Lib.hid HSX.out
    have ct := HP.out.ct
    have c0 := HP.out.c0
    have f0 := HP.out.f0
    have hend : ∀ u, ((w5.setCell ⟨b, k * 4 + 2, none⟩ (.int .i64 s)).setCell ⟨w.heap.size, 0, none⟩ u).cell? ⟨w.heap.size, 0, none⟩ = some u := fun u => cell_set_same c0
    have hzb : w.heap.size < b := by have := HP.out.z0; omega
    go_wp2
    exact bodyPost_ret (v := .tuple #[.agg #[.slice B m c], .slice (some ⟨b, 0, none⟩) (j + 1) (cp)]) (by simp [results, Try.results33, go_sem, hend]) rfl (HP.out.out HA.out hm HS.out (by omega) (fun _ a e => by injection e with e; rw [← e]; exact hzb) (by omega) _)
  have yb2 : (y == 2) = false := by simpa using hy2
  have S4 := Sl.of_own O4 rfl (by decide) HOK.out
  clear O4
  by_cases hy3 : y = 3
  · subst hy3
    have S5 := linSl_drop S4 1 (by omega)
    by_cases hc1 : 1 = cp
    · have hj0 : j = 0 := by omega
      subst hj0
      subst hc1
      have SZ : Sl w4 (some ⟨b, 0, none⟩) 0 0 ([] : List Lin) := Sl.nil _ _ _ (by omega)
      have HP := Lib.hid PS4
      have HS := Lib.hid SZ
      have ct := HP.out.ct
      have c0 := HP.out.c0
      have f0 := HP.out.f0
      have hend : ∀ u, (w4.setCell ⟨w.heap.size, 0, none⟩ u).cell? ⟨w.heap.size, 0, none⟩ = some u := fun u => cell_set_same c0
      have hzb : w.heap.size < b := by have := HP.out.z0; omega
      go_wp2
      exact bodyPost_ret (v := .tuple #[.agg #[.slice B m c], .slice (some ⟨b, 0, none⟩) (0) (0)]) (by simp [results, Try.results33, go_sem, hend]) rfl (HP.out.out HA.out hm HS.out (by omega) (fun _ a e => by injection e with e; rw [← e]; exact hzb) (by omega) _)
    · skip
      simp only [Nat.zero_add, Nat.one_mul, Nat.add_sub_cancel] at S5
      have HP := Lib.hid PS4
      have HS := Lib.hid S5
      have ct := HP.out.ct
      have c0 := HP.out.c0
      have f0 := HP.out.f0
      have hend : ∀ u, (w4.setCell ⟨w.heap.size, 0, none⟩ u).cell? ⟨w.heap.size, 0, none⟩ = some u := fun u => cell_set_same c0
      have hzb : w.heap.size < b := by have := HP.out.z0; omega
      go_wp2
      exact bodyPost_ret (v := .tuple #[.agg #[.slice B m c], .slice (some ⟨b, 4, none⟩) (j) (cp - 1)]) (by simp [results, Try.results33, go_sem, hend]) rfl (HP.out.out HA.out hm HS.out (by omega) (fun _ a e => by injection e with e; rw [← e]; exact hzb) (by omega) _)
  have yb3 : (y == 3) = false := by simpa using hy3
  have HP := Lib.hid PS4
  have HS := Lib.hid S4
  have ct := HP.out.ct
  have c0 := HP.out.c0
  have f0 := HP.out.f0
  have hend : ∀ u, (w4.setCell ⟨w.heap.size, 0, none⟩ u).cell? ⟨w.heap.size, 0, none⟩ = some u := fun u => cell_set_same c0
  have hzb : w.heap.size < b := by have := HP.out.z0; omega
  go_wp2
  exact bodyPost_ret (v := .tuple #[.agg #[.slice B m c], .slice (some ⟨b, 0, none⟩) (j + 1) (cp)]) (by simp [results, Try.results33, go_sem, hend]) rfl (HP.out.out HA.out hm HS.out (by omega) (fun _ a e => by injection e with e; rw [← e]; exact hzb) (by omega) _)
end
end

section
def ShOut (k g p : Nat) (A : Option Addr) (n cap : Nat) (bs : List By) (w : World) (e : Ending) (w' : World) : Prop :=
  ∃ (v : Value) (L : List Lin) (p' : Nat), e = .returned v ∧ w'.ownsRow w.heap.size 42 4 v L.length (L.flatMap Enc.cells) ∧ (∀ x ∈ L, Enc.ok x) ∧ L.length ≤ 8 ∧ p' ≤ p + k ∧ Rd w' g p' A n cap bs ∧ Gx g w w'
theorem own_empty2 {w : World} {base b : Nat} (h : base ≤ w.heap.size) (hb : b = w.heap.size) : (w.alloc (.cells #[] 42)).ownsRow base 42 4 (.slice (some ⟨b, 0, none⟩) 0 0) 0 [] := by
  subst hb; exact own_empty (size := 4) h rfl
set_option maxHeartbeats 4000000 in
set_option maxRecDepth 100000 in
theorem shortProgram_any (B : Option Addr) (m c g p : Nat) (A : Option Addr) (n cap : Nat) (bs : List By) (w : World) (hm : m ≤ 8) (hp : p ≤ 800000) (hR : Rd w g p A n cap bs) :
    Calls Try.prog 72 #[.pointer (some ⟨g, 0, none⟩), .agg #[.slice B m c]] w (ShOut 60000 g p A n cap bs w) := by
  have hgw := hR.lt
  have HB : Hid (∀ (q : Nat) (wx : World), q + 53515 ≤ 900000 → Rd wx g q A n cap bs → Calls Try.prog 78 #[.pointer (some ⟨g, 0, none⟩), .agg #[.slice B m c], .int .i64 0, .bool false] wx (LnsOut 13740 53515 g q A n cap bs wx)) := fun q wx hq hr => blk_3 0 false B m c g q A n cap bs wx (by decide) (by decide) hm hq hr
  obtain ⟨ct, zt, L0⟩ := box1 w (.slice B m c) 25
  have R0 := hR.le L0
  have G0 := Gx.of_le (g := g) L0
  clear hR
  by_cases hm0 : m = 0
  · subst hm0
    have HO : Hid (((w.alloc (.cells #[.slice B 0 c] 25)).alloc (.cells #[] 42)).ownsRow w.heap.size 42 4 (.slice (some ⟨w.heap.size + 1, 0, none⟩) 0 0) 0 []) := own_empty2 (by simp) (by simp)
    have HR := Lib.hid (R0.le (Le.new _ (.cells #[] 42)))
    have HG := Lib.hid (G0.trans (Gx.of_le (g := g) (Le.new _ (.cells #[] 42))))
    clear R0 G0 L0 HB zt
    go_enter Try.func72, Try.ntmps72
    go_wp2
    go_ret
    exact ⟨_, [], p, rfl, HO.out, by simp, by simp, by omega, HR.out, HG.out⟩
  have hmb : ((m : Int) == 0) = false := by rw [beq_eq_false_iff_ne]; omega
  go_enter Try.func72, Try.ntmps72
  go_wp2_with fail
  generalize w.alloc (.cells #[.slice B m c] 25) = W at *
  refine (pick_any 8 g p A n cap bs W (by omega) (by omega) (by omega) R0).mono ?_
  rintro e1 w1 ⟨a1, rfl, _, _, R1, hg1⟩
  have ct1 := (hg1.cell zt (by omega)).trans ct
  have zt1 := Nat.lt_of_lt_of_le zt hg1.size
  have G1 := G0.trans hg1
  clear ct zt hg1 R0 G0 L0
  by_cases hz : a1 = 0
  · subst hz
    have HO : Hid ((w1.alloc (.cells #[] 42)).ownsRow w.heap.size 42 4 (.slice (some ⟨w1.heap.size, 0, none⟩) 0 0) 0 []) := own_empty2 (by omega) rfl
    have HR := Lib.hid (R1.le (Le.new _ (.cells #[] 42)))
    have HG := Lib.hid (G1.trans (Gx.of_le (g := g) (Le.new _ (.cells #[] 42))))
    clear R1 G1 HB zt1
    go_wp2
    go_ret
    exact ⟨_, [], p + 1, rfl, HO.out, by simp, by simp, by omega, HR.out, HG.out⟩
  have hzb : (a1 == 0) = false := by rw [beq_eq_false_iff_ne]; exact hz
  clear hz
  go_wp2_with fail
  refine (HB.out (p + 1) w1 (by omega) R1).mono ?_
  rintro e2 w2 ⟨v2, M2, p2, rfl, O2, hM2, hm2, ht2, hp2, R2, hg2⟩
  have T2 := Ts.new G1 hgw ct1 zt1 O2 hM2 R2 hg2
  have O2' := own_mono O2 (Nat.le_of_lt zt1)
  obtain ⟨B2, q2, rfl⟩ := own_form O2
  clear O2 R2 hg2 R1 G1 ct1
  by_cases h8 : M2.length ≤ 8
  · have hlb : decide ((8 : Int) < (M2.length : Int)) = false := decide_eq_false (by omega)
    have HO := Lib.hid O2'
    have HR := Lib.hid T2.R
    have HG := Lib.hid T2.G
    have HM := Lib.hid hM2
    clear T2 O2' hM2
    go_wp2
    go_ret
    exact ⟨_, M2, p2, rfl, HO.out, HM.out, h8, by omega, HR.out, HG.out⟩
  · have hlb : decide ((8 : Int) < (M2.length : Int)) = true := decide_eq_true (by omega)
    have ct2 := T2.ct
    have zt2 := T2.zt
    clear O2' hM2
    go_wp2_with fail
    refine (pick_any (m : Int) g p2 A n cap bs w2 (by omega) (by omega) (by omega) T2.R).mono ?_
    rintro e3 w3 ⟨a3, rfl, h30, h31, R3, hg3⟩
    have hb3 : 0 ≤ a3 ∧ a3 ≤ 8 := by rcases h31 with h | h <;> omega
    have HOK : Hid (∀ x ∈ [(⟨0, 2, a3, 4⟩ : Lin)], Enc.ok x) := one_ok (dl_ok2 (by omega) (by omega) (by omega) (by omega) (by omega))
    have HO : Hid ((w3.alloc (.cells #[.int .i64 0, .int .i64 2, .int .i64 a3, .int .i64 4] 42)).ownsRow w.heap.size 42 4 (.slice (some ⟨w3.heap.size, 0, none⟩) 1 1) 1 ([(⟨0, 2, a3, 4⟩ : Lin)].flatMap Enc.cells)) := own_one2 w3 ⟨0, 2, a3, 4⟩ (by have := hg3.size; omega)
    have HR := Lib.hid (R3.le (Le.new _ (.cells #[.int .i64 0, .int .i64 2, .int .i64 a3, .int .i64 4] 42)))
    have HG := Lib.hid ((T2.G.trans hg3).trans (Gx.of_le (g := g) (Le.new _ (.cells #[.int .i64 0, .int .i64 2, .int .i64 a3, .int .i64 4] 42))))
    clear T2 R3 hg3 ct2 zt2
    go_wp2
    go_ret
    exact ⟨_, [⟨0, 2, a3, 4⟩], p2 + 1, rfl, HO.out, HOK.out, by simp, by omega, HR.out, HG.out⟩
end

section
def TwoOut (k g p : Nat) (A : Option Addr) (n cap : Nat) (bs : List By) (w : World) (e : Ending) (w' : World) : Prop :=
  ∃ (B D E : Option Addr) (m c q d q2 d2 : Nat) (xs : List Cls) (L L2 : List Lin) (p' : Nat), e = .returned (.tuple #[.agg #[.slice B m c], .slice D q d, .slice E q2 d2]) ∧ Sl w' B m c xs ∧ m ≤ 8 ∧ (0 < m → ∀ a, B = some a → w.heap.size < a.block) ∧ Sl w' D q d L ∧ q ≤ 24 ∧ (0 < q → ∀ a, D = some a → w.heap.size < a.block) ∧ Sl w' E q2 d2 L2 ∧ q2 ≤ 8 ∧ (0 < q2 → ∀ a, E = some a → w.heap.size < a.block) ∧ p' ≤ p + k ∧ Rd w' g p' A n cap bs ∧ Gx g w w'
theorem Ps.out2 {w wr : World} {g p : Nat} {A : Option Addr} {n cap : Nat} {bs : List By} {B : Option Addr} {m c tb : Nat} {xs : List Cls} (h : Ps w wr g p A n cap bs B m c xs tb) (hA : 0 < n → ∀ a, A = some a → a.block < w.heap.size) (hm : m ≤ 8) {D E : Option Addr} {q d q2 d2 : Nat} {L L2 : List Lin} (SD : Sl wr D q d L) (hq : q ≤ 24) (hD : 0 < q → ∀ a, D = some a → w.heap.size < a.block) (SE : Sl wr E q2 d2 L2) (hq2 : q2 ≤ 8) (hE : 0 < q2 → ∀ a, E = some a → w.heap.size < a.block) {k p0 : Nat} (hp : p ≤ p0 + k) (u : Value) :
    TwoOut k g p0 A n cap bs w (.returned (.tuple #[.agg #[.slice B m c], .slice D q d, .slice E q2 d2])) (wr.setCell ⟨w.heap.size, 0, none⟩ u) :=
  ⟨B, D, E, m, c, q, d, q2, d2, xs, L, L2, p, rfl, h.S.grown (grown_set wr w.heap.size 0 u) (fun hn a e e2 => by have e3 : a.block = w.heap.size := (by injection e2); have := h.hB hn a e; omega), hm, fun hn a e => (h.hB hn a e).1, SD.grown (grown_set wr w.heap.size 0 u) (fun hn a e e2 => by have e3 : a.block = w.heap.size := (by injection e2); have := hD hn a e; omega), hq, hD, SE.grown (grown_set wr w.heap.size 0 u) (fun hn a e e2 => by have e3 : a.block = w.heap.size := (by injection e2); have := hE hn a e; omega), hq2, hE, hp,
    h.R.setNew u (by have := h.gw; omega) (fun hn a e => by have := hA hn a e; omega), h.G.setNewF (Nat.le_refl _) u⟩
set_option maxHeartbeats 4000000 in
set_option maxRecDepth 100000 in
theorem twoPrograms_any (g p : Nat) (A : Option Addr) (n cap : Nat) (bs : List By) (w : World) (hp : p ≤ 100000) (hR : Rd w g p A n cap bs) :
    Calls Try.prog 43 #[.pointer (some ⟨g, 0, none⟩)] w (TwoOut 700000 g p A n cap bs w) := by
  have hgw := hR.lt
  have HA : Hid (0 < n → ∀ a, A = some a → a.block < w.heap.size) := fun hn a e => hR.sl.under hn a e
  go_enter Try.func43, Try.ntmps43
  go_wp2_with fail
  obtain ⟨c0, z0, L0⟩ := box1 w (.slice none 0 0) 25
  have f0 : (w.alloc (.cells #[.slice none 0 0] 25)).frozen? ⟨w.heap.size, 0, none⟩ = false := World.frozen?_alloc_at _ _ _ _ rfl
  have R0 := hR.le L0
  generalize w.alloc (.cells #[.slice none 0 0] 25) = W at *
  refine (someProgram_any g p A n cap bs W (by omega) R0).mono ?_
  rintro e w1 ⟨B, D, m, c, q, d, xs, L, p1, rfl, S, hm, hab, SD, hq, hD, hp1, R, hg⟩
  have hz1 : w.heap.size < w1.heap.size := Nat.lt_of_lt_of_le z0 hg.size
  have PS : Ps w (w1.alloc (.cells #[.slice B m c] 25)) g p1 A n cap bs B m c xs w1.heap.size := by
    obtain ⟨ct, zt, LB⟩ := box1 w1 (.slice B m c) 25
    exact ⟨R.le LB, ((Gx.of_le (g := g) L0).trans hg).trans (Gx.of_le LB), hgw, (LB.cell hz1).trans ((hg.cell z0 (by omega)).trans c0), (LB.frozen hz1).trans ((hg.frozen z0 (by omega)).trans f0), ct, hz1, zt, S.le LB, fun hn a e => ⟨by have := hab hn a e; omega, S.under hn a e⟩⟩
  have SD1 := SD.alloc (.cells #[.slice B m c] 25)
  have hD1 : 0 < q → ∀ a, D = some a → w.heap.size < a.block := fun hn a e => by have := hD hn a e; omega
  have HD := Lib.hid hD1
  have HOF : Hid (0 < q → Off g D) := fun hn a e => by have := hD1 hn a e; omega
  clear R S SD hab hg R0 L0 f0 c0 z0 hR hD hD1
  go_wp2_with fail
  generalize w1.alloc (.cells #[.slice B m c] 25) = W1 at *
  generalize w1.heap.size = tb at *
  refine (pick_any 2 g p1 A n cap bs W1 (by omega) (by omega) (by omega) PS.R).mono ?_
  rintro e w2 ⟨y, rfl, _, _, R2, hg2⟩
  have PS2 := PS.call R2 hg2
  have SD2 := SD1.gx HOF.out hg2
  have ct := PS2.ct
  clear PS SD1 R2 hg2
  by_cases hy : y = 0
  · subst hy
    go_wp2_with fail
    refine (shortProgram_any B m c g (p1 + 1) A n cap bs w2 hm (by omega) PS2.R).mono ?_
    rintro e w3 ⟨v3, L3, p3, rfl, O3, hok3, hl3, hp3, R3, hg3⟩
    have P3 := PS2.call R3 hg3
    obtain ⟨D3, q3, rfl⟩ := own_form O3
    have SD3 := Sl.of_own O3 rfl (by decide) hok3
    have hz3 : w.heap.size < w2.heap.size := by have h1 := PS2.z0; have h2 := PS2.zt; omega
    have HD3 : Hid (0 < L3.length → ∀ a, D3 = some a → w.heap.size < a.block) := fun hn a e => by
      subst e
      have h3 := (O3.lt a.block rfl).1
      omega
    have HOF3 : Hid (0 < L3.length → Off g D3) := fun hn a e => by
      have h3 := HD3.out hn a e
      omega
    have HQ3 : Hid (L3.length ≤ 24) := by show _ ≤ _; omega
    have ct3 := P3.ct
    clear O3 hok3 R3 hg3 PS2 SD2 ct
    go_wp2_with fail
    have PD := P3.le (Le.refl w3).drew
    have SDD := SD3.le (Le.refl w3).drew
    refine wp_region_noPanic ?_
    refine wp_region_held_drew (S := fun w' => w'.cell? ⟨tb, 0, none⟩ = some (.slice B m c)) (by kernel_rfl) PD.ct (fun hHeld => ?_)
    refine wpAnyH_takeL (i := 0) (v := ?_) rfl (by kernel_rfl) (by kernel_rfl) (by kernel_rfl) (fun _ _ _ h => h) (Or.inl ⟨by rfl, ?_⟩) (by assumption) ?_
    rotate_left 1
    · (intro w hSw; (try dsimp only at hSw); go_simp; try with_reducible rfl)
    try simp only [Act.put, List.setIfInBounds_toArray, List.set_cons_zero, List.set_cons_succ]
    refine wpAnyH_takeL (i := 1) (v := ?_) rfl (by kernel_rfl) (by kernel_rfl) (by kernel_rfl) (fun _ _ _ h => h) (Or.inl ⟨by rfl, ?_⟩) (by assumption) ?_
    rotate_left 1
    · (intro w hSw; (try dsimp only at hSw); go_simp; try with_reducible rfl)
    try simp only [Act.put, List.setIfInBounds_toArray, List.set_cons_zero, List.set_cons_succ]
    refine wpAnyH_takeL (i := 2) (v := ?_) rfl (by kernel_rfl) (by kernel_rfl) (by kernel_rfl) (fun _ _ _ h => h) (Or.inl ⟨by rfl, ?_⟩) (by assumption) ?_
    rotate_left 1
    · (intro w hSw; (try dsimp only at hSw); go_simp; try with_reducible rfl)
    try simp only [Act.put, List.setIfInBounds_toArray, List.set_cons_zero, List.set_cons_succ]
    refine wpAnyH_takeL (i := 3) (v := ?_) rfl (by kernel_rfl) (by kernel_rfl) (by kernel_rfl) (fun _ _ _ h => h) (Or.inl ⟨by rfl, ?_⟩) (by assumption) ?_
    rotate_left 1
    · (intro w hSw; (try dsimp only at hSw); go_simp; try with_reducible rfl)
    try simp only [Act.put, List.setIfInBounds_toArray, List.set_cons_zero, List.set_cons_succ]
    refine wpAnyH_ready (rs := [4]) (by kernel_rfl) (by simp) (AllReadyH.consL (i := 4) rfl (fun K hK => ?_) AllReadyH.nil)
    go_simp
    go_at_call 72
    refine (shortProgram_any B m c g p3 A n cap bs w3.drew hm (by omega) PD.R).mono ?_
    rintro e w5 ⟨v5, L5, p5, rfl, O5, hok5, hl5, hp5, R5, hg5⟩
    have P5 := PD.call R5 hg5
    have SD5 := SDD.gx HOF3.out hg5
    obtain ⟨E, d5, rfl⟩ := own_form O5
    have SE := Sl.of_own O5 rfl (by decide) hok5
    have hz5 : w.heap.size < w3.drew.heap.size := by have h1 := PD.z0; have h2 := PD.zt; omega
    have hE : 0 < L5.length → ∀ a, E = some a → w.heap.size < a.block := fun hn a e => by
      subst e
      have h3 := (O5.lt a.block rfl).1
      omega
    have HE := Lib.hid hE
    have HLE := Lib.hid hl5
    have c3 := P5.c0
    have f3 := P5.f0
    clear O5 hok5 R5 hg5 hE
    refine hK.out _ _ (P5.ct) (fun hHeld => ?_)
    clear hK K
    try simp only [Act.put, List.setIfInBounds_toArray, List.set_cons_zero, List.set_cons_succ]
    refine wpAnyH_ready (rs := [5]) (by kernel_rfl) (by simp) (AllReadyH.consL (i := 5) rfl (fun K hK => ?_) AllReadyH.nil)
    go_simp
    have hend : ∀ u, (w5.setCell ⟨w.heap.size, 0, none⟩ u).cell? ⟨w.heap.size, 0, none⟩ = some u := fun u => cell_set_same c3
    refine hK.out _ _ (((cell_set_other (.inl (by have := P5.z0; omega))).trans P5.ct)) (fun hHeld => ?_)
    clear hK K
    try simp only [Act.put, List.setIfInBounds_toArray, List.set_cons_zero, List.set_cons_succ]
    refine wpAnyH_takeL (i := 6) (v := ?_) rfl (by kernel_rfl) (by kernel_rfl) (by kernel_rfl) (fun _ _ _ h => h) (Or.inl ⟨by rfl, ?_⟩) (by assumption) ?_
    rotate_left 1
    · (intro w hSw; (try dsimp only at hSw); go_simp; try with_reducible rfl)
    try simp only [Act.put, List.setIfInBounds_toArray, List.set_cons_zero, List.set_cons_succ]
    refine wpAnyH_takeL (i := 7) (v := ?_) rfl (by kernel_rfl) (by kernel_rfl) (by kernel_rfl) (fun _ _ _ h => h) (Or.inl ⟨by rfl, ?_⟩) (by assumption) ?_
    rotate_left 1
    · (intro w hSw; (try dsimp only at hSw); go_simp; try with_reducible rfl)
    try simp only [Act.put, List.setIfInBounds_toArray, List.set_cons_zero, List.set_cons_succ]
    refine wpAnyH_done (by kernel_rfl) ?_ _
    refine NoPanic.normal ?_
    have HF := Lib.hid (P5.out2 HA.out hm SD5 HQ3.out HD3.out SE HLE.out HE.out (k := 700000) (p0 := p) (by omega) (.slice B m c))
    clear hHeld SE SD5 HE HLE
    go_wp2
    exact bodyPost_ret (v := .tuple #[.agg #[.slice B m c], .slice D3 L3.length q3, .slice E L5.length d5]) (by simp [results, Try.results43, go_sem, hend]) rfl HF.out
  · have hyb : (y == 0) = false := by simpa using hy
    have HQ : Hid (q ≤ 24) := hq
    clear hy
    go_wp2_with fail
    have PD := PS2.le (Le.refl w2).drew
    have SDD := SD2.le (Le.refl w2).drew
    refine wp_region_noPanic ?_
    refine wp_region_held_drew (S := fun w' => w'.cell? ⟨tb, 0, none⟩ = some (.slice B m c)) (by kernel_rfl) PD.ct (fun hHeld => ?_)
    refine wpAnyH_takeL (i := 0) (v := ?_) rfl (by kernel_rfl) (by kernel_rfl) (by kernel_rfl) (fun _ _ _ h => h) (Or.inl ⟨by rfl, ?_⟩) (by assumption) ?_
    rotate_left 1
    · (intro w hSw; (try dsimp only at hSw); go_simp; try with_reducible rfl)
    try simp only [Act.put, List.setIfInBounds_toArray, List.set_cons_zero, List.set_cons_succ]
    refine wpAnyH_takeL (i := 1) (v := ?_) rfl (by kernel_rfl) (by kernel_rfl) (by kernel_rfl) (fun _ _ _ h => h) (Or.inl ⟨by rfl, ?_⟩) (by assumption) ?_
    rotate_left 1
    · (intro w hSw; (try dsimp only at hSw); go_simp; try with_reducible rfl)
    try simp only [Act.put, List.setIfInBounds_toArray, List.set_cons_zero, List.set_cons_succ]
    refine wpAnyH_takeL (i := 2) (v := ?_) rfl (by kernel_rfl) (by kernel_rfl) (by kernel_rfl) (fun _ _ _ h => h) (Or.inl ⟨by rfl, ?_⟩) (by assumption) ?_
    rotate_left 1
    · (intro w hSw; (try dsimp only at hSw); go_simp; try with_reducible rfl)
    try simp only [Act.put, List.setIfInBounds_toArray, List.set_cons_zero, List.set_cons_succ]
    refine wpAnyH_takeL (i := 3) (v := ?_) rfl (by kernel_rfl) (by kernel_rfl) (by kernel_rfl) (fun _ _ _ h => h) (Or.inl ⟨by rfl, ?_⟩) (by assumption) ?_
    rotate_left 1
    · (intro w hSw; (try dsimp only at hSw); go_simp; try with_reducible rfl)
    try simp only [Act.put, List.setIfInBounds_toArray, List.set_cons_zero, List.set_cons_succ]
    refine wpAnyH_ready (rs := [4]) (by kernel_rfl) (by simp) (AllReadyH.consL (i := 4) rfl (fun K hK => ?_) AllReadyH.nil)
    go_simp
    go_at_call 72
    refine (shortProgram_any B m c g (p1 + 1) A n cap bs w2.drew hm (by omega) PD.R).mono ?_
    rintro e w5 ⟨v5, L5, p5, rfl, O5, hok5, hl5, hp5, R5, hg5⟩
    have P5 := PD.call R5 hg5
    have SD5 := SDD.gx HOF.out hg5
    obtain ⟨E, d5, rfl⟩ := own_form O5
    have SE := Sl.of_own O5 rfl (by decide) hok5
    have hz5 : w.heap.size < w2.drew.heap.size := by have h1 := PD.z0; have h2 := PD.zt; omega
    have hE : 0 < L5.length → ∀ a, E = some a → w.heap.size < a.block := fun hn a e => by
      subst e
      have h3 := (O5.lt a.block rfl).1
      omega
    have HE := Lib.hid hE
    have HLE := Lib.hid hl5
    have c3 := P5.c0
    have f3 := P5.f0
    clear O5 hok5 R5 hg5 hE
    refine hK.out _ _ (P5.ct) (fun hHeld => ?_)
    clear hK K
    try simp only [Act.put, List.setIfInBounds_toArray, List.set_cons_zero, List.set_cons_succ]
    refine wpAnyH_ready (rs := [5]) (by kernel_rfl) (by simp) (AllReadyH.consL (i := 5) rfl (fun K hK => ?_) AllReadyH.nil)
    go_simp
    have hend : ∀ u, (w5.setCell ⟨w.heap.size, 0, none⟩ u).cell? ⟨w.heap.size, 0, none⟩ = some u := fun u => cell_set_same c3
    refine hK.out _ _ (((cell_set_other (.inl (by have := P5.z0; omega))).trans P5.ct)) (fun hHeld => ?_)
    clear hK K
    try simp only [Act.put, List.setIfInBounds_toArray, List.set_cons_zero, List.set_cons_succ]
    refine wpAnyH_takeL (i := 6) (v := ?_) rfl (by kernel_rfl) (by kernel_rfl) (by kernel_rfl) (fun _ _ _ h => h) (Or.inl ⟨by rfl, ?_⟩) (by assumption) ?_
    rotate_left 1
    · (intro w hSw; (try dsimp only at hSw); go_simp; try with_reducible rfl)
    try simp only [Act.put, List.setIfInBounds_toArray, List.set_cons_zero, List.set_cons_succ]
    refine wpAnyH_takeL (i := 7) (v := ?_) rfl (by kernel_rfl) (by kernel_rfl) (by kernel_rfl) (fun _ _ _ h => h) (Or.inl ⟨by rfl, ?_⟩) (by assumption) ?_
    rotate_left 1
    · (intro w hSw; (try dsimp only at hSw); go_simp; try with_reducible rfl)
    try simp only [Act.put, List.setIfInBounds_toArray, List.set_cons_zero, List.set_cons_succ]
    refine wpAnyH_done (by kernel_rfl) ?_ _
    refine NoPanic.normal ?_
    have HF := Lib.hid (P5.out2 HA.out hm SD5 HQ.out HD.out SE HLE.out HE.out (k := 700000) (p0 := p) (by omega) (.slice B m c))
    clear hHeld SE SD5 HE HLE
    go_wp2
    exact bodyPost_ret (v := .tuple #[.agg #[.slice B m c], .slice D q d, .slice E L5.length d5]) (by simp [results, Try.results43, go_sem, hend]) rfl HF.out
/-- a tree and two programs that were drawn for a law -/
def Drawn2 (w : World) (e : Ending) (w' : World) : Prop :=
  ∃ (B D E : Option Addr) (m c q d q2 d2 : Nat) (xs : List Cls) (L L2 : List Lin), e = .returned (.tuple #[.agg #[.slice B m c], .slice D q d, .slice E q2 d2]) ∧ Sl w' B m c xs ∧ m ≤ 8 ∧ Sl w' D q d L ∧ q ≤ 24 ∧ Sl w' E q2 d2 L2 ∧ q2 ≤ 8 ∧ Le w w'
set_option maxHeartbeats 1000000 in
set_option maxRecDepth 100000 in
theorem drawThenProgram_any (A : Option Addr) (n cap : Nat) (bs : List By) (w : World) (hR : Sl w A n cap bs) : Calls Try.prog 19 #[.slice A n cap] w (Drawn2 w) := by
  go_enter Try.func19, Try.ntmps19
  go_wp2_with fail
  obtain ⟨c0, z0, L0⟩ := box1 w (.slice none 0 0) 25
  have f0 : (w.alloc (.cells #[.slice none 0 0] 25)).frozen? ⟨w.heap.size, 0, none⟩ = false := World.frozen?_alloc_at _ _ _ _ rfl
  have S0 := hR.le L0
  generalize w.alloc (.cells #[.slice none 0 0] 25) = W at *
  refine (newReader_any A n cap bs W S0).mono ?_
  rintro e w1 ⟨g, A1, n1, k1, bs1, rfl, hg, R1, hle⟩
  have hz1 : w.heap.size < w1.heap.size := Nat.lt_of_lt_of_le z0 hle.size
  replace c0 := (hle.cell z0).trans c0
  replace f0 := (hle.frozen z0).trans f0
  replace L0 := L0.trans hle
  clear S0
  have hgz : w.heap.size ≠ g := by omega
  go_wp2_with fail
  refine (twoPrograms_any g 0 A1 n1 k1 bs1 w1 (by omega) R1).mono ?_
  rintro e w2 ⟨B, D, E, m, c, q, d, q2, d2, xs, L, L2, p2, rfl, S2, hm, hab, SD, hq, hD, SE, hq2, hE, hp2, R2, hg2⟩
  replace c0 := (hg2.cell hz1 hgz).trans c0
  replace f0 := (hg2.frozen hz1 hgz).trans f0
  have LL := Gx.le L0 hg2 (by omega)
  have hend : ∀ u, (w2.setCell ⟨w.heap.size, 0, none⟩ u).cell? ⟨w.heap.size, 0, none⟩ = some u := fun u => cell_set_same c0
  have hSx : ∀ u, Sl (w2.setCell ⟨w.heap.size, 0, none⟩ u) B m c xs := fun u => S2.gx (fun h a e => by have := hab h a e; omega) (Gx.set w.heap.size 0 w2 u)
  have hSy : ∀ u, Sl (w2.setCell ⟨w.heap.size, 0, none⟩ u) D q d L := fun u => SD.gx (fun h a e => by have := hD h a e; omega) (Gx.set w.heap.size 0 w2 u)
  have hSz : ∀ u, Sl (w2.setCell ⟨w.heap.size, 0, none⟩ u) E q2 d2 L2 := fun u => SE.gx (fun h a e => by have := hE h a e; omega) (Gx.set w.heap.size 0 w2 u)
  clear hle L0 R1 R2 hg2 S2 SD SE
  go_wp2
  exact bodyPost_ret (v := .tuple #[.agg #[.slice B m c], .slice D q d, .slice E q2 d2]) (by simp [results, Try.results19, go_sem, hend]) rfl ⟨B, D, E, m, c, q, d, q2, d2, xs, L, L2, rfl, hSx _, hm, hSy _, hq, hSz _, hq2, LL.setCell (Nat.le_refl _) _⟩
set_option maxHeartbeats 1000000 in
set_option maxRecDepth 100000 in
theorem drawWithFinally_any (A : Option Addr) (n cap : Nat) (bs : List By) (w : World) (hR : Sl w A n cap bs) : Calls Try.prog 23 #[.slice A n cap] w (Drawn2 w) := by
  go_enter Try.func23, Try.ntmps23
  go_wp2_with fail
  obtain ⟨c0, z0, L0⟩ := box1 w (.slice none 0 0) 25
  have f0 : (w.alloc (.cells #[.slice none 0 0] 25)).frozen? ⟨w.heap.size, 0, none⟩ = false := World.frozen?_alloc_at _ _ _ _ rfl
  have S0 := hR.le L0
  generalize w.alloc (.cells #[.slice none 0 0] 25) = W at *
  refine (newReader_any A n cap bs W S0).mono ?_
  rintro e w1 ⟨g, A1, n1, k1, bs1, rfl, hg, R1, hle⟩
  have hz1 : w.heap.size < w1.heap.size := Nat.lt_of_lt_of_le z0 hle.size
  replace c0 := (hle.cell z0).trans c0
  replace f0 := (hle.frozen z0).trans f0
  replace L0 := L0.trans hle
  clear S0
  have hgz : w.heap.size ≠ g := by omega
  go_wp2_with fail
  refine (twoPrograms_any g 0 A1 n1 k1 bs1 w1 (by omega) R1).mono ?_
  rintro e w2 ⟨B, D, E, m, c, q, d, q2, d2, xs, L, L2, p2, rfl, S2, hm, hab, SD, hq, hD, SE, hq2, hE, hp2, R2, hg2⟩
  replace c0 := (hg2.cell hz1 hgz).trans c0
  replace f0 := (hg2.frozen hz1 hgz).trans f0
  have LL := Gx.le L0 hg2 (by omega)
  have hend : ∀ u, (w2.setCell ⟨w.heap.size, 0, none⟩ u).cell? ⟨w.heap.size, 0, none⟩ = some u := fun u => cell_set_same c0
  have hSx : ∀ u, Sl (w2.setCell ⟨w.heap.size, 0, none⟩ u) B m c xs := fun u => S2.gx (fun h a e => by have := hab h a e; omega) (Gx.set w.heap.size 0 w2 u)
  have hSy : ∀ u, Sl (w2.setCell ⟨w.heap.size, 0, none⟩ u) D q d L := fun u => SD.gx (fun h a e => by have := hD h a e; omega) (Gx.set w.heap.size 0 w2 u)
  have hSz : ∀ u, Sl (w2.setCell ⟨w.heap.size, 0, none⟩ u) E q2 d2 L2 := fun u => SE.gx (fun h a e => by have := hE h a e; omega) (Gx.set w.heap.size 0 w2 u)
  clear hle L0 R1 R2 hg2 S2 SD SE
  go_wp2
  exact bodyPost_ret (v := .tuple #[.agg #[.slice B m c], .slice D q d, .slice E q2 d2]) (by simp [results, Try.results23, go_sem, hend]) rfl ⟨B, D, E, m, c, q, d, q2, d2, xs, L, L2, rfl, hSx _, hm, hSy _, hq, hSz _, hq2, LL.setCell (Nat.le_refl _) _⟩
end

section
/-- a tree, a program and a number that were drawn for a law -/
def DrawnIL (w : World) (e : Ending) (w' : World) : Prop :=
  ∃ (B D : Option Addr) (m c q d : Nat) (xs : List Cls) (L : List Lin) (i : Int), e = .returned (.tuple #[.agg #[.slice B m c], .slice D q d, .int .i64 i]) ∧ Sl w' B m c xs ∧ m ≤ 8 ∧ Sl w' D q d L ∧ q ≤ 24 ∧ -1 ≤ i ∧ i ≤ 4 ∧ Le w w'
set_option maxHeartbeats 4000000 in
set_option maxRecDepth 100000 in
theorem drawInLoop_any (A : Option Addr) (n cap : Nat) (bs : List By) (w : World) (hR : Sl w A n cap bs) : Calls Try.prog 27 #[.slice A n cap] w (DrawnIL w) := by
  go_enter Try.func27, Try.ntmps27
  go_wp2_with fail
  obtain ⟨c0, z0, L0⟩ := box1 w (.slice none 0 0) 25
  have f0 : (w.alloc (.cells #[.slice none 0 0] 25)).frozen? ⟨w.heap.size, 0, none⟩ = false := World.frozen?_alloc_at _ _ _ _ rfl
  have S0 := hR.le L0
  generalize w.alloc (.cells #[.slice none 0 0] 25) = W at *
  refine (newReader_any A n cap bs W S0).mono ?_
  rintro e w1 ⟨g, A1, n1, k1, bs1, rfl, hg, R1, hle⟩
  have hz1 : w.heap.size < w1.heap.size := Nat.lt_of_lt_of_le z0 hle.size
  replace c0 := (hle.cell z0).trans c0
  replace f0 := (hle.frozen z0).trans f0
  replace L0 := L0.trans hle
  have hgw := R1.lt
  clear S0 hle hR
  have hgz : w.heap.size ≠ g := by omega
  go_wp2_with fail
  refine (twoPrograms_any g 0 A1 n1 k1 bs1 w1 (by omega) R1).mono ?_
  rintro e w2 ⟨B, D, E, m, c, q, d, q2, d2, xs, L, L2, p2, rfl, S2, hm, hab, SD, hq, hD, -, -, -, hp2, R2, hg2⟩
  replace c0 := (hg2.cell hz1 hgz).trans c0
  replace f0 := (hg2.frozen hz1 hgz).trans f0
  have LL := Gx.le L0 hg2 (by omega)
  have hz2 := Nat.lt_of_lt_of_le hz1 hg2.size
  have hw12 := hg2.size
  have HOB : Hid (0 < m → Off g B) := fun h a e => by have := hab h a e; omega
  have HOD : Hid (0 < q → Off g D) := fun h a e => by have := hD h a e; omega
  have HAB : Hid (0 < m → ∀ a, B = some a → w.heap.size < a.block) := fun h a e => by have := hab h a e; omega
  have HDB : Hid (0 < q → ∀ a, D = some a → w.heap.size < a.block) := fun h a e => by have := hD h a e; omega
  clear R1 hg2 L0 hab hD
  obtain ⟨ct, zt, LB⟩ := box1 w2 (.slice B m c) 25
  have hgt : w2.heap.size ≠ g := by omega
  have htw : w.heap.size ≠ w2.heap.size := by omega
  replace c0 := (LB.cell hz2).trans c0
  replace f0 := (LB.frozen hz2).trans f0
  have hz3 := Nat.lt_of_lt_of_le hz2 LB.size
  replace S2 := S2.le LB
  replace SD := SD.le LB
  replace R2 := R2.le LB
  replace LL := LL.trans LB
  clear hz2 LB hw12
  go_wp2_with fail
  generalize w2.alloc (.cells #[.slice B m c] 25) = W3 at *
  generalize w2.heap.size = tb at *
  have SX := S2.le (Le.refl W3).drew
  have SY := SD.le (Le.refl W3).drew
  have RX := R2.le (Le.refl W3).drew
  have cX : W3.drew.cell? ⟨w.heap.size, 0, none⟩ = some (.slice none 0 0) := c0
  have fX : W3.drew.frozen? ⟨w.heap.size, 0, none⟩ = false := f0
  have ctX : W3.drew.cell? ⟨tb, 0, none⟩ = some (.slice B m c) := ct
  have LX := LL.trans (Le.refl W3).drew
  have zX : w.heap.size < W3.drew.heap.size := hz3
  have ztX : tb < W3.drew.heap.size := zt
  clear S2 SD R2 c0 f0 ct LL hz3 zt
  refine wp_region_noPanic ?_
  refine wp_region_held_drew (S := fun w' => w'.cell? ⟨tb, 0, none⟩ = some (.slice B m c)) (by kernel_rfl) ctX (fun hHeld => ?_)
  generalize W3.drew = WD at *
  refine wpAnyH_takeL (i := 0) (v := ?_) rfl (by kernel_rfl) (by kernel_rfl) (by kernel_rfl) (fun _ _ _ h => h) (Or.inl ⟨by rfl, ?_⟩) (by assumption) ?_
  rotate_left 1
  · (intro w hSw; (try dsimp only at hSw); go_simp; try with_reducible rfl)
  try simp only [Act.put, List.setIfInBounds_toArray, List.set_cons_zero, List.set_cons_succ]
  refine wpAnyH_takeL (i := 1) (v := ?_) rfl (by kernel_rfl) (by kernel_rfl) (by kernel_rfl) (fun _ _ _ h => h) (Or.inl ⟨by rfl, ?_⟩) (by assumption) ?_
  rotate_left 1
  · (intro w hSw; (try dsimp only at hSw); go_simp; try with_reducible rfl)
  try simp only [Act.put, List.setIfInBounds_toArray, List.set_cons_zero, List.set_cons_succ]
  refine wpAnyH_takeL (i := 2) (v := ?_) rfl (by kernel_rfl) (by kernel_rfl) (by kernel_rfl) (fun _ _ _ h => h) (Or.inl ⟨by rfl, ?_⟩) (by assumption) ?_
  rotate_left 1
  · (intro w hSw; (try dsimp only at hSw); go_simp; try with_reducible rfl)
  try simp only [Act.put, List.setIfInBounds_toArray, List.set_cons_zero, List.set_cons_succ]
  refine wpAnyH_ready (rs := [3]) (by kernel_rfl) (by simp) (AllReadyH.consL (i := 3) rfl (fun K hK => ?_) AllReadyH.nil)
  go_simp
  have LI := Le.new WD (.cells #[.int .i64 1, .int .i64 2, .int .i64 0, .int .i64 3, .int .i64 4, .int .i64 (-1)] 3)
  refine hK.out _ _ (((LI.cell ztX).trans ctX)) (fun hHeld => ?_)
  clear hK K
  try simp only [Act.put, List.setIfInBounds_toArray, List.set_cons_zero, List.set_cons_succ]
  refine wpAnyH_ready (rs := [4]) (by kernel_rfl) (by simp) (AllReadyH.consL (i := 4) rfl (fun K hK => ?_) AllReadyH.nil)
  go_simp
  go_at_call 50
  refine (one_lit [1, 2, 0, 3, 4, -1] 6 _ _ g p2 A1 n1 k1 bs1 WD _ rfl rfl (by decide) (by decide) (by intro x hx; simp at hx; constructor <;> omega) (by omega) rfl RX).mono ?_
  rintro e w5 ⟨i, rfl, hi, R5, hg5⟩
  have hi1 : -1 ≤ i ∧ i ≤ 4 := by simp at hi; omega
  have c5 := (hg5.cell zX hgz).trans cX
  have f5 := (hg5.frozen zX hgz).trans fX
  have ct5 := (hg5.cell ztX hgt).trans ctX
  have S5 := SX.gx HOB.out hg5
  have D5 := SY.gx HOD.out hg5
  have L5 := Gx.le LX hg5 (by omega)
  clear LI hg5 R5 SX SY RX cX fX ctX LX
  refine hK.out _ _ (ct5) (fun hHeld => ?_)
  clear hK K
  try simp only [Act.put, List.setIfInBounds_toArray, List.set_cons_zero, List.set_cons_succ]
  refine wpAnyH_ready (rs := [5]) (by kernel_rfl) (by simp) (AllReadyH.consL (i := 5) rfl (fun K hK => ?_) AllReadyH.nil)
  go_simp
  have hend : ∀ u, (w5.setCell ⟨w.heap.size, 0, none⟩ u).cell? ⟨w.heap.size, 0, none⟩ = some u := fun u => cell_set_same c5
  have hSx : ∀ u, Sl (w5.setCell ⟨w.heap.size, 0, none⟩ u) B m c xs := fun u => S5.gx (fun h a e => by have := HAB.out h a e; omega) (Gx.set w.heap.size 0 w5 u)
  have hSy : ∀ u, Sl (w5.setCell ⟨w.heap.size, 0, none⟩ u) D q d L := fun u => D5.gx (fun h a e => by have := HDB.out h a e; omega) (Gx.set w.heap.size 0 w5 u)
  refine hK.out _ _ (((cell_set_other (.inl htw)).trans ct5)) (fun hHeld => ?_)
  clear hK K
  try simp only [Act.put, List.setIfInBounds_toArray, List.set_cons_zero, List.set_cons_succ]
  refine wpAnyH_takeL (i := 6) (v := ?_) rfl (by kernel_rfl) (by kernel_rfl) (by kernel_rfl) (fun _ _ _ h => h) (Or.inl ⟨by rfl, ?_⟩) (by assumption) ?_
  rotate_left 1
  · (intro w hSw; (try dsimp only at hSw); go_simp; try with_reducible rfl)
  try simp only [Act.put, List.setIfInBounds_toArray, List.set_cons_zero, List.set_cons_succ]
  refine wpAnyH_takeL (i := 7) (v := ?_) rfl (by kernel_rfl) (by kernel_rfl) (by kernel_rfl) (fun _ _ _ h => h) (Or.inl ⟨by rfl, ?_⟩) (by assumption) ?_
  rotate_left 1
  · (intro w hSw; (try dsimp only at hSw); go_simp; try with_reducible rfl)
  try simp only [Act.put, List.setIfInBounds_toArray, List.set_cons_zero, List.set_cons_succ]
  refine wpAnyH_done (by kernel_rfl) ?_ _
  refine NoPanic.normal ?_
  have HF := Lib.hid (And.intro hi1 (L5.setCell (b := w.heap.size) (o := 0) (Nat.le_refl _) (.slice B m c)))
  clear hHeld S5 D5 L5 hi
  go_wp2
  exact bodyPost_ret (v := .tuple #[.agg #[.slice B m c], .slice D q d, .int .i64 i]) (by simp [results, Try.results27, go_sem, hend]) rfl ⟨B, D, m, c, q, d, xs, L, i, rfl, hSx _, hm, hSy _, hq, HF.out.1.1, HF.out.1.2, HF.out.2⟩
end

section
theorem infoCcLine : (Try.prog.info? 42).map (fun i => (i.zero, i.size, i.bytes)) = some (some (.agg #[.int .i64 0, .int .i64 0, .int .i64 0, .int .i64 0]), 4, 32) := by kernel_rfl
def GrowOutLine (w : World) (e : Ending) (w' : World) : Prop := ∃ g G, e = .returned (.slice (some ⟨g, 0, none⟩) 0 G) ∧ w'.ownsRow w.heap.size 42 4 (.slice (some ⟨g, 0, none⟩) 0 G) 0 [] ∧ Le w w'
set_option maxRecDepth 100000 in
theorem growLine_any (n : Nat) (w : World) (hn : 0 < n) (hb : n ≤ 4194304) : Calls Try.prog 73 #[.slice none 0 0, .int .i64 n] w (GrowOutLine w) := by
  obtain ⟨i0, hi, hz0, hz1, hz2⟩ := info_parts infoCcLine
  have hold : (Builtin.firstCells i0.size 0 (.slice none 0 0)).run Try.prog w.drew = .ok ([] : List Value).toArray w.drew := by simp [Builtin.firstCells]
  have hrz : ∀ ty, (Builtin.append_ #[26, 3] ty #[.slice none 0 0, .int .i64 (n : Int)]).run Try.prog w = .ok (.slice (some ⟨w.heap.size, 0, none⟩) (0 + n) (grownCap w (0 + n) 0 42)) (w.drew.alloc (.cells (([] : List Value).toArray ++ Builtin.zeroCells _ n ++ Builtin.zeroCells _ (grownCap w (0 + n) 0 42 - (0 + n))) 42)) := fun ty =>
    Lib.run_append_grow_zeros w 26 3 ty 42 i0 _ .i64 .i64 Try.underlying26 Try.underlying3 hi hz0 none 0 0 [] hold n hn (by omega) (by omega) (by omega) (by rw [hz2]; omega) (growslice_fits (by omega) (by rw [hz2]; omega))
  have hge := grownCap_ge w (0 + n) 0 42
  have hml := grownCap_le_maxLen w (0 + n) 0 42 (by unfold maxLen; omega)
  have hrow : ∀ G, n ≤ G → G ≤ maxLen → (w.drew.alloc (.cells (([] : List Value).toArray ++ Builtin.zeroCells (Value.agg #[.int .i64 0, .int .i64 0, .int .i64 0, .int .i64 0]).cells n ++ Builtin.zeroCells (Value.agg #[.int .i64 0, .int .i64 0, .int .i64 0, .int .i64 0]).cells (G - (0 + n))) 42)).ownsRow w.heap.size 42 4 (.slice (some ⟨w.heap.size, 0, none⟩) 0 G) 0 [] := by
    intro G h1 h2
    refine ⟨rfl, .inr ⟨w.heap.size, G, _, rfl, Nat.le_refl _, heap_alloc_new w.drew _, Nat.zero_le _, h2, ?_, by simp⟩⟩
    simp [size_zeroCells, Value.cells]
    omega
  have HR := Lib.hid hrow; clear hrow
  have hml' : grownCap w (0 + n) 0 42 ≤ 9223372036854775807 := by unfold maxLen at hml; exact hml
  have hge' : n ≤ grownCap w (0 + n) 0 42 := by omega
  have HML := Lib.hid hml
  clear hold hge hml hz0 hi hz1 hz2
  generalize grownCap w (0 + n) 0 42 = G at *
  go_enter Try.func73, Try.ntmps73
  go_wp2_with (at_builtin; refine Lib.wpList_append_run _ rfl _ _ _ _ rfl _ _ rfl rfl _ _ (hrz _) ?_)
  go_ret
  exact ⟨w.heap.size, G, rfl, by have h := HR.out G hge' HML.out; simp [Value.cells] at h; exact h, ((Le.refl w).alloc _).drew⟩

set_option maxHeartbeats 1000000 in
set_option maxRecDepth 100000 in
theorem concatLine_any (A B : Option Addr) (n cap m c b : Nat) (xs ys : List Lin) (w : World) (hR : Sl w A n cap xs) (hL : Sl w B m c ys) (h0 : 0 < n + m) (hn : n + m ≤ 4194304)
    (cb0 : w.cell? ⟨b, 0, none⟩ = some (.slice A n cap)) (cb1 : w.cell? ⟨b, 1, none⟩ = some (.slice B m c)) (zb : b < w.heap.size) :
    Calls Try.prog 45 #[.slice (some ⟨b, 0, none⟩) 2 2] w fun e w' => ∃ v, e = .returned v ∧ Owd 42 w w' v (xs ++ ys) ∧ Le w w' := by
  obtain ⟨i0, hi, hz0, hz1, hz2⟩ := info_parts infoCcLine
  have hlen : (xs ++ ys).length = n + m := by simp [hR.len, hL.len]
  have HLen := Lib.hid hlen; clear hlen
  have hokA : ∀ x ∈ xs ++ ys, Enc.ok x := by
    intro x hx
    rcases List.mem_append.1 hx with hx | hx
    · exact hR.ok x hx
    · exact hL.ok x hx
  have HA := Lib.hid hokA; clear hokA
  have e2 : (n : Int) + (m : Int) = ((n + m : Nat) : Int) := by omega
  have E2 := Lib.hid e2; clear e2
  go_enter Try.func45, Try.ntmps45
  go_wp2
  refine wp_loop_rounds 3 ?_
  rw [rounds_succ]
  go_wp2
  rw [rounds_succ]
  go_wp2
  rw [rounds_succ]
  go_wp2_with fail
  rw [E2.out]
  refine (growLine_any (n + m) w h0 hn).mono ?_
  rintro e w1 ⟨g, G, rfl, O1, hle⟩
  have HLT := Lib.hid (fun k => O1.lt k)
  replace cb0 := (hle.cell zb).trans cb0
  replace cb1 := (hle.cell zb).trans cb1
  have S1 := hR.le hle
  have S2 := hL.le hle
  have hs := hle.size
  go_wp2
  refine wp_loop_rounds 3 ?_
  rw [rounds_succ]
  go_wp2_with (at_builtin; refine wpList_append_sl rfl (.tmp 31) (.tmp 32) 26 rfl w.heap.size 42 i0 _ 32 Try.underlying26 hi hz0 hz1 hz2 rfl (.slice (some ⟨g, 0, none⟩) 0 G) 0 ([] : List Lin) rfl O1 A n cap xs rfl S1 (by unfold maxLen; omega) (by omega) hs ?_; intro v1 w2 O2 hg1 _; simp only [Nat.zero_add, List.nil_append] at O2)
  have hle1 := hle.grown hg1 (fun k hk => (HLT.out k hk).1)
  have hs1 := hle1.size
  have hne : ∀ k, (Value.slice (some ⟨g, 0, none⟩) 0 G).ownBlock = some k → w.heap.size ≤ k := fun k hk => (HLT.out k hk).1
  replace cb0 := (hg1.cell (a := ⟨b, 0, none⟩) cb0 (fun e => by have h' : w.heap.size ≤ b := hne _ e.symm; omega))
  replace cb1 := (hg1.cell (a := ⟨b, 1, none⟩) cb1 (fun e => by have h' : w.heap.size ≤ b := hne _ e.symm; omega))
  have S3 := hL.le hle1
  clear hne hle S1 S2 O1 hg1
  rw [rounds_succ]
  go_wp2_with (at_builtin; refine wpList_append_sl rfl (.tmp 31) (.tmp 32) 26 rfl w.heap.size 42 i0 _ 32 Try.underlying26 hi hz0 hz1 hz2 rfl v1 n xs rfl O2 B m c ys rfl S3 (by unfold maxLen; omega) (by omega) hs1 ?_; intro v2 w3 O3 hg2 _)
  have hle2 := hle1.grown hg2 (fun k hk => (O2.lt k hk).1)
  have HO : Hid (Owd 42 w w3 v2 (xs ++ ys)) := by
    refine ⟨?_, HA.out⟩
    rw [HLen.out]; exact O3
  have hz3 : w.heap.size ≤ w2.heap.size := hs1
  replace cb0 := (hg2.cell (a := ⟨b, 0, none⟩) cb0 (fun e => by have := (O2.lt _ e.symm).1; simp at this; omega))
  clear hg2 O2 O3 S3
  rw [rounds_succ]
  go_wp2
  go_ret
  exact ⟨_, rfl, HO.out, hle2⟩
end

section
theorem growLine_zero (w : World) : Calls Try.prog 73 #[.slice none 0 0, .int .i64 0] w fun e w' => e = .returned (.slice none 0 0) ∧ Le w w' := by
  go_enter Try.func73, Try.ntmps73
  go_wp2
  go_ret
  exact ⟨rfl, Le.refl _⟩
set_option maxHeartbeats 1000000 in
set_option maxRecDepth 100000 in
theorem concatLine_zero (A B : Option Addr) (cap c b : Nat) (w : World) (hR : Sl w A 0 cap ([] : List Lin)) (hL : Sl w B 0 c ([] : List Lin))
    (cb0 : w.cell? ⟨b, 0, none⟩ = some (.slice A 0 cap)) (cb1 : w.cell? ⟨b, 1, none⟩ = some (.slice B 0 c)) (zb : b < w.heap.size) :
    Calls Try.prog 45 #[.slice (some ⟨b, 0, none⟩) 2 2] w fun e w' => ∃ v, e = .returned v ∧ Owd 42 w w' v ([] : List Lin) ∧ Le w w' := by
  obtain ⟨i0, hi, hz0, hz1, hz2⟩ := info_parts infoCcLine
  go_enter Try.func45, Try.ntmps45
  go_wp2
  refine wp_loop_rounds 3 ?_
  rw [rounds_succ]
  go_wp2
  rw [rounds_succ]
  go_wp2
  rw [rounds_succ]
  go_wp2_with fail
  refine (growLine_zero w).mono ?_
  rintro e w1 ⟨rfl, hle⟩
  replace cb0 := (hle.cell zb).trans cb0
  replace cb1 := (hle.cell zb).trans cb1
  have S1 := hR.le hle
  have S2 := hL.le hle
  have hs := hle.size
  go_wp2
  refine wp_loop_rounds 3 ?_
  rw [rounds_succ]
  go_wp2_with (at_builtin; refine wpList_append_sl rfl (.tmp 31) (.tmp 32) 26 rfl w.heap.size 42 i0 _ 32 Try.underlying26 hi hz0 hz1 hz2 rfl (.slice none 0 0) 0 ([] : List Lin) rfl (World.ownsRow_nil _ _ _ _) A 0 cap ([] : List Lin) rfl S1 (by unfold maxLen; omega) (by omega) hs ?_; intro v1 w2 O2 hg1 _)
  have hle1 := hle.grown hg1 (fun k hk => by cases hk)
  have hs1 := hle1.size
  replace cb0 := (hg1.cell (a := ⟨b, 0, none⟩) cb0 (fun e => by cases e))
  replace cb1 := (hg1.cell (a := ⟨b, 1, none⟩) cb1 (fun e => by cases e))
  have S3 := hL.le hle1
  clear hle S1 S2 hg1
  rw [rounds_succ]
  go_wp2_with (at_builtin; refine wpList_append_sl rfl (.tmp 31) (.tmp 32) 26 rfl w.heap.size 42 i0 _ 32 Try.underlying26 hi hz0 hz1 hz2 rfl v1 0 ([] : List Lin) rfl O2 B 0 c ([] : List Lin) rfl S3 (by unfold maxLen; omega) (by omega) hs1 ?_; intro v2 w3 O3 hg2 _)
  have hle2 := hle1.grown hg2 (fun k hk => (O2.lt k hk).1)
  have HO : Hid (Owd 42 w w3 v2 ([] : List Lin)) := ⟨O3, fun _ h => nomatch h⟩
  replace cb0 := (hg2.cell (a := ⟨b, 0, none⟩) cb0 (fun e => by have := (O2.lt _ e.symm).1; simp at this; omega))
  clear hg2 O2 O3 S3
  rw [rounds_succ]
  go_wp2
  go_ret
  exact ⟨_, rfl, HO.out, hle2⟩
theorem concatL_any (A B : Option Addr) (n cap m c b : Nat) (xs ys : List Lin) (w : World) (hR : Sl w A n cap xs) (hL : Sl w B m c ys) (hn : n + m ≤ 4194304)
    (cb0 : w.cell? ⟨b, 0, none⟩ = some (.slice A n cap)) (cb1 : w.cell? ⟨b, 1, none⟩ = some (.slice B m c)) (zb : b < w.heap.size) :
    Calls Try.prog 45 #[.slice (some ⟨b, 0, none⟩) 2 2] w fun e w' => ∃ v, e = .returned v ∧ Owd 42 w w' v (xs ++ ys) ∧ Le w w' := by
  rcases Nat.eq_zero_or_pos (n + m) with h | h
  · obtain rfl : n = 0 := by omega
    obtain rfl : m = 0 := by omega
    obtain rfl : xs = [] := List.eq_nil_of_length_eq_zero hR.len
    obtain rfl : ys = [] := List.eq_nil_of_length_eq_zero hL.len
    exact concatLine_zero A B cap c b w hR hL cb0 cb1 zb
  · exact concatLine_any A B n cap m c b xs ys w hR hL h hn cb0 cb1 zb
theorem boxS2 (w : World) (a b : Value) (T : TypeId) : (w.alloc (.cells #[a, b] T)).cell? ⟨w.heap.size, 0, none⟩ = some a ∧ (w.alloc (.cells #[a, b] T)).cell? ⟨w.heap.size, 1, none⟩ = some b ∧ w.heap.size < (w.alloc (.cells #[a, b] T)).heap.size ∧ Le w (w.alloc (.cells #[a, b] T)) := by
  refine ⟨?_, ?_, by simp, Le.new w _⟩ <;> (rw [World.cell?_alloc_at _ _ _ _ rfl]; rfl)
end
end Go.Proofs.Ytlepgfccnfcagaa
