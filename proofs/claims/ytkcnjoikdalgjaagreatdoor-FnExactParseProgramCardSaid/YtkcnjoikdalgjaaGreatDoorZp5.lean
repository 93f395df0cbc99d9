/- one text of DPe, DPd, PAn, TtP, TkN, TkM -/
import Derived.Test.YtkcnjoikdalgjaaGreatDoorZp3
import Derived.Test.YtkcnjoikdalgjaaGreatDoorZp4
import Derived.Test.YtkcnjoikdalgjaaGreatDoorZp2
import Derived.Test.YtkcnjoikdalgjaaGreatDoorZp1
import Derived.Lib.IndexMore
import Derived.Lib.IndexBytes
import Derived.Lib.AtoiAllCases
namespace Go.Proofs.YtkcnjoikdalgjaaGreatDoor
open Go.RowKit
set_option linter.unusedVariables false
section
section
theorem blk_0 : DrawC 74 0 3 13 := block_of 0 stmt_0 (by decide)
theorem try_1 : DrawC 73 1 20 73 := try_of 0 3 13 blk_0 (by decide) (by decide)
theorem stm_1 : DrawC 111 1 20 78 := stmt_of 0 3 13 blk_0 try_1 (by decide) (by decide)
theorem blk_1 : DrawC 74 1 60 235 := block_of 1 stm_1 (by decide)
theorem try_2 : DrawC 73 2 305 1183 := try_of 1 60 235 blk_1 (by decide) (by decide)
theorem stm_2 : DrawC 111 2 305 1188 := stmt_of 1 60 235 blk_1 try_2 (by decide) (by decide)
theorem blk_2 : DrawC 74 2 915 3565 := block_of 2 stm_2 (by decide)
theorem try_3 : DrawC 73 3 4580 17833 := try_of 2 915 3565 blk_2 (by decide) (by decide)
theorem stm_3 : DrawC 111 3 4580 17838 := stmt_of 2 915 3565 blk_2 try_3 (by decide) (by decide)
theorem blk_3 : DrawC 74 3 13740 53515 := block_of 3 stm_3 (by decide)
/-- lines that were drawn anew -/
theorem Ts.new {w wr w2 : World} {g p : Nat} {A : Option Addr} {n cap : Nat} {bs : List By} {B : Option Addr} {m c : Nat} {v : Value} {L : List Lin} (G : Gx g w wr) (gw : g < w.heap.size) (ct : wr.cell? ⟨w.heap.size, 0, none⟩ = some (.slice B m c)) (zt : w.heap.size < wr.heap.size)
    (O : w2.ownsRow wr.heap.size 54 4 v L.length (L.flatMap Enc.cells)) (ok : ∀ x ∈ L, Enc.ok x) (R : Rd w2 g p A n cap bs) (hg : Gx g wr w2) : Ts w w2 g p A n cap bs B m c v L :=
  ⟨own_mono O G.size, ok, R, G.trans hg, gw, (hg.cell zt (by omega)).trans ct, Nat.lt_of_lt_of_le zt hg.size, fun e => by have := (O.lt _ e).1; omega⟩
def fourL : List Lin := [⟨0, 7, 0, 0⟩, ⟨1, 2, 0, 1⟩, ⟨0, 10, 0, 0⟩, ⟨1, 1, 1, 0⟩]
theorem fourL_ok : ∀ x ∈ fourL, Enc.ok x := by
  intro x hx; simp [fourL] at hx
  rcases hx with rfl | rfl | rfl | rfl <;> exact ⟨by decide, by decide, by decide, by decide, by decide, by decide, by decide, by decide⟩
set_option maxHeartbeats 4000000 in
set_option maxRecDepth 100000 in
theorem goodProgram_any (B : Option Addr) (m c g p : Nat) (A : Option Addr) (n cap : Nat) (bs : List By) (w : World) (hm : m ≤ 8) (hp : p ≤ 300000) (hR : Rd w g p A n cap bs) :
    Calls Tryz.prog 37 #[.pointer (some ⟨g, 0, none⟩), .agg #[.slice B m c]] w (LnsOut 24 500000 g p A n cap bs w) := by
  have hgw := hR.lt
  have HA : Hid (0 < n → ∀ a, A = some a → a.block < w.heap.size) := fun hn a e => hR.sl.under hn a e
  obtain ⟨i0, hi, hz0, hz1, hz2⟩ := info_parts infoLn
  have HT : Hid (∀ (q : Nat) (wx : World), q + 17833 ≤ 900000 → Rd wx g q A n cap bs → Calls Tryz.prog 73 #[.pointer (some ⟨g, 0, none⟩), .agg #[.slice B m c], .int .i64 0, .bool false] wx (LnsOut 4580 17833 g q A n cap bs wx)) := fun q wx hq hr => try_3 0 false B m c g q A n cap bs wx (by decide) (by decide) hm hq hr
  have HB : Hid (∀ (q : Nat) (wx : World), q + 53515 ≤ 900000 → Rd wx g q A n cap bs → Calls Tryz.prog 74 #[.pointer (some ⟨g, 0, none⟩), .agg #[.slice B m c], .int .i64 0, .bool false] wx (LnsOut 13740 53515 g q A n cap bs wx)) := fun q wx hq hr => blk_3 0 false B m c g q A n cap bs wx (by decide) (by decide) hm hq hr
  obtain ⟨ct, zt, L0⟩ := box1 w (.slice B m c) 25
  have R0 := hR.le L0
  have G0 := Gx.of_le (g := g) L0
  clear L0 hR
  go_enter Tryz.func37, Tryz.ntmps37
  go_wp2
  go_loopw [5, 6] (fun i _ wr => ∃ (k p' : Nat), i = .int .i64 k ∧ k ≤ 4 ∧ p' + (4 - k) * 125000 ≤ p + 500000 ∧ Rd wr g p' A n cap bs ∧ Gx g w wr ∧ wr.cell? ⟨w.heap.size, 0, none⟩ = some (.slice B m c) ∧ w.heap.size < wr.heap.size) (fun i _ _ => (4 - intOf i).toNat)
  case atStart => exact ⟨0, p, rfl, by omega, by omega, R0, G0, ct, zt⟩
  case round =>
    clear R0 G0 ct zt
    obtain ⟨k, p', rfl, hk, hpk, R, G, ct, zt⟩ := hrel
    by_cases hk4 : k < 4
    · have hkb : (k : Int) < 4 := by omega
      have hkw : k ≤ 4 := hk
      go_wp2_with fail
      refine (HT.out p' wr (by omega) R).mono ?_
      rintro e0 u0 ⟨v0, M0, p0, rfl, O0, hM0, hm0, ht0, hp0, R0, hg0⟩
      have T0 := Ts.new G hgw ct zt O0 hM0 R0 hg0
      obtain ⟨B0, q0, rfl⟩ := own_form O0
      clear O0 hM0 R0 hg0 ct zt R G
      go_wp2_with fail
      refine (pick_any 3 g p0 A n cap bs u0 (by omega) (by omega) (by omega) T0.R).mono ?_
      rintro e1 y1 ⟨a1, rfl, _, _, R1, hg1⟩
      have T1 := T0.call R1 hg1
      have ct1 := T1.ct
      have zt1 := T1.zt
      clear R1 hg1 T0
      by_cases hz1 : a1 = 0
      · subst hz1
        go_wp2_with fail
        refine (HB.out (p0 + 1) y1 (by omega) T1.R).mono ?_
        rintro e2 u2 ⟨v2, M2, p2, rfl, O2, hM2, hm2, ht2, hp2, R2, hg2⟩
        have C2 := T1.call R2 hg2
        have z2 := C2.zt
        obtain ⟨B2, q2, rfl⟩ := own_form O2
        have S2 := Sl.of_own O2 rfl (by decide) hM2
        clear hg2 R2 O2 T1
        go_wp2_with (at_builtin; refine wpList_append_sl rfl _ _ 26 rfl w.heap.size 54 i0 _ 32 Tryz.underlying26 hi hz0 hz1 hz2 rfl _ M0.length M0 rfl C2.O B2 M2.length q2 M2 rfl S2 (by unfold maxLen; omega) (by omega) (Nat.le_of_lt z2) ?_; intro x2 y2 OO2 gg2 bb2; have T2 := C2.app HA.out OO2 hM2 gg2 bb2; generalize hL2 : M0 ++ M2 = L2 at T2; have hl2 : M0.length ≤ L2.length ∧ L2.length ≤ M0.length + M2.length := (by rw [← hL2, List.length_append]; omega); obtain ⟨BX2, qX2, rfl⟩ := own_form T2.O; have ct2 := T2.ct; have zt2 := T2.zt; clear OO2 gg2 bb2 S2 hM2 C2 z2 hL2)
        refine (pick_any 4 g p2 A n cap bs y2 (by omega) (by omega) (by omega) T2.R).mono ?_
        rintro e3 y3 ⟨a3, rfl, _, _, R3, hg3⟩
        have T3 := T2.call R3 hg3
        have ct3 := T3.ct
        have zt3 := T3.zt
        clear R3 hg3 T2
        by_cases hz3 : a3 = 0
        · subst hz3
          go_wp2_with fail
          refine (HB.out (p2 + 1) y3 (by omega) T3.R).mono ?_
          rintro e4 u4 ⟨v4, M4, p4, rfl, O4, hM4, hm4, ht4, hp4, R4, hg4⟩
          have T4 := Ts.new T3.G hgw T3.ct T3.zt O4 hM4 R4 hg4
          obtain ⟨B4, q4, rfl⟩ := own_form O4
          clear O4 hM4 R4 hg4 T3
          by_cases hl24 : M4.length ≤ 24
          · have hlb : decide ((M4.length : Int) ≤ 24) = true := decide_eq_true (by omega)
            have HF := Lib.hid (T4.out (lim := 24) (k := 500000) (p0 := p) (by omega) hl24 (by omega))
            go_wp2
            go_ret
            exact HF.out
          · have hlb : decide ((M4.length : Int) ≤ 24) = false := decide_eq_false (by omega)
            go_wp2
            go_roundw
            case rel => exact ⟨k + 1, p4, by go_num, by omega, by omega, T4.R, T4.G, T4.ct, T4.zt⟩
            case measure => simp [intOf]; omega
        · have hzb3 : (a3 == 0) = false := by simpa using hz3
          clear hz3
          by_cases hl24 : L2.length ≤ 24
          · have hlb : decide ((L2.length : Int) ≤ 24) = true := decide_eq_true (by omega)
            have HF := Lib.hid (T3.out (lim := 24) (k := 500000) (p0 := p) (by omega) hl24 (by omega))
            go_wp2
            go_ret
            exact HF.out
          · have hlb : decide ((L2.length : Int) ≤ 24) = false := decide_eq_false (by omega)
            go_wp2
            go_roundw
            case rel => exact ⟨k + 1, (p2 + 1), by go_num, by omega, by omega, T3.R, T3.G, T3.ct, T3.zt⟩
            case measure => simp [intOf]; omega
      · have hzb1 : (a1 == 0) = false := by simpa using hz1
        clear hz1
        go_wp2_with fail
        refine (pick_any 4 g (p0 + 1) A n cap bs y1 (by omega) (by omega) (by omega) T1.R).mono ?_
        rintro e5 y5 ⟨a5, rfl, _, _, R5, hg5⟩
        have T5 := T1.call R5 hg5
        have ct5 := T5.ct
        have zt5 := T5.zt
        clear R5 hg5 T1
        by_cases hz5 : a5 = 0
        · subst hz5
          go_wp2_with fail
          refine (HB.out ((p0 + 1) + 1) y5 (by omega) T5.R).mono ?_
          rintro e6 u6 ⟨v6, M6, p6, rfl, O6, hM6, hm6, ht6, hp6, R6, hg6⟩
          have T6 := Ts.new T5.G hgw T5.ct T5.zt O6 hM6 R6 hg6
          obtain ⟨B6, q6, rfl⟩ := own_form O6
          clear O6 hM6 R6 hg6 T5
          by_cases hl24 : M6.length ≤ 24
          · have hlb : decide ((M6.length : Int) ≤ 24) = true := decide_eq_true (by omega)
            have HF := Lib.hid (T6.out (lim := 24) (k := 500000) (p0 := p) (by omega) hl24 (by omega))
            go_wp2
            go_ret
            exact HF.out
          · have hlb : decide ((M6.length : Int) ≤ 24) = false := decide_eq_false (by omega)
            go_wp2
            go_roundw
            case rel => exact ⟨k + 1, p6, by go_num, by omega, by omega, T6.R, T6.G, T6.ct, T6.zt⟩
            case measure => simp [intOf]; omega
        · have hzb5 : (a5 == 0) = false := by simpa using hz5
          clear hz5
          by_cases hl24 : M0.length ≤ 24
          · have hlb : decide ((M0.length : Int) ≤ 24) = true := decide_eq_true (by omega)
            have HF := Lib.hid (T5.out (lim := 24) (k := 500000) (p0 := p) (by omega) hl24 (by omega))
            go_wp2
            go_ret
            exact HF.out
          · have hlb : decide ((M0.length : Int) ≤ 24) = false := decide_eq_false (by omega)
            go_wp2
            go_roundw
            case rel => exact ⟨k + 1, ((p0 + 1) + 1), by go_num, by omega, by omega, T5.R, T5.G, T5.ct, T5.zt⟩
            case measure => simp [intOf]; omega
    · have hkb : ¬ (k : Int) < 4 := by omega
      have OW := World.ownsRow_lit (base := w.heap.size) (e := 54) (size := 4) wr #[.int .i64 0, .int .i64 7, .int .i64 0, .int .i64 0, .int .i64 1, .int .i64 2, .int .i64 0, .int .i64 1, .int .i64 0, .int .i64 10, .int .i64 0, .int .i64 0, .int .i64 1, .int .i64 1, .int .i64 1, .int .i64 0] 4 (Nat.le_of_lt zt) (by unfold maxLen; omega) (by simp)
      have HO := Lib.hid OW
      have HR := Lib.hid R
      clear OW R
      go_wp2
      go_ret
      exact ⟨_, fourL, p', rfl, HO.out, fourL_ok, by decide, by decide, by omega, HR.out.le (Le.new _ _), G.trans (Gx.of_le (Le.new _ _))⟩
end

section
/-- a tree and lines that were drawn -/
def ProgOut (k g p : Nat) (A : Option Addr) (n cap : Nat) (bs : List By) (w : World) (e : Ending) (w' : World) : Prop :=
  ∃ (B D : Option Addr) (m c q d : Nat) (xs : List Cls) (L : List Lin) (p' : Nat), e = .returned (.tuple #[.agg #[.slice B m c], .slice D q d]) ∧ Sl w' B m c xs ∧ m ≤ 8 ∧ (0 < m → ∀ a, B = some a → w.heap.size < a.block) ∧ Sl w' D q d L ∧ q ≤ 24 ∧ (0 < q → ∀ a, D = some a → w.heap.size < a.block) ∧ p' ≤ p + k ∧ Rd w' g p' A n cap bs ∧ Gx g w w'
/-- where the draw stands: the result's box, the tree's box -/
structure Ps (w wr : World) (g p : Nat) (A : Option Addr) (n cap : Nat) (bs : List By) (B : Option Addr) (m c : Nat) (xs : List Cls) (tb : Nat) : Prop where
  R : Rd wr g p A n cap bs
  G : Gx g w wr
  gw : g < w.heap.size
  c0 : wr.cell? ⟨w.heap.size, 0, none⟩ = some (.slice none 0 0)
  f0 : wr.frozen? ⟨w.heap.size, 0, none⟩ = false
  ct : wr.cell? ⟨tb, 0, none⟩ = some (.slice B m c)
  z0 : w.heap.size < tb
  zt : tb < wr.heap.size
  S : Sl wr B m c xs
  hB : 0 < m → ∀ a, B = some a → w.heap.size < a.block ∧ a.block < tb
section
variable {w wr w2 : World} {g p p2 : Nat} {A : Option Addr} {n cap : Nat} {bs : List By} {B : Option Addr} {m c tb : Nat} {xs : List Cls}
theorem Ps.call (h : Ps w wr g p A n cap bs B m c xs tb) (R2 : Rd w2 g p2 A n cap bs) (hg : Gx g wr w2) : Ps w w2 g p2 A n cap bs B m c xs tb :=
  ⟨R2, h.G.trans hg, h.gw, (hg.cell (by have := h.z0; have := h.zt; omega) (by have := h.gw; omega)).trans h.c0, (hg.frozen (by have := h.z0; have := h.zt; omega) (by have := h.gw; omega)).trans h.f0, (hg.cell h.zt (by have := h.gw; have := h.z0; omega)).trans h.ct, h.z0, Nat.lt_of_lt_of_le h.zt hg.size, h.S.gx (fun hn a e => by have := h.hB hn a e; have := h.gw; omega) hg, h.hB⟩
theorem Ps.le (h : Ps w wr g p A n cap bs B m c xs tb) (hl : Le wr w2) : Ps w w2 g p A n cap bs B m c xs tb := h.call (h.R.le hl) (Gx.of_le hl)
theorem Ps.grown (h : Ps w wr g p A n cap bs B m c xs tb) (hA : 0 < n → ∀ a, A = some a → a.block < w.heap.size) {X : Nat} (hg : wr.grownBy w2 (some X)) (hX : tb < X) : Ps w w2 g p A n cap bs B m c xs tb :=
  ⟨h.R.grown hg (fun e => by injection e with e; have := h.gw; have := h.z0; omega) (fun hn a e e2 => by injection e2 with e2; have := hA hn a e; have := h.z0; omega), h.G.grown hg (fun k hk => by injection hk with hk; have := h.z0; omega), h.gw,
    hg.cell (a := ⟨w.heap.size, 0, none⟩) h.c0 (fun e => by have e1 : w.heap.size = X := (by injection e); have := h.z0; omega), (World.frozen?_of_block (a := ⟨w.heap.size, 0, none⟩) (hg.block w.heap.size (by have := h.z0; have := h.zt; omega) (fun e => by have e1 : w.heap.size = X := (by injection e); have := h.z0; omega))).trans h.f0,
    hg.cell (a := ⟨tb, 0, none⟩) h.ct (fun e => by have e1 : tb = X := (by injection e); omega), h.z0, Nat.lt_of_lt_of_le h.zt hg.size, h.S.grown hg (fun hn a e e2 => by have e3 : a.block = X := (by injection e2); have := h.hB hn a e; omega), h.hB⟩
theorem Ps.out (h : Ps w wr g p A n cap bs B m c xs tb) (hA : 0 < n → ∀ a, A = some a → a.block < w.heap.size) (hm : m ≤ 8) {D : Option Addr} {q d : Nat} {L : List Lin} (SD : Sl wr D q d L) (hq : q ≤ 24) (hD : 0 < q → ∀ a, D = some a → w.heap.size < a.block) {k p0 : Nat} (hp : p ≤ p0 + k) (u : Value) :
    ProgOut k g p0 A n cap bs w (.returned (.tuple #[.agg #[.slice B m c], .slice D q d])) (wr.setCell ⟨w.heap.size, 0, none⟩ u) :=
  ⟨B, D, m, c, q, d, xs, L, p, rfl, h.S.grown (grown_set wr w.heap.size 0 u) (fun hn a e e2 => by have e3 : a.block = w.heap.size := (by injection e2); have := h.hB hn a e; omega), hm, fun hn a e => (h.hB hn a e).1, SD.grown (grown_set wr w.heap.size 0 u) (fun hn a e e2 => by have e3 : a.block = w.heap.size := (by injection e2); have := hD hn a e; omega), hq, hD, hp,
    h.R.setNew u (by have := h.gw; omega) (fun hn a e => by have := hA hn a e; omega), h.G.setNewF (Nat.le_refl _) u⟩
end
theorem linSl_drop {w : World} {b off n cap : Nat} {xs : List Lin} (h : Sl w (some ⟨b, off, none⟩) n cap xs) (k : Nat) (hk : k ≤ n) : Sl w (some ⟨b, off + k * 4, none⟩) (n - k) (cap - k) (xs.drop k) := by
  have hl := h.len
  have hc := h.cap_
  have hx := h.max
  refine ⟨by rw [List.length_drop]; omega, by omega, by omega, fun x hx => h.ok x (List.mem_of_mem_drop hx), fun hn => ?_⟩
  obtain ⟨b2, off2, e, hb, hcell⟩ := h.at_ (by omega)
  injection e with e
  injection e with e1 e2
  subst e1; subst e2
  refine ⟨b, off + k * 4, rfl, hb, fun j u hu => ?_⟩
  have hsplit : xs.flatMap Enc.cells = (xs.take k).flatMap Enc.cells ++ (xs.drop k).flatMap Enc.cells := by rw [← List.flatMap_append, List.take_append_drop]
  have hfl : ((xs.take k).flatMap (Enc.cells (α := Lin))).length = k * 4 := by rw [flat_len, List.length_take]; show _ * 4 = _; rw [Nat.min_eq_left (by omega)]
  have := hcell (k * 4 + j) u (by rw [hsplit, List.getElem?_append_right (by omega), hfl, Nat.add_sub_cancel_left]; exact hu)
  rw [show off + k * 4 + j = off + (k * 4 + j) by omega]; exact this
set_option maxHeartbeats 4000000 in
set_option maxRecDepth 100000 in
theorem someProgram_any (g p : Nat) (A : Option Addr) (n cap : Nat) (bs : List By) (w : World) (hp : p ≤ 200000) (hR : Rd w g p A n cap bs) :
    Calls Tryz.prog 22 #[.pointer (some ⟨g, 0, none⟩)] w (ProgOut 500100 g p A n cap bs w) := by
  have hgw := hR.lt
  have HA : Hid (0 < n → ∀ a, A = some a → a.block < w.heap.size) := fun hn a e => hR.sl.under hn a e
  go_enter Tryz.func22, Tryz.ntmps22
  go_wp2_with fail
  obtain ⟨c0, z0, L0⟩ := box1 w (.slice none 0 0) 25
  have f0 : (w.alloc (.cells #[.slice none 0 0] 25)).frozen? ⟨w.heap.size, 0, none⟩ = false := World.frozen?_alloc_at _ _ _ _ rfl
  have R0 := hR.le L0
  generalize w.alloc (.cells #[.slice none 0 0] 25) = W at *
  refine (someTree_any g p A n cap bs W (by omega) R0).mono ?_
  rintro e w1 ⟨B, m, c, p1, xs, rfl, S, hm, hoff, hab, hp1, R, hg⟩
  have PS : Ps w (w1.alloc (.cells #[.slice B m c] 25)) g p1 A n cap bs B m c xs w1.heap.size := by
    obtain ⟨ct, zt, LB⟩ := box1 w1 (.slice B m c) 25
    have hz1 : w.heap.size < w1.heap.size := Nat.lt_of_lt_of_le z0 hg.size
    exact ⟨R.le LB, ((Gx.of_le (g := g) L0).trans hg).trans (Gx.of_le LB), hgw, (LB.cell hz1).trans ((hg.cell z0 (by omega)).trans c0), (LB.frozen hz1).trans ((hg.frozen z0 (by omega)).trans f0), ct, hz1, zt, S.le LB, fun hn a e => ⟨by have := hab hn a e; omega, S.under hn a e⟩⟩
  clear R S hoff hab hg R0 L0 f0 c0 z0 hR
  have ct := PS.ct
  have c0 := PS.c0
  have f0 := PS.f0
  by_cases hm0 : m = 0
  · subst hm0
    have HP0 : Hid (Ps w ((w1.alloc (.cells #[.slice B 0 c] 25)).alloc (.cells #[.int .i64 0, .int .i64 0, .int .i64 0, .int .i64 0] 54)) g p1 A n cap bs B 0 c xs w1.heap.size) := PS.le (Le.new _ _)
    have hzx : w.heap.size < (w1.alloc (.cells #[.slice B 0 c] 25)).heap.size := by have := PS.z0; have := PS.zt; omega
    have HSL := Lib.hid (sl_one (w := w1.alloc (.cells #[.slice B 0 c] 25)) (cs := #[.int .i64 0, .int .i64 0, .int .i64 0, .int .i64 0]) (T := 54) (⟨0, 0, 0, 0⟩ : Lin) rfl ⟨by decide, by decide, by decide, by decide, by decide, by decide, by decide, by decide⟩ (b := (w1.alloc (.cells #[.slice B 0 c] 25)).heap.size) rfl)
    have c1 := HP0.out.c0
    have f1 := HP0.out.f0
    have hend : ∀ u, (((w1.alloc (.cells #[.slice B 0 c] 25)).alloc (.cells #[.int .i64 0, .int .i64 0, .int .i64 0, .int .i64 0] 54)).setCell ⟨w.heap.size, 0, none⟩ u).cell? ⟨w.heap.size, 0, none⟩ = some u := fun u => cell_set_same c1
    clear PS
    have HSZ : Hid ((w1.alloc (.cells #[.slice B 0 c] 25)).heap.size = w1.heap.size + 1) := by show _ = _; simp
    go_wp2
    refine bodyPost_ret (v := .tuple #[.agg #[.slice B 0 c], .slice (some ⟨w1.heap.size + 1, 0, none⟩) 1 1]) (by simp [results, Tryz.results22, go_sem, hend]) rfl ?_
    have SX := HSL.out
    rw [HSZ.out] at SX
    rw [HSZ.out] at hzx
    exact HP0.out.out HA.out hm SX (by decide) (fun _ a e => by injection e with e; rw [← e]; exact hzx) (by omega) _
  have hmb : ((m : Int) == 0) = false := by simp; omega
  go_wp2_with fail
  generalize w1.alloc (.cells #[.slice B m c] 25) = W1 at *
  generalize w1.heap.size = tb at *
  refine (goodProgram_any B m c g p1 A n cap bs W1 hm (by omega) PS.R).mono ?_
  rintro e w2 ⟨v, L, p2, rfl, O, hok, hl0, hl24, hp2, R2, hg⟩
  have PS2 := PS.call R2 hg
  have htb := PS.zt
  obtain ⟨j, hj⟩ : ∃ j, L.length = j + 1 := ⟨L.length - 1, by omega⟩
  have HOK := Lib.hid hok
  rw [hj] at O
  obtain ⟨b, cp, rfl⟩ := own_some O
  have hbb := (O.lt b rfl)
  have hbt : tb < b := by omega
  have HJ := Lib.hid hj
  have hj24 : j ≤ 23 := by omega
  have hcap : j + 1 ≤ cp := by have := (Sl.of_own O rfl (by decide) (xs := L) hok).cap_; omega
  have hgb : b ≠ g := by have := PS.z0; omega
  have hp2b : p2 ≤ p + 500018 := by omega
  clear PS R2 hg ct c0 f0 hok hj hl0 hl24 hp1
  go_wp2_with fail
  refine (pick_any ((j + 1 : Nat) : Int) g p2 A n cap bs w2 (by omega) (by omega) (by omega) PS2.R).mono ?_
  rintro e w3 ⟨x, rfl, hx0, hx1, R3, hg3⟩
  have PS3 := PS2.call R3 hg3
  have O3 := O.kept hg3 (.inr (fun e => hgb (by injection e)))
  obtain ⟨k, rfl⟩ := Int.eq_ofNat_of_zero_le hx0
  have hk : k < j + 1 := by rcases hx1 with h | h <;> omega
  clear PS2 R3 hg3 O hx0 hx1
  go_wp2_with fail
  refine (pick_any 24 g (p2 + 1) A n cap bs w3 (by omega) (by omega) (by omega) PS3.R).mono ?_
  rintro e w4 ⟨y, rfl, hy0, hy1, R4, hg4⟩
  have PS4 := PS3.call R4 hg4
  have O4 := O3.kept hg4 (.inr (fun e => hgb (by injection e)))
  clear PS3 R4 hg4 O3 hy1
  have hkx : k < L.length := by have := HJ.out; omega
  have hk0 : (0 : Int) ≤ (k : Int) := by omega
  have hkn : (k : Int) < (j : Int) + 1 := by omega
  clear hy0
  by_cases hy0 : y = 0
  · subst hy0
    go_wp2_with fail
    refine (one_lit [-1, 6, 0, 1] 4 _ _ g (p2 + 1 + 1) A n cap bs w4 _ rfl rfl (by decide) (by decide) (by intro x hx; simp at hx; constructor <;> omega) (by omega) rfl PS4.R).mono ?_
    rintro e w5 ⟨s, rfl, hs, R5, hg5⟩
    have hso : -9223372036854775808 ≤ s ∧ s ≤ 9223372036854775807 := by simp at hs; omega
    have PS5 := PS4.call R5 hg5
    have O5 := O4.kept hg5 (.inr (fun e => hgb (by injection e)))
    have hcw : w5.cell? ⟨b, k * 4, none⟩ = some (.int .i64 L[k].depth) := by rw [O5.cellAt _ (by omega)]; exact flat_at L k hkx 0 (by decide)
    have hfw := O5.frozenAt (k * 4)
    have h1 := (O5.stored (k * 4) (.int .i64 s)).1
    rw [flat_lin_depth L k hkx s] at h1
    have HOK2 : Hid (∀ x ∈ L.set k {L[k] with depth := s}, Enc.ok x) := fun x hx => by
      rcases List.mem_or_eq_of_mem_set hx with h | rfl
      · exact HOK.out x h
      · have hq := HOK.out _ (List.getElem_mem hkx)
        exact ⟨hso.1, hso.2, hq.2.2.1, hq.2.2.2.1, hq.2.2.2.2.1, hq.2.2.2.2.2.1, hq.2.2.2.2.2.2.1, hq.2.2.2.2.2.2.2⟩
    have PS6 := PS5.grown HA.out (grown_set w5 b (k * 4) (.int .i64 s)) hbt
    clear R5 hg5 hs PS4 O4 PS5 O5
    have HSX := Lib.hid (Sl.of_own h1 rfl (by decide) HOK2.out)
    clear h1
    have HP := Lib.hid PS6
    have HS := Lib.hid HSX.out
    have ct := HP.out.ct
    have c0 := HP.out.c0
    have f0 := HP.out.f0
    have hend : ∀ u, ((w5.setCell ⟨b, k * 4, none⟩ (.int .i64 s)).setCell ⟨w.heap.size, 0, none⟩ u).cell? ⟨w.heap.size, 0, none⟩ = some u := fun u => cell_set_same c0
    have hzb : w.heap.size < b := by have := HP.out.z0; omega
    go_wp2
    exact bodyPost_ret (v := .tuple #[.agg #[.slice B m c], .slice (some ⟨b, 0, none⟩) (j + 1) (cp)]) (by simp [results, Tryz.results22, go_sem, hend]) rfl (HP.out.out HA.out hm HS.out (by omega) (fun _ a e => by injection e with e; rw [← e]; exact hzb) (by omega) _)
  have yb0 : (y == 0) = false := by simpa using hy0
  by_cases hy1 : y = 1
  · subst hy1
    go_wp2_with fail
    refine (one_lit [-1, 13, 5, 9, 0] 5 _ _ g (p2 + 1 + 1) A n cap bs w4 _ rfl rfl (by decide) (by decide) (by intro x hx; simp at hx; constructor <;> omega) (by omega) rfl PS4.R).mono ?_
    rintro e w5 ⟨s, rfl, hs, R5, hg5⟩
    have hso : -9223372036854775808 ≤ s ∧ s ≤ 9223372036854775807 := by simp at hs; omega
    have PS5 := PS4.call R5 hg5
    have O5 := O4.kept hg5 (.inr (fun e => hgb (by injection e)))
    have hcw : w5.cell? ⟨b, k * 4 + 1, none⟩ = some (.int .i64 L[k].kind) := by rw [O5.cellAt _ (by omega)]; exact flat_at L k hkx 1 (by decide)
    have hfw := O5.frozenAt (k * 4 + 1)
    have h1 := (O5.stored (k * 4 + 1) (.int .i64 s)).1
    rw [flat_lin_kind L k hkx s] at h1
    have HOK2 : Hid (∀ x ∈ L.set k {L[k] with kind := s}, Enc.ok x) := fun x hx => by
      rcases List.mem_or_eq_of_mem_set hx with h | rfl
      · exact HOK.out x h
      · have hq := HOK.out _ (List.getElem_mem hkx)
        exact ⟨hq.1, hq.2.1, hso.1, hso.2, hq.2.2.2.2.1, hq.2.2.2.2.2.1, hq.2.2.2.2.2.2.1, hq.2.2.2.2.2.2.2⟩
    have PS6 := PS5.grown HA.out (grown_set w5 b (k * 4 + 1) (.int .i64 s)) hbt
    clear R5 hg5 hs PS4 O4 PS5 O5
    have HSX := Lib.hid (Sl.of_own h1 rfl (by decide) HOK2.out)
    clear h1
    have HP := Lib.hid PS6
    have HS := Lib.hid HSX.out
    have ct := HP.out.ct
    have c0 := HP.out.c0
    have f0 := HP.out.f0
    have hend : ∀ u, ((w5.setCell ⟨b, k * 4 + 1, none⟩ (.int .i64 s)).setCell ⟨w.heap.size, 0, none⟩ u).cell? ⟨w.heap.size, 0, none⟩ = some u := fun u => cell_set_same c0
    have hzb : w.heap.size < b := by have := HP.out.z0; omega
    go_wp2
    exact bodyPost_ret (v := .tuple #[.agg #[.slice B m c], .slice (some ⟨b, 0, none⟩) (j + 1) (cp)]) (by simp [results, Tryz.results22, go_sem, hend]) rfl (HP.out.out HA.out hm HS.out (by omega) (fun _ a e => by injection e with e; rw [← e]; exact hzb) (by omega) _)
  have yb1 : (y == 1) = false := by simpa using hy1
  by_cases hy2 : y = 2
  · subst hy2
    go_wp2_with fail
    refine (one_lit [-1, 100, 8] 3 _ _ g (p2 + 1 + 1) A n cap bs w4 _ rfl rfl (by decide) (by decide) (by intro x hx; simp at hx; constructor <;> omega) (by omega) rfl PS4.R).mono ?_
    rintro e w5 ⟨s, rfl, hs, R5, hg5⟩
    have hso : -9223372036854775808 ≤ s ∧ s ≤ 9223372036854775807 := by simp at hs; omega
    have PS5 := PS4.call R5 hg5
    have O5 := O4.kept hg5 (.inr (fun e => hgb (by injection e)))
    have hcw : w5.cell? ⟨b, k * 4 + 2, none⟩ = some (.int .i64 L[k].a) := by rw [O5.cellAt _ (by omega)]; exact flat_at L k hkx 2 (by decide)
    have hfw := O5.frozenAt (k * 4 + 2)
    have h1 := (O5.stored (k * 4 + 2) (.int .i64 s)).1
    rw [flat_lin_a L k hkx s] at h1
    have HOK2 : Hid (∀ x ∈ L.set k {L[k] with a := s}, Enc.ok x) := fun x hx => by
      rcases List.mem_or_eq_of_mem_set hx with h | rfl
      · exact HOK.out x h
      · have hq := HOK.out _ (List.getElem_mem hkx)
        exact ⟨hq.1, hq.2.1, hq.2.2.1, hq.2.2.2.1, hso.1, hso.2, hq.2.2.2.2.2.2.1, hq.2.2.2.2.2.2.2⟩
    have PS6 := PS5.grown HA.out (grown_set w5 b (k * 4 + 2) (.int .i64 s)) hbt
    clear R5 hg5 hs PS4 O4 PS5 O5
    have HSX := Lib.hid (Sl.of_own h1 rfl (by decide) HOK2.out)
    clear h1
    have HP := Lib.hid PS6
    have HS := Lib.hid HSX.out
    have ct := HP.out.ct
    have c0 := HP.out.c0
    have f0 := HP.out.f0
    have hend : ∀ u, ((w5.setCell ⟨b, k * 4 + 2, none⟩ (.int .i64 s)).setCell ⟨w.heap.size, 0, none⟩ u).cell? ⟨w.heap.size, 0, none⟩ = some u := fun u => cell_set_same c0
    have hzb : w.heap.size < b := by have := HP.out.z0; omega
    go_wp2
    exact bodyPost_ret (v := .tuple #[.agg #[.slice B m c], .slice (some ⟨b, 0, none⟩) (j + 1) (cp)]) (by simp [results, Tryz.results22, go_sem, hend]) rfl (HP.out.out HA.out hm HS.out (by omega) (fun _ a e => by injection e with e; rw [← e]; exact hzb) (by omega) _)
  have yb2 : (y == 2) = false := by simpa using hy2
  have S4 := Sl.of_own O4 rfl (by decide) HOK.out
  clear O4
  by_cases hy3 : y = 3
  · subst hy3
    have S5 := linSl_drop S4 1 (by omega)
    by_cases hc1 : 1 = cp
    · have hj0 : j = 0 := by omega
      subst hj0
      subst hc1
      have SZ : Sl w4 (some ⟨b, 0, none⟩) 0 0 ([] : List Lin) := Sl.nil _ _ _ (by omega)
      have HP := Lib.hid PS4
      have HS := Lib.hid SZ
      have ct := HP.out.ct
      have c0 := HP.out.c0
      have f0 := HP.out.f0
      have hend : ∀ u, (w4.setCell ⟨w.heap.size, 0, none⟩ u).cell? ⟨w.heap.size, 0, none⟩ = some u := fun u => cell_set_same c0
      have hzb : w.heap.size < b := by have := HP.out.z0; omega
      go_wp2
      exact bodyPost_ret (v := .tuple #[.agg #[.slice B m c], .slice (some ⟨b, 0, none⟩) (0) (0)]) (by simp [results, Tryz.results22, go_sem, hend]) rfl (HP.out.out HA.out hm HS.out (by omega) (fun _ a e => by injection e with e; rw [← e]; exact hzb) (by omega) _)
    · skip
      simp only [Nat.zero_add, Nat.one_mul, Nat.add_sub_cancel] at S5
      have HP := Lib.hid PS4
      have HS := Lib.hid S5
      have ct := HP.out.ct
      have c0 := HP.out.c0
      have f0 := HP.out.f0
      have hend : ∀ u, (w4.setCell ⟨w.heap.size, 0, none⟩ u).cell? ⟨w.heap.size, 0, none⟩ = some u := fun u => cell_set_same c0
      have hzb : w.heap.size < b := by have := HP.out.z0; omega
      go_wp2
      exact bodyPost_ret (v := .tuple #[.agg #[.slice B m c], .slice (some ⟨b, 4, none⟩) (j) (cp - 1)]) (by simp [results, Tryz.results22, go_sem, hend]) rfl (HP.out.out HA.out hm HS.out (by omega) (fun _ a e => by injection e with e; rw [← e]; exact hzb) (by omega) _)
  have yb3 : (y == 3) = false := by simpa using hy3
  have HP := Lib.hid PS4
  have HS := Lib.hid S4
  have ct := HP.out.ct
  have c0 := HP.out.c0
  have f0 := HP.out.f0
  have hend : ∀ u, (w4.setCell ⟨w.heap.size, 0, none⟩ u).cell? ⟨w.heap.size, 0, none⟩ = some u := fun u => cell_set_same c0
  have hzb : w.heap.size < b := by have := HP.out.z0; omega
  go_wp2
  exact bodyPost_ret (v := .tuple #[.agg #[.slice B m c], .slice (some ⟨b, 0, none⟩) (j + 1) (cp)]) (by simp [results, Tryz.results22, go_sem, hend]) rfl (HP.out.out HA.out hm HS.out (by omega) (fun _ a e => by injection e with e; rw [← e]; exact hzb) (by omega) _)
end
end

section
def DrawnPr (w : World) (e : Ending) (w' : World) : Prop :=
  ∃ (B D : Option Addr) (m c q d : Nat) (xs : List Cls) (L : List Lin), e = .returned (.tuple #[.agg #[.slice B m c], .slice D q d]) ∧ Sl w' B m c xs ∧ m ≤ 8 ∧ Sl w' D q d L ∧ q ≤ 24 ∧ Le w w'
set_option maxHeartbeats 1000000 in
set_option maxRecDepth 100000 in
theorem drawProgramText_any (A : Option Addr) (n cap : Nat) (bs : List By) (w : World) (hR : Sl w A n cap bs) : Calls Tryz.prog 6 #[.slice A n cap] w (DrawnPr w) := by
  go_enter Tryz.func6, Tryz.ntmps6
  go_wp2_with fail
  obtain ⟨c0, z0, L0⟩ := box1 w (.slice none 0 0) 25
  have f0 : (w.alloc (.cells #[.slice none 0 0] 25)).frozen? ⟨w.heap.size, 0, none⟩ = false := World.frozen?_alloc_at _ _ _ _ rfl
  have S0 := hR.le L0
  generalize w.alloc (.cells #[.slice none 0 0] 25) = W at *
  refine (newReader_any A n cap bs W S0).mono ?_
  rintro e w1 ⟨g, A1, n1, k1, bs1, rfl, hg, R1, hle⟩
  have hz1 : w.heap.size < w1.heap.size := Nat.lt_of_lt_of_le z0 hle.size
  replace c0 := (hle.cell z0).trans c0
  replace f0 := (hle.frozen z0).trans f0
  replace L0 := L0.trans hle
  clear S0
  have hgz : w.heap.size ≠ g := by omega
  go_wp2_with fail
  refine (someProgram_any g 0 A1 n1 k1 bs1 w1 (by omega) R1).mono ?_
  rintro e w2 ⟨B, D, m, c, q, d, xs, L, p2, rfl, S2, hm, hab, SD, hq, hD, hp2, R2, hg2⟩
  replace c0 := (hg2.cell hz1 hgz).trans c0
  replace f0 := (hg2.frozen hz1 hgz).trans f0
  have L2 := Gx.le L0 hg2 (by omega)
  have hend : ∀ u, (w2.setCell ⟨w.heap.size, 0, none⟩ u).cell? ⟨w.heap.size, 0, none⟩ = some u := fun u => cell_set_same c0
  have hSx : ∀ u, Sl (w2.setCell ⟨w.heap.size, 0, none⟩ u) B m c xs := fun u => S2.gx (fun h a e => by have := hab h a e; omega) (Gx.set w.heap.size 0 w2 u)
  have hSy : ∀ u, Sl (w2.setCell ⟨w.heap.size, 0, none⟩ u) D q d L := fun u => SD.gx (fun h a e => by have := hD h a e; omega) (Gx.set w.heap.size 0 w2 u)
  clear hle L0 R1 R2 hg2 S2 SD
  go_wp2
  exact bodyPost_ret (v := .tuple #[.agg #[.slice B m c], .slice D q d]) (by simp [results, Tryz.results6, go_sem, hend]) rfl ⟨B, D, m, c, q, d, xs, L, rfl, hSx _, hm, hSy _, hq, L2.setCell (Nat.le_refl _) _⟩
end

section
theorem findN_spec (s : ByteArray) : ∀ (L : List Cls) (j : Int), (findN L s j = -1 ∧ ∀ i (h : i < L.length), L[i].name ≠ s) ∨ ∃ i, ∃ h : i < L.length, findN L s j = j + i ∧ L[i].name = s ∧ ∀ k (hk : k < i), (L[k]'(by omega)).name ≠ s
  | [], j => .inl ⟨rfl, fun i h => absurd h (by simp)⟩
  | c :: r, j => by
    unfold findN
    by_cases h : c.name = s
    · rw [if_pos h]
      exact .inr ⟨0, by simp, by simp, h, fun k hk => absurd hk (by omega)⟩
    · rw [if_neg h]
      rcases findN_spec s r (j + 1) with ⟨h1, h2⟩ | ⟨i, hi, h1, h2, h3⟩
      · refine .inl ⟨h1, fun i hi => ?_⟩
        cases i with
        | zero => exact h
        | succ i => exact h2 i (by simpa using hi)
      · refine .inr ⟨i + 1, by simpa using hi, by rw [h1]; omega, h2, fun k hk => ?_⟩
        cases k with
        | zero => exact h
        | succ k => exact h3 k (by omega)
theorem names_ne {xs : List Cls} (g : Good xs) {i k : Nat} (hik : i < k) (hk : k < xs.length) : (xs[i]'(by omega)).name ≠ xs[k].name := by
  have h := g.diff k hk
  rcases findN_spec xs[k].name (xs.take k) 0 with ⟨_, h2⟩ | ⟨j, hj, h1, _, _⟩
  · have := h2 i (by rw [List.length_take]; omega)
    rwa [List.getElem_take] at this
  · omega
theorem findN_here {xs : List Cls} (g : Good xs) {k : Nat} (hk : k < xs.length) : findN xs xs[k].name 0 = k := by
  rcases findN_spec xs[k].name xs 0 with ⟨_, h2⟩ | ⟨j, hj, h1, h2, h3⟩
  · exact absurd rfl (h2 k hk)
  · rcases Nat.lt_trichotomy j k with h | h | h
    · exact absurd h2 (names_ne g h hk)
    · omega
    · exact absurd rfl (h3 k h)
theorem findN_hit {xs : List Cls} {s : ByteArray} (h : 0 ≤ findN xs s 0) : ∃ i, ∃ hi : i < xs.length, findN xs s 0 = i ∧ xs[i].name = s := by
  rcases findN_spec s xs 0 with ⟨h1, _⟩ | ⟨j, hj, h1, h2, _⟩
  · omega
  · exact ⟨j, hj, by omega, h2⟩
end

section
/-- the bytes of a text, and the text of bytes -/
def bl (s : ByteArray) : List UInt8 := s.data.toList
def tb (l : List UInt8) : ByteArray := ⟨l.toArray⟩
theorem tb_bl (s : ByteArray) : tb (bl s) = s := rfl
theorem bl_tb (l : List UInt8) : bl (tb l) = l := rfl
theorem bl_app (a b : ByteArray) : bl (a ++ b) = bl a ++ bl b := by
  unfold bl; rw [ByteArray.data_append, Array.toList_append]
theorem bl_len (s : ByteArray) : (bl s).length = s.size := rfl
theorem bl_inj {a b : ByteArray} (h : bl a = bl b) : a = b := by rw [← tb_bl a, ← tb_bl b, h]
theorem bl_nil : bl ByteArray.empty = [] := rfl

/-- cuts at a byte -/
theorem indexByte_skip {c : UInt8} : ∀ {a : List UInt8}, c ∉ a → ∀ r, Lib.indexByte (a ++ c :: r) c = a.length
  | [], _, r => by simp [Lib.indexByte]
  | x :: a, h, r => by
    have hx : (x == c) = false := by
      rw [beq_eq_false_iff_ne]; rintro rfl; exact h (by simp)
    have ih := indexByte_skip (a := a) (fun q => h (List.mem_cons_of_mem _ q)) r
    show Lib.indexByte (x :: (a ++ c :: r)) c = _
    rw [Lib.indexByte, ih, hx]
    have : ((a.length : Int) == -1) = false := by rw [beq_eq_false_iff_ne]; omega
    rw [this]
    simp
theorem indexByte_miss {c : UInt8} : ∀ {a : List UInt8}, c ∉ a → Lib.indexByte a c = -1
  | [], _ => rfl
  | x :: a, h => by
    have hx : (x == c) = false := by
      rw [beq_eq_false_iff_ne]; rintro rfl; exact h (by simp)
    rw [Lib.indexByte, indexByte_miss (a := a) (fun q => h (List.mem_cons_of_mem _ q)), hx]
    rfl
theorem cut_line {c : UInt8} {a : List UInt8} (h : c ∉ a) (r : List UInt8) : Lib.cut (a ++ c :: r) [c] = (a, r, true) := by
  unfold Lib.cut
  rw [Lib.index_one, indexByte_skip h r, if_pos (by omega)]
  simp
theorem cut_one {c : UInt8} {a : List UInt8} (h : c ∉ a) : Lib.cut a [c] = (a, [], false) := by
  unfold Lib.cut
  rw [Lib.index_one, indexByte_miss h, if_neg (by omega)]
/-- a text is one piece, or one ahead of the byte and what is behind it -/
theorem split_or (c : UInt8) : ∀ (s : List UInt8), (c ∉ s) ∨ ∃ a r, s = a ++ c :: r ∧ c ∉ a
  | [] => .inl (by simp)
  | x :: s => by
    by_cases hx : x = c
    · exact .inr ⟨[], s, by rw [hx]; rfl, by simp⟩
    · rcases split_or c s with h | ⟨a, r, e, h⟩
      · left; intro hm
        rcases List.mem_cons.1 hm with e | e
        · exact hx e.symm
        · exact h e
      · right
        refine ⟨x :: a, r, by rw [e]; rfl, fun hm => ?_⟩
        rcases List.mem_cons.1 hm with e2 | e2
        · exact hx e2.symm
        · exact h e2
theorem cut_shorter (c : UInt8) {s : List UInt8} (h : s ≠ []) : (Lib.cut s [c]).2.1.length < s.length := by
  rcases split_or c s with h1 | ⟨a, r, e, h1⟩
  · rw [cut_one h1]
    show 0 < s.length
    exact List.length_pos_iff.2 h
  · rw [e, cut_line h1]
    simp; omega
theorem cut_fst_len (c : UInt8) (s : List UInt8) : (Lib.cut s [c]).1.length ≤ s.length ∧ (Lib.cut s [c]).2.1.length ≤ s.length := by
  rcases split_or c s with h1 | ⟨a, r, e, h1⟩
  · rw [cut_one h1]; exact ⟨Nat.le_refl _, Nat.zero_le _⟩
  · rw [e, cut_line h1]; simp; omega
/-- the pieces between the bytes of a kind -/
def splitL (c : UInt8) : List UInt8 → List (List UInt8)
  | [] => [[]]
  | x :: r => if x = c then [] :: splitL c r else
    match splitL c r with
    | [] => [[x]]
    | h :: t => (x :: h) :: t
theorem splitL_ne (c : UInt8) (s : List UInt8) : splitL c s ≠ [] := by
  cases s with
  | nil => simp [splitL]
  | cons x r =>
    rw [splitL]
    split
    · simp
    · split <;> simp
theorem splitL_skip {c : UInt8} : ∀ {a : List UInt8}, c ∉ a → ∀ s, ∃ h t, splitL c s = h :: t ∧ splitL c (a ++ s) = (a ++ h) :: t
  | [], _, s => by
    cases h : splitL c s with
    | nil => exact absurd h (splitL_ne c s)
    | cons x r => exact ⟨x, r, rfl, by simpa using h⟩
  | x :: r, hn, s => by
    have hx : x ≠ c := fun e => hn (by simp [e])
    obtain ⟨h, t, e1, e2⟩ := splitL_skip (a := r) (fun hq => hn (List.mem_cons_of_mem _ hq)) s
    refine ⟨h, t, e1, ?_⟩
    show splitL c (x :: (r ++ s)) = _
    rw [splitL, if_neg hx, e2]; rfl
theorem splitL_line {c : UInt8} {a : List UInt8} (h : c ∉ a) (s : List UInt8) : splitL c (a ++ c :: s) = a :: splitL c s := by
  obtain ⟨x, t, e1, e2⟩ := splitL_skip h (c :: s)
  rw [splitL, if_pos rfl] at e1
  injection e1 with e1 e3
  rw [e2, ← e1, ← e3]; simp
theorem splitL_one {c : UInt8} {a : List UInt8} (h : c ∉ a) : splitL c a = [a] := by
  obtain ⟨x, t, e1, e2⟩ := splitL_skip h []
  simp [splitL] at e1
  rw [e1.1, e1.2] at e2
  simpa using e2
theorem splitL_len (c : UInt8) (s : List UInt8) : (splitL c s).length = s.count c + 1 := by
  induction s with
  | nil => rfl
  | cons x r ih =>
    rw [splitL]
    by_cases hx : x = c
    · subst hx
      rw [if_pos rfl, List.length_cons, ih, List.count_cons_self]
    · rw [if_neg hx]
      have e : (x :: r).count c = r.count c := by rw [List.count_cons_of_ne hx]
      rw [e, ← ih]
      cases h : splitL c r with
      | nil => exact absurd h (splitL_ne c r)
      | cons y t => rfl

/-- the line of a class, the lines of several, the text of a tree -/
def lnB (xs : List Cls) (c : Cls) : List UInt8 := cond (decide (0 ≤ c.parent)) (bl c.name ++ 32 :: bl (match xs[c.parent.toNat]? with | some d => d.name | none => ByteArray.empty)) (bl c.name)
def txB (xs : List Cls) : List Cls → List UInt8
  | [] => []
  | c :: r => lnB xs c ++ 10 :: txB xs r
def treeB (xs : List Cls) : List UInt8 := txB xs xs
theorem txB_at {xs ys : List Cls} {k : Nat} (h : k < ys.length) : txB xs (ys.drop k) = lnB xs ys[k] ++ 10 :: txB xs (ys.drop (k + 1)) := by
  rw [List.drop_eq_getElem_cons h]; rfl
theorem txB_end {xs ys : List Cls} {k : Nat} (h : ¬ k < ys.length) : txB xs (ys.drop k) = [] := by
  rw [List.drop_eq_nil_of_le (by omega)]; rfl
theorem lowers_rng : ∀ (l : List UInt8), lowers l = true → ∀ x ∈ l, 97 ≤ x.toNat
  | [], _, x, hx => by simp at hx
  | c :: r, h, x, hx => by
    unfold lowers at h
    simp only [Bool.and_eq_true, decide_eq_true_eq] at h
    rcases List.mem_cons.1 hx with rfl | hx
    · exact h.1.1
    · exact lowers_rng r h.2 x hx
theorem name_rng {s : ByteArray} (h : okName s = true) : (∀ x ∈ bl s, 97 ≤ x.toNat) ∧ 1 ≤ (bl s).length ∧ (bl s).length ≤ 6 := by
  unfold okName at h
  simp only [Bool.and_eq_true, decide_eq_true_eq] at h
  refine ⟨lowers_rng _ h.1.1, ?_, ?_⟩
  · rw [bl_len]; have := h.1.2; omega
  · rw [bl_len]; have := h.2; omega
theorem not_mem_name {s : ByteArray} (h : okName s = true) {c : UInt8} (hc : c.toNat < 97) : c ∉ bl s := fun hm => by
  have := (name_rng h).1 c hm; omega
/-- the line of a class of a valid tree -/
theorem lnB_root {xs : List Cls} (g : Good xs) (h : 0 < xs.length) : lnB xs xs[0] = bl xs[0].name := by
  unfold lnB; rw [g.root h]; rfl
theorem lnB_up {xs : List Cls} (g : Good xs) {k : Nat} (h : k < xs.length) (h0 : 0 < k) : ∃ p : Nat, ∃ hp : p < k, xs[k].parent = (p : Int) ∧ lnB xs xs[k] = bl xs[k].name ++ 32 :: bl (xs[p]'(by omega)).name := by
  have a := g.par k h h0
  obtain ⟨p, hp⟩ := Int.eq_ofNat_of_zero_le a.1
  refine ⟨p, by omega, hp, ?_⟩
  unfold lnB
  rw [decide_eq_true a.1, hp, Int.toNat_natCast, List.getElem?_eq_getElem (by omega)]
  rfl
theorem lnB_nl {xs : List Cls} (g : Good xs) {k : Nat} (h : k < xs.length) : (10 : UInt8) ∉ lnB xs xs[k] ∧ (lnB xs xs[k]).length ≤ 13 := by
  have hn := g.name k h
  have hl := (name_rng hn).2.2
  rcases Nat.eq_zero_or_pos k with h0 | h0
  · subst h0
    rw [lnB_root g h]
    exact ⟨not_mem_name hn (by decide), by omega⟩
  · obtain ⟨p, hp, _, e⟩ := lnB_up g h h0
    have hn2 := g.name p (by omega)
    have hl2 := (name_rng hn2).2.2
    rw [e]
    refine ⟨fun hm => ?_, by simp; omega⟩
    rcases List.mem_append.1 hm with hm | hm
    · exact not_mem_name hn (by decide) hm
    · rcases List.mem_cons.1 hm with e2 | hm
      · exact absurd e2 (by decide)
      · exact not_mem_name hn2 (by decide) hm
theorem txB_len {xs : List Cls} (g : Good xs) : ∀ (m k : Nat), k + m = xs.length → (txB xs (xs.drop k)).length ≤ 14 * m := by
  intro m
  induction m with
  | zero => intro k hk; rw [txB_end (by omega)]; simp
  | succ m ih =>
    intro k hk
    have := ih (k + 1) (by omega)
    have h2 := (lnB_nl g (k := k) (by omega)).2
    rw [txB_at (by omega)]
    simp; omega
theorem treeB_len {xs : List Cls} (g : Good xs) : (treeB xs).length ≤ 112 := by
  have := txB_len g xs.length 0 (by omega)
  have := g.hi
  rw [List.drop_zero] at *
  unfold treeB; omega
/-- trees of texts: the program's -/
def pcI (acc : List Cls) (line : List UInt8) : Cls := ⟨tb (Lib.cut line [32]).1, findN acc (tb (Lib.cut line [32]).2.1) 0⟩
def pI : Nat → List UInt8 → List Cls → Option (List Cls)
  | 0, _, acc => some acc
  | m + 1, rest, acc => if rest = [] then some acc else if acc.length = 8 then none else pI m (Lib.cut rest [10]).2.1 (acc ++ [pcI acc (Lib.cut rest [10]).1])
/-- trees of texts: the model's -/
def pcS (acc : List Cls) (line : List UInt8) : Cls :=
  match splitL 32 line with
  | [a, b] => ⟨tb a, findN acc (tb b) 0⟩
  | a :: _ => ⟨tb a, -1⟩
  | [] => ⟨ByteArray.empty, -1⟩
def pS : List (List UInt8) → List Cls → List Cls
  | [], acc => acc
  | [_], acc => acc
  | l :: r, acc => pS r (acc ++ [pcS acc l])
theorem findN_take {xs : List Cls} (g : Good xs) {p k : Nat} (hp : p < k) (hk : k ≤ xs.length) : findN (xs.take k) (xs[p]'(by omega)).name 0 = (p : Int) := by
  rcases findN_spec (xs[p]'(by omega)).name (xs.take k) 0 with ⟨_, h2⟩ | ⟨j, hj, h1, h2, h3⟩
  · exact absurd (by rw [List.getElem_take]) (h2 p (by rw [List.length_take]; omega))
  · rw [List.length_take] at hj
    rw [List.getElem_take] at h2
    have e := findN_here g (k := p) (by omega)
    have e2 := findN_here g (k := j) (by omega)
    rw [h2] at e2
    rw [e] at e2
    rw [h1]; omega
theorem pcI_line {xs : List Cls} (g : Good xs) {k : Nat} (h : k < xs.length) : pcI (xs.take k) (lnB xs xs[k]) = xs[k] ∧ pcS (xs.take k) (lnB xs xs[k]) = xs[k] := by
  have hn := g.name k h
  have h32 := not_mem_name hn (c := 32) (by decide)
  rcases Nat.eq_zero_or_pos k with h0 | h0
  · subst h0
    rw [lnB_root g h]
    unfold pcI pcS
    rw [cut_one h32, splitL_one h32]
    have hr := g.root h
    constructor
    · show (⟨tb (bl xs[0].name), findN (xs.take 0) (tb []) 0⟩ : Cls) = xs[0]
      rw [tb_bl, List.take_zero]
      show (⟨xs[0].name, -1⟩ : Cls) = xs[0]
      rw [← hr]
    · show (⟨tb (bl xs[0].name), -1⟩ : Cls) = xs[0]
      rw [tb_bl, ← hr]
  · obtain ⟨p, hp, e, e2⟩ := lnB_up g h h0
    have hn2 := g.name p (by omega)
    have h32b := not_mem_name hn2 (c := 32) (by decide)
    have hf := findN_take g hp (Nat.le_of_lt h)
    rw [e2]
    unfold pcI pcS
    rw [cut_line h32, splitL_line h32, splitL_one h32b]
    constructor
    · show (⟨tb (bl xs[k].name), findN (xs.take k) (tb (bl _)) 0⟩ : Cls) = xs[k]
      rw [tb_bl, tb_bl, hf, ← e]
    · show (⟨tb (bl xs[k].name), findN (xs.take k) (tb (bl _)) 0⟩ : Cls) = xs[k]
      rw [tb_bl, tb_bl, hf, ← e]
theorem pI_tree {xs : List Cls} (g : Good xs) : ∀ (m k : Nat), k + m = xs.length → ∀ f, m < f → pI f (txB xs (xs.drop k)) (xs.take k) = some xs := by
  intro m
  induction m with
  | zero =>
    intro k hk f hf
    obtain ⟨f, rfl⟩ : ∃ q, f = q + 1 := ⟨f - 1, by omega⟩
    rw [txB_end (by omega), pI, if_pos rfl, List.take_of_length_le (by omega)]
  | succ m ih =>
    intro k hk f hf
    obtain ⟨f, rfl⟩ : ∃ q, f = q + 1 := ⟨f - 1, by omega⟩
    have h : k < xs.length := by omega
    have := g.hi
    rw [txB_at h, pI, if_neg (by simp), if_neg (by rw [List.length_take]; omega), cut_line (lnB_nl g h).1]
    show pI f (txB xs (xs.drop (k + 1))) (xs.take k ++ [pcI (xs.take k) (lnB xs xs[k])]) = _
    rw [(pcI_line g h).1, ← List.take_succ_eq_append_getElem h]
    exact ih (k + 1) (by omega) f (by omega)
theorem pS_tree {xs : List Cls} (g : Good xs) : ∀ (m k : Nat), k + m = xs.length → pS (splitL 10 (txB xs (xs.drop k))) (xs.take k) = xs := by
  intro m
  induction m with
  | zero =>
    intro k hk
    rw [txB_end (by omega)]
    show pS [[]] _ = _
    rw [pS, List.take_of_length_le (by omega)]
  | succ m ih =>
    intro k hk
    have h : k < xs.length := by omega
    rw [txB_at h, splitL_line (lnB_nl g h).1]
    have := ih (k + 1) (by omega)
    cases e : splitL 10 (txB xs (xs.drop (k + 1))) with
    | nil => exact absurd e (splitL_ne _ _)
    | cons a r =>
      rw [e] at this
      rw [pS, (pcI_line g h).2, ← List.take_succ_eq_append_getElem h]
      · exact this
      · simp
/-- the tree of a text, and whether there is one -/
def ptT (s : ByteArray) : List Cls := pS (splitL 10 (bl s)) []
def ptOk (s : ByteArray) : Bool := okTree (ptT s) && decide (treeB (ptT s) = bl s)
def ptX (s : ByteArray) : List Cls := cond (ptOk s) (ptT s) []
def ptI (s : ByteArray) : Option (List Cls) := pI (s.size + 1) (bl s) []
theorem pt_good {s : ByteArray} {xs : List Cls} (h1 : okTree xs = true) (h2 : treeB xs = bl s) : ptT s = xs ∧ ptI s = some xs := by
  have g := good_of h1
  have a := pS_tree g xs.length 0 (by omega)
  have hl : xs.length < s.size + 1 := by
    have hx : ∀ (m k : Nat), k + m = xs.length → m ≤ (txB xs (xs.drop k)).length := by
      intro m
      induction m with
      | zero => intro k _; omega
      | succ m ih => intro k hk; have := ih (k + 1) (by omega); rw [txB_at (by omega)]; simp; omega
    have := hx xs.length 0 (by omega)
    rw [List.drop_zero] at this
    have e : (txB xs xs).length = s.size := by
      show (treeB xs).length = s.size
      rw [h2]; rfl
    omega
  have b := pI_tree g xs.length 0 (by omega) (s.size + 1) hl
  rw [List.drop_zero, List.take_zero] at a b
  unfold ptT ptI
  rw [← h2]
  exact ⟨a, b⟩
/-- the program's way gives the same -/
theorem pt_none {s : ByteArray} (h : ptI s = none) : ptOk s = false := by
  cases e : ptOk s
  · rfl
  · unfold ptOk at e
    simp only [Bool.and_eq_true, decide_eq_true_eq] at e
    have := (pt_good e.1 e.2).2
    rw [h] at this; cases this
theorem pt_some {s : ByteArray} {xs : List Cls} (h : ptI s = some xs) : (okTree xs && decide (treeB xs = bl s)) = ptOk s ∧ (ptOk s = true → xs = ptX s) := by
  cases e : ptOk s
  · refine ⟨?_, fun h => by cases h⟩
    cases e2 : (okTree xs && decide (treeB xs = bl s))
    · rfl
    · simp only [Bool.and_eq_true, decide_eq_true_eq] at e2
      have a := (pt_good e2.1 e2.2).1
      unfold ptOk at e
      rw [a, e2.1, decide_eq_true e2.2] at e
      cases e
  · have e' := e
    unfold ptOk at e
    simp only [Bool.and_eq_true, decide_eq_true_eq] at e
    have b := (pt_good e.1 e.2).2
    rw [h] at b
    injection b with b
    subst b
    refine ⟨by rw [e.1, decide_eq_true e.2]; rfl, fun _ => by unfold ptX; rw [e']; rfl⟩
end

section
def dg (n : Nat) : UInt8 := UInt8.ofNat (48 + n)
def numL (n : Nat) : List UInt8 := if n < 10 then [dg n] else if n < 100 then [dg (n / 10), dg (n % 10)] else [dg (n / 100), dg (n / 10 % 10), dg (n % 10)]
def dv (l : List UInt8) : Nat := l.foldl (fun a b => 10 * a + (b.toNat - 48)) 0
def isDg (b : UInt8) : Bool := decide (48 ≤ b.toNat) && decide (b.toNat ≤ 57)
theorem numL_dg : ∀ n : Fin 1000, (numL n.1).all isDg = true := by decide +kernel
theorem numL_sz : ∀ n : Fin 1000, 1 ≤ (numL n.1).length ∧ (numL n.1).length ≤ 3 := by decide +kernel
theorem numL_sz2 : ∀ n : Fin 100, (numL n.1).length ≤ 2 := by decide +kernel
theorem numL_dv : ∀ n : Fin 1000, dv (numL n.1) = n.1 := by decide +kernel
theorem numL_pre : ∀ n : Fin 1000, dv ((numL n.1).take 1) ≤ 9 ∧ ((numL n.1).length = 3 → dv ((numL n.1).take 2) ≤ 99) := by decide +kernel
theorem numL_atoi : ∀ n : Fin 1000, Lib.atoiAll (numL n.1) = .ok (n.1 : Int) := by decide +kernel
theorem isDg_iff {b : UInt8} : isDg b = true ↔ 48 ≤ b.toNat ∧ b.toNat ≤ 57 := by unfold isDg; simp
theorem numL_not {n : Nat} (h : n < 1000) {c : UInt8} (hc : c.toNat < 48 ∨ 57 < c.toNat) : c ∉ numL n := fun hm => by
  have := List.all_eq_true.1 (numL_dg ⟨n, h⟩) c hm
  have := isDg_iff.1 this
  omega
theorem numL_inj {a b : Nat} (ha : a < 1000) (hb : b < 1000) (h : numL a = numL b) : a = b := by
  have h1 := numL_dv ⟨a, ha⟩
  have h2 := numL_dv ⟨b, hb⟩
  dsimp only at h1 h2
  rw [← h1, ← h2, h]
/-- what strconv.Atoi answers ahead of its error -/
def atI (l : List UInt8) : Int := match Lib.atoiAll l with
  | .ok v => v
  | .range => Lib.atoiSat l
  | _ => 0
theorem atI_num {n : Nat} (h : n < 1000) : atI (numL n) = n := by
  unfold atI; rw [numL_atoi ⟨n, h⟩]
theorem atI_rng (l : List UInt8) : -9223372036854775808 ≤ atI l ∧ atI l ≤ 9223372036854775807 := by
  unfold atI
  cases h : Lib.atoiAll l with
  | ok v => exact Lib.atoiAll_bounds h
  | range => exact Lib.atoiSat_bounds l
  | _ => exact ⟨(by decide : (-9223372036854775808 : Int) ≤ 0), (by decide : (0 : Int) ≤ 9223372036854775807)⟩
/-- what the model reads of at most so many: a number that is written so, or -1 -/
def rdN (m : Nat) (l : List UInt8) : Int := if numL (dv l) = l ∧ dv l < m then dv l else -1
theorem rdN_num {m n : Nat} (h : n < m) (hm : m ≤ 1000) : rdN m (numL n) = n := by
  unfold rdN
  have e : dv (numL n) = n := numL_dv ⟨n, by omega⟩
  rw [e, if_pos ⟨rfl, h⟩]
theorem rdN_rng {m : Nat} (hm : m ≤ 1000) (l : List UInt8) : -1 ≤ rdN m l ∧ rdN m l ≤ 999 := by
  unfold rdN
  split
  · rename_i h; omega
  · omega
theorem rdN_no {m : Nat} {l : List UInt8} (h : ∀ n, n < m → numL n ≠ l) : rdN m l = -1 := by
  unfold rdN
  rw [if_neg]
  rintro ⟨h1, h2⟩
  exact h _ h2 h1
/-- words: what lies between spaces, but for nothing at the end -/
def wd : Nat → List UInt8 → List (List UInt8)
  | 0, _ => []
  | n + 1, s => if s = [] then [] else (Lib.cut s [32]).1 :: wd n (Lib.cut s [32]).2.1
theorem wd_more : ∀ (n : Nat) (s : List UInt8), s.length ≤ n → wd n s = wd s.length s
  | 0, s, h => by
    have : s = [] := List.length_eq_zero_iff.1 (by omega)
    subst this; rfl
  | n + 1, s, h => by
    cases s with
    | nil => rfl
    | cons x r =>
      have hs := cut_shorter 32 (s := x :: r) (by simp)
      rw [List.length_cons] at h hs ⊢
      rw [wd, wd, if_neg (by simp), if_neg (by simp)]
      rw [wd_more n _ (by omega), wd_more r.length _ (by omega)]
def words (s : List UInt8) : List (List UInt8) := wd s.length s
theorem words_nil : words [] = [] := rfl
theorem words_step {s : List UInt8} (h : s ≠ []) : words s = (Lib.cut s [32]).1 :: words (Lib.cut s [32]).2.1 := by
  unfold words
  cases s with
  | nil => exact absurd rfl h
  | cons x r =>
    have hs := cut_shorter 32 (s := x :: r) (by simp)
    rw [List.length_cons] at hs ⊢
    rw [wd, if_neg (by simp), wd_more _ _ (by omega)]
/-- joined with spaces -/
def jn : List (List UInt8) → List UInt8
  | [] => []
  | [a] => a
  | a :: b :: r => a ++ 32 :: jn (b :: r)
theorem jn_cons {a : List UInt8} {L : List (List UInt8)} (h : L ≠ []) : jn (a :: L) = a ++ 32 :: jn L := by
  cases L with
  | nil => exact absurd rfl h
  | cons b r => rfl
theorem jn_snoc {L : List (List UInt8)} (h : L ≠ []) (a : List UInt8) : jn (L ++ [a]) = jn L ++ 32 :: a := by
  induction L with
  | nil => exact absurd rfl h
  | cons x r ih =>
    cases r with
    | nil => rfl
    | cons y q =>
      show jn (x :: (y :: q ++ [a])) = _
      rw [jn_cons (a := x) (L := y :: q ++ [a]) (by simp), ih (by simp), jn_cons (a := x) (L := y :: q) (by simp), List.append_assoc]; rfl
theorem words_jn : ∀ {L : List (List UInt8)}, (∀ a ∈ L, a ≠ [] ∧ (32 : UInt8) ∉ a) → words (jn L) = L
  | [], _ => rfl
  | [a], h => by
    obtain ⟨h1, h2⟩ := h a (by simp)
    show words a = _
    rw [words_step h1, cut_one h2]; rfl
  | a :: b :: r, h => by
    obtain ⟨h1, h2⟩ := h a (by simp)
    have ih := words_jn (L := b :: r) (fun x hx => h x (List.mem_cons_of_mem _ hx))
    rw [jn_cons (by simp), words_step (by simp), cut_line h2, ih]
theorem split_jn : ∀ {L : List (List UInt8)}, L ≠ [] → (∀ a ∈ L, (32 : UInt8) ∉ a) → splitL 32 (jn L) = L
  | [], h, _ => absurd rfl h
  | [a], _, h => splitL_one (h a (by simp))
  | a :: b :: r, _, h => by
    have ih := split_jn (L := b :: r) (by simp) (fun x hx => h x (List.mem_cons_of_mem _ hx))
    rw [jn_cons (by simp), splitL_line (h a (by simp)), ih]
theorem jn_nil {L : List (List UInt8)} (h : ∀ a ∈ L, a ≠ []) : jn L = [] ↔ L = [] := by
  constructor
  · intro e
    cases L with
    | nil => rfl
    | cons a r =>
      have ha := h a (by simp)
      cases r with
      | nil => exact absurd e ha
      | cons b q => rw [jn_cons (by simp)] at e; simp at e
  · rintro rfl; rfl
end

section
def digs : ByteArray := ⟨#[48, 49, 50, 51, 52, 53, 54, 55, 56, 57]⟩
theorem digs_at : ∀ n : Fin 10, digs.extract n.1 (n.1 + 1) = tb (numL n.1) := by decide +kernel
theorem numL_two : ∀ n : Fin 1000, 10 ≤ n.1 → numL n.1 = numL (n.1 / 10) ++ numL (n.1 % 10) := by decide +kernel
theorem tb_app (a b : List UInt8) : tb (a ++ b) = tb a ++ tb b := bl_inj (by rw [bl_app]; rfl)
theorem tb_size (a : List UInt8) : (tb a).size = a.length := rfl
theorem num_size {n : Nat} (h : n < 1000) : (tb (numL n)).size ≤ 3 := (numL_sz ⟨n, h⟩).2
set_option maxRecDepth 100000 in
theorem number1_any (n : Nat) (w : World) (h : n < 10) : Calls Tryz.prog 99 #[.int .i64 n] w fun e w' => e = .returned (.string (tb (numL n))) ∧ w = w' := by
  have hw : IntKind.i64.wrap ((n : Int) + 1) = (n : Int) + 1 := IntWalk.i64_in _ (by omega)
  have h3 : (n : Int) < 10 := by omega
  have h4 : (0 : Int) ≤ (n : Int) := by omega
  have h5 : (n : Int) + 1 ≤ 10 := by omega
  have h6 : (n : Int) ≤ (n : Int) + 1 := by omega
  have HE := Lib.hid (digs_at ⟨n, h⟩)
  go_enter Tryz.func99, Tryz.ntmps99
  go_wp2
  go_ret
  exact ⟨ret_str HE.out, rfl⟩
set_option maxRecDepth 100000 in
theorem number_step (n : Nat) (w : World) (h10 : 10 ≤ n) (h : n < 1000) (HQ : Hid (Calls Tryz.prog 99 #[.int .i64 ((n / 10 : Nat) : Int)] w fun e w' => e = .returned (.string (tb (numL (n / 10)))) ∧ w = w')) : Calls Tryz.prog 99 #[.int .i64 n] w fun e w' => e = .returned (.string (tb (numL n))) ∧ w = w' := by
  have HE := Lib.hid (numL_two ⟨n, h⟩ h10)
  have h3 : ¬ (n : Int) < 10 := by omega
  have hd : decide ((n : Int) < 10) = false := decide_eq_false h3
  have hq : (n : Int) / 10 = ((n / 10 : Nat) : Int) := by omega
  have hr : (n : Int) % 10 = ((n % 10 : Nat) : Int) := by omega
  have z1 : ((tb (numL (n / 10))).size : Int) ≤ 8388608 := by have := num_size (n := n / 10) (by omega); omega
  have z2 : ((tb (numL (n % 10))).size : Int) ≤ 8388608 := by have := num_size (n := n % 10) (by omega); omega
  have HQE := Lib.hid hq; have HRE := Lib.hid hr
  clear hq hr
  have HR := Lib.hid (number1_any (n % 10) w (by omega))
  obtain ⟨u1, HU1⟩ : ∃ u, Hid (tb (numL (n / 10)) = u) := ⟨_, Lib.hid rfl⟩
  obtain ⟨u2, HU2⟩ : ∃ u, Hid (tb (numL (n % 10)) = u) := ⟨_, Lib.hid rfl⟩
  rw [HU1.out] at HQ z1
  rw [HU2.out] at HR z2
  go_enter Tryz.func99, Tryz.ntmps99
  go_wp2_with fail
  rw [HQE.out]
  refine HQ.out.mono ?_
  rintro e w' ⟨rfl, rfl⟩
  go_wp2_with fail
  rw [HRE.out]
  refine HR.out.mono ?_
  rintro e w' ⟨rfl, rfl⟩
  go_wp2
  go_ret
  exact ⟨ret_str (by rw [← HU1.out, ← HU2.out, ← tb_app]; exact congrArg tb HE.out.symm), rfl⟩
theorem number2_any (n : Nat) (w : World) (h : n < 100) : Calls Tryz.prog 99 #[.int .i64 n] w fun e w' => e = .returned (.string (tb (numL n))) ∧ w = w' := by
  by_cases h10 : n < 10
  · exact number1_any n w h10
  · exact number_step n w (by omega) (by omega) (Lib.hid (number1_any (n / 10) w (by omega)))
theorem number3_any (n : Nat) (w : World) (h : n < 1000) : Calls Tryz.prog 99 #[.int .i64 n] w fun e w' => e = .returned (.string (tb (numL n))) ∧ w = w' := by
  by_cases h10 : n < 10
  · exact number1_any n w h10
  · exact number_step n w (by omega) (by omega) (Lib.hid (number2_any (n / 10) w (by omega)))
end
end Go.Proofs.YtkcnjoikdalgjaaGreatDoor
