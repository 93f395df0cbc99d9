/- one text of RsB, RnD, RnE, RnF, RsC, RsD, RsE -/
import Derived.Test.YtdbmolhdgmopoaaGreatRb2
import Derived.Test.YtdbmolhdgmopoaaGreatRb5
import Derived.Test.YtdbmolhdgmopoaaGreatRb4
import Derived.Test.YtdbmolhdgmopoaaGreatRb3
import Derived.Scope
namespace Go.Proofs.YtdbmolhdgmopoaaGreat
open Go.RowKit
section
def edK : Lft → Int
  | .nil => 0
  | .ret _ => 1
  | .rai _ => 2
  | .brk => 3
  | .cnt => 4
def edW : Lft → Int
  | .ret v => v
  | .rai f => f
  | _ => 0
/-- a call of the model's run does what is said of it -/
def SpOk (R m c n cap : Nat) (B A : Option Addr) (xs : List Cls) (p : List Lin) (f : FuncId) (args : Array Value) (lv hv : Value) (w : World) (r : Lft × Rst) : Prop :=
  Calls Tryz.prog f args w fun e w' => e = .returned (.agg #[.int .i64 (edK r.1), .int .i64 (edW r.1)]) ∧ ∃ lv' hv', Rn w' R B m c xs A n cap p lv' hv' r.2.1 r.2.2 ∧ Kp R lv hv lv' hv' w w'
/-- a box of two cells that a call keeps -/
structure Bx (W : World) (R g : Nat) (lv hv a b : Value) : Prop where
  z : g < W.heap.size
  ne : g ≠ R
  l : lv.ownBlock ≠ some g
  h : hv.ownBlock ≠ some g
  c0 : W.cell? ⟨g, 0, none⟩ = some a
  c1 : W.cell? ⟨g, 1, none⟩ = some b
  f : ∀ k, W.frozen? ⟨g, k, none⟩ = false
theorem frzB (w : World) (b o g k : Nat) (u : Value) : (w.setCell ⟨b, o, none⟩ u).frozen? ⟨g, k, none⟩ = w.frozen? ⟨g, k, none⟩ := by first | exact World.frozen?_setCell .. | simp [World.frozen?, World.setCell]
section
variable {w w' W W' : World} {R g m c n cap : Nat} {B A : Option Addr} {xs : List Cls} {p : List Lin} {lv hv lv' hv' lv0 hv0 v a b : Value} {lg : List Int} {hs hs2 : List Flt}
theorem Bx.kp (h : Bx W R g lv hv a b) (k : Kp R lv hv lv' hv' W W') : Bx W' R g lv' hv' a b :=
  ⟨Nat.lt_of_lt_of_le h.z k.size, h.ne, k.ownL h.z h.l, k.ownH h.z h.h, k.cell h.z h.ne h.l h.h h.c0, k.cell h.z h.ne h.l h.h h.c1, fun j => k.frozen h.z h.ne h.l h.h (h.f j)⟩
theorem Bx.le (h : Bx W R g lv hv a b) (L : Le W W') : Bx W' R g lv hv a b := h.kp (Kp.of_le R lv hv L)
theorem Bx.new (RN : Rn W R B m c xs A n cap p lv hv lg hs) (a b : Value) (T : TypeId) : Bx (W.alloc (.cells #[a, b] T)) R W.heap.size lv hv a b := by
  have z := RN.z
  refine ⟨by simp, by omega, fun e => by have := (RN.O.lt _ e).2; omega, fun e => by have := (RN.H.lt _ e).2; omega, ?_, ?_, fun k => World.frozen?_alloc_at _ _ _ _ rfl⟩
  · rw [World.cell?_alloc_at _ _ _ _ rfl]; rfl
  · rw [World.cell?_alloc_at _ _ _ _ rfl]; rfl
theorem Bx.set (h : Bx W R g lv hv a b) {g2 o : Nat} (hn : g2 ≠ g) (u : Value) : Bx (W.setCell ⟨g2, o, none⟩ u) R g lv hv a b :=
  ⟨by have := h.z; simp [World.setCell]; exact this, h.ne, h.l, h.h, (cell_set_other (.inl hn)).trans h.c0, (cell_set_other (.inl hn)).trans h.c1, fun k => (frzB _ _ _ _ _ _).trans (h.f k)⟩
theorem Bx.own (h : Bx W R g lv hv a b) (hl : lv'.ownBlock ≠ some g) (hh : hv'.ownBlock ≠ some g) : Bx W R g lv' hv' a b := ⟨h.z, h.ne, hl, hh, h.c0, h.c1, h.f⟩
/-- two values are stored into the box -/
theorem Bx.put (h : Bx W R g lv hv a b) (u v : Value) : Bx ((W.setCell ⟨g, 0, none⟩ u).setCell ⟨g, 1, none⟩ v) R g lv hv u v := by
  refine ⟨by have := h.z; simp [World.setCell]; exact this, h.ne, h.l, h.h, ?_, ?_, fun k => (frzB _ _ _ _ _ _).trans ((frzB _ _ _ _ _ _).trans (h.f k))⟩
  · exact (cell_set_other (.inr (by decide))).trans (cell_set_same h.c0)
  · exact cell_set_same ((cell_set_other (.inr (by decide))).trans h.c1)
theorem Rn.put2 (h : Rn W R B m c xs A n cap p lv hv lg hs) (hb : Bx W R g lv hv a b) (hg : R < g) (u v : Value) : Rn ((W.setCell ⟨g, 0, none⟩ u).setCell ⟨g, 1, none⟩ v) R B m c xs A n cap p lv hv lg hs :=
  (h.box hg hb.l hb.h u).box hg hb.l hb.h v
theorem Kp.put2 (h : Kp R lv0 hv0 lv hv w W) (hg : w.heap.size ≤ g) (u v : Value) : Kp R lv0 hv0 lv hv w ((W.setCell ⟨g, 0, none⟩ u).setCell ⟨g, 1, none⟩ v) := (h.box hg u).box hg v
/-- new faults take the place of the old ones -/
theorem Rn.put3 (h : Rn w R B m c xs A n cap p lv hv lg hs) (L : Le w W) (D : Owd 103 w W v hs2) :
    Rn (W.setCell ⟨R, 3, none⟩ v) R B m c xs A n cap p lv v lg hs2 ∧ Kp R lv hv lv v w (W.setCell ⟨R, 3, none⟩ v) := by
  have hA := h.le L
  have hzz : (W.setCell ⟨R, 3, none⟩ v).heap.size = W.heap.size := by simp [World.setCell]
  have gs := grown_set W R 3 v
  have hz := h.z
  have hvR : v.ownBlock = none ∨ v.ownBlock ≠ some R := by
    cases e : v.ownBlock with
    | none => exact .inl rfl
    | some k => exact .inr fun e2 => by injection e2 with e2; have := (D.row.lt k e).1; omega
  have hvR2 : v.ownBlock ≠ some R := fun e => by have := (D.row.lt _ e).1; omega
  refine ⟨⟨by rw [hzz]; exact hA.z, ?_, ?_, ?_, ?_, ?_, ?_, ?_, ?_, h.hB, h.hA, ?_, ?_, fun k e e2 => ?_, h.okl, D.ok, h.nl, hvR2⟩, ?_⟩
  · rw [cell_set_other (.inr (by decide))]; exact hA.c0
  · rw [cell_set_other (.inr (by decide))]; exact hA.c1
  · rw [cell_set_other (.inr (by decide))]; exact hA.c2
  · exact cell_set_same hA.c3
  · rw [frzB]; exact hA.f2
  · rw [frzB]; exact hA.f3
  · exact hA.S.grown gs (fun hn a e e2 => by have := h.hB hn a e; have e3 : a.block = R := (by injection e2); omega)
  · exact hA.T.grown gs (fun hn a e e2 => by have := h.hA hn a e; have e3 : a.block = R := (by injection e2); omega)
  · exact hA.O.kept gs (by cases e : lv.ownBlock with | none => exact .inl rfl | some k => exact .inr (fun e2 => by injection e2 with e2; exact h.lneR (by rw [e, e2])))
  · exact own_mono (D.row.kept gs hvR) (by omega)
  · have h1 := (h.O.lt k e).2
    have h2 := (D.row.lt k e2).1
    omega
  · refine ⟨gs.os.trans L.os, gs.tape.trans L.tape, gs.output.trans L.output, by rw [hzz]; exact L.size, fun b hb hR hl hh => ?_, .inl rfl, .inr fun k e => (D.row.lt k e).1⟩
    exact (gs.block b (Nat.lt_of_lt_of_le hb L.size) (fun e => hR (by injection e))).trans (L.block b hb)
end
theorem ret2 {a b c d : Int} (h : a = c) (h2 : b = d) : Ending.returned (.agg #[.int .i64 a, .int .i64 b]) = .returned (.agg #[.int .i64 c, .int .i64 d]) := by rw [h, h2]
theorem raisR_last (hs : List Flt) (cl k h : Int) (h0 : -1 ≤ h) : raisR (hs ++ [mkF cl k]) hs.length h = hs ++ [⟨cl, k, -1, h, false⟩] := by
  by_cases hn : h < 0
  · rw [raisR_no hn, show h = -1 by omega]; rfl
  · rw [raisR_at hn (by rw [List.length_append]; simp)]
    simp [mkF]
set_option maxHeartbeats 2000000 in
set_option maxRecDepth 100000 in
theorem sRaise_any (R m c n cap : Nat) (B A : Option Addr) (xs : List Cls) (p : List Lin) (lv hv : Value) (s : Rst) (cl k h : Int) (hcl : -9223372036854775808 ≤ cl ∧ cl ≤ 9223372036854775807) (hk : -9223372036854775808 ≤ k ∧ k ≤ 9223372036854775807) (gd : Gd xs s.2) (hh : Hd h s) (hl : s.2.length ≤ 1000000) (w : World) (H : Rn w R B m c xs A n cap p lv hv s.1 s.2) :
    SpOk R m c n cap B A xs p 90 #[.pointer (some ⟨R, 0, none⟩), .int .i64 cl, .int .i64 k, .int .i64 h] lv hv w (rsN cl k h s) := by
  have hz := H.z
  have hh0 := hh.1
  have hh1 := hh.2
  have L1 := Le.new w (.cells #[.int .i64 0, .int .i64 0] 77)
  have H1 := H.le L1
  have BX := Bx.new H (.int .i64 0) (.int .i64 0) 77
  have K1 := Kp.of_le R lv hv L1
  obtain ⟨AH, cH, rfl⟩ := own_form H.H
  have c3 := H1.c3
  have f3 := H1.f3
  have SH := Sl.of_own H1.H rfl (by decide) H1.okh
  unfold SpOk
  go_enter Tryz.func90, Tryz.ntmps90
  go_wp2_with fail
  generalize w.alloc (.cells #[.int .i64 0, .int .i64 0] 77) = W at *
  refine (added_any AH s.2.length cH s.2 cl k W SH (by omega) hcl hk).mono ?_
  rintro e w2 ⟨v2, rfl, D2, hl2⟩
  have P := H1.put3 hl2 D2
  have BX2 := (BX.le hl2)
  have BX3 := (BX2.set (o := 3) (show R ≠ w.heap.size by omega) v2).own (lv' := lv) (hv' := v2) BX2.l (fun e => by have h1 := (D2.row.lt _ e).1; have h2 := BX.z; omega)
  have c3b := (hl2.cell H1.z).trans c3
  have f3b := (hl2.frozen H1.z).trans f3
  obtain ⟨A2, q2, rfl⟩ := own_form D2.row
  have hlen : (s.2 ++ [mkF cl k]).length = s.2.length + 1 := by rw [List.length_append]; rfl
  rw [hlen] at P BX3
  have c3d := P.1.c3
  have f3d := P.1.f3
  have hOH := P.1.H
  rw [hlen] at hOH
  have SHd := Sl.of_own hOH rfl (by decide) P.1.okh
  have K3 := K1.trans P.2
  have HP := Lib.hid P.1
  have hsz : w.heap.size ≤ w.heap.size := Nat.le_refl _
  clear P c3 f3 BX BX2 hl2 D2 SH H1 K1 L1 hOH
  go_wp2_with fail
  generalize w2.setCell ⟨R, 3, none⟩ (.slice A2 (s.2.length + 1) q2) = W3 at *
  refine (raisedR_any A2 (s.2.length + 1) q2 (s.2 ++ [mkF cl k]) s.2.length h W3 SHd (by omega) (by omega) ?_ (by omega) hh0 hh1).mono ?_
  · intro i hi
    rcases Nat.lt_or_ge i s.2.length with h2 | h2
    · rw [List.getElem_append_left h2]; have := gd i h2; omega
    · have e : i = s.2.length := by omega
      subst e
      rw [List.getElem_append_right (Nat.le_refl _)]
      simp [mkF]
      omega
  rintro e w4 ⟨v4, rfl, D4, hl4⟩
  rw [raisR_last _ _ _ _ hh0] at D4
  have P := HP.out.put3 hl4 D4
  have BX4 := BX3.le hl4
  have BX5 := (BX4.set (o := 3) (show R ≠ w.heap.size by omega) v4).own (lv' := lv) (hv' := v4) BX4.l (fun e => by have h1 := (D4.row.lt _ e).1; have h2 := BX3.z; omega)
  have c3e := (hl4.cell HP.out.z).trans c3d
  have f3e := (hl4.frozen HP.out.z).trans f3d
  have K5 := K3.trans P.2
  obtain ⟨A4, q4, rfl⟩ := own_form D4.row
  have hlen2 : (s.2 ++ [(⟨cl, k, -1, h, false⟩ : Flt)]).length = s.2.length + 1 := by rw [List.length_append]; rfl
  rw [hlen2] at P BX5 K5
  have HR := Lib.hid (And.intro (P.1.put2 BX5 (by omega) (.int .i64 2) (.int .i64 s.2.length)) (K5.put2 hsz (.int .i64 2) (.int .i64 s.2.length)))
  have HB := Lib.hid (BX5.put (.int .i64 2) (.int .i64 s.2.length))
  rw [hlen2]
  have b0 := BX5.c0
  have b1 := BX5.c1
  have f0 := BX5.f 0
  have f1 := BX5.f 1
  clear P D4 hl4 BX3 BX4 SHd K3 K5 c3b f3b c3d f3d
  go_wp2
  have z0 := HB.out.c0
  have z1 := HB.out.c1
  exact bodyPost_ret (v := .agg #[.int .i64 2, .int .i64 s.2.length]) (by simp [results, Tryz.results90, go_sem, z0, z1]) rfl ⟨rfl, _, _, HR.out.1, HR.out.2⟩
set_option maxHeartbeats 2000000 in
set_option maxRecDepth 100000 in
theorem sAgain_any (R m c n cap : Nat) (B A : Option Addr) (xs : List Cls) (p : List Lin) (lv hv : Value) (s : Rst) (h : Int) (gd : Gd xs s.2) (hh : Hd h s) (hl : s.2.length ≤ 1000000) (w : World) (H : Rn w R B m c xs A n cap p lv hv s.1 s.2) :
    SpOk R m c n cap B A xs p 91 #[.pointer (some ⟨R, 0, none⟩), .int .i64 h] lv hv w (againN h s) := by
  have hz := H.z
  have hh0 := hh.1
  have hh1 := hh.2
  have L1 := Le.new w (.cells #[.int .i64 0, .int .i64 0] 77)
  have H1 := H.le L1
  have BX := Bx.new H (.int .i64 0) (.int .i64 0) 77
  have K1 := Kp.of_le R lv hv L1
  have hg : R < w.heap.size := hz
  unfold SpOk againN
  by_cases hn : h < 0
  · rw [if_pos hn]
    have hb : decide (0 ≤ h) = false := decide_eq_false (by omega)
    obtain rfl : h = -1 := by omega
    go_enter Tryz.func91, Tryz.ntmps91
    go_wp2_with fail
    generalize w.alloc (.cells #[.int .i64 0, .int .i64 0] 77) = W at *
    refine (show Calls _ _ _ _ _ from sRaise_any R m c n cap B A xs p lv hv s 0 0 (-1) (by omega) (by omega) gd hh hl W H1).mono ?_
    rintro e w2 ⟨rfl, lv2, hv2, RN, KP⟩
    have BX2 := BX.kp KP
    have b0 := BX2.c0
    have b1 := BX2.c1
    have f0 := BX2.f 0
    have f1 := BX2.f 1
    have HR := Lib.hid (And.intro (RN.put2 BX2 hg (.int .i64 2) (.int .i64 s.2.length)) ((K1.trans KP).put2 (Nat.le_refl _) (.int .i64 2) (.int .i64 s.2.length)))
    have HB := Lib.hid (BX2.put (.int .i64 2) (.int .i64 s.2.length))
    simp only [rsN, edK, edW]
    go_wp2
    have z0 := HB.out.c0
    have z1 := HB.out.c1
    exact bodyPost_ret (v := .agg #[.int .i64 2, .int .i64 s.2.length]) (by simp [results, Tryz.results91, go_sem, z0, z1]) rfl ⟨rfl, _, _, HR.out.1, HR.out.2⟩
  · rw [if_neg hn]
    have hb : decide (0 ≤ h) = true := decide_eq_true (by omega)
    have L2 := Le.new w (.cells #[.int .i64 2, .int .i64 h] 77)
    have b0 : (w.alloc (.cells #[.int .i64 2, .int .i64 h] 77)).cell? ⟨w.heap.size, 0, none⟩ = some (.int .i64 2) := by rw [World.cell?_alloc_at _ _ _ _ rfl]; rfl
    have b1 : (w.alloc (.cells #[.int .i64 2, .int .i64 h] 77)).cell? ⟨w.heap.size, 1, none⟩ = some (.int .i64 h) := by rw [World.cell?_alloc_at _ _ _ _ rfl]; rfl
    go_enter Tryz.func91, Tryz.ntmps91
    go_wp2
    exact bodyPost_ret (v := .agg #[.int .i64 2, .int .i64 h]) (by simp [results, Tryz.results91, go_sem, b0, b1]) rfl ⟨rfl, _, _, H.le L2, Kp.of_le R lv hv L2⟩
set_option maxHeartbeats 2000000 in
set_option maxRecDepth 100000 in
theorem runBody_any (R m c n cap : Nat) (B A : Option Addr) (xs : List Cls) (p : List Lin) (x : Nat) (h : Int) (s : Rst) (r : Lft × Rst) (hx : x < p.length) (lv hv : Value) (hp : p.length ≤ 24)
    (HA : ∀ w, Rn w R B m c xs A n cap p lv hv s.1 s.2 → SpOk R m c n cap B A xs p 40 #[.pointer (some ⟨R, 0, none⟩), .int .i64 ((x : Int) + 1), .int .i64 (bEnd p x), .int .i64 h] lv hv w r) (w : World) (H : Rn w R B m c xs A n cap p lv hv s.1 s.2) :
    SpOk R m c n cap B A xs p 108 #[.pointer (some ⟨R, 0, none⟩), .int .i64 x, .int .i64 h] lv hv w r := by
  have hz := H.z
  have L1 := Le.new w (.cells #[.int .i64 0, .int .i64 0] 77)
  have H1 := H.le L1
  have BX := Bx.new H (.int .i64 0) (.int .i64 0) 77
  have K1 := Kp.of_le R lv hv L1
  have hg : R < w.heap.size := hz
  have c1 := H1.c1
  unfold SpOk
  go_enter Tryz.func108, Tryz.ntmps108
  go_wp2_with fail
  generalize w.alloc (.cells #[.int .i64 0, .int .i64 0] 77) = W at *
  refine (sBlockEnd_any A n cap p x hx W H1.T).mono ?_
  rintro e w2 ⟨rfl, hle⟩
  go_wp2_with fail
  refine (show Calls _ _ _ _ _ from HA w2 (H1.le hle)).mono ?_
  rintro e w3 ⟨rfl, lv3, hv3, RN, KP⟩
  have BX2 := (BX.le hle).kp KP
  have b0 := BX2.c0
  have b1 := BX2.c1
  have f0 := BX2.f 0
  have f1 := BX2.f 1
  have HR := Lib.hid (And.intro (RN.put2 BX2 hg (.int .i64 (edK r.1)) (.int .i64 (edW r.1))) (((K1.trans (Kp.of_le R lv hv hle)).trans KP).put2 (Nat.le_refl _) (.int .i64 (edK r.1)) (.int .i64 (edW r.1))))
  have HB := Lib.hid (BX2.put (.int .i64 (edK r.1)) (.int .i64 (edW r.1)))
  go_wp2
  have z0 := HB.out.c0
  have z1 := HB.out.c1
  exact bodyPost_ret (v := .agg #[.int .i64 (edK r.1), .int .i64 (edW r.1)]) (by simp [results, Tryz.results108, go_sem, z0, z1]) rfl ⟨rfl, _, _, HR.out.1, HR.out.2⟩
end

section
section
variable {w w' wA w4 : World} {R m c n cap : Nat} {B A : Option Addr} {xs : List Cls} {p : List Lin} {lv hv v1 : Value} {lg : List Int} {hs : List Flt}
theorem Rn.raised (h : Rn w R B m c xs A n cap p lv hv lg hs) (LA : Le w wA) {x : Flt} (hx : Enc.ok x) (O4 : w4.ownsRow (R - 1) 103 5 v1 (hs.length + 1) ((hs ++ [x]).flatMap Enc.cells)) (hg : wA.grownBy w4 hv.ownBlock) (hbl : v1.ownBlock = hv.ownBlock ∨ v1.ownBlock = some wA.heap.size) :
    Rn (w4.setCell ⟨R, 3, none⟩ v1) R B m c xs A n cap p lv v1 lg (hs ++ [x]) ∧ Kp R lv hv lv v1 w (w4.setCell ⟨R, 3, none⟩ v1) := by
  have hA := h.le LA
  have hRl : some R ≠ hv.ownBlock := fun e => h.hneR e.symm
  have hsz := hg.size
  have hcell : ∀ o v, wA.cell? ⟨R, o, none⟩ = some v → w4.cell? ⟨R, o, none⟩ = some v := fun o v hc => hg.cell (a := ⟨R, o, none⟩) hc (fun e => hRl e)
  have hfr : ∀ o, w4.frozen? ⟨R, o, none⟩ = wA.frozen? ⟨R, o, none⟩ := fun o => World.frozen?_of_block (a := ⟨R, o, none⟩) (hg.block R hA.z hRl)
  have hzz : (w4.setCell ⟨R, 3, none⟩ v1).heap.size = w4.heap.size := by simp [World.setCell]
  have gs := grown_set w4 R 3 v1
  have hap : lv.ownBlock = none ∨ lv.ownBlock ≠ hv.ownBlock := by
    cases e : lv.ownBlock with
    | none => exact .inl rfl
    | some k => exact .inr fun e2 => h.ap k e e2.symm
  have hlk : ∀ k, hv.ownBlock = some k → R - 1 ≤ k := fun k e => (h.H.lt k e).1
  have hvl : ∀ k, v1.ownBlock = some k → k ≠ R ∧ lv.ownBlock ≠ some k := fun k e => by
    rcases hbl with h1 | h1
    · exact ⟨fun e2 => h.nh (by rw [← h1, e, e2]), fun e2 => h.ap k e2 (h1 ▸ e)⟩
    · rw [h1] at e
      injection e with e
      have := hA.z
      exact ⟨by omega, fun e2 => by have := (hA.O.lt k e2).2; omega⟩
  have S4 := hA.S.grown hg (fun hn a e e2 => by have := h.hB hn a e; have := hlk _ e2.symm; omega)
  have T4 := hA.T.grown hg (fun hn a e e2 => by have := h.hA hn a e; have := hlk _ e2.symm; omega)
  refine ⟨⟨by rw [hzz]; exact Nat.lt_of_lt_of_le hA.z hsz, ?_, ?_, ?_, ?_, ?_, ?_, ?_, ?_, h.hB, h.hA, ?_, ?_, fun k e e2 => (hvl k e2).2 e, h.okl, ?_, h.nl, fun e => (hvl R e).1 rfl⟩, ?_⟩
  · rw [cell_set_other (.inr (by decide))]; exact hcell 0 _ hA.c0
  · rw [cell_set_other (.inr (by decide))]; exact hcell 1 _ hA.c1
  · rw [cell_set_other (.inr (by decide))]; exact hcell 2 _ hA.c2
  · exact cell_set_same (hcell 3 _ hA.c3)
  · rw [fr_set, hfr]; exact hA.f2
  · rw [fr_set, hfr]; exact hA.f3
  · exact S4.grown gs (fun hn a e e2 => by have := h.hB hn a e; have e3 : a.block = R := (by injection e2); omega)
  · exact T4.grown gs (fun hn a e e2 => by have := h.hA hn a e; have e3 : a.block = R := (by injection e2); omega)
  · exact (hA.O.kept hg hap).kept gs (by cases e : lv.ownBlock with | none => exact .inl rfl | some k => exact .inr (fun e2 => by injection e2 with e2; exact h.lneR (by rw [e, e2])))
  · have := O4.kept gs (by cases e : v1.ownBlock with | none => exact .inl rfl | some k => exact .inr (fun e2 => by injection e2 with e2; have := (hvl k e).1; omega))
    rw [List.length_append]; exact this
  · intro y hy
    rcases List.mem_append.1 hy with h1 | h1
    · exact h.okh y h1
    · rw [List.mem_singleton] at h1; subst h1; exact hx
  · refine ⟨?_, ?_, ?_, ?_, fun b hb hR hl hh => ?_, .inl rfl, ?_⟩
    · exact gs.os.trans (hg.os.trans LA.os)
    · exact gs.tape.trans (hg.tape.trans LA.tape)
    · exact gs.output.trans (hg.output.trans LA.output)
    · rw [hzz]; exact Nat.le_trans LA.size hsz
    · have hbA := Nat.lt_of_lt_of_le hb LA.size
      exact (gs.block b (Nat.lt_of_lt_of_le hbA hsz) (fun e => hR (by injection e))).trans ((hg.block b hbA (fun e => hh e.symm)).trans (LA.block b hb))
    · rcases hbl with h1 | h1
      · exact .inl h1
      · exact .inr fun k e => by rw [h1] at e; injection e with e; have := LA.size; omega
end
set_option maxHeartbeats 2000000 in
set_option maxRecDepth 100000 in
theorem raise_any (R m c n cap : Nat) (B A : Option Addr) (xs : List Cls) (p : List Lin) (lv hv : Value) (lg : List Int) (hs : List Flt) (cl k h : Int) (hx : Enc.ok (⟨cl, k, -1, h, false⟩ : Flt)) (hl : hs.length ≤ 1000000) (w : World) (H : Rn w R B m c xs A n cap p lv hv lg hs) :
    Calls Tryz.prog 81 #[.pointer (some ⟨R, 0, none⟩), .int .i64 cl, .int .i64 k, .int .i64 h] w fun e w' => e = lfE (.rai hs.length) ∧ ∃ hv', Rn w' R B m c xs A n cap p lv hv' lg (hs ++ [⟨cl, k, -1, h, false⟩]) ∧ Kp R lv hv lv hv' w w' := by
  obtain ⟨i0, hq, hz0, hz1, hz2⟩ := info_parts infoFltR
  have c3 := H.c3
  have f3 := H.f3
  have hz := H.z
  obtain ⟨AL, cL, rfl⟩ := own_form H.H
  go_enter Tryz.func81, Tryz.ntmps81
  go_wp2_with fail
  have L1 := Le.new w (.cells #[.int .i64 cl, .int .i64 k, .int .i64 (-1), .int .i64 h, .bool false] 103)
  have b0 : (w.alloc (.cells #[.int .i64 cl, .int .i64 k, .int .i64 (-1), .int .i64 h, .bool false] 103)).drew.cell? ⟨w.heap.size, 0, none⟩ = some (.int .i64 cl) := by show (w.alloc _).cell? _ = _; rw [World.cell?_alloc_at _ _ _ _ rfl]; rfl
  have b1 : (w.alloc (.cells #[.int .i64 cl, .int .i64 k, .int .i64 (-1), .int .i64 h, .bool false] 103)).drew.cell? ⟨w.heap.size, 1, none⟩ = some (.int .i64 k) := by show (w.alloc _).cell? _ = _; rw [World.cell?_alloc_at _ _ _ _ rfl]; rfl
  have b2 : (w.alloc (.cells #[.int .i64 cl, .int .i64 k, .int .i64 (-1), .int .i64 h, .bool false] 103)).drew.cell? ⟨w.heap.size, 2, none⟩ = some (.int .i64 (-1)) := by show (w.alloc _).cell? _ = _; rw [World.cell?_alloc_at _ _ _ _ rfl]; rfl
  have b3 : (w.alloc (.cells #[.int .i64 cl, .int .i64 k, .int .i64 (-1), .int .i64 h, .bool false] 103)).drew.cell? ⟨w.heap.size, 3, none⟩ = some (.int .i64 h) := by show (w.alloc _).cell? _ = _; rw [World.cell?_alloc_at _ _ _ _ rfl]; rfl
  have b4 : (w.alloc (.cells #[.int .i64 cl, .int .i64 k, .int .i64 (-1), .int .i64 h, .bool false] 103)).drew.cell? ⟨w.heap.size, 4, none⟩ = some (.bool false) := by show (w.alloc _).cell? _ = _; rw [World.cell?_alloc_at _ _ _ _ rfl]; rfl
  have zb : w.heap.size < (w.alloc (.cells #[.int .i64 cl, .int .i64 k, .int .i64 (-1), .int .i64 h, .bool false] 103)).drew.heap.size := by show _ < (w.alloc _).heap.size; simp
  have LD := L1.drew
  refine wp_region_noPanic ?_
  refine wp_region_Z (fun w' => w'.cell? ⟨R, 3, none⟩ = some (.slice AL hs.length cL) ∧ w'.cell? ⟨w.heap.size, 0, none⟩ = some (.int .i64 cl) ∧ w'.cell? ⟨w.heap.size, 1, none⟩ = some (.int .i64 k) ∧ w'.cell? ⟨w.heap.size, 2, none⟩ = some (.int .i64 (-1)) ∧ w'.cell? ⟨w.heap.size, 3, none⟩ = some (.int .i64 h) ∧ w'.cell? ⟨w.heap.size, 4, none⟩ = some (.bool false)) [12] (by kernel_rfl) ?_
  generalize (w.alloc (.cells #[.int .i64 cl, .int .i64 k, .int .i64 (-1), .int .i64 h, .bool false] 103)).drew = W at *
  have d3 := (LD.cell hz).trans c3
  have g3 := (LD.frozen hz).trans f3
  have OW := (H.le LD).H
  have hzW := (H.le LD).z
  have LN := Le.new W (.cells #[.int .i64 cl, .int .i64 k, .int .i64 (-1), .int .i64 h, .bool false] 103)
  have HZ := Lib.hid zb
  refine wpAnyZ_take (i := 0) (v := ?_) rfl (by kernel_rfl) (fun _ _ _ h => h) (Or.inl ⟨by rfl, ?_⟩) (⟨d3, b0, b1, b2, b3, b4⟩) ?_
  rotate_left 1
  · (intro w hSw; (try dsimp only at hSw); go_simp; try with_reducible rfl)
  try simp only [Act.put, List.setIfInBounds_toArray, List.set_cons_zero, List.set_cons_succ]
  refine wpAnyZ_take (i := 1) (v := ?_) rfl (by kernel_rfl) (fun _ _ _ h => h) (Or.inl ⟨by rfl, ?_⟩) (⟨d3, b0, b1, b2, b3, b4⟩) ?_
  rotate_left 1
  · (intro w hSw; (try dsimp only at hSw); go_simp; try with_reducible rfl)
  try simp only [Act.put, List.setIfInBounds_toArray, List.set_cons_zero, List.set_cons_succ]
  refine wpAnyZ_take (i := 2) (v := ?_) rfl (by kernel_rfl) (fun _ _ _ h => h) (Or.inl ⟨by rfl, ?_⟩) (⟨d3, b0, b1, b2, b3, b4⟩) ?_
  rotate_left 1
  · (intro w hSw; (try dsimp only at hSw); go_simp; try with_reducible rfl)
  try simp only [Act.put, List.setIfInBounds_toArray, List.set_cons_zero, List.set_cons_succ]
  refine wpAnyZ_take (i := 3) (v := ?_) rfl (by kernel_rfl) (fun _ _ _ h => h) (Or.inl ⟨by rfl, ?_⟩) (⟨d3, b0, b1, b2, b3, b4⟩) ?_
  rotate_left 1
  · (intro w hSw; (try dsimp only at hSw); go_simp; try with_reducible rfl)
  try simp only [Act.put, List.setIfInBounds_toArray, List.set_cons_zero, List.set_cons_succ]
  refine wpAnyZ_take (i := 4) (v := ?_) rfl (by kernel_rfl) (fun _ _ _ h => h) (Or.inl ⟨by rfl, ?_⟩) (⟨d3, b0, b1, b2, b3, b4⟩) ?_
  rotate_left 1
  · (intro w hSw; (try dsimp only at hSw); go_simp; try with_reducible rfl)
  try simp only [Act.put, List.setIfInBounds_toArray, List.set_cons_zero, List.set_cons_succ]
  refine wpAnyZ_take (i := 5) (v := ?_) rfl (by kernel_rfl) (fun _ _ _ h => h) (Or.inl ⟨by rfl, ?_⟩) (⟨d3, b0, b1, b2, b3, b4⟩) ?_
  rotate_left 1
  · (intro w hSw; (try dsimp only at hSw); go_simp; try with_reducible rfl)
  try simp only [Act.put, List.setIfInBounds_toArray, List.set_cons_zero, List.set_cons_succ]
  refine wpAnyZ_take (i := 6) (v := ?_) rfl (by kernel_rfl) (fun _ _ _ h => h) (Or.inl ⟨by rfl, ?_⟩) (⟨d3, b0, b1, b2, b3, b4⟩) ?_
  rotate_left 1
  · (intro w hSw; (try dsimp only at hSw); go_simp; try with_reducible rfl)
  try simp only [Act.put, List.setIfInBounds_toArray, List.set_cons_zero, List.set_cons_succ]
  refine wpAnyZ_one (i := 7) (by kernel_rfl) (ReadyZ.mk rfl (fun K hK => ?_))
  go_simp
  have e0 := (LN.cell zb).trans b0
  have e1 := (LN.cell zb).trans b1
  have e2 := (LN.cell zb).trans b2
  have e3 := (LN.cell zb).trans b3
  have e4 := (LN.cell zb).trans b4
  refine hK.out _ _ (fun _ => ⟨(LN.cell hzW).trans d3, e0, e1, e2, e3, e4⟩) ?_
  clear hK K
  try simp only [Act.put, List.setIfInBounds_toArray, List.set_cons_zero, List.set_cons_succ]
  refine wpAnyZ_one (i := 8) (by kernel_rfl) (ReadyZ.mk rfl (fun K hK => ?_))
  refine step_append_sl rfl (.tmp 18) (.tmp 20) 29 rfl (R - 1) 103 i0 _ 40 Tryz.underlying29 hq hz0 hz1 hz2 rfl (.slice AL hs.length cL) hs.length hs rfl (OW.alloc _) _ 1 1 [(⟨cl, k, -1, h, false⟩ : Flt)] rfl (sl_one _ rfl hx rfl) (by unfold maxLen; omega) (by omega) (Nat.le_trans (by omega) LN.size) ?_
  intro v1 w4 O4 hg4 hbl
  have HR := Lib.hid (H.raised (LD.trans LN) hx O4 hg4 hbl)
  have hneR : some R ≠ (Value.slice AL hs.length cL).ownBlock := fun e => H.hneR e.symm
  have hneb : some w.heap.size ≠ (Value.slice AL hs.length cL).ownBlock := fun e => by have := (H.H.lt _ e.symm).2; omega
  have k2 := hg4.cell (a := ⟨R, 3, none⟩) ((LN.cell hzW).trans d3) hneR
  have k3 : w4.frozen? ⟨R, 3, none⟩ = false := (World.frozen?_of_block (a := ⟨R, 3, none⟩) (hg4.block R (Nat.lt_of_lt_of_le hzW LN.size) hneR)).trans ((LN.frozen hzW).trans g3)
  obtain ⟨A1, q1, rfl⟩ := own_form O4
  refine hK.out _ _ (fun _ => ⟨k2, hg4.cell (a := ⟨w.heap.size, 0, none⟩) e0 hneb, hg4.cell (a := ⟨w.heap.size, 1, none⟩) e1 hneb, hg4.cell (a := ⟨w.heap.size, 2, none⟩) e2 hneb, hg4.cell (a := ⟨w.heap.size, 3, none⟩) e3 hneb, hg4.cell (a := ⟨w.heap.size, 4, none⟩) e4 hneb⟩) ?_
  clear hK K
  try simp only [Act.put, List.setIfInBounds_toArray, List.set_cons_zero, List.set_cons_succ]
  refine wpAnyZ_take (i := 9) (v := ?_) rfl (by kernel_rfl) (fun _ _ _ h => h) (Or.inl ⟨by rfl, ?_⟩) (⟨k2, hg4.cell (a := ⟨w.heap.size, 0, none⟩) e0 hneb, hg4.cell (a := ⟨w.heap.size, 1, none⟩) e1 hneb, hg4.cell (a := ⟨w.heap.size, 2, none⟩) e2 hneb, hg4.cell (a := ⟨w.heap.size, 3, none⟩) e3 hneb, hg4.cell (a := ⟨w.heap.size, 4, none⟩) e4 hneb⟩) ?_
  rotate_left 1
  · (intro w hSw; (try dsimp only at hSw); go_simp; try with_reducible rfl)
  try simp only [Act.put, List.setIfInBounds_toArray, List.set_cons_zero, List.set_cons_succ]
  refine wpAnyZ_take (i := 10) (v := ?_) rfl (by kernel_rfl) (fun _ _ _ h => h) (Or.inl ⟨by rfl, ?_⟩) (⟨k2, hg4.cell (a := ⟨w.heap.size, 0, none⟩) e0 hneb, hg4.cell (a := ⟨w.heap.size, 1, none⟩) e1 hneb, hg4.cell (a := ⟨w.heap.size, 2, none⟩) e2 hneb, hg4.cell (a := ⟨w.heap.size, 3, none⟩) e3 hneb, hg4.cell (a := ⟨w.heap.size, 4, none⟩) e4 hneb⟩) ?_
  rotate_left 1
  · (intro w hSw; (try dsimp only at hSw); go_simp; try with_reducible rfl)
  try simp only [Act.put, List.setIfInBounds_toArray, List.set_cons_zero, List.set_cons_succ]
  refine wpAnyZ_take (i := 11) (v := ?_) rfl (by kernel_rfl) (fun _ _ _ h => h) (Or.inl ⟨by rfl, ?_⟩) (⟨k2, hg4.cell (a := ⟨w.heap.size, 0, none⟩) e0 hneb, hg4.cell (a := ⟨w.heap.size, 1, none⟩) e1 hneb, hg4.cell (a := ⟨w.heap.size, 2, none⟩) e2 hneb, hg4.cell (a := ⟨w.heap.size, 3, none⟩) e3 hneb, hg4.cell (a := ⟨w.heap.size, 4, none⟩) e4 hneb⟩) ?_
  rotate_left 1
  · (intro w hSw; (try dsimp only at hSw); go_simp; try with_reducible rfl)
  try simp only [Act.put, List.setIfInBounds_toArray, List.set_cons_zero, List.set_cons_succ]
  clear O4 hg4 hbl e0 e1 e2 e3 e4 b0 b1 b2 b3 b4 d3 OW LN c3 H
  refine wpAnyZ_one (i := 12) (by kernel_rfl) (ReadyZ.mk rfl (fun K hK => ?_))
  go_simp
  refine hK.out _ _ (fun h => absurd h (by decide)) ?_
  clear hK K
  try simp only [Act.put, List.setIfInBounds_toArray, List.set_cons_zero, List.set_cons_succ]
  refine wpAnyZ_done (by kernel_rfl) ?_ _
  refine NoPanic.normal ?_
  have k4 := HR.out.1.c3
  go_wp2
  exact ⟨rfl, rfl, _, HR.out.1, HR.out.2⟩
/-- a call of the runner that hands back what a block is left with -/
def AtOk (R m c n cap : Nat) (B A : Option Addr) (xs : List Cls) (p : List Lin) (f : FuncId) (args : Array Value) (lv hv : Value) (w : World) (r : Lft × Rst) : Prop :=
  Calls Tryz.prog f args w fun e w' => e = .returned (lfV r.1) ∧ ∃ lv' hv', Rn w' R B m c xs A n cap p lv' hv' r.2.1 r.2.2 ∧ Kp R lv hv lv' hv' w w'
theorem fltR_ok {c k h : Int} (hc : -9223372036854775808 ≤ c ∧ c ≤ 9223372036854775807) (hk : -9223372036854775808 ≤ k ∧ k ≤ 9223372036854775807) (hh : -9223372036854775808 ≤ h ∧ h ≤ 9223372036854775807) : Enc.ok (⟨c, k, -1, h, false⟩ : Flt) :=
  ⟨hc.1, hc.2, hk.1, hk.2, by show (-9223372036854775808 : Int) ≤ -1; omega, by show (-1 : Int) ≤ 9223372036854775807; omega, hh.1, hh.2⟩
set_option maxRecDepth 100000 in
theorem raiseAgain_any (R m c n cap : Nat) (B A : Option Addr) (xs : List Cls) (p : List Lin) (lv hv : Value) (s : Rst) (h : Int) (hh : Hd h s) (hl : s.2.length ≤ 1000000) (w : World) (H : Rn w R B m c xs A n cap p lv hv s.1 s.2) :
    RunOk R m c n cap B A xs p 82 #[.pointer (some ⟨R, 0, none⟩), .int .i64 h] lv hv w (againN h s) := by
  have h0 := hh.1
  have h1 := hh.2
  unfold RunOk againN
  by_cases hn : h < 0
  · rw [if_pos hn]
    go_enter Tryz.func82, Tryz.ntmps82
    go_wp2_with fail
    refine (raise_any R m c n cap B A xs p lv hv s.1 s.2 0 0 h (fltR_ok (by omega) (by omega) (by omega)) hl w H).mono ?_
    rintro e w2 ⟨rfl, hv2, RN, KP⟩
    exact ⟨rfl, rfl, _, _, RN, KP⟩
  · rw [if_neg hn]
    go_enter Tryz.func82, Tryz.ntmps82
    go_wp2
    exact ⟨rfl, rfl, _, _, H, Kp.refl R lv hv w⟩
set_option maxRecDepth 100000 in
theorem attemptBlock_any (R m c n cap : Nat) (B A : Option Addr) (xs : List Cls) (p : List Lin) (x : Nat) (h : Int) (s : Rst) (r : Lft × Rst) (hx : x < p.length) (lv hv : Value) (hp : p.length ≤ 24)
    (HA : ∀ w, Rn w R B m c xs A n cap p lv hv s.1 s.2 → AtOk R m c n cap B A xs p 30 #[.pointer (some ⟨R, 0, none⟩), .int .i64 ((x : Int) + 1), .int .i64 (bEnd p x), .int .i64 h] lv hv w r) (w : World) (H : Rn w R B m c xs A n cap p lv hv s.1 s.2) :
    AtOk R m c n cap B A xs p 100 #[.pointer (some ⟨R, 0, none⟩), .int .i64 x, .int .i64 h] lv hv w r := by
  have c1 := H.c1
  have hz := H.z
  unfold AtOk
  go_enter Tryz.func100, Tryz.ntmps100
  go_wp2_with fail
  refine (iBlockEnd_any A n cap p x hx w H.T).mono ?_
  rintro e w2 ⟨rfl, hle⟩
  go_wp2_with fail
  refine (show Calls _ _ _ _ _ from HA w2 (H.le hle)).mono ?_
  rintro e w3 ⟨rfl, lv3, hv3, RN, KP⟩
  have HR := Lib.hid (And.intro RN ((Kp.of_le R lv hv hle).trans KP))
  go_wp2
  go_ret
  exact ⟨rfl, _, _, HR.out.1, HR.out.2⟩
set_option maxHeartbeats 2000000 in
set_option maxRecDepth 100000 in
theorem exceptFor_any (R m c n cap : Nat) (B A : Option Addr) (xs : List Cls) (p : List Lin) (lv hv : Value) (s : Rst) (i : Nat) (f : Int) (g : GoodP xs p) (hi : i < p.length) (h7 : knd p i = 7) (gd : Gd xs s.2) (h0 : 0 ≤ f) (h1 : f < (s.2.length : Int)) (w : World) (H : Rn w R B m c xs A n cap p lv hv s.1 s.2) :
    Calls Tryz.prog 102 #[.pointer (some ⟨R, 0, none⟩), .int .i64 i, .int .i64 f] w fun e w' => e = .returned (.int .i64 (ctE xs p (clsF s f) (exL p i))) ∧ Le w w' := by
  obtain ⟨f, rfl⟩ := Int.eq_ofNat_of_zero_le h0
  have hf : f < s.2.length := by omega
  have hcl : clsF s f = s.2[f].cls := by unfold clsF; rw [show (f : Int).toNat = f by omega, List.getElem?_eq_getElem hf]
  have hk := (gd f hf).1
  have c1 := H.c1
  have hz := H.z
  have hp := g.len
  obtain rfl := H.T.len
  have hell : (exL p i).length ≤ p.length + 1 := Nat.le_trans (exF_len _ _) (parts_len p i)
  have HF1 : Hid (firstX xs (clL p i) (clsF s f) = firstC xs ((exL p i).map (lnA p)) (clsF s f) 0) := by show _ = _; rw [firstX_of (t := true) (by rw [good_exc g hi h7, hcl, hk]; rfl)]; rfl
  go_enter Tryz.func102, Tryz.ntmps102
  go_wp2_with fail
  refine (exceptsOf_any A p.length cap p i hi (by omega) w H.T).mono ?_
  rintro e w3 ⟨v3, u3, rfl, D3, D4, hle3⟩
  obtain ⟨A3, q3, rfl, S3, -⟩ := D3.form (by decide)
  obtain ⟨A4, q4, rfl, S4, -⟩ := D4.form (by decide)
  have H3 := H.le hle3
  have t0 := H3.c0
  have t3 := H3.c3
  have z3 := H3.z
  obtain ⟨AL, cL, rfl⟩ := own_form H3.H
  have SH := Sl.of_own H3.H rfl (by decide) H3.okh
  rw [nI_len] at S3 ⊢
  generalize clL p i = cC at *
  have HE : Hid (∀ z, ctE xs p s.2[f].cls (exL p i) = z → ctE xs p (clsF s f) (exL p (id i)) = z) := fun z hz => by rw [hcl]; exact hz
  generalize exL p i = eL at *
  obtain ⟨b7, off7, rfl, hb7, c7, -⟩ := SH.flt_at hf
  rw [hcl] at HF1
  generalize s.2[f].cls = cl at *
  have hca : ∀ (gg : Ext w3) (_ : True), Calls Tryz.prog 111 #[.agg #[.slice B m c], .slice A4 cC.length q4, .int .i64 cl] (w3.ext gg) fun e w' => e = .returned (.int .i64 (firstX xs cC cl)) ∧ Le (w3.ext gg) w' := fun gg _ => iFirstCatch_any B A4 m c _ q4 xs cC cl _ (H3.S.le (Le.ext w3 gg)) (S4.le (Le.ext w3 gg))
  have E0 := cell_ext z3 t0
  have E3 := cell_ext z3 t3
  have E7 := cell_ext hb7 c7
  clear D3 D4 t0 t3 c7 S4 SH H H3 c1 hcl hk gd
  go_wp2_with fail
  refine wp_region_ext (by kernel_rfl) (by kernel_rfl) ?_
  repeat (go_big_quiet_step (first | (go_at_call 111; exact Calls.ext_of (hca _ trivial))))
  refine wpQuiet_nil ?_
  intro _ hw'
  obtain ⟨gg, rfl⟩ := hw'
  have hle4 := Le.ext w3 gg
  have L4 := hle3.trans hle4
  have S5 := S3.le hle4
  generalize w3.ext gg = w4 at *
  clear hca E0 E3 E7
  rw [HF1.out]
  clear HF1
  rcases ct_two xs p cl eL 0 with ⟨h1, h2⟩ | ⟨r, hr, h1, h2⟩
  · have h1' : firstC xs (eL.map (lnA p)) cl 0 = -1 := h1
    have HF := Lib.hid (HE.out _ h2)
    rw [h1']
    clear h1 h1' h2
    go_wp2
    go_ret
    exact ⟨ret_int HF.out.symm, L4⟩
  · have h1' : firstC xs (eL.map (lnA p)) cl 0 = (r : Int) := by rw [show (0 : Int) = ((0 : Nat) : Int) from rfl, h1]; omega
    have HF := Lib.hid (HE.out _ h2)
    rw [h1']
    obtain ⟨b8, off8, rfl, hb8, c8, -⟩ := S5.int_at (k := r) (by rw [nI_len]; exact hr)
    rw [nI_at hr] at c8
    generalize eL[r] = z at *
    have hr0 : (0 : Int) ≤ (r : Int) := by omega
    have hrn : (r : Int) < (eL.length : Int) := by omega
    have hrb : decide ((r : Int) < (0 : Int)) = false := decide_eq_false (by omega)
    clear h1 h1' h2
    go_wp2
    go_ret
    exact ⟨ret_int HF.out.symm, L4⟩
end

section
def prtI (o : Option Nat) : Int := match o with | some x => (x : Int) | none => -1
theorem prtG_at {p : List Lin} {K : Int} {L : List Nat} {q : Nat} (h : q < L.length) : prtG p K (L.drop q) = if knd p L[q] = K then some L[q] else prtG p K (L.drop (q + 1)) := by rw [List.drop_eq_getElem_cons h]; rfl
theorem prtG_end {p : List Lin} {K : Int} {L : List Nat} {q : Nat} (h : ¬ q < L.length) : prtG p K (L.drop q) = none := by rw [List.drop_eq_nil_of_le (by omega)]; rfl
set_option maxHeartbeats 1000000 in
set_option maxRecDepth 100000 in
theorem partOf_any (A : Option Addr) (n cap : Nat) (p : List Lin) (i : Nat) (K : Int) (hi : i < p.length) (hp : p.length ≤ 24) (w : World) (hR : Sl w A n cap p) :
    Calls Tryz.prog 101 #[.slice A n cap, .int .i64 i, .int .i64 K] w fun e w' => e = .returned (.int .i64 (prtI (prt p i K))) ∧ Le w w' := by
  obtain rfl := hR.len
  have HX : Hid (prt p i K = prtG p K (parts p i)) := rfl
  have HL := Lib.hid (parts_lt hi)
  have hpl := parts_len p i
  go_enter Tryz.func101, Tryz.ntmps101
  go_wp2_with fail
  refine (partsOf_any A p.length cap p i hi (by omega) w hR).mono ?_
  rintro e w2 ⟨v, rfl, D, hle2⟩
  obtain ⟨A2, q2, rfl, S2, -⟩ := D.form (by decide)
  have R2 := hR.le hle2
  rw [nI_len] at S2 ⊢
  generalize parts p i = E at *
  clear D hR
  go_wp2
  go_loopw [13] (fun q wr => ∃ j : Nat, j ≤ E.length ∧ q = .int .i64 j ∧ prtG p K E = prtG p K (E.drop j) ∧ Le w2 wr) (fun q _ => E.length - (intOf q).toNat)
  case atStart => exact ⟨0, Nat.zero_le _, rfl, rfl, Le.refl _⟩
  case round =>
    obtain ⟨j, hj, rfl, hr, hle⟩ := hrel
    have HR := Lib.hid hr
    clear hr
    have S := S2.le hle
    have R := R2.le hle
    clear S2 R2
    by_cases hl : j < E.length
    · obtain ⟨b, off, rfl, hb5, hcell, -⟩ := S.int_at (k := j) (by rw [nI_len]; exact hl)
      rw [nI_at hl] at hcell
      have hx := HL.out E[j] (List.getElem_mem hl)
      have HA := Lib.hid (prtG_at (p := p) (K := K) hl)
      generalize E[j] = x at *
      obtain ⟨b2, off2, rfl, hb6, d0, d1, d2, d3, -⟩ := R.lin_at hx
      have HK := Lib.hid (knd_at hx)
      have hx0 : (0 : Int) ≤ (x : Int) := by omega
      have hxn : (x : Int) < (p.length : Int) := by omega
      have hj0 : (0 : Int) ≤ (j : Int) := by omega
      have hjn : (j : Int) < (E.length : Int) := by omega
      generalize p[x].kind = vk at *
      by_cases hk : vk = K
      · have hkb : decide (vk = K) = true := decide_eq_true hk
        have HF : Hid ((x : Int) = prtI (prt p i K)) := by show _ = _; rw [HX.out, HR.out, HA.out, if_pos (HK.out.trans hk)]; rfl
        clear HX HR HA
        go_wp2
        go_ret
        exact ⟨ret_int HF.out, hle2.trans hle⟩
      · have hkb : decide (vk = K) = false := decide_eq_false hk
        have HF : Hid (prtG p K E = prtG p K (E.drop (j + 1))) := by show _ = _; rw [HR.out, HA.out, if_neg (fun e => hk (HK.out.symm.trans e))]
        clear HR HA
        go_wp2
        go_roundw
        case rel => exact ⟨j + 1, by omega, by go_num, HF.out, hle⟩
        case measure => simp [intOf]; omega
    · have HF : Hid ((-1 : Int) = prtI (prt p i K)) := by show _ = _; rw [HX.out, HR.out, prtG_end hl]; rfl
      go_wp2
      go_ret
      exact ⟨ret_int HF.out, hle2.trans hle⟩
/-- what is asked of what a block is left with -/
theorem ret_val {a b : Value} (h : a = b) : Ending.returned a = .returned b := by rw [h]
def raiF : Lft → Int
  | .rai f => f
  | _ => 0
def retF : Lft → Int
  | .ret v => v
  | _ => 0
def isRai : Lft → Bool
  | .rai _ => true
  | _ => false
def isRet : Lft → Bool
  | .ret _ => true
  | _ => false
def isBrk : Lft → Bool
  | .brk => true
  | _ => false
def isCnt : Lft → Bool
  | .cnt => true
  | _ => false
def isNil : Lft → Bool
  | .nil => true
  | _ => false
theorem ta_rai (l : Lft) (w : World) : (Instr.typeAssert (lfV l) 20 88 true).run Tryz.prog w = .ok (.tuple #[.agg #[.int .i64 (raiF l)], .bool (isRai l)]) w := by
  cases l <;> kernel_rfl
theorem ta_ret (l : Lft) (w : World) : (Instr.typeAssert (lfV l) 20 86 true).run Tryz.prog w = .ok (.tuple #[.agg #[.int .i64 (retF l)], .bool (isRet l)]) w := by
  cases l <;> kernel_rfl
theorem ta_brk (l : Lft) (w : World) : (Instr.typeAssert (lfV l) 20 114 true).run Tryz.prog w = .ok (.tuple #[.agg #[], .bool (isBrk l)]) w := by
  cases l <;> kernel_rfl
theorem ta_cnt (l : Lft) (w : World) : (Instr.typeAssert (lfV l) 20 115 true).run Tryz.prog w = .ok (.tuple #[.agg #[], .bool (isCnt l)]) w := by
  cases l <;> kernel_rfl
theorem neq_lf (l : Lft) (w : World) : (binOp .neq 20 (lfV l) .nilIface).run Tryz.prog w = .ok (.bool (!(isNil l))) w := by
  cases l
  case nil => exact neq_nil w
  all_goals exact neq_any _ _ w
theorem eql_lf (l : Lft) (w : World) : (binOp .eql 20 (lfV l) .nilIface).run Tryz.prog w = .ok (.bool (isNil l)) w := by
  cases l
  case nil => exact eql_nil w
  all_goals exact eql_any _ _ w
/-- what is told and raised is not too much -/
def Sm (s : Rst) : Prop := s.1.length ≤ 1000000 ∧ s.2.length ≤ 1000000
theorem Fw.sm {xs : List Cls} {s : Rst} {r : Lft × Rst} (F : Fw xs s r) (h : Sm r.2) : Sm s := ⟨Nat.le_trans F.lg h.1, Nat.le_trans F.hs h.2⟩
/-- the blocks of lines are run so -/
def BlOk (R m c n cap : Nat) (B A : Option Addr) (xs : List Cls) (p : List Lin) (blk : Bls) (C : Nat → Prop) : Prop :=
  ∀ (x : Nat) (h : Int) (s : Rst) (lv hv : Value) (w : World), x < p.length → C x → Gd xs s.2 → Hd h s → Sm (blk x h s).2 → Rn w R B m c xs A n cap p lv hv s.1 s.2 → AtOk R m c n cap B A xs p 100 #[.pointer (some ⟨R, 0, none⟩), .int .i64 x, .int .i64 h] lv hv w (blk x h s)
theorem eg_neq (l : Lft) (o : Nat) (w : World) : (eqGuard .neq 20 (.tmp o) (.const .nilIface) (lfV l) .nilIface).run Tryz.prog w = .ok () w := by
  cases l <;> rfl
theorem eg_eql (l : Lft) (o : Nat) (w : World) : (eqGuard .eql 20 (.tmp o) (.const .nilIface) (lfV l) .nilIface).run Tryz.prog w = .ok () w := by
  cases l <;> rfl
set_option maxHeartbeats 1000000 in
set_option maxRecDepth 100000 in
theorem attemptLast_any (R m c n cap : Nat) (B A : Option Addr) (xs : List Cls) (p : List Lin) (blk : Bls) (C : Nat → Prop) (HB : BlOk R m c n cap B A xs p blk C) (x : Nat) (hx : x < p.length) (hC : C x) (h : Int) (l : Lft) (s : Rst) (gd : Gd xs s.2) (hh : Hd (hdN h l) s) (hsm : Sm (blk x (hdN h l) s).2) (lv hv : Value) (w : World) (H : Rn w R B m c xs A n cap p lv hv s.1 s.2) :
    AtOk R m c n cap B A xs p 103 #[.pointer (some ⟨R, 0, none⟩), .int .i64 x, .int .i64 h, lfV l] lv hv w (lasN blk x h (l, s)) := by
  have q1 := ta_rai l
  have q2 := neq_lf
  have q4 := eg_neq
  have HBx : ∀ w2 f, hdN h l = f → Rn w2 R B m c xs A n cap p lv hv s.1 s.2 → AtOk R m c n cap B A xs p 100 #[.pointer (some ⟨R, 0, none⟩), .int .i64 x, .int .i64 f] lv hv w2 (blk x (hdN h l) s) := fun w2 f e H2 => e ▸ HB x _ s lv hv w2 hx hC gd hh hsm H2
  have HX : Hid (lasN blk x h (l, s) = (orElseL l (blk x (hdN h l) s).1, (blk x (hdN h l) s).2)) := rfl
  have HF1 : Hid (isRai l = true → hdN h l = raiF l) := by show _ → _; cases l <;> first | (intro e; cases e; done) | (intro _; rfl)
  have HF2 : Hid (isRai l = false → hdN h l = h) := by show _ → _; cases l <;> first | (intro e; cases e; done) | (intro _; rfl)
  clear HB hh hsm
  generalize blk x (hdN h l) s = q at *
  generalize hdN h l = hd at *
  generalize lasN blk x h (l, s) = z at *
  obtain rfl := HX.out
  clear HX
  rcases q with ⟨l2, s2⟩
  have HL1 : Hid (isNil l2 = true → orElseL l l2 = l) := by show _ → _; cases l2 <;> first | (intro e; cases e; done) | (intro _; rfl)
  have HL2 : Hid (isNil l2 = false → orElseL l l2 = l2) := by show _ → _; cases l2 <;> first | (intro e; cases e; done) | (intro _; rfl)
  generalize isRai l = ri at *
  generalize raiF l = rf at *
  unfold AtOk
  show Calls _ _ _ _ _
  generalize orElseL l l2 = l3 at *
  obtain ⟨vl, hvl⟩ : ∃ v, lfV l = v := ⟨_, rfl⟩
  have HVL := Lib.hid hvl
  rw [hvl] at q1 ⊢
  clear hvl
  go_enter Tryz.func103, Tryz.ntmps103
  cases ri
  · go_wp2_with fail
    refine (show Calls _ _ _ _ _ from HBx _ h (HF2.out (by trivial)) (H.le (Le.new w _))).mono ?_
    rintro e w2 ⟨rfl, lv2, hv2, RN, KP⟩
    have HR := Lib.hid (And.intro RN ((Kp.of_le R lv hv (Le.new w (.cells #[.int .i64 rf] 88))).trans KP))
    clear RN KP HBx
    have q3 := q2 l2
    clear q2
    have HV : Hid (isNil l2 = true → lfV l3 = vl) := fun e => by rw [HL1.out e]; exact HVL.out
    have HW : Hid (isNil l2 = false → lfV l3 = lfV l2) := fun e => by rw [HL2.out e]
    clear HL1 HL2
    generalize isNil l2 = nl at *
    cases nl
    · simp only [Bool.not_false] at q3
      go_wp2
      go_ret
      exact ⟨ret_val (HW.out (by trivial)).symm, _, _, HR.out.1, HR.out.2⟩
    · simp only [Bool.not_true] at q3
      go_wp2
      go_ret
      exact ⟨ret_val (HV.out (by trivial)).symm, _, _, HR.out.1, HR.out.2⟩
  · go_wp2_with fail
    refine (show Calls _ _ _ _ _ from HBx _ rf (HF1.out (by trivial)) (H.le (Le.new w _))).mono ?_
    rintro e w2 ⟨rfl, lv2, hv2, RN, KP⟩
    have HR := Lib.hid (And.intro RN ((Kp.of_le R lv hv (Le.new w (.cells #[.int .i64 rf] 88))).trans KP))
    clear RN KP HBx
    have q3 := q2 l2
    clear q2
    have HV : Hid (isNil l2 = true → lfV l3 = vl) := fun e => by rw [HL1.out e]; exact HVL.out
    have HW : Hid (isNil l2 = false → lfV l3 = lfV l2) := fun e => by rw [HL2.out e]
    clear HL1 HL2
    generalize isNil l2 = nl at *
    cases nl
    · simp only [Bool.not_false] at q3
      go_wp2
      go_ret
      exact ⟨ret_val (HW.out (by trivial)).symm, _, _, HR.out.1, HR.out.2⟩
    · simp only [Bool.not_true] at q3
      go_wp2
      go_ret
      exact ⟨ret_val (HV.out (by trivial)).symm, _, _, HR.out.1, HR.out.2⟩
end

section
theorem rng_iff2 {a b x : Int} (h : rng a b x = true) : a ≤ x ∧ x ≤ b := by unfold rng at h; simpa using h
theorem with_ab {xs : List Cls} {p : List Lin} (g : GoodP xs p) {i : Nat} (hi : i < p.length) (h : knd p i = 11) : (0 ≤ p[i].a ∧ p[i].a ≤ 9) ∧ (0 ≤ p[i].b ∧ p[i].b ≤ 1) := by
  have h1 := (g.line i hi).1
  rw [knd_at hi] at h
  unfold numS at h1
  rw [h, if_neg (by decide), if_neg (by decide), if_neg (by decide), if_pos rfl, Bool.and_eq_true] at h1
  exact ⟨rng_iff2 h1.1, rng_iff2 h1.2⟩
theorem loop_a {xs : List Cls} {p : List Lin} (g : GoodP xs p) {i : Nat} (hi : i < p.length) (h : knd p i = 12) : 0 ≤ p[i].a ∧ p[i].a ≤ 3 := by
  have h1 := (g.line i hi).1
  rw [knd_at hi] at h
  unfold numS at h1
  rw [h, if_neg (by decide), if_neg (by decide), if_neg (by decide), if_neg (by decide), if_pos rfl, Bool.and_eq_true] at h1
  exact rng_iff2 h1.1
set_option maxHeartbeats 2000000 in
set_option maxRecDepth 100000 in
theorem runWith_any (R m c n cap : Nat) (B A : Option Addr) (xs : List Cls) (p : List Lin) (blk : Bls) (C : Nat → Prop) (HB : BlOk R m c n cap B A xs p blk C) (HFw : BFw xs p blk C) (g : GoodP xs p) (i : Nat) (hi : i < p.length) (hC : C i) (h11 : knd p i = 11) (h : Int) (s : Rst) (gd : Gd xs s.2) (hh : Hd h s) (hsm : Sm (withN blk p i h s).2) (lv hv : Value) (w : World) (H : Rn w R B m c xs A n cap p lv hv s.1 s.2) :
    RunOk R m c n cap B A xs p 84 #[.pointer (some ⟨R, 0, none⟩), .int .i64 i, .int .i64 h] lv hv w (withN blk p i h s) := by
  have hab := with_ab g hi h11
  have hp := g.len
  have hA : lnA p i = p[i].a := lnA_at hi
  have hBc : lnBc p i = p[i].b := lnBc_at hi
  have F := HFw i h (s.1 ++ [100 + p[i].a], s.2) hi hC gd hh
  have HX : Hid (withN blk p i h s = (quiet (decide (p[i].b = 1)) (blk i h (s.1 ++ [100 + p[i].a], s.2)).1, ((blk i h (s.1 ++ [100 + p[i].a], s.2)).2.1 ++ [200 + p[i].a], (blk i h (s.1 ++ [100 + p[i].a], s.2)).2.2))) := by show _ = _; unfold withN; rw [hA, hBc]
  have hsm1 : Sm (blk i h (s.1 ++ [100 + p[i].a], s.2)).2 := by
    rw [HX.out] at hsm
    have h1 := hsm.1
    have h2 : ((blk i h (s.1 ++ [100 + p[i].a], s.2)).2.1 ++ [200 + p[i].a]).length ≤ 1000000 := h1
    rw [List.length_append] at h2
    exact ⟨by omega, hsm.2⟩
  have hsm0 := F.sm hsm1
  have hlg : s.1.length ≤ 1000000 := by have h1 : (s.1 ++ [100 + p[i].a]).length ≤ 1000000 := hsm0.1; rw [List.length_append] at h1; omega
  have HBx : ∀ lv2 hv2 w2, Rn w2 R B m c xs A n cap p lv2 hv2 (s.1 ++ [100 + p[i].a]) s.2 → AtOk R m c n cap B A xs p 100 #[.pointer (some ⟨R, 0, none⟩), .int .i64 i, .int .i64 h] lv2 hv2 w2 (blk i h (s.1 ++ [100 + p[i].a], s.2)) := fun lv2 hv2 w2 H2 => HB i h (s.1 ++ [100 + p[i].a], s.2) lv2 hv2 w2 hi hC gd hh hsm1 H2
  clear F hsm HB HFw hsm0
  generalize withN blk p i h s = z at *
  obtain rfl := HX.out
  clear HX
  have hlen3 := hsm1.1
  clear hsm1 gd hh hA hBc
  generalize blk i h (s.1 ++ [100 + p[i].a], s.2) = q at *
  rcases q with ⟨l, s3⟩
  have c1 := H.c1
  have hz := H.z
  obtain rfl := H.T.len
  obtain ⟨b5, off5, rfl, hb5, d0, d1, d2, d3, -⟩ := H.T.lin_at hi
  have hi0 : (0 : Int) ≤ (i : Int) := by omega
  have hin : (i : Int) < (p.length : Int) := by omega
  generalize p[i].depth = vd at *
  generalize p[i].kind = vk at *
  generalize p[i].a = va at *
  generalize p[i].b = vb at *
  have LX := Le.new w (.cells #[.int .i64 vd, .int .i64 vk, .int .i64 va, .int .i64 vb] 55)
  have b2 : (w.alloc (.cells #[.int .i64 vd, .int .i64 vk, .int .i64 va, .int .i64 vb] 55)).cell? ⟨w.heap.size, 2, none⟩ = some (.int .i64 va) := by rw [World.cell?_alloc_at _ _ _ _ rfl]; rfl
  have b3 : (w.alloc (.cells #[.int .i64 vd, .int .i64 vk, .int .i64 va, .int .i64 vb] 55)).cell? ⟨w.heap.size, 3, none⟩ = some (.int .i64 vb) := by rw [World.cell?_alloc_at _ _ _ _ rfl]; rfl
  have zx : w.heap.size < (w.alloc (.cells #[.int .i64 vd, .int .i64 vk, .int .i64 va, .int .i64 vb] 55)).heap.size := by simp
  have hneR : w.heap.size ≠ R := by omega
  have hlw : lv.ownBlock ≠ some w.heap.size := fun e => by have := (H.O.lt _ e).2; omega
  have hhw : hv.ownBlock ≠ some w.heap.size := fun e => by have := (H.H.lt _ e).2; omega
  have H0 := H.le LX
  have K0 := Kp.of_le R lv hv LX
  have HQ1 : Hid (isRai l = false → quiet (decide (vb = 1)) l = l) := by show _ → _; cases l <;> first | (intro e; cases e; done) | (intro _; rfl)
  have HQ2 : Hid (isRai l = true → quiet (decide (vb = 1)) l = cond (decide (vb = 1)) .nil l) := by show _ → _; cases l <;> first | (intro e; cases e; done) | (intro _; show (if _ then _ else _) = _; cases decide (vb = 1) <;> rfl)
  generalize quiet (decide (vb = 1)) l = lq at *
  unfold RunOk
  show Calls _ _ _ _ _
  go_enter Tryz.func84, Tryz.ntmps84
  go_wp2_with fail
  refine (tell_any R m c _ cap B _ xs p lv hv s.1 s.2 (100 + va) ⟨by omega, by omega⟩ hlg _ H0).mono ?_
  rintro e w2 ⟨rfl, lv2, RN2, KP2⟩
  replace b2 := KP2.cell zx hneR hlw hhw b2
  replace b3 := KP2.cell zx hneR hlw hhw b3
  have zx2 := Nat.lt_of_lt_of_le zx KP2.size
  replace hlw := KP2.ownL zx hlw
  have KQ := K0.trans KP2
  clear H0 K0 KP2 H d0 d1 d2 d3 c1
  go_wp2_with fail
  refine (show Calls _ _ _ _ _ from HBx lv2 hv w2 RN2).mono ?_
  rintro e w3 ⟨rfl, lv3, hv3, RN3, KP3⟩
  replace b2 := KP3.cell zx2 hneR hlw hhw b2
  replace b3 := KP3.cell zx2 hneR hlw hhw b3
  have zx3 := Nat.lt_of_lt_of_le zx2 KP3.size
  have hlw3 := KP3.ownL zx2 hlw
  have hhw3 := KP3.ownH zx2 hhw
  replace KQ := KQ.trans KP3
  clear KP3 RN2 HBx
  go_wp2_with fail
  refine (tell_any R m c _ cap B _ xs p lv3 hv3 s3.1 s3.2 (200 + va) ⟨by omega, by omega⟩ hlen3 _ RN3).mono ?_
  rintro e w4 ⟨rfl, lv4, RN4, KP4⟩
  replace b3 := KP4.cell zx3 hneR hlw3 hhw3 b3
  replace KQ := KQ.trans KP4
  have zx4 := Nat.lt_of_lt_of_le zx3 KP4.size
  clear KP4 RN3 b2
  have q1 := ta_rai l
  have L5 := Le.new w4 (.cells #[.int .i64 (raiF l)] 88)
  have b5 := (L5.cell zx4).trans b3
  have HR := Lib.hid (And.intro (RN4.le L5) (KQ.trans (Kp.of_le R lv4 hv3 L5)))
  clear RN4 KQ
  generalize isRai l = ri at *
  generalize raiF l = rf at *
  cases ri
  · obtain rfl : lq = l := HQ1.out (by trivial)
    clear HQ1 HQ2
    go_wp2_with fail
    refine (leave_any lq _).mono ?_
    rintro e w6 ⟨rfl, rfl⟩
    cases lq
    case nil => (go_wp2; go_end0; exact ⟨rfl, _, _, HR.out.1, HR.out.2⟩)
    all_goals exact ⟨rfl, rfl, _, _, HR.out.1, HR.out.2⟩
  · have hq2 := HQ2.out (by trivial)
    clear HQ1 HQ2
    by_cases hb : vb = 1
    · have hbb : decide (vb = 1) = true := decide_eq_true hb
      rw [hbb] at hq2
      obtain rfl : lq = .nil := hq2
      go_wp2
      exact bodyPost_ret (v := .tuple #[]) (by simp [results, Tryz.results84, go_sem]) rfl ⟨rfl, _, _, HR.out.1, HR.out.2⟩
    · have hbb : decide (vb = 1) = false := decide_eq_false hb
      rw [hbb] at hq2
      obtain rfl : lq = l := hq2
      go_wp2_with fail
      refine (leave_any lq _).mono ?_
      rintro e w6 ⟨rfl, rfl⟩
      cases lq
      case nil => (go_wp2; go_end0; exact ⟨rfl, _, _, HR.out.1, HR.out.2⟩)
      all_goals exact ⟨rfl, rfl, _, _, HR.out.1, HR.out.2⟩
theorem pan_lf {l : Lft} (h : isNil l = false) (w : World) : (Instr.panic (lfV l)).run Tryz.prog w = .halt (.panic (lfV l)) w := by cases l <;> first | (cases h; done) | rfl
theorem lfE_of {l : Lft} (h : isNil l = false) : lfE l = .panicked [{ v := lfV l, recovered := false }] := by cases l <;> first | (cases h; done) | rfl
theorem loop_sm {xs : List Cls} {p : List Lin} {blk : Bls} {C : Nat → Prop} (H : BFw xs p blk C) {i : Nat} (hi : i < p.length) (ho : C i) {h : Int} {n : Nat} {s : Rst} (gd : Gd xs s.2) (hh : Hd h s) (hs : Sm (loopN blk i h (n + 1) s).2) : Sm (blk i h s).2 := by
  have F := H i h s hi ho gd hh
  unfold loopN at hs
  rcases hb : blk i h s with ⟨l, s2⟩
  rw [hb] at F hs
  rcases l with _ | v | f | _ | _
  · exact (Fw.loop H hi ho n s2 F.gd (F.hd hh)).sm hs
  · exact hs
  · exact hs
  · exact hs
  · exact (Fw.loop H hi ho n s2 F.gd (F.hd hh)).sm hs
theorem loop_go {blk : Bls} {i : Nat} {h : Int} {n : Nat} {s s2 : Rst} {l : Lft} (e : blk i h s = (l, s2)) (hl : l = .nil ∨ l = .cnt) : loopN blk i h (n + 1) s = loopN blk i h n s2 := by
  rw [loopN.eq_def]; simp only [e]
  rcases hl with rfl | rfl <;> rfl
theorem loop_out {blk : Bls} {i : Nat} {h : Int} {n : Nat} {s s2 : Rst} {l : Lft} (e : blk i h s = (l, s2)) (hl : isNil l = false) (hl2 : isCnt l = false) : loopN blk i h (n + 1) s = (cond (isBrk l) .nil l, s2) := by
  rw [loopN.eq_def]; simp only [e]
  cases l <;> first | (cases hl; done) | (cases hl2; done) | rfl
set_option maxHeartbeats 2000000 in
set_option maxRecDepth 100000 in
theorem runLoop_any (R m c n cap : Nat) (B A : Option Addr) (xs : List Cls) (p : List Lin) (blk : Bls) (C : Nat → Prop) (HB : BlOk R m c n cap B A xs p blk C) (HFw : BFw xs p blk C) (g : GoodP xs p) (i : Nat) (hi : i < p.length) (hC : C i) (h12 : knd p i = 12) (h : Int) (s : Rst) (gd : Gd xs s.2) (hh : Hd h s) (hsm : Sm (loopN blk i h (lnA p i).toNat s).2) (lv hv : Value) (w : World) (H : Rn w R B m c xs A n cap p lv hv s.1 s.2) :
    RunOk R m c n cap B A xs p 85 #[.pointer (some ⟨R, 0, none⟩), .int .i64 i, .int .i64 h] lv hv w (loopN blk i h (lnA p i).toNat s) := by
  have ha := loop_a g hi h12
  have hA : lnA p i = p[i].a := lnA_at hi
  have c1 := H.c1
  have hz := H.z
  obtain rfl := H.T.len
  obtain ⟨b5, off5, rfl, hb5, d0, d1, d2, d3, -⟩ := H.T.lin_at hi
  have hi0 : (0 : Int) ≤ (i : Int) := by omega
  have hin : (i : Int) < (p.length : Int) := by omega
  rw [← hA] at ha d2
  clear hA h12
  generalize lnA p i = a at *
  obtain ⟨N, rfl⟩ := Int.eq_ofNat_of_zero_le ha.1
  rw [show ((N : Nat) : Int).toNat = N by omega] at hsm ⊢
  have q2 := eql_lf
  have q4 := eg_eql
  have q5 := ta_cnt
  have q6 := ta_brk
  unfold RunOk
  show Calls _ _ _ _ _
  obtain ⟨T, hT⟩ : ∃ T, loopN blk i h N s = T := ⟨_, rfl⟩
  rw [hT] at hsm ⊢
  have HB0 := Lib.hid HB
  have HF0 := Lib.hid HFw
  clear HB HFw
  go_enter Tryz.func85, Tryz.ntmps85
  go_wp2
  go_loopw [17] (fun q wr => ∃ (k j : Nat) (s2 : Rst) (lv2 hv2 : Value), q = .int .i64 k ∧ k + j = N ∧ loopN blk i h j s2 = T ∧ Gd xs s2.2 ∧ Hd h s2 ∧ Rn wr R B m c xs (some ⟨b5, off5, none⟩) p.length cap p lv2 hv2 s2.1 s2.2 ∧ Kp R lv hv lv2 hv2 w wr) (fun q _ => N - (intOf q).toNat)
  case atStart => exact ⟨0, N, s, lv, hv, rfl, by omega, hT, gd, hh, H, Kp.refl R lv hv w⟩
  case round =>
    obtain ⟨k, j, s2, lv2, hv2, rfl, hkj, ht, gd2, hh2, RN, KP⟩ := hrel
    have HT := Lib.hid ht
    clear ht hT H gd hh
    by_cases hk : k < N
    · obtain ⟨j, rfl⟩ : ∃ j', j = j' + 1 := ⟨j - 1, by omega⟩
      have hkN : (k : Int) < (N : Int) := by omega
      have hs1 := loop_sm HF0.out hi hC gd2 hh2 (by rw [HT.out]; exact hsm)
      have F := HF0.out i h s2 hi hC gd2 hh2
      have HBx : AtOk R m c p.length cap B (some ⟨b5, off5, none⟩) xs p 100 #[.pointer (some ⟨R, 0, none⟩), .int .i64 i, .int .i64 h] lv2 hv2 wr (blk i h s2) := HB0.out i h s2 lv2 hv2 wr hi hC gd2 hh2 hs1 RN
      obtain ⟨r, hr⟩ : ∃ r, blk i h s2 = r := ⟨_, rfl⟩
      rw [hr] at HBx F
      rcases r with ⟨l, s3⟩
      have HG := Lib.hid (fun (hl : l = .nil ∨ l = .cnt) => (loop_go (n := j) hr hl).symm.trans HT.out)
      have HO := Lib.hid (fun (hl : isNil l = false) (hl2 : isCnt l = false) => (loop_out (n := j) hr hl hl2).symm.trans HT.out)
      have HN1 : Hid (isNil l = true → l = .nil) := by show _ → _; cases l <;> first | (intro e; cases e; done) | (intro _; rfl)
      have HN2 : Hid (isCnt l = true → l = .cnt) := by show _ → _; cases l <;> first | (intro e; cases e; done) | (intro _; rfl)
      have HP := Lib.hid (lfE_of (l := l))
      have HP2 := Lib.hid (pan_lf (l := l))
      have q2l := q2 l
      have q4l := q4 l
      have q5l := q5 l
      have q6l := q6 l
      clear q2 q4 q5 q6 HT hr hs1 RN
      go_wp2_with fail
      refine (show Calls _ _ _ _ _ from HBx).mono ?_
      rintro e w3 ⟨rfl, lv3, hv3, RN3, KP3⟩
      have KQ := KP.trans KP3
      have HH := Lib.hid (And.intro F.gd (F.hd hh2))
      clear HBx KP KP3 F gd2 hh2
      generalize isNil l = nl at *
      generalize isCnt l = cl at *
      generalize isBrk l = bl at *
      cases nl
      · cases cl
        · have HO2 := Lib.hid (HO.out (by trivial) (by trivial))
          clear HO HG HN1 HN2
          cases bl
          · have HO3 : Hid ((l, s3) = T) := HO2.out
            clear HO2
            have HR := Lib.hid (And.intro RN3 KQ)
            clear RN3 KQ
            have q7 := HP2.out (by trivial)
            go_wp2
            have hl := HO3.out
            subst hl
            exact ⟨rfl, (HP.out (by trivial)).symm, _, _, HR.out.1, HR.out.2⟩
          · have HO3 : Hid ((.nil, s3) = T) := HO2.out
            clear HO2
            have L5 := Le.new w3 (.cells #[] 114)
            have HR := Lib.hid (And.intro (RN3.le L5) (KQ.trans (Kp.of_le R lv3 hv3 L5)))
            clear L5
            clear RN3 KQ
            go_wp2
            have hl := HO3.out
            subst hl
            exact bodyPost_ret (v := .tuple #[]) (by simp [results, Tryz.results85, go_sem]) rfl ⟨rfl, _, _, HR.out.1, HR.out.2⟩
        · have HG2 := Lib.hid (HG.out (.inr (HN2.out (by trivial))))
          clear HO HG HN1 HN2
          go_wp2
          go_roundw
          case rel => exact ⟨k + 1, j, s3, lv3, hv3, by go_num, by omega, HG2.out, HH.out.1, HH.out.2, RN3, KQ⟩
          case measure => simp [intOf]; omega
      · have HG2 := Lib.hid (HG.out (.inl (HN1.out (by trivial))))
        clear HO HG HN1 HN2
        go_wp2
        go_roundw
        case rel => exact ⟨k + 1, j, s3, lv3, hv3, by go_num, by omega, HG2.out, HH.out.1, HH.out.2, RN3, KQ⟩
        case measure => simp [intOf]; omega
    · have hkN : ¬ (k : Int) < (N : Int) := by omega
      obtain rfl : j = 0 := by omega
      have HT2 : Hid ((.nil, s2) = T) := HT.out
      clear HT
      have HR := Lib.hid (And.intro RN KP)
      clear RN KP
      have hl := HT2.out
      subst hl
      go_wp2
      go_end0
      exact ⟨rfl, _, _, HR.out.1, HR.out.2⟩
end

section
/-- the box of a line that a call keeps: its numbers -/
structure Lx (W : World) (R g : Nat) (lv hv : Value) (va vb : Int) : Prop where
  z : g < W.heap.size
  ne : g ≠ R
  l : lv.ownBlock ≠ some g
  h : hv.ownBlock ≠ some g
  c2 : W.cell? ⟨g, 2, none⟩ = some (.int .i64 va)
  c3 : W.cell? ⟨g, 3, none⟩ = some (.int .i64 vb)
section
variable {w w' W W' : World} {R g m c n cap : Nat} {B A : Option Addr} {xs : List Cls} {p : List Lin} {lv hv lv' hv' : Value} {va vb vd vk : Int} {lg : List Int} {hs : List Flt}
theorem Lx.kp (h : Lx W R g lv hv va vb) (k : Kp R lv hv lv' hv' W W') : Lx W' R g lv' hv' va vb :=
  ⟨Nat.lt_of_lt_of_le h.z k.size, h.ne, k.ownL h.z h.l, k.ownH h.z h.h, k.cell h.z h.ne h.l h.h h.c2, k.cell h.z h.ne h.l h.h h.c3⟩
theorem Lx.le (h : Lx W R g lv hv va vb) (L : Le W W') : Lx W' R g lv hv va vb := h.kp (Kp.of_le R lv hv L)
theorem Lx.new (RN : Rn W R B m c xs A n cap p lv hv lg hs) (vd vk va vb : Int) (T : TypeId) : Lx (W.alloc (.cells #[.int .i64 vd, .int .i64 vk, .int .i64 va, .int .i64 vb] T)) R W.heap.size lv hv va vb := by
  have z := RN.z
  refine ⟨by simp, by omega, fun e => by have := (RN.O.lt _ e).2; omega, fun e => by have := (RN.H.lt _ e).2; omega, ?_, ?_⟩
  · rw [World.cell?_alloc_at _ _ _ _ rfl]; rfl
  · rw [World.cell?_alloc_at _ _ _ _ rfl]; rfl
end
/-- the blocks of lines are run so by the model -/
def SbOk (R m c n cap : Nat) (B A : Option Addr) (xs : List Cls) (p : List Lin) (blk : Bls) (C : Nat → Prop) : Prop :=
  ∀ (x : Nat) (h : Int) (s : Rst) (lv hv : Value) (w : World), x < p.length → C x → Gd xs s.2 → Hd h s → Sm (blk x h s).2 → Rn w R B m c xs A n cap p lv hv s.1 s.2 → SpOk R m c n cap B A xs p 108 #[.pointer (some ⟨R, 0, none⟩), .int .i64 x, .int .i64 h] lv hv w (blk x h s)
set_option maxHeartbeats 4000000 in
set_option maxRecDepth 100000 in
theorem sRunWith_any (R m c n cap : Nat) (B A : Option Addr) (xs : List Cls) (p : List Lin) (blk : Bls) (C : Nat → Prop) (HB : SbOk R m c n cap B A xs p blk C) (HFw : BFw xs p blk C) (g : GoodP xs p) (i : Nat) (hi : i < p.length) (hC : C i) (h11 : knd p i = 11) (h : Int) (s : Rst) (gd : Gd xs s.2) (hh : Hd h s) (hsm : Sm (withN blk p i h s).2) (lv hv : Value) (w : World) (H : Rn w R B m c xs A n cap p lv hv s.1 s.2) :
    SpOk R m c n cap B A xs p 93 #[.pointer (some ⟨R, 0, none⟩), .int .i64 i, .int .i64 h] lv hv w (withN blk p i h s) := by
  have hab := with_ab g hi h11
  have hp := g.len
  have hA : lnA p i = p[i].a := lnA_at hi
  have hBc : lnBc p i = p[i].b := lnBc_at hi
  have F := HFw i h (s.1 ++ [100 + p[i].a], s.2) hi hC gd hh
  have HX : Hid (withN blk p i h s = (quiet (decide (p[i].b = 1)) (blk i h (s.1 ++ [100 + p[i].a], s.2)).1, ((blk i h (s.1 ++ [100 + p[i].a], s.2)).2.1 ++ [200 + p[i].a], (blk i h (s.1 ++ [100 + p[i].a], s.2)).2.2))) := by show _ = _; unfold withN; rw [hA, hBc]
  have hsm1 : Sm (blk i h (s.1 ++ [100 + p[i].a], s.2)).2 := by
    rw [HX.out] at hsm
    have h1 := hsm.1
    have h2 : ((blk i h (s.1 ++ [100 + p[i].a], s.2)).2.1 ++ [200 + p[i].a]).length ≤ 1000000 := h1
    rw [List.length_append] at h2
    exact ⟨by omega, hsm.2⟩
  have hsm0 := F.sm hsm1
  have hlg : s.1.length ≤ 1000000 := by have h1 : (s.1 ++ [100 + p[i].a]).length ≤ 1000000 := hsm0.1; rw [List.length_append] at h1; omega
  have HBx : ∀ lv2 hv2 w2, Rn w2 R B m c xs A n cap p lv2 hv2 (s.1 ++ [100 + p[i].a]) s.2 → SpOk R m c n cap B A xs p 108 #[.pointer (some ⟨R, 0, none⟩), .int .i64 i, .int .i64 h] lv2 hv2 w2 (blk i h (s.1 ++ [100 + p[i].a], s.2)) := fun lv2 hv2 w2 H2 => HB i h (s.1 ++ [100 + p[i].a], s.2) lv2 hv2 w2 hi hC gd hh hsm1 H2
  clear F hsm HB HFw hsm0
  generalize withN blk p i h s = z at *
  obtain rfl := HX.out
  clear HX
  have hlen3 := hsm1.1
  clear hsm1 gd hh hA hBc
  generalize blk i h (s.1 ++ [100 + p[i].a], s.2) = q at *
  rcases q with ⟨l, s3⟩
  have c1 := H.c1
  have hz := H.z
  obtain rfl := H.T.len
  obtain ⟨b5, off5, rfl, hb5, d0, d1, d2, d3, -⟩ := H.T.lin_at hi
  have hi0 : (0 : Int) ≤ (i : Int) := by omega
  have hin : (i : Int) < (p.length : Int) := by omega
  generalize p[i].depth = vd at *
  generalize p[i].kind = vk at *
  generalize p[i].a = va at *
  generalize p[i].b = vb at *
  obtain ⟨i0, hq, hz0, hz1, hz2⟩ := info_parts infoIntR
  have L0 := Le.new w (.cells #[.int .i64 0, .int .i64 0] 77)
  have BX := Bx.new H (.int .i64 0) (.int .i64 0) 77
  have H1 := H.le L0
  have LX := Le.new (w.alloc (.cells #[.int .i64 0, .int .i64 0] 77)) (.cells #[.int .i64 vd, .int .i64 vk, .int .i64 va, .int .i64 vb] 55)
  have LI := (Lx.new H1 vd vk va vb 55).le (Le.refl _).drew
  have RN := H1.le LX.drew
  have hg1 : (w.alloc (.cells #[.int .i64 0, .int .i64 0] 77)).heap.size = w.heap.size + 1 := by simp
  rw [hg1] at LI
  replace BX := BX.le LX.drew
  have KQ := Kp.of_le R lv hv (L0.trans LX.drew)
  obtain ⟨AL, cL, rfl⟩ := own_form H.O
  have c1 := H1.c1
  replace d0 := (L0.cell hb5).trans d0
  replace d1 := (L0.cell hb5).trans d1
  replace d2 := (L0.cell hb5).trans d2
  replace d3 := (L0.cell hb5).trans d3
  have HQ1 : Hid (edK l ≠ 2 → quiet (decide (vb = 1)) l = l) := by show _ → _; cases l <;> first | (intro e; exact absurd rfl e) | (intro _; rfl)
  have HQ2 : Hid (edK l = 2 → quiet (decide (vb = 1)) l = cond (decide (vb = 1)) .nil l) := by show _ → _; cases l <;> first | (intro e; cases e; done) | (intro _; show (if _ then _ else _) = _; cases decide (vb = 1) <;> rfl)
  generalize quiet (decide (vb = 1)) l = lq at *
  unfold SpOk
  show Calls _ _ _ _ _
  go_enter Tryz.func93, Tryz.ntmps93
  go_wp2_with fail
  refine wp_region_noPanic ?_
  refine wp_region_Z (fun w' => w'.cell? ⟨R, 2, none⟩ = some (.slice AL s.1.length cL) ∧ w'.cell? ⟨w.heap.size + 1, 2, none⟩ = some (.int .i64 va)) [12] (by kernel_rfl) ?_
  generalize ((w.alloc (.cells #[.int .i64 0, .int .i64 0] 77)).alloc (.cells #[.int .i64 vd, .int .i64 vk, .int .i64 va, .int .i64 vb] 55)).drew = V at *
  clear d0 d1 d2 d3 c1 H1 L0 LX hg1
  have x2 := LI.c2
  have zG := LI.z
  have hlG := LI.l
  have hX : Enc.ok (100 + va) := ⟨by omega, by omega⟩
  have hwr : IntKind.i64.wrap (100 + va) = 100 + va := IntWalk.i64_in _ (by omega)
  have c2V := RN.c2
  have f2V := RN.f2
  have zV := RN.z
  have OV := RN.O
  refine wpAnyZ_take (i := 0) (v := ?_) rfl (by kernel_rfl) (fun _ _ _ h => h) (Or.inl ⟨by rfl, ?_⟩) (⟨c2V, x2⟩) ?_
  rotate_left 1
  · (intro w hSw; (try dsimp only at hSw); go_simp; try with_reducible rfl)
  try simp only [Act.put, List.setIfInBounds_toArray, List.set_cons_zero, List.set_cons_succ]
  refine wpAnyZ_take (i := 1) (v := ?_) rfl (by kernel_rfl) (fun _ _ _ h => h) (Or.inl ⟨by rfl, ?_⟩) (⟨c2V, x2⟩) ?_
  rotate_left 1
  · (intro w hSw; (try dsimp only at hSw); go_simp; try with_reducible rfl)
  try simp only [Act.put, List.setIfInBounds_toArray, List.set_cons_zero, List.set_cons_succ]
  refine wpAnyZ_take (i := 2) (v := ?_) rfl (by kernel_rfl) (fun _ _ _ h => h) (Or.inl ⟨by rfl, ?_⟩) (⟨c2V, x2⟩) ?_
  rotate_left 1
  · (intro w hSw; (try dsimp only at hSw); go_simp; try with_reducible rfl)
  try simp only [Act.put, List.setIfInBounds_toArray, List.set_cons_zero, List.set_cons_succ]
  refine wpAnyZ_take (i := 3) (v := ?_) rfl (by kernel_rfl) (fun _ _ _ h => h) (Or.inl ⟨by rfl, ?_⟩) (⟨c2V, x2⟩) ?_
  rotate_left 1
  · (intro w hSw; (try dsimp only at hSw); go_simp; try with_reducible rfl)
  try simp only [Act.put, List.setIfInBounds_toArray, List.set_cons_zero, List.set_cons_succ]
  refine wpAnyZ_take (i := 4) (v := ?_) rfl (by kernel_rfl) (fun _ _ _ h => h) (Or.inl ⟨by rfl, ?_⟩) (⟨c2V, x2⟩) ?_
  rotate_left 1
  · (intro w hSw; (try dsimp only at hSw); go_simp; try with_reducible rfl)
  try simp only [Act.put, List.setIfInBounds_toArray, List.set_cons_zero, List.set_cons_succ]
  refine wpAnyZ_take (i := 5) (v := ?_) rfl (by kernel_rfl) (fun _ _ _ h => h) (Or.inl ⟨by rfl, ?_⟩) (⟨c2V, x2⟩) ?_
  rotate_left 1
  · (intro w hSw; (try dsimp only at hSw); go_simp; try with_reducible rfl)
  try simp only [Act.put, List.setIfInBounds_toArray, List.set_cons_zero, List.set_cons_succ]
  refine wpAnyZ_take (i := 6) (v := ?_) rfl (by kernel_rfl) (fun _ _ _ h => h) (Or.inl ⟨by rfl, ?_⟩) (⟨c2V, x2⟩) ?_
  rotate_left 1
  · (intro w hSw; (try dsimp only at hSw); go_simp; try with_reducible rfl)
  try simp only [Act.put, List.setIfInBounds_toArray, List.set_cons_zero, List.set_cons_succ]
  refine wpAnyZ_take (i := 7) (v := ?_) rfl (by kernel_rfl) (fun _ _ _ h => h) (Or.inl ⟨by rfl, ?_⟩) (⟨c2V, x2⟩) ?_
  rotate_left 1
  · (intro w hSw; (try dsimp only at hSw); go_simp; try with_reducible rfl)
  try simp only [Act.put, List.setIfInBounds_toArray, List.set_cons_zero, List.set_cons_succ]
  refine wpAnyZ_one (i := 8) (by kernel_rfl) (ReadyZ.mk rfl (fun K hK => ?_))
  go_simp
  have LN := Le.new V (.cells #[.int .i64 (100 + va)] 3)
  have e2 := (LN.cell zV).trans c2V
  have ex := (LN.cell zG).trans x2
  refine hK.out _ _ (fun _ => ⟨e2, ex⟩) ?_
  clear hK K
  try simp only [Act.put, List.setIfInBounds_toArray, List.set_cons_zero, List.set_cons_succ]
  refine wpAnyZ_one (i := 9) (by kernel_rfl) (ReadyZ.mk rfl (fun K hK => ?_))
  refine step_append_sl rfl (.tmp 20) (.tmp 24) 28 rfl (R - 1) 3 i0 _ 8 Tryz.underlying28 hq hz0 hz1 hz2 rfl (.slice AL s.1.length cL) s.1.length s.1 rfl (OV.alloc _) _ 1 1 [100 + va] rfl (sl_one (100 + va) rfl hX rfl) (by unfold maxLen; omega) (by omega) (Nat.le_trans (by omega) LN.size) ?_
  intro v1 w4 O4 hg4 hbl
  have HP := Lib.hid (RN.told LN hX O4 hg4 hbl)
  have hneR : some R ≠ (Value.slice AL s.1.length cL).ownBlock := fun e => RN.lneR e.symm
  have k2 := hg4.cell (a := ⟨R, 2, none⟩) e2 hneR
  have k3 : w4.frozen? ⟨R, 2, none⟩ = false := (World.frozen?_of_block (a := ⟨R, 2, none⟩) (hg4.block R (Nat.lt_of_lt_of_le zV LN.size) hneR)).trans ((LN.frozen zV).trans f2V)
  have kx := hg4.cell (a := ⟨w.heap.size + 1, 2, none⟩) ex (fun e => hlG e.symm)
  obtain ⟨A1, q1, rfl⟩ := own_form O4
  refine hK.out _ _ (fun _ => ⟨k2, kx⟩) ?_
  clear hK K
  try simp only [Act.put, List.setIfInBounds_toArray, List.set_cons_zero, List.set_cons_succ]
  refine wpAnyZ_take (i := 10) (v := ?_) rfl (by kernel_rfl) (fun _ _ _ h => h) (Or.inl ⟨by rfl, ?_⟩) (⟨k2, kx⟩) ?_
  rotate_left 1
  · (intro w hSw; (try dsimp only at hSw); go_simp; try with_reducible rfl)
  try simp only [Act.put, List.setIfInBounds_toArray, List.set_cons_zero, List.set_cons_succ]
  refine wpAnyZ_take (i := 11) (v := ?_) rfl (by kernel_rfl) (fun _ _ _ h => h) (Or.inl ⟨by rfl, ?_⟩) (⟨k2, kx⟩) ?_
  rotate_left 1
  · (intro w hSw; (try dsimp only at hSw); go_simp; try with_reducible rfl)
  try simp only [Act.put, List.setIfInBounds_toArray, List.set_cons_zero, List.set_cons_succ]
  refine wpAnyZ_one (i := 12) (by kernel_rfl) (ReadyZ.mk rfl (fun K hK => ?_))
  go_simp
  refine hK.out _ _ (fun h => absurd h (by decide)) ?_
  clear hK K
  try simp only [Act.put, List.setIfInBounds_toArray, List.set_cons_zero, List.set_cons_succ]
  refine wpAnyZ_done (by kernel_rfl) ?_ _
  refine NoPanic.normal ?_
  clear c2V f2V zV OV LN e2 ex O4 hg4 hbl k2 k3 kx hneR
  replace KQ := KQ.trans HP.out.2
  replace BX := BX.kp HP.out.2
  replace LI := LI.kp HP.out.2
  replace RN := HP.out.1
  clear HP x2 zG hlG hX
  generalize w4.setCell ⟨R, 2, none⟩ (.slice A1 (s.1.length + 1) q1) = W1 at *
  generalize (Value.slice A1 (s.1.length + 1) q1) = lv1 at *
  go_wp2_with fail
  refine (show Calls _ _ _ _ _ from HBx lv1 hv W1 RN).mono ?_
  rintro e w3 ⟨rfl, lv3, hv3, RN3, KP3⟩
  have LE := Le.new w3 (.cells #[.int .i64 (edK l), .int .i64 (edW l)] 77)
  have B2 := (Bx.new RN3 (.int .i64 (edK l)) (.int .i64 (edW l)) 77).le (Le.refl _).drew
  replace BX := (BX.kp KP3).le LE.drew
  replace LI := (LI.kp KP3).le LE.drew
  replace KQ := (KQ.trans KP3).trans (Kp.of_le R lv3 hv3 LE.drew)
  clear KP3 RN HBx
  have RN := RN3.le LE.drew
  clear RN3 LE
  simp only at RN
  obtain ⟨AM, cM, rfl⟩ := own_form RN.O
  go_wp2_with fail
  refine wp_region_noPanic ?_
  refine wp_region_Z (fun w' => w'.cell? ⟨R, 2, none⟩ = some (.slice AM s3.1.length cM) ∧ w'.cell? ⟨w.heap.size + 1, 2, none⟩ = some (.int .i64 va)) [12] (by kernel_rfl) ?_
  generalize (w3.alloc (.cells #[.int .i64 (edK l), .int .i64 (edW l)] 77)).drew = V2 at *
  have x2 := LI.c2
  have zG := LI.z
  have hlG := LI.l
  have hX : Enc.ok (200 + va) := ⟨by omega, by omega⟩
  have hwr : IntKind.i64.wrap (200 + va) = 200 + va := IntWalk.i64_in _ (by omega)
  have c2V := RN.c2
  have f2V := RN.f2
  have zV := RN.z
  have OV := RN.O
  refine wpAnyZ_take (i := 0) (v := ?_) rfl (by kernel_rfl) (fun _ _ _ h => h) (Or.inl ⟨by rfl, ?_⟩) (⟨c2V, x2⟩) ?_
  rotate_left 1
  · (intro w hSw; (try dsimp only at hSw); go_simp; try with_reducible rfl)
  try simp only [Act.put, List.setIfInBounds_toArray, List.set_cons_zero, List.set_cons_succ]
  refine wpAnyZ_take (i := 1) (v := ?_) rfl (by kernel_rfl) (fun _ _ _ h => h) (Or.inl ⟨by rfl, ?_⟩) (⟨c2V, x2⟩) ?_
  rotate_left 1
  · (intro w hSw; (try dsimp only at hSw); go_simp; try with_reducible rfl)
  try simp only [Act.put, List.setIfInBounds_toArray, List.set_cons_zero, List.set_cons_succ]
  refine wpAnyZ_take (i := 2) (v := ?_) rfl (by kernel_rfl) (fun _ _ _ h => h) (Or.inl ⟨by rfl, ?_⟩) (⟨c2V, x2⟩) ?_
  rotate_left 1
  · (intro w hSw; (try dsimp only at hSw); go_simp; try with_reducible rfl)
  try simp only [Act.put, List.setIfInBounds_toArray, List.set_cons_zero, List.set_cons_succ]
  refine wpAnyZ_take (i := 3) (v := ?_) rfl (by kernel_rfl) (fun _ _ _ h => h) (Or.inl ⟨by rfl, ?_⟩) (⟨c2V, x2⟩) ?_
  rotate_left 1
  · (intro w hSw; (try dsimp only at hSw); go_simp; try with_reducible rfl)
  try simp only [Act.put, List.setIfInBounds_toArray, List.set_cons_zero, List.set_cons_succ]
  refine wpAnyZ_take (i := 4) (v := ?_) rfl (by kernel_rfl) (fun _ _ _ h => h) (Or.inl ⟨by rfl, ?_⟩) (⟨c2V, x2⟩) ?_
  rotate_left 1
  · (intro w hSw; (try dsimp only at hSw); go_simp; try with_reducible rfl)
  try simp only [Act.put, List.setIfInBounds_toArray, List.set_cons_zero, List.set_cons_succ]
  refine wpAnyZ_take (i := 5) (v := ?_) rfl (by kernel_rfl) (fun _ _ _ h => h) (Or.inl ⟨by rfl, ?_⟩) (⟨c2V, x2⟩) ?_
  rotate_left 1
  · (intro w hSw; (try dsimp only at hSw); go_simp; try with_reducible rfl)
  try simp only [Act.put, List.setIfInBounds_toArray, List.set_cons_zero, List.set_cons_succ]
  refine wpAnyZ_take (i := 6) (v := ?_) rfl (by kernel_rfl) (fun _ _ _ h => h) (Or.inl ⟨by rfl, ?_⟩) (⟨c2V, x2⟩) ?_
  rotate_left 1
  · (intro w hSw; (try dsimp only at hSw); go_simp; try with_reducible rfl)
  try simp only [Act.put, List.setIfInBounds_toArray, List.set_cons_zero, List.set_cons_succ]
  refine wpAnyZ_take (i := 7) (v := ?_) rfl (by kernel_rfl) (fun _ _ _ h => h) (Or.inl ⟨by rfl, ?_⟩) (⟨c2V, x2⟩) ?_
  rotate_left 1
  · (intro w hSw; (try dsimp only at hSw); go_simp; try with_reducible rfl)
  try simp only [Act.put, List.setIfInBounds_toArray, List.set_cons_zero, List.set_cons_succ]
  refine wpAnyZ_one (i := 8) (by kernel_rfl) (ReadyZ.mk rfl (fun K hK => ?_))
  go_simp
  have LN := Le.new V2 (.cells #[.int .i64 (200 + va)] 3)
  have e2 := (LN.cell zV).trans c2V
  have ex := (LN.cell zG).trans x2
  refine hK.out _ _ (fun _ => ⟨e2, ex⟩) ?_
  clear hK K
  try simp only [Act.put, List.setIfInBounds_toArray, List.set_cons_zero, List.set_cons_succ]
  refine wpAnyZ_one (i := 9) (by kernel_rfl) (ReadyZ.mk rfl (fun K hK => ?_))
  refine step_append_sl rfl (.tmp 36) (.tmp 40) 28 rfl (R - 1) 3 i0 _ 8 Tryz.underlying28 hq hz0 hz1 hz2 rfl (.slice AM s3.1.length cM) s3.1.length s3.1 rfl (OV.alloc _) _ 1 1 [200 + va] rfl (sl_one (200 + va) rfl hX rfl) (by unfold maxLen; omega) (by omega) (Nat.le_trans (by omega) LN.size) ?_
  intro v1 w4 O4 hg4 hbl
  have HP := Lib.hid (RN.told LN hX O4 hg4 hbl)
  have hneR : some R ≠ (Value.slice AM s3.1.length cM).ownBlock := fun e => RN.lneR e.symm
  have k2 := hg4.cell (a := ⟨R, 2, none⟩) e2 hneR
  have k3 : w4.frozen? ⟨R, 2, none⟩ = false := (World.frozen?_of_block (a := ⟨R, 2, none⟩) (hg4.block R (Nat.lt_of_lt_of_le zV LN.size) hneR)).trans ((LN.frozen zV).trans f2V)
  have kx := hg4.cell (a := ⟨w.heap.size + 1, 2, none⟩) ex (fun e => hlG e.symm)
  obtain ⟨A1, q1, rfl⟩ := own_form O4
  refine hK.out _ _ (fun _ => ⟨k2, kx⟩) ?_
  clear hK K
  try simp only [Act.put, List.setIfInBounds_toArray, List.set_cons_zero, List.set_cons_succ]
  refine wpAnyZ_take (i := 10) (v := ?_) rfl (by kernel_rfl) (fun _ _ _ h => h) (Or.inl ⟨by rfl, ?_⟩) (⟨k2, kx⟩) ?_
  rotate_left 1
  · (intro w hSw; (try dsimp only at hSw); go_simp; try with_reducible rfl)
  try simp only [Act.put, List.setIfInBounds_toArray, List.set_cons_zero, List.set_cons_succ]
  refine wpAnyZ_take (i := 11) (v := ?_) rfl (by kernel_rfl) (fun _ _ _ h => h) (Or.inl ⟨by rfl, ?_⟩) (⟨k2, kx⟩) ?_
  rotate_left 1
  · (intro w hSw; (try dsimp only at hSw); go_simp; try with_reducible rfl)
  try simp only [Act.put, List.setIfInBounds_toArray, List.set_cons_zero, List.set_cons_succ]
  refine wpAnyZ_one (i := 12) (by kernel_rfl) (ReadyZ.mk rfl (fun K hK => ?_))
  go_simp
  refine hK.out _ _ (fun h => absurd h (by decide)) ?_
  clear hK K
  try simp only [Act.put, List.setIfInBounds_toArray, List.set_cons_zero, List.set_cons_succ]
  refine wpAnyZ_done (by kernel_rfl) ?_ _
  refine NoPanic.normal ?_
  clear c2V f2V zV OV LN e2 ex O4 hg4 hbl k2 k3 kx hneR
  replace KQ := KQ.trans HP.out.2
  replace BX := BX.kp HP.out.2
  replace B2 := B2.kp HP.out.2
  replace LI := LI.kp HP.out.2
  replace RN := HP.out.1
  clear HP x2 zG hlG hX
  generalize w4.setCell ⟨R, 2, none⟩ (.slice A1 (s3.1.length + 1) q1) = W6 at *
  generalize (Value.slice A1 (s3.1.length + 1) q1) = lv6 at *
  have x3 := LI.c3
  have b0 := BX.c0
  have b1 := BX.c1
  have f0 := BX.f 0
  have f1 := BX.f 1
  have y0 := B2.c0
  have y1 := B2.c1
  have hgz : R < w.heap.size := hz
  have HE := Lib.hid (fun (k v : Int) => And.intro (RN.put2 BX hgz (.int .i64 k) (.int .i64 v)) (KQ.put2 (Nat.le_refl _) (.int .i64 k) (.int .i64 v)))
  have HC := Lib.hid (fun (k v : Int) => BX.put (.int .i64 k) (.int .i64 v))
  clear RN KQ BX B2 LI
  by_cases h2 : edK l = 2
  · have hq2 := HQ2.out h2
    rw [h2] at y0
    have hEW : edK l = 2 := h2
    by_cases hb : vb = 1
    · have hbb : decide (vb = 1) = true := decide_eq_true hb
      rw [hbb] at hq2
      obtain rfl : lq = .nil := hq2
      go_wp2
      have z0 := (HC.out 0 0).c0
      have z1 := (HC.out 0 0).c1
      exact bodyPost_ret (v := .agg #[.int .i64 0, .int .i64 0]) (by simp [results, Tryz.results93, go_sem, z0, z1]) rfl ⟨rfl, _, _, (HE.out 0 0).1, (HE.out 0 0).2⟩
    · have hbb : decide (vb = 1) = false := decide_eq_false hb
      rw [hbb] at hq2
      obtain rfl : lq = l := hq2
      go_wp2
      have z0 := (HC.out 2 (edW lq)).c0
      have z1 := (HC.out 2 (edW lq)).c1
      exact bodyPost_ret (v := .agg #[.int .i64 2, .int .i64 (edW lq)]) (by simp [results, Tryz.results93, go_sem, z0, z1]) rfl ⟨ret2 rfl rfl, _, _, (HE.out 2 (edW lq)).1, (HE.out 2 (edW lq)).2⟩
  · have hb2 : decide (edK l = 2) = false := decide_eq_false h2
    obtain rfl : lq = l := HQ1.out h2
    clear HQ1 HQ2
    generalize hk1 : edK lq = k1 at *
    go_wp2
    have z0 := (HC.out k1 (edW lq)).c0
    have z1 := (HC.out k1 (edW lq)).c1
    exact bodyPost_ret (v := .agg #[.int .i64 k1, .int .i64 (edW lq)]) (by simp [results, Tryz.results93, go_sem, z0, z1]) rfl ⟨ret2 hk1.symm rfl, _, _, (HE.out k1 (edW lq)).1, (HE.out k1 (edW lq)).2⟩
end

section
def outL : Lft → Lft
  | .brk => .nil
  | x => x
theorem sloop_out {blk : Bls} {i : Nat} {h : Int} {n : Nat} {s s2 : Rst} {l : Lft} (e : blk i h s = (l, s2)) (hl : l ≠ .nil) (hl2 : l ≠ .cnt) : loopN blk i h (n + 1) s = (outL l, s2) := by
  rw [loopN.eq_def]; simp only [e]
  cases l <;> first | exact absurd rfl hl | exact absurd rfl hl2 | rfl
set_option maxHeartbeats 4000000 in
set_option maxRecDepth 100000 in
theorem sRunLoop_any (R m c n cap : Nat) (B A : Option Addr) (xs : List Cls) (p : List Lin) (blk : Bls) (C : Nat → Prop) (HB : SbOk R m c n cap B A xs p blk C) (HFw : BFw xs p blk C) (g : GoodP xs p) (i : Nat) (hi : i < p.length) (hC : C i) (h12 : knd p i = 12) (h : Int) (s : Rst) (gd : Gd xs s.2) (hh : Hd h s) (hsm : Sm (loopN blk i h (lnA p i).toNat s).2) (lv hv : Value) (w : World) (H : Rn w R B m c xs A n cap p lv hv s.1 s.2) :
    SpOk R m c n cap B A xs p 94 #[.pointer (some ⟨R, 0, none⟩), .int .i64 i, .int .i64 h] lv hv w (loopN blk i h (lnA p i).toNat s) := by
  have ha := loop_a g hi h12
  have hA : lnA p i = p[i].a := lnA_at hi
  have hz := H.z
  obtain rfl := H.T.len
  have L0 := Le.new w (.cells #[.int .i64 0, .int .i64 0] 77)
  have BX := Bx.new H (.int .i64 0) (.int .i64 0) 77
  have H1 := H.le L0
  have K1 := Kp.of_le R lv hv L0
  have c1 := H1.c1
  obtain ⟨b5, off5, rfl, hb5, d0, d1, d2, d3, -⟩ := H1.T.lin_at hi
  have hi0 : (0 : Int) ≤ (i : Int) := by omega
  have hin : (i : Int) < (p.length : Int) := by omega
  rw [← hA] at ha d2
  clear hA h12
  generalize lnA p i = a at *
  obtain ⟨N, rfl⟩ := Int.eq_ofNat_of_zero_le ha.1
  rw [show ((N : Nat) : Int).toNat = N by omega] at hsm ⊢
  obtain ⟨T, hT⟩ : ∃ T, loopN blk i h N s = T := ⟨_, rfl⟩
  rw [hT] at hsm ⊢
  have HB0 := Lib.hid HB
  have HF0 := Lib.hid HFw
  clear HB HFw
  unfold SpOk
  show Calls _ _ _ _ _
  go_enter Tryz.func94, Tryz.ntmps94
  go_wp2
  generalize w.alloc (.cells #[.int .i64 0, .int .i64 0] 77) = W at *
  go_loopw [7] (fun q wr => ∃ (j : Nat) (s2 : Rst) (lv2 hv2 : Value), q = .int .i64 j ∧ j ≤ N ∧ loopN blk i h j s2 = T ∧ Gd xs s2.2 ∧ Hd h s2 ∧ Rn wr R B m c xs (some ⟨b5, off5, none⟩) p.length cap p lv2 hv2 s2.1 s2.2 ∧ Kp R lv hv lv2 hv2 w wr ∧ Bx wr R w.heap.size lv2 hv2 (.int .i64 0) (.int .i64 0)) (fun q _ => (intOf q).toNat)
  case atStart => exact ⟨N, s, lv, hv, rfl, Nat.le_refl _, hT, gd, hh, H1, K1, BX⟩
  case round =>
    obtain ⟨j, s2, lv2, hv2, rfl, hjN, ht, gd2, hh2, RN, KP, BX2⟩ := hrel
    have HT := Lib.hid ht
    clear ht hT H H1 gd hh BX K1
    by_cases hk : 0 < j
    · obtain ⟨j, rfl⟩ : ∃ j', j = j' + 1 := ⟨j - 1, by omega⟩
      have hkN : (0 : Int) < ((j + 1 : Nat) : Int) := by omega
      have hs1 := loop_sm HF0.out hi hC gd2 hh2 (by rw [HT.out]; exact hsm)
      have F := HF0.out i h s2 hi hC gd2 hh2
      have HBx : SpOk R m c p.length cap B (some ⟨b5, off5, none⟩) xs p 108 #[.pointer (some ⟨R, 0, none⟩), .int .i64 i, .int .i64 h] lv2 hv2 wr (blk i h s2) := HB0.out i h s2 lv2 hv2 wr hi hC gd2 hh2 hs1 RN
      obtain ⟨r, hr⟩ : ∃ r, blk i h s2 = r := ⟨_, rfl⟩
      rw [hr] at HBx F
      rcases r with ⟨l, s3⟩
      have HG := Lib.hid (fun (hl : l = .nil ∨ l = .cnt) => (loop_go (n := j) hr hl).symm.trans HT.out)
      have HO := Lib.hid (fun (hl : l ≠ .nil) (hl2 : l ≠ .cnt) => (sloop_out (n := j) hr hl hl2).symm.trans HT.out)
      clear HT hr hs1 RN
      go_wp2_with fail
      refine (show Calls _ _ _ _ _ from HBx).mono ?_
      rintro e w3 ⟨rfl, lv3, hv3, RN3, KP3⟩
      have LE := Le.new w3 (.cells #[.int .i64 (edK l), .int .i64 (edW l)] 77)
      have KQ := (KP.trans KP3).trans (Kp.of_le R lv3 hv3 LE)
      have BX3 := (BX2.kp KP3).le LE
      have B2 := Bx.new RN3 (.int .i64 (edK l)) (.int .i64 (edW l)) 77
      have RN := RN3.le LE
      have HH := Lib.hid (And.intro F.gd (F.hd hh2))
      have hjw : IntKind.i64.wrap (((j + 1 : Nat) : Int) - 1) = (j : Int) := by rw [show ((j + 1 : Nat) : Int) - 1 = (j : Int) by omega]; exact IntWalk.i64_in _ (by omega)
      clear HBx KP KP3 F gd2 hh2 LE RN3 BX2
      have y0 := B2.c0
      have y1 := B2.c1
      have b0 := BX3.c0
      have b1 := BX3.c1
      have f0 := BX3.f 0
      have f1 := BX3.f 1
      have HE := Lib.hid (fun (k v : Int) => And.intro (RN.put2 BX3 hz (.int .i64 k) (.int .i64 v)) (KQ.put2 (Nat.le_refl _) (.int .i64 k) (.int .i64 v)))
      have HC := Lib.hid (fun (k v : Int) => BX3.put (.int .i64 k) (.int .i64 v))
      have HN := Lib.hid (And.intro RN (And.intro KQ BX3))
      clear RN KQ BX3 B2
      rcases l with _ | v | f | _ | _
      · have HG2 := Lib.hid (HG.out (.inl rfl))
        clear HO HG
        simp only [edK, edW] at *
        go_wp2
        go_roundw
        case rel => exact ⟨j, s3, lv3, hv3, by go_num, by omega, HG2.out, HH.out.1, HH.out.2, HN.out.1, HN.out.2.1, HN.out.2.2⟩
        case measure => simp [intOf]
      · have HO2 : Hid ((.ret v, s3) = T) := HO.out (by intro h; cases h) (by intro h; cases h)
        clear HO HG
        simp only [edK, edW] at *
        go_wp2
        have z0 := (HC.out 1 v).c0
        have z1 := (HC.out 1 v).c1
        have hl := HO2.out
        subst hl
        exact bodyPost_ret (v := .agg #[.int .i64 1, .int .i64 v]) (by simp [results, Tryz.results94, go_sem, z0, z1]) rfl ⟨rfl, _, _, (HE.out 1 v).1, (HE.out 1 v).2⟩
      · have HO2 : Hid ((.rai f, s3) = T) := HO.out (by intro h; cases h) (by intro h; cases h)
        clear HO HG
        simp only [edK, edW] at *
        go_wp2
        have z0 := (HC.out 2 f).c0
        have z1 := (HC.out 2 f).c1
        have hl := HO2.out
        subst hl
        exact bodyPost_ret (v := .agg #[.int .i64 2, .int .i64 f]) (by simp [results, Tryz.results94, go_sem, z0, z1]) rfl ⟨rfl, _, _, (HE.out 2 f).1, (HE.out 2 f).2⟩
      · have HO2 : Hid ((.nil, s3) = T) := HO.out (by intro h; cases h) (by intro h; cases h)
        clear HO HG
        simp only [edK, edW] at *
        go_wp2
        have z0 := (HC.out 0 0).c0
        have z1 := (HC.out 0 0).c1
        have hl := HO2.out
        subst hl
        exact bodyPost_ret (v := .agg #[.int .i64 0, .int .i64 0]) (by simp [results, Tryz.results94, go_sem, z0, z1]) rfl ⟨rfl, _, _, (HE.out 0 0).1, (HE.out 0 0).2⟩
      · have HG2 := Lib.hid (HG.out (.inr rfl))
        clear HO HG
        simp only [edK, edW] at *
        go_wp2
        go_roundw
        case rel => exact ⟨j, s3, lv3, hv3, by go_num, by omega, HG2.out, HH.out.1, HH.out.2, HN.out.1, HN.out.2.1, HN.out.2.2⟩
        case measure => simp [intOf]
    · obtain rfl : j = 0 := by omega
      have HT2 : Hid ((.nil, s2) = T) := HT.out
      clear HT
      have b0 := BX2.c0
      have b1 := BX2.c1
      have f0 := BX2.f 0
      have f1 := BX2.f 1
      have HE := Lib.hid (fun (k v : Int) => And.intro (RN.put2 BX2 hz (.int .i64 k) (.int .i64 v)) (KP.put2 (Nat.le_refl _) (.int .i64 k) (.int .i64 v)))
      have HC := Lib.hid (fun (k v : Int) => BX2.put (.int .i64 k) (.int .i64 v))
      clear RN KP BX2
      have hl := HT2.out
      subst hl
      go_wp2
      have z0 := (HC.out 0 0).c0
      have z1 := (HC.out 0 0).c1
      exact bodyPost_ret (v := .agg #[.int .i64 0, .int .i64 0]) (by simp [results, Tryz.results94, go_sem, z0, z1]) rfl ⟨rfl, _, _, (HE.out 0 0).1, (HE.out 0 0).2⟩
set_option maxHeartbeats 4000000 in
set_option maxRecDepth 100000 in
theorem sRunFinally_any (R m c n cap q d : Nat) (B A D : Option Addr) (xs : List Cls) (p : List Lin) (blk : Bls) (C : Nat → Prop) (HB : SbOk R m c n cap B A xs p blk C) (E : List Nat) (x : Nat) (hx : x < p.length) (hE : ∃ h : 0 < E.length, E[E.length - 1] = x) (hel : E.length ≤ 25) (hC : knd p x = 10 → C x) (h : Int) (l : Lft) (s : Rst) (gd : Gd xs s.2) (hh : Hd (hdN h l) s) (hsm : knd p x = 10 → Sm (blk x (hdN h l) s).2) (lv hv : Value) (w : World) (hL : Sl w D q d (nI E)) (H : Rn w R B m c xs A n cap p lv hv s.1 s.2) :
    SpOk R m c n cap B A xs p 109 #[.pointer (some ⟨R, 0, none⟩), .slice D q d, .agg #[.int .i64 (edK l), .int .i64 (edW l)], .int .i64 h] lv hv w (if knd p x = 10 then lasN blk x h (l, s) else (l, s)) := by
  have hlen := hL.len
  rw [nI_len] at hlen
  obtain rfl := hlen
  obtain ⟨hE0, hEx⟩ := hE
  have hz := H.z
  obtain rfl := H.T.len
  have L1 := Le.new w (.cells #[.int .i64 (edK l), .int .i64 (edW l)] 77)
  have BE0 := Bx.new H (.int .i64 (edK l)) (.int .i64 (edW l)) 77
  have H1 := H.le L1
  have L2 := Le.new (w.alloc (.cells #[.int .i64 (edK l), .int .i64 (edW l)] 77)) (.cells #[.int .i64 0, .int .i64 0] 77)
  have hsz : (w.alloc (.cells #[.int .i64 (edK l), .int .i64 (edW l)] 77)).heap.size = w.heap.size + 1 := by simp
  have BX := Bx.new H1 (.int .i64 0) (.int .i64 0) 77
  rw [hsz] at BX
  have BE := BE0.le L2
  have RN := H1.le L2
  have KQ := Kp.of_le R lv hv (L1.trans L2)
  have SL := hL.le (L1.trans L2)
  obtain ⟨bE, oE, rfl, hbE, hcE, -⟩ := SL.int_at (k := E.length - 1) (by rw [nI_len]; omega)
  rw [nI_at (show E.length - 1 < E.length by omega), hEx] at hcE
  have c1 := RN.c1
  obtain ⟨b5, off5, rfl, hb5, d0, d1, d2, d3, -⟩ := RN.T.lin_at hx
  have hkx : knd p x = p[x].kind := knd_at hx
  have hx0 : (0 : Int) ≤ (x : Int) := by omega
  have hxn : (x : Int) < (p.length : Int) := by omega
  have hE1 : ((E.length : Int) - 1) = ((E.length - 1 : Nat) : Int) := by omega
  have hEw : IntKind.i64.wrap ((E.length : Int) - 1) = ((E.length - 1 : Nat) : Int) := by rw [hE1]; exact IntWalk.i64_in _ (by omega)
  have hEn : ((E.length - 1 : Nat) : Int) < (E.length : Int) := by omega
  have hEz : (0 : Int) ≤ ((E.length - 1 : Nat) : Int) := by omega
  have e0 := BE.c0
  have e1 := BE.c1
  have b0 := BX.c0
  have b1 := BX.c1
  have f0 := BX.f 0
  have f1 := BX.f 1
  have hg : R < w.heap.size + 1 := by omega
  have HBx : knd p x = 10 → ∀ f w2 lv2 hv2, hdN h l = f → Rn w2 R B m c xs (some ⟨b5, off5, none⟩) p.length cap p lv2 hv2 s.1 s.2 → SpOk R m c p.length cap B (some ⟨b5, off5, none⟩) xs p 108 #[.pointer (some ⟨R, 0, none⟩), .int .i64 x, .int .i64 f] lv2 hv2 w2 (blk x (hdN h l) s) := fun hk f w2 lv2 hv2 e H2 => e ▸ HB x _ s lv2 hv2 w2 hx (hC hk) gd hh (hsm hk) H2
  clear H1 L1 L2 BE0 hsz hL SL hEx
  unfold SpOk
  show Calls _ _ _ _ _
  rw [hkx]
  rw [hkx] at HBx
  generalize p[x].kind = vk at *
  have HF1 : Hid (edK l = 2 → hdN h l = edW l) := by show _ → _; cases l <;> first | (intro e; cases e; done) | (intro _; rfl)
  have HF2 : Hid (edK l ≠ 2 → hdN h l = h) := by show _ → _; cases l <;> first | (intro e; exact absurd rfl e) | (intro _; rfl)
  by_cases hk : vk = 10
  · subst hk
    have HX : Hid ((if (10 : Int) = 10 then lasN blk x h (l, s) else (l, s)) = (orElseL l (blk x (hdN h l) s).1, (blk x (hdN h l) s).2)) := if_pos rfl
    generalize blk x (hdN h l) s = q2 at *
    rcases q2 with ⟨l2, s2⟩
    obtain ⟨Z, hZ⟩ : ∃ Z, (if (10 : Int) = 10 then lasN blk x h (l, s) else (l, s)) = Z := ⟨_, rfl⟩
    have HZ : Z = (orElseL l l2, s2) := hZ.symm.trans HX.out
    rw [hZ, HZ]
    clear hZ HZ HX
    clear hsm hC gd hh HB
    generalize hdN h l = hd at *
    have HK := Lib.hid (show edK (orElseL l l2) = cond (decide (edK l2 = 0)) (edK l) (edK l2) ∧ edW (orElseL l l2) = cond (decide (edK l2 = 0)) (edW l) (edW l2) by cases l2 <;> exact ⟨rfl, rfl⟩)
    generalize orElseL l l2 = lo at *
    generalize edK l = k1 at *
    generalize edW l = w1 at *
    go_enter Tryz.func109, Tryz.ntmps109
    by_cases h2 : k1 = 2
    · have hfe := HF1.out h2
      subst h2
      go_wp2_with fail
      refine (show Calls _ _ _ _ _ from HBx (by trivial) _ _ _ _ hfe RN).mono ?_
      rintro e w3 ⟨rfl, lv3, hv3, RN3, KP3⟩
      simp only at RN3 KP3
      generalize edK l2 = k2 at *
      generalize edW l2 = w2 at *
      have LE := Le.new w3 (.cells #[.int .i64 k2, .int .i64 w2] 77)
      have KR := (KQ.trans KP3).trans (Kp.of_le R lv3 hv3 LE)
      have BX3 := (BX.kp KP3).le LE
      have BE3 := (BE.kp KP3).le LE
      have B2 := Bx.new RN3 (.int .i64 k2) (.int .i64 w2) 77
      have RN4 := RN3.le LE
      have y0 := B2.c0
      have y1 := B2.c1
      have x0 := BE3.c0
      have x1 := BE3.c1
      have u0 := BX3.c0
      have u1 := BX3.c1
      have v0 := BX3.f 0
      have v1 := BX3.f 1
      have HE := Lib.hid (fun (k v : Int) => And.intro (RN4.put2 BX3 hg (.int .i64 k) (.int .i64 v)) (KR.put2 (g := w.heap.size + 1) (by omega) (.int .i64 k) (.int .i64 v)))
      have HC := Lib.hid (fun (k v : Int) => BX3.put (.int .i64 k) (.int .i64 v))
      clear KR BX3 BE3 B2 RN4 RN3 KP3 LE KQ BX BE RN HBx e0 e1 b0 b1 f0 f1 c1 d0 d1 d2 d3 hcE
      by_cases h0 : k2 = 0
      · have h0b : decide (k2 = 0) = true := decide_eq_true h0
        rw [h0b] at HK
        have HA := HK.out.1
        have HB := HK.out.2
        clear HK
        subst h0
        go_wp2
        have z0 := (HC.out 2 w1).c0
        have z1 := (HC.out 2 w1).c1
        exact bodyPost_ret (v := .agg #[.int .i64 2, .int .i64 w1]) (by simp [results, Tryz.results109, go_sem, z0, z1]) rfl ⟨ret2 HA.symm HB.symm, _, _, (HE.out 2 w1).1, (HE.out 2 w1).2⟩
      · have h0b : decide (k2 = 0) = false := decide_eq_false h0
        have h0c : (k2 != 0) = true := by simpa using h0
        rw [h0b] at HK
        have HA := HK.out.1
        have HB := HK.out.2
        clear HK
        go_wp2
        have z0 := (HC.out k2 w2).c0
        have z1 := (HC.out k2 w2).c1
        exact bodyPost_ret (v := .agg #[.int .i64 k2, .int .i64 w2]) (by simp [results, Tryz.results109, go_sem, z0, z1]) rfl ⟨ret2 HA.symm HB.symm, _, _, (HE.out k2 w2).1, (HE.out k2 w2).2⟩
    · have hfe := HF2.out h2
      have h2b : decide (k1 = 2) = false := decide_eq_false h2
      go_wp2_with fail
      refine (show Calls _ _ _ _ _ from HBx (by trivial) _ _ _ _ hfe RN).mono ?_
      rintro e w3 ⟨rfl, lv3, hv3, RN3, KP3⟩
      simp only at RN3 KP3
      generalize edK l2 = k2 at *
      generalize edW l2 = w2 at *
      have LE := Le.new w3 (.cells #[.int .i64 k2, .int .i64 w2] 77)
      have KR := (KQ.trans KP3).trans (Kp.of_le R lv3 hv3 LE)
      have BX3 := (BX.kp KP3).le LE
      have BE3 := (BE.kp KP3).le LE
      have B2 := Bx.new RN3 (.int .i64 k2) (.int .i64 w2) 77
      have RN4 := RN3.le LE
      have y0 := B2.c0
      have y1 := B2.c1
      have x0 := BE3.c0
      have x1 := BE3.c1
      have u0 := BX3.c0
      have u1 := BX3.c1
      have v0 := BX3.f 0
      have v1 := BX3.f 1
      have HE := Lib.hid (fun (k v : Int) => And.intro (RN4.put2 BX3 hg (.int .i64 k) (.int .i64 v)) (KR.put2 (g := w.heap.size + 1) (by omega) (.int .i64 k) (.int .i64 v)))
      have HC := Lib.hid (fun (k v : Int) => BX3.put (.int .i64 k) (.int .i64 v))
      clear KR BX3 BE3 B2 RN4 RN3 KP3 LE KQ BX BE RN HBx e0 e1 b0 b1 f0 f1 c1 d0 d1 d2 d3 hcE
      by_cases h0 : k2 = 0
      · have h0b : decide (k2 = 0) = true := decide_eq_true h0
        rw [h0b] at HK
        have HA := HK.out.1
        have HB := HK.out.2
        clear HK
        subst h0
        go_wp2
        have z0 := (HC.out k1 w1).c0
        have z1 := (HC.out k1 w1).c1
        exact bodyPost_ret (v := .agg #[.int .i64 k1, .int .i64 w1]) (by simp [results, Tryz.results109, go_sem, z0, z1]) rfl ⟨ret2 HA.symm HB.symm, _, _, (HE.out k1 w1).1, (HE.out k1 w1).2⟩
      · have h0b : decide (k2 = 0) = false := decide_eq_false h0
        have h0c : (k2 != 0) = true := by simpa using h0
        rw [h0b] at HK
        have HA := HK.out.1
        have HB := HK.out.2
        clear HK
        go_wp2
        have z0 := (HC.out k2 w2).c0
        have z1 := (HC.out k2 w2).c1
        exact bodyPost_ret (v := .agg #[.int .i64 k2, .int .i64 w2]) (by simp [results, Tryz.results109, go_sem, z0, z1]) rfl ⟨ret2 HA.symm HB.symm, _, _, (HE.out k2 w2).1, (HE.out k2 w2).2⟩
  · have HX : (if vk = 10 then lasN blk x h (l, s) else (l, s)) = (l, s) := if_neg hk
    rw [HX]
    clear HX
    have hkb : (vk != 10) = true := by simpa using hk
    have hkc : decide (vk = 10) = false := decide_eq_false hk
    clear HBx HF1 HF2 RN KQ BX BE hsm hC gd hh HB
    generalize edK l = k1 at *
    generalize edW l = w1 at *
    have LL := (Le.new w (.cells #[.int .i64 k1, .int .i64 w1] 77)).trans (Le.new (w.alloc (.cells #[.int .i64 k1, .int .i64 w1] 77)) (.cells #[.int .i64 k1, .int .i64 w1] 77))
    go_enter Tryz.func109, Tryz.ntmps109
    go_wp2
    exact bodyPost_ret (v := .agg #[.int .i64 k1, .int .i64 w1]) (by simp [results, Tryz.results109, go_sem]) rfl ⟨rfl, _, _, H.le LL, Kp.of_le R lv hv LL⟩
end

section
theorem exF_one {p : List Lin} {E : List Nat} (h : 0 < E.length) (hk : knd p E[0] ≠ 8) : exF p E = exF p (E.drop 1) := by
  have := ex_drop (p := p) (C := E) (k := 0) h
  rw [List.drop_zero, if_neg hk] at this
  exact this
set_option maxHeartbeats 4000000 in
set_option maxRecDepth 100000 in
theorem caught_any (R m c n cap q d : Nat) (B A D : Option Addr) (xs : List Cls) (p : List Lin) (lv hv : Value) (s : Rst) (i : Nat) (f : Int) (g : GoodP xs p) (hi : i < p.length) (h7 : knd p i = 7) (gd : Gd xs s.2) (h0 : 0 ≤ f) (h1 : f < (s.2.length : Int)) (w : World) (hL : Sl w D q d (nI (parts p i))) (H : Rn w R B m c xs A n cap p lv hv s.1 s.2) :
    Calls Tryz.prog 110 #[.pointer (some ⟨R, 0, none⟩), .slice D q d, .int .i64 f] w fun e w' => e = .returned (.int .i64 (ctE xs p (clsF s f) (exL p i))) ∧ Le w w' := by
  obtain ⟨f, rfl⟩ := Int.eq_ofNat_of_zero_le h0
  have hf : f < s.2.length := by omega
  have hcl : clsF s f = s.2[f].cls := by unfold clsF; rw [show (f : Int).toNat = f by omega, List.getElem?_eq_getElem hf]
  have hk := hasK_iff.1 (gd f hf).1
  have hp := g.len
  have GT := Lib.hid (good_of g.tree)
  obtain rfl := H.T.len
  have hlen := hL.len
  rw [nI_len] at hlen
  obtain rfl := hlen
  have hpl := parts_len p i
  have hE0 : 0 < (parts p i).length := parts_posF p i
  have hHd : exL p i = exF p ((parts p i).drop 1) := exF_one hE0 (by show knd p i ≠ 8; rw [h7]; decide)
  have HX : Hid (∀ z, ctE xs p s.2[f].cls (exF p ((parts p i).drop 1)) = z → ctE xs p (clsF s f) (exL p (id i)) = z) := fun z hz => by rw [hcl]; show ctE xs p s.2[f].cls (exL p i) = z; rw [hHd]; exact hz
  have HLT := Lib.hid (parts_lt hi)
  clear hHd hcl
  obtain ⟨AH, cH, rfl⟩ := own_form H.H
  generalize parts p i = E at *
  obtain ⟨fc, hfc⟩ : ∃ z, s.2[f].cls = z := ⟨_, rfl⟩
  rw [hfc] at HX hk
  have HFC := Lib.hid hfc
  clear hfc
  go_enter Tryz.func110, Tryz.ntmps110
  go_wp2
  go_loopw [7] (fun u wr => ∃ k : Nat, 1 ≤ k ∧ k ≤ E.length ∧ u = .int .i64 k ∧ ctE xs p fc (exF p (E.drop 1)) = ctE xs p fc (exF p (E.drop k)) ∧ Le w wr) (fun u _ => E.length - (intOf u).toNat)
  case atStart => exact ⟨1, Nat.le_refl _, by omega, rfl, rfl, Le.refl _⟩
  case round =>
    obtain ⟨k, hk1, hkE, rfl, hr, hle⟩ := hrel
    have HR := Lib.hid hr
    clear hr
    have RN := H.le hle
    have SL := hL.le hle
    clear H hL
    by_cases hlk : k < E.length
    · obtain ⟨b5, off5, rfl, hb5, c5, -⟩ := SL.int_at (k := k) (by rw [nI_len]; exact hlk)
      rw [nI_at hlk] at c5
      have hx := HLT.out E[k] (List.getElem_mem hlk)
      have HD := Lib.hid (ex_drop (p := p) hlk)
      generalize E[k] = x at *
      have r1 := RN.c1
      have r0 := RN.c0
      have r3 := RN.c3
      have zR := RN.z
      obtain ⟨b2, off2, rfl, hb2, d0, d1, d2, d3, -⟩ := RN.T.lin_at hx
      have SH := Sl.of_own RN.H rfl (by decide) RN.okh
      obtain ⟨b7, off7, rfl, hb7, c7, -⟩ := SH.flt_at hf
      rw [HFC.out] at c7
      have HK := Lib.hid (knd_at hx)
      have HLA := Lib.hid (lnA_at hx)
      have hx0 : (0 : Int) ≤ (x : Int) := by omega
      have hxn : (x : Int) < (p.length : Int) := by omega
      have hk0 : (0 : Int) ≤ (k : Int) := by omega
      have hkn : (k : Int) < (E.length : Int) := by omega
      have hf0 : (0 : Int) ≤ (f : Int) := by omega
      have hfn : (f : Int) < (s.2.length : Int) := by omega
      have T := RN.S
      clear RN SL SH
      generalize p[x].depth = vd at *
      generalize p[x].kind = vk at *
      generalize p[x].a = va at *
      generalize p[x].b = vb at *
      have DL := (Le.refl wr).drew
      go_wp2_with fail
      refine wp_region_noPanic ?_
      refine wp_region_Z (fun w' => w'.cell? ⟨R, 1, none⟩ = some (.slice (some ⟨b2, off2, none⟩) p.length cap) ∧ w'.cell? ⟨b5, off5 + k, none⟩ = some (.int .i64 x) ∧ w'.cell? ⟨b2, off2 + x * 4, none⟩ = some (.int .i64 vd) ∧ w'.cell? ⟨b2, off2 + x * 4 + 1, none⟩ = some (.int .i64 vk) ∧ w'.cell? ⟨b2, off2 + x * 4 + 2, none⟩ = some (.int .i64 va) ∧ w'.cell? ⟨b2, off2 + x * 4 + 3, none⟩ = some (.int .i64 vb)) [] (by kernel_rfl) ?_
      replace r1 := (DL.cell zR).trans r1
      replace r0 := (DL.cell zR).trans r0
      replace r3 := (DL.cell zR).trans r3
      replace c5 := (DL.cell hb5).trans c5
      replace d0 := (DL.cell hb2).trans d0
      replace d1 := (DL.cell hb2).trans d1
      replace d2 := (DL.cell hb2).trans d2
      replace d3 := (DL.cell hb2).trans d3
      replace c7 := (DL.cell hb7).trans c7
      replace T := T.le DL
      replace hle := hle.trans DL
      replace zR := Nat.lt_of_lt_of_le zR DL.size
      replace hb5 := Nat.lt_of_lt_of_le hb5 DL.size
      replace hb2 := Nat.lt_of_lt_of_le hb2 DL.size
      replace hb7 := Nat.lt_of_lt_of_le hb7 DL.size
      clear DL
      generalize wr.drew = V at *
      refine wpAnyZ_take (i := 0) (v := ?_) rfl (by kernel_rfl) (fun _ _ _ h => h) (Or.inl ⟨by rfl, ?_⟩) (⟨r1, c5, d0, d1, d2, d3⟩) ?_
      rotate_left 1
      · (intro w hSw; (try dsimp only at hSw); go_simp; try with_reducible rfl)
      try simp only [Act.put, List.setIfInBounds_toArray, List.set_cons_zero, List.set_cons_succ]
      refine wpAnyZ_take (i := 1) (v := ?_) rfl (by kernel_rfl) (fun _ _ _ h => h) (Or.inl ⟨by rfl, ?_⟩) (⟨r1, c5, d0, d1, d2, d3⟩) ?_
      rotate_left 1
      · (intro w hSw; (try dsimp only at hSw); go_simp; try with_reducible rfl)
      try simp only [Act.put, List.setIfInBounds_toArray, List.set_cons_zero, List.set_cons_succ]
      refine wpAnyZ_take (i := 2) (v := ?_) rfl (by kernel_rfl) (fun _ _ _ h => h) (Or.inl ⟨by rfl, ?_⟩) (⟨r1, c5, d0, d1, d2, d3⟩) ?_
      rotate_left 1
      · (intro w hSw; (try dsimp only at hSw); go_simp; try with_reducible rfl)
      try simp only [Act.put, List.setIfInBounds_toArray, List.set_cons_zero, List.set_cons_succ]
      refine wpAnyZ_take (i := 3) (v := ?_) rfl (by kernel_rfl) (fun _ _ _ h => h) (Or.inl ⟨by rfl, ?_⟩) (⟨r1, c5, d0, d1, d2, d3⟩) ?_
      rotate_left 1
      · (intro w hSw; (try dsimp only at hSw); go_simp; try with_reducible rfl)
      try simp only [Act.put, List.setIfInBounds_toArray, List.set_cons_zero, List.set_cons_succ]
      refine wpAnyZ_take (i := 4) (v := ?_) rfl (by kernel_rfl) (fun _ _ _ h => h) (Or.inl ⟨by rfl, ?_⟩) (⟨r1, c5, d0, d1, d2, d3⟩) ?_
      rotate_left 1
      · (intro w hSw; (try dsimp only at hSw); go_simp; try with_reducible rfl)
      try simp only [Act.put, List.setIfInBounds_toArray, List.set_cons_zero, List.set_cons_succ]
      refine wpAnyZ_take (i := 5) (v := ?_) rfl (by kernel_rfl) (fun _ _ _ h => h) (Or.inl ⟨by rfl, ?_⟩) (⟨r1, c5, d0, d1, d2, d3⟩) ?_
      rotate_left 1
      · (intro w hSw; (try dsimp only at hSw); go_simp; try with_reducible rfl)
      try simp only [Act.put, List.setIfInBounds_toArray, List.set_cons_zero, List.set_cons_succ]
      refine wpAnyZ_take (i := 6) (v := ?_) rfl (by kernel_rfl) (fun _ _ _ h => h) (Or.inl ⟨by rfl, ?_⟩) (⟨r1, c5, d0, d1, d2, d3⟩) ?_
      rotate_left 1
      · (intro w hSw; (try dsimp only at hSw); go_simp; try with_reducible rfl)
      try simp only [Act.put, List.setIfInBounds_toArray, List.set_cons_zero, List.set_cons_succ]
      refine wpAnyZ_take (i := 7) (v := ?_) rfl (by kernel_rfl) (fun _ _ _ h => h) (Or.inl ⟨by rfl, ?_⟩) (⟨r1, c5, d0, d1, d2, d3⟩) ?_
      rotate_left 1
      · (intro w hSw; (try dsimp only at hSw); go_simp; try with_reducible rfl)
      try simp only [Act.put, List.setIfInBounds_toArray, List.set_cons_zero, List.set_cons_succ]
      refine wpAnyZ_take (i := 8) (v := ?_) rfl (by kernel_rfl) (fun _ _ _ h => h) (Or.inl ⟨by rfl, ?_⟩) (⟨r1, c5, d0, d1, d2, d3⟩) ?_
      rotate_left 1
      · (intro w hSw; (try dsimp only at hSw); go_simp; try with_reducible rfl)
      try simp only [Act.put, List.setIfInBounds_toArray, List.set_cons_zero, List.set_cons_succ]
      refine wpAnyZ_take (i := 9) (v := ?_) rfl (by kernel_rfl) (fun _ _ _ h => h) (Or.inl ⟨by rfl, ?_⟩) (⟨r1, c5, d0, d1, d2, d3⟩) ?_
      rotate_left 1
      · (intro w hSw; (try dsimp only at hSw); go_simp; try with_reducible rfl)
      try simp only [Act.put, List.setIfInBounds_toArray, List.set_cons_zero, List.set_cons_succ]
      refine wpAnyZ_one (i := 10) (by kernel_rfl) (ReadyZ.mk rfl (fun K hK => ?_))
      go_simp
      have LZ := Le.new V (.cells #[.int .i64 0, .int .i64 0, .int .i64 0, .int .i64 0] 55)
      refine hK.out _ _ (fun _ => ⟨(LZ.cell zR).trans r1, (LZ.cell hb5).trans c5, (LZ.cell hb2).trans d0, (LZ.cell hb2).trans d1, (LZ.cell hb2).trans d2, (LZ.cell hb2).trans d3⟩) ?_
      clear hK K
      try simp only [Act.put, List.setIfInBounds_toArray, List.set_cons_zero, List.set_cons_succ]
      clear LZ
      refine wpAnyZ_one (i := 11) (by kernel_rfl) (ReadyZ.mk rfl (fun K hK => ?_))
      go_simp
      have LY := Le.new V (.cells #[.int .i64 vd, .int .i64 vk, .int .i64 va, .int .i64 vb] 55)
      refine hK.out _ _ (fun _ => ⟨(LY.cell zR).trans r1, (LY.cell hb5).trans c5, (LY.cell hb2).trans d0, (LY.cell hb2).trans d1, (LY.cell hb2).trans d2, (LY.cell hb2).trans d3⟩) ?_
      clear hK K
      try simp only [Act.put, List.setIfInBounds_toArray, List.set_cons_zero, List.set_cons_succ]
      clear LY
      refine wpAnyZ_done (by kernel_rfl) ?_ _
      refine NoPanic.normal ?_
      have LN := Le.new V (.cells #[.int .i64 vd, .int .i64 vk, .int .i64 va, .int .i64 vb] 55)
      have zx : V.heap.size < (V.alloc (.cells #[.int .i64 vd, .int .i64 vk, .int .i64 va, .int .i64 vb] 55)).heap.size := by simp
      have x1 : (V.alloc (.cells #[.int .i64 vd, .int .i64 vk, .int .i64 va, .int .i64 vb] 55)).cell? ⟨V.heap.size, 1, none⟩ = some (.int .i64 vk) := by rw [World.cell?_alloc_at _ _ _ _ rfl]; rfl
      have x2 : (V.alloc (.cells #[.int .i64 vd, .int .i64 vk, .int .i64 va, .int .i64 vb] 55)).cell? ⟨V.heap.size, 2, none⟩ = some (.int .i64 va) := by rw [World.cell?_alloc_at _ _ _ _ rfl]; rfl
      replace r0 := (LN.cell zR).trans r0
      replace r3 := (LN.cell zR).trans r3
      replace c5 := (LN.cell hb5).trans c5
      replace c7 := (LN.cell hb7).trans c7
      replace T := T.le LN
      replace hle := hle.trans LN
      replace zR := Nat.lt_of_lt_of_le zR LN.size
      replace hb5 := Nat.lt_of_lt_of_le hb5 LN.size
      replace hb7 := Nat.lt_of_lt_of_le hb7 LN.size
      clear LN d0 d1 d2 d3 r1 hb2
      generalize V.alloc (.cells #[.int .i64 vd, .int .i64 vk, .int .i64 va, .int .i64 vb] 55) = W0 at *
      have e0 := cell_ext zR r0
      have e3 := cell_ext zR r3
      have e7 := cell_ext hb7 c7
      have ex1 := cell_ext zx x1
      have ex2 := cell_ext zx x2
      have HC := Lib.hid c5
      clear r0 r3 c7 x1 x2 c5
      by_cases h8 : vk = 8
      · subst h8
        have hca : ∀ (gg : Ext W0) (_ : True), Calls Tryz.prog 113 #[.agg #[.slice B m c], .int .i64 fc, .int .i64 va] (W0.ext gg) fun e w' => e = .returned (.bool (isAL xs fc va)) ∧ Le (W0.ext gg) w' := fun gg _ => isA_any B m c xs fc va _ (T.le (Le.ext W0 gg)) GT.out (by omega) (by omega)
        have HZ : Hid (ctE xs p fc (exF p (E.drop k)) = if isAL xs fc va = true then (x : Int) else ctE xs p fc (exF p (E.drop (k + 1)))) := by show _ = _; rw [HD.out, if_pos HK.out]; show (if isAL xs fc (lnA p x) = true then _ else _) = _; rw [HLA.out]
        clear HD
        generalize isAL xs fc va = qb at *
        go_wp2_with fail
        cases qb
        · have HF : Hid (ctE xs p fc (exF p (E.drop 1)) = ctE xs p fc (exF p (E.drop (k + 1)))) := by show _ = _; rw [HR.out, HZ.out, if_neg (by simp)]
          refine wp_region_ext (by kernel_rfl) (by kernel_rfl) ?_
          repeat (go_big_quiet_step (first | (go_at_call 113; exact Calls.ext_of (hca _ trivial))))
          refine wpQuiet_nil ?_
          intro _ hw'
          obtain ⟨gg, rfl⟩ := hw'
          have hw1 := Le.ext W0 gg
          generalize W0.ext gg = W2 at *
          go_wp2
          go_roundw
          case rel => exact ⟨k + 1, by omega, by omega, by go_num, HF.out, hle.trans hw1⟩
          case measure => simp [intOf]; omega
        · have HF := Lib.hid (HX.out _ (HR.out.trans (HZ.out.trans (if_pos rfl))))
          refine wp_region_ext (by kernel_rfl) (by kernel_rfl) ?_
          repeat (go_big_quiet_step (first | (go_at_call 113; exact Calls.ext_of (hca _ trivial))))
          refine wpQuiet_nil ?_
          intro _ hw'
          obtain ⟨gg, rfl⟩ := hw'
          have hw1 := Le.ext W0 gg
          have c5b := (hw1.cell hb5).trans HC.out
          generalize W0.ext gg = W2 at *
          go_wp2
          go_ret
          exact ⟨ret_int HF.out.symm, hle.trans hw1⟩
      · have h8b : (vk == 8) = false := by simpa using h8
        have h8c : decide (vk = 8) = false := decide_eq_false h8
        have HF : Hid (ctE xs p fc (exF p (E.drop 1)) = ctE xs p fc (exF p (E.drop (k + 1)))) := by show _ = _; rw [HR.out, HD.out, if_neg (by rw [HK.out]; exact h8)]
        clear HD
        go_wp2_with fail
        refine wp_region_ext (by kernel_rfl) (by kernel_rfl) ?_
        repeat (go_big_quiet_step (fail))
        refine wpQuiet_nil ?_
        intro _ hw'
        obtain ⟨gg, rfl⟩ := hw'
        have hw1 := Le.ext W0 gg
        generalize W0.ext gg = W2 at *
        go_wp2
        go_roundw
        case rel => exact ⟨k + 1, by omega, by omega, by go_num, HF.out, hle.trans hw1⟩
        case measure => simp [intOf]; omega
    · have HF := Lib.hid (HX.out _ (HR.out.trans (by rw [List.drop_eq_nil_of_le (by omega)]; rfl : ctE xs p fc (exF p (E.drop k)) = -1)))
      go_wp2
      go_ret
      exact ⟨ret_int HF.out.symm, hle⟩
end
end Go.Proofs.YtdbmolhdgmopoaaGreat
