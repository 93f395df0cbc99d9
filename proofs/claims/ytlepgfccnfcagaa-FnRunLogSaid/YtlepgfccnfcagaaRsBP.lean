/- programs: the model's run: its boxes, raise, again, runBody -/
import Derived.Test.YtlepgfccnfcagaaRsAP
import Derived.Test.YtlepgfccnfcagaaWp6
import Derived.Test.YtlepgfccnfcagaaWp7
import Derived.Test.YtlepgfccnfcagaaWp8
namespace Go.Proofs.Ytlepgfccnfcagaa
open Go.RowKit
def edK : Lft → Int
  | .nil => 0
  | .ret _ => 1
  | .rai _ => 2
  | .brk => 3
  | .cnt => 4
def edW : Lft → Int
  | .ret v => v
  | .rai f => f
  | _ => 0
/-- a call of the model's run does what is said of it -/
def SpOk (R m c n cap : Nat) (B A : Option Addr) (xs : List Cls) (p : List Lin) (f : FuncId) (args : Array Value) (lv hv : Value) (w : World) (r : Lft × Rst) : Prop :=
  Calls Try.prog f args w fun e w' => e = .returned (.agg #[.int .i64 (edK r.1), .int .i64 (edW r.1)]) ∧ ∃ lv' hv', Rn w' R B m c xs A n cap p lv' hv' r.2.1 r.2.2 ∧ Kp R lv hv lv' hv' w w'
/-- a box of two cells that a call keeps -/
structure Bx (W : World) (R g : Nat) (lv hv a b : Value) : Prop where
  z : g < W.heap.size
  ne : g ≠ R
  l : lv.ownBlock ≠ some g
  h : hv.ownBlock ≠ some g
  c0 : W.cell? ⟨g, 0, none⟩ = some a
  c1 : W.cell? ⟨g, 1, none⟩ = some b
  f : ∀ k, W.frozen? ⟨g, k, none⟩ = false
theorem frzB (w : World) (b o g k : Nat) (u : Value) : (w.setCell ⟨b, o, none⟩ u).frozen? ⟨g, k, none⟩ = w.frozen? ⟨g, k, none⟩ := by first | exact World.frozen?_setCell .. | simp [World.frozen?, World.setCell]
section
variable {w w' W W' : World} {R g m c n cap : Nat} {B A : Option Addr} {xs : List Cls} {p : List Lin} {lv hv lv' hv' lv0 hv0 v a b : Value} {lg : List Int} {hs hs2 : List Flt}
theorem Bx.kp (h : Bx W R g lv hv a b) (k : Kp R lv hv lv' hv' W W') : Bx W' R g lv' hv' a b :=
  ⟨Nat.lt_of_lt_of_le h.z k.size, h.ne, k.ownL h.z h.l, k.ownH h.z h.h, k.cell h.z h.ne h.l h.h h.c0, k.cell h.z h.ne h.l h.h h.c1, fun j => k.frozen h.z h.ne h.l h.h (h.f j)⟩
theorem Bx.le (h : Bx W R g lv hv a b) (L : Le W W') : Bx W' R g lv hv a b := h.kp (Kp.of_le R lv hv L)
theorem Bx.new (RN : Rn W R B m c xs A n cap p lv hv lg hs) (a b : Value) (T : TypeId) : Bx (W.alloc (.cells #[a, b] T)) R W.heap.size lv hv a b := by
  have z := RN.z
  refine ⟨by simp, by omega, fun e => by have := (RN.O.lt _ e).2; omega, fun e => by have := (RN.H.lt _ e).2; omega, ?_, ?_, fun k => World.frozen?_alloc_at _ _ _ _ rfl⟩
  · rw [World.cell?_alloc_at _ _ _ _ rfl]; rfl
  · rw [World.cell?_alloc_at _ _ _ _ rfl]; rfl
theorem Bx.set (h : Bx W R g lv hv a b) {g2 o : Nat} (hn : g2 ≠ g) (u : Value) : Bx (W.setCell ⟨g2, o, none⟩ u) R g lv hv a b :=
  ⟨by have := h.z; simp [World.setCell]; exact this, h.ne, h.l, h.h, (cell_set_other (.inl hn)).trans h.c0, (cell_set_other (.inl hn)).trans h.c1, fun k => (frzB _ _ _ _ _ _).trans (h.f k)⟩
theorem Bx.own (h : Bx W R g lv hv a b) (hl : lv'.ownBlock ≠ some g) (hh : hv'.ownBlock ≠ some g) : Bx W R g lv' hv' a b := ⟨h.z, h.ne, hl, hh, h.c0, h.c1, h.f⟩
/-- two values are stored into the box -/
theorem Bx.put (h : Bx W R g lv hv a b) (u v : Value) : Bx ((W.setCell ⟨g, 0, none⟩ u).setCell ⟨g, 1, none⟩ v) R g lv hv u v := by
  refine ⟨by have := h.z; simp [World.setCell]; exact this, h.ne, h.l, h.h, ?_, ?_, fun k => (frzB _ _ _ _ _ _).trans ((frzB _ _ _ _ _ _).trans (h.f k))⟩
  · exact (cell_set_other (.inr (by decide))).trans (cell_set_same h.c0)
  · exact cell_set_same ((cell_set_other (.inr (by decide))).trans h.c1)
theorem Rn.put2 (h : Rn W R B m c xs A n cap p lv hv lg hs) (hb : Bx W R g lv hv a b) (hg : R < g) (u v : Value) : Rn ((W.setCell ⟨g, 0, none⟩ u).setCell ⟨g, 1, none⟩ v) R B m c xs A n cap p lv hv lg hs :=
  (h.box hg hb.l hb.h u).box hg hb.l hb.h v
theorem Kp.put2 (h : Kp R lv0 hv0 lv hv w W) (hg : w.heap.size ≤ g) (u v : Value) : Kp R lv0 hv0 lv hv w ((W.setCell ⟨g, 0, none⟩ u).setCell ⟨g, 1, none⟩ v) := (h.box hg u).box hg v
/-- new faults take the place of the old ones -/
theorem Rn.put3 (h : Rn w R B m c xs A n cap p lv hv lg hs) (L : Le w W) (D : Owd 74 w W v hs2) :
    Rn (W.setCell ⟨R, 3, none⟩ v) R B m c xs A n cap p lv v lg hs2 ∧ Kp R lv hv lv v w (W.setCell ⟨R, 3, none⟩ v) := by
  have hA := h.le L
  have hzz : (W.setCell ⟨R, 3, none⟩ v).heap.size = W.heap.size := by simp [World.setCell]
  have gs := grown_set W R 3 v
  have hz := h.z
  have hvR : v.ownBlock = none ∨ v.ownBlock ≠ some R := by
    cases e : v.ownBlock with
    | none => exact .inl rfl
    | some k => exact .inr fun e2 => by injection e2 with e2; have := (D.row.lt k e).1; omega
  have hvR2 : v.ownBlock ≠ some R := fun e => by have := (D.row.lt _ e).1; omega
  refine ⟨⟨by rw [hzz]; exact hA.z, ?_, ?_, ?_, ?_, ?_, ?_, ?_, ?_, h.hB, h.hA, ?_, ?_, fun k e e2 => ?_, h.okl, D.ok, h.nl, hvR2⟩, ?_⟩
  · rw [cell_set_other (.inr (by decide))]; exact hA.c0
  · rw [cell_set_other (.inr (by decide))]; exact hA.c1
  · rw [cell_set_other (.inr (by decide))]; exact hA.c2
  · exact cell_set_same hA.c3
  · rw [frzB]; exact hA.f2
  · rw [frzB]; exact hA.f3
  · exact hA.S.grown gs (fun hn a e e2 => by have := h.hB hn a e; have e3 : a.block = R := (by injection e2); omega)
  · exact hA.T.grown gs (fun hn a e e2 => by have := h.hA hn a e; have e3 : a.block = R := (by injection e2); omega)
  · exact hA.O.kept gs (by cases e : lv.ownBlock with | none => exact .inl rfl | some k => exact .inr (fun e2 => by injection e2 with e2; exact h.lneR (by rw [e, e2])))
  · exact own_mono (D.row.kept gs hvR) (by omega)
  · have h1 := (h.O.lt k e).2
    have h2 := (D.row.lt k e2).1
    omega
  · refine ⟨gs.os.trans L.os, gs.tape.trans L.tape, gs.output.trans L.output, by rw [hzz]; exact L.size, fun b hb hR hl hh => ?_, .inl rfl, .inr fun k e => (D.row.lt k e).1⟩
    exact (gs.block b (Nat.lt_of_lt_of_le hb L.size) (fun e => hR (by injection e))).trans (L.block b hb)
end
theorem rsRet2 {a b c d : Int} (h : a = c) (h2 : b = d) : Ending.returned (.agg #[.int .i64 a, .int .i64 b]) = .returned (.agg #[.int .i64 c, .int .i64 d]) := by rw [h, h2]
theorem raisR_last (hs : List Flt) (cl k h : Int) (h0 : -1 ≤ h) : raisR (hs ++ [mkF cl k]) hs.length h = hs ++ [⟨cl, k, -1, h, false⟩] := by
  by_cases hn : h < 0
  · rw [raisR_no hn, show h = -1 by omega]; rfl
  · rw [raisR_at hn (by rw [List.length_append]; simp)]
    simp [mkF]
set_option maxHeartbeats 2000000 in
set_option maxRecDepth 100000 in
theorem sRaise_any (R m c n cap : Nat) (B A : Option Addr) (xs : List Cls) (p : List Lin) (lv hv : Value) (s : Rst) (cl k h : Int) (hcl : -9223372036854775808 ≤ cl ∧ cl ≤ 9223372036854775807) (hk : -9223372036854775808 ≤ k ∧ k ≤ 9223372036854775807) (gd : Gd xs s.2) (hh : Hd h s) (hl : s.2.length ≤ 1000000) (w : World) (H : Rn w R B m c xs A n cap p lv hv s.1 s.2) :
    SpOk R m c n cap B A xs p 114 #[.pointer (some ⟨R, 0, none⟩), .int .i64 cl, .int .i64 k, .int .i64 h] lv hv w (rsN cl k h s) := by
  have hz := H.z
  have hh0 := hh.1
  have hh1 := hh.2
  have L1 := Le.new w (.cells #[.int .i64 0, .int .i64 0] 94)
  have H1 := H.le L1
  have BX := Bx.new H (.int .i64 0) (.int .i64 0) 94
  have K1 := Kp.of_le R lv hv L1
  obtain ⟨AH, cH, rfl⟩ := own_form H.H
  have c3 := H1.c3
  have f3 := H1.f3
  have SH := Sl.of_own H1.H rfl (by decide) H1.okh
  unfold SpOk
  go_enter Try.func114, Try.ntmps114
  go_wp2_with fail
  generalize w.alloc (.cells #[.int .i64 0, .int .i64 0] 94) = W at *
  refine (added_any AH s.2.length cH s.2 cl k W SH (by omega) hcl hk).mono ?_
  rintro e w2 ⟨v2, rfl, D2, hl2⟩
  have P := H1.put3 hl2 D2
  have BX2 := (BX.le hl2)
  have BX3 := (BX2.set (o := 3) (show R ≠ w.heap.size by omega) v2).own (lv' := lv) (hv' := v2) BX2.l (fun e => by have h1 := (D2.row.lt _ e).1; have h2 := BX.z; omega)
  have c3b := (hl2.cell H1.z).trans c3
  have f3b := (hl2.frozen H1.z).trans f3
  obtain ⟨A2, q2, rfl⟩ := own_form D2.row
  have hlen : (s.2 ++ [mkF cl k]).length = s.2.length + 1 := by rw [List.length_append]; rfl
  rw [hlen] at P BX3
  have c3d := P.1.c3
  have f3d := P.1.f3
  have hOH := P.1.H
  rw [hlen] at hOH
  have SHd := Sl.of_own hOH rfl (by decide) P.1.okh
  have K3 := K1.trans P.2
  have HP := Lib.hid P.1
  have hsz : w.heap.size ≤ w.heap.size := Nat.le_refl _
  clear P c3 f3 BX BX2 hl2 D2 SH H1 K1 L1 hOH
  go_wp2_with fail
  generalize w2.setCell ⟨R, 3, none⟩ (.slice A2 (s.2.length + 1) q2) = W3 at *
  refine (raisedR_any A2 (s.2.length + 1) q2 (s.2 ++ [mkF cl k]) s.2.length h W3 SHd (by omega) (by omega) ?_ (by omega) hh0 hh1).mono ?_
  · intro i hi
    rcases Nat.lt_or_ge i s.2.length with h2 | h2
    · rw [List.getElem_append_left h2]; have := gd i h2; omega
    · have e : i = s.2.length := by omega
      subst e
      rw [List.getElem_append_right (Nat.le_refl _)]
      simp [mkF]
      omega
  rintro e w4 ⟨v4, rfl, D4, hl4⟩
  rw [raisR_last _ _ _ _ hh0] at D4
  have P := HP.out.put3 hl4 D4
  have BX4 := BX3.le hl4
  have BX5 := (BX4.set (o := 3) (show R ≠ w.heap.size by omega) v4).own (lv' := lv) (hv' := v4) BX4.l (fun e => by have h1 := (D4.row.lt _ e).1; have h2 := BX3.z; omega)
  have c3e := (hl4.cell HP.out.z).trans c3d
  have f3e := (hl4.frozen HP.out.z).trans f3d
  have K5 := K3.trans P.2
  obtain ⟨A4, q4, rfl⟩ := own_form D4.row
  have hlen2 : (s.2 ++ [(⟨cl, k, -1, h, false⟩ : Flt)]).length = s.2.length + 1 := by rw [List.length_append]; rfl
  rw [hlen2] at P BX5 K5
  have HR := Lib.hid (And.intro (P.1.put2 BX5 (by omega) (.int .i64 2) (.int .i64 s.2.length)) (K5.put2 hsz (.int .i64 2) (.int .i64 s.2.length)))
  have HB := Lib.hid (BX5.put (.int .i64 2) (.int .i64 s.2.length))
  rw [hlen2]
  have b0 := BX5.c0
  have b1 := BX5.c1
  have f0 := BX5.f 0
  have f1 := BX5.f 1
  clear P D4 hl4 BX3 BX4 SHd K3 K5 c3b f3b c3d f3d
  go_wp2
  have z0 := HB.out.c0
  have z1 := HB.out.c1
  exact bodyPost_ret (v := .agg #[.int .i64 2, .int .i64 s.2.length]) (by simp [results, Try.results114, go_sem, z0, z1]) rfl ⟨rfl, _, _, HR.out.1, HR.out.2⟩
set_option maxHeartbeats 2000000 in
set_option maxRecDepth 100000 in
theorem sAgain_any (R m c n cap : Nat) (B A : Option Addr) (xs : List Cls) (p : List Lin) (lv hv : Value) (s : Rst) (h : Int) (gd : Gd xs s.2) (hh : Hd h s) (hl : s.2.length ≤ 1000000) (w : World) (H : Rn w R B m c xs A n cap p lv hv s.1 s.2) :
    SpOk R m c n cap B A xs p 115 #[.pointer (some ⟨R, 0, none⟩), .int .i64 h] lv hv w (againN h s) := by
  have hz := H.z
  have hh0 := hh.1
  have hh1 := hh.2
  have L1 := Le.new w (.cells #[.int .i64 0, .int .i64 0] 94)
  have H1 := H.le L1
  have BX := Bx.new H (.int .i64 0) (.int .i64 0) 94
  have K1 := Kp.of_le R lv hv L1
  have hg : R < w.heap.size := hz
  unfold SpOk againN
  by_cases hn : h < 0
  · rw [if_pos hn]
    have hb : decide (0 ≤ h) = false := decide_eq_false (by omega)
    obtain rfl : h = -1 := by omega
    go_enter Try.func115, Try.ntmps115
    go_wp2_with fail
    generalize w.alloc (.cells #[.int .i64 0, .int .i64 0] 94) = W at *
    refine (show Calls _ _ _ _ _ from sRaise_any R m c n cap B A xs p lv hv s 0 0 (-1) (by omega) (by omega) gd hh hl W H1).mono ?_
    rintro e w2 ⟨rfl, lv2, hv2, RN, KP⟩
    have BX2 := BX.kp KP
    have b0 := BX2.c0
    have b1 := BX2.c1
    have f0 := BX2.f 0
    have f1 := BX2.f 1
    have HR := Lib.hid (And.intro (RN.put2 BX2 hg (.int .i64 2) (.int .i64 s.2.length)) ((K1.trans KP).put2 (Nat.le_refl _) (.int .i64 2) (.int .i64 s.2.length)))
    have HB := Lib.hid (BX2.put (.int .i64 2) (.int .i64 s.2.length))
    simp only [rsN, edK, edW]
    go_wp2
    have z0 := HB.out.c0
    have z1 := HB.out.c1
    exact bodyPost_ret (v := .agg #[.int .i64 2, .int .i64 s.2.length]) (by simp [results, Try.results115, go_sem, z0, z1]) rfl ⟨rfl, _, _, HR.out.1, HR.out.2⟩
  · rw [if_neg hn]
    have hb : decide (0 ≤ h) = true := decide_eq_true (by omega)
    have L2 := Le.new w (.cells #[.int .i64 2, .int .i64 h] 94)
    have b0 : (w.alloc (.cells #[.int .i64 2, .int .i64 h] 94)).cell? ⟨w.heap.size, 0, none⟩ = some (.int .i64 2) := by rw [World.cell?_alloc_at _ _ _ _ rfl]; rfl
    have b1 : (w.alloc (.cells #[.int .i64 2, .int .i64 h] 94)).cell? ⟨w.heap.size, 1, none⟩ = some (.int .i64 h) := by rw [World.cell?_alloc_at _ _ _ _ rfl]; rfl
    go_enter Try.func115, Try.ntmps115
    go_wp2
    exact bodyPost_ret (v := .agg #[.int .i64 2, .int .i64 h]) (by simp [results, Try.results115, go_sem, b0, b1]) rfl ⟨rfl, _, _, H.le L2, Kp.of_le R lv hv L2⟩
set_option maxHeartbeats 2000000 in
set_option maxRecDepth 100000 in
theorem runBody_any (R m c n cap : Nat) (B A : Option Addr) (xs : List Cls) (p : List Lin) (x : Nat) (h : Int) (s : Rst) (r : Lft × Rst) (hx : x < p.length) (lv hv : Value) (hp : p.length ≤ 24)
    (HA : ∀ w, Rn w R B m c xs A n cap p lv hv s.1 s.2 → SpOk R m c n cap B A xs p 62 #[.pointer (some ⟨R, 0, none⟩), .int .i64 ((x : Int) + 1), .int .i64 (bEnd p x), .int .i64 h] lv hv w r) (w : World) (H : Rn w R B m c xs A n cap p lv hv s.1 s.2) :
    SpOk R m c n cap B A xs p 124 #[.pointer (some ⟨R, 0, none⟩), .int .i64 x, .int .i64 h] lv hv w r := by
  have hz := H.z
  have L1 := Le.new w (.cells #[.int .i64 0, .int .i64 0] 94)
  have H1 := H.le L1
  have BX := Bx.new H (.int .i64 0) (.int .i64 0) 94
  have K1 := Kp.of_le R lv hv L1
  have hg : R < w.heap.size := hz
  have c1 := H1.c1
  unfold SpOk
  go_enter Try.func124, Try.ntmps124
  go_wp2_with fail
  generalize w.alloc (.cells #[.int .i64 0, .int .i64 0] 94) = W at *
  refine (sBlockEnd_any A n cap p x hx W H1.T).mono ?_
  rintro e w2 ⟨rfl, hle⟩
  go_wp2_with fail
  refine (show Calls _ _ _ _ _ from HA w2 (H1.le hle)).mono ?_
  rintro e w3 ⟨rfl, lv3, hv3, RN, KP⟩
  have BX2 := (BX.le hle).kp KP
  have b0 := BX2.c0
  have b1 := BX2.c1
  have f0 := BX2.f 0
  have f1 := BX2.f 1
  have HR := Lib.hid (And.intro (RN.put2 BX2 hg (.int .i64 (edK r.1)) (.int .i64 (edW r.1))) (((K1.trans (Kp.of_le R lv hv hle)).trans KP).put2 (Nat.le_refl _) (.int .i64 (edK r.1)) (.int .i64 (edW r.1))))
  have HB := Lib.hid (BX2.put (.int .i64 (edK r.1)) (.int .i64 (edW r.1)))
  go_wp2
  have z0 := HB.out.c0
  have z1 := HB.out.c1
  exact bodyPost_ret (v := .agg #[.int .i64 (edK r.1), .int .i64 (edW r.1)]) (by simp [results, Try.results124, go_sem, z0, z1]) rfl ⟨rfl, _, _, HR.out.1, HR.out.2⟩
end Go.Proofs.Ytlepgfccnfcagaa
