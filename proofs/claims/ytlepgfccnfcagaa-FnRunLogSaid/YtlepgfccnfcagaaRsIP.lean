/- programs: run, RunProgram of the model -/
import Derived.Test.YtlepgfccnfcagaaRsHP
import Derived.Test.YtlepgfccnfcagaaWp12
import Derived.Test.YtlepgfccnfcagaaRDsqP
namespace Go.Proofs.Ytlepgfccnfcagaa
open Go.RowKit
/-- the box of a result that a call keeps -/
structure Rx (W : World) (R g : Nat) (lv hv a b c d : Value) : Prop where
  z : g < W.heap.size
  ne : g ≠ R
  l : lv.ownBlock ≠ some g
  h : hv.ownBlock ≠ some g
  c0 : W.cell? ⟨g, 0, none⟩ = some a
  c1 : W.cell? ⟨g, 1, none⟩ = some b
  c2 : W.cell? ⟨g, 2, none⟩ = some c
  c3 : W.cell? ⟨g, 3, none⟩ = some d
  f : ∀ k, W.frozen? ⟨g, k, none⟩ = false
section
variable {w w' W W' : World} {R g m c n cap : Nat} {B A : Option Addr} {xs : List Cls} {p : List Lin} {lv hv lv' hv' a b e d : Value} {lg : List Int} {hs : List Flt}
theorem Rx.kp (h : Rx W R g lv hv a b e d) (k : Kp R lv hv lv' hv' W W') : Rx W' R g lv' hv' a b e d :=
  ⟨Nat.lt_of_lt_of_le h.z k.size, h.ne, k.ownL h.z h.l, k.ownH h.z h.h, k.cell h.z h.ne h.l h.h h.c0, k.cell h.z h.ne h.l h.h h.c1, k.cell h.z h.ne h.l h.h h.c2, k.cell h.z h.ne h.l h.h h.c3, fun j => k.frozen h.z h.ne h.l h.h (h.f j)⟩
theorem Rx.le (h : Rx W R g lv hv a b e d) (L : Le W W') : Rx W' R g lv hv a b e d := h.kp (Kp.of_le R lv hv L)
theorem Rx.new (RN : Rn W R B m c xs A n cap p lv hv lg hs) (a b e d : Value) (T : TypeId) : Rx (W.alloc (.cells #[a, b, e, d] T)) R W.heap.size lv hv a b e d := by
  have z := RN.z
  obtain ⟨z0, z1, z2, z3⟩ := cells4 (hpn (w := W) (o := .cells #[a, b, e, d] T) rfl)
  exact ⟨by simp, by omega, fun e => by have := (RN.O.lt _ e).2; omega, fun e => by have := (RN.H.lt _ e).2; omega, z0, z1, z2, z3, fun k => World.frozen?_alloc_at _ _ _ _ rfl⟩
theorem Kp.le_newS (hl : Le w W) (h : Kp R lv hv lv' hv' W w') (hR : w.heap.size ≤ R) (h1 : ∀ k, lv.ownBlock = some k → w.heap.size ≤ k) (h2 : ∀ k, hv.ownBlock = some k → w.heap.size ≤ k) : Le w w' :=
  ⟨h.os.trans hl.os, h.tape.trans hl.tape, h.output.trans hl.output, Nat.le_trans hl.size h.size, fun b hb => (h.blk b (Nat.lt_of_lt_of_le hb hl.size) (by omega) (fun e => by have := h1 b e; omega) (fun e => by have := h2 b e; omega)).trans (hl.block b hb)⟩
end
set_option maxHeartbeats 8000000 in
set_option maxRecDepth 100000 in
theorem run_any (B A : Option Addr) (m c n cap : Nat) (xs : List Cls) (p : List Lin) (g : GoodP xs p) (hS : Sm (runI xs p).2) (hnb : (runI xs p).1 ≠ .brk ∧ (runI xs p).1 ≠ .cnt) (w : World) (hT : Sl w B m c xs) (hR : Sl w A n cap p) :
    Calls Try.prog 38 #[.agg #[.slice B m c], .slice A n cap] w (ResOut w (runI xs p).2.1 (resH (runI xs p).2.2 (runI xs p).1) (resE (runI xs p).1) (resV (runI xs p).2.2 (runI xs p).1)) := by
  obtain rfl := hR.len
  have hp := g.len
  have HBT : Hid (0 < m → ∀ a, B = some a → a.block < w.heap.size) := fun hn a e => by obtain ⟨b, off, e2, hb, _⟩ := hT.at_ hn; rw [e2] at e; injection e with e; rw [← e]; exact hb
  have HBA : Hid (0 < p.length → ∀ a, A = some a → a.block < w.heap.size) := fun hn a e => by obtain ⟨b, off, e2, hb, _⟩ := hR.at_ hn; rw [e2] at e; injection e with e; rw [← e]; exact hb
  have L1 := Le.new w (.cells #[.slice B m c] 25)
  have R1 := hpn (w := w.alloc (.cells #[.slice B m c] 25)) (o := .cells #[.slice none 0 0, .int .i64 0, .int .i64 0, .slice none 0 0] 34) (b := w.heap.size + 1) (by simp)
  have L2 := Le.new (w.alloc (.cells #[.slice B m c] 25)) (.cells #[.slice none 0 0, .int .i64 0, .int .i64 0, .slice none 0 0] 34)
  have hz2 : ((w.alloc (.cells #[.slice B m c] 25)).alloc (.cells #[.slice none 0 0, .int .i64 0, .int .i64 0, .slice none 0 0] 34)).heap.size = w.heap.size + 1 + 1 := by simp
  have LL := L1.trans L2
  clear L1 L2
  generalize hW2 : (w.alloc (.cells #[.slice B m c] 25)).alloc (.cells #[.slice none 0 0, .int .i64 0, .int .i64 0, .slice none 0 0] 34) = W2 at *
  have L3 := Le.new W2 (.cells #[] 3)
  have E3 := own_empty (w := W2) (base := w.heap.size + 1 + 1) (g := w.heap.size + 1 + 1) (size := 1) (e := 3) (by omega) hz2.symm
  have hz3 : (W2.alloc (.cells #[] 3)).heap.size = w.heap.size + 1 + 1 + 1 := by simp [hz2]
  generalize hW3 : W2.alloc (.cells #[] 3) = W3 at *
  have L4 := Le.new W3 (.cells #[.slice B m c, .slice A p.length cap, .slice (some ⟨w.heap.size + 1 + 1, 0, none⟩) 0 0, .slice none 0 0] 92)
  have R4 := hpn (w := W3) (o := .cells #[.slice B m c, .slice A p.length cap, .slice (some ⟨w.heap.size + 1 + 1, 0, none⟩) 0 0, .slice none 0 0] 92) (b := w.heap.size + 1 + 1 + 1) hz3.symm
  have hz4 : (W3.alloc (.cells #[.slice B m c, .slice A p.length cap, .slice (some ⟨w.heap.size + 1 + 1, 0, none⟩) 0 0, .slice none 0 0] 92)).heap.size = w.heap.size + 1 + 1 + 1 + 1 := by simp [hz3]
  have LW := (LL.trans L3).trans L4
  obtain ⟨u0, u1, u2, u3⟩ := cells4 R4
  have RN : Rn (W3.alloc (.cells #[.slice B m c, .slice A p.length cap, .slice (some ⟨w.heap.size + 1 + 1, 0, none⟩) 0 0, .slice none 0 0] 92)) (w.heap.size + 1 + 1 + 1) B m c xs A p.length cap p (.slice (some ⟨w.heap.size + 1 + 1, 0, none⟩) 0 0) (.slice none 0 0) [] [] :=
    ⟨by omega, u0, u1, u2, u3, frz_row R4, frz_row R4, hT.le LW, hR.le LW, fun hn a e => by have := HBT.out hn a e; omega, fun hn a e => by have := HBA.out hn a e; omega, own_mono (own_le E3 L4) (by omega), World.ownsRow_nil _ _ _ _, (fun k e e2 => by cases e2), (fun _ h => nomatch h), (fun _ h => nomatch h), (fun e => by have e2 : w.heap.size + 1 + 1 = w.heap.size + 1 + 1 + 1 := (by injection e); omega), (fun e => by cases e)⟩
  obtain ⟨r0, r1, r2, r3⟩ := cells4 (((L3.trans L4).block (w.heap.size + 1) (by omega)).trans R1)
  have RX : Rx (W3.alloc (.cells #[.slice B m c, .slice A p.length cap, .slice (some ⟨w.heap.size + 1 + 1, 0, none⟩) 0 0, .slice none 0 0] 92)) (w.heap.size + 1 + 1 + 1) (w.heap.size + 1) (.slice (some ⟨w.heap.size + 1 + 1, 0, none⟩) 0 0) (.slice none 0 0) (.slice none 0 0) (.int .i64 0) (.int .i64 0) (.slice none 0 0) :=
    ⟨by omega, by omega, (fun e => by have e2 : w.heap.size + 1 + 1 = w.heap.size + 1 := (by injection e); omega), (fun e => by cases e), r0, r1, r2, r3, fun k => frz_row (((L3.trans L4).block (w.heap.size + 1) (by omega)).trans R1)⟩
  have gd0 : Gd xs ([] : List Flt) := fun k h => absurd h (Nat.not_lt_zero _)
  have hd0 : Hd (-1) (([], []) : Rst) := ⟨by omega, by show (-1 : Int) < ((0 : Nat) : Int); omega⟩
  have F : Fw xs ([], []) (runI xs p) := Fw.goB (xs := xs) (p := p) (ln := lnN xs p 6 (-1)) (a := 0) (b := p.length) (h := -1) (OK := fun _ => True) (fun _ _ _ _ _ => trivial) (fun i s _ hib _ g1 hh1 => lfw_all g 6 i (-1) s hib g1 hh1) 25 0 ([], []) (Nat.le_refl _) (fun _ => trivial) gd0 hd0
  have hrg : runI xs p = gB (lnN xs p 6 (-1)) p p.length 0 ([], []) := gB_of 0 ([], []) 25 (by omega)
  have HA := runBlock_any (w.heap.size + 1 + 1 + 1) m c p.length cap B A xs p g 6 (sln_all (w.heap.size + 1 + 1 + 1) m c p.length cap B A xs p g 6) 0 p.length 0 (Blk.all g) (Nat.zero_le _) (by omega) (-1) ([], []) gd0 hd0 (by rw [← hrg]; exact hS) _ _ _ RN
  rw [← hrg] at HA
  have hf := F.rai
  have gd := F.gd
  clear F hrg R4 R1 u0 u1 u2 u3 r0 r1 r2 r3 E3 L3 L4 LL gd0 hd0 hT hR
  have HX : Hid (∀ r, runI xs p = r → (runI xs p).2.1 = r.2.1 ∧ resH (runI xs p).2.2 (runI xs p).1 = resH r.2.2 r.1 ∧ resE (runI xs p).1 = resE r.1 ∧ resV (runI xs p).2.2 (runI xs p).1 = resV r.2.2 r.1) := fun r e => by rw [e]; exact ⟨rfl, rfl, rfl, rfl⟩
  obtain ⟨r, hr⟩ : ∃ r, runI xs p = r := ⟨_, rfl⟩
  have HR := Lib.hid (HX.out r hr)
  rw [hr] at HA hf gd hS hnb ⊢
  clear HX hr
  rcases r with ⟨l, s⟩
  clear HR
  unfold ResOut
  subst hW3
  subst hW2
  go_enter Try.func38, Try.ntmps38
  go_wp2_with fail
  generalize (((w.alloc (.cells #[.slice B m c] 25)).alloc (.cells #[.slice none 0 0, .int .i64 0, .int .i64 0, .slice none 0 0] 34)).alloc (.cells #[] 3)).alloc (.cells #[.slice B m c, .slice A p.length cap, .slice (some ⟨w.heap.size + 1 + 1, 0, none⟩) 0 0, .slice none 0 0] 92) = W at *
  refine (show Calls _ _ _ _ _ from HA).mono ?_
  rintro e w5 ⟨rfl, lv, hv, RN5, KP5⟩
  simp only at RN5 KP5
  have L5 := Kp.le_newS LW KP5 (by omega) (fun k e => by have e2 : w.heap.size + 1 + 1 = k := (by injection e); omega) (fun k e => by cases e)
  replace RX := RX.kp KP5
  have LE := Le.new w5 (.cells #[.int .i64 (edK l), .int .i64 (edW l)] 94)
  have BE := (Bx.new RN5 (.int .i64 (edK l)) (.int .i64 (edW l)) 94).le (Le.refl _).drew
  replace RX := RX.le LE.drew
  replace RN := RN5.le LE.drew
  have L6 := L5.trans LE.drew
  clear HA KP5 RN5 LE LW hz2 hz3 hz4 L5
  obtain ⟨AL, cL, rfl⟩ := own_form RN.O
  obtain ⟨AH, cH, rfl⟩ := own_form RN.H
  have c2 := RN.c2
  have zR := RN.z
  have zE := BE.z
  have y0 := BE.c0
  have y1 := BE.c1
  go_wp2_with fail
  refine wp_region_noPanic ?_
  refine wp_region_Z (fun w' => w'.cell? ⟨w.heap.size + 1 + 1 + 1, 2, none⟩ = some (.slice AL s.1.length cL) ∧ w'.cell? ⟨w5.heap.size, 0, none⟩ = some (.int .i64 (edK l)) ∧ w'.cell? ⟨w5.heap.size, 1, none⟩ = some (.int .i64 (edW l))) [] (by kernel_rfl) ?_
  generalize (w5.alloc (.cells #[.int .i64 (edK l), .int .i64 (edW l)] 94)).drew = V at *
  refine wpAnyZ_take (i := 0) (v := ?_) rfl (by kernel_rfl) (fun _ _ _ h => h) (Or.inl ⟨by rfl, ?_⟩) (⟨c2, y0, y1⟩) ?_
  rotate_left 1
  · (intro w hSw; (try dsimp only at hSw); go_simp; try with_reducible rfl)
  try simp only [Act.put, List.setIfInBounds_toArray, List.set_cons_zero, List.set_cons_succ]
  refine wpAnyZ_take (i := 1) (v := ?_) rfl (by kernel_rfl) (fun _ _ _ h => h) (Or.inl ⟨by rfl, ?_⟩) (⟨c2, y0, y1⟩) ?_
  rotate_left 1
  · (intro w hSw; (try dsimp only at hSw); go_simp; try with_reducible rfl)
  try simp only [Act.put, List.setIfInBounds_toArray, List.set_cons_zero, List.set_cons_succ]
  refine wpAnyZ_take (i := 2) (v := ?_) rfl (by kernel_rfl) (fun _ _ _ h => h) (Or.inl ⟨by rfl, ?_⟩) (⟨c2, y0, y1⟩) ?_
  rotate_left 1
  · (intro w hSw; (try dsimp only at hSw); go_simp; try with_reducible rfl)
  try simp only [Act.put, List.setIfInBounds_toArray, List.set_cons_zero, List.set_cons_succ]
  refine wpAnyZ_take (i := 3) (v := ?_) rfl (by kernel_rfl) (fun _ _ _ h => h) (Or.inl ⟨by rfl, ?_⟩) (⟨c2, y0, y1⟩) ?_
  rotate_left 1
  · (intro w hSw; (try dsimp only at hSw); go_simp; try with_reducible rfl)
  try simp only [Act.put, List.setIfInBounds_toArray, List.set_cons_zero, List.set_cons_succ]
  refine wpAnyZ_take (i := 4) (v := ?_) rfl (by kernel_rfl) (fun _ _ _ h => h) (Or.inl ⟨by rfl, ?_⟩) (⟨c2, y0, y1⟩) ?_
  rotate_left 1
  · (intro w hSw; (try dsimp only at hSw); go_simp; try with_reducible rfl)
  try simp only [Act.put, List.setIfInBounds_toArray, List.set_cons_zero, List.set_cons_succ]
  refine wpAnyZ_take (i := 5) (v := ?_) rfl (by kernel_rfl) (fun _ _ _ h => h) (Or.inl ⟨by rfl, ?_⟩) (⟨c2, y0, y1⟩) ?_
  rotate_left 1
  · (intro w hSw; (try dsimp only at hSw); go_simp; try with_reducible rfl)
  try simp only [Act.put, List.setIfInBounds_toArray, List.set_cons_zero, List.set_cons_succ]
  refine wpAnyZ_take (i := 6) (v := ?_) rfl (by kernel_rfl) (fun _ _ _ h => h) (Or.inl ⟨by rfl, ?_⟩) (⟨c2, y0, y1⟩) ?_
  rotate_left 1
  · (intro w hSw; (try dsimp only at hSw); go_simp; try with_reducible rfl)
  try simp only [Act.put, List.setIfInBounds_toArray, List.set_cons_zero, List.set_cons_succ]
  refine wpAnyZ_take (i := 7) (v := ?_) rfl (by kernel_rfl) (fun _ _ _ h => h) (Or.inl ⟨by rfl, ?_⟩) (⟨c2, y0, y1⟩) ?_
  rotate_left 1
  · (intro w hSw; (try dsimp only at hSw); go_simp; try with_reducible rfl)
  try simp only [Act.put, List.setIfInBounds_toArray, List.set_cons_zero, List.set_cons_succ]
  refine wpAnyZ_take (i := 8) (v := ?_) rfl (by kernel_rfl) (fun _ _ _ h => h) (Or.inl ⟨by rfl, ?_⟩) (⟨c2, y0, y1⟩) ?_
  rotate_left 1
  · (intro w hSw; (try dsimp only at hSw); go_simp; try with_reducible rfl)
  try simp only [Act.put, List.setIfInBounds_toArray, List.set_cons_zero, List.set_cons_succ]
  refine wpAnyZ_one (i := 9) (by kernel_rfl) (ReadyZ.mk rfl (fun K hK => ?_))
  go_simp
  have LZ := Le.new V (.cells #[.slice none 0 0, .int .i64 0, .int .i64 0, .slice none 0 0] 34)
  refine hK.out _ _ (fun _ => ⟨(LZ.cell zR).trans c2, (LZ.cell zE).trans y0, (LZ.cell zE).trans y1⟩) ?_
  clear hK K
  try simp only [Act.put, List.setIfInBounds_toArray, List.set_cons_zero, List.set_cons_succ]
  clear LZ
  refine wpAnyZ_one (i := 10) (by kernel_rfl) (ReadyZ.mk rfl (fun K hK => ?_))
  go_simp
  have LY := Le.new V (.cells #[.slice AL s.1.length cL, .int .i64 (edK l), .int .i64 (edW l), .slice none 0 0] 34)
  refine hK.out _ _ (fun _ => ⟨(LY.cell zR).trans c2, (LY.cell zE).trans y0, (LY.cell zE).trans y1⟩) ?_
  clear hK K
  try simp only [Act.put, List.setIfInBounds_toArray, List.set_cons_zero, List.set_cons_succ]
  refine wpAnyZ_done (by kernel_rfl) ?_ _
  refine NoPanic.normal ?_
  have R7 := Rx.new RN (.slice AL s.1.length cL) (.int .i64 (edK l)) (.int .i64 (edW l)) (.slice none 0 0) 34
  have hVw := RX.z
  replace RX := RX.le LY
  replace RN := RN.le LY
  replace BE := BE.le LY
  replace L6 := L6.trans LY
  have hVs := LY.size
  clear LY c2 y0 y1 zR zE
  generalize hV7 : V.alloc (.cells #[.slice AL s.1.length cL, .int .i64 (edK l), .int .i64 (edW l), .slice none 0 0] 34) = V7 at *
  clear hV7
  have y0 := BE.c0
  have y1 := BE.c1
  have O7 : Owd 3 w V7 (.slice AL s.1.length cL) s.1 := ⟨own_mono RN.O (by omega), RN.okl⟩
  have hnl := RX.l
  rcases l with _ | v | f | _ | _
  · simp only [edK, edW] at *
    have b0 := RX.c0
    have b1 := RX.c1
    have b2 := RX.c2
    have b3 := RX.c3
    have f0 := RX.f 0
    have f1 := RX.f 1
    have f2 := RX.f 2
    have f3 := RX.f 3
    have k0 := R7.c0
    have k1 := R7.c1
    have k2 := R7.c2
    have k3 := R7.c3
    have HO : Hid (∀ a b c d, Owd 3 w ((((V7.setCell ⟨w.heap.size + 1, 0, none⟩ a).setCell ⟨w.heap.size + 1, 1, none⟩ b).setCell ⟨w.heap.size + 1, 2, none⟩ c).setCell ⟨w.heap.size + 1, 3, none⟩ d) (.slice AL s.1.length cL) s.1) := fun a b c d => (((O7.setO hnl).setO hnl).setO hnl).setO hnl
    have ho := out4 (a := .slice AL s.1.length cL) (b := .int .i64 0) (c := .int .i64 0) (d := .slice none 0 0) b0 b1 b2 b3
    have HL := Lib.hid L6
    clear RX R7 RN BE O7 L6
    go_wp2
    obtain ⟨z0, z1, z2, z3⟩ := ho
    exact bodyPost_ret (v := .agg #[.slice AL s.1.length cL, .int .i64 0, .int .i64 0, .slice none 0 0]) (by simp [results, Try.results38, go_sem, z0, z1, z2, z3]) rfl ⟨_, _, rfl, HO.out _ _ _ _, Owd.nil _ _ _, (by cases e : (Value.slice AL s.1.length cL).ownBlock with | none => exact .inl e | some k => exact .inr (fun e2 => by rw [e] at e2; cases e2)), (((HL.out.setCell (by omega) _).setCell (by omega) _).setCell (by omega) _).setCell (by omega) _⟩
  · simp only [edK, edW] at *
    have b0 := RX.c0
    have b1 := RX.c1
    have b2 := RX.c2
    have b3 := RX.c3
    have f0 := RX.f 0
    have f1 := RX.f 1
    have f2 := RX.f 2
    have f3 := RX.f 3
    have k0 := R7.c0
    have k1 := R7.c1
    have k2 := R7.c2
    have k3 := R7.c3
    have HO : Hid (∀ a b c d, Owd 3 w ((((V7.setCell ⟨w.heap.size + 1, 0, none⟩ a).setCell ⟨w.heap.size + 1, 1, none⟩ b).setCell ⟨w.heap.size + 1, 2, none⟩ c).setCell ⟨w.heap.size + 1, 3, none⟩ d) (.slice AL s.1.length cL) s.1) := fun a b c d => (((O7.setO hnl).setO hnl).setO hnl).setO hnl
    have ho := out4 (a := .slice AL s.1.length cL) (b := .int .i64 1) (c := .int .i64 v) (d := .slice none 0 0) b0 b1 b2 b3
    have HL := Lib.hid L6
    clear RX R7 RN BE O7 L6
    go_wp2
    obtain ⟨z0, z1, z2, z3⟩ := ho
    exact bodyPost_ret (v := .agg #[.slice AL s.1.length cL, .int .i64 1, .int .i64 v, .slice none 0 0]) (by simp [results, Try.results38, go_sem, z0, z1, z2, z3]) rfl ⟨_, _, rfl, HO.out _ _ _ _, Owd.nil _ _ _, (by cases e : (Value.slice AL s.1.length cL).ownBlock with | none => exact .inl e | some k => exact .inr (fun e2 => by rw [e] at e2; cases e2)), (((HL.out.setCell (by omega) _).setCell (by omega) _).setCell (by omega) _).setCell (by omega) _⟩
  · have hfr := hf f rfl
    simp only [edK, edW] at *
    have c3 := RN.c3
    have zR := RN.z
    have zE := BE.z
    have zX := RX.z
    have z7 := R7.z
    have SH := Sl.of_own RN.H rfl (by decide) RN.okh
    have hs2 := hS.2
    have GL := Lib.hid gd.lnk
    have HRX := Lib.hid RX
    have HR7 := Lib.hid R7
    have DV := (Le.refl V7).drew
    have Lall := Lib.hid (L6.trans DV)
    have HO7 := Lib.hid (O7.le DV)
    replace SH := SH.le DV
    clear O7
    go_wp2_with fail
    refine wp_region_noPanic ?_
    refine wp_region_Z (fun w' => w'.cell? ⟨w.heap.size + 1 + 1 + 1, 3, none⟩ = some (.slice AH s.2.length cH) ∧ w'.cell? ⟨w5.heap.size, 1, none⟩ = some (.int .i64 f)) [] (by kernel_rfl) ?_
    replace c3 := (DV.cell zR).trans c3
    replace y1 := (DV.cell zE).trans y1
    have RX2 := HRX.out.le DV
    have R72 := HR7.out.le DV
    replace zR := Nat.lt_of_lt_of_le zR DV.size
    replace zE := Nat.lt_of_lt_of_le zE DV.size
    clear DV RX R7 RN BE y0 HRX HR7
    generalize V7.drew = V8 at *
    refine wpAnyZ_take (i := 0) (v := ?_) rfl (by kernel_rfl) (fun _ _ _ h => h) (Or.inl ⟨by rfl, ?_⟩) (⟨c3, y1⟩) ?_
    rotate_left 1
    · (intro w hSw; (try dsimp only at hSw); go_simp; try with_reducible rfl)
    try simp only [Act.put, List.setIfInBounds_toArray, List.set_cons_zero, List.set_cons_succ]
    refine wpAnyZ_take (i := 1) (v := ?_) rfl (by kernel_rfl) (fun _ _ _ h => h) (Or.inl ⟨by rfl, ?_⟩) (⟨c3, y1⟩) ?_
    rotate_left 1
    · (intro w hSw; (try dsimp only at hSw); go_simp; try with_reducible rfl)
    try simp only [Act.put, List.setIfInBounds_toArray, List.set_cons_zero, List.set_cons_succ]
    refine wpAnyZ_take (i := 2) (v := ?_) rfl (by kernel_rfl) (fun _ _ _ h => h) (Or.inl ⟨by rfl, ?_⟩) (⟨c3, y1⟩) ?_
    rotate_left 1
    · (intro w hSw; (try dsimp only at hSw); go_simp; try with_reducible rfl)
    try simp only [Act.put, List.setIfInBounds_toArray, List.set_cons_zero, List.set_cons_succ]
    refine wpAnyZ_take (i := 3) (v := ?_) rfl (by kernel_rfl) (fun _ _ _ h => h) (Or.inl ⟨by rfl, ?_⟩) (⟨c3, y1⟩) ?_
    rotate_left 1
    · (intro w hSw; (try dsimp only at hSw); go_simp; try with_reducible rfl)
    try simp only [Act.put, List.setIfInBounds_toArray, List.set_cons_zero, List.set_cons_succ]
    refine wpAnyZ_take (i := 4) (v := ?_) rfl (by kernel_rfl) (fun _ _ _ h => h) (Or.inl ⟨by rfl, ?_⟩) (⟨c3, y1⟩) ?_
    rotate_left 1
    · (intro w hSw; (try dsimp only at hSw); go_simp; try with_reducible rfl)
    try simp only [Act.put, List.setIfInBounds_toArray, List.set_cons_zero, List.set_cons_succ]
    refine wpAnyZ_take (i := 5) (v := ?_) rfl (by kernel_rfl) (fun _ _ _ h => h) (Or.inl ⟨by rfl, ?_⟩) (⟨c3, y1⟩) ?_
    rotate_left 1
    · (intro w hSw; (try dsimp only at hSw); go_simp; try with_reducible rfl)
    try simp only [Act.put, List.setIfInBounds_toArray, List.set_cons_zero, List.set_cons_succ]
    have RX0 := RX2
    have Lall2 := Lall.out
    have HO72 := HO7.out
    clear Lall HO7
    have Lall := Lall2
    have HO7 := HO72
    clear Lall2 HO72
    refine wpAnyZ_two (i := 6) (k := 10) (by kernel_rfl) (ReadyZ.mk rfl (fun K hK => ?_)) (ReadyZ.mk rfl (fun K hK => ?_))
    · obtain ⟨g8, hg8⟩ : ∃ z, z = w.heap.size + 1 := ⟨_, rfl⟩
      go_simp
      go_at_call 63
      refine (sIsolated_any AH s.2.length cH s.2 f V8 SH GL.out hfr.1 hfr.2 (by omega)).mono ?_
      rintro e V9 ⟨v2, rfl, D2, hl2⟩
      have c3b := (hl2.cell zR).trans c3
      have y1b := (hl2.cell zE).trans y1
      have HD2 := Lib.hid (D2.mono Lall)
      have P2 : Hid (Apart (.slice AL s.1.length cL) v2) := by
        show Apart _ _
        cases e : (Value.slice AL s.1.length cL).ownBlock with
        | none => exact .inl e
        | some k => exact .inr (fun e2 => by have h1 := (HO7.row.lt k e).2; have h2 := (D2.row.lt k (e2 ▸ e)).1; omega)
      have hnh : Hid (v2.ownBlock ≠ some (w.heap.size + 1) ∧ v2.ownBlock ≠ some V.heap.size ∧ v2.ownBlock ≠ some g8) := by
        have h1 := RX2.z
        have h2 := R72.z
        exact ⟨fun e => by have := (D2.row.lt _ e).1; omega, fun e => by have := (D2.row.lt _ e).1; omega, fun e => by have := (D2.row.lt _ e).1; omega⟩
      obtain ⟨A2, q2, rfl⟩ := own_form D2.row
      obtain ⟨ix, hix⟩ : ∃ z, idx (reachL s.2 f) f 0 = z := ⟨_, rfl⟩
      have HIX : Hid (idx (reachL s.2 f) (id f) 0 = ix) := hix
      rw [hix]
      clear hix
      generalize (isoL s.2 (reachL s.2 f)).length = ln at *
      have LV9 := Lall.trans hl2
      have RX3 := RX2.le hl2
      have R73 := R72.le hl2
      have O9 := HO7.le hl2
      have hV9 := hl2.size
      have zR9 := Nat.lt_of_lt_of_le zR hl2.size
      have zE9 := Nat.lt_of_lt_of_le zE hl2.size
      clear D2 hl2 SH c3 y1 RX2 R72 zR zE hg8
      refine hK.out _ _ (fun _ => ⟨c3b, y1b⟩) ?_
      clear hK K
      try simp only [Act.put, List.setIfInBounds_toArray, List.set_cons_zero, List.set_cons_succ]
      refine wpAnyZ_take (i := 7) (v := ?_) rfl (by kernel_rfl) (fun _ _ _ h => h) (Or.inl ⟨by rfl, ?_⟩) (⟨c3b, y1b⟩) ?_
      rotate_left 1
      · (intro w hSw; (try dsimp only at hSw); go_simp; try with_reducible rfl)
      try simp only [Act.put, List.setIfInBounds_toArray, List.set_cons_zero, List.set_cons_succ]
      refine wpAnyZ_take (i := 8) (v := ?_) rfl (by kernel_rfl) (fun _ _ _ h => h) (Or.inl ⟨by rfl, ?_⟩) (⟨c3b, y1b⟩) ?_
      rotate_left 1
      · (intro w hSw; (try dsimp only at hSw); go_simp; try with_reducible rfl)
      try simp only [Act.put, List.setIfInBounds_toArray, List.set_cons_zero, List.set_cons_succ]
      refine wpAnyZ_take (i := 9) (v := ?_) rfl (by kernel_rfl) (fun _ _ _ h => h) (Or.inl ⟨by rfl, ?_⟩) (⟨c3b, y1b⟩) ?_
      rotate_left 1
      · (intro w hSw; (try dsimp only at hSw); go_simp; try with_reducible rfl)
      try simp only [Act.put, List.setIfInBounds_toArray, List.set_cons_zero, List.set_cons_succ]
      refine wpAnyZ_one (i := 10) (by kernel_rfl) (ReadyZ.mk rfl (fun K hK => ?_))
      go_simp
      have LZ := Le.new V9 (.cells #[.slice none 0 0] 32)
      refine hK.out _ _ (fun _ => ⟨(LZ.cell zR9).trans c3b, (LZ.cell zE9).trans y1b⟩) ?_
      clear hK K
      try simp only [Act.put, List.setIfInBounds_toArray, List.set_cons_zero, List.set_cons_succ]
      clear LZ
      refine wpAnyZ_one (i := 11) (by kernel_rfl) (ReadyZ.mk rfl (fun K hK => ?_))
      go_simp
      have LY := Le.new V9 (.cells #[.slice A2 ln q2] 32)
      refine hK.out _ _ (fun _ => ⟨(LY.cell zR9).trans c3b, (LY.cell zE9).trans y1b⟩) ?_
      clear hK K
      try simp only [Act.put, List.setIfInBounds_toArray, List.set_cons_zero, List.set_cons_succ]
      refine wpAnyZ_one (i := 12) (by kernel_rfl) (ReadyZ.mk rfl (fun K hK => ?_))
      go_simp
      refine hK.out _ _ (fun _ => ⟨(LY.cell zR9).trans c3b, (LY.cell zE9).trans y1b⟩) ?_
      clear hK K
      try simp only [Act.put, List.setIfInBounds_toArray, List.set_cons_zero, List.set_cons_succ]
      have x8 : (V9.alloc (.cells #[.slice A2 ln q2] 32)).cell? ⟨V9.heap.size, 0, none⟩ = some (.slice A2 ln q2) := by rw [World.cell?_alloc_at _ _ _ _ rfl]; rfl
      have RXf := RX3.le LY
      have R7f := R73.le LY
      have Of := O9.le LY
      have Df := HD2.out.le LY
      have Lf := LV9.trans LY
      have hg8n : V9.heap.size ≠ V.heap.size := by have := R73.z; omega
      clear RX3 R73 O9 HD2 LV9 LY c3b y1b zR9 zE9
      have x8b : ((V9.alloc (.cells #[.slice A2 ln q2] 32)).setCell ⟨V.heap.size, 3, none⟩ (.slice A2 ln q2)).cell? ⟨V9.heap.size, 0, none⟩ = some (.slice A2 ln q2) := (cell_set_other (.inl hg8n.symm)).trans x8
      generalize V9.alloc (.cells #[.slice A2 ln q2] 32) = Wf at *
      refine wpAnyZ_done (by kernel_rfl) ?_ _
      refine NoPanic.normal ?_
      have hne7 : V.heap.size ≠ w.heap.size + 1 := by have := RX0.z; omega
      have k0 := R7f.c0
      have k1 := R7f.c1
      have k2 := R7f.c2
      have k3 := R7f.c3
      have fk3 := R7f.f 3
      have fk2 : (Wf.setCell ⟨V.heap.size, 3, none⟩ (.slice A2 ln q2)).frozen? ⟨V.heap.size, 2, none⟩ = false := (frz_set _ _ _ _ _ _).trans (R7f.f 2)
      have k2b : (Wf.setCell ⟨V.heap.size, 3, none⟩ (.slice A2 ln q2)).cell? ⟨V.heap.size, 2, none⟩ = some (.int .i64 f) := (cell_set_other (.inr (by decide))).trans k2
      have m0 : ((Wf.setCell ⟨V.heap.size, 3, none⟩ (.slice A2 ln q2)).setCell ⟨V.heap.size, 2, none⟩ (.int .i64 ix)).cell? ⟨V.heap.size, 0, none⟩ = some (.slice AL s.1.length cL) := (cell_set_other (.inr (by decide))).trans ((cell_set_other (.inr (by decide))).trans k0)
      have m1 : ((Wf.setCell ⟨V.heap.size, 3, none⟩ (.slice A2 ln q2)).setCell ⟨V.heap.size, 2, none⟩ (.int .i64 ix)).cell? ⟨V.heap.size, 1, none⟩ = some (.int .i64 2) := (cell_set_other (.inr (by decide))).trans ((cell_set_other (.inr (by decide))).trans k1)
      have m2 : ((Wf.setCell ⟨V.heap.size, 3, none⟩ (.slice A2 ln q2)).setCell ⟨V.heap.size, 2, none⟩ (.int .i64 ix)).cell? ⟨V.heap.size, 2, none⟩ = some (.int .i64 ix) := cell_set_same k2b
      have m3 : ((Wf.setCell ⟨V.heap.size, 3, none⟩ (.slice A2 ln q2)).setCell ⟨V.heap.size, 2, none⟩ (.int .i64 ix)).cell? ⟨V.heap.size, 3, none⟩ = some (.slice A2 ln q2) := (cell_set_other (.inr (by decide))).trans (cell_set_same k3)
      have s0 : ((Wf.setCell ⟨V.heap.size, 3, none⟩ (.slice A2 ln q2)).setCell ⟨V.heap.size, 2, none⟩ (.int .i64 ix)).cell? ⟨w.heap.size + 1, 0, none⟩ = some (.slice none 0 0) := (cell_set_other (.inl hne7)).trans ((cell_set_other (.inl hne7)).trans RXf.c0)
      have s1 : ((Wf.setCell ⟨V.heap.size, 3, none⟩ (.slice A2 ln q2)).setCell ⟨V.heap.size, 2, none⟩ (.int .i64 ix)).cell? ⟨w.heap.size + 1, 1, none⟩ = some (.int .i64 0) := (cell_set_other (.inl hne7)).trans ((cell_set_other (.inl hne7)).trans RXf.c1)
      have s2 : ((Wf.setCell ⟨V.heap.size, 3, none⟩ (.slice A2 ln q2)).setCell ⟨V.heap.size, 2, none⟩ (.int .i64 ix)).cell? ⟨w.heap.size + 1, 2, none⟩ = some (.int .i64 0) := (cell_set_other (.inl hne7)).trans ((cell_set_other (.inl hne7)).trans RXf.c2)
      have s3 : ((Wf.setCell ⟨V.heap.size, 3, none⟩ (.slice A2 ln q2)).setCell ⟨V.heap.size, 2, none⟩ (.int .i64 ix)).cell? ⟨w.heap.size + 1, 3, none⟩ = some (.slice none 0 0) := (cell_set_other (.inl hne7)).trans ((cell_set_other (.inl hne7)).trans RXf.c3)
      have fs : ∀ k, ((Wf.setCell ⟨V.heap.size, 3, none⟩ (.slice A2 ln q2)).setCell ⟨V.heap.size, 2, none⟩ (.int .i64 ix)).frozen? ⟨w.heap.size + 1, k, none⟩ = false := fun k => (frz_set _ _ _ _ _ _).trans ((frz_set _ _ _ _ _ _).trans (RXf.f k))
      have f0 := fs 0
      have f1 := fs 1
      have f2 := fs 2
      have f3 := fs 3
      have ho := out4 (a := .slice AL s.1.length cL) (b := .int .i64 2) (c := .int .i64 ix) (d := .slice A2 ln q2) s0 s1 s2 s3
      have HO : Hid (∀ a b c d, Owd 3 w ((((((Wf.setCell ⟨V.heap.size, 3, none⟩ (.slice A2 ln q2)).setCell ⟨V.heap.size, 2, none⟩ (.int .i64 ix)).setCell ⟨w.heap.size + 1, 0, none⟩ a).setCell ⟨w.heap.size + 1, 1, none⟩ b).setCell ⟨w.heap.size + 1, 2, none⟩ c).setCell ⟨w.heap.size + 1, 3, none⟩ d) (.slice AL s.1.length cL) s.1 ∧ Owd 74 w ((((((Wf.setCell ⟨V.heap.size, 3, none⟩ (.slice A2 ln q2)).setCell ⟨V.heap.size, 2, none⟩ (.int .i64 ix)).setCell ⟨w.heap.size + 1, 0, none⟩ a).setCell ⟨w.heap.size + 1, 1, none⟩ b).setCell ⟨w.heap.size + 1, 2, none⟩ c).setCell ⟨w.heap.size + 1, 3, none⟩ d) (.slice A2 ln q2) (isoL s.2 (reachL s.2 f))) := fun a b c d => ⟨(((((Of.setO R7f.l).setO R7f.l).setO RXf.l).setO RXf.l).setO RXf.l).setO RXf.l, (((((Df.setO hnh.out.2.1).setO hnh.out.2.1).setO hnh.out.1).setO hnh.out.1).setO hnh.out.1).setO hnh.out.1⟩
      have HL := Lib.hid (((((((Lf.setCell (b := V.heap.size) (o := 3) (by omega) (.slice A2 ln q2)).setCell (b := V.heap.size) (o := 2) (by omega) (.int .i64 ix)).setCell (b := w.heap.size + 1) (o := 0) (by omega) (.slice AL s.1.length cL)).setCell (b := w.heap.size + 1) (o := 1) (by omega) (.int .i64 2)).setCell (b := w.heap.size + 1) (o := 2) (by omega) (.int .i64 ix)).setCell (b := w.heap.size + 1) (o := 3) (by omega) (.slice A2 ln q2)))
      clear Of Df Lf fs RXf R7f
      go_wp2
      obtain ⟨z0, z1, z2, z3⟩ := ho
      exact bodyPost_ret (v := .agg #[.slice AL s.1.length cL, .int .i64 2, .int .i64 ix, .slice A2 ln q2]) (by simp [results, Try.results38, go_sem, z0, z1, z2, z3]) rfl ⟨_, _, ret4 rfl rfl HIX.out.symm rfl, (HO.out _ _ _ _).1, (HO.out _ _ _ _).2, P2.out, HL.out⟩
    · go_simp
      have LZ := Le.new V8 (.cells #[.slice none 0 0] 32)
      have x8 : (V8.alloc (.cells #[.slice none 0 0] 32)).cell? ⟨V8.heap.size, 0, none⟩ = some (.slice none 0 0) := by rw [World.cell?_alloc_at _ _ _ _ rfl]; rfl
      have fx8 : (V8.alloc (.cells #[.slice none 0 0] 32)).frozen? ⟨V8.heap.size, 0, none⟩ = false := World.frozen?_alloc_at _ _ _ _ rfl
      have zx8 : V8.heap.size < (V8.alloc (.cells #[.slice none 0 0] 32)).heap.size := by simp
      replace c3 := (LZ.cell zR).trans c3
      replace y1 := (LZ.cell zE).trans y1
      have hgR : V8.heap.size ≠ w.heap.size + 1 + 1 + 1 := by omega
      have hgE : V8.heap.size ≠ w5.heap.size := by omega
      have hbb := RX2.z
      have hbc := R72.z
      have hO8 := HO7.row.lt
      refine hK.out _ _ (fun _ => ⟨c3, y1⟩) ?_
      clear hK K
      try simp only [Act.put, List.setIfInBounds_toArray, List.set_cons_zero, List.set_cons_succ]
      replace zR := Nat.lt_of_lt_of_le zR LZ.size
      replace zE := Nat.lt_of_lt_of_le zE LZ.size
      replace SH := SH.le LZ
      replace RX2 := RX2.le LZ
      replace R72 := R72.le LZ
      replace HO7 := HO7.le LZ
      replace Lall := Lall.trans LZ
      clear LZ
      have hO9 : (Value.slice AL s.1.length cL).ownBlock ≠ some V8.heap.size := fun e => by have := (hO8 _ e).2; omega
      generalize V8.alloc (.cells #[.slice none 0 0] 32) = V8b at *
      refine wpAnyZ_one (i := 6) (by kernel_rfl) (ReadyZ.mk rfl (fun K hK => ?_))
      go_simp
      go_at_call 63
      refine (sIsolated_any AH s.2.length cH s.2 f V8b SH GL.out hfr.1 hfr.2 (by omega)).mono ?_
      rintro e V9 ⟨v2, rfl, D2, hl2⟩
      have c3b := (hl2.cell zR).trans c3
      have y1b := (hl2.cell zE).trans y1
      have HD2 := Lib.hid (D2.mono Lall)
      have P2 : Hid (Apart (.slice AL s.1.length cL) v2) := by
        show Apart _ _
        cases e : (Value.slice AL s.1.length cL).ownBlock with
        | none => exact .inl e
        | some k => exact .inr (fun e2 => by have h1 := (HO7.row.lt k e).2; have h2 := (D2.row.lt k (e2 ▸ e)).1; omega)
      have hnh : Hid (v2.ownBlock ≠ some (w.heap.size + 1) ∧ v2.ownBlock ≠ some V.heap.size ∧ v2.ownBlock ≠ some V8.heap.size) := by
        have h1 := RX2.z
        have h2 := R72.z
        exact ⟨fun e => by have := (D2.row.lt _ e).1; omega, fun e => by have := (D2.row.lt _ e).1; omega, fun e => by have := (D2.row.lt _ e).1; omega⟩
      obtain ⟨A2, q2, rfl⟩ := own_form D2.row
      obtain ⟨ix, hix⟩ : ∃ z, idx (reachL s.2 f) f 0 = z := ⟨_, rfl⟩
      have HIX : Hid (idx (reachL s.2 f) (id f) 0 = ix) := hix
      rw [hix]
      clear hix
      generalize (isoL s.2 (reachL s.2 f)).length = ln at *
      have LV9 := Lall.trans hl2
      have RX3 := RX2.le hl2
      have R73 := R72.le hl2
      have O9 := HO7.le hl2
      have hV9 := hl2.size
      have zR9 := Nat.lt_of_lt_of_le zR hl2.size
      have zE9 := Nat.lt_of_lt_of_le zE hl2.size
      replace x8 := (hl2.cell zx8).trans x8
      replace fx8 := (hl2.frozen zx8).trans fx8
      clear D2 hl2 SH c3 y1 RX2 R72 zR zE
      refine hK.out _ _ (fun _ => ⟨c3b, y1b⟩) ?_
      clear hK K
      try simp only [Act.put, List.setIfInBounds_toArray, List.set_cons_zero, List.set_cons_succ]
      refine wpAnyZ_take (i := 7) (v := ?_) rfl (by kernel_rfl) (fun _ _ _ h => h) (Or.inl ⟨by rfl, ?_⟩) (⟨c3b, y1b⟩) ?_
      rotate_left 1
      · (intro w hSw; (try dsimp only at hSw); go_simp; try with_reducible rfl)
      try simp only [Act.put, List.setIfInBounds_toArray, List.set_cons_zero, List.set_cons_succ]
      refine wpAnyZ_take (i := 8) (v := ?_) rfl (by kernel_rfl) (fun _ _ _ h => h) (Or.inl ⟨by rfl, ?_⟩) (⟨c3b, y1b⟩) ?_
      rotate_left 1
      · (intro w hSw; (try dsimp only at hSw); go_simp; try with_reducible rfl)
      try simp only [Act.put, List.setIfInBounds_toArray, List.set_cons_zero, List.set_cons_succ]
      refine wpAnyZ_take (i := 9) (v := ?_) rfl (by kernel_rfl) (fun _ _ _ h => h) (Or.inl ⟨by rfl, ?_⟩) (⟨c3b, y1b⟩) ?_
      rotate_left 1
      · (intro w hSw; (try dsimp only at hSw); go_simp; try with_reducible rfl)
      try simp only [Act.put, List.setIfInBounds_toArray, List.set_cons_zero, List.set_cons_succ]
      refine wpAnyZ_one (i := 11) (by kernel_rfl) (ReadyZ.mk rfl (fun K hK => ?_))
      go_simp
      have c3c : (V9.setCell ⟨V8.heap.size, 0, none⟩ (.slice A2 ln q2)).cell? ⟨w.heap.size + 1 + 1 + 1, 3, none⟩ = some (.slice AH s.2.length cH) := (cell_set_other (.inl hgR)).trans c3b
      have y1c : (V9.setCell ⟨V8.heap.size, 0, none⟩ (.slice A2 ln q2)).cell? ⟨w5.heap.size, 1, none⟩ = some (.int .i64 f) := (cell_set_other (.inl hgE)).trans y1b
      refine hK.out _ _ (fun _ => ⟨c3c, y1c⟩) ?_
      clear hK K
      try simp only [Act.put, List.setIfInBounds_toArray, List.set_cons_zero, List.set_cons_succ]
      refine wpAnyZ_one (i := 12) (by kernel_rfl) (ReadyZ.mk rfl (fun K hK => ?_))
      go_simp
      refine hK.out _ _ (fun _ => ⟨c3c, y1c⟩) ?_
      clear hK K
      try simp only [Act.put, List.setIfInBounds_toArray, List.set_cons_zero, List.set_cons_succ]
      have zV := R73.z
      have hne8 : V8.heap.size ≠ V.heap.size := by omega
      have hne9 : V8.heap.size ≠ w.heap.size + 1 := by omega
      have x8n : (V9.setCell ⟨V8.heap.size, 0, none⟩ (.slice A2 ln q2)).cell? ⟨V8.heap.size, 0, none⟩ = some (.slice A2 ln q2) := cell_set_same x8
      have gsz := grown_set V9 V8.heap.size 0 (.slice A2 ln q2)
      have RXf : Rx (V9.setCell ⟨V8.heap.size, 0, none⟩ (.slice A2 ln q2)) (w.heap.size + 1 + 1 + 1) (w.heap.size + 1) (.slice AL s.1.length cL) (.slice AH s.2.length cH) (.slice none 0 0) (.int .i64 0) (.int .i64 0) (.slice none 0 0) := ⟨by have := RX3.z; simp [World.setCell]; exact this, RX3.ne, RX3.l, RX3.h, (cell_set_other (.inl hne9)).trans RX3.c0, (cell_set_other (.inl hne9)).trans RX3.c1, (cell_set_other (.inl hne9)).trans RX3.c2, (cell_set_other (.inl hne9)).trans RX3.c3, fun k => (frz_set _ _ _ _ _ _).trans (RX3.f k)⟩
      have R7f : Rx (V9.setCell ⟨V8.heap.size, 0, none⟩ (.slice A2 ln q2)) (w.heap.size + 1 + 1 + 1) V.heap.size (.slice AL s.1.length cL) (.slice AH s.2.length cH) (.slice AL s.1.length cL) (.int .i64 2) (.int .i64 f) (.slice none 0 0) := ⟨by have := R73.z; simp [World.setCell]; exact this, R73.ne, R73.l, R73.h, (cell_set_other (.inl hne8)).trans R73.c0, (cell_set_other (.inl hne8)).trans R73.c1, (cell_set_other (.inl hne8)).trans R73.c2, (cell_set_other (.inl hne8)).trans R73.c3, fun k => (frz_set _ _ _ _ _ _).trans (R73.f k)⟩
      have Of := O9.setO (o := 0) (u := .slice A2 ln q2) hO9
      have Df := HD2.out.setO (o := 0) (u := .slice A2 ln q2) hnh.out.2.2
      have Lf := LV9.setCell (b := V8.heap.size) (o := 0) (by omega) (.slice A2 ln q2)
      clear RX3 R73 O9 HD2 LV9 c3b y1b c3c y1c zR9 zE9 gsz x8 fx8
      have x8b : ((V9.setCell ⟨V8.heap.size, 0, none⟩ (.slice A2 ln q2)).setCell ⟨V.heap.size, 3, none⟩ (.slice A2 ln q2)).cell? ⟨V8.heap.size, 0, none⟩ = some (.slice A2 ln q2) := (cell_set_other (.inl hne8.symm)).trans x8n
      generalize V9.setCell ⟨V8.heap.size, 0, none⟩ (.slice A2 ln q2) = Wf at *
      refine wpAnyZ_done (by kernel_rfl) ?_ _
      refine NoPanic.normal ?_
      have hne7 : V.heap.size ≠ w.heap.size + 1 := by have := RX0.z; omega
      have k0 := R7f.c0
      have k1 := R7f.c1
      have k2 := R7f.c2
      have k3 := R7f.c3
      have fk3 := R7f.f 3
      have fk2 : (Wf.setCell ⟨V.heap.size, 3, none⟩ (.slice A2 ln q2)).frozen? ⟨V.heap.size, 2, none⟩ = false := (frz_set _ _ _ _ _ _).trans (R7f.f 2)
      have k2b : (Wf.setCell ⟨V.heap.size, 3, none⟩ (.slice A2 ln q2)).cell? ⟨V.heap.size, 2, none⟩ = some (.int .i64 f) := (cell_set_other (.inr (by decide))).trans k2
      have m0 : ((Wf.setCell ⟨V.heap.size, 3, none⟩ (.slice A2 ln q2)).setCell ⟨V.heap.size, 2, none⟩ (.int .i64 ix)).cell? ⟨V.heap.size, 0, none⟩ = some (.slice AL s.1.length cL) := (cell_set_other (.inr (by decide))).trans ((cell_set_other (.inr (by decide))).trans k0)
      have m1 : ((Wf.setCell ⟨V.heap.size, 3, none⟩ (.slice A2 ln q2)).setCell ⟨V.heap.size, 2, none⟩ (.int .i64 ix)).cell? ⟨V.heap.size, 1, none⟩ = some (.int .i64 2) := (cell_set_other (.inr (by decide))).trans ((cell_set_other (.inr (by decide))).trans k1)
      have m2 : ((Wf.setCell ⟨V.heap.size, 3, none⟩ (.slice A2 ln q2)).setCell ⟨V.heap.size, 2, none⟩ (.int .i64 ix)).cell? ⟨V.heap.size, 2, none⟩ = some (.int .i64 ix) := cell_set_same k2b
      have m3 : ((Wf.setCell ⟨V.heap.size, 3, none⟩ (.slice A2 ln q2)).setCell ⟨V.heap.size, 2, none⟩ (.int .i64 ix)).cell? ⟨V.heap.size, 3, none⟩ = some (.slice A2 ln q2) := (cell_set_other (.inr (by decide))).trans (cell_set_same k3)
      have s0 : ((Wf.setCell ⟨V.heap.size, 3, none⟩ (.slice A2 ln q2)).setCell ⟨V.heap.size, 2, none⟩ (.int .i64 ix)).cell? ⟨w.heap.size + 1, 0, none⟩ = some (.slice none 0 0) := (cell_set_other (.inl hne7)).trans ((cell_set_other (.inl hne7)).trans RXf.c0)
      have s1 : ((Wf.setCell ⟨V.heap.size, 3, none⟩ (.slice A2 ln q2)).setCell ⟨V.heap.size, 2, none⟩ (.int .i64 ix)).cell? ⟨w.heap.size + 1, 1, none⟩ = some (.int .i64 0) := (cell_set_other (.inl hne7)).trans ((cell_set_other (.inl hne7)).trans RXf.c1)
      have s2 : ((Wf.setCell ⟨V.heap.size, 3, none⟩ (.slice A2 ln q2)).setCell ⟨V.heap.size, 2, none⟩ (.int .i64 ix)).cell? ⟨w.heap.size + 1, 2, none⟩ = some (.int .i64 0) := (cell_set_other (.inl hne7)).trans ((cell_set_other (.inl hne7)).trans RXf.c2)
      have s3 : ((Wf.setCell ⟨V.heap.size, 3, none⟩ (.slice A2 ln q2)).setCell ⟨V.heap.size, 2, none⟩ (.int .i64 ix)).cell? ⟨w.heap.size + 1, 3, none⟩ = some (.slice none 0 0) := (cell_set_other (.inl hne7)).trans ((cell_set_other (.inl hne7)).trans RXf.c3)
      have fs : ∀ k, ((Wf.setCell ⟨V.heap.size, 3, none⟩ (.slice A2 ln q2)).setCell ⟨V.heap.size, 2, none⟩ (.int .i64 ix)).frozen? ⟨w.heap.size + 1, k, none⟩ = false := fun k => (frz_set _ _ _ _ _ _).trans ((frz_set _ _ _ _ _ _).trans (RXf.f k))
      have f0 := fs 0
      have f1 := fs 1
      have f2 := fs 2
      have f3 := fs 3
      have ho := out4 (a := .slice AL s.1.length cL) (b := .int .i64 2) (c := .int .i64 ix) (d := .slice A2 ln q2) s0 s1 s2 s3
      have HO : Hid (∀ a b c d, Owd 3 w ((((((Wf.setCell ⟨V.heap.size, 3, none⟩ (.slice A2 ln q2)).setCell ⟨V.heap.size, 2, none⟩ (.int .i64 ix)).setCell ⟨w.heap.size + 1, 0, none⟩ a).setCell ⟨w.heap.size + 1, 1, none⟩ b).setCell ⟨w.heap.size + 1, 2, none⟩ c).setCell ⟨w.heap.size + 1, 3, none⟩ d) (.slice AL s.1.length cL) s.1 ∧ Owd 74 w ((((((Wf.setCell ⟨V.heap.size, 3, none⟩ (.slice A2 ln q2)).setCell ⟨V.heap.size, 2, none⟩ (.int .i64 ix)).setCell ⟨w.heap.size + 1, 0, none⟩ a).setCell ⟨w.heap.size + 1, 1, none⟩ b).setCell ⟨w.heap.size + 1, 2, none⟩ c).setCell ⟨w.heap.size + 1, 3, none⟩ d) (.slice A2 ln q2) (isoL s.2 (reachL s.2 f))) := fun a b c d => ⟨(((((Of.setO R7f.l).setO R7f.l).setO RXf.l).setO RXf.l).setO RXf.l).setO RXf.l, (((((Df.setO hnh.out.2.1).setO hnh.out.2.1).setO hnh.out.1).setO hnh.out.1).setO hnh.out.1).setO hnh.out.1⟩
      have HL := Lib.hid (((((((Lf.setCell (b := V.heap.size) (o := 3) (by omega) (.slice A2 ln q2)).setCell (b := V.heap.size) (o := 2) (by omega) (.int .i64 ix)).setCell (b := w.heap.size + 1) (o := 0) (by omega) (.slice AL s.1.length cL)).setCell (b := w.heap.size + 1) (o := 1) (by omega) (.int .i64 2)).setCell (b := w.heap.size + 1) (o := 2) (by omega) (.int .i64 ix)).setCell (b := w.heap.size + 1) (o := 3) (by omega) (.slice A2 ln q2)))
      clear Of Df Lf fs RXf R7f
      go_wp2
      obtain ⟨z0, z1, z2, z3⟩ := ho
      exact bodyPost_ret (v := .agg #[.slice AL s.1.length cL, .int .i64 2, .int .i64 ix, .slice A2 ln q2]) (by simp [results, Try.results38, go_sem, z0, z1, z2, z3]) rfl ⟨_, _, ret4 rfl rfl HIX.out.symm rfl, (HO.out _ _ _ _).1, (HO.out _ _ _ _).2, P2.out, HL.out⟩
  · exact absurd rfl hnb.1
  · exact absurd rfl hnb.2
end Go.Proofs.Ytlepgfccnfcagaa
