/- one text of RnC, PhC, PhD, HpB, PhF, PhI, PhB, PhJ -/
import Derived.Test.YtlepgfccnfcagaaWp1
import Derived.Test.YtlepgfccnfcagaaWp2
namespace Go.Proofs.Ytlepgfccnfcagaa
open Go.RowKit
set_option linter.unusedVariables false
section
set_option maxRecDepth 100000 in
theorem att_pan (b : Nat) (x : Value) (T : TypeId) (z : Value) (older : List PanicEntry) (w : World) (hc : w.cell? ⟨b, 0, none⟩ = some x) (hz : w.frozen? ⟨b, 0, none⟩ = false) :
    CallsD Try.prog 57 #[.pointer (some ⟨b, 0, none⟩)] (.panicking ({ v := .iface T z, recovered := false } :: older)) w fun e u' w' =>
      e = .returned (.tuple #[]) ∧ u' = .panicking ({ v := .iface T z, recovered := true } :: older) ∧ w' = w.setCell ⟨b, 0, none⟩ (.iface T z) := by
  refine callsD_of_wpS Try.func57 rfl fun c₀ cs hu => ?_
  apply wpS_region
  simp [wpOpsS, go_sem, recoverD, hu, Try.ntmps57, hc, hz, bodyPostS, results, Try.results57]
set_option maxRecDepth 100000 in
theorem att_idle (b : Nat) (x : Value) (w : World) (hc : w.cell? ⟨b, 0, none⟩ = some x) (hz : w.frozen? ⟨b, 0, none⟩ = false) :
    CallsD Try.prog 57 #[.pointer (some ⟨b, 0, none⟩)] .returning w fun e u' w' =>
      e = .returned (.tuple #[]) ∧ u' = .returning ∧ w' = w.setCell ⟨b, 0, none⟩ .nilIface := by
  refine callsD_of_wpS Try.func57 rfl fun c₀ cs hu => ?_
  apply wpS_region
  simp [wpOpsS, go_sem, recoverD, hu, Try.ntmps57, hc, hz, bodyPostS, results, Try.results57]
  cases c₀
  simp_all
/-- what a run has told and raised so far -/
abbrev Rst := List Int × List Flt
/-- a call of the runner does what is said of it -/
def RunOk (R m c n cap : Nat) (B A : Option Addr) (xs : List Cls) (p : List Lin) (f : FuncId) (args : Array Value) (lv hv : Value) (w : World) (r : Lft × Rst) : Prop :=
  Calls Try.prog f args w fun e w' => e = lfE r.1 ∧ ∃ lv' hv', Rn w' R B m c xs A n cap p lv' hv' r.2.1 r.2.2 ∧ Kp R lv hv lv' hv' w w'
/-- lines one after another -/
def goB (ln : Nat → Rst → Lft × Rst) (p : List Lin) (b : Nat) : Nat → Nat → Rst → Lft × Rst
  | 0, _, s => (.nil, s)
  | k + 1, i, s => if i < b then (match ln i s with | (.nil, s2) => goB ln p b k (bEnd p i) s2 | (l, s2) => (l, s2)) else (.nil, s)
theorem goB_end {ln : Nat → Rst → Lft × Rst} {p : List Lin} {b i : Nat} (h : ¬ i < b) (k : Nat) (s : Rst) : goB ln p b k i s = (.nil, s) := by
  cases k with
  | zero => rfl
  | succ k => exact if_neg h
theorem goB_nil {ln : Nat → Rst → Lft × Rst} {p : List Lin} {b i : Nat} (h : i < b) (k : Nat) {s s2 : Rst} (e : ln i s = (.nil, s2)) : goB ln p b (k + 1) i s = goB ln p b k (bEnd p i) s2 := by
  show (if i < b then _ else _) = _
  rw [if_pos h, e]
theorem goB_out {ln : Nat → Rst → Lft × Rst} {p : List Lin} {b i : Nat} (h : i < b) (k : Nat) {s s2 : Rst} {l : Lft} (hl : l ≠ .nil) (e : ln i s = (l, s2)) : goB ln p b (k + 1) i s = (l, s2) := by
  show (if i < b then _ else _) = _
  rw [if_pos h, e]
  cases l
  · exact absurd rfl hl
  all_goals rfl
section
variable {w w' : World} {R m c n cap : Nat} {B A : Option Addr} {xs : List Cls} {p : List Lin} {lv hv : Value} {lg : List Int} {hs : List Flt}
/-- a store into a box of a caller leaves the run's memory as it was -/
theorem Rn.box (h : Rn w R B m c xs A n cap p lv hv lg hs) {g o : Nat} (hR : R < g) (hl : lv.ownBlock ≠ some g) (hh : hv.ownBlock ≠ some g) (u : Value) : Rn (w.setCell ⟨g, o, none⟩ u) R B m c xs A n cap p lv hv lg hs := by
  have gs := grown_set w g o u
  have hzz : (w.setCell ⟨g, o, none⟩ u).heap.size = w.heap.size := by simp [World.setCell]
  have hfr : ∀ k, (w.setCell ⟨g, o, none⟩ u).frozen? ⟨R, k, none⟩ = w.frozen? ⟨R, k, none⟩ := fun k => World.frozen?_of_block (a := ⟨R, k, none⟩) (gs.block R h.z (fun e => by injection e with e; omega))
  have ho : ∀ {v : Value}, v.ownBlock ≠ some g → v.ownBlock = none ∨ v.ownBlock ≠ some g := fun hv => .inr hv
  exact ⟨by rw [hzz]; exact h.z, (cell_set_other (.inl (by omega))).trans h.c0, (cell_set_other (.inl (by omega))).trans h.c1, (cell_set_other (.inl (by omega))).trans h.c2, (cell_set_other (.inl (by omega))).trans h.c3, (hfr 2).trans h.f2, (hfr 3).trans h.f3,
    h.S.grown gs (fun hn a e e2 => by have := h.hB hn a e; have e3 : a.block = g := (by injection e2); omega), h.T.grown gs (fun hn a e e2 => by have := h.hA hn a e; have e3 : a.block = g := (by injection e2); omega), h.hB, h.hA, h.O.kept gs (ho hl), h.H.kept gs (ho hh), h.ap, h.okl, h.okh, h.nl, h.nh⟩
/-- a store into a box that was made behind the first world -/
theorem Kp.box {w0 : World} {lv0 hv0 : Value} (h : Kp R lv0 hv0 lv hv w0 w) {g o : Nat} (hg : w0.heap.size ≤ g) (u : Value) : Kp R lv0 hv0 lv hv w0 (w.setCell ⟨g, o, none⟩ u) := by
  have gs := grown_set w g o u
  have hzz : (w.setCell ⟨g, o, none⟩ u).heap.size = w.heap.size := by simp [World.setCell]
  exact ⟨gs.os.trans h.os, gs.tape.trans h.tape, gs.output.trans h.output, by rw [hzz]; exact h.size, fun b hb h1 h2 h3 => (gs.block b (Nat.lt_of_lt_of_le hb h.size) (fun e => by injection e with e; omega)).trans (h.blk b hb h1 h2 h3), h.lo, h.ho⟩
theorem Kp.ownL {w0 : World} {lv0 hv0 : Value} (h : Kp R lv0 hv0 lv hv w0 w) {g : Nat} (hg : g < w0.heap.size) (hl : lv0.ownBlock ≠ some g) : lv.ownBlock ≠ some g := fun e => by
  rcases h.lo with h1 | h1
  · exact hl (h1 ▸ e)
  · have := h1 g e; omega
theorem Kp.ownH {w0 : World} {lv0 hv0 : Value} (h : Kp R lv0 hv0 lv hv w0 w) {g : Nat} (hg : g < w0.heap.size) (hl : hv0.ownBlock ≠ some g) : hv.ownBlock ≠ some g := fun e => by
  rcases h.ho with h1 | h1
  · exact hl (h1 ▸ e)
  · have := h1 g e; omega
theorem Kp.cell {w0 : World} {lv0 hv0 : Value} (h : Kp R lv0 hv0 lv hv w0 w) {g o : Nat} {v : Value} (hg : g < w0.heap.size) (hR : g ≠ R) (hl : lv0.ownBlock ≠ some g) (hh : hv0.ownBlock ≠ some g) (hc : w0.cell? ⟨g, o, none⟩ = some v) : w.cell? ⟨g, o, none⟩ = some v :=
  (World.cell?_of_block (a := ⟨g, o, none⟩) (h.blk g hg hR hl hh)).trans hc
theorem Kp.frozen {w0 : World} {lv0 hv0 : Value} (h : Kp R lv0 hv0 lv hv w0 w) {g o : Nat} {v : Bool} (hg : g < w0.heap.size) (hR : g ≠ R) (hl : lv0.ownBlock ≠ some g) (hh : hv0.ownBlock ≠ some g) (hc : w0.frozen? ⟨g, o, none⟩ = v) : w.frozen? ⟨g, o, none⟩ = v :=
  (World.frozen?_of_block (a := ⟨g, o, none⟩) (h.blk g hg hR hl hh)).trans hc
end
set_option maxHeartbeats 4000000 in
set_option maxRecDepth 100000 in
theorem attempt_any (R m c n cap : Nat) (B A : Option Addr) (xs : List Cls) (p : List Lin) (ln : Nat → Rst → Lft × Rst) (Iv : Nat → Rst → Prop) (a b : Nat) (h : Int) (hb : b ≤ p.length) (hp : p.length ≤ 24) (hab : a ≤ p.length)
    (HL : ∀ i s lv hv w, a ≤ i → i < b → Iv i s → Rn w R B m c xs A n cap p lv hv s.1 s.2 → RunOk R m c n cap B A xs p 59 #[.pointer (some ⟨R, 0, none⟩), .int .i64 i, .int .i64 h] lv hv w (ln i s))
    (HI : ∀ i s s2, a ≤ i → i < b → Iv i s → ln i s = (.nil, s2) → Iv (bEnd p i) s2)
    (s : Rst) (hs : Iv a s) (lv hv : Value) (w : World) (H : Rn w R B m c xs A n cap p lv hv s.1 s.2) :
    Calls Try.prog 36 #[.pointer (some ⟨R, 0, none⟩), .int .i64 a, .int .i64 b, .int .i64 h] w fun e w' => e = .returned (lfV (goB ln p b 25 a s).1) ∧ ∃ lv' hv', Rn w' R B m c xs A n cap p lv' hv' (goB ln p b 25 a s).2.1 (goB ln p b 25 a s).2.2 ∧ Kp R lv hv lv' hv' w w' := by
  have hmf : ∀ (fn : Fn) (first cap : Array Value) (w : World), (Instr.makeFunc fn first cap).run Try.prog w = .ok (.func fn first cap) w := fun _ _ _ _ => rfl
  go_enter_defers Try.func36, Try.ntmps36
  have LX := Le.new w (.cells #[.nilIface] 20)
  have H0 := H.le LX
  have zx : w.heap.size < (w.alloc (.cells #[.nilIface] 20)).heap.size := by simp
  have b0 : (w.alloc (.cells #[.nilIface] 20)).cell? ⟨w.heap.size, 0, none⟩ = some .nilIface := by rw [World.cell?_alloc_at _ _ _ _ rfl]; rfl
  have fb : (w.alloc (.cells #[.nilIface] 20)).frozen? ⟨w.heap.size, 0, none⟩ = false := World.frozen?_alloc_at _ _ _ _ rfl
  have K0 := Kp.of_le R lv hv LX
  have hRw := H.z
  have hlw : lv.ownBlock ≠ some w.heap.size := fun e => by have := (H.O.lt _ e).2; omega
  have hhw : hv.ownBlock ≠ some w.heap.size := fun e => by have := (H.H.lt _ e).2; omega
  go_wp2
  go_loopw [9] (fun ii wr => ∃ (i k : Nat) (s2 : Rst) (lv2 hv2 : Value), ii = .int .i64 i ∧ a ≤ i ∧ b ≤ k + i ∧ i ≤ p.length + 1 ∧ Iv i s2 ∧ goB ln p b 25 a s = goB ln p b k i s2 ∧ Rn wr R B m c xs A n cap p lv2 hv2 s2.1 s2.2 ∧ Kp R lv hv lv2 hv2 (w.alloc (.cells #[.nilIface] 20)) wr) (fun ii _ => b - (intOf ii).toNat)
  case atStart => exact ⟨a, 25, s, lv, hv, rfl, Nat.le_refl _, by omega, by omega, hs, rfl, H0, Kp.refl R lv hv _⟩
  case round =>
    obtain ⟨i, k, s2, lv2, hv2, rfl, hai, hbk, hip, hiv, hg, RN, KP⟩ := hrel
    have b1 : wr.cell? ⟨w.heap.size, 0, none⟩ = some .nilIface := (World.cell?_of_block (a := ⟨w.heap.size, 0, none⟩) (KP.blk w.heap.size zx (by omega) hlw hhw)).trans b0
    have f1 : wr.frozen? ⟨w.heap.size, 0, none⟩ = false := (World.frozen?_of_block (a := ⟨w.heap.size, 0, none⟩) (KP.blk w.heap.size zx (by omega) hlw hhw)).trans fb
    have z1 := Nat.lt_of_lt_of_le zx KP.size
    by_cases hib : i < b
    · have hibi : (i : Int) < (b : Int) := by omega
      go_wp2_with fail
      have HC := HL i s2 lv2 hv2 wr hai hib hiv RN
      refine (show Calls _ _ _ _ _ from HC).mono ?_
      rintro e w2 ⟨rfl, lv3, hv3, RN3, KP3⟩
      have z2 := Nat.lt_of_lt_of_le z1 KP3.size
      have hl2 := KP.ownL zx hlw
      have hh2 := KP.ownH zx hhw
      have b2 := KP3.cell z1 (by omega) hl2 hh2 b1
      have f2 := KP3.frozen z1 (by omega) hl2 hh2 f1
      have hl3 := KP3.ownL z1 hl2
      have hh3 := KP3.ownH z1 hh2
      have KQ := KP.trans KP3
      obtain ⟨k, rfl⟩ : ∃ k', k = k' + 1 := ⟨k - 1, by omega⟩
      rcases hln : ln i s2 with ⟨l, s3⟩
      rw [hln] at RN3
      have hbg := bEnd_gt p i
      have hbe := bEnd_le (show i < p.length by omega)
      rcases l with _ | v | f | _ | _
      · have HI2 := HI i s2 s3 hai hib hiv hln
        have HG : Hid (goB ln p b 25 a s = goB ln p b k (bEnd p i) s3) := by show _ = _; rw [hg]; exact goB_nil hib k hln
        have c1 := RN3.c1
        have zR := RN3.z
        clear hg
        simp only [lfE]
        go_wp2_with fail
        refine (iBlockEnd_any A n cap p i (by omega) w2 RN3.T).mono ?_
        rintro e w5 ⟨rfl, hle5⟩
        go_wp2
        go_roundw
        case rel => exact ⟨bEnd p i, k, s3, lv3, hv3, rfl, by omega, by omega, by omega, HI2, HG.out, RN3.le hle5, KQ.trans (Kp.of_le R lv3 hv3 hle5)⟩
        case measure => simp [intOf]; omega
      · have HG : Hid (goB ln p b 25 a s = ((.ret v), s3)) := by show _ = _; rw [hg]; exact goB_out hib k (by intro h; cases h) hln
        clear hg
        show bodyPostD _ _ _ (Exit.panic _) _ _
        refine leaves_cons (f := 57) (args := #[.pointer (some ⟨w.heap.size, 0, none⟩)]) (by simp) (by simp [go_sem]) ?_
        refine (att_pan w.heap.size .nilIface _ _ [] w2 b2 f2).mono ?_
        rintro e u' w3 ⟨rfl, rfl, rfl⟩
        have HR := Lib.hid (And.intro (RN3.box (g := w.heap.size) (o := 0) (by omega) hl3 hh3 (lfV (.ret v))) ((K0.trans KQ).box (g := w.heap.size) (o := 0) (Nat.le_refl _) (lfV (.ret v))))
        have hend : ∀ u, (w2.setCell ⟨w.heap.size, 0, none⟩ u).cell? ⟨w.heap.size, 0, none⟩ = some u := fun u => cell_set_same b2
        rw [HG.out]
        simp [Leaves, settle, results, Try.results36, go_sem, hend, lfV]
        exact ⟨_, _, HR.out.1, HR.out.2⟩
      · have HG : Hid (goB ln p b 25 a s = ((.rai f), s3)) := by show _ = _; rw [hg]; exact goB_out hib k (by intro h; cases h) hln
        clear hg
        show bodyPostD _ _ _ (Exit.panic _) _ _
        refine leaves_cons (f := 57) (args := #[.pointer (some ⟨w.heap.size, 0, none⟩)]) (by simp) (by simp [go_sem]) ?_
        refine (att_pan w.heap.size .nilIface _ _ [] w2 b2 f2).mono ?_
        rintro e u' w3 ⟨rfl, rfl, rfl⟩
        have HR := Lib.hid (And.intro (RN3.box (g := w.heap.size) (o := 0) (by omega) hl3 hh3 (lfV (.rai f))) ((K0.trans KQ).box (g := w.heap.size) (o := 0) (Nat.le_refl _) (lfV (.rai f))))
        have hend : ∀ u, (w2.setCell ⟨w.heap.size, 0, none⟩ u).cell? ⟨w.heap.size, 0, none⟩ = some u := fun u => cell_set_same b2
        rw [HG.out]
        simp [Leaves, settle, results, Try.results36, go_sem, hend, lfV]
        exact ⟨_, _, HR.out.1, HR.out.2⟩
      · have HG : Hid (goB ln p b 25 a s = (.brk, s3)) := by show _ = _; rw [hg]; exact goB_out hib k (by intro h; cases h) hln
        clear hg
        show bodyPostD _ _ _ (Exit.panic _) _ _
        refine leaves_cons (f := 57) (args := #[.pointer (some ⟨w.heap.size, 0, none⟩)]) (by simp) (by simp [go_sem]) ?_
        refine (att_pan w.heap.size .nilIface _ _ [] w2 b2 f2).mono ?_
        rintro e u' w3 ⟨rfl, rfl, rfl⟩
        have HR := Lib.hid (And.intro (RN3.box (g := w.heap.size) (o := 0) (by omega) hl3 hh3 (lfV .brk)) ((K0.trans KQ).box (g := w.heap.size) (o := 0) (Nat.le_refl _) (lfV .brk)))
        have hend : ∀ u, (w2.setCell ⟨w.heap.size, 0, none⟩ u).cell? ⟨w.heap.size, 0, none⟩ = some u := fun u => cell_set_same b2
        rw [HG.out]
        simp [Leaves, settle, results, Try.results36, go_sem, hend, lfV]
        exact ⟨_, _, HR.out.1, HR.out.2⟩
      · have HG : Hid (goB ln p b 25 a s = (.cnt, s3)) := by show _ = _; rw [hg]; exact goB_out hib k (by intro h; cases h) hln
        clear hg
        show bodyPostD _ _ _ (Exit.panic _) _ _
        refine leaves_cons (f := 57) (args := #[.pointer (some ⟨w.heap.size, 0, none⟩)]) (by simp) (by simp [go_sem]) ?_
        refine (att_pan w.heap.size .nilIface _ _ [] w2 b2 f2).mono ?_
        rintro e u' w3 ⟨rfl, rfl, rfl⟩
        have HR := Lib.hid (And.intro (RN3.box (g := w.heap.size) (o := 0) (by omega) hl3 hh3 (lfV .cnt)) ((K0.trans KQ).box (g := w.heap.size) (o := 0) (Nat.le_refl _) (lfV .cnt)))
        have hend : ∀ u, (w2.setCell ⟨w.heap.size, 0, none⟩ u).cell? ⟨w.heap.size, 0, none⟩ = some u := fun u => cell_set_same b2
        rw [HG.out]
        simp [Leaves, settle, results, Try.results36, go_sem, hend, lfV]
        exact ⟨_, _, HR.out.1, HR.out.2⟩
    · have hibi : ¬ (i : Int) < (b : Int) := by omega
      have hE := goB_end (ln := ln) (p := p) hib k s2
      rw [hE] at hg
      clear hE
      have HG := Lib.hid hg
      clear hg
      go_wp2
      refine leaves_cons (f := 57) (args := #[.pointer (some ⟨w.heap.size, 0, none⟩)]) (by simp) (by simp [go_sem]) ?_
      refine (att_idle w.heap.size .nilIface _ (cell_set_same b1) (by rw [fr_set]; exact f1)).mono ?_
      rintro e u' w3 ⟨rfl, rfl, rfl⟩
      have HR := Lib.hid (And.intro ((RN.box (g := w.heap.size) (o := 0) (by omega) (KP.ownL zx hlw) (KP.ownH zx hhw) .nilIface).box (g := w.heap.size) (o := 0) (by omega) (KP.ownL zx hlw) (KP.ownH zx hhw) .nilIface) (((K0.trans KP).box (g := w.heap.size) (o := 0) (Nat.le_refl _) .nilIface).box (g := w.heap.size) (o := 0) (Nat.le_refl _) .nilIface))
      have hend : ((wr.setCell ⟨w.heap.size, 0, none⟩ .nilIface).setCell ⟨w.heap.size, 0, none⟩ .nilIface).cell? ⟨w.heap.size, 0, none⟩ = some .nilIface := cell_set_same (cell_set_same b1)
      rw [HG.out]
      simp [Leaves, settle, results, Try.results36, go_sem, hend, lfV]
      exact ⟨_, _, HR.out.1, HR.out.2⟩
end

section
theorem bf {a b : Int} (h : a ≠ b) : (a == b) = false := beq_eq_false_iff_ne.2 h
theorem hasBlock_any (k : Int) (w : World) : Calls Try.prog 41 #[.int .i64 k] w fun e w' => e = .returned (.bool (opn k)) ∧ w = w' := by
  by_cases h : 7 ≤ k ∧ k ≤ 12
  · have h6 : k = 7 ∨ k = 8 ∨ k = 9 ∨ k = 10 ∨ k = 11 ∨ k = 12 := by omega
    rcases h6 with rfl | rfl | rfl | rfl | rfl | rfl
    all_goals
      go_enter Try.func41, Try.ntmps41
      go_wp2
      go_ret
      exact ⟨rfl, rfl⟩
  · have b7 := bf (show k ≠ 7 by omega)
    have b8 := bf (show k ≠ 8 by omega)
    have b9 := bf (show k ≠ 9 by omega)
    have b10 := bf (show k ≠ 10 by omega)
    have b11 := bf (show k ≠ 11 by omega)
    have b12 := bf (show k ≠ 12 by omega)
    have HF : Hid (opn k = false) := by
      show _ = _
      cases e : opn k
      · rfl
      · exact absurd (opn_iff.1 e) h
    clear h
    go_enter Try.func41, Try.ntmps41
    go_wp2
    go_ret
    exact ⟨ret_bool HF.out.symm, rfl⟩
theorem mayF_not {a k : Int} (h : ¬ ((k = 8 ∧ (a = 7 ∨ a = 8)) ∨ (k = 9 ∧ a = 8) ∨ (k = 10 ∧ (a = 7 ∨ a = 8 ∨ a = 9)))) : mayF a k = false := by
  cases e : mayF a k
  · rfl
  · exact absurd (mayF_iff.1 e) h
theorem mayFollow_any (a k : Int) (w : World) : Calls Try.prog 104 #[.int .i64 a, .int .i64 k] w fun e w' => e = .returned (.bool (mayF a k)) ∧ w = w' := by
  by_cases h8 : k = 8
  · subst h8
    by_cases a7 : a = 7
    · subst a7
      go_enter Try.func104, Try.ntmps104
      go_wp2
      go_ret
      exact ⟨rfl, rfl⟩
    · by_cases a8 : a = 8
      · subst a8
        go_enter Try.func104, Try.ntmps104
        go_wp2
        go_ret
        exact ⟨rfl, rfl⟩
      · have HF := Lib.hid (mayF_not (a := a) (k := 8) (by omega))
        have b7 := bf a7
        have b8 := bf a8
        clear a7 a8
        go_enter Try.func104, Try.ntmps104
        go_wp2
        go_ret
        exact ⟨ret_bool HF.out.symm, rfl⟩
  · by_cases h9 : k = 9
    · subst h9
      by_cases a8 : a = 8
      · subst a8
        go_enter Try.func104, Try.ntmps104
        go_wp2
        go_ret
        exact ⟨rfl, rfl⟩
      · have HF := Lib.hid (mayF_not (a := a) (k := 9) (by omega))
        have b8 := bf a8
        clear a8
        go_enter Try.func104, Try.ntmps104
        go_wp2
        go_ret
        exact ⟨ret_bool HF.out.symm, rfl⟩
    · by_cases h10 : k = 10
      · subst h10
        by_cases a789 : a = 7 ∨ a = 8 ∨ a = 9
        · rcases a789 with rfl | rfl | rfl
          all_goals
            go_enter Try.func104, Try.ntmps104
            go_wp2
            go_ret
            exact ⟨rfl, rfl⟩
        · have HF := Lib.hid (mayF_not (a := a) (k := 10) (by omega))
          have b7 := bf (show a ≠ 7 by omega)
          have b8 := bf (show a ≠ 8 by omega)
          have b9 := bf (show a ≠ 9 by omega)
          clear a789
          go_enter Try.func104, Try.ntmps104
          go_wp2
          go_ret
          exact ⟨ret_bool HF.out.symm, rfl⟩
      · have HF := Lib.hid (mayF_not (a := a) (k := k) (by omega))
        have b8 := bf h8
        have b9 := bf h9
        have b10 := bf h10
        clear h8 h9 h10
        go_enter Try.func104, Try.ntmps104
        go_wp2
        go_ret
        exact ⟨ret_bool HF.out.symm, rfl⟩
theorem mostNumbers_any (A : Option Addr) (n c : Nat) (k : Int) (w : World) (hn : n ≤ 1048576) :
    Calls Try.prog 66 #[.agg #[.slice A n c], .int .i64 k] w fun e w' => e = .returned (.tuple #[.int .i64 (mostA n k), .int .i64 (mostB k)]) ∧ Le w w' := by
  have hw : IntKind.i64.wrap ((n : Int) - 1) = (n : Int) - 1 := IntWalk.i64_in _ (by omega)
  by_cases h : 0 ≤ k ∧ k ≤ 12
  · have h6 : k = 0 ∨ k = 1 ∨ k = 2 ∨ k = 3 ∨ k = 4 ∨ k = 5 ∨ k = 6 ∨ k = 7 ∨ k = 8 ∨ k = 9 ∨ k = 10 ∨ k = 11 ∨ k = 12 := by omega
    rcases h6 with rfl | rfl | rfl | rfl | rfl | rfl | rfl | rfl | rfl | rfl | rfl | rfl | rfl
    · go_enter Try.func66, Try.ntmps66
      go_wp2
      exact bodyPost_ret (v := .tuple #[.int .i64 0, .int .i64 0]) (by simp [results, Try.results66, go_sem]) rfl ⟨rfl, Le.new w _⟩
    · go_enter Try.func66, Try.ntmps66
      go_wp2
      exact bodyPost_ret (v := .tuple #[.int .i64 99, .int .i64 0]) (by simp [results, Try.results66, go_sem]) rfl ⟨rfl, Le.new w _⟩
    · go_enter Try.func66, Try.ntmps66
      go_wp2
      exact bodyPost_ret (v := .tuple #[.int .i64 ((n : Int) - 1), .int .i64 99]) (by simp [results, Try.results66, go_sem]) rfl ⟨rfl, Le.new w _⟩
    · go_enter Try.func66, Try.ntmps66
      go_wp2
      exact bodyPost_ret (v := .tuple #[.int .i64 0, .int .i64 0]) (by simp [results, Try.results66, go_sem]) rfl ⟨rfl, Le.new w _⟩
    · go_enter Try.func66, Try.ntmps66
      go_wp2
      exact bodyPost_ret (v := .tuple #[.int .i64 99, .int .i64 0]) (by simp [results, Try.results66, go_sem]) rfl ⟨rfl, Le.new w _⟩
    · go_enter Try.func66, Try.ntmps66
      go_wp2
      exact bodyPost_ret (v := .tuple #[.int .i64 0, .int .i64 0]) (by simp [results, Try.results66, go_sem]) rfl ⟨rfl, Le.new w _⟩
    · go_enter Try.func66, Try.ntmps66
      go_wp2
      exact bodyPost_ret (v := .tuple #[.int .i64 0, .int .i64 0]) (by simp [results, Try.results66, go_sem]) rfl ⟨rfl, Le.new w _⟩
    · go_enter Try.func66, Try.ntmps66
      go_wp2
      exact bodyPost_ret (v := .tuple #[.int .i64 0, .int .i64 0]) (by simp [results, Try.results66, go_sem]) rfl ⟨rfl, Le.new w _⟩
    · go_enter Try.func66, Try.ntmps66
      go_wp2
      exact bodyPost_ret (v := .tuple #[.int .i64 ((n : Int) - 1), .int .i64 0]) (by simp [results, Try.results66, go_sem]) rfl ⟨rfl, Le.new w _⟩
    · go_enter Try.func66, Try.ntmps66
      go_wp2
      exact bodyPost_ret (v := .tuple #[.int .i64 0, .int .i64 0]) (by simp [results, Try.results66, go_sem]) rfl ⟨rfl, Le.new w _⟩
    · go_enter Try.func66, Try.ntmps66
      go_wp2
      exact bodyPost_ret (v := .tuple #[.int .i64 0, .int .i64 0]) (by simp [results, Try.results66, go_sem]) rfl ⟨rfl, Le.new w _⟩
    · go_enter Try.func66, Try.ntmps66
      go_wp2
      exact bodyPost_ret (v := .tuple #[.int .i64 9, .int .i64 1]) (by simp [results, Try.results66, go_sem]) rfl ⟨rfl, Le.new w _⟩
    · go_enter Try.func66, Try.ntmps66
      go_wp2
      exact bodyPost_ret (v := .tuple #[.int .i64 3, .int .i64 0]) (by simp [results, Try.results66, go_sem]) rfl ⟨rfl, Le.new w _⟩
  · have HA : Hid (mostA n k = -1) := by
      show _ = _
      unfold mostA; rw [if_neg (by omega), if_neg (by omega), if_neg (by omega), if_neg (by omega), if_neg (by omega)]
    have HB : Hid (mostB k = -1) := by
      show _ = _
      unfold mostB; rw [if_neg (by omega), if_neg (by omega), if_neg (by omega), if_neg (by omega), if_neg (by omega), if_neg (by omega)]
    have b0 := bf (show k ≠ 0 by omega)
    have b1 := bf (show k ≠ 1 by omega)
    have b2 := bf (show k ≠ 2 by omega)
    have b3 := bf (show k ≠ 3 by omega)
    have b4 := bf (show k ≠ 4 by omega)
    have b5 := bf (show k ≠ 5 by omega)
    have b6 := bf (show k ≠ 6 by omega)
    have b7 := bf (show k ≠ 7 by omega)
    have b8 := bf (show k ≠ 8 by omega)
    have b9 := bf (show k ≠ 9 by omega)
    have b10 := bf (show k ≠ 10 by omega)
    have b11 := bf (show k ≠ 11 by omega)
    have b12 := bf (show k ≠ 12 by omega)
    clear h
    go_enter Try.func66, Try.ntmps66
    go_wp2
    exact bodyPost_ret (v := .tuple #[.int .i64 (-1), .int .i64 (-1)]) (by simp [results, Try.results66, go_sem]) rfl ⟨by rw [HA.out, HB.out], Le.new w _⟩
end

section
def oI : Option Nat → Int
  | none => -1
  | some j => (j : Int)
theorem oGo_succ (p : List Lin) (d : Int) (k : Nat) : oGo p d (k + 1) = if dep p k < d then some k else oGo p d k := rfl
set_option maxHeartbeats 1000000 in
theorem outside_any (A : Option Addr) (n cap : Nat) (p : List Lin) (i : Nat) (hi : i < p.length) (hsm : p.length ≤ 1048576) (w : World) (hR : Sl w A n cap p) :
    Calls Try.prog 103 #[.slice A n cap, .int .i64 i] w fun e w' => e = .returned (.int .i64 (oI (outs p i))) ∧ Le w w' := by
  obtain rfl := hR.len
  have H0 : Hid (outs p i = oGo p (dep p i) i) := rfl
  have hwi : IntKind.i64.wrap ((i : Int) - 1) = (i : Int) - 1 := IntWalk.i64_in _ (by omega)
  have hix : (0 : Int) ≤ (i : Int) := by omega
  have hin : (i : Int) < (p.length : Int) := by omega
  go_enter Try.func103, Try.ntmps103
  go_wp2
  go_loopw [5] (fun jj wr => ∃ k : Nat, k ≤ i ∧ jj = .int .i64 ((k : Int) - 1) ∧ outs p i = oGo p (dep p i) k ∧ Le w wr) (fun jj _ => (intOf jj + 1).toNat)
  case atStart => exact ⟨i, Nat.le_refl _, rfl, H0.out, Le.refl _⟩
  case round =>
    obtain ⟨k, hk, rfl, he, hle⟩ := hrel
    have HE := Lib.hid he
    clear he H0
    have T := hR.le hle
    clear hR
    cases k with
    | zero =>
      have HF : Hid (oI (outs p i) = -1) := by show _ = _; rw [HE.out]; rfl
      have hneg : ¬ (0 : Int) ≤ ((0 : Nat) : Int) - 1 := by omega
      go_wp2
      go_ret
      exact ⟨ret_int HF.out.symm, hle⟩
    | succ k =>
      have hkl : k < p.length := by omega
      obtain ⟨b, off, rfl, hb, c0, -⟩ := T.lin_at hi
      obtain ⟨b2, off2, e2, hb2, d0, -⟩ := T.lin_at hkl
      cases e2
      have E0 := cell_ext hb c0
      have D0 := cell_ext hb2 d0
      have hkk : (((k + 1 : Nat) : Int) - 1) = (k : Int) := by omega
      have hk0 : (0 : Int) ≤ (k : Int) := by omega
      have hkn : (k : Int) < (p.length : Int) := by omega
      have hwk : IntKind.i64.wrap ((k : Int) - 1) = (k : Int) - 1 := IntWalk.i64_in _ (by omega)
      rw [hkk]
      by_cases hd : p[k].depth < p[i].depth
      · have HF : Hid (oI (outs p i) = (k : Int)) := by show _ = _; rw [HE.out, oGo_succ, dep_at hi, dep_at hkl, if_pos hd]; rfl
        clear HE
        go_wp2_with fail
        refine wp_region_ext (by kernel_rfl) (by kernel_rfl) ?_
        repeat (go_big_quiet_step (fail))
        refine wpQuiet_nil ?_
        intro _ hw'
        obtain ⟨gg, rfl⟩ := hw'
        have hw1 := Le.ext wr gg
        generalize wr.ext gg = W2 at *
        go_wp2
        go_ret
        exact ⟨ret_int HF.out.symm, hle.trans hw1⟩
      · have HF : Hid (outs p i = oGo p (dep p i) k) := by show _ = _; rw [HE.out, oGo_succ, dep_at hkl, if_neg (by rw [dep_at hi]; exact hd)]
        clear HE
        go_wp2_with fail
        refine wp_region_ext (by kernel_rfl) (by kernel_rfl) ?_
        repeat (go_big_quiet_step (fail))
        refine wpQuiet_nil ?_
        intro _ hw'
        obtain ⟨gg, rfl⟩ := hw'
        have hw1 := Le.ext wr gg
        generalize wr.ext gg = W2 at *
        go_wp2
        go_roundw
        case rel => exact ⟨k, by omega, by go_num, HF.out, hle.trans hw1⟩
        case measure => simp [intOf]
end

section
theorem rng_any (a b c : Int) (w : World) : Calls Try.prog 88 #[.int .i64 a, .int .i64 b, .int .i64 c] w fun e w' => e = .returned (.bool (rng b c a)) ∧ w = w' := inRange_any a b c w
theorem intInfoB : (Try.prog.info? 3).map (fun i => (i.zero, i.size, i.bytes)) = some (some (.int .i64 0), 1, 8) := by kernel_rfl
theorem one_newB (w : World) (a : Value) (t : TypeId) : ∀ j u, [a][j]? = some u → (w.alloc (.cells #[a] t)).cell? ((⟨w.heap.size, 0, none⟩ : Addr).add j) = some u := by
  intro j u hu
  cases j with
  | zero =>
    simp at hu; subst hu
    show (w.alloc (.cells #[a] t)).cell? ⟨w.heap.size, 0, none⟩ = some a
    rw [World.cell?_alloc_at _ _ _ _ rfl]; rfl
  | succ j => simp at hu

theorem go_len {nx : Int → Int} : ∀ (m : Nat) (f : Int) (out : List Int), (Chn.go nx m f out).length ≤ m + out.length
  | 0, _, out => by simp [Chn.go]
  | m + 1, f, out => by
    unfold Chn.go
    split
    · omega
    · have := go_len (nx := nx) m (nx f) (out ++ [f]); simp at this; omega
theorem go_stop {nx : Int → Int} {m : Nat} {f : Int} {out : List Int} (h : f < 0 ∨ f ∈ out) : Chn.go nx m f out = out := by
  cases m with
  | zero => rfl
  | succ m => rw [Chn.go, if_pos h]
theorem go_on {nx : Int → Int} {m : Nat} {f : Int} {out : List Int} (h0 : 0 ≤ f) (h : f ∉ out) : Chn.go nx (m + 1) f out = Chn.go nx m (nx f) (out ++ [f]) := by
  rw [Chn.go, if_neg (by rintro (h1 | h1); omega; exact h h1)]
theorem hasI_not {x : Int} {L : List Int} (h : x ∉ L) : hasI L x = false := by
  cases e : hasI L x
  · rfl
  · exact absurd (hasI_iff'.1 e) h

def slLen : Value → Nat
  | .slice _ n _ => n
  | _ => 0
end

section
section
def upF (p : List Lin) : Option Nat → Bool
  | none => false
  | some j => if knd p j = 12 then true else inL p j
theorem inL_upF (p : List Lin) (i : Nat) : inL p i = upF p (outs p i) := by
  unfold inL; rw [in_out]; rfl
set_option maxHeartbeats 1000000 in
theorem iInLoop_any (A : Option Addr) (n cap : Nat) (p : List Lin) (i : Nat) (hi : i < p.length) (hsm : p.length ≤ 1048576) (w : World) (hR : Sl w A n cap p) :
    Calls Try.prog 69 #[.slice A n cap, .int .i64 i] w fun e w' => e = .returned (.bool (inL p i)) ∧ Le w w' := by
  obtain rfl := hR.len
  have H0 := Lib.hid (inL_upF p i)
  have hlt : Hid (∀ j, outs p i = some j → j < i) := fun j h => oGo_lt h
  go_enter Try.func69, Try.ntmps69
  go_wp2_with fail
  refine (outside_any A p.length cap p i hi hsm w hR).mono ?_
  rintro e w2 ⟨rfl, hle⟩
  have T2 := hR.le hle
  clear hR
  go_wp2
  go_loopw [1] (fun ii wr => ∃ o : Option Nat, ii = .int .i64 (oI o) ∧ inL p i = upF p o ∧ (∀ j, o = some j → j < p.length) ∧ Le w2 wr) (fun ii _ => (intOf ii + 1).toNat)
  case atStart => exact ⟨outs p i, rfl, H0.out, fun j h => by have := hlt.out j h; omega, Le.refl _⟩
  case round =>
    obtain ⟨o, rfl, he, hb, hle2⟩ := hrel
    have HE := Lib.hid he
    clear he H0 hlt
    have T := T2.le hle2
    clear T2
    cases o with
    | none =>
      have HF : Hid (inL p i = false) := by show _ = _; rw [HE.out]; rfl
      have hneg : ¬ (0 : Int) ≤ oI none := by show ¬ (0 : Int) ≤ -1; omega
      have hn2 : oI none = -1 := rfl
      rw [hn2]
      clear hneg hb
      go_wp2
      go_ret
      exact ⟨ret_bool HF.out.symm, hle.trans hle2⟩
    | some j =>
      have hjl := hb j rfl
      have hn2 : oI (some j) = (j : Int) := rfl
      rw [hn2]
      clear hb
      obtain ⟨b, off, rfl, hbl, c0, c1, -⟩ := T.lin_at hjl
      have hj0 : (0 : Int) ≤ (j : Int) := by omega
      have hjn : (j : Int) < (p.length : Int) := by omega
      by_cases hk : p[j].kind = 12
      · have HF : Hid (inL p i = true) := by show _ = _; rw [HE.out]; show (if knd p j = 12 then true else inL p j) = true; rw [knd_at hjl, if_pos hk]
        have hkb : (p[j].kind == 12) = true := by simpa using hk
        clear HE hk
        go_wp2
        go_ret
        exact ⟨ret_bool HF.out.symm, hle.trans hle2⟩
      · have HF : Hid (inL p i = upF p (outs p j)) := by show _ = _; rw [HE.out, ← inL_upF]; show (if knd p j = 12 then true else inL p j) = inL p j; rw [knd_at hjl, if_neg hk]
        have hkb : (p[j].kind == 12) = false := by simpa using hk
        have hlt : Hid (∀ x, outs p j = some x → x < j) := fun x h => oGo_lt h
        clear HE hk
        generalize wr = wr0 at *
        go_wp2_with fail
        refine (outside_any _ p.length cap p j hjl hsm wr0 T).mono ?_
        rintro e w3 ⟨rfl, hle3⟩
        go_wp2
        go_roundw
        case rel => exact ⟨outs p j, rfl, HF.out, fun x h => by have := hlt.out x h; omega, hle2.trans hle3⟩
        case measure =>
          cases ho : outs p j with
          | none => simp [intOf, oI]
          | some x => have := hlt.out x ho; simp [intOf, oI]; omega
/-- what the program asks of the depth of a line, as it reads it -/
def depB (p : List Lin) (i : Nat) : Bool := if i = 0 then dep p 0 == 0 else if opn (knd p (i - 1)) = true then decide (dep p (i - 1) < 5) && (dep p i == dep p (i - 1) + 1) else rng 0 (dep p (i - 1)) (dep p i)
theorem depB_iff {p : List Lin} {i : Nat} : depB p i = true ↔ depI p i := by
  unfold depB depI
  cases i with
  | zero => rw [if_pos rfl, beq_iff_eq]; exact ⟨fun h => ⟨fun _ => h, fun j hj => by omega⟩, fun h => h.1 rfl⟩
  | succ j =>
    rw [if_neg (by omega), Nat.add_sub_cancel]
    cases ho : opn (knd p j)
    · rw [if_neg (by simp), rng_iff]
      constructor
      · intro h
        refine ⟨fun h => by omega, fun j' hj' => ?_⟩
        obtain rfl : j' = j := by omega
        exact ⟨fun h => (by rw [ho] at h; cases h), fun _ => h⟩
      · intro h
        exact (h.2 j rfl).2 ho
    · rw [if_pos rfl, Bool.and_eq_true, decide_eq_true_eq, beq_iff_eq]
      constructor
      · intro h
        refine ⟨fun h => by omega, fun j' hj' => ?_⟩
        obtain rfl : j' = j := by omega
        exact ⟨fun _ => h, fun h => (by rw [ho] at h; cases h)⟩
      · intro h
        exact (h.2 j rfl).1 ho
theorem iRange_any (a b c : Int) (w : World) : Calls Try.prog 67 #[.int .i64 a, .int .i64 b, .int .i64 c] w fun e w' => e = .returned (.bool (rng b c a)) ∧ w = w' := by
  go_enter Try.func67, Try.ntmps67
  go_wp2
  all_goals (go_ret; simp_all [rng])
  all_goals omega
end

section
theorem box4 (w : World) (a b c d : Value) (T : TypeId) : (w.alloc (.cells #[a, b, c, d] T)).cell? ⟨w.heap.size, 0, none⟩ = some a ∧ (w.alloc (.cells #[a, b, c, d] T)).cell? ⟨w.heap.size, 1, none⟩ = some b ∧
    w.heap.size < (w.alloc (.cells #[a, b, c, d] T)).heap.size ∧ Le w (w.alloc (.cells #[a, b, c, d] T)) := by
  refine ⟨?_, ?_, by simp, Le.new w _⟩ <;> (rw [World.cell?_alloc_at _ _ _ _ rfl]; rfl)
set_option maxHeartbeats 1000000 in
theorem validLineDepth_any (A : Option Addr) (n cap : Nat) (p : List Lin) (i : Nat) (hi : i < p.length) (hsm : p.length ≤ 1048576) (hpr : 0 < i → 0 ≤ dep p (i - 1) ∧ dep p (i - 1) ≤ 5) (w : World) (hR : Sl w A n cap p) :
    Calls Try.prog 68 #[.slice A n cap, .int .i64 i] w fun e w' => e = .returned (.bool (depB p i)) ∧ Le w w' := by
  obtain rfl := hR.len
  obtain ⟨b, off, rfl, hb, c0, -⟩ := hR.lin_at hi
  cases i with
  | zero =>
    have HF : Hid (depB p 0 = (p[0].depth == 0)) := by show _ = _; unfold depB; rw [if_pos rfl, dep_at hi]
    simp only [Nat.zero_mul, Nat.add_zero] at c0
    have h0n : (0 : Int) < (p.length : Int) := by omega
    go_enter Try.func68, Try.ntmps68
    go_wp2
    go_ret
    exact ⟨ret_bool HF.out.symm, Le.refl _⟩
  | succ j =>
    have hj : j < p.length := by omega
    have hp2 := hpr (by omega)
    rw [Nat.add_sub_cancel, dep_at hj] at hp2
    obtain ⟨b', off', e, _, d0, d1, d2, d3, hok⟩ := hR.lin_at hj
    injection e with e
    injection e with e1 e2
    subst e1
    subst e2
    have hcast : ((j + 1 : Nat) : Int) = (j : Int) + 1 := by omega
    have hwj : IntKind.i64.wrap ((j : Int) + 1 - 1) = (j : Int) := by rw [Int.add_sub_cancel]; exact IntWalk.i64_in _ (by omega)
    have hwj2 : IntKind.i64.wrap (j : Int) = (j : Int) := IntWalk.i64_in _ (by omega)
    have hj0 : (0 : Int) ≤ (j : Int) := by omega
    have hj1 : (0 : Int) ≤ (j : Int) + 1 := by omega
    have hjn : (j : Int) < (p.length : Int) := by omega
    have hjn2 : (j : Int) + 1 < (p.length : Int) := by omega
    have hne : ((j : Int) + 1 == 0) = false := bf (by omega)
    have hwd : IntKind.i64.wrap (p[j].depth + 1) = p[j].depth + 1 := IntWalk.i64_in _ (by omega)
    have HF : Hid (depB p (j + 1) = if opn p[j].kind = true then decide (p[j].depth < 5) && (p[j + 1].depth == p[j].depth + 1) else rng 0 p[j].depth p[j + 1].depth) := by
      show _ = _
      unfold depB
      rw [if_neg (by omega), Nat.add_sub_cancel, knd_at hj, dep_at hj, dep_at hi]
    rw [hcast]
    clear hpr hok
    generalize p[j].depth = vd at *
    generalize p[j].kind = vk at *
    generalize p[j].a = va at *
    generalize p[j].b = vb at *
    generalize p[j + 1].depth = vi at *
    go_enter Try.func68, Try.ntmps68
    go_wp2_with fail
    obtain ⟨x0, x1, x2, L1⟩ := box4 w (.int .i64 vd) (.int .i64 vk) (.int .i64 va) (.int .i64 vb) 42
    have k0 := (L1.cell hb).trans c0
    have hb1 : b < (w.alloc (.cells #[.int .i64 vd, .int .i64 vk, .int .i64 va, .int .i64 vb] 42)).heap.size := Nat.lt_of_lt_of_le hb L1.size
    clear d0 d1 d2 d3 hR c0
    generalize hbx : w.heap.size = B at *
    refine (hasBlock_any vk _).mono ?_
    rintro e w2 ⟨rfl, rfl⟩
    generalize hW : w.alloc _ = W at *
    have X0 := cell_ext x2 x0
    have K0 := cell_ext hb1 k0
    cases ho : opn vk
    · have HF2 : Hid (depB p (j + 1) = rng 0 vd vi) := by show _ = _; rw [HF.out, ho, if_neg (by simp)]
      clear HF
      cases hr : rng 0 vd vi
      all_goals
        rw [hr] at HF2
        have hc := fun U : World => iRange_any vi 0 vd U
        rw [hr] at hc
        go_wp2_with fail
        refine wp_region_ext (by kernel_rfl) (by kernel_rfl) ?_
        repeat (go_big_quiet_step (fail))
        go_big_quiet_step (first | (go_at_call 67; exact Calls.ext_same (hc _)))
        repeat (go_big_quiet_step (fail))
        refine wpQuiet_nil ?_
        intro _ hw'
        obtain ⟨gg, rfl⟩ := hw'
        have hw1 := Le.ext W gg
        generalize W.ext gg = W2 at *
        go_wp2
        go_ret
        exact ⟨ret_bool HF2.out.symm, L1.trans hw1⟩
    · by_cases h5 : vd < 5
      · have h5b : decide (vd < 5) = true := decide_eq_true h5
        have HF2 : Hid (depB p (j + 1) = (vi == vd + 1)) := by show _ = _; rw [HF.out, ho, if_pos rfl, h5b, Bool.true_and]
        clear HF
        go_wp2_with fail
        refine wp_region_ext (by kernel_rfl) (by kernel_rfl) ?_
        repeat (go_big_quiet_step (fail))
        refine wpQuiet_nil ?_
        intro _ hw'
        obtain ⟨gg, rfl⟩ := hw'
        have hw1 := Le.ext W gg
        generalize W.ext gg = W2 at *
        go_wp2
        go_ret
        exact ⟨ret_bool HF2.out.symm, L1.trans hw1⟩
      · have h5b : decide (vd < 5) = false := decide_eq_false h5
        have HF2 : Hid (depB p (j + 1) = false) := by show _ = _; rw [HF.out, ho, if_pos rfl, h5b, Bool.false_and]
        clear HF
        go_wp2_with fail
        refine wp_region_ext (by kernel_rfl) (by kernel_rfl) ?_
        repeat (go_big_quiet_step (fail))
        refine wpQuiet_nil ?_
        intro _ hw'
        obtain ⟨gg, rfl⟩ := hw'
        have hw1 := Le.ext W gg
        generalize W.ext gg = W2 at *
        go_wp2
        go_ret
        exact ⟨ret_bool HF2.out.symm, L1.trans hw1⟩
end
end

section
theorem boxTL (w : World) (s a b c d : Value) (T U : TypeId) : ((w.alloc (.cells #[s] T)).alloc (.cells #[a, b, c, d] U)).cell? ⟨w.heap.size, 0, none⟩ = some s ∧ ((w.alloc (.cells #[s] T)).alloc (.cells #[a, b, c, d] U)).cell? ⟨w.heap.size + 1, 1, none⟩ = some b ∧
    ((w.alloc (.cells #[s] T)).alloc (.cells #[a, b, c, d] U)).cell? ⟨w.heap.size + 1, 2, none⟩ = some c ∧ ((w.alloc (.cells #[s] T)).alloc (.cells #[a, b, c, d] U)).cell? ⟨w.heap.size + 1, 3, none⟩ = some d ∧
    w.heap.size < ((w.alloc (.cells #[s] T)).alloc (.cells #[a, b, c, d] U)).heap.size ∧ w.heap.size + 1 < ((w.alloc (.cells #[s] T)).alloc (.cells #[a, b, c, d] U)).heap.size ∧ Le w ((w.alloc (.cells #[s] T)).alloc (.cells #[a, b, c, d] U)) := by
  have hs : (w.alloc (.cells #[s] T)).heap.size = w.heap.size + 1 := by simp
  refine ⟨?_, ?_, ?_, ?_, by simp; omega, by simp, (Le.new w _).alloc _⟩
  · rw [World.cell?_alloc_past _ _ _ (by simp), World.cell?_alloc_at _ _ _ _ rfl]; rfl
  all_goals (rw [World.cell?_alloc_at _ _ _ _ (by simp)]; rfl)
set_option maxHeartbeats 1000000 in
theorem validNumbers_any (B : Option Addr) (m c : Nat) (xs : List Cls) (vd k a b : Int) (w : World) (hR : Sl w B m c xs) :
    Calls Try.prog 87 #[.agg #[.slice B m c], .agg #[.int .i64 vd, .int .i64 k, .int .i64 a, .int .i64 b]] w fun e w' => e = .returned (.bool (numS xs k a b)) ∧ Le w w' := by
  have H0 : Hid (numS xs k a b = if k = 1 ∨ k = 4 then rng 0 99 a && (b == 0) else if k = 2 then hasK xs a && rng 0 99 b else if k = 8 then hasK xs a && (b == 0) else if k = 11 then rng 0 9 a && rng 0 1 b else if k = 12 then rng 0 3 a && (b == 0) else rng 0 10 k && (a == 0) && (b == 0)) := rfl
  generalize numS xs k a b = R at *
  by_cases h1 : k = 1
  · subst h1
    have HF : Hid (R = (rng 0 99 a && (b == 0))) := H0.out
    clear H0
    go_enter Try.func87, Try.ntmps87
    go_wp2_with fail
    obtain ⟨x0, x1, x2, x3, s0, s1, L1⟩ := boxTL w (.slice B m c) (.int .i64 vd) (.int .i64 1) (.int .i64 a) (.int .i64 b) 25 42
    have T := hR.le L1
    clear hR
    generalize hX : w.heap.size + 1 = X at *
    generalize w.heap.size = X0 at *
    generalize (w.alloc (.cells #[.slice B m c] 25)).alloc _ = W at *
    refine (inRange_any a 0 99 _).mono ?_
    rintro e w2 ⟨rfl, rfl⟩
    cases r1 : (decide (0 ≤ a) && decide (a ≤ 99))
    · have HF2 : Hid (R = false) := HF.out.trans (by show ((decide (0 ≤ a) && decide (a ≤ 99)) && _) = _; rw [r1]; rfl)
      clear HF
      go_wp2
      go_ret
      exact ⟨ret_bool HF2.out.symm, L1⟩
    · have HF2 : Hid (R = (b == 0)) := HF.out.trans (by show ((decide (0 ≤ a) && decide (a ≤ 99)) && _) = _; rw [r1]; rfl)
      clear HF
      go_wp2
      go_ret
      exact ⟨ret_bool HF2.out.symm, L1⟩
  by_cases h4 : k = 4
  · subst h4
    have HF : Hid (R = (rng 0 99 a && (b == 0))) := H0.out
    clear H0
    go_enter Try.func87, Try.ntmps87
    go_wp2_with fail
    obtain ⟨x0, x1, x2, x3, s0, s1, L1⟩ := boxTL w (.slice B m c) (.int .i64 vd) (.int .i64 4) (.int .i64 a) (.int .i64 b) 25 42
    have T := hR.le L1
    clear hR
    generalize hX : w.heap.size + 1 = X at *
    generalize w.heap.size = X0 at *
    generalize (w.alloc (.cells #[.slice B m c] 25)).alloc _ = W at *
    refine (inRange_any a 0 99 _).mono ?_
    rintro e w2 ⟨rfl, rfl⟩
    cases r1 : (decide (0 ≤ a) && decide (a ≤ 99))
    · have HF2 : Hid (R = false) := HF.out.trans (by show ((decide (0 ≤ a) && decide (a ≤ 99)) && _) = _; rw [r1]; rfl)
      clear HF
      go_wp2
      go_ret
      exact ⟨ret_bool HF2.out.symm, L1⟩
    · have HF2 : Hid (R = (b == 0)) := HF.out.trans (by show ((decide (0 ≤ a) && decide (a ≤ 99)) && _) = _; rw [r1]; rfl)
      clear HF
      go_wp2
      go_ret
      exact ⟨ret_bool HF2.out.symm, L1⟩
  by_cases h2 : k = 2
  · subst h2
    have HF : Hid (R = (hasK xs a && rng 0 99 b)) := H0.out
    clear H0
    go_enter Try.func87, Try.ntmps87
    go_wp2_with fail
    obtain ⟨x0, x1, x2, x3, s0, s1, L1⟩ := boxTL w (.slice B m c) (.int .i64 vd) (.int .i64 2) (.int .i64 a) (.int .i64 b) 25 42
    have T := hR.le L1
    clear hR
    generalize hX : w.heap.size + 1 = X at *
    generalize w.heap.size = X0 at *
    generalize (w.alloc (.cells #[.slice B m c] 25)).alloc _ = W at *
    refine (hasClass_any B m c xs a _ T).mono ?_
    rintro e w2 ⟨rfl, hl⟩
    have y3 := (hl.cell s1).trans x3
    have L2 := L1.trans hl
    clear x0 x1 x2 x3 s0 s1 T L1 hl
    cases r1 : hasK xs a
    · have HF2 : Hid (R = false) := HF.out.trans (by rw [r1]; rfl)
      clear HF
      go_wp2
      go_ret
      exact ⟨ret_bool HF2.out.symm, L2⟩
    · have HF2 : Hid (R = rng 0 99 b) := HF.out.trans (by rw [r1]; rfl)
      clear HF
      go_wp2_with fail
      refine (inRange_any b 0 99 _).mono ?_
      rintro e w3 ⟨rfl, rfl⟩
      go_wp2
      go_ret
      exact ⟨ret_bool HF2.out.symm, L2⟩
  by_cases h8 : k = 8
  · subst h8
    have HF : Hid (R = (hasK xs a && (b == 0))) := H0.out
    clear H0
    go_enter Try.func87, Try.ntmps87
    go_wp2_with fail
    obtain ⟨x0, x1, x2, x3, s0, s1, L1⟩ := boxTL w (.slice B m c) (.int .i64 vd) (.int .i64 8) (.int .i64 a) (.int .i64 b) 25 42
    have T := hR.le L1
    clear hR
    generalize hX : w.heap.size + 1 = X at *
    generalize w.heap.size = X0 at *
    generalize (w.alloc (.cells #[.slice B m c] 25)).alloc _ = W at *
    refine (hasClass_any B m c xs a _ T).mono ?_
    rintro e w2 ⟨rfl, hl⟩
    have y3 := (hl.cell s1).trans x3
    have L2 := L1.trans hl
    clear x0 x1 x2 x3 s0 s1 T L1 hl
    cases r1 : hasK xs a
    · have HF2 : Hid (R = false) := HF.out.trans (by rw [r1]; rfl)
      clear HF
      go_wp2
      go_ret
      exact ⟨ret_bool HF2.out.symm, L2⟩
    · have HF2 : Hid (R = (b == 0)) := HF.out.trans (by rw [r1]; rfl)
      clear HF
      go_wp2
      go_ret
      exact ⟨ret_bool HF2.out.symm, L2⟩
  by_cases h11 : k = 11
  · subst h11
    have HF : Hid (R = (rng 0 9 a && rng 0 1 b)) := H0.out
    clear H0
    go_enter Try.func87, Try.ntmps87
    go_wp2_with fail
    obtain ⟨x0, x1, x2, x3, s0, s1, L1⟩ := boxTL w (.slice B m c) (.int .i64 vd) (.int .i64 11) (.int .i64 a) (.int .i64 b) 25 42
    have T := hR.le L1
    clear hR
    generalize hX : w.heap.size + 1 = X at *
    generalize w.heap.size = X0 at *
    generalize (w.alloc (.cells #[.slice B m c] 25)).alloc _ = W at *
    refine (inRange_any a 0 9 _).mono ?_
    rintro e w2 ⟨rfl, rfl⟩
    cases r1 : (decide (0 ≤ a) && decide (a ≤ 9))
    · have HF2 : Hid (R = false) := HF.out.trans (by show ((decide (0 ≤ a) && decide (a ≤ 9)) && _) = _; rw [r1]; rfl)
      clear HF
      go_wp2
      go_ret
      exact ⟨ret_bool HF2.out.symm, L1⟩
    · have HF2 : Hid (R = rng 0 1 b) := HF.out.trans (by show ((decide (0 ≤ a) && decide (a ≤ 9)) && _) = _; rw [r1]; rfl)
      clear HF
      go_wp2_with fail
      refine (inRange_any b 0 1 _).mono ?_
      rintro e w3 ⟨rfl, rfl⟩
      go_wp2
      go_ret
      exact ⟨ret_bool HF2.out.symm, L1⟩
  by_cases h12 : k = 12
  · subst h12
    have HF : Hid (R = (rng 0 3 a && (b == 0))) := H0.out
    clear H0
    go_enter Try.func87, Try.ntmps87
    go_wp2_with fail
    obtain ⟨x0, x1, x2, x3, s0, s1, L1⟩ := boxTL w (.slice B m c) (.int .i64 vd) (.int .i64 12) (.int .i64 a) (.int .i64 b) 25 42
    have T := hR.le L1
    clear hR
    generalize hX : w.heap.size + 1 = X at *
    generalize w.heap.size = X0 at *
    generalize (w.alloc (.cells #[.slice B m c] 25)).alloc _ = W at *
    refine (inRange_any a 0 3 _).mono ?_
    rintro e w2 ⟨rfl, rfl⟩
    cases r1 : (decide (0 ≤ a) && decide (a ≤ 3))
    · have HF2 : Hid (R = false) := HF.out.trans (by show ((decide (0 ≤ a) && decide (a ≤ 3)) && _) = _; rw [r1]; rfl)
      clear HF
      go_wp2
      go_ret
      exact ⟨ret_bool HF2.out.symm, L1⟩
    · have HF2 : Hid (R = (b == 0)) := HF.out.trans (by show ((decide (0 ≤ a) && decide (a ≤ 3)) && _) = _; rw [r1]; rfl)
      clear HF
      go_wp2
      go_ret
      exact ⟨ret_bool HF2.out.symm, L1⟩
  have b1 := bf h1
  have b4 := bf h4
  have b2 := bf h2
  have b8 := bf h8
  have b11 := bf h11
  have b12 := bf h12
  have HF : Hid (R = (rng 0 10 k && (a == 0) && (b == 0))) := H0.out.trans (by rw [if_neg (by omega), if_neg h2, if_neg h8, if_neg h11, if_neg h12])
  clear H0 h1 h2 h4 h8 h11 h12
  go_enter Try.func87, Try.ntmps87
  go_wp2_with fail
  obtain ⟨x0, x1, x2, x3, s0, s1, L1⟩ := boxTL w (.slice B m c) (.int .i64 vd) (.int .i64 k) (.int .i64 a) (.int .i64 b) 25 42
  have T := hR.le L1
  clear hR
  generalize hX : w.heap.size + 1 = X at *
  generalize w.heap.size = X0 at *
  generalize (w.alloc (.cells #[.slice B m c] 25)).alloc _ = W at *
  refine (inRange_any k 0 10 _).mono ?_
  rintro e w2 ⟨rfl, rfl⟩
  cases r1 : (decide (0 ≤ k) && decide (k ≤ 10))
  · have HF2 : Hid (R = false) := HF.out.trans (by show (((decide (0 ≤ k) && decide (k ≤ 10)) && _) && _) = _; rw [r1]; rfl)
    clear HF
    go_wp2
    go_ret
    exact ⟨ret_bool HF2.out.symm, L1⟩
  · cases r2 : (a == 0)
    · have HF2 : Hid (R = false) := HF.out.trans (by show (((decide (0 ≤ k) && decide (k ≤ 10)) && _) && _) = _; rw [r1, r2]; rfl)
      clear HF
      go_wp2
      go_ret
      exact ⟨ret_bool HF2.out.symm, L1⟩
    · have HF2 : Hid (R = (b == 0)) := HF.out.trans (by show (((decide (0 ≤ k) && decide (k ≤ 10)) && _) && _) = _; rw [r1, r2]; rfl)
      clear HF
      go_wp2
      go_ret
      exact ⟨ret_bool HF2.out.symm, L1⟩
end

section
theorem opens_any (k : Int) (w : World) : Calls Try.prog 89 #[.int .i64 k] w fun e w' => e = .returned (.bool (opn k)) ∧ w = w' := by
  go_enter Try.func89, Try.ntmps89
  go_wp2_with fail
  refine (rng_any _ _ _ _).mono ?_
  rintro e w' ⟨rfl, rfl⟩
  have HF : Hid (rng 7 12 k = opn k) := rfl
  rw [HF.out]
  go_wp2
  go_ret
  exact ⟨rfl, rfl⟩
theorem follows_any (k : Int) (w : World) : Calls Try.prog 92 #[.int .i64 k] w fun e w' => e = .returned (.bool (fol k)) ∧ w = w' := by
  go_enter Try.func92, Try.ntmps92
  go_wp2_with fail
  refine (rng_any _ _ _ _).mono ?_
  rintro e w' ⟨rfl, rfl⟩
  have HF : Hid (rng 8 10 k = fol k) := rfl
  rw [HF.out]
  go_wp2
  go_ret
  exact ⟨rfl, rfl⟩
set_option maxHeartbeats 1000000 in
theorem sNext_any (A : Option Addr) (n cap : Nat) (p : List Lin) (i : Nat) (hi : i < p.length) (w : World) (hR : Sl w A n cap p) :
    Calls Try.prog 121 #[.slice A n cap, .int .i64 i] w fun e w' => e = .returned (.int .i64 (sNext p i)) ∧ Le w w' := by
  obtain rfl := hR.len
  have hm := hR.n_le
  have hbl := bEnd_le hi
  have H1 : Hid (bEnd p i < p.length → dep p (bEnd p i) = dep p i → sNext p i = bEnd p i) := fun h1 h2 => if_pos ⟨h1, h2⟩
  have H2 : Hid (bEnd p i < p.length → dep p (bEnd p i) ≠ dep p i → sNext p i = p.length) := fun _ h2 => if_neg (fun q => h2 q.2)
  have H3 : Hid (¬ bEnd p i < p.length → sNext p i = p.length) := fun h1 => if_neg (fun q => h1 q.1)
  have hin : (i : Int) < (p.length : Int) := by omega
  have hix : (0 : Int) ≤ (i : Int) := by omega
  go_enter Try.func121, Try.ntmps121
  go_wp2_with fail
  refine (sBlockEnd_any A p.length cap p i hi w hR).mono ?_
  rintro e w2 ⟨rfl, hle⟩
  have T := hR.le hle
  clear hR
  obtain ⟨b, off, rfl, hb, c0, -⟩ := T.lin_at hi
  have E0 := cell_ext hb c0
  by_cases hlt : bEnd p i < p.length
  · obtain ⟨b2, off2, e2, hb2, d0, -⟩ := T.lin_at hlt
    cases e2
    have D0 := cell_ext hb2 d0
    by_cases hd : p[bEnd p i].depth = p[i].depth
    · have HE := Lib.hid (H1.out hlt (by rw [dep_at hlt, dep_at hi]; exact hd))
      have hbd : (p[bEnd p i].depth == p[i].depth) = true := by simpa using hd
      clear H1 H2 H3 hd
      have hkl : (bEnd p i : Int) < (p.length : Int) := by omega
      have hk0 : (0 : Int) ≤ (bEnd p i : Int) := by omega
      go_wp2_with fail
      refine wp_region_ext (by kernel_rfl) (by kernel_rfl) ?_
      repeat (go_big_quiet_step (fail))
      refine wpQuiet_nil ?_
      intro _ hw'
      obtain ⟨gg, rfl⟩ := hw'
      have hw1 := Le.ext w2 gg
      generalize w2.ext gg = W2 at *
      go_wp2
      go_ret
      exact ⟨congrArg (fun z : Nat => Ending.returned (.int .i64 (z : Int))) HE.out.symm, hle.trans hw1⟩
    · have HE := Lib.hid (H2.out hlt (by rw [dep_at hlt, dep_at hi]; exact hd))
      have hbd : (p[bEnd p i].depth == p[i].depth) = false := by simpa using hd
      clear H1 H2 H3 hd
      have hkl : (bEnd p i : Int) < (p.length : Int) := by omega
      have hk0 : (0 : Int) ≤ (bEnd p i : Int) := by omega
      go_wp2_with fail
      refine wp_region_ext (by kernel_rfl) (by kernel_rfl) ?_
      repeat (go_big_quiet_step (fail))
      refine wpQuiet_nil ?_
      intro _ hw'
      obtain ⟨gg, rfl⟩ := hw'
      have hw1 := Le.ext w2 gg
      generalize w2.ext gg = W2 at *
      go_wp2
      go_ret
      exact ⟨congrArg (fun z : Nat => Ending.returned (.int .i64 (z : Int))) HE.out.symm, hle.trans hw1⟩
  · have HE := Lib.hid (H3.out hlt)
    have hkl : ¬ (bEnd p i : Int) < (p.length : Int) := by omega
    clear H1 H2 H3
    go_wp2_with fail
    refine wp_region_ext (by kernel_rfl) (by kernel_rfl) ?_
    repeat (go_big_quiet_step (fail))
    refine wpQuiet_nil ?_
    intro _ hw'
    obtain ⟨gg, rfl⟩ := hw'
    have hw1 := Le.ext w2 gg
    generalize w2.ext gg = W2 at *
    go_wp2
    go_ret
    exact ⟨congrArg (fun z : Nat => Ending.returned (.int .i64 (z : Int))) HE.out.symm, hle.trans hw1⟩
end

section
def nI (L : List Nat) : List Int := L.map fun k : Nat => (k : Int)
theorem nI_flat (L : List Nat) : ((nI L).flatMap Enc.cells).length = L.length := by
  induction L with
  | nil => rfl
  | cons k L ih =>
    show ([Value.int .i64 (k : Int)] ++ (nI L).flatMap Enc.cells).length = _
    rw [List.length_append, ih]; simp; omega
theorem nI_len (L : List Nat) : (nI L).length = L.length := by unfold nI; simp
theorem sNext_le {p : List Lin} {i : Nat} : sNext p i ≤ p.length := by
  unfold sNext; split <;> omega
theorem chGo_on {p : List Lin} {m k : Nat} (hm : p.length ≤ m + k) (hk : k < p.length) (hf : fol (knd p k) = true) : chGo p m k = k :: chGo p (m - 1) (sNext p k) := by
  obtain ⟨n, rfl⟩ : ∃ n, m = n + 1 := ⟨m - 1, by omega⟩
  show (if _ then _ else _) = _
  rw [if_pos ⟨hk, hf⟩, Nat.add_sub_cancel]
theorem chGo_off {p : List Lin} {m k : Nat} (h : ¬ (k < p.length ∧ fol (knd p k) = true)) : chGo p m k = [] := by
  cases m with
  | zero => rfl
  | succ m => exact if_neg h
set_option maxHeartbeats 2000000 in
set_option maxRecDepth 100000 in
theorem chainOf_any (A : Option Addr) (n cap : Nat) (p : List Lin) (i : Nat) (hi : i < p.length) (hsm : p.length ≤ 1048576) (w : World) (hR : Sl w A n cap p) :
    Calls Try.prog 112 #[.slice A n cap, .int .i64 i] w fun e w' => ∃ v, e = .returned v ∧ Owd 3 w w' v (nI (chain p i)) ∧ Le w w' := by
  obtain rfl := hR.len
  obtain ⟨i0, hq, hz0, hz1, hz2⟩ := info_parts intInfoB
  go_enter Try.func112, Try.ntmps112
  go_wp2_with fail
  have O0 : (w.alloc (.cells #[.int .i64 (i : Int)] 3)).ownsRow w.heap.size 3 1 (.slice (some ⟨w.heap.size, 0, none⟩) 1 1) 1 [.int .i64 (i : Int)] := World.ownsRow_lit (base := w.heap.size) (e := 3) (size := 1) w #[.int .i64 (i : Int)] 1 (Nat.le_refl _) (by unfold maxLen; omega) (by simp)
  have L0 := Le.new w (.cells #[.int .i64 (i : Int)] 3)
  generalize w.alloc (.cells #[.int .i64 (i : Int)] 3) = W at *
  refine (sNext_any A p.length cap p i hi W (hR.le L0)).mono ?_
  rintro e w2 ⟨rfl, hl2⟩
  have O1 := own_le O0 hl2
  have L1 := L0.trans hl2
  clear O0 L0 hl2
  go_wp2_with fail
  go_loopw [5, 6] (fun v kk wr => ∃ (k : Nat) (out : List Nat) (m : Nat) (A' : Option Addr) (c' : Nat), kk = .int .i64 k ∧ i < k ∧ k ≤ p.length ∧ v = .slice A' out.length c' ∧ chain p i = out ++ chGo p m k ∧ p.length ≤ m + k ∧ (∀ x ∈ out, x < p.length) ∧ out.length ≤ k ∧
      wr.ownsRow w.heap.size 3 1 (.slice A' out.length c') out.length ((nI out).flatMap Enc.cells) ∧ Le w wr) (fun _ kk _ => p.length - (intOf kk).toNat)
  case atStart => exact ⟨sNext p i, [i], p.length, _, _, rfl, sNext_gt hi, sNext_le, rfl, rfl, by omega, fun x hx => by (have := List.mem_singleton.1 hx; omega), by (have := sNext_gt hi; simp; omega), O1, L1⟩
  case round =>
    obtain ⟨k, out, m, A', c', rfl, hik, hkp, rfl, he, hm, hin, hol, OW, L⟩ := hrel
    have HE := Lib.hid he
    have HI := Lib.hid hin
    have T := hR.le L
    have hk0 : (0 : Int) ≤ (k : Int) := by omega
    have hoko : Hid (∀ y ∈ nI out, Enc.ok y) := fun y hy => by
      obtain ⟨x, hx, rfl⟩ := List.mem_map.1 hy
      have := hin x hx
      exact ⟨by omega, by omega⟩
    clear he hin O1 L1
    by_cases hlt : k < p.length
    · obtain ⟨b, off, rfl, hb, d0, d1, -⟩ := T.lin_at hlt
      have hkn : (k : Int) < (p.length : Int) := by omega
      have hK : Hid (knd p k = p[k].kind) := knd_at hlt
      generalize p[k].kind = kd at *
      go_wp2_with fail
      refine (follows_any kd wr).mono ?_
      rintro e w3 ⟨rfl, rfl⟩
      cases hf : fol kd
      · have HF : Hid (Owd 3 w wr (.slice A' out.length c') (nI (chain p i))) := by
          show Owd _ _ _ _ _
          rw [HE.out, chGo_off (by rw [hK.out, hf]; simp), List.append_nil]
          exact ⟨by rw [nI_len]; exact OW, hoko.out⟩
        clear HE OW
        go_wp2
        go_ret
        exact ⟨_, rfl, HF.out, L⟩
      · have HN : Hid (chain p i = (out ++ [k]) ++ chGo p (m - 1) (sNext p k)) := by
          show _ = _
          rw [HE.out, chGo_on hm hlt (by rw [hK.out, hf]), List.append_assoc]; rfl
        have hg := sNext_gt hlt
        have hle : sNext p k ≤ p.length := sNext_le
        clear HE
        go_wp2_with (at_builtin; refine wpList_append_own _ rfl _ _ 29 rfl w.heap.size 3 i0 (.int .i64 0) 1 8 Try.underlying29 hq hz0 hz1 hz2 rfl (by decide) _ _ _ rfl (OW.alloc _) ⟨wr.heap.size, 0, none⟩ 1 1 [.int .i64 k] rfl rfl (one_newB _ _ _) (by intro u hu; simp at hu; subst hu; rfl) (by unfold maxLen; omega) (by omega) (by have := L.size; simp; omega) ?_; intro v1 w1 hown1 hg1 _; have hle1 := (L.alloc (.cells #[.int .i64 (k : Int)] 3)).grown hg1 (fun j hj => (OW.lt j hj).1))
        have T1 := hR.le hle1
        obtain ⟨A5, q5, rfl⟩ := own_form hown1
        refine (sNext_any _ p.length cap p k hlt _ T1).mono ?_
        rintro e w5 ⟨rfl, hle5⟩
        have O6 := own_le hown1 hle5
        have L6 := hle1.trans hle5
        clear hg1 hown1 hle1 T T1
        go_wp2
        go_roundw
        case rel =>
          refine ⟨sNext p k, out ++ [k], m - 1, A5, q5, rfl, by omega, hle, by simp, HN.out, by omega, ?_, by simp; omega, ?_, L6⟩
          · intro x hx
            rcases List.mem_append.1 hx with h | h
            · exact HI.out x h
            · rw [List.mem_singleton.1 h]; exact hlt
          · simpa [nI, Enc.cells] using O6
        case measure => simp [intOf]; omega
    · have HF : Hid (Owd 3 w wr (.slice A' out.length c') (nI (chain p i))) := by
        show Owd _ _ _ _ _
        rw [HE.out, chGo_off (by omega), List.append_nil]
        exact ⟨by rw [nI_len]; exact OW, hoko.out⟩
      have hkn : ¬ (k : Int) < (p.length : Int) := by omega
      clear HE OW
      go_wp2
      go_ret
      exact ⟨_, rfl, HF.out, L⟩
end
end Go.Proofs.Ytlepgfccnfcagaa
