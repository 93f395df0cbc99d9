/- one text of PhA, RnC, PhC -/
import Derived.Test.YtgjlmfjmjglplaaGreatFj10
import Derived.Test.YtgjlmfjmjglplaaGreatFj2
import Derived.Test.YtgjlmfjmjglplaaGreatFj8
namespace Go.Proofs.YtgjlmfjmjglplaaGreat
open Go.RowKit
set_option linter.unusedVariables false
section
theorem bGo_step (p : List Lin) (d : Int) {k : Nat} (h : k < p.length) : bGo p d (p.length - k) k = if d < dep p k then bGo p d (p.length - (k + 1)) (k + 1) else k := by
  obtain ⟨m, hm⟩ : ∃ m, p.length - k = m + 1 := ⟨p.length - k - 1, by omega⟩
  rw [hm, show p.length - (k + 1) = m by omega]
  rfl
theorem bGo_end (p : List Lin) (d : Int) {k : Nat} (h : ¬ k < p.length) : bGo p d (p.length - k) k = k := by
  rw [show p.length - k = 0 by omega]; rfl
set_option maxHeartbeats 1000000 in
theorem sBlockEnd_any (A : Option Addr) (n cap : Nat) (p : List Lin) (i : Nat) (hi : i < p.length) (w : World) (hR : Sl w A n cap p) :
    Calls Tryz.prog 69 #[.slice A n cap, .int .i64 i] w fun e w' => e = .returned (.int .i64 (bEnd p i)) ∧ Le w w' := by
  obtain rfl := hR.len
  have hm := hR.n_le
  have H0 : Hid (bEnd p i = bGo p (dep p i) (p.length - (i + 1)) (i + 1)) := rfl
  obtain ⟨bi, oi, rfl, hbi, hi0, -⟩ := hR.lin_at hi
  have hwi : IntKind.i64.wrap ((i : Int) + 1) = (i : Int) + 1 := IntWalk.i64_in _ (by omega)
  have hix : (0 : Int) ≤ (i : Int) := by omega
  have hin : (i : Int) < (p.length : Int) := by omega
  go_enter Tryz.func69, Tryz.ntmps69
  go_wp2
  go_loopw [5] (fun kk wr => ∃ k : Nat, i < k ∧ k ≤ p.length ∧ kk = .int .i64 k ∧ bEnd p i = bGo p (dep p i) (p.length - k) k ∧ Le w wr) (fun kk _ => p.length - (intOf kk).toNat)
  case atStart => exact ⟨i + 1, by omega, by omega, by go_num, H0.out, Le.refl _⟩
  case round =>
    obtain ⟨k, hik, hk, rfl, he, hle⟩ := hrel
    have HE := Lib.hid he
    clear he H0
    have T := hR.le hle
    clear hR hi0
    obtain ⟨b3, off3, e3, hb3, c0, -⟩ := T.lin_at hi
    cases e3
    have F0 := cell_ext hb3 c0
    have hkx : (0 : Int) ≤ (k : Int) := by omega
    by_cases hlt : k < p.length
    · obtain ⟨b2, off2, e2, hb2, d0, -⟩ := T.lin_at hlt
      cases e2
      have E0 := cell_ext hb2 d0
      by_cases hd : p[i].depth < p[k].depth
      · have HE2 : Hid (bEnd p i = bGo p (dep p i) (p.length - (k + 1)) (k + 1)) := by
          show _ = _
          rw [HE.out, bGo_step p _ hlt, dep_at hi, dep_at hlt, if_pos hd]
        clear HE
        go_wp2_with fail
        refine wp_region_ext (by kernel_rfl) (by kernel_rfl) ?_
        repeat (go_big_quiet_step (fail))
        refine wpQuiet_nil ?_
        intro _ hw'
        obtain ⟨gg, rfl⟩ := hw'
        have hw1 := Le.ext wr gg
        generalize wr.ext gg = W2 at *
        go_wp2
        go_roundw
        case rel => exact ⟨k + 1, by omega, by omega, by go_num, HE2.out, hle.trans hw1⟩
        case measure => simp [intOf]; omega
      · have HE2 : Hid (bEnd p i = k) := by
          show _ = _
          rw [HE.out, bGo_step p _ hlt, dep_at hi, dep_at hlt, if_neg hd]
        clear HE
        go_wp2_with fail
        refine wp_region_ext (by kernel_rfl) (by kernel_rfl) ?_
        repeat (go_big_quiet_step (fail))
        refine wpQuiet_nil ?_
        intro _ hw'
        obtain ⟨gg, rfl⟩ := hw'
        have hw1 := Le.ext wr gg
        generalize wr.ext gg = W2 at *
        go_wp2
        go_ret
        exact ⟨congrArg (fun z : Nat => Ending.returned (.int .i64 (z : Int))) HE2.out.symm, hle.trans hw1⟩
    · have HE2 : Hid (bEnd p i = k) := by
        show _ = _
        rw [HE.out, bGo_end p _ hlt]
      clear HE
      go_wp2_with fail
      refine wp_region_ext (by kernel_rfl) (by kernel_rfl) ?_
      repeat (go_big_quiet_step (fail))
      refine wpQuiet_nil ?_
      intro _ hw'
      obtain ⟨gg, rfl⟩ := hw'
      have hw1 := Le.ext wr gg
      generalize wr.ext gg = W2 at *
      go_wp2
      go_ret
      exact ⟨congrArg (fun z : Nat => Ending.returned (.int .i64 (z : Int))) HE2.out.symm, hle.trans hw1⟩
set_option maxHeartbeats 1000000 in
theorem iBlockEnd_any (A : Option Addr) (n cap : Nat) (p : List Lin) (i : Nat) (hi : i < p.length) (w : World) (hR : Sl w A n cap p) :
    Calls Tryz.prog 16 #[.slice A n cap, .int .i64 i] w fun e w' => e = .returned (.int .i64 (bEnd p i)) ∧ Le w w' := by
  obtain rfl := hR.len
  have hm := hR.n_le
  have H0 : Hid (bEnd p i = bGo p (dep p i) (p.length - (i + 1)) (i + 1)) := rfl
  obtain ⟨bi, oi, rfl, hbi, hi0, -⟩ := hR.lin_at hi
  have hwi : IntKind.i64.wrap ((i : Int) + 1) = (i : Int) + 1 := IntWalk.i64_in _ (by omega)
  have hix : (0 : Int) ≤ (i : Int) := by omega
  have hin : (i : Int) < (p.length : Int) := by omega
  go_enter Tryz.func16, Tryz.ntmps16
  go_wp2
  go_loopw [5] (fun kk wr => ∃ k : Nat, i < k ∧ k ≤ p.length ∧ kk = .int .i64 k ∧ bEnd p i = bGo p (dep p i) (p.length - k) k ∧ Le w wr) (fun kk _ => p.length - (intOf kk).toNat)
  case atStart => exact ⟨i + 1, by omega, by omega, by go_num, H0.out, Le.refl _⟩
  case round =>
    obtain ⟨k, hik, hk, rfl, he, hle⟩ := hrel
    have HE := Lib.hid he
    clear he H0
    have T := hR.le hle
    clear hR hi0
    obtain ⟨b3, off3, e3, hb3, c0, -⟩ := T.lin_at hi
    cases e3
    have F0 := cell_ext hb3 c0
    have hkx : (0 : Int) ≤ (k : Int) := by omega
    by_cases hlt : k < p.length
    · obtain ⟨b2, off2, e2, hb2, d0, -⟩ := T.lin_at hlt
      cases e2
      have E0 := cell_ext hb2 d0
      by_cases hd : p[i].depth < p[k].depth
      · have HE2 : Hid (bEnd p i = bGo p (dep p i) (p.length - (k + 1)) (k + 1)) := by
          show _ = _
          rw [HE.out, bGo_step p _ hlt, dep_at hi, dep_at hlt, if_pos hd]
        clear HE
        go_wp2_with fail
        refine wp_region_ext (by kernel_rfl) (by kernel_rfl) ?_
        repeat (go_big_quiet_step (fail))
        refine wpQuiet_nil ?_
        intro _ hw'
        obtain ⟨gg, rfl⟩ := hw'
        have hw1 := Le.ext wr gg
        generalize wr.ext gg = W2 at *
        go_wp2
        go_roundw
        case rel => exact ⟨k + 1, by omega, by omega, by go_num, HE2.out, hle.trans hw1⟩
        case measure => simp [intOf]; omega
      · have HE2 : Hid (bEnd p i = k) := by
          show _ = _
          rw [HE.out, bGo_step p _ hlt, dep_at hi, dep_at hlt, if_neg hd]
        clear HE
        go_wp2_with fail
        refine wp_region_ext (by kernel_rfl) (by kernel_rfl) ?_
        repeat (go_big_quiet_step (fail))
        refine wpQuiet_nil ?_
        intro _ hw'
        obtain ⟨gg, rfl⟩ := hw'
        have hw1 := Le.ext wr gg
        generalize wr.ext gg = W2 at *
        go_wp2
        go_ret
        exact ⟨congrArg (fun z : Nat => Ending.returned (.int .i64 (z : Int))) HE2.out.symm, hle.trans hw1⟩
    · have HE2 : Hid (bEnd p i = k) := by
        show _ = _
        rw [HE.out, bGo_end p _ hlt]
      clear HE
      go_wp2_with fail
      refine wp_region_ext (by kernel_rfl) (by kernel_rfl) ?_
      repeat (go_big_quiet_step (fail))
      refine wpQuiet_nil ?_
      intro _ hw'
      obtain ⟨gg, rfl⟩ := hw'
      have hw1 := Le.ext wr gg
      generalize wr.ext gg = W2 at *
      go_wp2
      go_ret
      exact ⟨congrArg (fun z : Nat => Ending.returned (.int .i64 (z : Int))) HE2.out.symm, hle.trans hw1⟩
end

section
set_option maxRecDepth 100000 in
theorem att_pan (b : Nat) (x : Value) (T : TypeId) (z : Value) (older : List PanicEntry) (w : World) (hc : w.cell? ⟨b, 0, none⟩ = some x) (hz : w.frozen? ⟨b, 0, none⟩ = false) :
    CallsD Tryz.prog 46 #[.pointer (some ⟨b, 0, none⟩)] (.panicking ({ v := .iface T z, recovered := false } :: older)) w fun e u' w' =>
      e = .returned (.tuple #[]) ∧ u' = .panicking ({ v := .iface T z, recovered := true } :: older) ∧ w' = w.setCell ⟨b, 0, none⟩ (.iface T z) := by
  refine callsD_of_wpS Tryz.func46 rfl fun c₀ cs hu => ?_
  apply wpS_region
  simp [wpOpsS, go_sem, recoverD, hu, Tryz.ntmps46, hc, hz, bodyPostS, results, Tryz.results46]
set_option maxRecDepth 100000 in
theorem att_idle (b : Nat) (x : Value) (w : World) (hc : w.cell? ⟨b, 0, none⟩ = some x) (hz : w.frozen? ⟨b, 0, none⟩ = false) :
    CallsD Tryz.prog 46 #[.pointer (some ⟨b, 0, none⟩)] .returning w fun e u' w' =>
      e = .returned (.tuple #[]) ∧ u' = .returning ∧ w' = w.setCell ⟨b, 0, none⟩ .nilIface := by
  refine callsD_of_wpS Tryz.func46 rfl fun c₀ cs hu => ?_
  apply wpS_region
  simp [wpOpsS, go_sem, recoverD, hu, Tryz.ntmps46, hc, hz, bodyPostS, results, Tryz.results46]
  cases c₀
  simp_all
/-- what a run has told and raised so far -/
abbrev Rst := List Int × List Flt
/-- a call of the runner does what is said of it -/
def RunOk (R m c n cap : Nat) (B A : Option Addr) (xs : List Cls) (p : List Lin) (f : FuncId) (args : Array Value) (lv hv : Value) (w : World) (r : Lft × Rst) : Prop :=
  Calls Tryz.prog f args w fun e w' => e = lfE r.1 ∧ ∃ lv' hv', Rn w' R B m c xs A n cap p lv' hv' r.2.1 r.2.2 ∧ Kp R lv hv lv' hv' w w'
/-- lines one after another -/
def goB (ln : Nat → Rst → Lft × Rst) (p : List Lin) (b : Nat) : Nat → Nat → Rst → Lft × Rst
  | 0, _, s => (.nil, s)
  | k + 1, i, s => if i < b then (match ln i s with | (.nil, s2) => goB ln p b k (bEnd p i) s2 | (l, s2) => (l, s2)) else (.nil, s)
theorem goB_end {ln : Nat → Rst → Lft × Rst} {p : List Lin} {b i : Nat} (h : ¬ i < b) (k : Nat) (s : Rst) : goB ln p b k i s = (.nil, s) := by
  cases k with
  | zero => rfl
  | succ k => exact if_neg h
theorem goB_nil {ln : Nat → Rst → Lft × Rst} {p : List Lin} {b i : Nat} (h : i < b) (k : Nat) {s s2 : Rst} (e : ln i s = (.nil, s2)) : goB ln p b (k + 1) i s = goB ln p b k (bEnd p i) s2 := by
  show (if i < b then _ else _) = _
  rw [if_pos h, e]
theorem goB_out {ln : Nat → Rst → Lft × Rst} {p : List Lin} {b i : Nat} (h : i < b) (k : Nat) {s s2 : Rst} {l : Lft} (hl : l ≠ .nil) (e : ln i s = (l, s2)) : goB ln p b (k + 1) i s = (l, s2) := by
  show (if i < b then _ else _) = _
  rw [if_pos h, e]
  cases l
  · exact absurd rfl hl
  all_goals rfl
section
variable {w w' : World} {R m c n cap : Nat} {B A : Option Addr} {xs : List Cls} {p : List Lin} {lv hv : Value} {lg : List Int} {hs : List Flt}
/-- a store into a box of a caller leaves the run's memory as it was -/
theorem Rn.box (h : Rn w R B m c xs A n cap p lv hv lg hs) {g o : Nat} (hR : R < g) (hl : lv.ownBlock ≠ some g) (hh : hv.ownBlock ≠ some g) (u : Value) : Rn (w.setCell ⟨g, o, none⟩ u) R B m c xs A n cap p lv hv lg hs := by
  have gs := grown_set w g o u
  have hzz : (w.setCell ⟨g, o, none⟩ u).heap.size = w.heap.size := by simp [World.setCell]
  have hfr : ∀ k, (w.setCell ⟨g, o, none⟩ u).frozen? ⟨R, k, none⟩ = w.frozen? ⟨R, k, none⟩ := fun k => World.frozen?_of_block (a := ⟨R, k, none⟩) (gs.block R h.z (fun e => by injection e with e; omega))
  have ho : ∀ {v : Value}, v.ownBlock ≠ some g → v.ownBlock = none ∨ v.ownBlock ≠ some g := fun hv => .inr hv
  exact ⟨by rw [hzz]; exact h.z, (cell_set_other (.inl (by omega))).trans h.c0, (cell_set_other (.inl (by omega))).trans h.c1, (cell_set_other (.inl (by omega))).trans h.c2, (cell_set_other (.inl (by omega))).trans h.c3, (hfr 2).trans h.f2, (hfr 3).trans h.f3,
    h.S.grown gs (fun hn a e e2 => by have := h.hB hn a e; have e3 : a.block = g := (by injection e2); omega), h.T.grown gs (fun hn a e e2 => by have := h.hA hn a e; have e3 : a.block = g := (by injection e2); omega), h.hB, h.hA, h.O.kept gs (ho hl), h.H.kept gs (ho hh), h.ap, h.okl, h.okh, h.nl, h.nh⟩
/-- a store into a box that was made behind the first world -/
theorem Kp.box {w0 : World} {lv0 hv0 : Value} (h : Kp R lv0 hv0 lv hv w0 w) {g o : Nat} (hg : w0.heap.size ≤ g) (u : Value) : Kp R lv0 hv0 lv hv w0 (w.setCell ⟨g, o, none⟩ u) := by
  have gs := grown_set w g o u
  have hzz : (w.setCell ⟨g, o, none⟩ u).heap.size = w.heap.size := by simp [World.setCell]
  exact ⟨gs.os.trans h.os, gs.tape.trans h.tape, gs.output.trans h.output, by rw [hzz]; exact h.size, fun b hb h1 h2 h3 => (gs.block b (Nat.lt_of_lt_of_le hb h.size) (fun e => by injection e with e; omega)).trans (h.blk b hb h1 h2 h3), h.lo, h.ho⟩
theorem Kp.ownL {w0 : World} {lv0 hv0 : Value} (h : Kp R lv0 hv0 lv hv w0 w) {g : Nat} (hg : g < w0.heap.size) (hl : lv0.ownBlock ≠ some g) : lv.ownBlock ≠ some g := fun e => by
  rcases h.lo with h1 | h1
  · exact hl (h1 ▸ e)
  · have := h1 g e; omega
theorem Kp.ownH {w0 : World} {lv0 hv0 : Value} (h : Kp R lv0 hv0 lv hv w0 w) {g : Nat} (hg : g < w0.heap.size) (hl : hv0.ownBlock ≠ some g) : hv.ownBlock ≠ some g := fun e => by
  rcases h.ho with h1 | h1
  · exact hl (h1 ▸ e)
  · have := h1 g e; omega
theorem Kp.cell {w0 : World} {lv0 hv0 : Value} (h : Kp R lv0 hv0 lv hv w0 w) {g o : Nat} {v : Value} (hg : g < w0.heap.size) (hR : g ≠ R) (hl : lv0.ownBlock ≠ some g) (hh : hv0.ownBlock ≠ some g) (hc : w0.cell? ⟨g, o, none⟩ = some v) : w.cell? ⟨g, o, none⟩ = some v :=
  (World.cell?_of_block (a := ⟨g, o, none⟩) (h.blk g hg hR hl hh)).trans hc
theorem Kp.frozen {w0 : World} {lv0 hv0 : Value} (h : Kp R lv0 hv0 lv hv w0 w) {g o : Nat} {v : Bool} (hg : g < w0.heap.size) (hR : g ≠ R) (hl : lv0.ownBlock ≠ some g) (hh : hv0.ownBlock ≠ some g) (hc : w0.frozen? ⟨g, o, none⟩ = v) : w.frozen? ⟨g, o, none⟩ = v :=
  (World.frozen?_of_block (a := ⟨g, o, none⟩) (h.blk g hg hR hl hh)).trans hc
end
set_option maxHeartbeats 4000000 in
set_option maxRecDepth 100000 in
theorem attempt_any (R m c n cap : Nat) (B A : Option Addr) (xs : List Cls) (p : List Lin) (ln : Nat → Rst → Lft × Rst) (Iv : Nat → Rst → Prop) (a b : Nat) (h : Int) (hb : b ≤ p.length) (hp : p.length ≤ 24) (hab : a ≤ p.length)
    (HL : ∀ i s lv hv w, a ≤ i → i < b → Iv i s → Rn w R B m c xs A n cap p lv hv s.1 s.2 → RunOk R m c n cap B A xs p 47 #[.pointer (some ⟨R, 0, none⟩), .int .i64 i, .int .i64 h] lv hv w (ln i s))
    (HI : ∀ i s s2, a ≤ i → i < b → Iv i s → ln i s = (.nil, s2) → Iv (bEnd p i) s2)
    (s : Rst) (hs : Iv a s) (lv hv : Value) (w : World) (H : Rn w R B m c xs A n cap p lv hv s.1 s.2) :
    Calls Tryz.prog 25 #[.pointer (some ⟨R, 0, none⟩), .int .i64 a, .int .i64 b, .int .i64 h] w fun e w' => e = .returned (lfV (goB ln p b 25 a s).1) ∧ ∃ lv' hv', Rn w' R B m c xs A n cap p lv' hv' (goB ln p b 25 a s).2.1 (goB ln p b 25 a s).2.2 ∧ Kp R lv hv lv' hv' w w' := by
  have hmf : ∀ (fn : Fn) (first cap : Array Value) (w : World), (Instr.makeFunc fn first cap).run Tryz.prog w = .ok (.func fn first cap) w := fun _ _ _ _ => rfl
  go_enter_defers Tryz.func25, Tryz.ntmps25
  have LX := Le.new w (.cells #[.nilIface] 20)
  have H0 := H.le LX
  have zx : w.heap.size < (w.alloc (.cells #[.nilIface] 20)).heap.size := by simp
  have b0 : (w.alloc (.cells #[.nilIface] 20)).cell? ⟨w.heap.size, 0, none⟩ = some .nilIface := by rw [World.cell?_alloc_at _ _ _ _ rfl]; rfl
  have fb : (w.alloc (.cells #[.nilIface] 20)).frozen? ⟨w.heap.size, 0, none⟩ = false := World.frozen?_alloc_at _ _ _ _ rfl
  have K0 := Kp.of_le R lv hv LX
  have hRw := H.z
  have hlw : lv.ownBlock ≠ some w.heap.size := fun e => by have := (H.O.lt _ e).2; omega
  have hhw : hv.ownBlock ≠ some w.heap.size := fun e => by have := (H.H.lt _ e).2; omega
  go_wp2
  go_loopw [9] (fun ii wr => ∃ (i k : Nat) (s2 : Rst) (lv2 hv2 : Value), ii = .int .i64 i ∧ a ≤ i ∧ b ≤ k + i ∧ i ≤ p.length + 1 ∧ Iv i s2 ∧ goB ln p b 25 a s = goB ln p b k i s2 ∧ Rn wr R B m c xs A n cap p lv2 hv2 s2.1 s2.2 ∧ Kp R lv hv lv2 hv2 (w.alloc (.cells #[.nilIface] 20)) wr) (fun ii _ => b - (intOf ii).toNat)
  case atStart => exact ⟨a, 25, s, lv, hv, rfl, Nat.le_refl _, by omega, by omega, hs, rfl, H0, Kp.refl R lv hv _⟩
  case round =>
    obtain ⟨i, k, s2, lv2, hv2, rfl, hai, hbk, hip, hiv, hg, RN, KP⟩ := hrel
    have b1 : wr.cell? ⟨w.heap.size, 0, none⟩ = some .nilIface := (World.cell?_of_block (a := ⟨w.heap.size, 0, none⟩) (KP.blk w.heap.size zx (by omega) hlw hhw)).trans b0
    have f1 : wr.frozen? ⟨w.heap.size, 0, none⟩ = false := (World.frozen?_of_block (a := ⟨w.heap.size, 0, none⟩) (KP.blk w.heap.size zx (by omega) hlw hhw)).trans fb
    have z1 := Nat.lt_of_lt_of_le zx KP.size
    by_cases hib : i < b
    · have hibi : (i : Int) < (b : Int) := by omega
      go_wp2_with fail
      have HC := HL i s2 lv2 hv2 wr hai hib hiv RN
      refine (show Calls _ _ _ _ _ from HC).mono ?_
      rintro e w2 ⟨rfl, lv3, hv3, RN3, KP3⟩
      have z2 := Nat.lt_of_lt_of_le z1 KP3.size
      have hl2 := KP.ownL zx hlw
      have hh2 := KP.ownH zx hhw
      have b2 := KP3.cell z1 (by omega) hl2 hh2 b1
      have f2 := KP3.frozen z1 (by omega) hl2 hh2 f1
      have hl3 := KP3.ownL z1 hl2
      have hh3 := KP3.ownH z1 hh2
      have KQ := KP.trans KP3
      obtain ⟨k, rfl⟩ : ∃ k', k = k' + 1 := ⟨k - 1, by omega⟩
      rcases hln : ln i s2 with ⟨l, s3⟩
      rw [hln] at RN3
      have hbg := bEnd_gt p i
      have hbe := bEnd_le (show i < p.length by omega)
      rcases l with _ | v | f | _ | _
      · have HI2 := HI i s2 s3 hai hib hiv hln
        have HG : Hid (goB ln p b 25 a s = goB ln p b k (bEnd p i) s3) := by show _ = _; rw [hg]; exact goB_nil hib k hln
        have c1 := RN3.c1
        have zR := RN3.z
        clear hg
        simp only [lfE]
        go_wp2_with fail
        refine (iBlockEnd_any A n cap p i (by omega) w2 RN3.T).mono ?_
        rintro e w5 ⟨rfl, hle5⟩
        go_wp2
        go_roundw
        case rel => exact ⟨bEnd p i, k, s3, lv3, hv3, rfl, by omega, by omega, by omega, HI2, HG.out, RN3.le hle5, KQ.trans (Kp.of_le R lv3 hv3 hle5)⟩
        case measure => simp [intOf]; omega
      · have HG : Hid (goB ln p b 25 a s = ((.ret v), s3)) := by show _ = _; rw [hg]; exact goB_out hib k (by intro h; cases h) hln
        clear hg
        show bodyPostD _ _ _ (Exit.panic _) _ _
        refine leaves_cons (f := 46) (args := #[.pointer (some ⟨w.heap.size, 0, none⟩)]) (by simp) (by simp [go_sem]) ?_
        refine (att_pan w.heap.size .nilIface _ _ [] w2 b2 f2).mono ?_
        rintro e u' w3 ⟨rfl, rfl, rfl⟩
        have HR := Lib.hid (And.intro (RN3.box (g := w.heap.size) (o := 0) (by omega) hl3 hh3 (lfV (.ret v))) ((K0.trans KQ).box (g := w.heap.size) (o := 0) (Nat.le_refl _) (lfV (.ret v))))
        have hend : ∀ u, (w2.setCell ⟨w.heap.size, 0, none⟩ u).cell? ⟨w.heap.size, 0, none⟩ = some u := fun u => cell_set_same b2
        rw [HG.out]
        simp [Leaves, settle, results, Tryz.results25, go_sem, hend, lfV]
        exact ⟨_, _, HR.out.1, HR.out.2⟩
      · have HG : Hid (goB ln p b 25 a s = ((.rai f), s3)) := by show _ = _; rw [hg]; exact goB_out hib k (by intro h; cases h) hln
        clear hg
        show bodyPostD _ _ _ (Exit.panic _) _ _
        refine leaves_cons (f := 46) (args := #[.pointer (some ⟨w.heap.size, 0, none⟩)]) (by simp) (by simp [go_sem]) ?_
        refine (att_pan w.heap.size .nilIface _ _ [] w2 b2 f2).mono ?_
        rintro e u' w3 ⟨rfl, rfl, rfl⟩
        have HR := Lib.hid (And.intro (RN3.box (g := w.heap.size) (o := 0) (by omega) hl3 hh3 (lfV (.rai f))) ((K0.trans KQ).box (g := w.heap.size) (o := 0) (Nat.le_refl _) (lfV (.rai f))))
        have hend : ∀ u, (w2.setCell ⟨w.heap.size, 0, none⟩ u).cell? ⟨w.heap.size, 0, none⟩ = some u := fun u => cell_set_same b2
        rw [HG.out]
        simp [Leaves, settle, results, Tryz.results25, go_sem, hend, lfV]
        exact ⟨_, _, HR.out.1, HR.out.2⟩
      · have HG : Hid (goB ln p b 25 a s = (.brk, s3)) := by show _ = _; rw [hg]; exact goB_out hib k (by intro h; cases h) hln
        clear hg
        show bodyPostD _ _ _ (Exit.panic _) _ _
        refine leaves_cons (f := 46) (args := #[.pointer (some ⟨w.heap.size, 0, none⟩)]) (by simp) (by simp [go_sem]) ?_
        refine (att_pan w.heap.size .nilIface _ _ [] w2 b2 f2).mono ?_
        rintro e u' w3 ⟨rfl, rfl, rfl⟩
        have HR := Lib.hid (And.intro (RN3.box (g := w.heap.size) (o := 0) (by omega) hl3 hh3 (lfV .brk)) ((K0.trans KQ).box (g := w.heap.size) (o := 0) (Nat.le_refl _) (lfV .brk)))
        have hend : ∀ u, (w2.setCell ⟨w.heap.size, 0, none⟩ u).cell? ⟨w.heap.size, 0, none⟩ = some u := fun u => cell_set_same b2
        rw [HG.out]
        simp [Leaves, settle, results, Tryz.results25, go_sem, hend, lfV]
        exact ⟨_, _, HR.out.1, HR.out.2⟩
      · have HG : Hid (goB ln p b 25 a s = (.cnt, s3)) := by show _ = _; rw [hg]; exact goB_out hib k (by intro h; cases h) hln
        clear hg
        show bodyPostD _ _ _ (Exit.panic _) _ _
        refine leaves_cons (f := 46) (args := #[.pointer (some ⟨w.heap.size, 0, none⟩)]) (by simp) (by simp [go_sem]) ?_
        refine (att_pan w.heap.size .nilIface _ _ [] w2 b2 f2).mono ?_
        rintro e u' w3 ⟨rfl, rfl, rfl⟩
        have HR := Lib.hid (And.intro (RN3.box (g := w.heap.size) (o := 0) (by omega) hl3 hh3 (lfV .cnt)) ((K0.trans KQ).box (g := w.heap.size) (o := 0) (Nat.le_refl _) (lfV .cnt)))
        have hend : ∀ u, (w2.setCell ⟨w.heap.size, 0, none⟩ u).cell? ⟨w.heap.size, 0, none⟩ = some u := fun u => cell_set_same b2
        rw [HG.out]
        simp [Leaves, settle, results, Tryz.results25, go_sem, hend, lfV]
        exact ⟨_, _, HR.out.1, HR.out.2⟩
    · have hibi : ¬ (i : Int) < (b : Int) := by omega
      have hE := goB_end (ln := ln) (p := p) hib k s2
      rw [hE] at hg
      clear hE
      have HG := Lib.hid hg
      clear hg
      go_wp2
      refine leaves_cons (f := 46) (args := #[.pointer (some ⟨w.heap.size, 0, none⟩)]) (by simp) (by simp [go_sem]) ?_
      refine (att_idle w.heap.size .nilIface _ (cell_set_same b1) (by rw [fr_set]; exact f1)).mono ?_
      rintro e u' w3 ⟨rfl, rfl, rfl⟩
      have HR := Lib.hid (And.intro ((RN.box (g := w.heap.size) (o := 0) (by omega) (KP.ownL zx hlw) (KP.ownH zx hhw) .nilIface).box (g := w.heap.size) (o := 0) (by omega) (KP.ownL zx hlw) (KP.ownH zx hhw) .nilIface) (((K0.trans KP).box (g := w.heap.size) (o := 0) (Nat.le_refl _) .nilIface).box (g := w.heap.size) (o := 0) (Nat.le_refl _) .nilIface))
      have hend : ((wr.setCell ⟨w.heap.size, 0, none⟩ .nilIface).setCell ⟨w.heap.size, 0, none⟩ .nilIface).cell? ⟨w.heap.size, 0, none⟩ = some .nilIface := cell_set_same (cell_set_same b1)
      rw [HG.out]
      simp [Leaves, settle, results, Tryz.results25, go_sem, hend, lfV]
      exact ⟨_, _, HR.out.1, HR.out.2⟩
end

section
theorem bf {a b : Int} (h : a ≠ b) : (a == b) = false := beq_eq_false_iff_ne.2 h
theorem hasBlock_any (k : Int) (w : World) : Calls Tryz.prog 33 #[.int .i64 k] w fun e w' => e = .returned (.bool (opn k)) ∧ w = w' := by
  by_cases h : 7 ≤ k ∧ k ≤ 12
  · have h6 : k = 7 ∨ k = 8 ∨ k = 9 ∨ k = 10 ∨ k = 11 ∨ k = 12 := by omega
    rcases h6 with rfl | rfl | rfl | rfl | rfl | rfl
    all_goals
      go_enter Tryz.func33, Tryz.ntmps33
      go_wp2
      go_ret
      exact ⟨rfl, rfl⟩
  · have b7 := bf (show k ≠ 7 by omega)
    have b8 := bf (show k ≠ 8 by omega)
    have b9 := bf (show k ≠ 9 by omega)
    have b10 := bf (show k ≠ 10 by omega)
    have b11 := bf (show k ≠ 11 by omega)
    have b12 := bf (show k ≠ 12 by omega)
    have HF : Hid (opn k = false) := by
      show _ = _
      cases e : opn k
      · rfl
      · exact absurd (opn_iff.1 e) h
    clear h
    go_enter Tryz.func33, Tryz.ntmps33
    go_wp2
    go_ret
    exact ⟨ret_bool HF.out.symm, rfl⟩
theorem mayF_not {a k : Int} (h : ¬ ((k = 8 ∧ (a = 7 ∨ a = 8)) ∨ (k = 9 ∧ a = 8) ∨ (k = 10 ∧ (a = 7 ∨ a = 8 ∨ a = 9)))) : mayF a k = false := by
  cases e : mayF a k
  · rfl
  · exact absurd (mayF_iff.1 e) h
theorem mayFollow_any (a k : Int) (w : World) : Calls Tryz.prog 87 #[.int .i64 a, .int .i64 k] w fun e w' => e = .returned (.bool (mayF a k)) ∧ w = w' := by
  by_cases h8 : k = 8
  · subst h8
    by_cases a7 : a = 7
    · subst a7
      go_enter Tryz.func87, Tryz.ntmps87
      go_wp2
      go_ret
      exact ⟨rfl, rfl⟩
    · by_cases a8 : a = 8
      · subst a8
        go_enter Tryz.func87, Tryz.ntmps87
        go_wp2
        go_ret
        exact ⟨rfl, rfl⟩
      · have HF := Lib.hid (mayF_not (a := a) (k := 8) (by omega))
        have b7 := bf a7
        have b8 := bf a8
        clear a7 a8
        go_enter Tryz.func87, Tryz.ntmps87
        go_wp2
        go_ret
        exact ⟨ret_bool HF.out.symm, rfl⟩
  · by_cases h9 : k = 9
    · subst h9
      by_cases a8 : a = 8
      · subst a8
        go_enter Tryz.func87, Tryz.ntmps87
        go_wp2
        go_ret
        exact ⟨rfl, rfl⟩
      · have HF := Lib.hid (mayF_not (a := a) (k := 9) (by omega))
        have b8 := bf a8
        clear a8
        go_enter Tryz.func87, Tryz.ntmps87
        go_wp2
        go_ret
        exact ⟨ret_bool HF.out.symm, rfl⟩
    · by_cases h10 : k = 10
      · subst h10
        by_cases a789 : a = 7 ∨ a = 8 ∨ a = 9
        · rcases a789 with rfl | rfl | rfl
          all_goals
            go_enter Tryz.func87, Tryz.ntmps87
            go_wp2
            go_ret
            exact ⟨rfl, rfl⟩
        · have HF := Lib.hid (mayF_not (a := a) (k := 10) (by omega))
          have b7 := bf (show a ≠ 7 by omega)
          have b8 := bf (show a ≠ 8 by omega)
          have b9 := bf (show a ≠ 9 by omega)
          clear a789
          go_enter Tryz.func87, Tryz.ntmps87
          go_wp2
          go_ret
          exact ⟨ret_bool HF.out.symm, rfl⟩
      · have HF := Lib.hid (mayF_not (a := a) (k := k) (by omega))
        have b8 := bf h8
        have b9 := bf h9
        have b10 := bf h10
        clear h8 h9 h10
        go_enter Tryz.func87, Tryz.ntmps87
        go_wp2
        go_ret
        exact ⟨ret_bool HF.out.symm, rfl⟩
theorem mostNumbers_any (A : Option Addr) (n c : Nat) (k : Int) (w : World) (hn : n ≤ 1048576) :
    Calls Tryz.prog 55 #[.agg #[.slice A n c], .int .i64 k] w fun e w' => e = .returned (.tuple #[.int .i64 (mostA n k), .int .i64 (mostB k)]) ∧ Le w w' := by
  have hw : IntKind.i64.wrap ((n : Int) - 1) = (n : Int) - 1 := IntWalk.i64_in _ (by omega)
  by_cases h : 0 ≤ k ∧ k ≤ 12
  · have h6 : k = 0 ∨ k = 1 ∨ k = 2 ∨ k = 3 ∨ k = 4 ∨ k = 5 ∨ k = 6 ∨ k = 7 ∨ k = 8 ∨ k = 9 ∨ k = 10 ∨ k = 11 ∨ k = 12 := by omega
    rcases h6 with rfl | rfl | rfl | rfl | rfl | rfl | rfl | rfl | rfl | rfl | rfl | rfl | rfl
    · go_enter Tryz.func55, Tryz.ntmps55
      go_wp2
      exact bodyPost_ret (v := .tuple #[.int .i64 0, .int .i64 0]) (by simp [results, Tryz.results55, go_sem]) rfl ⟨rfl, Le.new w _⟩
    · go_enter Tryz.func55, Tryz.ntmps55
      go_wp2
      exact bodyPost_ret (v := .tuple #[.int .i64 99, .int .i64 0]) (by simp [results, Tryz.results55, go_sem]) rfl ⟨rfl, Le.new w _⟩
    · go_enter Tryz.func55, Tryz.ntmps55
      go_wp2
      exact bodyPost_ret (v := .tuple #[.int .i64 ((n : Int) - 1), .int .i64 99]) (by simp [results, Tryz.results55, go_sem]) rfl ⟨rfl, Le.new w _⟩
    · go_enter Tryz.func55, Tryz.ntmps55
      go_wp2
      exact bodyPost_ret (v := .tuple #[.int .i64 0, .int .i64 0]) (by simp [results, Tryz.results55, go_sem]) rfl ⟨rfl, Le.new w _⟩
    · go_enter Tryz.func55, Tryz.ntmps55
      go_wp2
      exact bodyPost_ret (v := .tuple #[.int .i64 99, .int .i64 0]) (by simp [results, Tryz.results55, go_sem]) rfl ⟨rfl, Le.new w _⟩
    · go_enter Tryz.func55, Tryz.ntmps55
      go_wp2
      exact bodyPost_ret (v := .tuple #[.int .i64 0, .int .i64 0]) (by simp [results, Tryz.results55, go_sem]) rfl ⟨rfl, Le.new w _⟩
    · go_enter Tryz.func55, Tryz.ntmps55
      go_wp2
      exact bodyPost_ret (v := .tuple #[.int .i64 0, .int .i64 0]) (by simp [results, Tryz.results55, go_sem]) rfl ⟨rfl, Le.new w _⟩
    · go_enter Tryz.func55, Tryz.ntmps55
      go_wp2
      exact bodyPost_ret (v := .tuple #[.int .i64 0, .int .i64 0]) (by simp [results, Tryz.results55, go_sem]) rfl ⟨rfl, Le.new w _⟩
    · go_enter Tryz.func55, Tryz.ntmps55
      go_wp2
      exact bodyPost_ret (v := .tuple #[.int .i64 ((n : Int) - 1), .int .i64 0]) (by simp [results, Tryz.results55, go_sem]) rfl ⟨rfl, Le.new w _⟩
    · go_enter Tryz.func55, Tryz.ntmps55
      go_wp2
      exact bodyPost_ret (v := .tuple #[.int .i64 0, .int .i64 0]) (by simp [results, Tryz.results55, go_sem]) rfl ⟨rfl, Le.new w _⟩
    · go_enter Tryz.func55, Tryz.ntmps55
      go_wp2
      exact bodyPost_ret (v := .tuple #[.int .i64 0, .int .i64 0]) (by simp [results, Tryz.results55, go_sem]) rfl ⟨rfl, Le.new w _⟩
    · go_enter Tryz.func55, Tryz.ntmps55
      go_wp2
      exact bodyPost_ret (v := .tuple #[.int .i64 9, .int .i64 1]) (by simp [results, Tryz.results55, go_sem]) rfl ⟨rfl, Le.new w _⟩
    · go_enter Tryz.func55, Tryz.ntmps55
      go_wp2
      exact bodyPost_ret (v := .tuple #[.int .i64 3, .int .i64 0]) (by simp [results, Tryz.results55, go_sem]) rfl ⟨rfl, Le.new w _⟩
  · have HA : Hid (mostA n k = -1) := by
      show _ = _
      unfold mostA; rw [if_neg (by omega), if_neg (by omega), if_neg (by omega), if_neg (by omega), if_neg (by omega)]
    have HB : Hid (mostB k = -1) := by
      show _ = _
      unfold mostB; rw [if_neg (by omega), if_neg (by omega), if_neg (by omega), if_neg (by omega), if_neg (by omega), if_neg (by omega)]
    have b0 := bf (show k ≠ 0 by omega)
    have b1 := bf (show k ≠ 1 by omega)
    have b2 := bf (show k ≠ 2 by omega)
    have b3 := bf (show k ≠ 3 by omega)
    have b4 := bf (show k ≠ 4 by omega)
    have b5 := bf (show k ≠ 5 by omega)
    have b6 := bf (show k ≠ 6 by omega)
    have b7 := bf (show k ≠ 7 by omega)
    have b8 := bf (show k ≠ 8 by omega)
    have b9 := bf (show k ≠ 9 by omega)
    have b10 := bf (show k ≠ 10 by omega)
    have b11 := bf (show k ≠ 11 by omega)
    have b12 := bf (show k ≠ 12 by omega)
    clear h
    go_enter Tryz.func55, Tryz.ntmps55
    go_wp2
    exact bodyPost_ret (v := .tuple #[.int .i64 (-1), .int .i64 (-1)]) (by simp [results, Tryz.results55, go_sem]) rfl ⟨by rw [HA.out, HB.out], Le.new w _⟩
end
end Go.Proofs.YtgjlmfjmjglplaaGreat
