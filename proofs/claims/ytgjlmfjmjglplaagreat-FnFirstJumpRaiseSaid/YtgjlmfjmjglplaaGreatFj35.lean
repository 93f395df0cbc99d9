/- one text of RnK, RnLi -/
import Derived.Test.YtgjlmfjmjglplaaGreatFj34
import Derived.Test.YtgjlmfjmjglplaaGreatFj17
import Derived.Test.YtgjlmfjmjglplaaGreatFj29
namespace Go.Proofs.YtgjlmfjmjglplaaGreat
open Go.RowKit
set_option linter.unusedVariables false
section
theorem Kp.le_new {R : Nat} {lv hv lv' hv' : Value} {w W w' : World} (hl : Le w W) (h : Kp R lv hv lv' hv' W w') (hR : w.heap.size ≤ R) (h1 : lv.ownBlock = none) (h2 : hv.ownBlock = none) : Le w w' :=
  ⟨h.os.trans hl.os, h.tape.trans hl.tape, h.output.trans hl.output, Nat.le_trans hl.size h.size, fun b hb => (h.blk b (Nat.lt_of_lt_of_le hb hl.size) (by omega) (by rw [h1]; intro e; cases e) (by rw [h2]; intro e; cases e)).trans (hl.block b hb)⟩
theorem ret4 {a b d e : Value} {x y z u : Int} (h1 : a = b) (h2 : x = y) (h3 : z = u) (h4 : d = e) : Ending.returned (.agg #[a, .int .i64 x, .int .i64 z, d]) = .returned (.agg #[b, .int .i64 y, .int .i64 u, e]) := by rw [h1, h2, h3, h4]
/-- what RunProgram says, of a run -/
def rgL (b : Bool) (r : Lft × Rst) : List Int := cond b r.2.1 []
def rgH (b : Bool) (r : Lft × Rst) : List Flt := cond b (resH r.2.2 r.1) []
def rgE (b : Bool) (r : Lft × Rst) : Int := cond b (resE r.1) 0
def rgV (b : Bool) (r : Lft × Rst) : Int := cond b (resV r.2.2 r.1) 0
set_option maxHeartbeats 2000000 in
set_option maxRecDepth 100000 in
theorem iRunProgram_any (B A : Option Addr) (m c n cap : Nat) (xs : List Cls) (p : List Lin) (hm : m ≤ 1048576) (hS : vp xs p = true → Sm (runI xs p).2) (w : World) (hT : Sl w B m c xs) (hR : Sl w A n cap p) :
    Calls Tryz.prog 10 #[.agg #[.slice B m c], .slice A n cap] w (ResOut w (rgL (vp xs p) (runI xs p)) (rgH (vp xs p) (runI xs p)) (rgE (vp xs p) (runI xs p)) (rgV (vp xs p) (runI xs p))) := by
  have HG : Hid (vp xs p = true → GoodP xs p) := goodP_of
  have HS := Lib.hid hS
  clear hS
  obtain rfl := hR.len
  have LB := (Le.new w (.cells #[.slice B m c] 25)).trans (Le.new (w.alloc (.cells #[.slice B m c] 25)) (.cells #[.slice none 0 0, .int .i64 0, .int .i64 0, .slice none 0 0] 40))
  have R0 := ((Le.new (w.alloc (.cells #[.slice B m c] 25)) (.cells #[.slice none 0 0, .int .i64 0, .int .i64 0, .slice none 0 0] 40)).block w.heap.size (by simp)).trans (hpn (w := w) (o := .cells #[.slice B m c] 25) rfl)
  have R1 := hpn (w := w.alloc (.cells #[.slice B m c] 25)) (o := .cells #[.slice none 0 0, .int .i64 0, .int .i64 0, .slice none 0 0] 40) (b := w.heap.size + 1) (by simp)
  have hzW : w.heap.size + 1 < ((w.alloc (.cells #[.slice B m c] 25)).alloc (.cells #[.slice none 0 0, .int .i64 0, .int .i64 0, .slice none 0 0] 40)).heap.size := by simp
  have T1 := hT.le LB
  have S1 := hR.le LB
  have HBT : Hid (0 < m → ∀ a, B = some a → a.block < w.heap.size) := fun hn a e => by obtain ⟨b, off, e2, hb, _⟩ := hT.at_ hn; rw [e2] at e; injection e with e; rw [← e]; exact hb
  have HBA : Hid (0 < p.length → ∀ a, A = some a → a.block < w.heap.size) := fun hn a e => by obtain ⟨b, off, e2, hb, _⟩ := hR.at_ hn; rw [e2] at e; injection e with e; rw [← e]; exact hb
  unfold ResOut
  go_enter Tryz.func10, Tryz.ntmps10
  have t0 : ((w.alloc (.cells #[.slice B m c] 25)).alloc (.cells #[.slice none 0 0, .int .i64 0, .int .i64 0, .slice none 0 0] 40)).cell? ⟨w.heap.size, 0, none⟩ = some (.slice B m c) := cell_of_row _ w.heap.size 0 _ _ _ R0
  go_wp2_with fail
  generalize (w.alloc (.cells #[.slice B m c] 25)).alloc (.cells #[.slice none 0 0, .int .i64 0, .int .i64 0, .slice none 0 0] 40) = W at *
  refine (pValidProgram_any B A m c p.length cap xs p hm W T1 S1).mono ?_
  rintro e w2 ⟨rfl, hle⟩
  have L2 := LB.trans hle
  replace t0 := (hle.cell (by omega)).trans t0
  obtain ⟨r0, r1, r2, r3⟩ := cells4 ((hle.block _ hzW).trans R1)
  have fr := fun k => frz_row (k := k) ((hle.block _ hzW).trans R1)
  have hzW2 := Nat.lt_of_lt_of_le hzW hle.size
  have T2 := T1.le hle
  have S2 := S1.le hle
  clear T1 S1 R0 R1 hT hR hle LB
  cases hvt : vp xs p
  · have HZ : Hid (rgL (vp xs p) (runI xs p) = [] ∧ rgH (vp xs p) (runI xs p) = [] ∧ rgE (vp xs p) (runI xs p) = 0 ∧ rgV (vp xs p) (runI xs p) = 0) := by show _ ∧ _ ∧ _ ∧ _; rw [hvt]; exact ⟨rfl, rfl, rfl, rfl⟩
    clear hvt
    have f0 := fr 0
    have f1 := fr 1
    have f2 := fr 2
    have f3 := fr 3
    have ho := out4 (a := .slice none 0 0) (b := .int .i64 0) (c := .int .i64 0) (d := .slice none 0 0) r0 r1 r2 r3
    go_wp2
    obtain ⟨z0, z1, z2, z3⟩ := ho
    exact bodyPost_ret (v := .agg #[.slice none 0 0, .int .i64 0, .int .i64 0, .slice none 0 0]) (by simp [results, Tryz.results10, go_sem, z0, z1, z2, z3]) rfl ⟨_, _, ret4 rfl HZ.out.2.2.1.symm HZ.out.2.2.2.symm rfl, by rw [HZ.out.1]; exact Owd.nil _ _ _, by rw [HZ.out.2.1]; exact Owd.nil _ _ _, (show Apart (.slice none 0 0) (.slice none 0 0) from .inl rfl), (((L2.setCell (by omega) _).setCell (by omega) _).setCell (by omega) _).setCell (by omega) _⟩
  · have g := HG.out hvt
    have hs := HS.out hvt
    have hp := g.len
    have LR := Le.new w2 (.cells #[.slice B m c, .slice A p.length cap, .slice none 0 0, .slice none 0 0] 62)
    have RR := hpn (w := w2) (o := .cells #[.slice B m c, .slice A p.length cap, .slice none 0 0, .slice none 0 0] 62) (b := w2.heap.size) rfl
    obtain ⟨u0, u1, u2, u3⟩ := cells4 RR
    have hs2 := L2.size
    have RN : Rn (w2.alloc (.cells #[.slice B m c, .slice A p.length cap, .slice none 0 0, .slice none 0 0] 62)) w2.heap.size B m c xs A p.length cap p (.slice none 0 0) (.slice none 0 0) [] [] :=
      ⟨by simp, u0, u1, u2, u3, frz_row RR, frz_row RR, T2.le LR, S2.le LR, fun hn a e => by have := HBT.out hn a e; omega, fun hn a e => by have := HBA.out hn a e; omega, World.ownsRow_nil _ _ _ _, World.ownsRow_nil _ _ _ _, (fun k e => by cases e), (fun _ h => nomatch h), (fun _ h => nomatch h), (fun e => by cases e), (fun e => by cases e)⟩
    have gd0 : Gd xs ([] : List Flt) := fun k h => absurd h (Nat.not_lt_zero _)
    have hd0 : Hd (-1) (([], []) : Rst) := ⟨by omega, by show (-1 : Int) < ((0 : Nat) : Int); omega⟩
    have F : Fw xs ([], []) (runI xs p) := Fw.goB (xs := xs) (p := p) (ln := lnN xs p 6 (-1)) (a := 0) (b := p.length) (h := -1) (OK := fun _ => True) (fun _ _ _ _ _ => trivial) (fun i s _ hib _ g1 hh1 => lfw_all g 6 i (-1) s hib g1 hh1) 25 0 ([], []) (Nat.le_refl _) (fun _ => trivial) gd0 hd0
    have HA : AtOk w2.heap.size m c p.length cap B A xs p 25 #[.pointer (some ⟨w2.heap.size, 0, none⟩), .int .i64 0, .int .i64 p.length, .int .i64 (-1)] (.slice none 0 0) (.slice none 0 0) (w2.alloc (.cells #[.slice B m c, .slice A p.length cap, .slice none 0 0, .slice none 0 0] 62)) (runI xs p) := at_of w2.heap.size m c p.length cap B A xs p g 6 (ln_all w2.heap.size m c p.length cap B A xs p g 6) 0 p.length (Nat.le_refl _) (Nat.zero_le _) (fun i _ h => by have := (g.line i h).2.1.1; omega) (-1) ([], []) gd0 hd0 hs (.slice none 0 0) (.slice none 0 0) _ RN
    have hf := F.rai
    have gd := F.gd
    clear F RR u0 u1 u2 u3 RN HG HS
    obtain ⟨r, hr⟩ : ∃ r, runI xs p = r := ⟨_, rfl⟩
    rw [hr] at HA hs hf gd
    have HZ : Hid (rgL (vp xs p) (runI xs p) = r.2.1 ∧ rgH (vp xs p) (runI xs p) = resH r.2.2 r.1 ∧ rgE (vp xs p) (runI xs p) = resE r.1 ∧ rgV (vp xs p) (runI xs p) = resV r.2.2 r.1) := by show _ ∧ _ ∧ _ ∧ _; rw [hvt, hr]; exact ⟨rfl, rfl, rfl, rfl⟩
    clear hr hvt
    rcases r with ⟨l, s⟩
    go_wp2_with fail
    refine (show Calls _ _ _ _ _ from HA).mono ?_
    rintro e w4 ⟨rfl, lv, hv, RN, KP⟩
    have L4 := Kp.le_new (L2.trans LR) KP hs2 rfl rfl
    have hne : w.heap.size + 1 ≠ w2.heap.size := by omega
    have hzW3 := Nat.lt_of_lt_of_le hzW2 LR.size
    replace r0 := KP.cell hzW3 hne (by intro e; cases e) (by intro e; cases e) ((LR.cell hzW2).trans r0)
    replace r1 := KP.cell hzW3 hne (by intro e; cases e) (by intro e; cases e) ((LR.cell hzW2).trans r1)
    replace r2 := KP.cell hzW3 hne (by intro e; cases e) (by intro e; cases e) ((LR.cell hzW2).trans r2)
    replace r3 := KP.cell hzW3 hne (by intro e; cases e) (by intro e; cases e) ((LR.cell hzW2).trans r3)
    replace fr : ∀ k, w4.frozen? ⟨w.heap.size + 1, k, none⟩ = false := fun k => KP.frozen hzW3 hne (by intro e; cases e) (by intro e; cases e) ((LR.frozen hzW2).trans (fr k))
    have hzW4 := Nat.lt_of_lt_of_le hzW3 KP.size
    have hnl : lv.ownBlock ≠ some (w.heap.size + 1) := KP.ownL hzW3 (by intro e; cases e)
    have RNH := Lib.hid RN
    clear HA KP T2 S2 LR
    go_wp2_with fail
    refine (result_any w2.heap.size m c p.length cap B A xs p lv hv l s gd hf hs w4 RNH.out).mono ?_
    rintro e w5 ⟨hv5, rfl, D5, hl5⟩
    replace r0 := (hl5.cell hzW4).trans r0
    replace r1 := (hl5.cell hzW4).trans r1
    replace r2 := (hl5.cell hzW4).trans r2
    replace r3 := (hl5.cell hzW4).trans r3
    have f0 := (hl5.frozen hzW4).trans (fr 0)
    have f1 := (hl5.frozen hzW4).trans (fr 1)
    have f2 := (hl5.frozen hzW4).trans (fr 2)
    have f3 := (hl5.frozen hzW4).trans (fr 3)
    have L5 := L4.trans hl5
    have O5 : Owd 3 w w5 lv s.1 := Owd.le ⟨own_mono RNH.out.O (by omega), RNH.out.okl⟩ hl5
    have P5 : Apart lv hv5 := by
      cases e : lv.ownBlock with
      | none => exact .inl e
      | some k => exact .inr (fun e2 => by have h1 := (RNH.out.O.lt k e).2; have h2 := (D5.row.lt k (e2 ▸ e)).1; omega)
    have hnh : hv5.ownBlock ≠ some (w.heap.size + 1) := fun e => by have := (D5.row.lt _ e).1; omega
    have D6 := D5.mono L4
    obtain ⟨A7, c7, rfl⟩ := own_form O5.row
    obtain ⟨A8, c8, rfl⟩ := own_form D6.row
    have HF : Hid (∀ a b c d, Owd 3 w ((((w5.setCell ⟨w.heap.size + 1, 0, none⟩ a).setCell ⟨w.heap.size + 1, 1, none⟩ b).setCell ⟨w.heap.size + 1, 2, none⟩ c).setCell ⟨w.heap.size + 1, 3, none⟩ d) (.slice A7 s.1.length c7) s.1 ∧ Owd 68 w ((((w5.setCell ⟨w.heap.size + 1, 0, none⟩ a).setCell ⟨w.heap.size + 1, 1, none⟩ b).setCell ⟨w.heap.size + 1, 2, none⟩ c).setCell ⟨w.heap.size + 1, 3, none⟩ d) (.slice A8 (resH s.2 l).length c8) (resH s.2 l)) := fun a b c d => ⟨(((O5.setO hnl).setO hnl).setO hnl).setO hnl, (((D6.setO hnh).setO hnh).setO hnh).setO hnh⟩
    have ho := out4 (a := .slice A7 s.1.length c7) (b := .int .i64 (resE l)) (c := .int .i64 (resV s.2 l)) (d := .slice A8 (resH s.2 l).length c8) r0 r1 r2 r3
    clear hl5 D5 D6 O5
    go_wp2
    obtain ⟨z0, z1, z2, z3⟩ := ho
    exact bodyPost_ret (v := .agg #[.slice A7 s.1.length c7, .int .i64 (resE l), .int .i64 (resV s.2 l), .slice A8 (resH s.2 l).length c8]) (by simp [results, Tryz.results10, go_sem, z0, z1, z2, z3]) rfl ⟨_, _, ret4 rfl HZ.out.2.2.1.symm HZ.out.2.2.2.symm rfl, by rw [HZ.out.1]; exact (HF.out _ _ _ _).1, by rw [HZ.out.2.1]; exact (HF.out _ _ _ _).2, P5, (((L5.setCell (by omega) _).setCell (by omega) _).setCell (by omega) _).setCell (by omega) _⟩
end

section
def rpL (xs : List Cls) (p : List Lin) : List Int := rgL (vp xs p) (runI xs p)
def rpH (xs : List Cls) (p : List Lin) : List Flt := rgH (vp xs p) (runI xs p)
def rpE (xs : List Cls) (p : List Lin) : Int := rgE (vp xs p) (runI xs p)
def rpV (xs : List Cls) (p : List Lin) : Int := rgV (vp xs p) (runI xs p)
theorem rpL_len (xs : List Cls) (p : List Lin) : (rpL xs p).length ≤ 1048576 := by
  unfold rpL rgL
  cases h : vp xs p
  · exact Nat.zero_le _
  · have := (run_sm (goodP_of h)).1
    show (runI xs p).2.1.length ≤ _
    omega
theorem iRp_any (B A : Option Addr) (m c n cap : Nat) (xs : List Cls) (p : List Lin) (hm : m ≤ 1048576) (w : World) (hT : Sl w B m c xs) (hR : Sl w A n cap p) :
    Calls Tryz.prog 10 #[.agg #[.slice B m c], .slice A n cap] w (ResOut w (rpL xs p) (rpH xs p) (rpE xs p) (rpV xs p)) :=
  iRunProgram_any B A m c n cap xs p hm (fun h => run_sm (goodP_of h)) w hT hR
theorem fld0 (a b c d : Value) (w : World) : (Instr.field 40 (.agg #[a, b, c, d]) 0).run Tryz.prog w = .ok a w := by kernel_rfl
theorem fld1 (a c d : Value) (b : Int) (w : World) : (Instr.field 40 (.agg #[a, .int .i64 b, c, d]) 1).run Tryz.prog w = .ok (.int .i64 b) w := by kernel_rfl
end
end Go.Proofs.YtgjlmfjmjglplaaGreat
