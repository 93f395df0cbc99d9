/- programs: RunProgram of the model -/
import Derived.Test.YtlepgfccnfcagaaRsIP
namespace Go.Proofs.Ytlepgfccnfcagaa
open Go.RowKit
set_option maxHeartbeats 2000000 in
set_option maxRecDepth 100000 in
theorem sRunProgram_any (B A : Option Addr) (m c n cap : Nat) (xs : List Cls) (p : List Lin) (hsm : p.length ≤ 1048576) (hnb : vp xs p = true → (runI xs p).1 ≠ .brk ∧ (runI xs p).1 ≠ .cnt) (hS : vp xs p = true → Sm (runI xs p).2) (w : World) (hT : Sl w B m c xs) (hR : Sl w A n cap p) :
    Calls Try.prog 13 #[.agg #[.slice B m c], .slice A n cap] w (ResOut w (rgL (vp xs p) (runI xs p)) (rgH (vp xs p) (runI xs p)) (rgE (vp xs p) (runI xs p)) (rgV (vp xs p) (runI xs p))) := by
  have HG : Hid (vp xs p = true → GoodP xs p) := goodP_of
  have HS := Lib.hid hS
  have HNB := Lib.hid hnb
  clear hS hnb
  obtain rfl := hR.len
  have LB := (Le.new w (.cells #[.slice B m c] 25)).trans (Le.new (w.alloc (.cells #[.slice B m c] 25)) (.cells #[.slice none 0 0, .int .i64 0, .int .i64 0, .slice none 0 0] 34))
  have R0 := ((Le.new (w.alloc (.cells #[.slice B m c] 25)) (.cells #[.slice none 0 0, .int .i64 0, .int .i64 0, .slice none 0 0] 34)).block w.heap.size (by simp)).trans (hpn (w := w) (o := .cells #[.slice B m c] 25) rfl)
  have R1 := hpn (w := w.alloc (.cells #[.slice B m c] 25)) (o := .cells #[.slice none 0 0, .int .i64 0, .int .i64 0, .slice none 0 0] 34) (b := w.heap.size + 1) (by simp)
  have hzW : w.heap.size + 1 < ((w.alloc (.cells #[.slice B m c] 25)).alloc (.cells #[.slice none 0 0, .int .i64 0, .int .i64 0, .slice none 0 0] 34)).heap.size := by simp
  have T1 := hT.le LB
  have S1 := hR.le LB
  have HBT : Hid (0 < m → ∀ a, B = some a → a.block < w.heap.size) := fun hn a e => by obtain ⟨b, off, e2, hb, _⟩ := hT.at_ hn; rw [e2] at e; injection e with e; rw [← e]; exact hb
  have HBA : Hid (0 < p.length → ∀ a, A = some a → a.block < w.heap.size) := fun hn a e => by obtain ⟨b, off, e2, hb, _⟩ := hR.at_ hn; rw [e2] at e; injection e with e; rw [← e]; exact hb
  unfold ResOut
  go_enter Try.func13, Try.ntmps13
  have t0 : ((w.alloc (.cells #[.slice B m c] 25)).alloc (.cells #[.slice none 0 0, .int .i64 0, .int .i64 0, .slice none 0 0] 34)).cell? ⟨w.heap.size, 0, none⟩ = some (.slice B m c) := cell_of_row _ w.heap.size 0 _ _ _ R0
  go_wp2_with fail
  generalize (w.alloc (.cells #[.slice B m c] 25)).alloc (.cells #[.slice none 0 0, .int .i64 0, .int .i64 0, .slice none 0 0] 34) = W at *
  refine (svalidProgram_any B A m c p.length cap xs p hsm W T1 S1).mono ?_
  rintro e w2 ⟨rfl, hle⟩
  have L2 := LB.trans hle
  replace t0 := (hle.cell (by omega)).trans t0
  obtain ⟨r0, r1, r2, r3⟩ := cells4 ((hle.block _ hzW).trans R1)
  have fr := fun k => frz_row (k := k) ((hle.block _ hzW).trans R1)
  have hzW2 := Nat.lt_of_lt_of_le hzW hle.size
  have T2 := T1.le hle
  have S2 := S1.le hle
  clear T1 S1 R0 R1 hT hR hle LB
  cases hvt : vp xs p
  · have HZ : Hid (rgL (vp xs p) (runI xs p) = [] ∧ rgH (vp xs p) (runI xs p) = [] ∧ rgE (vp xs p) (runI xs p) = 0 ∧ rgV (vp xs p) (runI xs p) = 0) := by show _ ∧ _ ∧ _ ∧ _; rw [hvt]; exact ⟨rfl, rfl, rfl, rfl⟩
    clear hvt
    have f0 := fr 0
    have f1 := fr 1
    have f2 := fr 2
    have f3 := fr 3
    have ho := out4 (a := .slice none 0 0) (b := .int .i64 0) (c := .int .i64 0) (d := .slice none 0 0) r0 r1 r2 r3
    go_wp2
    obtain ⟨z0, z1, z2, z3⟩ := ho
    exact bodyPost_ret (v := .agg #[.slice none 0 0, .int .i64 0, .int .i64 0, .slice none 0 0]) (by simp [results, Try.results13, go_sem, z0, z1, z2, z3]) rfl ⟨_, _, ret4 rfl HZ.out.2.2.1.symm HZ.out.2.2.2.symm rfl, by rw [HZ.out.1]; exact Owd.nil _ _ _, by rw [HZ.out.2.1]; exact Owd.nil _ _ _, (show Apart (.slice none 0 0) (.slice none 0 0) from .inl rfl), (((L2.setCell (by omega) _).setCell (by omega) _).setCell (by omega) _).setCell (by omega) _⟩
  · have g := HG.out hvt
    have hs := HS.out hvt
    have hnb := HNB.out hvt
    have HZ : Hid (rgL (vp xs p) (runI xs p) = (runI xs p).2.1 ∧ rgH (vp xs p) (runI xs p) = resH (runI xs p).2.2 (runI xs p).1 ∧ rgE (vp xs p) (runI xs p) = resE (runI xs p).1 ∧ rgV (vp xs p) (runI xs p) = resV (runI xs p).2.2 (runI xs p).1) := by show _ ∧ _ ∧ _ ∧ _; rw [hvt]; exact ⟨rfl, rfl, rfl, rfl⟩
    clear hvt
    go_wp2_with fail
    refine (run_any B A m c p.length cap xs p g hs hnb w2 T2 S2).mono ?_
    rintro e w5 ⟨lv5, hv5, rfl, D4, D5, P5, hl5⟩
    clear HS HNB HG
    replace r0 := (hl5.cell hzW2).trans r0
    replace r1 := (hl5.cell hzW2).trans r1
    replace r2 := (hl5.cell hzW2).trans r2
    replace r3 := (hl5.cell hzW2).trans r3
    have f0 := (hl5.frozen hzW2).trans (fr 0)
    have f1 := (hl5.frozen hzW2).trans (fr 1)
    have f2 := (hl5.frozen hzW2).trans (fr 2)
    have f3 := (hl5.frozen hzW2).trans (fr 3)
    have L5 := L2.trans hl5
    have hnl : lv5.ownBlock ≠ some (w.heap.size + 1) := fun e => by have := (D4.row.lt _ e).1; omega
    have hnh : hv5.ownBlock ≠ some (w.heap.size + 1) := fun e => by have := (D5.row.lt _ e).1; omega
    have D6 := D4.mono L2
    have D7 := D5.mono L2
    obtain ⟨A7, c7, rfl⟩ := own_form D6.row
    obtain ⟨A8, c8, rfl⟩ := own_form D7.row
    generalize resE (runI xs p).1 = re at *
    generalize resV (runI xs p).2.2 (runI xs p).1 = rv at *
    generalize resH (runI xs p).2.2 (runI xs p).1 = rh at *
    generalize (runI xs p).2.1 = rl at *
    have HF : Hid (∀ a b c d, Owd 3 w ((((w5.setCell ⟨w.heap.size + 1, 0, none⟩ a).setCell ⟨w.heap.size + 1, 1, none⟩ b).setCell ⟨w.heap.size + 1, 2, none⟩ c).setCell ⟨w.heap.size + 1, 3, none⟩ d) (.slice A7 rl.length c7) rl ∧ Owd 74 w ((((w5.setCell ⟨w.heap.size + 1, 0, none⟩ a).setCell ⟨w.heap.size + 1, 1, none⟩ b).setCell ⟨w.heap.size + 1, 2, none⟩ c).setCell ⟨w.heap.size + 1, 3, none⟩ d) (.slice A8 rh.length c8) rh) := fun a b c d => ⟨(((D6.setO hnl).setO hnl).setO hnl).setO hnl, (((D7.setO hnh).setO hnh).setO hnh).setO hnh⟩
    have ho := out4 (a := .slice A7 rl.length c7) (b := .int .i64 re) (c := .int .i64 rv) (d := .slice A8 rh.length c8) r0 r1 r2 r3
    clear hl5 D4 D5 D6 D7
    go_wp2
    obtain ⟨z0, z1, z2, z3⟩ := ho
    exact bodyPost_ret (v := .agg #[.slice A7 rl.length c7, .int .i64 re, .int .i64 rv, .slice A8 rh.length c8]) (by simp [results, Try.results13, go_sem, z0, z1, z2, z3]) rfl ⟨_, _, ret4 rfl HZ.out.2.2.1.symm HZ.out.2.2.2.symm rfl, by rw [HZ.out.1]; exact (HF.out _ _ _ _).1, by rw [HZ.out.2.1]; exact (HF.out _ _ _ _).2, P5, (((L5.setCell (by omega) _).setCell (by omega) _).setCell (by omega) _).setCell (by omega) _⟩
end Go.Proofs.Ytlepgfccnfcagaa
