/- draws: someCatches -/
import Derived.Test.YtdookbcnodghnaaDA
import Derived.Test.YtdookbcnodghnaaV
namespace Go.Proofs.Ytdookbcnodghnaa
open Go.RowKit

def IntsDrawn (k g p : Nat) (A : Option Addr) (n cap : Nat) (bs : List By) (w : World) (e : Ending) (w' : World) : Prop :=
  ∃ (v : Value) (L : List Int) (p' : Nat), e = .returned v ∧ w'.ownsRow w.heap.size 3 1 v L.length (L.flatMap Enc.cells) ∧ (∀ x ∈ L, -1 ≤ x ∧ x ≤ 8) ∧ L.length ≤ 8 ∧ p' ≤ p + k ∧ Rd w' g p' A n cap bs ∧ Gx g w w'

theorem Rd.grown {w w' : World} {g p : Nat} {A : Option Addr} {n cap : Nat} {bs : List By} {r : Option Nat} (h : Rd w g p A n cap bs) (hg : w.grownBy w' r) (hne : r ≠ some g) (hA : 0 < n → ∀ a, A = some a → r ≠ some a.block) : Rd w' g p A n cap bs :=
  ⟨(hg.block g h.lt (fun e => hne e.symm)).trans h.row, h.sl.grown hg (fun hn a e e2 => hA hn a e e2.symm), h.off, h.few⟩
theorem Gx.grown {g : Nat} {a b c : World} {r : Option Nat} (h : Gx g a b) (hg : b.grownBy c r) (hr : ∀ k, r = some k → a.heap.size ≤ k) : Gx g a c :=
  ⟨hg.os.trans h.os, hg.tape.trans h.tape, hg.output.trans h.output, Nat.le_trans h.size hg.size, fun i hi hne => (hg.block i (Nat.lt_of_lt_of_le hi h.size) (fun e => by have := hr i e.symm; omega)).trans (h.block i hi hne)⟩

set_option maxHeartbeats 4000000 in
set_option maxRecDepth 100000 in
theorem someCatches_any (B : Option Addr) (m c : Nat) (g p : Nat) (A : Option Addr) (n cap : Nat) (bs : List By) (w : World) (hm : m ≤ 8) (hp : p ≤ 800000) (hR : Rd w g p A n cap bs) :
    Calls Try.prog 72 #[.pointer (some ⟨g, 0, none⟩), .agg #[.slice B m c]] w (IntsDrawn 20 g p A n cap bs w) := by
  have hgw := hR.lt
  go_enter Try.func72, Try.ntmps72
  go_wp2_with fail
  obtain ⟨c0, z0, L0⟩ := box1 w (.slice B m c) 25
  have hs0 : (w.alloc (.cells #[.slice B m c] 25)).heap.size = w.heap.size + 1 := by simp
  have R0 := hR.le L0
  generalize w.alloc (.cells #[.slice B m c] 25) = W at *
  have hgz : w.heap.size ≠ g := by omega
  have O0 := own_empty (w := W) (base := w.heap.size + 1) (g := w.heap.size + 1) (e := 3) (size := 1) (by omega) (by omega)
  have L1 := Le.new W (.cells #[] 3)
  have R1 := R0.le L1
  have c1 := (L1.cell z0).trans c0
  have s1 : (W.alloc (.cells #[] 3)).heap.size = w.heap.size + 1 + 1 := by simp; omega
  have L01 := L0.trans L1
  generalize W.alloc (.cells #[] 3) = W1 at *
  refine (one_any _ 6 6 [2, 3, 1, 4, 0, 7] g p A n cap bs _ (by omega) (by omega) (by omega) (Sl.of_row (hp_new W1 _ (by omega)) (by rfl) rfl (by omega) (by intro x hx; simp at hx; rcases hx with rfl | rfl | rfl | rfl | rfl | rfl <;> (constructor <;> omega))) (fun _ a e => by injection e with e; rw [← e]; show w.heap.size + 1 + 1 ≠ g; omega) (R1.le (Le.new _ _))).mono ?_
  rintro e w2 ⟨u, rfl, hu, R2, hg2⟩
  have hu1 : 0 ≤ u ∧ u ≤ 7 := by simp at hu; omega
  clear hu
  have LN := Le.new W1 (.cells #[.int .i64 2, .int .i64 3, .int .i64 1, .int .i64 4, .int .i64 0, .int .i64 7] 3)
  have zN := Nat.lt_of_lt_of_le (show w.heap.size < W1.heap.size by omega) LN.size
  have c2 := (hg2.cell zN hgz).trans ((LN.cell (by omega)).trans c1)
  have z2 := Nat.lt_of_lt_of_le zN hg2.size
  have O2 := (own_le O0 LN).kept hg2 (.inr (fun e => by have := (O0.lt _ e).1; omega))
  have G2 := (Gx.of_le (g := g) (L01.trans LN)).trans hg2
  have z2b : w.heap.size + 1 < w2.heap.size := Nat.lt_of_lt_of_le (show w.heap.size + 1 < W1.heap.size by omega) (Nat.le_trans LN.size hg2.size)
  clear hg2 LN zN O0 L01 L1 c0 c1 R0 R1 L0 z0
  obtain ⟨i0, hi0, hz0, hz1, hz2⟩ := info_parts intInfo
  go_wp2
  go_loopw [5, 6] (fun v i wr => ∃ (L : List Int) (k p' : Nat), i = .int .i64 k ∧ L.length + k ≤ 7 ∧ p' ≤ p + 1 + L.length ∧ (∀ x ∈ L, -1 ≤ x ∧ x ≤ 8) ∧ wr.ownsRow (w.heap.size + 1) 3 1 v L.length (L.flatMap Enc.cells) ∧
      wr.cell? ⟨w.heap.size, 0, none⟩ = some (.slice B m c) ∧ w.heap.size + 1 < wr.heap.size ∧ Rd wr g p' A n cap bs ∧ Gx g w wr) (fun _ i _ => (intOf i).toNat)
  case atStart =>
    obtain ⟨k, rfl⟩ := Int.eq_ofNat_of_zero_le hu1.1
    exact ⟨[], k, p + 1, rfl, by simp; omega, by simp, by simp, O2, c2, z2b, R2, G2⟩
  case round =>
    clear O2 c2 R2 G2 z2 z2b hu1
    obtain ⟨L, k, p', rfl, hk, hp', hL, O, c2, z2, R2, G2⟩ := hrel
    have hA : 0 < n → ∀ a, A = some a → a.block < w.heap.size := fun hn a e => hR.sl.under hn a e
    have HA := Lib.hid hA; clear hA
    by_cases h0 : 0 < k
    · have hk0 : (0 : Int) < k := by omega
      have hwk : IntKind.i64.wrap ((k : Int) - 1) = ((k - 1 : Nat) : Int) := by
        have e : (k : Int) - 1 = ((k - 1 : Nat) : Int) := by omega
        rw [e]; exact IntWalk.i64_in _ (by omega)
      go_wp2_with fail
      refine (pick_any m g p' A n cap bs wr (by omega) (by omega) (by omega) R2).mono ?_
      rintro e w3 ⟨x, rfl, hx0, hx1, R3, hg3⟩
      have c3 := (hg3.cell (k := w.heap.size) (o := 0) (by omega) hgz).trans c2
      have z3 := Nat.lt_of_lt_of_le z2 hg3.size
      have O3 := O.kept hg3 (.inr (fun e => by have := (O.lt _ e).1; omega))
      have G3 := G2.trans hg3
      have hx2 : x ≤ 8 := by rcases hx1 with h | h <;> omega
      have hc3 : L.length + 1 ≤ maxLen := by unfold maxLen; omega
      have hc4 : (L.length + 1) * 8 ≤ 140737488355328 := by omega
      clear c2 O R2 G2 hg3 hx1
      go_wp2_with (at_builtin; refine wpList_append_own _ rfl _ _ 38 rfl (w.heap.size + 1) 3 i0 (.int .i64 0) 1 8 Try.underlying38 hi0 hz0 hz1 hz2 rfl (by decide) _ _ _ rfl (O3.alloc _) ⟨w3.heap.size, 0, none⟩ 1 1 [.int .i64 x] rfl rfl ?c1 ?c2 hc3 hc4 ?c5 ?_)
      case c1 => exact one_new _ _ _
      case c2 => intro u hu; simp at hu; subst hu; rfl
      case c5 => simp; omega
      intro v1 w4 O4 hg4 _
      have LA := Le.new w3 (.cells #[.int .i64 x] 3)
      have hbk := O3.lt
      have c4 := hg4.cell (a := ⟨w.heap.size, 0, none⟩) ((LA.cell (by omega)).trans c3) (fun e => by have h : w.heap.size + 1 ≤ w.heap.size ∧ _ := hbk _ e.symm; omega)
      have z4 := Nat.lt_of_lt_of_le (Nat.lt_of_lt_of_le z3 LA.size) hg4.size
      have R4 := (R3.le LA).grown hg4 (fun e => by have h := (hbk _ e).1; omega) (fun hn a e e2 => by have h := (hbk _ e2).1; have := HA.out hn a e; omega)
      have G4 := (G3.trans (Gx.of_le LA)).grown hg4 (fun k hk => by have h := (hbk _ hk).1; omega)
      clear hg4 LA c3 R3 G3 O3 hbk
      go_wp2
      go_roundw
      case rel => exact ⟨L ++ [x], k - 1, p' + 1, by first | rfl | go_num, by simp; omega, by simp; omega, (fun y hy => by rcases List.mem_append.1 hy with h | h; exact hL y h; simp at h; omega), by simpa [Enc.cells] using O4, c4, z4, R4, G4⟩
      case measure => simp [intOf]; omega
    · have hk0 : ¬ (0 : Int) < k := by omega
      go_wp2_with fail
      refine (pick_any 16 g p' A n cap bs wr (by omega) (by omega) (by omega) R2).mono ?_
      rintro e w3 ⟨x, rfl, hx0, hx1, R3, hg3⟩
      have c3 := (hg3.cell (k := w.heap.size) (o := 0) (by omega) hgz).trans c2
      have z3 := Nat.lt_of_lt_of_le z2 hg3.size
      have O3 := O.kept hg3 (.inr (fun e => by have := (O.lt _ e).1; omega))
      have G3 := G2.trans hg3
      clear c2 O R2 G2 hg3
      by_cases hx : x = 0
      · subst hx
        have hc3 : L.length + 1 ≤ maxLen := by unfold maxLen; omega
        have hc4 : (L.length + 1) * 8 ≤ 140737488355328 := by omega
        go_wp2_with fail
        refine (aClass_any B m c g (p' + 1) A n cap bs w3 hm (by omega) R3).mono ?_
        rintro e w4 ⟨x, p4, rfl, hx0, hx2, hp4, R4, hg3⟩
        have z4 := Nat.lt_of_lt_of_le z3 hg3.size
        have O4 := O3.kept hg3 (.inr (fun e => by have := (O3.lt _ e).1; omega))
        have G4 := G3.trans hg3
        clear c3 O3 R3 G3 hg3 hx1
        go_wp2_with (at_builtin; refine wpList_append_own _ rfl _ _ 38 rfl (w.heap.size + 1) 3 i0 (.int .i64 0) 1 8 Try.underlying38 hi0 hz0 hz1 hz2 rfl (by decide) _ _ _ rfl (O4.alloc _) ⟨w4.heap.size, 0, none⟩ 1 1 [.int .i64 x] rfl rfl ?c1 ?c2 hc3 hc4 ?c5 ?_)
        case c1 => exact one_new _ _ _
        case c2 => intro u hu; simp at hu; subst hu; rfl
        case c5 => simp; omega
        intro v1 w5 O5 hg4 _
        have LA := Le.new w4 (.cells #[.int .i64 x] 3)
        have hbk := O4.lt
        have R5 := (R4.le LA).grown hg4 (fun e => by have h := (hbk _ e).1; omega) (fun hn a e e2 => by have h := (hbk _ e2).1; have := HA.out hn a e; omega)
        have G5 := (G4.trans (Gx.of_le LA)).grown hg4 (fun k hk => by have h := (hbk _ hk).1; omega)
        clear hg4 LA R4 G4 O4 hbk
        go_wp2
        go_ret
        exact ⟨_, L ++ [x], p4, rfl, own_mono (by simpa [Enc.cells] using O5) (by omega), (fun y hy => by rcases List.mem_append.1 hy with h | h; exact hL y h; simp at h; omega), by simp; omega, by omega, R5, G5⟩
      · have hx9 : (x == 0) = false := by simpa using hx
        go_wp2
        go_ret
        exact ⟨_, L, p' + 1, rfl, own_mono O3 (by omega), hL, by omega, by omega, R3, G3⟩
end Go.Proofs.Ytdookbcnodghnaa
