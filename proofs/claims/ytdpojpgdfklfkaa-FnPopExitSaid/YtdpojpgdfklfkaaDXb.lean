/- draws of exits: goodExits -/
import Derived.Test.YtdpojpgdfklfkaaDXa
namespace Go.Proofs.Ytdpojpgdfklfkaa
open Go.RowKit
/-- exits that were drawn -/
def ExsOut (k g p : Nat) (A : Option Addr) (n cap : Nat) (bs : List By) (w : World) (e : Ending) (w' : World) : Prop :=
  ∃ (v : Value) (xs : List Xit) (p' : Nat), e = .returned v ∧ w'.ownsRow w.heap.size 32 3 v xs.length (xs.flatMap Enc.cells) ∧ (∀ x ∈ xs, Enc.ok x) ∧ xs.length ≤ 8 ∧ p' ≤ p + k ∧ Rd w' g p' A n cap bs ∧ Gx g w w'
set_option maxHeartbeats 2000000 in
set_option maxRecDepth 100000 in
theorem goodExits_any (B : Option Addr) (m c g p : Nat) (A : Option Addr) (n cap : Nat) (bs : List By) (w : World) (hm : m ≤ 8) (hp : p ≤ 800000) (hR : Rd w g p A n cap bs) :
    Calls Try.prog 32 #[.pointer (some ⟨g, 0, none⟩), .agg #[.slice B m c]] w (ExsOut 25 g p A n cap bs w) := by
  have hgw := hR.lt
  obtain ⟨i0, hi, hz0, hz1, hz2⟩ := info_parts infoXt
  have HA : Hid (0 < n → ∀ a, A = some a → a.block < w.heap.size) := fun hn a e => hR.sl.under hn a e
  go_enter Try.func32, Try.ntmps32
  go_wp2_with fail
  obtain ⟨ct, zt, L0⟩ := box1 w (.slice B m c) 25
  have zsW : (w.alloc (.cells #[.slice B m c] 25)).heap.size = w.heap.size + 1 := by simp
  have R0 := hR.le L0
  generalize w.alloc (.cells #[.slice B m c] 25) = W at *
  have LE := Le.new W (.cells #[] 32)
  have O0 := own_empty (w := W) (base := w.heap.size + 1) (g := W.heap.size) (e := 32) (size := 3) (by omega) rfl
  have zs : (W.alloc (.cells #[] 32)).heap.size = W.heap.size + 1 := by simp
  rw [zsW] at O0 zs
  have R1 := R0.le LE
  have c1 := (LE.cell zt).trans ct
  have G1 := (Gx.of_le (g := g) L0).trans (Gx.of_le LE)
  clear R0 ct L0 LE
  generalize W.alloc (.cells #[] 32) = W1 at *
  refine (one_lit [3, 4, 2, 1, 5, 0, 8] 7 _ _ g p A n cap bs W1 _ rfl rfl (by decide) (by decide) (by intro x hx; simp at hx; constructor <;> omega) (by omega) (by rw [zs]) R1).mono ?_
  rintro e w1 ⟨u, rfl, hu, R2, hg2⟩
  have hu1 : 0 ≤ u ∧ u ≤ 8 := by simp at hu; omega
  have O1 := O0.kept hg2 (.inr (fun e => by have e1 : w.heap.size + 1 = g := (by injection e); omega))
  have c2 := (hg2.cell (k := w.heap.size) (by omega) (by omega)).trans c1
  have G2 := G1.trans hg2
  have z2 : w.heap.size + 1 < w1.heap.size := by have := hg2.size; omega
  clear hu R1 O0 hg2 zs c1 G1
  go_wp2
  go_loopw [5, 6] (fun v i wr => ∃ (L : List Xit) (k p' : Nat), i = .int .i64 k ∧ L.length + k ≤ 8 ∧ p' + 3 * k ≤ p + 25 ∧ (∀ x ∈ L, Enc.ok x) ∧ wr.ownsRow (w.heap.size + 1) 32 3 v L.length (L.flatMap Enc.cells) ∧ w.heap.size + 1 < wr.heap.size ∧ wr.cell? ⟨w.heap.size, 0, none⟩ = some (.slice B m c) ∧ Rd wr g p' A n cap bs ∧ Gx g w wr) (fun _ i _ => (intOf i).toNat)
  case atStart =>
    obtain ⟨k, rfl⟩ := Int.eq_ofNat_of_zero_le hu1.1
    exact ⟨[], k, p + 1, rfl, by simp; omega, by omega, by simp, O1, z2, c2, R2, G2⟩
  case round =>
    clear O1 R2 G2 hu1 c2 z2
    obtain ⟨L, k, p', rfl, hk, hp', hL, O, z, ct, R, G⟩ := hrel
    by_cases h0 : 0 < k
    · have hk0 : (0 : Int) < k := by omega
      obtain ⟨j, rfl⟩ : ∃ j, k = j + 1 := ⟨k - 1, by omega⟩
      have hwj : IntKind.i64.wrap ((j : Int) + 1 - 1) = (j : Int) := by rw [Int.add_sub_cancel]; exact IntWalk.i64_in _ (by omega)
      go_wp2_with fail
      refine (anExit_any B m c g p' A n cap bs wr hm (by omega) R).mono ?_
      rintro e w2 ⟨x, p2, rfl, hx, hp2, R2, hg2⟩
      have O2 := O.kept hg2 (.inr (fun e => by have := (O.lt _ e).1; omega))
      have z2 := Nat.lt_of_lt_of_le z hg2.size
      have G2 := G.trans hg2
      have ct2 := (hg2.cell (k := w.heap.size) (o := 0) (by omega) (by omega)).trans ct
      have hbk := O2.lt
      clear O R G hg2 z ct
      obtain ⟨A1, c1, rfl⟩ := own_form O2
      go_wp2_with (at_builtin; refine wpList_append_sl rfl _ _ 26 rfl (w.heap.size + 1) 32 i0 _ 24 Try.underlying26 hi hz0 hz1 hz2 rfl _ _ L rfl (O2.alloc _) _ 1 1 [x] rfl (sl_one x rfl hx rfl) (by unfold maxLen; omega) (by omega) (Nat.le_trans (by omega) (Le.new w2 _).size) ?_; intro v1 w4 O4 hg4 hbl; have LA := Le.new w2 (.cells #[.int .i64 x.kind, .int .i64 x.a, .int .i64 x.b] 32); have R4 := (R2.le LA).grown hg4 (fun e => by have h := (hbk _ e).1; omega) (fun hn a e e2 => by have h := (hbk _ e2).1; have := HA.out hn a e; omega); have G4 := (G2.trans (Gx.of_le LA)).grown hg4 (fun k hk => by have h := (hbk _ hk).1; omega); have z4 := Nat.lt_of_lt_of_le (Nat.lt_of_lt_of_le z2 LA.size) hg4.size; have e0 := hg4.cell (a := ⟨w.heap.size, 0, none⟩) ((LA.cell (b := w.heap.size) (o := 0) (by omega)).trans ct2) (fun e => by have h : w.heap.size + 1 ≤ w.heap.size := (hbk _ e.symm).1; omega); clear hg4 LA)
      go_roundw
      case rel => exact ⟨L ++ [x], j, p2, by go_num, by simp; omega, by omega, (fun y hy => by rcases List.mem_append.1 hy with h | h; exact hL y h; simp at h; subst h; exact hx), by rw [List.length_append]; exact O4, z4, e0, R4, G4⟩
      case measure => (simp [intOf]) <;> omega
    · obtain rfl : k = 0 := by omega
      obtain ⟨A1, c1, rfl⟩ := own_form O
      go_wp2
      go_ret
      exact ⟨_, L, p', rfl, own_mono O (by omega), hL, by omega, by omega, R, G⟩
end Go.Proofs.Ytdpojpgdfklfkaa
