/- draws: aClass -/
import Derived.Test.YtembnjanopajgaaTA
import Derived.Test.YtembnjanopajgaaKB
namespace Go.Proofs.Ytembnjanopajgaa
open Go.RowKit

/-- a number between two bounds; the reader has gone on -/
def NumOut (lo hi : Int) (k g p : Nat) (A : Option Addr) (n cap : Nat) (bs : List By) (w : World) (e : Ending) (w' : World) : Prop :=
  ∃ (v : Int) (p' : Nat), e = .returned (.int .i64 v) ∧ lo ≤ v ∧ v ≤ hi ∧ p' ≤ p + k ∧ Rd w' g p' A n cap bs ∧ Gx g w w'

set_option maxRecDepth 100000 in
theorem aClass_any (B : Option Addr) (m c : Nat) (g p : Nat) (A : Option Addr) (n cap : Nat) (bs : List By) (w : World) (hm : m ≤ 8) (hp : p ≤ 900000) (hR : Rd w g p A n cap bs) :
    Calls Try.prog 37 #[.pointer (some ⟨g, 0, none⟩), .agg #[.slice B m c]] w (NumOut (-1) 8 2 g p A n cap bs w) := by
  have hgw := hR.lt
  go_enter Try.func37, Try.ntmps37
  go_wp2_with fail
  obtain ⟨c0, z0, L0⟩ := box1 w (.slice B m c) 25
  have R0 := hR.le L0
  generalize w.alloc (.cells #[.slice B m c] 25) = W at *
  have hgz : w.heap.size ≠ g := by omega
  refine (pick_any 16 g p A n cap bs W (by omega) (by omega) (by omega) R0).mono ?_
  rintro e w1 ⟨v, rfl, hv0, hv1, R1, hg1⟩
  have c1 := (hg1.cell z0 hgz).trans c0
  have G1 := (Gx.of_le (g := g) L0).trans hg1
  have s1 := hg1.size
  clear c0 hg1
  by_cases hv : v = 0
  · subst hv
    go_wp2_with fail
    refine (one_any _ 3 3 [-1, (m : Int), 8] g (p + 1) A n cap bs _ (by omega) (by omega) (by omega) (Sl.of_row (hp_new _ _ rfl) (by rfl) rfl (by omega) (by intro x hx; simp at hx; rcases hx with rfl | rfl | rfl <;> (constructor <;> omega))) (fun _ a e => by injection e with e; rw [← e]; show w1.heap.size ≠ g; omega) (R1.le (Le.new _ _))).mono ?_
    rintro e w2 ⟨u, rfl, hu, R2, hg2⟩
    have hu1 : -1 ≤ u ∧ u ≤ 8 := by simp at hu; omega
    clear hu
    go_wp2
    go_ret
    exact ⟨u, p + 1 + 1, rfl, hu1.1, hu1.2, by omega, R2, (G1.trans (Gx.of_le (Le.new _ _))).trans hg2⟩
  · have e0 : (v == 0) = false := by simpa using hv
    go_wp2_with fail
    refine (pick_any m g (p + 1) A n cap bs w1 (by omega) (by omega) (by omega) R1).mono ?_
    rintro e w2 ⟨u, rfl, hu0, hu1, R2, hg2⟩
    go_wp2
    go_ret
    exact ⟨u, p + 1 + 1, rfl, by omega, by omega, by omega, R2, G1.trans hg2⟩

/-- a tree and two classes, drawn anew -/
def DrawnTAB (w : World) (e : Ending) (w' : World) : Prop := ∃ (B : Option Addr) (m c : Nat) (xs : List Cls) (a b : Int), e = .returned (.tuple #[.agg #[.slice B m c], .int .i64 a, .int .i64 b]) ∧ Sl w' B m c xs ∧ m ≤ 8 ∧ (0 < m → ∀ x, B = some x → w.heap.size ≤ x.block) ∧ (-1 ≤ a ∧ a ≤ 8) ∧ (-1 ≤ b ∧ b ≤ 8) ∧ Le w w'
end Go.Proofs.Ytembnjanopajgaa
