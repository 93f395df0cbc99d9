/- draws: a tree and a name -/
import Derived.Test.YtdookbcnodghnaaDA
namespace Go.Proofs.Ytdookbcnodghnaa
open Go.RowKit

def six6 : List ByteArray := [⟨#[105, 111]⟩, ⟨#[97, 110, 121]⟩, ⟨#[107, 101, 121]⟩, ⟨#[110, 101, 116]⟩, ⟨#[110, 111]⟩, ⟨#[]⟩]
theorem six_ok : ∀ x ∈ six6, Enc.ok x := by
  intro x hx
  simp [six6] at hx
  rcases hx with rfl | rfl | rfl | rfl | rfl | rfl <;> (show _ ≤ _; decide)
theorem six_few : ∀ x ∈ six6, x.size ≤ 8 := by
  intro x hx
  simp [six6] at hx
  rcases hx with rfl | rfl | rfl | rfl | rfl | rfl <;> decide
def DrawnTS (w : World) (e : Ending) (w' : World) : Prop := ∃ (B : Option Addr) (m c : Nat) (xs : List Cls) (s : ByteArray), e = .returned (.tuple #[.agg #[.slice B m c], .string s]) ∧ Sl w' B m c xs ∧ m ≤ 8 ∧ s.size ≤ 8 ∧ Le w w'
set_option maxRecDepth 100000 in
theorem drawClassNamed_any (A : Option Addr) (n cap : Nat) (bs : List By) (w : World) (hR : Sl w A n cap bs) : Calls Try.prog 14 #[.slice A n cap] w (DrawnTS w) := by
  go_enter Try.func14, Try.ntmps14
  go_wp2_with fail
  obtain ⟨c0, z0, L0⟩ := box1 w (.slice none 0 0) 25
  have f0 : (w.alloc (.cells #[.slice none 0 0] 25)).frozen? ⟨w.heap.size, 0, none⟩ = false := World.frozen?_alloc_at _ _ _ _ rfl
  have S0 := hR.le L0
  generalize w.alloc (.cells #[.slice none 0 0] 25) = W at *
  have zW := z0
  refine (newReader_any A n cap bs W S0).mono ?_
  rintro e w1 ⟨g, A1, n1, k1, bs1, rfl, hg, R1, hle⟩
  replace c0 := (hle.cell z0).trans c0
  replace f0 := (hle.frozen z0).trans f0
  replace z0 := Nat.lt_of_lt_of_le z0 hle.size
  replace L0 := L0.trans hle
  clear S0
  have hgz : w.heap.size ≠ g := by omega
  have hgl := R1.lt
  go_wp2_with fail
  refine (someTree_any g 0 A1 n1 k1 bs1 w1 (by omega) R1).mono ?_
  rintro e w2 ⟨B, m, c, p2, xs, rfl, S2, hm, hoff, hab, hp2, R2, hg2⟩
  have s2 := hg2.size
  have c2 := (hg2.cell z0 hgz).trans c0
  have f2 := (hg2.frozen z0 hgz).trans f0
  have L2 := Gx.le L0 hg2 (by omega)
  clear hle L0
  go_wp2_with fail
  have LN := Le.new w2 (.cells #[.string ⟨#[105, 111]⟩, .string ⟨#[97, 110, 121]⟩, .string ⟨#[107, 101, 121]⟩, .string ⟨#[110, 101, 116]⟩, .string ⟨#[110, 111]⟩, .string ⟨#[]⟩] 9)
  have S3 := S2.le LN
  have R3 := R2.le LN
  have c3 := (LN.cell (b := w.heap.size) (o := 0) (by omega)).trans c2
  have f3 := (LN.frozen (b := w.heap.size) (o := 0) (by omega)).trans f2
  have L3 := L2.trans LN
  refine (of_any _ 6 6 six6 g p2 A1 n1 k1 bs1 _ (by omega) (by omega) (by omega) (Sl.of_row (hp_new _ _ rfl) (by rfl) rfl (by omega) six_ok) (fun _ a e => by injection e with e; rw [← e]; show w2.heap.size ≠ g; have := R2.lt; omega) R3).mono ?_
  rintro e w4 ⟨s, rfl, hs, R4, hg4⟩
  have hsf := six_few s hs
  have c4 := (hg4.cell (k := w.heap.size) (o := 0) (by have := LN.size; omega) hgz).trans c3
  have S4 := S3.gx hoff hg4
  have L4 := Gx.le L3 hg4 (by omega)
  have f4 := (hg4.frozen (k := w.heap.size) (o := 0) (by have := LN.size; omega) hgz).trans f3
  have hend : ∀ u, (w4.setCell ⟨w.heap.size, 0, none⟩ u).cell? ⟨w.heap.size, 0, none⟩ = some u := fun u => cell_set_same c4
  have hSx : ∀ u, Sl (w4.setCell ⟨w.heap.size, 0, none⟩ u) B m c xs := fun u => S4.gx (fun h a e => by have := hab h a e; omega) (Gx.set w.heap.size 0 w4 u)
  clear c0 f0 c2 f2 c3 f3
  go_wp2
  exact bodyPost_ret (v := .tuple #[.agg #[.slice B m c], .string s]) (by simp [results, Try.results14, go_sem, hend]) rfl ⟨B, m, c, xs, s, rfl, hSx _, hm, hsf, L4.setCell (Nat.le_refl _) _⟩
end Go.Proofs.Ytdookbcnodghnaa
