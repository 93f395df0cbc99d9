/- draws: a tree and a program, whole (ProgramText, RunProgram, RunLog, FaultText, RunText and others) -/
import Derived.Test.YtlepgfccnfcagaaWp16
import Derived.Test.YtlepgfccnfcagaaWp6
import Derived.Test.YtlepgfccnfcagaaWp13
namespace Go.Proofs.Ytlepgfccnfcagaa
open Go.RowKit
def DrawnPr (w : World) (e : Ending) (w' : World) : Prop :=
  ∃ (B D : Option Addr) (m c q d : Nat) (xs : List Cls) (L : List Lin), e = .returned (.tuple #[.agg #[.slice B m c], .slice D q d]) ∧ Sl w' B m c xs ∧ m ≤ 8 ∧ Sl w' D q d L ∧ q ≤ 24 ∧ Le w w'
set_option maxHeartbeats 1000000 in
set_option maxRecDepth 100000 in
theorem drawRunProgram_any (A : Option Addr) (n cap : Nat) (bs : List By) (w : World) (hR : Sl w A n cap bs) : Calls Try.prog 10 #[.slice A n cap] w (DrawnPr w) := by
  go_enter Try.func10, Try.ntmps10
  go_wp2_with fail
  obtain ⟨c0, z0, L0⟩ := box1 w (.slice none 0 0) 25
  have f0 : (w.alloc (.cells #[.slice none 0 0] 25)).frozen? ⟨w.heap.size, 0, none⟩ = false := World.frozen?_alloc_at _ _ _ _ rfl
  have S0 := hR.le L0
  generalize w.alloc (.cells #[.slice none 0 0] 25) = W at *
  refine (newReader_any A n cap bs W S0).mono ?_
  rintro e w1 ⟨g, A1, n1, k1, bs1, rfl, hg, R1, hle⟩
  have hz1 : w.heap.size < w1.heap.size := Nat.lt_of_lt_of_le z0 hle.size
  replace c0 := (hle.cell z0).trans c0
  replace f0 := (hle.frozen z0).trans f0
  replace L0 := L0.trans hle
  clear S0
  have hgz : w.heap.size ≠ g := by omega
  go_wp2_with fail
  refine (someProgram_any g 0 A1 n1 k1 bs1 w1 (by omega) R1).mono ?_
  rintro e w2 ⟨B, D, m, c, q, d, xs, L, p2, rfl, S2, hm, hab, SD, hq, hD, hp2, R2, hg2⟩
  replace c0 := (hg2.cell hz1 hgz).trans c0
  replace f0 := (hg2.frozen hz1 hgz).trans f0
  have L2 := Gx.le L0 hg2 (by omega)
  have hend : ∀ u, (w2.setCell ⟨w.heap.size, 0, none⟩ u).cell? ⟨w.heap.size, 0, none⟩ = some u := fun u => cell_set_same c0
  have hSx : ∀ u, Sl (w2.setCell ⟨w.heap.size, 0, none⟩ u) B m c xs := fun u => S2.gx (fun h a e => by have := hab h a e; omega) (Gx.set w.heap.size 0 w2 u)
  have hSy : ∀ u, Sl (w2.setCell ⟨w.heap.size, 0, none⟩ u) D q d L := fun u => SD.gx (fun h a e => by have := hD h a e; omega) (Gx.set w.heap.size 0 w2 u)
  clear hle L0 R1 R2 hg2 S2 SD
  go_wp2
  exact bodyPost_ret (v := .tuple #[.agg #[.slice B m c], .slice D q d]) (by simp [results, Try.results10, go_sem, hend]) rfl ⟨B, D, m, c, q, d, xs, L, rfl, hSx _, hm, hSy _, hq, L2.setCell (Nat.le_refl _) _⟩
set_option maxHeartbeats 1000000 in
set_option maxRecDepth 100000 in
theorem drawRunLog_any (A : Option Addr) (n cap : Nat) (bs : List By) (w : World) (hR : Sl w A n cap bs) : Calls Try.prog 15 #[.slice A n cap] w (DrawnPr w) := by
  go_enter Try.func15, Try.ntmps15
  go_wp2_with fail
  obtain ⟨c0, z0, L0⟩ := box1 w (.slice none 0 0) 25
  have f0 : (w.alloc (.cells #[.slice none 0 0] 25)).frozen? ⟨w.heap.size, 0, none⟩ = false := World.frozen?_alloc_at _ _ _ _ rfl
  have S0 := hR.le L0
  generalize w.alloc (.cells #[.slice none 0 0] 25) = W at *
  refine (newReader_any A n cap bs W S0).mono ?_
  rintro e w1 ⟨g, A1, n1, k1, bs1, rfl, hg, R1, hle⟩
  have hz1 : w.heap.size < w1.heap.size := Nat.lt_of_lt_of_le z0 hle.size
  replace c0 := (hle.cell z0).trans c0
  replace f0 := (hle.frozen z0).trans f0
  replace L0 := L0.trans hle
  clear S0
  have hgz : w.heap.size ≠ g := by omega
  go_wp2_with fail
  refine (someProgram_any g 0 A1 n1 k1 bs1 w1 (by omega) R1).mono ?_
  rintro e w2 ⟨B, D, m, c, q, d, xs, L, p2, rfl, S2, hm, hab, SD, hq, hD, hp2, R2, hg2⟩
  replace c0 := (hg2.cell hz1 hgz).trans c0
  replace f0 := (hg2.frozen hz1 hgz).trans f0
  have L2 := Gx.le L0 hg2 (by omega)
  have hend : ∀ u, (w2.setCell ⟨w.heap.size, 0, none⟩ u).cell? ⟨w.heap.size, 0, none⟩ = some u := fun u => cell_set_same c0
  have hSx : ∀ u, Sl (w2.setCell ⟨w.heap.size, 0, none⟩ u) B m c xs := fun u => S2.gx (fun h a e => by have := hab h a e; omega) (Gx.set w.heap.size 0 w2 u)
  have hSy : ∀ u, Sl (w2.setCell ⟨w.heap.size, 0, none⟩ u) D q d L := fun u => SD.gx (fun h a e => by have := hD h a e; omega) (Gx.set w.heap.size 0 w2 u)
  clear hle L0 R1 R2 hg2 S2 SD
  go_wp2
  exact bodyPost_ret (v := .tuple #[.agg #[.slice B m c], .slice D q d]) (by simp [results, Try.results15, go_sem, hend]) rfl ⟨B, D, m, c, q, d, xs, L, rfl, hSx _, hm, hSy _, hq, L2.setCell (Nat.le_refl _) _⟩
end Go.Proofs.Ytlepgfccnfcagaa
