/- draws: a tree, a list of classes and a class -/
import Derived.Test.YtdookbcnodghnaaDF
namespace Go.Proofs.Ytdookbcnodghnaa
open Go.RowKit

set_option maxRecDepth 100000 in
theorem drawFirstCatch_any (A : Option Addr) (n cap : Nat) (bs : List By) (w : World) (hR : Sl w A n cap bs) : Calls Try.prog 38 #[.slice A n cap] w (DrawnTLA w) := by
  go_enter Try.func38, Try.ntmps38
  go_wp2_with fail
  obtain ⟨c0, z0, L0⟩ := box1 w (.slice none 0 0) 25
  have f0 : (w.alloc (.cells #[.slice none 0 0] 25)).frozen? ⟨w.heap.size, 0, none⟩ = false := World.frozen?_alloc_at _ _ _ _ rfl
  have S0 := hR.le L0
  generalize w.alloc (.cells #[.slice none 0 0] 25) = W at *
  have zW := z0
  refine (newReader_any A n cap bs W S0).mono ?_
  rintro e w1 ⟨g, A1, n1, k1, bs1, rfl, hg, R1, hle⟩
  replace c0 := (hle.cell z0).trans c0
  replace f0 := (hle.frozen z0).trans f0
  replace z0 := Nat.lt_of_lt_of_le z0 hle.size
  replace L0 := L0.trans hle
  clear S0
  have hgz : w.heap.size ≠ g := by omega
  go_wp2_with fail
  refine (someTree_any g 0 A1 n1 k1 bs1 w1 (by omega) R1).mono ?_
  rintro e w2 ⟨B, m, c, p2, xs, rfl, S2, hm, hoff, hab, hp2, R2, hg2⟩
  have s2 := hg2.size
  have hgl := R2.lt
  replace c0 := (hg2.cell z0 hgz).trans c0
  replace f0 := (hg2.frozen z0 hgz).trans f0
  have L2 := Gx.le L0 hg2 (by omega)
  clear hle L0
  go_wp2_with fail
  obtain ⟨ct, zt, LB⟩ := box1 w2 (.slice B m c) 25
  have zt2 := zt
  have s3 := LB.size
  replace c0 := (LB.cell (by omega)).trans c0
  replace f0 := (LB.frozen (by omega)).trans f0
  have S3 := (S2.le LB).le (Le.refl _).drew
  have R3 := (R2.le LB).le (Le.refl _).drew
  replace L2 := (L2.trans LB).drew
  generalize w2.alloc (.cells #[.slice B m c] 25) = W2 at *
  have ctd : W2.drew.cell? ⟨w2.heap.size, 0, none⟩ = some (.slice B m c) := ct
  have c0d : W2.drew.cell? ⟨w.heap.size, 0, none⟩ = some (.slice none 0 0) := c0
  have f0d : W2.drew.frozen? ⟨w.heap.size, 0, none⟩ = false := f0
  have hsd : W2.drew.heap.size = W2.heap.size := rfl
  have HSD := Lib.hid hsd; clear hsd
  have hgt : w2.heap.size ≠ g := by omega
  clear LB S2 R2
  go_region_held3 (fun w' => w'.cell? ⟨w2.heap.size, 0, none⟩ = some (.slice B m c))
    (first | exact ctd | exact ct4 | exact ct5 | exact (cell_set_other (.inl (by omega))).trans ct5)
    (first
    | (go_at_call 72; refine (someCatches_sl B m c g p2 A1 n1 k1 bs1 _ hm (by omega) R3).mono ?_; rintro e w4 ⟨D, q, d, L, p4, rfl, S6, hD, hq8, hp4, R4, hg4⟩; have s4 : W2.heap.size ≤ w4.heap.size := hg4.size; have ct4 := (hg4.cell (k := w2.heap.size) (o := 0) (by have := HSD.out; omega) hgt).trans ctd; have S4 := S3.gx hoff hg4; have c04 := (hg4.cell (k := w.heap.size) (o := 0) (by have := HSD.out; omega) hgz).trans c0d; have f04 := (hg4.frozen (k := w.heap.size) (o := 0) (by have := HSD.out; omega) hgz).trans f0d; have L4 := Gx.le L2 hg4 (by omega); have hDb : 0 < q → ∀ x, D = some x → W2.heap.size ≤ x.block := fun h x e => (by have := hD h x e; have := HSD.out; omega))
    | (go_at_call 62; refine (aClass_any B m c g p4 A1 n1 k1 bs1 _ hm (by omega) R4).mono ?_; rintro e w5 ⟨b, p5, rfl, hb0, hb1, hp5, R5, hg5⟩; have s5 := hg5.size; have ct5 := (hg5.cell (k := w2.heap.size) (o := 0) (by omega) hgt).trans ct4; have S5 := S4.gx hoff hg5; have S7 := S6.gx (fun h x e => by have := hDb h x e; omega) hg5; have c05 := (hg5.cell (k := w.heap.size) (o := 0) (by omega) hgz).trans c04; have f05 := (hg5.frozen (k := w.heap.size) (o := 0) (by omega) hgz).trans f04; have L5 := Gx.le L4 hg5 (by omega)))
  have hend : ∀ u, (w5.setCell ⟨w.heap.size, 0, none⟩ u).cell? ⟨w.heap.size, 0, none⟩ = some u := fun u => cell_set_same c05
  have hSx : ∀ u, Sl (w5.setCell ⟨w.heap.size, 0, none⟩ u) B m c xs := fun u => S5.gx (fun h a e => by have := hab h a e; omega) (Gx.set w.heap.size 0 w5 u)
  have hSy : ∀ u, Sl (w5.setCell ⟨w.heap.size, 0, none⟩ u) D q d L := fun u => S7.gx (fun h a e => by have := hDb h a e; omega) (Gx.set w.heap.size 0 w5 u)
  go_wp2
  exact bodyPost_ret (v := .tuple #[.agg #[.slice B m c], .slice D q d, .int .i64 b]) (by simp [results, Try.results38, go_sem, hend]) rfl ⟨B, D, m, c, q, d, xs, L, b, rfl, hSx _, hm, hSy _, hq8, ⟨hb0, hb1⟩, L5.setCell (Nat.le_refl _) _⟩
end Go.Proofs.Ytdookbcnodghnaa
