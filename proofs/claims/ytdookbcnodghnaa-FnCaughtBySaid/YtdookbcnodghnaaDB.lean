/- draws: a tree and a class -/
import Derived.Test.YtdookbcnodghnaaDA
namespace Go.Proofs.Ytdookbcnodghnaa
open Go.RowKit

/-- a tree and a class, drawn anew -/
def DrawnTA (w : World) (e : Ending) (w' : World) : Prop := ∃ (B : Option Addr) (m c : Nat) (xs : List Cls) (a : Int), e = .returned (.tuple #[.agg #[.slice B m c], .int .i64 a]) ∧ Sl w' B m c xs ∧ m ≤ 8 ∧ (0 < m → ∀ x, B = some x → w.heap.size ≤ x.block) ∧ (-1 ≤ a ∧ a ≤ 8) ∧ Le w w'
set_option maxRecDepth 100000 in
theorem drawAboveOf_any (A : Option Addr) (n cap : Nat) (bs : List By) (w : World) (hR : Sl w A n cap bs) : Calls Try.prog 25 #[.slice A n cap] w (DrawnTA w) := by
  go_enter Try.func25, Try.ntmps25
  go_wp2_with fail
  obtain ⟨c0, z0, L0⟩ := box1 w (.slice none 0 0) 25
  have f0 : (w.alloc (.cells #[.slice none 0 0] 25)).frozen? ⟨w.heap.size, 0, none⟩ = false := World.frozen?_alloc_at _ _ _ _ rfl
  have S0 := hR.le L0
  generalize w.alloc (.cells #[.slice none 0 0] 25) = W at *
  have zW := z0
  refine (newReader_any A n cap bs W S0).mono ?_
  rintro e w1 ⟨g, A1, n1, k1, bs1, rfl, hg, R1, hle⟩
  replace c0 := (hle.cell z0).trans c0
  replace f0 := (hle.frozen z0).trans f0
  replace z0 := Nat.lt_of_lt_of_le z0 hle.size
  replace L0 := L0.trans hle
  clear S0
  have hgz : w.heap.size ≠ g := by omega
  go_wp2_with fail
  refine (someTree_any g 0 A1 n1 k1 bs1 w1 (by omega) R1).mono ?_
  rintro e w2 ⟨B, m, c, p2, xs, rfl, S2, hm, hoff, hab, hp2, R2, hg2⟩
  have s2 := hg2.size
  have hgl := R2.lt
  replace c0 := (hg2.cell z0 hgz).trans c0
  replace f0 := (hg2.frozen z0 hgz).trans f0
  have L2 := Gx.le L0 hg2 (by omega)
  clear hle L0
  go_wp2_with fail
  obtain ⟨ct, zt, LB⟩ := box1 w2 (.slice B m c) 25
  have zt2 := zt
  have s3 := LB.size
  replace c0 := (LB.cell (by omega)).trans c0
  replace f0 := (LB.frozen (by omega)).trans f0
  have S3 := (S2.le LB).le (Le.refl _).drew
  have R3 := (R2.le LB).le (Le.refl _).drew
  replace L2 := (L2.trans LB).drew
  generalize w2.alloc (.cells #[.slice B m c] 25) = W2 at *
  have ctd : W2.drew.cell? ⟨w2.heap.size, 0, none⟩ = some (.slice B m c) := ct
  have c0d : W2.drew.cell? ⟨w.heap.size, 0, none⟩ = some (.slice none 0 0) := c0
  have f0d : W2.drew.frozen? ⟨w.heap.size, 0, none⟩ = false := f0
  have hsd : W2.drew.heap.size = W2.heap.size := rfl
  have HSD := Lib.hid hsd; clear hsd
  have hgt : w2.heap.size ≠ g := by omega
  clear LB S2 R2
  go_region_held3 (fun w' => w'.cell? ⟨w2.heap.size, 0, none⟩ = some (.slice B m c))
    (first | exact ctd | exact ct4 | exact (cell_set_other (.inl (by omega))).trans ct4)
    (first
    | (go_at_call 62; refine (aClass_any B m c g p2 A1 n1 k1 bs1 _ hm (by omega) R3).mono ?_; rintro e w4 ⟨a, p4, rfl, ha0, ha1, hp4, R4, hg4⟩; have s4 : W2.heap.size ≤ w4.heap.size := hg4.size; have ct4 := (hg4.cell (k := w2.heap.size) (o := 0) (by have := HSD.out; omega) hgt).trans ctd; have S4 := S3.gx hoff hg4; have c04 := (hg4.cell (k := w.heap.size) (o := 0) (by have := HSD.out; omega) hgz).trans c0d; have f04 := (hg4.frozen (k := w.heap.size) (o := 0) (by have := HSD.out; omega) hgz).trans f0d; have L4 := Gx.le L2 hg4 (by omega)))
  have hend : ∀ u, (w4.setCell ⟨w.heap.size, 0, none⟩ u).cell? ⟨w.heap.size, 0, none⟩ = some u := fun u => cell_set_same c04
  have hSx : ∀ u, Sl (w4.setCell ⟨w.heap.size, 0, none⟩ u) B m c xs := fun u => S4.gx (fun h a e => by have := hab h a e; omega) (Gx.set w.heap.size 0 w4 u)
  go_wp2
  exact bodyPost_ret (v := .tuple #[.agg #[.slice B m c], .int .i64 a]) (by simp [results, Try.results25, go_sem, hend]) rfl ⟨B, m, c, xs, a, rfl, hSx _, hm, fun h x e => by have := hab h x e; omega, ⟨ha0, ha1⟩, L4.setCell (Nat.le_refl _) _⟩

theorem drawBelowOf_any (A : Option Addr) (n cap : Nat) (bs : List By) (w : World) (hR : Sl w A n cap bs) : Calls Try.prog 28 #[.slice A n cap] w (DrawnTA w) := by
  go_enter Try.func28, Try.ntmps28
  go_wp2_with fail
  obtain ⟨c0, z0, L0⟩ := box1 w (.slice none 0 0) 25
  have S0 := hR.le L0
  have zW := z0
  have f0 : (w.alloc (.cells #[.slice none 0 0] 25)).frozen? ⟨w.heap.size, 0, none⟩ = false := World.frozen?_alloc_at _ _ _ _ rfl
  generalize w.alloc (.cells #[.slice none 0 0] 25) = W at *
  refine (drawAboveOf_any A n cap bs W S0).mono ?_
  rintro e w1 ⟨B, m, c, xs, a, rfl, S1, hm, hab, ha, hle⟩
  replace c0 := (hle.cell z0).trans c0
  replace f0 := (hle.frozen z0).trans f0
  replace z0 := Nat.lt_of_lt_of_le z0 hle.size
  replace L0 := L0.trans hle
  clear hle
  have hend : ∀ u, (w1.setCell ⟨w.heap.size, 0, none⟩ u).cell? ⟨w.heap.size, 0, none⟩ = some u := fun u => cell_set_same c0
  have hSx : ∀ u, Sl (w1.setCell ⟨w.heap.size, 0, none⟩ u) B m c xs := fun u => S1.gx (fun h a e => by have := hab h a e; omega) (Gx.set w.heap.size 0 w1 u)
  go_wp2
  exact bodyPost_ret (v := .tuple #[.agg #[.slice B m c], .int .i64 a]) (by simp [results, Try.results28, go_sem, hend]) rfl ⟨B, m, c, xs, a, rfl, hSx _, hm, fun h x e => by have := hab h x e; omega, ha, L0.setCell (Nat.le_refl _) _⟩
theorem drawCommonClass_any (A : Option Addr) (n cap : Nat) (bs : List By) (w : World) (hR : Sl w A n cap bs) : Calls Try.prog 31 #[.slice A n cap] w (DrawnTAB w) := by
  go_enter Try.func31, Try.ntmps31
  go_wp2_with fail
  obtain ⟨c0, z0, L0⟩ := box1 w (.slice none 0 0) 25
  have S0 := hR.le L0
  have zW := z0
  have f0 : (w.alloc (.cells #[.slice none 0 0] 25)).frozen? ⟨w.heap.size, 0, none⟩ = false := World.frozen?_alloc_at _ _ _ _ rfl
  generalize w.alloc (.cells #[.slice none 0 0] 25) = W at *
  refine (drawIsA_any A n cap bs W S0).mono ?_
  rintro e w1 ⟨B, m, c, xs, a, b, rfl, S1, hm, hab, ha, hb, hle⟩
  replace c0 := (hle.cell z0).trans c0
  replace f0 := (hle.frozen z0).trans f0
  replace z0 := Nat.lt_of_lt_of_le z0 hle.size
  replace L0 := L0.trans hle
  clear hle
  have hend : ∀ u, (w1.setCell ⟨w.heap.size, 0, none⟩ u).cell? ⟨w.heap.size, 0, none⟩ = some u := fun u => cell_set_same c0
  have hSx : ∀ u, Sl (w1.setCell ⟨w.heap.size, 0, none⟩ u) B m c xs := fun u => S1.gx (fun h a e => by have := hab h a e; omega) (Gx.set w.heap.size 0 w1 u)
  go_wp2
  exact bodyPost_ret (v := .tuple #[.agg #[.slice B m c], .int .i64 a, .int .i64 b]) (by simp [results, Try.results31, go_sem, hend]) rfl ⟨B, m, c, xs, a, b, rfl, hSx _, hm, fun h x e => by have := hab h x e; omega, ha, hb, L0.setCell (Nat.le_refl _) _⟩
end Go.Proofs.Ytdookbcnodghnaa
