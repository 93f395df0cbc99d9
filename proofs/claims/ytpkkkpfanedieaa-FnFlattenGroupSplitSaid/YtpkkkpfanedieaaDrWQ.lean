/- draws of groups: a group and a class -/
import Derived.Test.YtpkkkpfanedieaaCk11
namespace Go.Proofs.Ytpkkkpfanedieaa
open Go.RowKit
def DrawnGA (w : World) (e : Ending) (w' : World) : Prop := ∃ (B D : Option Addr) (m c q d : Nat) (xs : List Cls) (L : List Prt) (a : Int), e = .returned (.tuple #[.agg #[.slice B m c], .slice D q d, .int .i64 a]) ∧ Sl w' B m c xs ∧ m ≤ 8 ∧ Sl w' D q d L ∧ q ≤ 40 ∧ (∀ x ∈ L, PtW x) ∧ -1 ≤ a ∧ a ≤ 8 ∧ Le w w'
set_option maxRecDepth 100000 in
theorem groupClass_any (g p : Nat) (A : Option Addr) (n cap : Nat) (bs : List By) (w : World) (hp : p ≤ 100) (hR : Rd w g p A n cap bs) :
    Calls Try.prog 33 #[.pointer (some ⟨g, 0, none⟩)] w fun e w' => ∃ (B D : Option Addr) (m c k d : Nat) (xs : List Cls) (L : List Prt) (a : Int), e = .returned (.tuple #[.agg #[.slice B m c], .slice D k d, .int .i64 a]) ∧ Sl w' B m c xs ∧ m ≤ 8 ∧ Sl w' D k d L ∧ k ≤ 40 ∧ (∀ x ∈ L, PtW x) ∧ (0 < m → ∀ x, B = some x → w.heap.size < x.block) ∧ (0 < k → ∀ x, D = some x → w.heap.size < x.block) ∧ -1 ≤ a ∧ a ≤ 8 ∧ Gx g w w' := by
  have hgw := hR.lt
  go_enter Try.func33, Try.ntmps33
  go_wp2_with fail
  obtain ⟨c0, z0, L0⟩ := box1 w (.slice none 0 0) 25
  have f0 : (w.alloc (.cells #[.slice none 0 0] 25)).frozen? ⟨w.heap.size, 0, none⟩ = false := World.frozen?_alloc_at _ _ _ _ rfl
  have R1 := hR.le L0
  generalize w.alloc (.cells #[.slice none 0 0] 25) = W at *
  have zW := z0
  have hgz : w.heap.size ≠ g := by omega
  refine (someGroup_any g p A n cap bs W (by omega) R1).mono ?_
  rintro e w2 ⟨B, D, m, c, q, d, xs, L, p2, rfl, S2, hm, T2, hq, hL, hab, hD, hp2, R2, hg2⟩
  have s2 := hg2.size
  have hgl := R2.lt
  replace c0 := (hg2.cell z0 hgz).trans c0
  replace f0 := (hg2.frozen z0 hgz).trans f0
  have G2 := (Gx.of_le (g := g) L0).trans hg2
  clear L0 hg2
  go_wp2_with fail
  obtain ⟨ct, zt, LB⟩ := box1 w2 (.slice B m c) 25
  have zt2 := zt
  have s3 := LB.size
  replace c0 := (LB.cell (by omega)).trans c0
  replace f0 := (LB.frozen (by omega)).trans f0
  have S3 := (S2.le LB).le (Le.refl _).drew
  have T3 := (T2.le LB).le (Le.refl _).drew
  have R3 := (R2.le LB).le (Le.refl _).drew
  have G3 := (G2.trans (Gx.of_le LB)).trans (Gx.of_le (Le.refl _).drew)
  generalize w2.alloc (.cells #[.slice B m c] 25) = W2 at *
  have ctd : W2.drew.cell? ⟨w2.heap.size, 0, none⟩ = some (.slice B m c) := ct
  have c0d : W2.drew.cell? ⟨w.heap.size, 0, none⟩ = some (.slice none 0 0) := c0
  have f0d : W2.drew.frozen? ⟨w.heap.size, 0, none⟩ = false := f0
  have hsd : W2.drew.heap.size = W2.heap.size := rfl
  have HSD := Lib.hid hsd; clear hsd
  have hgt : w2.heap.size ≠ g := by omega
  have hof : ∀ {x : Nat}, x ≤ w.heap.size → (0 < m → Off x B) ∧ (0 < q → Off x D) := fun hx => ⟨fun h a e => by have := hab h a e; omega, fun h a e => by have := hD h a e; omega⟩
  clear LB S2 T2 R2 G2
  go_region_held3 (fun w' => w'.cell? ⟨w2.heap.size, 0, none⟩ = some (.slice B m c))
    (first | exact ctd | exact ct4 | exact (cell_set_other (.inl (by omega))).trans ct4)
    (first
    | (go_at_call 61; refine (aClass_any B m c g p2 A n cap bs _ hm (by omega) R3).mono ?_; rintro e w4 ⟨a, p4, rfl, ha0, ha1, hp4, R4, hg4⟩; have s4 : W2.heap.size ≤ w4.heap.size := hg4.size; have ct4 := (hg4.cell (k := w2.heap.size) (o := 0) (by have := HSD.out; omega) hgt).trans ctd; have S4 := S3.gx (hof (by omega)).1 hg4; have T4 := T3.gx (hof (by omega)).2 hg4; have c04 := (hg4.cell (k := w.heap.size) (o := 0) (by have := HSD.out; omega) hgz).trans c0d; have f04 := (hg4.frozen (k := w.heap.size) (o := 0) (by have := HSD.out; omega) hgz).trans f0d; have G4 := G3.trans hg4))
  all_goals
    have hend : ∀ u, (w4.setCell ⟨w.heap.size, 0, none⟩ u).cell? ⟨w.heap.size, 0, none⟩ = some u := fun u => cell_set_same c04
    have hSx : ∀ u, Sl (w4.setCell ⟨w.heap.size, 0, none⟩ u) B m c xs := fun u => S4.gx (hof (Nat.le_refl _)).1 (Gx.set w.heap.size 0 w4 u)
    have hSy : ∀ u, Sl (w4.setCell ⟨w.heap.size, 0, none⟩ u) D q d L := fun u => T4.gx (hof (Nat.le_refl _)).2 (Gx.set w.heap.size 0 w4 u)
    go_wp2
    exact bodyPost_ret (v := .tuple #[.agg #[.slice B m c], .slice D q d, .int .i64 a]) (by simp [results, Try.results33, go_sem, hend]) rfl ⟨B, D, m, c, q, d, xs, L, a, rfl, hSx _, hm, hSy _, hq, hL, fun h x e => by have := hab h x e; omega, fun h x e => by have := hD h x e; omega, ha0, ha1, G4.setNew (Nat.le_refl _) _⟩
set_option maxRecDepth 100000 in
theorem drawSplitGroup_any (A : Option Addr) (n cap : Nat) (bs : List By) (w : World) (hR : Sl w A n cap bs) : Calls Try.prog 10 #[.slice A n cap] w (DrawnGA w) := by
  go_enter Try.func10, Try.ntmps10
  go_wp2_with fail
  obtain ⟨c0, z0, L0⟩ := box1 w (.slice none 0 0) 25
  have S0 := hR.le L0
  have zW := z0
  have f0 : (w.alloc (.cells #[.slice none 0 0] 25)).frozen? ⟨w.heap.size, 0, none⟩ = false := World.frozen?_alloc_at _ _ _ _ rfl
  generalize w.alloc (.cells #[.slice none 0 0] 25) = W at *
  refine (newReader_any A n cap bs W S0).mono ?_
  rintro e w1 ⟨g, A1, n1, k1, bs1, rfl, hg, R1, hle⟩
  replace c0 := (hle.cell z0).trans c0
  replace f0 := (hle.frozen z0).trans f0
  replace z0 := Nat.lt_of_lt_of_le z0 hle.size
  replace L0 := L0.trans hle
  have hs1 := hle.size
  clear S0 hle
  have hgz : w.heap.size ≠ g := by omega
  go_wp2_with fail
  refine (groupClass_any g 0 A1 n1 k1 bs1 w1 (by omega) R1).mono ?_
  rintro e w2 ⟨B, D, m, c, q, d, xs, L, a, rfl, S1, hm, S2, hq, hL, hab, hD, ha0, ha1, hg2⟩
  have c2 := (hg2.cell z0 hgz).trans c0
  have f2 := (hg2.frozen z0 hgz).trans f0
  have L2 := Gx.le L0 hg2 (by omega)
  have hend : ∀ u, (w2.setCell ⟨w.heap.size, 0, none⟩ u).cell? ⟨w.heap.size, 0, none⟩ = some u := fun u => cell_set_same c2
  have hSx : ∀ u, Sl (w2.setCell ⟨w.heap.size, 0, none⟩ u) B m c xs := fun u => S1.gx (fun h a e => by have := hab h a e; omega) (Gx.set w.heap.size 0 w2 u)
  have hSy : ∀ u, Sl (w2.setCell ⟨w.heap.size, 0, none⟩ u) D q d L := fun u => S2.gx (fun h a e => by have := hD h a e; omega) (Gx.set w.heap.size 0 w2 u)
  clear c0 f0
  go_wp2
  exact bodyPost_ret (v := .tuple #[.agg #[.slice B m c], .slice D q d, .int .i64 a]) (by simp [results, Try.results10, go_sem, hend]) rfl ⟨B, D, m, c, q, d, xs, L, a, rfl, hSx _, hm, hSy _, hq, hL, ha0, ha1, L2.setCell (Nat.le_refl _) _⟩
end Go.Proofs.Ytpkkkpfanedieaa
