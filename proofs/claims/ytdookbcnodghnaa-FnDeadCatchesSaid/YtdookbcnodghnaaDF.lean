/- draws: a tree and a list of classes -/
import Derived.Test.YtdookbcnodghnaaDE
namespace Go.Proofs.Ytdookbcnodghnaa
open Go.RowKit

def DrawnTL (w : World) (e : Ending) (w' : World) : Prop := ∃ (B D : Option Addr) (m c k d : Nat) (xs : List Cls) (L : List Int), e = .returned (.tuple #[.agg #[.slice B m c], .slice D k d]) ∧ Sl w' B m c xs ∧ m ≤ 8 ∧ Sl w' D k d L ∧ (0 < m → ∀ x, B = some x → w.heap.size ≤ x.block) ∧ (0 < k → ∀ x, D = some x → w.heap.size ≤ x.block) ∧ k ≤ 8 ∧ Le w w'
def DrawnTLA (w : World) (e : Ending) (w' : World) : Prop := ∃ (B D : Option Addr) (m c k d : Nat) (xs : List Cls) (L : List Int) (a : Int), e = .returned (.tuple #[.agg #[.slice B m c], .slice D k d, .int .i64 a]) ∧ Sl w' B m c xs ∧ m ≤ 8 ∧ Sl w' D k d L ∧ k ≤ 8 ∧ (-1 ≤ a ∧ a ≤ 8) ∧ Le w w'
theorem smallInts_ok {L : List Int} (h : ∀ x ∈ L, -1 ≤ x ∧ x ≤ 8) : ∀ x ∈ L, Enc.ok x := fun x hx => by have := h x hx; exact ⟨by omega, by omega⟩

/-- someCatches as a list that reads -/
def ListDrawn (k g p : Nat) (A : Option Addr) (n cap : Nat) (bs : List By) (w : World) (e : Ending) (w' : World) : Prop :=
  ∃ (D : Option Addr) (q d : Nat) (L : List Int) (p' : Nat), e = .returned (.slice D q d) ∧ Sl w' D q d L ∧ (0 < q → ∀ x, D = some x → w.heap.size ≤ x.block) ∧ q ≤ 8 ∧ p' ≤ p + k ∧ Rd w' g p' A n cap bs ∧ Gx g w w'
theorem someCatches_sl (B : Option Addr) (m c : Nat) (g p : Nat) (A : Option Addr) (n cap : Nat) (bs : List By) (w : World) (hm : m ≤ 8) (hp : p ≤ 800000) (hR : Rd w g p A n cap bs) :
    Calls Try.prog 72 #[.pointer (some ⟨g, 0, none⟩), .agg #[.slice B m c]] w (ListDrawn 20 g p A n cap bs w) :=
  (someCatches_any B m c g p A n cap bs w hm hp hR).mono fun e w' ⟨v, L, p', he, ho, hb, hl, hp', hr, hg⟩ => by
    obtain ⟨D, d, rfl⟩ := own_form ho
    refine ⟨D, L.length, d, L, p', he, Sl.of_own ho rfl (by decide) (smallInts_ok hb), fun hq x hx => ?_, hl, hp', hr, hg⟩
    subst hx
    obtain ⟨b, off, e2, _⟩ := (Sl.of_own ho rfl (by decide) (smallInts_ok hb)).at_ hq
    injection e2 with e2
    subst e2
    exact (ho.lt b (by rcases ho.2 with ⟨h, _⟩ | ⟨g', c', _, h, _⟩; simp at h; simp only [Value.slice.injEq, Option.some.injEq] at h; have h2 := congrArg Addr.block h.1; simp only [] at h2; rw [h.1]; simp [Value.ownBlock]; exact h2.symm)).1

set_option maxRecDepth 100000 in
theorem treeCatches_any (g p : Nat) (A : Option Addr) (n cap : Nat) (bs : List By) (w : World) (hp : p ≤ 700000) (hR : Rd w g p A n cap bs) :
    Calls Try.prog 77 #[.pointer (some ⟨g, 0, none⟩)] w fun e w' => ∃ (B D : Option Addr) (m c k d : Nat) (xs : List Cls) (L : List Int), e = .returned (.tuple #[.agg #[.slice B m c], .slice D k d]) ∧ Sl w' B m c xs ∧ m ≤ 8 ∧ Sl w' D k d L ∧ (0 < m → ∀ x, B = some x → w.heap.size ≤ x.block) ∧ (0 < k → ∀ x, D = some x → w.heap.size ≤ x.block) ∧ k ≤ 8 ∧ Gx g w w' := by
  have hgw := hR.lt
  go_enter Try.func77, Try.ntmps77
  go_wp2_with fail
  obtain ⟨c0, z0, L0⟩ := box1 w (.slice none 0 0) 25
  have f0 : (w.alloc (.cells #[.slice none 0 0] 25)).frozen? ⟨w.heap.size, 0, none⟩ = false := World.frozen?_alloc_at _ _ _ _ rfl
  have R1 := hR.le L0
  generalize w.alloc (.cells #[.slice none 0 0] 25) = W at *
  have zW := z0
  have hgz : w.heap.size ≠ g := by omega
  refine (someTree_any g p A n cap bs W (by omega) R1).mono ?_
  rintro e w2 ⟨B, m, c, p2, xs, rfl, S2, hm, hoff, hab, hp2, R2, hg2⟩
  have s2 := hg2.size
  have hgl := R2.lt
  replace c0 := (hg2.cell z0 hgz).trans c0
  replace f0 := (hg2.frozen z0 hgz).trans f0
  have G2 := (Gx.of_le (g := g) L0).trans hg2
  clear L0 hg2
  go_wp2_with fail
  obtain ⟨ct, zt, LB⟩ := box1 w2 (.slice B m c) 25
  have zt2 := zt
  have s3 := LB.size
  replace c0 := (LB.cell (by omega)).trans c0
  replace f0 := (LB.frozen (by omega)).trans f0
  have S3 := (S2.le LB).le (Le.refl _).drew
  have R3 := (R2.le LB).le (Le.refl _).drew
  have G3 := (G2.trans (Gx.of_le LB)).trans (Gx.of_le (Le.refl _).drew)
  generalize w2.alloc (.cells #[.slice B m c] 25) = W2 at *
  have ctd : W2.drew.cell? ⟨w2.heap.size, 0, none⟩ = some (.slice B m c) := ct
  have c0d : W2.drew.cell? ⟨w.heap.size, 0, none⟩ = some (.slice none 0 0) := c0
  have f0d : W2.drew.frozen? ⟨w.heap.size, 0, none⟩ = false := f0
  have hsd : W2.drew.heap.size = W2.heap.size := rfl
  have HSD := Lib.hid hsd; clear hsd
  have hgt : w2.heap.size ≠ g := by omega
  clear LB S2 R2 G2
  go_region_held3 (fun w' => w'.cell? ⟨w2.heap.size, 0, none⟩ = some (.slice B m c))
    (first | exact ctd | exact ct4 | exact (cell_set_other (.inl (by omega))).trans ct4)
    (first
    | (go_at_call 72; refine (someCatches_sl B m c g p2 A n cap bs _ hm (by omega) R3).mono ?_; rintro e w4 ⟨D, q, d, L, p4, rfl, S5, hD, hq8, hp4, R4, hg4⟩; have s4 : W2.heap.size ≤ w4.heap.size := hg4.size; have ct4 := (hg4.cell (k := w2.heap.size) (o := 0) (by have := HSD.out; omega) hgt).trans ctd; have S4 := S3.gx hoff hg4; have c04 := (hg4.cell (k := w.heap.size) (o := 0) (by have := HSD.out; omega) hgz).trans c0d; have f04 := (hg4.frozen (k := w.heap.size) (o := 0) (by have := HSD.out; omega) hgz).trans f0d; have G4 := G3.trans hg4))
  have hend : ∀ u, (w4.setCell ⟨w.heap.size, 0, none⟩ u).cell? ⟨w.heap.size, 0, none⟩ = some u := fun u => cell_set_same c04
  have hSx : ∀ u, Sl (w4.setCell ⟨w.heap.size, 0, none⟩ u) B m c xs := fun u => S4.gx (fun h a e => by have := hab h a e; omega) (Gx.set w.heap.size 0 w4 u)
  have hDb : 0 < q → ∀ x, D = some x → W2.heap.size ≤ x.block := fun h x e => by have := hD h x e; have := HSD.out; omega
  have hSy : ∀ u, Sl (w4.setCell ⟨w.heap.size, 0, none⟩ u) D q d L := fun u => S5.gx (fun h a e => by have := hDb h a e; omega) (Gx.set w.heap.size 0 w4 u)
  go_wp2
  exact bodyPost_ret (v := .tuple #[.agg #[.slice B m c], .slice D q d]) (by simp [results, Try.results77, go_sem, hend]) rfl ⟨B, D, m, c, q, d, xs, L, rfl, hSx _, hm, hSy _, fun h x e => by have := hab h x e; omega, fun h x e => by have := hDb h x e; omega, hq8, G4.setNew (Nat.le_refl _) _⟩

theorem drawDeadCatches_any (A : Option Addr) (n cap : Nat) (bs : List By) (w : World) (hR : Sl w A n cap bs) : Calls Try.prog 42 #[.slice A n cap] w (DrawnTL w) := by
  go_enter Try.func42, Try.ntmps42
  go_wp2_with fail
  obtain ⟨c0, z0, L0⟩ := box1 w (.slice none 0 0) 25
  have S0 := hR.le L0
  have zW := z0
  have f0 : (w.alloc (.cells #[.slice none 0 0] 25)).frozen? ⟨w.heap.size, 0, none⟩ = false := World.frozen?_alloc_at _ _ _ _ rfl
  generalize w.alloc (.cells #[.slice none 0 0] 25) = W at *
  refine (newReader_any A n cap bs W S0).mono ?_
  rintro e w1 ⟨g, A1, n1, k1, bs1, rfl, hg, R1, hle⟩
  replace c0 := (hle.cell z0).trans c0
  replace f0 := (hle.frozen z0).trans f0
  replace z0 := Nat.lt_of_lt_of_le z0 hle.size
  replace L0 := L0.trans hle
  have hs1 := hle.size
  clear S0 hle
  have hgz : w.heap.size ≠ g := by omega
  go_wp2_with fail
  refine (treeCatches_any g 0 A1 n1 k1 bs1 w1 (by omega) R1).mono ?_
  rintro e w2 ⟨B, D, m, c, q, d, xs, L, rfl, S1, hm, S2, hab, hD, hq8, hg2⟩
  have c2 := (hg2.cell z0 hgz).trans c0
  have f2 := (hg2.frozen z0 hgz).trans f0
  have L2 := Gx.le L0 hg2 (by omega)
  have hend : ∀ u, (w2.setCell ⟨w.heap.size, 0, none⟩ u).cell? ⟨w.heap.size, 0, none⟩ = some u := fun u => cell_set_same c2
  have hSx : ∀ u, Sl (w2.setCell ⟨w.heap.size, 0, none⟩ u) B m c xs := fun u => S1.gx (fun h a e => by have := hab h a e; omega) (Gx.set w.heap.size 0 w2 u)
  have hSy : ∀ u, Sl (w2.setCell ⟨w.heap.size, 0, none⟩ u) D q d L := fun u => S2.gx (fun h a e => by have := hD h a e; omega) (Gx.set w.heap.size 0 w2 u)
  clear c0 f0
  go_wp2
  exact bodyPost_ret (v := .tuple #[.agg #[.slice B m c], .slice D q d]) (by simp [results, Try.results42, go_sem, hend]) rfl ⟨B, D, m, c, q, d, xs, L, rfl, hSx _, hm, hSy _, fun h x e => by have := hab h x e; omega, fun h x e => by have := hD h x e; omega, hq8, L2.setCell (Nat.le_refl _) _⟩

theorem drawCaughtBy_any (A : Option Addr) (n cap : Nat) (bs : List By) (w : World) (hR : Sl w A n cap bs) : Calls Try.prog 45 #[.slice A n cap] w (DrawnTL w) := by
  go_enter Try.func45, Try.ntmps45
  go_wp2_with fail
  obtain ⟨c0, z0, L0⟩ := box1 w (.slice none 0 0) 25
  have S0 := hR.le L0
  have zW := z0
  have f0 : (w.alloc (.cells #[.slice none 0 0] 25)).frozen? ⟨w.heap.size, 0, none⟩ = false := World.frozen?_alloc_at _ _ _ _ rfl
  generalize w.alloc (.cells #[.slice none 0 0] 25) = W at *
  refine (newReader_any A n cap bs W S0).mono ?_
  rintro e w1 ⟨g, A1, n1, k1, bs1, rfl, hg, R1, hle⟩
  replace c0 := (hle.cell z0).trans c0
  replace f0 := (hle.frozen z0).trans f0
  replace z0 := Nat.lt_of_lt_of_le z0 hle.size
  replace L0 := L0.trans hle
  have hs1 := hle.size
  clear S0 hle
  have hgz : w.heap.size ≠ g := by omega
  go_wp2_with fail
  refine (treeCatches_any g 0 A1 n1 k1 bs1 w1 (by omega) R1).mono ?_
  rintro e w2 ⟨B, D, m, c, q, d, xs, L, rfl, S1, hm, S2, hab, hD, hq8, hg2⟩
  have c2 := (hg2.cell z0 hgz).trans c0
  have f2 := (hg2.frozen z0 hgz).trans f0
  have L2 := Gx.le L0 hg2 (by omega)
  have hend : ∀ u, (w2.setCell ⟨w.heap.size, 0, none⟩ u).cell? ⟨w.heap.size, 0, none⟩ = some u := fun u => cell_set_same c2
  have hSx : ∀ u, Sl (w2.setCell ⟨w.heap.size, 0, none⟩ u) B m c xs := fun u => S1.gx (fun h a e => by have := hab h a e; omega) (Gx.set w.heap.size 0 w2 u)
  have hSy : ∀ u, Sl (w2.setCell ⟨w.heap.size, 0, none⟩ u) D q d L := fun u => S2.gx (fun h a e => by have := hD h a e; omega) (Gx.set w.heap.size 0 w2 u)
  clear c0 f0
  go_wp2
  exact bodyPost_ret (v := .tuple #[.agg #[.slice B m c], .slice D q d]) (by simp [results, Try.results45, go_sem, hend]) rfl ⟨B, D, m, c, q, d, xs, L, rfl, hSx _, hm, hSy _, fun h x e => by have := hab h x e; omega, fun h x e => by have := hD h x e; omega, hq8, L2.setCell (Nat.le_refl _) _⟩

theorem drawLeastCatches_any (A : Option Addr) (n cap : Nat) (bs : List By) (w : World) (hR : Sl w A n cap bs) : Calls Try.prog 47 #[.slice A n cap] w (DrawnTL w) := by
  go_enter Try.func47, Try.ntmps47
  go_wp2_with fail
  obtain ⟨c0, z0, L0⟩ := box1 w (.slice none 0 0) 25
  have S0 := hR.le L0
  have zW := z0
  have f0 : (w.alloc (.cells #[.slice none 0 0] 25)).frozen? ⟨w.heap.size, 0, none⟩ = false := World.frozen?_alloc_at _ _ _ _ rfl
  generalize w.alloc (.cells #[.slice none 0 0] 25) = W at *
  refine (newReader_any A n cap bs W S0).mono ?_
  rintro e w1 ⟨g, A1, n1, k1, bs1, rfl, hg, R1, hle⟩
  replace c0 := (hle.cell z0).trans c0
  replace f0 := (hle.frozen z0).trans f0
  replace z0 := Nat.lt_of_lt_of_le z0 hle.size
  replace L0 := L0.trans hle
  have hs1 := hle.size
  clear S0 hle
  have hgz : w.heap.size ≠ g := by omega
  go_wp2_with fail
  refine (treeCatches_any g 0 A1 n1 k1 bs1 w1 (by omega) R1).mono ?_
  rintro e w2 ⟨B, D, m, c, q, d, xs, L, rfl, S1, hm, S2, hab, hD, hq8, hg2⟩
  have c2 := (hg2.cell z0 hgz).trans c0
  have f2 := (hg2.frozen z0 hgz).trans f0
  have L2 := Gx.le L0 hg2 (by omega)
  have hend : ∀ u, (w2.setCell ⟨w.heap.size, 0, none⟩ u).cell? ⟨w.heap.size, 0, none⟩ = some u := fun u => cell_set_same c2
  have hSx : ∀ u, Sl (w2.setCell ⟨w.heap.size, 0, none⟩ u) B m c xs := fun u => S1.gx (fun h a e => by have := hab h a e; omega) (Gx.set w.heap.size 0 w2 u)
  have hSy : ∀ u, Sl (w2.setCell ⟨w.heap.size, 0, none⟩ u) D q d L := fun u => S2.gx (fun h a e => by have := hD h a e; omega) (Gx.set w.heap.size 0 w2 u)
  clear c0 f0
  go_wp2
  exact bodyPost_ret (v := .tuple #[.agg #[.slice B m c], .slice D q d]) (by simp [results, Try.results47, go_sem, hend]) rfl ⟨B, D, m, c, q, d, xs, L, rfl, hSx _, hm, hSy _, fun h x e => by have := hab h x e; omega, fun h x e => by have := hD h x e; omega, hq8, L2.setCell (Nat.le_refl _) _⟩
end Go.Proofs.Ytdookbcnodghnaa
