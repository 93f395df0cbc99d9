/- draws: a tree, a name and a class -/
import Derived.Test.YtembnjanopajgaaDA
namespace Go.Proofs.Ytembnjanopajgaa
open Go.RowKit

def five5 : List ByteArray := [⟨#[110, 101, 119]⟩, ⟨#[105, 111]⟩, ⟨#[]⟩, ⟨#[88]⟩, ⟨#[110, 101, 119]⟩]
theorem five_ok : ∀ x ∈ five5, Enc.ok x := by
  intro x hx
  simp [five5] at hx
  rcases hx with rfl | rfl | rfl | rfl | rfl <;> (show _ ≤ _; decide)
theorem five_few : ∀ x ∈ five5, x.size ≤ 8 := by
  intro x hx
  simp [five5] at hx
  rcases hx with rfl | rfl | rfl | rfl | rfl <;> decide
/-- a tree, a name and a class, drawn anew -/
def DrawnTSA (w : World) (e : Ending) (w' : World) : Prop := ∃ (B : Option Addr) (m c : Nat) (xs : List Cls) (s : ByteArray) (b : Int), e = .returned (.tuple #[.agg #[.slice B m c], .string s, .int .i64 b]) ∧ Sl w' B m c xs ∧ m ≤ 8 ∧ (0 < m → ∀ x, B = some x → w.heap.size ≤ x.block) ∧ s.size ≤ 8 ∧ (-1 ≤ b ∧ b ≤ 8) ∧ Le w w'
set_option maxRecDepth 100000 in
theorem drawAddClass_any (A : Option Addr) (n cap : Nat) (bs : List By) (w : World) (hR : Sl w A n cap bs) : Calls Try.prog 9 #[.slice A n cap] w (DrawnTSA w) := by
  go_enter Try.func9, Try.ntmps9
  go_wp2_with fail
  obtain ⟨c0, z0, L0⟩ := box1 w (.slice none 0 0) 25
  have f0 : (w.alloc (.cells #[.slice none 0 0] 25)).frozen? ⟨w.heap.size, 0, none⟩ = false := World.frozen?_alloc_at _ _ _ _ rfl
  have S0 := hR.le L0
  generalize w.alloc (.cells #[.slice none 0 0] 25) = W at *
  have zW := z0
  refine (newReader_any A n cap bs W S0).mono ?_
  rintro e w1 ⟨g, A1, n1, k1, bs1, rfl, hg, R1, hle⟩
  replace c0 := (hle.cell z0).trans c0
  replace f0 := (hle.frozen z0).trans f0
  replace z0 := Nat.lt_of_lt_of_le z0 hle.size
  replace L0 := L0.trans hle
  clear S0
  have hgz : w.heap.size ≠ g := by omega
  go_wp2_with fail
  refine (someTree_any g 0 A1 n1 k1 bs1 w1 (by omega) R1).mono ?_
  rintro e w2 ⟨B, m, c, p2, xs, rfl, S2, hm, hoff, hab, hp2, R2, hg2⟩
  have s2 := hg2.size
  have hgl := R2.lt
  replace c0 := (hg2.cell z0 hgz).trans c0
  replace f0 := (hg2.frozen z0 hgz).trans f0
  have L2 := Gx.le L0 hg2 (by omega)
  clear hle L0
  go_wp2_with fail
  obtain ⟨ct, zt, LB⟩ := box1 w2 (.slice B m c) 25
  have zt2 := zt
  have s3 := LB.size
  replace c0 := (LB.cell (by omega)).trans c0
  replace f0 := (LB.frozen (by omega)).trans f0
  have S3 := (S2.le LB).le (Le.refl _).drew
  have R3 := (R2.le LB).le (Le.refl _).drew
  replace L2 := (L2.trans LB).drew
  generalize w2.alloc (.cells #[.slice B m c] 25) = W2 at *
  have ctd : W2.drew.cell? ⟨w2.heap.size, 0, none⟩ = some (.slice B m c) := ct
  have c0d : W2.drew.cell? ⟨w.heap.size, 0, none⟩ = some (.slice none 0 0) := c0
  have f0d : W2.drew.frozen? ⟨w.heap.size, 0, none⟩ = false := f0
  have hsd : W2.drew.heap.size = W2.heap.size := rfl
  have HSD := Lib.hid hsd; clear hsd
  have hgt : w2.heap.size ≠ g := by omega
  clear LB S2 R2
  go_region_held3 (fun w' => w'.cell? ⟨w2.heap.size, 0, none⟩ = some (.slice B m c))
    (first | exact ctd | exact ((Le.new W2.drew _).cell (by have := HSD.out; omega)).trans ctd | exact ct4 | exact ct5 | exact (cell_set_other (.inl (by omega))).trans ct5)
    (first
    | (go_at_call 36; refine (of_any _ 5 5 five5 g p2 A1 n1 k1 bs1 _ (by omega) (by omega) (by omega) (Sl.of_row (hp_new _ _ rfl) (by rfl) rfl (by omega) five_ok) (fun _ a e => by injection e with e; rw [← e]; show W2.drew.heap.size ≠ g; have := HSD.out; omega) (R3.le (Le.new _ _))).mono ?_; rintro e w4 ⟨s, rfl, hs, R4, hg4⟩; have hsf := five_few s hs; have LN := Le.new W2.drew (.cells #[.string ⟨#[110, 101, 119]⟩, .string ⟨#[105, 111]⟩, .string ⟨#[]⟩, .string ⟨#[88]⟩, .string ⟨#[110, 101, 119]⟩] 9); have sn := LN.size; have s4 : W2.heap.size ≤ w4.heap.size := Nat.le_trans (by have := HSD.out; omega) hg4.size; have ct4 := ((hg4.cell (k := w2.heap.size) (o := 0) (by have := HSD.out; omega) hgt).trans (LN.cell (b := w2.heap.size) (o := 0) (by have := HSD.out; omega))).trans ctd; have S4 := (S3.le LN).gx hoff hg4; have c04 := ((hg4.cell (k := w.heap.size) (o := 0) (by have := HSD.out; omega) hgz).trans (LN.cell (b := w.heap.size) (o := 0) (by have := HSD.out; omega))).trans c0d; have f04 := ((hg4.frozen (k := w.heap.size) (o := 0) (by have := HSD.out; omega) hgz).trans (LN.frozen (b := w.heap.size) (o := 0) (by have := HSD.out; omega))).trans f0d; have L4 := Gx.le (L2.trans LN) hg4 (by omega))
    | (go_at_call 37; refine (aClass_any B m c g (p2 + 1) A1 n1 k1 bs1 _ hm (by omega) R4).mono ?_; rintro e w5 ⟨b, p5, rfl, hb0, hb1, hp5, R5, hg5⟩; have s5 := hg5.size; have ct5 := (hg5.cell (k := w2.heap.size) (o := 0) (by omega) hgt).trans ct4; have S5 := S4.gx hoff hg5; have c05 := (hg5.cell (k := w.heap.size) (o := 0) (by omega) hgz).trans c04; have f05 := (hg5.frozen (k := w.heap.size) (o := 0) (by omega) hgz).trans f04; have L5 := Gx.le L4 hg5 (by omega)))
  have hend : ∀ u, (w5.setCell ⟨w.heap.size, 0, none⟩ u).cell? ⟨w.heap.size, 0, none⟩ = some u := fun u => cell_set_same c05
  have hSx : ∀ u, Sl (w5.setCell ⟨w.heap.size, 0, none⟩ u) B m c xs := fun u => S5.gx (fun h a e => by have := hab h a e; omega) (Gx.set w.heap.size 0 w5 u)
  go_wp2
  exact bodyPost_ret (v := .tuple #[.agg #[.slice B m c], .string s, .int .i64 b]) (by simp [results, Try.results9, go_sem, hend]) rfl ⟨B, m, c, xs, s, b, rfl, hSx _, hm, fun h x e => by have := hab h x e; omega, hsf, ⟨hb0, hb1⟩, L5.setCell (Nat.le_refl _) _⟩
end Go.Proofs.Ytembnjanopajgaa
