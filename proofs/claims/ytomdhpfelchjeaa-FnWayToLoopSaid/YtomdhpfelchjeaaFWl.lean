/- the law FnWayToLoop: the draw, the plain facts, the walk -/
import Derived.Test.YtomdhpfelchjeaaDPg
import Derived.Test.YtomdhpfelchjeaaWyB
import Derived.Test.YtomdhpfelchjeaaLD
namespace Go.Proofs.Ytomdhpfelchjeaa
open Go.RowKit
theorem Sl.setNone {α : Type} [Enc α] {w : World} {A : Option Addr} {n cap : Nat} {xs : List α} {b o : Nat} {v u : Value} (h : Sl w A n cap xs) (hc : w.cell? ⟨b, o, none⟩ = some v) (hv : ∀ x : α, v ∉ Enc.cells x) : Sl (w.setCell ⟨b, o, none⟩ u) A n cap xs := by
  refine ⟨h.len, h.cap_, h.max, h.ok, fun hn => ?_⟩
  obtain ⟨b2, off, e, hb, hcell⟩ := h.at_ hn
  refine ⟨b2, off, e, by simpa [World.setCell] using hb, fun j t ht => ?_⟩
  have h1 := hcell j t ht
  by_cases c : b = b2 ∧ o = off + j
  · obtain ⟨rfl, rfl⟩ := c
    rw [hc] at h1
    injection h1 with h1
    subst h1
    obtain ⟨x, _, hx⟩ := List.mem_flatMap.1 (List.mem_of_getElem? ht)
    exact absurd hx (hv x)
  · have hne : b ≠ b2 ∨ o ≠ off + j := by
      by_cases c2 : b = b2
      · exact .inr (fun e => c ⟨c2, e⟩)
      · exact .inl c2
    rw [cell_set_other hne]
    exact h1
def wayA : List Lin := [⟨0, 12, 2, 0⟩, ⟨1, 7, 0, 0⟩, ⟨2, 5, 0, 0⟩, ⟨1, 10, 0, 0⟩, ⟨2, 1, 1, 0⟩]
theorem wayA_ok : ∀ x ∈ wayA, Enc.ok x := by
  intro x hx; simp [wayA] at hx
  rcases hx with rfl | rfl | rfl | rfl | rfl <;> exact ⟨by decide, by decide, by decide, by decide, by decide, by decide, by decide, by decide⟩
def wayB : List Lin := [⟨0, 12, 1, 0⟩, ⟨1, 11, 1, 0⟩, ⟨2, 7, 0, 0⟩, ⟨3, 6, 0, 0⟩, ⟨2, 10, 0, 0⟩, ⟨3, 0, 0, 0⟩]
theorem wayB_ok : ∀ x ∈ wayB, Enc.ok x := by
  intro x hx; simp [wayB] at hx
  rcases hx with rfl | rfl | rfl | rfl | rfl | rfl <;> exact ⟨by decide, by decide, by decide, by decide, by decide, by decide, by decide, by decide⟩
def wayC : List Lin := [⟨0, 7, 0, 0⟩, ⟨1, 12, 1, 0⟩, ⟨2, 11, 1, 1⟩, ⟨3, 2, 0, 1⟩, ⟨0, 10, 0, 0⟩, ⟨1, 0, 0, 0⟩]
theorem wayC_ok : ∀ x ∈ wayC, Enc.ok x := by
  intro x hx; simp [wayC] at hx
  rcases hx with rfl | rfl | rfl | rfl | rfl | rfl <;> exact ⟨by decide, by decide, by decide, by decide, by decide, by decide, by decide, by decide⟩
theorem bEnd_gt2 (p : List Lin) (k : Nat) : k < bEnd p k := by
  have := bGo_ge p (dep p k) (p.length - (k + 1)) (k + 1)
  unfold bEnd; omega
theorem pt_asc (p : List Lin) (d : Int) : ∀ m k, (∀ x ∈ ptGo p d m k, k < x ∧ x < p.length ∧ dep p x = d) ∧ (ptGo p d m k).Pairwise (· < ·)
  | 0, k => ⟨fun x hx => absurd hx (List.not_mem_nil), List.Pairwise.nil⟩
  | m + 1, k => by
    unfold ptGo
    split
    · next c =>
      have ih := pt_asc p d m (bEnd p k)
      have hb := bEnd_gt2 p k
      refine ⟨fun x hx => ?_, List.pairwise_cons.2 ⟨fun x hx => (ih.1 x hx).1, ih.2⟩⟩
      rcases List.mem_cons.1 hx with rfl | hx
      · exact ⟨hb, c.1, c.2.1⟩
      · have := ih.1 x hx
        exact ⟨by omega, this.2⟩
    · exact ⟨fun x hx => absurd hx (List.not_mem_nil), List.Pairwise.nil⟩
theorem parts_dep {p : List Lin} {j x : Nat} (hj : j < p.length) (hx : x ∈ parts p j) : x < p.length ∧ dep p x = dep p j := by
  have h := pt_asc p (dep p j) p.length j
  unfold parts at hx
  rcases List.mem_cons.1 hx with rfl | hx
  · exact ⟨hj, rfl⟩
  · exact (h.1 x hx).2
theorem lastE_what {p : List Lin} {y x : Nat} (hy : y < p.length) (h : lastE p y = some x) : x < p.length ∧ dep p x = dep p y ∧ ((knd p x = 11 ∧ x = y) ∨ knd p x = 10) := by
  unfold lastE at h
  split at h
  · next c => injection h with h; subst h; exact ⟨hy, rfl, .inl ⟨c, rfl⟩⟩
  · split at h
    · cases h
    · split at h
      · next j hj =>
        have hi := tryAt_is hj
        have hj2 : j < p.length := by have := try_le y y (Nat.le_refl _) hi; omega
        have h10 := finE_10 h
        have a := parts_dep hj2 (List.mem_of_getLast? h10.2)
        have b := parts_dep hj2 hi.2
        exact ⟨a.1, by rw [a.2, b.2], .inr h10.1⟩
      · cases h

set_option maxHeartbeats 4000000 in
set_option maxRecDepth 100000 in
theorem drawWayToLoop_any (A : Option Addr) (n cap : Nat) (bs : List By) (w : World) (hR : Sl w A n cap bs) : Calls Try.prog 9 #[.slice A n cap] w (DrawnPL w) := by
  go_enter Try.func9, Try.ntmps9
  go_wp2_with fail
  obtain ⟨c0, z0, L0⟩ := box1 w (.slice none 0 0) 25
  have f0 : (w.alloc (.cells #[.slice none 0 0] 25)).frozen? ⟨w.heap.size, 0, none⟩ = false := World.frozen?_alloc_at _ _ _ _ rfl
  have S0 := hR.le L0
  generalize w.alloc (.cells #[.slice none 0 0] 25) = W at *
  refine (newReader_any A n cap bs W S0).mono ?_
  rintro e w1 ⟨g, A1, n1, k1, bs1, rfl, hg, R1, hle⟩
  have hz1 : w.heap.size < w1.heap.size := Nat.lt_of_lt_of_le z0 hle.size
  replace c0 := (hle.cell z0).trans c0
  replace f0 := (hle.frozen z0).trans f0
  replace L0 := L0.trans hle
  clear S0
  have hgz : w.heap.size ≠ g := by omega
  have hwg : w.heap.size ≤ g := by omega
  go_wp2_with fail
  refine (pick_any 3 g 0 A1 n1 k1 bs1 w1 (by omega) (by omega) (by omega) R1).mono ?_
  rintro e w2 ⟨y, rfl, hy0, hy1, R2, hg2⟩
  replace c0 := (hg2.cell hz1 hgz).trans c0
  replace f0 := (hg2.frozen hz1 hgz).trans f0
  have L2 := Gx.le L0 hg2 hwg
  have hz2 := Nat.lt_of_lt_of_le hz1 hg2.size
  clear R1 hg2 hle L0 hy0 hy1
  by_cases hy : y = 0
  · subst hy
    go_wp2_with fail
    refine (lineIn_any g 1 A1 n1 k1 bs1 w2 (by omega) R2).mono ?_
    rintro e w3 ⟨B, D, m, c, q, d, xs, L, i, p2, rfl, S2, hm, hab, SD, hq, hD, hi, hp2, R3, hg3⟩
    replace c0 := (hg3.cell hz2 hgz).trans c0
    replace f0 := (hg3.frozen hz2 hgz).trans f0
    have L3 := Gx.le L2 hg3 (by omega)
    have hend : ∀ u, (w3.setCell ⟨w.heap.size, 0, none⟩ u).cell? ⟨w.heap.size, 0, none⟩ = some u := fun u => cell_set_same c0
    have hSx : ∀ u, Sl (w3.setCell ⟨w.heap.size, 0, none⟩ u) B m c xs := fun u => S2.gx (fun h a e => by have := hab h a e; omega) (Gx.set w.heap.size 0 w3 u)
    have hSy : ∀ u, Sl (w3.setCell ⟨w.heap.size, 0, none⟩ u) D q d L := fun u => SD.gx (fun h a e => by have := hD h a e; omega) (Gx.set w.heap.size 0 w3 u)
    clear R2 R3 hg3 S2 SD L2
    go_wp2
    exact bodyPost_ret (v := .tuple #[.agg #[.slice B m c], .slice D q d, .int .i64 i]) (by simp [results, Try.results9, go_sem, hend]) rfl ⟨B, D, m, c, q, d, xs, L, i, rfl, hSx _, hm, hSy _, hq, hi, L3.setCell (Nat.le_refl _) _⟩
  have hyb : (y == 0) = false := by simpa using hy
  clear hy
  go_wp2_with fail
  refine (goodTree_any g 1 A1 n1 k1 bs1 w2 (by omega) R2).mono ?_
  rintro e w3 ⟨h, m, c, p3, xs, rfl, O, hok, hm1, hm8, hp3, R3, hg3⟩
  have S := Sl.of_own O rfl (by decide) hok
  have hh := O.lt h rfl
  have hhg : h ≠ g := by have := R2.lt; omega
  replace c0 := (hg3.cell hz2 hgz).trans c0
  replace f0 := (hg3.frozen hz2 hgz).trans f0
  replace L2 := Gx.le L2 hg3 hwg
  have z2 := Nat.lt_of_lt_of_le hz2 hg3.size
  clear O hok R2 hg3 hz1
  have hgw3 := R3.lt
  obtain ⟨ct, zt, LB⟩ := box1 w3 (.slice (some ⟨h, 0, none⟩) m c) 25
  replace c0 := (LB.cell z2).trans c0
  replace f0 := (LB.frozen z2).trans f0
  replace S := S.le LB
  replace R3 := R3.le LB
  replace L2 := L2.trans LB
  replace z2 := Nat.lt_of_lt_of_le z2 LB.size
  have htg : w3.heap.size ≠ g := by omega
  clear LB hh
  go_wp2_with fail
  generalize w3.alloc (.cells #[.slice (some ⟨h, 0, none⟩) m c] 25) = W3 at *
  generalize w3.heap.size = tb at *
  refine (pick_any 3 g p3 A1 n1 k1 bs1 W3 (by omega) (by omega) (by omega) R3).mono ?_
  rintro e w4 ⟨k, rfl, hk0, hk1, R4, hg4⟩
  have hoffS : 0 < m → Off g (some (⟨h, 0, none⟩ : Addr)) := fun _ a e => by injection e with e; rw [← e]; exact hhg
  replace c0 := (hg4.cell z2 hgz).trans c0
  replace f0 := (hg4.frozen z2 hgz).trans f0
  replace ct := (hg4.cell zt htg).trans ct
  replace zt := Nat.lt_of_lt_of_le zt hg4.size
  replace z2 := Nat.lt_of_lt_of_le z2 hg4.size
  replace S := S.gx hoffS hg4
  replace L2 := Gx.le L2 hg4 hwg
  have hk3 : k < 3 := by rcases hk1 with h | h <;> omega
  have hkw : IntKind.i64.wrap (2 + k) = 2 + k := IntWalk.i64_in _ (by omega)
  clear hk1 hg4 R3
  go_wp2_with fail
  refine (pick_any 3 g (p3 + 1) A1 n1 k1 bs1 w4 (by omega) (by omega) (by omega) R4).mono ?_
  rintro e w5 ⟨z, rfl, hz0, hz1, R5, hg5⟩
  replace c0 := (hg5.cell z2 hgz).trans c0
  replace f0 := (hg5.frozen z2 hgz).trans f0
  replace ct := (hg5.cell zt htg).trans ct
  replace zt := Nat.lt_of_lt_of_le zt hg5.size
  replace z2 := Nat.lt_of_lt_of_le z2 hg5.size
  replace S := S.gx hoffS hg5
  replace L2 := Gx.le L2 hg5 hwg
  clear hg5 R4 R5 hz1 hoffS
  by_cases hz : z = 0
  · subst hz
    have hzs : ∀ u, (w5.setCell ⟨w.heap.size, 0, none⟩ u).heap.size = w5.heap.size := fun u => by simp [World.setCell]
    have LE : ∀ u, Le (w5.setCell ⟨w.heap.size, 0, none⟩ u) ((w5.setCell ⟨w.heap.size, 0, none⟩ u).alloc (.cells #[.int .i64 0, .int .i64 12, .int .i64 2, .int .i64 0, .int .i64 1, .int .i64 7, .int .i64 0, .int .i64 0, .int .i64 2, .int .i64 5, .int .i64 0, .int .i64 0, .int .i64 1, .int .i64 10, .int .i64 0, .int .i64 0, .int .i64 2, .int .i64 1, .int .i64 1, .int .i64 0] 34)) := fun u => Le.new _ _
    have hend : ∀ u, ((w5.setCell ⟨w.heap.size, 0, none⟩ u).alloc (.cells #[.int .i64 0, .int .i64 12, .int .i64 2, .int .i64 0, .int .i64 1, .int .i64 7, .int .i64 0, .int .i64 0, .int .i64 2, .int .i64 5, .int .i64 0, .int .i64 0, .int .i64 1, .int .i64 10, .int .i64 0, .int .i64 0, .int .i64 2, .int .i64 1, .int .i64 1, .int .i64 0] 34)).cell? ⟨w.heap.size, 0, none⟩ = some u := fun u => ((LE u).cell (by rw [hzs]; exact z2)).trans (cell_set_same c0)
    have hSx : Hid (∀ u, Sl ((w5.setCell ⟨w.heap.size, 0, none⟩ u).alloc (.cells #[.int .i64 0, .int .i64 12, .int .i64 2, .int .i64 0, .int .i64 1, .int .i64 7, .int .i64 0, .int .i64 0, .int .i64 2, .int .i64 5, .int .i64 0, .int .i64 0, .int .i64 1, .int .i64 10, .int .i64 0, .int .i64 0, .int .i64 2, .int .i64 1, .int .i64 1, .int .i64 0] 34)) (some ⟨h, 0, none⟩) m c xs) := fun u => (S.setNone c0 (fun x h => by simp [Enc.cells] at h)).le (LE u)
    have hSy : Hid (∀ u, Sl ((w5.setCell ⟨w.heap.size, 0, none⟩ u).alloc (.cells #[.int .i64 0, .int .i64 12, .int .i64 2, .int .i64 0, .int .i64 1, .int .i64 7, .int .i64 0, .int .i64 0, .int .i64 2, .int .i64 5, .int .i64 0, .int .i64 0, .int .i64 1, .int .i64 10, .int .i64 0, .int .i64 0, .int .i64 2, .int .i64 1, .int .i64 1, .int .i64 0] 34)) (some ⟨w5.heap.size, 0, none⟩) 5 5 wayA) := fun u => Sl.of_row (hp_new _ _ (hzs u).symm) rfl rfl (by omega) wayA_ok
    have HL := Lib.hid (fun u => (L2.setCell (b := w.heap.size) (o := 0) (Nat.le_refl _) u).trans (LE u))
    clear S L2 LE
    go_wp2
    exact bodyPost_ret (v := .tuple #[.agg #[.slice (some ⟨h, 0, none⟩) m c], .slice (some ⟨w5.heap.size, 0, none⟩) 5 5, .int .i64 (2 + k)]) (by simp [results, Try.results9, go_sem, hend]) rfl ⟨_, _, m, c, 5, 5, xs, wayA, 2 + k, rfl, hSx.out _, hm8, hSy.out _, by omega, by omega, HL.out _⟩
  have hzb : (z == 0) = false := by simpa using hz
  by_cases hz1 : z = 1
  · subst hz1
    have hzs : ∀ u, (w5.setCell ⟨w.heap.size, 0, none⟩ u).heap.size = w5.heap.size := fun u => by simp [World.setCell]
    have LE : ∀ u, Le (w5.setCell ⟨w.heap.size, 0, none⟩ u) ((w5.setCell ⟨w.heap.size, 0, none⟩ u).alloc (.cells #[.int .i64 0, .int .i64 12, .int .i64 1, .int .i64 0, .int .i64 1, .int .i64 11, .int .i64 1, .int .i64 0, .int .i64 2, .int .i64 7, .int .i64 0, .int .i64 0, .int .i64 3, .int .i64 6, .int .i64 0, .int .i64 0, .int .i64 2, .int .i64 10, .int .i64 0, .int .i64 0, .int .i64 3, .int .i64 0, .int .i64 0, .int .i64 0] 34)) := fun u => Le.new _ _
    have hend : ∀ u, ((w5.setCell ⟨w.heap.size, 0, none⟩ u).alloc (.cells #[.int .i64 0, .int .i64 12, .int .i64 1, .int .i64 0, .int .i64 1, .int .i64 11, .int .i64 1, .int .i64 0, .int .i64 2, .int .i64 7, .int .i64 0, .int .i64 0, .int .i64 3, .int .i64 6, .int .i64 0, .int .i64 0, .int .i64 2, .int .i64 10, .int .i64 0, .int .i64 0, .int .i64 3, .int .i64 0, .int .i64 0, .int .i64 0] 34)).cell? ⟨w.heap.size, 0, none⟩ = some u := fun u => ((LE u).cell (by rw [hzs]; exact z2)).trans (cell_set_same c0)
    have hSx : Hid (∀ u, Sl ((w5.setCell ⟨w.heap.size, 0, none⟩ u).alloc (.cells #[.int .i64 0, .int .i64 12, .int .i64 1, .int .i64 0, .int .i64 1, .int .i64 11, .int .i64 1, .int .i64 0, .int .i64 2, .int .i64 7, .int .i64 0, .int .i64 0, .int .i64 3, .int .i64 6, .int .i64 0, .int .i64 0, .int .i64 2, .int .i64 10, .int .i64 0, .int .i64 0, .int .i64 3, .int .i64 0, .int .i64 0, .int .i64 0] 34)) (some ⟨h, 0, none⟩) m c xs) := fun u => (S.setNone c0 (fun x h => by simp [Enc.cells] at h)).le (LE u)
    have hSy : Hid (∀ u, Sl ((w5.setCell ⟨w.heap.size, 0, none⟩ u).alloc (.cells #[.int .i64 0, .int .i64 12, .int .i64 1, .int .i64 0, .int .i64 1, .int .i64 11, .int .i64 1, .int .i64 0, .int .i64 2, .int .i64 7, .int .i64 0, .int .i64 0, .int .i64 3, .int .i64 6, .int .i64 0, .int .i64 0, .int .i64 2, .int .i64 10, .int .i64 0, .int .i64 0, .int .i64 3, .int .i64 0, .int .i64 0, .int .i64 0] 34)) (some ⟨w5.heap.size, 0, none⟩) 6 6 wayB) := fun u => Sl.of_row (hp_new _ _ (hzs u).symm) rfl rfl (by omega) wayB_ok
    have HL := Lib.hid (fun u => (L2.setCell (b := w.heap.size) (o := 0) (Nat.le_refl _) u).trans (LE u))
    clear S L2 LE
    go_wp2
    exact bodyPost_ret (v := .tuple #[.agg #[.slice (some ⟨h, 0, none⟩) m c], .slice (some ⟨w5.heap.size, 0, none⟩) 6 6, .int .i64 (2 + k)]) (by simp [results, Try.results9, go_sem, hend]) rfl ⟨_, _, m, c, 6, 6, xs, wayB, 2 + k, rfl, hSx.out _, hm8, hSy.out _, by omega, by omega, HL.out _⟩
  have hzc : (z == 1) = false := by simpa using hz1
  clear hz hz1 hz0
  have hzs : ∀ u, (w5.setCell ⟨w.heap.size, 0, none⟩ u).heap.size = w5.heap.size := fun u => by simp [World.setCell]
  have LE : ∀ u, Le (w5.setCell ⟨w.heap.size, 0, none⟩ u) ((w5.setCell ⟨w.heap.size, 0, none⟩ u).alloc (.cells #[.int .i64 0, .int .i64 7, .int .i64 0, .int .i64 0, .int .i64 1, .int .i64 12, .int .i64 1, .int .i64 0, .int .i64 2, .int .i64 11, .int .i64 1, .int .i64 1, .int .i64 3, .int .i64 2, .int .i64 0, .int .i64 1, .int .i64 0, .int .i64 10, .int .i64 0, .int .i64 0, .int .i64 1, .int .i64 0, .int .i64 0, .int .i64 0] 34)) := fun u => Le.new _ _
  have hend : ∀ u, ((w5.setCell ⟨w.heap.size, 0, none⟩ u).alloc (.cells #[.int .i64 0, .int .i64 7, .int .i64 0, .int .i64 0, .int .i64 1, .int .i64 12, .int .i64 1, .int .i64 0, .int .i64 2, .int .i64 11, .int .i64 1, .int .i64 1, .int .i64 3, .int .i64 2, .int .i64 0, .int .i64 1, .int .i64 0, .int .i64 10, .int .i64 0, .int .i64 0, .int .i64 1, .int .i64 0, .int .i64 0, .int .i64 0] 34)).cell? ⟨w.heap.size, 0, none⟩ = some u := fun u => ((LE u).cell (by rw [hzs]; exact z2)).trans (cell_set_same c0)
  have hSx : Hid (∀ u, Sl ((w5.setCell ⟨w.heap.size, 0, none⟩ u).alloc (.cells #[.int .i64 0, .int .i64 7, .int .i64 0, .int .i64 0, .int .i64 1, .int .i64 12, .int .i64 1, .int .i64 0, .int .i64 2, .int .i64 11, .int .i64 1, .int .i64 1, .int .i64 3, .int .i64 2, .int .i64 0, .int .i64 1, .int .i64 0, .int .i64 10, .int .i64 0, .int .i64 0, .int .i64 1, .int .i64 0, .int .i64 0, .int .i64 0] 34)) (some ⟨h, 0, none⟩) m c xs) := fun u => (S.setNone c0 (fun x h => by simp [Enc.cells] at h)).le (LE u)
  have hSy : Hid (∀ u, Sl ((w5.setCell ⟨w.heap.size, 0, none⟩ u).alloc (.cells #[.int .i64 0, .int .i64 7, .int .i64 0, .int .i64 0, .int .i64 1, .int .i64 12, .int .i64 1, .int .i64 0, .int .i64 2, .int .i64 11, .int .i64 1, .int .i64 1, .int .i64 3, .int .i64 2, .int .i64 0, .int .i64 1, .int .i64 0, .int .i64 10, .int .i64 0, .int .i64 0, .int .i64 1, .int .i64 0, .int .i64 0, .int .i64 0] 34)) (some ⟨w5.heap.size, 0, none⟩) 6 6 wayC) := fun u => Sl.of_row (hp_new _ _ (hzs u).symm) rfl rfl (by omega) wayC_ok
  have HL := Lib.hid (fun u => (L2.setCell (b := w.heap.size) (o := 0) (Nat.le_refl _) u).trans (LE u))
  clear S L2 LE
  go_wp2
  exact bodyPost_ret (v := .tuple #[.agg #[.slice (some ⟨h, 0, none⟩) m c], .slice (some ⟨w5.heap.size, 0, none⟩) 6 6, .int .i64 (2 + k)]) (by simp [results, Try.results9, go_sem, hend]) rfl ⟨_, _, m, c, 6, 6, xs, wayC, 2 + k, rfl, hSx.out _, hm8, hSy.out _, by omega, by omega, HL.out _⟩

theorem wl_facts {xs : List Cls} {p : List Lin} {i : Int} (hne : (wlX xs p i).length ≠ 0) : ∃ (k : Nat) (U V : List Nat) (y : Nat) (hy : y < p.length), i = (k : Int) ∧ k < p.length ∧ wlX xs p k = nI U ∧ woX xs p k = nI (U ++ V) ∧ loX xs p k = (y : Int) ∧ (∀ t (h : t < U.length), ∃ hx : U[t] < p.length, p[y].depth < p[U[t]].depth) ∧ (U ++ V).length ≤ 1048576 := by
  cases hg : (glB xs p i && decide (0 ≤ loN p (encl p i.toNat) 0)) with
  | false => exact absurd (by unfold wlX; rw [hg]; rfl) hne
  | true =>
    have hg2 := Bool.and_eq_true_iff.1 hg
    obtain ⟨hv, k, rfl, hk⟩ := glB_iff.1 hg2.1
    have hlo : 0 ≤ loN p (encl p k) 0 := of_decide_eq_true hg2.2
    have g := goodP_of hv
    have hd := encl_deep g hk
    have hlt : ∀ y ∈ encl p k, y < p.length := fun y hy => by have := encl_lt y hy; omega
    rcases lo_zero p (encl p k) with ⟨h1, _⟩ | ⟨j, hj, h1, h2⟩
    · omega
    · have e1 : wlX xs p k = nI (wayL p ((encl p k).take j)) := by
        unfold wlX; rw [hg]
        show nI (wayL p ((encl p k).take (loN p (encl p k) 0).toNat)) = _
        rw [h1]; rfl
      have e2 : woX xs p k = nI (wayL p (encl p k)) := by unfold woX; rw [hg2.1]; rfl
      have e3 : loX xs p k = loA p (encl p k) := by unfold loX; rw [hg2.1]; rfl
      have hs : wayL p ((encl p k).take j) ++ wayL p ((encl p k).drop j) = wayL p (encl p k) := by
        unfold wayL; rw [← List.filterMap_append, List.take_append_drop]
      have hyl := hlt _ (List.getElem_mem hj)
      have hl := woX_len xs p k
      refine ⟨k, wayL p ((encl p k).take j), wayL p ((encl p k).drop j), (encl p k)[j], hyl, rfl, hk, e1, by rw [hs, e2], by rw [e3, h2], fun t ht => ?_, by rw [hs, ← nI_len, ← e2]; exact hl⟩
      obtain ⟨z, hz, hez⟩ := List.mem_filterMap.1 (List.getElem_mem ht)
      have hz2 := List.mem_of_mem_take hz
      have a := lastE_what (hlt z hz2) hez
      refine ⟨a.1, ?_⟩
      obtain ⟨s, hs2, hzs⟩ := List.getElem_of_mem hz
      rw [List.length_take] at hs2
      rw [List.getElem_take] at hzs
      have b1 := hd.2 s (by omega)
      have b2 := hd.2 j hj
      have a2 := a.2.1
      rw [← hzs, b1] at a2
      rw [dep_at a.1] at a2
      rw [dep_at hyl] at b2
      rw [a2, b2]; omega
set_option maxHeartbeats 4000000 in
set_option maxRecDepth 100000 in
theorem fnWayToLoop_walk (A : Option Addr) (n cap : Nat) (bs : List By) (w : World) (hR : Sl w A n cap bs) :
    Calls Try.prog 3 #[.slice A n cap] w fun e w' => e = .returned (.bool true) ∧ Le w w' := by
  have hm := hR.n_le
  by_cases hbig : 1048576 < n
  · go_enter Try.func3, Try.ntmps3
    go_wp2
    go_ret
    exact ⟨rfl, Le.refl w⟩
  go_enter Try.func3, Try.ntmps3
  go_wp2_with fail
  refine (drawWayToLoop_any A n cap bs w hR).mono ?_
  rintro e w1 ⟨B, D, m, c, q, d, xs, p, i, rfl, S, hm8, S2, hq24, hi, L0⟩
  obtain rfl := S2.len
  have hm1 : m ≤ 1048576 := by omega
  have hsm : p.length ≤ 1048576 := by omega
  clear hbig hm hR
  go_wp2_with fail
  obtain ⟨ct, zt, hleB⟩ := box1 w1 (.slice B m c) 25
  replace S := S.le hleB
  replace L0 := L0.trans hleB
  replace S2 := S2.le hleB
  clear hleB
  generalize w1.alloc (.cells #[.slice B m c] 25) = W1 at *
  go_wp2_with fail
  refine (Calls.sl1w (by decide) (iWayToLoop_any B D m c _ d xs p i hm1 W1 S S2)).mono ?_
  rintro e w2 ⟨A3, c3, rfl, S3, hle⟩
  replace ct := (hle.cell zt).trans ct
  replace zt := Nat.lt_of_lt_of_le zt hle.size
  replace S := S.le hle
  replace L0 := L0.trans hle
  replace S2 := S2.le hle
  clear hle
  go_wp2_with fail
  refine (Calls.sl1w (by decide) (sWayToLoop_any B D m c _ d xs p i hsm w2 S S2)).mono ?_
  rintro e w3 ⟨A4, c4, rfl, S4, hle⟩
  replace ct := (hle.cell zt).trans ct
  replace zt := Nat.lt_of_lt_of_le zt hle.size
  replace S := S.le hle
  replace L0 := L0.trans hle
  replace S2 := S2.le hle
  replace S3 := S3.le hle
  clear hle
  go_wp2_with fail
  refine (equalInts_self _ _ _ _ _ _ _ S3 S4).mono ?_
  rintro e w4 ⟨rfl, hle⟩
  replace ct := (hle.cell zt).trans ct
  replace zt := Nat.lt_of_lt_of_le zt hle.size
  replace S := S.le hle
  replace L0 := L0.trans hle
  replace S2 := S2.le hle
  replace S3 := S3.le hle
  clear hle
  clear S4
  by_cases h0 : (wlX xs p i).length = 0
  · have h0b : (((wlX xs p i).length : Int) == 0) = true := by rw [h0]; rfl
    clear h0
    go_wp2_with fail
    refine (Calls.sl1w (by decide) (sWayToLoop_any B D m c _ d xs p i hsm w4 S S2)).mono ?_
    rintro e w8 ⟨A6, c6, rfl, S6, hle⟩
    replace L0 := L0.trans hle
    replace S3 := S3.le hle
    clear hle
    go_wp2_with fail
    refine (equalInts_self _ _ _ _ _ _ _ S3 S6).mono ?_
    rintro e w9 ⟨rfl, hle⟩
    replace L0 := L0.trans hle
    clear hle
    go_wp2
    go_ret
    exact ⟨rfl, L0⟩
  obtain ⟨k, U, V, y, hyl, rfl, hk, HU, HW, HY, HALL, hUV⟩ := wl_facts h0
  have h0b : ((U.length : Int) == 0) = false := by rw [HU, nI_len] at h0; exact beq_eq_false_iff_ne.2 (by omega)
  rw [HU, nI_len] at S3 ⊢
  clear h0
  have HAL := Lib.hid HALL
  clear HALL HU
  go_wp2_with fail
  refine (Calls.sl1w (by decide) (iWayOut_any B D m c _ d xs p k hm1 w4 S S2)).mono ?_
  rintro e w5 ⟨A5, c5, rfl, S5, hle⟩
  replace ct := (hle.cell zt).trans ct
  replace zt := Nat.lt_of_lt_of_le zt hle.size
  replace S := S.le hle
  replace L0 := L0.trans hle
  replace S2 := S2.le hle
  replace S3 := S3.le hle
  clear hle
  rw [HW, nI_len] at S5 ⊢
  have hle1 : U.length ≤ (U ++ V).length := by rw [List.length_append]; omega
  have ST := S5.take_ U.length hle1
  have e1 : (nI (U ++ V)).take U.length = nI U := by unfold nI; rw [← List.map_take, List.take_left]
  rw [e1] at ST
  have hcap := S5.cap_
  have hlec : U.length ≤ c5 := by omega
  clear e1 HW S5
  generalize (U ++ V).length = n2 at *
  go_wp2_with fail
  refine (Calls.val (iLoopOf_any B D m c _ d xs p k hm1 w5 S S2) (by rw [HY])).mono ?_
  rintro e w6 ⟨rfl, hle⟩
  replace S := S.le hle
  replace L0 := L0.trans hle
  replace S2 := S2.le hle
  replace S3 := S3.le hle
  replace ST := ST.le hle
  clear hle
  clear HY ct
  have HAT : Hid (∀ t (h : t < U.length), (nI U)[t]'(by rw [nI_len]; exact h) = (U[t] : Int)) := fun t h => nI_at h
  have HEL := Lib.hid (nI_len U)
  have hy0 : (0 : Int) ≤ (y : Int) := by omega
  have hyn : (y : Int) < (p.length : Int) := by omega
  go_wp2
  go_loopw [9] (fun i wr => ∃ t : Nat, i = .int .i64 t ∧ Le w6 wr) (fun i _ => U.length - (intOf i).toNat)
  case atStart => exact ⟨0, rfl, Le.refl _⟩
  case round =>
    obtain ⟨t, rfl, LW⟩ := hrel
    replace L0 := L0.trans LW
    replace S2 := S2.le LW
    replace S3 := S3.le LW
    replace ST := ST.le LW
    by_cases hlt : t < U.length
    · obtain ⟨hx, hdx⟩ := HAL.out t hlt
      obtain ⟨b, off, rfl, hb, hcell, _, _⟩ := S3.int_at (k := t) (by rw [HEL.out]; exact hlt)
      rw [HAT.out t hlt] at hcell
      obtain ⟨b2, off2, rfl, hb2, cx, -⟩ := S2.lin_at hx
      obtain ⟨b3, off3, e3, hb3, ck, -⟩ := S2.lin_at hyl
      injection e3 with e3
      injection e3 with e3 e4
      subst e3; subst e4
      generalize U[t] = x at *
      have hx0 : (0 : Int) ≤ (x : Int) := by omega
      have hxn : (x : Int) < (p.length : Int) := by omega
      have ht0 : (0 : Int) ≤ (t : Int) := by omega
      have htn : (t : Int) < (U.length : Int) := by omega
      have hd2 : decide (p[x].depth ≤ p[y].depth) = false := decide_eq_false (by omega)
      generalize p[y].depth = dk at *
      generalize p[x].depth = dx at *
      have F1 := cell_ext hb hcell
      have F2 := cell_ext hb2 cx
      have F3 := cell_ext hb3 ck
      go_wp2_with fail
      refine wp_region_ext (by kernel_rfl) (by kernel_rfl) ?_
      repeat (go_big_quiet_step (fail))
      refine wpQuiet_nil ?_
      intro _ hw'
      obtain ⟨gg, rfl⟩ := hw'
      have hw3 := Le.ext wr gg
      generalize wr.ext gg = W2 at *
      go_wp2
      go_roundw
      case rel => exact ⟨t + 1, by go_num, LW.trans hw3⟩
      case measure => simp [intOf]; omega
    · have htn : ¬ (t : Int) < (U.length : Int) := by omega
      have hd1 : decide (U.length ≤ n2) = true := decide_eq_true hle1
      have hd1i : decide ((U.length : Int) ≤ (n2 : Int)) = true := decide_eq_true (by omega)
      go_wp2_with fail
      refine (equalInts_self _ _ _ _ _ _ _ ST S3).mono ?_
      rintro e w7 ⟨rfl, hle⟩
      replace L0 := L0.trans hle
      clear hle
      go_wp2
      go_ret
      exact ⟨rfl, L0⟩
end Go.Proofs.Ytomdhpfelchjeaa
