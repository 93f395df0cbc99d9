import Derived.Test.YtembnjanopajgaaT
import Derived.Deep.RegionHeld3
namespace Go.Proofs.Ytembnjanopajgaa
open Go.RowKit

def SomeOut (k g p : Nat) (A : Option Addr) (n cap : Nat) (bs : List By) (w : World) (e : Ending) (w' : World) : Prop :=
  ∃ (B : Option Addr) (m c p' : Nat) (xs : List Cls), e = .returned (.agg #[.slice B m c]) ∧ Sl w' B m c xs ∧ m ≤ 8 ∧ (0 < m → Off g B) ∧ (0 < m → ∀ a, B = some a → w.heap.size < a.block) ∧ p' ≤ p + k ∧ Rd w' g p' A n cap bs ∧ Gx g w w'

def four4 : List ByteArray := [⟨#[]⟩, ⟨#[97, 110, 121]⟩, ⟨#[65]⟩, ⟨#[116, 111, 111, 108, 111, 110, 103]⟩]
theorem four_ok : ∀ x ∈ four4, Enc.ok x := by
  intro x hx
  simp [four4] at hx
  rcases hx with rfl | rfl | rfl | rfl <;> (show _ ≤ _; decide)
theorem flat_name : ∀ (xs : List Cls) (k : Nat) (h : k < xs.length) (s : ByteArray), (xs.flatMap Enc.cells).set (k * 2) (.string s) = (xs.set k ⟨s, xs[k].parent⟩).flatMap Enc.cells
  | x :: r, 0, _, s => rfl
  | x :: r, k + 1, h, s => by
    have ih := flat_name r k (by simpa using h) s
    have e : (k + 1) * 2 = k * 2 + 1 + 1 := by omega
    rw [e]
    show Value.string x.name :: Value.int .i64 x.parent :: (r.flatMap Enc.cells).set (k * 2) (.string s) = _
    rw [ih]; rfl
theorem flat_parent : ∀ (xs : List Cls) (k : Nat) (h : k < xs.length) (z : Int), (xs.flatMap Enc.cells).set (k * 2 + 1) (.int .i64 z) = (xs.set k ⟨xs[k].name, z⟩).flatMap Enc.cells
  | x :: r, 0, _, z => rfl
  | x :: r, k + 1, h, z => by
    have ih := flat_parent r k (by simpa using h) z
    have e : (k + 1) * 2 + 1 = k * 2 + 1 + 1 + 1 := by omega
    rw [e]
    show Value.string x.name :: Value.int .i64 x.parent :: (r.flatMap Enc.cells).set (k * 2 + 1) (.int .i64 z) = _
    rw [ih]; rfl
theorem own_sl' {w : World} {base g n cap : Nat} {xs : List Cls} (h : w.ownsRow base 71 2 (.slice (some ⟨g, 0, none⟩) n cap) n (xs.flatMap Enc.cells)) (hok : ∀ x ∈ xs, Enc.ok x) : Sl w (some ⟨g, 0, none⟩) n cap xs := Sl.of_own h rfl (by decide) hok
theorem some_rd {g p4 n cap b : Nat} {A : Option Addr} {bs : List By} {w4 : World} (hR4 : Rd w4 g p4 A n cap bs) (hb : b ≠ g) (how : 0 < n → Off b A) (u : Value) : Rd (w4.setCell ⟨b, 0, none⟩ u) g p4 A n cap bs :=
  ⟨(heap_setCell_other w4 ⟨b, 0, none⟩ g u (Ne.symm hb)).trans hR4.row, hR4.sl.gx how (Gx.set b 0 w4 u), hR4.off, hR4.few⟩
theorem some_end {g p p4 n cap h m c base : Nat} {A : Option Addr} {bs : List By} {w w4 : World} {xs : List Cls} (hgw : g < w.heap.size) (hR4 : Rd w4 g p4 A n cap bs) (gx4 : Gx g w w4) (how : Hid (0 < n → Off w.heap.size A))
    (own4 : w4.ownsRow base 71 2 (.slice (some ⟨h, 0, none⟩) m c) m (xs.flatMap Enc.cells)) (hok : ∀ x ∈ xs, Enc.ok x) (hh : w.heap.size < h) (hm : m ≤ 8) (hp : p4 ≤ p + 18) (u : Value) :
    SomeOut 18 g p A n cap bs w (.returned (.agg #[.slice (some ⟨h, 0, none⟩) m c])) (w4.setCell ⟨w.heap.size, 0, none⟩ u) :=
  ⟨_, m, c, p4, xs, rfl, own_sl' (own_set own4 (by omega) u) hok, hm, fun _ a e => by injection e with e; rw [← e]; show h ≠ g; omega, fun _ a e => by injection e with e; rw [← e]; exact hh, hp, some_rd hR4 (by omega) how.out u, gx4.setNew (Nat.le_refl _) u⟩
theorem some_none {g p p4 n cap : Nat} {A : Option Addr} {bs : List By} {w w4 : World} (hgw : g < w.heap.size) (hR4 : Rd w4 g p4 A n cap bs) (gx4 : Gx g w w4) (how : Hid (0 < n → Off w.heap.size A)) (hp : p4 ≤ p + 18) (u : Value) :
    SomeOut 18 g p A n cap bs w (.returned (.agg #[.slice none 0 0])) (w4.setCell ⟨w.heap.size, 0, none⟩ u) :=
  ⟨none, 0, 0, p4, [], rfl, Sl.nil _ _ _ (by omega), by omega, fun h => absurd h (by omega), fun h => absurd h (by omega), hp, some_rd hR4 (by omega) how.out u, gx4.setNew (Nat.le_refl _) u⟩

set_option maxHeartbeats 4000000 in
set_option maxRecDepth 100000 in
theorem someTree_any (g p : Nat) (A : Option Addr) (n cap : Nat) (bs : List By) (w : World) (hp : p ≤ 800000) (hR : Rd w g p A n cap bs) :
    Calls Try.prog 35 #[.pointer (some ⟨g, 0, none⟩)] w (SomeOut 18 g p A n cap bs w) := by
  have hgw := hR.lt
  go_enter Try.func35, Try.ntmps35
  go_wp2_with fail
  generalize hWd : w.alloc _ = W0
  have hl0 : Le w W0 := by rw [← hWd]; exact Le.new w _
  have r0 : W0.heap[w.heap.size]? = some (.cells #[.slice none 0 0] 25 (0, 0)) := by rw [← hWd]; exact hp_new _ _ rfl
  clear hWd
  refine (goodTree_any g p A n cap bs W0 (by omega) (hR.le hl0)).mono ?_
  rintro e w1 ⟨h, m, c, p1, xs, rfl, hown, hok, hm1, hm8, hp1, hR1, hg1⟩
  go_wp2_with fail
  have hl1 := Le.new w1 (.cells #[.slice (some ⟨h, 0, none⟩) m c] 25)
  have hs01 : W0.heap.size ≤ w1.heap.size := hg1.size
  have hs0 : w.heap.size < W0.heap.size := by
    rcases Nat.lt_or_ge w.heap.size W0.heap.size with hlt | hge
    · exact hlt
    · rw [Array.getElem?_eq_none hge] at r0; cases r0
  have hhl := own_lt hown
  have hh0 : W0.heap.size ≤ h := (hown.lt h rfl).1
  refine (pick_any m g p1 A n cap bs _ (by omega) (by omega) (by omega) (hR1.le hl1)).mono ?_
  rintro e w2 ⟨v, rfl, hv0, hv1, hR2, hg2⟩
  obtain ⟨k, rfl⟩ := Int.eq_ofNat_of_zero_le hv0
  have hkm : k < m := by rcases hv1 with h | h <;> omega
  have hs2 : w1.heap.size < w2.heap.size := by have := hg2.size; simp at this; omega
  have b2 := (hg2.block w1.heap.size (by simp) (by simp; omega)).trans (hp_new w1 _ rfl)
  have q2 := ((hg2.block w.heap.size (by simp; omega) (by simp; omega)).trans (hp_old w1 _ (by omega))).trans ((hg1.block w.heap.size (by omega) (by simp; omega)).trans r0)
  have own2 := (hown.alloc (.cells #[.slice (some ⟨h, 0, none⟩) m c] 25)).kept hg2 (.inr (by simp [Value.ownBlock]; omega))
  have gx2 : Gx g w w2 := ((Gx.of_le hl0).trans hg1).trans ((Gx.of_le hl1).trans hg2)
  clear hg1 hg2 hR1 hown hl0 hl1 r0 hv0 hv1
  have c2 := (cell_of_row w2 _ 0 _ _ _ b2).trans rfl
  go_wp2_with fail
  refine (pick_any 24 g (p1 + 1) A n cap bs _ (by omega) (by omega) (by omega) hR2).mono ?_
  rintro e w3 ⟨v, rfl, hv0, hv1, hR3, hg3⟩
  have hs3 : w2.heap.size ≤ w3.heap.size := hg3.size
  have b3 := (hg3.block w1.heap.size (by omega) (by simp; omega)).trans b2
  have q3 := (hg3.block w.heap.size (by omega) (by simp; omega)).trans q2
  have own3 := own2.kept hg3 (.inr (by simp [Value.ownBlock]; omega))
  have gx3 := gx2.trans hg3
  clear hg3 hR2 own2 b2 q2 gx2 c2
  have cb3 := (cell_of_row w3 _ 0 _ _ _ b3).trans rfl
  have cq3 := (cell_of_row w3 _ 0 _ _ _ q3).trans rfl
  have fq3 := frozen_of_row w3 w.heap.size 0 _ _ q3
  have hoffw : 0 < n → Off w.heap.size A := fun hn => by
    obtain ⟨b, off, e, hb, _⟩ := hR.sl.at_ hn
    exact fun a ea => by rw [e] at ea; injection ea with ea; rw [← ea]; exact Nat.ne_of_lt hb
  have HOW := Lib.hid hoffw; clear hoffw
  have hun : 0 < n → ∀ a, A = some a → a.block ≠ h := fun hn a e => by have := hR.sl.under hn a e; omega
  have HUN := Lib.hid hun; clear hun
  by_cases v0 : v = 0
  · subst v0
    have hkm' : (k : Int) < m := by omega
    have hk0' : (0 : Int) ≤ (k : Int) := by omega
    have hRd := hR3.le (Le.refl w3).drew
    have cbd : w3.drew.cell? ⟨w1.heap.size, 0, none⟩ = some (.slice (some ⟨h, 0, none⟩) m c) := cb3
    have hsd : w3.drew.heap.size = w3.heap.size := rfl
    have hxl : xs.length = m := by
      have := own3.1; rw [flat_len] at this
      exact Nat.eq_of_mul_eq_mul_right (by decide : 0 < 2) this
    have HSD := Lib.hid hsd; clear hsd
    have HXL := Lib.hid hxl; clear hxl
    have hfl := own3.1
    have HFL := Lib.hid hfl; clear hfl
    go_wp2
    go_region_held3 (fun w' => w'.cell? ⟨w1.heap.size, 0, none⟩ = some (.slice (some ⟨h, 0, none⟩) m c))
      (first | exact cbd | exact ((Le.new w3.drew _).cell (by have := HSD.out; omega)).trans cbd | exact cb4 | exact (cell_set_other (.inl (by omega))).trans cb4)
      (first
      | (go_at_call 36; refine (of_any _ 4 4 four4 g (p1 + 1 + 1) A n cap bs _ (by omega) (by omega) (by omega) (Sl.of_row (hp_new _ _ rfl) (by rfl) rfl (by omega) four_ok) (fun _ a e => by injection e with e; rw [← e]; show w3.drew.heap.size ≠ g; have := HSD.out; omega) (hRd.le (Le.new _ _))).mono ?_; rintro e w4 ⟨s, rfl, hs, hR4, hg4⟩; have b4 := ((hg4.block w1.heap.size (by have := HSD.out; simp; omega) (by simp; omega)).trans (hp_old w3.drew _ (by have := HSD.out; omega))).trans b3; have cb4 := (cell_of_row w4 _ 0 _ _ _ b4).trans rfl; have q4 := ((hg4.block w.heap.size (by have := HSD.out; simp; omega) (by simp; omega)).trans (hp_old w3.drew _ (by have := HSD.out; omega))).trans q3; have own4 := (own3.drew.alloc (.cells #[.string ⟨#[]⟩, .string ⟨#[97, 110, 121]⟩, .string ⟨#[65]⟩, .string ⟨#[116, 111, 111, 108, 111, 110, 103]⟩] 9)).kept hg4 (.inr (by simp [Value.ownBlock]; omega)); have gx4 := (gx3.trans (Gx.of_le ((Le.refl w3).drew.alloc (.cells #[.string ⟨#[]⟩, .string ⟨#[97, 110, 121]⟩, .string ⟨#[65]⟩, .string ⟨#[116, 111, 111, 108, 111, 110, 103]⟩] 9)))).trans hg4; have hcw : w4.cell? ⟨h, k * 2, none⟩ = some (.string (xs[k]'(by have := HXL.out; omega)).name) := (own4.cellAt (k * 2) (by omega)).trans ((flat_at xs k (by have := HXL.out; omega) 0 (by decide)).trans rfl); have hfw := own4.frozenAt (k * 2)))
    have hset := (own4.stored (k * 2) (.string s)).1
    rw [flat_name xs k (by have := HXL.out; omega)] at hset
    have hok' : ∀ x ∈ xs.set k (⟨s, (xs[k]'(by have := HXL.out; omega)).parent⟩), Enc.ok x := by
      intro x hx
      rcases List.mem_or_eq_of_mem_set hx with hx | rfl
      · exact hok x hx
      · have hko := hok (xs[k]'(by have := HXL.out; omega)) (List.getElem_mem _)
        exact ⟨four_ok s hs, hko.2⟩
    have cq4 := ((cell_of_row w4 _ 0 _ _ _ q4).trans rfl : w4.cell? ⟨w.heap.size, 0, none⟩ = some (.slice none 0 0))
    have fq4 := frozen_of_row w4 w.heap.size 0 _ _ q4
    have cq5 : (w4.setCell ⟨h, k * 2, none⟩ (.string s)).cell? ⟨w.heap.size, 0, none⟩ = some (.slice none 0 0) := (cell_set_other (.inl (by omega))).trans cq4
    have cb5 : (w4.setCell ⟨h, k * 2, none⟩ (.string s)).cell? ⟨w1.heap.size, 0, none⟩ = some (.slice (some ⟨h, 0, none⟩) m c) := (cell_set_other (.inl (by omega))).trans cb4
    have hend : ∀ u, ((w4.setCell ⟨h, k * 2, none⟩ (.string s)).setCell ⟨w.heap.size, 0, none⟩ u).cell? ⟨w.heap.size, 0, none⟩ = some u := fun u => cell_set_same cq5
    have hR5 : Rd (w4.setCell ⟨h, k * 2, none⟩ (.string s)) g (p1 + 1 + 1 + 1) A n cap bs :=
      ⟨(heap_setCell_other w4 ⟨h, k * 2, none⟩ g _ (by show g ≠ h; omega)).trans hR4.row, hR4.sl.gx (fun hn a e => by have := HUN.out hn a e; omega) (Gx.set h (k * 2) w4 _), hR4.off, hR4.few⟩
    have gx5 : Gx g w (w4.setCell ⟨h, k * 2, none⟩ (.string s)) := gx4.setNew (by omega) _
    clear cb4 cq4 b4 q4
    go_wp2
    exact bodyPost_ret (v := .agg #[.slice (some ⟨h, 0, none⟩) m c]) (by simp [results, Try.results35, go_sem, hend]) rfl (some_end hgw hR5 gx5 HOW hset hok' (by omega) hm8 (by omega) _)
  · by_cases v1 : v = 1
    · subst v1
      have hkm' : (k : Int) < m := by omega
      have hk0' : (0 : Int) ≤ (k : Int) := by omega
      have hRd := hR3.le (Le.refl w3).drew
      have cbd : w3.drew.cell? ⟨w1.heap.size, 0, none⟩ = some (.slice (some ⟨h, 0, none⟩) m c) := cb3
      have hsd : w3.drew.heap.size = w3.heap.size := rfl
      have hxl : xs.length = m := by
        have := own3.1; rw [flat_len] at this
        exact Nat.eq_of_mul_eq_mul_right (by decide : 0 < 2) this
      have HSD := Lib.hid hsd; clear hsd
      have HXL := Lib.hid hxl; clear hxl
      have hfl := own3.1
      have HFL := Lib.hid hfl; clear hfl
      go_wp2
      go_region_held3 (fun w' => w'.cell? ⟨w1.heap.size, 0, none⟩ = some (.slice (some ⟨h, 0, none⟩) m c))
        (first | exact cbd | exact ((Le.new w3.drew _).cell (by have := HSD.out; omega)).trans cbd | exact cb4 | exact (cell_set_other (.inl (by omega))).trans cb4)
        (first
        | (go_at_call 68; refine (one_any _ 4 4 [(k : Int), -1, 8, -2] g (p1 + 1 + 1) A n cap bs _ (by omega) (by omega) (by omega) (Sl.of_row (hp_new _ _ rfl) (by rfl) rfl (by omega) (by intro x hx; simp at hx; rcases hx with rfl | rfl | rfl | rfl <;> (constructor <;> omega))) (fun _ a e => by injection e with e; rw [← e]; show w3.drew.heap.size ≠ g; have := HSD.out; omega) (hRd.le (Le.new _ _))).mono ?_; rintro e w4 ⟨z, rfl, hs, hR4, hg4⟩; have b4 := ((hg4.block w1.heap.size (by have := HSD.out; simp; omega) (by simp; omega)).trans (hp_old w3.drew _ (by have := HSD.out; omega))).trans b3; have cb4 := (cell_of_row w4 _ 0 _ _ _ b4).trans rfl; have q4 := ((hg4.block w.heap.size (by have := HSD.out; simp; omega) (by simp; omega)).trans (hp_old w3.drew _ (by have := HSD.out; omega))).trans q3; have own4 := (own3.drew.alloc (.cells #[.int .i64 (k : Int), .int .i64 (-1), .int .i64 8, .int .i64 (-2)] 3)).kept hg4 (.inr (by simp [Value.ownBlock]; omega)); have gx4 := (gx3.trans (Gx.of_le ((Le.refl w3).drew.alloc (.cells #[.int .i64 (k : Int), .int .i64 (-1), .int .i64 8, .int .i64 (-2)] 3)))).trans hg4; have hcw : w4.cell? ⟨h, k * 2 + 1, none⟩ = some (.int .i64 (xs[k]'(by have := HXL.out; omega)).parent) := (own4.cellAt (k * 2 + 1) (by omega)).trans ((flat_at xs k (by have := HXL.out; omega) 1 (by decide)).trans rfl); have hfw := own4.frozenAt (k * 2 + 1)))
      have hset := (own4.stored (k * 2 + 1) (.int .i64 z)).1
      rw [flat_parent xs k (by have := HXL.out; omega)] at hset
      have hok' : ∀ x ∈ xs.set k (⟨(xs[k]'(by have := HXL.out; omega)).name, z⟩), Enc.ok x := by
        intro x hx
        rcases List.mem_or_eq_of_mem_set hx with hx | rfl
        · exact hok x hx
        · have hko := hok (xs[k]'(by have := HXL.out; omega)) (List.getElem_mem _)
          have hz : -2 ≤ z ∧ z ≤ 8 := by simp at hs; omega
          exact ⟨hko.1, by show _ ≤ z; omega, by show z ≤ _; omega⟩
      have cq4 := ((cell_of_row w4 _ 0 _ _ _ q4).trans rfl : w4.cell? ⟨w.heap.size, 0, none⟩ = some (.slice none 0 0))
      have fq4 := frozen_of_row w4 w.heap.size 0 _ _ q4
      have cq5 : (w4.setCell ⟨h, k * 2 + 1, none⟩ (.int .i64 z)).cell? ⟨w.heap.size, 0, none⟩ = some (.slice none 0 0) := (cell_set_other (.inl (by omega))).trans cq4
      have cb5 : (w4.setCell ⟨h, k * 2 + 1, none⟩ (.int .i64 z)).cell? ⟨w1.heap.size, 0, none⟩ = some (.slice (some ⟨h, 0, none⟩) m c) := (cell_set_other (.inl (by omega))).trans cb4
      have hend : ∀ u, ((w4.setCell ⟨h, k * 2 + 1, none⟩ (.int .i64 z)).setCell ⟨w.heap.size, 0, none⟩ u).cell? ⟨w.heap.size, 0, none⟩ = some u := fun u => cell_set_same cq5
      have hR5 : Rd (w4.setCell ⟨h, k * 2 + 1, none⟩ (.int .i64 z)) g (p1 + 1 + 1 + 1) A n cap bs :=
        ⟨(heap_setCell_other w4 ⟨h, k * 2 + 1, none⟩ g _ (by show g ≠ h; omega)).trans hR4.row, hR4.sl.gx (fun hn a e => by have := HUN.out hn a e; omega) (Gx.set h (k * 2 + 1) w4 _), hR4.off, hR4.few⟩
      have gx5 : Gx g w (w4.setCell ⟨h, k * 2 + 1, none⟩ (.int .i64 z)) := gx4.setNew (by omega) _
      clear cb4 cq4 b4 q4
      go_wp2
      exact bodyPost_ret (v := .agg #[.slice (some ⟨h, 0, none⟩) m c]) (by simp [results, Try.results35, go_sem, hend]) rfl (some_end hgw hR5 gx5 HOW hset hok' (by omega) hm8 (by omega) _)
    · by_cases v2 : v = 2
      · subst v2
        have hend : ∀ u, (w3.setCell ⟨w.heap.size, 0, none⟩ u).cell? ⟨w.heap.size, 0, none⟩ = some u := fun u => cell_set_same cq3
        go_wp2
        exact bodyPost_ret (v := .agg #[.slice none 0 0]) (by simp [results, Try.results35, go_sem, hend]) rfl (some_none hgw hR3 gx3 HOW (by omega) _)
      · have e0 : (v == 0) = false := by simpa using v0
        have e1 : (v == 1) = false := by simpa using v1
        have e2 : (v == 2) = false := by simpa using v2
        have hend : ∀ u, (w3.setCell ⟨w.heap.size, 0, none⟩ u).cell? ⟨w.heap.size, 0, none⟩ = some u := fun u => cell_set_same cq3
        go_wp2
        exact bodyPost_ret (v := .agg #[.slice (some ⟨h, 0, none⟩) m c]) (by simp [results, Try.results35, go_sem, hend]) rfl (some_end hgw hR3 gx3 HOW own3 hok (by omega) hm8 (by omega) _)
end Go.Proofs.Ytembnjanopajgaa
