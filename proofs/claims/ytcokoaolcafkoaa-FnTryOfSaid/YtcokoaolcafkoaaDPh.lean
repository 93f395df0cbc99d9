/- draws: a program and a line of a try -/
import Derived.Test.YtcokoaolcafkoaaDPg
import Derived.Test.YtcokoaolcafkoaaPhB
namespace Go.Proofs.Ytcokoaolcafkoaa
open Go.RowKit
set_option maxHeartbeats 4000000 in
set_option maxRecDepth 100000 in
theorem drawTryOf_any (A : Option Addr) (n cap : Nat) (bs : List By) (w : World) (hR : Sl w A n cap bs) : Calls Try.prog 20 #[.slice A n cap] w (DrawnPL w) := by
  go_enter Try.func20, Try.ntmps20
  go_wp2_with fail
  obtain ⟨c0, z0, L0⟩ := box1 w (.slice none 0 0) 25
  have f0 : (w.alloc (.cells #[.slice none 0 0] 25)).frozen? ⟨w.heap.size, 0, none⟩ = false := World.frozen?_alloc_at _ _ _ _ rfl
  have S0 := hR.le L0
  generalize w.alloc (.cells #[.slice none 0 0] 25) = W at *
  refine (newReader_any A n cap bs W S0).mono ?_
  rintro e w1 ⟨g, A1, n1, k1, bs1, rfl, hg, R1, hle⟩
  have hz1 : w.heap.size < w1.heap.size := Nat.lt_of_lt_of_le z0 hle.size
  have hzg := R1.lt
  replace c0 := (hle.cell z0).trans c0
  replace f0 := (hle.frozen z0).trans f0
  replace L0 := L0.trans hle
  clear S0
  have hgz : w.heap.size ≠ g := by omega
  have hwg : w.heap.size ≤ g := by omega
  go_wp2_with fail
  refine (lineIn_any g 0 A1 n1 k1 bs1 w1 (by omega) R1).mono ?_
  rintro e w2 ⟨B, D, m, c, q, d, xs, L, i, p2, rfl, S2, hm, hab, SD, hq, hD, hi, hp2, R2, hg2⟩
  obtain rfl := SD.len
  replace c0 := (hg2.cell hz1 hgz).trans c0
  replace f0 := (hg2.frozen hz1 hgz).trans f0
  have L2 := Gx.le L0 hg2 (by omega)
  have hs2 := hg2.size
  have z2 : w.heap.size < w2.heap.size := by omega
  have hgt : w2.heap.size ≠ g := by omega
  obtain ⟨ct, zt, LB⟩ := box1 w2 (.slice B m c) 25
  replace c0 := (LB.cell z2).trans c0
  replace f0 := (LB.frozen z2).trans f0
  replace S2 := S2.le LB
  replace SD := SD.le LB
  replace R2 := R2.le LB
  replace L2 := L2.trans LB
  have z0' := Nat.lt_of_lt_of_le z2 LB.size
  have HB : Hid (0 < m → ∀ a, B = some a → w.heap.size < a.block) := fun hn a e => by have := hab hn a e; omega
  have HD : Hid (0 < L.length → ∀ a, D = some a → w.heap.size < a.block) := fun hn a e => by have := hD hn a e; omega
  have hoffB : 0 < m → Off g B := fun hn a e => by have := hab hn a e; omega
  have hoffD : 0 < L.length → Off g D := fun hn a e => by have := hD hn a e; omega
  clear z0 L0 R1 hg2 hle LB hab hD z2
  go_wp2
  generalize w2.alloc (.cells #[.slice B m c] 25) = W2 at *
  generalize w2.heap.size = tb at *
  go_loopw [9] (fun i wr => ∃ (j p' : Nat), i = .int .i64 j ∧ j ≤ L.length ∧ p' ≤ 500110 + j ∧ Rd wr g p' A1 n1 k1 bs1 ∧ wr.cell? ⟨w.heap.size, 0, none⟩ = some (.slice none 0 0) ∧ wr.frozen? ⟨w.heap.size, 0, none⟩ = false ∧ wr.cell? ⟨tb, 0, none⟩ = some (.slice B m c) ∧ Sl wr B m c xs ∧ Sl wr D L.length d L ∧ Le w wr ∧ w.heap.size < wr.heap.size ∧ tb < wr.heap.size) (fun i _ => L.length - (intOf i).toNat)
  case atStart => exact ⟨0, p2, rfl, Nat.zero_le _, by omega, R2, c0, f0, ct, S2, SD, L2, z0', zt⟩
  case round =>
    clear R2 c0 f0 ct S2 SD L2 z0' zt
    obtain ⟨j, p', rfl, hj, hp', R, c0, f0, ct, S, SD, L2, z0, zt⟩ := hrel
    by_cases hlt : j < L.length
    · obtain ⟨b, off, rfl, hb, d0, d1, -⟩ := SD.lin_at hlt
      have hji : (j : Int) < (L.length : Int) := by omega
      by_cases h7 : L[j].kind = 7
      · rw [h7] at d1
        clear h7
        go_wp2_with fail
        refine (pick_any 3 g p' A1 n1 k1 bs1 wr (by omega) (by omega) (by omega) R).mono ?_
        rintro e w5 ⟨y, rfl, _, _, R5, hg5⟩
        have PE := hg5
        replace c0 := (hg5.cell z0 hgz).trans c0
        replace f0 := (hg5.frozen z0 hgz).trans f0
        replace ct := (hg5.cell zt (by omega)).trans ct
        replace S := S.gx hoffB hg5
        replace SD := SD.gx hoffD hg5
        replace L2 := Gx.le L2 hg5 (by omega)
        replace z0 := Nat.lt_of_lt_of_le z0 hg5.size
        replace zt := Nat.lt_of_lt_of_le zt hg5.size
        clear R hg5 PE
        by_cases hy : y = 0
        · subst hy
          have hend : ∀ u, (w5.setCell ⟨w.heap.size, 0, none⟩ u).cell? ⟨w.heap.size, 0, none⟩ = some u := fun u => cell_set_same c0
          have HRES : Hid (DrawnPL w (.returned (.tuple #[.agg #[.slice B m c], .slice (some ⟨b, off, none⟩) L.length d, .int .i64 (j : Int)])) (w5.setCell ⟨w.heap.size, 0, none⟩ (.slice B m c))) := ⟨B, _, m, c, L.length, d, xs, L, j, rfl, S.gx (fun h a e => by have := HB.out h a e; omega) (Gx.set w.heap.size 0 w5 _), hm, SD.gx (fun h a e => by have := HD.out h a e; omega) (Gx.set w.heap.size 0 w5 _), hq, by omega, L2.setCell (Nat.le_refl _) _⟩
          clear S SD L2 R5
          go_wp2
          exact bodyPost_ret (v := .tuple #[.agg #[.slice B m c], .slice (some ⟨b, off, none⟩) L.length d, .int .i64 (j : Int)]) (by simp [results, Try.results20, go_sem, hend]) rfl HRES.out
        · have hyb : (y == 0) = false := by simpa using hy
          go_wp2
          go_roundw
          case rel => exact ⟨j + 1, _, by go_num, by omega, by omega, R5, c0, f0, ct, S, SD, L2, z0, zt⟩
          case measure => simp [intOf]; omega
      have h7b : (L[j].kind == 7) = false := beq_eq_false_iff_ne.2 h7
      clear h7
      generalize L[j].kind = vk at *
      go_wp2_with fail
      refine (follows_any vk wr).mono ?_
      rintro e w4 ⟨rfl, rfl⟩
      cases hf : fol vk
      · go_wp2
        go_roundw
        case rel => exact ⟨j + 1, p', by go_num, by omega, by omega, R, c0, f0, ct, S, SD, L2, z0, zt⟩
        case measure => simp [intOf]; omega
      · go_wp2_with fail
        refine (pick_any 3 g p' A1 n1 k1 bs1 wr (by omega) (by omega) (by omega) R).mono ?_
        rintro e w5 ⟨y, rfl, _, _, R5, hg5⟩
        have PE := hg5
        replace c0 := (hg5.cell z0 hgz).trans c0
        replace f0 := (hg5.frozen z0 hgz).trans f0
        replace ct := (hg5.cell zt (by omega)).trans ct
        replace S := S.gx hoffB hg5
        replace SD := SD.gx hoffD hg5
        replace L2 := Gx.le L2 hg5 (by omega)
        replace z0 := Nat.lt_of_lt_of_le z0 hg5.size
        replace zt := Nat.lt_of_lt_of_le zt hg5.size
        clear R hg5 PE
        by_cases hy : y = 0
        · subst hy
          have hend : ∀ u, (w5.setCell ⟨w.heap.size, 0, none⟩ u).cell? ⟨w.heap.size, 0, none⟩ = some u := fun u => cell_set_same c0
          have HRES : Hid (DrawnPL w (.returned (.tuple #[.agg #[.slice B m c], .slice (some ⟨b, off, none⟩) L.length d, .int .i64 (j : Int)])) (w5.setCell ⟨w.heap.size, 0, none⟩ (.slice B m c))) := ⟨B, _, m, c, L.length, d, xs, L, j, rfl, S.gx (fun h a e => by have := HB.out h a e; omega) (Gx.set w.heap.size 0 w5 _), hm, SD.gx (fun h a e => by have := HD.out h a e; omega) (Gx.set w.heap.size 0 w5 _), hq, by omega, L2.setCell (Nat.le_refl _) _⟩
          clear S SD L2 R5
          go_wp2
          exact bodyPost_ret (v := .tuple #[.agg #[.slice B m c], .slice (some ⟨b, off, none⟩) L.length d, .int .i64 (j : Int)]) (by simp [results, Try.results20, go_sem, hend]) rfl HRES.out
        · have hyb : (y == 0) = false := by simpa using hy
          go_wp2
          go_roundw
          case rel => exact ⟨j + 1, _, by go_num, by omega, by omega, R5, c0, f0, ct, S, SD, L2, z0, zt⟩
          case measure => simp [intOf]; omega
    · have hend : ∀ u, (wr.setCell ⟨w.heap.size, 0, none⟩ u).cell? ⟨w.heap.size, 0, none⟩ = some u := fun u => cell_set_same c0
      have HRES : Hid (DrawnPL w (.returned (.tuple #[.agg #[.slice B m c], .slice D L.length d, .int .i64 i])) (wr.setCell ⟨w.heap.size, 0, none⟩ (.slice B m c))) := ⟨B, D, m, c, L.length, d, xs, L, i, rfl, S.gx (fun h a e => by have := HB.out h a e; omega) (Gx.set w.heap.size 0 wr _), hm, SD.gx (fun h a e => by have := HD.out h a e; omega) (Gx.set w.heap.size 0 wr _), hq, hi, L2.setCell (Nat.le_refl _) _⟩
      clear S SD L2 R
      go_wp2
      exact bodyPost_ret (v := .tuple #[.agg #[.slice B m c], .slice D L.length d, .int .i64 i]) (by simp [results, Try.results20, go_sem, hend]) rfl HRES.out
end Go.Proofs.Ytcokoaolcafkoaa
