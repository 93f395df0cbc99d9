/- draws of exits: someExits; draws of the laws -/
import Derived.Test.YtdpojpgdfklfkaaDXb
namespace Go.Proofs.Ytdpojpgdfklfkaa
open Go.RowKit
def ExitsOut (k g p : Nat) (A : Option Addr) (n cap : Nat) (bs : List By) (w : World) (e : Ending) (w' : World) : Prop :=
  ∃ (B D : Option Addr) (m c q d : Nat) (xs : List Cls) (L : List Xit) (p' : Nat), e = .returned (.tuple #[.agg #[.slice B m c], .slice D q d]) ∧ Sl w' B m c xs ∧ m ≤ 8 ∧ (0 < m → ∀ a, B = some a → w.heap.size < a.block) ∧ Sl w' D q d L ∧ q ≤ 8 ∧ (0 < q → ∀ a, D = some a → w.heap.size < a.block) ∧ p' ≤ p + k ∧ Rd w' g p' A n cap bs ∧ Gx g w w'
theorem Sl.setNoneX {α : Type} [Enc α] {w : World} {A : Option Addr} {n cap : Nat} {xs : List α} {b o : Nat} {v u : Value} (h : Sl w A n cap xs) (hc : w.cell? ⟨b, o, none⟩ = some v) (hv : ∀ x : α, v ∉ Enc.cells x) : Sl (w.setCell ⟨b, o, none⟩ u) A n cap xs := by
  refine ⟨h.len, h.cap_, h.max, h.ok, fun hn => ?_⟩
  obtain ⟨b2, off, e, hb, hcell⟩ := h.at_ hn
  refine ⟨b2, off, e, by simpa [World.setCell] using hb, fun j t ht => ?_⟩
  have h1 := hcell j t ht
  by_cases c : b = b2 ∧ o = off + j
  · obtain ⟨rfl, rfl⟩ := c
    rw [hc] at h1
    injection h1 with h1
    subst h1
    obtain ⟨x, _, hx⟩ := List.mem_flatMap.1 (List.mem_of_getElem? ht)
    exact absurd hx (hv x)
  · have hne : b ≠ b2 ∨ o ≠ off + j := by
      by_cases c2 : b = b2
      · exact .inr (fun e => c ⟨c2, e⟩)
      · exact .inl c2
    rw [cell_set_other hne]
    exact h1
/-- the end of a draw of exits: the result's box is written -/
theorem exits_out {w wr : World} {g p0 p : Nat} {A : Option Addr} {n cap : Nat} {bs : List By} {B D : Option Addr} {m c q d : Nat} {xs : List Cls} {L : List Xit} (c0 : wr.cell? ⟨w.heap.size, 0, none⟩ = some (.slice none 0 0)) (S : Sl wr B m c xs) (hm : m ≤ 8) (hab : 0 < m → ∀ a, B = some a → w.heap.size < a.block) (SD : Sl wr D q d L) (hq : q ≤ 8) (hD : 0 < q → ∀ a, D = some a → w.heap.size < a.block) (hp : p ≤ p0 + 60) (R : Rd wr g p A n cap bs) (G : Gx g w wr) (gw : g < w.heap.size) (hA : 0 < n → ∀ a, A = some a → a.block < w.heap.size) (u : Value) :
    ExitsOut 60 g p0 A n cap bs w (.returned (.tuple #[.agg #[.slice B m c], .slice D q d])) (wr.setCell ⟨w.heap.size, 0, none⟩ u) :=
  ⟨B, D, m, c, q, d, xs, L, p, rfl, S.setNoneX c0 (fun x h => by simp [Enc.cells] at h), hm, hab, SD.setNoneX c0 (fun x h => by simp [Enc.cells] at h), hq, hD, hp, R.setNew u (by omega) (fun hn a e => by have := hA hn a e; omega), G.setNewF (Nat.le_refl _) u⟩
set_option maxHeartbeats 4000000 in
set_option maxRecDepth 100000 in
theorem someExits_any (g p : Nat) (A : Option Addr) (n cap : Nat) (bs : List By) (w : World) (hp : p ≤ 700000) (hR : Rd w g p A n cap bs) :
    Calls Try.prog 18 #[.pointer (some ⟨g, 0, none⟩)] w (ExitsOut 60 g p A n cap bs w) := by
  have hgw := hR.lt
  have HA : Hid (0 < n → ∀ a, A = some a → a.block < w.heap.size) := fun hn a e => hR.sl.under hn a e
  go_enter Try.func18, Try.ntmps18
  go_wp2_with fail
  obtain ⟨c0, z0, L0⟩ := box1 w (.slice none 0 0) 25
  have f0 : (w.alloc (.cells #[.slice none 0 0] 25)).frozen? ⟨w.heap.size, 0, none⟩ = false := World.frozen?_alloc_at _ _ _ _ rfl
  have R0 := hR.le L0
  have G0 := Gx.of_le (g := g) L0
  have zsW : (w.alloc (.cells #[.slice none 0 0] 25)).heap.size = w.heap.size + 1 := by simp
  clear L0
  generalize w.alloc (.cells #[.slice none 0 0] 25) = W at *
  refine (someTree_any g p A n cap bs W (by omega) R0).mono ?_
  rintro e w1 ⟨B, m, c, p1, xs, rfl, S, hm, hoff, hab0, hp1, R, hg⟩
  have hab : 0 < m → ∀ a, B = some a → w.heap.size < a.block := fun hn a e => by have := hab0 hn a e; omega
  have hgz : w.heap.size ≠ g := by omega
  have c1 := (hg.cell z0 hgz).trans c0
  have f1 := (hg.frozen z0 hgz).trans f0
  have z1 := Nat.lt_of_lt_of_le z0 hg.size
  have G1 := G0.trans hg
  obtain ⟨ct, zt, LB⟩ := box1 w1 (.slice B m c) 25
  have hgt : w1.heap.size ≠ g := by omega
  have c2 := (LB.cell z1).trans c1
  have f2 := (LB.frozen z1).trans f1
  have S2 := S.le LB
  have R2 := R.le LB
  have G2 := G1.trans (Gx.of_le LB)
  have z2 := Nat.lt_of_lt_of_le z1 LB.size
  have hoffB : 0 < m → Off g B := fun hn a e => by have := hab hn a e; omega
  have HBU : Hid (0 < m → ∀ a, B = some a → a.block < (w1.alloc (.cells #[.slice B m c] 25)).heap.size) := fun hn a e => S2.under hn a e
  clear c0 f0 R0 G0 c1 f1 G1 S R hg hoff hab0 LB hR
  go_wp2_with fail
  generalize w1.alloc (.cells #[.slice B m c] 25) = W2 at *
  generalize w1.heap.size = tb at *
  refine (goodExits_any B m c g p1 A n cap bs W2 hm (by omega) R2).mono ?_
  rintro e w2 ⟨v, L, p2, rfl, O, hok, hl8, hp2, R3, hg3⟩
  have c3 := (hg3.cell z2 hgz).trans c2
  have f3 := (hg3.frozen z2 hgz).trans f2
  have t3 := (hg3.cell zt hgt).trans ct
  have z3 := Nat.lt_of_lt_of_le z2 hg3.size
  have zt3 := Nat.lt_of_lt_of_le zt hg3.size
  have S3 := S2.gx hoffB hg3
  have G3 := G2.trans hg3
  clear c2 f2 ct S2 R2 G2 hg3
  rcases Nat.eq_zero_or_pos L.length with h0 | h0
  · have hT : L = [] := List.eq_nil_of_length_eq_zero h0
    subst hT
    obtain ⟨A4, c4, rfl⟩ := own_form O
    have SL : Sl w2 A4 0 c4 ([] : List Xit) := Sl.of_own O rfl (by decide) hok
    clear O hok h0 hl8
    have HF := Lib.hid (fun u => exits_out (p0 := p) (p := p2) c3 S3 hm hab SL (by omega) (fun h => absurd h (by omega)) (by omega) R3 G3 hgw HA.out u)
    have hend : ∀ u, (w2.setCell ⟨w.heap.size, 0, none⟩ u).cell? ⟨w.heap.size, 0, none⟩ = some u := fun u => cell_set_same c3
    go_wp2
    exact bodyPost_ret (v := .tuple #[.agg #[.slice B m c], .slice A4 0 c4]) (by simp [results, Try.results18, go_sem, hend]) rfl (HF.out _)
  · obtain ⟨j, hj⟩ : ∃ j, L.length = j + 1 := ⟨L.length - 1, by omega⟩
    have HJ := Lib.hid hj
    rw [hj] at O
    obtain ⟨b, cp, rfl⟩ := own_some O
    have hbb := O.lt b rfl
    have hbg : b ≠ g := by omega
    have hj7 : j ≤ 7 := by omega
    have HOK := Lib.hid hok
    have hbw : w.heap.size < b := by omega
    have htbb : tb < b := by omega
    have hW2b : W2.heap.size ≤ b := hbb.1
    clear hj h0 hl8 hok
    have hj1 : (0 : Int) < ((j + 1 : Nat) : Int) := by omega
    go_wp2_with fail
    refine (pick_any ((j + 1 : Nat) : Int) g p2 A n cap bs w2 (by omega) (by omega) (by omega) R3).mono ?_
    rintro e w3 ⟨x, rfl, hx0, hx1, R4, hg4⟩
    have O4 := O.kept hg4 (.inr (fun e => hbg (by injection e)))
    have c4 := (hg4.cell z3 hgz).trans c3
    have f4 := (hg4.frozen z3 hgz).trans f3
    have t4 := (hg4.cell zt3 hgt).trans t3
    have z4 := Nat.lt_of_lt_of_le z3 hg4.size
    have zt4 := Nat.lt_of_lt_of_le zt3 hg4.size
    have S4 := S3.gx hoffB hg4
    have G4 := G3.trans hg4
    obtain ⟨k, rfl⟩ := Int.eq_ofNat_of_zero_le hx0
    have hk : k < j + 1 := by rcases hx1 with h | h <;> omega
    have hk0 : (0 : Int) ≤ (k : Int) := by omega
    have hkn : (k : Int) < (j : Int) + 1 := by omega
    have hkx : k < L.length := by have := HJ.out; omega
    clear O R3 c3 f3 t3 S3 G3 hg4 hx1 hx0 z3 zt3
    go_wp2_with fail
    refine (pick_any 24 g (p2 + 1) A n cap bs w3 (by omega) (by omega) (by omega) R4).mono ?_
    rintro e w4 ⟨y, rfl, hy0, hy1, R5, hg5⟩
    replace O4 := O4.kept hg5 (.inr (fun e => hbg (by injection e)))
    replace c4 := (hg5.cell z4 hgz).trans c4
    replace f4 := (hg5.frozen z4 hgz).trans f4
    replace t4 := (hg5.cell zt4 hgt).trans t4
    replace z4 := Nat.lt_of_lt_of_le z4 hg5.size
    replace zt4 := Nat.lt_of_lt_of_le zt4 hg5.size
    replace S4 := S4.gx hoffB hg5
    replace G4 := G4.trans hg5
    replace R4 := R5
    clear R5 hg5 hy1 hy0
    by_cases hy0 : y = 0
    · subst hy0
      go_wp2_with fail
      refine (one_lit [-1, 4, 2] 3 _ _ g (p2 + 1 + 1) A n cap bs w4 _ rfl rfl (by decide) (by decide) (by intro x hx; simp at hx; constructor <;> omega) (by omega) rfl R4).mono ?_
      rintro e w5 ⟨s, rfl, hs, R5, hg5⟩
      have hso : -9223372036854775808 ≤ s ∧ s ≤ 9223372036854775807 := by simp at hs; omega
      have O5 := O4.kept hg5 (.inr (fun e => hbg (by injection e)))
      have c5 := (hg5.cell z4 hgz).trans c4
      have f5 := (hg5.frozen z4 hgz).trans f4
      have t5 := (hg5.cell zt4 hgt).trans t4
      have z5 := Nat.lt_of_lt_of_le z4 hg5.size
      have zt5 := Nat.lt_of_lt_of_le zt4 hg5.size
      have S5 := S4.gx hoffB hg5
      have G5 := G4.trans hg5
      have hcw : w5.cell? ⟨b, k * 3 + 0, none⟩ = some (.int .i64 L[k].kind) := by rw [O5.cellAt _ (by show _ < (j + 1) * 3; omega)]; exact flat_at L k hkx 0 (by decide)
      have hfw := O5.frozenAt (k * 3 + 0)
      have h1 := (O5.stored (k * 3 + 0) (.int .i64 s)).1
      have h2 := flat_xit_kind L k hkx s
      simp only [Nat.add_zero] at h1 h2 hcw hfw
      rw [h2] at h1
      have HOK2 : Hid (∀ x ∈ L.set k {L[k] with kind := s}, Enc.ok x) := fun x hx => by
        rcases List.mem_or_eq_of_mem_set hx with h | rfl
        · exact HOK.out x h
        · have hq := HOK.out _ (List.getElem_mem hkx)
          exact ⟨hso.1, hso.2, hq.2.2.1, hq.2.2.2.1, hq.2.2.2.2.1, hq.2.2.2.2.2⟩
      have SDh := Lib.hid (Sl.of_own h1 rfl (by decide) HOK2.out)
      have HR6 := Lib.hid (R5.setNew (o := k * 3 + 0) (.int .i64 s) hbg (fun hn a e => by have := HA.out hn a e; omega))
      have HS6 := Lib.hid (S5.grown (grown_set w5 b (k * 3 + 0) (.int .i64 s)) (fun hn a e e2 => by have e3 : a.block = b := (by injection e2); have := HBU.out hn a e; omega))
      have HG6 := Lib.hid (G5.setNewF (b := b) (o := k * 3 + 0) (by omega) (.int .i64 s))
      have c6 : (w5.setCell ⟨b, k * 3 + 0, none⟩ (.int .i64 s)).cell? ⟨w.heap.size, 0, none⟩ = some (.slice none 0 0) := (cell_set_other (.inl (by omega))).trans c5
      have f6 : (w5.setCell ⟨b, k * 3 + 0, none⟩ (.int .i64 s)).frozen? ⟨w.heap.size, 0, none⟩ = false := ((Gx.set b (k * 3 + 0) w5 (.int .i64 s)).frozen z5 (by omega)).trans f5
      have t6 : (w5.setCell ⟨b, k * 3 + 0, none⟩ (.int .i64 s)).cell? ⟨tb, 0, none⟩ = some (.slice B m c) := (cell_set_other (.inl (by omega))).trans t5
      simp only [Nat.add_zero] at SDh HR6 HS6 HG6 c6 f6 t6
      clear R4 O4 c4 f4 t4 z4 zt4 S4 G4 hg5 hs R5 c5 f5 t5 S5 G5 O5 h1 h2
      have SD := SDh.out
      have R6 := HR6.out
      have S6 := HS6.out
      have G6 := HG6.out
      have HF := Lib.hid (fun u => exits_out (p0 := p) (p := (p2 + 1 + 1 + 1)) c6 S6 hm hab SD (by omega) (fun _ a e => by injection e with e; rw [← e]; exact hbw) (by omega) R6 G6 hgw HA.out u)
      have hend : ∀ u, ((w5.setCell ⟨b, k * 3, none⟩ (.int .i64 s)).setCell ⟨w.heap.size, 0, none⟩ u).cell? ⟨w.heap.size, 0, none⟩ = some u := fun u => cell_set_same c6
      go_wp2
      exact bodyPost_ret (v := .tuple #[.agg #[.slice B m c], .slice (some ⟨b, 0, none⟩) (j + 1) cp]) (by simp [results, Try.results18, go_sem, hend]) rfl (HF.out _)
    have yb0 : (y == 0) = false := by simpa using hy0
    clear hy0
    by_cases hy1 : y = 1
    · subst hy1
      go_wp2_with fail
      refine (one_lit [-1, 100] 2 _ _ g (p2 + 1 + 1) A n cap bs w4 _ rfl rfl (by decide) (by decide) (by intro x hx; simp at hx; constructor <;> omega) (by omega) rfl R4).mono ?_
      rintro e w5 ⟨s, rfl, hs, R5, hg5⟩
      have hso : -9223372036854775808 ≤ s ∧ s ≤ 9223372036854775807 := by simp at hs; omega
      have O5 := O4.kept hg5 (.inr (fun e => hbg (by injection e)))
      have c5 := (hg5.cell z4 hgz).trans c4
      have f5 := (hg5.frozen z4 hgz).trans f4
      have t5 := (hg5.cell zt4 hgt).trans t4
      have z5 := Nat.lt_of_lt_of_le z4 hg5.size
      have zt5 := Nat.lt_of_lt_of_le zt4 hg5.size
      have S5 := S4.gx hoffB hg5
      have G5 := G4.trans hg5
      have hcw : w5.cell? ⟨b, k * 3 + 1, none⟩ = some (.int .i64 L[k].a) := by rw [O5.cellAt _ (by show _ < (j + 1) * 3; omega)]; exact flat_at L k hkx 1 (by decide)
      have hfw := O5.frozenAt (k * 3 + 1)
      have h1 := (O5.stored (k * 3 + 1) (.int .i64 s)).1
      have h2 := flat_xit_a L k hkx s
      rw [h2] at h1
      have HOK2 : Hid (∀ x ∈ L.set k {L[k] with a := s}, Enc.ok x) := fun x hx => by
        rcases List.mem_or_eq_of_mem_set hx with h | rfl
        · exact HOK.out x h
        · have hq := HOK.out _ (List.getElem_mem hkx)
          exact ⟨hq.1, hq.2.1, hso.1, hso.2, hq.2.2.2.2.1, hq.2.2.2.2.2⟩
      have SDh := Lib.hid (Sl.of_own h1 rfl (by decide) HOK2.out)
      have HR6 := Lib.hid (R5.setNew (o := k * 3 + 1) (.int .i64 s) hbg (fun hn a e => by have := HA.out hn a e; omega))
      have HS6 := Lib.hid (S5.grown (grown_set w5 b (k * 3 + 1) (.int .i64 s)) (fun hn a e e2 => by have e3 : a.block = b := (by injection e2); have := HBU.out hn a e; omega))
      have HG6 := Lib.hid (G5.setNewF (b := b) (o := k * 3 + 1) (by omega) (.int .i64 s))
      have c6 : (w5.setCell ⟨b, k * 3 + 1, none⟩ (.int .i64 s)).cell? ⟨w.heap.size, 0, none⟩ = some (.slice none 0 0) := (cell_set_other (.inl (by omega))).trans c5
      have f6 : (w5.setCell ⟨b, k * 3 + 1, none⟩ (.int .i64 s)).frozen? ⟨w.heap.size, 0, none⟩ = false := ((Gx.set b (k * 3 + 1) w5 (.int .i64 s)).frozen z5 (by omega)).trans f5
      have t6 : (w5.setCell ⟨b, k * 3 + 1, none⟩ (.int .i64 s)).cell? ⟨tb, 0, none⟩ = some (.slice B m c) := (cell_set_other (.inl (by omega))).trans t5
      clear R4 O4 c4 f4 t4 z4 zt4 S4 G4 hg5 hs R5 c5 f5 t5 S5 G5 O5 h1 h2
      have SD := SDh.out
      have R6 := HR6.out
      have S6 := HS6.out
      have G6 := HG6.out
      have HF := Lib.hid (fun u => exits_out (p0 := p) (p := (p2 + 1 + 1 + 1)) c6 S6 hm hab SD (by omega) (fun _ a e => by injection e with e; rw [← e]; exact hbw) (by omega) R6 G6 hgw HA.out u)
      have hend : ∀ u, ((w5.setCell ⟨b, k * 3 + 1, none⟩ (.int .i64 s)).setCell ⟨w.heap.size, 0, none⟩ u).cell? ⟨w.heap.size, 0, none⟩ = some u := fun u => cell_set_same c6
      go_wp2
      exact bodyPost_ret (v := .tuple #[.agg #[.slice B m c], .slice (some ⟨b, 0, none⟩) (j + 1) cp]) (by simp [results, Try.results18, go_sem, hend]) rfl (HF.out _)
    have yb1 : (y == 1) = false := by simpa using hy1
    clear hy1
    by_cases hy2 : y = 2
    · subst hy2
      go_wp2_with fail
      refine (one_lit [5, 100, -1] 3 _ _ g (p2 + 1 + 1) A n cap bs w4 _ rfl rfl (by decide) (by decide) (by intro x hx; simp at hx; constructor <;> omega) (by omega) rfl R4).mono ?_
      rintro e w5 ⟨s, rfl, hs, R5, hg5⟩
      have hso : -9223372036854775808 ≤ s ∧ s ≤ 9223372036854775807 := by simp at hs; omega
      have O5 := O4.kept hg5 (.inr (fun e => hbg (by injection e)))
      have c5 := (hg5.cell z4 hgz).trans c4
      have f5 := (hg5.frozen z4 hgz).trans f4
      have t5 := (hg5.cell zt4 hgt).trans t4
      have z5 := Nat.lt_of_lt_of_le z4 hg5.size
      have zt5 := Nat.lt_of_lt_of_le zt4 hg5.size
      have S5 := S4.gx hoffB hg5
      have G5 := G4.trans hg5
      have hcw : w5.cell? ⟨b, k * 3 + 2, none⟩ = some (.int .i64 L[k].b) := by rw [O5.cellAt _ (by show _ < (j + 1) * 3; omega)]; exact flat_at L k hkx 2 (by decide)
      have hfw := O5.frozenAt (k * 3 + 2)
      have h1 := (O5.stored (k * 3 + 2) (.int .i64 s)).1
      have h2 := flat_xit_b L k hkx s
      rw [h2] at h1
      have HOK2 : Hid (∀ x ∈ L.set k {L[k] with b := s}, Enc.ok x) := fun x hx => by
        rcases List.mem_or_eq_of_mem_set hx with h | rfl
        · exact HOK.out x h
        · have hq := HOK.out _ (List.getElem_mem hkx)
          exact ⟨hq.1, hq.2.1, hq.2.2.1, hq.2.2.2.1, hso.1, hso.2⟩
      have SDh := Lib.hid (Sl.of_own h1 rfl (by decide) HOK2.out)
      have HR6 := Lib.hid (R5.setNew (o := k * 3 + 2) (.int .i64 s) hbg (fun hn a e => by have := HA.out hn a e; omega))
      have HS6 := Lib.hid (S5.grown (grown_set w5 b (k * 3 + 2) (.int .i64 s)) (fun hn a e e2 => by have e3 : a.block = b := (by injection e2); have := HBU.out hn a e; omega))
      have HG6 := Lib.hid (G5.setNewF (b := b) (o := k * 3 + 2) (by omega) (.int .i64 s))
      have c6 : (w5.setCell ⟨b, k * 3 + 2, none⟩ (.int .i64 s)).cell? ⟨w.heap.size, 0, none⟩ = some (.slice none 0 0) := (cell_set_other (.inl (by omega))).trans c5
      have f6 : (w5.setCell ⟨b, k * 3 + 2, none⟩ (.int .i64 s)).frozen? ⟨w.heap.size, 0, none⟩ = false := ((Gx.set b (k * 3 + 2) w5 (.int .i64 s)).frozen z5 (by omega)).trans f5
      have t6 : (w5.setCell ⟨b, k * 3 + 2, none⟩ (.int .i64 s)).cell? ⟨tb, 0, none⟩ = some (.slice B m c) := (cell_set_other (.inl (by omega))).trans t5
      clear R4 O4 c4 f4 t4 z4 zt4 S4 G4 hg5 hs R5 c5 f5 t5 S5 G5 O5 h1 h2
      have SD := SDh.out
      have R6 := HR6.out
      have S6 := HS6.out
      have G6 := HG6.out
      have HF := Lib.hid (fun u => exits_out (p0 := p) (p := (p2 + 1 + 1 + 1)) c6 S6 hm hab SD (by omega) (fun _ a e => by injection e with e; rw [← e]; exact hbw) (by omega) R6 G6 hgw HA.out u)
      have hend : ∀ u, ((w5.setCell ⟨b, k * 3 + 2, none⟩ (.int .i64 s)).setCell ⟨w.heap.size, 0, none⟩ u).cell? ⟨w.heap.size, 0, none⟩ = some u := fun u => cell_set_same c6
      go_wp2
      exact bodyPost_ret (v := .tuple #[.agg #[.slice B m c], .slice (some ⟨b, 0, none⟩) (j + 1) cp]) (by simp [results, Try.results18, go_sem, hend]) rfl (HF.out _)
    have yb2 : (y == 2) = false := by simpa using hy2
    clear hy2
    have SD := Sl.of_own O4 rfl (by decide) HOK.out
    clear O4
    have HF := Lib.hid (fun u => exits_out (p0 := p) (p := (p2 + 1 + 1)) c4 S4 hm hab SD (by omega) (fun _ a e => by injection e with e; rw [← e]; exact hbw) (by omega) R4 G4 hgw HA.out u)
    have hend : ∀ u, (w4.setCell ⟨w.heap.size, 0, none⟩ u).cell? ⟨w.heap.size, 0, none⟩ = some u := fun u => cell_set_same c4
    go_wp2
    exact bodyPost_ret (v := .tuple #[.agg #[.slice B m c], .slice (some ⟨b, 0, none⟩) (j + 1) cp]) (by simp [results, Try.results18, go_sem, hend]) rfl (HF.out _)
/-- a tree and exits that were drawn for a law -/
def DrawnXs (w : World) (e : Ending) (w' : World) : Prop :=
  ∃ (B D : Option Addr) (m c q d : Nat) (xs : List Cls) (L : List Xit), e = .returned (.tuple #[.agg #[.slice B m c], .slice D q d]) ∧ Sl w' B m c xs ∧ m ≤ 8 ∧ Sl w' D q d L ∧ q ≤ 8 ∧ Le w w'
set_option maxHeartbeats 1000000 in
set_option maxRecDepth 100000 in
theorem drawValidExits_any (A : Option Addr) (n cap : Nat) (bs : List By) (w : World) (hR : Sl w A n cap bs) : Calls Try.prog 6 #[.slice A n cap] w (DrawnXs w) := by
  go_enter Try.func6, Try.ntmps6
  go_wp2_with fail
  obtain ⟨c0, z0, L0⟩ := box1 w (.slice none 0 0) 25
  have f0 : (w.alloc (.cells #[.slice none 0 0] 25)).frozen? ⟨w.heap.size, 0, none⟩ = false := World.frozen?_alloc_at _ _ _ _ rfl
  have S0 := hR.le L0
  generalize w.alloc (.cells #[.slice none 0 0] 25) = W at *
  refine (newReader_any A n cap bs W S0).mono ?_
  rintro e w1 ⟨g, A1, n1, k1, bs1, rfl, hg, R1, hle⟩
  have hz1 : w.heap.size < w1.heap.size := Nat.lt_of_lt_of_le z0 hle.size
  replace c0 := (hle.cell z0).trans c0
  replace f0 := (hle.frozen z0).trans f0
  replace L0 := L0.trans hle
  clear S0
  have hgz : w.heap.size ≠ g := by omega
  go_wp2_with fail
  refine (someExits_any g 0 A1 n1 k1 bs1 w1 (by omega) R1).mono ?_
  rintro e w2 ⟨B, D, m, c, q, d, xs, L, p2, rfl, S2, hm, hab, SD, hq, hD, hp2, R2, hg2⟩
  replace c0 := (hg2.cell hz1 hgz).trans c0
  replace f0 := (hg2.frozen hz1 hgz).trans f0
  have L2 := Gx.le L0 hg2 (by omega)
  have hend : ∀ u, (w2.setCell ⟨w.heap.size, 0, none⟩ u).cell? ⟨w.heap.size, 0, none⟩ = some u := fun u => cell_set_same c0
  have hSx : ∀ u, Sl (w2.setCell ⟨w.heap.size, 0, none⟩ u) B m c xs := fun u => S2.setNoneX c0 (fun x h => by simp [Enc.cells] at h)
  have hSy : ∀ u, Sl (w2.setCell ⟨w.heap.size, 0, none⟩ u) D q d L := fun u => SD.setNoneX c0 (fun x h => by simp [Enc.cells] at h)
  clear hle L0 R1 R2 hg2 S2 SD
  go_wp2
  exact bodyPost_ret (v := .tuple #[.agg #[.slice B m c], .slice D q d]) (by simp [results, Try.results6, go_sem, hend]) rfl ⟨B, D, m, c, q, d, xs, L, rfl, hSx _, hm, hSy _, hq, L2.setCell (Nat.le_refl _) _⟩
set_option maxHeartbeats 1000000 in
set_option maxRecDepth 100000 in
theorem drawPopExit_any (A : Option Addr) (n cap : Nat) (bs : List By) (w : World) (hR : Sl w A n cap bs) : Calls Try.prog 15 #[.slice A n cap] w (DrawnXs w) := by
  go_enter Try.func15, Try.ntmps15
  go_wp2_with fail
  obtain ⟨c0, z0, L0⟩ := box1 w (.slice none 0 0) 25
  have f0 : (w.alloc (.cells #[.slice none 0 0] 25)).frozen? ⟨w.heap.size, 0, none⟩ = false := World.frozen?_alloc_at _ _ _ _ rfl
  have S0 := hR.le L0
  generalize w.alloc (.cells #[.slice none 0 0] 25) = W at *
  refine (newReader_any A n cap bs W S0).mono ?_
  rintro e w1 ⟨g, A1, n1, k1, bs1, rfl, hg, R1, hle⟩
  have hz1 : w.heap.size < w1.heap.size := Nat.lt_of_lt_of_le z0 hle.size
  replace c0 := (hle.cell z0).trans c0
  replace f0 := (hle.frozen z0).trans f0
  replace L0 := L0.trans hle
  clear S0
  have hgz : w.heap.size ≠ g := by omega
  go_wp2_with fail
  refine (someExits_any g 0 A1 n1 k1 bs1 w1 (by omega) R1).mono ?_
  rintro e w2 ⟨B, D, m, c, q, d, xs, L, p2, rfl, S2, hm, hab, SD, hq, hD, hp2, R2, hg2⟩
  replace c0 := (hg2.cell hz1 hgz).trans c0
  replace f0 := (hg2.frozen hz1 hgz).trans f0
  have L2 := Gx.le L0 hg2 (by omega)
  have hend : ∀ u, (w2.setCell ⟨w.heap.size, 0, none⟩ u).cell? ⟨w.heap.size, 0, none⟩ = some u := fun u => cell_set_same c0
  have hSx : ∀ u, Sl (w2.setCell ⟨w.heap.size, 0, none⟩ u) B m c xs := fun u => S2.setNoneX c0 (fun x h => by simp [Enc.cells] at h)
  have hSy : ∀ u, Sl (w2.setCell ⟨w.heap.size, 0, none⟩ u) D q d L := fun u => SD.setNoneX c0 (fun x h => by simp [Enc.cells] at h)
  clear hle L0 R1 R2 hg2 S2 SD
  go_wp2
  exact bodyPost_ret (v := .tuple #[.agg #[.slice B m c], .slice D q d]) (by simp [results, Try.results15, go_sem, hend]) rfl ⟨B, D, m, c, q, d, xs, L, rfl, hSx _, hm, hSy _, hq, L2.setCell (Nat.le_refl _) _⟩
end Go.Proofs.Ytdpojpgdfklfkaa
