/- draws: UnfoldTrace -/
import Derived.Test.YtakkmgeocmndjaaDP
import Derived.Test.YtakkmgeocmndjaaTrN
namespace Go.Proofs.Ytakkmgeocmndjaa
open Go.RowKit
def DrR (w : World) (e : Ending) (w' : World) : Prop := ∃ (B : Option Addr) (m c : Nat) (rs : List Rwf), e = .returned (.slice B m c) ∧ Sl w' B m c rs ∧ m ≤ 12 ∧ Le w w'
theorem own_slR {w : World} {base : Nat} {A : Option Addr} {n c : Nat} {xs : List Rwf} (h : w.ownsRow base 48 3 (.slice A n c) n (xs.flatMap Enc.cells)) (hok : ∀ x ∈ xs, Enc.ok x) : Sl w A n c xs := Sl.of_own h rfl (by decide) hok
set_option maxRecDepth 100000 in
theorem drawUnfoldTrace_any (A : Option Addr) (n cap : Nat) (bs : List By) (w : World) (hR : Sl w A n cap bs) : Calls Try.prog 34 #[.slice A n cap] w (DrR w) := by
  go_enter Try.func34, Try.ntmps34
  go_wp2_with fail
  refine (newReader_any A n cap bs w hR).mono ?_
  rintro e w0 ⟨g, A1, n1, k1, bs1, rfl, hg, R0, hle⟩
  have HA : Hid (0 < n1 → ∀ a, A1 = some a → a.block < w0.heap.size) := fun hn a e => R0.sl.under hn a e
  have hgw := R0.lt
  go_wp2_with fail
  refine (goodTrace_any g 0 A1 n1 k1 bs1 w0 (by omega) R0).mono ?_
  rintro e wa ⟨v, xs, p1, rfl, O, hok, hl, hp1, R, G⟩
  obtain ⟨A2, c2, rfl⟩ := own_form O
  have SX := own_sl O hok
  have sa := G.size
  clear R0 O
  go_wp2_with fail
  refine (sfold_any _ _ _ xs _ SX (by omega)).mono ?_
  rintro e w1 ⟨v1, rfl, D, hle1⟩
  have hlr := (foldK_len xs xs.length).1
  have O1 : w1.ownsRow wa.heap.size 48 3 v1 (foldL xs).length ((foldL xs).flatMap Enc.cells) := D.row
  have HOK := Lib.hid D.ok
  have R1 := R.le hle1
  have G1 := G.trans (Gx.of_le hle1)
  have s1 := hle1.size
  have hlr2 : (foldL xs).length ≤ 12 := by show (foldK xs xs.length).length ≤ 12; omega
  clear D R G hle1 SX hok hlr
  generalize foldL xs = rs at *
  rcases Nat.eq_zero_or_pos rs.length with h0 | h0
  · have hx : rs = [] := List.eq_nil_of_length_eq_zero h0
    subst hx
    obtain ⟨A3, c3, rfl⟩ := own_form O1
    replace O1 : w1.ownsRow wa.heap.size 48 3 (.slice A3 0 c3) 0 (([] : List Rwf).flatMap Enc.cells) := O1
    have S := Lib.hid (own_slR O1 HOK.out)
    have L := Gx.le hle G1 hg
    clear h0 O1 R1 G1
    go_wp2
    go_ret
    exact ⟨_, _, _, [], rfl, S.out, by omega, L⟩
  · obtain ⟨m, hm⟩ : ∃ m, rs.length = m + 1 := ⟨rs.length - 1, by omega⟩
    rw [hm] at O1
    obtain ⟨b, c3, rfl⟩ := own_some O1
    have HM := Lib.hid hm
    have hm12 : m ≤ 11 := by omega
    have hbb := (O1.lt b rfl)
    have hbg : b ≠ g := by omega
    have HAB : Hid (0 < n1 → ∀ a, A1 = some a → a.block ≠ b) := fun hn a e => by have := HA.out hn a e; omega
    clear hm h0 hlr2
    go_wp2_with fail
    refine (pick_any ((m + 1 : Nat) : Int) g p1 A1 n1 k1 bs1 w1 (by omega) (by omega) (by omega) R1).mono ?_
    rintro e w2 ⟨x, rfl, hx0, hx1, R2, hg2⟩
    have O2 := O1.kept hg2 (.inr (fun e => hbg (by injection e)))
    have G2 := G1.trans hg2
    obtain ⟨k, rfl⟩ := Int.eq_ofNat_of_zero_le hx0
    have hk : k < m + 1 := by rcases hx1 with h | h <;> omega
    clear O1 R1 G1 hg2 hx0 hx1
    go_wp2_with fail
    refine (pick_any 12 g (p1 + 1) A1 n1 k1 bs1 w2 (by omega) (by omega) (by omega) R2).mono ?_
    rintro e w3 ⟨y, rfl, hy0, hy1, R3, hg3⟩
    have O3 := O2.kept hg3 (.inr (fun e => hbg (by injection e)))
    have G3 := G2.trans hg3
    clear O2 R2 G2 hg3 hy1
    have hkx : k < rs.length := by have := HM.out; omega
    by_cases hy : y = 0
    · subst hy
      go_wp2_with fail
      refine (one_lit [0, -1, 20, 5] 4 _ _ g (p1 + 1 + 1) A1 n1 k1 bs1 w3 _ rfl rfl (by decide) (by decide) (by intro x hx; simp at hx; constructor <;> omega) (by omega) rfl R3).mono ?_
      rintro e w4 ⟨s, rfl, hs, R4, hg4⟩
      have hso : -9223372036854775808 ≤ s ∧ s ≤ 9223372036854775807 := by simp at hs; omega
      have O4 := O3.kept hg4 (.inr (fun e => hbg (by injection e)))
      have G4 := G3.trans hg4
      have hc0 : w4.cell? ⟨b, k * 3 + 2, none⟩ = some (.int .i64 rs[k].times) := by rw [O4.cellAt _ (by omega)]; exact flat_at rs k hkx 2 (by decide)
      have hf0 := O4.frozenAt (k * 3 + 2)
      have h1 := (O4.stored (k * 3 + 2) (.int .i64 s)).1
      rw [flat_rwf_times rs k hkx s] at h1
      have HOK2 : Hid (∀ x ∈ rs.set k {rs[k] with times := s}, Enc.ok x) := fun x hx => by
        rcases List.mem_or_eq_of_mem_set hx with h | rfl
        · exact HOK.out x h
        · have h := HOK.out _ (List.getElem_mem hkx)
          exact ⟨h.1, h.2.1, h.2.2.1, hso.1, hso.2⟩
      have HS := Lib.hid (own_slR h1 HOK2.out)
      have HG := Lib.hid (Gx.le hle (G4.setNewF (b := b) (o := k * 3 + 2) (by omega) (.int .i64 s)) hg)
      clear h1 O4 G4 R4 O3 G3 R3 hs hg4
      go_wp2
      go_ret
      exact ⟨_, _, _, _, rfl, HS.out, by omega, HG.out⟩
    · have hyb : (y == 0) = false := by simpa using hy
      by_cases hy2 : y = 1
      · subst hy2
        have hz0 : 0 < rs.length := by omega
        have e0 : w3.cell? ⟨b, 0, none⟩ = some (.string rs[0].fn) := by rw [O3.cellAt _ (by omega)]; exact flat_at rs 0 hz0 0 (by decide)
        have e1 : w3.cell? ⟨b, 1, none⟩ = some (.int .i64 rs[0].line) := by rw [O3.cellAt _ (by omega)]; exact flat_at rs 0 hz0 1 (by decide)
        have hc0 : w3.cell? ⟨b, k * 3, none⟩ = some (.string rs[k].fn) := by rw [O3.cellAt _ (by omega)]; exact flat_at rs k hkx 0 (by decide)
        have hc1 : w3.cell? ⟨b, k * 3 + 1, none⟩ = some (.int .i64 rs[k].line) := by rw [O3.cellAt _ (by omega)]; exact flat_at rs k hkx 1 (by decide)
        have hf0 := O3.frozenAt (k * 3)
        have hf1 := O3.frozenAt (k * 3 + 1)
        have hb0 : (0 : Int) < (m : Int) + 1 := by omega
        have h1 := (O3.stored (k * 3) (.string rs[0].fn)).1
        rw [flat_rwf_fn rs k hkx rs[0].fn] at h1
        have hok0 := HOK.out _ (List.getElem_mem hz0)
        have HOK1 : ∀ x ∈ rs.set k {rs[k] with fn := rs[0].fn}, Enc.ok x := fun x hx => by
          rcases List.mem_or_eq_of_mem_set hx with h | rfl
          · exact HOK.out x h
          · have h := HOK.out _ (List.getElem_mem hkx)
            exact ⟨hok0.1, h.2.1, h.2.2.1, h.2.2.2.1, h.2.2.2.2⟩
        have hkl : k < (rs.set k {rs[k] with fn := rs[0].fn}).length := by rw [List.length_set]; exact hkx
        generalize rs.set k {rs[k] with fn := rs[0].fn} = rs1 at *
        have h2 := (h1.stored (k * 3 + 1) (.int .i64 rs[0].line)).1
        rw [flat_rwf_line rs1 k hkl rs[0].line] at h2
        have HOK2 : ∀ x ∈ rs1.set k {rs1[k] with line := rs[0].line}, Enc.ok x := fun x hx => by
          rcases List.mem_or_eq_of_mem_set hx with h | rfl
          · exact HOK1 x h
          · have h := HOK1 _ (List.getElem_mem hkl)
            exact ⟨h.1, hok0.2.1, hok0.2.2.1, h.2.2.2.1, h.2.2.2.2⟩
        have HS := Lib.hid (own_slR h2 HOK2)
        have HG := Lib.hid (Gx.le hle ((G3.setNewF (b := b) (o := k * 3) (by omega) (.string rs[0].fn)).setNewF (b := b) (o := k * 3 + 1) (by omega) (.int .i64 rs[0].line)) hg)
        clear h1 h2 HOK1 HOK2 O3 G3 R3
        go_wp2
        go_ret
        exact ⟨_, _, _, _, rfl, HS.out, by omega, HG.out⟩
      · have hyc : (y == 1) = false := by simpa using hy2
        have HS := Lib.hid (own_slR O3 HOK.out)
        have HG := Lib.hid (Gx.le hle G3 hg)
        clear hy hy2 hy0 O3 G3 R3
        go_wp2
        go_ret
        exact ⟨_, _, _, rs, rfl, HS.out, by omega, HG.out⟩
end Go.Proofs.Ytakkmgeocmndjaa
