/- the law FnLookUp: the draw, the walk -/
import Derived.Test.YtomdhpfelchjeaaDPg
import Derived.Test.YtomdhpfelchjeaaRg
import Derived.Test.YtomdhpfelchjeaaWyT
import Derived.Deep.RegionHeld3
namespace Go.Proofs.Ytomdhpfelchjeaa
open Go.RowKit
theorem Sl.setNone {α : Type} [Enc α] {w : World} {A : Option Addr} {n cap : Nat} {xs : List α} {b o : Nat} {v u : Value} (h : Sl w A n cap xs) (hc : w.cell? ⟨b, o, none⟩ = some v) (hv : ∀ x : α, v ∉ Enc.cells x) : Sl (w.setCell ⟨b, o, none⟩ u) A n cap xs := by
  refine ⟨h.len, h.cap_, h.max, h.ok, fun hn => ?_⟩
  obtain ⟨b2, off, e, hb, hcell⟩ := h.at_ hn
  refine ⟨b2, off, e, by simpa [World.setCell] using hb, fun j t ht => ?_⟩
  have h1 := hcell j t ht
  by_cases c : b = b2 ∧ o = off + j
  · obtain ⟨rfl, rfl⟩ := c
    rw [hc] at h1
    injection h1 with h1
    subst h1
    obtain ⟨x, _, hx⟩ := List.mem_flatMap.1 (List.mem_of_getElem? ht)
    exact absurd hx (hv x)
  · have hne : b ≠ b2 ∨ o ≠ off + j := by
      by_cases c2 : b = b2
      · exact .inr (fun e => c ⟨c2, e⟩)
      · exact .inl c2
    rw [cell_set_other hne]
    exact h1
/-- ranges, a line and a class that were drawn for a law -/
def DrawnRL (w : World) (e : Ending) (w' : World) : Prop :=
  ∃ (B D : Option Addr) (m c q d : Nat) (xs : List Cls) (L : List Rng) (i a : Int), e = .returned (.tuple #[.agg #[.slice B m c], .slice D q d, .int .i64 i, .int .i64 a]) ∧ Sl w' B m c xs ∧ m ≤ 8 ∧ Sl w' D q d L ∧ q ≤ 1048576 ∧ Le w w'
set_option maxHeartbeats 4000000 in
set_option maxRecDepth 100000 in
theorem drawLookUp_any (A : Option Addr) (n cap : Nat) (bs : List By) (w : World) (hR : Sl w A n cap bs) : Calls Try.prog 30 #[.slice A n cap] w (DrawnRL w) := by
  go_enter Try.func30, Try.ntmps30
  go_wp2_with fail
  obtain ⟨c0, z0, L0⟩ := box1 w (.slice none 0 0) 25
  have f0 : (w.alloc (.cells #[.slice none 0 0] 25)).frozen? ⟨w.heap.size, 0, none⟩ = false := World.frozen?_alloc_at _ _ _ _ rfl
  have S0 := hR.le L0
  generalize w.alloc (.cells #[.slice none 0 0] 25) = W at *
  refine (newReader_any A n cap bs W S0).mono ?_
  rintro e w1 ⟨g, A1, n1, k1, bs1, rfl, hg, R1, hle⟩
  have hz1 : w.heap.size < w1.heap.size := Nat.lt_of_lt_of_le z0 hle.size
  have hzg := R1.lt
  have HA : Hid (0 < n1 → ∀ a, A1 = some a → a.block < w1.heap.size) := fun hn a e => R1.sl.under hn a e
  replace c0 := (hle.cell z0).trans c0
  replace f0 := (hle.frozen z0).trans f0
  replace L0 := L0.trans hle
  clear S0
  have hgz : w.heap.size ≠ g := by omega
  have hwg : w.heap.size ≤ g := by omega
  go_wp2_with fail
  refine (lineIn_any g 0 A1 n1 k1 bs1 w1 (by omega) R1).mono ?_
  rintro e w2 ⟨B, D, m, c, q, d, xs, L, i, p2, rfl, S2, hm, hab, SD, hq, hD, hi, hp2, R2, hg2⟩
  obtain rfl := SD.len
  replace c0 := (hg2.cell hz1 hgz).trans c0
  replace f0 := (hg2.frozen hz1 hgz).trans f0
  have L2 := Gx.le L0 hg2 (by omega)
  have hs2 := hg2.size
  have z2 : w.heap.size < w2.heap.size := by omega
  have hgt : w2.heap.size ≠ g := by omega
  have hg2' : g < w2.heap.size := R2.lt
  obtain ⟨ct, zt, LB⟩ := box1 w2 (.slice B m c) 25
  replace c0 := (LB.cell z2).trans c0
  replace f0 := (LB.frozen z2).trans f0
  replace S2 := S2.le LB
  replace SD := SD.le LB
  replace R2 := R2.le LB
  replace L2 := L2.trans LB
  replace z2 := Nat.lt_of_lt_of_le z2 LB.size
  clear z0 L0 R1 hg2 hle hD
  have hszB : (w2.alloc (.cells #[.slice B m c] 25)).heap.size = w2.heap.size + 1 := by simp
  go_wp2_with fail
  generalize w2.alloc (.cells #[.slice B m c] 25) = W2 at *
  generalize hTB : w2.heap.size = tb at *
  have LE := Le.new W2 (.cells #[] 51)
  replace c0 := (LE.cell z2).trans c0
  replace f0 := (LE.frozen z2).trans f0
  replace ct := (LE.cell zt).trans ct
  replace zt := Nat.lt_of_lt_of_le zt LE.size
  replace z2 := Nat.lt_of_lt_of_le z2 LE.size
  replace S2 := S2.le LE
  replace SD := SD.le LE
  replace R2 := R2.le LE
  replace L2 := L2.trans LE
  have SN : Sl (W2.alloc (.cells #[] 51)) (some ⟨W2.heap.size, 0, none⟩) 0 0 ([] : List Rng) := Sl.nil _ _ _ (by omega)
  clear LB LE hTB
  generalize W2.alloc (.cells #[] 51) = W3 at *
  refine (svalidProgram_any B D m c _ d xs L (by omega) W3 S2 SD).mono ?_
  rintro e w3 ⟨rfl, hle⟩
  replace c0 := (hle.cell z2).trans c0
  replace f0 := (hle.frozen z2).trans f0
  replace ct := (hle.cell zt).trans ct
  replace zt := Nat.lt_of_lt_of_le zt hle.size
  replace z2 := Nat.lt_of_lt_of_le z2 hle.size
  replace S2 := S2.le hle
  replace SD := SD.le hle
  replace R2 := R2.le hle
  replace L2 := L2.trans hle
  replace SN := SN.le hle
  have hw3 : g < w3.heap.size := R2.lt
  have hw3t : tb < w3.heap.size := zt
  have HBU : Hid (0 < m → ∀ a, B = some a → a.block < w3.heap.size) := fun hn a e => S2.under hn a e
  clear hle
  cases hv : vp xs L
  · have SL := SN
    clear SN SD
    have hoffL : 0 < 0 → Off g (some (⟨W2.heap.size, 0, none⟩ : Addr)) := fun h => absurd h (by omega)
    go_wp2_with fail
    have HB : Hid (0 < m → ∀ a, B = some a → w.heap.size < a.block) := fun hn a e => by have := hab hn a e; omega
    have hoffB : 0 < m → Off g B := fun hn a e => by have := hab hn a e; omega
    have R3 := R2.le (Le.refl w3).drew
    have S3 := S2.le (Le.refl w3).drew
    have SD3 := SL.le (Le.refl w3).drew
    have L3 := L2.drew
    have c03 : w3.drew.cell? ⟨w.heap.size, 0, none⟩ = some (.slice none 0 0) := c0
    have f03 : w3.drew.frozen? ⟨w.heap.size, 0, none⟩ = false := f0
    have ct3 : w3.drew.cell? ⟨tb, 0, none⟩ = some (.slice B m c) := ct
    have z03 : w.heap.size < w3.drew.heap.size := z2
    have zt3 : tb < w3.drew.heap.size := zt
    clear R2 S2 SL L2 c0 f0 ct z2 zt
    refine wp_region_noPanic ?_
    refine wp_region_held_drew (S := fun w' => w'.cell? ⟨tb, 0, none⟩ = some (.slice B m c)) (by kernel_rfl) ct3 (fun hHeld => ?_)
    refine wpAnyH_takeL (i := 0) (v := ?_) rfl (by kernel_rfl) (by kernel_rfl) (by kernel_rfl) (fun _ _ _ h => h) (Or.inl ⟨by rfl, ?_⟩) (by assumption) ?_
    rotate_left 1
    · (intro w hSw; (try dsimp only at hSw); go_simp; try with_reducible rfl)
    try simp only [Act.put, List.setIfInBounds_toArray, List.set_cons_zero, List.set_cons_succ]
    refine wpAnyH_takeL (i := 1) (v := ?_) rfl (by kernel_rfl) (by kernel_rfl) (by kernel_rfl) (fun _ _ _ h => h) (Or.inl ⟨by rfl, ?_⟩) (by assumption) ?_
    rotate_left 1
    · (intro w hSw; (try dsimp only at hSw); go_simp; try with_reducible rfl)
    try simp only [Act.put, List.setIfInBounds_toArray, List.set_cons_zero, List.set_cons_succ]
    refine wpAnyH_takeL (i := 2) (v := ?_) rfl (by kernel_rfl) (by kernel_rfl) (by kernel_rfl) (fun _ _ _ h => h) (Or.inl ⟨by rfl, ?_⟩) (by assumption) ?_
    rotate_left 1
    · (intro w hSw; (try dsimp only at hSw); go_simp; try with_reducible rfl)
    try simp only [Act.put, List.setIfInBounds_toArray, List.set_cons_zero, List.set_cons_succ]
    refine wpAnyH_takeL (i := 3) (v := ?_) rfl (by kernel_rfl) (by kernel_rfl) (by kernel_rfl) (fun _ _ _ h => h) (Or.inl ⟨by rfl, ?_⟩) (by assumption) ?_
    rotate_left 1
    · (intro w hSw; (try dsimp only at hSw); go_simp; try with_reducible rfl)
    try simp only [Act.put, List.setIfInBounds_toArray, List.set_cons_zero, List.set_cons_succ]
    refine wpAnyH_takeL (i := 4) (v := ?_) rfl (by kernel_rfl) (by kernel_rfl) (by kernel_rfl) (fun _ _ _ h => h) (Or.inl ⟨by rfl, ?_⟩) (by assumption) ?_
    rotate_left 1
    · (intro w hSw; (try dsimp only at hSw); go_simp; try with_reducible rfl)
    try simp only [Act.put, List.setIfInBounds_toArray, List.set_cons_zero, List.set_cons_succ]
    refine wpAnyH_ready (rs := [5]) (by kernel_rfl) (by simp) (AllReadyH.consL (i := 5) rfl (fun K hK => ?_) AllReadyH.nil)
    go_simp
    go_at_call 44
    refine (aClass_any B m c g _ A1 n1 k1 bs1 w3.drew hm (by omega) R3).mono ?_
    rintro e w9 ⟨a, p9, rfl, ha0, ha1, hp9, R9, hg9⟩
    have c0 := (hg9.cell z03 hgz).trans c03
    have f0 := (hg9.frozen z03 hgz).trans f03
    have ct := (hg9.cell zt3 hgt).trans ct3
    have S4 := S3.gx hoffB hg9
    have SD4 := SD3.gx hoffL hg9
    have L4 := Gx.le L3 hg9 hwg
    clear c03 f03 ct3 S3 SD3 L3 R3 R9 hg9
    refine hK.out _ _ (ct) (fun hHeld => ?_)
    clear hK K
    try simp only [Act.put, List.setIfInBounds_toArray, List.set_cons_zero, List.set_cons_succ]
    refine wpAnyH_ready (rs := [6]) (by kernel_rfl) (by simp) (AllReadyH.consL (i := 6) rfl (fun K hK => ?_) AllReadyH.nil)
    go_simp
    have hend : ∀ u, (w9.setCell ⟨w.heap.size, 0, none⟩ u).cell? ⟨w.heap.size, 0, none⟩ = some u := fun u => cell_set_same c0
    refine hK.out _ _ (((cell_set_other (.inl (by omega))).trans ct)) (fun hHeld => ?_)
    clear hK K
    try simp only [Act.put, List.setIfInBounds_toArray, List.set_cons_zero, List.set_cons_succ]
    refine wpAnyH_takeL (i := 7) (v := ?_) rfl (by kernel_rfl) (by kernel_rfl) (by kernel_rfl) (fun _ _ _ h => h) (Or.inl ⟨by rfl, ?_⟩) (by assumption) ?_
    rotate_left 1
    · (intro w hSw; (try dsimp only at hSw); go_simp; try with_reducible rfl)
    try simp only [Act.put, List.setIfInBounds_toArray, List.set_cons_zero, List.set_cons_succ]
    refine wpAnyH_takeL (i := 8) (v := ?_) rfl (by kernel_rfl) (by kernel_rfl) (by kernel_rfl) (fun _ _ _ h => h) (Or.inl ⟨by rfl, ?_⟩) (by assumption) ?_
    rotate_left 1
    · (intro w hSw; (try dsimp only at hSw); go_simp; try with_reducible rfl)
    try simp only [Act.put, List.setIfInBounds_toArray, List.set_cons_zero, List.set_cons_succ]
    refine wpAnyH_takeL (i := 9) (v := ?_) rfl (by kernel_rfl) (by kernel_rfl) (by kernel_rfl) (fun _ _ _ h => h) (Or.inl ⟨by rfl, ?_⟩) (by assumption) ?_
    rotate_left 1
    · (intro w hSw; (try dsimp only at hSw); go_simp; try with_reducible rfl)
    try simp only [Act.put, List.setIfInBounds_toArray, List.set_cons_zero, List.set_cons_succ]
    refine wpAnyH_done (by kernel_rfl) ?_ _
    refine NoPanic.normal ?_
    have HF : Hid (DrawnRL w (.returned (.tuple #[.agg #[.slice B m c], .slice (some ⟨W2.heap.size, 0, none⟩) 0 0, .int .i64 i, .int .i64 a])) (w9.setCell ⟨w.heap.size, 0, none⟩ (.slice B m c))) := ⟨B, (some ⟨W2.heap.size, 0, none⟩), m, c, 0, 0, xs, _, i, a, rfl, S4.gx (fun h a e => by have := HB.out h a e; omega) (Gx.set w.heap.size 0 w9 _), hm, SD4.setNone c0 (fun x h => by simp [Enc.cells] at h), by omega, L4.setCell (Nat.le_refl _) _⟩
    clear hHeld S4 SD4 L4
    go_wp2
    exact bodyPost_ret (v := .tuple #[.agg #[.slice B m c], .slice (some ⟨W2.heap.size, 0, none⟩) 0 0, .int .i64 i, .int .i64 a]) (by simp [results, Try.results30, go_sem, hend]) rfl HF.out
  · have gp := goodP_of hv
    have hbd := tb_bound gp.len L.length (by omega)
    clear SN
    go_wp2_with fail
    refine (stableOf_any D _ d L gp.len gp.tries w3 SD).mono ?_
    rintro e w4 ⟨v, rfl, DD, hle⟩
    replace c0 := (hle.cell z2).trans c0
    replace f0 := (hle.frozen z2).trans f0
    replace ct := (hle.cell zt).trans ct
    replace zt := Nat.lt_of_lt_of_le zt hle.size
    replace z2 := Nat.lt_of_lt_of_le z2 hle.size
    replace S2 := S2.le hle
    replace R2 := R2.le hle
    replace L2 := L2.trans hle
    have O := DD.row
    have okT := DD.ok
    generalize tbD L L.length = T at *
    clear DD hle SD gp hv
    rcases Nat.eq_zero_or_pos T.length with h0 | h0
    · have hT : T = [] := List.eq_nil_of_length_eq_zero h0
      subst hT
      obtain ⟨A4, c4, rfl⟩ := own_form O
      have SL : Sl w4 A4 0 c4 ([] : List Rng) := Sl.of_own O rfl (by decide) okT
      have hoffL : 0 < 0 → Off g A4 := fun h => absurd h (by omega)
      clear O okT hbd h0
      go_wp2_with fail
      have HB : Hid (0 < m → ∀ a, B = some a → w.heap.size < a.block) := fun hn a e => by have := hab hn a e; omega
      have hoffB : 0 < m → Off g B := fun hn a e => by have := hab hn a e; omega
      have R3 := R2.le (Le.refl w4).drew
      have S3 := S2.le (Le.refl w4).drew
      have SD3 := SL.le (Le.refl w4).drew
      have L3 := L2.drew
      have c03 : w4.drew.cell? ⟨w.heap.size, 0, none⟩ = some (.slice none 0 0) := c0
      have f03 : w4.drew.frozen? ⟨w.heap.size, 0, none⟩ = false := f0
      have ct3 : w4.drew.cell? ⟨tb, 0, none⟩ = some (.slice B m c) := ct
      have z03 : w.heap.size < w4.drew.heap.size := z2
      have zt3 : tb < w4.drew.heap.size := zt
      clear R2 S2 SL L2 c0 f0 ct z2 zt
      refine wp_region_noPanic ?_
      refine wp_region_held_drew (S := fun w' => w'.cell? ⟨tb, 0, none⟩ = some (.slice B m c)) (by kernel_rfl) ct3 (fun hHeld => ?_)
      refine wpAnyH_takeL (i := 0) (v := ?_) rfl (by kernel_rfl) (by kernel_rfl) (by kernel_rfl) (fun _ _ _ h => h) (Or.inl ⟨by rfl, ?_⟩) (by assumption) ?_
      rotate_left 1
      · (intro w hSw; (try dsimp only at hSw); go_simp; try with_reducible rfl)
      try simp only [Act.put, List.setIfInBounds_toArray, List.set_cons_zero, List.set_cons_succ]
      refine wpAnyH_takeL (i := 1) (v := ?_) rfl (by kernel_rfl) (by kernel_rfl) (by kernel_rfl) (fun _ _ _ h => h) (Or.inl ⟨by rfl, ?_⟩) (by assumption) ?_
      rotate_left 1
      · (intro w hSw; (try dsimp only at hSw); go_simp; try with_reducible rfl)
      try simp only [Act.put, List.setIfInBounds_toArray, List.set_cons_zero, List.set_cons_succ]
      refine wpAnyH_takeL (i := 2) (v := ?_) rfl (by kernel_rfl) (by kernel_rfl) (by kernel_rfl) (fun _ _ _ h => h) (Or.inl ⟨by rfl, ?_⟩) (by assumption) ?_
      rotate_left 1
      · (intro w hSw; (try dsimp only at hSw); go_simp; try with_reducible rfl)
      try simp only [Act.put, List.setIfInBounds_toArray, List.set_cons_zero, List.set_cons_succ]
      refine wpAnyH_takeL (i := 3) (v := ?_) rfl (by kernel_rfl) (by kernel_rfl) (by kernel_rfl) (fun _ _ _ h => h) (Or.inl ⟨by rfl, ?_⟩) (by assumption) ?_
      rotate_left 1
      · (intro w hSw; (try dsimp only at hSw); go_simp; try with_reducible rfl)
      try simp only [Act.put, List.setIfInBounds_toArray, List.set_cons_zero, List.set_cons_succ]
      refine wpAnyH_takeL (i := 4) (v := ?_) rfl (by kernel_rfl) (by kernel_rfl) (by kernel_rfl) (fun _ _ _ h => h) (Or.inl ⟨by rfl, ?_⟩) (by assumption) ?_
      rotate_left 1
      · (intro w hSw; (try dsimp only at hSw); go_simp; try with_reducible rfl)
      try simp only [Act.put, List.setIfInBounds_toArray, List.set_cons_zero, List.set_cons_succ]
      refine wpAnyH_ready (rs := [5]) (by kernel_rfl) (by simp) (AllReadyH.consL (i := 5) rfl (fun K hK => ?_) AllReadyH.nil)
      go_simp
      go_at_call 44
      refine (aClass_any B m c g _ A1 n1 k1 bs1 w4.drew hm (by omega) R3).mono ?_
      rintro e w9 ⟨a, p9, rfl, ha0, ha1, hp9, R9, hg9⟩
      have c0 := (hg9.cell z03 hgz).trans c03
      have f0 := (hg9.frozen z03 hgz).trans f03
      have ct := (hg9.cell zt3 hgt).trans ct3
      have S4 := S3.gx hoffB hg9
      have SD4 := SD3.gx hoffL hg9
      have L4 := Gx.le L3 hg9 hwg
      clear c03 f03 ct3 S3 SD3 L3 R3 R9 hg9
      refine hK.out _ _ (ct) (fun hHeld => ?_)
      clear hK K
      try simp only [Act.put, List.setIfInBounds_toArray, List.set_cons_zero, List.set_cons_succ]
      refine wpAnyH_ready (rs := [6]) (by kernel_rfl) (by simp) (AllReadyH.consL (i := 6) rfl (fun K hK => ?_) AllReadyH.nil)
      go_simp
      have hend : ∀ u, (w9.setCell ⟨w.heap.size, 0, none⟩ u).cell? ⟨w.heap.size, 0, none⟩ = some u := fun u => cell_set_same c0
      refine hK.out _ _ (((cell_set_other (.inl (by omega))).trans ct)) (fun hHeld => ?_)
      clear hK K
      try simp only [Act.put, List.setIfInBounds_toArray, List.set_cons_zero, List.set_cons_succ]
      refine wpAnyH_takeL (i := 7) (v := ?_) rfl (by kernel_rfl) (by kernel_rfl) (by kernel_rfl) (fun _ _ _ h => h) (Or.inl ⟨by rfl, ?_⟩) (by assumption) ?_
      rotate_left 1
      · (intro w hSw; (try dsimp only at hSw); go_simp; try with_reducible rfl)
      try simp only [Act.put, List.setIfInBounds_toArray, List.set_cons_zero, List.set_cons_succ]
      refine wpAnyH_takeL (i := 8) (v := ?_) rfl (by kernel_rfl) (by kernel_rfl) (by kernel_rfl) (fun _ _ _ h => h) (Or.inl ⟨by rfl, ?_⟩) (by assumption) ?_
      rotate_left 1
      · (intro w hSw; (try dsimp only at hSw); go_simp; try with_reducible rfl)
      try simp only [Act.put, List.setIfInBounds_toArray, List.set_cons_zero, List.set_cons_succ]
      refine wpAnyH_takeL (i := 9) (v := ?_) rfl (by kernel_rfl) (by kernel_rfl) (by kernel_rfl) (fun _ _ _ h => h) (Or.inl ⟨by rfl, ?_⟩) (by assumption) ?_
      rotate_left 1
      · (intro w hSw; (try dsimp only at hSw); go_simp; try with_reducible rfl)
      try simp only [Act.put, List.setIfInBounds_toArray, List.set_cons_zero, List.set_cons_succ]
      refine wpAnyH_done (by kernel_rfl) ?_ _
      refine NoPanic.normal ?_
      have HF : Hid (DrawnRL w (.returned (.tuple #[.agg #[.slice B m c], .slice A4 0 c4, .int .i64 i, .int .i64 a])) (w9.setCell ⟨w.heap.size, 0, none⟩ (.slice B m c))) := ⟨B, A4, m, c, 0, c4, xs, _, i, a, rfl, S4.gx (fun h a e => by have := HB.out h a e; omega) (Gx.set w.heap.size 0 w9 _), hm, SD4.setNone c0 (fun x h => by simp [Enc.cells] at h), by omega, L4.setCell (Nat.le_refl _) _⟩
      clear hHeld S4 SD4 L4
      go_wp2
      exact bodyPost_ret (v := .tuple #[.agg #[.slice B m c], .slice A4 0 c4, .int .i64 i, .int .i64 a]) (by simp [results, Try.results30, go_sem, hend]) rfl HF.out
    · obtain ⟨j, hj⟩ : ∃ j, T.length = j + 1 := ⟨T.length - 1, by omega⟩
      have HJ := Lib.hid hj
      rw [hj] at O
      obtain ⟨b, cp, rfl⟩ := own_some O
      have hbb := O.lt b rfl
      have hbg : b ≠ g := by omega
      have hbt : b ≠ tb := by omega
      have hj600 : j ≤ 600 := by omega
      have HOK := Lib.hid okT
      clear hj h0 hbd okT
      have hj1 : (0 : Int) < ((j + 1 : Nat) : Int) := by omega
      go_wp2_with fail
      refine (pick_any 12 g p2 A1 n1 k1 bs1 w4 (by omega) (by omega) (by omega) R2).mono ?_
      rintro e w5 ⟨y, rfl, hy0, hy1, R5, hg5⟩
      have O5 := O.kept hg5 (.inr (fun e => hbg (by injection e)))
      have hoffB : 0 < m → Off g B := fun hn a e => by have := hab hn a e; omega
      replace c0 := (hg5.cell z2 hgz).trans c0
      replace f0 := (hg5.frozen z2 hgz).trans f0
      replace ct := (hg5.cell zt hgt).trans ct
      replace zt := Nat.lt_of_lt_of_le zt hg5.size
      replace z2 := Nat.lt_of_lt_of_le z2 hg5.size
      replace S2 := S2.gx hoffB hg5
      replace L2 := Gx.le L2 hg5 hwg
      clear O R2 hg5 hy1 hoffB
      by_cases hy : y = 0
      · subst hy
        go_wp2_with fail
        refine (pick_any ((j + 1 : Nat) : Int) g (p2 + 1) A1 n1 k1 bs1 w5 (by omega) (by omega) (by omega) R5).mono ?_
        rintro e w6 ⟨x, rfl, hx0, hx1, R6, hg6⟩
        have O6 := O5.kept hg6 (.inr (fun e => hbg (by injection e)))
        have hoffB : 0 < m → Off g B := fun hn a e => by have := hab hn a e; omega
        replace c0 := (hg6.cell z2 hgz).trans c0
        replace f0 := (hg6.frozen z2 hgz).trans f0
        replace ct := (hg6.cell zt hgt).trans ct
        replace zt := Nat.lt_of_lt_of_le zt hg6.size
        replace z2 := Nat.lt_of_lt_of_le z2 hg6.size
        replace S2 := S2.gx hoffB hg6
        replace L2 := Gx.le L2 hg6 hwg
        obtain ⟨k, rfl⟩ := Int.eq_ofNat_of_zero_le hx0
        have hk : k < j + 1 := by rcases hx1 with h | h <;> omega
        have hk0 : (0 : Int) ≤ (k : Int) := by omega
        have hkn : (k : Int) < (j : Int) + 1 := by omega
        have hkn2 : (k : Int) < ((j + 1 : Nat) : Int) := by omega
        have hkT : k < T.length := by have := HJ.out; omega
        clear O5 R5 hg6 hx1
        go_wp2_with fail
        refine (one_lit [0, 24, 25, -1] 4 _ _ g (p2 + 1 + 1) A1 n1 k1 bs1 w6 _ rfl rfl (by decide) (by decide) (by intro x hx; simp at hx; constructor <;> omega) (by omega) rfl R6).mono ?_
        rintro e w7 ⟨s, rfl, hs, R7, hg7⟩
        have hso : -9223372036854775808 ≤ s ∧ s ≤ 9223372036854775807 := by simp at hs; omega
        have O7 := O6.kept hg7 (.inr (fun e => hbg (by injection e)))
        replace c0 := (hg7.cell z2 hgz).trans c0
        replace f0 := (hg7.frozen z2 hgz).trans f0
        replace ct := (hg7.cell zt hgt).trans ct
        replace zt := Nat.lt_of_lt_of_le zt hg7.size
        replace z2 := Nat.lt_of_lt_of_le z2 hg7.size
        replace S2 := S2.gx hoffB hg7
        replace L2 := Gx.le L2 hg7 hwg
        have hc0 : w7.cell? ⟨b, k * 4 + 1, none⟩ = some (.int .i64 T[k].hi) := by rw [O7.cellAt _ (by show _ < (j + 1) * 4; omega)]; exact flat_at T k hkT 1 (by decide)
        have hf0 := O7.frozenAt (k * 4 + 1)
        have h1 := (O7.stored (k * 4 + 1) (.int .i64 s)).1
        rw [flat_rng_hi T k hkT s] at h1
        have HOK2 : Hid (∀ x ∈ T.set k {T[k] with hi := s}, Enc.ok x) := fun x hx => by
          rcases List.mem_or_eq_of_mem_set hx with h | rfl
          · exact HOK.out x h
          · have hq := HOK.out _ (List.getElem_mem hkT)
            exact ⟨hq.1, hq.2.1, hso.1, hso.2, hq.2.2.2.2.1, hq.2.2.2.2.2.1, hq.2.2.2.2.2.2.1, hq.2.2.2.2.2.2.2⟩
        have SLh := Lib.hid (Sl.of_own h1 rfl (by decide) HOK2.out)
        have GS := Gx.set b (k * 4 + 1) w7 (.int .i64 s)
        have hc1 : (w7.setCell ⟨b, k * 4 + 1, none⟩ (.int .i64 s)).cell? ⟨w.heap.size, 0, none⟩ = some (.slice none 0 0) := (cell_set_other (.inl (by omega))).trans c0
        have hf1 : (w7.setCell ⟨b, k * 4 + 1, none⟩ (.int .i64 s)).frozen? ⟨w.heap.size, 0, none⟩ = false := (GS.frozen z2 (by omega)).trans f0
        have hct1 : (w7.setCell ⟨b, k * 4 + 1, none⟩ (.int .i64 s)).cell? ⟨tb, 0, none⟩ = some (.slice B m c) := (cell_set_other (.inl hbt)).trans ct
        have HR8 := Lib.hid (R7.setNew (o := k * 4 + 1) (.int .i64 s) hbg (fun hn a e => by have := HA.out hn a e; omega))
        have HS8 := Lib.hid (S2.gx (g := b) (fun hn a e => by have := HBU.out hn a e; omega) GS)
        have HL8 := Lib.hid (L2.setCell (b := b) (o := k * 4 + 1) (by omega) (.int .i64 s))
        have hs8 : (w7.setCell ⟨b, k * 4 + 1, none⟩ (.int .i64 s)).heap.size = w7.heap.size := by simp [World.setCell]
        clear R6 R7 O6 O7 h1 hs hg7 hoffB
        go_wp2_with fail
        have R2 := HR8.out
        have S2 := HS8.out
        have L2 := HL8.out
        have SL := SLh.out
        have c0 := hc1
        have f0 := hf1
        have ct := hct1
        rw [← hs8] at z2 zt
        generalize w7.setCell ⟨b, k * 4 + 1, none⟩ (.int .i64 s) = w8 at *
        have hoffL : 0 < j + 1 → Off g (some (⟨b, 0, none⟩ : Addr)) := fun _ a e => by injection e with e; rw [← e]; exact hbg
        clear hc1 hf1 hct1 HR8 HS8 HL8 SLh GS
        have HB : Hid (0 < m → ∀ a, B = some a → w.heap.size < a.block) := fun hn a e => by have := hab hn a e; omega
        have hoffB : 0 < m → Off g B := fun hn a e => by have := hab hn a e; omega
        have R3 := R2.le (Le.refl w8).drew
        have S3 := S2.le (Le.refl w8).drew
        have SD3 := SL.le (Le.refl w8).drew
        have L3 := L2.drew
        have c03 : w8.drew.cell? ⟨w.heap.size, 0, none⟩ = some (.slice none 0 0) := c0
        have f03 : w8.drew.frozen? ⟨w.heap.size, 0, none⟩ = false := f0
        have ct3 : w8.drew.cell? ⟨tb, 0, none⟩ = some (.slice B m c) := ct
        have z03 : w.heap.size < w8.drew.heap.size := z2
        have zt3 : tb < w8.drew.heap.size := zt
        clear R2 S2 SL L2 c0 f0 ct z2 zt
        refine wp_region_noPanic ?_
        refine wp_region_held_drew (S := fun w' => w'.cell? ⟨tb, 0, none⟩ = some (.slice B m c)) (by kernel_rfl) ct3 (fun hHeld => ?_)
        refine wpAnyH_takeL (i := 0) (v := ?_) rfl (by kernel_rfl) (by kernel_rfl) (by kernel_rfl) (fun _ _ _ h => h) (Or.inl ⟨by rfl, ?_⟩) (by assumption) ?_
        rotate_left 1
        · (intro w hSw; (try dsimp only at hSw); go_simp; try with_reducible rfl)
        try simp only [Act.put, List.setIfInBounds_toArray, List.set_cons_zero, List.set_cons_succ]
        refine wpAnyH_takeL (i := 1) (v := ?_) rfl (by kernel_rfl) (by kernel_rfl) (by kernel_rfl) (fun _ _ _ h => h) (Or.inl ⟨by rfl, ?_⟩) (by assumption) ?_
        rotate_left 1
        · (intro w hSw; (try dsimp only at hSw); go_simp; try with_reducible rfl)
        try simp only [Act.put, List.setIfInBounds_toArray, List.set_cons_zero, List.set_cons_succ]
        refine wpAnyH_takeL (i := 2) (v := ?_) rfl (by kernel_rfl) (by kernel_rfl) (by kernel_rfl) (fun _ _ _ h => h) (Or.inl ⟨by rfl, ?_⟩) (by assumption) ?_
        rotate_left 1
        · (intro w hSw; (try dsimp only at hSw); go_simp; try with_reducible rfl)
        try simp only [Act.put, List.setIfInBounds_toArray, List.set_cons_zero, List.set_cons_succ]
        refine wpAnyH_takeL (i := 3) (v := ?_) rfl (by kernel_rfl) (by kernel_rfl) (by kernel_rfl) (fun _ _ _ h => h) (Or.inl ⟨by rfl, ?_⟩) (by assumption) ?_
        rotate_left 1
        · (intro w hSw; (try dsimp only at hSw); go_simp; try with_reducible rfl)
        try simp only [Act.put, List.setIfInBounds_toArray, List.set_cons_zero, List.set_cons_succ]
        refine wpAnyH_takeL (i := 4) (v := ?_) rfl (by kernel_rfl) (by kernel_rfl) (by kernel_rfl) (fun _ _ _ h => h) (Or.inl ⟨by rfl, ?_⟩) (by assumption) ?_
        rotate_left 1
        · (intro w hSw; (try dsimp only at hSw); go_simp; try with_reducible rfl)
        try simp only [Act.put, List.setIfInBounds_toArray, List.set_cons_zero, List.set_cons_succ]
        refine wpAnyH_ready (rs := [5]) (by kernel_rfl) (by simp) (AllReadyH.consL (i := 5) rfl (fun K hK => ?_) AllReadyH.nil)
        go_simp
        go_at_call 44
        refine (aClass_any B m c g _ A1 n1 k1 bs1 w8.drew hm (by omega) R3).mono ?_
        rintro e w9 ⟨a, p9, rfl, ha0, ha1, hp9, R9, hg9⟩
        have c0 := (hg9.cell z03 hgz).trans c03
        have f0 := (hg9.frozen z03 hgz).trans f03
        have ct := (hg9.cell zt3 hgt).trans ct3
        have S4 := S3.gx hoffB hg9
        have SD4 := SD3.gx hoffL hg9
        have L4 := Gx.le L3 hg9 hwg
        clear c03 f03 ct3 S3 SD3 L3 R3 R9 hg9
        refine hK.out _ _ (ct) (fun hHeld => ?_)
        clear hK K
        try simp only [Act.put, List.setIfInBounds_toArray, List.set_cons_zero, List.set_cons_succ]
        refine wpAnyH_ready (rs := [6]) (by kernel_rfl) (by simp) (AllReadyH.consL (i := 6) rfl (fun K hK => ?_) AllReadyH.nil)
        go_simp
        have hend : ∀ u, (w9.setCell ⟨w.heap.size, 0, none⟩ u).cell? ⟨w.heap.size, 0, none⟩ = some u := fun u => cell_set_same c0
        refine hK.out _ _ (((cell_set_other (.inl (by omega))).trans ct)) (fun hHeld => ?_)
        clear hK K
        try simp only [Act.put, List.setIfInBounds_toArray, List.set_cons_zero, List.set_cons_succ]
        refine wpAnyH_takeL (i := 7) (v := ?_) rfl (by kernel_rfl) (by kernel_rfl) (by kernel_rfl) (fun _ _ _ h => h) (Or.inl ⟨by rfl, ?_⟩) (by assumption) ?_
        rotate_left 1
        · (intro w hSw; (try dsimp only at hSw); go_simp; try with_reducible rfl)
        try simp only [Act.put, List.setIfInBounds_toArray, List.set_cons_zero, List.set_cons_succ]
        refine wpAnyH_takeL (i := 8) (v := ?_) rfl (by kernel_rfl) (by kernel_rfl) (by kernel_rfl) (fun _ _ _ h => h) (Or.inl ⟨by rfl, ?_⟩) (by assumption) ?_
        rotate_left 1
        · (intro w hSw; (try dsimp only at hSw); go_simp; try with_reducible rfl)
        try simp only [Act.put, List.setIfInBounds_toArray, List.set_cons_zero, List.set_cons_succ]
        refine wpAnyH_takeL (i := 9) (v := ?_) rfl (by kernel_rfl) (by kernel_rfl) (by kernel_rfl) (fun _ _ _ h => h) (Or.inl ⟨by rfl, ?_⟩) (by assumption) ?_
        rotate_left 1
        · (intro w hSw; (try dsimp only at hSw); go_simp; try with_reducible rfl)
        try simp only [Act.put, List.setIfInBounds_toArray, List.set_cons_zero, List.set_cons_succ]
        refine wpAnyH_done (by kernel_rfl) ?_ _
        refine NoPanic.normal ?_
        have HF : Hid (DrawnRL w (.returned (.tuple #[.agg #[.slice B m c], .slice (some ⟨b, 0, none⟩) (j + 1) cp, .int .i64 i, .int .i64 a])) (w9.setCell ⟨w.heap.size, 0, none⟩ (.slice B m c))) := ⟨B, (some ⟨b, 0, none⟩), m, c, (j + 1), cp, xs, _, i, a, rfl, S4.gx (fun h a e => by have := HB.out h a e; omega) (Gx.set w.heap.size 0 w9 _), hm, SD4.setNone c0 (fun x h => by simp [Enc.cells] at h), by omega, L4.setCell (Nat.le_refl _) _⟩
        clear hHeld S4 SD4 L4
        go_wp2
        exact bodyPost_ret (v := .tuple #[.agg #[.slice B m c], .slice (some ⟨b, 0, none⟩) (j + 1) cp, .int .i64 i, .int .i64 a]) (by simp [results, Try.results30, go_sem, hend]) rfl HF.out
      · have hyb : (y == 0) = false := by simpa using hy
        have SL := Sl.of_own O5 rfl (by decide) HOK.out
        have R2 := R5
        have hoffL : 0 < j + 1 → Off g (some (⟨b, 0, none⟩ : Addr)) := fun _ a e => by injection e with e; rw [← e]; exact hbg
        clear R5 O5 hy
        go_wp2_with fail
        have HB : Hid (0 < m → ∀ a, B = some a → w.heap.size < a.block) := fun hn a e => by have := hab hn a e; omega
        have hoffB : 0 < m → Off g B := fun hn a e => by have := hab hn a e; omega
        have R3 := R2.le (Le.refl w5).drew
        have S3 := S2.le (Le.refl w5).drew
        have SD3 := SL.le (Le.refl w5).drew
        have L3 := L2.drew
        have c03 : w5.drew.cell? ⟨w.heap.size, 0, none⟩ = some (.slice none 0 0) := c0
        have f03 : w5.drew.frozen? ⟨w.heap.size, 0, none⟩ = false := f0
        have ct3 : w5.drew.cell? ⟨tb, 0, none⟩ = some (.slice B m c) := ct
        have z03 : w.heap.size < w5.drew.heap.size := z2
        have zt3 : tb < w5.drew.heap.size := zt
        clear R2 S2 SL L2 c0 f0 ct z2 zt
        refine wp_region_noPanic ?_
        refine wp_region_held_drew (S := fun w' => w'.cell? ⟨tb, 0, none⟩ = some (.slice B m c)) (by kernel_rfl) ct3 (fun hHeld => ?_)
        refine wpAnyH_takeL (i := 0) (v := ?_) rfl (by kernel_rfl) (by kernel_rfl) (by kernel_rfl) (fun _ _ _ h => h) (Or.inl ⟨by rfl, ?_⟩) (by assumption) ?_
        rotate_left 1
        · (intro w hSw; (try dsimp only at hSw); go_simp; try with_reducible rfl)
        try simp only [Act.put, List.setIfInBounds_toArray, List.set_cons_zero, List.set_cons_succ]
        refine wpAnyH_takeL (i := 1) (v := ?_) rfl (by kernel_rfl) (by kernel_rfl) (by kernel_rfl) (fun _ _ _ h => h) (Or.inl ⟨by rfl, ?_⟩) (by assumption) ?_
        rotate_left 1
        · (intro w hSw; (try dsimp only at hSw); go_simp; try with_reducible rfl)
        try simp only [Act.put, List.setIfInBounds_toArray, List.set_cons_zero, List.set_cons_succ]
        refine wpAnyH_takeL (i := 2) (v := ?_) rfl (by kernel_rfl) (by kernel_rfl) (by kernel_rfl) (fun _ _ _ h => h) (Or.inl ⟨by rfl, ?_⟩) (by assumption) ?_
        rotate_left 1
        · (intro w hSw; (try dsimp only at hSw); go_simp; try with_reducible rfl)
        try simp only [Act.put, List.setIfInBounds_toArray, List.set_cons_zero, List.set_cons_succ]
        refine wpAnyH_takeL (i := 3) (v := ?_) rfl (by kernel_rfl) (by kernel_rfl) (by kernel_rfl) (fun _ _ _ h => h) (Or.inl ⟨by rfl, ?_⟩) (by assumption) ?_
        rotate_left 1
        · (intro w hSw; (try dsimp only at hSw); go_simp; try with_reducible rfl)
        try simp only [Act.put, List.setIfInBounds_toArray, List.set_cons_zero, List.set_cons_succ]
        refine wpAnyH_takeL (i := 4) (v := ?_) rfl (by kernel_rfl) (by kernel_rfl) (by kernel_rfl) (fun _ _ _ h => h) (Or.inl ⟨by rfl, ?_⟩) (by assumption) ?_
        rotate_left 1
        · (intro w hSw; (try dsimp only at hSw); go_simp; try with_reducible rfl)
        try simp only [Act.put, List.setIfInBounds_toArray, List.set_cons_zero, List.set_cons_succ]
        refine wpAnyH_ready (rs := [5]) (by kernel_rfl) (by simp) (AllReadyH.consL (i := 5) rfl (fun K hK => ?_) AllReadyH.nil)
        go_simp
        go_at_call 44
        refine (aClass_any B m c g _ A1 n1 k1 bs1 w5.drew hm (by omega) R3).mono ?_
        rintro e w9 ⟨a, p9, rfl, ha0, ha1, hp9, R9, hg9⟩
        have c0 := (hg9.cell z03 hgz).trans c03
        have f0 := (hg9.frozen z03 hgz).trans f03
        have ct := (hg9.cell zt3 hgt).trans ct3
        have S4 := S3.gx hoffB hg9
        have SD4 := SD3.gx hoffL hg9
        have L4 := Gx.le L3 hg9 hwg
        clear c03 f03 ct3 S3 SD3 L3 R3 R9 hg9
        refine hK.out _ _ (ct) (fun hHeld => ?_)
        clear hK K
        try simp only [Act.put, List.setIfInBounds_toArray, List.set_cons_zero, List.set_cons_succ]
        refine wpAnyH_ready (rs := [6]) (by kernel_rfl) (by simp) (AllReadyH.consL (i := 6) rfl (fun K hK => ?_) AllReadyH.nil)
        go_simp
        have hend : ∀ u, (w9.setCell ⟨w.heap.size, 0, none⟩ u).cell? ⟨w.heap.size, 0, none⟩ = some u := fun u => cell_set_same c0
        refine hK.out _ _ (((cell_set_other (.inl (by omega))).trans ct)) (fun hHeld => ?_)
        clear hK K
        try simp only [Act.put, List.setIfInBounds_toArray, List.set_cons_zero, List.set_cons_succ]
        refine wpAnyH_takeL (i := 7) (v := ?_) rfl (by kernel_rfl) (by kernel_rfl) (by kernel_rfl) (fun _ _ _ h => h) (Or.inl ⟨by rfl, ?_⟩) (by assumption) ?_
        rotate_left 1
        · (intro w hSw; (try dsimp only at hSw); go_simp; try with_reducible rfl)
        try simp only [Act.put, List.setIfInBounds_toArray, List.set_cons_zero, List.set_cons_succ]
        refine wpAnyH_takeL (i := 8) (v := ?_) rfl (by kernel_rfl) (by kernel_rfl) (by kernel_rfl) (fun _ _ _ h => h) (Or.inl ⟨by rfl, ?_⟩) (by assumption) ?_
        rotate_left 1
        · (intro w hSw; (try dsimp only at hSw); go_simp; try with_reducible rfl)
        try simp only [Act.put, List.setIfInBounds_toArray, List.set_cons_zero, List.set_cons_succ]
        refine wpAnyH_takeL (i := 9) (v := ?_) rfl (by kernel_rfl) (by kernel_rfl) (by kernel_rfl) (fun _ _ _ h => h) (Or.inl ⟨by rfl, ?_⟩) (by assumption) ?_
        rotate_left 1
        · (intro w hSw; (try dsimp only at hSw); go_simp; try with_reducible rfl)
        try simp only [Act.put, List.setIfInBounds_toArray, List.set_cons_zero, List.set_cons_succ]
        refine wpAnyH_done (by kernel_rfl) ?_ _
        refine NoPanic.normal ?_
        have HF : Hid (DrawnRL w (.returned (.tuple #[.agg #[.slice B m c], .slice (some ⟨b, 0, none⟩) (j + 1) cp, .int .i64 i, .int .i64 a])) (w9.setCell ⟨w.heap.size, 0, none⟩ (.slice B m c))) := ⟨B, (some ⟨b, 0, none⟩), m, c, (j + 1), cp, xs, _, i, a, rfl, S4.gx (fun h a e => by have := HB.out h a e; omega) (Gx.set w.heap.size 0 w9 _), hm, SD4.setNone c0 (fun x h => by simp [Enc.cells] at h), by omega, L4.setCell (Nat.le_refl _) _⟩
        clear hHeld S4 SD4 L4
        go_wp2
        exact bodyPost_ret (v := .tuple #[.agg #[.slice B m c], .slice (some ⟨b, 0, none⟩) (j + 1) cp, .int .i64 i, .int .i64 a]) (by simp [results, Try.results30, go_sem, hend]) rfl HF.out
set_option maxHeartbeats 4000000 in
set_option maxRecDepth 100000 in
theorem fnLookUp_walk (A : Option Addr) (n cap : Nat) (bs : List By) (w : World) (hR : Sl w A n cap bs) :
    Calls Try.prog 8 #[.slice A n cap] w fun e w' => e = .returned (.bool true) ∧ Le w w' := by
  have hm := hR.n_le
  by_cases hbig : 1048576 < n
  · go_enter Try.func8, Try.ntmps8
    go_wp2
    go_ret
    exact ⟨rfl, Le.refl w⟩
  go_enter Try.func8, Try.ntmps8
  go_wp2_with fail
  refine (drawLookUp_any A n cap bs w hR).mono ?_
  rintro e w1 ⟨B, D, m, c, q, d, xs, L, i, a, rfl, S, hm8, S2, hq24, L0⟩
  obtain rfl := S2.len
  have hm1 : m ≤ 1048576 := by omega
  clear hbig hm hR
  go_wp2_with fail
  obtain ⟨ct, zt, hleB⟩ := box1 w1 (.slice B m c) 25
  replace S := S.le hleB
  replace L0 := L0.trans hleB
  replace S2 := S2.le hleB
  clear hleB
  generalize w1.alloc (.cells #[.slice B m c] 25) = W1 at *
  go_wp2_with fail
  refine (iLookUp_any B D m c _ d xs L i a W1 S S2).mono ?_
  rintro e w2 ⟨rfl, hle⟩
  replace ct := (hle.cell zt).trans ct
  replace zt := Nat.lt_of_lt_of_le zt hle.size
  replace S := S.le hle
  replace L0 := L0.trans hle
  replace S2 := S2.le hle
  clear hle
  go_wp2_with fail
  refine (sLookUp_any B D m c _ d xs L i a hq24 w2 S S2).mono ?_
  rintro e w3 ⟨rfl, hle⟩
  replace ct := (hle.cell zt).trans ct
  replace zt := Nat.lt_of_lt_of_le zt hle.size
  replace S := S.le hle
  replace L0 := L0.trans hle
  replace S2 := S2.le hle
  clear hle
  have hbb : (luX xs L i a != luX xs L i a) = false := by simp
  have hbb2 : (luX xs L i a == luX xs L i a) = true := by simp
  by_cases h0 : luX xs L i a < 0
  · have h0b : decide (luX xs L i a < 0) = true := decide_eq_true h0
    have hcl := fun w S S2 => sLookUp_any B D m c _ d xs L i a hq24 w S S2
    generalize luX xs L i a = u at *
    go_wp2_with fail
    refine (hcl w3 S S2).mono ?_
    rintro e w9 ⟨rfl, hle⟩
    replace L0 := L0.trans hle
    clear hle
    go_wp2
    go_ret
    exact ⟨rfl, L0⟩
  have h0b : decide (luX xs L i a < 0) = false := decide_eq_false h0
  have hv : vrB xs L = true := by
    cases h : vrB xs L
    · exact absurd (show luX xs L i a < 0 by unfold luX; rw [h]; show (-1 : Int) < 0; omega) h0
    · rfl
  have hX : luX xs L i a = luF xs i a L := by unfold luX; rw [hv]; rfl
  rw [hX] at h0 h0b hbb hbb2 ⊢
  generalize hu : luF xs i a L = u at *
  have HU := Lib.hid hu
  clear hu hX hv
  have hu0 : 0 ≤ u := by omega
  clear h0
  go_wp2
  go_loopw [8, 9] (fun q _ wr => ∃ k : Nat, k ≤ L.length ∧ q = .int .i64 k ∧ luF xs i a (L.drop k) = u ∧ Le w3 wr) (fun q _ _ => L.length - (intOf q).toNat)
  case atStart => exact ⟨0, Nat.zero_le _, rfl, HU.out, Le.refl _⟩
  case round =>
    obtain ⟨k, hk, rfl, he, LW⟩ := hrel
    have HE := Lib.hid he; clear he
    replace ct := (LW.cell zt).trans ct
    replace zt := Nat.lt_of_lt_of_le zt LW.size
    replace S := S.le LW
    replace L0 := L0.trans LW
    replace S2 := S2.le LW
    by_cases hlt : k < L.length
    · obtain ⟨b, off, rfl, hb, d0, d1, d2, d3, -⟩ := S2.rng_at hlt
      have HA := Lib.hid (luF_at (xs := xs) (i := i) (a := a) hlt)
      generalize L[k].lo = v0 at *
      generalize L[k].hi = v1 at *
      generalize L[k].target = v2 at *
      generalize L[k].cls = v3 at *
      obtain ⟨x0, x1, z0, hle2⟩ := box4 wr (.int .i64 v0) (.int .i64 v1) (.int .i64 v2) (.int .i64 v3) 51
      obtain ⟨x2, x3⟩ := box4b wr (.int .i64 v0) (.int .i64 v1) (.int .i64 v2) (.int .i64 v3) 51
      have cX := (hle2.cell zt).trans ct
      have T2 := S.le hle2
      have L2 := LW.trans hle2
      have hk0 : (0 : Int) ≤ (k : Int) := by omega
      have hkn : (k : Int) < (L.length : Int) := by omega
      cases r0 : decide (v0 ≤ i)
      · have HF : Hid (luF xs i a (L.drop (k + 1)) = u) := by show _ = _; rw [← HE.out, HA.out, r0, if_neg (by simp)]
        go_wp2
        go_roundw
        case rel => exact ⟨k + 1, by omega, by go_num, HF.out, L2⟩
        case measure => simp [intOf]; omega
      · cases r1 : decide (i < v1)
        · have HF : Hid (luF xs i a (L.drop (k + 1)) = u) := by show _ = _; rw [← HE.out, HA.out, r1, if_neg (by simp)]
          go_wp2
          go_roundw
          case rel => exact ⟨k + 1, by omega, by go_num, HF.out, L2⟩
          case measure => simp [intOf]; omega
        · go_wp2_with fail
          refine (iIsA_any B m c xs a v3 _ T2).mono ?_
          rintro e w5 ⟨rfl, hle3⟩
          have x5 := (hle3.cell z0).trans x2
          cases r2 : isAx xs a v3
          · have HF : Hid (luF xs i a (L.drop (k + 1)) = u) := by show _ = _; rw [← HE.out, HA.out, r2, if_neg (by simp)]
            go_wp2
            go_roundw
            case rel => exact ⟨k + 1, by omega, by go_num, HF.out, L2.trans hle3⟩
            case measure => simp [intOf]; omega
          · have hv2 : v2 = u := by have h := HA.out; rw [r0, r1, r2, HE.out] at h; simpa using h.symm
            have hvb : (v2 == u) = true := by rw [hv2]; simp
            clear hv2
            go_wp2
            go_ret
            exact ⟨rfl, L0.trans (hle2.trans hle3)⟩
    · have h2 := HE.out
      rw [luF_end hlt] at h2
      omega
end Go.Proofs.Ytomdhpfelchjeaa
