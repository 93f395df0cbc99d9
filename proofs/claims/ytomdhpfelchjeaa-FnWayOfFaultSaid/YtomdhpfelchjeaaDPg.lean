/- draws of programs: lineIn; a program, a line of a program -/
/- draws: a program and a line (EnclosingOf, LoopOf); a program (ValidProgram) -/
import Derived.Test.YtomdhpfelchjeaaDPe
import Derived.Test.YtomdhpfelchjeaaRg
import Derived.Test.YtomdhpfelchjeaaS
namespace Go.Proofs.Ytomdhpfelchjeaa
open Go.RowKit
section
/-- a tree, lines and a number that were drawn -/
def LineOut (k g p : Nat) (A : Option Addr) (n cap : Nat) (bs : List By) (w : World) (e : Ending) (w' : World) : Prop :=
  ∃ (B D : Option Addr) (m c q d : Nat) (xs : List Cls) (L : List Lin) (i : Int) (p' : Nat), e = .returned (.tuple #[.agg #[.slice B m c], .slice D q d, .int .i64 i]) ∧ Sl w' B m c xs ∧ m ≤ 8 ∧ (0 < m → ∀ a, B = some a → w.heap.size < a.block) ∧ Sl w' D q d L ∧ q ≤ 24 ∧ (0 < q → ∀ a, D = some a → w.heap.size < a.block) ∧ (-1 ≤ i ∧ i ≤ 24) ∧ p' ≤ p + k ∧ Rd w' g p' A n cap bs ∧ Gx g w w'
theorem Ps.outL {w wr : World} {g p : Nat} {A : Option Addr} {n cap : Nat} {bs : List By} {B : Option Addr} {m c tb : Nat} {xs : List Cls} (h : Ps w wr g p A n cap bs B m c xs tb) (hA : 0 < n → ∀ a, A = some a → a.block < w.heap.size) (hm : m ≤ 8) {D : Option Addr} {q d : Nat} {L : List Lin} (SD : Sl wr D q d L) (hq : q ≤ 24) (hD : 0 < q → ∀ a, D = some a → w.heap.size < a.block) {i : Int} (hi : -1 ≤ i ∧ i ≤ 24) {k p0 : Nat} (hp : p ≤ p0 + k) (u : Value) :
    LineOut k g p0 A n cap bs w (.returned (.tuple #[.agg #[.slice B m c], .slice D q d, .int .i64 i])) (wr.setCell ⟨w.heap.size, 0, none⟩ u) := by
  obtain ⟨B', D', m', c', q', d', xs', L', p', e, h1, h2, h3, h4, h5, h6, h7, h8, h9⟩ := h.out hA hm SD hq hD hp u
  injection e with e
  injection e with e
  simp only [Array.mk.injEq, List.cons.injEq, Value.agg.injEq, Value.slice.injEq, and_true] at e
  obtain ⟨⟨rfl, rfl, rfl⟩, rfl, rfl, rfl⟩ := e
  exact ⟨_, _, _, _, _, _, xs', L', i, p', rfl, h1, h2, h3, h4, h5, h6, hi, h7, h8, h9⟩
set_option maxHeartbeats 4000000 in
set_option maxRecDepth 100000 in
theorem lineIn_any (g p : Nat) (A : Option Addr) (n cap : Nat) (bs : List By) (w : World) (hp : p ≤ 190000) (hR : Rd w g p A n cap bs) :
    Calls Try.prog 34 #[.pointer (some ⟨g, 0, none⟩)] w (LineOut 500110 g p A n cap bs w) := by
  have hgw := hR.lt
  have HA : Hid (0 < n → ∀ a, A = some a → a.block < w.heap.size) := fun hn a e => hR.sl.under hn a e
  go_enter Try.func34, Try.ntmps34
  go_wp2_with fail
  obtain ⟨c0, z0, L0⟩ := box1 w (.slice none 0 0) 25
  have f0 : (w.alloc (.cells #[.slice none 0 0] 25)).frozen? ⟨w.heap.size, 0, none⟩ = false := World.frozen?_alloc_at _ _ _ _ rfl
  have R0 := hR.le L0
  generalize w.alloc (.cells #[.slice none 0 0] 25) = W at *
  refine (someProgram_any g p A n cap bs W (by omega) R0).mono ?_
  rintro e w1 ⟨B, D, m, c, q, d, xs, L, p1, rfl, S, hm, hab, SD, hq, hD, hp1, R, hg⟩
  have hz1 : w.heap.size < w1.heap.size := Nat.lt_of_lt_of_le z0 hg.size
  have PS : Ps w (w1.alloc (.cells #[.slice B m c] 25)) g p1 A n cap bs B m c xs w1.heap.size := by
    obtain ⟨ct, zt, LB⟩ := box1 w1 (.slice B m c) 25
    exact ⟨R.le LB, ((Gx.of_le (g := g) L0).trans hg).trans (Gx.of_le LB), hgw, (LB.cell hz1).trans ((hg.cell z0 (by omega)).trans c0), (LB.frozen hz1).trans ((hg.frozen z0 (by omega)).trans f0), ct, hz1, zt, S.le LB, fun hn a e => ⟨by have := hab hn a e; omega, S.under hn a e⟩⟩
  have SD1 := SD.alloc (.cells #[.slice B m c] 25)
  have hD1 : 0 < q → ∀ a, D = some a → w.heap.size < a.block := fun hn a e => by have := hD hn a e; omega
  have HD := Lib.hid hD1
  have HOF : Hid (0 < q → Off g D) := fun hn a e => by have := hD1 hn a e; omega
  clear R S SD hab hg R0 L0 f0 c0 z0 hR hD hD1
  go_wp2_with fail
  generalize w1.alloc (.cells #[.slice B m c] 25) = W1 at *
  generalize w1.heap.size = tb at *
  refine (pick_any 16 g p1 A n cap bs W1 (by omega) (by omega) (by omega) PS.R).mono ?_
  rintro e w2 ⟨y, rfl, _, _, R2, hg2⟩
  have PS2 := PS.call R2 hg2
  have SD2 := SD1.gx HOF.out hg2
  have ct := PS2.ct
  clear PS SD1 R2 hg2
  by_cases hy : y = 0
  · subst hy
    go_wp2_with fail
    have PD := PS2.le (Le.refl w2).drew
    have SDD := SD2.le (Le.refl w2).drew
    refine wp_region_noPanic ?_
    refine wp_region_held_drew (S := fun w' => w'.cell? ⟨tb, 0, none⟩ = some (.slice B m c)) (by kernel_rfl) PD.ct (fun hHeld => ?_)
    refine wpAnyH_takeL (i := 0) (v := ?_) rfl (by kernel_rfl) (by kernel_rfl) (by kernel_rfl) (fun _ _ _ h => h) (Or.inl ⟨by rfl, ?_⟩) (by assumption) ?_
    rotate_left 1
    · (intro w hSw; (try dsimp only at hSw); go_simp; try with_reducible rfl)
    try simp only [Act.put, List.setIfInBounds_toArray, List.set_cons_zero, List.set_cons_succ]
    refine wpAnyH_takeL (i := 1) (v := ?_) rfl (by kernel_rfl) (by kernel_rfl) (by kernel_rfl) (fun _ _ _ h => h) (Or.inl ⟨by rfl, ?_⟩) (by assumption) ?_
    rotate_left 1
    · (intro w hSw; (try dsimp only at hSw); go_simp; try with_reducible rfl)
    try simp only [Act.put, List.setIfInBounds_toArray, List.set_cons_zero, List.set_cons_succ]
    refine wpAnyH_takeL (i := 2) (v := ?_) rfl (by kernel_rfl) (by kernel_rfl) (by kernel_rfl) (fun _ _ _ h => h) (Or.inl ⟨by rfl, ?_⟩) (by assumption) ?_
    rotate_left 1
    · (intro w hSw; (try dsimp only at hSw); go_simp; try with_reducible rfl)
    try simp only [Act.put, List.setIfInBounds_toArray, List.set_cons_zero, List.set_cons_succ]
    refine wpAnyH_takeL (i := 3) (v := ?_) rfl (by kernel_rfl) (by kernel_rfl) (by kernel_rfl) (fun _ _ _ h => h) (Or.inl ⟨by rfl, ?_⟩) (by assumption) ?_
    rotate_left 1
    · (intro w hSw; (try dsimp only at hSw); go_simp; try with_reducible rfl)
    try simp only [Act.put, List.setIfInBounds_toArray, List.set_cons_zero, List.set_cons_succ]
    refine wpAnyH_takeL (i := 4) (v := ?_) rfl (by kernel_rfl) (by kernel_rfl) (by kernel_rfl) (fun _ _ _ h => h) (Or.inl ⟨by rfl, ?_⟩) (by assumption) ?_
    rotate_left 1
    · (intro w hSw; (try dsimp only at hSw); go_simp; try with_reducible rfl)
    try simp only [Act.put, List.setIfInBounds_toArray, List.set_cons_zero, List.set_cons_succ]
    refine wpAnyH_ready (rs := [5]) (by kernel_rfl) (by simp) (AllReadyH.consL (i := 5) rfl (fun K hK => ?_) AllReadyH.nil)
    go_simp
    have PB := PD.le (Le.new w2.drew (.cells #[.int .i64 (-1), .int .i64 (q : Int), .int .i64 24] 3))
    refine hK.out _ _ (PB.ct) (fun hHeld => ?_)
    clear hK K
    try simp only [Act.put, List.setIfInBounds_toArray, List.set_cons_zero, List.set_cons_succ]
    refine wpAnyH_ready (rs := [6]) (by kernel_rfl) (by simp) (AllReadyH.consL (i := 6) rfl (fun K hK => ?_) AllReadyH.nil)
    go_simp
    go_at_call 63
    refine (one_lit [-1, (q : Int), 24] 3 _ _ g (p1 + 1) A n cap bs w2.drew _ rfl rfl (by decide) (by decide) (by intro x hx; simp at hx; constructor <;> omega) (by omega) rfl PD.R).mono ?_
    rintro e w3 ⟨i, rfl, hi, R3, hg3⟩
    have hi1 : -1 ≤ i ∧ i ≤ 24 := by simp at hi; omega
    have P3 := PD.call R3 hg3
    have SD3 := SDD.gx HOF.out hg3
    have c3 := P3.c0
    have f3 := P3.f0
    refine hK.out _ _ (P3.ct) (fun hHeld => ?_)
    clear hK K
    try simp only [Act.put, List.setIfInBounds_toArray, List.set_cons_zero, List.set_cons_succ]
    refine wpAnyH_ready (rs := [7]) (by kernel_rfl) (by simp) (AllReadyH.consL (i := 7) rfl (fun K hK => ?_) AllReadyH.nil)
    go_simp
    have hend : ∀ u, (w3.setCell ⟨w.heap.size, 0, none⟩ u).cell? ⟨w.heap.size, 0, none⟩ = some u := fun u => cell_set_same c3
    refine hK.out _ _ (((cell_set_other (.inl (by have := P3.z0; omega))).trans P3.ct)) (fun hHeld => ?_)
    clear hK K
    try simp only [Act.put, List.setIfInBounds_toArray, List.set_cons_zero, List.set_cons_succ]
    refine wpAnyH_takeL (i := 8) (v := ?_) rfl (by kernel_rfl) (by kernel_rfl) (by kernel_rfl) (fun _ _ _ h => h) (Or.inl ⟨by rfl, ?_⟩) (by assumption) ?_
    rotate_left 1
    · (intro w hSw; (try dsimp only at hSw); go_simp; try with_reducible rfl)
    try simp only [Act.put, List.setIfInBounds_toArray, List.set_cons_zero, List.set_cons_succ]
    refine wpAnyH_takeL (i := 9) (v := ?_) rfl (by kernel_rfl) (by kernel_rfl) (by kernel_rfl) (fun _ _ _ h => h) (Or.inl ⟨by rfl, ?_⟩) (by assumption) ?_
    rotate_left 1
    · (intro w hSw; (try dsimp only at hSw); go_simp; try with_reducible rfl)
    try simp only [Act.put, List.setIfInBounds_toArray, List.set_cons_zero, List.set_cons_succ]
    refine wpAnyH_done (by kernel_rfl) ?_ _
    refine NoPanic.normal ?_
    have HF := Lib.hid (P3.outL HA.out hm SD3 hq HD.out hi1 (k := 500110) (p0 := p) (by omega) (.slice B m c))
    clear hHeld
    go_wp2
    exact bodyPost_ret (v := .tuple #[.agg #[.slice B m c], .slice D q d, .int .i64 i]) (by simp [results, Try.results34, go_sem, hend]) rfl HF.out
  · have hyb : (y == 0) = false := by simpa using hy
    clear hy
    go_wp2_with fail
    have PD := PS2.le (Le.refl w2).drew
    have SDD := SD2.le (Le.refl w2).drew
    refine wp_region_noPanic ?_
    refine wp_region_held_drew (S := fun w' => w'.cell? ⟨tb, 0, none⟩ = some (.slice B m c)) (by kernel_rfl) PD.ct (fun hHeld => ?_)
    refine wpAnyH_takeL (i := 0) (v := ?_) rfl (by kernel_rfl) (by kernel_rfl) (by kernel_rfl) (fun _ _ _ h => h) (Or.inl ⟨by rfl, ?_⟩) (by assumption) ?_
    rotate_left 1
    · (intro w hSw; (try dsimp only at hSw); go_simp; try with_reducible rfl)
    try simp only [Act.put, List.setIfInBounds_toArray, List.set_cons_zero, List.set_cons_succ]
    refine wpAnyH_takeL (i := 1) (v := ?_) rfl (by kernel_rfl) (by kernel_rfl) (by kernel_rfl) (fun _ _ _ h => h) (Or.inl ⟨by rfl, ?_⟩) (by assumption) ?_
    rotate_left 1
    · (intro w hSw; (try dsimp only at hSw); go_simp; try with_reducible rfl)
    try simp only [Act.put, List.setIfInBounds_toArray, List.set_cons_zero, List.set_cons_succ]
    refine wpAnyH_takeL (i := 2) (v := ?_) rfl (by kernel_rfl) (by kernel_rfl) (by kernel_rfl) (fun _ _ _ h => h) (Or.inl ⟨by rfl, ?_⟩) (by assumption) ?_
    rotate_left 1
    · (intro w hSw; (try dsimp only at hSw); go_simp; try with_reducible rfl)
    try simp only [Act.put, List.setIfInBounds_toArray, List.set_cons_zero, List.set_cons_succ]
    refine wpAnyH_takeL (i := 3) (v := ?_) rfl (by kernel_rfl) (by kernel_rfl) (by kernel_rfl) (fun _ _ _ h => h) (Or.inl ⟨by rfl, ?_⟩) (by assumption) ?_
    rotate_left 1
    · (intro w hSw; (try dsimp only at hSw); go_simp; try with_reducible rfl)
    try simp only [Act.put, List.setIfInBounds_toArray, List.set_cons_zero, List.set_cons_succ]
    refine wpAnyH_takeL (i := 4) (v := ?_) rfl (by kernel_rfl) (by kernel_rfl) (by kernel_rfl) (fun _ _ _ h => h) (Or.inl ⟨by rfl, ?_⟩) (by assumption) ?_
    rotate_left 1
    · (intro w hSw; (try dsimp only at hSw); go_simp; try with_reducible rfl)
    try simp only [Act.put, List.setIfInBounds_toArray, List.set_cons_zero, List.set_cons_succ]
    refine wpAnyH_ready (rs := [5]) (by kernel_rfl) (by simp) (AllReadyH.consL (i := 5) rfl (fun K hK => ?_) AllReadyH.nil)
    go_simp
    go_at_call 33
    refine (pick_any (q : Int) g (p1 + 1) A n cap bs w2.drew (by omega) (by omega) (by omega) PD.R).mono ?_
    rintro e w3 ⟨i, rfl, hi0, hi2, R3, hg3⟩
    have hi1 : -1 ≤ i ∧ i ≤ 24 := by rcases hi2 with h | h <;> omega
    have P3 := PD.call R3 hg3
    have SD3 := SDD.gx HOF.out hg3
    have c3 := P3.c0
    have f3 := P3.f0
    refine hK.out _ _ (P3.ct) (fun hHeld => ?_)
    clear hK K
    try simp only [Act.put, List.setIfInBounds_toArray, List.set_cons_zero, List.set_cons_succ]
    refine wpAnyH_ready (rs := [6]) (by kernel_rfl) (by simp) (AllReadyH.consL (i := 6) rfl (fun K hK => ?_) AllReadyH.nil)
    go_simp
    have hend : ∀ u, (w3.setCell ⟨w.heap.size, 0, none⟩ u).cell? ⟨w.heap.size, 0, none⟩ = some u := fun u => cell_set_same c3
    refine hK.out _ _ (((cell_set_other (.inl (by have := P3.z0; omega))).trans P3.ct)) (fun hHeld => ?_)
    clear hK K
    try simp only [Act.put, List.setIfInBounds_toArray, List.set_cons_zero, List.set_cons_succ]
    refine wpAnyH_takeL (i := 7) (v := ?_) rfl (by kernel_rfl) (by kernel_rfl) (by kernel_rfl) (fun _ _ _ h => h) (Or.inl ⟨by rfl, ?_⟩) (by assumption) ?_
    rotate_left 1
    · (intro w hSw; (try dsimp only at hSw); go_simp; try with_reducible rfl)
    try simp only [Act.put, List.setIfInBounds_toArray, List.set_cons_zero, List.set_cons_succ]
    refine wpAnyH_takeL (i := 8) (v := ?_) rfl (by kernel_rfl) (by kernel_rfl) (by kernel_rfl) (fun _ _ _ h => h) (Or.inl ⟨by rfl, ?_⟩) (by assumption) ?_
    rotate_left 1
    · (intro w hSw; (try dsimp only at hSw); go_simp; try with_reducible rfl)
    try simp only [Act.put, List.setIfInBounds_toArray, List.set_cons_zero, List.set_cons_succ]
    refine wpAnyH_done (by kernel_rfl) ?_ _
    refine NoPanic.normal ?_
    have HF := Lib.hid (P3.outL HA.out hm SD3 hq HD.out hi1 (k := 500110) (p0 := p) (by omega) (.slice B m c))
    clear hHeld
    go_wp2
    exact bodyPost_ret (v := .tuple #[.agg #[.slice B m c], .slice D q d, .int .i64 i]) (by simp [results, Try.results34, go_sem, hend]) rfl HF.out
end

section
/-- a program and a line that were drawn for a law -/
def DrawnPL (w : World) (e : Ending) (w' : World) : Prop :=
  ∃ (B D : Option Addr) (m c q d : Nat) (xs : List Cls) (L : List Lin) (i : Int), e = .returned (.tuple #[.agg #[.slice B m c], .slice D q d, .int .i64 i]) ∧ Sl w' B m c xs ∧ m ≤ 8 ∧ Sl w' D q d L ∧ q ≤ 24 ∧ (-1 ≤ i ∧ i ≤ 24) ∧ Le w w'
/-- a program that was drawn for a law -/
def DrawnPr (w : World) (e : Ending) (w' : World) : Prop :=
  ∃ (B D : Option Addr) (m c q d : Nat) (xs : List Cls) (L : List Lin), e = .returned (.tuple #[.agg #[.slice B m c], .slice D q d]) ∧ Sl w' B m c xs ∧ m ≤ 8 ∧ Sl w' D q d L ∧ q ≤ 24 ∧ Le w w'
end
end Go.Proofs.Ytomdhpfelchjeaa
