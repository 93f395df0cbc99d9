/- one text of TkC, GrB, TkF -/
import Derived.Test.YtnjckloodkdbpaaDoorCq8
import Derived.Test.YtnjckloodkdbpaaDoorCq7
import Derived.Test.YtnjckloodkdbpaaDoorCq2
namespace Go.Proofs.YtnjckloodkdbpaaDoor
open Go.RowKit
set_option linter.unusedVariables false
section
theorem box3Z (w : World) (T : TypeId) (t : Int) : (w.alloc (.cells #[.string ⟨#[]⟩, .int .i64 0, .int .i64 t] T)).cell? ⟨w.heap.size, 0, none⟩ = some (.string ⟨#[]⟩) ∧ (w.alloc (.cells #[.string ⟨#[]⟩, .int .i64 0, .int .i64 t] T)).cell? ⟨w.heap.size, 1, none⟩ = some (.int .i64 0) ∧ (w.alloc (.cells #[.string ⟨#[]⟩, .int .i64 0, .int .i64 t] T)).cell? ⟨w.heap.size, 2, none⟩ = some (.int .i64 t) ∧ w.heap.size < (w.alloc (.cells #[.string ⟨#[]⟩, .int .i64 0, .int .i64 t] T)).heap.size ∧ (∀ o, (w.alloc (.cells #[.string ⟨#[]⟩, .int .i64 0, .int .i64 t] T)).frozen? ⟨w.heap.size, o, none⟩ = false) ∧ Le w (w.alloc (.cells #[.string ⟨#[]⟩, .int .i64 0, .int .i64 t] T)) := by
  refine ⟨?_, ?_, ?_, by simp, fun o => World.frozen?_alloc_at _ _ _ _ rfl, Le.new w _⟩ <;> (rw [World.cell?_alloc_at _ _ _ _ rfl]; rfl)
/-- a box of a row lies at block b -/
structure RowAt (w : World) (b : Nat) (r : Rwf) : Prop where
  c0 : w.cell? ⟨b, 0, none⟩ = some (.string r.fn)
  c1 : w.cell? ⟨b, 1, none⟩ = some (.int .i64 r.line)
  c2 : w.cell? ⟨b, 2, none⟩ = some (.int .i64 r.times)
  z : b < w.heap.size
  f : ∀ o, w.frozen? ⟨b, o, none⟩ = false
theorem RowAt.le {w w' : World} {b : Nat} {r : Rwf} (h : RowAt w b r) (hl : Le w w') : RowAt w' b r := ⟨(hl.cell h.z).trans h.c0, (hl.cell h.z).trans h.c1, (hl.cell h.z).trans h.c2, Nat.lt_of_lt_of_le h.z hl.size, fun o => (hl.frozen h.z).trans (h.f o)⟩
theorem RowAt.set2 {w : World} {b : Nat} {r : Rwf} (h : RowAt w b r) (t : Int) : RowAt (w.setCell ⟨b, 2, none⟩ (.int .i64 t)) b ⟨r.fn, r.line, t⟩ :=
  ⟨(cell_set_other (.inr (by decide))).trans h.c0, (cell_set_other (.inr (by decide))).trans h.c1, cell_set_same h.c2, by simpa [World.setCell] using h.z, fun o => (World.frozen?_setCell ..).trans (h.f o)⟩
theorem RowAt.set1 {w : World} {b : Nat} {r : Rwf} (h : RowAt w b r) (t : Int) : RowAt (w.setCell ⟨b, 1, none⟩ (.int .i64 t)) b ⟨r.fn, t, r.times⟩ :=
  ⟨(cell_set_other (.inr (by decide))).trans h.c0, cell_set_same h.c1, (cell_set_other (.inr (by decide))).trans h.c2, by simpa [World.setCell] using h.z, fun o => (World.frozen?_setCell ..).trans (h.f o)⟩
theorem RowAt.set0 {w : World} {b : Nat} {r : Rwf} (h : RowAt w b r) (t : ByteArray) : RowAt (w.setCell ⟨b, 0, none⟩ (.string t)) b ⟨t, r.line, r.times⟩ :=
  ⟨cell_set_same h.c0, (cell_set_other (.inr (by decide))).trans h.c1, (cell_set_other (.inr (by decide))).trans h.c2, by simpa [World.setCell] using h.z, fun o => (World.frozen?_setCell ..).trans (h.f o)⟩
theorem RowAt.other {w : World} {b q o : Nat} {r : Rwf} {u : Value} (h : RowAt w b r) (hq : q ≠ b) : RowAt (w.setCell ⟨q, o, none⟩ u) b r :=
  ⟨(cell_set_other (.inl (by omega))).trans h.c0, (cell_set_other (.inl (by omega))).trans h.c1, (cell_set_other (.inl (by omega))).trans h.c2, by simpa [World.setCell] using h.z, fun o => (World.frozen?_setCell ..).trans (h.f o)⟩
theorem pRowS_one {l p a b : List UInt8} (h : splitL 42 l = [p]) (k : splitL 58 p = [a, b]) : pRowS l = ⟨tb a, rdN 1000 b, 1⟩ := by unfold pRowS; rw [h]; dsimp only; rw [k]
theorem pRowS_two {l p q a b : List UInt8} (h : splitL 42 l = [p, q]) (k : splitL 58 p = [a, b]) : pRowS l = ⟨tb a, rdN 1000 b, rdN 1000 q⟩ := by unfold pRowS; rw [h]; dsimp only; rw [k]
theorem pRowS_bad {l p : List UInt8} {r : List (List UInt8)} (h : splitL 42 l = p :: r) (k : (splitL 58 p).length ≠ 2 ∨ 2 ≤ r.length) : pRowS l = rwf0 := by
  unfold pRowS
  rw [h]
  match r, k with
  | [], .inr k => simp at k
  | [q], .inr k => simp at k
  | [], .inl k =>
    dsimp only
    match e : splitL 58 p, k with
    | [], _ => rfl
    | [a], _ => rfl
    | [a, b], k => simp at k
    | a :: b :: c :: t, _ => rfl
  | [q], .inl k =>
    dsimp only
    match e : splitL 58 p, k with
    | [], _ => rfl
    | [a], _ => rfl
    | [a, b], k => simp at k
    | a :: b :: c :: t, _ => rfl
  | x :: y :: t, _ => rfl
theorem splitL_piece (c : UInt8) : ∀ l : List UInt8, ∀ x ∈ splitL c l, x.length ≤ l.length
  | [], x, h => by simp [splitL] at h; subst h; exact Nat.le_refl _
  | y :: l, x, h => by
    have ih := splitL_piece c l
    rw [splitL] at h
    split at h
    · rcases List.mem_cons.1 h with rfl | h
      · exact Nat.zero_le _
      · have := ih x h; simp; omega
    · split at h
      · simp at h; subst h; simp
      · rename_i a t e
        rw [e] at ih
        rcases List.mem_cons.1 h with rfl | h
        · have := ih a (by simp); simp; omega
        · have := ih x (List.mem_cons_of_mem _ h); simp; omega
theorem str_at {w : World} {A : Option Addr} {n cap : Nat} {xs : List ByteArray} (h : Sl w A n cap xs) {k : Nat} (hk : k < xs.length) : ∃ b off, A = some ⟨b, off, none⟩ ∧ b < w.heap.size ∧ w.cell? ⟨b, off + k, none⟩ = some (.string xs[k]) := by
  obtain ⟨b, off, e, hb, hc⟩ := h.cells_ hk
  have := hc 0 (by decide) _ rfl
  exact ⟨b, off, e, hb, by simpa [Enc.size] using this⟩
def RowOut (r : Rwf) (w : World) (e : Ending) (w' : World) : Prop := e = .returned (.agg #[.string r.fn, .int .i64 r.line, .int .i64 r.times]) ∧ Le w w'
set_option maxHeartbeats 2000000 in
set_option maxRecDepth 100000 in
theorem sparseRow_any (s : ByteArray) (w : World) (hs : s.size ≤ 1048576) :
    Calls Tryd.prog 37 #[.string s] w (RowOut (pRowS (bl s)) w) := by
  obtain ⟨p, r, hP⟩ : ∃ p r, splitL 42 (bl s) = p :: r := by
    cases e : splitL 42 (bl s) with
    | nil => exact absurd e (splitL_ne 42 _)
    | cons p r => exact ⟨p, r, rfl⟩
  have hpl : (tb p).size ≤ 1048576 := by
    have := splitL_piece 42 (bl s) p (by rw [hP]; simp)
    rw [bl_len] at this; show p.length ≤ _; omega
  obtain ⟨z, hz⟩ : ∃ z, Hid (pRowS (bl s) = z) := ⟨_, Lib.hid rfl⟩
  have H1 : Hid (∀ a b, r = [] → splitL 58 p = [a, b] → z = ⟨tb a, rdN 1000 b, 1⟩) := fun a b h1 h2 => by rw [← hz.out]; exact pRowS_one (by rw [hP, h1]) h2
  have H2 : Hid (∀ q a b, r = [q] → splitL 58 p = [a, b] → z = ⟨tb a, rdN 1000 b, rdN 1000 q⟩) := fun q a b h1 h2 => by rw [← hz.out]; exact pRowS_two (by rw [hP, h1]) h2
  have HB : Hid ((splitL 58 p).length ≠ 2 ∨ 2 ≤ r.length → z = rwf0) := fun h => by rw [← hz.out]; exact pRowS_bad hP h
  have HQ : Hid (∀ x ∈ p :: r, (tb x).size ≤ 1048576) := fun x hx => by
    have := splitL_piece 42 (bl s) x (by rw [hP]; exact hx)
    rw [bl_len] at this; show x.length ≤ _; omega
  go_enter Tryd.func37, Tryd.ntmps37
  go_wp2_with fail
  obtain ⟨a0, a1, a2, ya, fa, LA⟩ := box3Z w 47 0
  have RA : RowAt (w.alloc (.cells #[.string ⟨#[]⟩, .int .i64 0, .int .i64 0] 47)) w.heap.size rwf0 := ⟨a0, a1, a2, ya, fa⟩
  have ha1 : (w.alloc (.cells #[.string ⟨#[]⟩, .int .i64 0, .int .i64 0] 47)).heap.size = w.heap.size + 1 := by simp
  clear a0 a1 a2 ya fa
  generalize w.alloc (.cells #[.string ⟨#[]⟩, .int .i64 0, .int .i64 0] 47) = WA at *
  obtain ⟨b0, b1, b2, yb, fb, LB⟩ := box3Z WA 47 1
  have RB : RowAt (WA.alloc (.cells #[.string ⟨#[]⟩, .int .i64 0, .int .i64 1] 47)) (w.heap.size + 1) ⟨⟨#[]⟩, 0, 1⟩ := by rw [← ha1]; exact ⟨b0, b1, b2, yb, fb⟩
  have RA2 := RA.le LB
  have L0 := LA.trans LB
  clear b0 b1 b2 yb fb LA LB ha1 RA
  generalize WA.alloc (.cells #[.string ⟨#[]⟩, .int .i64 0, .int .i64 1] 47) = WB at *
  refine (splitAt_any s 42 WB hs).mono ?_
  rintro e w1 ⟨v, rfl, D, hle⟩
  obtain ⟨A1, c1, rfl, S, hB1⟩ := D.form (by decide)
  have zB := RB.z
  rw [hP] at S hB1 ⊢
  have HB1 : Hid (∀ b o, A1 = some ⟨b, o, none⟩ → w.heap.size + 1 < b) := fun b o e => by
    have := (hB1 b (by rw [e]; simp [Value.ownBlock])).1
    omega
  clear hB1 zB
  replace RA := RA2.le hle
  replace RB := RB.le hle
  replace L0 := L0.trans hle
  clear RA2 D hle hP
  rw [List.length_map, List.map_cons] at S
  rw [List.length_map]
  have hp0 : 0 < (p :: r).length := by simp
  match r with
  | [] =>
    obtain ⟨b1, o1, rfl, hb1, k0⟩ := str_at S (k := 0) (by simp)
    rw [List.getElem_cons_zero, Nat.add_zero] at k0
    obtain ⟨tt, htt⟩ : ∃ tt : Int, tt = 1 := ⟨1, rfl⟩
    rw [← htt] at RB
    go_wp2_with fail
    refine (splitAt_any (tb p) 58 w1 hpl).mono ?_
    rintro e wq ⟨v2, rfl, D2, hle⟩
    obtain ⟨A2, c2, rfl, S2, -⟩ := D2.form (by decide)
    replace RA := RA.le hle
    replace RB := RB.le hle
    replace L0 := L0.trans hle
    clear D2 hle
    rw [bl_tb] at S2 ⊢
    by_cases hq2 : (splitL 58 p).length = 2
    rotate_left
    · have hzz : Hid (z = rwf0) := HB.out (.inl hq2)
      have hnb : (((((splitL 58 p).map tb).length : Nat) : Int) != 2) = true := by rw [List.length_map, bne_iff_ne]; omega
      have hnb2 : (((splitL 58 p).length : Int) != 2) = true := by rw [bne_iff_ne]; omega
      clear S2
      have R1 := RA.set0 ⟨#[]⟩
      have R2 := R1.set1 0
      have R3 := R2.set2 0
      have a0 := RA.c0
      have g0 := RA.f 0
      have a1 := R1.c1
      have g1 := R1.f 1
      have a2 := R2.c2
      have g2 := R2.f 2
      have m0 := R3.c0
      have m1 := R3.c1
      have m2 := R3.c2
      have LF := ((L0.setCell (b := w.heap.size) (o := 0) (Nat.le_refl _) (.string ⟨#[]⟩)).setCell (b := w.heap.size) (o := 1) (Nat.le_refl _) (.int .i64 0)).setCell (b := w.heap.size) (o := 2) (Nat.le_refl _) (.int .i64 0)
      clear RA RB R1 R2 R3 L0
      go_wp2
      exact bodyPost_ret (v := .agg #[.string ⟨#[]⟩, .int .i64 0, .int .i64 0]) (by simp [results, Tryd.results37, go_sem, m0, m1, m2]) rfl ⟨by rw [hz.out, hzz.out]; rfl, LF⟩
    obtain ⟨a, b, hab⟩ : ∃ a b, splitL 58 p = [a, b] := by
      match e : splitL 58 p, hq2 with
      | [a, b], _ => exact ⟨a, b, rfl⟩
    have HPQ := Lib.hid hab
    rw [hab] at S2 ⊢
    clear hq2
    rw [List.map_cons, List.map_cons, List.map_nil] at S2 ⊢
    have hzz : Hid (z = ⟨tb a, rdN 1000 b, tt⟩) := by rw [htt]; exact H1.out a b trivial hab
    clear hab H1 H2 HB htt
    obtain ⟨b2, o2, rfl, hb2, k0⟩ := str_at S2 (k := 0) (by simp)
    obtain ⟨b3, o3, e3, -, k1⟩ := str_at S2 (k := 1) (by simp)
    simp only [Option.some.injEq, Addr.mk.injEq, and_true] at e3
    obtain ⟨rfl, rfl⟩ := e3
    simp only [List.getElem_cons_zero, List.getElem_cons_succ, Nat.add_zero] at k0 k1
    have hbs : (tb b).size ≤ 1048576 := by
      have := splitL_piece 58 p b (by rw [HPQ.out]; simp)
      have h3 : p.length ≤ 1048576 := hpl
      show b.length ≤ _; omega
    have HRL := Lib.hid (fun W => readLine_any (tb b) W hbs)
    have ebb : Hid (rdN 1000 (bl (tb b)) = rdN 1000 b) := rfl
    rw [ebb.out] at HRL
    have d0 : wq.drew.cell? ⟨b2, o2, none⟩ = some (.string (tb a)) := k0
    have d1 : wq.drew.cell? ⟨b2, o2 + 1, none⟩ = some (.string (tb b)) := k1
    have RBd := RB.le (Le.refl wq).drew
    have RAd := RA.le (Le.refl wq).drew
    have Ld := L0.trans (Le.refl wq).drew
    have R1 := RBd.set0 (tb a)
    have R2 := R1.set1 (rdN 1000 b)
    have A1' := (RAd.other (q := w.heap.size + 1) (o := 0) (u := .string (tb a)) (by omega)).other (q := w.heap.size + 1) (o := 1) (u := .int .i64 (rdN 1000 b)) (by omega)
    have q0 := RBd.c0
    have h0 := RBd.f 0
    have q1 := R1.c1
    have p1 := RBd.c1
    have j1 := RBd.f 1
    have h1 := R1.f 1
    have LD := (Ld.setCell (b := w.heap.size + 1) (o := 0) (by omega) (.string (tb a))).setCell (b := w.heap.size + 1) (o := 1) (by omega) (.int .i64 (rdN 1000 b))
    generalize rdN 1000 b = nb at *
    generalize tb b = tbb at *
    generalize tb a = ta at *
    clear S2 RA RB L0 k0 k1 RAd RBd Ld R1
    go_wp2_with fail
    refine wp_region_Z (fun w' => w'.cell? ⟨b2, o2, none⟩ = some (.string ta) ∧ w'.cell? ⟨b2, o2 + 1, none⟩ = some (.string tbb)) [9] (by kernel_rfl) ?_
    generalize wq.drew = WD at *
    refine wpAnyZ_take (i := 0) (v := ?_) rfl (by kernel_rfl) (fun _ _ _ h => h) (Or.inl ⟨by rfl, ?_⟩) (⟨d0, d1⟩) ?_
    rotate_left 1
    · (intro w hSw; (try dsimp only at hSw); go_simp; try with_reducible rfl)
    try simp only [Act.put, List.setIfInBounds_toArray, List.set_cons_zero, List.set_cons_succ]
    refine wpAnyZ_take (i := 1) (v := ?_) rfl (by kernel_rfl) (fun _ _ _ h => h) (Or.inl ⟨by rfl, ?_⟩) (⟨d0, d1⟩) ?_
    rotate_left 1
    · (intro w hSw; (try dsimp only at hSw); go_simp; try with_reducible rfl)
    try simp only [Act.put, List.setIfInBounds_toArray, List.set_cons_zero, List.set_cons_succ]
    refine wpAnyZ_take (i := 2) (v := ?_) rfl (by kernel_rfl) (fun _ _ _ h => h) (Or.inl ⟨by rfl, ?_⟩) (⟨d0, d1⟩) ?_
    rotate_left 1
    · (intro w hSw; (try dsimp only at hSw); go_simp; try with_reducible rfl)
    try simp only [Act.put, List.setIfInBounds_toArray, List.set_cons_zero, List.set_cons_succ]
    refine wpAnyZ_take (i := 3) (v := ?_) rfl (by kernel_rfl) (fun _ _ _ h => h) (Or.inl ⟨by rfl, ?_⟩) (⟨d0, d1⟩) ?_
    rotate_left 1
    · (intro w hSw; (try dsimp only at hSw); go_simp; try with_reducible rfl)
    try simp only [Act.put, List.setIfInBounds_toArray, List.set_cons_zero, List.set_cons_succ]
    refine wpAnyZ_take (i := 4) (v := ?_) rfl (by kernel_rfl) (fun _ _ _ h => h) (Or.inl ⟨by rfl, ?_⟩) (⟨d0, d1⟩) ?_
    rotate_left 1
    · (intro w hSw; (try dsimp only at hSw); go_simp; try with_reducible rfl)
    try simp only [Act.put, List.setIfInBounds_toArray, List.set_cons_zero, List.set_cons_succ]
    refine wpAnyZ_take (i := 5) (v := ?_) rfl (by kernel_rfl) (fun _ _ _ h => h) (Or.inl ⟨by rfl, ?_⟩) (⟨d0, d1⟩) ?_
    rotate_left 1
    · (intro w hSw; (try dsimp only at hSw); go_simp; try with_reducible rfl)
    try simp only [Act.put, List.setIfInBounds_toArray, List.set_cons_zero, List.set_cons_succ]
    refine wpAnyZ_one (i := 6) (by kernel_rfl) (ReadyZ.mk rfl (fun K hK => ?_))
    go_simp
    go_at_call 58
    refine (HRL.out _).mono ?_
    rintro e wz ⟨rfl, rfl⟩
    dsimp only
    refine hK.out _ _ (fun _ => ⟨d0, d1⟩) ?_
    clear hK K
    try simp only [Act.put, List.setIfInBounds_toArray, List.set_cons_zero, List.set_cons_succ]
    refine wpAnyZ_take (i := 7) (v := ?_) rfl (by kernel_rfl) (fun _ _ _ h => h) (Or.inl ⟨by rfl, ?_⟩) (⟨d0, d1⟩) ?_
    rotate_left 1
    · (intro w hSw; (try dsimp only at hSw); go_simp; try with_reducible rfl)
    try simp only [Act.put, List.setIfInBounds_toArray, List.set_cons_zero, List.set_cons_succ]
    refine wpAnyZ_take (i := 8) (v := ?_) rfl (by kernel_rfl) (fun _ _ _ h => h) (Or.inl ⟨by rfl, ?_⟩) (⟨d0, d1⟩) ?_
    rotate_left 1
    · (intro w hSw; (try dsimp only at hSw); go_simp; try with_reducible rfl)
    try simp only [Act.put, List.setIfInBounds_toArray, List.set_cons_zero, List.set_cons_succ]
    refine wpAnyZ_one (i := 9) (by kernel_rfl) (ReadyZ.mk rfl (fun K hK => ?_))
    go_simp
    refine hK.out _ _ (fun h => absurd h (by decide)) ?_
    clear hK K
    try simp only [Act.put, List.setIfInBounds_toArray, List.set_cons_zero, List.set_cons_succ]
    refine wpAnyZ_done (by kernel_rfl) ?_ _
    clear d0 d1
    generalize ((WD.setCell ⟨w.heap.size + 1, 0, none⟩ (.string ta)).setCell ⟨w.heap.size + 1, 1, none⟩ (.int .i64 nb)) = WZ at *
    have S1 := A1'.set0 ta
    have S2 := S1.set1 nb
    have S3 := S2.set2 tt
    have a0 := A1'.c0
    have g0 := A1'.f 0
    have a1 := S1.c1
    have g1 := S1.f 1
    have a2 := S2.c2
    have g2 := S2.f 2
    have m0 := S3.c0
    have m1 := S3.c1
    have m2 := S3.c2
    have n0 := R2.c0
    have n1 := R2.c1
    have n2 := R2.c2
    have LF := ((LD.setCell (b := w.heap.size) (o := 0) (Nat.le_refl _) (.string ta)).setCell (b := w.heap.size) (o := 1) (Nat.le_refl _) (.int .i64 nb)).setCell (b := w.heap.size) (o := 2) (Nat.le_refl _) (.int .i64 tt)
    clear A1' R2 S1 S2 S3 LD
    go_wp2
    exact bodyPost_ret (v := .agg #[.string ta, .int .i64 nb, .int .i64 tt]) (by simp [results, Tryd.results37, go_sem, m0, m1, m2]) rfl ⟨by rw [hz.out, hzz.out], LF⟩
  | [q] =>
    obtain ⟨b1, o1, rfl, hb1, k0⟩ := str_at S (k := 0) (by simp)
    obtain ⟨b1', o1', e1, -, k1⟩ := str_at S (k := 1) (by simp)
    simp only [Option.some.injEq, Addr.mk.injEq, and_true] at e1
    obtain ⟨rfl, rfl⟩ := e1
    simp only [List.getElem_cons_zero, List.getElem_cons_succ, Nat.add_zero, List.map_cons, List.map_nil] at k0 k1
    have hqs := HQ.out q (by simp)
    have HRQ := Lib.hid (readLine_any (tb q) w1 hqs)
    have eqq : Hid (rdN 1000 (bl (tb q)) = rdN 1000 q) := rfl
    rw [eqq.out] at HRQ
    obtain ⟨tt, htt⟩ : ∃ tt : Int, rdN 1000 q = tt := ⟨_, rfl⟩
    rw [htt] at HRQ
    go_wp2_with fail
    refine HRQ.out.mono ?_
    rintro e wz ⟨rfl, rfl⟩
    have c2 := RB.c2
    have f2 := RB.f 2
    have k0' : (w1.setCell ⟨w.heap.size + 1, 2, none⟩ (.int .i64 tt)).cell? ⟨b1, o1, none⟩ = some (.string (tb p)) := (cell_set_other (.inl (by have := HB1.out _ _ rfl; show w.heap.size + 1 ≠ b1; omega))).trans k0
    replace RB := RB.set2 tt
    replace RA := RA.other (q := w.heap.size + 1) (o := 2) (u := .int .i64 tt) (by omega)
    replace L0 := L0.setCell (b := w.heap.size + 1) (o := 2) (by omega) (.int .i64 tt)
    go_wp2_with fail
    refine (splitAt_any (tb p) 58 _ hpl).mono ?_
    rintro e wq ⟨v2, rfl, D2, hle⟩
    obtain ⟨A2, c2, rfl, S2, -⟩ := D2.form (by decide)
    replace RA := RA.le hle
    replace RB := RB.le hle
    replace L0 := L0.trans hle
    clear D2 hle
    rw [bl_tb] at S2 ⊢
    by_cases hq2 : (splitL 58 p).length = 2
    rotate_left
    · have hzz : Hid (z = rwf0) := HB.out (.inl hq2)
      have hnb : (((((splitL 58 p).map tb).length : Nat) : Int) != 2) = true := by rw [List.length_map, bne_iff_ne]; omega
      have hnb2 : (((splitL 58 p).length : Int) != 2) = true := by rw [bne_iff_ne]; omega
      clear S2
      have R1 := RA.set0 ⟨#[]⟩
      have R2 := R1.set1 0
      have R3 := R2.set2 0
      have a0 := RA.c0
      have g0 := RA.f 0
      have a1 := R1.c1
      have g1 := R1.f 1
      have a2 := R2.c2
      have g2 := R2.f 2
      have m0 := R3.c0
      have m1 := R3.c1
      have m2 := R3.c2
      have LF := ((L0.setCell (b := w.heap.size) (o := 0) (Nat.le_refl _) (.string ⟨#[]⟩)).setCell (b := w.heap.size) (o := 1) (Nat.le_refl _) (.int .i64 0)).setCell (b := w.heap.size) (o := 2) (Nat.le_refl _) (.int .i64 0)
      clear RA RB R1 R2 R3 L0
      go_wp2
      exact bodyPost_ret (v := .agg #[.string ⟨#[]⟩, .int .i64 0, .int .i64 0]) (by simp [results, Tryd.results37, go_sem, m0, m1, m2]) rfl ⟨by rw [hz.out, hzz.out]; rfl, LF⟩
    obtain ⟨a, b, hab⟩ : ∃ a b, splitL 58 p = [a, b] := by
      match e : splitL 58 p, hq2 with
      | [a, b], _ => exact ⟨a, b, rfl⟩
    have HPQ := Lib.hid hab
    rw [hab] at S2 ⊢
    clear hq2
    rw [List.map_cons, List.map_cons, List.map_nil] at S2 ⊢
    have hzz : Hid (z = ⟨tb a, rdN 1000 b, tt⟩) := by rw [← htt]; exact H2.out q a b rfl hab
    clear hab H1 H2 HB htt
    obtain ⟨b2, o2, rfl, hb2, k0⟩ := str_at S2 (k := 0) (by simp)
    obtain ⟨b3, o3, e3, -, k1⟩ := str_at S2 (k := 1) (by simp)
    simp only [Option.some.injEq, Addr.mk.injEq, and_true] at e3
    obtain ⟨rfl, rfl⟩ := e3
    simp only [List.getElem_cons_zero, List.getElem_cons_succ, Nat.add_zero] at k0 k1
    have hbs : (tb b).size ≤ 1048576 := by
      have := splitL_piece 58 p b (by rw [HPQ.out]; simp)
      have h3 : p.length ≤ 1048576 := hpl
      show b.length ≤ _; omega
    have HRL := Lib.hid (fun W => readLine_any (tb b) W hbs)
    have ebb : Hid (rdN 1000 (bl (tb b)) = rdN 1000 b) := rfl
    rw [ebb.out] at HRL
    have d0 : wq.drew.cell? ⟨b2, o2, none⟩ = some (.string (tb a)) := k0
    have d1 : wq.drew.cell? ⟨b2, o2 + 1, none⟩ = some (.string (tb b)) := k1
    have RBd := RB.le (Le.refl wq).drew
    have RAd := RA.le (Le.refl wq).drew
    have Ld := L0.trans (Le.refl wq).drew
    have R1 := RBd.set0 (tb a)
    have R2 := R1.set1 (rdN 1000 b)
    have A1' := (RAd.other (q := w.heap.size + 1) (o := 0) (u := .string (tb a)) (by omega)).other (q := w.heap.size + 1) (o := 1) (u := .int .i64 (rdN 1000 b)) (by omega)
    have q0 := RBd.c0
    have h0 := RBd.f 0
    have q1 := R1.c1
    have p1 := RBd.c1
    have j1 := RBd.f 1
    have h1 := R1.f 1
    have LD := (Ld.setCell (b := w.heap.size + 1) (o := 0) (by omega) (.string (tb a))).setCell (b := w.heap.size + 1) (o := 1) (by omega) (.int .i64 (rdN 1000 b))
    generalize rdN 1000 b = nb at *
    generalize tb b = tbb at *
    generalize tb a = ta at *
    clear S2 RA RB L0 k0 k1 RAd RBd Ld R1
    go_wp2_with fail
    refine wp_region_Z (fun w' => w'.cell? ⟨b2, o2, none⟩ = some (.string ta) ∧ w'.cell? ⟨b2, o2 + 1, none⟩ = some (.string tbb)) [9] (by kernel_rfl) ?_
    generalize wq.drew = WD at *
    refine wpAnyZ_take (i := 0) (v := ?_) rfl (by kernel_rfl) (fun _ _ _ h => h) (Or.inl ⟨by rfl, ?_⟩) (⟨d0, d1⟩) ?_
    rotate_left 1
    · (intro w hSw; (try dsimp only at hSw); go_simp; try with_reducible rfl)
    try simp only [Act.put, List.setIfInBounds_toArray, List.set_cons_zero, List.set_cons_succ]
    refine wpAnyZ_take (i := 1) (v := ?_) rfl (by kernel_rfl) (fun _ _ _ h => h) (Or.inl ⟨by rfl, ?_⟩) (⟨d0, d1⟩) ?_
    rotate_left 1
    · (intro w hSw; (try dsimp only at hSw); go_simp; try with_reducible rfl)
    try simp only [Act.put, List.setIfInBounds_toArray, List.set_cons_zero, List.set_cons_succ]
    refine wpAnyZ_take (i := 2) (v := ?_) rfl (by kernel_rfl) (fun _ _ _ h => h) (Or.inl ⟨by rfl, ?_⟩) (⟨d0, d1⟩) ?_
    rotate_left 1
    · (intro w hSw; (try dsimp only at hSw); go_simp; try with_reducible rfl)
    try simp only [Act.put, List.setIfInBounds_toArray, List.set_cons_zero, List.set_cons_succ]
    refine wpAnyZ_take (i := 3) (v := ?_) rfl (by kernel_rfl) (fun _ _ _ h => h) (Or.inl ⟨by rfl, ?_⟩) (⟨d0, d1⟩) ?_
    rotate_left 1
    · (intro w hSw; (try dsimp only at hSw); go_simp; try with_reducible rfl)
    try simp only [Act.put, List.setIfInBounds_toArray, List.set_cons_zero, List.set_cons_succ]
    refine wpAnyZ_take (i := 4) (v := ?_) rfl (by kernel_rfl) (fun _ _ _ h => h) (Or.inl ⟨by rfl, ?_⟩) (⟨d0, d1⟩) ?_
    rotate_left 1
    · (intro w hSw; (try dsimp only at hSw); go_simp; try with_reducible rfl)
    try simp only [Act.put, List.setIfInBounds_toArray, List.set_cons_zero, List.set_cons_succ]
    refine wpAnyZ_take (i := 5) (v := ?_) rfl (by kernel_rfl) (fun _ _ _ h => h) (Or.inl ⟨by rfl, ?_⟩) (⟨d0, d1⟩) ?_
    rotate_left 1
    · (intro w hSw; (try dsimp only at hSw); go_simp; try with_reducible rfl)
    try simp only [Act.put, List.setIfInBounds_toArray, List.set_cons_zero, List.set_cons_succ]
    refine wpAnyZ_one (i := 6) (by kernel_rfl) (ReadyZ.mk rfl (fun K hK => ?_))
    go_simp
    go_at_call 58
    refine (HRL.out _).mono ?_
    rintro e wz ⟨rfl, rfl⟩
    dsimp only
    refine hK.out _ _ (fun _ => ⟨d0, d1⟩) ?_
    clear hK K
    try simp only [Act.put, List.setIfInBounds_toArray, List.set_cons_zero, List.set_cons_succ]
    refine wpAnyZ_take (i := 7) (v := ?_) rfl (by kernel_rfl) (fun _ _ _ h => h) (Or.inl ⟨by rfl, ?_⟩) (⟨d0, d1⟩) ?_
    rotate_left 1
    · (intro w hSw; (try dsimp only at hSw); go_simp; try with_reducible rfl)
    try simp only [Act.put, List.setIfInBounds_toArray, List.set_cons_zero, List.set_cons_succ]
    refine wpAnyZ_take (i := 8) (v := ?_) rfl (by kernel_rfl) (fun _ _ _ h => h) (Or.inl ⟨by rfl, ?_⟩) (⟨d0, d1⟩) ?_
    rotate_left 1
    · (intro w hSw; (try dsimp only at hSw); go_simp; try with_reducible rfl)
    try simp only [Act.put, List.setIfInBounds_toArray, List.set_cons_zero, List.set_cons_succ]
    refine wpAnyZ_one (i := 9) (by kernel_rfl) (ReadyZ.mk rfl (fun K hK => ?_))
    go_simp
    refine hK.out _ _ (fun h => absurd h (by decide)) ?_
    clear hK K
    try simp only [Act.put, List.setIfInBounds_toArray, List.set_cons_zero, List.set_cons_succ]
    refine wpAnyZ_done (by kernel_rfl) ?_ _
    clear d0 d1
    generalize ((WD.setCell ⟨w.heap.size + 1, 0, none⟩ (.string ta)).setCell ⟨w.heap.size + 1, 1, none⟩ (.int .i64 nb)) = WZ at *
    have S1 := A1'.set0 ta
    have S2 := S1.set1 nb
    have S3 := S2.set2 tt
    have a0 := A1'.c0
    have g0 := A1'.f 0
    have a1 := S1.c1
    have g1 := S1.f 1
    have a2 := S2.c2
    have g2 := S2.f 2
    have m0 := S3.c0
    have m1 := S3.c1
    have m2 := S3.c2
    have n0 := R2.c0
    have n1 := R2.c1
    have n2 := R2.c2
    have LF := ((LD.setCell (b := w.heap.size) (o := 0) (Nat.le_refl _) (.string ta)).setCell (b := w.heap.size) (o := 1) (Nat.le_refl _) (.int .i64 nb)).setCell (b := w.heap.size) (o := 2) (Nat.le_refl _) (.int .i64 tt)
    clear A1' R2 S1 S2 S3 LD
    go_wp2
    exact bodyPost_ret (v := .agg #[.string ta, .int .i64 nb, .int .i64 tt]) (by simp [results, Tryd.results37, go_sem, m0, m1, m2]) rfl ⟨by rw [hz.out, hzz.out], LF⟩
  | x :: y :: t =>
    obtain ⟨b1, o1, rfl, hb1, k0⟩ := str_at S (k := 0) (by simp)
    rw [List.getElem_cons_zero, Nat.add_zero] at k0
    have hr2 : 2 ≤ (x :: y :: t).length := by simp
    obtain ⟨mm, hmm⟩ : ∃ mm, (p :: x :: y :: t).length = mm := ⟨_, rfl⟩
    have hmm3 : 3 ≤ mm := by rw [← hmm]; simp
    rw [hmm] at S ⊢
    have hl2 : ((mm : Int) == 2) = false := by rw [beq_eq_false_iff_ne]; omega
    have hl3 : decide ((2 : Int) < (mm : Int)) = true := decide_eq_true (by omega)
    have hl4 : (0 : Int) < mm := by omega
    clear hmm hp0
    go_wp2_with fail
    refine (splitAt_any (tb p) 58 w1 hpl).mono ?_
    rintro e wq ⟨v2, rfl, D2, hle⟩
    obtain ⟨A2, c2, rfl, S2, -⟩ := D2.form (by decide)
    replace RA := RA.le hle
    replace RB := RB.le hle
    replace L0 := L0.trans hle
    clear D2 hle
    rw [bl_tb] at S2 ⊢
    by_cases hq2 : (splitL 58 p).length = 2
    rotate_left
    · have hzz : Hid (z = rwf0) := HB.out (.inl hq2)
      have hnb : (((((splitL 58 p).map tb).length : Nat) : Int) != 2) = true := by rw [List.length_map, bne_iff_ne]; omega
      have hnb2 : (((splitL 58 p).length : Int) != 2) = true := by rw [bne_iff_ne]; omega
      clear S2
      have R1 := RA.set0 ⟨#[]⟩
      have R2 := R1.set1 0
      have R3 := R2.set2 0
      have a0 := RA.c0
      have g0 := RA.f 0
      have a1 := R1.c1
      have g1 := R1.f 1
      have a2 := R2.c2
      have g2 := R2.f 2
      have m0 := R3.c0
      have m1 := R3.c1
      have m2 := R3.c2
      have LF := ((L0.setCell (b := w.heap.size) (o := 0) (Nat.le_refl _) (.string ⟨#[]⟩)).setCell (b := w.heap.size) (o := 1) (Nat.le_refl _) (.int .i64 0)).setCell (b := w.heap.size) (o := 2) (Nat.le_refl _) (.int .i64 0)
      clear RA RB R1 R2 R3 L0
      go_wp2
      exact bodyPost_ret (v := .agg #[.string ⟨#[]⟩, .int .i64 0, .int .i64 0]) (by simp [results, Tryd.results37, go_sem, m0, m1, m2]) rfl ⟨by rw [hz.out, hzz.out]; rfl, LF⟩
    have hzz : Hid (z = rwf0) := HB.out (.inr hr2)
    have hnb : (((((splitL 58 p).map tb).length : Nat) : Int) != 2) = false := by rw [List.length_map, hq2]; rfl
    have hnb2 : (((splitL 58 p).length : Int) != 2) = false := by rw [hq2]; rfl
    clear hq2 S2
    have R1 := RA.set0 ⟨#[]⟩
    have R2 := R1.set1 0
    have R3 := R2.set2 0
    have a0 := RA.c0
    have g0 := RA.f 0
    have a1 := R1.c1
    have g1 := R1.f 1
    have a2 := R2.c2
    have g2 := R2.f 2
    have m0 := R3.c0
    have m1 := R3.c1
    have m2 := R3.c2
    have LF := ((L0.setCell (b := w.heap.size) (o := 0) (Nat.le_refl _) (.string ⟨#[]⟩)).setCell (b := w.heap.size) (o := 1) (Nat.le_refl _) (.int .i64 0)).setCell (b := w.heap.size) (o := 2) (Nat.le_refl _) (.int .i64 0)
    clear RA RB R1 R2 R3 L0
    go_wp2
    exact bodyPost_ret (v := .agg #[.string ⟨#[]⟩, .int .i64 0, .int .i64 0]) (by simp [results, Tryd.results37, go_sem, m0, m1, m2]) rfl ⟨by rw [hz.out, hzz.out]; rfl, LF⟩
end

section
/-- some blocks apart, nothing that was there has turned -/
structure GrB (S : Nat → Prop) (w w' : World) : Prop where
  os : w'.os = w.os
  tape : w'.tape = w.tape
  output : w'.output = w.output
  size : w.heap.size ≤ w'.heap.size
  block : ∀ k, k < w.heap.size → ¬ S k → w'.heap[k]? = w.heap[k]?
theorem GrB.refl (S : Nat → Prop) (w : World) : GrB S w w := ⟨rfl, rfl, rfl, Nat.le_refl _, fun _ _ _ => rfl⟩
theorem GrB.trans {S : Nat → Prop} {a b c : World} (h : GrB S a b) (k : GrB S b c) : GrB S a c := ⟨k.os.trans h.os, k.tape.trans h.tape, k.output.trans h.output, Nat.le_trans h.size k.size, fun i hi hs => (k.block i (Nat.lt_of_lt_of_le hi h.size) hs).trans (h.block i hi hs)⟩
theorem GrB.of_grown {S : Nat → Prop} {w w' : World} {r : Option Nat} (h : w.grownBy w' r) (hr : ∀ k, r = some k → S k) : GrB S w w' := ⟨h.os, h.tape, h.output, h.size, fun k hk hs => h.block k hk (fun e => hs (hr k e.symm))⟩
theorem GrB.of_le {S : Nat → Prop} {w w' : World} (h : Le w w') : GrB S w w' := ⟨h.os, h.tape, h.output, h.size, fun k hk _ => Below.block h k hk⟩
theorem Le.grB {S : Nat → Prop} {a w w' : World} (h : Le a w) (hg : GrB S w w') (hr : ∀ k, S k → a.heap.size ≤ k) : Le a w' :=
  ⟨hg.os.trans h.os, hg.tape.trans h.tape, hg.output.trans h.output, Nat.le_trans h.size hg.size, fun k hk => (hg.block k (Nat.lt_of_lt_of_le hk h.size) (fun e => by have := hr k e; omega)).trans (h.block k hk)⟩
theorem GrB.cell {S : Nat → Prop} {w w' : World} (hg : GrB S w w') {b o : Nat} {v : Value} (h : w.cell? ⟨b, o, none⟩ = some v) (hb : ¬ S b) : w'.cell? ⟨b, o, none⟩ = some v :=
  (World.cell?_of_block (a := ⟨b, o, none⟩) (hg.block b (World.block_lt_of_cell? w ⟨b, o, none⟩ h) hb)).trans h
theorem own_grB {S : Nat → Prop} {w w' : World} {base : Nat} {e : TypeId} {size : Nat} {v : Value} {n : Nat} {xs : List Value} (h : w.ownsRow base e size v n xs) (hg : GrB S w w') (hne : ∀ k, v.ownBlock = some k → ¬ S k) : w'.ownsRow base e size v n xs := by
  refine ⟨h.1, ?_⟩
  rcases h.2 with hn | ⟨g, cap, cur, rfl, hb, hgg, rest⟩
  · exact .inl hn
  · refine .inr ⟨g, cap, cur, rfl, hb, ?_, rest⟩
    rw [hg.block g (Array.getElem?_eq_some_iff.1 hgg).1 (hne g rfl)]
    exact hgg
theorem Sl.grB {α : Type} [Enc α] {S : Nat → Prop} {w w' : World} {A : Option Addr} {n cap : Nat} {xs : List α} (h : Sl w A n cap xs) (hg : GrB S w w') (hne : 0 < n → ∀ a, A = some a → ¬ S a.block) : Sl w' A n cap xs :=
  ⟨h.len, h.cap_, h.max, h.ok, fun hn => by
    obtain ⟨b, off, e, hlt, hc⟩ := h.at_ hn
    exact ⟨b, off, e, Nat.lt_of_lt_of_le hlt hg.size, fun j u hu => (World.cell?_of_block (a := ⟨b, off + j, none⟩) (hg.block b hlt (hne hn _ e))).trans (hc j u hu)⟩⟩
end

section
def TkOutS (w : World) (s : ByteArray) (e : Ending) (w' : World) : Prop := ∃ v, e = .returned (.tuple #[v, .bool (tkO (bl s))]) ∧ Owd 45 w w' v (tkX (bl s)) ∧ Le w w'
set_option maxRecDepth 100000 in
theorem sTraceText_any (A : Option Addr) (n c : Nat) (xs : List Frm) (w : World) (hR : Sl w A n c xs) :
    Calls Tryd.prog 10 #[.slice A n c] w fun e w' => e = .returned (.string (trX xs)) ∧ Le w w' := by
  go_enter Tryd.func10, Tryd.ntmps10
  go_wp2_with fail
  refine (validTrace_any A n c xs w hR).mono ?_
  rintro e w1 ⟨rfl, hle⟩
  cases hv : vTr xs
  · have HX := Lib.hid (trX_of hv)
    clear hv
    go_wp2
    go_ret
    exact ⟨ret_str HX.out.symm, hle⟩
  · have HX := Lib.hid (trX_of hv)
    go_wp2_with fail
    refine (straceText_any A n c xs w1 (hR.le hle) hv).mono ?_
    rintro e w2 ⟨rfl, hle2⟩
    go_wp2
    go_ret
    exact ⟨ret_str HX.out.symm, hle.trans hle2⟩
theorem pRowS_ok {l : List UInt8} (h : l.length ≤ 1048576) : Enc.ok (pRowS l) := by
  unfold pRowS
  have hz : Enc.ok rwf0 := ⟨by show 0 ≤ _; omega, by decide, by decide, by decide, by decide⟩
  have r1 := fun x => rdN_rng (m := 1000) (by omega) x
  split
  · rename_i p e
    have hp := splitL_piece 42 l p (by rw [e]; simp)
    split
    · rename_i a b e2
      have ha := splitL_piece 58 p a (by rw [e2]; simp)
      have := r1 b
      exact ⟨by show a.length ≤ _; omega, by show _ ≤ rdN 1000 b; omega, by show rdN 1000 b ≤ _; omega, (by decide : (-9223372036854775808 : Int) ≤ 1), (by decide : (1 : Int) ≤ 9223372036854775807)⟩
    · exact hz
  · rename_i p q e
    have hp := splitL_piece 42 l p (by rw [e]; simp)
    split
    · rename_i a b e2
      have ha := splitL_piece 58 p a (by rw [e2]; simp)
      have := r1 b
      have := r1 q
      exact ⟨by show a.length ≤ _; omega, by show _ ≤ rdN 1000 b; omega, by show rdN 1000 b ≤ _; omega, by show _ ≤ rdN 1000 q; omega, by show rdN 1000 q ≤ _; omega⟩
    · exact hz
  · exact hz
theorem owd_grB {α : Type} [Enc α] {T : TypeId} {w0 w w' : World} {v : Value} {xs : List α} {S : Nat → Prop} (h : Owd T w0 w v xs) (hg : GrB S w w') (hS : ∀ k, w0.heap.size ≤ k → k < w.heap.size → ¬ S k) : Owd T w0 w' v xs :=
  ⟨own_grB h.row hg (fun k e => hS k (h.row.lt k e).1 (h.row.lt k e).2), h.ok⟩
theorem rowsS_map {s : List UInt8} (h : s ≠ []) : rowsS s = (splitL 32 s).map pRowS := by unfold rowsS; rw [if_neg h]
set_option maxHeartbeats 2000000 in
set_option maxRecDepth 100000 in
theorem sParseTrace_any (s : ByteArray) (w : World) (hs : s.size ≤ 1048576) :
    Calls Tryd.prog 15 #[.string s] w (TkOutS w s) := by
  obtain ⟨i0, hi, hz0, hz1, hz2⟩ := info_parts infoRow
  obtain ⟨ob, hob⟩ : ∃ ob, Hid (tkO (bl s) = ob) := ⟨_, Lib.hid rfl⟩
  obtain ⟨xb, hxb⟩ : ∃ xb, Hid (tkX (bl s) = xb) := ⟨_, Lib.hid rfl⟩
  have hV : Hid (vTr (unfL (rowsS (bl s))) = false → ob = false ∧ xb = []) := fun h => by rw [← hob.out, ← hxb.out]; exact tks_v h
  have hX : Hid (trB (foldL (unfL (rowsS (bl s)))) ≠ bl s → ob = false ∧ xb = []) := fun h => by rw [← hob.out, ← hxb.out]; exact tks_text h
  have hG : Hid (vTr (unfL (rowsS (bl s))) = true → trB (foldL (unfL (rowsS (bl s)))) = bl s → ob = true ∧ xb = unfL (rowsS (bl s))) := fun h1 h2 => by rw [← hob.out, ← hxb.out]; exact tks_good h1 h2
  go_enter Tryd.func15, Tryd.ntmps15
  have O1 := own_empty (w := w) (base := w.heap.size) (g := w.heap.size) (e := 47) (size := 3) (Nat.le_refl _) rfl
  have L1 := Le.new w (.cells #[] 47)
  have hsz1 : Hid ((w.alloc (.cells #[] 47)).heap.size = w.heap.size + 1) := by show _ = _; simp
  by_cases he : bl s = []
  · have heb := empT.2 he
    have hr : rowsS (bl s) = [] := by unfold rowsS; rw [if_pos he]
    rw [hr] at hV hX hG
    have hu : unfL ([] : List Rwf) = [] := rfl
    rw [hu] at hV hX hG
    have hs0 : s.size = 0 := by rw [← bl_len, he]; rfl
    clear hr hu
    go_wp2_with fail
    generalize w.alloc (.cells #[] 47) = W1 at *
    have S1 : Sl W1 (some ⟨w.heap.size, 0, none⟩) 0 0 ([] : List Rwf) := Sl.nil _ _ _ (by omega)
    refine (sunfold_any (some ⟨w.heap.size, 0, none⟩) 0 0 [] W1 S1 (by omega)).mono ?_
    rintro e w2 ⟨v2, rfl, D, hle⟩
    have L2 := L1.trans hle
    obtain ⟨A2, c2, rfl, S2, -⟩ := D.form (by decide)
    have D2 : Owd 45 w w2 (.slice A2 (unfL ([] : List Rwf)).length c2) (unfL []) := D.mono L1
    have hue : unfL ([] : List Rwf) = [] := rfl
    rw [hue] at S2 D2 ⊢
    clear D hle S1 hue
    go_wp2_with fail
    refine (validTrace_any A2 _ c2 [] w2 S2).mono ?_
    rintro e w3 ⟨rfl, hle⟩
    have hv : vTr [] = true := rfl
    rw [hv]
    have S3 := S2.le hle
    have D3 := D2.le hle
    have L3 := L2.trans hle
    clear S2 D2 hle
    go_wp2_with fail
    refine (straceText_any A2 _ c2 [] w3 S3 hv).mono ?_
    rintro e w4 ⟨rfl, hle⟩
    have ht : tb (trB (foldL [])) = s := bl_inj (by rw [he]; rfl)
    rw [ht]
    have hb2 : (s.toList == s.toList) = true := by simp
    have hb3 : (s.toList != s.toList) = false := by simp
    have HG := Lib.hid (hG.out hv (by rw [he]; rfl))
    have D4 := Lib.hid (D3.le hle)
    have L4 := L3.trans hle
    clear S3 D3 hle ht hV hX hG he heb
    go_wp2
    go_ret2
    exact ⟨_, by rw [hob.out, HG.out.1]; rfl, by rw [hxb.out, HG.out.2]; exact D4.out, L4⟩
  have heb := empF he
  have hRM : Hid (rowsS (bl s) = (splitL 32 (bl s)).map pRowS) := rowsS_map he
  have hPC : Hid (∀ x ∈ splitL 32 (bl s), x.length ≤ 1048576) := fun x hx => by
    have := splitL_piece 32 (bl s) x hx
    rw [bl_len] at this; omega
  have hPL : (splitL 32 (bl s)).length ≤ 1048577 := by
    have h1 := splitL_len 32 (bl s)
    have h2 := List.count_le_length (a := (32 : UInt8)) (l := bl s)
    rw [bl_len] at h2; omega
  go_wp2_with fail
  generalize w.alloc (.cells #[] 47) = W1 at *
  refine (splitAt_any s 32 W1 hs).mono ?_
  rintro e w1 ⟨v1, rfl, D, hle⟩
  replace O1 := own_le O1 hle
  replace L1 := L1.trans hle
  have z1 : Hid (w.heap.size + 1 ≤ w1.heap.size) := by show _ ≤ _; have := hsz1.out; have := hle.size; omega
  obtain ⟨A1, c1, rfl, -, -⟩ := D.form (by decide)
  rw [List.length_map]
  have hlm : ((splitL 32 (bl s)).map tb).length = (splitL 32 (bl s)).length := List.length_map ..
  rw [hlm] at D
  have HRM := hRM
  generalize splitL 32 (bl s) = W at *
  clear he hle
  go_wp2
  go_loopw [4, 6] (fun v i wr => ∃ (k : Nat) (A' : Option Addr) (c' : Nat), k ≤ W.length ∧ i = .int .i64 k ∧ v = .slice A' k c' ∧ wr.ownsRow w.heap.size 47 3 v k (((W.take k).map pRowS).flatMap Enc.cells) ∧
      (∀ q, v.ownBlock = some q → q = w.heap.size ∨ w1.heap.size ≤ q) ∧ GrB (fun k => k = w.heap.size ∨ w1.heap.size ≤ k) w1 wr) (fun _ i _ => W.length - (intOf i).toNat)
  case atStart => exact ⟨0, some ⟨w.heap.size, 0, none⟩, 0, Nat.zero_le _, rfl, rfl, O1, fun q e => .inl (by simp [Value.ownBlock] at e; omega), GrB.refl _ _⟩
  case round =>
    obtain ⟨k, A', c', hk, rfl, rfl, O, hob2, GB⟩ := hrel
    have LW : Le w wr := L1.grB GB (fun k h => by have := z1.out; rcases h with h | h <;> omega)
    by_cases hlt : k < W.length
    · have hki : (k : Int) < W.length := by omega
      have hDr := owd_grB D GB (fun k h1 h2 h3 => by have := hsz1.out; rcases h3 with h3 | h3 <;> omega)
      obtain ⟨A'', c'', e', S, -⟩ := hDr.form (by decide)
      injection e' with e1 e2 e3
      subst e1
      subst e3
      clear e2 hDr
      obtain ⟨b, off, rfl, hb, k0⟩ := str_at S (k := k) (by rw [hlm]; exact hlt)
      rw [List.getElem_map] at k0
      have hwl := hPC.out W[k] (List.getElem_mem hlt)
      have hpok := pRowS_ok hwl
      have HPS := Lib.hid (fun W' => sparseRow_any (tb W[k]) W' (by rw [tb_size]; exact hwl))
      have hsn : Hid ((W.take (k + 1)).map pRowS = (W.take k).map pRowS ++ [pRowS W[k]]) := by show _ = _; rw [List.take_succ_eq_append_getElem hlt, List.map_append]; rfl
      have htl : Hid (((W.take k).map pRowS).length = k) := by show _ = _; rw [List.length_map, List.length_take]; omega
      clear S hwl
      go_wp2_with fail
      refine (HPS.out wr).mono ?_
      rintro e w3 ⟨rfl, hle⟩
      replace O := own_le O hle
      replace GB := GB.trans (GrB.of_le hle)
      replace LW := LW.trans hle
      have e9 : Hid (pRowS (bl (tb W[k])) = pRowS W[k]) := rfl
      rw [e9.out]
      obtain ⟨E, hEE⟩ : ∃ E, (W.take k).map pRowS = E := ⟨_, rfl⟩
      rw [hEE] at O hsn htl
      clear hEE hle HPS k0 e9
      generalize pRowS W[k] = x at *
      go_wp2_with (first | (at_builtin; refine wpList_append_sl rfl _ _ 32 rfl w.heap.size 47 i0 _ 32 Tryd.underlying32 hi hz0 hz1 hz2 rfl (.slice A' k c') k E rfl (O.alloc _) _ 1 1 [x] rfl (sl_one x rfl hpok rfl) (by unfold maxLen; omega) (by omega) (LW.alloc _).size ?_; intro v2 w4 O4 hg4 hat4; have GB4 := (GB.trans (GrB.of_le (Le.new w3 _))).trans (GrB.of_grown hg4 (fun k e => hob2 k e)); have hob4 : ∀ q, v2.ownBlock = some q → q = w.heap.size ∨ w1.heap.size ≤ q := fun q e => (by rcases hat4 with h | h; exact hob2 q (h ▸ e); (rw [h] at e; injection e with e; have h9 := GB.size; have h10 := (Le.new w3 (.cells #[.string x.fn, .int .i64 x.line, .int .i64 x.times] 47)).size; exact .inr (by omega))); clear hg4 hat4))
      obtain ⟨A5, q5, rfl⟩ := own_form O4
      go_roundw
      case rel => exact ⟨k + 1, A5, q5, by omega, by go_num, rfl, by rw [hsn.out]; exact O4, hob4, GB4⟩
      case measure => simp [intOf]; omega
    · have hki : ¬ (k : Int) < W.length := by omega
      obtain rfl : k = W.length := by omega
      rw [List.take_length] at O
      have hlq : (W.map pRowS).length = W.length := List.length_map ..
      have O' : wr.ownsRow w.heap.size 47 3 (.slice A' (W.map pRowS).length c') (W.map pRowS).length ((W.map pRowS).flatMap Enc.cells) := by rw [hlq]; exact O
      have S := Sl.of_own O' rfl (by decide) (fun x hx => by
        obtain ⟨l, hl, rfl⟩ := List.mem_map.1 hx
        exact pRowS_ok (hPC.out l hl))
      rw [hlq] at S
      rw [HRM.out] at hV hX hG
      clear O O' hlq D GB hPC HRM hRM
      generalize W.map pRowS = R at *
      go_wp2_with fail
      refine (sunfold_big A' W.length c' R wr S (by omega)).mono ?_
      rintro e w2 ⟨v2, rfl, D, hle⟩
      have L2 := LW.trans hle
      obtain ⟨A2, c2, rfl, S2, -⟩ := D.form (by decide)
      have D2 : Owd 45 w w2 (.slice A2 (unfL R).length c2) (unfL R) := D.mono LW
      clear D hle S
      generalize unfL R = Y at *
      go_wp2_with fail
      refine (validTrace_any A2 _ c2 Y w2 S2).mono ?_
      rintro e w3 ⟨rfl, hle⟩
      have S3 := S2.le hle
      have D3 := D2.le hle
      have L3 := L2.trans hle
      clear S2 D2 hle
      cases hv : vTr Y
      · have HB := Lib.hid (hV.out hv)
        clear hv hV hX hG D3 S3
        go_wp2
        go_ret2
        exact ⟨_, by rw [hob.out, HB.out.1]; rfl, by rw [hxb.out, HB.out.2]; exact Owd.nil _ _ _, L3⟩
      · have hTT : Hid (∀ W', Le w3 W' → Calls Tryd.prog 27 #[.slice A2 Y.length c2] W' fun e w' => e = .returned (.string (tb (trB (foldL Y)))) ∧ Le W' w') := fun W' L => straceText_any A2 _ c2 Y W' (S3.le L) hv
        by_cases hq : trB (foldL Y) = bl s
        · have HG := Lib.hid (hG.out hv hq)
          have ht : tb (trB (foldL Y)) = s := by rw [hq, tb_bl]
          rw [ht] at hTT
          have hb2 : (s.toList == s.toList) = true := by simp
          have hb3 : (s.toList != s.toList) = false := by simp
          clear hv hV hX hG hq ht S3
          go_wp2_with fail
          refine (hTT.out w3 (Le.refl _)).mono ?_
          rintro e w4 ⟨rfl, hle⟩
          have D4 := Lib.hid (D3.le hle)
          have L4 := L3.trans hle
          clear D3 hle hTT
          go_wp2
          go_ret2
          exact ⟨_, by rw [hob.out, HG.out.1]; rfl, by rw [hxb.out, HG.out.2]; exact D4.out, L4⟩
        · have HB := Lib.hid (hX.out hq)
          have hne : tb (trB (foldL Y)) ≠ s := fun e => hq (by rw [← e, bl_tb])
          have hb2 : ((tb (trB (foldL Y))).toList == s.toList) = false := str_ne hne
          have hb3 : ((tb (trB (foldL Y))).toList != s.toList) = true := by simp only [bne, hb2]; rfl
          generalize tb (trB (foldL Y)) = ty at *
          clear hv hV hX hG hq hne S3
          go_wp2_with fail
          refine (hTT.out w3 (Le.refl _)).mono ?_
          rintro e w4 ⟨rfl, hle⟩
          have L4 := L3.trans hle
          clear D3 hle hTT
          go_wp2
          go_ret2
          exact ⟨_, by rw [hob.out, HB.out.1]; rfl, by rw [hxb.out, HB.out.2]; exact Owd.nil _ _ _, L4⟩
end
end Go.Proofs.YtnjckloodkdbpaaDoor
