/- the law FnWayOfFault: the draw, the plain facts, the walk -/
import Derived.Test.YtomdhpfelchjeaaDPg
import Derived.Test.YtomdhpfelchjeaaRg
import Derived.Test.YtomdhpfelchjeaaWyB
import Derived.Test.YtomdhpfelchjeaaLD
import Derived.Deep.RegionHeld3
namespace Go.Proofs.Ytomdhpfelchjeaa
open Go.RowKit
/-- a program, a line and a class that were drawn for a law -/
def DrawnPLA (w : World) (e : Ending) (w' : World) : Prop :=
  ∃ (B D : Option Addr) (m c q d : Nat) (xs : List Cls) (L : List Lin) (i a : Int), e = .returned (.tuple #[.agg #[.slice B m c], .slice D q d, .int .i64 i, .int .i64 a]) ∧ Sl w' B m c xs ∧ m ≤ 8 ∧ Sl w' D q d L ∧ q ≤ 24 ∧ (-1 ≤ i ∧ i ≤ 24) ∧ (-1 ≤ a ∧ a ≤ 8) ∧ Le w w'
set_option maxHeartbeats 4000000 in
set_option maxRecDepth 100000 in
theorem drawCatcherOf_any (A : Option Addr) (n cap : Nat) (bs : List By) (w : World) (hR : Sl w A n cap bs) : Calls Try.prog 15 #[.slice A n cap] w (DrawnPLA w) := by
  go_enter Try.func15, Try.ntmps15
  go_wp2_with fail
  obtain ⟨c0, z0, L0⟩ := box1 w (.slice none 0 0) 25
  have f0 : (w.alloc (.cells #[.slice none 0 0] 25)).frozen? ⟨w.heap.size, 0, none⟩ = false := World.frozen?_alloc_at _ _ _ _ rfl
  have S0 := hR.le L0
  generalize w.alloc (.cells #[.slice none 0 0] 25) = W at *
  refine (newReader_any A n cap bs W S0).mono ?_
  rintro e w1 ⟨g, A1, n1, k1, bs1, rfl, hg, R1, hle⟩
  have hz1 : w.heap.size < w1.heap.size := Nat.lt_of_lt_of_le z0 hle.size
  have hzg := R1.lt
  replace c0 := (hle.cell z0).trans c0
  replace f0 := (hle.frozen z0).trans f0
  replace L0 := L0.trans hle
  clear S0
  have hgz : w.heap.size ≠ g := by omega
  have hwg : w.heap.size ≤ g := by omega
  go_wp2_with fail
  refine (lineIn_any g 0 A1 n1 k1 bs1 w1 (by omega) R1).mono ?_
  rintro e w2 ⟨B, D, m, c, q, d, xs, L, i, p2, rfl, S2, hm, hab, SD, hq, hD, hi, hp2, R2, hg2⟩
  obtain rfl := SD.len
  replace c0 := (hg2.cell hz1 hgz).trans c0
  replace f0 := (hg2.frozen hz1 hgz).trans f0
  have L2 := Gx.le L0 hg2 (by omega)
  have hs2 := hg2.size
  have z2 : w.heap.size < w2.heap.size := by omega
  have hgt : w2.heap.size ≠ g := by omega
  obtain ⟨ct, zt, LB⟩ := box1 w2 (.slice B m c) 25
  replace c0 := (LB.cell z2).trans c0
  replace f0 := (LB.frozen z2).trans f0
  replace S2 := S2.le LB
  replace SD := SD.le LB
  replace R2 := R2.le LB
  replace L2 := L2.trans LB
  have z0' := Nat.lt_of_lt_of_le z2 LB.size
  have HB : Hid (0 < m → ∀ a, B = some a → w.heap.size < a.block) := fun hn a e => by have := hab hn a e; omega
  have HD : Hid (0 < L.length → ∀ a, D = some a → w.heap.size < a.block) := fun hn a e => by have := hD hn a e; omega
  have hoffB : 0 < m → Off g B := fun hn a e => by have := hab hn a e; omega
  have hoffD : 0 < L.length → Off g D := fun hn a e => by have := hD hn a e; omega
  clear z0 L0 R1 hg2 hle LB hab hD z2
  go_wp2_with fail
  generalize w2.alloc (.cells #[.slice B m c] 25) = W2 at *
  generalize w2.heap.size = tb at *
  have R3 := R2.le (Le.refl W2).drew
  have S3 := S2.le (Le.refl W2).drew
  have SD3 := SD.le (Le.refl W2).drew
  have L3 := L2.drew
  have c03 : W2.drew.cell? ⟨w.heap.size, 0, none⟩ = some (.slice none 0 0) := c0
  have f03 : W2.drew.frozen? ⟨w.heap.size, 0, none⟩ = false := f0
  have ct3 : W2.drew.cell? ⟨tb, 0, none⟩ = some (.slice B m c) := ct
  have z03 : w.heap.size < W2.drew.heap.size := z0'
  have zt3 : tb < W2.drew.heap.size := zt
  clear R2 S2 SD L2 c0 f0 ct z0' zt
  refine wp_region_noPanic ?_
  refine wp_region_held_drew (S := fun w' => w'.cell? ⟨tb, 0, none⟩ = some (.slice B m c)) (by kernel_rfl) ct3 (fun hHeld => ?_)
  refine wpAnyH_takeL (i := 0) (v := ?_) rfl (by kernel_rfl) (by kernel_rfl) (by kernel_rfl) (fun _ _ _ h => h) (Or.inl ⟨by rfl, ?_⟩) (by assumption) ?_
  rotate_left 1
  · (intro w hSw; (try dsimp only at hSw); go_simp; try with_reducible rfl)
  try simp only [Act.put, List.setIfInBounds_toArray, List.set_cons_zero, List.set_cons_succ]
  refine wpAnyH_takeL (i := 1) (v := ?_) rfl (by kernel_rfl) (by kernel_rfl) (by kernel_rfl) (fun _ _ _ h => h) (Or.inl ⟨by rfl, ?_⟩) (by assumption) ?_
  rotate_left 1
  · (intro w hSw; (try dsimp only at hSw); go_simp; try with_reducible rfl)
  try simp only [Act.put, List.setIfInBounds_toArray, List.set_cons_zero, List.set_cons_succ]
  refine wpAnyH_takeL (i := 2) (v := ?_) rfl (by kernel_rfl) (by kernel_rfl) (by kernel_rfl) (fun _ _ _ h => h) (Or.inl ⟨by rfl, ?_⟩) (by assumption) ?_
  rotate_left 1
  · (intro w hSw; (try dsimp only at hSw); go_simp; try with_reducible rfl)
  try simp only [Act.put, List.setIfInBounds_toArray, List.set_cons_zero, List.set_cons_succ]
  refine wpAnyH_takeL (i := 3) (v := ?_) rfl (by kernel_rfl) (by kernel_rfl) (by kernel_rfl) (fun _ _ _ h => h) (Or.inl ⟨by rfl, ?_⟩) (by assumption) ?_
  rotate_left 1
  · (intro w hSw; (try dsimp only at hSw); go_simp; try with_reducible rfl)
  try simp only [Act.put, List.setIfInBounds_toArray, List.set_cons_zero, List.set_cons_succ]
  refine wpAnyH_takeL (i := 4) (v := ?_) rfl (by kernel_rfl) (by kernel_rfl) (by kernel_rfl) (fun _ _ _ h => h) (Or.inl ⟨by rfl, ?_⟩) (by assumption) ?_
  rotate_left 1
  · (intro w hSw; (try dsimp only at hSw); go_simp; try with_reducible rfl)
  try simp only [Act.put, List.setIfInBounds_toArray, List.set_cons_zero, List.set_cons_succ]
  refine wpAnyH_ready (rs := [5]) (by kernel_rfl) (by simp) (AllReadyH.consL (i := 5) rfl (fun K hK => ?_) AllReadyH.nil)
  go_simp
  go_at_call 44
  refine (aClass_any B m c g p2 A1 n1 k1 bs1 W2.drew hm (by omega) R3).mono ?_
  rintro e w3 ⟨a, p3, rfl, ha0, ha1, hp3, R4, hg3⟩
  have c0 := (hg3.cell z03 hgz).trans c03
  have f0 := (hg3.frozen z03 hgz).trans f03
  have ct := (hg3.cell zt3 hgt).trans ct3
  have S4 := S3.gx hoffB hg3
  have SD4 := SD3.gx hoffD hg3
  have L4 := Gx.le L3 hg3 hwg
  clear c03 f03 ct3 S3 SD3 L3 R3 R4 hg3
  refine hK.out _ _ (ct) (fun hHeld => ?_)
  clear hK K
  try simp only [Act.put, List.setIfInBounds_toArray, List.set_cons_zero, List.set_cons_succ]
  refine wpAnyH_ready (rs := [6]) (by kernel_rfl) (by simp) (AllReadyH.consL (i := 6) rfl (fun K hK => ?_) AllReadyH.nil)
  go_simp
  have hend : ∀ u, (w3.setCell ⟨w.heap.size, 0, none⟩ u).cell? ⟨w.heap.size, 0, none⟩ = some u := fun u => cell_set_same c0
  refine hK.out _ _ (((cell_set_other (.inl (by omega))).trans ct)) (fun hHeld => ?_)
  clear hK K
  try simp only [Act.put, List.setIfInBounds_toArray, List.set_cons_zero, List.set_cons_succ]
  refine wpAnyH_takeL (i := 7) (v := ?_) rfl (by kernel_rfl) (by kernel_rfl) (by kernel_rfl) (fun _ _ _ h => h) (Or.inl ⟨by rfl, ?_⟩) (by assumption) ?_
  rotate_left 1
  · (intro w hSw; (try dsimp only at hSw); go_simp; try with_reducible rfl)
  try simp only [Act.put, List.setIfInBounds_toArray, List.set_cons_zero, List.set_cons_succ]
  refine wpAnyH_takeL (i := 8) (v := ?_) rfl (by kernel_rfl) (by kernel_rfl) (by kernel_rfl) (fun _ _ _ h => h) (Or.inl ⟨by rfl, ?_⟩) (by assumption) ?_
  rotate_left 1
  · (intro w hSw; (try dsimp only at hSw); go_simp; try with_reducible rfl)
  try simp only [Act.put, List.setIfInBounds_toArray, List.set_cons_zero, List.set_cons_succ]
  refine wpAnyH_takeL (i := 9) (v := ?_) rfl (by kernel_rfl) (by kernel_rfl) (by kernel_rfl) (fun _ _ _ h => h) (Or.inl ⟨by rfl, ?_⟩) (by assumption) ?_
  rotate_left 1
  · (intro w hSw; (try dsimp only at hSw); go_simp; try with_reducible rfl)
  try simp only [Act.put, List.setIfInBounds_toArray, List.set_cons_zero, List.set_cons_succ]
  refine wpAnyH_done (by kernel_rfl) ?_ _
  refine NoPanic.normal ?_
  have HF : Hid (DrawnPLA w (.returned (.tuple #[.agg #[.slice B m c], .slice D L.length d, .int .i64 i, .int .i64 a])) (w3.setCell ⟨w.heap.size, 0, none⟩ (.slice B m c))) := ⟨B, D, m, c, L.length, d, xs, L, i, a, rfl, S4.gx (fun h a e => by have := HB.out h a e; omega) (Gx.set w.heap.size 0 w3 _), hm, SD4.gx (fun h a e => by have := HD.out h a e; omega) (Gx.set w.heap.size 0 w3 _), hq, hi, ⟨ha0, ha1⟩, L4.setCell (Nat.le_refl _) _⟩
  clear hHeld S4 SD4 L4
  go_wp2
  exact bodyPost_ret (v := .tuple #[.agg #[.slice B m c], .slice D L.length d, .int .i64 i, .int .i64 a]) (by simp [results, Try.results15, go_sem, hend]) rfl HF.out

theorem Sl.setNone {α : Type} [Enc α] {w : World} {A : Option Addr} {n cap : Nat} {xs : List α} {b o : Nat} {v u : Value} (h : Sl w A n cap xs) (hc : w.cell? ⟨b, o, none⟩ = some v) (hv : ∀ x : α, v ∉ Enc.cells x) : Sl (w.setCell ⟨b, o, none⟩ u) A n cap xs := by
  refine ⟨h.len, h.cap_, h.max, h.ok, fun hn => ?_⟩
  obtain ⟨b2, off, e, hb, hcell⟩ := h.at_ hn
  refine ⟨b2, off, e, by simpa [World.setCell] using hb, fun j t ht => ?_⟩
  have h1 := hcell j t ht
  by_cases c : b = b2 ∧ o = off + j
  · obtain ⟨rfl, rfl⟩ := c
    rw [hc] at h1
    injection h1 with h1
    subst h1
    obtain ⟨x, _, hx⟩ := List.mem_flatMap.1 (List.mem_of_getElem? ht)
    exact absurd hx (hv x)
  · have hne : b ≠ b2 ∨ o ≠ off + j := by
      by_cases c2 : b = b2
      · exact .inr (fun e => c ⟨c2, e⟩)
      · exact .inl c2
    rw [cell_set_other hne]
    exact h1
set_option maxHeartbeats 1000000 in
theorem drawWayOfFault_any (A : Option Addr) (n cap : Nat) (bs : List By) (w : World) (hR : Sl w A n cap bs) : Calls Try.prog 22 #[.slice A n cap] w (DrawnPLA w) := by
  go_enter Try.func22, Try.ntmps22
  go_wp2_with fail
  obtain ⟨c0, z0, L0⟩ := box1 w (.slice none 0 0) 25
  have f0 : (w.alloc (.cells #[.slice none 0 0] 25)).frozen? ⟨w.heap.size, 0, none⟩ = false := World.frozen?_alloc_at _ _ _ _ rfl
  replace hR := hR.le L0
  generalize w.alloc (.cells #[.slice none 0 0] 25) = W at *
  refine (drawCatcherOf_any A n cap bs W hR).mono ?_
  rintro e w1 ⟨B, D, m, c, q, d, xs, p, i, a, rfl, S, hm8, S2, hq24, hi, ha, L1⟩
  replace c0 := (L1.cell z0).trans c0
  replace f0 := (L1.frozen z0).trans f0
  have hend : ∀ u, (w1.setCell ⟨w.heap.size, 0, none⟩ u).cell? ⟨w.heap.size, 0, none⟩ = some u := fun u => cell_set_same c0
  have hSx : ∀ u, Sl (w1.setCell ⟨w.heap.size, 0, none⟩ u) B m c xs := fun u => S.setNone c0 (fun x h => by simp [Enc.cells] at h)
  have hSy : ∀ u, Sl (w1.setCell ⟨w.heap.size, 0, none⟩ u) D q d p := fun u => S2.setNone c0 (fun x h => by simp [Enc.cells] at h)
  have L2 := L0.trans L1
  clear S S2 L0 L1
  go_wp2
  exact bodyPost_ret (v := .tuple #[.agg #[.slice B m c], .slice D q d, .int .i64 i, .int .i64 a]) (by simp [results, Try.results22, go_sem, hend]) rfl ⟨B, D, m, c, q, d, xs, p, i, a, rfl, hSx _, hm8, hSy _, hq24, hi, ha, L2.setCell (Nat.le_refl _) _⟩
theorem coN_all (xs : List Cls) (p : List Lin) (a : Int) : ∀ E : List Nat, ¬ 0 ≤ coF xs p a E → coN xs p a E = E.length
  | [], _ => rfl
  | x :: r, h => by
    unfold coF at h
    unfold coN
    by_cases c : 0 ≤ ctAt xs p a x
    · rw [if_pos c] at h; exact absurd c h
    · rw [if_neg c] at h ⊢; rw [coN_all xs p a r h]; rfl
/-- the way of a fault is the first part of the way out, and all of it if nothing catches -/
theorem wf_facts {xs : List Cls} {p : List Lin} {k : Nat} {a : Int} (h : vp xs p = true) (hk : k < p.length) (ha : hasK xs a = true) : ∃ U V : List Nat, wfX xs p k a = nI U ∧ woX xs p k = nI (U ++ V) ∧ (0 ≤ caX xs p k a ∨ V = []) ∧ (U ++ V).length ≤ 1048576 := by
  have hg := glB_okw h hk
  have hgr : grB xs p k a = true := by unfold grB; rw [hg, ha]; rfl
  have h1 : woX xs p k = nI (wayL p (encl p k)) := by unfold woX; rw [hg]; rfl
  have h2 : caX xs p k a = coF xs p a (encl p k) := by unfold caX; rw [hgr]; rfl
  have hl := woX_len xs p k
  have hs : wayL p ((encl p k).take (coN xs p a (encl p k))) ++ wayL p ((encl p k).drop (coN xs p a (encl p k))) = wayL p (encl p k) := by
    unfold wayL; rw [← List.filterMap_append, List.take_append_drop]
  refine ⟨wayL p ((encl p k).take (coN xs p a (encl p k))), wayL p ((encl p k).drop (coN xs p a (encl p k))), by unfold wfX; rw [hgr]; rfl, by rw [hs, h1], ?_, by rw [hs, ← nI_len, ← h1]; exact hl⟩
  rw [h2]
  by_cases c : 0 ≤ coF xs p a (encl p k)
  · exact .inl c
  · exact .inr (by rw [coN_all _ _ _ _ c, List.drop_length]; rfl)
set_option maxHeartbeats 4000000 in
set_option maxRecDepth 100000 in
theorem fnWayOfFault_walk (A : Option Addr) (n cap : Nat) (bs : List By) (w : World) (hR : Sl w A n cap bs) :
    Calls Try.prog 5 #[.slice A n cap] w fun e w' => e = .returned (.bool true) ∧ Le w w' := by
  have hm := hR.n_le
  by_cases hbig : 1048576 < n
  · go_enter Try.func5, Try.ntmps5
    go_wp2
    go_ret
    exact ⟨rfl, Le.refl w⟩
  go_enter Try.func5, Try.ntmps5
  go_wp2_with fail
  refine (drawWayOfFault_any A n cap bs w hR).mono ?_
  rintro e w1 ⟨B, D, m, c, q, d, xs, p, i, a, rfl, S, hm8, S2, hq24, hi, ha, L0⟩
  obtain rfl := S2.len
  have hm1 : m ≤ 1048576 := by omega
  have hsm : p.length ≤ 1048576 := by omega
  clear hbig hm hR
  go_wp2_with fail
  obtain ⟨ct, zt, hleB⟩ := box1 w1 (.slice B m c) 25
  replace S := S.le hleB
  replace L0 := L0.trans hleB
  replace S2 := S2.le hleB
  clear hleB
  generalize w1.alloc (.cells #[.slice B m c] 25) = W1 at *
  go_wp2_with fail
  refine (Calls.sl1w (by decide) (iWayOfFault_any B D m c _ d xs p i a hm1 W1 S S2)).mono ?_
  rintro e w2 ⟨A3, c3, rfl, S3, hle⟩
  replace ct := (hle.cell zt).trans ct
  replace zt := Nat.lt_of_lt_of_le zt hle.size
  replace S := S.le hle
  replace L0 := L0.trans hle
  replace S2 := S2.le hle
  clear hle
  go_wp2_with fail
  refine (Calls.sl1w (by decide) (sWayOfFault_any B D m c _ d xs p i a hsm w2 S S2)).mono ?_
  rintro e w3 ⟨A4, c4, rfl, S4, hle⟩
  replace ct := (hle.cell zt).trans ct
  replace zt := Nat.lt_of_lt_of_le zt hle.size
  replace S := S.le hle
  replace L0 := L0.trans hle
  replace S2 := S2.le hle
  replace S3 := S3.le hle
  clear hle
  go_wp2_with fail
  refine (equalInts_self _ _ _ _ _ _ _ S3 S4).mono ?_
  rintro e w4 ⟨rfl, hle⟩
  replace ct := (hle.cell zt).trans ct
  replace zt := Nat.lt_of_lt_of_le zt hle.size
  replace S := S.le hle
  replace L0 := L0.trans hle
  replace S2 := S2.le hle
  replace S3 := S3.le hle
  clear hle
  clear S4
  go_wp2_with fail
  refine (pValidProgram_any B D m c _ d xs p hm1 w4 S S2).mono ?_
  rintro e w5 ⟨rfl, hle⟩
  replace ct := (hle.cell zt).trans ct
  replace zt := Nat.lt_of_lt_of_le zt hle.size
  replace S := S.le hle
  replace L0 := L0.trans hle
  replace S2 := S2.le hle
  replace S3 := S3.le hle
  clear hle
  cases hv : vp xs p
  · go_wp2_with fail
    refine (Calls.sl1w (by decide) (sWayOfFault_any B D m c _ d xs p i a hsm w5 S S2)).mono ?_
    rintro e w8 ⟨A6, c6, rfl, S6, hle⟩
    replace L0 := L0.trans hle
    replace S3 := S3.le hle
    clear hle
    go_wp2_with fail
    refine (equalInts_self _ _ _ _ _ _ _ S3 S6).mono ?_
    rintro e w9 ⟨rfl, hle⟩
    replace L0 := L0.trans hle
    clear hle
    go_wp2
    go_ret
    exact ⟨rfl, L0⟩
  by_cases h0 : i < 0
  · go_wp2_with fail
    refine (Calls.sl1w (by decide) (sWayOfFault_any B D m c _ d xs p i a hsm w5 S S2)).mono ?_
    rintro e w8 ⟨A6, c6, rfl, S6, hle⟩
    replace L0 := L0.trans hle
    replace S3 := S3.le hle
    clear hle
    go_wp2_with fail
    refine (equalInts_self _ _ _ _ _ _ _ S3 S6).mono ?_
    rintro e w9 ⟨rfl, hle⟩
    replace L0 := L0.trans hle
    clear hle
    go_wp2
    go_ret
    exact ⟨rfl, L0⟩
  obtain ⟨k, rfl⟩ := Int.eq_ofNat_of_zero_le (show 0 ≤ i by omega)
  by_cases hk : p.length ≤ k
  · have hk2 : (p.length : Int) ≤ (k : Int) := by omega
    go_wp2_with fail
    refine (Calls.sl1w (by decide) (sWayOfFault_any B D m c _ d xs p _ a hsm w5 S S2)).mono ?_
    rintro e w8 ⟨A6, c6, rfl, S6, hle⟩
    replace L0 := L0.trans hle
    replace S3 := S3.le hle
    clear hle
    go_wp2_with fail
    refine (equalInts_self _ _ _ _ _ _ _ S3 S6).mono ?_
    rintro e w9 ⟨rfl, hle⟩
    replace L0 := L0.trans hle
    clear hle
    go_wp2
    go_ret
    exact ⟨rfl, L0⟩
  have hkp : k < p.length := by omega
  have hk0 : (0 : Int) ≤ (k : Int) := by omega
  have hkn : (k : Int) < (p.length : Int) := by omega
  go_wp2_with fail
  refine (has_any B m c xs a w5 S).mono ?_
  rintro e w6 ⟨rfl, hle⟩
  replace ct := (hle.cell zt).trans ct
  replace zt := Nat.lt_of_lt_of_le zt hle.size
  replace S := S.le hle
  replace L0 := L0.trans hle
  replace S2 := S2.le hle
  replace S3 := S3.le hle
  clear hle
  cases hh : hasK xs a
  · go_wp2_with fail
    refine (Calls.sl1w (by decide) (sWayOfFault_any B D m c _ d xs p _ a hsm w6 S S2)).mono ?_
    rintro e w8 ⟨A6, c6, rfl, S6, hle⟩
    replace L0 := L0.trans hle
    replace S3 := S3.le hle
    clear hle
    go_wp2_with fail
    refine (equalInts_self _ _ _ _ _ _ _ S3 S6).mono ?_
    rintro e w9 ⟨rfl, hle⟩
    replace L0 := L0.trans hle
    clear hle
    go_wp2
    go_ret
    exact ⟨rfl, L0⟩
  obtain ⟨U, V, HU, HW, hc, hUV⟩ := wf_facts hv hkp hh
  rw [HU, nI_len] at S3 ⊢
  go_wp2_with fail
  refine (Calls.sl1w (by decide) (iWayOut_any B D m c _ d xs p k hm1 w6 S S2)).mono ?_
  rintro e w7 ⟨A5, c5, rfl, S5, hle⟩
  replace ct := (hle.cell zt).trans ct
  replace zt := Nat.lt_of_lt_of_le zt hle.size
  replace S := S.le hle
  replace L0 := L0.trans hle
  replace S2 := S2.le hle
  replace S3 := S3.le hle
  clear hle
  rw [HW, nI_len] at S5 ⊢
  have hle1 : U.length ≤ (U ++ V).length := by rw [List.length_append]; omega
  have ST := S5.take_ U.length hle1
  have e1 : (nI (U ++ V)).take U.length = nI U := by unfold nI; rw [← List.map_take, List.take_left]
  rw [e1] at ST
  have hcap := S5.cap_
  have hlec : U.length ≤ c5 := by omega
  have hlen : 0 ≤ caX xs p k a ∨ (U ++ V).length = U.length := by
    rcases hc with h | h
    · exact .inl h
    · right; rw [h, List.append_nil]
  clear HU HW e1 hc
  generalize (U ++ V).length = n2 at *
  generalize U.length = n1 at *
  have hle2 : (n1 : Int) ≤ (n2 : Int) := by omega
  have hle3 : (n1 : Int) ≤ (c5 : Int) := by omega
  have hd1 : decide (n1 ≤ n2) = true := decide_eq_true hle1
  generalize hu0 : caX xs p k a = u at *
  have HU0 := Lib.hid hu0
  clear hu0
  go_wp2_with fail
  refine (equalInts_self _ _ _ _ _ _ _ ST S3).mono ?_
  rintro e w8 ⟨rfl, hle⟩
  replace ct := (hle.cell zt).trans ct
  replace zt := Nat.lt_of_lt_of_le zt hle.size
  replace S := S.le hle
  replace L0 := L0.trans hle
  replace S2 := S2.le hle
  clear hle
  go_wp2_with fail
  refine (Calls.val (iCatcherOf_any B D m c _ d xs p k a hm1 w8 S S2) (by rw [HU0.out])).mono ?_
  rintro e w9 ⟨rfl, hle⟩
  replace L0 := L0.trans hle
  clear hle
  rcases hlen with hu | hu
  · have hub : decide ((0 : Int) ≤ u) = true := decide_eq_true hu
    go_wp2
    go_ret
    exact ⟨rfl, L0⟩
  · by_cases hu0 : (0 : Int) ≤ u
    · have hub : decide ((0 : Int) ≤ u) = true := decide_eq_true hu0
      go_wp2
      go_ret
      exact ⟨rfl, L0⟩
    · have hub : decide ((0 : Int) ≤ u) = false := decide_eq_false hu0
      have hnn : ((n1 : Int) == (n2 : Int)) = true := by rw [hu]; simp
      clear hu
      go_wp2
      go_ret
      exact ⟨rfl, L0⟩
end Go.Proofs.Ytomdhpfelchjeaa
