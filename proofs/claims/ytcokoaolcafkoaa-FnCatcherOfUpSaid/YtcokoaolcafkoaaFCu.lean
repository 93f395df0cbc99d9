/- FCu: one text of DPi, PdU, FCatcherOfUp -/
import Derived.Test.YtcokoaolcafkoaaDPg
import Derived.Test.YtcokoaolcafkoaaRg
import Derived.Test.YtcokoaolcafkoaaWyC
import Derived.Test.YtcokoaolcafkoaaPdT
import Derived.Test.YtcokoaolcafkoaaLD
import Derived.Deep.RegionHeld3
namespace Go.Proofs.Ytcokoaolcafkoaa
open Go.RowKit
section
/-- a program, a line and a class that were drawn for a law -/
def DrawnPLA (w : World) (e : Ending) (w' : World) : Prop :=
  ∃ (B D : Option Addr) (m c q d : Nat) (xs : List Cls) (L : List Lin) (i a : Int), e = .returned (.tuple #[.agg #[.slice B m c], .slice D q d, .int .i64 i, .int .i64 a]) ∧ Sl w' B m c xs ∧ m ≤ 8 ∧ Sl w' D q d L ∧ q ≤ 24 ∧ (-1 ≤ i ∧ i ≤ 24) ∧ (-1 ≤ a ∧ a ≤ 8) ∧ Le w w'
set_option maxHeartbeats 4000000 in
set_option maxRecDepth 100000 in
theorem drawCatcherOf_any (A : Option Addr) (n cap : Nat) (bs : List By) (w : World) (hR : Sl w A n cap bs) : Calls Try.prog 28 #[.slice A n cap] w (DrawnPLA w) := by
  go_enter Try.func28, Try.ntmps28
  go_wp2_with fail
  obtain ⟨c0, z0, L0⟩ := box1 w (.slice none 0 0) 25
  have f0 : (w.alloc (.cells #[.slice none 0 0] 25)).frozen? ⟨w.heap.size, 0, none⟩ = false := World.frozen?_alloc_at _ _ _ _ rfl
  have S0 := hR.le L0
  generalize w.alloc (.cells #[.slice none 0 0] 25) = W at *
  refine (newReader_any A n cap bs W S0).mono ?_
  rintro e w1 ⟨g, A1, n1, k1, bs1, rfl, hg, R1, hle⟩
  have hz1 : w.heap.size < w1.heap.size := Nat.lt_of_lt_of_le z0 hle.size
  have hzg := R1.lt
  replace c0 := (hle.cell z0).trans c0
  replace f0 := (hle.frozen z0).trans f0
  replace L0 := L0.trans hle
  clear S0
  have hgz : w.heap.size ≠ g := by omega
  have hwg : w.heap.size ≤ g := by omega
  go_wp2_with fail
  refine (lineIn_any g 0 A1 n1 k1 bs1 w1 (by omega) R1).mono ?_
  rintro e w2 ⟨B, D, m, c, q, d, xs, L, i, p2, rfl, S2, hm, hab, SD, hq, hD, hi, hp2, R2, hg2⟩
  obtain rfl := SD.len
  replace c0 := (hg2.cell hz1 hgz).trans c0
  replace f0 := (hg2.frozen hz1 hgz).trans f0
  have L2 := Gx.le L0 hg2 (by omega)
  have hs2 := hg2.size
  have z2 : w.heap.size < w2.heap.size := by omega
  have hgt : w2.heap.size ≠ g := by omega
  obtain ⟨ct, zt, LB⟩ := box1 w2 (.slice B m c) 25
  replace c0 := (LB.cell z2).trans c0
  replace f0 := (LB.frozen z2).trans f0
  replace S2 := S2.le LB
  replace SD := SD.le LB
  replace R2 := R2.le LB
  replace L2 := L2.trans LB
  have z0' := Nat.lt_of_lt_of_le z2 LB.size
  have HB : Hid (0 < m → ∀ a, B = some a → w.heap.size < a.block) := fun hn a e => by have := hab hn a e; omega
  have HD : Hid (0 < L.length → ∀ a, D = some a → w.heap.size < a.block) := fun hn a e => by have := hD hn a e; omega
  have hoffB : 0 < m → Off g B := fun hn a e => by have := hab hn a e; omega
  have hoffD : 0 < L.length → Off g D := fun hn a e => by have := hD hn a e; omega
  clear z0 L0 R1 hg2 hle LB hab hD z2
  go_wp2_with fail
  generalize w2.alloc (.cells #[.slice B m c] 25) = W2 at *
  generalize w2.heap.size = tb at *
  have R3 := R2.le (Le.refl W2).drew
  have S3 := S2.le (Le.refl W2).drew
  have SD3 := SD.le (Le.refl W2).drew
  have L3 := L2.drew
  have c03 : W2.drew.cell? ⟨w.heap.size, 0, none⟩ = some (.slice none 0 0) := c0
  have f03 : W2.drew.frozen? ⟨w.heap.size, 0, none⟩ = false := f0
  have ct3 : W2.drew.cell? ⟨tb, 0, none⟩ = some (.slice B m c) := ct
  have z03 : w.heap.size < W2.drew.heap.size := z0'
  have zt3 : tb < W2.drew.heap.size := zt
  clear R2 S2 SD L2 c0 f0 ct z0' zt
  refine wp_region_noPanic ?_
  refine wp_region_held_drew (S := fun w' => w'.cell? ⟨tb, 0, none⟩ = some (.slice B m c)) (by kernel_rfl) ct3 (fun hHeld => ?_)
  refine wpAnyH_takeL (i := 0) (v := ?_) rfl (by kernel_rfl) (by kernel_rfl) (by kernel_rfl) (fun _ _ _ h => h) (Or.inl ⟨by rfl, ?_⟩) (by assumption) ?_
  rotate_left 1
  · (intro w hSw; (try dsimp only at hSw); go_simp; try with_reducible rfl)
  try simp only [Act.put, List.setIfInBounds_toArray, List.set_cons_zero, List.set_cons_succ]
  refine wpAnyH_takeL (i := 1) (v := ?_) rfl (by kernel_rfl) (by kernel_rfl) (by kernel_rfl) (fun _ _ _ h => h) (Or.inl ⟨by rfl, ?_⟩) (by assumption) ?_
  rotate_left 1
  · (intro w hSw; (try dsimp only at hSw); go_simp; try with_reducible rfl)
  try simp only [Act.put, List.setIfInBounds_toArray, List.set_cons_zero, List.set_cons_succ]
  refine wpAnyH_takeL (i := 2) (v := ?_) rfl (by kernel_rfl) (by kernel_rfl) (by kernel_rfl) (fun _ _ _ h => h) (Or.inl ⟨by rfl, ?_⟩) (by assumption) ?_
  rotate_left 1
  · (intro w hSw; (try dsimp only at hSw); go_simp; try with_reducible rfl)
  try simp only [Act.put, List.setIfInBounds_toArray, List.set_cons_zero, List.set_cons_succ]
  refine wpAnyH_takeL (i := 3) (v := ?_) rfl (by kernel_rfl) (by kernel_rfl) (by kernel_rfl) (fun _ _ _ h => h) (Or.inl ⟨by rfl, ?_⟩) (by assumption) ?_
  rotate_left 1
  · (intro w hSw; (try dsimp only at hSw); go_simp; try with_reducible rfl)
  try simp only [Act.put, List.setIfInBounds_toArray, List.set_cons_zero, List.set_cons_succ]
  refine wpAnyH_takeL (i := 4) (v := ?_) rfl (by kernel_rfl) (by kernel_rfl) (by kernel_rfl) (fun _ _ _ h => h) (Or.inl ⟨by rfl, ?_⟩) (by assumption) ?_
  rotate_left 1
  · (intro w hSw; (try dsimp only at hSw); go_simp; try with_reducible rfl)
  try simp only [Act.put, List.setIfInBounds_toArray, List.set_cons_zero, List.set_cons_succ]
  refine wpAnyH_ready (rs := [5]) (by kernel_rfl) (by simp) (AllReadyH.consL (i := 5) rfl (fun K hK => ?_) AllReadyH.nil)
  go_simp
  go_at_call 65
  refine (aClass_any B m c g p2 A1 n1 k1 bs1 W2.drew hm (by omega) R3).mono ?_
  rintro e w3 ⟨a, p3, rfl, ha0, ha1, hp3, R4, hg3⟩
  have c0 := (hg3.cell z03 hgz).trans c03
  have f0 := (hg3.frozen z03 hgz).trans f03
  have ct := (hg3.cell zt3 hgt).trans ct3
  have S4 := S3.gx hoffB hg3
  have SD4 := SD3.gx hoffD hg3
  have L4 := Gx.le L3 hg3 hwg
  clear c03 f03 ct3 S3 SD3 L3 R3 R4 hg3
  refine hK.out _ _ (ct) (fun hHeld => ?_)
  clear hK K
  try simp only [Act.put, List.setIfInBounds_toArray, List.set_cons_zero, List.set_cons_succ]
  refine wpAnyH_ready (rs := [6]) (by kernel_rfl) (by simp) (AllReadyH.consL (i := 6) rfl (fun K hK => ?_) AllReadyH.nil)
  go_simp
  have hend : ∀ u, (w3.setCell ⟨w.heap.size, 0, none⟩ u).cell? ⟨w.heap.size, 0, none⟩ = some u := fun u => cell_set_same c0
  refine hK.out _ _ (((cell_set_other (.inl (by omega))).trans ct)) (fun hHeld => ?_)
  clear hK K
  try simp only [Act.put, List.setIfInBounds_toArray, List.set_cons_zero, List.set_cons_succ]
  refine wpAnyH_takeL (i := 7) (v := ?_) rfl (by kernel_rfl) (by kernel_rfl) (by kernel_rfl) (fun _ _ _ h => h) (Or.inl ⟨by rfl, ?_⟩) (by assumption) ?_
  rotate_left 1
  · (intro w hSw; (try dsimp only at hSw); go_simp; try with_reducible rfl)
  try simp only [Act.put, List.setIfInBounds_toArray, List.set_cons_zero, List.set_cons_succ]
  refine wpAnyH_takeL (i := 8) (v := ?_) rfl (by kernel_rfl) (by kernel_rfl) (by kernel_rfl) (fun _ _ _ h => h) (Or.inl ⟨by rfl, ?_⟩) (by assumption) ?_
  rotate_left 1
  · (intro w hSw; (try dsimp only at hSw); go_simp; try with_reducible rfl)
  try simp only [Act.put, List.setIfInBounds_toArray, List.set_cons_zero, List.set_cons_succ]
  refine wpAnyH_takeL (i := 9) (v := ?_) rfl (by kernel_rfl) (by kernel_rfl) (by kernel_rfl) (fun _ _ _ h => h) (Or.inl ⟨by rfl, ?_⟩) (by assumption) ?_
  rotate_left 1
  · (intro w hSw; (try dsimp only at hSw); go_simp; try with_reducible rfl)
  try simp only [Act.put, List.setIfInBounds_toArray, List.set_cons_zero, List.set_cons_succ]
  refine wpAnyH_done (by kernel_rfl) ?_ _
  refine NoPanic.normal ?_
  have HF : Hid (DrawnPLA w (.returned (.tuple #[.agg #[.slice B m c], .slice D L.length d, .int .i64 i, .int .i64 a])) (w3.setCell ⟨w.heap.size, 0, none⟩ (.slice B m c))) := ⟨B, D, m, c, L.length, d, xs, L, i, a, rfl, S4.gx (fun h a e => by have := HB.out h a e; omega) (Gx.set w.heap.size 0 w3 _), hm, SD4.gx (fun h a e => by have := HD.out h a e; omega) (Gx.set w.heap.size 0 w3 _), hq, hi, ⟨ha0, ha1⟩, L4.setCell (Nat.le_refl _) _⟩
  clear hHeld S4 SD4 L4
  go_wp2
  exact bodyPost_ret (v := .tuple #[.agg #[.slice B m c], .slice D L.length d, .int .i64 i, .int .i64 a]) (by simp [results, Try.results28, go_sem, hend]) rfl HF.out
end

section
theorem enGo_headU {p : List Lin} {y : Nat} {r : List Nat} : ∀ (d : Int) (k : Nat), enGo p d k = y :: r → r = encl p y
  | _, 0, h => by cases h
  | d, k + 1, h => by
    rw [enGo_succ] at h
    by_cases c : dep p k < d
    · rw [if_pos c] at h
      injection h with h1 h2
      rw [← h2, ← h1]; rfl
    · rw [if_neg c] at h
      exact enGo_headU d k h
theorem ctE_mem (xs : List Cls) (p : List Lin) (a : Int) : ∀ E : List Nat, ctE xs p a E = -1 ∨ ∃ x ∈ E, ctE xs p a E = (x : Int)
  | [] => .inl rfl
  | y :: r => by
    unfold ctE
    split
    · exact .inr ⟨y, List.mem_cons_self .., rfl⟩
    · rcases ctE_mem xs p a r with h | ⟨x, hx, h⟩
      · exact .inl h
      · exact .inr ⟨x, List.mem_cons_of_mem _ hx, h⟩
/-- what catches at a line is what catches at the line around, or that line, or one of that line's try -/
theorem ca_up {xs : List Cls} {p : List Lin} {k : Nat} {a : Int} (h : vp xs p = true) (hk : k < p.length) (ha : hasK xs a = true) : (enX xs p k = [] ∧ caX xs p k a = -1) ∨ ∃ (y : Nat) (r : List Nat), enX xs p k = nI (y :: r) ∧ y < p.length ∧ (caX xs p k a = caX xs p y a ∨ caX xs p k a = (y : Int) ∨ ∃ x ∈ parts p y, caX xs p k a = (x : Int) ∧ tyX xs p y = nI (parts p y)) := by
  have gk : ∀ {z : Nat}, z < p.length → glB xs p z = true := fun {z} hz => glB_iff.2 ⟨h, z, rfl, hz⟩
  have cx : ∀ {z : Nat}, z < p.length → caX xs p z a = coF xs p a (encl p z) := fun {z} hz => by
    unfold caX grB; rw [gk hz, ha]; rfl
  have h2 : enX xs p k = nI (encl p k) := by unfold enX; rw [gk hk]; rfl
  rw [cx hk, h2]
  cases he : encl p k with
  | nil => exact .inl ⟨rfl, rfl⟩
  | cons y r =>
    have hy : y < p.length := by have := encl_lt (p := p) (i := k) y (by rw [he]; exact List.mem_cons_self ..); omega
    have hr : r = encl p y := enGo_headU _ _ he
    refine .inr ⟨y, r, rfl, hy, ?_⟩
    rw [cx hy, ← hr]
    have e0 : coF xs p a (y :: r) = if 0 ≤ ctAt xs p a y then ctAt xs p a y else coF xs p a r := rfl
    rw [e0]
    by_cases hc : 0 ≤ ctAt xs p a y
    · rw [if_pos hc]
      unfold ctAt at hc ⊢
      by_cases h7 : knd p y = 7
      · rw [if_pos h7] at hc ⊢
        rcases ctE_mem xs p a (exL p y) with e | ⟨x, hx, e⟩
        · omega
        · have hx2 : x ∈ parts p y := (List.mem_filter.1 hx).1
          exact .inr (.inr ⟨x, hx2, e, tyX_some (gk hy) (tryAt_of ⟨h7, List.mem_cons_self ..⟩)⟩)
      · rw [if_neg h7] at hc ⊢
        by_cases h11 : knd p y = 11 ∧ lnBc p y = 1
        · rw [if_pos h11]; exact .inr (.inl rfl)
        · rw [if_neg h11] at hc; omega
    · rw [if_neg hc]; exact .inl rfl
end

section
set_option maxHeartbeats 4000000 in
set_option maxRecDepth 100000 in
theorem fnCatcherOfUp_walk (A : Option Addr) (n cap : Nat) (bs : List By) (w : World) (hR : Sl w A n cap bs) :
    Calls Try.prog 12 #[.slice A n cap] w fun e w' => e = .returned (.bool true) ∧ Le w w' := by
  have hm := hR.n_le
  by_cases hbig : 1048576 < n
  · go_enter Try.func12, Try.ntmps12
    go_wp2
    go_ret
    exact ⟨rfl, Le.refl w⟩
  go_enter Try.func12, Try.ntmps12
  go_wp2_with fail
  refine (drawCatcherOf_any A n cap bs w hR).mono ?_
  rintro e w1 ⟨B, D, m, c, q, d, xs, p, i, a, rfl, S, hm8, S2, hq24, hi, ha, L0⟩
  obtain rfl := S2.len
  have hm1 : m ≤ 1048576 := by omega
  have hsm : p.length ≤ 1048576 := by omega
  clear hbig hm hR
  go_wp2_with fail
  obtain ⟨ct, zt, hleB⟩ := box1 w1 (.slice B m c) 25
  replace S := S.le hleB
  replace L0 := L0.trans hleB
  replace S2 := S2.le hleB
  clear hleB
  generalize w1.alloc (.cells #[.slice B m c] 25) = W1 at *
  go_wp2_with fail
  refine (iCatcherOf_any B D m c _ d xs p i a hm1 W1 S S2).mono ?_
  rintro e w2 ⟨rfl, hle⟩
  replace ct := (hle.cell zt).trans ct
  replace zt := Nat.lt_of_lt_of_le zt hle.size
  replace S := S.le hle
  replace L0 := L0.trans hle
  replace S2 := S2.le hle
  clear hle
  go_wp2_with fail
  refine (sCatcherOf_any B D m c _ d xs p i a hsm w2 S S2).mono ?_
  rintro e w3 ⟨rfl, hle⟩
  replace ct := (hle.cell zt).trans ct
  replace zt := Nat.lt_of_lt_of_le zt hle.size
  replace S := S.le hle
  replace L0 := L0.trans hle
  replace S2 := S2.le hle
  clear hle
  have hbb : (caX xs p i a != caX xs p i a) = false := by simp
  have hbb2 : (caX xs p i a == caX xs p i a) = true := by simp
  go_wp2_with fail
  refine (pValidProgram_any B D m c _ d xs p hm1 w3 S S2).mono ?_
  rintro e w4 ⟨rfl, hle⟩
  replace ct := (hle.cell zt).trans ct
  replace zt := Nat.lt_of_lt_of_le zt hle.size
  replace S := S.le hle
  replace L0 := L0.trans hle
  replace S2 := S2.le hle
  clear hle
  cases hv : vp xs p
  · go_wp2_with fail
    refine (sCatcherOf_any B D m c _ d xs p i a hsm w4 S S2).mono ?_
    rintro e w9 ⟨rfl, hle⟩
    replace L0 := L0.trans hle
    clear hle
    go_wp2
    go_ret
    exact ⟨rfl, L0⟩
  by_cases h0 : i < 0
  · go_wp2_with fail
    refine (sCatcherOf_any B D m c _ d xs p i a hsm w4 S S2).mono ?_
    rintro e w9 ⟨rfl, hle⟩
    replace L0 := L0.trans hle
    clear hle
    go_wp2
    go_ret
    exact ⟨rfl, L0⟩
  obtain ⟨k, rfl⟩ := Int.eq_ofNat_of_zero_le (show 0 ≤ i by omega)
  by_cases hk : p.length ≤ k
  · have hk2 : (p.length : Int) ≤ (k : Int) := by omega
    go_wp2_with fail
    refine (sCatcherOf_any B D m c _ d xs p _ a hsm w4 S S2).mono ?_
    rintro e w9 ⟨rfl, hle⟩
    replace L0 := L0.trans hle
    clear hle
    go_wp2
    go_ret
    exact ⟨rfl, L0⟩
  have hkp : k < p.length := by omega
  have hk0 : (0 : Int) ≤ (k : Int) := by omega
  have hkn : (k : Int) < (p.length : Int) := by omega
  go_wp2_with fail
  refine (has_any B m c xs a w4 S).mono ?_
  rintro e w5 ⟨rfl, hle⟩
  replace ct := (hle.cell zt).trans ct
  replace zt := Nat.lt_of_lt_of_le zt hle.size
  replace S := S.le hle
  replace L0 := L0.trans hle
  replace S2 := S2.le hle
  clear hle
  cases hh : hasK xs a
  · go_wp2_with fail
    refine (sCatcherOf_any B D m c _ d xs p _ a hsm w5 S S2).mono ?_
    rintro e w9 ⟨rfl, hle⟩
    replace L0 := L0.trans hle
    clear hle
    go_wp2
    go_ret
    exact ⟨rfl, L0⟩
  rcases ca_up hv hkp hh with ⟨HE, HW⟩ | ⟨y, r, HE, hyp, hcase⟩
  · have hE0 : (enX xs p k).length = 0 := by rw [HE]; rfl
    rw [HW] at hbb hbb2 ⊢
    go_wp2_with fail
    refine (Calls.sl1t (by decide) (iEnclosingOf_any B D m c _ d xs p k hm1 w5 S S2)).mono ?_
    rintro e w6 ⟨A5, c5, rfl, S5, hle⟩
    replace L0 := L0.trans hle
    clear hle
    rw [hE0] at S5 ⊢
    clear hE0
    go_wp2
    go_ret
    exact ⟨rfl, L0⟩
  · have hEL : (enX xs p k).length = r.length + 1 := by rw [HE, nI_len]; rfl
    go_wp2_with fail
    refine (Calls.sl1t (by decide) (iEnclosingOf_any B D m c _ d xs p k hm1 w5 S S2)).mono ?_
    rintro e w6 ⟨A5, c5, rfl, S5, hle⟩
    replace ct := (hle.cell zt).trans ct
    replace zt := Nat.lt_of_lt_of_le zt hle.size
    replace S := S.le hle
    replace L0 := L0.trans hle
    replace S2 := S2.le hle
    clear hle
    rw [hEL] at S5 ⊢
    obtain ⟨b, off, rfl, hb, hcell, hi1, hi2⟩ := S5.int_at (k := 0) (by rw [hEL]; omega)
    clear hi1 hi2
    have hcl : (enX xs p k)[0]'(by rw [hEL]; omega) = (y : Int) := by simp [HE, nI]
    rw [hcl] at hcell
    simp only [Nat.add_zero] at hcell
    have cl := hcell
    have zl := hb
    have h0n : (0 : Int) < ((r.length + 1 : Nat) : Int) := by omega
    have hne : (((r.length + 1 : Nat) : Int) == 0) = false := beq_eq_false_iff_ne.2 (by omega)
    clear hcell hb hcl HE hEL S5
    go_wp2_with fail
    replace ct := (show w6.drew.cell? _ = _ from ct)
    replace zt := (show _ < w6.drew.heap.size from zt)
    replace cl := (show w6.drew.cell? _ = _ from cl)
    replace zl := (show _ < w6.drew.heap.size from zl)
    replace S := S.le (Le.refl _).drew
    replace L0 := L0.drew
    replace S2 := S2.le (Le.refl _).drew
    go_region_held3 (fun w' => w'.cell? ⟨w1.heap.size, 0, none⟩ = some (.slice B m c) ∧ w'.cell? ⟨b, off, none⟩ = some (.int .i64 y))
      (first | exact ⟨ct, cl⟩)
      (first
      | (go_at_call 29; refine (iCatcherOf_any B _ m c _ d xs p y a hm1 _ S S2).mono ?_; rintro e w7 ⟨rfl, hle⟩; replace ct := (hle.cell zt).trans ct; replace cl := (hle.cell zl).trans cl; replace zt := Nat.lt_of_lt_of_le zt hle.size; replace zl := Nat.lt_of_lt_of_le zl hle.size; replace S := S.le hle; replace L0 := L0.trans hle; replace S2 := S2.le hle; clear hle)
      )
    by_cases e1 : caX xs p k a = caX xs p y a
    · have hb1 : (caX xs p k a == caX xs p y a) = true := beq_iff_eq.2 e1
      have F1 := cell_ext zl cl
      have F2 := cell_ext zt ct
      generalize caX xs p k a = u at *
      generalize caX xs p y a = v at *
      clear e1 hcase
      go_wp2_with fail
      refine wp_region_ext (by kernel_rfl) (by kernel_rfl) ?_
      repeat (go_big_quiet_step (fail))
      refine wpQuiet_nil ?_
      intro _ hw'
      obtain ⟨gg, rfl⟩ := hw'
      replace L0 := L0.trans (Le.ext w7 gg)
      go_wp2
      go_ret
      exact ⟨rfl, L0⟩
    have hb1 : (caX xs p k a == caX xs p y a) = false := beq_eq_false_iff_ne.2 e1
    by_cases e2 : caX xs p k a = (y : Int)
    · have hb2 : (caX xs p k a == (y : Int)) = true := beq_iff_eq.2 e2
      have F1 := cell_ext zl cl
      have F2 := cell_ext zt ct
      generalize caX xs p k a = u at *
      generalize caX xs p y a = v at *
      clear e1 e2 hcase
      go_wp2_with fail
      refine wp_region_ext (by kernel_rfl) (by kernel_rfl) ?_
      repeat (go_big_quiet_step (fail))
      refine wpQuiet_nil ?_
      intro _ hw'
      obtain ⟨gg, rfl⟩ := hw'
      replace L0 := L0.trans (Le.ext w7 gg)
      go_wp2
      go_ret
      exact ⟨rfl, L0⟩
    have hb2 : (caX xs p k a == (y : Int)) = false := beq_eq_false_iff_ne.2 e2
    obtain ⟨x, hx, hxe, hty⟩ : ∃ x ∈ parts p y, caX xs p k a = (x : Int) ∧ tyX xs p y = nI (parts p y) := by
      rcases hcase with h | h | h
      · exact absurd h e1
      · exact absurd h e2
      · exact h
    have hin := hasI_nIt hx
    rw [← hty, ← hxe] at hin
    generalize caX xs p k a = u at *
    generalize caX xs p y a = v at *
    clear e1 e2 hcase hxe hty
    go_wp2_with fail
    replace ct := (show w7.drew.cell? _ = _ from ct)
    replace zt := (show _ < w7.drew.heap.size from zt)
    replace cl := (show w7.drew.cell? _ = _ from cl)
    replace zl := (show _ < w7.drew.heap.size from zl)
    replace S := S.le (Le.refl _).drew
    replace L0 := L0.drew
    replace S2 := S2.le (Le.refl _).drew
    go_region_held3 (fun w' => w'.cell? ⟨w1.heap.size, 0, none⟩ = some (.slice B m c) ∧ w'.cell? ⟨b, off, none⟩ = some (.int .i64 y))
      (first | exact ⟨ct, cl⟩)
      (first
      | (go_at_call 21; refine (Calls.sl1t (by decide) (iTryOf_any B _ m c _ d xs p y hm1 _ S S2)).mono ?_; rintro e w8 ⟨A7, c7, rfl, S7, hle⟩; replace ct := (hle.cell zt).trans ct; replace cl := (hle.cell zl).trans cl; replace zt := Nat.lt_of_lt_of_le zt hle.size; replace zl := Nat.lt_of_lt_of_le zl hle.size; replace L0 := L0.trans hle; clear hle)
      | (go_at_call 23; refine (Calls.val (isIn_any A7 _ c7 _ u _ S7) (vb hin)).mono ?_; rintro e w9 ⟨rfl, rfl⟩; skip)
      )
    go_wp2
    go_ret
    exact ⟨rfl, L0⟩
end
end Go.Proofs.Ytcokoaolcafkoaa
