/- draw of WithExcept; RunLog of the program -/
import Derived.Test.YtlepgfccnfcagaaWp16
import Derived.Test.YtlepgfccnfcagaaWp12
namespace Go.Proofs.Ytlepgfccnfcagaa
open Go.RowKit
def DrawnWE (w : World) (e : Ending) (w' : World) : Prop :=
  ∃ (B D E : Option Addr) (m c q d q2 d2 : Nat) (xs : List Cls) (L L2 : List Lin) (a : Int), e = .returned (.tuple #[.agg #[.slice B m c], .slice D q d, .int .i64 a, .slice E q2 d2]) ∧ Sl w' B m c xs ∧ m ≤ 8 ∧ Sl w' D q d L ∧ q ≤ 24 ∧ Sl w' E q2 d2 L2 ∧ q2 ≤ 8 ∧ -1 ≤ a ∧ a ≤ 100 ∧ Le w w'
set_option maxHeartbeats 1000000 in
set_option maxRecDepth 100000 in
theorem iRunLog_any (B A : Option Addr) (m c n cap : Nat) (xs : List Cls) (p : List Lin) (hm : m ≤ 1048576) (w : World) (hT : Sl w B m c xs) (hR : Sl w A n cap p) :
    Calls Try.prog 16 #[.agg #[.slice B m c], .slice A n cap] w fun e w' => ∃ v, e = .returned v ∧ Owd 3 w w' v (rpL xs p) ∧ Le w w' := by
  have L1 := Le.new w (.cells #[.slice B m c] 25)
  go_enter Try.func16, Try.ntmps16
  go_wp2_with fail
  refine (iRp_any B A m c n cap xs p hm _ (hT.le L1) (hR.le L1)).mono ?_
  rintro e w2 ⟨lv, hv, rfl, D, -, -, hle⟩
  have HD := Lib.hid (And.intro (D.mono L1) (L1.trans hle))
  have q0 := fld0
  clear D hle
  go_wp2
  go_ret
  exact ⟨_, rfl, HD.out.1, HD.out.2⟩
set_option maxHeartbeats 4000000 in
set_option maxRecDepth 100000 in
theorem drawWithExcept_any (A : Option Addr) (n cap : Nat) (bs : List By) (w : World) (hR : Sl w A n cap bs) : Calls Try.prog 30 #[.slice A n cap] w (DrawnWE w) := by
  go_enter Try.func30, Try.ntmps30
  go_wp2_with fail
  obtain ⟨c0, z0, L0⟩ := box1 w (.slice none 0 0) 25
  have f0 : (w.alloc (.cells #[.slice none 0 0] 25)).frozen? ⟨w.heap.size, 0, none⟩ = false := World.frozen?_alloc_at _ _ _ _ rfl
  have S0 := hR.le L0
  generalize w.alloc (.cells #[.slice none 0 0] 25) = W at *
  refine (newReader_any A n cap bs W S0).mono ?_
  rintro e w1 ⟨g, A1, n1, k1, bs1, rfl, hg, R1, hle⟩
  have hz1 : w.heap.size < w1.heap.size := Nat.lt_of_lt_of_le z0 hle.size
  replace c0 := (hle.cell z0).trans c0
  replace f0 := (hle.frozen z0).trans f0
  replace L0 := L0.trans hle
  clear S0
  have hgz : w.heap.size ≠ g := by omega
  have hgl1 := R1.lt
  go_wp2_with fail
  refine (twoPrograms_any g 0 A1 n1 k1 bs1 w1 (by omega) R1).mono ?_
  rintro e w2 ⟨B, D, E, m, c, q, d, q2, d2, xs, L, L2, p2, rfl, S2, hm, hab, SD, hq, hD, SE, hq2, hE, hp2, R2, hg2⟩
  replace c0 := (hg2.cell hz1 hgz).trans c0
  replace f0 := (hg2.frozen hz1 hgz).trans f0
  obtain ⟨ct, zt, LB⟩ := box1 w2 (.slice B m c) 25
  have hz2 : w.heap.size < w2.heap.size := Nat.lt_of_lt_of_le hz1 hg2.size
  have hgl : g < w2.heap.size := R2.lt
  replace c0 := (LB.cell hz2).trans c0
  replace f0 := (LB.frozen hz2).trans f0
  have S3 := S2.le LB
  have SD3 := SD.le LB
  have SE3 := SE.le LB
  have R3 := R2.le LB
  have G3 := hg2.trans (Gx.of_le (g := g) LB)
  have HOB : Hid (0 < m → Off g B) := fun h a e => by have := hab h a e; omega
  have HOD : Hid (0 < q → Off g D) := fun h a e => by have := hD h a e; omega
  have HOE : Hid (0 < q2 → Off g E) := fun h a e => by have := hE h a e; omega
  have HB := Lib.hid hab
  have HD := Lib.hid hD
  have HE := Lib.hid hE
  have HM := Lib.hid hm
  have HQ := Lib.hid hq
  have HQ2 := Lib.hid hq2
  have hzt : w.heap.size < w2.heap.size + 1 := by omega
  clear LB S2 SD SE R2 hg2 hab hD hE hle R1
  go_wp2_with fail
  generalize w2.alloc (.cells #[.slice B m c] 25) = W2 at *
  have hgt : w2.heap.size ≠ g := by omega
  have hzw : w.heap.size < W2.heap.size := by omega
  have ctd : W2.drew.cell? ⟨w2.heap.size, 0, none⟩ = some (.slice B m c) := ct
  have ztd : w2.heap.size < W2.drew.heap.size := zt
  have hzd : w.heap.size < W2.drew.heap.size := hzw
  have c0d : W2.drew.cell? ⟨w.heap.size, 0, none⟩ = some (.slice none 0 0) := c0
  have f0d : W2.drew.frozen? ⟨w.heap.size, 0, none⟩ = false := f0
  have S4 := S3.le (Le.refl W2).drew
  have SD4 := SD3.le (Le.refl W2).drew
  have SE4 := SE3.le (Le.refl W2).drew
  have R4 := R3.le (Le.refl W2).drew
  have G4 := G3.trans (Gx.of_le (g := g) (Le.refl W2).drew)
  clear ct zt hzw c0 f0 S3 SD3 SE3 R3 G3
  refine wp_region_noPanic ?_
  refine wp_region_held_drew (S := fun w' => w'.cell? ⟨w2.heap.size, 0, none⟩ = some (.slice B m c)) (by kernel_rfl) ctd (fun hHeld => ?_)
  refine wpAnyH_takeL (i := 0) (v := ?_) rfl (by kernel_rfl) (by kernel_rfl) (by kernel_rfl) (fun _ _ _ h => h) (Or.inl ⟨by rfl, ?_⟩) (by assumption) ?_
  rotate_left 1
  · (intro w hSw; (try dsimp only at hSw); go_simp; try with_reducible rfl)
  try simp only [Act.put, List.setIfInBounds_toArray, List.set_cons_zero, List.set_cons_succ]
  refine wpAnyH_takeL (i := 1) (v := ?_) rfl (by kernel_rfl) (by kernel_rfl) (by kernel_rfl) (fun _ _ _ h => h) (Or.inl ⟨by rfl, ?_⟩) (by assumption) ?_
  rotate_left 1
  · (intro w hSw; (try dsimp only at hSw); go_simp; try with_reducible rfl)
  try simp only [Act.put, List.setIfInBounds_toArray, List.set_cons_zero, List.set_cons_succ]
  refine wpAnyH_takeL (i := 2) (v := ?_) rfl (by kernel_rfl) (by kernel_rfl) (by kernel_rfl) (fun _ _ _ h => h) (Or.inl ⟨by rfl, ?_⟩) (by assumption) ?_
  rotate_left 1
  · (intro w hSw; (try dsimp only at hSw); go_simp; try with_reducible rfl)
  try simp only [Act.put, List.setIfInBounds_toArray, List.set_cons_zero, List.set_cons_succ]
  refine wpAnyH_takeL (i := 3) (v := ?_) rfl (by kernel_rfl) (by kernel_rfl) (by kernel_rfl) (fun _ _ _ h => h) (Or.inl ⟨by rfl, ?_⟩) (by assumption) ?_
  rotate_left 1
  · (intro w hSw; (try dsimp only at hSw); go_simp; try with_reducible rfl)
  try simp only [Act.put, List.setIfInBounds_toArray, List.set_cons_zero, List.set_cons_succ]
  refine wpAnyH_takeL (i := 5) (v := ?_) rfl (by kernel_rfl) (by kernel_rfl) (by kernel_rfl) (fun _ _ _ h => h) (Or.inl ⟨by rfl, ?_⟩) (by assumption) ?_
  rotate_left 1
  · (intro w hSw; (try dsimp only at hSw); go_simp; try with_reducible rfl)
  try simp only [Act.put, List.setIfInBounds_toArray, List.set_cons_zero, List.set_cons_succ]
  refine wpAnyH_ready (rs := [4]) (by kernel_rfl) (by simp) (AllReadyH.consL (i := 4) rfl (fun K hK => ?_) AllReadyH.nil)
  go_simp
  go_at_call 52
  refine (aClass_any B m c g p2 A1 n1 k1 bs1 W2.drew HM.out (by omega) R4).mono ?_
  rintro e w5 ⟨a, p5, rfl, ha0, ha1, hp5, R5, hg5⟩
  have ct5 := (hg5.cell ztd hgt).trans ctd
  have c05 := (hg5.cell hzd hgz).trans c0d
  have f05 := (hg5.frozen hzd hgz).trans f0d
  have S5 := S4.gx HOB.out hg5
  have SD5 := SD4.gx HOD.out hg5
  have SE5 := SE4.gx HOE.out hg5
  have LL := Gx.le L0 (G4.trans hg5) (by omega)
  have HA0 := Lib.hid ha0
  have HA1 := Lib.hid ha1
  clear R4 R5 hg5 S4 SD4 SE4 G4 ha0 ha1
  refine hK.out _ _ (ct5) (fun hHeld => ?_)
  clear hK K
  try simp only [Act.put, List.setIfInBounds_toArray, List.set_cons_zero, List.set_cons_succ]
  refine wpAnyH_ready (rs := [6]) (by kernel_rfl) (by simp) (AllReadyH.consL (i := 6) rfl (fun K hK => ?_) AllReadyH.nil)
  go_simp
  have hend : ∀ u, (w5.setCell ⟨w.heap.size, 0, none⟩ u).cell? ⟨w.heap.size, 0, none⟩ = some u := fun u => cell_set_same c05
  have hne : w.heap.size ≠ w2.heap.size := by omega
  refine hK.out _ _ (((cell_set_other (.inl hne)).trans ct5)) (fun hHeld => ?_)
  clear hK K
  try simp only [Act.put, List.setIfInBounds_toArray, List.set_cons_zero, List.set_cons_succ]
  refine wpAnyH_takeL (i := 7) (v := ?_) rfl (by kernel_rfl) (by kernel_rfl) (by kernel_rfl) (fun _ _ _ h => h) (Or.inl ⟨by rfl, ?_⟩) (by assumption) ?_
  rotate_left 1
  · (intro w hSw; (try dsimp only at hSw); go_simp; try with_reducible rfl)
  try simp only [Act.put, List.setIfInBounds_toArray, List.set_cons_zero, List.set_cons_succ]
  refine wpAnyH_takeL (i := 8) (v := ?_) rfl (by kernel_rfl) (by kernel_rfl) (by kernel_rfl) (fun _ _ _ h => h) (Or.inl ⟨by rfl, ?_⟩) (by assumption) ?_
  rotate_left 1
  · (intro w hSw; (try dsimp only at hSw); go_simp; try with_reducible rfl)
  try simp only [Act.put, List.setIfInBounds_toArray, List.set_cons_zero, List.set_cons_succ]
  refine wpAnyH_takeL (i := 9) (v := ?_) rfl (by kernel_rfl) (by kernel_rfl) (by kernel_rfl) (fun _ _ _ h => h) (Or.inl ⟨by rfl, ?_⟩) (by assumption) ?_
  rotate_left 1
  · (intro w hSw; (try dsimp only at hSw); go_simp; try with_reducible rfl)
  try simp only [Act.put, List.setIfInBounds_toArray, List.set_cons_zero, List.set_cons_succ]
  refine wpAnyH_done (by kernel_rfl) ?_ _
  refine NoPanic.normal ?_
  have hSx : Hid (∀ u, Sl (w5.setCell ⟨w.heap.size, 0, none⟩ u) B m c xs) := fun u => S5.gx (fun h a e => by have := HB.out h a e; omega) (Gx.set w.heap.size 0 w5 u)
  have hSy : Hid (∀ u, Sl (w5.setCell ⟨w.heap.size, 0, none⟩ u) D q d L) := fun u => SD5.gx (fun h a e => by have := HD.out h a e; omega) (Gx.set w.heap.size 0 w5 u)
  have hSz : Hid (∀ u, Sl (w5.setCell ⟨w.heap.size, 0, none⟩ u) E q2 d2 L2) := fun u => SE5.gx (fun h a e => by have := HE.out h a e; omega) (Gx.set w.heap.size 0 w5 u)
  clear hHeld S5 SD5 SE5
  go_wp2
  exact bodyPost_ret (v := .tuple #[.agg #[.slice B m c], .slice D q d, .int .i64 a, .slice E q2 d2]) (by simp [results, Try.results30, go_sem, hend]) rfl ⟨B, D, E, m, c, q, d, q2, d2, xs, L, L2, a, rfl, hSx.out _, HM.out, hSy.out _, HQ.out, hSz.out _, HQ2.out, HA0.out, by have := HA1.out; omega, LL.setCell (Nat.le_refl _) _⟩
end Go.Proofs.Ytlepgfccnfcagaa
