/- the law FnCatcherOf: the draw, the walk -/
import Derived.Test.YtomdhpfelchjeaaDPg
import Derived.Test.YtomdhpfelchjeaaRg
import Derived.Test.YtomdhpfelchjeaaWyC
import Derived.Test.YtomdhpfelchjeaaWyY
import Derived.Test.YtomdhpfelchjeaaPcO
import Derived.Test.YtomdhpfelchjeaaLD
import Derived.Deep.RegionHeld3
namespace Go.Proofs.Ytomdhpfelchjeaa
open Go.RowKit
/-- a program, a line and a class that were drawn for a law -/
def DrawnPLA (w : World) (e : Ending) (w' : World) : Prop :=
  ∃ (B D : Option Addr) (m c q d : Nat) (xs : List Cls) (L : List Lin) (i a : Int), e = .returned (.tuple #[.agg #[.slice B m c], .slice D q d, .int .i64 i, .int .i64 a]) ∧ Sl w' B m c xs ∧ m ≤ 8 ∧ Sl w' D q d L ∧ q ≤ 24 ∧ (-1 ≤ i ∧ i ≤ 24) ∧ (-1 ≤ a ∧ a ≤ 8) ∧ Le w w'
set_option maxHeartbeats 4000000 in
set_option maxRecDepth 100000 in
theorem drawCatcherOf_any (A : Option Addr) (n cap : Nat) (bs : List By) (w : World) (hR : Sl w A n cap bs) : Calls Try.prog 15 #[.slice A n cap] w (DrawnPLA w) := by
  go_enter Try.func15, Try.ntmps15
  go_wp2_with fail
  obtain ⟨c0, z0, L0⟩ := box1 w (.slice none 0 0) 25
  have f0 : (w.alloc (.cells #[.slice none 0 0] 25)).frozen? ⟨w.heap.size, 0, none⟩ = false := World.frozen?_alloc_at _ _ _ _ rfl
  have S0 := hR.le L0
  generalize w.alloc (.cells #[.slice none 0 0] 25) = W at *
  refine (newReader_any A n cap bs W S0).mono ?_
  rintro e w1 ⟨g, A1, n1, k1, bs1, rfl, hg, R1, hle⟩
  have hz1 : w.heap.size < w1.heap.size := Nat.lt_of_lt_of_le z0 hle.size
  have hzg := R1.lt
  replace c0 := (hle.cell z0).trans c0
  replace f0 := (hle.frozen z0).trans f0
  replace L0 := L0.trans hle
  clear S0
  have hgz : w.heap.size ≠ g := by omega
  have hwg : w.heap.size ≤ g := by omega
  go_wp2_with fail
  refine (lineIn_any g 0 A1 n1 k1 bs1 w1 (by omega) R1).mono ?_
  rintro e w2 ⟨B, D, m, c, q, d, xs, L, i, p2, rfl, S2, hm, hab, SD, hq, hD, hi, hp2, R2, hg2⟩
  obtain rfl := SD.len
  replace c0 := (hg2.cell hz1 hgz).trans c0
  replace f0 := (hg2.frozen hz1 hgz).trans f0
  have L2 := Gx.le L0 hg2 (by omega)
  have hs2 := hg2.size
  have z2 : w.heap.size < w2.heap.size := by omega
  have hgt : w2.heap.size ≠ g := by omega
  obtain ⟨ct, zt, LB⟩ := box1 w2 (.slice B m c) 25
  replace c0 := (LB.cell z2).trans c0
  replace f0 := (LB.frozen z2).trans f0
  replace S2 := S2.le LB
  replace SD := SD.le LB
  replace R2 := R2.le LB
  replace L2 := L2.trans LB
  have z0' := Nat.lt_of_lt_of_le z2 LB.size
  have HB : Hid (0 < m → ∀ a, B = some a → w.heap.size < a.block) := fun hn a e => by have := hab hn a e; omega
  have HD : Hid (0 < L.length → ∀ a, D = some a → w.heap.size < a.block) := fun hn a e => by have := hD hn a e; omega
  have hoffB : 0 < m → Off g B := fun hn a e => by have := hab hn a e; omega
  have hoffD : 0 < L.length → Off g D := fun hn a e => by have := hD hn a e; omega
  clear z0 L0 R1 hg2 hle LB hab hD z2
  go_wp2_with fail
  generalize w2.alloc (.cells #[.slice B m c] 25) = W2 at *
  generalize w2.heap.size = tb at *
  have R3 := R2.le (Le.refl W2).drew
  have S3 := S2.le (Le.refl W2).drew
  have SD3 := SD.le (Le.refl W2).drew
  have L3 := L2.drew
  have c03 : W2.drew.cell? ⟨w.heap.size, 0, none⟩ = some (.slice none 0 0) := c0
  have f03 : W2.drew.frozen? ⟨w.heap.size, 0, none⟩ = false := f0
  have ct3 : W2.drew.cell? ⟨tb, 0, none⟩ = some (.slice B m c) := ct
  have z03 : w.heap.size < W2.drew.heap.size := z0'
  have zt3 : tb < W2.drew.heap.size := zt
  clear R2 S2 SD L2 c0 f0 ct z0' zt
  refine wp_region_noPanic ?_
  refine wp_region_held_drew (S := fun w' => w'.cell? ⟨tb, 0, none⟩ = some (.slice B m c)) (by kernel_rfl) ct3 (fun hHeld => ?_)
  refine wpAnyH_takeL (i := 0) (v := ?_) rfl (by kernel_rfl) (by kernel_rfl) (by kernel_rfl) (fun _ _ _ h => h) (Or.inl ⟨by rfl, ?_⟩) (by assumption) ?_
  rotate_left 1
  · (intro w hSw; (try dsimp only at hSw); go_simp; try with_reducible rfl)
  try simp only [Act.put, List.setIfInBounds_toArray, List.set_cons_zero, List.set_cons_succ]
  refine wpAnyH_takeL (i := 1) (v := ?_) rfl (by kernel_rfl) (by kernel_rfl) (by kernel_rfl) (fun _ _ _ h => h) (Or.inl ⟨by rfl, ?_⟩) (by assumption) ?_
  rotate_left 1
  · (intro w hSw; (try dsimp only at hSw); go_simp; try with_reducible rfl)
  try simp only [Act.put, List.setIfInBounds_toArray, List.set_cons_zero, List.set_cons_succ]
  refine wpAnyH_takeL (i := 2) (v := ?_) rfl (by kernel_rfl) (by kernel_rfl) (by kernel_rfl) (fun _ _ _ h => h) (Or.inl ⟨by rfl, ?_⟩) (by assumption) ?_
  rotate_left 1
  · (intro w hSw; (try dsimp only at hSw); go_simp; try with_reducible rfl)
  try simp only [Act.put, List.setIfInBounds_toArray, List.set_cons_zero, List.set_cons_succ]
  refine wpAnyH_takeL (i := 3) (v := ?_) rfl (by kernel_rfl) (by kernel_rfl) (by kernel_rfl) (fun _ _ _ h => h) (Or.inl ⟨by rfl, ?_⟩) (by assumption) ?_
  rotate_left 1
  · (intro w hSw; (try dsimp only at hSw); go_simp; try with_reducible rfl)
  try simp only [Act.put, List.setIfInBounds_toArray, List.set_cons_zero, List.set_cons_succ]
  refine wpAnyH_takeL (i := 4) (v := ?_) rfl (by kernel_rfl) (by kernel_rfl) (by kernel_rfl) (fun _ _ _ h => h) (Or.inl ⟨by rfl, ?_⟩) (by assumption) ?_
  rotate_left 1
  · (intro w hSw; (try dsimp only at hSw); go_simp; try with_reducible rfl)
  try simp only [Act.put, List.setIfInBounds_toArray, List.set_cons_zero, List.set_cons_succ]
  refine wpAnyH_ready (rs := [5]) (by kernel_rfl) (by simp) (AllReadyH.consL (i := 5) rfl (fun K hK => ?_) AllReadyH.nil)
  go_simp
  go_at_call 44
  refine (aClass_any B m c g p2 A1 n1 k1 bs1 W2.drew hm (by omega) R3).mono ?_
  rintro e w3 ⟨a, p3, rfl, ha0, ha1, hp3, R4, hg3⟩
  have c0 := (hg3.cell z03 hgz).trans c03
  have f0 := (hg3.frozen z03 hgz).trans f03
  have ct := (hg3.cell zt3 hgt).trans ct3
  have S4 := S3.gx hoffB hg3
  have SD4 := SD3.gx hoffD hg3
  have L4 := Gx.le L3 hg3 hwg
  clear c03 f03 ct3 S3 SD3 L3 R3 R4 hg3
  refine hK.out _ _ (ct) (fun hHeld => ?_)
  clear hK K
  try simp only [Act.put, List.setIfInBounds_toArray, List.set_cons_zero, List.set_cons_succ]
  refine wpAnyH_ready (rs := [6]) (by kernel_rfl) (by simp) (AllReadyH.consL (i := 6) rfl (fun K hK => ?_) AllReadyH.nil)
  go_simp
  have hend : ∀ u, (w3.setCell ⟨w.heap.size, 0, none⟩ u).cell? ⟨w.heap.size, 0, none⟩ = some u := fun u => cell_set_same c0
  refine hK.out _ _ (((cell_set_other (.inl (by omega))).trans ct)) (fun hHeld => ?_)
  clear hK K
  try simp only [Act.put, List.setIfInBounds_toArray, List.set_cons_zero, List.set_cons_succ]
  refine wpAnyH_takeL (i := 7) (v := ?_) rfl (by kernel_rfl) (by kernel_rfl) (by kernel_rfl) (fun _ _ _ h => h) (Or.inl ⟨by rfl, ?_⟩) (by assumption) ?_
  rotate_left 1
  · (intro w hSw; (try dsimp only at hSw); go_simp; try with_reducible rfl)
  try simp only [Act.put, List.setIfInBounds_toArray, List.set_cons_zero, List.set_cons_succ]
  refine wpAnyH_takeL (i := 8) (v := ?_) rfl (by kernel_rfl) (by kernel_rfl) (by kernel_rfl) (fun _ _ _ h => h) (Or.inl ⟨by rfl, ?_⟩) (by assumption) ?_
  rotate_left 1
  · (intro w hSw; (try dsimp only at hSw); go_simp; try with_reducible rfl)
  try simp only [Act.put, List.setIfInBounds_toArray, List.set_cons_zero, List.set_cons_succ]
  refine wpAnyH_takeL (i := 9) (v := ?_) rfl (by kernel_rfl) (by kernel_rfl) (by kernel_rfl) (fun _ _ _ h => h) (Or.inl ⟨by rfl, ?_⟩) (by assumption) ?_
  rotate_left 1
  · (intro w hSw; (try dsimp only at hSw); go_simp; try with_reducible rfl)
  try simp only [Act.put, List.setIfInBounds_toArray, List.set_cons_zero, List.set_cons_succ]
  refine wpAnyH_done (by kernel_rfl) ?_ _
  refine NoPanic.normal ?_
  have HF : Hid (DrawnPLA w (.returned (.tuple #[.agg #[.slice B m c], .slice D L.length d, .int .i64 i, .int .i64 a])) (w3.setCell ⟨w.heap.size, 0, none⟩ (.slice B m c))) := ⟨B, D, m, c, L.length, d, xs, L, i, a, rfl, S4.gx (fun h a e => by have := HB.out h a e; omega) (Gx.set w.heap.size 0 w3 _), hm, SD4.gx (fun h a e => by have := HD.out h a e; omega) (Gx.set w.heap.size 0 w3 _), hq, hi, ⟨ha0, ha1⟩, L4.setCell (Nat.le_refl _) _⟩
  clear hHeld S4 SD4 L4
  go_wp2
  exact bodyPost_ret (v := .tuple #[.agg #[.slice B m c], .slice D L.length d, .int .i64 i, .int .i64 a]) (by simp [results, Try.results15, go_sem, hend]) rfl HF.out
theorem OwnInts.formC {L : List Int} {w w' : World} {e : Ending} (h : OwnInts L w e w') : ∃ A c, e = .returned (.slice A L.length c) ∧ Sl w' A L.length c L ∧ Le w w' := by
  obtain ⟨v, rfl, hown, hok, hle⟩ := h
  obtain ⟨A, c, rfl⟩ := own_form hown
  exact ⟨A, c, rfl, Sl.of_own hown rfl (by decide) hok, hle⟩

/-- a list of the call's own, as the caller reads it -/
def IntsOut (L : List Int) (w : World) (e : Ending) (w' : World) : Prop := ∃ A c, e = .returned (.slice A L.length c) ∧ Sl w' A L.length c L ∧ Le w w'
theorem below_mem {xs : List Cls} {a : Int} : ∀ (k : Nat) {x : Int}, x ∈ belowK xs a k → 0 ≤ x ∧ x < k ∧ isAL xs x a = true
  | 0, x, h => by cases h
  | k + 1, x, h => by
    unfold belowK at h
    rcases List.mem_append.1 h with h | h
    · have := below_mem k h; exact ⟨this.1, by omega, this.2.2⟩
    · split at h
      · next c => rw [List.mem_singleton] at h; subst h; exact ⟨by omega, by omega, c⟩
      · cases h
theorem belowX_ok {xs : List Cls} {a : Int} : ∀ x ∈ belowX xs a, hasK xs x = true ∧ isAL xs x a = true := fun x hx => by
  unfold belowX at hx
  cases h : (okTree xs && hasK xs a)
  · rw [h] at hx; cases hx
  · rw [h] at hx
    have := below_mem _ hx
    exact ⟨hasK_iff.2 ⟨this.1, this.2.1⟩, this.2.2⟩
set_option maxHeartbeats 4000000 in
set_option maxRecDepth 100000 in
theorem OwnInts.callsC {f : FuncId} {args : Array Value} {L : List Int} {w : World} (h : Calls Try.prog f args w (OwnInts L w)) : Calls Try.prog f args w fun e w' => ∃ A c, e = .returned (.slice A L.length c) ∧ Sl w' A L.length c L ∧ Le w w' := h.mono fun _ _ ho => ho.formC
set_option maxHeartbeats 4000000 in
set_option maxRecDepth 100000 in
theorem fnCatcherOf_walk (A : Option Addr) (n cap : Nat) (bs : List By) (w : World) (hR : Sl w A n cap bs) :
    Calls Try.prog 4 #[.slice A n cap] w fun e w' => e = .returned (.bool true) ∧ Le w w' := by
  have hm := hR.n_le
  by_cases hbig : 1048576 < n
  · go_enter Try.func4, Try.ntmps4
    go_wp2
    go_ret
    exact ⟨rfl, Le.refl w⟩
  go_enter Try.func4, Try.ntmps4
  go_wp2_with fail
  refine (drawCatcherOf_any A n cap bs w hR).mono ?_
  rintro e w1 ⟨B, D, m, c, q, d, xs, p, i, a, rfl, S, hm8, S2, hq24, hi, ha, L0⟩
  obtain rfl := S2.len
  have hm1 : m ≤ 1048576 := by omega
  have hsm : p.length ≤ 1048576 := by omega
  clear hbig hm hR
  go_wp2_with fail
  obtain ⟨ct, zt, hleB⟩ := box1 w1 (.slice B m c) 25
  replace S := S.le hleB
  replace L0 := L0.trans hleB
  replace S2 := S2.le hleB
  clear hleB
  generalize w1.alloc (.cells #[.slice B m c] 25) = W1 at *
  go_wp2_with fail
  refine (iCatcherOf_any B D m c _ d xs p i a hm1 W1 S S2).mono ?_
  rintro e w2 ⟨rfl, hle⟩
  replace ct := (hle.cell zt).trans ct
  replace zt := Nat.lt_of_lt_of_le zt hle.size
  replace S := S.le hle
  replace L0 := L0.trans hle
  replace S2 := S2.le hle
  clear hle
  go_wp2_with fail
  refine (sCatcherOf_any B D m c _ d xs p i a hsm w2 S S2).mono ?_
  rintro e w3 ⟨rfl, hle⟩
  replace ct := (hle.cell zt).trans ct
  replace zt := Nat.lt_of_lt_of_le zt hle.size
  replace S := S.le hle
  replace L0 := L0.trans hle
  replace S2 := S2.le hle
  clear hle
  have hbb : (caX xs p i a != caX xs p i a) = false := by simp
  have hbb2 : (caX xs p i a == caX xs p i a) = true := by simp
  go_wp2_with fail
  refine (pValidProgram_any B D m c _ d xs p hm1 w3 S S2).mono ?_
  rintro e w4 ⟨rfl, hle⟩
  replace ct := (hle.cell zt).trans ct
  replace zt := Nat.lt_of_lt_of_le zt hle.size
  replace S := S.le hle
  replace L0 := L0.trans hle
  replace S2 := S2.le hle
  clear hle
  cases hv : vp xs p
  · go_wp2_with fail
    refine (sCatcherOf_any B D m c _ d xs p i a hsm w4 S S2).mono ?_
    rintro e w9 ⟨rfl, hle⟩
    replace L0 := L0.trans hle
    clear hle
    go_wp2
    go_ret
    exact ⟨rfl, L0⟩
  by_cases h0 : i < 0
  · go_wp2_with fail
    refine (sCatcherOf_any B D m c _ d xs p i a hsm w4 S S2).mono ?_
    rintro e w9 ⟨rfl, hle⟩
    replace L0 := L0.trans hle
    clear hle
    go_wp2
    go_ret
    exact ⟨rfl, L0⟩
  obtain ⟨k, rfl⟩ := Int.eq_ofNat_of_zero_le (show 0 ≤ i by omega)
  by_cases hk : p.length ≤ k
  · have hk2 : (p.length : Int) ≤ (k : Int) := by omega
    go_wp2_with fail
    refine (sCatcherOf_any B D m c _ d xs p _ a hsm w4 S S2).mono ?_
    rintro e w9 ⟨rfl, hle⟩
    replace L0 := L0.trans hle
    clear hle
    go_wp2
    go_ret
    exact ⟨rfl, L0⟩
  have hkp : k < p.length := by omega
  have hk0 : (0 : Int) ≤ (k : Int) := by omega
  have hkn : (k : Int) < (p.length : Int) := by omega
  go_wp2_with fail
  refine (has_any B m c xs a w4 S).mono ?_
  rintro e w5 ⟨rfl, hle⟩
  replace ct := (hle.cell zt).trans ct
  replace zt := Nat.lt_of_lt_of_le zt hle.size
  replace S := S.le hle
  replace L0 := L0.trans hle
  replace S2 := S2.le hle
  clear hle
  cases hh : hasK xs a
  · go_wp2_with fail
    refine (sCatcherOf_any B D m c _ d xs p _ a hsm w5 S S2).mono ?_
    rintro e w9 ⟨rfl, hle⟩
    replace L0 := L0.trans hle
    clear hle
    go_wp2
    go_ret
    exact ⟨rfl, L0⟩
  by_cases hc : caX xs p k a < 0
  · have hr := ca_root hv hkp hh hc
    have hcb : decide (caX xs p k a < 0) = true := decide_eq_true hc
    have hrb : decide (caX xs p k 0 < 0) = true := decide_eq_true hr
    generalize caX xs p k a = u at *
    go_wp2_with fail
    refine (iCatcherOf_any B D m c _ d xs p k 0 hm1 w5 S S2).mono ?_
    rintro e w6 ⟨rfl, hle⟩
    replace L0 := L0.trans hle
    clear hle
    go_wp2
    go_ret
    exact ⟨rfl, L0⟩
  have hc0 : 0 ≤ caX xs p k a := by omega
  obtain ⟨x, hx, hxe, hkd⟩ := ca_what hv hkp hh hc0
  have HBM : Hid (∀ y ∈ belowX xs a, 0 ≤ caX xs p k y) := fun y hy => by
    have hb := belowX_ok y hy
    exact ca_mono hv hkp hh hb.1 hb.2 hc0
  have hbl := belowX_len xs a
  rw [hxe] at hc hbb hbb2 ⊢
  have hcx : ¬ (x : Int) < 0 := by omega
  have hcxb : decide ((x : Int) < 0) = false := decide_eq_false hcx
  have hx0 : (0 : Int) ≤ (x : Int) := by omega
  have hxn : (x : Int) < (p.length : Int) := by omega
  clear hc hc0 hxe
  go_wp2_with fail
  refine (OwnInts.callsC (iBelowOf_any B m c xs a w5 S)).mono ?_
  rintro e w6 ⟨A5, c5, rfl, S5, hle⟩
  replace ct := (hle.cell zt).trans ct
  replace zt := Nat.lt_of_lt_of_le zt hle.size
  replace S := S.le hle
  replace L0 := L0.trans hle
  replace S2 := S2.le hle
  clear hle
  have HBL := Lib.hid (rfl : belowX xs a = belowX xs a)
  generalize belowX xs a = G at *
  clear HBL
  go_wp2
  go_loopw [9] (fun i wr => ∃ j : Nat, i = .int .i64 j ∧ Le w6 wr) (fun i _ => G.length - (intOf i).toNat)
  case atStart => exact ⟨0, rfl, Le.refl _⟩
  case round =>
    obtain ⟨j, rfl, LW⟩ := hrel
    replace ct := (LW.cell zt).trans ct
    replace zt := Nat.lt_of_lt_of_le zt LW.size
    replace S := S.le LW
    replace L0 := L0.trans LW
    replace S2 := S2.le LW
    replace S5 := S5.le LW
    by_cases hlt : j < G.length
    · obtain ⟨b, off, rfl, hb, hcell, _, _⟩ := S5.int_at hlt
      have hbe := HBM.out _ (List.getElem_mem hlt)
      generalize G[j] = y at *
      have hyb : decide (caX xs p k y < 0) = false := decide_eq_false (by omega)
      generalize hv : caX xs p k y = v at *
      have HV := Lib.hid hv
      clear hv
      have cl := hcell
      have zl := hb
      have hkl : (j : Int) < G.length := by omega
      have hj0 : (0 : Int) ≤ (j : Int) := by omega
      have hca : ∀ (g : Ext wr) (_ : True), Calls Try.prog 16 #[.agg #[.slice B m c], .slice D p.length d, .int .i64 k, .int .i64 y] (wr.ext g) fun e w' => e = .returned (.int .i64 v) ∧ Le (wr.ext g) w' := fun g _ => Calls.val (iCatcherOf_any B D m c _ d xs p k y hm1 _ (S.le (Le.ext wr g)) (S2.le (Le.ext wr g))) (by rw [HV.out])
      have Et := cell_ext zt ct
      have El := cell_ext zl cl
      clear hcell hb hbe ct cl
      go_wp2_with fail
      refine wp_region_ext (by kernel_rfl) (by kernel_rfl) ?_
      repeat (go_big_quiet_step (first | (go_at_call 16; with_reducible exact Calls.ext_of (hca _ trivial))))
      refine wpQuiet_nil ?_
      intro _ hw'
      obtain ⟨gg, rfl⟩ := hw'
      have hw3 := Le.ext wr gg
      generalize wr.ext gg = W2 at *
      go_wp2
      go_roundw
      case rel => exact ⟨j + 1, by go_num, LW.trans hw3⟩
      case measure => simp [intOf]; omega
    · obtain ⟨b, off, rfl, hb, d0, d1, d2, d3, -⟩ := S2.lin_at hx
      have hkl : ¬ (j : Int) < G.length := by omega
      have F1 := cell_ext hb d1
      have F2 := cell_ext hb d2
      have F3 := cell_ext hb d3
      have Ft := cell_ext zt ct
      rcases hkd with ⟨h11, hb1, hxk⟩ | ⟨h8, hax⟩
      · have q1 : (p[x].kind == 11) = true := by rw [h11]; rfl
        have q2 : (p[x].b == 1) = true := by rw [hb1]; rfl
        have q3 : decide (x < k) = true := decide_eq_true hxk
        have q3b : decide ((x : Int) < (k : Int)) = true := decide_eq_true (by omega)
        generalize p[x].kind = vk at *
        generalize p[x].b = vb at *
        generalize p[x].a = va at *
        clear h11 hb1 hxk d0 d1 d2 d3 ct
        go_wp2_with fail
        refine wp_region_ext (by kernel_rfl) (by kernel_rfl) ?_
        repeat (go_big_quiet_step (fail))
        refine wpQuiet_nil ?_
        intro _ hw'
        obtain ⟨gg, rfl⟩ := hw'
        replace L0 := L0.trans (Le.ext wr gg)
        go_wp2
        go_ret
        exact ⟨rfl, L0⟩
      · have q1 : (p[x].kind == 11) = false := by rw [h8]; rfl
        have q2 : (p[x].kind == 8) = true := by rw [h8]; rfl
        generalize p[x].kind = vk at *
        generalize p[x].b = vb at *
        generalize p[x].a = va at *
        have hca : ∀ (g : Ext wr) (_ : True), Calls Try.prog 21 #[.agg #[.slice B m c], .int .i64 a, .int .i64 va] (wr.ext g) fun e w' => e = .returned (.bool true) ∧ Le (wr.ext g) w' := fun g _ => Calls.val (iIsA_any B m c xs a va _ (S.le (Le.ext wr g))) (by rw [hax])
        clear h8 hax d0 d1 d2 d3 ct
        go_wp2_with fail
        refine wp_region_ext (by kernel_rfl) (by kernel_rfl) ?_
        repeat (go_big_quiet_step (first | (go_at_call 21; with_reducible exact Calls.ext_of (hca _ trivial))))
        refine wpQuiet_nil ?_
        intro _ hw'
        obtain ⟨gg, rfl⟩ := hw'
        replace L0 := L0.trans (Le.ext wr gg)
        go_wp2
        go_ret
        exact ⟨rfl, L0⟩
end Go.Proofs.Ytomdhpfelchjeaa
