/- the law FnFirstJumpReturn -/
import Derived.Test.YtjgalknhdpdkbaaFj8
import Derived.Test.YtjgalknhdpdkbaaPlAP
import Derived.Test.YtjgalknhdpdkbaaFj35
import Derived.Test.YtjgalknhdpdkbaaFj36
import Derived.Test.YtjgalknhdpdkbaaFj37
namespace Go.Proofs.Ytjgalknhdpdkbaa
open Go.RowKit
set_option maxHeartbeats 1000000 in
set_option maxRecDepth 100000 in
theorem drawFirstJump_any (A : Option Addr) (n cap : Nat) (bs : List By) (w : World) (hR : Sl w A n cap bs) : Calls Try.prog 4 #[.slice A n cap] w (DrawnPr w) := by
  go_enter Try.func4, Try.ntmps4
  go_wp2_with fail
  obtain ⟨c0, z0, L0⟩ := box1 w (.slice none 0 0) 25
  have f0 : (w.alloc (.cells #[.slice none 0 0] 25)).frozen? ⟨w.heap.size, 0, none⟩ = false := World.frozen?_alloc_at _ _ _ _ rfl
  have S0 := hR.le L0
  generalize w.alloc (.cells #[.slice none 0 0] 25) = W at *
  refine (newReader_any A n cap bs W S0).mono ?_
  rintro e w1 ⟨g, A1, n1, k1, bs1, rfl, hg, R1, hle⟩
  have hz1 : w.heap.size < w1.heap.size := Nat.lt_of_lt_of_le z0 hle.size
  replace c0 := (hle.cell z0).trans c0
  replace f0 := (hle.frozen z0).trans f0
  replace L0 := L0.trans hle
  clear S0
  have hgz : w.heap.size ≠ g := by omega
  go_wp2_with fail
  refine (someProgram_any g 0 A1 n1 k1 bs1 w1 (by omega) R1).mono ?_
  rintro e w2 ⟨B, D, m, c, q, d, xs, L, p2, rfl, S2, hm, hab, SD, hq, hD, hp2, R2, hg2⟩
  replace c0 := (hg2.cell hz1 hgz).trans c0
  replace f0 := (hg2.frozen hz1 hgz).trans f0
  have L2 := Gx.le L0 hg2 (by omega)
  have hend : ∀ u, (w2.setCell ⟨w.heap.size, 0, none⟩ u).cell? ⟨w.heap.size, 0, none⟩ = some u := fun u => cell_set_same c0
  have hSx : ∀ u, Sl (w2.setCell ⟨w.heap.size, 0, none⟩ u) B m c xs := fun u => S2.gx (fun h a e => by have := hab h a e; omega) (Gx.set w.heap.size 0 w2 u)
  have hSy : ∀ u, Sl (w2.setCell ⟨w.heap.size, 0, none⟩ u) D q d L := fun u => SD.gx (fun h a e => by have := hD h a e; omega) (Gx.set w.heap.size 0 w2 u)
  clear hle L0 R1 R2 hg2 S2 SD
  go_wp2
  exact bodyPost_ret (v := .tuple #[.agg #[.slice B m c], .slice D q d]) (by simp [results, Try.results4, go_sem, hend]) rfl ⟨B, D, m, c, q, d, xs, L, rfl, hSx _, hm, hSy _, hq, L2.setCell (Nat.le_refl _) _⟩
theorem Calls.slFj {α : Type} [Enc α] {P : Program} {f : FuncId} {args : Array Value} {w : World} {xs : List α} {T : TypeId} (hp : 0 < Enc.size α) (h : Calls P f args w fun e w' => ∃ v, e = .returned v ∧ Owd T w w' v xs ∧ Le w w') : Calls P f args w fun e w' => ∃ A c, e = .returned (.slice A xs.length c) ∧ Sl w' A xs.length c xs ∧ Le w w' := by
  refine h.mono ?_
  rintro e w' ⟨v, rfl, D, hle⟩
  obtain ⟨A, c, rfl, S, _⟩ := D.form hp
  exact ⟨A, c, rfl, S, hle⟩
theorem fj_at {xs : List Cls} {p : List Lin} (h : 0 ≤ fjX xs p) : vp xs p = true ∧ ∃ x : Nat, x < p.length ∧ fjX xs p = (x : Int) := by
  cases hv : vp xs p
  · unfold fjX at h
    rw [hv] at h
    exact absurd (show (0:Int) ≤ -1 from h) (by decide)
  · have e0 : fjX xs p = scn p 0 p.length := by unfold fjX; rw [hv]; rfl
    rw [e0] at h ⊢
    obtain ⟨x, h1, _, h3, _⟩ := scn_out (p := p) (Nat.le_refl _) p.length 0 (by omega) h
    exact ⟨rfl, x, h3, h1⟩
theorem frRow (w : World) (o : Obj) : (w.alloc o).heap[w.heap.size]? = some o := hp_new w o rfl
theorem fldV (a d : Value) (b v : Int) (w : World) : (Instr.field 39 (.agg #[a, .int .i64 b, .int .i64 v, d]) 2).run Try.prog w = .ok (.int .i64 v) w := by kernel_rfl
theorem fldE (a d : Value) (b v : Int) (w : World) : (Instr.field 39 (.agg #[a, .int .i64 b, .int .i64 v, d]) 1).run Try.prog w = .ok (.int .i64 b) w := by kernel_rfl
theorem fr_end {xs : List Cls} {p : List Lin} {x : Nat} (hv : vp xs p = true) (hx : x < p.length) (hf : fjX xs p = (x : Int)) (h4 : p[x].kind = 4) (hW : plX p (wayL p (encl p x)) = true) : rpE xs p = 1 ∧ rpV xs p = p[x].a := by
  have h := fjr hv hx hf (by rw [knd_at hx]; exact h4) hW
  unfold rpE rpV rgE rgV
  rw [hv, h]
  refine ⟨rfl, ?_⟩
  show lnA p x = _
  exact lnA_at hx
set_option maxHeartbeats 4000000 in
set_option maxRecDepth 100000 in
theorem fnFirstJumpReturn_walk (A : Option Addr) (n cap : Nat) (bs : List By) (w : World) (hR : Sl w A n cap bs) :
    Calls Try.prog 3 #[.slice A n cap] w fun e w' => e = .returned (.bool true) ∧ Le w w' := by
  have hm := hR.n_le
  by_cases hbig : 1048576 < n
  · go_enter Try.func3, Try.ntmps3
    go_wp2
    go_ret
    exact ⟨rfl, Le.refl w⟩
  go_enter Try.func3, Try.ntmps3
  go_wp2_with fail
  refine (drawFirstJump_any A n cap bs w hR).mono ?_
  rintro e w1 ⟨B, D, m, c, q, d, xs, p, rfl, S, hm8, S2, hq24, L0⟩
  obtain rfl := S2.len
  have hm1 : m ≤ 1048576 := by omega
  have hsm : p.length ≤ 1048576 := by omega
  clear hbig hm hR
  go_wp2_with fail
  obtain ⟨ct, zt, hleB⟩ := box1 w1 (.slice B m c) 25
  replace S := S.le hleB
  replace L0 := L0.trans hleB
  replace S2 := S2.le hleB
  clear hleB
  generalize w1.alloc (.cells #[.slice B m c] 25) = W1 at *
  go_wp2_with fail
  refine (iFirstJump_any B D m c _ d xs p hm1 W1 S S2).mono ?_
  rintro e w2 ⟨rfl, hle⟩
  replace ct := (hle.cell zt).trans ct
  replace zt := Nat.lt_of_lt_of_le zt hle.size
  replace S := S.le hle
  replace L0 := L0.trans hle
  replace S2 := S2.le hle
  clear hle
  go_wp2_with fail
  refine (sFirstJump_any B D m c _ d xs p hsm w2 S S2).mono ?_
  rintro e w3 ⟨rfl, hle⟩
  replace ct := (hle.cell zt).trans ct
  replace zt := Nat.lt_of_lt_of_le zt hle.size
  replace S := S.le hle
  replace L0 := L0.trans hle
  replace S2 := S2.le hle
  clear hle
  have hbb : (fjX xs p != fjX xs p) = false := by simp
  have hbb2 : (fjX xs p == fjX xs p) = true := by simp
  by_cases hneg : fjX xs p < 0
  · go_wp2_with fail
    refine (sFirstJump_any B D m c _ d xs p hsm w3 S S2).mono ?_
    rintro e w9 ⟨rfl, hle⟩
    replace L0 := L0.trans hle
    clear hle
    go_wp2
    go_ret
    exact ⟨rfl, L0⟩
  obtain ⟨hv, x, hx, hfx⟩ := fj_at (show 0 ≤ fjX xs p by omega)
  have HE := Lib.hid (fr_end hv hx hfx)
  have HWO : Hid (woX xs p x = nI (wayL p (encl p x))) := by show _ = _; unfold woX; rw [glB_iff.2 ⟨hv, x, rfl, hx⟩]; rfl
  have HWL : Hid (∀ z ∈ wayL p (encl p x), z < p.length) := wayL_lt (fun y hy => by have := encl_lt y hy; omega)
  clear hv hneg
  rw [hfx] at hbb hbb2 ⊢
  clear hfx
  obtain ⟨b, off, rfl, hb, c0, c1, c2, c3, -⟩ := S2.lin_at hx
  have hx0 : (0 : Int) ≤ (x : Int) := by omega
  have hxn : (x : Int) < (p.length : Int) := by omega
  by_cases h4 : p[x].kind = 4
  · have HE2 : Hid (plX p (wayL p (encl p x)) = true → rpE xs p = 1 ∧ rpV xs p = p[x].a) := HE.out h4
    rw [h4] at c1
    clear HE h4
    generalize p[x].depth = v0 at *
    generalize p[x].a = v2 at *
    generalize p[x].b = v3 at *
    have LN := Le.new w3 (.cells #[.int .i64 v0, .int .i64 4, .int .i64 v2, .int .i64 v3] 31)
    have c5 : (w3.alloc (.cells #[.int .i64 v0, .int .i64 4, .int .i64 v2, .int .i64 v3] 31)).cell? ⟨w3.heap.size, 2, none⟩ = some (.int .i64 v2) := cell_of_row _ _ 2 _ _ _ (frRow _ _)
    have z5 : w3.heap.size < (w3.alloc (.cells #[.int .i64 v0, .int .i64 4, .int .i64 v2, .int .i64 v3] 31)).heap.size := by simp
    replace ct := (LN.cell zt).trans ct
    replace zt := Nat.lt_of_lt_of_le zt LN.size
    replace S := S.le LN
    replace L0 := L0.trans LN
    replace S2 := S2.le LN
    clear LN
    go_wp2_with fail
    generalize w3.alloc (.cells #[.int .i64 v0, .int .i64 4, .int .i64 v2, .int .i64 v3] 31) = W3 at *
    refine (Calls.slFj (by decide) (iWayOut_any B _ m c _ d xs p x hm1 W3 S S2)).mono ?_
    rintro e w4 ⟨A4, k4, rfl, S4, hle⟩
    replace ct := (hle.cell zt).trans ct
    replace c5 := (hle.cell z5).trans c5
    replace zt := Nat.lt_of_lt_of_le zt hle.size
    replace z5 := Nat.lt_of_lt_of_le z5 hle.size
    replace S := S.le hle
    replace L0 := L0.trans hle
    replace S2 := S2.le hle
    clear hle
    rw [HWO.out] at S4 ⊢
    go_wp2_with fail
    refine (plain_any _ A4 _ d _ k4 p (wayL p (encl p x)) HWL.out hsm w4 S2 S4).mono ?_
    rintro e w5 ⟨rfl, hle⟩
    replace ct := (hle.cell zt).trans ct
    replace c5 := (hle.cell z5).trans c5
    replace zt := Nat.lt_of_lt_of_le zt hle.size
    replace z5 := Nat.lt_of_lt_of_le z5 hle.size
    replace S := S.le hle
    replace L0 := L0.trans hle
    replace S2 := S2.le hle
    clear hle
    cases hp : plX p (wayL p (encl p x))
    · go_wp2
      go_ret
      exact ⟨rfl, L0⟩
    · obtain ⟨h1, h2⟩ := HE2.out hp
      have q1 := fldE
      have q2 := fldV
      have hvv : (v2 == v2) = true := by simp
      go_wp2_with fail
      refine (iRp_any B _ m c _ d xs p hm1 w5 S S2).mono ?_
      rintro e w6 ⟨lv, hvv2, rfl, D1, D2, -, hle⟩
      rw [h1, h2]
      obtain ⟨A6, k6, rfl, -, -⟩ := D1.form (by decide)
      obtain ⟨A7, k7, rfl, -, -⟩ := D2.form (by decide)
      clear D1 D2
      generalize (rpL xs p).length = n6 at *
      generalize (rpH xs p).length = n7 at *
      replace c5 := (hle.cell z5).trans c5
      replace z5 := Nat.lt_of_lt_of_le z5 hle.size
      replace L0 := L0.trans hle
      clear hle
      have LN := Le.new w6 (.cells #[.slice A6 n6 k6, .int .i64 1, .int .i64 v2, .slice A7 n7 k7] 39)
      replace c5 := (LN.cell z5).trans c5
      replace z5 := Nat.lt_of_lt_of_le z5 LN.size
      replace L0 := L0.trans LN
      clear LN
      go_wp2
      go_ret
      exact ⟨rfl, L0⟩
  · have n4 : (p[x].kind != 4) = true := by simpa using h4
    clear HE h4
    generalize p[x].kind = vk at *
    generalize p[x].depth = v0 at *
    generalize p[x].a = v2 at *
    generalize p[x].b = v3 at *
    go_wp2
    go_ret
    exact ⟨rfl, L0.trans (Le.new _ _)⟩
end Go.Proofs.Ytjgalknhdpdkbaa
