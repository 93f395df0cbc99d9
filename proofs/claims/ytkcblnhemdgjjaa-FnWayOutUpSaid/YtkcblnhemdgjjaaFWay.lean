/- the laws FnWayOut, FnWayOutUp -/
import Derived.Test.YtkcblnhemdgjjaaDPg
import Derived.Test.YtkcblnhemdgjjaaWyB
import Derived.Test.YtkcblnhemdgjjaaLD
import Derived.Deep.RegionHeld3
namespace Go.Proofs.Ytkcblnhemdgjjaa
open Go.RowKit
set_option maxHeartbeats 1000000 in
set_option maxRecDepth 100000 in
theorem drawWayOut_any (A : Option Addr) (n cap : Nat) (bs : List By) (w : World) (hR : Sl w A n cap bs) : Calls Try.prog 7 #[.slice A n cap] w (DrawnPL w) := by
  go_enter Try.func7, Try.ntmps7
  go_wp2_with fail
  obtain ⟨c0, z0, L0⟩ := box1 w (.slice none 0 0) 25
  have f0 : (w.alloc (.cells #[.slice none 0 0] 25)).frozen? ⟨w.heap.size, 0, none⟩ = false := World.frozen?_alloc_at _ _ _ _ rfl
  have S0 := hR.le L0
  generalize w.alloc (.cells #[.slice none 0 0] 25) = W at *
  refine (newReader_any A n cap bs W S0).mono ?_
  rintro e w1 ⟨g, A1, n1, k1, bs1, rfl, hg, R1, hle⟩
  have hz1 : w.heap.size < w1.heap.size := Nat.lt_of_lt_of_le z0 hle.size
  replace c0 := (hle.cell z0).trans c0
  replace f0 := (hle.frozen z0).trans f0
  replace L0 := L0.trans hle
  clear S0
  have hgz : w.heap.size ≠ g := by omega
  go_wp2_with fail
  refine (lineIn_any g 0 A1 n1 k1 bs1 w1 (by omega) R1).mono ?_
  rintro e w2 ⟨B, D, m, c, q, d, xs, L, i, p2, rfl, S2, hm, hab, SD, hq, hD, hi, hp2, R2, hg2⟩
  replace c0 := (hg2.cell hz1 hgz).trans c0
  replace f0 := (hg2.frozen hz1 hgz).trans f0
  have L2 := Gx.le L0 hg2 (by omega)
  have hend : ∀ u, (w2.setCell ⟨w.heap.size, 0, none⟩ u).cell? ⟨w.heap.size, 0, none⟩ = some u := fun u => cell_set_same c0
  have hSx : ∀ u, Sl (w2.setCell ⟨w.heap.size, 0, none⟩ u) B m c xs := fun u => S2.gx (fun h a e => by have := hab h a e; omega) (Gx.set w.heap.size 0 w2 u)
  have hSy : ∀ u, Sl (w2.setCell ⟨w.heap.size, 0, none⟩ u) D q d L := fun u => SD.gx (fun h a e => by have := hD h a e; omega) (Gx.set w.heap.size 0 w2 u)
  clear hle L0 R1 R2 hg2 S2 SD
  go_wp2
  exact bodyPost_ret (v := .tuple #[.agg #[.slice B m c], .slice D q d, .int .i64 i]) (by simp [results, Try.results7, go_sem, hend]) rfl ⟨B, D, m, c, q, d, xs, L, i, rfl, hSx _, hm, hSy _, hq, hi, L2.setCell (Nat.le_refl _) _⟩
theorem Sl.cutI {w : World} {ad : Addr} {n cap : Nat} {xs : List Int} (h : Sl w (some ad) n cap xs) (k : Nat) (hk : k ≤ n) : Sl w (some (ad.add k)) (n - k) (cap - k) (xs.drop k) := by
  by_cases hn : n = k
  · subst hn
    have e : xs.drop n = [] := List.drop_eq_nil_of_le (by rw [h.len]; exact Nat.le_refl _)
    rw [e, Nat.sub_self]
    exact Sl.nil _ _ _ (by have := h.max; omega)
  · obtain ⟨b, off, e, _⟩ := h.at_ (by omega)
    simp only [Option.some.injEq] at e
    subst e
    have e : (⟨b, off, none⟩ : Addr).add k = ⟨b, off + k, none⟩ := by
      unfold Addr.add; split
      · next h => simp_all
      · rfl
    rw [e]
    refine ⟨by rw [List.length_drop, h.len], by have := h.cap_; omega, by have := h.max; omega, fun x hx => h.ok x (List.mem_of_mem_drop hx), fun hn => ?_⟩
    obtain ⟨b', off', e, hb, hc⟩ := h.at_ (by omega)
    simp only [Option.some.injEq, Addr.mk.injEq, and_true] at e
    obtain ⟨rfl, rfl⟩ := e
    refine ⟨b, _, rfl, hb, fun j u hu => ?_⟩
    have e2 : xs.flatMap (Enc.cells (α := Int)) = (xs.take k).flatMap Enc.cells ++ (xs.drop k).flatMap Enc.cells := by rw [← List.flatMap_append, List.take_append_drop]
    have e3 : ((xs.take k).flatMap (Enc.cells (α := Int))).length = k := by rw [flat_len, List.length_take, Nat.min_eq_left (by rw [h.len]; exact hk)]; exact Nat.mul_one k
    have := hc (k + j) u (by rw [e2, List.getElem?_append_right (by omega), e3, Nat.add_sub_cancel_left]; exact hu)
    rw [← Nat.add_assoc] at this; exact this
theorem Sl.none_nilI {w : World} {n cap : Nat} {xs : List Int} (h : Sl w none n cap xs) : xs = [] := by
  rcases Nat.eq_zero_or_pos n with h0 | h0
  · exact List.eq_nil_of_length_eq_zero (by rw [h.len, h0])
  · obtain ⟨b, off, e, _⟩ := h.at_ h0; cases e
theorem Sl.cutO {w : World} {A : Option Addr} {n cap : Nat} {xs : List Int} (h : Sl w A n cap xs) (k : Nat) (hk : k ≤ n) : Sl w (A.map fun x => x.add k) (n - k) (cap - k) (xs.drop k) := by
  cases A with
  | none =>
    have e := h.none_nilI
    have hl := h.len
    have hm := h.max
    rw [e] at hl
    subst e
    simp at hl
    obtain rfl : n = 0 := hl.symm
    obtain rfl : k = 0 := by omega
    exact Sl.nil _ _ _ (by omega)
  | some ad => exact h.cutI k hk
set_option maxHeartbeats 4000000 in
set_option maxRecDepth 100000 in
theorem fnWayOutUp_walk (A : Option Addr) (n cap : Nat) (bs : List By) (w : World) (hR : Sl w A n cap bs) :
    Calls Try.prog 6 #[.slice A n cap] w fun e w' => e = .returned (.bool true) ∧ Le w w' := by
  have hm := hR.n_le
  by_cases hbig : 1048576 < n
  · go_enter Try.func6, Try.ntmps6
    go_wp2
    go_ret
    exact ⟨rfl, Le.refl w⟩
  go_enter Try.func6, Try.ntmps6
  go_wp2_with fail
  refine (drawWayOut_any A n cap bs w hR).mono ?_
  rintro e w1 ⟨B, D, m, c, q, d, xs, p, i, rfl, S, hm8, S2, hq24, hi, L0⟩
  obtain rfl := S2.len
  have hm1 : m ≤ 1048576 := by omega
  have hsm : p.length ≤ 1048576 := by omega
  clear hbig hm hR
  go_wp2_with fail
  obtain ⟨ct, zt, hleB⟩ := box1 w1 (.slice B m c) 25
  replace S := S.le hleB
  replace L0 := L0.trans hleB
  replace S2 := S2.le hleB
  clear hleB
  generalize w1.alloc (.cells #[.slice B m c] 25) = W1 at *
  go_wp2_with fail
  refine (Calls.sl1w (by decide) (iWayOut_any B D m c _ d xs p i hm1 W1 S S2)).mono ?_
  rintro e w2 ⟨A3, c3, rfl, S3, hle⟩
  replace ct := (hle.cell zt).trans ct
  replace zt := Nat.lt_of_lt_of_le zt hle.size
  replace S := S.le hle
  replace L0 := L0.trans hle
  replace S2 := S2.le hle
  clear hle
  go_wp2_with fail
  refine (Calls.sl1w (by decide) (sWayOut_any B D m c _ d xs p i hsm w2 S S2)).mono ?_
  rintro e w3 ⟨A4, c4, rfl, S4, hle⟩
  replace ct := (hle.cell zt).trans ct
  replace zt := Nat.lt_of_lt_of_le zt hle.size
  replace S := S.le hle
  replace L0 := L0.trans hle
  replace S2 := S2.le hle
  replace S3 := S3.le hle
  clear hle
  go_wp2_with fail
  refine (equalInts_self _ _ _ _ _ _ _ S3 S4).mono ?_
  rintro e w4 ⟨rfl, hle⟩
  replace ct := (hle.cell zt).trans ct
  replace zt := Nat.lt_of_lt_of_le zt hle.size
  replace S := S.le hle
  replace L0 := L0.trans hle
  replace S2 := S2.le hle
  replace S3 := S3.le hle
  clear hle
  clear S4
  go_wp2_with fail
  refine (pValidProgram_any B D m c _ d xs p hm1 w4 S S2).mono ?_
  rintro e w5 ⟨rfl, hle⟩
  replace ct := (hle.cell zt).trans ct
  replace zt := Nat.lt_of_lt_of_le zt hle.size
  replace S := S.le hle
  replace L0 := L0.trans hle
  replace S2 := S2.le hle
  replace S3 := S3.le hle
  clear hle
  cases hv : vp xs p
  · go_wp2_with fail
    refine (Calls.sl1w (by decide) (sWayOut_any B D m c _ d xs p i hsm w5 S S2)).mono ?_
    rintro e w8 ⟨A6, c6, rfl, S6, hle⟩
    replace L0 := L0.trans hle
    replace S3 := S3.le hle
    clear hle
    go_wp2_with fail
    refine (equalInts_self _ _ _ _ _ _ _ S3 S6).mono ?_
    rintro e w9 ⟨rfl, hle⟩
    replace L0 := L0.trans hle
    clear hle
    go_wp2
    go_ret
    exact ⟨rfl, L0⟩
  by_cases h0 : i < 0
  · go_wp2_with fail
    refine (Calls.sl1w (by decide) (sWayOut_any B D m c _ d xs p i hsm w5 S S2)).mono ?_
    rintro e w8 ⟨A6, c6, rfl, S6, hle⟩
    replace L0 := L0.trans hle
    replace S3 := S3.le hle
    clear hle
    go_wp2_with fail
    refine (equalInts_self _ _ _ _ _ _ _ S3 S6).mono ?_
    rintro e w9 ⟨rfl, hle⟩
    replace L0 := L0.trans hle
    clear hle
    go_wp2
    go_ret
    exact ⟨rfl, L0⟩
  obtain ⟨k, rfl⟩ := Int.eq_ofNat_of_zero_le (show 0 ≤ i by omega)
  by_cases hk : p.length ≤ k
  · have hk2 : (p.length : Int) ≤ (k : Int) := by omega
    go_wp2_with fail
    refine (Calls.sl1w (by decide) (sWayOut_any B D m c _ d xs p _ hsm w5 S S2)).mono ?_
    rintro e w8 ⟨A6, c6, rfl, S6, hle⟩
    replace L0 := L0.trans hle
    replace S3 := S3.le hle
    clear hle
    go_wp2_with fail
    refine (equalInts_self _ _ _ _ _ _ _ S3 S6).mono ?_
    rintro e w9 ⟨rfl, hle⟩
    replace L0 := L0.trans hle
    clear hle
    go_wp2
    go_ret
    exact ⟨rfl, L0⟩
  have hkp : k < p.length := by omega
  have hk0 : (0 : Int) ≤ (k : Int) := by omega
  have hkn : (k : Int) < (p.length : Int) := by omega
  have hwl := woX_len xs p k
  rcases way_up hv hkp with ⟨-, HE, HW⟩ | ⟨y, r, o, -, hyp, HE, ho1, HW⟩
  · have hE0 : (enX xs p k).length = 0 := by rw [HE]; rfl
    have hW0 : (woX xs p k).length = 0 := by rw [HW]; rfl
    rw [hW0] at S3 ⊢
    go_wp2_with fail
    refine (Calls.sl1w (by decide) (iEnclosingOf_any B D m c _ d xs p k hm1 w5 S S2)).mono ?_
    rintro e w6 ⟨A5, c5, rfl, S5, hle⟩
    replace L0 := L0.trans hle
    clear hle
    rw [hE0] at S5 ⊢
    go_wp2
    go_ret
    exact ⟨rfl, L0⟩
  · have hWL : (woX xs p k).length = o.length + (woX xs p y).length := by rw [HW, List.length_append, nI_len]
    have hEL : (enX xs p k).length = r.length + 1 := by rw [HE, nI_len]; rfl
    have HDR : Hid ((woX xs p k).drop o.length = woX xs p y) := by show _ = _; rw [HW, ← nI_len o, List.drop_left]
    rw [hWL] at S3 ⊢
    go_wp2_with fail
    refine (Calls.sl1w (by decide) (iEnclosingOf_any B D m c _ d xs p k hm1 w5 S S2)).mono ?_
    rintro e w6 ⟨A5, c5, rfl, S5, hle⟩
    replace ct := (hle.cell zt).trans ct
    replace zt := Nat.lt_of_lt_of_le zt hle.size
    replace S := S.le hle
    replace L0 := L0.trans hle
    replace S2 := S2.le hle
    replace S3 := S3.le hle
    clear hle
    rw [hEL] at S5 ⊢
    obtain ⟨b, off, rfl, hb, hcell, _, _⟩ := S5.int_at (k := 0) (by rw [hEL]; omega)
    have hcl : (enX xs p k)[0]'(by rw [hEL]; omega) = (y : Int) := by simp [HE, nI]
    rw [hcl] at hcell
    simp only [Nat.add_zero] at hcell
    have cl := hcell
    have zl := hb
    have h0n : (0 : Int) < ((r.length + 1 : Nat) : Int) := by omega
    have hne : (((r.length + 1 : Nat) : Int) == 0) = false := beq_eq_false_iff_ne.2 (by omega)
    clear hcell hb hcl HE HW
    go_wp2_with fail
    replace ct := (show w6.drew.cell? _ = _ from ct)
    replace zt := (show _ < w6.drew.heap.size from zt)
    replace cl := (show w6.drew.cell? _ = _ from cl)
    replace zl := (show _ < w6.drew.heap.size from zl)
    replace S := S.le (Le.refl _).drew
    replace L0 := L0.drew
    replace S2 := S2.le (Le.refl _).drew
    replace S3 := S3.le (Le.refl _).drew
    go_region_held3 (fun w' => w'.cell? ⟨w1.heap.size, 0, none⟩ = some (.slice B m c) ∧ w'.cell? ⟨b, off, none⟩ = some (.int .i64 y))
      (first | exact ⟨ct, cl⟩)
      (first
      | (go_at_call 8; refine (Calls.sl1w (by decide) (iWayOut_any B D m c _ d xs p y hm1 _ S S2)).mono ?_; rintro e w7 ⟨A7, c7, rfl, S7, hle⟩; replace ct := (hle.cell zt).trans ct; replace cl := (hle.cell zl).trans cl; replace zt := Nat.lt_of_lt_of_le zt hle.size; replace zl := Nat.lt_of_lt_of_le zl hle.size; replace L0 := L0.trans hle; replace S3 := S3.le hle; clear hle)
      )
    have ho1i : (o.length : Int) ≤ 1 := by omega
    have hcap := S3.cap_
    by_cases hc : c3 = o.length
    · have hz : woX xs p y = [] := List.eq_nil_of_length_eq_zero (by omega)
      have SX : Sl w7 A3 (woX xs p y).length 0 (woX xs p y) := by rw [hz]; exact Sl.nil _ _ _ (by omega)
      clear hcap hz hWL S3
      go_wp2_with fail
      refine (equalInts_self _ _ _ _ _ _ _ SX S7).mono ?_
      rintro e w8 ⟨rfl, hle⟩
      replace L0 := L0.trans hle
      go_wp2
      go_ret
      exact ⟨rfl, L0⟩
    · have SX : Sl w7 (A3.map fun x => x.add o.length) (woX xs p y).length (c3 - o.length) (woX xs p y) := by
        have h := S3.cutO o.length (by omega)
        rw [HDR.out, Nat.add_sub_cancel_left] at h
        exact h
      clear hcap hWL S3
      go_wp2_with fail
      refine (equalInts_self _ _ _ _ _ _ _ SX S7).mono ?_
      rintro e w8 ⟨rfl, hle⟩
      replace L0 := L0.trans hle
      go_wp2
      go_ret
      exact ⟨rfl, L0⟩
end Go.Proofs.Ytkcblnhemdgjjaa
