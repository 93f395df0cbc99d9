/- the laws FnTableOf, FnTableOfRanges: the draw, the walks -/
import Derived.Test.YtomdhpfelchjeaaDPg
import Derived.Test.YtomdhpfelchjeaaPtB
import Derived.Test.YtomdhpfelchjeaaLR
import Derived.Deep.RegionHeld3
namespace Go.Proofs.Ytomdhpfelchjeaa
open Go.RowKit
set_option maxHeartbeats 1000000 in
set_option maxRecDepth 100000 in
theorem drawTableOf_any (A : Option Addr) (n cap : Nat) (bs : List By) (w : World) (hR : Sl w A n cap bs) : Calls Try.prog 25 #[.slice A n cap] w (DrawnPr w) := by
  go_enter Try.func25, Try.ntmps25
  go_wp2_with fail
  obtain ⟨c0, z0, L0⟩ := box1 w (.slice none 0 0) 25
  have f0 : (w.alloc (.cells #[.slice none 0 0] 25)).frozen? ⟨w.heap.size, 0, none⟩ = false := World.frozen?_alloc_at _ _ _ _ rfl
  have S0 := hR.le L0
  generalize w.alloc (.cells #[.slice none 0 0] 25) = W at *
  refine (newReader_any A n cap bs W S0).mono ?_
  rintro e w1 ⟨g, A1, n1, k1, bs1, rfl, hg, R1, hle⟩
  have hz1 : w.heap.size < w1.heap.size := Nat.lt_of_lt_of_le z0 hle.size
  replace c0 := (hle.cell z0).trans c0
  replace f0 := (hle.frozen z0).trans f0
  replace L0 := L0.trans hle
  clear S0
  have hgz : w.heap.size ≠ g := by omega
  go_wp2_with fail
  refine (someProgram_any g 0 A1 n1 k1 bs1 w1 (by omega) R1).mono ?_
  rintro e w2 ⟨B, D, m, c, q, d, xs, L, p2, rfl, S2, hm, hab, SD, hq, hD, hp2, R2, hg2⟩
  replace c0 := (hg2.cell hz1 hgz).trans c0
  replace f0 := (hg2.frozen hz1 hgz).trans f0
  have L2 := Gx.le L0 hg2 (by omega)
  have hend : ∀ u, (w2.setCell ⟨w.heap.size, 0, none⟩ u).cell? ⟨w.heap.size, 0, none⟩ = some u := fun u => cell_set_same c0
  have hSx : ∀ u, Sl (w2.setCell ⟨w.heap.size, 0, none⟩ u) B m c xs := fun u => S2.gx (fun h a e => by have := hab h a e; omega) (Gx.set w.heap.size 0 w2 u)
  have hSy : ∀ u, Sl (w2.setCell ⟨w.heap.size, 0, none⟩ u) D q d L := fun u => SD.gx (fun h a e => by have := hD h a e; omega) (Gx.set w.heap.size 0 w2 u)
  clear hle L0 R1 R2 hg2 S2 SD
  go_wp2
  exact bodyPost_ret (v := .tuple #[.agg #[.slice B m c], .slice D q d]) (by simp [results, Try.results25, go_sem, hend]) rfl ⟨B, D, m, c, q, d, xs, L, rfl, hSx _, hm, hSy _, hq, L2.setCell (Nat.le_refl _) _⟩
theorem Calls.slTb {α : Type} [Enc α] {P : Program} {f : FuncId} {args : Array Value} {w : World} {xs : List α} {T : TypeId} (hp : 0 < Enc.size α) (h : Calls P f args w fun e w' => ∃ v, e = .returned v ∧ Owd T w w' v xs ∧ Le w w') : Calls P f args w fun e w' => ∃ A c, e = .returned (.slice A xs.length c) ∧ Sl w' A xs.length c xs ∧ Le w w' := by
  refine h.mono ?_
  rintro e w' ⟨v, rfl, D, hle⟩
  obtain ⟨A, c, rfl, S, _⟩ := D.form hp
  exact ⟨A, c, rfl, S, hle⟩
set_option maxHeartbeats 4000000 in
set_option maxRecDepth 100000 in
theorem fnTableOf_walk (A : Option Addr) (n cap : Nat) (bs : List By) (w : World) (hR : Sl w A n cap bs) :
    Calls Try.prog 6 #[.slice A n cap] w fun e w' => e = .returned (.bool true) ∧ Le w w' := by
  have hm := hR.n_le
  by_cases hbig : 1048576 < n
  · go_enter Try.func6, Try.ntmps6
    go_wp2
    go_ret
    exact ⟨rfl, Le.refl w⟩
  go_enter Try.func6, Try.ntmps6
  go_wp2_with fail
  refine (drawTableOf_any A n cap bs w hR).mono ?_
  rintro e w1 ⟨B, D, m, c, q, d, xs, p, rfl, S, hm8, S2, hq24, L0⟩
  obtain rfl := S2.len
  have hm1 : m ≤ 1048576 := by omega
  have hsm : p.length ≤ 1048576 := by omega
  clear hbig hm hR
  go_wp2_with fail
  obtain ⟨ct, zt, hleB⟩ := box1 w1 (.slice B m c) 25
  replace S := S.le hleB
  replace L0 := L0.trans hleB
  replace S2 := S2.le hleB
  clear hleB
  generalize w1.alloc (.cells #[.slice B m c] 25) = W1 at *
  have htl := tbX_len xs p
  go_wp2_with fail
  refine (Calls.slTb (by decide) (iTableOf_any B D m c _ d xs p hm1 W1 S S2)).mono ?_
  rintro e w2 ⟨A3, c3, rfl, S3, hle⟩
  replace ct := (hle.cell zt).trans ct
  replace zt := Nat.lt_of_lt_of_le zt hle.size
  replace S := S.le hle
  replace L0 := L0.trans hle
  replace S2 := S2.le hle
  clear hle
  go_wp2_with fail
  refine (Calls.slTb (by decide) (sTableOf_any B D m c _ d xs p hsm w2 S S2)).mono ?_
  rintro e w3 ⟨A4, c4, rfl, S4, hle⟩
  replace ct := (hle.cell zt).trans ct
  replace zt := Nat.lt_of_lt_of_le zt hle.size
  replace S := S.le hle
  replace L0 := L0.trans hle
  replace S2 := S2.le hle
  replace S3 := S3.le hle
  clear hle
  go_wp2_with fail
  refine (equalRanges_self _ _ _ _ _ _ _ S3 S4).mono ?_
  rintro e w4 ⟨rfl, hle⟩
  replace ct := (hle.cell zt).trans ct
  replace zt := Nat.lt_of_lt_of_le zt hle.size
  replace S := S.le hle
  replace L0 := L0.trans hle
  replace S2 := S2.le hle
  replace S3 := S3.le hle
  clear hle
  clear S4
  go_wp2_with fail
  refine (pValidProgram_any B D m c _ d xs p hm1 w4 S S2).mono ?_
  rintro e w5 ⟨rfl, hle⟩
  replace ct := (hle.cell zt).trans ct
  replace zt := Nat.lt_of_lt_of_le zt hle.size
  replace S := S.le hle
  replace L0 := L0.trans hle
  replace S2 := S2.le hle
  replace S3 := S3.le hle
  clear hle
  cases hv : vp xs p
  · go_wp2_with fail
    refine (Calls.slTb (by decide) (sTableOf_any B D m c _ d xs p hsm w5 S S2)).mono ?_
    rintro e w8 ⟨A6, c6, rfl, S6, hle⟩
    replace L0 := L0.trans hle
    replace S3 := S3.le hle
    clear hle
    go_wp2_with fail
    refine (equalRanges_self _ _ _ _ _ _ _ S3 S6).mono ?_
    rintro e w9 ⟨rfl, hle⟩
    replace L0 := L0.trans hle
    clear hle
    go_wp2
    go_ret
    exact ⟨rfl, L0⟩
  have HLC : Hid (∀ (i : Nat) (_ : i < p.length) (a : Nat) (_ : a < m), luX xs (tbX xs p) i a = caX xs p i a) := fun i hi a ha => lu_ca hv hi (hasK_iff.2 ⟨by omega, by have := S.len; omega⟩)
  generalize tbX xs p = G at *
  go_wp2
  go_loopw [6, 7] (fun i _ wr => ∃ k : Nat, i = .int .i64 k ∧ Le w5 wr) (fun i _ _ => p.length - (intOf i).toNat)
  case atStart => exact ⟨0, rfl, Le.refl _⟩
  case round =>
    obtain ⟨k, rfl, LW⟩ := hrel
    replace ct := (LW.cell zt).trans ct
    replace zt := Nat.lt_of_lt_of_le zt LW.size
    replace S := S.le LW
    replace L0 := L0.trans LW
    replace S2 := S2.le LW
    replace S3 := S3.le LW
    by_cases hlt : k < p.length
    · have hkl : (k : Int) < p.length := by omega
      have HK := Lib.hid (HLC.out k hlt)
      have hsl := S.len
      generalize wr = WR at *
      go_wp2
      go_loopw [7] (fun i wq => ∃ j : Nat, i = .int .i64 j ∧ Le WR wq) (fun i _ => m - (intOf i).toNat)
      case atStart => exact ⟨0, rfl, Le.refl _⟩
      case round =>
        obtain ⟨j, rfl, LQ⟩ := hrel
        replace ct := (LQ.cell zt).trans ct
        replace zt := Nat.lt_of_lt_of_le zt LQ.size
        replace S := S.le LQ
        replace L0 := L0.trans LQ
        replace S2 := S2.le LQ
        replace S3 := S3.le LQ
        replace LW := LW.trans LQ
        generalize wr = wq at *
        by_cases hjm : j < m
        · have hjl : (j : Int) < (m : Int) := by omega
          have hlu : ∀ (g : Ext wq) (_ : True), Calls Try.prog 29 #[.agg #[.slice B m c], .slice A3 G.length c3, .int .i64 k, .int .i64 j] (wq.ext g) fun e w' => e = .returned (.int .i64 (caX xs p k j)) ∧ Le (wq.ext g) w' := fun g _ => Calls.val (iLookUp_any B A3 m c _ c3 xs G k j _ (S.le (Le.ext wq g)) (S3.le (Le.ext wq g))) (by rw [HK.out j hjm])
          have hco : ∀ (g : Ext wq) (_ : True), Calls Try.prog 16 #[.agg #[.slice B m c], .slice D p.length d, .int .i64 k, .int .i64 j] (wq.ext g) fun e w' => e = .returned (.int .i64 (caX xs p k j)) ∧ Le (wq.ext g) w' := fun g _ => iCatcherOf_any B D m c _ d xs p k j hm1 _ (S.le (Le.ext wq g)) (S2.le (Le.ext wq g))
          have Et := cell_ext zt ct
          generalize caX xs p k j = u at *
          have hub : (u != u) = false := by simp
          go_wp2_with fail
          refine wp_region_ext (by kernel_rfl) (by kernel_rfl) ?_
          repeat (go_big_quiet_step (first | (go_at_call 29; with_reducible exact Calls.ext_of (hlu _ trivial)) | (go_at_call 16; with_reducible exact Calls.ext_of (hco _ trivial))))
          refine wpQuiet_nil ?_
          intro _ hw'
          obtain ⟨gg, rfl⟩ := hw'
          have hw3 := Le.ext wq gg
          generalize wq.ext gg = W2 at *
          go_wp2
          go_roundw
          case rel => exact ⟨j + 1, by go_num, LQ.trans hw3⟩
          case measure => simp [intOf]; omega
        · have hjl : ¬ (j : Int) < (m : Int) := by omega
          go_wp2
          go_roundw
          case rel => exact ⟨k + 1, by go_num, LW⟩
          case measure => simp [intOf]; omega
    · have hkl : ¬ (k : Int) < p.length := by omega
      go_wp2
      go_ret
      exact ⟨rfl, L0⟩
set_option maxHeartbeats 4000000 in
set_option maxRecDepth 100000 in
theorem fnTableOfRanges_walk (A : Option Addr) (n cap : Nat) (bs : List By) (w : World) (hR : Sl w A n cap bs) :
    Calls Try.prog 7 #[.slice A n cap] w fun e w' => e = .returned (.bool true) ∧ Le w w' := by
  have hm := hR.n_le
  by_cases hbig : 1048576 < n
  · go_enter Try.func7, Try.ntmps7
    go_wp2
    go_ret
    exact ⟨rfl, Le.refl w⟩
  go_enter Try.func7, Try.ntmps7
  go_wp2_with fail
  refine (drawTableOf_any A n cap bs w hR).mono ?_
  rintro e w1 ⟨B, D, m, c, q, d, xs, p, rfl, S, hm8, S2, hq24, L0⟩
  obtain rfl := S2.len
  have hm1 : m ≤ 1048576 := by omega
  have hsm : p.length ≤ 1048576 := by omega
  clear hbig hm hR
  go_wp2_with fail
  obtain ⟨ct, zt, hleB⟩ := box1 w1 (.slice B m c) 25
  replace S := S.le hleB
  replace L0 := L0.trans hleB
  replace S2 := S2.le hleB
  clear hleB
  generalize w1.alloc (.cells #[.slice B m c] 25) = W1 at *
  have htl := tbX_len xs p
  go_wp2_with fail
  refine (Calls.slTb (by decide) (iTableOf_any B D m c _ d xs p hm1 W1 S S2)).mono ?_
  rintro e w2 ⟨A3, c3, rfl, S3, hle⟩
  replace ct := (hle.cell zt).trans ct
  replace zt := Nat.lt_of_lt_of_le zt hle.size
  replace S := S.le hle
  replace L0 := L0.trans hle
  replace S2 := S2.le hle
  clear hle
  go_wp2_with fail
  refine (Calls.slTb (by decide) (sTableOf_any B D m c _ d xs p hsm w2 S S2)).mono ?_
  rintro e w3 ⟨A4, c4, rfl, S4, hle⟩
  replace ct := (hle.cell zt).trans ct
  replace zt := Nat.lt_of_lt_of_le zt hle.size
  replace S := S.le hle
  replace L0 := L0.trans hle
  replace S2 := S2.le hle
  replace S3 := S3.le hle
  clear hle
  go_wp2_with fail
  refine (equalRanges_self _ _ _ _ _ _ _ S3 S4).mono ?_
  rintro e w4 ⟨rfl, hle⟩
  replace ct := (hle.cell zt).trans ct
  replace zt := Nat.lt_of_lt_of_le zt hle.size
  replace S := S.le hle
  replace L0 := L0.trans hle
  replace S2 := S2.le hle
  replace S3 := S3.le hle
  clear hle
  clear S4
  go_wp2_with fail
  refine (pValidProgram_any B D m c _ d xs p hm1 w4 S S2).mono ?_
  rintro e w5 ⟨rfl, hle⟩
  replace ct := (hle.cell zt).trans ct
  replace zt := Nat.lt_of_lt_of_le zt hle.size
  replace S := S.le hle
  replace L0 := L0.trans hle
  replace S2 := S2.le hle
  replace S3 := S3.le hle
  clear hle
  cases hv : vp xs p
  · go_wp2_with fail
    refine (Calls.slTb (by decide) (sTableOf_any B D m c _ d xs p hsm w5 S S2)).mono ?_
    rintro e w8 ⟨A6, c6, rfl, S6, hle⟩
    replace L0 := L0.trans hle
    replace S3 := S3.le hle
    clear hle
    go_wp2_with fail
    refine (equalRanges_self _ _ _ _ _ _ _ S3 S6).mono ?_
    rintro e w9 ⟨rfl, hle⟩
    replace L0 := L0.trans hle
    clear hle
    go_wp2
    go_ret
    exact ⟨rfl, L0⟩
  obtain ⟨hall, htwo⟩ := tb_facts hv
  generalize tbX xs p = G at *
  have HALL := Lib.hid hall
  have HTWO := Lib.hid htwo
  clear hall htwo
  have hgl : G.length ≤ 1048576 := htl
  go_wp2
  go_loopw [6, 7, 8] (fun i _ _ wr => ∃ k : Nat, i = .int .i64 k ∧ Le w5 wr) (fun i _ _ _ => G.length - (intOf i).toNat)
  case atStart => exact ⟨0, rfl, Le.refl _⟩
  case round =>
    obtain ⟨k, rfl, LW⟩ := hrel
    replace L0 := L0.trans LW
    replace S3 := S3.le LW
    by_cases hlt : k < G.length
    · have hkl : (k : Int) < G.length := by omega
      have hk0 : (0 : Int) ≤ (k : Int) := by omega
      obtain ⟨b, off, rfl, hb, d0, d1, d2, d3, -⟩ := S3.rng_at hlt
      obtain ⟨hlo, hhi⟩ := HALL.out _ (List.getElem_mem hlt)
      have HPW : Hid (∀ j, (hj : j < k) → G[k].lo ≤ G[j].lo ∧ (G[k].hi ≤ G[j].lo ∨ G[j].hi ≤ G[k].hi)) := fun j hj => List.pairwise_iff_getElem.1 HTWO.out j k (by omega) hlt hj
      generalize hGK : G[k] = r at *
      have HGK := Lib.hid hGK
      clear hGK
      have E0 := cell_ext hb d0
      have E1 := cell_ext hb d1
      have hg1 : decide (r.hi ≤ r.lo) = false := decide_eq_false (by omega)
      have hg2 : decide ((p.length : Int) < r.hi) = false := decide_eq_false (by omega)
      go_wp2_with fail
      refine wp_region_ext (by kernel_rfl) (by kernel_rfl) ?_
      repeat (go_big_quiet_step (fail))
      refine wpQuiet_nil ?_
      intro _ hw'
      obtain ⟨gg, rfl⟩ := hw'
      have hw3 := Le.ext wr gg
      replace LW := LW.trans hw3
      replace L0 := L0.trans hw3
      replace S3 := S3.le hw3
      clear E0 E1 d0 d1 d2 d3 hw3
      generalize wr.ext gg = WR at *
      clear hb
      go_wp2
      go_loopw [7, 8] (fun i _ wq => ∃ j : Nat, i = .int .i64 j ∧ Le WR wq) (fun i _ _ => k - (intOf i).toNat)
      case atStart => exact ⟨0, rfl, Le.refl _⟩
      case round =>
        obtain ⟨j, rfl, LQ⟩ := hrel
        replace L0 := L0.trans LQ
        replace S3 := S3.le LQ
        replace LW := LW.trans LQ
        generalize wr = wq at *
        by_cases hjk : j < k
        · have hjl : (j : Int) < (k : Int) := by omega
          have hjb : decide (j < k) = true := decide_eq_true hjk
          have hj0 : (0 : Int) ≤ (j : Int) := by omega
          have hjn : (j : Int) < G.length := by omega
          have hjlt : j < G.length := by omega
          obtain ⟨b2, off2, e2, hb2, d0, d1, d2, d3, -⟩ := S3.rng_at hlt
          injection e2 with e2
          injection e2 with e2 e3
          subst e2; subst e3
          obtain ⟨b2, off2, e2, hb3, k0, k1, k2, k3, -⟩ := S3.rng_at hjlt
          injection e2 with e2
          injection e2 with e2 e3
          subst e2; subst e3
          obtain ⟨hlj, hhj⟩ := HALL.out _ (List.getElem_mem hjlt)
          obtain ⟨hp1, hp2⟩ := HPW.out j hjk
          rw [HGK.out] at d0 d1
          generalize hGJ : G[j] = s at *
          have HGJ := Lib.hid hGJ
          clear hGJ
          have E0 := cell_ext hb2 d0
          have E1 := cell_ext hb2 d1
          have K0 := cell_ext hb2 k0
          have K1 := cell_ext hb2 k1
          clear d0 d1 d2 d3 k0 k1 k2 k3
          have hg3 : decide (s.lo < r.lo) = false := decide_eq_false (by omega)
          by_cases hc : r.hi ≤ s.lo
          · have hcb : decide (r.hi ≤ s.lo) = true := decide_eq_true hc
            go_wp2_with fail
            refine wp_region_ext (by kernel_rfl) (by kernel_rfl) ?_
            repeat (go_big_quiet_step (fail))
            refine wpQuiet_nil ?_
            intro _ hw'
            obtain ⟨gg, rfl⟩ := hw'
            have hw3 := Le.ext wq gg
            replace LQ := LQ.trans hw3
            replace S3 := S3.le hw3
            replace LW := LW.trans hw3
            replace L0 := L0.trans hw3
            clear E0 E1 K0 K1 hw3 hb2 hb3
            generalize wq.ext gg = W2 at *
            go_wp2_with fail
            obtain ⟨b5, off5, e5, hb5, d0, d1, d2, d3, -⟩ := S3.rng_at hlt
            obtain ⟨b6, off6, e6, hb6, k0, k1, k2, k3, -⟩ := S3.rng_at hjlt
            injection e5 with e5
            injection e5 with e5 e5b
            subst e5; subst e5b
            injection e6 with e6
            injection e6 with e6 e6b
            subst e6; subst e6b
            rw [HGK.out] at d0 d1
            rw [HGJ.out] at k0 k1
            have E0 := cell_ext hb5 d0
            have E1 := cell_ext hb5 d1
            have K0 := cell_ext hb5 k0
            have K1 := cell_ext hb5 k1
            clear d0 d1 d2 d3 k0 k1 k2 k3
            refine wp_region_ext (by kernel_rfl) (by kernel_rfl) ?_
            repeat (go_big_quiet_step (fail))
            refine wpQuiet_nil ?_
            intro _ hw'
            obtain ⟨g2, rfl⟩ := hw'
            have hw4 := Le.ext W2 g2
            replace LQ := LQ.trans hw4
            generalize W2.ext g2 = W3 at *
            go_wp2
            go_roundw
            case rel => exact ⟨j + 1, by go_num, LQ⟩
            case measure => simp [intOf]; omega
          · have hcb : decide (r.hi ≤ s.lo) = false := decide_eq_false hc
            have hcc : decide (s.hi ≤ r.lo) = false := decide_eq_false (by omega)
            have hcd : decide (r.hi < s.hi) = false := decide_eq_false (by omega)
            go_wp2_with fail
            refine wp_region_ext (by kernel_rfl) (by kernel_rfl) ?_
            repeat (go_big_quiet_step (fail))
            refine wpQuiet_nil ?_
            intro _ hw'
            obtain ⟨gg, rfl⟩ := hw'
            have hw3 := Le.ext wq gg
            replace LQ := LQ.trans hw3
            replace S3 := S3.le hw3
            replace LW := LW.trans hw3
            replace L0 := L0.trans hw3
            clear E0 E1 K0 K1 hw3 hb2 hb3
            generalize wq.ext gg = W2 at *
            go_wp2_with fail
            obtain ⟨b5, off5, e5, hb5, d0, d1, d2, d3, -⟩ := S3.rng_at hlt
            obtain ⟨b6, off6, e6, hb6, k0, k1, k2, k3, -⟩ := S3.rng_at hjlt
            injection e5 with e5
            injection e5 with e5 e5b
            subst e5; subst e5b
            injection e6 with e6
            injection e6 with e6 e6b
            subst e6; subst e6b
            rw [HGK.out] at d0 d1
            rw [HGJ.out] at k0 k1
            have E0 := cell_ext hb5 d0
            have E1 := cell_ext hb5 d1
            have K0 := cell_ext hb5 k0
            have K1 := cell_ext hb5 k1
            clear d0 d1 d2 d3 k0 k1 k2 k3
            refine wp_region_ext (by kernel_rfl) (by kernel_rfl) ?_
            repeat (go_big_quiet_step (fail))
            refine wpQuiet_nil ?_
            intro _ hw'
            obtain ⟨g2, rfl⟩ := hw'
            have hw4 := Le.ext W2 g2
            replace LQ := LQ.trans hw4
            generalize W2.ext g2 = W3 at *
            go_wp2
            go_roundw
            case rel => exact ⟨j + 1, by go_num, LQ⟩
            case measure => simp [intOf]; omega
        · have hjl : ¬ (j : Int) < (k : Int) := by omega
          have hjb : decide (j < k) = false := decide_eq_false hjk
          go_wp2
          go_roundw
          case rel => exact ⟨k + 1, by go_num, LW⟩
          case measure => simp [intOf]; omega
    · have hkl : ¬ (k : Int) < G.length := by omega
      go_wp2
      go_ret
      exact ⟨rfl, L0⟩
end Go.Proofs.Ytomdhpfelchjeaa
