/- the law FnWayOut -/
import Derived.Test.YtkcblnhemdgjjaaDPg
import Derived.Test.YtkcblnhemdgjjaaWyB
import Derived.Test.YtkcblnhemdgjjaaLD
namespace Go.Proofs.Ytkcblnhemdgjjaa
open Go.RowKit
set_option maxHeartbeats 1000000 in
set_option maxRecDepth 100000 in
theorem drawWayOut_any (A : Option Addr) (n cap : Nat) (bs : List By) (w : World) (hR : Sl w A n cap bs) : Calls Try.prog 7 #[.slice A n cap] w (DrawnPL w) := by
  go_enter Try.func7, Try.ntmps7
  go_wp2_with fail
  obtain ⟨c0, z0, L0⟩ := box1 w (.slice none 0 0) 25
  have f0 : (w.alloc (.cells #[.slice none 0 0] 25)).frozen? ⟨w.heap.size, 0, none⟩ = false := World.frozen?_alloc_at _ _ _ _ rfl
  have S0 := hR.le L0
  generalize w.alloc (.cells #[.slice none 0 0] 25) = W at *
  refine (newReader_any A n cap bs W S0).mono ?_
  rintro e w1 ⟨g, A1, n1, k1, bs1, rfl, hg, R1, hle⟩
  have hz1 : w.heap.size < w1.heap.size := Nat.lt_of_lt_of_le z0 hle.size
  replace c0 := (hle.cell z0).trans c0
  replace f0 := (hle.frozen z0).trans f0
  replace L0 := L0.trans hle
  clear S0
  have hgz : w.heap.size ≠ g := by omega
  go_wp2_with fail
  refine (lineIn_any g 0 A1 n1 k1 bs1 w1 (by omega) R1).mono ?_
  rintro e w2 ⟨B, D, m, c, q, d, xs, L, i, p2, rfl, S2, hm, hab, SD, hq, hD, hi, hp2, R2, hg2⟩
  replace c0 := (hg2.cell hz1 hgz).trans c0
  replace f0 := (hg2.frozen hz1 hgz).trans f0
  have L2 := Gx.le L0 hg2 (by omega)
  have hend : ∀ u, (w2.setCell ⟨w.heap.size, 0, none⟩ u).cell? ⟨w.heap.size, 0, none⟩ = some u := fun u => cell_set_same c0
  have hSx : ∀ u, Sl (w2.setCell ⟨w.heap.size, 0, none⟩ u) B m c xs := fun u => S2.gx (fun h a e => by have := hab h a e; omega) (Gx.set w.heap.size 0 w2 u)
  have hSy : ∀ u, Sl (w2.setCell ⟨w.heap.size, 0, none⟩ u) D q d L := fun u => SD.gx (fun h a e => by have := hD h a e; omega) (Gx.set w.heap.size 0 w2 u)
  clear hle L0 R1 R2 hg2 S2 SD
  go_wp2
  exact bodyPost_ret (v := .tuple #[.agg #[.slice B m c], .slice D q d, .int .i64 i]) (by simp [results, Try.results7, go_sem, hend]) rfl ⟨B, D, m, c, q, d, xs, L, i, rfl, hSx _, hm, hSy _, hq, hi, L2.setCell (Nat.le_refl _) _⟩
theorem bEnd_gt2 (p : List Lin) (k : Nat) : k < bEnd p k := by
  have := bGo_ge p (dep p k) (p.length - (k + 1)) (k + 1)
  unfold bEnd; omega
theorem pt_asc (p : List Lin) (d : Int) : ∀ m k, (∀ x ∈ ptGo p d m k, k < x ∧ x < p.length ∧ dep p x = d) ∧ (ptGo p d m k).Pairwise (· < ·)
  | 0, k => ⟨fun x hx => absurd hx (List.not_mem_nil), List.Pairwise.nil⟩
  | m + 1, k => by
    unfold ptGo
    split
    · next c =>
      have ih := pt_asc p d m (bEnd p k)
      have hb := bEnd_gt2 p k
      refine ⟨fun x hx => ?_, List.pairwise_cons.2 ⟨fun x hx => (ih.1 x hx).1, ih.2⟩⟩
      rcases List.mem_cons.1 hx with rfl | hx
      · exact ⟨hb, c.1, c.2.1⟩
      · have := ih.1 x hx
        exact ⟨by omega, this.2⟩
    · exact ⟨fun x hx => absurd hx (List.not_mem_nil), List.Pairwise.nil⟩
theorem parts_dep {p : List Lin} {j x : Nat} (hj : j < p.length) (hx : x ∈ parts p j) : x < p.length ∧ dep p x = dep p j := by
  have h := pt_asc p (dep p j) p.length j
  unfold parts at hx
  rcases List.mem_cons.1 hx with rfl | hx
  · exact ⟨hj, rfl⟩
  · exact (h.1 x hx).2
theorem lastE_what {p : List Lin} {y x : Nat} (hy : y < p.length) (h : lastE p y = some x) : x < p.length ∧ dep p x = dep p y ∧ ((knd p x = 11 ∧ x = y) ∨ knd p x = 10) := by
  unfold lastE at h
  split at h
  · next c => injection h with h; subst h; exact ⟨hy, rfl, .inl ⟨c, rfl⟩⟩
  · split at h
    · cases h
    · split at h
      · next j hj =>
        have hi := tryAt_is hj
        have hj2 : j < p.length := by have := try_le y y (Nat.le_refl _) hi; omega
        have h10 := finE_10 h
        have a := parts_dep hj2 (List.mem_of_getLast? h10.2)
        have b := parts_dep hj2 hi.2
        exact ⟨a.1, by rw [a.2, b.2], .inr h10.1⟩
      · cases h
theorem wayL_pair {p : List Lin} : ∀ {L : List Nat}, (∀ y ∈ L, y < p.length) → L.Pairwise (fun a b => dep p b < dep p a) → (wayL p L).Pairwise (fun a b => dep p b < dep p a)
  | [], _, _ => List.Pairwise.nil
  | y :: r, hl, h => by
    have h2 := List.pairwise_cons.1 h
    have ih := wayL_pair (fun z hz => hl z (List.mem_cons_of_mem _ hz)) h2.2
    cases he : lastE p y with
    | none =>
      have e : wayL p (y :: r) = wayL p r := by unfold wayL; rw [List.filterMap_cons, he]
      rw [e]; exact ih
    | some x =>
      have e : wayL p (y :: r) = x :: wayL p r := by unfold wayL; rw [List.filterMap_cons, he]
      rw [e]
      refine List.pairwise_cons.2 ⟨fun z hz => ?_, ih⟩
      obtain ⟨u, hu, hz2⟩ := List.mem_filterMap.1 hz
      have a := lastE_what (hl y (List.mem_cons_self ..)) he
      have b := lastE_what (hl u (List.mem_cons_of_mem _ hu)) hz2
      rw [a.2.1, b.2.1]
      exact h2.1 u hu
theorem hasI_notW {x : Nat} : ∀ {L : List Nat}, x ∉ L → hasI (nI L) (x : Int) = false
  | [], _ => rfl
  | y :: r, h => by
    show ((y : Int) == (x : Int) || hasI (nI r) x) = false
    have h1 : y ≠ x := fun e => h (by rw [e]; exact List.mem_cons_self ..)
    have h2 : ((y : Int) == (x : Int)) = false := beq_eq_false_iff_ne.2 (by omega)
    rw [hasI_notW (fun hm => h (List.mem_cons_of_mem _ hm)), h2]; rfl
theorem isIn_le (A : Option Addr) (n cap : Nat) (zs : List Int) (x : Int) (w : World) (hR : Sl w A n cap zs) :
    Calls Try.prog 12 #[.slice A n cap, .int .i64 x] w fun e w' => e = .returned (.bool (hasI zs x)) ∧ Le w w' :=
  (isIn_any A n cap zs x w hR).mono fun _ _ h => ⟨h.1, h.2 ▸ Le.refl _⟩
theorem wo_facts {xs : List Cls} {p : List Lin} {k : Nat} (h : vp xs p = true) (hk : k < p.length) : ∃ W : List Nat, woX xs p k = nI W ∧ (W.length : Int) ≤ dep p k ∧ W.length ≤ 24 ∧ ∀ t (h : t < W.length), W[t] < p.length ∧ ((knd p W[t] = 11 ∧ W[t] < k) ∨ knd p W[t] = 10) ∧ dep p W[t] < dep p k ∧ hasI ((nI W).take t) (W[t] : Int) = false := by
  have hg := glB_okw h hk
  have g := goodP_of h
  have hd := encl_deep g hk
  have hlt : ∀ y ∈ encl p k, y < p.length := fun y hy => by have := encl_lt y hy; omega
  have hp1 : (encl p k).Pairwise (fun a b => dep p b < dep p a) := by
    rw [List.pairwise_iff_getElem]
    intro i j hi hj hij
    rw [hd.2 i hi, hd.2 j hj]
    omega
  have hp2 := wayL_pair hlt hp1
  have hl := wayL_len p (encl p k)
  have hlen := g.len
  refine ⟨wayL p (encl p k), by unfold woX; rw [hg]; rfl, by have := hd.1; omega, by have := encl_len p k; omega, fun t ht => ?_⟩
  obtain ⟨y, hy, he⟩ := List.mem_filterMap.1 (List.getElem_mem ht)
  have a := lastE_what (hlt y hy) he
  obtain ⟨s, hs, hys⟩ := List.getElem_of_mem hy
  have b := hd.2 s hs
  rw [hys] at b
  refine ⟨a.1, ?_, ?_, ?_⟩
  · rcases a.2.2 with ⟨c1, c2⟩ | c
    · exact .inl ⟨c1, by rw [c2]; exact encl_lt y hy⟩
    · exact .inr c
  · have a2 : dep p (wayL p (encl p k))[t] = dep p y := a.2.1
    rw [a2, b]; omega
  · have e : (nI (wayL p (encl p k))).take t = nI ((wayL p (encl p k)).take t) := by unfold nI; rw [List.map_take]
    rw [e]
    refine hasI_notW fun hm => ?_
    obtain ⟨s, hs, hsx⟩ := List.getElem_of_mem hm
    rw [List.length_take] at hs
    rw [List.getElem_take] at hsx
    have := List.pairwise_iff_getElem.1 hp2 s t (by omega) ht (by omega)
    rw [hsx] at this
    omega
set_option maxHeartbeats 4000000 in
set_option maxRecDepth 100000 in
theorem fnWayOut_walk (A : Option Addr) (n cap : Nat) (bs : List By) (w : World) (hR : Sl w A n cap bs) :
    Calls Try.prog 3 #[.slice A n cap] w fun e w' => e = .returned (.bool true) ∧ Le w w' := by
  have hm := hR.n_le
  by_cases hbig : 1048576 < n
  · go_enter Try.func3, Try.ntmps3
    go_wp2
    go_ret
    exact ⟨rfl, Le.refl w⟩
  go_enter Try.func3, Try.ntmps3
  go_wp2_with fail
  refine (drawWayOut_any A n cap bs w hR).mono ?_
  rintro e w1 ⟨B, D, m, c, q, d, xs, p, i, rfl, S, hm8, S2, hq24, hi, L0⟩
  obtain rfl := S2.len
  have hm1 : m ≤ 1048576 := by omega
  have hsm : p.length ≤ 1048576 := by omega
  clear hbig hm hR
  go_wp2_with fail
  obtain ⟨ct, zt, hleB⟩ := box1 w1 (.slice B m c) 25
  replace S := S.le hleB
  replace L0 := L0.trans hleB
  replace S2 := S2.le hleB
  clear hleB
  generalize w1.alloc (.cells #[.slice B m c] 25) = W1 at *
  go_wp2_with fail
  refine (Calls.sl1w (by decide) (iWayOut_any B D m c _ d xs p i hm1 W1 S S2)).mono ?_
  rintro e w2 ⟨A3, c3, rfl, S3, hle⟩
  replace ct := (hle.cell zt).trans ct
  replace zt := Nat.lt_of_lt_of_le zt hle.size
  replace S := S.le hle
  replace L0 := L0.trans hle
  replace S2 := S2.le hle
  clear hle
  go_wp2_with fail
  refine (Calls.sl1w (by decide) (sWayOut_any B D m c _ d xs p i hsm w2 S S2)).mono ?_
  rintro e w3 ⟨A4, c4, rfl, S4, hle⟩
  replace ct := (hle.cell zt).trans ct
  replace zt := Nat.lt_of_lt_of_le zt hle.size
  replace S := S.le hle
  replace L0 := L0.trans hle
  replace S2 := S2.le hle
  replace S3 := S3.le hle
  clear hle
  go_wp2_with fail
  refine (equalInts_self _ _ _ _ _ _ _ S3 S4).mono ?_
  rintro e w4 ⟨rfl, hle⟩
  replace ct := (hle.cell zt).trans ct
  replace zt := Nat.lt_of_lt_of_le zt hle.size
  replace S := S.le hle
  replace L0 := L0.trans hle
  replace S2 := S2.le hle
  replace S3 := S3.le hle
  clear hle
  clear S4
  go_wp2_with fail
  refine (pValidProgram_any B D m c _ d xs p hm1 w4 S S2).mono ?_
  rintro e w5 ⟨rfl, hle⟩
  replace ct := (hle.cell zt).trans ct
  replace zt := Nat.lt_of_lt_of_le zt hle.size
  replace S := S.le hle
  replace L0 := L0.trans hle
  replace S2 := S2.le hle
  replace S3 := S3.le hle
  clear hle
  cases hv : vp xs p
  · go_wp2_with fail
    refine (Calls.sl1w (by decide) (sWayOut_any B D m c _ d xs p i hsm w5 S S2)).mono ?_
    rintro e w8 ⟨A6, c6, rfl, S6, hle⟩
    replace L0 := L0.trans hle
    replace S3 := S3.le hle
    clear hle
    go_wp2_with fail
    refine (equalInts_self _ _ _ _ _ _ _ S3 S6).mono ?_
    rintro e w9 ⟨rfl, hle⟩
    replace L0 := L0.trans hle
    clear hle
    go_wp2
    go_ret
    exact ⟨rfl, L0⟩
  by_cases h0 : i < 0
  · go_wp2_with fail
    refine (Calls.sl1w (by decide) (sWayOut_any B D m c _ d xs p i hsm w5 S S2)).mono ?_
    rintro e w8 ⟨A6, c6, rfl, S6, hle⟩
    replace L0 := L0.trans hle
    replace S3 := S3.le hle
    clear hle
    go_wp2_with fail
    refine (equalInts_self _ _ _ _ _ _ _ S3 S6).mono ?_
    rintro e w9 ⟨rfl, hle⟩
    replace L0 := L0.trans hle
    clear hle
    go_wp2
    go_ret
    exact ⟨rfl, L0⟩
  obtain ⟨k, rfl⟩ := Int.eq_ofNat_of_zero_le (show 0 ≤ i by omega)
  by_cases hk : p.length ≤ k
  · have hk2 : (p.length : Int) ≤ (k : Int) := by omega
    go_wp2_with fail
    refine (Calls.sl1w (by decide) (sWayOut_any B D m c _ d xs p _ hsm w5 S S2)).mono ?_
    rintro e w8 ⟨A6, c6, rfl, S6, hle⟩
    replace L0 := L0.trans hle
    replace S3 := S3.le hle
    clear hle
    go_wp2_with fail
    refine (equalInts_self _ _ _ _ _ _ _ S3 S6).mono ?_
    rintro e w9 ⟨rfl, hle⟩
    replace L0 := L0.trans hle
    clear hle
    go_wp2
    go_ret
    exact ⟨rfl, L0⟩
  have hkp : k < p.length := by omega
  have hk0 : (0 : Int) ≤ (k : Int) := by omega
  have hkn : (k : Int) < (p.length : Int) := by omega
  obtain ⟨W, HW, hWd, hW24, hall⟩ := wo_facts hv hkp
  rw [HW, nI_len] at S3 ⊢
  have HAT : Hid (∀ t (h : t < W.length), (nI W)[t]'(by rw [nI_len]; exact h) = (W[t] : Int)) := fun t h => nI_at h
  have HEL := Lib.hid (nI_len W)
  have HALL : Hid (∀ t (h : t < W.length), ∃ hx : W[t] < p.length, ((p[W[t]].kind = 11 ∧ W[t] < k) ∨ p[W[t]].kind = 10) ∧ p[W[t]].depth < p[k].depth ∧ hasI ((nI W).take t) (W[t] : Int) = false) := fun t h => by
    obtain ⟨a1, a2, a3, a4⟩ := hall t h
    rw [dep_at a1, dep_at hkp] at a3
    rw [knd_at a1] at a2
    exact ⟨a1, a2, a3, a4⟩
  rw [dep_at hkp] at hWd
  clear hall HW
  go_wp2
  go_loopw [7, 8] (fun i _ wr => ∃ t : Nat, i = .int .i64 t ∧ Le w5 wr) (fun i _ _ => W.length - (intOf i).toNat)
  case atStart => exact ⟨0, rfl, Le.refl _⟩
  case round =>
    obtain ⟨t, rfl, LW⟩ := hrel
    replace L0 := L0.trans LW
    replace S2 := S2.le LW
    replace S3 := S3.le LW
    by_cases hlt : t < W.length
    · obtain ⟨hx, hkd, hdx, hin⟩ := HALL.out t hlt
      obtain ⟨b, off, rfl, hb, hcell, _, _⟩ := S3.int_at (k := t) (by rw [HEL.out]; exact hlt)
      rw [HAT.out t hlt] at hcell
      obtain ⟨b2, off2, rfl, hb2, cx, ckd, -⟩ := S2.lin_at hx
      obtain ⟨b3, off3, e3, hb3, ck, -⟩ := S2.lin_at hkp
      injection e3 with e3
      injection e3 with e3 e4
      subst e3; subst e4
      have ST := S3.take_ t (by omega)
      have hcap := S3.cap_
      have htc : (t : Int) ≤ (c3 : Int) := by omega
      have htc2 : t ≤ c3 := by omega
      generalize W[t] = x at *
      have hx0 : (0 : Int) ≤ (x : Int) := by omega
      have hxn : (x : Int) < (p.length : Int) := by omega
      have ht0 : (t : Int) < (W.length : Int) := by omega
      have hd2 : decide (p[k].depth ≤ p[x].depth) = false := decide_eq_false (by omega)
      generalize p[k].depth = dk at *
      generalize p[x].depth = dx at *
      have F1 := cell_ext hb hcell
      have F2 := cell_ext hb2 cx
      have F3 := cell_ext hb3 ck
      rcases hkd with ⟨hk11, hxk⟩ | hk10
      · rw [hk11] at ckd
        have hd1 : decide (k ≤ x) = false := decide_eq_false (by omega)
        clear hk11
        go_wp2_with fail
        refine wp_region_ext (by kernel_rfl) (by kernel_rfl) ?_
        repeat (go_big_quiet_step (first | (go_at_call 12; exact Calls.ext_of (Calls.val (isIn_le _ t c3 _ x _ (ST.ext _)) (vb hin)))))
        refine wpQuiet_nil ?_
        intro _ hw'
        obtain ⟨gg, rfl⟩ := hw'
        have hw3 := Le.ext wr gg
        generalize wr.ext gg = W2 at *
        go_wp2
        go_roundw
        case rel => exact ⟨t + 1, by go_num, LW.trans hw3⟩
        case measure => simp [intOf]; omega
      · rw [hk10] at ckd
        clear hk10
        go_wp2_with fail
        refine wp_region_ext (by kernel_rfl) (by kernel_rfl) ?_
        repeat (go_big_quiet_step (first | (go_at_call 12; exact Calls.ext_of (Calls.val (isIn_le _ t c3 _ x _ (ST.ext _)) (vb hin)))))
        refine wpQuiet_nil ?_
        intro _ hw'
        obtain ⟨gg, rfl⟩ := hw'
        have hw3 := Le.ext wr gg
        generalize wr.ext gg = W2 at *
        go_wp2
        go_roundw
        case rel => exact ⟨t + 1, by go_num, LW.trans hw3⟩
        case measure => simp [intOf]; omega
    · obtain ⟨b3, off3, rfl, hb3, ck, -⟩ := S2.lin_at hkp
      have hdd : decide ((W.length : Int) ≤ p[k].depth) = true := decide_eq_true hWd
      go_wp2
      go_ret
      exact ⟨rfl, L0⟩
end Go.Proofs.Ytkcblnhemdgjjaa
