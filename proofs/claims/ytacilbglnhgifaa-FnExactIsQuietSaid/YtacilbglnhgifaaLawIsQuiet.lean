/- For all arguments the exact law of IsQuiet: the walks -/
import Derived.Test.YtacilbglnhgifaaLvF
import Derived.Test.YtacilbglnhgifaaLvM
import Derived.Test.YtacilbglnhgifaaTlClass
import Derived.Test.YtacilbglnhgifaaTlExit
namespace Go.Proofs.Ytacilbglnhgifaa
open Go.RowKit
def quK (xs : List Cls) (L : List Xit) (k : Nat) : Bool := decide (0 ≤ faX xs L true (k : Int))
def quI (xs : List Cls) (L : List Xit) : Bool := vxs xs L && (!decide (0 ≤ faX xs L false 0) && (List.range xs.length).all fun k => !quK xs L k)
theorem quI_yes {xs : List Cls} {L : List Xit} (h : vxs xs L = true) (h0 : ¬ 0 ≤ faX xs L false 0) (hk : ∀ j, j < xs.length → quK xs L j = false) : quI xs L = true := by
  unfold quI
  rw [h, decide_eq_false h0, Bool.true_and, Bool.not_false, Bool.true_and, List.all_eq_true]
  intro k hm
  rw [hk k (List.mem_range.1 hm)]; rfl
theorem quI_no {xs : List Cls} {L : List Xit} {j : Nat} (hj : j < xs.length) (hk : quK xs L j = true) : quI xs L = false := by
  unfold quI
  have : ((List.range xs.length).all fun k => !quK xs L k) = false := by
    cases h : (List.range xs.length).all fun k => !quK xs L k
    · rfl
    · have := List.all_eq_true.1 h j (List.mem_range.2 hj)
      rw [hk] at this; cases this
  rw [this]; simp
set_option maxHeartbeats 2000000 in
set_option maxRecDepth 100000 in
theorem iIsQuiet_any (B A : Option Addr) (m c n cap : Nat) (xs : List Cls) (L : List Xit) (w : World) (hT : Sl w B m c xs) (hL : Sl w A n cap L) :
    Calls Try.prog 26 #[.agg #[.slice B m c], .slice A n cap] w fun e w' => e = .returned (.bool (quI xs L)) ∧ Le w w' := by
  have hl := Le.new w (.cells #[.slice B m c] 39)
  have c0 : (w.alloc (.cells #[.slice B m c] 39)).cell? ⟨w.heap.size, 0, none⟩ = some (.slice B m c) := by rw [World.cell?_alloc_at _ _ _ _ rfl]; rfl
  have hz : w.heap.size < (w.alloc (.cells #[.slice B m c] 39)).heap.size := by simp
  have hS := hT.le hl
  have hSL := hL.le hl
  have HQ : Hid (quI xs L = (vxs xs L && (!decide (0 ≤ faX xs L false 0) && (List.range xs.length).all fun k => !quK xs L k))) := rfl
  cases h1 : vxs xs L
  · have HF : Hid (quI xs L = false) := by show _ = _; rw [HQ.out, h1]; rfl
    clear HQ
    go_enter Try.func26, Try.ntmps26
    go_wp2_with fail
    generalize w.alloc (.cells #[.slice B m c] 39) = W at *
    refine (iValidExits_any B A m c n cap xs L _ hS hSL).mono ?_
    rintro e w2 ⟨rfl, hle⟩
    rw [h1]
    clear h1
    go_wp2
    go_ret
    exact ⟨ret_bool HF.out.symm, hl.trans hle⟩
  · have hab := vxs_iff.1 h1
    have g := good_of hab.1
    have hLl := hab.2.1
    clear hab
    have hhi := g.hi
    obtain rfl := hT.len
    have hnl := hL.len
    have HV := Lib.hid h1
    go_enter Try.func26, Try.ntmps26
    go_wp2_with fail
    generalize w.alloc (.cells #[.slice B xs.length c] 39) = W at *
    refine (iValidExits_any B A xs.length c n cap xs L _ hS hSL).mono ?_
    rintro e w2 ⟨rfl, hle⟩
    rw [h1]
    clear h1
    have c2 := (hle.cell hz).trans c0
    have hz2' := Nat.lt_of_lt_of_le hz hle.size
    have hl2 := hl.trans hle
    have S2 := hT.le hl2
    have SL2 := hL.le hl2
    clear c0 hz hle hl hS hSL
    go_wp2_with fail
    refine (closeExits_any B xs.length c xs A n cap L false 0 0 ⟨by omega, by omega⟩ ⟨by omega, by omega⟩ (by omega) _ S2 SL2).mono ?_
    rintro e w3 ⟨R0, lv0, hv0, rfl, LV0⟩
    have k0 := LV0.c3
    have L3 := LV0.G
    have HF0 : Hid (faX xs L false 0 = (clX xs L (stS false 0 0)).2.2) := rfl
    generalize (clX xs L (stS false 0 0)).2.2 = fa0 at *
    have c3 := (L3.cell hz2').trans c2
    have hz3' := Nat.lt_of_lt_of_le hz2' L3.size
    have hl3 := hl2.trans L3
    clear LV0 c2 hz2' L3 S2 SL2
    by_cases hf0 : 0 ≤ fa0
    · have HF : Hid (quI xs L = false) := by show _ = _; rw [HQ.out, HF0.out, decide_eq_true hf0]; simp
      go_wp2
      go_ret
      exact ⟨ret_bool HF.out.symm, hl3⟩
    · have HN : Hid (¬ 0 ≤ faX xs L false 0) := by show ¬ _; rw [HF0.out]; exact hf0
      go_wp2
      go_loopw [23] (fun q wr => ∃ k : Nat, k ≤ xs.length ∧ q = .int .i64 k ∧ (∀ j, j < k → quK xs L j = false) ∧ Le w3 wr) (fun q _ => xs.length - (intOf q).toNat)
      case atStart => exact ⟨0, Nat.zero_le _, rfl, fun j h => absurd h (by omega), Le.refl w3⟩
      case round =>
        obtain ⟨k, hk, rfl, hall, hle⟩ := hrel
        have HA := Lib.hid hall
        clear hall
        have cr := (hle.cell hz3').trans c3
        have hRr := hT.le (hl3.trans hle)
        have hLr := hL.le (hl3.trans hle)
        by_cases hlt : k < xs.length
        · go_wp2_with fail
          refine (closeExits_any B xs.length c xs A n cap L true (k : Int) 0 ⟨by omega, by omega⟩ ⟨by omega, by omega⟩ (by omega) _ hRr hLr).mono ?_
          rintro e w4 ⟨R, lv, hv, rfl, LV⟩
          have k3 := LV.c3
          have hle' := hle.trans LV.G
          have HFK : Hid (quK xs L k = decide (0 ≤ (clX xs L (stS true (k : Int) 0)).2.2)) := rfl
          generalize (clX xs L (stS true (k : Int) 0)).2.2 = fa at *
          clear LV hle
          by_cases hi1 : 0 ≤ fa
          · have HF : Hid (quI xs L = false) := quI_no hlt (by rw [HFK.out]; exact decide_eq_true hi1)
            go_wp2
            go_ret
            exact ⟨ret_bool HF.out.symm, hl3.trans hle'⟩
          · have HB : Hid (∀ j, j < k + 1 → quK xs L j = false) := fun j hj => by
              rcases Nat.lt_or_ge j k with h2 | h2
              · exact HA.out j h2
              · have e : j = k := by omega
                rw [e, HFK.out]; exact decide_eq_false hi1
            go_wp2
            go_roundw
            case rel => exact ⟨k + 1, by omega, by go_num, HB.out, hle'⟩
            case measure => simp [intOf]; omega
        · have HF : Hid (quI xs L = true) := quI_yes HV.out (by have := HN.out; omega) fun j hj => HA.out j (by omega)
          go_wp2
          go_ret
          exact ⟨ret_bool HF.out.symm, hl3.trans hle⟩
theorem fldE (a d : Value) (b v : Int) (w : World) : (Instr.field 35 (.agg #[a, .int .i64 b, .int .i64 v, d]) 1).run Try.prog w = .ok (.int .i64 b) w := by kernel_rfl
set_option maxHeartbeats 2000000 in
set_option maxRecDepth 100000 in
theorem sIsQuiet_any (B A : Option Addr) (m c n cap : Nat) (xs : List Cls) (L : List Xit) (w : World) (hT : Sl w B m c xs) (hL : Sl w A n cap L) :
    Calls Try.prog 25 #[.agg #[.slice B m c], .slice A n cap] w fun e w' => e = .returned (.bool (quI xs L)) ∧ Le w w' := by
  have hfe := fldE
  have hl := Le.new w (.cells #[.slice B m c] 39)
  have c0 : (w.alloc (.cells #[.slice B m c] 39)).cell? ⟨w.heap.size, 0, none⟩ = some (.slice B m c) := by rw [World.cell?_alloc_at _ _ _ _ rfl]; rfl
  have hz : w.heap.size < (w.alloc (.cells #[.slice B m c] 39)).heap.size := by simp
  have hS := hT.le hl
  have hSL := hL.le hl
  have HQ : Hid (quI xs L = (vxs xs L && (!decide (0 ≤ faX xs L false 0) && (List.range xs.length).all fun k => !quK xs L k))) := rfl
  cases h1 : vxs xs L
  · have HF : Hid (quI xs L = false) := by show _ = _; rw [HQ.out, h1]; rfl
    clear HQ
    go_enter Try.func25, Try.ntmps25
    go_wp2_with fail
    generalize w.alloc (.cells #[.slice B m c] 39) = W at *
    refine (svalidExits_any B A m c n cap xs L _ hS hSL).mono ?_
    rintro e w2 ⟨rfl, hle⟩
    rw [h1]
    clear h1
    go_wp2
    go_ret
    exact ⟨ret_bool HF.out.symm, hl.trans hle⟩
  · have hab := vxs_iff.1 h1
    have g := good_of hab.1
    have hLl := hab.2.1
    clear hab
    have hhi := g.hi
    obtain rfl := hT.len
    have hnl := hL.len
    have HV := Lib.hid h1
    go_enter Try.func25, Try.ntmps25
    go_wp2_with fail
    generalize w.alloc (.cells #[.slice B xs.length c] 39) = W at *
    refine (svalidExits_any B A xs.length c n cap xs L _ hS hSL).mono ?_
    rintro e w2 ⟨rfl, hle⟩
    rw [h1]
    clear h1
    have c2 := (hle.cell hz).trans c0
    have hz2' := Nat.lt_of_lt_of_le hz hle.size
    have hl2 := hl.trans hle
    have S2 := hT.le hl2
    have SL2 := hL.le hl2
    clear c0 hz hle hl hS hSL
    go_wp2_with fail
    refine (closed_any B A xs.length c n cap xs L false 0 0 ⟨by omega, by omega⟩ ⟨by omega, by omega⟩ HV.out (fun h => nomatch h) _ S2 SL2).mono ?_
    rintro e w3 ⟨lv0, hv0, rfl, D0, D1, -, L3⟩
    obtain ⟨P0, t0, rfl⟩ := own_form D0.row
    obtain ⟨P1, t1, rfl⟩ := own_form D1.row
    clear D0 D1
    generalize (clX xs L (stS false 0 0)).1.length = n0 at *
    generalize (clH (clX xs L (stS false 0 0))).length = n1 at *
    have HF0 : Hid (faX xs L false 0 = (clX xs L (stS false 0 0)).2.2) := rfl
    have HE0 : Hid (clE (clX xs L (stS false 0 0)) = if 0 ≤ (clX xs L (stS false 0 0)).2.2 then 2 else 0) := rfl
    generalize clE (clX xs L (stS false 0 0)) = ed0 at *
    generalize clV (clX xs L (stS false 0 0)) = vl0 at *
    generalize (clX xs L (stS false 0 0)).2.2 = fa0 at *
    have c3 := (L3.cell hz2').trans c2
    have hz3' := Nat.lt_of_lt_of_le hz2' L3.size
    have hl3 := hl2.trans L3
    clear c2 hz2' L3 S2 SL2
    by_cases hf0 : 0 ≤ fa0
    · have HF : Hid (quI xs L = false) := by show _ = _; rw [HQ.out, HF0.out, decide_eq_true hf0]; simp
      obtain rfl : ed0 = 2 := by rw [HE0.out, if_pos hf0]
      go_wp2
      go_ret
      exact ⟨ret_bool HF.out.symm, hl3⟩
    · have HN : Hid (¬ 0 ≤ faX xs L false 0) := by show ¬ _; rw [HF0.out]; exact hf0
      obtain rfl : ed0 = 0 := by rw [HE0.out, if_neg hf0]
      go_wp2
      go_loopw [5] (fun q wr => ∃ k : Nat, k ≤ xs.length ∧ q = .int .i64 k ∧ (∀ j, j < k → quK xs L j = false) ∧ Le w3 wr) (fun q _ => xs.length - (intOf q).toNat)
      case atStart => exact ⟨0, Nat.zero_le _, rfl, fun j h => absurd h (by omega), Le.refl w3⟩
      case round =>
        obtain ⟨k, hk, rfl, hall, hle⟩ := hrel
        have HA := Lib.hid hall
        clear hall
        have cr := (hle.cell hz3').trans c3
        have hRr := hT.le (hl3.trans hle)
        have hLr := hL.le (hl3.trans hle)
        by_cases hlt : k < xs.length
        · go_wp2_with fail
          refine (closed_any B A xs.length c n cap xs L true (k : Int) 0 ⟨by omega, by omega⟩ ⟨by omega, by omega⟩ HV.out (fun _ => hasK_iff.2 ⟨by omega, by omega⟩) _ hRr hLr).mono ?_
          rintro e w4 ⟨lv, hv, rfl, D0, D1, -, L4⟩
          obtain ⟨P2, t2, rfl⟩ := own_form D0.row
          obtain ⟨P3, t3, rfl⟩ := own_form D1.row
          clear D0 D1
          generalize (clX xs L (stS true (k : Int) 0)).1.length = n2 at *
          generalize (clH (clX xs L (stS true (k : Int) 0))).length = n3 at *
          have hle' := hle.trans L4
          have HFK : Hid (quK xs L k = decide (0 ≤ (clX xs L (stS true (k : Int) 0)).2.2)) := rfl
          have HE1 : Hid (clE (clX xs L (stS true (k : Int) 0)) = if 0 ≤ (clX xs L (stS true (k : Int) 0)).2.2 then 2 else 0) := rfl
          generalize clE (clX xs L (stS true (k : Int) 0)) = ed at *
          generalize clV (clX xs L (stS true (k : Int) 0)) = vl at *
          generalize (clX xs L (stS true (k : Int) 0)).2.2 = fa at *
          clear hle
          by_cases hi1 : 0 ≤ fa
          · obtain rfl : ed = 2 := by rw [HE1.out, if_pos hi1]
            have HF : Hid (quI xs L = false) := quI_no hlt (by rw [HFK.out]; exact decide_eq_true hi1)
            go_wp2
            go_ret
            exact ⟨ret_bool HF.out.symm, hl3.trans hle'⟩
          · obtain rfl : ed = 0 := by rw [HE1.out, if_neg hi1]
            have HB : Hid (∀ j, j < k + 1 → quK xs L j = false) := fun j hj => by
              rcases Nat.lt_or_ge j k with h2 | h2
              · exact HA.out j h2
              · have e : j = k := by omega
                rw [e, HFK.out]; exact decide_eq_false hi1
            go_wp2
            go_roundw
            case rel => exact ⟨k + 1, by omega, by go_num, HB.out, hle'⟩
            case measure => simp [intOf]; omega
        · have HF : Hid (quI xs L = true) := quI_yes HV.out (by have := HN.out; omega) fun j hj => HA.out j (by omega)
          go_wp2
          go_ret
          exact ⟨ret_bool HF.out.symm, hl3.trans hle⟩

set_option maxHeartbeats 16000000 in
set_option maxRecDepth 100000 in
theorem exIsQuiet_walk (At : Option Addr) (nt ct : Nat) (t : List Cls) (Ap : Option Addr) (np cp : Nat) (p : List Xit) (w : World) (ht : Sl w At nt ct t) (hp : Sl w Ap np cp p) :
    Calls Try.prog 5 #[.agg #[.slice At nt ct], .slice Ap np cp] w fun e w' => e = .returned (.bool true) ∧ Le w w' := by
  have hokt := ht.ok
  have hmxt := ht.n_le
  have hokp := hp.ok
  have hmxp := hp.n_le
  go_enter Try.func5, Try.ntmps5
  go_wp2_with fail
  obtain ⟨cat, zat, L0⟩ := box1 w (.slice At nt ct) 24
  have s0 : w.heap.size ≤ (w.alloc (.cells #[.slice At nt ct] 24)).heap.size := L0.size
  have sz0 := zat
  generalize w.alloc (.cells #[.slice At nt ct] 24) = W at *
  refine (szTree_any At nt ct t _ _ (ht.le L0) (by omega) (by omega)).mono ?_
  rintro e w1 ⟨rt, rfl, hr, hle⟩
  have s1 := hle.size
  replace cat := (hle.cell zat).trans cat
  replace zat := Nat.lt_of_lt_of_le zat hle.size
  replace L0 := L0.trans hle
  clear hle
  rcases hr with rfl | ⟨ht0, ht1, ht2⟩
  · go_wp2
    go_ret
    exact ⟨rfl, L0⟩
  have hnegt : decide (rt < 0) = false := decide_eq_false (by omega)
  go_wp2_with fail
  refine (szExitS_any Ap np cp p _ _ (hp.le L0) (by omega) (by omega)).mono ?_
  rintro e w2 ⟨rp, rfl, hr, hle⟩
  have s2 := hle.size
  replace cat := (hle.cell zat).trans cat
  replace zat := Nat.lt_of_lt_of_le zat hle.size
  replace L0 := L0.trans hle
  clear hle
  rcases hr with rfl | ⟨hp0, hp1, hp2⟩
  · go_wp2
    go_ret
    exact ⟨rfl, L0⟩
  have hnegp : decide (rp < 0) = false := decide_eq_false (by omega)
  go_wp2_with fail
  refine (toTree_any At nt ct t _ (ht.le L0) (by omega)).mono ?_
  rintro e w3 ⟨gat, rfl, hgat, Oat, hle⟩
  have s3 := hle.size
  replace cat := (hle.cell zat).trans cat
  replace zat := Nat.lt_of_lt_of_le zat hle.size
  replace L0 := L0.trans hle
  clear hle
  have hbat := own_lt Oat
  go_wp2_with fail
  refine (toExitS_any Ap np cp p _ (hp.le L0) (by omega)).mono ?_
  rintro e w4 ⟨rfl, Oap, hle⟩
  have s4 := hle.size
  replace cat := (hle.cell zat).trans cat
  replace zat := Nat.lt_of_lt_of_le zat hle.size
  replace L0 := L0.trans hle
  replace Oat := own_le Oat hle
  clear hle
  have hbap := own_lt Oap
  go_wp2_with fail
  refine (sIsQuiet_any _ _ _ _ _ _ t p _ (Sl.of_own Oat rfl (by decide) hokt) (Sl.of_own Oap rfl (by decide) hokp)).mono ?_
  rintro e w5 ⟨rfl, hle⟩
  have s5 := hle.size
  replace cat := (hle.cell zat).trans cat
  replace zat := Nat.lt_of_lt_of_le zat hle.size
  replace L0 := L0.trans hle
  replace Oat := own_le Oat hle
  replace Oap := own_le Oap hle
  clear hle
  clear Oat Oap
  go_wp2_with fail
  refine (toTree_any At nt ct t _ (ht.le L0) (by omega)).mono ?_
  rintro e w6 ⟨gxt, rfl, hgxt, Oxt, hle⟩
  have s6 := hle.size
  replace cat := (hle.cell zat).trans cat
  replace zat := Nat.lt_of_lt_of_le zat hle.size
  replace L0 := L0.trans hle
  clear hle
  have hbxt := own_lt Oxt
  go_wp2_with fail
  obtain ⟨cxt, zxt, hleB⟩ := box1 w6 (.slice (some ⟨gxt, 0, none⟩) nt nt) 39
  replace cat := (hleB.cell zat).trans cat
  replace zat := Nat.lt_of_lt_of_le zat hleB.size
  replace L0 := L0.trans hleB
  replace Oxt := own_le Oxt hleB
  clear hleB
  generalize w6.alloc (.cells #[.slice (some ⟨gxt, 0, none⟩) nt nt] 39) = w7 at *
  have s7 := zxt
  refine (toExitS_any Ap np cp p _ (hp.le L0) (by omega)).mono ?_
  rintro e w8 ⟨rfl, Oxp, hle⟩
  have s8 := hle.size
  replace cat := (hle.cell zat).trans cat
  replace cxt := (hle.cell zxt).trans cxt
  replace zat := Nat.lt_of_lt_of_le zat hle.size
  replace L0 := L0.trans hle
  replace Oxt := own_le Oxt hle
  replace zxt := Nat.lt_of_lt_of_le zxt hle.size
  clear hle
  have hbxp := own_lt Oxp
  go_wp2_with fail
  refine (iIsQuiet_any _ _ _ _ _ _ t p _ (Sl.of_own Oxt rfl (by decide) hokt) (Sl.of_own Oxp rfl (by decide) hokp)).mono ?_
  rintro e w9 ⟨rfl, hle⟩
  have s9 := hle.size
  replace cat := (hle.cell zat).trans cat
  replace cxt := (hle.cell zxt).trans cxt
  replace zat := Nat.lt_of_lt_of_le zat hle.size
  replace L0 := L0.trans hle
  replace Oxt := own_le Oxt hle
  replace zxt := Nat.lt_of_lt_of_le zxt hle.size
  replace Oxp := own_le Oxp hle
  clear hle
  go_wp2_with fail
  replace L0 := L0.drew
  replace Oxt := Oxt.drew
  replace Oxp := Oxp.drew
  go_region_held3 (fun w' => w'.cell? ⟨w.heap.size, 0, none⟩ = some (.slice At nt ct) ∧ w'.cell? ⟨w6.heap.size, 0, none⟩ = some (.slice (some ⟨gxt, 0, none⟩) nt nt))
    (first | exact ⟨cat, cxt⟩)
    (first
    | (go_at_call 9; refine (toTree_any At nt ct t _ (ht.le L0) (by omega)).mono ?_; rintro e w10 ⟨gy, rfl, hgy, Oy, hle⟩; have s10 : w9.heap.size ≤ w10.heap.size := hle.size; replace cat := (hle.cell zat).trans cat; replace cxt := (hle.cell zxt).trans cxt; replace zat := Nat.lt_of_lt_of_le zat hle.size; replace L0 := L0.trans hle; replace Oxt := own_le Oxt hle; replace zxt := Nat.lt_of_lt_of_le zxt hle.size; replace Oxp := own_le Oxp hle; clear hle; have Sy := Sl.of_own Oy rfl (by decide) hokt; clear Oy)
    | (go_at_call 14; refine (eqTree_self _ _ _ _ _ t _ (Sl.of_own Oxt rfl (by decide) hokt) Sy).mono ?_; rintro e w11 ⟨rfl, hle⟩; have s11 := hle.size; replace cat := (hle.cell zat).trans cat; replace cxt := (hle.cell zxt).trans cxt; replace zat := Nat.lt_of_lt_of_le zat hle.size; replace L0 := L0.trans hle; replace Oxt := own_le Oxt hle; replace zxt := Nat.lt_of_lt_of_le zxt hle.size; replace Oxp := own_le Oxp hle; clear hle Sy))
  go_wp2_with fail
  refine (toExitS_any Ap np cp p _ (hp.le L0) (by omega)).mono ?_
  rintro e w12 ⟨rfl, Oy, hle⟩
  have s12 := hle.size
  replace cat := (hle.cell zat).trans cat
  replace cxt := (hle.cell zxt).trans cxt
  replace zat := Nat.lt_of_lt_of_le zat hle.size
  replace L0 := L0.trans hle
  replace Oxt := own_le Oxt hle
  replace zxt := Nat.lt_of_lt_of_le zxt hle.size
  replace Oxp := own_le Oxp hle
  clear hle
  have hby := own_lt Oy
  have Sy := Sl.of_own Oy rfl (by decide) hokp; clear Oy hby
  go_wp2_with fail
  refine (eqExitS_self _ _ _ _ _ p _ (Sl.of_own Oxp rfl (by decide) hokp) Sy).mono ?_
  rintro e w13 ⟨rfl, hle⟩
  have s13 := hle.size
  replace cat := (hle.cell zat).trans cat
  replace cxt := (hle.cell zxt).trans cxt
  replace zat := Nat.lt_of_lt_of_le zat hle.size
  replace L0 := L0.trans hle
  replace Oxt := own_le Oxt hle
  replace zxt := Nat.lt_of_lt_of_le zxt hle.size
  replace Oxp := own_le Oxp hle
  clear hle
  clear Sy
  go_wp2
  go_ret
  exact ⟨rfl, L0⟩
end Go.Proofs.Ytacilbglnhgifaa
