/- one text of LvN, FQu, PJ, PIo -/
import Derived.Test.YtonpgohigncjeaaCx16
import Derived.Test.YtonpgohigncjeaaCx18
import Derived.Test.YtonpgohigncjeaaCx8
import Derived.Test.YtonpgohigncjeaaCx21
import Derived.Test.YtonpgohigncjeaaCx19
import Derived.Test.YtonpgohigncjeaaCx4
import Derived.Test.YtonpgohigncjeaaCx15
namespace Go.Proofs.Ytonpgohigncjeaa
open Go.RowKit
set_option linter.unusedVariables false
section
theorem fldE (a d : Value) (b v : Int) (w : World) : (Instr.field 36 (.agg #[a, .int .i64 b, .int .i64 v, d]) 1).run Try.prog w = .ok (.int .i64 b) w := by kernel_rfl
set_option maxHeartbeats 2000000 in
set_option maxRecDepth 100000 in
theorem sIsQuiet_any (B A : Option Addr) (m c n cap : Nat) (xs : List Cls) (L : List Xit) (w : World) (hT : Sl w B m c xs) (hL : Sl w A n cap L) :
    Calls Try.prog 32 #[.agg #[.slice B m c], .slice A n cap] w fun e w' => e = .returned (.bool (quI xs L)) ∧ Le w w' := by
  have hfe := fldE
  have hl := Le.new w (.cells #[.slice B m c] 25)
  have c0 : (w.alloc (.cells #[.slice B m c] 25)).cell? ⟨w.heap.size, 0, none⟩ = some (.slice B m c) := by rw [World.cell?_alloc_at _ _ _ _ rfl]; rfl
  have hz : w.heap.size < (w.alloc (.cells #[.slice B m c] 25)).heap.size := by simp
  have hS := hT.le hl
  have hSL := hL.le hl
  have HQ : Hid (quI xs L = (vxs xs L && (!decide (0 ≤ faX xs L false 0) && (List.range xs.length).all fun k => !quK xs L k))) := rfl
  cases h1 : vxs xs L
  · have HF : Hid (quI xs L = false) := by show _ = _; rw [HQ.out, h1]; rfl
    clear HQ
    go_enter Try.func32, Try.ntmps32
    go_wp2_with fail
    generalize w.alloc (.cells #[.slice B m c] 25) = W at *
    refine (svalidExits_any B A m c n cap xs L _ hS hSL).mono ?_
    rintro e w2 ⟨rfl, hle⟩
    rw [h1]
    clear h1
    go_wp2
    go_ret
    exact ⟨ret_bool HF.out.symm, hl.trans hle⟩
  · have hab := vxs_iff.1 h1
    have g := good_of hab.1
    have hLl := hab.2.1
    clear hab
    have hhi := g.hi
    obtain rfl := hT.len
    have hnl := hL.len
    have HV := Lib.hid h1
    go_enter Try.func32, Try.ntmps32
    go_wp2_with fail
    generalize w.alloc (.cells #[.slice B xs.length c] 25) = W at *
    refine (svalidExits_any B A xs.length c n cap xs L _ hS hSL).mono ?_
    rintro e w2 ⟨rfl, hle⟩
    rw [h1]
    clear h1
    have c2 := (hle.cell hz).trans c0
    have hz2' := Nat.lt_of_lt_of_le hz hle.size
    have hl2 := hl.trans hle
    have S2 := hT.le hl2
    have SL2 := hL.le hl2
    clear c0 hz hle hl hS hSL
    go_wp2_with fail
    refine (closed_any B A xs.length c n cap xs L false 0 0 ⟨by omega, by omega⟩ ⟨by omega, by omega⟩ HV.out (fun h => nomatch h) _ S2 SL2).mono ?_
    rintro e w3 ⟨lv0, hv0, rfl, D0, D1, -, L3⟩
    obtain ⟨P0, t0, rfl⟩ := own_form D0.row
    obtain ⟨P1, t1, rfl⟩ := own_form D1.row
    clear D0 D1
    generalize (clX xs L (stS false 0 0)).1.length = n0 at *
    generalize (clH (clX xs L (stS false 0 0))).length = n1 at *
    have HF0 : Hid (faX xs L false 0 = (clX xs L (stS false 0 0)).2.2) := rfl
    have HE0 : Hid (clE (clX xs L (stS false 0 0)) = if 0 ≤ (clX xs L (stS false 0 0)).2.2 then 2 else 0) := rfl
    generalize clE (clX xs L (stS false 0 0)) = ed0 at *
    generalize clV (clX xs L (stS false 0 0)) = vl0 at *
    generalize (clX xs L (stS false 0 0)).2.2 = fa0 at *
    have c3 := (L3.cell hz2').trans c2
    have hz3' := Nat.lt_of_lt_of_le hz2' L3.size
    have hl3 := hl2.trans L3
    clear c2 hz2' L3 S2 SL2
    by_cases hf0 : 0 ≤ fa0
    · have HF : Hid (quI xs L = false) := by show _ = _; rw [HQ.out, HF0.out, decide_eq_true hf0]; simp
      obtain rfl : ed0 = 2 := by rw [HE0.out, if_pos hf0]
      go_wp2
      go_ret
      exact ⟨ret_bool HF.out.symm, hl3⟩
    · have HN : Hid (¬ 0 ≤ faX xs L false 0) := by show ¬ _; rw [HF0.out]; exact hf0
      obtain rfl : ed0 = 0 := by rw [HE0.out, if_neg hf0]
      go_wp2
      go_loopw [5] (fun q wr => ∃ k : Nat, k ≤ xs.length ∧ q = .int .i64 k ∧ (∀ j, j < k → quK xs L j = false) ∧ Le w3 wr) (fun q _ => xs.length - (intOf q).toNat)
      case atStart => exact ⟨0, Nat.zero_le _, rfl, fun j h => absurd h (by omega), Le.refl w3⟩
      case round =>
        obtain ⟨k, hk, rfl, hall, hle⟩ := hrel
        have HA := Lib.hid hall
        clear hall
        have cr := (hle.cell hz3').trans c3
        have hRr := hT.le (hl3.trans hle)
        have hLr := hL.le (hl3.trans hle)
        by_cases hlt : k < xs.length
        · go_wp2_with fail
          refine (closed_any B A xs.length c n cap xs L true (k : Int) 0 ⟨by omega, by omega⟩ ⟨by omega, by omega⟩ HV.out (fun _ => hasK_iff.2 ⟨by omega, by omega⟩) _ hRr hLr).mono ?_
          rintro e w4 ⟨lv, hv, rfl, D0, D1, -, L4⟩
          obtain ⟨P2, t2, rfl⟩ := own_form D0.row
          obtain ⟨P3, t3, rfl⟩ := own_form D1.row
          clear D0 D1
          generalize (clX xs L (stS true (k : Int) 0)).1.length = n2 at *
          generalize (clH (clX xs L (stS true (k : Int) 0))).length = n3 at *
          have hle' := hle.trans L4
          have HFK : Hid (quK xs L k = decide (0 ≤ (clX xs L (stS true (k : Int) 0)).2.2)) := rfl
          have HE1 : Hid (clE (clX xs L (stS true (k : Int) 0)) = if 0 ≤ (clX xs L (stS true (k : Int) 0)).2.2 then 2 else 0) := rfl
          generalize clE (clX xs L (stS true (k : Int) 0)) = ed at *
          generalize clV (clX xs L (stS true (k : Int) 0)) = vl at *
          generalize (clX xs L (stS true (k : Int) 0)).2.2 = fa at *
          clear hle
          by_cases hi1 : 0 ≤ fa
          · obtain rfl : ed = 2 := by rw [HE1.out, if_pos hi1]
            have HF : Hid (quI xs L = false) := quI_no hlt (by rw [HFK.out]; exact decide_eq_true hi1)
            go_wp2
            go_ret
            exact ⟨ret_bool HF.out.symm, hl3.trans hle'⟩
          · obtain rfl : ed = 0 := by rw [HE1.out, if_neg hi1]
            have HB : Hid (∀ j, j < k + 1 → quK xs L j = false) := fun j hj => by
              rcases Nat.lt_or_ge j k with h2 | h2
              · exact HA.out j h2
              · have e : j = k := by omega
                rw [e, HFK.out]; exact decide_eq_false hi1
            go_wp2
            go_roundw
            case rel => exact ⟨k + 1, by omega, by go_num, HB.out, hle'⟩
            case measure => simp [intOf]; omega
        · have HF : Hid (quI xs L = true) := quI_yes HV.out (by have := HN.out; omega) fun j hj => HA.out j (by omega)
          go_wp2
          go_ret
          exact ⟨ret_bool HF.out.symm, hl3.trans hle⟩
end

section
theorem escK_no {f : Nat → Bool} : ∀ k, (∀ j, j < k → f j = false) → escK f k = []
  | 0, _ => rfl
  | k + 1, h => by
    show (escK f k ++ if f k = true then [(k : Int)] else []) = []
    rw [escK_no k (fun j hj => h j (by omega)), h k (by omega)]; rfl
/-- what is quiet lets nothing escape -/
theorem quiet_esc {xs : List Cls} {L : List Xit} (h : quI xs L = true) : escI xs L = [] := by
  unfold quI at h
  rw [Bool.and_eq_true, Bool.and_eq_true, List.all_eq_true] at h
  rw [escI_of h.1]
  refine escK_no _ fun j hj => ?_
  have h2 := h.2.2 j (List.mem_range.2 hj)
  unfold quK at h2
  rw [Bool.not_eq_true', decide_eq_false_iff_not] at h2
  rw [beq_eq_false_iff_ne]
  omega
theorem isAL_root {xs : List Cls} (g : Good xs) {a : Int} (h0 : 0 ≤ a) (h1 : a < xs.length) : isAL xs a 0 = true :=
  isAL_iff.2 (List.mem_of_getElem? (aboveL_last? g _ a rfl h1 h0))
/-- what catches the root at the end lets nothing out -/
theorem quiet_all {xs : List Cls} {L : List Xit} (h : vxs xs (⟨2, 0, 0⟩ :: L) = true) : quI xs (⟨2, 0, 0⟩ :: L) = true := by
  obtain ⟨ht, hl, hx⟩ := vxs_iff.1 h
  have g := good_of ht
  have hL : ∀ x ∈ L, xOk xs x = true := fun x hm => hx x (List.mem_cons_of_mem _ hm)
  have key : ∀ (has : Bool) (a : Int), (has = true → hasK xs a = true) → ¬ 0 ≤ faX xs (⟨2, 0, 0⟩ :: L) has a := by
    intro has a ha
    have C := (CvOk.start (k := 0) ha).all L hL
    unfold faX
    rw [clX_cons, stX_2 rfl]
    generalize clX xs L (stS has a 0) = s at *
    show ¬ 0 ≤ tkX xs s.2.1 s.2.2 0
    unfold tkX
    by_cases h0 : 0 ≤ s.2.2
    · obtain ⟨f, hf⟩ : ∃ f : Nat, s.2.2 = (f : Int) := ⟨s.2.2.toNat, by omega⟩
      have hfl : f < s.2.1.length := by have := C.ok.hi; omega
      have hc := C.cl f hfl
      have hc2 := hasK_iff.1 hc
      have e : isAx xs (flC s.2.1 s.2.2) 0 = true := by
        rw [hf, flC_at hfl]
        unfold isAx
        rw [ht, hc, hasK_iff.2 ⟨by omega, by omega⟩, isAL_root g hc2.1 hc2.2]; rfl
      rw [if_pos h0, if_pos e]; omega
    · rw [if_neg h0]; exact h0
  exact quI_yes h (key false 0 (fun h => nomatch h)) fun j hj => by
    unfold quK
    exact decide_eq_false (key true (j : Int) fun _ => hasK_iff.2 ⟨by omega, by omega⟩)
theorem own_oneX (w : World) (k a b : Int) {c : Nat} (hb : c ≤ w.heap.size) : (w.alloc (.cells #[.int .i64 k, .int .i64 a, .int .i64 b] 42)).ownsRow c 42 3 (.slice (some ⟨w.heap.size, 0, none⟩) 1 1) 1 ([(⟨k, a, b⟩ : Xit)].flatMap Enc.cells) := by
  have := World.ownsRow_lit (base := c) (e := 42) (size := 3) w #[.int .i64 k, .int .i64 a, .int .i64 b] 1 hb (by unfold maxLen; omega) (by simp)
  simpa [Enc.cells] using this
set_option maxHeartbeats 2000000 in
set_option maxRecDepth 100000 in
theorem drawIsQuiet_any (A : Option Addr) (n cap : Nat) (bs : List By) (w : World) (hR : Sl w A n cap bs) : Calls Try.prog 30 #[.slice A n cap] w (DrawnXs w) := by
  obtain ⟨i0, hi, hz0, hz1, hz2⟩ := info_parts infoXt
  go_enter Try.func30, Try.ntmps30
  go_wp2_with fail
  obtain ⟨c0, z0, L0⟩ := box1 w (.slice none 0 0) 25
  have f0 : (w.alloc (.cells #[.slice none 0 0] 25)).frozen? ⟨w.heap.size, 0, none⟩ = false := World.frozen?_alloc_at _ _ _ _ rfl
  have S0 := hR.le L0
  generalize w.alloc (.cells #[.slice none 0 0] 25) = W at *
  refine (newReader_any A n cap bs W S0).mono ?_
  rintro e w1 ⟨g, A1, n1, k1, bs1, rfl, hg, R1, hle⟩
  have hz1' : w.heap.size < w1.heap.size := Nat.lt_of_lt_of_le z0 hle.size
  replace c0 := (hle.cell z0).trans c0
  replace f0 := (hle.frozen z0).trans f0
  replace L0 := L0.trans hle
  clear S0
  have hgz : w.heap.size ≠ g := by omega
  have hg1 := R1.lt
  go_wp2_with fail
  refine (someExits_any g 0 A1 n1 k1 bs1 w1 (by omega) R1).mono ?_
  rintro e w2 ⟨B, D, m, c, q, d, xs, L, p2, rfl, S2, hm, hab, SD, hq, hD, hp2, R2, hg2⟩
  have hz2' : w.heap.size < w2.heap.size := Nat.lt_of_lt_of_le hz1' hg2.size
  replace c0 := (hg2.cell hz1' hgz).trans c0
  replace f0 := (hg2.frozen hz1' hgz).trans f0
  have L2 := Gx.le L0 hg2 (by omega)
  have hgl := R2.lt
  obtain ⟨ct, zt, LB⟩ := box1 w2 (.slice B m c) 25
  replace c0 := (LB.cell hz2').trans c0
  replace f0 := (LB.frozen hz2').trans f0
  replace S2 := S2.le LB
  replace SD := SD.le LB
  replace R2 := R2.le LB
  replace L2 := L2.trans LB
  clear R1 L0 hg2 LB hle
  go_wp2_with fail
  generalize hW3 : w2.alloc (.cells #[.slice B m c] 25) = W3 at *
  clear hW3
  refine (pick_any 2 g p2 A1 n1 k1 bs1 W3 (by omega) (by omega) (by omega) R2).mono ?_
  rintro e w4 ⟨v, rfl, hv0, hv1, R4, hg4⟩
  have hz4 : w.heap.size < w4.heap.size := by have := hg4.size; omega
  replace c0 := (hg4.cell (by omega) (by omega)).trans c0
  replace f0 := (hg4.frozen (by omega) (by omega)).trans f0
  replace ct := (hg4.cell zt (by omega)).trans ct
  replace L2 := Gx.le L2 hg4 (by omega)
  replace S2 := S2.gx (fun hn a e => by have := hab hn a e; omega) hg4
  replace SD := SD.gx (fun hn a e => by have := hD hn a e; omega) hg4
  have z4t := Nat.lt_of_lt_of_le zt hg4.size
  clear R2 R4 hg4 hab hD zt
  obtain rfl := SD.len
  by_cases hv : v = 0
  · subst hv
    by_cases h7 : (7 : Int) < (L.length : Int)
    · have ST := SD.take_ 7 (by omega)
      have hcap := SD.cap_
      have hk0 : (0 : Int) ≤ (7 : Int) := by omega
      have hkc : (7 : Int) ≤ (d : Int) := by omega
      have O1 := own_oneX w4 2 0 0 (Nat.le_refl _)
      have HSU := Lib.hid S2.under
      have LA := Le.new w4 (.cells #[.int .i64 2, .int .i64 0, .int .i64 0] 42)
      replace c0 := (LA.cell hz4).trans c0
      replace f0 := (LA.frozen hz4).trans f0
      replace ct := (LA.cell z4t).trans ct
      replace S2 := S2.le LA
      replace ST := ST.le LA
      replace L2 := L2.trans LA
      have HL2 := Lib.hid L2
      have HS2 := Lib.hid S2
      have z6 := Nat.lt_of_lt_of_le hz4 LA.size
      have z6t := Nat.lt_of_lt_of_le z4t LA.size
      have hsz : (w4.alloc (.cells #[.int .i64 2, .int .i64 0, .int .i64 0] 42)).heap.size = w4.heap.size + 1 := by simp
      have HOK : Hid (∀ x ∈ [(⟨2, 0, 0⟩ : Xit)] ++ L.take 7, Enc.ok x) := fun x hx => by
        rcases List.mem_append.1 hx with h | h
        · rw [List.mem_singleton] at h; subst h; exact xit_ok ⟨by omega, by omega, by omega, by omega, by omega, by omega⟩
        · exact ST.ok x h
      clear SD L2 S2 LA
      go_wp2_with (at_builtin; refine wpList_append_sl rfl _ _ 26 rfl w4.heap.size 42 i0 _ 24 Try.underlying26 hi hz0 hz1 hz2 rfl _ 1 [(⟨2, 0, 0⟩ : Xit)] rfl O1 _ 7 d (L.take 7) rfl ST (by unfold maxLen; omega) (by omega) (by omega) ?_; intro v1 w6 O4 hg4 hbl; have L6 := Lib.hid (HL2.out.grown hg4 (fun kb hkb => by have h : w4.heap.size = kb := (by injection hkb); omega)); have S6 := Lib.hid (HS2.out.grown hg4 (fun hn a e h => by have h2 := HSU.out hn a e; have h3 : a.block = w4.heap.size := (by injection h); omega)); have e0 := hg4.cell (a := ⟨w.heap.size, 0, none⟩) c0 (fun e => by have h : w.heap.size = w4.heap.size := (by injection e); omega); have ef := (World.frozen?_of_block (a := ⟨w.heap.size, 0, none⟩) (hg4.block w.heap.size (by omega) (fun e => by have h : w.heap.size = w4.heap.size := (by injection e); omega))).trans f0; have et := hg4.cell (a := ⟨w2.heap.size, 0, none⟩) ct (fun e => by have h : w2.heap.size = w4.heap.size := (by injection e); omega); have HO4 := Lib.hid O4; obtain ⟨A9, c9, rfl⟩ := own_form O4; clear O4 hg4 hbl)
      have hS9 := Sl.of_own HO4.out rfl (by decide) HOK.out
      have hend : ∀ u, (w6.setCell ⟨w.heap.size, 0, none⟩ u).cell? ⟨w.heap.size, 0, none⟩ = some u := fun u => cell_set_same e0
      have hSx : ∀ u, Sl (w6.setCell ⟨w.heap.size, 0, none⟩ u) B m c xs := fun u => S6.out.setNoneX e0 (fun x h => by simp [Enc.cells] at h)
      have hSy := fun u => hS9.setNoneX (u := u) e0 (fun x h => by simp [Enc.cells] at h)
      exact bodyPost_ret (v := .tuple #[.agg #[.slice B m c], .slice A9 (1 + 7) c9]) (by simp [results, Try.results30, go_sem, hend]) rfl ⟨B, A9, m, c, _, c9, xs, _, rfl, hSx _, hm, hSy _, by omega, L6.out.setCell (Nat.le_refl _) _⟩
    · have ST := SD.take_ L.length (by omega)
      have hcap := SD.cap_
      have hk0 : (0 : Int) ≤ (L.length : Int) := by omega
      have hkc : (L.length : Int) ≤ (d : Int) := by omega
      have O1 := own_oneX w4 2 0 0 (Nat.le_refl _)
      have HSU := Lib.hid S2.under
      have LA := Le.new w4 (.cells #[.int .i64 2, .int .i64 0, .int .i64 0] 42)
      replace c0 := (LA.cell hz4).trans c0
      replace f0 := (LA.frozen hz4).trans f0
      replace ct := (LA.cell z4t).trans ct
      replace S2 := S2.le LA
      replace ST := ST.le LA
      replace L2 := L2.trans LA
      have HL2 := Lib.hid L2
      have HS2 := Lib.hid S2
      have z6 := Nat.lt_of_lt_of_le hz4 LA.size
      have z6t := Nat.lt_of_lt_of_le z4t LA.size
      have hsz : (w4.alloc (.cells #[.int .i64 2, .int .i64 0, .int .i64 0] 42)).heap.size = w4.heap.size + 1 := by simp
      have HOK : Hid (∀ x ∈ [(⟨2, 0, 0⟩ : Xit)] ++ L.take L.length, Enc.ok x) := fun x hx => by
        rcases List.mem_append.1 hx with h | h
        · rw [List.mem_singleton] at h; subst h; exact xit_ok ⟨by omega, by omega, by omega, by omega, by omega, by omega⟩
        · exact ST.ok x h
      clear SD L2 S2 LA
      go_wp2_with (at_builtin; refine wpList_append_sl rfl _ _ 26 rfl w4.heap.size 42 i0 _ 24 Try.underlying26 hi hz0 hz1 hz2 rfl _ 1 [(⟨2, 0, 0⟩ : Xit)] rfl O1 _ L.length d (L.take L.length) rfl ST (by unfold maxLen; omega) (by omega) (by omega) ?_; intro v1 w6 O4 hg4 hbl; have L6 := Lib.hid (HL2.out.grown hg4 (fun kb hkb => by have h : w4.heap.size = kb := (by injection hkb); omega)); have S6 := Lib.hid (HS2.out.grown hg4 (fun hn a e h => by have h2 := HSU.out hn a e; have h3 : a.block = w4.heap.size := (by injection h); omega)); have e0 := hg4.cell (a := ⟨w.heap.size, 0, none⟩) c0 (fun e => by have h : w.heap.size = w4.heap.size := (by injection e); omega); have ef := (World.frozen?_of_block (a := ⟨w.heap.size, 0, none⟩) (hg4.block w.heap.size (by omega) (fun e => by have h : w.heap.size = w4.heap.size := (by injection e); omega))).trans f0; have et := hg4.cell (a := ⟨w2.heap.size, 0, none⟩) ct (fun e => by have h : w2.heap.size = w4.heap.size := (by injection e); omega); have HO4 := Lib.hid O4; obtain ⟨A9, c9, rfl⟩ := own_form O4; clear O4 hg4 hbl)
      have hS9 := Sl.of_own HO4.out rfl (by decide) HOK.out
      have hend : ∀ u, (w6.setCell ⟨w.heap.size, 0, none⟩ u).cell? ⟨w.heap.size, 0, none⟩ = some u := fun u => cell_set_same e0
      have hSx : ∀ u, Sl (w6.setCell ⟨w.heap.size, 0, none⟩ u) B m c xs := fun u => S6.out.setNoneX e0 (fun x h => by simp [Enc.cells] at h)
      have hSy := fun u => hS9.setNoneX (u := u) e0 (fun x h => by simp [Enc.cells] at h)
      exact bodyPost_ret (v := .tuple #[.agg #[.slice B m c], .slice A9 (1 + L.length) c9]) (by simp [results, Try.results30, go_sem, hend]) rfl ⟨B, A9, m, c, _, c9, xs, _, rfl, hSx _, hm, hSy _, by omega, L6.out.setCell (Nat.le_refl _) _⟩
  · have hvb : (v == 0) = false := beq_eq_false_iff_ne.2 hv
    have hend : ∀ u, (w4.setCell ⟨w.heap.size, 0, none⟩ u).cell? ⟨w.heap.size, 0, none⟩ = some u := fun u => cell_set_same c0
    have hSx : ∀ u, Sl (w4.setCell ⟨w.heap.size, 0, none⟩ u) B m c xs := fun u => S2.setNoneX c0 (fun x h => by simp [Enc.cells] at h)
    have hSy : ∀ u, Sl (w4.setCell ⟨w.heap.size, 0, none⟩ u) D L.length d L := fun u => SD.setNoneX c0 (fun x h => by simp [Enc.cells] at h)
    clear hv hv0 hv1
    go_wp2
    exact bodyPost_ret (v := .tuple #[.agg #[.slice B m c], .slice D L.length d]) (by simp [results, Try.results30, go_sem, hend]) rfl ⟨B, D, m, c, _, d, xs, L, rfl, hSx _, hm, hSy _, hq, L2.setCell (Nat.le_refl _) _⟩
theorem Calls.jx {f : FuncId} {args : Array Value} {w : World} {T : TypeId} {L M : List Xit} {b b2 : Bool} (e1 : L = M) (e2 : b = b2) (h : Calls Try.prog f args w fun e w' => ∃ v, e = .returned (.tuple #[v, .bool b]) ∧ Owd T w w' v L ∧ Le w w') : Calls Try.prog f args w fun e w' => ∃ A c, e = .returned (.tuple #[.slice A M.length c, .bool b2]) ∧ Sl w' A M.length c M ∧ Le w w' := by
  subst e1; subst e2
  refine h.mono ?_
  rintro e w' ⟨v, rfl, D, hle⟩
  obtain ⟨A, c, rfl, S, _⟩ := D.form (by decide)
  exact ⟨A, c, rfl, S, hle⟩
theorem Calls.ints0 {f : FuncId} {args : Array Value} {w : World} {T : TypeId} {L : List Int} (e1 : L = []) (h : Calls Try.prog f args w fun e w' => ∃ v, e = .returned v ∧ Owd T w w' v L ∧ Le w w') : Calls Try.prog f args w fun e w' => ∃ A c, e = .returned (.slice A 0 c) ∧ Le w w' := by
  subst e1
  refine h.mono ?_
  rintro e w' ⟨v, rfl, D, hle⟩
  obtain ⟨A, c, rfl, S, _⟩ := D.form (by decide)
  exact ⟨A, c, rfl, hle⟩
set_option maxHeartbeats 4000000 in
set_option maxRecDepth 100000 in
theorem fnIsQuiet_walk (A : Option Addr) (n cap : Nat) (bs : List By) (w : World) (hR : Sl w A n cap bs) :
    Calls Try.prog 7 #[.slice A n cap] w fun e w' => e = .returned (.bool true) ∧ Le w w' := by
  have hm := hR.n_le
  by_cases hbig : 1048576 < n
  · go_enter Try.func7, Try.ntmps7
    go_wp2
    go_ret
    exact ⟨rfl, Le.refl w⟩
  go_enter Try.func7, Try.ntmps7
  go_wp2_with fail
  refine (drawIsQuiet_any A n cap bs w hR).mono ?_
  rintro e w1 ⟨B, D, m, c, q, d, xs, L, rfl, S, hm8, S2, hq8, L0⟩
  obtain rfl := S2.len
  clear hbig hm hR
  obtain ⟨qb, HQ⟩ : ∃ z, Hid (quI xs L = z) := ⟨_, Lib.hid rfl⟩
  go_wp2_with fail
  obtain ⟨ct, zt, hleB⟩ := box1 w1 (.slice B m c) 25
  replace S := S.le hleB
  replace L0 := L0.trans hleB
  replace S2 := S2.le hleB
  clear hleB
  generalize w1.alloc (.cells #[.slice B m c] 25) = W1 at *
  go_wp2_with fail
  refine (Calls.val (iIsQuiet_any B D m c _ d xs L W1 S S2) (by rw [HQ.out])).mono ?_
  rintro e w2 ⟨rfl, hle⟩
  replace ct := (hle.cell zt).trans ct
  replace zt := Nat.lt_of_lt_of_le zt hle.size
  replace S := S.le hle
  replace L0 := L0.trans hle
  replace S2 := S2.le hle
  clear hle
  go_wp2_with fail
  refine (Calls.val (sIsQuiet_any B D m c _ d xs L w2 S S2) (by rw [HQ.out])).mono ?_
  rintro e w3 ⟨rfl, hle⟩
  replace ct := (hle.cell zt).trans ct
  replace zt := Nat.lt_of_lt_of_le zt hle.size
  replace S := S.le hle
  replace L0 := L0.trans hle
  replace S2 := S2.le hle
  clear hle
  have hbb : (qb != qb) = false := by simp
  have hbe : (qb == qb) = true := by simp
  cases hv : vxs xs L
  · cases qb
    all_goals
      go_wp2_with fail
      refine (Calls.val (iValidExits_any B D m c _ d xs L w3 S S2) (by rw [hv])).mono ?_
      rintro e w4 ⟨rfl, hle⟩
      replace ct := (hle.cell zt).trans ct
      replace zt := Nat.lt_of_lt_of_le zt hle.size
      replace S := S.le hle
      replace L0 := L0.trans hle
      replace S2 := S2.le hle
      clear hle
      go_wp2_with fail
      refine (Calls.val (sIsQuiet_any B D m c _ d xs L w4 S S2) (by rw [HQ.out])).mono ?_
      rintro e w5 ⟨rfl, hle⟩
      replace L0 := L0.trans hle
      clear hle
      go_wp2
      go_ret
      exact ⟨rfl, L0⟩
  have hsm : L.length ≤ 1048576 := by omega
  cases qb
  all_goals
    go_wp2_with fail
    refine (Calls.val (iValidExits_any B D m c _ d xs L w3 S S2) (by rw [hv])).mono ?_
    rintro e w4 ⟨rfl, hle⟩
    replace ct := (hle.cell zt).trans ct
    replace zt := Nat.lt_of_lt_of_le zt hle.size
    replace S := S.le hle
    replace L0 := L0.trans hle
    replace S2 := S2.le hle
    clear hle
    have LA := Le.new w4 (.cells #[.int .i64 2, .int .i64 0, .int .i64 0] 42)
    have O1 := Sl.of_own (own_oneX w4 2 0 0 (Nat.le_refl _)) rfl (by decide) (fun x hx => by rw [List.mem_singleton] at hx; subst hx; exact xit_ok ⟨by omega, by omega, by omega, by omega, by omega, by omega⟩)
    have ct4 := ct
    replace ct := (LA.cell zt).trans ct
    replace zt := Nat.lt_of_lt_of_le zt LA.size
    replace S := S.le LA
    replace L0 := L0.trans LA
    replace S2 := S2.le LA
    clear LA
    cases hj : vxs xs ([⟨2, 0, 0⟩] ++ L)
  · have hjx : jxX xs [⟨2, 0, 0⟩] L = [] := by unfold jxX; rw [hj]; rfl
    go_wp2_with fail
    refine (Calls.jx (M := ([])) (b2 := false) hjx (by rw [hj]) (iJoinExits_any B _ D m c 1 1 _ d xs [⟨2, 0, 0⟩] L (by omega) hsm _ S O1 S2)).mono ?_
    rintro e w5 ⟨A3, c3, rfl, S3, hle⟩
    replace ct := (hle.cell zt).trans ct
    replace zt := Nat.lt_of_lt_of_le zt hle.size
    replace S := S.le hle
    replace L0 := L0.trans hle
    replace S2 := S2.le hle
    go_wp2
    go_ret
    exact ⟨rfl, L0⟩
  · have hjx : jxX xs [⟨2, 0, 0⟩] L = ⟨2, 0, 0⟩ :: L := by unfold jxX; rw [hj]; rfl
    have hqa : quI xs (⟨2, 0, 0⟩ :: L) = true := quiet_all hj
    go_wp2_with fail
    refine (Calls.jx (M := (⟨2, 0, 0⟩ :: L)) (b2 := true) hjx (by rw [hj]) (iJoinExits_any B _ D m c 1 1 _ d xs [⟨2, 0, 0⟩] L (by omega) hsm _ S O1 S2)).mono ?_
    rintro e w5 ⟨A3, c3, rfl, S3, hle⟩
    replace ct := (hle.cell zt).trans ct
    replace zt := Nat.lt_of_lt_of_le zt hle.size
    replace S := S.le hle
    replace L0 := L0.trans hle
    replace S2 := S2.le hle
    go_wp2_with fail
    refine (Calls.val (iIsQuiet_any B A3 m c _ c3 xs _ w5 S S3) (by rw [hqa])).mono ?_
    rintro e w7 ⟨rfl, hle⟩
    replace L0 := L0.trans hle
    clear hle
    go_wp2
    go_ret
    exact ⟨rfl, L0⟩
  · have hjx : jxX xs [⟨2, 0, 0⟩] L = [] := by unfold jxX; rw [hj]; rfl
    go_wp2_with fail
    refine (Calls.jx (M := ([])) (b2 := false) hjx (by rw [hj]) (iJoinExits_any B _ D m c 1 1 _ d xs [⟨2, 0, 0⟩] L (by omega) hsm _ S O1 S2)).mono ?_
    rintro e w5 ⟨A3, c3, rfl, S3, hle⟩
    replace ct := (hle.cell zt).trans ct
    replace zt := Nat.lt_of_lt_of_le zt hle.size
    replace S := S.le hle
    replace L0 := L0.trans hle
    replace S2 := S2.le hle
    go_wp2_with fail
    refine (Calls.ints0 (quiet_esc HQ.out) (iEscapesOfW_any B D m c _ d xs L w5 S S2)).mono ?_
    rintro e w6 ⟨A6, c6, rfl, hle⟩
    replace ct := (hle.cell zt).trans ct
    replace zt := Nat.lt_of_lt_of_le zt hle.size
    replace S := S.le hle
    replace L0 := L0.trans hle
    replace S3 := S3.le hle
    clear hle
    go_wp2
    go_ret
    exact ⟨rfl, L0⟩
  · have hjx : jxX xs [⟨2, 0, 0⟩] L = ⟨2, 0, 0⟩ :: L := by unfold jxX; rw [hj]; rfl
    have hqa : quI xs (⟨2, 0, 0⟩ :: L) = true := quiet_all hj
    go_wp2_with fail
    refine (Calls.jx (M := (⟨2, 0, 0⟩ :: L)) (b2 := true) hjx (by rw [hj]) (iJoinExits_any B _ D m c 1 1 _ d xs [⟨2, 0, 0⟩] L (by omega) hsm _ S O1 S2)).mono ?_
    rintro e w5 ⟨A3, c3, rfl, S3, hle⟩
    replace ct := (hle.cell zt).trans ct
    replace zt := Nat.lt_of_lt_of_le zt hle.size
    replace S := S.le hle
    replace L0 := L0.trans hle
    replace S2 := S2.le hle
    go_wp2_with fail
    refine (Calls.ints0 (quiet_esc HQ.out) (iEscapesOfW_any B D m c _ d xs L w5 S S2)).mono ?_
    rintro e w6 ⟨A6, c6, rfl, hle⟩
    replace ct := (hle.cell zt).trans ct
    replace zt := Nat.lt_of_lt_of_le zt hle.size
    replace S := S.le hle
    replace L0 := L0.trans hle
    replace S3 := S3.le hle
    clear hle
    go_wp2_with fail
    refine (Calls.val (iIsQuiet_any B A3 m c _ c3 xs _ w6 S S3) (by rw [hqa])).mono ?_
    rintro e w7 ⟨rfl, hle⟩
    replace L0 := L0.trans hle
    clear hle
    go_wp2
    go_ret
    exact ⟨rfl, L0⟩
end

section
namespace Chn
theorem Is.map {nx jx φ : Int → Int} {n : Nat} {f : Int} {L : List Int} (h : Is nx f L) (hr : ∀ x ∈ L, x < n) (hi : ∀ x y : Int, φ x = φ y → x = y) (hp : ∀ x : Int, 0 ≤ x → 0 ≤ φ x)
    (hn : ∀ x : Int, 0 ≤ x → x < n → nx x < 0 → jx (φ x) < 0) (hs : ∀ x : Int, 0 ≤ x → x < n → 0 ≤ nx x → jx (φ x) = φ (nx x)) : Is jx (φ f) (L.map φ) := by
  refine ⟨?_, ?_, ?_, ?_, ?_, ?_⟩
  · rw [List.Nodup, List.pairwise_map]
    exact h.nd.imp (fun hab e => hab (hi _ _ e))
  · intro x hx
    obtain ⟨y, hy, rfl⟩ := List.mem_map.1 hx
    exact hp y (h.pos y hy)
  · intro e; exact h.ne (List.map_eq_nil_iff.1 e)
  · rw [List.head?_map, h.hd]; rfl
  · intro k hk
    rw [List.length_map] at hk
    rw [List.getElem_map, List.getElem_map]
    have h1 := h.st k hk
    have h2 := h.pos _ (List.getElem_mem hk)
    rw [h1] at h2 ⊢
    exact (hs _ (h.pos _ (List.getElem_mem _)) (hr _ (List.getElem_mem _)) h2).symm
  · intro x hx
    rw [List.getLast?_map] at hx
    cases hl : L.getLast? with
    | none => rw [hl] at hx; cases hx
    | some y =>
      rw [hl] at hx
      injection hx with hx
      subst hx
      have hm := List.mem_of_getLast? hl
      rcases h.en y hl with h1 | h1
      · exact .inl (hn y (h.pos y hm) (hr y hm) h1)
      · right
        rw [hs y (h.pos y hm) (hr y hm) (h.pos _ h1)]
        exact List.mem_map_of_mem h1
theorem Is.rng {nx : Int → Int} {n : Nat} {f : Int} {L : List Int} (h : Is nx f L) (h1 : f < n) (hb : ∀ x : Int, 0 ≤ x → x < n → nx x < n) : ∀ x ∈ L, x < n := by
  intro x hx
  obtain ⟨k, hk, rfl⟩ := List.getElem_of_mem hx
  have : ∀ k (hk : k < L.length), L[k] < n := by
    intro k
    induction k with
    | zero =>
      intro hk
      have a := h.hd
      rw [List.head?_eq_getElem?, List.getElem?_eq_getElem hk] at a
      injection a with a; omega
    | succ k ih =>
      intro hk
      rw [h.st k hk]
      exact hb _ (h.pos _ (List.getElem_mem _)) (ih (by omega))
  exact this k hk
/-- where chains end, what is carried along ends, too -/
theorem end_map {nx jx φ : Int → Int} {n : Nat} {f : Int} (hE : allEnd nx n) (h0 : 0 ≤ f) (h1 : f < n) (hb : ∀ x : Int, 0 ≤ x → x < n → nx x < n) (hi : ∀ x y : Int, φ x = φ y → x = y) (hp : ∀ x : Int, 0 ≤ x → 0 ≤ φ x)
    (hn : ∀ x : Int, 0 ≤ x → x < n → nx x < 0 → jx (φ x) < 0) (hs : ∀ x : Int, 0 ≤ x → x < n → 0 ≤ nx x → jx (φ x) = φ (nx x)) {M : List Int} (hM : Is jx (φ f) M) {x : Int} (hx : M.getLast? = some x) : jx x < 0 := by
  have hc := chain_is (nx := nx) (n := n) hb h0 h1
  have hr := hc.rng h1 hb
  have hm := hc.map (jx := jx) (φ := φ) hr hi hp hn hs
  rw [hM.uniq hm, List.getLast?_map] at hx
  cases hl : (chainN nx n f).getLast? with
  | none => rw [hl] at hx; cases hx
  | some y =>
    rw [hl] at hx
    injection hx with hx
    subst hx
    have hy := List.mem_of_getLast? hl
    exact hn y (hc.pos y hy) (hr y hy) (hE f h0 h1 _ hc y hl)
end Chn

/-- a fault that comes behind n others -/
def shl (n : Nat) (x : Int) : Int := if x < 0 then x else x + n
def shF (n : Nat) (x : Flt) : Flt := ⟨x.cls, x.code, shl n x.cause, shl n x.ctx, x.hide⟩
def joinL (hs ks : List Flt) : List Flt := hs ++ ks.map (shF hs.length)
theorem joinL_len (hs ks : List Flt) : (joinL hs ks).length = hs.length + ks.length := by unfold joinL; simp
theorem joinL_left {hs ks : List Flt} {i : Nat} (hi : i < (joinL hs ks).length) (hc : i < hs.length) : (joinL hs ks)[i] = hs[i] := List.getElem_append_left hc
theorem joinL_right {hs ks : List Flt} {i : Nat} (hi : i < (joinL hs ks).length) (hc : ¬ i < hs.length) (hk : i - hs.length < ks.length) : (joinL hs ks)[i] = shF hs.length ks[i - hs.length] := by
  have h : (joinL hs ks)[i] = (ks.map (shF hs.length))[i - hs.length]'(by simpa using hk) := List.getElem_append_right (by omega)
  rw [h, List.getElem_map]
theorem ctx_left {hs ks : List Flt} {x : Int} (h0 : 0 ≤ x) (h1 : x < hs.length) : ctxOf (joinL hs ks) x = ctxOf hs x := by
  obtain ⟨i, rfl⟩ := Int.eq_ofNat_of_zero_le h0
  rw [ctxOf_at (by rw [joinL_len]; omega), ctxOf_at (by omega), joinL_left _ (by omega)]
theorem ctx_right {hs ks : List Flt} {x : Int} (h0 : 0 ≤ x) (h1 : x < ks.length) : ctxOf (joinL hs ks) (x + hs.length) = shl hs.length (ctxOf ks x) := by
  obtain ⟨i, rfl⟩ := Int.eq_ofNat_of_zero_le h0
  have e : ((i : Int) + (hs.length : Int)) = ((i + hs.length : Nat) : Int) := by omega
  rw [e, ctxOf_at (by rw [joinL_len]; omega), ctxOf_at (by omega), joinL_right _ (by omega) (by omega)]
  simp [shF]
theorem fOk_parts {xs : List Cls} {n : Nat} {k : Int} {x : Flt} : fOk xs n k x = true ↔ hasK xs x.cls = true ∧ (0 ≤ x.code ∧ x.code ≤ 99) ∧ (-1 ≤ x.cause ∧ x.cause ≤ (n : Int) - 1) ∧ (-1 ≤ x.ctx ∧ x.ctx ≤ (n : Int) - 1) ∧ x.cause ≠ k ∧ x.ctx ≠ k := by
  unfold fOk linksOk
  simp only [Bool.and_eq_true, rng_iff, bne_iff_ne]
  constructor
  · rintro ⟨⟨h1, h2⟩, ⟨⟨h3, h4⟩, h5⟩, h6⟩; exact ⟨h1, h2, h3, h4, h5, h6⟩
  · rintro ⟨h1, h2, h3, h4, h5, h6⟩; exact ⟨⟨h1, h2⟩, ⟨⟨h3, h4⟩, h5⟩, h6⟩
theorem okHeap_fall {xs : List Cls} {hs : List Flt} (h : okHeap xs hs = true) : allF xs hs.length 0 hs = true ∧ endsF hs 0 hs.length = true ∧ okTree xs = true ∧ hs.length ≤ 24 := by
  unfold okHeap at h
  simp only [Bool.and_eq_true, decide_eq_true_eq] at h
  exact ⟨h.1.1.1, h.1.1.2, h.1.2, h.2⟩
theorem okHeap_mk {xs : List Cls} {hs : List Flt} (h1 : ∀ i (h : i < hs.length), fOk xs hs.length (i : Int) hs[i] = true) (h2 : Lnk hs → Chn.allEnd (ctxOf hs) hs.length) (h3 : okTree xs = true) (h4 : hs.length ≤ 24) : okHeap xs hs = true := by
  have ha := allF_mk (xs := xs) (n := hs.length) h1 hs.length 0 (by omega)
  rw [List.drop_zero] at ha
  have hl := lnk_of ha
  unfold okHeap
  rw [ha, (ends_iff hl).2 (h2 hl), h3, decide_eq_true h4]; rfl
theorem okHeap_at {xs : List Cls} {hs : List Flt} (h : okHeap xs hs = true) (i : Nat) (hi : i < hs.length) : fOk xs hs.length (i : Int) hs[i] = true :=
  allF_mem (hs := hs) hs.length 0 (by omega) (by simpa using (okHeap_fall h).1) i hi (Nat.zero_le _)
theorem join_ok {xs : List Cls} {hs ks : List Flt} (h : okHeap xs hs = true) (k : okHeap xs ks = true) : okHeap xs (joinL hs ks) = decide (hs.length + ks.length ≤ 24) := by
  by_cases hl : hs.length + ks.length ≤ 24
  · rw [decide_eq_true hl]
    have gh := goodH_of h
    have gk := goodH_of k
    refine okHeap_mk (fun i hi => ?_) (fun _ => ?_) (okHeap_fall h).2.2.1 (by rw [joinL_len]; exact hl)
    · have hi2 := hi
      rw [joinL_len] at hi2
      rw [fOk_parts, joinL_len]
      by_cases hc : i < hs.length
      · have := fOk_parts.1 (okHeap_at h i hc)
        rw [joinL_left _ hc]
        exact ⟨this.1, this.2.1, by omega, by omega, this.2.2.2.2.1, this.2.2.2.2.2⟩
      · have := fOk_parts.1 (okHeap_at k (i - hs.length) (by omega))
        rw [joinL_right _ hc (by omega)]
        generalize ks[i - hs.length]'(by omega) = x at *
        obtain ⟨a1, a2, a3, a4, a5, a6⟩ := this
        refine ⟨a1, a2, ?_, ?_, ?_, ?_⟩
        all_goals (simp only [shF, shl]; split <;> omega)
    · rw [joinL_len]
      intro f h0 h1 M hM x hx
      by_cases hc : f < hs.length
      · refine Chn.end_map (nx := ctxOf hs) (φ := id) gh.fin h0 hc gh.lnk.ctxlt (fun _ _ e => e) (fun _ e => e) (fun x h0 h1 hn => ?_) (fun x h0 h1 _ => ?_) hM hx
        · show ctxOf _ x < 0; rw [ctx_left h0 h1]; exact hn
        · exact ctx_left h0 h1
      · have e : f = (f - hs.length) + hs.length := by omega
        rw [e] at hM
        refine Chn.end_map (nx := ctxOf ks) (φ := fun x => x + hs.length) (f := f - hs.length) gk.fin (by omega) (by omega) gk.lnk.ctxlt (fun x y e => by simp at e; omega) (fun x e => by show 0 ≤ x + (hs.length : Int); omega) (fun x h0 h1 hn => ?_) (fun x h0 h1 hn => ?_) hM hx
        · show ctxOf _ (x + hs.length) < 0; rw [ctx_right h0 h1]; unfold shl; rw [if_pos hn]; exact hn
        · show ctxOf _ (x + hs.length) = _; rw [ctx_right h0 h1]; unfold shl; rw [if_neg (by omega)]
  · rw [decide_eq_false hl]
    cases hj : okHeap xs (joinL hs ks)
    · rfl
    · have := (okHeap_fall hj).2.2.2; rw [joinL_len] at this; omega
end

section
theorem reach_rng {hs : List Flt} {f x : Int} (h : x ∈ reachL hs f) : 0 ≤ x ∧ x < hs.length := by
  unfold reachL at h
  have := ascOf_mem.1 h
  exact ⟨this.1, this.2.1⟩
theorem idx_none : ∀ (L : List Int) (x k : Int), x ∉ L → idx L x k = -1
  | [], _, _, _ => rfl
  | y :: r, x, k, h => by
    rw [idx, if_neg (fun e => h (by rw [e]; simp)), idx_none r x (k + 1) (fun m => h (List.mem_cons_of_mem _ m))]
theorem idx_get : ∀ (L : List Int), L.Nodup → ∀ (i : Nat) (h : i < L.length) (k : Int), idx L L[i] k = k + i
  | y :: r, nd, 0, h, k => by simp [idx]
  | y :: r, nd, i + 1, h, k => by
    have h' : i < r.length := by simpa using h
    have e : (y :: r)[i + 1] = r[i] := rfl
    have ne : ¬ y = r[i] := fun e2 => (List.nodup_cons.1 nd).1 (by rw [e2]; exact List.getElem_mem _)
    rw [e, idx, if_neg ne, idx_get r (List.nodup_cons.1 nd).2 i h' (k + 1)]
    omega
/-- faults from which no link leads away -/
structure Clo (hs : List Flt) (R : List Int) : Prop where
  nd : R.Nodup
  rng : ∀ x ∈ R, 0 ≤ x ∧ x < hs.length
  cau : ∀ x ∈ R, 0 ≤ cauOf hs x → cauOf hs x ∈ R
  ctx : ∀ x ∈ R, 0 ≤ ctxOf hs x → ctxOf hs x ∈ R
theorem clo_reach {hs : List Flt} (lk : Lnk hs) {f : Int} (h0 : 0 ≤ f) (h1 : f < hs.length) : Clo hs (reachL hs f) := by
  refine ⟨(reachL_asc hs f).imp (fun h e => by omega), fun x hx => reach_rng hx, fun x hx hc => ?_, fun x hx hc => ?_⟩
  · exact (reachL_mem lk h0 h1 _).2 (.one ((reachL_mem lk h0 h1 _).1 hx) hc)
  · exact (reachL_mem lk h0 h1 _).2 (.two ((reachL_mem lk h0 h1 _).1 hx) hc)
theorem iso_len (hs : List Flt) (R : List Int) : (isoL hs R).length = R.length := by unfold isoL; simp
theorem iso_at {hs : List Flt} {R : List Int} (c : Clo hs R) {k : Nat} (hk : k < R.length) (h : k < (isoL hs R).length) :
    ∃ i : Nat, ∃ hi : i < hs.length, R[k] = (i : Int) ∧ (isoL hs R)[k] = ⟨hs[i].cls, hs[i].code, idx R hs[i].cause 0, idx R hs[i].ctx 0, hs[i].hide⟩ := by
  have hr := c.rng _ (List.getElem_mem hk)
  obtain ⟨i, e⟩ := Int.eq_ofNat_of_zero_le hr.1
  have hi : i < hs.length := by omega
  refine ⟨i, hi, e, ?_⟩
  have : (isoL hs R)[k] = isoF hs R R[k] := List.getElem_map (f := isoF hs R) (l := R)
  rw [this, e, isoF_at hi]
/-- from the place in what is isolated to the fault that lies there -/
def upR (R : List Int) (n : Nat) (x : Int) : Int := if x < 0 then x else R[x.toNat]?.getD (n + x)
theorem upR_at {R : List Int} {k : Nat} (h : k < R.length) (n : Nat) : upR R n (k : Int) = R[k] := by
  unfold upR
  rw [if_neg (by omega), Int.toNat_natCast, List.getElem?_eq_getElem h]; rfl
theorem upR_out {R : List Int} {k : Nat} (h : ¬ k < R.length) (n : Nat) : upR R n (k : Int) = n + k := by
  unfold upR
  rw [if_neg (by omega), Int.toNat_natCast, List.getElem?_eq_none (by omega)]; rfl
theorem upR_inj {hs : List Flt} {R : List Int} (c : Clo hs R) (x y : Int) (e : upR R hs.length x = upR R hs.length y) : x = y := by
  have key : ∀ x : Int, (x < 0 ∧ upR R hs.length x = x) ∨ (∃ k : Nat, ∃ h : k < R.length, x = k ∧ upR R hs.length x = R[k] ∧ 0 ≤ R[k] ∧ R[k] < hs.length) ∨ (∃ k : Nat, x = k ∧ upR R hs.length x = hs.length + k) := by
    intro x
    rcases Int.lt_or_le x 0 with h | h
    · left; exact ⟨h, by unfold upR; rw [if_pos h]⟩
    · right
      obtain ⟨k, rfl⟩ := Int.eq_ofNat_of_zero_le h
      by_cases hk : k < R.length
      · left; have := c.rng _ (List.getElem_mem hk); exact ⟨k, hk, rfl, upR_at hk _, this.1, this.2⟩
      · right; exact ⟨k, rfl, upR_out hk _⟩
  rcases key x with ⟨hx, ex⟩ | ⟨k, hk, rfl, ex, ek, el⟩ | ⟨k, rfl, ex⟩ <;> rcases key y with ⟨hy, ey⟩ | ⟨l, hl, rfl, ey, ek2, el2⟩ | ⟨l, rfl, ey⟩ <;> rw [ex, ey] at e
  any_goals omega
  have := Chn.nd_inj c.nd hk hl e
  omega
theorem upR_pos {hs : List Flt} {R : List Int} (c : Clo hs R) (x : Int) (h : 0 ≤ x) : 0 ≤ upR R hs.length x := by
  obtain ⟨k, rfl⟩ := Int.eq_ofNat_of_zero_le h
  by_cases hk : k < R.length
  · rw [upR_at hk]; exact (c.rng _ (List.getElem_mem hk)).1
  · rw [upR_out hk]; omega
/-- a link, as the place of what it leads to -/
theorem idx_lnk {hs : List Flt} {R : List Int} (c : Clo hs R) {x : Int} (h : 0 ≤ x → x ∈ R) : (x < 0 → idx R x 0 = -1) ∧ (0 ≤ x → ∃ k : Nat, ∃ hk : k < R.length, R[k] = x ∧ idx R x 0 = k ∧ upR R hs.length (idx R x 0) = x) := by
  refine ⟨fun hn => idx_none _ _ _ (fun hm => by have := (c.rng x hm).1; omega), fun h0 => ?_⟩
  obtain ⟨k, hk, rfl⟩ := List.getElem_of_mem (h h0)
  have e : idx R R[k] 0 = (k : Int) := by rw [idx_get R c.nd k hk 0]; omega
  exact ⟨k, hk, rfl, e, by rw [e, upR_at hk]⟩
theorem lnk_mem {hs : List Flt} {R : List Int} (c : Clo hs R) {i : Nat} (hi : i < hs.length) (h : (i : Int) ∈ R) : (0 ≤ hs[i].cause → hs[i].cause ∈ R) ∧ (0 ≤ hs[i].ctx → hs[i].ctx ∈ R) := by
  have a := c.cau _ h
  have b := c.ctx _ h
  rw [cauOf_at hi] at a
  rw [ctxOf_at hi] at b
  exact ⟨a, b⟩
theorem iso_ctx {hs : List Flt} {R : List Int} (c : Clo hs R) {k : Nat} (hk : k < R.length) : ctxOf (isoL hs R) (k : Int) = idx R (ctxOf hs R[k]) 0 := by
  have h : k < (isoL hs R).length := by rw [iso_len]; exact hk
  obtain ⟨i, hi, e, e2⟩ := iso_at c hk h
  rw [ctxOf_at h, e2, e, ctxOf_at hi]
/-- a step in what is isolated is a step in the heap -/
structure StepUp (hs : List Flt) (R : List Int) (nx jx : Int → Int) : Prop where
  at_ : ∀ k (hk : k < R.length), nx (k : Int) = idx R (jx R[k]) 0
  in_ : ∀ x ∈ R, 0 ≤ jx x → jx x ∈ R
theorem StepUp.neg {hs : List Flt} {R : List Int} {nx jx : Int → Int} (c : Clo hs R) (s : StepUp hs R nx jx) (x : Int) (h0 : 0 ≤ x) (h1 : x < R.length) (hn : nx x < 0) : jx (upR R hs.length x) < 0 := by
  obtain ⟨k, rfl⟩ := Int.eq_ofNat_of_zero_le h0
  have hk : k < R.length := by omega
  rw [s.at_ k hk] at hn
  rw [upR_at hk]
  rcases Int.lt_or_le (jx R[k]) 0 with h | h
  · exact h
  · obtain ⟨l, _, _, e, _⟩ := (idx_lnk c (s.in_ _ (List.getElem_mem hk))).2 h
    omega
theorem StepUp.pos {hs : List Flt} {R : List Int} {nx jx : Int → Int} (c : Clo hs R) (s : StepUp hs R nx jx) (x : Int) (h0 : 0 ≤ x) (h1 : x < R.length) (hn : 0 ≤ nx x) : jx (upR R hs.length x) = upR R hs.length (nx x) := by
  obtain ⟨k, rfl⟩ := Int.eq_ofNat_of_zero_le h0
  have hk : k < R.length := by omega
  rw [s.at_ k hk] at hn ⊢
  rw [upR_at hk]
  have a := idx_lnk c (s.in_ _ (List.getElem_mem hk))
  rcases Int.lt_or_le (jx R[k]) 0 with h | h
  · have := a.1 h; omega
  · obtain ⟨l, _, _, _, e⟩ := a.2 h
    exact e.symm
theorem StepUp.lt {hs : List Flt} {R : List Int} {nx jx : Int → Int} (c : Clo hs R) (s : StepUp hs R nx jx) (x : Int) (h0 : 0 ≤ x) (h1 : x < R.length) : nx x < R.length := by
  obtain ⟨k, rfl⟩ := Int.eq_ofNat_of_zero_le h0
  have hk : k < R.length := by omega
  rw [s.at_ k hk]
  have a := idx_lnk c (s.in_ _ (List.getElem_mem hk))
  rcases Int.lt_or_le (jx R[k]) 0 with h | h
  · have := a.1 h; omega
  · obtain ⟨l, hl, _, e, _⟩ := a.2 h
    omega
theorem StepUp.is {hs : List Flt} {R : List Int} {nx jx : Int → Int} (c : Clo hs R) (s : StepUp hs R nx jx) {g : Int} {L : List Int} (h1 : g < R.length) (h : Chn.Is nx g L) : Chn.Is jx (upR R hs.length g) (L.map (upR R hs.length)) :=
  h.map (h.rng h1 (s.lt c)) (upR_inj c) (upR_pos c) (fun x a b d => s.neg c x a b d) (fun x a b d => s.pos c x a b d)
theorem su_ctx {hs : List Flt} {R : List Int} (c : Clo hs R) : StepUp hs R (ctxOf (isoL hs R)) (ctxOf hs) := ⟨fun _ hk => iso_ctx c hk, c.ctx⟩
/-- what is isolated is valid -/
theorem ok_iso {xs : List Cls} {hs : List Flt} {R : List Int} (h : okHeap xs hs = true) (c : Clo hs R) : okHeap xs (isoL hs R) = true := by
  have gh := goodH_of h
  have hlen : R.length ≤ hs.length := Chn.nodup_bound hs.length R c.nd c.rng
  refine okHeap_mk (fun k hk => ?_) (fun _ => ?_) (okHeap_fall h).2.2.1 (by rw [iso_len]; have := gh.few; omega)
  · have hk2 : k < R.length := by rw [iso_len] at hk; exact hk
    obtain ⟨i, hi, e, e2⟩ := iso_at c hk2 hk
    have hm : (i : Int) ∈ R := by rw [← e]; exact List.getElem_mem hk2
    have hl := lnk_mem c hi hm
    have a := fOk_parts.1 (okHeap_at h i hi)
    rw [e2, fOk_parts, iso_len]
    have b1 := idx_lnk c hl.1
    have b2 := idx_lnk c hl.2
    have key : ∀ x : Int, (x < 0 → idx R x 0 = -1) ∧ (0 ≤ x → ∃ k : Nat, ∃ hk : k < R.length, R[k] = x ∧ idx R x 0 = k ∧ upR R hs.length (idx R x 0) = x) → x ≠ (i : Int) → (-1 ≤ idx R x 0 ∧ idx R x 0 ≤ (R.length : Int) - 1) ∧ idx R x 0 ≠ (k : Int) := by
      intro x hx hne
      rcases Int.lt_or_le x 0 with h | h
      · rw [hx.1 h]; omega
      · obtain ⟨l, hl, el, e3, _⟩ := hx.2 h
        rw [e3]
        refine ⟨by omega, fun e4 => hne ?_⟩
        have : l = k := by omega
        subst this
        rw [← el, e]
    have k1 := key _ b1 a.2.2.2.2.1
    have k2 := key _ b2 a.2.2.2.2.2
    exact ⟨a.1, a.2.1, k1.1, k2.1, k1.2, k2.2⟩
  · rw [iso_len]
    intro g h0 h1 L hL x hx
    have s := su_ctx c
    have hM := s.is c h1 hL
    have hxm := List.mem_of_getLast? hx
    have hx0 := hL.pos x hxm
    have hx1 := hL.rng h1 (s.lt c) x hxm
    have hlast : (L.map (upR R hs.length)).getLast? = some (upR R hs.length x) := by rw [List.getLast?_map, hx]; rfl
    have hg : 0 ≤ upR R hs.length g ∧ upR R hs.length g < hs.length := by
      obtain ⟨k, rfl⟩ := Int.eq_ofNat_of_zero_le h0
      rw [upR_at (by omega)]; exact c.rng _ (List.getElem_mem _)
    have := gh.fin _ hg.1 hg.2 _ hM _ hlast
    rcases Int.lt_or_le (ctxOf (isoL hs R) x) 0 with h | h
    · exact h
    · rw [s.pos c x hx0 hx1 h] at this
      have := upR_pos c _ h
      omega
end
end Go.Proofs.Ytonpgohigncjeaa
