/- the law FnBelowOf -/
import Derived.Test.YtdookbcnodghnaaFAboveOf
import Derived.Test.YtdookbcnodghnaaPB
import Derived.Test.YtdookbcnodghnaaY
import Derived.Test.YtdookbcnodghnaaZ
namespace Go.Proofs.Ytdookbcnodghnaa
open Go.RowKit

theorem below_of {xs : List Cls} (ho : okTree xs = true) {a : Int} (h : 0 ≤ a ∧ a < xs.length) (L : List Int) (e : L = belowK xs a xs.length) :
    L.Pairwise (· < ·) ∧ 0 < L.length ∧ (∀ h0 : 0 < L.length, L[0] = a) ∧ (∀ x ∈ L, ∀ d ∈ belowX xs x, hasI L d = true) ∧ (belowX xs 0).length = xs.length := by
  subst e
  have g := good_of ho
  have hm : a ∈ belowK xs a xs.length := belowK_mem.2 ⟨h.1, h.2, isAL_self h.1⟩
  refine ⟨belowK_asc _ _ _, List.length_pos_of_mem hm, fun h0 => belowK_first g h.1 h.2 h0, fun x hx d hd => ?_, ?_⟩
  · rw [hasI_iff]
    have hx2 := belowK_mem.1 hx
    rw [belowX_of (b := true) (by rw [ho, hasK_iff.2 ⟨hx2.1, hx2.2.1⟩]; rfl)] at hd
    exact belowK_below g hx hd
  · rw [belowX_of (b := true) (by rw [ho, hasK_iff.2 ⟨Int.le_refl 0, by have := g.lo; omega⟩]; rfl)]
    exact belowK_root g

set_option maxHeartbeats 4000000 in
set_option maxRecDepth 100000 in
theorem fnBelowOf_walk (A : Option Addr) (n cap : Nat) (bs : List By) (w : World) (hR : Sl w A n cap bs) :
    Calls Try.prog 6 #[.slice A n cap] w fun e w' => e = .returned (.bool true) ∧ Le w w' := by
  have hm := hR.n_le
  by_cases hbig : 1048576 < n
  · go_enter Try.func6, Try.ntmps6
    go_wp2
    go_ret
    exact ⟨rfl, Le.refl w⟩
  go_enter Try.func6, Try.ntmps6
  go_wp2_with fail
  refine (drawBelowOf_any A n cap bs w hR).mono ?_
  rintro e w1 ⟨B, m, c, xs, a, rfl, S, hm8, _, ha, L0⟩
  go_wp2_with fail
  obtain ⟨ct, zt, hleB⟩ := box1 w1 (.slice B m c) 25
  replace S := S.le hleB
  replace L0 := L0.trans hleB
  clear hleB
  generalize w1.alloc (.cells #[.slice B m c] 25) = W1 at *
  have hal := belowX_len xs a
  have hcase : (okTree xs && hasK xs a) = true ∨ belowX xs a = [] := by
    cases h : okTree xs && hasK xs a
    · right; rw [belowX_of h]; rfl
    · left; rfl
  have hQ := sBelowOf_any B m c xs a
  have hI := iBelowOf_any B m c xs a
  rcases hcase with hgood | hnil
  · have hX := belowX_of hgood
    have hab : okTree xs = true ∧ hasK xs a = true := by simpa using hgood
    have hka := hasK_iff.1 hab.2
    obtain ⟨hasc, hl1, hh0, hbel, hall⟩ := below_of hab.1 hka _ hX
    clear hgood hab hX
    generalize belowX xs a = L at *
    have hl0 : ((L.length : Int) == 0) = false := by rw [beq_eq_false_iff_ne]; omega
    have HB := Lib.hid hbel
    have HA := Lib.hid hasc
    have HALL := Lib.hid hall
    have HQ := Lib.hid hQ
    have HI := Lib.hid hI
    have H0 := Lib.hid (hh0 hl1)
    clear hasc hbel hall hQ hI hh0
    go_wp2_with fail
    refine (Calls.ints (HI.out W1 S)).mono ?_
    rintro e w2 ⟨A2, c2, rfl, S2, hle⟩
    replace ct := (hle.cell zt).trans ct
    replace zt := Nat.lt_of_lt_of_le zt hle.size
    replace S := S.le hle
    replace L0 := L0.trans hle
    clear hle
    go_wp2_with fail
    refine (Calls.ints (HQ.out w2 S)).mono ?_
    rintro e w3 ⟨A3, c3, rfl, S3, hle⟩
    replace ct := (hle.cell zt).trans ct
    replace zt := Nat.lt_of_lt_of_le zt hle.size
    replace S := S.le hle
    replace L0 := L0.trans hle
    replace S2 := S2.le hle
    clear hle
    go_wp2_with fail
    refine (equalInts_self A2 A3 _ c2 c3 L w3 S2 S3).mono ?_
    rintro e w4 ⟨rfl, hle⟩
    replace ct := (hle.cell zt).trans ct
    replace zt := Nat.lt_of_lt_of_le zt hle.size
    replace S := S.le hle
    replace L0 := L0.trans hle
    replace S2 := S2.le hle
    clear hle
    clear S3
    go_wp2
    go_loopw [6] (fun i wr => ∃ k : Nat, i = .int .i64 k ∧ Le w4 wr) (fun i _ => L.length - (intOf i).toNat)
    case atStart => exact ⟨0, rfl, Le.refl _⟩
    case round =>
      obtain ⟨k, rfl, LW⟩ := hrel
      replace ct := (LW.cell zt).trans ct
      replace zt := Nat.lt_of_lt_of_le zt LW.size
      replace S := S.le LW
      replace L0 := L0.trans LW
      replace S2 := S2.le LW
      by_cases hlt : k < L.length
      · obtain ⟨b, off, rfl, hb, hcell, _, _⟩ := S2.int_at hlt
        have hbe := HB.out _ (List.getElem_mem hlt)
        generalize L[k] = x at *
        have HBE := Lib.hid hbe
        have hlx := belowX_len xs x
        clear hbe
        replace S := S.le (Le.refl _).drew
        replace S2 := S2.le (Le.refl _).drew
        replace L0 := L0.drew
        replace LW := LW.drew
        have ctd : wr.drew.cell? ⟨w1.heap.size, 0, none⟩ = some (.slice B m c) := ct
        have hcd : wr.drew.cell? ⟨b, off + k, none⟩ = some (.int .i64 x) := hcell
        have hsd : wr.drew.heap.size = wr.heap.size := rfl
        have HSD := Lib.hid hsd; clear hsd
        have hkl : (k : Int) < L.length := by omega
        go_wp2_with fail
        go_region_held3 (fun w' => w'.cell? ⟨w1.heap.size, 0, none⟩ = some (.slice B m c) ∧ w'.cell? ⟨b, off + k, none⟩ = some (.int .i64 x))
          (first | exact ⟨ctd, hcd⟩ | exact ⟨ct5, hc5⟩)
          (first
          | (go_at_call 23; refine (Calls.ints (iBelowOf_any B m c xs x _ S)).mono ?_; rintro e w5 ⟨A5, c5, rfl, S5, hle⟩; have ct5 := (hle.cell (b := w1.heap.size) (o := 0) (by have := HSD.out; omega)).trans ctd; have hc5 := (hle.cell (b := b) (o := off + k) (by have := HSD.out; omega)).trans hcd; have z5 : w1.heap.size < w5.heap.size := Nat.lt_of_lt_of_le (by have := HSD.out; omega) hle.size; replace S := S.le hle; replace S2 := S2.le hle; replace L0 := L0.trans hle; replace LW := LW.trans hle))
        clear ct zt hle hcell
        go_wp2
        go_loopw [8] (fun i wq => ∃ j : Nat, i = .int .i64 j ∧ Le w5 wq) (fun i _ => (belowX xs x).length - (intOf i).toNat)
        case atStart => exact ⟨0, rfl, Le.refl _⟩
        case round =>
          rename_i wq0
          obtain ⟨j, rfl, LQ⟩ := hrel
          replace ct5 := (LQ.cell z5).trans ct5
          replace z5 := Nat.lt_of_lt_of_le z5 LQ.size
          replace S := S.le LQ
          replace S2 := S2.le LQ
          replace L0 := L0.trans LQ
          replace LW := LW.trans LQ
          replace S5 := S5.le LQ
          by_cases hlj : j < (belowX xs x).length
          · obtain ⟨bj, oj, rfl, hbj, hcj, _, _⟩ := S5.int_at hlj
            have hq := HBE.out _ (List.getElem_mem hlj)
            generalize (belowX xs x)[j] = d at *
            have hjl : (j : Int) < (belowX xs x).length := by omega
            go_wp2_with fail
            refine (isIn_any _ _ c2 L d _ S2).mono ?_
            rintro e w6 ⟨rfl, rfl⟩
            rw [hq]
            go_wp2
            go_roundw
            case rel => exact ⟨j + 1, by go_num, LQ⟩
            case measure => simp [intOf]; omega
          · have hjl : ¬ (j : Int) < (belowX xs x).length := by omega
            go_wp2
            go_roundw
            case rel => exact ⟨k + 1, by go_num, LW⟩
            case measure => simp [intOf]; omega
      · have hkl : ¬ (k : Int) < L.length := by omega
        obtain ⟨b, off, rfl, hb, hcell, _, _⟩ := S2.int_at hl1
        rw [H0.out] at hcell
        rw [Nat.add_zero] at hcell
        have hlx := belowX_len xs 0
        have hsl := S.len
        have haa : (a == a) = true := by simp
        have hq0 : (0 : Int) < L.length := by omega
        have hll : (((belowX xs 0).length : Int) == (m : Int)) = true := by rw [HALL.out, hsl]; simp
        replace S := S.le (Le.refl _).drew
        replace S2 := S2.le (Le.refl _).drew
        replace L0 := L0.drew
        have ctd : wr.drew.cell? ⟨w1.heap.size, 0, none⟩ = some (.slice B m c) := ct
        have hcd : wr.drew.cell? ⟨b, off, none⟩ = some (.int .i64 a) := hcell
        have hsd : wr.drew.heap.size = wr.heap.size := rfl
        have HSD := Lib.hid hsd; clear hsd
        clear LW
        go_wp2_with fail
        go_region_held3 (fun w' => w'.cell? ⟨w1.heap.size, 0, none⟩ = some (.slice B m c) ∧ w'.cell? ⟨b, off, none⟩ = some (.int .i64 a))
          (first | exact ⟨ctd, hcd⟩ | exact ⟨ct5, hc5⟩ | exact ⟨ct6, hc6⟩)
          (first
          | (go_at_call 30; refine (ascends_any _ _ c2 L _ S2 HA.out).mono ?_; rintro e w5 ⟨rfl, hle⟩; have ct5 := (hle.cell (b := w1.heap.size) (o := 0) (by have := HSD.out; omega)).trans ctd; have hc5 := (hle.cell (b := b) (o := off) (by have := HSD.out; omega)).trans hcd; have z5 : w1.heap.size < w5.heap.size ∧ b < w5.heap.size := ⟨Nat.lt_of_lt_of_le (by have := HSD.out; omega) hle.size, Nat.lt_of_lt_of_le (by have := HSD.out; omega) hle.size⟩; replace S := S.le hle; replace L0 := L0.trans hle)
          | (go_at_call 23; refine (Calls.ints (iBelowOf_any B m c xs 0 _ S)).mono ?_; rintro e w6 ⟨A6, c6, rfl, S6, hle⟩; have ct6 := (hle.cell z5.1).trans ct5; have hc6 := (hle.cell z5.2).trans hc5; replace L0 := L0.trans hle))
        go_wp2
        go_ret
        exact ⟨rfl, L0⟩
  · have hl0 : (((belowX xs a).length : Int) == 0) = true := by rw [hnil]; rfl
    have HQ := Lib.hid hQ
    have HI := Lib.hid hI
    clear hQ hI hnil
    generalize belowX xs a = L at *
    go_wp2_with fail
    refine (Calls.ints (HI.out W1 S)).mono ?_
    rintro e w2 ⟨A2, c2, rfl, S2, hle⟩
    replace ct := (hle.cell zt).trans ct
    replace zt := Nat.lt_of_lt_of_le zt hle.size
    replace S := S.le hle
    replace L0 := L0.trans hle
    clear hle
    go_wp2_with fail
    refine (Calls.ints (HQ.out w2 S)).mono ?_
    rintro e w3 ⟨A3, c3, rfl, S3, hle⟩
    replace ct := (hle.cell zt).trans ct
    replace zt := Nat.lt_of_lt_of_le zt hle.size
    replace S := S.le hle
    replace L0 := L0.trans hle
    replace S2 := S2.le hle
    clear hle
    go_wp2_with fail
    refine (equalInts_self A2 A3 _ c2 c3 L w3 S2 S3).mono ?_
    rintro e w4 ⟨rfl, hle⟩
    replace ct := (hle.cell zt).trans ct
    replace zt := Nat.lt_of_lt_of_le zt hle.size
    replace S := S.le hle
    replace L0 := L0.trans hle
    replace S2 := S2.le hle
    clear hle
    clear S3
    go_wp2_with fail
    refine (Calls.ints (HQ.out w4 S)).mono ?_
    rintro e w5 ⟨A5, c5, rfl, S5, hle⟩
    replace L0 := L0.trans hle
    replace S2 := S2.le hle
    clear hle
    go_wp2_with fail
    refine (equalInts_self A2 A5 _ c2 c5 L w5 S2 S5).mono ?_
    rintro e w6 ⟨rfl, hle⟩
    replace L0 := L0.trans hle
    clear hle
    go_wp2
    go_ret
    exact ⟨rfl, L0⟩
end Go.Proofs.Ytdookbcnodghnaa
