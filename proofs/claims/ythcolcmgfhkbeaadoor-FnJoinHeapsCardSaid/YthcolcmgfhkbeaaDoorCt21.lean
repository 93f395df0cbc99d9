/- one text of HpT, FJoinHeaps -/
import Derived.Test.YthcolcmgfhkbeaaDoorCt20
import Derived.Test.YthcolcmgfhkbeaaDoorCt4
import Derived.Test.YthcolcmgfhkbeaaDoorCt17
import Derived.Test.YthcolcmgfhkbeaaDoorCt19
import Derived.Deep.RegionHeld3
import Derived.Deep.RegionLaw
namespace Go.Proofs.YthcolcmgfhkbeaaDoor
open Go.RowKit
set_option linter.unusedVariables false
section
theorem shiftLink_any (x : Int) (n : Nat) (w : World) (hn : n ≤ 1048576) (h0 : -1 ≤ x) (h1 : x ≤ 1048576) : Calls Tryd.prog 49 #[.int .i64 x, .int .i64 n] w fun e w' => e = .returned (.int .i64 (shl n x)) ∧ w = w' := by
  have hw : IntKind.i64.wrap (x + n) = x + n := IntWalk.i64_in _ (by omega)
  by_cases h : x < 0
  · have e : shl n x = x := by unfold shl; rw [if_pos h]
    have HE := Lib.hid e; clear e
    go_enter Tryd.func49, Tryd.ntmps49
    go_wp2
    go_ret
    exact ⟨ret_int HE.out.symm, rfl⟩
  · have e : shl n x = x + n := by unfold shl; rw [if_neg h]
    have HE := Lib.hid e; clear e
    go_enter Tryd.func49, Tryd.ntmps49
    go_wp2
    go_ret
    exact ⟨ret_int HE.out.symm, rfl⟩

set_option maxHeartbeats 200000000 in
set_option maxRecDepth 100000 in
theorem iJoinHeaps_any (A H K : Option Addr) (n cap m c l d : Nat) (xs : List Cls) (hs ks : List Flt) (w : World) (hR : Sl w A n cap xs) (hH : Sl w H m c hs) (hK : Sl w K l d ks) (hm : m ≤ 1048576) (hl : l ≤ 1048576) :
    Calls Tryd.prog 24 #[.agg #[.slice A n cap], .agg #[.slice H m c], .agg #[.slice K l d]] w fun e w' => ∃ v, e = .returned (.tuple #[.agg #[v], .bool (jhOk xs hs ks)]) ∧ Owd 49 w w' v (jhX xs hs ks) ∧ Le w w' := by
  obtain ⟨i0, hi, hz0, hz1, hz2⟩ := info_parts infoCcFault
  obtain rfl := hH.len
  obtain rfl := hK.len
  obtain ⟨W, hW, c0, z0, c1, z1, c2, z2, c3, z3, f3, L0⟩ := box4 w (.slice A n cap) (.slice H hs.length c) (.slice K ks.length d) (.slice none 0 0) 25 28 28 28
  have S0 := hR.le L0
  have S1 := hH.le L0
  have S2 := hK.le L0
  have HKO := Lib.hid hH.ok
  have HKK := Lib.hid hK.ok
  have hs0 : w.heap.size ≤ W.heap.size := L0.size
  have HV : Hid (jhOk xs hs ks = (okHeap xs hs && okHeap xs ks && decide (hs.length + ks.length ≤ 24))) := rfl
  have hn24 : IntKind.i64.wrap ((hs.length : Int) + (ks.length : Int)) = (hs.length : Int) + ks.length := IntWalk.i64_in _ (by omega)
  cases h1 : okHeap xs hs
  · have hX : jhOk xs hs ks = false := by rw [HV.out, h1]; rfl
    have HF := Lib.hid (jhX_of hX)
    have HX := Lib.hid hX; clear hX
    go_enter Tryd.func24, Tryd.ntmps24
    go_wp2_with fail
    rw [← hW]
    clear hW
    refine (iValidHeap_any A H n cap hs.length c xs hs W S0 S1 (by omega)).mono ?_
    rintro e w2 ⟨rfl, hle⟩
    rw [h1]
    replace c0 := (hle.cell z0).trans c0
    replace c1 := (hle.cell z1).trans c1
    replace c2 := (hle.cell z2).trans c2
    replace c3 := (hle.cell z3).trans c3
    replace f3 := (hle.frozen z3).trans f3
    replace z0 := Nat.lt_of_lt_of_le z0 hle.size
    replace z1 := Nat.lt_of_lt_of_le z1 hle.size
    replace z2 := Nat.lt_of_lt_of_le z2 hle.size
    replace z3 := Nat.lt_of_lt_of_le z3 hle.size
    replace L0 := L0.trans hle
    clear hle h1
    have hend := fun u => cell_set_same (v := u) c3
    go_wp2
    exact bodyPost_ret (v := .tuple #[.agg #[.slice none 0 0], .bool false]) (by simp [results, Tryd.results24, go_sem, hend]) rfl ⟨_, by rw [HX.out], by rw [HF.out]; exact Owd.nil _ _ _, L0.setCell (by omega) _⟩
  · cases h2 : okHeap xs ks
    · have hX : jhOk xs hs ks = false := by rw [HV.out, h1, h2]; rfl
      have HF := Lib.hid (jhX_of hX)
      have HX := Lib.hid hX; clear hX
      go_enter Tryd.func24, Tryd.ntmps24
      go_wp2_with fail
      rw [← hW]
      clear hW
      refine (iValidHeap_any A H n cap hs.length c xs hs W S0 S1 (by omega)).mono ?_
      rintro e w2 ⟨rfl, hle⟩
      rw [h1]
      replace c0 := (hle.cell z0).trans c0
      replace c1 := (hle.cell z1).trans c1
      replace c2 := (hle.cell z2).trans c2
      replace c3 := (hle.cell z3).trans c3
      replace f3 := (hle.frozen z3).trans f3
      replace z0 := Nat.lt_of_lt_of_le z0 hle.size
      replace z1 := Nat.lt_of_lt_of_le z1 hle.size
      replace z2 := Nat.lt_of_lt_of_le z2 hle.size
      replace z3 := Nat.lt_of_lt_of_le z3 hle.size
      replace L0 := L0.trans hle
      replace S0 := S0.le hle
      replace S2 := S2.le hle
      clear hle h1
      go_wp2_with fail
      refine (iValidHeap_any A K n cap ks.length d xs ks _ S0 S2 (by omega)).mono ?_
      rintro e w3 ⟨rfl, hle⟩
      rw [h2]
      replace c0 := (hle.cell z0).trans c0
      replace c1 := (hle.cell z1).trans c1
      replace c2 := (hle.cell z2).trans c2
      replace c3 := (hle.cell z3).trans c3
      replace f3 := (hle.frozen z3).trans f3
      replace z0 := Nat.lt_of_lt_of_le z0 hle.size
      replace z1 := Nat.lt_of_lt_of_le z1 hle.size
      replace z2 := Nat.lt_of_lt_of_le z2 hle.size
      replace z3 := Nat.lt_of_lt_of_le z3 hle.size
      replace L0 := L0.trans hle
      clear hle h2
      have hend := fun u => cell_set_same (v := u) c3
      go_wp2
      exact bodyPost_ret (v := .tuple #[.agg #[.slice none 0 0], .bool false]) (by simp [results, Tryd.results24, go_sem, hend]) rfl ⟨_, by rw [HX.out], by rw [HF.out]; exact Owd.nil _ _ _, L0.setCell (by omega) _⟩
    · by_cases h24 : hs.length + ks.length ≤ 24
      case neg =>
        have hX : jhOk xs hs ks = false := by rw [HV.out, decide_eq_false h24, Bool.and_false]
        have HF := Lib.hid (jhX_of hX)
        have HX := Lib.hid hX; clear hX
        have hd1 : decide (24 < hs.length + ks.length) = true := decide_eq_true (by omega)
        have hd2 : decide ((24 : Int) < (hs.length : Int) + ks.length) = true := decide_eq_true (by omega)
        go_enter Tryd.func24, Tryd.ntmps24
        go_wp2_with fail
        rw [← hW]
        clear hW
        refine (iValidHeap_any A H n cap hs.length c xs hs W S0 S1 (by omega)).mono ?_
        rintro e w2 ⟨rfl, hle⟩
        rw [h1]
        replace c0 := (hle.cell z0).trans c0
        replace c1 := (hle.cell z1).trans c1
        replace c2 := (hle.cell z2).trans c2
        replace c3 := (hle.cell z3).trans c3
        replace f3 := (hle.frozen z3).trans f3
        replace z0 := Nat.lt_of_lt_of_le z0 hle.size
        replace z1 := Nat.lt_of_lt_of_le z1 hle.size
        replace z2 := Nat.lt_of_lt_of_le z2 hle.size
        replace z3 := Nat.lt_of_lt_of_le z3 hle.size
        replace L0 := L0.trans hle
        replace S0 := S0.le hle
        replace S2 := S2.le hle
        clear hle h1
        go_wp2_with fail
        refine (iValidHeap_any A K n cap ks.length d xs ks _ S0 S2 (by omega)).mono ?_
        rintro e w3 ⟨rfl, hle⟩
        rw [h2]
        replace c0 := (hle.cell z0).trans c0
        replace c1 := (hle.cell z1).trans c1
        replace c2 := (hle.cell z2).trans c2
        replace c3 := (hle.cell z3).trans c3
        replace f3 := (hle.frozen z3).trans f3
        replace z0 := Nat.lt_of_lt_of_le z0 hle.size
        replace z1 := Nat.lt_of_lt_of_le z1 hle.size
        replace z2 := Nat.lt_of_lt_of_le z2 hle.size
        replace z3 := Nat.lt_of_lt_of_le z3 hle.size
        replace L0 := L0.trans hle
        clear hle h2
        have hend := fun u => cell_set_same (v := u) c3
        go_wp2
        exact bodyPost_ret (v := .tuple #[.agg #[.slice none 0 0], .bool false]) (by simp [results, Tryd.results24, go_sem, hend]) rfl ⟨_, by rw [HX.out], by rw [HF.out]; exact Owd.nil _ _ _, L0.setCell (by omega) _⟩
      have hX : jhOk xs hs ks = true := by rw [HV.out, h1, h2, decide_eq_true h24]; rfl
      have HF := Lib.hid (jhX_of hX)
      have HX := Lib.hid hX; clear hX
      have gh := goodH_of h1
      have gk := goodH_of h2
      have hfewh := gh.few
      have hfewk := gk.few
      have hkl : ∀ i (h : i < ks.length), (-1 ≤ ks[i].cause ∧ ks[i].cause ≤ 24) ∧ (-1 ≤ ks[i].ctx ∧ ks[i].ctx ≤ 24) := fun i h => by
        have a := gk.lnk.cause i h
        have b := gk.lnk.ctx i h
        exact ⟨⟨a.1, by omega⟩, ⟨b.1, by omega⟩⟩
      have HKL := Lib.hid hkl; clear hkl
      clear gh gk
      have hd1 : decide (24 < hs.length + ks.length) = false := decide_eq_false (by omega)
      have hd2 : decide ((24 : Int) < (hs.length : Int) + ks.length) = false := decide_eq_false (by omega)
      go_enter Tryd.func24, Tryd.ntmps24
      go_wp2_with fail
      rw [← hW]
      clear hW
      have zW := z3
      refine (iValidHeap_any A H n cap hs.length c xs hs W S0 S1 (by omega)).mono ?_
      rintro e w2 ⟨rfl, hle⟩
      rw [h1]
      replace c0 := (hle.cell z0).trans c0
      replace c1 := (hle.cell z1).trans c1
      replace c2 := (hle.cell z2).trans c2
      replace c3 := (hle.cell z3).trans c3
      replace f3 := (hle.frozen z3).trans f3
      replace z0 := Nat.lt_of_lt_of_le z0 hle.size
      replace z1 := Nat.lt_of_lt_of_le z1 hle.size
      replace z2 := Nat.lt_of_lt_of_le z2 hle.size
      replace z3 := Nat.lt_of_lt_of_le z3 hle.size
      replace L0 := L0.trans hle
      replace S0 := S0.le hle
      replace S1 := S1.le hle
      replace S2 := S2.le hle
      clear hle h1
      go_wp2_with fail
      refine (iValidHeap_any A K n cap ks.length d xs ks _ S0 S2 (by omega)).mono ?_
      rintro e w3 ⟨rfl, hle⟩
      rw [h2]
      replace c0 := (hle.cell z0).trans c0
      replace c1 := (hle.cell z1).trans c1
      replace c2 := (hle.cell z2).trans c2
      replace c3 := (hle.cell z3).trans c3
      replace f3 := (hle.frozen z3).trans f3
      replace z0 := Nat.lt_of_lt_of_le z0 hle.size
      replace z1 := Nat.lt_of_lt_of_le z1 hle.size
      replace z2 := Nat.lt_of_lt_of_le z2 hle.size
      replace z3 := Nat.lt_of_lt_of_le z3 hle.size
      replace L0 := L0.trans hle
      replace S0 := S0.le hle
      replace S1 := S1.le hle
      replace S2 := S2.le hle
      clear hle h2
      go_wp2_with fail
      refine (iCopyHeap_any H hs.length c hs _ S1 (by omega)).mono ?_
      rintro e w4 ⟨v, rfl, D, hle⟩
      have s4 := hle.size
      obtain ⟨A4, q4, rfl⟩ := own_form D.row
      have O4 := D.row
      have hlt4 := O4.lt
      have HLT := Lib.hid hlt4; clear hlt4
      clear D
      have y0 := z0; have y1 := z1; have y2 := z2; have y3 := z3
      have HE0 := Lib.hid c0; have HE1 := Lib.hid c1; have HE2 := Lib.hid c2; have HE3 := Lib.hid c3; have HG3 := Lib.hid f3; have HL0 := Lib.hid L0; have HS0 := Lib.hid S0; have HS2 := Lib.hid S2
      replace c0 := (hle.cell z0).trans c0
      replace c1 := (hle.cell z1).trans c1
      replace c2 := (hle.cell z2).trans c2
      replace c3 := (hle.cell z3).trans c3
      replace f3 := (hle.frozen z3).trans f3
      replace z0 := Nat.lt_of_lt_of_le z0 hle.size
      replace z1 := Nat.lt_of_lt_of_le z1 hle.size
      replace z2 := Nat.lt_of_lt_of_le z2 hle.size
      replace z3 := Nat.lt_of_lt_of_le z3 hle.size
      replace L0 := L0.trans hle
      replace S0 := S0.le hle
      replace S2 := S2.le hle
      have LB := Le.new w4 (.cells #[.slice A4 hs.length q4] 28)
      have cB : (w4.alloc (.cells #[.slice A4 hs.length q4] 28)).cell? ⟨w4.heap.size, 0, none⟩ = some (.slice A4 hs.length q4) := by rw [World.cell?_alloc_at _ _ _ _ rfl]; rfl
      have zB : w4.heap.size < (w4.alloc (.cells #[.slice A4 hs.length q4] 28)).heap.size := by simp
      have O5 : (w4.alloc (.cells #[.slice A4 hs.length q4] 28)).ownsRow w3.heap.size 49 5 (.slice A4 hs.length q4) hs.length (hs.flatMap Enc.cells) := own_le O4 LB
      have L35 := hle.trans LB
      replace c0 := (LB.cell z0).trans c0
      replace c1 := (LB.cell z1).trans c1
      replace c2 := (LB.cell z2).trans c2
      replace c3 := (LB.cell z3).trans c3
      replace f3 := (LB.frozen z3).trans f3
      replace z0 := Nat.lt_of_lt_of_le z0 LB.size
      replace z1 := Nat.lt_of_lt_of_le z1 LB.size
      replace z2 := Nat.lt_of_lt_of_le z2 LB.size
      replace z3 := Nat.lt_of_lt_of_le z3 LB.size
      replace L0 := L0.trans LB
      replace S0 := S0.le LB
      replace S2 := S2.le LB
      clear LB hle
      have fB : (w4.alloc (.cells #[.slice A4 hs.length q4] 28)).frozen? ⟨w4.heap.size, 0, none⟩ = false := World.frozen?_alloc_at _ _ _ _ rfl
      go_wp2
      clear c0 c1 c2 c3 f3 z0 z1 z2 z3 L0 S0 S2 S1
      go_loopw [11, 39] (fun xp q wr => ∃ (k : Nat) (A' : Option Addr) (c' : Nat), k ≤ ks.length ∧ q = .int .i64 k ∧ Le w3 wr ∧ w4.heap.size < wr.heap.size ∧ wr.cell? ⟨w4.heap.size, 0, none⟩ = some (.slice A' (hs.length + k) c') ∧ wr.frozen? ⟨w4.heap.size, 0, none⟩ = false ∧
        wr.ownsRow w3.heap.size 49 5 (.slice A' (hs.length + k) c') (hs.length + k) ((hs ++ (ks.take k).map (shF hs.length)).flatMap Enc.cells) ∧ (Value.slice A' (hs.length + k) c').ownBlock ≠ some w4.heap.size) (fun _ q _ => ks.length - (intOf q).toNat)
      case atStart => exact ⟨0, A4, q4, Nat.zero_le _, rfl, L35, zB, cB, fB, by simpa using O5, fun e => by have := (HLT.out _ e).2; omega⟩
      case round =>
        obtain ⟨k, A', c', hk, rfl, hle, zB, cB, fB, O, hne⟩ := hrel
        have c0 := (hle.cell y0).trans HE0.out
        have c1 := (hle.cell y1).trans HE1.out
        have c2 := (hle.cell y2).trans HE2.out
        have c3 := (hle.cell y3).trans HE3.out
        have f3 := (hle.frozen y3).trans HG3.out
        have z3 := Nat.lt_of_lt_of_le y3 hle.size
        have L0 := HL0.out.trans hle
        have S2 := HS2.out.le hle
        have hltO := O.lt
        have HLTO := Lib.hid hltO; clear hltO
        have HNE := Lib.hid hne; clear hne
        by_cases hlt : k < ks.length
        · obtain ⟨b, off, rfl, hb, k0, k1, k2, k3, k4, -⟩ := S2.flt_at hlt
          obtain ⟨⟨hc0, hc1⟩, hx0, hx1⟩ := HKL.out k hlt
          have HOK := Lib.hid (shF_ok hfewh (HKK.out _ (List.getElem_mem hlt)) hc1 hx1)
          have HJT := Lib.hid (join_take (hs := hs) hlt)
          have HSH : Hid (shF hs.length ks[k] = ⟨ks[k].cls, ks[k].code, shl hs.length ks[k].cause, shl hs.length ks[k].ctx, ks[k].hide⟩) := rfl
          have hkl : ((k : Int) < (ks.length : Int)) := by omega
          have hsr1 : -1 ≤ shl hs.length ks[k].cause ∧ shl hs.length ks[k].cause ≤ 48 := by unfold shl; split <;> omega
          have hsr2 : -1 ≤ shl hs.length ks[k].ctx ∧ shl hs.length ks[k].ctx ≤ 48 := by unfold shl; split <;> omega
          generalize hx : ks[k] = x at *
          clear hx
          generalize x.cls = xc at *
          generalize x.code = xd at *
          generalize x.cause = xa at *
          generalize x.ctx = xb at *
          generalize x.hide = xh at *
          have HSA := fun w => shiftLink_any xa hs.length w (by omega) (by omega) (by omega)
          have HSB := fun w => shiftLink_any xb hs.length w (by omega) (by omega) (by omega)
          have HA := Lib.hid HSA; have HB := Lib.hid HSB
          clear HSA HSB
          generalize shl hs.length xa = ya at *
          generalize shl hs.length xb = yb at *
          go_wp2_with fail
          have HKP := Lib.hid (And.intro O (And.intro zB (And.intro cB (And.intro fB hle))))
          clear O zB cB fB hle c0 c1 c2 c3 f3 z3 L0 S2 hb k0 k1 k2 k3 k4 hkl hsr1 hsr2 hc0 hc1 hx0 hx1 h24 hd1 hd2 hn24 hR hH hK hm hl zW O4 O5 L35
          go_region_law (first
            | (go_simp; go_at_call 49; refine (HA.out _).mono ?_; rintro e wq ⟨rfl, rfl⟩)
            | (go_simp; go_at_call 49; refine (HB.out _).mono ?_; rintro e wq ⟨rfl, rfl⟩))
          all_goals
            obtain ⟨O, zB, cB, fB, hle⟩ := HKP.out
            have LX : Le wr (((wr.alloc (.cells #[.int .i64 xc, .int .i64 xd, .int .i64 ya, .int .i64 yb, .bool xh] 49)).alloc (.cells #[.int .i64 xc, .int .i64 xd, .int .i64 ya, .int .i64 yb, .bool xh] 49)).drew) := ((Le.new wr (.cells #[.int .i64 xc, .int .i64 xd, .int .i64 ya, .int .i64 yb, .bool xh] 49)).alloc (.cells #[.int .i64 xc, .int .i64 xd, .int .i64 ya, .int .i64 yb, .bool xh] 49)).drew
            have cBX := (LX.cell zB).trans cB
            have fBX := (LX.frozen zB).trans fB
            have sX := LX.size
            have hX1 : (wr.alloc (.cells #[.int .i64 xc, .int .i64 xd, .int .i64 ya, .int .i64 yb, .bool xh] 49)).heap.size = wr.heap.size + 1 := by simp
            have hX2 : (((wr.alloc (.cells #[.int .i64 xc, .int .i64 xd, .int .i64 ya, .int .i64 yb, .bool xh] 49)).alloc (.cells #[.int .i64 xc, .int .i64 xd, .int .i64 ya, .int .i64 yb, .bool xh] 49)).drew).heap.size = wr.heap.size + 1 + 1 := by show ((wr.alloc _).alloc _).heap.size = _; simp
            rw [HSH.out] at HOK
            have SX := sl_one (w := wr.alloc (.cells #[.int .i64 xc, .int .i64 xd, .int .i64 ya, .int .i64 yb, .bool xh] 49)) (cs := #[.int .i64 xc, .int .i64 xd, .int .i64 ya, .int .i64 yb, .bool xh]) (T := 49) (⟨xc, xd, ya, yb, xh⟩ : Flt) rfl HOK.out (b := wr.heap.size + 1) hX1.symm
            have SX2 : Sl (((wr.alloc (.cells #[.int .i64 xc, .int .i64 xd, .int .i64 ya, .int .i64 yb, .bool xh] 49)).alloc (.cells #[.int .i64 xc, .int .i64 xd, .int .i64 ya, .int .i64 yb, .bool xh] 49)).drew) (some ⟨wr.heap.size + 1, 0, none⟩) 1 1 [(⟨xc, xd, ya, yb, xh⟩ : Flt)] := SX.le (Le.refl _).drew
            have OX : (((wr.alloc (.cells #[.int .i64 xc, .int .i64 xd, .int .i64 ya, .int .i64 yb, .bool xh] 49)).alloc (.cells #[.int .i64 xc, .int .i64 xd, .int .i64 ya, .int .i64 yb, .bool xh] 49)).drew).ownsRow w3.heap.size 49 5 (.slice A' (hs.length + k) c') (hs.length + k) ((hs ++ (ks.take k).map (shF hs.length)).flatMap Enc.cells) := ((O.alloc (.cells #[.int .i64 xc, .int .i64 xd, .int .i64 ya, .int .i64 yb, .bool xh] 49)).alloc (.cells #[.int .i64 xc, .int .i64 xd, .int .i64 ya, .int .i64 yb, .bool xh] 49)).drew
            have HX2 := Lib.hid hX2
            have m1 : hs.length + k + 1 ≤ maxLen := by unfold maxLen; omega
            have m2 : (hs.length + k + 1) * 40 ≤ 140737488355328 := by omega
            have m3 : w3.heap.size ≤ (((wr.alloc (.cells #[.int .i64 xc, .int .i64 xd, .int .i64 ya, .int .i64 yb, .bool xh] 49)).alloc (.cells #[.int .i64 xc, .int .i64 xd, .int .i64 ya, .int .i64 yb, .bool xh] 49)).drew).heap.size := Nat.le_trans hle.size sX
            clear hX1 hX2 SX
            go_wp2_with (at_builtin; refine wpList_append_sl rfl _ _ 26 rfl (w3.heap.size) 49 i0 _ 40 Tryd.underlying26 hi hz0 hz1 hz2 rfl (.slice A' (hs.length + k) c') (hs.length + k) (hs ++ (ks.take k).map (shF hs.length)) rfl OX (some ⟨wr.heap.size + 1, 0, none⟩) 1 1 [(⟨xc, xd, ya, yb, xh⟩ : Flt)] rfl SX2 m1 m2 m3 ?_; intro v1 w1 O1 hg1 hat; have cB1 := hg1.cell (a := ⟨w4.heap.size, 0, none⟩) cBX (fun e => HNE.out e.symm); have fB1 := (World.frozen?_of_block (a := ⟨w4.heap.size, 0, none⟩) (hg1.block (w4.heap.size) (Nat.lt_of_lt_of_le zB sX) (fun e => HNE.out e.symm))).trans fBX; obtain ⟨A2, q2, rfl⟩ := own_form O1)
            have hne2 : (Value.slice A2 (hs.length + k + 1) q2).ownBlock ≠ some w4.heap.size := by
              rcases hat with h | h
              · rw [h]; exact HNE.out
              · rw [h, HX2.out]; intro e; injection e with e; omega
            have L1 := (hle.trans LX).grown hg1 (fun k hk => (HLTO.out k hk).1)
            have s1 := hg1.size
            rw [show hs ++ (ks.take k).map (shF hs.length) ++ [(⟨xc, xd, ya, yb, xh⟩ : Flt)] = hs ++ (ks.take (k + 1)).map (shF hs.length) from by rw [← HJT.out, HSH.out]] at O1
            have O2 := O1.kept (grown_set w1 w4.heap.size 0 (.slice A2 (hs.length + k + 1) q2)) (.inr hne2)
            go_roundw
            case rel => exact ⟨k + 1, A2, q2, by omega, by go_num, L1.setCell (by omega) _, by simpa [World.setCell] using Nat.lt_of_lt_of_le (Nat.lt_of_lt_of_le zB sX) s1, cell_set_same cB1, by simpa using fB1, O2, hne2⟩
            case measure => simp [intOf]; omega
        · have hkk : k = ks.length := by omega
          subst hkk
          have hJK : hs ++ (ks.take ks.length).map (shF hs.length) = joinL hs ks := by rw [List.take_length]; rfl
          have hokj := joinL_ok (k := ks.length) (hs := hs) (ks := ks) hfewh HKO.out HKK.out (fun i h => ⟨(HKL.out i h).1.2, (HKL.out i h).2.2⟩)
          rw [hJK] at O hokj
          have HE := Lib.hid (res_end (r := w.heap.size + 1 + 1 + 1) L0 (by omega) y3 (show wr.ownsRow w3.heap.size 49 (Enc.size Flt) (.slice A' (hs.length + ks.length) c') (joinL hs ks).length _ from by rw [joinL_len]; exact O) hokj)
          have hend := fun u => cell_set_same (v := u) c3
          clear hJK hokj O
          go_wp2
          exact bodyPost_ret (v := .tuple #[.agg #[.slice A' (hs.length + ks.length) c'], .bool true]) (by simp [results, Tryd.results24, go_sem, hend]) rfl ⟨_, by rw [HX.out], by rw [HF.out]; exact (HE.out _).1, (HE.out _).2⟩
end

section
theorem join_facts {xs : List Cls} {hs ks : List Flt} (h : jhOk xs hs ks = true) : jhX xs hs ks = joinL hs ks ∧ okHeap xs (joinL hs ks) = true ∧ okHeap xs hs = true ∧ okHeap xs ks = true ∧ (∀ j : Nat, j < hs.length → ctX xs (joinL hs ks) (j : Int) = ctX xs hs (j : Int)) ∧ (∀ j : Nat, j < ks.length → ctX xs (joinL hs ks) ((hs.length : Int) + (j : Int)) = ctX xs ks (j : Int)) := by
  have hX : jhX xs hs ks = joinL hs ks := by rw [jhX_of h]; rfl
  unfold jhOk at h
  simp only [Bool.and_eq_true, decide_eq_true_eq] at h
  obtain ⟨⟨h1, h2⟩, h3⟩ := h
  have hj : okHeap xs (joinL hs ks) = true := by rw [join_ok h1 h2, decide_eq_true h3]
  have g1 := goodH_of h1
  have g2 := goodH_of h2
  have g3 := goodH_of hj
  refine ⟨hX, hj, h1, h2, fun j hl => ?_, fun j hl => ?_⟩
  · rw [ctX_of (goodF_mk hj (i := j) (by rw [joinL_len]; omega)), ctX_of (goodF_mk h1 hl)]
    exact text_left g1.lnk g3.lnk (by omega) (by omega)
  · have e : ((hs.length : Int) + (j : Int)) = ((j : Int) + (hs.length : Int)) := by omega
    have e2 : ((j : Int) + (hs.length : Int)) = ((j + hs.length : Nat) : Int) := by omega
    have hg : goodF xs (joinL hs ks) ((j : Int) + (hs.length : Int)) = true := by rw [e2]; exact goodF_mk hj (by rw [joinL_len]; omega)
    rw [e, ctX_of hg, ctX_of (goodF_mk h2 hl)]
    exact text_right g2.lnk g3.lnk (by omega) (by omega)
set_option maxHeartbeats 8000000 in
set_option maxRecDepth 100000 in
theorem fnJoinHeaps_walk (A : Option Addr) (n cap : Nat) (bs : List By) (w : World) (hR : Sl w A n cap bs) (NG : GotErr w) :
    Calls Tryd.prog 6 #[.slice A n cap] w fun e w' => e = .returned (.bool true) ∧ Le w w' := by
  have hm := hR.n_le
  by_cases hbig : 1048576 < n
  · go_enter Tryd.func6, Tryd.ntmps6
    go_wp2
    go_ret
    exact ⟨rfl, Le.refl w⟩
  go_enter Tryd.func6, Tryd.ntmps6
  go_wp2_with fail
  refine (drawJoinHeaps_any A n cap bs w hR).mono ?_
  rintro e w1 ⟨B, m, c, xs, A1, q1, hs, A0, q0, ks, rfl, S, hm8, S2, hl6, S0, hk6, L0⟩
  replace NG := NG.le L0
  go_wp2_with fail
  obtain ⟨ct, zt, ch, zh, ck, zk, hleB⟩ := box3 w1 (.slice B m c) (.slice A1 hs.length q1) (.slice A0 ks.length q0) 25 28 28
  replace S := S.le hleB
  replace S2 := S2.le hleB
  replace S0 := S0.le hleB
  replace L0 := L0.trans hleB
  replace NG := NG.le hleB
  clear hleB
  generalize ((w1.alloc (.cells #[.slice B m c] 25)).alloc (.cells #[.slice A1 hs.length q1] 28)).alloc (.cells #[.slice A0 ks.length q0] 28) = W1 at *
  have hI := iJoinHeaps_any B A1 A0 m c hs.length q1 ks.length q0 xs hs ks W1 S S2 S0 (by omega) (by omega)
  have HQ : Hid (∀ w, Sl w B m c xs → Sl w A1 hs.length q1 hs → Sl w A0 ks.length q0 ks → _) := fun w h h2 h3 => sJoinHeaps_any B A1 A0 m c hs.length q1 ks.length q0 xs hs ks w h h2 h3 (by omega) (by omega)
  rcases Bool.eq_false_or_eq_true (jhOk xs hs ks) with ho | ho
  · obtain ⟨hX, hj, h1, h2, hT1, hT2⟩ := join_facts ho
    have hlL : (joinL hs ks).length ≤ 12 := by rw [joinL_len]; omega
    have hlb : (((joinL hs ks).length : Int) == (hs.length : Int) + (ks.length : Int)) = true := by rw [joinL_len]; simp
    rw [ho, hX] at hI HQ
    have HT1 := Lib.hid hT1
    have HT2 := Lib.hid hT2
    clear ho hX hj h1 h2 hT1 hT2
    generalize joinL hs ks = L at *
    refine (Calls.heap2 hI).mono ?_
    rintro e w2 ⟨A2, q2, rfl, S3, hle⟩
    replace ct := (hle.cell zt).trans ct
    replace ch := (hle.cell zh).trans ch
    replace ck := (hle.cell zk).trans ck
    replace zt := Nat.lt_of_lt_of_le zt hle.size
    replace zh := Nat.lt_of_lt_of_le zh hle.size
    replace zk := Nat.lt_of_lt_of_le zk hle.size
    replace S := S.le hle
    replace S2 := S2.le hle
    replace S0 := S0.le hle
    replace L0 := L0.trans hle
    replace NG := NG.le hle
    clear hle hI
    go_wp2_with fail
    obtain ⟨co, zo, hleB⟩ := box1 w2 (.slice A2 L.length q2) 28
    replace ct := (hleB.cell zt).trans ct
    replace ch := (hleB.cell zh).trans ch
    replace ck := (hleB.cell zk).trans ck
    replace zt := Nat.lt_of_lt_of_le zt hleB.size
    replace zh := Nat.lt_of_lt_of_le zh hleB.size
    replace zk := Nat.lt_of_lt_of_le zk hleB.size
    replace S := S.le hleB
    replace L0 := L0.trans hleB
    replace S2 := S2.le hleB
    replace S0 := S0.le hleB
    replace S3 := S3.le hleB
    replace NG := NG.le hleB
    clear hleB
    generalize w2.alloc (.cells #[.slice A2 L.length q2] 28) = w3 at *
    refine (Calls.heap2 (HQ.out w3 S S2 S0)).mono ?_
    rintro e w4 ⟨A4, q4, rfl, S4, hle⟩
    replace ct := (hle.cell zt).trans ct
    replace ch := (hle.cell zh).trans ch
    replace ck := (hle.cell zk).trans ck
    replace co := (hle.cell zo).trans co
    replace zt := Nat.lt_of_lt_of_le zt hle.size
    replace zh := Nat.lt_of_lt_of_le zh hle.size
    replace zk := Nat.lt_of_lt_of_le zk hle.size
    replace zo := Nat.lt_of_lt_of_le zo hle.size
    replace S := S.le hle
    replace L0 := L0.trans hle
    replace S2 := S2.le hle
    replace S0 := S0.le hle
    replace S3 := S3.le hle
    replace NG := NG.le hle
    clear hle HQ
    go_wp2_with fail
    obtain ⟨cv, zv, hleB⟩ := box1 w4 (.slice A4 L.length q4) 28
    replace ct := (hleB.cell zt).trans ct
    replace ch := (hleB.cell zh).trans ch
    replace ck := (hleB.cell zk).trans ck
    replace co := (hleB.cell zo).trans co
    replace zt := Nat.lt_of_lt_of_le zt hleB.size
    replace zh := Nat.lt_of_lt_of_le zh hleB.size
    replace zk := Nat.lt_of_lt_of_le zk hleB.size
    replace zo := Nat.lt_of_lt_of_le zo hleB.size
    replace S := S.le hleB
    replace L0 := L0.trans hleB
    replace S2 := S2.le hleB
    replace S0 := S0.le hleB
    replace S3 := S3.le hleB
    replace S4 := S4.le hleB
    replace NG := NG.le hleB
    clear hleB
    generalize w4.alloc (.cells #[.slice A4 L.length q4] 28) = w5 at *
    refine (equalHeap_self A2 A4 _ q2 q4 L w5 S3 S4).mono ?_
    rintro e w6 ⟨rfl, hle⟩
    replace ct := (hle.cell zt).trans ct
    replace ch := (hle.cell zh).trans ch
    replace ck := (hle.cell zk).trans ck
    replace co := (hle.cell zo).trans co
    replace cv := (hle.cell zv).trans cv
    replace zt := Nat.lt_of_lt_of_le zt hle.size
    replace zh := Nat.lt_of_lt_of_le zh hle.size
    replace zk := Nat.lt_of_lt_of_le zk hle.size
    replace zo := Nat.lt_of_lt_of_le zo hle.size
    replace zv := Nat.lt_of_lt_of_le zv hle.size
    replace S := S.le hle
    replace L0 := L0.trans hle
    replace S2 := S2.le hle
    replace S0 := S0.le hle
    replace S3 := S3.le hle
    replace S4 := S4.le hle
    replace NG := NG.le hle
    clear hle
    clear cv zv S4
    go_wp2
    go_loopw [11] (fun k wr => ∃ q : Nat, k = .int .i64 q ∧ q ≤ hs.length ∧ Le w6 wr) (fun k _ => hs.length - (intOf k).toNat)
    case atStart => exact ⟨0, rfl, Nat.zero_le _, Le.refl _⟩
    case round =>
      obtain ⟨q, rfl, hq, hle⟩ := hrel
      have HW := Lib.hid hle
      replace ct := (hle.cell zt).trans ct
      replace ch := (hle.cell zh).trans ch
      replace ck := (hle.cell zk).trans ck
      replace co := (hle.cell zo).trans co
      replace zt := Nat.lt_of_lt_of_le zt hle.size
      replace zh := Nat.lt_of_lt_of_le zh hle.size
      replace zk := Nat.lt_of_lt_of_le zk hle.size
      replace zo := Nat.lt_of_lt_of_le zo hle.size
      replace S := S.le hle
      replace L0 := L0.trans hle
      replace S2 := S2.le hle
      replace S0 := S0.le hle
      replace S3 := S3.le hle
      replace NG := NG.le hle
      clear hle
      by_cases hlt : q < hs.length
      · have hql : (q : Int) < (hs.length : Int) := by omega
        obtain ⟨T, hT⟩ : ∃ T, ctX xs hs (q : Int) = T := ⟨_, rfl⟩
        have HA := Lib.hid ((HT1.out q hlt).trans hT)
        have HB := Lib.hid hT
        clear hT
        have hc1 : ∀ (g : Ext wr) (_ : True), Calls Tryd.prog 13 #[.agg #[.slice B m c], .agg #[.slice A2 L.length q2], .int .i64 (q : Int)] (wr.ext g) fun e w' => e = .returned (.string T) ∧ Le (wr.ext g) w' := fun g _ => Calls.val (iChainText_any B A2 m c L.length q2 xs L (q : Int) _ (S.ext _) (S3.ext _) (by omega) (NG.le (Le.ext wr g))) (vst HA.out)
        have hc2 : ∀ (g : Ext wr) (_ : True), Calls Tryd.prog 13 #[.agg #[.slice B m c], .agg #[.slice A1 hs.length q1], .int .i64 (q : Int)] (wr.ext g) fun e w' => e = .returned (.string T) ∧ Le (wr.ext g) w' := fun g _ => Calls.val (iChainText_any B A1 m c hs.length q1 xs hs (q : Int) _ (S.ext _) (S2.ext _) (by omega) (NG.le (Le.ext wr g))) (vst HB.out)
        have E1 := cell_ext zt ct
        have E2 := cell_ext zh ch
        have E3 := cell_ext zo co
        have htt : (T.toList != T.toList) = false := by simp
        go_wp2_with fail
        refine wp_region_ext (by kernel_rfl) (by kernel_rfl) ?_
        repeat (go_big_quiet_step (first | (go_at_call 13; with_reducible first | exact Calls.ext_of (hc1 _ trivial) | exact Calls.ext_of (hc2 _ trivial))))
        refine wpQuiet_nil ?_
        intro _ hw'
        obtain ⟨gg, rfl⟩ := hw'
        have hw3 := Le.ext wr gg
        generalize wr.ext gg = W2 at *
        go_wp2
        go_roundw
        case rel => exact ⟨q + 1, by go_num, by omega, HW.out.trans hw3⟩
        case measure => (simp [intOf]) <;> omega
      · have hql : ¬ (q : Int) < (hs.length : Int) := by omega
        have HW2 := Lib.hid (Le.refl wr)
        clear HW
        generalize wr = W6 at *
        go_wp2
        go_loopw [12] (fun k wr => ∃ q : Nat, k = .int .i64 q ∧ q ≤ ks.length ∧ Le W6 wr) (fun k _ => ks.length - (intOf k).toNat)
        case atStart => exact ⟨0, rfl, Nat.zero_le _, Le.refl _⟩
        case round =>
          obtain ⟨p, rfl, hp, hle⟩ := hrel
          have HW := Lib.hid hle
          replace ct := (hle.cell zt).trans ct
          replace ch := (hle.cell zh).trans ch
          replace ck := (hle.cell zk).trans ck
          replace co := (hle.cell zo).trans co
          replace zt := Nat.lt_of_lt_of_le zt hle.size
          replace zh := Nat.lt_of_lt_of_le zh hle.size
          replace zk := Nat.lt_of_lt_of_le zk hle.size
          replace zo := Nat.lt_of_lt_of_le zo hle.size
          replace S := S.le hle
          replace L0 := L0.trans hle
          replace S2 := S2.le hle
          replace S0 := S0.le hle
          replace S3 := S3.le hle
          replace NG := NG.le hle
          clear hle HW2
          have hwn : IntKind.i64.wrap ((hs.length : Int) + (ks.length : Int)) = (hs.length : Int) + (ks.length : Int) := IntWalk.i64_in _ (by omega)
          by_cases hlp : p < ks.length
          · have hpl : (p : Int) < (ks.length : Int) := by omega
            obtain ⟨T, hT⟩ : ∃ T, ctX xs ks (p : Int) = T := ⟨_, rfl⟩
            have HA := Lib.hid ((HT2.out p hlp).trans hT)
            have HB := Lib.hid hT
            clear hT
            have hwp : IntKind.i64.wrap ((hs.length : Int) + (p : Int)) = (hs.length : Int) + (p : Int) := IntWalk.i64_in _ (by omega)
            have hc1 : ∀ (g : Ext wr) (_ : True), Calls Tryd.prog 13 #[.agg #[.slice B m c], .agg #[.slice A2 L.length q2], .int .i64 ((hs.length : Int) + (p : Int))] (wr.ext g) fun e w' => e = .returned (.string T) ∧ Le (wr.ext g) w' := fun g _ => Calls.val (iChainText_any B A2 m c L.length q2 xs L ((hs.length : Int) + (p : Int)) _ (S.ext _) (S3.ext _) (by omega) (NG.le (Le.ext wr g))) (vst HA.out)
            have hc2 : ∀ (g : Ext wr) (_ : True), Calls Tryd.prog 13 #[.agg #[.slice B m c], .agg #[.slice A0 ks.length q0], .int .i64 (p : Int)] (wr.ext g) fun e w' => e = .returned (.string T) ∧ Le (wr.ext g) w' := fun g _ => Calls.val (iChainText_any B A0 m c ks.length q0 xs ks (p : Int) _ (S.ext _) (S0.ext _) (by omega) (NG.le (Le.ext wr g))) (vst HB.out)
            have E1 := cell_ext zt ct
            have E2 := cell_ext zk ck
            have E3 := cell_ext zo co
            have htt : (T.toList != T.toList) = false := by simp
            go_wp2_with fail
            refine wp_region_ext (by kernel_rfl) (by kernel_rfl) ?_
            repeat (go_big_quiet_step (first | (go_at_call 13; with_reducible first | exact Calls.ext_of (hc1 _ trivial) | exact Calls.ext_of (hc2 _ trivial))))
            refine wpQuiet_nil ?_
            intro _ hw'
            obtain ⟨gg, rfl⟩ := hw'
            have hw3 := Le.ext wr gg
            generalize wr.ext gg = W2 at *
            go_wp2
            go_roundw
            case rel => exact ⟨p + 1, by go_num, by omega, HW.out.trans hw3⟩
            case measure => (simp [intOf]) <;> omega
          · have hpl : ¬ (p : Int) < (ks.length : Int) := by omega
            go_wp2
            go_ret
            exact ⟨rfl, L0⟩
  · rw [ho] at hI HQ
    clear ho
    have hlen := jhX_len xs hs ks
    generalize jhX xs hs ks = L at *
    refine (Calls.heap2 hI).mono ?_
    rintro e w2 ⟨A2, q2, rfl, S3, hle⟩
    replace ct := (hle.cell zt).trans ct
    replace ch := (hle.cell zh).trans ch
    replace ck := (hle.cell zk).trans ck
    replace zt := Nat.lt_of_lt_of_le zt hle.size
    replace zh := Nat.lt_of_lt_of_le zh hle.size
    replace zk := Nat.lt_of_lt_of_le zk hle.size
    replace S := S.le hle
    replace S2 := S2.le hle
    replace S0 := S0.le hle
    replace L0 := L0.trans hle
    replace NG := NG.le hle
    clear hle hI
    go_wp2_with fail
    obtain ⟨co, zo, hleB⟩ := box1 w2 (.slice A2 L.length q2) 28
    replace ct := (hleB.cell zt).trans ct
    replace ch := (hleB.cell zh).trans ch
    replace ck := (hleB.cell zk).trans ck
    replace zt := Nat.lt_of_lt_of_le zt hleB.size
    replace zh := Nat.lt_of_lt_of_le zh hleB.size
    replace zk := Nat.lt_of_lt_of_le zk hleB.size
    replace S := S.le hleB
    replace L0 := L0.trans hleB
    replace S2 := S2.le hleB
    replace S0 := S0.le hleB
    replace S3 := S3.le hleB
    replace NG := NG.le hleB
    clear hleB
    generalize w2.alloc (.cells #[.slice A2 L.length q2] 28) = w3 at *
    refine (Calls.heap2 (HQ.out w3 S S2 S0)).mono ?_
    rintro e w4 ⟨A4, q4, rfl, S4, hle⟩
    replace ct := (hle.cell zt).trans ct
    replace ch := (hle.cell zh).trans ch
    replace ck := (hle.cell zk).trans ck
    replace co := (hle.cell zo).trans co
    replace zt := Nat.lt_of_lt_of_le zt hle.size
    replace zh := Nat.lt_of_lt_of_le zh hle.size
    replace zk := Nat.lt_of_lt_of_le zk hle.size
    replace zo := Nat.lt_of_lt_of_le zo hle.size
    replace S := S.le hle
    replace L0 := L0.trans hle
    replace S2 := S2.le hle
    replace S3 := S3.le hle
    replace NG := NG.le hle
    clear hle
    go_wp2_with fail
    obtain ⟨cv, zv, hleB⟩ := box1 w4 (.slice A4 L.length q4) 28
    replace ct := (hleB.cell zt).trans ct
    replace ch := (hleB.cell zh).trans ch
    replace ck := (hleB.cell zk).trans ck
    replace co := (hleB.cell zo).trans co
    replace zt := Nat.lt_of_lt_of_le zt hleB.size
    replace zh := Nat.lt_of_lt_of_le zh hleB.size
    replace zk := Nat.lt_of_lt_of_le zk hleB.size
    replace zo := Nat.lt_of_lt_of_le zo hleB.size
    replace S := S.le hleB
    replace L0 := L0.trans hleB
    replace S2 := S2.le hleB
    replace S3 := S3.le hleB
    replace S4 := S4.le hleB
    replace NG := NG.le hleB
    clear hleB
    generalize w4.alloc (.cells #[.slice A4 L.length q4] 28) = w5 at *
    refine (equalHeap_self A2 A4 _ q2 q4 L w5 S3 S4).mono ?_
    rintro e w6 ⟨rfl, hle⟩
    replace ct := (hle.cell zt).trans ct
    replace ch := (hle.cell zh).trans ch
    replace ck := (hle.cell zk).trans ck
    replace co := (hle.cell zo).trans co
    replace cv := (hle.cell zv).trans cv
    replace zt := Nat.lt_of_lt_of_le zt hle.size
    replace zh := Nat.lt_of_lt_of_le zh hle.size
    replace zk := Nat.lt_of_lt_of_le zk hle.size
    replace zo := Nat.lt_of_lt_of_le zo hle.size
    replace zv := Nat.lt_of_lt_of_le zv hle.size
    replace S := S.le hle
    replace L0 := L0.trans hle
    replace S2 := S2.le hle
    replace S3 := S3.le hle
    replace S4 := S4.le hle
    replace NG := NG.le hle
    clear hle
    go_wp2_with fail
    refine (equalHeap_self A2 A4 _ q2 q4 L _ S3 S4).mono ?_
    rintro e w7 ⟨rfl, hle⟩
    replace L0 := L0.trans hle
    clear hle
    go_wp2
    go_ret
    exact ⟨rfl, L0⟩
end
end Go.Proofs.YthcolcmgfhkbeaaDoor
