/- JoinHeaps of the program -/
import Derived.Test.YthcolcmgfhkbeaaHpR
import Derived.Test.YthcolcmgfhkbeaaVH
import Derived.Deep.RegionHeld3
import Derived.Deep.RegionLaw
namespace Go.Proofs.Ythcolcmgfhkbeaa
open Go.RowKit

theorem shiftLink_any (x : Int) (n : Nat) (w : World) (hn : n ≤ 1048576) (h0 : -1 ≤ x) (h1 : x ≤ 1048576) : Calls Try.prog 14 #[.int .i64 x, .int .i64 n] w fun e w' => e = .returned (.int .i64 (shl n x)) ∧ w = w' := by
  have hw : IntKind.i64.wrap (x + n) = x + n := IntWalk.i64_in _ (by omega)
  by_cases h : x < 0
  · have e : shl n x = x := by unfold shl; rw [if_pos h]
    have HE := Lib.hid e; clear e
    go_enter Try.func14, Try.ntmps14
    go_wp2
    go_ret
    exact ⟨ret_int HE.out.symm, rfl⟩
  · have e : shl n x = x + n := by unfold shl; rw [if_neg h]
    have HE := Lib.hid e; clear e
    go_enter Try.func14, Try.ntmps14
    go_wp2
    go_ret
    exact ⟨ret_int HE.out.symm, rfl⟩

set_option maxHeartbeats 200000000 in
set_option maxRecDepth 100000 in
theorem iJoinHeaps_any (A H K : Option Addr) (n cap m c l d : Nat) (xs : List Cls) (hs ks : List Flt) (w : World) (hR : Sl w A n cap xs) (hH : Sl w H m c hs) (hK : Sl w K l d ks) (hm : m ≤ 1048576) (hl : l ≤ 1048576) :
    Calls Try.prog 5 #[.agg #[.slice A n cap], .agg #[.slice H m c], .agg #[.slice K l d]] w fun e w' => ∃ v, e = .returned (.tuple #[.agg #[v], .bool (jhOk xs hs ks)]) ∧ Owd 45 w w' v (jhX xs hs ks) ∧ Le w w' := by
  obtain ⟨i0, hi, hz0, hz1, hz2⟩ := info_parts infoCcFault
  obtain rfl := hH.len
  obtain rfl := hK.len
  obtain ⟨W, hW, c0, z0, c1, z1, c2, z2, c3, z3, f3, L0⟩ := box4 w (.slice A n cap) (.slice H hs.length c) (.slice K ks.length d) (.slice none 0 0) 25 28 28 28
  have S0 := hR.le L0
  have S1 := hH.le L0
  have S2 := hK.le L0
  have HKO := Lib.hid hH.ok
  have HKK := Lib.hid hK.ok
  have hs0 : w.heap.size ≤ W.heap.size := L0.size
  have HV : Hid (jhOk xs hs ks = (okHeap xs hs && okHeap xs ks && decide (hs.length + ks.length ≤ 24))) := rfl
  have hn24 : IntKind.i64.wrap ((hs.length : Int) + (ks.length : Int)) = (hs.length : Int) + ks.length := IntWalk.i64_in _ (by omega)
  cases h1 : okHeap xs hs
  · have hX : jhOk xs hs ks = false := by rw [HV.out, h1]; rfl
    have HF := Lib.hid (jhX_of hX)
    have HX := Lib.hid hX; clear hX
    go_enter Try.func5, Try.ntmps5
    go_wp2_with fail
    rw [← hW]
    clear hW
    refine (iValidHeap_any A H n cap hs.length c xs hs W S0 S1 (by omega)).mono ?_
    rintro e w2 ⟨rfl, hle⟩
    rw [h1]
    replace c0 := (hle.cell z0).trans c0
    replace c1 := (hle.cell z1).trans c1
    replace c2 := (hle.cell z2).trans c2
    replace c3 := (hle.cell z3).trans c3
    replace f3 := (hle.frozen z3).trans f3
    replace z0 := Nat.lt_of_lt_of_le z0 hle.size
    replace z1 := Nat.lt_of_lt_of_le z1 hle.size
    replace z2 := Nat.lt_of_lt_of_le z2 hle.size
    replace z3 := Nat.lt_of_lt_of_le z3 hle.size
    replace L0 := L0.trans hle
    clear hle h1
    have hend := fun u => cell_set_same (v := u) c3
    go_wp2
    exact bodyPost_ret (v := .tuple #[.agg #[.slice none 0 0], .bool false]) (by simp [results, Try.results5, go_sem, hend]) rfl ⟨_, by rw [HX.out], by rw [HF.out]; exact Owd.nil _ _ _, L0.setCell (by omega) _⟩
  · cases h2 : okHeap xs ks
    · have hX : jhOk xs hs ks = false := by rw [HV.out, h1, h2]; rfl
      have HF := Lib.hid (jhX_of hX)
      have HX := Lib.hid hX; clear hX
      go_enter Try.func5, Try.ntmps5
      go_wp2_with fail
      rw [← hW]
      clear hW
      refine (iValidHeap_any A H n cap hs.length c xs hs W S0 S1 (by omega)).mono ?_
      rintro e w2 ⟨rfl, hle⟩
      rw [h1]
      replace c0 := (hle.cell z0).trans c0
      replace c1 := (hle.cell z1).trans c1
      replace c2 := (hle.cell z2).trans c2
      replace c3 := (hle.cell z3).trans c3
      replace f3 := (hle.frozen z3).trans f3
      replace z0 := Nat.lt_of_lt_of_le z0 hle.size
      replace z1 := Nat.lt_of_lt_of_le z1 hle.size
      replace z2 := Nat.lt_of_lt_of_le z2 hle.size
      replace z3 := Nat.lt_of_lt_of_le z3 hle.size
      replace L0 := L0.trans hle
      replace S0 := S0.le hle
      replace S2 := S2.le hle
      clear hle h1
      go_wp2_with fail
      refine (iValidHeap_any A K n cap ks.length d xs ks _ S0 S2 (by omega)).mono ?_
      rintro e w3 ⟨rfl, hle⟩
      rw [h2]
      replace c0 := (hle.cell z0).trans c0
      replace c1 := (hle.cell z1).trans c1
      replace c2 := (hle.cell z2).trans c2
      replace c3 := (hle.cell z3).trans c3
      replace f3 := (hle.frozen z3).trans f3
      replace z0 := Nat.lt_of_lt_of_le z0 hle.size
      replace z1 := Nat.lt_of_lt_of_le z1 hle.size
      replace z2 := Nat.lt_of_lt_of_le z2 hle.size
      replace z3 := Nat.lt_of_lt_of_le z3 hle.size
      replace L0 := L0.trans hle
      clear hle h2
      have hend := fun u => cell_set_same (v := u) c3
      go_wp2
      exact bodyPost_ret (v := .tuple #[.agg #[.slice none 0 0], .bool false]) (by simp [results, Try.results5, go_sem, hend]) rfl ⟨_, by rw [HX.out], by rw [HF.out]; exact Owd.nil _ _ _, L0.setCell (by omega) _⟩
    · by_cases h24 : hs.length + ks.length ≤ 24
      case neg =>
        have hX : jhOk xs hs ks = false := by rw [HV.out, decide_eq_false h24, Bool.and_false]
        have HF := Lib.hid (jhX_of hX)
        have HX := Lib.hid hX; clear hX
        have hd1 : decide (24 < hs.length + ks.length) = true := decide_eq_true (by omega)
        have hd2 : decide ((24 : Int) < (hs.length : Int) + ks.length) = true := decide_eq_true (by omega)
        go_enter Try.func5, Try.ntmps5
        go_wp2_with fail
        rw [← hW]
        clear hW
        refine (iValidHeap_any A H n cap hs.length c xs hs W S0 S1 (by omega)).mono ?_
        rintro e w2 ⟨rfl, hle⟩
        rw [h1]
        replace c0 := (hle.cell z0).trans c0
        replace c1 := (hle.cell z1).trans c1
        replace c2 := (hle.cell z2).trans c2
        replace c3 := (hle.cell z3).trans c3
        replace f3 := (hle.frozen z3).trans f3
        replace z0 := Nat.lt_of_lt_of_le z0 hle.size
        replace z1 := Nat.lt_of_lt_of_le z1 hle.size
        replace z2 := Nat.lt_of_lt_of_le z2 hle.size
        replace z3 := Nat.lt_of_lt_of_le z3 hle.size
        replace L0 := L0.trans hle
        replace S0 := S0.le hle
        replace S2 := S2.le hle
        clear hle h1
        go_wp2_with fail
        refine (iValidHeap_any A K n cap ks.length d xs ks _ S0 S2 (by omega)).mono ?_
        rintro e w3 ⟨rfl, hle⟩
        rw [h2]
        replace c0 := (hle.cell z0).trans c0
        replace c1 := (hle.cell z1).trans c1
        replace c2 := (hle.cell z2).trans c2
        replace c3 := (hle.cell z3).trans c3
        replace f3 := (hle.frozen z3).trans f3
        replace z0 := Nat.lt_of_lt_of_le z0 hle.size
        replace z1 := Nat.lt_of_lt_of_le z1 hle.size
        replace z2 := Nat.lt_of_lt_of_le z2 hle.size
        replace z3 := Nat.lt_of_lt_of_le z3 hle.size
        replace L0 := L0.trans hle
        clear hle h2
        have hend := fun u => cell_set_same (v := u) c3
        go_wp2
        exact bodyPost_ret (v := .tuple #[.agg #[.slice none 0 0], .bool false]) (by simp [results, Try.results5, go_sem, hend]) rfl ⟨_, by rw [HX.out], by rw [HF.out]; exact Owd.nil _ _ _, L0.setCell (by omega) _⟩
      have hX : jhOk xs hs ks = true := by rw [HV.out, h1, h2, decide_eq_true h24]; rfl
      have HF := Lib.hid (jhX_of hX)
      have HX := Lib.hid hX; clear hX
      have gh := goodH_of h1
      have gk := goodH_of h2
      have hfewh := gh.few
      have hfewk := gk.few
      have hkl : ∀ i (h : i < ks.length), (-1 ≤ ks[i].cause ∧ ks[i].cause ≤ 24) ∧ (-1 ≤ ks[i].ctx ∧ ks[i].ctx ≤ 24) := fun i h => by
        have a := gk.lnk.cause i h
        have b := gk.lnk.ctx i h
        exact ⟨⟨a.1, by omega⟩, ⟨b.1, by omega⟩⟩
      have HKL := Lib.hid hkl; clear hkl
      clear gh gk
      have hd1 : decide (24 < hs.length + ks.length) = false := decide_eq_false (by omega)
      have hd2 : decide ((24 : Int) < (hs.length : Int) + ks.length) = false := decide_eq_false (by omega)
      go_enter Try.func5, Try.ntmps5
      go_wp2_with fail
      rw [← hW]
      clear hW
      have zW := z3
      refine (iValidHeap_any A H n cap hs.length c xs hs W S0 S1 (by omega)).mono ?_
      rintro e w2 ⟨rfl, hle⟩
      rw [h1]
      replace c0 := (hle.cell z0).trans c0
      replace c1 := (hle.cell z1).trans c1
      replace c2 := (hle.cell z2).trans c2
      replace c3 := (hle.cell z3).trans c3
      replace f3 := (hle.frozen z3).trans f3
      replace z0 := Nat.lt_of_lt_of_le z0 hle.size
      replace z1 := Nat.lt_of_lt_of_le z1 hle.size
      replace z2 := Nat.lt_of_lt_of_le z2 hle.size
      replace z3 := Nat.lt_of_lt_of_le z3 hle.size
      replace L0 := L0.trans hle
      replace S0 := S0.le hle
      replace S1 := S1.le hle
      replace S2 := S2.le hle
      clear hle h1
      go_wp2_with fail
      refine (iValidHeap_any A K n cap ks.length d xs ks _ S0 S2 (by omega)).mono ?_
      rintro e w3 ⟨rfl, hle⟩
      rw [h2]
      replace c0 := (hle.cell z0).trans c0
      replace c1 := (hle.cell z1).trans c1
      replace c2 := (hle.cell z2).trans c2
      replace c3 := (hle.cell z3).trans c3
      replace f3 := (hle.frozen z3).trans f3
      replace z0 := Nat.lt_of_lt_of_le z0 hle.size
      replace z1 := Nat.lt_of_lt_of_le z1 hle.size
      replace z2 := Nat.lt_of_lt_of_le z2 hle.size
      replace z3 := Nat.lt_of_lt_of_le z3 hle.size
      replace L0 := L0.trans hle
      replace S0 := S0.le hle
      replace S1 := S1.le hle
      replace S2 := S2.le hle
      clear hle h2
      go_wp2_with fail
      refine (iCopyHeap_any H hs.length c hs _ S1 (by omega)).mono ?_
      rintro e w4 ⟨v, rfl, D, hle⟩
      have s4 := hle.size
      obtain ⟨A4, q4, rfl⟩ := own_form D.row
      have O4 := D.row
      have hlt4 := O4.lt
      have HLT := Lib.hid hlt4; clear hlt4
      clear D
      have y0 := z0; have y1 := z1; have y2 := z2; have y3 := z3
      have HE0 := Lib.hid c0; have HE1 := Lib.hid c1; have HE2 := Lib.hid c2; have HE3 := Lib.hid c3; have HG3 := Lib.hid f3; have HL0 := Lib.hid L0; have HS0 := Lib.hid S0; have HS2 := Lib.hid S2
      replace c0 := (hle.cell z0).trans c0
      replace c1 := (hle.cell z1).trans c1
      replace c2 := (hle.cell z2).trans c2
      replace c3 := (hle.cell z3).trans c3
      replace f3 := (hle.frozen z3).trans f3
      replace z0 := Nat.lt_of_lt_of_le z0 hle.size
      replace z1 := Nat.lt_of_lt_of_le z1 hle.size
      replace z2 := Nat.lt_of_lt_of_le z2 hle.size
      replace z3 := Nat.lt_of_lt_of_le z3 hle.size
      replace L0 := L0.trans hle
      replace S0 := S0.le hle
      replace S2 := S2.le hle
      have LB := Le.new w4 (.cells #[.slice A4 hs.length q4] 28)
      have cB : (w4.alloc (.cells #[.slice A4 hs.length q4] 28)).cell? ⟨w4.heap.size, 0, none⟩ = some (.slice A4 hs.length q4) := by rw [World.cell?_alloc_at _ _ _ _ rfl]; rfl
      have zB : w4.heap.size < (w4.alloc (.cells #[.slice A4 hs.length q4] 28)).heap.size := by simp
      have O5 : (w4.alloc (.cells #[.slice A4 hs.length q4] 28)).ownsRow w3.heap.size 45 5 (.slice A4 hs.length q4) hs.length (hs.flatMap Enc.cells) := own_le O4 LB
      have L35 := hle.trans LB
      replace c0 := (LB.cell z0).trans c0
      replace c1 := (LB.cell z1).trans c1
      replace c2 := (LB.cell z2).trans c2
      replace c3 := (LB.cell z3).trans c3
      replace f3 := (LB.frozen z3).trans f3
      replace z0 := Nat.lt_of_lt_of_le z0 LB.size
      replace z1 := Nat.lt_of_lt_of_le z1 LB.size
      replace z2 := Nat.lt_of_lt_of_le z2 LB.size
      replace z3 := Nat.lt_of_lt_of_le z3 LB.size
      replace L0 := L0.trans LB
      replace S0 := S0.le LB
      replace S2 := S2.le LB
      clear LB hle
      have fB : (w4.alloc (.cells #[.slice A4 hs.length q4] 28)).frozen? ⟨w4.heap.size, 0, none⟩ = false := World.frozen?_alloc_at _ _ _ _ rfl
      go_wp2
      clear c0 c1 c2 c3 f3 z0 z1 z2 z3 L0 S0 S2 S1
      go_loopw [11, 39] (fun xp q wr => ∃ (k : Nat) (A' : Option Addr) (c' : Nat), k ≤ ks.length ∧ q = .int .i64 k ∧ Le w3 wr ∧ w4.heap.size < wr.heap.size ∧ wr.cell? ⟨w4.heap.size, 0, none⟩ = some (.slice A' (hs.length + k) c') ∧ wr.frozen? ⟨w4.heap.size, 0, none⟩ = false ∧
        wr.ownsRow w3.heap.size 45 5 (.slice A' (hs.length + k) c') (hs.length + k) ((hs ++ (ks.take k).map (shF hs.length)).flatMap Enc.cells) ∧ (Value.slice A' (hs.length + k) c').ownBlock ≠ some w4.heap.size) (fun _ q _ => ks.length - (intOf q).toNat)
      case atStart => exact ⟨0, A4, q4, Nat.zero_le _, rfl, L35, zB, cB, fB, by simpa using O5, fun e => by have := (HLT.out _ e).2; omega⟩
      case round =>
        obtain ⟨k, A', c', hk, rfl, hle, zB, cB, fB, O, hne⟩ := hrel
        have c0 := (hle.cell y0).trans HE0.out
        have c1 := (hle.cell y1).trans HE1.out
        have c2 := (hle.cell y2).trans HE2.out
        have c3 := (hle.cell y3).trans HE3.out
        have f3 := (hle.frozen y3).trans HG3.out
        have z3 := Nat.lt_of_lt_of_le y3 hle.size
        have L0 := HL0.out.trans hle
        have S2 := HS2.out.le hle
        have hltO := O.lt
        have HLTO := Lib.hid hltO; clear hltO
        have HNE := Lib.hid hne; clear hne
        by_cases hlt : k < ks.length
        · obtain ⟨b, off, rfl, hb, k0, k1, k2, k3, k4, -⟩ := S2.flt_at hlt
          obtain ⟨⟨hc0, hc1⟩, hx0, hx1⟩ := HKL.out k hlt
          have HOK := Lib.hid (shF_ok hfewh (HKK.out _ (List.getElem_mem hlt)) hc1 hx1)
          have HJT := Lib.hid (join_take (hs := hs) hlt)
          have HSH : Hid (shF hs.length ks[k] = ⟨ks[k].cls, ks[k].code, shl hs.length ks[k].cause, shl hs.length ks[k].ctx, ks[k].hide⟩) := rfl
          have hkl : ((k : Int) < (ks.length : Int)) := by omega
          have hsr1 : -1 ≤ shl hs.length ks[k].cause ∧ shl hs.length ks[k].cause ≤ 48 := by unfold shl; split <;> omega
          have hsr2 : -1 ≤ shl hs.length ks[k].ctx ∧ shl hs.length ks[k].ctx ≤ 48 := by unfold shl; split <;> omega
          generalize hx : ks[k] = x at *
          clear hx
          generalize x.cls = xc at *
          generalize x.code = xd at *
          generalize x.cause = xa at *
          generalize x.ctx = xb at *
          generalize x.hide = xh at *
          have HSA := fun w => shiftLink_any xa hs.length w (by omega) (by omega) (by omega)
          have HSB := fun w => shiftLink_any xb hs.length w (by omega) (by omega) (by omega)
          have HA := Lib.hid HSA; have HB := Lib.hid HSB
          clear HSA HSB
          generalize shl hs.length xa = ya at *
          generalize shl hs.length xb = yb at *
          go_wp2_with fail
          have HKP := Lib.hid (And.intro O (And.intro zB (And.intro cB (And.intro fB hle))))
          clear O zB cB fB hle c0 c1 c2 c3 f3 z3 L0 S2 hb k0 k1 k2 k3 k4 hkl hsr1 hsr2 hc0 hc1 hx0 hx1 h24 hd1 hd2 hn24 hR hH hK hm hl zW O4 O5 L35
          go_region_law (first
            | (go_simp; go_at_call 14; refine (HA.out _).mono ?_; rintro e wq ⟨rfl, rfl⟩)
            | (go_simp; go_at_call 14; refine (HB.out _).mono ?_; rintro e wq ⟨rfl, rfl⟩))
          all_goals
            obtain ⟨O, zB, cB, fB, hle⟩ := HKP.out
            have LX : Le wr (((wr.alloc (.cells #[.int .i64 xc, .int .i64 xd, .int .i64 ya, .int .i64 yb, .bool xh] 45)).alloc (.cells #[.int .i64 xc, .int .i64 xd, .int .i64 ya, .int .i64 yb, .bool xh] 45)).drew) := ((Le.new wr (.cells #[.int .i64 xc, .int .i64 xd, .int .i64 ya, .int .i64 yb, .bool xh] 45)).alloc (.cells #[.int .i64 xc, .int .i64 xd, .int .i64 ya, .int .i64 yb, .bool xh] 45)).drew
            have cBX := (LX.cell zB).trans cB
            have fBX := (LX.frozen zB).trans fB
            have sX := LX.size
            have hX1 : (wr.alloc (.cells #[.int .i64 xc, .int .i64 xd, .int .i64 ya, .int .i64 yb, .bool xh] 45)).heap.size = wr.heap.size + 1 := by simp
            have hX2 : (((wr.alloc (.cells #[.int .i64 xc, .int .i64 xd, .int .i64 ya, .int .i64 yb, .bool xh] 45)).alloc (.cells #[.int .i64 xc, .int .i64 xd, .int .i64 ya, .int .i64 yb, .bool xh] 45)).drew).heap.size = wr.heap.size + 1 + 1 := by show ((wr.alloc _).alloc _).heap.size = _; simp
            rw [HSH.out] at HOK
            have SX := sl_one (w := wr.alloc (.cells #[.int .i64 xc, .int .i64 xd, .int .i64 ya, .int .i64 yb, .bool xh] 45)) (cs := #[.int .i64 xc, .int .i64 xd, .int .i64 ya, .int .i64 yb, .bool xh]) (T := 45) (⟨xc, xd, ya, yb, xh⟩ : Flt) rfl HOK.out (b := wr.heap.size + 1) hX1.symm
            have SX2 : Sl (((wr.alloc (.cells #[.int .i64 xc, .int .i64 xd, .int .i64 ya, .int .i64 yb, .bool xh] 45)).alloc (.cells #[.int .i64 xc, .int .i64 xd, .int .i64 ya, .int .i64 yb, .bool xh] 45)).drew) (some ⟨wr.heap.size + 1, 0, none⟩) 1 1 [(⟨xc, xd, ya, yb, xh⟩ : Flt)] := SX.le (Le.refl _).drew
            have OX : (((wr.alloc (.cells #[.int .i64 xc, .int .i64 xd, .int .i64 ya, .int .i64 yb, .bool xh] 45)).alloc (.cells #[.int .i64 xc, .int .i64 xd, .int .i64 ya, .int .i64 yb, .bool xh] 45)).drew).ownsRow w3.heap.size 45 5 (.slice A' (hs.length + k) c') (hs.length + k) ((hs ++ (ks.take k).map (shF hs.length)).flatMap Enc.cells) := ((O.alloc (.cells #[.int .i64 xc, .int .i64 xd, .int .i64 ya, .int .i64 yb, .bool xh] 45)).alloc (.cells #[.int .i64 xc, .int .i64 xd, .int .i64 ya, .int .i64 yb, .bool xh] 45)).drew
            have HX2 := Lib.hid hX2
            have m1 : hs.length + k + 1 ≤ maxLen := by unfold maxLen; omega
            have m2 : (hs.length + k + 1) * 40 ≤ 140737488355328 := by omega
            have m3 : w3.heap.size ≤ (((wr.alloc (.cells #[.int .i64 xc, .int .i64 xd, .int .i64 ya, .int .i64 yb, .bool xh] 45)).alloc (.cells #[.int .i64 xc, .int .i64 xd, .int .i64 ya, .int .i64 yb, .bool xh] 45)).drew).heap.size := Nat.le_trans hle.size sX
            clear hX1 hX2 SX
            go_wp2_with (at_builtin; refine wpList_append_sl rfl _ _ 26 rfl (w3.heap.size) 45 i0 _ 40 Try.underlying26 hi hz0 hz1 hz2 rfl (.slice A' (hs.length + k) c') (hs.length + k) (hs ++ (ks.take k).map (shF hs.length)) rfl OX (some ⟨wr.heap.size + 1, 0, none⟩) 1 1 [(⟨xc, xd, ya, yb, xh⟩ : Flt)] rfl SX2 m1 m2 m3 ?_; intro v1 w1 O1 hg1 hat; have cB1 := hg1.cell (a := ⟨w4.heap.size, 0, none⟩) cBX (fun e => HNE.out e.symm); have fB1 := (World.frozen?_of_block (a := ⟨w4.heap.size, 0, none⟩) (hg1.block (w4.heap.size) (Nat.lt_of_lt_of_le zB sX) (fun e => HNE.out e.symm))).trans fBX; obtain ⟨A2, q2, rfl⟩ := own_form O1)
            have hne2 : (Value.slice A2 (hs.length + k + 1) q2).ownBlock ≠ some w4.heap.size := by
              rcases hat with h | h
              · rw [h]; exact HNE.out
              · rw [h, HX2.out]; intro e; injection e with e; omega
            have L1 := (hle.trans LX).grown hg1 (fun k hk => (HLTO.out k hk).1)
            have s1 := hg1.size
            rw [show hs ++ (ks.take k).map (shF hs.length) ++ [(⟨xc, xd, ya, yb, xh⟩ : Flt)] = hs ++ (ks.take (k + 1)).map (shF hs.length) from by rw [← HJT.out, HSH.out]] at O1
            have O2 := O1.kept (grown_set w1 w4.heap.size 0 (.slice A2 (hs.length + k + 1) q2)) (.inr hne2)
            go_roundw
            case rel => exact ⟨k + 1, A2, q2, by omega, by go_num, L1.setCell (by omega) _, by simpa [World.setCell] using Nat.lt_of_lt_of_le (Nat.lt_of_lt_of_le zB sX) s1, cell_set_same cB1, by simpa using fB1, O2, hne2⟩
            case measure => simp [intOf]; omega
        · have hkk : k = ks.length := by omega
          subst hkk
          have hJK : hs ++ (ks.take ks.length).map (shF hs.length) = joinL hs ks := by rw [List.take_length]; rfl
          have hokj := joinL_ok (k := ks.length) (hs := hs) (ks := ks) hfewh HKO.out HKK.out (fun i h => ⟨(HKL.out i h).1.2, (HKL.out i h).2.2⟩)
          rw [hJK] at O hokj
          have HE := Lib.hid (res_end (r := w.heap.size + 1 + 1 + 1) L0 (by omega) y3 (show wr.ownsRow w3.heap.size 45 (Enc.size Flt) (.slice A' (hs.length + ks.length) c') (joinL hs ks).length _ from by rw [joinL_len]; exact O) hokj)
          have hend := fun u => cell_set_same (v := u) c3
          clear hJK hokj O
          go_wp2
          exact bodyPost_ret (v := .tuple #[.agg #[.slice A' (hs.length + ks.length) c'], .bool true]) (by simp [results, Try.results5, go_sem, hend]) rfl ⟨_, by rw [HX.out], by rw [HF.out]; exact (HE.out _).1, (HE.out _).2⟩
end Go.Proofs.Ythcolcmgfhkbeaa
