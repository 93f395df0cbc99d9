/- JoinHeaps of the model -/
import Derived.Test.YthcolcmgfhkbeaaHpE
import Derived.Test.YthcolcmgfhkbeaaHpF
import Derived.Test.YthcolcmgfhkbeaaPJ
namespace Go.Proofs.Ythcolcmgfhkbeaa
open Go.RowKit

def jhOk (xs : List Cls) (hs ks : List Flt) : Bool := okHeap xs hs && okHeap xs ks && decide (hs.length + ks.length ≤ 24)
def jhX (xs : List Cls) (hs ks : List Flt) : List Flt := cond (jhOk xs hs ks) (joinL hs ks) []
theorem jhX_of {xs : List Cls} {hs ks : List Flt} {t : Bool} (h : jhOk xs hs ks = t) : jhX xs hs ks = cond t (joinL hs ks) [] := by unfold jhX; rw [h]
theorem jhX_len (xs : List Cls) (hs ks : List Flt) : (jhX xs hs ks).length ≤ 1048576 := by
  cases h : jhOk xs hs ks
  · rw [jhX_of h]; simp
  · rw [jhX_of h]
    unfold jhOk at h
    simp only [Bool.and_eq_true, decide_eq_true_eq] at h
    show (joinL hs ks).length ≤ _
    rw [joinL_len]; omega
theorem shF_ok {n : Nat} {x : Flt} (hn : n ≤ 24) (h : Enc.ok x) (h1 : x.cause ≤ 24) (h2 : x.ctx ≤ 24) : Enc.ok (shF n x) := by
  obtain ⟨a1, a2, a3, a4, a5, a6, a7, a8⟩ := h
  refine ⟨a1, a2, a3, a4, ?_, ?_, ?_, ?_⟩
  all_goals (simp only [shF, shl]; split <;> omega)
theorem joinL_ok {hs ks : List Flt} {k : Nat} (hn : hs.length ≤ 24) (h : ∀ x ∈ hs, Enc.ok x) (h2 : ∀ x ∈ ks, Enc.ok x) (h3 : ∀ i (h : i < ks.length), ks[i].cause ≤ 24 ∧ ks[i].ctx ≤ 24) : ∀ x ∈ hs ++ (ks.take k).map (shF hs.length), Enc.ok x := by
  intro x hx
  rcases List.mem_append.1 hx with hx | hx
  · exact h x hx
  · obtain ⟨y, hy, rfl⟩ := List.mem_map.1 hx
    have hy' := List.mem_of_mem_take hy
    obtain ⟨i, hi, rfl⟩ := List.getElem_of_mem hy'
    exact shF_ok hn (h2 _ hy') (h3 i hi).1 (h3 i hi).2
theorem join_take {hs ks : List Flt} {k : Nat} (hk : k < ks.length) : (hs ++ (ks.take k).map (shF hs.length)) ++ [shF hs.length ks[k]] = hs ++ (ks.take (k + 1)).map (shF hs.length) := by
  rw [List.take_succ_eq_append_getElem hk, List.map_append, List.append_assoc]; rfl
theorem box4 (w : World) (v u x y : Value) (T U X Y : TypeId) : ∃ W, W = ((((w.alloc (.cells #[v] T)).alloc (.cells #[u] U)).alloc (.cells #[x] X)).alloc (.cells #[y] Y)) ∧ W.cell? ⟨w.heap.size, 0, none⟩ = some v ∧ w.heap.size < W.heap.size ∧
    W.cell? ⟨w.heap.size + 1, 0, none⟩ = some u ∧ w.heap.size + 1 < W.heap.size ∧ W.cell? ⟨w.heap.size + 1 + 1, 0, none⟩ = some x ∧ w.heap.size + 1 + 1 < W.heap.size ∧ W.cell? ⟨w.heap.size + 1 + 1 + 1, 0, none⟩ = some y ∧ w.heap.size + 1 + 1 + 1 < W.heap.size ∧
    W.frozen? ⟨w.heap.size + 1 + 1 + 1, 0, none⟩ = false ∧ Le w W := by
  obtain ⟨a, b, c, d, e, f, g⟩ := box3 w v u x T U X
  refine ⟨_, rfl, ?_, by simp <;> omega, ?_, by simp <;> omega, ?_, by simp <;> omega, ?_, by simp, ?_, g.alloc _⟩
  · rw [World.cell?_alloc_past _ _ _ b]; exact a
  · rw [World.cell?_alloc_past _ _ _ d]; exact c
  · rw [World.cell?_alloc_past _ _ _ f]; exact e
  · rw [World.cell?_alloc_at _ _ _ _ (by simp)]; rfl
  · exact World.frozen?_alloc_at _ _ _ _ (by simp)

set_option maxHeartbeats 8000000 in
set_option maxRecDepth 100000 in
theorem sJoinHeaps_any (A H K : Option Addr) (n cap m c l d : Nat) (xs : List Cls) (hs ks : List Flt) (w : World) (hR : Sl w A n cap xs) (hH : Sl w H m c hs) (hK : Sl w K l d ks) (hm : m ≤ 1048576) (hl : l ≤ 1048576) :
    Calls Try.prog 6 #[.agg #[.slice A n cap], .agg #[.slice H m c], .agg #[.slice K l d]] w fun e w' => ∃ v, e = .returned (.tuple #[.agg #[v], .bool (jhOk xs hs ks)]) ∧ Owd 45 w w' v (jhX xs hs ks) ∧ Le w w' := by
  obtain ⟨i0, hi, hz0, hz1, hz2⟩ := info_parts infoCcFault
  obtain rfl := hH.len
  obtain rfl := hK.len
  obtain ⟨W, hW, c0, z0, c1, z1, c2, z2, c3, z3, f3, L0⟩ := box4 w (.slice A n cap) (.slice H hs.length c) (.slice K ks.length d) (.slice none 0 0) 25 28 28 28
  have S0 := hR.le L0
  have S1 := hH.le L0
  have S2 := hK.le L0
  have HKO := Lib.hid hH.ok
  have HKK := Lib.hid hK.ok
  have hs0 : w.heap.size ≤ W.heap.size := L0.size
  have HV : Hid (jhOk xs hs ks = (okHeap xs hs && okHeap xs ks && decide (hs.length + ks.length ≤ 24))) := rfl
  cases h1 : okHeap xs hs
  · have hX : jhOk xs hs ks = false := by rw [HV.out, h1]; rfl
    have HF := Lib.hid (jhX_of hX)
    have HX := Lib.hid hX; clear hX
    go_enter Try.func6, Try.ntmps6
    go_wp2_with fail
    rw [← hW]
    clear hW
    refine (validHeap_any A H n cap hs.length c xs hs W S0 S1 (by omega)).mono ?_
    rintro e w2 ⟨rfl, hle⟩
    rw [h1]
    replace c0 := (hle.cell z0).trans c0
    replace c1 := (hle.cell z1).trans c1
    replace c2 := (hle.cell z2).trans c2
    replace c3 := (hle.cell z3).trans c3
    replace f3 := (hle.frozen z3).trans f3
    replace z0 := Nat.lt_of_lt_of_le z0 hle.size
    replace z1 := Nat.lt_of_lt_of_le z1 hle.size
    replace z2 := Nat.lt_of_lt_of_le z2 hle.size
    replace z3 := Nat.lt_of_lt_of_le z3 hle.size
    replace L0 := L0.trans hle
    clear hle h1
    have hend := fun u => cell_set_same (v := u) c3
    go_wp2
    exact bodyPost_ret (v := .tuple #[.agg #[.slice none 0 0], .bool false]) (by simp [results, Try.results6, go_sem, hend]) rfl ⟨_, by rw [HX.out], by rw [HF.out]; exact Owd.nil _ _ _, L0.setCell (by omega) _⟩
  · cases h2 : okHeap xs ks
    · have hX : jhOk xs hs ks = false := by rw [HV.out, h1, h2]; rfl
      have HF := Lib.hid (jhX_of hX)
      have HX := Lib.hid hX; clear hX
      go_enter Try.func6, Try.ntmps6
      go_wp2_with fail
      rw [← hW]
      clear hW
      refine (validHeap_any A H n cap hs.length c xs hs W S0 S1 (by omega)).mono ?_
      rintro e w2 ⟨rfl, hle⟩
      rw [h1]
      replace c0 := (hle.cell z0).trans c0
      replace c1 := (hle.cell z1).trans c1
      replace c2 := (hle.cell z2).trans c2
      replace c3 := (hle.cell z3).trans c3
      replace f3 := (hle.frozen z3).trans f3
      replace z0 := Nat.lt_of_lt_of_le z0 hle.size
      replace z1 := Nat.lt_of_lt_of_le z1 hle.size
      replace z2 := Nat.lt_of_lt_of_le z2 hle.size
      replace z3 := Nat.lt_of_lt_of_le z3 hle.size
      replace L0 := L0.trans hle
      replace S0 := S0.le hle
      replace S2 := S2.le hle
      clear hle h1
      go_wp2_with fail
      refine (validHeap_any A K n cap ks.length d xs ks _ S0 S2 (by omega)).mono ?_
      rintro e w3 ⟨rfl, hle⟩
      rw [h2]
      replace c0 := (hle.cell z0).trans c0
      replace c1 := (hle.cell z1).trans c1
      replace c2 := (hle.cell z2).trans c2
      replace c3 := (hle.cell z3).trans c3
      replace f3 := (hle.frozen z3).trans f3
      replace z0 := Nat.lt_of_lt_of_le z0 hle.size
      replace z1 := Nat.lt_of_lt_of_le z1 hle.size
      replace z2 := Nat.lt_of_lt_of_le z2 hle.size
      replace z3 := Nat.lt_of_lt_of_le z3 hle.size
      replace L0 := L0.trans hle
      clear hle h2
      have hend := fun u => cell_set_same (v := u) c3
      go_wp2
      exact bodyPost_ret (v := .tuple #[.agg #[.slice none 0 0], .bool false]) (by simp [results, Try.results6, go_sem, hend]) rfl ⟨_, by rw [HX.out], by rw [HF.out]; exact Owd.nil _ _ _, L0.setCell (by omega) _⟩
    · have gh := goodH_of h1
      have gk := goodH_of h2
      have hjo := join_ok h1 h2
      have HJO := Lib.hid hjo
      have hfewh := gh.few
      have hfewk := gk.few
      have hkl : ∀ i (h : i < ks.length), (-1 ≤ ks[i].cause ∧ ks[i].cause ≤ 24) ∧ (-1 ≤ ks[i].ctx ∧ ks[i].ctx ≤ 24) := fun i h => by
        have a := gk.lnk.cause i h
        have b := gk.lnk.ctx i h
        exact ⟨⟨a.1, by omega⟩, ⟨b.1, by omega⟩⟩
      have HKL := Lib.hid hkl; clear hkl
      clear hjo gh gk
      go_enter Try.func6, Try.ntmps6
      go_wp2_with fail
      rw [← hW]
      clear hW
      have zW := z3
      refine (validHeap_any A H n cap hs.length c xs hs W S0 S1 (by omega)).mono ?_
      rintro e w2 ⟨rfl, hle⟩
      rw [h1]
      replace c0 := (hle.cell z0).trans c0
      replace c1 := (hle.cell z1).trans c1
      replace c2 := (hle.cell z2).trans c2
      replace c3 := (hle.cell z3).trans c3
      replace f3 := (hle.frozen z3).trans f3
      replace z0 := Nat.lt_of_lt_of_le z0 hle.size
      replace z1 := Nat.lt_of_lt_of_le z1 hle.size
      replace z2 := Nat.lt_of_lt_of_le z2 hle.size
      replace z3 := Nat.lt_of_lt_of_le z3 hle.size
      replace L0 := L0.trans hle
      replace S0 := S0.le hle
      replace S1 := S1.le hle
      replace S2 := S2.le hle
      clear hle
      have HV1 := Lib.hid h1; clear h1
      go_wp2_with fail
      refine (validHeap_any A K n cap ks.length d xs ks _ S0 S2 (by omega)).mono ?_
      rintro e w3 ⟨rfl, hle⟩
      rw [h2]
      replace c0 := (hle.cell z0).trans c0
      replace c1 := (hle.cell z1).trans c1
      replace c2 := (hle.cell z2).trans c2
      replace c3 := (hle.cell z3).trans c3
      replace f3 := (hle.frozen z3).trans f3
      replace z0 := Nat.lt_of_lt_of_le z0 hle.size
      replace z1 := Nat.lt_of_lt_of_le z1 hle.size
      replace z2 := Nat.lt_of_lt_of_le z2 hle.size
      replace z3 := Nat.lt_of_lt_of_le z3 hle.size
      replace L0 := L0.trans hle
      replace S0 := S0.le hle
      replace S1 := S1.le hle
      replace S2 := S2.le hle
      clear hle
      have HV2 := Lib.hid h2; clear h2
      go_wp2_with fail
      refine (sCopyHeap_any H hs.length c hs _ S1 (by omega)).mono ?_
      rintro e w4 ⟨v, rfl, D, hle⟩
      have s4 := hle.size
      obtain ⟨A4, q4, rfl⟩ := own_form D.row
      have O4 := D.row
      have hlt4 := O4.lt
      have HLT := Lib.hid hlt4; clear hlt4
      clear D
      have e0 := c0; have e1 := c1; have e2 := c2; have e3 := c3; have g3 := f3; have y0 := z0; have y1 := z1; have y2 := z2; have y3 := z3
      have HE0 := Lib.hid e0; have HE1 := Lib.hid e1; have HE2 := Lib.hid e2; have HE3 := Lib.hid e3; have HG3 := Lib.hid g3; have HL0 := Lib.hid L0; have HS0 := Lib.hid S0; have HS2 := Lib.hid S2
      clear e0 e1 e2 e3 g3
      replace c0 := (hle.cell z0).trans c0
      replace c1 := (hle.cell z1).trans c1
      replace c2 := (hle.cell z2).trans c2
      replace c3 := (hle.cell z3).trans c3
      replace f3 := (hle.frozen z3).trans f3
      replace z0 := Nat.lt_of_lt_of_le z0 hle.size
      replace z1 := Nat.lt_of_lt_of_le z1 hle.size
      replace z2 := Nat.lt_of_lt_of_le z2 hle.size
      replace z3 := Nat.lt_of_lt_of_le z3 hle.size
      replace L0 := L0.trans hle
      replace S0 := S0.le hle
      replace S2 := S2.le hle
      have LB := Le.new w4 (.cells #[.slice A4 hs.length q4] 28)
      have cB : (w4.alloc (.cells #[.slice A4 hs.length q4] 28)).cell? ⟨w4.heap.size, 0, none⟩ = some (.slice A4 hs.length q4) := by rw [World.cell?_alloc_at _ _ _ _ rfl]; rfl
      have zB : w4.heap.size < (w4.alloc (.cells #[.slice A4 hs.length q4] 28)).heap.size := by simp
      have O5 : (w4.alloc (.cells #[.slice A4 hs.length q4] 28)).ownsRow w3.heap.size 45 5 (.slice A4 hs.length q4) hs.length (hs.flatMap Enc.cells) := own_le O4 LB
      have L35 := hle.trans LB
      replace c0 := (LB.cell z0).trans c0
      replace c1 := (LB.cell z1).trans c1
      replace c2 := (LB.cell z2).trans c2
      replace c3 := (LB.cell z3).trans c3
      replace f3 := (LB.frozen z3).trans f3
      replace z0 := Nat.lt_of_lt_of_le z0 LB.size
      replace z1 := Nat.lt_of_lt_of_le z1 LB.size
      replace z2 := Nat.lt_of_lt_of_le z2 LB.size
      replace z3 := Nat.lt_of_lt_of_le z3 LB.size
      replace L0 := L0.trans LB
      replace S0 := S0.le LB
      replace S2 := S2.le LB
      clear LB hle
      have fB : (w4.alloc (.cells #[.slice A4 hs.length q4] 28)).frozen? ⟨w4.heap.size, 0, none⟩ = false := World.frozen?_alloc_at _ _ _ _ rfl
      go_wp2
      clear c0 c1 c2 c3 f3 z0 z1 z2 z3 L0 S0 S2 S1
      go_loopw [10, 11] (fun q xp wr => ∃ (k : Nat) (A' : Option Addr) (c' : Nat), k ≤ ks.length ∧ q = .int .i64 k ∧ Le w3 wr ∧ w4.heap.size < wr.heap.size ∧ wr.cell? ⟨w4.heap.size, 0, none⟩ = some (.slice A' (hs.length + k) c') ∧ wr.frozen? ⟨w4.heap.size, 0, none⟩ = false ∧
        wr.ownsRow w3.heap.size 45 5 (.slice A' (hs.length + k) c') (hs.length + k) ((hs ++ (ks.take k).map (shF hs.length)).flatMap Enc.cells) ∧ (Value.slice A' (hs.length + k) c').ownBlock ≠ some w4.heap.size) (fun q _ _ => ks.length - (intOf q).toNat)
      case atStart => exact ⟨0, A4, q4, Nat.zero_le _, rfl, L35, zB, cB, fB, by simpa using O5, fun e => by have := (HLT.out _ e).2; omega⟩
      case round =>
        obtain ⟨k, A', c', hk, rfl, hle, zB, cB, fB, O, hne⟩ := hrel
        have c0 := (hle.cell y0).trans HE0.out
        have c1 := (hle.cell y1).trans HE1.out
        have c2 := (hle.cell y2).trans HE2.out
        have c3 := (hle.cell y3).trans HE3.out
        have f3 := (hle.frozen y3).trans HG3.out
        have z0 := Nat.lt_of_lt_of_le y0 hle.size
        have z1 := Nat.lt_of_lt_of_le y1 hle.size
        have z2 := Nat.lt_of_lt_of_le y2 hle.size
        have z3 := Nat.lt_of_lt_of_le y3 hle.size
        have L0 := HL0.out.trans hle
        have S0 := HS0.out.le hle
        have S2 := HS2.out.le hle
        have hltO := O.lt
        have HLTO := Lib.hid hltO; clear hltO
        have HNE := Lib.hid hne; clear hne
        by_cases hlt : k < ks.length
        · obtain ⟨b, off, rfl, hb, k0, k1, k2, k3, k4, -⟩ := S2.flt_at hlt
          obtain ⟨⟨hc0, hc1⟩, hx0, hx1⟩ := HKL.out k hlt
          have HOK : Hid (∀ ca cx : Int, -1 ≤ ca → ca ≤ 48 → -1 ≤ cx → cx ≤ 48 → Enc.ok (⟨ks[k].cls, ks[k].code, ca, cx, ks[k].hide⟩ : Flt)) := fun ca cx h1 h2 h3 h4 => by
            have := HKK.out _ (List.getElem_mem hlt)
            exact ⟨this.1, this.2.1, this.2.2.1, this.2.2.2.1, by show (-9223372036854775808 : Int) ≤ ca; omega, by show ca ≤ (9223372036854775807 : Int); omega, by show (-9223372036854775808 : Int) ≤ cx; omega, by show cx ≤ (9223372036854775807 : Int); omega⟩
          have HJT := Lib.hid (join_take (hs := hs) hlt)
          have HSH : Hid (shF hs.length ks[k] = ⟨ks[k].cls, ks[k].code, shl hs.length ks[k].cause, shl hs.length ks[k].ctx, ks[k].hide⟩) := rfl
          have hkl : ((k : Int) < (ks.length : Int)) := by omega
          generalize hx : ks[k] = x at *
          clear hx
          generalize x.cls = xc at *
          generalize x.code = xd at *
          generalize x.cause = xa at *
          generalize x.ctx = xb at *
          generalize x.hide = xh at *
          have hw1 : IntKind.i64.wrap (xa + hs.length) = xa + hs.length := IntWalk.i64_in _ (by omega)
          have hw2 : IntKind.i64.wrap (xb + hs.length) = xb + hs.length := IntWalk.i64_in _ (by omega)
          by_cases ha : 0 ≤ xa
          · by_cases hb2 : 0 ≤ xb
            · skip
              have hsa : shl hs.length xa = xa + (hs.length : Int) := by unfold shl; rw [if_neg (by omega)]
              have hsb : shl hs.length xb = xb + (hs.length : Int) := by unfold shl; rw [if_neg (by omega)]
              have HJ : Hid (hs ++ (ks.take k).map (shF hs.length) ++ [(⟨xc, xd, xa + (hs.length : Int), xb + (hs.length : Int), xh⟩ : Flt)] = hs ++ (ks.take (k + 1)).map (shF hs.length)) := by show _ = _; rw [← HJT.out, HSH.out, hsa, hsb]
              have HX : Hid (Enc.ok (⟨xc, xd, xa + (hs.length : Int), xb + (hs.length : Int), xh⟩ : Flt)) := HOK.out _ _ (by omega) (by omega) (by omega) (by omega)
              clear hsa hsb
              have LX := (Le.new wr (.cells #[.int .i64 xc, .int .i64 xd, .int .i64 (xa + (hs.length : Int)), .int .i64 (xb + (hs.length : Int)), .bool xh] 45)).alloc (.cells #[.int .i64 xc, .int .i64 xd, .int .i64 (xa + (hs.length : Int)), .int .i64 (xb + (hs.length : Int)), .bool xh] 45)
              have cBX := (LX.cell zB).trans cB
              have fBX := (LX.frozen zB).trans fB
              have sX := LX.size
              have hX1 : (wr.alloc (.cells #[.int .i64 xc, .int .i64 xd, .int .i64 (xa + (hs.length : Int)), .int .i64 (xb + (hs.length : Int)), .bool xh] 45)).heap.size = wr.heap.size + 1 := by simp
              have hX2 : ((wr.alloc (.cells #[.int .i64 xc, .int .i64 xd, .int .i64 (xa + (hs.length : Int)), .int .i64 (xb + (hs.length : Int)), .bool xh] 45)).alloc (.cells #[.int .i64 xc, .int .i64 xd, .int .i64 (xa + (hs.length : Int)), .int .i64 (xb + (hs.length : Int)), .bool xh] 45)).heap.size = wr.heap.size + 1 + 1 := by simp
              have SX := sl_one (w := wr.alloc (.cells #[.int .i64 xc, .int .i64 xd, .int .i64 (xa + (hs.length : Int)), .int .i64 (xb + (hs.length : Int)), .bool xh] 45)) (cs := #[.int .i64 xc, .int .i64 xd, .int .i64 (xa + (hs.length : Int)), .int .i64 (xb + (hs.length : Int)), .bool xh]) (T := 45) (⟨xc, xd, xa + (hs.length : Int), xb + (hs.length : Int), xh⟩ : Flt) rfl HX.out (b := wr.heap.size + 1) hX1.symm
              have HX2 := Lib.hid hX2; clear hX1 hX2
              go_wp2_with (at_builtin; refine wpList_append_sl rfl _ _ 26 rfl (w3.heap.size) 45 i0 _ 40 Try.underlying26 hi hz0 hz1 hz2 rfl (.slice A' (hs.length + k) c') (hs.length + k) (hs ++ (ks.take k).map (shF hs.length)) rfl ((O.alloc _).alloc _) (some ⟨wr.heap.size + 1, 0, none⟩) 1 1 [(⟨xc, xd, xa + (hs.length : Int), xb + (hs.length : Int), xh⟩ : Flt)] rfl SX (by unfold maxLen; omega) (by omega) (by omega) ?_; intro v1 w1 O1 hg1 hat; have cB1 := hg1.cell (a := ⟨w4.heap.size, 0, none⟩) cBX (fun e => HNE.out e.symm); have fB1 := (World.frozen?_of_block (a := ⟨w4.heap.size, 0, none⟩) (hg1.block w4.heap.size (by omega) (fun e => HNE.out e.symm))).trans fBX; obtain ⟨A2, q2, rfl⟩ := own_form O1)
              have hne2 : (Value.slice A2 (hs.length + k + 1) q2).ownBlock ≠ some w4.heap.size := by
                rcases hat with h | h
                · rw [h]; exact HNE.out
                · rw [h, HX2.out]; intro e; injection e with e; omega
              have L1 := (hle.trans LX).grown hg1 (fun k hk => (HLTO.out k hk).1)
              have s1 := hg1.size
              rw [HJ.out] at O1
              have O2 := O1.kept (grown_set w1 w4.heap.size 0 (.slice A2 (hs.length + k + 1) q2)) (.inr hne2)
              go_roundw
              case rel => exact ⟨k + 1, A2, q2, by omega, by go_num, L1.setCell (by omega) _, by simpa [World.setCell] using Nat.lt_of_lt_of_le (Nat.lt_of_lt_of_le zB sX) s1, cell_set_same cB1, by simpa using fB1, O2, hne2⟩
              case measure => simp [intOf]; omega
            · skip
              have hsa : shl hs.length xa = xa + (hs.length : Int) := by unfold shl; rw [if_neg (by omega)]
              have hsb : shl hs.length xb = xb := by unfold shl; rw [if_pos (by omega)]
              have HJ : Hid (hs ++ (ks.take k).map (shF hs.length) ++ [(⟨xc, xd, xa + (hs.length : Int), xb, xh⟩ : Flt)] = hs ++ (ks.take (k + 1)).map (shF hs.length)) := by show _ = _; rw [← HJT.out, HSH.out, hsa, hsb]
              have HX : Hid (Enc.ok (⟨xc, xd, xa + (hs.length : Int), xb, xh⟩ : Flt)) := HOK.out _ _ (by omega) (by omega) (by omega) (by omega)
              clear hsa hsb
              have LX := (Le.new wr (.cells #[.int .i64 xc, .int .i64 xd, .int .i64 (xa + (hs.length : Int)), .int .i64 (xb), .bool xh] 45)).alloc (.cells #[.int .i64 xc, .int .i64 xd, .int .i64 (xa + (hs.length : Int)), .int .i64 (xb), .bool xh] 45)
              have cBX := (LX.cell zB).trans cB
              have fBX := (LX.frozen zB).trans fB
              have sX := LX.size
              have hX1 : (wr.alloc (.cells #[.int .i64 xc, .int .i64 xd, .int .i64 (xa + (hs.length : Int)), .int .i64 (xb), .bool xh] 45)).heap.size = wr.heap.size + 1 := by simp
              have hX2 : ((wr.alloc (.cells #[.int .i64 xc, .int .i64 xd, .int .i64 (xa + (hs.length : Int)), .int .i64 (xb), .bool xh] 45)).alloc (.cells #[.int .i64 xc, .int .i64 xd, .int .i64 (xa + (hs.length : Int)), .int .i64 (xb), .bool xh] 45)).heap.size = wr.heap.size + 1 + 1 := by simp
              have SX := sl_one (w := wr.alloc (.cells #[.int .i64 xc, .int .i64 xd, .int .i64 (xa + (hs.length : Int)), .int .i64 (xb), .bool xh] 45)) (cs := #[.int .i64 xc, .int .i64 xd, .int .i64 (xa + (hs.length : Int)), .int .i64 (xb), .bool xh]) (T := 45) (⟨xc, xd, xa + (hs.length : Int), xb, xh⟩ : Flt) rfl HX.out (b := wr.heap.size + 1) hX1.symm
              have HX2 := Lib.hid hX2; clear hX1 hX2
              go_wp2_with (at_builtin; refine wpList_append_sl rfl _ _ 26 rfl (w3.heap.size) 45 i0 _ 40 Try.underlying26 hi hz0 hz1 hz2 rfl (.slice A' (hs.length + k) c') (hs.length + k) (hs ++ (ks.take k).map (shF hs.length)) rfl ((O.alloc _).alloc _) (some ⟨wr.heap.size + 1, 0, none⟩) 1 1 [(⟨xc, xd, xa + (hs.length : Int), xb, xh⟩ : Flt)] rfl SX (by unfold maxLen; omega) (by omega) (by omega) ?_; intro v1 w1 O1 hg1 hat; have cB1 := hg1.cell (a := ⟨w4.heap.size, 0, none⟩) cBX (fun e => HNE.out e.symm); have fB1 := (World.frozen?_of_block (a := ⟨w4.heap.size, 0, none⟩) (hg1.block w4.heap.size (by omega) (fun e => HNE.out e.symm))).trans fBX; obtain ⟨A2, q2, rfl⟩ := own_form O1)
              have hne2 : (Value.slice A2 (hs.length + k + 1) q2).ownBlock ≠ some w4.heap.size := by
                rcases hat with h | h
                · rw [h]; exact HNE.out
                · rw [h, HX2.out]; intro e; injection e with e; omega
              have L1 := (hle.trans LX).grown hg1 (fun k hk => (HLTO.out k hk).1)
              have s1 := hg1.size
              rw [HJ.out] at O1
              have O2 := O1.kept (grown_set w1 w4.heap.size 0 (.slice A2 (hs.length + k + 1) q2)) (.inr hne2)
              go_roundw
              case rel => exact ⟨k + 1, A2, q2, by omega, by go_num, L1.setCell (by omega) _, by simpa [World.setCell] using Nat.lt_of_lt_of_le (Nat.lt_of_lt_of_le zB sX) s1, cell_set_same cB1, by simpa using fB1, O2, hne2⟩
              case measure => simp [intOf]; omega
          · by_cases hb2 : 0 ≤ xb
            · skip
              have hsa : shl hs.length xa = xa := by unfold shl; rw [if_pos (by omega)]
              have hsb : shl hs.length xb = xb + (hs.length : Int) := by unfold shl; rw [if_neg (by omega)]
              have HJ : Hid (hs ++ (ks.take k).map (shF hs.length) ++ [(⟨xc, xd, xa, xb + (hs.length : Int), xh⟩ : Flt)] = hs ++ (ks.take (k + 1)).map (shF hs.length)) := by show _ = _; rw [← HJT.out, HSH.out, hsa, hsb]
              have HX : Hid (Enc.ok (⟨xc, xd, xa, xb + (hs.length : Int), xh⟩ : Flt)) := HOK.out _ _ (by omega) (by omega) (by omega) (by omega)
              clear hsa hsb
              have LX := (Le.new wr (.cells #[.int .i64 xc, .int .i64 xd, .int .i64 (xa), .int .i64 (xb + (hs.length : Int)), .bool xh] 45)).alloc (.cells #[.int .i64 xc, .int .i64 xd, .int .i64 (xa), .int .i64 (xb + (hs.length : Int)), .bool xh] 45)
              have cBX := (LX.cell zB).trans cB
              have fBX := (LX.frozen zB).trans fB
              have sX := LX.size
              have hX1 : (wr.alloc (.cells #[.int .i64 xc, .int .i64 xd, .int .i64 (xa), .int .i64 (xb + (hs.length : Int)), .bool xh] 45)).heap.size = wr.heap.size + 1 := by simp
              have hX2 : ((wr.alloc (.cells #[.int .i64 xc, .int .i64 xd, .int .i64 (xa), .int .i64 (xb + (hs.length : Int)), .bool xh] 45)).alloc (.cells #[.int .i64 xc, .int .i64 xd, .int .i64 (xa), .int .i64 (xb + (hs.length : Int)), .bool xh] 45)).heap.size = wr.heap.size + 1 + 1 := by simp
              have SX := sl_one (w := wr.alloc (.cells #[.int .i64 xc, .int .i64 xd, .int .i64 (xa), .int .i64 (xb + (hs.length : Int)), .bool xh] 45)) (cs := #[.int .i64 xc, .int .i64 xd, .int .i64 (xa), .int .i64 (xb + (hs.length : Int)), .bool xh]) (T := 45) (⟨xc, xd, xa, xb + (hs.length : Int), xh⟩ : Flt) rfl HX.out (b := wr.heap.size + 1) hX1.symm
              have HX2 := Lib.hid hX2; clear hX1 hX2
              go_wp2_with (at_builtin; refine wpList_append_sl rfl _ _ 26 rfl (w3.heap.size) 45 i0 _ 40 Try.underlying26 hi hz0 hz1 hz2 rfl (.slice A' (hs.length + k) c') (hs.length + k) (hs ++ (ks.take k).map (shF hs.length)) rfl ((O.alloc _).alloc _) (some ⟨wr.heap.size + 1, 0, none⟩) 1 1 [(⟨xc, xd, xa, xb + (hs.length : Int), xh⟩ : Flt)] rfl SX (by unfold maxLen; omega) (by omega) (by omega) ?_; intro v1 w1 O1 hg1 hat; have cB1 := hg1.cell (a := ⟨w4.heap.size, 0, none⟩) cBX (fun e => HNE.out e.symm); have fB1 := (World.frozen?_of_block (a := ⟨w4.heap.size, 0, none⟩) (hg1.block w4.heap.size (by omega) (fun e => HNE.out e.symm))).trans fBX; obtain ⟨A2, q2, rfl⟩ := own_form O1)
              have hne2 : (Value.slice A2 (hs.length + k + 1) q2).ownBlock ≠ some w4.heap.size := by
                rcases hat with h | h
                · rw [h]; exact HNE.out
                · rw [h, HX2.out]; intro e; injection e with e; omega
              have L1 := (hle.trans LX).grown hg1 (fun k hk => (HLTO.out k hk).1)
              have s1 := hg1.size
              rw [HJ.out] at O1
              have O2 := O1.kept (grown_set w1 w4.heap.size 0 (.slice A2 (hs.length + k + 1) q2)) (.inr hne2)
              go_roundw
              case rel => exact ⟨k + 1, A2, q2, by omega, by go_num, L1.setCell (by omega) _, by simpa [World.setCell] using Nat.lt_of_lt_of_le (Nat.lt_of_lt_of_le zB sX) s1, cell_set_same cB1, by simpa using fB1, O2, hne2⟩
              case measure => simp [intOf]; omega
            · skip
              have hsa : shl hs.length xa = xa := by unfold shl; rw [if_pos (by omega)]
              have hsb : shl hs.length xb = xb := by unfold shl; rw [if_pos (by omega)]
              have HJ : Hid (hs ++ (ks.take k).map (shF hs.length) ++ [(⟨xc, xd, xa, xb, xh⟩ : Flt)] = hs ++ (ks.take (k + 1)).map (shF hs.length)) := by show _ = _; rw [← HJT.out, HSH.out, hsa, hsb]
              have HX : Hid (Enc.ok (⟨xc, xd, xa, xb, xh⟩ : Flt)) := HOK.out _ _ (by omega) (by omega) (by omega) (by omega)
              clear hsa hsb
              have LX := (Le.new wr (.cells #[.int .i64 xc, .int .i64 xd, .int .i64 (xa), .int .i64 (xb), .bool xh] 45)).alloc (.cells #[.int .i64 xc, .int .i64 xd, .int .i64 (xa), .int .i64 (xb), .bool xh] 45)
              have cBX := (LX.cell zB).trans cB
              have fBX := (LX.frozen zB).trans fB
              have sX := LX.size
              have hX1 : (wr.alloc (.cells #[.int .i64 xc, .int .i64 xd, .int .i64 (xa), .int .i64 (xb), .bool xh] 45)).heap.size = wr.heap.size + 1 := by simp
              have hX2 : ((wr.alloc (.cells #[.int .i64 xc, .int .i64 xd, .int .i64 (xa), .int .i64 (xb), .bool xh] 45)).alloc (.cells #[.int .i64 xc, .int .i64 xd, .int .i64 (xa), .int .i64 (xb), .bool xh] 45)).heap.size = wr.heap.size + 1 + 1 := by simp
              have SX := sl_one (w := wr.alloc (.cells #[.int .i64 xc, .int .i64 xd, .int .i64 (xa), .int .i64 (xb), .bool xh] 45)) (cs := #[.int .i64 xc, .int .i64 xd, .int .i64 (xa), .int .i64 (xb), .bool xh]) (T := 45) (⟨xc, xd, xa, xb, xh⟩ : Flt) rfl HX.out (b := wr.heap.size + 1) hX1.symm
              have HX2 := Lib.hid hX2; clear hX1 hX2
              go_wp2_with (at_builtin; refine wpList_append_sl rfl _ _ 26 rfl (w3.heap.size) 45 i0 _ 40 Try.underlying26 hi hz0 hz1 hz2 rfl (.slice A' (hs.length + k) c') (hs.length + k) (hs ++ (ks.take k).map (shF hs.length)) rfl ((O.alloc _).alloc _) (some ⟨wr.heap.size + 1, 0, none⟩) 1 1 [(⟨xc, xd, xa, xb, xh⟩ : Flt)] rfl SX (by unfold maxLen; omega) (by omega) (by omega) ?_; intro v1 w1 O1 hg1 hat; have cB1 := hg1.cell (a := ⟨w4.heap.size, 0, none⟩) cBX (fun e => HNE.out e.symm); have fB1 := (World.frozen?_of_block (a := ⟨w4.heap.size, 0, none⟩) (hg1.block w4.heap.size (by omega) (fun e => HNE.out e.symm))).trans fBX; obtain ⟨A2, q2, rfl⟩ := own_form O1)
              have hne2 : (Value.slice A2 (hs.length + k + 1) q2).ownBlock ≠ some w4.heap.size := by
                rcases hat with h | h
                · rw [h]; exact HNE.out
                · rw [h, HX2.out]; intro e; injection e with e; omega
              have L1 := (hle.trans LX).grown hg1 (fun k hk => (HLTO.out k hk).1)
              have s1 := hg1.size
              rw [HJ.out] at O1
              have O2 := O1.kept (grown_set w1 w4.heap.size 0 (.slice A2 (hs.length + k + 1) q2)) (.inr hne2)
              go_roundw
              case rel => exact ⟨k + 1, A2, q2, by omega, by go_num, L1.setCell (by omega) _, by simpa [World.setCell] using Nat.lt_of_lt_of_le (Nat.lt_of_lt_of_le zB sX) s1, cell_set_same cB1, by simpa using fB1, O2, hne2⟩
              case measure => simp [intOf]; omega
        · have hkk : k = ks.length := by omega
          subst hkk
          have hJK : hs ++ (ks.take ks.length).map (shF hs.length) = joinL hs ks := by rw [List.take_length]; rfl
          have hokj := joinL_ok (k := ks.length) (hs := hs) (ks := ks) hfewh HKO.out HKK.out (fun i h => ⟨(HKL.out i h).1.2, (HKL.out i h).2.2⟩)
          rw [hJK] at O hokj
          have HOJ := Lib.hid hokj
          have SJ : Sl wr A' (hs.length + ks.length) c' (joinL hs ks) := Sl.of_own O rfl (by decide) hokj
          have HJK := Lib.hid hJK
          clear hJK hokj
          go_wp2_with fail
          refine (validHeap_any A A' n cap (hs.length + ks.length) c' xs (joinL hs ks) _ S0 SJ (by omega)).mono ?_
          rintro e w6 ⟨rfl, hle6⟩
          replace c0 := (hle6.cell z0).trans c0
          replace c3 := (hle6.cell z3).trans c3
          replace cB := (hle6.cell zB).trans cB
          replace f3 := (hle6.frozen z3).trans f3
          replace z0 := Nat.lt_of_lt_of_le z0 hle6.size
          replace z3 := Nat.lt_of_lt_of_le z3 hle6.size
          replace zB := Nat.lt_of_lt_of_le zB hle6.size
          replace L0 := L0.trans hle6
          replace O := own_le O hle6
          have s6 := hle6.size
          clear hle6 SJ S0 S2
          rw [HJO.out]
          have hend := fun u => cell_set_same (v := u) c3
          by_cases h24 : hs.length + ks.length ≤ 24
          · have hX : jhOk xs hs ks = true := by rw [HV.out, HV1.out, HV2.out, decide_eq_true h24]; rfl
            have HF := Lib.hid (jhX_of hX)
            have HX := Lib.hid hX; clear hX
            rw [decide_eq_true h24]
            have HE := Lib.hid (res_end (r := w.heap.size + 1 + 1 + 1) L0 (by omega) y3 (show w6.ownsRow w3.heap.size 45 (Enc.size Flt) (.slice A' (hs.length + ks.length) c') (joinL hs ks).length _ from by rw [joinL_len]; exact O) HOJ.out)
            go_wp2
            exact bodyPost_ret (v := .tuple #[.agg #[.slice A' (hs.length + ks.length) c'], .bool true]) (by simp [results, Try.results6, go_sem, hend]) rfl ⟨_, by rw [HX.out], by rw [HF.out]; exact (HE.out _).1, (HE.out _).2⟩
          · have hX : jhOk xs hs ks = false := by rw [HV.out, decide_eq_false h24, Bool.and_false]
            have HF := Lib.hid (jhX_of hX)
            have HX := Lib.hid hX; clear hX
            rw [decide_eq_false h24]
            go_wp2
            exact bodyPost_ret (v := .tuple #[.agg #[.slice none 0 0], .bool false]) (by simp [results, Try.results6, go_sem, hend]) rfl ⟨_, by rw [HX.out], by rw [HF.out]; exact Owd.nil _ _ _, L0.setCell (by omega) _⟩
end Go.Proofs.Ythcolcmgfhkbeaa
