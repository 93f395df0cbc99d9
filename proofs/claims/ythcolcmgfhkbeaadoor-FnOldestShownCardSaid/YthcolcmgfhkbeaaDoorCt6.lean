/- one text of AiCtx, ErShn, AiShn, Dc -/
import Derived.Test.YthcolcmgfhkbeaaDoorCt5
import Derived.Test.YthcolcmgfhkbeaaDoorCt3
import Derived.Test.YthcolcmgfhkbeaaDoorCt4
import Derived.Deep.LoopGhost
import Derived.Deep.RegionHeld3
namespace Go.Proofs.YthcolcmgfhkbeaaDoor
open Go.RowKit
set_option linter.unusedVariables false
section
theorem FCh.keepCtx {w w' : World} {tv hv lk : Value} {gs : List Nat} {out : List Int} (h : FCh w tv hv lk gs out) (hs : w.heap.size ≤ w'.heap.size) (hb : ∀ k (hk : k < gs.length), w'.heap[gs[k]]? = w.heap[gs[k]]?) : FCh w' tv hv lk gs out :=
  ⟨h.len, fun k hk => Nat.lt_of_lt_of_le (h.lt k hk) hs, h.asc, fun k h1 h2 => (hb k h1).trans (h.row k h1 h2)⟩

set_option maxHeartbeats 8000000 in
set_option maxRecDepth 100000 in
theorem indicesCtx_any (tv : Value) (H : Option Addr) (m c : Nat) (hs : List Flt) (g1 i0 : Nat) (w : World) (hH : Sl w H m c hs) (hto : TvOk tv) (hnx : ∀ x : Int, 0 ≤ x → x < hs.length → nxCtx hs x < hs.length) (h1 : i0 < hs.length) (hm : hs.length ≤ 1048576)
    (hF : FCh w tv (.slice H m c) lkCtx [g1] [(i0 : Int)]) (hG : GotErr w) :
    Calls Tryd.prog 43 #[.iface 58 (.pointer (some ⟨g1, 0, none⟩))] w fun e w' => ∃ v, e = .returned v ∧ Owd 3 w w' v (chainN (nxCtx hs) hs.length i0) ∧ Le w w' := by
  obtain ⟨i0', hi, hz0, hz1, hz2⟩ := info_parts intInfoB
  have HNX := Lib.hid hnx
  have hcx0 : chainN (nxCtx hs) hs.length (i0 : Int) = Chn.go (nxCtx hs) hs.length (nxCtx hs (i0 : Int)) [(i0 : Int)] := by
    unfold chainN; rw [go_on (by omega) (by simp)]; rfl
  have HC0 := Lib.hid hcx0; clear hcx0
  have hP0 : Chn.Pre (nxCtx hs) hs.length (i0 : Int) (nxCtx hs (i0 : Int)) [(i0 : Int)] := by
    have := (Chn.Pre.start (f := (i0 : Int)) (nx := nxCtx hs) (n := hs.length) (by omega)).step (by omega) (by simp) (hnx i0 (by omega) (by omega))
    simpa using this
  have HP0 := Lib.hid hP0; clear hP0
  have hg1 := hF.lt 0 (by simp)
  simp only [List.getElem_cons_zero] at hg1
  obtain ⟨cb, zb, L0⟩ := box1 w (.pointer none) 58
  have fb : (w.alloc (.cells #[.pointer none] 58)).frozen? ⟨w.heap.size, 0, none⟩ = false := World.frozen?_alloc_at _ _ _ _ rfl
  have hF1 := hF.le L0
  clear hnx
  go_enter Tryd.func43, Tryd.ntmps43
  go_wp2
  go_loopg [0, 3] (hs.length) (fun mm q v wr => ∃ (L : List Int) (pv : Value), wr.ownsRow (w.heap.size + 1) 3 1 v L.length (L.flatMap Enc.cells) ∧ v.ownBlock ≠ some w.heap.size ∧ Le w wr ∧ w.heap.size < wr.heap.size ∧ wr.cell? ⟨w.heap.size, 0, none⟩ = some pv ∧ wr.frozen? ⟨w.heap.size, 0, none⟩ = false ∧ (∀ x ∈ L, 0 ≤ x ∧ x < hs.length) ∧ L.length ≤ hs.length ∧
    ((q = .nilIface ∧ L = chainN (nxCtx hs) hs.length i0) ∨ (∃ (gs : List Nat) (j i g : Nat), q = .iface 58 (.pointer (some ⟨g, 0, none⟩)) ∧ gs.length = j + 1 ∧ gs[j]? = some g ∧ i < hs.length ∧ FCh wr tv (.slice H m c) lkCtx gs (L ++ [(i : Int)]) ∧ (∀ k (h : k < gs.length), gs[k] ≠ w.heap.size ∧ v.ownBlock ≠ some gs[k]) ∧
      Chn.Pre (nxCtx hs) hs.length i0 (nxCtx hs i) (L ++ [(i : Int)]) ∧ hs.length + 1 ≤ mm + (L.length + 1) ∧ chainN (nxCtx hs) hs.length i0 = Chn.go (nxCtx hs) mm (nxCtx hs i) (L ++ [(i : Int)]))))
  case atStart => exact ⟨[], .pointer none, World.ownsRow_nil _ _ _ _, by simp [Value.ownBlock], L0, zb, cb, fb, by simp, by simp, .inr ⟨[g1], 0, i0, g1, rfl, rfl, rfl, h1, hF1, fun k h => by simp at h; subst h; exact ⟨by show g1 ≠ _; omega, by simp [Value.ownBlock]⟩, HP0.out, by simp, HC0.out⟩⟩
  case round =>
    obtain ⟨L, pv, O, hvb, hle, zb, cb, fb, hLr, hLl, hrel⟩ := hrel
    have HLR := Lib.hid hLr
    have HOK : Hid (∀ x ∈ L, Enc.ok x) := fun x hx => by have := hLr x hx; exact ⟨by omega, by omega⟩
    have HVB := Lib.hid hvb
    clear hLr hvb hF1
    rcases hrel with ⟨rfl, hLe⟩ | ⟨gs, j, i, g, rfl, hgl, hgj, hil, hF2, hgs, hP, hmm, hch⟩
    · have HO : Hid (Owd 3 w wr u3 (chainN (nxCtx hs) hs.length i0)) := by
        show Owd _ _ _ _ _
        rw [← hLe]
        exact ⟨own_mono O (by omega), HOK.out⟩
      clear hLe O
      go_wp2_with fail
      refine (as_nil _ _).mono ?_
      rintro e w' ⟨rfl, rfl⟩
      go_wp2
      go_ret
      exact ⟨_, rfl, HO.out, hle⟩
    · have hjg : j < gs.length := by omega
      have hge : gs[j] = g := by rw [List.getElem?_eq_getElem hjg] at hgj; injection hgj
      have hjl : j = L.length := by have := hF2.len; simp at this; omega
      have hgne := (hgs j hjg).1
      rw [hge] at hgne
      have HCH := Lib.hid hch
      have HP := Lib.hid hP
      have HGS := Lib.hid hgs
      have HMM := Lib.hid hmm
      have HGJ := Lib.hid hgj
      clear hch hP hmm hgs hgj
      go_wp2_with fail
      refine (as_hit ⟨g, 0, none⟩ w.heap.size pv wr (hG.le hle) cb zb fb).mono ?_
      rintro e w2 ⟨rfl, W, hW, rfl⟩
      have zW := Nat.lt_of_lt_of_le zb hW.size
      have cW := (hW.cell zb).trans cb
      have fW := (hW.frozen zb).trans fb
      have OW := own_le O hW
      have FW := hF2.le hW
      have hlW := hle.trans hW
      have OS := OW.kept (grown_set W w.heap.size 0 (.pointer (some ⟨g, 0, none⟩))) (.inr HVB.out)
      have FS : FCh (W.setCell ⟨w.heap.size, 0, none⟩ (.pointer (some ⟨g, 0, none⟩))) tv (.slice H m c) lkCtx gs (L ++ [(i : Int)]) := FW.keepCtx (by simp [World.setCell]) (fun k hk => heap_setCell_other _ _ _ _ (by show gs[k] ≠ _; exact (HGS.out k hk).1))
      have cS : (W.setCell ⟨w.heap.size, 0, none⟩ (.pointer (some ⟨g, 0, none⟩))).cell? ⟨w.heap.size, 0, none⟩ = some (.pointer (some ⟨g, 0, none⟩)) := cell_set_same cW
      have fS : (W.setCell ⟨w.heap.size, 0, none⟩ (.pointer (some ⟨g, 0, none⟩))).frozen? ⟨w.heap.size, 0, none⟩ = false := by simpa using fW
      have zS : w.heap.size < (W.setCell ⟨w.heap.size, 0, none⟩ (.pointer (some ⟨g, 0, none⟩))).heap.size := by simpa [World.setCell] using zW
      have hlS : Le w (W.setCell ⟨w.heap.size, 0, none⟩ (.pointer (some ⟨g, 0, none⟩))) := hlW.setCell (Nat.le_refl _) _
      clear zW cW fW OW FW hlW hW hF2 O zb cb fb hle
      generalize W.setCell ⟨w.heap.size, 0, none⟩ (.pointer (some ⟨g, 0, none⟩)) = X at *
      have d2 := FS.c2 hjg (by simp; omega)
      rw [hge] at d2
      have hLj : (L ++ [(i : Int)])[j]'(by simp; omega) = (i : Int) := by subst hjl; simp
      rw [hLj] at d2
      have hgX := FS.lt j hjg
      rw [hge] at hgX
      have LA := Le.new X (.cells #[.int .i64 (i : Int)] 3)
      have SX := sl_one (w := X) (cs := #[.int .i64 (i : Int)]) (T := 3) (i : Int) rfl (by show _ ∧ _; omega) (b := X.heap.size) rfl
      have cA := (LA.cell zS).trans cS
      have fA := (LA.frozen zS).trans fS
      have FA := FS.le LA
      have hlA := hlS.trans LA
      have zA := Nat.lt_of_lt_of_le zS LA.size
      have sA : (X.alloc (.cells #[.int .i64 (i : Int)] 3)).heap.size = X.heap.size + 1 := by simp
      have HSA := Lib.hid sA; clear sA
      have m1 : L.length + 1 ≤ maxLen := by unfold maxLen; omega
      have m2 : (L.length + 1) * 8 ≤ 140737488355328 := by omega
      have hOA := OS.alloc (.cells #[.int .i64 (i : Int)] 3)
      have hOl := OS.lt
      have HOL := Lib.hid hOl; clear hOl
      obtain ⟨A5, c5, hv5⟩ := own_form OS
      subst hv5
      go_wp2_with (at_builtin; refine wpList_append_sl rfl _ _ 36 rfl (w.heap.size + 1) 3 i0' _ 8 Tryd.underlying36 hi hz0 hz1 hz2 rfl _ L.length L rfl hOA (some ⟨X.heap.size, 0, none⟩) 1 1 [(i : Int)] rfl SX m1 m2 (by have := HSA.out; omega) ?_; intro v1 w3 O1 hg3 hat; have c3 := hg3.cell (a := ⟨w.heap.size, 0, none⟩) cA (fun e => HVB.out e.symm))
      have hl1 : (L ++ [(i : Int)]).length = L.length + 1 := by simp
      have O1' : w3.ownsRow (w.heap.size + 1) 3 1 v1 (L ++ [(i : Int)]).length ((L ++ [(i : Int)]).flatMap Enc.cells) := by rw [hl1]; exact O1
      have f3 := (World.frozen?_of_block (a := ⟨w.heap.size, 0, none⟩) (hg3.block w.heap.size zA (fun e => HVB.out e.symm))).trans fA
      have F3 := FA.keepCtx hg3.size (fun k hk => hg3.block gs[k] (FA.lt k hk) (fun e => (HGS.out k hk).2 e.symm))
      have hl3 := hlA.grown hg3 (fun k hk => by have := (HOL.out k hk).1; omega)
      have hv1 : v1.ownBlock ≠ some w.heap.size := by
        rcases hat with h | h
        · rw [h]; exact HVB.out
        · rw [h]; intro e; injection e with e; omega
      have hv2 : ∀ k (hk : k < gs.length), v1.ownBlock ≠ some gs[k] := by
        intro k hk
        rcases hat with h | h
        · rw [h]; exact (HGS.out k hk).2
        · rw [h]; intro e; injection e with e; have := FA.lt k hk; omega
      have hv3 := O1'.lt
      have HV1 := Lib.hid hv1; have HV2 := Lib.hid hv2; have HV3 := Lib.hid hv3
      have hlr : ∀ x ∈ L ++ [(i : Int)], 0 ≤ x ∧ x < hs.length := fun x hx => by
        rcases List.mem_append.1 hx with hx | hx
        · exact HLR.out x hx
        · simp at hx; subst hx; omega
      have HLR2 := Lib.hid hlr
      have hLen := HP.out.len
      have z3 := Nat.lt_of_lt_of_le zA hg3.size
      clear hv1 hv2 hv3 hlr O1 hat hg3 FA cA fA hlA zA LA SX hOA OS FS cS fS zS hlS d2 hLj hgX
      have hU := unwrapCtx_any tv H m c hs gs (L ++ [(i : Int)]) j i w3 (hH.le hl3) F3 hgl hil (by subst hjl; simp) hto
      rw [hge] at hU
      refine hU.mono ?_
      rintro e w4 ⟨hle4, (⟨hnx, rfl⟩ | ⟨hnx, g', rfl, F4, hg'⟩)⟩
      · obtain ⟨mm', rfl⟩ : ∃ mm', gk = mm' + 1 := ⟨gk - 1, by have := HMM.out; rw [hl1] at hLen; omega⟩
        have hgo : Hid (L ++ [(i : Int)] = chainN (nxCtx hs) hs.length (i0 : Int)) := by
          show _ = _
          rw [HCH.out]
          conv => rhs; unfold Chn.go
          rw [if_pos hnx]
        have O4 := own_le O1' hle4
        have c4 := (hle4.cell z3).trans c3
        have f4 := (hle4.frozen z3).trans f3
        have z4 := Nat.lt_of_lt_of_le z3 hle4.size
        clear hnx hU F3 O1' c3 f3
        go_wp2
        go_roundg mm'
        case measure => omega
        case rel => exact ⟨L ++ [(i : Int)], _, O4, HV1.out, hl3.trans hle4, z4, c4, f4, HLR2.out, hLen, .inl ⟨rfl, hgo.out⟩⟩
      · obtain ⟨mm', rfl⟩ : ∃ mm', gk = mm' + 1 := ⟨gk - 1, by have := HMM.out; rw [hl1] at hLen; omega⟩
        have hnx' : 0 ≤ nxCtx hs (i : Int) ∧ nxCtx hs (i : Int) ∉ L ++ [(i : Int)] := by
          simp only [not_or, Int.not_lt] at hnx
          exact hnx
        have hgo : Hid (chainN (nxCtx hs) hs.length (i0 : Int) = Chn.go (nxCtx hs) mm' (nxCtx hs (nxCtx hs (i : Int))) ((L ++ [(i : Int)]) ++ [nxCtx hs (i : Int)])) := by
          show _ = _
          rw [HCH.out]
          conv => lhs; unfold Chn.go
          rw [if_neg (by rintro (h | h); omega; exact hnx'.2 h)]
        have hlt2 := HNX.out (i : Int) (by omega) (by omega)
        have HPS := Lib.hid (HP.out.step hnx'.1 hnx'.2 (HNX.out _ hnx'.1 hlt2))
        obtain ⟨i', hi'⟩ := Int.eq_ofNat_of_zero_le hnx'.1
        rw [hi'] at hgo HPS F4 hlt2
        have HF4 := Lib.hid F4
        have O4 := own_le O1' hle4
        have c4 := (hle4.cell z3).trans c3
        have f4 := (hle4.frozen z3).trans f3
        have z4 := Nat.lt_of_lt_of_le z3 hle4.size
        have HGS4 : Hid (∀ k (h : k < (gs ++ [g']).length), (gs ++ [g'])[k] ≠ w.heap.size ∧ v1.ownBlock ≠ some (gs ++ [g'])[k]) := fun k hk => by
          rcases Nat.lt_or_ge k gs.length with h1 | h1
          · rw [List.getElem_append_left h1]; exact ⟨(HGS.out k h1).1, HV2.out k h1⟩
          · rw [List.getElem_append_right h1]
            simp only [List.getElem_singleton]
            exact ⟨by omega, fun e => by have := (HV3.out _ e).2; omega⟩
        have HI := Lib.hid hi'
        have hgl2 : (gs ++ [g']).length = j + 1 + 1 := by simp [hgl]
        have hgj2 : (gs ++ [g'])[j + 1]? = some g' := by rw [← hgl, List.getElem?_append_right (Nat.le_refl _)]; simp
        have HGL := Lib.hid hgl2; have HGJ2 := Lib.hid hgj2
        clear hnx hnx' hU F3 O1' c3 f3 F4 hi' hgl2 hgj2
        go_wp2
        go_roundg mm'
        case measure => omega
        case rel => exact ⟨L ++ [(i : Int)], _, O4, HV1.out, hl3.trans hle4, z4, c4, f4, HLR2.out, hLen, .inr ⟨gs ++ [g'], j + 1, i', g', rfl, HGL.out, HGJ2.out, by omega, HF4.out, HGS4.out, HPS.out, by have := HMM.out; rw [hl1]; omega, hgo.out⟩⟩
end

section
theorem shownOf_ok {y : Flt} (h : Enc.ok y) : -9223372036854775808 ≤ shownOf y ∧ shownOf y ≤ 9223372036854775807 := by
  obtain ⟨_, _, _, _, a, b, c, d⟩ := h
  unfold shownOf
  cases decide (0 ≤ y.cause)
  · cases y.hide
    · exact ⟨c, d⟩
    · show (-9223372036854775808 : Int) ≤ -1 ∧ (-1 : Int) ≤ 9223372036854775807; omega
  · exact ⟨a, b⟩

def lkShn : Value := .func (.func 65) #[] #[]
def nxShn (hs : List Flt) (x : Int) : Int := match hs[x.toNat]? with | some y => shownOf y | none => -1
theorem nxShn_at {hs : List Flt} {i : Nat} (h : i < hs.length) : nxShn hs (i : Int) = (let y := hs[i]; shownOf y) := by
  unfold nxShn; rw [Int.toNat_natCast, List.getElem?_eq_getElem h]

def UnwOutShn (hs : List Flt) (tv hv : Value) (gs : List Nat) (out : List Int) (x : Int) (w : World) (e : Ending) (w' : World) : Prop :=
  Le w w' ∧ (((nxShn hs x < 0 ∨ nxShn hs x ∈ out) ∧ e = .returned .nilIface) ∨ (¬ (nxShn hs x < 0 ∨ nxShn hs x ∈ out) ∧ ∃ g', e = .returned (.iface 58 (.pointer (some ⟨g', 0, none⟩))) ∧ FCh w' tv hv lkShn (gs ++ [g']) (out ++ [nxShn hs x]) ∧ w.heap.size ≤ g'))
set_option maxHeartbeats 2000000 in
set_option maxRecDepth 100000 in
theorem unwrapShn_any (tv : Value) (H : Option Addr) (m c : Nat) (hs : List Flt) (gs : List Nat) (out : List Int) (j : Nat) (i : Nat) (w : World) (hH : Sl w H m c hs) (hF : FCh w tv (.slice H m c) lkShn gs out) (hj : gs.length = j + 1)
    (hi : i < hs.length) (hx : out[j]? = some (i : Int)) (hto : TvOk tv) :
    Calls Tryd.prog 68 #[.pointer (some ⟨gs[j], 0, none⟩)] w (UnwOutShn hs tv (.slice H m c) gs out i w) := by
  obtain rfl := hH.len
  obtain ⟨b, off, rfl, hb, k0, k1, k2, k3, k4, -⟩ := hH.flt_at hi
  have hjg : j < gs.length := by omega
  have hjo : j < out.length := by have := hF.len; omega
  have hxe : out[j] = (i : Int) := by rw [List.getElem?_eq_getElem hjo] at hx; injection hx
  have d0 := hF.c0 hjg
  have d1 := hF.c1 hjg
  have d2 := hF.c2 hjg hjo
  have d3 := hF.c3 hjg
  rw [hxe] at d2
  have hlt := hF.lt j hjg
  have hii : (0 : Int) ≤ (i : Int) ∧ (i : Int) < hs.length := by omega
  have E0 := cell_ext hb k0
  have E1 := cell_ext hb k1
  have E2 := cell_ext hb k2
  have E3 := cell_ext hb k3
  have E4 := cell_ext hb k4
  have E5 := cell_ext hlt d1
  have E6 := cell_ext hlt d2
  have E7 := cell_ext hlt d3
  have hnx : Hid (nxShn hs (i : Int) = (let y := hs[i]; shownOf y)) := nxShn_at hi
  have HXE := Lib.hid hxe
  unfold lkShn at E7
  clear k0 k1 k2 k3 k4 d0 d1 d2 d3 hx hxe
  go_enter Tryd.func68, Tryd.ntmps68
  go_wp2_with fail
  refine wp_region_ext (by kernel_rfl) (by kernel_rfl) ?_
  repeat (go_big_quiet_step (first | (go_at_call 65; exact Calls.ext_of (shownLink_any hs[i] _))))
  refine wpQuiet_nil ?_
  intro _ hw'
  obtain ⟨gg, rfl⟩ := hw'
  have L0 := Le.ext w gg
  clear E0 E1 E2 E3 E4 E5 E6 E7
  generalize w.ext gg = W at *
  rw [← hnx.out]
  have hFW := hF.le L0
  have hyr : ∀ y, nxShn hs (i : Int) = y → -9223372036854775808 ≤ y ∧ y ≤ 9223372036854775807 := fun y e => by
    have := hH.ok hs[i] (List.getElem_mem hi)
    rw [hnx.out] at e
    subst e
    exact shownOf_ok this
  clear hnx hF hH
  generalize hy : nxShn hs (i : Int) = y at *
  have HY := Lib.hid hy; clear hy
  obtain ⟨hy0, hy1⟩ := hyr y rfl
  clear hyr
  by_cases hneg : y < 0
  · go_wp2
    go_ret
    refine ⟨L0, .inl ⟨?_, rfl⟩⟩
    rw [HY.out]; exact .inl hneg
  · go_wp2
    go_loop [4] (fun o => ∃ k : Nat, k ≤ gs.length ∧ o = .pointer (upPtr gs k) ∧ ∀ a (h : a < out.length), k ≤ a → out[a] ≠ y) (fun o => blk o)
    case atStart => exact ⟨j + 1, by omega, by rw [upPtr_at hjg], fun a h1 h2 => by have := hFW.len; omega⟩
    case round =>
      obtain ⟨k, hk, rfl, hno⟩ := hrel
      have HNO := Lib.hid hno; clear hno
      cases k with
      | zero =>
        have hnin : ¬ (y < 0 ∨ y ∈ out) := by
          rintro (h | h)
          · omega
          · obtain ⟨a, ha, e⟩ := List.getElem_of_mem h
            exact HNO.out a ha (Nat.zero_le _) e
        have HNI := Lib.hid hnin; clear hnin
        have d0 := hFW.c0 hjg
        have d1 := hFW.c1 hjg
        have d3 := hFW.c3 hjg
        have hltW := hFW.lt j hjg
        obtain ⟨tA, tn, tc, rfl⟩ := hto
        unfold lkShn at d3
        have hu0 : upPtr gs 0 = none := rfl
        rw [hu0]
        clear hu0
        go_wp2_with fail
        go_region_held3 (fun w' => w'.cell? ⟨gs[j], 0, none⟩ = some (.slice tA tn tc) ∧ w'.cell? ⟨gs[j], 1, none⟩ = some (.slice (some ⟨b, off, none⟩) hs.length c) ∧ w'.cell? ⟨gs[j], 3, none⟩ = some (.func (.func 65) #[] #[]))
          (first | exact ⟨d0, d1, d3⟩ | exact ⟨((Le.new W _).cell hltW).trans d0, ((Le.new W _).cell hltW).trans d1, ((Le.new W _).cell hltW).trans d3⟩) (fail)
        go_wp2
        go_ret
        refine ⟨(L0.alloc _).drew, .inr ⟨by rw [HY.out]; exact HNI.out, W.heap.size, rfl, ?_, L0.size⟩⟩
        rw [HY.out]
        exact FCh.snoc hFW hj ((Le.new W _).drew) (Nat.le_refl _) (heap_alloc_new W _)
      | succ k =>
        have hkg : k < gs.length := by omega
        have hko : k < out.length := by have := hFW.len; omega
        have d2 := hFW.c2 hkg hko
        have d4 := hFW.c4 hkg
        rw [upPtr_at hkg]
        have hblk : blk (.pointer (upPtr gs k)) < blk (.pointer (some ⟨gs[k], 0, none⟩)) := by
          cases k with
          | zero => simp [upPtr, blk]
          | succ k' =>
            rw [upPtr_at (by omega)]
            have := hFW.asc k' (k' + 1) (by omega) hkg (by omega)
            simp [blk]; omega
        have HB := Lib.hid hblk; clear hblk
        by_cases he : out[k] = y
        · have hb1 : (out[k] == y) = true := by simpa using he
          have HI : Hid (y ∈ out) := by show _ ∈ _; rw [← he]; exact List.getElem_mem _
          clear he
          go_wp2
          go_ret
          refine ⟨L0, .inl ⟨?_, rfl⟩⟩
          rw [HY.out]; exact .inr HI.out
        · have hb1 : (out[k] == y) = false := by simpa using he
          have HE := Lib.hid he; clear he
          go_wp2
          go_round
          case rel =>
            refine ⟨k, by omega, rfl, fun a ha hka => ?_⟩
            by_cases e : a = k
            · subst e; exact HE.out
            · exact HNO.out a ha (by omega)
          case measure => exact HB.out
end

section
theorem FCh.keepShn {w w' : World} {tv hv lk : Value} {gs : List Nat} {out : List Int} (h : FCh w tv hv lk gs out) (hs : w.heap.size ≤ w'.heap.size) (hb : ∀ k (hk : k < gs.length), w'.heap[gs[k]]? = w.heap[gs[k]]?) : FCh w' tv hv lk gs out :=
  ⟨h.len, fun k hk => Nat.lt_of_lt_of_le (h.lt k hk) hs, h.asc, fun k h1 h2 => (hb k h1).trans (h.row k h1 h2)⟩

set_option maxHeartbeats 8000000 in
set_option maxRecDepth 100000 in
theorem indicesShn_any (tv : Value) (H : Option Addr) (m c : Nat) (hs : List Flt) (g1 i0 : Nat) (w : World) (hH : Sl w H m c hs) (hto : TvOk tv) (hnx : ∀ x : Int, 0 ≤ x → x < hs.length → nxShn hs x < hs.length) (h1 : i0 < hs.length) (hm : hs.length ≤ 1048576)
    (hF : FCh w tv (.slice H m c) lkShn [g1] [(i0 : Int)]) (hG : GotErr w) :
    Calls Tryd.prog 43 #[.iface 58 (.pointer (some ⟨g1, 0, none⟩))] w fun e w' => ∃ v, e = .returned v ∧ Owd 3 w w' v (chainN (nxShn hs) hs.length i0) ∧ Le w w' := by
  obtain ⟨i0', hi, hz0, hz1, hz2⟩ := info_parts intInfoB
  have HNX := Lib.hid hnx
  have hcx0 : chainN (nxShn hs) hs.length (i0 : Int) = Chn.go (nxShn hs) hs.length (nxShn hs (i0 : Int)) [(i0 : Int)] := by
    unfold chainN; rw [go_on (by omega) (by simp)]; rfl
  have HC0 := Lib.hid hcx0; clear hcx0
  have hP0 : Chn.Pre (nxShn hs) hs.length (i0 : Int) (nxShn hs (i0 : Int)) [(i0 : Int)] := by
    have := (Chn.Pre.start (f := (i0 : Int)) (nx := nxShn hs) (n := hs.length) (by omega)).step (by omega) (by simp) (hnx i0 (by omega) (by omega))
    simpa using this
  have HP0 := Lib.hid hP0; clear hP0
  have hg1 := hF.lt 0 (by simp)
  simp only [List.getElem_cons_zero] at hg1
  obtain ⟨cb, zb, L0⟩ := box1 w (.pointer none) 58
  have fb : (w.alloc (.cells #[.pointer none] 58)).frozen? ⟨w.heap.size, 0, none⟩ = false := World.frozen?_alloc_at _ _ _ _ rfl
  have hF1 := hF.le L0
  clear hnx
  go_enter Tryd.func43, Tryd.ntmps43
  go_wp2
  go_loopg [0, 3] (hs.length) (fun mm q v wr => ∃ (L : List Int) (pv : Value), wr.ownsRow (w.heap.size + 1) 3 1 v L.length (L.flatMap Enc.cells) ∧ v.ownBlock ≠ some w.heap.size ∧ Le w wr ∧ w.heap.size < wr.heap.size ∧ wr.cell? ⟨w.heap.size, 0, none⟩ = some pv ∧ wr.frozen? ⟨w.heap.size, 0, none⟩ = false ∧ (∀ x ∈ L, 0 ≤ x ∧ x < hs.length) ∧ L.length ≤ hs.length ∧
    ((q = .nilIface ∧ L = chainN (nxShn hs) hs.length i0) ∨ (∃ (gs : List Nat) (j i g : Nat), q = .iface 58 (.pointer (some ⟨g, 0, none⟩)) ∧ gs.length = j + 1 ∧ gs[j]? = some g ∧ i < hs.length ∧ FCh wr tv (.slice H m c) lkShn gs (L ++ [(i : Int)]) ∧ (∀ k (h : k < gs.length), gs[k] ≠ w.heap.size ∧ v.ownBlock ≠ some gs[k]) ∧
      Chn.Pre (nxShn hs) hs.length i0 (nxShn hs i) (L ++ [(i : Int)]) ∧ hs.length + 1 ≤ mm + (L.length + 1) ∧ chainN (nxShn hs) hs.length i0 = Chn.go (nxShn hs) mm (nxShn hs i) (L ++ [(i : Int)]))))
  case atStart => exact ⟨[], .pointer none, World.ownsRow_nil _ _ _ _, by simp [Value.ownBlock], L0, zb, cb, fb, by simp, by simp, .inr ⟨[g1], 0, i0, g1, rfl, rfl, rfl, h1, hF1, fun k h => by simp at h; subst h; exact ⟨by show g1 ≠ _; omega, by simp [Value.ownBlock]⟩, HP0.out, by simp, HC0.out⟩⟩
  case round =>
    obtain ⟨L, pv, O, hvb, hle, zb, cb, fb, hLr, hLl, hrel⟩ := hrel
    have HLR := Lib.hid hLr
    have HOK : Hid (∀ x ∈ L, Enc.ok x) := fun x hx => by have := hLr x hx; exact ⟨by omega, by omega⟩
    have HVB := Lib.hid hvb
    clear hLr hvb hF1
    rcases hrel with ⟨rfl, hLe⟩ | ⟨gs, j, i, g, rfl, hgl, hgj, hil, hF2, hgs, hP, hmm, hch⟩
    · have HO : Hid (Owd 3 w wr u3 (chainN (nxShn hs) hs.length i0)) := by
        show Owd _ _ _ _ _
        rw [← hLe]
        exact ⟨own_mono O (by omega), HOK.out⟩
      clear hLe O
      go_wp2_with fail
      refine (as_nil _ _).mono ?_
      rintro e w' ⟨rfl, rfl⟩
      go_wp2
      go_ret
      exact ⟨_, rfl, HO.out, hle⟩
    · have hjg : j < gs.length := by omega
      have hge : gs[j] = g := by rw [List.getElem?_eq_getElem hjg] at hgj; injection hgj
      have hjl : j = L.length := by have := hF2.len; simp at this; omega
      have hgne := (hgs j hjg).1
      rw [hge] at hgne
      have HCH := Lib.hid hch
      have HP := Lib.hid hP
      have HGS := Lib.hid hgs
      have HMM := Lib.hid hmm
      have HGJ := Lib.hid hgj
      clear hch hP hmm hgs hgj
      go_wp2_with fail
      refine (as_hit ⟨g, 0, none⟩ w.heap.size pv wr (hG.le hle) cb zb fb).mono ?_
      rintro e w2 ⟨rfl, W, hW, rfl⟩
      have zW := Nat.lt_of_lt_of_le zb hW.size
      have cW := (hW.cell zb).trans cb
      have fW := (hW.frozen zb).trans fb
      have OW := own_le O hW
      have FW := hF2.le hW
      have hlW := hle.trans hW
      have OS := OW.kept (grown_set W w.heap.size 0 (.pointer (some ⟨g, 0, none⟩))) (.inr HVB.out)
      have FS : FCh (W.setCell ⟨w.heap.size, 0, none⟩ (.pointer (some ⟨g, 0, none⟩))) tv (.slice H m c) lkShn gs (L ++ [(i : Int)]) := FW.keepShn (by simp [World.setCell]) (fun k hk => heap_setCell_other _ _ _ _ (by show gs[k] ≠ _; exact (HGS.out k hk).1))
      have cS : (W.setCell ⟨w.heap.size, 0, none⟩ (.pointer (some ⟨g, 0, none⟩))).cell? ⟨w.heap.size, 0, none⟩ = some (.pointer (some ⟨g, 0, none⟩)) := cell_set_same cW
      have fS : (W.setCell ⟨w.heap.size, 0, none⟩ (.pointer (some ⟨g, 0, none⟩))).frozen? ⟨w.heap.size, 0, none⟩ = false := by simpa using fW
      have zS : w.heap.size < (W.setCell ⟨w.heap.size, 0, none⟩ (.pointer (some ⟨g, 0, none⟩))).heap.size := by simpa [World.setCell] using zW
      have hlS : Le w (W.setCell ⟨w.heap.size, 0, none⟩ (.pointer (some ⟨g, 0, none⟩))) := hlW.setCell (Nat.le_refl _) _
      clear zW cW fW OW FW hlW hW hF2 O zb cb fb hle
      generalize W.setCell ⟨w.heap.size, 0, none⟩ (.pointer (some ⟨g, 0, none⟩)) = X at *
      have d2 := FS.c2 hjg (by simp; omega)
      rw [hge] at d2
      have hLj : (L ++ [(i : Int)])[j]'(by simp; omega) = (i : Int) := by subst hjl; simp
      rw [hLj] at d2
      have hgX := FS.lt j hjg
      rw [hge] at hgX
      have LA := Le.new X (.cells #[.int .i64 (i : Int)] 3)
      have SX := sl_one (w := X) (cs := #[.int .i64 (i : Int)]) (T := 3) (i : Int) rfl (by show _ ∧ _; omega) (b := X.heap.size) rfl
      have cA := (LA.cell zS).trans cS
      have fA := (LA.frozen zS).trans fS
      have FA := FS.le LA
      have hlA := hlS.trans LA
      have zA := Nat.lt_of_lt_of_le zS LA.size
      have sA : (X.alloc (.cells #[.int .i64 (i : Int)] 3)).heap.size = X.heap.size + 1 := by simp
      have HSA := Lib.hid sA; clear sA
      have m1 : L.length + 1 ≤ maxLen := by unfold maxLen; omega
      have m2 : (L.length + 1) * 8 ≤ 140737488355328 := by omega
      have hOA := OS.alloc (.cells #[.int .i64 (i : Int)] 3)
      have hOl := OS.lt
      have HOL := Lib.hid hOl; clear hOl
      obtain ⟨A5, c5, hv5⟩ := own_form OS
      subst hv5
      go_wp2_with (at_builtin; refine wpList_append_sl rfl _ _ 36 rfl (w.heap.size + 1) 3 i0' _ 8 Tryd.underlying36 hi hz0 hz1 hz2 rfl _ L.length L rfl hOA (some ⟨X.heap.size, 0, none⟩) 1 1 [(i : Int)] rfl SX m1 m2 (by have := HSA.out; omega) ?_; intro v1 w3 O1 hg3 hat; have c3 := hg3.cell (a := ⟨w.heap.size, 0, none⟩) cA (fun e => HVB.out e.symm))
      have hl1 : (L ++ [(i : Int)]).length = L.length + 1 := by simp
      have O1' : w3.ownsRow (w.heap.size + 1) 3 1 v1 (L ++ [(i : Int)]).length ((L ++ [(i : Int)]).flatMap Enc.cells) := by rw [hl1]; exact O1
      have f3 := (World.frozen?_of_block (a := ⟨w.heap.size, 0, none⟩) (hg3.block w.heap.size zA (fun e => HVB.out e.symm))).trans fA
      have F3 := FA.keepShn hg3.size (fun k hk => hg3.block gs[k] (FA.lt k hk) (fun e => (HGS.out k hk).2 e.symm))
      have hl3 := hlA.grown hg3 (fun k hk => by have := (HOL.out k hk).1; omega)
      have hv1 : v1.ownBlock ≠ some w.heap.size := by
        rcases hat with h | h
        · rw [h]; exact HVB.out
        · rw [h]; intro e; injection e with e; omega
      have hv2 : ∀ k (hk : k < gs.length), v1.ownBlock ≠ some gs[k] := by
        intro k hk
        rcases hat with h | h
        · rw [h]; exact (HGS.out k hk).2
        · rw [h]; intro e; injection e with e; have := FA.lt k hk; omega
      have hv3 := O1'.lt
      have HV1 := Lib.hid hv1; have HV2 := Lib.hid hv2; have HV3 := Lib.hid hv3
      have hlr : ∀ x ∈ L ++ [(i : Int)], 0 ≤ x ∧ x < hs.length := fun x hx => by
        rcases List.mem_append.1 hx with hx | hx
        · exact HLR.out x hx
        · simp at hx; subst hx; omega
      have HLR2 := Lib.hid hlr
      have hLen := HP.out.len
      have z3 := Nat.lt_of_lt_of_le zA hg3.size
      clear hv1 hv2 hv3 hlr O1 hat hg3 FA cA fA hlA zA LA SX hOA OS FS cS fS zS hlS d2 hLj hgX
      have hU := unwrapShn_any tv H m c hs gs (L ++ [(i : Int)]) j i w3 (hH.le hl3) F3 hgl hil (by subst hjl; simp) hto
      rw [hge] at hU
      refine hU.mono ?_
      rintro e w4 ⟨hle4, (⟨hnx, rfl⟩ | ⟨hnx, g', rfl, F4, hg'⟩)⟩
      · obtain ⟨mm', rfl⟩ : ∃ mm', gk = mm' + 1 := ⟨gk - 1, by have := HMM.out; rw [hl1] at hLen; omega⟩
        have hgo : Hid (L ++ [(i : Int)] = chainN (nxShn hs) hs.length (i0 : Int)) := by
          show _ = _
          rw [HCH.out]
          conv => rhs; unfold Chn.go
          rw [if_pos hnx]
        have O4 := own_le O1' hle4
        have c4 := (hle4.cell z3).trans c3
        have f4 := (hle4.frozen z3).trans f3
        have z4 := Nat.lt_of_lt_of_le z3 hle4.size
        clear hnx hU F3 O1' c3 f3
        go_wp2
        go_roundg mm'
        case measure => omega
        case rel => exact ⟨L ++ [(i : Int)], _, O4, HV1.out, hl3.trans hle4, z4, c4, f4, HLR2.out, hLen, .inl ⟨rfl, hgo.out⟩⟩
      · obtain ⟨mm', rfl⟩ : ∃ mm', gk = mm' + 1 := ⟨gk - 1, by have := HMM.out; rw [hl1] at hLen; omega⟩
        have hnx' : 0 ≤ nxShn hs (i : Int) ∧ nxShn hs (i : Int) ∉ L ++ [(i : Int)] := by
          simp only [not_or, Int.not_lt] at hnx
          exact hnx
        have hgo : Hid (chainN (nxShn hs) hs.length (i0 : Int) = Chn.go (nxShn hs) mm' (nxShn hs (nxShn hs (i : Int))) ((L ++ [(i : Int)]) ++ [nxShn hs (i : Int)])) := by
          show _ = _
          rw [HCH.out]
          conv => lhs; unfold Chn.go
          rw [if_neg (by rintro (h | h); omega; exact hnx'.2 h)]
        have hlt2 := HNX.out (i : Int) (by omega) (by omega)
        have HPS := Lib.hid (HP.out.step hnx'.1 hnx'.2 (HNX.out _ hnx'.1 hlt2))
        obtain ⟨i', hi'⟩ := Int.eq_ofNat_of_zero_le hnx'.1
        rw [hi'] at hgo HPS F4 hlt2
        have HF4 := Lib.hid F4
        have O4 := own_le O1' hle4
        have c4 := (hle4.cell z3).trans c3
        have f4 := (hle4.frozen z3).trans f3
        have z4 := Nat.lt_of_lt_of_le z3 hle4.size
        have HGS4 : Hid (∀ k (h : k < (gs ++ [g']).length), (gs ++ [g'])[k] ≠ w.heap.size ∧ v1.ownBlock ≠ some (gs ++ [g'])[k]) := fun k hk => by
          rcases Nat.lt_or_ge k gs.length with h1 | h1
          · rw [List.getElem_append_left h1]; exact ⟨(HGS.out k h1).1, HV2.out k h1⟩
          · rw [List.getElem_append_right h1]
            simp only [List.getElem_singleton]
            exact ⟨by omega, fun e => by have := (HV3.out _ e).2; omega⟩
        have HI := Lib.hid hi'
        have hgl2 : (gs ++ [g']).length = j + 1 + 1 := by simp [hgl]
        have hgj2 : (gs ++ [g'])[j + 1]? = some g' := by rw [← hgl, List.getElem?_append_right (Nat.le_refl _)]; simp
        have HGL := Lib.hid hgl2; have HGJ2 := Lib.hid hgj2
        clear hnx hnx' hU F3 O1' c3 f3 F4 hi' hgl2 hgj2
        go_wp2
        go_roundg mm'
        case measure => omega
        case rel => exact ⟨L ++ [(i : Int)], _, O4, HV1.out, hl3.trans hle4, z4, c4, f4, HLR2.out, hLen, .inr ⟨gs ++ [g'], j + 1, i', g', rfl, HGL.out, HGJ2.out, by omega, HF4.out, HGS4.out, HPS.out, by have := HMM.out; rw [hl1]; omega, hgo.out⟩⟩
end

section
theorem shownAt_lt {hs : List Flt} (lk : Lnk hs) : ∀ x : Int, 0 ≤ x → x < hs.length → shownAt hs x < hs.length := by
  intro x h0 h1
  obtain ⟨i, rfl⟩ := Int.eq_ofNat_of_zero_le h0
  rw [shownAt_at (by omega)]
  have a := lk.cause i (by omega)
  have b := lk.ctx i (by omega)
  unfold shownOf
  cases decide (0 ≤ hs[i].cause)
  · cases hs[i].hide
    · exact b.2
    · show (-1 : Int) < _; omega
  · exact a.2
theorem shownAt_ge {hs : List Flt} (lk : Lnk hs) : ∀ i, i < hs.length → -1 ≤ shownAt hs (i : Int) := by
  intro i h
  rw [shownAt_at h]
  have a := lk.cause i h
  have b := lk.ctx i h
  unfold shownOf
  cases decide (0 ≤ hs[i].cause)
  · cases hs[i].hide
    · exact b.1
    · show (-1 : Int) ≤ -1; omega
  · exact a.1


theorem goodF_in {xs : List Cls} {hs : List Flt} {f : Int} (h : goodF xs hs f = true) : Lnk hs ∧ 0 ≤ f ∧ f < hs.length := by
  unfold goodF at h; rw [Bool.and_eq_true] at h
  have g := goodH_of h.1
  have := hasF_iff.1 h.2
  exact ⟨g.lnk, this.1, this.2⟩
theorem Chn.Is.rngD {nx : Int → Int} {n : Nat} {f : Int} {L : List Int} (h : Chn.Is nx f L) (h1 : f < n) (hb : ∀ x : Int, 0 ≤ x → x < n → nx x < n) : ∀ x ∈ L, 0 ≤ x ∧ x < n := by
  intro x hx
  obtain ⟨k, hk, rfl⟩ := List.getElem_of_mem hx
  refine ⟨h.pos _ hx, ?_⟩
  have : ∀ k (hk : k < L.length), L[k] < n := by
    intro k
    induction k with
    | zero =>
      intro hk
      have a := h.hd
      rw [List.head?_eq_getElem?, List.getElem?_eq_getElem hk] at a
      injection a with a; omega
    | succ k ih =>
      intro hk
      rw [h.st k hk]
      exact hb _ (h.pos _ (List.getElem_mem _)) (ih (by omega))
  exact this k hk
theorem Chn.go_len2 {nx : Int → Int} {n : Nat} {f : Int} (hb : ∀ x : Int, 0 ≤ x → x < n → nx x < n) (h0 : 0 ≤ f) (h1 : f < n) : (chainN nx n f).length ≤ n := by
  have h := chain_is hb h0 h1
  exact Chn.nodup_bound n _ h.nd (h.rngD h1 hb)
def InShnOut (tv hv : Value) (f : Int) (w : World) (e : Ending) (w' : World) : Prop :=
  ∃ g, e = .returned (.pointer (some ⟨g, 0, none⟩)) ∧ w'.heap[g]? = some (.cells #[tv, hv, .int .i64 f, lkShn, .pointer none] 85 (0, 0)) ∧ w.heap.size ≤ g ∧ Le w w'
set_option maxHeartbeats 2000000 in
set_option maxRecDepth 100000 in
theorem iShown_any (A H : Option Addr) (n cap m c : Nat) (f : Int) (w : World) :
    Calls Tryd.prog 40 #[.agg #[.slice A n cap], .agg #[.slice H m c], .int .i64 f] w (InShnOut (.slice A n cap) (.slice H m c) f w) := by
  go_enter Tryd.func40, Tryd.ntmps40
  go_wp2
  obtain ⟨c0, z0, c1, z1, L0⟩ := box2 w (.slice A n cap) (.slice H m c) 25 28
  have HZ : Hid (((w.alloc (.cells #[.slice A n cap] 25)).alloc (.cells #[.slice H m c] 28)).heap.size = w.heap.size + 1 + 1) := by show _ = _; simp
  generalize (w.alloc (.cells #[.slice A n cap] 25)).alloc (.cells #[.slice H m c] 28) = W at *
  go_wp2
  go_ret
  exact ⟨w.heap.size + 1 + 1, rfl, by rw [← HZ.out]; exact heap_alloc_new W _, by omega, L0.alloc _⟩

set_option maxHeartbeats 2000000 in
set_option maxRecDepth 100000 in
theorem sShown_any (H : Option Addr) (n c : Nat) (hs : List Flt) (f : Int) (w : World) (hH : Sl w H n c hs) (lk : Lnk hs) (h0 : 0 ≤ f) (h1 : f < hs.length) (hn : n ≤ 2097152) :
    Calls Tryd.prog 44 #[.agg #[.slice H n c], .int .i64 f] w fun e w' => ∃ v, e = .returned v ∧ Owd 3 w w' v (chainN (shownAt hs) hs.length f) ∧ Le w w' := by
  obtain rfl := hH.len
  obtain ⟨i0, hi, hz0, hz1, hz2⟩ := info_parts intInfoB
  have HLT := Lib.hid (shownAt_lt lk)
  have HLK := Lib.hid (shownAt_ge lk)
  go_enter Tryd.func44, Tryd.ntmps44
  go_wp2
  obtain ⟨c0, z0, L0⟩ := box1 w (.slice H hs.length c) 28
  have HZW : Hid (w.heap.size + 1 = (w.alloc (.cells #[.slice H hs.length c] 28)).heap.size) := by show _ = _; simp
  generalize w.alloc (.cells #[.slice H hs.length c] 28) = W at *
  go_loopw [1, 5] (fun q v wr => ∃ (x : Int) (out : List Int) (m : Nat) (A' : Option Addr) (c' : Nat), q = .int .i64 x ∧ -1 ≤ x ∧ v = .slice A' out.length c' ∧ Chn.Pre (shownAt hs) hs.length f x out ∧ hs.length + 1 ≤ m + out.length ∧ chainN (shownAt hs) hs.length f = Chn.go (shownAt hs) m x out ∧
      wr.ownsRow W.heap.size 3 1 (.slice A' out.length c') out.length (out.flatMap Enc.cells) ∧ Le W wr) (fun q v _ => hs.length + 1 - slLen v)
  case atStart => exact ⟨f, [], hs.length + 1, _, _, rfl, by omega, rfl, Chn.Pre.start h1, by simp, rfl, own_empty (Nat.le_refl _) HZW.out, Le.new _ _⟩
  case round =>
    obtain ⟨x, out, m, A', c', rfl, hx0, rfl, hp, hm, hr, O1, hle⟩ := hrel
    have HP := Lib.hid hp
    have hol := hp.len
    have hxl := hp.lt
    have HR := Lib.hid hr
    have LW := L0
    replace c0 := (hle.cell z0).trans c0
    replace z0 := Nat.lt_of_lt_of_le z0 hle.size
    replace L0 := L0.trans hle
    have S1 := hH.le L0
    have hoko : ∀ y ∈ out, Enc.ok y := fun y hy => by
      have := hp.rng y hy
      exact ⟨by omega, by omega⟩
    have HK := Lib.hid hoko
    have S2 : Sl wr A' out.length c' out := Sl.of_own O1 rfl (by decide) hoko
    clear hp hr hoko
    by_cases hneg : x < 0
    · have HF : Hid (Owd 3 w wr (.slice A' out.length c') (chainN (shownAt hs) hs.length f)) := by
        show Owd _ _ _ _ _
        rw [HR.out, go_stop (.inl hneg)]
        exact ⟨own_mono O1 LW.size, HK.out⟩
      have hd : decide (0 ≤ x) = false := decide_eq_false (by omega)
      go_wp2
      go_ret
      exact ⟨_, rfl, HF.out, L0⟩
    · have hd : decide (0 ≤ x) = true := decide_eq_true (by omega)
      obtain ⟨i, rfl⟩ := Int.eq_ofNat_of_zero_le (by omega : 0 ≤ x)
      have hil : i < hs.length := by omega
      by_cases hin : (i : Int) ∈ out
      · have hh := hasI_iff'.2 hin
        have HF : Hid (Owd 3 w wr (.slice A' out.length c') (chainN (shownAt hs) hs.length f)) := by
          show Owd _ _ _ _ _
          rw [HR.out, go_stop (.inr hin)]
          exact ⟨own_mono O1 LW.size, HK.out⟩
        clear hin
        go_wp2_with fail
        refine (hasInt_any _ _ _ out _ _ S2).mono ?_
        rintro e w' ⟨rfl, rfl⟩
        rw [hh]
        go_wp2
        go_ret
        exact ⟨_, rfl, HF.out, L0⟩
      · have hh := hasI_not hin
        obtain ⟨m', rfl⟩ : ∃ m', m = m' + 1 := ⟨m - 1, by omega⟩
        have HN : Hid (chainN (shownAt hs) hs.length f = Chn.go (shownAt hs) m' (shownAt hs i) (out ++ [(i : Int)])) := by show _ = _; rw [HR.out, go_on (by omega) hin]
        have hpn := HP.out.step (by omega) hin (HLT.out _ (by omega) hxl)
        have HPN := Lib.hid hpn
        have hci := HLK.out i hil
        skip
        have hsz := hle.size
        clear hin hpn HR
        go_wp2_with fail
        refine (hasInt_any _ _ _ out _ _ S2).mono ?_
        rintro e w' ⟨rfl, rfl⟩
        rw [hh]
        clear hh S2
        go_wp2_with (at_builtin; refine wpList_append_own _ rfl _ _ 36 rfl W.heap.size 3 i0 (.int .i64 0) 1 8 Tryd.underlying36 hi hz0 hz1 hz2 rfl (by decide) _ _ _ rfl (O1.alloc _) ⟨wr.heap.size, 0, none⟩ 1 1 [.int .i64 i] rfl rfl (one_newB _ _ _) (by intro u hu; simp at hu; subst hu; rfl) (by unfold maxLen; omega) (by omega) (by simp; omega) ?_; intro v1 w1 hown1 hg1 _; have hle1 := (hle.alloc (.cells #[.int .i64 (i : Int)] 3)).grown hg1 (fun k hk => (O1.lt k hk).1); have hz1' : w.heap.size ≠ W.heap.size := (by have := HZW.out; omega); have L1 := LW.trans hle1; have c1 := hg1.cell ((World.cell?_alloc_past (.cells #[.int .i64 (i : Int)] 3) _ _ z0).trans c0) (fun e => by have h' : W.heap.size ≤ w.heap.size := (O1.lt _ e.symm).1; have := HZW.out; omega))
        obtain ⟨A5, q5, rfl⟩ := own_form hown1
        refine (shownNext_any H hs.length c hs i _ (hH.le L1) hil).mono ?_
        rintro e w5 ⟨rfl, hle5⟩
        have O6 := own_le hown1 hle5
        have c6 := (hle5.cell (Nat.lt_of_lt_of_le (Nat.lt_of_lt_of_le z0 (Le.new wr (.cells #[.int .i64 (i : Int)] 3)).size) hg1.size)).trans c1
        have L6 := hle1.trans hle5
        clear hg1 hown1 c1 hle1 L1
        go_wp2
        go_roundw
        case rel =>
          refine ⟨shownAt hs i, out ++ [(i : Int)], m', A5, q5, rfl, hci, by simp, HPN.out, by simp; omega, HN.out, ?_, L6⟩
          simpa [Enc.cells] using O6
        case measure => simp [slLen]; omega

def chX (xs : List Cls) (hs : List Flt) (f : Int) : List Int := cond (goodF xs hs f) (chainN (ctxOf hs) hs.length f) []
theorem chX_of {xs : List Cls} {hs : List Flt} {f : Int} {t : Bool} (h : goodF xs hs f = t) : chX xs hs f = cond t (chainN (ctxOf hs) hs.length f) [] := by unfold chX; rw [h]
theorem chX_len (xs : List Cls) (hs : List Flt) (f : Int) : (chX xs hs f).length ≤ 1048576 := by
  cases h : goodF xs hs f
  · rw [chX_of h]; simp
  · rw [chX_of h]
    have h1 := goodF_few h
    obtain ⟨lk, h2, h3⟩ := goodF_in h
    have := Chn.go_len2 (Lnk.ctxlt lk) h2 h3
    show (chainN (ctxOf hs) hs.length f).length ≤ _
    omega
def shX (xs : List Cls) (hs : List Flt) (f : Int) : List Int := cond (goodF xs hs f) (chainN (shownAt hs) hs.length f) []
theorem shX_of {xs : List Cls} {hs : List Flt} {f : Int} {t : Bool} (h : goodF xs hs f = t) : shX xs hs f = cond t (chainN (shownAt hs) hs.length f) [] := by unfold shX; rw [h]
theorem shX_len (xs : List Cls) (hs : List Flt) (f : Int) : (shX xs hs f).length ≤ 1048576 := by
  cases h : goodF xs hs f
  · rw [shX_of h]; simp
  · rw [shX_of h]
    have h1 := goodF_few h
    obtain ⟨lk, h2, h3⟩ := goodF_in h
    have := Chn.go_len2 (shownAt_lt lk) h2 h3
    show (chainN (shownAt hs) hs.length f).length ≤ _
    omega
set_option maxRecDepth 100000 in
theorem iShownChain_any (A H : Option Addr) (n cap m c : Nat) (xs : List Cls) (hs : List Flt) (f : Int) (w : World) (hR : Sl w A n cap xs) (hH : Sl w H m c hs) (hm : m ≤ 1048576) (hG : GotErr w) :
    Calls Tryd.prog 18 #[.agg #[.slice A n cap], .agg #[.slice H m c], .int .i64 f] w fun e w' => ∃ v, e = .returned v ∧ Owd 3 w w' v (shX xs hs f) ∧ Le w w' := by
  go_enter Tryd.func18, Tryd.ntmps18
  go_wp2_with fail
  obtain ⟨c0, z0, c1, z1, L0⟩ := box2 w (.slice A n cap) (.slice H m c) 25 28
  have S0 := hH.le L0
  generalize (w.alloc (.cells #[.slice A n cap] 25)).alloc (.cells #[.slice H m c] 28) = W at *
  refine (iHasFault_any A H n cap m c xs hs f W (hR.le L0) S0 (by omega)).mono ?_
  rintro e w1 ⟨rfl, hle⟩
  replace c0 := (hle.cell z0).trans c0
  replace c1 := (hle.cell z1).trans c1
  replace z0 := Nat.lt_of_lt_of_le z0 hle.size
  replace z1 := Nat.lt_of_lt_of_le z1 hle.size
  replace L0 := L0.trans hle
  replace S0 := S0.le hle
  clear hle
  cases ho : goodF xs hs f
  · have HX := Lib.hid (shX_of ho)
    clear ho
    go_wp2
    go_ret
    exact ⟨_, rfl, by rw [HX.out]; exact Owd.nil _ _ _, L0⟩
  · have HX := Lib.hid (shX_of ho)
    have hf := goodF_in ho
    have hfew := goodF_few ho
    have HG := Lib.hid hf
    obtain ⟨i, rfl, hil⟩ := goodF_at ho
    clear ho hf
    go_wp2_with fail
    refine (iShown_any A H n cap m c i w1).mono ?_
    rintro e w2 ⟨g, rfl, hg, hgs, hle⟩
    have S2 := S0.le hle
    have L2 := L0.trans hle
    have F2 := FCh.one hg
    clear hg hle
    go_wp2_with fail
    refine (indicesShn_any _ H m c hs g i w2 S2 ⟨_, _, _, rfl⟩ (shownAt_lt HG.out.1) hil (by omega) F2 (hG.le L2)).mono ?_
    rintro e w3 ⟨v, rfl, D, hle⟩
    have HD := Lib.hid (D.mono (w00 := w) L2)
    clear D
    go_wp2
    go_ret
    exact ⟨_, rfl, by rw [HX.out]; exact HD.out, L2.trans hle⟩
end
end Go.Proofs.YthcolcmgfhkbeaaDoor
