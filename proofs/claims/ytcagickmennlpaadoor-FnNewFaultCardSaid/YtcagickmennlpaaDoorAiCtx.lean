/- indicesOf along the link of Ctx -/
import Derived.Test.YtcagickmennlpaaDoorAs
import Derived.Test.YtcagickmennlpaaDoorErCtx
import Derived.Test.YtcagickmennlpaaDoorErBk
import Derived.Deep.LoopGhost
import Derived.Deep.RegionHeld3
namespace Go.Proofs.YtcagickmennlpaaDoor
open Go.RowKit

theorem FCh.keepCtx {w w' : World} {tv hv lk : Value} {gs : List Nat} {out : List Int} (h : FCh w tv hv lk gs out) (hs : w.heap.size ≤ w'.heap.size) (hb : ∀ k (hk : k < gs.length), w'.heap[gs[k]]? = w.heap[gs[k]]?) : FCh w' tv hv lk gs out :=
  ⟨h.len, fun k hk => Nat.lt_of_lt_of_le (h.lt k hk) hs, h.asc, fun k h1 h2 => (hb k h1).trans (h.row k h1 h2)⟩

set_option maxHeartbeats 8000000 in
set_option maxRecDepth 100000 in
theorem indicesCtx_any (tv : Value) (H : Option Addr) (m c : Nat) (hs : List Flt) (g1 i0 : Nat) (w : World) (hH : Sl w H m c hs) (hto : TvOk tv) (hnx : ∀ x : Int, 0 ≤ x → x < hs.length → nxCtx hs x < hs.length) (h1 : i0 < hs.length) (hm : hs.length ≤ 1048576)
    (hF : FCh w tv (.slice H m c) lkCtx [g1] [(i0 : Int)]) (hG : GotErr w) :
    Calls Tryd.prog 41 #[.iface 56 (.pointer (some ⟨g1, 0, none⟩))] w fun e w' => ∃ v, e = .returned v ∧ Owd 3 w w' v (chainN (nxCtx hs) hs.length i0) ∧ Le w w' := by
  obtain ⟨i0', hi, hz0, hz1, hz2⟩ := info_parts intInfoB
  have HNX := Lib.hid hnx
  have hcx0 : chainN (nxCtx hs) hs.length (i0 : Int) = Chn.go (nxCtx hs) hs.length (nxCtx hs (i0 : Int)) [(i0 : Int)] := by
    unfold chainN; rw [go_on (by omega) (by simp)]; rfl
  have HC0 := Lib.hid hcx0; clear hcx0
  have hP0 : Chn.Pre (nxCtx hs) hs.length (i0 : Int) (nxCtx hs (i0 : Int)) [(i0 : Int)] := by
    have := (Chn.Pre.start (f := (i0 : Int)) (nx := nxCtx hs) (n := hs.length) (by omega)).step (by omega) (by simp) (hnx i0 (by omega) (by omega))
    simpa using this
  have HP0 := Lib.hid hP0; clear hP0
  have hg1 := hF.lt 0 (by simp)
  simp only [List.getElem_cons_zero] at hg1
  obtain ⟨cb, zb, L0⟩ := box1 w (.pointer none) 56
  have fb : (w.alloc (.cells #[.pointer none] 56)).frozen? ⟨w.heap.size, 0, none⟩ = false := World.frozen?_alloc_at _ _ _ _ rfl
  have hF1 := hF.le L0
  clear hnx
  go_enter Tryd.func41, Tryd.ntmps41
  go_wp2
  go_loopg [0, 3] (hs.length) (fun mm q v wr => ∃ (L : List Int) (pv : Value), wr.ownsRow (w.heap.size + 1) 3 1 v L.length (L.flatMap Enc.cells) ∧ v.ownBlock ≠ some w.heap.size ∧ Le w wr ∧ w.heap.size < wr.heap.size ∧ wr.cell? ⟨w.heap.size, 0, none⟩ = some pv ∧ wr.frozen? ⟨w.heap.size, 0, none⟩ = false ∧ (∀ x ∈ L, 0 ≤ x ∧ x < hs.length) ∧ L.length ≤ hs.length ∧
    ((q = .nilIface ∧ L = chainN (nxCtx hs) hs.length i0) ∨ (∃ (gs : List Nat) (j i g : Nat), q = .iface 56 (.pointer (some ⟨g, 0, none⟩)) ∧ gs.length = j + 1 ∧ gs[j]? = some g ∧ i < hs.length ∧ FCh wr tv (.slice H m c) lkCtx gs (L ++ [(i : Int)]) ∧ (∀ k (h : k < gs.length), gs[k] ≠ w.heap.size ∧ v.ownBlock ≠ some gs[k]) ∧
      Chn.Pre (nxCtx hs) hs.length i0 (nxCtx hs i) (L ++ [(i : Int)]) ∧ hs.length + 1 ≤ mm + (L.length + 1) ∧ chainN (nxCtx hs) hs.length i0 = Chn.go (nxCtx hs) mm (nxCtx hs i) (L ++ [(i : Int)]))))
  case atStart => exact ⟨[], .pointer none, World.ownsRow_nil _ _ _ _, by simp [Value.ownBlock], L0, zb, cb, fb, by simp, by simp, .inr ⟨[g1], 0, i0, g1, rfl, rfl, rfl, h1, hF1, fun k h => by simp at h; subst h; exact ⟨by show g1 ≠ _; omega, by simp [Value.ownBlock]⟩, HP0.out, by simp, HC0.out⟩⟩
  case round =>
    obtain ⟨L, pv, O, hvb, hle, zb, cb, fb, hLr, hLl, hrel⟩ := hrel
    have HLR := Lib.hid hLr
    have HOK : Hid (∀ x ∈ L, Enc.ok x) := fun x hx => by have := hLr x hx; exact ⟨by omega, by omega⟩
    have HVB := Lib.hid hvb
    clear hLr hvb hF1
    rcases hrel with ⟨rfl, hLe⟩ | ⟨gs, j, i, g, rfl, hgl, hgj, hil, hF2, hgs, hP, hmm, hch⟩
    · have HO : Hid (Owd 3 w wr u3 (chainN (nxCtx hs) hs.length i0)) := by
        show Owd _ _ _ _ _
        rw [← hLe]
        exact ⟨own_mono O (by omega), HOK.out⟩
      clear hLe O
      go_wp2_with fail
      refine (as_nil _ _).mono ?_
      rintro e w' ⟨rfl, rfl⟩
      go_wp2
      go_ret
      exact ⟨_, rfl, HO.out, hle⟩
    · have hjg : j < gs.length := by omega
      have hge : gs[j] = g := by rw [List.getElem?_eq_getElem hjg] at hgj; injection hgj
      have hjl : j = L.length := by have := hF2.len; simp at this; omega
      have hgne := (hgs j hjg).1
      rw [hge] at hgne
      have HCH := Lib.hid hch
      have HP := Lib.hid hP
      have HGS := Lib.hid hgs
      have HMM := Lib.hid hmm
      have HGJ := Lib.hid hgj
      clear hch hP hmm hgs hgj
      go_wp2_with fail
      refine (as_hit ⟨g, 0, none⟩ w.heap.size pv wr (hG.le hle) cb zb fb).mono ?_
      rintro e w2 ⟨rfl, W, hW, rfl⟩
      have zW := Nat.lt_of_lt_of_le zb hW.size
      have cW := (hW.cell zb).trans cb
      have fW := (hW.frozen zb).trans fb
      have OW := own_le O hW
      have FW := hF2.le hW
      have hlW := hle.trans hW
      have OS := OW.kept (grown_set W w.heap.size 0 (.pointer (some ⟨g, 0, none⟩))) (.inr HVB.out)
      have FS : FCh (W.setCell ⟨w.heap.size, 0, none⟩ (.pointer (some ⟨g, 0, none⟩))) tv (.slice H m c) lkCtx gs (L ++ [(i : Int)]) := FW.keepCtx (by simp [World.setCell]) (fun k hk => heap_setCell_other _ _ _ _ (by show gs[k] ≠ _; exact (HGS.out k hk).1))
      have cS : (W.setCell ⟨w.heap.size, 0, none⟩ (.pointer (some ⟨g, 0, none⟩))).cell? ⟨w.heap.size, 0, none⟩ = some (.pointer (some ⟨g, 0, none⟩)) := cell_set_same cW
      have fS : (W.setCell ⟨w.heap.size, 0, none⟩ (.pointer (some ⟨g, 0, none⟩))).frozen? ⟨w.heap.size, 0, none⟩ = false := by simpa using fW
      have zS : w.heap.size < (W.setCell ⟨w.heap.size, 0, none⟩ (.pointer (some ⟨g, 0, none⟩))).heap.size := by simpa [World.setCell] using zW
      have hlS : Le w (W.setCell ⟨w.heap.size, 0, none⟩ (.pointer (some ⟨g, 0, none⟩))) := hlW.setCell (Nat.le_refl _) _
      clear zW cW fW OW FW hlW hW hF2 O zb cb fb hle
      generalize W.setCell ⟨w.heap.size, 0, none⟩ (.pointer (some ⟨g, 0, none⟩)) = X at *
      have d2 := FS.c2 hjg (by simp; omega)
      rw [hge] at d2
      have hLj : (L ++ [(i : Int)])[j]'(by simp; omega) = (i : Int) := by subst hjl; simp
      rw [hLj] at d2
      have hgX := FS.lt j hjg
      rw [hge] at hgX
      have LA := Le.new X (.cells #[.int .i64 (i : Int)] 3)
      have SX := sl_one (w := X) (cs := #[.int .i64 (i : Int)]) (T := 3) (i : Int) rfl (by show _ ∧ _; omega) (b := X.heap.size) rfl
      have cA := (LA.cell zS).trans cS
      have fA := (LA.frozen zS).trans fS
      have FA := FS.le LA
      have hlA := hlS.trans LA
      have zA := Nat.lt_of_lt_of_le zS LA.size
      have sA : (X.alloc (.cells #[.int .i64 (i : Int)] 3)).heap.size = X.heap.size + 1 := by simp
      have HSA := Lib.hid sA; clear sA
      have m1 : L.length + 1 ≤ maxLen := by unfold maxLen; omega
      have m2 : (L.length + 1) * 8 ≤ 140737488355328 := by omega
      have hOA := OS.alloc (.cells #[.int .i64 (i : Int)] 3)
      have hOl := OS.lt
      have HOL := Lib.hid hOl; clear hOl
      obtain ⟨A5, c5, hv5⟩ := own_form OS
      subst hv5
      go_wp2_with (at_builtin; refine wpList_append_sl rfl _ _ 32 rfl (w.heap.size + 1) 3 i0' _ 8 Tryd.underlying32 hi hz0 hz1 hz2 rfl _ L.length L rfl hOA (some ⟨X.heap.size, 0, none⟩) 1 1 [(i : Int)] rfl SX m1 m2 (by have := HSA.out; omega) ?_; intro v1 w3 O1 hg3 hat; have c3 := hg3.cell (a := ⟨w.heap.size, 0, none⟩) cA (fun e => HVB.out e.symm))
      have hl1 : (L ++ [(i : Int)]).length = L.length + 1 := by simp
      have O1' : w3.ownsRow (w.heap.size + 1) 3 1 v1 (L ++ [(i : Int)]).length ((L ++ [(i : Int)]).flatMap Enc.cells) := by rw [hl1]; exact O1
      have f3 := (World.frozen?_of_block (a := ⟨w.heap.size, 0, none⟩) (hg3.block w.heap.size zA (fun e => HVB.out e.symm))).trans fA
      have F3 := FA.keepCtx hg3.size (fun k hk => hg3.block gs[k] (FA.lt k hk) (fun e => (HGS.out k hk).2 e.symm))
      have hl3 := hlA.grown hg3 (fun k hk => by have := (HOL.out k hk).1; omega)
      have hv1 : v1.ownBlock ≠ some w.heap.size := by
        rcases hat with h | h
        · rw [h]; exact HVB.out
        · rw [h]; intro e; injection e with e; omega
      have hv2 : ∀ k (hk : k < gs.length), v1.ownBlock ≠ some gs[k] := by
        intro k hk
        rcases hat with h | h
        · rw [h]; exact (HGS.out k hk).2
        · rw [h]; intro e; injection e with e; have := FA.lt k hk; omega
      have hv3 := O1'.lt
      have HV1 := Lib.hid hv1; have HV2 := Lib.hid hv2; have HV3 := Lib.hid hv3
      have hlr : ∀ x ∈ L ++ [(i : Int)], 0 ≤ x ∧ x < hs.length := fun x hx => by
        rcases List.mem_append.1 hx with hx | hx
        · exact HLR.out x hx
        · simp at hx; subst hx; omega
      have HLR2 := Lib.hid hlr
      have hLen := HP.out.len
      have z3 := Nat.lt_of_lt_of_le zA hg3.size
      clear hv1 hv2 hv3 hlr O1 hat hg3 FA cA fA hlA zA LA SX hOA OS FS cS fS zS hlS d2 hLj hgX
      have hU := unwrapCtx_any tv H m c hs gs (L ++ [(i : Int)]) j i w3 (hH.le hl3) F3 hgl hil (by subst hjl; simp) hto
      rw [hge] at hU
      refine hU.mono ?_
      rintro e w4 ⟨hle4, (⟨hnx, rfl⟩ | ⟨hnx, g', rfl, F4, hg'⟩)⟩
      · obtain ⟨mm', rfl⟩ : ∃ mm', gk = mm' + 1 := ⟨gk - 1, by have := HMM.out; rw [hl1] at hLen; omega⟩
        have hgo : Hid (L ++ [(i : Int)] = chainN (nxCtx hs) hs.length (i0 : Int)) := by
          show _ = _
          rw [HCH.out]
          conv => rhs; unfold Chn.go
          rw [if_pos hnx]
        have O4 := own_le O1' hle4
        have c4 := (hle4.cell z3).trans c3
        have f4 := (hle4.frozen z3).trans f3
        have z4 := Nat.lt_of_lt_of_le z3 hle4.size
        clear hnx hU F3 O1' c3 f3
        go_wp2
        go_roundg mm'
        case measure => omega
        case rel => exact ⟨L ++ [(i : Int)], _, O4, HV1.out, hl3.trans hle4, z4, c4, f4, HLR2.out, hLen, .inl ⟨rfl, hgo.out⟩⟩
      · obtain ⟨mm', rfl⟩ : ∃ mm', gk = mm' + 1 := ⟨gk - 1, by have := HMM.out; rw [hl1] at hLen; omega⟩
        have hnx' : 0 ≤ nxCtx hs (i : Int) ∧ nxCtx hs (i : Int) ∉ L ++ [(i : Int)] := by
          simp only [not_or, Int.not_lt] at hnx
          exact hnx
        have hgo : Hid (chainN (nxCtx hs) hs.length (i0 : Int) = Chn.go (nxCtx hs) mm' (nxCtx hs (nxCtx hs (i : Int))) ((L ++ [(i : Int)]) ++ [nxCtx hs (i : Int)])) := by
          show _ = _
          rw [HCH.out]
          conv => lhs; unfold Chn.go
          rw [if_neg (by rintro (h | h); omega; exact hnx'.2 h)]
        have hlt2 := HNX.out (i : Int) (by omega) (by omega)
        have HPS := Lib.hid (HP.out.step hnx'.1 hnx'.2 (HNX.out _ hnx'.1 hlt2))
        obtain ⟨i', hi'⟩ := Int.eq_ofNat_of_zero_le hnx'.1
        rw [hi'] at hgo HPS F4 hlt2
        have HF4 := Lib.hid F4
        have O4 := own_le O1' hle4
        have c4 := (hle4.cell z3).trans c3
        have f4 := (hle4.frozen z3).trans f3
        have z4 := Nat.lt_of_lt_of_le z3 hle4.size
        have HGS4 : Hid (∀ k (h : k < (gs ++ [g']).length), (gs ++ [g'])[k] ≠ w.heap.size ∧ v1.ownBlock ≠ some (gs ++ [g'])[k]) := fun k hk => by
          rcases Nat.lt_or_ge k gs.length with h1 | h1
          · rw [List.getElem_append_left h1]; exact ⟨(HGS.out k h1).1, HV2.out k h1⟩
          · rw [List.getElem_append_right h1]
            simp only [List.getElem_singleton]
            exact ⟨by omega, fun e => by have := (HV3.out _ e).2; omega⟩
        have HI := Lib.hid hi'
        have hgl2 : (gs ++ [g']).length = j + 1 + 1 := by simp [hgl]
        have hgj2 : (gs ++ [g'])[j + 1]? = some g' := by rw [← hgl, List.getElem?_append_right (Nat.le_refl _)]; simp
        have HGL := Lib.hid hgl2; have HGJ2 := Lib.hid hgj2
        clear hnx hnx' hU F3 O1' c3 f3 F4 hi' hgl2 hgj2
        go_wp2
        go_roundg mm'
        case measure => omega
        case rel => exact ⟨L ++ [(i : Int)], _, O4, HV1.out, hl3.trans hle4, z4, c4, f4, HLR2.out, hLen, .inr ⟨gs ++ [g'], j + 1, i', g', rfl, HGL.out, HGJ2.out, by omega, HF4.out, HGS4.out, HPS.out, by have := HMM.out; rw [hl1]; omega, hgo.out⟩⟩
end Go.Proofs.YtcagickmennlpaaDoor
