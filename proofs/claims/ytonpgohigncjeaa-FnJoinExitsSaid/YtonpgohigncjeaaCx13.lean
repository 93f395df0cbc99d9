/- one text of RJ -/
import Derived.Test.YtonpgohigncjeaaCx12
import Derived.Test.YtonpgohigncjeaaCx7
import Derived.WalkSmall
import Derived.Deep.LoopGhost
import Derived.Deep.RegionHeld3
namespace Go.Proofs.Ytonpgohigncjeaa
open Go.RowKit
set_option linter.unusedVariables false
section
theorem sl_many {α : Type} [Enc α] {w : World} {cs : Array Value} {T : TypeId} (ys : List α) (n : Nat) (hn : ys.length = n) (hm : n ≤ 1048576) (hc : cs.toList = ys.flatMap Enc.cells) (hok : ∀ y ∈ ys, Enc.ok y) {b : Nat} (hb : b = w.heap.size) : Sl (w.alloc (.cells cs T)) (some ⟨b, 0, none⟩) n n ys := by
  subst hb
  refine ⟨hn, Nat.le_refl _, by omega, hok, fun _ => ⟨_, 0, rfl, by simp, fun j u hu => ?_⟩⟩
  rw [← hc] at hu
  rw [Nat.zero_add, World.cell?_alloc_at _ _ _ _ rfl]
  simpa using hu
theorem snoc_of {α : Type} (l : List α) (h : l ≠ []) : ∃ t x, l = t ++ [x] := ⟨l.dropLast, l.getLast h, (List.dropLast_concat_getLast h).symm⟩

set_option maxHeartbeats 8000000 in
set_option maxRecDepth 100000 in
theorem iReach_any (H : Option Addr) (m c : Nat) (hs : List Flt) (f : Int) (w : World) (hH : Sl w H m c hs) (lk : Lnk hs) (h0 : 0 ≤ f) (h1 : f < hs.length) (hm : m ≤ 2097152) :
    Calls Try.prog 76 #[.agg #[.slice H m c], .int .i64 f] w fun e w' => ∃ v, e = .returned v ∧ Owd 3 w w' v (reachL hs f) ∧ Le w w' := by
  obtain rfl := hH.len
  obtain ⟨i0, hi, hz0, hz1, hz2⟩ := info_parts intInfoB
  obtain ⟨j0, hj, hy0, hy1, hy2⟩ := info_parts boolInfo
  have hb2 : j0.bytes * hs.length ≤ 281474976710656 := by rw [hy2]; omega
  have HLC := Lib.hid lk.cause
  have HLX := Lib.hid lk.ctx
  have HCA : Hid (∀ i, i < hs.length → -1 ≤ cauOf hs (i : Int) ∧ cauOf hs (i : Int) < hs.length) := fun i h => by rw [cauOf_at h]; exact lk.cause i h
  have HCX : Hid (∀ i, i < hs.length → -1 ≤ ctxOf hs (i : Int) ∧ ctxOf hs (i : Int) < hs.length) := fun i h => by rw [ctxOf_at h]; exact lk.ctx i h
  have HRE : Hid (∀ fd, RInv (cauOf hs) (ctxOf hs) hs.length f [] fd → mkd fd hs.length = reachL hs f) := fun fd h => mkd_reach lk h0 h1 h
  clear lk
  obtain ⟨c0, z0, L0⟩ := box1 w (.slice H hs.length c) 34
  have hH0 := hH.le L0
  go_enter Try.func76, Try.ntmps76
  go_wp2_with (refine wpList_make_full _ rfl _ _ 125 rfl w.heap.size 4 j0 _ 1 Try.underlying125 hj hy0 hy1 .i64 .i64 _ _ hs.length rfl rfl rfl rfl hb2 (by unfold maxLen; omega) (by simp) ?_; intro w1 OF hg1; rw [made_bools] at OF; have L1 := L0.grown hg1 (by intro k hk; cases hk); have c1 := hg1.cell (a := ⟨w.heap.size, 0, none⟩) c0 (fun e => by cases e); have sg := hg1.size; clear hg1)
  have hgW : (w.alloc (.cells #[.slice H hs.length c] 34)).heap.size = w.heap.size + 1 := by simp
  rw [hgW] at OF
  have hg1 : w.heap.size + 1 < w1.heap.size := (OF.lt _ rfl).2
  clear hgW sg c0 z0 L0 hH0
  have OT0 : (w1.alloc (.cells #[.int .i64 f] 3)).ownsRow w1.heap.size 3 1 (.slice (some ⟨w1.heap.size, 0, none⟩) 1 1) 1 [.int .i64 f] := by
    have := World.ownsRow_lit (base := w1.heap.size) (e := 3) (size := 1) w1 #[.int .i64 f] 1 (Nat.le_refl _) (by unfold maxLen; omega) (by simp)
    simpa using this
  have LA := Le.new w1 (.cells #[.int .i64 f] 3)
  have OF0 := own_le OF LA
  have c0 := (LA.cell (by omega)).trans c1
  have L0 := L1.trans LA
  have hzz := LA.size
  clear LA c1 L1 OF
  go_loopg [6, 7] (3 * hs.length + 1) (fun mm v iv wr => ∃ (td : List Int) (fd : List Bool) (A' : Option Addr) (c' : Nat), v = .slice A' td.length c' ∧ wr.ownsRow w1.heap.size 3 1 (.slice A' td.length c') td.length (td.flatMap Enc.cells) ∧
    wr.ownsRow (w.heap.size + 1) 4 1 (.slice (some ⟨w.heap.size + 1, 0, none⟩) hs.length hs.length) hs.length (fd.flatMap Enc.cells) ∧ RInv (cauOf hs) (ctxOf hs) hs.length f td fd ∧ Le w wr ∧ wr.cell? ⟨w.heap.size, 0, none⟩ = some (.slice H hs.length c) ∧ mm = 3 * unm fd + td.length ∧ w1.heap.size ≤ wr.heap.size ∧ mm ≤ 3 * hs.length + 1)
  case atStart => exact ⟨[f], List.replicate hs.length false, _, _, rfl, by simpa [Enc.cells] using OT0, ⟨OF0.1, OF0.2.imp id (fun ⟨g, cap, cur, hv, hg0, rest⟩ => ⟨g, cap, cur, hv, by injection hv with hv; injection hv with hv; injection hv with hv; omega, rest⟩)⟩, RInv.start h0 h1, L0, c0, by rw [unm_rep]; simp, hzz, Nat.le_refl _⟩
  case round =>
    obtain ⟨td, fd, A', c', rfl, OT, OF, hI, hle, c0, hmm, hsz, hmb⟩ := hrel
    clear OF0 OT0
    have HI := Lib.hid hI
    have hfl := hI.len
    have hHr := hH.le hle
    have z0 : w.heap.size < wr.heap.size := by omega
    have hltT := OT.lt
    have HLT := Lib.hid hltT; clear hltT
    by_cases hne : td = []
    · subst hne
      simp only [List.length_nil]
      simp only [List.length_nil] at OT hmm HLT
      have HR := Lib.hid (HRE.out fd HI.out)
      clear hI
      have HOK : Hid (∀ x ∈ mkd fd hs.length, Enc.ok x) := fun x hx => by
        have h1 := (mkd_mem.1 hx).1
        have h2 := (mkd_mem.1 hx).2.1
        exact ⟨by omega, by omega⟩
      go_wp2
      generalize wr = WO at *
      go_loopw [8, 9, 10, 60] (fun v _ _ q wr => ∃ k : Nat, k ≤ hs.length ∧ q = .int .i64 k ∧ wr.ownsRow WO.heap.size 3 1 v (mkd fd k).length ((mkd fd k).flatMap Enc.cells) ∧ Le WO wr) (fun _ _ _ q _ => hs.length - (intOf q).toNat)
      case atStart => exact ⟨0, Nat.zero_le _, rfl, World.ownsRow_nil _ _ _ _, Le.refl _⟩
      case round =>
        obtain ⟨k, hk, rfl, hown, hle2⟩ := hrel
        have hml := mkd_len (fd := fd) k
        by_cases hkl : k < hs.length
        · have hkf : k < fd.length := by omega
          have OF2 := own_le OF hle2
          have r0 : wr.cell? ⟨w.heap.size + 1, k, none⟩ = some (.bool fd[k]) := by
            rw [OF2.cellAt k (by omega), show (fd.flatMap (Enc.cells (α := Bool)))[k]? = _ from by simpa [Enc.size] using flat_at fd k hkf 0 (by decide)]; rfl
          cases hb : fd[k]
          · rw [hb] at r0
            have HB := Lib.hid (mkd_no hkf hb); clear hb
            go_wp2
            go_roundw
            case rel => exact ⟨k + 1, by omega, by go_num, by rw [HB.out]; exact hown, hle2⟩
            case measure => simp [intOf]; omega
          · rw [hb] at r0
            have HB := Lib.hid (mkd_yes hkf hb); clear hb
            have hc3 : (mkd fd k).length + 1 ≤ maxLen := by unfold maxLen; omega
            have hc4 : ((mkd fd k).length + 1) * 8 ≤ 140737488355328 := by omega
            have hsz3 := hle2.size
            go_wp2_with (at_builtin; refine wpList_append_own _ rfl _ _ 31 rfl WO.heap.size 3 i0 (.int .i64 0) 1 8 Try.underlying31 hi hz0 hz1 hz2 rfl (by decide) _ _ _ rfl (hown.alloc _) ⟨wr.heap.size, 0, none⟩ 1 1 [.int .i64 k] rfl rfl ?c1 ?c2 hc3 hc4 ?c5 ?_)
            case c1 => exact one_newB _ _ _
            case c2 => intro u hu; simp at hu; subst hu; rfl
            case c5 => simp; omega
            intro v1 w3 hown1 hg1 _
            have hle1 := (hle2.alloc (.cells #[.int .i64 (k : Int)] 3)).grown hg1 (fun k hk => (hown.lt k hk).1)
            go_wp2
            go_roundw
            case rel => exact ⟨k + 1, by omega, by go_num, by rw [HB.out]; simpa [Enc.cells] using hown1, hle1⟩
            case measure => simp [intOf]; omega
        · have hk' : k = hs.length := by omega
          have HO : Hid (∀ v, wr.ownsRow WO.heap.size 3 1 v (mkd fd k).length ((mkd fd k).flatMap Enc.cells) → Owd 3 w wr v (reachL hs f)) := fun v hv => by
            subst hk'
            rw [HR.out] at hv
            have := HOK.out
            rw [HR.out] at this
            exact ⟨own_mono hv hle.size, this⟩
          clear hk'
          go_wp2
          go_ret
          exact ⟨_, rfl, HO.out _ hown, hle.trans hle2⟩
    · obtain ⟨t0, i, rfl⟩ := snoc_of td hne
      have hl : (t0 ++ [i]).length = t0.length + 1 := by simp
      have hbi := hI.bnd i (by simp)
      have hbt : ∀ x ∈ t0 ++ [i], Enc.ok x := fun x hx => by have := hI.bnd x hx; exact ⟨by omega, by omega⟩
      clear hI hne
      rw [hl] at OT HLT hmm
      rw [hl]
      rcases OT.2 with ⟨hv, h00⟩ | ⟨gt, ct, cur, hv, _, _, _, hcm, _⟩
      · omega
      injection hv with hv1 hv2 hv3
      subst hv1; subst hv3
      have OP : wr.ownsRow w1.heap.size 3 1 (.slice (some ⟨gt, 0, none⟩) t0.length c') t0.length (t0.flatMap Enc.cells) := by
        refine ownsRow_pop (last := [.int .i64 i]) (by rw [flat_len]; rfl) ?_
        simpa [Enc.cells] using OT
      have hlw : IntKind.i64.wrap ((t0.length : Int) + 1 - 1) = (t0.length : Int) := by rw [Int.add_sub_cancel]; exact IntWalk.i64_in _ (by unfold maxLen at hcm; omega)
      have hlw2 : IntKind.i64.wrap (t0.length : Int) = (t0.length : Int) := IntWalk.i64_in _ (by unfold maxLen at hcm; omega)
      have q0 : wr.cell? ⟨gt, t0.length, none⟩ = some (.int .i64 i) := by
        have := OT.cellAt t0.length (by omega)
        rw [this, List.flatMap_append, List.getElem?_append_right (by rw [flat_len]; show t0.length * 1 ≤ _; omega), flat_len]
        show ([i].flatMap (Enc.cells (α := Int)))[t0.length - t0.length * 1]? = _
        simp [Enc.cells]
      by_cases hi0 : i < 0
      · have HP := Lib.hid (HI.out.pop h0 (.inl hi0))
        go_wp2
        go_roundg (3 * unm fd + t0.length)
        case measure => omega
        case rel => exact ⟨t0, fd, some ⟨gt, 0, none⟩, c', rfl, OP, OF, HP.out, hle, c0, rfl, hsz, by omega⟩
      · obtain ⟨j, rfl⟩ := Int.eq_ofNat_of_zero_le (by omega : 0 ≤ i)
        have hjl : j < hs.length := by omega
        have hjf : j < fd.length := by omega
        have r0 : wr.cell? ⟨w.heap.size + 1, j, none⟩ = some (.bool fd[j]) := by
          rw [OF.cellAt j (by omega), show (fd.flatMap (Enc.cells (α := Bool)))[j]? = _ from by simpa [Enc.size] using flat_at fd j hjf 0 (by decide)]; rfl
        cases hb : fd[j]
        · rw [hb] at r0
          have f0 := OF.frozenAt j
          have HP := Lib.hid (HI.out.push hjl (HCA.out j hjl) (HCX.out j hjl))
          have HU := Lib.hid (unm_set hjf hb)
          obtain ⟨b, off, rfl, hbb, k0, k1, q2, q3, k4, -⟩ := hH.flt_at hjl
          clear k0 k1 k4
          have htl : t0.length ≤ 6291457 := by omega
          have e2 := cauOf_at hjl
          have e3 := ctxOf_at hjl
          rw [← e2] at q2
          rw [← e3] at q3
          have hb2' := HCA.out j hjl
          have hx2' := HCX.out j hjl
          clear e2 e3
          generalize cauOf hs (j : Int) = ca at *
          generalize ctxOf hs (j : Int) = cx at *
          have OF2 := (OF.stored j (.bool true)).1
          rw [flat_bool fd j hjf true] at OF2
          have hgne : gt ≠ w.heap.size + 1 := by have := (HLT.out gt rfl).1; omega
          have OP2 := own_set (b := w.heap.size + 1) (o := j) OP hgne (.bool true)
          have L2 := hle.setCell (b := w.heap.size + 1) (o := j) (by omega) (.bool true)
          have c2 : (wr.setCell ⟨w.heap.size + 1, j, none⟩ (.bool true)).cell? ⟨w.heap.size, 0, none⟩ = some (.slice (some ⟨b, off, none⟩) hs.length c) := (cell_set_other (.inl (by omega))).trans c0
          replace q2 := (L2.cell hbb).trans q2
          replace q3 := (L2.cell hbb).trans q3
          have hsW : (wr.setCell ⟨w.heap.size + 1, j, none⟩ (.bool true)).heap.size = wr.heap.size := by simp [World.setCell]
          have hsW2 : wr.heap.size ≤ (wr.setCell ⟨w.heap.size + 1, j, none⟩ (.bool true)).heap.size := Nat.le_of_eq hsW.symm
          clear hsW
          have hok2 : ∀ y ∈ [ca, cx], Enc.ok y := fun y hy => by simp at hy; rcases hy with rfl | rfl <;> exact ⟨by omega, by omega⟩
          have hgt0 := (HLT.out gt rfl)
          have HGG : Hid (gt = w.heap.size + 1 → False) := hgne
          have HBG : Hid (b = gt → False) := fun e => by omega
          have HWG : Hid (w.heap.size = gt → False) := fun e => by omega
          go_wp2_with fail
          generalize wr.setCell ⟨w.heap.size + 1, j, none⟩ (.bool true) = W at *
          replace c2 := (show W.drew.cell? _ = _ from c2)
          replace q2 := (show W.drew.cell? _ = _ from q2)
          replace q3 := (show W.drew.cell? _ = _ from q3)
          replace OF2 := OF2.drew
          replace OP2 := OP2.drew
          replace L2 := L2.drew
          have LA := Le.new W.drew (.cells #[.int .i64 ca, .int .i64 cx] 3)
          have SX := sl_many (w := W.drew) (cs := #[.int .i64 ca, .int .i64 cx]) (T := 3) [ca, cx] 2 rfl (by omega) rfl hok2 (b := W.heap.size) rfl
          have c3 := (LA.cell (b := w.heap.size) (o := 0) (by show w.heap.size < W.heap.size; omega)).trans c2
          have q4 := (LA.cell (b := b) (by show b < W.heap.size; omega)).trans q2
          have q5 := (LA.cell (b := b) (by show b < W.heap.size; omega)).trans q3
          have hsD : W.drew.heap.size = W.heap.size := rfl
          have sA := LA.size
          go_region_held3 (fun w' => w'.cell? ⟨w.heap.size, 0, none⟩ = some (.slice (some ⟨b, off, none⟩) hs.length c) ∧ w'.cell? ⟨b, off + j * 5 + 2, none⟩ = some (.int .i64 ca) ∧ w'.cell? ⟨b, off + j * 5 + 3, none⟩ = some (.int .i64 cx))
            (first | exact ⟨c2, q2, q3⟩ | exact ⟨c3, q4, q5⟩ | exact ⟨c7, q7, q8⟩)
            (first
            | (refine step_append_sl rfl _ _ 31 rfl w1.heap.size 3 i0 _ 8 Try.underlying31 hi hz0 hz1 hz2 rfl (.slice (some ⟨gt, 0, none⟩) t0.length c') t0.length t0 rfl (OP2.alloc _) (some ⟨W.heap.size, 0, none⟩) 2 2 [ca, cx] rfl SX (by unfold maxLen; omega) (by omega) (Nat.le_trans (show w1.heap.size ≤ W.drew.heap.size by omega) sA) ?_; intro v1 w7 O1 hgg hat; have c7 := hgg.cell (a := ⟨w.heap.size, 0, none⟩) c3 (fun e => HWG.out (by injection e)); have q7 := hgg.cell (a := ⟨b, off + j * 5 + 2, none⟩) q4 (fun e => HBG.out (by injection e)); have q8 := hgg.cell (a := ⟨b, off + j * 5 + 3, none⟩) q5 (fun e => HBG.out (by injection e))))
          have OF7 := (OF2.alloc (.cells #[.int .i64 ca, .int .i64 cx] 3)).kept hgg (.inr (fun e => HGG.out (by injection e with e; exact e.symm)))
          have L7 := (L2.trans LA).grown hgg (fun k hk => by have e : gt = k := by injection hk
                                                             omega)
          have s7 := hgg.size
          have s8 : w1.heap.size ≤ w7.heap.size := Nat.le_trans (Nat.le_trans (show w1.heap.size ≤ W.drew.heap.size by omega) sA) s7
          obtain ⟨A7, q9, rfl⟩ := own_form O1
          have hl2 : (t0 ++ [ca, cx]).length = t0.length + 2 := by simp
          have HL2 := Lib.hid hl2
          clear hl2 hgg hat c2 c3 q2 q3 q4 q5 q7 q8 SX OF2 OP2 LA L2
          go_wp2
          go_roundg (3 * unm (fd.set j true) + (t0.length + 2))
          case measure => have := HU.out; omega
          case rel => exact ⟨t0 ++ [ca, cx], fd.set j true, A7, q9, by rw [HL2.out], by rw [HL2.out]; exact O1, OF7, HP.out, L7, c7, by rw [HL2.out], s8, by have := HU.out; omega⟩
        · rw [hb] at r0
          have HP := Lib.hid (HI.out.pop h0 (.inr ((tr_nat hjf).2 hb)))
          go_wp2
          go_roundg (3 * unm fd + t0.length)
          case measure => omega
          case rel => exact ⟨t0, fd, some ⟨gt, 0, none⟩, c', rfl, OP, OF, HP.out, hle, c0, rfl, hsz, by omega⟩
end
end Go.Proofs.Ytonpgohigncjeaa
