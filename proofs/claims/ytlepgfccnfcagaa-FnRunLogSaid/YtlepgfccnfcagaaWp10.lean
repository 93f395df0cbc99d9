/- one text of RJ, RS, Ix, RDq -/
import Derived.Test.YtlepgfccnfcagaaWp9
import Derived.Test.YtlepgfccnfcagaaWp1
import Derived.Test.YtlepgfccnfcagaaWp3
import Derived.WalkSmall
import Derived.Deep.LoopGhost
import Derived.Deep.RegionHeld3
namespace Go.Proofs.Ytlepgfccnfcagaa
open Go.RowKit
set_option linter.unusedVariables false
section
theorem sl_many {α : Type} [Enc α] {w : World} {cs : Array Value} {T : TypeId} (ys : List α) (n : Nat) (hn : ys.length = n) (hm : n ≤ 1048576) (hc : cs.toList = ys.flatMap Enc.cells) (hok : ∀ y ∈ ys, Enc.ok y) {b : Nat} (hb : b = w.heap.size) : Sl (w.alloc (.cells cs T)) (some ⟨b, 0, none⟩) n n ys := by
  subst hb
  refine ⟨hn, Nat.le_refl _, by omega, hok, fun _ => ⟨_, 0, rfl, by simp, fun j u hu => ?_⟩⟩
  rw [← hc] at hu
  rw [Nat.zero_add, World.cell?_alloc_at _ _ _ _ rfl]
  simpa using hu
theorem snoc_of {α : Type} (l : List α) (h : l ≠ []) : ∃ t x, l = t ++ [x] := ⟨l.dropLast, l.getLast h, (List.dropLast_concat_getLast h).symm⟩

set_option maxHeartbeats 8000000 in
set_option maxRecDepth 100000 in
theorem iReach_any (H : Option Addr) (m c : Nat) (hs : List Flt) (f : Int) (w : World) (hH : Sl w H m c hs) (lk : Lnk hs) (h0 : 0 ≤ f) (h1 : f < hs.length) (hm : m ≤ 2097152) :
    Calls Try.prog 79 #[.agg #[.slice H m c], .int .i64 f] w fun e w' => ∃ v, e = .returned v ∧ Owd 3 w w' v (reachL hs f) ∧ Le w w' := by
  obtain rfl := hH.len
  obtain ⟨i0, hi, hz0, hz1, hz2⟩ := info_parts intInfoB
  obtain ⟨j0, hj, hy0, hy1, hy2⟩ := info_parts boolInfo
  have hb2 : j0.bytes * hs.length ≤ 281474976710656 := by rw [hy2]; omega
  have HLC := Lib.hid lk.cause
  have HLX := Lib.hid lk.ctx
  have HCA : Hid (∀ i, i < hs.length → -1 ≤ cauOf hs (i : Int) ∧ cauOf hs (i : Int) < hs.length) := fun i h => by rw [cauOf_at h]; exact lk.cause i h
  have HCX : Hid (∀ i, i < hs.length → -1 ≤ ctxOf hs (i : Int) ∧ ctxOf hs (i : Int) < hs.length) := fun i h => by rw [ctxOf_at h]; exact lk.ctx i h
  have HRE : Hid (∀ fd, RInv (cauOf hs) (ctxOf hs) hs.length f [] fd → mkd fd hs.length = reachL hs f) := fun fd h => mkd_reach lk h0 h1 h
  clear lk
  obtain ⟨c0, z0, L0⟩ := box1 w (.slice H hs.length c) 32
  have hH0 := hH.le L0
  go_enter Try.func79, Try.ntmps79
  go_wp2_with (refine wpList_make_full _ rfl _ _ 104 rfl w.heap.size 4 j0 _ 1 Try.underlying104 hj hy0 hy1 .i64 .i64 _ _ hs.length rfl rfl rfl rfl hb2 (by unfold maxLen; omega) (by simp) ?_; intro w1 OF hg1; rw [made_bools] at OF; have L1 := L0.grown hg1 (by intro k hk; cases hk); have c1 := hg1.cell (a := ⟨w.heap.size, 0, none⟩) c0 (fun e => by cases e); have sg := hg1.size; clear hg1)
  have hgW : (w.alloc (.cells #[.slice H hs.length c] 32)).heap.size = w.heap.size + 1 := by simp
  rw [hgW] at OF
  have hg1 : w.heap.size + 1 < w1.heap.size := (OF.lt _ rfl).2
  clear hgW sg c0 z0 L0 hH0
  have OT0 : (w1.alloc (.cells #[.int .i64 f] 3)).ownsRow w1.heap.size 3 1 (.slice (some ⟨w1.heap.size, 0, none⟩) 1 1) 1 [.int .i64 f] := by
    have := World.ownsRow_lit (base := w1.heap.size) (e := 3) (size := 1) w1 #[.int .i64 f] 1 (Nat.le_refl _) (by unfold maxLen; omega) (by simp)
    simpa using this
  have LA := Le.new w1 (.cells #[.int .i64 f] 3)
  have OF0 := own_le OF LA
  have c0 := (LA.cell (by omega)).trans c1
  have L0 := L1.trans LA
  have hzz := LA.size
  clear LA c1 L1 OF
  go_loopg [6, 7] (3 * hs.length + 1) (fun mm v iv wr => ∃ (td : List Int) (fd : List Bool) (A' : Option Addr) (c' : Nat), v = .slice A' td.length c' ∧ wr.ownsRow w1.heap.size 3 1 (.slice A' td.length c') td.length (td.flatMap Enc.cells) ∧
    wr.ownsRow (w.heap.size + 1) 4 1 (.slice (some ⟨w.heap.size + 1, 0, none⟩) hs.length hs.length) hs.length (fd.flatMap Enc.cells) ∧ RInv (cauOf hs) (ctxOf hs) hs.length f td fd ∧ Le w wr ∧ wr.cell? ⟨w.heap.size, 0, none⟩ = some (.slice H hs.length c) ∧ mm = 3 * unm fd + td.length ∧ w1.heap.size ≤ wr.heap.size ∧ mm ≤ 3 * hs.length + 1)
  case atStart => exact ⟨[f], List.replicate hs.length false, _, _, rfl, by simpa [Enc.cells] using OT0, ⟨OF0.1, OF0.2.imp id (fun ⟨g, cap, cur, hv, hg0, rest⟩ => ⟨g, cap, cur, hv, by injection hv with hv; injection hv with hv; injection hv with hv; omega, rest⟩)⟩, RInv.start h0 h1, L0, c0, by rw [unm_rep]; simp, hzz, Nat.le_refl _⟩
  case round =>
    obtain ⟨td, fd, A', c', rfl, OT, OF, hI, hle, c0, hmm, hsz, hmb⟩ := hrel
    clear OF0 OT0
    have HI := Lib.hid hI
    have hfl := hI.len
    have hHr := hH.le hle
    have z0 : w.heap.size < wr.heap.size := by omega
    have hltT := OT.lt
    have HLT := Lib.hid hltT; clear hltT
    by_cases hne : td = []
    · subst hne
      simp only [List.length_nil]
      simp only [List.length_nil] at OT hmm HLT
      have HR := Lib.hid (HRE.out fd HI.out)
      clear hI
      have HOK : Hid (∀ x ∈ mkd fd hs.length, Enc.ok x) := fun x hx => by
        have h1 := (mkd_mem.1 hx).1
        have h2 := (mkd_mem.1 hx).2.1
        exact ⟨by omega, by omega⟩
      go_wp2
      generalize wr = WO at *
      go_loopw [8, 9, 10, 60] (fun v _ _ q wr => ∃ k : Nat, k ≤ hs.length ∧ q = .int .i64 k ∧ wr.ownsRow WO.heap.size 3 1 v (mkd fd k).length ((mkd fd k).flatMap Enc.cells) ∧ Le WO wr) (fun _ _ _ q _ => hs.length - (intOf q).toNat)
      case atStart => exact ⟨0, Nat.zero_le _, rfl, World.ownsRow_nil _ _ _ _, Le.refl _⟩
      case round =>
        obtain ⟨k, hk, rfl, hown, hle2⟩ := hrel
        have hml := mkd_len (fd := fd) k
        by_cases hkl : k < hs.length
        · have hkf : k < fd.length := by omega
          have OF2 := own_le OF hle2
          have r0 : wr.cell? ⟨w.heap.size + 1, k, none⟩ = some (.bool fd[k]) := by
            rw [OF2.cellAt k (by omega), show (fd.flatMap (Enc.cells (α := Bool)))[k]? = _ from by simpa [Enc.size] using flat_at fd k hkf 0 (by decide)]; rfl
          cases hb : fd[k]
          · rw [hb] at r0
            have HB := Lib.hid (mkd_no hkf hb); clear hb
            go_wp2
            go_roundw
            case rel => exact ⟨k + 1, by omega, by go_num, by rw [HB.out]; exact hown, hle2⟩
            case measure => simp [intOf]; omega
          · rw [hb] at r0
            have HB := Lib.hid (mkd_yes hkf hb); clear hb
            have hc3 : (mkd fd k).length + 1 ≤ maxLen := by unfold maxLen; omega
            have hc4 : ((mkd fd k).length + 1) * 8 ≤ 140737488355328 := by omega
            have hsz3 := hle2.size
            go_wp2_with (at_builtin; refine wpList_append_own _ rfl _ _ 29 rfl WO.heap.size 3 i0 (.int .i64 0) 1 8 Try.underlying29 hi hz0 hz1 hz2 rfl (by decide) _ _ _ rfl (hown.alloc _) ⟨wr.heap.size, 0, none⟩ 1 1 [.int .i64 k] rfl rfl ?c1 ?c2 hc3 hc4 ?c5 ?_)
            case c1 => exact one_newB _ _ _
            case c2 => intro u hu; simp at hu; subst hu; rfl
            case c5 => simp; omega
            intro v1 w3 hown1 hg1 _
            have hle1 := (hle2.alloc (.cells #[.int .i64 (k : Int)] 3)).grown hg1 (fun k hk => (hown.lt k hk).1)
            go_wp2
            go_roundw
            case rel => exact ⟨k + 1, by omega, by go_num, by rw [HB.out]; simpa [Enc.cells] using hown1, hle1⟩
            case measure => simp [intOf]; omega
        · have hk' : k = hs.length := by omega
          have HO : Hid (∀ v, wr.ownsRow WO.heap.size 3 1 v (mkd fd k).length ((mkd fd k).flatMap Enc.cells) → Owd 3 w wr v (reachL hs f)) := fun v hv => by
            subst hk'
            rw [HR.out] at hv
            have := HOK.out
            rw [HR.out] at this
            exact ⟨own_mono hv hle.size, this⟩
          clear hk'
          go_wp2
          go_ret
          exact ⟨_, rfl, HO.out _ hown, hle.trans hle2⟩
    · obtain ⟨t0, i, rfl⟩ := snoc_of td hne
      have hl : (t0 ++ [i]).length = t0.length + 1 := by simp
      have hbi := hI.bnd i (by simp)
      have hbt : ∀ x ∈ t0 ++ [i], Enc.ok x := fun x hx => by have := hI.bnd x hx; exact ⟨by omega, by omega⟩
      clear hI hne
      rw [hl] at OT HLT hmm
      rw [hl]
      rcases OT.2 with ⟨hv, h00⟩ | ⟨gt, ct, cur, hv, _, _, _, hcm, _⟩
      · omega
      injection hv with hv1 hv2 hv3
      subst hv1; subst hv3
      have OP : wr.ownsRow w1.heap.size 3 1 (.slice (some ⟨gt, 0, none⟩) t0.length c') t0.length (t0.flatMap Enc.cells) := by
        refine ownsRow_pop (last := [.int .i64 i]) (by rw [flat_len]; rfl) ?_
        simpa [Enc.cells] using OT
      have hlw : IntKind.i64.wrap ((t0.length : Int) + 1 - 1) = (t0.length : Int) := by rw [Int.add_sub_cancel]; exact IntWalk.i64_in _ (by unfold maxLen at hcm; omega)
      have hlw2 : IntKind.i64.wrap (t0.length : Int) = (t0.length : Int) := IntWalk.i64_in _ (by unfold maxLen at hcm; omega)
      have q0 : wr.cell? ⟨gt, t0.length, none⟩ = some (.int .i64 i) := by
        have := OT.cellAt t0.length (by omega)
        rw [this, List.flatMap_append, List.getElem?_append_right (by rw [flat_len]; show t0.length * 1 ≤ _; omega), flat_len]
        show ([i].flatMap (Enc.cells (α := Int)))[t0.length - t0.length * 1]? = _
        simp [Enc.cells]
      by_cases hi0 : i < 0
      · have HP := Lib.hid (HI.out.pop h0 (.inl hi0))
        go_wp2
        go_roundg (3 * unm fd + t0.length)
        case measure => omega
        case rel => exact ⟨t0, fd, some ⟨gt, 0, none⟩, c', rfl, OP, OF, HP.out, hle, c0, rfl, hsz, by omega⟩
      · obtain ⟨j, rfl⟩ := Int.eq_ofNat_of_zero_le (by omega : 0 ≤ i)
        have hjl : j < hs.length := by omega
        have hjf : j < fd.length := by omega
        have r0 : wr.cell? ⟨w.heap.size + 1, j, none⟩ = some (.bool fd[j]) := by
          rw [OF.cellAt j (by omega), show (fd.flatMap (Enc.cells (α := Bool)))[j]? = _ from by simpa [Enc.size] using flat_at fd j hjf 0 (by decide)]; rfl
        cases hb : fd[j]
        · rw [hb] at r0
          have f0 := OF.frozenAt j
          have HP := Lib.hid (HI.out.push hjl (HCA.out j hjl) (HCX.out j hjl))
          have HU := Lib.hid (unm_set hjf hb)
          obtain ⟨b, off, rfl, hbb, k0, k1, q2, q3, k4, -⟩ := hH.flt_at hjl
          clear k0 k1 k4
          have htl : t0.length ≤ 6291457 := by omega
          have e2 := cauOf_at hjl
          have e3 := ctxOf_at hjl
          rw [← e2] at q2
          rw [← e3] at q3
          have hb2' := HCA.out j hjl
          have hx2' := HCX.out j hjl
          clear e2 e3
          generalize cauOf hs (j : Int) = ca at *
          generalize ctxOf hs (j : Int) = cx at *
          have OF2 := (OF.stored j (.bool true)).1
          rw [flat_bool fd j hjf true] at OF2
          have hgne : gt ≠ w.heap.size + 1 := by have := (HLT.out gt rfl).1; omega
          have OP2 := own_set (b := w.heap.size + 1) (o := j) OP hgne (.bool true)
          have L2 := hle.setCell (b := w.heap.size + 1) (o := j) (by omega) (.bool true)
          have c2 : (wr.setCell ⟨w.heap.size + 1, j, none⟩ (.bool true)).cell? ⟨w.heap.size, 0, none⟩ = some (.slice (some ⟨b, off, none⟩) hs.length c) := (cell_set_other (.inl (by omega))).trans c0
          replace q2 := (L2.cell hbb).trans q2
          replace q3 := (L2.cell hbb).trans q3
          have hsW : (wr.setCell ⟨w.heap.size + 1, j, none⟩ (.bool true)).heap.size = wr.heap.size := by simp [World.setCell]
          have hsW2 : wr.heap.size ≤ (wr.setCell ⟨w.heap.size + 1, j, none⟩ (.bool true)).heap.size := Nat.le_of_eq hsW.symm
          clear hsW
          have hok2 : ∀ y ∈ [ca, cx], Enc.ok y := fun y hy => by simp at hy; rcases hy with rfl | rfl <;> exact ⟨by omega, by omega⟩
          have hgt0 := (HLT.out gt rfl)
          have HGG : Hid (gt = w.heap.size + 1 → False) := hgne
          have HBG : Hid (b = gt → False) := fun e => by omega
          have HWG : Hid (w.heap.size = gt → False) := fun e => by omega
          go_wp2_with fail
          generalize wr.setCell ⟨w.heap.size + 1, j, none⟩ (.bool true) = W at *
          replace c2 := (show W.drew.cell? _ = _ from c2)
          replace q2 := (show W.drew.cell? _ = _ from q2)
          replace q3 := (show W.drew.cell? _ = _ from q3)
          replace OF2 := OF2.drew
          replace OP2 := OP2.drew
          replace L2 := L2.drew
          have LA := Le.new W.drew (.cells #[.int .i64 ca, .int .i64 cx] 3)
          have SX := sl_many (w := W.drew) (cs := #[.int .i64 ca, .int .i64 cx]) (T := 3) [ca, cx] 2 rfl (by omega) rfl hok2 (b := W.heap.size) rfl
          have c3 := (LA.cell (b := w.heap.size) (o := 0) (by show w.heap.size < W.heap.size; omega)).trans c2
          have q4 := (LA.cell (b := b) (by show b < W.heap.size; omega)).trans q2
          have q5 := (LA.cell (b := b) (by show b < W.heap.size; omega)).trans q3
          have hsD : W.drew.heap.size = W.heap.size := rfl
          have sA := LA.size
          go_region_held3 (fun w' => w'.cell? ⟨w.heap.size, 0, none⟩ = some (.slice (some ⟨b, off, none⟩) hs.length c) ∧ w'.cell? ⟨b, off + j * 5 + 2, none⟩ = some (.int .i64 ca) ∧ w'.cell? ⟨b, off + j * 5 + 3, none⟩ = some (.int .i64 cx))
            (first | exact ⟨c2, q2, q3⟩ | exact ⟨c3, q4, q5⟩ | exact ⟨c7, q7, q8⟩)
            (first
            | (refine step_append_sl rfl _ _ 29 rfl w1.heap.size 3 i0 _ 8 Try.underlying29 hi hz0 hz1 hz2 rfl (.slice (some ⟨gt, 0, none⟩) t0.length c') t0.length t0 rfl (OP2.alloc _) (some ⟨W.heap.size, 0, none⟩) 2 2 [ca, cx] rfl SX (by unfold maxLen; omega) (by omega) (Nat.le_trans (show w1.heap.size ≤ W.drew.heap.size by omega) sA) ?_; intro v1 w7 O1 hgg hat; have c7 := hgg.cell (a := ⟨w.heap.size, 0, none⟩) c3 (fun e => HWG.out (by injection e)); have q7 := hgg.cell (a := ⟨b, off + j * 5 + 2, none⟩) q4 (fun e => HBG.out (by injection e)); have q8 := hgg.cell (a := ⟨b, off + j * 5 + 3, none⟩) q5 (fun e => HBG.out (by injection e))))
          have OF7 := (OF2.alloc (.cells #[.int .i64 ca, .int .i64 cx] 3)).kept hgg (.inr (fun e => HGG.out (by injection e with e; exact e.symm)))
          have L7 := (L2.trans LA).grown hgg (fun k hk => by have e : gt = k := by injection hk
                                                             omega)
          have s7 := hgg.size
          have s8 : w1.heap.size ≤ w7.heap.size := Nat.le_trans (Nat.le_trans (show w1.heap.size ≤ W.drew.heap.size by omega) sA) s7
          obtain ⟨A7, q9, rfl⟩ := own_form O1
          have hl2 : (t0 ++ [ca, cx]).length = t0.length + 2 := by simp
          have HL2 := Lib.hid hl2
          clear hl2 hgg hat c2 c3 q2 q3 q4 q5 q7 q8 SX OF2 OP2 LA L2
          go_wp2
          go_roundg (3 * unm (fd.set j true) + (t0.length + 2))
          case measure => have := HU.out; omega
          case rel => exact ⟨t0 ++ [ca, cx], fd.set j true, A7, q9, by rw [HL2.out], by rw [HL2.out]; exact O1, OF7, HP.out, L7, c7, by rw [HL2.out], s8, by have := HU.out; omega⟩
        · rw [hb] at r0
          have HP := Lib.hid (HI.out.pop h0 (.inr ((tr_nat hjf).2 hb)))
          go_wp2
          go_roundg (3 * unm fd + t0.length)
          case measure => omega
          case rel => exact ⟨t0, fd, some ⟨gt, 0, none⟩, c', rfl, OP, OF, HP.out, hle, c0, rfl, hsz, by omega⟩
end

section
def SortOut (L : List Int) (w : World) (e : Ending) (w' : World) : Prop := ∃ v M, e = .returned v ∧ Owd 3 w w' v M ∧ Le w w' ∧ M.Pairwise (· < ·) ∧ (∀ x, x ∈ M ↔ x ∈ L) ∧ M.length ≤ L.length
/-- the number comes in at its place -/
theorem ins_asc {out : List Int} {k : Nat} {x : Int} (hk : k ≤ out.length) (ha : out.Pairwise (· < ·)) (hlt : ∀ j (h : j < out.length), j < k → out[j] < x) (hge : ∀ h : k < out.length, x < out[k]) : ((out.take k ++ [x]) ++ out.drop k).Pairwise (· < ·) := by
  have hp := List.pairwise_iff_getElem.1 ha
  rw [List.pairwise_append, List.pairwise_append]
  refine ⟨⟨ha.sublist (List.take_sublist _ _), by simp, fun a h1 b h2 => ?_⟩, ha.sublist (List.drop_sublist _ _), fun a h1 b h2 => ?_⟩
  · simp at h2; subst h2
    obtain ⟨j, hj, rfl⟩ := List.getElem_of_mem h1
    rw [List.length_take] at hj
    rw [List.getElem_take]
    exact hlt j (by omega) (by omega)
  · obtain ⟨j, hj, rfl⟩ := List.getElem_of_mem h2
    rw [List.length_drop] at hj
    rw [List.getElem_drop]
    have hxk : x ≤ out[k + j]'(by omega) ∧ x < out[k + j]'(by omega) := by
      have h3 := hge (by omega)
      rcases Nat.eq_zero_or_pos j with h4 | h4
      · subst h4; simp only [Nat.add_zero]; omega
      · have := hp k (k + j) (by omega) (by omega) (by omega); omega
    rcases List.mem_append.1 h1 with h1 | h1
    · obtain ⟨i, hi, rfl⟩ := List.getElem_of_mem h1
      rw [List.length_take] at hi
      rw [List.getElem_take]
      have := hlt i (by omega) (by omega)
      omega
    · simp at h1; subst h1; exact hxk.2
theorem ins_mem {out : List Int} {k : Nat} {x y : Int} : y ∈ (out.take k ++ [x]) ++ out.drop k ↔ y ∈ out ∨ y = x := by
  rw [List.mem_append, List.mem_append, List.mem_singleton]
  conv => rhs; rw [← List.take_append_drop k out, List.mem_append]
  constructor
  · rintro ((h | h) | h)
    · exact .inl (.inl h)
    · exact .inr h
    · exact .inl (.inr h)
  · rintro ((h | h) | h)
    · exact .inl (.inl h)
    · exact .inr h
    · exact .inl (.inr h)
theorem mem_take_succ {L : List Int} {i : Nat} (h : i < L.length) (x : Int) : x ∈ L.take (i + 1) ↔ x ∈ L.take i ∨ x = L[i] := by
  rw [List.take_succ_eq_append_getElem h, List.mem_append, List.mem_singleton]
/-- the part behind k of a slice -/
theorem Sl.dropK {α : Type} [Enc α] {w : World} {b off n cap : Nat} {xs : List α} (h : Sl w (some ⟨b, off, none⟩) n cap xs) (k : Nat) (hk : k ≤ n) : Sl w (some ⟨b, off + k * Enc.size α, none⟩) (n - k) (cap - k) (xs.drop k) := by
  have hl := h.len
  have hc := h.cap_
  have hm := h.max
  refine ⟨by rw [List.length_drop]; omega, by omega, by omega, fun x hx => h.ok x (List.mem_of_mem_drop hx), fun hn => ?_⟩
  obtain ⟨b', off', e, hb, hcell⟩ := h.at_ (by omega)
  injection e with e
  injection e with e1 e2
  subst e1 e2
  refine ⟨b, off + k * Enc.size α, rfl, hb, fun j u hu => ?_⟩
  have hsplit : xs.flatMap Enc.cells = (xs.take k).flatMap Enc.cells ++ (xs.drop k).flatMap Enc.cells := by rw [← List.flatMap_append, List.take_append_drop]
  have hlt : ((xs.take k).flatMap (Enc.cells (α := α))).length = k * Enc.size α := by rw [flat_len, List.length_take, Nat.min_eq_left (by omega)]
  have := hcell (k * Enc.size α + j) u (by
    rw [hsplit, List.getElem?_append_right (by omega), hlt]
    rw [Nat.add_sub_cancel_left]; exact hu)
  rw [Nat.add_assoc]; exact this

set_option maxHeartbeats 64000000 in
set_option maxRecDepth 100000 in
theorem sorted_any (A : Option Addr) (n c : Nat) (L : List Int) (w : World) (hL : Sl w A n c L) (hn : n ≤ 1048576) :
    Calls Try.prog 98 #[.slice A n c] w (SortOut L w) := by
  obtain rfl := hL.len
  obtain ⟨i0, hi, hz0, hz1, hz2⟩ := info_parts intInfoB
  go_enter Try.func98, Try.ntmps98
  go_wp2
  go_loopw [3, 4, 5] (fun v q kk wr => ∃ (i : Nat) (out : List Int), i ≤ L.length ∧ q = .int .i64 i ∧ wr.ownsRow w.heap.size 3 1 v out.length (out.flatMap Enc.cells) ∧ Le w wr ∧ out.Pairwise (· < ·) ∧ (∀ x, x ∈ out ↔ x ∈ L.take i) ∧ out.length ≤ i ∧ v.ownBlock ≠ none) (fun _ q _ _ => L.length - (intOf q).toNat)
  case atStart => exact ⟨0, [], Nat.zero_le _, rfl, own_empty (Nat.le_refl _) rfl, Le.new w _, by simp, by simp, by simp, by simp [Value.ownBlock]⟩
  case round =>
    obtain ⟨i, out, hil, rfl, O, hle, ha, hmem, hol, hnn⟩ := hrel
    have HA := Lib.hid ha
    have HM := Lib.hid hmem
    have hok : ∀ x ∈ out, Enc.ok x := fun x hx => hL.ok x (List.mem_of_mem_take ((hmem x).1 hx))
    have HOK := Lib.hid hok
    clear ha hmem hok
    obtain ⟨gO, c', rfl⟩ : ∃ gO c', u3 = .slice (some ⟨gO, 0, none⟩) out.length c' := by
      rcases O.2 with ⟨h, _⟩ | ⟨g, c', _, h, _⟩
      · rw [h] at hnn; exact absurd rfl hnn
      · exact ⟨g, c', h⟩
    clear hnn
    have SL := hL.le hle
    by_cases hlt : i < L.length
    · obtain ⟨b, off, rfl, hb, hx, hx1, hx2⟩ := SL.int_at hlt
      have HT := Lib.hid (mem_take_succ hlt)
      generalize L[i] = x at *
      have SO := Sl.of_own O rfl (by decide) HOK.out
      go_wp2
      generalize wr = WO at *
      go_loopw [5] (fun kk wr => ∃ k : Nat, k ≤ out.length ∧ kk = .int .i64 k ∧ (∀ j (h : j < out.length), j < k → out[j] < x) ∧ Le WO wr) (fun kk _ => out.length - (intOf kk).toNat)
      case atStart => exact ⟨0, Nat.zero_le _, rfl, fun j h h2 => by omega, Le.refl _⟩
      case round =>
        obtain ⟨k, hk, rfl, hpre, hle2⟩ := hrel
        have HP := Lib.hid hpre; clear hpre
        have hb2 := Nat.lt_of_lt_of_le hb hle2.size
        have hx2' := (hle2.cell hb).trans hx
        have E1 := cell_ext hb2 hx2'
        have O2 := own_le O hle2
        have SO2 := SO.le hle2
        by_cases hkl : k < out.length
        · obtain ⟨b3, off3, hbo, hb3, hy, hy1, hy2⟩ := SO2.int_at hkl
          injection hbo with hbo
          injection hbo with hbo1 hbo2
          subst hbo1; subst hbo2
          rw [Nat.zero_add] at hy
          have E2 := cell_ext hb3 hy
          have HP2 : Hid (out[k] < x → ∀ j (h : j < out.length), j < k + 1 → out[j] < x) := fun hx j h h2 => by
            rcases Nat.lt_or_ge j k with h3 | h3
            · exact HP.out j h h3
            · have : j = k := by omega
              subst this; exact hx
          generalize hyy : out[k] = y at *
          have HY := Lib.hid hyy; clear hyy
          by_cases hyx : y < x
          · have hd1 : decide (y < x) = true := decide_eq_true hyx
            go_wp2_with fail
            refine wp_region_ext (by kernel_rfl) (by kernel_rfl) ?_
            repeat (go_big_quiet_step (fail))
            refine wpQuiet_nil ?_
            intro _ hw'
            obtain ⟨gg, rfl⟩ := hw'
            have L1 := hle2.trans (Le.ext _ gg)
            generalize wr.ext gg = W2 at *
            go_wp2
            go_roundw
            case rel => exact ⟨k + 1, by omega, by go_num, HP2.out hyx, L1⟩
            case measure => simp [intOf]; omega
          · have hd1 : decide (y < x) = false := decide_eq_false hyx
            go_wp2_with fail
            refine wp_region_ext (by kernel_rfl) (by kernel_rfl) ?_
            repeat (go_big_quiet_step (fail))
            refine wpQuiet_nil ?_
            intro _ hw'
            obtain ⟨gg, rfl⟩ := hw'
            have L1 := hle2.trans (Le.ext _ gg)
            have hx3 := (((Le.ext _ gg).cell hb2).trans hx2')
            have hy3 := (((Le.ext _ gg).cell hb3).trans hy)
            have O3 := own_le O2 (Le.ext _ gg)
            have SO3 := SO2.le (Le.ext _ gg)
            have hb4 := Nat.lt_of_lt_of_le hb2 (Le.ext _ gg).size
            have hb5 := Nat.lt_of_lt_of_le hb3 (Le.ext _ gg).size
            clear E1 E2
            generalize wr.ext gg = W2 at *
            have E1 := cell_ext hb4 hx3
            have E2 := cell_ext hb5 hy3
            have L2 := L1
            have hkn : ((k : Int) == (out.length : Int)) = false := by rw [beq_eq_false_iff_ne]; omega
            by_cases hyx2 : y = x
            · have hn1 : (y == x) = true := by simpa using hyx2
              have hn2 : (y != x) = false := by simpa using hyx2
              go_wp2_with fail
              refine wp_region_ext (by kernel_rfl) (by kernel_rfl) ?_
              repeat (go_big_quiet_step (fail))
              refine wpQuiet_nil ?_
              intro _ hw'
              obtain ⟨gg, rfl⟩ := hw'
              have L3 := L2.trans (Le.ext _ gg)
              have O4 := own_le O3 (Le.ext _ gg)
              clear E1 E2
              generalize W2.ext gg = W3 at *
              have HM2 : Hid (∀ z, z ∈ out ↔ z ∈ L.take (i + 1)) := fun z => by
                rw [HT.out, ← HM.out]
                constructor
                · exact .inl
                · rintro (h | rfl)
                  · exact h
                  · rw [← hyx2, ← HY.out]; exact List.getElem_mem _
              clear hyx2 hn1
              go_wp2
              go_roundw
              case rel => exact ⟨i + 1, out, by omega, by go_num, O4, hle.trans L3, HA.out, HM2.out, by omega, by simp [Value.ownBlock]⟩
              case measure => simp [intOf]; omega
            · have hn1 : (y == x) = false := by simpa using hyx2
              have hn2 : (y != x) = true := by simpa using hyx2
              go_wp2_with fail
              refine wp_region_ext (by kernel_rfl) (by kernel_rfl) ?_
              repeat (go_big_quiet_step (fail))
              refine wpQuiet_nil ?_
              intro _ hw'
              obtain ⟨gg, rfl⟩ := hw'
              have hxW := ((Le.ext _ gg).cell hb4).trans hx3
              have OW := own_le O3 (Le.ext _ gg)
              have SW := SO3.le (Le.ext _ gg)
              have hbW := Nat.lt_of_lt_of_le hb4 (Le.ext _ gg).size
              have LW := hle.trans (L1.trans (Le.ext _ gg))
              clear E1 E2
              generalize W2.ext gg = W at *
              have hlt3 := (OW.lt gO rfl).2
              have hgeX : ∀ h : k < out.length, x < out[k] := fun h => by rw [HY.out]; omega
              have HAS := Lib.hid (ins_asc hk HA.out HP.out hgeX)
              have HM2 : Hid (∀ z, z ∈ (out.take k ++ [x]) ++ out.drop k ↔ z ∈ L.take (i + 1)) := fun z => by rw [ins_mem, HT.out, HM.out]
              have hokx : Enc.ok (α := Int) x := ⟨hx1, hx2⟩
              have T1 := (SW.take_ k hk).le (Le.refl W).drew
              obtain ⟨o2, l2, n2, T2, hcc, hl2⟩ : ∃ (o2 l2 n2 : Nat), Sl W (some ⟨gO, o2, none⟩) l2 n2 (out.drop k) ∧ ((k = c' ∧ o2 = 0 ∧ l2 = 0 ∧ n2 = 0) ∨ (¬ c' = k ∧ o2 = k ∧ l2 = out.length - k ∧ n2 = c' - k)) ∧ l2 = out.length - k := by
                by_cases hc : c' = k
                · have h1 : out.drop k = [] := List.drop_eq_nil_of_le (by have := SW.cap_; omega)
                  refine ⟨0, 0, 0, ?_, .inl ⟨hc.symm, rfl, rfl, rfl⟩, by have := SW.cap_; omega⟩
                  rw [h1]; exact Sl.nil _ _ _ (by omega)
                · have hT := SW.dropK k hk
                  rw [show 0 + k * Enc.size Int = k from by show 0 + k * 1 = k; omega] at hT
                  exact ⟨_, _, _, hT, .inr ⟨hc, rfl, rfl, rfl⟩, rfl⟩
              have HL2 := Lib.hid hl2; clear hl2
              have hcap := SW.cap_
              have LD := (Le.refl W).drew
              have hsd : W.drew.heap.size = W.heap.size := rfl
              have k1 : (0 : Int) ≤ (k : Int) := by omega
              have k2 : (k : Int) ≤ (c' : Int) := by omega
              have k4 : (out.length : Int) ≤ (c' : Int) := by omega
              have k3 : (k : Int) ≤ (out.length : Int) := by omega
              have k6 : k ≤ c' := by omega
              have m1 : 0 + k ≤ maxLen := by unfold maxLen; omega
              have m2 : (0 + k) * 8 ≤ 140737488355328 := by omega
              have m3 : k + 1 ≤ maxLen := by unfold maxLen; omega
              have m4 : (k + 1) * 8 ≤ 140737488355328 := by omega
              have m5 : k + 1 + l2 ≤ maxLen := by have := HL2.out; unfold maxLen; omega
              have m6 : (k + 1 + l2) * 8 ≤ 140737488355328 := by have := HL2.out; omega
              have hx0 := (show W.drew.cell? _ = _ from hxW)
              have HROW : Hid (∀ k, (Value.slice (some ⟨W.heap.size, 0, none⟩) 0 0).ownBlock = some k → W.heap.size ≤ k) := fun k hk => by injection hk with hk; exact Nat.le_of_eq hk
              have HS1 : Hid (W.heap.size + 1 = (W.drew.alloc (.cells #[] 3)).heap.size) := by show _ = _; simp
              have HS2 : Hid (W.heap.size + 1 = (W.drew.alloc (.cells #[.int .i64 x] 3)).heap.size) := by show _ = _; simp
              have HROW2 : Hid (∀ k, (Value.slice (some ⟨W.heap.size + 1, 0, none⟩) 0 0).ownBlock = some k → W.heap.size ≤ k) := fun k hk => by injection hk with hk; have h2 : W.heap.size + 1 = k := hk; omega
              have HNE2 : Hid (∀ a : Addr, some (⟨W.heap.size, 0, none⟩ : Addr) = some a → some a.block = (Value.slice (some ⟨W.heap.size + 1, 0, none⟩) 0 0).ownBlock → False) := fun a e h => by injection e with e; subst e; injection h with h; have h2 : W.heap.size = W.heap.size + 1 := h; omega
              have HNE1 : Hid (∀ a : Addr, some (⟨W.heap.size + 1, 0, none⟩ : Addr) = some a → some a.block = (Value.slice (some ⟨W.heap.size, 0, none⟩) 0 0).ownBlock → False) := fun a e h => by injection e with e; subst e; injection h with h; have h2 : W.heap.size + 1 = W.heap.size := h; omega
              rcases hcc with ⟨hcs, ho, hl, hq⟩ | ⟨hcn, ho, hl, hq⟩
              · exfalso; omega
              all_goals
                have HO2 := Lib.hid (And.intro ho (And.intro hl hq)); clear ho hl hq
                go_wp2_with fail
                go_region_held3 (fun w' => w'.cell? ⟨b, off + i, none⟩ = some (.int .i64 x)) (first | exact hx0 | exact ((Le.new _ _).cell hbW).trans hx0 | exact (((Le.new W.drew (.cells #[] 3)).alloc (.cells #[.int .i64 x] 3)).cell hbW).trans hx0 | exact (((Le.new W.drew (.cells #[.int .i64 x] 3)).alloc (.cells #[] 3)).cell hbW).trans hx0 | exact x7 | exact x7b | exact x8 | exact x9)
                  (first
                  | (have hzz := LB; have q7 : W.heap.size ≤ w8.heap.size := LB.size; refine step_append_sl rfl (.tmp 55) (.tmp 58) 29 rfl W.heap.size 3 i0 _ 8 Try.underlying29 hi hz0 hz1 hz2 rfl v2 (k + 1) (out.take k ++ [x]) rfl O2 (some ⟨gO, o2, none⟩) l2 n2 (out.drop k) (by obtain ⟨h1, h2, h3⟩ := HO2.out; subst h1; subst h2; subst h3; first | rfl | (simp [Act.eval]; done) | (simp [Act.eval, hcn]; done)) T8 m5 m6 q7 ?_; intro v3 w9 O3' hg3 _; have LC := LB.grown hg3 (fun k hk => (O2.lt k hk).1); have x9 := (LC.cell hbW).trans hxW)
                  | (have hzz := SXB; refine step_append_sl rfl (.tmp 49) (.tmp 54) 29 rfl W.heap.size 3 i0 _ 8 Try.underlying29 hi hz0 hz1 hz2 rfl v1 k (out.take k) rfl O1 (some ⟨W.heap.size + 1, 0, none⟩) 1 1 [x] rfl SXB m3 m4 LA.size ?_; intro v2 w8 O2 hg2 _; have LB : Le W w8 := LA.grown hg2 (fun k hk => (O1.lt k hk).1); have x8 : w8.cell? ⟨b, off + i, none⟩ = some (.int .i64 x) := (LB.cell hbW).trans hxW; have T8 := T2.le LB)
                  | (have hzz := SXC; refine step_append_sl rfl (.tmp 49) (.tmp 54) 29 rfl W.heap.size 3 i0 _ 8 Try.underlying29 hi hz0 hz1 hz2 rfl v1 k (out.take k) rfl O1 (some ⟨W.heap.size, 0, none⟩) 1 1 [x] rfl SXC m3 m4 LA.size ?_; intro v2 w8 O2 hg2 _; have LB : Le W w8 := LA.grown hg2 (fun k hk => (O1.lt k hk).1); have x8 : w8.cell? ⟨b, off + i, none⟩ = some (.int .i64 x) := (LB.cell hbW).trans hxW; have T8 := T2.le LB)
                  | (have hzz := O1; have q4 : (w7.alloc (.cells #[.int .i64 x] 3)).ownsRow W.heap.size 3 1 v1 k ((out.take k).flatMap Enc.cells) := O1.alloc _; have q5 := sl_one (w := w7) (cs := #[.int .i64 x]) (T := 3) x rfl hokx (b := w7.heap.size) rfl; have q6 : W.heap.size ≤ (w7.alloc (.cells #[.int .i64 x] 3)).heap.size := Nat.le_trans LA.size (Le.new w7 _).size; refine step_append_sl rfl (.tmp 49) (.tmp 54) 29 rfl W.heap.size 3 i0 _ 8 Try.underlying29 hi hz0 hz1 hz2 rfl v1 k (out.take k) rfl q4 (some ⟨w7.heap.size, 0, none⟩) 1 1 [x] rfl q5 m3 m4 q6 ?_; intro v2 w8 O2 hg2 _; have LB : Le W w8 := (LA.alloc (.cells #[.int .i64 x] 3)).grown hg2 (fun k hk => (O1.lt k hk).1); have x8 : w8.cell? ⟨b, off + i, none⟩ = some (.int .i64 x) := (LB.cell hbW).trans hxW; have T8 := T2.le LB)
                  | (have q1 : (W.alloc (.cells #[] 3)).drew.ownsRow W.heap.size 3 1 (.slice (some ⟨W.heap.size, 0, none⟩) 0 0) 0 [] := (own_empty (w := W.drew) (Nat.le_refl _) rfl); have q2 : Sl (W.alloc (.cells #[] 3)).drew (some ⟨gO, 0, none⟩) k c' (out.take k) := (T1.alloc (.cells #[] 3)); have q3 : W.heap.size ≤ (W.alloc (.cells #[] 3)).drew.heap.size := (Le.new W.drew (.cells #[] 3)).size; refine step_append_sl rfl (.tmp 45) (.tmp 48) 29 rfl W.heap.size 3 i0 _ 8 Try.underlying29 hi hz0 hz1 hz2 rfl (.slice (some ⟨W.heap.size, 0, none⟩) 0 0) 0 ([] : List Int) rfl q1 (some ⟨gO, 0, none⟩) k c' (out.take k) rfl q2 m1 m2 q3 ?_; intro v1 w7 O1 hg1 _; simp only [Nat.zero_add, List.nil_append] at O1; have LA0 : Le W (W.alloc (.cells #[] 3)).drew := (LD.alloc (.cells #[] 3)); have LA : Le W w7 := LA0.grown hg1 HROW.out; have x7 : w7.cell? ⟨b, off + i, none⟩ = some (.int .i64 x) := (LA.cell hbW).trans hxW; have hb7 : b < w7.heap.size := Nat.lt_of_lt_of_le hbW LA.size; have x7b : (w7.alloc (.cells #[.int .i64 x] 3)).cell? ⟨b, off + i, none⟩ = some (.int .i64 x) := ((Le.new w7 (.cells #[.int .i64 x] 3)).cell hb7).trans x7)
                  | (have q1 : ((W.alloc (.cells #[] 3)).alloc (.cells #[.int .i64 x] 3)).drew.ownsRow W.heap.size 3 1 (.slice (some ⟨W.heap.size, 0, none⟩) 0 0) 0 [] := (own_empty (w := W.drew) (Nat.le_refl _) rfl).alloc (.cells #[.int .i64 x] 3); have q2 : Sl ((W.alloc (.cells #[] 3)).alloc (.cells #[.int .i64 x] 3)).drew (some ⟨gO, 0, none⟩) k c' (out.take k) := (T1.alloc (.cells #[] 3)).alloc (.cells #[.int .i64 x] 3); have q3 : W.heap.size ≤ ((W.alloc (.cells #[] 3)).alloc (.cells #[.int .i64 x] 3)).drew.heap.size := Nat.le_trans (Le.new W.drew (.cells #[] 3)).size (Le.new (W.drew.alloc (.cells #[] 3)) (.cells #[.int .i64 x] 3)).size; refine step_append_sl rfl (.tmp 45) (.tmp 48) 29 rfl W.heap.size 3 i0 _ 8 Try.underlying29 hi hz0 hz1 hz2 rfl (.slice (some ⟨W.heap.size, 0, none⟩) 0 0) 0 ([] : List Int) rfl q1 (some ⟨gO, 0, none⟩) k c' (out.take k) rfl q2 m1 m2 q3 ?_; intro v1 w7 O1 hg1 _; simp only [Nat.zero_add, List.nil_append] at O1; have LA0 : Le W ((W.alloc (.cells #[] 3)).alloc (.cells #[.int .i64 x] 3)).drew := (LD.alloc (.cells #[] 3)).alloc (.cells #[.int .i64 x] 3); have LA : Le W w7 := LA0.grown hg1 HROW.out; have x7 : w7.cell? ⟨b, off + i, none⟩ = some (.int .i64 x) := (LA.cell hbW).trans hxW; have hb7 : b < w7.heap.size := Nat.lt_of_lt_of_le hbW LA.size; have SX0 : Sl ((W.alloc (.cells #[] 3)).alloc (.cells #[.int .i64 x] 3)).drew (some ⟨W.heap.size + 1, 0, none⟩) 1 1 [x] := sl_one (w := W.drew.alloc (.cells #[] 3)) (cs := #[.int .i64 x]) (T := 3) x rfl hokx (b := W.heap.size + 1) HS1.out; have SXB : Sl w7 (some ⟨W.heap.size + 1, 0, none⟩) 1 1 [x] := SX0.grown hg1 (fun _ a e h => HNE1.out a e h))
                  | (have q1 : ((W.alloc (.cells #[.int .i64 x] 3)).alloc (.cells #[] 3)).drew.ownsRow W.heap.size 3 1 (.slice (some ⟨W.heap.size + 1, 0, none⟩) 0 0) 0 [] := own_empty (w := W.drew.alloc (.cells #[.int .i64 x] 3)) (Le.new W.drew (.cells #[.int .i64 x] 3)).size HS2.out; have q2 : Sl ((W.alloc (.cells #[.int .i64 x] 3)).alloc (.cells #[] 3)).drew (some ⟨gO, 0, none⟩) k c' (out.take k) := (T1.alloc (.cells #[.int .i64 x] 3)).alloc (.cells #[] 3); have q3 : W.heap.size ≤ ((W.alloc (.cells #[.int .i64 x] 3)).alloc (.cells #[] 3)).drew.heap.size := Nat.le_trans (Le.new W.drew (.cells #[.int .i64 x] 3)).size (Le.new (W.drew.alloc (.cells #[.int .i64 x] 3)) (.cells #[] 3)).size; refine step_append_sl rfl (.tmp 45) (.tmp 48) 29 rfl W.heap.size 3 i0 _ 8 Try.underlying29 hi hz0 hz1 hz2 rfl (.slice (some ⟨W.heap.size + 1, 0, none⟩) 0 0) 0 ([] : List Int) rfl q1 (some ⟨gO, 0, none⟩) k c' (out.take k) rfl q2 m1 m2 q3 ?_; intro v1 w7 O1 hg1 _; simp only [Nat.zero_add, List.nil_append] at O1; have LA0 : Le W ((W.alloc (.cells #[.int .i64 x] 3)).alloc (.cells #[] 3)).drew := (LD.alloc (.cells #[.int .i64 x] 3)).alloc (.cells #[] 3); have LA : Le W w7 := LA0.grown hg1 HROW2.out; have x7 : w7.cell? ⟨b, off + i, none⟩ = some (.int .i64 x) := (LA.cell hbW).trans hxW; have hb7 : b < w7.heap.size := Nat.lt_of_lt_of_le hbW LA.size; have SX0 : Sl ((W.alloc (.cells #[.int .i64 x] 3)).alloc (.cells #[] 3)).drew (some ⟨W.heap.size, 0, none⟩) 1 1 [x] := (sl_one (w := W.drew) (cs := #[.int .i64 x]) (T := 3) x rfl hokx (b := W.heap.size) rfl).alloc (.cells #[] 3); have SXC : Sl w7 (some ⟨W.heap.size, 0, none⟩) 1 1 [x] := SX0.grown hg1 (fun _ a e h => HNE2.out a e h)))
                all_goals
                  have hln : ((out.take k ++ [x]) ++ out.drop k).length = k + 1 + l2 := by have := HL2.out; simp [List.length_take, List.length_drop]; omega
                  have O4 : w9.ownsRow w.heap.size 3 1 v3 ((out.take k ++ [x]) ++ out.drop k).length (((out.take k ++ [x]) ++ out.drop k).flatMap Enc.cells) := by rw [hln]; exact own_mono O3' LW.size
                  have hv3 : v3.ownBlock ≠ none := by
                    rcases O4.2 with ⟨_, h⟩ | ⟨g, c3, _, h, _⟩
                    · rw [hln] at h; omega
                    · rw [h]; simp [Value.ownBlock]
                  have hll : ((out.take k ++ [x]) ++ out.drop k).length ≤ i + 1 := by rw [hln]; have := HL2.out; omega
                  have HF := Lib.hid hll; have HO4 := Lib.hid O4; have HV3 := Lib.hid hv3; have HLC := Lib.hid (LW.trans LC)
                  clear hln O4 hv3 hll O3' O1 O2 hg1 hg2 hg3 LB LC LA
                  clear T1 T2 T8 x7 x8 x9 OW SW hx0 hxW
                  go_wp2
                  go_roundw
                  case rel => exact ⟨i + 1, _, by omega, by go_num, HO4.out, HLC.out, HAS.out, HM2.out, HF.out, HV3.out⟩
                  case measure => simp [intOf]; omega
        · have hkk : k = out.length := by omega
          have hkn : ((k : Int) == (out.length : Int)) = true := by rw [beq_iff_eq]; omega
          have HKK := Lib.hid hkk; clear hkk
          go_wp2_with fail
          refine wp_region_ext (by kernel_rfl) (by kernel_rfl) ?_
          repeat (go_big_quiet_step (fail))
          refine wpQuiet_nil ?_
          intro _ hw'
          obtain ⟨gg, rfl⟩ := hw'
          have L1 := hle2.trans (Le.ext _ gg)
          have hx3 := (((Le.ext _ gg).cell hb2).trans hx2')
          have O3 := own_le O2 (Le.ext _ gg)
          have SO3 := SO2.le (Le.ext _ gg)
          have hb4 := Nat.lt_of_lt_of_le hb2 (Le.ext _ gg).size
          clear E1
          generalize wr.ext gg = W2 at *
          have E1 := cell_ext hb4 hx3
          go_wp2_with fail
          refine wp_region_ext (by kernel_rfl) (by kernel_rfl) ?_
          repeat (go_big_quiet_step (fail))
          refine wpQuiet_nil ?_
          intro _ hw'
          obtain ⟨gg, rfl⟩ := hw'
          have hxW := ((Le.ext _ gg).cell hb4).trans hx3
          have OW := own_le O3 (Le.ext _ gg)
          have SW := SO3.le (Le.ext _ gg)
          have hbW := Nat.lt_of_lt_of_le hb4 (Le.ext _ gg).size
          have LW := hle.trans (L1.trans (Le.ext _ gg))
          clear E1
          generalize W2.ext gg = W at *
          have hlt3 := (OW.lt gO rfl).2
          have hgeX : ∀ h : k < out.length, x < out[k] := fun h => by have := HKK.out; omega
          have HAS := Lib.hid (ins_asc hk HA.out HP.out hgeX)
          have HM2 : Hid (∀ z, z ∈ (out.take k ++ [x]) ++ out.drop k ↔ z ∈ L.take (i + 1)) := fun z => by rw [ins_mem, HT.out, HM.out]
          have hokx : Enc.ok (α := Int) x := ⟨hx1, hx2⟩
          have T1 := (SW.take_ k hk).le (Le.refl W).drew
          obtain ⟨o2, l2, n2, T2, hcc, hl2⟩ : ∃ (o2 l2 n2 : Nat), Sl W (some ⟨gO, o2, none⟩) l2 n2 (out.drop k) ∧ ((k = c' ∧ o2 = 0 ∧ l2 = 0 ∧ n2 = 0) ∨ (¬ c' = k ∧ o2 = k ∧ l2 = out.length - k ∧ n2 = c' - k)) ∧ l2 = out.length - k := by
            by_cases hc : c' = k
            · have h1 : out.drop k = [] := List.drop_eq_nil_of_le (by have := SW.cap_; omega)
              refine ⟨0, 0, 0, ?_, .inl ⟨hc.symm, rfl, rfl, rfl⟩, by have := SW.cap_; omega⟩
              rw [h1]; exact Sl.nil _ _ _ (by omega)
            · have hT := SW.dropK k hk
              rw [show 0 + k * Enc.size Int = k from by show 0 + k * 1 = k; omega] at hT
              exact ⟨_, _, _, hT, .inr ⟨hc, rfl, rfl, rfl⟩, rfl⟩
          have HL2 := Lib.hid hl2; clear hl2
          have hcap := SW.cap_
          have LD := (Le.refl W).drew
          have hsd : W.drew.heap.size = W.heap.size := rfl
          have k1 : (0 : Int) ≤ (k : Int) := by omega
          have k2 : (k : Int) ≤ (c' : Int) := by omega
          have k4 : (out.length : Int) ≤ (c' : Int) := by omega
          have k3 : (k : Int) ≤ (out.length : Int) := by omega
          have k6 : k ≤ c' := by omega
          have m1 : 0 + k ≤ maxLen := by unfold maxLen; omega
          have m2 : (0 + k) * 8 ≤ 140737488355328 := by omega
          have m3 : k + 1 ≤ maxLen := by unfold maxLen; omega
          have m4 : (k + 1) * 8 ≤ 140737488355328 := by omega
          have m5 : k + 1 + l2 ≤ maxLen := by have := HL2.out; unfold maxLen; omega
          have m6 : (k + 1 + l2) * 8 ≤ 140737488355328 := by have := HL2.out; omega
          have hx0 := (show W.drew.cell? _ = _ from hxW)
          have HROW : Hid (∀ k, (Value.slice (some ⟨W.heap.size, 0, none⟩) 0 0).ownBlock = some k → W.heap.size ≤ k) := fun k hk => by injection hk with hk; exact Nat.le_of_eq hk
          have HS1 : Hid (W.heap.size + 1 = (W.drew.alloc (.cells #[] 3)).heap.size) := by show _ = _; simp
          have HS2 : Hid (W.heap.size + 1 = (W.drew.alloc (.cells #[.int .i64 x] 3)).heap.size) := by show _ = _; simp
          have HROW2 : Hid (∀ k, (Value.slice (some ⟨W.heap.size + 1, 0, none⟩) 0 0).ownBlock = some k → W.heap.size ≤ k) := fun k hk => by injection hk with hk; have h2 : W.heap.size + 1 = k := hk; omega
          have HNE2 : Hid (∀ a : Addr, some (⟨W.heap.size, 0, none⟩ : Addr) = some a → some a.block = (Value.slice (some ⟨W.heap.size + 1, 0, none⟩) 0 0).ownBlock → False) := fun a e h => by injection e with e; subst e; injection h with h; have h2 : W.heap.size = W.heap.size + 1 := h; omega
          have HNE1 : Hid (∀ a : Addr, some (⟨W.heap.size + 1, 0, none⟩ : Addr) = some a → some a.block = (Value.slice (some ⟨W.heap.size, 0, none⟩) 0 0).ownBlock → False) := fun a e h => by injection e with e; subst e; injection h with h; have h2 : W.heap.size + 1 = W.heap.size := h; omega
          rcases hcc with ⟨hcs, ho, hl, hq⟩ | ⟨hcn, ho, hl, hq⟩
          · subst hcs
            have k8 : k ≤ k := Nat.le_refl k
            have k9 : (k : Int) ≤ (k : Int) := Int.le_refl _
            have HO2 := Lib.hid (And.intro ho (And.intro hl hq)); clear ho hl hq
            go_wp2_with fail
            go_region_held3 (fun w' => w'.cell? ⟨b, off + i, none⟩ = some (.int .i64 x)) (first | exact hx0 | exact ((Le.new _ _).cell hbW).trans hx0 | exact (((Le.new W.drew (.cells #[] 3)).alloc (.cells #[.int .i64 x] 3)).cell hbW).trans hx0 | exact (((Le.new W.drew (.cells #[.int .i64 x] 3)).alloc (.cells #[] 3)).cell hbW).trans hx0 | exact x7 | exact x7b | exact x8 | exact x9)
              (first
              | (have hzz := LB; have q7 : W.heap.size ≤ w8.heap.size := LB.size; refine step_append_sl rfl (.tmp 55) (.tmp 58) 29 rfl W.heap.size 3 i0 _ 8 Try.underlying29 hi hz0 hz1 hz2 rfl v2 (k + 1) (out.take k ++ [x]) rfl O2 (some ⟨gO, o2, none⟩) l2 n2 (out.drop k) (by obtain ⟨h1, h2, h3⟩ := HO2.out; subst h1; subst h2; subst h3; first | rfl | (simp [Act.eval]; done) | (simp [Act.eval, k8]; done)) T8 m5 m6 q7 ?_; intro v3 w9 O3' hg3 _; have LC := LB.grown hg3 (fun k hk => (O2.lt k hk).1); have x9 := (LC.cell hbW).trans hxW)
              | (have hzz := SXB; refine step_append_sl rfl (.tmp 49) (.tmp 54) 29 rfl W.heap.size 3 i0 _ 8 Try.underlying29 hi hz0 hz1 hz2 rfl v1 k (out.take k) rfl O1 (some ⟨W.heap.size + 1, 0, none⟩) 1 1 [x] rfl SXB m3 m4 LA.size ?_; intro v2 w8 O2 hg2 _; have LB : Le W w8 := LA.grown hg2 (fun k hk => (O1.lt k hk).1); have x8 : w8.cell? ⟨b, off + i, none⟩ = some (.int .i64 x) := (LB.cell hbW).trans hxW; have T8 := T2.le LB)
              | (have hzz := SXC; refine step_append_sl rfl (.tmp 49) (.tmp 54) 29 rfl W.heap.size 3 i0 _ 8 Try.underlying29 hi hz0 hz1 hz2 rfl v1 k (out.take k) rfl O1 (some ⟨W.heap.size, 0, none⟩) 1 1 [x] rfl SXC m3 m4 LA.size ?_; intro v2 w8 O2 hg2 _; have LB : Le W w8 := LA.grown hg2 (fun k hk => (O1.lt k hk).1); have x8 : w8.cell? ⟨b, off + i, none⟩ = some (.int .i64 x) := (LB.cell hbW).trans hxW; have T8 := T2.le LB)
              | (have hzz := O1; have q4 : (w7.alloc (.cells #[.int .i64 x] 3)).ownsRow W.heap.size 3 1 v1 k ((out.take k).flatMap Enc.cells) := O1.alloc _; have q5 := sl_one (w := w7) (cs := #[.int .i64 x]) (T := 3) x rfl hokx (b := w7.heap.size) rfl; have q6 : W.heap.size ≤ (w7.alloc (.cells #[.int .i64 x] 3)).heap.size := Nat.le_trans LA.size (Le.new w7 _).size; refine step_append_sl rfl (.tmp 49) (.tmp 54) 29 rfl W.heap.size 3 i0 _ 8 Try.underlying29 hi hz0 hz1 hz2 rfl v1 k (out.take k) rfl q4 (some ⟨w7.heap.size, 0, none⟩) 1 1 [x] rfl q5 m3 m4 q6 ?_; intro v2 w8 O2 hg2 _; have LB : Le W w8 := (LA.alloc (.cells #[.int .i64 x] 3)).grown hg2 (fun k hk => (O1.lt k hk).1); have x8 : w8.cell? ⟨b, off + i, none⟩ = some (.int .i64 x) := (LB.cell hbW).trans hxW; have T8 := T2.le LB)
              | (have q1 : (W.alloc (.cells #[] 3)).drew.ownsRow W.heap.size 3 1 (.slice (some ⟨W.heap.size, 0, none⟩) 0 0) 0 [] := (own_empty (w := W.drew) (Nat.le_refl _) rfl); have q2 : Sl (W.alloc (.cells #[] 3)).drew (some ⟨gO, 0, none⟩) k k (out.take k) := (T1.alloc (.cells #[] 3)); have q3 : W.heap.size ≤ (W.alloc (.cells #[] 3)).drew.heap.size := (Le.new W.drew (.cells #[] 3)).size; refine step_append_sl rfl (.tmp 45) (.tmp 48) 29 rfl W.heap.size 3 i0 _ 8 Try.underlying29 hi hz0 hz1 hz2 rfl (.slice (some ⟨W.heap.size, 0, none⟩) 0 0) 0 ([] : List Int) rfl q1 (some ⟨gO, 0, none⟩) k k (out.take k) rfl q2 m1 m2 q3 ?_; intro v1 w7 O1 hg1 _; simp only [Nat.zero_add, List.nil_append] at O1; have LA0 : Le W (W.alloc (.cells #[] 3)).drew := (LD.alloc (.cells #[] 3)); have LA : Le W w7 := LA0.grown hg1 HROW.out; have x7 : w7.cell? ⟨b, off + i, none⟩ = some (.int .i64 x) := (LA.cell hbW).trans hxW; have hb7 : b < w7.heap.size := Nat.lt_of_lt_of_le hbW LA.size; have x7b : (w7.alloc (.cells #[.int .i64 x] 3)).cell? ⟨b, off + i, none⟩ = some (.int .i64 x) := ((Le.new w7 (.cells #[.int .i64 x] 3)).cell hb7).trans x7)
              | (have q1 : ((W.alloc (.cells #[] 3)).alloc (.cells #[.int .i64 x] 3)).drew.ownsRow W.heap.size 3 1 (.slice (some ⟨W.heap.size, 0, none⟩) 0 0) 0 [] := (own_empty (w := W.drew) (Nat.le_refl _) rfl).alloc (.cells #[.int .i64 x] 3); have q2 : Sl ((W.alloc (.cells #[] 3)).alloc (.cells #[.int .i64 x] 3)).drew (some ⟨gO, 0, none⟩) k k (out.take k) := (T1.alloc (.cells #[] 3)).alloc (.cells #[.int .i64 x] 3); have q3 : W.heap.size ≤ ((W.alloc (.cells #[] 3)).alloc (.cells #[.int .i64 x] 3)).drew.heap.size := Nat.le_trans (Le.new W.drew (.cells #[] 3)).size (Le.new (W.drew.alloc (.cells #[] 3)) (.cells #[.int .i64 x] 3)).size; refine step_append_sl rfl (.tmp 45) (.tmp 48) 29 rfl W.heap.size 3 i0 _ 8 Try.underlying29 hi hz0 hz1 hz2 rfl (.slice (some ⟨W.heap.size, 0, none⟩) 0 0) 0 ([] : List Int) rfl q1 (some ⟨gO, 0, none⟩) k k (out.take k) rfl q2 m1 m2 q3 ?_; intro v1 w7 O1 hg1 _; simp only [Nat.zero_add, List.nil_append] at O1; have LA0 : Le W ((W.alloc (.cells #[] 3)).alloc (.cells #[.int .i64 x] 3)).drew := (LD.alloc (.cells #[] 3)).alloc (.cells #[.int .i64 x] 3); have LA : Le W w7 := LA0.grown hg1 HROW.out; have x7 : w7.cell? ⟨b, off + i, none⟩ = some (.int .i64 x) := (LA.cell hbW).trans hxW; have hb7 : b < w7.heap.size := Nat.lt_of_lt_of_le hbW LA.size; have SX0 : Sl ((W.alloc (.cells #[] 3)).alloc (.cells #[.int .i64 x] 3)).drew (some ⟨W.heap.size + 1, 0, none⟩) 1 1 [x] := sl_one (w := W.drew.alloc (.cells #[] 3)) (cs := #[.int .i64 x]) (T := 3) x rfl hokx (b := W.heap.size + 1) HS1.out; have SXB : Sl w7 (some ⟨W.heap.size + 1, 0, none⟩) 1 1 [x] := SX0.grown hg1 (fun _ a e h => HNE1.out a e h))
              | (have q1 : ((W.alloc (.cells #[.int .i64 x] 3)).alloc (.cells #[] 3)).drew.ownsRow W.heap.size 3 1 (.slice (some ⟨W.heap.size + 1, 0, none⟩) 0 0) 0 [] := own_empty (w := W.drew.alloc (.cells #[.int .i64 x] 3)) (Le.new W.drew (.cells #[.int .i64 x] 3)).size HS2.out; have q2 : Sl ((W.alloc (.cells #[.int .i64 x] 3)).alloc (.cells #[] 3)).drew (some ⟨gO, 0, none⟩) k k (out.take k) := (T1.alloc (.cells #[.int .i64 x] 3)).alloc (.cells #[] 3); have q3 : W.heap.size ≤ ((W.alloc (.cells #[.int .i64 x] 3)).alloc (.cells #[] 3)).drew.heap.size := Nat.le_trans (Le.new W.drew (.cells #[.int .i64 x] 3)).size (Le.new (W.drew.alloc (.cells #[.int .i64 x] 3)) (.cells #[] 3)).size; refine step_append_sl rfl (.tmp 45) (.tmp 48) 29 rfl W.heap.size 3 i0 _ 8 Try.underlying29 hi hz0 hz1 hz2 rfl (.slice (some ⟨W.heap.size + 1, 0, none⟩) 0 0) 0 ([] : List Int) rfl q1 (some ⟨gO, 0, none⟩) k k (out.take k) rfl q2 m1 m2 q3 ?_; intro v1 w7 O1 hg1 _; simp only [Nat.zero_add, List.nil_append] at O1; have LA0 : Le W ((W.alloc (.cells #[.int .i64 x] 3)).alloc (.cells #[] 3)).drew := (LD.alloc (.cells #[.int .i64 x] 3)).alloc (.cells #[] 3); have LA : Le W w7 := LA0.grown hg1 HROW2.out; have x7 : w7.cell? ⟨b, off + i, none⟩ = some (.int .i64 x) := (LA.cell hbW).trans hxW; have hb7 : b < w7.heap.size := Nat.lt_of_lt_of_le hbW LA.size; have SX0 : Sl ((W.alloc (.cells #[.int .i64 x] 3)).alloc (.cells #[] 3)).drew (some ⟨W.heap.size, 0, none⟩) 1 1 [x] := (sl_one (w := W.drew) (cs := #[.int .i64 x]) (T := 3) x rfl hokx (b := W.heap.size) rfl).alloc (.cells #[] 3); have SXC : Sl w7 (some ⟨W.heap.size, 0, none⟩) 1 1 [x] := SX0.grown hg1 (fun _ a e h => HNE2.out a e h)))
            all_goals
              have hln : ((out.take k ++ [x]) ++ out.drop k).length = k + 1 + l2 := by have := HL2.out; simp [List.length_take, List.length_drop]; omega
              have O4 : w9.ownsRow w.heap.size 3 1 v3 ((out.take k ++ [x]) ++ out.drop k).length (((out.take k ++ [x]) ++ out.drop k).flatMap Enc.cells) := by rw [hln]; exact own_mono O3' LW.size
              have hv3 : v3.ownBlock ≠ none := by
                rcases O4.2 with ⟨_, h⟩ | ⟨g, c3, _, h, _⟩
                · rw [hln] at h; omega
                · rw [h]; simp [Value.ownBlock]
              have hll : ((out.take k ++ [x]) ++ out.drop k).length ≤ i + 1 := by rw [hln]; have := HL2.out; omega
              have HF := Lib.hid hll; have HO4 := Lib.hid O4; have HV3 := Lib.hid hv3; have HLC := Lib.hid (LW.trans LC)
              clear hln O4 hv3 hll O3' O1 O2 hg1 hg2 hg3 LB LC LA
              clear T1 T2 T8 x7 x8 x9 OW SW hx0 hxW
              go_wp2
              go_roundw
              case rel => exact ⟨i + 1, _, by omega, by go_num, HO4.out, HLC.out, HAS.out, HM2.out, HF.out, HV3.out⟩
              case measure => simp [intOf]; omega
          all_goals
            have HO2 := Lib.hid (And.intro ho (And.intro hl hq)); clear ho hl hq
            go_wp2_with fail
            go_region_held3 (fun w' => w'.cell? ⟨b, off + i, none⟩ = some (.int .i64 x)) (first | exact hx0 | exact ((Le.new _ _).cell hbW).trans hx0 | exact (((Le.new W.drew (.cells #[] 3)).alloc (.cells #[.int .i64 x] 3)).cell hbW).trans hx0 | exact (((Le.new W.drew (.cells #[.int .i64 x] 3)).alloc (.cells #[] 3)).cell hbW).trans hx0 | exact x7 | exact x7b | exact x8 | exact x9)
              (first
              | (have hzz := LB; have q7 : W.heap.size ≤ w8.heap.size := LB.size; refine step_append_sl rfl (.tmp 55) (.tmp 58) 29 rfl W.heap.size 3 i0 _ 8 Try.underlying29 hi hz0 hz1 hz2 rfl v2 (k + 1) (out.take k ++ [x]) rfl O2 (some ⟨gO, o2, none⟩) l2 n2 (out.drop k) (by obtain ⟨h1, h2, h3⟩ := HO2.out; subst h1; subst h2; subst h3; first | rfl | (simp [Act.eval]; done) | (simp [Act.eval, hcn]; done)) T8 m5 m6 q7 ?_; intro v3 w9 O3' hg3 _; have LC := LB.grown hg3 (fun k hk => (O2.lt k hk).1); have x9 := (LC.cell hbW).trans hxW)
              | (have hzz := SXB; refine step_append_sl rfl (.tmp 49) (.tmp 54) 29 rfl W.heap.size 3 i0 _ 8 Try.underlying29 hi hz0 hz1 hz2 rfl v1 k (out.take k) rfl O1 (some ⟨W.heap.size + 1, 0, none⟩) 1 1 [x] rfl SXB m3 m4 LA.size ?_; intro v2 w8 O2 hg2 _; have LB : Le W w8 := LA.grown hg2 (fun k hk => (O1.lt k hk).1); have x8 : w8.cell? ⟨b, off + i, none⟩ = some (.int .i64 x) := (LB.cell hbW).trans hxW; have T8 := T2.le LB)
              | (have hzz := SXC; refine step_append_sl rfl (.tmp 49) (.tmp 54) 29 rfl W.heap.size 3 i0 _ 8 Try.underlying29 hi hz0 hz1 hz2 rfl v1 k (out.take k) rfl O1 (some ⟨W.heap.size, 0, none⟩) 1 1 [x] rfl SXC m3 m4 LA.size ?_; intro v2 w8 O2 hg2 _; have LB : Le W w8 := LA.grown hg2 (fun k hk => (O1.lt k hk).1); have x8 : w8.cell? ⟨b, off + i, none⟩ = some (.int .i64 x) := (LB.cell hbW).trans hxW; have T8 := T2.le LB)
              | (have hzz := O1; have q4 : (w7.alloc (.cells #[.int .i64 x] 3)).ownsRow W.heap.size 3 1 v1 k ((out.take k).flatMap Enc.cells) := O1.alloc _; have q5 := sl_one (w := w7) (cs := #[.int .i64 x]) (T := 3) x rfl hokx (b := w7.heap.size) rfl; have q6 : W.heap.size ≤ (w7.alloc (.cells #[.int .i64 x] 3)).heap.size := Nat.le_trans LA.size (Le.new w7 _).size; refine step_append_sl rfl (.tmp 49) (.tmp 54) 29 rfl W.heap.size 3 i0 _ 8 Try.underlying29 hi hz0 hz1 hz2 rfl v1 k (out.take k) rfl q4 (some ⟨w7.heap.size, 0, none⟩) 1 1 [x] rfl q5 m3 m4 q6 ?_; intro v2 w8 O2 hg2 _; have LB : Le W w8 := (LA.alloc (.cells #[.int .i64 x] 3)).grown hg2 (fun k hk => (O1.lt k hk).1); have x8 : w8.cell? ⟨b, off + i, none⟩ = some (.int .i64 x) := (LB.cell hbW).trans hxW; have T8 := T2.le LB)
              | (have q1 : (W.alloc (.cells #[] 3)).drew.ownsRow W.heap.size 3 1 (.slice (some ⟨W.heap.size, 0, none⟩) 0 0) 0 [] := (own_empty (w := W.drew) (Nat.le_refl _) rfl); have q2 : Sl (W.alloc (.cells #[] 3)).drew (some ⟨gO, 0, none⟩) k c' (out.take k) := (T1.alloc (.cells #[] 3)); have q3 : W.heap.size ≤ (W.alloc (.cells #[] 3)).drew.heap.size := (Le.new W.drew (.cells #[] 3)).size; refine step_append_sl rfl (.tmp 45) (.tmp 48) 29 rfl W.heap.size 3 i0 _ 8 Try.underlying29 hi hz0 hz1 hz2 rfl (.slice (some ⟨W.heap.size, 0, none⟩) 0 0) 0 ([] : List Int) rfl q1 (some ⟨gO, 0, none⟩) k c' (out.take k) rfl q2 m1 m2 q3 ?_; intro v1 w7 O1 hg1 _; simp only [Nat.zero_add, List.nil_append] at O1; have LA0 : Le W (W.alloc (.cells #[] 3)).drew := (LD.alloc (.cells #[] 3)); have LA : Le W w7 := LA0.grown hg1 HROW.out; have x7 : w7.cell? ⟨b, off + i, none⟩ = some (.int .i64 x) := (LA.cell hbW).trans hxW; have hb7 : b < w7.heap.size := Nat.lt_of_lt_of_le hbW LA.size; have x7b : (w7.alloc (.cells #[.int .i64 x] 3)).cell? ⟨b, off + i, none⟩ = some (.int .i64 x) := ((Le.new w7 (.cells #[.int .i64 x] 3)).cell hb7).trans x7)
              | (have q1 : ((W.alloc (.cells #[] 3)).alloc (.cells #[.int .i64 x] 3)).drew.ownsRow W.heap.size 3 1 (.slice (some ⟨W.heap.size, 0, none⟩) 0 0) 0 [] := (own_empty (w := W.drew) (Nat.le_refl _) rfl).alloc (.cells #[.int .i64 x] 3); have q2 : Sl ((W.alloc (.cells #[] 3)).alloc (.cells #[.int .i64 x] 3)).drew (some ⟨gO, 0, none⟩) k c' (out.take k) := (T1.alloc (.cells #[] 3)).alloc (.cells #[.int .i64 x] 3); have q3 : W.heap.size ≤ ((W.alloc (.cells #[] 3)).alloc (.cells #[.int .i64 x] 3)).drew.heap.size := Nat.le_trans (Le.new W.drew (.cells #[] 3)).size (Le.new (W.drew.alloc (.cells #[] 3)) (.cells #[.int .i64 x] 3)).size; refine step_append_sl rfl (.tmp 45) (.tmp 48) 29 rfl W.heap.size 3 i0 _ 8 Try.underlying29 hi hz0 hz1 hz2 rfl (.slice (some ⟨W.heap.size, 0, none⟩) 0 0) 0 ([] : List Int) rfl q1 (some ⟨gO, 0, none⟩) k c' (out.take k) rfl q2 m1 m2 q3 ?_; intro v1 w7 O1 hg1 _; simp only [Nat.zero_add, List.nil_append] at O1; have LA0 : Le W ((W.alloc (.cells #[] 3)).alloc (.cells #[.int .i64 x] 3)).drew := (LD.alloc (.cells #[] 3)).alloc (.cells #[.int .i64 x] 3); have LA : Le W w7 := LA0.grown hg1 HROW.out; have x7 : w7.cell? ⟨b, off + i, none⟩ = some (.int .i64 x) := (LA.cell hbW).trans hxW; have hb7 : b < w7.heap.size := Nat.lt_of_lt_of_le hbW LA.size; have SX0 : Sl ((W.alloc (.cells #[] 3)).alloc (.cells #[.int .i64 x] 3)).drew (some ⟨W.heap.size + 1, 0, none⟩) 1 1 [x] := sl_one (w := W.drew.alloc (.cells #[] 3)) (cs := #[.int .i64 x]) (T := 3) x rfl hokx (b := W.heap.size + 1) HS1.out; have SXB : Sl w7 (some ⟨W.heap.size + 1, 0, none⟩) 1 1 [x] := SX0.grown hg1 (fun _ a e h => HNE1.out a e h))
              | (have q1 : ((W.alloc (.cells #[.int .i64 x] 3)).alloc (.cells #[] 3)).drew.ownsRow W.heap.size 3 1 (.slice (some ⟨W.heap.size + 1, 0, none⟩) 0 0) 0 [] := own_empty (w := W.drew.alloc (.cells #[.int .i64 x] 3)) (Le.new W.drew (.cells #[.int .i64 x] 3)).size HS2.out; have q2 : Sl ((W.alloc (.cells #[.int .i64 x] 3)).alloc (.cells #[] 3)).drew (some ⟨gO, 0, none⟩) k c' (out.take k) := (T1.alloc (.cells #[.int .i64 x] 3)).alloc (.cells #[] 3); have q3 : W.heap.size ≤ ((W.alloc (.cells #[.int .i64 x] 3)).alloc (.cells #[] 3)).drew.heap.size := Nat.le_trans (Le.new W.drew (.cells #[.int .i64 x] 3)).size (Le.new (W.drew.alloc (.cells #[.int .i64 x] 3)) (.cells #[] 3)).size; refine step_append_sl rfl (.tmp 45) (.tmp 48) 29 rfl W.heap.size 3 i0 _ 8 Try.underlying29 hi hz0 hz1 hz2 rfl (.slice (some ⟨W.heap.size + 1, 0, none⟩) 0 0) 0 ([] : List Int) rfl q1 (some ⟨gO, 0, none⟩) k c' (out.take k) rfl q2 m1 m2 q3 ?_; intro v1 w7 O1 hg1 _; simp only [Nat.zero_add, List.nil_append] at O1; have LA0 : Le W ((W.alloc (.cells #[.int .i64 x] 3)).alloc (.cells #[] 3)).drew := (LD.alloc (.cells #[.int .i64 x] 3)).alloc (.cells #[] 3); have LA : Le W w7 := LA0.grown hg1 HROW2.out; have x7 : w7.cell? ⟨b, off + i, none⟩ = some (.int .i64 x) := (LA.cell hbW).trans hxW; have hb7 : b < w7.heap.size := Nat.lt_of_lt_of_le hbW LA.size; have SX0 : Sl ((W.alloc (.cells #[.int .i64 x] 3)).alloc (.cells #[] 3)).drew (some ⟨W.heap.size, 0, none⟩) 1 1 [x] := (sl_one (w := W.drew) (cs := #[.int .i64 x]) (T := 3) x rfl hokx (b := W.heap.size) rfl).alloc (.cells #[] 3); have SXC : Sl w7 (some ⟨W.heap.size, 0, none⟩) 1 1 [x] := SX0.grown hg1 (fun _ a e h => HNE2.out a e h)))
            all_goals
              have hln : ((out.take k ++ [x]) ++ out.drop k).length = k + 1 + l2 := by have := HL2.out; simp [List.length_take, List.length_drop]; omega
              have O4 : w9.ownsRow w.heap.size 3 1 v3 ((out.take k ++ [x]) ++ out.drop k).length (((out.take k ++ [x]) ++ out.drop k).flatMap Enc.cells) := by rw [hln]; exact own_mono O3' LW.size
              have hv3 : v3.ownBlock ≠ none := by
                rcases O4.2 with ⟨_, h⟩ | ⟨g, c3, _, h, _⟩
                · rw [hln] at h; omega
                · rw [h]; simp [Value.ownBlock]
              have hll : ((out.take k ++ [x]) ++ out.drop k).length ≤ i + 1 := by rw [hln]; have := HL2.out; omega
              have HF := Lib.hid hll; have HO4 := Lib.hid O4; have HV3 := Lib.hid hv3; have HLC := Lib.hid (LW.trans LC)
              clear hln O4 hv3 hll O3' O1 O2 hg1 hg2 hg3 LB LC LA
              clear T1 T2 T8 x7 x8 x9 OW SW hx0 hxW
              go_wp2
              go_roundw
              case rel => exact ⟨i + 1, _, by omega, by go_num, HO4.out, HLC.out, HAS.out, HM2.out, HF.out, HV3.out⟩
              case measure => simp [intOf]; omega
    · have hk' : i = L.length := by omega
      have HO : Hid (∀ v, wr.ownsRow w.heap.size 3 1 v out.length (out.flatMap Enc.cells) → SortOut L w (.returned v) wr) := fun v hv => by
        refine ⟨v, out, rfl, ⟨hv, HOK.out⟩, hle, HA.out, fun x => ?_, by omega⟩
        rw [HM.out, hk', List.take_length]
      clear hk'
      go_wp2
      go_ret
      exact HO.out _ O
end

section
def idx : List Int → Int → Int → Int
  | [], _, _ => -1
  | y :: r, x, k => if y = x then k else idx r x (k + 1)
theorem idx_at {L : List Int} {k : Nat} (h : k < L.length) (x j : Int) : idx (L.drop k) x j = if L[k] = x then j else idx (L.drop (k + 1)) x (j + 1) := by
  rw [List.drop_eq_getElem_cons h]; rfl
theorem idx_end {L : List Int} {k : Nat} (h : ¬ k < L.length) (x j : Int) : idx (L.drop k) x j = -1 := by
  rw [List.drop_eq_nil_of_le (by omega)]; rfl
set_option maxRecDepth 100000 in
theorem iIndex_any (A : Option Addr) (n c : Nat) (L : List Int) (x : Int) (w : World) (hL : Sl w A n c L) (hn : n ≤ 1048576) :
    Calls Try.prog 80 #[.slice A n c, .int .i64 x] w fun e w' => e = .returned (.int .i64 (idx L x 0)) ∧ w = w' := by
  obtain rfl := hL.len
  go_enter Try.func80, Try.ntmps80
  go_wp2
  go_loop [5, 8] (fun _ q => ∃ k : Nat, k ≤ L.length ∧ q = .int .i64 k ∧ idx L x 0 = idx (L.drop k) x k) (fun _ q => L.length - (intOf q).toNat)
  case atStart => exact ⟨0, Nat.zero_le _, rfl, rfl⟩
  case round =>
    obtain ⟨k, hk, rfl, hr⟩ := hrel
    by_cases hlt : k < L.length
    · obtain ⟨b, off, rfl, hb, hx, _, _⟩ := hL.int_at hlt
      rw [idx_at hlt] at hr
      have hki : (k : Int) < (L.length : Int) := by omega
      by_cases he : L[k] = x
      · have hb1 : (x == L[k]) = true := by simpa using he.symm
        rw [if_pos he] at hr
        have HR := Lib.hid hr; clear hr he
        generalize L[k] = y at *
        go_wp2
        go_ret
        exact ⟨ret_int HR.out.symm, rfl⟩
      · have hb1 : (x == L[k]) = false := by simpa using (fun e => he e.symm)
        rw [if_neg he] at hr
        have HR := Lib.hid hr; clear hr he
        generalize L[k] = y at *
        go_wp2
        go_round
        case rel => exact ⟨k + 1, by omega, by go_num, by rw [HR.out]; rfl⟩
        case measure => simp [intOf]; omega
    · rw [idx_end hlt] at hr
      have HR := Lib.hid hr; clear hr
      go_wp2
      go_ret
      exact ⟨ret_int HR.out.symm, rfl⟩
theorem idx_mem : ∀ (L : List Int) (x k : Int), 0 ≤ k → (idx L x k ≥ 0 ↔ x ∈ L)
  | [], x, k, h => by unfold idx; simp
  | y :: r, x, k, h => by
    unfold idx
    by_cases e : y = x
    · rw [if_pos e]; exact ⟨fun _ => by rw [e]; exact List.mem_cons_self .., fun _ => h⟩
    · rw [if_neg e, idx_mem r x (k + 1) (by omega), List.mem_cons]
      exact ⟨.inr, fun h => h.resolve_left fun h => e h.symm⟩
set_option maxRecDepth 100000 in
theorem sIndexOf_any (A : Option Addr) (n c : Nat) (L : List Int) (x : Int) (w : World) (hL : Sl w A n c L) (hn : n ≤ 1048576) :
    Calls Try.prog 100 #[.slice A n c, .int .i64 x] w fun e w' => e = .returned (.int .i64 (idx L x 0)) ∧ w = w' := by
  obtain rfl := hL.len
  go_enter Try.func100, Try.ntmps100
  go_wp2
  go_loop [5] (fun q => ∃ k : Nat, k ≤ L.length ∧ q = .int .i64 k ∧ idx L x 0 = idx (L.drop k) x k) (fun q => L.length - (intOf q).toNat)
  case atStart => exact ⟨0, Nat.zero_le _, rfl, rfl⟩
  case round =>
    obtain ⟨k, hk, rfl, hr⟩ := hrel
    by_cases hlt : k < L.length
    · obtain ⟨b, off, rfl, hb, hx, _, _⟩ := hL.int_at hlt
      rw [idx_at hlt] at hr
      by_cases he : L[k] = x
      · have hb1 : (L[k] == x) = true := by simpa using he
        rw [if_pos he] at hr
        have HR := Lib.hid hr; clear hr he
        generalize L[k] = y at *
        go_wp2
        go_ret
        exact ⟨ret_int HR.out.symm, rfl⟩
      · have hb1 : (L[k] == x) = false := by simpa using he
        rw [if_neg he] at hr
        have HR := Lib.hid hr; clear hr he
        generalize L[k] = y at *
        go_wp2
        go_round
        case rel => exact ⟨k + 1, by omega, by go_num, by rw [HR.out]; rfl⟩
        case measure => simp [intOf]; omega
    · rw [idx_end hlt] at hr
      have HR := Lib.hid hr; clear hr
      go_wp2
      go_ret
      exact ⟨ret_int HR.out.symm, rfl⟩
end

section
theorem idx_rng : ∀ (L : List Int) (x k : Int), 0 ≤ k → -1 ≤ idx L x k ∧ idx L x k < k + L.length + 1
  | [], x, k, h => by simp [idx]; omega
  | y :: r, x, k, h => by
    have := idx_rng r x (k + 1) (by omega)
    unfold idx
    split
    · simp; omega
    · simp; omega
def isoF (hs : List Flt) (L : List Int) (x : Int) : Flt :=
  match hs[x.toNat]? with
  | some y => ⟨y.cls, y.code, idx L y.cause 0, idx L y.ctx 0, y.hide⟩
  | none => ⟨0, 0, -1, -1, false⟩
theorem isoF_at {hs : List Flt} {L : List Int} {i : Nat} (h : i < hs.length) : isoF hs L (i : Int) = ⟨hs[i].cls, hs[i].code, idx L hs[i].cause 0, idx L hs[i].ctx 0, hs[i].hide⟩ := by
  unfold isoF; rw [Int.toNat_natCast, List.getElem?_eq_getElem h]
def isoL (hs : List Flt) (L : List Int) : List Flt := L.map (isoF hs L)
theorem isoF_ok {hs : List Flt} {L : List Int} (hok : ∀ x ∈ hs, Enc.ok x) (hl : L.length ≤ 1048576) (x : Int) : Enc.ok (isoF hs L x) := by
  unfold isoF
  split
  · next y hy =>
    have h := hok y (List.mem_of_getElem? hy)
    have a := idx_rng L y.cause 0 (by omega)
    have b := idx_rng L y.ctx 0 (by omega)
    exact ⟨h.1, h.2.1, h.2.2.1, h.2.2.2.1, by show (-9223372036854775808 : Int) ≤ idx L y.cause 0; omega, by show idx L y.cause 0 ≤ (9223372036854775807 : Int); omega, by show (-9223372036854775808 : Int) ≤ idx L y.ctx 0; omega, by show idx L y.ctx 0 ≤ (9223372036854775807 : Int); omega⟩
  · exact ⟨by decide, by decide, by decide, by decide, by decide, by decide, by decide, by decide⟩
theorem isoL_take {hs : List Flt} {L : List Int} {k : Nat} (hk : k < L.length) : (L.take k).map (isoF hs L) ++ [isoF hs L L[k]] = (L.take (k + 1)).map (isoF hs L) := by
  rw [List.take_succ_eq_append_getElem hk, List.map_append]; rfl
end
end Go.Proofs.Ytlepgfccnfcagaa
