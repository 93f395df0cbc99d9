import Derived.Test.YtjcellhpmooifaaM
import Derived.Test.YtjcellhpmooifaaD
namespace Go.Proofs.Ytjcellhpmooifaa
open Go.RowKit

def NodesOut (xs : List Cls) (w : World) (e : Ending) (w' : World) : Prop :=
  Le w w' ∧ ((okTree xs = false ∧ e = .returned (.slice none 0 0)) ∨ (okTree xs = true ∧ ∃ g gs, e = .returned (.slice (some ⟨g, 0, none⟩) xs.length xs.length) ∧ Sl w' (some ⟨g, 0, none⟩) xs.length xs.length gs ∧ Nds w' gs xs))
theorem pnInfo : (Try.prog.info? 120).map (fun i => (i.zero, i.size, i.bytes)) = some (some (.pointer none), 1, 8) := by kernel_rfl

theorem nds_step {wr W' : World} {gs : List PB} {xs : List Cls} {k R B : Nat} (hk : k < xs.length) (hgl : gs.length = k) (hN : Nds wr gs (xs.take k)) (hgs : ∀ j (h : j < gs.length), R < gs[j].g) (hpar : xs[k].parent ≤ (k : Int) - 1)
    (hpars : ∀ i (h : i < xs.length), xs[i].parent ≤ (i : Int) - 1) (hB : wr.heap.size ≤ B) (hB' : B < W'.heap.size)
    (hold : ∀ i, i < wr.heap.size → i ≠ R → W'.heap[i]? = wr.heap[i]?) (hnew : W'.heap[B]? = some (.cells #[.int .i64 k, .pointer (ptrOf gs xs[k].parent)] 132 (0, 0))) :
    Nds W' (gs ++ [⟨B⟩]) (xs.take (k + 1)) := by
  have hp : ∀ p : Int, p < k → ptrOf (gs ++ [⟨B⟩]) p = ptrOf gs p := by
    intro p hp
    unfold ptrOf
    split
    · rfl
    · rw [List.getElem?_append_left (by omega)]
  have hl : (gs ++ [(⟨B⟩ : PB)]).length = k + 1 := by simp [hgl]
  have hget : ∀ i (hi : i < (gs ++ [(⟨B⟩ : PB)]).length), (∃ h : i < gs.length, (gs ++ [(⟨B⟩ : PB)])[i] = gs[i]) ∨ (i = k ∧ (gs ++ [(⟨B⟩ : PB)])[i] = ⟨B⟩) := by
    intro i hi
    rcases Nat.lt_or_ge i gs.length with h | h
    · exact .inl ⟨h, List.getElem_append_left h⟩
    · exact .inr ⟨by omega, by rw [List.getElem_append_right h]; simp⟩
  refine ⟨by rw [hl, List.length_take]; omega, ?_, ?_, ?_⟩
  · intro i j hi hj hij
    rcases hget i hi with ⟨h1, e1⟩ | ⟨h1, e1⟩ <;> rcases hget j hj with ⟨h2, e2⟩ | ⟨h2, e2⟩ <;> rw [e1, e2]
    · exact hN.asc i j h1 h2 hij
    · have := hN.lt i h1; show _ < B; omega
    · omega
    · omega
  · intro i hi
    rcases hget i hi with ⟨h1, e1⟩ | ⟨h1, e1⟩ <;> rw [e1]
    · have := hN.lt i h1; omega
    · exact hB'
  · intro i hi hx
    have hx' : i < xs.length := by rw [List.length_take] at hx; omega
    have e : (xs.take (k + 1))[i] = xs[i] := List.getElem_take
    rw [e, hp _ (by have := hpars i hx'; omega)]
    rcases hget i hi with ⟨h1, e1⟩ | ⟨h1, e1⟩ <;> rw [e1]
    · have hx2 : i < (xs.take k).length := by rw [List.length_take]; omega
      have := hN.row i h1 hx2
      have e3 : (xs.take k)[i] = xs[i] := List.getElem_take
      rw [e3] at this
      rw [hold _ (hN.lt i h1) (by have := hgs i h1; omega)]; exact this
    · subst h1; exact hnew

set_option maxHeartbeats 4000000 in
set_option maxRecDepth 100000 in
theorem nodesOf_any (A : Option Addr) (n cap : Nat) (xs : List Cls) (w : World) (hR : Sl w A n cap xs) :
    Calls Try.prog 123 #[.agg #[.slice A n cap]] w (NodesOut xs w) := by
  have hl := Le.new w (.cells #[.slice A n cap] 31)
  have c0 : (w.alloc (.cells #[.slice A n cap] 31)).cell? ⟨w.heap.size, 0, none⟩ = some (.slice A n cap) := by rw [World.cell?_alloc_at _ _ _ _ rfl]; rfl
  have hz : w.heap.size < (w.alloc (.cells #[.slice A n cap] 31)).heap.size := by simp
  have hS := hR.le hl
  obtain ⟨i0, hi, hz0, hz1, hz2⟩ := info_parts pnInfo
  cases hok : okTree xs
  · go_enter Try.func123, Try.ntmps123
    go_wp2_with fail
    generalize w.alloc (.cells #[.slice A n cap] 31) = W at *
    refine (iValidTree_any A n cap xs _ hS).mono ?_
    rintro e w2 ⟨rfl, hle⟩
    rw [hok]
    have HK := Lib.hid hok; clear hok
    go_wp2
    go_ret
    exact ⟨hl.trans hle, .inl ⟨HK.out, rfl⟩⟩
  · have g := good_of hok
    have hlo := g.lo
    have hhi := g.hi
    obtain rfl := hR.len
    have hb2 : i0.bytes * xs.length ≤ 281474976710656 := by rw [hz2]; omega
    go_enter Try.func123, Try.ntmps123
    go_wp2_with fail
    generalize w.alloc (.cells #[.slice A xs.length cap] 31) = W at *
    refine (iValidTree_any A xs.length cap xs _ hS).mono ?_
    rintro e w2 ⟨rfl, hle⟩
    rw [hok]
    have HK := Lib.hid hok; clear hok
    have c2 := (hle.cell hz).trans c0
    have hl2 := hl.trans hle
    have hz2' := Nat.lt_of_lt_of_le hz hle.size
    clear c0 hz hle hl hS
    go_wp2_with (refine wpList_make_full _ rfl _ _ 118 rfl w2.heap.size 120 i0 _ 1 Try.underlying118 hi hz0 hz1 .i64 .i64 _ _ xs.length rfl rfl rfl rfl hb2 (by unfold maxLen; omega) (Nat.le_refl _) ?_; intro w3 hown3 hg3; have c3 := hg3.cell c2 (by simp))
    have hle3 : Le w2 w3 := (Le.refl w2).grown hg3 (by intro k hk; cases hk)
    have hz3 : w2.heap.size < w3.heap.size := own_lt hown3
    clear c3
    go_loopw [16] (fun i wr => ∃ k : Nat, ∃ gs : List PB, ∃ r : List Value, k ≤ xs.length ∧ i = .int .i64 k ∧ r.length = xs.length - k ∧ wr.ownsRow w2.heap.size 120 1 (.slice (some ⟨w2.heap.size, 0, none⟩) xs.length xs.length) xs.length (gs.flatMap Enc.cells ++ r) ∧
        Nds wr gs (xs.take k) ∧ (∀ j (h : j < gs.length), w2.heap.size < gs[j].g) ∧ Le w2 wr) (fun i _ => xs.length - (intOf i).toNat)
    case atStart => exact ⟨0, [], _, Nat.zero_le _, rfl, by simp [madeCells], hown3, ⟨by simp, by simp, by simp, by simp⟩, by simp, hle3⟩
    case round =>
      obtain ⟨k, gs, r, hk, rfl, hr, hown, hN, hgs, hle⟩ := hrel
      clear hown3 hg3 hle3
      have hwr := hl2.trans hle
      have hRr := hR.le hwr
      have hcT := (hle.cell hz2').trans c2
      have hzr : w2.heap.size < wr.heap.size := own_lt hown
      have hgl : gs.length = k := by have := hN.len; rw [List.length_take] at this; omega
      have HG := Lib.hid hgl
      by_cases hlt : k < xs.length
      · obtain ⟨b, off, rfl, hb, hcell, hcell2, hns, hp1, hp2⟩ := hRr.cls_at hlt
        match r, hr with
        | [], h => simp at h; omega
        | r0 :: r1, hr =>
        have hfl : (gs.flatMap (Enc.cells (α := PB))).length = k := by rw [flat_len, hgl]; show k * 1 = k; omega
        have hc0 : wr.cell? ⟨w2.heap.size, k, none⟩ = some r0 := by rw [hown.cellAt _ (by omega), List.getElem?_append_right (by omega), hfl]; simp
        have hf0 := hown.frozenAt k
        have hpar := g.par_le hlt
        have HFL := Lib.hid hfl
        clear hgl hfl
        have hpars : ∀ i (h : i < xs.length), xs[i].parent ≤ (i : Int) - 1 := fun i h => (g.par_le h).2
        have HP := Lib.hid hpars; clear hpars
        have hflat : Hid ((gs ++ [(⟨wr.heap.size + 1⟩ : PB)]).flatMap Enc.cells ++ r1 = (gs.flatMap Enc.cells ++ r0 :: r1).set k (.pointer (some ⟨wr.heap.size + 1, 0, none⟩))) := by
          show _ = _
          rw [List.set_append_right _ _ (by have := HFL.out; omega), HFL.out]
          simp [Enc.cells]
        have hgsN : Hid (∀ j (h : j < (gs ++ [(⟨wr.heap.size + 1⟩ : PB)]).length), w2.heap.size < (gs ++ [(⟨wr.heap.size + 1⟩ : PB)])[j].g) := by
          intro j hj
          rcases Nat.lt_or_ge j gs.length with h | h
          · rw [List.getElem_append_left h]; exact hgs j h
          · rw [List.getElem_append_right h]; simp; omega
        by_cases hneg : xs[k].parent < 0
        · go_wp2
          go_roundw
          case rel =>
            refine ⟨k + 1, gs ++ [⟨wr.heap.size + 1⟩], r1, by omega, by go_num, by simp at hr; omega, ?_, ?_, hgsN.out, ?_⟩
            · rw [hflat.out]; exact ((hown.stored k _).1.alloc _).alloc _
            · refine nds_step (R := w2.heap.size) hlt HG.out hN hgs hpar.2 HP.out (by omega) (by simp) ?_ ?_
              · intro i hi hne
                rw [Below.heap_alloc _ _ _ (by simp; omega), Below.heap_alloc _ _ _ (by simpa using hi), Below.heap_setCell _ _ _ _ hne]
              · rw [ptrOf_neg hneg]
                have := heap_alloc_new ((wr.setCell ⟨w2.heap.size, k, none⟩ (.pointer (some ⟨wr.heap.size + 1, 0, none⟩))).alloc (.cells #[.string xs[k].name, .int .i64 xs[k].parent] 102)) (.cells #[.int .i64 k, .pointer none] 132)
                simpa using this
            · exact ((hle.setCell (Nat.le_refl _) _).alloc _).alloc _
          case measure => simp [intOf]; omega
        · go_wp2_with fail
          obtain ⟨p, hpe⟩ := Int.eq_ofNat_of_zero_le (by omega : 0 ≤ xs[k].parent)
          have hpk : p < gs.length := by have := HG.out; omega
          have hptr : ptrOf gs xs[k].parent = some ⟨gs[p].g, 0, none⟩ := by rw [hpe]; exact ptrOf_at hpk
          have hrp : wr.cell? ⟨w2.heap.size, p, none⟩ = some (.pointer (some ⟨gs[p].g, 0, none⟩)) := by
            rw [hown.cellAt _ (by omega), List.getElem?_append_left (by have := HFL.out; have := HG.out; omega)]
            have := flat_at gs p hpk 0 (by decide)
            simpa [Enc.size, Enc.cells] using this
          generalize hWd : ((wr.setCell _ _).alloc _).alloc _ = W
          have f1 : W.cell? ⟨w2.heap.size, k, none⟩ = some (.pointer (some ⟨wr.heap.size + 1, 0, none⟩)) := by
            rw [← hWd, World.cell?_alloc_past _ _ _ (by simp; omega), World.cell?_alloc_past _ _ _ (by simpa using hzr)]; exact cell_set_same hc0
          have f2 : W.cell? ⟨wr.heap.size, 1, none⟩ = some (.int .i64 xs[k].parent) := by
            rw [← hWd, World.cell?_alloc_past _ _ _ (by simp), World.cell?_alloc_at _ _ _ _ (by simp)]; rfl
          have f3 : W.cell? ⟨w2.heap.size, p, none⟩ = some (.pointer (some ⟨gs[p].g, 0, none⟩)) := by
            rw [← hWd, World.cell?_alloc_past _ _ _ (by simp; omega), World.cell?_alloc_past _ _ _ (by simpa using hzr), cell_set_other (.inr (by have := HG.out; omega))]; exact hrp
          have f4 : W.cell? ⟨wr.heap.size + 1, 1, none⟩ = some (.pointer none) := by
            rw [← hWd, World.cell?_alloc_at _ _ _ _ (by simp)]; rfl
          have f5 : W.frozen? ⟨wr.heap.size + 1, 1, none⟩ = false := by
            rw [← hWd, World.frozen?_alloc_at _ _ _ _ (by simp)]
          have hWz : W.heap.size = wr.heap.size + 2 := by rw [← hWd]; simp
          have HWZ := Lib.hid hWz; clear hWz
          have hWold : ∀ i, i < wr.heap.size → i ≠ w2.heap.size → W.heap[i]? = wr.heap[i]? := by
            intro i hi hne
            rw [← hWd, Below.heap_alloc _ _ _ (by simp; omega), Below.heap_alloc _ _ _ (by simpa using hi), Below.heap_setCell _ _ _ _ hne]
          have HWO := Lib.hid hWold; clear hWold
          have hWn : W.heap[wr.heap.size + 1]? = some (.cells #[.int .i64 k, .pointer none] 132 (0, 0)) := by
            have := heap_alloc_new ((wr.setCell ⟨w2.heap.size, k, none⟩ (.pointer (some ⟨wr.heap.size + 1, 0, none⟩))).alloc (.cells #[.string xs[k].name, .int .i64 xs[k].parent] 102)) (.cells #[.int .i64 k, .pointer none] 132)
            rw [hWd] at this
            simpa using this
          have HWN := Lib.hid hWn; clear hWn
          have hWown : W.ownsRow w2.heap.size 120 1 (.slice (some ⟨w2.heap.size, 0, none⟩) xs.length xs.length) xs.length ((gs ++ [(⟨wr.heap.size + 1⟩ : PB)]).flatMap Enc.cells ++ r1) := by
            rw [hflat.out, ← hWd]; exact ((hown.stored k _).1.alloc _).alloc _
          have hWle : Le w2 W := by rw [← hWd]; exact ((hle.setCell (Nat.le_refl _) _).alloc _).alloc _
          have HPT := Lib.hid hptr; clear hptr
          have HPE := Lib.hid hpe
          have hidx : 0 ≤ xs[k].parent ∧ xs[k].parent < xs.length := by omega
          have htn : xs[k].parent.toNat = p := by omega
          clear hWd hc0 hf0 hrp hcell hcell2
          clear hpe
          have f3' : W.cell? ⟨w2.heap.size, xs[k].parent.toNat, none⟩ = some (.pointer (some ⟨gs[p].g, 0, none⟩)) := by rw [htn]; exact f3
          have HTN := Lib.hid htn; clear htn
          clear f3
          go_region
          all_goals go_wp2
          all_goals
            go_roundw
            case rel =>
              refine ⟨k + 1, gs ++ [⟨wr.heap.size + 1⟩], r1, by omega, by go_num, by simp at hr; omega, ?_, ?_, hgsN.out, ?_⟩
              · exact (own_set hWown (by omega) _).drew
              · refine nds_step (R := w2.heap.size) hlt HG.out hN hgs hpar.2 HP.out (by omega) (by have := HWZ.out; simp [World.setCell, World.drew]; omega) ?_ ?_
                · intro i hi hne
                  show (World.setCell _ _ _).heap[i]? = _
                  rw [Below.heap_setCell _ _ _ _ (by show i ≠ wr.heap.size + 1; omega)]
                  exact HWO.out i hi hne
                · rw [HPT.out]
                  exact heap_setCell_same W (wr.heap.size + 1) 1 _ _ _ HWN.out
              · exact (hWle.setCell (by omega) _).drew
            case measure => simp [intOf]; omega
      · have hk' : k = xs.length := by omega
        have hr0 : r = [] := List.eq_nil_of_length_eq_zero (by omega)
        have HF : Hid (NodesOut xs w (.returned (.slice (some ⟨w2.heap.size, 0, none⟩) xs.length xs.length)) wr) := by
          refine ⟨hwr, .inr ⟨HK.out, w2.heap.size, gs, rfl, ?_, ?_⟩⟩
          · rw [hr0, List.append_nil] at hown
            exact Sl.of_own hown rfl (by decide) (fun _ _ => trivial)
          · rw [hk', List.take_length] at hN; exact hN
        clear hk' hr0 hr HG
        go_wp2
        go_ret
        exact HF.out
end Go.Proofs.Ytjcellhpmooifaa
