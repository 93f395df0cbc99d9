/- one text of ErIs, ErBk, C, D, VH -/
import Derived.Test.YthcolcmgfhkbeaaDoorCt3
import Derived.Test.YthcolcmgfhkbeaaDoorCt1
import Derived.Deep.LoopGhost
namespace Go.Proofs.YthcolcmgfhkbeaaDoor
open Go.RowKit
set_option linter.unusedVariables false
section
open Go.RowKit Go.Extern.Stop Go.Stop Go.Extern

theorem nxCtx_eq (hs : List Flt) : nxCtx hs = ctxOf hs := rfl
theorem fxIs (v : Value) (xT : TypeId) (w : World) : (Instr.typeAssert (.iface 58 v) xT 123 true).run Tryd.prog w = .ok (.tuple #[.iface 58 v, .bool true]) w := run_typeAssert_hasB Tryd.underlying123 (by kernel_rfl) v xT w
theorem fxUn (v : Value) (xT : TypeId) (w : World) : (Instr.typeAssert (.iface 58 v) xT 126 true).run Tryd.prog w = .ok (.tuple #[.iface 58 v, .bool true]) w := run_typeAssert_hasB Tryd.underlying126 (by kernel_rfl) v xT w
theorem fxFail (v : Value) (xT : TypeId) (w : World) : (Instr.typeAssert (.iface 58 v) xT 58 true).run Tryd.prog w = .ok (.tuple #[v, .bool true]) w := by
  simp [Instr.typeAssert, run_underlying Tryd.underlying58, go_sem, Result.andThen]
theorem fxmIs (v : Value) (w : World) : (Go.method 281 58 v "Is").run Tryd.prog w = .ok (129, v) w := by kernel_rfl
theorem fxmUn (v : Value) (w : World) : (Go.method 281 58 v "Unwrap").run Tryd.prog w = .ok (68, v) w := by kernel_rfl
theorem fxTypeOf (v : Value) (w : World) : (Extern.ReflectliteType.typeOf #[.iface 58 v]).run Tryd.prog w = .ok (.iface 121 (.agg #[.pointer (some ⟨4, 58, none⟩)])) w := by kernel_rfl
theorem fxComparable : ∃ fn : Array Value → Sem Value, find Tryd.f135 = some fn ∧ ∀ w : World, (fn #[.agg #[.pointer (some ⟨4, 58, none⟩)]]).run Tryd.prog w = .ok (.bool true) w :=
  have h : (find Tryd.f135).isSome = true := by kernel_rfl
  ⟨_, (Option.some_get h).symm, fun w => by kernel_rfl⟩
theorem fxmComparable (v : Value) (w : World) : (Go.method 281 121 v "Comparable").run Tryd.prog w = .ok (135, v) w := by kernel_rfl
theorem fxComp : (Tryd.prog.info? 58).map (·.comparable) = some true := by kernel_rfl
theorem fxSize : (Tryd.prog.info? 85).map (·.size) = some 5 := by kernel_rfl

set_option maxHeartbeats 2000000 in
set_option maxRecDepth 100000 in
theorem isF_any (g1 g2 : Nat) (i1 i2 : Int) (w : World) (c1 : w.cell? ⟨g1, 2, none⟩ = some (.int .i64 i1)) (c2 : w.cell? ⟨g2, 2, none⟩ = some (.int .i64 i2)) (h1 : g1 < w.heap.size) (h2 : g2 < w.heap.size) :
    Calls Tryd.prog 129 #[.pointer (some ⟨g1, 0, none⟩), .iface 58 (.pointer (some ⟨g2, 0, none⟩))] w fun e w' => e = .returned (.bool (i2 == i1)) ∧ Le w w' := by
  have E1 := cell_ext h1 c1
  have E2 := cell_ext h2 c2
  have aF := fxFail
  cases he : i2 == i1
  all_goals
    go_enter Tryd.func129, Tryd.ntmps129
    go_wp2_with fail
    refine wp_region_ext (by kernel_rfl) (by kernel_rfl) ?_
    repeat (go_big_quiet_step (fail))
    refine wpQuiet_nil ?_
    intro _ hw'
    obtain ⟨gg, rfl⟩ := hw'
    have L0 := Le.ext w gg
    generalize w.ext gg = W at *
    go_wp2
    go_ret
    exact ⟨rfl, L0⟩

theorem go_mem {nx : Int → Int} {x : Int} : ∀ (m : Nat) (f : Int) (out : List Int), x ∈ out → x ∈ Chn.go nx m f out
  | 0, _, out, h => h
  | m + 1, f, out, h => by
    unfold Chn.go
    split
    · exact h
    · exact go_mem m (nx f) (out ++ [f]) (List.mem_append_left _ h)
theorem hasI_no {x : Int} {L : List Int} (h : ∀ a (ha : a < L.length), L[a] ≠ x) : hasI L x = false :=
  hasI_not (fun hm => by obtain ⟨a, ha, e⟩ := List.getElem_of_mem hm; exact h a ha e)
theorem eqlF_other {w : World} {a b : Nat} {ca cb : Array Value} {ta tb : TypeId} (hne : a ≠ b) (ha : w.heap[a]? = some (.cells ca ta (0, 0))) (hb : w.heap[b]? = some (.cells cb tb (0, 0))) :
    (binOp .eql 89 (.iface 58 (.pointer (some ⟨a, 0, none⟩))) (.iface 58 (.pointer (some ⟨b, 0, none⟩)))).run Tryd.prog w = .ok (.bool false) w := by
  obtain ⟨i, hi, hcmp⟩ := Option.map_eq_some_iff.1 fxComp
  obtain ⟨j, hj, hjs⟩ := Option.map_eq_some_iff.1 fxSize
  exact run_eql_iface_ptr_other (P := Tryd.prog) w Tryd.underlying89 Tryd.underlying58 hi hcmp hj (by rw [hjs]; decide) (fun e => hne (by injection e)) ha hb

set_option maxHeartbeats 2000000 in
set_option maxRecDepth 100000 in
theorem isErr_any (tv : Value) (H : Option Addr) (m c : Nat) (hs : List Flt) (g1 g2 : Nat) (cx f : Int) (cs2 : Array Value) (w : World) (hH : Sl w H m c hs) (lk : Lnk hs) (hto : TvOk tv) (h0 : 0 ≤ cx) (h1 : cx < hs.length)
    (hF : FCh w tv (.slice H m c) lkCtx [g1] [cx]) (hT : w.heap[g2]? = some (.cells cs2 85 (0, 0))) (hT2 : w.cell? ⟨g2, 2, none⟩ = some (.int .i64 f)) (hne : g1 ≠ g2) :
    Calls Tryd.prog 86 #[.iface 58 (.pointer (some ⟨g1, 0, none⟩)), .iface 58 (.pointer (some ⟨g2, 0, none⟩)), .bool true] w fun e w' => e = .returned (.bool (hasI (chainN (ctxOf hs) hs.length cx) f)) ∧ Le w w' := by
  have aIs := fxIs
  have aUn := fxUn
  have mIs := fxmIs
  have mUn := fxmUn
  have hg2 : g2 < w.heap.size := (Array.getElem?_eq_some_iff.1 hT).1
  have HLT := Lib.hid lk.ctxlt
  have hcx0 : chainN (ctxOf hs) hs.length cx = Chn.go (ctxOf hs) hs.length (ctxOf hs cx) [cx] := by
    unfold chainN; rw [go_on h0 (by simp)]; rfl
  have HC0 := Lib.hid hcx0; clear hcx0
  have hP0 : Chn.Pre (ctxOf hs) hs.length cx (ctxOf hs cx) [cx] := by
    have := (Chn.Pre.start h1).step (nx := ctxOf hs) h0 (by simp) (lk.ctxlt cx h0 h1)
    simpa using this
  have HP0 := Lib.hid hP0; clear hP0
  obtain ⟨i0, rfl⟩ := Int.eq_ofNat_of_zero_le h0
  go_enter Tryd.func86, Tryd.ntmps86
  go_wp2
  go_loopg [0] (hs.length) (fun mm q wr => ∃ (gs : List Nat) (out : List Int) (j i g : Nat), q = .iface 58 (.pointer (some ⟨g, 0, none⟩)) ∧ gs.length = j + 1 ∧ gs[j]? = some g ∧ out[j]? = some (i : Int) ∧ i < hs.length ∧ FCh wr tv (.slice H m c) lkCtx gs out ∧
      Chn.Pre (ctxOf hs) hs.length (i0 : Int) (ctxOf hs (i : Int)) out ∧ hs.length + 1 ≤ mm + out.length ∧ chainN (ctxOf hs) hs.length (i0 : Int) = Chn.go (ctxOf hs) mm (ctxOf hs (i : Int)) out ∧ (∀ a (h : a < out.length), a < j → out[a] ≠ f) ∧ (∀ a (h : a < gs.length), gs[a] ≠ g2) ∧ Le w wr)
  case atStart => exact ⟨[g1], [(i0 : Int)], 0, i0, g1, rfl, rfl, rfl, rfl, by omega, hF, HP0.out, by simp, HC0.out, fun a h h2 => by omega, fun a h => by simp at h; subst h; exact hne, Le.refl _⟩
  case round =>
    obtain ⟨gs, out, j, i, g, rfl, hgl, hgj, hoj, hil, hF2, hP, hmm, hch, hno, hgne, hle⟩ := hrel
    have hjg : j < gs.length := by omega
    have hjo : j < out.length := by have := hF2.len; omega
    have hge : gs[j] = g := by rw [List.getElem?_eq_getElem hjg] at hgj; injection hgj
    have hoe : out[j] = (i : Int) := by rw [List.getElem?_eq_getElem hjo] at hoj; injection hoj
    have hTr := (Below.block hle _ hg2).trans hT
    have hT2r := (hle.cell hg2).trans hT2
    have hg2r := Nat.lt_of_lt_of_le hg2 hle.size
    have hcell := hF2.row j hjg hjo
    rw [hge] at hcell
    have d2 := hF2.c2 hjg hjo
    rw [hge, hoe] at d2
    have hgr := hF2.lt j hjg
    rw [hge] at hgr
    have hgg : g ≠ g2 := by rw [← hge]; exact hgne j hjg
    have heq := eqlF_other hgg hcell hTr
    have HCH := Lib.hid hch
    have HNO := Lib.hid hno
    have HP := Lib.hid hP
    have HGN := Lib.hid hgne
    have HMM := Lib.hid hmm
    clear hch hno hP hgne hmm
    go_wp2_with fail
    refine (isF_any g g2 (i : Int) f _ d2 hT2r hgr hg2r).mono ?_
    rintro e w2 ⟨rfl, hle2⟩
    have hon : (f == (i : Int)) = true ∨ (f == (i : Int)) = false := by cases (f == (i : Int)) <;> simp
    rcases hon with hb | hb
    · rw [hb]
      go_wp2
      go_ret
      refine ⟨ret_bool ?_, hle.trans hle2⟩
      rw [HCH.out, eq_comm, hasI_iff']
      have : f = (i : Int) := by simpa using hb
      rw [this, ← hoe]
      exact go_mem _ _ _ (List.getElem_mem _)
    · rw [hb]
      have hF3 := hF2.le hle2
      have hH3 := hH.le (hle.trans hle2)
      go_wp2_with fail
      have hU := unwrapCtx_any tv H m c hs gs out j i w2 hH3 hF3 hgl hil hoj hto
      rw [hge] at hU
      refine hU.mono ?_
      rintro e w3 ⟨hle3, (⟨hnx, rfl⟩ | ⟨hnx, g', rfl, hF4, hg'⟩)⟩
      · have hL := HP.out.len
        obtain ⟨mm', rfl⟩ : ∃ mm', gk = mm' + 1 := ⟨gk - 1, by have := HMM.out; omega⟩
        have hgo : Hid (chainN (ctxOf hs) hs.length (i0 : Int) = out) := by
          show _ = _
          rw [nxCtx_eq] at hnx
          rw [HCH.out]
          conv => lhs; unfold Chn.go
          rw [if_pos hnx]
        clear hnx hL
        go_wp2
        go_ret
        refine ⟨ret_bool ?_, (hle.trans hle2).trans hle3⟩
        rw [hgo.out]
        refine (hasI_no fun a ha => ?_).symm
        rcases Nat.lt_or_ge a j with h1 | h1
        · exact HNO.out a ha h1
        · have : a = j := by have := hF2.len; omega
          subst this
          rw [hoe]
          intro h2
          rw [h2] at hb
          simp at hb
      · have hL := HP.out.len
        obtain ⟨mm', rfl⟩ : ∃ mm', gk = mm' + 1 := ⟨gk - 1, by have := HMM.out; omega⟩
        have hnx' : 0 ≤ ctxOf hs (i : Int) ∧ ctxOf hs (i : Int) ∉ out := by
          rw [nxCtx_eq] at hnx
          simp only [not_or, Int.not_lt] at hnx
          exact hnx
        have hgo : Hid (chainN (ctxOf hs) hs.length (i0 : Int) = Chn.go (ctxOf hs) mm' (ctxOf hs (ctxOf hs (i : Int))) (out ++ [ctxOf hs (i : Int)])) := by
          show _ = _
          rw [HCH.out]
          conv => lhs; unfold Chn.go
          rw [if_neg (by rintro (h | h); omega; exact hnx'.2 h)]
        have hlt2 := HLT.out (i : Int) (by omega) (by omega)
        obtain ⟨i', hi'⟩ := Int.eq_ofNat_of_zero_le hnx'.1
        have HPS := Lib.hid (HP.out.step hnx'.1 hnx'.2 (HLT.out _ hnx'.1 hlt2))
        rw [nxCtx_eq] at hF4
        have HF4 := Lib.hid hF4
        clear hnx hF4
        go_wp2
        go_roundg mm'
        case measure => omega
        case rel =>
          refine ⟨gs ++ [g'], out ++ [ctxOf hs (i : Int)], j + 1, i', g', rfl, by simp [hgl], ?_, ?_, by omega, HF4.out, ?_, ?_, ?_, ?_, ?_, (hle.trans hle2).trans hle3⟩
          · rw [← hgl, List.getElem?_append_right (Nat.le_refl _)]; simp
          · have : j + 1 = out.length := by have := hF2.len; omega
            rw [this, List.getElem?_append_right (Nat.le_refl _)]; simpa using hi'
          · rw [← hi']; exact HPS.out
          · have := HMM.out; simp; omega
          · rw [← hi']; exact hgo.out
          · intro a ha haj
            have hal : a < out.length := by have := hF2.len; omega
            rw [List.getElem_append_left hal]
            rcases Nat.lt_or_ge a j with h1 | h1
            · exact HNO.out a hal h1
            · have : a = j := by omega
              subst this
              rw [hoe]
              intro h2
              rw [h2] at hb
              simp at hb
          · intro a ha
            rcases Nat.lt_or_ge a gs.length with h1 | h1
            · rw [List.getElem_append_left h1]; exact HGN.out a h1
            · rw [List.getElem_append_right h1]
              have h4 := Nat.lt_of_lt_of_le hg2r hle2.size
              simp
              omega
end

section
open Go.RowKit Go.Extern.Stop Go.Stop Go.Extern

set_option maxHeartbeats 2000000 in
set_option maxRecDepth 100000 in
theorem errorsIs_any (tv : Value) (H : Option Addr) (m c : Nat) (hs : List Flt) (g1 g2 : Nat) (cx f : Int) (cs2 : Array Value) (w : World) (hH : Sl w H m c hs) (lk : Lnk hs) (hto : TvOk tv) (h0 : 0 ≤ cx) (h1 : cx < hs.length)
    (hF : FCh w tv (.slice H m c) lkCtx [g1] [cx]) (hT : w.heap[g2]? = some (.cells cs2 85 (0, 0))) (hT2 : w.cell? ⟨g2, 2, none⟩ = some (.int .i64 f)) (hne : g1 ≠ g2) :
    Calls Tryd.prog 63 #[.iface 58 (.pointer (some ⟨g1, 0, none⟩)), .iface 58 (.pointer (some ⟨g2, 0, none⟩))] w fun e w' => e = .returned (.bool (hasI (chainN (ctxOf hs) hs.length cx) f)) ∧ Le w w' := by
  have h8 := @run_callFunc_extern Tryd.prog 85 _ Extern.ReflectliteType.typeOf Tryd.func85 (by kernel_rfl) (by kernel_rfl) (by kernel_rfl) (by kernel_rfl)
  obtain ⟨fn, hfn, cT⟩ := fxComparable
  have h32 := @run_callFunc_extern Tryd.prog 135 _ fn Tryd.func135 (by kernel_rfl) (by kernel_rfl) (by kernel_rfl) hfn
  have tT := fxTypeOf
  have mR := fxmComparable
  clear hfn
  go_enter Tryd.func63, Tryd.ntmps63
  go_wp2_with fail
  refine (isErr_any tv H m c hs g1 g2 cx f cs2 _ hH lk hto h0 h1 hF hT hT2 hne).mono ?_
  rintro e w' ⟨rfl, hle⟩
  go_wp2
  go_ret
  exact ⟨rfl, hle⟩

def InCtxOut (tv hv : Value) (f : Int) (w : World) (e : Ending) (w' : World) : Prop :=
  ∃ g, e = .returned (.pointer (some ⟨g, 0, none⟩)) ∧ w'.heap[g]? = some (.cells #[tv, hv, .int .i64 f, lkCtx, .pointer none] 85 (0, 0)) ∧ w.heap.size ≤ g ∧ Le w w'
set_option maxHeartbeats 2000000 in
set_option maxRecDepth 100000 in
theorem inContext_any (A H : Option Addr) (n cap m c : Nat) (f : Int) (w : World) :
    Calls Tryd.prog 64 #[.agg #[.slice A n cap], .agg #[.slice H m c], .int .i64 f] w (InCtxOut (.slice A n cap) (.slice H m c) f w) := by
  go_enter Tryd.func64, Tryd.ntmps64
  go_wp2
  obtain ⟨c0, z0, c1, z1, L0⟩ := box2 w (.slice A n cap) (.slice H m c) 25 28
  have HZ : Hid (((w.alloc (.cells #[.slice A n cap] 25)).alloc (.cells #[.slice H m c] 28)).heap.size = w.heap.size + 1 + 1) := by show _ = _; simp
  generalize (w.alloc (.cells #[.slice A n cap] 25)).alloc (.cells #[.slice H m c] 28) = W at *
  go_wp2
  go_ret
  exact ⟨w.heap.size + 1 + 1, rfl, by rw [← HZ.out]; exact heap_alloc_new W _, by omega, L0.alloc _⟩

set_option maxHeartbeats 2000000 in
set_option maxRecDepth 100000 in
theorem leadsBack_any (A H : Option Addr) (n cap m c : Nat) (hs : List Flt) (i : Nat) (w : World) (hH : Sl w H m c hs) (lk : Lnk hs) (hi : i < hs.length) :
    Calls Tryd.prog 39 #[.agg #[.slice A n cap], .agg #[.slice H m c], .int .i64 i] w fun e w' => e = .returned (.bool (backAt hs i)) ∧ Le w w' := by
  obtain rfl := hH.len
  obtain ⟨b, off, rfl, hb, k0, k1, k2, k3, k4, -⟩ := hH.flt_at hi
  have hlt := lk.ctxlt (i : Int) (by omega) (by omega)
  have hx : ctxOf hs (i : Int) = hs[i].ctx := ctxOf_at hi
  have hbk : backAt hs i = (decide (0 ≤ hs[i].ctx) && hasI (chainN (ctxOf hs) hs.length hs[i].ctx) i) := by unfold backAt; rw [hx]
  rw [hx] at hlt
  clear hx
  generalize hs[i].ctx = cx at *
  have HB := Lib.hid hbk; clear hbk
  have hii : (0 : Int) ≤ (i : Int) ∧ (i : Int) < hs.length := by omega
  by_cases h0 : 0 ≤ cx
  · have hd : decide (0 ≤ cx) = true := decide_eq_true h0
    have HL := Lib.hid hlt
    go_enter Tryd.func39, Tryd.ntmps39
    go_wp2
    obtain ⟨c0, z0, c1, z1, L0⟩ := box2 w (.slice A n cap) (.slice (some ⟨b, off, none⟩) hs.length c) 25 28
    have k3' := (L0.cell hb).trans k3
    clear k0 k1 k2 k3 k4
    generalize (w.alloc (.cells #[.slice A n cap] 25)).alloc (.cells #[.slice (some ⟨b, off, none⟩) hs.length c] 28) = W at *
    go_wp2_with fail
    go_region_held3 (fun w' => w'.cell? ⟨w.heap.size, 0, none⟩ = some (.slice A n cap) ∧ w'.cell? ⟨w.heap.size + 1, 0, none⟩ = some (.slice (some ⟨b, off, none⟩) hs.length c))
      (first | exact ⟨f0, f1⟩ | exact ⟨e0, e1⟩ | exact ⟨d0, d1⟩ | exact ⟨c0, c1⟩)
      (first
        | (go_at_call 64; have hl1z := hl1.size; refine (inContext_any A (some ⟨b, off, none⟩) n cap hs.length c (i : Int) _).mono ?_; rintro e w2 ⟨g2, rfl, hg2, hs2, hl2⟩; have e0 := (hl2.cell (Nat.lt_of_lt_of_le z0 hl1.size)).trans d0; have e1 := (hl2.cell (Nat.lt_of_lt_of_le z1 hl1.size)).trans d1)
        | (go_at_call 64; refine (inContext_any A (some ⟨b, off, none⟩) n cap hs.length c cx _).mono ?_; rintro e w1 ⟨g1, rfl, hg1, hs1, hl1⟩; have d0 := (hl1.cell z0).trans c0; have d1 := (hl1.cell z1).trans c1)
        | (go_at_call 63
           have hg1l : g1 < w1.heap.size := (Array.getElem?_eq_some_iff.1 hg1).1
           refine (errorsIs_any (.slice A n cap) (some ⟨b, off, none⟩) hs.length c hs g1 g2 cx (i : Int) _ w2 (hH.le ((L0.drew.trans hl1).trans hl2)) lk ⟨_, _, _, rfl⟩ h0 HL.out (FCh.one ((Below.block hl2 _ hg1l).trans hg1)) hg2 ((cell_of_row w2 _ 2 _ _ _ hg2).trans rfl) (by omega)).mono ?_
           rintro e w3 ⟨rfl, hl3⟩
           have f0 := (hl3.cell (Nat.lt_of_lt_of_le z0 (hl1.trans hl2).size)).trans e0; have f1 := (hl3.cell (Nat.lt_of_lt_of_le z1 (hl1.trans hl2).size)).trans e1))
    all_goals go_wp2
    all_goals go_ret
    all_goals exact ⟨ret_bool (by rw [HB.out, decide_eq_true h0, Bool.true_and]), ((L0.drew.trans hl1).trans hl2).trans hl3⟩
  · have hd : decide (0 ≤ cx) = false := decide_eq_false h0
    go_enter Tryd.func39, Tryd.ntmps39
    go_wp2
    obtain ⟨c0, z0, c1, z1, L0⟩ := box2 w (.slice A n cap) (.slice (some ⟨b, off, none⟩) hs.length c) 25 28
    have k3' := (L0.cell hb).trans k3
    clear k0 k1 k2 k3 k4
    generalize (w.alloc (.cells #[.slice A n cap] 25)).alloc (.cells #[.slice (some ⟨b, off, none⟩) hs.length c] 28) = W at *
    have E0 := cell_ext z0 c0
    have E1 := cell_ext z1 c1
    go_wp2_with fail
    refine wp_region_ext (by kernel_rfl) (by kernel_rfl) ?_
    repeat (go_big_quiet_step (fail))
    refine wpQuiet_nil ?_
    intro _ hw'
    obtain ⟨gg, rfl⟩ := hw'
    have L1 := Le.ext W gg
    generalize W.ext gg = W2 at *
    go_wp2
    go_ret
    exact ⟨ret_bool (by rw [HB.out, hd]; rfl), L0.trans L1⟩
end

section
theorem findN_range (xs : List Cls) (s : ByteArray) : ∀ j : Int, 0 ≤ j → findN xs s j = -1 ∨ (j ≤ findN xs s j ∧ findN xs s j < j + xs.length) := by
  induction xs with
  | nil => intro j _; exact .inl rfl
  | cons c r ih =>
    intro j hj
    unfold findN
    split
    · right; simp; omega
    · rcases ih (j + 1) (by omega) with h | ⟨h1, h2⟩
      · exact .inl h
      · right; simp; omega
theorem findN_append (xs ys : List Cls) (s : ByteArray) : ∀ j : Int, 0 ≤ j → findN (xs ++ ys) s j = if 0 ≤ findN xs s j then findN xs s j else findN ys s (j + xs.length) := by
  induction xs with
  | nil => intro j _; simp [findN]
  | cons c r ih =>
    intro j hj
    rw [List.cons_append, findN_cons, findN_cons]
    by_cases h : c.name = s
    · rw [if_pos h, if_pos h, if_pos hj]
    · rw [if_neg h, if_neg h, ih (j + 1) (by omega)]
      have e : j + 1 + (r.length : Int) = j + ((c :: r).length : Int) := by simp; omega
      rw [e]
theorem findN_self {xs : List Cls} {k : Nat} (h : k < xs.length) : (findN xs xs[k].name 0 == (k : Int)) = !decide (0 ≤ findN (xs.take k) xs[k].name 0) := by
  have e : xs = xs.take k ++ xs[k] :: xs.drop (k + 1) := by rw [← List.drop_eq_getElem_cons h, List.take_append_drop]
  have e2 : findN xs xs[k].name 0 = findN (xs.take k ++ xs[k] :: xs.drop (k + 1)) xs[k].name 0 := by rw [← e]
  rw [e2, findN_append _ _ _ _ (by omega)]
  have hl : (xs.take k).length = k := by rw [List.length_take]; omega
  rcases findN_range (xs.take k) xs[k].name 0 (by omega) with h1 | ⟨h1, h2⟩
  · rw [h1, if_neg (by omega)]
    unfold findN
    rw [if_pos rfl, hl]
    simp
  · rw [if_pos h1, decide_eq_true h1]
    rw [hl] at h2
    simp; omega
theorem parent_i (p : Int) (k : Nat) : ((k : Int) == 0 && p != -1 || decide (0 < (k : Int)) && !(decide (0 ≤ p) && decide (p ≤ (k : Int) - 1))) = (((p == -1) != ((k : Int) == 0)) || decide (p < -1) || decide ((k : Int) ≤ p)) := by
  rcases Nat.eq_zero_or_pos k with rfl | hk
  · by_cases hp : p = -1
    · subst hp; rfl
    · have h1 : (p == -1) = false := by simpa using hp
      simp [h1, bne]
  · have h0 : ((k : Int) == 0) = false := by simp; omega
    have h2 : decide (0 < (k : Int)) = true := by simp; omega
    rw [h0, h2, Bool.false_and, Bool.true_and, Bool.false_or, Bool.eq_iff_iff]
    by_cases hp : p = -1
    · subst hp; simp
    · have h1 : (p == -1) = false := by simpa using hp
      rw [h1]
      simp only [Bool.not_eq_true', Bool.and_eq_false_iff, decide_eq_false_iff_not, Bool.or_eq_true, decide_eq_true_eq, bne]
      simp
      omega
theorem badCls_i {xs : List Cls} {k : Nat} (h : k < xs.length) : badCls xs k xs[k] = ((!okName xs[k].name || findN xs xs[k].name 0 != (k : Int)) || (((xs[k].parent == -1) != ((k : Int) == 0)) || decide (xs[k].parent < -1) || decide ((k : Int) ≤ xs[k].parent))) := by
  unfold badCls
  have hs := findN_self h
  have hn : (findN xs xs[k].name 0 != (k : Int)) = decide (0 ≤ findN (xs.take k) xs[k].name 0) := by rw [bne, hs, Bool.not_not]
  rw [hn]
  generalize okName xs[k].name = a
  generalize decide (0 ≤ findN (xs.take k) xs[k].name 0) = b
  generalize xs[k].parent = p
  rw [Bool.or_assoc, parent_i]

theorem ivalidName_any (s : ByteArray) (w : World) (hs : s.size ≤ 9223372036854775807) : Calls Tryd.prog 61 #[.string s] w fun e w' => e = .returned (.bool (okName s)) ∧ w = w' := by
  by_cases hlo : s.size < 1
  · have HF : Hid (okName s = false) := by show _ = _; unfold okName; rw [decide_eq_false (p := 1 ≤ s.size) (by omega)]; simp
    go_enter Tryd.func61, Tryd.ntmps61
    go_wp2
    go_ret
    exact ⟨ret_bool HF.out.symm, rfl⟩
  · by_cases hhi : 6 < s.size
    · have HF : Hid (okName s = false) := by show _ = _; unfold okName; rw [decide_eq_false (p := s.size ≤ 6) (by omega)]; simp
      go_enter Tryd.func61, Tryd.ntmps61
      go_wp2
      go_ret
      exact ⟨ret_bool HF.out.symm, rfl⟩
    · have d1 : decide ((s.size : Int) < 1) = false := decide_eq_false (by omega)
      have d2 : decide (6 < (s.size : Int)) = false := decide_eq_false (by omega)
      go_enter Tryd.func61, Tryd.ntmps61
      go_wp2
      go_loop [14] (fun i => ∃ k : Nat, k ≤ s.size ∧ i = .int .i64 k ∧ lowers s.data.toList = lowers (s.data.toList.drop k)) (fun i => s.size - (intOf i).toNat)
      case atStart => exact ⟨0, Nat.zero_le _, rfl, rfl⟩
      case round =>
        obtain ⟨k, hk, rfl, hr⟩ := hrel
        have HR := Lib.hid hr; clear hr
        by_cases hlt : k < s.size
        · have hc : 0 ≤ (s[k].toNat : Int) ∧ (s[k].toNat : Int) ≤ 255 := by have := UInt8.toNat_lt s[k]; omega
          by_cases h1 : s[k].toNat < 97
          · have HF : Hid (okName s = false) := by show _ = _; unfold okName; rw [HR.out, lowers_at hlt, decide_eq_false (p := 97 ≤ s[k].toNat) (by omega)]; rfl
            go_wp2
            go_ret
            exact ⟨ret_bool HF.out.symm, rfl⟩
          · by_cases h2 : 122 < s[k].toNat
            · have HF : Hid (okName s = false) := by show _ = _; unfold okName; rw [HR.out, lowers_at hlt, decide_eq_false (p := s[k].toNat ≤ 122) (by omega)]; simp
              go_wp2
              go_ret
              exact ⟨ret_bool HF.out.symm, rfl⟩
            · have HF : Hid (lowers s.data.toList = lowers (s.data.toList.drop (k + 1))) := by show _ = _; rw [HR.out, lowers_at hlt, decide_eq_true (p := 97 ≤ s[k].toNat) (by omega), decide_eq_true (p := s[k].toNat ≤ 122) (by omega)]; rfl
              go_wp2
              go_round
              case rel => exact ⟨k + 1, by omega, by go_num, HF.out⟩
              case measure => simp [intOf]; omega
        · have HF : Hid (okName s = true) := by
            show _ = _; unfold okName; rw [HR.out, lowers_end hlt, decide_eq_true (p := 1 ≤ s.size) (by omega), decide_eq_true (p := s.size ≤ 6) (by omega)]; rfl
          go_wp2
          go_ret
          exact ⟨ret_bool HF.out.symm, rfl⟩

theorem closure_any (c : Cls) (s : ByteArray) (g : Nat) (w : World) (hg : w.cell? ⟨g, 0, none⟩ = some (.string s)) (hlt : g < w.heap.size) :
    Calls Tryd.prog 84 #[.agg #[.string c.name, .int .i64 c.parent], .pointer (some ⟨g, 0, none⟩)] w fun e w' => e = .returned (.bool (c.name.toList == s.toList)) ∧ Le w w' := by
  have hg' : (w.alloc (.cells #[.string c.name, .int .i64 c.parent] 79)).cell? ⟨g, 0, none⟩ = some (.string s) := ((Le.new w _).cell hlt).trans hg
  go_enter Tryd.func84, Tryd.ntmps84
  go_wp2
  go_ret
  exact ⟨rfl, Le.new w _⟩

theorem indexFunc_any (A : Option Addr) (n cap : Nat) (xs : List Cls) (s : ByteArray) (g : Nat) (w : World) (hR : Sl w A n cap xs) (hg : w.cell? ⟨g, 0, none⟩ = some (.string s)) (hgl : g < w.heap.size) :
    Calls Tryd.prog 83 #[.slice A n cap, .func (.func 84) #[] #[.pointer (some ⟨g, 0, none⟩)]] w fun e w' => e = .returned (.int .i64 (findN xs s 0)) ∧ Le w w' := by
  obtain rfl := hR.len
  have hm := hR.n_le
  go_enter Tryd.func83, Tryd.ntmps83
  go_wp2
  go_loopw [8] (fun i wr => ∃ k : Nat, k ≤ xs.length ∧ i = .int .i64 k ∧ findN xs s 0 = findN (xs.drop k) s k ∧ Le w wr) (fun i _ => xs.length - (intOf i).toNat)
  case atStart => exact ⟨0, Nat.zero_le _, rfl, rfl, Le.refl _⟩
  case round =>
    obtain ⟨k, hk, rfl, hr, hle⟩ := hrel
    have HR := Lib.hid hr; clear hr
    have hRr := hR.le hle
    have hgr := (hle.cell hgl).trans hg
    have hgz : g < wr.heap.size := Nat.lt_of_lt_of_le hgl hle.size
    clear hR hg
    by_cases hlt : k < xs.length
    · obtain ⟨b, off, rfl, _, hcell, hcell2, _, _, _⟩ := hRr.cls_at hlt
      by_cases he : xs[k].name = s
      · have he' := str_eq he
        have HF : Hid (findN xs s 0 = k) := by show _ = _; rw [HR.out, findN_at hlt, if_pos he]
        clear he
        go_wp2_with (go_at_call 84; refine (closure_any xs[k] s g _ hgr hgz).mono ?_; rintro e w' ⟨rfl, hw1⟩)
        go_ret
        exact ⟨ret_int HF.out.symm, hle.trans hw1⟩
      · have he' := str_ne he
        have HF : Hid (findN xs s 0 = findN (xs.drop (k + 1)) s ((k + 1 : Nat) : Int)) := by show _ = _; rw [HR.out, findN_at hlt, if_neg he]; rfl
        clear he
        go_wp2_with (go_at_call 84; refine (closure_any xs[k] s g _ hgr hgz).mono ?_; rintro e w' ⟨rfl, hw1⟩)
        go_roundw
        case rel => exact ⟨k + 1, by omega, by go_num, HF.out, hle.trans hw1⟩
        case measure => simp [intOf]; omega
    · have HF : Hid (findN xs s 0 = -1) := by show _ = _; rw [HR.out, findN_end hlt]
      go_wp2
      go_ret
      exact ⟨ret_int HF.out.symm, hle⟩

theorem indexOfName_any (A : Option Addr) (n cap : Nat) (xs : List Cls) (s : ByteArray) (w : World) (hR : Sl w A n cap xs) :
    Calls Tryd.prog 62 #[.slice A n cap, .string s] w fun e w' => e = .returned (.int .i64 (findN xs s 0)) ∧ Le w w' := by
  go_enter Tryd.func62, Tryd.ntmps62
  go_wp2_with fail
  refine (indexFunc_any A n cap xs s _ _ (hR.alloc _) (by simp) (by simp)).mono ?_
  rintro e w' ⟨rfl, hw1⟩
  go_wp2
  go_ret
  exact ⟨rfl, (Le.new w _).trans hw1⟩
end

section
set_option maxHeartbeats 8000000 in
theorem iValidTree_any (A : Option Addr) (n cap : Nat) (xs : List Cls) (w : World) (hR : Sl w A n cap xs) :
    Calls Tryd.prog 36 #[.agg #[.slice A n cap]] w fun e w' => e = .returned (.bool (okTree xs)) ∧ Le w w' := by
  obtain rfl := hR.len
  have hm := hR.n_le
  have hcp := hR.cap_
  have HL : xs.length < 1 ∨ 8 < xs.length → ∀ k, k ≤ xs.length → okFrom xs k (xs.drop k) = false := by
    intro h k hk
    obtain ⟨m, hm⟩ : ∃ m, xs.length - k = m := ⟨_, rfl⟩
    induction m generalizing k with
    | zero => rw [okFrom_end (by omega)]; simp; omega
    | succ m ih => rw [okFrom_at (by omega), ih (k + 1) (by omega) (by omega), Bool.and_false]
  by_cases h1 : xs.length < 1
  · have HF : Hid (okTree xs = false) := HL (.inl h1) 0 (Nat.zero_le _)
    clear HL
    go_enter Tryd.func36, Tryd.ntmps36
    go_wp2
    go_ret
    exact ⟨ret_bool HF.out.symm, Le.new w _⟩
  · by_cases h8 : 8 < xs.length
    · have HF : Hid (okTree xs = false) := HL (.inr h8) 0 (Nat.zero_le _)
      clear HL
      go_enter Tryd.func36, Tryd.ntmps36
      go_wp2
      go_ret
      exact ⟨ret_bool HF.out.symm, Le.new w _⟩
    · clear HL
      have d1 : decide ((xs.length : Int) < 1) = false := decide_eq_false (by omega)
      have d2 : decide (8 < (xs.length : Int)) = false := decide_eq_false (by omega)
      go_enter Tryd.func36, Tryd.ntmps36
      go_wp2
      go_loopw [19] (fun i wr => ∃ k : Nat, k ≤ xs.length ∧ i = .int .i64 k ∧ okTree xs = okFrom xs k (xs.drop k) ∧ Le (w.alloc (.cells #[.slice A xs.length cap] 25)) wr) (fun i _ => xs.length - (intOf i).toNat)
      case atStart => exact ⟨0, Nat.zero_le _, rfl, rfl, Le.refl _⟩
      case round =>
        obtain ⟨k, hk, rfl, hr, hle⟩ := hrel
        have HR := Lib.hid hr; clear hr
        have hz : w.heap.size < wr.heap.size := by have := hle.size; simp at this; omega
        have hT : wr.cell? ⟨w.heap.size, 0, none⟩ = some (.slice A xs.length cap) := by
          rw [hle.cell (by simp)]; simp
        have hwr : Le w wr := (Le.new w _).trans hle
        have hRr := hR.le hwr
        clear hR
        by_cases hlt : k < xs.length
        · obtain ⟨b, off, rfl, hb, hcell, hcell2, hns, hp1, hp2⟩ := hRr.cls_at hlt
          have HB : Hid (okTree xs = (!badCls xs k xs[k] && okFrom xs (k + 1) (xs.drop (k + 1)))) := by show _ = _; rw [HR.out, okFrom_at hlt]
          cases h1 : okName xs[k].name
          · have HF : Hid (okTree xs = false) := by show _ = _; rw [HB.out, badCls_i hlt, h1]; rfl
            clear HB
            go_wp2_with (go_at_call 61; refine (ivalidName_any _ _ hns).mono ?_; rintro e w' ⟨rfl, rfl⟩; rw [h1])
            go_ret
            exact ⟨ret_bool HF.out.symm, hwr.trans (Le.new _ _)⟩
          · have HB1 : Hid (okTree xs = (!(findN xs xs[k].name 0 != (k : Int) || (((xs[k].parent == -1) != ((k : Int) == 0)) || decide (xs[k].parent < -1) || decide ((k : Int) ≤ xs[k].parent))) && okFrom xs (k + 1) (xs.drop (k + 1)))) := by
              show _ = _; rw [HB.out, badCls_i hlt, h1]; rfl
            clear HB
            go_wp2_with (go_at_call 61; refine (ivalidName_any _ _ hns).mono ?_; rintro e w' ⟨rfl, rfl⟩; rw [h1])
            refine (indexOfName_any _ _ _ _ _ _ (hRr.alloc _)).mono ?_
            rintro e w3 ⟨rfl, h3⟩
            have e2 : w3.cell? ⟨wr.heap.size, 1, none⟩ = some (.int .i64 xs[k].parent) := (h3.cell (by simp)).trans (by simp)
            have hw3 : Le wr w3 := (Le.new _ _).trans h3
            clear hcell hcell2 hT h3
            cases h2 : findN xs xs[k].name 0 != (k : Int)
            · cases h4 : xs[k].parent == -1
              all_goals cases h5 : (k : Int) == 0
              all_goals cases h6 : decide (xs[k].parent < -1)
              all_goals cases h7 : decide ((k : Int) ≤ xs[k].parent)
              all_goals
                have hout := HB1.out
                simp only [h2, h4, h5, h6, h7] at hout
                have HO := Lib.hid hout
                clear hout HB1
                go_wp2
                first
                  | (go_ret; exact ⟨ret_bool (by rw [HO.out]; rfl), hwr.trans hw3⟩)
                  | (go_roundw
                     case rel => exact ⟨k + 1, by omega, by go_num, by rw [HO.out]; rfl, hle.trans hw3⟩
                     case measure => simp [intOf]; omega)
            · have HF : Hid (okTree xs = false) := by show _ = _; rw [HB1.out, h2]; rfl
              clear HB1
              go_wp2
              go_ret
              exact ⟨ret_bool HF.out.symm, hwr.trans hw3⟩
        · have HF : Hid (okTree xs = true) := by
            show _ = _; rw [HR.out, okFrom_end hlt]; simp; omega
          go_wp2
          go_ret
          exact ⟨ret_bool HF.out.symm, hwr⟩
end

section
def vl (n k x : Int) : Bool := (x != k) && rng (-1) (n - 1) x
theorem hasK_rng (xs : List Cls) (a : Int) : hasK xs a = rng 0 ((xs.length : Int) - 1) a := rfl
theorem fOk_vl (xs : List Cls) (n : Nat) (k : Int) (x : Flt) : fOk xs n k x = (rng 0 ((xs.length : Int) - 1) x.cls && rng 0 99 x.code && vl n k x.cause && vl n k x.ctx) := by
  unfold fOk linksOk vl
  rw [hasK_rng]
  cases rng 0 ((xs.length : Int) - 1) x.cls <;> cases rng 0 99 x.code <;> cases rng (-1) ((n : Int) - 1) x.cause <;> cases rng (-1) ((n : Int) - 1) x.ctx <;> cases (x.cause != k) <;> cases (x.ctx != k) <;> rfl

theorem iInRange_any (x lo hi : Int) (w : World) :
    Calls Tryd.prog 37 #[.int .i64 x, .int .i64 lo, .int .i64 hi] w fun e w' => e = .returned (.bool (rng lo hi x)) ∧ Le w w' := by
  unfold rng
  go_enter Tryd.func37, Tryd.ntmps37
  go_wp2
  all_goals (go_ret; simp_all [Le.refl])
  all_goals omega
theorem validLink_any (n k x : Int) (w : World) (hn : 0 ≤ n) (hn2 : n ≤ 1048576000) :
    Calls Tryd.prog 38 #[.int .i64 n, .int .i64 k, .int .i64 x] w fun e w' => e = .returned (.bool (vl n k x)) ∧ Le w w' := by
  have hnn : IntKind.i64.wrap (n - 1) = n - 1 := IntWalk.i64_in _ (by omega)
  have hr : Hid (vl n k x = ((x != k) && rng (-1) (n - 1) x)) := rfl
  cases h1 : (x != k)
  all_goals
    rw [h1] at hr
    go_enter Tryd.func38, Tryd.ntmps38
    go_wp2_with fail
    first
      | (go_ret
         exact ⟨ret_bool (by rw [hr.out]; simp), Le.refl _⟩)
      | (refine (iInRange_any _ _ _ _).mono ?_
         rintro e w' ⟨rfl, hle⟩
         go_wp2
         go_ret
         exact ⟨ret_bool (by rw [hr.out]; simp), hle⟩)

theorem okHeap_parts (xs : List Cls) (hs : List Flt) : okHeap xs hs = (okTree xs && decide (hs.length ≤ 24) && (allF xs hs.length 0 (hs.drop 0) && endsF hs 0 hs.length)) := by
  unfold okHeap
  rw [List.drop_zero]
  cases allF xs hs.length 0 hs <;> cases endsF hs 0 hs.length <;> cases okTree xs <;> cases decide (hs.length ≤ 24) <;> rfl

set_option maxHeartbeats 12000000 in
set_option maxRecDepth 100000 in
theorem iValidHeap_any (A H : Option Addr) (n cap m c : Nat) (xs : List Cls) (hs : List Flt) (w : World) (hR : Sl w A n cap xs) (hH : Sl w H m c hs) (hm : m ≤ 2097152) :
    Calls Tryd.prog 12 #[.agg #[.slice A n cap], .agg #[.slice H m c]] w fun e w' => e = .returned (.bool (okHeap xs hs)) ∧ Le w w' := by
  obtain rfl := hH.len
  have HO := Lib.hid (okHeap_parts xs hs)
  have hnx := hR.n_le
  have hxl := hR.len
  go_enter Tryd.func12, Tryd.ntmps12
  go_wp2_with fail
  obtain ⟨c0, z0, c1, z1, L0⟩ := box2 w (.slice A n cap) (.slice H hs.length c) 25 28
  generalize (w.alloc (.cells #[.slice A n cap] 25)).alloc (.cells #[.slice H hs.length c] 28) = W at *
  go_wp2_with fail
  refine (iValidTree_any A n cap xs _ (hR.le L0)).mono ?_
  rintro e w1 ⟨rfl, hle⟩
  replace c0 := (hle.cell z0).trans c0
  replace c1 := (hle.cell z1).trans c1
  replace z0 := Nat.lt_of_lt_of_le z0 hle.size
  replace z1 := Nat.lt_of_lt_of_le z1 hle.size
  replace L0 := L0.trans hle
  clear hle
  cases ht : okTree xs
  · rw [ht] at HO
    go_wp2
    go_ret
    exact ⟨ret_bool (by rw [HO.out]; rfl), L0⟩
  · rw [ht] at HO
    by_cases hsz : hs.length ≤ 24
    · have hd : decide (24 < hs.length) = false := decide_eq_false (by omega)
      have hd' : decide ((24 : Int) < (hs.length : Int)) = false := decide_eq_false (by omega)
      rw [decide_eq_true hsz] at HO
      have hwn : IntKind.i64.wrap ((xs.length : Int) - 1) = (xs.length : Int) - 1 := IntWalk.i64_in _ (by omega)
      subst hxl
      have HD := Lib.hid hd; have HD' := Lib.hid hd'
      go_wp2_with fail
      clear hd hd'
      go_loopw [22] (fun q wr => ∃ k : Nat, k ≤ hs.length ∧ q = .int .i64 k ∧ allF xs hs.length 0 (hs.drop 0) = allF xs hs.length k (hs.drop k) ∧ Le w1 wr) (fun q _ => hs.length - (intOf q).toNat)
      case atStart => exact ⟨0, Nat.zero_le _, rfl, rfl, Le.refl _⟩
      case round =>
        obtain ⟨k, hk, rfl, hr, hle⟩ := hrel
        have HR := Lib.hid hr; clear hr
        replace c0 := (hle.cell z0).trans c0
        replace c1 := (hle.cell z1).trans c1
        replace z0 := Nat.lt_of_lt_of_le z0 hle.size
        replace z1 := Nat.lt_of_lt_of_le z1 hle.size
        replace L0 := L0.trans hle
        by_cases hlt : k < hs.length
        · obtain ⟨b, off, rfl, hb, k0, k1, k2, k3, k4, -⟩ := (hH.le L0).flt_at hlt
          have HX : Hid (allF xs hs.length 0 (hs.drop 0) = (rng 0 ((xs.length : Int) - 1) hs[k].cls && rng 0 99 hs[k].code && vl hs.length k hs[k].cause && vl hs.length k hs[k].ctx && allF xs hs.length (k + 1) (hs.drop (k + 1)))) := by
            show _ = _; rw [HR.out, allF_at hlt, fOk_vl]
          generalize hs[k].cls = xc at *
          generalize hs[k].code = xd at *
          generalize hs[k].cause = xa at *
          generalize hs[k].ctx = xb at *
          cases h1 : rng 0 ((xs.length : Int) - 1) xc
          case' true => cases h2 : rng 0 99 xd
          case' true.true => cases h3 : vl hs.length k xa
          case' true.true.true => cases h4 : vl hs.length k xb
          all_goals
            have hx2 := HX.out
            rw [h1] at hx2
            try rw [h2] at hx2
            try rw [h3] at hx2
            try rw [h4] at hx2
            have HY := Lib.hid hx2
            clear hx2
            go_wp2_with fail
            obtain ⟨d0, d1, d2, d3, d4, zd, hld⟩ := box5 wr (.int .i64 xc) (.int .i64 xd) (.int .i64 xa) (.int .i64 xb) (.bool hs[k].hide) 49
            replace c0 := (hld.cell z0).trans c0
            replace c1 := (hld.cell z1).trans c1
            replace z0 := Nat.lt_of_lt_of_le z0 hld.size
            replace z1 := Nat.lt_of_lt_of_le z1 hld.size
            have L2 := L0.trans hld
            replace hle := hle.trans hld
            clear hld k0 k1 k2 k3 k4
            generalize wr.alloc (.cells #[.int .i64 xc, .int .i64 xd, .int .i64 xa, .int .i64 xb, .bool hs[k].hide] 49) = W3 at *
            refine (iInRange_any _ _ _ _).mono ?_
            rintro e w4 ⟨rfl, hle4⟩
            rw [h1]
            replace c0 := (hle4.cell z0).trans c0
            replace c1 := (hle4.cell z1).trans c1
            replace d1 := (hle4.cell zd).trans d1
            replace d2 := (hle4.cell zd).trans d2
            replace d3 := (hle4.cell zd).trans d3
            replace z0 := Nat.lt_of_lt_of_le z0 hle4.size
            replace z1 := Nat.lt_of_lt_of_le z1 hle4.size
            replace zd := Nat.lt_of_lt_of_le zd hle4.size
            replace L2 := L2.trans hle4
            replace hle := hle.trans hle4
            clear hle4 d0 d4
            go_wp2_with fail
            first
              | (go_ret
                 exact ⟨ret_bool (by rw [HO.out, HY.out]; simp), L2⟩)
              | (refine (iInRange_any _ _ _ _).mono ?_
                 rintro e w5 ⟨rfl, hle5⟩
                 rw [h2]
                 replace c0 := (hle5.cell z0).trans c0
                 replace c1 := (hle5.cell z1).trans c1
                 replace d2 := (hle5.cell zd).trans d2
                 replace d3 := (hle5.cell zd).trans d3
                 replace z0 := Nat.lt_of_lt_of_le z0 hle5.size
                 replace z1 := Nat.lt_of_lt_of_le z1 hle5.size
                 replace zd := Nat.lt_of_lt_of_le zd hle5.size
                 replace L2 := L2.trans hle5
                 replace hle := hle.trans hle5
                 clear hle5 d1
                 go_wp2_with fail
                 first
                   | (go_ret
                      exact ⟨ret_bool (by rw [HO.out, HY.out]; simp), L2⟩)
                   | (refine (validLink_any _ _ _ _ (by omega) (by omega)).mono ?_
                      rintro e w6 ⟨rfl, hle6⟩
                      rw [h3]
                      replace c0 := (hle6.cell z0).trans c0
                      replace c1 := (hle6.cell z1).trans c1
                      replace d3 := (hle6.cell zd).trans d3
                      replace z0 := Nat.lt_of_lt_of_le z0 hle6.size
                      replace z1 := Nat.lt_of_lt_of_le z1 hle6.size
                      replace zd := Nat.lt_of_lt_of_le zd hle6.size
                      replace L2 := L2.trans hle6
                      replace hle := hle.trans hle6
                      clear hle6 d2
                      go_wp2_with fail
                      first
                        | (go_ret
                           exact ⟨ret_bool (by rw [HO.out, HY.out]; simp), L2⟩)
                        | (refine (validLink_any _ _ _ _ (by omega) (by omega)).mono ?_
                           rintro e w7 ⟨rfl, hle7⟩
                           rw [h4]
                           replace L2 := L2.trans hle7
                           replace hle := hle.trans hle7
                           clear hle7 d3
                           go_wp2
                           first
                             | (go_ret
                                exact ⟨ret_bool (by rw [HO.out, HY.out]; simp), L2⟩)
                             | (go_roundw
                                case rel => exact ⟨k + 1, by omega, by go_num, by rw [HY.out]; simp, hle⟩
                                case measure => simp [intOf]; omega))))
        · have HA : Hid (allF xs hs.length 0 (hs.drop 0) = true) := by show _ = _; rw [HR.out, allF_end hlt]
          have lk : Lnk hs := by
            have := HA.out
            rw [List.drop_zero] at this
            exact lnk_of this
          rw [HA.out] at HO
          clear HR HA
          go_wp2
          clear hlt hk
          go_loopw [61] (fun q w2 => ∃ k : Nat, k ≤ hs.length ∧ q = .int .i64 k ∧ (∀ i, i < k → backAt hs (i : Int) = false) ∧ Le wr w2) (fun q _ => hs.length - (intOf q).toNat)
          case atStart => exact ⟨0, Nat.zero_le _, rfl, fun i hi => by omega, Le.refl _⟩
          case round =>
            obtain ⟨k, hk, rfl, hr, hle2⟩ := hrel
            have HR := Lib.hid hr; clear hr
            replace c0 := (hle2.cell z0).trans c0
            replace c1 := (hle2.cell z1).trans c1
            replace z0 := Nat.lt_of_lt_of_le z0 hle2.size
            replace z1 := Nat.lt_of_lt_of_le z1 hle2.size
            replace L0 := L0.trans hle2
            by_cases hlt : k < hs.length
            · go_wp2_with fail
              refine (leadsBack_any A H _ cap hs.length c hs k _ (hH.le L0) lk hlt).mono ?_
              rintro e w3 ⟨rfl, hle3⟩
              replace c0 := (hle3.cell z0).trans c0
              replace c1 := (hle3.cell z1).trans c1
              replace z0 := Nat.lt_of_lt_of_le z0 hle3.size
              replace z1 := Nat.lt_of_lt_of_le z1 hle3.size
              replace L0 := L0.trans hle3
              replace hle2 := hle2.trans hle3
              cases hb : backAt hs k
              · have HB := Lib.hid hb; clear hb
                go_wp2
                go_roundw
                case rel =>
                  refine ⟨k + 1, by omega, by go_num, fun i hi => ?_, hle2⟩
                  rcases Nat.lt_or_ge i k with h1 | h1
                  · exact HR.out i h1
                  · have : i = k := by omega
                    subst this; exact HB.out
                case measure => simp [intOf]; omega
              · have HB := Lib.hid hb; clear hb
                go_wp2
                go_ret
                refine ⟨ret_bool ?_, L0⟩
                have hne : endsF hs 0 hs.length = false := by
                  cases he : endsF hs 0 hs.length
                  · rfl
                  · have := (ends_back lk).1 he k hlt
                    rw [HB.out] at this; cases this
                rw [HO.out, hne]; rfl
            · have he : endsF hs 0 hs.length = true := (ends_back lk).2 fun i hi => HR.out i (by omega)
              rw [he] at HO
              go_wp2
              go_ret
              exact ⟨ret_bool (by rw [HO.out]; rfl), L0⟩
    · rw [decide_eq_false hsz] at HO
      have hd : decide (24 < hs.length) = true := decide_eq_true (by omega)
      have hd' : decide ((24 : Int) < (hs.length : Int)) = true := decide_eq_true (by omega)
      go_wp2
      go_ret
      exact ⟨ret_bool (by rw [HO.out]; rfl), L0⟩
end
end Go.Proofs.YthcolcmgfhkbeaaDoor
