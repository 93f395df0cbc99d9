/- errors.Is over failures -/
import Derived.Test.YthcolcmgfhkbeaaErCtx
import Derived.Test.YthcolcmgfhkbeaaHpB
import Derived.Deep.LoopGhost
namespace Go.Proofs.Ythcolcmgfhkbeaa
open Go.RowKit Go.Extern.Stop Go.Stop Go.Extern

theorem nxCtx_eq (hs : List Flt) : nxCtx hs = ctxOf hs := rfl
theorem fxIs (v : Value) (xT : TypeId) (w : World) : (Instr.typeAssert (.iface 71 v) xT 90 true).run Try.prog w = .ok (.tuple #[.iface 71 v, .bool true]) w := run_typeAssert_hasB Try.underlying90 (by kernel_rfl) v xT w
theorem fxUn (v : Value) (xT : TypeId) (w : World) : (Instr.typeAssert (.iface 71 v) xT 93 true).run Try.prog w = .ok (.tuple #[.iface 71 v, .bool true]) w := run_typeAssert_hasB Try.underlying93 (by kernel_rfl) v xT w
theorem fxFail (v : Value) (xT : TypeId) (w : World) : (Instr.typeAssert (.iface 71 v) xT 71 true).run Try.prog w = .ok (.tuple #[v, .bool true]) w := by
  simp [Instr.typeAssert, run_underlying Try.underlying71, go_sem, Result.andThen]
theorem fxmIs (v : Value) (w : World) : (Go.method 233 71 v "Is").run Try.prog w = .ok (67, v) w := by kernel_rfl
theorem fxmUn (v : Value) (w : World) : (Go.method 233 71 v "Unwrap").run Try.prog w = .ok (68, v) w := by kernel_rfl
theorem fxTypeOf (v : Value) (w : World) : (Extern.ReflectliteType.typeOf #[.iface 71 v]).run Try.prog w = .ok (.iface 88 (.agg #[.pointer (some ⟨0, 71, none⟩)])) w := by kernel_rfl
theorem fxComparable : ∃ fn : Array Value → Sem Value, find Try.f72 = some fn ∧ ∀ w : World, (fn #[.agg #[.pointer (some ⟨0, 71, none⟩)]]).run Try.prog w = .ok (.bool true) w :=
  have h : (find Try.f72).isSome = true := by kernel_rfl
  ⟨_, (Option.some_get h).symm, fun w => by kernel_rfl⟩
theorem fxmComparable (v : Value) (w : World) : (Go.method 233 88 v "Comparable").run Try.prog w = .ok (72, v) w := by kernel_rfl
theorem fxComp : (Try.prog.info? 71).map (·.comparable) = some true := by kernel_rfl
theorem fxSize : (Try.prog.info? 86).map (·.size) = some 5 := by kernel_rfl

set_option maxHeartbeats 2000000 in
set_option maxRecDepth 100000 in
theorem isF_any (g1 g2 : Nat) (i1 i2 : Int) (w : World) (c1 : w.cell? ⟨g1, 2, none⟩ = some (.int .i64 i1)) (c2 : w.cell? ⟨g2, 2, none⟩ = some (.int .i64 i2)) (h1 : g1 < w.heap.size) (h2 : g2 < w.heap.size) :
    Calls Try.prog 67 #[.pointer (some ⟨g1, 0, none⟩), .iface 71 (.pointer (some ⟨g2, 0, none⟩))] w fun e w' => e = .returned (.bool (i2 == i1)) ∧ Le w w' := by
  have E1 := cell_ext h1 c1
  have E2 := cell_ext h2 c2
  have aF := fxFail
  cases he : i2 == i1
  all_goals
    go_enter Try.func67, Try.ntmps67
    go_wp2_with fail
    refine wp_region_ext (by kernel_rfl) (by kernel_rfl) ?_
    repeat (go_big_quiet_step (fail))
    refine wpQuiet_nil ?_
    intro _ hw'
    obtain ⟨gg, rfl⟩ := hw'
    have L0 := Le.ext w gg
    generalize w.ext gg = W at *
    go_wp2
    go_ret
    exact ⟨rfl, L0⟩

theorem go_mem {nx : Int → Int} {x : Int} : ∀ (m : Nat) (f : Int) (out : List Int), x ∈ out → x ∈ Chn.go nx m f out
  | 0, _, out, h => h
  | m + 1, f, out, h => by
    unfold Chn.go
    split
    · exact h
    · exact go_mem m (nx f) (out ++ [f]) (List.mem_append_left _ h)
theorem hasI_no {x : Int} {L : List Int} (h : ∀ a (ha : a < L.length), L[a] ≠ x) : hasI L x = false :=
  hasI_not (fun hm => by obtain ⟨a, ha, e⟩ := List.getElem_of_mem hm; exact h a ha e)
theorem eqlF_other {w : World} {a b : Nat} {ca cb : Array Value} {ta tb : TypeId} (hne : a ≠ b) (ha : w.heap[a]? = some (.cells ca ta (0, 0))) (hb : w.heap[b]? = some (.cells cb tb (0, 0))) :
    (binOp .eql 78 (.iface 71 (.pointer (some ⟨a, 0, none⟩))) (.iface 71 (.pointer (some ⟨b, 0, none⟩)))).run Try.prog w = .ok (.bool false) w := by
  obtain ⟨i, hi, hcmp⟩ := Option.map_eq_some_iff.1 fxComp
  obtain ⟨j, hj, hjs⟩ := Option.map_eq_some_iff.1 fxSize
  exact run_eql_iface_ptr_other (P := Try.prog) w Try.underlying78 Try.underlying71 hi hcmp hj (by rw [hjs]; decide) (fun e => hne (by injection e)) ha hb

set_option maxHeartbeats 2000000 in
set_option maxRecDepth 100000 in
theorem isErr_any (tv : Value) (H : Option Addr) (m c : Nat) (hs : List Flt) (g1 g2 : Nat) (cx f : Int) (cs2 : Array Value) (w : World) (hH : Sl w H m c hs) (lk : Lnk hs) (hto : TvOk tv) (h0 : 0 ≤ cx) (h1 : cx < hs.length)
    (hF : FCh w tv (.slice H m c) lkCtx [g1] [cx]) (hT : w.heap[g2]? = some (.cells cs2 86 (0, 0))) (hT2 : w.cell? ⟨g2, 2, none⟩ = some (.int .i64 f)) (hne : g1 ≠ g2) :
    Calls Try.prog 49 #[.iface 71 (.pointer (some ⟨g1, 0, none⟩)), .iface 71 (.pointer (some ⟨g2, 0, none⟩)), .bool true] w fun e w' => e = .returned (.bool (hasI (chainN (ctxOf hs) hs.length cx) f)) ∧ Le w w' := by
  have aIs := fxIs
  have aUn := fxUn
  have mIs := fxmIs
  have mUn := fxmUn
  have hg2 : g2 < w.heap.size := (Array.getElem?_eq_some_iff.1 hT).1
  have HLT := Lib.hid lk.ctxlt
  have hcx0 : chainN (ctxOf hs) hs.length cx = Chn.go (ctxOf hs) hs.length (ctxOf hs cx) [cx] := by
    unfold chainN; rw [go_on h0 (by simp)]; rfl
  have HC0 := Lib.hid hcx0; clear hcx0
  have hP0 : Chn.Pre (ctxOf hs) hs.length cx (ctxOf hs cx) [cx] := by
    have := (Chn.Pre.start h1).step (nx := ctxOf hs) h0 (by simp) (lk.ctxlt cx h0 h1)
    simpa using this
  have HP0 := Lib.hid hP0; clear hP0
  obtain ⟨i0, rfl⟩ := Int.eq_ofNat_of_zero_le h0
  go_enter Try.func49, Try.ntmps49
  go_wp2
  go_loopg [0] (hs.length) (fun mm q wr => ∃ (gs : List Nat) (out : List Int) (j i g : Nat), q = .iface 71 (.pointer (some ⟨g, 0, none⟩)) ∧ gs.length = j + 1 ∧ gs[j]? = some g ∧ out[j]? = some (i : Int) ∧ i < hs.length ∧ FCh wr tv (.slice H m c) lkCtx gs out ∧
      Chn.Pre (ctxOf hs) hs.length (i0 : Int) (ctxOf hs (i : Int)) out ∧ hs.length + 1 ≤ mm + out.length ∧ chainN (ctxOf hs) hs.length (i0 : Int) = Chn.go (ctxOf hs) mm (ctxOf hs (i : Int)) out ∧ (∀ a (h : a < out.length), a < j → out[a] ≠ f) ∧ (∀ a (h : a < gs.length), gs[a] ≠ g2) ∧ Le w wr)
  case atStart => exact ⟨[g1], [(i0 : Int)], 0, i0, g1, rfl, rfl, rfl, rfl, by omega, hF, HP0.out, by simp, HC0.out, fun a h h2 => by omega, fun a h => by simp at h; subst h; exact hne, Le.refl _⟩
  case round =>
    obtain ⟨gs, out, j, i, g, rfl, hgl, hgj, hoj, hil, hF2, hP, hmm, hch, hno, hgne, hle⟩ := hrel
    have hjg : j < gs.length := by omega
    have hjo : j < out.length := by have := hF2.len; omega
    have hge : gs[j] = g := by rw [List.getElem?_eq_getElem hjg] at hgj; injection hgj
    have hoe : out[j] = (i : Int) := by rw [List.getElem?_eq_getElem hjo] at hoj; injection hoj
    have hTr := (Below.block hle _ hg2).trans hT
    have hT2r := (hle.cell hg2).trans hT2
    have hg2r := Nat.lt_of_lt_of_le hg2 hle.size
    have hcell := hF2.row j hjg hjo
    rw [hge] at hcell
    have d2 := hF2.c2 hjg hjo
    rw [hge, hoe] at d2
    have hgr := hF2.lt j hjg
    rw [hge] at hgr
    have hgg : g ≠ g2 := by rw [← hge]; exact hgne j hjg
    have heq := eqlF_other hgg hcell hTr
    have HCH := Lib.hid hch
    have HNO := Lib.hid hno
    have HP := Lib.hid hP
    have HGN := Lib.hid hgne
    have HMM := Lib.hid hmm
    clear hch hno hP hgne hmm
    go_wp2_with fail
    refine (isF_any g g2 (i : Int) f _ d2 hT2r hgr hg2r).mono ?_
    rintro e w2 ⟨rfl, hle2⟩
    have hon : (f == (i : Int)) = true ∨ (f == (i : Int)) = false := by cases (f == (i : Int)) <;> simp
    rcases hon with hb | hb
    · rw [hb]
      go_wp2
      go_ret
      refine ⟨ret_bool ?_, hle.trans hle2⟩
      rw [HCH.out, eq_comm, hasI_iff']
      have : f = (i : Int) := by simpa using hb
      rw [this, ← hoe]
      exact go_mem _ _ _ (List.getElem_mem _)
    · rw [hb]
      have hF3 := hF2.le hle2
      have hH3 := hH.le (hle.trans hle2)
      go_wp2_with fail
      have hU := unwrapCtx_any tv H m c hs gs out j i w2 hH3 hF3 hgl hil hoj hto
      rw [hge] at hU
      refine hU.mono ?_
      rintro e w3 ⟨hle3, (⟨hnx, rfl⟩ | ⟨hnx, g', rfl, hF4, hg'⟩)⟩
      · have hL := HP.out.len
        obtain ⟨mm', rfl⟩ : ∃ mm', gk = mm' + 1 := ⟨gk - 1, by have := HMM.out; omega⟩
        have hgo : Hid (chainN (ctxOf hs) hs.length (i0 : Int) = out) := by
          show _ = _
          rw [nxCtx_eq] at hnx
          rw [HCH.out]
          conv => lhs; unfold Chn.go
          rw [if_pos hnx]
        clear hnx hL
        go_wp2
        go_ret
        refine ⟨ret_bool ?_, (hle.trans hle2).trans hle3⟩
        rw [hgo.out]
        refine (hasI_no fun a ha => ?_).symm
        rcases Nat.lt_or_ge a j with h1 | h1
        · exact HNO.out a ha h1
        · have : a = j := by have := hF2.len; omega
          subst this
          rw [hoe]
          intro h2
          rw [h2] at hb
          simp at hb
      · have hL := HP.out.len
        obtain ⟨mm', rfl⟩ : ∃ mm', gk = mm' + 1 := ⟨gk - 1, by have := HMM.out; omega⟩
        have hnx' : 0 ≤ ctxOf hs (i : Int) ∧ ctxOf hs (i : Int) ∉ out := by
          rw [nxCtx_eq] at hnx
          simp only [not_or, Int.not_lt] at hnx
          exact hnx
        have hgo : Hid (chainN (ctxOf hs) hs.length (i0 : Int) = Chn.go (ctxOf hs) mm' (ctxOf hs (ctxOf hs (i : Int))) (out ++ [ctxOf hs (i : Int)])) := by
          show _ = _
          rw [HCH.out]
          conv => lhs; unfold Chn.go
          rw [if_neg (by rintro (h | h); omega; exact hnx'.2 h)]
        have hlt2 := HLT.out (i : Int) (by omega) (by omega)
        obtain ⟨i', hi'⟩ := Int.eq_ofNat_of_zero_le hnx'.1
        have HPS := Lib.hid (HP.out.step hnx'.1 hnx'.2 (HLT.out _ hnx'.1 hlt2))
        rw [nxCtx_eq] at hF4
        have HF4 := Lib.hid hF4
        clear hnx hF4
        go_wp2
        go_roundg mm'
        case measure => omega
        case rel =>
          refine ⟨gs ++ [g'], out ++ [ctxOf hs (i : Int)], j + 1, i', g', rfl, by simp [hgl], ?_, ?_, by omega, HF4.out, ?_, ?_, ?_, ?_, ?_, (hle.trans hle2).trans hle3⟩
          · rw [← hgl, List.getElem?_append_right (Nat.le_refl _)]; simp
          · have : j + 1 = out.length := by have := hF2.len; omega
            rw [this, List.getElem?_append_right (Nat.le_refl _)]; simpa using hi'
          · rw [← hi']; exact HPS.out
          · have := HMM.out; simp; omega
          · rw [← hi']; exact hgo.out
          · intro a ha haj
            have hal : a < out.length := by have := hF2.len; omega
            rw [List.getElem_append_left hal]
            rcases Nat.lt_or_ge a j with h1 | h1
            · exact HNO.out a hal h1
            · have : a = j := by omega
              subst this
              rw [hoe]
              intro h2
              rw [h2] at hb
              simp at hb
          · intro a ha
            rcases Nat.lt_or_ge a gs.length with h1 | h1
            · rw [List.getElem_append_left h1]; exact HGN.out a h1
            · rw [List.getElem_append_right h1]
              have h4 := Nat.lt_of_lt_of_le hg2r hle2.size
              simp
              omega
end Go.Proofs.Ythcolcmgfhkbeaa
