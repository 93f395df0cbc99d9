/- one text of RnD, RnE -/
import Derived.Test.YtgjlmfjmjglplaaGreatFj22
import Derived.Test.YtgjlmfjmjglplaaGreatFj15
namespace Go.Proofs.YtgjlmfjmjglplaaGreat
open Go.RowKit
set_option linter.unusedVariables false
section
section
variable {w w' wA w4 : World} {R m c n cap : Nat} {B A : Option Addr} {xs : List Cls} {p : List Lin} {lv hv v1 : Value} {lg : List Int} {hs : List Flt}
theorem Rn.raised (h : Rn w R B m c xs A n cap p lv hv lg hs) (LA : Le w wA) {x : Flt} (hx : Enc.ok x) (O4 : w4.ownsRow (R - 1) 68 5 v1 (hs.length + 1) ((hs ++ [x]).flatMap Enc.cells)) (hg : wA.grownBy w4 hv.ownBlock) (hbl : v1.ownBlock = hv.ownBlock ∨ v1.ownBlock = some wA.heap.size) :
    Rn (w4.setCell ⟨R, 3, none⟩ v1) R B m c xs A n cap p lv v1 lg (hs ++ [x]) ∧ Kp R lv hv lv v1 w (w4.setCell ⟨R, 3, none⟩ v1) := by
  have hA := h.le LA
  have hRl : some R ≠ hv.ownBlock := fun e => h.hneR e.symm
  have hsz := hg.size
  have hcell : ∀ o v, wA.cell? ⟨R, o, none⟩ = some v → w4.cell? ⟨R, o, none⟩ = some v := fun o v hc => hg.cell (a := ⟨R, o, none⟩) hc (fun e => hRl e)
  have hfr : ∀ o, w4.frozen? ⟨R, o, none⟩ = wA.frozen? ⟨R, o, none⟩ := fun o => World.frozen?_of_block (a := ⟨R, o, none⟩) (hg.block R hA.z hRl)
  have hzz : (w4.setCell ⟨R, 3, none⟩ v1).heap.size = w4.heap.size := by simp [World.setCell]
  have gs := grown_set w4 R 3 v1
  have hap : lv.ownBlock = none ∨ lv.ownBlock ≠ hv.ownBlock := by
    cases e : lv.ownBlock with
    | none => exact .inl rfl
    | some k => exact .inr fun e2 => h.ap k e e2.symm
  have hlk : ∀ k, hv.ownBlock = some k → R - 1 ≤ k := fun k e => (h.H.lt k e).1
  have hvl : ∀ k, v1.ownBlock = some k → k ≠ R ∧ lv.ownBlock ≠ some k := fun k e => by
    rcases hbl with h1 | h1
    · exact ⟨fun e2 => h.nh (by rw [← h1, e, e2]), fun e2 => h.ap k e2 (h1 ▸ e)⟩
    · rw [h1] at e
      injection e with e
      have := hA.z
      exact ⟨by omega, fun e2 => by have := (hA.O.lt k e2).2; omega⟩
  have S4 := hA.S.grown hg (fun hn a e e2 => by have := h.hB hn a e; have := hlk _ e2.symm; omega)
  have T4 := hA.T.grown hg (fun hn a e e2 => by have := h.hA hn a e; have := hlk _ e2.symm; omega)
  refine ⟨⟨by rw [hzz]; exact Nat.lt_of_lt_of_le hA.z hsz, ?_, ?_, ?_, ?_, ?_, ?_, ?_, ?_, h.hB, h.hA, ?_, ?_, fun k e e2 => (hvl k e2).2 e, h.okl, ?_, h.nl, fun e => (hvl R e).1 rfl⟩, ?_⟩
  · rw [cell_set_other (.inr (by decide))]; exact hcell 0 _ hA.c0
  · rw [cell_set_other (.inr (by decide))]; exact hcell 1 _ hA.c1
  · rw [cell_set_other (.inr (by decide))]; exact hcell 2 _ hA.c2
  · exact cell_set_same (hcell 3 _ hA.c3)
  · rw [fr_set, hfr]; exact hA.f2
  · rw [fr_set, hfr]; exact hA.f3
  · exact S4.grown gs (fun hn a e e2 => by have := h.hB hn a e; have e3 : a.block = R := (by injection e2); omega)
  · exact T4.grown gs (fun hn a e e2 => by have := h.hA hn a e; have e3 : a.block = R := (by injection e2); omega)
  · exact (hA.O.kept hg hap).kept gs (by cases e : lv.ownBlock with | none => exact .inl rfl | some k => exact .inr (fun e2 => by injection e2 with e2; exact h.lneR (by rw [e, e2])))
  · have := O4.kept gs (by cases e : v1.ownBlock with | none => exact .inl rfl | some k => exact .inr (fun e2 => by injection e2 with e2; have := (hvl k e).1; omega))
    rw [List.length_append]; exact this
  · intro y hy
    rcases List.mem_append.1 hy with h1 | h1
    · exact h.okh y h1
    · rw [List.mem_singleton] at h1; subst h1; exact hx
  · refine ⟨?_, ?_, ?_, ?_, fun b hb hR hl hh => ?_, .inl rfl, ?_⟩
    · exact gs.os.trans (hg.os.trans LA.os)
    · exact gs.tape.trans (hg.tape.trans LA.tape)
    · exact gs.output.trans (hg.output.trans LA.output)
    · rw [hzz]; exact Nat.le_trans LA.size hsz
    · have hbA := Nat.lt_of_lt_of_le hb LA.size
      exact (gs.block b (Nat.lt_of_lt_of_le hbA hsz) (fun e => hR (by injection e))).trans ((hg.block b hbA (fun e => hh e.symm)).trans (LA.block b hb))
    · rcases hbl with h1 | h1
      · exact .inl h1
      · exact .inr fun k e => by rw [h1] at e; injection e with e; have := LA.size; omega
end
set_option maxHeartbeats 2000000 in
set_option maxRecDepth 100000 in
theorem raise_any (R m c n cap : Nat) (B A : Option Addr) (xs : List Cls) (p : List Lin) (lv hv : Value) (lg : List Int) (hs : List Flt) (cl k h : Int) (hx : Enc.ok (⟨cl, k, -1, h, false⟩ : Flt)) (hl : hs.length ≤ 1000000) (w : World) (H : Rn w R B m c xs A n cap p lv hv lg hs) :
    Calls Tryz.prog 77 #[.pointer (some ⟨R, 0, none⟩), .int .i64 cl, .int .i64 k, .int .i64 h] w fun e w' => e = lfE (.rai hs.length) ∧ ∃ hv', Rn w' R B m c xs A n cap p lv hv' lg (hs ++ [⟨cl, k, -1, h, false⟩]) ∧ Kp R lv hv lv hv' w w' := by
  obtain ⟨i0, hq, hz0, hz1, hz2⟩ := info_parts infoFltR
  have c3 := H.c3
  have f3 := H.f3
  have hz := H.z
  obtain ⟨AL, cL, rfl⟩ := own_form H.H
  go_enter Tryz.func77, Tryz.ntmps77
  go_wp2_with fail
  have L1 := Le.new w (.cells #[.int .i64 cl, .int .i64 k, .int .i64 (-1), .int .i64 h, .bool false] 68)
  have b0 : (w.alloc (.cells #[.int .i64 cl, .int .i64 k, .int .i64 (-1), .int .i64 h, .bool false] 68)).drew.cell? ⟨w.heap.size, 0, none⟩ = some (.int .i64 cl) := by show (w.alloc _).cell? _ = _; rw [World.cell?_alloc_at _ _ _ _ rfl]; rfl
  have b1 : (w.alloc (.cells #[.int .i64 cl, .int .i64 k, .int .i64 (-1), .int .i64 h, .bool false] 68)).drew.cell? ⟨w.heap.size, 1, none⟩ = some (.int .i64 k) := by show (w.alloc _).cell? _ = _; rw [World.cell?_alloc_at _ _ _ _ rfl]; rfl
  have b2 : (w.alloc (.cells #[.int .i64 cl, .int .i64 k, .int .i64 (-1), .int .i64 h, .bool false] 68)).drew.cell? ⟨w.heap.size, 2, none⟩ = some (.int .i64 (-1)) := by show (w.alloc _).cell? _ = _; rw [World.cell?_alloc_at _ _ _ _ rfl]; rfl
  have b3 : (w.alloc (.cells #[.int .i64 cl, .int .i64 k, .int .i64 (-1), .int .i64 h, .bool false] 68)).drew.cell? ⟨w.heap.size, 3, none⟩ = some (.int .i64 h) := by show (w.alloc _).cell? _ = _; rw [World.cell?_alloc_at _ _ _ _ rfl]; rfl
  have b4 : (w.alloc (.cells #[.int .i64 cl, .int .i64 k, .int .i64 (-1), .int .i64 h, .bool false] 68)).drew.cell? ⟨w.heap.size, 4, none⟩ = some (.bool false) := by show (w.alloc _).cell? _ = _; rw [World.cell?_alloc_at _ _ _ _ rfl]; rfl
  have zb : w.heap.size < (w.alloc (.cells #[.int .i64 cl, .int .i64 k, .int .i64 (-1), .int .i64 h, .bool false] 68)).drew.heap.size := by show _ < (w.alloc _).heap.size; simp
  have LD := L1.drew
  refine wp_region_noPanic ?_
  refine wp_region_Z (fun w' => w'.cell? ⟨R, 3, none⟩ = some (.slice AL hs.length cL) ∧ w'.cell? ⟨w.heap.size, 0, none⟩ = some (.int .i64 cl) ∧ w'.cell? ⟨w.heap.size, 1, none⟩ = some (.int .i64 k) ∧ w'.cell? ⟨w.heap.size, 2, none⟩ = some (.int .i64 (-1)) ∧ w'.cell? ⟨w.heap.size, 3, none⟩ = some (.int .i64 h) ∧ w'.cell? ⟨w.heap.size, 4, none⟩ = some (.bool false)) [12] (by kernel_rfl) ?_
  generalize (w.alloc (.cells #[.int .i64 cl, .int .i64 k, .int .i64 (-1), .int .i64 h, .bool false] 68)).drew = W at *
  have d3 := (LD.cell hz).trans c3
  have g3 := (LD.frozen hz).trans f3
  have OW := (H.le LD).H
  have hzW := (H.le LD).z
  have LN := Le.new W (.cells #[.int .i64 cl, .int .i64 k, .int .i64 (-1), .int .i64 h, .bool false] 68)
  have HZ := Lib.hid zb
  refine wpAnyZ_take (i := 0) (v := ?_) rfl (by kernel_rfl) (fun _ _ _ h => h) (Or.inl ⟨by rfl, ?_⟩) (⟨d3, b0, b1, b2, b3, b4⟩) ?_
  rotate_left 1
  · (intro w hSw; (try dsimp only at hSw); go_simp; try with_reducible rfl)
  try simp only [Act.put, List.setIfInBounds_toArray, List.set_cons_zero, List.set_cons_succ]
  refine wpAnyZ_take (i := 1) (v := ?_) rfl (by kernel_rfl) (fun _ _ _ h => h) (Or.inl ⟨by rfl, ?_⟩) (⟨d3, b0, b1, b2, b3, b4⟩) ?_
  rotate_left 1
  · (intro w hSw; (try dsimp only at hSw); go_simp; try with_reducible rfl)
  try simp only [Act.put, List.setIfInBounds_toArray, List.set_cons_zero, List.set_cons_succ]
  refine wpAnyZ_take (i := 2) (v := ?_) rfl (by kernel_rfl) (fun _ _ _ h => h) (Or.inl ⟨by rfl, ?_⟩) (⟨d3, b0, b1, b2, b3, b4⟩) ?_
  rotate_left 1
  · (intro w hSw; (try dsimp only at hSw); go_simp; try with_reducible rfl)
  try simp only [Act.put, List.setIfInBounds_toArray, List.set_cons_zero, List.set_cons_succ]
  refine wpAnyZ_take (i := 3) (v := ?_) rfl (by kernel_rfl) (fun _ _ _ h => h) (Or.inl ⟨by rfl, ?_⟩) (⟨d3, b0, b1, b2, b3, b4⟩) ?_
  rotate_left 1
  · (intro w hSw; (try dsimp only at hSw); go_simp; try with_reducible rfl)
  try simp only [Act.put, List.setIfInBounds_toArray, List.set_cons_zero, List.set_cons_succ]
  refine wpAnyZ_take (i := 4) (v := ?_) rfl (by kernel_rfl) (fun _ _ _ h => h) (Or.inl ⟨by rfl, ?_⟩) (⟨d3, b0, b1, b2, b3, b4⟩) ?_
  rotate_left 1
  · (intro w hSw; (try dsimp only at hSw); go_simp; try with_reducible rfl)
  try simp only [Act.put, List.setIfInBounds_toArray, List.set_cons_zero, List.set_cons_succ]
  refine wpAnyZ_take (i := 5) (v := ?_) rfl (by kernel_rfl) (fun _ _ _ h => h) (Or.inl ⟨by rfl, ?_⟩) (⟨d3, b0, b1, b2, b3, b4⟩) ?_
  rotate_left 1
  · (intro w hSw; (try dsimp only at hSw); go_simp; try with_reducible rfl)
  try simp only [Act.put, List.setIfInBounds_toArray, List.set_cons_zero, List.set_cons_succ]
  refine wpAnyZ_take (i := 6) (v := ?_) rfl (by kernel_rfl) (fun _ _ _ h => h) (Or.inl ⟨by rfl, ?_⟩) (⟨d3, b0, b1, b2, b3, b4⟩) ?_
  rotate_left 1
  · (intro w hSw; (try dsimp only at hSw); go_simp; try with_reducible rfl)
  try simp only [Act.put, List.setIfInBounds_toArray, List.set_cons_zero, List.set_cons_succ]
  refine wpAnyZ_one (i := 7) (by kernel_rfl) (ReadyZ.mk rfl (fun K hK => ?_))
  go_simp
  have e0 := (LN.cell zb).trans b0
  have e1 := (LN.cell zb).trans b1
  have e2 := (LN.cell zb).trans b2
  have e3 := (LN.cell zb).trans b3
  have e4 := (LN.cell zb).trans b4
  refine hK.out _ _ (fun _ => ⟨(LN.cell hzW).trans d3, e0, e1, e2, e3, e4⟩) ?_
  clear hK K
  try simp only [Act.put, List.setIfInBounds_toArray, List.set_cons_zero, List.set_cons_succ]
  refine wpAnyZ_one (i := 8) (by kernel_rfl) (ReadyZ.mk rfl (fun K hK => ?_))
  refine step_append_sl rfl (.tmp 18) (.tmp 20) 36 rfl (R - 1) 68 i0 _ 40 Tryz.underlying36 hq hz0 hz1 hz2 rfl (.slice AL hs.length cL) hs.length hs rfl (OW.alloc _) _ 1 1 [(⟨cl, k, -1, h, false⟩ : Flt)] rfl (sl_one _ rfl hx rfl) (by unfold maxLen; omega) (by omega) (Nat.le_trans (by omega) LN.size) ?_
  intro v1 w4 O4 hg4 hbl
  have HR := Lib.hid (H.raised (LD.trans LN) hx O4 hg4 hbl)
  have hneR : some R ≠ (Value.slice AL hs.length cL).ownBlock := fun e => H.hneR e.symm
  have hneb : some w.heap.size ≠ (Value.slice AL hs.length cL).ownBlock := fun e => by have := (H.H.lt _ e.symm).2; omega
  have k2 := hg4.cell (a := ⟨R, 3, none⟩) ((LN.cell hzW).trans d3) hneR
  have k3 : w4.frozen? ⟨R, 3, none⟩ = false := (World.frozen?_of_block (a := ⟨R, 3, none⟩) (hg4.block R (Nat.lt_of_lt_of_le hzW LN.size) hneR)).trans ((LN.frozen hzW).trans g3)
  obtain ⟨A1, q1, rfl⟩ := own_form O4
  refine hK.out _ _ (fun _ => ⟨k2, hg4.cell (a := ⟨w.heap.size, 0, none⟩) e0 hneb, hg4.cell (a := ⟨w.heap.size, 1, none⟩) e1 hneb, hg4.cell (a := ⟨w.heap.size, 2, none⟩) e2 hneb, hg4.cell (a := ⟨w.heap.size, 3, none⟩) e3 hneb, hg4.cell (a := ⟨w.heap.size, 4, none⟩) e4 hneb⟩) ?_
  clear hK K
  try simp only [Act.put, List.setIfInBounds_toArray, List.set_cons_zero, List.set_cons_succ]
  refine wpAnyZ_take (i := 9) (v := ?_) rfl (by kernel_rfl) (fun _ _ _ h => h) (Or.inl ⟨by rfl, ?_⟩) (⟨k2, hg4.cell (a := ⟨w.heap.size, 0, none⟩) e0 hneb, hg4.cell (a := ⟨w.heap.size, 1, none⟩) e1 hneb, hg4.cell (a := ⟨w.heap.size, 2, none⟩) e2 hneb, hg4.cell (a := ⟨w.heap.size, 3, none⟩) e3 hneb, hg4.cell (a := ⟨w.heap.size, 4, none⟩) e4 hneb⟩) ?_
  rotate_left 1
  · (intro w hSw; (try dsimp only at hSw); go_simp; try with_reducible rfl)
  try simp only [Act.put, List.setIfInBounds_toArray, List.set_cons_zero, List.set_cons_succ]
  refine wpAnyZ_take (i := 10) (v := ?_) rfl (by kernel_rfl) (fun _ _ _ h => h) (Or.inl ⟨by rfl, ?_⟩) (⟨k2, hg4.cell (a := ⟨w.heap.size, 0, none⟩) e0 hneb, hg4.cell (a := ⟨w.heap.size, 1, none⟩) e1 hneb, hg4.cell (a := ⟨w.heap.size, 2, none⟩) e2 hneb, hg4.cell (a := ⟨w.heap.size, 3, none⟩) e3 hneb, hg4.cell (a := ⟨w.heap.size, 4, none⟩) e4 hneb⟩) ?_
  rotate_left 1
  · (intro w hSw; (try dsimp only at hSw); go_simp; try with_reducible rfl)
  try simp only [Act.put, List.setIfInBounds_toArray, List.set_cons_zero, List.set_cons_succ]
  refine wpAnyZ_take (i := 11) (v := ?_) rfl (by kernel_rfl) (fun _ _ _ h => h) (Or.inl ⟨by rfl, ?_⟩) (⟨k2, hg4.cell (a := ⟨w.heap.size, 0, none⟩) e0 hneb, hg4.cell (a := ⟨w.heap.size, 1, none⟩) e1 hneb, hg4.cell (a := ⟨w.heap.size, 2, none⟩) e2 hneb, hg4.cell (a := ⟨w.heap.size, 3, none⟩) e3 hneb, hg4.cell (a := ⟨w.heap.size, 4, none⟩) e4 hneb⟩) ?_
  rotate_left 1
  · (intro w hSw; (try dsimp only at hSw); go_simp; try with_reducible rfl)
  try simp only [Act.put, List.setIfInBounds_toArray, List.set_cons_zero, List.set_cons_succ]
  clear O4 hg4 hbl e0 e1 e2 e3 e4 b0 b1 b2 b3 b4 d3 OW LN c3 H
  refine wpAnyZ_one (i := 12) (by kernel_rfl) (ReadyZ.mk rfl (fun K hK => ?_))
  go_simp
  refine hK.out _ _ (fun h => absurd h (by decide)) ?_
  clear hK K
  try simp only [Act.put, List.setIfInBounds_toArray, List.set_cons_zero, List.set_cons_succ]
  refine wpAnyZ_done (by kernel_rfl) ?_ _
  refine NoPanic.normal ?_
  have k4 := HR.out.1.c3
  go_wp2
  exact ⟨rfl, rfl, _, HR.out.1, HR.out.2⟩
/-- a call of the runner that hands back what a block is left with -/
def AtOk (R m c n cap : Nat) (B A : Option Addr) (xs : List Cls) (p : List Lin) (f : FuncId) (args : Array Value) (lv hv : Value) (w : World) (r : Lft × Rst) : Prop :=
  Calls Tryz.prog f args w fun e w' => e = .returned (lfV r.1) ∧ ∃ lv' hv', Rn w' R B m c xs A n cap p lv' hv' r.2.1 r.2.2 ∧ Kp R lv hv lv' hv' w w'
theorem fltR_ok {c k h : Int} (hc : -9223372036854775808 ≤ c ∧ c ≤ 9223372036854775807) (hk : -9223372036854775808 ≤ k ∧ k ≤ 9223372036854775807) (hh : -9223372036854775808 ≤ h ∧ h ≤ 9223372036854775807) : Enc.ok (⟨c, k, -1, h, false⟩ : Flt) :=
  ⟨hc.1, hc.2, hk.1, hk.2, by show (-9223372036854775808 : Int) ≤ -1; omega, by show (-1 : Int) ≤ 9223372036854775807; omega, hh.1, hh.2⟩
set_option maxRecDepth 100000 in
theorem raiseAgain_any (R m c n cap : Nat) (B A : Option Addr) (xs : List Cls) (p : List Lin) (lv hv : Value) (s : Rst) (h : Int) (hh : Hd h s) (hl : s.2.length ≤ 1000000) (w : World) (H : Rn w R B m c xs A n cap p lv hv s.1 s.2) :
    RunOk R m c n cap B A xs p 78 #[.pointer (some ⟨R, 0, none⟩), .int .i64 h] lv hv w (againN h s) := by
  have h0 := hh.1
  have h1 := hh.2
  unfold RunOk againN
  by_cases hn : h < 0
  · rw [if_pos hn]
    go_enter Tryz.func78, Tryz.ntmps78
    go_wp2_with fail
    refine (raise_any R m c n cap B A xs p lv hv s.1 s.2 0 0 h (fltR_ok (by omega) (by omega) (by omega)) hl w H).mono ?_
    rintro e w2 ⟨rfl, hv2, RN, KP⟩
    exact ⟨rfl, rfl, _, _, RN, KP⟩
  · rw [if_neg hn]
    go_enter Tryz.func78, Tryz.ntmps78
    go_wp2
    exact ⟨rfl, rfl, _, _, H, Kp.refl R lv hv w⟩
set_option maxRecDepth 100000 in
theorem attemptBlock_any (R m c n cap : Nat) (B A : Option Addr) (xs : List Cls) (p : List Lin) (x : Nat) (h : Int) (s : Rst) (r : Lft × Rst) (hx : x < p.length) (lv hv : Value) (hp : p.length ≤ 24)
    (HA : ∀ w, Rn w R B m c xs A n cap p lv hv s.1 s.2 → AtOk R m c n cap B A xs p 25 #[.pointer (some ⟨R, 0, none⟩), .int .i64 ((x : Int) + 1), .int .i64 (bEnd p x), .int .i64 h] lv hv w r) (w : World) (H : Rn w R B m c xs A n cap p lv hv s.1 s.2) :
    AtOk R m c n cap B A xs p 93 #[.pointer (some ⟨R, 0, none⟩), .int .i64 x, .int .i64 h] lv hv w r := by
  have c1 := H.c1
  have hz := H.z
  unfold AtOk
  go_enter Tryz.func93, Tryz.ntmps93
  go_wp2_with fail
  refine (iBlockEnd_any A n cap p x hx w H.T).mono ?_
  rintro e w2 ⟨rfl, hle⟩
  go_wp2_with fail
  refine (show Calls _ _ _ _ _ from HA w2 (H.le hle)).mono ?_
  rintro e w3 ⟨rfl, lv3, hv3, RN, KP⟩
  have HR := Lib.hid (And.intro RN ((Kp.of_le R lv hv hle).trans KP))
  go_wp2
  go_ret
  exact ⟨rfl, _, _, HR.out.1, HR.out.2⟩
set_option maxHeartbeats 2000000 in
set_option maxRecDepth 100000 in
theorem exceptFor_any (R m c n cap : Nat) (B A : Option Addr) (xs : List Cls) (p : List Lin) (lv hv : Value) (s : Rst) (i : Nat) (f : Int) (g : GoodP xs p) (hi : i < p.length) (h7 : knd p i = 7) (gd : Gd xs s.2) (h0 : 0 ≤ f) (h1 : f < (s.2.length : Int)) (w : World) (H : Rn w R B m c xs A n cap p lv hv s.1 s.2) :
    Calls Tryz.prog 95 #[.pointer (some ⟨R, 0, none⟩), .int .i64 i, .int .i64 f] w fun e w' => e = .returned (.int .i64 (ctE xs p (clsF s f) (exL p i))) ∧ Le w w' := by
  obtain ⟨f, rfl⟩ := Int.eq_ofNat_of_zero_le h0
  have hf : f < s.2.length := by omega
  have hcl : clsF s f = s.2[f].cls := by unfold clsF; rw [show (f : Int).toNat = f by omega, List.getElem?_eq_getElem hf]
  have hk := (gd f hf).1
  have c1 := H.c1
  have hz := H.z
  have hp := g.len
  obtain rfl := H.T.len
  have hell : (exL p i).length ≤ p.length + 1 := Nat.le_trans (exF_len _ _) (parts_len p i)
  have HF1 : Hid (firstX xs (clL p i) (clsF s f) = firstC xs ((exL p i).map (lnA p)) (clsF s f) 0) := by show _ = _; rw [firstX_of (t := true) (by rw [good_exc g hi h7, hcl, hk]; rfl)]; rfl
  go_enter Tryz.func95, Tryz.ntmps95
  go_wp2_with fail
  refine (exceptsOf_any A p.length cap p i hi (by omega) w H.T).mono ?_
  rintro e w3 ⟨v3, u3, rfl, D3, D4, hle3⟩
  obtain ⟨A3, q3, rfl, S3, -⟩ := D3.form (by decide)
  obtain ⟨A4, q4, rfl, S4, -⟩ := D4.form (by decide)
  have H3 := H.le hle3
  have t0 := H3.c0
  have t3 := H3.c3
  have z3 := H3.z
  obtain ⟨AL, cL, rfl⟩ := own_form H3.H
  have SH := Sl.of_own H3.H rfl (by decide) H3.okh
  rw [nI_len] at S3 ⊢
  generalize clL p i = cC at *
  have HE : Hid (∀ z, ctE xs p s.2[f].cls (exL p i) = z → ctE xs p (clsF s f) (exL p (id i)) = z) := fun z hz => by rw [hcl]; exact hz
  generalize exL p i = eL at *
  obtain ⟨b7, off7, rfl, hb7, c7, -⟩ := SH.flt_at hf
  rw [hcl] at HF1
  generalize s.2[f].cls = cl at *
  have hca : ∀ (gg : Ext w3) (_ : True), Calls Tryz.prog 42 #[.agg #[.slice B m c], .slice A4 cC.length q4, .int .i64 cl] (w3.ext gg) fun e w' => e = .returned (.int .i64 (firstX xs cC cl)) ∧ Le (w3.ext gg) w' := fun gg _ => iFirstCatch_any B A4 m c _ q4 xs cC cl _ (H3.S.le (Le.ext w3 gg)) (S4.le (Le.ext w3 gg))
  have E0 := cell_ext z3 t0
  have E3 := cell_ext z3 t3
  have E7 := cell_ext hb7 c7
  clear D3 D4 t0 t3 c7 S4 SH H H3 c1 hcl hk gd
  go_wp2_with fail
  refine wp_region_ext (by kernel_rfl) (by kernel_rfl) ?_
  repeat (go_big_quiet_step (first | (go_at_call 42; exact Calls.ext_of (hca _ trivial))))
  refine wpQuiet_nil ?_
  intro _ hw'
  obtain ⟨gg, rfl⟩ := hw'
  have hle4 := Le.ext w3 gg
  have L4 := hle3.trans hle4
  have S5 := S3.le hle4
  generalize w3.ext gg = w4 at *
  clear hca E0 E3 E7
  rw [HF1.out]
  clear HF1
  rcases ct_two xs p cl eL 0 with ⟨h1, h2⟩ | ⟨r, hr, h1, h2⟩
  · have h1' : firstC xs (eL.map (lnA p)) cl 0 = -1 := h1
    have HF := Lib.hid (HE.out _ h2)
    rw [h1']
    clear h1 h1' h2
    go_wp2
    go_ret
    exact ⟨ret_int HF.out.symm, L4⟩
  · have h1' : firstC xs (eL.map (lnA p)) cl 0 = (r : Int) := by rw [show (0 : Int) = ((0 : Nat) : Int) from rfl, h1]; omega
    have HF := Lib.hid (HE.out _ h2)
    rw [h1']
    obtain ⟨b8, off8, rfl, hb8, c8, -⟩ := S5.int_at (k := r) (by rw [nI_len]; exact hr)
    rw [nI_at hr] at c8
    generalize eL[r] = z at *
    have hr0 : (0 : Int) ≤ (r : Int) := by omega
    have hrn : (r : Int) < (eL.length : Int) := by omega
    have hrb : decide ((r : Int) < (0 : Int)) = false := decide_eq_false (by omega)
    clear h1 h1' h2
    go_wp2
    go_ret
    exact ⟨ret_int HF.out.symm, L4⟩
end

section
def prtI (o : Option Nat) : Int := match o with | some x => (x : Int) | none => -1
theorem prtG_at {p : List Lin} {K : Int} {L : List Nat} {q : Nat} (h : q < L.length) : prtG p K (L.drop q) = if knd p L[q] = K then some L[q] else prtG p K (L.drop (q + 1)) := by rw [List.drop_eq_getElem_cons h]; rfl
theorem prtG_end {p : List Lin} {K : Int} {L : List Nat} {q : Nat} (h : ¬ q < L.length) : prtG p K (L.drop q) = none := by rw [List.drop_eq_nil_of_le (by omega)]; rfl
set_option maxHeartbeats 1000000 in
set_option maxRecDepth 100000 in
theorem partOf_any (A : Option Addr) (n cap : Nat) (p : List Lin) (i : Nat) (K : Int) (hi : i < p.length) (hp : p.length ≤ 24) (w : World) (hR : Sl w A n cap p) :
    Calls Tryz.prog 94 #[.slice A n cap, .int .i64 i, .int .i64 K] w fun e w' => e = .returned (.int .i64 (prtI (prt p i K))) ∧ Le w w' := by
  obtain rfl := hR.len
  have HX : Hid (prt p i K = prtG p K (parts p i)) := rfl
  have HL := Lib.hid (parts_lt hi)
  have hpl := parts_len p i
  go_enter Tryz.func94, Tryz.ntmps94
  go_wp2_with fail
  refine (partsOf_any A p.length cap p i hi (by omega) w hR).mono ?_
  rintro e w2 ⟨v, rfl, D, hle2⟩
  obtain ⟨A2, q2, rfl, S2, -⟩ := D.form (by decide)
  have R2 := hR.le hle2
  rw [nI_len] at S2 ⊢
  generalize parts p i = E at *
  clear D hR
  go_wp2
  go_loopw [13] (fun q wr => ∃ j : Nat, j ≤ E.length ∧ q = .int .i64 j ∧ prtG p K E = prtG p K (E.drop j) ∧ Le w2 wr) (fun q _ => E.length - (intOf q).toNat)
  case atStart => exact ⟨0, Nat.zero_le _, rfl, rfl, Le.refl _⟩
  case round =>
    obtain ⟨j, hj, rfl, hr, hle⟩ := hrel
    have HR := Lib.hid hr
    clear hr
    have S := S2.le hle
    have R := R2.le hle
    clear S2 R2
    by_cases hl : j < E.length
    · obtain ⟨b, off, rfl, hb5, hcell, -⟩ := S.int_at (k := j) (by rw [nI_len]; exact hl)
      rw [nI_at hl] at hcell
      have hx := HL.out E[j] (List.getElem_mem hl)
      have HA := Lib.hid (prtG_at (p := p) (K := K) hl)
      generalize E[j] = x at *
      obtain ⟨b2, off2, rfl, hb6, d0, d1, d2, d3, -⟩ := R.lin_at hx
      have HK := Lib.hid (knd_at hx)
      have hx0 : (0 : Int) ≤ (x : Int) := by omega
      have hxn : (x : Int) < (p.length : Int) := by omega
      have hj0 : (0 : Int) ≤ (j : Int) := by omega
      have hjn : (j : Int) < (E.length : Int) := by omega
      generalize p[x].kind = vk at *
      by_cases hk : vk = K
      · have hkb : decide (vk = K) = true := decide_eq_true hk
        have HF : Hid ((x : Int) = prtI (prt p i K)) := by show _ = _; rw [HX.out, HR.out, HA.out, if_pos (HK.out.trans hk)]; rfl
        clear HX HR HA
        go_wp2
        go_ret
        exact ⟨ret_int HF.out, hle2.trans hle⟩
      · have hkb : decide (vk = K) = false := decide_eq_false hk
        have HF : Hid (prtG p K E = prtG p K (E.drop (j + 1))) := by show _ = _; rw [HR.out, HA.out, if_neg (fun e => hk (HK.out.symm.trans e))]
        clear HR HA
        go_wp2
        go_roundw
        case rel => exact ⟨j + 1, by omega, by go_num, HF.out, hle⟩
        case measure => simp [intOf]; omega
    · have HF : Hid ((-1 : Int) = prtI (prt p i K)) := by show _ = _; rw [HX.out, HR.out, prtG_end hl]; rfl
      go_wp2
      go_ret
      exact ⟨ret_int HF.out, hle2.trans hle⟩
/-- what is asked of what a block is left with -/
theorem ret_val {a b : Value} (h : a = b) : Ending.returned a = .returned b := by rw [h]
def raiF : Lft → Int
  | .rai f => f
  | _ => 0
def retF : Lft → Int
  | .ret v => v
  | _ => 0
def isRai : Lft → Bool
  | .rai _ => true
  | _ => false
def isRet : Lft → Bool
  | .ret _ => true
  | _ => false
def isBrk : Lft → Bool
  | .brk => true
  | _ => false
def isCnt : Lft → Bool
  | .cnt => true
  | _ => false
def isNil : Lft → Bool
  | .nil => true
  | _ => false
theorem ta_rai (l : Lft) (w : World) : (Instr.typeAssert (lfV l) 20 86 true).run Tryz.prog w = .ok (.tuple #[.agg #[.int .i64 (raiF l)], .bool (isRai l)]) w := by
  cases l <;> kernel_rfl
theorem ta_ret (l : Lft) (w : World) : (Instr.typeAssert (lfV l) 20 84 true).run Tryz.prog w = .ok (.tuple #[.agg #[.int .i64 (retF l)], .bool (isRet l)]) w := by
  cases l <;> kernel_rfl
theorem ta_brk (l : Lft) (w : World) : (Instr.typeAssert (lfV l) 20 115 true).run Tryz.prog w = .ok (.tuple #[.agg #[], .bool (isBrk l)]) w := by
  cases l <;> kernel_rfl
theorem ta_cnt (l : Lft) (w : World) : (Instr.typeAssert (lfV l) 20 116 true).run Tryz.prog w = .ok (.tuple #[.agg #[], .bool (isCnt l)]) w := by
  cases l <;> kernel_rfl
theorem neq_lf (l : Lft) (w : World) : (binOp .neq 20 (lfV l) .nilIface).run Tryz.prog w = .ok (.bool (!(isNil l))) w := by
  cases l
  case nil => exact neq_nil w
  all_goals exact neq_any _ _ w
theorem eql_lf (l : Lft) (w : World) : (binOp .eql 20 (lfV l) .nilIface).run Tryz.prog w = .ok (.bool (isNil l)) w := by
  cases l
  case nil => exact eql_nil w
  all_goals exact eql_any _ _ w
/-- what is told and raised is not too much -/
def Sm (s : Rst) : Prop := s.1.length ≤ 1000000 ∧ s.2.length ≤ 1000000
theorem Fw.sm {xs : List Cls} {s : Rst} {r : Lft × Rst} (F : Fw xs s r) (h : Sm r.2) : Sm s := ⟨Nat.le_trans F.lg h.1, Nat.le_trans F.hs h.2⟩
/-- the blocks of lines are run so -/
def BlOk (R m c n cap : Nat) (B A : Option Addr) (xs : List Cls) (p : List Lin) (blk : Bls) (C : Nat → Prop) : Prop :=
  ∀ (x : Nat) (h : Int) (s : Rst) (lv hv : Value) (w : World), x < p.length → C x → Gd xs s.2 → Hd h s → Sm (blk x h s).2 → Rn w R B m c xs A n cap p lv hv s.1 s.2 → AtOk R m c n cap B A xs p 93 #[.pointer (some ⟨R, 0, none⟩), .int .i64 x, .int .i64 h] lv hv w (blk x h s)
theorem eg_neq (l : Lft) (o : Nat) (w : World) : (eqGuard .neq 20 (.tmp o) (.const .nilIface) (lfV l) .nilIface).run Tryz.prog w = .ok () w := by
  cases l <;> rfl
theorem eg_eql (l : Lft) (o : Nat) (w : World) : (eqGuard .eql 20 (.tmp o) (.const .nilIface) (lfV l) .nilIface).run Tryz.prog w = .ok () w := by
  cases l <;> rfl
set_option maxHeartbeats 1000000 in
set_option maxRecDepth 100000 in
theorem attemptLast_any (R m c n cap : Nat) (B A : Option Addr) (xs : List Cls) (p : List Lin) (blk : Bls) (C : Nat → Prop) (HB : BlOk R m c n cap B A xs p blk C) (x : Nat) (hx : x < p.length) (hC : C x) (h : Int) (l : Lft) (s : Rst) (gd : Gd xs s.2) (hh : Hd (hdN h l) s) (hsm : Sm (blk x (hdN h l) s).2) (lv hv : Value) (w : World) (H : Rn w R B m c xs A n cap p lv hv s.1 s.2) :
    AtOk R m c n cap B A xs p 96 #[.pointer (some ⟨R, 0, none⟩), .int .i64 x, .int .i64 h, lfV l] lv hv w (lasN blk x h (l, s)) := by
  have q1 := ta_rai l
  have q2 := neq_lf
  have q4 := eg_neq
  have HBx : ∀ w2 f, hdN h l = f → Rn w2 R B m c xs A n cap p lv hv s.1 s.2 → AtOk R m c n cap B A xs p 93 #[.pointer (some ⟨R, 0, none⟩), .int .i64 x, .int .i64 f] lv hv w2 (blk x (hdN h l) s) := fun w2 f e H2 => e ▸ HB x _ s lv hv w2 hx hC gd hh hsm H2
  have HX : Hid (lasN blk x h (l, s) = (orElseL l (blk x (hdN h l) s).1, (blk x (hdN h l) s).2)) := rfl
  have HF1 : Hid (isRai l = true → hdN h l = raiF l) := by show _ → _; cases l <;> first | (intro e; cases e; done) | (intro _; rfl)
  have HF2 : Hid (isRai l = false → hdN h l = h) := by show _ → _; cases l <;> first | (intro e; cases e; done) | (intro _; rfl)
  clear HB hh hsm
  generalize blk x (hdN h l) s = q at *
  generalize hdN h l = hd at *
  generalize lasN blk x h (l, s) = z at *
  obtain rfl := HX.out
  clear HX
  rcases q with ⟨l2, s2⟩
  have HL1 : Hid (isNil l2 = true → orElseL l l2 = l) := by show _ → _; cases l2 <;> first | (intro e; cases e; done) | (intro _; rfl)
  have HL2 : Hid (isNil l2 = false → orElseL l l2 = l2) := by show _ → _; cases l2 <;> first | (intro e; cases e; done) | (intro _; rfl)
  generalize isRai l = ri at *
  generalize raiF l = rf at *
  unfold AtOk
  show Calls _ _ _ _ _
  generalize orElseL l l2 = l3 at *
  obtain ⟨vl, hvl⟩ : ∃ v, lfV l = v := ⟨_, rfl⟩
  have HVL := Lib.hid hvl
  rw [hvl] at q1 ⊢
  clear hvl
  go_enter Tryz.func96, Tryz.ntmps96
  cases ri
  · go_wp2_with fail
    refine (show Calls _ _ _ _ _ from HBx _ h (HF2.out (by trivial)) (H.le (Le.new w _))).mono ?_
    rintro e w2 ⟨rfl, lv2, hv2, RN, KP⟩
    have HR := Lib.hid (And.intro RN ((Kp.of_le R lv hv (Le.new w (.cells #[.int .i64 rf] 86))).trans KP))
    clear RN KP HBx
    have q3 := q2 l2
    clear q2
    have HV : Hid (isNil l2 = true → lfV l3 = vl) := fun e => by rw [HL1.out e]; exact HVL.out
    have HW : Hid (isNil l2 = false → lfV l3 = lfV l2) := fun e => by rw [HL2.out e]
    clear HL1 HL2
    generalize isNil l2 = nl at *
    cases nl
    · simp only [Bool.not_false] at q3
      go_wp2
      go_ret
      exact ⟨ret_val (HW.out (by trivial)).symm, _, _, HR.out.1, HR.out.2⟩
    · simp only [Bool.not_true] at q3
      go_wp2
      go_ret
      exact ⟨ret_val (HV.out (by trivial)).symm, _, _, HR.out.1, HR.out.2⟩
  · go_wp2_with fail
    refine (show Calls _ _ _ _ _ from HBx _ rf (HF1.out (by trivial)) (H.le (Le.new w _))).mono ?_
    rintro e w2 ⟨rfl, lv2, hv2, RN, KP⟩
    have HR := Lib.hid (And.intro RN ((Kp.of_le R lv hv (Le.new w (.cells #[.int .i64 rf] 86))).trans KP))
    clear RN KP HBx
    have q3 := q2 l2
    clear q2
    have HV : Hid (isNil l2 = true → lfV l3 = vl) := fun e => by rw [HL1.out e]; exact HVL.out
    have HW : Hid (isNil l2 = false → lfV l3 = lfV l2) := fun e => by rw [HL2.out e]
    clear HL1 HL2
    generalize isNil l2 = nl at *
    cases nl
    · simp only [Bool.not_false] at q3
      go_wp2
      go_ret
      exact ⟨ret_val (HW.out (by trivial)).symm, _, _, HR.out.1, HR.out.2⟩
    · simp only [Bool.not_true] at q3
      go_wp2
      go_ret
      exact ⟨ret_val (HV.out (by trivial)).symm, _, _, HR.out.1, HR.out.2⟩
end
end Go.Proofs.YtgjlmfjmjglplaaGreat
