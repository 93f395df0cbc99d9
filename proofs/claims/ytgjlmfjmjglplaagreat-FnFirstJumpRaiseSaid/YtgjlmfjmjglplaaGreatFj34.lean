/- one text of RnJ -/
import Derived.Test.YtgjlmfjmjglplaaGreatFj28
import Derived.Test.YtgjlmfjmjglplaaGreatFj33
namespace Go.Proofs.YtgjlmfjmjglplaaGreat
open Go.RowKit
set_option linter.unusedVariables false
section
theorem Gd.lnk {xs : List Cls} {hs : List Flt} (g : Gd xs hs) : Lnk hs :=
  ⟨fun i h => by have := g i h; omega, fun i h => by have := g i h; omega, fun i h => by have := g i h; omega⟩
/-- how a run ends: the number of the end, the value, the faults -/
def resE : Lft → Int
  | .ret _ => 1
  | .rai _ => 2
  | _ => 0
def resV (hs : List Flt) : Lft → Int
  | .ret v => v
  | .rai f => idx (reachL hs f) f 0
  | _ => 0
def resH (hs : List Flt) : Lft → List Flt
  | .rai f => isoL hs (reachL hs f)
  | _ => []
/-- a result in new memory of its own -/
def ResOut (w : World) (lg : List Int) (hs : List Flt) (en va : Int) (e : Ending) (w' : World) : Prop :=
  ∃ lv hv, e = .returned (.agg #[lv, .int .i64 en, .int .i64 va, hv]) ∧ Owd 3 w w' lv lg ∧ Owd 68 w w' hv hs ∧ Apart lv hv ∧ Le w w'
theorem hpn {w : World} {o : Obj} {b : Nat} (h : b = w.heap.size) : (w.alloc o).heap[b]? = some o := hp_new w o h
theorem frz_row {w : World} {b k : Nat} {cs : Array Value} {T : TypeId} (h : w.heap[b]? = some (.cells cs T)) : w.frozen? ⟨b, k, none⟩ = false := by simp [World.frozen?, h]
theorem frz_set (w : World) (b o g k : Nat) (u : Value) : (w.setCell ⟨b, o, none⟩ u).frozen? ⟨g, k, none⟩ = w.frozen? ⟨g, k, none⟩ := by first | exact World.frozen?_setCell .. | simp [World.frozen?, World.setCell]
theorem cells4 {w : World} {b : Nat} {a0 a1 a2 a3 : Value} {T : TypeId} (h : w.heap[b]? = some (.cells #[a0, a1, a2, a3] T)) : w.cell? ⟨b, 0, none⟩ = some a0 ∧ w.cell? ⟨b, 1, none⟩ = some a1 ∧ w.cell? ⟨b, 2, none⟩ = some a2 ∧ w.cell? ⟨b, 3, none⟩ = some a3 :=
  ⟨cell_of_row w b 0 _ T _ h, cell_of_row w b 1 _ T _ h, cell_of_row w b 2 _ T _ h, cell_of_row w b 3 _ T _ h⟩
theorem Owd.setO {α : Type} [Enc α] {T : TypeId} {w0 w : World} {v : Value} {xs : List α} {g o : Nat} {u : Value} (h : Owd T w0 w v xs) (hn : v.ownBlock ≠ some g) : Owd T w0 (w.setCell ⟨g, o, none⟩ u) v xs := ⟨h.row.kept (grown_set w g o u) (.inr hn), h.ok⟩
/-- what is stored into the four cells of a result lies there -/
theorem out4 {W : World} {g : Nat} {a b c d o0 o1 o2 o3 : Value} (h0 : W.cell? ⟨g, 0, none⟩ = some o0) (h1 : W.cell? ⟨g, 1, none⟩ = some o1) (h2 : W.cell? ⟨g, 2, none⟩ = some o2) (h3 : W.cell? ⟨g, 3, none⟩ = some o3) :
    ((((W.setCell ⟨g, 0, none⟩ a).setCell ⟨g, 1, none⟩ b).setCell ⟨g, 2, none⟩ c).setCell ⟨g, 3, none⟩ d).cell? ⟨g, 0, none⟩ = some a ∧ ((((W.setCell ⟨g, 0, none⟩ a).setCell ⟨g, 1, none⟩ b).setCell ⟨g, 2, none⟩ c).setCell ⟨g, 3, none⟩ d).cell? ⟨g, 1, none⟩ = some b ∧
    ((((W.setCell ⟨g, 0, none⟩ a).setCell ⟨g, 1, none⟩ b).setCell ⟨g, 2, none⟩ c).setCell ⟨g, 3, none⟩ d).cell? ⟨g, 2, none⟩ = some c ∧ ((((W.setCell ⟨g, 0, none⟩ a).setCell ⟨g, 1, none⟩ b).setCell ⟨g, 2, none⟩ c).setCell ⟨g, 3, none⟩ d).cell? ⟨g, 3, none⟩ = some d := by
  refine ⟨?_, ?_, ?_, ?_⟩
  · rw [cell_set_other (.inr (by decide)), cell_set_other (.inr (by decide)), cell_set_other (.inr (by decide))]; exact cell_set_same h0
  · rw [cell_set_other (.inr (by decide)), cell_set_other (.inr (by decide))]; exact cell_set_same ((cell_set_other (.inr (by decide))).trans h1)
  · rw [cell_set_other (.inr (by decide))]; exact cell_set_same ((cell_set_other (.inr (by decide))).trans ((cell_set_other (.inr (by decide))).trans h2))
  · exact cell_set_same ((cell_set_other (.inr (by decide))).trans ((cell_set_other (.inr (by decide))).trans ((cell_set_other (.inr (by decide))).trans h3)))
set_option maxHeartbeats 2000000 in
set_option maxRecDepth 100000 in
theorem result_any (R m c n cap : Nat) (B A : Option Addr) (xs : List Cls) (p : List Lin) (lv hv : Value) (l : Lft) (s : Rst) (gd : Gd xs s.2) (hf : ∀ f, l = .rai f → 0 ≤ f ∧ f < (s.2.length : Int)) (hsm : Sm s) (w : World) (H : Rn w R B m c xs A n cap p lv hv s.1 s.2) :
    Calls Tryz.prog 24 #[.pointer (some ⟨R, 0, none⟩), lfV l] w fun e w' => ∃ hv', e = .returned (.agg #[lv, .int .i64 (resE l), .int .i64 (resV s.2 l), hv']) ∧ Owd 68 w w' hv' (resH s.2 l) ∧ Le w w' := by
  have c2 := H.c2
  have c3 := H.c3
  have hz := H.z
  have q1 := ta_ret l
  have q2 := ta_rai l
  obtain ⟨AL, cL, rfl⟩ := own_form H.O
  obtain ⟨AH, cH, rfl⟩ := own_form H.H
  rcases l with _ | v | f | _ | _
  · simp only [isRet, retF, isRai, raiF] at q1 q2
    go_enter Tryz.func24, Tryz.ntmps24
    go_wp2
    obtain ⟨z0, z1, z2, z3⟩ := cells4 (((Le.new (w.alloc (.cells #[.slice AL s.1.length cL, .int .i64 0, .int .i64 0, .slice none 0 0] 40)) (.cells #[.slice AL s.1.length cL, .int .i64 0, .int .i64 0, .slice none 0 0] 40)).block w.heap.size (by simp)).trans (hpn (w := w) (o := .cells #[.slice AL s.1.length cL, .int .i64 0, .int .i64 0, .slice none 0 0] 40) rfl))
    exact bodyPost_ret (v := .agg #[.slice AL s.1.length cL, .int .i64 0, .int .i64 0, .slice none 0 0]) (by simp [results, Tryz.results24, go_sem, z0, z1, z2, z3]) rfl ⟨_, rfl, Owd.nil _ _ _, ((Le.refl w).alloc _).alloc _⟩
  · simp only [isRet, retF, isRai, raiF] at q1 q2
    go_enter Tryz.func24, Tryz.ntmps24
    go_wp2
    have L1 := Le.new (w.alloc (.cells #[.slice none 0 0, .int .i64 0, .int .i64 0, .slice none 0 0] 40)) (.cells #[.slice AL s.1.length cL, .int .i64 0, .int .i64 0, .slice none 0 0] 40)
    have L2 := Le.new ((w.alloc (.cells #[.slice none 0 0, .int .i64 0, .int .i64 0, .slice none 0 0] 40)).alloc (.cells #[.slice AL s.1.length cL, .int .i64 0, .int .i64 0, .slice none 0 0] 40)) (.cells #[.int .i64 v] 84)
    have R0 := ((L1.trans L2).drew.block w.heap.size (by simp)).trans (hpn (w := w) rfl)
    have R1 := (L2.drew.block (w.heap.size + 1) (by simp)).trans (hpn (w := w.alloc (.cells #[.slice none 0 0, .int .i64 0, .int .i64 0, .slice none 0 0] 40)) (by simp))
    have R2 : (((w.alloc (.cells #[.slice none 0 0, .int .i64 0, .int .i64 0, .slice none 0 0] 40)).alloc (.cells #[.slice AL s.1.length cL, .int .i64 0, .int .i64 0, .slice none 0 0] 40)).alloc (.cells #[.int .i64 v] 84)).drew.heap[w.heap.size + 1 + 1]? = _ := hpn (w := (w.alloc (.cells #[.slice none 0 0, .int .i64 0, .int .i64 0, .slice none 0 0] 40)).alloc (.cells #[.slice AL s.1.length cL, .int .i64 0, .int .i64 0, .slice none 0 0] 40)) (by simp)
    have LW := ((Le.new w (.cells #[.slice none 0 0, .int .i64 0, .int .i64 0, .slice none 0 0] 40)).trans (L1.trans L2)).drew
    have hzW : w.heap.size + 1 + 1 < (((w.alloc (.cells #[.slice none 0 0, .int .i64 0, .int .i64 0, .slice none 0 0] 40)).alloc (.cells #[.slice AL s.1.length cL, .int .i64 0, .int .i64 0, .slice none 0 0] 40)).alloc (.cells #[.int .i64 v] 84)).drew.heap.size := by show _ < (World.alloc _ _).heap.size; simp
    clear L1 L2
    refine wp_region_Z (fun w' => w'.cell? ⟨w.heap.size + 1 + 1, 0, none⟩ = some (.int .i64 v)) [] (by kernel_rfl) ?_
    generalize (((w.alloc (.cells #[.slice none 0 0, .int .i64 0, .int .i64 0, .slice none 0 0] 40)).alloc (.cells #[.slice AL s.1.length cL, .int .i64 0, .int .i64 0, .slice none 0 0] 40)).alloc (.cells #[.int .i64 v] 84)).drew = W at *
    obtain ⟨r0, r1, r2, r3⟩ := cells4 R0
    have fr := fun k => frz_row (k := k) R0
    obtain ⟨k0, k1, k2, k3⟩ := cells4 R1
    have fk := fun k => frz_row (k := k) R1
    have x6 : W.cell? ⟨w.heap.size + 1 + 1, 0, none⟩ = some (.int .i64 v) := cell_of_row W _ 0 _ _ _ R2
    clear R0 R1 R2
    refine wpAnyZ_take (i := 0) (v := ?_) rfl (by kernel_rfl) (fun _ _ _ h => h) (Or.inl ⟨by rfl, ?_⟩) (x6) ?_
    rotate_left 1
    · (intro w hSw; (try dsimp only at hSw); go_simp; try with_reducible rfl)
    try simp only [Act.put, List.setIfInBounds_toArray, List.set_cons_zero, List.set_cons_succ]
    refine wpAnyZ_take (i := 1) (v := ?_) rfl (by kernel_rfl) (fun _ _ _ h => h) (Or.inl ⟨by rfl, ?_⟩) (x6) ?_
    rotate_left 1
    · (intro w hSw; (try dsimp only at hSw); go_simp; try with_reducible rfl)
    try simp only [Act.put, List.setIfInBounds_toArray, List.set_cons_zero, List.set_cons_succ]
    refine wpAnyZ_take (i := 2) (v := ?_) rfl (by kernel_rfl) (fun _ _ _ h => h) (Or.inl ⟨by rfl, ?_⟩) (x6) ?_
    rotate_left 1
    · (intro w hSw; (try dsimp only at hSw); go_simp; try with_reducible rfl)
    try simp only [Act.put, List.setIfInBounds_toArray, List.set_cons_zero, List.set_cons_succ]
    refine wpAnyZ_one (i := 3) (by kernel_rfl) (ReadyZ.mk rfl (fun K hK => ?_))
    have f1 := fk 1
    go_simp
    have y6 : (W.setCell ⟨w.heap.size + 1, 1, none⟩ (.int .i64 1)).cell? ⟨w.heap.size + 1 + 1, 0, none⟩ = some (.int .i64 v) := (cell_set_other (.inl (by show w.heap.size + 1 ≠ w.heap.size + 1 + 1; omega))).trans x6
    refine hK.out _ _ (fun _ => y6) ?_
    clear hK K
    try simp only [Act.put, List.setIfInBounds_toArray, List.set_cons_zero, List.set_cons_succ]
    refine wpAnyZ_take (i := 4) (v := ?_) rfl (by kernel_rfl) (fun _ _ _ h => h) (Or.inl ⟨by rfl, ?_⟩) (y6) ?_
    rotate_left 1
    · (intro w hSw; (try dsimp only at hSw); go_simp; try with_reducible rfl)
    try simp only [Act.put, List.setIfInBounds_toArray, List.set_cons_zero, List.set_cons_succ]
    refine wpAnyZ_one (i := 5) (by kernel_rfl) (ReadyZ.mk rfl (fun K hK => ?_))
    have f2 : (W.setCell ⟨w.heap.size + 1, 1, none⟩ (.int .i64 1)).frozen? ⟨w.heap.size + 1, 2, none⟩ = false := (fr_set _ _ _ _ _).trans (fk 2)
    have k2b : (W.setCell ⟨w.heap.size + 1, 1, none⟩ (.int .i64 1)).cell? ⟨w.heap.size + 1, 2, none⟩ = some (.int .i64 0) := (cell_set_other (.inr (by decide))).trans k2
    go_simp
    have y7 : ((W.setCell ⟨w.heap.size + 1, 1, none⟩ (.int .i64 1)).setCell ⟨w.heap.size + 1, 2, none⟩ (.int .i64 v)).cell? ⟨w.heap.size + 1 + 1, 0, none⟩ = some (.int .i64 v) := (cell_set_other (.inl (by show w.heap.size + 1 ≠ w.heap.size + 1 + 1; omega))).trans y6
    refine hK.out _ _ (fun _ => y7) ?_
    clear hK K
    try simp only [Act.put, List.setIfInBounds_toArray, List.set_cons_zero, List.set_cons_succ]
    refine wpAnyZ_done (by kernel_rfl) ?_ _
    have k0b : ((W.setCell ⟨w.heap.size + 1, 1, none⟩ (.int .i64 1)).setCell ⟨w.heap.size + 1, 2, none⟩ (.int .i64 v)).cell? ⟨w.heap.size + 1, 0, none⟩ = some (.slice AL s.1.length cL) := (cell_set_other (.inr (by decide))).trans ((cell_set_other (.inr (by decide))).trans k0)
    have k1b : ((W.setCell ⟨w.heap.size + 1, 1, none⟩ (.int .i64 1)).setCell ⟨w.heap.size + 1, 2, none⟩ (.int .i64 v)).cell? ⟨w.heap.size + 1, 1, none⟩ = some (.int .i64 1) := (cell_set_other (.inr (by decide))).trans (cell_set_same k1)
    have k2c : ((W.setCell ⟨w.heap.size + 1, 1, none⟩ (.int .i64 1)).setCell ⟨w.heap.size + 1, 2, none⟩ (.int .i64 v)).cell? ⟨w.heap.size + 1, 2, none⟩ = some (.int .i64 v) := cell_set_same k2b
    have k3b : ((W.setCell ⟨w.heap.size + 1, 1, none⟩ (.int .i64 1)).setCell ⟨w.heap.size + 1, 2, none⟩ (.int .i64 v)).cell? ⟨w.heap.size + 1, 3, none⟩ = some (.slice none 0 0) := (cell_set_other (.inr (by decide))).trans ((cell_set_other (.inr (by decide))).trans k3)
    have hne : w.heap.size + 1 ≠ w.heap.size := by omega
    have s0 : ((W.setCell ⟨w.heap.size + 1, 1, none⟩ (.int .i64 1)).setCell ⟨w.heap.size + 1, 2, none⟩ (.int .i64 v)).cell? ⟨w.heap.size, 0, none⟩ = some (.slice none 0 0) := (cell_set_other (.inl hne)).trans ((cell_set_other (.inl hne)).trans r0)
    have s1 : ((W.setCell ⟨w.heap.size + 1, 1, none⟩ (.int .i64 1)).setCell ⟨w.heap.size + 1, 2, none⟩ (.int .i64 v)).cell? ⟨w.heap.size, 1, none⟩ = some (.int .i64 0) := (cell_set_other (.inl hne)).trans ((cell_set_other (.inl hne)).trans r1)
    have s2 : ((W.setCell ⟨w.heap.size + 1, 1, none⟩ (.int .i64 1)).setCell ⟨w.heap.size + 1, 2, none⟩ (.int .i64 v)).cell? ⟨w.heap.size, 2, none⟩ = some (.int .i64 0) := (cell_set_other (.inl hne)).trans ((cell_set_other (.inl hne)).trans r2)
    have s3 : ((W.setCell ⟨w.heap.size + 1, 1, none⟩ (.int .i64 1)).setCell ⟨w.heap.size + 1, 2, none⟩ (.int .i64 v)).cell? ⟨w.heap.size, 3, none⟩ = some (.slice none 0 0) := (cell_set_other (.inl hne)).trans ((cell_set_other (.inl hne)).trans r3)
    have fs : ∀ k, ((W.setCell ⟨w.heap.size + 1, 1, none⟩ (.int .i64 1)).setCell ⟨w.heap.size + 1, 2, none⟩ (.int .i64 v)).frozen? ⟨w.heap.size, k, none⟩ = false := fun k => (frz_set _ _ _ _ _ _).trans ((frz_set _ _ _ _ _ _).trans (fr k))
    have L5 := (LW.setCell (b := w.heap.size + 1) (o := 1) (by omega) (.int .i64 1)).setCell (b := w.heap.size + 1) (o := 2) (by omega) (.int .i64 v)
    generalize (W.setCell ⟨w.heap.size + 1, 1, none⟩ (.int .i64 1)).setCell ⟨w.heap.size + 1, 2, none⟩ (.int .i64 v) = W5 at *
    have f0 := fs 0
    have f1 := fs 1
    have f2 := fs 2
    have f3 := fs 3
    have ho := out4 (a := .slice AL s.1.length cL) (b := .int .i64 1) (c := .int .i64 v) (d := .slice none 0 0) s0 s1 s2 s3
    clear y6 y7 x6 k0 k1 k2 k3 k2b r0 r1 r2 r3
    go_wp2
    obtain ⟨z0, z1, z2, z3⟩ := ho
    exact bodyPost_ret (v := .agg #[.slice AL s.1.length cL, .int .i64 1, .int .i64 v, .slice none 0 0]) (by simp [results, Tryz.results24, go_sem, z0, z1, z2, z3]) rfl ⟨_, rfl, Owd.nil _ _ _, (((L5.setCell (by omega) _).setCell (by omega) _).setCell (by omega) _).setCell (by omega) _⟩
  · simp only [isRet, retF, isRai, raiF] at q1 q2
    go_enter Tryz.func24, Tryz.ntmps24
    go_wp2
    have L1 := Le.new (w.alloc (.cells #[.slice none 0 0, .int .i64 0, .int .i64 0, .slice none 0 0] 40)) (.cells #[.slice AL s.1.length cL, .int .i64 2, .int .i64 0, .slice none 0 0] 40)
    have L2 := Le.new ((w.alloc (.cells #[.slice none 0 0, .int .i64 0, .int .i64 0, .slice none 0 0] 40)).alloc (.cells #[.slice AL s.1.length cL, .int .i64 2, .int .i64 0, .slice none 0 0] 40)) (.cells #[.int .i64 f] 86)
    have R0 := ((L1.trans L2).drew.block w.heap.size (by simp)).trans (hpn (w := w) rfl)
    have R1 := (L2.drew.block (w.heap.size + 1) (by simp)).trans (hpn (w := w.alloc (.cells #[.slice none 0 0, .int .i64 0, .int .i64 0, .slice none 0 0] 40)) (by simp))
    have R2 : (((w.alloc (.cells #[.slice none 0 0, .int .i64 0, .int .i64 0, .slice none 0 0] 40)).alloc (.cells #[.slice AL s.1.length cL, .int .i64 2, .int .i64 0, .slice none 0 0] 40)).alloc (.cells #[.int .i64 f] 86)).drew.heap[w.heap.size + 1 + 1]? = _ := hpn (w := (w.alloc (.cells #[.slice none 0 0, .int .i64 0, .int .i64 0, .slice none 0 0] 40)).alloc (.cells #[.slice AL s.1.length cL, .int .i64 2, .int .i64 0, .slice none 0 0] 40)) (by simp)
    have LW := ((Le.new w (.cells #[.slice none 0 0, .int .i64 0, .int .i64 0, .slice none 0 0] 40)).trans (L1.trans L2)).drew
    have hzW : w.heap.size + 1 + 1 < (((w.alloc (.cells #[.slice none 0 0, .int .i64 0, .int .i64 0, .slice none 0 0] 40)).alloc (.cells #[.slice AL s.1.length cL, .int .i64 2, .int .i64 0, .slice none 0 0] 40)).alloc (.cells #[.int .i64 f] 86)).drew.heap.size := by show _ < (World.alloc _ _).heap.size; simp
    clear L1 L2
    refine wp_region_noPanic ?_
    refine wp_region_Z (fun w' => w'.cell? ⟨R, 3, none⟩ = some (.slice AH s.2.length cH) ∧ w'.cell? ⟨w.heap.size + 1 + 1, 0, none⟩ = some (.int .i64 f)) [] (by kernel_rfl) ?_
    generalize (((w.alloc (.cells #[.slice none 0 0, .int .i64 0, .int .i64 0, .slice none 0 0] 40)).alloc (.cells #[.slice AL s.1.length cL, .int .i64 2, .int .i64 0, .slice none 0 0] 40)).alloc (.cells #[.int .i64 f] 86)).drew = W at *
    obtain ⟨r0, r1, r2, r3⟩ := cells4 R0
    have fr := fun k => frz_row (k := k) R0
    obtain ⟨k0, k1, k2, k3⟩ := cells4 R1
    have fk := fun k => frz_row (k := k) R1
    have x6 : W.cell? ⟨w.heap.size + 1 + 1, 0, none⟩ = some (.int .i64 f) := cell_of_row W _ 0 _ _ _ R2
    clear R0 R1 R2
    have hf2 := hf f rfl
    have x3 := (LW.cell hz).trans c3
    have SW := (Sl.of_own H.H rfl (by decide) H.okh).le LW
    have GL := Lib.hid gd.lnk
    have hsm2 := hsm.2
    clear H
    refine wpAnyZ_take (i := 0) (v := ?_) rfl (by kernel_rfl) (fun _ _ _ h => h) (Or.inl ⟨by rfl, ?_⟩) (⟨x3, x6⟩) ?_
    rotate_left 1
    · (intro w hSw; (try dsimp only at hSw); go_simp; try with_reducible rfl)
    try simp only [Act.put, List.setIfInBounds_toArray, List.set_cons_zero, List.set_cons_succ]
    refine wpAnyZ_take (i := 1) (v := ?_) rfl (by kernel_rfl) (fun _ _ _ h => h) (Or.inl ⟨by rfl, ?_⟩) (⟨x3, x6⟩) ?_
    rotate_left 1
    · (intro w hSw; (try dsimp only at hSw); go_simp; try with_reducible rfl)
    try simp only [Act.put, List.setIfInBounds_toArray, List.set_cons_zero, List.set_cons_succ]
    refine wpAnyZ_take (i := 2) (v := ?_) rfl (by kernel_rfl) (fun _ _ _ h => h) (Or.inl ⟨by rfl, ?_⟩) (⟨x3, x6⟩) ?_
    rotate_left 1
    · (intro w hSw; (try dsimp only at hSw); go_simp; try with_reducible rfl)
    try simp only [Act.put, List.setIfInBounds_toArray, List.set_cons_zero, List.set_cons_succ]
    refine wpAnyZ_take (i := 3) (v := ?_) rfl (by kernel_rfl) (fun _ _ _ h => h) (Or.inl ⟨by rfl, ?_⟩) (⟨x3, x6⟩) ?_
    rotate_left 1
    · (intro w hSw; (try dsimp only at hSw); go_simp; try with_reducible rfl)
    try simp only [Act.put, List.setIfInBounds_toArray, List.set_cons_zero, List.set_cons_succ]
    refine wpAnyZ_take (i := 4) (v := ?_) rfl (by kernel_rfl) (fun _ _ _ h => h) (Or.inl ⟨by rfl, ?_⟩) (⟨x3, x6⟩) ?_
    rotate_left 1
    · (intro w hSw; (try dsimp only at hSw); go_simp; try with_reducible rfl)
    try simp only [Act.put, List.setIfInBounds_toArray, List.set_cons_zero, List.set_cons_succ]
    refine wpAnyZ_take (i := 5) (v := ?_) rfl (by kernel_rfl) (fun _ _ _ h => h) (Or.inl ⟨by rfl, ?_⟩) (⟨x3, x6⟩) ?_
    rotate_left 1
    · (intro w hSw; (try dsimp only at hSw); go_simp; try with_reducible rfl)
    try simp only [Act.put, List.setIfInBounds_toArray, List.set_cons_zero, List.set_cons_succ]
    refine wpAnyZ_one (i := 6) (by kernel_rfl) (ReadyZ.mk rfl (fun K hK => ?_))
    go_simp
    go_at_call 45
    refine (iIsolate_any AH s.2.length cH s.2 f W SW GL.out hf2.1 hf2.2 (by omega)).mono ?_
    rintro e W2 ⟨v2, rfl, D2, hl2⟩
    replace x3 := (hl2.cell (Nat.lt_of_lt_of_le hz LW.size)).trans x3
    replace x6 := (hl2.cell (by omega)).trans x6
    have hzW2 := Nat.lt_of_lt_of_le hzW hl2.size
    replace r0 := (hl2.cell (by omega)).trans r0
    replace r1 := (hl2.cell (by omega)).trans r1
    replace r2 := (hl2.cell (by omega)).trans r2
    replace r3 := (hl2.cell (by omega)).trans r3
    replace k0 := (hl2.cell (by omega)).trans k0
    replace k1 := (hl2.cell (by omega)).trans k1
    replace k2 := (hl2.cell (by omega)).trans k2
    replace k3 := (hl2.cell (by omega)).trans k3
    replace fr : ∀ k, W2.frozen? ⟨w.heap.size, k, none⟩ = false := fun k => (hl2.frozen (by omega)).trans (fr k)
    replace fk : ∀ k, W2.frozen? ⟨w.heap.size + 1, k, none⟩ = false := fun k => (hl2.frozen (by omega)).trans (fk k)
    have LW2 := LW.trans hl2
    have HD : Hid (∀ b, b < W.heap.size → v2.ownBlock ≠ some b) := fun b hb e => by have := (D2.row.lt _ e).1; omega
    obtain ⟨A2, q2', rfl⟩ := own_form D2.row
    have HD2 := Lib.hid (D2.mono LW)
    generalize (isoL s.2 (reachL s.2 f)).length = ln at *
    clear D2 hl2 SW
    obtain ⟨ix, hix⟩ : ∃ z, idx (reachL s.2 f) f 0 = z := ⟨_, rfl⟩
    have HIX := Lib.hid hix
    rw [hix]
    clear hix
    refine hK.out _ _ (fun _ => ⟨x3, x6⟩) ?_
    clear hK K
    try simp only [Act.put, List.setIfInBounds_toArray, List.set_cons_zero, List.set_cons_succ]
    refine wpAnyZ_take (i := 7) (v := ?_) rfl (by kernel_rfl) (fun _ _ _ h => h) (Or.inl ⟨by rfl, ?_⟩) (⟨x3, x6⟩) ?_
    rotate_left 1
    · (intro w hSw; (try dsimp only at hSw); go_simp; try with_reducible rfl)
    try simp only [Act.put, List.setIfInBounds_toArray, List.set_cons_zero, List.set_cons_succ]
    refine wpAnyZ_take (i := 8) (v := ?_) rfl (by kernel_rfl) (fun _ _ _ h => h) (Or.inl ⟨by rfl, ?_⟩) (⟨x3, x6⟩) ?_
    rotate_left 1
    · (intro w hSw; (try dsimp only at hSw); go_simp; try with_reducible rfl)
    try simp only [Act.put, List.setIfInBounds_toArray, List.set_cons_zero, List.set_cons_succ]
    refine wpAnyZ_take (i := 9) (v := ?_) rfl (by kernel_rfl) (fun _ _ _ h => h) (Or.inl ⟨by rfl, ?_⟩) (⟨x3, x6⟩) ?_
    rotate_left 1
    · (intro w hSw; (try dsimp only at hSw); go_simp; try with_reducible rfl)
    try simp only [Act.put, List.setIfInBounds_toArray, List.set_cons_zero, List.set_cons_succ]
    refine wpAnyZ_take (i := 10) (v := ?_) rfl (by kernel_rfl) (fun _ _ _ h => h) (Or.inl ⟨by rfl, ?_⟩) (⟨x3, x6⟩) ?_
    rotate_left 1
    · (intro w hSw; (try dsimp only at hSw); go_simp; try with_reducible rfl)
    try simp only [Act.put, List.setIfInBounds_toArray, List.set_cons_zero, List.set_cons_succ]
    have hne1 : w.heap.size + 1 ≠ R := by omega
    have hne2 : w.heap.size + 1 ≠ w.heap.size + 1 + 1 := by omega
    have f3 := fk 3
    refine wpAnyZ_one (i := 11) (by kernel_rfl) (ReadyZ.mk rfl (fun K hK => ?_))
    go_simp
    have x3b : (W2.setCell ⟨w.heap.size + 1, 3, none⟩ (.slice A2 ln q2')).cell? ⟨R, 3, none⟩ = some (.slice AH s.2.length cH) := (cell_set_other (.inl hne1)).trans x3
    have x6b : (W2.setCell ⟨w.heap.size + 1, 3, none⟩ (.slice A2 ln q2')).cell? ⟨w.heap.size + 1 + 1, 0, none⟩ = some (.int .i64 f) := (cell_set_other (.inl hne2)).trans x6
    refine hK.out _ _ (fun _ => ⟨x3b, x6b⟩) ?_
    clear hK K
    try simp only [Act.put, List.setIfInBounds_toArray, List.set_cons_zero, List.set_cons_succ]
    refine wpAnyZ_take (i := 12) (v := ?_) rfl (by kernel_rfl) (fun _ _ _ h => h) (Or.inl ⟨by rfl, ?_⟩) (⟨x3b, x6b⟩) ?_
    rotate_left 1
    · (intro w hSw; (try dsimp only at hSw); go_simp; try with_reducible rfl)
    try simp only [Act.put, List.setIfInBounds_toArray, List.set_cons_zero, List.set_cons_succ]
    have f2 : (W2.setCell ⟨w.heap.size + 1, 3, none⟩ (.slice A2 ln q2')).frozen? ⟨w.heap.size + 1, 2, none⟩ = false := (frz_set _ _ _ _ _ _).trans (fk 2)
    have k2b : (W2.setCell ⟨w.heap.size + 1, 3, none⟩ (.slice A2 ln q2')).cell? ⟨w.heap.size + 1, 2, none⟩ = some (.int .i64 0) := (cell_set_other (.inr (by decide))).trans k2
    refine wpAnyZ_one (i := 13) (by kernel_rfl) (ReadyZ.mk rfl (fun K hK => ?_))
    go_simp
    have x3c : ((W2.setCell ⟨w.heap.size + 1, 3, none⟩ (.slice A2 ln q2')).setCell ⟨w.heap.size + 1, 2, none⟩ (.int .i64 ix)).cell? ⟨R, 3, none⟩ = some (.slice AH s.2.length cH) := (cell_set_other (.inl hne1)).trans x3b
    have x6c : ((W2.setCell ⟨w.heap.size + 1, 3, none⟩ (.slice A2 ln q2')).setCell ⟨w.heap.size + 1, 2, none⟩ (.int .i64 ix)).cell? ⟨w.heap.size + 1 + 1, 0, none⟩ = some (.int .i64 f) := (cell_set_other (.inl hne2)).trans x6b
    refine hK.out _ _ (fun _ => ⟨x3c, x6c⟩) ?_
    clear hK K
    try simp only [Act.put, List.setIfInBounds_toArray, List.set_cons_zero, List.set_cons_succ]
    refine wpAnyZ_done (by kernel_rfl) ?_ _
    refine NoPanic.normal ?_
    have k0b : ((W2.setCell ⟨w.heap.size + 1, 3, none⟩ (.slice A2 ln q2')).setCell ⟨w.heap.size + 1, 2, none⟩ (.int .i64 ix)).cell? ⟨w.heap.size + 1, 0, none⟩ = some (.slice AL s.1.length cL) := (cell_set_other (.inr (by decide))).trans ((cell_set_other (.inr (by decide))).trans k0)
    have k1b : ((W2.setCell ⟨w.heap.size + 1, 3, none⟩ (.slice A2 ln q2')).setCell ⟨w.heap.size + 1, 2, none⟩ (.int .i64 ix)).cell? ⟨w.heap.size + 1, 1, none⟩ = some (.int .i64 2) := (cell_set_other (.inr (by decide))).trans ((cell_set_other (.inr (by decide))).trans k1)
    have k2c : ((W2.setCell ⟨w.heap.size + 1, 3, none⟩ (.slice A2 ln q2')).setCell ⟨w.heap.size + 1, 2, none⟩ (.int .i64 ix)).cell? ⟨w.heap.size + 1, 2, none⟩ = some (.int .i64 ix) := cell_set_same k2b
    have k3b : ((W2.setCell ⟨w.heap.size + 1, 3, none⟩ (.slice A2 ln q2')).setCell ⟨w.heap.size + 1, 2, none⟩ (.int .i64 ix)).cell? ⟨w.heap.size + 1, 3, none⟩ = some (.slice A2 ln q2') := (cell_set_other (.inr (by decide))).trans (cell_set_same k3)
    have hne : w.heap.size + 1 ≠ w.heap.size := by omega
    have s0 : ((W2.setCell ⟨w.heap.size + 1, 3, none⟩ (.slice A2 ln q2')).setCell ⟨w.heap.size + 1, 2, none⟩ (.int .i64 ix)).cell? ⟨w.heap.size, 0, none⟩ = some (.slice none 0 0) := (cell_set_other (.inl hne)).trans ((cell_set_other (.inl hne)).trans r0)
    have s1 : ((W2.setCell ⟨w.heap.size + 1, 3, none⟩ (.slice A2 ln q2')).setCell ⟨w.heap.size + 1, 2, none⟩ (.int .i64 ix)).cell? ⟨w.heap.size, 1, none⟩ = some (.int .i64 0) := (cell_set_other (.inl hne)).trans ((cell_set_other (.inl hne)).trans r1)
    have s2 : ((W2.setCell ⟨w.heap.size + 1, 3, none⟩ (.slice A2 ln q2')).setCell ⟨w.heap.size + 1, 2, none⟩ (.int .i64 ix)).cell? ⟨w.heap.size, 2, none⟩ = some (.int .i64 0) := (cell_set_other (.inl hne)).trans ((cell_set_other (.inl hne)).trans r2)
    have s3 : ((W2.setCell ⟨w.heap.size + 1, 3, none⟩ (.slice A2 ln q2')).setCell ⟨w.heap.size + 1, 2, none⟩ (.int .i64 ix)).cell? ⟨w.heap.size, 3, none⟩ = some (.slice none 0 0) := (cell_set_other (.inl hne)).trans ((cell_set_other (.inl hne)).trans r3)
    have fs : ∀ k, ((W2.setCell ⟨w.heap.size + 1, 3, none⟩ (.slice A2 ln q2')).setCell ⟨w.heap.size + 1, 2, none⟩ (.int .i64 ix)).frozen? ⟨w.heap.size, k, none⟩ = false := fun k => (frz_set _ _ _ _ _ _).trans ((frz_set _ _ _ _ _ _).trans (fr k))
    have L5 := (LW2.setCell (b := w.heap.size + 1) (o := 3) (by omega) (.slice A2 ln q2')).setCell (b := w.heap.size + 1) (o := 2) (by omega) (.int .i64 ix)
    have HR9 : Hid (∀ a b c d, Owd 68 w ((((((W2.setCell ⟨w.heap.size + 1, 3, none⟩ (.slice A2 ln q2')).setCell ⟨w.heap.size + 1, 2, none⟩ (.int .i64 ix)).setCell ⟨w.heap.size, 0, none⟩ a).setCell ⟨w.heap.size, 1, none⟩ b).setCell ⟨w.heap.size, 2, none⟩ c).setCell ⟨w.heap.size, 3, none⟩ d) (.slice A2 ln q2') (isoL s.2 (reachL s.2 f))) := fun a b c d => by
      have nb0 := HD.out w.heap.size (by omega)
      have nb1 := HD.out (w.heap.size + 1) (by omega)
      exact (((((HD2.out.setO nb1).setO nb1).setO nb0).setO nb0).setO nb0).setO nb0
    generalize ((W2.setCell ⟨w.heap.size + 1, 3, none⟩ (.slice A2 ln q2')).setCell ⟨w.heap.size + 1, 2, none⟩ (.int .i64 ix)) = W5 at *
    have f0 := fs 0
    have f1 := fs 1
    have f2 := fs 2
    have f3 := fs 3
    have ho := out4 (a := .slice AL s.1.length cL) (b := .int .i64 2) (c := .int .i64 ix) (d := .slice A2 ln q2') s0 s1 s2 s3
    clear x3 x6 x3b x6b x3c x6c k0 k1 k2 k3 k2b r0 r1 r2 r3 HD HD2
    go_wp2
    obtain ⟨z0, z1, z2, z3⟩ := ho
    exact bodyPost_ret (v := .agg #[.slice AL s.1.length cL, .int .i64 2, .int .i64 ix, .slice A2 ln q2']) (by simp [results, Tryz.results24, go_sem, z0, z1, z2, z3]) rfl ⟨_, ret_val (by rw [← HIX.out]; rfl), HR9.out _ _ _ _, (((L5.setCell (by omega) _).setCell (by omega) _).setCell (by omega) _).setCell (by omega) _⟩
  · simp only [isRet, retF, isRai, raiF] at q1 q2
    go_enter Tryz.func24, Tryz.ntmps24
    go_wp2
    obtain ⟨z0, z1, z2, z3⟩ := cells4 (((Le.new (w.alloc (.cells #[.slice AL s.1.length cL, .int .i64 0, .int .i64 0, .slice none 0 0] 40)) (.cells #[.slice AL s.1.length cL, .int .i64 0, .int .i64 0, .slice none 0 0] 40)).block w.heap.size (by simp)).trans (hpn (w := w) (o := .cells #[.slice AL s.1.length cL, .int .i64 0, .int .i64 0, .slice none 0 0] 40) rfl))
    exact bodyPost_ret (v := .agg #[.slice AL s.1.length cL, .int .i64 0, .int .i64 0, .slice none 0 0]) (by simp [results, Tryz.results24, go_sem, z0, z1, z2, z3]) rfl ⟨_, rfl, Owd.nil _ _ _, ((Le.refl w).alloc _).alloc _⟩
  · simp only [isRet, retF, isRai, raiF] at q1 q2
    go_enter Tryz.func24, Tryz.ntmps24
    go_wp2
    obtain ⟨z0, z1, z2, z3⟩ := cells4 (((Le.new (w.alloc (.cells #[.slice AL s.1.length cL, .int .i64 0, .int .i64 0, .slice none 0 0] 40)) (.cells #[.slice AL s.1.length cL, .int .i64 0, .int .i64 0, .slice none 0 0] 40)).block w.heap.size (by simp)).trans (hpn (w := w) (o := .cells #[.slice AL s.1.length cL, .int .i64 0, .int .i64 0, .slice none 0 0] 40) rfl))
    exact bodyPost_ret (v := .agg #[.slice AL s.1.length cL, .int .i64 0, .int .i64 0, .slice none 0 0]) (by simp [results, Tryz.results24, go_sem, z0, z1, z2, z3]) rfl ⟨_, rfl, Owd.nil _ _ _, ((Le.refl w).alloc _).alloc _⟩
end
end Go.Proofs.YtgjlmfjmjglplaaGreat
