/- exits: PopExit of both -/
import Derived.Test.YtdpojpgdfklfkaaPxB
import Derived.Lib.SliceRun
namespace Go.Proofs.Ytdpojpgdfklfkaa
open Go.RowKit
def poOk (xs : List Cls) (L : List Xit) : Bool := vxs xs L && decide (0 < L.length)
def poX (xs : List Cls) (L : List Xit) : List Xit := cond (poOk xs L) (L.take (L.length - 1)) []
def poE (xs : List Cls) (L : List Xit) : Xit := cond (poOk xs L) ((L[L.length - 1]?).getD ⟨0, 0, 0⟩) ⟨0, 0, 0⟩
theorem poX_len (xs : List Cls) (L : List Xit) : (poX xs L).length ≤ 1048576 := by
  unfold poX
  cases h : poOk xs L
  · simp
  · have h2 := h
    unfold poOk at h2
    rw [Bool.and_eq_true] at h2
    have := (vxs_iff.1 h2.1).2.1
    show (L.take _).length ≤ _
    rw [List.length_take]; omega
theorem po_no {xs : List Cls} {L : List Xit} (h : poOk xs L = false) : poX xs L = [] ∧ poE xs L = ⟨0, 0, 0⟩ := by unfold poX poE; rw [h]; exact ⟨rfl, rfl⟩
theorem po_yes {xs : List Cls} {L : List Xit} {k : Nat} (h : poOk xs L = true) (hk : L.length = k + 1) : poX xs L = L.take k ∧ poE xs L = L[k]'(by omega) := by
  have e : L.length - 1 = k := by omega
  unfold poX poE; rw [h, e]
  refine ⟨rfl, ?_⟩
  show (L[k]?).getD _ = _
  rw [List.getElem?_eq_getElem (by omega)]; rfl
theorem ret3x {v u : Value} {a b : Bool} {x y : Xit} (h : a = b) (hx : x = y) (hv : v = u) : Ending.returned (.tuple #[v, .agg #[.int .i64 x.kind, .int .i64 x.a, .int .i64 x.b], .bool a]) = .returned (.tuple #[u, .agg #[.int .i64 y.kind, .int .i64 y.a, .int .i64 y.b], .bool b]) := by rw [h, hx, hv]
/-- three stores into a box of three cells -/
theorem set3 {w : World} {g : Nat} {k a b u v x : Value} (c0 : w.cell? ⟨g, 0, none⟩ = some u) (c1 : w.cell? ⟨g, 1, none⟩ = some v) (c2 : w.cell? ⟨g, 2, none⟩ = some x) :
    (((w.setCell ⟨g, 0, none⟩ k).setCell ⟨g, 1, none⟩ a).setCell ⟨g, 2, none⟩ b).cell? ⟨g, 0, none⟩ = some k ∧ (((w.setCell ⟨g, 0, none⟩ k).setCell ⟨g, 1, none⟩ a).setCell ⟨g, 2, none⟩ b).cell? ⟨g, 1, none⟩ = some a ∧ (((w.setCell ⟨g, 0, none⟩ k).setCell ⟨g, 1, none⟩ a).setCell ⟨g, 2, none⟩ b).cell? ⟨g, 2, none⟩ = some b := by
  refine ⟨?_, ?_, ?_⟩
  · rw [cell_set_other (.inr (by decide)), cell_set_other (.inr (by decide))]; exact cell_set_same c0
  · rw [cell_set_other (.inr (by decide))]; exact cell_set_same (by rw [cell_set_other (.inr (by decide))]; exact c1)
  · exact cell_set_same (by rw [cell_set_other (.inr (by decide)), cell_set_other (.inr (by decide))]; exact c2)
set_option maxHeartbeats 2000000 in
set_option maxRecDepth 100000 in
theorem sPopExit_any (T A : Option Addr) (m c n cap : Nat) (xs : List Cls) (L : List Xit) (hsa : n ≤ 1048576) (w : World) (hT : Sl w T m c xs) (hR : Sl w A n cap L) :
    Calls Try.prog 17 #[.agg #[.slice T m c], .slice A n cap] w fun e w' => ∃ v, e = .returned (.tuple #[v, .agg #[.int .i64 (poE xs L).kind, .int .i64 (poE xs L).a, .int .i64 (poE xs L).b], .bool (poOk xs L)]) ∧ Owd 32 w w' v (poX xs L) ∧ Le w w' := by
  have HX : Hid (poOk xs L = (vxs xs L && decide (0 < L.length))) := rfl
  have HN : Hid (poOk xs L = false → poX xs L = [] ∧ poE xs L = ⟨0, 0, 0⟩) := po_no
  have hla := hR.len
  subst hla
  obtain ⟨ct, zt, x0, x1, x2, zx, L0⟩ := boxTX w (.slice T m c) (.int .i64 0) (.int .i64 0) (.int .i64 0) 25 32
  have fx : ∀ o, ((w.alloc (.cells #[.slice T m c] 25)).alloc (.cells #[.int .i64 0, .int .i64 0, .int .i64 0] 32)).frozen? ⟨w.heap.size + 1, o, none⟩ = false := fun o => World.frozen?_alloc_at _ _ _ _ (by simp)
  go_enter Try.func17, Try.ntmps17
  go_wp2_with fail
  generalize (w.alloc (.cells #[.slice T m c] 25)).alloc _ = W at *
  refine (svalidExits_any T A m c L.length cap xs L W (hT.le L0) (hR.le L0)).mono ?_
  rintro e w1 ⟨rfl, hle⟩
  have f0 := (hle.frozen zx).trans (fx 0)
  have f1 := (hle.frozen zx).trans (fx 1)
  have f2 := (hle.frozen zx).trans (fx 2)
  replace ct := (hle.cell zt).trans ct
  replace x0 := (hle.cell zx).trans x0
  replace x1 := (hle.cell zx).trans x1
  replace x2 := (hle.cell zx).trans x2
  replace zx := Nat.lt_of_lt_of_le zx hle.size
  replace L0 := L0.trans hle
  clear hle fx
  have hend := fun k a b => set3 (k := k) (a := a) (b := b) x0 x1 x2
  have LS : ∀ k a b, Le w (((w1.setCell ⟨w.heap.size + 1, 0, none⟩ k).setCell ⟨w.heap.size + 1, 1, none⟩ a).setCell ⟨w.heap.size + 1, 2, none⟩ b) := fun k a b => ((L0.setCell (by omega) k).setCell (by omega) a).setCell (by omega) b
  have HLS := Lib.hid LS
  clear LS
  cases h1 : vxs xs L
  · have hf : poOk xs L = false := by rw [HX.out, h1]; rfl
    have h2 := HN.out hf
    have HF := Lib.hid hf
    have HE := Lib.hid h2.2
    have HO : Hid (∀ w', Owd 32 w w' (.slice none 0 0) (poX xs L)) := fun w' => by rw [h2.1]; exact Owd.nil _ _ _
    clear hf h2
    go_wp2
    exact bodyPost_ret (v := .tuple #[.slice none 0 0, .agg #[.int .i64 0, .int .i64 0, .int .i64 0], .bool false]) (by first | (simp [results, Try.results17, go_sem]; done) | simp [results, Try.results17, go_sem, hend]) rfl ⟨_, ret3x (x := ⟨0, 0, 0⟩) HF.out.symm HE.out.symm rfl, HO.out _, HLS.out _ _ _⟩
  · cases hn : L.length with
    | zero =>
      have hf : poOk xs L = false := by rw [HX.out, hn]; simp
      have h2 := HN.out hf
      have HF := Lib.hid hf
      have HE := Lib.hid h2.2
      have HO : Hid (∀ w', Owd 32 w w' (.slice none 0 0) (poX xs L)) := fun w' => by rw [h2.1]; exact Owd.nil _ _ _
      clear hf h2
      rw [hn] at *
      go_wp2
      exact bodyPost_ret (v := .tuple #[.slice none 0 0, .agg #[.int .i64 0, .int .i64 0, .int .i64 0], .bool false]) (by first | (simp [results, Try.results17, go_sem]; done) | simp [results, Try.results17, go_sem, hend]) rfl ⟨_, ret3x (x := ⟨0, 0, 0⟩) HF.out.symm HE.out.symm rfl, HO.out _, HLS.out _ _ _⟩
    | succ k =>
      have hkl : k < L.length := by omega
      have hf : poOk xs L = true := by rw [HX.out, h1, hn]; simp
      have h2 := po_yes hf hn
      have HF := Lib.hid hf
      have HE := Lib.hid h2.2
      have HPX := Lib.hid h2.1
      have SL := hR.le L0
      obtain ⟨b, off, rfl, hb, d0, d1, d2, -⟩ := hR.xit_at hkl
      have hkk : k ≤ 1048576 := by omega
      have SLK := SL.take_ k (by omega)
      have HTL : Hid ((L.take k).length = k) := by show _ = _; rw [List.length_take]; omega
      have hk0 : (0 : Int) ≤ (k : Int) := by omega
      have hkn : (k : Int) < (k : Int) + 1 := by omega
      have hkc : k ≤ cap := by have := SL.cap_; omega
      have hk1 : k ≤ k + 1 := by omega
      have hnz : (((k + 1 : Nat) : Int) == 0) = false := by simp; omega
      generalize L[k] = x at *
      have hzw := zx
      clear hf h2 HX HN hR
      rw [hn] at *
      clear hn hkl
      go_wp2_with fail
      have LD : Le w1 w1.drew := (Le.refl w1).drew
      have SLD := SLK.le LD
      have HCE : Hid (∀ w' : World, Le w1 w' → w'.cell? ⟨b, off + k * 3, none⟩ = some (.int .i64 x.kind) ∧ w'.cell? ⟨b, off + k * 3 + 1, none⟩ = some (.int .i64 x.a) ∧ w'.cell? ⟨b, off + k * 3 + 2, none⟩ = some (.int .i64 x.b)) := fun w' h => ⟨((L0.trans h).cell hb).trans d0, ((L0.trans h).cell hb).trans d1, ((L0.trans h).cell hb).trans d2⟩
      clear hend HLS ct d0 d1 d2
      refine wp_region_noPanic ?_
      refine wp_region_held_drew (S := fun w' => w'.cell? ⟨b, off + k * 3, none⟩ = some (.int .i64 x.kind) ∧ w'.cell? ⟨b, off + k * 3 + 1, none⟩ = some (.int .i64 x.a) ∧ w'.cell? ⟨b, off + k * 3 + 2, none⟩ = some (.int .i64 x.b)) (by kernel_rfl) (HCE.out _ LD) (fun hHeld => ?_)
      refine wpAnyH_takeL (i := 0) (v := ?_) rfl (by kernel_rfl) (by kernel_rfl) (by kernel_rfl) (fun _ _ _ h => h) (Or.inl ⟨by rfl, ?_⟩) (by assumption) ?_
      rotate_left 1
      · (intro w hSw; (try dsimp only at hSw); go_simp; try with_reducible rfl)
      try simp only [Act.put, List.setIfInBounds_toArray, List.set_cons_zero, List.set_cons_succ]
      refine wpAnyH_takeL (i := 1) (v := ?_) rfl (by kernel_rfl) (by kernel_rfl) (by kernel_rfl) (fun _ _ _ h => h) (Or.inl ⟨by rfl, ?_⟩) (by assumption) ?_
      rotate_left 1
      · (intro w hSw; (try dsimp only at hSw); go_simp; try with_reducible rfl)
      try simp only [Act.put, List.setIfInBounds_toArray, List.set_cons_zero, List.set_cons_succ]
      refine wpAnyH_takeL (i := 2) (v := ?_) rfl (by kernel_rfl) (by kernel_rfl) (by kernel_rfl) (fun _ _ _ h => h) (Or.inl ⟨by rfl, ?_⟩) (by assumption) ?_
      rotate_left 1
      · (intro w hSw; (try dsimp only at hSw); go_simp; try with_reducible rfl)
      try simp only [Act.put, List.setIfInBounds_toArray, List.set_cons_zero, List.set_cons_succ]
      refine wpAnyH_takeL (i := 4) (v := ?_) rfl (by kernel_rfl) (by kernel_rfl) (by kernel_rfl) (fun _ _ _ h => h) (Or.inl ⟨by rfl, ?_⟩) (by assumption) ?_
      rotate_left 1
      · (intro w hSw; (try dsimp only at hSw); go_simp; try with_reducible rfl)
      try simp only [Act.put, List.setIfInBounds_toArray, List.set_cons_zero, List.set_cons_succ]
      refine wpAnyH_takeL (i := 5) (v := ?_) rfl (by kernel_rfl) (by kernel_rfl) (by kernel_rfl) (fun _ _ _ h => h) (Or.inl ⟨by rfl, ?_⟩) (by assumption) ?_
      rotate_left 1
      · (intro w hSw; (try dsimp only at hSw); go_simp; try with_reducible rfl)
      try simp only [Act.put, List.setIfInBounds_toArray, List.set_cons_zero, List.set_cons_succ]
      refine wpAnyH_takeL (i := 6) (v := ?_) rfl (by kernel_rfl) (by kernel_rfl) (by kernel_rfl) (fun _ _ _ h => h) (Or.inl ⟨by rfl, ?_⟩) (by assumption) ?_
      rotate_left 1
      · (intro w hSw; (try dsimp only at hSw); go_simp; try with_reducible rfl)
      try simp only [Act.put, List.setIfInBounds_toArray, List.set_cons_zero, List.set_cons_succ]
      refine wpAnyH_takeL (i := 7) (v := ?_) rfl (by kernel_rfl) (by kernel_rfl) (by kernel_rfl) (fun _ _ _ h => h) (Or.inl ⟨by rfl, ?_⟩) (by assumption) ?_
      rotate_left 1
      · (intro w hSw; (try dsimp only at hSw); go_simp; try with_reducible rfl)
      try simp only [Act.put, List.setIfInBounds_toArray, List.set_cons_zero, List.set_cons_succ]
      refine wpAnyH_ready (rs := [3]) (by kernel_rfl) (by simp) (AllReadyH.consL (i := 3) rfl (fun K hK => ?_) AllReadyH.nil)
      go_simp
      go_at_call 26
      refine (copyExits_any _ k cap (L.take k) _ SLD (by omega)).mono ?_
      rintro e w3 ⟨v3, rfl, D3, hle⟩
      have L3 := LD.trans hle
      have HC3 := Lib.hid (HCE.out _ L3)
      have g0 := (L3.frozen zx).trans f0
      have g1 := (L3.frozen zx).trans f1
      have g2 := (L3.frozen zx).trans f2
      have y0 := (L3.cell zx).trans x0
      have y1 := (L3.cell zx).trans x1
      have y2 := (L3.cell zx).trans x2
      refine hK.out _ _ (HC3.out) (fun hHeld => ?_)
      clear hK K
      try simp only [Act.put, List.setIfInBounds_toArray, List.set_cons_zero, List.set_cons_succ]
      refine wpAnyH_takeL (i := 8) (v := ?_) rfl (by kernel_rfl) (by kernel_rfl) (by kernel_rfl) (fun _ _ _ h => h) (Or.inl ⟨by rfl, ?_⟩) (by assumption) ?_
      rotate_left 1
      · (intro w hSw; (try dsimp only at hSw); go_simp; try with_reducible rfl)
      try simp only [Act.put, List.setIfInBounds_toArray, List.set_cons_zero, List.set_cons_succ]
      refine wpAnyH_ready (rs := [9]) (by kernel_rfl) (by simp) (AllReadyH.consL (i := 9) rfl (fun K hK => ?_) AllReadyH.nil)
      go_simp
      have HEND := Lib.hid (set3 (k := .int .i64 x.kind) (a := .int .i64 x.a) (b := .int .i64 x.b) y0 y1 y2)
      have hbw : w.heap.size + 1 ≠ b := by omega
      have HC4 := Lib.hid (show (((w3.setCell ⟨w.heap.size + 1, 0, none⟩ (.int .i64 x.kind)).setCell ⟨w.heap.size + 1, 1, none⟩ (.int .i64 x.a)).setCell ⟨w.heap.size + 1, 2, none⟩ (.int .i64 x.b)).cell? ⟨b, off + k * 3, none⟩ = some (.int .i64 x.kind) ∧ (((w3.setCell ⟨w.heap.size + 1, 0, none⟩ (.int .i64 x.kind)).setCell ⟨w.heap.size + 1, 1, none⟩ (.int .i64 x.a)).setCell ⟨w.heap.size + 1, 2, none⟩ (.int .i64 x.b)).cell? ⟨b, off + k * 3 + 1, none⟩ = some (.int .i64 x.a) ∧ (((w3.setCell ⟨w.heap.size + 1, 0, none⟩ (.int .i64 x.kind)).setCell ⟨w.heap.size + 1, 1, none⟩ (.int .i64 x.a)).setCell ⟨w.heap.size + 1, 2, none⟩ (.int .i64 x.b)).cell? ⟨b, off + k * 3 + 2, none⟩ = some (.int .i64 x.b) from ⟨by rw [cell_set_other (.inl hbw), cell_set_other (.inl hbw), cell_set_other (.inl hbw)]; exact HC3.out.1, by rw [cell_set_other (.inl hbw), cell_set_other (.inl hbw), cell_set_other (.inl hbw)]; exact HC3.out.2.1, by rw [cell_set_other (.inl hbw), cell_set_other (.inl hbw), cell_set_other (.inl hbw)]; exact HC3.out.2.2⟩)
      have L4 : Le w (((w3.setCell ⟨w.heap.size + 1, 0, none⟩ (.int .i64 x.kind)).setCell ⟨w.heap.size + 1, 1, none⟩ (.int .i64 x.a)).setCell ⟨w.heap.size + 1, 2, none⟩ (.int .i64 x.b)) := (((L0.trans L3).setCell (by omega) _).setCell (by omega) _).setCell (by omega) _
      have O3 := D3.row
      have HNB : ∀ g, (v3.ownBlock = some g) → w.heap.size + 1 < g := fun g hg => by have := (O3.lt g hg).1; have e : w1.drew.heap.size = w1.heap.size := rfl; omega
      have hno : v3.ownBlock = none ∨ v3.ownBlock ≠ some (w.heap.size + 1) := .inr (fun e => by have := HNB _ e; omega)
      have O4 := ((O3.kept (grown_set w3 (w.heap.size + 1) 0 (.int .i64 x.kind)) hno).kept (grown_set _ (w.heap.size + 1) 1 (.int .i64 x.a)) hno).kept (grown_set _ (w.heap.size + 1) 2 (.int .i64 x.b)) hno
      have HO : Hid (Owd 32 w (((w3.setCell ⟨w.heap.size + 1, 0, none⟩ (.int .i64 x.kind)).setCell ⟨w.heap.size + 1, 1, none⟩ (.int .i64 x.a)).setCell ⟨w.heap.size + 1, 2, none⟩ (.int .i64 x.b)) v3 (poX xs L)) := by
        show Owd _ _ _ _ _
        rw [HPX.out]
        exact ⟨own_mono O4 (L0.trans LD).size, D3.ok⟩
      clear O4 O3 hno HNB hbw D3 y0 y1 y2
      generalize (((w3.setCell ⟨w.heap.size + 1, 0, none⟩ (.int .i64 x.kind)).setCell ⟨w.heap.size + 1, 1, none⟩ (.int .i64 x.a)).setCell ⟨w.heap.size + 1, 2, none⟩ (.int .i64 x.b)) = W5 at *
      obtain ⟨z0, z1, z2⟩ := HEND.out
      refine hK.out _ _ (HC4.out) (fun hHeld => ?_)
      clear hK K
      try simp only [Act.put, List.setIfInBounds_toArray, List.set_cons_zero, List.set_cons_succ]
      refine wpAnyH_takeL (i := 10) (v := ?_) rfl (by kernel_rfl) (by kernel_rfl) (by kernel_rfl) (fun _ _ _ h => h) (Or.inl ⟨by rfl, ?_⟩) (by assumption) ?_
      rotate_left 1
      · (intro w hSw; (try dsimp only at hSw); go_simp; try with_reducible rfl)
      try simp only [Act.put, List.setIfInBounds_toArray, List.set_cons_zero, List.set_cons_succ]
      refine wpAnyH_done (by kernel_rfl) ?_ _
      refine NoPanic.normal ?_
      go_wp2
      exact bodyPost_ret (v := .tuple #[v3, .agg #[.int .i64 x.kind, .int .i64 x.a, .int .i64 x.b], .bool true]) (by simp [results, Try.results17, go_sem, z0, z1, z2]) rfl ⟨_, ret3x HF.out.symm HE.out.symm rfl, HO.out, L4⟩
set_option maxHeartbeats 1000000 in
set_option maxRecDepth 100000 in
theorem cloneExit_any (H : Option Addr) (m c : Nat) (hs : List Xit) (w : World) (hH : Sl w H m c hs) (hm : m ≤ 2097152) :
    Calls Try.prog 30 #[.slice H m c] w fun e w' => ∃ v, e = .returned v ∧ Owd 32 w w' v hs ∧ Le w w' := by
  obtain ⟨i0, hi, hz0, hz1, hz2⟩ := info_parts infoCcExit
  have hlen := hH.len
  have hokA := Lib.hid hH.ok
  have q22 : ∀ (w : World) (a : Option Addr) (n c n' c' : Nat), (binOp .eql 26 (.slice a n c) (.slice none n' c')).run Try.prog w = .ok (.bool a.isNone) w := fun w a n c n' c' => Lib.run_eql_slice_nil w _ _ a n c n' c' Try.underlying26
  cases H with
  | none =>
    have h0 : hs = [] := by
      rcases Nat.eq_zero_or_pos m with h0 | h0
      · exact List.eq_nil_of_length_eq_zero (by omega)
      · obtain ⟨b, off, h, _⟩ := hH.at_ h0; cases h
    subst h0
    go_enter Try.func30, Try.ntmps30
    go_wp2
    go_ret
    exact ⟨_, rfl, Owd.nil _ _ _, Le.refl _⟩
  | some ad =>
    go_enter Try.func30, Try.ntmps30
    go_wp2_with (at_builtin; refine wpList_append_sl rfl (.tmp 5) (.tmp 6) 26 rfl (w.heap.size) 32 i0 _ 24 Try.underlying26 hi hz0 hz1 hz2 rfl (.slice (some ⟨w.heap.size, 0, none⟩) 0 0) 0 ([] : List Xit) rfl (own_empty (by simp) (by simp)) (some ad) m c hs rfl (hH.alloc _) (by unfold maxLen; omega) (by omega) (by simp) ?_; intro v1 w1 O1 hg1 _; simp only [Nat.zero_add, List.nil_append] at O1; have L1 := ((Le.refl _).alloc _).grown hg1 (fun k hk => by simp [Value.ownBlock] at hk; omega); clear hg1)
    go_ret
    have hd : Owd 32 w w1 v1 hs := ⟨by rw [hlen]; exact O1, hokA.out⟩
    exact ⟨_, rfl, hd, L1⟩

set_option maxHeartbeats 2000000 in
set_option maxRecDepth 100000 in
theorem iPopExit_any (T A : Option Addr) (m c n cap : Nat) (xs : List Cls) (L : List Xit) (hsa : n ≤ 1048576) (w : World) (hT : Sl w T m c xs) (hR : Sl w A n cap L) :
    Calls Try.prog 16 #[.agg #[.slice T m c], .slice A n cap] w fun e w' => ∃ v, e = .returned (.tuple #[v, .agg #[.int .i64 (poE xs L).kind, .int .i64 (poE xs L).a, .int .i64 (poE xs L).b], .bool (poOk xs L)]) ∧ Owd 32 w w' v (poX xs L) ∧ Le w w' := by
  have HX : Hid (poOk xs L = (vxs xs L && decide (0 < L.length))) := rfl
  have HN : Hid (poOk xs L = false → poX xs L = [] ∧ poE xs L = ⟨0, 0, 0⟩) := po_no
  have hla := hR.len
  subst hla
  obtain ⟨ct, zt, x0, x1, x2, zx, L0⟩ := boxTX w (.slice T m c) (.int .i64 0) (.int .i64 0) (.int .i64 0) 25 32
  have fx : ∀ o, ((w.alloc (.cells #[.slice T m c] 25)).alloc (.cells #[.int .i64 0, .int .i64 0, .int .i64 0] 32)).frozen? ⟨w.heap.size + 1, o, none⟩ = false := fun o => World.frozen?_alloc_at _ _ _ _ (by simp)
  cases hn : L.length with
  | zero =>
    have hf : poOk xs L = false := by rw [HX.out, hn]; simp
    have h2 := HN.out hf
    have HF := Lib.hid hf
    have HE := Lib.hid h2.2
    have HO : Hid (∀ w', Owd 32 w w' (.slice none 0 0) (poX xs L)) := fun w' => by rw [h2.1]; exact Owd.nil _ _ _
    clear hf h2 HX HN
    have HS := Lib.hid (fun k a b => set3 (k := k) (a := a) (b := b) x0 x1 x2)
    have f0 := fx 0
    have f1 := fx 1
    have f2 := fx 2
    have HLS : Hid (∀ k a b, Le w (((((w.alloc (.cells #[.slice T m c] 25)).alloc (.cells #[.int .i64 0, .int .i64 0, .int .i64 0] 32)).setCell ⟨w.heap.size + 1, 0, none⟩ k).setCell ⟨w.heap.size + 1, 1, none⟩ a).setCell ⟨w.heap.size + 1, 2, none⟩ b)) := fun k a b => ((L0.setCell (by omega) k).setCell (by omega) a).setCell (by omega) b
    rw [hn] at *
    go_enter Try.func16, Try.ntmps16
    go_wp2
    have hend := HS.out
    exact bodyPost_ret (v := .tuple #[.slice none 0 0, .agg #[.int .i64 0, .int .i64 0, .int .i64 0], .bool false]) (by first | (simp [results, Try.results16, go_sem]; done) | simp [results, Try.results16, go_sem, hend]) rfl ⟨_, ret3x (x := ⟨0, 0, 0⟩) HF.out.symm HE.out.symm rfl, HO.out _, (by first | exact L0 | exact HLS.out _ _ _)⟩
  | succ k =>
    have hkl : k < L.length := by omega
    have hkk : k ≤ 1048576 := by omega
    have hkneg : decide ((k : Int) < 0) = false := by rw [decide_eq_false_iff_not]; omega
    have HNI := Lib.hid hn
    have hR' := hR
    rw [hn] at hR'
    have HY : Hid (∀ (w' : World) (hl : Le w w'), Calls Try.prog 7 #[.agg #[.slice T m c], .slice A (k + 1) cap] w' fun e w'' => e = .returned (.bool (vxs xs L)) ∧ Le w' w'') := fun w' hl => iValidExits_any T A m c (k + 1) cap xs L w' (hT.le hl) (hR'.le hl)
    go_enter Try.func16, Try.ntmps16
    go_wp2_with fail
    generalize (w.alloc (.cells #[.slice T m c] 25)).alloc _ = W at *
    refine (HY.out W L0).mono ?_
    rintro e w1 ⟨rfl, hle⟩
    have f0 := (hle.frozen zx).trans (fx 0)
    have f1 := (hle.frozen zx).trans (fx 1)
    have f2 := (hle.frozen zx).trans (fx 2)
    replace ct := (hle.cell zt).trans ct
    replace x0 := (hle.cell zx).trans x0
    replace x1 := (hle.cell zx).trans x1
    replace x2 := (hle.cell zx).trans x2
    replace zx := Nat.lt_of_lt_of_le zx hle.size
    replace L0 := L0.trans hle
    clear hle fx HY
    have HS := Lib.hid (fun k a b => set3 (k := k) (a := a) (b := b) x0 x1 x2)
    have HLS : Hid (∀ k a b, Le w (((w1.setCell ⟨w.heap.size + 1, 0, none⟩ k).setCell ⟨w.heap.size + 1, 1, none⟩ a).setCell ⟨w.heap.size + 1, 2, none⟩ b)) := fun k a b => ((L0.setCell (by omega) k).setCell (by omega) a).setCell (by omega) b
    cases h1 : vxs xs L
    · have hf : poOk xs L = false := by rw [HX.out, h1]; rfl
      have h2 := HN.out hf
      have HF := Lib.hid hf
      have HE := Lib.hid h2.2
      have HO : Hid (∀ w', Owd 32 w w' (.slice none 0 0) (poX xs L)) := fun w' => by rw [h2.1]; exact Owd.nil _ _ _
      clear hf h2 hn hkl
      go_wp2
      have hend := HS.out
      exact bodyPost_ret (v := .tuple #[.slice none 0 0, .agg #[.int .i64 0, .int .i64 0, .int .i64 0], .bool false]) (by first | (simp [results, Try.results16, go_sem]; done) | simp [results, Try.results16, go_sem, hend]) rfl ⟨_, ret3x (x := ⟨0, 0, 0⟩) HF.out.symm HE.out.symm rfl, HO.out _, HLS.out _ _ _⟩
    · have hf : poOk xs L = true := by rw [HX.out, h1, hn]; simp
      have h2 := po_yes hf hn
      have HF := Lib.hid hf
      have HE := Lib.hid h2.2
      have HPX := Lib.hid h2.1
      obtain ⟨b, off, rfl, hb, d0, d1, d2, -⟩ := hR.xit_at hkl
      have SLK := (hR.take_ k (by omega)).le L0
      have hk0 : (0 : Int) ≤ (k : Int) := by omega
      have hkn : (k : Int) < (k : Int) + 1 := by omega
      have hkc : k ≤ cap := by have := hR.cap_; omega
      have hk1 : k ≤ k + 1 := by omega
      generalize L[k] = x at *
      clear hf h2 HX HN hR hR' HS HLS hn hkl
      go_wp2_with fail
      have LD : Le w1 w1.drew := (Le.refl w1).drew
      have SLD := SLK.le LD
      have HCE : Hid (∀ w' : World, Le w1 w' → w'.cell? ⟨b, off + k * 3, none⟩ = some (.int .i64 x.kind) ∧ w'.cell? ⟨b, off + k * 3 + 1, none⟩ = some (.int .i64 x.a) ∧ w'.cell? ⟨b, off + k * 3 + 2, none⟩ = some (.int .i64 x.b)) := fun w' h => ⟨((L0.trans h).cell hb).trans d0, ((L0.trans h).cell hb).trans d1, ((L0.trans h).cell hb).trans d2⟩
      clear ct d0 d1 d2
      refine wp_region_noPanic ?_
      refine wp_region_held_drew (S := fun w' => w'.cell? ⟨b, off + k * 3, none⟩ = some (.int .i64 x.kind) ∧ w'.cell? ⟨b, off + k * 3 + 1, none⟩ = some (.int .i64 x.a) ∧ w'.cell? ⟨b, off + k * 3 + 2, none⟩ = some (.int .i64 x.b)) (by kernel_rfl) (HCE.out _ LD) (fun hHeld => ?_)
      refine wpAnyH_takeL (i := 0) (v := ?_) rfl (by kernel_rfl) (by kernel_rfl) (by kernel_rfl) (fun _ _ _ h => h) (Or.inl ⟨by rfl, ?_⟩) (by assumption) ?_
      rotate_left 1
      · (intro w hSw; (try dsimp only at hSw); go_simp; try with_reducible rfl)
      try simp only [Act.put, List.setIfInBounds_toArray, List.set_cons_zero, List.set_cons_succ]
      refine wpAnyH_takeL (i := 1) (v := ?_) rfl (by kernel_rfl) (by kernel_rfl) (by kernel_rfl) (fun _ _ _ h => h) (Or.inl ⟨by rfl, ?_⟩) (by assumption) ?_
      rotate_left 1
      · (intro w hSw; (try dsimp only at hSw); go_simp; try with_reducible rfl)
      try simp only [Act.put, List.setIfInBounds_toArray, List.set_cons_zero, List.set_cons_succ]
      refine wpAnyH_takeL (i := 2) (v := ?_) rfl (by kernel_rfl) (by kernel_rfl) (by kernel_rfl) (fun _ _ _ h => h) (Or.inl ⟨by rfl, ?_⟩) (by assumption) ?_
      rotate_left 1
      · (intro w hSw; (try dsimp only at hSw); go_simp; try with_reducible rfl)
      try simp only [Act.put, List.setIfInBounds_toArray, List.set_cons_zero, List.set_cons_succ]
      refine wpAnyH_takeL (i := 4) (v := ?_) rfl (by kernel_rfl) (by kernel_rfl) (by kernel_rfl) (fun _ _ _ h => h) (Or.inl ⟨by rfl, ?_⟩) (by assumption) ?_
      rotate_left 1
      · (intro w hSw; (try dsimp only at hSw); go_simp; try with_reducible rfl)
      try simp only [Act.put, List.setIfInBounds_toArray, List.set_cons_zero, List.set_cons_succ]
      refine wpAnyH_takeL (i := 5) (v := ?_) rfl (by kernel_rfl) (by kernel_rfl) (by kernel_rfl) (fun _ _ _ h => h) (Or.inl ⟨by rfl, ?_⟩) (by assumption) ?_
      rotate_left 1
      · (intro w hSw; (try dsimp only at hSw); go_simp; try with_reducible rfl)
      try simp only [Act.put, List.setIfInBounds_toArray, List.set_cons_zero, List.set_cons_succ]
      refine wpAnyH_takeL (i := 6) (v := ?_) rfl (by kernel_rfl) (by kernel_rfl) (by kernel_rfl) (fun _ _ _ h => h) (Or.inl ⟨by rfl, ?_⟩) (by assumption) ?_
      rotate_left 1
      · (intro w hSw; (try dsimp only at hSw); go_simp; try with_reducible rfl)
      try simp only [Act.put, List.setIfInBounds_toArray, List.set_cons_zero, List.set_cons_succ]
      refine wpAnyH_takeL (i := 7) (v := ?_) rfl (by kernel_rfl) (by kernel_rfl) (by kernel_rfl) (fun _ _ _ h => h) (Or.inl ⟨by rfl, ?_⟩) (by assumption) ?_
      rotate_left 1
      · (intro w hSw; (try dsimp only at hSw); go_simp; try with_reducible rfl)
      try simp only [Act.put, List.setIfInBounds_toArray, List.set_cons_zero, List.set_cons_succ]
      refine wpAnyH_ready (rs := [3]) (by kernel_rfl) (by simp) (AllReadyH.consL (i := 3) rfl (fun K hK => ?_) AllReadyH.nil)
      go_simp
      go_at_call 30
      refine (cloneExit_any _ k cap (L.take k) _ SLD (by omega)).mono ?_
      rintro e w3 ⟨v3, rfl, D3, hle⟩
      have L3 := LD.trans hle
      have HC3 := Lib.hid (HCE.out _ L3)
      have g0 := (L3.frozen zx).trans f0
      have g1 := (L3.frozen zx).trans f1
      have g2 := (L3.frozen zx).trans f2
      have y0 := (L3.cell zx).trans x0
      have y1 := (L3.cell zx).trans x1
      have y2 := (L3.cell zx).trans x2
      refine hK.out _ _ (HC3.out) (fun hHeld => ?_)
      clear hK K
      try simp only [Act.put, List.setIfInBounds_toArray, List.set_cons_zero, List.set_cons_succ]
      refine wpAnyH_takeL (i := 8) (v := ?_) rfl (by kernel_rfl) (by kernel_rfl) (by kernel_rfl) (fun _ _ _ h => h) (Or.inl ⟨by rfl, ?_⟩) (by assumption) ?_
      rotate_left 1
      · (intro w hSw; (try dsimp only at hSw); go_simp; try with_reducible rfl)
      try simp only [Act.put, List.setIfInBounds_toArray, List.set_cons_zero, List.set_cons_succ]
      refine wpAnyH_ready (rs := [9]) (by kernel_rfl) (by simp) (AllReadyH.consL (i := 9) rfl (fun K hK => ?_) AllReadyH.nil)
      go_simp
      have HEND := Lib.hid (set3 (k := .int .i64 x.kind) (a := .int .i64 x.a) (b := .int .i64 x.b) y0 y1 y2)
      have hbw : w.heap.size + 1 ≠ b := by omega
      have HC4 := Lib.hid (show (((w3.setCell ⟨w.heap.size + 1, 0, none⟩ (.int .i64 x.kind)).setCell ⟨w.heap.size + 1, 1, none⟩ (.int .i64 x.a)).setCell ⟨w.heap.size + 1, 2, none⟩ (.int .i64 x.b)).cell? ⟨b, off + k * 3, none⟩ = some (.int .i64 x.kind) ∧ (((w3.setCell ⟨w.heap.size + 1, 0, none⟩ (.int .i64 x.kind)).setCell ⟨w.heap.size + 1, 1, none⟩ (.int .i64 x.a)).setCell ⟨w.heap.size + 1, 2, none⟩ (.int .i64 x.b)).cell? ⟨b, off + k * 3 + 1, none⟩ = some (.int .i64 x.a) ∧ (((w3.setCell ⟨w.heap.size + 1, 0, none⟩ (.int .i64 x.kind)).setCell ⟨w.heap.size + 1, 1, none⟩ (.int .i64 x.a)).setCell ⟨w.heap.size + 1, 2, none⟩ (.int .i64 x.b)).cell? ⟨b, off + k * 3 + 2, none⟩ = some (.int .i64 x.b) from ⟨by rw [cell_set_other (.inl hbw), cell_set_other (.inl hbw), cell_set_other (.inl hbw)]; exact HC3.out.1, by rw [cell_set_other (.inl hbw), cell_set_other (.inl hbw), cell_set_other (.inl hbw)]; exact HC3.out.2.1, by rw [cell_set_other (.inl hbw), cell_set_other (.inl hbw), cell_set_other (.inl hbw)]; exact HC3.out.2.2⟩)
      have L4 : Le w (((w3.setCell ⟨w.heap.size + 1, 0, none⟩ (.int .i64 x.kind)).setCell ⟨w.heap.size + 1, 1, none⟩ (.int .i64 x.a)).setCell ⟨w.heap.size + 1, 2, none⟩ (.int .i64 x.b)) := (((L0.trans L3).setCell (by omega) _).setCell (by omega) _).setCell (by omega) _
      have O3 := D3.row
      have HNB : ∀ g, (v3.ownBlock = some g) → w.heap.size + 1 < g := fun g hg => by have := (O3.lt g hg).1; have e : w1.drew.heap.size = w1.heap.size := rfl; omega
      have hno : v3.ownBlock = none ∨ v3.ownBlock ≠ some (w.heap.size + 1) := .inr (fun e => by have := HNB _ e; omega)
      have O4 := ((O3.kept (grown_set w3 (w.heap.size + 1) 0 (.int .i64 x.kind)) hno).kept (grown_set _ (w.heap.size + 1) 1 (.int .i64 x.a)) hno).kept (grown_set _ (w.heap.size + 1) 2 (.int .i64 x.b)) hno
      have HO : Hid (Owd 32 w (((w3.setCell ⟨w.heap.size + 1, 0, none⟩ (.int .i64 x.kind)).setCell ⟨w.heap.size + 1, 1, none⟩ (.int .i64 x.a)).setCell ⟨w.heap.size + 1, 2, none⟩ (.int .i64 x.b)) v3 (poX xs L)) := by
        show Owd _ _ _ _ _
        rw [HPX.out]
        exact ⟨own_mono O4 (L0.trans LD).size, D3.ok⟩
      clear O4 O3 hno HNB hbw D3 y0 y1 y2
      generalize (((w3.setCell ⟨w.heap.size + 1, 0, none⟩ (.int .i64 x.kind)).setCell ⟨w.heap.size + 1, 1, none⟩ (.int .i64 x.a)).setCell ⟨w.heap.size + 1, 2, none⟩ (.int .i64 x.b)) = W5 at *
      obtain ⟨z0, z1, z2⟩ := HEND.out
      refine hK.out _ _ (HC4.out) (fun hHeld => ?_)
      clear hK K
      try simp only [Act.put, List.setIfInBounds_toArray, List.set_cons_zero, List.set_cons_succ]
      refine wpAnyH_takeL (i := 10) (v := ?_) rfl (by kernel_rfl) (by kernel_rfl) (by kernel_rfl) (fun _ _ _ h => h) (Or.inl ⟨by rfl, ?_⟩) (by assumption) ?_
      rotate_left 1
      · (intro w hSw; (try dsimp only at hSw); go_simp; try with_reducible rfl)
      try simp only [Act.put, List.setIfInBounds_toArray, List.set_cons_zero, List.set_cons_succ]
      refine wpAnyH_done (by kernel_rfl) ?_ _
      refine NoPanic.normal ?_
      go_wp2
      exact bodyPost_ret (v := .tuple #[v3, .agg #[.int .i64 x.kind, .int .i64 x.a, .int .i64 x.b], .bool true]) (by simp [results, Try.results16, go_sem, z0, z1, z2]) rfl ⟨_, ret3x HF.out.symm HE.out.symm rfl, HO.out, L4⟩
end Go.Proofs.Ytdpojpgdfklfkaa
