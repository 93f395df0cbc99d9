/- exits: actionOf, stepsOf of the program -/
import Derived.Test.YtacilbglnhgifaaLvA
import Derived.Test.YtacilbglnhgifaaTyExit
namespace Go.Proofs.Ytacilbglnhgifaa
open Go.RowKit
/-- what exits of a kind do, as a function -/
def kF (k : Int) : Nat := if k = 1 then 85 else if k = 2 then 86 else if k = 3 then 54 else 87
/-- an exit as a step -/
structure Stp where
  x : Xit
instance instEncStp : Enc Stp := ⟨3, fun s => [.func (.func (kF s.x.kind)) #[] #[], .int .i64 s.x.a, .int .i64 s.x.b], fun _ => True, fun _ => rfl⟩
theorem infoStp : (Try.prog.info? 109).map (fun i => (i.zero, i.size, i.bytes)) = some (some (.agg #[Value.nilFunc, .int .i64 0, .int .i64 0]), 3, 24) := by kernel_rfl
set_option maxRecDepth 100000 in
theorem actionOf_any (k : Int) (w : World) : Calls Try.prog 76 #[.int .i64 k] w fun e w' => e = .returned (.func (.func (kF k)) #[] #[]) ∧ w = w' := by
  by_cases h1 : k = 1
  · subst h1
    go_enter Try.func76, Try.ntmps76
    go_wp2
    go_ret
    exact ⟨rfl, rfl⟩
  · by_cases h2 : k = 2
    · subst h2
      go_enter Try.func76, Try.ntmps76
      go_wp2
      go_ret
      exact ⟨rfl, rfl⟩
    · by_cases h3 : k = 3
      · subst h3
        go_enter Try.func76, Try.ntmps76
        go_wp2
        go_ret
        exact ⟨rfl, rfl⟩
      · have e : kF k = 87 := by unfold kF; rw [if_neg h1, if_neg h2, if_neg h3]
        have b1 : (k == 1) = false := by simp; omega
        have b2 : (k == 2) = false := by simp; omega
        have b3 : (k == 3) = false := by simp; omega
        rw [e]
        clear e h1 h2 h3
        go_enter Try.func76, Try.ntmps76
        go_wp2
        go_ret
        exact ⟨rfl, rfl⟩
theorem Sl.stp_at {w : World} {A : Option Addr} {n cap : Nat} {L : List Xit} (h : Sl w A n cap (L.map Stp.mk)) {k : Nat} (hk : k < L.length) :
    ∃ b off, A = some ⟨b, off, none⟩ ∧ b < w.heap.size ∧ w.cell? ⟨b, off + k * 3, none⟩ = some (.func (.func (kF L[k].kind)) #[] #[]) ∧ w.cell? ⟨b, off + k * 3 + 1, none⟩ = some (.int .i64 L[k].a) ∧ w.cell? ⟨b, off + k * 3 + 2, none⟩ = some (.int .i64 L[k].b) := by
  obtain ⟨b, off, e, hb, hc⟩ := h.cells_ (k := k) (by simpa using hk)
  rw [List.getElem_map] at hc
  have h0 := hc 0 (by decide) _ rfl
  have h1 := hc 1 (by decide) _ rfl
  have h2 := hc 2 (by decide) _ rfl
  exact ⟨b, off, e, hb, by simpa [Enc.size] using h0, by simpa [Enc.size, Nat.add_assoc] using h1, by simpa [Enc.size, Nat.add_assoc] using h2⟩
theorem stp_row {ys : List Stp} {k : Nat} {x : Stp} (h : ys[k]? = some x) (r0 r1 r2 : Value) (rr : List Value) : (ys.take (k + 1)).flatMap Enc.cells ++ rr =
    (((((ys.take k).flatMap Enc.cells ++ r0 :: r1 :: r2 :: rr).set (k * 3) (.func (.func (kF x.x.kind)) #[] #[])).set (k * 3 + 1) (.int .i64 x.x.a)).set (k * 3 + 2) (.int .i64 x.x.b)) := by
  obtain ⟨hk, hx⟩ := List.getElem?_eq_some_iff.1 h
  have hfl : ((ys.take k).flatMap (Enc.cells (α := Stp))).length = k * 3 := by rw [flat_len, List.length_take]; show _ * 3 = _; rw [Nat.min_eq_left (by omega)]
  rw [List.take_succ_eq_append_getElem hk, List.flatMap_append, List.set_append_right _ _ (by omega), List.set_append_right _ _ (by omega), List.set_append_right _ _ (by omega), hfl, hx]
  simp [Enc.cells]
set_option maxHeartbeats 2000000 in
set_option maxRecDepth 100000 in
theorem stepsOf_any (A : Option Addr) (n cap : Nat) (L : List Xit) (hsm : L.length ≤ 1048576) (w : World) (hR : Sl w A n cap L) :
    Calls Try.prog 56 #[.slice A n cap] w fun e w' => ∃ A', e = .returned (.slice A' n n) ∧ Sl w' A' n n (L.map Stp.mk) ∧ Le w w' := by
  obtain rfl := hR.len
  obtain ⟨j0, hj, hy0, hy1, hy2⟩ := info_parts infoStp
  have hb2 : j0.bytes * L.length ≤ 281474976710656 := by rw [hy2]; omega
  go_enter Try.func56, Try.ntmps56
  go_wp2_with (refine wpList_make_full _ rfl _ _ 95 rfl w.heap.size 109 j0 _ 3 Try.underlying95 hj hy0 hy1 .i64 .i64 _ _ L.length rfl rfl rfl rfl hb2 (by unfold maxLen; omega) (by simp) ?_; intro w1 OF hg1; have L1 := (Le.refl w).grown hg1 (by intro k hk; cases hk); clear hg1)
  go_loopw [11] (fun q wr => ∃ k : Nat, ∃ r : List Value, k ≤ L.length ∧ q = .int .i64 k ∧ r.length = (L.length - k) * 3 ∧ wr.ownsRow w.heap.size 109 3 (.slice (some ⟨w.heap.size, 0, none⟩) L.length L.length) L.length (((L.map Stp.mk).take k).flatMap Enc.cells ++ r) ∧ Le w wr) (fun q _ => L.length - (intOf q).toNat)
  case atStart => exact ⟨0, _, Nat.zero_le _, rfl, by simp [madeCells], OF, L1⟩
  case round =>
    obtain ⟨k, r, hk, rfl, hr, O1, LL⟩ := hrel
    have R1 := hR.le LL
    clear OF L1 hR
    by_cases hlt : k < L.length
    · have hk0 : (0 : Int) ≤ (k : Int) := by omega
      have hkn : (k : Int) < (L.length : Int) := by omega
      obtain ⟨b, off, rfl, hb, d0, d1, d2, -⟩ := R1.xit_at hlt
      match r, hr with
      | [], h => simp at h; omega
      | [_], h => simp at h; omega
      | [_, _], h => simp at h; omega
      | r0 :: r1 :: r2 :: rr, hr =>
      have hml : (L.map Stp.mk).length = L.length := List.length_map ..
      have HE := Lib.hid (stp_row (ys := L.map Stp.mk) (k := k) (x := ⟨L[k]⟩) (by rw [List.getElem?_map, List.getElem?_eq_getElem hlt]; rfl) r0 r1 r2 rr)
      have hfl : (((L.map Stp.mk).take k).flatMap (Enc.cells (α := Stp))).length = k * 3 := by rw [flat_len, List.length_take]; show _ * 3 = _; rw [Nat.min_eq_left (by omega)]
      generalize L.map Stp.mk = ys at *
      dsimp only at HE
      generalize L[k].kind = vk at *
      have HK := Lib.hid (actionOf_any vk)
      generalize kF vk = F at *
      generalize L[k].a = va at *
      generalize L[k].b = vb at *
      go_wp2_with fail
      have LW := (Le.new wr (.cells #[.int .i64 vk, .int .i64 va, .int .i64 vb] 61)).drew
      have zb : wr.heap.size < (wr.alloc (.cells #[.int .i64 vk, .int .i64 va, .int .i64 vb] 61)).drew.heap.size := by show _ < (wr.alloc _).heap.size; simp
      have b0 : (wr.alloc (.cells #[.int .i64 vk, .int .i64 va, .int .i64 vb] 61)).drew.cell? ⟨wr.heap.size, 0, none⟩ = some (.int .i64 vk) := by show (wr.alloc _).cell? _ = _; rw [World.cell?_alloc_at _ _ _ _ rfl]; rfl
      have b1 : (wr.alloc (.cells #[.int .i64 vk, .int .i64 va, .int .i64 vb] 61)).drew.cell? ⟨wr.heap.size, 1, none⟩ = some (.int .i64 va) := by show (wr.alloc _).cell? _ = _; rw [World.cell?_alloc_at _ _ _ _ rfl]; rfl
      have b2 : (wr.alloc (.cells #[.int .i64 vk, .int .i64 va, .int .i64 vb] 61)).drew.cell? ⟨wr.heap.size, 2, none⟩ = some (.int .i64 vb) := by show (wr.alloc _).cell? _ = _; rw [World.cell?_alloc_at _ _ _ _ rfl]; rfl
      refine wp_region_noPanic ?_
      refine wp_region_Z (fun w' => w'.cell? ⟨wr.heap.size, 0, none⟩ = some (.int .i64 vk) ∧ w'.cell? ⟨wr.heap.size, 1, none⟩ = some (.int .i64 va) ∧ w'.cell? ⟨wr.heap.size, 2, none⟩ = some (.int .i64 vb)) [11] (by kernel_rfl) ?_
      generalize (wr.alloc (.cells #[.int .i64 vk, .int .i64 va, .int .i64 vb] 61)).drew = W at *
      have OW := own_le O1 LW
      have hc0 : W.cell? ⟨w.heap.size, k * 3, none⟩ = some r0 := by rw [OW.cellAt _ (by omega), List.getElem?_append_right (by omega), hfl]; simp
      have hc1 : W.cell? ⟨w.heap.size, k * 3 + 1, none⟩ = some r1 := by rw [OW.cellAt _ (by omega), List.getElem?_append_right (by omega), hfl]; simp
      have hc2 : W.cell? ⟨w.heap.size, k * 3 + 2, none⟩ = some r2 := by rw [OW.cellAt _ (by omega), List.getElem?_append_right (by omega), hfl]; simp
      have hf0 := OW.frozenAt (k * 3)
      have hf1 := OW.frozenAt (k * 3 + 1)
      have hf2 := OW.frozenAt (k * 3 + 2)
      have hd1 : (W.setCell ⟨w.heap.size, k * 3, none⟩ (.func (.func F) #[] #[])).cell? ⟨w.heap.size, k * 3 + 1, none⟩ = some r1 := (cell_set_other (.inr (by omega))).trans hc1
      have hg1 : (W.setCell ⟨w.heap.size, k * 3, none⟩ (.func (.func F) #[] #[])).frozen? ⟨w.heap.size, k * 3 + 1, none⟩ = false := (fr_set _ _ _ _ _).trans hf1
      have hd2 : ((W.setCell ⟨w.heap.size, k * 3, none⟩ (.func (.func F) #[] #[])).setCell ⟨w.heap.size, k * 3 + 1, none⟩ (.int .i64 va)).cell? ⟨w.heap.size, k * 3 + 2, none⟩ = some r2 := (cell_set_other (.inr (by omega))).trans ((cell_set_other (.inr (by omega))).trans hc2)
      have hg2 : ((W.setCell ⟨w.heap.size, k * 3, none⟩ (.func (.func F) #[] #[])).setCell ⟨w.heap.size, k * 3 + 1, none⟩ (.int .i64 va)).frozen? ⟨w.heap.size, k * 3 + 2, none⟩ = false := (fr_set _ _ _ _ _).trans ((fr_set _ _ _ _ _).trans hf2)
      have hs0 : (store ⟨w.heap.size, k * 3, none⟩ (.func (.func F) #[] #[])).run Try.prog W = .ok () (W.setCell ⟨w.heap.size, k * 3, none⟩ (.func (.func F) #[] #[])) := by rw [run_store _ _ _ _ _ rfl, hc0]; simp [hf0]
      have H1 := Lib.hid (((OW.stored (k * 3) (.func (.func F) #[] #[])).1.stored (k * 3 + 1) (.int .i64 va)).1.stored (k * 3 + 2) (.int .i64 vb)).1
      have LX := (LL.trans LW)
      have LF := (((LX.setCell (b := w.heap.size) (o := k * 3) (Nat.le_refl _) (.func (.func F) #[] #[])).setCell (b := w.heap.size) (o := k * 3 + 1) (Nat.le_refl _) (.int .i64 va)).setCell (b := w.heap.size) (o := k * 3 + 2) (Nat.le_refl _) (.int .i64 vb))
      rw [← HE.out] at H1
      clear O1 LL OW LW HE
      refine wpAnyZ_take (i := 0) (v := ?_) rfl (by kernel_rfl) (fun _ _ _ h => h) (Or.inl ⟨by rfl, ?_⟩) (⟨b0, b1, b2⟩) ?_
      rotate_left 1
      · (intro w hSw; (try dsimp only at hSw); go_simp; try with_reducible rfl)
      try simp only [Act.put, List.setIfInBounds_toArray, List.set_cons_zero, List.set_cons_succ]
      refine wpAnyZ_take (i := 1) (v := ?_) rfl (by kernel_rfl) (fun _ _ _ h => h) (Or.inl ⟨by rfl, ?_⟩) (⟨b0, b1, b2⟩) ?_
      rotate_left 1
      · (intro w hSw; (try dsimp only at hSw); go_simp; try with_reducible rfl)
      try simp only [Act.put, List.setIfInBounds_toArray, List.set_cons_zero, List.set_cons_succ]
      refine wpAnyZ_take (i := 2) (v := ?_) rfl (by kernel_rfl) (fun _ _ _ h => h) (Or.inl ⟨by rfl, ?_⟩) (⟨b0, b1, b2⟩) ?_
      rotate_left 1
      · (intro w hSw; (try dsimp only at hSw); go_simp; try with_reducible rfl)
      try simp only [Act.put, List.setIfInBounds_toArray, List.set_cons_zero, List.set_cons_succ]
      refine wpAnyZ_take (i := 3) (v := ?_) rfl (by kernel_rfl) (fun _ _ _ h => h) (Or.inl ⟨by rfl, ?_⟩) (⟨b0, b1, b2⟩) ?_
      rotate_left 1
      · (intro w hSw; (try dsimp only at hSw); go_simp; try with_reducible rfl)
      try simp only [Act.put, List.setIfInBounds_toArray, List.set_cons_zero, List.set_cons_succ]
      refine wpAnyZ_take (i := 5) (v := ?_) rfl (by kernel_rfl) (fun _ _ _ h => h) (Or.inl ⟨by rfl, ?_⟩) (⟨b0, b1, b2⟩) ?_
      rotate_left 1
      · (intro w hSw; (try dsimp only at hSw); go_simp; try with_reducible rfl)
      try simp only [Act.put, List.setIfInBounds_toArray, List.set_cons_zero, List.set_cons_succ]
      refine wpAnyZ_take (i := 6) (v := ?_) rfl (by kernel_rfl) (fun _ _ _ h => h) (Or.inl ⟨by rfl, ?_⟩) (⟨b0, b1, b2⟩) ?_
      rotate_left 1
      · (intro w hSw; (try dsimp only at hSw); go_simp; try with_reducible rfl)
      try simp only [Act.put, List.setIfInBounds_toArray, List.set_cons_zero, List.set_cons_succ]
      refine wpAnyZ_take (i := 7) (v := ?_) rfl (by kernel_rfl) (fun _ _ _ h => h) (Or.inl ⟨by rfl, ?_⟩) (⟨b0, b1, b2⟩) ?_
      rotate_left 1
      · (intro w hSw; (try dsimp only at hSw); go_simp; try with_reducible rfl)
      try simp only [Act.put, List.setIfInBounds_toArray, List.set_cons_zero, List.set_cons_succ]
      refine wpAnyZ_take (i := 8) (v := ?_) rfl (by kernel_rfl) (fun _ _ _ h => h) (Or.inl ⟨by rfl, ?_⟩) (⟨b0, b1, b2⟩) ?_
      rotate_left 1
      · (intro w hSw; (try dsimp only at hSw); go_simp; try with_reducible rfl)
      try simp only [Act.put, List.setIfInBounds_toArray, List.set_cons_zero, List.set_cons_succ]
      refine wpAnyZ_one (i := 4) (by kernel_rfl) (ReadyZ.mk rfl (fun K hK => ?_))
      go_simp
      go_at_call 76
      refine (HK.out W).mono ?_
      rintro e w2 ⟨rfl, rfl⟩
      refine hK.out _ _ (fun _ => ⟨b0, b1, b2⟩) ?_
      clear hK K
      try simp only [Act.put, List.setIfInBounds_toArray, List.set_cons_zero, List.set_cons_succ]
      refine wpAnyZ_take (i := 9) (v := ?_) rfl (by kernel_rfl) (fun _ _ _ h => h) (Or.inl ⟨by rfl, ?_⟩) (⟨b0, b1, b2⟩) ?_
      rotate_left 1
      · (intro w hSw; (try dsimp only at hSw); go_simp; try with_reducible rfl)
      try simp only [Act.put, List.setIfInBounds_toArray, List.set_cons_zero, List.set_cons_succ]
      refine wpAnyZ_take (i := 10) (v := ?_) rfl (by kernel_rfl) (fun _ _ _ h => h) (Or.inl ⟨by rfl, ?_⟩) (⟨b0, b1, b2⟩) ?_
      rotate_left 1
      · (intro w hSw; (try dsimp only at hSw); go_simp; try with_reducible rfl)
      try simp only [Act.put, List.setIfInBounds_toArray, List.set_cons_zero, List.set_cons_succ]
      refine wpAnyZ_one (i := 11) (by kernel_rfl) (ReadyZ.mk rfl (fun K hK => ?_))
      go_simp
      refine hK.out _ _ (fun h => absurd h (by decide)) ?_
      clear hK K
      try simp only [Act.put, List.setIfInBounds_toArray, List.set_cons_zero, List.set_cons_succ]
      refine wpAnyZ_done (by kernel_rfl) ?_ _
      refine NoPanic.normal ?_
      go_wp2
      go_roundw
      case rel => exact ⟨k + 1, rr, by omega, by go_num, by simp at hr; omega, H1.out, LF⟩
      case measure => simp [intOf]; omega
    · have hk' : k = L.length := by omega
      have hr0 : r = [] := List.eq_nil_of_length_eq_zero (by rw [hr, hk']; simp)
      have HO : Hid (wr.ownsRow w.heap.size 109 3 (.slice (some ⟨w.heap.size, 0, none⟩) L.length L.length) L.length ((L.map Stp.mk).flatMap Enc.cells)) := by
        show World.ownsRow _ _ _ _ _ _ _
        have e : (L.map Stp.mk).take L.length = L.map Stp.mk := List.take_of_length_le (by simp)
        rw [hk', hr0, List.append_nil, e] at O1; exact O1
      clear O1 hr
      go_wp2
      go_ret
      exact ⟨_, rfl, Sl.of_own HO.out rfl (by decide) (fun _ _ => trivial), LL⟩
end Go.Proofs.Ytacilbglnhgifaa
