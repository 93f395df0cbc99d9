/- one text of LvC, LvD, PC, HpA -/
import Derived.Test.YtacilbglnhgifaaCe5
import Derived.Test.YtacilbglnhgifaaCe2
import Derived.Test.YtacilbglnhgifaaCe1
import Derived.Test.YtacilbglnhgifaaCe3
namespace Go.Proofs.Ytacilbglnhgifaa
open Go.RowKit
set_option linter.unusedVariables false
section
/-- what exits of a kind do, as a function -/
def kF (k : Int) : Nat := if k = 1 then 85 else if k = 2 then 86 else if k = 3 then 54 else 87
/-- an exit as a step -/
structure Stp where
  x : Xit
instance instEncStp : Enc Stp := ⟨3, fun s => [.func (.func (kF s.x.kind)) #[] #[], .int .i64 s.x.a, .int .i64 s.x.b], fun _ => True, fun _ => rfl⟩
theorem infoStp : (Try.prog.info? 109).map (fun i => (i.zero, i.size, i.bytes)) = some (some (.agg #[Value.nilFunc, .int .i64 0, .int .i64 0]), 3, 24) := by kernel_rfl
set_option maxRecDepth 100000 in
theorem actionOf_any (k : Int) (w : World) : Calls Try.prog 76 #[.int .i64 k] w fun e w' => e = .returned (.func (.func (kF k)) #[] #[]) ∧ w = w' := by
  by_cases h1 : k = 1
  · subst h1
    go_enter Try.func76, Try.ntmps76
    go_wp2
    go_ret
    exact ⟨rfl, rfl⟩
  · by_cases h2 : k = 2
    · subst h2
      go_enter Try.func76, Try.ntmps76
      go_wp2
      go_ret
      exact ⟨rfl, rfl⟩
    · by_cases h3 : k = 3
      · subst h3
        go_enter Try.func76, Try.ntmps76
        go_wp2
        go_ret
        exact ⟨rfl, rfl⟩
      · have e : kF k = 87 := by unfold kF; rw [if_neg h1, if_neg h2, if_neg h3]
        have b1 : (k == 1) = false := by simp; omega
        have b2 : (k == 2) = false := by simp; omega
        have b3 : (k == 3) = false := by simp; omega
        rw [e]
        clear e h1 h2 h3
        go_enter Try.func76, Try.ntmps76
        go_wp2
        go_ret
        exact ⟨rfl, rfl⟩
theorem Sl.stp_at {w : World} {A : Option Addr} {n cap : Nat} {L : List Xit} (h : Sl w A n cap (L.map Stp.mk)) {k : Nat} (hk : k < L.length) :
    ∃ b off, A = some ⟨b, off, none⟩ ∧ b < w.heap.size ∧ w.cell? ⟨b, off + k * 3, none⟩ = some (.func (.func (kF L[k].kind)) #[] #[]) ∧ w.cell? ⟨b, off + k * 3 + 1, none⟩ = some (.int .i64 L[k].a) ∧ w.cell? ⟨b, off + k * 3 + 2, none⟩ = some (.int .i64 L[k].b) := by
  obtain ⟨b, off, e, hb, hc⟩ := h.cells_ (k := k) (by simpa using hk)
  rw [List.getElem_map] at hc
  have h0 := hc 0 (by decide) _ rfl
  have h1 := hc 1 (by decide) _ rfl
  have h2 := hc 2 (by decide) _ rfl
  exact ⟨b, off, e, hb, by simpa [Enc.size] using h0, by simpa [Enc.size, Nat.add_assoc] using h1, by simpa [Enc.size, Nat.add_assoc] using h2⟩
theorem stp_row {ys : List Stp} {k : Nat} {x : Stp} (h : ys[k]? = some x) (r0 r1 r2 : Value) (rr : List Value) : (ys.take (k + 1)).flatMap Enc.cells ++ rr =
    (((((ys.take k).flatMap Enc.cells ++ r0 :: r1 :: r2 :: rr).set (k * 3) (.func (.func (kF x.x.kind)) #[] #[])).set (k * 3 + 1) (.int .i64 x.x.a)).set (k * 3 + 2) (.int .i64 x.x.b)) := by
  obtain ⟨hk, hx⟩ := List.getElem?_eq_some_iff.1 h
  have hfl : ((ys.take k).flatMap (Enc.cells (α := Stp))).length = k * 3 := by rw [flat_len, List.length_take]; show _ * 3 = _; rw [Nat.min_eq_left (by omega)]
  rw [List.take_succ_eq_append_getElem hk, List.flatMap_append, List.set_append_right _ _ (by omega), List.set_append_right _ _ (by omega), List.set_append_right _ _ (by omega), hfl, hx]
  simp [Enc.cells]
set_option maxHeartbeats 2000000 in
set_option maxRecDepth 100000 in
theorem stepsOf_any (A : Option Addr) (n cap : Nat) (L : List Xit) (hsm : L.length ≤ 1048576) (w : World) (hR : Sl w A n cap L) :
    Calls Try.prog 56 #[.slice A n cap] w fun e w' => ∃ A', e = .returned (.slice A' n n) ∧ Sl w' A' n n (L.map Stp.mk) ∧ Le w w' := by
  obtain rfl := hR.len
  obtain ⟨j0, hj, hy0, hy1, hy2⟩ := info_parts infoStp
  have hb2 : j0.bytes * L.length ≤ 281474976710656 := by rw [hy2]; omega
  go_enter Try.func56, Try.ntmps56
  go_wp2_with (refine wpList_make_full _ rfl _ _ 95 rfl w.heap.size 109 j0 _ 3 Try.underlying95 hj hy0 hy1 .i64 .i64 _ _ L.length rfl rfl rfl rfl hb2 (by unfold maxLen; omega) (by simp) ?_; intro w1 OF hg1; have L1 := (Le.refl w).grown hg1 (by intro k hk; cases hk); clear hg1)
  go_loopw [11] (fun q wr => ∃ k : Nat, ∃ r : List Value, k ≤ L.length ∧ q = .int .i64 k ∧ r.length = (L.length - k) * 3 ∧ wr.ownsRow w.heap.size 109 3 (.slice (some ⟨w.heap.size, 0, none⟩) L.length L.length) L.length (((L.map Stp.mk).take k).flatMap Enc.cells ++ r) ∧ Le w wr) (fun q _ => L.length - (intOf q).toNat)
  case atStart => exact ⟨0, _, Nat.zero_le _, rfl, by simp [madeCells], OF, L1⟩
  case round =>
    obtain ⟨k, r, hk, rfl, hr, O1, LL⟩ := hrel
    have R1 := hR.le LL
    clear OF L1 hR
    by_cases hlt : k < L.length
    · have hk0 : (0 : Int) ≤ (k : Int) := by omega
      have hkn : (k : Int) < (L.length : Int) := by omega
      obtain ⟨b, off, rfl, hb, d0, d1, d2, -⟩ := R1.xit_at hlt
      match r, hr with
      | [], h => simp at h; omega
      | [_], h => simp at h; omega
      | [_, _], h => simp at h; omega
      | r0 :: r1 :: r2 :: rr, hr =>
      have hml : (L.map Stp.mk).length = L.length := List.length_map ..
      have HE := Lib.hid (stp_row (ys := L.map Stp.mk) (k := k) (x := ⟨L[k]⟩) (by rw [List.getElem?_map, List.getElem?_eq_getElem hlt]; rfl) r0 r1 r2 rr)
      have hfl : (((L.map Stp.mk).take k).flatMap (Enc.cells (α := Stp))).length = k * 3 := by rw [flat_len, List.length_take]; show _ * 3 = _; rw [Nat.min_eq_left (by omega)]
      generalize L.map Stp.mk = ys at *
      dsimp only at HE
      generalize L[k].kind = vk at *
      have HK := Lib.hid (actionOf_any vk)
      generalize kF vk = F at *
      generalize L[k].a = va at *
      generalize L[k].b = vb at *
      go_wp2_with fail
      have LW := (Le.new wr (.cells #[.int .i64 vk, .int .i64 va, .int .i64 vb] 61)).drew
      have zb : wr.heap.size < (wr.alloc (.cells #[.int .i64 vk, .int .i64 va, .int .i64 vb] 61)).drew.heap.size := by show _ < (wr.alloc _).heap.size; simp
      have b0 : (wr.alloc (.cells #[.int .i64 vk, .int .i64 va, .int .i64 vb] 61)).drew.cell? ⟨wr.heap.size, 0, none⟩ = some (.int .i64 vk) := by show (wr.alloc _).cell? _ = _; rw [World.cell?_alloc_at _ _ _ _ rfl]; rfl
      have b1 : (wr.alloc (.cells #[.int .i64 vk, .int .i64 va, .int .i64 vb] 61)).drew.cell? ⟨wr.heap.size, 1, none⟩ = some (.int .i64 va) := by show (wr.alloc _).cell? _ = _; rw [World.cell?_alloc_at _ _ _ _ rfl]; rfl
      have b2 : (wr.alloc (.cells #[.int .i64 vk, .int .i64 va, .int .i64 vb] 61)).drew.cell? ⟨wr.heap.size, 2, none⟩ = some (.int .i64 vb) := by show (wr.alloc _).cell? _ = _; rw [World.cell?_alloc_at _ _ _ _ rfl]; rfl
      refine wp_region_noPanic ?_
      refine wp_region_Z (fun w' => w'.cell? ⟨wr.heap.size, 0, none⟩ = some (.int .i64 vk) ∧ w'.cell? ⟨wr.heap.size, 1, none⟩ = some (.int .i64 va) ∧ w'.cell? ⟨wr.heap.size, 2, none⟩ = some (.int .i64 vb)) [11] (by kernel_rfl) ?_
      generalize (wr.alloc (.cells #[.int .i64 vk, .int .i64 va, .int .i64 vb] 61)).drew = W at *
      have OW := own_le O1 LW
      have hc0 : W.cell? ⟨w.heap.size, k * 3, none⟩ = some r0 := by rw [OW.cellAt _ (by omega), List.getElem?_append_right (by omega), hfl]; simp
      have hc1 : W.cell? ⟨w.heap.size, k * 3 + 1, none⟩ = some r1 := by rw [OW.cellAt _ (by omega), List.getElem?_append_right (by omega), hfl]; simp
      have hc2 : W.cell? ⟨w.heap.size, k * 3 + 2, none⟩ = some r2 := by rw [OW.cellAt _ (by omega), List.getElem?_append_right (by omega), hfl]; simp
      have hf0 := OW.frozenAt (k * 3)
      have hf1 := OW.frozenAt (k * 3 + 1)
      have hf2 := OW.frozenAt (k * 3 + 2)
      have hd1 : (W.setCell ⟨w.heap.size, k * 3, none⟩ (.func (.func F) #[] #[])).cell? ⟨w.heap.size, k * 3 + 1, none⟩ = some r1 := (cell_set_other (.inr (by omega))).trans hc1
      have hg1 : (W.setCell ⟨w.heap.size, k * 3, none⟩ (.func (.func F) #[] #[])).frozen? ⟨w.heap.size, k * 3 + 1, none⟩ = false := (fr_set _ _ _ _ _).trans hf1
      have hd2 : ((W.setCell ⟨w.heap.size, k * 3, none⟩ (.func (.func F) #[] #[])).setCell ⟨w.heap.size, k * 3 + 1, none⟩ (.int .i64 va)).cell? ⟨w.heap.size, k * 3 + 2, none⟩ = some r2 := (cell_set_other (.inr (by omega))).trans ((cell_set_other (.inr (by omega))).trans hc2)
      have hg2 : ((W.setCell ⟨w.heap.size, k * 3, none⟩ (.func (.func F) #[] #[])).setCell ⟨w.heap.size, k * 3 + 1, none⟩ (.int .i64 va)).frozen? ⟨w.heap.size, k * 3 + 2, none⟩ = false := (fr_set _ _ _ _ _).trans ((fr_set _ _ _ _ _).trans hf2)
      have hs0 : (store ⟨w.heap.size, k * 3, none⟩ (.func (.func F) #[] #[])).run Try.prog W = .ok () (W.setCell ⟨w.heap.size, k * 3, none⟩ (.func (.func F) #[] #[])) := by rw [run_store _ _ _ _ _ rfl, hc0]; simp [hf0]
      have H1 := Lib.hid (((OW.stored (k * 3) (.func (.func F) #[] #[])).1.stored (k * 3 + 1) (.int .i64 va)).1.stored (k * 3 + 2) (.int .i64 vb)).1
      have LX := (LL.trans LW)
      have LF := (((LX.setCell (b := w.heap.size) (o := k * 3) (Nat.le_refl _) (.func (.func F) #[] #[])).setCell (b := w.heap.size) (o := k * 3 + 1) (Nat.le_refl _) (.int .i64 va)).setCell (b := w.heap.size) (o := k * 3 + 2) (Nat.le_refl _) (.int .i64 vb))
      rw [← HE.out] at H1
      clear O1 LL OW LW HE
      refine wpAnyZ_take (i := 0) (v := ?_) rfl (by kernel_rfl) (fun _ _ _ h => h) (Or.inl ⟨by rfl, ?_⟩) (⟨b0, b1, b2⟩) ?_
      rotate_left 1
      · (intro w hSw; (try dsimp only at hSw); go_simp; try with_reducible rfl)
      try simp only [Act.put, List.setIfInBounds_toArray, List.set_cons_zero, List.set_cons_succ]
      refine wpAnyZ_take (i := 1) (v := ?_) rfl (by kernel_rfl) (fun _ _ _ h => h) (Or.inl ⟨by rfl, ?_⟩) (⟨b0, b1, b2⟩) ?_
      rotate_left 1
      · (intro w hSw; (try dsimp only at hSw); go_simp; try with_reducible rfl)
      try simp only [Act.put, List.setIfInBounds_toArray, List.set_cons_zero, List.set_cons_succ]
      refine wpAnyZ_take (i := 2) (v := ?_) rfl (by kernel_rfl) (fun _ _ _ h => h) (Or.inl ⟨by rfl, ?_⟩) (⟨b0, b1, b2⟩) ?_
      rotate_left 1
      · (intro w hSw; (try dsimp only at hSw); go_simp; try with_reducible rfl)
      try simp only [Act.put, List.setIfInBounds_toArray, List.set_cons_zero, List.set_cons_succ]
      refine wpAnyZ_take (i := 3) (v := ?_) rfl (by kernel_rfl) (fun _ _ _ h => h) (Or.inl ⟨by rfl, ?_⟩) (⟨b0, b1, b2⟩) ?_
      rotate_left 1
      · (intro w hSw; (try dsimp only at hSw); go_simp; try with_reducible rfl)
      try simp only [Act.put, List.setIfInBounds_toArray, List.set_cons_zero, List.set_cons_succ]
      refine wpAnyZ_take (i := 5) (v := ?_) rfl (by kernel_rfl) (fun _ _ _ h => h) (Or.inl ⟨by rfl, ?_⟩) (⟨b0, b1, b2⟩) ?_
      rotate_left 1
      · (intro w hSw; (try dsimp only at hSw); go_simp; try with_reducible rfl)
      try simp only [Act.put, List.setIfInBounds_toArray, List.set_cons_zero, List.set_cons_succ]
      refine wpAnyZ_take (i := 6) (v := ?_) rfl (by kernel_rfl) (fun _ _ _ h => h) (Or.inl ⟨by rfl, ?_⟩) (⟨b0, b1, b2⟩) ?_
      rotate_left 1
      · (intro w hSw; (try dsimp only at hSw); go_simp; try with_reducible rfl)
      try simp only [Act.put, List.setIfInBounds_toArray, List.set_cons_zero, List.set_cons_succ]
      refine wpAnyZ_take (i := 7) (v := ?_) rfl (by kernel_rfl) (fun _ _ _ h => h) (Or.inl ⟨by rfl, ?_⟩) (⟨b0, b1, b2⟩) ?_
      rotate_left 1
      · (intro w hSw; (try dsimp only at hSw); go_simp; try with_reducible rfl)
      try simp only [Act.put, List.setIfInBounds_toArray, List.set_cons_zero, List.set_cons_succ]
      refine wpAnyZ_take (i := 8) (v := ?_) rfl (by kernel_rfl) (fun _ _ _ h => h) (Or.inl ⟨by rfl, ?_⟩) (⟨b0, b1, b2⟩) ?_
      rotate_left 1
      · (intro w hSw; (try dsimp only at hSw); go_simp; try with_reducible rfl)
      try simp only [Act.put, List.setIfInBounds_toArray, List.set_cons_zero, List.set_cons_succ]
      refine wpAnyZ_one (i := 4) (by kernel_rfl) (ReadyZ.mk rfl (fun K hK => ?_))
      go_simp
      go_at_call 76
      refine (HK.out W).mono ?_
      rintro e w2 ⟨rfl, rfl⟩
      refine hK.out _ _ (fun _ => ⟨b0, b1, b2⟩) ?_
      clear hK K
      try simp only [Act.put, List.setIfInBounds_toArray, List.set_cons_zero, List.set_cons_succ]
      refine wpAnyZ_take (i := 9) (v := ?_) rfl (by kernel_rfl) (fun _ _ _ h => h) (Or.inl ⟨by rfl, ?_⟩) (⟨b0, b1, b2⟩) ?_
      rotate_left 1
      · (intro w hSw; (try dsimp only at hSw); go_simp; try with_reducible rfl)
      try simp only [Act.put, List.setIfInBounds_toArray, List.set_cons_zero, List.set_cons_succ]
      refine wpAnyZ_take (i := 10) (v := ?_) rfl (by kernel_rfl) (fun _ _ _ h => h) (Or.inl ⟨by rfl, ?_⟩) (⟨b0, b1, b2⟩) ?_
      rotate_left 1
      · (intro w hSw; (try dsimp only at hSw); go_simp; try with_reducible rfl)
      try simp only [Act.put, List.setIfInBounds_toArray, List.set_cons_zero, List.set_cons_succ]
      refine wpAnyZ_one (i := 11) (by kernel_rfl) (ReadyZ.mk rfl (fun K hK => ?_))
      go_simp
      refine hK.out _ _ (fun h => absurd h (by decide)) ?_
      clear hK K
      try simp only [Act.put, List.setIfInBounds_toArray, List.set_cons_zero, List.set_cons_succ]
      refine wpAnyZ_done (by kernel_rfl) ?_ _
      refine NoPanic.normal ?_
      go_wp2
      go_roundw
      case rel => exact ⟨k + 1, rr, by omega, by go_num, by simp at hr; omega, H1.out, LF⟩
      case measure => simp [intOf]; omega
    · have hk' : k = L.length := by omega
      have hr0 : r = [] := List.eq_nil_of_length_eq_zero (by rw [hr, hk']; simp)
      have HO : Hid (wr.ownsRow w.heap.size 109 3 (.slice (some ⟨w.heap.size, 0, none⟩) L.length L.length) L.length ((L.map Stp.mk).flatMap Enc.cells)) := by
        show World.ownsRow _ _ _ _ _ _ _
        have e : (L.map Stp.mk).take L.length = L.map Stp.mk := List.take_of_length_le (by simp)
        rw [hk', hr0, List.append_nil, e] at O1; exact O1
      clear O1 hr
      go_wp2
      go_ret
      exact ⟨_, rfl, Sl.of_own HO.out rfl (by decide) (fun _ _ => trivial), LL⟩
end

section
abbrev LvS := List Int × List Flt × Int
/-- what one exit does -/
def stX (xs : List Cls) (x : Xit) (s : LvS) : LvS :=
  if x.kind = 1 then (if 0 ≤ s.2.2 then s.1 ++ [x.a] else s.1, s.2.1, s.2.2)
  else if x.kind = 2 then (s.1, s.2.1, tkX xs s.2.1 s.2.2 x.a)
  else if x.kind = 3 then (s.1, s.2.1 ++ [⟨x.a, x.b, -1, s.2.2, false⟩], s.2.1.length)
  else (s.1 ++ [x.a], s.2.1, s.2.2)
/-- what exits do, from the last one to the first one -/
def clX (xs : List Cls) (L : List Xit) (s : LvS) : LvS := L.foldr (stX xs) s
structure LvOk (N : Nat) (s : LvS) : Prop where
  l : s.1.length ≤ N
  h : s.2.1.length ≤ N
  lo : -1 ≤ s.2.2
  hi : s.2.2 < s.2.1.length
theorem tkX_cases (xs : List Cls) (hs : List Flt) (fa a : Int) : tkX xs hs fa a = -1 ∨ tkX xs hs fa a = fa := by
  unfold tkX
  split
  · split
    · exact .inl rfl
    · exact .inr rfl
  · exact .inr rfl
theorem LvOk.step {N : Nat} {s : LvS} (h : LvOk N s) (xs : List Cls) (x : Xit) : LvOk (N + 1) (stX xs x s) := by
  have h1 := h.l
  have h2 := h.h
  have h3 := h.lo
  have h4 := h.hi
  unfold stX
  split
  · exact ⟨by dsimp only; split <;> (try rw [List.length_append]) <;> (try show _ + 1 ≤ _) <;> omega, by dsimp only; omega, h3, h4⟩
  · split
    · refine ⟨by dsimp only; omega, by dsimp only; omega, ?_, ?_⟩ <;> (dsimp only; rcases tkX_cases xs s.2.1 s.2.2 x.a with e | e <;> omega)
    · split
      · refine ⟨by dsimp only; omega, ?_, ?_, ?_⟩ <;> (dsimp only; try rw [List.length_append, List.length_singleton]) <;> omega
      · exact ⟨by dsimp only; rw [List.length_append]; show _ + 1 ≤ _; omega, by dsimp only; omega, h3, h4⟩
theorem act_any (w0 : World) (R m c : Nat) (B : Option Addr) (xs : List Cls) (lv hv : Value) (s : LvS) (x : Xit) (hx : Enc.ok x) (N : Nat) (hN : N ≤ 1000000) (ho : LvOk N s) (w : World) (h : Lv w0 w R B m c xs lv hv s.1 s.2.1 s.2.2) :
    LvTo w0 R B m c xs (kF x.kind) x.a x.b w (stX xs x s).1 (stX xs x s).2.1 (stX xs x s).2.2 := by
  have h1 := ho.l
  have h2 := ho.h
  have h3 := ho.lo
  have h4 := ho.hi
  have hxa : Enc.ok x.a := ⟨hx.2.2.1, hx.2.2.2.1⟩
  unfold stX kF
  by_cases k1 : x.kind = 1
  · rw [if_pos k1, if_pos k1]
    exact tellFault_any w0 R m c B xs lv hv s.1 s.2.1 s.2.2 x.a x.b hxa (by omega) w h
  · rw [if_neg k1, if_neg k1]
    by_cases k2 : x.kind = 2
    · rw [if_pos k2, if_pos k2]
      exact takeFault_any w0 R m c B xs lv hv s.1 s.2.1 s.2.2 x.a x.b h4 w h
    · rw [if_neg k2, if_neg k2]
      by_cases k3 : x.kind = 3
      · rw [if_pos k3, if_pos k3]
        exact putFault_any w0 R m c B xs lv hv s.1 s.2.1 s.2.2 x.a x.b ⟨hx.2.2.1, hx.2.2.2.1, hx.2.2.2.2.1, hx.2.2.2.2.2, by show (-9223372036854775808 : Int) ≤ -1; omega, by show (-1 : Int) ≤ 9223372036854775807; omega, by show (-9223372036854775808 : Int) ≤ s.2.2; omega, by show s.2.2 ≤ 9223372036854775807; omega⟩ (by omega) w h
      · rw [if_neg k3, if_neg k3]
        exact tellAlways_any w0 R m c B xs lv hv s.1 s.2.1 s.2.2 x.a x.b hxa (by omega) w h
/-- an exit's deferred call -/
def dfX (R : Nat) (x : Xit) : Deferred := { target := .fn (.func (kF x.kind)) #[], args := #[.pointer (some ⟨R, 0, none⟩), .int .i64 x.a, .int .i64 x.b] }
theorem inv_kF (k : Int) (args : Array Value) (w : World) : (invoke (.fn (.func (kF k)) #[]) args).run Try.prog w = .ok (.enter (kF k) args) w := by
  unfold kF
  split
  · simp [go_sem]
  · split
    · simp [go_sem]
    · split <;> simp [go_sem]
theorem leaves_do {fn : Func} {tmps : Array Value} (hr : ∀ w, (results fn tmps).run Try.prog w = .ok (.tuple #[]) w) (w0 : World) (R m c : Nat) (B : Option Addr) (xs : List Cls) (Q : Ending → World → Prop) : ∀ (K : List Xit) (_ : ∀ x ∈ K, Enc.ok x) (s : LvS) (N : Nat) (_ : N + K.length ≤ 1000000) (_ : LvOk N s) (lv hv : Value) (w : World) (_ : Lv w0 w R B m c xs lv hv s.1 s.2.1 s.2.2)
    (_ : ∀ w' lv' hv', Lv w0 w' R B m c xs lv' hv' (K.foldl (fun s x => stX xs x s) s).1 (K.foldl (fun s x => stX xs x s) s).2.1 (K.foldl (fun s x => stX xs x s) s).2.2 → Q (.returned (.tuple #[])) w'),
    Leaves Try.prog fn tmps Q (K.map (dfX R)) .returning w
  | [], _, s, N, _, _, lv, hv, w, h, hQ => ⟨.tuple #[], hr w, hQ w lv hv h⟩
  | x :: K, hK, s, N, hN, ho, lv, hv, w, h, hQ => by
    rw [List.length_cons] at hN
    refine leaves_cons (f := kF x.kind) (args := #[.pointer (some ⟨R, 0, none⟩), .int .i64 x.a, .int .i64 x.b]) (by simp) (inv_kF _ _ _) ?_
    refine ((act_any w0 R m c B xs lv hv s x (hK x (List.mem_cons_self ..)) N (by omega) ho w h).2 .returning).mono ?_
    rintro e u' w' ⟨rfl, rfl, lv', hv', h'⟩
    exact leaves_do hr w0 R m c B xs Q K (fun y hy => hK y (List.mem_cons_of_mem _ hy)) (stX xs x s) (N + 1) (by omega) (ho.step xs x) lv' hv' w' h' hQ
set_option maxHeartbeats 2000000 in
set_option maxRecDepth 100000 in
theorem do_any (w0 : World) (R m c : Nat) (B : Option Addr) (xs : List Cls) (lv hv : Value) (s : LvS) (L : List Xit) (hok : ∀ x ∈ L, Enc.ok x) (hl : L.length ≤ 100000) (ho : LvOk 10 s) (w : World) (h : Lv w0 w R B m c xs lv hv s.1 s.2.1 s.2.2) (A : Option Addr) (n cap : Nat) (hA : Sl w A n cap (L.map Stp.mk)) :
    Calls Try.prog 55 #[.pointer (some ⟨R, 0, none⟩), .slice A n cap] w fun e w' => e = .returned (.tuple #[]) ∧ ∃ lv' hv', Lv w0 w' R B m c xs lv' hv' (clX xs L s).1 (clX xs L s).2.1 (clX xs L s).2.2 := by
  have hn : n = L.length := by have := hA.len; rw [List.length_map] at this; exact this.symm
  subst hn
  go_enter_defers Try.func55, Try.ntmps55
  go_wp2
  refine wp_loop (fun a wr => ∃ (D : List Deferred) (u5 u8 u9 u10 u11 u12 u13 u14 u15 u16 u17 u18 u19 : Value), (∃ k : Nat, k ≤ L.length ∧ u8 = .int .i64 k ∧ Le w wr ∧ D = ((L.take k).reverse).map (dfX R)) ∧ a = { tmps := #[.pointer (some ⟨R, 0, none⟩), .slice A L.length cap, undef, undef, undef, u5, .slice A L.length cap, .int .i64 L.length, u8, u9, u10, u11, u12, u13, u14, u15, u16, u17, u18, u19], defers := D }) (fun a _ => L.length - (intOf (a.tmps.getD 8 undef)).toNat) ?_ ?_
  · repeat apply Exists.intro
    exact ⟨⟨0, Nat.zero_le _, rfl, Le.refl w, rfl⟩, rfl⟩
  · rintro a wr ⟨D, u5, u8, u9, u10, u11, u12, u13, u14, u15, u16, u17, u18, u19, ⟨k, hk, rfl, LL, hD⟩, rfl⟩
    try dsimp only
    by_cases hlt : k < L.length
    · have hk0 : (0 : Int) ≤ (k : Int) := by omega
      have hkn : (k : Int) < (L.length : Int) := by omega
      obtain ⟨b, off, rfl, hb, d0, d1, d2⟩ := (hA.le LL).stp_at hlt
      have HD : Hid (dfX R L[k] :: D = ((L.take (k + 1)).reverse).map (dfX R)) := by
        show _ = _
        rw [hD, List.take_succ_eq_append_getElem hlt, List.reverse_append]; rfl
      unfold dfX at HD
      clear hD h hA ho hok
      generalize kF L[k].kind = F at *
      generalize L[k].a = va at *
      generalize L[k].b = vb at *
      have LW := Lib.hid (LL.trans (Le.new wr (.cells #[.func (.func F) #[] #[], .int .i64 va, .int .i64 vb] 109)))
      have hst := fun (w' : World) (a : Addr) => run_store Try.prog w' a (.func (.func F) #[] #[]) .plain rfl
      go_wp2
      refine ⟨?_, ?_⟩
      · show ∃ _, _
        repeat apply Exists.intro
        refine ⟨?rel, rfl⟩
        case rel => exact ⟨k + 1, by omega, by go_num, LW.out, HD.out⟩
      · simp [intOf]; omega
    · have hkn : k = L.length := by omega
      have HL := Lib.hid (h.le LL)
      have HD : Hid (D = (L.reverse).map (dfX R)) := by
        show _ = _
        rw [hD, hkn, List.take_length]
      clear hD h hA
      go_wp2
      show Leaves Try.prog _ _ _ D .returning wr
      rw [HD.out]
      refine leaves_do (fun w => results_none rfl _ _ _) w0 R m c B xs _ L.reverse (fun x hx => hok x (List.mem_reverse.1 hx)) s 10 (by rw [List.length_reverse]; omega) ho lv hv wr HL.out ?_
      intro w' lv' hv' h'
      rw [List.foldl_reverse] at h'
      exact ⟨rfl, lv', hv', h'⟩
end

section
namespace Chn
theorem nodup_bound : ∀ (n : Nat) (L : List Int), L.Nodup → (∀ x ∈ L, 0 ≤ x ∧ x < n) → L.length ≤ n := by
  intro n
  induction n with
  | zero =>
    intro L _ h
    cases L with
    | nil => simp
    | cons x r => have := h x (by simp); omega
  | succ n ih =>
    intro L hn h
    by_cases hm : (n : Int) ∈ L
    · have h1 : (L.erase (n : Int)).Nodup := hn.erase _
      have h2 : ∀ x ∈ L.erase (n : Int), 0 ≤ x ∧ x < n := by
        intro x hx
        have hx' := (List.Nodup.mem_erase_iff hn).1 hx
        have := h x hx'.2
        have := hx'.1
        omega
      have := ih _ h1 h2
      rw [List.length_erase_of_mem hm] at this
      omega
    · have := ih L hn (fun x hx => by
        have := h x hx
        have : x ≠ n := fun e => hm (e ▸ hx)
        omega)
      omega

theorem nd_inj {L : List Int} (h : L.Nodup) {i j : Nat} (hi : i < L.length) (hj : j < L.length) (e : L[i] = L[j]) : i = j := by
  have hp := List.pairwise_iff_getElem.1 h
  rcases Nat.lt_trichotomy i j with h1 | h1 | h1
  · exact absurd e (hp i j hi hj h1)
  · exact h1
  · exact absurd e.symm (hp j i hj hi h1)

/-- L goes from f along nx, each once, as far as it can -/
structure Is (nx : Int → Int) (f : Int) (L : List Int) : Prop where
  nd : L.Nodup
  pos : ∀ x ∈ L, 0 ≤ x
  ne : L ≠ []
  hd : L.head? = some f
  st : ∀ k (h : k + 1 < L.length), L[k + 1] = nx L[k]
  en : ∀ x, L.getLast? = some x → nx x < 0 ∨ nx x ∈ L

def go (nx : Int → Int) : Nat → Int → List Int → List Int
  | 0, _, out => out
  | m + 1, f, out => if f < 0 ∨ f ∈ out then out else go nx m (nx f) (out ++ [f])

/-- what the chain's first part keeps to: f is next -/
structure Pre (nx : Int → Int) (n : Nat) (f0 f : Int) (out : List Int) : Prop where
  nd : out.Nodup
  rng : ∀ x ∈ out, 0 ≤ x ∧ x < n
  hd : out = [] ∧ f = f0 ∨ out.head? = some f0
  st : ∀ k (h : k + 1 < out.length), out[k + 1] = nx out[k]
  nxt : ∀ x, out.getLast? = some x → nx x = f
  lt : f < n
theorem Pre.start {nx : Int → Int} {n : Nat} {f : Int} (h : f < n) : Pre nx n f f [] :=
  ⟨by simp, by simp, .inl ⟨rfl, rfl⟩, by simp, by simp, h⟩
theorem Pre.step {nx : Int → Int} {n : Nat} {f0 f : Int} {out : List Int} (h : Pre nx n f0 f out) (hf : 0 ≤ f) (hm : f ∉ out) (hb : nx f < n) : Pre nx n f0 (nx f) (out ++ [f]) := by
  refine ⟨?_, ?_, ?_, ?_, ?_, hb⟩
  · rw [List.nodup_append]
    exact ⟨h.nd, by simp, fun a ha b hb e => by simp at hb; subst hb; subst e; exact hm ha⟩
  · intro x hx
    rcases List.mem_append.1 hx with hx | hx
    · exact h.rng x hx
    · simp at hx; subst hx; exact ⟨hf, h.lt⟩
  · right
    rcases h.hd with ⟨rfl, rfl⟩ | h1
    · rfl
    · cases out with
      | nil => simp at h1
      | cons a r => simpa using h1
  · intro k hk
    simp at hk
    by_cases e : k + 1 < out.length
    · rw [List.getElem_append_left e, List.getElem_append_left (by omega)]; exact h.st k e
    · have ek : k + 1 = out.length := by omega
      rw [List.getElem_append_right (by omega), List.getElem_append_left (by omega)]
      have hl : out.getLast? = some out[k] := by
        rw [List.getLast?_eq_getElem?, List.getElem?_eq_getElem (by omega)]
        simp only [← ek, Nat.add_sub_cancel]
      rw [h.nxt _ hl]
      simp [ek]
  · intro x hx
    simp at hx; rw [← hx]
theorem Pre.len {nx : Int → Int} {n : Nat} {f0 f : Int} {out : List Int} (h : Pre nx n f0 f out) : out.length ≤ n := nodup_bound n out h.nd h.rng
theorem Pre.done {nx : Int → Int} {n : Nat} {f0 f : Int} {out : List Int} (h : Pre nx n f0 f out) (hne : out ≠ []) (he : f < 0 ∨ f ∈ out) : Is nx f0 out := by
  refine ⟨h.nd, fun x hx => (h.rng x hx).1, hne, ?_, h.st, fun x hx => ?_⟩
  · rcases h.hd with ⟨h1, _⟩ | h1
    · exact absurd h1 hne
    · exact h1
  · rw [h.nxt x hx]; exact he

theorem go_is {nx : Int → Int} {n : Nat} {f0 : Int} (hb : ∀ x : Int, 0 ≤ x → x < n → nx x < n) (h0 : 0 ≤ f0) (h1 : f0 < n) :
    ∀ (m : Nat) (f : Int) (out : List Int), Pre nx n f0 f out → n + 1 ≤ m + out.length → Is nx f0 (go nx m f out) := by
  intro m
  induction m with
  | zero => intro f out h hm; have := h.len; omega
  | succ m ih =>
    intro f out h hm
    unfold go
    by_cases he : f < 0 ∨ f ∈ out
    · rw [if_pos he]
      refine h.done ?_ he
      rintro rfl
      rcases h.hd with ⟨_, rfl⟩ | h2
      · rcases he with he | he
        · omega
        · simp at he
      · simp at h2
    · rw [if_neg he]
      simp only [not_or, Int.not_lt] at he
      exact ih _ _ (h.step he.1 he.2 (hb f he.1 h.lt)) (by simp; omega)

theorem Is.at_eq {nx : Int → Int} {f : Int} {L M : List Int} (h : Is nx f L) (k : Is nx f M) : ∀ i (h1 : i < L.length) (h2 : i < M.length), L[i] = M[i] := by
  intro i
  induction i with
  | zero =>
    intro h1 h2
    have a := h.hd; have b := k.hd
    rw [List.head?_eq_getElem?, List.getElem?_eq_getElem h1] at a
    rw [List.head?_eq_getElem?, List.getElem?_eq_getElem h2] at b
    injection a with a; injection b with b
    rw [a, b]
  | succ i ih =>
    intro h1 h2
    rw [h.st i h1, k.st i h2, ih (by omega) (by omega)]
theorem Is.le_len {nx : Int → Int} {f : Int} {L M : List Int} (h : Is nx f L) (k : Is nx f M) : L.length ≤ M.length := by
  rcases Nat.lt_or_ge M.length L.length with hl | hl
  · exfalso
    have hm : 0 < M.length := by cases M with | nil => exact absurd rfl k.ne | cons _ _ => simp
    have e : M.getLast? = some M[M.length - 1] := by rw [List.getLast?_eq_getElem?, List.getElem?_eq_getElem (by omega)]
    have hn : L[M.length] = nx M[M.length - 1] := by
      have := h.st (M.length - 1) (by omega)
      have e2 : M.length - 1 + 1 = M.length := by omega
      simp only [e2] at this
      rw [this, h.at_eq k (M.length - 1) (by omega) (by omega)]
    rcases k.en _ e with hx | hx
    · have := h.pos L[M.length] (List.getElem_mem _); omega
    · rw [← hn] at hx
      obtain ⟨j, hj, hjj⟩ := List.getElem_of_mem hx
      rw [← h.at_eq k j (by omega) hj] at hjj
      have := nd_inj h.nd (by omega) hl hjj
      omega
  · exact hl
theorem Is.uniq {nx : Int → Int} {f : Int} {L M : List Int} (h : Is nx f L) (k : Is nx f M) : L = M :=
  List.ext_getElem (Nat.le_antisymm (h.le_len k) (k.le_len h)) (fun i h1 h2 => h.at_eq k i h1 h2)

theorem Is.lt {nx : Int → Int} {n : Nat} {f : Int} {L : List Int} (h : Is nx f L) (hb : ∀ x : Int, 0 ≤ x → x < n → nx x < n) (hf : f < n) : ∀ x ∈ L, 0 ≤ x ∧ x < n := by
  have hr : ∀ k (hk : k < L.length), 0 ≤ L[k] ∧ L[k] < n := by
    intro k
    induction k with
    | zero =>
      intro hk
      have a := h.hd
      rw [List.head?_eq_getElem?, List.getElem?_eq_getElem hk] at a
      injection a with a
      exact ⟨h.pos _ (List.getElem_mem _), by omega⟩
    | succ k ih =>
      intro hk
      have h2 := ih (by omega)
      have h3 := hb _ h2.1 h2.2
      rw [← h.st k hk] at h3
      exact ⟨h.pos _ (List.getElem_mem _), h3⟩
  intro x hx
  obtain ⟨k, hk, e⟩ := List.getElem_of_mem hx
  rw [← e]; exact hr k hk

/-- the chain from one of a chain is its rest, if the end leads nowhere or there -/
theorem Is.drop {nx : Int → Int} {f : Int} {L : List Int} (h : Is nx f L) {p : Nat} (hp : p < L.length) (he : ∀ x, L.getLast? = some x → nx x < 0 ∨ nx x ∈ L.drop p) : Is nx L[p] (L.drop p) := by
  refine ⟨h.nd.sublist (List.drop_sublist p L), fun x hx => h.pos x (List.mem_of_mem_drop hx), ?_, ?_, ?_, ?_⟩
  · intro e
    have := congrArg List.length e
    simp at this; omega
  · rw [List.head?_drop, List.getElem?_eq_getElem hp]
  · intro k hk
    simp at hk
    rw [List.getElem_drop, List.getElem_drop]
    have := h.st (p + k) (by omega)
    simpa [Nat.add_assoc] using this
  · intro x hx
    refine he x ?_
    rw [List.getLast?_drop] at hx
    split at hx
    · cases hx
    · exact hx

/-- from no one leads the link back to it -/
def noBack (nx : Int → Int) (n : Nat) : Prop := ∀ i : Int, 0 ≤ i → i < n → ∀ L, Is nx (nx i) L → i ∉ L
def allEnd (nx : Int → Int) (n : Nat) : Prop := ∀ f : Int, 0 ≤ f → f < n → ∀ L, Is nx f L → ∀ x, L.getLast? = some x → nx x < 0

theorem end_of_noBack {nx : Int → Int} {n : Nat} (hb : ∀ x : Int, 0 ≤ x → x < n → nx x < n) (h : noBack nx n) : allEnd nx n := by
  intro f h0 h1 L hL x hx
  rcases hL.en x hx with he | he
  · exact he
  · exfalso
    obtain ⟨p, hp, hpp⟩ := List.getElem_of_mem he
    have hr : ∀ k (hk : k < L.length), 0 ≤ L[k] ∧ L[k] < n := by
      intro k
      induction k with
      | zero =>
        intro hk
        have a := hL.hd
        rw [List.head?_eq_getElem?, List.getElem?_eq_getElem hk] at a
        injection a with a; omega
      | succ k ih =>
        intro hk
        have h2 := ih (by omega)
        have h3 := hb _ h2.1 h2.2
        rw [← hL.st k hk] at h3
        exact ⟨hL.pos _ (List.getElem_mem _), h3⟩
    have hxl : x ∈ L := List.mem_of_getLast? hx
    obtain ⟨q, hq, hqq⟩ := List.getElem_of_mem hxl
    have hxr := hr q hq
    rw [hqq] at hxr
    have hd := hL.drop hp (fun y hy => by
      rw [hx] at hy; injection hy with hy; subst hy
      right
      rw [← hpp]
      have e : L.drop p = L[p] :: L.drop (p + 1) := List.drop_eq_getElem_cons hp
      rw [e]; exact List.mem_cons_self)
    rw [hpp] at hd
    refine h x hxr.1 hxr.2 _ hd ?_
    have hlast : q = L.length - 1 := by
      rw [List.getLast?_eq_getElem?, List.getElem?_eq_getElem (by omega)] at hx
      injection hx with hx
      exact nd_inj hL.nd hq (by omega) (hqq.trans hx.symm)
    rw [List.mem_iff_getElem]
    refine ⟨q - p, by simp; omega, ?_⟩
    rw [List.getElem_drop]
    have e2 : p + (q - p) = q := by omega
    simp only [e2]; exact hqq

theorem noBack_of_end {nx : Int → Int} {n : Nat} (h : allEnd nx n) : noBack nx n := by
  intro i h0 h1 L hL hm
  obtain ⟨p, hp, hpp⟩ := List.getElem_of_mem hm
  -- the chain from i: i, then L's first part up to i
  have hl : 0 < L.length := by omega
  have hd0 : L[0] = nx i := by
    have a := hL.hd
    rw [List.head?_eq_getElem?, List.getElem?_eq_getElem hl] at a
    injection a
  have hI : Is nx i (i :: L.take p) := by
    refine ⟨?_, ?_, by simp, rfl, ?_, ?_⟩
    · rw [List.nodup_cons]
      refine ⟨fun hc => ?_, hL.nd.sublist (List.take_sublist p L)⟩
      obtain ⟨j, hj, hjj⟩ := List.getElem_of_mem hc
      rw [List.getElem_take] at hjj
      simp at hj
      have := nd_inj hL.nd (by omega) hp (hjj.trans hpp.symm)
      omega
    · intro x hx
      rcases List.mem_cons.1 hx with rfl | hx
      · exact h0
      · exact hL.pos x (List.mem_of_mem_take hx)
    · intro k hk
      simp at hk
      cases k with
      | zero => simpa using hd0
      | succ k =>
        simp
        exact hL.st k (by omega)
    · intro x hx
      right
      cases p with
      | zero =>
        simp at hx
        subst hx
        rw [← hd0, hpp]; simp
      | succ p =>
        have e : (i :: L.take (p + 1)).getLast? = some L[p] := by
          rw [List.getLast?_cons]
          have : (L.take (p + 1)).getLast? = some L[p] := by
            rw [List.getLast?_eq_getElem?, List.length_take]
            have : min (p + 1) L.length - 1 = p := by omega
            rw [this, List.getElem?_take, if_pos (by omega), List.getElem?_eq_getElem (by omega)]
          rw [this]; rfl
        rw [e] at hx; injection hx with hx; subst hx
        rw [← hL.st p hp, hpp]; simp
  have hne := hI.ne
  obtain ⟨x, hx⟩ : ∃ x, (i :: L.take p).getLast? = some x := by
    cases hg : (i :: L.take p).getLast? with
    | none => simp at hg
    | some x => exact ⟨x, rfl⟩
  have := h i h0 h1 _ hI x hx
  rcases hI.en x hx with he | he
  · -- its last one leads to i
    cases p with
    | zero =>
      simp at hx
      subst hx
      have : nx i = i := by rw [← hd0, hpp]
      omega
    | succ p =>
      have e : (i :: L.take (p + 1)).getLast? = some L[p] := by
        rw [List.getLast?_cons]
        have : (L.take (p + 1)).getLast? = some L[p] := by
          rw [List.getLast?_eq_getElem?, List.length_take]
          have : min (p + 1) L.length - 1 = p := by omega
          rw [this, List.getElem?_take, if_pos (by omega), List.getElem?_eq_getElem (by omega)]
        rw [this]; rfl
      rw [e] at hx; injection hx with hx; rw [← hx] at he
      rw [← hL.st p hp, hpp] at he
      omega
  · have := hI.pos _ he; omega
end Chn
end

section
def ctxOf (hs : List Flt) (x : Int) : Int := match hs[x.toNat]? with | some f => f.ctx | none => -1
theorem ctxOf_at {hs : List Flt} {i : Nat} (h : i < hs.length) : ctxOf hs (i : Int) = hs[i].ctx := by
  unfold ctxOf; rw [Int.toNat_natCast, List.getElem?_eq_getElem h]
def rng (lo hi x : Int) : Bool := decide (lo ≤ x) && decide (x ≤ hi)
theorem rng_iff {lo hi x : Int} : rng lo hi x = true ↔ lo ≤ x ∧ x ≤ hi := by unfold rng; simp
def linksOk (n : Nat) (k : Int) (x : Flt) : Bool := rng (-1) ((n : Int) - 1) x.cause && rng (-1) ((n : Int) - 1) x.ctx && (x.cause != k) && (x.ctx != k)
def fOk (xs : List Cls) (n : Nat) (k : Int) (x : Flt) : Bool := hasK xs x.cls && rng 0 99 x.code && linksOk n k x
def allF (xs : List Cls) (n : Nat) : Nat → List Flt → Bool
  | _, [] => true
  | k, x :: r => fOk xs n (k : Int) x && allF xs n (k + 1) r
theorem allF_at {xs : List Cls} {n : Nat} {hs : List Flt} {k : Nat} (h : k < hs.length) : allF xs n k (hs.drop k) = (fOk xs n (k : Int) hs[k] && allF xs n (k + 1) (hs.drop (k + 1))) := by
  rw [List.drop_eq_getElem_cons h]; rfl
theorem allF_end {xs : List Cls} {n : Nat} {hs : List Flt} {k : Nat} (h : ¬ k < hs.length) : allF xs n k (hs.drop k) = true := by
  rw [List.drop_eq_nil_of_le (by omega)]; rfl
theorem allF_mem {xs : List Cls} {n : Nat} {hs : List Flt} : ∀ (m k : Nat), k + m = hs.length → allF xs n k (hs.drop k) = true → ∀ i (h : i < hs.length), k ≤ i → fOk xs n (i : Int) hs[i] = true := by
  intro m
  induction m with
  | zero => intro k hk h i hi hki; omega
  | succ m ih =>
    intro k hk h i hi hki
    rw [allF_at (by omega), Bool.and_eq_true] at h
    by_cases e : i = k
    · subst e; exact h.1
    · exact ih (k + 1) (by omega) h.2 i hi (by omega)
theorem allF_mk {xs : List Cls} {n : Nat} {hs : List Flt} (H : ∀ i (h : i < hs.length), fOk xs n (i : Int) hs[i] = true) : ∀ (m k : Nat), k + m = hs.length → allF xs n k (hs.drop k) = true := by
  intro m
  induction m with
  | zero => intro k hk; exact allF_end (by omega)
  | succ m ih => intro k hk; rw [allF_at (by omega), H k (by omega), ih (k + 1) (by omega)]; rfl
/-- the chain from f along nx -/
def chainN (nx : Int → Int) (n : Nat) (f : Int) : List Int := Chn.go nx (n + 1) f []
def lastN (nx : Int → Int) (n : Nat) (f : Int) : Int := (chainN nx n f).getLastD (-1)
def endsAt (hs : List Flt) (f : Int) : Bool := decide (ctxOf hs (lastN (ctxOf hs) hs.length f) < 0)
def endsF (hs : List Flt) : Nat → Nat → Bool
  | _, 0 => true
  | k, m + 1 => endsAt hs (k : Int) && endsF hs (k + 1) m
theorem endsF_mem {hs : List Flt} : ∀ (m k : Nat), endsF hs k m = true ↔ ∀ i, k ≤ i → i < k + m → endsAt hs (i : Int) = true := by
  intro m
  induction m with
  | zero => intro k; simp [endsF]; intro i h1 h2; omega
  | succ m ih =>
    intro k
    rw [endsF, Bool.and_eq_true, ih]
    constructor
    · rintro ⟨h1, h2⟩ i hi hk
      by_cases e : i = k
      · subst e; exact h1
      · exact h2 i (by omega) (by omega)
    · intro h
      exact ⟨h k (Nat.le_refl _) (by omega), fun i h1 h2 => h i (by omega) (by omega)⟩
def okHeap (xs : List Cls) (hs : List Flt) : Bool := allF xs hs.length 0 hs && endsF hs 0 hs.length && okTree xs && decide (hs.length ≤ 24)
/-- links lead into the heap -/
structure Lnk (hs : List Flt) : Prop where
  cause : ∀ i (h : i < hs.length), -1 ≤ hs[i].cause ∧ hs[i].cause < hs.length
  ctx : ∀ i (h : i < hs.length), -1 ≤ hs[i].ctx ∧ hs[i].ctx < hs.length
  ne : ∀ i (h : i < hs.length), hs[i].cause ≠ (i : Int) ∧ hs[i].ctx ≠ (i : Int)
theorem lnk_of {xs : List Cls} {hs : List Flt} (h : allF xs hs.length 0 hs = true) : Lnk hs := by
  have hm := allF_mem (hs := hs) hs.length 0 (by omega) (by simpa using h)
  have hx : ∀ i (h : i < hs.length), (-1 ≤ hs[i].cause ∧ hs[i].cause < hs.length) ∧ (-1 ≤ hs[i].ctx ∧ hs[i].ctx < hs.length) ∧ hs[i].cause ≠ (i : Int) ∧ hs[i].ctx ≠ (i : Int) := by
    intro i hi
    have := hm i hi (Nat.zero_le _)
    unfold fOk linksOk at this
    simp only [Bool.and_eq_true, rng_iff, bne_iff_ne] at this
    obtain ⟨_, ⟨⟨h1, h2⟩, h3⟩, h4⟩ := this
    exact ⟨by omega, by omega, h3, h4⟩
  exact ⟨fun i h => (hx i h).1, fun i h => (hx i h).2.1, fun i h => (hx i h).2.2⟩
theorem Lnk.ctxlt {hs : List Flt} (h : Lnk hs) : ∀ x : Int, 0 ≤ x → x < hs.length → ctxOf hs x < hs.length := by
  intro x h0 h1
  obtain ⟨i, rfl⟩ := Int.eq_ofNat_of_zero_le h0
  rw [ctxOf_at (by omega)]
  exact (h.ctx i (by omega)).2
theorem chain_is {nx : Int → Int} {n : Nat} (hb : ∀ x : Int, 0 ≤ x → x < n → nx x < n) {f : Int} (h0 : 0 ≤ f) (h1 : f < n) : Chn.Is nx f (chainN nx n f) :=
  Chn.go_is hb h0 h1 (n + 1) f [] (Chn.Pre.start h1) (by simp)
theorem last_of {nx : Int → Int} {n : Nat} {f x : Int} (h : (chainN nx n f).getLast? = some x) : lastN nx n f = x := by
  unfold lastN; rw [List.getLastD_eq_getLast?, h]; rfl
theorem is_last {nx : Int → Int} {f : Int} {L : List Int} (h : Chn.Is nx f L) : ∃ x, L.getLast? = some x ∧ x ∈ L := by
  cases e : L.getLast? with
  | none => rw [List.getLast?_eq_none_iff] at e; exact absurd e h.ne
  | some x => exact ⟨x, rfl, List.mem_of_getLast? e⟩
theorem ends_iff {hs : List Flt} (h : Lnk hs) : endsF hs 0 hs.length = true ↔ Chn.allEnd (ctxOf hs) hs.length := by
  rw [endsF_mem]
  constructor
  · intro H f h0 h1 L hL x hx
    obtain ⟨i, rfl⟩ := Int.eq_ofNat_of_zero_le h0
    have := H i (Nat.zero_le _) (by omega)
    unfold endsAt at this
    rw [hL.uniq (chain_is h.ctxlt h0 h1)] at hx
    rw [last_of hx] at this
    simpa using this
  · intro H i _ hi
    have hc := chain_is (f := (i : Int)) h.ctxlt (by omega) (by omega)
    obtain ⟨x, hx, _⟩ := is_last hc
    unfold endsAt
    rw [last_of hx]
    simpa using H i (by omega) (by omega) _ hc x hx
def backAt (hs : List Flt) (i : Int) : Bool := decide (0 ≤ ctxOf hs i) && hasI (chainN (ctxOf hs) hs.length (ctxOf hs i)) i
theorem hasI_iff' {x : Int} : ∀ {L : List Int}, hasI L x = true ↔ x ∈ L
  | [] => by simp [hasI]
  | c :: r => by
    rw [hasI, Bool.or_eq_true, hasI_iff' (L := r), List.mem_cons, beq_iff_eq]
    constructor
    · rintro (h | h)
      · exact .inl h.symm
      · exact .inr h
    · rintro (h | h)
      · exact .inl h.symm
      · exact .inr h
theorem noback_iff {hs : List Flt} (h : Lnk hs) : Chn.noBack (ctxOf hs) hs.length ↔ ∀ i, i < hs.length → backAt hs (i : Int) = false := by
  constructor
  · intro H i hi
    unfold backAt
    by_cases h0 : 0 ≤ ctxOf hs (i : Int)
    · have hc := chain_is (f := ctxOf hs (i : Int)) h.ctxlt h0 (h.ctxlt i (by omega) (by omega))
      have := H i (by omega) (by omega) _ hc
      rw [← hasI_iff'] at this
      rw [Bool.and_eq_false_iff]; right; simpa using this
    · rw [decide_eq_false h0]; rfl
  · intro H i h0 h1 L hL hm
    obtain ⟨k, rfl⟩ := Int.eq_ofNat_of_zero_le h0
    have hk := H k (by omega)
    unfold backAt at hk
    have hp : 0 ≤ ctxOf hs (k : Int) := by
      have h2 := hL.hd
      have h3 : ctxOf hs (k : Int) ∈ L := List.mem_of_head? h2
      exact hL.pos _ h3
    have hc := chain_is (f := ctxOf hs (k : Int)) h.ctxlt hp (h.ctxlt k (by omega) (by omega))
    rw [hL.uniq hc] at hm
    rw [decide_eq_true hp, Bool.true_and, hasI_iff'.2 hm] at hk
    cases hk
theorem ends_back {hs : List Flt} (h : Lnk hs) : endsF hs 0 hs.length = true ↔ ∀ i, i < hs.length → backAt hs (i : Int) = false := by
  rw [ends_iff h, ← noback_iff h]
  exact ⟨Chn.noBack_of_end, Chn.end_of_noBack h.ctxlt⟩
/-- what a valid heap keeps to -/
structure GoodH (xs : List Cls) (hs : List Flt) : Prop where
  tree : Good xs
  few : hs.length ≤ 24
  lnk : Lnk hs
  cls : ∀ i (h : i < hs.length), 0 ≤ hs[i].cls ∧ hs[i].cls < xs.length
  code : ∀ i (h : i < hs.length), 0 ≤ hs[i].code ∧ hs[i].code ≤ 99
  fin : Chn.allEnd (ctxOf hs) hs.length
theorem okHeap_tree {xs : List Cls} {hs : List Flt} (h : okHeap xs hs = true) : okTree xs = true := by
  unfold okHeap at h; simp only [Bool.and_eq_true] at h; exact h.1.2
theorem goodH_of {xs : List Cls} {hs : List Flt} (h : okHeap xs hs = true) : GoodH xs hs := by
  have ht := okHeap_tree h
  unfold okHeap at h
  simp only [Bool.and_eq_true, decide_eq_true_eq] at h
  obtain ⟨⟨⟨h1, h2⟩, _⟩, h4⟩ := h
  have hl := lnk_of h1
  have hm := allF_mem (hs := hs) hs.length 0 (by omega) (by simpa using h1)
  refine ⟨good_of ht, h4, hl, fun i hi => ?_, fun i hi => ?_, (ends_iff hl).1 h2⟩
  · have := hm i hi (Nat.zero_le _)
    unfold fOk at this
    simp only [Bool.and_eq_true] at this
    exact hasK_iff.1 this.1.1
  · have := hm i hi (Nat.zero_le _)
    unfold fOk at this
    simp only [Bool.and_eq_true, rng_iff] at this
    exact this.1.2
end
end Go.Proofs.Ytacilbglnhgifaa
