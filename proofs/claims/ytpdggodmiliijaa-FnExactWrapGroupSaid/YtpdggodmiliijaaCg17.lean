/- one text of ItX, LawWrapGroup -/
import Derived.Test.YtpdggodmiliijaaCg16
import Derived.Test.YtpdggodmiliijaaCg1
import Derived.Test.YtpdggodmiliijaaCg15
namespace Go.Proofs.Ytpdggodmiliijaa
open Go.RowKit
set_option linter.unusedVariables false
section
open Go.RowKit Go.Shelf
/-- a group of groups -/
def wrapL (code : Int) (L : List (List Prt)) : List Prt := ⟨0, true, 0, code⟩ :: (L.map (fun l => shiftL l 1)).flatten
def wrOk (xs : List Cls) (L : List (List Prt)) (code : Int) : Bool := L.all (gOkS xs) && gOkS xs (wrapL code L)
def wrX (xs : List Cls) (L : List (List Prt)) (code : Int) : List Prt := cond (wrOk xs L code) (wrapL code L) []
theorem wrX_of {xs : List Cls} {L : List (List Prt)} {code : Int} {b : Bool} (h : wrOk xs L code = b) : wrX xs L code = cond b (wrapL code L) [] ∧ wrOk xs L code = b := ⟨by unfold wrX; rw [h], h⟩
theorem wrX_len (xs : List Cls) (L : List (List Prt)) (code : Int) : (wrX xs L code).length ≤ 1048576 := by
  cases h : wrOk xs L code
  · rw [(wrX_of h).1]; simp
  · have h2 : gOkS xs (wrapL code L) = true := by unfold wrOk at h; rw [Bool.and_eq_true] at h; exact h.2
    have := gOk_len h2
    rw [(wrX_of h).1]
    show (wrapL code L).length ≤ _
    omega
theorem wrap_snoc (code : Int) (L : List (List Prt)) {k : Nat} (h : k < L.length) : wrapL code (L.take (k + 1)) = wrapL code (L.take k) ++ shiftL L[k] 1 := by
  unfold wrapL
  rw [List.take_succ_eq_append_getElem h, List.map_append, List.flatten_append, List.map_singleton, List.flatten_singleton]; rfl
theorem wrap_len (code : Int) : ∀ (L : List (List Prt)), (∀ l ∈ L, l.length ≤ 16) → (wrapL code L).length ≤ 16 * L.length + 1
  | [], _ => Nat.le_refl _
  | l :: r, h => by
    have h1 := h l (List.mem_cons_self ..)
    have h2 := wrap_len code r (fun x hx => h x (List.mem_cons_of_mem _ hx))
    unfold wrapL at h2 ⊢
    rw [List.length_cons] at h2
    rw [List.map_cons, List.flatten_cons, List.length_cons, List.length_append, shiftL_len, List.length_cons]
    omega
theorem all_at {α : Type} {f : α → Bool} {L : List α} {k : Nat} (h : k < L.length) : (L.take (k + 1)).all f = ((L.take k).all f && f L[k]) := by
  rw [List.take_succ_eq_append_getElem h, List.all_append]; simp
theorem all_no {α : Type} {f : α → Bool} {L : List α} {k : Nat} (h : k < L.length) (hf : f L[k] = false) : L.all f = false := by
  cases e : L.all f
  · rfl
  · have := (List.all_eq_true.1 e) _ (List.getElem_mem h)
    rw [hf] at this; cases this
theorem ok_app' {α : Type} [Enc α] {A B : List α} (h1 : ∀ x ∈ A, Enc.ok x) (h2 : ∀ x ∈ B, Enc.ok x) : ∀ x ∈ A ++ B, Enc.ok x := fun x hx => (List.mem_append.1 hx).elim (h1 x) (h2 x)
theorem gOk_deep {xs : List Cls} {g : List Prt} (h : gOkS xs g = true) : g.length ≤ 16 ∧ ∀ p ∈ g, -1000 ≤ p.depth ∧ p.depth ≤ 1000 := by
  have G := goodG_of (by rw [← gOk_same]; exact h)
  exact ⟨G.len.2, fun p hp => by have := good_deep G p hp; omega⟩
def WrOut (w : World) (xs : List Cls) (L : List (List Prt)) (code : Int) (e : Ending) (w' : World) : Prop :=
  ∃ v, e = .returned (.tuple #[v, .bool (wrOk xs L code)]) ∧ Owd 70 w w' v (wrX xs L code) ∧ Le w w'
set_option maxRecDepth 100000 in
set_option maxHeartbeats 4000000 in
theorem wrap_any (B : Option Addr) (m c : Nat) (hs : List Hdr) (L : List (List Prt)) (code : Int) (w : World) (S : Sl w B m c hs) (R : Rd2 w hs L) (hm : m ≤ 1048576) (hc : -9223372036854775808 ≤ code ∧ code ≤ 9223372036854775807) (hd : ∀ l ∈ L, l.length ≤ 16 ∧ ∀ p ∈ l, -1000 ≤ p.depth ∧ p.depth ≤ 1000) :
    Calls Try.prog 72 #[.slice B m c, .int .i64 code] w fun e w' => ∃ v, e = .returned v ∧ Owd 70 w w' v (wrapL code L) ∧ Le w w' := by
  obtain ⟨i1, hi1, hy0, hy1, hy2⟩ := info_parts infoPrtS
  have hmn := S.n_le
  have hl1 : m ≤ L.length := by have := R.len; have := S.len; omega
  have hl2 : L.length ≤ m := by have := R.len; have := S.len; omega
  have hl3 : hs.length ≤ m := by have := S.len; omega
  have hl4 : m ≤ hs.length := by have := S.len; omega
  have hokx : Enc.ok (⟨0, true, 0, code⟩ : Prt) := ⟨by show (-9223372036854775808 : Int) ≤ 0; omega, by show (0 : Int) ≤ 9223372036854775807; omega, by show (-9223372036854775808 : Int) ≤ 0; omega, by show (0 : Int) ≤ 9223372036854775807; omega, hc.1, hc.2⟩
  have O0 := own_oneP w ⟨0, true, 0, code⟩ (b := w.heap.size) (Nat.le_refl _)
  have LW := Le.new w (.cells #[.int .i64 0, .bool true, .int .i64 0, .int .i64 code] 70)
  go_enter Try.func72, Try.ntmps72
  go_wp2
  generalize w.alloc (.cells #[.int .i64 0, .bool true, .int .i64 0, .int .i64 code] 70) = W0 at *
  go_loopw [5, 6] (fun v i wr => ∃ k : Nat, k ≤ m ∧ i = .int .i64 k ∧ Owd 70 w wr v (wrapL code (L.take k)) ∧ Le w wr) (fun _ i _ => m - (intOf i).toNat)
  case atStart => exact ⟨0, Nat.zero_le _, rfl, ⟨O0, fun x hx => by rw [List.mem_singleton.1 hx]; exact hokx⟩, LW⟩
  case round =>
    obtain ⟨k, hk1, rfl, O1, L1⟩ := hrel
    clear O0 LW
    by_cases hlt : k < m
    · have hlh : k < hs.length := by omega
      have hlL : k < L.length := by omega
      obtain ⟨b, off, rfl, hb2, hcell⟩ := (S.le L1).hdr_at hlh
      have sk := (R.le L1).each k _ _ (List.getElem?_eq_getElem hlh) (List.getElem?_eq_getElem hlL)
      obtain ⟨hk16, hkd⟩ := hd L[k] (List.getElem_mem hlL)
      have HST := Lib.hid (wrap_snoc code L hlL)
      have hl5 := wrap_len code (L.take k) (fun l hl => (hd l (List.mem_of_mem_take hl)).1)
      rw [List.length_take] at hl5
      have hln : hs[k].n ≤ 16 := by have := sk.len; omega
      obtain ⟨D, HD⟩ : ∃ D, Hid (wrapL code (L.take k) = D) := ⟨_, Lib.hid rfl⟩
      rw [HD.out] at HST O1 hl5
      have hl6 : D.length ≤ 16777217 := by omega
      have HK := Lib.hid hkd
      clear hl5
      go_wp2_with fail
      refine (deeper_any _ _ _ L[k] 1 _ sk (by omega) HK.out (by omega)).mono ?_
      rintro e w5 ⟨v3, rfl, O3, hl5⟩
      obtain ⟨A3, c3, rfl, S3, -⟩ := O3.form (by decide)
      have hl7 : (shiftL L[k] 1).length ≤ 16 := by rw [shiftL_len]; exact hk16
      have O5 := O1.le hl5
      have L5 := L1.trans hl5
      have hok5 := Lib.hid (ok_app' O5.ok S3.ok)
      have hs5 := L5.size
      clear O1 O3 sk
      obtain ⟨E, HE⟩ : ∃ E, Hid (shiftL L[k] 1 = E) := ⟨_, Lib.hid rfl⟩
      rw [HE.out] at S3 hl7 hok5 HST
      rw [HE.out]
      go_wp2_with (at_builtin; refine wpList_append_sl rfl _ _ 34 rfl w.heap.size 70 i1 _ 32 Try.underlying34 hi1 hy0 hy1 hy2 rfl _ D.length D rfl O5.row A3 E.length c3 E rfl S3 (by unfold maxLen; omega) (by omega) hs5 ?_; intro v6 w6 O6 hg6 _)
      have L6 := L5.grown hg6 (fun q hq => (O5.row.lt q hq).1)
      have H6 : Hid (Owd 70 w w6 v6 (wrapL code (L.take (k + 1)))) := by
        show Owd _ _ _ _ _
        rw [HST.out]
        exact ⟨by rw [List.length_append]; exact O6, hok5.out⟩
      clear O6 hg6 O5
      go_roundw
      case rel => exact ⟨k + 1, by omega, by go_num, H6.out, L6⟩
      case measure => simp [intOf]; omega
    · obtain rfl : k = m := by omega
      rw [List.take_of_length_le (by omega)] at O1
      have HO := Lib.hid O1
      clear O1
      go_wp2
      go_ret
      exact ⟨_, rfl, HO.out, L1⟩
set_option maxRecDepth 100000 in
set_option maxHeartbeats 4000000 in
theorem sWrapGroup_any (A B : Option Addr) (n cap m c : Nat) (xs : List Cls) (hs : List Hdr) (L : List (List Prt)) (code : Int) (w : World) (hT : Sl w A n cap xs) (S : Sl w B m c hs) (R : Rd2 w hs L) (hm : m ≤ 1048576) (hc : -9223372036854775808 ≤ code ∧ code ≤ 9223372036854775807) :
    Calls Try.prog 40 #[.agg #[.slice A n cap], .slice B m c, .int .i64 code] w (WrOut w xs L code) := by
  obtain ⟨c0, z0, hl⟩ := box1 w (.slice A n cap) 32
  have hS := hT.le hl
  have S1 := S.le hl
  have R1 := R.le hl
  have hmn := S.n_le
  have hl1 : m ≤ L.length := by have := R.len; have := S.len; omega
  have hl2 : L.length ≤ m := by have := R.len; have := S.len; omega
  have hl3 : hs.length ≤ m := by have := S.len; omega
  have hl4 : m ≤ hs.length := by have := S.len; omega
  clear S R
  go_enter Try.func40, Try.ntmps40
  go_wp2
  generalize w.alloc (.cells #[.slice A n cap] 32) = w1 at *
  go_loopw [8] (fun i wr => ∃ k : Nat, k ≤ m ∧ i = .int .i64 k ∧ (L.take k).all (gOkS xs) = true ∧ Le w1 wr) (fun i _ => m - (intOf i).toNat)
  case atStart => exact ⟨0, Nat.zero_le _, rfl, rfl, Le.refl _⟩
  case round =>
    obtain ⟨k, hk1, rfl, hall, L1⟩ := hrel
    have HALL := Lib.hid hall
    clear hall
    by_cases hlt : k < m
    · have hlh : k < hs.length := by omega
      have hlL : k < L.length := by omega
      obtain ⟨b, off, rfl, hb2, hcell⟩ := (S1.le L1).hdr_at hlh
      have sk := (R1.le L1).each k _ _ (List.getElem?_eq_getElem hlh) (List.getElem?_eq_getElem hlL)
      have hSr := hS.le L1
      have dr := (L1.cell z0).trans c0
      have zr := Nat.lt_of_lt_of_le z0 L1.size
      go_wp2_with fail
      refine wp_region_noPanic ?_
      refine wp_region_Z (fun w' => w'.cell? ⟨w.heap.size, 0, none⟩ = some (.slice A n cap) ∧ w'.cell? ⟨b, off + k, none⟩ = some (.slice hs[k].a hs[k].n hs[k].c)) [] (by kernel_rfl) ?_
      have q1 : wr.drew.cell? ⟨w.heap.size, 0, none⟩ = some (.slice A n cap) ∧ wr.drew.cell? ⟨b, off + k, none⟩ = some (.slice hs[k].a hs[k].n hs[k].c) := ⟨dr, hcell⟩
      have S3 := hSr.le (Le.refl wr).drew
      have s3 := sk.le (Le.refl wr).drew
      have L3 := L1.drew
      have zb : b < wr.drew.heap.size := hb2
      have zw : w.heap.size < wr.drew.heap.size := zr
      generalize wr.drew = V at *
      refine wpAnyZ_take (i := 0) (v := ?_) rfl (by kernel_rfl) (fun _ _ _ h => h) (Or.inl ⟨by rfl, ?_⟩) (q1) ?_
      rotate_left 1
      · (intro w hSw; (try dsimp only at hSw); go_simp; try with_reducible rfl)
      try simp only [Act.put, List.setIfInBounds_toArray, List.set_cons_zero, List.set_cons_succ]
      refine wpAnyZ_take (i := 1) (v := ?_) rfl (by kernel_rfl) (fun _ _ _ h => h) (Or.inl ⟨by rfl, ?_⟩) (q1) ?_
      rotate_left 1
      · (intro w hSw; (try dsimp only at hSw); go_simp; try with_reducible rfl)
      try simp only [Act.put, List.setIfInBounds_toArray, List.set_cons_zero, List.set_cons_succ]
      refine wpAnyZ_take (i := 2) (v := ?_) rfl (by kernel_rfl) (fun _ _ _ h => h) (Or.inl ⟨by rfl, ?_⟩) (q1) ?_
      rotate_left 1
      · (intro w hSw; (try dsimp only at hSw); go_simp; try with_reducible rfl)
      try simp only [Act.put, List.setIfInBounds_toArray, List.set_cons_zero, List.set_cons_succ]
      refine wpAnyZ_take (i := 3) (v := ?_) rfl (by kernel_rfl) (fun _ _ _ h => h) (Or.inl ⟨by rfl, ?_⟩) (q1) ?_
      rotate_left 1
      · (intro w hSw; (try dsimp only at hSw); go_simp; try with_reducible rfl)
      try simp only [Act.put, List.setIfInBounds_toArray, List.set_cons_zero, List.set_cons_succ]
      refine wpAnyZ_take (i := 4) (v := ?_) rfl (by kernel_rfl) (fun _ _ _ h => h) (Or.inl ⟨by rfl, ?_⟩) (q1) ?_
      rotate_left 1
      · (intro w hSw; (try dsimp only at hSw); go_simp; try with_reducible rfl)
      try simp only [Act.put, List.setIfInBounds_toArray, List.set_cons_zero, List.set_cons_succ]
      refine wpAnyZ_one (i := 5) (by kernel_rfl) (ReadyZ.mk rfl (fun K hK => ?_))
      go_simp
      go_at_call 48
      refine (validGroup_any _ _ _ _ _ _ xs L[k] _ S3 s3).mono ?_
      rintro e V2 ⟨rfl, hl2⟩
      have q2 : V2.cell? ⟨w.heap.size, 0, none⟩ = some (.slice A n cap) ∧ V2.cell? ⟨b, off + k, none⟩ = some (.slice hs[k].a hs[k].n hs[k].c) := ⟨(hl2.cell zw).trans q1.1, (hl2.cell zb).trans q1.2⟩
      refine hK.out _ _ (fun _ => q2) ?_
      clear hK K
      try simp only [Act.put, List.setIfInBounds_toArray, List.set_cons_zero, List.set_cons_succ]
      cases hg : gOkS xs L[k]
      · have HX := Lib.hid (wrX_of (code := code) (show wrOk xs L code = false by unfold wrOk; rw [all_no hlL hg]; rfl))
        refine wpAnyZ_take (i := 6) (v := ?_) rfl (by kernel_rfl) (fun _ _ _ h => h) (Or.inl ⟨by rfl, ?_⟩) (q2) ?_
        rotate_left 1
        · (intro w hSw; (try dsimp only at hSw); go_simp; try with_reducible rfl)
        try simp only [Act.put, List.setIfInBounds_toArray, List.set_cons_zero, List.set_cons_succ]
        refine wpAnyZ_done (by kernel_rfl) ?_ _
        refine NoPanic.normal ?_
        have HL := Lib.hid ((hl.trans L3).trans hl2)
        clear hg q1 q2
        go_wp2
        go_ret2
        exact ⟨_, by rw [HX.out.2]; rfl, by rw [HX.out.1]; exact Owd.nil _ _ _, HL.out⟩
      · have HA : Hid ((L.take (k + 1)).all (gOkS xs) = true) := by show _ = _; rw [all_at hlL, HALL.out, hg]; rfl
        refine wpAnyZ_take (i := 6) (v := ?_) rfl (by kernel_rfl) (fun _ _ _ h => h) (Or.inl ⟨by rfl, ?_⟩) (q2) ?_
        rotate_left 1
        · (intro w hSw; (try dsimp only at hSw); go_simp; try with_reducible rfl)
        try simp only [Act.put, List.setIfInBounds_toArray, List.set_cons_zero, List.set_cons_succ]
        refine wpAnyZ_done (by kernel_rfl) ?_ _
        refine NoPanic.normal ?_
        have HL := Lib.hid (L3.trans hl2)
        clear hg q1 q2
        go_wp2
        go_roundw
        case rel => exact ⟨k + 1, by omega, by go_num, HA.out, HL.out⟩
        case measure => simp [intOf]; omega
    · obtain rfl : k = m := by omega
      rw [List.take_of_length_le (by omega)] at HALL
      have hd := fun l hl => gOk_deep (List.all_eq_true.1 HALL.out l hl)
      have HD := Lib.hid hd
      have dr := (L1.cell z0).trans c0
      have zr := Nat.lt_of_lt_of_le z0 L1.size
      clear hd
      go_wp2_with fail
      refine (wrap_any _ _ _ hs L code _ (S1.le L1) (R1.le L1) hm hc HD.out).mono ?_
      rintro e w5 ⟨v, rfl, O, hl5⟩
      obtain ⟨A5, c5, rfl, S5, -⟩ := O.form (by decide)
      have d5 := (hl5.cell zr).trans dr
      have L5 := L1.trans hl5
      have hS5 := hS.le L5
      go_wp2_with fail
      refine (validGroup_any _ _ _ _ _ _ xs (wrapL code L) _ hS5 S5).mono ?_
      rintro e w6 ⟨rfl, hl6⟩
      have HO := Lib.hid (((O.mono (hl.trans L1))).le hl6)
      have HL := Lib.hid ((hl.trans L5).trans hl6)
      clear O S5
      cases hg : gOkS xs (wrapL code L)
      · have HX := Lib.hid (wrX_of (code := code) (show wrOk xs L code = false by unfold wrOk; rw [hg, Bool.and_false]))
        clear hg
        go_wp2
        go_ret2
        exact ⟨_, by rw [HX.out.2]; rfl, by rw [HX.out.1]; exact Owd.nil _ _ _, HL.out⟩
      · have HX := Lib.hid (wrX_of (code := code) (show wrOk xs L code = true by unfold wrOk; rw [hg, HALL.out]; rfl))
        clear hg
        go_wp2
        go_ret2
        exact ⟨_, by rw [HX.out.2]; rfl, by rw [HX.out.1]; exact HO.out, HL.out⟩
set_option maxRecDepth 100000 in
set_option maxHeartbeats 4000000 in
theorem iWrapGroup_any (A B : Option Addr) (n cap m c : Nat) (xs : List Cls) (hs : List Hdr) (L : List (List Prt)) (code : Int) (w : World) (hT : Sl w A n cap xs) (S : Sl w B m c hs) (R : Rd2 w hs L) (hm : m ≤ 1048576) (hc : -9223372036854775808 ≤ code ∧ code ≤ 9223372036854775807) :
    Calls Try.prog 42 #[.agg #[.slice A n cap], .slice B m c, .int .i64 code] w (WrOut w xs L code) := by
  obtain ⟨i1, hi1, hy0, hy1, hy2⟩ := info_parts infoPrtS
  obtain ⟨c0, z0, hl⟩ := box1 w (.slice A n cap) 32
  have hS := hT.le hl
  have S1 := S.le hl
  have R1 := R.le hl
  have hmn := S.n_le
  have hl1 : m ≤ L.length := by have := R.len; have := S.len; omega
  have hl2 : L.length ≤ m := by have := R.len; have := S.len; omega
  have hl3 : hs.length ≤ m := by have := S.len; omega
  have hl4 : m ≤ hs.length := by have := S.len; omega
  clear S R
  have hokx : Enc.ok (⟨0, true, 0, code⟩ : Prt) := ⟨by show (-9223372036854775808 : Int) ≤ 0; omega, by show (0 : Int) ≤ 9223372036854775807; omega, by show (-9223372036854775808 : Int) ≤ 0; omega, by show (0 : Int) ≤ 9223372036854775807; omega, hc.1, hc.2⟩
  go_enter Try.func42, Try.ntmps42
  go_wp2_with fail
  have hw1 : Hid ((w.alloc (.cells #[.slice A n cap] 32)).heap.size = w.heap.size + 1) := by show _ = _; simp
  generalize w.alloc (.cells #[.slice A n cap] 32) = w1 at *
  have O0 := own_oneP w1 ⟨0, true, 0, code⟩ (b := w1.heap.size) (Nat.le_refl _)
  have LW := Le.new w1 (.cells #[.int .i64 0, .bool true, .int .i64 0, .int .i64 code] 70)
  go_wp2
  generalize w1.alloc (.cells #[.int .i64 0, .bool true, .int .i64 0, .int .i64 code] 70) = W0 at *
  go_loopw [8, 16] (fun v i wr => ∃ k : Nat, k ≤ m ∧ i = .int .i64 k ∧ Owd 70 w1 wr v (wrapL code (L.take k)) ∧ (L.take k).all (gOkS xs) = true ∧ Le w1 wr) (fun _ i _ => m - (intOf i).toNat)
  case atStart => exact ⟨0, Nat.zero_le _, rfl, (by rw [← hw1.out]; exact ⟨O0, fun x hx => by rw [List.mem_singleton.1 hx]; exact hokx⟩), rfl, LW⟩
  case round =>
    obtain ⟨k, hk1, rfl, O1, hall, L1⟩ := hrel
    have HALL := Lib.hid hall
    clear O0 LW hall
    by_cases hlt : k < m
    · have hlh : k < hs.length := by omega
      have hlL : k < L.length := by omega
      obtain ⟨b, off, rfl, hb2, hcell⟩ := (S1.le L1).hdr_at hlh
      have sk := (R1.le L1).each k _ _ (List.getElem?_eq_getElem hlh) (List.getElem?_eq_getElem hlL)
      have hSr := hS.le L1
      have dr := (L1.cell z0).trans c0
      have HST := Lib.hid (wrap_snoc code L hlL)
      have hl5 := wrap_len code (L.take k) (fun l hl => (gOk_deep (List.all_eq_true.1 HALL.out l hl)).1)
      rw [List.length_take] at hl5
      obtain ⟨D, HD⟩ : ∃ D, Hid (wrapL code (L.take k) = D) := ⟨_, Lib.hid rfl⟩
      rw [HD.out] at HST O1 hl5
      have hl6 : D.length ≤ 16777217 := by omega
      clear hl5
      go_wp2_with fail
      refine (iValidGroupS_any _ _ _ _ _ _ xs L[k] _ hSr sk).mono ?_
      rintro e w4 ⟨rfl, hl7⟩
      have L4 := L1.trans hl7
      cases hg : gOkS xs L[k]
      · have HX := Lib.hid (wrX_of (code := code) (show wrOk xs L code = false by unfold wrOk; rw [all_no hlL hg]; rfl))
        have HL := Lib.hid (hl.trans L4)
        clear hg O1
        go_wp2
        go_ret2
        exact ⟨_, by rw [HX.out.2]; rfl, by rw [HX.out.1]; exact Owd.nil _ _ _, HL.out⟩
      · have HA : Hid ((L.take (k + 1)).all (gOkS xs) = true) := by show _ = _; rw [all_at hlL, HALL.out, hg]; rfl
        obtain ⟨hk16, hkd⟩ := gOk_deep hg
        have HK := Lib.hid hkd
        have hln : hs[k].n ≤ 16 := by have := sk.len; omega
        clear hg hkd
        go_wp2_with fail
        refine (shiftParts_any _ _ _ L[k] 1 _ (sk.le hl7) (by omega) HK.out (by omega)).mono ?_
        rintro e w5 ⟨v3, rfl, O3, hl8⟩
        obtain ⟨A3, c3, rfl, S3, -⟩ := O3.form (by decide)
        have hl9 : (shiftL L[k] 1).length ≤ 16 := by rw [shiftL_len]; exact hk16
        have O5 := (O1.le hl7).le hl8
        have L5 := L4.trans hl8
        have hok5 := Lib.hid (ok_app' O5.ok S3.ok)
        have hs5 := L5.size
        clear O1 O3 sk
        obtain ⟨E, HE⟩ : ∃ E, Hid (shiftL L[k] 1 = E) := ⟨_, Lib.hid rfl⟩
        rw [HE.out] at S3 hl9 hok5 HST
        rw [HE.out]
        go_wp2_with (at_builtin; refine wpList_append_sl rfl _ _ 34 rfl w1.heap.size 70 i1 _ 32 Try.underlying34 hi1 hy0 hy1 hy2 rfl _ D.length D rfl O5.row A3 E.length c3 E rfl S3 (by unfold maxLen; omega) (by omega) hs5 ?_; intro v6 w6 O6 hg6 _)
        have L6 := L5.grown hg6 (fun q hq => (O5.row.lt q hq).1)
        have H6 : Hid (Owd 70 w1 w6 v6 (wrapL code (L.take (k + 1)))) := by
          show Owd _ _ _ _ _
          rw [HST.out]
          exact ⟨by rw [List.length_append]; exact O6, hok5.out⟩
        clear O6 hg6 O5
        go_roundw
        case rel => exact ⟨k + 1, by omega, by go_num, H6.out, HA.out, L6⟩
        case measure => simp [intOf]; omega
    · obtain rfl : k = m := by omega
      rw [List.take_of_length_le (by omega)] at HALL O1
      have dr := (L1.cell z0).trans c0
      obtain ⟨A5, c5, rfl, S5, -⟩ := O1.form (by decide)
      have hSr := hS.le L1
      go_wp2_with fail
      refine (iValidGroupS_any _ _ _ _ _ _ xs (wrapL code L) _ hSr S5).mono ?_
      rintro e w6 ⟨rfl, hl6⟩
      have HO := Lib.hid ((O1.mono hl).le hl6)
      have HL := Lib.hid ((hl.trans L1).trans hl6)
      clear O1 S5
      cases hg : gOkS xs (wrapL code L)
      · have HX := Lib.hid (wrX_of (code := code) (show wrOk xs L code = false by unfold wrOk; rw [hg, Bool.and_false]))
        clear hg
        go_wp2
        go_ret2
        exact ⟨_, by rw [HX.out.2]; rfl, by rw [HX.out.1]; exact Owd.nil _ _ _, HL.out⟩
      · have HX := Lib.hid (wrX_of (code := code) (show wrOk xs L code = true by unfold wrOk; rw [hg, HALL.out]; rfl))
        clear hg
        go_wp2
        go_ret2
        exact ⟨_, by rw [HX.out.2]; rfl, by rw [HX.out.1]; exact HO.out, HL.out⟩
end

section
set_option maxHeartbeats 16000000 in
set_option maxRecDepth 100000 in
theorem exWrapGroup_walk (At : Option Addr) (nt ct : Nat) (t : List Cls) (Ag : Option Addr) (ng cg : Nat) (hs : List Hdr) (g : List (List Prt)) (c : Int) (w : World) (ht : Sl w At nt ct t) (hg : Sl w Ag ng cg hs) (rdg : Rd2 w hs g) (hc : -9223372036854775808 ≤ c ∧ c ≤ 9223372036854775807) :
    Calls Try.prog 8 #[.agg #[.slice At nt ct], .slice Ag ng cg, .int .i64 c] w fun e w' => e = .returned (.bool true) ∧ Le w w' := by
  have hokt := ht.ok
  have hmxt := ht.n_le
  have hmxg := hg.n_le
  have HL0 : (wrX t g c).length ≤ 1048576 := wrX_len t g c
  go_enter Try.func8, Try.ntmps8
  go_wp2_with fail
  obtain ⟨cat, zat, L0⟩ := box1 w (.slice At nt ct) 24
  have s0 : w.heap.size ≤ (w.alloc (.cells #[.slice At nt ct] 24)).heap.size := L0.size
  have sz0 := zat
  generalize w.alloc (.cells #[.slice At nt ct] 24) = W at *
  refine (szTree_any At nt ct t _ _ (ht.le L0) (by omega) (by omega)).mono ?_
  rintro e w1 ⟨rt, rfl, hr, hle⟩
  have s1 := hle.size
  replace cat := (hle.cell zat).trans cat
  replace zat := Nat.lt_of_lt_of_le zat hle.size
  replace L0 := L0.trans hle
  clear hle
  rcases hr with rfl | ⟨ht0, ht1, ht2⟩
  · go_wp2
    go_ret
    exact ⟨rfl, L0⟩
  have hnegt : decide (rt < 0) = false := decide_eq_false (by omega)
  go_wp2_with fail
  refine (szPartSS_any Ag ng cg hs g _ _ (hg.le L0) (rdg.le L0) (by omega) (by omega)).mono ?_
  rintro e w2 ⟨rg, rfl, hr, hle⟩
  have s2 := hle.size
  replace cat := (hle.cell zat).trans cat
  replace zat := Nat.lt_of_lt_of_le zat hle.size
  replace L0 := L0.trans hle
  clear hle
  rcases hr with rfl | ⟨hg0, hg1, hg2⟩
  · go_wp2
    go_ret
    exact ⟨rfl, L0⟩
  have hnegg : decide (rg < 0) = false := decide_eq_false (by omega)
  go_wp2_with fail
  refine (toTree_any At nt ct t _ (ht.le L0) (by omega)).mono ?_
  rintro e w3 ⟨gat, rfl, hgat, Oat, hle⟩
  have s3 := hle.size
  replace cat := (hle.cell zat).trans cat
  replace zat := Nat.lt_of_lt_of_le zat hle.size
  replace L0 := L0.trans hle
  clear hle
  have hbat := own_lt Oat
  go_wp2_with fail
  refine (toPartSS_any Ag ng cg hs g _ (hg.le L0) (rdg.le L0) (by omega) (by omega)).mono ?_
  rintro e w4 ⟨hsag, rfl, SOag, hle⟩
  have s4 := hle.size
  replace cat := (hle.cell zat).trans cat
  replace zat := Nat.lt_of_lt_of_le zat hle.size
  replace L0 := L0.trans hle
  replace Oat := own_le Oat hle
  clear hle
  have HKag := Lib.hid SOag.blk
  go_wp2_with fail
  refine (sWrapGroup_any _ _ _ _ _ _ t _ g c _ (Sl.of_own Oat rfl (by decide) hokt) (SOag.lsR (by decide)).top (SOag.lsR (by decide)).rd (by omega) hc).mono ?_
  rintro e w5 ⟨v00, rfl, D00, hle⟩
  have s5 := hle.size
  replace cat := (hle.cell zat).trans cat
  replace zat := Nat.lt_of_lt_of_le zat hle.size
  replace L0 := L0.trans hle
  replace Oat := own_le Oat hle
  replace SOag := SOag.le hle
  clear hle
  obtain ⟨A00, q00, rfl, S00, hB00⟩ := D00.form (by decide)
  have HB00 := Lib.hid hB00; clear hB00
  have okL00 := D00.ok
  have HU00 := Lib.hid (S00.under)
  clear D00
  clear Oat SOag
  go_wp2_with fail
  refine (toTree_any At nt ct t _ (ht.le L0) (by omega)).mono ?_
  rintro e w6 ⟨gxt, rfl, hgxt, Oxt, hle⟩
  have s6 := hle.size
  replace cat := (hle.cell zat).trans cat
  replace zat := Nat.lt_of_lt_of_le zat hle.size
  replace L0 := L0.trans hle
  replace S00 := S00.le hle
  clear hle
  have hbxt := own_lt Oxt
  go_wp2_with fail
  obtain ⟨cxt, zxt, hleB⟩ := box1 w6 (.slice (some ⟨gxt, 0, none⟩) nt nt) 32
  replace cat := (hleB.cell zat).trans cat
  replace zat := Nat.lt_of_lt_of_le zat hleB.size
  replace L0 := L0.trans hleB
  replace S00 := S00.le hleB
  replace Oxt := own_le Oxt hleB
  clear hleB
  generalize w6.alloc (.cells #[.slice (some ⟨gxt, 0, none⟩) nt nt] 32) = w7 at *
  have s7 := zxt
  refine (toPartSS_any Ag ng cg hs g _ (hg.le L0) (rdg.le L0) (by omega) (by omega)).mono ?_
  rintro e w8 ⟨hsxg, rfl, SOxg, hle⟩
  have s8 := hle.size
  replace cat := (hle.cell zat).trans cat
  replace cxt := (hle.cell zxt).trans cxt
  replace zat := Nat.lt_of_lt_of_le zat hle.size
  replace L0 := L0.trans hle
  replace S00 := S00.le hle
  replace Oxt := own_le Oxt hle
  replace zxt := Nat.lt_of_lt_of_le zxt hle.size
  clear hle
  have HKxg := Lib.hid SOxg.blk
  go_wp2_with fail
  refine (iWrapGroup_any _ _ _ _ _ _ t _ g c _ (Sl.of_own Oxt rfl (by decide) hokt) (SOxg.lsR (by decide)).top (SOxg.lsR (by decide)).rd (by omega) hc).mono ?_
  rintro e w9 ⟨v10, rfl, D10, hle⟩
  have s9 := hle.size
  replace cat := (hle.cell zat).trans cat
  replace cxt := (hle.cell zxt).trans cxt
  replace zat := Nat.lt_of_lt_of_le zat hle.size
  replace L0 := L0.trans hle
  replace S00 := S00.le hle
  replace Oxt := own_le Oxt hle
  replace zxt := Nat.lt_of_lt_of_le zxt hle.size
  replace SOxg := SOxg.le hle
  clear hle
  obtain ⟨A10, q10, rfl, S10, hB10⟩ := D10.form (by decide)
  have HB10 := Lib.hid hB10; clear hB10
  have okL10 := D10.ok
  have O10 := D10.row; clear S10
  clear D10
  go_wp2_with fail
  refine (eqPartS_self _ _ _ _ _ (wrX t g c) _ (Sl.of_own O10 rfl (by decide) okL10) S00).mono ?_
  rintro e w10 ⟨rfl, hle⟩
  have s10 := hle.size
  replace cat := (hle.cell zat).trans cat
  replace cxt := (hle.cell zxt).trans cxt
  replace zat := Nat.lt_of_lt_of_le zat hle.size
  replace L0 := L0.trans hle
  replace S00 := S00.le hle
  replace Oxt := own_le Oxt hle
  replace zxt := Nat.lt_of_lt_of_le zxt hle.size
  replace SOxg := SOxg.le hle
  replace O10 := own_le O10 hle
  clear hle
  go_wp2_with fail
  replace L0 := L0.drew
  replace S00 := S00.le (Le.refl _).drew
  replace Oxt := Oxt.drew
  replace SOxg := SOxg.le (Le.refl _).drew
  replace O10 := O10.drew
  go_region_held3 (fun w' => w'.cell? ⟨w.heap.size, 0, none⟩ = some (.slice At nt ct) ∧ w'.cell? ⟨w6.heap.size, 0, none⟩ = some (.slice (some ⟨gxt, 0, none⟩) nt nt))
    (first | exact ⟨cat, cxt⟩)
    (first
    | (go_at_call 14; refine (toTree_any At nt ct t _ (ht.le L0) (by omega)).mono ?_; rintro e w11 ⟨gy, rfl, hgy, Oy, hle⟩; have s11 : w10.heap.size ≤ w11.heap.size := hle.size; replace cat := (hle.cell zat).trans cat; replace cxt := (hle.cell zxt).trans cxt; replace zat := Nat.lt_of_lt_of_le zat hle.size; replace L0 := L0.trans hle; replace S00 := S00.le hle; replace Oxt := own_le Oxt hle; replace zxt := Nat.lt_of_lt_of_le zxt hle.size; replace SOxg := SOxg.le hle; replace O10 := own_le O10 hle; clear hle; have Sy := Sl.of_own Oy rfl (by decide) hokt; clear Oy)
    | (go_at_call 18; refine (eqTree_self _ _ _ _ _ t _ (Sl.of_own Oxt rfl (by decide) hokt) Sy).mono ?_; rintro e w12 ⟨rfl, hle⟩; have s12 := hle.size; replace cat := (hle.cell zat).trans cat; replace cxt := (hle.cell zxt).trans cxt; replace zat := Nat.lt_of_lt_of_le zat hle.size; replace L0 := L0.trans hle; replace S00 := S00.le hle; replace Oxt := own_le Oxt hle; replace zxt := Nat.lt_of_lt_of_le zxt hle.size; replace SOxg := SOxg.le hle; replace O10 := own_le O10 hle; clear hle Sy))
  go_wp2_with fail
  refine (toPartSS_any Ag ng cg hs g _ (hg.le L0) (rdg.le L0) (by omega) (by omega)).mono ?_
  rintro e w13 ⟨hsy, rfl, SOy, hle⟩
  have s13 := hle.size
  replace cat := (hle.cell zat).trans cat
  replace cxt := (hle.cell zxt).trans cxt
  replace zat := Nat.lt_of_lt_of_le zat hle.size
  replace L0 := L0.trans hle
  replace S00 := S00.le hle
  replace Oxt := own_le Oxt hle
  replace zxt := Nat.lt_of_lt_of_le zxt hle.size
  replace SOxg := SOxg.le hle
  replace O10 := own_le O10 hle
  clear hle
  go_wp2_with fail
  refine (eqPartSS_self _ _ _ _ _ _ _ g _ (SOxg.lsR (by decide)).top (SOxg.lsR (by decide)).rd (SOy.lsR (by decide)).top (SOy.lsR (by decide)).rd).mono ?_
  rintro e w14 ⟨rfl, hle⟩
  have s14 := hle.size
  replace cat := (hle.cell zat).trans cat
  replace cxt := (hle.cell zxt).trans cxt
  replace zat := Nat.lt_of_lt_of_le zat hle.size
  replace L0 := L0.trans hle
  replace S00 := S00.le hle
  replace Oxt := own_le Oxt hle
  replace zxt := Nat.lt_of_lt_of_le zxt hle.size
  replace SOxg := SOxg.le hle
  replace O10 := own_le O10 hle
  clear hle
  clear SOy
  go_wp2_with fail
  refine (markTree_any _ _ _ _ _ _ _ Oxt (by omega) (by omega) (by omega)).mono ?_
  rintro e w15 ⟨rfl, _, hg⟩
  have s15 := hg.size
  replace cat := hg.cell (a := ⟨w.heap.size, 0, none⟩) cat (fun e => by have e1 : w.heap.size = gxt := (by injection e); omega)
  replace zat := Nat.lt_of_lt_of_le zat hg.size
  replace L0 := L0.grown hg (fun k hk => by have e1 : gxt = k := (by injection hk); omega)
  replace S00 := S00.grown hg (fun hn a e h => by have h1 := HU00.out hn a e; have h2 : a.block = gxt := (by injection h); omega)
  replace cxt := hg.cell (a := ⟨w6.heap.size, 0, none⟩) cxt (fun e => by have e1 : w6.heap.size = gxt := (by injection e); omega)
  replace zxt := Nat.lt_of_lt_of_le zxt hg.size
  replace SOxg := SOxg.grown (b := gxt) hg (.inl (by omega))
  replace O10 := O10.kept hg (.inr (fun e => by have e1 : w8.heap.size ≤ gxt ∧ gxt < w9.heap.size := HB10.out _ e; omega))
  clear hg Oxt
  clear cxt zxt
  go_wp2_with fail
  refine (markPartSS_any _ _ _ _ _ _ _ _ SOxg (by omega) (by omega) (by omega) (by omega)).mono ?_
  rintro e w16 ⟨rfl, _, hg⟩
  have s16 := hg.size
  replace cat := hg.cell cat (fun e => by have := HKxg.out _ e; omega)
  replace zat := Nat.lt_of_lt_of_le zat hg.size
  replace L0 := L0.grB hg (fun k hk => by have := HKxg.out k hk; omega)
  replace S00 := S00.grB hg (fun hn a e s => by have h1 := HU00.out hn a e; have h2 := HKxg.out _ s; omega)
  replace O10 := own_grB O10 hg (fun k hk s => by have h1 := HB10.out k hk; have h2 := HKxg.out _ s; omega)
  clear hg SOxg
  have hkk : decide (1 + 2 * (nt : Int) + 4 * ((tot g : Nat) : Int) < 0) = false := decide_eq_false (by omega)
  go_wp2_with fail
  refine (eqPartS_self _ _ _ _ _ (wrX t g c) _ (Sl.of_own O10 rfl (by decide) okL10) S00).mono ?_
  rintro e w17 ⟨rfl, hle⟩
  have s17 := hle.size
  replace cat := (hle.cell zat).trans cat
  replace zat := Nat.lt_of_lt_of_le zat hle.size
  replace L0 := L0.trans hle
  replace S00 := S00.le hle
  replace O10 := own_le O10 hle
  clear hle
  go_wp2_with fail
  refine (markPartS_any _ _ _ _ _ _ _ O10 (by omega) (by omega) HL0).mono ?_
  rintro e w18 ⟨rfl, Om, hg⟩
  have s18 := hg.size
  replace cat := hg.cell (a := ⟨w.heap.size, 0, none⟩) cat (fun e => by have e1 : w8.heap.size ≤ w.heap.size ∧ w.heap.size < w9.heap.size := HB10.out _ e.symm; omega)
  replace zat := Nat.lt_of_lt_of_le zat hg.size
  replace L0 := L0.grown hg (fun k hk => by have e1 : w8.heap.size ≤ k ∧ k < w9.heap.size := HB10.out k hk; omega)
  replace S00 := S00.grown hg (fun hn a e h => by have h1 := HU00.out hn a e; have h2 : w8.heap.size ≤ a.block ∧ a.block < w9.heap.size := HB10.out _ h.symm; omega)
  clear hg O10
  have O10 := Om; clear Om
  go_wp2_with fail
  refine (heldPartS_any _ _ _ _ _ (Sl.of_own O10 rfl (by decide) (mPrt_ok (by omega) (by omega) HL0)) (by omega) (by omega) HL0).mono ?_
  rintro e w19 ⟨rfl, hle⟩
  have s19 := hle.size
  replace cat := (hle.cell zat).trans cat
  replace zat := Nat.lt_of_lt_of_le zat hle.size
  replace L0 := L0.trans hle
  replace S00 := S00.le hle
  replace O10 := own_le O10 hle
  clear hle
  have hqq0 : decide ((1 : Int) + 4 * ((wrX t g c).length : Int) < 0) = false := decide_eq_false (by omega)
  go_wp2_with fail
  refine (toTree_any At nt ct t _ (ht.le L0) (by omega)).mono ?_
  rintro e w20 ⟨ght, rfl, hght, Oht, hle⟩
  have s20 := hle.size
  replace cat := (hle.cell zat).trans cat
  replace zat := Nat.lt_of_lt_of_le zat hle.size
  replace L0 := L0.trans hle
  replace S00 := S00.le hle
  replace O10 := own_le O10 hle
  clear hle
  have hbht := own_lt Oht
  go_wp2_with fail
  refine (toPartSS_any Ag ng cg hs g _ (hg.le L0) (rdg.le L0) (by omega) (by omega)).mono ?_
  rintro e w21 ⟨hshg, rfl, SOhg, hle⟩
  have s21 := hle.size
  replace cat := (hle.cell zat).trans cat
  replace zat := Nat.lt_of_lt_of_le zat hle.size
  replace L0 := L0.trans hle
  replace S00 := S00.le hle
  replace O10 := own_le O10 hle
  replace Oht := own_le Oht hle
  clear hle
  have HKhg := Lib.hid SOhg.blk
  go_wp2_with fail
  refine (iWrapGroup_any _ _ _ _ _ _ t _ g c _ (Sl.of_own Oht rfl (by decide) hokt) (SOhg.lsR (by decide)).top (SOhg.lsR (by decide)).rd (by omega) hc).mono ?_
  rintro e w22 ⟨v20, rfl, D20, hle⟩
  have s22 := hle.size
  replace cat := (hle.cell zat).trans cat
  replace zat := Nat.lt_of_lt_of_le zat hle.size
  replace L0 := L0.trans hle
  replace S00 := S00.le hle
  replace O10 := own_le O10 hle
  replace Oht := own_le Oht hle
  replace SOhg := SOhg.le hle
  clear hle
  obtain ⟨A20, q20, rfl, S20, hB20⟩ := D20.form (by decide)
  have HB20 := Lib.hid hB20; clear hB20
  have okL20 := D20.ok
  have O20 := D20.row; clear S20
  clear D20
  clear Oht
  clear SOhg
  go_wp2_with fail
  refine (eqPartS_self _ _ _ _ _ (wrX t g c) _ (Sl.of_own O20 rfl (by decide) okL20) S00).mono ?_
  rintro e w23 ⟨rfl, hle⟩
  have s23 := hle.size
  replace cat := (hle.cell zat).trans cat
  replace zat := Nat.lt_of_lt_of_le zat hle.size
  replace L0 := L0.trans hle
  replace S00 := S00.le hle
  replace O10 := own_le O10 hle
  replace O20 := own_le O20 hle
  clear hle
  clear O20
  go_wp2_with fail
  refine (heldPartS_any _ _ _ _ _ (Sl.of_own O10 rfl (by decide) (mPrt_ok (by omega) (by omega) HL0)) (by omega) (by omega) HL0).mono ?_
  rintro e w24 ⟨rfl, hle⟩
  have s24 := hle.size
  replace cat := (hle.cell zat).trans cat
  replace zat := Nat.lt_of_lt_of_le zat hle.size
  replace L0 := L0.trans hle
  replace S00 := S00.le hle
  replace O10 := own_le O10 hle
  clear hle
  go_wp2
  go_ret
  exact ⟨rfl, L0⟩
end
end Go.Proofs.Ytpdggodmiliijaa
