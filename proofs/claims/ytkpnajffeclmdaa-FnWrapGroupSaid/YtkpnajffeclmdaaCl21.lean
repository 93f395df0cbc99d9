/- one text of ItX, GM, GpK -/
import Derived.Test.YtkpnajffeclmdaaCl20
import Derived.Test.YtkpnajffeclmdaaCl8
import Derived.Test.YtkpnajffeclmdaaCl19
import Derived.Test.YtkpnajffeclmdaaCl12
namespace Go.Proofs.Ytkpnajffeclmdaa
open Go.RowKit
set_option linter.unusedVariables false
section
open Go.RowKit Go.Shelf
/-- a group of groups -/
def wrapL (code : Int) (L : List (List Prt)) : List Prt := ⟨0, true, 0, code⟩ :: (L.map (fun l => shiftL l 1)).flatten
def wrOk (xs : List Cls) (L : List (List Prt)) (code : Int) : Bool := L.all (gOkS xs) && gOkS xs (wrapL code L)
def wrX (xs : List Cls) (L : List (List Prt)) (code : Int) : List Prt := cond (wrOk xs L code) (wrapL code L) []
theorem wrX_of {xs : List Cls} {L : List (List Prt)} {code : Int} {b : Bool} (h : wrOk xs L code = b) : wrX xs L code = cond b (wrapL code L) [] ∧ wrOk xs L code = b := ⟨by unfold wrX; rw [h], h⟩
theorem wrX_len (xs : List Cls) (L : List (List Prt)) (code : Int) : (wrX xs L code).length ≤ 1048576 := by
  cases h : wrOk xs L code
  · rw [(wrX_of h).1]; simp
  · have h2 : gOkS xs (wrapL code L) = true := by unfold wrOk at h; rw [Bool.and_eq_true] at h; exact h.2
    have := gOk_len h2
    rw [(wrX_of h).1]
    show (wrapL code L).length ≤ _
    omega
theorem wrap_snoc (code : Int) (L : List (List Prt)) {k : Nat} (h : k < L.length) : wrapL code (L.take (k + 1)) = wrapL code (L.take k) ++ shiftL L[k] 1 := by
  unfold wrapL
  rw [List.take_succ_eq_append_getElem h, List.map_append, List.flatten_append, List.map_singleton, List.flatten_singleton]; rfl
theorem wrap_len (code : Int) : ∀ (L : List (List Prt)), (∀ l ∈ L, l.length ≤ 16) → (wrapL code L).length ≤ 16 * L.length + 1
  | [], _ => Nat.le_refl _
  | l :: r, h => by
    have h1 := h l (List.mem_cons_self ..)
    have h2 := wrap_len code r (fun x hx => h x (List.mem_cons_of_mem _ hx))
    unfold wrapL at h2 ⊢
    rw [List.length_cons] at h2
    rw [List.map_cons, List.flatten_cons, List.length_cons, List.length_append, shiftL_len, List.length_cons]
    omega
theorem all_at {α : Type} {f : α → Bool} {L : List α} {k : Nat} (h : k < L.length) : (L.take (k + 1)).all f = ((L.take k).all f && f L[k]) := by
  rw [List.take_succ_eq_append_getElem h, List.all_append]; simp
theorem all_no {α : Type} {f : α → Bool} {L : List α} {k : Nat} (h : k < L.length) (hf : f L[k] = false) : L.all f = false := by
  cases e : L.all f
  · rfl
  · have := (List.all_eq_true.1 e) _ (List.getElem_mem h)
    rw [hf] at this; cases this
theorem ok_app' {α : Type} [Enc α] {A B : List α} (h1 : ∀ x ∈ A, Enc.ok x) (h2 : ∀ x ∈ B, Enc.ok x) : ∀ x ∈ A ++ B, Enc.ok x := fun x hx => (List.mem_append.1 hx).elim (h1 x) (h2 x)
theorem gOk_deep {xs : List Cls} {g : List Prt} (h : gOkS xs g = true) : g.length ≤ 16 ∧ ∀ p ∈ g, -1000 ≤ p.depth ∧ p.depth ≤ 1000 := by
  have G := goodG_of (by rw [← gOk_same]; exact h)
  exact ⟨G.len.2, fun p hp => by have := good_deep G p hp; omega⟩
def WrOut (w : World) (xs : List Cls) (L : List (List Prt)) (code : Int) (e : Ending) (w' : World) : Prop :=
  ∃ v, e = .returned (.tuple #[v, .bool (wrOk xs L code)]) ∧ Owd 57 w w' v (wrX xs L code) ∧ Le w w'
set_option maxRecDepth 100000 in
set_option maxHeartbeats 4000000 in
theorem wrap_any (B : Option Addr) (m c : Nat) (hs : List Hdr) (L : List (List Prt)) (code : Int) (w : World) (S : Sl w B m c hs) (R : Rd2 w hs L) (hm : m ≤ 1048576) (hc : -9223372036854775808 ≤ code ∧ code ≤ 9223372036854775807) (hd : ∀ l ∈ L, l.length ≤ 16 ∧ ∀ p ∈ l, -1000 ≤ p.depth ∧ p.depth ≤ 1000) :
    Calls Try.prog 59 #[.slice B m c, .int .i64 code] w fun e w' => ∃ v, e = .returned v ∧ Owd 57 w w' v (wrapL code L) ∧ Le w w' := by
  obtain ⟨i1, hi1, hy0, hy1, hy2⟩ := info_parts infoPrtS
  have hmn := S.n_le
  have hl1 : m ≤ L.length := by have := R.len; have := S.len; omega
  have hl2 : L.length ≤ m := by have := R.len; have := S.len; omega
  have hl3 : hs.length ≤ m := by have := S.len; omega
  have hl4 : m ≤ hs.length := by have := S.len; omega
  have hokx : Enc.ok (⟨0, true, 0, code⟩ : Prt) := ⟨by show (-9223372036854775808 : Int) ≤ 0; omega, by show (0 : Int) ≤ 9223372036854775807; omega, by show (-9223372036854775808 : Int) ≤ 0; omega, by show (0 : Int) ≤ 9223372036854775807; omega, hc.1, hc.2⟩
  have O0 := own_oneP w ⟨0, true, 0, code⟩ (b := w.heap.size) (Nat.le_refl _)
  have LW := Le.new w (.cells #[.int .i64 0, .bool true, .int .i64 0, .int .i64 code] 57)
  go_enter Try.func59, Try.ntmps59
  go_wp2
  generalize w.alloc (.cells #[.int .i64 0, .bool true, .int .i64 0, .int .i64 code] 57) = W0 at *
  go_loopw [5, 6] (fun v i wr => ∃ k : Nat, k ≤ m ∧ i = .int .i64 k ∧ Owd 57 w wr v (wrapL code (L.take k)) ∧ Le w wr) (fun _ i _ => m - (intOf i).toNat)
  case atStart => exact ⟨0, Nat.zero_le _, rfl, ⟨O0, fun x hx => by rw [List.mem_singleton.1 hx]; exact hokx⟩, LW⟩
  case round =>
    obtain ⟨k, hk1, rfl, O1, L1⟩ := hrel
    clear O0 LW
    by_cases hlt : k < m
    · have hlh : k < hs.length := by omega
      have hlL : k < L.length := by omega
      obtain ⟨b, off, rfl, hb2, hcell⟩ := (S.le L1).hdr_at hlh
      have sk := (R.le L1).each k _ _ (List.getElem?_eq_getElem hlh) (List.getElem?_eq_getElem hlL)
      obtain ⟨hk16, hkd⟩ := hd L[k] (List.getElem_mem hlL)
      have HST := Lib.hid (wrap_snoc code L hlL)
      have hl5 := wrap_len code (L.take k) (fun l hl => (hd l (List.mem_of_mem_take hl)).1)
      rw [List.length_take] at hl5
      have hln : hs[k].n ≤ 16 := by have := sk.len; omega
      obtain ⟨D, HD⟩ : ∃ D, Hid (wrapL code (L.take k) = D) := ⟨_, Lib.hid rfl⟩
      rw [HD.out] at HST O1 hl5
      have hl6 : D.length ≤ 16777217 := by omega
      have HK := Lib.hid hkd
      clear hl5
      go_wp2_with fail
      refine (deeper_any _ _ _ L[k] 1 _ sk (by omega) HK.out (by omega)).mono ?_
      rintro e w5 ⟨v3, rfl, O3, hl5⟩
      obtain ⟨A3, c3, rfl, S3, -⟩ := O3.form (by decide)
      have hl7 : (shiftL L[k] 1).length ≤ 16 := by rw [shiftL_len]; exact hk16
      have O5 := O1.le hl5
      have L5 := L1.trans hl5
      have hok5 := Lib.hid (ok_app' O5.ok S3.ok)
      have hs5 := L5.size
      clear O1 O3 sk
      obtain ⟨E, HE⟩ : ∃ E, Hid (shiftL L[k] 1 = E) := ⟨_, Lib.hid rfl⟩
      rw [HE.out] at S3 hl7 hok5 HST
      rw [HE.out]
      go_wp2_with (at_builtin; refine wpList_append_sl rfl _ _ 26 rfl w.heap.size 57 i1 _ 32 Try.underlying26 hi1 hy0 hy1 hy2 rfl _ D.length D rfl O5.row A3 E.length c3 E rfl S3 (by unfold maxLen; omega) (by omega) hs5 ?_; intro v6 w6 O6 hg6 _)
      have L6 := L5.grown hg6 (fun q hq => (O5.row.lt q hq).1)
      have H6 : Hid (Owd 57 w w6 v6 (wrapL code (L.take (k + 1)))) := by
        show Owd _ _ _ _ _
        rw [HST.out]
        exact ⟨by rw [List.length_append]; exact O6, hok5.out⟩
      clear O6 hg6 O5
      go_roundw
      case rel => exact ⟨k + 1, by omega, by go_num, H6.out, L6⟩
      case measure => simp [intOf]; omega
    · obtain rfl : k = m := by omega
      rw [List.take_of_length_le (by omega)] at O1
      have HO := Lib.hid O1
      clear O1
      go_wp2
      go_ret
      exact ⟨_, rfl, HO.out, L1⟩
set_option maxRecDepth 100000 in
set_option maxHeartbeats 4000000 in
theorem sWrapGroup_any (A B : Option Addr) (n cap m c : Nat) (xs : List Cls) (hs : List Hdr) (L : List (List Prt)) (code : Int) (w : World) (hT : Sl w A n cap xs) (S : Sl w B m c hs) (R : Rd2 w hs L) (hm : m ≤ 1048576) (hc : -9223372036854775808 ≤ code ∧ code ≤ 9223372036854775807) :
    Calls Try.prog 26 #[.agg #[.slice A n cap], .slice B m c, .int .i64 code] w (WrOut w xs L code) := by
  obtain ⟨c0, z0, hl⟩ := box1 w (.slice A n cap) 25
  have hS := hT.le hl
  have S1 := S.le hl
  have R1 := R.le hl
  have hmn := S.n_le
  have hl1 : m ≤ L.length := by have := R.len; have := S.len; omega
  have hl2 : L.length ≤ m := by have := R.len; have := S.len; omega
  have hl3 : hs.length ≤ m := by have := S.len; omega
  have hl4 : m ≤ hs.length := by have := S.len; omega
  clear S R
  go_enter Try.func26, Try.ntmps26
  go_wp2
  generalize w.alloc (.cells #[.slice A n cap] 25) = w1 at *
  go_loopw [8] (fun i wr => ∃ k : Nat, k ≤ m ∧ i = .int .i64 k ∧ (L.take k).all (gOkS xs) = true ∧ Le w1 wr) (fun i _ => m - (intOf i).toNat)
  case atStart => exact ⟨0, Nat.zero_le _, rfl, rfl, Le.refl _⟩
  case round =>
    obtain ⟨k, hk1, rfl, hall, L1⟩ := hrel
    have HALL := Lib.hid hall
    clear hall
    by_cases hlt : k < m
    · have hlh : k < hs.length := by omega
      have hlL : k < L.length := by omega
      obtain ⟨b, off, rfl, hb2, hcell⟩ := (S1.le L1).hdr_at hlh
      have sk := (R1.le L1).each k _ _ (List.getElem?_eq_getElem hlh) (List.getElem?_eq_getElem hlL)
      have hSr := hS.le L1
      have dr := (L1.cell z0).trans c0
      have zr := Nat.lt_of_lt_of_le z0 L1.size
      go_wp2_with fail
      refine wp_region_noPanic ?_
      refine wp_region_Z (fun w' => w'.cell? ⟨w.heap.size, 0, none⟩ = some (.slice A n cap) ∧ w'.cell? ⟨b, off + k, none⟩ = some (.slice hs[k].a hs[k].n hs[k].c)) [] (by kernel_rfl) ?_
      have q1 : wr.drew.cell? ⟨w.heap.size, 0, none⟩ = some (.slice A n cap) ∧ wr.drew.cell? ⟨b, off + k, none⟩ = some (.slice hs[k].a hs[k].n hs[k].c) := ⟨dr, hcell⟩
      have S3 := hSr.le (Le.refl wr).drew
      have s3 := sk.le (Le.refl wr).drew
      have L3 := L1.drew
      have zb : b < wr.drew.heap.size := hb2
      have zw : w.heap.size < wr.drew.heap.size := zr
      generalize wr.drew = V at *
      refine wpAnyZ_take (i := 0) (v := ?_) rfl (by kernel_rfl) (fun _ _ _ h => h) (Or.inl ⟨by rfl, ?_⟩) (q1) ?_
      rotate_left 1
      · (intro w hSw; (try dsimp only at hSw); go_simp; try with_reducible rfl)
      try simp only [Act.put, List.setIfInBounds_toArray, List.set_cons_zero, List.set_cons_succ]
      refine wpAnyZ_take (i := 1) (v := ?_) rfl (by kernel_rfl) (fun _ _ _ h => h) (Or.inl ⟨by rfl, ?_⟩) (q1) ?_
      rotate_left 1
      · (intro w hSw; (try dsimp only at hSw); go_simp; try with_reducible rfl)
      try simp only [Act.put, List.setIfInBounds_toArray, List.set_cons_zero, List.set_cons_succ]
      refine wpAnyZ_take (i := 2) (v := ?_) rfl (by kernel_rfl) (fun _ _ _ h => h) (Or.inl ⟨by rfl, ?_⟩) (q1) ?_
      rotate_left 1
      · (intro w hSw; (try dsimp only at hSw); go_simp; try with_reducible rfl)
      try simp only [Act.put, List.setIfInBounds_toArray, List.set_cons_zero, List.set_cons_succ]
      refine wpAnyZ_take (i := 3) (v := ?_) rfl (by kernel_rfl) (fun _ _ _ h => h) (Or.inl ⟨by rfl, ?_⟩) (q1) ?_
      rotate_left 1
      · (intro w hSw; (try dsimp only at hSw); go_simp; try with_reducible rfl)
      try simp only [Act.put, List.setIfInBounds_toArray, List.set_cons_zero, List.set_cons_succ]
      refine wpAnyZ_take (i := 4) (v := ?_) rfl (by kernel_rfl) (fun _ _ _ h => h) (Or.inl ⟨by rfl, ?_⟩) (q1) ?_
      rotate_left 1
      · (intro w hSw; (try dsimp only at hSw); go_simp; try with_reducible rfl)
      try simp only [Act.put, List.setIfInBounds_toArray, List.set_cons_zero, List.set_cons_succ]
      refine wpAnyZ_one (i := 5) (by kernel_rfl) (ReadyZ.mk rfl (fun K hK => ?_))
      go_simp
      go_at_call 37
      refine (validGroup_any _ _ _ _ _ _ xs L[k] _ S3 s3).mono ?_
      rintro e V2 ⟨rfl, hl2⟩
      have q2 : V2.cell? ⟨w.heap.size, 0, none⟩ = some (.slice A n cap) ∧ V2.cell? ⟨b, off + k, none⟩ = some (.slice hs[k].a hs[k].n hs[k].c) := ⟨(hl2.cell zw).trans q1.1, (hl2.cell zb).trans q1.2⟩
      refine hK.out _ _ (fun _ => q2) ?_
      clear hK K
      try simp only [Act.put, List.setIfInBounds_toArray, List.set_cons_zero, List.set_cons_succ]
      cases hg : gOkS xs L[k]
      · have HX := Lib.hid (wrX_of (code := code) (show wrOk xs L code = false by unfold wrOk; rw [all_no hlL hg]; rfl))
        refine wpAnyZ_take (i := 6) (v := ?_) rfl (by kernel_rfl) (fun _ _ _ h => h) (Or.inl ⟨by rfl, ?_⟩) (q2) ?_
        rotate_left 1
        · (intro w hSw; (try dsimp only at hSw); go_simp; try with_reducible rfl)
        try simp only [Act.put, List.setIfInBounds_toArray, List.set_cons_zero, List.set_cons_succ]
        refine wpAnyZ_done (by kernel_rfl) ?_ _
        refine NoPanic.normal ?_
        have HL := Lib.hid ((hl.trans L3).trans hl2)
        clear hg q1 q2
        go_wp2
        go_ret2
        exact ⟨_, by rw [HX.out.2]; rfl, by rw [HX.out.1]; exact Owd.nil _ _ _, HL.out⟩
      · have HA : Hid ((L.take (k + 1)).all (gOkS xs) = true) := by show _ = _; rw [all_at hlL, HALL.out, hg]; rfl
        refine wpAnyZ_take (i := 6) (v := ?_) rfl (by kernel_rfl) (fun _ _ _ h => h) (Or.inl ⟨by rfl, ?_⟩) (q2) ?_
        rotate_left 1
        · (intro w hSw; (try dsimp only at hSw); go_simp; try with_reducible rfl)
        try simp only [Act.put, List.setIfInBounds_toArray, List.set_cons_zero, List.set_cons_succ]
        refine wpAnyZ_done (by kernel_rfl) ?_ _
        refine NoPanic.normal ?_
        have HL := Lib.hid (L3.trans hl2)
        clear hg q1 q2
        go_wp2
        go_roundw
        case rel => exact ⟨k + 1, by omega, by go_num, HA.out, HL.out⟩
        case measure => simp [intOf]; omega
    · obtain rfl : k = m := by omega
      rw [List.take_of_length_le (by omega)] at HALL
      have hd := fun l hl => gOk_deep (List.all_eq_true.1 HALL.out l hl)
      have HD := Lib.hid hd
      have dr := (L1.cell z0).trans c0
      have zr := Nat.lt_of_lt_of_le z0 L1.size
      clear hd
      go_wp2_with fail
      refine (wrap_any _ _ _ hs L code _ (S1.le L1) (R1.le L1) hm hc HD.out).mono ?_
      rintro e w5 ⟨v, rfl, O, hl5⟩
      obtain ⟨A5, c5, rfl, S5, -⟩ := O.form (by decide)
      have d5 := (hl5.cell zr).trans dr
      have L5 := L1.trans hl5
      have hS5 := hS.le L5
      go_wp2_with fail
      refine (validGroup_any _ _ _ _ _ _ xs (wrapL code L) _ hS5 S5).mono ?_
      rintro e w6 ⟨rfl, hl6⟩
      have HO := Lib.hid (((O.mono (hl.trans L1))).le hl6)
      have HL := Lib.hid ((hl.trans L5).trans hl6)
      clear O S5
      cases hg : gOkS xs (wrapL code L)
      · have HX := Lib.hid (wrX_of (code := code) (show wrOk xs L code = false by unfold wrOk; rw [hg, Bool.and_false]))
        clear hg
        go_wp2
        go_ret2
        exact ⟨_, by rw [HX.out.2]; rfl, by rw [HX.out.1]; exact Owd.nil _ _ _, HL.out⟩
      · have HX := Lib.hid (wrX_of (code := code) (show wrOk xs L code = true by unfold wrOk; rw [hg, HALL.out]; rfl))
        clear hg
        go_wp2
        go_ret2
        exact ⟨_, by rw [HX.out.2]; rfl, by rw [HX.out.1]; exact HO.out, HL.out⟩
set_option maxRecDepth 100000 in
set_option maxHeartbeats 4000000 in
theorem iWrapGroup_any (A B : Option Addr) (n cap m c : Nat) (xs : List Cls) (hs : List Hdr) (L : List (List Prt)) (code : Int) (w : World) (hT : Sl w A n cap xs) (S : Sl w B m c hs) (R : Rd2 w hs L) (hm : m ≤ 1048576) (hc : -9223372036854775808 ≤ code ∧ code ≤ 9223372036854775807) :
    Calls Try.prog 25 #[.agg #[.slice A n cap], .slice B m c, .int .i64 code] w (WrOut w xs L code) := by
  obtain ⟨i1, hi1, hy0, hy1, hy2⟩ := info_parts infoPrtS
  obtain ⟨c0, z0, hl⟩ := box1 w (.slice A n cap) 25
  have hS := hT.le hl
  have S1 := S.le hl
  have R1 := R.le hl
  have hmn := S.n_le
  have hl1 : m ≤ L.length := by have := R.len; have := S.len; omega
  have hl2 : L.length ≤ m := by have := R.len; have := S.len; omega
  have hl3 : hs.length ≤ m := by have := S.len; omega
  have hl4 : m ≤ hs.length := by have := S.len; omega
  clear S R
  have hokx : Enc.ok (⟨0, true, 0, code⟩ : Prt) := ⟨by show (-9223372036854775808 : Int) ≤ 0; omega, by show (0 : Int) ≤ 9223372036854775807; omega, by show (-9223372036854775808 : Int) ≤ 0; omega, by show (0 : Int) ≤ 9223372036854775807; omega, hc.1, hc.2⟩
  go_enter Try.func25, Try.ntmps25
  go_wp2_with fail
  have hw1 : Hid ((w.alloc (.cells #[.slice A n cap] 25)).heap.size = w.heap.size + 1) := by show _ = _; simp
  generalize w.alloc (.cells #[.slice A n cap] 25) = w1 at *
  have O0 := own_oneP w1 ⟨0, true, 0, code⟩ (b := w1.heap.size) (Nat.le_refl _)
  have LW := Le.new w1 (.cells #[.int .i64 0, .bool true, .int .i64 0, .int .i64 code] 57)
  go_wp2
  generalize w1.alloc (.cells #[.int .i64 0, .bool true, .int .i64 0, .int .i64 code] 57) = W0 at *
  go_loopw [8, 16] (fun v i wr => ∃ k : Nat, k ≤ m ∧ i = .int .i64 k ∧ Owd 57 w1 wr v (wrapL code (L.take k)) ∧ (L.take k).all (gOkS xs) = true ∧ Le w1 wr) (fun _ i _ => m - (intOf i).toNat)
  case atStart => exact ⟨0, Nat.zero_le _, rfl, (by rw [← hw1.out]; exact ⟨O0, fun x hx => by rw [List.mem_singleton.1 hx]; exact hokx⟩), rfl, LW⟩
  case round =>
    obtain ⟨k, hk1, rfl, O1, hall, L1⟩ := hrel
    have HALL := Lib.hid hall
    clear O0 LW hall
    by_cases hlt : k < m
    · have hlh : k < hs.length := by omega
      have hlL : k < L.length := by omega
      obtain ⟨b, off, rfl, hb2, hcell⟩ := (S1.le L1).hdr_at hlh
      have sk := (R1.le L1).each k _ _ (List.getElem?_eq_getElem hlh) (List.getElem?_eq_getElem hlL)
      have hSr := hS.le L1
      have dr := (L1.cell z0).trans c0
      have HST := Lib.hid (wrap_snoc code L hlL)
      have hl5 := wrap_len code (L.take k) (fun l hl => (gOk_deep (List.all_eq_true.1 HALL.out l hl)).1)
      rw [List.length_take] at hl5
      obtain ⟨D, HD⟩ : ∃ D, Hid (wrapL code (L.take k) = D) := ⟨_, Lib.hid rfl⟩
      rw [HD.out] at HST O1 hl5
      have hl6 : D.length ≤ 16777217 := by omega
      clear hl5
      go_wp2_with fail
      refine (iValidGroupS_any _ _ _ _ _ _ xs L[k] _ hSr sk).mono ?_
      rintro e w4 ⟨rfl, hl7⟩
      have L4 := L1.trans hl7
      cases hg : gOkS xs L[k]
      · have HX := Lib.hid (wrX_of (code := code) (show wrOk xs L code = false by unfold wrOk; rw [all_no hlL hg]; rfl))
        have HL := Lib.hid (hl.trans L4)
        clear hg O1
        go_wp2
        go_ret2
        exact ⟨_, by rw [HX.out.2]; rfl, by rw [HX.out.1]; exact Owd.nil _ _ _, HL.out⟩
      · have HA : Hid ((L.take (k + 1)).all (gOkS xs) = true) := by show _ = _; rw [all_at hlL, HALL.out, hg]; rfl
        obtain ⟨hk16, hkd⟩ := gOk_deep hg
        have HK := Lib.hid hkd
        have hln : hs[k].n ≤ 16 := by have := sk.len; omega
        clear hg hkd
        go_wp2_with fail
        refine (shiftParts_any _ _ _ L[k] 1 _ (sk.le hl7) (by omega) HK.out (by omega)).mono ?_
        rintro e w5 ⟨v3, rfl, O3, hl8⟩
        obtain ⟨A3, c3, rfl, S3, -⟩ := O3.form (by decide)
        have hl9 : (shiftL L[k] 1).length ≤ 16 := by rw [shiftL_len]; exact hk16
        have O5 := (O1.le hl7).le hl8
        have L5 := L4.trans hl8
        have hok5 := Lib.hid (ok_app' O5.ok S3.ok)
        have hs5 := L5.size
        clear O1 O3 sk
        obtain ⟨E, HE⟩ : ∃ E, Hid (shiftL L[k] 1 = E) := ⟨_, Lib.hid rfl⟩
        rw [HE.out] at S3 hl9 hok5 HST
        rw [HE.out]
        go_wp2_with (at_builtin; refine wpList_append_sl rfl _ _ 26 rfl w1.heap.size 57 i1 _ 32 Try.underlying26 hi1 hy0 hy1 hy2 rfl _ D.length D rfl O5.row A3 E.length c3 E rfl S3 (by unfold maxLen; omega) (by omega) hs5 ?_; intro v6 w6 O6 hg6 _)
        have L6 := L5.grown hg6 (fun q hq => (O5.row.lt q hq).1)
        have H6 : Hid (Owd 57 w1 w6 v6 (wrapL code (L.take (k + 1)))) := by
          show Owd _ _ _ _ _
          rw [HST.out]
          exact ⟨by rw [List.length_append]; exact O6, hok5.out⟩
        clear O6 hg6 O5
        go_roundw
        case rel => exact ⟨k + 1, by omega, by go_num, H6.out, HA.out, L6⟩
        case measure => simp [intOf]; omega
    · obtain rfl : k = m := by omega
      rw [List.take_of_length_le (by omega)] at HALL O1
      have dr := (L1.cell z0).trans c0
      obtain ⟨A5, c5, rfl, S5, -⟩ := O1.form (by decide)
      have hSr := hS.le L1
      go_wp2_with fail
      refine (iValidGroupS_any _ _ _ _ _ _ xs (wrapL code L) _ hSr S5).mono ?_
      rintro e w6 ⟨rfl, hl6⟩
      have HO := Lib.hid ((O1.mono hl).le hl6)
      have HL := Lib.hid ((hl.trans L1).trans hl6)
      clear O1 S5
      cases hg : gOkS xs (wrapL code L)
      · have HX := Lib.hid (wrX_of (code := code) (show wrOk xs L code = false by unfold wrOk; rw [hg, Bool.and_false]))
        clear hg
        go_wp2
        go_ret2
        exact ⟨_, by rw [HX.out.2]; rfl, by rw [HX.out.1]; exact Owd.nil _ _ _, HL.out⟩
      · have HX := Lib.hid (wrX_of (code := code) (show wrOk xs L code = true by unfold wrOk; rw [hg, HALL.out]; rfl))
        clear hg
        go_wp2
        go_ret2
        exact ⟨_, by rw [HX.out.2]; rfl, by rw [HX.out.1]; exact HO.out, HL.out⟩
end

section
def depK (g : List Prt) : Nat → Int
  | 0 => 0
  | k + 1 => if depK g k < (gAt g k).depth then (gAt g k).depth else depK g k
def depX (xs : List Cls) (g : List Prt) : Int := if gOkS xs g = true then depK g g.length else -1
end

section
theorem gOk_nil (xs : List Cls) : gOkS xs [] = false := by
  cases h : gOkS xs []
  · rfl
  · have := (goodG_of (by rw [← gOk_same]; exact h)).len.1
    simp at this
theorem lvX_tree {xs : List Cls} {t : Fo} (h : GTr xs t) : lvX xs (flat 0 t) = leavesF t := by
  rw [lvX_of h.gOk]; exact leaves_flat t 0
theorem lvE {xs : List Cls} {t : Fo} (h : t = .nil ∨ GTr xs t) : lvX xs (flat 0 t) = leavesF t := by
  rcases h with rfl | h
  · rw [show flat 0 .nil = [] from rfl, lvX_of (gOk_nil xs)]; rfl
  · exact lvX_tree h
theorem kidsX_tree {xs : List Cls} {t : Fo} (h : GTr xs t) : kidsX xs (flat 0 t) = (rootsF (kidsF t)).map (flat 0) := by
  rw [kidsX_of h.gOk]; exact kidsL_flat h.one
theorem keep_or {xs : List Cls} {t : Fo} (h : GTr xs t) (p : Lef → Bool) : keepF p t = .nil ∨ GTr xs (keepF p t) := by
  cases e : anyFo p t
  · exact .inl (keepF_none e)
  · exact .inr (h.keep e)
theorem keep_orE {xs : List Cls} {t : Fo} (h : t = .nil ∨ GTr xs t) (p : Lef → Bool) : keepF p t = .nil ∨ GTr xs (keepF p t) := by
  rcases h with rfl | h
  · exact .inl rfl
  · exact keep_or h p
theorem depK_max (g : List Prt) : ∀ k, 0 ≤ depK g k ∧ (∀ i, i < k → (gAt g i).depth ≤ depK g k) ∧ (depK g k = 0 ∨ ∃ i, i < k ∧ (gAt g i).depth = depK g k)
  | 0 => ⟨Int.le_refl _, fun i h => by omega, .inl rfl⟩
  | k + 1 => by
    obtain ⟨h1, h2, h3⟩ := depK_max g k
    rw [show depK g (k + 1) = if depK g k < (gAt g k).depth then (gAt g k).depth else depK g k from rfl]
    by_cases h : depK g k < (gAt g k).depth
    · rw [if_pos h]
      refine ⟨by omega, fun i hi => ?_, .inr ⟨k, by omega, rfl⟩⟩
      by_cases e : i = k
      · subst e; omega
      · have := h2 i (by omega); omega
    · rw [if_neg h]
      refine ⟨h1, fun i hi => ?_, ?_⟩
      · by_cases e : i = k
        · subst e; omega
        · exact h2 i (by omega)
      · rcases h3 with h3 | ⟨i, hi, e⟩
        · exact .inl h3
        · exact .inr ⟨i, by omega, e⟩
theorem depX_tree {xs : List Cls} {t : Fo} (h : GTr xs t) : depX xs (flat 0 t) = (htF t : Int) - 1 := by
  have e : depX xs (flat 0 t) = depK (flat 0 t) (flat 0 t).length := by unfold depX; rw [if_pos h.gOk]
  rw [e]
  obtain ⟨h1, h2, h3⟩ := depK_max (flat 0 t) (flat 0 t).length
  obtain ⟨p, hp, hd⟩ := flat_att (one_ne h.one) 0
  obtain ⟨i, hi, rfl⟩ := List.getElem_of_mem hp
  have h4 := h2 i hi
  rw [gAt_at hi] at h4
  have hpos := one_ht h.one
  rcases h3 with h3 | ⟨j, hj, e2⟩
  · omega
  · have := flat_lt t 0 (gAt (flat 0 t) j) (by rw [gAt_at hj]; exact List.getElem_mem hj)
    omega
/-- the greatest depth of some groups -/
def mxD (xs : List Cls) (L : List (List Prt)) : Int := L.foldl (fun n l => if n < depX xs l then depX xs l else n) (-1)
theorem mxD_snoc (xs : List Cls) {L : List (List Prt)} {k : Nat} (h : k < L.length) : mxD xs (L.take (k + 1)) = if mxD xs (L.take k) < depX xs L[k] then depX xs L[k] else mxD xs (L.take k) := by
  unfold mxD
  rw [List.take_succ_eq_append_getElem h, List.foldl_append]; rfl
theorem mxD_roots {xs : List Cls} : ∀ (RS : List Fo) (n : Int), (∀ r ∈ RS, GTr xs r) → -1 ≤ n → (RS.map (flat 0)).foldl (fun n l => if n < depX xs l then depX xs l else n) n = max n (((RS.map htF).foldr max 0 : Nat) - 1)
  | [], n, _, hn => by simp; omega
  | r :: RS, n, h, hn => by
    have hr := depX_tree (h r (List.mem_cons_self ..))
    have hh := one_ht (h r (List.mem_cons_self ..)).one
    rw [List.map_cons, List.foldl_cons, hr, mxD_roots RS _ (fun x hx => h x (List.mem_cons_of_mem _ hx)) (by split <;> omega), List.map_cons, List.foldr_cons]
    split <;> omega
theorem dep_kids {xs : List Cls} {t : Fo} (h : GTr xs t) : depX xs (flat 0 t) = mxD xs (kidsX xs (flat 0 t)) + 1 := by
  rw [depX_tree h, kidsX_tree h]
  unfold mxD
  rw [mxD_roots _ _ (fun r hr => h.kid hr) (Int.le_refl _), ← htF_roots]
  have := one_ht h.one
  omega
theorem hcX_tree {xs : List Cls} {t : Fo} (h : t = .nil ∨ GTr xs t) (a : Int) : hcX xs (flat 0 t) a = (hasK xs a && (leavesF t).any (fun x => isAL xs x.cls a)) := by
  unfold hcX
  rcases h with rfl | h
  · rw [show flat 0 .nil = [] from rfl, gOk_nil]; simp [leavesF]
  · rw [h.gOk, leaves_flat, Bool.true_and]
theorem isAL_top {xs : List Cls} (g : Good xs) : ∀ (m : Nat) (a : Nat), a = m → a < xs.length → isAL xs (a : Int) 0 = true := by
  intro m
  induction m using Nat.strongRecOn with
  | _ m ih =>
    intro a e ha
    rw [isAL_at g ha]
    by_cases h0 : a = 0
    · subst h0; rfl
    · obtain ⟨p, hp, hlt⟩ : ∃ p : Nat, xs[a].parent = p ∧ p < a := by
        have := g.par a ha (by omega)
        exact ⟨xs[a].parent.toNat, by omega, by omega⟩
      rw [hp, ih p (by omega) p rfl (by omega), Bool.or_true]
theorem hc_root {xs : List Cls} {t : Fo} (h : GTr xs t) : hcX xs (flat 0 t) 0 = true := by
  have g := good_of h.tree
  rw [hcX_tree (.inr h), Bool.and_eq_true]
  refine ⟨hasK_iff.2 ⟨Int.le_refl _, by have := g.lo; omega⟩, ?_⟩
  rw [List.any_eq_true]
  have h1 := leaves_some h.ok (one_ne h.one)
  cases e : leavesF t with
  | nil => exact absurd e h1
  | cons x r =>
    have hx := leaves_mem h.ok x (by rw [e]; exact List.mem_cons_self ..)
    refine ⟨x, List.mem_cons_self .., ?_⟩
    obtain ⟨i, hi⟩ : ∃ i : Nat, x.cls = i := ⟨x.cls.toNat, by omega⟩
    rw [hi]
    exact isAL_top g i i rfl (by omega)
theorem flat_roots (t : Fo) (d : Int) : flat d t = ((rootsF t).map (flat d)).flatten := by
  induction t with
  | nil => rfl
  | leaf x r ih => rw [rootsF, List.map_cons, List.flatten_cons, ← ih]; rfl
  | grp c k r ih1 ih2 => rw [rootsF, List.map_cons, List.flatten_cons, ← ih2]; simp [flat]
/-- trees in a row -/
def catF : List Fo → Fo
  | [] => .nil
  | t :: r => appF t (catF r)
theorem roots_cat : ∀ {ts : List Fo}, (∀ t ∈ ts, OneF t) → rootsF (catF ts) = ts
  | [], _ => rfl
  | t :: r, h => by
    rw [catF, roots_app, one_roots (h t (List.mem_cons_self ..)), roots_cat (fun x hx => h x (List.mem_cons_of_mem _ hx))]; rfl
theorem wrap_trees (code : Int) {ts : List Fo} (h : ∀ t ∈ ts, OneF t) : wrapL code (ts.map (flat 0)) = flat 0 (.grp code (catF ts) .nil) := by
  unfold wrapL
  rw [flat, flat_roots (catF ts), roots_cat h, List.map_map]
  show _ = _ :: (_ ++ [])
  rw [List.append_nil]
  congr 3
  funext t
  show shiftL (flat 0 t) 1 = _
  rw [flat_shift]
theorem wrap_kids {xs : List Cls} {t : Fo} (h : GTr xs t) (hne : kidsX xs (flat 0 t) ≠ []) : wrOk xs (kidsX xs (flat 0 t)) (gAt (flat 0 t) 0).code = true ∧ wrX xs (kidsX xs (flat 0 t)) (gAt (flat 0 t) 0).code = flat 0 t := by
  have hk := kidsX_tree h
  have e : wrapL (gAt (flat 0 t) 0).code (kidsX xs (flat 0 t)) = flat 0 t := by
    rw [hk]
    have ho := h.one
    cases ho with
    | leaf x => rw [hk] at hne; exact absurd rfl hne
    | grp c k =>
      show wrapL c ((rootsF k).map (flat 0)) = _
      unfold wrapL
      rw [flat, flat_roots k, List.map_map]
      show _ = _ :: (_ ++ [])
      rw [List.append_nil]
      congr 3
      funext t
      show shiftL (flat 0 t) 1 = _
      rw [flat_shift]
  have hw : wrOk xs (kidsX xs (flat 0 t)) (gAt (flat 0 t) 0).code = true := by
    unfold wrOk
    rw [e, h.gOk, Bool.and_true, List.all_eq_true]
    intro l hl
    rw [hk] at hl
    obtain ⟨r, hr, rfl⟩ := List.mem_map.1 hl
    exact (h.kid hr).gOk
  exact ⟨hw, by rw [(wrX_of hw).1]; exact e⟩
theorem kids_wrap {xs : List Cls} {L : List (List Prt)} {code : Int} (h : wrOk xs L code = true) : kidsX xs (wrX xs L code) = L ∧ (gAt (wrX xs L code) 0).code = code ∧ (gAt (wrX xs L code) 0).group = true ∧ 0 < (wrX xs L code).length := by
  have hx := (wrX_of h).1
  unfold wrOk at h
  rw [Bool.and_eq_true, List.all_eq_true] at h
  obtain ⟨h1, h2⟩ := h
  have hL : L = (L.map treeOf).map (flat 0) := by
    rw [List.map_map]
    conv => lhs; rw [← List.map_id L]
    exact List.map_congr_left (fun l hl => (gOk_tree (h1 l hl)).1)
  have hone : ∀ t ∈ L.map treeOf, OneF t := fun t ht => by
    obtain ⟨l, hl, rfl⟩ := List.mem_map.1 ht
    exact (gOk_tree (h1 l hl)).2.one
  have hw : wrapL code L = flat 0 (.grp code (catF (L.map treeOf)) .nil) := by
    conv => lhs; rw [hL]
    exact wrap_trees code hone
  rw [hw] at h2
  obtain ⟨t, e, ht⟩ := gOk_iff.1 h2
  have := flat_inj _ _ 0 e
  subst this
  rw [hx]
  show kidsX xs (wrapL code L) = L ∧ _
  rw [hw]
  refine ⟨?_, rfl, rfl, ?_⟩
  · rw [kidsX_tree ht]
    show (rootsF (catF (L.map treeOf))).map (flat 0) = L
    rw [roots_cat hone]; exact hL.symm
  · simp [flat]
end
end Go.Proofs.Ytkpnajffeclmdaa
