/- one text of ItX, GM, GpK, ItL, ItM -/
import Derived.Test.YtpkkkpfanedieaaCk15
import Derived.Test.YtpkkkpfanedieaaCk7
import Derived.Test.YtpkkkpfanedieaaCk14
import Derived.Test.YtpkkkpfanedieaaCk10
import Derived.Test.YtpkkkpfanedieaaCk13
import Derived.Test.YtpkkkpfanedieaaCk9
namespace Go.Proofs.Ytpkkkpfanedieaa
open Go.RowKit
set_option linter.unusedVariables false
section
open Go.RowKit Go.Shelf
/-- a group of groups -/
def wrapL (code : Int) (L : List (List Prt)) : List Prt := ⟨0, true, 0, code⟩ :: (L.map (fun l => shiftL l 1)).flatten
def wrOk (xs : List Cls) (L : List (List Prt)) (code : Int) : Bool := L.all (gOkS xs) && gOkS xs (wrapL code L)
def wrX (xs : List Cls) (L : List (List Prt)) (code : Int) : List Prt := cond (wrOk xs L code) (wrapL code L) []
theorem wrX_of {xs : List Cls} {L : List (List Prt)} {code : Int} {b : Bool} (h : wrOk xs L code = b) : wrX xs L code = cond b (wrapL code L) [] ∧ wrOk xs L code = b := ⟨by unfold wrX; rw [h], h⟩
theorem wrX_len (xs : List Cls) (L : List (List Prt)) (code : Int) : (wrX xs L code).length ≤ 1048576 := by
  cases h : wrOk xs L code
  · rw [(wrX_of h).1]; simp
  · have h2 : gOkS xs (wrapL code L) = true := by unfold wrOk at h; rw [Bool.and_eq_true] at h; exact h.2
    have := gOk_len h2
    rw [(wrX_of h).1]
    show (wrapL code L).length ≤ _
    omega
theorem wrap_snoc (code : Int) (L : List (List Prt)) {k : Nat} (h : k < L.length) : wrapL code (L.take (k + 1)) = wrapL code (L.take k) ++ shiftL L[k] 1 := by
  unfold wrapL
  rw [List.take_succ_eq_append_getElem h, List.map_append, List.flatten_append, List.map_singleton, List.flatten_singleton]; rfl
theorem wrap_len (code : Int) : ∀ (L : List (List Prt)), (∀ l ∈ L, l.length ≤ 16) → (wrapL code L).length ≤ 16 * L.length + 1
  | [], _ => Nat.le_refl _
  | l :: r, h => by
    have h1 := h l (List.mem_cons_self ..)
    have h2 := wrap_len code r (fun x hx => h x (List.mem_cons_of_mem _ hx))
    unfold wrapL at h2 ⊢
    rw [List.length_cons] at h2
    rw [List.map_cons, List.flatten_cons, List.length_cons, List.length_append, shiftL_len, List.length_cons]
    omega
theorem all_at {α : Type} {f : α → Bool} {L : List α} {k : Nat} (h : k < L.length) : (L.take (k + 1)).all f = ((L.take k).all f && f L[k]) := by
  rw [List.take_succ_eq_append_getElem h, List.all_append]; simp
theorem all_no {α : Type} {f : α → Bool} {L : List α} {k : Nat} (h : k < L.length) (hf : f L[k] = false) : L.all f = false := by
  cases e : L.all f
  · rfl
  · have := (List.all_eq_true.1 e) _ (List.getElem_mem h)
    rw [hf] at this; cases this
theorem ok_app' {α : Type} [Enc α] {A B : List α} (h1 : ∀ x ∈ A, Enc.ok x) (h2 : ∀ x ∈ B, Enc.ok x) : ∀ x ∈ A ++ B, Enc.ok x := fun x hx => (List.mem_append.1 hx).elim (h1 x) (h2 x)
theorem gOk_deep {xs : List Cls} {g : List Prt} (h : gOkS xs g = true) : g.length ≤ 16 ∧ ∀ p ∈ g, -1000 ≤ p.depth ∧ p.depth ≤ 1000 := by
  have G := goodG_of (by rw [← gOk_same]; exact h)
  exact ⟨G.len.2, fun p hp => by have := good_deep G p hp; omega⟩
def WrOut (w : World) (xs : List Cls) (L : List (List Prt)) (code : Int) (e : Ending) (w' : World) : Prop :=
  ∃ v, e = .returned (.tuple #[v, .bool (wrOk xs L code)]) ∧ Owd 42 w w' v (wrX xs L code) ∧ Le w w'
set_option maxRecDepth 100000 in
set_option maxHeartbeats 4000000 in
theorem wrap_any (B : Option Addr) (m c : Nat) (hs : List Hdr) (L : List (List Prt)) (code : Int) (w : World) (S : Sl w B m c hs) (R : Rd2 w hs L) (hm : m ≤ 1048576) (hc : -9223372036854775808 ≤ code ∧ code ≤ 9223372036854775807) (hd : ∀ l ∈ L, l.length ≤ 16 ∧ ∀ p ∈ l, -1000 ≤ p.depth ∧ p.depth ≤ 1000) :
    Calls Try.prog 56 #[.slice B m c, .int .i64 code] w fun e w' => ∃ v, e = .returned v ∧ Owd 42 w w' v (wrapL code L) ∧ Le w w' := by
  obtain ⟨i1, hi1, hy0, hy1, hy2⟩ := info_parts infoPrtS
  have hmn := S.n_le
  have hl1 : m ≤ L.length := by have := R.len; have := S.len; omega
  have hl2 : L.length ≤ m := by have := R.len; have := S.len; omega
  have hl3 : hs.length ≤ m := by have := S.len; omega
  have hl4 : m ≤ hs.length := by have := S.len; omega
  have hokx : Enc.ok (⟨0, true, 0, code⟩ : Prt) := ⟨by show (-9223372036854775808 : Int) ≤ 0; omega, by show (0 : Int) ≤ 9223372036854775807; omega, by show (-9223372036854775808 : Int) ≤ 0; omega, by show (0 : Int) ≤ 9223372036854775807; omega, hc.1, hc.2⟩
  have O0 := own_oneP w ⟨0, true, 0, code⟩ (b := w.heap.size) (Nat.le_refl _)
  have LW := Le.new w (.cells #[.int .i64 0, .bool true, .int .i64 0, .int .i64 code] 42)
  go_enter Try.func56, Try.ntmps56
  go_wp2
  generalize w.alloc (.cells #[.int .i64 0, .bool true, .int .i64 0, .int .i64 code] 42) = W0 at *
  go_loopw [5, 6] (fun v i wr => ∃ k : Nat, k ≤ m ∧ i = .int .i64 k ∧ Owd 42 w wr v (wrapL code (L.take k)) ∧ Le w wr) (fun _ i _ => m - (intOf i).toNat)
  case atStart => exact ⟨0, Nat.zero_le _, rfl, ⟨O0, fun x hx => by rw [List.mem_singleton.1 hx]; exact hokx⟩, LW⟩
  case round =>
    obtain ⟨k, hk1, rfl, O1, L1⟩ := hrel
    clear O0 LW
    by_cases hlt : k < m
    · have hlh : k < hs.length := by omega
      have hlL : k < L.length := by omega
      obtain ⟨b, off, rfl, hb2, hcell⟩ := (S.le L1).hdr_at hlh
      have sk := (R.le L1).each k _ _ (List.getElem?_eq_getElem hlh) (List.getElem?_eq_getElem hlL)
      obtain ⟨hk16, hkd⟩ := hd L[k] (List.getElem_mem hlL)
      have HST := Lib.hid (wrap_snoc code L hlL)
      have hl5 := wrap_len code (L.take k) (fun l hl => (hd l (List.mem_of_mem_take hl)).1)
      rw [List.length_take] at hl5
      have hln : hs[k].n ≤ 16 := by have := sk.len; omega
      obtain ⟨D, HD⟩ : ∃ D, Hid (wrapL code (L.take k) = D) := ⟨_, Lib.hid rfl⟩
      rw [HD.out] at HST O1 hl5
      have hl6 : D.length ≤ 16777217 := by omega
      have HK := Lib.hid hkd
      clear hl5
      go_wp2_with fail
      refine (deeper_any _ _ _ L[k] 1 _ sk (by omega) HK.out (by omega)).mono ?_
      rintro e w5 ⟨v3, rfl, O3, hl5⟩
      obtain ⟨A3, c3, rfl, S3, -⟩ := O3.form (by decide)
      have hl7 : (shiftL L[k] 1).length ≤ 16 := by rw [shiftL_len]; exact hk16
      have O5 := O1.le hl5
      have L5 := L1.trans hl5
      have hok5 := Lib.hid (ok_app' O5.ok S3.ok)
      have hs5 := L5.size
      clear O1 O3 sk
      obtain ⟨E, HE⟩ : ∃ E, Hid (shiftL L[k] 1 = E) := ⟨_, Lib.hid rfl⟩
      rw [HE.out] at S3 hl7 hok5 HST
      rw [HE.out]
      go_wp2_with (at_builtin; refine wpList_append_sl rfl _ _ 26 rfl w.heap.size 42 i1 _ 32 Try.underlying26 hi1 hy0 hy1 hy2 rfl _ D.length D rfl O5.row A3 E.length c3 E rfl S3 (by unfold maxLen; omega) (by omega) hs5 ?_; intro v6 w6 O6 hg6 _)
      have L6 := L5.grown hg6 (fun q hq => (O5.row.lt q hq).1)
      have H6 : Hid (Owd 42 w w6 v6 (wrapL code (L.take (k + 1)))) := by
        show Owd _ _ _ _ _
        rw [HST.out]
        exact ⟨by rw [List.length_append]; exact O6, hok5.out⟩
      clear O6 hg6 O5
      go_roundw
      case rel => exact ⟨k + 1, by omega, by go_num, H6.out, L6⟩
      case measure => simp [intOf]; omega
    · obtain rfl : k = m := by omega
      rw [List.take_of_length_le (by omega)] at O1
      have HO := Lib.hid O1
      clear O1
      go_wp2
      go_ret
      exact ⟨_, rfl, HO.out, L1⟩
set_option maxRecDepth 100000 in
set_option maxHeartbeats 4000000 in
theorem sWrapGroup_any (A B : Option Addr) (n cap m c : Nat) (xs : List Cls) (hs : List Hdr) (L : List (List Prt)) (code : Int) (w : World) (hT : Sl w A n cap xs) (S : Sl w B m c hs) (R : Rd2 w hs L) (hm : m ≤ 1048576) (hc : -9223372036854775808 ≤ code ∧ code ≤ 9223372036854775807) :
    Calls Try.prog 23 #[.agg #[.slice A n cap], .slice B m c, .int .i64 code] w (WrOut w xs L code) := by
  obtain ⟨c0, z0, hl⟩ := box1 w (.slice A n cap) 25
  have hS := hT.le hl
  have S1 := S.le hl
  have R1 := R.le hl
  have hmn := S.n_le
  have hl1 : m ≤ L.length := by have := R.len; have := S.len; omega
  have hl2 : L.length ≤ m := by have := R.len; have := S.len; omega
  have hl3 : hs.length ≤ m := by have := S.len; omega
  have hl4 : m ≤ hs.length := by have := S.len; omega
  clear S R
  go_enter Try.func23, Try.ntmps23
  go_wp2
  generalize w.alloc (.cells #[.slice A n cap] 25) = w1 at *
  go_loopw [8] (fun i wr => ∃ k : Nat, k ≤ m ∧ i = .int .i64 k ∧ (L.take k).all (gOkS xs) = true ∧ Le w1 wr) (fun i _ => m - (intOf i).toNat)
  case atStart => exact ⟨0, Nat.zero_le _, rfl, rfl, Le.refl _⟩
  case round =>
    obtain ⟨k, hk1, rfl, hall, L1⟩ := hrel
    have HALL := Lib.hid hall
    clear hall
    by_cases hlt : k < m
    · have hlh : k < hs.length := by omega
      have hlL : k < L.length := by omega
      obtain ⟨b, off, rfl, hb2, hcell⟩ := (S1.le L1).hdr_at hlh
      have sk := (R1.le L1).each k _ _ (List.getElem?_eq_getElem hlh) (List.getElem?_eq_getElem hlL)
      have hSr := hS.le L1
      have dr := (L1.cell z0).trans c0
      have zr := Nat.lt_of_lt_of_le z0 L1.size
      go_wp2_with fail
      refine wp_region_noPanic ?_
      refine wp_region_Z (fun w' => w'.cell? ⟨w.heap.size, 0, none⟩ = some (.slice A n cap) ∧ w'.cell? ⟨b, off + k, none⟩ = some (.slice hs[k].a hs[k].n hs[k].c)) [] (by kernel_rfl) ?_
      have q1 : wr.drew.cell? ⟨w.heap.size, 0, none⟩ = some (.slice A n cap) ∧ wr.drew.cell? ⟨b, off + k, none⟩ = some (.slice hs[k].a hs[k].n hs[k].c) := ⟨dr, hcell⟩
      have S3 := hSr.le (Le.refl wr).drew
      have s3 := sk.le (Le.refl wr).drew
      have L3 := L1.drew
      have zb : b < wr.drew.heap.size := hb2
      have zw : w.heap.size < wr.drew.heap.size := zr
      generalize wr.drew = V at *
      refine wpAnyZ_take (i := 0) (v := ?_) rfl (by kernel_rfl) (fun _ _ _ h => h) (Or.inl ⟨by rfl, ?_⟩) (q1) ?_
      rotate_left 1
      · (intro w hSw; (try dsimp only at hSw); go_simp; try with_reducible rfl)
      try simp only [Act.put, List.setIfInBounds_toArray, List.set_cons_zero, List.set_cons_succ]
      refine wpAnyZ_take (i := 1) (v := ?_) rfl (by kernel_rfl) (fun _ _ _ h => h) (Or.inl ⟨by rfl, ?_⟩) (q1) ?_
      rotate_left 1
      · (intro w hSw; (try dsimp only at hSw); go_simp; try with_reducible rfl)
      try simp only [Act.put, List.setIfInBounds_toArray, List.set_cons_zero, List.set_cons_succ]
      refine wpAnyZ_take (i := 2) (v := ?_) rfl (by kernel_rfl) (fun _ _ _ h => h) (Or.inl ⟨by rfl, ?_⟩) (q1) ?_
      rotate_left 1
      · (intro w hSw; (try dsimp only at hSw); go_simp; try with_reducible rfl)
      try simp only [Act.put, List.setIfInBounds_toArray, List.set_cons_zero, List.set_cons_succ]
      refine wpAnyZ_take (i := 3) (v := ?_) rfl (by kernel_rfl) (fun _ _ _ h => h) (Or.inl ⟨by rfl, ?_⟩) (q1) ?_
      rotate_left 1
      · (intro w hSw; (try dsimp only at hSw); go_simp; try with_reducible rfl)
      try simp only [Act.put, List.setIfInBounds_toArray, List.set_cons_zero, List.set_cons_succ]
      refine wpAnyZ_take (i := 4) (v := ?_) rfl (by kernel_rfl) (fun _ _ _ h => h) (Or.inl ⟨by rfl, ?_⟩) (q1) ?_
      rotate_left 1
      · (intro w hSw; (try dsimp only at hSw); go_simp; try with_reducible rfl)
      try simp only [Act.put, List.setIfInBounds_toArray, List.set_cons_zero, List.set_cons_succ]
      refine wpAnyZ_one (i := 5) (by kernel_rfl) (ReadyZ.mk rfl (fun K hK => ?_))
      go_simp
      go_at_call 39
      refine (validGroup_any _ _ _ _ _ _ xs L[k] _ S3 s3).mono ?_
      rintro e V2 ⟨rfl, hl2⟩
      have q2 : V2.cell? ⟨w.heap.size, 0, none⟩ = some (.slice A n cap) ∧ V2.cell? ⟨b, off + k, none⟩ = some (.slice hs[k].a hs[k].n hs[k].c) := ⟨(hl2.cell zw).trans q1.1, (hl2.cell zb).trans q1.2⟩
      refine hK.out _ _ (fun _ => q2) ?_
      clear hK K
      try simp only [Act.put, List.setIfInBounds_toArray, List.set_cons_zero, List.set_cons_succ]
      cases hg : gOkS xs L[k]
      · have HX := Lib.hid (wrX_of (code := code) (show wrOk xs L code = false by unfold wrOk; rw [all_no hlL hg]; rfl))
        refine wpAnyZ_take (i := 6) (v := ?_) rfl (by kernel_rfl) (fun _ _ _ h => h) (Or.inl ⟨by rfl, ?_⟩) (q2) ?_
        rotate_left 1
        · (intro w hSw; (try dsimp only at hSw); go_simp; try with_reducible rfl)
        try simp only [Act.put, List.setIfInBounds_toArray, List.set_cons_zero, List.set_cons_succ]
        refine wpAnyZ_done (by kernel_rfl) ?_ _
        refine NoPanic.normal ?_
        have HL := Lib.hid ((hl.trans L3).trans hl2)
        clear hg q1 q2
        go_wp2
        go_ret2
        exact ⟨_, by rw [HX.out.2]; rfl, by rw [HX.out.1]; exact Owd.nil _ _ _, HL.out⟩
      · have HA : Hid ((L.take (k + 1)).all (gOkS xs) = true) := by show _ = _; rw [all_at hlL, HALL.out, hg]; rfl
        refine wpAnyZ_take (i := 6) (v := ?_) rfl (by kernel_rfl) (fun _ _ _ h => h) (Or.inl ⟨by rfl, ?_⟩) (q2) ?_
        rotate_left 1
        · (intro w hSw; (try dsimp only at hSw); go_simp; try with_reducible rfl)
        try simp only [Act.put, List.setIfInBounds_toArray, List.set_cons_zero, List.set_cons_succ]
        refine wpAnyZ_done (by kernel_rfl) ?_ _
        refine NoPanic.normal ?_
        have HL := Lib.hid (L3.trans hl2)
        clear hg q1 q2
        go_wp2
        go_roundw
        case rel => exact ⟨k + 1, by omega, by go_num, HA.out, HL.out⟩
        case measure => simp [intOf]; omega
    · obtain rfl : k = m := by omega
      rw [List.take_of_length_le (by omega)] at HALL
      have hd := fun l hl => gOk_deep (List.all_eq_true.1 HALL.out l hl)
      have HD := Lib.hid hd
      have dr := (L1.cell z0).trans c0
      have zr := Nat.lt_of_lt_of_le z0 L1.size
      clear hd
      go_wp2_with fail
      refine (wrap_any _ _ _ hs L code _ (S1.le L1) (R1.le L1) hm hc HD.out).mono ?_
      rintro e w5 ⟨v, rfl, O, hl5⟩
      obtain ⟨A5, c5, rfl, S5, -⟩ := O.form (by decide)
      have d5 := (hl5.cell zr).trans dr
      have L5 := L1.trans hl5
      have hS5 := hS.le L5
      go_wp2_with fail
      refine (validGroup_any _ _ _ _ _ _ xs (wrapL code L) _ hS5 S5).mono ?_
      rintro e w6 ⟨rfl, hl6⟩
      have HO := Lib.hid (((O.mono (hl.trans L1))).le hl6)
      have HL := Lib.hid ((hl.trans L5).trans hl6)
      clear O S5
      cases hg : gOkS xs (wrapL code L)
      · have HX := Lib.hid (wrX_of (code := code) (show wrOk xs L code = false by unfold wrOk; rw [hg, Bool.and_false]))
        clear hg
        go_wp2
        go_ret2
        exact ⟨_, by rw [HX.out.2]; rfl, by rw [HX.out.1]; exact Owd.nil _ _ _, HL.out⟩
      · have HX := Lib.hid (wrX_of (code := code) (show wrOk xs L code = true by unfold wrOk; rw [hg, HALL.out]; rfl))
        clear hg
        go_wp2
        go_ret2
        exact ⟨_, by rw [HX.out.2]; rfl, by rw [HX.out.1]; exact HO.out, HL.out⟩
set_option maxRecDepth 100000 in
set_option maxHeartbeats 4000000 in
theorem iWrapGroup_any (A B : Option Addr) (n cap m c : Nat) (xs : List Cls) (hs : List Hdr) (L : List (List Prt)) (code : Int) (w : World) (hT : Sl w A n cap xs) (S : Sl w B m c hs) (R : Rd2 w hs L) (hm : m ≤ 1048576) (hc : -9223372036854775808 ≤ code ∧ code ≤ 9223372036854775807) :
    Calls Try.prog 22 #[.agg #[.slice A n cap], .slice B m c, .int .i64 code] w (WrOut w xs L code) := by
  obtain ⟨i1, hi1, hy0, hy1, hy2⟩ := info_parts infoPrtS
  obtain ⟨c0, z0, hl⟩ := box1 w (.slice A n cap) 25
  have hS := hT.le hl
  have S1 := S.le hl
  have R1 := R.le hl
  have hmn := S.n_le
  have hl1 : m ≤ L.length := by have := R.len; have := S.len; omega
  have hl2 : L.length ≤ m := by have := R.len; have := S.len; omega
  have hl3 : hs.length ≤ m := by have := S.len; omega
  have hl4 : m ≤ hs.length := by have := S.len; omega
  clear S R
  have hokx : Enc.ok (⟨0, true, 0, code⟩ : Prt) := ⟨by show (-9223372036854775808 : Int) ≤ 0; omega, by show (0 : Int) ≤ 9223372036854775807; omega, by show (-9223372036854775808 : Int) ≤ 0; omega, by show (0 : Int) ≤ 9223372036854775807; omega, hc.1, hc.2⟩
  go_enter Try.func22, Try.ntmps22
  go_wp2_with fail
  have hw1 : Hid ((w.alloc (.cells #[.slice A n cap] 25)).heap.size = w.heap.size + 1) := by show _ = _; simp
  generalize w.alloc (.cells #[.slice A n cap] 25) = w1 at *
  have O0 := own_oneP w1 ⟨0, true, 0, code⟩ (b := w1.heap.size) (Nat.le_refl _)
  have LW := Le.new w1 (.cells #[.int .i64 0, .bool true, .int .i64 0, .int .i64 code] 42)
  go_wp2
  generalize w1.alloc (.cells #[.int .i64 0, .bool true, .int .i64 0, .int .i64 code] 42) = W0 at *
  go_loopw [8, 16] (fun v i wr => ∃ k : Nat, k ≤ m ∧ i = .int .i64 k ∧ Owd 42 w1 wr v (wrapL code (L.take k)) ∧ (L.take k).all (gOkS xs) = true ∧ Le w1 wr) (fun _ i _ => m - (intOf i).toNat)
  case atStart => exact ⟨0, Nat.zero_le _, rfl, (by rw [← hw1.out]; exact ⟨O0, fun x hx => by rw [List.mem_singleton.1 hx]; exact hokx⟩), rfl, LW⟩
  case round =>
    obtain ⟨k, hk1, rfl, O1, hall, L1⟩ := hrel
    have HALL := Lib.hid hall
    clear O0 LW hall
    by_cases hlt : k < m
    · have hlh : k < hs.length := by omega
      have hlL : k < L.length := by omega
      obtain ⟨b, off, rfl, hb2, hcell⟩ := (S1.le L1).hdr_at hlh
      have sk := (R1.le L1).each k _ _ (List.getElem?_eq_getElem hlh) (List.getElem?_eq_getElem hlL)
      have hSr := hS.le L1
      have dr := (L1.cell z0).trans c0
      have HST := Lib.hid (wrap_snoc code L hlL)
      have hl5 := wrap_len code (L.take k) (fun l hl => (gOk_deep (List.all_eq_true.1 HALL.out l hl)).1)
      rw [List.length_take] at hl5
      obtain ⟨D, HD⟩ : ∃ D, Hid (wrapL code (L.take k) = D) := ⟨_, Lib.hid rfl⟩
      rw [HD.out] at HST O1 hl5
      have hl6 : D.length ≤ 16777217 := by omega
      clear hl5
      go_wp2_with fail
      refine (iValidGroupS_any _ _ _ _ _ _ xs L[k] _ hSr sk).mono ?_
      rintro e w4 ⟨rfl, hl7⟩
      have L4 := L1.trans hl7
      cases hg : gOkS xs L[k]
      · have HX := Lib.hid (wrX_of (code := code) (show wrOk xs L code = false by unfold wrOk; rw [all_no hlL hg]; rfl))
        have HL := Lib.hid (hl.trans L4)
        clear hg O1
        go_wp2
        go_ret2
        exact ⟨_, by rw [HX.out.2]; rfl, by rw [HX.out.1]; exact Owd.nil _ _ _, HL.out⟩
      · have HA : Hid ((L.take (k + 1)).all (gOkS xs) = true) := by show _ = _; rw [all_at hlL, HALL.out, hg]; rfl
        obtain ⟨hk16, hkd⟩ := gOk_deep hg
        have HK := Lib.hid hkd
        have hln : hs[k].n ≤ 16 := by have := sk.len; omega
        clear hg hkd
        go_wp2_with fail
        refine (shiftParts_any _ _ _ L[k] 1 _ (sk.le hl7) (by omega) HK.out (by omega)).mono ?_
        rintro e w5 ⟨v3, rfl, O3, hl8⟩
        obtain ⟨A3, c3, rfl, S3, -⟩ := O3.form (by decide)
        have hl9 : (shiftL L[k] 1).length ≤ 16 := by rw [shiftL_len]; exact hk16
        have O5 := (O1.le hl7).le hl8
        have L5 := L4.trans hl8
        have hok5 := Lib.hid (ok_app' O5.ok S3.ok)
        have hs5 := L5.size
        clear O1 O3 sk
        obtain ⟨E, HE⟩ : ∃ E, Hid (shiftL L[k] 1 = E) := ⟨_, Lib.hid rfl⟩
        rw [HE.out] at S3 hl9 hok5 HST
        rw [HE.out]
        go_wp2_with (at_builtin; refine wpList_append_sl rfl _ _ 26 rfl w1.heap.size 42 i1 _ 32 Try.underlying26 hi1 hy0 hy1 hy2 rfl _ D.length D rfl O5.row A3 E.length c3 E rfl S3 (by unfold maxLen; omega) (by omega) hs5 ?_; intro v6 w6 O6 hg6 _)
        have L6 := L5.grown hg6 (fun q hq => (O5.row.lt q hq).1)
        have H6 : Hid (Owd 42 w1 w6 v6 (wrapL code (L.take (k + 1)))) := by
          show Owd _ _ _ _ _
          rw [HST.out]
          exact ⟨by rw [List.length_append]; exact O6, hok5.out⟩
        clear O6 hg6 O5
        go_roundw
        case rel => exact ⟨k + 1, by omega, by go_num, H6.out, HA.out, L6⟩
        case measure => simp [intOf]; omega
    · obtain rfl : k = m := by omega
      rw [List.take_of_length_le (by omega)] at HALL O1
      have dr := (L1.cell z0).trans c0
      obtain ⟨A5, c5, rfl, S5, -⟩ := O1.form (by decide)
      have hSr := hS.le L1
      go_wp2_with fail
      refine (iValidGroupS_any _ _ _ _ _ _ xs (wrapL code L) _ hSr S5).mono ?_
      rintro e w6 ⟨rfl, hl6⟩
      have HO := Lib.hid ((O1.mono hl).le hl6)
      have HL := Lib.hid ((hl.trans L1).trans hl6)
      clear O1 S5
      cases hg : gOkS xs (wrapL code L)
      · have HX := Lib.hid (wrX_of (code := code) (show wrOk xs L code = false by unfold wrOk; rw [hg, Bool.and_false]))
        clear hg
        go_wp2
        go_ret2
        exact ⟨_, by rw [HX.out.2]; rfl, by rw [HX.out.1]; exact Owd.nil _ _ _, HL.out⟩
      · have HX := Lib.hid (wrX_of (code := code) (show wrOk xs L code = true by unfold wrOk; rw [hg, HALL.out]; rfl))
        clear hg
        go_wp2
        go_ret2
        exact ⟨_, by rw [HX.out.2]; rfl, by rw [HX.out.1]; exact HO.out, HL.out⟩
end

section
def depK (g : List Prt) : Nat → Int
  | 0 => 0
  | k + 1 => if depK g k < (gAt g k).depth then (gAt g k).depth else depK g k
def depX (xs : List Cls) (g : List Prt) : Int := if gOkS xs g = true then depK g g.length else -1
set_option maxHeartbeats 1000000 in
theorem iGroupDepth_any (A B : Option Addr) (n cap m c : Nat) (xs : List Cls) (g : List Prt) (w : World) (hT : Sl w A n cap xs) (hG : Sl w B m c g) :
    Calls Try.prog 19 #[.agg #[.slice A n cap], .slice B m c] w fun e w' => e = .returned (.int .i64 (depX xs g)) ∧ Le w w' := by
  obtain rfl := hG.len
  have hm := hG.n_le
  cases hv : gOkS xs g
  · have HF : Hid (depX xs g = -1) := by show _ = _; unfold depX; rw [hv]; rfl
    go_enter Try.func19, Try.ntmps19
    go_wp2_with fail
    refine (iValidGroupS_any _ _ _ _ _ _ xs g _ (hT.alloc _) (hG.alloc _)).mono ?_
    rintro e w2 ⟨rfl, hle⟩
    rw [hv]
    go_wp2
    go_ret
    exact ⟨congrArg (fun z => Ending.returned (.int .i64 z)) HF.out.symm, (Le.new w _).trans hle⟩
  · have HF : Hid (depX xs g = depK g g.length) := by show _ = _; unfold depX; rw [hv]; rfl
    go_enter Try.func19, Try.ntmps19
    go_wp2_with fail
    refine (iValidGroupS_any _ _ _ _ _ _ xs g _ (hT.alloc _) (hG.alloc _)).mono ?_
    rintro e w2 ⟨rfl, hle⟩
    rw [hv]
    go_wp2
    replace hG := hG.le ((Le.new w _).trans hle)
    replace hle := (Le.new w _).trans hle
    go_loopw [5, 14] (fun n i wr => ∃ k : Nat, k ≤ g.length ∧ i = .int .i64 k ∧ n = .int .i64 (depK g k) ∧ Le w2 wr) (fun _ i _ => g.length - (intOf i).toNat)
    case atStart => exact ⟨0, Nat.zero_le _, rfl, rfl, Le.refl _⟩
    case round =>
      obtain ⟨k, hk, rfl, rfl, hlr⟩ := hrel
      have TG := hG.le hlr
      have LR := hle.trans hlr
      clear hG
      by_cases hlt : k < g.length
      · obtain ⟨b, off, rfl, hb, d0, d1, d2, d3, -⟩ := TG.prt_at hlt
        have hkx : (0 : Int) ≤ (k : Int) := by omega
        by_cases hd : depK g k < g[k].depth
        · have HD : Hid (g[k].depth = depK g (k + 1)) := by
            show _ = _
            rw [show depK g (k + 1) = if depK g k < (gAt g k).depth then (gAt g k).depth else depK g k from rfl, gAt_at hlt, if_pos hd]
          go_wp2
          go_roundw
          case rel => exact ⟨k + 1, by omega, by go_num, congrArg (Value.int .i64) HD.out, (by first | exact hlr | exact hlr.alloc _)⟩
          case measure => simp [intOf]; omega
        · have HD : Hid (depK g k = depK g (k + 1)) := by
            show _ = _
            rw [show depK g (k + 1) = if depK g k < (gAt g k).depth then (gAt g k).depth else depK g k from rfl, gAt_at hlt, if_neg hd]
          go_wp2
          go_roundw
          case rel => exact ⟨k + 1, by omega, by go_num, congrArg (Value.int .i64) HD.out, (by first | exact hlr | exact hlr.alloc _)⟩
          case measure => simp [intOf]; omega
      · obtain rfl : k = g.length := by omega
        go_wp2
        go_ret
        exact ⟨congrArg (fun z => Ending.returned (.int .i64 z)) HF.out.symm, LR⟩
end

section
theorem gOk_nil (xs : List Cls) : gOkS xs [] = false := by
  cases h : gOkS xs []
  · rfl
  · have := (goodG_of (by rw [← gOk_same]; exact h)).len.1
    simp at this
theorem lvX_tree {xs : List Cls} {t : Fo} (h : GTr xs t) : lvX xs (flat 0 t) = leavesF t := by
  rw [lvX_of h.gOk]; exact leaves_flat t 0
theorem lvE {xs : List Cls} {t : Fo} (h : t = .nil ∨ GTr xs t) : lvX xs (flat 0 t) = leavesF t := by
  rcases h with rfl | h
  · rw [show flat 0 .nil = [] from rfl, lvX_of (gOk_nil xs)]; rfl
  · exact lvX_tree h
theorem kidsX_tree {xs : List Cls} {t : Fo} (h : GTr xs t) : kidsX xs (flat 0 t) = (rootsF (kidsF t)).map (flat 0) := by
  rw [kidsX_of h.gOk]; exact kidsL_flat h.one
theorem keep_or {xs : List Cls} {t : Fo} (h : GTr xs t) (p : Lef → Bool) : keepF p t = .nil ∨ GTr xs (keepF p t) := by
  cases e : anyFo p t
  · exact .inl (keepF_none e)
  · exact .inr (h.keep e)
theorem keep_orE {xs : List Cls} {t : Fo} (h : t = .nil ∨ GTr xs t) (p : Lef → Bool) : keepF p t = .nil ∨ GTr xs (keepF p t) := by
  rcases h with rfl | h
  · exact .inl rfl
  · exact keep_or h p
theorem depK_max (g : List Prt) : ∀ k, 0 ≤ depK g k ∧ (∀ i, i < k → (gAt g i).depth ≤ depK g k) ∧ (depK g k = 0 ∨ ∃ i, i < k ∧ (gAt g i).depth = depK g k)
  | 0 => ⟨Int.le_refl _, fun i h => by omega, .inl rfl⟩
  | k + 1 => by
    obtain ⟨h1, h2, h3⟩ := depK_max g k
    rw [show depK g (k + 1) = if depK g k < (gAt g k).depth then (gAt g k).depth else depK g k from rfl]
    by_cases h : depK g k < (gAt g k).depth
    · rw [if_pos h]
      refine ⟨by omega, fun i hi => ?_, .inr ⟨k, by omega, rfl⟩⟩
      by_cases e : i = k
      · subst e; omega
      · have := h2 i (by omega); omega
    · rw [if_neg h]
      refine ⟨h1, fun i hi => ?_, ?_⟩
      · by_cases e : i = k
        · subst e; omega
        · exact h2 i (by omega)
      · rcases h3 with h3 | ⟨i, hi, e⟩
        · exact .inl h3
        · exact .inr ⟨i, by omega, e⟩
theorem depX_tree {xs : List Cls} {t : Fo} (h : GTr xs t) : depX xs (flat 0 t) = (htF t : Int) - 1 := by
  have e : depX xs (flat 0 t) = depK (flat 0 t) (flat 0 t).length := by unfold depX; rw [if_pos h.gOk]
  rw [e]
  obtain ⟨h1, h2, h3⟩ := depK_max (flat 0 t) (flat 0 t).length
  obtain ⟨p, hp, hd⟩ := flat_att (one_ne h.one) 0
  obtain ⟨i, hi, rfl⟩ := List.getElem_of_mem hp
  have h4 := h2 i hi
  rw [gAt_at hi] at h4
  have hpos := one_ht h.one
  rcases h3 with h3 | ⟨j, hj, e2⟩
  · omega
  · have := flat_lt t 0 (gAt (flat 0 t) j) (by rw [gAt_at hj]; exact List.getElem_mem hj)
    omega
/-- the greatest depth of some groups -/
def mxD (xs : List Cls) (L : List (List Prt)) : Int := L.foldl (fun n l => if n < depX xs l then depX xs l else n) (-1)
theorem mxD_snoc (xs : List Cls) {L : List (List Prt)} {k : Nat} (h : k < L.length) : mxD xs (L.take (k + 1)) = if mxD xs (L.take k) < depX xs L[k] then depX xs L[k] else mxD xs (L.take k) := by
  unfold mxD
  rw [List.take_succ_eq_append_getElem h, List.foldl_append]; rfl
theorem mxD_roots {xs : List Cls} : ∀ (RS : List Fo) (n : Int), (∀ r ∈ RS, GTr xs r) → -1 ≤ n → (RS.map (flat 0)).foldl (fun n l => if n < depX xs l then depX xs l else n) n = max n (((RS.map htF).foldr max 0 : Nat) - 1)
  | [], n, _, hn => by simp; omega
  | r :: RS, n, h, hn => by
    have hr := depX_tree (h r (List.mem_cons_self ..))
    have hh := one_ht (h r (List.mem_cons_self ..)).one
    rw [List.map_cons, List.foldl_cons, hr, mxD_roots RS _ (fun x hx => h x (List.mem_cons_of_mem _ hx)) (by split <;> omega), List.map_cons, List.foldr_cons]
    split <;> omega
theorem dep_kids {xs : List Cls} {t : Fo} (h : GTr xs t) : depX xs (flat 0 t) = mxD xs (kidsX xs (flat 0 t)) + 1 := by
  rw [depX_tree h, kidsX_tree h]
  unfold mxD
  rw [mxD_roots _ _ (fun r hr => h.kid hr) (Int.le_refl _), ← htF_roots]
  have := one_ht h.one
  omega
theorem hcX_tree {xs : List Cls} {t : Fo} (h : t = .nil ∨ GTr xs t) (a : Int) : hcX xs (flat 0 t) a = (hasK xs a && (leavesF t).any (fun x => isAL xs x.cls a)) := by
  unfold hcX
  rcases h with rfl | h
  · rw [show flat 0 .nil = [] from rfl, gOk_nil]; simp [leavesF]
  · rw [h.gOk, leaves_flat, Bool.true_and]
theorem isAL_top {xs : List Cls} (g : Good xs) : ∀ (m : Nat) (a : Nat), a = m → a < xs.length → isAL xs (a : Int) 0 = true := by
  intro m
  induction m using Nat.strongRecOn with
  | _ m ih =>
    intro a e ha
    rw [isAL_at g ha]
    by_cases h0 : a = 0
    · subst h0; rfl
    · obtain ⟨p, hp, hlt⟩ : ∃ p : Nat, xs[a].parent = p ∧ p < a := by
        have := g.par a ha (by omega)
        exact ⟨xs[a].parent.toNat, by omega, by omega⟩
      rw [hp, ih p (by omega) p rfl (by omega), Bool.or_true]
theorem hc_root {xs : List Cls} {t : Fo} (h : GTr xs t) : hcX xs (flat 0 t) 0 = true := by
  have g := good_of h.tree
  rw [hcX_tree (.inr h), Bool.and_eq_true]
  refine ⟨hasK_iff.2 ⟨Int.le_refl _, by have := g.lo; omega⟩, ?_⟩
  rw [List.any_eq_true]
  have h1 := leaves_some h.ok (one_ne h.one)
  cases e : leavesF t with
  | nil => exact absurd e h1
  | cons x r =>
    have hx := leaves_mem h.ok x (by rw [e]; exact List.mem_cons_self ..)
    refine ⟨x, List.mem_cons_self .., ?_⟩
    obtain ⟨i, hi⟩ : ∃ i : Nat, x.cls = i := ⟨x.cls.toNat, by omega⟩
    rw [hi]
    exact isAL_top g i i rfl (by omega)
theorem flat_roots (t : Fo) (d : Int) : flat d t = ((rootsF t).map (flat d)).flatten := by
  induction t with
  | nil => rfl
  | leaf x r ih => rw [rootsF, List.map_cons, List.flatten_cons, ← ih]; rfl
  | grp c k r ih1 ih2 => rw [rootsF, List.map_cons, List.flatten_cons, ← ih2]; simp [flat]
/-- trees in a row -/
def catF : List Fo → Fo
  | [] => .nil
  | t :: r => appF t (catF r)
theorem roots_cat : ∀ {ts : List Fo}, (∀ t ∈ ts, OneF t) → rootsF (catF ts) = ts
  | [], _ => rfl
  | t :: r, h => by
    rw [catF, roots_app, one_roots (h t (List.mem_cons_self ..)), roots_cat (fun x hx => h x (List.mem_cons_of_mem _ hx))]; rfl
theorem wrap_trees (code : Int) {ts : List Fo} (h : ∀ t ∈ ts, OneF t) : wrapL code (ts.map (flat 0)) = flat 0 (.grp code (catF ts) .nil) := by
  unfold wrapL
  rw [flat, flat_roots (catF ts), roots_cat h, List.map_map]
  show _ = _ :: (_ ++ [])
  rw [List.append_nil]
  congr 3
  funext t
  show shiftL (flat 0 t) 1 = _
  rw [flat_shift]
theorem wrap_kids {xs : List Cls} {t : Fo} (h : GTr xs t) (hne : kidsX xs (flat 0 t) ≠ []) : wrOk xs (kidsX xs (flat 0 t)) (gAt (flat 0 t) 0).code = true ∧ wrX xs (kidsX xs (flat 0 t)) (gAt (flat 0 t) 0).code = flat 0 t := by
  have hk := kidsX_tree h
  have e : wrapL (gAt (flat 0 t) 0).code (kidsX xs (flat 0 t)) = flat 0 t := by
    rw [hk]
    have ho := h.one
    cases ho with
    | leaf x => rw [hk] at hne; exact absurd rfl hne
    | grp c k =>
      show wrapL c ((rootsF k).map (flat 0)) = _
      unfold wrapL
      rw [flat, flat_roots k, List.map_map]
      show _ = _ :: (_ ++ [])
      rw [List.append_nil]
      congr 3
      funext t
      show shiftL (flat 0 t) 1 = _
      rw [flat_shift]
  have hw : wrOk xs (kidsX xs (flat 0 t)) (gAt (flat 0 t) 0).code = true := by
    unfold wrOk
    rw [e, h.gOk, Bool.and_true, List.all_eq_true]
    intro l hl
    rw [hk] at hl
    obtain ⟨r, hr, rfl⟩ := List.mem_map.1 hl
    exact (h.kid hr).gOk
  exact ⟨hw, by rw [(wrX_of hw).1]; exact e⟩
theorem kids_wrap {xs : List Cls} {L : List (List Prt)} {code : Int} (h : wrOk xs L code = true) : kidsX xs (wrX xs L code) = L ∧ (gAt (wrX xs L code) 0).code = code ∧ (gAt (wrX xs L code) 0).group = true ∧ 0 < (wrX xs L code).length := by
  have hx := (wrX_of h).1
  unfold wrOk at h
  rw [Bool.and_eq_true, List.all_eq_true] at h
  obtain ⟨h1, h2⟩ := h
  have hL : L = (L.map treeOf).map (flat 0) := by
    rw [List.map_map]
    conv => lhs; rw [← List.map_id L]
    exact List.map_congr_left (fun l hl => (gOk_tree (h1 l hl)).1)
  have hone : ∀ t ∈ L.map treeOf, OneF t := fun t ht => by
    obtain ⟨l, hl, rfl⟩ := List.mem_map.1 ht
    exact (gOk_tree (h1 l hl)).2.one
  have hw : wrapL code L = flat 0 (.grp code (catF (L.map treeOf)) .nil) := by
    conv => lhs; rw [hL]
    exact wrap_trees code hone
  rw [hw] at h2
  obtain ⟨t, e, ht⟩ := gOk_iff.1 h2
  have := flat_inj _ _ 0 e
  subst this
  rw [hx]
  show kidsX xs (wrapL code L) = L ∧ _
  rw [hw]
  refine ⟨?_, rfl, rfl, ?_⟩
  · rw [kidsX_tree ht]
    show (rootsF (catF (L.map treeOf))).map (flat 0) = L
    rw [roots_cat hone]; exact hL.symm
  · simp [flat]
end

section
open Go.RowKit Go.Shelf
attribute [local go_sem] Oper.semAt_some
set_option maxRecDepth 100000 in
set_option maxHeartbeats 4000000 in
theorem hasLeaf_gen (tf : Nat) (lb : Array Value) (eT : ∀ args w, (callFunc tf args).run Try.prog w = .ok (.enter tf args) w) (p : Lef → Bool) (A : Option Addr) (m cap : Nat) (g : List Prt) (w : World) (S : Sl w A m cap g)
    (hT : ∀ (x : Lef) (W : World), x ∈ leavesL g → Le w W → Calls Try.prog tf (#[.agg #[.int .i64 x.cls, .int .i64 x.code]] ++ lb) W fun e W' => e = .returned (.bool (p x)) ∧ Le W W') :
    Calls Try.prog 49 #[.slice A m cap, .func (.func tf) #[] lb] w fun e w' => e = .returned (.bool ((leavesL g).any p)) ∧ Le w w' := by
  have SB : SlB w.heap.size w A m cap g := ⟨S, fun hn a e => by obtain ⟨b, off, e2, hb, -⟩ := S.at_ hn; rw [e2] at e; cases e; exact hb⟩
  refine (callsIn_wide (n := 6)).1 ?_
  refine callsIn_of_wp_marks Try.func49 rfl trivial ?_ rfl
  simp only [Try.ntmps49, List.size_toArray, List.length_cons, List.length_nil, Nat.reduceAdd, Nat.reduceSub, Array.replicate_succ, Array.replicate_zero, List.push_toArray, List.append_toArray, List.nil_append, List.cons_append]
  gi_wp2_with (refine ⟨trivial, ?_⟩; gi_at_call 47; refine (leaves_in Fence.wide 5 trivial rfl _ _ _ _).mono ?_; rintro e w' ⟨rfl, rfl⟩)
  have bF := ((Boxed.new w 64 (.func (.func tf) #[] lb)).alloc (.cells #[.bool false] 4)).alloc (.cells #[.slice A m cap] 26)
  have bR := (Boxed.new (w.alloc (.cells #[.func (.func tf) #[] lb] 64)) 4 (.bool false)).alloc (.cells #[.slice A m cap] 26)
  have bG := Boxed.new ((w.alloc (.cells #[.func (.func tf) #[] lb] 64)).alloc (.cells #[.bool false] 4)) 26 (.slice A m cap)
  simp only [World.size_alloc] at bR bG
  have hB0 : Le w (((w.alloc (.cells #[.func (.func tf) #[] lb] 64)).alloc (.cells #[.bool false] 4)).alloc (.cells #[.slice A m cap] 26)) := ((Le.new w _).alloc _).alloc _
  have hsz : (((w.alloc (.cells #[.func (.func tf) #[] lb] 64)).alloc (.cells #[.bool false] 4)).alloc (.cells #[.slice A m cap] 26)).heap.size = w.heap.size + 3 := by simp
  generalize (((w.alloc (.cells #[.func (.func tf) #[] lb] 64)).alloc (.cells #[.bool false] 4)).alloc (.cells #[.slice A m cap] 26)) = W0 at *
  refine wpIn_rangeFunc_ownH rfl (by omega) (gf := 72) (lb := #[.pointer (some ⟨w.heap.size + 1 + 1, 0, none⟩)]) rfl trivial (enters_of Try.func72 (by kernel_rfl) rfl)
    (leaves_stops Fence.wide (6 - 1) trivial rfl (by omega) (w.heap.size + 1 + 1) w.heap.size A m cap g (fun x => x ∈ leavesL g) (fun _ h => h) W0 (by omega) (by omega) bG.cell (SB.below hB0)) belowK_t (belowK_b (by omega)) (Below.refl _ _) (fun _ => rfl)
    (fun pre W => ((∀ y ∈ pre, p y.1 = false) ∧ Boxed W w.heap.size 64 (.func (.func tf) #[] lb) ∧ Boxed W (w.heap.size + 1) 4 (.bool false)) ∧ Below w.heap.size w W)
    (fun c pre W => (c = .ret ∧ (∃ y ∈ pre, p y.1 = true) ∧ Boxed W (w.heap.size + 1) 4 (.bool true)) ∧ Below w.heap.size w W)
    (OwnFrom.and (Own.from (fun s X Y row hs hg hr => ⟨hs.1, boxed_own (β := Unit) _ _ (fun _ => _) () X Y row hs.2.1 hg hr, boxed_own (β := Unit) _ _ (fun _ => _) () X Y row hs.2.2 hg hr⟩) _) (ownFrom_below (Nat.le_refl _) (by omega)))
    (fun c => OwnFrom.and (Own.from (fun s X Y row hs hg hr => ⟨hs.1, hs.2.1, boxed_own (β := Unit) _ _ (fun _ => _) () X Y row hs.2.2 hg hr⟩) _) (ownFrom_below (Nat.le_refl _) (by omega)))
    ⟨⟨by simp, bF, bR⟩, hB0⟩
    (fun x a' W => ∃ Bx, w.heap.size + 1 < Bx ∧ Boxed2 W Bx 38 (.int .i64 x.1.cls) (.int .i64 x.1.code) ∧ a' = { tmps := #[.slice A m cap, .func (.func tf) #[] lb, undef, .pointer (some ⟨w.heap.size, 0, none⟩), .pointer (some ⟨w.heap.size + 1, 0, none⟩), .pointer (some ⟨Bx, 0, none⟩), .slice A m cap, .func (.func 72) #[] #[.pointer (some ⟨w.heap.size + 1 + 1, 0, none⟩)], .agg #[.int .i64 x.1.cls, .int .i64 x.1.code], undef, undef, undef], defers := [] })
    (fun x a' _ X Y row hs hg hr => by obtain ⟨Bx, h1, h2, h3⟩ := hs; exact ⟨Bx, h1, boxed2_own h2 hg (fun r e => (hr r e).2), h3⟩)
    ?assign ?body ?done ?stop
  case assign =>
    rintro l pre x W K ⟨⟨hp, bF1, bR1⟩, hB1⟩ hK
    gi_wp2
    exact hK _ _ ((KeepsOthers.alloc _ _).from _) ((Below.refl _ W).alloc hB1.size _) ⟨⟨hp, bF1.alloc _, bR1.alloc _⟩, hB1.alloc hB1.size _⟩ ⟨W.heap.size, bR1.lt, World.alloc_heap_new W _, rfl⟩
  case body =>
    rintro l pre x a' W hl ⟨r, hr⟩ ⟨⟨hp, bF1, bR1⟩, hB1⟩ ⟨Bx, hBx, bX, rfl⟩ hlt
    have cF := bF1.cell
    have cX0 := bX.c0
    have cX1 := bX.c1
    gi_wp2_with (refine ⟨trivial, ?_⟩; refine (CallsIn.inRound l (callsIn_wide.2 (hT x.1 W x.2 hB1))).mono ?_; rintro e w' ⟨rfl, hle⟩; have bR2 := boxed_le bR1 hle; have bF2 := boxed_le bF1 hle; have cR2 := bR2.cell; have fR2 := bR2.frozen)
    · rename_i hx
      exact ⟨(keepsFrom_le hle).trans ((KeepsOthers.setCell _ _ _).from _), ⟨rfl, ⟨x, by simp, hx⟩, bR2.set _⟩, (hB1.trans (hle.mono hB1.size)).setCell (p := ⟨w.heap.size + 1, 0, none⟩) (by simp) _⟩
    · rename_i hx
      have hx' : p x.1 = false := by simpa using hx
      exact ⟨keepsFrom_le hle, hle.mono hB1.size, ⟨fun y hy => (List.mem_append.1 hy).elim (hp y) (fun e => by simp at e; rw [e]; exact hx'), bF2, bR2⟩, hB1.trans (hle.mono hB1.size)⟩
  case done =>
    rintro D zs W hD hz ⟨⟨hp, bF1, bR1⟩, hB1⟩ hK
    have cR := bR1.cell
    have fR := bR1.frozen
    have hno : (leavesL g).any p = false := by
      rw [← hz, List.any_map, List.any_eq_false]
      intro y hy
      simp [hp y hy]
    have HNO := Lib.hid hno
    clear hno
    gi_wp2
    have hK' := (KeepsOthers.setCell W ⟨w.heap.size + 1, 0, none⟩ (.bool false)).same D _ hK rfl
    refine ⟨by simp, .inl ⟨_, _, rfl, run_takeDeferred hK', ?_⟩⟩
    have hc5 := cell_kept (World.cell?_setCell_same' W ⟨w.heap.size + 1, 0, none⟩ (.bool false) (by rw [cR]; rfl)) (grownBy_putObj' _ D (.deferred none)) (fun r e => by cases e; exact ⟨_, hK', rfl⟩)
    refine ⟨.bool false, ?_, by rw [HNO.out], (hB1.setCell (p := ⟨w.heap.size + 1, 0, none⟩) (by simp) _).trans (belowK_b (w := w) (Nat.le_refl _) _ D _ _ (by omega) hK' rfl rfl)⟩
    simp [results, Try.f49, go_sem, hc5]
  case stop =>
    rintro D c pre W hD hpre ⟨⟨rfl, hin, bR1⟩, hB⟩ hK
    gi_wp2
    refine ⟨by simp, .inl ⟨_, _, rfl, run_takeDeferred hK, ?_⟩⟩
    have hc5 := cell_kept bR1.cell (grownBy_putObj' _ D (.deferred none)) (fun r e => by cases e; exact ⟨_, hK, rfl⟩)
    have hyes : (leavesL g).any p = true := by
      obtain ⟨y, hy, hpy⟩ := hin
      exact List.any_eq_true.2 ⟨y.1, y.2, hpy⟩
    refine ⟨.bool true, ?_, by rw [hyes], hB.trans (belowK_b (w := w) (Nat.le_refl _) W D _ _ (by omega) hK rfl rfl)⟩
    simp [results, Try.f49, go_sem, hc5]
end

section
open Go.RowKit Go.Shelf
attribute [local go_sem] Oper.semAt_some
/-- what visit finds: the boxes of the test, of what is kept, of itself; what is kept so far -/
structure VSt (n₀ : Nat) (tf : Nat) (lb : Array Value) (b off C : Nat) (g : List Prt) (W : World) (v : Value) (L : List Prt) : Prop where
  bf : Boxed W n₀ 64 (.func (.func tf) #[] lb)
  bo : Boxed W (n₀ + 1) 26 v
  bv : Boxed W (n₀ + 1 + 1) 105 (.func (.func 77) #[] #[.pointer (some ⟨n₀, 0, none⟩), .pointer (some ⟨n₀ + 1, 0, none⟩), .pointer (some ⟨n₀ + 1 + 1, 0, none⟩)])
  row : W.ownsRow n₀ 42 4 v L.length (L.flatMap Enc.cells)
  sl : SlB n₀ W (some ⟨b, off, none⟩) g.length C g
/-- what visit leaves alone -/
structure VEf (n₀ : Nat) (W W' : World) (v v' : Value) : Prop where
  le : Below n₀ W W'
  block : ∀ k, k < W.heap.size → k ≠ n₀ + 1 → v.ownBlock ≠ some k → W'.heap[k]? = W.heap[k]?
  own : v'.ownBlock = v.ownBlock ∨ ∀ k, v'.ownBlock = some k → W.heap.size ≤ k
theorem VEf.refl (n₀ : Nat) (W : World) (v : Value) : VEf n₀ W W v v := ⟨Below.refl _ _, fun _ _ _ _ => rfl, .inl rfl⟩
theorem VEf.trans {n₀ : Nat} {A B D : World} {u v x : Value} (h : VEf n₀ A B u v) (k : VEf n₀ B D v x) : VEf n₀ A D u x := by
  refine ⟨h.le.trans k.le, fun i hi h1 h2 => ?_, ?_⟩
  · have hn : v.ownBlock ≠ some i := by
      rcases h.own with e | e
      · rw [e]; exact h2
      · intro e2; have := e i e2; omega
    exact (k.block i (Nat.lt_of_lt_of_le hi h.le.size) h1 hn).trans (h.block i hi h1 h2)
  · rcases k.own with e | e
    · rw [e]; exact h.own
    · exact .inr fun i hi => Nat.le_trans h.le.size (e i hi)
/-- what the visits of some pieces keep -/
def flK (t : Prt → Bool) (g : List Prt) (ks : List Nat) : List Prt := (ks.map fun k => selL (keepsAt t g) g k (endN g k - k)).flatten
theorem flK_snoc (t : Prt → Bool) (g : List Prt) (ks : List Nat) (k : Nat) : flK t g (ks ++ [k]) = flK t g ks ++ selL (keepsAt t g) g k (endN g k - k) := by
  unfold flK; simp
theorem selL_len (f : Nat → Bool) (g : List Prt) : ∀ m k, (selL f g k m).length ≤ m
  | 0, _ => Nat.le_refl _
  | m + 1, k => by
    have := selL_len f g m (k + 1)
    unfold selL
    cases f k <;> simp <;> omega
theorem flK_len (t : Prt → Bool) (g : List Prt) (h : g.length ≤ 16) (ks : List Nat) (hk : ∀ k ∈ ks, k < g.length) : (flK t g ks).length ≤ 16 * ks.length := by
  induction ks with
  | nil => simp [flK]
  | cons k ks ih =>
    have h1 := ih (fun x hx => hk x (List.mem_cons_of_mem _ hx))
    have h2 := selL_len (keepsAt t g) g (endN g k - k) k
    have h3 := endN_le (g := g) (i := k) (hk k (List.mem_cons_self ..))
    unfold flK at h1 ⊢
    simp at h1 ⊢
    omega
/-- the visits of all pieces from f up to e keep what is kept there -/
theorem flK_all (t : Prt → Bool) (g : List Prt) : ∀ (m f e : Nat), e ≤ g.length → (∀ i, f ≤ i → i < e → endN g i ≤ e) → e - f ≤ m → flK t g (kdS g m f e) = selL (keepsAt t g) g f (e - f)
  | 0, f, e, _, _, hm => by rw [show e - f = 0 by omega]; rfl
  | m + 1, f, e, he, hn, hm => by
    by_cases h : f < e
    · have hgt := endN_gt g f
      have hle := hn f (Nat.le_refl _) h
      have ih := flK_all t g m (endN g f) e he (fun i a b => hn i (by omega) b) (by omega)
      have e1 : kdS g (m + 1) f e = f :: kdS g m (endN g f) e := by
        show (if f < e then _ else _) = _
        rw [if_pos h]
      have e2 : e - f = (endN g f - f) + (e - endN g f) := by omega
      rw [e1, e2, selL_append, show f + (endN g f - f) = endN g f by omega, ← ih]
      unfold flK; simp
    · have e1 : kdS g (m + 1) f e = [] := by
        show (if f < e then _ else _) = _
        rw [if_neg h]
      rw [e1, show e - f = 0 by omega]; rfl
/-- the leaves of a piece that pass -/
theorem any_piece (p : Lef → Bool) (g : List Prt) (f : Nat) : ∀ e, e ≤ g.length → f ≤ e → (leavesL ((g.drop f).take (e - f))).any p = anyF (passAt (fun q => p ⟨q.cls, q.code⟩) g) f (e - f)
  | e, he, hfe => by
    rw [Bool.eq_iff_iff, anyF_iff, List.any_eq_true]
    unfold leavesL
    constructor
    · rintro ⟨x, hx, hp⟩
      obtain ⟨q, hq, rfl⟩ := List.mem_map.1 hx
      obtain ⟨hm, hg⟩ := List.mem_filter.1 hq
      obtain ⟨i, hi, e1⟩ := List.getElem_of_mem hm
      rw [List.length_take, List.length_drop] at hi
      rw [List.getElem_take, List.getElem_drop] at e1
      refine ⟨f + i, by omega, by omega, ?_⟩
      unfold passAt
      rw [gAt_at (by omega), e1]
      simp only [Bool.and_eq_true]
      exact ⟨by simpa using hg, hp⟩
    · rintro ⟨i, h1, h2, hp⟩
      have hi : i < g.length := by omega
      unfold passAt at hp
      rw [gAt_at hi] at hp
      simp only [Bool.and_eq_true] at hp
      refine ⟨⟨g[i].cls, g[i].code⟩, List.mem_map.2 ⟨g[i], List.mem_filter.2 ⟨?_, by simpa using hp.1⟩, rfl⟩, hp.2⟩
      have : (List.take (e - f) (List.drop f g))[i - f]'(by rw [List.length_take, List.length_drop]; omega) = g[i] := by
        rw [List.getElem_take, List.getElem_drop]
        congr 1; omega
      rw [← this]
      exact List.getElem_mem _
end
end Go.Proofs.Ytpkkkpfanedieaa
