/- one text of ItW, LawSimplifyGroup -/
import Derived.Test.YtpdggodmiliijaaCg18
import Derived.Test.YtpdggodmiliijaaCg1
import Derived.Test.YtpdggodmiliijaaCg8
namespace Go.Proofs.Ytpdggodmiliijaa
open Go.RowKit
set_option linter.unusedVariables false
section
open Go.RowKit Go.Shelf
theorem flat_bound {t : Fo} {xs : List Cls} (h : GT xs t) : ∀ p ∈ flat 0 t, 0 ≤ p.depth ∧ p.depth ≤ 5 := fun p hp => by
  have h1 := flat_ge t 0 p hp
  have h2 := flat_lt t 0 p hp
  have := h.ht
  omega
theorem take_flat_len {L : List (List Prt)} (k : Nat) : ((L.take k).flatten).length ≤ L.flatten.length := by
  have : L.flatten = (L.take k).flatten ++ (L.drop k).flatten := by rw [← List.flatten_append, List.take_append_drop]
  rw [this, List.length_append]; omega
theorem ok_app {α : Type} [Enc α] {A B : List α} (h1 : ∀ x ∈ A, Enc.ok x) (h2 : ∀ x ∈ B, Enc.ok x) : ∀ x ∈ A ++ B, Enc.ok x := fun x hx => (List.mem_append.1 hx).elim (h1 x) (h2 x)
set_option maxRecDepth 100000 in
set_option maxHeartbeats 4000000 in
theorem sSimple_any (xs : List Cls) : ∀ (n : Nat) (t : Fo), szF t ≤ n → GT xs t → ∀ (B : Option Addr) (m c : Nat) (w : World), Sl w B m c (flat 0 t) →
    Calls Try.prog 73 #[.slice B m c] w fun e w' => ∃ v, e = .returned v ∧ Owd 70 w w' v (flat 0 (simpF t)) ∧ Le w w' := by
  intro n
  induction n with
  | zero => intro t hn h; exfalso; have := szF_kids h.one; omega
  | succ n ih =>
    intro t hn h B m c w hG
    obtain ⟨i1, hi1, hy0, hy1, hy2⟩ := info_parts infoPrtS
    have hsz := szF_kids h.one
    have hK := kidsL_flat h.one
    have hkid : ∀ r ∈ rootsF (kidsF t), GT xs r ∧ szF r ≤ n := fun r hr => ⟨h.kid hr, by have := szF_root r hr; omega⟩
    have HKID := Lib.hid hkid
    clear hkid
    have hm0 : 0 < m := by have h1 := hG.len; rw [flatF_len] at h1; omega
    go_enter Try.func73, Try.ntmps73
    go_wp2_with fail
    refine (sKids_any B m c xs (flat 0 t) h.good _ hG).mono ?_
    rintro e w1 ⟨v, hs, rfl, O, hle⟩
    rw [hK] at O
    have hR := O.rd (by decide)
    obtain ⟨A1, c1, rfl, S1⟩ := O.form
    have hlen := O.len
    have hG1 := hG.le hle
    clear O hK
    cases hk : oneB (kidsF t)
    · have hne : ((((rootsF (kidsF t)).map (flat 0)).length : Int) == 1) = false := by
        have := roots_len (kidsF t)
        rw [hk] at this
        have := of_decide_eq_false this
        rw [List.length_map, beq_eq_false_iff_ne]; omega
      obtain ⟨RS, HRS⟩ : ∃ RS, Hid (rootsF (kidsF t) = RS) := ⟨_, rfl⟩
      rw [HRS.out] at HKID S1 hR hne hlen ⊢
      have HF : Hid (flat 0 (simpF t) = gAt (flat 0 t) 0 :: (RS.map (fun r => flat 1 (simpF r))).flatten) := by
        show _ = _
        rw [simp_more h.one hk 0, HRS.out]; rfl
      have hlF : (gAt (flat 0 t) 0 :: (RS.map (fun r => flat 1 (simpF r))).flatten).length ≤ 16 := by
        rw [← HF.out, flatF_len]
        have := szF_simp t; have := h.sz; omega
      rw [List.length_cons] at hlF
      rw [List.length_map] at S1 hne hlen
      have h0 : 0 < (flat 0 t).length := by rw [flatF_len]; omega
      obtain ⟨bz, oz, rfl, hb, p0, p1, p2, p3, -⟩ := hG1.prt_at h0
      simp only [Nat.zero_mul, Nat.add_zero] at p0 p1 p2 p3
      have hg0 : gAt (flat 0 t) 0 = (flat 0 t)[0] := gAt_at h0
      rw [← hg0] at p0 p1 p2 p3
      have hok0 : Enc.ok (gAt (flat 0 t) 0) := by rw [hg0]; exact hG1.ok _ (List.getElem_mem h0)
      obtain ⟨P0, HP0⟩ : ∃ P0, Hid (gAt (flat 0 t) 0 = P0) := ⟨_, rfl⟩
      rw [HP0.out] at p0 p1 p2 p3 hok0 HF
      have O0 := own_oneP w1 P0 (b := w1.heap.size) (Nat.le_refl _)
      have LW := Le.new w1 (.cells #[.int .i64 P0.depth, .bool P0.group, .int .i64 P0.cls, .int .i64 P0.code] 70)
      have hhl1 : hs.length ≤ RS.length := by omega
      have hhl2 : RS.length ≤ hs.length := by omega
      have hn16 : RS.length ≤ 9223372036854775807 := S1.n_le
      clear hk hg0 hG hlen h0
      rw [List.length_map]
      go_wp2
      generalize w1.alloc (.cells #[.int .i64 P0.depth, .bool P0.group, .int .i64 P0.cls, .int .i64 P0.code] 70) = W0 at *
      go_loopw [4, 5] (fun v i wr => ∃ k : Nat, k ≤ RS.length ∧ i = .int .i64 k ∧ Owd 70 w1 wr v (P0 :: ((RS.take k).map (fun r => flat 1 (simpF r))).flatten) ∧ Le w1 wr) (fun _ i _ => RS.length - (intOf i).toNat)
      case atStart => exact ⟨0, Nat.zero_le _, rfl, ⟨O0, fun x hx => by rw [List.mem_singleton.1 hx]; exact hok0⟩, LW⟩
      case round =>
        obtain ⟨k, hk1, rfl, O1, L1⟩ := hrel
        clear O0 LW
        by_cases hlt : k < RS.length
        · have hlh : k < hs.length := by omega
          obtain ⟨b, off, rfl, hb2, hcell⟩ := (S1.le L1).hdr_at hlh
          have sk := (hR.le L1).each k _ _ (List.getElem?_eq_getElem hlh) (by rw [List.getElem?_map, List.getElem?_eq_getElem hlt]; rfl)
          obtain ⟨hgt, hszk⟩ := HKID.out RS[k] (List.getElem_mem hlt)
          have hIH := ih RS[k] hszk hgt _ _ _ wr sk
          have HST : Hid (P0 :: ((RS.take (k + 1)).map (fun r => flat 1 (simpF r))).flatten = (P0 :: ((RS.take k).map (fun r => flat 1 (simpF r))).flatten) ++ flat 1 (simpF RS[k])) := by
            show _ = _
            rw [List.take_succ_eq_append_getElem hlt, List.map_append, List.flatten_append, List.map_singleton, List.flatten_singleton]; rfl
          have hl1 : (P0 :: ((RS.take k).map (fun r => flat 1 (simpF r))).flatten).length ≤ 16 := by
            rw [List.length_cons, List.map_take]
            have := take_flat_len (L := RS.map (fun r => flat 1 (simpF r))) k
            omega
          have hb5 := flat_bound hgt.simp
          have hl3 : (flat 0 (simpF RS[k])).length ≤ 16 := by rw [flatF_len]; exact hgt.simp.sz
          have HIH := Lib.hid hIH
          obtain ⟨D, HD⟩ : ∃ D, Hid (P0 :: ((RS.take k).map (fun r => flat 1 (simpF r))).flatten = D) := ⟨_, rfl⟩
          rw [HD.out] at HST O1 hl1
          clear hIH sk
          have hwl : IntKind.i64.wrap ((k : Int) + 1) = (k : Int) + 1 := IntWalk.i64_in _ (by omega)
          go_wp2_with fail
          refine HIH.out.mono ?_
          rintro e w4 ⟨v2, rfl, O2, hl4⟩
          obtain ⟨A2, c2, rfl, S2, -⟩ := O2.form (by decide)
          go_wp2_with fail
          refine (deeper_any _ _ _ (flat 0 (simpF RS[k])) 1 _ S2 (by omega) (fun p hp => by have := hb5 p hp; omega) (by omega)).mono ?_
          rintro e w5 ⟨v3, rfl, O3, hl5⟩
          rw [flat_shift, show (0 : Int) + 1 = 1 from rfl] at O3
          obtain ⟨A3, c3, rfl, S3, -⟩ := O3.form (by decide)
          have hl6 : (flat 1 (simpF RS[k])).length ≤ 16 := by rw [flatF_len]; exact hgt.simp.sz
          have O5 := (O1.le hl4).le hl5
          have L5 := (L1.trans hl4).trans hl5
          have hok5 := Lib.hid (ok_app O5.ok S3.ok)
          have hs5 := L5.size
          clear O1 O2 S2 O3
          obtain ⟨E, HE⟩ : ∃ E, Hid (flat 1 (simpF RS[k]) = E) := ⟨_, Lib.hid rfl⟩
          rw [HE.out] at S3 hl6 hok5 HST
          rw [HE.out]
          go_wp2_with (at_builtin; refine wpList_append_sl rfl _ _ 34 rfl w1.heap.size 70 i1 _ 32 Try.underlying34 hi1 hy0 hy1 hy2 rfl _ D.length D rfl O5.row A3 E.length c3 E rfl S3 (by unfold maxLen; omega) (by omega) hs5 ?_; intro v6 w6 O6 hg6 _)
          have L6 := L5.grown hg6 (fun q hq => (O5.row.lt q hq).1)
          have H6 : Hid (Owd 70 w1 w6 v6 (P0 :: ((RS.take (k + 1)).map (fun r => flat 1 (simpF r))).flatten)) := by
            show Owd _ _ _ _ _
            rw [HST.out]
            exact ⟨by rw [List.length_append]; exact O6, hok5.out⟩
          clear O6 hg6 O5
          go_roundw
          case rel => exact ⟨k + 1, by omega, by go_num, H6.out, L6⟩
          case measure => simp [intOf]; omega
        · obtain rfl : k = RS.length := by omega
          rw [List.take_length, ← HF.out] at O1
          have HO := Lib.hid (O1.mono hle)
          clear O1
          go_wp2
          go_ret
          exact ⟨_, rfl, HO.out, hle.trans L1⟩
    · have h1 := oneB_iff.1 hk
      rw [one_roots h1] at S1 hR hlen HKID ⊢
      obtain ⟨hgt, hszk⟩ := HKID.out (kidsF t) (List.mem_singleton.2 rfl)
      have hlh : 0 < hs.length := by rw [hlen]; exact Nat.zero_lt_one
      obtain ⟨b, off, rfl, hb2, hcell⟩ := S1.hdr_at hlh
      have sk := hR.each 0 _ _ (List.getElem?_eq_getElem hlh) rfl
      rw [Nat.add_zero] at hcell
      have HIH := Lib.hid (ih (kidsF t) hszk hgt _ _ _ w1 sk)
      have HF := Lib.hid (simp_one h.one hk 0)
      clear hlen hk sk hR S1
      go_wp2_with fail
      refine HIH.out.mono ?_
      rintro e w4 ⟨v2, rfl, O2, hl4⟩
      rw [← HF.out] at O2
      have HO := Lib.hid (O2.mono hle)
      clear O2
      go_wp2
      go_ret
      exact ⟨_, rfl, HO.out, hle.trans hl4⟩
theorem rd_kids {w : World} {b off m c : Nat} {g : List Prt} (S : Sl w (some ⟨b, off, none⟩) m c g) : Rd2 w ((kdS g g.length 1 g.length).map (hdrK g b off c)) ((kdS g g.length 1 g.length).map (piece g)) := by
  refine ⟨by rw [List.length_map, List.length_map], fun i h l e f => ?_⟩
  rw [List.getElem?_map] at e f
  cases hx : (kdS g g.length 1 g.length)[i]? with
  | none => rw [hx] at e; cases e
  | some x =>
    rw [hx] at e f
    obtain rfl : hdrK g b off c x = h := by simpa using e
    obtain rfl : piece g x = l := by simpa using f
    exact S.piece (kdS_lt g _ _ x (List.mem_of_getElem? hx))
theorem shift_one (P : Prt) (d e : Int) (h : P.depth = d) : shiftL [P] (e - d) = [{ P with depth := e }] := by
  unfold shiftL
  rw [List.map_singleton, h, show d + (e - d) = e by omega]
theorem head_depth {t : Fo} (h : OneF t) (d e : Int) : gAt (flat e t) 0 = { gAt (flat d t) 0 with depth := e } ∧ (gAt (flat d t) 0).depth = d := by cases h <;> exact ⟨rfl, rfl⟩
set_option maxRecDepth 100000 in
set_option maxHeartbeats 4000000 in
theorem collectKids_any (Bg b off C : Nat) (g : List Prt) (h1 : 0 < g.length) (hm : g.length ≤ 16) (w : World) (S : Sl w (some ⟨b, off, none⟩) g.length C g) (hBg : w.cell? ⟨Bg, 0, none⟩ = some (.slice (some ⟨b, off, none⟩) g.length C)) (zBg : Bg < w.heap.size) :
    Calls Try.prog 95 #[.func (.func 94) #[] #[.pointer (some ⟨Bg, 0, none⟩)]] w fun e w' => ∃ v, e = .returned v ∧ Owd 34 w w' v ((kdS g g.length 1 g.length).map (hdrK g b off C)) ∧ Le w w' := by
  go_enter Try.func95, Try.ntmps95
  go_wp2_with fail
  refine (appendKids_any Bg b off C g h1 hm w S hBg zBg).mono ?_
  rintro e w2 ⟨v, rfl, O, hle⟩
  have HO := Lib.hid O
  clear O
  go_wp2
  go_ret
  exact ⟨_, rfl, HO.out, hle⟩
set_option maxRecDepth 100000 in
set_option maxHeartbeats 4000000 in
theorem iSimplify_any (xs : List Cls) : ∀ (n : Nat) (t : Fo), szF t ≤ n → GT xs t → ∀ (d dep : Int), 0 ≤ d → d + szF t ≤ 50 → 0 ≤ dep → dep + szF t ≤ 50 → ∀ (b off m c : Nat) (w : World), Sl w (some ⟨b, off, none⟩) m c (flat d t) →
    Calls Try.prog 74 #[.slice (some ⟨b, off, none⟩) m c, .int .i64 dep] w fun e w' => ∃ v, e = .returned v ∧ Owd 70 w w' v (flat dep (simpF t)) ∧ Le w w' := by
  intro n
  induction n with
  | zero => intro t hn h; exfalso; have := szF_kids h.one; omega
  | succ n ih =>
    intro t hn h d dep hd0 hd1 hp0 hp1 b off m c w hG
    obtain ⟨i1, hi1, hy0, hy1, hy2⟩ := info_parts infoPrtS
    have hsz := szF_kids h.one
    have hK := kids_pieces h.one d
    have hkid : ∀ r ∈ rootsF (kidsF t), GT xs r ∧ szF r ≤ n ∧ szF r + 1 ≤ szF t := fun r hr => ⟨h.kid hr, by have := szF_root r hr; omega, by have := szF_root r hr; omega⟩
    have HKID := Lib.hid hkid
    clear hkid
    have hlm := hG.len
    have hlf := flatF_len t d
    have hsz16 := h.sz
    have hm0 : 0 < m := by omega
    have hm16 : (flat d t).length ≤ 16 := by omega
    have h00 : 0 < (flat d t).length := by omega
    have hc1 : 1 ≤ c := by have := hG.cap_; omega
    have hc1i : (1 : Int) ≤ (c : Int) := by omega
    obtain ⟨b0, y0, hl0⟩ := box1 w (.slice (some ⟨b, off, none⟩) (flat d t).length c) 34
    have HLM := Lib.hid hlm
    rw [← hlm] at hG ⊢
    clear hlm hlf
    go_enter Try.func74, Try.ntmps74
    go_wp2_with fail
    refine (callsIn_wide (n := 6)).1 ?_
    refine (kids_in Fence.wide 6 trivial rfl _ _ _ _).mono ?_
    rintro e w3 ⟨rfl, rfl⟩
    have hG0 := hG.le hl0
    go_wp2_with fail
    generalize w.alloc (.cells #[.slice (some ⟨b, off, none⟩) (flat d t).length c] 34) = w0 at *
    refine (collectKids_any _ b off c (flat d t) h00 hm16 w0 hG0 b0 y0).mono ?_
    rintro e w1 ⟨v, rfl, O, hle⟩
    have hG1 := hG0.le hle
    have hR := rd_kids hG1
    rw [hK] at hR
    have hL1 := hl0.trans hle
    obtain ⟨hs, HHS⟩ : ∃ hs, Hid ((kdS (flat d t) (flat d t).length 1 (flat d t).length).map (hdrK (flat d t) b off c) = hs) := ⟨_, Lib.hid rfl⟩
    rw [HHS.out] at O hR
    obtain ⟨A1, c1, rfl, S1, -⟩ := O.form (by decide)
    have hlen := hR.len
    rw [List.length_map] at hlen
    clear O hK HHS
    cases hk : oneB (kidsF t)
    · have hne : ((hs.length : Int) == 1) = false := by
        have := roots_len (kidsF t)
        rw [hk] at this
        have := of_decide_eq_false this
        rw [beq_eq_false_iff_ne]; omega
      obtain ⟨RS, HRS⟩ : ∃ RS, Hid (rootsF (kidsF t) = RS) := ⟨_, Lib.hid rfl⟩
      rw [HRS.out] at HKID hR hlen
      obtain ⟨hd1', hd2'⟩ := head_depth h.one d dep
      have HF : Hid (flat dep (simpF t) = gAt (flat dep t) 0 :: (RS.map (fun r => flat (dep + 1) (simpF r))).flatten) := by
        show _ = _
        rw [simp_more h.one hk dep, HRS.out]
      have hlF : (gAt (flat dep t) 0 :: (RS.map (fun r => flat (dep + 1) (simpF r))).flatten).length ≤ 16 := by
        rw [← HF.out, flatF_len]
        have := szF_simp t; omega
      rw [List.length_cons] at hlF
      obtain ⟨bz, oz, e1, hb, p0, -⟩ := hG1.prt_at h00
      cases e1
      simp only [Nat.zero_mul, Nat.add_zero] at p0
      have hg0 : gAt (flat d t) 0 = (flat d t)[0] := gAt_at h00
      rw [← hg0, hd2'] at p0
      have htk : (flat d t).take 1 = [gAt (flat d t) 0] := by
        have := List.take_succ_eq_append_getElem h00
        rw [hg0]; simpa using this
      have ST := hG1.take_ 1 (by omega)
      rw [htk] at ST
      have hhl1 : hs.length ≤ RS.length := by omega
      have hhl2 : RS.length ≤ hs.length := by omega
      have hn16 : hs.length ≤ 9223372036854775807 := S1.n_le
      have hws : IntKind.i64.wrap (dep - d) = dep - d := IntWalk.i64_in _ (by omega)
      have hwp : IntKind.i64.wrap (dep + 1) = dep + 1 := IntWalk.i64_in _ (by omega)
      have HD1 := Lib.hid hd1'
      have HSO := Lib.hid (shift_one (gAt (flat d t) 0) d dep hd2')
      clear hk hg0 hG hlen hd1' htk
      go_wp2_with fail
      refine wp_region_noPanic ?_
      refine wp_region_Z (fun w' => w'.cell? ⟨b, off, none⟩ = some (.int .i64 d)) [] (by kernel_rfl) ?_
      have q1 : w1.drew.cell? ⟨b, off, none⟩ = some (.int .i64 d) := p0
      have ST1 := ST.le (Le.refl w1).drew
      have S2 := S1.le (Le.refl w1).drew
      have R2 := hR.le (Le.refl w1).drew
      have hb2 : b < w1.drew.heap.size := hb
      have hL2 := hL1.drew
      clear hR S1 p0 ST
      generalize w1.drew = V at *
      refine wpAnyZ_take (i := 0) (v := ?_) rfl (by kernel_rfl) (fun _ _ _ h => h) (Or.inl ⟨by rfl, ?_⟩) (q1) ?_
      rotate_left 1
      · (intro w hSw; (try dsimp only at hSw); go_simp; try with_reducible rfl)
      try simp only [Act.put, List.setIfInBounds_toArray, List.set_cons_zero, List.set_cons_succ]
      refine wpAnyZ_take (i := 1) (v := ?_) rfl (by kernel_rfl) (fun _ _ _ h => h) (Or.inl ⟨by rfl, ?_⟩) (q1) ?_
      rotate_left 1
      · (intro w hSw; (try dsimp only at hSw); go_simp; try with_reducible rfl)
      try simp only [Act.put, List.setIfInBounds_toArray, List.set_cons_zero, List.set_cons_succ]
      refine wpAnyZ_take (i := 2) (v := ?_) rfl (by kernel_rfl) (fun _ _ _ h => h) (Or.inl ⟨by rfl, ?_⟩) (q1) ?_
      rotate_left 1
      · (intro w hSw; (try dsimp only at hSw); go_simp; try with_reducible rfl)
      try simp only [Act.put, List.setIfInBounds_toArray, List.set_cons_zero, List.set_cons_succ]
      refine wpAnyZ_take (i := 3) (v := ?_) rfl (by kernel_rfl) (fun _ _ _ h => h) (Or.inl ⟨by rfl, ?_⟩) (q1) ?_
      rotate_left 1
      · (intro w hSw; (try dsimp only at hSw); go_simp; try with_reducible rfl)
      try simp only [Act.put, List.setIfInBounds_toArray, List.set_cons_zero, List.set_cons_succ]
      refine wpAnyZ_take (i := 4) (v := ?_) rfl (by kernel_rfl) (fun _ _ _ h => h) (Or.inl ⟨by rfl, ?_⟩) (q1) ?_
      rotate_left 1
      · (intro w hSw; (try dsimp only at hSw); go_simp; try with_reducible rfl)
      try simp only [Act.put, List.setIfInBounds_toArray, List.set_cons_zero, List.set_cons_succ]
      refine wpAnyZ_take (i := 5) (v := ?_) rfl (by kernel_rfl) (fun _ _ _ h => h) (Or.inl ⟨by rfl, ?_⟩) (q1) ?_
      rotate_left 1
      · (intro w hSw; (try dsimp only at hSw); go_simp; try with_reducible rfl)
      try simp only [Act.put, List.setIfInBounds_toArray, List.set_cons_zero, List.set_cons_succ]
      refine wpAnyZ_take (i := 6) (v := ?_) rfl (by kernel_rfl) (fun _ _ _ h => h) (Or.inl ⟨by rfl, ?_⟩) (q1) ?_
      rotate_left 1
      · (intro w hSw; (try dsimp only at hSw); go_simp; try with_reducible rfl)
      try simp only [Act.put, List.setIfInBounds_toArray, List.set_cons_zero, List.set_cons_succ]
      refine wpAnyZ_take (i := 7) (v := ?_) rfl (by kernel_rfl) (fun _ _ _ h => h) (Or.inl ⟨by rfl, ?_⟩) (q1) ?_
      rotate_left 1
      · (intro w hSw; (try dsimp only at hSw); go_simp; try with_reducible rfl)
      try simp only [Act.put, List.setIfInBounds_toArray, List.set_cons_zero, List.set_cons_succ]
      refine wpAnyZ_one (i := 8) (by kernel_rfl) (ReadyZ.mk rfl (fun K hK => ?_))
      go_simp
      go_at_call 71
      refine (shiftParts_any _ _ _ [gAt (flat d t) 0] (dep - d) _ ST1 (by omega) (fun p hp => by rw [List.mem_singleton.1 hp, hd2']; omega) (by omega)).mono ?_
      rintro e V2 ⟨u, rfl, O0, hl2⟩
      rw [HSO.out, ← HD1.out] at O0
      refine hK.out _ _ (fun _ => (hl2.cell hb2).trans q1) ?_
      clear hK K
      try simp only [Act.put, List.setIfInBounds_toArray, List.set_cons_zero, List.set_cons_succ]
      refine wpAnyZ_take (i := 9) (v := ?_) rfl (by kernel_rfl) (fun _ _ _ h => h) (Or.inl ⟨by rfl, ?_⟩) ((hl2.cell hb2).trans q1) ?_
      rotate_left 1
      · (intro w hSw; (try dsimp only at hSw); go_simp; try with_reducible rfl)
      try simp only [Act.put, List.setIfInBounds_toArray, List.set_cons_zero, List.set_cons_succ]
      refine wpAnyZ_done (by kernel_rfl) ?_ _
      refine NoPanic.normal ?_
      obtain ⟨P0, HP0⟩ : ∃ P0, Hid (gAt (flat dep t) 0 = P0) := ⟨_, Lib.hid rfl⟩
      rw [HP0.out] at O0 HF
      have HO0 := Lib.hid O0
      clear O0 ST1 q1
      go_wp2
      go_loopw [6, 31] (fun v i wr => ∃ k : Nat, k ≤ RS.length ∧ i = .int .i64 k ∧ Owd 70 V wr v (P0 :: ((RS.take k).map (fun r => flat (dep + 1) (simpF r))).flatten) ∧ Le V wr) (fun _ i _ => RS.length - (intOf i).toNat)
      case atStart => exact ⟨0, Nat.zero_le _, rfl, HO0.out, hl2⟩
      case round =>
        obtain ⟨k, hk1, rfl, O1, L1⟩ := hrel
        clear HO0
        by_cases hlt : k < RS.length
        · have hlh : k < hs.length := by omega
          obtain ⟨b9, off9, rfl, hb9, hcell⟩ := (S2.le L1).hdr_at hlh
          have sk := (R2.le L1).each k _ _ (List.getElem?_eq_getElem hlh) (by rw [List.getElem?_map, List.getElem?_eq_getElem hlt]; rfl)
          obtain ⟨hgt, hszk, hszk2⟩ := HKID.out RS[k] (List.getElem_mem hlt)
          have hpos : 0 < hs[k].n := by
            have h1 := sk.len
            rw [flatF_len] at h1
            have := szF_kids hgt.one
            omega
          obtain ⟨bk, ok, ek, -⟩ := sk.at_ hpos
          rw [ek] at sk hcell
          have hIH := ih RS[k] hszk hgt (d + 1) (dep + 1) (by omega) (by omega) (by omega) (by omega) bk ok _ _ wr sk
          have HST : Hid (P0 :: ((RS.take (k + 1)).map (fun r => flat (dep + 1) (simpF r))).flatten = (P0 :: ((RS.take k).map (fun r => flat (dep + 1) (simpF r))).flatten) ++ flat (dep + 1) (simpF RS[k])) := by
            show _ = _
            rw [List.take_succ_eq_append_getElem hlt, List.map_append, List.flatten_append, List.map_singleton, List.flatten_singleton]; rfl
          have hl1 : (P0 :: ((RS.take k).map (fun r => flat (dep + 1) (simpF r))).flatten).length ≤ 16 := by
            rw [List.length_cons, List.map_take]
            have := take_flat_len (L := RS.map (fun r => flat (dep + 1) (simpF r))) k
            omega
          have hl6 : (flat (dep + 1) (simpF RS[k])).length ≤ 16 := by rw [flatF_len]; exact hgt.simp.sz
          have HIH := Lib.hid hIH
          obtain ⟨D, HD⟩ : ∃ D, Hid (P0 :: ((RS.take k).map (fun r => flat (dep + 1) (simpF r))).flatten = D) := ⟨_, Lib.hid rfl⟩
          rw [HD.out] at HST O1 hl1
          clear hIH sk ek
          go_wp2_with fail
          refine HIH.out.mono ?_
          rintro e w4 ⟨v2, rfl, O2, hl4⟩
          obtain ⟨A3, c3, rfl, S4, -⟩ := O2.form (by decide)
          have O5 := O1.le hl4
          have L5 := L1.trans hl4
          have hok5 := Lib.hid (ok_app O5.ok S4.ok)
          have hs5 := L5.size
          clear O1 O2
          obtain ⟨E, HE⟩ : ∃ E, Hid (flat (dep + 1) (simpF RS[k]) = E) := ⟨_, Lib.hid rfl⟩
          rw [HE.out] at S4 hl6 hok5 HST
          rw [HE.out]
          go_wp2_with (at_builtin; refine wpList_append_sl rfl _ _ 34 rfl V.heap.size 70 i1 _ 32 Try.underlying34 hi1 hy0 hy1 hy2 rfl _ D.length D rfl O5.row A3 E.length c3 E rfl S4 (by unfold maxLen; omega) (by omega) hs5 ?_; intro v6 w6 O6 hg6 _)
          have L6 := L5.grown hg6 (fun q hq => (O5.row.lt q hq).1)
          have H6 : Hid (Owd 70 V w6 v6 (P0 :: ((RS.take (k + 1)).map (fun r => flat (dep + 1) (simpF r))).flatten)) := by
            show Owd _ _ _ _ _
            rw [HST.out]
            exact ⟨by rw [List.length_append]; exact O6, hok5.out⟩
          clear O6 hg6 O5
          go_roundw
          case rel => exact ⟨k + 1, by omega, by go_num, H6.out, L6⟩
          case measure => simp [intOf]; omega
        · obtain rfl : k = RS.length := by omega
          rw [List.take_length, ← HF.out] at O1
          have HO := Lib.hid (O1.mono hL2)
          have HL := Lib.hid (hL2.trans L1)
          clear O1
          go_wp2
          go_ret
          exact ⟨_, rfl, HO.out, HL.out⟩
    · have h1 := oneB_iff.1 hk
      rw [one_roots h1] at hR hlen HKID
      obtain ⟨hgt, hszk, hszk2⟩ := HKID.out (kidsF t) (List.mem_singleton.2 rfl)
      have hlh : 0 < hs.length := by rw [hlen]; exact Nat.zero_lt_one
      obtain ⟨b2, off2, rfl, hb2, hcell⟩ := S1.hdr_at hlh
      have sk := hR.each 0 _ _ (List.getElem?_eq_getElem hlh) rfl
      rw [Nat.add_zero] at hcell
      have hpos : 0 < hs[0].n := by
        have h2 := sk.len
        rw [flatF_len] at h2
        have := szF_kids hgt.one
        omega
      obtain ⟨bk, ok, ek, -⟩ := sk.at_ hpos
      rw [ek] at sk hcell
      have HIH := Lib.hid (ih (kidsF t) hszk hgt (d + 1) dep (by omega) (by omega) (by omega) (by omega) bk ok _ _ w1 sk)
      have HF := Lib.hid (simp_one h.one hk dep)
      have hl1 : hs.length = 1 := hlen
      clear hlen hk sk hR S1 ek
      go_wp2_with fail
      refine HIH.out.mono ?_
      rintro e w4 ⟨v2, rfl, O2, hl4⟩
      rw [← HF.out] at O2
      have HO := Lib.hid (O2.mono hL1)
      clear O2
      go_wp2
      go_ret
      exact ⟨_, rfl, HO.out, hL1.trans hl4⟩
/-- a group without groups of one -/
noncomputable def simX (xs : List Cls) (g : List Prt) : List Prt := cond (gOkS xs g) (flat 0 (simpF (treeOf g))) []
theorem simX_of {xs : List Cls} {g : List Prt} {b : Bool} (h : gOkS xs g = b) : simX xs g = cond b (flat 0 (simpF (treeOf g))) [] := by unfold simX; rw [h]
theorem simX_len (xs : List Cls) (g : List Prt) : (simX xs g).length ≤ 1048576 := by
  cases h : gOkS xs g
  · rw [simX_of h]; simp
  · rw [simX_of h]
    show (flat 0 _).length ≤ _
    rw [flatF_len]
    have := (gOk_tree h).2.simp.sz
    omega
set_option maxRecDepth 100000 in
theorem sSimplifyGroup_any (A B : Option Addr) (n cap m c : Nat) (xs : List Cls) (g : List Prt) (w : World) (hT : Sl w A n cap xs) (hG : Sl w B m c g) :
    Calls Try.prog 45 #[.agg #[.slice A n cap], .slice B m c] w fun e w' => ∃ v, e = .returned v ∧ Owd 70 w w' v (simX xs g) ∧ Le w w' := by
  obtain ⟨-, z0, hl⟩ := box1 w (.slice A n cap) 32
  have hS := hT.le hl
  have hG1 := hG.le hl
  go_enter Try.func45, Try.ntmps45
  go_wp2_with fail
  generalize w.alloc (.cells #[.slice A n cap] 32) = w1 at *
  refine (validGroup_any _ _ _ _ _ _ xs g _ hS hG1).mono ?_
  rintro e w2 ⟨rfl, hle⟩
  have hG2 := hG1.le hle
  have hLL := hl.trans hle
  cases hg : gOkS xs g
  · have HX := Lib.hid (simX_of hg)
    clear hg
    go_wp2
    go_ret
    exact ⟨_, rfl, by rw [HX.out]; exact Owd.nil _ _ _, hLL⟩
  · have HX := Lib.hid (simX_of hg)
    obtain ⟨e1, hgt⟩ := gOk_tree hg
    rw [e1] at hG2
    have HC := Lib.hid (sSimple_any xs _ (treeOf g) (Nat.le_refl _) hgt _ _ _ _ hG2)
    clear hg e1
    go_wp2_with fail
    refine HC.out.mono ?_
    rintro e w3 ⟨v, rfl, O, hle3⟩
    have HO := Lib.hid (O.mono hLL)
    clear O
    go_wp2
    go_ret
    exact ⟨_, rfl, by rw [HX.out]; exact HO.out, hLL.trans hle3⟩
set_option maxRecDepth 100000 in
theorem iSimplifyGroup_any (A B : Option Addr) (n cap m c : Nat) (xs : List Cls) (g : List Prt) (w : World) (hT : Sl w A n cap xs) (hG : Sl w B m c g) :
    Calls Try.prog 46 #[.agg #[.slice A n cap], .slice B m c] w fun e w' => ∃ v, e = .returned v ∧ Owd 70 w w' v (simX xs g) ∧ Le w w' := by
  obtain ⟨-, z0, hl⟩ := box1 w (.slice A n cap) 32
  have hS := hT.le hl
  have hG1 := hG.le hl
  go_enter Try.func46, Try.ntmps46
  go_wp2_with fail
  generalize w.alloc (.cells #[.slice A n cap] 32) = w1 at *
  refine (iValidGroupS_any _ _ _ _ _ _ xs g _ hS hG1).mono ?_
  rintro e w2 ⟨rfl, hle⟩
  have hG2 := hG1.le hle
  have hLL := hl.trans hle
  cases hg : gOkS xs g
  · have HX := Lib.hid (simX_of hg)
    clear hg
    go_wp2
    go_ret
    exact ⟨_, rfl, by rw [HX.out]; exact Owd.nil _ _ _, hLL⟩
  · have HX := Lib.hid (simX_of hg)
    obtain ⟨e1, hgt⟩ := gOk_tree hg
    have hm0 : 0 < m := by
      have h1 := hG.len
      rw [e1, flatF_len] at h1
      have := szF_kids hgt.one
      omega
    obtain ⟨b, off, rfl, -⟩ := hG.at_ hm0
    rw [e1] at hG2
    have HC := Lib.hid (iSimplify_any xs _ (treeOf g) (Nat.le_refl _) hgt 0 0 (Int.le_refl _) (by have := hgt.sz; omega) (Int.le_refl _) (by have := hgt.sz; omega) b off _ _ _ hG2)
    clear hg e1
    go_wp2_with fail
    refine HC.out.mono ?_
    rintro e w3 ⟨v, rfl, O, hle3⟩
    have HO := Lib.hid (O.mono hLL)
    clear O
    go_wp2
    go_ret
    exact ⟨_, rfl, by rw [HX.out]; exact HO.out, hLL.trans hle3⟩
end

section
set_option maxHeartbeats 16000000 in
set_option maxRecDepth 100000 in
theorem exSimplifyGroup_walk (At : Option Addr) (nt ct : Nat) (t : List Cls) (Ag : Option Addr) (ng cg : Nat) (g : List Prt) (w : World) (ht : Sl w At nt ct t) (hg : Sl w Ag ng cg g) :
    Calls Try.prog 10 #[.agg #[.slice At nt ct], .slice Ag ng cg] w fun e w' => e = .returned (.bool true) ∧ Le w w' := by
  have hokt := ht.ok
  have hmxt := ht.n_le
  have hokg := hg.ok
  have hmxg := hg.n_le
  have HL0 : (simX t g).length ≤ 1048576 := simX_len t g
  go_enter Try.func10, Try.ntmps10
  go_wp2_with fail
  obtain ⟨cat, zat, L0⟩ := box1 w (.slice At nt ct) 24
  have s0 : w.heap.size ≤ (w.alloc (.cells #[.slice At nt ct] 24)).heap.size := L0.size
  have sz0 := zat
  generalize w.alloc (.cells #[.slice At nt ct] 24) = W at *
  refine (szTree_any At nt ct t _ _ (ht.le L0) (by omega) (by omega)).mono ?_
  rintro e w1 ⟨rt, rfl, hr, hle⟩
  have s1 := hle.size
  replace cat := (hle.cell zat).trans cat
  replace zat := Nat.lt_of_lt_of_le zat hle.size
  replace L0 := L0.trans hle
  clear hle
  rcases hr with rfl | ⟨ht0, ht1, ht2⟩
  · go_wp2
    go_ret
    exact ⟨rfl, L0⟩
  have hnegt : decide (rt < 0) = false := decide_eq_false (by omega)
  go_wp2_with fail
  refine (szPartS_any Ag ng cg g _ _ (hg.le L0) (by omega) (by omega)).mono ?_
  rintro e w2 ⟨rg, rfl, hr, hle⟩
  have s2 := hle.size
  replace cat := (hle.cell zat).trans cat
  replace zat := Nat.lt_of_lt_of_le zat hle.size
  replace L0 := L0.trans hle
  clear hle
  rcases hr with rfl | ⟨hg0, hg1, hg2⟩
  · go_wp2
    go_ret
    exact ⟨rfl, L0⟩
  have hnegg : decide (rg < 0) = false := decide_eq_false (by omega)
  go_wp2_with fail
  refine (toTree_any At nt ct t _ (ht.le L0) (by omega)).mono ?_
  rintro e w3 ⟨gat, rfl, hgat, Oat, hle⟩
  have s3 := hle.size
  replace cat := (hle.cell zat).trans cat
  replace zat := Nat.lt_of_lt_of_le zat hle.size
  replace L0 := L0.trans hle
  clear hle
  have hbat := own_lt Oat
  go_wp2_with fail
  refine (toPartS_any Ag ng cg g _ (hg.le L0) (by omega)).mono ?_
  rintro e w4 ⟨rfl, Oag, hle⟩
  have s4 := hle.size
  replace cat := (hle.cell zat).trans cat
  replace zat := Nat.lt_of_lt_of_le zat hle.size
  replace L0 := L0.trans hle
  replace Oat := own_le Oat hle
  clear hle
  have hbag := own_lt Oag
  go_wp2_with fail
  refine (sSimplifyGroup_any _ _ _ _ _ _ t g _ (Sl.of_own Oat rfl (by decide) hokt) (Sl.of_own Oag rfl (by decide) hokg)).mono ?_
  rintro e w5 ⟨v00, rfl, D00, hle⟩
  have s5 := hle.size
  replace cat := (hle.cell zat).trans cat
  replace zat := Nat.lt_of_lt_of_le zat hle.size
  replace L0 := L0.trans hle
  replace Oat := own_le Oat hle
  replace Oag := own_le Oag hle
  clear hle
  obtain ⟨A00, q00, rfl, S00, hB00⟩ := D00.form (by decide)
  have HB00 := Lib.hid hB00; clear hB00
  have okL00 := D00.ok
  have HU00 := Lib.hid (S00.under)
  clear D00
  clear Oat Oag
  go_wp2_with fail
  refine (toTree_any At nt ct t _ (ht.le L0) (by omega)).mono ?_
  rintro e w6 ⟨gxt, rfl, hgxt, Oxt, hle⟩
  have s6 := hle.size
  replace cat := (hle.cell zat).trans cat
  replace zat := Nat.lt_of_lt_of_le zat hle.size
  replace L0 := L0.trans hle
  replace S00 := S00.le hle
  clear hle
  have hbxt := own_lt Oxt
  go_wp2_with fail
  obtain ⟨cxt, zxt, hleB⟩ := box1 w6 (.slice (some ⟨gxt, 0, none⟩) nt nt) 32
  replace cat := (hleB.cell zat).trans cat
  replace zat := Nat.lt_of_lt_of_le zat hleB.size
  replace L0 := L0.trans hleB
  replace S00 := S00.le hleB
  replace Oxt := own_le Oxt hleB
  clear hleB
  generalize w6.alloc (.cells #[.slice (some ⟨gxt, 0, none⟩) nt nt] 32) = w7 at *
  have s7 := zxt
  refine (toPartS_any Ag ng cg g _ (hg.le L0) (by omega)).mono ?_
  rintro e w8 ⟨rfl, Oxg, hle⟩
  have s8 := hle.size
  replace cat := (hle.cell zat).trans cat
  replace cxt := (hle.cell zxt).trans cxt
  replace zat := Nat.lt_of_lt_of_le zat hle.size
  replace L0 := L0.trans hle
  replace S00 := S00.le hle
  replace Oxt := own_le Oxt hle
  replace zxt := Nat.lt_of_lt_of_le zxt hle.size
  clear hle
  have hbxg := own_lt Oxg
  go_wp2_with fail
  refine (iSimplifyGroup_any _ _ _ _ _ _ t g _ (Sl.of_own Oxt rfl (by decide) hokt) (Sl.of_own Oxg rfl (by decide) hokg)).mono ?_
  rintro e w9 ⟨v10, rfl, D10, hle⟩
  have s9 := hle.size
  replace cat := (hle.cell zat).trans cat
  replace cxt := (hle.cell zxt).trans cxt
  replace zat := Nat.lt_of_lt_of_le zat hle.size
  replace L0 := L0.trans hle
  replace S00 := S00.le hle
  replace Oxt := own_le Oxt hle
  replace zxt := Nat.lt_of_lt_of_le zxt hle.size
  replace Oxg := own_le Oxg hle
  clear hle
  obtain ⟨A10, q10, rfl, S10, hB10⟩ := D10.form (by decide)
  have HB10 := Lib.hid hB10; clear hB10
  have okL10 := D10.ok
  have O10 := D10.row; clear S10
  clear D10
  go_wp2_with fail
  refine (eqPartS_self _ _ _ _ _ (simX t g) _ (Sl.of_own O10 rfl (by decide) okL10) S00).mono ?_
  rintro e w10 ⟨rfl, hle⟩
  have s10 := hle.size
  replace cat := (hle.cell zat).trans cat
  replace cxt := (hle.cell zxt).trans cxt
  replace zat := Nat.lt_of_lt_of_le zat hle.size
  replace L0 := L0.trans hle
  replace S00 := S00.le hle
  replace Oxt := own_le Oxt hle
  replace zxt := Nat.lt_of_lt_of_le zxt hle.size
  replace Oxg := own_le Oxg hle
  replace O10 := own_le O10 hle
  clear hle
  go_wp2_with fail
  replace L0 := L0.drew
  replace S00 := S00.le (Le.refl _).drew
  replace Oxt := Oxt.drew
  replace Oxg := Oxg.drew
  replace O10 := O10.drew
  go_region_held3 (fun w' => w'.cell? ⟨w.heap.size, 0, none⟩ = some (.slice At nt ct) ∧ w'.cell? ⟨w6.heap.size, 0, none⟩ = some (.slice (some ⟨gxt, 0, none⟩) nt nt))
    (first | exact ⟨cat, cxt⟩)
    (first
    | (go_at_call 14; refine (toTree_any At nt ct t _ (ht.le L0) (by omega)).mono ?_; rintro e w11 ⟨gy, rfl, hgy, Oy, hle⟩; have s11 : w10.heap.size ≤ w11.heap.size := hle.size; replace cat := (hle.cell zat).trans cat; replace cxt := (hle.cell zxt).trans cxt; replace zat := Nat.lt_of_lt_of_le zat hle.size; replace L0 := L0.trans hle; replace S00 := S00.le hle; replace Oxt := own_le Oxt hle; replace zxt := Nat.lt_of_lt_of_le zxt hle.size; replace Oxg := own_le Oxg hle; replace O10 := own_le O10 hle; clear hle; have Sy := Sl.of_own Oy rfl (by decide) hokt; clear Oy)
    | (go_at_call 18; refine (eqTree_self _ _ _ _ _ t _ (Sl.of_own Oxt rfl (by decide) hokt) Sy).mono ?_; rintro e w12 ⟨rfl, hle⟩; have s12 := hle.size; replace cat := (hle.cell zat).trans cat; replace cxt := (hle.cell zxt).trans cxt; replace zat := Nat.lt_of_lt_of_le zat hle.size; replace L0 := L0.trans hle; replace S00 := S00.le hle; replace Oxt := own_le Oxt hle; replace zxt := Nat.lt_of_lt_of_le zxt hle.size; replace Oxg := own_le Oxg hle; replace O10 := own_le O10 hle; clear hle Sy))
  go_wp2_with fail
  refine (toPartS_any Ag ng cg g _ (hg.le L0) (by omega)).mono ?_
  rintro e w13 ⟨rfl, Oy, hle⟩
  have s13 := hle.size
  replace cat := (hle.cell zat).trans cat
  replace cxt := (hle.cell zxt).trans cxt
  replace zat := Nat.lt_of_lt_of_le zat hle.size
  replace L0 := L0.trans hle
  replace S00 := S00.le hle
  replace Oxt := own_le Oxt hle
  replace zxt := Nat.lt_of_lt_of_le zxt hle.size
  replace Oxg := own_le Oxg hle
  replace O10 := own_le O10 hle
  clear hle
  have hby := own_lt Oy
  have Sy := Sl.of_own Oy rfl (by decide) hokg; clear Oy hby
  go_wp2_with fail
  refine (eqPartS_self _ _ _ _ _ g _ (Sl.of_own Oxg rfl (by decide) hokg) Sy).mono ?_
  rintro e w14 ⟨rfl, hle⟩
  have s14 := hle.size
  replace cat := (hle.cell zat).trans cat
  replace cxt := (hle.cell zxt).trans cxt
  replace zat := Nat.lt_of_lt_of_le zat hle.size
  replace L0 := L0.trans hle
  replace S00 := S00.le hle
  replace Oxt := own_le Oxt hle
  replace zxt := Nat.lt_of_lt_of_le zxt hle.size
  replace Oxg := own_le Oxg hle
  replace O10 := own_le O10 hle
  clear hle
  clear Sy
  go_wp2_with fail
  refine (markTree_any _ _ _ _ _ _ _ Oxt (by omega) (by omega) (by omega)).mono ?_
  rintro e w15 ⟨rfl, _, hg⟩
  have s15 := hg.size
  replace cat := hg.cell (a := ⟨w.heap.size, 0, none⟩) cat (fun e => by have e1 : w.heap.size = gxt := (by injection e); omega)
  replace zat := Nat.lt_of_lt_of_le zat hg.size
  replace L0 := L0.grown hg (fun k hk => by have e1 : gxt = k := (by injection hk); omega)
  replace S00 := S00.grown hg (fun hn a e h => by have h1 := HU00.out hn a e; have h2 : a.block = gxt := (by injection h); omega)
  replace cxt := hg.cell (a := ⟨w6.heap.size, 0, none⟩) cxt (fun e => by have e1 : w6.heap.size = gxt := (by injection e); omega)
  replace zxt := Nat.lt_of_lt_of_le zxt hg.size
  replace Oxg := Oxg.kept hg (.inr (fun e => by have e1 : w7.heap.size = gxt := (by injection e); omega))
  replace O10 := O10.kept hg (.inr (fun e => by have e1 : w8.heap.size ≤ gxt ∧ gxt < w9.heap.size := HB10.out _ e; omega))
  clear hg Oxt
  clear cxt zxt
  go_wp2_with fail
  refine (markPartS_any _ _ _ _ _ _ _ Oxg (by omega) (by omega) (by omega)).mono ?_
  rintro e w16 ⟨rfl, _, hg⟩
  have s16 := hg.size
  replace cat := hg.cell (a := ⟨w.heap.size, 0, none⟩) cat (fun e => by have e1 : w.heap.size = w7.heap.size := (by injection e); omega)
  replace zat := Nat.lt_of_lt_of_le zat hg.size
  replace L0 := L0.grown hg (fun k hk => by have e1 : w7.heap.size = k := (by injection hk); omega)
  replace S00 := S00.grown hg (fun hn a e h => by have h1 := HU00.out hn a e; have h2 : a.block = w7.heap.size := (by injection h); omega)
  replace O10 := O10.kept hg (.inr (fun e => by have e1 : w8.heap.size ≤ w7.heap.size ∧ w7.heap.size < w9.heap.size := HB10.out _ e; omega))
  clear hg Oxg
  have hkk : decide (1 + 2 * (nt : Int) + 4 * (ng : Int) < 0) = false := decide_eq_false (by omega)
  go_wp2_with fail
  refine (eqPartS_self _ _ _ _ _ (simX t g) _ (Sl.of_own O10 rfl (by decide) okL10) S00).mono ?_
  rintro e w17 ⟨rfl, hle⟩
  have s17 := hle.size
  replace cat := (hle.cell zat).trans cat
  replace zat := Nat.lt_of_lt_of_le zat hle.size
  replace L0 := L0.trans hle
  replace S00 := S00.le hle
  replace O10 := own_le O10 hle
  clear hle
  go_wp2_with fail
  refine (markPartS_any _ _ _ _ _ _ _ O10 (by omega) (by omega) HL0).mono ?_
  rintro e w18 ⟨rfl, Om, hg⟩
  have s18 := hg.size
  replace cat := hg.cell (a := ⟨w.heap.size, 0, none⟩) cat (fun e => by have e1 : w8.heap.size ≤ w.heap.size ∧ w.heap.size < w9.heap.size := HB10.out _ e.symm; omega)
  replace zat := Nat.lt_of_lt_of_le zat hg.size
  replace L0 := L0.grown hg (fun k hk => by have e1 : w8.heap.size ≤ k ∧ k < w9.heap.size := HB10.out k hk; omega)
  replace S00 := S00.grown hg (fun hn a e h => by have h1 := HU00.out hn a e; have h2 : w8.heap.size ≤ a.block ∧ a.block < w9.heap.size := HB10.out _ h.symm; omega)
  clear hg O10
  have O10 := Om; clear Om
  go_wp2_with fail
  refine (heldPartS_any _ _ _ _ _ (Sl.of_own O10 rfl (by decide) (mPrt_ok (by omega) (by omega) HL0)) (by omega) (by omega) HL0).mono ?_
  rintro e w19 ⟨rfl, hle⟩
  have s19 := hle.size
  replace cat := (hle.cell zat).trans cat
  replace zat := Nat.lt_of_lt_of_le zat hle.size
  replace L0 := L0.trans hle
  replace S00 := S00.le hle
  replace O10 := own_le O10 hle
  clear hle
  have hqq0 : decide ((1 : Int) + 4 * ((simX t g).length : Int) < 0) = false := decide_eq_false (by omega)
  go_wp2_with fail
  refine (toTree_any At nt ct t _ (ht.le L0) (by omega)).mono ?_
  rintro e w20 ⟨ght, rfl, hght, Oht, hle⟩
  have s20 := hle.size
  replace cat := (hle.cell zat).trans cat
  replace zat := Nat.lt_of_lt_of_le zat hle.size
  replace L0 := L0.trans hle
  replace S00 := S00.le hle
  replace O10 := own_le O10 hle
  clear hle
  have hbht := own_lt Oht
  go_wp2_with fail
  refine (toPartS_any Ag ng cg g _ (hg.le L0) (by omega)).mono ?_
  rintro e w21 ⟨rfl, Ohg, hle⟩
  have s21 := hle.size
  replace cat := (hle.cell zat).trans cat
  replace zat := Nat.lt_of_lt_of_le zat hle.size
  replace L0 := L0.trans hle
  replace S00 := S00.le hle
  replace O10 := own_le O10 hle
  replace Oht := own_le Oht hle
  clear hle
  have hbhg := own_lt Ohg
  go_wp2_with fail
  refine (iSimplifyGroup_any _ _ _ _ _ _ t g _ (Sl.of_own Oht rfl (by decide) hokt) (Sl.of_own Ohg rfl (by decide) hokg)).mono ?_
  rintro e w22 ⟨v20, rfl, D20, hle⟩
  have s22 := hle.size
  replace cat := (hle.cell zat).trans cat
  replace zat := Nat.lt_of_lt_of_le zat hle.size
  replace L0 := L0.trans hle
  replace S00 := S00.le hle
  replace O10 := own_le O10 hle
  replace Oht := own_le Oht hle
  replace Ohg := own_le Ohg hle
  clear hle
  obtain ⟨A20, q20, rfl, S20, hB20⟩ := D20.form (by decide)
  have HB20 := Lib.hid hB20; clear hB20
  have okL20 := D20.ok
  have O20 := D20.row; clear S20
  clear D20
  clear Oht
  clear Ohg
  go_wp2_with fail
  refine (eqPartS_self _ _ _ _ _ (simX t g) _ (Sl.of_own O20 rfl (by decide) okL20) S00).mono ?_
  rintro e w23 ⟨rfl, hle⟩
  have s23 := hle.size
  replace cat := (hle.cell zat).trans cat
  replace zat := Nat.lt_of_lt_of_le zat hle.size
  replace L0 := L0.trans hle
  replace S00 := S00.le hle
  replace O10 := own_le O10 hle
  replace O20 := own_le O20 hle
  clear hle
  clear O20
  go_wp2_with fail
  refine (heldPartS_any _ _ _ _ _ (Sl.of_own O10 rfl (by decide) (mPrt_ok (by omega) (by omega) HL0)) (by omega) (by omega) HL0).mono ?_
  rintro e w24 ⟨rfl, hle⟩
  have s24 := hle.size
  replace cat := (hle.cell zat).trans cat
  replace zat := Nat.lt_of_lt_of_le zat hle.size
  replace L0 := L0.trans hle
  replace S00 := S00.le hle
  replace O10 := own_le O10 hle
  clear hle
  go_wp2
  go_ret
  exact ⟨rfl, L0⟩
end
end Go.Proofs.Ytpdggodmiliijaa
