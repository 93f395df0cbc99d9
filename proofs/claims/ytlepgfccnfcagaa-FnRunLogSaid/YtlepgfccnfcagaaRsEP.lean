/- programs: the model's run: caught -/
import Derived.Test.YtlepgfccnfcagaaRsDP
import Derived.Test.YtlepgfccnfcagaaWp3
import Derived.Scope
namespace Go.Proofs.Ytlepgfccnfcagaa
open Go.RowKit
theorem exF_one {p : List Lin} {E : List Nat} (h : 0 < E.length) (hk : knd p E[0] ≠ 8) : exF p E = exF p (E.drop 1) := by
  have := ex_drop (p := p) (C := E) (k := 0) h
  rw [List.drop_zero, if_neg hk] at this
  exact this
set_option maxHeartbeats 4000000 in
set_option maxRecDepth 100000 in
theorem caught_any (R m c n cap q d : Nat) (B A D : Option Addr) (xs : List Cls) (p : List Lin) (lv hv : Value) (s : Rst) (i : Nat) (f : Int) (g : GoodP xs p) (hi : i < p.length) (h7 : knd p i = 7) (gd : Gd xs s.2) (h0 : 0 ≤ f) (h1 : f < (s.2.length : Int)) (w : World) (hL : Sl w D q d (nI (parts p i))) (H : Rn w R B m c xs A n cap p lv hv s.1 s.2) :
    Calls Try.prog 126 #[.pointer (some ⟨R, 0, none⟩), .slice D q d, .int .i64 f] w fun e w' => e = .returned (.int .i64 (ctE xs p (clsF s f) (exL p i))) ∧ Le w w' := by
  obtain ⟨f, rfl⟩ := Int.eq_ofNat_of_zero_le h0
  have hf : f < s.2.length := by omega
  have hcl : clsF s f = s.2[f].cls := by unfold clsF; rw [show (f : Int).toNat = f by omega, List.getElem?_eq_getElem hf]
  have hk := hasK_iff.1 (gd f hf).1
  have hp := g.len
  have GT := Lib.hid (good_of g.tree)
  obtain rfl := H.T.len
  have hlen := hL.len
  rw [nI_len] at hlen
  obtain rfl := hlen
  have hpl := parts_len p i
  have hE0 : 0 < (parts p i).length := parts_posF p i
  have hHd : exL p i = exF p ((parts p i).drop 1) := exF_one hE0 (by show knd p i ≠ 8; rw [h7]; decide)
  have HX : Hid (∀ z, ctE xs p s.2[f].cls (exF p ((parts p i).drop 1)) = z → ctE xs p (clsF s f) (exL p (id i)) = z) := fun z hz => by rw [hcl]; show ctE xs p s.2[f].cls (exL p i) = z; rw [hHd]; exact hz
  have HLT := Lib.hid (parts_lt hi)
  clear hHd hcl
  obtain ⟨AH, cH, rfl⟩ := own_form H.H
  generalize parts p i = E at *
  obtain ⟨fc, hfc⟩ : ∃ z, s.2[f].cls = z := ⟨_, rfl⟩
  rw [hfc] at HX hk
  have HFC := Lib.hid hfc
  clear hfc
  go_enter Try.func126, Try.ntmps126
  go_wp2
  go_loopw [7] (fun u wr => ∃ k : Nat, 1 ≤ k ∧ k ≤ E.length ∧ u = .int .i64 k ∧ ctE xs p fc (exF p (E.drop 1)) = ctE xs p fc (exF p (E.drop k)) ∧ Le w wr) (fun u _ => E.length - (intOf u).toNat)
  case atStart => exact ⟨1, Nat.le_refl _, by omega, rfl, rfl, Le.refl _⟩
  case round =>
    obtain ⟨k, hk1, hkE, rfl, hr, hle⟩ := hrel
    have HR := Lib.hid hr
    clear hr
    have RN := H.le hle
    have SL := hL.le hle
    clear H hL
    by_cases hlk : k < E.length
    · obtain ⟨b5, off5, rfl, hb5, c5, -⟩ := SL.int_at (k := k) (by rw [nI_len]; exact hlk)
      rw [nI_at hlk] at c5
      have hx := HLT.out E[k] (List.getElem_mem hlk)
      have HD := Lib.hid (ex_drop (p := p) hlk)
      generalize E[k] = x at *
      have r1 := RN.c1
      have r0 := RN.c0
      have r3 := RN.c3
      have zR := RN.z
      obtain ⟨b2, off2, rfl, hb2, d0, d1, d2, d3, -⟩ := RN.T.lin_at hx
      have SH := Sl.of_own RN.H rfl (by decide) RN.okh
      obtain ⟨b7, off7, rfl, hb7, c7, -⟩ := SH.flt_at hf
      rw [HFC.out] at c7
      have HK := Lib.hid (knd_at hx)
      have HLA := Lib.hid (lnA_at hx)
      have hx0 : (0 : Int) ≤ (x : Int) := by omega
      have hxn : (x : Int) < (p.length : Int) := by omega
      have hk0 : (0 : Int) ≤ (k : Int) := by omega
      have hkn : (k : Int) < (E.length : Int) := by omega
      have hf0 : (0 : Int) ≤ (f : Int) := by omega
      have hfn : (f : Int) < (s.2.length : Int) := by omega
      have T := RN.S
      clear RN SL SH
      generalize p[x].depth = vd at *
      generalize p[x].kind = vk at *
      generalize p[x].a = va at *
      generalize p[x].b = vb at *
      have DL := (Le.refl wr).drew
      go_wp2_with fail
      refine wp_region_noPanic ?_
      refine wp_region_Z (fun w' => w'.cell? ⟨R, 1, none⟩ = some (.slice (some ⟨b2, off2, none⟩) p.length cap) ∧ w'.cell? ⟨b5, off5 + k, none⟩ = some (.int .i64 x) ∧ w'.cell? ⟨b2, off2 + x * 4, none⟩ = some (.int .i64 vd) ∧ w'.cell? ⟨b2, off2 + x * 4 + 1, none⟩ = some (.int .i64 vk) ∧ w'.cell? ⟨b2, off2 + x * 4 + 2, none⟩ = some (.int .i64 va) ∧ w'.cell? ⟨b2, off2 + x * 4 + 3, none⟩ = some (.int .i64 vb)) [] (by kernel_rfl) ?_
      replace r1 := (DL.cell zR).trans r1
      replace r0 := (DL.cell zR).trans r0
      replace r3 := (DL.cell zR).trans r3
      replace c5 := (DL.cell hb5).trans c5
      replace d0 := (DL.cell hb2).trans d0
      replace d1 := (DL.cell hb2).trans d1
      replace d2 := (DL.cell hb2).trans d2
      replace d3 := (DL.cell hb2).trans d3
      replace c7 := (DL.cell hb7).trans c7
      replace T := T.le DL
      replace hle := hle.trans DL
      replace zR := Nat.lt_of_lt_of_le zR DL.size
      replace hb5 := Nat.lt_of_lt_of_le hb5 DL.size
      replace hb2 := Nat.lt_of_lt_of_le hb2 DL.size
      replace hb7 := Nat.lt_of_lt_of_le hb7 DL.size
      clear DL
      generalize wr.drew = V at *
      refine wpAnyZ_take (i := 0) (v := ?_) rfl (by kernel_rfl) (fun _ _ _ h => h) (Or.inl ⟨by rfl, ?_⟩) (⟨r1, c5, d0, d1, d2, d3⟩) ?_
      rotate_left 1
      · (intro w hSw; (try dsimp only at hSw); go_simp; try with_reducible rfl)
      try simp only [Act.put, List.setIfInBounds_toArray, List.set_cons_zero, List.set_cons_succ]
      refine wpAnyZ_take (i := 1) (v := ?_) rfl (by kernel_rfl) (fun _ _ _ h => h) (Or.inl ⟨by rfl, ?_⟩) (⟨r1, c5, d0, d1, d2, d3⟩) ?_
      rotate_left 1
      · (intro w hSw; (try dsimp only at hSw); go_simp; try with_reducible rfl)
      try simp only [Act.put, List.setIfInBounds_toArray, List.set_cons_zero, List.set_cons_succ]
      refine wpAnyZ_take (i := 2) (v := ?_) rfl (by kernel_rfl) (fun _ _ _ h => h) (Or.inl ⟨by rfl, ?_⟩) (⟨r1, c5, d0, d1, d2, d3⟩) ?_
      rotate_left 1
      · (intro w hSw; (try dsimp only at hSw); go_simp; try with_reducible rfl)
      try simp only [Act.put, List.setIfInBounds_toArray, List.set_cons_zero, List.set_cons_succ]
      refine wpAnyZ_take (i := 3) (v := ?_) rfl (by kernel_rfl) (fun _ _ _ h => h) (Or.inl ⟨by rfl, ?_⟩) (⟨r1, c5, d0, d1, d2, d3⟩) ?_
      rotate_left 1
      · (intro w hSw; (try dsimp only at hSw); go_simp; try with_reducible rfl)
      try simp only [Act.put, List.setIfInBounds_toArray, List.set_cons_zero, List.set_cons_succ]
      refine wpAnyZ_take (i := 4) (v := ?_) rfl (by kernel_rfl) (fun _ _ _ h => h) (Or.inl ⟨by rfl, ?_⟩) (⟨r1, c5, d0, d1, d2, d3⟩) ?_
      rotate_left 1
      · (intro w hSw; (try dsimp only at hSw); go_simp; try with_reducible rfl)
      try simp only [Act.put, List.setIfInBounds_toArray, List.set_cons_zero, List.set_cons_succ]
      refine wpAnyZ_take (i := 5) (v := ?_) rfl (by kernel_rfl) (fun _ _ _ h => h) (Or.inl ⟨by rfl, ?_⟩) (⟨r1, c5, d0, d1, d2, d3⟩) ?_
      rotate_left 1
      · (intro w hSw; (try dsimp only at hSw); go_simp; try with_reducible rfl)
      try simp only [Act.put, List.setIfInBounds_toArray, List.set_cons_zero, List.set_cons_succ]
      refine wpAnyZ_take (i := 6) (v := ?_) rfl (by kernel_rfl) (fun _ _ _ h => h) (Or.inl ⟨by rfl, ?_⟩) (⟨r1, c5, d0, d1, d2, d3⟩) ?_
      rotate_left 1
      · (intro w hSw; (try dsimp only at hSw); go_simp; try with_reducible rfl)
      try simp only [Act.put, List.setIfInBounds_toArray, List.set_cons_zero, List.set_cons_succ]
      refine wpAnyZ_take (i := 7) (v := ?_) rfl (by kernel_rfl) (fun _ _ _ h => h) (Or.inl ⟨by rfl, ?_⟩) (⟨r1, c5, d0, d1, d2, d3⟩) ?_
      rotate_left 1
      · (intro w hSw; (try dsimp only at hSw); go_simp; try with_reducible rfl)
      try simp only [Act.put, List.setIfInBounds_toArray, List.set_cons_zero, List.set_cons_succ]
      refine wpAnyZ_take (i := 8) (v := ?_) rfl (by kernel_rfl) (fun _ _ _ h => h) (Or.inl ⟨by rfl, ?_⟩) (⟨r1, c5, d0, d1, d2, d3⟩) ?_
      rotate_left 1
      · (intro w hSw; (try dsimp only at hSw); go_simp; try with_reducible rfl)
      try simp only [Act.put, List.setIfInBounds_toArray, List.set_cons_zero, List.set_cons_succ]
      refine wpAnyZ_take (i := 9) (v := ?_) rfl (by kernel_rfl) (fun _ _ _ h => h) (Or.inl ⟨by rfl, ?_⟩) (⟨r1, c5, d0, d1, d2, d3⟩) ?_
      rotate_left 1
      · (intro w hSw; (try dsimp only at hSw); go_simp; try with_reducible rfl)
      try simp only [Act.put, List.setIfInBounds_toArray, List.set_cons_zero, List.set_cons_succ]
      refine wpAnyZ_one (i := 10) (by kernel_rfl) (ReadyZ.mk rfl (fun K hK => ?_))
      go_simp
      have LZ := Le.new V (.cells #[.int .i64 0, .int .i64 0, .int .i64 0, .int .i64 0] 42)
      refine hK.out _ _ (fun _ => ⟨(LZ.cell zR).trans r1, (LZ.cell hb5).trans c5, (LZ.cell hb2).trans d0, (LZ.cell hb2).trans d1, (LZ.cell hb2).trans d2, (LZ.cell hb2).trans d3⟩) ?_
      clear hK K
      try simp only [Act.put, List.setIfInBounds_toArray, List.set_cons_zero, List.set_cons_succ]
      clear LZ
      refine wpAnyZ_one (i := 11) (by kernel_rfl) (ReadyZ.mk rfl (fun K hK => ?_))
      go_simp
      have LY := Le.new V (.cells #[.int .i64 vd, .int .i64 vk, .int .i64 va, .int .i64 vb] 42)
      refine hK.out _ _ (fun _ => ⟨(LY.cell zR).trans r1, (LY.cell hb5).trans c5, (LY.cell hb2).trans d0, (LY.cell hb2).trans d1, (LY.cell hb2).trans d2, (LY.cell hb2).trans d3⟩) ?_
      clear hK K
      try simp only [Act.put, List.setIfInBounds_toArray, List.set_cons_zero, List.set_cons_succ]
      clear LY
      refine wpAnyZ_done (by kernel_rfl) ?_ _
      refine NoPanic.normal ?_
      have LN := Le.new V (.cells #[.int .i64 vd, .int .i64 vk, .int .i64 va, .int .i64 vb] 42)
      have zx : V.heap.size < (V.alloc (.cells #[.int .i64 vd, .int .i64 vk, .int .i64 va, .int .i64 vb] 42)).heap.size := by simp
      have x1 : (V.alloc (.cells #[.int .i64 vd, .int .i64 vk, .int .i64 va, .int .i64 vb] 42)).cell? ⟨V.heap.size, 1, none⟩ = some (.int .i64 vk) := by rw [World.cell?_alloc_at _ _ _ _ rfl]; rfl
      have x2 : (V.alloc (.cells #[.int .i64 vd, .int .i64 vk, .int .i64 va, .int .i64 vb] 42)).cell? ⟨V.heap.size, 2, none⟩ = some (.int .i64 va) := by rw [World.cell?_alloc_at _ _ _ _ rfl]; rfl
      replace r0 := (LN.cell zR).trans r0
      replace r3 := (LN.cell zR).trans r3
      replace c5 := (LN.cell hb5).trans c5
      replace c7 := (LN.cell hb7).trans c7
      replace T := T.le LN
      replace hle := hle.trans LN
      replace zR := Nat.lt_of_lt_of_le zR LN.size
      replace hb5 := Nat.lt_of_lt_of_le hb5 LN.size
      replace hb7 := Nat.lt_of_lt_of_le hb7 LN.size
      clear LN d0 d1 d2 d3 r1 hb2
      generalize V.alloc (.cells #[.int .i64 vd, .int .i64 vk, .int .i64 va, .int .i64 vb] 42) = W0 at *
      have e0 := cell_ext zR r0
      have e3 := cell_ext zR r3
      have e7 := cell_ext hb7 c7
      have ex1 := cell_ext zx x1
      have ex2 := cell_ext zx x2
      have HC := Lib.hid c5
      clear r0 r3 c7 x1 x2 c5
      by_cases h8 : vk = 8
      · subst h8
        have hca : ∀ (gg : Ext W0) (_ : True), Calls Try.prog 132 #[.agg #[.slice B m c], .int .i64 fc, .int .i64 va] (W0.ext gg) fun e w' => e = .returned (.bool (isAL xs fc va)) ∧ Le (W0.ext gg) w' := fun gg _ => isA_any B m c xs fc va _ (T.le (Le.ext W0 gg)) GT.out (by omega) (by omega)
        have HZ : Hid (ctE xs p fc (exF p (E.drop k)) = if isAL xs fc va = true then (x : Int) else ctE xs p fc (exF p (E.drop (k + 1)))) := by show _ = _; rw [HD.out, if_pos HK.out]; show (if isAL xs fc (lnA p x) = true then _ else _) = _; rw [HLA.out]
        clear HD
        generalize isAL xs fc va = qb at *
        go_wp2_with fail
        cases qb
        · have HF : Hid (ctE xs p fc (exF p (E.drop 1)) = ctE xs p fc (exF p (E.drop (k + 1)))) := by show _ = _; rw [HR.out, HZ.out, if_neg (by simp)]
          refine wp_region_ext (by kernel_rfl) (by kernel_rfl) ?_
          repeat (go_big_quiet_step (first | (go_at_call 132; exact Calls.ext_of (hca _ trivial))))
          refine wpQuiet_nil ?_
          intro _ hw'
          obtain ⟨gg, rfl⟩ := hw'
          have hw1 := Le.ext W0 gg
          generalize W0.ext gg = W2 at *
          go_wp2
          go_roundw
          case rel => exact ⟨k + 1, by omega, by omega, by go_num, HF.out, hle.trans hw1⟩
          case measure => simp [intOf]; omega
        · have HF := Lib.hid (HX.out _ (HR.out.trans (HZ.out.trans (if_pos rfl))))
          refine wp_region_ext (by kernel_rfl) (by kernel_rfl) ?_
          repeat (go_big_quiet_step (first | (go_at_call 132; exact Calls.ext_of (hca _ trivial))))
          refine wpQuiet_nil ?_
          intro _ hw'
          obtain ⟨gg, rfl⟩ := hw'
          have hw1 := Le.ext W0 gg
          have c5b := (hw1.cell hb5).trans HC.out
          generalize W0.ext gg = W2 at *
          go_wp2
          go_ret
          exact ⟨ret_int HF.out.symm, hle.trans hw1⟩
      · have h8b : (vk == 8) = false := by simpa using h8
        have h8c : decide (vk = 8) = false := decide_eq_false h8
        have HF : Hid (ctE xs p fc (exF p (E.drop 1)) = ctE xs p fc (exF p (E.drop (k + 1)))) := by show _ = _; rw [HR.out, HD.out, if_neg (by rw [HK.out]; exact h8)]
        clear HD
        go_wp2_with fail
        refine wp_region_ext (by kernel_rfl) (by kernel_rfl) ?_
        repeat (go_big_quiet_step (fail))
        refine wpQuiet_nil ?_
        intro _ hw'
        obtain ⟨gg, rfl⟩ := hw'
        have hw1 := Le.ext W0 gg
        generalize W0.ext gg = W2 at *
        go_wp2
        go_roundw
        case rel => exact ⟨k + 1, by omega, by omega, by go_num, HF.out, hle.trans hw1⟩
        case measure => simp [intOf]; omega
    · have HF := Lib.hid (HX.out _ (HR.out.trans (by rw [List.drop_eq_nil_of_le (by omega)]; rfl : ctE xs p fc (exF p (E.drop k)) = -1)))
      go_wp2
      go_ret
      exact ⟨ret_int HF.out.symm, hle⟩
end Go.Proofs.Ytlepgfccnfcagaa
