/- one text of LvM -/
import Derived.Test.YtonpgohigncjeaaCx11
import Derived.Test.YtonpgohigncjeaaCx15
namespace Go.Proofs.Ytonpgohigncjeaa
open Go.RowKit
set_option linter.unusedVariables false
section
/-- how exits end -/
def clE (s : LvS) : Int := if 0 ≤ s.2.2 then 2 else 0
def clV (s : LvS) : Int := if 0 ≤ s.2.2 then idx (reachL s.2.1 s.2.2) s.2.2 0 else 0
def clH (s : LvS) : List Flt := if 0 ≤ s.2.2 then isoL s.2.1 (reachL s.2.1 s.2.2) else []
set_option maxHeartbeats 8000000 in
set_option maxRecDepth 100000 in
theorem closed_any (B A : Option Addr) (m c n cap : Nat) (xs : List Cls) (L : List Xit) (has : Bool) (cl k0 : Int) (hcl : Enc.ok cl) (hk0 : Enc.ok k0) (hv : vxs xs L = true) (hkc : has = true → hasK xs cl = true) (w : World) (hT : Sl w B m c xs) (hL : Sl w A n cap L) :
    Calls Try.prog 41 #[.agg #[.slice B m c], .slice A n cap, .agg #[.bool has, .int .i64 cl, .int .i64 k0]] w fun e w' => ∃ lv hv, e = .returned (.agg #[lv, .int .i64 (clE (clX xs L (stS has cl k0))), .int .i64 (clV (clX xs L (stS has cl k0))), hv]) ∧
      Owd 3 w w' lv (clX xs L (stS has cl k0)).1 ∧ Owd 80 w w' hv (clH (clX xs L (stS has cl k0))) ∧ (∀ k, lv.ownBlock = some k → hv.ownBlock ≠ some k) ∧ Le w w' := by
  obtain ⟨hvt, hl8, hvx⟩ := vxs_iff.1 hv
  have g := good_of hvt
  obtain ⟨i0, hq, hz0, hz1, hz2⟩ := info_parts infoIntR
  obtain rfl := hL.len
  have CVO := Lib.hid (CvOk.start (xs := xs) (has := has) (cl := cl) (k := k0) hkc)
  have LW2 := ((Le.new w (.cells #[.slice B m c] 25)).trans (Le.new _ (.cells #[.bool has, .int .i64 cl, .int .i64 k0] 28))).trans (Le.new _ (.cells #[.slice none 0 0, .int .i64 0, .int .i64 0, .slice none 0 0] 36))
  have ct : (((w.alloc (.cells #[.slice B m c] 25)).alloc (.cells #[.bool has, .int .i64 cl, .int .i64 k0] 28)).alloc (.cells #[.slice none 0 0, .int .i64 0, .int .i64 0, .slice none 0 0] 36)).cell? ⟨w.heap.size, 0, none⟩ = some (.slice B m c) := by
    rw [World.cell?_alloc_past _ _ _ (by simp; omega), World.cell?_alloc_past _ _ _ (by simp), World.cell?_alloc_at _ _ _ _ rfl]; rfl
  have zW : (((w.alloc (.cells #[.slice B m c] 25)).alloc (.cells #[.bool has, .int .i64 cl, .int .i64 k0] 28)).alloc (.cells #[.slice none 0 0, .int .i64 0, .int .i64 0, .slice none 0 0] 36)).heap.size = w.heap.size + 1 + 1 + 1 := by simp
  have r0 : (((w.alloc (.cells #[.slice B m c] 25)).alloc (.cells #[.bool has, .int .i64 cl, .int .i64 k0] 28)).alloc (.cells #[.slice none 0 0, .int .i64 0, .int .i64 0, .slice none 0 0] 36)).cell? ⟨w.heap.size + 1 + 1, 0, none⟩ = some (.slice none 0 0) := by rw [World.cell?_alloc_at _ _ _ _ (by simp)]; rfl
  have r1 : (((w.alloc (.cells #[.slice B m c] 25)).alloc (.cells #[.bool has, .int .i64 cl, .int .i64 k0] 28)).alloc (.cells #[.slice none 0 0, .int .i64 0, .int .i64 0, .slice none 0 0] 36)).cell? ⟨w.heap.size + 1 + 1, 1, none⟩ = some (.int .i64 0) := by rw [World.cell?_alloc_at _ _ _ _ (by simp)]; rfl
  have r2 : (((w.alloc (.cells #[.slice B m c] 25)).alloc (.cells #[.bool has, .int .i64 cl, .int .i64 k0] 28)).alloc (.cells #[.slice none 0 0, .int .i64 0, .int .i64 0, .slice none 0 0] 36)).cell? ⟨w.heap.size + 1 + 1, 2, none⟩ = some (.int .i64 0) := by rw [World.cell?_alloc_at _ _ _ _ (by simp)]; rfl
  have r3 : (((w.alloc (.cells #[.slice B m c] 25)).alloc (.cells #[.bool has, .int .i64 cl, .int .i64 k0] 28)).alloc (.cells #[.slice none 0 0, .int .i64 0, .int .i64 0, .slice none 0 0] 36)).cell? ⟨w.heap.size + 1 + 1, 3, none⟩ = some (.slice none 0 0) := by rw [World.cell?_alloc_at _ _ _ _ (by simp)]; rfl
  have rf : ∀ o, (((w.alloc (.cells #[.slice B m c] 25)).alloc (.cells #[.bool has, .int .i64 cl, .int .i64 k0] 28)).alloc (.cells #[.slice none 0 0, .int .i64 0, .int .i64 0, .slice none 0 0] 36)).frozen? ⟨w.heap.size + 1 + 1, o, none⟩ = false := fun o => World.frozen?_alloc_at _ _ _ _ (by simp)
  have s0 : (((w.alloc (.cells #[.slice B m c] 25)).alloc (.cells #[.bool has, .int .i64 cl, .int .i64 k0] 28)).alloc (.cells #[.slice none 0 0, .int .i64 0, .int .i64 0, .slice none 0 0] 36)).cell? ⟨w.heap.size + 1, 0, none⟩ = some (.bool has) := by
    rw [World.cell?_alloc_past _ _ _ (by simp), World.cell?_alloc_at _ _ _ _ (by simp)]; rfl
  have s1 : (((w.alloc (.cells #[.slice B m c] 25)).alloc (.cells #[.bool has, .int .i64 cl, .int .i64 k0] 28)).alloc (.cells #[.slice none 0 0, .int .i64 0, .int .i64 0, .slice none 0 0] 36)).cell? ⟨w.heap.size + 1, 1, none⟩ = some (.int .i64 cl) := by
    rw [World.cell?_alloc_past _ _ _ (by simp), World.cell?_alloc_at _ _ _ _ (by simp)]; rfl
  have s2 : (((w.alloc (.cells #[.slice B m c] 25)).alloc (.cells #[.bool has, .int .i64 cl, .int .i64 k0] 28)).alloc (.cells #[.slice none 0 0, .int .i64 0, .int .i64 0, .slice none 0 0] 36)).cell? ⟨w.heap.size + 1, 2, none⟩ = some (.int .i64 k0) := by
    rw [World.cell?_alloc_past _ _ _ (by simp), World.cell?_alloc_at _ _ _ _ (by simp)]; rfl
  have CV0 := Cv.fresh (((w.alloc (.cells #[.slice B m c] 25)).alloc (.cells #[.bool has, .int .i64 cl, .int .i64 k0] 28)).alloc (.cells #[.slice none 0 0, .int .i64 0, .int .i64 0, .slice none 0 0] 36)) 103
  have HVX := Lib.hid hvx
  clear hvx
  cases has
  · go_enter Try.func41, Try.ntmps41
    go_wp2
    rw [zW] at CV0
    generalize ((w.alloc (.cells #[.slice B m c] 25)).alloc (.cells #[.bool false, .int .i64 cl, .int .i64 k0] 28)).alloc (.cells #[.slice none 0 0, .int .i64 0, .int .i64 0, .slice none 0 0] 36) = X2 at *
    generalize (X2.alloc (.cells #[] 3)).alloc (.cells #[.slice (some ⟨w.heap.size + 1 + 1 + 1, 0, none⟩) 0 0, .slice none 0 0, .int .i64 (-1)] 103) = W3 at *
    obtain ⟨S0, hS0⟩ : ∃ S0, S0 = stS false cl k0 := ⟨_, rfl⟩
    rw [← hS0] at CVO
    have HS00 := Lib.hid hS0
    have CVS : Cv X2 W3 (w.heap.size + 1 + 1 + 1 + 1) (.slice (some ⟨w.heap.size + 1 + 1 + 1, 0, none⟩) 0 0) (.slice none 0 0) S0.1 S0.2.1 S0.2.2 := by rw [hS0]; exact CV0
    clear CV0 hS0 s0 s1 s2
    go_loopw [8] (fun q wr => ∃ k : Nat, k ≤ L.length ∧ ∃ i : Int, i = (k : Int) - 1 ∧ q = .int .i64 i ∧ ∃ lv hv, Cv X2 wr (w.heap.size + 1 + 1 + 1 + 1) lv hv (clX xs (L.drop k) S0).1 (clX xs (L.drop k) S0).2.1 (clX xs (L.drop k) S0).2.2) (fun q _ => (intOf q + 1).toNat)
    case atStart => exact ⟨L.length, Nat.le_refl _, (L.length : Int) - 1, rfl, rfl, _, _, by rw [List.drop_length]; exact CVS⟩
    case round =>
      obtain ⟨k, hk, i, hi, rfl, lv, hv, CV⟩ := hrel
      clear CVS
      have OKs := CVO.out.all (L.drop k) (fun y hy => HVX.out y (List.mem_of_mem_drop hy))
      have hdl : (L.drop k).length ≤ 8 := by rw [List.length_drop]; omega
      obtain ⟨AL, cL, rfl⟩ := own_form CV.O
      obtain ⟨AH, cH, rfl⟩ := own_form CV.H
      have LR := LW2.trans CV.G
      rcases Nat.eq_zero_or_pos k with hk | hk
      · subst hk
        have hin : ¬ (0 : Int) ≤ i := by omega
        have hinb : decide ((0 : Int) ≤ i) = false := decide_eq_false hin
        clear hi
        rw [List.drop_zero] at CV OKs
        obtain ⟨s, hsx⟩ : ∃ s, s = clX xs L S0 := ⟨_, rfl⟩
        rw [← hsx] at CV OKs
        have HSX : Hid (clX xs L (stS false cl k0) = s) := by show _ = _; rw [hsx, HS00.out]
        clear hsx
        obtain ⟨lg, hs, fa⟩ := s
        dsimp only at CV
        obtain ⟨⟨ol, oh, olo, ohi⟩, -, -, -⟩ := id OKs
        dsimp only at ol oh olo ohi
        have hLK := OKs.lnk
        dsimp only at hLK
        have c0 := CV.b.c0
        have c1 := CV.b.c1
        have c2 := CV.b.c2
        have LN := Le.new wr (.cells #[.slice AL lg.length cL, .int .i64 0, .int .i64 0, .slice none 0 0] 36)
        have ZR : B4 X2 (w.heap.size + 1 + 1) (.slice none 0 0) (.int .i64 0) (.int .i64 0) (.slice none 0 0) := ⟨by omega, r0, r1, r2, r3, rf⟩
        have Z5 := (ZR.le CV.G).le LN
        have T5 := B4.new wr (.slice AL lg.length cL) (.int .i64 0) (.int .i64 0) (.slice none 0 0) 36
        have hx2 := CV.G.size
        have hCl := CV.b.lt
        have O5 := own_le CV.O LN
        have HLT := Lib.hid (fun k e => (CV.O.lt k e).2)
        have c0' := (LN.cell hCl).trans c0
        have c1' := (LN.cell hCl).trans c1
        have c2' := (LN.cell hCl).trans c2
        have L5 := LR.trans LN
        have SH5 := (Sl.of_own CV.H rfl (by decide) CV.okh).le LN
        have HOKL := Lib.hid CV.okl
        have hbb := LW2.size
        have nlr : (Value.slice AL lg.length cL).ownBlock ≠ some (w.heap.size + 1 + 1) := fun e => by have := (CV.O.lt _ e).1; omega
        have nlt : (Value.slice AL lg.length cL).ownBlock ≠ some wr.heap.size := fun e => by have := HLT.out _ e; omega
        clear CV ZR LN r0 r1 r2 r3 rf LR OKs
        by_cases hf0 : 0 ≤ fa
        · have hf0b : decide ((0 : Int) ≤ fa) = true := decide_eq_true hf0
          have HE : Hid (clE (lg, hs, fa) = 2 ∧ clV (lg, hs, fa) = idx (reachL hs fa) fa 0 ∧ clH (lg, hs, fa) = isoL hs (reachL hs fa)) := by show _ ∧ _ ∧ _; unfold clE clV clH; rw [if_pos hf0, if_pos hf0, if_pos hf0]; exact ⟨rfl, rfl, rfl⟩
          go_wp2_with fail
          generalize wr.alloc _ = W5 at *
          refine (sIsolated_any AH hs.length cH hs fa W5 SH5 hLK hf0 ohi (by omega)).mono ?_
          rintro e w5 ⟨v5, rfl, D5, hl5⟩
          generalize idx (reachL hs fa) fa 0 = ix at *
          obtain ⟨A5, q5, rfl⟩ := own_form D5.row
          generalize (isoL hs (reachL hs fa)) = K5 at *
          have LN6 := Le.new w5 (.cells #[.slice A5 K5.length q5] 34)
          have T6 := (T5.le hl5).le LN6
          have Z6 := (Z5.le hl5).le LN6
          have hw6 : (w5.alloc (.cells #[.slice A5 K5.length q5] 34)).cell? ⟨w5.heap.size, 0, none⟩ = some (.slice A5 K5.length q5) := by rw [World.cell?_alloc_at _ _ _ _ rfl]; rfl
          have D6 := D5.le LN6
          have O6 := own_le (own_le O5 hl5) LN6
          have L6 := (L5.trans hl5).trans LN6
          have h56 := hl5.size
          have hwl := T5.lt
          have hn65 : wr.heap.size ≠ w5.heap.size := by omega
          have hn26 : wr.heap.size ≠ w.heap.size + 1 + 1 := by omega
          have n5 : (Value.slice A5 K5.length q5).ownBlock ≠ some wr.heap.size := fun e => by have := (D5.row.lt _ e).1; omega
          have n5r : (Value.slice A5 K5.length q5).ownBlock ≠ some (w.heap.size + 1 + 1) := fun e => by have := (D5.row.lt _ e).1; omega
          have HAP : Hid (∀ k, (Value.slice AL lg.length cL).ownBlock = some k → (Value.slice A5 K5.length q5).ownBlock ≠ some k) := fun k e e2 => by have := HLT.out k e; have := (D5.row.lt k e2).1; omega
          have T61 := T6.set1 (.int .i64 2)
          have T63 := T61.set3 (.slice A5 K5.length q5)
          have T62 := T63.set2 (.int .i64 ix)
          have Z61 := ((Z6.far hn26 1 (.int .i64 2)).far hn26 3 (.slice A5 K5.length q5)).far hn26 2 (.int .i64 ix)
          have ZA := Lib.hid (Z61.all (.slice AL lg.length cL) (.int .i64 2) (.int .i64 ix) (.slice A5 K5.length q5))
          have OA := Lib.hid (row_all (b := w.heap.size + 1 + 1) (kept_set (kept_set (kept_set O6 nlt 1 (.int .i64 2)) nlt 3 (.slice A5 K5.length q5)) nlt 2 (.int .i64 ix)) nlr (.slice AL lg.length cL) (.int .i64 2) (.int .i64 ix) (.slice A5 K5.length q5))
          have DA := Lib.hid (row_all (b := w.heap.size + 1 + 1) (kept_set (kept_set (kept_set D6.row n5 1 (.int .i64 2)) n5 3 (.slice A5 K5.length q5)) n5 2 (.int .i64 ix)) n5r (.slice AL lg.length cL) (.int .i64 2) (.int .i64 ix) (.slice A5 K5.length q5))
          have DOK := Lib.hid D6.ok
          have hwr : w.heap.size ≤ wr.heap.size := by omega
          have hw2 : w.heap.size ≤ w.heap.size + 1 + 1 := by omega
          have LA := Lib.hid (((((((L6.setCell (b := wr.heap.size) (o := 1) hwr (.int .i64 2)).setCell (b := wr.heap.size) (o := 3) hwr (.slice A5 K5.length q5)).setCell (b := wr.heap.size) (o := 2) hwr (.int .i64 ix)).setCell (b := w.heap.size + 1 + 1) (o := 0) hw2 (.slice AL lg.length cL)).setCell (b := w.heap.size + 1 + 1) (o := 1) hw2 (.int .i64 2)).setCell (b := w.heap.size + 1 + 1) (o := 2) hw2 (.int .i64 ix)).setCell (b := w.heap.size + 1 + 1) (o := 3) hw2 (.slice A5 K5.length q5))
          have HW56 : Hid (w.heap.size ≤ W5.heap.size) := L5.size
          have a1 := T6.c1
          have a1f := T6.f 1
          have a3 := T61.c3
          have a3f := T61.f 3
          have a2 := T63.c2
          have a2f := T63.f 2
          have g0 := T62.c0
          have g1 := T62.c1
          have g2 := T62.c2
          have g3 := T62.c3
          have y1 := (cell_set_other (v := .int .i64 2) (o := 1) (o' := 0) (.inl hn65)).trans hw6
          have z0 := Z61.c0
          have z0f := Z61.f 0
          have Z62 := Z61.set0 (.slice AL lg.length cL)
          have z1 := Z62.c1
          have z1f := Z62.f 1
          have Z63 := Z62.set1 (.int .i64 2)
          have z2 := Z63.c2
          have z2f := Z63.f 2
          have Z64 := Z63.set2 (.int .i64 ix)
          have z3 := Z64.c3
          have z3f := Z64.f 3
          clear T5 Z5 T6 Z6 T61 T63 T62 Z61 Z62 Z63 Z64 O5 O6 D5 D6 L5 L6 LN6 SH5 hLK nlr nlt n5 n5r hl5 h56 hwl
          go_wp2
          trace_state
          have e0 := ZA.out.c0
          have e1 := ZA.out.c1
          have e2 := ZA.out.c2
          have e3 := ZA.out.c3
          refine bodyPost_ret (v := .agg #[.slice AL lg.length cL, .int .i64 2, .int .i64 ix, .slice A5 K5.length q5]) (by simp [results, Try.results41, go_sem, e0, e1, e2, e3]) rfl ?_
          rw [HSX.out, HE.out.1, HE.out.2.1, HE.out.2.2]
          exact ⟨_, _, rfl, ⟨own_mono OA.out hbb, HOKL.out⟩, ⟨own_mono DA.out HW56.out, DOK.out⟩, HAP.out, LA.out⟩
        · have hf0b : decide ((0 : Int) ≤ fa) = false := decide_eq_false hf0
          have HE : Hid (clE (lg, hs, fa) = 0 ∧ clV (lg, hs, fa) = 0 ∧ clH (lg, hs, fa) = []) := by show _ ∧ _ ∧ _; unfold clE clV clH; rw [if_neg hf0, if_neg hf0, if_neg hf0]; exact ⟨rfl, rfl, rfl⟩
          have ZA := Lib.hid (Z5.all (.slice AL lg.length cL) (.int .i64 0) (.int .i64 0) (.slice none 0 0))
          have OA := Lib.hid (row_all (b := w.heap.size + 1 + 1) O5 nlr (.slice AL lg.length cL) (.int .i64 0) (.int .i64 0) (.slice none 0 0))
          have hw2 : w.heap.size ≤ w.heap.size + 1 + 1 := by omega
          have LA := Lib.hid ((((L5.setCell (b := w.heap.size + 1 + 1) (o := 0) hw2 (.slice AL lg.length cL)).setCell (b := w.heap.size + 1 + 1) (o := 1) hw2 (.int .i64 0)).setCell (b := w.heap.size + 1 + 1) (o := 2) hw2 (.int .i64 0)).setCell (b := w.heap.size + 1 + 1) (o := 3) hw2 (.slice none 0 0))
          have z0 := Z5.c0
          have z0f := Z5.f 0
          have Z62 := Z5.set0 (.slice AL lg.length cL)
          have z1 := Z62.c1
          have z1f := Z62.f 1
          have Z63 := Z62.set1 (.int .i64 0)
          have z2 := Z63.c2
          have z2f := Z63.f 2
          have Z64 := Z63.set2 (.int .i64 0)
          have z3 := Z64.c3
          have z3f := Z64.f 3
          clear T5 Z5 Z62 Z63 Z64 O5 L5 SH5 hLK nlr nlt
          go_wp2
          have e0 := ZA.out.c0
          have e1 := ZA.out.c1
          have e2 := ZA.out.c2
          have e3 := ZA.out.c3
          refine bodyPost_ret (v := .agg #[.slice AL lg.length cL, .int .i64 0, .int .i64 0, .slice none 0 0]) (by simp [results, Try.results41, go_sem, e0, e1, e2, e3]) rfl ?_
          rw [HSX.out, HE.out.1, HE.out.2.1, HE.out.2.2]
          exact ⟨_, _, rfl, ⟨own_mono OA.out hbb, HOKL.out⟩, Owd.nil _ _ _, (fun k _ e => by simp [Value.ownBlock] at e), LA.out⟩
      · obtain ⟨j, rfl⟩ : ∃ j, k = j + 1 := ⟨k - 1, by omega⟩
        have e : i = (j : Int) := by omega
        subst e
        have hj : j < L.length := by omega
        have hj0 : (0 : Int) ≤ (j : Int) := by omega
        have hjn : (j : Int) < (L.length : Int) := by omega
        have HD := clX_drop xs L S0 hj
        have hxo := HVX.out L[j] (List.getElem_mem hj)
        obtain ⟨b5, off5, rfl, hb5, d0, d1, d2, hx0, hx1, hx2, hx3, hx4, hx5⟩ := (hL.le LR).xit_at hj
        generalize clX xs (L.drop (j + 1)) S0 = s at *
        obtain ⟨lg, hs, fa⟩ := s
        dsimp only at CV
        obtain ⟨⟨ol, oh, olo, ohi⟩, ocx, ocl, oca⟩ := id OKs
        dsimp only at ol oh olo ohi ocx ocl oca
        generalize L[j] = x at *
        obtain ⟨vk, va, vb⟩ := x
        dsimp only at d0 d1 d2 hx0 hx1 hx2 hx3 hx4 hx5
        have hva : Enc.ok va := ⟨hx2, hx3⟩
        have CV1 := CV.le (Le.new wr (.cells #[.int .i64 vk, .int .i64 va, .int .i64 vb] 42))
        have B9 := B3.new wr (.int .i64 vk) (.int .i64 va) (.int .i64 vb) 42
        have ct1 := (CV1.G.cell (show w.heap.size < X2.heap.size by omega)).trans ct
        have zt := Nat.lt_of_lt_of_le (show w.heap.size < X2.heap.size by omega) CV1.G.size
        have STT := hT.le (LW2.trans CV1.G)
        clear CV hi hk
        have c0 := CV1.b.c0
        have c1 := CV1.b.c1
        have c2 := CV1.b.c2
        have cf := CV1.b.f 0
        have x0 := B9.c0
        have x1 := B9.c1
        have x2 := B9.c2
        by_cases t0 : vk = 0 ∨ (vk = 1 ∧ 0 ≤ fa)
        · have HS : Hid (clX xs (L.drop j) S0 = (lg ++ [va], hs, fa)) := by
            show _ = _
            rw [HD]
            unfold stX
            rcases t0 with h | ⟨h, h2⟩
            · rw [if_neg (by show ¬ vk = 1; omega), if_neg (by show ¬ vk = 2; omega), if_neg (by show ¬ vk = 3; omega)]
            · rw [if_pos h, if_pos h2]
          clear HD
          rcases t0 with rfl | ⟨rfl, h2⟩
          · have HTB : X2.heap.size ≤ ((wr.alloc (.cells #[.int .i64 _, .int .i64 va, .int .i64 vb] 42)).alloc (.cells #[.int .i64 va] 3)).heap.size := Nat.le_trans CV1.G.size (Le.new _ _).size
            go_wp2_with (at_builtin; refine wpList_append_sl rfl _ _ 31 rfl X2.heap.size 3 i0 _ 8 Try.underlying31 hq hz0 hz1 hz2 rfl _ lg.length lg rfl (CV1.O.alloc _) _ 1 1 [va] rfl (sl_one va rfl hva (by simp)) (by unfold maxLen; omega) (by omega) HTB ?_; intro v1 w4 O4 hg4 hbl; obtain ⟨A1, k1, rfl⟩ := own_form O4; have HC := Lib.hid (CV1.told (Le.new _ _) hva O4 hg4 hbl); have k2 := hg4.cell (a := ⟨w.heap.size + 1 + 1 + 1 + 1, 0, none⟩) (((Le.new _ _).cell CV1.b.lt).trans CV1.b.c0) (fun e => CV1.nl e.symm); have k3 : w4.frozen? ⟨w.heap.size + 1 + 1 + 1 + 1, 0, none⟩ = false := (World.frozen?_of_block (a := ⟨w.heap.size + 1 + 1 + 1 + 1, 0, none⟩) (hg4.block (w.heap.size + 1 + 1 + 1 + 1) (Nat.lt_of_lt_of_le CV1.b.lt (Le.new _ _).size) (fun e => CV1.nl e.symm))).trans (((Le.new _ _).frozen CV1.b.lt).trans (CV1.b.f 0)); clear O4 hg4 hbl)
            go_roundw
            case rel =>
              refine ⟨j, by omega, (j : Int) - 1, rfl, by go_num, ?_⟩
              rw [HS.out]
              exact ⟨_, _, HC.out⟩
            case measure => first | (simp [intOf]; done) | (simp [intOf]; omega)
          · have h2b : decide ((0 : Int) ≤ fa) = true := decide_eq_true h2
            have HTB : X2.heap.size ≤ ((wr.alloc (.cells #[.int .i64 _, .int .i64 va, .int .i64 vb] 42)).alloc (.cells #[.int .i64 va] 3)).heap.size := Nat.le_trans CV1.G.size (Le.new _ _).size
            go_wp2_with (at_builtin; refine wpList_append_sl rfl _ _ 31 rfl X2.heap.size 3 i0 _ 8 Try.underlying31 hq hz0 hz1 hz2 rfl _ lg.length lg rfl (CV1.O.alloc _) _ 1 1 [va] rfl (sl_one va rfl hva (by simp)) (by unfold maxLen; omega) (by omega) HTB ?_; intro v1 w4 O4 hg4 hbl; obtain ⟨A1, k1, rfl⟩ := own_form O4; have HC := Lib.hid (CV1.told (Le.new _ _) hva O4 hg4 hbl); have k2 := hg4.cell (a := ⟨w.heap.size + 1 + 1 + 1 + 1, 0, none⟩) (((Le.new _ _).cell CV1.b.lt).trans CV1.b.c0) (fun e => CV1.nl e.symm); have k3 : w4.frozen? ⟨w.heap.size + 1 + 1 + 1 + 1, 0, none⟩ = false := (World.frozen?_of_block (a := ⟨w.heap.size + 1 + 1 + 1 + 1, 0, none⟩) (hg4.block (w.heap.size + 1 + 1 + 1 + 1) (Nat.lt_of_lt_of_le CV1.b.lt (Le.new _ _).size) (fun e => CV1.nl e.symm))).trans (((Le.new _ _).frozen CV1.b.lt).trans (CV1.b.f 0)); clear O4 hg4 hbl)
            go_roundw
            case rel =>
              refine ⟨j, by omega, (j : Int) - 1, rfl, by go_num, ?_⟩
              rw [HS.out]
              exact ⟨_, _, HC.out⟩
            case measure => first | (simp [intOf]; done) | (simp [intOf]; omega)
        · by_cases t1 : vk = 3
          · subst t1
            have HS : Hid (clX xs (L.drop j) S0 = (lg, hs ++ [⟨va, vb, -1, fa, false⟩], (hs.length : Int))) := by show _ = _; rw [HD]; unfold stX; rw [if_neg (by show ¬ (3 : Int) = 1; omega), if_neg (by show ¬ (3 : Int) = 2; omega), if_pos rfl]
            clear HD
            go_wp2_with fail
            generalize wr.alloc _ = W1 at *
            have Et := cell_ext zt ct1
            have E0 := cell_ext CV1.b.lt c0
            have E1 := cell_ext CV1.b.lt c1
            have E2 := cell_ext CV1.b.lt c2
            have F0 := cell_ext B9.lt x0
            have F1 := cell_ext B9.lt x1
            have F2 := cell_ext B9.lt x2
            refine wp_region_ext (by kernel_rfl) (by kernel_rfl) ?_
            repeat (go_big_quiet_step (fail))
            refine wpQuiet_nil ?_
            intro _ hw'
            obtain ⟨gg, rfl⟩ := hw'
            have CV2 := CV1.le (Le.ext _ gg)
            have B92 := B9.le (Le.ext _ gg)
            generalize W1.ext gg = W4 at *
            have n0 := B92.c0
            have n1 := B92.c1
            have n2 := B92.c2
            have SH := Sl.of_own CV2.H rfl (by decide) CV2.okh
            have m0 := CV2.b.c0
            have m1 := CV2.b.c1
            have m2 := CV2.b.c2
            go_wp2_with fail
            refine (newFault_any AH hs.length cH hs fa va vb ⟨hx2, hx3⟩ ⟨hx4, hx5⟩ ocx olo ohi (by omega) AL lg.length cL W4 SH).mono ?_
            rintro e w5 ⟨A', q', rfl, D, hl5⟩
            have HC := Lib.hid (CV2.put hl5 D (hs.length : Int))
            have BB := CV2.b.le hl5
            have p0 := BB.c0
            have pf0 := BB.f 0
            have BB0 := BB.set0 (.slice AL lg.length cL)
            have p1 := BB0.c1
            have pf1 := BB0.f 1
            have BB1 := BB0.set1 (.slice A' (hs.length + 1) q')
            have p2 := BB1.c2
            have pf2 := BB1.f 2
            clear BB BB0 BB1 D hl5 SH CV2 m0 m1 m2
            go_wp2
            go_roundw
            case rel =>
              refine ⟨j, by omega, (j : Int) - 1, rfl, by go_num, ?_⟩
              rw [HS.out]
              exact ⟨_, _, HC.out⟩
            case measure => first | (simp [intOf]; done) | (simp [intOf]; omega)
          · by_cases t2 : vk = 2
            · subst t2
              by_cases h2 : 0 ≤ fa
              · have h2b : decide ((0 : Int) ≤ fa) = true := decide_eq_true h2
                obtain ⟨f, rfl⟩ : ∃ f : Nat, fa = (f : Int) := ⟨fa.toNat, by omega⟩
                have hf : f < hs.length := by omega
                rw [xOk_2 rfl, Bool.and_eq_true] at hxo
                have hta := tk_AL OKs hvt hxo.1 (k := f) hf rfl
                dsimp only at hta
                have hcf := hasK_iff.1 (ocl f hf)
                have SH := Sl.of_own CV1.H rfl (by decide) CV1.okh
                obtain ⟨b6, off6, rfl, hb6, g0, -⟩ := SH.flt_at hf
                have hfn : (f : Int) < (hs.length : Int) := by omega
                have HS0 : Hid (clX xs (L.drop j) S0 = (lg, hs, if isAL xs hs[f].cls va = true then -1 else (f : Int))) := by show _ = _; rw [HD, ← hta]; unfold stX; rw [if_neg (by show ¬ (2 : Int) = 1; omega), if_pos rfl]
                clear HD hta SH
                generalize hs[f].cls = vc at *
                obtain ⟨q2, HQ⟩ : ∃ q2, Hid (isAL xs vc va = q2) := ⟨_, rfl⟩
                rw [HQ.out] at HS0
                cases q2
                · have HS : Hid (clX xs (L.drop j) S0 = (lg, hs, (f : Int))) := HS0.out
                  clear HS0
                  go_wp2_with fail
                  generalize wr.alloc _ = W1 at *
                  have Et := cell_ext zt ct1
                  have E0 := cell_ext CV1.b.lt c0
                  have E1 := cell_ext CV1.b.lt c1
                  have E2 := cell_ext CV1.b.lt c2
                  have F0 := cell_ext B9.lt x0
                  have F1 := cell_ext B9.lt x1
                  have F2 := cell_ext B9.lt x2
                  have E6 := cell_ext (Nat.lt_of_lt_of_le hb6 (Nat.le_refl _)) g0
                  have hca : ∀ (g1 : Ext W1) (_ : True), Calls Try.prog 65 #[.agg #[.slice B m c], .int .i64 vc, .int .i64 va] (W1.ext g1) fun e w' => e = .returned (.bool false) ∧ Le (W1.ext g1) w' := fun g1 _ => Calls.val (isA_any B m c xs vc va _ (STT.le (Le.ext W1 g1)) g (by omega) (by omega)) (by rw [HQ.out])
                  refine wp_region_ext (by kernel_rfl) (by kernel_rfl) ?_
                  repeat (go_big_quiet_step (first | (go_at_call 65; with_reducible exact Calls.ext_of (hca _ trivial))))
                  refine wpQuiet_nil ?_
                  intro _ hw'
                  obtain ⟨gg, rfl⟩ := hw'
                  have CV2 := CV1.le (Le.ext _ gg)
                  have B92 := B9.le (Le.ext _ gg)
                  generalize W1.ext gg = W4 at *
                  have n0 := B92.c0
                  have n1 := B92.c1
                  have n2 := B92.c2
                  have HC := Lib.hid CV2
                  go_wp2
                  go_roundw
                  case rel =>
                    refine ⟨j, by omega, (j : Int) - 1, rfl, by go_num, ?_⟩
                    rw [HS.out]
                    exact ⟨_, _, HC.out⟩
                  case measure => first | (simp [intOf]; done) | (simp [intOf]; omega)
                · have HS : Hid (clX xs (L.drop j) S0 = (lg, hs, -1)) := HS0.out
                  clear HS0
                  go_wp2_with fail
                  generalize wr.alloc _ = W1 at *
                  have Et := cell_ext zt ct1
                  have E0 := cell_ext CV1.b.lt c0
                  have E1 := cell_ext CV1.b.lt c1
                  have E2 := cell_ext CV1.b.lt c2
                  have F0 := cell_ext B9.lt x0
                  have F1 := cell_ext B9.lt x1
                  have F2 := cell_ext B9.lt x2
                  have E6 := cell_ext (Nat.lt_of_lt_of_le hb6 (Nat.le_refl _)) g0
                  have hca : ∀ (g1 : Ext W1) (_ : True), Calls Try.prog 65 #[.agg #[.slice B m c], .int .i64 vc, .int .i64 va] (W1.ext g1) fun e w' => e = .returned (.bool true) ∧ Le (W1.ext g1) w' := fun g1 _ => Calls.val (isA_any B m c xs vc va _ (STT.le (Le.ext W1 g1)) g (by omega) (by omega)) (by rw [HQ.out])
                  refine wp_region_ext (by kernel_rfl) (by kernel_rfl) ?_
                  repeat (go_big_quiet_step (first | (go_at_call 65; with_reducible exact Calls.ext_of (hca _ trivial))))
                  refine wpQuiet_nil ?_
                  intro _ hw'
                  obtain ⟨gg, rfl⟩ := hw'
                  have CV2 := CV1.le (Le.ext _ gg)
                  have B92 := B9.le (Le.ext _ gg)
                  generalize W1.ext gg = W4 at *
                  have n0 := B92.c0
                  have n1 := B92.c1
                  have n2 := B92.c2
                  have m2 := CV2.b.c2
                  have mf := CV2.b.f 2
                  have HC := Lib.hid (CV2.setF (-1))
                  clear CV2
                  go_wp2
                  go_roundw
                  case rel =>
                    refine ⟨j, by omega, (j : Int) - 1, rfl, by go_num, ?_⟩
                    rw [HS.out]
                    exact ⟨_, _, HC.out⟩
                  case measure => first | (simp [intOf]; done) | (simp [intOf]; omega)
              · have h2b : decide ((0 : Int) ≤ fa) = false := decide_eq_false h2
                have HS : Hid (clX xs (L.drop j) S0 = (lg, hs, fa)) := by show _ = _; rw [HD]; unfold stX tkX; rw [if_neg (by show ¬ (2 : Int) = 1; omega), if_pos rfl, if_neg h2]
                clear HD
                go_wp2_with fail
                generalize wr.alloc _ = W1 at *
                have Et := cell_ext zt ct1
                have E0 := cell_ext CV1.b.lt c0
                have E1 := cell_ext CV1.b.lt c1
                have E2 := cell_ext CV1.b.lt c2
                have F0 := cell_ext B9.lt x0
                have F1 := cell_ext B9.lt x1
                have F2 := cell_ext B9.lt x2
                refine wp_region_ext (by kernel_rfl) (by kernel_rfl) ?_
                repeat (go_big_quiet_step (fail))
                refine wpQuiet_nil ?_
                intro _ hw'
                obtain ⟨gg, rfl⟩ := hw'
                have CV2 := CV1.le (Le.ext _ gg)
                have B92 := B9.le (Le.ext _ gg)
                generalize W1.ext gg = W4 at *
                have n0 := B92.c0
                have n1 := B92.c1
                have n2 := B92.c2
                have HC := Lib.hid CV2
                go_wp2
                go_roundw
                case rel =>
                  refine ⟨j, by omega, (j : Int) - 1, rfl, by go_num, ?_⟩
                  rw [HS.out]
                  exact ⟨_, _, HC.out⟩
                case measure => first | (simp [intOf]; done) | (simp [intOf]; omega)
            · by_cases t3 : vk = 1
              · subst t3
                have h2 : ¬ 0 ≤ fa := fun h => t0 (.inr ⟨rfl, h⟩)
                have h2b : decide ((0 : Int) ≤ fa) = false := decide_eq_false h2
                have HS : Hid (clX xs (L.drop j) S0 = (lg, hs, fa)) := by show _ = _; rw [HD]; unfold stX; rw [if_pos rfl, if_neg h2]
                clear HD
                go_wp2_with fail
                generalize wr.alloc _ = W1 at *
                have Et := cell_ext zt ct1
                have E0 := cell_ext CV1.b.lt c0
                have E1 := cell_ext CV1.b.lt c1
                have E2 := cell_ext CV1.b.lt c2
                have F0 := cell_ext B9.lt x0
                have F1 := cell_ext B9.lt x1
                have F2 := cell_ext B9.lt x2
                refine wp_region_ext (by kernel_rfl) (by kernel_rfl) ?_
                repeat (go_big_quiet_step (fail))
                refine wpQuiet_nil ?_
                intro _ hw'
                obtain ⟨gg, rfl⟩ := hw'
                have CV2 := CV1.le (Le.ext _ gg)
                have B92 := B9.le (Le.ext _ gg)
                generalize W1.ext gg = W4 at *
                have n0 := B92.c0
                have n1 := B92.c1
                have n2 := B92.c2
                have HC := Lib.hid CV2
                go_wp2
                go_roundw
                case rel =>
                  refine ⟨j, by omega, (j : Int) - 1, rfl, by go_num, ?_⟩
                  rw [HS.out]
                  exact ⟨_, _, HC.out⟩
                case measure => first | (simp [intOf]; done) | (simp [intOf]; omega)
              · exfalso
                unfold xOk at hxo
                rw [if_neg (by show ¬ (vk = 0 ∨ vk = 1); omega), if_neg (by show ¬ vk = 2; omega), if_neg (by show ¬ vk = 3; omega)] at hxo
                cases hxo
  · go_enter Try.func41, Try.ntmps41
    go_wp2_with fail
    rw [zW] at CV0
    generalize ((w.alloc (.cells #[.slice B m c] 25)).alloc (.cells #[.bool true, .int .i64 cl, .int .i64 k0] 28)).alloc (.cells #[.slice none 0 0, .int .i64 0, .int .i64 0, .slice none 0 0] 36) = X2 at *
    generalize (X2.alloc (.cells #[] 3)).alloc (.cells #[.slice (some ⟨w.heap.size + 1 + 1 + 1, 0, none⟩) 0 0, .slice none 0 0, .int .i64 (-1)] 103) = W3 at *
    obtain ⟨S0, hS0⟩ : ∃ S0, S0 = stS true cl k0 := ⟨_, rfl⟩
    rw [← hS0] at CVO
    have HS00 := Lib.hid hS0
    refine (newFault0_any cl k0 ⟨hcl.1, hcl.2⟩ ⟨hk0.1, hk0.2⟩ (some ⟨w.heap.size + 1 + 1 + 1, 0, none⟩) 0 0 W3).mono ?_
    rintro e w5 ⟨A', q', rfl, D, hl5⟩
    have CVN := CV0.put hl5 D 0
    have BB := CV0.b.le hl5
    have p0 := BB.c0
    have pf0 := BB.f 0
    have BB0 := BB.set0 (.slice (some ⟨w.heap.size + 1 + 1 + 1, 0, none⟩) 0 0)
    have p1 := BB0.c1
    have pf1 := BB0.f 1
    have BB1 := BB0.set1 (.slice A' 1 q')
    have p2 := BB1.c2
    have pf2 := BB1.f 2
    clear BB BB0 BB1 D hl5 CV0 s0 s1 s2
    go_wp2
    generalize ((w5.setCell _ _).setCell _ _).setCell _ _ = W7 at *
    have CVS : Cv X2 W7 (w.heap.size + 1 + 1 + 1 + 1) (.slice (some ⟨w.heap.size + 1 + 1 + 1, 0, none⟩) 0 0) (.slice A' 1 q') S0.1 S0.2.1 S0.2.2 := by rw [hS0]; exact CVN
    clear CVN hS0 p0 pf0 p1 pf1 p2 pf2
    go_loopw [8] (fun q wr => ∃ k : Nat, k ≤ L.length ∧ ∃ i : Int, i = (k : Int) - 1 ∧ q = .int .i64 i ∧ ∃ lv hv, Cv X2 wr (w.heap.size + 1 + 1 + 1 + 1) lv hv (clX xs (L.drop k) S0).1 (clX xs (L.drop k) S0).2.1 (clX xs (L.drop k) S0).2.2) (fun q _ => (intOf q + 1).toNat)
    case atStart => exact ⟨L.length, Nat.le_refl _, (L.length : Int) - 1, rfl, rfl, _, _, by rw [List.drop_length]; exact CVS⟩
    case round =>
      obtain ⟨k, hk, i, hi, rfl, lv, hv, CV⟩ := hrel
      clear CVS
      have OKs := CVO.out.all (L.drop k) (fun y hy => HVX.out y (List.mem_of_mem_drop hy))
      have hdl : (L.drop k).length ≤ 8 := by rw [List.length_drop]; omega
      obtain ⟨AL, cL, rfl⟩ := own_form CV.O
      obtain ⟨AH, cH, rfl⟩ := own_form CV.H
      have LR := LW2.trans CV.G
      rcases Nat.eq_zero_or_pos k with hk | hk
      · subst hk
        have hin : ¬ (0 : Int) ≤ i := by omega
        have hinb : decide ((0 : Int) ≤ i) = false := decide_eq_false hin
        clear hi
        rw [List.drop_zero] at CV OKs
        obtain ⟨s, hsx⟩ : ∃ s, s = clX xs L S0 := ⟨_, rfl⟩
        rw [← hsx] at CV OKs
        have HSX : Hid (clX xs L (stS true cl k0) = s) := by show _ = _; rw [hsx, HS00.out]
        clear hsx
        obtain ⟨lg, hs, fa⟩ := s
        dsimp only at CV
        obtain ⟨⟨ol, oh, olo, ohi⟩, -, -, -⟩ := id OKs
        dsimp only at ol oh olo ohi
        have hLK := OKs.lnk
        dsimp only at hLK
        have c0 := CV.b.c0
        have c1 := CV.b.c1
        have c2 := CV.b.c2
        have LN := Le.new wr (.cells #[.slice AL lg.length cL, .int .i64 0, .int .i64 0, .slice none 0 0] 36)
        have ZR : B4 X2 (w.heap.size + 1 + 1) (.slice none 0 0) (.int .i64 0) (.int .i64 0) (.slice none 0 0) := ⟨by omega, r0, r1, r2, r3, rf⟩
        have Z5 := (ZR.le CV.G).le LN
        have T5 := B4.new wr (.slice AL lg.length cL) (.int .i64 0) (.int .i64 0) (.slice none 0 0) 36
        have hx2 := CV.G.size
        have hCl := CV.b.lt
        have O5 := own_le CV.O LN
        have HLT := Lib.hid (fun k e => (CV.O.lt k e).2)
        have c0' := (LN.cell hCl).trans c0
        have c1' := (LN.cell hCl).trans c1
        have c2' := (LN.cell hCl).trans c2
        have L5 := LR.trans LN
        have SH5 := (Sl.of_own CV.H rfl (by decide) CV.okh).le LN
        have HOKL := Lib.hid CV.okl
        have hbb := LW2.size
        have nlr : (Value.slice AL lg.length cL).ownBlock ≠ some (w.heap.size + 1 + 1) := fun e => by have := (CV.O.lt _ e).1; omega
        have nlt : (Value.slice AL lg.length cL).ownBlock ≠ some wr.heap.size := fun e => by have := HLT.out _ e; omega
        clear CV ZR LN r0 r1 r2 r3 rf LR OKs
        by_cases hf0 : 0 ≤ fa
        · have hf0b : decide ((0 : Int) ≤ fa) = true := decide_eq_true hf0
          have HE : Hid (clE (lg, hs, fa) = 2 ∧ clV (lg, hs, fa) = idx (reachL hs fa) fa 0 ∧ clH (lg, hs, fa) = isoL hs (reachL hs fa)) := by show _ ∧ _ ∧ _; unfold clE clV clH; rw [if_pos hf0, if_pos hf0, if_pos hf0]; exact ⟨rfl, rfl, rfl⟩
          go_wp2_with fail
          generalize wr.alloc _ = W5 at *
          refine (sIsolated_any AH hs.length cH hs fa W5 SH5 hLK hf0 ohi (by omega)).mono ?_
          rintro e w5 ⟨v5, rfl, D5, hl5⟩
          generalize idx (reachL hs fa) fa 0 = ix at *
          obtain ⟨A5, q5, rfl⟩ := own_form D5.row
          generalize (isoL hs (reachL hs fa)) = K5 at *
          have LN6 := Le.new w5 (.cells #[.slice A5 K5.length q5] 34)
          have T6 := (T5.le hl5).le LN6
          have Z6 := (Z5.le hl5).le LN6
          have hw6 : (w5.alloc (.cells #[.slice A5 K5.length q5] 34)).cell? ⟨w5.heap.size, 0, none⟩ = some (.slice A5 K5.length q5) := by rw [World.cell?_alloc_at _ _ _ _ rfl]; rfl
          have D6 := D5.le LN6
          have O6 := own_le (own_le O5 hl5) LN6
          have L6 := (L5.trans hl5).trans LN6
          have h56 := hl5.size
          have hwl := T5.lt
          have hn65 : wr.heap.size ≠ w5.heap.size := by omega
          have hn26 : wr.heap.size ≠ w.heap.size + 1 + 1 := by omega
          have n5 : (Value.slice A5 K5.length q5).ownBlock ≠ some wr.heap.size := fun e => by have := (D5.row.lt _ e).1; omega
          have n5r : (Value.slice A5 K5.length q5).ownBlock ≠ some (w.heap.size + 1 + 1) := fun e => by have := (D5.row.lt _ e).1; omega
          have HAP : Hid (∀ k, (Value.slice AL lg.length cL).ownBlock = some k → (Value.slice A5 K5.length q5).ownBlock ≠ some k) := fun k e e2 => by have := HLT.out k e; have := (D5.row.lt k e2).1; omega
          have T61 := T6.set1 (.int .i64 2)
          have T63 := T61.set3 (.slice A5 K5.length q5)
          have T62 := T63.set2 (.int .i64 ix)
          have Z61 := ((Z6.far hn26 1 (.int .i64 2)).far hn26 3 (.slice A5 K5.length q5)).far hn26 2 (.int .i64 ix)
          have ZA := Lib.hid (Z61.all (.slice AL lg.length cL) (.int .i64 2) (.int .i64 ix) (.slice A5 K5.length q5))
          have OA := Lib.hid (row_all (b := w.heap.size + 1 + 1) (kept_set (kept_set (kept_set O6 nlt 1 (.int .i64 2)) nlt 3 (.slice A5 K5.length q5)) nlt 2 (.int .i64 ix)) nlr (.slice AL lg.length cL) (.int .i64 2) (.int .i64 ix) (.slice A5 K5.length q5))
          have DA := Lib.hid (row_all (b := w.heap.size + 1 + 1) (kept_set (kept_set (kept_set D6.row n5 1 (.int .i64 2)) n5 3 (.slice A5 K5.length q5)) n5 2 (.int .i64 ix)) n5r (.slice AL lg.length cL) (.int .i64 2) (.int .i64 ix) (.slice A5 K5.length q5))
          have DOK := Lib.hid D6.ok
          have hwr : w.heap.size ≤ wr.heap.size := by omega
          have hw2 : w.heap.size ≤ w.heap.size + 1 + 1 := by omega
          have LA := Lib.hid (((((((L6.setCell (b := wr.heap.size) (o := 1) hwr (.int .i64 2)).setCell (b := wr.heap.size) (o := 3) hwr (.slice A5 K5.length q5)).setCell (b := wr.heap.size) (o := 2) hwr (.int .i64 ix)).setCell (b := w.heap.size + 1 + 1) (o := 0) hw2 (.slice AL lg.length cL)).setCell (b := w.heap.size + 1 + 1) (o := 1) hw2 (.int .i64 2)).setCell (b := w.heap.size + 1 + 1) (o := 2) hw2 (.int .i64 ix)).setCell (b := w.heap.size + 1 + 1) (o := 3) hw2 (.slice A5 K5.length q5))
          have HW56 : Hid (w.heap.size ≤ W5.heap.size) := L5.size
          have a1 := T6.c1
          have a1f := T6.f 1
          have a3 := T61.c3
          have a3f := T61.f 3
          have a2 := T63.c2
          have a2f := T63.f 2
          have g0 := T62.c0
          have g1 := T62.c1
          have g2 := T62.c2
          have g3 := T62.c3
          have y1 := (cell_set_other (v := .int .i64 2) (o := 1) (o' := 0) (.inl hn65)).trans hw6
          have z0 := Z61.c0
          have z0f := Z61.f 0
          have Z62 := Z61.set0 (.slice AL lg.length cL)
          have z1 := Z62.c1
          have z1f := Z62.f 1
          have Z63 := Z62.set1 (.int .i64 2)
          have z2 := Z63.c2
          have z2f := Z63.f 2
          have Z64 := Z63.set2 (.int .i64 ix)
          have z3 := Z64.c3
          have z3f := Z64.f 3
          clear T5 Z5 T6 Z6 T61 T63 T62 Z61 Z62 Z63 Z64 O5 O6 D5 D6 L5 L6 LN6 SH5 hLK nlr nlt n5 n5r hl5 h56 hwl
          go_wp2
          trace_state
          have e0 := ZA.out.c0
          have e1 := ZA.out.c1
          have e2 := ZA.out.c2
          have e3 := ZA.out.c3
          refine bodyPost_ret (v := .agg #[.slice AL lg.length cL, .int .i64 2, .int .i64 ix, .slice A5 K5.length q5]) (by simp [results, Try.results41, go_sem, e0, e1, e2, e3]) rfl ?_
          rw [HSX.out, HE.out.1, HE.out.2.1, HE.out.2.2]
          exact ⟨_, _, rfl, ⟨own_mono OA.out hbb, HOKL.out⟩, ⟨own_mono DA.out HW56.out, DOK.out⟩, HAP.out, LA.out⟩
        · have hf0b : decide ((0 : Int) ≤ fa) = false := decide_eq_false hf0
          have HE : Hid (clE (lg, hs, fa) = 0 ∧ clV (lg, hs, fa) = 0 ∧ clH (lg, hs, fa) = []) := by show _ ∧ _ ∧ _; unfold clE clV clH; rw [if_neg hf0, if_neg hf0, if_neg hf0]; exact ⟨rfl, rfl, rfl⟩
          have ZA := Lib.hid (Z5.all (.slice AL lg.length cL) (.int .i64 0) (.int .i64 0) (.slice none 0 0))
          have OA := Lib.hid (row_all (b := w.heap.size + 1 + 1) O5 nlr (.slice AL lg.length cL) (.int .i64 0) (.int .i64 0) (.slice none 0 0))
          have hw2 : w.heap.size ≤ w.heap.size + 1 + 1 := by omega
          have LA := Lib.hid ((((L5.setCell (b := w.heap.size + 1 + 1) (o := 0) hw2 (.slice AL lg.length cL)).setCell (b := w.heap.size + 1 + 1) (o := 1) hw2 (.int .i64 0)).setCell (b := w.heap.size + 1 + 1) (o := 2) hw2 (.int .i64 0)).setCell (b := w.heap.size + 1 + 1) (o := 3) hw2 (.slice none 0 0))
          have z0 := Z5.c0
          have z0f := Z5.f 0
          have Z62 := Z5.set0 (.slice AL lg.length cL)
          have z1 := Z62.c1
          have z1f := Z62.f 1
          have Z63 := Z62.set1 (.int .i64 0)
          have z2 := Z63.c2
          have z2f := Z63.f 2
          have Z64 := Z63.set2 (.int .i64 0)
          have z3 := Z64.c3
          have z3f := Z64.f 3
          clear T5 Z5 Z62 Z63 Z64 O5 L5 SH5 hLK nlr nlt
          go_wp2
          have e0 := ZA.out.c0
          have e1 := ZA.out.c1
          have e2 := ZA.out.c2
          have e3 := ZA.out.c3
          refine bodyPost_ret (v := .agg #[.slice AL lg.length cL, .int .i64 0, .int .i64 0, .slice none 0 0]) (by simp [results, Try.results41, go_sem, e0, e1, e2, e3]) rfl ?_
          rw [HSX.out, HE.out.1, HE.out.2.1, HE.out.2.2]
          exact ⟨_, _, rfl, ⟨own_mono OA.out hbb, HOKL.out⟩, Owd.nil _ _ _, (fun k _ e => by simp [Value.ownBlock] at e), LA.out⟩
      · obtain ⟨j, rfl⟩ : ∃ j, k = j + 1 := ⟨k - 1, by omega⟩
        have e : i = (j : Int) := by omega
        subst e
        have hj : j < L.length := by omega
        have hj0 : (0 : Int) ≤ (j : Int) := by omega
        have hjn : (j : Int) < (L.length : Int) := by omega
        have HD := clX_drop xs L S0 hj
        have hxo := HVX.out L[j] (List.getElem_mem hj)
        obtain ⟨b5, off5, rfl, hb5, d0, d1, d2, hx0, hx1, hx2, hx3, hx4, hx5⟩ := (hL.le LR).xit_at hj
        generalize clX xs (L.drop (j + 1)) S0 = s at *
        obtain ⟨lg, hs, fa⟩ := s
        dsimp only at CV
        obtain ⟨⟨ol, oh, olo, ohi⟩, ocx, ocl, oca⟩ := id OKs
        dsimp only at ol oh olo ohi ocx ocl oca
        generalize L[j] = x at *
        obtain ⟨vk, va, vb⟩ := x
        dsimp only at d0 d1 d2 hx0 hx1 hx2 hx3 hx4 hx5
        have hva : Enc.ok va := ⟨hx2, hx3⟩
        have CV1 := CV.le (Le.new wr (.cells #[.int .i64 vk, .int .i64 va, .int .i64 vb] 42))
        have B9 := B3.new wr (.int .i64 vk) (.int .i64 va) (.int .i64 vb) 42
        have ct1 := (CV1.G.cell (show w.heap.size < X2.heap.size by omega)).trans ct
        have zt := Nat.lt_of_lt_of_le (show w.heap.size < X2.heap.size by omega) CV1.G.size
        have STT := hT.le (LW2.trans CV1.G)
        clear CV hi hk
        have c0 := CV1.b.c0
        have c1 := CV1.b.c1
        have c2 := CV1.b.c2
        have cf := CV1.b.f 0
        have x0 := B9.c0
        have x1 := B9.c1
        have x2 := B9.c2
        by_cases t0 : vk = 0 ∨ (vk = 1 ∧ 0 ≤ fa)
        · have HS : Hid (clX xs (L.drop j) S0 = (lg ++ [va], hs, fa)) := by
            show _ = _
            rw [HD]
            unfold stX
            rcases t0 with h | ⟨h, h2⟩
            · rw [if_neg (by show ¬ vk = 1; omega), if_neg (by show ¬ vk = 2; omega), if_neg (by show ¬ vk = 3; omega)]
            · rw [if_pos h, if_pos h2]
          clear HD
          rcases t0 with rfl | ⟨rfl, h2⟩
          · have HTB : X2.heap.size ≤ ((wr.alloc (.cells #[.int .i64 _, .int .i64 va, .int .i64 vb] 42)).alloc (.cells #[.int .i64 va] 3)).heap.size := Nat.le_trans CV1.G.size (Le.new _ _).size
            go_wp2_with (at_builtin; refine wpList_append_sl rfl _ _ 31 rfl X2.heap.size 3 i0 _ 8 Try.underlying31 hq hz0 hz1 hz2 rfl _ lg.length lg rfl (CV1.O.alloc _) _ 1 1 [va] rfl (sl_one va rfl hva (by simp)) (by unfold maxLen; omega) (by omega) HTB ?_; intro v1 w4 O4 hg4 hbl; obtain ⟨A1, k1, rfl⟩ := own_form O4; have HC := Lib.hid (CV1.told (Le.new _ _) hva O4 hg4 hbl); have k2 := hg4.cell (a := ⟨w.heap.size + 1 + 1 + 1 + 1, 0, none⟩) (((Le.new _ _).cell CV1.b.lt).trans CV1.b.c0) (fun e => CV1.nl e.symm); have k3 : w4.frozen? ⟨w.heap.size + 1 + 1 + 1 + 1, 0, none⟩ = false := (World.frozen?_of_block (a := ⟨w.heap.size + 1 + 1 + 1 + 1, 0, none⟩) (hg4.block (w.heap.size + 1 + 1 + 1 + 1) (Nat.lt_of_lt_of_le CV1.b.lt (Le.new _ _).size) (fun e => CV1.nl e.symm))).trans (((Le.new _ _).frozen CV1.b.lt).trans (CV1.b.f 0)); clear O4 hg4 hbl)
            go_roundw
            case rel =>
              refine ⟨j, by omega, (j : Int) - 1, rfl, by go_num, ?_⟩
              rw [HS.out]
              exact ⟨_, _, HC.out⟩
            case measure => first | (simp [intOf]; done) | (simp [intOf]; omega)
          · have h2b : decide ((0 : Int) ≤ fa) = true := decide_eq_true h2
            have HTB : X2.heap.size ≤ ((wr.alloc (.cells #[.int .i64 _, .int .i64 va, .int .i64 vb] 42)).alloc (.cells #[.int .i64 va] 3)).heap.size := Nat.le_trans CV1.G.size (Le.new _ _).size
            go_wp2_with (at_builtin; refine wpList_append_sl rfl _ _ 31 rfl X2.heap.size 3 i0 _ 8 Try.underlying31 hq hz0 hz1 hz2 rfl _ lg.length lg rfl (CV1.O.alloc _) _ 1 1 [va] rfl (sl_one va rfl hva (by simp)) (by unfold maxLen; omega) (by omega) HTB ?_; intro v1 w4 O4 hg4 hbl; obtain ⟨A1, k1, rfl⟩ := own_form O4; have HC := Lib.hid (CV1.told (Le.new _ _) hva O4 hg4 hbl); have k2 := hg4.cell (a := ⟨w.heap.size + 1 + 1 + 1 + 1, 0, none⟩) (((Le.new _ _).cell CV1.b.lt).trans CV1.b.c0) (fun e => CV1.nl e.symm); have k3 : w4.frozen? ⟨w.heap.size + 1 + 1 + 1 + 1, 0, none⟩ = false := (World.frozen?_of_block (a := ⟨w.heap.size + 1 + 1 + 1 + 1, 0, none⟩) (hg4.block (w.heap.size + 1 + 1 + 1 + 1) (Nat.lt_of_lt_of_le CV1.b.lt (Le.new _ _).size) (fun e => CV1.nl e.symm))).trans (((Le.new _ _).frozen CV1.b.lt).trans (CV1.b.f 0)); clear O4 hg4 hbl)
            go_roundw
            case rel =>
              refine ⟨j, by omega, (j : Int) - 1, rfl, by go_num, ?_⟩
              rw [HS.out]
              exact ⟨_, _, HC.out⟩
            case measure => first | (simp [intOf]; done) | (simp [intOf]; omega)
        · by_cases t1 : vk = 3
          · subst t1
            have HS : Hid (clX xs (L.drop j) S0 = (lg, hs ++ [⟨va, vb, -1, fa, false⟩], (hs.length : Int))) := by show _ = _; rw [HD]; unfold stX; rw [if_neg (by show ¬ (3 : Int) = 1; omega), if_neg (by show ¬ (3 : Int) = 2; omega), if_pos rfl]
            clear HD
            go_wp2_with fail
            generalize wr.alloc _ = W1 at *
            have Et := cell_ext zt ct1
            have E0 := cell_ext CV1.b.lt c0
            have E1 := cell_ext CV1.b.lt c1
            have E2 := cell_ext CV1.b.lt c2
            have F0 := cell_ext B9.lt x0
            have F1 := cell_ext B9.lt x1
            have F2 := cell_ext B9.lt x2
            refine wp_region_ext (by kernel_rfl) (by kernel_rfl) ?_
            repeat (go_big_quiet_step (fail))
            refine wpQuiet_nil ?_
            intro _ hw'
            obtain ⟨gg, rfl⟩ := hw'
            have CV2 := CV1.le (Le.ext _ gg)
            have B92 := B9.le (Le.ext _ gg)
            generalize W1.ext gg = W4 at *
            have n0 := B92.c0
            have n1 := B92.c1
            have n2 := B92.c2
            have SH := Sl.of_own CV2.H rfl (by decide) CV2.okh
            have m0 := CV2.b.c0
            have m1 := CV2.b.c1
            have m2 := CV2.b.c2
            go_wp2_with fail
            refine (newFault_any AH hs.length cH hs fa va vb ⟨hx2, hx3⟩ ⟨hx4, hx5⟩ ocx olo ohi (by omega) AL lg.length cL W4 SH).mono ?_
            rintro e w5 ⟨A', q', rfl, D, hl5⟩
            have HC := Lib.hid (CV2.put hl5 D (hs.length : Int))
            have BB := CV2.b.le hl5
            have p0 := BB.c0
            have pf0 := BB.f 0
            have BB0 := BB.set0 (.slice AL lg.length cL)
            have p1 := BB0.c1
            have pf1 := BB0.f 1
            have BB1 := BB0.set1 (.slice A' (hs.length + 1) q')
            have p2 := BB1.c2
            have pf2 := BB1.f 2
            clear BB BB0 BB1 D hl5 SH CV2 m0 m1 m2
            go_wp2
            go_roundw
            case rel =>
              refine ⟨j, by omega, (j : Int) - 1, rfl, by go_num, ?_⟩
              rw [HS.out]
              exact ⟨_, _, HC.out⟩
            case measure => first | (simp [intOf]; done) | (simp [intOf]; omega)
          · by_cases t2 : vk = 2
            · subst t2
              by_cases h2 : 0 ≤ fa
              · have h2b : decide ((0 : Int) ≤ fa) = true := decide_eq_true h2
                obtain ⟨f, rfl⟩ : ∃ f : Nat, fa = (f : Int) := ⟨fa.toNat, by omega⟩
                have hf : f < hs.length := by omega
                rw [xOk_2 rfl, Bool.and_eq_true] at hxo
                have hta := tk_AL OKs hvt hxo.1 (k := f) hf rfl
                dsimp only at hta
                have hcf := hasK_iff.1 (ocl f hf)
                have SH := Sl.of_own CV1.H rfl (by decide) CV1.okh
                obtain ⟨b6, off6, rfl, hb6, g0, -⟩ := SH.flt_at hf
                have hfn : (f : Int) < (hs.length : Int) := by omega
                have HS0 : Hid (clX xs (L.drop j) S0 = (lg, hs, if isAL xs hs[f].cls va = true then -1 else (f : Int))) := by show _ = _; rw [HD, ← hta]; unfold stX; rw [if_neg (by show ¬ (2 : Int) = 1; omega), if_pos rfl]
                clear HD hta SH
                generalize hs[f].cls = vc at *
                obtain ⟨q2, HQ⟩ : ∃ q2, Hid (isAL xs vc va = q2) := ⟨_, rfl⟩
                rw [HQ.out] at HS0
                cases q2
                · have HS : Hid (clX xs (L.drop j) S0 = (lg, hs, (f : Int))) := HS0.out
                  clear HS0
                  go_wp2_with fail
                  generalize wr.alloc _ = W1 at *
                  have Et := cell_ext zt ct1
                  have E0 := cell_ext CV1.b.lt c0
                  have E1 := cell_ext CV1.b.lt c1
                  have E2 := cell_ext CV1.b.lt c2
                  have F0 := cell_ext B9.lt x0
                  have F1 := cell_ext B9.lt x1
                  have F2 := cell_ext B9.lt x2
                  have E6 := cell_ext (Nat.lt_of_lt_of_le hb6 (Nat.le_refl _)) g0
                  have hca : ∀ (g1 : Ext W1) (_ : True), Calls Try.prog 65 #[.agg #[.slice B m c], .int .i64 vc, .int .i64 va] (W1.ext g1) fun e w' => e = .returned (.bool false) ∧ Le (W1.ext g1) w' := fun g1 _ => Calls.val (isA_any B m c xs vc va _ (STT.le (Le.ext W1 g1)) g (by omega) (by omega)) (by rw [HQ.out])
                  refine wp_region_ext (by kernel_rfl) (by kernel_rfl) ?_
                  repeat (go_big_quiet_step (first | (go_at_call 65; with_reducible exact Calls.ext_of (hca _ trivial))))
                  refine wpQuiet_nil ?_
                  intro _ hw'
                  obtain ⟨gg, rfl⟩ := hw'
                  have CV2 := CV1.le (Le.ext _ gg)
                  have B92 := B9.le (Le.ext _ gg)
                  generalize W1.ext gg = W4 at *
                  have n0 := B92.c0
                  have n1 := B92.c1
                  have n2 := B92.c2
                  have HC := Lib.hid CV2
                  go_wp2
                  go_roundw
                  case rel =>
                    refine ⟨j, by omega, (j : Int) - 1, rfl, by go_num, ?_⟩
                    rw [HS.out]
                    exact ⟨_, _, HC.out⟩
                  case measure => first | (simp [intOf]; done) | (simp [intOf]; omega)
                · have HS : Hid (clX xs (L.drop j) S0 = (lg, hs, -1)) := HS0.out
                  clear HS0
                  go_wp2_with fail
                  generalize wr.alloc _ = W1 at *
                  have Et := cell_ext zt ct1
                  have E0 := cell_ext CV1.b.lt c0
                  have E1 := cell_ext CV1.b.lt c1
                  have E2 := cell_ext CV1.b.lt c2
                  have F0 := cell_ext B9.lt x0
                  have F1 := cell_ext B9.lt x1
                  have F2 := cell_ext B9.lt x2
                  have E6 := cell_ext (Nat.lt_of_lt_of_le hb6 (Nat.le_refl _)) g0
                  have hca : ∀ (g1 : Ext W1) (_ : True), Calls Try.prog 65 #[.agg #[.slice B m c], .int .i64 vc, .int .i64 va] (W1.ext g1) fun e w' => e = .returned (.bool true) ∧ Le (W1.ext g1) w' := fun g1 _ => Calls.val (isA_any B m c xs vc va _ (STT.le (Le.ext W1 g1)) g (by omega) (by omega)) (by rw [HQ.out])
                  refine wp_region_ext (by kernel_rfl) (by kernel_rfl) ?_
                  repeat (go_big_quiet_step (first | (go_at_call 65; with_reducible exact Calls.ext_of (hca _ trivial))))
                  refine wpQuiet_nil ?_
                  intro _ hw'
                  obtain ⟨gg, rfl⟩ := hw'
                  have CV2 := CV1.le (Le.ext _ gg)
                  have B92 := B9.le (Le.ext _ gg)
                  generalize W1.ext gg = W4 at *
                  have n0 := B92.c0
                  have n1 := B92.c1
                  have n2 := B92.c2
                  have m2 := CV2.b.c2
                  have mf := CV2.b.f 2
                  have HC := Lib.hid (CV2.setF (-1))
                  clear CV2
                  go_wp2
                  go_roundw
                  case rel =>
                    refine ⟨j, by omega, (j : Int) - 1, rfl, by go_num, ?_⟩
                    rw [HS.out]
                    exact ⟨_, _, HC.out⟩
                  case measure => first | (simp [intOf]; done) | (simp [intOf]; omega)
              · have h2b : decide ((0 : Int) ≤ fa) = false := decide_eq_false h2
                have HS : Hid (clX xs (L.drop j) S0 = (lg, hs, fa)) := by show _ = _; rw [HD]; unfold stX tkX; rw [if_neg (by show ¬ (2 : Int) = 1; omega), if_pos rfl, if_neg h2]
                clear HD
                go_wp2_with fail
                generalize wr.alloc _ = W1 at *
                have Et := cell_ext zt ct1
                have E0 := cell_ext CV1.b.lt c0
                have E1 := cell_ext CV1.b.lt c1
                have E2 := cell_ext CV1.b.lt c2
                have F0 := cell_ext B9.lt x0
                have F1 := cell_ext B9.lt x1
                have F2 := cell_ext B9.lt x2
                refine wp_region_ext (by kernel_rfl) (by kernel_rfl) ?_
                repeat (go_big_quiet_step (fail))
                refine wpQuiet_nil ?_
                intro _ hw'
                obtain ⟨gg, rfl⟩ := hw'
                have CV2 := CV1.le (Le.ext _ gg)
                have B92 := B9.le (Le.ext _ gg)
                generalize W1.ext gg = W4 at *
                have n0 := B92.c0
                have n1 := B92.c1
                have n2 := B92.c2
                have HC := Lib.hid CV2
                go_wp2
                go_roundw
                case rel =>
                  refine ⟨j, by omega, (j : Int) - 1, rfl, by go_num, ?_⟩
                  rw [HS.out]
                  exact ⟨_, _, HC.out⟩
                case measure => first | (simp [intOf]; done) | (simp [intOf]; omega)
            · by_cases t3 : vk = 1
              · subst t3
                have h2 : ¬ 0 ≤ fa := fun h => t0 (.inr ⟨rfl, h⟩)
                have h2b : decide ((0 : Int) ≤ fa) = false := decide_eq_false h2
                have HS : Hid (clX xs (L.drop j) S0 = (lg, hs, fa)) := by show _ = _; rw [HD]; unfold stX; rw [if_pos rfl, if_neg h2]
                clear HD
                go_wp2_with fail
                generalize wr.alloc _ = W1 at *
                have Et := cell_ext zt ct1
                have E0 := cell_ext CV1.b.lt c0
                have E1 := cell_ext CV1.b.lt c1
                have E2 := cell_ext CV1.b.lt c2
                have F0 := cell_ext B9.lt x0
                have F1 := cell_ext B9.lt x1
                have F2 := cell_ext B9.lt x2
                refine wp_region_ext (by kernel_rfl) (by kernel_rfl) ?_
                repeat (go_big_quiet_step (fail))
                refine wpQuiet_nil ?_
                intro _ hw'
                obtain ⟨gg, rfl⟩ := hw'
                have CV2 := CV1.le (Le.ext _ gg)
                have B92 := B9.le (Le.ext _ gg)
                generalize W1.ext gg = W4 at *
                have n0 := B92.c0
                have n1 := B92.c1
                have n2 := B92.c2
                have HC := Lib.hid CV2
                go_wp2
                go_roundw
                case rel =>
                  refine ⟨j, by omega, (j : Int) - 1, rfl, by go_num, ?_⟩
                  rw [HS.out]
                  exact ⟨_, _, HC.out⟩
                case measure => first | (simp [intOf]; done) | (simp [intOf]; omega)
              · exfalso
                unfold xOk at hxo
                rw [if_neg (by show ¬ (vk = 0 ∨ vk = 1); omega), if_neg (by show ¬ vk = 2; omega), if_neg (by show ¬ vk = 3; omega)] at hxo
                cases hxo
end
end Go.Proofs.Ytonpgohigncjeaa
