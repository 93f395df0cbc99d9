/- (*failure).Error -/
import Derived.Test.YtngepnecgoeicaaDoorTx4
namespace Go.Proofs.YtngepnecgoeicaaDoor
open Go.RowKit

set_option maxHeartbeats 8000000 in
set_option maxRecDepth 100000 in
theorem error_any (A H : Option Addr) (n cap m c : Nat) (xs : List Cls) (hs : List Flt) (f0 : Int) (hok : okHeap xs hs = true) : ∀ (gk : Nat) (gs : List Nat) (L : List Int) (j i : Nat) (w : World), gk ≤ 24 → Sl w A n cap xs → Sl w H m c hs → GotErr w →
    FCh w (.slice A n cap) (.slice H m c) lkShn gs (L ++ [(i : Int)]) → gs.length = j + 1 → i < hs.length → Chn.Pre (nxShn hs) hs.length f0 (nxShn hs i) (L ++ [(i : Int)]) → hs.length + 1 ≤ gk + (L.length + 1) → ∀ (g : Nat), gs[j]? = some g →
    Calls Tryd.prog 50 #[.pointer (some ⟨g, 0, none⟩)] w fun e w' => e = .returned (.string (errT xs hs gk L i)) ∧ Le w w' := by
  intro gk
  induction gk with
  | zero =>
    intro gs L j i w _ _ _ _ _ _ _ hP hm
    have := hP.len
    simp at this
    omega
  | succ gk ih =>
    intro gs L j i w hgk hR hH hG hF hgl hil hP hmm g hgj
    obtain rfl := hH.len
    obtain rfl := hR.len
    have gd := goodH_of hok
    have hsh := short_of hok
    have hfew := gd.few
    have hnx : ∀ x : Int, 0 ≤ x → x < hs.length → nxShn hs x < hs.length := shownAt_lt gd.lnk
    have hjg : j < gs.length := by omega
    have hge : gs[j] = g := by rw [List.getElem?_eq_getElem hjg] at hgj; injection hgj
    have hjl : j = L.length := by have := hF.len; simp at this; omega
    have hPl := hP.len
    simp only [List.length_append, List.length_singleton] at hPl
    have d0 := hF.c0 hjg
    have d1 := hF.c1 hjg
    have d2 := hF.c2 hjg (by simp; omega)
    have hLj : (L ++ [(i : Int)])[j]'(by simp; omega) = (i : Int) := by subst hjl; simp
    rw [hLj] at d2
    have zg := hF.lt j hjg
    rw [hge] at d0 d1 d2 zg
    obtain ⟨b, off, rfl, hb, k0, k1, k2, k3, k4, _⟩ := hH.flt_at hil
    obtain ⟨a, ha⟩ := Int.eq_ofNat_of_zero_le (gd.cls i hil).1
    obtain ⟨d, hd⟩ := Int.eq_ofNat_of_zero_le (gd.code i hil).1
    have hal : a < xs.length := by have := (gd.cls i hil).2; omega
    have hdl : d < 100 := by have := (gd.code i hil).2; omega
    rw [ha] at k0
    rw [hd] at k1
    have hft : fT xs hs i = ccT xs a d := by unfold fT; rw [fltAt_at hil, ha, hd]
    have hT9 : (ccT xs a d).size ≤ 9 := by rw [← hft]; exact hsh _ (by omega) (by omega)
    have hct : ccT xs a d = xs[a].name ++ colT ++ numT d := by unfold ccT; rw [nameAt_at hal]; rfl
    have hn6 : xs[a].name.size ≤ 6 := okName_size (gd.tree.name a hal)
    obtain ⟨bt, ot, rfl, hbt, q0, _, _⟩ := hR.cls_at hal
    have hlk : 0 ≤ nxShn hs (i : Int) → (nxShn hs (i : Int) = hs[i].cause ↔ 0 ≤ hs[i].cause) := lnk_is hil
    have hlt : lnkT hs (i : Int) = cond (decide (0 ≤ hs[i].cause)) sepG sepT := by unfold lnkT; rw [fltAt_at hil]
    generalize hs[i].cause = cz at *
    have HNX := Lib.hid hnx; have HLK := Lib.hid hlk; have HLT := Lib.hid hlt; have HFT := Lib.hid hft; have HCT := Lib.hid hct
    have HSH := Lib.hid hsh; have HGL := Lib.hid hgl; have HGJ := Lib.hid hgj; have HMM := Lib.hid hmm; have HPP := Lib.hid hP; have HIH := Lib.hid ih; have HGD := Lib.hid gd; have HF := Lib.hid hF
    have hiI : (0 : Int) ≤ (i : Int) ∧ (i : Int) < hs.length := by omega
    have haI : (0 : Int) ≤ (a : Int) ∧ (a : Int) < xs.length := by omega
    clear hnx hlk hlt hft hct hsh hgl hgj hmm hP ih gd hF ha hd hLj
    go_enter Tryd.func50, Tryd.ntmps50
    go_wp2_with fail
    replace d1 := drew_cell d1
    replace d2 := drew_cell d2
    replace k0 := drew_cell k0
    replace k1 := drew_cell k1
    replace k2 := drew_cell k2
    replace k3 := drew_cell k3
    replace k4 := drew_cell k4
    have zgd : g < w.drew.heap.size := zg
    have zb : b < w.drew.heap.size := hb
    go_region_held3 (fun w' => w'.cell? ⟨g, 1, none⟩ = some (.slice (some ⟨b, off, none⟩) hs.length c) ∧ w'.cell? ⟨g, 2, none⟩ = some (.int .i64 i) ∧ w'.cell? ⟨b, off + i * 5, none⟩ = some (.int .i64 a) ∧ w'.cell? ⟨b, off + i * 5 + 1, none⟩ = some (.int .i64 d) ∧ w'.cell? ⟨b, off + i * 5 + 2, none⟩ = some (.int .i64 cz) ∧ w'.cell? ⟨b, off + i * 5 + 3, none⟩ = some (.int .i64 hs[i].ctx) ∧ w'.cell? ⟨b, off + i * 5 + 4, none⟩ = some (.bool hs[i].hide))
      (first | exact ⟨d1, d2, k0, k1, k2, k3, k4⟩ | exact ⟨(World.cell?_alloc_past _ _ _ zgd).trans d1, (World.cell?_alloc_past _ _ _ zgd).trans d2, (World.cell?_alloc_past _ _ _ zb).trans k0, (World.cell?_alloc_past _ _ _ zb).trans k1, (World.cell?_alloc_past _ _ _ zb).trans k2, (World.cell?_alloc_past _ _ _ zb).trans k3, (World.cell?_alloc_past _ _ _ zb).trans k4⟩)
      (fail)
    have LX : Le w ((w.alloc (.cells #[.int .i64 (a : Int), .int .i64 (d : Int), .int .i64 cz, .int .i64 hs[i].ctx, .bool hs[i].hide] 76)).drew) := (Le.new w (.cells #[.int .i64 (a : Int), .int .i64 (d : Int), .int .i64 cz, .int .i64 hs[i].ctx, .bool hs[i].hide] 76)).drew
    have x0 : ((w.alloc (.cells #[.int .i64 (a : Int), .int .i64 (d : Int), .int .i64 cz, .int .i64 hs[i].ctx, .bool hs[i].hide] 76)).drew).cell? ⟨w.heap.size, 0, none⟩ = some (.int .i64 a) := by refine drew_cell ?_; rw [World.cell?_alloc_at _ _ _ _ rfl]; rfl
    have x1 : ((w.alloc (.cells #[.int .i64 (a : Int), .int .i64 (d : Int), .int .i64 cz, .int .i64 hs[i].ctx, .bool hs[i].hide] 76)).drew).cell? ⟨w.heap.size, 1, none⟩ = some (.int .i64 d) := by refine drew_cell ?_; rw [World.cell?_alloc_at _ _ _ _ rfl]; rfl
    have x2 : ((w.alloc (.cells #[.int .i64 (a : Int), .int .i64 (d : Int), .int .i64 cz, .int .i64 hs[i].ctx, .bool hs[i].hide] 76)).drew).cell? ⟨w.heap.size, 2, none⟩ = some (.int .i64 cz) := by refine drew_cell ?_; rw [World.cell?_alloc_at _ _ _ _ rfl]; rfl
    have zx : w.heap.size < ((w.alloc (.cells #[.int .i64 (a : Int), .int .i64 (d : Int), .int .i64 cz, .int .i64 hs[i].ctx, .bool hs[i].hide] 76)).drew).heap.size := by show _ < (w.alloc _).heap.size; simp
    rename_i hHH
    clear hHH
    clear k0 k1 k2 k3 k4 d1 d2 zgd zb
    have d0 := (LX.cell zg).trans d0
    have q0 := (LX.cell hbt).trans q0
    replace zg := Nat.lt_of_lt_of_le zg LX.size
    replace hbt := Nat.lt_of_lt_of_le hbt LX.size
    generalize (w.alloc (.cells #[.int .i64 (a : Int), .int .i64 (d : Int), .int .i64 cz, .int .i64 hs[i].ctx, .bool hs[i].hide] 76)).drew = X at *
    have hs1 : (xs[a].name.size : Int) ≤ 8388608 := by omega
    have hs2 : ((xs[a].name ++ colT).size : Int) ≤ 8388608 := by rw [ByteArray.size_append]; have : colT.size = 1 := rfl; omega
    have hs3 : ((numT d).size : Int) ≤ 8388608 := by have := numT_le hdl; omega
    have HIT := Lib.hid (fun w => itoa_any d w hdl)
    generalize xs[a].name = s at *
    generalize numT d = u at *
    have hadd1 : ∀ w, (Op.stringOp .add s ⟨#[58]⟩).run Tryd.prog w = .ok (.string (s ++ colT)) w := fun w => run_string_add w s colT hs1 (by decide)
    obtain ⟨y, hy⟩ : ∃ y, s ++ colT = y := ⟨_, rfl⟩
    rw [hy] at hadd1 hs2 HCT
    have hadd2 : ∀ w, (Op.stringOp .add y u).run Tryd.prog w = .ok (.string (y ++ u)) w := fun w => run_string_add w y u hs2 hs3
    obtain ⟨T, hT⟩ : ∃ T, y ++ u = T := ⟨_, rfl⟩
    rw [hT] at hadd2 HCT
    rw [HCT.out] at hT9 HFT
    clear hs1 hs2 hs3 hn6 hy hT HCT
    have E0 := cell_ext zg d0
    have E1 := cell_ext hbt q0
    have E2 := cell_ext zx x0
    have E3 := cell_ext zx x1
    go_wp2_with fail
    refine wp_region_ext (by kernel_rfl) (by kernel_rfl) ?_
    repeat (go_big_quiet_step (first | (go_at_call 70; exact Calls.ext_of (HIT.out _))))
    refine wpQuiet_nil ?_
    intro _ hw'
    obtain ⟨g2, rfl⟩ := hw'
    replace LX := LX.trans (Le.ext X g2)
    replace x2 := ((Le.ext X g2).cell zx).trans x2
    replace zx := Nat.lt_of_lt_of_le zx (Le.ext X g2).size
    clear E0 E1 E2 E3 x0 x1 d0 q0 hadd1 hadd2 HIT
    generalize X.ext g2 = X2 at *
    go_wp2_with fail
    have LW := LX.trans (Le.new X2 (.cells #[.pointer none] 66))
    have cb : (X2.alloc (.cells #[.pointer none] 66)).cell? ⟨X2.heap.size, 0, none⟩ = some (.pointer none) := by rw [World.cell?_alloc_at _ _ _ _ rfl]; rfl
    have fb : (X2.alloc (.cells #[.pointer none] 66)).frozen? ⟨X2.heap.size, 0, none⟩ = false := World.frozen?_alloc_at _ _ _ _ rfl
    have zb : X2.heap.size < (X2.alloc (.cells #[.pointer none] 66)).heap.size := by simp
    have y2 := ((Le.new X2 (.cells #[.pointer none] 66)).cell zx).trans x2
    have hsX := LX.size
    have HZX := Lib.hid zx
    clear x2 zx
    have hU := unwrapShn_any (.slice (some ⟨bt, ot, none⟩) xs.length cap) (some ⟨b, off, none⟩) hs.length c hs gs (L ++ [(i : Int)]) j i _ (hH.le LW) (HF.out.le LW) HGL.out hil (by subst hjl; simp) ⟨_, _, _, rfl⟩
    rw [hge] at hU
    have HW := Lib.hid (rfl : X2.alloc (.cells #[.pointer none] 66) = X2.alloc (.cells #[.pointer none] 66))
    generalize X2.alloc (.cells #[.pointer none] 66) = W2 at *
    clear HW
    generalize X2.heap.size = t at *
    refine hU.mono ?_
    rintro e w4 ⟨hle4, (⟨hnx, rfl⟩ | ⟨hnx, g', rfl, F4, hg'⟩)⟩
    · have HE := Lib.hid (errT_stop (xs := xs) (gk := gk + 1) hnx)
      have L4 := LW.trans hle4
      clear hnx hU
      go_wp2_with fail
      refine (as_nil _ _).mono ?_
      rintro e w' ⟨rfl, rfl⟩
      go_wp2
      go_ret
      exact ⟨ret_str (by rw [HE.out, HFT.out]), L4⟩
    · have HE := Lib.hid (errT_on (xs := xs) (gk := gk) hnx)
      have hnx' : 0 ≤ nxShn hs (i : Int) ∧ nxShn hs (i : Int) ∉ L ++ [(i : Int)] := by
        simp only [not_or, Int.not_lt] at hnx
        exact hnx
      have hlk := HLK.out hnx'.1
      have hlt2 := HNX.out (i : Int) (by omega) (by omega)
      have HPS := Lib.hid (HPP.out.step hnx'.1 hnx'.2 (HNX.out _ hnx'.1 hlt2))
      obtain ⟨i', hi'⟩ := Int.eq_ofNat_of_zero_le hnx'.1
      rw [hi'] at HE HPS F4 hlt2 hlk
      have L4 := LW.trans hle4
      have c4 := (hle4.cell zb).trans cb
      have f4 := (hle4.frozen zb).trans fb
      have z4 := Nat.lt_of_lt_of_le zb hle4.size
      have hzxW : w.heap.size < W2.heap.size := Nat.lt_trans HZX.out zb
      have y4 := (hle4.cell hzxW).trans y2
      have y4z := Nat.lt_of_lt_of_le hzxW hle4.size
      clear hnx hnx' hU hle4 cb fb y2 hi' 
      go_wp2_with fail
      refine (as_hit ⟨g', 0, none⟩ t (.pointer none) w4 (hG.le L4) c4 z4 f4).mono ?_
      rintro e Z ⟨rfl, W, hW, rfl⟩
      have FZ : FCh (W.setCell ⟨t, 0, none⟩ (.pointer (some ⟨g', 0, none⟩))) (.slice (some ⟨bt, ot, none⟩) xs.length cap) (.slice (some ⟨b, off, none⟩) hs.length c) lkShn (gs ++ [g']) ((L ++ [(i : Int)]) ++ [(i' : Int)]) :=
        (F4.le hW).keepShn (by simp [World.setCell]) (fun k hk => heap_setCell_other _ _ _ _ (by
          show (gs ++ [g'])[k] ≠ t
          rcases Nat.lt_or_ge k gs.length with h1 | h1
          · rw [List.getElem_append_left h1]; have := HF.out.lt k h1; have := HZX.out; omega
          · rw [List.getElem_append_right h1]
            simp only [List.getElem_singleton]
            omega))
      have cZ : (W.setCell ⟨t, 0, none⟩ (.pointer (some ⟨g', 0, none⟩))).cell? ⟨t, 0, none⟩ = some (.pointer (some ⟨g', 0, none⟩)) := cell_set_same ((hW.cell z4).trans c4)
      have yZ : (W.setCell ⟨t, 0, none⟩ (.pointer (some ⟨g', 0, none⟩))).cell? ⟨w.heap.size, 2, none⟩ = some (.int .i64 cz) := (cell_set_other (.inl (by have := HZX.out; omega))).trans ((hW.cell y4z).trans y4)
      have zZ : t < (W.setCell ⟨t, 0, none⟩ (.pointer (some ⟨g', 0, none⟩))).heap.size := by have := Nat.lt_of_lt_of_le z4 hW.size; simpa [World.setCell] using this
      have zZ2 : w.heap.size < (W.setCell ⟨t, 0, none⟩ (.pointer (some ⟨g', 0, none⟩))).heap.size := by have := Nat.lt_of_lt_of_le y4z hW.size; simpa [World.setCell] using this
      have LZ : Le w (W.setCell ⟨t, 0, none⟩ (.pointer (some ⟨g', 0, none⟩))) := (L4.trans hW).setCell (Nat.le_of_lt HZX.out) _
      have hgl2 : (gs ++ [g']).length = j + 1 + 1 := by simp [HGL.out]
      have hgj2 : (gs ++ [g'])[j + 1]? = some g' := by rw [← HGL.out, List.getElem?_append_right (Nat.le_refl _)]; simp
      have hjg2 : j + 1 < (gs ++ [g']).length := by omega
      have d2 := FZ.c2 hjg2 (by simp; omega)
      have hgg : (gs ++ [g'])[j + 1] = g' := by rw [List.getElem?_eq_getElem hjg2] at hgj2; injection hgj2
      have hLj2 : ((L ++ [(i : Int)]) ++ [(i' : Int)])[j + 1]'(by simp; omega) = (i' : Int) := by subst hjl; simp
      rw [hgg, hLj2] at d2
      have zg' := FZ.lt (j + 1) hjg2
      rw [hgg] at zg'
      clear c4 z4 f4 y4 y4z F4 hzxW L4 zb
      generalize W.setCell ⟨t, 0, none⟩ (.pointer (some ⟨g', 0, none⟩)) = Z at *
      have HIC := Lib.hid (fun (q : World) (hq : Le Z q) => HIH.out (gs ++ [g']) (L ++ [(i : Int)]) (j + 1) i' q (by omega) ((hR.le LZ).le hq) ((hH.le LZ).le hq) (hG.le (LZ.trans hq)) (FZ.le hq) hgl2 (by omega) HPS.out (by have := HMM.out; simp only [List.length_append, List.length_singleton]; omega) g' hgj2)
      have hys := errT_size HSH.out HNX.out hfew (gk := gk) (L := L ++ [(i : Int)]) (i := (i' : Int)) (by omega) (by simp only [List.length_append, List.length_singleton]; omega) (by omega)
      have HLT' := Lib.hid HLT.out
      rw [HFT.out, HLT.out] at HE
      generalize errT xs hs gk (L ++ [(i : Int)]) (i' : Int) = y at *
      have hg1 : ∀ w, (Op.stringOp .add y ⟨#[32, 62, 32]⟩).run Tryd.prog w = .ok (.string (y ++ sepG)) w := fun w => run_string_add w y sepG (by omega) (by decide)
      have hg2 : ∀ w, (Op.stringOp .add y ⟨#[32, 126, 32]⟩).run Tryd.prog w = .ok (.string (y ++ sepT)) w := fun w => run_string_add w y sepT (by omega) (by decide)
      have hzg : (y ++ sepG).size ≤ 4000 := by rw [ByteArray.size_append]; have : sepG.size = 3 := rfl; omega
      have hzt : (y ++ sepT).size ≤ 4000 := by rw [ByteArray.size_append]; have : sepT.size = 3 := rfl; omega
      obtain ⟨yg, hyg⟩ : ∃ yg, y ++ sepG = yg := ⟨_, rfl⟩
      obtain ⟨yt, hyt⟩ : ∃ yt, y ++ sepT = yt := ⟨_, rfl⟩
      rw [hyg] at hg1 hzg
      rw [hyt] at hg2 hzt
      have hk1 : ∀ w, (Op.stringOp .add yg T).run Tryd.prog w = .ok (.string (yg ++ T)) w := fun w => run_string_add w yg T (by omega) (by omega)
      have hk2 : ∀ w, (Op.stringOp .add yt T).run Tryd.prog w = .ok (.string (yt ++ T)) w := fun w => run_string_add w yt T (by omega) (by omega)
      have HYG := Lib.hid hyg
      have HYT := Lib.hid hyt
      obtain ⟨ug, hug⟩ : ∃ ug, yg ++ T = ug := ⟨_, rfl⟩
      obtain ⟨ut, hut⟩ : ∃ ut, yt ++ T = ut := ⟨_, rfl⟩
      rw [hug] at hk1
      rw [hut] at hk2
      have HUG := Lib.hid hug
      have HUT := Lib.hid hut
      clear hyg hyt hug hut hzg hzt hys hT9 hgl2 hgj2 hjg2 hgg hLj2 FZ
      by_cases hcz : (i' : Int) = cz
      · have h0 := hlk.1 hcz
        rw [decide_eq_true h0] at HE
        have HC := Lib.hid hcz; have HL := Lib.hid hlk
        subst hcz
        clear hlk
        have E0 := cell_ext zZ cZ
        have E1 := cell_ext zg' d2
        have E2 := cell_ext zZ2 yZ
        go_wp2_with fail
        refine wp_region_ext (by kernel_rfl) (by kernel_rfl) ?_
        repeat (go_big_quiet_step (fail))
        refine wpQuiet_nil ?_
        intro _ hw'
        obtain ⟨g6, rfl⟩ := hw'
        have LQ := Le.ext Z g6
        have cQ := (LQ.cell zZ).trans cZ
        have zQ := Nat.lt_of_lt_of_le zZ LQ.size
        replace LZ := LZ.trans LQ
        clear E0 E1 E2 cZ yZ d2 zZ zZ2 zg'
        generalize Z.ext g6 = Q at *
        have HCA := Lib.hid (HIC.out _ LQ)
        go_wp2_with fail
        refine HCA.out.mono ?_
        rintro e Q7 ⟨rfl, LQ7⟩
        replace LZ := LZ.trans LQ7
        go_wp2
        go_ret
        exact ⟨ret_str (by rw [HE.out]; show ug = y ++ sepG ++ T; rw [HYG.out, HUG.out]), LZ⟩
      · have h0 : ¬ 0 ≤ cz := fun h => hcz (hlk.2 h)
        rw [decide_eq_false h0] at HE
        have HL := Lib.hid hlk
        clear hlk
        have E0 := cell_ext zZ cZ
        have E1 := cell_ext zg' d2
        have E2 := cell_ext zZ2 yZ
        go_wp2_with fail
        refine wp_region_ext (by kernel_rfl) (by kernel_rfl) ?_
        repeat (go_big_quiet_step (fail))
        refine wpQuiet_nil ?_
        intro _ hw'
        obtain ⟨g6, rfl⟩ := hw'
        have LQ := Le.ext Z g6
        have cQ := (LQ.cell zZ).trans cZ
        have zQ := Nat.lt_of_lt_of_le zZ LQ.size
        replace LZ := LZ.trans LQ
        clear E0 E1 E2 cZ yZ d2 zZ zZ2 zg'
        generalize Z.ext g6 = Q at *
        have HCA := Lib.hid (HIC.out _ LQ)
        go_wp2_with fail
        refine HCA.out.mono ?_
        rintro e Q7 ⟨rfl, LQ7⟩
        replace LZ := LZ.trans LQ7
        go_wp2
        go_ret
        exact ⟨ret_str (by rw [HE.out]; show ut = y ++ sepT ++ T; rw [HYT.out, HUT.out]), LZ⟩

theorem errT_whole {xs : List Cls} {hs : List Flt} (i : Int) (h0 : 0 ≤ i) : errT xs hs hs.length [] i = chT xs hs (chainN (shownAt hs) hs.length i) := by
  have e : chainN (shownAt hs) hs.length i = Chn.go (nxShn hs) hs.length (nxShn hs i) ([] ++ [i]) := by
    show chainN (nxShn hs) hs.length i = _
    unfold chainN; rw [go_on (by omega) (by simp)]
  rw [e]
  rfl

set_option maxRecDepth 100000 in
theorem iChainText_any (A H : Option Addr) (n cap m c : Nat) (xs : List Cls) (hs : List Flt) (f : Int) (w : World) (hR : Sl w A n cap xs) (hH : Sl w H m c hs) (hm : m ≤ 1048576) (hG : GotErr w) :
    Calls Tryd.prog 29 #[.agg #[.slice A n cap], .agg #[.slice H m c], .int .i64 f] w fun e w' => e = .returned (.string (ctX xs hs f)) ∧ Le w w' := by
  go_enter Tryd.func29, Tryd.ntmps29
  go_wp2_with fail
  obtain ⟨c0, z0, c1, z1, L0⟩ := box2 w (.slice A n cap) (.slice H m c) 37 32
  have S0 := hH.le L0
  generalize (w.alloc (.cells #[.slice A n cap] 37)).alloc (.cells #[.slice H m c] 32) = W at *
  refine (iHasFault_any A H n cap m c xs hs f W (hR.le L0) S0 (by omega)).mono ?_
  rintro e w1 ⟨rfl, hle⟩
  replace c0 := (hle.cell z0).trans c0
  replace c1 := (hle.cell z1).trans c1
  replace z0 := Nat.lt_of_lt_of_le z0 hle.size
  replace z1 := Nat.lt_of_lt_of_le z1 hle.size
  replace L0 := L0.trans hle
  replace S0 := S0.le hle
  clear hle
  cases ho : goodF xs hs f
  · have HX := Lib.hid (ctX_of ho)
    clear ho
    go_wp2
    go_ret
    exact ⟨ret_str HX.out.symm, L0⟩
  · have HX := Lib.hid (ctX_of ho)
    have hf := goodF_in ho
    have hok := goodF_ok ho
    have hfew := (goodH_of hok).few
    have HG := Lib.hid hf
    obtain ⟨i, rfl, hil⟩ := goodF_at ho
    clear ho hf
    go_wp2_with fail
    refine (iShown_any A H n cap m c i w1).mono ?_
    rintro e w2 ⟨g, rfl, hg, hgs, hle⟩
    have S2 := S0.le hle
    have L2 := L0.trans hle
    have F2 := FCh.one hg
    have hP0 : Chn.Pre (nxShn hs) hs.length (i : Int) (nxShn hs (i : Int)) ([] ++ [(i : Int)]) := by
      have := (Chn.Pre.start (f := (i : Int)) (nx := nxShn hs) (n := hs.length) (by omega)).step (by omega) (by simp) (shownAt_lt HG.out.1 i (by omega) (by omega))
      simpa using this
    have HC := Lib.hid (error_any A H n cap m c xs hs (i : Int) hok hs.length [g] [] 0 i w2 hfew (hR.le L2) S2 (hG.le L2) F2 rfl hil hP0 (by simp) g rfl)
    have HW := Lib.hid (errT_whole (xs := xs) (hs := hs) (i : Int) (by omega))
    clear hg hle hP0 F2 hok
    go_wp2_with fail
    refine HC.out.mono ?_
    rintro e w3 ⟨rfl, hle⟩
    have LL := L2.trans hle
    clear HC
    go_wp2
    go_ret
    exact ⟨ret_str (by rw [HX.out, HW.out]; rfl), LL⟩
end Go.Proofs.YtngepnecgoeicaaDoor
