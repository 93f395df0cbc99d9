/- one text of Tx4, Tx5, HpSi, PF -/
import Derived.Test.YthcolcmgfhkbeaaDoorCt12
import Derived.Test.YthcolcmgfhkbeaaDoorCt5
import Derived.Test.YthcolcmgfhkbeaaDoorCt8
namespace Go.Proofs.YthcolcmgfhkbeaaDoor
open Go.RowKit
set_option linter.unusedVariables false
section
theorem go_pre {nx : Int → Int} : ∀ (m : Nat) (x : Int) (out : List Int), ∃ r, Chn.go nx m x out = out ++ r
  | 0, x, out => ⟨[], by simp [Chn.go]⟩
  | m + 1, x, out => by
    unfold Chn.go
    by_cases h : x < 0 ∨ x ∈ out
    · rw [if_pos h]; exact ⟨[], by simp⟩
    · rw [if_neg h]
      obtain ⟨r, hr⟩ := go_pre m (nx x) (out ++ [x])
      exact ⟨x :: r, by rw [hr]; simp⟩
/-- what a failure at the end of L ++ [i] says -/
def errT (xs : List Cls) (hs : List Flt) (gk : Nat) (L : List Int) (i : Int) : ByteArray := chT xs hs ((Chn.go (nxShn hs) gk (nxShn hs i) (L ++ [i])).drop L.length)
theorem errT_stop {xs : List Cls} {hs : List Flt} {gk : Nat} {L : List Int} {i : Int} (h : nxShn hs i < 0 ∨ nxShn hs i ∈ L ++ [i]) : errT xs hs gk L i = fT xs hs i := by
  unfold errT; rw [go_stop h, List.drop_left' rfl]; rfl
theorem errT_on {xs : List Cls} {hs : List Flt} {gk : Nat} {L : List Int} {i : Int} (h : ¬ (nxShn hs i < 0 ∨ nxShn hs i ∈ L ++ [i])) :
    errT xs hs (gk + 1) L i = errT xs hs gk (L ++ [i]) (nxShn hs i) ++ lnkT hs i ++ fT xs hs i := by
  unfold errT
  have h' : 0 ≤ nxShn hs i ∧ nxShn hs i ∉ L ++ [i] := by simp only [not_or, Int.not_lt] at h; exact h
  rw [go_on h'.1 h'.2]
  obtain ⟨r, hr⟩ := go_pre (nx := nxShn hs) gk (nxShn hs (nxShn hs i)) ((L ++ [i]) ++ [nxShn hs i])
  rw [hr]
  have e1 : ((L ++ [i]) ++ [nxShn hs i] ++ r).drop L.length = i :: (nxShn hs i :: r) := by
    rw [List.append_assoc, List.append_assoc, List.drop_left' rfl]; rfl
  have e2 : ((L ++ [i]) ++ [nxShn hs i] ++ r).drop (L ++ [i]).length = nxShn hs i :: r := by
    rw [List.append_assoc, List.drop_left' rfl]; rfl
  rw [e1, e2]
  rfl
theorem errT_size {xs : List Cls} {hs : List Flt} (hsh : Short xs hs) (hnx : ∀ x : Int, 0 ≤ x → x < hs.length → nxShn hs x < hs.length) (hfew : hs.length ≤ 24) {gk : Nat} {L : List Int} {i : Int} (hg : gk ≤ 24)
    (hL : L.length ≤ 24) (hi : 0 ≤ i ∧ i < hs.length) : (errT xs hs gk L i).size ≤ 2000 := by
  have key : ∀ (m : Nat) (x : Int) (out : List Int), x < hs.length → ∀ r, Chn.go (nxShn hs) m x out = out ++ r → (∀ y ∈ r, 0 ≤ y ∧ y < hs.length) ∧ r.length ≤ m := by
    intro m
    induction m with
    | zero => intro x out _ r hr; simp [Chn.go] at hr; subst hr; simp
    | succ m ih =>
      intro x out hx r hr
      unfold Chn.go at hr
      by_cases h : x < 0 ∨ x ∈ out
      · rw [if_pos h] at hr
        have : r = [] := by simpa using hr
        subst this; simp
      · rw [if_neg h] at hr
        have h0 : 0 ≤ x := by omega
        obtain ⟨r', hr'⟩ := go_pre (nx := nxShn hs) m (nxShn hs x) (out ++ [x])
        have ⟨a, b⟩ := ih (nxShn hs x) (out ++ [x]) (hnx x h0 hx) r' hr'
        rw [hr', List.append_assoc] at hr
        have e := List.append_cancel_left hr
        subst e
        refine ⟨?_, by simp; omega⟩
        intro y hy
        simp at hy
        rcases hy with rfl | hy
        · exact ⟨h0, hx⟩
        · exact a y hy
  obtain ⟨r, hr⟩ := go_pre (nx := nxShn hs) gk (nxShn hs i) (L ++ [i])
  have ⟨a, b⟩ := key gk _ _ (hnx i hi.1 hi.2) r hr
  unfold errT
  rw [hr, List.append_assoc, List.drop_left' rfl]
  have := chT_size hsh ([i] ++ r) (by intro x hx; simp at hx; rcases hx with rfl | hx; exact hi; exact a x hx)
  simp only [List.length_append, List.length_singleton] at this
  omega
theorem lnk_is {hs : List Flt} {i : Nat} (hi : i < hs.length) (h : 0 ≤ nxShn hs (i : Int)) : (nxShn hs (i : Int) = hs[i].cause ↔ 0 ≤ hs[i].cause) := by
  rw [nxShn_at hi] at h ⊢
  simp only at h ⊢
  unfold shownOf at h ⊢
  by_cases hc : 0 ≤ hs[i].cause
  · simp [hc]
  · simp only [decide_eq_false hc] at h ⊢
    constructor
    · intro e
      simp only [cond_false] at e h
      cases hh : hs[i].hide <;> rw [hh] at e h <;> simp at e h <;> omega
    · intro e; exact absurd e hc
end

section
set_option maxHeartbeats 8000000 in
set_option maxRecDepth 100000 in
theorem error_any (A H : Option Addr) (n cap m c : Nat) (xs : List Cls) (hs : List Flt) (f0 : Int) (hok : okHeap xs hs = true) : ∀ (gk : Nat) (gs : List Nat) (L : List Int) (j i : Nat) (w : World), gk ≤ 24 → Sl w A n cap xs → Sl w H m c hs → GotErr w →
    FCh w (.slice A n cap) (.slice H m c) lkShn gs (L ++ [(i : Int)]) → gs.length = j + 1 → i < hs.length → Chn.Pre (nxShn hs) hs.length f0 (nxShn hs i) (L ++ [(i : Int)]) → hs.length + 1 ≤ gk + (L.length + 1) → ∀ (g : Nat), gs[j]? = some g →
    Calls Tryd.prog 41 #[.pointer (some ⟨g, 0, none⟩)] w fun e w' => e = .returned (.string (errT xs hs gk L i)) ∧ Le w w' := by
  intro gk
  induction gk with
  | zero =>
    intro gs L j i w _ _ _ _ _ _ _ hP hm
    have := hP.len
    simp at this
    omega
  | succ gk ih =>
    intro gs L j i w hgk hR hH hG hF hgl hil hP hmm g hgj
    obtain rfl := hH.len
    obtain rfl := hR.len
    have gd := goodH_of hok
    have hsh := short_of hok
    have hfew := gd.few
    have hnx : ∀ x : Int, 0 ≤ x → x < hs.length → nxShn hs x < hs.length := shownAt_lt gd.lnk
    have hjg : j < gs.length := by omega
    have hge : gs[j] = g := by rw [List.getElem?_eq_getElem hjg] at hgj; injection hgj
    have hjl : j = L.length := by have := hF.len; simp at this; omega
    have hPl := hP.len
    simp only [List.length_append, List.length_singleton] at hPl
    have d0 := hF.c0 hjg
    have d1 := hF.c1 hjg
    have d2 := hF.c2 hjg (by simp; omega)
    have hLj : (L ++ [(i : Int)])[j]'(by simp; omega) = (i : Int) := by subst hjl; simp
    rw [hLj] at d2
    have zg := hF.lt j hjg
    rw [hge] at d0 d1 d2 zg
    obtain ⟨b, off, rfl, hb, k0, k1, k2, k3, k4, _⟩ := hH.flt_at hil
    obtain ⟨a, ha⟩ := Int.eq_ofNat_of_zero_le (gd.cls i hil).1
    obtain ⟨d, hd⟩ := Int.eq_ofNat_of_zero_le (gd.code i hil).1
    have hal : a < xs.length := by have := (gd.cls i hil).2; omega
    have hdl : d < 100 := by have := (gd.code i hil).2; omega
    rw [ha] at k0
    rw [hd] at k1
    have hft : fT xs hs i = ccT xs a d := by unfold fT; rw [fltAt_at hil, ha, hd]
    have hT9 : (ccT xs a d).size ≤ 9 := by rw [← hft]; exact hsh _ (by omega) (by omega)
    have hct : ccT xs a d = xs[a].name ++ colT ++ numT d := by unfold ccT; rw [nameAt_at hal]; rfl
    have hn6 : xs[a].name.size ≤ 6 := okName_size (gd.tree.name a hal)
    obtain ⟨bt, ot, rfl, hbt, q0, _, _⟩ := hR.cls_at hal
    have hlk : 0 ≤ nxShn hs (i : Int) → (nxShn hs (i : Int) = hs[i].cause ↔ 0 ≤ hs[i].cause) := lnk_is hil
    have hlt : lnkT hs (i : Int) = cond (decide (0 ≤ hs[i].cause)) sepG sepT := by unfold lnkT; rw [fltAt_at hil]
    generalize hs[i].cause = cz at *
    have HNX := Lib.hid hnx; have HLK := Lib.hid hlk; have HLT := Lib.hid hlt; have HFT := Lib.hid hft; have HCT := Lib.hid hct
    have HSH := Lib.hid hsh; have HGL := Lib.hid hgl; have HGJ := Lib.hid hgj; have HMM := Lib.hid hmm; have HPP := Lib.hid hP; have HIH := Lib.hid ih; have HGD := Lib.hid gd; have HF := Lib.hid hF
    have hiI : (0 : Int) ≤ (i : Int) ∧ (i : Int) < hs.length := by omega
    have haI : (0 : Int) ≤ (a : Int) ∧ (a : Int) < xs.length := by omega
    clear hnx hlk hlt hft hct hsh hgl hgj hmm hP ih gd hF ha hd hLj
    go_enter Tryd.func41, Tryd.ntmps41
    go_wp2_with fail
    replace d1 := drew_cell d1
    replace d2 := drew_cell d2
    replace k0 := drew_cell k0
    replace k1 := drew_cell k1
    replace k2 := drew_cell k2
    replace k3 := drew_cell k3
    replace k4 := drew_cell k4
    have zgd : g < w.drew.heap.size := zg
    have zb : b < w.drew.heap.size := hb
    go_region_held3 (fun w' => w'.cell? ⟨g, 1, none⟩ = some (.slice (some ⟨b, off, none⟩) hs.length c) ∧ w'.cell? ⟨g, 2, none⟩ = some (.int .i64 i) ∧ w'.cell? ⟨b, off + i * 5, none⟩ = some (.int .i64 a) ∧ w'.cell? ⟨b, off + i * 5 + 1, none⟩ = some (.int .i64 d) ∧ w'.cell? ⟨b, off + i * 5 + 2, none⟩ = some (.int .i64 cz) ∧ w'.cell? ⟨b, off + i * 5 + 3, none⟩ = some (.int .i64 hs[i].ctx) ∧ w'.cell? ⟨b, off + i * 5 + 4, none⟩ = some (.bool hs[i].hide))
      (first | exact ⟨d1, d2, k0, k1, k2, k3, k4⟩ | exact ⟨(World.cell?_alloc_past _ _ _ zgd).trans d1, (World.cell?_alloc_past _ _ _ zgd).trans d2, (World.cell?_alloc_past _ _ _ zb).trans k0, (World.cell?_alloc_past _ _ _ zb).trans k1, (World.cell?_alloc_past _ _ _ zb).trans k2, (World.cell?_alloc_past _ _ _ zb).trans k3, (World.cell?_alloc_past _ _ _ zb).trans k4⟩)
      (fail)
    have LX : Le w ((w.alloc (.cells #[.int .i64 (a : Int), .int .i64 (d : Int), .int .i64 cz, .int .i64 hs[i].ctx, .bool hs[i].hide] 49)).drew) := (Le.new w (.cells #[.int .i64 (a : Int), .int .i64 (d : Int), .int .i64 cz, .int .i64 hs[i].ctx, .bool hs[i].hide] 49)).drew
    have x0 : ((w.alloc (.cells #[.int .i64 (a : Int), .int .i64 (d : Int), .int .i64 cz, .int .i64 hs[i].ctx, .bool hs[i].hide] 49)).drew).cell? ⟨w.heap.size, 0, none⟩ = some (.int .i64 a) := by refine drew_cell ?_; rw [World.cell?_alloc_at _ _ _ _ rfl]; rfl
    have x1 : ((w.alloc (.cells #[.int .i64 (a : Int), .int .i64 (d : Int), .int .i64 cz, .int .i64 hs[i].ctx, .bool hs[i].hide] 49)).drew).cell? ⟨w.heap.size, 1, none⟩ = some (.int .i64 d) := by refine drew_cell ?_; rw [World.cell?_alloc_at _ _ _ _ rfl]; rfl
    have x2 : ((w.alloc (.cells #[.int .i64 (a : Int), .int .i64 (d : Int), .int .i64 cz, .int .i64 hs[i].ctx, .bool hs[i].hide] 49)).drew).cell? ⟨w.heap.size, 2, none⟩ = some (.int .i64 cz) := by refine drew_cell ?_; rw [World.cell?_alloc_at _ _ _ _ rfl]; rfl
    have zx : w.heap.size < ((w.alloc (.cells #[.int .i64 (a : Int), .int .i64 (d : Int), .int .i64 cz, .int .i64 hs[i].ctx, .bool hs[i].hide] 49)).drew).heap.size := by show _ < (w.alloc _).heap.size; simp
    rename_i hHH
    clear hHH
    clear k0 k1 k2 k3 k4 d1 d2 zgd zb
    have d0 := (LX.cell zg).trans d0
    have q0 := (LX.cell hbt).trans q0
    replace zg := Nat.lt_of_lt_of_le zg LX.size
    replace hbt := Nat.lt_of_lt_of_le hbt LX.size
    generalize (w.alloc (.cells #[.int .i64 (a : Int), .int .i64 (d : Int), .int .i64 cz, .int .i64 hs[i].ctx, .bool hs[i].hide] 49)).drew = X at *
    have hs1 : (xs[a].name.size : Int) ≤ 8388608 := by omega
    have hs2 : ((xs[a].name ++ colT).size : Int) ≤ 8388608 := by rw [ByteArray.size_append]; have : colT.size = 1 := rfl; omega
    have hs3 : ((numT d).size : Int) ≤ 8388608 := by have := numT_le hdl; omega
    have HIT := Lib.hid (fun w => itoa_any d w hdl)
    generalize xs[a].name = s at *
    generalize numT d = u at *
    have hadd1 : ∀ w, (Op.stringOp .add s ⟨#[58]⟩).run Tryd.prog w = .ok (.string (s ++ colT)) w := fun w => run_string_add w s colT hs1 (by decide)
    obtain ⟨y, hy⟩ : ∃ y, s ++ colT = y := ⟨_, rfl⟩
    rw [hy] at hadd1 hs2 HCT
    have hadd2 : ∀ w, (Op.stringOp .add y u).run Tryd.prog w = .ok (.string (y ++ u)) w := fun w => run_string_add w y u hs2 hs3
    obtain ⟨T, hT⟩ : ∃ T, y ++ u = T := ⟨_, rfl⟩
    rw [hT] at hadd2 HCT
    rw [HCT.out] at hT9 HFT
    clear hs1 hs2 hs3 hn6 hy hT HCT
    have E0 := cell_ext zg d0
    have E1 := cell_ext hbt q0
    have E2 := cell_ext zx x0
    have E3 := cell_ext zx x1
    go_wp2_with fail
    refine wp_region_ext (by kernel_rfl) (by kernel_rfl) ?_
    repeat (go_big_quiet_step (first | (go_at_call 66; exact Calls.ext_of (HIT.out _))))
    refine wpQuiet_nil ?_
    intro _ hw'
    obtain ⟨g2, rfl⟩ := hw'
    replace LX := LX.trans (Le.ext X g2)
    replace x2 := ((Le.ext X g2).cell zx).trans x2
    replace zx := Nat.lt_of_lt_of_le zx (Le.ext X g2).size
    clear E0 E1 E2 E3 x0 x1 d0 q0 hadd1 hadd2 HIT
    generalize X.ext g2 = X2 at *
    go_wp2_with fail
    have LW := LX.trans (Le.new X2 (.cells #[.pointer none] 58))
    have cb : (X2.alloc (.cells #[.pointer none] 58)).cell? ⟨X2.heap.size, 0, none⟩ = some (.pointer none) := by rw [World.cell?_alloc_at _ _ _ _ rfl]; rfl
    have fb : (X2.alloc (.cells #[.pointer none] 58)).frozen? ⟨X2.heap.size, 0, none⟩ = false := World.frozen?_alloc_at _ _ _ _ rfl
    have zb : X2.heap.size < (X2.alloc (.cells #[.pointer none] 58)).heap.size := by simp
    have y2 := ((Le.new X2 (.cells #[.pointer none] 58)).cell zx).trans x2
    have hsX := LX.size
    have HZX := Lib.hid zx
    clear x2 zx
    have hU := unwrapShn_any (.slice (some ⟨bt, ot, none⟩) xs.length cap) (some ⟨b, off, none⟩) hs.length c hs gs (L ++ [(i : Int)]) j i _ (hH.le LW) (HF.out.le LW) HGL.out hil (by subst hjl; simp) ⟨_, _, _, rfl⟩
    rw [hge] at hU
    have HW := Lib.hid (rfl : X2.alloc (.cells #[.pointer none] 58) = X2.alloc (.cells #[.pointer none] 58))
    generalize X2.alloc (.cells #[.pointer none] 58) = W2 at *
    clear HW
    generalize X2.heap.size = t at *
    refine hU.mono ?_
    rintro e w4 ⟨hle4, (⟨hnx, rfl⟩ | ⟨hnx, g', rfl, F4, hg'⟩)⟩
    · have HE := Lib.hid (errT_stop (xs := xs) (gk := gk + 1) hnx)
      have L4 := LW.trans hle4
      clear hnx hU
      go_wp2_with fail
      refine (as_nil _ _).mono ?_
      rintro e w' ⟨rfl, rfl⟩
      go_wp2
      go_ret
      exact ⟨ret_str (by rw [HE.out, HFT.out]), L4⟩
    · have HE := Lib.hid (errT_on (xs := xs) (gk := gk) hnx)
      have hnx' : 0 ≤ nxShn hs (i : Int) ∧ nxShn hs (i : Int) ∉ L ++ [(i : Int)] := by
        simp only [not_or, Int.not_lt] at hnx
        exact hnx
      have hlk := HLK.out hnx'.1
      have hlt2 := HNX.out (i : Int) (by omega) (by omega)
      have HPS := Lib.hid (HPP.out.step hnx'.1 hnx'.2 (HNX.out _ hnx'.1 hlt2))
      obtain ⟨i', hi'⟩ := Int.eq_ofNat_of_zero_le hnx'.1
      rw [hi'] at HE HPS F4 hlt2 hlk
      have L4 := LW.trans hle4
      have c4 := (hle4.cell zb).trans cb
      have f4 := (hle4.frozen zb).trans fb
      have z4 := Nat.lt_of_lt_of_le zb hle4.size
      have hzxW : w.heap.size < W2.heap.size := Nat.lt_trans HZX.out zb
      have y4 := (hle4.cell hzxW).trans y2
      have y4z := Nat.lt_of_lt_of_le hzxW hle4.size
      clear hnx hnx' hU hle4 cb fb y2 hi' 
      go_wp2_with fail
      refine (as_hit ⟨g', 0, none⟩ t (.pointer none) w4 (hG.le L4) c4 z4 f4).mono ?_
      rintro e Z ⟨rfl, W, hW, rfl⟩
      have FZ : FCh (W.setCell ⟨t, 0, none⟩ (.pointer (some ⟨g', 0, none⟩))) (.slice (some ⟨bt, ot, none⟩) xs.length cap) (.slice (some ⟨b, off, none⟩) hs.length c) lkShn (gs ++ [g']) ((L ++ [(i : Int)]) ++ [(i' : Int)]) :=
        (F4.le hW).keepShn (by simp [World.setCell]) (fun k hk => heap_setCell_other _ _ _ _ (by
          show (gs ++ [g'])[k] ≠ t
          rcases Nat.lt_or_ge k gs.length with h1 | h1
          · rw [List.getElem_append_left h1]; have := HF.out.lt k h1; have := HZX.out; omega
          · rw [List.getElem_append_right h1]
            simp only [List.getElem_singleton]
            omega))
      have cZ : (W.setCell ⟨t, 0, none⟩ (.pointer (some ⟨g', 0, none⟩))).cell? ⟨t, 0, none⟩ = some (.pointer (some ⟨g', 0, none⟩)) := cell_set_same ((hW.cell z4).trans c4)
      have yZ : (W.setCell ⟨t, 0, none⟩ (.pointer (some ⟨g', 0, none⟩))).cell? ⟨w.heap.size, 2, none⟩ = some (.int .i64 cz) := (cell_set_other (.inl (by have := HZX.out; omega))).trans ((hW.cell y4z).trans y4)
      have zZ : t < (W.setCell ⟨t, 0, none⟩ (.pointer (some ⟨g', 0, none⟩))).heap.size := by have := Nat.lt_of_lt_of_le z4 hW.size; simpa [World.setCell] using this
      have zZ2 : w.heap.size < (W.setCell ⟨t, 0, none⟩ (.pointer (some ⟨g', 0, none⟩))).heap.size := by have := Nat.lt_of_lt_of_le y4z hW.size; simpa [World.setCell] using this
      have LZ : Le w (W.setCell ⟨t, 0, none⟩ (.pointer (some ⟨g', 0, none⟩))) := (L4.trans hW).setCell (Nat.le_of_lt HZX.out) _
      have hgl2 : (gs ++ [g']).length = j + 1 + 1 := by simp [HGL.out]
      have hgj2 : (gs ++ [g'])[j + 1]? = some g' := by rw [← HGL.out, List.getElem?_append_right (Nat.le_refl _)]; simp
      have hjg2 : j + 1 < (gs ++ [g']).length := by omega
      have d2 := FZ.c2 hjg2 (by simp; omega)
      have hgg : (gs ++ [g'])[j + 1] = g' := by rw [List.getElem?_eq_getElem hjg2] at hgj2; injection hgj2
      have hLj2 : ((L ++ [(i : Int)]) ++ [(i' : Int)])[j + 1]'(by simp; omega) = (i' : Int) := by subst hjl; simp
      rw [hgg, hLj2] at d2
      have zg' := FZ.lt (j + 1) hjg2
      rw [hgg] at zg'
      clear c4 z4 f4 y4 y4z F4 hzxW L4 zb
      generalize W.setCell ⟨t, 0, none⟩ (.pointer (some ⟨g', 0, none⟩)) = Z at *
      have HIC := Lib.hid (fun (q : World) (hq : Le Z q) => HIH.out (gs ++ [g']) (L ++ [(i : Int)]) (j + 1) i' q (by omega) ((hR.le LZ).le hq) ((hH.le LZ).le hq) (hG.le (LZ.trans hq)) (FZ.le hq) hgl2 (by omega) HPS.out (by have := HMM.out; simp only [List.length_append, List.length_singleton]; omega) g' hgj2)
      have hys := errT_size HSH.out HNX.out hfew (gk := gk) (L := L ++ [(i : Int)]) (i := (i' : Int)) (by omega) (by simp only [List.length_append, List.length_singleton]; omega) (by omega)
      have HLT' := Lib.hid HLT.out
      rw [HFT.out, HLT.out] at HE
      generalize errT xs hs gk (L ++ [(i : Int)]) (i' : Int) = y at *
      have hg1 : ∀ w, (Op.stringOp .add y ⟨#[32, 62, 32]⟩).run Tryd.prog w = .ok (.string (y ++ sepG)) w := fun w => run_string_add w y sepG (by omega) (by decide)
      have hg2 : ∀ w, (Op.stringOp .add y ⟨#[32, 126, 32]⟩).run Tryd.prog w = .ok (.string (y ++ sepT)) w := fun w => run_string_add w y sepT (by omega) (by decide)
      have hzg : (y ++ sepG).size ≤ 4000 := by rw [ByteArray.size_append]; have : sepG.size = 3 := rfl; omega
      have hzt : (y ++ sepT).size ≤ 4000 := by rw [ByteArray.size_append]; have : sepT.size = 3 := rfl; omega
      obtain ⟨yg, hyg⟩ : ∃ yg, y ++ sepG = yg := ⟨_, rfl⟩
      obtain ⟨yt, hyt⟩ : ∃ yt, y ++ sepT = yt := ⟨_, rfl⟩
      rw [hyg] at hg1 hzg
      rw [hyt] at hg2 hzt
      have hk1 : ∀ w, (Op.stringOp .add yg T).run Tryd.prog w = .ok (.string (yg ++ T)) w := fun w => run_string_add w yg T (by omega) (by omega)
      have hk2 : ∀ w, (Op.stringOp .add yt T).run Tryd.prog w = .ok (.string (yt ++ T)) w := fun w => run_string_add w yt T (by omega) (by omega)
      have HYG := Lib.hid hyg
      have HYT := Lib.hid hyt
      obtain ⟨ug, hug⟩ : ∃ ug, yg ++ T = ug := ⟨_, rfl⟩
      obtain ⟨ut, hut⟩ : ∃ ut, yt ++ T = ut := ⟨_, rfl⟩
      rw [hug] at hk1
      rw [hut] at hk2
      have HUG := Lib.hid hug
      have HUT := Lib.hid hut
      clear hyg hyt hug hut hzg hzt hys hT9 hgl2 hgj2 hjg2 hgg hLj2 FZ
      by_cases hcz : (i' : Int) = cz
      · have h0 := hlk.1 hcz
        rw [decide_eq_true h0] at HE
        have HC := Lib.hid hcz; have HL := Lib.hid hlk
        subst hcz
        clear hlk
        have E0 := cell_ext zZ cZ
        have E1 := cell_ext zg' d2
        have E2 := cell_ext zZ2 yZ
        go_wp2_with fail
        refine wp_region_ext (by kernel_rfl) (by kernel_rfl) ?_
        repeat (go_big_quiet_step (fail))
        refine wpQuiet_nil ?_
        intro _ hw'
        obtain ⟨g6, rfl⟩ := hw'
        have LQ := Le.ext Z g6
        have cQ := (LQ.cell zZ).trans cZ
        have zQ := Nat.lt_of_lt_of_le zZ LQ.size
        replace LZ := LZ.trans LQ
        clear E0 E1 E2 cZ yZ d2 zZ zZ2 zg'
        generalize Z.ext g6 = Q at *
        have HCA := Lib.hid (HIC.out _ LQ)
        go_wp2_with fail
        refine HCA.out.mono ?_
        rintro e Q7 ⟨rfl, LQ7⟩
        replace LZ := LZ.trans LQ7
        go_wp2
        go_ret
        exact ⟨ret_str (by rw [HE.out]; show ug = y ++ sepG ++ T; rw [HYG.out, HUG.out]), LZ⟩
      · have h0 : ¬ 0 ≤ cz := fun h => hcz (hlk.2 h)
        rw [decide_eq_false h0] at HE
        have HL := Lib.hid hlk
        clear hlk
        have E0 := cell_ext zZ cZ
        have E1 := cell_ext zg' d2
        have E2 := cell_ext zZ2 yZ
        go_wp2_with fail
        refine wp_region_ext (by kernel_rfl) (by kernel_rfl) ?_
        repeat (go_big_quiet_step (fail))
        refine wpQuiet_nil ?_
        intro _ hw'
        obtain ⟨g6, rfl⟩ := hw'
        have LQ := Le.ext Z g6
        have cQ := (LQ.cell zZ).trans cZ
        have zQ := Nat.lt_of_lt_of_le zZ LQ.size
        replace LZ := LZ.trans LQ
        clear E0 E1 E2 cZ yZ d2 zZ zZ2 zg'
        generalize Z.ext g6 = Q at *
        have HCA := Lib.hid (HIC.out _ LQ)
        go_wp2_with fail
        refine HCA.out.mono ?_
        rintro e Q7 ⟨rfl, LQ7⟩
        replace LZ := LZ.trans LQ7
        go_wp2
        go_ret
        exact ⟨ret_str (by rw [HE.out]; show ut = y ++ sepT ++ T; rw [HYT.out, HUT.out]), LZ⟩

theorem errT_whole {xs : List Cls} {hs : List Flt} (i : Int) (h0 : 0 ≤ i) : errT xs hs hs.length [] i = chT xs hs (chainN (shownAt hs) hs.length i) := by
  have e : chainN (shownAt hs) hs.length i = Chn.go (nxShn hs) hs.length (nxShn hs i) ([] ++ [i]) := by
    show chainN (nxShn hs) hs.length i = _
    unfold chainN; rw [go_on (by omega) (by simp)]
  rw [e]
  rfl

set_option maxRecDepth 100000 in
theorem iChainText_any (A H : Option Addr) (n cap m c : Nat) (xs : List Cls) (hs : List Flt) (f : Int) (w : World) (hR : Sl w A n cap xs) (hH : Sl w H m c hs) (hm : m ≤ 1048576) (hG : GotErr w) :
    Calls Tryd.prog 13 #[.agg #[.slice A n cap], .agg #[.slice H m c], .int .i64 f] w fun e w' => e = .returned (.string (ctX xs hs f)) ∧ Le w w' := by
  go_enter Tryd.func13, Tryd.ntmps13
  go_wp2_with fail
  obtain ⟨c0, z0, c1, z1, L0⟩ := box2 w (.slice A n cap) (.slice H m c) 25 28
  have S0 := hH.le L0
  generalize (w.alloc (.cells #[.slice A n cap] 25)).alloc (.cells #[.slice H m c] 28) = W at *
  refine (iHasFault_any A H n cap m c xs hs f W (hR.le L0) S0 (by omega)).mono ?_
  rintro e w1 ⟨rfl, hle⟩
  replace c0 := (hle.cell z0).trans c0
  replace c1 := (hle.cell z1).trans c1
  replace z0 := Nat.lt_of_lt_of_le z0 hle.size
  replace z1 := Nat.lt_of_lt_of_le z1 hle.size
  replace L0 := L0.trans hle
  replace S0 := S0.le hle
  clear hle
  cases ho : goodF xs hs f
  · have HX := Lib.hid (ctX_of ho)
    clear ho
    go_wp2
    go_ret
    exact ⟨ret_str HX.out.symm, L0⟩
  · have HX := Lib.hid (ctX_of ho)
    have hf := goodF_in ho
    have hok := goodF_ok ho
    have hfew := (goodH_of hok).few
    have HG := Lib.hid hf
    obtain ⟨i, rfl, hil⟩ := goodF_at ho
    clear ho hf
    go_wp2_with fail
    refine (iShown_any A H n cap m c i w1).mono ?_
    rintro e w2 ⟨g, rfl, hg, hgs, hle⟩
    have S2 := S0.le hle
    have L2 := L0.trans hle
    have F2 := FCh.one hg
    have hP0 : Chn.Pre (nxShn hs) hs.length (i : Int) (nxShn hs (i : Int)) ([] ++ [(i : Int)]) := by
      have := (Chn.Pre.start (f := (i : Int)) (nx := nxShn hs) (n := hs.length) (by omega)).step (by omega) (by simp) (shownAt_lt HG.out.1 i (by omega) (by omega))
      simpa using this
    have HC := Lib.hid (error_any A H n cap m c xs hs (i : Int) hok hs.length [g] [] 0 i w2 hfew (hR.le L2) S2 (hG.le L2) F2 rfl hil hP0 (by simp) g rfl)
    have HW := Lib.hid (errT_whole (xs := xs) (hs := hs) (i : Int) (by omega))
    clear hg hle hP0 F2 hok
    go_wp2_with fail
    refine HC.out.mono ?_
    rintro e w3 ⟨rfl, hle⟩
    have LL := L2.trans hle
    clear HC
    go_wp2
    go_ret
    exact ⟨ret_str (by rw [HX.out, HW.out]; rfl), LL⟩
end

section
set_option maxHeartbeats 4000000 in
set_option maxRecDepth 100000 in
theorem iSetCause_any (A H : Option Addr) (n cap m k : Nat) (xs : List Cls) (hs : List Flt) (f : Int) (c : Int) (w : World) (hR : Sl w A n cap xs) (hH : Sl w H m k hs) (hm : m ≤ 1048576) (hc : -9223372036854775808 ≤ c ∧ c ≤ 9223372036854775807) :
    Calls Tryd.prog 20 #[.agg #[.slice A n cap], .agg #[.slice H m k], .int .i64 f, .int .i64 c] w fun e w' => ∃ v, e = .returned (.tuple #[.agg #[v], .bool (scOk xs hs f c)]) ∧ Owd 49 w w' v (scX xs hs f c) ∧ Le w w' := by
  obtain rfl := hH.len
  obtain ⟨c0, z0, c1, z1, c2, z2, L0⟩ := box3 w (.slice A n cap) (.slice H hs.length k) (.slice none 0 0) 25 28 28
  have f2 : (((w.alloc (.cells #[.slice A n cap] 25)).alloc (.cells #[.slice H hs.length k] 28)).alloc (.cells #[.slice none 0 0] 28)).frozen? ⟨w.heap.size + 1 + 1, 0, none⟩ = false := World.frozen?_alloc_at _ _ _ _ (by simp)
  have S0 := hR.le L0
  have S1 := hH.le L0
  have HK := Lib.hid hH.ok
  have hs0 : w.heap.size ≤ (((w.alloc (.cells #[.slice A n cap] 25)).alloc (.cells #[.slice H hs.length k] 28)).alloc (.cells #[.slice none 0 0] 28)).heap.size := L0.size
  have HV : Hid (scOk xs hs f c = (goodF xs hs f && vl hs.length f c)) := rfl
  cases h1 : goodF xs hs f
  · have hX : scOk xs hs f c = false := by rw [HV.out, h1]; rfl
    have HF := Lib.hid (scX_of hX)
    have HX := Lib.hid hX; clear hX
    go_enter Tryd.func20, Tryd.ntmps20
    go_wp2_with fail
    generalize ((w.alloc (.cells #[.slice A n cap] 25)).alloc (.cells #[.slice H hs.length k] 28)).alloc (.cells #[.slice none 0 0] 28) = W at *
    have zW := z2
    refine (iHasFault_any A H n cap hs.length k xs hs _ W S0 S1 (by omega)).mono ?_
    rintro e w2 ⟨rfl, hle⟩
    rw [h1]
    replace c0 := (hle.cell z0).trans c0
    replace c1 := (hle.cell z1).trans c1
    replace c2 := (hle.cell z2).trans c2
    replace f2 := (hle.frozen z2).trans f2
    replace z0 := Nat.lt_of_lt_of_le z0 hle.size
    replace z1 := Nat.lt_of_lt_of_le z1 hle.size
    replace z2 := Nat.lt_of_lt_of_le z2 hle.size
    replace L0 := L0.trans hle
    replace S0 := S0.le hle
    replace S1 := S1.le hle
    have hs2 := hle.size
    clear hle h1
    have hend := fun u => cell_set_same (v := u) c2
    go_wp2
    exact bodyPost_ret (v := .tuple #[.agg #[.slice none 0 0], .bool false]) (by simp [results, Tryd.results20, go_sem, hend]) rfl ⟨_, by first | rfl | rw [HX.out], by rw [HF.out]; exact Owd.nil _ _ _, L0.setCell (by omega) _⟩
  · obtain ⟨i, rfl, hi⟩ := goodF_at h1
    have hfew := goodF_few h1
    have him : (i : Int) < (hs.length : Int) := by omega
    cases h2 : vl hs.length i c
    · have hX : scOk xs hs i c = false := by rw [HV.out, h1, h2]; rfl
      have HF := Lib.hid (scX_of hX)
      have HX := Lib.hid hX; clear hX
      go_enter Tryd.func20, Tryd.ntmps20
      go_wp2_with fail
      generalize ((w.alloc (.cells #[.slice A n cap] 25)).alloc (.cells #[.slice H hs.length k] 28)).alloc (.cells #[.slice none 0 0] 28) = W at *
      have zW := z2
      refine (iHasFault_any A H n cap hs.length k xs hs _ W S0 S1 (by omega)).mono ?_
      rintro e w2 ⟨rfl, hle⟩
      rw [h1]
      replace c0 := (hle.cell z0).trans c0
      replace c1 := (hle.cell z1).trans c1
      replace c2 := (hle.cell z2).trans c2
      replace f2 := (hle.frozen z2).trans f2
      replace z0 := Nat.lt_of_lt_of_le z0 hle.size
      replace z1 := Nat.lt_of_lt_of_le z1 hle.size
      replace z2 := Nat.lt_of_lt_of_le z2 hle.size
      replace L0 := L0.trans hle
      replace S0 := S0.le hle
      replace S1 := S1.le hle
      have hs2 := hle.size
      clear hle h1
      go_wp2_with fail
      refine (validLink_any hs.length i c _ (by omega) (by omega)).mono ?_
      rintro e w3 ⟨rfl, hle⟩
      rw [h2]
      replace c0 := (hle.cell z0).trans c0
      replace c1 := (hle.cell z1).trans c1
      replace c2 := (hle.cell z2).trans c2
      replace f2 := (hle.frozen z2).trans f2
      replace z0 := Nat.lt_of_lt_of_le z0 hle.size
      replace z1 := Nat.lt_of_lt_of_le z1 hle.size
      replace z2 := Nat.lt_of_lt_of_le z2 hle.size
      replace L0 := L0.trans hle
      replace S0 := S0.le hle
      replace S1 := S1.le hle
      have hs3 := hle.size
      clear hle h2
      have hend := fun u => cell_set_same (v := u) c2
      go_wp2
      exact bodyPost_ret (v := .tuple #[.agg #[.slice none 0 0], .bool false]) (by simp [results, Tryd.results20, go_sem, hend]) rfl ⟨_, by first | rfl | rw [HX.out], by rw [HF.out]; exact Owd.nil _ _ _, L0.setCell (by omega) _⟩
    · have hX : scOk xs hs i c = true := by rw [HV.out, h1, h2]; rfl
      have HF := Lib.hid (scX_of hX)
      have HX := Lib.hid hX; clear hX
      go_enter Tryd.func20, Tryd.ntmps20
      go_wp2_with fail
      generalize ((w.alloc (.cells #[.slice A n cap] 25)).alloc (.cells #[.slice H hs.length k] 28)).alloc (.cells #[.slice none 0 0] 28) = W at *
      have zW := z2
      refine (iHasFault_any A H n cap hs.length k xs hs _ W S0 S1 (by omega)).mono ?_
      rintro e w2 ⟨rfl, hle⟩
      rw [h1]
      replace c0 := (hle.cell z0).trans c0
      replace c1 := (hle.cell z1).trans c1
      replace c2 := (hle.cell z2).trans c2
      replace f2 := (hle.frozen z2).trans f2
      replace z0 := Nat.lt_of_lt_of_le z0 hle.size
      replace z1 := Nat.lt_of_lt_of_le z1 hle.size
      replace z2 := Nat.lt_of_lt_of_le z2 hle.size
      replace L0 := L0.trans hle
      replace S0 := S0.le hle
      replace S1 := S1.le hle
      have hs2 := hle.size
      clear hle h1
      go_wp2_with fail
      refine (validLink_any hs.length i c _ (by omega) (by omega)).mono ?_
      rintro e w3 ⟨rfl, hle⟩
      rw [h2]
      replace c0 := (hle.cell z0).trans c0
      replace c1 := (hle.cell z1).trans c1
      replace c2 := (hle.cell z2).trans c2
      replace f2 := (hle.frozen z2).trans f2
      replace z0 := Nat.lt_of_lt_of_le z0 hle.size
      replace z1 := Nat.lt_of_lt_of_le z1 hle.size
      replace z2 := Nat.lt_of_lt_of_le z2 hle.size
      replace L0 := L0.trans hle
      replace S0 := S0.le hle
      replace S1 := S1.le hle
      have hs3 := hle.size
      clear hle h2
      have HE0 : Hid (∀ x ∈ setF hs i (cauF c), Enc.ok x) := setF_ok HK.out (cauF_ok hc)
      go_wp2_with fail
      refine (iCopyHeap_any H hs.length k hs _ S1 (by omega)).mono ?_
      rintro e w4 ⟨v, rfl, D, hle⟩
      obtain ⟨g, q, rfl, O, hg0, hg1⟩ := D.blk (by omega)
      have hs4 := hle.size
      replace c0 := (hle.cell z0).trans c0
      replace c1 := (hle.cell z1).trans c1
      replace c2 := (hle.cell z2).trans c2
      replace f2 := (hle.frozen z2).trans f2
      replace z0 := Nat.lt_of_lt_of_le z0 hle.size
      replace z1 := Nat.lt_of_lt_of_le z1 hle.size
      replace z2 := Nat.lt_of_lt_of_le z2 hle.size
      replace L0 := L0.trans hle
      clear hle D S0 S1
      have cB : (w4.alloc (.cells #[.slice (some ⟨g, 0, none⟩) hs.length q] 28)).cell? ⟨w4.heap.size, 0, none⟩ = some (.slice (some ⟨g, 0, none⟩) hs.length q) := by rw [World.cell?_alloc_at _ _ _ _ rfl]; rfl
      have zB : w4.heap.size < (w4.alloc (.cells #[.slice (some ⟨g, 0, none⟩) hs.length q] 28)).heap.size := by simp
      have LB := Le.new w4 (.cells #[.slice (some ⟨g, 0, none⟩) hs.length q] 28)
      replace c0 := (LB.cell z0).trans c0
      replace c1 := (LB.cell z1).trans c1
      replace c2 := (LB.cell z2).trans c2
      replace f2 := (LB.frozen z2).trans f2
      replace z0 := Nat.lt_of_lt_of_le z0 LB.size
      replace z1 := Nat.lt_of_lt_of_le z1 LB.size
      replace z2 := Nat.lt_of_lt_of_le z2 LB.size
      replace L0 := L0.trans LB
      replace O := own_le O LB
      clear LB
      go_wp2_with fail
      generalize w4.alloc (.cells #[.slice (some ⟨g, 0, none⟩) hs.length q] 28) = W6 at *
      obtain ⟨W5, hW5⟩ : ∃ W5, W5 = W6.drew := ⟨_, rfl⟩
      replace cB := (show W6.drew.cell? _ = _ from cB)
      replace c2 := (show W6.drew.cell? _ = _ from c2)
      replace f2 := (show W6.drew.frozen? _ = _ from f2)
      replace zB := (show w4.heap.size < W6.drew.heap.size from zB)
      replace O := O.drew
      replace L0 := L0.drew
      rw [← hW5] at cB c2 f2 zB O L0
      have hgW : g < W5.heap.size := by omega
      have q2 := O.cellAt (i * 5 + 2) (by omega)
      have q4 := O.cellAt (i * 5 + 4) (by omega)
      rw [show (hs.flatMap (Enc.cells (α := Flt)))[i * 5 + 2]? = _ from (flat_at hs i hi 2 (by decide))] at q2
      rw [show (hs.flatMap (Enc.cells (α := Flt)))[i * 5 + 4]? = _ from (flat_at hs i hi 4 (by decide))] at q4
      simp only [Enc.cells, List.getElem?_cons_succ, List.getElem?_cons_zero] at q2 q4
      have e2 := O.frozenAt (i * 5 + 2)
      have e4 := O.frozenAt (i * 5 + 4)
      have O5 := ((O.stored (i * 5 + 2) (.int .i64 c)).1.stored (i * 5 + 4) (.bool true)).1
      rw [flat_cau hs i hi c] at O5
      have L5 : Le w ((W5.setCell ⟨g, i * 5 + 2, none⟩ (.int .i64 c)).setCell ⟨g, i * 5 + 4, none⟩ (.bool true)) := by first | exact (L0.setCell (by omega) _).setCell (by omega) _ | exact L0.setCell (by omega) _
      have c5 : ((W5.setCell ⟨g, i * 5 + 2, none⟩ (.int .i64 c)).setCell ⟨g, i * 5 + 4, none⟩ (.bool true)).cell? ⟨w.heap.size + 1 + 1, 0, none⟩ = some (.slice none 0 0) := by first | exact ((cell_set_other (.inl (by omega))).trans (cell_set_other (.inl (by omega)))).trans c2 | exact (cell_set_other (.inl (by omega))).trans c2
      have f5 : ((W5.setCell ⟨g, i * 5 + 2, none⟩ (.int .i64 c)).setCell ⟨g, i * 5 + 4, none⟩ (.bool true)).frozen? ⟨w.heap.size + 1 + 1, 0, none⟩ = false := by simpa using f2
      have d5 : ((W5.setCell ⟨g, i * 5 + 2, none⟩ (.int .i64 c)).setCell ⟨g, i * 5 + 4, none⟩ (.bool true)).cell? ⟨w4.heap.size, 0, none⟩ = some (.slice (some ⟨g, 0, none⟩) hs.length q) := by first | exact ((cell_set_other (.inl (by omega))).trans (cell_set_other (.inl (by omega)))).trans cB | exact (cell_set_other (.inl (by omega))).trans cB
      have hend := fun u => cell_set_same (v := u) c5
      have HE := Lib.hid (res_end (r := w.heap.size + 1 + 1) L5 (by omega) (show w.heap.size + 1 + 1 < w.heap.size + 1 + 1 + 1 from Nat.lt_succ_self _) (own_mono (base := _) (by rw [setF_len]; exact O5) (by omega)) HE0.out)
      clear HE0
      subst hW5
      have e6 : (W6.drew.setCell ⟨g, i * 5 + 2, none⟩ (.int .i64 c)).frozen? ⟨g, i * 5 + 4, none⟩ = false := by simpa using e4
      have d6 : (W6.drew.setCell ⟨g, i * 5 + 2, none⟩ (.int .i64 c)).cell? ⟨w4.heap.size, 0, none⟩ = some (.slice (some ⟨g, 0, none⟩) hs.length q) := (cell_set_other (.inl (by omega))).trans cB
      have q6 : (W6.drew.setCell ⟨g, i * 5 + 2, none⟩ (.int .i64 c)).cell? ⟨g, i * 5 + 4, none⟩ = some (.bool hs[i].hide) := (cell_set_other (.inr (by omega))).trans q4
      have q7 := (show (W6.setCell ⟨g, i * 5 + 2, none⟩ (.int .i64 c)).cell? ⟨g, i * 5 + 4, none⟩ = some (.bool hs[i].hide) from q6)
      have e7 := (show (W6.setCell ⟨g, i * 5 + 2, none⟩ (.int .i64 c)).frozen? ⟨g, i * 5 + 4, none⟩ = false from e6)
      have q8 := (show (W6.setCell ⟨g, i * 5 + 2, none⟩ (.int .i64 c)).drew.cell? ⟨g, i * 5 + 4, none⟩ = some (.bool hs[i].hide) from q6)
      have e8 := (show (W6.setCell ⟨g, i * 5 + 2, none⟩ (.int .i64 c)).drew.frozen? ⟨g, i * 5 + 4, none⟩ = false from e6)
      go_region_held3 (fun w' => w'.cell? ⟨w4.heap.size, 0, none⟩ = some (.slice (some ⟨g, 0, none⟩) hs.length q)) (first | exact cB | exact d6 | exact d5) (fail)
      have c8 := (show ((W6.setCell ⟨g, i * 5 + 2, none⟩ (.int .i64 c)).setCell ⟨g, i * 5 + 4, none⟩ (.bool true)).drew.cell? ⟨w.heap.size + 1 + 1, 0, none⟩ = some (.slice none 0 0) from c5)
      have f8 := (show ((W6.setCell ⟨g, i * 5 + 2, none⟩ (.int .i64 c)).setCell ⟨g, i * 5 + 4, none⟩ (.bool true)).drew.frozen? ⟨w.heap.size + 1 + 1, 0, none⟩ = false from f5)
      have d8 := (show ((W6.setCell ⟨g, i * 5 + 2, none⟩ (.int .i64 c)).setCell ⟨g, i * 5 + 4, none⟩ (.bool true)).drew.cell? ⟨w4.heap.size, 0, none⟩ = some (.slice (some ⟨g, 0, none⟩) hs.length q) from d5)
      have HE2 : Hid (∀ u : Value, Owd 49 w (((W6.setCell ⟨g, i * 5 + 2, none⟩ (.int .i64 c)).setCell ⟨g, i * 5 + 4, none⟩ (.bool true)).drew.setCell ⟨w.heap.size + 1 + 1, 0, none⟩ u) (.slice (some ⟨g, 0, none⟩) hs.length q) (setF hs i (cauF c)) ∧ Le w (((W6.setCell ⟨g, i * 5 + 2, none⟩ (.int .i64 c)).setCell ⟨g, i * 5 + 4, none⟩ (.bool true)).drew.setCell ⟨w.heap.size + 1 + 1, 0, none⟩ u)) := HE.out
      clear hend c5 f5 d5 d6 q6 e6 q7 e7 q8 e8 HE
      generalize ((W6.setCell ⟨g, i * 5 + 2, none⟩ (.int .i64 c)).setCell ⟨g, i * 5 + 4, none⟩ (.bool true)).drew = W9 at *
      have HE := HE2
      have hend := fun u => cell_set_same (v := u) c8
      go_wp2
      exact bodyPost_ret (v := .tuple #[.agg #[.slice (some ⟨g, 0, none⟩) hs.length q], .bool true]) (by simp [results, Tryd.results20, go_sem, hend]) rfl ⟨_, by first | rfl | rw [HX.out], by rw [HF.out]; exact (HE.out _).1, (HE.out _).2⟩
end

section
/-- how many colons a text has -/
def colons (s : ByteArray) : Nat := s.data.toList.countP (· == 58)
theorem colons_append (a b : ByteArray) : colons (a ++ b) = colons a + colons b := by
  unfold colons
  rw [ByteArray.data_append, Array.toList_append, List.countP_append]
theorem colons_lowers : ∀ (l : List UInt8), lowers l = true → l.countP (· == 58) = 0
  | [], _ => rfl
  | c :: r, h => by
    unfold lowers at h
    simp only [Bool.and_eq_true, decide_eq_true_eq] at h
    rw [List.countP_cons, colons_lowers r h.2]
    have : (c == 58) = false := by
      rw [beq_eq_false_iff_ne]
      rintro rfl
      exact absurd h.1.1 (by decide)
    rw [this]; rfl
theorem colons_name {s : ByteArray} (h : okName s = true) : colons s = 0 := by
  unfold okName at h
  simp only [Bool.and_eq_true] at h
  exact colons_lowers _ h.1.1
theorem colons_num : ∀ n : Fin 100, colons (numT n.1) = 0 := by decide +kernel
theorem colons_fT {xs : List Cls} {hs : List Flt} (h : okHeap xs hs = true) {x : Int} (h0 : 0 ≤ x) (h1 : x < hs.length) : colons (fT xs hs x) = 1 := by
  have g := goodH_of h
  obtain ⟨i, rfl⟩ := Int.eq_ofNat_of_zero_le h0
  have hi : i < hs.length := by omega
  unfold fT ccT
  rw [fltAt_at hi]
  have hc := g.cls i hi
  have hd := g.code i hi
  obtain ⟨a, ha⟩ := Int.eq_ofNat_of_zero_le hc.1
  rw [ha]
  have hal : a < xs.length := by omega
  rw [nameAt_at hal, colons_append, colons_append, colons_name (g.tree.name a hal), colons_num ⟨hs[i].code.toNat, by omega⟩]
  rfl
theorem colons_lnk (hs : List Flt) (x : Int) : colons (lnkT hs x) = 0 := by
  unfold lnkT; cases decide (0 ≤ (fltAt hs x).cause) <;> rfl
theorem colons_chT {xs : List Cls} {hs : List Flt} (h : okHeap xs hs = true) : ∀ (L : List Int), (∀ x ∈ L, 0 ≤ x ∧ x < hs.length) → colons (chT xs hs L) = L.length
  | [], _ => rfl
  | [x], hL => by
    have hx := hL x (by simp)
    exact colons_fT h hx.1 hx.2
  | x :: y :: r, hL => by
    have hx := hL x (by simp)
    have ih := colons_chT h (y :: r) (fun z hz => hL z (by simp at hz ⊢; right; exact hz))
    rw [chT, colons_append, colons_append, ih, colons_lnk, colons_fT h hx.1 hx.2]
    simp
/-- the text ends with the first one's -/
theorem chT_ends (xs : List Cls) (hs : List Flt) (x : Int) (r : List Int) : ∃ p, chT xs hs (x :: r) = p ++ fT xs hs x := by
  cases r with
  | nil => exact ⟨ByteArray.empty, by simp [chT]⟩
  | cons y r => exact ⟨_, rfl⟩
/-- the text begins with the last one's -/
theorem chT_begins (xs : List Cls) (hs : List Flt) : ∀ (L : List Int) (z : Int), L.getLast? = some z → ∃ s, chT xs hs L = fT xs hs z ++ s
  | [], z, h => by simp at h
  | [x], z, h => by
    simp at h; subst h
    exact ⟨ByteArray.empty, by simp [chT]⟩
  | x :: y :: r, z, h => by
    have h' : (y :: r).getLast? = some z := by rw [List.getLast?_cons_cons] at h; exact h
    obtain ⟨s, hs'⟩ := chT_begins xs hs (y :: r) z h'
    refine ⟨s ++ lnkT hs x ++ fT xs hs x, ?_⟩
    rw [chT, hs', ByteArray.append_assoc, ByteArray.append_assoc, ByteArray.append_assoc]
/-- class and code make the text -/
theorem fT_same {xs : List Cls} {hs ks : List Flt} {i k : Nat} (hi : i < hs.length) (hk : k < ks.length) (h1 : ks[k].cls = hs[i].cls) (h2 : ks[k].code = hs[i].code) : fT xs ks (k : Int) = fT xs hs (i : Int) := by
  unfold fT
  rw [fltAt_at hi, fltAt_at hk, h1, h2]
/-- a fault of which nothing is shown tells of itself alone -/
theorem chain_alone {nx : Int → Int} {n : Nat} {f : Int} (h0 : 0 ≤ f) (h : nx f < 0) : chainN nx n f = [f] := by
  unfold chainN
  rw [go_on h0 (by simp)]
  exact go_stop (.inl h)
end
end Go.Proofs.YthcolcmgfhkbeaaDoor
