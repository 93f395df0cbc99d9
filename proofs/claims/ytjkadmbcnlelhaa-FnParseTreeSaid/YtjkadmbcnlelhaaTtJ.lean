/- trees of texts: the program's parseClass, ParseTree; the model's ParseTree -/
import Derived.Test.YtjkadmbcnlelhaaTtC
import Derived.Test.YtjkadmbcnlelhaaTtI
import Derived.Test.YtjkadmbcnlelhaaCu
import Derived.Test.YtjkadmbcnlelhaaC
namespace Go.Proofs.Ytjkadmbcnlelhaa
open Go.RowKit
theorem set2 {w : World} {g : Nat} {k a u v : Value} (c0 : w.cell? ⟨g, 0, none⟩ = some u) (c1 : w.cell? ⟨g, 1, none⟩ = some v) :
    ((w.setCell ⟨g, 0, none⟩ k).setCell ⟨g, 1, none⟩ a).cell? ⟨g, 0, none⟩ = some k ∧ ((w.setCell ⟨g, 0, none⟩ k).setCell ⟨g, 1, none⟩ a).cell? ⟨g, 1, none⟩ = some a := by
  refine ⟨?_, ?_⟩
  · rw [cell_set_other (.inr (by decide))]; exact cell_set_same c0
  · exact cell_set_same (by rw [cell_set_other (.inr (by decide))]; exact c1)
set_option maxRecDepth 100000 in
theorem parseClass_any (A : Option Addr) (n cap : Nat) (xs : List Cls) (s : ByteArray) (w : World) (hR : Sl w A n cap xs) (hs : s.size ≤ 1048576) :
    Calls Try.prog 28 #[.slice A n cap, .string s] w fun e w' => e = .returned (.agg #[.string (pcI xs (bl s)).name, .int .i64 (pcI xs (bl s)).parent]) ∧ Le w w' := by
  go_enter Try.func28, Try.ntmps28
  go_wp2_with fail
  have LN := Le.new w (.cells #[.string { data := #[] }, .int .i64 0] 50)
  have d0 : (w.alloc (.cells #[.string { data := #[] }, .int .i64 0] 50)).cell? ⟨w.heap.size, 0, none⟩ = some (.string { data := #[] }) := by rw [World.cell?_alloc_at _ _ _ _ rfl]; rfl
  have d1 : (w.alloc (.cells #[.string { data := #[] }, .int .i64 0] 50)).cell? ⟨w.heap.size, 1, none⟩ = some (.int .i64 0) := by rw [World.cell?_alloc_at _ _ _ _ rfl]; rfl
  have g0 : (w.alloc (.cells #[.string { data := #[] }, .int .i64 0] 50)).frozen? ⟨w.heap.size, 0, none⟩ = false := World.frozen?_alloc_at _ _ _ _ rfl
  have g1 : (w.alloc (.cells #[.string { data := #[] }, .int .i64 0] 50)).frozen? ⟨w.heap.size, 1, none⟩ = false := World.frozen?_alloc_at _ _ _ _ rfl
  have y0 : w.heap.size < (w.alloc (.cells #[.string { data := #[] }, .int .i64 0] 50)).heap.size := by simp
  have S := hR.le LN
  generalize w.alloc (.cells #[.string { data := #[] }, .int .i64 0] 50) = W at *
  refine (cut_any s 32 W hs).mono ?_
  rintro e w1 ⟨rfl, hle⟩
  replace d0 := (hle.cell y0).trans d0
  replace d1 := (hle.cell y0).trans d1
  replace g0 := (hle.frozen y0).trans g0
  replace g1 := (hle.frozen y0).trans g1
  replace y0 := Nat.lt_of_lt_of_le y0 hle.size
  replace S := S.le hle
  replace LN := LN.trans hle
  clear hle
  have HX : Hid (pcI xs (bl s) = ⟨tb (Lib.cut (bl s) [32]).1, findN xs (tb (Lib.cut (bl s) [32]).2.1) 0⟩) := rfl
  generalize tb (Lib.cut (bl s) [32]).1 = nm at *
  generalize tb (Lib.cut (bl s) [32]).2.1 = pm at *
  go_wp2_with fail
  refine (indexOfName_any A n cap xs pm w1 S).mono ?_
  rintro e w2 ⟨rfl, hle⟩
  replace d0 := (hle.cell y0).trans d0
  replace d1 := (hle.cell y0).trans d1
  replace g0 := (hle.frozen y0).trans g0
  replace g1 := (hle.frozen y0).trans g1
  replace LN := LN.trans hle
  clear hle S
  generalize findN xs pm 0 = pz at *
  obtain ⟨k0, k1⟩ := set2 (k := .string nm) (a := .int .i64 pz) d0 d1
  have e1 : (w2.setCell ⟨w.heap.size, 0, none⟩ (.string nm)).cell? ⟨w.heap.size, 1, none⟩ = some (.int .i64 0) := (cell_set_other (.inr (by decide))).trans d1
  have h1 : (w2.setCell ⟨w.heap.size, 0, none⟩ (.string nm)).frozen? ⟨w.heap.size, 1, none⟩ = false := by simpa using g1
  have LF := (LN.setCell (b := w.heap.size) (o := 0) (Nat.le_refl _) (.string nm)).setCell (b := w.heap.size) (o := 1) (Nat.le_refl _) (.int .i64 pz)
  go_wp2
  exact bodyPost_ret (v := .agg #[.string nm, .int .i64 pz]) (by simp [results, Try.results28, go_sem, k0, k1]) rfl ⟨by rw [HX.out], LF⟩
set_option maxHeartbeats 4000000 in
set_option maxRecDepth 100000 in
theorem sParseTree_any (s : ByteArray) (w : World) (hs : s.size ≤ 1048576) :
    Calls Try.prog 14 #[.string s] w (PtOut 50 w (ptX s) (ptOk s)) := by
  go_enter Try.func14, Try.ntmps14
  go_wp2_with fail
  obtain ⟨c2, z2, L0⟩ := box1 w (.slice none 0 0) 25
  have f2 : (w.alloc (.cells #[.slice none 0 0] 25)).frozen? ⟨w.heap.size, 0, none⟩ = false := World.frozen?_alloc_at _ _ _ _ rfl
  generalize w.alloc (.cells #[.slice none 0 0] 25) = W at *
  refine (sparseTree_any s W hs).mono ?_
  rintro e w1 ⟨v, rfl, D, hle⟩
  have z0 := z2
  replace c2 := (hle.cell z2).trans c2
  replace f2 := (hle.frozen z2).trans f2
  replace z2 := Nat.lt_of_lt_of_le z2 hle.size
  replace L0 := L0.trans hle
  clear hle
  obtain ⟨A4, q4, rfl⟩ := own_form D.row
  have hb4 := D.row.lt
  have HX : Hid (ptX s = cond (ptOk s) (ptT s) []) := rfl
  obtain ⟨c4, z4, hleB⟩ := box1 w1 (.slice A4 (ptT s).length q4) 25
  replace c2 := (hleB.cell z2).trans c2
  replace f2 := (hleB.frozen z2).trans f2
  replace z2 := Nat.lt_of_lt_of_le z2 hleB.size
  replace L0 := L0.trans hleB
  replace D := D.le hleB
  clear hleB
  obtain ⟨w2, h2⟩ : ∃ w2, w1.alloc (.cells #[.slice A4 (ptT s).length q4] 25) = w2 := ⟨_, rfl⟩
  rw [h2] at c4 c2 f2 L0 D
  have H2 := Lib.hid h2
  generalize ptT s = T at *
  clear h2 z2 z4
  cases ho : ptOk s
  · rw [ho] at HX
    have HXX : Hid (ptX s = []) := HX.out
    have HO := Lib.hid ho
    clear HX ho
    have k2 : (w2.setCell ⟨w.heap.size, 0, none⟩ (.slice none 0 0)).cell? ⟨w.heap.size, 0, none⟩ = some (.slice none 0 0) := cell_set_same c2
    have LF := L0.setCell (b := w.heap.size) (o := 0) (Nat.le_refl _) (.slice none 0 0)
    have HR : Hid (PtOut 50 w (ptX s) false (.returned (.tuple #[.agg #[.slice none 0 0], .bool false])) (w2.setCell ⟨w.heap.size, 0, none⟩ (.slice none 0 0))) := ⟨_, rfl, by rw [HXX.out]; exact Owd.nil _ _ _, LF⟩
    clear z0
    obtain rfl := H2.out
    go_wp2
    exact bodyPost_ret (v := .tuple #[.agg #[.slice none 0 0], .bool false]) (by simp [results, Try.results14, go_sem, k2]) rfl (by rw [HO.out]; exact HR.out)
  · rw [ho] at HX
    have HXX : Hid (ptX s = T) := HX.out
    have HO := Lib.hid ho
    clear HX ho
    have k2 : (w2.setCell ⟨w.heap.size, 0, none⟩ (.slice A4 T.length q4)).cell? ⟨w.heap.size, 0, none⟩ = some (.slice A4 T.length q4) := cell_set_same c2
    have LF := L0.setCell (b := w.heap.size) (o := 0) (Nat.le_refl _) (.slice A4 T.length q4)
    have OF : Owd 50 w (w2.setCell ⟨w.heap.size, 0, none⟩ (.slice A4 T.length q4)) (.slice A4 T.length q4) T := ⟨(own_mono D.row (by omega)).kept (grown_set w2 w.heap.size 0 _) (.inr (fun e => by have := (hb4 _ e).1; omega)), D.ok⟩
    have HR : Hid (PtOut 50 w (ptX s) true (.returned (.tuple #[.agg #[.slice A4 T.length q4], .bool true])) (w2.setCell ⟨w.heap.size, 0, none⟩ (.slice A4 T.length q4))) := ⟨_, rfl, by rw [HXX.out]; exact OF, LF⟩
    clear OF LF D hb4
    clear z0
    obtain rfl := H2.out
    go_wp2
    exact bodyPost_ret (v := .tuple #[.agg #[.slice A4 T.length q4], .bool true]) (by simp [results, Try.results14, go_sem, k2]) rfl (by rw [HO.out]; exact HR.out)
theorem pI_end {f : Nat} {acc : List Cls} : pI (f + 1) [] acc = some acc := by rw [pI, if_pos rfl]
theorem pI_full {f : Nat} {r : List UInt8} {acc : List Cls} (h : r ≠ []) (h8 : acc.length = 8) : pI (f + 1) r acc = none := by rw [pI, if_neg h, if_pos h8]
theorem pI_on {f : Nat} {r : List UInt8} {acc : List Cls} (h : r ≠ []) (h8 : acc.length ≠ 8) : pI (f + 1) r acc = pI f (Lib.cut r [10]).2.1 (acc ++ [pcI acc (Lib.cut r [10]).1]) := by rw [pI, if_neg h, if_neg h8]
theorem empty_bl {s : ByteArray} : (s.toList.isEmpty = true ↔ bl s = []) ∧ (s.toList.isEmpty = false ↔ bl s ≠ []) := by
  have e : s.toList.isEmpty = true ↔ bl s = [] := by
    constructor
    · intro h
      have h2 : s.toList = [] := List.isEmpty_iff.1 h
      by_cases hb : bl s = []
      · exact hb
      · have := str_ne (a := s) (b := ByteArray.empty) (fun e => hb (by rw [e]; rfl))
        rw [h2] at this
        exact absurd this (by decide +kernel)
    · intro h
      have : s = ByteArray.empty := bl_inj (by rw [h]; rfl)
      rw [this]; decide +kernel
  refine ⟨e, ?_⟩
  cases h : s.toList.isEmpty
  · exact ⟨fun _ hb => (by rw [e.2 hb] at h; cases h), fun _ => rfl⟩
  · exact ⟨fun hh => (by cases hh), fun hb => absurd (e.1 h) hb⟩
def szOf : Value → Nat
  | .string s => s.size
  | _ => 0
set_option maxHeartbeats 4000000 in
set_option maxRecDepth 100000 in
theorem iParseTree_any (s : ByteArray) (w : World) (hs : s.size ≤ 1048576) :
    Calls Try.prog 10 #[.string s] w (PtOut 50 w (ptX s) (ptOk s)) := by
  obtain ⟨i0, hi, hz0, hz1, hz2⟩ := info_parts clsInfo
  go_enter Try.func10, Try.ntmps10
  go_wp2_with fail
  obtain ⟨c2, z2, c4, z4, L0⟩ := box2 w (.slice none 0 0) (.slice none 0 0) 25 25
  have f2 : ((w.alloc (.cells #[.slice none 0 0] 25)).alloc (.cells #[.slice none 0 0] 25)).frozen? ⟨w.heap.size, 0, none⟩ = false := by
    rw [((Le.new _ _).frozen (b := w.heap.size) (o := 0) (by simp))]; exact World.frozen?_alloc_at _ _ _ _ rfl
  have f4 : ((w.alloc (.cells #[.slice none 0 0] 25)).alloc (.cells #[.slice none 0 0] 25)).frozen? ⟨w.heap.size + 1, 0, none⟩ = false := World.frozen?_alloc_at _ _ _ _ (by simp)
  generalize (w.alloc (.cells #[.slice none 0 0] 25)).alloc (.cells #[.slice none 0 0] 25) = W at *
  have HI0 : PtI w W.heap.size none 0 [] [] none 0 W := ⟨c2, c4, f2, f4, World.ownsRow_nil _ _ _ _, z4, Nat.le_refl _, Sl.nil _ _ _ (by decide), fun h => absurd h (by simp), L0, by simp⟩
  have HS0 : Hid (pI (s.size + 1) (bl s) [] = ptI s) := rfl
  clear c2 c4 f2 f4 z2 z4 L0
  go_wp2
  go_loopw [5] (fun v wr => ∃ (T : List Cls) (A : Option Addr) (q f : Nat) (r : ByteArray), v = .string r ∧ r.size ≤ s.size ∧ r.size < f ∧ T.length ≤ 8 ∧ Hid (pI f (bl r) T = ptI s) ∧ PtI w W.heap.size none 0 [] T A q wr) (fun v _ => szOf v)
  case atStart => exact ⟨[], none, 0, s.size + 1, s, rfl, Nat.le_refl _, by omega, by simp, HS0.out, HI0⟩
  case round =>
    clear HI0 HS0
    obtain ⟨T, A, q, f, r, rfl, hrs, hrf, hT8, HSP, hI⟩ := hrel
    have HI := Lib.hid hI
    have hB1 := hI.hB
    have hz := hI.hz
    have hbk := hI.O.lt
    obtain ⟨f, rfl⟩ : ∃ g, f = g + 1 := ⟨f - 1, by omega⟩
    by_cases hr0 : bl r = []
    · have he := empty_bl.1.2 hr0
      have HP : Hid (ptI s = some T) := by show _ = _; rw [← HSP.out, hr0, pI_end]
      have HOK := Lib.hid (pt_some HP.out).1
      have HXT := Lib.hid (pt_some HP.out).2
      have c4 := hI.c4
      have c2 := hI.c2
      have f2 := hI.f2
      have ST := Sl.of_own hI.O rfl (by decide) hI.ok
      clear hI hr0 HSP HP
      go_wp2_with fail
      refine (iValidTree_any A T.length q T wr ST).mono ?_
      rintro e w5 ⟨rfl, hle⟩
      have HI5 := Lib.hid (HI.out.le hle)
      have ST5 := ST.le hle
      have c5 := HI5.out.c4
      clear hle c4 c2 f2 ST HI
      cases ho : okTree T
      · have HOK2 : Hid (ptOk s = false) := by show _ = _; rw [← HOK.out, ho]; rfl
        have HXX : Hid (ptX s = []) := by show _ = _; unfold ptX; rw [HOK2.out]; rfl
        have d5 := HI5.out.c2
        have f5 := HI5.out.f2
        have k2 : (w5.setCell ⟨w.heap.size, 0, none⟩ (.slice none 0 0)).cell? ⟨w.heap.size, 0, none⟩ = some (.slice none 0 0) := cell_set_same d5
        have LF := HI5.out.L.setCell (b := w.heap.size) (o := 0) (Nat.le_refl _) (.slice none 0 0)
        have HR : Hid (PtOut 50 w (ptX s) (ptOk s) (.returned (.tuple #[.agg #[.slice none 0 0], .bool false])) (w5.setCell ⟨w.heap.size, 0, none⟩ (.slice none 0 0))) := ⟨_, by rw [HOK2.out], by rw [HXX.out]; exact Owd.nil _ _ _, LF⟩
        clear LF ho
        go_wp2
        exact bodyPost_ret (v := .tuple #[.agg #[.slice none 0 0], .bool false]) (by simp [results, Try.results10, go_sem, k2]) rfl HR.out
      · have HTT := Lib.hid (ttX_of ho)
        have HOK2 : Hid (ptOk s = decide (treeB T = bl s)) := by show _ = _; rw [← HOK.out, ho]; rfl
        clear ho
        go_wp2_with fail
        refine (iTreeText_any A T.length q T w5 ST5).mono ?_
        rintro e w6 ⟨rfl, hle⟩
        have HI6 := Lib.hid (HI5.out.le hle)
        have c6 := HI6.out.c4
        have d6 := HI6.out.c2
        have f6 := HI6.out.f2
        clear hle HI5 c5 ST5
        by_cases hq : treeB T = bl s
        · have HOK3 : Hid (ptOk s = true) := by show _ = _; rw [HOK2.out, decide_eq_true hq]
          have hb : ((ttX T).toList != s.toList) = false := by
            have : ttX T = s := by rw [HTT.out]; show tb (treeB T) = s; rw [hq, tb_bl]
            rw [this]; simp
          have hb2 : ((ttX T).toList == s.toList) = true := by
            have : ttX T = s := by rw [HTT.out]; show tb (treeB T) = s; rw [hq, tb_bl]
            rw [this]; simp
          have HXX : Hid (ptX s = T) := (HXT.out HOK3.out).symm
          have k2 : (w6.setCell ⟨w.heap.size, 0, none⟩ (.slice A T.length q)).cell? ⟨w.heap.size, 0, none⟩ = some (.slice A T.length q) := cell_set_same d6
          have LF := HI6.out.L.setCell (b := w.heap.size) (o := 0) (Nat.le_refl _) (.slice A T.length q)
          have OF : Owd 50 w (w6.setCell ⟨w.heap.size, 0, none⟩ (.slice A T.length q)) (.slice A T.length q) T := ⟨(own_mono HI6.out.O (by omega)).kept (grown_set w6 w.heap.size 0 _) (.inr (fun e => by have := (HI6.out.O.lt _ e).1; omega)), HI6.out.ok⟩
          have HR : Hid (PtOut 50 w (ptX s) (ptOk s) (.returned (.tuple #[.agg #[.slice A T.length q], .bool true])) (w6.setCell ⟨w.heap.size, 0, none⟩ (.slice A T.length q))) := ⟨_, by rw [HOK3.out], by rw [HXX.out]; exact OF, LF⟩
          clear LF OF hq
          generalize ttX T = tx at *
          go_wp2
          exact bodyPost_ret (v := .tuple #[.agg #[.slice A T.length q], .bool true]) (by simp [results, Try.results10, go_sem, k2]) rfl HR.out
        · have HOK3 : Hid (ptOk s = false) := by show _ = _; rw [HOK2.out, decide_eq_false hq]
          have hb : ((ttX T).toList != s.toList) = true := by
            have h1 : ttX T ≠ s := fun e => hq (by rw [← e, HTT.out]; rfl)
            have := str_ne h1
            simp only [bne, this]; rfl
          have hb2 : ((ttX T).toList == s.toList) = false := str_ne (fun e => hq (by rw [← e, HTT.out]; rfl))
          have HXX : Hid (ptX s = []) := by show _ = _; unfold ptX; rw [HOK3.out]; rfl
          have k2 : (w6.setCell ⟨w.heap.size, 0, none⟩ (.slice none 0 0)).cell? ⟨w.heap.size, 0, none⟩ = some (.slice none 0 0) := cell_set_same d6
          have LF := HI6.out.L.setCell (b := w.heap.size) (o := 0) (Nat.le_refl _) (.slice none 0 0)
          have HR : Hid (PtOut 50 w (ptX s) (ptOk s) (.returned (.tuple #[.agg #[.slice none 0 0], .bool false])) (w6.setCell ⟨w.heap.size, 0, none⟩ (.slice none 0 0))) := ⟨_, by rw [HOK3.out], by rw [HXX.out]; exact Owd.nil _ _ _, LF⟩
          clear LF hq
          generalize ttX T = tx at *
          go_wp2
          exact bodyPost_ret (v := .tuple #[.agg #[.slice none 0 0], .bool false]) (by simp [results, Try.results10, go_sem, k2]) rfl HR.out
    · have he := empty_bl.2.2 hr0
      have hrp : 0 < r.size := by rw [← bl_len]; exact List.length_pos_iff.2 hr0
      have c4 := hI.c4
      by_cases h8 : T.length = 8
      · have HOK3 : Hid (ptOk s = false) := by show _ = _; exact pt_none (by rw [← HSP.out, pI_full hr0 h8])
        have h8b : ((T.length : Int) == 8) = true := by rw [h8]; rfl
        have d6 := hI.c2
        have f6 := hI.f2
        have HXX : Hid (ptX s = []) := by show _ = _; unfold ptX; rw [HOK3.out]; rfl
        have k2 : (wr.setCell ⟨w.heap.size, 0, none⟩ (.slice none 0 0)).cell? ⟨w.heap.size, 0, none⟩ = some (.slice none 0 0) := cell_set_same d6
        have LF := hI.L.setCell (b := w.heap.size) (o := 0) (Nat.le_refl _) (.slice none 0 0)
        have HR : Hid (PtOut 50 w (ptX s) (ptOk s) (.returned (.tuple #[.agg #[.slice none 0 0], .bool false])) (wr.setCell ⟨w.heap.size, 0, none⟩ (.slice none 0 0))) := ⟨_, by rw [HOK3.out], by rw [HXX.out]; exact Owd.nil _ _ _, LF⟩
        clear LF hI h8 hr0 HSP
        go_wp2
        exact bodyPost_ret (v := .tuple #[.agg #[.slice none 0 0], .bool false]) (by simp [results, Try.results10, go_sem, k2]) rfl HR.out
      · have h8b : ((T.length : Int) == 8) = false := by rw [beq_eq_false_iff_ne]; omega
        have HP := HSP
        rw [pI_on hr0 h8] at HP
        have hsh := cut_shorter 10 hr0
        rw [bl_len] at hsh
        have hfl := (cut_fst_len 10 (bl r)).1
        rw [bl_len] at hfl
        clear hI hr0 HSP c4
        have c4 := HI.out.c4
        go_wp2_with fail
        refine (cut_any r 10 wr (by omega)).mono ?_
        rintro e w2 ⟨rfl, hle⟩
        have HI2 := Lib.hid (HI.out.le hle)
        have s2 := hle.size
        clear hle HI c4
        have hl1 : (tb (Lib.cut (bl r) [10]).1).size = (Lib.cut (bl r) [10]).1.length := rfl
        have hl2 : (tb (Lib.cut (bl r) [10]).2.1).size = (Lib.cut (bl r) [10]).2.1.length := rfl
        have HP2 : Hid (pI f (bl (tb (Lib.cut (bl r) [10]).2.1)) (T ++ [pcI T (bl (tb (Lib.cut (bl r) [10]).1))]) = ptI s) := HP.out
        generalize tb (Lib.cut (bl r) [10]).1 = ln at *
        generalize tb (Lib.cut (bl r) [10]).2.1 = rs at *
        clear HP
        go_wp2_with fail
        have HI2d := Lib.hid (HI2.out.le (Le.refl _).drew)
        have c4 := HI2d.out.c4
        have ST := Sl.of_own HI2d.out.O rfl (by decide) HI2d.out.ok
        have hbd : ∀ k, (Value.slice A T.length q).ownBlock = some k → W.heap.size ≤ k ∧ k < w2.heap.size := fun k hk => by have := hbk k hk; omega
        refine wp_region_noPanic ?_
        refine wp_region_Z (fun w' => w'.cell? ⟨w.heap.size + 1, 0, none⟩ = some (.slice A T.length q)) [9] (by kernel_rfl) ?_
        refine wpAnyZ_take (i := 0) (v := ?_) rfl (by kernel_rfl) (fun _ _ _ h => h) (Or.inl ⟨by rfl, ?_⟩) (c4) ?_
        rotate_left 1
        · (intro w hSw; (try dsimp only at hSw); go_simp; try with_reducible rfl)
        try simp only [Act.put, List.setIfInBounds_toArray, List.set_cons_zero, List.set_cons_succ]
        refine wpAnyZ_take (i := 1) (v := ?_) rfl (by kernel_rfl) (fun _ _ _ h => h) (Or.inl ⟨by rfl, ?_⟩) (c4) ?_
        rotate_left 1
        · (intro w hSw; (try dsimp only at hSw); go_simp; try with_reducible rfl)
        try simp only [Act.put, List.setIfInBounds_toArray, List.set_cons_zero, List.set_cons_succ]
        refine wpAnyZ_take (i := 2) (v := ?_) rfl (by kernel_rfl) (fun _ _ _ h => h) (Or.inl ⟨by rfl, ?_⟩) (c4) ?_
        rotate_left 1
        · (intro w hSw; (try dsimp only at hSw); go_simp; try with_reducible rfl)
        try simp only [Act.put, List.setIfInBounds_toArray, List.set_cons_zero, List.set_cons_succ]
        refine wpAnyZ_take (i := 3) (v := ?_) rfl (by kernel_rfl) (fun _ _ _ h => h) (Or.inl ⟨by rfl, ?_⟩) (c4) ?_
        rotate_left 1
        · (intro w hSw; (try dsimp only at hSw); go_simp; try with_reducible rfl)
        try simp only [Act.put, List.setIfInBounds_toArray, List.set_cons_zero, List.set_cons_succ]
        refine wpAnyZ_take (i := 4) (v := ?_) rfl (by kernel_rfl) (fun _ _ _ h => h) (Or.inl ⟨by rfl, ?_⟩) (c4) ?_
        rotate_left 1
        · (intro w hSw; (try dsimp only at hSw); go_simp; try with_reducible rfl)
        try simp only [Act.put, List.setIfInBounds_toArray, List.set_cons_zero, List.set_cons_succ]
        refine wpAnyZ_one (i := 5) (by kernel_rfl) (ReadyZ.mk rfl (fun K hK => ?_))
        go_simp
        go_at_call 28
        generalize w2.drew = w2d at *
        refine (parseClass_any A T.length q T ln w2d ST (by omega)).mono ?_
        rintro e w3 ⟨rfl, hle⟩
        have HI3 := Lib.hid (HI2d.out.le hle)
        have c43 := HI3.out.c4
        have hz3 := HI3.out.hz
        clear hle ST c4
        refine hK.out _ _ (fun _ => c43) ?_
        clear hK K
        try simp only [Act.put, List.setIfInBounds_toArray, List.set_cons_zero, List.set_cons_succ]
        have hpn : (pcI T (bl ln)).name.size ≤ ln.size := by
          have := (cut_fst_len 32 (bl ln)).1
          rw [bl_len] at this; exact this
        have hpp := findN_bound (tb (Lib.cut (bl ln) [32]).2.1) T
        have hok : Enc.ok (pcI T (bl ln)) := ⟨by omega, by show -9223372036854775808 ≤ findN T _ 0; omega, by show findN T _ 0 ≤ 9223372036854775807; omega⟩
        clear hpn hpp
        obtain ⟨cl, hcl⟩ : ∃ cl, pcI T (bl ln) = cl := ⟨_, rfl⟩
        rw [hcl] at hok HP2
        rw [hcl]
        clear hcl
        refine wpAnyZ_one (i := 6) (by kernel_rfl) (ReadyZ.mk rfl (fun K hK => ?_))
        go_simp
        have HI4 := Lib.hid (HI3.out.le (Le.new w3 (.cells #[.string cl.name, .int .i64 cl.parent] 50)))
        refine hK.out _ _ (fun _ => HI4.out.c4) ?_
        clear hK K
        try simp only [Act.put, List.setIfInBounds_toArray, List.set_cons_zero, List.set_cons_succ]
        refine wpAnyZ_one (i := 7) (by kernel_rfl) (ReadyZ.mk rfl (fun K hK => ?_))
        refine step_append_sl rfl (.tmp 22) (.tmp 27) 23 rfl W.heap.size 50 i0 _ 24 Try.underlying23 hi hz0 hz1 hz2 rfl (.slice A T.length q) T.length T rfl (HI3.out.O.alloc _) (some ⟨w3.heap.size, 0, none⟩) 1 1 [cl] rfl (sl_one cl rfl hok rfl) (by unfold maxLen; omega) (by omega) HI4.out.hz ?_
        intro v1 w7 O7 hg7 _
        rw [show T.length + 1 = (T ++ [cl]).length by simp] at O7
        obtain ⟨A8, q8, rfl, c8, f8, hI8⟩ := HI4.out.app hg7 O7 (fun x hx => by rcases List.mem_append.1 hx with h | h; exact HI3.out.ok x h; simp at h; subst h; exact hok)
        have HI8 := Lib.hid hI8
        clear hI8 hg7 O7 HI4 HI3 HI2d HI2
        refine hK.out _ _ (fun _ => c8) ?_
        clear hK K
        try simp only [Act.put, List.setIfInBounds_toArray, List.set_cons_zero, List.set_cons_succ]
        refine wpAnyZ_take (i := 8) (v := ?_) rfl (by kernel_rfl) (fun _ _ _ h => h) (Or.inl ⟨by rfl, ?_⟩) (c8) ?_
        rotate_left 1
        · (intro w hSw; (try dsimp only at hSw); go_simp; try with_reducible rfl)
        try simp only [Act.put, List.setIfInBounds_toArray, List.set_cons_zero, List.set_cons_succ]
        refine wpAnyZ_one (i := 9) (by kernel_rfl) (ReadyZ.mk rfl (fun K hK => ?_))
        go_simp
        refine hK.out _ _ (fun h => absurd h (by decide)) ?_
        clear hK K
        try simp only [Act.put, List.setIfInBounds_toArray, List.set_cons_zero, List.set_cons_succ]
        refine wpAnyZ_done (by kernel_rfl) ?_ _
        refine NoPanic.normal ?_
        go_wp2
        go_roundw
        case rel => exact ⟨T ++ [cl], A8, q8, f, rs, rfl, by omega, by omega, by simp; omega, HP2.out, by have h := HI8.out; rw [List.length_append] at h; exact h⟩
        case measure => (simp [szOf]) <;> omega
theorem ptX_len (s : ByteArray) : (ptX s).length ≤ 1048576 := by
  unfold ptX
  cases h : ptOk s
  · show ([] : List Cls).length ≤ _; simp
  · have e := h
    unfold ptOk at e
    rw [Bool.and_eq_true] at e
    have := (good_of e.1).hi
    show (ptT s).length ≤ _
    omega
end Go.Proofs.Ytjkadmbcnlelhaa
