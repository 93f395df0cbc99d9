/- the laws FnTreeText, FnParseTree -/
import Derived.Test.YtjkadmbcnlelhaaTG
namespace Go.Proofs.Ytjkadmbcnlelhaa
open Go.RowKit
theorem count_step {s : ByteArray} {k : Nat} (h : k < s.size) (c : UInt8) : ((bl s).take (k + 1)).count c = ((bl s).take k).count c + (if s[k] = c then 1 else 0) := by
  have h' : k < (bl s).length := by rw [bl_len]; exact h
  rw [List.take_succ_eq_append_getElem h', List.count_append]
  have h3 : List.count c [(bl s)[k]] = if s[k] = c then 1 else 0 := by
    by_cases hc : s[k] = c
    · rw [show (bl s)[k] = c from hc, if_pos hc]; simp
    · rw [if_neg hc]; exact List.count_eq_zero_of_not_mem (by simp; exact fun e => hc e.symm)
  rw [h3]
  rfl
set_option maxRecDepth 100000 in
theorem newlines_any (s : ByteArray) (w : World) (hs : s.size ≤ 1048576) : Calls Try.prog 12 #[.string s] w fun e w' => e = .returned (.int .i64 ((bl s).count 10 : Nat)) ∧ Le w w' := by
  go_enter Try.func12, Try.ntmps12
  go_wp2
  go_loopw [3, 4] (fun v i wr => ∃ k : Nat, k ≤ s.size ∧ i = .int .i64 k ∧ v = .int .i64 (((bl s).take k).count 10 : Nat) ∧ w = wr) (fun _ i _ => s.size - (intOf i).toNat)
  case atStart => exact ⟨0, Nat.zero_le _, rfl, rfl, by first | trivial | rfl⟩
  case round =>
    obtain ⟨k, hk, rfl, rfl, rfl⟩ := hrel
    by_cases hlt : k < s.size
    · have hc : 0 ≤ (s[k].toNat : Int) ∧ (s[k].toNat : Int) ≤ 255 := by have := UInt8.toNat_lt s[k]; omega
      have hst := count_step hlt 10
      have hle : ((bl s).take k).count 10 ≤ k := by
        have := List.count_le_length (a := (10 : UInt8)) (l := (bl s).take k)
        rw [List.length_take] at this; omega
      have hkl : (k : Int) < (s.size : Int) := by omega
      by_cases h10 : s[k] = 10
      · rw [if_pos h10] at hst
        have hb : ((s[k].toNat : Int) == 10) = true := by rw [h10]; rfl
        have HK := Lib.hid hst
        clear hst h10
        generalize ((bl s).take k).count 10 = u at *
        go_wp2
        go_roundw
        case rel => exact ⟨k + 1, by omega, by go_num, by rw [HK.out]; go_num, by first | trivial | rfl⟩
        case measure => (simp [intOf]) <;> omega
      · rw [if_neg h10] at hst
        have hb : ((s[k].toNat : Int) == 10) = false := by
          rw [beq_eq_false_iff_ne]; intro e; exact h10 (UInt8.toNat_inj.1 (by show s[k].toNat = 10; omega))
        have HK := Lib.hid hst
        clear hst h10
        go_wp2
        go_roundw
        case rel => exact ⟨k + 1, by omega, by go_num, by rw [HK.out]; rfl, by first | trivial | rfl⟩
        case measure => (simp [intOf]) <;> omega
    · have hkl : ¬ (k : Int) < (s.size : Int) := by omega
      have HE : Hid ((bl s).take k = bl s) := List.take_of_length_le (by rw [bl_len]; omega)
      go_wp2
      go_ret
      exact ⟨by show Ending.returned (.int .i64 (((bl s).take k).count 10 : Nat)) = _; rw [HE.out], Le.refl _⟩
theorem txB_count {xs : List Cls} (g : Good xs) : ∀ (m k : Nat), k + m = xs.length → (txB xs (xs.drop k)).count 10 = m := by
  intro m
  induction m with
  | zero => intro k hk; rw [txB_end (by omega)]; rfl
  | succ m ih =>
    intro k hk
    have := ih (k + 1) (by omega)
    rw [txB_at (by omega), List.count_append, List.count_eq_zero_of_not_mem (lnB_nl g (k := k) (by omega)).1, List.count_cons_self, this]
    omega
theorem drawTreeText_any (A : Option Addr) (n cap : Nat) (bs : List By) (w : World) (hR : Sl w A n cap bs) : Calls Try.prog 7 #[.slice A n cap] w (DrawnTree w) := by
  go_enter Try.func7, Try.ntmps7
  go_wp2_with fail
  have hl0 := Le.new w (.cells #[.slice none 0 0] 25)
  have r0 := hp_new w (.cells #[.slice none 0 0] 25) rfl
  have hs0 : w.heap.size < (w.alloc (.cells #[.slice none 0 0] 25)).heap.size := by simp
  generalize w.alloc (.cells #[.slice none 0 0] 25) = W0 at *
  refine (newReader_any A n cap bs W0 (hR.le hl0)).mono ?_
  rintro e w1 ⟨g, A1, n1, c1, bs1, rfl, hg, hRd, hle1⟩
  have r1 := (Below.block hle1 _ hs0).trans r0
  go_wp2_with fail
  refine (someTree_any g 0 A1 n1 c1 bs1 w1 (by omega) hRd).mono ?_
  rintro e w2 ⟨B, m, c, p', xs, rfl, hS, hm, hoff, hab, _, _, hgx⟩
  have hs1 := hle1.size
  have r2 := (hgx.block w.heap.size (by omega) (by simp; omega)).trans r1
  have hc2 : w2.cell? ⟨w.heap.size, 0, none⟩ = some (.slice none 0 0) := (cell_of_row w2 _ 0 _ _ _ r2).trans rfl
  have hf2 := frozen_of_row w2 w.heap.size 0 _ _ r2
  have hle2 : Le w w2 := Gx.le (hl0.trans hle1) hgx (by omega)
  have hend : ∀ u, (w2.setCell ⟨w.heap.size, 0, none⟩ u).cell? ⟨w.heap.size, 0, none⟩ = some u := fun u => cell_set_same hc2
  have hSx : ∀ u, Sl (w2.setCell ⟨w.heap.size, 0, none⟩ u) B m c xs := fun u => hS.gx (fun h a e => by have := hab h a e; omega) (Gx.set w.heap.size 0 w2 u)
  go_wp2
  exact bodyPost_ret (v := .agg #[.slice B m c]) (by simp [results, Try.results7, go_sem, hend]) rfl ⟨B, m, c, xs, rfl, hSx _, hm, hle2.setCell (Nat.le_refl _) _⟩


theorem tt_facts {xs : List Cls} (h : okTree xs = true) : ∃ T : ByteArray, ttX xs = T ∧ T.size ≤ 112 ∧ bl T ≠ [] ∧ ptOk T = true ∧ ptX T = xs ∧ (bl T).count 10 = xs.length := by
  have g := good_of h
  have e : ttX xs = tb (treeB xs) := by rw [ttX_of h]; rfl
  have hp := pt_good h (s := tb (treeB xs)) rfl
  have hok : ptOk (tb (treeB xs)) = true := by
    unfold ptOk; rw [hp.1, h]; simp [bl_tb]
  refine ⟨_, e, treeB_len g, ?_, hok, ?_, ?_⟩
  · rw [bl_tb]
    intro e2
    have h1 := g.lo
    unfold treeB at e2
    have h2 := txB_at (xs := xs) (ys := xs) (k := 0) (by omega)
    rw [List.drop_zero, e2] at h2
    have := congrArg List.length h2
    simp at this
  · unfold ptX; rw [hok, hp.1]; rfl
  · rw [bl_tb]
    have := txB_count g xs.length 0 (by omega)
    rw [List.drop_zero] at this; exact this
set_option maxHeartbeats 4000000 in
set_option maxRecDepth 100000 in
theorem fnTreeText_walk (A : Option Addr) (n cap : Nat) (bs : List By) (w : World) (hR : Sl w A n cap bs) :
    Calls Try.prog 3 #[.slice A n cap] w fun e w' => e = .returned (.bool true) ∧ Le w w' := by
  have hm := hR.n_le
  by_cases hbig : 1048576 < n
  · go_enter Try.func3, Try.ntmps3
    go_wp2
    go_ret
    exact ⟨rfl, Le.refl w⟩
  go_enter Try.func3, Try.ntmps3
  go_wp2_with fail
  refine (drawTreeText_any A n cap bs w hR).mono ?_
  rintro e w1 ⟨B, m, c, xs, rfl, S, hm8, L0⟩
  obtain rfl := S.len
  go_wp2_with fail
  obtain ⟨ct, zt, hleB⟩ := box1 w1 (.slice B xs.length c) 25
  replace S := S.le hleB
  replace L0 := L0.trans hleB
  clear hleB
  generalize w1.alloc (.cells #[.slice B xs.length c] 25) = W1 at *
  rcases Bool.eq_false_or_eq_true (okTree xs) with ho | ho
  rotate_left
  · have hX : ttX xs = ByteArray.empty := by rw [ttX_of ho]; rfl
    have hv : ∀ a b : ByteArray, a = b → Value.string a = Value.string b := fun _ _ h => by rw [h]
    go_wp2_with fail
    refine (Calls.val (iTreeText_any B _ c xs W1 S) (hv _ _ hX)).mono ?_
    rintro e w2 ⟨rfl, hle⟩
    replace ct := (hle.cell zt).trans ct
    replace zt := Nat.lt_of_lt_of_le zt hle.size
    replace S := S.le hle
    replace L0 := L0.trans hle
    clear hle
    go_wp2_with fail
    refine (Calls.val (sTreeText_any B _ c xs w2 S) (hv _ _ hX)).mono ?_
    rintro e w3 ⟨rfl, hle⟩
    replace ct := (hle.cell zt).trans ct
    replace zt := Nat.lt_of_lt_of_le zt hle.size
    replace S := S.le hle
    replace L0 := L0.trans hle
    clear hle
    go_wp2_with fail
    refine (Calls.val (sTreeText_any B _ c xs w3 S) (hv _ _ hX)).mono ?_
    rintro e w4 ⟨rfl, hle⟩
    replace L0 := L0.trans hle
    clear hle
    go_wp2
    go_ret
    exact ⟨rfl, L0⟩
  obtain ⟨T, hT, hTs, hTn, hok, hpx, hcnt⟩ := tt_facts ho
  have hte := empty_bl.2.2 hTn
  have htt : (T.toList != T.toList) = false := by simp
  have htt2 : (T.toList == T.toList) = true := by simp
  have HT := Lib.hid hT
  have HOK := Lib.hid hok
  have HPX := Lib.hid hpx
  have HCN := Lib.hid hcnt
  have hv : ∀ a b : ByteArray, a = b → Value.string a = Value.string b := fun _ _ h => by rw [h]
  clear hT hTn hok hpx hcnt ho
  go_wp2_with fail
  refine (Calls.val (iTreeText_any B _ c xs W1 S) (hv _ _ HT.out)).mono ?_
  rintro e w2 ⟨rfl, hle⟩
  replace ct := (hle.cell zt).trans ct
  replace zt := Nat.lt_of_lt_of_le zt hle.size
  replace S := S.le hle
  replace L0 := L0.trans hle
  clear hle
  go_wp2_with fail
  refine (Calls.val (sTreeText_any B _ c xs w2 S) (hv _ _ HT.out)).mono ?_
  rintro e w3 ⟨rfl, hle⟩
  replace ct := (hle.cell zt).trans ct
  replace zt := Nat.lt_of_lt_of_le zt hle.size
  replace S := S.le hle
  replace L0 := L0.trans hle
  clear hle
  clear hv
  go_wp2_with fail
  refine (iParseTree_any T w3 (by omega)).mono ?_
  rintro e w4 ⟨v, rfl, D, hle⟩
  replace ct := (hle.cell zt).trans ct
  replace zt := Nat.lt_of_lt_of_le zt hle.size
  replace S := S.le hle
  replace L0 := L0.trans hle
  clear hle
  rw [HPX.out] at D
  rw [HOK.out]
  obtain ⟨A4, q4, rfl, S4, _⟩ := D.form (by decide)
  clear D
  go_wp2_with fail
  obtain ⟨cb, zb, hleB⟩ := box1 w4 (.slice A4 xs.length q4) 25
  replace ct := (hleB.cell zt).trans ct
  replace zt := Nat.lt_of_lt_of_le zt hleB.size
  replace S := S.le hleB
  replace S4 := S4.le hleB
  replace L0 := L0.trans hleB
  clear hleB
  generalize w4.alloc (.cells #[.slice A4 xs.length q4] 25) = w5 at *
  have hc1 : ∀ (g : Ext w5) (_ : True), Calls Try.prog 11 #[.agg #[.slice A4 xs.length q4], .agg #[.slice B xs.length c]] (w5.ext g) fun e w' => e = .returned (.bool true) ∧ Le (w5.ext g) w' := fun g _ => equalTree_self A4 B _ q4 c xs _ (S4.ext _) (S.ext _)
  have hc2 : ∀ (g : Ext w5) (_ : True), Calls Try.prog 12 #[.string T] (w5.ext g) fun e w' => e = .returned (.int .i64 (xs.length : Int)) ∧ Le (w5.ext g) w' := fun g _ => Calls.val (newlines_any T _ (by omega)) (by rw [HCN.out])
  have E1 := cell_ext zt ct
  have E2 := cell_ext zb cb
  have hll : ((xs.length : Int) == (xs.length : Int)) = true := by simp
  go_wp2_with fail
  refine wp_region_ext (by kernel_rfl) (by kernel_rfl) ?_
  repeat (go_big_quiet_step (first | (go_at_call 11; with_reducible exact Calls.ext_of (hc1 _ trivial)) | (go_at_call 12; with_reducible exact Calls.ext_of (hc2 _ trivial))))
  refine wpQuiet_nil ?_
  intro _ hw'
  obtain ⟨gg, rfl⟩ := hw'
  have hw3 := Le.ext w5 gg
  generalize w5.ext gg = W2 at *
  go_wp2
  go_ret
  exact ⟨rfl, L0.trans hw3⟩
/-- a text that a draw hands back -/
def DrawnText (w : World) (e : Ending) (w' : World) : Prop := ∃ s : ByteArray, e = .returned (.string s) ∧ s.size ≤ 1000 ∧ Le w w'
set_option maxRecDepth 100000 in
theorem drawParseTree_any (A : Option Addr) (n cap : Nat) (bs : List By) (w : World) (hR : Sl w A n cap bs) : Calls Try.prog 13 #[.slice A n cap] w (DrawnText w) := by
  go_enter Try.func13, Try.ntmps13
  go_wp2_with fail
  refine (newReader_any A n cap bs w hR).mono ?_
  rintro e w1 ⟨g, A1, n1, c1, bs1, rfl, hg, R1, hle1⟩
  go_wp2_with fail
  refine (goodTree_good g 0 A1 n1 c1 bs1 w1 (by omega) R1).mono ?_
  rintro e w2 ⟨h, m, c, p', xs, rfl, O, hokx, hm1, hm8, hp', R2, hg2, hGT⟩
  have hl := hGT.1
  obtain rfl := hl
  have S := Sl.of_own O rfl (by decide) hokx
  have hgood := good_of (gt_ok hGT hm1 hm8)
  have L2 := Gx.le hle1 hg2 (by omega)
  clear O hGT hg2 R1
  go_wp2_with fail
  refine (streeText_any _ _ c xs w2 S hgood).mono ?_
  rintro e w3 ⟨rfl, hle⟩
  have R3 := R2.le hle
  have L3 := L2.trans hle
  have hsz : (tb (treeB xs)).size ≤ 112 := treeB_len hgood
  clear hle S hgood R2 L2
  generalize tb (treeB xs) = s at *
  go_wp2_with fail
  refine (pick_any 3 g p' A1 n1 c1 bs1 w3 (by omega) (by omega) (by omega) R3).mono ?_
  rintro e w4 ⟨y, rfl, hy0, hy1, R4, hg4⟩
  have L4 := Gx.le L3 hg4 (by omega)
  clear R3 L3 hg4
  by_cases hy : y = 0
  · subst hy
    go_wp2_with fail
    refine (mutate_any s g (p' + 1) A1 n1 c1 bs1 w4 (by omega) (by omega) R4).mono ?_
    rintro e w5 ⟨t, p5, rfl, ht, hp5, R5, hg5⟩
    have L5 := Gx.le L4 hg5 (by omega)
    go_wp2
    go_ret
    exact ⟨_, rfl, by omega, L5⟩
  · have hyb : (y == 0) = false := by simpa using hy
    go_wp2
    go_ret
    exact ⟨_, rfl, by omega, L4⟩
set_option maxHeartbeats 4000000 in
set_option maxRecDepth 100000 in
theorem fnParseTree_walk (A : Option Addr) (n cap : Nat) (bs : List By) (w : World) (hR : Sl w A n cap bs) :
    Calls Try.prog 4 #[.slice A n cap] w fun e w' => e = .returned (.bool true) ∧ Le w w' := by
  have hm := hR.n_le
  by_cases hbig : 1048576 < n
  · go_enter Try.func4, Try.ntmps4
    go_wp2
    go_ret
    exact ⟨rfl, Le.refl w⟩
  go_enter Try.func4, Try.ntmps4
  go_wp2_with fail
  refine (drawParseTree_any A n cap bs w hR).mono ?_
  rintro e w1 ⟨s, rfl, hs, L0⟩
  have hFX : ptOk s = true → ttX (ptX s) = s ∧ okTree (ptX s) = true := fun h => by
    have h2 := h
    unfold ptOk at h2
    simp only [Bool.and_eq_true, decide_eq_true_eq] at h2
    have e : ptX s = ptT s := by unfold ptX; rw [h]; rfl
    rw [e]
    refine ⟨?_, h2.1⟩
    rw [ttX_of h2.1]
    show tb (treeB (ptT s)) = s
    rw [h2.2, tb_bl]
  have HFX := Lib.hid hFX
  clear hFX
  have hbb : (ptOk s != ptOk s) = false := by simp
  have hbb2 : (ptOk s == ptOk s) = true := by simp
  obtain ⟨X, hX⟩ : ∃ X, ptX s = X := ⟨_, rfl⟩
  have HI : Hid (∀ w, Calls Try.prog 10 #[.string s] w _) := fun w => iParseTree_any s w (by omega)
  have HS : Hid (∀ w, Calls Try.prog 14 #[.string s] w _) := fun w => sParseTree_any s w (by omega)
  rw [hX] at HI HS HFX
  clear hX
  go_wp2_with fail
  refine (HI.out w1).mono ?_
  rintro e w2 ⟨v, rfl, D, hle⟩
  replace L0 := L0.trans hle
  clear hle
  obtain ⟨A2, q2, rfl, S2, _⟩ := D.form (by decide)
  clear D
  go_wp2_with fail
  obtain ⟨co, zo, hleB⟩ := box1 w2 (.slice A2 X.length q2) 25
  replace L0 := L0.trans hleB
  replace S2 := S2.le hleB
  clear hleB
  generalize w2.alloc (.cells #[.slice A2 X.length q2] 25) = w3 at *
  refine (HS.out w3).mono ?_
  rintro e w4 ⟨v, rfl, D, hle⟩
  replace co := (hle.cell zo).trans co
  replace zo := Nat.lt_of_lt_of_le zo hle.size
  replace L0 := L0.trans hle
  replace S2 := S2.le hle
  clear hle
  obtain ⟨A4, q4, rfl, S4, _⟩ := D.form (by decide)
  clear D
  go_wp2_with fail
  obtain ⟨cv, zv, hleB⟩ := box1 w4 (.slice A4 X.length q4) 25
  replace co := (hleB.cell zo).trans co
  replace zo := Nat.lt_of_lt_of_le zo hleB.size
  replace L0 := L0.trans hleB
  replace S2 := S2.le hleB
  replace S4 := S4.le hleB
  clear hleB
  generalize w4.alloc (.cells #[.slice A4 X.length q4] 25) = w5 at *
  refine (equalTree_self A2 A4 _ q2 q4 X w5 S2 S4).mono ?_
  rintro e w6 ⟨rfl, hle⟩
  replace co := (hle.cell zo).trans co
  replace cv := (hle.cell zv).trans cv
  replace zo := Nat.lt_of_lt_of_le zo hle.size
  replace zv := Nat.lt_of_lt_of_le zv hle.size
  replace L0 := L0.trans hle
  replace S2 := S2.le hle
  replace S4 := S4.le hle
  clear hle
  generalize ptOk s = ok at *
  cases ok
  · go_wp2_with fail
    refine (equalTree_self A2 A4 _ q2 q4 X _ S2 S4).mono ?_
    rintro e w7 ⟨rfl, hle⟩
    replace L0 := L0.trans hle
    clear hle
    go_wp2
    go_ret
    exact ⟨rfl, L0⟩
  · obtain ⟨h1, h2⟩ := HFX.out rfl
    have HV : Hid (Value.string (ttX X) = Value.string s) := by show _ = _; rw [h1]
    have H2 := Lib.hid h2
    clear h1 h2 HFX
    have hss : (s.toList == s.toList) = true := by simp
    go_wp2_with fail
    refine (Calls.val (iTreeText_any A2 _ q2 X w6 S2) HV.out).mono ?_
    rintro e w7 ⟨rfl, hle⟩
    replace co := (hle.cell zo).trans co
    replace zo := Nat.lt_of_lt_of_le zo hle.size
    replace S2 := S2.le hle
    replace L0 := L0.trans hle
    clear hle
    go_wp2_with fail
    refine (Calls.val (iValidTree_any A2 _ q2 X w7 S2) (vb H2.out)).mono ?_
    rintro e w8 ⟨rfl, hle⟩
    replace L0 := L0.trans hle
    clear hle
    go_wp2
    go_ret
    exact ⟨rfl, L0⟩
end Go.Proofs.Ytjkadmbcnlelhaa
