/- the law FnRaiseWhileChain -/
import Derived.Test.YtcagickmennlpaaDoorFH0
import Derived.Test.YtcagickmennlpaaDoorRW
import Derived.Test.YtcagickmennlpaaDoorRZ
namespace Go.Proofs.YtcagickmennlpaaDoor
open Go.RowKit
set_option maxHeartbeats 4000000 in
set_option maxRecDepth 100000 in
theorem fnRaiseWhileChain_walk (A : Option Addr) (n cap : Nat) (bs : List By) (w : World) (hR : Sl w A n cap bs) (NG : GotErr w) :
    Calls Tryd.prog 6 #[.slice A n cap] w fun e w' => e = .returned (.bool true) ∧ Le w w' := by
  have hm := hR.n_le
  by_cases hbig : 1048576 < n
  · go_enter Tryd.func6, Tryd.ntmps6
    go_wp2
    go_ret
    exact ⟨rfl, Le.refl w⟩
  go_enter Tryd.func6, Tryd.ntmps6
  go_wp2_with fail
  refine (drawRaiseWhile_any A n cap bs w hR).mono ?_
  rintro e w1 ⟨B, m, c, xs, A1, q1, hs, _, rfl, ⟨f, g, rfl, hf0, hf1, hg0, hg1⟩, S, hm8, S2, hl6, L0⟩
  replace NG := NG.le L0
  go_wp2_with fail
  obtain ⟨ct, zt, ch, zh, hleB⟩ := box2 w1 (.slice B m c) (.slice A1 hs.length q1) 25 28
  replace S := S.le hleB
  replace S2 := S2.le hleB
  replace L0 := L0.trans hleB
  replace NG := NG.le hleB
  clear hleB
  generalize (w1.alloc (.cells #[.slice B m c] 25)).alloc (.cells #[.slice A1 hs.length q1] 28) = W1 at *
  have hI := iRaiseWhile_any B A1 m c hs.length q1 xs hs f g W1 S S2 (by omega) NG
  have HQ : Hid (∀ w, Sl w B m c xs → Sl w A1 hs.length q1 hs → _) := fun w h h2 => sRaiseWhile_any B A1 m c hs.length q1 xs hs f g w h h2 (by omega)
  have hlen : (rwX xs hs f g).length ≤ 6 := by
    cases h : rwOk xs hs f g
    · rw [rwX_of h]; simp
    · rw [rwX_of h]; show (raisedL _ _ _).length ≤ 6; rw [raisedL_len]; exact hl6
  have HF : rwOk xs hs f g = true → goodF xs hs f = true ∧ goodF xs hs g = true := fun h => by unfold rwOk at h; rw [Bool.and_eq_true] at h; exact h
  have HX : rwOk xs hs f g = true → rwX xs hs f g = raisedL hs f g := fun h => by rw [rwX_of h]; rfl
  rcases Bool.eq_false_or_eq_true (rwOk xs hs f g) with ho | ho
  · obtain ⟨hgf, hgg⟩ := HF ho
    have hX := HX ho
    obtain ⟨i, rfl, hi⟩ := goodF_at hgf
    obtain ⟨j, rfl, hj⟩ := goodF_at hgg
    have hok : okHeap xs hs = true := by have h := hgf; unfold goodF at h; rw [Bool.and_eq_true] at h; exact h.1
    have ok2 := ok_raised hok hi hj
    have hlx := raisedL_len hs (i : Int) (j : Int)
    have E1 : Hid (i ≠ j → ∀ m, m ≤ (chX xs hs (j : Int)).length → (∀ q (hq : q < (chX xs hs (j : Int)).length), q < m → (chX xs hs (j : Int))[q] ≠ (i : Int)) → (∀ hq : m < (chX xs hs (j : Int)).length, (chX xs hs (j : Int))[m] = (i : Int)) →
        chX xs (raisedL hs (i : Int) (j : Int)) (i : Int) = (i : Int) :: (chX xs hs (j : Int)).take m) := fun hne m h1 h2 h3 => by
      have e1 : chX xs hs (j : Int) = chainN (ctxOf hs) hs.length (j : Int) := by unfold chX; rw [hgg]; rfl
      have e2 : chX xs (raisedL hs (i : Int) (j : Int)) (i : Int) = chainN (ctxOf (raisedL hs (i : Int) (j : Int))) (raisedL hs (i : Int) (j : Int)).length (i : Int) := by unfold chX; rw [goodF_mk ok2 (by omega)]; rfl
      rw [e2]
      exact chain_raised hok hi hj hne e1.symm h1 h2 h3
    rw [ho, hX] at hI HQ
    rw [hX] at hlen
    have HLX := Lib.hid hlx
    clear HF HX ho hX hgf hgg hok ok2 hlx hf0 hf1 hg0 hg1
    generalize raisedL hs (i : Int) (j : Int) = L at *
    refine (Calls.heap2 hI).mono ?_
    rintro e w2 ⟨A2, q2, rfl, S3, hle⟩
    replace ct := (hle.cell zt).trans ct
    replace ch := (hle.cell zh).trans ch
    replace zt := Nat.lt_of_lt_of_le zt hle.size
    replace zh := Nat.lt_of_lt_of_le zh hle.size
    replace S := S.le hle
    replace S2 := S2.le hle
    replace L0 := L0.trans hle
    replace NG := NG.le hle
    clear hle hI
    go_wp2_with fail
    obtain ⟨co, zo, hleB⟩ := box1 w2 (.slice A2 L.length q2) 28
    replace ct := (hleB.cell zt).trans ct
    replace ch := (hleB.cell zh).trans ch
    replace zt := Nat.lt_of_lt_of_le zt hleB.size
    replace zh := Nat.lt_of_lt_of_le zh hleB.size
    replace S := S.le hleB
    replace L0 := L0.trans hleB
    replace S2 := S2.le hleB
    replace S3 := S3.le hleB
    replace NG := NG.le hleB
    clear hleB
    generalize w2.alloc (.cells #[.slice A2 L.length q2] 28) = w3 at *
    refine (Calls.heap2 (HQ.out w3 S S2)).mono ?_
    rintro e w4 ⟨A4, q4, rfl, S4, hle⟩
    replace ct := (hle.cell zt).trans ct
    replace ch := (hle.cell zh).trans ch
    replace co := (hle.cell zo).trans co
    replace zt := Nat.lt_of_lt_of_le zt hle.size
    replace zh := Nat.lt_of_lt_of_le zh hle.size
    replace zo := Nat.lt_of_lt_of_le zo hle.size
    replace S := S.le hle
    replace L0 := L0.trans hle
    replace S2 := S2.le hle
    replace S3 := S3.le hle
    replace NG := NG.le hle
    clear hle
    go_wp2_with fail
    obtain ⟨cv, zv, hleB⟩ := box1 w4 (.slice A4 L.length q4) 28
    replace ct := (hleB.cell zt).trans ct
    replace ch := (hleB.cell zh).trans ch
    replace co := (hleB.cell zo).trans co
    replace zt := Nat.lt_of_lt_of_le zt hleB.size
    replace zh := Nat.lt_of_lt_of_le zh hleB.size
    replace zo := Nat.lt_of_lt_of_le zo hleB.size
    replace S := S.le hleB
    replace L0 := L0.trans hleB
    replace S2 := S2.le hleB
    replace S3 := S3.le hleB
    replace S4 := S4.le hleB
    replace NG := NG.le hleB
    clear hleB
    generalize w4.alloc (.cells #[.slice A4 L.length q4] 28) = w5 at *
    refine (equalHeap_self A2 A4 _ q2 q4 L w5 S3 S4).mono ?_
    rintro e w6 ⟨rfl, hle⟩
    replace ct := (hle.cell zt).trans ct
    replace ch := (hle.cell zh).trans ch
    replace co := (hle.cell zo).trans co
    replace cv := (hle.cell zv).trans cv
    replace zt := Nat.lt_of_lt_of_le zt hle.size
    replace zh := Nat.lt_of_lt_of_le zh hle.size
    replace zo := Nat.lt_of_lt_of_le zo hle.size
    replace zv := Nat.lt_of_lt_of_le zv hle.size
    replace S := S.le hle
    replace L0 := L0.trans hle
    replace S2 := S2.le hle
    replace S3 := S3.le hle
    replace S4 := S4.le hle
    replace NG := NG.le hle
    clear hle
    clear cv zv S4
    by_cases hij : i = j
    · subst hij
      have hb1 : ((i : Int) == (i : Int)) = true := by simp
      clear E1
      go_wp2
      go_ret
      exact ⟨rfl, L0⟩
    · have hb1 : ((i : Int) == (j : Int)) = false := by simp; omega
      obtain ⟨i0, hi0, hz0, hz1, hz2⟩ := info_parts intInfoB
      go_wp2_with fail
      have O0 : (w6.alloc (.cells #[.int .i64 (i : Int)] 3)).ownsRow w6.heap.size 3 1 (.slice (some ⟨w6.heap.size, 0, none⟩) 1 1) 1 ([(i : Int)].flatMap Enc.cells) :=
        ⟨rfl, .inr ⟨_, 1, _, rfl, by omega, hp_new w6 _ rfl, by omega, by simp [maxLen], rfl, rfl⟩⟩
      have HU : Hid ((0 < m → ∀ a, B = some a → a.block < w6.heap.size) ∧ (0 < L.length → ∀ a, A2 = some a → a.block < w6.heap.size)) := ⟨fun hn a e => S.under hn a e, fun hn a e => S3.under hn a e⟩
      have hzt := zt
      have hzo := zo
      have hL0 := L0.size
      have h6 := NG.pos
      have hleN := Le.new w6 (.cells #[.int .i64 (i : Int)] 3)
      replace ct := (hleN.cell zt).trans ct
      replace ch := (hleN.cell zh).trans ch
      replace co := (hleN.cell zo).trans co
      replace zt := Nat.lt_of_lt_of_le zt hleN.size
      replace zh := Nat.lt_of_lt_of_le zh hleN.size
      replace zo := Nat.lt_of_lt_of_le zo hleN.size
      replace S := S.le hleN
      replace S2 := S2.le hleN
      replace S3 := S3.le hleN
      replace L0 := L0.trans hleN
      replace NG := NG.le hleN
      clear hleN
      have hs7 : (w6.alloc (.cells #[.int .i64 (i : Int)] 3)).heap.size = w6.heap.size + 1 := by simp
      generalize w6.alloc (.cells #[.int .i64 (i : Int)] 3) = w7 at *
      refine (iContextChain_any B A1 m c hs.length q1 xs hs (j : Int) w7 S S2 (by omega) NG).mono ?_
      rintro e w8 ⟨v8, rfl, D8, hle⟩
      have hml := chX_len xs hs (j : Int)
      have hs8 := hle.size
      have O8 := own_le O0 hle
      replace ct := (hle.cell zt).trans ct
      replace co := (hle.cell zo).trans co
      replace zt := Nat.lt_of_lt_of_le zt hle.size
      replace zo := Nat.lt_of_lt_of_le zo hle.size
      replace S := S.le hle
      replace S3 := S3.le hle
      replace L0 := L0.trans hle
      replace NG := NG.le hle
      clear hle O0 ch zh S2
      obtain ⟨A8, q8, rfl, S8, hB8⟩ := D8.form (by decide)
      have HB8 := Lib.hid hB8
      clear D8 hB8
      generalize chX xs hs (j : Int) = M at *
      have HI := Lib.hid hi
      have HJ := Lib.hid hj
      have HIJ := Lib.hid hij
      clear hi hj hij HQ
      go_wp2
      go_loopw [11, 13] (fun v k wr => ∃ (q : Nat) (A' : Option Addr) (c' : Nat), k = .int .i64 q ∧ v = .slice A' (q + 1) c' ∧ q ≤ M.length ∧ Hid (∀ p (hp : p < M.length), p < q → M[p] ≠ (i : Int)) ∧
          wr.ownsRow w6.heap.size 3 1 (.slice A' (q + 1) c') (q + 1) (((i : Int) :: M.take q).flatMap Enc.cells) ∧ Hid (∀ k, (Value.slice A' (q + 1) c').ownBlock = some k → k = w6.heap.size ∨ w8.heap.size ≤ k) ∧
          wr.cell? ⟨w1.heap.size, 0, none⟩ = some (.slice B m c) ∧ wr.cell? ⟨w2.heap.size, 0, none⟩ = some (.slice A2 L.length q2) ∧ w8.heap.size ≤ wr.heap.size ∧ Sl wr B m c xs ∧ Sl wr A2 L.length q2 L ∧ Sl wr A8 M.length q8 M ∧ Le w wr ∧ GotErr wr) (fun _ k _ => M.length - (intOf k).toNat)
      case atStart => exact ⟨0, _, _, rfl, rfl, Nat.zero_le _, fun p _ h => absurd h (by omega), O8, fun k hk => by injection hk with hk; exact .inl hk.symm, ct, co, Nat.le_refl _, S, S3, S8, L0, NG⟩
      case round =>
        clear O8 ct co S S3 S8 L0 NG zt zo
        obtain ⟨q, A', c', rfl, rfl, hq, HNO, O, HNB, ct, co, hz, S, S3, S8, L0, NG⟩ := hrel
        have zt : w1.heap.size < wr.heap.size := by omega
        have zo : w2.heap.size < wr.heap.size := by omega
        by_cases hlt : q < M.length
        · obtain ⟨b, off, rfl, hbl, hcell, hr1, hr2⟩ := S8.int_at hlt
          by_cases hst : M[q] = (i : Int)
          · have hb2 : (M[q] != (i : Int)) = false := by simpa using hst
            have HE := Lib.hid (E1 HIJ.out q hq HNO.out (fun _ => hst))
            have hql : (q : Int) < (M.length : Int) := by omega
            have O' : Sl wr A' (q + 1) c' ((i : Int) :: M.take q) := Sl.of_own O rfl (by decide) (fun y hy => by
              rcases List.mem_cons.1 hy with rfl | hy
              · have := HI.out; constructor <;> omega
              · exact S8.ok y (List.mem_of_mem_take hy))
            have hll : ((i : Int) :: M.take q).length = q + 1 := by simp; omega
            clear O hst
            go_wp2_with fail
            refine (Calls.asL HE.out (Calls.intsH (iContextChain_any B A2 m c L.length q2 xs L (i : Int) wr S S3 (by omega) NG))).mono ?_
            rintro e w9 ⟨A9, q9, rfl, S9, hle⟩
            replace L0 := L0.trans hle
            replace O' := O'.le hle
            clear hle
            rw [hll] at S9 ⊢
            go_wp2_with fail
            refine (equalInts_self A9 A' _ q9 c' _ _ S9 O').mono ?_
            rintro e w10 ⟨rfl, hle⟩
            replace L0 := L0.trans hle
            clear hle
            go_wp2
            go_ret
            exact ⟨rfl, L0⟩
          · have hb2 : (M[q] != (i : Int)) = true := by simpa using hst
            have HNO2 : Hid (∀ p (hp : p < M.length), p < q + 1 → M[p] ≠ (i : Int)) := fun p hp h => by
              rcases Nat.lt_or_ge p q with h2 | h2
              · exact HNO.out p hp h2
              · have e : p = q := by omega
                subst e; exact hst
            have hql : (q : Int) < (M.length : Int) := by omega
            have hq1 : q + 1 + 1 ≤ maxLen := by unfold maxLen; omega
            have hq2 : (q + 1 + 1) * 8 ≤ 140737488355328 := by omega
            have hbk := O.lt
            have HTK : Hid (((i : Int) :: M.take q) ++ [M[q]] = (i : Int) :: M.take (q + 1)) := by
              show _ = _
              rw [List.cons_append, List.take_succ_eq_append_getElem hlt]
            have hok1 : Enc.ok M[q] := ⟨hr1, hr2⟩
            have HOK1 := Lib.hid hok1
            clear hst hok1
            go_wp2_with (at_builtin; refine wpList_append_sl rfl _ _ 32 rfl w6.heap.size 3 i0 (.int .i64 0) 8 Tryd.underlying32 hi0 hz0 hz1 hz2 rfl _ _ ((i : Int) :: M.take q) rfl (O.alloc _) _ 1 1 [M[q]] rfl (sl_one M[q] rfl HOK1.out rfl) hq1 hq2 (Nat.le_trans (by omega) (Le.new wr _).size) ?_; intro v1 w9 O9 hg9 hbl9; have LA := Le.new wr (.cells #[.int .i64 M[q]] 3); have z9 : w8.heap.size ≤ w9.heap.size := Nat.le_trans hz (Nat.le_trans LA.size hg9.size); have hnb := hbk; have ct9 := hg9.cell (a := ⟨w1.heap.size, 0, none⟩) ((LA.cell zt).trans ct) (fun e => by have h : w6.heap.size ≤ w1.heap.size ∧ _ := hbk _ e.symm; omega); have co9 := hg9.cell (a := ⟨w2.heap.size, 0, none⟩) ((LA.cell zo).trans co) (fun e => by have h : w6.heap.size ≤ w2.heap.size ∧ _ := hbk _ e.symm; omega); have S9 := (S.le LA).grown hg9 (fun hn a e e2 => by have h := (hbk _ e2.symm).1; have := HU.out.1 hn a e; omega); have S39 := (S3.le LA).grown hg9 (fun hn a e e2 => by have h := (hbk _ e2.symm).1; have := HU.out.2 hn a e; omega); have S89 := (S8.le LA).grown hg9 (fun hn a e e2 => by have h1 := HNB.out _ e2.symm; have h2 := HB8.out a.block (by rw [e]; rfl); omega); have L9 := (L0.trans LA).grown hg9 (fun k hk => by have h := (hbk k hk).1; omega); have N9 : GotErr w9 := hg9.cell (a := ⟨0, 0, none⟩) ((LA.cell NG.pos).trans NG) (fun e => by have h : w6.heap.size ≤ 0 ∧ _ := hbk _ e.symm; omega); have HNB9 : Hid (∀ k, v1.ownBlock = some k → k = w6.heap.size ∨ w8.heap.size ≤ k) := (fun k hk => by rcases hbl9 with h | h; exact HNB.out k (h.symm.trans hk); (have e2 := h.symm.trans hk; simp at e2; omega)); clear hg9 LA hbl9; obtain ⟨A9, c9, rfl⟩ := own_form O9)
            go_roundw
            case rel =>
              rw [HTK.out] at O9
              exact ⟨q + 1, A9, c9, by go_num, rfl, by omega, HNO2.out, O9, HNB9.out, ct9, co9, z9, S9, S39, S89, L9, N9⟩
            case measure => (simp [intOf]) <;> omega
        · have hqe : q = M.length := by omega
          have HE := Lib.hid (E1 HIJ.out q hq HNO.out (fun h => absurd h hlt))
          have hql : ¬ (q : Int) < (M.length : Int) := by omega
          have O' : Sl wr A' (q + 1) c' ((i : Int) :: M.take q) := Sl.of_own O rfl (by decide) (fun y hy => by
            rcases List.mem_cons.1 hy with rfl | hy
            · have := HI.out; constructor <;> omega
            · exact S8.ok y (List.mem_of_mem_take hy))
          have hll : ((i : Int) :: M.take q).length = q + 1 := by simp; omega
          clear O hqe
          go_wp2_with fail
          refine (Calls.asL HE.out (Calls.intsH (iContextChain_any B A2 m c L.length q2 xs L (i : Int) wr S S3 (by omega) NG))).mono ?_
          rintro e w9 ⟨A9, q9, rfl, S9, hle⟩
          replace L0 := L0.trans hle
          replace O' := O'.le hle
          clear hle
          rw [hll] at S9 ⊢
          go_wp2_with fail
          refine (equalInts_self A9 A' _ q9 c' _ _ S9 O').mono ?_
          rintro e w10 ⟨rfl, hle⟩
          replace L0 := L0.trans hle
          clear hle
          go_wp2
          go_ret
          exact ⟨rfl, L0⟩
  · rw [ho] at hI HQ
    clear ho HF HX
    generalize rwX xs hs f g = L at *
    refine (Calls.heap2 hI).mono ?_
    rintro e w2 ⟨A2, q2, rfl, S3, hle⟩
    replace ct := (hle.cell zt).trans ct
    replace ch := (hle.cell zh).trans ch
    replace zt := Nat.lt_of_lt_of_le zt hle.size
    replace zh := Nat.lt_of_lt_of_le zh hle.size
    replace S := S.le hle
    replace S2 := S2.le hle
    replace L0 := L0.trans hle
    replace NG := NG.le hle
    clear hle hI
    go_wp2_with fail
    obtain ⟨co, zo, hleB⟩ := box1 w2 (.slice A2 L.length q2) 28
    replace ct := (hleB.cell zt).trans ct
    replace ch := (hleB.cell zh).trans ch
    replace zt := Nat.lt_of_lt_of_le zt hleB.size
    replace zh := Nat.lt_of_lt_of_le zh hleB.size
    replace S := S.le hleB
    replace L0 := L0.trans hleB
    replace S2 := S2.le hleB
    replace S3 := S3.le hleB
    replace NG := NG.le hleB
    clear hleB
    generalize w2.alloc (.cells #[.slice A2 L.length q2] 28) = w3 at *
    refine (Calls.heap2 (HQ.out w3 S S2)).mono ?_
    rintro e w4 ⟨A4, q4, rfl, S4, hle⟩
    replace ct := (hle.cell zt).trans ct
    replace ch := (hle.cell zh).trans ch
    replace co := (hle.cell zo).trans co
    replace zt := Nat.lt_of_lt_of_le zt hle.size
    replace zh := Nat.lt_of_lt_of_le zh hle.size
    replace zo := Nat.lt_of_lt_of_le zo hle.size
    replace S := S.le hle
    replace L0 := L0.trans hle
    replace S2 := S2.le hle
    replace S3 := S3.le hle
    replace NG := NG.le hle
    clear hle
    go_wp2_with fail
    obtain ⟨cv, zv, hleB⟩ := box1 w4 (.slice A4 L.length q4) 28
    replace ct := (hleB.cell zt).trans ct
    replace ch := (hleB.cell zh).trans ch
    replace co := (hleB.cell zo).trans co
    replace zt := Nat.lt_of_lt_of_le zt hleB.size
    replace zh := Nat.lt_of_lt_of_le zh hleB.size
    replace zo := Nat.lt_of_lt_of_le zo hleB.size
    replace S := S.le hleB
    replace L0 := L0.trans hleB
    replace S2 := S2.le hleB
    replace S3 := S3.le hleB
    replace S4 := S4.le hleB
    replace NG := NG.le hleB
    clear hleB
    generalize w4.alloc (.cells #[.slice A4 L.length q4] 28) = w5 at *
    refine (equalHeap_self A2 A4 _ q2 q4 L w5 S3 S4).mono ?_
    rintro e w6 ⟨rfl, hle⟩
    replace ct := (hle.cell zt).trans ct
    replace ch := (hle.cell zh).trans ch
    replace co := (hle.cell zo).trans co
    replace cv := (hle.cell zv).trans cv
    replace zt := Nat.lt_of_lt_of_le zt hle.size
    replace zh := Nat.lt_of_lt_of_le zh hle.size
    replace zo := Nat.lt_of_lt_of_le zo hle.size
    replace zv := Nat.lt_of_lt_of_le zv hle.size
    replace S := S.le hle
    replace L0 := L0.trans hle
    replace S2 := S2.le hle
    replace S3 := S3.le hle
    replace S4 := S4.le hle
    replace NG := NG.le hle
    clear hle
    go_wp2_with fail
    refine (equalHeap_self A2 A4 _ q2 q4 L _ S3 S4).mono ?_
    rintro e w7 ⟨rfl, hle⟩
    replace L0 := L0.trans hle
    clear hle
    go_wp2
    go_ret
    exact ⟨rfl, L0⟩
end Go.Proofs.YtcagickmennlpaaDoor
