/- the law FnFirstCatch -/
import Derived.Test.YtdookbcnodghnaaDG
import Derived.Test.YtdookbcnodghnaaFAboveOf
import Derived.Test.YtdookbcnodghnaaPB
import Derived.Test.YtdookbcnodghnaaOI
import Derived.Test.YtdookbcnodghnaaHF
import Derived.Test.YtdookbcnodghnaaHK
namespace Go.Proofs.Ytdookbcnodghnaa
open Go.RowKit

theorem wpAnyH_takeL {P : Program} {l : List Oper} {Q : Exit → Act → World → Prop} {md : Region.Mode} {S : World → Prop} {i : Nat} {oi : Oper} {v : Value} {fuel : Nat} {listed : Array Bool} {a : Act} {w : World} (hi : l[i]? = some oi)
    (hs : Region.noSelect l.toArray = true) (hf : Region.free md l.toArray listed i = true) (hr : (Region.ready md l.toArray listed).contains i = true)
    (hQ : ∀ c a w, Q (.panic c) (a.put oi.dst v) w → Q (.panic c) a w) (hy : YieldsIf P l.toArray S oi v a) (hS : S w)
    (h : wpAnyH P md l.toArray Q S fuel (listed.setIfInBounds i true) (a.put oi.dst v) w) : wpAnyH P md l.toArray Q S (fuel + 1) listed a w :=
  wpAnyH_take (by rw [List.getElem?_toArray]; exact hi) hs hf hr hQ hy hS h
theorem AllReadyH.consL {P : Program} {l : List Oper} {Q : Exit → Act → World → Prop} {md : Region.Mode} {S : World → Prop} {fuel : Nat} {listed : Array Bool} {a : Act} {w : World} {i : Nat} {o : Oper} {rs : List Nat} (ho : l[i]? = some o)
    (h : ∀ K' : Act → World → Prop, Shut (∀ a w, S w → (S w → wpAnyH P md l.toArray Q S fuel (listed.setIfInBounds i true) a w) → K' a w) → if Region.wanted o (yielded l.toArray a.tmps) = true then Oper.wp P o a w K' Q else K' (a.put o.dst undef) w)
    (hs : AllReadyH P md l.toArray Q S fuel listed a w rs) : AllReadyH P md l.toArray Q S fuel listed a w (i :: rs) :=
  AllReadyH.cons (by rw [List.getElem?_toArray]; exact ho) h hs

set_option maxHeartbeats 4000000 in
set_option maxRecDepth 100000 in
theorem fnFirstCatch_walk (A : Option Addr) (n cap : Nat) (bs : List By) (w : World) (hR : Sl w A n cap bs) :
    Calls Try.prog 9 #[.slice A n cap] w fun e w' => e = .returned (.bool true) ∧ Le w w' := by
  have hm := hR.n_le
  by_cases hbig : 1048576 < n
  · go_enter Try.func9, Try.ntmps9
    go_wp2
    go_ret
    exact ⟨rfl, Le.refl w⟩
  go_enter Try.func9, Try.ntmps9
  go_wp2_with fail
  refine (drawFirstCatch_any A n cap bs w hR).mono ?_
  rintro e w1 ⟨B, D, m, c, k, d, xs, L, a, rfl, S, hm8, S2, hk8, ha, L0⟩
  go_wp2_with fail
  obtain ⟨ct, zt, hleB⟩ := box1 w1 (.slice B m c) 25
  replace S := S.le hleB
  replace L0 := L0.trans hleB
  replace S2 := S2.le hleB
  clear hleB
  generalize w1.alloc (.cells #[.slice B m c] 25) = W1 at *
  go_wp2_with fail
  refine (iFirstCatch_any B D m c k d xs L a W1 S S2).mono ?_
  rintro e w2 ⟨rfl, hle⟩
  replace ct := (hle.cell zt).trans ct
  replace zt := Nat.lt_of_lt_of_le zt hle.size
  replace S := S.le hle
  replace L0 := L0.trans hle
  replace S2 := S2.le hle
  clear hle
  go_wp2_with fail
  refine (sFirstCatch_any B D m c k d xs L a w2 S S2).mono ?_
  rintro e w3 ⟨rfl, hle⟩
  replace ct := (hle.cell zt).trans ct
  replace zt := Nat.lt_of_lt_of_le zt hle.size
  replace S := S.le hle
  replace L0 := L0.trans hle
  replace S2 := S2.le hle
  clear hle
  have hbb : (firstX xs L a != firstX xs L a) = false := by simp
  have hbb2 : (firstX xs L a == firstX xs L a) = true := by simp
  rcases Bool.eq_false_or_eq_true (goodC xs L && hasK xs a) with ho | ho
  rotate_left
  · have hX2 : firstX xs L a = -2 := by rw [firstX_of ho]; rfl
    have hX3 : (firstX xs L a == -2) = true := by rw [hX2]; rfl
    clear ho hX2
    go_wp2_with fail
    refine (sFirstCatch_any B D m c k d xs L a w3 S S2).mono ?_
    rintro e w9 ⟨rfl, hle⟩
    replace L0 := L0.trans hle
    clear hle
    go_wp2
    go_ret
    exact ⟨rfl, L0⟩
  have hX : firstX xs L a = firstC xs L a 0 := firstX_of ho
  simp only [Bool.and_eq_true] at ho
  have gc := goodC_of ho.1
  have ra := hasK_iff.1 ho.2
  have hlen := S2.len
  have XA : ∀ x : Int, 0 ≤ x ∧ x < xs.length → isAx xs a x = isAL xs a x := fun x hx => by
    unfold isAx; rw [goodC_ok ho.1, ho.2, hasK_iff.2 hx]; rfl
  have E1 : Hid ((firstX xs L a = -1 ∧ ∀ i (h : i < L.length), isAx xs a L[i] = false) ∨ ∃ i, ∃ h : i < L.length, firstX xs L a = (i : Int) ∧ isAx xs a L[i] = true ∧ ∀ j (hj : j < i), isAx xs a (L[j]'(by omega)) = false) := by
    show _ ∨ _
    rw [hX]
    rcases firstC_spec xs a L 0 with ⟨h1, h2⟩ | ⟨i, hi, h1, h2, h3⟩
    · exact .inl ⟨h1, fun i hi => by rw [XA _ (gc.mem _ (List.getElem_mem hi))]; exact h2 i hi⟩
    · exact .inr ⟨i, hi, by omega, by rw [XA _ (gc.mem _ (List.getElem_mem hi))]; exact h2, fun j hj => by rw [XA _ (gc.mem _ (List.getElem_mem _))]; exact h3 j hj⟩
  have E2 : Hid (hasI (caughtX xs L) a = decide (0 ≤ firstX xs L a)) := by
    show _ = _
    rw [caughtX_of ho.1, hX]; exact caught_has a ra.1 ra.2
  have hne : (firstX xs L a == -2) = false := by
    rw [beq_eq_false_iff_ne]
    rcases E1.out with ⟨h, _⟩ | ⟨i, _, h, _⟩ <;> omega
  clear hX XA gc ho ra
  generalize firstX xs L a = q at *
  have hlc := caughtX_len xs L
  have E5 : Hid (∀ j (h : j < L.length), isAx xs a L[j] = false ∨ (¬ q < 0 ∧ ¬ (j : Int) < q)) := by
    intro j hj
    rcases E1.out with ⟨_, h⟩ | ⟨i, hi, h1, _, h3⟩
    · exact .inl (h j hj)
    · by_cases hji : j < i
      · exact .inl (h3 j hji)
      · exact .inr ⟨by omega, by omega⟩
  go_wp2
  go_loopw [7] (fun i wr => ∃ j : Nat, i = .int .i64 j ∧ Le w3 wr) (fun i _ => k - (intOf i).toNat)
  case atStart => exact ⟨0, rfl, Le.refl _⟩
  case round =>
    obtain ⟨j, rfl, LW⟩ := hrel
    replace ct := (LW.cell zt).trans ct
    replace zt := Nat.lt_of_lt_of_le zt LW.size
    replace S := S.le LW
    replace L0 := L0.trans LW
    replace S2 := S2.le LW
    by_cases hlt : j < k
    · have hjx : j < L.length := by omega
      have he := E5.out j hjx
      obtain ⟨b, off, rfl, hb, hcell, _, _⟩ := S2.int_at hjx
      generalize L[j] = x at he hcell
      have hji : (j : Int) < k := by omega
      have F1 := cell_ext hb hcell
      have F2 := cell_ext zt ct
      rcases he with he | ⟨hq1, hq2⟩
      · go_wp2_with fail
        refine wp_region_ext (by kernel_rfl) (by kernel_rfl) ?_
        repeat (go_big_quiet_step (first | (go_at_call 19; exact Calls.ext_of (Calls.val (iIsA_any _ m c xs a x _ (S.ext _)) (vb he)))))
        refine wpQuiet_nil ?_
        intro _ hw'
        obtain ⟨gg, rfl⟩ := hw'
        have hw2 := Le.ext wr gg
        generalize wr.ext gg = W2 at *
        go_wp2
        go_roundw
        case rel => exact ⟨j + 1, by go_num, LW.trans hw2⟩
        case measure => simp [intOf]; omega
      · cases he : isAx xs a x
        all_goals
          have hd1 : decide (q < 0) = false := decide_eq_false (by omega)
          have hd2 : decide ((j : Int) < q) = false := decide_eq_false (by omega)
          go_wp2_with fail
          refine wp_region_ext (by kernel_rfl) (by kernel_rfl) ?_
          repeat (go_big_quiet_step (first | (go_at_call 19; exact Calls.ext_of (Calls.val (iIsA_any _ m c xs a x _ (S.ext _)) (vb he)))))
          refine wpQuiet_nil ?_
          intro _ hw'
          obtain ⟨gg, rfl⟩ := hw'
          have hw2 := Le.ext wr gg
          generalize wr.ext gg = W2 at *
          go_wp2
          go_roundw
          case rel => exact ⟨j + 1, by go_num, LW.trans hw2⟩
          case measure => simp [intOf]; omega
    · rcases E1.out with ⟨hq, _⟩ | ⟨i, hi, hq, hit, _⟩
      · subst hq
        have e2 : hasI (caughtX xs L) a = false := E2.out
        have hd1 : decide ((-1 : Int) < 0) = true := rfl
        have hd2 : decide ((0 : Int) ≤ -1) = false := rfl
        go_wp2_with fail
        replace ct := (show wr.drew.cell? _ = _ from ct)
        replace zt := (show _ < wr.drew.heap.size from zt)
        replace S := S.le (Le.refl _).drew
        replace L0 := L0.drew
        replace S2 := S2.le (Le.refl _).drew
        refine wp_region_noPanic ?_
        refine wp_region_held_drew (S := fun w' => w'.cell? ⟨w1.heap.size, 0, none⟩ = some (.slice B m c)) (by kernel_rfl) ct (fun hHeld => ?_)
        refine wpAnyH_takeL (i := 0) (v := ?_) rfl (by kernel_rfl) (by kernel_rfl) (by kernel_rfl) (fun _ _ _ h => h) (Or.inl ⟨by rfl, ?_⟩) (by assumption) ?_
        rotate_left 1
        · (intro w hSw; (try dsimp only at hSw); go_simp; try with_reducible rfl)
        try simp only [Act.put, List.setIfInBounds_toArray, List.set_cons_zero, List.set_cons_succ]
        refine wpAnyH_takeL (i := 1) (v := ?_) rfl (by kernel_rfl) (by kernel_rfl) (by kernel_rfl) (fun _ _ _ h => h) (Or.inl ⟨by rfl, ?_⟩) (by assumption) ?_
        rotate_left 1
        · (intro w hSw; (try dsimp only at hSw); go_simp; try with_reducible rfl)
        try simp only [Act.put, List.setIfInBounds_toArray, List.set_cons_zero, List.set_cons_succ]
        refine wpAnyH_takeL (i := 2) (v := ?_) rfl (by kernel_rfl) (by kernel_rfl) (by kernel_rfl) (fun _ _ _ h => h) (Or.inl ⟨by rfl, ?_⟩) (by assumption) ?_
        rotate_left 1
        · (intro w hSw; (try dsimp only at hSw); go_simp; try with_reducible rfl)
        try simp only [Act.put, List.setIfInBounds_toArray, List.set_cons_zero, List.set_cons_succ]
        refine wpAnyH_takeL (i := 3) (v := undef) rfl (by kernel_rfl) (by kernel_rfl) (by kernel_rfl) (fun _ _ _ h => h) (Or.inr ⟨?_, rfl⟩) (by assumption) ?_
        · rfl
        try simp only [Act.put, List.setIfInBounds_toArray, List.set_cons_zero, List.set_cons_succ]
        refine wpAnyH_takeL (i := 4) (v := undef) rfl (by kernel_rfl) (by kernel_rfl) (by kernel_rfl) (fun _ _ _ h => h) (Or.inr ⟨?_, rfl⟩) (by assumption) ?_
        · rfl
        try simp only [Act.put, List.setIfInBounds_toArray, List.set_cons_zero, List.set_cons_succ]
        refine wpAnyH_takeL (i := 5) (v := undef) rfl (by kernel_rfl) (by kernel_rfl) (by kernel_rfl) (fun _ _ _ h => h) (Or.inr ⟨?_, rfl⟩) (by assumption) ?_
        · rfl
        try simp only [Act.put, List.setIfInBounds_toArray, List.set_cons_zero, List.set_cons_succ]
        refine wpAnyH_takeL (i := 6) (v := undef) rfl (by kernel_rfl) (by kernel_rfl) (by kernel_rfl) (fun _ _ _ h => h) (Or.inr ⟨?_, rfl⟩) (by assumption) ?_
        · rfl
        try simp only [Act.put, List.setIfInBounds_toArray, List.set_cons_zero, List.set_cons_succ]
        refine wpAnyH_takeL (i := 7) (v := undef) rfl (by kernel_rfl) (by kernel_rfl) (by kernel_rfl) (fun _ _ _ h => h) (Or.inr ⟨?_, rfl⟩) (by assumption) ?_
        · rfl
        try simp only [Act.put, List.setIfInBounds_toArray, List.set_cons_zero, List.set_cons_succ]
        refine wpAnyH_takeL (i := 8) (v := undef) rfl (by kernel_rfl) (by kernel_rfl) (by kernel_rfl) (fun _ _ _ h => h) (Or.inr ⟨?_, rfl⟩) (by assumption) ?_
        · rfl
        try simp only [Act.put, List.setIfInBounds_toArray, List.set_cons_zero, List.set_cons_succ]
        refine wpAnyH_takeL (i := 9) (v := undef) rfl (by kernel_rfl) (by kernel_rfl) (by kernel_rfl) (fun _ _ _ h => h) (Or.inr ⟨?_, rfl⟩) (by assumption) ?_
        · rfl
        try simp only [Act.put, List.setIfInBounds_toArray, List.set_cons_zero, List.set_cons_succ]
        refine wpAnyH_takeL (i := 10) (v := ?_) rfl (by kernel_rfl) (by kernel_rfl) (by kernel_rfl) (fun _ _ _ h => h) (Or.inl ⟨by rfl, ?_⟩) (by assumption) ?_
        rotate_left 1
        · (intro w hSw; (try dsimp only at hSw); go_simp; try with_reducible rfl)
        try simp only [Act.put, List.setIfInBounds_toArray, List.set_cons_zero, List.set_cons_succ]
        refine wpAnyH_takeL (i := 11) (v := ?_) rfl (by kernel_rfl) (by kernel_rfl) (by kernel_rfl) (fun _ _ _ h => h) (Or.inl ⟨by rfl, ?_⟩) (by assumption) ?_
        rotate_left 1
        · (intro w hSw; (try dsimp only at hSw); go_simp; try with_reducible rfl)
        try simp only [Act.put, List.setIfInBounds_toArray, List.set_cons_zero, List.set_cons_succ]
        refine wpAnyH_takeL (i := 12) (v := ?_) rfl (by kernel_rfl) (by kernel_rfl) (by kernel_rfl) (fun _ _ _ h => h) (Or.inl ⟨by rfl, ?_⟩) (by assumption) ?_
        rotate_left 1
        · (intro w hSw; (try dsimp only at hSw); go_simp; try with_reducible rfl)
        try simp only [Act.put, List.setIfInBounds_toArray, List.set_cons_zero, List.set_cons_succ]
        refine wpAnyH_takeL (i := 13) (v := ?_) rfl (by kernel_rfl) (by kernel_rfl) (by kernel_rfl) (fun _ _ _ h => h) (Or.inl ⟨by rfl, ?_⟩) (by assumption) ?_
        rotate_left 1
        · (intro w hSw; (try dsimp only at hSw); go_simp; try with_reducible rfl)
        try simp only [Act.put, List.setIfInBounds_toArray, List.set_cons_zero, List.set_cons_succ]
        refine wpAnyH_takeL (i := 14) (v := ?_) rfl (by kernel_rfl) (by kernel_rfl) (by kernel_rfl) (fun _ _ _ h => h) (Or.inl ⟨by rfl, ?_⟩) (by assumption) ?_
        rotate_left 1
        · (intro w hSw; (try dsimp only at hSw); go_simp; try with_reducible rfl)
        try simp only [Act.put, List.setIfInBounds_toArray, List.set_cons_zero, List.set_cons_succ]
        refine wpAnyH_takeL (i := 15) (v := ?_) rfl (by kernel_rfl) (by kernel_rfl) (by kernel_rfl) (fun _ _ _ h => h) (Or.inl ⟨by rfl, ?_⟩) (by assumption) ?_
        rotate_left 1
        · (intro w hSw; (try dsimp only at hSw); go_simp; try with_reducible rfl)
        try simp only [Act.put, List.setIfInBounds_toArray, List.set_cons_zero, List.set_cons_succ]
        refine wpAnyH_takeL (i := 17) (v := ?_) rfl (by kernel_rfl) (by kernel_rfl) (by kernel_rfl) (fun _ _ _ h => h) (Or.inl ⟨by rfl, ?_⟩) (by assumption) ?_
        rotate_left 1
        · (intro w hSw; (try dsimp only at hSw); go_simp; try with_reducible rfl)
        try simp only [Act.put, List.setIfInBounds_toArray, List.set_cons_zero, List.set_cons_succ]
        refine wpAnyH_ready (rs := [16]) (by kernel_rfl) (by simp) (AllReadyH.consL (i := 16) rfl (fun K hK => ?_) AllReadyH.nil)
        go_simp
        go_at_call 41
        refine (Calls.intsO (iCaughtBy_any B D m c k d xs L _ S S2)).mono ?_
        rintro e w7 ⟨A7, c7, rfl, S7, hle⟩
        replace ct := (hle.cell zt).trans ct
        replace zt := Nat.lt_of_lt_of_le zt hle.size
        replace L0 := L0.trans hle
        clear hle
        refine hK.out _ _ (ct) (fun hHeld => ?_)
        clear hK K
        try simp only [Act.put, List.setIfInBounds_toArray, List.set_cons_zero, List.set_cons_succ]
        refine wpAnyH_ready (rs := [18]) (by kernel_rfl) (by simp) (AllReadyH.consL (i := 18) rfl (fun K hK => ?_) AllReadyH.nil)
        go_simp
        go_at_call 22
        refine (Calls.val (isIn_any A7 _ c7 _ a _ S7) (vb e2)).mono ?_
        rintro e w8 ⟨rfl, rfl⟩
        refine hK.out _ _ (ct) (fun hHeld => ?_)
        clear hK K
        try simp only [Act.put, List.setIfInBounds_toArray, List.set_cons_zero, List.set_cons_succ]
        refine wpAnyH_takeL (i := 19) (v := ?_) rfl (by kernel_rfl) (by kernel_rfl) (by kernel_rfl) (fun _ _ _ h => h) (Or.inl ⟨by rfl, ?_⟩) (by assumption) ?_
        rotate_left 1
        · (intro w hSw; (try dsimp only at hSw); go_simp; try with_reducible rfl)
        try simp only [Act.put, List.setIfInBounds_toArray, List.set_cons_zero, List.set_cons_succ]
        refine wpAnyH_takeL (i := 20) (v := ?_) rfl (by kernel_rfl) (by kernel_rfl) (by kernel_rfl) (fun _ _ _ h => h) (Or.inl ⟨by rfl, ?_⟩) (by assumption) ?_
        rotate_left 1
        · (intro w hSw; (try dsimp only at hSw); go_simp; try with_reducible rfl)
        try simp only [Act.put, List.setIfInBounds_toArray, List.set_cons_zero, List.set_cons_succ]
        refine wpAnyH_takeL (i := 21) (v := ?_) rfl (by kernel_rfl) (by kernel_rfl) (by kernel_rfl) (fun _ _ _ h => h) (Or.inl ⟨by rfl, ?_⟩) (by assumption) ?_
        rotate_left 1
        · (intro w hSw; (try dsimp only at hSw); go_simp; try with_reducible rfl)
        try simp only [Act.put, List.setIfInBounds_toArray, List.set_cons_zero, List.set_cons_succ]
        refine wpAnyH_done (by kernel_rfl) ?_ _
        refine NoPanic.normal ?_
        go_wp2
        go_ret
        exact ⟨rfl, L0⟩
      · subst hq
        have e2 : hasI (caughtX xs L) a = true := by rw [E2.out]; simp
        obtain ⟨b, off, rfl, hb, hcell, _, _⟩ := S2.int_at hi
        generalize L[i] = x at hit hcell
        have hii : (i : Int) < k := by omega
        have hi0 : ¬ (i : Int) < 0 := by omega
        have hi1 : (0 : Int) ≤ (i : Int) := by omega
        have hd1 : decide ((i : Int) < 0) = false := decide_eq_false hi0
        have hd2 : decide ((0 : Int) ≤ (i : Int)) = true := decide_eq_true hi1
        have cl := hcell
        have zl := hb
        go_wp2_with fail
        replace ct := (show wr.drew.cell? _ = _ from ct)
        replace zt := (show _ < wr.drew.heap.size from zt)
        replace cl := (show wr.drew.cell? _ = _ from cl)
        replace zl := (show _ < wr.drew.heap.size from zl)
        replace S := S.le (Le.refl _).drew
        replace L0 := L0.drew
        replace S2 := S2.le (Le.refl _).drew
        go_region_held3 (fun w' => w'.cell? ⟨w1.heap.size, 0, none⟩ = some (.slice B m c) ∧ w'.cell? ⟨b, off + i, none⟩ = some (.int .i64 x))
          (first | exact ⟨ct, cl⟩)
          (first
          | (go_at_call 19; refine (Calls.val (iIsA_any B m c xs a x _ S) (vb hit)).mono ?_; rintro e w6 ⟨rfl, hle⟩; replace ct := (hle.cell zt).trans ct; replace cl := (hle.cell zl).trans cl; replace zt := Nat.lt_of_lt_of_le zt hle.size; replace zl := Nat.lt_of_lt_of_le zl hle.size; replace S := S.le hle; replace L0 := L0.trans hle; replace S2 := S2.le hle; clear hle)
          | (go_at_call 41; refine (Calls.intsO (iCaughtBy_any B _ m c k d xs L _ S S2)).mono ?_; rintro e w7 ⟨A7, c7, rfl, S7, hle⟩; replace ct := (hle.cell zt).trans ct; replace cl := (hle.cell zl).trans cl; replace zt := Nat.lt_of_lt_of_le zt hle.size; replace zl := Nat.lt_of_lt_of_le zl hle.size; replace L0 := L0.trans hle; clear hle)
          | (go_at_call 22; refine (Calls.val (isIn_any A7 _ c7 _ a _ S7) (vb e2)).mono ?_; rintro e w8 ⟨rfl, rfl⟩; skip)
          )
        go_wp2
        go_ret
        exact ⟨rfl, L0⟩
end Go.Proofs.Ytdookbcnodghnaa
