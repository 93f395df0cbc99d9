/- one text of ItS, ItX, GM -/
import Derived.Test.YthmdlligfhfleaaCj13
import Derived.Test.YthmdlligfhfleaaCj7
import Derived.Lib.SliceRun
namespace Go.Proofs.Ythmdlligfhfleaa
open Go.RowKit
set_option linter.unusedVariables false
section
open Go.RowKit Go.Shelf
attribute [local go_sem] Oper.semAt_some
theorem kd_depth {xs : List Cls} {g : List Prt} (G : GoodG xs g) : ∀ (m f : Nat), 1 ≤ f → (f < g.length → (gAt g f).depth = 1) → ∀ i ∈ kdS g m f g.length, 1 ≤ i ∧ i < g.length ∧ (gAt g i).depth = 1
  | 0, f, _, _, i, h => nomatch h
  | m + 1, f, hf, hd, i, h => by
    have e : kdS g (m + 1) f g.length = if f < g.length then f :: kdS g m (endN g f) g.length else [] := rfl
    rw [e] at h
    by_cases hl : f < g.length
    · rw [if_pos hl] at h
      rcases List.mem_cons.1 h with rfl | h
      · exact ⟨hf, hl, hd hl⟩
      · have hgt := endN_gt g f
        refine kd_depth G m (endN g f) (by omega) (fun h2 => ?_) i h
        have h3 := endN_stop hl h2
        have h4 := G.deep (endN g f) (by omega) h2
        have := hd hl
        omega
    · rw [if_neg hl] at h; cases h
theorem kd_one {xs : List Cls} {g : List Prt} (G : GoodG xs g) : ∀ i ∈ kdS g g.length 1 g.length, 1 ≤ i ∧ i < g.length ∧ (gAt g i).depth = 1 := kd_depth G _ _ (Nat.le_refl _) (fun h => by
  have h1 := G.deep 1 (Nat.le_refl _) h
  have h2 := G.step 1 (Nat.le_refl _) h
  have h3 := G.first
  rw [show 1 - 1 = 0 from rfl, h3] at h2
  split at h2 <;> omega)
def kidsX (xs : List Cls) (g : List Prt) : List (List Prt) := cond (gOkS xs g) (kidsL g) []
theorem kidsX_of {xs : List Cls} {g : List Prt} {b : Bool} (h : gOkS xs g = b) : kidsX xs g = cond b (kidsL g) [] := by unfold kidsX; rw [h]
theorem kids_same {xs : List Cls} {g : List Prt} (G : GoodG xs g) : (kdS g g.length 1 g.length).map (fun i => shiftL (piece g i) (-1)) = kidsL g := by
  unfold kidsL
  refine List.map_congr_left (fun i hi => ?_)
  unfold kidAt
  rw [(kd_one G i hi).2.2]
theorem kdS_len (g : List Prt) : ∀ (m f b : Nat), (kdS g m f b).length ≤ m
  | 0, _, _ => Nat.le_refl _
  | m + 1, f, b => by
    have e : kdS g (m + 1) f b = if f < b then f :: kdS g m (endN g f) b else [] := rfl
    have := kdS_len g m (endN g f) b
    rw [e]
    split
    · rw [List.length_cons]; omega
    · exact Nat.zero_le _
theorem tot_le {α β : Type} (f : β → List α) (c : Nat) : ∀ (l : List β), (∀ x ∈ l, (f x).length ≤ c) → tot (l.map f) ≤ c * l.length
  | [], _ => Nat.zero_le _
  | x :: l, h => by
    have h1 := h x (List.mem_cons_self ..)
    have h2 := tot_le f c l (fun y hy => h y (List.mem_cons_of_mem _ hy))
    unfold tot at h2 ⊢
    rw [List.map_cons, List.map_cons, List.sum_cons, List.length_cons, Nat.mul_succ]
    omega
theorem kidsX_tot (xs : List Cls) (g : List Prt) : tot (kidsX xs g) ≤ 1048576 ∧ (kidsX xs g).length ≤ 1048576 := by
  cases h : gOkS xs g
  · rw [kidsX_of h]; exact ⟨Nat.zero_le _, Nat.zero_le _⟩
  · have h1 := gOk_len h
    have h2 := kdS_len g g.length 1 g.length
    rw [kidsX_of h]
    show tot (kidsL g) ≤ _ ∧ (kidsL g).length ≤ _
    unfold kidsL
    have h3 := tot_le (kidAt g) 16 (kdS g g.length 1 g.length) (fun i _ => by
      unfold kidAt piece
      rw [shiftL_len, List.length_take, List.length_drop]; omega)
    rw [List.length_map]
    omega
theorem OwL.own {α : Type} [Enc α] {TT T : TypeId} {w0 X Y : World} {v : Value} {hs : List Hdr} {L : List (List α)} {row : Option Nat} (h : OwL TT T w0 X v hs L) (hg : X.grownBy Y row) (hr : ∀ r, row = some r → ∃ o : Obj, X.heap[r]? = some o ∧ o.isCells = false) : OwL TT T w0 Y v hs L := by
  have kp : ∀ {β : Type} [Enc β] (U : TypeId) (u : Value) (l : List β), Owd U w0 X u l → Owd U w0 Y u l := fun U u l o => ⟨o.row.kept hg (by
    rcases o.row.2 with ⟨rfl, _⟩ | ⟨g, cap, cur, rfl, _, hgb, _⟩
    · exact .inl rfl
    · refine .inr fun e' => ?_
      obtain ⟨o, ho, hc⟩ := hr g (by simpa [Value.ownBlock] using e'.symm)
      rw [hgb] at ho; cases ho; cases hc), o.ok⟩
  exact ⟨kp _ _ _ h.top, h.len, fun i x l e f => kp _ _ _ (h.each i x l e f), h.apart, h.off⟩
theorem GrB.below {S : Nat → Prop} {n : Nat} {w w' : World} (hg : GrB S w w') (hn : n ≤ w.heap.size) (h : ∀ k, S k → n ≤ k) : Below n w w' := ⟨hg.os, hg.tape, hg.output, hg.size, fun k hk => hg.block k (by omega) (fun e => by have := h k e; omega)⟩
set_option maxRecDepth 100000 in
theorem sKidsOf_any (A B : Option Addr) (n cap m c : Nat) (xs : List Cls) (g : List Prt) (w : World) (hT : Sl w A n cap xs) (hG : Sl w B m c g) :
    Calls Try.prog 26 #[.agg #[.slice A n cap], .slice B m c] w fun e w' => ∃ v hs, e = .returned v ∧ OwL 26 35 w w' v hs (kidsX xs g) ∧ Le w w' := by
  obtain ⟨-, z0, hl⟩ := box1 w (.slice A n cap) 25
  have hS := hT.le hl
  have hG1 := hG.le hl
  go_enter Try.func26, Try.ntmps26
  go_wp2_with fail
  generalize w.alloc (.cells #[.slice A n cap] 25) = w1 at *
  refine (validGroup_any _ _ _ _ _ _ xs g _ hS hG1).mono ?_
  rintro e w2 ⟨rfl, hle⟩
  have hG2 := hG1.le hle
  have hLL := hl.trans hle
  cases hg : gOkS xs g
  · have HX := Lib.hid (kidsX_of hg)
    clear hg
    go_wp2
    go_ret
    exact ⟨_, _, rfl, by rw [HX.out]; exact OwL.nil _ _ _ _, hLL⟩
  · have HX := Lib.hid (kidsX_of hg)
    have G := goodG_of (by rw [← gOk_same]; exact hg)
    clear hg
    go_wp2_with fail
    refine (sKids_any _ _ _ xs g G _ hG2).mono ?_
    rintro e w3 ⟨v, hs, rfl, O, hle3⟩
    have HO := Lib.hid (O.mono hLL)
    clear O
    go_wp2
    go_ret
    exact ⟨_, hs, rfl, by rw [HX.out]; exact HO.out, hLL.trans hle3⟩
/-- what the append and the store of a new piece leave -/
theorem kids_app {w0 W W1 W2 : World} {Bo : Nat} {v : Value} {hs : List Hdr} {L : List (List Prt)} {h : Hdr} {l : List Prt} {A2 : Option Addr} {c2 : Nat} {o : Obj} (bO : Boxed W Bo 30 v) (O : OwL 26 35 w0 W v hs L) (hl : Le W W1) (hx : Owd 35 W W1 h.v l)
    (hw0 : Le w0 W) (hg2 : (W1.alloc o).grownBy W2 v.ownBlock) (O2 : W2.ownsRow w0.heap.size 26 1 (.slice A2 (hs.length + 1) c2) (hs.length + 1) ((hs ++ [h]).flatMap Enc.cells)) (hat : (Value.slice A2 (hs.length + 1) c2).ownBlock = v.ownBlock ∨ (Value.slice A2 (hs.length + 1) c2).ownBlock = some (W1.alloc o).heap.size) :
    W2.cell? ⟨Bo, 0, none⟩ = some v ∧ W2.frozen? ⟨Bo, 0, none⟩ = false ∧ Boxed (W2.setCell ⟨Bo, 0, none⟩ (.slice A2 (hs.length + 1) c2)) Bo 30 (.slice A2 (hs.length + 1) c2) ∧
      OwL 26 35 w0 (W2.setCell ⟨Bo, 0, none⟩ (.slice A2 (hs.length + 1) c2)) (.slice A2 (hs.length + 1) c2) (hs ++ [h]) (L ++ [l]) ∧ GrB (fun k => k = Bo ∨ v.ownBlock = some k) W (W2.setCell ⟨Bo, 0, none⟩ (.slice A2 (hs.length + 1) c2)) := by
  have hla := hl.trans (Le.new W1 o)
  have bO1 := boxed_le bO hla
  have Oa := O.le hla
  have hlat := OwL.later O (Nat.le_refl _) hx
  have OLN := OwL.snoc Oa (h := h) (l := l) ((hx.le (Le.new W1 o)).mono hw0) hlat.1 hlat.2 O2 hg2 hat
  have bO2 := bO1.kept hg2 (bO1.not_row (by decide) Oa.top.row)
  have hst := grownBy_setCell' W2 Bo (.slice A2 (hs.length + 1) c2)
  have hlt := bO.lt
  refine ⟨bO2.cell, bO2.frozen, bO2.set _, ?_, ?_⟩
  · have kp : ∀ {β : Type} [Enc β] (U : TypeId) (u : Value) (l : List β), 30 ≠ U → Owd U w0 W2 u l → Owd U w0 (W2.setCell ⟨Bo, 0, none⟩ (.slice A2 (hs.length + 1) c2)) u l := fun U u l hne o => ⟨o.row.kept hst (.inr (fun e => bO2.not_row hne o.row e.symm)), o.ok⟩
    exact ⟨kp _ _ _ (by decide) OLN.top, OLN.len, fun i x l e f => kp _ _ _ (by decide) (OLN.each i x l e f), OLN.apart, OLN.off⟩
  · exact ((GrB.of_le hla).trans (GrB.of_grown hg2 (fun k e => .inr e))).trans (GrB.of_grown hst (fun k e => .inl (by injection e with e; exact e.symm)))
set_option maxRecDepth 100000 in
set_option maxHeartbeats 4000000 in
theorem iKidsOf_any (A B : Option Addr) (n cap m c : Nat) (xs : List Cls) (g : List Prt) (w : World) (hT : Sl w A n cap xs) (hG : Sl w B m c g) :
    Calls Try.prog 11 #[.agg #[.slice A n cap], .slice B m c] w fun e w' => ∃ v hs, e = .returned v ∧ OwL 26 35 w w' v hs (kidsX xs g) ∧ Le w w' := by
  obtain ⟨i0, hi, hz0, hz1, hz2⟩ := info_parts infoPartSl'
  obtain ⟨-, z0, hl⟩ := box1 w (.slice A n cap) 25
  have hS := hT.le hl
  have hG1 := hG.le hl
  obtain rfl := hG.len
  cases hg : gOkS xs g
  · have HX := Lib.hid (kidsX_of hg)
    go_enter Try.func11, Try.ntmps11
    go_wp2_with fail
    generalize w.alloc (.cells #[.slice A n cap] 25) = w1 at *
    refine (iValidGroupS_any _ _ _ _ _ _ xs g _ hS hG1).mono ?_
    rintro e w2 ⟨rfl, hle⟩
    rw [hg]
    have hLL := hl.trans hle
    go_wp2
    go_ret
    exact ⟨_, _, rfl, by rw [HX.out]; exact OwL.nil _ _ _ _, hLL⟩
  · have HX := Lib.hid (kidsX_of hg)
    have G := goodG_of (by rw [← gOk_same]; exact hg)
    have hm := G.len
    have hdp := good_deep G
    obtain ⟨bz, oz, rfl, -, -⟩ := hG.prt_at (k := 0) (by omega)
    refine (callsIn_wide (n := 6)).1 ?_
    refine callsIn_of_wp_marks Try.func11 rfl trivial ?_ rfl
    simp only [Try.ntmps11, List.size_toArray, List.length_cons, List.length_nil, Nat.reduceAdd, Nat.reduceSub, Array.replicate_succ, Array.replicate_zero, List.push_toArray, List.append_toArray, List.nil_append, List.cons_append]
    gi_wp2_with (refine ⟨trivial, ?_⟩; gi_at_call 9; refine (callsIn_wide.2 (iValidGroupS_any _ _ _ _ _ _ xs g _ hS hG1)).mono ?_; rintro e w2 ⟨rfl, hle⟩; rw [hg])
    refine ⟨trivial, ?_⟩
    gi_at_call 36
    refine (kids_in Fence.wide 5 trivial rfl _ _ _ _).mono ?_
    rintro e w' ⟨rfl, rfl⟩
    have hG2 := hG1.le hle
    have SB : SlB w2.heap.size w2 (some ⟨bz, oz, none⟩) g.length c g := ⟨hG2, fun hn a e => by obtain ⟨b, off, e2, hb, -⟩ := hG2.at_ hn; rw [e2] at e; cases e; exact hb⟩
    have bO1 := (Boxed.new w2 30 (.slice none 0 0)).alloc (.cells #[.slice (some ⟨bz, oz, none⟩) g.length c] 26)
    have bG := Boxed.new (w2.alloc (.cells #[.slice none 0 0] 30)) 26 (.slice (some ⟨bz, oz, none⟩) g.length c)
    simp only [World.size_alloc] at bG
    have hB0 : Le w2 ((w2.alloc (.cells #[.slice none 0 0] 30)).alloc (.cells #[.slice (some ⟨bz, oz, none⟩) g.length c] 26)) := (Le.new w2 _).alloc _
    have hsz : ((w2.alloc (.cells #[.slice none 0 0] 30)).alloc (.cells #[.slice (some ⟨bz, oz, none⟩) g.length c] 26)).heap.size = w2.heap.size + 2 := by simp
    have hLL := hl.trans hle
    simp only [World.size_alloc]
    generalize (w2.alloc (.cells #[.slice none 0 0] 30)).alloc (.cells #[.slice (some ⟨bz, oz, none⟩) g.length c] 26) = W0 at *
    gi_wp2
    refine wpIn_rangeFunc_ownH rfl (by omega) (gf := 59) (lb := #[.pointer (some ⟨w2.heap.size + 1, 0, none⟩)]) rfl trivial (enters_of Try.func59 (by kernel_rfl) rfl)
      (kids_stops (6 - 1) (by omega) (w2.heap.size + 1) w2.heap.size bz oz c g 0 g.length hm.2 (by omega) (Nat.le_refl _) (fun i _ h2 => endN_le h2) (fun k => 0 < k ∧ k < g.length) (fun i h1 h2 => ⟨h1, h2⟩) W0 (by omega) (by omega) bG.cell (SB.below hB0)) KpB.trans (kpB_b (by omega) (by omega)) (Below.refl _ _) (fun _ => rfl)
      (fun pre W => ∃ v hs, Boxed W w2.heap.size 30 v ∧ OwL 26 35 w2 W v hs (pre.map (fun x => shiftL (piece g x.1) (-1))) ∧ v.ownBlock ≠ some (w2.heap.size + 1) ∧ Below w2.heap.size w2 W)
      (fun _ _ _ => False)
      (fun s X Y row hs hg hr => by
        obtain ⟨v, hh, h1, h2, h3, h4⟩ := hs
        exact ⟨v, hh, boxed_own (β := Unit) _ _ (fun _ => _) () X Y row h1 hg (fun r e => (hr r e).2), h2.own hg (fun r e => (hr r e).2), h3, h4.grown hg h4.size (fun k e => by have := (hr k e).1; omega)⟩)
      (fun _ _ _ _ _ hs _ _ => hs)
      ⟨_, _, bO1, OwL.nil _ _ _ _, (by simp [Value.ownBlock]), hB0⟩
      (fun x a' _ => a' = { tmps := #[.agg #[.slice A n cap], .slice (some ⟨bz, oz, none⟩) g.length c, .pointer (some ⟨w.heap.size, 0, none⟩), undef, .slice none 0 0, .pointer (some ⟨w2.heap.size, 0, none⟩), .slice (some ⟨bz, oz + x.1 * 4, none⟩) (endN g x.1 - x.1) (c - x.1), .agg #[.slice A n cap], .slice (some ⟨bz, oz, none⟩) g.length c, .bool true, .bool false, .slice (some ⟨bz, oz, none⟩) g.length c, .func (.func 59) #[] #[.pointer (some ⟨w2.heap.size + 1, 0, none⟩)], .slice (some ⟨bz, oz + x.1 * 4, none⟩) (endN g x.1 - x.1) (c - x.1), undef, undef, undef, undef, undef, undef], defers := [] })
      (fun _ _ _ _ _ _ hs _ _ => hs)
      ?assign ?body ?done ?stop
    case assign =>
      rintro l pre x W' K hI' hK
      gi_wp2
      exact hK _ _ (KeepsFrom.refl _ _) (KpB.refl _ _ _) hI' rfl
    case body =>
      rintro l pre x a' W' hl ⟨r, hr⟩ ⟨v, hs, bO, O, hvb, hBl⟩ rfl hlt
      have hx := x.2
      have hlt2 : hs.length < 16 := by have h1 := O.len; rw [List.length_map] at h1; omega
      have bOd : Boxed W'.drew w2.heap.size 30 v := bO
      have Od := O.le (Le.refl W').drew
      have SBd := SB.below hBl
      have SP := (SBd.sl.le (Le.refl W').drew).piece hx.2
      have hwd : Le w2 W'.drew := hBl.drew
      have cO := bOd.cell
      have hle1 := endN_le hx.2
      have hzW : w2.heap.size + 2 ≤ W'.drew.heap.size := by have h1 := (Array.getElem?_eq_some_iff.1 hr).1; show _ ≤ W'.heap.size; omega
      have hmo : Try.prog.follows .mixedOrders = true := by kernel_rfl
      gi_wp2_with (fail)
      refine wpIn_mono (Q := fun e a' w' => e = .normal ∧ ∃ A2 c2 hs2, Boxed w' w2.heap.size 30 (.slice A2 (hs.length + 1) c2) ∧ OwL 26 35 w2 w' (.slice A2 (hs.length + 1) c2) hs2 (pre.map (fun x => shiftL (piece g x.1) (-1)) ++ [shiftL (piece g x.1) (-1)]) ∧ GrB (fun k => k = w2.heap.size ∨ v.ownBlock = some k) W'.drew w' ∧ (Value.slice A2 (hs.length + 1) c2).ownBlock ≠ some (w2.heap.size + 1)) ?reg ?rest
      case reg =>
        refine wpIn_region_any hmo ?_
        refine wpAnyIn_ready (rs := [0, 1]) (by kernel_rfl) (by simp) ?_
        refine AllReadyIn.cons rfl (fun K hK => ?_) ?_
        · go_simp
          refine hK _ _ ?_
          clear hK K
          refine wpAnyIn_ready (rs := [1]) (by kernel_rfl) (by simp) ?_
          refine AllReadyIn.cons rfl (fun K hK => ?_) ?_
          · go_simp
            refine hK _ _ ?_
            clear hK K
            refine wpAnyIn_ready (rs := [2]) (by kernel_rfl) (by simp) ?_
            refine AllReadyIn.cons rfl (fun K hK => ?_) ?_
            · go_simp
              refine ⟨trivial, ?_⟩
              gi_at_call 37
              refine (CallsIn.inRound l (callsIn_wide.2 (shiftParts_any _ _ _ (piece g x.1) (-1) _ SP (by omega) (fun p hp => by have := hdp p (piece_mem hp); omega) (by omega)))).mono ?_
              rintro e W2 ⟨u, rfl, O2, hl2⟩
              obtain ⟨Au, cu, rfl, Su, -⟩ := O2.form (by decide)
              have cO2 := (hl2.cell bOd.lt).trans bOd.cell
              refine hK _ _ ?_
              clear hK K
              refine wpAnyIn_ready (rs := [3]) (by kernel_rfl) (by simp) ?_
              refine AllReadyIn.cons rfl (fun K hK => ?_) ?_
              · go_simp
                have cO3 := ((Le.new W2 (.cells #[.slice Au (shiftL (piece g x.1) (-1)).length cu] 26)).cell (Nat.lt_of_lt_of_le bOd.lt hl2.size)).trans cO2
                refine hK _ _ ?_
                clear hK K
                refine wpAnyIn_ready (rs := [4]) (by kernel_rfl) (by simp) ?_
                refine AllReadyIn.cons rfl (fun K hK => ?_) ?_
                · refine stepIn_append_sl rfl _ _ 30 rfl w2.heap.size 26 i0 _ 24 Try.underlying30 hi hz0 hz1 hz2 rfl v hs.length hs rfl ((Od.le hl2).le (Le.new W2 _)).top.row (some ⟨W2.heap.size, 0, none⟩) 1 1 [(⟨Au, (shiftL (piece g x.1) (-1)).length, cu⟩ : Hdr)] rfl (sl_one (w := W2) (cs := #[.slice Au (shiftL (piece g x.1) (-1)).length cu]) (T := 26) (⟨Au, (shiftL (piece g x.1) (-1)).length, cu⟩ : Hdr) rfl trivial (b := W2.heap.size) rfl) (by unfold maxLen; omega) (by omega) (by have := hwd.size; have := hl2.size; simp; omega) ?_
                  intro v4 W4 O4 hg4 hat4
                  obtain ⟨A2, c2, rfl⟩ := own_form O4
                  obtain ⟨hc1, hf1, HB, HO, HE⟩ := kids_app (h := ⟨Au, (shiftL (piece g x.1) (-1)).length, cu⟩) bOd Od hl2 O2 hwd hg4 O4 hat4
                  have HV : (Value.slice A2 (hs.length + 1) c2).ownBlock ≠ some (w2.heap.size + 1) := by rcases hat4 with e | e; rw [e]; exact hvb; rw [e]; intro e2; injection e2 with e2; rw [World.size_alloc] at e2; have := hl2.size; have := hzW; omega
                  refine hK _ _ ?_
                  clear hK K
                  refine wpAnyIn_ready (rs := [5]) (by kernel_rfl) (by simp) ?_
                  refine AllReadyIn.cons rfl (fun K hK => ?_) ?_
                  · go_simp
                    refine hK _ _ ?_
                    clear hK K
                    refine wpAnyIn_done (by kernel_rfl) ?_ _
                    exact ⟨rfl, A2, c2, _, HB, HO, HE, HV⟩
                  exact AllReadyIn.nil
                exact AllReadyIn.nil
              exact AllReadyIn.nil
            exact AllReadyIn.nil
          exact AllReadyIn.nil
        refine AllReadyIn.cons rfl (fun K hK => ?_) ?_
        · go_simp
          refine hK _ _ ?_
          clear hK K
          refine wpAnyIn_ready (rs := [0, 2]) (by kernel_rfl) (by simp) ?_
          refine AllReadyIn.cons rfl (fun K hK => ?_) ?_
          · go_simp
            refine hK _ _ ?_
            clear hK K
            refine wpAnyIn_ready (rs := [2]) (by kernel_rfl) (by simp) ?_
            refine AllReadyIn.cons rfl (fun K hK => ?_) ?_
            · go_simp
              refine ⟨trivial, ?_⟩
              gi_at_call 37
              refine (CallsIn.inRound l (callsIn_wide.2 (shiftParts_any _ _ _ (piece g x.1) (-1) _ SP (by omega) (fun p hp => by have := hdp p (piece_mem hp); omega) (by omega)))).mono ?_
              rintro e W2 ⟨u, rfl, O2, hl2⟩
              obtain ⟨Au, cu, rfl, Su, -⟩ := O2.form (by decide)
              have cO2 := (hl2.cell bOd.lt).trans bOd.cell
              refine hK _ _ ?_
              clear hK K
              refine wpAnyIn_ready (rs := [3]) (by kernel_rfl) (by simp) ?_
              refine AllReadyIn.cons rfl (fun K hK => ?_) ?_
              · go_simp
                have cO3 := ((Le.new W2 (.cells #[.slice Au (shiftL (piece g x.1) (-1)).length cu] 26)).cell (Nat.lt_of_lt_of_le bOd.lt hl2.size)).trans cO2
                refine hK _ _ ?_
                clear hK K
                refine wpAnyIn_ready (rs := [4]) (by kernel_rfl) (by simp) ?_
                refine AllReadyIn.cons rfl (fun K hK => ?_) ?_
                · refine stepIn_append_sl rfl _ _ 30 rfl w2.heap.size 26 i0 _ 24 Try.underlying30 hi hz0 hz1 hz2 rfl v hs.length hs rfl ((Od.le hl2).le (Le.new W2 _)).top.row (some ⟨W2.heap.size, 0, none⟩) 1 1 [(⟨Au, (shiftL (piece g x.1) (-1)).length, cu⟩ : Hdr)] rfl (sl_one (w := W2) (cs := #[.slice Au (shiftL (piece g x.1) (-1)).length cu]) (T := 26) (⟨Au, (shiftL (piece g x.1) (-1)).length, cu⟩ : Hdr) rfl trivial (b := W2.heap.size) rfl) (by unfold maxLen; omega) (by omega) (by have := hwd.size; have := hl2.size; simp; omega) ?_
                  intro v4 W4 O4 hg4 hat4
                  obtain ⟨A2, c2, rfl⟩ := own_form O4
                  obtain ⟨hc1, hf1, HB, HO, HE⟩ := kids_app (h := ⟨Au, (shiftL (piece g x.1) (-1)).length, cu⟩) bOd Od hl2 O2 hwd hg4 O4 hat4
                  have HV : (Value.slice A2 (hs.length + 1) c2).ownBlock ≠ some (w2.heap.size + 1) := by rcases hat4 with e | e; rw [e]; exact hvb; rw [e]; intro e2; injection e2 with e2; rw [World.size_alloc] at e2; have := hl2.size; have := hzW; omega
                  refine hK _ _ ?_
                  clear hK K
                  refine wpAnyIn_ready (rs := [5]) (by kernel_rfl) (by simp) ?_
                  refine AllReadyIn.cons rfl (fun K hK => ?_) ?_
                  · go_simp
                    refine hK _ _ ?_
                    clear hK K
                    refine wpAnyIn_done (by kernel_rfl) ?_ _
                    exact ⟨rfl, A2, c2, _, HB, HO, HE, HV⟩
                  exact AllReadyIn.nil
                exact AllReadyIn.nil
              exact AllReadyIn.nil
            exact AllReadyIn.nil
          refine AllReadyIn.cons rfl (fun K hK => ?_) ?_
          · go_simp
            refine ⟨trivial, ?_⟩
            gi_at_call 37
            refine (CallsIn.inRound l (callsIn_wide.2 (shiftParts_any _ _ _ (piece g x.1) (-1) _ SP (by omega) (fun p hp => by have := hdp p (piece_mem hp); omega) (by omega)))).mono ?_
            rintro e W2 ⟨u, rfl, O2, hl2⟩
            obtain ⟨Au, cu, rfl, Su, -⟩ := O2.form (by decide)
            have cO2 := (hl2.cell bOd.lt).trans bOd.cell
            refine hK _ _ ?_
            clear hK K
            refine wpAnyIn_ready (rs := [0, 3]) (by kernel_rfl) (by simp) ?_
            refine AllReadyIn.cons rfl (fun K hK => ?_) ?_
            · go_simp
              refine hK _ _ ?_
              clear hK K
              refine wpAnyIn_ready (rs := [3]) (by kernel_rfl) (by simp) ?_
              refine AllReadyIn.cons rfl (fun K hK => ?_) ?_
              · go_simp
                have cO3 := ((Le.new W2 (.cells #[.slice Au (shiftL (piece g x.1) (-1)).length cu] 26)).cell (Nat.lt_of_lt_of_le bOd.lt hl2.size)).trans cO2
                refine hK _ _ ?_
                clear hK K
                refine wpAnyIn_ready (rs := [4]) (by kernel_rfl) (by simp) ?_
                refine AllReadyIn.cons rfl (fun K hK => ?_) ?_
                · refine stepIn_append_sl rfl _ _ 30 rfl w2.heap.size 26 i0 _ 24 Try.underlying30 hi hz0 hz1 hz2 rfl v hs.length hs rfl ((Od.le hl2).le (Le.new W2 _)).top.row (some ⟨W2.heap.size, 0, none⟩) 1 1 [(⟨Au, (shiftL (piece g x.1) (-1)).length, cu⟩ : Hdr)] rfl (sl_one (w := W2) (cs := #[.slice Au (shiftL (piece g x.1) (-1)).length cu]) (T := 26) (⟨Au, (shiftL (piece g x.1) (-1)).length, cu⟩ : Hdr) rfl trivial (b := W2.heap.size) rfl) (by unfold maxLen; omega) (by omega) (by have := hwd.size; have := hl2.size; simp; omega) ?_
                  intro v4 W4 O4 hg4 hat4
                  obtain ⟨A2, c2, rfl⟩ := own_form O4
                  obtain ⟨hc1, hf1, HB, HO, HE⟩ := kids_app (h := ⟨Au, (shiftL (piece g x.1) (-1)).length, cu⟩) bOd Od hl2 O2 hwd hg4 O4 hat4
                  have HV : (Value.slice A2 (hs.length + 1) c2).ownBlock ≠ some (w2.heap.size + 1) := by rcases hat4 with e | e; rw [e]; exact hvb; rw [e]; intro e2; injection e2 with e2; rw [World.size_alloc] at e2; have := hl2.size; have := hzW; omega
                  refine hK _ _ ?_
                  clear hK K
                  refine wpAnyIn_ready (rs := [5]) (by kernel_rfl) (by simp) ?_
                  refine AllReadyIn.cons rfl (fun K hK => ?_) ?_
                  · go_simp
                    refine hK _ _ ?_
                    clear hK K
                    refine wpAnyIn_done (by kernel_rfl) ?_ _
                    exact ⟨rfl, A2, c2, _, HB, HO, HE, HV⟩
                  exact AllReadyIn.nil
                exact AllReadyIn.nil
              exact AllReadyIn.nil
            refine AllReadyIn.cons rfl (fun K hK => ?_) ?_
            · go_simp
              have cO3 := ((Le.new W2 (.cells #[.slice Au (shiftL (piece g x.1) (-1)).length cu] 26)).cell (Nat.lt_of_lt_of_le bOd.lt hl2.size)).trans cO2
              refine hK _ _ ?_
              clear hK K
              refine wpAnyIn_ready (rs := [0]) (by kernel_rfl) (by simp) ?_
              refine AllReadyIn.cons rfl (fun K hK => ?_) ?_
              · go_simp
                refine hK _ _ ?_
                clear hK K
                refine wpAnyIn_ready (rs := [4]) (by kernel_rfl) (by simp) ?_
                refine AllReadyIn.cons rfl (fun K hK => ?_) ?_
                · refine stepIn_append_sl rfl _ _ 30 rfl w2.heap.size 26 i0 _ 24 Try.underlying30 hi hz0 hz1 hz2 rfl v hs.length hs rfl ((Od.le hl2).le (Le.new W2 _)).top.row (some ⟨W2.heap.size, 0, none⟩) 1 1 [(⟨Au, (shiftL (piece g x.1) (-1)).length, cu⟩ : Hdr)] rfl (sl_one (w := W2) (cs := #[.slice Au (shiftL (piece g x.1) (-1)).length cu]) (T := 26) (⟨Au, (shiftL (piece g x.1) (-1)).length, cu⟩ : Hdr) rfl trivial (b := W2.heap.size) rfl) (by unfold maxLen; omega) (by omega) (by have := hwd.size; have := hl2.size; simp; omega) ?_
                  intro v4 W4 O4 hg4 hat4
                  obtain ⟨A2, c2, rfl⟩ := own_form O4
                  obtain ⟨hc1, hf1, HB, HO, HE⟩ := kids_app (h := ⟨Au, (shiftL (piece g x.1) (-1)).length, cu⟩) bOd Od hl2 O2 hwd hg4 O4 hat4
                  have HV : (Value.slice A2 (hs.length + 1) c2).ownBlock ≠ some (w2.heap.size + 1) := by rcases hat4 with e | e; rw [e]; exact hvb; rw [e]; intro e2; injection e2 with e2; rw [World.size_alloc] at e2; have := hl2.size; have := hzW; omega
                  refine hK _ _ ?_
                  clear hK K
                  refine wpAnyIn_ready (rs := [5]) (by kernel_rfl) (by simp) ?_
                  refine AllReadyIn.cons rfl (fun K hK => ?_) ?_
                  · go_simp
                    refine hK _ _ ?_
                    clear hK K
                    refine wpAnyIn_done (by kernel_rfl) ?_ _
                    exact ⟨rfl, A2, c2, _, HB, HO, HE, HV⟩
                  exact AllReadyIn.nil
                exact AllReadyIn.nil
              exact AllReadyIn.nil
            exact AllReadyIn.nil
          exact AllReadyIn.nil
        exact AllReadyIn.nil
      case rest =>
        rintro e a' W6 ⟨rfl, A2, c2, hs2, bO6, O6, HE, HV⟩
        have hnb : ∀ k, (k = w2.heap.size ∨ v.ownBlock = some k) → ∃ o, W'.heap[k]? = some o ∧ o.isCells = true := by
          rintro k (rfl | e)
          · exact ⟨_, bO, rfl⟩
          · rcases O.top.row.2 with ⟨rfl, _⟩ | ⟨gb, cap, cur, rfl, _, hgb, _⟩
            · simp [Value.ownBlock] at e
            · obtain rfl : gb = k := by simpa [Value.ownBlock] using e
              exact ⟨_, hgb, rfl⟩
        have hge : ∀ k, (k = w2.heap.size ∨ v.ownBlock = some k) → w2.heap.size ≤ k := by
          rintro k (rfl | e)
          · exact Nat.le_refl _
          · exact (O.top.row.lt k e).1
        gi_wp2
        refine ⟨⟨HE.size, fun k o hk ho hc => ?_⟩, ⟨HE.size, fun k hk => ?_⟩, _, hs2, bO6, by rw [List.map_append]; exact O6, HV, hBl.drew.trans (HE.below (Nat.le_trans (by omega) hzW) hge)⟩
        · refine (HE.block k (Array.getElem?_eq_some_iff.1 ho).1 (fun e => ?_)).trans ho
          obtain ⟨o', h1, h2⟩ := hnb k e
          rw [ho] at h1; injection h1 with h1; subst h1
          rw [hc] at h2; cases h2
        · rcases Nat.lt_or_ge k W'.heap.size with h | h
          · refine HE.block k h (fun e => ?_)
            rcases hk with hk | hk
            · have := hge k e; omega
            · rcases e with e | e
              · omega
              · rw [hk] at e; exact hvb e
          · exact absurd hzW (by show ¬ _ ≤ W'.heap.size; omega)
    case done =>
      rintro D ys W hD hz ⟨v, hs, bO, O, hvb, hBl⟩ hK
      have cO := bO.cell
      have hL : ys.map (fun x => shiftL (piece g x.1) (-1)) = kidsL g := by
        rw [← kids_same G]
        have hz' : ys.map (·.1) = kdS g g.length 1 g.length := hz
        rw [← hz', List.map_map]; rfl
      rw [hL] at O
      have hDn : w2.heap.size ≤ D := by omega
      have HO : Hid (OwL 26 35 w (W.putObj D (.deferred none)) v hs (kidsX xs g)) := by
        show OwL _ _ _ _ _ _ _
        rw [HX.out]
        exact (O.own (grownBy_putObj' W D (.deferred none)) (fun r e => by cases e; exact ⟨_, hK, rfl⟩)).mono hLL
      have HE : Hid (Le w (W.putObj D (.deferred none))) := hLL.trans (hBl.trans (belowK_b (w := w2) (Nat.le_refl _) W D _ _ hDn hK rfl rfl))
      clear O hL
      gi_wp2
      refine ⟨by simp, .inl ⟨_, _, rfl, run_takeDeferred hK, ?_⟩⟩
      exact ⟨_, results_tmp rfl _ _ _, v, hs, rfl, HO.out, HE.out⟩
    case stop =>
      rintro D c pre W' _ _ h _
      exact h.elim
end

section
open Go.RowKit Go.Shelf
/-- a group of groups -/
def wrapL (code : Int) (L : List (List Prt)) : List Prt := ⟨0, true, 0, code⟩ :: (L.map (fun l => shiftL l 1)).flatten
def wrOk (xs : List Cls) (L : List (List Prt)) (code : Int) : Bool := L.all (gOkS xs) && gOkS xs (wrapL code L)
def wrX (xs : List Cls) (L : List (List Prt)) (code : Int) : List Prt := cond (wrOk xs L code) (wrapL code L) []
theorem wrX_of {xs : List Cls} {L : List (List Prt)} {code : Int} {b : Bool} (h : wrOk xs L code = b) : wrX xs L code = cond b (wrapL code L) [] ∧ wrOk xs L code = b := ⟨by unfold wrX; rw [h], h⟩
theorem wrX_len (xs : List Cls) (L : List (List Prt)) (code : Int) : (wrX xs L code).length ≤ 1048576 := by
  cases h : wrOk xs L code
  · rw [(wrX_of h).1]; simp
  · have h2 : gOkS xs (wrapL code L) = true := by unfold wrOk at h; rw [Bool.and_eq_true] at h; exact h.2
    have := gOk_len h2
    rw [(wrX_of h).1]
    show (wrapL code L).length ≤ _
    omega
theorem wrap_snoc (code : Int) (L : List (List Prt)) {k : Nat} (h : k < L.length) : wrapL code (L.take (k + 1)) = wrapL code (L.take k) ++ shiftL L[k] 1 := by
  unfold wrapL
  rw [List.take_succ_eq_append_getElem h, List.map_append, List.flatten_append, List.map_singleton, List.flatten_singleton]; rfl
theorem wrap_len (code : Int) : ∀ (L : List (List Prt)), (∀ l ∈ L, l.length ≤ 16) → (wrapL code L).length ≤ 16 * L.length + 1
  | [], _ => Nat.le_refl _
  | l :: r, h => by
    have h1 := h l (List.mem_cons_self ..)
    have h2 := wrap_len code r (fun x hx => h x (List.mem_cons_of_mem _ hx))
    unfold wrapL at h2 ⊢
    rw [List.length_cons] at h2
    rw [List.map_cons, List.flatten_cons, List.length_cons, List.length_append, shiftL_len, List.length_cons]
    omega
theorem all_at {α : Type} {f : α → Bool} {L : List α} {k : Nat} (h : k < L.length) : (L.take (k + 1)).all f = ((L.take k).all f && f L[k]) := by
  rw [List.take_succ_eq_append_getElem h, List.all_append]; simp
theorem all_no {α : Type} {f : α → Bool} {L : List α} {k : Nat} (h : k < L.length) (hf : f L[k] = false) : L.all f = false := by
  cases e : L.all f
  · rfl
  · have := (List.all_eq_true.1 e) _ (List.getElem_mem h)
    rw [hf] at this; cases this
theorem ok_app' {α : Type} [Enc α] {A B : List α} (h1 : ∀ x ∈ A, Enc.ok x) (h2 : ∀ x ∈ B, Enc.ok x) : ∀ x ∈ A ++ B, Enc.ok x := fun x hx => (List.mem_append.1 hx).elim (h1 x) (h2 x)
theorem gOk_deep {xs : List Cls} {g : List Prt} (h : gOkS xs g = true) : g.length ≤ 16 ∧ ∀ p ∈ g, -1000 ≤ p.depth ∧ p.depth ≤ 1000 := by
  have G := goodG_of (by rw [← gOk_same]; exact h)
  exact ⟨G.len.2, fun p hp => by have := good_deep G p hp; omega⟩
def WrOut (w : World) (xs : List Cls) (L : List (List Prt)) (code : Int) (e : Ending) (w' : World) : Prop :=
  ∃ v, e = .returned (.tuple #[v, .bool (wrOk xs L code)]) ∧ Owd 35 w w' v (wrX xs L code) ∧ Le w w'
set_option maxRecDepth 100000 in
set_option maxHeartbeats 4000000 in
theorem iWrapGroup_any (A B : Option Addr) (n cap m c : Nat) (xs : List Cls) (hs : List Hdr) (L : List (List Prt)) (code : Int) (w : World) (hT : Sl w A n cap xs) (S : Sl w B m c hs) (R : Rd2 w hs L) (hm : m ≤ 1048576) (hc : -9223372036854775808 ≤ code ∧ code ≤ 9223372036854775807) :
    Calls Try.prog 27 #[.agg #[.slice A n cap], .slice B m c, .int .i64 code] w (WrOut w xs L code) := by
  obtain ⟨i1, hi1, hy0, hy1, hy2⟩ := info_parts infoPrtS
  obtain ⟨c0, z0, hl⟩ := box1 w (.slice A n cap) 25
  have hS := hT.le hl
  have S1 := S.le hl
  have R1 := R.le hl
  have hmn := S.n_le
  have hl1 : m ≤ L.length := by have := R.len; have := S.len; omega
  have hl2 : L.length ≤ m := by have := R.len; have := S.len; omega
  have hl3 : hs.length ≤ m := by have := S.len; omega
  have hl4 : m ≤ hs.length := by have := S.len; omega
  clear S R
  have hokx : Enc.ok (⟨0, true, 0, code⟩ : Prt) := ⟨by show (-9223372036854775808 : Int) ≤ 0; omega, by show (0 : Int) ≤ 9223372036854775807; omega, by show (-9223372036854775808 : Int) ≤ 0; omega, by show (0 : Int) ≤ 9223372036854775807; omega, hc.1, hc.2⟩
  go_enter Try.func27, Try.ntmps27
  go_wp2_with fail
  have hw1 : Hid ((w.alloc (.cells #[.slice A n cap] 25)).heap.size = w.heap.size + 1) := by show _ = _; simp
  generalize w.alloc (.cells #[.slice A n cap] 25) = w1 at *
  have O0 := own_oneP w1 ⟨0, true, 0, code⟩ (b := w1.heap.size) (Nat.le_refl _)
  have LW := Le.new w1 (.cells #[.int .i64 0, .bool true, .int .i64 0, .int .i64 code] 35)
  go_wp2
  generalize w1.alloc (.cells #[.int .i64 0, .bool true, .int .i64 0, .int .i64 code] 35) = W0 at *
  go_loopw [8, 16] (fun v i wr => ∃ k : Nat, k ≤ m ∧ i = .int .i64 k ∧ Owd 35 w1 wr v (wrapL code (L.take k)) ∧ (L.take k).all (gOkS xs) = true ∧ Le w1 wr) (fun _ i _ => m - (intOf i).toNat)
  case atStart => exact ⟨0, Nat.zero_le _, rfl, (by rw [← hw1.out]; exact ⟨O0, fun x hx => by rw [List.mem_singleton.1 hx]; exact hokx⟩), rfl, LW⟩
  case round =>
    obtain ⟨k, hk1, rfl, O1, hall, L1⟩ := hrel
    have HALL := Lib.hid hall
    clear O0 LW hall
    by_cases hlt : k < m
    · have hlh : k < hs.length := by omega
      have hlL : k < L.length := by omega
      obtain ⟨b, off, rfl, hb2, hcell⟩ := (S1.le L1).hdr_at hlh
      have sk := (R1.le L1).each k _ _ (List.getElem?_eq_getElem hlh) (List.getElem?_eq_getElem hlL)
      have hSr := hS.le L1
      have dr := (L1.cell z0).trans c0
      have HST := Lib.hid (wrap_snoc code L hlL)
      have hl5 := wrap_len code (L.take k) (fun l hl => (gOk_deep (List.all_eq_true.1 HALL.out l hl)).1)
      rw [List.length_take] at hl5
      obtain ⟨D, HD⟩ : ∃ D, Hid (wrapL code (L.take k) = D) := ⟨_, Lib.hid rfl⟩
      rw [HD.out] at HST O1 hl5
      have hl6 : D.length ≤ 16777217 := by omega
      clear hl5
      go_wp2_with fail
      refine (iValidGroupS_any _ _ _ _ _ _ xs L[k] _ hSr sk).mono ?_
      rintro e w4 ⟨rfl, hl7⟩
      have L4 := L1.trans hl7
      cases hg : gOkS xs L[k]
      · have HX := Lib.hid (wrX_of (code := code) (show wrOk xs L code = false by unfold wrOk; rw [all_no hlL hg]; rfl))
        have HL := Lib.hid (hl.trans L4)
        clear hg O1
        go_wp2
        go_ret2
        exact ⟨_, by rw [HX.out.2]; rfl, by rw [HX.out.1]; exact Owd.nil _ _ _, HL.out⟩
      · have HA : Hid ((L.take (k + 1)).all (gOkS xs) = true) := by show _ = _; rw [all_at hlL, HALL.out, hg]; rfl
        obtain ⟨hk16, hkd⟩ := gOk_deep hg
        have HK := Lib.hid hkd
        have hln : hs[k].n ≤ 16 := by have := sk.len; omega
        clear hg hkd
        go_wp2_with fail
        refine (shiftParts_any _ _ _ L[k] 1 _ (sk.le hl7) (by omega) HK.out (by omega)).mono ?_
        rintro e w5 ⟨v3, rfl, O3, hl8⟩
        obtain ⟨A3, c3, rfl, S3, -⟩ := O3.form (by decide)
        have hl9 : (shiftL L[k] 1).length ≤ 16 := by rw [shiftL_len]; exact hk16
        have O5 := (O1.le hl7).le hl8
        have L5 := L4.trans hl8
        have hok5 := Lib.hid (ok_app' O5.ok S3.ok)
        have hs5 := L5.size
        clear O1 O3 sk
        obtain ⟨E, HE⟩ : ∃ E, Hid (shiftL L[k] 1 = E) := ⟨_, Lib.hid rfl⟩
        rw [HE.out] at S3 hl9 hok5 HST
        rw [HE.out]
        go_wp2_with (at_builtin; refine wpList_append_sl rfl _ _ 26 rfl w1.heap.size 35 i1 _ 32 Try.underlying26 hi1 hy0 hy1 hy2 rfl _ D.length D rfl O5.row A3 E.length c3 E rfl S3 (by unfold maxLen; omega) (by omega) hs5 ?_; intro v6 w6 O6 hg6 _)
        have L6 := L5.grown hg6 (fun q hq => (O5.row.lt q hq).1)
        have H6 : Hid (Owd 35 w1 w6 v6 (wrapL code (L.take (k + 1)))) := by
          show Owd _ _ _ _ _
          rw [HST.out]
          exact ⟨by rw [List.length_append]; exact O6, hok5.out⟩
        clear O6 hg6 O5
        go_roundw
        case rel => exact ⟨k + 1, by omega, by go_num, H6.out, HA.out, L6⟩
        case measure => simp [intOf]; omega
    · obtain rfl : k = m := by omega
      rw [List.take_of_length_le (by omega)] at HALL O1
      have dr := (L1.cell z0).trans c0
      obtain ⟨A5, c5, rfl, S5, -⟩ := O1.form (by decide)
      have hSr := hS.le L1
      go_wp2_with fail
      refine (iValidGroupS_any _ _ _ _ _ _ xs (wrapL code L) _ hSr S5).mono ?_
      rintro e w6 ⟨rfl, hl6⟩
      have HO := Lib.hid ((O1.mono hl).le hl6)
      have HL := Lib.hid ((hl.trans L1).trans hl6)
      clear O1 S5
      cases hg : gOkS xs (wrapL code L)
      · have HX := Lib.hid (wrX_of (code := code) (show wrOk xs L code = false by unfold wrOk; rw [hg, Bool.and_false]))
        clear hg
        go_wp2
        go_ret2
        exact ⟨_, by rw [HX.out.2]; rfl, by rw [HX.out.1]; exact Owd.nil _ _ _, HL.out⟩
      · have HX := Lib.hid (wrX_of (code := code) (show wrOk xs L code = true by unfold wrOk; rw [hg, HALL.out]; rfl))
        clear hg
        go_wp2
        go_ret2
        exact ⟨_, by rw [HX.out.2]; rfl, by rw [HX.out.1]; exact HO.out, HL.out⟩
end

section
def depK (g : List Prt) : Nat → Int
  | 0 => 0
  | k + 1 => if depK g k < (gAt g k).depth then (gAt g k).depth else depK g k
def depX (xs : List Cls) (g : List Prt) : Int := if gOkS xs g = true then depK g g.length else -1
set_option maxHeartbeats 1000000 in
theorem sGroupDepth_any (A B : Option Addr) (n cap m c : Nat) (xs : List Cls) (g : List Prt) (w : World) (hT : Sl w A n cap xs) (hG : Sl w B m c g) :
    Calls Try.prog 18 #[.agg #[.slice A n cap], .slice B m c] w fun e w' => e = .returned (.int .i64 (depX xs g)) ∧ Le w w' := by
  obtain rfl := hG.len
  have hm := hG.n_le
  cases hv : gOkS xs g
  · have HF : Hid (depX xs g = -1) := by show _ = _; unfold depX; rw [hv]; rfl
    go_enter Try.func18, Try.ntmps18
    go_wp2_with fail
    refine (validGroup_any _ _ _ _ _ _ xs g _ (hT.alloc _) (hG.alloc _)).mono ?_
    rintro e w2 ⟨rfl, hle⟩
    rw [hv]
    go_wp2
    go_ret
    exact ⟨congrArg (fun z => Ending.returned (.int .i64 z)) HF.out.symm, (Le.new w _).trans hle⟩
  · have HF : Hid (depX xs g = depK g g.length) := by show _ = _; unfold depX; rw [hv]; rfl
    go_enter Try.func18, Try.ntmps18
    go_wp2_with fail
    refine (validGroup_any _ _ _ _ _ _ xs g _ (hT.alloc _) (hG.alloc _)).mono ?_
    rintro e w2 ⟨rfl, hle⟩
    rw [hv]
    go_wp2
    replace hG := hG.le ((Le.new w _).trans hle)
    replace hle := (Le.new w _).trans hle
    go_loopw [5, 6] (fun n i wr => ∃ k : Nat, k ≤ g.length ∧ i = .int .i64 k ∧ n = .int .i64 (depK g k) ∧ Le w2 wr) (fun _ i _ => g.length - (intOf i).toNat)
    case atStart => exact ⟨0, Nat.zero_le _, rfl, rfl, Le.refl _⟩
    case round =>
      obtain ⟨k, hk, rfl, rfl, hlr⟩ := hrel
      have TG := hG.le hlr
      have LR := hle.trans hlr
      clear hG
      by_cases hlt : k < g.length
      · obtain ⟨b, off, rfl, hb, d0, d1, d2, d3, -⟩ := TG.prt_at hlt
        have hkx : (0 : Int) ≤ (k : Int) := by omega
        by_cases hd : depK g k < g[k].depth
        · have HD : Hid (g[k].depth = depK g (k + 1)) := by
            show _ = _
            rw [show depK g (k + 1) = if depK g k < (gAt g k).depth then (gAt g k).depth else depK g k from rfl, gAt_at hlt, if_pos hd]
          go_wp2
          go_roundw
          case rel => exact ⟨k + 1, by omega, by go_num, congrArg (Value.int .i64) HD.out, hlr⟩
          case measure => simp [intOf]; omega
        · have HD : Hid (depK g k = depK g (k + 1)) := by
            show _ = _
            rw [show depK g (k + 1) = if depK g k < (gAt g k).depth then (gAt g k).depth else depK g k from rfl, gAt_at hlt, if_neg hd]
          go_wp2
          go_roundw
          case rel => exact ⟨k + 1, by omega, by go_num, congrArg (Value.int .i64) HD.out, hlr⟩
          case measure => simp [intOf]; omega
      · obtain rfl : k = g.length := by omega
        go_wp2
        go_ret
        exact ⟨congrArg (fun z => Ending.returned (.int .i64 z)) HF.out.symm, LR⟩
set_option maxHeartbeats 1000000 in
theorem iGroupDepth_any (A B : Option Addr) (n cap m c : Nat) (xs : List Cls) (g : List Prt) (w : World) (hT : Sl w A n cap xs) (hG : Sl w B m c g) :
    Calls Try.prog 17 #[.agg #[.slice A n cap], .slice B m c] w fun e w' => e = .returned (.int .i64 (depX xs g)) ∧ Le w w' := by
  obtain rfl := hG.len
  have hm := hG.n_le
  cases hv : gOkS xs g
  · have HF : Hid (depX xs g = -1) := by show _ = _; unfold depX; rw [hv]; rfl
    go_enter Try.func17, Try.ntmps17
    go_wp2_with fail
    refine (iValidGroupS_any _ _ _ _ _ _ xs g _ (hT.alloc _) (hG.alloc _)).mono ?_
    rintro e w2 ⟨rfl, hle⟩
    rw [hv]
    go_wp2
    go_ret
    exact ⟨congrArg (fun z => Ending.returned (.int .i64 z)) HF.out.symm, (Le.new w _).trans hle⟩
  · have HF : Hid (depX xs g = depK g g.length) := by show _ = _; unfold depX; rw [hv]; rfl
    go_enter Try.func17, Try.ntmps17
    go_wp2_with fail
    refine (iValidGroupS_any _ _ _ _ _ _ xs g _ (hT.alloc _) (hG.alloc _)).mono ?_
    rintro e w2 ⟨rfl, hle⟩
    rw [hv]
    go_wp2
    replace hG := hG.le ((Le.new w _).trans hle)
    replace hle := (Le.new w _).trans hle
    go_loopw [5, 14] (fun n i wr => ∃ k : Nat, k ≤ g.length ∧ i = .int .i64 k ∧ n = .int .i64 (depK g k) ∧ Le w2 wr) (fun _ i _ => g.length - (intOf i).toNat)
    case atStart => exact ⟨0, Nat.zero_le _, rfl, rfl, Le.refl _⟩
    case round =>
      obtain ⟨k, hk, rfl, rfl, hlr⟩ := hrel
      have TG := hG.le hlr
      have LR := hle.trans hlr
      clear hG
      by_cases hlt : k < g.length
      · obtain ⟨b, off, rfl, hb, d0, d1, d2, d3, -⟩ := TG.prt_at hlt
        have hkx : (0 : Int) ≤ (k : Int) := by omega
        by_cases hd : depK g k < g[k].depth
        · have HD : Hid (g[k].depth = depK g (k + 1)) := by
            show _ = _
            rw [show depK g (k + 1) = if depK g k < (gAt g k).depth then (gAt g k).depth else depK g k from rfl, gAt_at hlt, if_pos hd]
          go_wp2
          go_roundw
          case rel => exact ⟨k + 1, by omega, by go_num, congrArg (Value.int .i64) HD.out, (by first | exact hlr | exact hlr.alloc _)⟩
          case measure => simp [intOf]; omega
        · have HD : Hid (depK g k = depK g (k + 1)) := by
            show _ = _
            rw [show depK g (k + 1) = if depK g k < (gAt g k).depth then (gAt g k).depth else depK g k from rfl, gAt_at hlt, if_neg hd]
          go_wp2
          go_roundw
          case rel => exact ⟨k + 1, by omega, by go_num, congrArg (Value.int .i64) HD.out, (by first | exact hlr | exact hlr.alloc _)⟩
          case measure => simp [intOf]; omega
      · obtain rfl : k = g.length := by omega
        go_wp2
        go_ret
        exact ⟨congrArg (fun z => Ending.returned (.int .i64 z)) HF.out.symm, LR⟩
end
end Go.Proofs.Ythmdlligfhfleaa
