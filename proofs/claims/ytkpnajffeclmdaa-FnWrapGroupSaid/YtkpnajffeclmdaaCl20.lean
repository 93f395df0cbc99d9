/- one text of ItS -/
import Derived.Test.YtkpnajffeclmdaaCl18
import Derived.Lib.SliceRun
namespace Go.Proofs.Ytkpnajffeclmdaa
open Go.RowKit
set_option linter.unusedVariables false
section
open Go.RowKit Go.Shelf
attribute [local go_sem] Oper.semAt_some
theorem kd_depth {xs : List Cls} {g : List Prt} (G : GoodG xs g) : ∀ (m f : Nat), 1 ≤ f → (f < g.length → (gAt g f).depth = 1) → ∀ i ∈ kdS g m f g.length, 1 ≤ i ∧ i < g.length ∧ (gAt g i).depth = 1
  | 0, f, _, _, i, h => nomatch h
  | m + 1, f, hf, hd, i, h => by
    have e : kdS g (m + 1) f g.length = if f < g.length then f :: kdS g m (endN g f) g.length else [] := rfl
    rw [e] at h
    by_cases hl : f < g.length
    · rw [if_pos hl] at h
      rcases List.mem_cons.1 h with rfl | h
      · exact ⟨hf, hl, hd hl⟩
      · have hgt := endN_gt g f
        refine kd_depth G m (endN g f) (by omega) (fun h2 => ?_) i h
        have h3 := endN_stop hl h2
        have h4 := G.deep (endN g f) (by omega) h2
        have := hd hl
        omega
    · rw [if_neg hl] at h; cases h
theorem kd_one {xs : List Cls} {g : List Prt} (G : GoodG xs g) : ∀ i ∈ kdS g g.length 1 g.length, 1 ≤ i ∧ i < g.length ∧ (gAt g i).depth = 1 := kd_depth G _ _ (Nat.le_refl _) (fun h => by
  have h1 := G.deep 1 (Nat.le_refl _) h
  have h2 := G.step 1 (Nat.le_refl _) h
  have h3 := G.first
  rw [show 1 - 1 = 0 from rfl, h3] at h2
  split at h2 <;> omega)
def kidsX (xs : List Cls) (g : List Prt) : List (List Prt) := cond (gOkS xs g) (kidsL g) []
theorem kidsX_of {xs : List Cls} {g : List Prt} {b : Bool} (h : gOkS xs g = b) : kidsX xs g = cond b (kidsL g) [] := by unfold kidsX; rw [h]
theorem kids_same {xs : List Cls} {g : List Prt} (G : GoodG xs g) : (kdS g g.length 1 g.length).map (fun i => shiftL (piece g i) (-1)) = kidsL g := by
  unfold kidsL
  refine List.map_congr_left (fun i hi => ?_)
  unfold kidAt
  rw [(kd_one G i hi).2.2]
theorem kdS_len (g : List Prt) : ∀ (m f b : Nat), (kdS g m f b).length ≤ m
  | 0, _, _ => Nat.le_refl _
  | m + 1, f, b => by
    have e : kdS g (m + 1) f b = if f < b then f :: kdS g m (endN g f) b else [] := rfl
    have := kdS_len g m (endN g f) b
    rw [e]
    split
    · rw [List.length_cons]; omega
    · exact Nat.zero_le _
theorem tot_le {α β : Type} (f : β → List α) (c : Nat) : ∀ (l : List β), (∀ x ∈ l, (f x).length ≤ c) → tot (l.map f) ≤ c * l.length
  | [], _ => Nat.zero_le _
  | x :: l, h => by
    have h1 := h x (List.mem_cons_self ..)
    have h2 := tot_le f c l (fun y hy => h y (List.mem_cons_of_mem _ hy))
    unfold tot at h2 ⊢
    rw [List.map_cons, List.map_cons, List.sum_cons, List.length_cons, Nat.mul_succ]
    omega
theorem kidsX_tot (xs : List Cls) (g : List Prt) : tot (kidsX xs g) ≤ 1048576 ∧ (kidsX xs g).length ≤ 1048576 := by
  cases h : gOkS xs g
  · rw [kidsX_of h]; exact ⟨Nat.zero_le _, Nat.zero_le _⟩
  · have h1 := gOk_len h
    have h2 := kdS_len g g.length 1 g.length
    rw [kidsX_of h]
    show tot (kidsL g) ≤ _ ∧ (kidsL g).length ≤ _
    unfold kidsL
    have h3 := tot_le (kidAt g) 16 (kdS g g.length 1 g.length) (fun i _ => by
      unfold kidAt piece
      rw [shiftL_len, List.length_take, List.length_drop]; omega)
    rw [List.length_map]
    omega
theorem OwL.own {α : Type} [Enc α] {TT T : TypeId} {w0 X Y : World} {v : Value} {hs : List Hdr} {L : List (List α)} {row : Option Nat} (h : OwL TT T w0 X v hs L) (hg : X.grownBy Y row) (hr : ∀ r, row = some r → ∃ o : Obj, X.heap[r]? = some o ∧ o.isCells = false) : OwL TT T w0 Y v hs L := by
  have kp : ∀ {β : Type} [Enc β] (U : TypeId) (u : Value) (l : List β), Owd U w0 X u l → Owd U w0 Y u l := fun U u l o => ⟨o.row.kept hg (by
    rcases o.row.2 with ⟨rfl, _⟩ | ⟨g, cap, cur, rfl, _, hgb, _⟩
    · exact .inl rfl
    · refine .inr fun e' => ?_
      obtain ⟨o, ho, hc⟩ := hr g (by simpa [Value.ownBlock] using e'.symm)
      rw [hgb] at ho; cases ho; cases hc), o.ok⟩
  exact ⟨kp _ _ _ h.top, h.len, fun i x l e f => kp _ _ _ (h.each i x l e f), h.apart, h.off⟩
theorem GrB.below {S : Nat → Prop} {n : Nat} {w w' : World} (hg : GrB S w w') (hn : n ≤ w.heap.size) (h : ∀ k, S k → n ≤ k) : Below n w w' := ⟨hg.os, hg.tape, hg.output, hg.size, fun k hk => hg.block k (by omega) (fun e => by have := h k e; omega)⟩
/-- what the append and the store of a new piece leave -/
theorem kids_app {w0 W W1 W2 : World} {Bo : Nat} {v : Value} {hs : List Hdr} {L : List (List Prt)} {h : Hdr} {l : List Prt} {A2 : Option Addr} {c2 : Nat} {o : Obj} (bO : Boxed W Bo 44 v) (O : OwL 26 57 w0 W v hs L) (hl : Le W W1) (hx : Owd 57 W W1 h.v l)
    (hw0 : Le w0 W) (hg2 : (W1.alloc o).grownBy W2 v.ownBlock) (O2 : W2.ownsRow w0.heap.size 26 1 (.slice A2 (hs.length + 1) c2) (hs.length + 1) ((hs ++ [h]).flatMap Enc.cells)) (hat : (Value.slice A2 (hs.length + 1) c2).ownBlock = v.ownBlock ∨ (Value.slice A2 (hs.length + 1) c2).ownBlock = some (W1.alloc o).heap.size) :
    W2.cell? ⟨Bo, 0, none⟩ = some v ∧ W2.frozen? ⟨Bo, 0, none⟩ = false ∧ Boxed (W2.setCell ⟨Bo, 0, none⟩ (.slice A2 (hs.length + 1) c2)) Bo 44 (.slice A2 (hs.length + 1) c2) ∧
      OwL 26 57 w0 (W2.setCell ⟨Bo, 0, none⟩ (.slice A2 (hs.length + 1) c2)) (.slice A2 (hs.length + 1) c2) (hs ++ [h]) (L ++ [l]) ∧ GrB (fun k => k = Bo ∨ v.ownBlock = some k) W (W2.setCell ⟨Bo, 0, none⟩ (.slice A2 (hs.length + 1) c2)) := by
  have hla := hl.trans (Le.new W1 o)
  have bO1 := boxed_le bO hla
  have Oa := O.le hla
  have hlat := OwL.later O (Nat.le_refl _) hx
  have OLN := OwL.snoc Oa (h := h) (l := l) ((hx.le (Le.new W1 o)).mono hw0) hlat.1 hlat.2 O2 hg2 hat
  have bO2 := bO1.kept hg2 (bO1.not_row (by decide) Oa.top.row)
  have hst := grownBy_setCell' W2 Bo (.slice A2 (hs.length + 1) c2)
  have hlt := bO.lt
  refine ⟨bO2.cell, bO2.frozen, bO2.set _, ?_, ?_⟩
  · have kp : ∀ {β : Type} [Enc β] (U : TypeId) (u : Value) (l : List β), 44 ≠ U → Owd U w0 W2 u l → Owd U w0 (W2.setCell ⟨Bo, 0, none⟩ (.slice A2 (hs.length + 1) c2)) u l := fun U u l hne o => ⟨o.row.kept hst (.inr (fun e => bO2.not_row hne o.row e.symm)), o.ok⟩
    exact ⟨kp _ _ _ (by decide) OLN.top, OLN.len, fun i x l e f => kp _ _ _ (by decide) (OLN.each i x l e f), OLN.apart, OLN.off⟩
  · exact ((GrB.of_le hla).trans (GrB.of_grown hg2 (fun k e => .inr e))).trans (GrB.of_grown hst (fun k e => .inl (by injection e with e; exact e.symm)))
set_option maxRecDepth 100000 in
set_option maxHeartbeats 4000000 in
theorem iKidsOf_any (A B : Option Addr) (n cap m c : Nat) (xs : List Cls) (g : List Prt) (w : World) (hT : Sl w A n cap xs) (hG : Sl w B m c g) :
    Calls Try.prog 27 #[.agg #[.slice A n cap], .slice B m c] w fun e w' => ∃ v hs, e = .returned v ∧ OwL 26 57 w w' v hs (kidsX xs g) ∧ Le w w' := by
  obtain ⟨i0, hi, hz0, hz1, hz2⟩ := info_parts infoPartSl'
  obtain ⟨-, z0, hl⟩ := box1 w (.slice A n cap) 25
  have hS := hT.le hl
  have hG1 := hG.le hl
  obtain rfl := hG.len
  cases hg : gOkS xs g
  · have HX := Lib.hid (kidsX_of hg)
    go_enter Try.func27, Try.ntmps27
    go_wp2_with fail
    generalize w.alloc (.cells #[.slice A n cap] 25) = w1 at *
    refine (iValidGroupS_any _ _ _ _ _ _ xs g _ hS hG1).mono ?_
    rintro e w2 ⟨rfl, hle⟩
    rw [hg]
    have hLL := hl.trans hle
    go_wp2
    go_ret
    exact ⟨_, _, rfl, by rw [HX.out]; exact OwL.nil _ _ _ _, hLL⟩
  · have HX := Lib.hid (kidsX_of hg)
    have G := goodG_of (by rw [← gOk_same]; exact hg)
    have hm := G.len
    have hdp := good_deep G
    obtain ⟨bz, oz, rfl, -, -⟩ := hG.prt_at (k := 0) (by omega)
    refine (callsIn_wide (n := 6)).1 ?_
    refine callsIn_of_wp_marks Try.func27 rfl trivial ?_ rfl
    simp only [Try.ntmps27, List.size_toArray, List.length_cons, List.length_nil, Nat.reduceAdd, Nat.reduceSub, Array.replicate_succ, Array.replicate_zero, List.push_toArray, List.append_toArray, List.nil_append, List.cons_append]
    gi_wp2_with (refine ⟨trivial, ?_⟩; gi_at_call 12; refine (callsIn_wide.2 (iValidGroupS_any _ _ _ _ _ _ xs g _ hS hG1)).mono ?_; rintro e w2 ⟨rfl, hle⟩; rw [hg])
    refine ⟨trivial, ?_⟩
    gi_at_call 60
    refine (kids_in Fence.wide 5 trivial rfl _ _ _ _).mono ?_
    rintro e w' ⟨rfl, rfl⟩
    have hG2 := hG1.le hle
    have SB : SlB w2.heap.size w2 (some ⟨bz, oz, none⟩) g.length c g := ⟨hG2, fun hn a e => by obtain ⟨b, off, e2, hb, -⟩ := hG2.at_ hn; rw [e2] at e; cases e; exact hb⟩
    have bO1 := (Boxed.new w2 44 (.slice none 0 0)).alloc (.cells #[.slice (some ⟨bz, oz, none⟩) g.length c] 26)
    have bG := Boxed.new (w2.alloc (.cells #[.slice none 0 0] 44)) 26 (.slice (some ⟨bz, oz, none⟩) g.length c)
    simp only [World.size_alloc] at bG
    have hB0 : Le w2 ((w2.alloc (.cells #[.slice none 0 0] 44)).alloc (.cells #[.slice (some ⟨bz, oz, none⟩) g.length c] 26)) := (Le.new w2 _).alloc _
    have hsz : ((w2.alloc (.cells #[.slice none 0 0] 44)).alloc (.cells #[.slice (some ⟨bz, oz, none⟩) g.length c] 26)).heap.size = w2.heap.size + 2 := by simp
    have hLL := hl.trans hle
    simp only [World.size_alloc]
    generalize (w2.alloc (.cells #[.slice none 0 0] 44)).alloc (.cells #[.slice (some ⟨bz, oz, none⟩) g.length c] 26) = W0 at *
    gi_wp2
    refine wpIn_rangeFunc_ownH rfl (by omega) (gf := 77) (lb := #[.pointer (some ⟨w2.heap.size + 1, 0, none⟩)]) rfl trivial (enters_of Try.func77 (by kernel_rfl) rfl)
      (kids_stops (6 - 1) (by omega) (w2.heap.size + 1) w2.heap.size bz oz c g 0 g.length hm.2 (by omega) (Nat.le_refl _) (fun i _ h2 => endN_le h2) (fun k => 0 < k ∧ k < g.length) (fun i h1 h2 => ⟨h1, h2⟩) W0 (by omega) (by omega) bG.cell (SB.below hB0)) KpB.trans (kpB_b (by omega) (by omega)) (Below.refl _ _) (fun _ => rfl)
      (fun pre W => ∃ v hs, Boxed W w2.heap.size 44 v ∧ OwL 26 57 w2 W v hs (pre.map (fun x => shiftL (piece g x.1) (-1))) ∧ v.ownBlock ≠ some (w2.heap.size + 1) ∧ Below w2.heap.size w2 W)
      (fun _ _ _ => False)
      (fun s X Y row hs hg hr => by
        obtain ⟨v, hh, h1, h2, h3, h4⟩ := hs
        exact ⟨v, hh, boxed_own (β := Unit) _ _ (fun _ => _) () X Y row h1 hg (fun r e => (hr r e).2), h2.own hg (fun r e => (hr r e).2), h3, h4.grown hg h4.size (fun k e => by have := (hr k e).1; omega)⟩)
      (fun _ _ _ _ _ hs _ _ => hs)
      ⟨_, _, bO1, OwL.nil _ _ _ _, (by simp [Value.ownBlock]), hB0⟩
      (fun x a' _ => a' = { tmps := #[.agg #[.slice A n cap], .slice (some ⟨bz, oz, none⟩) g.length c, .pointer (some ⟨w.heap.size, 0, none⟩), undef, .slice none 0 0, .pointer (some ⟨w2.heap.size, 0, none⟩), .slice (some ⟨bz, oz + x.1 * 4, none⟩) (endN g x.1 - x.1) (c - x.1), .agg #[.slice A n cap], .slice (some ⟨bz, oz, none⟩) g.length c, .bool true, .bool false, .slice (some ⟨bz, oz, none⟩) g.length c, .func (.func 77) #[] #[.pointer (some ⟨w2.heap.size + 1, 0, none⟩)], .slice (some ⟨bz, oz + x.1 * 4, none⟩) (endN g x.1 - x.1) (c - x.1), undef, undef, undef, undef, undef, undef], defers := [] })
      (fun _ _ _ _ _ _ hs _ _ => hs)
      ?assign ?body ?done ?stop
    case assign =>
      rintro l pre x W' K hI' hK
      gi_wp2
      exact hK _ _ (KeepsFrom.refl _ _) (KpB.refl _ _ _) hI' rfl
    case body =>
      rintro l pre x a' W' hl ⟨r, hr⟩ ⟨v, hs, bO, O, hvb, hBl⟩ rfl hlt
      have hx := x.2
      have hlt2 : hs.length < 16 := by have h1 := O.len; rw [List.length_map] at h1; omega
      have bOd : Boxed W'.drew w2.heap.size 44 v := bO
      have Od := O.le (Le.refl W').drew
      have SBd := SB.below hBl
      have SP := (SBd.sl.le (Le.refl W').drew).piece hx.2
      have hwd : Le w2 W'.drew := hBl.drew
      have cO := bOd.cell
      have hle1 := endN_le hx.2
      have hzW : w2.heap.size + 2 ≤ W'.drew.heap.size := by have h1 := (Array.getElem?_eq_some_iff.1 hr).1; show _ ≤ W'.heap.size; omega
      have hmo : Try.prog.follows .mixedOrders = true := by kernel_rfl
      gi_wp2_with (fail)
      refine wpIn_mono (Q := fun e a' w' => e = .normal ∧ ∃ A2 c2 hs2, Boxed w' w2.heap.size 44 (.slice A2 (hs.length + 1) c2) ∧ OwL 26 57 w2 w' (.slice A2 (hs.length + 1) c2) hs2 (pre.map (fun x => shiftL (piece g x.1) (-1)) ++ [shiftL (piece g x.1) (-1)]) ∧ GrB (fun k => k = w2.heap.size ∨ v.ownBlock = some k) W'.drew w' ∧ (Value.slice A2 (hs.length + 1) c2).ownBlock ≠ some (w2.heap.size + 1)) ?reg ?rest
      case reg =>
        refine wpIn_region_any hmo ?_
        refine wpAnyIn_ready (rs := [0, 1]) (by kernel_rfl) (by simp) ?_
        refine AllReadyIn.cons rfl (fun K hK => ?_) ?_
        · go_simp
          refine hK _ _ ?_
          clear hK K
          refine wpAnyIn_ready (rs := [1]) (by kernel_rfl) (by simp) ?_
          refine AllReadyIn.cons rfl (fun K hK => ?_) ?_
          · go_simp
            refine hK _ _ ?_
            clear hK K
            refine wpAnyIn_ready (rs := [2]) (by kernel_rfl) (by simp) ?_
            refine AllReadyIn.cons rfl (fun K hK => ?_) ?_
            · go_simp
              refine ⟨trivial, ?_⟩
              gi_at_call 58
              refine (CallsIn.inRound l (callsIn_wide.2 (shiftParts_any _ _ _ (piece g x.1) (-1) _ SP (by omega) (fun p hp => by have := hdp p (piece_mem hp); omega) (by omega)))).mono ?_
              rintro e W2 ⟨u, rfl, O2, hl2⟩
              obtain ⟨Au, cu, rfl, Su, -⟩ := O2.form (by decide)
              have cO2 := (hl2.cell bOd.lt).trans bOd.cell
              refine hK _ _ ?_
              clear hK K
              refine wpAnyIn_ready (rs := [3]) (by kernel_rfl) (by simp) ?_
              refine AllReadyIn.cons rfl (fun K hK => ?_) ?_
              · go_simp
                have cO3 := ((Le.new W2 (.cells #[.slice Au (shiftL (piece g x.1) (-1)).length cu] 26)).cell (Nat.lt_of_lt_of_le bOd.lt hl2.size)).trans cO2
                refine hK _ _ ?_
                clear hK K
                refine wpAnyIn_ready (rs := [4]) (by kernel_rfl) (by simp) ?_
                refine AllReadyIn.cons rfl (fun K hK => ?_) ?_
                · refine stepIn_append_sl rfl _ _ 44 rfl w2.heap.size 26 i0 _ 24 Try.underlying44 hi hz0 hz1 hz2 rfl v hs.length hs rfl ((Od.le hl2).le (Le.new W2 _)).top.row (some ⟨W2.heap.size, 0, none⟩) 1 1 [(⟨Au, (shiftL (piece g x.1) (-1)).length, cu⟩ : Hdr)] rfl (sl_one (w := W2) (cs := #[.slice Au (shiftL (piece g x.1) (-1)).length cu]) (T := 26) (⟨Au, (shiftL (piece g x.1) (-1)).length, cu⟩ : Hdr) rfl trivial (b := W2.heap.size) rfl) (by unfold maxLen; omega) (by omega) (by have := hwd.size; have := hl2.size; simp; omega) ?_
                  intro v4 W4 O4 hg4 hat4
                  obtain ⟨A2, c2, rfl⟩ := own_form O4
                  obtain ⟨hc1, hf1, HB, HO, HE⟩ := kids_app (h := ⟨Au, (shiftL (piece g x.1) (-1)).length, cu⟩) bOd Od hl2 O2 hwd hg4 O4 hat4
                  have HV : (Value.slice A2 (hs.length + 1) c2).ownBlock ≠ some (w2.heap.size + 1) := by rcases hat4 with e | e; rw [e]; exact hvb; rw [e]; intro e2; injection e2 with e2; rw [World.size_alloc] at e2; have := hl2.size; have := hzW; omega
                  refine hK _ _ ?_
                  clear hK K
                  refine wpAnyIn_ready (rs := [5]) (by kernel_rfl) (by simp) ?_
                  refine AllReadyIn.cons rfl (fun K hK => ?_) ?_
                  · go_simp
                    refine hK _ _ ?_
                    clear hK K
                    refine wpAnyIn_done (by kernel_rfl) ?_ _
                    exact ⟨rfl, A2, c2, _, HB, HO, HE, HV⟩
                  exact AllReadyIn.nil
                exact AllReadyIn.nil
              exact AllReadyIn.nil
            exact AllReadyIn.nil
          exact AllReadyIn.nil
        refine AllReadyIn.cons rfl (fun K hK => ?_) ?_
        · go_simp
          refine hK _ _ ?_
          clear hK K
          refine wpAnyIn_ready (rs := [0, 2]) (by kernel_rfl) (by simp) ?_
          refine AllReadyIn.cons rfl (fun K hK => ?_) ?_
          · go_simp
            refine hK _ _ ?_
            clear hK K
            refine wpAnyIn_ready (rs := [2]) (by kernel_rfl) (by simp) ?_
            refine AllReadyIn.cons rfl (fun K hK => ?_) ?_
            · go_simp
              refine ⟨trivial, ?_⟩
              gi_at_call 58
              refine (CallsIn.inRound l (callsIn_wide.2 (shiftParts_any _ _ _ (piece g x.1) (-1) _ SP (by omega) (fun p hp => by have := hdp p (piece_mem hp); omega) (by omega)))).mono ?_
              rintro e W2 ⟨u, rfl, O2, hl2⟩
              obtain ⟨Au, cu, rfl, Su, -⟩ := O2.form (by decide)
              have cO2 := (hl2.cell bOd.lt).trans bOd.cell
              refine hK _ _ ?_
              clear hK K
              refine wpAnyIn_ready (rs := [3]) (by kernel_rfl) (by simp) ?_
              refine AllReadyIn.cons rfl (fun K hK => ?_) ?_
              · go_simp
                have cO3 := ((Le.new W2 (.cells #[.slice Au (shiftL (piece g x.1) (-1)).length cu] 26)).cell (Nat.lt_of_lt_of_le bOd.lt hl2.size)).trans cO2
                refine hK _ _ ?_
                clear hK K
                refine wpAnyIn_ready (rs := [4]) (by kernel_rfl) (by simp) ?_
                refine AllReadyIn.cons rfl (fun K hK => ?_) ?_
                · refine stepIn_append_sl rfl _ _ 44 rfl w2.heap.size 26 i0 _ 24 Try.underlying44 hi hz0 hz1 hz2 rfl v hs.length hs rfl ((Od.le hl2).le (Le.new W2 _)).top.row (some ⟨W2.heap.size, 0, none⟩) 1 1 [(⟨Au, (shiftL (piece g x.1) (-1)).length, cu⟩ : Hdr)] rfl (sl_one (w := W2) (cs := #[.slice Au (shiftL (piece g x.1) (-1)).length cu]) (T := 26) (⟨Au, (shiftL (piece g x.1) (-1)).length, cu⟩ : Hdr) rfl trivial (b := W2.heap.size) rfl) (by unfold maxLen; omega) (by omega) (by have := hwd.size; have := hl2.size; simp; omega) ?_
                  intro v4 W4 O4 hg4 hat4
                  obtain ⟨A2, c2, rfl⟩ := own_form O4
                  obtain ⟨hc1, hf1, HB, HO, HE⟩ := kids_app (h := ⟨Au, (shiftL (piece g x.1) (-1)).length, cu⟩) bOd Od hl2 O2 hwd hg4 O4 hat4
                  have HV : (Value.slice A2 (hs.length + 1) c2).ownBlock ≠ some (w2.heap.size + 1) := by rcases hat4 with e | e; rw [e]; exact hvb; rw [e]; intro e2; injection e2 with e2; rw [World.size_alloc] at e2; have := hl2.size; have := hzW; omega
                  refine hK _ _ ?_
                  clear hK K
                  refine wpAnyIn_ready (rs := [5]) (by kernel_rfl) (by simp) ?_
                  refine AllReadyIn.cons rfl (fun K hK => ?_) ?_
                  · go_simp
                    refine hK _ _ ?_
                    clear hK K
                    refine wpAnyIn_done (by kernel_rfl) ?_ _
                    exact ⟨rfl, A2, c2, _, HB, HO, HE, HV⟩
                  exact AllReadyIn.nil
                exact AllReadyIn.nil
              exact AllReadyIn.nil
            exact AllReadyIn.nil
          refine AllReadyIn.cons rfl (fun K hK => ?_) ?_
          · go_simp
            refine ⟨trivial, ?_⟩
            gi_at_call 58
            refine (CallsIn.inRound l (callsIn_wide.2 (shiftParts_any _ _ _ (piece g x.1) (-1) _ SP (by omega) (fun p hp => by have := hdp p (piece_mem hp); omega) (by omega)))).mono ?_
            rintro e W2 ⟨u, rfl, O2, hl2⟩
            obtain ⟨Au, cu, rfl, Su, -⟩ := O2.form (by decide)
            have cO2 := (hl2.cell bOd.lt).trans bOd.cell
            refine hK _ _ ?_
            clear hK K
            refine wpAnyIn_ready (rs := [0, 3]) (by kernel_rfl) (by simp) ?_
            refine AllReadyIn.cons rfl (fun K hK => ?_) ?_
            · go_simp
              refine hK _ _ ?_
              clear hK K
              refine wpAnyIn_ready (rs := [3]) (by kernel_rfl) (by simp) ?_
              refine AllReadyIn.cons rfl (fun K hK => ?_) ?_
              · go_simp
                have cO3 := ((Le.new W2 (.cells #[.slice Au (shiftL (piece g x.1) (-1)).length cu] 26)).cell (Nat.lt_of_lt_of_le bOd.lt hl2.size)).trans cO2
                refine hK _ _ ?_
                clear hK K
                refine wpAnyIn_ready (rs := [4]) (by kernel_rfl) (by simp) ?_
                refine AllReadyIn.cons rfl (fun K hK => ?_) ?_
                · refine stepIn_append_sl rfl _ _ 44 rfl w2.heap.size 26 i0 _ 24 Try.underlying44 hi hz0 hz1 hz2 rfl v hs.length hs rfl ((Od.le hl2).le (Le.new W2 _)).top.row (some ⟨W2.heap.size, 0, none⟩) 1 1 [(⟨Au, (shiftL (piece g x.1) (-1)).length, cu⟩ : Hdr)] rfl (sl_one (w := W2) (cs := #[.slice Au (shiftL (piece g x.1) (-1)).length cu]) (T := 26) (⟨Au, (shiftL (piece g x.1) (-1)).length, cu⟩ : Hdr) rfl trivial (b := W2.heap.size) rfl) (by unfold maxLen; omega) (by omega) (by have := hwd.size; have := hl2.size; simp; omega) ?_
                  intro v4 W4 O4 hg4 hat4
                  obtain ⟨A2, c2, rfl⟩ := own_form O4
                  obtain ⟨hc1, hf1, HB, HO, HE⟩ := kids_app (h := ⟨Au, (shiftL (piece g x.1) (-1)).length, cu⟩) bOd Od hl2 O2 hwd hg4 O4 hat4
                  have HV : (Value.slice A2 (hs.length + 1) c2).ownBlock ≠ some (w2.heap.size + 1) := by rcases hat4 with e | e; rw [e]; exact hvb; rw [e]; intro e2; injection e2 with e2; rw [World.size_alloc] at e2; have := hl2.size; have := hzW; omega
                  refine hK _ _ ?_
                  clear hK K
                  refine wpAnyIn_ready (rs := [5]) (by kernel_rfl) (by simp) ?_
                  refine AllReadyIn.cons rfl (fun K hK => ?_) ?_
                  · go_simp
                    refine hK _ _ ?_
                    clear hK K
                    refine wpAnyIn_done (by kernel_rfl) ?_ _
                    exact ⟨rfl, A2, c2, _, HB, HO, HE, HV⟩
                  exact AllReadyIn.nil
                exact AllReadyIn.nil
              exact AllReadyIn.nil
            refine AllReadyIn.cons rfl (fun K hK => ?_) ?_
            · go_simp
              have cO3 := ((Le.new W2 (.cells #[.slice Au (shiftL (piece g x.1) (-1)).length cu] 26)).cell (Nat.lt_of_lt_of_le bOd.lt hl2.size)).trans cO2
              refine hK _ _ ?_
              clear hK K
              refine wpAnyIn_ready (rs := [0]) (by kernel_rfl) (by simp) ?_
              refine AllReadyIn.cons rfl (fun K hK => ?_) ?_
              · go_simp
                refine hK _ _ ?_
                clear hK K
                refine wpAnyIn_ready (rs := [4]) (by kernel_rfl) (by simp) ?_
                refine AllReadyIn.cons rfl (fun K hK => ?_) ?_
                · refine stepIn_append_sl rfl _ _ 44 rfl w2.heap.size 26 i0 _ 24 Try.underlying44 hi hz0 hz1 hz2 rfl v hs.length hs rfl ((Od.le hl2).le (Le.new W2 _)).top.row (some ⟨W2.heap.size, 0, none⟩) 1 1 [(⟨Au, (shiftL (piece g x.1) (-1)).length, cu⟩ : Hdr)] rfl (sl_one (w := W2) (cs := #[.slice Au (shiftL (piece g x.1) (-1)).length cu]) (T := 26) (⟨Au, (shiftL (piece g x.1) (-1)).length, cu⟩ : Hdr) rfl trivial (b := W2.heap.size) rfl) (by unfold maxLen; omega) (by omega) (by have := hwd.size; have := hl2.size; simp; omega) ?_
                  intro v4 W4 O4 hg4 hat4
                  obtain ⟨A2, c2, rfl⟩ := own_form O4
                  obtain ⟨hc1, hf1, HB, HO, HE⟩ := kids_app (h := ⟨Au, (shiftL (piece g x.1) (-1)).length, cu⟩) bOd Od hl2 O2 hwd hg4 O4 hat4
                  have HV : (Value.slice A2 (hs.length + 1) c2).ownBlock ≠ some (w2.heap.size + 1) := by rcases hat4 with e | e; rw [e]; exact hvb; rw [e]; intro e2; injection e2 with e2; rw [World.size_alloc] at e2; have := hl2.size; have := hzW; omega
                  refine hK _ _ ?_
                  clear hK K
                  refine wpAnyIn_ready (rs := [5]) (by kernel_rfl) (by simp) ?_
                  refine AllReadyIn.cons rfl (fun K hK => ?_) ?_
                  · go_simp
                    refine hK _ _ ?_
                    clear hK K
                    refine wpAnyIn_done (by kernel_rfl) ?_ _
                    exact ⟨rfl, A2, c2, _, HB, HO, HE, HV⟩
                  exact AllReadyIn.nil
                exact AllReadyIn.nil
              exact AllReadyIn.nil
            exact AllReadyIn.nil
          exact AllReadyIn.nil
        exact AllReadyIn.nil
      case rest =>
        rintro e a' W6 ⟨rfl, A2, c2, hs2, bO6, O6, HE, HV⟩
        have hnb : ∀ k, (k = w2.heap.size ∨ v.ownBlock = some k) → ∃ o, W'.heap[k]? = some o ∧ o.isCells = true := by
          rintro k (rfl | e)
          · exact ⟨_, bO, rfl⟩
          · rcases O.top.row.2 with ⟨rfl, _⟩ | ⟨gb, cap, cur, rfl, _, hgb, _⟩
            · simp [Value.ownBlock] at e
            · obtain rfl : gb = k := by simpa [Value.ownBlock] using e
              exact ⟨_, hgb, rfl⟩
        have hge : ∀ k, (k = w2.heap.size ∨ v.ownBlock = some k) → w2.heap.size ≤ k := by
          rintro k (rfl | e)
          · exact Nat.le_refl _
          · exact (O.top.row.lt k e).1
        gi_wp2
        refine ⟨⟨HE.size, fun k o hk ho hc => ?_⟩, ⟨HE.size, fun k hk => ?_⟩, _, hs2, bO6, by rw [List.map_append]; exact O6, HV, hBl.drew.trans (HE.below (Nat.le_trans (by omega) hzW) hge)⟩
        · refine (HE.block k (Array.getElem?_eq_some_iff.1 ho).1 (fun e => ?_)).trans ho
          obtain ⟨o', h1, h2⟩ := hnb k e
          rw [ho] at h1; injection h1 with h1; subst h1
          rw [hc] at h2; cases h2
        · rcases Nat.lt_or_ge k W'.heap.size with h | h
          · refine HE.block k h (fun e => ?_)
            rcases hk with hk | hk
            · have := hge k e; omega
            · rcases e with e | e
              · omega
              · rw [hk] at e; exact hvb e
          · exact absurd hzW (by show ¬ _ ≤ W'.heap.size; omega)
    case done =>
      rintro D ys W hD hz ⟨v, hs, bO, O, hvb, hBl⟩ hK
      have cO := bO.cell
      have hL : ys.map (fun x => shiftL (piece g x.1) (-1)) = kidsL g := by
        rw [← kids_same G]
        have hz' : ys.map (·.1) = kdS g g.length 1 g.length := hz
        rw [← hz', List.map_map]; rfl
      rw [hL] at O
      have hDn : w2.heap.size ≤ D := by omega
      have HO : Hid (OwL 26 57 w (W.putObj D (.deferred none)) v hs (kidsX xs g)) := by
        show OwL _ _ _ _ _ _ _
        rw [HX.out]
        exact (O.own (grownBy_putObj' W D (.deferred none)) (fun r e => by cases e; exact ⟨_, hK, rfl⟩)).mono hLL
      have HE : Hid (Le w (W.putObj D (.deferred none))) := hLL.trans (hBl.trans (belowK_b (w := w2) (Nat.le_refl _) W D _ _ hDn hK rfl rfl))
      clear O hL
      gi_wp2
      refine ⟨by simp, .inl ⟨_, _, rfl, run_takeDeferred hK, ?_⟩⟩
      exact ⟨_, results_tmp rfl _ _ _, v, hs, rfl, HO.out, HE.out⟩
    case stop =>
      rintro D c pre W' _ _ h _
      exact h.elim
end
end Go.Proofs.Ytkpnajffeclmdaa
