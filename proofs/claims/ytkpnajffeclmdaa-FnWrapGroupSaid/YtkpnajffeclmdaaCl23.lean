/- one text of ItN -/
import Derived.Test.YtkpnajffeclmdaaCl22
import Derived.Test.YtkpnajffeclmdaaCl18
namespace Go.Proofs.Ytkpnajffeclmdaa
open Go.RowKit
set_option linter.unusedVariables false
section
open Go.RowKit Go.Shelf
theorem leaves_sub (g : List Prt) (f m : Nat) : ∀ x ∈ leavesL ((g.drop f).take m), x ∈ leavesL g := by
  intro x hx
  unfold leavesL at hx ⊢
  obtain ⟨q, hq, rfl⟩ := List.mem_map.1 hx
  obtain ⟨hm, hg⟩ := List.mem_filter.1 hq
  exact List.mem_map.2 ⟨q, List.mem_filter.2 ⟨List.mem_of_mem_drop (List.mem_of_mem_take hm), hg⟩, rfl⟩
theorem VSt.le {n₀ tf : Nat} {lb : Array Value} {b off C : Nat} {g : List Prt} {W W' : World} {v : Value} {L : List Prt} (h : VSt n₀ tf lb b off C g W v L) (hl : Le W W') : VSt n₀ tf lb b off C g W' v L :=
  ⟨boxed_le h.bf hl, boxed_le h.bo hl, boxed_le h.bv hl, own_le h.row hl, ⟨h.sl.sl.le hl, h.sl.lo⟩⟩
theorem VEf.of_le {n₀ : Nat} {W W' : World} {v : Value} (h0 : n₀ ≤ W.heap.size) (h : Le W W') : VEf n₀ W W' v v := ⟨h.mono h0, fun k hk _ _ => h.block k hk, .inl rfl⟩
theorem visit_own {n₀ tf : Nat} {lb : Array Value} {b off C : Nat} {g : List Prt} {W0 : World} {v2 vb : Value} {Bg : Nat} {β : Type} (h0 : n₀ ≤ W0.heap.size) (f : β → List Prt) (T : TypeId) :
    OwnFrom W0.heap.size (fun (s : β) W => ∃ u, VSt n₀ tf lb b off C g W u (f s) ∧ VEf n₀ W0 W v2 u ∧ Boxed W Bg T vb) := by
  rintro s X Y row ⟨u, st, ef, bG⟩ hg hr
  have hr2 := fun r e => (hr r e).2
  obtain ⟨u', bo', row', rfl⟩ := holdsRow_own (β := Unit) n₀ (n₀ + 1) 26 57 4 (fun _ => (f s).length) (fun _ => (f s).flatMap Enc.cells) (fun _ x => x = u) () X Y row ⟨u, st.bo, st.row, rfl⟩ hg hr2
  have hB : Below n₀ X Y := (Below.refl n₀ X).grown hg (Nat.le_trans h0 ef.le.size) (fun k e => Nat.le_trans h0 (hr k e).1)
  refine ⟨u', ⟨boxed_own (β := Unit) _ _ (fun _ => _) () X Y row st.bf hg hr2, bo', boxed_own (β := Unit) _ _ (fun _ => _) () X Y row st.bv hg hr2, row', st.sl.below hB⟩, ⟨ef.le.trans hB, fun k hk h1 h2 => ?_, ef.own⟩, boxed_own (β := Unit) _ _ (fun _ => _) () X Y row bG hg hr2⟩
  refine (hg.block k (Nat.lt_of_lt_of_le hk ef.le.size) (fun e => ?_)).trans (ef.block k hk h1 h2)
  have := (hr k e.symm).1
  omega
/-- what the append and the store leave -/
theorem visit_app {w W1 W2 : World} {tf : Nat} {lb : Array Value} {b off C : Nat} {g : List Prt} {v : Value} {L : List Prt} {x : Prt} {A2 : Option Addr} {c2 : Nat} {o : Obj} (st1 : VSt w.heap.size tf lb b off C g W1 v L) (hl : Le w W1) (hg2 : (W1.drew.alloc o).grownBy W2 v.ownBlock)
    (O2 : W2.ownsRow w.heap.size 57 4 (.slice A2 (L.length + 1) c2) (L.length + 1) ((L ++ [x]).flatMap Enc.cells)) (hat2 : (Value.slice A2 (L.length + 1) c2).ownBlock = v.ownBlock ∨ (Value.slice A2 (L.length + 1) c2).ownBlock = some (W1.drew.alloc o).heap.size) :
    W2.cell? ⟨w.heap.size + 1, 0, none⟩ = some v ∧ W2.frozen? ⟨w.heap.size + 1, 0, none⟩ = false ∧
      VSt w.heap.size tf lb b off C g (W2.setCell ⟨w.heap.size + 1, 0, none⟩ (.slice A2 (L.length + 1) c2)) (.slice A2 (L.length + 1) c2) (L ++ [x]) ∧ VEf w.heap.size W1 (W2.setCell ⟨w.heap.size + 1, 0, none⟩ (.slice A2 (L.length + 1) c2)) v (.slice A2 (L.length + 1) c2) := by
  have stD := st1.le (Le.refl W1).drew
  obtain ⟨hv1, hv2, hr2, hk2, hb2⟩ := stD.bo.appended (by decide) stD.row hl.size (Nat.le_succ _) O2 hg2
  have bf2 := ((stD.bf.alloc o).kept hg2 (stD.bf.not_row (by decide) stD.row)).other (B' := w.heap.size + 1) (by omega) (.slice A2 (L.length + 1) c2)
  have bv2 := ((stD.bv.alloc o).kept hg2 (stD.bv.not_row (by decide) stD.row)).other (B' := w.heap.size + 1) (by omega) (.slice A2 (L.length + 1) c2)
  refine ⟨hv1.cell, hv1.frozen, ⟨bf2, hv2, bv2, by simpa using hr2, stD.sl.below hb2⟩, ⟨((Below.refl _ W1).drew).trans hb2, ?_, ?_⟩⟩
  · intro k hk h1 h2
    have hk2 : k < (W1.drew.alloc o).heap.size := by simp; omega
    refine ((grownBy_setCell' W2 (w.heap.size + 1) _).block k (Nat.lt_of_lt_of_le hk2 hg2.size) (fun e => h1 (by injection e))).trans ?_
    exact (hg2.block k hk2 (fun e => h2 e.symm)).trans (hp_old W1.drew o hk)
  · rcases hat2 with h | h
    · exact .inl h
    · refine .inr fun k hk => ?_
      rw [h] at hk
      injection hk with hk
      rw [← hk]; simp
attribute [local go_sem] Oper.semAt_some
set_option maxRecDepth 100000 in
set_option maxHeartbeats 4000000 in
theorem visit_any (tf : Nat) (lb : Array Value) (eT : ∀ args w, (callFunc tf args).run Try.prog w = .ok (.enter tf args) w) (p : Lef → Bool) (b off C : Nat) (g : List Prt) (hm16 : g.length ≤ 16) (w : World)
    (hT : ∀ (x : Lef) (W : World), x ∈ leavesL g → Le w W → Calls Try.prog tf (#[.agg #[.int .i64 x.cls, .int .i64 x.code]] ++ lb) W fun e W' => e = .returned (.bool (p x)) ∧ Le W W') :
    ∀ (mm f : Nat), g.length - f ≤ mm → f < g.length → ∀ (W : World) (v : Value) (L : List Prt), Le w W → VSt w.heap.size tf lb b off C g W v L → L.length ≤ 300 * f →
    Calls Try.prog 82 #[.slice (some ⟨b, off + f * 4, none⟩) (endN g f - f) (C - f), .pointer (some ⟨w.heap.size, 0, none⟩), .pointer (some ⟨w.heap.size + 1, 0, none⟩), .pointer (some ⟨w.heap.size + 1 + 1, 0, none⟩)] W fun e W' => (∃ r, e = .returned r) ∧
      ∃ v', VSt w.heap.size tf lb b off C g W' v' (L ++ selL (keepsAt (fun q => p ⟨q.cls, q.code⟩) g) g f (endN g f - f)) ∧ VEf w.heap.size W W' v v' := by
  intro mm
  induction mm with
  | zero => intro f h1 h2; omega
  | succ mm ih =>
    intro f hmm hf W v L hwW st hL
    obtain ⟨i0, hi, hz0, hz1, hz2⟩ := info_parts infoPrtS
    have hgt := endN_gt g f
    have hle0 := endN_le hf
    have SP0 := (st.sl.sl.cutS f (by omega) (s := f * 4) rfl).take_ (endN g f - f) (by omega)
    have hadd : (⟨b, off, none⟩ : Addr).add (f * 4) = ⟨b, off + f * 4, none⟩ := by
      unfold Addr.add; split
      · simp
      · rfl
    rw [hadd] at SP0
    have cF := st.bf.cell
    have hany := any_piece p g f (endN g f) hle0 (by omega)
    have HL := fun (WW : World) (h : Le W WW) => hasLeaf_gen tf lb eT p _ _ _ _ WW (SP0.le h) (fun x W' hx hW => hT x W' (leaves_sub g f _ x hx) ((hwW.trans h).trans hW))
    refine (callsIn_wide (n := 6)).1 ?_
    refine callsIn_of_wp_marks Try.func82 rfl trivial ?_ rfl
    simp only [Try.ntmps82, List.size_toArray, List.length_cons, List.length_nil, Nat.reduceAdd, Nat.reduceSub, Array.replicate_succ, Array.replicate_zero, List.push_toArray, List.append_toArray, List.nil_append, List.cons_append]
    rw [hany] at HL
    cases hk : anyF (passAt (fun q => p ⟨q.cls, q.code⟩) g) f (endN g f - f)
    · rw [hk] at HL
      gi_wp2_with (refine ⟨trivial, ?_⟩; gi_at_call 53; refine (callsIn_wide.2 (HL _ (Le.refl _))).mono ?_; rintro e W1 ⟨rfl, hle1⟩)
      have hno : ∀ i, f ≤ i → i < f + (endN g f - f) → keepsAt (fun q => p ⟨q.cls, q.code⟩) g i = false := by
        intro i h1 h2
        cases hki : keepsAt (fun q => p ⟨q.cls, q.code⟩) g i
        · rfl
        · exfalso
          obtain ⟨k, k1, k2, k3⟩ := keeps_iff.1 hki
          have hie : endN g i ≤ endN g f := by
            rcases Nat.lt_or_ge f i with h | h
            · exact endN_nest hf h (by omega)
            · have : i = f := by omega
              rw [this]; exact Nat.le_refl _
          have := (anyF_iff (f := passAt (fun q => p ⟨q.cls, q.code⟩) g) (endN g f - f) f).2 ⟨k, by omega, by omega, k3⟩
          rw [hk] at this; cases this
      rw [selL_none _ _ hno, List.append_nil]
      exact ⟨_, results_none rfl _ _ _, ⟨_, rfl⟩, v, st.le hle1, ⟨hle1.mono hwW.size, fun k hk' _ _ => hle1.block k hk', .inl rfl⟩⟩
    · rw [hk] at HL
      gi_wp2_with (refine ⟨trivial, ?_⟩; gi_at_call 53; refine (callsIn_wide.2 (HL _ (Le.refl _))).mono ?_; rintro e W1 ⟨rfl, hle1⟩)
      have st1 := st.le hle1
      have hlW1 := hwW.trans hle1
      obtain ⟨b2, off2, e2, hb2, p0, p1, p2, p3, -⟩ := st1.sl.sl.prt_at hf
      cases e2
      have cO := st1.bo.cell
      have fO := st1.bo.frozen
      have hok : Enc.ok g[f] := st1.sl.sl.ok _ (List.getElem_mem hf)
      have hmo : Try.prog.follows .mixedOrders = true := by kernel_rfl
      have O1 := (own_le st1.row (Le.refl W1).drew).alloc (.cells #[.int .i64 g[f].depth, .bool g[f].group, .int .i64 g[f].cls, .int .i64 g[f].code] 57)
      have cO2 := (st1.bo.alloc (.cells #[.int .i64 g[f].depth, .bool g[f].group, .int .i64 g[f].cls, .int .i64 g[f].code] 57)).cell
      have hpos : 0 < endN g f - f := by omega
      have HB1 : w.heap.size ≤ (W1.drew.alloc (.cells #[.int .i64 g[f].depth, .bool g[f].group, .int .i64 g[f].cls, .int .i64 g[f].code] 57)).heap.size := by have := hlW1.size; simp; omega
      have S1 := sl_one (w := W1.drew) (cs := #[.int .i64 g[f].depth, .bool g[f].group, .int .i64 g[f].cls, .int .i64 g[f].code]) (T := 57) g[f] rfl hok (b := W1.heap.size) rfl
      refine wpIn_mono (Q := fun e a' w' => e = .normal ∧ ∃ A2 c2, VSt w.heap.size tf lb b off C g w' (.slice A2 (L.length + 1) c2) (L ++ [g[f]]) ∧ VEf w.heap.size W1 w' v (.slice A2 (L.length + 1) c2) ∧
        a' = { tmps := #[.slice (some ⟨b, off + f * 4, none⟩) (endN g f - f) (C - f), .pointer (some ⟨w.heap.size, 0, none⟩), .pointer (some ⟨w.heap.size + 1, 0, none⟩), .pointer (some ⟨w.heap.size + 1 + 1, 0, none⟩), undef, undef, .slice (some ⟨b, off + f * 4, none⟩) (endN g f - f) (C - f), .func (.func tf) #[] lb, .bool true, .bool false, v, .slice (some ⟨b, off + f * 4, none⟩) (endN g f - f) (C - f), .pointer (some ⟨b, off + f * 4, none⟩), .agg #[.int .i64 g[f].depth, .bool g[f].group, .int .i64 g[f].cls, .int .i64 g[f].code], .slice (some ⟨W1.heap.size, 0, none⟩) 1 1, .slice A2 (L.length + 1) c2, undef, undef, undef, undef, undef, undef], defers := [] }) ?reg ?rest
      case reg =>
        refine wpIn_region_any hmo ?_
        refine wpAnyIn_ready (rs := [0, 1]) (by kernel_rfl) (by simp) ?_
        refine AllReadyIn.cons rfl (fun K hK => ?_) ?_
        · go_simp
          refine hK _ _ ?_
          clear hK K
          refine wpAnyIn_ready (rs := [1]) (by kernel_rfl) (by simp) ?_
          refine AllReadyIn.cons rfl (fun K hK => ?_) ?_
          · go_simp
            refine hK _ _ ?_
            clear hK K
            refine wpAnyIn_ready (rs := [2]) (by kernel_rfl) (by simp) ?_
            refine AllReadyIn.cons rfl (fun K hK => ?_) ?_
            · go_simp
              refine hK _ _ ?_
              clear hK K
              refine wpAnyIn_ready (rs := [3]) (by kernel_rfl) (by simp) ?_
              refine AllReadyIn.cons rfl (fun K hK => ?_) ?_
              · go_simp
                refine hK _ _ ?_
                clear hK K
                refine wpAnyIn_ready (rs := [4]) (by kernel_rfl) (by simp) ?_
                refine AllReadyIn.cons rfl (fun K hK => ?_) ?_
                · go_simp
                  refine hK _ _ ?_
                  clear hK K
                  refine wpAnyIn_ready (rs := [5]) (by kernel_rfl) (by simp) ?_
                  refine AllReadyIn.cons rfl (fun K hK => ?_) ?_
                  · refine stepIn_append_sl rfl _ _ 26 rfl w.heap.size 57 i0 _ 32 Try.underlying26 hi hz0 hz1 hz2 rfl v L.length L rfl O1 (some ⟨W1.heap.size, 0, none⟩) 1 1 [g[f]] rfl S1 (by unfold maxLen; omega) (by omega) HB1 ?_
                    intro v2 W2 O2 hg2 hat2
                    obtain ⟨A2, c2, rfl⟩ := own_form O2
                    obtain ⟨hc1, hf1, HST, HEF⟩ := visit_app st1 hlW1 hg2 O2 hat2
                    refine hK _ _ ?_
                    clear hK K
                    refine wpAnyIn_ready (rs := [6]) (by kernel_rfl) (by simp) ?_
                    refine AllReadyIn.cons rfl (fun K hK => ?_) ?_
                    · go_simp
                      refine hK _ _ ?_
                      clear hK K
                      refine wpAnyIn_done (by kernel_rfl) ?_ _
                      exact ⟨rfl, A2, c2, HST, HEF, rfl⟩
                    exact AllReadyIn.nil
                  exact AllReadyIn.nil
                exact AllReadyIn.nil
              exact AllReadyIn.nil
            exact AllReadyIn.nil
          exact AllReadyIn.nil
        refine AllReadyIn.cons rfl (fun K hK => ?_) ?_
        · go_simp
          refine hK _ _ ?_
          clear hK K
          refine wpAnyIn_ready (rs := [0, 2]) (by kernel_rfl) (by simp) ?_
          refine AllReadyIn.cons rfl (fun K hK => ?_) ?_
          · go_simp
            refine hK _ _ ?_
            clear hK K
            refine wpAnyIn_ready (rs := [2]) (by kernel_rfl) (by simp) ?_
            refine AllReadyIn.cons rfl (fun K hK => ?_) ?_
            · go_simp
              refine hK _ _ ?_
              clear hK K
              refine wpAnyIn_ready (rs := [3]) (by kernel_rfl) (by simp) ?_
              refine AllReadyIn.cons rfl (fun K hK => ?_) ?_
              · go_simp
                refine hK _ _ ?_
                clear hK K
                refine wpAnyIn_ready (rs := [4]) (by kernel_rfl) (by simp) ?_
                refine AllReadyIn.cons rfl (fun K hK => ?_) ?_
                · go_simp
                  refine hK _ _ ?_
                  clear hK K
                  refine wpAnyIn_ready (rs := [5]) (by kernel_rfl) (by simp) ?_
                  refine AllReadyIn.cons rfl (fun K hK => ?_) ?_
                  · refine stepIn_append_sl rfl _ _ 26 rfl w.heap.size 57 i0 _ 32 Try.underlying26 hi hz0 hz1 hz2 rfl v L.length L rfl O1 (some ⟨W1.heap.size, 0, none⟩) 1 1 [g[f]] rfl S1 (by unfold maxLen; omega) (by omega) HB1 ?_
                    intro v2 W2 O2 hg2 hat2
                    obtain ⟨A2, c2, rfl⟩ := own_form O2
                    obtain ⟨hc1, hf1, HST, HEF⟩ := visit_app st1 hlW1 hg2 O2 hat2
                    refine hK _ _ ?_
                    clear hK K
                    refine wpAnyIn_ready (rs := [6]) (by kernel_rfl) (by simp) ?_
                    refine AllReadyIn.cons rfl (fun K hK => ?_) ?_
                    · go_simp
                      refine hK _ _ ?_
                      clear hK K
                      refine wpAnyIn_done (by kernel_rfl) ?_ _
                      exact ⟨rfl, A2, c2, HST, HEF, rfl⟩
                    exact AllReadyIn.nil
                  exact AllReadyIn.nil
                exact AllReadyIn.nil
              exact AllReadyIn.nil
            exact AllReadyIn.nil
          refine AllReadyIn.cons rfl (fun K hK => ?_) ?_
          · go_simp
            refine hK _ _ ?_
            clear hK K
            refine wpAnyIn_ready (rs := [0, 3]) (by kernel_rfl) (by simp) ?_
            refine AllReadyIn.cons rfl (fun K hK => ?_) ?_
            · go_simp
              refine hK _ _ ?_
              clear hK K
              refine wpAnyIn_ready (rs := [3]) (by kernel_rfl) (by simp) ?_
              refine AllReadyIn.cons rfl (fun K hK => ?_) ?_
              · go_simp
                refine hK _ _ ?_
                clear hK K
                refine wpAnyIn_ready (rs := [4]) (by kernel_rfl) (by simp) ?_
                refine AllReadyIn.cons rfl (fun K hK => ?_) ?_
                · go_simp
                  refine hK _ _ ?_
                  clear hK K
                  refine wpAnyIn_ready (rs := [5]) (by kernel_rfl) (by simp) ?_
                  refine AllReadyIn.cons rfl (fun K hK => ?_) ?_
                  · refine stepIn_append_sl rfl _ _ 26 rfl w.heap.size 57 i0 _ 32 Try.underlying26 hi hz0 hz1 hz2 rfl v L.length L rfl O1 (some ⟨W1.heap.size, 0, none⟩) 1 1 [g[f]] rfl S1 (by unfold maxLen; omega) (by omega) HB1 ?_
                    intro v2 W2 O2 hg2 hat2
                    obtain ⟨A2, c2, rfl⟩ := own_form O2
                    obtain ⟨hc1, hf1, HST, HEF⟩ := visit_app st1 hlW1 hg2 O2 hat2
                    refine hK _ _ ?_
                    clear hK K
                    refine wpAnyIn_ready (rs := [6]) (by kernel_rfl) (by simp) ?_
                    refine AllReadyIn.cons rfl (fun K hK => ?_) ?_
                    · go_simp
                      refine hK _ _ ?_
                      clear hK K
                      refine wpAnyIn_done (by kernel_rfl) ?_ _
                      exact ⟨rfl, A2, c2, HST, HEF, rfl⟩
                    exact AllReadyIn.nil
                  exact AllReadyIn.nil
                exact AllReadyIn.nil
              exact AllReadyIn.nil
            refine AllReadyIn.cons rfl (fun K hK => ?_) ?_
            · go_simp
              refine hK _ _ ?_
              clear hK K
              refine wpAnyIn_ready (rs := [0, 4]) (by kernel_rfl) (by simp) ?_
              refine AllReadyIn.cons rfl (fun K hK => ?_) ?_
              · go_simp
                refine hK _ _ ?_
                clear hK K
                refine wpAnyIn_ready (rs := [4]) (by kernel_rfl) (by simp) ?_
                refine AllReadyIn.cons rfl (fun K hK => ?_) ?_
                · go_simp
                  refine hK _ _ ?_
                  clear hK K
                  refine wpAnyIn_ready (rs := [5]) (by kernel_rfl) (by simp) ?_
                  refine AllReadyIn.cons rfl (fun K hK => ?_) ?_
                  · refine stepIn_append_sl rfl _ _ 26 rfl w.heap.size 57 i0 _ 32 Try.underlying26 hi hz0 hz1 hz2 rfl v L.length L rfl O1 (some ⟨W1.heap.size, 0, none⟩) 1 1 [g[f]] rfl S1 (by unfold maxLen; omega) (by omega) HB1 ?_
                    intro v2 W2 O2 hg2 hat2
                    obtain ⟨A2, c2, rfl⟩ := own_form O2
                    obtain ⟨hc1, hf1, HST, HEF⟩ := visit_app st1 hlW1 hg2 O2 hat2
                    refine hK _ _ ?_
                    clear hK K
                    refine wpAnyIn_ready (rs := [6]) (by kernel_rfl) (by simp) ?_
                    refine AllReadyIn.cons rfl (fun K hK => ?_) ?_
                    · go_simp
                      refine hK _ _ ?_
                      clear hK K
                      refine wpAnyIn_done (by kernel_rfl) ?_ _
                      exact ⟨rfl, A2, c2, HST, HEF, rfl⟩
                    exact AllReadyIn.nil
                  exact AllReadyIn.nil
                exact AllReadyIn.nil
              refine AllReadyIn.cons rfl (fun K hK => ?_) ?_
              · go_simp
                refine hK _ _ ?_
                clear hK K
                refine wpAnyIn_ready (rs := [0]) (by kernel_rfl) (by simp) ?_
                refine AllReadyIn.cons rfl (fun K hK => ?_) ?_
                · go_simp
                  refine hK _ _ ?_
                  clear hK K
                  refine wpAnyIn_ready (rs := [5]) (by kernel_rfl) (by simp) ?_
                  refine AllReadyIn.cons rfl (fun K hK => ?_) ?_
                  · refine stepIn_append_sl rfl _ _ 26 rfl w.heap.size 57 i0 _ 32 Try.underlying26 hi hz0 hz1 hz2 rfl v L.length L rfl O1 (some ⟨W1.heap.size, 0, none⟩) 1 1 [g[f]] rfl S1 (by unfold maxLen; omega) (by omega) HB1 ?_
                    intro v2 W2 O2 hg2 hat2
                    obtain ⟨A2, c2, rfl⟩ := own_form O2
                    obtain ⟨hc1, hf1, HST, HEF⟩ := visit_app st1 hlW1 hg2 O2 hat2
                    refine hK _ _ ?_
                    clear hK K
                    refine wpAnyIn_ready (rs := [6]) (by kernel_rfl) (by simp) ?_
                    refine AllReadyIn.cons rfl (fun K hK => ?_) ?_
                    · go_simp
                      refine hK _ _ ?_
                      clear hK K
                      refine wpAnyIn_done (by kernel_rfl) ?_ _
                      exact ⟨rfl, A2, c2, HST, HEF, rfl⟩
                    exact AllReadyIn.nil
                  exact AllReadyIn.nil
                exact AllReadyIn.nil
              exact AllReadyIn.nil
            exact AllReadyIn.nil
          exact AllReadyIn.nil
        exact AllReadyIn.nil
      case rest =>
        rintro e a' W4 ⟨rfl, A2, c2, st2, ef2, rfl⟩
        obtain ⟨v2, hv2⟩ : ∃ v2, Value.slice A2 (L.length + 1) c2 = v2 := ⟨_, rfl⟩
        rw [hv2] at st2 ef2 ⊢
        clear hv2
        gi_wp2_with (refine ⟨trivial, ?_⟩; gi_at_call 60; refine (kids_in Fence.wide 5 trivial rfl _ _ _ _).mono ?_; rintro e w3 ⟨rfl, rfl⟩)
        have bG := Boxed.new W4 26 (.slice (some ⟨b, off + f * 4, none⟩) (endN g f - f) (C - f))
        have hl4 : Le w W4 := hlW1.trans' ef2.le
        have st3 := st2.le (Le.new W4 (.cells #[.slice (some ⟨b, off + f * 4, none⟩) (endN g f - f) (C - f)] 26))
        have hsz : (W4.alloc (.cells #[.slice (some ⟨b, off + f * 4, none⟩) (endN g f - f) (C - f)] 26)).heap.size = W4.heap.size + 1 := by simp
        have ef3 : VEf w.heap.size W4 (W4.alloc (.cells #[.slice (some ⟨b, off + f * 4, none⟩) (endN g f - f) (C - f)] 26)) v2 v2 := VEf.of_le hl4.size (Le.new W4 _)
        have hs4 := st2.bv.lt
        generalize W4.alloc (.cells #[.slice (some ⟨b, off + f * 4, none⟩) (endN g f - f) (C - f)] 26) = W0 at *
        refine wpIn_rangeFunc_ownH rfl (by omega) (gf := 77) (lb := #[.pointer (some ⟨W4.heap.size, 0, none⟩)]) rfl trivial (enters_of Try.func77 (by kernel_rfl) rfl)
          (kids_stops (6 - 1) (by omega) W4.heap.size w.heap.size b off C g f (endN g f) hm16 hgt hle0 (fun i h1 h2 => endN_nest hf h1 h2) (fun k => f < k ∧ k < endN g f) (fun i h1 h2 => ⟨h1, h2⟩) W0 (by omega) (by omega) bG.cell st3.sl) KpB.trans (kpB_b (by omega) (by omega)) (Below.refl _ _) (fun _ => rfl)
          (fun pre W => ∃ u, VSt w.heap.size tf lb b off C g W u (L ++ [g[f]] ++ flK (fun q => p ⟨q.cls, q.code⟩) g (pre.map (·.1))) ∧ VEf w.heap.size W0 W v2 u ∧ Boxed W W4.heap.size 26 (.slice (some ⟨b, off + f * 4, none⟩) (endN g f - f) (C - f)))
          (fun _ _ _ => False)
          (visit_own (W0 := W0) (v2 := v2) (Bg := W4.heap.size) (by omega) (fun (pre : List { x : Nat // f < x ∧ x < endN g f }) => L ++ [g[f]] ++ flK (fun q => p ⟨q.cls, q.code⟩) g (pre.map (·.1))) 26)
          (fun _ _ _ _ _ hs _ _ => hs)
          ⟨v2, by simpa [flK] using st3, VEf.refl _ _ _, bG⟩
          (fun x a' _ => a' = { tmps := #[.slice (some ⟨b, off + f * 4, none⟩) (endN g f - f) (C - f), .pointer (some ⟨w.heap.size, 0, none⟩), .pointer (some ⟨w.heap.size + 1, 0, none⟩), .pointer (some ⟨w.heap.size + 1 + 1, 0, none⟩), undef, .slice (some ⟨b, off + x.1 * 4, none⟩) (endN g x.1 - x.1) (C - x.1), .slice (some ⟨b, off + f * 4, none⟩) (endN g f - f) (C - f), .func (.func tf) #[] lb, .bool true, .bool false, v, .slice (some ⟨b, off + f * 4, none⟩) (endN g f - f) (C - f), .pointer (some ⟨b, off + f * 4, none⟩), .agg #[.int .i64 g[f].depth, .bool g[f].group, .int .i64 g[f].cls, .int .i64 g[f].code], .slice (some ⟨W1.heap.size, 0, none⟩) 1 1, v2, .slice (some ⟨b, off + f * 4, none⟩) (endN g f - f) (C - f), .func (.func 77) #[] #[.pointer (some ⟨W4.heap.size, 0, none⟩)], .slice (some ⟨b, off + x.1 * 4, none⟩) (endN g x.1 - x.1) (C - x.1), undef, undef, undef], defers := [] })
          (fun _ _ _ _ _ _ hs _ _ => hs)
          ?assign ?body ?done ?stop
        case assign =>
          rintro l pre x W' K hI' hK
          gi_wp2
          exact hK _ _ (KeepsFrom.refl _ _) (KpB.refl _ _ _) hI' rfl
        case body =>
          rintro l pre x a' W' hl ⟨r, hr⟩ ⟨u, st5, ef5, bG5⟩ rfl hlt
          have cV := st5.bv.cell
          have hx := x.2
          have hl5 : Le w W' := (hl4.trans' ef3.le).trans' ef5.le
          have hln : (L ++ [g[f]] ++ flK (fun q => p ⟨q.cls, q.code⟩) g (pre.map (·.1))).length ≤ 300 * x.1 := by
            have h1 := flK_len (fun q => p ⟨q.cls, q.code⟩) g hm16 (pre.map (·.1)) (fun k hk => by obtain ⟨y, -, rfl⟩ := List.mem_map.1 hk; have := y.2.2; omega)
            rw [List.length_map] at h1
            simp only [List.length_append, List.length_cons, List.length_nil]
            have := hx.1
            omega
          have IH := ih x.1 (by have := hx.1; omega) (by have := hx.2; omega) W' u _ hl5 st5 hln
          have HIH := Lib.hid IH
          clear IH
          gi_wp2_with (refine ⟨trivial, ?_⟩; gi_at_call 82; refine (CallsIn.inRound l (callsIn_wide.2 HIH.out)).mono ?_; rintro e W6 ⟨⟨r6, rfl⟩, u6, st6, ef6⟩)
          have hng : u.ownBlock ≠ some W4.heap.size := fun e => (bG5.not_row (by decide) st5.row) e.symm
          refine ⟨⟨ef6.le.size, fun k o hk ho hc => ?_⟩, ⟨ef6.le.size, fun k hk => ?_⟩, u6, ?_, ef5.trans ef6, (ef6.block _ bG5.lt (by omega) hng).trans bG5⟩
          · refine (ef6.block k (Array.getElem?_eq_some_iff.1 ho).1 (by omega) (fun e => ?_)).trans ho
            rcases st5.row.2 with ⟨rfl, _⟩ | ⟨gb, cap, cur, rfl, _, hgb, _⟩
            · simp [Value.ownBlock] at e
            · obtain rfl : gb = k := by simpa [Value.ownBlock] using e
              rw [hgb] at ho; cases ho; cases hc
          · rcases hk with hk | rfl
            · exact ef6.le.block k hk
            · exact ef6.block _ bG5.lt (by omega) hng
          · rw [List.map_append, List.map_singleton, flK_snoc, ← List.append_assoc]
            exact st6
        case done =>
          rintro D ys W' hD hz ⟨u, st5, ef5, bG5⟩ hK
          have hkf : keepsAt (fun q => p ⟨q.cls, q.code⟩) g f = true := hk
          have hsel : L ++ [g[f]] ++ flK (fun q => p ⟨q.cls, q.code⟩) g (ys.map (·.1)) = L ++ selL (keepsAt (fun q => p ⟨q.cls, q.code⟩) g) g f (endN g f - f) := by
            rw [hz, flK_all _ g g.length (f + 1) (endN g f) hle0 (fun i h1 h2 => endN_nest hf (by omega) h2) (by omega)]
            obtain ⟨q, hq⟩ : ∃ q, endN g f - f = q + 1 := ⟨endN g f - f - 1, by omega⟩
            rw [hq, show endN g f - (f + 1) = q by omega, List.append_assoc]
            rw [show selL (keepsAt (fun q => p ⟨q.cls, q.code⟩) g) g f (q + 1) = cond (keepsAt (fun q => p ⟨q.cls, q.code⟩) g f) [gAt g f] [] ++ selL (keepsAt (fun q => p ⟨q.cls, q.code⟩) g) g (f + 1) q from rfl, hkf, gAt_at hf]
            rfl
          rw [hsel] at st5
          have hDn : W0.heap.size ≤ D := hD
          obtain ⟨u', st7, ef7, -⟩ := visit_own (W0 := W0) (v2 := v2) (Bg := W4.heap.size) (by omega) (fun (_ : Unit) => L ++ selL (keepsAt (fun q => p ⟨q.cls, q.code⟩) g) g f (endN g f - f)) 26 () W' _ (some D) ⟨u, st5, ef5, bG5⟩ (grownBy_putObj' W' D (.deferred none)) (fun r e => by cases e; exact ⟨hDn, _, hK, rfl⟩)
          have HE := Lib.hid ((((VEf.of_le hwW.size hle1).trans ef2).trans ef3).trans ef7)
          have HS := Lib.hid st7
          clear st5 st7
          gi_wp2
          refine ⟨by simp, .inl ⟨_, _, rfl, run_takeDeferred hK, ?_⟩⟩
          exact ⟨_, results_none rfl _ _ _, ⟨_, rfl⟩, u', HS.out, HE.out⟩
        case stop =>
          rintro D c pre W' _ _ h _
          exact h.elim
end
end Go.Proofs.Ytkpnajffeclmdaa
