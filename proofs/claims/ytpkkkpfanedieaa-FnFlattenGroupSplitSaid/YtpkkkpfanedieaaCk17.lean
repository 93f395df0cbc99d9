/- one text of ItN, ItO, ItP -/
import Derived.Test.YtpkkkpfanedieaaCk16
import Derived.Test.YtpkkkpfanedieaaCk13
import Derived.Test.YtpkkkpfanedieaaCk14
namespace Go.Proofs.Ytpkkkpfanedieaa
open Go.RowKit
set_option linter.unusedVariables false
section
open Go.RowKit Go.Shelf
theorem leaves_sub (g : List Prt) (f m : Nat) : ∀ x ∈ leavesL ((g.drop f).take m), x ∈ leavesL g := by
  intro x hx
  unfold leavesL at hx ⊢
  obtain ⟨q, hq, rfl⟩ := List.mem_map.1 hx
  obtain ⟨hm, hg⟩ := List.mem_filter.1 hq
  exact List.mem_map.2 ⟨q, List.mem_filter.2 ⟨List.mem_of_mem_drop (List.mem_of_mem_take hm), hg⟩, rfl⟩
theorem VSt.le {n₀ tf : Nat} {lb : Array Value} {b off C : Nat} {g : List Prt} {W W' : World} {v : Value} {L : List Prt} (h : VSt n₀ tf lb b off C g W v L) (hl : Le W W') : VSt n₀ tf lb b off C g W' v L :=
  ⟨boxed_le h.bf hl, boxed_le h.bo hl, boxed_le h.bv hl, own_le h.row hl, ⟨h.sl.sl.le hl, h.sl.lo⟩⟩
theorem VEf.of_le {n₀ : Nat} {W W' : World} {v : Value} (h0 : n₀ ≤ W.heap.size) (h : Le W W') : VEf n₀ W W' v v := ⟨h.mono h0, fun k hk _ _ => h.block k hk, .inl rfl⟩
theorem visit_own {n₀ tf : Nat} {lb : Array Value} {b off C : Nat} {g : List Prt} {W0 : World} {v2 vb : Value} {Bg : Nat} {β : Type} (h0 : n₀ ≤ W0.heap.size) (f : β → List Prt) (T : TypeId) :
    OwnFrom W0.heap.size (fun (s : β) W => ∃ u, VSt n₀ tf lb b off C g W u (f s) ∧ VEf n₀ W0 W v2 u ∧ Boxed W Bg T vb) := by
  rintro s X Y row ⟨u, st, ef, bG⟩ hg hr
  have hr2 := fun r e => (hr r e).2
  obtain ⟨u', bo', row', rfl⟩ := holdsRow_own (β := Unit) n₀ (n₀ + 1) 26 42 4 (fun _ => (f s).length) (fun _ => (f s).flatMap Enc.cells) (fun _ x => x = u) () X Y row ⟨u, st.bo, st.row, rfl⟩ hg hr2
  have hB : Below n₀ X Y := (Below.refl n₀ X).grown hg (Nat.le_trans h0 ef.le.size) (fun k e => Nat.le_trans h0 (hr k e).1)
  refine ⟨u', ⟨boxed_own (β := Unit) _ _ (fun _ => _) () X Y row st.bf hg hr2, bo', boxed_own (β := Unit) _ _ (fun _ => _) () X Y row st.bv hg hr2, row', st.sl.below hB⟩, ⟨ef.le.trans hB, fun k hk h1 h2 => ?_, ef.own⟩, boxed_own (β := Unit) _ _ (fun _ => _) () X Y row bG hg hr2⟩
  refine (hg.block k (Nat.lt_of_lt_of_le hk ef.le.size) (fun e => ?_)).trans (ef.block k hk h1 h2)
  have := (hr k e.symm).1
  omega
/-- what the append and the store leave -/
theorem visit_app {w W1 W2 : World} {tf : Nat} {lb : Array Value} {b off C : Nat} {g : List Prt} {v : Value} {L : List Prt} {x : Prt} {A2 : Option Addr} {c2 : Nat} {o : Obj} (st1 : VSt w.heap.size tf lb b off C g W1 v L) (hl : Le w W1) (hg2 : (W1.drew.alloc o).grownBy W2 v.ownBlock)
    (O2 : W2.ownsRow w.heap.size 42 4 (.slice A2 (L.length + 1) c2) (L.length + 1) ((L ++ [x]).flatMap Enc.cells)) (hat2 : (Value.slice A2 (L.length + 1) c2).ownBlock = v.ownBlock ∨ (Value.slice A2 (L.length + 1) c2).ownBlock = some (W1.drew.alloc o).heap.size) :
    W2.cell? ⟨w.heap.size + 1, 0, none⟩ = some v ∧ W2.frozen? ⟨w.heap.size + 1, 0, none⟩ = false ∧
      VSt w.heap.size tf lb b off C g (W2.setCell ⟨w.heap.size + 1, 0, none⟩ (.slice A2 (L.length + 1) c2)) (.slice A2 (L.length + 1) c2) (L ++ [x]) ∧ VEf w.heap.size W1 (W2.setCell ⟨w.heap.size + 1, 0, none⟩ (.slice A2 (L.length + 1) c2)) v (.slice A2 (L.length + 1) c2) := by
  have stD := st1.le (Le.refl W1).drew
  obtain ⟨hv1, hv2, hr2, hk2, hb2⟩ := stD.bo.appended (by decide) stD.row hl.size (Nat.le_succ _) O2 hg2
  have bf2 := ((stD.bf.alloc o).kept hg2 (stD.bf.not_row (by decide) stD.row)).other (B' := w.heap.size + 1) (by omega) (.slice A2 (L.length + 1) c2)
  have bv2 := ((stD.bv.alloc o).kept hg2 (stD.bv.not_row (by decide) stD.row)).other (B' := w.heap.size + 1) (by omega) (.slice A2 (L.length + 1) c2)
  refine ⟨hv1.cell, hv1.frozen, ⟨bf2, hv2, bv2, by simpa using hr2, stD.sl.below hb2⟩, ⟨((Below.refl _ W1).drew).trans hb2, ?_, ?_⟩⟩
  · intro k hk h1 h2
    have hk2 : k < (W1.drew.alloc o).heap.size := by simp; omega
    refine ((grownBy_setCell' W2 (w.heap.size + 1) _).block k (Nat.lt_of_lt_of_le hk2 hg2.size) (fun e => h1 (by injection e))).trans ?_
    exact (hg2.block k hk2 (fun e => h2 e.symm)).trans (hp_old W1.drew o hk)
  · rcases hat2 with h | h
    · exact .inl h
    · refine .inr fun k hk => ?_
      rw [h] at hk
      injection hk with hk
      rw [← hk]; simp
attribute [local go_sem] Oper.semAt_some
set_option maxRecDepth 100000 in
set_option maxHeartbeats 4000000 in
theorem visit_any (tf : Nat) (lb : Array Value) (eT : ∀ args w, (callFunc tf args).run Try.prog w = .ok (.enter tf args) w) (p : Lef → Bool) (b off C : Nat) (g : List Prt) (hm16 : g.length ≤ 16) (w : World)
    (hT : ∀ (x : Lef) (W : World), x ∈ leavesL g → Le w W → Calls Try.prog tf (#[.agg #[.int .i64 x.cls, .int .i64 x.code]] ++ lb) W fun e W' => e = .returned (.bool (p x)) ∧ Le W W') :
    ∀ (mm f : Nat), g.length - f ≤ mm → f < g.length → ∀ (W : World) (v : Value) (L : List Prt), Le w W → VSt w.heap.size tf lb b off C g W v L → L.length ≤ 300 * f →
    Calls Try.prog 77 #[.slice (some ⟨b, off + f * 4, none⟩) (endN g f - f) (C - f), .pointer (some ⟨w.heap.size, 0, none⟩), .pointer (some ⟨w.heap.size + 1, 0, none⟩), .pointer (some ⟨w.heap.size + 1 + 1, 0, none⟩)] W fun e W' => (∃ r, e = .returned r) ∧
      ∃ v', VSt w.heap.size tf lb b off C g W' v' (L ++ selL (keepsAt (fun q => p ⟨q.cls, q.code⟩) g) g f (endN g f - f)) ∧ VEf w.heap.size W W' v v' := by
  intro mm
  induction mm with
  | zero => intro f h1 h2; omega
  | succ mm ih =>
    intro f hmm hf W v L hwW st hL
    obtain ⟨i0, hi, hz0, hz1, hz2⟩ := info_parts infoPrtS
    have hgt := endN_gt g f
    have hle0 := endN_le hf
    have SP0 := (st.sl.sl.cutS f (by omega) (s := f * 4) rfl).take_ (endN g f - f) (by omega)
    have hadd : (⟨b, off, none⟩ : Addr).add (f * 4) = ⟨b, off + f * 4, none⟩ := by
      unfold Addr.add; split
      · simp
      · rfl
    rw [hadd] at SP0
    have cF := st.bf.cell
    have hany := any_piece p g f (endN g f) hle0 (by omega)
    have HL := fun (WW : World) (h : Le W WW) => hasLeaf_gen tf lb eT p _ _ _ _ WW (SP0.le h) (fun x W' hx hW => hT x W' (leaves_sub g f _ x hx) ((hwW.trans h).trans hW))
    refine (callsIn_wide (n := 6)).1 ?_
    refine callsIn_of_wp_marks Try.func77 rfl trivial ?_ rfl
    simp only [Try.ntmps77, List.size_toArray, List.length_cons, List.length_nil, Nat.reduceAdd, Nat.reduceSub, Array.replicate_succ, Array.replicate_zero, List.push_toArray, List.append_toArray, List.nil_append, List.cons_append]
    rw [hany] at HL
    cases hk : anyF (passAt (fun q => p ⟨q.cls, q.code⟩) g) f (endN g f - f)
    · rw [hk] at HL
      gi_wp2_with (refine ⟨trivial, ?_⟩; gi_at_call 49; refine (callsIn_wide.2 (HL _ (Le.refl _))).mono ?_; rintro e W1 ⟨rfl, hle1⟩)
      have hno : ∀ i, f ≤ i → i < f + (endN g f - f) → keepsAt (fun q => p ⟨q.cls, q.code⟩) g i = false := by
        intro i h1 h2
        cases hki : keepsAt (fun q => p ⟨q.cls, q.code⟩) g i
        · rfl
        · exfalso
          obtain ⟨k, k1, k2, k3⟩ := keeps_iff.1 hki
          have hie : endN g i ≤ endN g f := by
            rcases Nat.lt_or_ge f i with h | h
            · exact endN_nest hf h (by omega)
            · have : i = f := by omega
              rw [this]; exact Nat.le_refl _
          have := (anyF_iff (f := passAt (fun q => p ⟨q.cls, q.code⟩) g) (endN g f - f) f).2 ⟨k, by omega, by omega, k3⟩
          rw [hk] at this; cases this
      rw [selL_none _ _ hno, List.append_nil]
      exact ⟨_, results_none rfl _ _ _, ⟨_, rfl⟩, v, st.le hle1, ⟨hle1.mono hwW.size, fun k hk' _ _ => hle1.block k hk', .inl rfl⟩⟩
    · rw [hk] at HL
      gi_wp2_with (refine ⟨trivial, ?_⟩; gi_at_call 49; refine (callsIn_wide.2 (HL _ (Le.refl _))).mono ?_; rintro e W1 ⟨rfl, hle1⟩)
      have st1 := st.le hle1
      have hlW1 := hwW.trans hle1
      obtain ⟨b2, off2, e2, hb2, p0, p1, p2, p3, -⟩ := st1.sl.sl.prt_at hf
      cases e2
      have cO := st1.bo.cell
      have fO := st1.bo.frozen
      have hok : Enc.ok g[f] := st1.sl.sl.ok _ (List.getElem_mem hf)
      have hmo : Try.prog.follows .mixedOrders = true := by kernel_rfl
      have O1 := (own_le st1.row (Le.refl W1).drew).alloc (.cells #[.int .i64 g[f].depth, .bool g[f].group, .int .i64 g[f].cls, .int .i64 g[f].code] 42)
      have cO2 := (st1.bo.alloc (.cells #[.int .i64 g[f].depth, .bool g[f].group, .int .i64 g[f].cls, .int .i64 g[f].code] 42)).cell
      have hpos : 0 < endN g f - f := by omega
      have HB1 : w.heap.size ≤ (W1.drew.alloc (.cells #[.int .i64 g[f].depth, .bool g[f].group, .int .i64 g[f].cls, .int .i64 g[f].code] 42)).heap.size := by have := hlW1.size; simp; omega
      have S1 := sl_one (w := W1.drew) (cs := #[.int .i64 g[f].depth, .bool g[f].group, .int .i64 g[f].cls, .int .i64 g[f].code]) (T := 42) g[f] rfl hok (b := W1.heap.size) rfl
      refine wpIn_mono (Q := fun e a' w' => e = .normal ∧ ∃ A2 c2, VSt w.heap.size tf lb b off C g w' (.slice A2 (L.length + 1) c2) (L ++ [g[f]]) ∧ VEf w.heap.size W1 w' v (.slice A2 (L.length + 1) c2) ∧
        a' = { tmps := #[.slice (some ⟨b, off + f * 4, none⟩) (endN g f - f) (C - f), .pointer (some ⟨w.heap.size, 0, none⟩), .pointer (some ⟨w.heap.size + 1, 0, none⟩), .pointer (some ⟨w.heap.size + 1 + 1, 0, none⟩), undef, undef, .slice (some ⟨b, off + f * 4, none⟩) (endN g f - f) (C - f), .func (.func tf) #[] lb, .bool true, .bool false, v, .slice (some ⟨b, off + f * 4, none⟩) (endN g f - f) (C - f), .pointer (some ⟨b, off + f * 4, none⟩), .agg #[.int .i64 g[f].depth, .bool g[f].group, .int .i64 g[f].cls, .int .i64 g[f].code], .slice (some ⟨W1.heap.size, 0, none⟩) 1 1, .slice A2 (L.length + 1) c2, undef, undef, undef, undef, undef, undef], defers := [] }) ?reg ?rest
      case reg =>
        refine wpIn_region_any hmo ?_
        refine wpAnyIn_ready (rs := [0, 1]) (by kernel_rfl) (by simp) ?_
        refine AllReadyIn.cons rfl (fun K hK => ?_) ?_
        · go_simp
          refine hK _ _ ?_
          clear hK K
          refine wpAnyIn_ready (rs := [1]) (by kernel_rfl) (by simp) ?_
          refine AllReadyIn.cons rfl (fun K hK => ?_) ?_
          · go_simp
            refine hK _ _ ?_
            clear hK K
            refine wpAnyIn_ready (rs := [2]) (by kernel_rfl) (by simp) ?_
            refine AllReadyIn.cons rfl (fun K hK => ?_) ?_
            · go_simp
              refine hK _ _ ?_
              clear hK K
              refine wpAnyIn_ready (rs := [3]) (by kernel_rfl) (by simp) ?_
              refine AllReadyIn.cons rfl (fun K hK => ?_) ?_
              · go_simp
                refine hK _ _ ?_
                clear hK K
                refine wpAnyIn_ready (rs := [4]) (by kernel_rfl) (by simp) ?_
                refine AllReadyIn.cons rfl (fun K hK => ?_) ?_
                · go_simp
                  refine hK _ _ ?_
                  clear hK K
                  refine wpAnyIn_ready (rs := [5]) (by kernel_rfl) (by simp) ?_
                  refine AllReadyIn.cons rfl (fun K hK => ?_) ?_
                  · refine stepIn_append_sl rfl _ _ 26 rfl w.heap.size 42 i0 _ 32 Try.underlying26 hi hz0 hz1 hz2 rfl v L.length L rfl O1 (some ⟨W1.heap.size, 0, none⟩) 1 1 [g[f]] rfl S1 (by unfold maxLen; omega) (by omega) HB1 ?_
                    intro v2 W2 O2 hg2 hat2
                    obtain ⟨A2, c2, rfl⟩ := own_form O2
                    obtain ⟨hc1, hf1, HST, HEF⟩ := visit_app st1 hlW1 hg2 O2 hat2
                    refine hK _ _ ?_
                    clear hK K
                    refine wpAnyIn_ready (rs := [6]) (by kernel_rfl) (by simp) ?_
                    refine AllReadyIn.cons rfl (fun K hK => ?_) ?_
                    · go_simp
                      refine hK _ _ ?_
                      clear hK K
                      refine wpAnyIn_done (by kernel_rfl) ?_ _
                      exact ⟨rfl, A2, c2, HST, HEF, rfl⟩
                    exact AllReadyIn.nil
                  exact AllReadyIn.nil
                exact AllReadyIn.nil
              exact AllReadyIn.nil
            exact AllReadyIn.nil
          exact AllReadyIn.nil
        refine AllReadyIn.cons rfl (fun K hK => ?_) ?_
        · go_simp
          refine hK _ _ ?_
          clear hK K
          refine wpAnyIn_ready (rs := [0, 2]) (by kernel_rfl) (by simp) ?_
          refine AllReadyIn.cons rfl (fun K hK => ?_) ?_
          · go_simp
            refine hK _ _ ?_
            clear hK K
            refine wpAnyIn_ready (rs := [2]) (by kernel_rfl) (by simp) ?_
            refine AllReadyIn.cons rfl (fun K hK => ?_) ?_
            · go_simp
              refine hK _ _ ?_
              clear hK K
              refine wpAnyIn_ready (rs := [3]) (by kernel_rfl) (by simp) ?_
              refine AllReadyIn.cons rfl (fun K hK => ?_) ?_
              · go_simp
                refine hK _ _ ?_
                clear hK K
                refine wpAnyIn_ready (rs := [4]) (by kernel_rfl) (by simp) ?_
                refine AllReadyIn.cons rfl (fun K hK => ?_) ?_
                · go_simp
                  refine hK _ _ ?_
                  clear hK K
                  refine wpAnyIn_ready (rs := [5]) (by kernel_rfl) (by simp) ?_
                  refine AllReadyIn.cons rfl (fun K hK => ?_) ?_
                  · refine stepIn_append_sl rfl _ _ 26 rfl w.heap.size 42 i0 _ 32 Try.underlying26 hi hz0 hz1 hz2 rfl v L.length L rfl O1 (some ⟨W1.heap.size, 0, none⟩) 1 1 [g[f]] rfl S1 (by unfold maxLen; omega) (by omega) HB1 ?_
                    intro v2 W2 O2 hg2 hat2
                    obtain ⟨A2, c2, rfl⟩ := own_form O2
                    obtain ⟨hc1, hf1, HST, HEF⟩ := visit_app st1 hlW1 hg2 O2 hat2
                    refine hK _ _ ?_
                    clear hK K
                    refine wpAnyIn_ready (rs := [6]) (by kernel_rfl) (by simp) ?_
                    refine AllReadyIn.cons rfl (fun K hK => ?_) ?_
                    · go_simp
                      refine hK _ _ ?_
                      clear hK K
                      refine wpAnyIn_done (by kernel_rfl) ?_ _
                      exact ⟨rfl, A2, c2, HST, HEF, rfl⟩
                    exact AllReadyIn.nil
                  exact AllReadyIn.nil
                exact AllReadyIn.nil
              exact AllReadyIn.nil
            exact AllReadyIn.nil
          refine AllReadyIn.cons rfl (fun K hK => ?_) ?_
          · go_simp
            refine hK _ _ ?_
            clear hK K
            refine wpAnyIn_ready (rs := [0, 3]) (by kernel_rfl) (by simp) ?_
            refine AllReadyIn.cons rfl (fun K hK => ?_) ?_
            · go_simp
              refine hK _ _ ?_
              clear hK K
              refine wpAnyIn_ready (rs := [3]) (by kernel_rfl) (by simp) ?_
              refine AllReadyIn.cons rfl (fun K hK => ?_) ?_
              · go_simp
                refine hK _ _ ?_
                clear hK K
                refine wpAnyIn_ready (rs := [4]) (by kernel_rfl) (by simp) ?_
                refine AllReadyIn.cons rfl (fun K hK => ?_) ?_
                · go_simp
                  refine hK _ _ ?_
                  clear hK K
                  refine wpAnyIn_ready (rs := [5]) (by kernel_rfl) (by simp) ?_
                  refine AllReadyIn.cons rfl (fun K hK => ?_) ?_
                  · refine stepIn_append_sl rfl _ _ 26 rfl w.heap.size 42 i0 _ 32 Try.underlying26 hi hz0 hz1 hz2 rfl v L.length L rfl O1 (some ⟨W1.heap.size, 0, none⟩) 1 1 [g[f]] rfl S1 (by unfold maxLen; omega) (by omega) HB1 ?_
                    intro v2 W2 O2 hg2 hat2
                    obtain ⟨A2, c2, rfl⟩ := own_form O2
                    obtain ⟨hc1, hf1, HST, HEF⟩ := visit_app st1 hlW1 hg2 O2 hat2
                    refine hK _ _ ?_
                    clear hK K
                    refine wpAnyIn_ready (rs := [6]) (by kernel_rfl) (by simp) ?_
                    refine AllReadyIn.cons rfl (fun K hK => ?_) ?_
                    · go_simp
                      refine hK _ _ ?_
                      clear hK K
                      refine wpAnyIn_done (by kernel_rfl) ?_ _
                      exact ⟨rfl, A2, c2, HST, HEF, rfl⟩
                    exact AllReadyIn.nil
                  exact AllReadyIn.nil
                exact AllReadyIn.nil
              exact AllReadyIn.nil
            refine AllReadyIn.cons rfl (fun K hK => ?_) ?_
            · go_simp
              refine hK _ _ ?_
              clear hK K
              refine wpAnyIn_ready (rs := [0, 4]) (by kernel_rfl) (by simp) ?_
              refine AllReadyIn.cons rfl (fun K hK => ?_) ?_
              · go_simp
                refine hK _ _ ?_
                clear hK K
                refine wpAnyIn_ready (rs := [4]) (by kernel_rfl) (by simp) ?_
                refine AllReadyIn.cons rfl (fun K hK => ?_) ?_
                · go_simp
                  refine hK _ _ ?_
                  clear hK K
                  refine wpAnyIn_ready (rs := [5]) (by kernel_rfl) (by simp) ?_
                  refine AllReadyIn.cons rfl (fun K hK => ?_) ?_
                  · refine stepIn_append_sl rfl _ _ 26 rfl w.heap.size 42 i0 _ 32 Try.underlying26 hi hz0 hz1 hz2 rfl v L.length L rfl O1 (some ⟨W1.heap.size, 0, none⟩) 1 1 [g[f]] rfl S1 (by unfold maxLen; omega) (by omega) HB1 ?_
                    intro v2 W2 O2 hg2 hat2
                    obtain ⟨A2, c2, rfl⟩ := own_form O2
                    obtain ⟨hc1, hf1, HST, HEF⟩ := visit_app st1 hlW1 hg2 O2 hat2
                    refine hK _ _ ?_
                    clear hK K
                    refine wpAnyIn_ready (rs := [6]) (by kernel_rfl) (by simp) ?_
                    refine AllReadyIn.cons rfl (fun K hK => ?_) ?_
                    · go_simp
                      refine hK _ _ ?_
                      clear hK K
                      refine wpAnyIn_done (by kernel_rfl) ?_ _
                      exact ⟨rfl, A2, c2, HST, HEF, rfl⟩
                    exact AllReadyIn.nil
                  exact AllReadyIn.nil
                exact AllReadyIn.nil
              refine AllReadyIn.cons rfl (fun K hK => ?_) ?_
              · go_simp
                refine hK _ _ ?_
                clear hK K
                refine wpAnyIn_ready (rs := [0]) (by kernel_rfl) (by simp) ?_
                refine AllReadyIn.cons rfl (fun K hK => ?_) ?_
                · go_simp
                  refine hK _ _ ?_
                  clear hK K
                  refine wpAnyIn_ready (rs := [5]) (by kernel_rfl) (by simp) ?_
                  refine AllReadyIn.cons rfl (fun K hK => ?_) ?_
                  · refine stepIn_append_sl rfl _ _ 26 rfl w.heap.size 42 i0 _ 32 Try.underlying26 hi hz0 hz1 hz2 rfl v L.length L rfl O1 (some ⟨W1.heap.size, 0, none⟩) 1 1 [g[f]] rfl S1 (by unfold maxLen; omega) (by omega) HB1 ?_
                    intro v2 W2 O2 hg2 hat2
                    obtain ⟨A2, c2, rfl⟩ := own_form O2
                    obtain ⟨hc1, hf1, HST, HEF⟩ := visit_app st1 hlW1 hg2 O2 hat2
                    refine hK _ _ ?_
                    clear hK K
                    refine wpAnyIn_ready (rs := [6]) (by kernel_rfl) (by simp) ?_
                    refine AllReadyIn.cons rfl (fun K hK => ?_) ?_
                    · go_simp
                      refine hK _ _ ?_
                      clear hK K
                      refine wpAnyIn_done (by kernel_rfl) ?_ _
                      exact ⟨rfl, A2, c2, HST, HEF, rfl⟩
                    exact AllReadyIn.nil
                  exact AllReadyIn.nil
                exact AllReadyIn.nil
              exact AllReadyIn.nil
            exact AllReadyIn.nil
          exact AllReadyIn.nil
        exact AllReadyIn.nil
      case rest =>
        rintro e a' W4 ⟨rfl, A2, c2, st2, ef2, rfl⟩
        obtain ⟨v2, hv2⟩ : ∃ v2, Value.slice A2 (L.length + 1) c2 = v2 := ⟨_, rfl⟩
        rw [hv2] at st2 ef2 ⊢
        clear hv2
        gi_wp2_with (refine ⟨trivial, ?_⟩; gi_at_call 57; refine (kids_in Fence.wide 5 trivial rfl _ _ _ _).mono ?_; rintro e w3 ⟨rfl, rfl⟩)
        have bG := Boxed.new W4 26 (.slice (some ⟨b, off + f * 4, none⟩) (endN g f - f) (C - f))
        have hl4 : Le w W4 := hlW1.trans' ef2.le
        have st3 := st2.le (Le.new W4 (.cells #[.slice (some ⟨b, off + f * 4, none⟩) (endN g f - f) (C - f)] 26))
        have hsz : (W4.alloc (.cells #[.slice (some ⟨b, off + f * 4, none⟩) (endN g f - f) (C - f)] 26)).heap.size = W4.heap.size + 1 := by simp
        have ef3 : VEf w.heap.size W4 (W4.alloc (.cells #[.slice (some ⟨b, off + f * 4, none⟩) (endN g f - f) (C - f)] 26)) v2 v2 := VEf.of_le hl4.size (Le.new W4 _)
        have hs4 := st2.bv.lt
        generalize W4.alloc (.cells #[.slice (some ⟨b, off + f * 4, none⟩) (endN g f - f) (C - f)] 26) = W0 at *
        refine wpIn_rangeFunc_ownH rfl (by omega) (gf := 74) (lb := #[.pointer (some ⟨W4.heap.size, 0, none⟩)]) rfl trivial (enters_of Try.func74 (by kernel_rfl) rfl)
          (kids_stops (6 - 1) (by omega) W4.heap.size w.heap.size b off C g f (endN g f) hm16 hgt hle0 (fun i h1 h2 => endN_nest hf h1 h2) (fun k => f < k ∧ k < endN g f) (fun i h1 h2 => ⟨h1, h2⟩) W0 (by omega) (by omega) bG.cell st3.sl) KpB.trans (kpB_b (by omega) (by omega)) (Below.refl _ _) (fun _ => rfl)
          (fun pre W => ∃ u, VSt w.heap.size tf lb b off C g W u (L ++ [g[f]] ++ flK (fun q => p ⟨q.cls, q.code⟩) g (pre.map (·.1))) ∧ VEf w.heap.size W0 W v2 u ∧ Boxed W W4.heap.size 26 (.slice (some ⟨b, off + f * 4, none⟩) (endN g f - f) (C - f)))
          (fun _ _ _ => False)
          (visit_own (W0 := W0) (v2 := v2) (Bg := W4.heap.size) (by omega) (fun (pre : List { x : Nat // f < x ∧ x < endN g f }) => L ++ [g[f]] ++ flK (fun q => p ⟨q.cls, q.code⟩) g (pre.map (·.1))) 26)
          (fun _ _ _ _ _ hs _ _ => hs)
          ⟨v2, by simpa [flK] using st3, VEf.refl _ _ _, bG⟩
          (fun x a' _ => a' = { tmps := #[.slice (some ⟨b, off + f * 4, none⟩) (endN g f - f) (C - f), .pointer (some ⟨w.heap.size, 0, none⟩), .pointer (some ⟨w.heap.size + 1, 0, none⟩), .pointer (some ⟨w.heap.size + 1 + 1, 0, none⟩), undef, .slice (some ⟨b, off + x.1 * 4, none⟩) (endN g x.1 - x.1) (C - x.1), .slice (some ⟨b, off + f * 4, none⟩) (endN g f - f) (C - f), .func (.func tf) #[] lb, .bool true, .bool false, v, .slice (some ⟨b, off + f * 4, none⟩) (endN g f - f) (C - f), .pointer (some ⟨b, off + f * 4, none⟩), .agg #[.int .i64 g[f].depth, .bool g[f].group, .int .i64 g[f].cls, .int .i64 g[f].code], .slice (some ⟨W1.heap.size, 0, none⟩) 1 1, v2, .slice (some ⟨b, off + f * 4, none⟩) (endN g f - f) (C - f), .func (.func 74) #[] #[.pointer (some ⟨W4.heap.size, 0, none⟩)], .slice (some ⟨b, off + x.1 * 4, none⟩) (endN g x.1 - x.1) (C - x.1), undef, undef, undef], defers := [] })
          (fun _ _ _ _ _ _ hs _ _ => hs)
          ?assign ?body ?done ?stop
        case assign =>
          rintro l pre x W' K hI' hK
          gi_wp2
          exact hK _ _ (KeepsFrom.refl _ _) (KpB.refl _ _ _) hI' rfl
        case body =>
          rintro l pre x a' W' hl ⟨r, hr⟩ ⟨u, st5, ef5, bG5⟩ rfl hlt
          have cV := st5.bv.cell
          have hx := x.2
          have hl5 : Le w W' := (hl4.trans' ef3.le).trans' ef5.le
          have hln : (L ++ [g[f]] ++ flK (fun q => p ⟨q.cls, q.code⟩) g (pre.map (·.1))).length ≤ 300 * x.1 := by
            have h1 := flK_len (fun q => p ⟨q.cls, q.code⟩) g hm16 (pre.map (·.1)) (fun k hk => by obtain ⟨y, -, rfl⟩ := List.mem_map.1 hk; have := y.2.2; omega)
            rw [List.length_map] at h1
            simp only [List.length_append, List.length_cons, List.length_nil]
            have := hx.1
            omega
          have IH := ih x.1 (by have := hx.1; omega) (by have := hx.2; omega) W' u _ hl5 st5 hln
          have HIH := Lib.hid IH
          clear IH
          gi_wp2_with (refine ⟨trivial, ?_⟩; gi_at_call 77; refine (CallsIn.inRound l (callsIn_wide.2 HIH.out)).mono ?_; rintro e W6 ⟨⟨r6, rfl⟩, u6, st6, ef6⟩)
          have hng : u.ownBlock ≠ some W4.heap.size := fun e => (bG5.not_row (by decide) st5.row) e.symm
          refine ⟨⟨ef6.le.size, fun k o hk ho hc => ?_⟩, ⟨ef6.le.size, fun k hk => ?_⟩, u6, ?_, ef5.trans ef6, (ef6.block _ bG5.lt (by omega) hng).trans bG5⟩
          · refine (ef6.block k (Array.getElem?_eq_some_iff.1 ho).1 (by omega) (fun e => ?_)).trans ho
            rcases st5.row.2 with ⟨rfl, _⟩ | ⟨gb, cap, cur, rfl, _, hgb, _⟩
            · simp [Value.ownBlock] at e
            · obtain rfl : gb = k := by simpa [Value.ownBlock] using e
              rw [hgb] at ho; cases ho; cases hc
          · rcases hk with hk | rfl
            · exact ef6.le.block k hk
            · exact ef6.block _ bG5.lt (by omega) hng
          · rw [List.map_append, List.map_singleton, flK_snoc, ← List.append_assoc]
            exact st6
        case done =>
          rintro D ys W' hD hz ⟨u, st5, ef5, bG5⟩ hK
          have hkf : keepsAt (fun q => p ⟨q.cls, q.code⟩) g f = true := hk
          have hsel : L ++ [g[f]] ++ flK (fun q => p ⟨q.cls, q.code⟩) g (ys.map (·.1)) = L ++ selL (keepsAt (fun q => p ⟨q.cls, q.code⟩) g) g f (endN g f - f) := by
            rw [hz, flK_all _ g g.length (f + 1) (endN g f) hle0 (fun i h1 h2 => endN_nest hf (by omega) h2) (by omega)]
            obtain ⟨q, hq⟩ : ∃ q, endN g f - f = q + 1 := ⟨endN g f - f - 1, by omega⟩
            rw [hq, show endN g f - (f + 1) = q by omega, List.append_assoc]
            rw [show selL (keepsAt (fun q => p ⟨q.cls, q.code⟩) g) g f (q + 1) = cond (keepsAt (fun q => p ⟨q.cls, q.code⟩) g f) [gAt g f] [] ++ selL (keepsAt (fun q => p ⟨q.cls, q.code⟩) g) g (f + 1) q from rfl, hkf, gAt_at hf]
            rfl
          rw [hsel] at st5
          have hDn : W0.heap.size ≤ D := hD
          obtain ⟨u', st7, ef7, -⟩ := visit_own (W0 := W0) (v2 := v2) (Bg := W4.heap.size) (by omega) (fun (_ : Unit) => L ++ selL (keepsAt (fun q => p ⟨q.cls, q.code⟩) g) g f (endN g f - f)) 26 () W' _ (some D) ⟨u, st5, ef5, bG5⟩ (grownBy_putObj' W' D (.deferred none)) (fun r e => by cases e; exact ⟨hDn, _, hK, rfl⟩)
          have HE := Lib.hid ((((VEf.of_le hwW.size hle1).trans ef2).trans ef3).trans ef7)
          have HS := Lib.hid st7
          clear st5 st7
          gi_wp2
          refine ⟨by simp, .inl ⟨_, _, rfl, run_takeDeferred hK, ?_⟩⟩
          exact ⟨_, results_none rfl _ _ _, ⟨_, rfl⟩, u', HS.out, HE.out⟩
        case stop =>
          rintro D c pre W' _ _ h _
          exact h.elim
end

section
open Go.RowKit Go.Shelf
set_option maxRecDepth 100000 in
set_option maxHeartbeats 2000000 in
theorem keep_prog (tf : Nat) (lb : Array Value) (eT : ∀ args w, (callFunc tf args).run Try.prog w = .ok (.enter tf args) w) (p : Lef → Bool) (xs : List Cls) (b off C : Nat) (g : List Prt) (G : GoodG xs g) (w : World) (hG : Sl w (some ⟨b, off, none⟩) g.length C g)
    (hT : ∀ (x : Lef) (W : World), x ∈ leavesL g → Le w W → Calls Try.prog tf (#[.agg #[.int .i64 x.cls, .int .i64 x.code]] ++ lb) W fun e W' => e = .returned (.bool (p x)) ∧ Le W W') :
    Calls Try.prog 62 #[.slice (some ⟨b, off, none⟩) g.length C, .func (.func tf) #[] lb] w fun e w' => ∃ v, e = .returned v ∧ Owd 42 w w' v (selK (keepsAt (fun q => p ⟨q.cls, q.code⟩) g) g g.length) ∧ Le w w' := by
  have HOK : Hid (∀ (f : Nat → Bool), ∀ x ∈ selK f g g.length, Enc.ok x) := fun f x hx => hG.ok x (selK_mem g.length (Nat.le_refl _) x hx)
  have SB : SlB w.heap.size w (some ⟨b, off, none⟩) g.length C g := ⟨hG, fun hn a e => by obtain ⟨b', off', e2, hb, -⟩ := hG.at_ hn; rw [e2] at e; cases e; exact hb⟩
  have V0 := fun (W : World) (hl : Le w W) (st : VSt w.heap.size tf lb b off C g W (.slice none 0 0) []) => visit_any tf lb eT p b off C g G.len.2 w hT g.length 0 (by omega) (by have := G.len; omega) W _ [] hl st (by simp)
  simp only [Nat.zero_mul, Nat.add_zero, Nat.sub_zero, end_zero G, List.nil_append] at V0
  have HV := Lib.hid V0
  clear V0
  have bF := ((Boxed.new w 64 (.func (.func tf) #[] lb)).alloc (.cells #[.slice none 0 0] 26)).alloc (.cells #[.nilFunc] 105)
  have bO := (Boxed.new (w.alloc (.cells #[.func (.func tf) #[] lb] 64)) 26 (.slice none 0 0)).alloc (.cells #[.nilFunc] 105)
  have bV := Boxed.new ((w.alloc (.cells #[.func (.func tf) #[] lb] 64)).alloc (.cells #[.slice none 0 0] 26)) 105 .nilFunc
  have L0 : Le w (((w.alloc (.cells #[.func (.func tf) #[] lb] 64)).alloc (.cells #[.slice none 0 0] 26)).alloc (.cells #[.nilFunc] 105)) := ((Le.new w _).alloc _).alloc _
  simp only [World.size_alloc] at bO bV
  have cV := bV.cell
  have fV := bV.frozen
  have L4 : Le w (((w.alloc (.cells #[.func (.func tf) #[] lb] 64)).alloc (.cells #[.slice none 0 0] 26)).alloc (.cells #[.func (.func 77) #[] #[.pointer (some ⟨w.heap.size, 0, none⟩), .pointer (some ⟨w.heap.size + 1, 0, none⟩), .pointer (some ⟨w.heap.size + 1 + 1, 0, none⟩)]] 105)) := ((Le.new w _).alloc _).alloc _
  have st : VSt w.heap.size tf lb b off C g (((w.alloc (.cells #[.func (.func tf) #[] lb] 64)).alloc (.cells #[.slice none 0 0] 26)).alloc (.cells #[.func (.func 77) #[] #[.pointer (some ⟨w.heap.size, 0, none⟩), .pointer (some ⟨w.heap.size + 1, 0, none⟩), .pointer (some ⟨w.heap.size + 1 + 1, 0, none⟩)]] 105)) (.slice none 0 0) [] := by
    have h1 := ((Boxed.new w 64 (.func (.func tf) #[] lb)).alloc (.cells #[.slice none 0 0] 26)).alloc (.cells #[.func (.func 77) #[] #[.pointer (some ⟨w.heap.size, 0, none⟩), .pointer (some ⟨w.heap.size + 1, 0, none⟩), .pointer (some ⟨w.heap.size + 1 + 1, 0, none⟩)]] 105)
    have h2 := (Boxed.new (w.alloc (.cells #[.func (.func tf) #[] lb] 64)) 26 (.slice none 0 0)).alloc (.cells #[.func (.func 77) #[] #[.pointer (some ⟨w.heap.size, 0, none⟩), .pointer (some ⟨w.heap.size + 1, 0, none⟩), .pointer (some ⟨w.heap.size + 1 + 1, 0, none⟩)]] 105)
    have h3 := Boxed.new ((w.alloc (.cells #[.func (.func tf) #[] lb] 64)).alloc (.cells #[.slice none 0 0] 26)) 105 (.func (.func 77) #[] #[.pointer (some ⟨w.heap.size, 0, none⟩), .pointer (some ⟨w.heap.size + 1, 0, none⟩), .pointer (some ⟨w.heap.size + 1 + 1, 0, none⟩)])
    rw [World.size_alloc] at h2
    rw [World.size_alloc, World.size_alloc] at h3
    exact ⟨h1, h2, h3, World.ownsRow_nil _ _ _ _, SB.below L4⟩
  have cT := st.bv.cell
  have hst : ∀ (W : World) (a : Addr) (f : Fn) (x y : Array Value) (m : Mode), (store a (.func f x y) m).run Try.prog W = stored Try.prog W a (.func f x y) m := fun W a f x y m => run_store Try.prog W a _ m rfl
  go_enter Try.func62, Try.ntmps62
  go_wp2_with fail
  generalize ((w.alloc (.cells #[.func (.func tf) #[] lb] 64)).alloc (.cells #[.slice none 0 0] 26)).alloc (.cells #[.func (.func 77) #[] #[.pointer (some ⟨w.heap.size, 0, none⟩), .pointer (some ⟨w.heap.size + 1, 0, none⟩), .pointer (some ⟨w.heap.size + 1 + 1, 0, none⟩)]] 105) = W4 at *
  refine (HV.out _ L4 st).mono ?_
  rintro e W5 ⟨⟨r, rfl⟩, v', st5, ef5⟩
  have HE := Lib.hid (L4.trans' ef5.le)
  have HO := Lib.hid (⟨st5.row, HOK.out _⟩ : Owd 42 w W5 v' (selK (keepsAt (fun q => p ⟨q.cls, q.code⟩) g) g g.length))
  have cO := st5.bo.cell
  clear st5 ef5
  go_wp2
  go_ret
  exact ⟨_, rfl, HO.out, HE.out⟩
set_option maxRecDepth 100000 in
theorem splitNot_any (tf : Nat) (lb : Array Value) (eT : ∀ args w, (callFunc tf args).run Try.prog w = .ok (.enter tf args) w) (p : Lef → Bool) (Bt : Nat) (x : Lef) (W : World) (hB : Boxed W Bt 64 (.func (.func tf) #[] lb))
    (hT : ∀ (W' : World), Le W W' → Calls Try.prog tf (#[.agg #[.int .i64 x.cls, .int .i64 x.code]] ++ lb) W' fun e W'' => e = .returned (.bool (p x)) ∧ Le W' W'') :
    Calls Try.prog 63 (#[.agg #[.int .i64 x.cls, .int .i64 x.code]] ++ #[.pointer (some ⟨Bt, 0, none⟩)]) W fun e W' => e = .returned (.bool (!p x)) ∧ Le W W' := by
  have hl := Le.new W (.cells #[.int .i64 x.cls, .int .i64 x.code] 38)
  have cB := (hB.alloc (.cells #[.int .i64 x.cls, .int .i64 x.code] 38)).cell
  go_enter Try.func63, Try.ntmps63
  go_wp2_with fail
  refine (hT _ hl).mono ?_
  rintro e W2 ⟨rfl, hle⟩
  go_wp2
  go_ret
  exact ⟨rfl, hl.trans hle⟩
theorem gOkS_len {xs : List Cls} {g : List Prt} (h : gOkS xs g = true) : g.length ≤ 16 := (goodG_of (by rw [← gOk_same]; exact h)).len.2
theorem apart_base {w w4 w6 : World} {v u : Value} {T T2 : TypeId} {L M : List Prt} (h : Owd T w w4 v L) (k : Owd T2 w4 w6 u M) : Apart v u := by
  cases e : v.ownBlock with
  | none => exact .inl e
  | some q =>
    refine .inr fun e2 => ?_
    have h1 := (h.row.lt q e).2
    have h2 := (k.row.lt q (by rw [← e2]; exact e)).1
    omega
set_option maxRecDepth 100000 in
set_option maxHeartbeats 2000000 in
theorem split_prog (tf : Nat) (lb : Array Value) (eT : ∀ args w, (callFunc tf args).run Try.prog w = .ok (.enter tf args) w) (p : Lef → Bool) (xs : List Cls) (b off C : Nat) (g : List Prt) (G : GoodG xs g) (w : World) (hG : Sl w (some ⟨b, off, none⟩) g.length C g)
    (hT : ∀ (x : Lef) (W : World), x ∈ leavesL g → Le w W → Calls Try.prog tf (#[.agg #[.int .i64 x.cls, .int .i64 x.code]] ++ lb) W fun e W' => e = .returned (.bool (p x)) ∧ Le W W') :
    Calls Try.prog 37 #[.slice (some ⟨b, off, none⟩) g.length C, .func (.func tf) #[] lb] w (SpOut w (selK (keepsAt (fun q => p ⟨q.cls, q.code⟩) g) g g.length) (selK (keepsAt (fun q => !p ⟨q.cls, q.code⟩) g) g g.length)) := by
  have bT := Boxed.new w 64 (.func (.func tf) #[] lb)
  have cT := bT.cell
  have hl := Le.new w (.cells #[.func (.func tf) #[] lb] 64)
  go_enter Try.func37, Try.ntmps37
  go_wp2_with fail
  generalize w.alloc (.cells #[.func (.func tf) #[] lb] 64) = w1 at *
  refine (keep_prog tf lb eT p xs b off C g G w1 (hG.le hl) (fun x W hx hW => hT x W hx (hl.trans hW))).mono ?_
  rintro e w4 ⟨v, rfl, O1, hle⟩
  have HO1 := Lib.hid O1
  have bT4 := boxed_le bT hle
  have hl4 := hl.trans hle
  clear O1
  go_wp2_with fail
  refine (keep_prog 63 #[.pointer (some ⟨w.heap.size, 0, none⟩)] (enters_of Try.func63 (by kernel_rfl) rfl) (fun x => !p x) xs b off C g G w4 (hG.le hl4) (fun x W hx hW => splitNot_any tf lb eT p _ x W (boxed_le bT4 hW) (fun W' hW' => hT x W' hx ((hl4.trans hW).trans hW')))).mono ?_
  rintro e w6 ⟨u, rfl, O2, hle6⟩
  have HS : Hid (SpOut w (selK (keepsAt (fun q => p ⟨q.cls, q.code⟩) g) g g.length) (selK (keepsAt (fun q => !p ⟨q.cls, q.code⟩) g) g g.length) (.returned (.tuple #[v, u])) w6) := ⟨v, u, rfl, (HO1.out.mono hl).le hle6, O2.mono hl4, apart_base HO1.out O2, hl4.trans hle6⟩
  clear O2
  go_wp2
  go_ret2
  exact HS.out
theorem tS_yes (xs : List Cls) (a : Int) : tS xs a true = fun q => isAL xs q.cls a := by funext q; unfold tS; cases isAL xs q.cls a <;> rfl
theorem tS_no (xs : List Cls) (a : Int) : tS xs a false = fun q => !isAL xs q.cls a := by funext q; unfold tS; cases isAL xs q.cls a <;> rfl
/-- the parts of a group with leaves of a class, and those with others -/
def spX (xs : List Cls) (g : List Prt) (a : Int) (wi : Bool) : List Prt := cond (gOkS xs g && hasK xs a) (selK (keepsAt (tS xs a wi) g) g g.length) []
theorem spX_of {xs : List Cls} {g : List Prt} {a : Int} {c : Bool} (h : (gOkS xs g && hasK xs a) = c) (wi : Bool) : spX xs g a wi = cond c (selK (keepsAt (tS xs a wi) g) g g.length) [] := by unfold spX; rw [h]
theorem spX_len (xs : List Cls) (g : List Prt) (a : Int) (wi : Bool) : (spX xs g a wi).length ≤ 1048576 := by
  cases h : gOkS xs g && hasK xs a
  · rw [spX_of h]; simp
  · have h1 : gOkS xs g = true := by cases e : gOkS xs g; rw [e] at h; cases h; rfl
    have := gOkS_len h1
    have h2 := selK_len (keepsAt (tS xs a wi) g) g g.length
    rw [spX_of h]; show (selK _ _ _).length ≤ _; omega
end

section
open Go.RowKit Go.Shelf
set_option maxRecDepth 100000 in
set_option maxHeartbeats 2000000 in
theorem sSplitGroup_any (A B : Option Addr) (n cap m c : Nat) (xs : List Cls) (g : List Prt) (a : Int) (w : World) (hT : Sl w A n cap xs) (hG : Sl w B m c g) :
    Calls Try.prog 12 #[.agg #[.slice A n cap], .slice B m c, .int .i64 a] w (SpOut w (spX xs g a true) (spX xs g a false)) := by
  obtain ⟨c0, z0, hl⟩ := box1 w (.slice A n cap) 25
  have hS := hT.le hl
  have hG1 := hG.le hl
  go_enter Try.func12, Try.ntmps12
  go_wp2_with fail
  generalize w.alloc (.cells #[.slice A n cap] 25) = w1 at *
  refine (validGroup_any _ _ _ _ _ _ xs g _ hS hG1).mono ?_
  rintro e w2 ⟨rfl, hle⟩
  have hS2 := hS.le hle
  have hG2 := hG1.le hle
  have hLL := hl.trans hle
  have d0 := (hle.cell z0).trans c0
  cases hg : gOkS xs g
  · have HX := Lib.hid (spX_of (a := a) (c := false) (by rw [hg]; rfl) true)
    have HY := Lib.hid (spX_of (a := a) (c := false) (by rw [hg]; rfl) false)
    clear hg
    go_wp2
    go_ret2
    exact ⟨_, _, rfl, by rw [HX.out]; exact Owd.nil _ _ _, by rw [HY.out]; exact Owd.nil _ _ _, .inl rfl, hLL⟩
  · have HG := Lib.hid hg
    have G := goodG_of (by rw [← gOk_same]; exact hg)
    clear hg
    cases hk : hasK xs a
    · have HX := Lib.hid (spX_of (xs := xs) (g := g) (a := a) (c := false) (by rw [HG.out, hk]; rfl) true)
      have HY := Lib.hid (spX_of (xs := xs) (g := g) (a := a) (c := false) (by rw [HG.out, hk]; rfl) false)
      go_wp2_with (go_at_call 40; refine (hasClass_any A n cap xs a _ hS2).mono ?_; rintro e w3 ⟨rfl, hle3⟩; rw [hk])
      go_ret2
      exact ⟨_, _, rfl, by rw [HX.out]; exact Owd.nil _ _ _, by rw [HY.out]; exact Owd.nil _ _ _, .inl rfl, hLL.trans hle3⟩
    · have HX := Lib.hid (spX_of (xs := xs) (g := g) (a := a) (c := true) (by rw [HG.out, hk]; rfl) true)
      have HY := Lib.hid (spX_of (xs := xs) (g := g) (a := a) (c := true) (by rw [HG.out, hk]; rfl) false)
      go_wp2_with (go_at_call 40; refine (hasClass_any A n cap xs a _ hS2).mono ?_; rintro e w3 ⟨rfl, hle3⟩; rw [hk]; have d3 := (hle3.cell (Nat.lt_of_lt_of_le z0 hle.size)).trans d0)
      refine (split_any _ _ _ _ _ _ xs g G a _ (hS2.le hle3) (hG2.le hle3)).mono ?_
      rintro e w4 ⟨v, u, rfl, O1, O2, AP, hle4⟩
      have HS : Hid (SpOut w (spX xs g a true) (spX xs g a false) (.returned (.tuple #[v, u])) w4) := ⟨v, u, rfl, by rw [HX.out]; exact O1.mono (hLL.trans hle3), by rw [HY.out]; exact O2.mono (hLL.trans hle3), AP, (hLL.trans hle3).trans hle4⟩
      clear O1 O2 AP
      go_wp2
      go_ret2
      exact HS.out
set_option maxRecDepth 100000 in
set_option maxHeartbeats 2000000 in
theorem iSplitGroup_any (A B : Option Addr) (n cap m c : Nat) (xs : List Cls) (g : List Prt) (a : Int) (w : World) (hT : Sl w A n cap xs) (hG : Sl w B m c g) :
    Calls Try.prog 11 #[.agg #[.slice A n cap], .slice B m c, .int .i64 a] w (SpOut w (spX xs g a true) (spX xs g a false)) := by
  obtain rfl := hG.len
  obtain ⟨c0, z0, hl⟩ := box1 w (.slice A n cap) 25
  have hS := hT.le hl
  have hG1 := hG.le hl
  go_enter Try.func11, Try.ntmps11
  go_wp2_with fail
  generalize w.alloc (.cells #[.slice A n cap] 25) = w1 at *
  refine (nodesOf_any A n cap xs _ hS).mono ?_
  intro e w2 hout
  obtain ⟨hle, A2, n2, gs, rfl, hS2, hcase⟩ := nodes_one hout
  have hS1 := hS.le hle
  have hG2 := hG1.le hle
  have hLL := hl.trans hle
  have d0 := (hle.cell z0).trans c0
  clear hout
  go_wp2_with fail
  refine (nodeAt_any _ _ _ gs a _ hS2).mono ?_
  rintro e w3 ⟨rfl, rfl⟩
  by_cases hno : (okTree xs && hasK xs a) = true
  · have hab : okTree xs = true ∧ hasK xs a = true := by simpa using hno
    have g0 := good_of hab.1
    rcases hcase with ⟨h0, _⟩ | ⟨h1, rfl, hN⟩
    · rw [hab.1] at h0; cases h0
    · rcases ptr_cases hN.len a with ⟨h2, _⟩ | ⟨_, j, hj, rfl, hp⟩
      · rw [hab.2] at h2; cases h2
      · rw [hp]
        have HK := Lib.hid hab.2
        clear hab hno h1 hp
        go_wp2_with fail
        refine (iValidGroupS_any _ _ _ _ _ _ xs g _ hS1 hG2).mono ?_
        rintro e w3 ⟨rfl, hle3⟩
        have hS3 := hS2.le hle3
        have hG3 := hG2.le hle3
        have hN3 := hN.le hle3
        have hL3 := hLL.trans hle3
        cases hg : gOkS xs g
        · have HX := Lib.hid (spX_of (a := (j : Int)) (c := false) (by rw [hg]; rfl) true)
          have HY := Lib.hid (spX_of (a := (j : Int)) (c := false) (by rw [hg]; rfl) false)
          clear hg
          go_wp2
          go_ret2
          exact ⟨_, _, rfl, by rw [HX.out]; exact Owd.nil _ _ _, by rw [HY.out]; exact Owd.nil _ _ _, .inl rfl, hL3⟩
        · have HX := Lib.hid (spX_of (a := (j : Int)) (c := true) (by rw [hg, HK.out]; rfl) true)
          have HY := Lib.hid (spX_of (a := (j : Int)) (c := true) (by rw [hg, HK.out]; rfl) false)
          have G := goodG_of (by rw [← gOk_same]; exact hg)
          have GL := good_leaf G
          have h0 : 0 < g.length := by have := G.len; omega
          obtain ⟨bz, oz, rfl, -, -⟩ := hG.prt_at h0
          clear hg
          go_wp2_with fail
          refine (caughtLeaf_any _ _ _ _).mono ?_
          rintro e w4 ⟨rfl, rfl⟩
          obtain ⟨b0, y0, b1, y1, hl5⟩ := box2 w3 (.slice A2 xs.length xs.length) (.iface 61 (.pointer (some ⟨gs[j].g, 0, none⟩))) 59 95
          have hS5 := hS3.le hl5
          have hG5 := hG3.le hl5
          have hN5 := hN3.le hl5
          have hL5 := hL3.trans hl5
          generalize (w3.alloc (.cells #[.slice A2 xs.length xs.length] 59)).alloc (.cells #[.iface 61 (.pointer (some ⟨gs[j].g, 0, none⟩))] 95) = w5 at *
          have HSP := split_prog 64 #[.pointer (some ⟨w3.heap.size + 1, 0, none⟩), .pointer (some ⟨w3.heap.size, 0, none⟩)] (enters_of Try.func64 (by kernel_rfl) rfl) (fun x => isAL xs x.cls j) xs bz oz c g G w5 hG5 (fun x W hx hW => caughtLeaf1_any _ _ A2 gs xs g0 j hj x.cls x.code (GL x hx).1 (GL x hx).2 W (hS5.le hW) (hN5.le hW) ((hW.cell y1).trans b1) ((hW.cell y0).trans b0) (Nat.lt_of_lt_of_le y1 hW.size) (Nat.lt_of_lt_of_le y0 hW.size))
          go_wp2_with fail
          refine HSP.mono ?_
          rintro e w6 ⟨v, u, rfl, O1, O2, AP, hle6⟩
          have HS : Hid (SpOut w (spX xs g j true) (spX xs g j false) (.returned (.tuple #[v, u])) w6) := ⟨v, u, rfl, by rw [HX.out, tS_yes]; exact O1.mono hL5, by rw [HY.out, tS_no]; exact O2.mono hL5, AP, hL5.trans hle6⟩
          clear O1 O2 AP
          go_wp2
          go_ret2
          exact HS.out
  · have h1 : (okTree xs && hasK xs a) = false := by simpa using hno
    have hz : (gOkS xs g && hasK xs a) = false := by
      unfold gOkS
      cases e1 : okTree xs
      · simp
      · rw [e1] at h1
        have : hasK xs a = false := by simpa using h1
        rw [this]; simp
    have HX := Lib.hid (spX_of hz true)
    have HY := Lib.hid (spX_of hz false)
    have hp : ptrOf gs a = none := by
      rcases hcase with ⟨h0, _, rfl⟩ | ⟨h0, _, hN⟩
      · exact ptrOf_nil a
      · rcases ptr_cases hN.len a with ⟨_, h⟩ | ⟨h, _⟩
        · exact h
        · rw [h0, h] at h1; cases h1
    rw [hp]
    clear hp hcase h1 hno hz
    go_wp2
    go_ret2
    exact ⟨_, _, rfl, by rw [HX.out]; exact Owd.nil _ _ _, by rw [HY.out]; exact Owd.nil _ _ _, .inl rfl, hLL⟩
end
end Go.Proofs.Ytpkkkpfanedieaa
