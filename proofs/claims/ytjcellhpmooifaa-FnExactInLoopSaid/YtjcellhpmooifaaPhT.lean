/- programs: indent and under of the model -/
import Derived.Test.YtjcellhpmooifaaPhR
import Derived.Test.YtjcellhpmooifaaBo
import Derived.Test.YtjcellhpmooifaaRg
import Derived.Deep.Cut
namespace Go.Proofs.Ytjcellhpmooifaa
open Go.RowKit
def indK (p : List Lin) (k : Nat) : List Lin := (p.take k).map deep ++ p.drop k
theorem indK_len {p : List Lin} {k : Nat} : (indK p k).length = p.length := by
  unfold indK; rw [List.length_append, List.length_map, ← List.length_append, List.take_append_drop]
theorem indK_at {p : List Lin} {k : Nat} (h : k < p.length) : (indK p k)[k]'(by rw [indK_len]; exact h) = p[k] := by
  unfold indK
  rw [List.getElem_append_right (by rw [List.length_map, List.length_take]; omega)]
  simp [Nat.min_eq_left (Nat.le_of_lt h)]
theorem indK_set {p : List Lin} {k : Nat} (h : k < p.length) : (indK p k).set k (deep p[k]) = indK p (k + 1) := by
  unfold indK
  have hl : ((p.take k).map deep).length = k := by rw [List.length_map, List.length_take]; omega
  rw [List.set_append_right _ _ (by omega), hl, Nat.sub_self, List.drop_eq_getElem_cons h, List.set_cons_zero, List.take_succ_eq_append_getElem h, List.map_append, List.append_assoc]; rfl
theorem indK_0 (p : List Lin) : indK p 0 = p := by unfold indK; simp
theorem indK_end (p : List Lin) : indK p p.length = p.map deep := by unfold indK; simp
theorem own_head {w : World} {base e size m : Nat} {v : Value} {xs : List Value} (h : w.ownsRow base e size v m xs) (hm : 0 < m) : ∃ g c, v = .slice (some ⟨g, 0, none⟩) m c := by
  rcases h.2 with ⟨_, h0⟩ | ⟨g, c, _, h, _⟩
  · omega
  · exact ⟨g, c, h⟩
set_option maxHeartbeats 2000000 in
set_option maxRecDepth 100000 in
theorem indent_any (A : Option Addr) (n cap : Nat) (p : List Lin) (hsm : p.length ≤ 1048576) (h0 : 0 < p.length) (hd : ∀ x ∈ p, x.depth ≤ 5) (w : World) (hR : Sl w A n cap p) :
    Calls Try.prog 111 #[.slice A n cap] w fun e w' => ∃ v, e = .returned v ∧ Owd 67 w w' v (p.map deep) ∧ Le w w' := by
  obtain rfl := hR.len
  obtain ⟨i0, hq, hz0, hz1, hz2⟩ := info_parts infoLn
  have HOK : Hid (∀ x ∈ p.map deep, Enc.ok x) := fun x hx => by
    obtain ⟨y, hy, rfl⟩ := List.mem_map.1 hx
    exact deep_ok (hR.ok y hy) (hd y hy)
  have HD := Lib.hid hd
  have HRO := Lib.hid hR.ok
  clear hd
  go_enter Try.func111, Try.ntmps111
  have OE : (w.alloc (.cells #[] 67)).ownsRow w.heap.size 67 4 (.slice (some ⟨w.heap.size, 0, none⟩) 0 0) 0 [] := own_empty (Nat.le_refl _) rfl
  have L0 := Le.new w (.cells #[] 67)
  go_wp2_with (at_builtin; refine wpList_append_sl rfl _ _ 33 rfl w.heap.size 67 i0 _ 32 Try.underlying33 hq hz0 hz1 hz2 rfl (.slice (some ⟨w.heap.size, 0, none⟩) 0 0) 0 ([] : List Lin) rfl OE A p.length cap p rfl (hR.le L0) (by unfold maxLen; omega) (by omega) L0.size ?_; intro v1 w3 OA hgA _; have LA := L0.grown hgA (fun k hk => (OE.lt k hk).1); rw [Nat.zero_add, List.nil_append] at OA; obtain ⟨g, c3, rfl⟩ := own_head OA h0)
  clear OE L0 hgA
  have hgl := (OA.lt g rfl).1
  have O1 : w3.ownsRow w.heap.size 67 4 (.slice (some ⟨g, 0, none⟩) p.length c3) p.length ((indK p 0).flatMap Enc.cells) := by rw [indK_0]; exact OA
  clear OA
  go_loopw [4] (fun q wr => ∃ k : Nat, k ≤ p.length ∧ q = .int .i64 k ∧ wr.ownsRow w.heap.size 67 4 (.slice (some ⟨g, 0, none⟩) p.length c3) p.length ((indK p k).flatMap Enc.cells) ∧ Le w wr) (fun q _ => p.length - (intOf q).toNat)
  case atStart => exact ⟨0, Nat.zero_le _, rfl, O1, LA⟩
  case round =>
    obtain ⟨k, hk, rfl, O2, L2⟩ := hrel
    clear O1 LA
    by_cases hlt : k < p.length
    · have hik := indK_len (p := p) (k := k)
      have hdk := HD.out _ (List.getElem_mem hlt)
      have hlo := (HRO.out _ (List.getElem_mem hlt)).1
      have c0 : wr.cell? ⟨g, k * 4, none⟩ = some (.int .i64 p[k].depth) := by
        rw [O2.cellAt (k * 4) (by omega), show ((indK p k).flatMap (Enc.cells (α := Lin)))[k * 4]? = _ from by simpa [Enc.size] using flat_at (indK p k) k (by omega) 0 (by decide), indK_at hlt]; rfl
      have f0 := O2.frozenAt (k * 4)
      have HS : Hid ((wr.setCell ⟨g, k * 4, none⟩ (.int .i64 (p[k].depth + 1))).ownsRow w.heap.size 67 4 (.slice (some ⟨g, 0, none⟩) p.length c3) p.length ((indK p (k + 1)).flatMap Enc.cells)) := by
        show World.ownsRow _ _ _ _ _ _ _
        have := (O2.stored (k * 4) (.int .i64 (p[k].depth + 1))).1
        rw [flat_lin_depth _ k (by omega)] at this
        simp only [indK_at hlt] at this
        rw [← indK_set hlt]
        exact this
      have hw1 : IntKind.i64.wrap (p[k].depth + 1) = p[k].depth + 1 := IntWalk.i64_in _ (by omega)
      generalize p[k].depth = vd at *
      go_wp2
      go_roundw
      case rel => exact ⟨k + 1, by omega, by go_num, HS.out, L2.setCell hgl _⟩
      case measure => simp [intOf]; omega
    · obtain rfl : k = p.length := by omega
      have HF : Hid (Owd 67 w wr (.slice (some ⟨g, 0, none⟩) p.length c3) (p.map deep)) := by
        rw [indK_end] at O2
        exact ⟨by rw [List.length_map]; exact O2, HOK.out⟩
      go_wp2
      go_ret
      exact ⟨_, rfl, HF.out, L2⟩
theorem zero_ok : Enc.ok (⟨0, 0, 0, 0⟩ : Lin) := ⟨by decide, by decide, by decide, by decide, by decide, by decide, by decide, by decide⟩
theorem box4c (w : World) (a b c d : Value) (T : TypeId) (W' : World) (h : Le (w.alloc (.cells #[a, b, c, d] T)) W') : W'.cell? ⟨w.heap.size, 0, none⟩ = some a ∧ W'.cell? ⟨w.heap.size, 1, none⟩ = some b ∧ W'.cell? ⟨w.heap.size, 2, none⟩ = some c ∧ W'.cell? ⟨w.heap.size, 3, none⟩ = some d := by
  refine ⟨?_, ?_, ?_, ?_⟩ <;> (rw [h.cell (by simp), World.cell?_alloc_at _ _ _ _ rfl]; rfl)
theorem own_one (w : World) (h : Lin) {b : Nat} (hb : b ≤ w.heap.size) : (w.alloc (.cells #[.int .i64 h.depth, .int .i64 h.kind, .int .i64 h.a, .int .i64 h.b] 67)).ownsRow b 67 4 (.slice (some ⟨w.heap.size, 0, none⟩) 1 1) 1 ([h].flatMap Enc.cells) := by
  have := World.ownsRow_lit (base := b) (e := 67) (size := 4) w #[.int .i64 h.depth, .int .i64 h.kind, .int .i64 h.a, .int .i64 h.b] 1 hb (by unfold maxLen; omega) (by simp)
  simpa [Enc.cells] using this
set_option maxHeartbeats 2000000 in
set_option maxRecDepth 100000 in
theorem sunder_any (h : Lin) (A : Option Addr) (n cap : Nat) (p : List Lin) (hsm : p.length ≤ 1048000) (hh : Enc.ok h) (hd : ∀ x ∈ p, x.depth ≤ 5) (w : World) (hR : Sl w A n cap p) :
    Calls Try.prog 71 #[.agg #[.int .i64 h.depth, .int .i64 h.kind, .int .i64 h.a, .int .i64 h.b], .slice A n cap] w fun e w' => ∃ v, e = .returned v ∧ Owd 67 w w' v (undL h p) ∧ Le w w' := by
  obtain rfl := hR.len
  obtain ⟨i0, hq, hz0, hz1, hz2⟩ := info_parts infoLn
  have HOK := Lib.hid (undL_ok hh hR.ok hd)
  have HD := Lib.hid hd
  clear hd
  have HCE : Hid (∀ W' : World, Le (w.alloc (.cells #[.int .i64 h.depth, .int .i64 h.kind, .int .i64 h.a, .int .i64 h.b] 67)) W' → W'.cell? ⟨w.heap.size, 0, none⟩ = some (.int .i64 h.depth) ∧ W'.cell? ⟨w.heap.size, 1, none⟩ = some (.int .i64 h.kind) ∧ W'.cell? ⟨w.heap.size, 2, none⟩ = some (.int .i64 h.a) ∧ W'.cell? ⟨w.heap.size, 3, none⟩ = some (.int .i64 h.b)) := fun W' h' => box4c w _ _ _ _ _ W' h'
  have L00 := Le.new w (.cells #[.int .i64 h.depth, .int .i64 h.kind, .int .i64 h.a, .int .i64 h.b] 67)
  have hs0 : w.heap.size ≤ (w.alloc (.cells #[.int .i64 h.depth, .int .i64 h.kind, .int .i64 h.a, .int .i64 h.b] 67)).heap.size := L00.size
  have hR0 := hR.le L00
  go_enter Try.func71, Try.ntmps71
  generalize hW0 : w.alloc (.cells #[.int .i64 h.depth, .int .i64 h.kind, .int .i64 h.a, .int .i64 h.b] 67) = W0 at *
  have HLZ := Lib.hid (Le.new W0 (.cells #[.int .i64 0, .int .i64 0, .int .i64 0, .int .i64 0] 67))
  have HSA : Hid (Sl (W0.alloc (.cells #[.int .i64 0, .int .i64 0, .int .i64 0, .int .i64 0] 67)) (some ⟨W0.heap.size, 0, none⟩) 1 1 [(⟨0, 0, 0, 0⟩ : Lin)]) := sl_one (⟨0, 0, 0, 0⟩ : Lin) rfl zero_ok rfl
  go_upto_if 7 with fail
  go_cut [1] from 8 (fun s1 W1 => ∃ (A1 : Option Addr) (k1 : Nat) (P : List Lin), s1 = .slice A1 P.length k1 ∧ Sl W1 A1 P.length k1 P ∧ 0 < P.length ∧ P.length ≤ 1048000 ∧ (∀ x ∈ P, x.depth ≤ 5) ∧ undL h p = [h] ++ P.map deep ∧ Le W0 W1)
  case first =>
    by_cases hp0 : p.length = 0
    · have hp0b : ((p.length : Int) == 0) = true := by (rw [beq_iff_eq]; omega)
      have HU : Hid (undL h p = [h] ++ [(⟨0, 0, 0, 0⟩ : Lin)].map deep) := by
        show _ = _
        rw [show p = [] from List.eq_nil_of_length_eq_zero hp0]; rfl
      clear hp0
      go_wp2_with fail
      go_meet
      exact ⟨_, _, [(⟨0, 0, 0, 0⟩ : Lin)], rfl, HSA.out, by decide, by decide, by decide, HU.out, HLZ.out⟩
    · have hp0b : ((p.length : Int) == 0) = false := bf (by omega)
      have HU : Hid (undL h p = [h] ++ p.map deep) := undL_some (by omega)
      go_wp2_with fail
      go_meet
      exact ⟨_, _, p, rfl, hR0, by omega, hsm, HD.out, HU.out, Le.refl _⟩
  case rest =>
    obtain ⟨A1, k1, P, rfl, SA, hP0, hPL, hPD, hU, LW⟩ := hcut
    generalize wc = W1 at *
    have HPD := Lib.hid hPD
    have HU := Lib.hid hU
    clear hPD hU hR hR0 HSA HLZ HD
    have h63 : 1 + P.length ≤ maxLen := by unfold maxLen; omega
    have hby : (1 + P.length) * 32 ≤ 140737488355328 := by omega
    have HPML : Hid ((P.map deep).length = P.length) := List.length_map ..
    have HF : Hid (∀ (v : Value) (wx : World), wx.ownsRow W0.heap.size 67 4 v (1 + P.length) (([h] ++ P.map deep).flatMap Enc.cells) → Owd 67 w wx v (undL h p)) := fun v wx hx => ⟨own_mono (by rw [HU.out, show ([h] ++ P.map deep).length = 1 + P.length by simp; omega]; exact hx) hs0, HOK.out⟩
    have L1 : Le W0 W1.drew := LW.drew
    have LB1 := Le.new W1 (.cells #[.int .i64 h.depth, .int .i64 h.kind, .int .i64 h.a, .int .i64 h.b] 67)
    have OB := own_one W1 h (b := W0.heap.size) LW.size
    obtain ⟨WB, hWB⟩ : ∃ WB, W1.alloc (.cells #[.int .i64 h.depth, .int .i64 h.kind, .int .i64 h.a, .int .i64 h.b] 67) = WB := ⟨_, rfl⟩
    rw [hWB] at OB LB1
    have LB2 : Le W1.drew WB.drew := by rw [← hWB]; exact Le.new W1.drew _
    have OB2 := OB.drew
    have SA1 := SA.le (Le.refl W1).drew
    have SB := SA1.le LB2
    have LWB := L1.trans LB2
    clear OB LB1 SA
    go_wp2_with fail
    refine wp_region_noPanic ?_
    refine wp_region_held_drew (S := fun w' => w'.cell? ⟨w.heap.size, 0, none⟩ = some (.int .i64 h.depth) ∧ w'.cell? ⟨w.heap.size, 1, none⟩ = some (.int .i64 h.kind) ∧ w'.cell? ⟨w.heap.size, 2, none⟩ = some (.int .i64 h.a) ∧ w'.cell? ⟨w.heap.size, 3, none⟩ = some (.int .i64 h.b)) (by kernel_rfl) (HCE.out _ L1) (fun hHeld => ?_)
    refine wpAnyH_takeL (i := 0) (v := ?_) rfl (by kernel_rfl) (by kernel_rfl) (by kernel_rfl) (fun _ _ _ h => h) (Or.inl ⟨by rfl, ?_⟩) (by assumption) ?_
    rotate_left 1
    · (intro w hSw; (try dsimp only at hSw); go_simp; try with_reducible rfl)
    try simp only [Act.put, List.setIfInBounds_toArray, List.set_cons_zero, List.set_cons_succ]
    refine wpAnyH_takeL (i := 2) (v := ?_) rfl (by kernel_rfl) (by kernel_rfl) (by kernel_rfl) (fun _ _ _ h => h) (Or.inl ⟨by rfl, ?_⟩) (by assumption) ?_
    rotate_left 1
    · (intro w hSw; (try dsimp only at hSw); go_simp; try with_reducible rfl)
    try simp only [Act.put, List.setIfInBounds_toArray, List.set_cons_zero, List.set_cons_succ]
    refine wpAnyH_ready (rs := [1, 3]) (by kernel_rfl) (by simp) (AllReadyH.consL (i := 1) rfl (fun K hK => ?_) (AllReadyH.consL (i := 3) rfl (fun K hK => ?_) AllReadyH.nil))
    · go_simp
      refine hK.out _ _ ((HCE.out _ LWB)) (fun hHeld => ?_)
      clear hK K
      try simp only [Act.put, List.setIfInBounds_toArray, List.set_cons_zero, List.set_cons_succ]
      refine wpAnyH_ready (rs := [3]) (by kernel_rfl) (by simp) (AllReadyH.consL (i := 3) rfl (fun K hK => ?_) AllReadyH.nil)
      go_simp
      go_at_call 111
      refine (indent_any A1 P.length k1 P (by omega) hP0 HPD.out _ SB).mono ?_
      rintro e w3 ⟨v3, rfl, D3, hle⟩
      have L3 := LWB.trans hle
      have O3 := own_le OB2 hle
      obtain ⟨A3, q3, rfl, S3, hB3⟩ := D3.form (by decide)
      rw [HPML.out] at S3 ⊢
      refine hK.out _ _ ((HCE.out _ L3)) (fun hHeld => ?_)
      clear hK K
      try simp only [Act.put, List.setIfInBounds_toArray, List.set_cons_zero, List.set_cons_succ]
      refine wpAnyH_ready (rs := [4]) (by kernel_rfl) (by simp) (AllReadyH.consL (i := 4) rfl (fun K hK => ?_) AllReadyH.nil)
      refine step_append_sl rfl (.tmp 11) (.tmp 13) 33 rfl W0.heap.size 67 i0 _ 32 Try.underlying33 hq hz0 hz1 hz2 rfl (.slice (some ⟨W1.heap.size, 0, none⟩) 1 1) 1 [h] rfl O3 A3 P.length q3 (P.map deep) rfl S3 h63 hby L3.size ?_
      intro v4 w4 O4 hg4 _
      have L4 := L3.grown hg4 (fun k hk => (O3.lt k hk).1)
      refine hK.out _ _ ((HCE.out _ L4)) (fun hHeld => ?_)
      clear hK K
      try simp only [Act.put, List.setIfInBounds_toArray, List.set_cons_zero, List.set_cons_succ]
      refine wpAnyH_takeL (i := 5) (v := ?_) rfl (by kernel_rfl) (by kernel_rfl) (by kernel_rfl) (fun _ _ _ h => h) (Or.inl ⟨by rfl, ?_⟩) (by assumption) ?_
      rotate_left 1
      · (intro w hSw; (try dsimp only at hSw); go_simp; try with_reducible rfl)
      try simp only [Act.put, List.setIfInBounds_toArray, List.set_cons_zero, List.set_cons_succ]
      refine wpAnyH_done (by kernel_rfl) ?_ _
      refine NoPanic.normal ?_
      go_wp2
      go_ret
      exact ⟨_, rfl, HF.out _ _ O4, L00.trans L4⟩
    · go_simp
      go_at_call 111
      refine (indent_any A1 P.length k1 P (by omega) hP0 HPD.out _ SA1).mono ?_
      rintro e w3 ⟨v3, rfl, D3, hle⟩
      have L3 := L1.trans hle
      obtain ⟨A3, q3, rfl, S3, hB3⟩ := D3.form (by decide)
      rw [HPML.out] at S3 ⊢
      have LC1 := Le.new w3 (.cells #[.int .i64 h.depth, .int .i64 h.kind, .int .i64 h.a, .int .i64 h.b] 67)
      have OC := own_one w3 h (b := W0.heap.size) L3.size
      obtain ⟨WC, hWC⟩ : ∃ WC, w3.alloc (.cells #[.int .i64 h.depth, .int .i64 h.kind, .int .i64 h.a, .int .i64 h.b] 67) = WC := ⟨_, rfl⟩
      rw [hWC] at OC LC1
      have L4 := L3.trans LC1
      have S4 := S3.le LC1
      refine hK.out _ _ ((HCE.out _ L3)) (fun hHeld => ?_)
      clear hK K
      try simp only [Act.put, List.setIfInBounds_toArray, List.set_cons_zero, List.set_cons_succ]
      refine wpAnyH_ready (rs := [1]) (by kernel_rfl) (by simp) (AllReadyH.consL (i := 1) rfl (fun K hK => ?_) AllReadyH.nil)
      go_simp
      refine hK.out _ _ ((HCE.out _ L4)) (fun hHeld => ?_)
      clear hK K
      try simp only [Act.put, List.setIfInBounds_toArray, List.set_cons_zero, List.set_cons_succ]
      refine wpAnyH_ready (rs := [4]) (by kernel_rfl) (by simp) (AllReadyH.consL (i := 4) rfl (fun K hK => ?_) AllReadyH.nil)
      refine step_append_sl rfl (.tmp 11) (.tmp 13) 33 rfl W0.heap.size 67 i0 _ 32 Try.underlying33 hq hz0 hz1 hz2 rfl (.slice (some ⟨w3.heap.size, 0, none⟩) 1 1) 1 [h] rfl OC A3 P.length q3 (P.map deep) rfl S4 h63 hby L4.size ?_
      intro v4 w4 O4 hg4 _
      have L5 := L4.grown hg4 (fun k hk => (OC.lt k hk).1)
      refine hK.out _ _ ((HCE.out _ L5)) (fun hHeld => ?_)
      clear hK K
      try simp only [Act.put, List.setIfInBounds_toArray, List.set_cons_zero, List.set_cons_succ]
      refine wpAnyH_takeL (i := 5) (v := ?_) rfl (by kernel_rfl) (by kernel_rfl) (by kernel_rfl) (fun _ _ _ h => h) (Or.inl ⟨by rfl, ?_⟩) (by assumption) ?_
      rotate_left 1
      · (intro w hSw; (try dsimp only at hSw); go_simp; try with_reducible rfl)
      try simp only [Act.put, List.setIfInBounds_toArray, List.set_cons_zero, List.set_cons_succ]
      refine wpAnyH_done (by kernel_rfl) ?_ _
      refine NoPanic.normal ?_
      go_wp2
      go_ret
      exact ⟨_, rfl, HF.out _ _ O4, L00.trans L5⟩
end Go.Proofs.Ytjcellhpmooifaa
