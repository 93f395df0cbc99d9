/- tables: TableOf of the model -/
import Derived.Test.YtjcellhpmooifaaPhZ
import Derived.Test.YtjcellhpmooifaaPhJ
import Derived.Test.YtjcellhpmooifaaRg
namespace Go.Proofs.Ytjcellhpmooifaa
open Go.RowKit
set_option maxHeartbeats 2000000 in
set_option maxRecDepth 100000 in
theorem stableOf_any (A : Option Addr) (n cap : Nat) (p : List Lin) (hp : p.length ≤ 24) (H : triesI p) (w : World) (hR : Sl w A n cap p) :
    Calls Try.prog 85 #[.slice A n cap] w fun e w' => ∃ v, e = .returned v ∧ Owd 90 w w' v (tbD p p.length) ∧ Le w w' := by
  obtain ⟨i0, hq, hz0, hz1, hz2⟩ := info_parts infoRg
  obtain rfl := hR.len
  have HRO := Lib.hid hR.ok
  have HOK := Lib.hid (tbD_ok hR.ok (by omega) p.length (Nat.le_refl _))
  have HBD := Lib.hid (tb_bound hp)
  have HCP : Hid (∀ j, j < p.length → chain p j = parts p j) := fun j hj => chain_parts H hj
  clear H
  have hwn : IntKind.i64.wrap ((p.length : Int) - 1) = (p.length : Int) - 1 := IntWalk.i64_in _ (by omega)
  have OE : (w.alloc (.cells #[] 90)).ownsRow w.heap.size 90 4 (.slice (some ⟨w.heap.size, 0, none⟩) 0 0) 0 [] := own_empty (Nat.le_refl _) rfl
  have LE := Le.new w (.cells #[] 90)
  go_enter Try.func85, Try.ntmps85
  go_wp2
  have O0 : (w.alloc (.cells #[] 90)).ownsRow w.heap.size 90 4 (.slice (some ⟨w.heap.size, 0, none⟩) 0 0) (tbD p 0).length ((tbD p 0).flatMap Enc.cells) := OE
  go_loopw [3, 4, 5, 6] (fun v q _ _ wr => ∃ k : Nat, k ≤ p.length ∧ q = .int .i64 ((k : Int) - 1) ∧ wr.ownsRow w.heap.size 90 4 v (tbD p (p.length - k)).length ((tbD p (p.length - k)).flatMap Enc.cells) ∧ Le w wr) (fun _ q _ _ _ => (intOf q + 1).toNat)
  case atStart => exact ⟨p.length, Nat.le_refl _, rfl, by rw [Nat.sub_self]; exact O0, LE⟩
  case round =>
    obtain ⟨k, hk, rfl, O1, L⟩ := hrel
    have T := hR.le L
    have hLs := L.size
    clear O0 OE LE
    cases k with
    | zero =>
      have HF : Hid (∀ v, wr.ownsRow w.heap.size 90 4 v (tbD p (p.length - 0)).length ((tbD p (p.length - 0)).flatMap Enc.cells) → Owd 90 w wr v (tbD p p.length)) := fun v hv => ⟨hv, HOK.out⟩
      have hneg : ¬ (0 : Int) ≤ ((0 : Nat) : Int) - 1 := by omega
      go_wp2
      go_ret
      exact ⟨_, rfl, HF.out _ O1, L⟩
    | succ j =>
      have hjl : j < p.length := by omega
      have hkk : (((j + 1 : Nat) : Int) - 1) = (j : Int) := by omega
      have hj0 : (0 : Int) ≤ (j : Int) := by omega
      have hjn : (j : Int) < (p.length : Int) := by omega
      have hwj : IntKind.i64.wrap ((j : Int) - 1) = (j : Int) - 1 := IntWalk.i64_in _ (by omega)
      have hwj1 : IntKind.i64.wrap ((j : Int) + 1) = (j : Int) + 1 := IntWalk.i64_in _ (by omega)
      rw [hkk]
      have HST := Lib.hid (tb_step hjl)
      have hTl := HBD.out (p.length - (j + 1)) (by omega)
      have HAT : Hid (tbAt p j = if knd p j = 7 then (exL p j).map (rgL p j) else if knd p j = 11 ∧ lnB p j = 1 then [rgW p j] else []) := rfl
      have HKJ := Lib.hid (knd_at hjl)
      have HBJ := Lib.hid (lnB_at hjl)
      have HRL : Hid (∀ x, x < p.length → Enc.ok (rgL p j x)) := fun x hx => rgL_ok HRO.out hjl hx (by omega)
      have hokW : Enc.ok (⟨(j : Int) + 1, (bEnd p j : Int), (j : Int), 0⟩ : Rng) := rgW_ok hjl (by omega)
      generalize tbD p (p.length - (j + 1)) = TB at *
      obtain ⟨b, off, rfl, hbw, d0w, d1w, d2w, d3w, -⟩ := hR.lin_at hjl
      have hb := Nat.lt_of_lt_of_le hbw L.size
      have d1 := (L.cell hbw).trans d1w
      have d3 := (L.cell hbw).trans d3w
      clear d0w d2w d3w
      generalize p[j].kind = vk at *
      generalize p[j].b = vb at *
      by_cases h7 : vk = 7
      · subst h7
        have HN : Hid (tbD p (p.length - j) = TB ++ (exL p j).map (rgL p j)) := by show _ = _; rw [HST.out, HAT.out, if_pos HKJ.out]
        have HC1 : Hid (exL p j = exF p (parts p j)) := rfl
        have HPL := Lib.hid (parts_lt hjl)
        have hplen := parts_len p j
        have HP0 : Hid (exF p ((parts p j).take 1) = []) := by
          show _ = _
          have : (parts p j).take 1 = [j] := rfl
          rw [this]
          unfold exF
          rw [List.filter_cons, HKJ.out]; rfl
        clear HST HAT
        go_wp2_with fail
        refine (chainOf_any _ p.length cap p j hjl (by omega) wr T).mono ?_
        rintro e w3 ⟨v3, rfl, D3, hle3⟩
        rw [HCP.out j hjl] at D3
        obtain ⟨A3, q3, rfl, S3, hB3⟩ := D3.form (by decide)
        have HOL := Lib.hid (fun k hk => (O1.lt k hk).2)
        have O3 := own_le O1 hle3
        have L3 := L.trans hle3
        rw [nI_len] at S3 hB3 ⊢
        rw [HC1.out] at HN
        have hC1 : 1 ≤ (parts p j).length := by unfold parts; simp
        generalize parts p j = C at *
        have hA3 : ∀ a, A3 = some a → wr.heap.size ≤ a.block ∧ a.block < w3.heap.size := fun a ha => hB3 a.block (by rw [ha]; rfl)
        have HAP3 : Hid (∀ a, A3 = some a → Value.ownBlock u3 ≠ some a.block ∧ a.block < w3.heap.size) := fun a ha => ⟨fun e => by have := HOL.out _ e; have := (hA3 a ha).1; omega, (hA3 a ha).2⟩
        have O3b : w3.ownsRow w.heap.size 90 4 u3 (TB ++ (exF p (C.take 1)).map (rgL p j)).length ((TB ++ (exF p (C.take 1)).map (rgL p j)).flatMap Enc.cells) := by rw [HP0.out]; simpa using O3
        clear hB3 hA3 HOL D3 O1 O3 hle3 d1 d3
        go_wp2
        generalize wr = W0 at *
        go_loopw [3, 6] (fun v q wr => ∃ r : Nat, 1 ≤ r ∧ r ≤ C.length ∧ q = .int .i64 r ∧ wr.ownsRow w.heap.size 90 4 v (TB ++ (exF p (C.take r)).map (rgL p j)).length ((TB ++ (exF p (C.take r)).map (rgL p j)).flatMap Enc.cells) ∧ Le w wr ∧ Sl wr A3 C.length q3 (nI C) ∧ (∀ a, A3 = some a → v.ownBlock ≠ some a.block ∧ a.block < wr.heap.size)) (fun _ q _ => C.length - (intOf q).toNat)
        case atStart => exact ⟨1, Nat.le_refl _, hC1, rfl, O3b, L3, S3, HAP3.out⟩
        case round =>
          obtain ⟨r, hr1, hr, rfl, O4, L4, S34, hp3⟩ := hrel
          have HP3 := Lib.hid hp3
          have T4 := hR.le L4
          have hl4 := L4.size
          have hef := exF_take_len p C r
          have htl : (TB ++ (exF p (C.take r)).map (rgL p j)).length ≤ 600 + r := by rw [List.length_append, List.length_map]; omega
          clear O3b hp3 S3 HAP3
          by_cases hlr : r < C.length
          · obtain ⟨b5, off5, rfl, hb5, c5, -⟩ := S34.int_at (k := r) (by rw [nI_len]; exact hlr)
            rw [nI_at hlr] at c5
            have hx := HPL.out C[r] (List.getElem_mem hlr)
            obtain ⟨b6, off6, e6, hb6, -, k1, k2, -⟩ := T4.lin_at hx
            injection e6 with e6
            injection e6 with e61 e62
            subst e61
            subst e62
            have HKX := Lib.hid (knd_at hx)
            have HLX := Lib.hid (lnA_at hx)
            have HY1 := Lib.hid (exF_yes (p := p) hlr)
            have HY0 := Lib.hid (exF_no (p := p) hlr)
            have hokr := HRL.out C[r] hx
            have HRV : Hid (∀ x, rgL p j x = ⟨(j : Int) + 1, (bEnd p j : Int), (x : Int), lnA p x⟩) := fun x => rfl
            rw [HRV.out C[r], HLX.out] at hokr
            have HRX : Hid (rgL p j C[r] = ⟨(j : Int) + 1, (bEnd p j : Int), (C[r] : Int), p[C[r]].a⟩) := by show _ = _; rw [HRV.out, HLX.out]
            clear HLX
            generalize hxx : C[r] = x at *
            have HCX := Lib.hid hxx
            clear hxx
            generalize p[x].kind = xk at *
            generalize p[x].a = xa at *
            have hr0 : (0 : Int) ≤ (r : Int) := by omega
            have hrn : (r : Int) < (C.length : Int) := by omega
            have hx0 : (0 : Int) ≤ (x : Int) := by omega
            have hxn : (x : Int) < (p.length : Int) := by omega
            by_cases h8 : xk = 8
            · subst h8
              have HT : Hid (TB ++ (exF p (C.take (r + 1))).map (rgL p j) = (TB ++ (exF p (C.take r)).map (rgL p j)) ++ [(⟨(j : Int) + 1, (bEnd p j : Int), (x : Int), xa⟩ : Rng)]) := by
                show _ = _
                rw [HY1.out HKX.out, List.map_append, List.append_assoc, ← HRX.out]; rfl
              generalize TB ++ (exF p (C.take r)).map (rgL p j) = G at *
              clear HRX HY1 HY0
              have L4d := L4.drew
              have T4d := T4.le (Le.refl wr).drew
              have O4d := O4.drew
              have S4d := S34.le (Le.refl wr).drew
              have c5d : wr.drew.cell? ⟨b5, off5 + r, none⟩ = some (.int .i64 (x : Int)) := c5
              have k2d : wr.drew.cell? ⟨b, off + x * 4 + 2, none⟩ = some (.int .i64 xa) := k2
              go_wp2_with fail
              refine wp_region_noPanic ?_
              refine wp_region_held_drew (S := fun w' => w'.cell? ⟨b5, off5 + r, none⟩ = some (.int .i64 (x : Int)) ∧ w'.cell? ⟨b, off + x * 4 + 2, none⟩ = some (.int .i64 xa)) (by kernel_rfl) ⟨c5d, k2d⟩ (fun hHeld => ?_)
              refine wpAnyH_takeL (i := 0) (v := ?_) rfl (by kernel_rfl) (by kernel_rfl) (by kernel_rfl) (fun _ _ _ h => h) (Or.inl ⟨by rfl, ?_⟩) (by assumption) ?_
              rotate_left 1
              · (intro w hSw; (try dsimp only at hSw); go_simp; try with_reducible rfl)
              try simp only [Act.put, List.setIfInBounds_toArray, List.set_cons_zero, List.set_cons_succ]
              refine wpAnyH_takeL (i := 1) (v := ?_) rfl (by kernel_rfl) (by kernel_rfl) (by kernel_rfl) (fun _ _ _ h => h) (Or.inl ⟨by rfl, ?_⟩) (by assumption) ?_
              rotate_left 1
              · (intro w hSw; (try dsimp only at hSw); go_simp; try with_reducible rfl)
              try simp only [Act.put, List.setIfInBounds_toArray, List.set_cons_zero, List.set_cons_succ]
              refine wpAnyH_takeL (i := 2) (v := ?_) rfl (by kernel_rfl) (by kernel_rfl) (by kernel_rfl) (fun _ _ _ h => h) (Or.inl ⟨by rfl, ?_⟩) (by assumption) ?_
              rotate_left 1
              · (intro w hSw; (try dsimp only at hSw); go_simp; try with_reducible rfl)
              try simp only [Act.put, List.setIfInBounds_toArray, List.set_cons_zero, List.set_cons_succ]
              refine wpAnyH_takeL (i := 3) (v := ?_) rfl (by kernel_rfl) (by kernel_rfl) (by kernel_rfl) (fun _ _ _ h => h) (Or.inl ⟨by rfl, ?_⟩) (by assumption) ?_
              rotate_left 1
              · (intro w hSw; (try dsimp only at hSw); go_simp; try with_reducible rfl)
              try simp only [Act.put, List.setIfInBounds_toArray, List.set_cons_zero, List.set_cons_succ]
              refine wpAnyH_takeL (i := 4) (v := ?_) rfl (by kernel_rfl) (by kernel_rfl) (by kernel_rfl) (fun _ _ _ h => h) (Or.inl ⟨by rfl, ?_⟩) (by assumption) ?_
              rotate_left 1
              · (intro w hSw; (try dsimp only at hSw); go_simp; try with_reducible rfl)
              try simp only [Act.put, List.setIfInBounds_toArray, List.set_cons_zero, List.set_cons_succ]
              refine wpAnyH_takeL (i := 6) (v := ?_) rfl (by kernel_rfl) (by kernel_rfl) (by kernel_rfl) (fun _ _ _ h => h) (Or.inl ⟨by rfl, ?_⟩) (by assumption) ?_
              rotate_left 1
              · (intro w hSw; (try dsimp only at hSw); go_simp; try with_reducible rfl)
              try simp only [Act.put, List.setIfInBounds_toArray, List.set_cons_zero, List.set_cons_succ]
              refine wpAnyH_takeL (i := 7) (v := ?_) rfl (by kernel_rfl) (by kernel_rfl) (by kernel_rfl) (fun _ _ _ h => h) (Or.inl ⟨by rfl, ?_⟩) (by assumption) ?_
              rotate_left 1
              · (intro w hSw; (try dsimp only at hSw); go_simp; try with_reducible rfl)
              try simp only [Act.put, List.setIfInBounds_toArray, List.set_cons_zero, List.set_cons_succ]
              refine wpAnyH_takeL (i := 8) (v := ?_) rfl (by kernel_rfl) (by kernel_rfl) (by kernel_rfl) (fun _ _ _ h => h) (Or.inl ⟨by rfl, ?_⟩) (by assumption) ?_
              rotate_left 1
              · (intro w hSw; (try dsimp only at hSw); go_simp; try with_reducible rfl)
              try simp only [Act.put, List.setIfInBounds_toArray, List.set_cons_zero, List.set_cons_succ]
              refine wpAnyH_takeL (i := 9) (v := ?_) rfl (by kernel_rfl) (by kernel_rfl) (by kernel_rfl) (fun _ _ _ h => h) (Or.inl ⟨by rfl, ?_⟩) (by assumption) ?_
              rotate_left 1
              · (intro w hSw; (try dsimp only at hSw); go_simp; try with_reducible rfl)
              try simp only [Act.put, List.setIfInBounds_toArray, List.set_cons_zero, List.set_cons_succ]
              refine wpAnyH_takeL (i := 10) (v := ?_) rfl (by kernel_rfl) (by kernel_rfl) (by kernel_rfl) (fun _ _ _ h => h) (Or.inl ⟨by rfl, ?_⟩) (by assumption) ?_
              rotate_left 1
              · (intro w hSw; (try dsimp only at hSw); go_simp; try with_reducible rfl)
              try simp only [Act.put, List.setIfInBounds_toArray, List.set_cons_zero, List.set_cons_succ]
              refine wpAnyH_takeL (i := 11) (v := ?_) rfl (by kernel_rfl) (by kernel_rfl) (by kernel_rfl) (fun _ _ _ h => h) (Or.inl ⟨by rfl, ?_⟩) (by assumption) ?_
              rotate_left 1
              · (intro w hSw; (try dsimp only at hSw); go_simp; try with_reducible rfl)
              try simp only [Act.put, List.setIfInBounds_toArray, List.set_cons_zero, List.set_cons_succ]
              refine wpAnyH_takeL (i := 12) (v := ?_) rfl (by kernel_rfl) (by kernel_rfl) (by kernel_rfl) (fun _ _ _ h => h) (Or.inl ⟨by rfl, ?_⟩) (by assumption) ?_
              rotate_left 1
              · (intro w hSw; (try dsimp only at hSw); go_simp; try with_reducible rfl)
              try simp only [Act.put, List.setIfInBounds_toArray, List.set_cons_zero, List.set_cons_succ]
              refine wpAnyH_takeL (i := 13) (v := ?_) rfl (by kernel_rfl) (by kernel_rfl) (by kernel_rfl) (fun _ _ _ h => h) (Or.inl ⟨by rfl, ?_⟩) (by assumption) ?_
              rotate_left 1
              · (intro w hSw; (try dsimp only at hSw); go_simp; try with_reducible rfl)
              try simp only [Act.put, List.setIfInBounds_toArray, List.set_cons_zero, List.set_cons_succ]
              refine wpAnyH_takeL (i := 14) (v := ?_) rfl (by kernel_rfl) (by kernel_rfl) (by kernel_rfl) (fun _ _ _ h => h) (Or.inl ⟨by rfl, ?_⟩) (by assumption) ?_
              rotate_left 1
              · (intro w hSw; (try dsimp only at hSw); go_simp; try with_reducible rfl)
              try simp only [Act.put, List.setIfInBounds_toArray, List.set_cons_zero, List.set_cons_succ]
              refine wpAnyH_takeL (i := 15) (v := ?_) rfl (by kernel_rfl) (by kernel_rfl) (by kernel_rfl) (fun _ _ _ h => h) (Or.inl ⟨by rfl, ?_⟩) (by assumption) ?_
              rotate_left 1
              · (intro w hSw; (try dsimp only at hSw); go_simp; try with_reducible rfl)
              try simp only [Act.put, List.setIfInBounds_toArray, List.set_cons_zero, List.set_cons_succ]
              refine wpAnyH_takeL (i := 16) (v := ?_) rfl (by kernel_rfl) (by kernel_rfl) (by kernel_rfl) (fun _ _ _ h => h) (Or.inl ⟨by rfl, ?_⟩) (by assumption) ?_
              rotate_left 1
              · (intro w hSw; (try dsimp only at hSw); go_simp; try with_reducible rfl)
              try simp only [Act.put, List.setIfInBounds_toArray, List.set_cons_zero, List.set_cons_succ]
              refine wpAnyH_takeL (i := 17) (v := ?_) rfl (by kernel_rfl) (by kernel_rfl) (by kernel_rfl) (fun _ _ _ h => h) (Or.inl ⟨by rfl, ?_⟩) (by assumption) ?_
              rotate_left 1
              · (intro w hSw; (try dsimp only at hSw); go_simp; try with_reducible rfl)
              try simp only [Act.put, List.setIfInBounds_toArray, List.set_cons_zero, List.set_cons_succ]
              refine wpAnyH_ready (rs := [5]) (by kernel_rfl) (by simp) (AllReadyH.consL (i := 5) rfl (fun K hK => ?_) AllReadyH.nil)
              go_simp
              go_at_call 115
              refine (sBlockEnd_any _ p.length cap p j hjl _ T4d).mono ?_
              rintro e w5 ⟨rfl, hle5⟩
              have L5 := L4d.trans hle5
              have O5 := own_le O4d hle5
              have S5 := S4d.le hle5
              have c55 := (hle5.cell (show b5 < wr.drew.heap.size from hb5)).trans c5d
              have k25 := (hle5.cell (show b < wr.drew.heap.size from hb6)).trans k2d
              have hz5 : wr.heap.size ≤ w5.heap.size := hle5.size
              obtain ⟨WB, hWB⟩ : ∃ WB, w5.alloc (.cells #[.int .i64 ((j : Int) + 1), .int .i64 (bEnd p j : Int), .int .i64 (x : Int), .int .i64 xa] 90) = WB := ⟨_, rfl⟩
              have LB := Le.new w5 (.cells #[.int .i64 ((j : Int) + 1), .int .i64 (bEnd p j : Int), .int .i64 (x : Int), .int .i64 xa] 90)
              have SX := sl_one (w := w5) (cs := #[.int .i64 ((j : Int) + 1), .int .i64 (bEnd p j : Int), .int .i64 (x : Int), .int .i64 xa]) (T := 90) (⟨(j : Int) + 1, (bEnd p j : Int), (x : Int), xa⟩ : Rng) rfl hokr (b := w5.heap.size) rfl
              have hzB := size_alloc1 w5 (.cells #[.int .i64 ((j : Int) + 1), .int .i64 (bEnd p j : Int), .int .i64 (x : Int), .int .i64 xa] 90)
              rw [hWB] at LB SX hzB
              have L6 := L5.trans LB
              have O6 := own_le O5 LB
              have S6 := S5.le LB
              have c56 := (LB.cell (Nat.lt_of_lt_of_le hb5 hz5)).trans c55
              have k26 := (LB.cell (Nat.lt_of_lt_of_le hb6 hz5)).trans k25
              have HZB := Lib.hid hzB; clear hzB
              have h63 : G.length + 1 ≤ maxLen := by unfold maxLen; omega
              have h64 : (G.length + 1) * 32 ≤ 140737488355328 := by omega
              refine hK.out _ _ (⟨c55, k25⟩) (fun hHeld => ?_)
              clear hK K
              try simp only [Act.put, List.setIfInBounds_toArray, List.set_cons_zero, List.set_cons_succ]
              refine wpAnyH_takeL (i := 18) (v := ?_) rfl (by kernel_rfl) (by kernel_rfl) (by kernel_rfl) (fun _ _ _ h => h) (Or.inl ⟨by rfl, ?_⟩) (by assumption) ?_
              rotate_left 1
              · (intro w hSw; (try dsimp only at hSw); go_simp; try with_reducible rfl)
              try simp only [Act.put, List.setIfInBounds_toArray, List.set_cons_zero, List.set_cons_succ]
              refine wpAnyH_ready (rs := [19]) (by kernel_rfl) (by simp) (AllReadyH.consL (i := 19) rfl (fun K hK => ?_) AllReadyH.nil)
              go_simp
              refine hK.out _ _ (⟨c56, k26⟩) (fun hHeld => ?_)
              clear hK K
              try simp only [Act.put, List.setIfInBounds_toArray, List.set_cons_zero, List.set_cons_succ]
              refine wpAnyH_ready (rs := [20]) (by kernel_rfl) (by simp) (AllReadyH.consL (i := 20) rfl (fun K hK => ?_) AllReadyH.nil)
              refine step_append_sl rfl (.tmp 63) (.tmp 82) 54 rfl w.heap.size 90 i0 _ 32 Try.underlying54 hq hz0 hz1 hz2 rfl u3 G.length G rfl O6 (some ⟨w5.heap.size, 0, none⟩) 1 1 [(⟨(j : Int) + 1, (bEnd p j : Int), (x : Int), xa⟩ : Rng)] rfl SX h63 h64 L6.size ?_
              intro v7 w7 O7 hg7 hat7
              have L7 := L6.grown hg7 (fun k hk => (O6.lt k hk).1)
              have S7 := S6.grown hg7 (fun _ a e h => (HP3.out a e).1 h.symm)
              have hz7 := hg7.size
              rw [HZB.out] at hat7 hz7
              have HP7 : Hid (∀ a, some (⟨b5, off5, none⟩ : Addr) = some a → v7.ownBlock ≠ some a.block ∧ a.block < w7.heap.size) := fun a e => by
                have h1 := HP3.out a e
                refine ⟨apart_new (m := w5.heap.size) ⟨h1.1, by omega⟩ hat7, by omega⟩
              have c57 : w7.cell? ⟨b5, off5 + r, none⟩ = some (.int .i64 (x : Int)) := by
                obtain ⟨b8, off8, e8, hb8, c8, -⟩ := S7.int_at (k := r) (by rw [nI_len]; exact hlr)
                injection e8 with e8
                injection e8 with e81 e82
                subst e81
                subst e82
                rw [nI_at hlr, HCX.out] at c8
                exact c8
              have k27 : w7.cell? ⟨b, off + x * 4 + 2, none⟩ = some (.int .i64 xa) := (L7.cell hbw).trans ((L4.cell hbw).symm.trans k2)
              refine hK.out _ _ (⟨c57, k27⟩) (fun hHeld => ?_)
              clear hK K
              try simp only [Act.put, List.setIfInBounds_toArray, List.set_cons_zero, List.set_cons_succ]
              refine wpAnyH_takeL (i := 21) (v := ?_) rfl (by kernel_rfl) (by kernel_rfl) (by kernel_rfl) (fun _ _ _ h => h) (Or.inl ⟨by rfl, ?_⟩) (by assumption) ?_
              rotate_left 1
              · (intro w hSw; (try dsimp only at hSw); go_simp; try with_reducible rfl)
              try simp only [Act.put, List.setIfInBounds_toArray, List.set_cons_zero, List.set_cons_succ]
              refine wpAnyH_done (by kernel_rfl) ?_ _
              refine NoPanic.normal ?_
              go_wp2
              go_roundw
              case rel => exact ⟨r + 1, by omega, by omega, by go_num, by rw [HT.out, List.length_append]; exact O7, L7, S7, HP7.out⟩
              case measure => simp [intOf]; omega
            · have h8b := bf h8
              have HT : Hid (exF p (C.take (r + 1)) = exF p (C.take r)) := HY0.out (by rw [HKX.out]; exact h8)
              clear HRX HY1 HY0
              go_wp2
              go_roundw
              case rel => exact ⟨r + 1, by omega, by omega, by go_num, by rw [HT.out]; exact O4, L4, S34, HP3.out⟩
              case measure => simp [intOf]; omega
          · obtain rfl : r = C.length := by omega
            have HO : Hid (∀ v, wr.ownsRow w.heap.size 90 4 v (TB ++ (exF p (C.take C.length)).map (rgL p j)).length ((TB ++ (exF p (C.take C.length)).map (rgL p j)).flatMap Enc.cells) → wr.ownsRow w.heap.size 90 4 v (tbD p (p.length - j)).length ((tbD p (p.length - j)).flatMap Enc.cells)) := fun v hv => by
              rw [HN.out]
              rwa [List.take_length] at hv
            go_wp2
            go_roundw
            case rel => exact ⟨j, by omega, by go_num, HO.out _ O4, L4⟩
            case measure => simp [intOf]
      · have h7b := bf h7
        have h7c : (vk != 7) = true := by simpa using h7
        by_cases h11 : vk = 11
        · subst h11
          by_cases hb1 : vb = 1
          · have hb1b : (vb == 1) = true := by simpa using hb1
            have HN : Hid (tbD p (p.length - j) = TB ++ [(⟨(j : Int) + 1, (bEnd p j : Int), (j : Int), 0⟩ : Rng)]) := by show _ = _; rw [HST.out, HAT.out, if_neg (by rw [HKJ.out]; omega), if_pos ⟨HKJ.out, by rw [HBJ.out]; exact hb1⟩]; rfl
            clear hb1 HST HAT
            go_wp2_with (first | (go_at_call 115; refine (sBlockEnd_any _ p.length cap p j hjl wr T).mono ?_; rintro e w2 ⟨rfl, hle2⟩; have O2 := own_le O1 hle2; have L2 := L.trans hle2; have d5 := (hle2.cell hb).trans d1) | (at_builtin; refine wpList_append_sl rfl _ _ 54 rfl w.heap.size 90 i0 _ 32 Try.underlying54 hq hz0 hz1 hz2 rfl _ TB.length TB rfl (O2.alloc _) _ 1 1 [(⟨(j : Int) + 1, (bEnd p j : Int), (j : Int), 0⟩ : Rng)] rfl (sl_one (⟨(j : Int) + 1, (bEnd p j : Int), (j : Int), 0⟩ : Rng) rfl hokW rfl) (by unfold maxLen; omega) (by omega) (L2.alloc _).size ?_; intro v5 w5 O5 hg5 _; have L5 := (L2.alloc _).grown hg5 (fun k hk => (O2.lt k hk).1); clear hg5; have d7 := (L5.cell hbw).trans d1w))
            go_roundw
            case rel => exact ⟨j, by omega, by go_num, by rw [HN.out, List.length_append]; exact O5, L5⟩
            case measure => simp [intOf]
          · have hb1b : (vb == 1) = false := bf hb1
            have HN : Hid (tbD p (p.length - j) = TB) := by show _ = _; rw [HST.out, HAT.out, if_neg (by rw [HKJ.out]; omega), if_neg (by rw [HBJ.out]; exact fun h => hb1 h.2), List.append_nil]
            clear HST HAT
            go_wp2
            go_roundw
            case rel => exact ⟨j, by omega, by go_num, by rw [HN.out]; exact O1, L⟩
            case measure => simp [intOf]
        · have h11b := bf h11
          have HN : Hid (tbD p (p.length - j) = TB) := by show _ = _; rw [HST.out, HAT.out, if_neg (by rw [HKJ.out]; exact h7), if_neg (by rw [HKJ.out]; exact fun h => h11 h.1), List.append_nil]
          clear HST HAT
          go_wp2
          go_roundw
          case rel => exact ⟨j, by omega, by go_num, by rw [HN.out]; exact O1, L⟩
          case measure => simp [intOf]
theorem sTableOf_any (B A : Option Addr) (m c n cap : Nat) (xs : List Cls) (p : List Lin) (hsm : p.length ≤ 1048576) (w : World) (hT : Sl w B m c xs) (hR : Sl w A n cap p) :
    Calls Try.prog 45 #[.agg #[.slice B m c], .slice A n cap] w fun e w' => ∃ v, e = .returned v ∧ Owd 90 w w' v (tbX xs p) ∧ Le w w' := by
  have HX : Hid (tbX xs p = cond (vp xs p) (tbD p p.length) []) := rfl
  go_enter Try.func45, Try.ntmps45
  go_wp2_with fail
  obtain ⟨ct, zt, hleB⟩ := box1 w (.slice B m c) 31
  have L0 := hleB
  clear hleB
  generalize w.alloc (.cells #[.slice B m c] 31) = W at *
  refine (svalidProgram_any B A m c n cap xs p hsm _ (hT.le L0) (hR.le L0)).mono ?_
  rintro e w1 ⟨rfl, hle⟩
  have L1 := L0.trans hle
  cases h : vp xs p
  · have HO : Hid (Owd 90 w w1 (.slice none 0 0) (tbX xs p)) := by show Owd _ _ _ _ _; rw [HX.out, h]; exact Owd.nil _ _ _
    go_wp2
    go_ret
    exact ⟨_, rfl, HO.out, L1⟩
  · have g := goodP_of h
    go_wp2_with fail
    refine (stableOf_any A n cap p g.len g.tries w1 (hR.le L1)).mono ?_
    rintro e w2 ⟨v, rfl, D, hle2⟩
    have HO : Hid (Owd 90 w w2 v (tbX xs p)) := by show Owd _ _ _ _ _; rw [HX.out, h]; exact D.mono L1
    go_wp2
    go_ret
    exact ⟨_, rfl, HO.out, L1.trans hle2⟩
end Go.Proofs.Ytjcellhpmooifaa
