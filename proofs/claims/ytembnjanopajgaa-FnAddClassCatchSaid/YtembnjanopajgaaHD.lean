/- impl.handlersOf -/
import Derived.Test.YtembnjanopajgaaHC
namespace Go.Proofs.Ytembnjanopajgaa
open Go.RowKit

def HandOut (xs : List Cls) (L : List Int) (gs : List PB) (w : World) (e : Ending) (w' : World) : Prop :=
  Le w w' ∧ ((goodC xs L = false ∧ e = .returned (.tuple #[.slice none 0 0, .bool false])) ∨ (goodC xs L = true ∧ ∃ H c, e = .returned (.tuple #[.slice H L.length c, .bool true]) ∧ Sl w' H L.length c (L.map (pbAt gs))))
theorem goodC_no {xs : List Cls} {L : List Int} (h : okTree xs = false ∨ 6 < L.length ∨ goodL xs L = false) : goodC xs L = false := by
  unfold goodC
  rcases h with h | h | h
  · rw [h]; rfl
  · rw [decide_eq_false (p := L.length ≤ 6) (by omega), Bool.and_false]
  · rw [h, Bool.and_false]; rfl
theorem goodC_yes {xs : List Cls} {L : List Int} (h : okTree xs = true) (h2 : L.length ≤ 6) (h3 : goodL xs L = true) : goodC xs L = true := by
  unfold goodC; rw [h, h3, decide_eq_true h2]; rfl

set_option maxHeartbeats 1000000 in
set_option maxRecDepth 100000 in
theorem handlersOf_any (A B : Option Addr) (n m c : Nat) (gs : List PB) (xs : List Cls) (L : List Int) (w : World) (hS : Sl w A n n gs)
    (hcase : (okTree xs = false ∧ n = 0 ∧ gs = []) ∨ (okTree xs = true ∧ n = xs.length ∧ Nds w gs xs)) (hL : Sl w B m c L) :
    Calls Try.prog 42 #[.slice A n n, .slice B m c] w (HandOut xs L gs w) := by
  obtain rfl := hL.len
  have hmx := hL.n_le
  have hnx := hS.n_le
  rcases hcase with ⟨h0, rfl, rfl⟩ | ⟨h0, rfl, hN⟩
  · have HF := Lib.hid (goodC_no (L := L) (.inl h0))
    clear h0
    go_enter Try.func42, Try.ntmps42
    go_wp2
    go_ret2
    exact ⟨Le.refl w, .inl ⟨HF.out, rfl⟩⟩
  · have g := good_of h0
    have hlo := g.lo
    have hn0 : ((xs.length : Int) == 0) = false := by rw [beq_eq_false_iff_ne]; omega
    by_cases h6 : 6 < L.length
    · have HF := Lib.hid (goodC_no (xs := xs) (L := L) (.inr (.inl h6)))
      have h6' : 6 < (L.length : Int) := by omega
      go_enter Try.func42, Try.ntmps42
      go_wp2
      go_ret2
      exact ⟨Le.refl w, .inl ⟨HF.out, rfl⟩⟩
    · have h6' : ¬ 6 < (L.length : Int) := by omega
      obtain ⟨i0, hi, hz0, hz1, hz2⟩ := info_parts pnInfo
      have hb2 : i0.bytes * L.length ≤ 281474976710656 := by rw [hz2]; omega
      have H0 := Lib.hid h0; clear h0
      have HL := Lib.hid hN.len
      go_enter Try.func42, Try.ntmps42
      go_wp2_with (refine wpList_make_full _ rfl _ _ 74 rfl w.heap.size 105 i0 _ 1 Try.underlying74 hi hz0 hz1 .i64 .i64 _ _ L.length rfl rfl rfl rfl hb2 (by unfold maxLen; omega) (Nat.le_refl _) ?_; intro w1 hown1 hg1)
      have hle1 : Le w w1 := (Le.refl w).grown hg1 (by intro k hk; cases hk)
      clear hg1
      go_loopw [22] (fun i wr => ∃ k : Nat, ∃ r : List Value, k ≤ L.length ∧ i = .int .i64 k ∧ r.length = L.length - k ∧ wr.ownsRow w.heap.size 105 1 (.slice (some ⟨w.heap.size, 0, none⟩) L.length L.length) L.length (((L.take k).map (pbAt gs)).flatMap Enc.cells ++ r) ∧
        goodL xs L = goodL xs (L.drop k) ∧ Le w wr) (fun i _ => L.length - (intOf i).toNat)
      case atStart => exact ⟨0, _, Nat.zero_le _, rfl, by simp [madeCells], hown1, rfl, hle1⟩
      case round =>
        obtain ⟨k, r, hk, rfl, hr, hown, hgl, hle⟩ := hrel
        have HG := Lib.hid hgl; clear hgl
        have S1 := hS.le hle
        have S2 := hL.le hle
        clear hown1 hle1
        by_cases hlt : k < L.length
        · obtain ⟨b, off, rfl, hb, hcell, _, _⟩ := S2.int_at hlt
          match r, hr with
          | [], h => simp at h; omega
          | r0 :: rr, hr =>
          have hfl : (((L.take k).map (pbAt gs)).flatMap (Enc.cells (α := PB))).length = k := by rw [flat_len, List.length_map, List.length_take]; show _ * 1 = _; omega
          have hc0 : wr.cell? ⟨w.heap.size, k, none⟩ = some r0 := by rw [hown.cellAt _ (by omega), List.getElem?_append_right (by omega), hfl]; simp
          have hf0 := hown.frozenAt k
          have HFL := Lib.hid hfl; clear hfl
          have HF : Hid (goodL xs L = (hasK xs L[k] && goodL xs (L.drop (k + 1)))) := by show _ = _; rw [HG.out, goodL_at hlt]
          go_wp2_with fail
          refine (nodeAt_any _ _ _ gs L[k] _ S1).mono ?_
          rintro e w3 ⟨rfl, rfl⟩
          rcases ptr_cases HL.out L[k] with ⟨h2, h3⟩ | ⟨h2, j, hj, hje, h3⟩
          · rw [h3]
            have HN : Hid (goodC xs L = false) := goodC_no (.inr (.inr (by rw [HF.out, h2]; rfl)))
            clear h3 h2
            go_wp2
            go_ret2
            exact ⟨hle.setCell (Nat.le_refl _) _, .inl ⟨HN.out, rfl⟩⟩
          · rw [h3]
            have hpb : pbAt gs L[k] = gs[j] := by rw [hje, pbAt_at hj]
            have HPB := Lib.hid hpb; clear hpb
            have H2 := Lib.hid h2
            clear h3 hje h2
            go_wp2
            go_roundw
            case rel =>
              refine ⟨k + 1, rr, by omega, by go_num, by simp at hr; omega, ?_, by rw [HF.out, H2.out]; rfl, hle.setCell (Nat.le_refl _) _⟩
              have h1 := (hown.stored k (.pointer (some ⟨gs[j].g, 0, none⟩))).1
              have e : ((L.take (k + 1)).map (pbAt gs)).flatMap Enc.cells ++ rr = ((((L.take k).map (pbAt gs)).flatMap Enc.cells ++ r0 :: rr).set k (.pointer (some ⟨gs[j].g, 0, none⟩))) := by
                rw [List.set_append_right _ _ (by have := HFL.out; omega), HFL.out, List.take_succ_eq_append_getElem hlt, List.map_append, List.flatMap_append]
                simp [Enc.cells, HPB.out]
              rw [e]; exact h1
            case measure => simp [intOf]; omega
        · have hk' : k = L.length := by omega
          have hr0 : r = [] := List.eq_nil_of_length_eq_zero (by omega)
          have HF : Hid (HandOut xs L gs w (.returned (.tuple #[.slice (some ⟨w.heap.size, 0, none⟩) L.length L.length, .bool true])) wr) := by
            refine ⟨hle, .inr ⟨goodC_yes H0.out (by omega) (by rw [HG.out, goodL_end hlt]), _, _, rfl, ?_⟩⟩
            rw [hr0, List.append_nil, hk', List.take_length] at hown
            exact Sl.of_own hown rfl (by decide) (fun _ _ => trivial)
          clear hk' hr0 hr hown
          go_wp2
          go_ret2
          exact HF.out
end Go.Proofs.Ytembnjanopajgaa
