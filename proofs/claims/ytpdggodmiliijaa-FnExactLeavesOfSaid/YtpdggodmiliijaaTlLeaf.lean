import Derived.Test.YtpdggodmiliijaaTyLeaf
import Derived.Test.YtpdggodmiliijaaTL
namespace Go.Proofs.Ytpdggodmiliijaa
open Go.RowKit

theorem infoLeaf : (Try.prog.info? 75).map (fun i => (i.zero, i.size, i.bytes)) = some (some (.agg #[.int .i64 0, .int .i64 0]), 2, 16) := by kernel_rfl
theorem eqLeaf_self (x : Lef) (w : World) : Calls Try.prog 55 #[.agg #[.int .i64 x.cls, .int .i64 x.code], .agg #[.int .i64 x.cls, .int .i64 x.code]] w fun e w' => e = .returned (.bool true) ∧ Le w w' := by
  go_enter Try.func55, Try.ntmps55
  go_wp2
  go_ret
  exact ⟨rfl, (Le.new w _).alloc _⟩

theorem eqLeafS_self (A B : Option Addr) (n c d : Nat) (xs : List Lef) (w : World) (hR : Sl w A n c xs) (hS : Sl w B n d xs) :
    Calls Try.prog 17 #[.slice A n c, .slice B n d] w fun e w' => e = .returned (.bool true) ∧ Le w w' := by
  obtain rfl := hR.len
  have hm := hR.n_le
  have hb : ((xs.length : Int) != (xs.length : Int)) = false := by simp
  go_enter Try.func17, Try.ntmps17
  go_wp2
  go_loopw [5] (fun i wr => ∃ k : Nat, k ≤ xs.length ∧ i = .int .i64 k ∧ Le w wr) (fun i _ => xs.length - (intOf i).toNat)
  case atStart => exact ⟨0, Nat.zero_le _, rfl, Le.refl _⟩
  case round =>
    obtain ⟨k, hk, rfl, hle⟩ := hrel
    have hRr := hR.le hle
    have hSr := hS.le hle
    clear hR hS
    by_cases hlt : k < xs.length
    · obtain ⟨b, off, rfl, hb, hcell0, hcell1, _⟩ := hRr.lef_at hlt
      obtain ⟨b2, off2, rfl, hb2, hdell0, hdell1, _⟩ := hSr.lef_at hlt
      have E0 := cell_ext hb hcell0
      have E1 := cell_ext hb hcell1
      have F0 := cell_ext hb2 hdell0
      have F1 := cell_ext hb2 hdell1
      go_wp2_with fail
      refine wp_region_ext (by kernel_rfl) (by kernel_rfl) ?_
      repeat (go_big_quiet_step (first | (go_at_call 55; exact Calls.ext_of (eqLeaf_self xs[k] _))))
      refine wpQuiet_nil ?_
      intro _ hw'
      obtain ⟨g, rfl⟩ := hw'
      have hw1 := Le.ext wr g
      generalize wr.ext g = W2 at *
      go_wp2
      go_roundw
      case rel => exact ⟨k + 1, by omega, by go_num, hle.trans hw1⟩
      case measure => simp [intOf]; omega
    · go_wp2
      go_ret
      exact ⟨rfl, hle⟩

def mLef (k : Int) (i : Nat) : Lef := ⟨k + 2 * i, k + 2 * i + 1⟩

set_option maxHeartbeats 1000000 in
set_option maxRecDepth 100000 in
theorem markLeafS_row (g n c : Nat) (xs : List Value) (q : Int) (w : World) (base : Nat) (hR : w.ownsRow base 75 2 (.slice (some ⟨g, 0, none⟩) n c) n xs) (h0 : 1 ≤ q) (h1 : q ≤ 1000000000) (hn : n ≤ 1048576) :
    Calls Try.prog 22 #[.slice (some ⟨g, 0, none⟩) n c, .int .i64 q] w fun e w' => e = .returned (.int .i64 (q + 2 * n)) ∧ w'.ownsRow base 75 2 (.slice (some ⟨g, 0, none⟩) n c) n (((List.range n).map (mLef q)).flatMap Enc.cells) ∧ w.grownBy w' (some g) := by
  go_enter Try.func22, Try.ntmps22
  go_wp2
  have hin := hR.1
  go_loopw [1, 5] (fun z i wr => ∃ k : Nat, ∃ r : List Value, k ≤ n ∧ i = .int .i64 k ∧ z = .int .i64 (q + 2 * k) ∧ r.length = (n - k) * 2 ∧ wr.ownsRow base 75 2 (.slice (some ⟨g, 0, none⟩) n c) n (((List.range k).map (mLef q)).flatMap Enc.cells ++ r) ∧ w.grownBy wr (some g)) (fun _ i _ => n - (intOf i).toNat)
  case atStart => exact ⟨0, xs, Nat.zero_le _, rfl, by simp, by omega, by simpa using hR, World.grownBy.refl w _⟩
  case round =>
    obtain ⟨k, r, hk, rfl, rfl, hr, hown, hgr⟩ := hrel
    clear hR hin
    by_cases hlt : k < n
    · match r, hr with
      | [], h => simp at h; omega
      | [_], h => simp at h; omega
      | r0 :: r1 :: rr, hr =>
      have hfl : ((((List.range k).map (mLef q)).flatMap (Enc.cells (α := Lef)))).length = k * 2 := by rw [flat_len, List.length_map, List.length_range]; rfl
      have hc0 : wr.cell? ⟨g, k * 2, none⟩ = some r0 := by rw [hown.cellAt _ (by omega), List.getElem?_append_right (by omega), hfl]; simp
      have hc1 : wr.cell? ⟨g, k * 2 + 1, none⟩ = some r1 := by rw [hown.cellAt _ (by omega), List.getElem?_append_right (by omega), hfl]; simp
      have hf0 := hown.frozenAt (k * 2)
      have hf1 := hown.frozenAt (k * 2 + 1)
      have HFL := Lib.hid hfl; clear hfl
      go_wp2
      go_roundw
      case rel =>
        refine ⟨k + 1, rr, by omega, by go_num, by congr 1; omega, by simp at hr; omega, ?_, ?_⟩
        · have h1 := ((hown.stored (k * 2) (.int .i64 (q + 2 * k))).1.stored (k * 2 + 1) (.int .i64 (q + 2 * k + 1))).1
          have e : ((List.range (k + 1)).map (mLef q)).flatMap Enc.cells ++ rr = (((((List.range k).map (mLef q)).flatMap Enc.cells ++ r0 :: r1 :: rr).set (k * 2) (.int .i64 (q + 2 * k))).set (k * 2 + 1) (.int .i64 (q + 2 * k + 1))) := by
            rw [List.set_append_right _ _ (by have := HFL.out; omega), List.set_append_right _ _ (by have := HFL.out; omega), HFL.out, List.range_succ, List.map_append, List.flatMap_append]
            simp [Enc.cells, mLef]
          rw [e]; exact h1
        · exact (gx_set (gx_set hgr _) _)
      case measure => simp [intOf]; omega
    · have he : k = n := by omega
      have hr0 : r = [] := List.eq_nil_of_length_eq_zero (by rw [hr, he]; simp)
      subst he
      have HO : Hid (wr.ownsRow base 75 2 (.slice (some ⟨g, 0, none⟩) k c) k (((List.range k).map (mLef q)).flatMap Enc.cells)) := by
        show World.ownsRow _ _ _ _ _ _ _
        rw [hr0] at hown; simpa using hown
      clear hown hr0 hr
      go_wp2
      go_ret
      exact ⟨rfl, HO.out, hgr⟩

theorem markLeafS_any (A : Option Addr) (n c : Nat) (xs : List Value) (q : Int) (w : World) (base : Nat) (hR : w.ownsRow base 75 2 (.slice A n c) n xs) (h0 : 1 ≤ q) (h1 : q ≤ 1000000000) (hn : n ≤ 1048576) :
    Calls Try.prog 22 #[.slice A n c, .int .i64 q] w fun e w' => e = .returned (.int .i64 (q + 2 * n)) ∧ w'.ownsRow base 75 2 (.slice A n c) n (((List.range n).map (mLef q)).flatMap Enc.cells) ∧ w.grownBy w' (Value.slice A n c).ownBlock := by
  rcases hR.2 with ⟨h, h0'⟩ | ⟨g, c', _, h, _⟩
  · simp only [Value.slice.injEq] at h
    obtain ⟨rfl, rfl, rfl⟩ := h
    go_enter Try.func22, Try.ntmps22
    go_wp2
    refine wp_loop_rounds 1 ?_
    rw [rounds_succ]
    go_wp2
    go_ret
    exact ⟨by simp, World.ownsRow_nil w base 75 2, World.grownBy.refl w _⟩
  · simp only [Value.slice.injEq, true_and] at h
    obtain ⟨rfl, rfl⟩ := h
    exact markLeafS_row g n c xs q w base hR h0 h1 hn

theorem mLef_ok {q : Int} (h0 : 1 ≤ q) (h1 : q ≤ 1000000000) {n : Nat} (hn : n ≤ 1048576) : ∀ x ∈ (List.range n).map (mLef q), Enc.ok x := by
  intro x hx
  simp at hx
  obtain ⟨i, hi, rfl⟩ := hx
  exact ⟨by show _ ≤ _; simp only [mLef]; omega, by show _ ≤ _; simp only [mLef]; omega, by show _ ≤ _; simp only [mLef]; omega, by show _ ≤ _; simp only [mLef]; omega⟩

theorem heldLeafS_any (A : Option Addr) (n c : Nat) (q : Int) (w : World) (hR : Sl w A n c ((List.range n).map (mLef q))) (h0 : 1 ≤ q) (h1 : q ≤ 1000000000) (hn : n ≤ 1048576) :
    Calls Try.prog 23 #[.slice A n c, .int .i64 q] w fun e w' => e = .returned (.int .i64 (q + 2 * n)) ∧ Le w w' := by
  have hl : ((List.range n).map (mLef q)).length = n := by simp
  have HL := Lib.hid hl; clear hl
  go_enter Try.func23, Try.ntmps23
  go_wp2
  go_loopw [1, 5] (fun z i wr => ∃ k : Nat, k ≤ n ∧ i = .int .i64 k ∧ z = .int .i64 (q + 2 * k) ∧ Le w wr) (fun _ i _ => n - (intOf i).toNat)
  case atStart => exact ⟨0, Nat.zero_le _, rfl, by simp, Le.refl _⟩
  case round =>
    obtain ⟨k, hk, rfl, rfl, hle⟩ := hrel
    have hRr := hR.le hle
    clear hR
    by_cases hlt : k < n
    · obtain ⟨b, off, rfl, hb, hcell0, hcell1, _⟩ := hRr.lef_at (k := k) (by rw [HL.out]; exact hlt)
      have hx : ((List.range n).map (mLef q))[k]'(by rw [HL.out]; exact hlt) = mLef q k := by simp
      rw [hx] at hcell0 hcell1
      simp only [mLef] at hcell0 hcell1
      clear hx
      go_wp2
      go_roundw
      case rel => exact ⟨k + 1, by omega, by go_num, by congr 1; omega, hle⟩
      case measure => simp [intOf]; omega
    · have he : k = n := by omega
      subst he
      go_wp2
      go_ret
      exact ⟨rfl, hle⟩

end Go.Proofs.Ytpdggodmiliijaa
