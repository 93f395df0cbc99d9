import Derived.Test.YtjmoddphfhgghadI
import Derived.Test.YtjmoddphfhgghadE
namespace Go.Proofs.Ytjmoddphfhgghad
open Go.RowKit

def eqIs : List Int → List Int → Bool
  | [], [] => true
  | a :: r, b :: s => a == b && eqIs r s
  | _, _ => false
theorem eqIs_self (xs : List Int) : eqIs xs xs = true := by
  induction xs with
  | nil => rfl
  | cons a r ih => show (a == a && eqIs r r) = true; rw [ih]; simp
theorem eqIs_at {xs ys : List Int} (hl : xs.length = ys.length) {k : Nat} (h : k < xs.length) : eqIs (xs.drop k) (ys.drop k) = (xs[k] == (ys[k]'(by omega)) && eqIs (xs.drop (k + 1)) (ys.drop (k + 1))) := by
  rw [List.drop_eq_getElem_cons h, List.drop_eq_getElem_cons (l := ys) (i := k) (by omega)]; rfl
theorem eqIs_end {xs ys : List Int} (hl : xs.length = ys.length) {k : Nat} (h : ¬ k < xs.length) : eqIs (xs.drop k) (ys.drop k) = true := by
  rw [List.drop_eq_nil_of_le (by omega), List.drop_eq_nil_of_le (by omega)]; rfl
theorem eqIs_len {xs ys : List Int} (hl : xs.length ≠ ys.length) : eqIs xs ys = false := by
  induction xs generalizing ys with
  | nil => cases ys with | nil => exact absurd rfl hl | cons _ _ => rfl
  | cons a r ih =>
    cases ys with
    | nil => rfl
    | cons b s => show (a == b && eqIs r s) = false; rw [ih (by simpa using hl), Bool.and_false]

theorem eqIntS_any (A B : Option Addr) (n m c d : Nat) (xs ys : List Int) (w : World) (hR : Sl w A n c xs) (hS : Sl w B m d ys) :
    Calls Try.prog 13 #[.slice A n c, .slice B m d] w fun e w' => e = .returned (.bool (eqIs xs ys)) ∧ Le w w' := by
  obtain rfl := hR.len
  obtain rfl := hS.len
  have hm := hR.n_le
  have hm2 := hS.n_le
  by_cases hl : xs.length = ys.length
  · have hb : ((xs.length : Int) != (ys.length : Int)) = false := by rw [hl]; simp
    have HL := Lib.hid hl; clear hl
    go_enter Try.func13, Try.ntmps13
    go_wp2
    go_loopw [5] (fun i wr => ∃ k : Nat, k ≤ xs.length ∧ i = .int .i64 k ∧ eqIs xs ys = eqIs (xs.drop k) (ys.drop k) ∧ Le w wr) (fun i _ => xs.length - (intOf i).toNat)
    case atStart => exact ⟨0, Nat.zero_le _, rfl, rfl, Le.refl _⟩
    case round =>
      obtain ⟨k, hk, rfl, hr, hle⟩ := hrel
      have HR := Lib.hid hr; clear hr
      have hRr := hR.le hle
      have hSr := hS.le hle
      clear hR hS
      by_cases hlt : k < xs.length
      · have hlt2 : k < ys.length := by have := HL.out; omega
        have hd := eqIs_at HL.out hlt
        have HF : Hid (eqIs xs ys = (xs[k] == ys[k] && eqIs (xs.drop (k + 1)) (ys.drop (k + 1)))) := HR.out.trans hd
        clear hd
        obtain ⟨b, off, rfl, hb, hcell, _, _⟩ := hRr.int_at hlt
        obtain ⟨b2, off2, rfl, hb2, hcell3, _, _⟩ := hSr.int_at hlt2
        have E1 := cell_ext hb hcell
        have E2 := cell_ext hb2 hcell3
        cases he : xs[k] == ys[k]
        all_goals
          have he2 : (xs[k] != ys[k]) = !(xs[k] == ys[k]) := rfl
          rw [he] at he2
          go_wp2_with fail
          refine wp_region_ext (by kernel_rfl) (by kernel_rfl) ?_
          repeat (go_big_quiet_step (fail))
          refine wpQuiet_nil ?_
          intro _ hw'
          obtain ⟨g, rfl⟩ := hw'
          have hw1 := Le.ext wr g
          generalize wr.ext g = W2 at *
          go_wp2
        · go_ret
          exact ⟨ret_bool (by rw [HF.out, he]; rfl), hle.trans hw1⟩
        · go_roundw
          case rel => exact ⟨k + 1, by omega, by go_num, by rw [HF.out, he]; rfl, hle.trans hw1⟩
          case measure => simp [intOf]; omega
      · have HF : Hid (eqIs xs ys = true) := HR.out.trans (eqIs_end HL.out hlt)
        go_wp2
        go_ret
        exact ⟨ret_bool HF.out.symm, hle⟩
  · have hb : ((xs.length : Int) != (ys.length : Int)) = true := by simp; omega
    have HF : Hid (eqIs xs ys = false) := eqIs_len hl
    clear hl
    go_enter Try.func13, Try.ntmps13
    go_wp2
    go_ret
    exact ⟨ret_bool HF.out.symm, Le.refl w⟩

theorem heldIntS_any (A : Option Addr) (n c : Nat) (xs : List Int) (k : Int) (w : World) (hR : Sl w A n c xs) (hx : ∀ i (h : i < xs.length), xs[i] = k + i) (h0 : 0 ≤ k) (h1 : k ≤ 1048576) (hn : n ≤ 1048576) :
    Calls Try.prog 17 #[.slice A n c, .int .i64 k] w fun e w' => e = .returned (.int .i64 (k + n)) ∧ Le w w' := by
  obtain rfl := hR.len
  have HX := Lib.hid hx; clear hx
  go_enter Try.func17, Try.ntmps17
  go_wp2
  go_loopw [1, 5] (fun q i wr => ∃ j : Nat, j ≤ xs.length ∧ i = .int .i64 j ∧ q = .int .i64 (k + j) ∧ Le w wr) (fun _ i _ => xs.length - (intOf i).toNat)
  case atStart => exact ⟨0, Nat.zero_le _, rfl, by simp, Le.refl _⟩
  case round =>
    obtain ⟨j, hj, rfl, rfl, hle⟩ := hrel
    have hRr := hR.le hle
    clear hR
    by_cases hlt : j < xs.length
    · obtain ⟨b, off, rfl, hb, hcell, _, _⟩ := hRr.int_at hlt
      rw [HX.out j hlt] at hcell
      have hq : (k + (j : Int) != k + (j : Int)) = false := by simp
      go_wp2
      go_roundw
      case rel => exact ⟨j + 1, by omega, by go_num, by go_num, hle⟩
      case measure => simp [intOf]; omega
    · have he : j = xs.length := by omega
      subst he
      go_wp2
      go_ret
      exact ⟨rfl, hle⟩

theorem markIntS_any (g n c : Nat) (xs : List Value) (k : Int) (w : World) (base : Nat) (hR : w.ownsRow base 3 1 (.slice (some ⟨g, 0, none⟩) n c) n xs) (h0 : 0 ≤ k) (h1 : k ≤ 1048576) (hn : n ≤ 1048576) :
    Calls Try.prog 16 #[.slice (some ⟨g, 0, none⟩) n c, .int .i64 k] w fun e w' => e = .returned (.int .i64 (k + n)) ∧ w'.ownsRow base 3 1 (.slice (some ⟨g, 0, none⟩) n c) n (((List.range n).map fun i : Nat => k + (i : Int)).flatMap Enc.cells) ∧ w.grownBy w' (some g) := by
  go_enter Try.func16, Try.ntmps16
  go_wp2
  have hin := hR.1
  go_loopw [1, 5] (fun q i wr => ∃ j : Nat, ∃ r : List Value, j ≤ n ∧ i = .int .i64 j ∧ q = .int .i64 (k + j) ∧ r.length = n - j ∧ wr.ownsRow base 3 1 (.slice (some ⟨g, 0, none⟩) n c) n (((List.range j).map fun i : Nat => k + (i : Int)).flatMap Enc.cells ++ r) ∧ w.grownBy wr (some g)) (fun _ i _ => n - (intOf i).toNat)
  case atStart => exact ⟨0, xs, Nat.zero_le _, rfl, by simp, by omega, by simpa using hR, World.grownBy.refl w _⟩
  case round =>
    obtain ⟨j, r, hj, rfl, rfl, hr, hown, hgr⟩ := hrel
    clear hR hin
    by_cases hlt : j < n
    · match r, hr with
      | [], h => simp at h; omega
      | r0 :: r1, hr =>
      have hfl : ((((List.range j).map fun i : Nat => k + (i : Int)).flatMap (Enc.cells (α := Int)))).length = j := by rw [flat_len, List.length_map, List.length_range]; show j * 1 = j; omega
      have hc0 : wr.cell? ⟨g, j, none⟩ = some r0 := by rw [hown.cellAt _ (by omega), List.getElem?_append_right (by omega), hfl]; simp
      have hf0 := hown.frozenAt j
      have HFL := Lib.hid hfl; clear hfl
      go_wp2
      go_roundw
      case rel =>
        refine ⟨j + 1, r1, by omega, by go_num, by go_num, by simp at hr; omega, ?_, ⟨hgr.os, hgr.tape, hgr.output, by have := hgr.size; simp [World.setCell]; exact this, fun i hi hne => ?_⟩⟩
        · have h1 := (hown.stored j (.int .i64 (k + j))).1
          have e : ((List.range (j + 1)).map fun i : Nat => k + (i : Int)).flatMap Enc.cells ++ r1 = (((List.range j).map fun i : Nat => k + (i : Int)).flatMap Enc.cells ++ r0 :: r1).set j (.int .i64 (k + j)) := by
            rw [List.set_append_right _ _ (by have := HFL.out; omega), HFL.out, List.range_succ, List.map_append, List.flatMap_append]
            simp [Enc.cells]
          rw [e]; exact h1
        · exact (heap_setCell_other wr ⟨g, j, none⟩ i _ (fun e => hne (by rw [e]))).trans (hgr.block i hi hne)
      case measure => simp [intOf]; omega
    · have he : j = n := by omega
      have hr0 : r = [] := List.eq_nil_of_length_eq_zero (by omega)
      subst he
      have HO : Hid (wr.ownsRow base 3 1 (.slice (some ⟨g, 0, none⟩) j c) j (((List.range j).map fun i : Nat => k + (i : Int)).flatMap Enc.cells)) := by
        show World.ownsRow _ _ _ _ _ _ _
        rw [hr0] at hown; simpa using hown
      clear hown hr0
      go_wp2
      go_ret
      exact ⟨rfl, HO.out, hgr⟩
end Go.Proofs.Ytjmoddphfhgghad
