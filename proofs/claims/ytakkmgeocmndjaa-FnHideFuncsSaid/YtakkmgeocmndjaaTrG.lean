/- LinesOf of the model and of the program -/
import Derived.Test.YtakkmgeocmndjaaTrC
import Derived.Test.YtakkmgeocmndjaaTlInt
namespace Go.Proofs.Ytakkmgeocmndjaa
open Go.RowKit
def linK (xs : List Frm) (s : ByteArray) : Nat → List Int
  | 0 => []
  | k + 1 => linK xs s k ++ (if (xs.getD k ⟨ByteArray.empty, 0⟩).fn = s then [(xs.getD k ⟨ByteArray.empty, 0⟩).line] else [])
theorem linK_yes {xs : List Frm} {s : ByteArray} {k : Nat} (hk : k < xs.length) (h : xs[k].fn = s) : linK xs s (k + 1) = linK xs s k ++ [xs[k].line] := by
  rw [linK, List.getD_eq_getElem?_getD, List.getElem?_eq_getElem hk, Option.getD_some, if_pos h]
theorem linK_no {xs : List Frm} {s : ByteArray} {k : Nat} (hk : k < xs.length) (h : ¬ xs[k].fn = s) : linK xs s (k + 1) = linK xs s k := by
  rw [linK, List.getD_eq_getElem?_getD, List.getElem?_eq_getElem hk, Option.getD_some, if_neg h, List.append_nil]
theorem linK_len (xs : List Frm) (s : ByteArray) : ∀ k, (linK xs s k).length ≤ k
  | 0 => Nat.le_refl _
  | k + 1 => by
    have := linK_len xs s k
    unfold linK
    split <;> simp <;> omega
theorem linK_ok (xs : List Frm) (s : ByteArray) (hok : ∀ x ∈ xs, Enc.ok x) : ∀ k, k ≤ xs.length → ∀ x ∈ linK xs s k, Enc.ok x
  | 0, _, x, h => nomatch h
  | k + 1, hk, x, h => by
    have hk' : k < xs.length := hk
    by_cases he : xs[k].fn = s
    · rw [linK_yes hk' he] at h
      rcases List.mem_append.1 h with h | h
      · exact linK_ok xs s hok k (by omega) x h
      · simp at h; subst h
        exact (hok xs[k] (List.getElem_mem hk')).2
    · rw [linK_no hk' he] at h
      exact linK_ok xs s hok k (by omega) x h
def linX (xs : List Frm) (s : ByteArray) : List Int := cond (vTr xs) (linK xs s xs.length) []
theorem linX_of {xs : List Frm} {s : ByteArray} {p : Bool} (h : vTr xs = p) : linX xs s = cond p (linK xs s xs.length) [] := by unfold linX; rw [h]
theorem linX_len (xs : List Frm) (s : ByteArray) : (linX xs s).length ≤ 1048576 := by
  cases h : vTr xs
  · rw [linX_of h]; simp
  · have := vTr_small h
    have h2 := linK_len xs s xs.length
    rw [linX_of h]; show (linK xs s xs.length).length ≤ _; omega

set_option maxRecDepth 100000 in
theorem sLinesOf_any (A : Option Addr) (n c : Nat) (xs : List Frm) (s : ByteArray) (w : World) (hR : Sl w A n c xs) :
    Calls Try.prog 47 #[.slice A n c, .string s] w fun e w' => ∃ v, e = .returned v ∧ Owd 3 w w' v (linX xs s) ∧ Le w w' := by
  obtain ⟨i0, hi, hz0, hz1, hz2⟩ := info_parts infoInt
  cases h1 : vTr xs
  · have HX := Lib.hid (linX_of (s := s) h1)
    go_enter Try.func47, Try.ntmps47
    go_wp2_with fail
    refine (validTrace_any _ _ _ xs _ hR).mono ?_
    rintro e w1 ⟨rfl, hle⟩
    rw [h1]
    go_wp2
    go_ret
    exact ⟨_, rfl, by rw [HX.out]; exact Owd.nil _ _ _, hle⟩
  · have hsm := vTr_small h1
    have HX := Lib.hid (linX_of (s := s) h1)
    obtain rfl := hR.len
    have HOK := Lib.hid (linK_ok xs s hR.ok xs.length (Nat.le_refl _))
    go_enter Try.func47, Try.ntmps47
    go_wp2_with fail
    refine (validTrace_any _ _ _ xs _ hR).mono ?_
    rintro e w1 ⟨rfl, hle⟩
    rw [h1]
    have S1 := hR.le hle
    clear h1 hR
    go_wp2
    go_loopw [5, 6] (fun v i wr => ∃ k : Nat, k ≤ xs.length ∧ i = .int .i64 k ∧ wr.ownsRow w1.heap.size 3 1 v (linK xs s k).length ((linK xs s k).flatMap Enc.cells) ∧ Le w1 wr) (fun _ i _ => xs.length - (intOf i).toNat)
    case atStart => exact ⟨0, Nat.zero_le _, rfl, own_empty (Nat.le_refl _) rfl, Le.new _ _⟩
    case round =>
      obtain ⟨k, hk, rfl, O1, hle1⟩ := hrel
      have S2 := S1.le hle1
      clear S1
      by_cases hlt : k < xs.length
      · obtain ⟨b, off, rfl, hb, hcell0, hcell1, hns, hp1, hp2⟩ := S2.frm_at hlt
        have hll := linK_len xs s k
        have hsz := hle1.size
        by_cases he : xs[k].fn = s
        · have he' := str_eq he
          have HB := Lib.hid (linK_yes hlt he)
          have hokx : Enc.ok xs[k].line := ⟨hp1, hp2⟩
          clear he
          go_wp2_with (at_builtin; refine wpList_append_sl rfl _ _ 41 rfl w1.heap.size 3 i0 _ 8 Try.underlying41 hi hz0 hz1 hz2 rfl _ _ (linK xs s k) rfl (O1.alloc _) _ 1 1 [xs[k].line] rfl (sl_one xs[k].line rfl hokx rfl) (by unfold maxLen; omega) (by omega) (hle1.alloc _).size ?_; intro v1 w3 O2 hg2 _; have L2 := (hle1.alloc _).grown hg2 (fun k hk => (O1.lt k hk).1); clear hg2)
          go_roundw
          case rel => exact ⟨k + 1, by omega, by go_num, by rw [HB.out, List.length_append]; exact O2, L2⟩
          case measure => simp [intOf]; omega
        · have he' := str_ne he
          have HB := Lib.hid (linK_no hlt he)
          clear he
          go_wp2
          go_roundw
          case rel => exact ⟨k + 1, by omega, by go_num, by rw [HB.out]; exact O1, hle1⟩
          case measure => simp [intOf]; omega
      · obtain rfl : k = xs.length := by omega
        have HO := Lib.hid (⟨own_mono O1 hle.size, HOK.out⟩ : Owd 3 w wr _ (linK xs s xs.length))
        clear O1
        go_wp2
        go_ret
        exact ⟨_, rfl, by rw [HX.out]; exact HO.out, hle.trans hle1⟩
set_option maxRecDepth 100000 in
theorem iLinesOf_any (A : Option Addr) (n c : Nat) (xs : List Frm) (s : ByteArray) (w : World) (hR : Sl w A n c xs) :
    Calls Try.prog 28 #[.slice A n c, .string s] w fun e w' => ∃ v, e = .returned v ∧ Owd 3 w w' v (linX xs s) ∧ Le w w' := by
  obtain ⟨i0, hi, hz0, hz1, hz2⟩ := info_parts infoInt
  cases h1 : vTr xs
  · have HX := Lib.hid (linX_of (s := s) h1)
    go_enter Try.func28, Try.ntmps28
    go_wp2_with fail
    refine (iValidTrace_any _ _ _ xs _ hR).mono ?_
    rintro e w1 ⟨rfl, hle⟩
    rw [h1]
    go_wp2
    go_ret
    exact ⟨_, rfl, by rw [HX.out]; exact Owd.nil _ _ _, hle⟩
  · have hsm := vTr_small h1
    have HX := Lib.hid (linX_of (s := s) h1)
    obtain rfl := hR.len
    have HOK := Lib.hid (linK_ok xs s hR.ok xs.length (Nat.le_refl _))
    go_enter Try.func28, Try.ntmps28
    go_wp2_with fail
    refine (iValidTrace_any _ _ _ xs _ hR).mono ?_
    rintro e w1 ⟨rfl, hle⟩
    rw [h1]
    have S1 := hR.le hle
    clear h1 hR
    go_wp2
    go_loopw [5, 13] (fun v i wr => ∃ k : Nat, k ≤ xs.length ∧ i = .int .i64 k ∧ wr.ownsRow w1.heap.size 3 1 v (linK xs s k).length ((linK xs s k).flatMap Enc.cells) ∧ Le w1 wr) (fun _ i _ => xs.length - (intOf i).toNat)
    case atStart => exact ⟨0, Nat.zero_le _, rfl, World.ownsRow_nil _ _ _ _, Le.refl _⟩
    case round =>
      obtain ⟨k, hk, rfl, O1, hle1⟩ := hrel
      have S2 := S1.le hle1
      clear S1
      by_cases hlt : k < xs.length
      · obtain ⟨b, off, rfl, hb, hcell0, hcell1, hns, hp1, hp2⟩ := S2.frm_at hlt
        have hll := linK_len xs s k
        have hsz := hle1.size
        by_cases he : xs[k].fn = s
        · have he' := str_eq he
          have HB := Lib.hid (linK_yes hlt he)
          have hokx : Enc.ok xs[k].line := ⟨hp1, hp2⟩
          clear he
          go_wp2_with (at_builtin; refine wpList_append_sl rfl _ _ 41 rfl w1.heap.size 3 i0 _ 8 Try.underlying41 hi hz0 hz1 hz2 rfl _ _ (linK xs s k) rfl ((O1.alloc _).alloc _) _ 1 1 [xs[k].line] rfl (sl_one xs[k].line rfl hokx (by simp)) (by unfold maxLen; omega) (by omega) ((hle1.alloc _).alloc _).size ?_; intro v1 w3 O2 hg2 _; have L2 := ((hle1.alloc _).alloc _).grown hg2 (fun k hk => (O1.lt k hk).1); clear hg2)
          go_roundw
          case rel => exact ⟨k + 1, by omega, by go_num, by rw [HB.out, List.length_append]; exact O2, L2⟩
          case measure => simp [intOf]; omega
        · have he' := str_ne he
          have HB := Lib.hid (linK_no hlt he)
          clear he
          go_wp2
          go_roundw
          case rel => exact ⟨k + 1, by omega, by go_num, by rw [HB.out]; exact O1.alloc _, hle1.alloc _⟩
          case measure => simp [intOf]; omega
      · obtain rfl : k = xs.length := by omega
        have HO := Lib.hid (⟨own_mono O1 hle.size, HOK.out⟩ : Owd 3 w wr _ (linK xs s xs.length))
        clear O1
        go_wp2
        go_ret
        exact ⟨_, rfl, by rw [HX.out]; exact HO.out, hle.trans hle1⟩
end Go.Proofs.Ytakkmgeocmndjaa
