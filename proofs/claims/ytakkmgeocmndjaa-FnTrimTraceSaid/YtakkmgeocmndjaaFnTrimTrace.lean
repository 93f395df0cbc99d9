/- the law FnTrimTrace -/
import Derived.Test.YtakkmgeocmndjaaFT0
import Derived.Test.YtakkmgeocmndjaaDO
import Derived.Test.YtakkmgeocmndjaaAG
namespace Go.Proofs.Ytakkmgeocmndjaa
open Go.RowKit
set_option maxHeartbeats 1000000 in
set_option maxRecDepth 100000 in
theorem fnTrimTrace_walk (A : Option Addr) (n cap : Nat) (bs : List By) (w : World) (hR : Sl w A n cap bs) :
    Calls Try.prog 5 #[.slice A n cap] w fun e w' => e = .returned (.bool true) ∧ Le w w' := by
  have hm := hR.n_le
  obtain ⟨i0, hi, hz0, hz1, hz2⟩ := info_parts infoFrame
  by_cases hbig : 1048576 < n
  · go_enter Try.func5, Try.ntmps5
    go_wp2
    go_ret
    exact ⟨rfl, Le.refl w⟩
  go_enter Try.func5, Try.ntmps5
  go_wp2_with fail
  refine (drawTrimTrace_any A n cap bs w hR).mono ?_
  rintro e w1 ⟨B, m, c, xs, a, rfl, S, hm8, ha, L0⟩
  have hai : -9223372036854775808 ≤ a ∧ a ≤ 9223372036854775807 := by omega
  go_wp2_with fail
  refine (Calls.sl1W (by decide) (iTrimTrace_any _ _ _ xs a _ S hai)).mono ?_
  rintro e w2 ⟨A3, c3, rfl, S3, hle⟩
  replace S := S.le hle
  replace L0 := L0.trans hle
  clear hle
  go_wp2_with fail
  refine (Calls.sl1 (by decide) (sTrimTrace_any _ _ _ xs a _ S hai)).mono ?_
  rintro e w3 ⟨A4, c4, rfl, S4, hle⟩
  replace S := S.le hle
  replace S3 := S3.le hle
  replace L0 := L0.trans hle
  clear hle
  go_wp2_with fail
  refine (equalTrace_self _ _ _ _ _ _ _ S3 S4).mono ?_
  rintro e w4 ⟨rfl, hle⟩
  replace S := S.le hle
  replace S3 := S3.le hle
  replace S4 := S4.le hle
  replace L0 := L0.trans hle
  clear hle
  go_wp2_with fail
  refine (iValidTrace_any _ _ _ xs _ S).mono ?_
  rintro e w5 ⟨rfl, hle⟩
  replace S := S.le hle
  replace S3 := S3.le hle
  replace L0 := L0.trans hle
  clear hle
  cases h1 : vTr xs
  · go_wp2_with fail
    refine (Calls.sl1 (by decide) (sTrimTrace_any _ _ _ xs a _ S hai)).mono ?_
    rintro e w6 ⟨A5, c5, rfl, S5, hle⟩
    replace S := S.le hle
    replace S3 := S3.le hle
    replace L0 := L0.trans hle
    clear hle
    go_wp2_with fail
    refine (equalTrace_self _ _ _ _ _ _ _ S3 S5).mono ?_
    rintro e w7 ⟨rfl, hle⟩
    replace L0 := L0.trans hle
    clear hle
    go_wp2
    go_ret
    exact ⟨rfl, L0⟩
  · have hX : trimX xs a = trimR xs a := trimX_of h1
    have hlen := S.len
    clear S4
    by_cases h2 : a < 0
    · have d1 : decide (a < 0) = true := decide_eq_true h2
      have d2 : ((trimX xs a).length : Int) ≤ (m : Int) := by
        rw [hX]; unfold trimR; rw [if_neg (by omega)]; simp; omega
      generalize (trimX xs a).length = q at *
      have d3 : decide ((q : Int) ≤ (m : Int)) = true := decide_eq_true d2
      have d4 : decide (q ≤ m) = true := decide_eq_true (by omega)
      clear d2
      go_wp2
      go_ret
      exact ⟨rfl, L0⟩
    · obtain ⟨k, rfl⟩ : ∃ k : Nat, a = k := ⟨a.toNat, by omega⟩
      have hT : trimR xs (k : Int) = xs.take k := trim_pos
      by_cases h3 : m ≤ k
      · have d3 : decide (m ≤ k) = true := decide_eq_true h3
        have d2 : (trimX xs (k : Int)).length = m := by rw [hX, hT, List.length_take]; omega
        rw [d2]
        clear d2
        have d5 : decide ((m : Int) ≤ (m : Int)) = true := decide_eq_true (by omega)
        go_wp2
        go_ret
        exact ⟨rfl, L0⟩
      · have d3 : decide (m ≤ k) = false := decide_eq_false h3
        have d2 : (xs.take k).length = k := by rw [List.length_take]; omega
        have hw : IntKind.i64.wrap ((k : Int) - (m : Int)) = (k : Int) - (m : Int) := IntWalk.i64_in _ (by omega)
        have hL : trimX xs ((k : Int) - (m : Int)) = xs.drop k := by
          rw [trimX_of h1]
          show trimR xs _ = _
          by_cases h0 : k = 0
          · subst h0; exact (trim_all (.inr ⟨by omega, by omega⟩)).trans rfl
          · exact trim_neg (by omega) (by omega) (by omega)
        have hkk : ((k : Int) == (k : Int)) = true := by simp
        have hlt : k < m := by omega
        rw [hX, hT, d2] at S3 ⊢
        have HL := Lib.hid hL
        have HLEN := Lib.hid hlen
        clear hX hT hL h1 h2 h3
        go_wp2_with fail
        refine (Calls.sl1W (by decide) (iTrimTrace_any _ _ _ xs ((k : Int) - (m : Int)) _ S ⟨by omega, by omega⟩)).mono ?_
        rintro e w6 ⟨A5, c5, rfl, S5, hle⟩
        rw [HL.out, List.length_drop, HLEN.out] at S5 ⊢
        replace S := S.le hle
        replace S3 := S3.le hle
        replace L0 := L0.trans hle
        clear hle hlen
        have HU := Lib.hid S.under
        have L06 := L0
        clear L0
        go_wp2_with (first
          | (at_builtin; refine wpList_appendG (by rfl) _ _ 23 rfl w6.heap.size 28 i0 _ 24 Try.underlying23 hi hz0 hz1 hz2 rfl (.slice (some ⟨w6.heap.size, 0, none⟩) 0 0) 0 ([] : List Frm) rfl (own_empty (Nat.le_refl _) rfl) A3 k c3 (xs.take k) rfl (S3.alloc _) (by unfold maxLen; omega) (by omega) (Le.new w6 _).size ?_; intro v7 w7 O7 hg7 _; simp only [Nat.zero_add, List.nil_append] at O7; have L7 := (Le.new w6 (.cells #[] 28)).grown hg7 (fun j hj => by have e : w6.heap.size = j := (by injection hj); omega); have S5' := S5.le L7; have SX := S.le L7; have s7 := L7.size; clear hg7 S3 S5 S)
          | (at_builtin; refine wpList_appendG (by rfl) _ _ 23 rfl w6.heap.size 28 i0 _ 24 Try.underlying23 hi hz0 hz1 hz2 rfl v7 k (xs.take k) rfl O7 A5 (m - k) c5 (xs.drop k) rfl S5' (by unfold maxLen; omega) (by omega) s7 ?_; intro v8 w8 O8 hg8 _; have L8 := L7.grown hg8 (fun j hj => (O7.lt j hj).1); have S8 := SX.grown hg8 (fun hn a e h => by have h1 := HU.out hn a e; have h2 := (O7.lt _ h.symm).1; omega); clear hg8; rw [show k + (m - k) = m by omega, List.take_append_drop] at O8; obtain ⟨A8, c8, rfl⟩ := own_form O8))
        have S9 := own_sl O8 S8.ok
        replace L06 := L06.trans L8
        clear O8 O7 SX S5' L7 L8
        refine (equalTrace_self _ _ _ _ _ _ _ S9 S8).mono ?_
        rintro e w9 ⟨rfl, hle⟩
        go_wp2
        go_ret
        exact ⟨rfl, L06.trans hle⟩
end Go.Proofs.Ytakkmgeocmndjaa
