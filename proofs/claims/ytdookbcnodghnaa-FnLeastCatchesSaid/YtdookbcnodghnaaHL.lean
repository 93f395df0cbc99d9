/- spec.LeastCatches -/
import Derived.Test.YtdookbcnodghnaaHE
namespace Go.Proofs.Ytdookbcnodghnaa
open Go.RowKit

def allN (xs : List Cls) (a : Int) : List Int → Bool
  | [] => true
  | b :: r => (b == a || !isAL xs a b) && allN xs a r
theorem allN_at {xs : List Cls} {a : Int} {L : List Int} {k : Nat} (h : k < L.length) : allN xs a (L.drop k) = ((L[k] == a || !isAL xs a L[k]) && allN xs a (L.drop (k + 1))) := by
  rw [List.drop_eq_getElem_cons h]; rfl
theorem allN_end {xs : List Cls} {a : Int} {L : List Int} {k : Nat} (h : ¬ k < L.length) : allN xs a (L.drop k) = true := by
  rw [List.drop_eq_nil_of_le (by omega)]; rfl
def needC (xs : List Cls) (L : List Int) (a : Int) : Bool := hasI L a && allN xs a L
def leastK (xs : List Cls) (L : List Int) : Nat → List Int
  | 0 => []
  | k + 1 => leastK xs L k ++ (if needC xs L (k : Int) then [(k : Int)] else [])
theorem leastK_len (xs : List Cls) (L : List Int) : ∀ k, (leastK xs L k).length ≤ k
  | 0 => Nat.le_refl _
  | k + 1 => by
    have := leastK_len xs L k
    unfold leastK
    split <;> simp <;> omega
theorem leastK_mem (xs : List Cls) (L : List Int) : ∀ k x, x ∈ leastK xs L k ↔ 0 ≤ x ∧ x < k ∧ needC xs L x = true
  | 0, x => by simp [leastK]; omega
  | k + 1, x => by
    unfold leastK
    rw [List.mem_append, leastK_mem xs L k x]
    cases h : needC xs L (k : Int)
    · simp only [Bool.false_eq_true, if_false, List.not_mem_nil, or_false]
      constructor
      · rintro ⟨h0, h1, h2⟩; exact ⟨h0, by omega, h2⟩
      · rintro ⟨h0, h1, h2⟩
        have : x ≠ k := fun e => by subst e; rw [h] at h2; cases h2
        exact ⟨h0, by omega, h2⟩
    · simp
      constructor
      · rintro (⟨h0, h1, h2⟩ | rfl)
        · exact ⟨h0, by omega, h2⟩
        · exact ⟨by omega, by omega, h⟩
      · rintro ⟨h0, h1, h2⟩
        by_cases e : x = k
        · exact .inr e
        · exact .inl ⟨h0, by omega, h2⟩
theorem leastK_asc (xs : List Cls) (L : List Int) : ∀ k, (leastK xs L k).Pairwise (· < ·)
  | 0 => by simp [leastK]
  | k + 1 => by
    unfold leastK
    rw [List.pairwise_append]
    refine ⟨leastK_asc xs L k, by split <;> simp, fun a ha b hb => ?_⟩
    have h1 := (leastK_mem xs L k a).1 ha
    split at hb
    · simp at hb; omega
    · cases hb
theorem leastK_yes {xs : List Cls} {L : List Int} {k : Nat} (h : needC xs L (k : Int) = true) : leastK xs L (k + 1) = leastK xs L k ++ [(k : Int)] := by rw [leastK, if_pos h]
theorem leastK_no {xs : List Cls} {L : List Int} {k : Nat} (h : needC xs L (k : Int) = false) : leastK xs L (k + 1) = leastK xs L k := by rw [leastK, h]; simp
def leastX (xs : List Cls) (L : List Int) : List Int := cond (goodC xs L) (leastK xs L xs.length) []
theorem leastX_of {xs : List Cls} {L : List Int} {t : Bool} (h : goodC xs L = t) : leastX xs L = cond t (leastK xs L xs.length) [] := by unfold leastX; rw [h]
theorem leastK_ok (xs : List Cls) (L : List Int) (k : Nat) (hk : k ≤ 8) : ∀ x ∈ leastK xs L k, Enc.ok x := by
  intro x hx
  have := (leastK_mem xs L k x).1 hx
  exact ⟨by omega, by omega⟩
theorem leastX_len (xs : List Cls) (L : List Int) : (leastX xs L).length ≤ 1048576 := by
  cases h : goodC xs L
  · rw [leastX_of h]; simp
  · have := (goodC_of h).tree.hi
    have h2 := leastK_len xs L xs.length
    rw [leastX_of h]; show (leastK xs L xs.length).length ≤ _; omega

set_option maxHeartbeats 2000000 in
set_option maxRecDepth 100000 in
theorem sLeastCatches_any (A B : Option Addr) (n cap m c : Nat) (xs : List Cls) (L : List Int) (w : World) (hR : Sl w A n cap xs) (hL : Sl w B m c L) :
    Calls Try.prog 49 #[.agg #[.slice A n cap], .slice B m c] w fun e w' => ∃ v, e = .returned v ∧ Owd 3 w w' v (leastX xs L) ∧ Le w w' := by
  cases h1 : goodC xs L
  · have HF := Lib.hid (leastX_of h1)
    go_enter Try.func49, Try.ntmps49
    go_wp2_with fail
    obtain ⟨c0, z0, hleB⟩ := box1 w (.slice A n cap) 25
    have L0 := hleB
    clear hleB
    generalize w.alloc (.cells #[.slice A n cap] 25) = W at *
    refine (goodCatches_any A B n cap m c xs L _ (hR.le L0) (hL.le L0)).mono ?_
    rintro e w2 ⟨rfl, hle⟩
    rw [h1]
    clear h1
    go_wp2
    go_ret
    exact ⟨_, rfl, by rw [HF.out]; exact Owd.nil _ _ _, L0.trans hle⟩
  · have gc := goodC_of h1
    have HF := Lib.hid (leastX_of h1)
    obtain ⟨i0, hi, hz0, hz1, hz2⟩ := info_parts intInfo
    have hhi := gc.tree.hi
    have HOK := Lib.hid (leastK_ok xs L xs.length hhi)
    have HN := Lib.hid hR.len
    have HLn := Lib.hid hL.len
    have hlm := hL.n_le
    go_enter Try.func49, Try.ntmps49
    go_wp2_with fail
    obtain ⟨c0, z0, hleB⟩ := box1 w (.slice A n cap) 25
    have L0 := hleB
    clear hleB
    generalize w.alloc (.cells #[.slice A n cap] 25) = W at *
    have S1 := hR.le L0
    have S2 := hL.le L0
    refine (goodCatches_any A B n cap m c xs L _ S1 S2).mono ?_
    rintro e w2 ⟨rfl, hle⟩
    rw [h1]
    clear h1
    replace c0 := (hle.cell z0).trans c0
    replace z0 := Nat.lt_of_lt_of_le z0 hle.size
    replace S1 := S1.le hle
    replace S2 := S2.le hle
    replace L0 := L0.trans hle
    clear hle
    go_wp2
    go_loopw [5, 6, 7, 8] (fun v i _ _ wr => ∃ k : Nat, k ≤ xs.length ∧ i = .int .i64 k ∧ wr.ownsRow w2.heap.size 3 1 v (leastK xs L k).length ((leastK xs L k).flatMap Enc.cells) ∧ Le w2 wr) (fun _ i _ _ _ => xs.length - (intOf i).toNat)
    case atStart => exact ⟨0, Nat.zero_le _, rfl, own_empty (Nat.le_refl _) rfl, Le.new _ _⟩
    case round =>
      obtain ⟨wo, rfl⟩ : ∃ wo : World, wo = wr := ⟨_, rfl⟩
      obtain ⟨k, hk, rfl, O1, hle⟩ := hrel
      have LW := L0
      replace c0 := (hle.cell z0).trans c0
      replace z0 := Nat.lt_of_lt_of_le z0 hle.size
      replace S1 := S1.le hle
      replace S2 := S2.le hle
      replace L0 := L0.trans hle
      have hnn : n = xs.length := HN.out.symm
      by_cases hlt : k < xs.length
      · have hkn : (k : Int) < n := by omega
        have HNN := Lib.hid hnn; clear hnn
        go_wp2_with fail
        refine (hasInt_any _ _ _ L (k : Int) _ S2).mono ?_
        rintro e w3 ⟨rfl, rfl⟩
        go_wp2
        have HQ : Hid (needC xs L (k : Int) = (hasI L (k : Int) && allN xs (k : Int) (L.drop 0))) := by show _ = _; rfl
        obtain rfl : L.length = m := HLn.out
        go_loopw [7, 8] (fun q i wr => ∃ j : Nat, ∃ b : Bool, j ≤ L.length ∧ i = .int .i64 j ∧ q = .bool b ∧ needC xs L (k : Int) = (b && allN xs (k : Int) (L.drop j)) ∧ Le wo wr) (fun _ i _ => L.length - (intOf i).toNat)
        case atStart => exact ⟨0, _, Nat.zero_le _, rfl, rfl, HQ.out, Le.refl _⟩
        case round =>
          obtain ⟨j, bq, hj, rfl, rfl, hr, hle2⟩ := hrel
          have HR := Lib.hid hr; clear hr
          have S3 := S1.le hle2
          have S4 := S2.le hle2
          have c1 := (hle2.cell z0).trans c0
          have z1 := Nat.lt_of_lt_of_le z0 hle2.size
          by_cases hjl : j < L.length
          · obtain ⟨b, off, rfl, hb, hcell, _, _⟩ := S4.int_at hjl
            have E0 := cell_ext z1 c1
            have E1 := cell_ext hb hcell
            have HX : Hid (needC xs L (k : Int) = ((bq && (L[j] == (k : Int) || !isAL xs (k : Int) L[j])) && allN xs (k : Int) (L.drop (j + 1)))) := by show _ = _; rw [HR.out, allN_at hjl, Bool.and_assoc]
            cases bq
            all_goals cases he : L[j] == (k : Int)
            all_goals cases ha : isAL xs (k : Int) L[j]
            all_goals
              have hx2 := HX.out
              simp only [he, ha] at hx2
              have HY := Lib.hid hx2
              clear hx2 HX
              go_wp2_with fail
              refine wp_region_ext (by kernel_rfl) (by kernel_rfl) ?_
              repeat (go_big_quiet_step (first | (go_at_call 68; exact Calls.ext_of (Calls.val (isA_any _ _ _ xs _ _ _ (S3.ext _) gc.tree (by omega) (by omega)) (vb ha)))))
              refine wpQuiet_nil ?_
              intro _ hw'
              obtain ⟨gg, rfl⟩ := hw'
              have hle3 := hle2.trans (Le.ext wr gg)
              clear E0 E1 hcell c1
              generalize wr.ext gg = W2 at *
              go_wp2
              go_roundw
              case rel => exact ⟨j + 1, _, by omega, by go_num, rfl, by rw [HY.out]; rfl, hle3⟩
              case measure => simp [intOf]; omega
          · have hX : needC xs L (k : Int) = bq := by rw [HR.out, allN_end hjl, Bool.and_true]
            replace O1 := own_le O1 hle2
            have hle3 := hle.trans hle2
            have hsz := hle3.size
            have hbl := leastK_len xs L k
            cases bq
            · have HB := Lib.hid (leastK_no hX)
              clear hX
              go_wp2
              go_roundw
              case rel => exact ⟨k + 1, by omega, by go_num, by rw [HB.out]; exact O1, hle3⟩
              case measure => simp [intOf]; omega
            · have HB := Lib.hid (leastK_yes hX)
              clear hX
              go_wp2_with (at_builtin; refine wpList_append_own _ rfl _ _ 38 rfl w2.heap.size 3 i0 (.int .i64 0) 1 8 Try.underlying38 hi hz0 hz1 hz2 rfl (by decide) _ _ _ rfl (O1.alloc _) ⟨wr.heap.size, 0, none⟩ 1 1 [.int .i64 k] rfl rfl (one_new _ _ _) (by intro u hu; simp at hu; subst hu; rfl) (by unfold maxLen; omega) (by omega) (by simp; omega) ?_)
              intro v1 w1 hown1 hg1 _
              have hle1 := (hle3.alloc (.cells #[.int .i64 (k : Int)] 3)).grown hg1 (fun k hk => (O1.lt k hk).1)
              go_wp2
              go_roundw
              case rel => exact ⟨k + 1, by omega, by go_num, by rw [HB.out]; simpa [Enc.cells] using hown1, hle1⟩
              case measure => simp [intOf]; omega
      · have hk' : k = xs.length := by omega
        have hkn : ¬ (k : Int) < n := by omega
        have HNN := Lib.hid hnn; clear hnn
        have HO : Hid (Owd 3 w wo u5 (leastX xs L)) := by
          show Owd _ _ _ _ _
          rw [HF.out]
          subst hk'
          exact ⟨own_mono O1 LW.size, HOK.out⟩
        clear O1 hk'
        go_wp2
        go_ret
        exact ⟨_, rfl, HO.out, L0⟩
end Go.Proofs.Ytdookbcnodghnaa
