/- spec.CaughtBy -/
import Derived.Test.YtdookbcnodghnaaHE
namespace Go.Proofs.Ytdookbcnodghnaa
open Go.RowKit

def caughtK (xs : List Cls) (L : List Int) : Nat → List Int
  | 0 => []
  | k + 1 => caughtK xs L k ++ (if 0 ≤ firstC xs L (k : Int) 0 then [(k : Int)] else [])
theorem caughtK_len (xs : List Cls) (L : List Int) : ∀ k, (caughtK xs L k).length ≤ k
  | 0 => Nat.le_refl _
  | k + 1 => by
    have := caughtK_len xs L k
    unfold caughtK
    split <;> simp <;> omega
theorem caughtK_ok (xs : List Cls) (L : List Int) : ∀ k, k ≤ 8 → ∀ x ∈ caughtK xs L k, Enc.ok x
  | 0, _, x, h => nomatch h
  | k + 1, hk, x, h => by
    unfold caughtK at h
    rcases List.mem_append.1 h with h | h
    · exact caughtK_ok xs L k (by omega) x h
    · split at h
      · simp at h; subst h; exact ⟨by omega, by omega⟩
      · cases h
theorem caughtK_yes {xs : List Cls} {L : List Int} {k : Nat} (h : 0 ≤ firstC xs L (k : Int) 0) : caughtK xs L (k + 1) = caughtK xs L k ++ [(k : Int)] := by rw [caughtK, if_pos h]
theorem caughtK_no {xs : List Cls} {L : List Int} {k : Nat} (h : ¬ 0 ≤ firstC xs L (k : Int) 0) : caughtK xs L (k + 1) = caughtK xs L k := by rw [caughtK, if_neg h, List.append_nil]
def caughtX (xs : List Cls) (L : List Int) : List Int := cond (goodC xs L) (caughtK xs L xs.length) []
theorem caughtX_of {xs : List Cls} {L : List Int} {t : Bool} (h : goodC xs L = t) : caughtX xs L = cond t (caughtK xs L xs.length) [] := by unfold caughtX; rw [h]
theorem caughtX_len (xs : List Cls) (L : List Int) : (caughtX xs L).length ≤ 1048576 := by
  cases h : goodC xs L
  · rw [caughtX_of h]; simp
  · have := (goodC_of h).tree.hi
    have h2 := caughtK_len xs L xs.length
    rw [caughtX_of h]; show (caughtK xs L xs.length).length ≤ _; omega

set_option maxRecDepth 100000 in
theorem sCaughtBy_any (A B : Option Addr) (n cap m c : Nat) (xs : List Cls) (L : List Int) (w : World) (hR : Sl w A n cap xs) (hL : Sl w B m c L) :
    Calls Try.prog 46 #[.agg #[.slice A n cap], .slice B m c] w fun e w' => ∃ v, e = .returned v ∧ Owd 3 w w' v (caughtX xs L) ∧ Le w w' := by
  cases h1 : goodC xs L
  · have HF := Lib.hid (caughtX_of h1)
    go_enter Try.func46, Try.ntmps46
    go_wp2_with fail
    obtain ⟨c0, z0, hleB⟩ := box1 w (.slice A n cap) 25
    have L0 := hleB
    clear hleB
    generalize w.alloc (.cells #[.slice A n cap] 25) = W at *
    refine (goodCatches_any A B n cap m c xs L _ (hR.le L0) (hL.le L0)).mono ?_
    rintro e w2 ⟨rfl, hle⟩
    rw [h1]
    clear h1
    go_wp2
    go_ret
    exact ⟨_, rfl, by rw [HF.out]; exact Owd.nil _ _ _, L0.trans hle⟩
  · have gc := goodC_of h1
    have HF := Lib.hid (caughtX_of h1)
    obtain ⟨i0, hi, hz0, hz1, hz2⟩ := info_parts intInfo
    have hhi := gc.tree.hi
    have HOK := Lib.hid (caughtK_ok xs L xs.length hhi)
    have HN := Lib.hid hR.len
    go_enter Try.func46, Try.ntmps46
    go_wp2_with fail
    obtain ⟨c0, z0, hleB⟩ := box1 w (.slice A n cap) 25
    have L0 := hleB
    clear hleB
    generalize w.alloc (.cells #[.slice A n cap] 25) = W at *
    have S1 := hR.le L0
    have S2 := hL.le L0
    refine (goodCatches_any A B n cap m c xs L _ S1 S2).mono ?_
    rintro e w2 ⟨rfl, hle⟩
    rw [h1]
    clear h1
    replace c0 := (hle.cell z0).trans c0
    replace z0 := Nat.lt_of_lt_of_le z0 hle.size
    replace S1 := S1.le hle
    replace S2 := S2.le hle
    replace L0 := L0.trans hle
    clear hle
    go_wp2
    go_loopw [5, 6] (fun v i wr => ∃ k : Nat, k ≤ xs.length ∧ i = .int .i64 k ∧ wr.ownsRow w2.heap.size 3 1 v (caughtK xs L k).length ((caughtK xs L k).flatMap Enc.cells) ∧ Le w2 wr) (fun _ i _ => xs.length - (intOf i).toNat)
    case atStart => exact ⟨0, Nat.zero_le _, rfl, own_empty (Nat.le_refl _) rfl, Le.new _ _⟩
    case round =>
      obtain ⟨k, hk, rfl, O1, hle⟩ := hrel
      have LW := L0
      replace c0 := (hle.cell z0).trans c0
      replace z0 := Nat.lt_of_lt_of_le z0 hle.size
      replace S1 := S1.le hle
      replace S2 := S2.le hle
      replace L0 := L0.trans hle
      have hnn : n = xs.length := HN.out.symm
      by_cases hlt : k < xs.length
      · have hkn : (k : Int) < n := by omega
        have HNN := Lib.hid hnn; clear hnn
        have E0 := cell_ext z0 c0
        have hbl := caughtK_len xs L k
        by_cases h1 : 0 ≤ firstC xs L (k : Int) 0
        all_goals
          first | have hd1 : decide (0 ≤ firstC xs L (k : Int) 0) = true := decide_eq_true h1 | have hd1 : decide (0 ≤ firstC xs L (k : Int) 0) = false := decide_eq_false h1
          first | have HB := Lib.hid (caughtK_yes h1) | have HB := Lib.hid (caughtK_no h1)
          clear h1
          go_wp2_with fail
          refine (firstCatch_any _ _ _ _ _ _ xs L (k : Int) _ S1 S2 gc.tree (by omega) (by omega)).mono ?_
          rintro e w4 ⟨rfl, hle2⟩
          replace O1 := own_le O1 hle2
          replace hle := hle.trans hle2
          have hsz := hle.size
          clear E0 c0 S1 S2 L0 hle2
        · go_wp2_with (at_builtin; refine wpList_append_own _ rfl _ _ 38 rfl w2.heap.size 3 i0 (.int .i64 0) 1 8 Try.underlying38 hi hz0 hz1 hz2 rfl (by decide) _ _ _ rfl (O1.alloc _) ⟨w4.heap.size, 0, none⟩ 1 1 [.int .i64 k] rfl rfl ?c1 ?c2 (by unfold maxLen; omega) (by omega) ?c5 ?_)
          case c1 => exact one_new _ _ _
          case c2 => intro u hu; simp at hu; subst hu; rfl
          case c5 => simp; omega
          intro v1 w1 hown1 hg1 _
          have hle1 := (hle.alloc (.cells #[.int .i64 (k : Int)] 3)).grown hg1 (fun k hk => (O1.lt k hk).1)
          go_wp2
          go_roundw
          case rel => exact ⟨k + 1, by omega, by go_num, by rw [HB.out]; simpa [Enc.cells] using hown1, hle1⟩
          case measure => simp [intOf]; omega
        · go_wp2
          go_roundw
          case rel => exact ⟨k + 1, by omega, by go_num, by rw [HB.out]; exact O1, hle⟩
          case measure => simp [intOf]; omega
      · have hk' : k = xs.length := by omega
        have hkn : ¬ (k : Int) < n := by omega
        have HNN := Lib.hid hnn; clear hnn
        have HO : Hid (Owd 3 w wr u5 (caughtX xs L)) := by
          show Owd _ _ _ _ _
          rw [HF.out]
          subst hk'
          exact ⟨own_mono O1 LW.size, HOK.out⟩
        clear O1 hk'
        go_wp2
        go_ret
        exact ⟨_, rfl, HO.out, L0⟩
end Go.Proofs.Ytdookbcnodghnaa
