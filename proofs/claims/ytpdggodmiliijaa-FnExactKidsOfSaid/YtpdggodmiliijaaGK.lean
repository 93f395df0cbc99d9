/- groups: impl.ValidGroup -/
import Derived.Test.YtpdggodmiliijaaGJ
namespace Go.Proofs.Ytpdggodmiliijaa
open Go.RowKit
theorem rng_small {g : List Prt} {k : Nat} (h : depthP g k = true) : 0 ≤ (gAt g k).depth ∧ (gAt g k).depth ≤ 5 := by
  unfold depthP at h
  by_cases h0 : k = 0
  · subst h0; rw [if_pos rfl] at h; simp at h; omega
  · rw [if_neg h0, rng_iff] at h; omega
set_option maxHeartbeats 1000000 in
theorem iValidGroup_any (A B : Option Addr) (n cap m c : Nat) (xs : List Cls) (g : List Prt) (w : World) (hT : Sl w A n cap xs) (hG : Sl w B m c g) :
    Calls Try.prog 52 #[.agg #[.slice A n cap], .slice B m c] w fun e w' => e = .returned (.bool (gOkP xs g)) ∧ Le w w' := by
  obtain rfl := hG.len
  have hm := hG.n_le
  have HF : Hid (gOkP xs g = (okTree xs && rng 1 16 g.length && allF2 (fun i => depthP g i && partP xs g i) 0 (g.length - 0))) := rfl
  cases h1 : okTree xs
  · rw [h1, Bool.false_and, Bool.false_and] at HF
    go_enter Try.func52, Try.ntmps52
    go_wp2_with fail
    refine (iValidTree_any _ _ _ xs _ (hT.alloc _)).mono ?_
    rintro e w2 ⟨rfl, hle⟩
    rw [h1]
    go_wp2
    go_ret
    exact ⟨ret_bool HF.out.symm, (Le.new _ _).trans hle⟩
  · rw [h1, Bool.true_and] at HF
    cases h2 : rng 1 16 g.length
    · rw [h2, Bool.false_and] at HF
      go_enter Try.func52, Try.ntmps52
      go_wp2_with fail
      refine (iValidTree_any _ _ _ xs _ (hT.alloc _)).mono ?_
      rintro e w2 ⟨rfl, hle⟩
      rw [h1]
      go_wp2_with (go_at_call 82; refine (giRange_any _ _ _ _).mono ?_; rintro e w' ⟨rfl, rfl⟩; rw [h2])
      go_ret
      exact ⟨ret_bool HF.out.symm, (Le.new _ _).trans hle⟩
    · rw [h2, Bool.true_and] at HF
      go_enter Try.func52, Try.ntmps52
      go_wp2_with fail
      refine (iValidTree_any _ _ _ xs _ (hT.alloc _)).mono ?_
      rintro e w2 ⟨rfl, hle⟩
      rw [h1]
      go_wp2_with (go_at_call 82; refine (giRange_any _ _ _ _).mono ?_; rintro e w' ⟨rfl, rfl⟩; rw [h2])
      have q0 : (w.alloc (.cells #[.slice A n cap] 32)).cell? ⟨w.heap.size, 0, none⟩ = some (.slice A n cap) := by rw [World.cell?_alloc_at _ _ _ _ rfl]; rfl
      have hz : w.heap.size < (w.alloc (.cells #[.slice A n cap] 32)).heap.size := by simp
      have hl := (Le.new w (.cells #[.slice A n cap] 32)).trans hle
      replace q0 := (hle.cell hz).trans q0
      replace hz := Nat.lt_of_lt_of_le hz hle.size
      replace hT := hT.le hl
      replace hG := hG.le hl
      clear hle
      generalize w.heap.size = TB at *
      go_loopw [17] (fun i wr => ∃ k : Nat, k ≤ g.length ∧ i = .int .i64 k ∧ gOkP xs g = allF2 (fun i => depthP g i && partP xs g i) k (g.length - k) ∧ (0 < k → 0 ≤ (gAt g (k - 1)).depth ∧ (gAt g (k - 1)).depth ≤ 5) ∧ Le w2 wr) (fun i _ => g.length - (intOf i).toNat)
      case atStart => exact ⟨0, Nat.zero_le _, rfl, HF.out, fun h => absurd h (Nat.lt_irrefl 0), Le.refl _⟩
      case round =>
        obtain ⟨k, hk, rfl, he, hprev, hle⟩ := hrel
        have HE := Lib.hid he
        clear he HF
        have TT := hT.le hle
        have TG := hG.le hle
        have c0 := (hle.cell hz).trans q0
        have zc := Nat.lt_of_lt_of_le hz hle.size
        have LR := hl.trans hle
        clear hT hG q0 hz
        by_cases hlt : k < g.length
        · rw [allF2_at hlt] at HE
          cases hd : depthP g k
          · have HE2 : Hid (gOkP xs g = false) := by show _ = _; rw [HE.out, hd]; rfl
            go_wp2_with fail
            refine (ivalidDepth_any _ _ _ g k hlt _ TG hprev).mono ?_
            rintro e w3 ⟨rfl, hle3⟩
            rw [hd]
            go_wp2
            go_ret
            exact ⟨ret_bool HE2.out.symm, LR.trans hle3⟩
          · cases hp : partP xs g k
            · have HE2 : Hid (gOkP xs g = false) := by show _ = _; rw [HE.out, hd, hp]; rfl
              go_wp2_with fail
              refine (ivalidDepth_any _ _ _ g k hlt _ TG hprev).mono ?_
              rintro e w3 ⟨rfl, hle3⟩
              rw [hd]
              replace c0 := (hle3.cell zc).trans c0
              go_wp2_with fail
              refine (ivalidPart_any _ _ _ _ _ _ xs g k hlt _ (TT.le hle3) (TG.le hle3)).mono ?_
              rintro e w4 ⟨rfl, hle4⟩
              rw [hp]
              go_wp2
              go_ret
              exact ⟨ret_bool HE2.out.symm, (LR.trans hle3).trans hle4⟩
            · have HE2 : Hid (gOkP xs g = allF2 (fun i => depthP g i && partP xs g i) (k + 1) (g.length - (k + 1))) := by show _ = _; rw [HE.out, hd, hp]; rfl
              have HN := Lib.hid (rng_small hd)
              clear HE
              go_wp2_with fail
              refine (ivalidDepth_any _ _ _ g k hlt _ TG hprev).mono ?_
              rintro e w3 ⟨rfl, hle3⟩
              rw [hd]
              replace c0 := (hle3.cell zc).trans c0
              go_wp2_with fail
              refine (ivalidPart_any _ _ _ _ _ _ xs g k hlt _ (TT.le hle3) (TG.le hle3)).mono ?_
              rintro e w4 ⟨rfl, hle4⟩
              rw [hp]
              go_wp2
              go_roundw
              case rel => exact ⟨k + 1, by omega, by go_num, HE2.out, fun _ => HN.out, (hle.trans hle3).trans hle4⟩
              case measure => simp [intOf]; omega
        · rw [allF2_end hlt] at HE
          go_wp2
          go_ret
          exact ⟨ret_bool HE.out.symm, LR⟩
end Go.Proofs.Ytpdggodmiliijaa
