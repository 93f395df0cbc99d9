/- spec.goodCatches, spec.firstCatch -/
import Derived.Test.YtdookbcnodghnaaHA
namespace Go.Proofs.Ytdookbcnodghnaa
open Go.RowKit

set_option maxRecDepth 100000 in
theorem goodCatches_any (A B : Option Addr) (n cap m c : Nat) (xs : List Cls) (L : List Int) (w : World) (hR : Sl w A n cap xs) (hL : Sl w B m c L) :
    Calls Try.prog 75 #[.agg #[.slice A n cap], .slice B m c] w fun e w' => e = .returned (.bool (goodC xs L)) ∧ Le w w' := by
  obtain rfl := hL.len
  have hm := hL.n_le
  go_enter Try.func75, Try.ntmps75
  go_wp2
  obtain ⟨c0, z0, L0⟩ := box1 w (.slice A n cap) 25
  have S1 := hR.le L0
  have S2 := hL.le L0
  generalize w.alloc (.cells #[.slice A n cap] 25) = W at *
  go_loopw [5] (fun i wr => ∃ k : Nat, k ≤ L.length ∧ i = .int .i64 k ∧ goodL xs L = goodL xs (L.drop k) ∧ Le W wr) (fun i _ => L.length - (intOf i).toNat)
  case atStart => exact ⟨0, Nat.zero_le _, rfl, rfl, Le.refl _⟩
  case round =>
    obtain ⟨k, hk, rfl, hr, hle⟩ := hrel
    have HR := Lib.hid hr; clear hr
    replace c0 := (hle.cell z0).trans c0
    replace z0 := Nat.lt_of_lt_of_le z0 hle.size
    replace S1 := S1.le hle
    replace S2 := S2.le hle
    replace L0 := L0.trans hle
    by_cases hlt : k < L.length
    · obtain ⟨b, off, rfl, hb, hcell, _, _⟩ := S2.int_at hlt
      have E0 := cell_ext z0 c0
      have E1 := cell_ext hb hcell
      cases h1 : hasK xs L[k]
      all_goals
        have HF : Hid (goodL xs L = (hasK xs L[k] && goodL xs (L.drop (k + 1)))) := by show _ = _; rw [HR.out, goodL_at hlt]
        go_wp2_with fail
        refine wp_region_ext (by kernel_rfl) (by kernel_rfl) ?_
        repeat (go_big_quiet_step (first | (go_at_call 67; exact Calls.ext_of (Calls.val (hasClass_any _ _ _ xs _ _ (S1.ext _)) (vb h1)))))
        refine wpQuiet_nil ?_
        intro _ hw'
        obtain ⟨g, rfl⟩ := hw'
        have hle2 := hle.trans (Le.ext wr g)
        replace L0 := L0.trans (Le.ext wr g)
        generalize wr.ext g = W2 at *
        go_wp2
      · go_ret
        exact ⟨ret_bool (by unfold goodC; rw [HF.out, h1]; simp), L0⟩
      · go_roundw
        case rel => exact ⟨k + 1, by omega, by go_num, by rw [HF.out, h1]; rfl, hle2⟩
        case measure => simp [intOf]; omega
    · have HF : Hid (goodL xs L = true) := by show _ = _; rw [HR.out, goodL_end hlt]
      cases hok : okTree xs
      all_goals
        go_wp2_with fail
        refine (validTree_any A n cap xs _ S1).mono ?_
        rintro e w2 ⟨rfl, hle2⟩
        rw [hok]
        go_wp2
        go_ret
        exact ⟨ret_bool (by unfold goodC; rw [HF.out, hok]; simp <;> omega), L0.trans hle2⟩
end Go.Proofs.Ytdookbcnodghnaa
