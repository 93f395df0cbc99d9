/- spec.firstCatch, spec.FirstCatch -/
import Derived.Test.YtjcellhpmooifaaHB
namespace Go.Proofs.Ytjcellhpmooifaa
open Go.RowKit

set_option maxRecDepth 100000 in
theorem firstCatch_any (A B : Option Addr) (n cap m c : Nat) (xs : List Cls) (L : List Int) (a : Int) (w : World) (hR : Sl w A n cap xs) (hL : Sl w B m c L) (g : Good xs) (ha : a < xs.length) (ha0 : -1 ≤ a) :
    Calls Try.prog 113 #[.agg #[.slice A n cap], .slice B m c, .int .i64 a] w fun e w' => e = .returned (.int .i64 (firstC xs L a 0)) ∧ Le w w' := by
  obtain rfl := hL.len
  have hm := hL.n_le
  go_enter Try.func113, Try.ntmps113
  go_wp2
  obtain ⟨c0, z0, L0⟩ := box1 w (.slice A n cap) 31
  have S1 := hR.le L0
  have S2 := hL.le L0
  generalize w.alloc (.cells #[.slice A n cap] 31) = W at *
  go_loopw [7] (fun i wr => ∃ k : Nat, k ≤ L.length ∧ i = .int .i64 k ∧ firstC xs L a 0 = firstC xs (L.drop k) a k ∧ Le W wr) (fun i _ => L.length - (intOf i).toNat)
  case atStart => exact ⟨0, Nat.zero_le _, rfl, rfl, Le.refl _⟩
  case round =>
    obtain ⟨k, hk, rfl, hr, hle⟩ := hrel
    have HR := Lib.hid hr; clear hr
    replace c0 := (hle.cell z0).trans c0
    replace z0 := Nat.lt_of_lt_of_le z0 hle.size
    replace S1 := S1.le hle
    replace S2 := S2.le hle
    replace L0 := L0.trans hle
    by_cases hlt : k < L.length
    · obtain ⟨b, off, rfl, hb, hcell, _, _⟩ := S2.int_at hlt
      have E0 := cell_ext z0 c0
      have E1 := cell_ext hb hcell
      have HX : Hid (firstC xs L a 0 = if isAL xs a L[k] then (k : Int) else firstC xs (L.drop (k + 1)) a ((k + 1 : Nat) : Int)) := by show _ = _; rw [HR.out, firstC_at hlt]; rfl
      cases h1 : isAL xs a L[k]
      all_goals
        go_wp2_with fail
        refine wp_region_ext (by kernel_rfl) (by kernel_rfl) ?_
        repeat (go_big_quiet_step (first | (go_at_call 91; exact Calls.ext_of (Calls.val (isA_any _ _ _ xs _ _ _ (S1.ext _) g ha ha0) (vb h1)))))
        refine wpQuiet_nil ?_
        intro _ hw'
        obtain ⟨gg, rfl⟩ := hw'
        have hle2 := hle.trans (Le.ext wr gg)
        replace L0 := L0.trans (Le.ext wr gg)
        generalize wr.ext gg = W2 at *
        go_wp2
      · go_roundw
        case rel => exact ⟨k + 1, by omega, by go_num, by rw [HX.out, h1]; rfl, hle2⟩
        case measure => simp [intOf]; omega
      · go_ret
        exact ⟨ret_int (by rw [HX.out, h1]; rfl), L0⟩
    · have HF : Hid (firstC xs L a 0 = -1) := by show _ = _; rw [HR.out, firstC_end hlt]
      go_wp2
      go_ret
      exact ⟨ret_int HF.out.symm, L0⟩

end Go.Proofs.Ytjcellhpmooifaa
