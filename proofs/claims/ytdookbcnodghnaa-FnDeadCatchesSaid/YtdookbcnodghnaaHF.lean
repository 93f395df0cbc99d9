/- impl.FirstCatch -/
import Derived.Test.YtdookbcnodghnaaHD
namespace Go.Proofs.Ytdookbcnodghnaa
open Go.RowKit
theorem iFirstCatch_any (A B : Option Addr) (n cap m c : Nat) (xs : List Cls) (L : List Int) (a : Int) (w : World) (hR : Sl w A n cap xs) (hL : Sl w B m c L) :
    Calls Try.prog 39 #[.agg #[.slice A n cap], .slice B m c, .int .i64 a] w fun e w' => e = .returned (.int .i64 (firstX xs L a)) ∧ Le w w' := by
  have L0 := Le.new w (.cells #[.slice A n cap] 25)
  go_enter Try.func39, Try.ntmps39
  go_wp2_with fail
  refine (nodesOf_any A n cap xs _ (hR.alloc _)).mono ?_
  intro e w2 hout
  obtain ⟨hle, A2, n2, gs, rfl, S2, hcase⟩ := nodes_one hout
  replace L0 := L0.trans hle
  clear hout hle
  have S3 := hL.le L0
  go_wp2_with fail
  refine (handlersOf_any A2 B n2 m c gs xs L _ S2 hcase S3).mono ?_
  rintro e w3 ⟨hle, hcs⟩
  have S4 := S2.le hle
  replace L0 := L0.trans hle
  rcases hcs with ⟨h1, rfl⟩ | ⟨h1, H, ch, rfl, S5⟩
  · have HF := Lib.hid (firstX_of (xs := xs) (L := L) (a := a) (t := false) (by rw [h1]; rfl))
    clear hcase h1
    go_wp2_with fail
    refine (nodeAt_any _ _ _ gs a _ S4).mono ?_
    rintro e w3 ⟨rfl, rfl⟩
    go_wp2
    go_ret
    exact ⟨ret_int HF.out.symm, L0⟩
  · have gc := goodC_of h1
    have ho : okTree xs = true := by unfold goodC at h1; simp at h1; exact h1.1.1
    rcases hcase with ⟨h0, _⟩ | ⟨_, rfl, hN⟩
    · rw [ho] at h0; cases h0
    · replace hN := hN.le hle
      clear ho
      go_wp2_with fail
      refine (nodeAt_any _ _ _ gs a _ S4).mono ?_
      rintro e w3 ⟨rfl, rfl⟩
      rcases ptr_cases hN.len a with ⟨h2, h3⟩ | ⟨h2, j, hj, rfl, h3⟩
      · have HF := Lib.hid (firstX_of (xs := xs) (L := L) (a := a) (t := false) (by rw [h1, h2]; rfl))
        rw [h3]
        clear h1 h2 h3
        go_wp2
        go_ret
        exact ⟨ret_int HF.out.symm, L0⟩
      · have HF := Lib.hid (firstX_of (xs := xs) (L := L) (a := j) (t := true) (by rw [h1, h2]; rfl))
        have hc := Lib.hid (first_any H L.length ch gs xs L gc.tree gc.mem j (by have := hN.len; omega) (by omega) _ hN S5)
        rw [h3] at hc ⊢
        clear h1 h2 h3
        go_wp2_with fail
        refine hc.out.mono ?_
        rintro e w4 ⟨rfl, hle4⟩
        go_wp2
        go_ret
        exact ⟨ret_int HF.out.symm, L0.trans hle4⟩
end Go.Proofs.Ytdookbcnodghnaa
