import Derived.Test.YtdookbcnodghnaaCC
namespace Go.Proofs.Ytdookbcnodghnaa
open Go.RowKit

theorem firstIs_neg (xs : List Cls) : ∀ L : List Int, firstIs xs (-1) L = -1
  | [] => rfl
  | x :: r => by rw [firstIs, isAL_neg (by omega)]; exact firstIs_neg xs r

set_option maxHeartbeats 1000000 in
set_option maxRecDepth 100000 in
theorem iCommonClass_any (A : Option Addr) (n cap : Nat) (xs : List Cls) (a b : Int) (w : World) (hR : Sl w A n cap xs) :
    Calls Try.prog 32 #[.agg #[.slice A n cap], .int .i64 a, .int .i64 b] w fun e w' => e = .returned (.int .i64 (commonX xs a b)) ∧ Le w w' := by
  have hl := Le.new w (.cells #[.slice A n cap] 25)
  go_enter Try.func32, Try.ntmps32
  go_wp2_with fail
  refine (nodesOf_any A n cap xs _ (hR.alloc _)).mono ?_
  intro e w2 hout
  obtain ⟨hle, A2, n2, gs, rfl, hS2, hcase⟩ := nodes_one hout
  have hl2 := hl.trans hle
  clear hout hle hl
  go_wp2_with fail
  refine (nodeAt_any _ _ _ gs b _ hS2).mono ?_
  rintro e w3 ⟨rfl, rfl⟩
  go_wp2_with fail
  refine (nodeAt_any _ _ _ gs a _ hS2).mono ?_
  rintro e w3 ⟨rfl, rfl⟩
  by_cases hno : (okTree xs && hasK xs a) = true
  · have hab : okTree xs = true ∧ hasK xs a = true := by simpa using hno
    have g := good_of hab.1
    have hka := hasK_iff.1 hab.2
    rcases hcase with ⟨h0, _⟩ | ⟨h1, rfl, hN⟩
    · rw [hab.1] at h0; cases h0
    · have HL := Lib.hid hN.len
      obtain ⟨b', hb0, hb1, hpb, hcm⟩ : ∃ b' : Int, -1 ≤ b' ∧ b' < xs.length ∧ ptrOf gs b = ptrOf gs b' ∧ commonX xs a b = firstIs xs b' (aboveL xs a) := by
        rcases ptr_cases HL.out b with ⟨h2, h3⟩ | ⟨h2, j, hj, rfl, h3⟩
        · refine ⟨-1, by omega, by omega, by rw [h3, ptrOf_neg (by omega)], ?_⟩
          rw [commonX_of (t := false) (by rw [hno, h2]; rfl), firstIs_neg]; rfl
        · exact ⟨j, by omega, by have := HL.out; omega, rfl, by rw [commonX_of (t := true) (by rw [hno, h2]; rfl)]; rfl⟩
      rw [hpb]
      have HC := Lib.hid hcm
      clear hab hno h1 hpb hcm
      go_wp2
      go_loopw [9] (fun q wr => ∃ a' : Int, -1 ≤ a' ∧ a' < xs.length ∧ q = .pointer (ptrOf gs a') ∧ firstIs xs b' (aboveL xs a) = firstIs xs b' (aboveL xs a') ∧ w2 = wr) (fun q _ => blk q)
      case atStart => exact ⟨a, by omega, hka.2, rfl, rfl, rfl⟩
      case round =>
        obtain ⟨a', h1, h2, rfl, hr, rfl⟩ := hrel
        have HR := Lib.hid hr; clear hr
        rcases ptrOf_form (gs := gs) HL.out h2 with ⟨hp, h0⟩ | ⟨i, hi', rfl, hp⟩
        · have HF : Hid (commonX xs a b = -1) := by show _ = _; rw [HC.out, HR.out, aboveL_neg h0]; rfl
          rw [hp]
          clear hp
          go_wp2
          go_ret
          exact ⟨ret_int HF.out.symm, hl2⟩
        · have hx : i < xs.length := by omega
          have hpl := g.par_le hx
          have hc := Lib.hid (catches_any gs xs g i hi' b' hb1 hb0 w2 hN)
          have hid := hN.idx i hi'
          have hup := hN.up i hi' hx
          have HB := Lib.hid (blk_up hN g hi' hx)
          have HA : Hid (firstIs xs b' (aboveL xs (i : Int)) = if isAL xs b' i then (i : Int) else firstIs xs b' (aboveL xs xs[i].parent)) := by show _ = _; rw [aboveL_at g hx]; rfl
          rw [hp]
          clear hp
          cases hi1 : isAL xs b' i
          · have HF : Hid (firstIs xs b' (aboveL xs a) = firstIs xs b' (aboveL xs xs[i].parent)) := by show _ = _; rw [HR.out, HA.out, hi1]; rfl
            go_wp2_with fail
            refine hc.out.mono ?_
            rintro e w3 ⟨rfl, rfl⟩
            rw [hi1]
            go_wp2
            go_roundw
            case rel => exact ⟨xs[i].parent, by omega, by omega, rfl, HF.out, trivial⟩
            case measure => exact HB.out
          · have HF : Hid (commonX xs a b = i) := by show _ = _; rw [HC.out, HR.out, HA.out, hi1]; rfl
            go_wp2_with fail
            refine hc.out.mono ?_
            rintro e w3 ⟨rfl, rfl⟩
            rw [hi1]
            go_wp2
            go_ret
            exact ⟨ret_int HF.out.symm, hl2⟩
  · have h1 : (okTree xs && hasK xs a) = false := by simpa using hno
    have HF := Lib.hid (commonX_of (xs := xs) (a := a) (b := b) (t := false) (by rw [h1]; rfl))
    have hp : ptrOf gs a = none := by
      rcases hcase with ⟨h0, _, rfl⟩ | ⟨h0, _, hN⟩
      · exact ptrOf_nil a
      · rcases ptr_cases hN.len a with ⟨_, h⟩ | ⟨h, _⟩
        · exact h
        · rw [h0, h] at h1; cases h1
    rw [hp]
    clear hp hcase h1 hno
    go_wp2
    refine wp_loop_rounds 1 ?_
    rw [rounds_succ]
    go_wp2
    go_ret
    exact ⟨ret_int HF.out.symm, hl2⟩
end Go.Proofs.Ytdookbcnodghnaa
