/- the law FnHandleGroupLeast -/
import Derived.Test.YtkpnajffeclmdaaCl15
import Derived.Test.YtkpnajffeclmdaaCl30
import Derived.Test.YtkpnajffeclmdaaSlHP
import Derived.Test.YtkpnajffeclmdaaCl8
import Derived.Test.YtkpnajffeclmdaaCl31
import Derived.Test.YtkpnajffeclmdaaCl28
import Derived.Test.YtkpnajffeclmdaaHPP
namespace Go.Proofs.Ytkpnajffeclmdaa
open Go.RowKit
theorem iValid_S (A B : Option Addr) (n cap m c : Nat) (xs : List Cls) (g : List Prt) (w : World) (hT : Sl w A n cap xs) (hG : Sl w B m c g) :
    Calls Try.prog 12 #[.agg #[.slice A n cap], .slice B m c] w fun e w' => e = .returned (.bool (gOkS xs g)) ∧ Le w w' := by
  rw [gOk_same]; exact iValidGroup_any A B n cap m c xs g w hT hG
theorem first_some {xs : List Cls} {L : List Int} (h : goodC xs L = true) : (firstX xs L 0 == -2) = false := by
  have gc := goodC_of h
  have h1 : ∀ a : Int, 0 ≤ a ∧ a < xs.length → firstX xs L a = firstC xs L a 0 := fun a ha => firstX_of (t := true) (by rw [h, hasK_iff.2 ha]; rfl)
  rw [h1 0 ⟨Int.le_refl 0, by have := gc.tree.lo; omega⟩, beq_eq_false_iff_ne]
  rcases firstC_range xs 0 L 0 (by omega) with e | e <;> omega
set_option maxHeartbeats 4000000 in
set_option maxRecDepth 100000 in
theorem fnHandleGroupLeast_walk (A : Option Addr) (n cap : Nat) (bs : List By) (w : World) (hR : Sl w A n cap bs) :
    Calls Try.prog 7 #[.slice A n cap] w fun e w' => e = .returned (.bool true) ∧ Le w w' := by
  have hm := hR.n_le
  by_cases hbig : 1048576 < n
  · go_enter Try.func7, Try.ntmps7
    go_wp2
    go_ret
    exact ⟨rfl, Le.refl w⟩
  go_enter Try.func7, Try.ntmps7
  go_wp2_with fail
  refine (drawHandleGroup_any A n cap bs w hR).mono ?_
  rintro e w1 ⟨B, D, C, m, c, k, d, q, z, xs, L, cs, rfl, S, hm8, S2, hk40, hW, S9, hq8, L0⟩
  obtain rfl := S9.len
  go_wp2_with fail
  obtain ⟨ct, zt, hleB⟩ := box1 w1 (.slice B m c) 25
  replace S := S.le hleB
  replace L0 := L0.trans hleB
  replace S2 := S2.le hleB
  replace S9 := S9.le hleB
  clear hleB
  generalize w1.alloc (.cells #[.slice B m c] 25) = W1 at *
  go_wp2_with fail
  refine (Calls.hgL (iHandleGroup_any B D C m c k d _ z xs L cs W1 S S2 S9)).mono ?_
  rintro e w2 ⟨A2, B2, c2, d2, h2, rfl, S3, R3, S5, hle⟩
  replace ct := (hle.cell zt).trans ct
  replace zt := Nat.lt_of_lt_of_le zt hle.size
  replace S := S.le hle
  replace L0 := L0.trans hle
  replace S2 := S2.le hle
  replace S9 := S9.le hle
  clear hle
  go_wp2_with fail
  refine (Calls.hgL (sHandleGroup_any B D C m c k d _ z xs L cs w2 S S2 S9)).mono ?_
  rintro e w3 ⟨A3, B3, c3, d3, h3, rfl, S4, R4, S6, hle⟩
  replace ct := (hle.cell zt).trans ct
  replace zt := Nat.lt_of_lt_of_le zt hle.size
  replace S := S.le hle
  replace L0 := L0.trans hle
  replace S2 := S2.le hle
  replace S9 := S9.le hle
  replace S3 := S3.le hle
  replace R3 := R3.le hle
  replace S5 := S5.le hle
  clear hle
  go_wp2_with fail
  refine (equalGroups_self A2 A3 _ c2 c3 h2 h3 (hgTX xs L cs) w3 S3 R3 S4 R4).mono ?_
  rintro e w4 ⟨rfl, hle⟩
  replace ct := (hle.cell zt).trans ct
  replace zt := Nat.lt_of_lt_of_le zt hle.size
  replace S := S.le hle
  replace L0 := L0.trans hle
  replace S2 := S2.le hle
  replace S9 := S9.le hle
  replace S3 := S3.le hle
  replace R3 := R3.le hle
  replace S5 := S5.le hle
  replace S4 := S4.le hle
  replace R4 := R4.le hle
  replace S6 := S6.le hle
  clear hle
  have hlT : Hid ((hgTX xs L cs).length = cs.length → gOkS xs L = true → goodC xs cs = true) := fun h1 h2 => hg_good h2 h1
  go_wp2_with fail
  refine (equalGroup_self B2 B3 _ d2 d3 (hgRX xs L cs) w4 S5 S6).mono ?_
  rintro e w5 ⟨rfl, hle⟩
  replace ct := (hle.cell zt).trans ct
  replace zt := Nat.lt_of_lt_of_le zt hle.size
  replace S := S.le hle
  replace L0 := L0.trans hle
  replace S2 := S2.le hle
  replace S9 := S9.le hle
  replace S3 := S3.le hle
  replace R3 := R3.le hle
  replace S5 := S5.le hle
  replace S4 := S4.le hle
  replace R4 := R4.le hle
  replace S6 := S6.le hle
  clear hle
  by_cases hl : (hgTX xs L cs).length = cs.length
  rotate_left
  · have hlb : (((hgTX xs L cs).length : Int) != (cs.length : Int)) = true := by rw [bne_iff_ne]; omega
    clear hl
    go_wp2_with fail
    refine (equalGroups_self A2 A3 _ c2 c3 h2 h3 (hgTX xs L cs) w5 S3 R3 S4 R4).mono ?_
    rintro e w6 ⟨rfl, hle⟩
    replace L0 := L0.trans hle
    replace S5 := S5.le hle
    replace S6 := S6.le hle
    clear hle
    go_wp2_with fail
    refine (equalGroup_self B2 B3 _ d2 d3 (hgRX xs L cs) w6 S5 S6).mono ?_
    rintro e w7 ⟨rfl, hle⟩
    replace L0 := L0.trans hle
    clear hle
    go_wp2
    go_ret
    exact ⟨rfl, L0⟩
  have hlb : (((hgTX xs L cs).length : Int) != (cs.length : Int)) = false := by rw [hl]; simp
  have HL := Lib.hid hl
  clear hl
  go_wp2_with fail
  refine (iValid_S B D m c k d xs L w5 S S2).mono ?_
  rintro e w6 ⟨rfl, hle⟩
  replace ct := (hle.cell zt).trans ct
  replace zt := Nat.lt_of_lt_of_le zt hle.size
  replace S := S.le hle
  replace L0 := L0.trans hle
  replace S2 := S2.le hle
  replace S9 := S9.le hle
  replace S3 := S3.le hle
  replace R3 := R3.le hle
  replace S5 := S5.le hle
  replace S4 := S4.le hle
  replace R4 := R4.le hle
  replace S6 := S6.le hle
  clear hle
  cases ho : gOkS xs L
  · go_wp2_with fail
    refine (equalGroups_self A2 A3 _ c2 c3 h2 h3 (hgTX xs L cs) w6 S3 R3 S4 R4).mono ?_
    rintro e w7 ⟨rfl, hle⟩
    replace L0 := L0.trans hle
    replace S5 := S5.le hle
    replace S6 := S6.le hle
    clear hle
    go_wp2_with fail
    refine (equalGroup_self B2 B3 _ d2 d3 (hgRX xs L cs) w7 S5 S6).mono ?_
    rintro e w8 ⟨rfl, hle⟩
    replace L0 := L0.trans hle
    clear hle
    go_wp2
    go_ret
    exact ⟨rfl, L0⟩
  clear S4 R4 S6 hlb
  have hg := hlT.out HL.out ho
  obtain ⟨-, -, -, -, -, f6⟩ := hg_all ho hg
  have hf2 := first_some hg
  have HLC : Hid (∀ W, Le w6 W → Calls Try.prog 29 #[.agg #[.slice B m c], .slice C cs.length z] W fun e w' => ∃ A c, e = .returned (.slice A (leastX xs cs).length c) ∧ Sl w' A (leastX xs cs).length c (leastX xs cs) ∧ Le W w') := fun W LW => Calls.sl1o (by decide) (iLeastCatches_any B C m c _ z xs cs W (S.le LW) (S9.le LW))
  have HHG : Hid (∀ W (A8 : Option Addr) (c8 : Nat), Le w6 W → Sl W A8 (leastX xs cs).length c8 (leastX xs cs) → Calls Try.prog 18 #[.agg #[.slice B m c], .slice D k d, .slice A8 (leastX xs cs).length c8] W (HgL (hgTX xs L (leastX xs cs)) (hgRX xs L cs) W)) := fun W A8 c8 LW S8 => by rw [← f6]; exact Calls.hgL (iHandleGroup_any B D A8 m c k d _ c8 xs L (leastX xs cs) W (S.le LW) (S2.le LW) S8)
  clear f6 hg hlT
  generalize hgTX xs L (leastX xs cs) = M2 at *
  generalize hgTX xs L cs = M at *
  generalize hgRX xs L cs = R at *
  generalize leastX xs cs = lc at *
  have LC : Le w6 w6.drew := (Le.refl w6).drew
  go_wp2_with fail
  go_region_held3 (fun w' => w'.cell? ⟨w1.heap.size, 0, none⟩ = some (.slice B m c))
    (exact (LC.cell zt).trans ct)
    (first
    | (go_at_call 29; refine (HLC.out _ LC).mono ?_; rintro e w8 ⟨A8, c8, rfl, S8, hle⟩; replace LC := LC.trans hle; clear hle)
    | (go_at_call 18; refine (HHG.out _ A8 c8 LC S8).mono ?_; rintro e w9 ⟨A9, B9, c9, d9, h9, rfl, -, -, S10, hle⟩; replace LC := LC.trans hle; clear hle S8))
  all_goals
    replace ct := (LC.cell zt).trans ct
    replace zt := Nat.lt_of_lt_of_le zt LC.size
    replace S := S.le LC
    replace L0 := L0.trans LC
    replace S9 := S9.le LC
    replace S5 := S5.le LC
    go_wp2_with fail
    refine (iFirstCatch_any B C m c _ z xs cs 0 w9 S S9).mono ?_
    rintro e w10 ⟨rfl, hle⟩
    replace L0 := L0.trans hle
    replace S5 := S5.le hle
    replace S10 := S10.le hle
    clear hle
    go_wp2_with fail
    refine (equalGroup_self B9 B2 _ d9 d2 R w10 S10 S5).mono ?_
    rintro e w11 ⟨rfl, hle⟩
    replace L0 := L0.trans hle
    clear hle
    go_wp2
    go_ret
    exact ⟨rfl, L0⟩
end Go.Proofs.Ytkpnajffeclmdaa
