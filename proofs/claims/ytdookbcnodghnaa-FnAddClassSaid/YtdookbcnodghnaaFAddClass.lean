/- the law FnAddClass -/
import Derived.Test.YtdookbcnodghnaaDD
import Derived.Test.YtdookbcnodghnaaLE
import Derived.Test.YtdookbcnodghnaaFAboveOf
import Derived.Test.YtdookbcnodghnaaPB
import Derived.Test.YtdookbcnodghnaaOI
import Derived.Test.YtdookbcnodghnaaJ
import Derived.Test.YtdookbcnodghnaaZ
import Derived.Test.YtdookbcnodghnaaHN
namespace Go.Proofs.Ytdookbcnodghnaa
open Go.RowKit

theorem Calls.tree2 {f : FuncId} {args : Array Value} {T : TypeId} {L : List Cls} {b : Bool} {w : World} (h : Calls Try.prog f args w fun e w' => ∃ v, e = .returned (.tuple #[.agg #[v], .bool b]) ∧ Owd T w w' v L ∧ Le w w') :
    Calls Try.prog f args w fun e w' => ∃ A c, e = .returned (.tuple #[.agg #[.slice A L.length c], .bool b]) ∧ Sl w' A L.length c L ∧ Le w w' :=
  h.mono fun _ _ ⟨v, he, ho, hl⟩ => by obtain ⟨A, c, e2, hs, _⟩ := ho.form (by decide); exact ⟨A, c, by rw [he, e2], hs, hl⟩
set_option maxHeartbeats 4000000 in
set_option maxRecDepth 100000 in
theorem fnAddClass_walk (A : Option Addr) (n cap : Nat) (bs : List By) (w : World) (hR : Sl w A n cap bs) :
    Calls Try.prog 8 #[.slice A n cap] w fun e w' => e = .returned (.bool true) ∧ Le w w' := by
  have hm := hR.n_le
  by_cases hbig : 1048576 < n
  · go_enter Try.func8, Try.ntmps8
    go_wp2
    go_ret
    exact ⟨rfl, Le.refl w⟩
  go_enter Try.func8, Try.ntmps8
  go_wp2_with fail
  refine (drawAddClass_any A n cap bs w hR).mono ?_
  rintro e w1 ⟨B, m, c, xs, s, p, rfl, S, hm8, _, hs, hp, L0⟩
  go_wp2_with fail
  obtain ⟨ct, zt, hleB⟩ := box1 w1 (.slice B m c) 25
  replace S := S.le hleB
  replace L0 := L0.trans hleB
  clear hleB
  generalize w1.alloc (.cells #[.slice B m c] 25) = W1 at *
  have hal := addX_len xs s p
  have hI := iAddClass_any B m c xs s p W1 S (by omega) (by omega)
  have HQ : Hid (∀ w, Sl w B m c xs → Calls Try.prog 36 #[.agg #[.slice B m c], .string s, .int .i64 p] w fun e w' => ∃ v, e = .returned (.tuple #[.agg #[v], .bool (addOk xs s p)]) ∧ Owd 31 w w' v (addX xs s p) ∧ Le w w') :=
    fun w h => sAddClass_any B m c xs s p w h (by omega) (by omega) (by omega)
  have hlen := S.len
  rcases Bool.eq_false_or_eq_true (addOk xs s p) with ho | ho
  · have D := added_of ho
    have hoo := addOk_ok ho
    have hX : addX xs s p = xs ++ [⟨s, p⟩] := by rw [addX_of ho]; rfl
    have hnl : (xs ++ [(⟨s, p⟩ : Cls)]).length = xs.length + 1 := by simp
    have kn : hasK (addX xs s p) (xs.length : Int) = true := by rw [hX, hasK_iff, hnl]; omega
    have kp : hasK (addX xs s p) p = true := by rw [hX, hasK_iff, hnl]; exact ⟨D.lo, by have := D.hi; omega⟩
    have okx : okTree (addX xs s p) = true := by rw [hX]; exact hoo.2
    have E1 : Hid (isAx (addX xs s p) (m : Int) p = true) := by
      show _ = _
      rw [← hlen, isAx_of okx kn kp (show isAL (addX xs s p) (xs.length : Int) p = true by rw [hX]; exact new_up D)]; rfl
    have E2 : Hid ((belowX (addX xs s p) (m : Int)).length = 1) := by
      show _ = _
      rw [← hlen, belowX_of (b := true) (by rw [okx, kn]; rfl)]
      show (belowK _ _ _).length = 1
      rw [hX]; exact below_new D
    have E3 : Hid (cNamed (addX xs s p) s = (m : Int)) := by
      show _ = _
      unfold cNamed
      rw [if_pos okx, hX, ← hlen]; exact new_named D
    have E4 : Hid ((aboveX (addX xs s p) (m : Int)).length = (aboveX xs p).length + 1) := by
      show _ = _
      rw [← hlen, aboveX_of (b := true) (by rw [okx, kn]; rfl), aboveX_of (xs := xs) (b := true) (by rw [hoo.1, hasK_iff.2 ⟨D.lo, D.hi⟩]; rfl)]
      show (aboveL _ _).length = (aboveL _ _).length + 1
      rw [hX, above_new D]; rfl
    clear D hoo hX hnl kn kp okx
    rw [ho] at hI HQ
    clear ho
    generalize addX xs s p = L at *
    refine (Calls.tree2 hI).mono ?_
    rintro e w2 ⟨A2, q2, rfl, S2, hle⟩
    replace ct := (hle.cell zt).trans ct
    replace zt := Nat.lt_of_lt_of_le zt hle.size
    replace S := S.le hle
    replace L0 := L0.trans hle
    clear hle hI
    go_wp2_with fail
    obtain ⟨co, zo, hleB⟩ := box1 w2 (.slice A2 L.length q2) 25
    replace ct := (hleB.cell zt).trans ct
    replace zt := Nat.lt_of_lt_of_le zt hleB.size
    replace S := S.le hleB
    replace L0 := L0.trans hleB
    replace S2 := S2.le hleB
    clear hleB
    generalize w2.alloc (.cells #[.slice A2 L.length q2] 25) = w3 at *
    refine (Calls.tree2 (HQ.out w3 S)).mono ?_
    rintro e w4 ⟨A4, q4, rfl, S4, hle⟩
    replace ct := (hle.cell zt).trans ct
    replace co := (hle.cell zo).trans co
    replace zt := Nat.lt_of_lt_of_le zt hle.size
    replace zo := Nat.lt_of_lt_of_le zo hle.size
    replace S := S.le hle
    replace L0 := L0.trans hle
    replace S2 := S2.le hle
    clear hle
    go_wp2_with fail
    obtain ⟨cv, zv, hleB⟩ := box1 w4 (.slice A4 L.length q4) 25
    replace ct := (hleB.cell zt).trans ct
    replace co := (hleB.cell zo).trans co
    replace zt := Nat.lt_of_lt_of_le zt hleB.size
    replace zo := Nat.lt_of_lt_of_le zo hleB.size
    replace S := S.le hleB
    replace L0 := L0.trans hleB
    replace S2 := S2.le hleB
    replace S4 := S4.le hleB
    clear hleB
    generalize w4.alloc (.cells #[.slice A4 L.length q4] 25) = w5 at *
    refine (equalTree_self A2 A4 _ q2 q4 L w5 S2 S4).mono ?_
    rintro e w6 ⟨rfl, hle⟩
    replace ct := (hle.cell zt).trans ct
    replace co := (hle.cell zo).trans co
    replace zt := Nat.lt_of_lt_of_le zt hle.size
    replace zo := Nat.lt_of_lt_of_le zo hle.size
    replace S := S.le hle
    replace L0 := L0.trans hle
    replace S2 := S2.le hle
    clear hle S4
    have hl1 := belowX_len L m
    have hl2 := aboveX_len L m
    have hl3 := aboveX_len xs p
    have e2 : (((belowX L m).length : Int) == 1) = true := by rw [E2.out]; rfl
    have e3 : (cNamed L s == (m : Int)) = true := by rw [E3.out]; simp
    have hw : IntKind.i64.wrap (((aboveX xs p).length : Int) + 1) = ((aboveX L m).length : Int) := by
      rw [E4.out]; exact IntWalk.i64_in _ (by omega)
    have e5 : (((aboveX L m).length : Int) == ((aboveX L m).length : Int)) = true := by simp
    have E2' := Lib.hid e2
    have E3' := Lib.hid e3
    clear e3
    go_wp2_with fail
    replace ct := (show w6.drew.cell? _ = _ from ct)
    replace zt := (show _ < w6.drew.heap.size from zt)
    replace co := (show w6.drew.cell? _ = _ from co)
    replace zo := (show _ < w6.drew.heap.size from zo)
    replace S := S.le (Le.refl _).drew
    replace L0 := L0.drew
    replace S2 := S2.le (Le.refl _).drew
    go_region_held3 (fun w' => w'.cell? ⟨w1.heap.size, 0, none⟩ = some (.slice B m c) ∧ w'.cell? ⟨w2.heap.size, 0, none⟩ = some (.slice A2 L.length q2))
      (first | exact ⟨ct, co⟩)
      (first
      | (go_at_call 24; have hzz := S10; refine (Calls.ints (iAboveOf_any B m c xs p _ S)).mono ?_; rintro e w11 ⟨A11, c11, rfl, S11, hle⟩; replace ct := (hle.cell zt).trans ct; replace co := (hle.cell zo).trans co; replace zt := Nat.lt_of_lt_of_le zt hle.size; replace zo := Nat.lt_of_lt_of_le zo hle.size; replace L0 := L0.trans hle; clear hle)
      | (go_at_call 24; refine (Calls.ints (iAboveOf_any A2 _ q2 L m _ S2)).mono ?_; rintro e w10 ⟨A10, c10, rfl, S10, hle⟩; replace ct := (hle.cell zt).trans ct; replace co := (hle.cell zo).trans co; replace zt := Nat.lt_of_lt_of_le zt hle.size; replace zo := Nat.lt_of_lt_of_le zo hle.size; replace S := S.le hle; replace L0 := L0.trans hle; replace S2 := S2.le hle; clear hle)
      | (go_at_call 15; refine (Calls.val (iClassNamed_any A2 _ q2 L s _ S2) (vi E3.out)).mono ?_; rintro e w9 ⟨rfl, hle⟩; replace ct := (hle.cell zt).trans ct; replace co := (hle.cell zo).trans co; replace zt := Nat.lt_of_lt_of_le zt hle.size; replace zo := Nat.lt_of_lt_of_le zo hle.size; replace S := S.le hle; replace L0 := L0.trans hle; replace S2 := S2.le hle; clear hle)
      | (go_at_call 23; refine (Calls.ints (iBelowOf_any A2 _ q2 L m _ S2)).mono ?_; rintro e w8 ⟨A8, c8, rfl, S8, hle⟩; replace ct := (hle.cell zt).trans ct; replace co := (hle.cell zo).trans co; replace zt := Nat.lt_of_lt_of_le zt hle.size; replace zo := Nat.lt_of_lt_of_le zo hle.size; replace S := S.le hle; replace L0 := L0.trans hle; replace S2 := S2.le hle; clear hle)
      | (go_at_call 19; refine (Calls.val (iIsA_any A2 _ q2 L m p _ S2) (vb E1.out)).mono ?_; rintro e w7 ⟨rfl, hle⟩; replace ct := (hle.cell zt).trans ct; replace co := (hle.cell zo).trans co; replace zt := Nat.lt_of_lt_of_le zt hle.size; replace zo := Nat.lt_of_lt_of_le zo hle.size; replace S := S.le hle; replace L0 := L0.trans hle; replace S2 := S2.le hle; clear hle)
      )
    go_wp2
    go_ret
    exact ⟨rfl, L0⟩
  · have hX : addX xs s p = [] := by rw [addX_of ho]; rfl
    rw [ho] at hI HQ
    clear ho hX
    generalize addX xs s p = L at *
    refine (Calls.tree2 hI).mono ?_
    rintro e w2 ⟨A2, q2, rfl, S2, hle⟩
    replace ct := (hle.cell zt).trans ct
    replace zt := Nat.lt_of_lt_of_le zt hle.size
    replace S := S.le hle
    replace L0 := L0.trans hle
    clear hle hI
    go_wp2_with fail
    obtain ⟨co, zo, hleB⟩ := box1 w2 (.slice A2 L.length q2) 25
    replace ct := (hleB.cell zt).trans ct
    replace zt := Nat.lt_of_lt_of_le zt hleB.size
    replace S := S.le hleB
    replace L0 := L0.trans hleB
    replace S2 := S2.le hleB
    clear hleB
    generalize w2.alloc (.cells #[.slice A2 L.length q2] 25) = w3 at *
    refine (Calls.tree2 (HQ.out w3 S)).mono ?_
    rintro e w4 ⟨A4, q4, rfl, S4, hle⟩
    replace ct := (hle.cell zt).trans ct
    replace co := (hle.cell zo).trans co
    replace zt := Nat.lt_of_lt_of_le zt hle.size
    replace zo := Nat.lt_of_lt_of_le zo hle.size
    replace S := S.le hle
    replace L0 := L0.trans hle
    replace S2 := S2.le hle
    clear hle
    go_wp2_with fail
    obtain ⟨cv, zv, hleB⟩ := box1 w4 (.slice A4 L.length q4) 25
    replace ct := (hleB.cell zt).trans ct
    replace co := (hleB.cell zo).trans co
    replace zt := Nat.lt_of_lt_of_le zt hleB.size
    replace zo := Nat.lt_of_lt_of_le zo hleB.size
    replace S := S.le hleB
    replace L0 := L0.trans hleB
    replace S2 := S2.le hleB
    replace S4 := S4.le hleB
    clear hleB
    generalize w4.alloc (.cells #[.slice A4 L.length q4] 25) = w5 at *
    refine (equalTree_self A2 A4 _ q2 q4 L w5 S2 S4).mono ?_
    rintro e w6 ⟨rfl, hle⟩
    replace ct := (hle.cell zt).trans ct
    replace co := (hle.cell zo).trans co
    replace cv := (hle.cell zv).trans cv
    replace zt := Nat.lt_of_lt_of_le zt hle.size
    replace zo := Nat.lt_of_lt_of_le zo hle.size
    replace zv := Nat.lt_of_lt_of_le zv hle.size
    replace S := S.le hle
    replace L0 := L0.trans hle
    replace S2 := S2.le hle
    replace S4 := S4.le hle
    clear hle
    go_wp2_with fail
    refine (equalTree_self A2 A4 _ q2 q4 L _ S2 S4).mono ?_
    rintro e w7 ⟨rfl, hle⟩
    replace L0 := L0.trans hle
    clear hle
    go_wp2
    go_ret
    exact ⟨rfl, L0⟩
end Go.Proofs.Ytdookbcnodghnaa
