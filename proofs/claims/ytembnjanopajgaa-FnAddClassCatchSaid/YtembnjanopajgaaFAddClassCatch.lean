/- the law FnAddClassCatch -/
import Derived.Test.YtembnjanopajgaaDD
import Derived.Test.YtembnjanopajgaaLE
import Derived.Test.YtembnjanopajgaaPB
import Derived.Test.YtembnjanopajgaaHN
import Derived.Test.YtembnjanopajgaaHK
import Derived.Test.YtembnjanopajgaaAP
import Derived.Deep.RegionHeld3
namespace Go.Proofs.Ytembnjanopajgaa
open Go.RowKit

def IntsOut (L : List Int) (w : World) (e : Ending) (w' : World) : Prop := ∃ A c, e = .returned (.slice A L.length c) ∧ Sl w' A L.length c L ∧ Le w w'
theorem Calls.intsO {f : FuncId} {args : Array Value} {T : TypeId} {L : List Int} {w : World} (h : Calls Try.prog f args w fun e w' => ∃ v, e = .returned v ∧ Owd T w w' v L ∧ Le w w') : Calls Try.prog f args w (IntsOut L w) :=
  h.mono fun _ _ ⟨v, he, ho, hl⟩ => by obtain ⟨A, c, e2, hs, _⟩ := ho.form (by decide); exact ⟨A, c, by rw [he, e2], hs, hl⟩
theorem Calls.tree2 {f : FuncId} {args : Array Value} {T : TypeId} {L : List Cls} {b : Bool} {w : World} (h : Calls Try.prog f args w fun e w' => ∃ v, e = .returned (.tuple #[.agg #[v], .bool b]) ∧ Owd T w w' v L ∧ Le w w') :
    Calls Try.prog f args w fun e w' => ∃ A c, e = .returned (.tuple #[.agg #[.slice A L.length c], .bool b]) ∧ Sl w' A L.length c L ∧ Le w w' :=
  h.mono fun _ _ ⟨v, he, ho, hl⟩ => by obtain ⟨A, c, e2, hs, _⟩ := ho.form (by decide); exact ⟨A, c, by rw [he, e2], hs, hl⟩
set_option maxHeartbeats 4000000 in
set_option maxRecDepth 100000 in
theorem fnAddClassCatch_walk (A : Option Addr) (n cap : Nat) (bs : List By) (w : World) (hR : Sl w A n cap bs) :
    Calls Try.prog 3 #[.slice A n cap] w fun e w' => e = .returned (.bool true) ∧ Le w w' := by
  have hm := hR.n_le
  by_cases hbig : 1048576 < n
  · go_enter Try.func3, Try.ntmps3
    go_wp2
    go_ret
    exact ⟨rfl, Le.refl w⟩
  go_enter Try.func3, Try.ntmps3
  go_wp2_with fail
  refine (drawAddClass_any A n cap bs w hR).mono ?_
  rintro e w1 ⟨B, m, c, xs, s, p, rfl, S, hm8, _, hs, hp, L0⟩
  go_wp2_with fail
  obtain ⟨ct, zt, hleB⟩ := box1 w1 (.slice B m c) 25
  replace S := S.le hleB
  replace L0 := L0.trans hleB
  clear hleB
  generalize w1.alloc (.cells #[.slice B m c] 25) = W1 at *
  have hal := addX_len xs s p
  have hI := iAddClass_any B m c xs s p W1 S (by omega) (by omega)
  have HQ : Hid (∀ w, Sl w B m c xs → Calls Try.prog 11 #[.agg #[.slice B m c], .string s, .int .i64 p] w fun e w' => ∃ v, e = .returned (.tuple #[.agg #[v], .bool (addOk xs s p)]) ∧ Owd 71 w w' v (addX xs s p) ∧ Le w w') :=
    fun w h => sAddClass_any B m c xs s p w h (by omega) (by omega) (by omega)
  have hlen := S.len
  rcases Bool.eq_false_or_eq_true (addOk xs s p) with ho | ho
  · have D := added_of ho
    have hoo := addOk_ok ho
    have hX : addX xs s p = xs ++ [⟨s, p⟩] := by rw [addX_of ho]; rfl
    have hnl : (xs ++ [(⟨s, p⟩ : Cls)]).length = xs.length + 1 := by simp
    have okx : okTree (addX xs s p) = true := by rw [hX]; exact hoo.2
    have E1 : Hid (∀ a : Nat, a < xs.length → hasI (caughtX (addX xs s p) [(a : Int)]) (m : Int) = hasI (caughtX xs [(a : Int)]) p) := by
      intro a ha
      have g1 : goodC xs [(a : Int)] = true := goodC_mk hoo.1 (fun b hb => by simp at hb; subst hb; omega) (by simp)
      have g2 : goodC (addX xs s p) [(a : Int)] = true := goodC_mk okx (fun b hb => by simp at hb; subst hb; rw [hX, hnl]; omega) (by simp)
      rw [caughtX_of g1, caughtX_of g2, ← hlen]
      show hasI (caughtK _ _ _) _ = hasI (caughtK _ _ _) _
      rw [hX]; exact new_caught D (by omega) (by omega)
    have hpi : -1 ≤ p ∧ p ≤ 8 := hp
    clear D hoo hX hnl okx
    rw [ho] at hI HQ
    clear ho
    generalize addX xs s p = L at *
    refine (Calls.tree2 hI).mono ?_
    rintro e w2 ⟨A2, q2, rfl, S2, hle⟩
    replace ct := (hle.cell zt).trans ct
    replace zt := Nat.lt_of_lt_of_le zt hle.size
    replace S := S.le hle
    replace L0 := L0.trans hle
    clear hle hI
    go_wp2_with fail
    obtain ⟨co, zo, hleB⟩ := box1 w2 (.slice A2 L.length q2) 25
    replace ct := (hleB.cell zt).trans ct
    replace zt := Nat.lt_of_lt_of_le zt hleB.size
    replace S := S.le hleB
    replace L0 := L0.trans hleB
    replace S2 := S2.le hleB
    clear hleB
    generalize w2.alloc (.cells #[.slice A2 L.length q2] 25) = w3 at *
    refine (Calls.tree2 (HQ.out w3 S)).mono ?_
    rintro e w4 ⟨A4, q4, rfl, S4, hle⟩
    replace ct := (hle.cell zt).trans ct
    replace co := (hle.cell zo).trans co
    replace zt := Nat.lt_of_lt_of_le zt hle.size
    replace zo := Nat.lt_of_lt_of_le zo hle.size
    replace S := S.le hle
    replace L0 := L0.trans hle
    replace S2 := S2.le hle
    clear hle
    go_wp2_with fail
    obtain ⟨cv, zv, hleB⟩ := box1 w4 (.slice A4 L.length q4) 25
    replace ct := (hleB.cell zt).trans ct
    replace co := (hleB.cell zo).trans co
    replace zt := Nat.lt_of_lt_of_le zt hleB.size
    replace zo := Nat.lt_of_lt_of_le zo hleB.size
    replace S := S.le hleB
    replace L0 := L0.trans hleB
    replace S2 := S2.le hleB
    replace S4 := S4.le hleB
    clear hleB
    generalize w4.alloc (.cells #[.slice A4 L.length q4] 25) = w5 at *
    refine (equalTree_self A2 A4 _ q2 q4 L w5 S2 S4).mono ?_
    rintro e w6 ⟨rfl, hle⟩
    replace ct := (hle.cell zt).trans ct
    replace co := (hle.cell zo).trans co
    replace zt := Nat.lt_of_lt_of_le zt hle.size
    replace zo := Nat.lt_of_lt_of_le zo hle.size
    replace S := S.le hle
    replace L0 := L0.trans hle
    replace S2 := S2.le hle
    clear hle S4
    go_wp2
    go_loopw [10] (fun i wr => ∃ a : Nat, i = .int .i64 a ∧ Le w6 wr) (fun i _ => m - (intOf i).toNat)
    case atStart => exact ⟨0, rfl, Le.refl _⟩
    case round =>
      obtain ⟨a, rfl, LW⟩ := hrel
      replace ct := (LW.cell zt).trans ct
      replace co := (LW.cell zo).trans co
      replace zt := Nat.lt_of_lt_of_le zt LW.size
      replace zo := Nat.lt_of_lt_of_le zo LW.size
      replace S := S.le LW
      replace L0 := L0.trans LW
      replace S2 := S2.le LW
      by_cases hlt : a < m
      · have hai : (a : Int) < m := by omega
        have he := E1.out a (by omega)
        have hc1 := caughtX_len L [(a : Int)]
        have hc2 := caughtX_len xs [(a : Int)]
        have hbb : (hasI (caughtX xs [(a : Int)]) p != hasI (caughtX xs [(a : Int)]) p) = false := by simp
        have SL := sl_one (w := wr) (cs := #[.int .i64 (a : Int)]) (T := 3) (a : Int) rfl ⟨by omega, by omega⟩ rfl
        have LN := Le.new wr (.cells #[.int .i64 (a : Int)] 3)
        go_wp2_with fail
        replace ct := (LN.cell zt).trans ct
        replace co := (LN.cell zo).trans co
        replace zt := Nat.lt_of_lt_of_le zt LN.size
        replace zo := Nat.lt_of_lt_of_le zo LN.size
        replace S := S.le LN
        replace L0 := L0.trans LN
        replace S2 := S2.le LN
        replace LW := LW.trans LN
        generalize wr.alloc (.cells #[.int .i64 (a : Int)] 3) = W2 at *
        replace ct := (show W2.drew.cell? _ = _ from ct)
        replace zt := (show _ < W2.drew.heap.size from zt)
        replace co := (show W2.drew.cell? _ = _ from co)
        replace zo := (show _ < W2.drew.heap.size from zo)
        replace S := S.le (Le.refl _).drew
        replace L0 := L0.drew
        replace S2 := S2.le (Le.refl _).drew
        replace LW := LW.drew
        replace SL := SL.le (Le.refl _).drew
        go_region_held3 (fun w' => w'.cell? ⟨w1.heap.size, 0, none⟩ = some (.slice B m c) ∧ w'.cell? ⟨w2.heap.size, 0, none⟩ = some (.slice A2 L.length q2))
          (first | exact ⟨ct, co⟩)
          (first
          | (go_at_call 14; have hzz := S8; refine (Calls.intsO (iCaughtBy_any B _ m c 1 1 xs [(a : Int)] _ S SL)).mono ?_; rintro e w9 ⟨A9, c9, rfl, S9, hle⟩; replace ct := (hle.cell zt).trans ct; replace co := (hle.cell zo).trans co; replace zt := Nat.lt_of_lt_of_le zt hle.size; replace zo := Nat.lt_of_lt_of_le zo hle.size; replace L0 := L0.trans hle; replace LW := LW.trans hle; clear hle)
          | (go_at_call 14; refine (Calls.intsO (iCaughtBy_any A2 _ L.length q2 1 1 L [(a : Int)] _ S2 SL)).mono ?_; rintro e w8 ⟨A8, c8, rfl, S8, hle⟩; replace ct := (hle.cell zt).trans ct; replace co := (hle.cell zo).trans co; replace zt := Nat.lt_of_lt_of_le zt hle.size; replace zo := Nat.lt_of_lt_of_le zo hle.size; replace S := S.le hle; replace L0 := L0.trans hle; replace LW := LW.trans hle; replace SL := SL.le hle; clear hle)
          | (go_at_call 13; have hzz := S9; refine (isIn_any A9 _ c9 _ p _ S9).mono ?_; rintro e w11 ⟨rfl, rfl⟩; )
          | (go_at_call 13; refine (Calls.val (isIn_any A8 _ c8 _ m _ S8) (vb he)).mono ?_; rintro e w10 ⟨rfl, rfl⟩; skip)
          )
        go_wp2
        go_roundw
        case rel => exact ⟨a + 1, by go_num, LW⟩
        case measure => simp [intOf]; omega
      · have hai : ¬ (a : Int) < m := by omega
        go_wp2
        go_ret
        exact ⟨rfl, L0⟩
  · have hX : addX xs s p = [] := by rw [addX_of ho]; rfl
    rw [ho] at hI HQ
    clear ho hX
    generalize addX xs s p = L at *
    refine (Calls.tree2 hI).mono ?_
    rintro e w2 ⟨A2, q2, rfl, S2, hle⟩
    replace ct := (hle.cell zt).trans ct
    replace zt := Nat.lt_of_lt_of_le zt hle.size
    replace S := S.le hle
    replace L0 := L0.trans hle
    clear hle hI
    go_wp2_with fail
    obtain ⟨co, zo, hleB⟩ := box1 w2 (.slice A2 L.length q2) 25
    replace ct := (hleB.cell zt).trans ct
    replace zt := Nat.lt_of_lt_of_le zt hleB.size
    replace S := S.le hleB
    replace L0 := L0.trans hleB
    replace S2 := S2.le hleB
    clear hleB
    generalize w2.alloc (.cells #[.slice A2 L.length q2] 25) = w3 at *
    refine (Calls.tree2 (HQ.out w3 S)).mono ?_
    rintro e w4 ⟨A4, q4, rfl, S4, hle⟩
    replace ct := (hle.cell zt).trans ct
    replace co := (hle.cell zo).trans co
    replace zt := Nat.lt_of_lt_of_le zt hle.size
    replace zo := Nat.lt_of_lt_of_le zo hle.size
    replace S := S.le hle
    replace L0 := L0.trans hle
    replace S2 := S2.le hle
    clear hle
    go_wp2_with fail
    obtain ⟨cv, zv, hleB⟩ := box1 w4 (.slice A4 L.length q4) 25
    replace ct := (hleB.cell zt).trans ct
    replace co := (hleB.cell zo).trans co
    replace zt := Nat.lt_of_lt_of_le zt hleB.size
    replace zo := Nat.lt_of_lt_of_le zo hleB.size
    replace S := S.le hleB
    replace L0 := L0.trans hleB
    replace S2 := S2.le hleB
    replace S4 := S4.le hleB
    clear hleB
    generalize w4.alloc (.cells #[.slice A4 L.length q4] 25) = w5 at *
    refine (equalTree_self A2 A4 _ q2 q4 L w5 S2 S4).mono ?_
    rintro e w6 ⟨rfl, hle⟩
    replace ct := (hle.cell zt).trans ct
    replace co := (hle.cell zo).trans co
    replace cv := (hle.cell zv).trans cv
    replace zt := Nat.lt_of_lt_of_le zt hle.size
    replace zo := Nat.lt_of_lt_of_le zo hle.size
    replace zv := Nat.lt_of_lt_of_le zv hle.size
    replace S := S.le hle
    replace L0 := L0.trans hle
    replace S2 := S2.le hle
    replace S4 := S4.le hle
    clear hle
    go_wp2_with fail
    refine (equalTree_self A2 A4 _ q2 q4 L _ S2 S4).mono ?_
    rintro e w7 ⟨rfl, hle⟩
    replace L0 := L0.trans hle
    clear hle
    go_wp2
    go_ret
    exact ⟨rfl, L0⟩
end Go.Proofs.Ytembnjanopajgaa
