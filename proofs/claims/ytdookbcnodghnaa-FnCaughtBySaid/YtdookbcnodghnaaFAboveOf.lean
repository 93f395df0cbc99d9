/- the law FnAboveOf -/
import Derived.Test.YtdookbcnodghnaaDB
import Derived.Test.YtdookbcnodghnaaLD
import Derived.Test.YtdookbcnodghnaaPA
import Derived.Test.YtdookbcnodghnaaVA
namespace Go.Proofs.Ytdookbcnodghnaa
open Go.RowKit

theorem OwnInts.form {L : List Int} {w w' : World} {e : Ending} (h : OwnInts L w e w') : ∃ A c, e = .returned (.slice A L.length c) ∧ Sl w' A L.length c L ∧ Le w w' := by
  obtain ⟨v, rfl, hown, hok, hle⟩ := h
  obtain ⟨A, c, rfl⟩ := own_form hown
  exact ⟨A, c, rfl, Sl.of_own hown rfl (by decide) hok, hle⟩

/-- a list of the call's own, as the caller reads it -/
def IntsOut (L : List Int) (w : World) (e : Ending) (w' : World) : Prop := ∃ A c, e = .returned (.slice A L.length c) ∧ Sl w' A L.length c L ∧ Le w w'
theorem Calls.ints {f : FuncId} {args : Array Value} {L : List Int} {w : World} (h : Calls Try.prog f args w (OwnInts L w)) : Calls Try.prog f args w (IntsOut L w) := h.mono fun _ _ ho => ho.form
theorem Calls.intsO {f : FuncId} {args : Array Value} {T : TypeId} {L : List Int} {w : World} (h : Calls Try.prog f args w fun e w' => ∃ v, e = .returned v ∧ Owd T w w' v L ∧ Le w w') : Calls Try.prog f args w (IntsOut L w) :=
  h.mono fun _ _ ⟨v, he, ho, hl⟩ => by obtain ⟨A, c, e2, hs, _⟩ := ho.form (by decide); exact ⟨A, c, by rw [he, e2], hs, hl⟩
theorem way_of {xs : List Cls} (g : Good xs) {a : Int} (h : 0 ≤ a ∧ a < xs.length) (L : List Int) (e : L = aboveL xs a) : (∃ r, L = a :: r) ∧ (∀ k (h : k + 1 < L.length), parOf xs (L[k]'(by omega)) = L[k + 1]) ∧ (∀ k (h : k < L.length), k + 1 = L.length → L[k] = 0) ∧ ∀ x ∈ L, 0 ≤ x ∧ x < xs.length := by
  subst e
  exact ⟨aboveL_head h.1, fun k hk => aboveL_chain g h.2 hk, fun k hk he => aboveL_last g h.2 h.1 hk he, fun x hx => by have := aboveL_mem g _ a rfl h.2 x hx; omega⟩

set_option maxHeartbeats 2000000 in
set_option maxRecDepth 100000 in
theorem fnAboveOf_walk (A : Option Addr) (n cap : Nat) (bs : List By) (w : World) (hR : Sl w A n cap bs) :
    Calls Try.prog 5 #[.slice A n cap] w fun e w' => e = .returned (.bool true) ∧ Le w w' := by
  have hm := hR.n_le
  by_cases hbig : 1048576 < n
  · go_enter Try.func5, Try.ntmps5
    go_wp2
    go_ret
    exact ⟨rfl, Le.refl w⟩
  go_enter Try.func5, Try.ntmps5
  go_wp2_with fail
  refine (drawAboveOf_any A n cap bs w hR).mono ?_
  rintro e w1 ⟨B, m, c, xs, a, rfl, S, hm8, _, ha, L0⟩
  go_wp2_with fail
  obtain ⟨ct, zt, hleB⟩ := box1 w1 (.slice B m c) 25
  replace S := S.le hleB
  replace L0 := L0.trans hleB
  clear hleB
  generalize w1.alloc (.cells #[.slice B m c] 25) = W1 at *
  have hal := aboveX_len xs a
  have hcase : (okTree xs && hasK xs a) = true ∨ aboveX xs a = [] := by
    cases h : okTree xs && hasK xs a
    · right; rw [aboveX_of h]; rfl
    · left; rfl
  have HC := Lib.hid hcase; clear hcase
  have hI := iAboveOf_any B m c xs a W1 S
  have hQ := sAboveOf_any B m c xs a
  rcases HC.out with hgood | hnil
  · have hX := aboveX_of hgood
    have hab : okTree xs = true ∧ hasK xs a = true := by simpa using hgood
    have g := good_of hab.1
    have hka := hasK_iff.1 hab.2
    clear hgood hab HC
    obtain ⟨⟨r, hr⟩, hch, hla, hin⟩ := way_of g hka _ hX
    generalize aboveX xs a = L at *
    clear hX
    have hl0 : ((L.length : Int) == 0) = false := by rw [hr]; simp; omega
    have hl1 : 0 < L.length := by rw [hr]; simp
    have hh0 : L[0] = a := by simp [hr]
    have HCH := Lib.hid hch
    have HLA := Lib.hid hla
    have HIN := Lib.hid hin
    have HQ := Lib.hid hQ
    clear hch hla hin hr hQ
    refine hI.mono ?_
    intro e w2 ho
    obtain ⟨A2, c2, rfl, S2, hle⟩ := ho.form
    clear ho hI
    replace ct := (hle.cell zt).trans ct
    replace zt := Nat.lt_of_lt_of_le zt hle.size
    replace S := S.le hle
    replace L0 := L0.trans hle
    clear hle
    go_wp2_with fail
    refine (HQ.out w2 S).mono ?_
    intro e w3 ho
    obtain ⟨A3, c3, rfl, S3, hle⟩ := ho.form
    clear ho
    replace ct := (hle.cell zt).trans ct
    replace zt := Nat.lt_of_lt_of_le zt hle.size
    replace S := S.le hle
    replace L0 := L0.trans hle
    replace S2 := S2.le hle
    clear hle
    go_wp2_with fail
    refine (equalInts_self A2 A3 _ c2 c3 L w3 S2 S3).mono ?_
    rintro e w4 ⟨rfl, hle⟩
    replace ct := (hle.cell zt).trans ct
    replace zt := Nat.lt_of_lt_of_le zt hle.size
    replace S := S.le hle
    replace L0 := L0.trans hle
    replace S2 := S2.le hle
    clear hle S3
    go_wp2
    go_loopw [6] (fun i wr => ∃ j : Nat, i = .int .i64 ((j : Int) + 1) ∧ j < L.length ∧ Le w4 wr) (fun i _ => L.length - (intOf i).toNat)
    case atStart => exact ⟨0, rfl, hl1, Le.refl _⟩
    case round =>
      obtain ⟨j, rfl, hjl, hle⟩ := hrel
      replace ct := (hle.cell zt).trans ct
      replace zt := Nat.lt_of_lt_of_le zt hle.size
      replace S := S.le hle
      replace L0 := L0.trans hle
      replace S2 := S2.le hle
      have hsl := S.len
      by_cases hlt : j + 1 < L.length
      · have hj2 : (j : Int) + 1 < L.length := by omega
        have hj1 : (j : Int) < L.length := by omega
        obtain ⟨b, off, rfl, hb, hcell, _, _⟩ := S2.int_at hlt
        obtain ⟨b2, off2, e2, hb2, hcell2, _, _⟩ := S2.int_at (k := j) (by omega)
        injection e2 with e2
        injection e2 with e21 e22
        subst e21; subst e22
        have hin := HIN.out _ (List.getElem_mem hjl)
        have hch := HCH.out j hlt
        obtain ⟨i, hi0⟩ := Int.eq_ofNat_of_zero_le hin.1
        rw [hi0] at hch hcell2 hin
        have hi : i < xs.length := by omega
        rw [parOf_at hi] at hch
        obtain ⟨bt, ot, rfl, hbt, _, hp2, _, _, _⟩ := S.cls_at hi
        rw [hch] at hp2
        have him : (i : Int) < m := by omega
        have hw1 : IntKind.i64.wrap ((j : Int) + 1 - 1) = (j : Int) := by
          have e : (j : Int) + 1 - 1 = j := by omega
          rw [e]; exact IntWalk.i64_in _ (by omega)
        generalize L[j + 1] = z at *
        have hbb : (z != z) = false := by simp
        have E1 := cell_ext hb hcell
        have E2 := cell_ext hb hcell2
        have E3 := cell_ext hbt hp2
        have E4 := cell_ext zt ct
        clear hcell hcell2 hp2 hch hi0
        go_wp2_with fail
        refine wp_region_ext (by kernel_rfl) (by kernel_rfl) ?_
        repeat (go_big_quiet_step (fail))
        refine wpQuiet_nil ?_
        intro _ hw'
        obtain ⟨gg, rfl⟩ := hw'
        have hw2 := Le.ext wr gg
        generalize wr.ext gg = W2 at *
        go_wp2
        go_roundw
        case rel => exact ⟨j + 1, by go_num, hlt, hle.trans hw2⟩
        case measure => simp [intOf]; omega
      · have hj2 : ¬ (j : Int) + 1 < L.length := by omega
        obtain ⟨b, off, rfl, hb, hcell, _, _⟩ := S2.int_at (k := 0) hl1
        obtain ⟨b2, off2, e2, hb2, hcell2, _, _⟩ := S2.int_at hjl
        injection e2 with e2
        injection e2 with e21 e22
        subst e21; subst e22
        rw [hh0] at hcell
        rw [HLA.out j hjl (by omega)] at hcell2
        have hw1 : IntKind.i64.wrap ((L.length : Int) - 1) = (j : Int) := by
          have e : (L.length : Int) - 1 = j := by omega
          rw [e]; exact IntWalk.i64_in _ (by omega)
        rw [Nat.add_zero] at hcell
        have hb1 : (a == a) = true := by simp
        have hq0 : (0 : Int) < L.length := by omega
        have hq1 : (j : Int) < L.length := by omega
        go_wp2
        go_ret
        exact ⟨rfl, L0⟩
  · have hl0 : (((aboveX xs a).length : Int) == 0) = true := by rw [hnil]; rfl
    have HQ := Lib.hid hQ
    clear hQ hnil HC
    generalize aboveX xs a = L at *
    refine hI.mono ?_
    intro e w2 ho
    obtain ⟨A2, c2, rfl, S2, hle⟩ := ho.form
    clear ho hI
    replace ct := (hle.cell zt).trans ct
    replace zt := Nat.lt_of_lt_of_le zt hle.size
    replace S := S.le hle
    replace L0 := L0.trans hle
    clear hle
    go_wp2_with fail
    refine (HQ.out w2 S).mono ?_
    intro e w3 ho
    obtain ⟨A3, c3, rfl, S3, hle⟩ := ho.form
    clear ho
    replace ct := (hle.cell zt).trans ct
    replace zt := Nat.lt_of_lt_of_le zt hle.size
    replace S := S.le hle
    replace L0 := L0.trans hle
    replace S2 := S2.le hle
    clear hle
    go_wp2_with fail
    refine (equalInts_self A2 A3 _ c2 c3 L w3 S2 S3).mono ?_
    rintro e w4 ⟨rfl, hle⟩
    replace ct := (hle.cell zt).trans ct
    replace zt := Nat.lt_of_lt_of_le zt hle.size
    replace S := S.le hle
    replace L0 := L0.trans hle
    replace S2 := S2.le hle
    clear hle S3
    go_wp2_with fail
    refine (HQ.out w4 S).mono ?_
    intro e w5 ho
    obtain ⟨A5, c5, rfl, S5, hle⟩ := ho.form
    clear ho
    replace ct := (hle.cell zt).trans ct
    replace zt := Nat.lt_of_lt_of_le zt hle.size
    replace S := S.le hle
    replace L0 := L0.trans hle
    replace S2 := S2.le hle
    clear hle
    go_wp2_with fail
    refine (equalInts_self A2 A5 _ c2 c5 L w5 S2 S5).mono ?_
    rintro e w6 ⟨rfl, hle⟩
    go_wp2
    go_ret
    exact ⟨rfl, L0.trans hle⟩
end Go.Proofs.Ytdookbcnodghnaa
