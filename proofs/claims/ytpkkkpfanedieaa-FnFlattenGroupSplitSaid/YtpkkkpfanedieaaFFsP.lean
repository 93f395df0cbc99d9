/- the law FnFlattenGroupSplit -/
import Derived.Test.YtpkkkpfanedieaaDrWQ
import Derived.Test.YtpkkkpfanedieaaGpXQ
import Derived.Test.YtpkkkpfanedieaaGpVQ
import Derived.Test.YtpkkkpfanedieaaCk18
import Derived.Test.YtpkkkpfanedieaaCk17
import Derived.Test.YtpkkkpfanedieaaCk10
import Derived.Test.YtpkkkpfanedieaaLDQ
namespace Go.Proofs.Ytpkkkpfanedieaa
open Go.RowKit
theorem iValid_S (A B : Option Addr) (n cap m c : Nat) (xs : List Cls) (g : List Prt) (w : World) (hT : Sl w A n cap xs) (hG : Sl w B m c g) :
    Calls Try.prog 14 #[.agg #[.slice A n cap], .slice B m c] w fun e w' => e = .returned (.bool (gOkS xs g)) ∧ Le w w' := by
  rw [gOk_same]; exact iValidGroup_any A B n cap m c xs g w hT hG
def SpL (x y : List Prt) (w : World) (e : Ending) (w' : World) : Prop := ∃ (A B : Option Addr) (c d : Nat), e = .returned (.tuple #[.slice A x.length c, .slice B y.length d]) ∧ Sl w' A x.length c x ∧ Sl w' B y.length d y ∧ Le w w'
theorem Calls.spO {f : FuncId} {args : Array Value} {x y : List Prt} {w : World} (h : Calls Try.prog f args w (SpOut w x y)) : Calls Try.prog f args w (SpL x y w) :=
  h.mono fun _ _ ⟨v, u, he, h1, h2, _, hl⟩ => by
    obtain ⟨A, c, rfl, S, _⟩ := h1.form (by decide)
    obtain ⟨B, d, rfl, T, _⟩ := h2.form (by decide)
    exact ⟨A, B, c, d, he, S, T, hl⟩
theorem fl_split {xs : List Cls} {L : List Prt} {a : Int} (h : gOkS xs L = true) (ha : hasK xs a = true) (wi : Bool) : ((spX xs L a wi).length = 0 → (spX xs (flX xs L) a wi).length = 0) ∧ (0 < (spX xs L a wi).length → spX xs (flX xs L) a wi = flX xs (spX xs L a wi)) := by
  obtain ⟨t, rfl, ht⟩ := gOk_iff.1 h
  rw [flX_tree ht, spX_tree ht.flatF ha, spX_tree ht ha]
  cases hp : anyFo (fun x => isAL xs x.cls a == wi) t
  · have hp2 : anyFo (fun x => isAL xs x.cls a == wi) (flatF t) = false := by rw [any_leaves, leaves_flatF ht.one, ← any_leaves]; exact hp
    rw [keepF_none hp, keepF_none hp2]
    exact ⟨fun _ => rfl, fun h => absurd h (by simp [flat])⟩
  · have h1 := keep_one ht.one hp
    have hl := one_sz h1.1
    rw [keep_flatF _ ht.one hp, flX_tree (ht.keep hp)]
    refine ⟨fun h => ?_, fun _ => rfl⟩
    rw [flatF_len] at h; omega
set_option maxHeartbeats 4000000 in
set_option maxRecDepth 100000 in
theorem fnFlattenGroupSplit_walk (A : Option Addr) (n cap : Nat) (bs : List By) (w : World) (hR : Sl w A n cap bs) :
    Calls Try.prog 9 #[.slice A n cap] w fun e w' => e = .returned (.bool true) ∧ Le w w' := by
  have hm := hR.n_le
  by_cases hbig : 1048576 < n
  · go_enter Try.func9, Try.ntmps9
    go_wp2
    go_ret
    exact ⟨rfl, Le.refl w⟩
  go_enter Try.func9, Try.ntmps9
  go_wp2_with fail
  refine (drawSplitGroup_any A n cap bs w hR).mono ?_
  rintro e w1 ⟨B, D, m, c, k, d, xs, L, a, rfl, S, hm8, S2, hk40, hW, ha0, ha1, L0⟩
  go_wp2_with fail
  obtain ⟨ct, zt, hleB⟩ := box1 w1 (.slice B m c) 25
  replace S := S.le hleB
  replace L0 := L0.trans hleB
  replace S2 := S2.le hleB
  clear hleB
  generalize w1.alloc (.cells #[.slice B m c] 25) = W1 at *
  have hlen2 := S2.len
  go_wp2_with fail
  refine (Calls.spO (iSplitGroup_any B D m c k d xs L a W1 S S2)).mono ?_
  rintro e w2 ⟨A2, B2, c2, d2, rfl, S3, S5, hle⟩
  replace ct := (hle.cell zt).trans ct
  replace zt := Nat.lt_of_lt_of_le zt hle.size
  replace S := S.le hle
  replace L0 := L0.trans hle
  replace S2 := S2.le hle
  clear hle
  go_wp2_with fail
  refine (Calls.spO (sSplitGroup_any B D m c k d xs L a w2 S S2)).mono ?_
  rintro e w3 ⟨A3, B3, c3, d3, rfl, S4, S6, hle⟩
  replace ct := (hle.cell zt).trans ct
  replace zt := Nat.lt_of_lt_of_le zt hle.size
  replace S := S.le hle
  replace L0 := L0.trans hle
  replace S2 := S2.le hle
  replace S3 := S3.le hle
  replace S5 := S5.le hle
  clear hle
  go_wp2_with fail
  refine (equalGroup_self A2 A3 _ c2 c3 (spX xs L a true) w3 S3 S4).mono ?_
  rintro e w4 ⟨rfl, hle⟩
  replace ct := (hle.cell zt).trans ct
  replace zt := Nat.lt_of_lt_of_le zt hle.size
  replace S := S.le hle
  replace L0 := L0.trans hle
  replace S2 := S2.le hle
  replace S3 := S3.le hle
  replace S5 := S5.le hle
  replace S4 := S4.le hle
  replace S6 := S6.le hle
  clear hle
  go_wp2_with fail
  refine (equalGroup_self B2 B3 _ d2 d3 (spX xs L a false) w4 S5 S6).mono ?_
  rintro e w5 ⟨rfl, hle⟩
  replace ct := (hle.cell zt).trans ct
  replace zt := Nat.lt_of_lt_of_le zt hle.size
  replace S := S.le hle
  replace L0 := L0.trans hle
  replace S2 := S2.le hle
  replace S3 := S3.le hle
  replace S5 := S5.le hle
  replace S4 := S4.le hle
  replace S6 := S6.le hle
  clear hle
  go_wp2_with fail
  refine (iValid_S B D m c k d xs L w5 S S2).mono ?_
  rintro e w6 ⟨rfl, hle⟩
  replace ct := (hle.cell zt).trans ct
  replace zt := Nat.lt_of_lt_of_le zt hle.size
  replace S := S.le hle
  replace L0 := L0.trans hle
  replace S2 := S2.le hle
  replace S3 := S3.le hle
  replace S5 := S5.le hle
  replace S4 := S4.le hle
  replace S6 := S6.le hle
  clear hle
  cases ho : gOkS xs L
  · go_wp2_with fail
    refine (equalGroup_self A2 A3 _ c2 c3 (spX xs L a true) w6 S3 S4).mono ?_
    rintro e w7 ⟨rfl, hle⟩
    replace L0 := L0.trans hle
    replace S5 := S5.le hle
    replace S6 := S6.le hle
    clear hle
    go_wp2_with fail
    refine (equalGroup_self B2 B3 _ d2 d3 (spX xs L a false) w7 S5 S6).mono ?_
    rintro e w8 ⟨rfl, hle⟩
    replace L0 := L0.trans hle
    clear hle
    go_wp2
    go_ret
    exact ⟨rfl, L0⟩
  go_wp2_with fail
  refine (has_any B m c xs a w6 S).mono ?_
  rintro e w7 ⟨rfl, hle⟩
  replace ct := (hle.cell zt).trans ct
  replace zt := Nat.lt_of_lt_of_le zt hle.size
  replace S := S.le hle
  replace L0 := L0.trans hle
  replace S2 := S2.le hle
  replace S3 := S3.le hle
  replace S5 := S5.le hle
  replace S4 := S4.le hle
  replace S6 := S6.le hle
  clear hle
  cases hh : hasK xs a
  · go_wp2_with fail
    refine (equalGroup_self A2 A3 _ c2 c3 (spX xs L a true) w7 S3 S4).mono ?_
    rintro e w8 ⟨rfl, hle⟩
    replace L0 := L0.trans hle
    replace S5 := S5.le hle
    replace S6 := S6.le hle
    clear hle
    go_wp2_with fail
    refine (equalGroup_self B2 B3 _ d2 d3 (spX xs L a false) w8 S5 S6).mono ?_
    rintro e w9 ⟨rfl, hle⟩
    replace L0 := L0.trans hle
    clear hle
    go_wp2
    go_ret
    exact ⟨rfl, L0⟩
  clear S4 S6
  obtain ⟨x1, x2⟩ := fl_split ho hh true
  obtain ⟨y1, y2⟩ := fl_split ho hh false
  have HF : Hid (∀ W, Le w7 W → Calls Try.prog 27 #[.agg #[.slice B m c], .slice D k d] W fun e w' => ∃ A c, e = .returned (.slice A (flX xs L).length c) ∧ Sl w' A (flX xs L).length c (flX xs L) ∧ Le W w') := fun W LW => Calls.sl1o (by decide) (iFlattenGroup_any B D m c k d xs L W (S.le LW) (S2.le LW))
  have HS : Hid (∀ W (A8 : Option Addr) (c8 : Nat), Le w7 W → Sl W A8 (flX xs L).length c8 (flX xs L) → Calls Try.prog 11 #[.agg #[.slice B m c], .slice A8 (flX xs L).length c8, .int .i64 a] W (SpL (spX xs (flX xs L) a true) (spX xs (flX xs L) a false) W)) := fun W A8 c8 LW S8 => Calls.spO (iSplitGroup_any B A8 m c _ c8 xs (flX xs L) a W (S.le LW) S8)
  generalize spX xs (flX xs L) a true = M2 at *
  generalize spX xs (flX xs L) a false = N2 at *
  generalize spX xs L a true = M at *
  generalize spX xs L a false = N at *
  generalize flX xs L = F at *
  by_cases hM : 0 < M.length
  · by_cases hN : 0 < N.length
    · obtain rfl := (x2 hM)
      have hMz : ((M.length : Int) == 0) = false := by rw [beq_eq_false_iff_ne]; omega
      have hMn : ¬ M.length = 0 := by omega
      obtain rfl := (y2 hN)
      have hNz : ((N.length : Int) == 0) = false := by rw [beq_eq_false_iff_ne]; omega
      have hNn : ¬ N.length = 0 := by omega
      have LC : Le w7 w7.drew := (Le.refl w7).drew
      clear x1 x2 y1 y2
      go_wp2_with fail
      go_region_held3 (fun w' => w'.cell? ⟨w1.heap.size, 0, none⟩ = some (.slice B m c))
        (exact (LC.cell zt).trans ct)
        (first
        | (go_at_call 27; refine (HF.out _ LC).mono ?_; rintro e w8 ⟨A8, c8, rfl, S8, hle⟩; replace LC := LC.trans hle; clear hle)
        | (go_at_call 11; refine (HS.out _ A8 c8 LC S8).mono ?_; rintro e w9 ⟨A9, B9, c9, d9, rfl, S9, S10, hle⟩; replace LC := LC.trans hle; clear hle S8))
      all_goals
        replace ct := (LC.cell zt).trans ct
        replace zt := Nat.lt_of_lt_of_le zt LC.size
        replace S := S.le LC
        replace L0 := L0.trans LC
        replace S2 := S2.le LC
        replace S3 := S3.le LC
        replace S5 := S5.le LC
        go_wp2_with fail
        refine (Calls.sl1o (by decide) (iFlattenGroup_any B A2 m c _ c2 xs M w9 S S3)).mono ?_
        rintro e w10 ⟨A10, c10, rfl, S11, hle⟩
        replace ct := (hle.cell zt).trans ct
        replace zt := Nat.lt_of_lt_of_le zt hle.size
        replace S := S.le hle
        replace L0 := L0.trans hle
        replace S5 := S5.le hle
        replace S9 := S9.le hle
        replace S10 := S10.le hle
        clear hle
        go_wp2_with fail
        refine (equalGroup_self A9 A10 _ c9 c10 (flX xs M) w10 S9 S11).mono ?_
        rintro e w11 ⟨rfl, hle⟩
        replace ct := (hle.cell zt).trans ct
        replace zt := Nat.lt_of_lt_of_le zt hle.size
        replace S := S.le hle
        replace L0 := L0.trans hle
        replace S5 := S5.le hle
        replace S10 := S10.le hle
        clear hle
        go_wp2_with fail
        refine (Calls.sl1o (by decide) (iFlattenGroup_any B B2 m c _ d2 xs N w11 S S5)).mono ?_
        rintro e w12 ⟨A12, c12, rfl, S13, hle⟩
        replace ct := (hle.cell zt).trans ct
        replace zt := Nat.lt_of_lt_of_le zt hle.size
        replace S := S.le hle
        replace L0 := L0.trans hle
        replace S10 := S10.le hle
        clear hle
        go_wp2_with fail
        refine (equalGroup_self B9 A12 _ d9 c12 (flX xs N) w12 S10 S13).mono ?_
        rintro e w13 ⟨rfl, hle⟩
        replace L0 := L0.trans hle
        clear hle
        go_wp2
        go_ret
        exact ⟨rfl, L0⟩
    · obtain rfl := (x2 hM)
      have hMz : ((M.length : Int) == 0) = false := by rw [beq_eq_false_iff_ne]; omega
      have hMn : ¬ M.length = 0 := by omega
      have hN2 := y1 (by omega)
      have hNz : ((N.length : Int) == 0) = true := by rw [beq_iff_eq]; omega
      have hN2z : ((N2.length : Int) == 0) = true := by rw [beq_iff_eq]; omega
      clear hN2
      have LC : Le w7 w7.drew := (Le.refl w7).drew
      clear x1 x2 y1 y2
      go_wp2_with fail
      go_region_held3 (fun w' => w'.cell? ⟨w1.heap.size, 0, none⟩ = some (.slice B m c))
        (exact (LC.cell zt).trans ct)
        (first
        | (go_at_call 27; refine (HF.out _ LC).mono ?_; rintro e w8 ⟨A8, c8, rfl, S8, hle⟩; replace LC := LC.trans hle; clear hle)
        | (go_at_call 11; refine (HS.out _ A8 c8 LC S8).mono ?_; rintro e w9 ⟨A9, B9, c9, d9, rfl, S9, S10, hle⟩; replace LC := LC.trans hle; clear hle S8))
      all_goals
        replace ct := (LC.cell zt).trans ct
        replace zt := Nat.lt_of_lt_of_le zt LC.size
        replace S := S.le LC
        replace L0 := L0.trans LC
        replace S2 := S2.le LC
        replace S3 := S3.le LC
        replace S5 := S5.le LC
        go_wp2_with fail
        refine (Calls.sl1o (by decide) (iFlattenGroup_any B A2 m c _ c2 xs M w9 S S3)).mono ?_
        rintro e w10 ⟨A10, c10, rfl, S11, hle⟩
        replace ct := (hle.cell zt).trans ct
        replace zt := Nat.lt_of_lt_of_le zt hle.size
        replace S := S.le hle
        replace L0 := L0.trans hle
        replace S5 := S5.le hle
        replace S9 := S9.le hle
        replace S10 := S10.le hle
        clear hle
        go_wp2_with fail
        refine (equalGroup_self A9 A10 _ c9 c10 (flX xs M) w10 S9 S11).mono ?_
        rintro e w11 ⟨rfl, hle⟩
        replace ct := (hle.cell zt).trans ct
        replace zt := Nat.lt_of_lt_of_le zt hle.size
        replace S := S.le hle
        replace L0 := L0.trans hle
        replace S5 := S5.le hle
        replace S10 := S10.le hle
        clear hle
        go_wp2
        go_ret
        exact ⟨rfl, L0⟩
  · by_cases hN : 0 < N.length
    · have hM2 := x1 (by omega)
      have hMz : ((M.length : Int) == 0) = true := by rw [beq_iff_eq]; omega
      have hM2z : ((M2.length : Int) == 0) = true := by rw [beq_iff_eq]; omega
      clear hM2
      obtain rfl := (y2 hN)
      have hNz : ((N.length : Int) == 0) = false := by rw [beq_eq_false_iff_ne]; omega
      have hNn : ¬ N.length = 0 := by omega
      have LC : Le w7 w7.drew := (Le.refl w7).drew
      clear x1 x2 y1 y2
      go_wp2_with fail
      go_region_held3 (fun w' => w'.cell? ⟨w1.heap.size, 0, none⟩ = some (.slice B m c))
        (exact (LC.cell zt).trans ct)
        (first
        | (go_at_call 27; refine (HF.out _ LC).mono ?_; rintro e w8 ⟨A8, c8, rfl, S8, hle⟩; replace LC := LC.trans hle; clear hle)
        | (go_at_call 11; refine (HS.out _ A8 c8 LC S8).mono ?_; rintro e w9 ⟨A9, B9, c9, d9, rfl, S9, S10, hle⟩; replace LC := LC.trans hle; clear hle S8))
      all_goals
        replace ct := (LC.cell zt).trans ct
        replace zt := Nat.lt_of_lt_of_le zt LC.size
        replace S := S.le LC
        replace L0 := L0.trans LC
        replace S2 := S2.le LC
        replace S3 := S3.le LC
        replace S5 := S5.le LC
        go_wp2_with fail
        refine (Calls.sl1o (by decide) (iFlattenGroup_any B B2 m c _ d2 xs N w9 S S5)).mono ?_
        rintro e w12 ⟨A12, c12, rfl, S13, hle⟩
        replace ct := (hle.cell zt).trans ct
        replace zt := Nat.lt_of_lt_of_le zt hle.size
        replace S := S.le hle
        replace L0 := L0.trans hle
        replace S10 := S10.le hle
        clear hle
        go_wp2_with fail
        refine (equalGroup_self B9 A12 _ d9 c12 (flX xs N) w12 S10 S13).mono ?_
        rintro e w13 ⟨rfl, hle⟩
        replace L0 := L0.trans hle
        clear hle
        go_wp2
        go_ret
        exact ⟨rfl, L0⟩
    · have hM2 := x1 (by omega)
      have hMz : ((M.length : Int) == 0) = true := by rw [beq_iff_eq]; omega
      have hM2z : ((M2.length : Int) == 0) = true := by rw [beq_iff_eq]; omega
      clear hM2
      have hN2 := y1 (by omega)
      have hNz : ((N.length : Int) == 0) = true := by rw [beq_iff_eq]; omega
      have hN2z : ((N2.length : Int) == 0) = true := by rw [beq_iff_eq]; omega
      clear hN2
      have LC : Le w7 w7.drew := (Le.refl w7).drew
      clear x1 x2 y1 y2
      go_wp2_with fail
      go_region_held3 (fun w' => w'.cell? ⟨w1.heap.size, 0, none⟩ = some (.slice B m c))
        (exact (LC.cell zt).trans ct)
        (first
        | (go_at_call 27; refine (HF.out _ LC).mono ?_; rintro e w8 ⟨A8, c8, rfl, S8, hle⟩; replace LC := LC.trans hle; clear hle)
        | (go_at_call 11; refine (HS.out _ A8 c8 LC S8).mono ?_; rintro e w9 ⟨A9, B9, c9, d9, rfl, S9, S10, hle⟩; replace LC := LC.trans hle; clear hle S8))
      all_goals
        replace ct := (LC.cell zt).trans ct
        replace zt := Nat.lt_of_lt_of_le zt LC.size
        replace S := S.le LC
        replace L0 := L0.trans LC
        replace S2 := S2.le LC
        replace S3 := S3.le LC
        replace S5 := S5.le LC
        go_wp2
        go_ret
        exact ⟨rfl, L0⟩
end Go.Proofs.Ytpkkkpfanedieaa
