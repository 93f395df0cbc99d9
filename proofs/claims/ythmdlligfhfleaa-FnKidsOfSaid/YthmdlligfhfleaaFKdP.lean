/- the law FnKidsOf -/
import Derived.Test.YthmdlligfhfleaaCj11
import Derived.Test.YthmdlligfhfleaaCj16
import Derived.Test.YthmdlligfhfleaaCj15
namespace Go.Proofs.Ythmdlligfhfleaa
open Go.RowKit
theorem wrap_back {xs : List Cls} {L : List Prt} (h : gOkS xs L = true) (hne : kidsX xs L ≠ []) : wrOk xs (kidsX xs L) (gAt L 0).code = true ∧ wrX xs (kidsX xs L) (gAt L 0).code = L := by
  obtain ⟨t, rfl, ht⟩ := gOk_iff.1 h
  exact wrap_kids ht hne
theorem kids_nil {xs : List Cls} {L : List Prt} (h : gOkS xs L = false) : kidsX xs L = [] := by
  unfold kidsX; rw [h]; rfl
set_option maxHeartbeats 4000000 in
set_option maxRecDepth 100000 in
theorem fnKidsOf_walk (A : Option Addr) (n cap : Nat) (bs : List By) (w : World) (hR : Sl w A n cap bs) :
    Calls Try.prog 7 #[.slice A n cap] w fun e w' => e = .returned (.bool true) ∧ Le w w' := by
  have hm := hR.n_le
  by_cases hbig : 1048576 < n
  · go_enter Try.func7, Try.ntmps7
    go_wp2
    go_ret
    exact ⟨rfl, Le.refl w⟩
  go_enter Try.func7, Try.ntmps7
  go_wp2_with fail
  refine (drawKidsOf_any A n cap bs w hR).mono ?_
  rintro e w1 ⟨B, D, m, c, k, d, xs, L, rfl, S, hm8, S2, hk40, hW, L0⟩
  go_wp2_with fail
  obtain ⟨ct, zt, hleB⟩ := box1 w1 (.slice B m c) 25
  replace S := S.le hleB
  replace L0 := L0.trans hleB
  replace S2 := S2.le hleB
  clear hleB
  generalize w1.alloc (.cells #[.slice B m c] 25) = W1 at *
  have hlen2 := S2.len
  go_wp2_with fail
  refine (Calls.kidsO (iKidsOf_any B D m c k d xs L W1 S S2)).mono ?_
  rintro e w2 ⟨A2, c2, hs, rfl, S3, R3, hle⟩
  replace ct := (hle.cell zt).trans ct
  replace zt := Nat.lt_of_lt_of_le zt hle.size
  replace S := S.le hle
  replace L0 := L0.trans hle
  replace S2 := S2.le hle
  clear hle
  go_wp2_with fail
  refine (Calls.kidsO (sKidsOf_any B D m c k d xs L w2 S S2)).mono ?_
  rintro e w3 ⟨A3, c3, ks, rfl, S4, R4, hle⟩
  replace ct := (hle.cell zt).trans ct
  replace zt := Nat.lt_of_lt_of_le zt hle.size
  replace S := S.le hle
  replace L0 := L0.trans hle
  replace S2 := S2.le hle
  replace S3 := S3.le hle
  replace R3 := R3.le hle
  clear hle
  go_wp2_with fail
  refine (equalGroups_self A2 A3 _ c2 c3 hs ks (kidsX xs L) w3 S3 R3 S4 R4).mono ?_
  rintro e w4 ⟨rfl, hle⟩
  replace ct := (hle.cell zt).trans ct
  replace zt := Nat.lt_of_lt_of_le zt hle.size
  replace S := S.le hle
  replace L0 := L0.trans hle
  replace S2 := S2.le hle
  replace S3 := S3.le hle
  replace R3 := R3.le hle
  clear hle
  clear S4 R4
  by_cases hM : kidsX xs L = []
  · have hz1 : (((kidsX xs L).length : Int) == 0) = true := by rw [hM]; rfl
    clear hM
    go_wp2_with fail
    refine (Calls.kidsO (sKidsOf_any B D m c k d xs L w4 S S2)).mono ?_
    rintro e w5 ⟨A5, c5, ks, rfl, S5, R5, hle⟩
    replace L0 := L0.trans hle
    replace S3 := S3.le hle
    replace R3 := R3.le hle
    clear hle
    go_wp2_with fail
    refine (equalGroups_self A2 A5 _ c2 c5 hs ks (kidsX xs L) w5 S3 R3 S5 R5).mono ?_
    rintro e w6 ⟨rfl, hle⟩
    replace L0 := L0.trans hle
    clear hle
    go_wp2
    go_ret
    exact ⟨rfl, L0⟩
  have ho : gOkS xs L = true := by
    cases h : gOkS xs L
    · exact absurd (kids_nil h) hM
    · rfl
  have hM0 := List.length_pos_iff.2 hM
  obtain ⟨hv, hlv, hpos, hgk⟩ := kids_facts ho
  obtain ⟨hok, hback⟩ := wrap_back ho hM
  have hz1 : (((kidsX xs L).length : Int) == 0) = false := by rw [beq_eq_false_iff_ne]; omega
  have hz2 : ¬ (kidsX xs L).length = 0 := by omega
  have HOK := Lib.hid hok
  have HB := Lib.hid hback
  have hg0 : gAt L 0 = L[0] := gAt_at hpos
  have hW0 := hW L[0] (List.getElem_mem hpos)
  have hcd : -100 ≤ L[0].code ∧ L[0].code ≤ 100 := ⟨hW0.2.2.2.2.1, hW0.2.2.2.2.2⟩
  have hm5 : (kidsX xs L).length ≤ 1048576 := by
    have h1 : (kidsX xs L).length ≤ L.length := by
      obtain ⟨t, rfl, ht⟩ := gOk_iff.1 ho
      rw [kidsX_tree ht, List.length_map]
      have e := ht.one
      have : ∀ t : Fo, (rootsF t).length ≤ (flat 0 t).length ∧ ∀ d, (rootsF t).length ≤ (flat d t).length := by
        intro t
        induction t with
        | nil => exact ⟨Nat.le_refl _, fun _ => Nat.le_refl _⟩
        | leaf x r ih => exact ⟨by have := ih.1; simp [rootsF, flat]; omega, fun d => by have := ih.2 d; simp [rootsF, flat]; omega⟩
        | grp c k r ih1 ih2 => exact ⟨by have := ih2.1; simp [rootsF, flat]; omega, fun d => by have := ih2.2 d; simp [rootsF, flat]; omega⟩
      cases e with
      | leaf x => exact Nat.zero_le _
      | grp c k => have := (this k).2 1; simp [kidsF, flat]; omega
    omega
  obtain ⟨b0, o0, rfl, hb0, -, -, -, q3, -⟩ := S2.prt_at hpos
  rw [Nat.zero_mul, Nat.add_zero] at q3
  have hk0 : 0 < k := by omega
  have hk1 : (0 : Int) < k := by omega
  clear hv hlv hgk hok hback hW0
  have LD := (Le.refl w4).drew
  have Sd := S.le LD
  have S3d := S3.le LD
  have R3d := R3.le LD
  have ctd : w4.drew.cell? ⟨w1.heap.size, 0, none⟩ = some (.slice B m c) := ct
  have qd : w4.drew.cell? ⟨b0, o0 + 3, none⟩ = some (.int .i64 L[0].code) := q3
  have zt4 := zt
  go_wp2_with fail
  go_region_held3 (fun w' => w'.cell? ⟨w1.heap.size, 0, none⟩ = some (.slice B m c) ∧ w'.cell? ⟨b0, o0 + 3, none⟩ = some (.int .i64 L[0].code))
    (first | exact ⟨ctd, qd⟩ | exact ⟨ct6, q6⟩)
    (first
    | (go_at_call 27; refine (iWrapGroup_any B A2 m c _ c2 xs hs (kidsX xs L) L[0].code _ Sd S3d R3d hm5 (by omega)).mono ?_; rintro e w6 ⟨v6, rfl, O6, hle⟩; have ct6 := (hle.cell zt4).trans ctd; have q6 := (hle.cell hb0).trans qd; have L6 := LD.trans hle))
  all_goals
    have e1 : wrOk xs (kidsX xs L) L[0].code = true := by rw [← hg0]; exact HOK.out
    have e2 : wrX xs (kidsX xs L) L[0].code = L := by rw [← hg0]; exact HB.out
    rw [e2] at O6
    obtain ⟨A6, c6, rfl, S6, -⟩ := O6.form (by decide)
    have S2' := S2.le L6
    have L0' := L0.trans L6
    subst hlen2
    clear HB HOK e2 R3d S3d Sd ct6 q6 ctd qd O6
    rw [e1]
    go_wp2_with fail
    refine (equalGroup_self A6 (some ⟨b0, o0, none⟩) _ c6 d L w6 S6 S2').mono ?_
    rintro e w7 ⟨rfl, hle7⟩
    have L7 := L0'.trans hle7
    go_wp2
    go_ret
    exact ⟨rfl, L7⟩
end Go.Proofs.Ythmdlligfhfleaa
