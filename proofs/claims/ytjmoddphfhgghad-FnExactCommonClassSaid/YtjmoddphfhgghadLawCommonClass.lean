import Derived.Test.YtjmoddphfhgghadG
import Derived.Test.YtjmoddphfhgghadCD
import Derived.Deep.RegionHeld3
namespace Go.Proofs.Ytjmoddphfhgghad
open Go.RowKit

set_option maxHeartbeats 8000000 in
theorem exCommonClass_walk (A : Option Addr) (n cap : Nat) (xs : List Cls) (a : Int) (b : Int) (w : World) (hR : Sl w A n cap xs) (ha : -9223372036854775808 ≤ a ∧ a ≤ 9223372036854775807) (hb : -9223372036854775808 ≤ b ∧ b ≤ 9223372036854775807) :
    Calls Try.prog 4 #[.agg #[.slice A n cap], .int .i64 a, .int .i64 b] w fun e w' => e = .returned (.bool true) ∧ Le w w' := by
  have hok := hR.ok
  go_enter Try.func4, Try.ntmps4
  go_wp2_with fail
  have c0 : (w.alloc (.cells #[.slice A n cap] 24)).cell? ⟨w.heap.size, 0, none⟩ = some (.slice A n cap) := by rw [World.cell?_alloc_at _ _ _ _ rfl]; rfl
  have hz0 : w.heap.size < (w.alloc (.cells #[.slice A n cap] 24)).heap.size := by simp
  have hl0 := Le.new w (.cells #[.slice A n cap] 24)
  generalize w.alloc (.cells #[.slice A n cap] 24) = W0 at *
  refine (szTree_any A n cap xs _ _ (hR.le hl0) (by omega) (by omega)).mono ?_
  rintro e w1 ⟨r, rfl, hr, hle1⟩
  have hl1 := hl0.trans hle1
  rcases hr with rfl | ⟨h20, h21, h22⟩
  · go_wp2
    go_ret
    exact ⟨rfl, hl1⟩
  · have c1 := (hle1.cell hz0).trans c0
    have hz1 := Nat.lt_of_lt_of_le hz0 hle1.size
    clear c0 hz0
    go_wp2_with fail
    refine (toTree_any A n cap xs _ (hR.le hl1) (by omega)).mono ?_
    rintro e w2 ⟨g2, rfl, hg2, hown2, hle2⟩
    have hl2 := hl1.trans hle2
    have c2 := (hle2.cell hz1).trans c1
    have hz2 := Nat.lt_of_lt_of_le hz1 hle2.size
    clear c1 hz1
    go_wp2_with fail
    have hS2 := own_sl hown2 hok
    refine (sCommonClass_any _ _ _ xs a b _ hS2).mono ?_
    rintro e w3 ⟨rfl, hle3⟩
    have hl3 := hl2.trans hle3
    have c3 := (hle3.cell hz2).trans c2
    have hz3 := Nat.lt_of_lt_of_le hz2 hle3.size
    clear c2 hz2 hown2 hS2
    go_wp2_with fail
    refine (toTree_any A n cap xs _ (hR.le hl3) (by omega)).mono ?_
    rintro e w4 ⟨g4, rfl, hg4, hown4, hle4⟩
    have hl4 := hl3.trans hle4
    have c4 := (hle4.cell hz3).trans c3
    have hz4 := Nat.lt_of_lt_of_le hz3 hle4.size
    clear c3 hz3
    go_wp2_with fail
    have hl4b := hl4.alloc (.cells #[.slice (some ⟨g4, 0, none⟩) n n] 30)
    have hl5 := Le.new w4 (.cells #[.slice (some ⟨g4, 0, none⟩) n n] 30)
    have c5 := (hl5.cell hz4).trans c4
    have d5 : (w4.alloc (.cells #[.slice (some ⟨g4, 0, none⟩) n n] 30)).cell? ⟨w4.heap.size, 0, none⟩ = some (.slice (some ⟨g4, 0, none⟩) n n) := by rw [World.cell?_alloc_at _ _ _ _ rfl]; rfl
    have hx5 : w4.heap.size < (w4.alloc (.cells #[.slice (some ⟨g4, 0, none⟩) n n] 30)).heap.size := by simp
    have hS4 := own_sl hown4 hok
    have hS5 := hS4.le hl5
    have hz5 := Nat.lt_of_lt_of_le hz4 hl5.size
    generalize w4.alloc (.cells #[.slice (some ⟨g4, 0, none⟩) n n] 30) = w5 at *
    clear c4
    refine (iCommonClass_any _ _ _ xs a b _ hS5).mono ?_
    rintro e w6 ⟨rfl, hle6⟩
    have hl6 := hl4b.trans hle6
    have c6 := (hle6.cell hz5).trans c5
    have d6 := (hle6.cell hx5).trans d5
    have hz6 := Nat.lt_of_lt_of_le hz5 hle6.size
    have hx6 := Nat.lt_of_lt_of_le hx5 hle6.size
    have hS6 := hS5.le hle6
    clear c5 d5 hS5
    have hS6d : Sl w6.drew (some ⟨g4, 0, none⟩) n n xs := hS6.le (Le.refl _).drew
    have hR6d : Sl w6.drew A n cap xs := hR.le hl6.drew
    have hl6d := hl6.drew
    clear hS4 hS6 hown4 hle6 hle1 hle2 hle3 hl1 hl2 hl3 hl4 hl0 hl4b hl5 hR
    go_wp2_with fail
    go_region_held3 (fun w' => w'.cell? ⟨w.heap.size, 0, none⟩ = some (.slice A n cap) ∧ w'.cell? ⟨w4.heap.size, 0, none⟩ = some (.slice (some ⟨g4, 0, none⟩) n n))
      (first | exact ⟨c6, d6⟩ | exact ⟨c7, d7⟩ | exact ⟨c8, d8⟩)
      (first
      | (go_at_call 11; refine (toTree_any A n cap xs _ hR6d (by omega)).mono ?_; rintro e w7 ⟨g7, rfl, hg7, hown7, hle7⟩; have hl7 := hl6d.trans hle7; have c7 := (hle7.cell hz6).trans c6; have d7 := (hle7.cell hx6).trans d6; have hS7 := own_sl hown7 hok; have hT7 := hS6d.le hle7; have hz7 := Nat.lt_of_lt_of_le hz6 hle7.size; have hx7 := Nat.lt_of_lt_of_le hx6 hle7.size; clear hown7)
      | (go_at_call 14; refine (eqTree_any _ _ _ _ _ _ xs xs _ hT7 hS7).mono ?_; rintro e w8 ⟨rfl, hle8⟩; rw [eqCs_self]; have c8 := (hle8.cell hz7).trans c7; have d8 := (hle8.cell hx7).trans d7))
    all_goals go_wp2
    all_goals go_ret
    all_goals exact ⟨rfl, hl7.trans hle8⟩
end Go.Proofs.Ytjmoddphfhgghad
