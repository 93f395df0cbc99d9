import Derived.Test.YtjmoddphfhgghadG
import Derived.Test.YtjmoddphfhgghadX
import Derived.Test.YtjmoddphfhgghadZ
import Derived.Deep.RegionHeld3
namespace Go.Proofs.Ytjmoddphfhgghad
open Go.RowKit

set_option maxHeartbeats 16000000 in
set_option maxRecDepth 100000 in
theorem exBelowOf_walk (A : Option Addr) (n cap : Nat) (xs : List Cls) (a : Int) (w : World) (hR : Sl w A n cap xs) (ha : -9223372036854775808 ≤ a ∧ a ≤ 9223372036854775807) :
    Calls Try.prog 3 #[.agg #[.slice A n cap], .int .i64 a] w fun e w' => e = .returned (.bool true) ∧ Le w w' := by
  have hok := hR.ok
  have HLL : (belowX xs a).length ≤ 1048576 := belowX_len xs a
  go_enter Try.func3, Try.ntmps3
  go_wp2_with fail
  have c0 : (w.alloc (.cells #[.slice A n cap] 24)).cell? ⟨w.heap.size, 0, none⟩ = some (.slice A n cap) := by rw [World.cell?_alloc_at _ _ _ _ rfl]; rfl
  have hz0 : w.heap.size < (w.alloc (.cells #[.slice A n cap] 24)).heap.size := by simp
  have hl0 := Le.new w (.cells #[.slice A n cap] 24)
  generalize w.alloc (.cells #[.slice A n cap] 24) = W0 at *
  refine (szTree_any A n cap xs _ _ (hR.le hl0) (by omega) (by omega)).mono ?_
  rintro e w1 ⟨r, rfl, hr, hle1⟩
  have hl1 := hl0.trans hle1
  rcases hr with rfl | ⟨h20, h21, h22⟩
  · go_wp2
    go_ret
    exact ⟨rfl, hl1⟩
  · have c1 := (hle1.cell hz0).trans c0
    have hz1 := Nat.lt_of_lt_of_le hz0 hle1.size
    clear c0 hz0
    go_wp2_with fail
    refine (toTree_any A n cap xs _ (hR.le hl1) (by omega)).mono ?_
    rintro e w2 ⟨g2, rfl, hg2, hown2, hle2⟩
    have hl2 := hl1.trans hle2
    have c2 := (hle2.cell hz1).trans c1
    have hz2 := Nat.lt_of_lt_of_le hz1 hle2.size
    clear c1 hz1
    go_wp2_with fail
    have hS2 := own_sl hown2 hok
    refine (sBelowOf_any _ _ _ xs a _ hS2).mono ?_
    rintro e w3 ⟨v0, rfl, hown0, hokL, hle3⟩
    obtain ⟨A0, q0, rfl⟩ := own_form hown0
    have HLT0 : Hid (∀ k, (Value.slice A0 (belowX xs a).length q0).ownBlock = some k → k < w3.heap.size) := fun k hk => (hown0.lt k hk).2
    have hl3 := hl2.trans hle3
    have c3 := (hle3.cell hz2).trans c2
    have hz3 := Nat.lt_of_lt_of_le hz2 hle3.size
    have HS0 : Hid (w.heap.size < w3.heap.size) := hz3
    clear c2 hz2 hown2 hS2
    go_wp2_with fail
    refine (toTree_any A n cap xs _ (hR.le hl3) (by omega)).mono ?_
    rintro e w4 ⟨g4, rfl, hg4, hown4, hle4⟩
    have hl4 := hl3.trans hle4
    have c4 := (hle4.cell hz3).trans c3
    have hz4 := Nat.lt_of_lt_of_le hz3 hle4.size
    clear c3 hz3
    go_wp2_with fail
    have hl4b := hl4.alloc (.cells #[.slice (some ⟨g4, 0, none⟩) n n] 30)
    have hl5 := Le.new w4 (.cells #[.slice (some ⟨g4, 0, none⟩) n n] 30)
    have c5 := (hl5.cell hz4).trans c4
    have d5 : (w4.alloc (.cells #[.slice (some ⟨g4, 0, none⟩) n n] 30)).cell? ⟨w4.heap.size, 0, none⟩ = some (.slice (some ⟨g4, 0, none⟩) n n) := by rw [World.cell?_alloc_at _ _ _ _ rfl]; rfl
    have hx5 : w4.heap.size < (w4.alloc (.cells #[.slice (some ⟨g4, 0, none⟩) n n] 30)).heap.size := by simp
    have hS5 := (own_sl hown4 hok).le hl5
    have hz5 := Nat.lt_of_lt_of_le hz4 hl5.size
    generalize w4.alloc (.cells #[.slice (some ⟨g4, 0, none⟩) n n] 30) = w5 at *
    clear c4
    refine (iBelowOf_any _ _ _ xs a _ hS5).mono ?_
    rintro e w6 ⟨v6, rfl, hown6, _, hle6⟩
    obtain ⟨A6, q6, rfl⟩ := own_form hown6
    have HLT6 : Hid (∀ k, (Value.slice A6 (belowX xs a).length q6).ownBlock = some k → w5.heap.size ≤ k ∧ k < w6.heap.size) := fun k hk => hown6.lt k hk
    have HS4 : Hid (w3.heap.size ≤ g4 ∧ g4 < w4.heap.size) := ⟨hg4, own_lt hown4⟩
    have HS5 : Hid (w4.heap.size < w5.heap.size) := hx5
    have hl6 := hl4b.trans hle6
    have c6 := (hle6.cell hz5).trans c5
    have d6 := (hle6.cell hx5).trans d5
    have hz6 := Nat.lt_of_lt_of_le hz5 hle6.size
    have hx6 := Nat.lt_of_lt_of_le hx5 hle6.size
    have hS6 := hS5.le hle6
    have o0 := own_le (own_le (own_le hown0 hle4) hl5) hle6
    have o4 := own_le (own_le hown4 hl5) hle6
    clear c5 d5 hS5 hown0 hown4 hle1 hle2 hle3 hle4 hl5 hle6 hl1 hl2 hl3 hl4 hl0 hl4b
    go_wp2_with fail
    refine (eqIntS_any _ _ _ _ _ _ (belowX xs a) (belowX xs a) _ (own_ints hown6 hokL) (own_ints o0 hokL)).mono ?_
    rintro e w7 ⟨rfl, hle7⟩
    rw [eqIs_self]
    have c7 := (hle7.cell hz6).trans c6
    have d7 := (hle7.cell hx6).trans d6
    have hz7 := Nat.lt_of_lt_of_le hz6 hle7.size
    have hx7 := Nat.lt_of_lt_of_le hx6 hle7.size
    have hl7 := hl6.trans hle7
    have p0 := own_le o0 hle7
    have p4 := own_le o4 hle7
    have p6 := own_le hown6 hle7
    have hSxd : Sl w7.drew (some ⟨g4, 0, none⟩) n n xs := (hS6.le hle7).le (Le.refl _).drew
    have hRd : Sl w7.drew A n cap xs := hR.le hl7.drew
    have hl7d := hl7.drew
    clear c6 d6 hz6 hx6 hS6 o0 o4 hown6 hl6 hle7
    go_wp2_with fail
    go_region_held3 (fun w' => w'.cell? ⟨w.heap.size, 0, none⟩ = some (.slice A n cap) ∧ w'.cell? ⟨w4.heap.size, 0, none⟩ = some (.slice (some ⟨g4, 0, none⟩) n n))
      (first | exact ⟨c7, d7⟩ | exact ⟨c8, d8⟩ | exact ⟨c9, d9⟩)
      (first
      | (go_at_call 11; refine (toTree_any A n cap xs _ hRd (by omega)).mono ?_; rintro e w8 ⟨g8, rfl, hg8, hown8, hle8⟩; have hl8 := hl7d.trans hle8; have c8 := (hle8.cell hz7).trans c7; have d8 := (hle8.cell hx7).trans d7; have hS8 := own_sl hown8 hok; have hT8 := hSxd.le hle8; have hz8 := Nat.lt_of_lt_of_le hz7 hle8.size; have hx8 := Nat.lt_of_lt_of_le hx7 hle8.size; have r0 := own_le p0.drew hle8; have r4 := own_le p4.drew hle8; have r6 := own_le p6.drew hle8)
      | (go_at_call 14; refine (eqTree_any _ _ _ _ _ _ xs xs _ hT8 hS8).mono ?_; rintro e w9 ⟨rfl, hle9⟩; rw [eqCs_self]; have c9 := (hle9.cell hz8).trans c8; have d9 := (hle9.cell hx8).trans d8))
    have hl9 := hl8.trans hle9
    have hz9 := Nat.lt_of_lt_of_le hz8 hle9.size
    have hx9 := Nat.lt_of_lt_of_le hx8 hle9.size
    have s0 := own_le r0 hle9
    have s4 := own_le r4 hle9
    have s6 := own_le r6 hle9
    clear c8 d8 r0 r4 r6 p0 p4 p6 hown8 hS8 hT8 hle8 hle9 hSxd hRd c7 d7 hz7 hx7 hz8 hx8 hl7 hl7d hl8
    go_wp2_with fail
    refine (markTree_any g4 n n _ 1 _ _ s4 (by omega) (by omega) (by omega)).mono ?_
    rintro e w10 ⟨rfl, _, hg10⟩
    have t0 := s0.kept hg10 (by by_cases h : (Value.slice A0 (belowX xs a).length q0).ownBlock = some g4 <;> first | (exact .inr h) | (have h1 := HLT0.out _ h; have h2 := HS4.out; omega))
    have t6 := s6.kept hg10 (by by_cases h : (Value.slice A6 (belowX xs a).length q6).ownBlock = some g4 <;> first | (exact .inr h) | (have h1 := HLT6.out _ h; have h2 := HS4.out; have h3 := HS5.out; omega))
    have hl10 : Le w w10 := hl9.grown hg10 (fun k hk => by injection hk with hk; have h2 := HS4.out; have h3 := HS0.out; omega)
    have c10 := (hg10.cell (a := ⟨w.heap.size, 0, none⟩) c9 (fun e => by
      have e' : w.heap.size = g4 := by injection e
      have h2 := HS4.out
      have h3 := HS0.out
      omega))
    have hz10 := Nat.lt_of_lt_of_le hz9 hg10.size
    clear s0 s4 s6 c9 d9 hg10 hx9 hl9 hz9
    have hkk : decide ((1 : Int) + 2 * (n : Int) < 0) = false := decide_eq_false (by omega)
    go_wp2_with fail
    refine (eqIntS_any _ _ _ _ _ _ (belowX xs a) (belowX xs a) _ (own_ints t6 hokL) (own_ints t0 hokL)).mono ?_
    rintro e w11 ⟨rfl, hle11⟩
    rw [eqIs_self]
    have hl11 := hl10.trans hle11
    have c11 := (hle11.cell hz10).trans c10
    have hz11 := Nat.lt_of_lt_of_le hz10 hle11.size
    have u0 := own_le t0 hle11
    have u6 := own_le t6 hle11
    clear t0 t6 c10 hz10 hl10 hle11
    go_wp2_with fail
    refine (markInts_any _ _ _ _ _ _ u6 HLL).mono ?_
    rintro e w12 ⟨rfl, v6m, hg12⟩
    have v0m := u0.kept hg12 (by
      by_cases h : (Value.slice A0 (belowX xs a).length q0).ownBlock = (Value.slice A6 (belowX xs a).length q6).ownBlock
      · cases h' : (Value.slice A6 (belowX xs a).length q6).ownBlock with
        | none => exact .inl (h.trans h')
        | some k => have h1 := HLT0.out k (h.trans h'); have h2 := HLT6.out k h'; have h3 := HS4.out; have h4 := HS5.out; omega
      · exact .inr h)
    have hl12 : Le w w12 := hl11.grown hg12 (fun k hk => by have h1 := HLT6.out k hk; have h2 := HS4.out; have h3 := HS0.out; have h4 := HS5.out; omega)
    have c12 := (hg12.cell (a := ⟨w.heap.size, 0, none⟩) c11 (fun e => by
      have h1 : w5.heap.size ≤ w.heap.size ∧ w.heap.size < w6.heap.size := HLT6.out _ e.symm
      have h2 := HS4.out
      have h3 := HS0.out
      have h4 := HS5.out
      omega))
    have hz12 := Nat.lt_of_lt_of_le hz11 hg12.size
    clear u0 u6 c11 hz11 hl11 hg12
    go_wp2_with fail
    refine (heldIntS_any _ _ _ (marks 1 (belowX xs a).length) 1 _ (own_ints v6m (marks_ok HLL)) (marks_at 1 _) (by omega) (by omega) HLL).mono ?_
    rintro e w13 ⟨rfl, hle13⟩
    have hl13 := hl12.trans hle13
    have c13 := (hle13.cell hz12).trans c12
    have hz13 := Nat.lt_of_lt_of_le hz12 hle13.size
    have x0 := own_le v0m hle13
    have x6 := own_le v6m hle13
    clear v0m v6m c12 hz12 hl12 hle13
    have hqq : decide ((1 : Int) + ((belowX xs a).length : Int) < 0) = false := decide_eq_false (by omega)
    go_wp2_with fail
    refine (toTree_any A n cap xs _ (hR.le hl13) (by omega)).mono ?_
    rintro e w14 ⟨g14, rfl, hg14, hown14, hle14⟩
    have hl14 := hl13.trans hle14
    have y0 := own_le x0 hle14
    have y6 := own_le x6 hle14
    have hS14 := own_sl hown14 hok
    clear x0 x6 c13 hz13 hl13 hle14 hown14
    go_wp2_with fail
    refine (iBelowOf_any _ _ _ xs a _ hS14).mono ?_
    rintro e w15 ⟨v15, rfl, hown15, _, hle15⟩
    obtain ⟨A15, q15, rfl⟩ := own_form hown15
    have hl15 := hl14.trans hle15
    have z0 := own_le y0 hle15
    have z6 := own_le y6 hle15
    clear y0 y6 hS14 hl14 hle15
    go_wp2_with fail
    refine (eqIntS_any _ _ _ _ _ _ (belowX xs a) (belowX xs a) _ (own_ints hown15 hokL) (own_ints z0 hokL)).mono ?_
    rintro e w16 ⟨rfl, hle16⟩
    rw [eqIs_self]
    have hl16 := hl15.trans hle16
    have k6 := own_le z6 hle16
    clear z0 z6 hown15 hl15 hle16
    go_wp2_with fail
    refine (heldIntS_any _ _ _ (marks 1 (belowX xs a).length) 1 _ (own_ints k6 (marks_ok HLL)) (marks_at 1 _) (by omega) (by omega) HLL).mono ?_
    rintro e w17 ⟨rfl, hle17⟩
    have hl17 := hl16.trans hle17
    go_wp2
    go_ret
    exact ⟨rfl, hl17⟩
end Go.Proofs.Ytjmoddphfhgghad
