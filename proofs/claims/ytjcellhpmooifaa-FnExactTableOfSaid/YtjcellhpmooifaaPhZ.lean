/- tables: TableOf of both -/
import Derived.Test.YtjcellhpmooifaaPhW
import Derived.Test.YtjcellhpmooifaaTyRange
namespace Go.Proofs.Ytjcellhpmooifaa
open Go.RowKit
instance instOneRng : EncOne Rng := ⟨by decide, fun x u hu => by simp [Enc.cells] at hu; rcases hu with rfl | rfl | rfl | rfl <;> rfl⟩
theorem infoRg : (Try.prog.info? 90).map (fun i => (i.zero, i.size, i.bytes)) = some (some (.agg #[.int .i64 0, .int .i64 0, .int .i64 0, .int .i64 0]), 4, 32) := by kernel_rfl
def lnB (p : List Lin) (i : Nat) : Int := match p[i]? with | some x => x.b | none => 0
theorem lnB_at {p : List Lin} {i : Nat} (h : i < p.length) : lnB p i = p[i].b := by unfold lnB; rw [List.getElem?_eq_getElem h]
/-- the range of a line that catches in the block of a line -/
def rgL (p : List Lin) (i k : Nat) : Rng := ⟨(i : Int) + 1, (bEnd p i : Int), (k : Int), lnA p k⟩
def rgW (p : List Lin) (i : Nat) : Rng := ⟨(i : Int) + 1, (bEnd p i : Int), (i : Int), 0⟩
/-- the ranges of a line -/
def tbAt (p : List Lin) (i : Nat) : List Rng := if knd p i = 7 then (exL p i).map (rgL p i) else if knd p i = 11 ∧ lnB p i = 1 then [rgW p i] else []
/-- the ranges of the last lines -/
def tbD (p : List Lin) : Nat → List Rng
  | 0 => []
  | m + 1 => tbD p m ++ tbAt p (p.length - 1 - m)
theorem tbAt_len (p : List Lin) (i : Nat) : (tbAt p i).length ≤ p.length + 1 := by
  unfold tbAt
  split
  · rw [List.length_map]; exact Nat.le_trans (exF_len _ _) (parts_len p i)
  · split <;> simp
theorem tbD_len (p : List Lin) : ∀ m, (tbD p m).length ≤ m * (p.length + 1)
  | 0 => by simp [tbD]
  | m + 1 => by
    unfold tbD
    rw [List.length_append, Nat.succ_mul]
    have := tbD_len p m
    have := tbAt_len p (p.length - 1 - m)
    omega
theorem rgL_ok {p : List Lin} {i k : Nat} (hp : ∀ x ∈ p, Enc.ok x) (hi : i < p.length) (hk : k < p.length) (hsm : p.length ≤ 1048576) : Enc.ok (rgL p i k) := by
  have h1 := bEnd_le hi
  have h2 := hp _ (List.getElem_mem hk)
  unfold rgL
  rw [lnA_at hk]
  exact ⟨show (-9223372036854775808 : Int) ≤ (i : Int) + 1 by omega, show (i : Int) + 1 ≤ 9223372036854775807 by omega, show (-9223372036854775808 : Int) ≤ (bEnd p i : Int) by omega, show (bEnd p i : Int) ≤ 9223372036854775807 by omega, show (-9223372036854775808 : Int) ≤ (k : Int) by omega, show (k : Int) ≤ 9223372036854775807 by omega, h2.2.2.2.2.1, h2.2.2.2.2.2.1⟩
theorem rgW_ok {p : List Lin} {i : Nat} (hi : i < p.length) (hsm : p.length ≤ 1048576) : Enc.ok (rgW p i) := by
  have h1 := bEnd_le hi
  unfold rgW
  exact ⟨show (-9223372036854775808 : Int) ≤ (i : Int) + 1 by omega, show (i : Int) + 1 ≤ 9223372036854775807 by omega, show (-9223372036854775808 : Int) ≤ (bEnd p i : Int) by omega, show (bEnd p i : Int) ≤ 9223372036854775807 by omega, show (-9223372036854775808 : Int) ≤ (i : Int) by omega, show (i : Int) ≤ 9223372036854775807 by omega, show (-9223372036854775808 : Int) ≤ 0 by omega, show (0 : Int) ≤ 9223372036854775807 by omega⟩
theorem tbD_ok {p : List Lin} (hp : ∀ x ∈ p, Enc.ok x) (hsm : p.length ≤ 1048576) : ∀ m, m ≤ p.length → ∀ x ∈ tbD p m, Enc.ok x
  | 0, _, x, h => nomatch h
  | m + 1, hm, x, h => by
    unfold tbD at h
    rcases List.mem_append.1 h with h | h
    · exact tbD_ok hp hsm m (by omega) x h
    · have hi : p.length - 1 - m < p.length := by omega
      unfold tbAt at h
      split at h
      · obtain ⟨k, hk, rfl⟩ := List.mem_map.1 h
        exact rgL_ok hp hi (parts_lt hi k (List.mem_filter.1 hk).1) hsm
      · split at h
        · rw [List.mem_singleton.1 h]; exact rgW_ok hi hsm
        · cases h
def tbX (xs : List Cls) (p : List Lin) : List Rng := cond (vp xs p) (tbD p p.length) []
theorem tbX_len (xs : List Cls) (p : List Lin) : (tbX xs p).length ≤ 1048576 := by
  unfold tbX
  cases h : vp xs p
  · simp
  · have h1 := (goodP_of h).len
    have h2 := tbD_len p p.length
    have h3 : p.length * (p.length + 1) ≤ 24 * 25 := Nat.mul_le_mul h1 (by omega)
    show (tbD p p.length).length ≤ _
    omega
theorem tb_step {p : List Lin} {k : Nat} (hk : k < p.length) : tbD p (p.length - k) = tbD p (p.length - (k + 1)) ++ tbAt p k := by
  rw [show p.length - k = (p.length - (k + 1)) + 1 by omega]
  show tbD p (p.length - (k + 1)) ++ tbAt p (p.length - 1 - (p.length - (k + 1))) = _
  rw [show p.length - 1 - (p.length - (k + 1)) = k by omega]
theorem tb_bound {p : List Lin} (hp : p.length ≤ 24) (k : Nat) (hk : k ≤ 24) : (tbD p k).length ≤ 600 := by
  have h2 := tbD_len p k
  have h3 : k * (p.length + 1) ≤ 24 * 25 := Nat.mul_le_mul hk (by omega)
  omega
theorem size_alloc1 (w : World) (o : Obj) : (w.alloc o).heap.size = w.heap.size + 1 := by simp
theorem apart_new {v u : Value} {b m : Nat} (h : v.ownBlock ≠ some b ∧ b < m) (hat : u.ownBlock = v.ownBlock ∨ u.ownBlock = some (m + 1)) : u.ownBlock ≠ some b := by
  rcases hat with e | e
  · rw [e]; exact h.1
  · rw [e]; intro e2; injection e2 with e2; omega
set_option maxHeartbeats 2000000 in
set_option maxRecDepth 100000 in
theorem iTableOf_any (B A : Option Addr) (m c n cap : Nat) (xs : List Cls) (p : List Lin) (hm : m ≤ 1048576) (w : World) (hT : Sl w B m c xs) (hR : Sl w A n cap p) :
    Calls Try.prog 46 #[.agg #[.slice B m c], .slice A n cap] w fun e w' => ∃ v, e = .returned v ∧ Owd 90 w w' v (tbX xs p) ∧ Le w w' := by
  obtain ⟨i0, hq, hz0, hz1, hz2⟩ := info_parts infoRg
  have HX : Hid (tbX xs p = cond (vp xs p) (tbD p p.length) []) := rfl
  go_enter Try.func46, Try.ntmps46
  go_wp2_with fail
  obtain ⟨ct, zt, hleB⟩ := box1 w (.slice B m c) 31
  have L0 := hleB
  clear hleB
  generalize w.alloc (.cells #[.slice B m c] 31) = W at *
  refine (pValidProgram_any B A m c n cap xs p hm _ (hT.le L0) (hR.le L0)).mono ?_
  rintro e w1 ⟨rfl, hle⟩
  have L1 := L0.trans hle
  cases h : vp xs p
  · have HO : Hid (Owd 90 w w1 (.slice none 0 0) (tbX xs p)) := by show Owd _ _ _ _ _; rw [HX.out, h]; exact Owd.nil _ _ _
    go_wp2
    go_ret
    exact ⟨_, rfl, HO.out, L1⟩
  · have HY : Hid (tbX xs p = tbD p p.length) := by show _ = _; rw [HX.out, h]; rfl
    have hp := (goodP_of h).len
    obtain rfl := hR.len
    have HRO := Lib.hid hR.ok
    have HOK := Lib.hid (tbD_ok hR.ok (by omega) p.length (Nat.le_refl _))
    have HBD := Lib.hid (tb_bound hp)
    have S1 := hR.le L1
    have hwn : IntKind.i64.wrap ((p.length : Int) - 1) = (p.length : Int) - 1 := IntWalk.i64_in _ (by omega)
    clear HX hT hR L0 hle ct zt
    go_wp2
    have O0 : w1.ownsRow w1.heap.size 90 4 (.slice none 0 0) (tbD p 0).length ((tbD p 0).flatMap Enc.cells) := World.ownsRow_nil _ _ _ _
    go_loopw [5, 6, 7, 8, 9, 10, 11, 12] (fun v q _ _ _ _ _ _ wr => ∃ k : Nat, k ≤ p.length ∧ q = .int .i64 ((k : Int) - 1) ∧ wr.ownsRow w1.heap.size 90 4 v (tbD p (p.length - k)).length ((tbD p (p.length - k)).flatMap Enc.cells) ∧ Le w1 wr) (fun _ q _ _ _ _ _ _ _ => (intOf q + 1).toNat)
    case atStart => exact ⟨p.length, Nat.le_refl _, rfl, by rw [Nat.sub_self]; exact O0, Le.refl _⟩
    case round =>
      obtain ⟨k, hk, rfl, O1, L⟩ := hrel
      have T := S1.le L
      have hLs := L.size
      clear O0
      cases k with
      | zero =>
        have HF : Hid (∀ v, wr.ownsRow w1.heap.size 90 4 v (tbD p (p.length - 0)).length ((tbD p (p.length - 0)).flatMap Enc.cells) → Owd 90 w wr v (tbX xs p)) := fun v hv => ⟨own_mono (by rw [HY.out]; exact hv) L1.size, by rw [HY.out]; exact HOK.out⟩
        have hneg : ¬ (0 : Int) ≤ ((0 : Nat) : Int) - 1 := by omega
        go_wp2
        go_ret
        exact ⟨_, rfl, HF.out _ O1, L1.trans L⟩
      | succ j =>
        have hjl : j < p.length := by omega
        have hkk : (((j + 1 : Nat) : Int) - 1) = (j : Int) := by omega
        have hj0 : (0 : Int) ≤ (j : Int) := by omega
        have hjn : (j : Int) < (p.length : Int) := by omega
        have hwj : IntKind.i64.wrap ((j : Int) - 1) = (j : Int) - 1 := IntWalk.i64_in _ (by omega)
        have hwj1 : IntKind.i64.wrap ((j : Int) + 1) = (j : Int) + 1 := IntWalk.i64_in _ (by omega)
        rw [hkk]
        have HST := Lib.hid (tb_step hjl)
        have hTl := HBD.out (p.length - (j + 1)) (by omega)
        have HAT : Hid (tbAt p j = if knd p j = 7 then (exL p j).map (rgL p j) else if knd p j = 11 ∧ lnB p j = 1 then [rgW p j] else []) := rfl
        have HKJ := Lib.hid (knd_at hjl)
        have HBJ := Lib.hid (lnB_at hjl)
        have HEL : Hid (∀ x ∈ exL p j, x < p.length) := fun x hx => parts_lt hjl x (List.mem_filter.1 hx).1
        have hell : (exL p j).length ≤ p.length + 1 := Nat.le_trans (exF_len _ _) (parts_len p j)
        have HRL : Hid (∀ x, x < p.length → Enc.ok (rgL p j x)) := fun x hx => rgL_ok HRO.out hjl hx (by omega)
        have hokW := rgW_ok hjl (by omega)
        generalize tbD p (p.length - (j + 1)) = TB at *
        go_wp2_with fail
        refine (iBlockEnd_any _ p.length cap p j hjl wr T).mono ?_
        rintro e w2 ⟨rfl, hle2⟩
        have O2 := own_le O1 hle2
        have L2 := L.trans hle2
        have T2 := T.le hle2
        obtain ⟨b, off, rfl, hb, d0, d1, d2, d3, -⟩ := T2.lin_at hjl
        generalize p[j].kind = vk at *
        generalize p[j].b = vb at *
        clear T O1 L hle2 d0 d2
        by_cases h7 : vk = 7
        · subst h7
          have HN : Hid (tbD p (p.length - j) = TB ++ (exL p j).map (rgL p j)) := by show _ = _; rw [HST.out, HAT.out, if_pos HKJ.out]
          clear HST HAT
          go_wp2_with fail
          refine (exceptsOf_any _ p.length cap p j hjl (by omega) w2 T2).mono ?_
          rintro e w3 ⟨v3, u3, rfl, D3, D4, hle3⟩
          obtain ⟨A3, q3, rfl, S3, hB3⟩ := D3.form (by decide)
          obtain ⟨A4, q4, rfl, S4, hB4⟩ := D4.form (by decide)
          have HOL := Lib.hid (fun k hk => (O2.lt k hk).2)
          have O3 := own_le O2 hle3
          have L3 := L2.trans hle3
          have hcl : clL p j = (exL p j).map (lnA p) := rfl
          rw [hcl] at S4 ⊢
          rw [nI_len] at S3 ⊢
          rw [List.length_map] at S4 ⊢
          have HRV : Hid (∀ x, rgL p j x = ⟨(j : Int) + 1, (bEnd p j : Int), (x : Int), lnA p x⟩) := fun x => rfl
          rw [nI_len] at hB3
          rw [hcl, List.length_map] at hB4
          generalize exL p j = E at *
          generalize bEnd p j = be at *
          have hA3 : ∀ a, A3 = some a → w2.heap.size ≤ a.block ∧ a.block < w3.heap.size := fun a ha => hB3 a.block (by rw [ha]; rfl)
          have hA4 : ∀ a, A4 = some a → w2.heap.size ≤ a.block ∧ a.block < w3.heap.size := fun a ha => hB4 a.block (by rw [ha]; rfl)
          have HAP3 : Hid (∀ a, A3 = some a → Value.ownBlock u5 ≠ some a.block ∧ a.block < w3.heap.size) := fun a ha => ⟨fun e => by have := HOL.out _ e; have := (hA3 a ha).1; omega, (hA3 a ha).2⟩
          have HAP4 : Hid (∀ a, A4 = some a → Value.ownBlock u5 ≠ some a.block ∧ a.block < w3.heap.size) := fun a ha => ⟨fun e => by have := HOL.out _ e; have := (hA4 a ha).1; omega, (hA4 a ha).2⟩
          clear hB3 hB4 hA3 hA4 HOL
          have O3b : w3.ownsRow w1.heap.size 90 4 u5 (TB ++ (E.take 0).map (rgL p j)).length ((TB ++ (E.take 0).map (rgL p j)).flatMap Enc.cells) := by simpa using O3
          clear hcl D3 D4 O2 O3 hle3 T2 L2 d1 d3
          go_wp2
          generalize wr = W0 at *
          go_loopw [5, 11, 12, 44] (fun v _ _ q wr => ∃ r : Nat, r ≤ E.length ∧ q = .int .i64 r ∧ wr.ownsRow w1.heap.size 90 4 v (TB ++ (E.take r).map (rgL p j)).length ((TB ++ (E.take r).map (rgL p j)).flatMap Enc.cells) ∧ Le w1 wr ∧ Sl wr A3 E.length q3 (nI E) ∧ Sl wr A4 E.length q4 (E.map (lnA p)) ∧ (∀ a, A3 = some a → v.ownBlock ≠ some a.block ∧ a.block < wr.heap.size) ∧ (∀ a, A4 = some a → v.ownBlock ≠ some a.block ∧ a.block < wr.heap.size)) (fun _ _ _ q _ => E.length - (intOf q).toNat)
          case atStart => exact ⟨0, Nat.zero_le _, rfl, O3b, L3, S3, S4, HAP3.out, HAP4.out⟩
          case round =>
            obtain ⟨r, hr, rfl, O4, L14, S34, S44, hp3, hp4⟩ := hrel
            have HP3 := Lib.hid hp3
            have HP4 := Lib.hid hp4
            clear hp3 hp4 S3 S4 HAP3 HAP4
            have hl4 := L14.size
            have htl : (TB ++ (E.take r).map (rgL p j)).length ≤ 600 + r := by rw [List.length_append, List.length_map, List.length_take]; omega
            clear O3b
            by_cases hlr : r < E.length
            · obtain ⟨b5, off5, rfl, hb5, c5, -⟩ := S34.int_at (k := r) (by rw [nI_len]; exact hlr)
              obtain ⟨b6, off6, rfl, hb6, c6, -⟩ := S44.int_at (k := r) (by rw [List.length_map]; exact hlr)
              rw [nI_at hlr] at c5
              rw [List.getElem_map] at c6
              have HT : Hid (TB ++ (E.take (r + 1)).map (rgL p j) = (TB ++ (E.take r).map (rgL p j)) ++ [rgL p j E[r]]) := by
                show _ = _
                rw [List.take_succ_eq_append_getElem hlr, List.map_append, List.append_assoc]; rfl
              have hokr := HRL.out E[r] (HEL.out _ (List.getElem_mem hlr))
              rw [HRV.out E[r]] at hokr HT
              generalize E[r] = x at *
              generalize lnA p x = va at *
              generalize TB ++ (E.take r).map (rgL p j) = G at *
              have hr0 : (0 : Int) ≤ (r : Int) := by omega
              have hrn : (r : Int) < (E.length : Int) := by omega
              go_wp2_with (at_builtin; refine wpList_append_sl rfl _ _ 54 rfl w1.heap.size 90 i0 _ 32 Try.underlying54 hq hz0 hz1 hz2 rfl _ G.length G rfl (O4.alloc _) _ 1 1 [(⟨(j : Int) + 1, (be : Int), (x : Int), va⟩ : Rng)] rfl (sl_one (⟨(j : Int) + 1, (be : Int), (x : Int), va⟩ : Rng) rfl hokr rfl) (by unfold maxLen; omega) (by omega) (L14.alloc _).size ?_; intro v5 w5 O5 hg5 hat5; have L5 := (L14.alloc _).grown hg5 (fun k hk => (O4.lt k hk).1); have S35 := (S34.alloc (.cells #[.int .i64 ((j : Int) + 1), .int .i64 (be : Int), .int .i64 (x : Int), .int .i64 va] 90)).grown hg5 (fun _ a e h => (HP3.out a e).1 h.symm); have S45 := (S44.alloc (.cells #[.int .i64 ((j : Int) + 1), .int .i64 (be : Int), .int .i64 (x : Int), .int .i64 va] 90)).grown hg5 (fun _ a e h => (HP4.out a e).1 h.symm); have hsz5 := hg5.size; rw [size_alloc1] at hsz5 hat5; clear hg5)
              go_roundw
              case rel => exact ⟨r + 1, by omega, by go_num, by rw [HT.out, List.length_append]; exact O5, L5, S35, S45, fun a e => ⟨apart_new (HP3.out a e) hat5, by have := (HP3.out a e).2; omega⟩, fun a e => ⟨apart_new (HP4.out a e) hat5, by have := (HP4.out a e).2; omega⟩⟩
              case measure => simp [intOf]; omega
            · obtain rfl : r = E.length := by omega
              have HO : Hid (∀ v, wr.ownsRow w1.heap.size 90 4 v (TB ++ (E.take E.length).map (rgL p j)).length ((TB ++ (E.take E.length).map (rgL p j)).flatMap Enc.cells) → wr.ownsRow w1.heap.size 90 4 v (tbD p (p.length - j)).length ((tbD p (p.length - j)).flatMap Enc.cells)) := fun v hv => by
                rw [HN.out]
                rwa [List.take_length] at hv
              go_wp2
              go_roundw
              case rel => exact ⟨j, by omega, by go_num, HO.out _ O4, L14⟩
              case measure => simp [intOf]
        · have h7b := bf h7
          by_cases h11 : vk = 11
          · subst h11
            by_cases hb1 : vb = 1
            · have hb1b : (vb == 1) = true := by simpa using hb1
              have HN : Hid (tbD p (p.length - j) = TB ++ [rgW p j]) := by show _ = _; rw [HST.out, HAT.out, if_neg (by rw [HKJ.out]; omega), if_pos ⟨HKJ.out, by rw [HBJ.out]; exact hb1⟩]
              have HRV : Hid (rgW p j = ⟨(j : Int) + 1, (bEnd p j : Int), (j : Int), 0⟩) := rfl
              rw [HRV.out] at hokW HN
              generalize bEnd p j = be at *
              clear hb1 HST HAT
              go_wp2_with (at_builtin; refine wpList_append_sl rfl _ _ 54 rfl w1.heap.size 90 i0 _ 32 Try.underlying54 hq hz0 hz1 hz2 rfl _ TB.length TB rfl (O2.alloc _) _ 1 1 [(⟨(j : Int) + 1, (be : Int), (j : Int), 0⟩ : Rng)] rfl (sl_one (⟨(j : Int) + 1, (be : Int), (j : Int), 0⟩ : Rng) rfl hokW rfl) (by unfold maxLen; omega) (by omega) (L2.alloc _).size ?_; intro v5 w5 O5 hg5 _; have L5 := (L2.alloc _).grown hg5 (fun k hk => (O2.lt k hk).1); clear hg5)
              go_roundw
              case rel => exact ⟨j, by omega, by go_num, by rw [HN.out, List.length_append]; exact O5, L5⟩
              case measure => simp [intOf]
            · have hb1b : (vb == 1) = false := bf hb1
              have HN : Hid (tbD p (p.length - j) = TB) := by show _ = _; rw [HST.out, HAT.out, if_neg (by rw [HKJ.out]; omega), if_neg (by rw [HBJ.out]; exact fun h => hb1 h.2), List.append_nil]
              clear HST HAT
              go_wp2
              go_roundw
              case rel => exact ⟨j, by omega, by go_num, by rw [HN.out]; exact O2, L2⟩
              case measure => simp [intOf]
          · have h11b := bf h11
            have HN : Hid (tbD p (p.length - j) = TB) := by show _ = _; rw [HST.out, HAT.out, if_neg (by rw [HKJ.out]; exact h7), if_neg (by rw [HKJ.out]; exact fun h => h11 h.1), List.append_nil]
            clear HST HAT
            go_wp2
            go_roundw
            case rel => exact ⟨j, by omega, by go_num, by rw [HN.out]; exact O2, L2⟩
            case measure => simp [intOf]
end Go.Proofs.Ytjcellhpmooifaa
