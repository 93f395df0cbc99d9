/- programs: what never catches: deadExcepts of the program, dropDead of the model; DropDead of both -/
/- programs: DropDead of the program -/
/- programs: dropDead, DropDead of the model -/
import Derived.Test.YtjcellhpmooifaaPhQ
import Derived.Test.YtjcellhpmooifaaOneLin
import Derived.Test.YtjcellhpmooifaaHI
import Derived.Test.YtjcellhpmooifaaIx
import Derived.Test.YtjcellhpmooifaaPhJ
namespace Go.Proofs.Ytjcellhpmooifaa
open Go.RowKit
section
/-- of some lines those whose class is caught ahead -/
def deA (xs : List Cls) (p : List Lin) : List Int → List Nat → List Nat
  | _, [] => []
  | acc, x :: r => (if 0 ≤ firstC xs acc (lnA p x) 0 then [x] else []) ++ deA xs p (acc ++ [lnA p x]) r
/-- the lines of a try that never catch -/
def deAt (xs : List Cls) (p : List Lin) (i : Nat) : List Nat := if knd p i = 7 then deA xs p [] (exL p i) else []
def deD (xs : List Cls) (p : List Lin) : Nat → List Nat
  | 0 => []
  | k + 1 => deD xs p k ++ deAt xs p k
theorem deA_len (xs : List Cls) (p : List Lin) : ∀ (E : List Nat) acc, (deA xs p acc E).length ≤ E.length
  | [], _ => Nat.le_refl _
  | x :: r, acc => by
    unfold deA
    have := deA_len xs p r (acc ++ [lnA p x])
    rw [List.length_append]
    split <;> simp <;> omega
theorem deA_mem (xs : List Cls) (p : List Lin) : ∀ (E : List Nat) acc, ∀ x ∈ deA xs p acc E, x ∈ E
  | [], _, x, h => nomatch h
  | y :: r, acc, x, h => by
    unfold deA at h
    rcases List.mem_append.1 h with h | h
    · split at h
      · rw [List.mem_singleton.1 h]; exact List.mem_cons_self ..
      · cases h
    · exact List.mem_cons_of_mem _ (deA_mem xs p r _ x h)
theorem deAt_len (xs : List Cls) (p : List Lin) (i : Nat) : (deAt xs p i).length ≤ p.length + 1 := by
  unfold deAt
  split
  · exact Nat.le_trans (deA_len _ _ _ _) (Nat.le_trans (exF_len _ _) (parts_len p i))
  · simp
theorem deD_len (xs : List Cls) (p : List Lin) : ∀ k, (deD xs p k).length ≤ k * (p.length + 1)
  | 0 => by simp [deD]
  | k + 1 => by
    unfold deD
    rw [List.length_append, Nat.succ_mul]
    have := deD_len xs p k
    have := deAt_len xs p k
    omega
theorem deD_bound {xs : List Cls} {p : List Lin} (hp : p.length ≤ 24) (k : Nat) (hk : k ≤ 24) : (deD xs p k).length ≤ 600 := by
  have h2 := deD_len xs p k
  have h3 : k * (p.length + 1) ≤ 24 * 25 := Nat.mul_le_mul hk (by omega)
  omega
theorem deD_lt {xs : List Cls} {p : List Lin} : ∀ k, k ≤ p.length → ∀ x ∈ deD xs p k, x < p.length
  | 0, _, x, h => nomatch h
  | k + 1, hk, x, h => by
    unfold deD at h
    rcases List.mem_append.1 h with h | h
    · exact deD_lt k (by omega) x h
    · unfold deAt at h
      split at h
      · exact parts_lt (by omega) x (List.mem_filter.1 (deA_mem _ _ _ _ x h)).1
      · cases h
/-- the places of dead catches give the dead lines -/
theorem dead_places (xs : List Cls) (p : List Lin) (E : List Nat) : ∀ k, k ≤ E.length → (deadK xs (E.map (lnA p)) k).map (fun n => E.getD n.toNat 0) ++ deA xs p ((E.map (lnA p)).take k) (E.drop k) = deA xs p [] E
  | 0, _ => by simp [deadK]
  | k + 1, hk => by
    have ih := dead_places xs p E k (by omega)
    have hkl : k < (E.map (lnA p)).length := by simp; omega
    rw [List.drop_eq_getElem_cons (show k < E.length by omega)] at ih
    rw [← ih, List.take_succ_eq_append_getElem hkl]
    have e1 : (E.map (lnA p))[k] = lnA p E[k] := by simp
    show _ = _ ++ ((if 0 ≤ firstC xs ((E.map (lnA p)).take k) (lnA p E[k]) 0 then [E[k]] else []) ++ deA xs p ((E.map (lnA p)).take k ++ [lnA p E[k]]) (E.drop (k + 1)))
    rw [e1]
    by_cases h : 0 ≤ firstC xs ((E.map (lnA p)).take k) (lnA p E[k]) 0
    · rw [deadK_yes hkl (by rw [e1]; exact h), if_pos h, List.map_append, List.append_assoc]
      congr 2
      simp [List.getD_eq_getElem?_getD, show k < E.length by omega]
    · rw [deadK_no hkl (by rw [e1]; exact h), if_neg h]; rfl
theorem dead_all (xs : List Cls) (p : List Lin) (E : List Nat) : (deadK xs (E.map (lnA p)) (E.map (lnA p)).length).map (fun n => E.getD n.toNat 0) = deA xs p [] E := by
  have h := dead_places xs p E E.length (Nat.le_refl _)
  rw [List.drop_length] at h
  rw [List.length_map, ← h]
  unfold deA
  rw [List.append_nil]
theorem deadK_lt (xs : List Cls) (L : List Int) : ∀ k, ∀ x ∈ deadK xs L k, ∃ n : Nat, x = n ∧ n < k
  | 0, x, h => nomatch h
  | k + 1, x, h => by
    unfold deadK at h
    rcases List.mem_append.1 h with h | h
    · obtain ⟨n, h3, h4⟩ := deadK_lt xs L k x h
      exact ⟨n, h3, by omega⟩
    · split at h
      · exact ⟨k, List.mem_singleton.1 h, by omega⟩
      · cases h
/-- a program without some lines and their blocks -/
def drG (p : List Lin) (D : List Nat) : Nat → Nat → List Lin
  | 0, _ => []
  | m + 1, i => match p[i]? with
    | some x => if D.contains i = true then drG p D m (bEnd p i) else x :: drG p D m (i + 1)
    | none => []
theorem drG_step {p : List Lin} {D : List Nat} {m i : Nat} (hi : i < p.length) : drG p D (m + 1) i = if D.contains i = true then drG p D m (bEnd p i) else p[i] :: drG p D m (i + 1) := by
  show (match p[i]? with | some x => _ | none => _) = _
  rw [List.getElem?_eq_getElem hi]
theorem drG_stop {p : List Lin} {D : List Nat} {m i : Nat} (hi : ¬ i < p.length) : drG p D m i = [] := by
  cases m with
  | zero => rfl
  | succ m =>
    show (match p[i]? with | some x => _ | none => _) = _
    rw [List.getElem?_eq_none (by omega)]
theorem drG_len (p : List Lin) (D : List Nat) : ∀ m i, (drG p D m i).length ≤ m
  | 0, _ => Nat.le_refl _
  | m + 1, i => by
    unfold drG
    split
    · split
      · have := drG_len p D m (bEnd p i); omega
      · have := drG_len p D m (i + 1); simp; omega
    · simp
theorem drG_ok {p : List Lin} {D : List Nat} (h : ∀ x ∈ p, Enc.ok x) : ∀ m i, ∀ x ∈ drG p D m i, Enc.ok x
  | 0, _, x, hx => nomatch hx
  | m + 1, i, x, hx => by
    unfold drG at hx
    split at hx
    · rename_i y hy
      split at hx
      · exact drG_ok h m _ x hx
      · rcases List.mem_cons.1 hx with rfl | hx
        · exact h _ (List.mem_of_getElem? hy)
        · exact drG_ok h m _ x hx
    · cases hx
def drL (xs : List Cls) (p : List Lin) : List Lin := drG p (deD xs p p.length) p.length 0
def ddX (xs : List Cls) (p : List Lin) : List Lin := cond (vp xs p) (drL xs p) []
theorem ddX_len (xs : List Cls) (p : List Lin) : (ddX xs p).length ≤ 1048576 := by
  unfold ddX
  cases h : vp xs p
  · simp
  · have h1 := (goodP_of h).len
    have h2 := drG_len p (deD xs p p.length) p.length 0
    show (drL xs p).length ≤ _
    unfold drL; omega
theorem good_exc2 {xs : List Cls} {p : List Lin} (g : GoodP xs p) {i : Nat} (hi : i < p.length) (h7 : knd p i = 7) : goodC xs (clL p i) = true := by
  have hx : exs p (parts p i) ≤ 6 := ((g.tries i hi).1 h7).2
  rw [exs_len] at hx
  refine goodC_yes g.tree (by unfold clL; rw [clF_len]; exact hx) (goodL_mk fun b hb => ?_)
  obtain ⟨x, hx2, rfl⟩ := List.mem_map.1 hb
  have hm := List.mem_filter.1 hx2
  have hl := parts_lt hi x hm.1
  have hk : knd p x = 8 := by simpa using hm.2
  have hn := (g.line x hl).1
  rw [lnA_at hl]
  rw [knd_at hl] at hk
  unfold numS at hn
  rw [hk] at hn
  simp at hn
  exact hn.1
theorem size_al1 (w : World) (o : Obj) : (w.alloc o).heap.size = w.heap.size + 1 := by simp
theorem apart_nw {v u : Value} {b m : Nat} (h : v.ownBlock ≠ some b ∧ b < m) (hat : u.ownBlock = v.ownBlock ∨ u.ownBlock = some (m + 1)) : u.ownBlock ≠ some b := by
  rcases hat with e | e
  · rw [e]; exact h.1
  · rw [e]; intro e2; injection e2 with e2; omega
set_option maxHeartbeats 2000000 in
set_option maxRecDepth 100000 in
theorem deadExcepts_any (B A : Option Addr) (m c n cap : Nat) (xs : List Cls) (p : List Lin) (g : GoodP xs p) (w : World) (hT : Sl w B m c xs) (hR : Sl w A n cap p) :
    Calls Try.prog 75 #[.agg #[.slice B m c], .slice A n cap] w fun e w' => ∃ v, e = .returned v ∧ Owd 3 w w' v (nI (deD xs p p.length)) ∧ Le w w' := by
  obtain ⟨i0, hq, hz0, hz1, hz2⟩ := info_parts intInfoB
  have hp := g.len
  have HGC : Hid (∀ i, i < p.length → knd p i = 7 → goodC xs (clL p i) = true) := fun i hi => good_exc2 g hi
  obtain rfl := hR.len
  have HBD := Lib.hid (deD_bound (xs := xs) hp)
  have HLT := Lib.hid (deD_lt (xs := xs) (p := p) p.length (Nat.le_refl _))
  clear g
  go_enter Try.func75, Try.ntmps75
  go_wp2
  obtain ⟨ct, zt, hleB⟩ := box1 w (.slice B m c) 31
  have L0 := hleB
  clear hleB
  generalize w.alloc (.cells #[.slice B m c] 31) = W at *
  have T1 := hT.le L0
  have R1 := hR.le L0
  clear hT hR
  have O0 : W.ownsRow W.heap.size 3 1 (.slice none 0 0) (deD xs p 0).length ((nI (deD xs p 0)).flatMap Enc.cells) := World.ownsRow_nil _ _ _ _
  go_loopw [5, 6, 7, 8, 9, 11, 14] (fun v _ _ _ _ _ q wr => ∃ k : Nat, k ≤ p.length ∧ q = .int .i64 k ∧ wr.ownsRow W.heap.size 3 1 v (deD xs p k).length ((nI (deD xs p k)).flatMap Enc.cells) ∧ Le W wr) (fun _ _ _ _ _ _ q _ => p.length - (intOf q).toNat)
  case atStart => exact ⟨0, Nat.zero_le _, rfl, O0, Le.refl _⟩
  case round =>
    obtain ⟨k, hk, rfl, O1, L⟩ := hrel
    have T := T1.le L
    have R := R1.le L
    have hLs := L.size
    replace ct := (L.cell zt).trans ct
    clear O0 T1 R1
    by_cases hlt : k < p.length
    · obtain ⟨b, off, rfl, hb, d0, d1, d2, d3, -⟩ := R.lin_at hlt
      have HK := Lib.hid (knd_at hlt)
      have hTl := HBD.out k (by omega)
      have HGK := Lib.hid (HGC.out k hlt)
      have HST : Hid (deD xs p (k + 1) = deD xs p k ++ deAt xs p k) := rfl
      have HAT : Hid (deAt xs p k = if knd p k = 7 then deA xs p [] (exL p k) else []) := rfl
      have HCL : Hid (clL p k = (exL p k).map (lnA p)) := rfl
      have HDA := Lib.hid (dead_all xs p (exL p k))
      have hell : (exL p k).length ≤ p.length + 1 := Nat.le_trans (exF_len _ _) (parts_len p k)
      have HEL : Hid (∀ x ∈ exL p k, x < p.length) := fun x hx => parts_lt hlt x (List.mem_filter.1 hx).1
      have hk0 : (0 : Int) ≤ (k : Int) := by omega
      have hkn : (k : Int) < (p.length : Int) := by omega
      generalize deD xs p k = TB at *
      generalize p[k].depth = vd at *
      generalize p[k].kind = vk at *
      generalize p[k].a = va at *
      generalize p[k].b = vb at *
      by_cases h7 : vk = 7
      · subst h7
        have HN : Hid (deD xs p (k + 1) = TB ++ deA xs p [] (exL p k)) := by show _ = _; rw [HST.out, HAT.out, if_pos HK.out]
        have HGG := HGK.out HK.out
        have HDX := Lib.hid (deadX_of HGG)
        have H6 := goodC_of HGG
        have HFEW := H6.few
        obtain ⟨x0, x1, z0, hle2⟩ := box4 wr (.int .i64 vd) (.int .i64 7) (.int .i64 va) (.int .i64 vb) 67
        have O2 := own_le O1 hle2
        have L2 := L.trans hle2
        have T2 := T.le hle2
        have R2 := R.le hle2
        have ct2 := (hle2.cell (Nat.lt_of_lt_of_le zt hLs)).trans ct
        clear HST HAT HGK HGG H6
        go_wp2_with fail
        refine (exceptsOf_any _ p.length cap p k hlt (by omega) _ R2).mono ?_
        rintro e w3 ⟨v3, u3, rfl, D3, D4, hle3⟩
        obtain ⟨A3, q3, rfl, S3, hB3⟩ := D3.form (by decide)
        obtain ⟨A4, q4, rfl, S4, -⟩ := D4.form (by decide)
        have HOL := Lib.hid (fun j hj => (O2.lt j hj).2)
        have O3 := own_le O2 hle3
        have L3 := L2.trans hle3
        have T3 := T2.le hle3
        have ct3 := (hle3.cell (Nat.lt_of_lt_of_le zt L2.size)).trans ct2
        rw [nI_len] at S3 hB3 ⊢
        clear D3 D4 O2 x0 x1 z0 ct
        go_wp2_with fail
        refine (iDeadCatches_any B A4 m c _ q4 xs (clL p k) w3 T3 S4).mono ?_
        rintro e w4 ⟨v5, rfl, D5, hle4⟩
        have e5 : deadX xs (clL p k) = deadK xs (clL p k) (clL p k).length := HDX.out
        rw [e5] at D5
        have hkl := deadK_len xs (clL p k) (clL p k).length
        have HKL := Lib.hid (deadK_lt xs (clL p k) (clL p k).length)
        have hcl : (clL p k).length = (exL p k).length := by rw [HCL.out, List.length_map]
        rw [← HCL.out] at HDA
        obtain ⟨A5, q5, rfl, S5, hB5⟩ := D5.form (by decide)
        generalize deadK xs (clL p k) (clL p k).length = DK at *
        generalize (clL p k).length = lc at *
        generalize exL p k = E at *
        have hA3 : ∀ a, A3 = some a → (wr.alloc (.cells #[.int .i64 vd, .int .i64 7, .int .i64 va, .int .i64 vb] 67)).heap.size ≤ a.block ∧ a.block < w3.heap.size := fun a ha => hB3 a.block (by rw [ha]; rfl)
        have hA5 : ∀ a, A5 = some a → w3.heap.size ≤ a.block ∧ a.block < w4.heap.size := fun a ha => hB5 a.block (by rw [ha]; rfl)
        have O4i := own_le O3 hle4
        have L4i := L3.trans hle4
        have S34i := S3.le hle4
        have hs34 := hle4.size
        have hs23 := hle3.size
        have HAP3 : Hid (∀ a, A3 = some a → Value.ownBlock u5 ≠ some a.block ∧ a.block < w4.heap.size) := fun a ha => ⟨fun e => by have := HOL.out _ e; have := (hA3 a ha).1; omega, by have := (hA3 a ha).2; omega⟩
        have HAP5 : Hid (∀ a, A5 = some a → Value.ownBlock u5 ≠ some a.block ∧ a.block < w4.heap.size) := fun a ha => ⟨fun e => by have := HOL.out _ e; have := (hA5 a ha).1; omega, by have := (hA5 a ha).2; omega⟩
        have O4b : w4.ownsRow W.heap.size 3 1 u5 (TB ++ (DK.take 0).map (fun n => E.getD n.toNat 0)).length ((nI (TB ++ (DK.take 0).map (fun n => E.getD n.toNat 0))).flatMap Enc.cells) := by simpa using O4i
        clear hB3 hB5 hA3 hA5 HOL D5 O3 O4i O1 S3 S4 hle3 hle4 e5 L L2 L3 hle2 ct2 ct3 R2 R T T2 T3
        go_wp2
        generalize wr = W0 at *
        go_loopw [5, 11, 32] (fun v _ q wr => ∃ r : Nat, r ≤ DK.length ∧ q = .int .i64 r ∧ wr.ownsRow W.heap.size 3 1 v (TB ++ (DK.take r).map (fun n => E.getD n.toNat 0)).length ((nI (TB ++ (DK.take r).map (fun n => E.getD n.toNat 0))).flatMap Enc.cells) ∧ Le W wr ∧ Sl wr A3 E.length q3 (nI E) ∧ Sl wr A5 DK.length q5 DK ∧ (∀ a, A3 = some a → v.ownBlock ≠ some a.block ∧ a.block < wr.heap.size) ∧ (∀ a, A5 = some a → v.ownBlock ≠ some a.block ∧ a.block < wr.heap.size)) (fun _ _ q _ => DK.length - (intOf q).toNat)
        case atStart => exact ⟨0, Nat.zero_le _, rfl, O4b, L4i, S34i, S5, HAP3.out, HAP5.out⟩
        case round =>
          obtain ⟨r, hr, rfl, O4, L4, S34, S54, hp3, hp5⟩ := hrel
          have HP3 := Lib.hid hp3
          have HP5 := Lib.hid hp5
          have hl4 := L4.size
          have htl : (TB ++ (DK.take r).map (fun n => E.getD n.toNat 0)).length ≤ 600 + r := by rw [List.length_append, List.length_map, List.length_take]; omega
          clear O4b hp3 hp5 S34i S5 HAP3 HAP5
          by_cases hlr : r < DK.length
          · obtain ⟨y, hy, hyl⟩ := HKL.out DK[r] (List.getElem_mem hlr)
            have hyE : y < E.length := by omega
            obtain ⟨b5, off5, rfl, hb5, c5, -⟩ := S54.int_at hlr
            obtain ⟨b6, off6, rfl, hb6, c6, -⟩ := S34.int_at (k := y) (by rw [nI_len]; exact hyE)
            rw [nI_at hyE] at c6
            have HT : Hid (TB ++ (DK.take (r + 1)).map (fun n => E.getD n.toNat 0) = (TB ++ (DK.take r).map (fun n => E.getD n.toNat 0)) ++ [E[y]]) := by
              show _ = _
              rw [List.take_succ_eq_append_getElem hlr, List.map_append, List.append_assoc, List.map_singleton, hy, Int.toNat_natCast, List.getD_eq_getElem?_getD, List.getElem?_eq_getElem hyE, Option.getD_some]
            rw [hy] at c5
            have hz := HEL.out E[y] (List.getElem_mem hyE)
            clear hy
            generalize E[y] = z at *
            generalize TB ++ (DK.take r).map (fun n => E.getD n.toNat 0) = G at *
            have hokz : Enc.ok (z : Int) := ⟨by omega, by omega⟩
            have hr0 : (0 : Int) ≤ (r : Int) := by omega
            have hrn : (r : Int) < (DK.length : Int) := by omega
            have hy0 : (0 : Int) ≤ (y : Int) := by omega
            have hyn : (y : Int) < (E.length : Int) := by omega
            go_wp2_with (at_builtin; refine wpList_append_sl rfl _ _ 49 rfl W.heap.size 3 i0 _ 8 Try.underlying49 hq hz0 hz1 hz2 rfl _ G.length (nI G) rfl (O4.alloc _) _ 1 1 [(z : Int)] rfl (sl_one (z : Int) rfl hokz rfl) (by unfold maxLen; omega) (by omega) (L4.alloc _).size ?_; intro v5 w5 O5 hg5 hat5; have L5 := (L4.alloc _).grown hg5 (fun k hk => (O4.lt k hk).1); have S35 := (S34.alloc (.cells #[.int .i64 (z : Int)] 3)).grown hg5 (fun _ a e h => (HP3.out a e).1 h.symm); have S55 := (S54.alloc (.cells #[.int .i64 (z : Int)] 3)).grown hg5 (fun _ a e h => (HP5.out a e).1 h.symm); have hsz5 := hg5.size; rw [size_al1] at hsz5 hat5; clear hg5)
            go_roundw
            case rel => exact ⟨r + 1, by omega, by go_num, by rw [HT.out, nI_snoc, List.length_append]; exact O5, L5, S35, S55, fun a e => ⟨apart_nw (HP3.out a e) hat5, by have := (HP3.out a e).2; omega⟩, fun a e => ⟨apart_nw (HP5.out a e) hat5, by have := (HP5.out a e).2; omega⟩⟩
            case measure => simp [intOf]; omega
          · obtain rfl : r = DK.length := by omega
            have HO : Hid (∀ v, wr.ownsRow W.heap.size 3 1 v (TB ++ (DK.take DK.length).map (fun n => E.getD n.toNat 0)).length ((nI (TB ++ (DK.take DK.length).map (fun n => E.getD n.toNat 0))).flatMap Enc.cells) → wr.ownsRow W.heap.size 3 1 v (deD xs p (k + 1)).length ((nI (deD xs p (k + 1))).flatMap Enc.cells)) := fun v hv => by
              rw [HN.out, ← HDA.out]
              rwa [List.take_length] at hv
            go_wp2
            go_roundw
            case rel => exact ⟨k + 1, by omega, by go_num, HO.out _ O4, L4⟩
            case measure => simp [intOf]; omega
      · have h7b : (vk != 7) = true := by simpa using h7
        have HN : Hid (deD xs p (k + 1) = TB) := by show _ = _; rw [HST.out, HAT.out, if_neg (by rw [HK.out]; exact h7), List.append_nil]
        clear HST HAT
        go_wp2
        go_roundw
        case rel => exact ⟨k + 1, by omega, by go_num, by rw [HN.out]; exact O1.alloc _, L.alloc _⟩
        case measure => simp [intOf]; omega
    · obtain rfl : k = p.length := by omega
      have HF : Hid (∀ v, wr.ownsRow W.heap.size 3 1 v (deD xs p p.length).length ((nI (deD xs p p.length)).flatMap Enc.cells) → Owd 3 w wr v (nI (deD xs p p.length))) := fun v hv => ⟨by rw [nI_len]; exact own_mono hv L0.size, nI_ok HLT.out (by omega)⟩
      go_wp2
      go_ret
      exact ⟨_, rfl, HF.out _ O1, L0.trans L⟩
end

section
theorem nI_contains2 (L : List Nat) (x : Nat) : (nI L).contains (x : Int) = L.contains x := by
  rw [Bool.eq_iff_iff, List.contains_iff_mem, List.contains_iff_mem]
  unfold nI
  rw [List.mem_map]
  exact ⟨fun ⟨y, hy, e⟩ => by rw [← Int.ofNat.inj e]; exact hy, fun h => ⟨x, h, rfl⟩⟩
set_option maxHeartbeats 1000000 in
set_option maxRecDepth 100000 in
theorem iDropDead_any (B A : Option Addr) (m c n cap : Nat) (xs : List Cls) (p : List Lin) (hm : m ≤ 1048576) (w : World) (hT : Sl w B m c xs) (hR : Sl w A n cap p) :
    Calls Try.prog 35 #[.agg #[.slice B m c], .slice A n cap] w fun e w' => ∃ v, e = .returned v ∧ Owd 67 w w' v (ddX xs p) ∧ Le w w' := by
  obtain ⟨i0, hq, hz0, hz1, hz2⟩ := info_parts infoLn
  have HX : Hid (ddX xs p = cond (vp xs p) (drL xs p) []) := rfl
  go_enter Try.func35, Try.ntmps35
  go_wp2_with fail
  obtain ⟨ct, zt, hleB⟩ := box1 w (.slice B m c) 31
  have L0 := hleB
  clear hleB
  generalize w.alloc (.cells #[.slice B m c] 31) = W at *
  refine (pValidProgram_any B A m c n cap xs p hm _ (hT.le L0) (hR.le L0)).mono ?_
  rintro e w1 ⟨rfl, hle⟩
  replace ct := (hle.cell zt).trans ct
  replace zt := Nat.lt_of_lt_of_le zt hle.size
  replace L0 := L0.trans hle
  clear hle
  cases h : vp xs p
  · have HO : Hid (Owd 67 w w1 (.slice none 0 0) (ddX xs p)) := by show Owd _ _ _ _ _; rw [HX.out, h]; exact Owd.nil _ _ _
    go_wp2
    go_ret
    exact ⟨_, rfl, HO.out, L0⟩
  · have g := goodP_of h
    have hp := g.len
    have HY : Hid (ddX xs p = drL xs p) := by show _ = _; rw [HX.out, h]; rfl
    have HOK : Hid (∀ x ∈ drL xs p, Enc.ok x) := drG_ok hR.ok p.length 0
    have HLN : Hid ((drL xs p).length ≤ p.length) := drG_len p _ p.length 0
    have HM : Hid (drL xs p = drG p (deD xs p p.length) p.length 0) := rfl
    have hdl := deD_bound (xs := xs) hp p.length hp
    obtain rfl := hR.len
    have HRO := Lib.hid hR.ok
    have S1 := hR.le L0
    have T1 := hT.le L0
    clear HX h hT hR
    go_wp2_with fail
    refine (deadExcepts_any B A m c _ cap xs p g w1 T1 S1).mono ?_
    rintro e w2 ⟨v, rfl, D, hle2⟩
    obtain ⟨A2, q2, rfl, SD, -⟩ := D.form (by decide)
    have L2 := L0.trans hle2
    have S2 := S1.le hle2
    have HNC := Lib.hid (nI_contains2 (deD xs p p.length))
    rw [nI_len] at SD ⊢
    generalize deD xs p p.length = DD at *
    clear D g T1 S1 ct
    have OE : w2.ownsRow w2.heap.size 67 4 (.slice none 0 0) ([] : List Lin).length (([] : List Lin).flatMap Enc.cells) := World.ownsRow_nil _ _ _ _
    go_wp2
    go_loopw [6, 7] (fun v q wr => ∃ (k m : Nat) (out : List Lin), k ≤ p.length ∧ q = .int .i64 k ∧ p.length ≤ m + k ∧ drL xs p = out ++ drG p DD m k ∧ wr.ownsRow w2.heap.size 67 4 v out.length (out.flatMap Enc.cells) ∧ Le w2 wr) (fun _ q _ => p.length - (intOf q).toNat)
    case atStart => exact ⟨0, p.length, [], Nat.zero_le _, rfl, by omega, HM.out, OE, Le.refl _⟩
    case round =>
      obtain ⟨k, m, out, hk, rfl, hm, he, O1, L⟩ := hrel
      have HE := Lib.hid he
      have hol : out.length ≤ p.length := by have := HLN.out; rw [he, List.length_append] at this; omega
      have T := S2.le L
      have SK := SD.le L
      have hLs := L.size
      clear he OE HM
      by_cases hlt : k < p.length
      · obtain ⟨m', rfl⟩ : ∃ m', m = m' + 1 := ⟨m - 1, by omega⟩
        have HS := Lib.hid (drG_step (m := m') (D := DD) hlt)
        have hbl := bEnd_le hlt
        have hbg := bEnd_gt p k
        have hokx := HRO.out _ (List.getElem_mem hlt)
        have HNK := Lib.hid (HNC.out k)
        have hk0 : (0 : Int) ≤ (k : Int) := by omega
        have hkn : (k : Int) < (p.length : Int) := by omega
        go_wp2_with fail
        refine (iContains_any A2 _ q2 (nI DD) k wr SK (by omega)).mono ?_
        rintro e w3 ⟨rfl, rfl⟩
        rw [HNK.out]
        cases hb : DD.contains k
        · have HN : Hid (drL xs p = (out ++ [p[k]]) ++ drG p DD m' (k + 1)) := by show _ = _; rw [HE.out, HS.out, if_neg (by rw [hb]; simp), List.append_assoc]; rfl
          obtain ⟨b, off, rfl, hbz, d0, d1, d2, d3, -⟩ := T.lin_at hlt
          have HPK : Hid (p[k] = ⟨p[k].depth, p[k].kind, p[k].a, p[k].b⟩) := rfl
          rw [HPK.out] at hokx HN
          generalize p[k].depth = vd at *
          generalize p[k].kind = vk at *
          generalize p[k].a = va at *
          generalize p[k].b = vb at *
          clear HE HS hb HPK
          go_wp2_with (at_builtin; refine wpList_append_sl rfl _ _ 33 rfl w2.heap.size 67 i0 _ 32 Try.underlying33 hq hz0 hz1 hz2 rfl _ out.length out rfl (O1.alloc _) _ 1 1 [(⟨vd, vk, va, vb⟩ : Lin)] rfl (sl_one (⟨vd, vk, va, vb⟩ : Lin) rfl hokx rfl) (by unfold maxLen; omega) (by omega) (L.alloc _).size ?_; intro v5 w5 O5 hg5 _; have L5 := (L.alloc _).grown hg5 (fun k hk => (O1.lt k hk).1); clear hg5)
          go_roundw
          case rel => exact ⟨k + 1, m', out ++ [(⟨vd, vk, va, vb⟩ : Lin)], by omega, by go_num, by omega, HN.out, by rw [List.length_append]; exact O5, L5⟩
          case measure => simp [intOf]; omega
        · have HN : Hid (drL xs p = out ++ drG p DD m' (bEnd p k)) := by show _ = _; rw [HE.out, HS.out, if_pos hb]
          clear HE HS hb
          generalize wr = W0 at *
          go_wp2_with fail
          refine (iBlockEnd_any _ p.length cap p k hlt W0 T).mono ?_
          rintro e w3 ⟨rfl, hle3⟩
          go_wp2
          go_roundw
          case rel => exact ⟨bEnd p k, m', out, hbl, rfl, by omega, HN.out, own_le O1 hle3, L.trans hle3⟩
          case measure => simp [intOf]; omega
      · have HF : Hid (∀ v, wr.ownsRow w2.heap.size 67 4 v out.length (out.flatMap Enc.cells) → Owd 67 w wr v (ddX xs p)) := fun v hv => by
          have e : drL xs p = out := by rw [HE.out, drG_stop hlt, List.append_nil]
          have h2 := HOK.out
          rw [HY.out]
          rw [e] at h2 ⊢
          exact ⟨own_mono hv L2.size, h2⟩
        go_wp2
        go_ret
        exact ⟨_, rfl, HF.out _ O1, L2.trans L⟩
end

section
theorem ex_drop2 {p : List Lin} {C : List Nat} {k : Nat} (h : k < C.length) : exF p (C.drop k) = if knd p C[k] = 8 then C[k] :: exF p (C.drop (k + 1)) else exF p (C.drop (k + 1)) := by
  rw [List.drop_eq_getElem_cons h]
  unfold exF
  rw [List.filter_cons]
  by_cases e : knd p C[k] = 8
  · rw [if_pos e, if_pos (by simpa using e)]
  · rw [if_neg e, if_neg (by simpa using e)]
theorem exc_class {xs : List Cls} {p : List Lin} (g : GoodP xs p) {x : Nat} (hl : x < p.length) (h8 : knd p x = 8) : hasK xs (lnA p x) = true := by
  have hn := (g.line x hl).1
  rw [lnA_at hl]
  rw [knd_at hl] at h8
  unfold numS at hn
  rw [h8] at hn
  simp at hn
  exact hn.1
theorem deA_cons (xs : List Cls) (p : List Lin) (acc : List Int) (x : Nat) (r : List Nat) : deA xs p acc (x :: r) = (if 0 ≤ firstC xs acc (lnA p x) 0 then [x] else []) ++ deA xs p (acc ++ [lnA p x]) r := rfl
theorem hasI_nI : ∀ (L : List Nat) (x : Nat), hasI (nI L) (x : Int) = L.contains x
  | [], x => rfl
  | y :: r, x => by
    show (((y : Int) == (x : Int)) || hasI (nI r) (x : Int)) = (y :: r).contains x
    rw [hasI_nI r x, List.contains_cons]
    congr 1
    rw [Bool.eq_iff_iff, beq_iff_eq, beq_iff_eq]
    omega
set_option maxHeartbeats 4000000 in
set_option maxRecDepth 100000 in
theorem sdropDead_any (B A : Option Addr) (m c n cap : Nat) (xs : List Cls) (p : List Lin) (g : GoodP xs p) (w : World) (hT : Sl w B m c xs) (hR : Sl w A n cap p) :
    Calls Try.prog 74 #[.agg #[.slice B m c], .slice A n cap] w fun e w' => ∃ v, e = .returned v ∧ Owd 67 w w' v (drL xs p) ∧ Le w w' := by
  obtain ⟨i0, hq, hz0, hz1, hz2⟩ := info_parts intInfoB
  obtain ⟨j0, hi, hy0, hy1, hy2⟩ := info_parts infoLn
  have hp := g.len
  have HGC : Hid (∀ i, i < p.length → knd p i = 7 → goodC xs (clL p i) = true) := fun i hi => good_exc2 g hi
  have HGT := Lib.hid (good_of g.tree)
  have HCP : Hid (∀ j, j < p.length → chain p j = parts p j) := fun j hj => by unfold chain parts; rw [full_of p g.tries p.length j hj]
  obtain rfl := hR.len
  have HRO := Lib.hid hR.ok
  have HBD := Lib.hid (deD_bound (xs := xs) hp)
  have HOK : Hid (∀ x ∈ drL xs p, Enc.ok x) := drG_ok hR.ok p.length 0
  have HLN : Hid ((drL xs p).length ≤ p.length) := drG_len p _ p.length 0
  have HM : Hid (drL xs p = drG p (deD xs p p.length) p.length 0) := rfl
  have HKC : Hid (∀ x, x < p.length → knd p x = 8 → hasK xs (lnA p x) = true) := fun x hx h => exc_class g hx h
  clear g
  have OE0 : (w.alloc (.cells #[.slice B m c] 31)).heap.size = w.heap.size + 1 := by simp
  go_enter Try.func74, Try.ntmps74
  go_wp2
  have HZW : Hid (w.heap.size + 1 = (w.alloc (.cells #[.slice B m c] 31)).heap.size) := by show _ = _; simp
  obtain ⟨ct, zt, hleB⟩ := box1 w (.slice B m c) 31
  have L0 := hleB
  clear hleB
  generalize w.alloc (.cells #[.slice B m c] 31) = W at *
  have OE : (W.alloc (.cells #[] 3)).ownsRow W.heap.size 3 1 (.slice (some ⟨w.heap.size + 1, 0, none⟩) 0 0) (deD xs p 0).length ((nI (deD xs p 0)).flatMap Enc.cells) := own_empty (Nat.le_refl _) HZW.out
  have LE := Le.new W (.cells #[] 3)
  have RW := hR.le L0
  have TW := hT.le L0
  clear hR hT OE0
  go_loopw [5, 6, 7, 8, 9] (fun v q _ _ _ wr => ∃ k : Nat, k ≤ p.length ∧ q = .int .i64 k ∧ wr.ownsRow W.heap.size 3 1 v (deD xs p k).length ((nI (deD xs p k)).flatMap Enc.cells) ∧ Le W wr) (fun _ q _ _ _ _ => p.length - (intOf q).toNat)
  case atStart => exact ⟨0, Nat.zero_le _, rfl, OE, LE⟩
  case round =>
    obtain ⟨k, hk, rfl, O1, L⟩ := hrel
    have T := TW.le L
    have R := RW.le L
    have hLs := L.size
    have ctr := (L.cell zt).trans ct
    clear OE LE
    by_cases hlt : k < p.length
    · obtain ⟨b, off, rfl, hbw, d0w, d1w, -⟩ := RW.lin_at hlt
      have d1 := (L.cell hbw).trans d1w
      have HK := Lib.hid (knd_at hlt)
      have hTl := HBD.out k (by omega)
      have HST : Hid (deD xs p (k + 1) = deD xs p k ++ deAt xs p k) := rfl
      have HAT : Hid (deAt xs p k = if knd p k = 7 then deA xs p [] (exL p k) else []) := rfl
      have HEX : Hid (exL p k = exF p (parts p k)) := rfl
      have HPL := Lib.hid (parts_lt hlt)
      have hplen := parts_len p k
      have hC1 : 1 ≤ (parts p k).length := by unfold parts; simp
      have HP1 := Lib.hid (ex_drop2 (p := p) (C := parts p k) (k := 0) (by omega))
      have HP0 : Hid ((parts p k)[0]'(by omega) = k) := rfl
      have hk0 : (0 : Int) ≤ (k : Int) := by omega
      have hkn : (k : Int) < (p.length : Int) := by omega
      generalize deD xs p k = TB at *
      generalize p[k].depth = vd at *
      generalize p[k].kind = vk at *
      by_cases h7 : vk = 7
      · subst h7
        have HN : Hid (deD xs p (k + 1) = TB ++ deA xs p [] (exF p ((parts p k).drop 1))) := by
          show _ = _
          have h0 := HP1.out
          rw [List.drop_zero, if_neg (by rw [HP0.out, HK.out]; decide)] at h0
          rw [HST.out, HAT.out, if_pos HK.out, HEX.out, h0]
        clear HST HAT HP1 HP0 HEX
        go_wp2_with fail
        refine (chainOf_any _ p.length cap p k hlt (by omega) wr R).mono ?_
        rintro e w3 ⟨v3, rfl, D3, hle3⟩
        rw [HCP.out k hlt] at D3
        obtain ⟨A3, q3, rfl, S3, hB3⟩ := D3.form (by decide)
        have HOL := Lib.hid (fun j hj => (O1.lt j hj).2)
        have O3 := own_le O1 hle3
        have L3 := L.trans hle3
        have hs3 := hle3.size
        rw [nI_len] at S3 hB3 ⊢
        generalize parts p k = C at *
        have hA3 : ∀ a, A3 = some a → wr.heap.size ≤ a.block ∧ a.block < w3.heap.size := fun a ha => hB3 a.block (by rw [ha]; rfl)
        have LB := Le.new w3 (.cells #[] 3)
        have L4 := L3.trans LB
        have O5i := own_le O3 LB
        have S4 := S3.le LB
        have O8i : (w3.alloc (.cells #[] 3)).ownsRow W.heap.size 3 1 (.slice (some ⟨w3.heap.size, 0, none⟩) 0 0) ([] : List Int).length (([] : List Int).flatMap Enc.cells) := own_empty L3.size rfl
        have hs4 := size_al1 w3 (.cells #[] 3)
        have HAP0 : Hid (Apart u5 (.slice (some ⟨w3.heap.size, 0, none⟩) 0 0)) := .inr fun e => by
          have := HOL.out w3.heap.size (by rw [e]; rfl)
          omega
        have HPB : Hid (∀ a, A3 = some a → Value.ownBlock u5 ≠ some a.block ∧ Value.ownBlock (.slice (some ⟨w3.heap.size, 0, none⟩) 0 0) ≠ some a.block ∧ a.block < (w3.alloc (.cells #[] 3)).heap.size) := fun a ha => by
          have h1 := hA3 a ha
          refine ⟨fun e => by have := HOL.out _ e; omega, fun e => by have e2 : w3.heap.size = a.block := (by injection e); omega, by omega⟩
        have O5b : (w3.alloc (.cells #[] 3)).ownsRow W.heap.size 3 1 u5 (TB ++ []).length ((nI (TB ++ [])).flatMap Enc.cells) := by rw [List.append_nil]; exact O5i
        clear D3 O1 O3 hle3 L3 S3 O5i LB hs4 hs3 HOL hB3 hA3 L R T ctr d1
        go_wp2
        generalize wr = W0 at *
        generalize w3.alloc (.cells #[] 3) = W4 at *
        go_loopw [5, 8, 9] (fun v v8 q wr => ∃ (r : Nat) (dn : List Nat) (acc : List Int), 1 ≤ r ∧ r ≤ C.length ∧ q = .int .i64 r ∧ dn.length ≤ r ∧ acc.length ≤ r ∧ (∀ y ∈ acc, Enc.ok y) ∧
            wr.ownsRow W.heap.size 3 1 v (TB ++ dn).length ((nI (TB ++ dn)).flatMap Enc.cells) ∧ wr.ownsRow W.heap.size 3 1 v8 acc.length (acc.flatMap Enc.cells) ∧
            deA xs p [] (exF p (C.drop 1)) = dn ++ deA xs p acc (exF p (C.drop r)) ∧ Apart v v8 ∧ Le W wr ∧ Sl wr A3 C.length q3 (nI C) ∧ (∀ a, A3 = some a → v.ownBlock ≠ some a.block ∧ v8.ownBlock ≠ some a.block ∧ a.block < wr.heap.size)) (fun _ _ q _ => C.length - (intOf q).toNat)
        case atStart => exact ⟨1, [], [], Nat.le_refl _, hC1, rfl, Nat.zero_le _, Nat.zero_le _, (fun _ h => nomatch h), O5b, O8i, rfl, HAP0.out, L4, S4, HPB.out⟩
        case round =>
          obtain ⟨r, dn, acc, hr1, hr, rfl, hdn, hacc, hoacc, O5, O8, he, hap, L2w, S3w, hp3⟩ := hrel
          have HE := Lib.hid he
          have HAP := Lib.hid hap
          have HP3 := Lib.hid hp3
          have HOA := Lib.hid hoacc
          have hlw := L2w.size
          have htl : (TB ++ dn).length ≤ 600 + r := by rw [List.length_append]; omega
          have Tw := TW.le L2w
          have ctw := (L2w.cell zt).trans ct
          have ztw := Nat.lt_of_lt_of_le zt hlw
          clear he hap hp3 hoacc O5b O8i S4 HAP0 HPB
          by_cases hlr : r < C.length
          · obtain ⟨b5, off5, rfl, hb5, c5, -⟩ := S3w.int_at (k := r) (by rw [nI_len]; exact hlr)
            rw [nI_at hlr] at c5
            have hx := HPL.out C[r] (List.getElem_mem hlr)
            have HD := Lib.hid (ex_drop2 (p := p) hlr)
            have HC5 : Hid (∀ U, Sl U (some ⟨b5, off5, none⟩) C.length q3 (nI C) → U.cell? ⟨b5, off5 + r, none⟩ = some (.int .i64 (C[r] : Int))) := fun U hU => by
              obtain ⟨b8, off8, e8, hb8, c8, -⟩ := hU.int_at (k := r) (by rw [nI_len]; exact hlr)
              injection e8 with e8
              injection e8 with e81 e82
              subst e81
              subst e82
              rwa [nI_at hlr] at c8
            have HKX := Lib.hid (knd_at hx)
            have HLX := Lib.hid (lnA_at hx)
            have HCX := Lib.hid (HKC.out C[r] hx)
            obtain ⟨b6, off6, e6, hb6, -, k1w, k2w, -, -⟩ := RW.lin_at hx
            injection e6 with e6
            injection e6 with e61 e62
            subst e61
            subst e62
            have hoka : Enc.ok (p[C[r]].a : Int) := by
              have := HRO.out _ (List.getElem_mem hx)
              exact ⟨this.2.2.2.2.1, this.2.2.2.2.2.1⟩
            generalize C[r] = x at *
            generalize p[x].kind = xk at *
            generalize p[x].a = xa at *
            have k1 := (L2w.cell hbw).trans k1w
            have k2 := (L2w.cell hbw).trans k2w
            have hbwr := Nat.lt_of_lt_of_le hbw hlw
            have hokx : Enc.ok (x : Int) := ⟨by omega, by omega⟩
            have hr0 : (0 : Int) ≤ (r : Int) := by omega
            have hrn : (r : Int) < (C.length : Int) := by omega
            have hx0 : (0 : Int) ≤ (x : Int) := by omega
            have hxn : (x : Int) < (p.length : Int) := by omega
            by_cases h8 : xk = 8
            · subst h8
              have hcx := HCX.out HKX.out
              rw [HLX.out] at hcx
              have hcx2 := hasK_iff.1 hcx
              have HZ : Hid (deA xs p [] (exF p (C.drop 1)) = (dn ++ (if 0 ≤ firstC xs acc xa 0 then [x] else [])) ++ deA xs p (acc ++ [xa]) (exF p (C.drop (r + 1)))) := by
                show _ = _
                rw [HE.out, HD.out, if_pos HKX.out, deA_cons, HLX.out, List.append_assoc]
              have HOA2 : Hid (∀ y ∈ acc ++ [xa], Enc.ok y) := fun y hy => by
                rcases List.mem_append.1 hy with h | h
                · exact HOA.out y h
                · rw [List.mem_singleton.1 h]; exact hoka
              obtain ⟨A8, q8, e8⟩ := own_form O8
              subst e8
              have SA8 := Sl.of_own O8 rfl (by decide) HOA.out
              have hca : ∀ (g : Ext wr) (_ : True), Calls Try.prog 113 #[.agg #[.slice B m c], .slice A8 acc.length q8, .int .i64 xa] (wr.ext g) fun e w' => e = .returned (.int .i64 (firstC xs acc xa 0)) ∧ Le (wr.ext g) w' := fun g _ => firstCatch_any B A8 m c _ q8 xs acc xa _ (Tw.le (Le.ext wr g)) (SA8.le (Le.ext wr g)) HGT.out (by omega) (by omega)
              have Et := cell_ext ztw ctw
              have E5 := cell_ext hb5 c5
              have E7 := cell_ext hbwr k2
              generalize firstC xs acc xa 0 = z at *
              clear HD HE HKX HLX HCX hcx hcx2
              have HB5 := Lib.hid (fun j hj => (O5.lt j hj).1)
              have HB8 := Lib.hid (fun j hj => (O8.lt j hj).1)
              by_cases hz : 0 ≤ z
              · have hzb : decide ((0 : Int) ≤ z) = true := decide_eq_true hz
                have HZ2 : Hid (deA xs p [] (exF p (C.drop 1)) = (dn ++ [x]) ++ deA xs p (acc ++ [xa]) (exF p (C.drop (r + 1)))) := by show _ = _; rw [HZ.out, if_pos hz]
                clear HZ hz
                go_wp2_with fail
                refine wp_region_ext (by kernel_rfl) (by kernel_rfl) ?_
                repeat (go_big_quiet_step (first | (go_at_call 113; exact Calls.ext_of (hca _ trivial))))
                refine wpQuiet_nil ?_
                intro _ hw'
                obtain ⟨gg, rfl⟩ := hw'
                have hw1 := Le.ext wr gg
                generalize wr.ext gg = W2 at *
                have O5a := own_le O5 hw1
                have O8a := own_le O8 hw1
                have L2 := L2w.trans hw1
                have S3b := S3w.le hw1
                have HP3b : Hid (∀ a, some (⟨b5, off5, none⟩ : Addr) = some a → u5.ownBlock ≠ some a.block ∧ (Value.slice A8 acc.length q8).ownBlock ≠ some a.block ∧ a.block < W2.heap.size) := fun a e => ⟨(HP3.out a e).1, (HP3.out a e).2.1, Nat.lt_of_lt_of_le (HP3.out a e).2.2 hw1.size⟩
                have hsw2 := hw1.size
                have c52 := HC5.out _ S3b
                have k22 := (L2.cell hbw).trans k2w
                clear hca Et E5 E7 c5 k1 k2 ctw SA8
                go_wp2_with (first | (at_builtin; refine wpList_append_sl rfl _ _ 49 rfl W.heap.size 3 i0 _ 8 Try.underlying49 hq hz0 hz1 hz2 rfl u5 (TB ++ dn).length (nI (TB ++ dn)) rfl (O5a.alloc _) _ 1 1 [(x : Int)] rfl (sl_one (x : Int) rfl hokx rfl) (by unfold maxLen; omega) (by omega) (L2.alloc _).size ?_; intro v6 w6 O6 hg6 hat6; have L6 := (L2.alloc _).grown hg6 HB5.out; have O86 := (O8a.alloc (.cells #[.int .i64 (x : Int)] 3)).kept hg6 HAP.out.symm; have HP6 := HAP.out.new (O8a.alloc (.cells #[.int .i64 (x : Int)] 3)) hat6 (Nat.le_refl _); have S36 := (S3b.alloc (.cells #[.int .i64 (x : Int)] 3)).grown hg6 (fun _ a e h => (HP3b.out a e).1 h.symm); have hz6 := hg6.size; have c56 := HC5.out _ S36; have k26 := (L6.cell hbw).trans k2w; have k16 := (L6.cell hbw).trans k1w; rw [size_al1] at hz6 hat6; clear hg6) | (at_builtin; refine wpList_append_sl rfl _ _ 49 rfl W.heap.size 3 i0 _ 8 Try.underlying49 hq hz0 hz1 hz2 rfl (.slice A8 acc.length q8) acc.length acc rfl (O86.alloc _) _ 1 1 [xa] rfl (sl_one xa rfl hoka rfl) (by unfold maxLen; omega) (by omega) (L6.alloc _).size ?_; intro v7 w7 O7 hg7 hat7; have L7 := (L6.alloc _).grown hg7 HB8.out; have O57 := (O6.alloc (.cells #[.int .i64 xa] 3)).kept hg7 HP6; have HP7 := (Apart.new (Apart.symm HP6) (O6.alloc (.cells #[.int .i64 xa] 3)) hat7 (Nat.le_refl _)).symm; have S37 := (S36.alloc (.cells #[.int .i64 xa] 3)).grown hg7 (fun _ a e h => (HP3b.out a e).2.1 h.symm); have hz7 := hg7.size; rw [size_al1] at hz7 hat7; clear hg7))
                go_roundw
                case rel => exact ⟨r + 1, dn ++ [x], acc ++ [xa], by omega, by omega, by go_num, by simp; omega, by simp; omega, HOA2.out, by rw [← List.append_assoc, nI_snoc, List.length_append]; exact O57, by rw [List.length_append]; exact O7, HZ2.out, HP7, L7, S37, fun a e => ⟨apart_nw ⟨(HP3b.out a e).1, (HP3b.out a e).2.2⟩ hat6, apart_nw (m := w6.heap.size) ⟨(HP3b.out a e).2.1, by have := (HP3b.out a e).2.2; omega⟩ hat7, by have := (HP3b.out a e).2.2; omega⟩⟩
                case measure => simp [intOf]; omega
              · have hzb : decide ((0 : Int) ≤ z) = false := decide_eq_false hz
                have HZ2 : Hid (deA xs p [] (exF p (C.drop 1)) = dn ++ deA xs p (acc ++ [xa]) (exF p (C.drop (r + 1)))) := by show _ = _; rw [HZ.out, if_neg hz, List.append_nil]
                clear HZ hz
                go_wp2_with fail
                refine wp_region_ext (by kernel_rfl) (by kernel_rfl) ?_
                repeat (go_big_quiet_step (first | (go_at_call 113; exact Calls.ext_of (hca _ trivial))))
                refine wpQuiet_nil ?_
                intro _ hw'
                obtain ⟨gg, rfl⟩ := hw'
                have hw1 := Le.ext wr gg
                generalize wr.ext gg = W2 at *
                have O5a := own_le O5 hw1
                have O8a := own_le O8 hw1
                have L2 := L2w.trans hw1
                have S3b := S3w.le hw1
                have HP3b : Hid (∀ a, some (⟨b5, off5, none⟩ : Addr) = some a → u5.ownBlock ≠ some a.block ∧ (Value.slice A8 acc.length q8).ownBlock ≠ some a.block ∧ a.block < W2.heap.size) := fun a e => ⟨(HP3.out a e).1, (HP3.out a e).2.1, Nat.lt_of_lt_of_le (HP3.out a e).2.2 hw1.size⟩
                have hsw2 := hw1.size
                have c52 := HC5.out _ S3b
                have k22 := (L2.cell hbw).trans k2w
                clear hca Et E5 E7 c5 k1 k2 ctw SA8
                go_wp2_with (at_builtin; refine wpList_append_sl rfl _ _ 49 rfl W.heap.size 3 i0 _ 8 Try.underlying49 hq hz0 hz1 hz2 rfl (.slice A8 acc.length q8) acc.length acc rfl (O8a.alloc _) _ 1 1 [xa] rfl (sl_one xa rfl hoka rfl) (by unfold maxLen; omega) (by omega) (L2.alloc _).size ?_; intro v7 w7 O7 hg7 hat7; have L7 := (L2.alloc _).grown hg7 HB8.out; have O57 := (O5a.alloc (.cells #[.int .i64 xa] 3)).kept hg7 HAP.out; have HP7 := (Apart.new (Apart.symm HAP.out) (O5a.alloc (.cells #[.int .i64 xa] 3)) hat7 (Nat.le_refl _)).symm; have S37 := (S3b.alloc (.cells #[.int .i64 xa] 3)).grown hg7 (fun _ a e h => (HP3b.out a e).2.1 h.symm); have hz7 := hg7.size; rw [size_al1] at hz7 hat7; clear hg7)
                go_roundw
                case rel => exact ⟨r + 1, dn, acc ++ [xa], by omega, by omega, by go_num, by omega, by simp; omega, HOA2.out, O57, by rw [List.length_append]; exact O7, HZ2.out, HP7, L7, S37, fun a e => ⟨(HP3b.out a e).1, apart_nw (m := W2.heap.size) ⟨(HP3b.out a e).2.1, (HP3b.out a e).2.2⟩ hat7, by have := (HP3b.out a e).2.2; omega⟩⟩
                case measure => simp [intOf]; omega
            · have h8b : (xk != 8) = true := by simpa using h8
              have HZ : Hid (deA xs p [] (exF p (C.drop 1)) = dn ++ deA xs p acc (exF p (C.drop (r + 1)))) := by show _ = _; rw [HE.out, HD.out, if_neg (by rw [HKX.out]; exact h8)]
              clear HD HE HKX HLX HCX
              go_wp2
              go_roundw
              case rel => exact ⟨r + 1, dn, acc, by omega, by omega, by go_num, by omega, by omega, HOA.out, O5, O8, HZ.out, HAP.out, L2w, S3w, HP3.out⟩
              case measure => simp [intOf]; omega
          · obtain rfl : r = C.length := by omega
            have HO : Hid (TB ++ dn = deD xs p (k + 1)) := by
              show _ = _
              rw [HN.out, HE.out, List.drop_length]
              show _ = TB ++ (dn ++ [])
              rw [List.append_nil]
            go_wp2
            go_roundw
            case rel => exact ⟨k + 1, by omega, by go_num, by rw [← HO.out]; exact O5, L2w⟩
            case measure => simp [intOf]; omega
      · have h7b : (vk != 7) = true := by simpa using h7
        have HN : Hid (deD xs p (k + 1) = TB) := by show _ = _; rw [HST.out, HAT.out, if_neg (by rw [HK.out]; exact h7), List.append_nil]
        clear HST HAT HP1 HP0
        go_wp2
        go_roundw
        case rel => exact ⟨k + 1, by omega, by go_num, by rw [HN.out]; exact O1, L⟩
        case measure => simp [intOf]; omega
    · obtain rfl : k = p.length := by omega
      obtain ⟨A5, q5, e5⟩ := own_form O1
      subst e5
      have hdl := HBD.out p.length hp
      have HDO : Hid (∀ y ∈ nI (deD xs p p.length), Enc.ok y) := nI_ok (deD_lt (xs := xs) p.length (Nat.le_refl _)) (by omega)
      have SD := Sl.of_own O1 rfl (by decide) HDO.out
      have HHI : Hid (∀ x : Nat, hasI (nI (deD xs p p.length)) (x : Int) = (deD xs p p.length).contains x) := fun x => hasI_nI _ x
      generalize deD xs p p.length = DD at *
      have OE : (wr.alloc (.cells #[] 67)).ownsRow wr.heap.size 67 4 (.slice (some ⟨wr.heap.size, 0, none⟩) 0 0) ([] : List Lin).length (([] : List Lin).flatMap Enc.cells) := own_empty (Nat.le_refl _) rfl
      have LE := Le.new wr (.cells #[] 67)
      have Lw := L0.trans L
      clear O1
      go_wp2
      generalize wr = W1 at *
      go_loopw [10, 11] (fun v q wr => ∃ (k m : Nat) (out : List Lin), k ≤ p.length ∧ q = .int .i64 k ∧ p.length ≤ m + k ∧ drL xs p = out ++ drG p DD m k ∧ wr.ownsRow W1.heap.size 67 4 v out.length (out.flatMap Enc.cells) ∧ Le W1 wr) (fun _ q _ => p.length - (intOf q).toNat)
      case atStart => exact ⟨0, p.length, [], Nat.zero_le _, rfl, by omega, HM.out, OE, LE⟩
      case round =>
        obtain ⟨k, m, out, hk, rfl, hm, he, O1, L3⟩ := hrel
        have HE := Lib.hid he
        have hol : out.length ≤ p.length := by have := HLN.out; rw [he, List.length_append] at this; omega
        have T3 := R.le L3
        have SK := SD.le L3
        have hLs3 := L3.size
        clear he OE LE HM
        by_cases hlt : k < p.length
        · obtain ⟨m', rfl⟩ : ∃ m', m = m' + 1 := ⟨m - 1, by omega⟩
          have HS := Lib.hid (drG_step (m := m') (D := DD) hlt)
          have hbl := bEnd_le hlt
          have hbg := bEnd_gt p k
          have hokx := HRO.out _ (List.getElem_mem hlt)
          have HNK := Lib.hid (HHI.out k)
          have hk0 : (0 : Int) ≤ (k : Int) := by omega
          have hkn : (k : Int) < (p.length : Int) := by omega
          go_wp2_with fail
          refine (hasInt_any A5 _ q5 (nI DD) k wr SK).mono ?_
          rintro e w3 ⟨rfl, rfl⟩
          rw [HNK.out]
          cases hb : DD.contains k
          · have HN : Hid (drL xs p = (out ++ [p[k]]) ++ drG p DD m' (k + 1)) := by show _ = _; rw [HE.out, HS.out, if_neg (by rw [hb]; simp), List.append_assoc]; rfl
            obtain ⟨b, off, rfl, hbz, d0, d1, d2, d3, -⟩ := T3.lin_at hlt
            have HPK : Hid (p[k] = ⟨p[k].depth, p[k].kind, p[k].a, p[k].b⟩) := rfl
            rw [HPK.out] at hokx HN
            generalize p[k].depth = vd at *
            generalize p[k].kind = vk at *
            generalize p[k].a = va at *
            generalize p[k].b = vb at *
            clear HE HS hb HPK
            go_wp2_with (at_builtin; refine wpList_append_sl rfl _ _ 33 rfl W1.heap.size 67 j0 _ 32 Try.underlying33 hi hy0 hy1 hy2 rfl _ out.length out rfl (O1.alloc _) _ 1 1 [(⟨vd, vk, va, vb⟩ : Lin)] rfl (sl_one (⟨vd, vk, va, vb⟩ : Lin) rfl hokx rfl) (by unfold maxLen; omega) (by omega) (L3.alloc _).size ?_; intro v5 w5 O5 hg5 _; have L5 := (L3.alloc _).grown hg5 (fun k hk => (O1.lt k hk).1); clear hg5)
            go_roundw
            case rel => exact ⟨k + 1, m', out ++ [(⟨vd, vk, va, vb⟩ : Lin)], by omega, by go_num, by omega, HN.out, by rw [List.length_append]; exact O5, L5⟩
            case measure => simp [intOf]; omega
          · have HN : Hid (drL xs p = out ++ drG p DD m' (bEnd p k)) := by show _ = _; rw [HE.out, HS.out, if_pos hb]
            clear HE HS hb
            generalize wr = W0 at *
            go_wp2_with fail
            refine (sBlockEnd_any _ p.length cap p k hlt W0 T3).mono ?_
            rintro e w3 ⟨rfl, hle3⟩
            go_wp2
            go_roundw
            case rel => exact ⟨bEnd p k, m', out, hbl, rfl, by omega, HN.out, own_le O1 hle3, L3.trans hle3⟩
            case measure => simp [intOf]; omega
        · have HF : Hid (∀ v, wr.ownsRow W1.heap.size 67 4 v out.length (out.flatMap Enc.cells) → Owd 67 w wr v (drL xs p)) := fun v hv => by
            have e : drL xs p = out := by rw [HE.out, drG_stop hlt, List.append_nil]
            have h2 := HOK.out
            rw [e] at h2 ⊢
            exact ⟨own_mono hv Lw.size, h2⟩
          go_wp2
          go_ret
          exact ⟨_, rfl, HF.out _ O1, Lw.trans L3⟩
theorem sDropDead_any (B A : Option Addr) (m c n cap : Nat) (xs : List Cls) (p : List Lin) (hsm : p.length ≤ 1048576) (w : World) (hT : Sl w B m c xs) (hR : Sl w A n cap p) :
    Calls Try.prog 34 #[.agg #[.slice B m c], .slice A n cap] w fun e w' => ∃ v, e = .returned v ∧ Owd 67 w w' v (ddX xs p) ∧ Le w w' := by
  have HX : Hid (ddX xs p = cond (vp xs p) (drL xs p) []) := rfl
  go_enter Try.func34, Try.ntmps34
  go_wp2_with fail
  obtain ⟨ct, zt, hleB⟩ := box1 w (.slice B m c) 31
  have L0 := hleB
  clear hleB
  generalize w.alloc (.cells #[.slice B m c] 31) = W at *
  refine (svalidProgram_any B A m c n cap xs p hsm _ (hT.le L0) (hR.le L0)).mono ?_
  rintro e w1 ⟨rfl, hle⟩
  replace ct := (hle.cell zt).trans ct
  replace zt := Nat.lt_of_lt_of_le zt hle.size
  replace L0 := L0.trans hle
  cases h : vp xs p
  · have HO : Hid (Owd 67 w w1 (.slice none 0 0) (ddX xs p)) := by show Owd _ _ _ _ _; rw [HX.out, h]; exact Owd.nil _ _ _
    go_wp2
    go_ret
    exact ⟨_, rfl, HO.out, L0⟩
  · have g := goodP_of h
    go_wp2_with fail
    refine (sdropDead_any B A m c n cap xs p g w1 (hT.le L0) (hR.le L0)).mono ?_
    rintro e w2 ⟨v, rfl, D, hle2⟩
    have HO : Hid (Owd 67 w w2 v (ddX xs p)) := by show Owd _ _ _ _ _; rw [HX.out, h]; exact D.mono L0
    go_wp2
    go_ret
    exact ⟨_, rfl, HO.out, L0.trans hle2⟩
end
end Go.Proofs.Ytjcellhpmooifaa
