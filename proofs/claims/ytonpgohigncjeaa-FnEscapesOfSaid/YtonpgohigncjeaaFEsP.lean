/- the law FnEscapesOf -/
import Derived.Test.YtonpgohigncjeaaCx22
import Derived.Test.YtonpgohigncjeaaCx24
import Derived.Test.YtonpgohigncjeaaCx18
import Derived.Test.YtonpgohigncjeaaCx8
namespace Go.Proofs.Ytonpgohigncjeaa
open Go.RowKit
theorem escK_mem {f : Nat → Bool} : ∀ {k : Nat} {x : Int}, x ∈ escK f k ↔ ∃ j : Nat, j < k ∧ f j = true ∧ x = (j : Int)
  | 0, x => ⟨(fun h => nomatch h), (fun ⟨j, h, _⟩ => absurd h (Nat.not_lt_zero j))⟩
  | k + 1, x => by
    unfold escK
    rw [List.mem_append, escK_mem]
    constructor
    · rintro (⟨j, h1, h2, h3⟩ | h)
      · exact ⟨j, by omega, h2, h3⟩
      · split at h
        · next hf => rw [List.mem_singleton] at h; exact ⟨k, by omega, hf, h⟩
        · cases h
    · rintro ⟨j, h1, h2, h3⟩
      by_cases e : j = k
      · subst e; right; rw [if_pos h2, List.mem_singleton]; exact h3
      · left; exact ⟨j, by omega, h2, h3⟩
theorem escK_asc (f : Nat → Bool) : ∀ k, (escK f k).Pairwise (· < ·)
  | 0 => .nil
  | k + 1 => by
    unfold escK
    rw [List.pairwise_append]
    refine ⟨escK_asc f k, by split <;> simp, fun x hx y hy => ?_⟩
    obtain ⟨j, h1, _, h3⟩ := escK_mem.1 hx
    split at hy
    · rw [List.mem_singleton] at hy; omega
    · cases hy
/-- what escapes is a class that passes -/
theorem esc_mem {xs : List Cls} {L : List Xit} (h : vxs xs L = true) {a : Int} : a ∈ escI xs L ↔ 0 ≤ a ∧ a < xs.length ∧ pasL xs L a = true := by
  rw [escI_pas h, escK_mem]
  constructor
  · rintro ⟨j, h1, h2, rfl⟩; exact ⟨by omega, by omega, h2⟩
  · rintro ⟨h1, h2, h3⟩; exact ⟨a.toNat, by omega, by rw [show ((a.toNat : Nat) : Int) = a by omega]; exact h3, by omega⟩
theorem esc_asc {xs : List Cls} {L : List Xit} : (escI xs L).Pairwise (· < ·) := by
  unfold escI
  cases vxs xs L
  · exact .nil
  · exact escK_asc _ _
theorem pas_up {xs : List Cls} {L : List Xit} (h : vxs xs L = true) {a b : Int} (ha : a < xs.length) (hp : pasL xs L a = true) (hb : b ∈ aboveL xs a) : pasL xs L b = true := by
  have g := good_of (vxs_iff.1 h).1
  unfold pasL at hp ⊢
  rw [List.all_eq_true] at hp ⊢
  intro x hx
  have h1 := hp x hx
  have hab := isAL_iff.2 hb
  unfold pasX at h1 ⊢
  rw [Bool.not_eq_true', Bool.or_eq_false_iff, Bool.and_eq_false_iff] at h1 ⊢
  refine ⟨h1.1, ?_⟩
  rcases h1.2 with h2 | h2
  · exact .inl h2
  · right
    cases e : isAL xs b x.a
    · rfl
    · rw [isAL_tr g ha hab e] at h2; cases h2
theorem esc_hs {xs : List Cls} (ht : okTree xs = true) {a : Int} (ha : hasK xs a = true) : ∀ (L : List Xit), (∀ x ∈ L, xOk xs x = true) → pasL xs L a = true → (clX xs L (stS true a 0)).2 = ([⟨a, 0, -1, -1, false⟩], 0)
  | [], _, _ => rfl
  | x :: L, hx, hp => by
    unfold pasL at hp
    rw [List.all_cons, Bool.and_eq_true] at hp
    have ih := esc_hs ht ha L (fun y hy => hx y (List.mem_cons_of_mem _ hy)) hp.2
    have hk := hx x (List.mem_cons_self ..)
    have h1 := hp.1
    unfold pasX at h1
    rw [Bool.not_eq_true', Bool.or_eq_false_iff, Bool.and_eq_false_iff] at h1
    rw [clX_cons]
    generalize clX xs L (stS true a 0) = s at *
    rcases xOk_kind hk with e | e | e | e
    · rw [stX_0 e]; exact ih
    · rw [stX_1 e]; exact ih
    · rw [stX_2 e]
      show (s.2.1, tkX xs s.2.1 s.2.2 x.a) = _
      rw [ih]
      have e2 : tkX xs [(⟨a, 0, -1, -1, false⟩ : Flt)] 0 x.a = 0 := by
        unfold tkX isAx
        have e3 : flC [(⟨a, 0, -1, -1, false⟩ : Flt)] 0 = a := rfl
        rcases h1.2 with h2 | h2
        · rw [e] at h2; cases h2
        · rw [if_pos (by omega), e3, h2, Bool.and_false, if_neg (by simp)]
      dsimp only
      rw [e2]
    · have := h1.1; rw [e] at this; cases this
/-- what CloseExits and StartOf say of a class that escapes -/
theorem esc_ce {xs : List Cls} {L : List Xit} (h : vxs xs L = true) {a : Int} (hm : a ∈ escI xs L) : (ceH xs L true a 0).length = 1 ∧
    soOk xs (ceE xs L true a 0) (ceV xs L true a 0) (ceH xs L true a 0) = true ∧ soF xs (ceE xs L true a 0) (ceV xs L true a 0) (ceH xs L true a 0) = true ∧
    soC xs (ceE xs L true a 0) (ceV xs L true a 0) (ceH xs L true a 0) = a ∧ soK xs (ceE xs L true a 0) (ceV xs L true a 0) (ceH xs L true a 0) = 0 := by
  obtain ⟨h0, h1, hp⟩ := (esc_mem h).1 hm
  obtain ⟨ht, hl, hx⟩ := vxs_iff.1 h
  have ha : hasK xs a = true := hasK_iff.2 ⟨h0, h1⟩
  have ho : ceOk xs L true a 0 = true := ceOk_iff.2 ⟨h, by unfold csv; rw [if_pos rfl, ha]; rfl⟩
  have e := esc_hs ht ha L hx hp
  obtain ⟨s, hs⟩ : ∃ s, clX xs L (stS true a 0) = s := ⟨_, rfl⟩
  rw [hs] at e
  obtain ⟨q1, q2, q3, q4⟩ := so_close ho hs
  obtain ⟨-, -, -, p4⟩ := ce_yes ho
  rw [hs] at p4
  have e1 : s.2.1 = [⟨a, 0, -1, -1, false⟩] := by rw [e]
  have e2 : s.2.2 = 0 := by rw [e]
  rw [e2, if_pos (by omega), e1] at q3 q4
  rw [e2] at q2
  refine ⟨?_, q1, q2, q3, q4⟩
  rw [p4]
  unfold clH
  rw [e2, e1, if_pos (by omega)]
  unfold isoL
  rw [List.length_map]
  rfl
theorem Calls.intsE {f : FuncId} {args : Array Value} {w : World} {T : TypeId} {L : List Int} (h : Calls Try.prog f args w fun e w' => ∃ v, e = .returned v ∧ Owd T w w' v L ∧ Le w w') : Calls Try.prog f args w fun e w' => ∃ A c, e = .returned (.slice A L.length c) ∧ Sl w' A L.length c L ∧ Le w w' := by
  refine h.mono ?_
  rintro e w' ⟨v, rfl, D, hle⟩
  obtain ⟨A, c, rfl, S, _⟩ := D.form (by decide)
  exact ⟨A, c, rfl, S, hle⟩
set_option maxHeartbeats 1000000 in
set_option maxRecDepth 100000 in
theorem drawEscapesOf_any (A : Option Addr) (n cap : Nat) (bs : List By) (w : World) (hR : Sl w A n cap bs) : Calls Try.prog 24 #[.slice A n cap] w (DrawnXs w) := by
  go_enter Try.func24, Try.ntmps24
  go_wp2_with fail
  obtain ⟨c0, z0, L0⟩ := box1 w (.slice none 0 0) 25
  have f0 : (w.alloc (.cells #[.slice none 0 0] 25)).frozen? ⟨w.heap.size, 0, none⟩ = false := World.frozen?_alloc_at _ _ _ _ rfl
  have S0 := hR.le L0
  generalize w.alloc (.cells #[.slice none 0 0] 25) = W at *
  refine (newReader_any A n cap bs W S0).mono ?_
  rintro e w1 ⟨g, A1, n1, k1, bs1, rfl, hg, R1, hle⟩
  have hz1 : w.heap.size < w1.heap.size := Nat.lt_of_lt_of_le z0 hle.size
  replace c0 := (hle.cell z0).trans c0
  replace f0 := (hle.frozen z0).trans f0
  replace L0 := L0.trans hle
  clear S0
  have hgz : w.heap.size ≠ g := by omega
  go_wp2_with fail
  refine (someExits_any g 0 A1 n1 k1 bs1 w1 (by omega) R1).mono ?_
  rintro e w2 ⟨B, D, m, c, q, d, xs, L, p2, rfl, S2, hm, hab, SD, hq, hD, hp2, R2, hg2⟩
  replace c0 := (hg2.cell hz1 hgz).trans c0
  replace f0 := (hg2.frozen hz1 hgz).trans f0
  have L2 := Gx.le L0 hg2 (by omega)
  have hend : ∀ u, (w2.setCell ⟨w.heap.size, 0, none⟩ u).cell? ⟨w.heap.size, 0, none⟩ = some u := fun u => cell_set_same c0
  have hSx : ∀ u, Sl (w2.setCell ⟨w.heap.size, 0, none⟩ u) B m c xs := fun u => S2.setNoneX c0 (fun x h => by simp [Enc.cells] at h)
  have hSy : ∀ u, Sl (w2.setCell ⟨w.heap.size, 0, none⟩ u) D q d L := fun u => SD.setNoneX c0 (fun x h => by simp [Enc.cells] at h)
  clear hle L0 R1 R2 hg2 S2 SD
  go_wp2
  exact bodyPost_ret (v := .tuple #[.agg #[.slice B m c], .slice D q d]) (by simp [results, Try.results24, go_sem, hend]) rfl ⟨B, D, m, c, q, d, xs, L, rfl, hSx _, hm, hSy _, hq, L2.setCell (Nat.le_refl _) _⟩
theorem Calls.ceR {f : FuncId} {args : Array Value} {w : World} {lg : List Int} {hs : List Flt} {en va : Int} (hn : hs.length = 1) (h : Calls Try.prog f args w (CeOut w lg hs en va)) :
    Calls Try.prog f args w fun e w' => ∃ A0 q0 A1 q1, e = .returned (.agg #[.slice A0 lg.length q0, .int .i64 en, .int .i64 va, .slice A1 1 q1]) ∧ Sl w' A1 1 q1 hs ∧ Le w w' := by
  refine (Calls.ce h).mono ?_
  rintro e w' ⟨A0, q0, A1, q1, rfl, _, S1, hle⟩
  rw [hn] at S1 ⊢
  exact ⟨A0, q0, A1, q1, rfl, S1, hle⟩
theorem Calls.so {f : FuncId} {args : Array Value} {w : World} {a b : Bool} {x y : Int} {a' b' : Bool} {x' y' : Int} (e1 : a = a') (e2 : b = b') (e3 : x = x') (e4 : y = y') (h : Calls Try.prog f args w fun e w' => e = .returned (.tuple #[.agg #[.bool a, .int .i64 x, .int .i64 y], .bool b]) ∧ Le w w') :
    Calls Try.prog f args w fun e w' => e = .returned (.tuple #[.agg #[.bool a', .int .i64 x', .int .i64 y'], .bool b']) ∧ Le w w' := by subst e1; subst e2; subst e3; subst e4; exact h
theorem Calls.own {f : FuncId} {args : Array Value} {w : World} {L : List Int} (h : Calls Try.prog f args w (OwnInts L w)) : Calls Try.prog f args w fun e w' => ∃ A c, e = .returned (.slice A L.length c) ∧ Sl w' A L.length c L ∧ Le w w' := by
  refine h.mono ?_
  rintro e w' ⟨v, rfl, O, ok, hle⟩
  obtain ⟨A, c, rfl⟩ := own_form O
  exact ⟨A, c, rfl, Sl.of_own O rfl (by decide) ok, hle⟩
set_option maxHeartbeats 4000000 in
set_option maxRecDepth 100000 in
theorem fnEscapesOf_walk (A : Option Addr) (n cap : Nat) (bs : List By) (w : World) (hR : Sl w A n cap bs) :
    Calls Try.prog 6 #[.slice A n cap] w fun e w' => e = .returned (.bool true) ∧ Le w w' := by
  have hm := hR.n_le
  by_cases hbig : 1048576 < n
  · go_enter Try.func6, Try.ntmps6
    go_wp2
    go_ret
    exact ⟨rfl, Le.refl w⟩
  go_enter Try.func6, Try.ntmps6
  go_wp2_with fail
  refine (drawEscapesOf_any A n cap bs w hR).mono ?_
  rintro e w1 ⟨B, D, m, c, q, d, xs, L, rfl, S, hm8, S2, hq8, L0⟩
  obtain rfl := S2.len
  obtain rfl := S.len
  clear hbig hm hR
  have HA := Lib.hid (esc_asc (xs := xs) (L := L))
  have HM : Hid (∀ v, vxs xs L = true → v ∈ escI xs L → 0 ≤ v ∧ v < xs.length ∧ pasL xs L v = true) := fun v h hm => (esc_mem h).1 hm
  have HCE : Hid (∀ v, vxs xs L = true → v ∈ escI xs L → _) := fun v h hm => esc_ce h hm
  have HUP : Hid (∀ v b, vxs xs L = true → v ∈ escI xs L → b ∈ aboveL xs v → hasI (escI xs L) b = true) := fun v b h hm hb => by
    obtain ⟨h0, h1, hp⟩ := (esc_mem h).1 hm
    have hr := aboveL_mem (good_of (vxs_iff.1 h).1) _ v rfl h1 b hb
    exact hasI_iff.2 ((esc_mem h).2 ⟨hr.1, by omega, pas_up h h1 hp hb⟩)
  go_wp2_with fail
  obtain ⟨ct, zt, hleB⟩ := box1 w1 (.slice B xs.length c) 25
  replace S := S.le hleB
  replace L0 := L0.trans hleB
  replace S2 := S2.le hleB
  clear hleB
  generalize w1.alloc (.cells #[.slice B xs.length c] 25) = W1 at *
  go_wp2_with fail
  refine (Calls.intsE (iEscapesOfW_any B D _ c _ d xs L W1 S S2)).mono ?_
  rintro e w2 ⟨A2, c2, rfl, S3, hle⟩
  replace ct := (hle.cell zt).trans ct
  replace zt := Nat.lt_of_lt_of_le zt hle.size
  replace S := S.le hle
  replace L0 := L0.trans hle
  replace S2 := S2.le hle
  clear hle
  go_wp2_with fail
  refine (Calls.intsE (sEscapesOfW_any B D _ c _ d xs L w2 S S2)).mono ?_
  rintro e w3 ⟨A4, c4, rfl, S4, hle⟩
  replace ct := (hle.cell zt).trans ct
  replace zt := Nat.lt_of_lt_of_le zt hle.size
  replace S := S.le hle
  replace L0 := L0.trans hle
  replace S2 := S2.le hle
  replace S3 := S3.le hle
  clear hle
  go_wp2_with fail
  refine (equalInts_self _ _ _ _ _ (escI xs L) _ S3 S4).mono ?_
  rintro e w4 ⟨rfl, hle⟩
  replace ct := (hle.cell zt).trans ct
  replace zt := Nat.lt_of_lt_of_le zt hle.size
  replace S := S.le hle
  replace L0 := L0.trans hle
  replace S2 := S2.le hle
  replace S3 := S3.le hle
  clear hle
  clear S4
  cases hv : vxs xs L
  · go_wp2_with fail
    refine (Calls.val (iValidExits_any B D _ c _ d xs L w4 S S2) (by rw [hv])).mono ?_
    rintro e w5 ⟨rfl, hle⟩
    replace ct := (hle.cell zt).trans ct
    replace zt := Nat.lt_of_lt_of_le zt hle.size
    replace S := S.le hle
    replace L0 := L0.trans hle
    replace S2 := S2.le hle
    replace S3 := S3.le hle
    clear hle
    go_wp2_with fail
    refine (Calls.intsE (sEscapesOfW_any B D _ c _ d xs L w5 S S2)).mono ?_
    rintro e w6 ⟨A5, c5, rfl, S5, hle⟩
    replace S3 := S3.le hle
    replace L0 := L0.trans hle
    clear hle
    go_wp2_with fail
    refine (equalInts_self _ _ _ _ _ (escI xs L) _ S3 S5).mono ?_
    rintro e w7 ⟨rfl, hle⟩
    replace L0 := L0.trans hle
    clear hle
    go_wp2
    go_ret
    exact ⟨rfl, L0⟩
  go_wp2_with fail
  refine (Calls.val (iValidExits_any B D _ c _ d xs L w4 S S2) (by rw [hv])).mono ?_
  rintro e w5 ⟨rfl, hle⟩
  replace ct := (hle.cell zt).trans ct
  replace zt := Nat.lt_of_lt_of_le zt hle.size
  replace S := S.le hle
  replace L0 := L0.trans hle
  replace S2 := S2.le hle
  replace S3 := S3.le hle
  clear hle
  have HV := Lib.hid hv
  obtain ⟨ht, hl8, -⟩ := vxs_iff.1 hv
  have HT := Lib.hid ht
  clear hv ht
  go_wp2
  go_loopw [6, 7, 8, 9, 10, 11, 12] (fun i _ _ _ _ _ _ wr => ∃ k : Nat, k ≤ (escI xs L).length ∧ i = .int .i64 k ∧ Le w5 wr) (fun i _ _ _ _ _ _ _ => (escI xs L).length - (intOf i).toNat)
  case atStart => exact ⟨0, Nat.zero_le _, rfl, Le.refl _⟩
  case round =>
    obtain ⟨k, hk, rfl, hle⟩ := hrel
    have HLE := Lib.hid hle
    replace ct := (hle.cell zt).trans ct
    replace zt := Nat.lt_of_lt_of_le zt hle.size
    replace S := S.le hle
    replace L0 := L0.trans hle
    replace S2 := S2.le hle
    replace S3 := S3.le hle
    clear hle
    have h3n := S3.n_le
    by_cases hlt : k < (escI xs L).length
    · obtain ⟨b, off, rfl, hb1, cd0, hok1, hok2⟩ := S3.int_at hlt
      obtain ⟨a, ha⟩ : ∃ a, (escI xs L)[k] = a := ⟨_, rfl⟩
      have hmem : a ∈ escI xs L := ha ▸ List.getElem_mem hlt
      rw [ha] at cd0 hok1 hok2
      clear ha
      have zd0 := hb1
      clear hb1
      obtain ⟨m1, m2, -⟩ := HM.out _ HV.out hmem
      obtain ⟨g1, g2, g3, g4, g5⟩ := HCE.out _ HV.out hmem
      have HUA : Hid (∀ x ∈ aboveX xs a, hasI (escI xs L) x = true) := fun x hx => by
        unfold aboveX at hx
        rw [HT.out, hasK_iff.2 ⟨m1, m2⟩] at hx
        exact HUP.out a x HV.out hmem hx
      have okA : Enc.ok a := ⟨hok1, hok2⟩
      have ok0 : Enc.ok (0 : Int) := ⟨by omega, by omega⟩
      have hki : (0 : Int) ≤ (k : Int) := by omega
      have hkn : (k : Int) < ((escI xs L).length : Int) := by omega
      clear hmem
      go_wp2_with fail
      obtain ⟨cx0, cx1, cx2, zx0, LX⟩ := boxT wr (.bool true) (.int .i64 a) (.int .i64 0) 28
      have zx1 := zx0
      have zx2 := zx0
      replace ct := (LX.cell zt).trans ct
      replace cd0 := (LX.cell zd0).trans cd0
      replace zt := Nat.lt_of_lt_of_le zt LX.size
      replace zd0 := Nat.lt_of_lt_of_le zd0 LX.size
      replace S := S.le LX
      replace L0 := L0.trans LX
      replace S2 := S2.le LX
      replace S3 := S3.le LX
      have HLE6 := Lib.hid (HLE.out.trans LX)
      clear LX
      generalize wr.alloc (.cells #[.bool true, .int .i64 a, .int .i64 0] 28) = W6 at *
      refine (Calls.ceR g1 (iCloseExits_any B D _ c _ d xs L true a 0 okA ok0 W6 S S2)).mono ?_
      rintro e w7 ⟨A6, q6, A7, q7, rfl, S7, hle⟩
      replace ct := (hle.cell zt).trans ct
      replace cx0 := (hle.cell zx0).trans cx0
      replace cx1 := (hle.cell zx1).trans cx1
      replace cx2 := (hle.cell zx2).trans cx2
      replace cd0 := (hle.cell zd0).trans cd0
      replace zt := Nat.lt_of_lt_of_le zt hle.size
      replace zx0 := Nat.lt_of_lt_of_le zx0 hle.size
      replace zx1 := Nat.lt_of_lt_of_le zx1 hle.size
      replace zx2 := Nat.lt_of_lt_of_le zx2 hle.size
      replace zd0 := Nat.lt_of_lt_of_le zd0 hle.size
      replace S := S.le hle
      replace L0 := L0.trans hle
      replace S2 := S2.le hle
      replace S3 := S3.le hle
      have HLE7 := Lib.hid (HLE6.out.trans hle)
      clear hle
      have HSO : Hid (∀ w0, Sl w0 B xs.length c xs → Sl w0 A7 1 q7 (ceH xs L true a 0) → Calls Try.prog 23 #[.agg #[.slice B xs.length c], .agg #[.slice A6 (ceL xs L true a 0).length q6, .int .i64 (ceE xs L true a 0), .int .i64 (ceV xs L true a 0), .slice A7 1 q7]] w0 fun e w' => e = .returned (.tuple #[.agg #[.bool true, .int .i64 a, .int .i64 0], .bool true]) ∧ Le w0 w') :=
        fun w0 h1 h2 => Calls.so g3 g2 g4 g5 (iStartOf_any B A6 A7 _ c _ q6 1 q7 xs _ _ _ (by omega) w0 h1 h2)
      clear g1 g2 g3 g4 g5
      generalize (ceL xs L true a 0).length = lgl at *
      generalize ceE xs L true a 0 = en at *
      generalize ceV xs L true a 0 = va at *
      generalize ceH xs L true a 0 = hs at *
      obtain ⟨cr0, cr1, cr2, cr3, zr0, LR⟩ := boxRr w7 (.slice A6 lgl q6) (.int .i64 en) (.int .i64 va) (.slice A7 1 q7) 36
      have zr1 := zr0
      have zr2 := zr0
      have zr3 := zr0
      replace ct := (LR.cell zt).trans ct
      replace cx0 := (LR.cell zx0).trans cx0
      replace cx1 := (LR.cell zx1).trans cx1
      replace cx2 := (LR.cell zx2).trans cx2
      replace cd0 := (LR.cell zd0).trans cd0
      replace zt := Nat.lt_of_lt_of_le zt LR.size
      replace zx0 := Nat.lt_of_lt_of_le zx0 LR.size
      replace zx1 := Nat.lt_of_lt_of_le zx1 LR.size
      replace zx2 := Nat.lt_of_lt_of_le zx2 LR.size
      replace zd0 := Nat.lt_of_lt_of_le zd0 LR.size
      replace S := S.le LR
      replace L0 := L0.trans LR
      replace S2 := S2.le LR
      replace S3 := S3.le LR
      replace S7 := S7.le LR
      have HLE8 := Lib.hid (HLE7.out.trans LR)
      clear LR
      go_wp2_with fail
      generalize w7.alloc (.cells #[.slice A6 lgl q6, .int .i64 en, .int .i64 va, .slice A7 1 q7] 36) = W8 at *
      refine (HSO.out W8 S S7).mono ?_
      rintro e w9 ⟨rfl, hle⟩
      replace ct := (hle.cell zt).trans ct
      replace cx0 := (hle.cell zx0).trans cx0
      replace cx1 := (hle.cell zx1).trans cx1
      replace cx2 := (hle.cell zx2).trans cx2
      replace cr0 := (hle.cell zr0).trans cr0
      replace cr1 := (hle.cell zr1).trans cr1
      replace cr2 := (hle.cell zr2).trans cr2
      replace cr3 := (hle.cell zr3).trans cr3
      replace cd0 := (hle.cell zd0).trans cd0
      replace zt := Nat.lt_of_lt_of_le zt hle.size
      replace zx0 := Nat.lt_of_lt_of_le zx0 hle.size
      replace zx1 := Nat.lt_of_lt_of_le zx1 hle.size
      replace zx2 := Nat.lt_of_lt_of_le zx2 hle.size
      replace zr0 := Nat.lt_of_lt_of_le zr0 hle.size
      replace zr1 := Nat.lt_of_lt_of_le zr1 hle.size
      replace zr2 := Nat.lt_of_lt_of_le zr2 hle.size
      replace zr3 := Nat.lt_of_lt_of_le zr3 hle.size
      replace zd0 := Nat.lt_of_lt_of_le zd0 hle.size
      replace S := S.le hle
      replace L0 := L0.trans hle
      replace S2 := S2.le hle
      replace S3 := S3.le hle
      have HLE9 := Lib.hid (HLE8.out.trans hle)
      clear hle HSO S7
      obtain ⟨cy0, cy1, cy2, zy0, LY⟩ := boxT w9 (.bool true) (.int .i64 a) (.int .i64 0) 28
      have zy1 := zy0
      have zy2 := zy0
      replace ct := (LY.cell zt).trans ct
      replace cx0 := (LY.cell zx0).trans cx0
      replace cx1 := (LY.cell zx1).trans cx1
      replace cx2 := (LY.cell zx2).trans cx2
      replace cr0 := (LY.cell zr0).trans cr0
      replace cr1 := (LY.cell zr1).trans cr1
      replace cr2 := (LY.cell zr2).trans cr2
      replace cr3 := (LY.cell zr3).trans cr3
      replace cd0 := (LY.cell zd0).trans cd0
      replace zt := Nat.lt_of_lt_of_le zt LY.size
      replace zx0 := Nat.lt_of_lt_of_le zx0 LY.size
      replace zx1 := Nat.lt_of_lt_of_le zx1 LY.size
      replace zx2 := Nat.lt_of_lt_of_le zx2 LY.size
      replace zr0 := Nat.lt_of_lt_of_le zr0 LY.size
      replace zr1 := Nat.lt_of_lt_of_le zr1 LY.size
      replace zr2 := Nat.lt_of_lt_of_le zr2 LY.size
      replace zr3 := Nat.lt_of_lt_of_le zr3 LY.size
      replace zd0 := Nat.lt_of_lt_of_le zd0 LY.size
      replace S := S.le LY
      replace L0 := L0.trans LY
      replace S2 := S2.le LY
      replace S3 := S3.le LY
      have HLE10 := Lib.hid (HLE9.out.trans LY)
      clear LY
      have hae : (a == a) = true := by simp
      have han : (a != a) = false := by simp
      go_wp2_with fail
      generalize w9.alloc (.cells #[.bool true, .int .i64 a, .int .i64 0] 28) = W10 at *
      clear cx0 cx1 cx2 cr0 cr1 cr2 cr3 cy0 cy1 cy2
      have HLED := Lib.hid (HLE10.out.drew)
      replace ct := (show W10.drew.cell? _ = _ from ct)
      replace zt := (show _ < W10.drew.heap.size from zt)
      replace cd0 := (show W10.drew.cell? _ = _ from cd0)
      replace zd0 := (show _ < W10.drew.heap.size from zd0)
      replace S := S.le (Le.refl _).drew
      replace L0 := L0.drew
      replace S2 := S2.le (Le.refl _).drew
      replace S3 := S3.le (Le.refl _).drew
      refine wp_region_noPanic ?_
      refine wp_region_Z (fun w' => w'.cell? ⟨w1.heap.size, 0, none⟩ = some (.slice B xs.length c) ∧ w'.cell? ⟨b, off + k, none⟩ = some (.int .i64 a)) [] (by kernel_rfl) ?_
      generalize W10.drew = V at *
      refine wpAnyZ_take (i := 0) (v := ?_) rfl (by kernel_rfl) (fun _ _ _ h => h) (Or.inl ⟨by rfl, ?_⟩) (⟨ct, cd0⟩) ?_
      rotate_left 1
      · (intro w hSw; (try dsimp only at hSw); go_simp; try with_reducible rfl)
      try simp only [Act.put, List.setIfInBounds_toArray, List.set_cons_zero, List.set_cons_succ]
      refine wpAnyZ_take (i := 1) (v := ?_) rfl (by kernel_rfl) (fun _ _ _ h => h) (Or.inl ⟨by rfl, ?_⟩) (⟨ct, cd0⟩) ?_
      rotate_left 1
      · (intro w hSw; (try dsimp only at hSw); go_simp; try with_reducible rfl)
      try simp only [Act.put, List.setIfInBounds_toArray, List.set_cons_zero, List.set_cons_succ]
      refine wpAnyZ_take (i := 2) (v := ?_) rfl (by kernel_rfl) (fun _ _ _ h => h) (Or.inl ⟨by rfl, ?_⟩) (⟨ct, cd0⟩) ?_
      rotate_left 1
      · (intro w hSw; (try dsimp only at hSw); go_simp; try with_reducible rfl)
      try simp only [Act.put, List.setIfInBounds_toArray, List.set_cons_zero, List.set_cons_succ]
      refine wpAnyZ_take (i := 3) (v := ?_) rfl (by kernel_rfl) (fun _ _ _ h => h) (Or.inl ⟨by rfl, ?_⟩) (⟨ct, cd0⟩) ?_
      rotate_left 1
      · (intro w hSw; (try dsimp only at hSw); go_simp; try with_reducible rfl)
      try simp only [Act.put, List.setIfInBounds_toArray, List.set_cons_zero, List.set_cons_succ]
      refine wpAnyZ_take (i := 4) (v := ?_) rfl (by kernel_rfl) (fun _ _ _ h => h) (Or.inl ⟨by rfl, ?_⟩) (⟨ct, cd0⟩) ?_
      rotate_left 1
      · (intro w hSw; (try dsimp only at hSw); go_simp; try with_reducible rfl)
      try simp only [Act.put, List.setIfInBounds_toArray, List.set_cons_zero, List.set_cons_succ]
      refine wpAnyZ_one (i := 5) (by kernel_rfl) (ReadyZ.mk rfl (fun K hK => ?_))
      go_simp
      go_at_call 27
      refine (Calls.own (iAboveOf_any B _ c xs a V S)).mono ?_
      rintro e w11 ⟨A9, c9, rfl, S9, hle⟩
      replace ct := (hle.cell zt).trans ct
      replace cd0 := (hle.cell zd0).trans cd0
      replace zt := Nat.lt_of_lt_of_le zt hle.size
      replace zd0 := Nat.lt_of_lt_of_le zd0 hle.size
      replace S := S.le hle
      replace L0 := L0.trans hle
      replace S2 := S2.le hle
      replace S3 := S3.le hle
      have HLE11 := Lib.hid (HLED.out.trans hle)
      clear hle
      refine hK.out _ _ (fun _ => ⟨ct, cd0⟩) ?_
      clear hK K
      try simp only [Act.put, List.setIfInBounds_toArray, List.set_cons_zero, List.set_cons_succ]
      refine wpAnyZ_take (i := 6) (v := ?_) rfl (by kernel_rfl) (fun _ _ _ h => h) (Or.inl ⟨by rfl, ?_⟩) (⟨ct, cd0⟩) ?_
      rotate_left 1
      · (intro w hSw; (try dsimp only at hSw); go_simp; try with_reducible rfl)
      try simp only [Act.put, List.setIfInBounds_toArray, List.set_cons_zero, List.set_cons_succ]
      refine wpAnyZ_done (by kernel_rfl) ?_ _
      refine NoPanic.normal ?_
      have h9 := S9.n_le
      clear cd0
      go_wp2
      go_loopw [12] (fun i wr2 => ∃ j : Nat, j ≤ (aboveX xs a).length ∧ i = .int .i64 j ∧ Le w11 wr2) (fun i _ => (aboveX xs a).length - (intOf i).toNat)
      case atStart => exact ⟨0, Nat.zero_le _, rfl, Le.refl _⟩
      case round =>
        obtain ⟨j, hj, rfl, hle⟩ := hrel
        have HLEJ := Lib.hid hle
        replace ct := (hle.cell zt).trans ct
        replace zt := Nat.lt_of_lt_of_le zt hle.size
        replace L0 := L0.trans hle
        replace S3 := S3.le hle
        replace S9 := S9.le hle
        clear hle
        by_cases hlt2 : j < (aboveX xs a).length
        · obtain ⟨b2, off2, rfl, hb2, e0, -, -⟩ := S9.int_at hlt2
          have hin := HUA.out _ (List.getElem_mem hlt2)
          generalize (aboveX xs a)[j] = y at *
          have hji : (0 : Int) ≤ (j : Int) := by omega
          have hjn : (j : Int) < ((aboveX xs a).length : Int) := by omega
          go_wp2_with fail
          refine (isIn_any _ _ _ (escI xs L) y _ S3).mono ?_
          rintro e w12 ⟨rfl, rfl⟩
          rw [hin]
          go_wp2
          go_roundw
          case rel => exact ⟨j + 1, by omega, by go_num, HLEJ.out⟩
          case measure => (simp [intOf]) <;> omega
        · have HLEZ := Lib.hid (HLE11.out.trans HLEJ.out)
          go_wp2
          go_roundw
          case rel => exact ⟨k + 1, by omega, by go_num, HLEZ.out⟩
          case measure => (simp [intOf]) <;> omega
    · go_wp2_with fail
      refine (ascends_any _ _ _ _ _ S3 HA.out).mono ?_
      rintro e w6 ⟨rfl, hle⟩
      replace L0 := L0.trans hle
      clear hle
      go_wp2
      go_ret
      exact ⟨rfl, L0⟩
end Go.Proofs.Ytonpgohigncjeaa
