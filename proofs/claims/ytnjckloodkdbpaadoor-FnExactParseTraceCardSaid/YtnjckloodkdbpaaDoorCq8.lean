/- one text of TtA, TG0, DMv, LT, TkR -/
import Derived.Test.YtnjckloodkdbpaaDoorCq5
import Derived.Test.YtnjckloodkdbpaaDoorCq2
import Derived.Test.YtnjckloodkdbpaaDoorCq3
import Derived.Test.YtnjckloodkdbpaaDoorCq1
import Derived.Test.YtnjckloodkdbpaaDoorCq7
import Derived.Deep.RegionHeld3
namespace Go.Proofs.YtnjckloodkdbpaaDoor
open Go.RowKit
set_option linter.unusedVariables false
section
instance instOneStrT : EncOne ByteArray := ⟨by decide, fun x u hu => by simp [Enc.cells] at hu; subst hu; rfl⟩
theorem infoStrT : (Tryd.prog.info? 9).map (fun i => (i.zero, i.size, i.bytes)) = some (some (.string ByteArray.empty), 1, 16) := by kernel_rfl
theorem bl_extract (s : ByteArray) (a i : Nat) : bl (s.extract a i) = ((bl s).drop a).take (i - a) := by
  unfold bl
  rw [ByteArray.data_extract, Array.toList_extract, List.extract_eq_take_drop]
theorem bl_at {s : ByteArray} {j : Nat} (h : j < s.size) : (bl s)[j]'(by rw [bl_len]; exact h) = s[j] := rfl
theorem seg_no {s : ByteArray} {c : UInt8} {a i : Nat} (h2 : i ≤ s.size) (hno : ∀ j (hj : j < s.size), a ≤ j → j < i → s[j] ≠ c) : c ∉ bl (s.extract a i) := by
  intro hm
  rw [bl_extract] at hm
  obtain ⟨j, hj, e⟩ := List.getElem_of_mem hm
  rw [List.length_take, List.length_drop, bl_len] at hj
  rw [List.getElem_take, List.getElem_drop] at e
  exact hno (a + j) (by omega) (by omega) (by omega) e
theorem seg_split {s : ByteArray} {c : UInt8} {a i : Nat} (h1 : a ≤ i) (h2 : i < s.size) (hno : ∀ j (hj : j < s.size), a ≤ j → j < i → s[j] ≠ c) (hc : s[i] = c) : splitL c ((bl s).drop a) = bl (s.extract a i) :: splitL c ((bl s).drop (i + 1)) := by
  have e : (bl s).drop a = bl (s.extract a i) ++ c :: (bl s).drop (i + 1) := by
    rw [bl_extract]
    have h3 : i < (bl s).length := by rw [bl_len]; exact h2
    have h7 : (bl s)[i] = c := hc
    have h6 : c :: (bl s).drop (i + 1) = (bl s).drop i := by rw [List.drop_eq_getElem_cons h3, h7]
    rw [h6]
    have h5 : (bl s).drop i = ((bl s).drop a).drop (i - a) := by rw [List.drop_drop]; congr 1; omega
    rw [h5, List.take_append_drop]
  rw [e, splitL_line (seg_no (by omega) hno)]
theorem seg_last {s : ByteArray} {c : UInt8} {a : Nat} (hno : ∀ j (hj : j < s.size), a ≤ j → s[j] ≠ c) : splitL c ((bl s).drop a) = [bl (s.extract a s.size)] := by
  have e : (bl s).drop a = bl (s.extract a s.size) := by
    rw [bl_extract, List.take_of_length_le (by rw [List.length_drop, bl_len]; omega)]
  rw [e, splitL_one (seg_no (Nat.le_refl _) (fun j hj h _ => hno j hj h))]
set_option maxHeartbeats 2000000 in
set_option maxRecDepth 100000 in
theorem splitAt_any (s : ByteArray) (c : UInt8) (w : World) (hs : s.size ≤ 1048576) :
    Calls Tryd.prog 36 #[.string s, .int .u8 c.toNat] w fun e w' => ∃ v, e = .returned v ∧ Owd 9 w w' v ((splitL c (bl s)).map tb) ∧ Le w w' := by
  obtain ⟨i0, hi, hz0, hz1, hz2⟩ := info_parts infoStrT
  go_enter Tryd.func36, Tryd.ntmps36
  go_wp2_with fail
  have L0 := Le.new w (.cells #[] 9)
  have O0 := own_empty (w := w) (base := w.heap.size) (g := w.heap.size) (e := 9) (size := 1) (Nat.le_refl _) rfl
  generalize w.alloc (.cells #[] 9) = W at *
  go_wp2
  go_loopw [5, 6, 7] (fun v f i wr => ∃ (L : List ByteArray) (a k : Nat), f = .int .i64 a ∧ i = .int .i64 k ∧ a ≤ k ∧ k ≤ s.size ∧ L.length ≤ a ∧ Hid (∀ j (hj : j < s.size), a ≤ j → j < k → s[j] ≠ c) ∧ Hid (L ++ (splitL c ((bl s).drop a)).map tb = (splitL c (bl s)).map tb) ∧ (∀ x ∈ L, Enc.ok x) ∧ wr.ownsRow w.heap.size 9 1 v L.length (L.flatMap Enc.cells) ∧ Le w wr) (fun _ _ i _ => s.size - (intOf i).toNat)
  case atStart => exact ⟨[], 0, 0, rfl, rfl, Nat.le_refl _, Nat.zero_le _, Nat.le_refl _, fun j _ _ h => absurd h (by omega), rfl, by simp, O0, L0⟩
  case round =>
    clear O0 L0
    obtain ⟨L, a, k, rfl, rfl, hak, hk, hLa, HNO, HSP, hL, O, LW⟩ := hrel
    obtain ⟨A2, c2, rfl⟩ := own_form O
    have HL := Lib.hid hL
    have s1 := LW.size
    clear hL
    by_cases hlt : k < s.size
    · have hc : 0 ≤ (s[k].toNat : Int) ∧ (s[k].toNat : Int) ≤ 255 := by have := UInt8.toNat_lt s[k]; omega
      have hkl : (k : Int) < (s.size : Int) := by omega
      by_cases h58 : s[k] = c
      · have hb : ((s[k].toNat : Int) == (c.toNat : Int)) = true := by rw [h58]; simp
        have HE := Lib.hid (seg_split hak hlt HNO.out h58)
        have hx1 : (a : Int) ≤ (k : Int) := by omega
        have hx2 : (k : Int) ≤ (s.size : Int) := by omega
        have hw : IntKind.i64.wrap ((k : Int) + 1) = (k : Int) + 1 := IntWalk.i64_in _ (by omega)
        have hsz : (s.extract a k).size ≤ 1048576 := by rw [ByteArray.size_extract]; omega
        clear h58 HNO
        have hfo : Enc.ok (s.extract a k) := by show (s.extract a k).size ≤ 9223372036854775807; omega
        have hbk := O.lt
        go_wp2_with (at_builtin; refine wpList_append_sl rfl _ _ 43 rfl w.heap.size 9 i0 _ 16 Tryd.underlying43 hi hz0 hz1 hz2 rfl _ _ L rfl (O.alloc _) _ 1 1 [s.extract a k] rfl (sl_one (s.extract a k) rfl hfo rfl) (by unfold maxLen; omega) (by omega) (Nat.le_trans (by omega) (Le.new wr _).size) ?_; intro v1 w7 O7 hg7 _; have LA := Le.new wr (.cells #[.string (s.extract a k)] 9); have L7 := (LW.trans LA).grown hg7 (fun k hk => by have h := (hbk _ hk).1; omega); clear hg7 LA)
        go_roundw
        case rel =>
          refine ⟨L ++ [s.extract a k], k + 1, k + 1, by go_num, by go_num, Nat.le_refl _, by omega, by simp; omega, fun j _ h1 h2 => absurd h1 (by omega), ?_, (fun y hy => by rcases List.mem_append.1 hy with h | h; exact HL.out y h; simp at h; subst h; exact hfo), by rw [List.length_append]; exact O7, L7⟩
          have := HSP.out
          rw [HE.out, List.map_cons, tb_bl] at this
          rw [List.append_assoc]; exact this
        case measure => (simp [intOf]) <;> omega
      · have hb : ((s[k].toNat : Int) == (c.toNat : Int)) = false := by
          rw [beq_eq_false_iff_ne]; intro e; exact h58 (UInt8.toNat_inj.1 (by omega))
        have HNO2 : Hid (∀ j (hj : j < s.size), a ≤ j → j < k + 1 → s[j] ≠ c) := fun j hj h1 h2 => by
          rcases Nat.lt_or_ge j k with h | h
          · exact HNO.out j hj h1 h
          · have e : j = k := by omega
            subst e; exact h58
        clear h58 HNO
        go_wp2
        go_roundw
        case rel => exact ⟨L, a, k + 1, by go_num, by go_num, by omega, by omega, hLa, HNO2.out, HSP.out, HL.out, O, LW⟩
        case measure => (simp [intOf]) <;> omega
    · have hkl : ¬ (k : Int) < (s.size : Int) := by omega
      have HE := Lib.hid (seg_last (fun j hj h => HNO.out j hj h (by omega)))
      have hx2 : (a : Int) ≤ (s.size : Int) := by omega
      have hsz : (s.extract a s.size).size ≤ 1048576 := by rw [ByteArray.size_extract]; omega
      have hfo : Enc.ok (s.extract a s.size) := by show (s.extract a s.size).size ≤ 9223372036854775807; omega
      have hbk := O.lt
      clear HNO
      go_wp2_with (at_builtin; refine wpList_append_sl rfl _ _ 43 rfl w.heap.size 9 i0 _ 16 Tryd.underlying43 hi hz0 hz1 hz2 rfl _ _ L rfl (O.alloc _) _ 1 1 [s.extract a s.size] rfl (sl_one (s.extract a s.size) rfl hfo rfl) (by unfold maxLen; omega) (by omega) (Nat.le_trans (by omega) (Le.new wr _).size) ?_; intro v1 w7 O7 hg7 _; have LA := Le.new wr (.cells #[.string (s.extract a s.size)] 9); have L7 := (LW.trans LA).grown hg7 (fun k hk => by have h := (hbk _ hk).1; omega); clear hg7 LA)
      go_ret
      refine ⟨_, rfl, ⟨?_, ?_⟩, L7⟩
      · have := HSP.out
        rw [HE.out, List.map_cons, tb_bl] at this
        rw [← this, List.length_append]; exact O7
      · have := HSP.out
        rw [HE.out, List.map_cons, tb_bl] at this
        rw [← this]
        intro y hy
        rcases List.mem_append.1 hy with h | h
        · exact HL.out y h
        · simp at h; subst h; exact hfo
end

section
def MutOut (l k g p : Nat) (A : Option Addr) (n cap : Nat) (bs : List By) (w : World) (e : Ending) (w' : World) : Prop :=
  ∃ (t : ByteArray) (p' : Nat), e = .returned (.string t) ∧ t.size ≤ l ∧ p' ≤ p + k ∧ Rd w' g p' A n cap bs ∧ Gx g w w'
def nine : List ByteArray := [⟨#[48]⟩, ⟨#[49]⟩, ⟨#[32]⟩, ⟨#[58]⟩, ⟨#[97]⟩, ⟨#[40]⟩, ⟨#[41]⟩, ⟨#[42]⟩, ⟨#[10]⟩]
def five : List ByteArray := [⟨#[48]⟩, ⟨#[32]⟩, ⟨#[10]⟩, ⟨#[120]⟩, ⟨#[41]⟩]
theorem nine_one : ∀ x ∈ nine, x.size = 1 := by
  intro x hx
  simp [nine] at hx
  rcases hx with rfl | rfl | rfl | rfl | rfl | rfl | rfl | rfl | rfl <;> rfl
theorem five_one : ∀ x ∈ five, x.size = 1 := by
  intro x hx
  simp [five] at hx
  rcases hx with rfl | rfl | rfl | rfl | rfl <;> rfl
set_option maxHeartbeats 4000000 in
set_option maxRecDepth 100000 in
theorem mutate_any (s : ByteArray) (g p : Nat) (A : Option Addr) (n cap : Nat) (bs : List By) (w : World) (hs : s.size ≤ 2000) (hp : p ≤ 900000) (hR : Rd w g p A n cap bs) :
    Calls Tryd.prog 35 #[.pointer (some ⟨g, 0, none⟩), .string s] w (MutOut (s.size + 1) 3 g p A n cap bs w) := by
  have hw1 : IntKind.i64.wrap ((s.size : Int) + 1) = (s.size : Int) + 1 := IntWalk.i64_in _ (by omega)
  go_enter Tryd.func35, Tryd.ntmps35
  go_wp2_with fail
  refine (pick_any ((s.size : Int) + 1) g p A n cap bs w (by omega) (by omega) (by omega) hR).mono ?_
  rintro e w1 ⟨y, rfl, hy0, hy1, R1, hg1⟩
  obtain ⟨k, rfl⟩ := Int.eq_ofNat_of_zero_le hy0
  have hk : k ≤ s.size := by rcases hy1 with h | h <;> omega
  clear hy1
  go_wp2_with fail
  refine (pick_any 5 g (p + 1) A n cap bs w1 (by omega) (by omega) (by omega) R1).mono ?_
  rintro e w2 ⟨z, rfl, hz0, hz1, R2, hg2⟩
  obtain ⟨q, rfl⟩ := Int.eq_ofNat_of_zero_le hz0
  have hq : q ≤ 4 := by rcases hz1 with h | h <;> omega
  have G2 := hg1.trans hg2
  clear hz1 hg1 hg2 R1
  have hk0 : (0 : Int) ≤ (k : Int) := by omega
  have hk1 : (k : Int) ≤ (s.size : Int) := by omega
  have hse : (s.extract 0 k).size ≤ s.size := by rw [ByteArray.size_extract]; omega
  have HEND : Hid (MutOut (s.size + 1) 3 g p A n cap bs w (.returned (.string s)) w2) := ⟨s, _, rfl, by omega, by omega, R2, G2⟩
  have HCUT : Hid (MutOut (s.size + 1) 3 g p A n cap bs w (.returned (.string (s.extract 0 k))) w2) := ⟨_, _, rfl, by omega, by omega, R2, G2⟩
  have hcase : q = 0 ∨ q = 1 ∨ q = 2 ∨ q = 3 ∨ q = 4 := by omega
  by_cases h01 : q = 0 ∨ q = 1
  · by_cases hkl : k < s.size
    · have b1 : (k : Int) < (s.size : Int) := by omega
      have b2 : IntKind.i64.wrap ((k : Int) + 1) = (k : Int) + 1 := IntWalk.i64_in _ (by omega)
      have b3 : (k : Int) + 1 ≤ (s.size : Int) := by omega
      have b4 : (0 : Int) ≤ (k : Int) + 1 := by omega
      have hs2 : (s.extract (k + 1) s.size).size = s.size - (k + 1) := by rw [ByteArray.size_extract]; omega
      have hs1 : (s.extract 0 k).size = k := by rw [ByteArray.size_extract]; omega
      clear HEND HCUT hcase hse
      have HQ : Hid (q = 0 ∨ q = 1) := h01
      have RD := R2.le (Le.refl w2).drew
      have GD := G2.trans (Gx.of_le (g := g) (Le.refl w2).drew)
      have fin : ∀ (w' : World) (K : Prop), K → K := fun _ _ h => h
      rcases h01 with rfl | rfl
      all_goals
        go_wp2_with fail
        refine wp_region_noPanic ?_
        refine wp_region_Z (fun _ => True) [] (by kernel_rfl) ?_
        refine wpAnyZ_take (i := 0) (v := ?_) rfl (by kernel_rfl) (fun _ _ _ h => h) (Or.inl ⟨by rfl, ?_⟩) (trivial) ?_
        rotate_left 1
        · (intro w hSw; (try dsimp only at hSw); go_simp; try with_reducible rfl)
        try simp only [Act.put, List.setIfInBounds_toArray, List.set_cons_zero, List.set_cons_succ]
        refine wpAnyZ_take (i := 1) (v := ?_) rfl (by kernel_rfl) (fun _ _ _ h => h) (Or.inl ⟨by rfl, ?_⟩) (trivial) ?_
        rotate_left 1
        · (intro w hSw; (try dsimp only at hSw); go_simp; try with_reducible rfl)
        try simp only [Act.put, List.setIfInBounds_toArray, List.set_cons_zero, List.set_cons_succ]
        refine wpAnyZ_take (i := 2) (v := ?_) rfl (by kernel_rfl) (fun _ _ _ h => h) (Or.inl ⟨by rfl, ?_⟩) (trivial) ?_
        rotate_left 1
        · (intro w hSw; (try dsimp only at hSw); go_simp; try with_reducible rfl)
        try simp only [Act.put, List.setIfInBounds_toArray, List.set_cons_zero, List.set_cons_succ]
        refine wpAnyZ_take (i := 3) (v := ?_) rfl (by kernel_rfl) (fun _ _ _ h => h) (Or.inl ⟨by rfl, ?_⟩) (trivial) ?_
        rotate_left 1
        · (intro w hSw; (try dsimp only at hSw); go_simp; try with_reducible rfl)
        try simp only [Act.put, List.setIfInBounds_toArray, List.set_cons_zero, List.set_cons_succ]
        refine wpAnyZ_take (i := 7) (v := ?_) rfl (by kernel_rfl) (fun _ _ _ h => h) (Or.inl ⟨by rfl, ?_⟩) (trivial) ?_
        rotate_left 1
        · (intro w hSw; (try dsimp only at hSw); go_simp; try with_reducible rfl)
        try simp only [Act.put, List.setIfInBounds_toArray, List.set_cons_zero, List.set_cons_succ]
        refine wpAnyZ_take (i := 8) (v := ?_) rfl (by kernel_rfl) (fun _ _ _ h => h) (Or.inl ⟨by rfl, ?_⟩) (trivial) ?_
        rotate_left 1
        · (intro w hSw; (try dsimp only at hSw); go_simp; try with_reducible rfl)
        try simp only [Act.put, List.setIfInBounds_toArray, List.set_cons_zero, List.set_cons_succ]
        refine wpAnyZ_take (i := 9) (v := ?_) rfl (by kernel_rfl) (fun _ _ _ h => h) (Or.inl ⟨by rfl, ?_⟩) (trivial) ?_
        rotate_left 1
        · (intro w hSw; (try dsimp only at hSw); go_simp; try with_reducible rfl)
        try simp only [Act.put, List.setIfInBounds_toArray, List.set_cons_zero, List.set_cons_succ]
        refine wpAnyZ_take (i := 10) (v := ?_) rfl (by kernel_rfl) (fun _ _ _ h => h) (Or.inl ⟨by rfl, ?_⟩) (trivial) ?_
        rotate_left 1
        · (intro w hSw; (try dsimp only at hSw); go_simp; try with_reducible rfl)
        try simp only [Act.put, List.setIfInBounds_toArray, List.set_cons_zero, List.set_cons_succ]
        refine wpAnyZ_one (i := 4) (by kernel_rfl) (ReadyZ.mk rfl (fun K hK => ?_))
        go_simp
        refine hK.out _ _ (fun _ => trivial) ?_
        clear hK K
        try simp only [Act.put, List.setIfInBounds_toArray, List.set_cons_zero, List.set_cons_succ]
        refine wpAnyZ_one (i := 5) (by kernel_rfl) (ReadyZ.mk rfl (fun K hK => ?_))
        go_simp
        go_at_call 44
        refine (of_lit nine 9 _ _ g (p + 1 + 1) A n cap bs w2.drew _ rfl rfl (by decide) (by decide) (fun x hx => by show x.size ≤ 9223372036854775807; rw [nine_one x hx]; decide) (by omega) rfl RD).mono ?_
        rintro e w3 ⟨x, rfl, hx, R3, hg3⟩
        have hx1 := nine_one x hx
        have G3 := GD.trans hg3
        clear hx hg3
        refine hK.out _ _ (fun _ => trivial) ?_
        clear hK K
        try simp only [Act.put, List.setIfInBounds_toArray, List.set_cons_zero, List.set_cons_succ]
        have ha : ((s.extract 0 k).size : Int) ≤ 8388608 := by omega
        have hb : (x.size : Int) ≤ 8388608 := by omega
        have hc : ((s.extract 0 k ++ x).size : Int) ≤ 8388608 := by rw [ByteArray.size_append]; omega
        have hd : ((s.extract (k + 1) s.size).size : Int) ≤ 8388608 := by omega
        have HSZ : Hid (((s.extract 0 k ++ x) ++ s.extract (k + 1) s.size).size ≤ s.size + 1) := by
          show _ ≤ _
          rw [ByteArray.size_append, ByteArray.size_append]; omega
        have hadd1 : ∀ w, (Op.stringOp .add (s.extract 0 k) x).run Tryd.prog w = .ok (.string (s.extract 0 k ++ x)) w := fun w => run_string_add w _ _ ha hb
        have hadd2 : ∀ w, (Op.stringOp .add (s.extract 0 k ++ x) (s.extract (k + 1) s.size)).run Tryd.prog w = .ok (.string (s.extract 0 k ++ x ++ s.extract (k + 1) s.size)) w := fun w => run_string_add w _ _ hc hd
        clear ha hb hc hd hs1 hs2 hx1
        generalize s.extract (k + 1) s.size = t2 at *
        obtain ⟨x3, h3⟩ : ∃ x3, s.extract 0 k ++ x = x3 := ⟨_, rfl⟩
        rw [h3] at hadd1 hadd2 HSZ
        clear h3
        generalize s.extract 0 k = t1 at *
        obtain ⟨x4, h4⟩ : ∃ x4, x3 ++ t2 = x4 := ⟨_, rfl⟩
        rw [h4] at hadd2 HSZ
        clear h4
        refine wpAnyZ_take (i := 6) (v := ?_) rfl (by kernel_rfl) (fun _ _ _ h => h) (Or.inl ⟨by rfl, ?_⟩) (trivial) ?_
        rotate_left 1
        · (intro w hSw; (try dsimp only at hSw); go_simp; try with_reducible rfl)
        try simp only [Act.put, List.setIfInBounds_toArray, List.set_cons_zero, List.set_cons_succ]
        refine wpAnyZ_take (i := 11) (v := ?_) rfl (by kernel_rfl) (fun _ _ _ h => h) (Or.inl ⟨by rfl, ?_⟩) (trivial) ?_
        rotate_left 1
        · (intro w hSw; (try dsimp only at hSw); go_simp; try with_reducible rfl)
        try simp only [Act.put, List.setIfInBounds_toArray, List.set_cons_zero, List.set_cons_succ]
        refine wpAnyZ_take (i := 12) (v := ?_) rfl (by kernel_rfl) (fun _ _ _ h => h) (Or.inl ⟨by rfl, ?_⟩) (trivial) ?_
        rotate_left 1
        · (intro w hSw; (try dsimp only at hSw); go_simp; try with_reducible rfl)
        try simp only [Act.put, List.setIfInBounds_toArray, List.set_cons_zero, List.set_cons_succ]
        refine wpAnyZ_done (by kernel_rfl) ?_ _
        refine NoPanic.normal ?_
        go_wp2
        go_ret
        exact ⟨_, _, rfl, HSZ.out, by omega, R3, G3⟩
    · have b1 : ¬ (k : Int) < (s.size : Int) := by omega
      rcases h01 with rfl | rfl
      all_goals
        go_wp2
        go_ret
        exact HEND.out
  · have h0 : q ≠ 0 := fun e => h01 (.inl e)
    have h1 : q ≠ 1 := fun e => h01 (.inr e)
    have c0 : ((q : Int) == 0) = false := by rw [beq_eq_false_iff_ne]; omega
    have c1 : ((q : Int) == 1) = false := by rw [beq_eq_false_iff_ne]; omega
    clear h01
    by_cases h2 : q = 2
    · subst h2
      go_wp2
      go_ret
      exact HCUT.out
    · have c2 : ((q : Int) == 2) = false := by rw [beq_eq_false_iff_ne]; omega
      by_cases h3 : q = 3
      · subst h3
        clear HEND HCUT
        go_wp2_with fail
        refine (of_lit five 5 _ _ g (p + 1 + 1) A n cap bs w2 _ rfl rfl (by decide) (by decide) (fun x hx => by show x.size ≤ 9223372036854775807; rw [five_one x hx]; decide) (by omega) rfl R2).mono ?_
        rintro e w3 ⟨x, rfl, hx, R3, hg3⟩
        have hx1 := five_one x hx
        have G3 := G2.trans hg3
        clear hx hg3
        have ha : (s.size : Int) ≤ 8388608 := by omega
        have hb : (x.size : Int) ≤ 8388608 := by omega
        go_wp2
        go_ret
        exact ⟨_, _, rfl, by rw [ByteArray.size_append]; omega, by omega, R3, G3⟩
      · have c3 : ((q : Int) == 3) = false := by rw [beq_eq_false_iff_ne]; omega
        clear h0 h1 h2 h3 hcase
        go_wp2
        go_ret
        exact HEND.out
end

section
def FV (f : Frm) : Prop := Enc.ok f ∧ vFr f = true
theorem fourS_nm : ∀ x ∈ fourS, okName x = true := by
  intro x hx; simp [fourS] at hx
  rcases hx with rfl | rfl | rfl | rfl <;> decide
def FrmOutV (g p : Nat) (A : Option Addr) (n cap : Nat) (bs : List By) (w : World) (e : Ending) (w' : World) : Prop :=
  ∃ f : Frm, e = .returned (.agg #[.string f.fn, .int .i64 f.line]) ∧ FV f ∧ Rd w' g (p + 2) A n cap bs ∧ Gx g w w'
set_option maxRecDepth 100000 in
theorem aFrameV_any (g p : Nat) (A : Option Addr) (n cap : Nat) (bs : List By) (w : World) (hp : p ≤ 900000) (hR : Rd w g p A n cap bs) :
    Calls Tryd.prog 57 #[.pointer (some ⟨g, 0, none⟩)] w (FrmOutV g p A n cap bs w) := by
  have hgw := hR.lt
  have hA : 0 < n → ∀ a, A = some a → a.block ≠ w.heap.size := fun hn a e => by have := hR.sl.under hn a e; omega
  have HA := Lib.hid hA; clear hA
  go_enter Tryd.func57, Tryd.ntmps57
  go_wp2_with fail
  have L0 := Le.new w (.cells #[.string ⟨#[]⟩, .int .i64 0] 45)
  have b0 : (w.alloc (.cells #[.string ⟨#[]⟩, .int .i64 0] 45)).cell? ⟨w.heap.size, 0, none⟩ = some (.string ⟨#[]⟩) := by rw [World.cell?_alloc_at _ _ _ _ rfl]; rfl
  have b1 : (w.alloc (.cells #[.string ⟨#[]⟩, .int .i64 0] 45)).cell? ⟨w.heap.size, 1, none⟩ = some (.int .i64 0) := by rw [World.cell?_alloc_at _ _ _ _ rfl]; rfl
  have f0 : (w.alloc (.cells #[.string ⟨#[]⟩, .int .i64 0] 45)).frozen? ⟨w.heap.size, 0, none⟩ = false := World.frozen?_alloc_at _ _ _ _ rfl
  have f1 : (w.alloc (.cells #[.string ⟨#[]⟩, .int .i64 0] 45)).frozen? ⟨w.heap.size, 1, none⟩ = false := World.frozen?_alloc_at _ _ _ _ rfl
  have zs : (w.alloc (.cells #[.string ⟨#[]⟩, .int .i64 0] 45)).heap.size = w.heap.size + 1 := by simp
  have R0 := hR.le L0
  generalize w.alloc (.cells #[.string ⟨#[]⟩, .int .i64 0] 45) = W at *
  have hgz : w.heap.size ≠ g := by omega
  refine (of_lit fourS 4 _ _ g p A n cap bs W _ rfl rfl (by decide) (by decide) fourS_ok (by omega) zs.symm R0).mono ?_
  rintro e w1 ⟨s, rfl, hs, R1, G1⟩
  have hso := fourS_ok s hs
  have hsn := fourS_nm s hs
  have z1 : w.heap.size < w1.heap.size := by have := G1.size; omega
  replace b0 := (G1.cell (k := w.heap.size) (o := 0) (by omega) hgz).trans b0
  replace b1 := (G1.cell (k := w.heap.size) (o := 1) (by omega) hgz).trans b1
  replace f0 := (G1.frozen (k := w.heap.size) (o := 0) (by omega) hgz).trans f0
  replace f1 := (G1.frozen (k := w.heap.size) (o := 1) (by omega) hgz).trans f1
  have G := (Gx.of_le (g := g) L0).trans G1
  clear G1 hs R0 L0 zs
  go_wp2_with fail
  refine (one_lit [3, 7, 3, 999] 4 _ _ g (p + 1) A n cap bs w1 _ rfl rfl (by decide) (by decide) (by intro x hx; simp at hx; constructor <;> omega) (by omega) rfl R1).mono ?_
  rintro e w2 ⟨v, rfl, hv, R2, G2⟩
  have hvo : -9223372036854775808 ≤ v ∧ v ≤ 9223372036854775807 := by simp at hv; omega
  have hvl : inL v = true := by unfold inL; simp at hv ⊢; omega
  replace b0 := (G2.cell (k := w.heap.size) (o := 0) z1 hgz).trans b0
  replace b1 := (G2.cell (k := w.heap.size) (o := 1) z1 hgz).trans b1
  replace f0 := (G2.frozen (k := w.heap.size) (o := 0) z1 hgz).trans f0
  replace f1 := (G2.frozen (k := w.heap.size) (o := 1) z1 hgz).trans f1
  replace G := G.trans G2
  clear G2 hv R1
  have k0 : (w2.setCell ⟨w.heap.size, 0, none⟩ (.string s)).cell? ⟨w.heap.size, 0, none⟩ = some (.string s) := cell_set_same b0
  have k1 : ((w2.setCell ⟨w.heap.size, 0, none⟩ (.string s)).setCell ⟨w.heap.size, 1, none⟩ (.int .i64 v)).cell? ⟨w.heap.size, 1, none⟩ = some (.int .i64 v) := cell_set_same (by rw [cell_set_other (.inr (by decide))]; exact b1)
  have RE := Lib.hid ((R2.setNew (o := 0) (.string s) hgz HA.out).setNew (o := 1) (.int .i64 v) hgz HA.out)
  have GE := Lib.hid ((G.setNewF (o := 0) (Nat.le_refl _) (.string s)).setNewF (o := 1) (Nat.le_refl _) (.int .i64 v))
  clear R2 G
  go_wp2
  exact bodyPost_ret (v := .agg #[.string s, .int .i64 v]) (by simp [results, Tryd.results57, go_sem, k0, k1]) rfl ⟨⟨s, v⟩, rfl, ⟨⟨hso, hvo.1, hvo.2⟩, by unfold vFr; rw [hsn, hvl]; rfl⟩, RE.out, GE.out⟩
def FrmsOutV (k g p : Nat) (A : Option Addr) (n cap : Nat) (bs : List By) (w : World) (e : Ending) (w' : World) : Prop :=
  ∃ (v : Value) (xs : List Frm) (p' : Nat), e = .returned v ∧ w'.ownsRow w.heap.size 45 2 v xs.length (xs.flatMap Enc.cells) ∧ (∀ x ∈ xs, FV x) ∧ xs.length ≤ 12 ∧ p' ≤ p + k ∧ Rd w' g p' A n cap bs ∧ Gx g w w'
set_option maxRecDepth 100000 in
theorem goodTraceV_any (g p : Nat) (A : Option Addr) (n cap : Nat) (bs : List By) (w : World) (hp : p ≤ 800000) (hR : Rd w g p A n cap bs) :
    Calls Tryd.prog 33 #[.pointer (some ⟨g, 0, none⟩)] w (FrmsOutV 20 g p A n cap bs w) := by
  have hgw := hR.lt
  obtain ⟨i0, hi, hz0, hz1, hz2⟩ := info_parts infoFrame
  have HA : Hid (0 < n → ∀ a, A = some a → a.block < w.heap.size) := fun hn a e => hR.sl.under hn a e
  go_enter Tryd.func33, Tryd.ntmps33
  go_wp2_with fail
  have L0 := Le.new w (.cells #[] 45)
  have O0 := own_empty (w := w) (base := w.heap.size) (g := w.heap.size) (e := 45) (size := 2) (Nat.le_refl _) rfl
  have zs : (w.alloc (.cells #[] 45)).heap.size = w.heap.size + 1 := by simp
  have R0 := hR.le L0
  generalize w.alloc (.cells #[] 45) = W at *
  refine (one_lit [3, 4, 2, 5, 1, 0, 6] 7 _ _ g p A n cap bs W _ rfl rfl (by decide) (by decide) (by intro x hx; simp at hx; constructor <;> omega) (by omega) zs.symm R0).mono ?_
  rintro e w1 ⟨u, rfl, hu, R1, G1⟩
  have hu1 : 0 ≤ u ∧ u ≤ 6 := by simp at hu; omega
  have O1 := O0.kept G1 (.inr (fun e => by have e1 : w.heap.size = g := (by injection e); omega))
  have G := (Gx.of_le (g := g) L0).trans G1
  clear hu R0 O0 L0 G1 zs
  go_wp2
  go_loopw [3, 4] (fun v i wr => ∃ (L : List Frm) (k p' : Nat), i = .int .i64 k ∧ k ≤ 6 ∧ p' + 3 * k ≤ p + 19 ∧ (∀ x ∈ L, FV x) ∧ L.length ≤ 12 ∧ wr.ownsRow w.heap.size 45 2 v L.length (L.flatMap Enc.cells) ∧ w.heap.size < wr.heap.size ∧ Rd wr g p' A n cap bs ∧ Gx g w wr) (fun _ i _ => (intOf i).toNat)
  case atStart =>
    obtain ⟨k, rfl⟩ := Int.eq_ofNat_of_zero_le hu1.1
    exact ⟨[], k, p + 1, rfl, by omega, by omega, by simp, by simp, O1, (O1.lt _ rfl).2, R1, G⟩
  case round =>
    clear O1 R1 G hu1
    obtain ⟨L, k, p', rfl, hk, hp', hL, hl, O, z, R, G⟩ := hrel
    by_cases h0 : 0 < k
    · have hk0 : (0 : Int) < k := by omega
      obtain ⟨j, rfl⟩ : ∃ j, k = j + 1 := ⟨k - 1, by omega⟩
      go_wp2_with fail
      refine (aFrameV_any g p' A n cap bs wr (by omega) R).mono ?_
      rintro e w2 ⟨f, rfl, hf, R2, hg2⟩
      have O2 := O.kept hg2 (.inr (fun e => by have := (O.lt _ e).1; omega))
      have z2 := Nat.lt_of_lt_of_le z hg2.size
      have G2 := G.trans hg2
      clear O R G hg2 z
      go_wp2_with fail
      obtain ⟨d0, d1, zd, hl2⟩ := boxF w2 f 45
      have R2' := R2.le hl2
      have O2' := own_le O2 hl2
      have G2' := G2.trans (Gx.of_le hl2)
      have zz : w2.heap.size + 1 = (w2.alloc (.cells #[.string f.fn, .int .i64 f.line] 45)).heap.size := by simp
      generalize w2.alloc (.cells #[.string f.fn, .int .i64 f.line] 45) = W2 at *
      have hfg : w2.heap.size ≠ g := by have := R2.lt; omega
      have HNB0 : Hid (_ ≠ some w2.heap.size) := fun e => by have := (O2.lt _ e).2; omega
      clear R2 O2 G2 hl2
      refine (one_lit [1, 1, 2, 3] 4 _ _ g (p' + 2) A n cap bs W2 _ rfl rfl (by decide) (by decide) (by intro x hx; simp at hx; constructor <;> omega) (by omega) zz R2').mono ?_
      rintro e w3 ⟨u, rfl, hu, R3, hg3⟩
      have hu1 : 0 ≤ u ∧ u ≤ 3 := by simp at hu; omega
      have O3 := O2'.kept hg3 (.inr (fun e => by have := (O2'.lt _ e).1; omega))
      have z3 := Nat.lt_of_lt_of_le zd hg3.size
      have G3 := G2'.trans hg3
      replace d0 := (hg3.cell (k := w2.heap.size) (o := 0) zd hfg).trans d0
      replace d1 := (hg3.cell (k := w2.heap.size) (o := 1) zd hfg).trans d1
      clear hu O2' R2' G2' hg3 zd zz
      generalize hB : w2.heap.size = B at *
      clear hB
      generalize wr = WR at *
      go_wp2
      go_loopw [3, 6] (fun v i wr => ∃ (L : List Frm) (q : Nat), i = .int .i64 q ∧ q ≤ 3 ∧ (∀ x ∈ L, FV x) ∧ L.length ≤ 12 ∧ wr.ownsRow w.heap.size 45 2 v L.length (L.flatMap Enc.cells) ∧ Rd wr g (p' + 3) A n cap bs ∧ Gx g w wr ∧ wr.cell? ⟨B, 0, none⟩ = some (.string f.fn) ∧ wr.cell? ⟨B, 1, none⟩ = some (.int .i64 f.line) ∧ B < wr.heap.size ∧ Hid (v.ownBlock ≠ some B)) (fun _ i _ => (intOf i).toNat)
      case atStart =>
        obtain ⟨q, rfl⟩ := Int.eq_ofNat_of_zero_le hu1.1
        exact ⟨L, q, rfl, by omega, hL, hl, O3, R3, G3, d0, d1, z3, HNB0⟩
      case round =>
        clear O3 R3 G3 d0 d1 z3 hu1 hL hl
        obtain ⟨L, q, rfl, hq, hL, hl, O, R, G, d0, d1, zB, HNB⟩ := hrel
        obtain ⟨A1, c1, rfl⟩ := own_form O
        have hwj : IntKind.i64.wrap ((j : Int) + 1 - 1) = (j : Int) := by rw [Int.add_sub_cancel]; exact IntWalk.i64_in _ (by omega)
        cases q with
        | zero =>
          clear hq d0 d1
          go_wp2
          go_roundw
          case rel => exact ⟨L, j, p' + 3, by go_num, by omega, by omega, hL, hl, O, by omega, R, G⟩
          case measure => (simp [intOf]) <;> omega
        | succ t =>
          have hwt : IntKind.i64.wrap ((t : Int) + 1 - 1) = (t : Int) := by rw [Int.add_sub_cancel]; exact IntWalk.i64_in _ (by omega)
          by_cases h12 : L.length < 12
          · have hbk := O.lt
            go_wp2_with (at_builtin; refine wpList_append_sl rfl _ _ 23 rfl w.heap.size 45 i0 _ 24 Tryd.underlying23 hi hz0 hz1 hz2 rfl _ _ L rfl (O.alloc _) _ 1 1 [f] rfl (sl_one f rfl hf.1 rfl) (by unfold maxLen; omega) (by omega) (Nat.le_trans (by omega) (Le.new wr _).size) ?_; intro v1 w4 O4 hg4 hbl; have HNB4 : Hid (v1.ownBlock ≠ some B) := (fun e => by rcases hbl with h | h; exact HNB.out (h.symm.trans e); (have e2 := h.symm.trans e; simp at e2; omega)); have LA := Le.new wr (.cells #[.string f.fn, .int .i64 f.line] 45); have R4 := (R.le LA).grown hg4 (fun e => by have h := (hbk _ e).1; omega) (fun hn a e e2 => by have h := (hbk _ e2).1; have := HA.out hn a e; omega); have G4 := (G.trans (Gx.of_le LA)).grown hg4 (fun k hk => by have h := (hbk _ hk).1; omega); have z4 := Nat.lt_of_lt_of_le (Nat.lt_of_lt_of_le zB LA.size) hg4.size; have e0 := hg4.cell (a := ⟨B, 0, none⟩) ((LA.cell zB).trans d0) (fun e => HNB.out e.symm); have e1 := hg4.cell (a := ⟨B, 1, none⟩) ((LA.cell zB).trans d1) (fun e => HNB.out e.symm); clear hg4 LA)
            go_roundw
            case rel => exact ⟨L ++ [f], t, by go_num, by omega, (fun y hy => by rcases List.mem_append.1 hy with h | h; exact hL y h; simp at h; subst h; exact hf), by simp; omega, by rw [List.length_append]; exact O4, R4, G4, e0, e1, z4, HNB4⟩
            case measure => (simp [intOf]) <;> omega
          · have h12' : L.length = 12 := by omega
            clear d0 d1
            go_wp2
            go_roundw
            case rel => exact ⟨L, j, p' + 3, by go_num, by omega, by omega, hL, hl, O, by omega, R, G⟩
            case measure => (simp [intOf]) <;> omega
    · obtain rfl : k = 0 := by omega
      go_wp2
      go_ret
      exact ⟨_, L, p', rfl, O, hL, hl, by omega, R, G⟩

theorem drawTraceText_any (A : Option Addr) (n cap : Nat) (bs : List By) (w : World) (hR : Sl w A n cap bs) : Calls Tryd.prog 8 #[.slice A n cap] w (DrT w) := by
  go_enter Tryd.func8, Tryd.ntmps8
  go_wp2_with fail
  refine (newReader_any A n cap bs w hR).mono ?_
  rintro e w1 ⟨g, A1, n1, k1, bs1, rfl, hg, R1, hle⟩
  go_wp2_with fail
  refine (someTrace_any g 0 A1 n1 k1 bs1 w1 (by omega) R1).mono ?_
  rintro e w2 ⟨v, xs, p1, rfl, O, hok, hl, hp1, R, G⟩
  obtain ⟨B, c, rfl⟩ := own_form O
  have S := Lib.hid (own_sl O hok)
  have L2 := Gx.le hle G hg
  clear O hok R G R1 hle
  go_wp2
  go_ret
  exact ⟨_, _, _, xs, rfl, S.out, hl, L2⟩
def DrPT (w : World) (e : Ending) (w' : World) : Prop := ∃ s : ByteArray, e = .returned (.string s) ∧ s.size ≤ 1000 ∧ Le w w'
set_option maxRecDepth 100000 in
theorem drawParseTrace_any (A : Option Addr) (n cap : Nat) (bs : List By) (w : World) (hR : Sl w A n cap bs) : Calls Tryd.prog 14 #[.slice A n cap] w (DrPT w) := by
  go_enter Tryd.func14, Tryd.ntmps14
  go_wp2_with fail
  refine (newReader_any A n cap bs w hR).mono ?_
  rintro e w1 ⟨g, A1, n1, k1, bs1, rfl, hg, R1, hle⟩
  go_wp2_with fail
  refine (goodTraceV_any g 0 A1 n1 k1 bs1 w1 (by omega) R1).mono ?_
  rintro e w2 ⟨v, xs, p1, rfl, O, hok, hl, hp1, R2, G⟩
  obtain ⟨B, c, rfl⟩ := own_form O
  have S := own_sl O (fun x hx => (hok x hx).1)
  have hv := vTr_of (fun f hf => (hok f hf).2) hl
  have hlen : (tb (trB (foldL xs))).size ≤ 180 := by have := trX_len xs; rw [trX_of hv] at this; exact this
  have L2 := Gx.le hle G hg
  clear O hok G R1 hle
  go_wp2_with fail
  refine (straceText_any B _ c xs w2 S hv).mono ?_
  rintro e w3 ⟨rfl, hle⟩
  have R3 := R2.le hle
  have L3 := L2.trans hle
  clear R2 L2 hle S hv
  generalize tb (trB (foldL xs)) = s at *
  go_wp2_with fail
  refine (pick_any 3 g p1 A1 n1 k1 bs1 w3 (by omega) (by omega) (by omega) R3).mono ?_
  rintro e w4 ⟨kk, rfl, h0, h1, R4, hg4⟩
  have L4 := Gx.le L3 hg4 hg
  clear R3 L3 hg4
  by_cases hk0 : kk = 0
  · have hkb : (kk == 0) = true := by rw [hk0]; rfl
    go_wp2_with fail
    refine (mutate_any s g (p1 + 1) A1 n1 k1 bs1 w4 (by omega) (by omega) R4).mono ?_
    rintro e w5 ⟨s2, p5, rfl, hs2, hp5, R5, hg5⟩
    have L5 := Gx.le L4 hg5 hg
    clear R4 L4 hg5 R5
    go_wp2
    go_ret
    exact ⟨s2, rfl, by omega, L5⟩
  · have hkb : (kk == 0) = false := by rw [beq_eq_false_iff_ne]; exact hk0
    clear R4
    go_wp2
    go_ret
    exact ⟨s, rfl, by omega, L4⟩
end

section
theorem equalTrace_self (A B : Option Addr) (n c d : Nat) (xs : List Frm) (w : World) (hR : Sl w A n c xs) (hS : Sl w B n d xs) :
    Calls Tryd.prog 13 #[.slice A n c, .slice B n d] w fun e w' => e = .returned (.bool true) ∧ Le w w' := by
  obtain rfl := hR.len
  have hm := hR.n_le
  have hb : ((xs.length : Int) != (xs.length : Int)) = false := by simp
  go_enter Tryd.func13, Tryd.ntmps13
  go_wp2
  go_loopw [5] (fun i wr => ∃ k : Nat, k ≤ xs.length ∧ i = .int .i64 k ∧ Le w wr) (fun i _ => xs.length - (intOf i).toNat)
  case atStart => exact ⟨0, Nat.zero_le _, rfl, Le.refl _⟩
  case round =>
    obtain ⟨k, hk, rfl, hle⟩ := hrel
    have hRr := hR.le hle
    have hSr := hS.le hle
    clear hR hS
    by_cases hlt : k < xs.length
    · obtain ⟨b, off, rfl, hb, hcell0, hcell1, _⟩ := hRr.frm_at hlt
      obtain ⟨b2, off2, rfl, hb2, hdell0, hdell1, _⟩ := hSr.frm_at hlt
      have E0 := cell_ext hb hcell0
      have F0 := cell_ext hb2 hdell0
      have E1 := cell_ext hb hcell1
      have F1 := cell_ext hb2 hdell1
      have q0 : (xs[k].fn.toList == xs[k].fn.toList) = true := by simp
      have q1 : (xs[k].line == xs[k].line) = true := by simp
      go_wp2_with fail
      refine wp_region_ext (by kernel_rfl) (by kernel_rfl) ?_
      repeat (go_big_quiet_step (fail))
      refine wpQuiet_nil ?_
      intro _ hw'
      obtain ⟨g, rfl⟩ := hw'
      have hw1 := Le.ext wr g
      generalize wr.ext g = W2 at *
      go_wp2
      go_roundw
      case rel => exact ⟨k + 1, by omega, by go_num, hle.trans hw1⟩
      case measure => simp [intOf]; omega
    · go_wp2
      go_ret
      exact ⟨rfl, hle⟩
end

section
theorem pre_small {m k : Nat} (hm : m < 1000) (hk : k < (numL m).length) : dv ((numL m).take k) ≤ 99 := by
  have h1 := numL_sz ⟨m, hm⟩
  have h2 := numL_pre ⟨m, hm⟩
  dsimp only at h1 h2
  rcases Nat.lt_or_ge k 3 with h3 | h3
  · match k, h3 with
    | 0, _ => rw [List.take_zero]; show 0 ≤ 99; omega
    | 1, _ => have := h2.1; omega
    | 2, _ => exact h2.2 (by omega)
  · omega
theorem dv_snoc (l : List UInt8) (c : UInt8) : dv (l ++ [c]) = 10 * dv l + (c.toNat - 48) := by unfold dv; rw [List.foldl_append]; rfl
theorem rdN_digit {m : Nat} (hm : m ≤ 1000) {l : List UInt8} {c : UInt8} (hc : c ∈ l) (h : c.toNat < 48 ∨ 57 < c.toNat) : rdN m l = -1 := rdN_no fun n hn e => by
  rw [← e] at hc; exact numL_not (by omega) h hc
theorem rdN_long {l : List UInt8} {k : Nat} (hk : k < l.length) (h : 99 < dv (l.take k)) : rdN 1000 l = -1 := rdN_no fun n hn e => by
  subst e
  have := pre_small hn hk
  omega
theorem rdN_nil (m : Nat) : rdN m [] = -1 := by
  unfold rdN
  rw [if_neg]
  rintro ⟨h, -⟩
  exact absurd h (by decide)
theorem rdN_eq {m : Nat} {l : List UInt8} (h : numL (dv l) = l) (hd : dv l < m) : rdN m l = dv l := by unfold rdN; rw [if_pos ⟨h, hd⟩]
theorem rdN_ne {m : Nat} {l : List UInt8} (h : numL (dv l) ≠ l) : rdN m l = -1 := by unfold rdN; rw [if_neg (fun e => h e.1)]
theorem empT {s : ByteArray} : (s.toList.isEmpty = true ↔ bl s = []) := by
  constructor
  · intro h
    have h2 : s.toList = [] := List.isEmpty_iff.1 h
    by_cases hb : bl s = []
    · exact hb
    · have := str_ne (a := s) (b := ByteArray.empty) (fun e => hb (by rw [e]; rfl))
      rw [h2] at this
      exact absurd this (by decide +kernel)
  · intro h
    have : s = ByteArray.empty := bl_inj (by rw [h]; rfl)
    rw [this]; decide +kernel
theorem empF {s : ByteArray} (h : bl s ≠ []) : s.toList.isEmpty = false := by
  cases e : s.toList.isEmpty
  · rfl
  · exact absurd (empT.1 e) h
theorem take_snoc {s : ByteArray} {k : Nat} (h : k < s.size) : (bl s).take (k + 1) = (bl s).take k ++ [s[k]] := by
  rw [List.take_succ_eq_append_getElem (by rw [bl_len]; exact h)]; rfl
set_option maxHeartbeats 2000000 in
set_option maxRecDepth 100000 in
theorem readLine_any (s : ByteArray) (w : World) (hs : s.size ≤ 1048576) :
    Calls Tryd.prog 58 #[.string s] w fun e w' => e = .returned (.int .i64 (rdN 1000 (bl s))) ∧ w = w' := by
  obtain ⟨z, hz⟩ : ∃ z, Hid (rdN 1000 (bl s) = z) := ⟨_, Lib.hid rfl⟩
  go_enter Tryd.func58, Tryd.ntmps58
  go_wp2
  go_loopw [3, 4] (fun v i wr => ∃ k d : Nat, k ≤ s.size ∧ i = .int .i64 k ∧ v = .int .i64 d ∧ d = dv ((bl s).take k) ∧ d ≤ 999 ∧ w = wr) (fun _ i _ => s.size - (intOf i).toNat)
  case atStart => exact ⟨0, 0, Nat.zero_le _, rfl, rfl, rfl, by omega, rfl⟩
  case round =>
    obtain ⟨k, d, hk, rfl, rfl, hd, hd9, rfl⟩ := hrel
    by_cases hlt : k < s.size
    · have hki : (k : Int) < (s.size : Int) := by omega
      have hmem : s[k] ∈ bl s := by rw [← bl_at hlt]; exact List.getElem_mem _
      have hc : (s[k].toNat : Int) ≤ 255 := by have := UInt8.toNat_lt s[k]; omega
      have hc0 : (0 : Int) ≤ (s[k].toNat : Int) := by omega
      by_cases h48 : s[k].toNat < 48
      · have hb : decide ((s[k].toNat : Int) < 48) = true := decide_eq_true (by omega)
        have hr : Hid (z = -1) := by show _ = _; rw [← hz.out]; exact rdN_digit (by omega) hmem (.inl h48)
        clear hd
        go_wp2
        go_ret
        exact ⟨by rw [hz.out, hr.out]; rfl, rfl⟩
      · have hb : decide ((s[k].toNat : Int) < 48) = false := decide_eq_false (by omega)
        by_cases h57 : 57 < s[k].toNat
        · have hb2 : decide ((57 : Int) < (s[k].toNat : Int)) = true := decide_eq_true (by omega)
          have hr : Hid (z = -1) := by show _ = _; rw [← hz.out]; exact rdN_digit (by omega) hmem (.inr h57)
          clear hd
          go_wp2
          go_ret
          exact ⟨by rw [hz.out, hr.out]; rfl, rfl⟩
        · have hb2 : decide ((57 : Int) < (s[k].toNat : Int)) = false := decide_eq_false (by omega)
          by_cases h99 : 99 < d
          · have hb3 : decide ((99 : Int) < (d : Int)) = true := decide_eq_true (by omega)
            have hr : Hid (z = -1) := by show _ = _; rw [← hz.out]; exact rdN_long (by rw [bl_len]; exact hlt) (by rw [← hd]; exact h99)
            clear hd
            go_wp2
            go_ret
            exact ⟨by rw [hz.out, hr.out]; rfl, rfl⟩
          · have hb3 : decide ((99 : Int) < (d : Int)) = false := decide_eq_false (by omega)
            have hsn : Hid (10 * d + (s[k].toNat - 48) = dv ((bl s).take (k + 1))) := by show _ = _; rw [take_snoc hlt, dv_snoc, ← hd]
            have hw1 : IntKind.u8.wrap ((s[k].toNat : Int) - 48) = ((s[k].toNat - 48 : Nat) : Int) := by rw [IntKind.wrap_u8]; omega
            have hw2 : IntKind.i64.wrap (10 * (d : Int)) = 10 * (d : Int) := IntWalk.i64_in _ (by omega)
            have hw3 : IntKind.i64.wrap ((s[k].toNat - 48 : Nat) : Int) = ((s[k].toNat - 48 : Nat) : Int) := IntWalk.i64_in _ (by omega)
            have hw4 : IntKind.i64.wrap (10 * (d : Int) + ((s[k].toNat - 48 : Nat) : Int)) = ((10 * d + (s[k].toNat - 48) : Nat) : Int) := by rw [IntWalk.i64_in _ (by omega)]; omega
            have h999 : 10 * d + (s[k].toNat - 48) ≤ 999 := by omega
            clear hd
            go_wp2
            go_roundw
            case rel => exact ⟨k + 1, 10 * d + (s[k].toNat - 48), by omega, by go_num, by first | rfl | exact congrArg (Value.int .i64) hw4, hsn.out, h999, trivial⟩
            case measure => (simp [intOf]) <;> omega
    · have hki : ¬ (k : Int) < (s.size : Int) := by omega
      obtain rfl : k = s.size := by omega
      have htk : (bl s).take s.size = bl s := List.take_of_length_le (by rw [bl_len]; omega)
      rw [htk] at hd
      by_cases he : bl s = []
      · have hb := empT.2 he
        have hr : Hid (z = -1) := by show _ = _; rw [← hz.out, he]; exact rdN_nil _
        clear hd he htk
        go_wp2
        go_ret
        exact ⟨by rw [hz.out, hr.out]; rfl, rfl⟩
      · have hb := empF he
        have HN := Lib.hid (number3_any d w (by omega))
        by_cases hq : numL d = bl s
        · have hq2 : tb (numL d) = s := by rw [hq, tb_bl]
          have hr : Hid (z = d) := by show _ = _; rw [← hz.out, hd]; exact rdN_eq (by rw [← hd]; exact hq) (by omega)
          rw [hq2] at HN
          have hb2 : (s.toList == s.toList) = true := by simp
          have hb3 : (s.toList != s.toList) = false := by simp
          clear hd he htk hq hq2
          go_wp2_with fail
          refine HN.out.mono ?_
          rintro e w' ⟨rfl, rfl⟩
          go_wp2
          go_ret
          exact ⟨by rw [hz.out, hr.out]; rfl, rfl⟩
        · have hq2 : s ≠ tb (numL d) := fun e => hq (by rw [e, bl_tb])
          have hr : Hid (z = -1) := by show _ = _; rw [← hz.out]; exact rdN_ne (by rw [← hd]; exact hq)
          have hb2 : (s.toList == (tb (numL d)).toList) = false := str_ne hq2
          have hb3 : (s.toList != (tb (numL d)).toList) = true := by simp only [bne, hb2]; rfl
          generalize tb (numL d) = u at *
          clear hd he htk hq hq2
          go_wp2_with fail
          refine HN.out.mono ?_
          rintro e w' ⟨rfl, rfl⟩
          go_wp2
          go_ret
          exact ⟨by rw [hz.out, hr.out]; rfl, rfl⟩
end
end Go.Proofs.YtnjckloodkdbpaaDoor
