/- the draws of texts of trees; mutate; the laws FnTreeText, FnParseTree -/
import Derived.Test.YtjkadmbcnlelhaaTB
import Derived.Test.YtjkadmbcnlelhaaTtJ
import Derived.Test.YtjkadmbcnlelhaaLE
import Derived.Test.YtjkadmbcnlelhaaRZ
namespace Go.Proofs.Ytjkadmbcnlelhaa
open Go.RowKit
theorem names8_ok : ∀ i : Fin 8, ∀ s, names8[i.1]? = some s → okName s = true := by
  intro i s h
  have : ∀ i : Fin 8, okName (names8[i.1]'(by have := i.2; show i.1 < 8; omega)) = true := by decide +kernel
  have h2 := this i
  rw [List.getElem?_eq_getElem (by have := i.2; show i.1 < 8; omega)] at h
  injection h with h
  rw [← h]; exact h2
theorem names8_ne {i j : Nat} (hi : i < 8) (hj : j < 8) (hne : i ≠ j) {s : ByteArray} (h1 : names8[i]? = some s) (h2 : names8[j]? = some s) : False := by
  have : ∀ i j : Fin 8, i.1 ≠ j.1 → ((names8[i.1]'(by have := i.2; show i.1 < 8; omega)).data.toList == (names8[j.1]'(by have := j.2; show j.1 < 8; omega)).data.toList) = false := by decide +kernel
  have h := this ⟨i, hi⟩ ⟨j, hj⟩ hne
  rw [List.getElem?_eq_getElem (by show i < 8; omega)] at h1
  rw [List.getElem?_eq_getElem (by show j < 8; omega)] at h2
  injection h1 with h1
  injection h2 with h2
  simp only [h1, h2] at h
  simp at h
theorem gt_ok {k : Nat} {xs : List Cls} (h : GT k xs) (h1 : 1 ≤ k) (h8 : k ≤ 8) : okTree xs = true := by
  have hl := h.1
  have := okFrom_mk (all := xs) (by omega) (fun i hi => ?_) xs.length 0 (by omega)
  · simpa [okTree] using this
  · obtain ⟨hn, h0, hp⟩ := h.2 i hi
    have hok := names8_ok ⟨i, by omega⟩ _ hn
    have hf : findN (xs.take i) xs[i].name 0 = -1 := by
      rcases findN_spec xs[i].name (xs.take i) 0 with ⟨e, _⟩ | ⟨j, hj, _, e, _⟩
      · exact e
      · rw [List.length_take] at hj
        rw [List.getElem_take] at e
        have hj2 := (h.2 j (by omega)).1
        rw [e] at hj2
        exact (names8_ne (by omega) (by omega) (by omega) hn hj2).elim
    unfold badCls
    rw [hok, hf]
    rcases Nat.eq_zero_or_pos i with e | e
    · rw [h0 e]; subst e; rfl
    · have hpp := hp e
      rw [decide_eq_true hpp.1, decide_eq_true hpp.2]
      have e1 : ((i : Int) == 0) = false := by rw [beq_eq_false_iff_ne]; omega
      rw [e1]; simp
/-- a text that was drawn -/
def MutOut (l k g p : Nat) (A : Option Addr) (n cap : Nat) (bs : List By) (w : World) (e : Ending) (w' : World) : Prop :=
  ∃ (t : ByteArray) (p' : Nat), e = .returned (.string t) ∧ t.size ≤ l ∧ p' ≤ p + k ∧ Rd w' g p' A n cap bs ∧ Gx g w w'
def nine : List ByteArray := [⟨#[48]⟩, ⟨#[49]⟩, ⟨#[32]⟩, ⟨#[58]⟩, ⟨#[97]⟩, ⟨#[40]⟩, ⟨#[41]⟩, ⟨#[42]⟩, ⟨#[10]⟩]
def five : List ByteArray := [⟨#[48]⟩, ⟨#[32]⟩, ⟨#[10]⟩, ⟨#[120]⟩, ⟨#[41]⟩]
theorem nine_one : ∀ x ∈ nine, x.size = 1 := by
  intro x hx
  simp [nine] at hx
  rcases hx with rfl | rfl | rfl | rfl | rfl | rfl | rfl | rfl | rfl <;> rfl
theorem five_one : ∀ x ∈ five, x.size = 1 := by
  intro x hx
  simp [five] at hx
  rcases hx with rfl | rfl | rfl | rfl | rfl <;> rfl
set_option maxHeartbeats 4000000 in
set_option maxRecDepth 100000 in
theorem mutate_any (s : ByteArray) (g p : Nat) (A : Option Addr) (n cap : Nat) (bs : List By) (w : World) (hs : s.size ≤ 2000) (hp : p ≤ 900000) (hR : Rd w g p A n cap bs) :
    Calls Try.prog 31 #[.pointer (some ⟨g, 0, none⟩), .string s] w (MutOut (s.size + 1) 3 g p A n cap bs w) := by
  have hw1 : IntKind.i64.wrap ((s.size : Int) + 1) = (s.size : Int) + 1 := IntWalk.i64_in _ (by omega)
  go_enter Try.func31, Try.ntmps31
  go_wp2_with fail
  refine (pick_any ((s.size : Int) + 1) g p A n cap bs w (by omega) (by omega) (by omega) hR).mono ?_
  rintro e w1 ⟨y, rfl, hy0, hy1, R1, hg1⟩
  obtain ⟨k, rfl⟩ := Int.eq_ofNat_of_zero_le hy0
  have hk : k ≤ s.size := by rcases hy1 with h | h <;> omega
  clear hy1
  go_wp2_with fail
  refine (pick_any 5 g (p + 1) A n cap bs w1 (by omega) (by omega) (by omega) R1).mono ?_
  rintro e w2 ⟨z, rfl, hz0, hz1, R2, hg2⟩
  obtain ⟨q, rfl⟩ := Int.eq_ofNat_of_zero_le hz0
  have hq : q ≤ 4 := by rcases hz1 with h | h <;> omega
  have G2 := hg1.trans hg2
  clear hz1 hg1 hg2 R1
  have hk0 : (0 : Int) ≤ (k : Int) := by omega
  have hk1 : (k : Int) ≤ (s.size : Int) := by omega
  have hse : (s.extract 0 k).size ≤ s.size := by rw [ByteArray.size_extract]; omega
  have HEND : Hid (MutOut (s.size + 1) 3 g p A n cap bs w (.returned (.string s)) w2) := ⟨s, _, rfl, by omega, by omega, R2, G2⟩
  have HCUT : Hid (MutOut (s.size + 1) 3 g p A n cap bs w (.returned (.string (s.extract 0 k))) w2) := ⟨_, _, rfl, by omega, by omega, R2, G2⟩
  have hcase : q = 0 ∨ q = 1 ∨ q = 2 ∨ q = 3 ∨ q = 4 := by omega
  by_cases h01 : q = 0 ∨ q = 1
  · by_cases hkl : k < s.size
    · have b1 : (k : Int) < (s.size : Int) := by omega
      have b2 : IntKind.i64.wrap ((k : Int) + 1) = (k : Int) + 1 := IntWalk.i64_in _ (by omega)
      have b3 : (k : Int) + 1 ≤ (s.size : Int) := by omega
      have b4 : (0 : Int) ≤ (k : Int) + 1 := by omega
      have hs2 : (s.extract (k + 1) s.size).size = s.size - (k + 1) := by rw [ByteArray.size_extract]; omega
      have hs1 : (s.extract 0 k).size = k := by rw [ByteArray.size_extract]; omega
      clear HEND HCUT hcase hse
      have HQ : Hid (q = 0 ∨ q = 1) := h01
      have RD := R2.le (Le.refl w2).drew
      have GD := G2.trans (Gx.of_le (g := g) (Le.refl w2).drew)
      have fin : ∀ (w' : World) (K : Prop), K → K := fun _ _ h => h
      rcases h01 with rfl | rfl
      all_goals
        go_wp2_with fail
        refine wp_region_noPanic ?_
        refine wp_region_Z (fun _ => True) [] (by kernel_rfl) ?_
        refine wpAnyZ_take (i := 0) (v := ?_) rfl (by kernel_rfl) (fun _ _ _ h => h) (Or.inl ⟨by rfl, ?_⟩) (trivial) ?_
        rotate_left 1
        · (intro w hSw; (try dsimp only at hSw); go_simp; try with_reducible rfl)
        try simp only [Act.put, List.setIfInBounds_toArray, List.set_cons_zero, List.set_cons_succ]
        refine wpAnyZ_take (i := 1) (v := ?_) rfl (by kernel_rfl) (fun _ _ _ h => h) (Or.inl ⟨by rfl, ?_⟩) (trivial) ?_
        rotate_left 1
        · (intro w hSw; (try dsimp only at hSw); go_simp; try with_reducible rfl)
        try simp only [Act.put, List.setIfInBounds_toArray, List.set_cons_zero, List.set_cons_succ]
        refine wpAnyZ_take (i := 2) (v := ?_) rfl (by kernel_rfl) (fun _ _ _ h => h) (Or.inl ⟨by rfl, ?_⟩) (trivial) ?_
        rotate_left 1
        · (intro w hSw; (try dsimp only at hSw); go_simp; try with_reducible rfl)
        try simp only [Act.put, List.setIfInBounds_toArray, List.set_cons_zero, List.set_cons_succ]
        refine wpAnyZ_take (i := 3) (v := ?_) rfl (by kernel_rfl) (fun _ _ _ h => h) (Or.inl ⟨by rfl, ?_⟩) (trivial) ?_
        rotate_left 1
        · (intro w hSw; (try dsimp only at hSw); go_simp; try with_reducible rfl)
        try simp only [Act.put, List.setIfInBounds_toArray, List.set_cons_zero, List.set_cons_succ]
        refine wpAnyZ_take (i := 7) (v := ?_) rfl (by kernel_rfl) (fun _ _ _ h => h) (Or.inl ⟨by rfl, ?_⟩) (trivial) ?_
        rotate_left 1
        · (intro w hSw; (try dsimp only at hSw); go_simp; try with_reducible rfl)
        try simp only [Act.put, List.setIfInBounds_toArray, List.set_cons_zero, List.set_cons_succ]
        refine wpAnyZ_take (i := 8) (v := ?_) rfl (by kernel_rfl) (fun _ _ _ h => h) (Or.inl ⟨by rfl, ?_⟩) (trivial) ?_
        rotate_left 1
        · (intro w hSw; (try dsimp only at hSw); go_simp; try with_reducible rfl)
        try simp only [Act.put, List.setIfInBounds_toArray, List.set_cons_zero, List.set_cons_succ]
        refine wpAnyZ_take (i := 9) (v := ?_) rfl (by kernel_rfl) (fun _ _ _ h => h) (Or.inl ⟨by rfl, ?_⟩) (trivial) ?_
        rotate_left 1
        · (intro w hSw; (try dsimp only at hSw); go_simp; try with_reducible rfl)
        try simp only [Act.put, List.setIfInBounds_toArray, List.set_cons_zero, List.set_cons_succ]
        refine wpAnyZ_take (i := 10) (v := ?_) rfl (by kernel_rfl) (fun _ _ _ h => h) (Or.inl ⟨by rfl, ?_⟩) (trivial) ?_
        rotate_left 1
        · (intro w hSw; (try dsimp only at hSw); go_simp; try with_reducible rfl)
        try simp only [Act.put, List.setIfInBounds_toArray, List.set_cons_zero, List.set_cons_succ]
        refine wpAnyZ_one (i := 4) (by kernel_rfl) (ReadyZ.mk rfl (fun K hK => ?_))
        go_simp
        refine hK.out _ _ (fun _ => trivial) ?_
        clear hK K
        try simp only [Act.put, List.setIfInBounds_toArray, List.set_cons_zero, List.set_cons_succ]
        refine wpAnyZ_one (i := 5) (by kernel_rfl) (ReadyZ.mk rfl (fun K hK => ?_))
        go_simp
        go_at_call 40
        refine (of_lit nine 9 _ _ g (p + 1 + 1) A n cap bs w2.drew _ rfl rfl (by decide) (by decide) (fun x hx => by show x.size ≤ 9223372036854775807; rw [nine_one x hx]; decide) (by omega) rfl RD).mono ?_
        rintro e w3 ⟨x, rfl, hx, R3, hg3⟩
        have hx1 := nine_one x hx
        have G3 := GD.trans hg3
        clear hx hg3
        refine hK.out _ _ (fun _ => trivial) ?_
        clear hK K
        try simp only [Act.put, List.setIfInBounds_toArray, List.set_cons_zero, List.set_cons_succ]
        have ha : ((s.extract 0 k).size : Int) ≤ 8388608 := by omega
        have hb : (x.size : Int) ≤ 8388608 := by omega
        have hc : ((s.extract 0 k ++ x).size : Int) ≤ 8388608 := by rw [ByteArray.size_append]; omega
        have hd : ((s.extract (k + 1) s.size).size : Int) ≤ 8388608 := by omega
        have HSZ : Hid (((s.extract 0 k ++ x) ++ s.extract (k + 1) s.size).size ≤ s.size + 1) := by
          show _ ≤ _
          rw [ByteArray.size_append, ByteArray.size_append]; omega
        have hadd1 : ∀ w, (Op.stringOp .add (s.extract 0 k) x).run Try.prog w = .ok (.string (s.extract 0 k ++ x)) w := fun w => run_string_add w _ _ ha hb
        have hadd2 : ∀ w, (Op.stringOp .add (s.extract 0 k ++ x) (s.extract (k + 1) s.size)).run Try.prog w = .ok (.string (s.extract 0 k ++ x ++ s.extract (k + 1) s.size)) w := fun w => run_string_add w _ _ hc hd
        clear ha hb hc hd hs1 hs2 hx1
        generalize s.extract (k + 1) s.size = t2 at *
        obtain ⟨x3, h3⟩ : ∃ x3, s.extract 0 k ++ x = x3 := ⟨_, rfl⟩
        rw [h3] at hadd1 hadd2 HSZ
        clear h3
        generalize s.extract 0 k = t1 at *
        obtain ⟨x4, h4⟩ : ∃ x4, x3 ++ t2 = x4 := ⟨_, rfl⟩
        rw [h4] at hadd2 HSZ
        clear h4
        refine wpAnyZ_take (i := 6) (v := ?_) rfl (by kernel_rfl) (fun _ _ _ h => h) (Or.inl ⟨by rfl, ?_⟩) (trivial) ?_
        rotate_left 1
        · (intro w hSw; (try dsimp only at hSw); go_simp; try with_reducible rfl)
        try simp only [Act.put, List.setIfInBounds_toArray, List.set_cons_zero, List.set_cons_succ]
        refine wpAnyZ_take (i := 11) (v := ?_) rfl (by kernel_rfl) (fun _ _ _ h => h) (Or.inl ⟨by rfl, ?_⟩) (trivial) ?_
        rotate_left 1
        · (intro w hSw; (try dsimp only at hSw); go_simp; try with_reducible rfl)
        try simp only [Act.put, List.setIfInBounds_toArray, List.set_cons_zero, List.set_cons_succ]
        refine wpAnyZ_take (i := 12) (v := ?_) rfl (by kernel_rfl) (fun _ _ _ h => h) (Or.inl ⟨by rfl, ?_⟩) (trivial) ?_
        rotate_left 1
        · (intro w hSw; (try dsimp only at hSw); go_simp; try with_reducible rfl)
        try simp only [Act.put, List.setIfInBounds_toArray, List.set_cons_zero, List.set_cons_succ]
        refine wpAnyZ_done (by kernel_rfl) ?_ _
        refine NoPanic.normal ?_
        go_wp2
        go_ret
        exact ⟨_, _, rfl, HSZ.out, by omega, R3, G3⟩
    · have b1 : ¬ (k : Int) < (s.size : Int) := by omega
      rcases h01 with rfl | rfl
      all_goals
        go_wp2
        go_ret
        exact HEND.out
  · have h0 : q ≠ 0 := fun e => h01 (.inl e)
    have h1 : q ≠ 1 := fun e => h01 (.inr e)
    have c0 : ((q : Int) == 0) = false := by rw [beq_eq_false_iff_ne]; omega
    have c1 : ((q : Int) == 1) = false := by rw [beq_eq_false_iff_ne]; omega
    clear h01
    by_cases h2 : q = 2
    · subst h2
      go_wp2
      go_ret
      exact HCUT.out
    · have c2 : ((q : Int) == 2) = false := by rw [beq_eq_false_iff_ne]; omega
      by_cases h3 : q = 3
      · subst h3
        clear HEND HCUT
        go_wp2_with fail
        refine (of_lit five 5 _ _ g (p + 1 + 1) A n cap bs w2 _ rfl rfl (by decide) (by decide) (fun x hx => by show x.size ≤ 9223372036854775807; rw [five_one x hx]; decide) (by omega) rfl R2).mono ?_
        rintro e w3 ⟨x, rfl, hx, R3, hg3⟩
        have hx1 := five_one x hx
        have G3 := G2.trans hg3
        clear hx hg3
        have ha : (s.size : Int) ≤ 8388608 := by omega
        have hb : (x.size : Int) ≤ 8388608 := by omega
        go_wp2
        go_ret
        exact ⟨_, _, rfl, by rw [ByteArray.size_append]; omega, by omega, R3, G3⟩
      · have c3 : ((q : Int) == 3) = false := by rw [beq_eq_false_iff_ne]; omega
        clear h0 h1 h2 h3 hcase
        go_wp2
        go_ret
        exact HEND.out
end Go.Proofs.Ytjkadmbcnlelhaa
