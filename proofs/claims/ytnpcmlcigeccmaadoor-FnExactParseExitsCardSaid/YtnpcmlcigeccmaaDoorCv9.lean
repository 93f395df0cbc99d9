/- one text of TG0, TkN, TkM, TkR, TkI, Cu, AtI, XkL -/
import Derived.Test.YtnpcmlcigeccmaaDoorCv2
import Derived.Test.YtnpcmlcigeccmaaDoorCv8
import Derived.Test.YtnpcmlcigeccmaaDoorShelf
import Derived.Test.YtnpcmlcigeccmaaDoorCv1
import Derived.Lib.AtoiAllCases
import Derived.Lib.ItoaMem
import Derived.Lib.Join
namespace Go.Proofs.YtnpcmlcigeccmaaDoor
open Go.RowKit
set_option linter.unusedVariables false
section
def MutOut (l k g p : Nat) (A : Option Addr) (n cap : Nat) (bs : List By) (w : World) (e : Ending) (w' : World) : Prop :=
  ∃ (t : ByteArray) (p' : Nat), e = .returned (.string t) ∧ t.size ≤ l ∧ p' ≤ p + k ∧ Rd w' g p' A n cap bs ∧ Gx g w w'
def nine : List ByteArray := [⟨#[48]⟩, ⟨#[49]⟩, ⟨#[32]⟩, ⟨#[58]⟩, ⟨#[97]⟩, ⟨#[40]⟩, ⟨#[41]⟩, ⟨#[42]⟩, ⟨#[10]⟩]
def five : List ByteArray := [⟨#[48]⟩, ⟨#[32]⟩, ⟨#[10]⟩, ⟨#[120]⟩, ⟨#[41]⟩]
theorem nine_one : ∀ x ∈ nine, x.size = 1 := by
  intro x hx
  simp [nine] at hx
  rcases hx with rfl | rfl | rfl | rfl | rfl | rfl | rfl | rfl | rfl <;> rfl
theorem five_one : ∀ x ∈ five, x.size = 1 := by
  intro x hx
  simp [five] at hx
  rcases hx with rfl | rfl | rfl | rfl | rfl <;> rfl
set_option maxHeartbeats 4000000 in
set_option maxRecDepth 100000 in
theorem mutate_any (s : ByteArray) (g p : Nat) (A : Option Addr) (n cap : Nat) (bs : List By) (w : World) (hs : s.size ≤ 2000) (hp : p ≤ 900000) (hR : Rd w g p A n cap bs) :
    Calls Tryd.prog 39 #[.pointer (some ⟨g, 0, none⟩), .string s] w (MutOut (s.size + 1) 3 g p A n cap bs w) := by
  have hw1 : IntKind.i64.wrap ((s.size : Int) + 1) = (s.size : Int) + 1 := IntWalk.i64_in _ (by omega)
  go_enter Tryd.func39, Tryd.ntmps39
  go_wp2_with fail
  refine (pick_any ((s.size : Int) + 1) g p A n cap bs w (by omega) (by omega) (by omega) hR).mono ?_
  rintro e w1 ⟨y, rfl, hy0, hy1, R1, hg1⟩
  obtain ⟨k, rfl⟩ := Int.eq_ofNat_of_zero_le hy0
  have hk : k ≤ s.size := by rcases hy1 with h | h <;> omega
  clear hy1
  go_wp2_with fail
  refine (pick_any 5 g (p + 1) A n cap bs w1 (by omega) (by omega) (by omega) R1).mono ?_
  rintro e w2 ⟨z, rfl, hz0, hz1, R2, hg2⟩
  obtain ⟨q, rfl⟩ := Int.eq_ofNat_of_zero_le hz0
  have hq : q ≤ 4 := by rcases hz1 with h | h <;> omega
  have G2 := hg1.trans hg2
  clear hz1 hg1 hg2 R1
  have hk0 : (0 : Int) ≤ (k : Int) := by omega
  have hk1 : (k : Int) ≤ (s.size : Int) := by omega
  have hse : (s.extract 0 k).size ≤ s.size := by rw [ByteArray.size_extract]; omega
  have HEND : Hid (MutOut (s.size + 1) 3 g p A n cap bs w (.returned (.string s)) w2) := ⟨s, _, rfl, by omega, by omega, R2, G2⟩
  have HCUT : Hid (MutOut (s.size + 1) 3 g p A n cap bs w (.returned (.string (s.extract 0 k))) w2) := ⟨_, _, rfl, by omega, by omega, R2, G2⟩
  have hcase : q = 0 ∨ q = 1 ∨ q = 2 ∨ q = 3 ∨ q = 4 := by omega
  by_cases h01 : q = 0 ∨ q = 1
  · by_cases hkl : k < s.size
    · have b1 : (k : Int) < (s.size : Int) := by omega
      have b2 : IntKind.i64.wrap ((k : Int) + 1) = (k : Int) + 1 := IntWalk.i64_in _ (by omega)
      have b3 : (k : Int) + 1 ≤ (s.size : Int) := by omega
      have b4 : (0 : Int) ≤ (k : Int) + 1 := by omega
      have hs2 : (s.extract (k + 1) s.size).size = s.size - (k + 1) := by rw [ByteArray.size_extract]; omega
      have hs1 : (s.extract 0 k).size = k := by rw [ByteArray.size_extract]; omega
      clear HEND HCUT hcase hse
      have HQ : Hid (q = 0 ∨ q = 1) := h01
      have RD := R2.le (Le.refl w2).drew
      have GD := G2.trans (Gx.of_le (g := g) (Le.refl w2).drew)
      have fin : ∀ (w' : World) (K : Prop), K → K := fun _ _ h => h
      rcases h01 with rfl | rfl
      all_goals
        go_wp2_with fail
        refine wp_region_noPanic ?_
        refine wp_region_Z (fun _ => True) [] (by kernel_rfl) ?_
        refine wpAnyZ_take (i := 0) (v := ?_) rfl (by kernel_rfl) (fun _ _ _ h => h) (Or.inl ⟨by rfl, ?_⟩) (trivial) ?_
        rotate_left 1
        · (intro w hSw; (try dsimp only at hSw); go_simp; try with_reducible rfl)
        try simp only [Act.put, List.setIfInBounds_toArray, List.set_cons_zero, List.set_cons_succ]
        refine wpAnyZ_take (i := 1) (v := ?_) rfl (by kernel_rfl) (fun _ _ _ h => h) (Or.inl ⟨by rfl, ?_⟩) (trivial) ?_
        rotate_left 1
        · (intro w hSw; (try dsimp only at hSw); go_simp; try with_reducible rfl)
        try simp only [Act.put, List.setIfInBounds_toArray, List.set_cons_zero, List.set_cons_succ]
        refine wpAnyZ_take (i := 2) (v := ?_) rfl (by kernel_rfl) (fun _ _ _ h => h) (Or.inl ⟨by rfl, ?_⟩) (trivial) ?_
        rotate_left 1
        · (intro w hSw; (try dsimp only at hSw); go_simp; try with_reducible rfl)
        try simp only [Act.put, List.setIfInBounds_toArray, List.set_cons_zero, List.set_cons_succ]
        refine wpAnyZ_take (i := 3) (v := ?_) rfl (by kernel_rfl) (fun _ _ _ h => h) (Or.inl ⟨by rfl, ?_⟩) (trivial) ?_
        rotate_left 1
        · (intro w hSw; (try dsimp only at hSw); go_simp; try with_reducible rfl)
        try simp only [Act.put, List.setIfInBounds_toArray, List.set_cons_zero, List.set_cons_succ]
        refine wpAnyZ_take (i := 7) (v := ?_) rfl (by kernel_rfl) (fun _ _ _ h => h) (Or.inl ⟨by rfl, ?_⟩) (trivial) ?_
        rotate_left 1
        · (intro w hSw; (try dsimp only at hSw); go_simp; try with_reducible rfl)
        try simp only [Act.put, List.setIfInBounds_toArray, List.set_cons_zero, List.set_cons_succ]
        refine wpAnyZ_take (i := 8) (v := ?_) rfl (by kernel_rfl) (fun _ _ _ h => h) (Or.inl ⟨by rfl, ?_⟩) (trivial) ?_
        rotate_left 1
        · (intro w hSw; (try dsimp only at hSw); go_simp; try with_reducible rfl)
        try simp only [Act.put, List.setIfInBounds_toArray, List.set_cons_zero, List.set_cons_succ]
        refine wpAnyZ_take (i := 9) (v := ?_) rfl (by kernel_rfl) (fun _ _ _ h => h) (Or.inl ⟨by rfl, ?_⟩) (trivial) ?_
        rotate_left 1
        · (intro w hSw; (try dsimp only at hSw); go_simp; try with_reducible rfl)
        try simp only [Act.put, List.setIfInBounds_toArray, List.set_cons_zero, List.set_cons_succ]
        refine wpAnyZ_take (i := 10) (v := ?_) rfl (by kernel_rfl) (fun _ _ _ h => h) (Or.inl ⟨by rfl, ?_⟩) (trivial) ?_
        rotate_left 1
        · (intro w hSw; (try dsimp only at hSw); go_simp; try with_reducible rfl)
        try simp only [Act.put, List.setIfInBounds_toArray, List.set_cons_zero, List.set_cons_succ]
        refine wpAnyZ_one (i := 4) (by kernel_rfl) (ReadyZ.mk rfl (fun K hK => ?_))
        go_simp
        refine hK.out _ _ (fun _ => trivial) ?_
        clear hK K
        try simp only [Act.put, List.setIfInBounds_toArray, List.set_cons_zero, List.set_cons_succ]
        refine wpAnyZ_one (i := 5) (by kernel_rfl) (ReadyZ.mk rfl (fun K hK => ?_))
        go_simp
        go_at_call 67
        refine (of_lit nine 9 _ _ g (p + 1 + 1) A n cap bs w2.drew _ rfl rfl (by decide) (by decide) (fun x hx => by show x.size ≤ 9223372036854775807; rw [nine_one x hx]; decide) (by omega) rfl RD).mono ?_
        rintro e w3 ⟨x, rfl, hx, R3, hg3⟩
        have hx1 := nine_one x hx
        have G3 := GD.trans hg3
        clear hx hg3
        refine hK.out _ _ (fun _ => trivial) ?_
        clear hK K
        try simp only [Act.put, List.setIfInBounds_toArray, List.set_cons_zero, List.set_cons_succ]
        have ha : ((s.extract 0 k).size : Int) ≤ 8388608 := by omega
        have hb : (x.size : Int) ≤ 8388608 := by omega
        have hc : ((s.extract 0 k ++ x).size : Int) ≤ 8388608 := by rw [ByteArray.size_append]; omega
        have hd : ((s.extract (k + 1) s.size).size : Int) ≤ 8388608 := by omega
        have HSZ : Hid (((s.extract 0 k ++ x) ++ s.extract (k + 1) s.size).size ≤ s.size + 1) := by
          show _ ≤ _
          rw [ByteArray.size_append, ByteArray.size_append]; omega
        have hadd1 : ∀ w, (Op.stringOp .add (s.extract 0 k) x).run Tryd.prog w = .ok (.string (s.extract 0 k ++ x)) w := fun w => run_string_add w _ _ ha hb
        have hadd2 : ∀ w, (Op.stringOp .add (s.extract 0 k ++ x) (s.extract (k + 1) s.size)).run Tryd.prog w = .ok (.string (s.extract 0 k ++ x ++ s.extract (k + 1) s.size)) w := fun w => run_string_add w _ _ hc hd
        clear ha hb hc hd hs1 hs2 hx1
        generalize s.extract (k + 1) s.size = t2 at *
        obtain ⟨x3, h3⟩ : ∃ x3, s.extract 0 k ++ x = x3 := ⟨_, rfl⟩
        rw [h3] at hadd1 hadd2 HSZ
        clear h3
        generalize s.extract 0 k = t1 at *
        obtain ⟨x4, h4⟩ : ∃ x4, x3 ++ t2 = x4 := ⟨_, rfl⟩
        rw [h4] at hadd2 HSZ
        clear h4
        refine wpAnyZ_take (i := 6) (v := ?_) rfl (by kernel_rfl) (fun _ _ _ h => h) (Or.inl ⟨by rfl, ?_⟩) (trivial) ?_
        rotate_left 1
        · (intro w hSw; (try dsimp only at hSw); go_simp; try with_reducible rfl)
        try simp only [Act.put, List.setIfInBounds_toArray, List.set_cons_zero, List.set_cons_succ]
        refine wpAnyZ_take (i := 11) (v := ?_) rfl (by kernel_rfl) (fun _ _ _ h => h) (Or.inl ⟨by rfl, ?_⟩) (trivial) ?_
        rotate_left 1
        · (intro w hSw; (try dsimp only at hSw); go_simp; try with_reducible rfl)
        try simp only [Act.put, List.setIfInBounds_toArray, List.set_cons_zero, List.set_cons_succ]
        refine wpAnyZ_take (i := 12) (v := ?_) rfl (by kernel_rfl) (fun _ _ _ h => h) (Or.inl ⟨by rfl, ?_⟩) (trivial) ?_
        rotate_left 1
        · (intro w hSw; (try dsimp only at hSw); go_simp; try with_reducible rfl)
        try simp only [Act.put, List.setIfInBounds_toArray, List.set_cons_zero, List.set_cons_succ]
        refine wpAnyZ_done (by kernel_rfl) ?_ _
        refine NoPanic.normal ?_
        go_wp2
        go_ret
        exact ⟨_, _, rfl, HSZ.out, by omega, R3, G3⟩
    · have b1 : ¬ (k : Int) < (s.size : Int) := by omega
      rcases h01 with rfl | rfl
      all_goals
        go_wp2
        go_ret
        exact HEND.out
  · have h0 : q ≠ 0 := fun e => h01 (.inl e)
    have h1 : q ≠ 1 := fun e => h01 (.inr e)
    have c0 : ((q : Int) == 0) = false := by rw [beq_eq_false_iff_ne]; omega
    have c1 : ((q : Int) == 1) = false := by rw [beq_eq_false_iff_ne]; omega
    clear h01
    by_cases h2 : q = 2
    · subst h2
      go_wp2
      go_ret
      exact HCUT.out
    · have c2 : ((q : Int) == 2) = false := by rw [beq_eq_false_iff_ne]; omega
      by_cases h3 : q = 3
      · subst h3
        clear HEND HCUT
        go_wp2_with fail
        refine (of_lit five 5 _ _ g (p + 1 + 1) A n cap bs w2 _ rfl rfl (by decide) (by decide) (fun x hx => by show x.size ≤ 9223372036854775807; rw [five_one x hx]; decide) (by omega) rfl R2).mono ?_
        rintro e w3 ⟨x, rfl, hx, R3, hg3⟩
        have hx1 := five_one x hx
        have G3 := G2.trans hg3
        clear hx hg3
        have ha : (s.size : Int) ≤ 8388608 := by omega
        have hb : (x.size : Int) ≤ 8388608 := by omega
        go_wp2
        go_ret
        exact ⟨_, _, rfl, by rw [ByteArray.size_append]; omega, by omega, R3, G3⟩
      · have c3 : ((q : Int) == 3) = false := by rw [beq_eq_false_iff_ne]; omega
        clear h0 h1 h2 h3 hcase
        go_wp2
        go_ret
        exact HEND.out
end

section
def dg (n : Nat) : UInt8 := UInt8.ofNat (48 + n)
def numL (n : Nat) : List UInt8 := if n < 10 then [dg n] else if n < 100 then [dg (n / 10), dg (n % 10)] else [dg (n / 100), dg (n / 10 % 10), dg (n % 10)]
def dv (l : List UInt8) : Nat := l.foldl (fun a b => 10 * a + (b.toNat - 48)) 0
def isDg (b : UInt8) : Bool := decide (48 ≤ b.toNat) && decide (b.toNat ≤ 57)
theorem numL_dg : ∀ n : Fin 1000, (numL n.1).all isDg = true := by decide +kernel
theorem numL_sz : ∀ n : Fin 1000, 1 ≤ (numL n.1).length ∧ (numL n.1).length ≤ 3 := by decide +kernel
theorem numL_sz2 : ∀ n : Fin 100, (numL n.1).length ≤ 2 := by decide +kernel
theorem numL_dv : ∀ n : Fin 1000, dv (numL n.1) = n.1 := by decide +kernel
theorem numL_pre : ∀ n : Fin 1000, dv ((numL n.1).take 1) ≤ 9 ∧ ((numL n.1).length = 3 → dv ((numL n.1).take 2) ≤ 99) := by decide +kernel
theorem numL_atoi : ∀ n : Fin 1000, Lib.atoiAll (numL n.1) = .ok (n.1 : Int) := by decide +kernel
theorem isDg_iff {b : UInt8} : isDg b = true ↔ 48 ≤ b.toNat ∧ b.toNat ≤ 57 := by unfold isDg; simp
theorem numL_not {n : Nat} (h : n < 1000) {c : UInt8} (hc : c.toNat < 48 ∨ 57 < c.toNat) : c ∉ numL n := fun hm => by
  have := List.all_eq_true.1 (numL_dg ⟨n, h⟩) c hm
  have := isDg_iff.1 this
  omega
theorem numL_inj {a b : Nat} (ha : a < 1000) (hb : b < 1000) (h : numL a = numL b) : a = b := by
  have h1 := numL_dv ⟨a, ha⟩
  have h2 := numL_dv ⟨b, hb⟩
  dsimp only at h1 h2
  rw [← h1, ← h2, h]
/-- what strconv.Atoi answers ahead of its error -/
def atI (l : List UInt8) : Int := match Lib.atoiAll l with
  | .ok v => v
  | .range => Lib.atoiSat l
  | _ => 0
theorem atI_num {n : Nat} (h : n < 1000) : atI (numL n) = n := by
  unfold atI; rw [numL_atoi ⟨n, h⟩]
theorem atI_rng (l : List UInt8) : -9223372036854775808 ≤ atI l ∧ atI l ≤ 9223372036854775807 := by
  unfold atI
  cases h : Lib.atoiAll l with
  | ok v => exact Lib.atoiAll_bounds h
  | range => exact Lib.atoiSat_bounds l
  | _ => exact ⟨(by decide : (-9223372036854775808 : Int) ≤ 0), (by decide : (0 : Int) ≤ 9223372036854775807)⟩
/-- what the model reads of at most so many: a number that is written so, or -1 -/
def rdN (m : Nat) (l : List UInt8) : Int := if numL (dv l) = l ∧ dv l < m then dv l else -1
theorem rdN_num {m n : Nat} (h : n < m) (hm : m ≤ 1000) : rdN m (numL n) = n := by
  unfold rdN
  have e : dv (numL n) = n := numL_dv ⟨n, by omega⟩
  rw [e, if_pos ⟨rfl, h⟩]
theorem rdN_rng {m : Nat} (hm : m ≤ 1000) (l : List UInt8) : -1 ≤ rdN m l ∧ rdN m l ≤ 999 := by
  unfold rdN
  split
  · rename_i h; omega
  · omega
theorem rdN_no {m : Nat} {l : List UInt8} (h : ∀ n, n < m → numL n ≠ l) : rdN m l = -1 := by
  unfold rdN
  rw [if_neg]
  rintro ⟨h1, h2⟩
  exact h _ h2 h1
/-- words: what lies between spaces, but for nothing at the end -/
def wd : Nat → List UInt8 → List (List UInt8)
  | 0, _ => []
  | n + 1, s => if s = [] then [] else (Lib.cut s [32]).1 :: wd n (Lib.cut s [32]).2.1
theorem wd_more : ∀ (n : Nat) (s : List UInt8), s.length ≤ n → wd n s = wd s.length s
  | 0, s, h => by
    have : s = [] := List.length_eq_zero_iff.1 (by omega)
    subst this; rfl
  | n + 1, s, h => by
    cases s with
    | nil => rfl
    | cons x r =>
      have hs := cut_shorter 32 (s := x :: r) (by simp)
      rw [List.length_cons] at h hs ⊢
      rw [wd, wd, if_neg (by simp), if_neg (by simp)]
      rw [wd_more n _ (by omega), wd_more r.length _ (by omega)]
def words (s : List UInt8) : List (List UInt8) := wd s.length s
theorem words_nil : words [] = [] := rfl
theorem words_step {s : List UInt8} (h : s ≠ []) : words s = (Lib.cut s [32]).1 :: words (Lib.cut s [32]).2.1 := by
  unfold words
  cases s with
  | nil => exact absurd rfl h
  | cons x r =>
    have hs := cut_shorter 32 (s := x :: r) (by simp)
    rw [List.length_cons] at hs ⊢
    rw [wd, if_neg (by simp), wd_more _ _ (by omega)]
/-- joined with spaces -/
def jn : List (List UInt8) → List UInt8
  | [] => []
  | [a] => a
  | a :: b :: r => a ++ 32 :: jn (b :: r)
theorem jn_cons {a : List UInt8} {L : List (List UInt8)} (h : L ≠ []) : jn (a :: L) = a ++ 32 :: jn L := by
  cases L with
  | nil => exact absurd rfl h
  | cons b r => rfl
theorem jn_snoc {L : List (List UInt8)} (h : L ≠ []) (a : List UInt8) : jn (L ++ [a]) = jn L ++ 32 :: a := by
  induction L with
  | nil => exact absurd rfl h
  | cons x r ih =>
    cases r with
    | nil => rfl
    | cons y q =>
      show jn (x :: (y :: q ++ [a])) = _
      rw [jn_cons (a := x) (L := y :: q ++ [a]) (by simp), ih (by simp), jn_cons (a := x) (L := y :: q) (by simp), List.append_assoc]; rfl
theorem words_jn : ∀ {L : List (List UInt8)}, (∀ a ∈ L, a ≠ [] ∧ (32 : UInt8) ∉ a) → words (jn L) = L
  | [], _ => rfl
  | [a], h => by
    obtain ⟨h1, h2⟩ := h a (by simp)
    show words a = _
    rw [words_step h1, cut_one h2]; rfl
  | a :: b :: r, h => by
    obtain ⟨h1, h2⟩ := h a (by simp)
    have ih := words_jn (L := b :: r) (fun x hx => h x (List.mem_cons_of_mem _ hx))
    rw [jn_cons (by simp), words_step (by simp), cut_line h2, ih]
theorem split_jn : ∀ {L : List (List UInt8)}, L ≠ [] → (∀ a ∈ L, (32 : UInt8) ∉ a) → splitL 32 (jn L) = L
  | [], h, _ => absurd rfl h
  | [a], _, h => splitL_one (h a (by simp))
  | a :: b :: r, _, h => by
    have ih := split_jn (L := b :: r) (by simp) (fun x hx => h x (List.mem_cons_of_mem _ hx))
    rw [jn_cons (by simp), splitL_line (h a (by simp)), ih]
theorem jn_nil {L : List (List UInt8)} (h : ∀ a ∈ L, a ≠ []) : jn L = [] ↔ L = [] := by
  constructor
  · intro e
    cases L with
    | nil => rfl
    | cons a r =>
      have ha := h a (by simp)
      cases r with
      | nil => exact absurd e ha
      | cons b q => rw [jn_cons (by simp)] at e; simp at e
  · rintro rfl; rfl
end

section
def digs : ByteArray := ⟨#[48, 49, 50, 51, 52, 53, 54, 55, 56, 57]⟩
theorem digs_at : ∀ n : Fin 10, digs.extract n.1 (n.1 + 1) = tb (numL n.1) := by decide +kernel
theorem numL_two : ∀ n : Fin 1000, 10 ≤ n.1 → numL n.1 = numL (n.1 / 10) ++ numL (n.1 % 10) := by decide +kernel
theorem tb_app (a b : List UInt8) : tb (a ++ b) = tb a ++ tb b := bl_inj (by rw [bl_app]; rfl)
theorem tb_size (a : List UInt8) : (tb a).size = a.length := rfl
theorem num_size {n : Nat} (h : n < 1000) : (tb (numL n)).size ≤ 3 := (numL_sz ⟨n, h⟩).2
set_option maxRecDepth 100000 in
theorem number1_any (n : Nat) (w : World) (h : n < 10) : Calls Tryd.prog 81 #[.int .i64 n] w fun e w' => e = .returned (.string (tb (numL n))) ∧ w = w' := by
  have hw : IntKind.i64.wrap ((n : Int) + 1) = (n : Int) + 1 := IntWalk.i64_in _ (by omega)
  have h3 : (n : Int) < 10 := by omega
  have h4 : (0 : Int) ≤ (n : Int) := by omega
  have h5 : (n : Int) + 1 ≤ 10 := by omega
  have h6 : (n : Int) ≤ (n : Int) + 1 := by omega
  have HE := Lib.hid (digs_at ⟨n, h⟩)
  go_enter Tryd.func81, Tryd.ntmps81
  go_wp2
  go_ret
  exact ⟨ret_str HE.out, rfl⟩
set_option maxRecDepth 100000 in
theorem number_step (n : Nat) (w : World) (h10 : 10 ≤ n) (h : n < 1000) (HQ : Hid (Calls Tryd.prog 81 #[.int .i64 ((n / 10 : Nat) : Int)] w fun e w' => e = .returned (.string (tb (numL (n / 10)))) ∧ w = w')) : Calls Tryd.prog 81 #[.int .i64 n] w fun e w' => e = .returned (.string (tb (numL n))) ∧ w = w' := by
  have HE := Lib.hid (numL_two ⟨n, h⟩ h10)
  have h3 : ¬ (n : Int) < 10 := by omega
  have hd : decide ((n : Int) < 10) = false := decide_eq_false h3
  have hq : (n : Int) / 10 = ((n / 10 : Nat) : Int) := by omega
  have hr : (n : Int) % 10 = ((n % 10 : Nat) : Int) := by omega
  have z1 : ((tb (numL (n / 10))).size : Int) ≤ 8388608 := by have := num_size (n := n / 10) (by omega); omega
  have z2 : ((tb (numL (n % 10))).size : Int) ≤ 8388608 := by have := num_size (n := n % 10) (by omega); omega
  have HQE := Lib.hid hq; have HRE := Lib.hid hr
  clear hq hr
  have HR := Lib.hid (number1_any (n % 10) w (by omega))
  obtain ⟨u1, HU1⟩ : ∃ u, Hid (tb (numL (n / 10)) = u) := ⟨_, Lib.hid rfl⟩
  obtain ⟨u2, HU2⟩ : ∃ u, Hid (tb (numL (n % 10)) = u) := ⟨_, Lib.hid rfl⟩
  rw [HU1.out] at HQ z1
  rw [HU2.out] at HR z2
  go_enter Tryd.func81, Tryd.ntmps81
  go_wp2_with fail
  rw [HQE.out]
  refine HQ.out.mono ?_
  rintro e w' ⟨rfl, rfl⟩
  go_wp2_with fail
  rw [HRE.out]
  refine HR.out.mono ?_
  rintro e w' ⟨rfl, rfl⟩
  go_wp2
  go_ret
  exact ⟨ret_str (by rw [← HU1.out, ← HU2.out, ← tb_app]; exact congrArg tb HE.out.symm), rfl⟩
theorem number2_any (n : Nat) (w : World) (h : n < 100) : Calls Tryd.prog 81 #[.int .i64 n] w fun e w' => e = .returned (.string (tb (numL n))) ∧ w = w' := by
  by_cases h10 : n < 10
  · exact number1_any n w h10
  · exact number_step n w (by omega) (by omega) (Lib.hid (number1_any (n / 10) w (by omega)))
theorem number3_any (n : Nat) (w : World) (h : n < 1000) : Calls Tryd.prog 81 #[.int .i64 n] w fun e w' => e = .returned (.string (tb (numL n))) ∧ w = w' := by
  by_cases h10 : n < 10
  · exact number1_any n w h10
  · exact number_step n w (by omega) (by omega) (Lib.hid (number2_any (n / 10) w (by omega)))
end

section
theorem pre_small {m k : Nat} (hm : m < 1000) (hk : k < (numL m).length) : dv ((numL m).take k) ≤ 99 := by
  have h1 := numL_sz ⟨m, hm⟩
  have h2 := numL_pre ⟨m, hm⟩
  dsimp only at h1 h2
  rcases Nat.lt_or_ge k 3 with h3 | h3
  · match k, h3 with
    | 0, _ => rw [List.take_zero]; show 0 ≤ 99; omega
    | 1, _ => have := h2.1; omega
    | 2, _ => exact h2.2 (by omega)
  · omega
theorem dv_snoc (l : List UInt8) (c : UInt8) : dv (l ++ [c]) = 10 * dv l + (c.toNat - 48) := by unfold dv; rw [List.foldl_append]; rfl
theorem rdN_digit {m : Nat} (hm : m ≤ 1000) {l : List UInt8} {c : UInt8} (hc : c ∈ l) (h : c.toNat < 48 ∨ 57 < c.toNat) : rdN m l = -1 := rdN_no fun n hn e => by
  rw [← e] at hc; exact numL_not (by omega) h hc
theorem rdN_long {l : List UInt8} {k : Nat} (hk : k < l.length) (h : 99 < dv (l.take k)) : rdN 1000 l = -1 := rdN_no fun n hn e => by
  subst e
  have := pre_small hn hk
  omega
theorem rdN_nil (m : Nat) : rdN m [] = -1 := by
  unfold rdN
  rw [if_neg]
  rintro ⟨h, -⟩
  exact absurd h (by decide)
theorem rdN_eq {m : Nat} {l : List UInt8} (h : numL (dv l) = l) (hd : dv l < m) : rdN m l = dv l := by unfold rdN; rw [if_pos ⟨h, hd⟩]
theorem rdN_ne {m : Nat} {l : List UInt8} (h : numL (dv l) ≠ l) : rdN m l = -1 := by unfold rdN; rw [if_neg (fun e => h e.1)]
theorem empT {s : ByteArray} : (s.toList.isEmpty = true ↔ bl s = []) := by
  constructor
  · intro h
    have h2 : s.toList = [] := List.isEmpty_iff.1 h
    by_cases hb : bl s = []
    · exact hb
    · have := str_ne (a := s) (b := ByteArray.empty) (fun e => hb (by rw [e]; rfl))
      rw [h2] at this
      exact absurd this (by decide +kernel)
  · intro h
    have : s = ByteArray.empty := bl_inj (by rw [h]; rfl)
    rw [this]; decide +kernel
theorem empF {s : ByteArray} (h : bl s ≠ []) : s.toList.isEmpty = false := by
  cases e : s.toList.isEmpty
  · rfl
  · exact absurd (empT.1 e) h
theorem take_snoc {s : ByteArray} {k : Nat} (h : k < s.size) : (bl s).take (k + 1) = (bl s).take k ++ [s[k]] := by
  rw [List.take_succ_eq_append_getElem (by rw [bl_len]; exact h)]; rfl
end

section
open Go.RowKit Go.Sort
theorem lt_of_var {w : World} {P : Program} {nm : String} {cs : Array Value} (h : w.var? P nm = some cs) : ∃ g, P.globalNamed nm = some g ∧ g < w.heap.size := by
  unfold World.var? at h
  obtain ⟨g, hg, h⟩ := Option.bind_eq_some_iff.1 h
  refine ⟨g, hg, ?_⟩
  rcases Nat.lt_or_ge g w.heap.size with h' | h'
  · exact h'
  · rw [Array.getElem?_eq_none h'] at h; cases h
theorem var_le {w w' : World} {P : Program} {nm : String} {cs : Array Value} (h : w.var? P nm = some cs) (hl : Le w w') : w'.var? P nm = some cs := by
  obtain ⟨g, hg, hlt⟩ := lt_of_var h
  unfold World.var? at h ⊢
  rw [hg] at h ⊢
  simp only [Option.bind_some] at h ⊢
  rw [Below.block hl g hlt]
  exact h
/-- the table that strconv reads lies there -/
def TabW (w : World) : Prop := Lib.TabIs Tryd.prog w "internal/strconv.uint64pow10" .u64 Lib.pow10Tab
theorem TabW.le {w w' : World} (h : TabW w) (hl : Le w w') : TabW w' := var_le h hl
theorem le_grow (w : World) (k : Nat) (os : Array Obj) : Le w (grow (w.drewN k) os) := ⟨rfl, rfl, rfl, by show w.heap.size ≤ (w.heap ++ os).size; rw [Array.size_append]; omega, fun j hj => by show (w.heap ++ os)[j]? = _; exact Array.getElem?_append_left hj⟩
theorem dec_lo {n : Nat} (h : n < 10) : Lib.decDigits n = [dg n] := by rw [Lib.decDigits, dif_pos h]; rfl
theorem dec_hi {n : Nat} (h : 10 ≤ n) : Lib.decDigits n = Lib.decDigits (n / 10) ++ [dg (n % 10)] := by rw [Lib.decDigits, dif_neg (by omega)]; rfl
theorem itoa_num {n : Nat} (h : n < 1000) : Lib.itoa (n : Int) = numL n := by
  have one : ∀ m, m < 10 → numL m = [dg m] := fun m hm => by unfold numL; rw [if_pos hm]
  rw [Lib.itoa_nonneg]
  by_cases h1 : n < 10
  · rw [dec_lo h1, one n h1]
  · rw [dec_hi (by omega), numL_two ⟨n, h⟩ (by show 10 ≤ n; omega)]
    dsimp only
    rw [one (n % 10) (by omega)]
    congr 1
    by_cases h2 : n / 10 < 10
    · rw [dec_lo h2, one _ h2]
    · rw [dec_hi (by omega), numL_two ⟨n / 10, by omega⟩ (by show 10 ≤ n / 10; omega)]
      dsimp only
      rw [one (n / 10 % 10) (by omega), dec_lo (n := n / 10 / 10) (by omega), one (n / 10 / 10) (by omega)]
theorem itoa3_any (n : Nat) (w : World) (h : n < 1000) (hT : TabW w) : Calls Tryd.prog 53 #[.int .i64 n] w fun e w' => e = .returned (.string (tb (numL n))) ∧ Le w w' := by
  refine (Tryd.strconv_Itoa (n : Int) (by omega) (by omega) w hT).mono ?_
  rintro e w' ⟨rfl, k, os, rfl⟩
  refine ⟨?_, le_grow w k os⟩
  rw [itoa_num h]; rfl
theorem jn_join : ∀ L : List (List UInt8), Lib.join L [32] = jn L
  | [] => rfl
  | [a] => by rw [Lib.join_one]; rfl
  | a :: b :: r => by
    have ih := jn_join (b :: r)
    unfold Lib.join at ih ⊢
    rw [jn_cons (by simp), ← ih]
    simp [List.intercalate, List.intersperse]
theorem join_any (A : Option Addr) (n c : Nat) (L : List ByteArray) (w : World) (S : Sl w A n c L) (hl : (jn (L.map bl)).length ≤ 1000000) (hn : n ≤ 1000000) :
    Calls Tryd.prog 78 #[.slice A n c, .string ⟨#[32]⟩] w fun e w' => e = .returned (.string (tb (jn (L.map bl)))) ∧ Le w w' := by
  obtain rfl := S.len
  cases L with
  | nil =>
    refine (Tryd.strings_Join_none A c ⟨#[32]⟩ w).mono ?_
    rintro e w' ⟨rfl, rfl⟩
    exact ⟨rfl, Le.refl _⟩
  | cons x r =>
    obtain ⟨b, o, rfl, hb, hc⟩ := S.at_ (by simp)
    have e1 : Lib.join ((x :: r).map (·.data.toList)) (⟨#[32]⟩ : ByteArray).data.toList = jn ((x :: r).map bl) := jn_join _
    refine (Tryd.strings_Join b o c (x :: r) ⟨#[32]⟩ w (fun j y hj => hc j _ (by
      have : ((x :: r).flatMap (Enc.cells (α := ByteArray)))[j]? = ((x :: r).map (fun s => Value.string s))[j]? := by
        congr 1
        induction (x :: r) with
        | nil => rfl
        | cons y q ih => rw [List.flatMap_cons, List.map_cons, ih]; rfl
      rw [this, List.getElem?_map, hj]; rfl)) hb (by omega) S.cap_ (by rw [e1]; omega)).mono ?_
    rintro e w' ⟨rfl, hB⟩
    exact ⟨by rw [e1]; rfl, hB⟩
end

section
theorem cutA_ext {s : ByteArray} {a r : List UInt8} {c : UInt8} (h : bl s = a ++ c :: r) : s.extract 0 a.length = tb a ∧ s.extract (a.length + 1) s.size = tb r ∧ a.length + 1 ≤ s.size := by
  have hl : s.size = a.length + 1 + r.length := by
    have := congrArg List.length h
    rw [bl_len] at this; simp at this; omega
  have e : s = tb a ++ (tb [c] ++ tb r) := bl_inj (by rw [bl_app, bl_app, bl_tb, bl_tb, bl_tb, h]; rfl)
  refine ⟨?_, ?_, by omega⟩
  · rw [e]; exact ByteArray.extract_append_eq_left rfl
  · have e2 : s = (tb a ++ tb [c]) ++ tb r := by rw [ByteArray.append_assoc]; exact e
    have h1 : a.length + 1 = (tb a ++ tb [c]).size := by rw [ByteArray.size_append]; rfl
    rw [hl, e2]
    refine ByteArray.extract_append_eq_right h1 ?_
    rw [← h1]; rfl
set_option maxRecDepth 100000 in
theorem slCut_any (s : ByteArray) (c : UInt8) (w : World) (hs : s.size ≤ 1048576) :
    Calls Tryd.prog 84 #[.string s, .string ⟨#[c]⟩] w fun e w' => e = .returned (.tuple #[.string (tb (Lib.cut (bl s) [c]).1), .string (tb (Lib.cut (bl s) [c]).2.1), .bool (Lib.cut (bl s) [c]).2.2]) ∧ Le w w' := by
  go_enter Tryd.func84, Tryd.ntmps84
  go_wp2_with fail
  refine (Tryd.stringslite_Index_one s c w).mono ?_
  rintro e w1 ⟨rfl, rfl⟩
  rcases split_or c (bl s) with h | ⟨a, r, e, h⟩
  · have hi : Lib.indexByte s.data.toList c = -1 := indexByte_miss h
    rw [hi]
    have HX := Lib.hid (cut_one h)
    clear hi h
    go_wp2
    go_ret3
    exact ⟨by rw [HX.out]; rfl, Le.refl _⟩
  · have hi : Lib.indexByte s.data.toList c = (a.length : Int) := by
      show Lib.indexByte (bl s) c = _
      rw [e]; exact indexByte_skip h r
    rw [hi]
    obtain ⟨h1, h2, h3⟩ := cutA_ext e
    have HX : Hid (Lib.cut (bl s) [c] = (a, r, true)) := by show _ = _; rw [e]; exact cut_line h r
    have H1 := Lib.hid h1
    have H2 := Lib.hid h2
    have k0 : (0 : Int) ≤ (a.length : Int) := by omega
    have k1 : (a.length : Int) ≤ (s.size : Int) := by omega
    have k2 : (a.length : Int) + 1 ≤ (s.size : Int) := by omega
    have k3 : IntKind.i64.wrap ((a.length : Int) + 1) = (a.length : Int) + 1 := IntWalk.i64_in _ (by omega)
    have k4 : (0 : Int) ≤ (a.length : Int) + 1 := by omega
    clear hi h h1 h2 e
    generalize a.length = q at *
    go_wp2_with fail
    refine wp_region_ext (by kernel_rfl) (by kernel_rfl) ?_
    repeat (go_big_quiet_step (fail))
    refine wpQuiet_nil ?_
    intro _ hw'
    obtain ⟨gg, rfl⟩ := hw'
    have L1 := Le.ext w1 gg
    generalize w1.ext gg = W2 at *
    go_wp2
    go_ret3
    refine ⟨?_, L1⟩
    rw [HX.out]
    show _ = Ending.returned (.tuple #[.string (tb a), .string (tb r), .bool true])
    rw [← H1.out, ← H2.out]
    rfl
set_option maxRecDepth 100000 in
theorem cut_any (s : ByteArray) (c : UInt8) (w : World) (hs : s.size ≤ 1048576) :
    Calls Tryd.prog 60 #[.string s, .string ⟨#[c]⟩] w fun e w' => e = .returned (.tuple #[.string (tb (Lib.cut (bl s) [c]).1), .string (tb (Lib.cut (bl s) [c]).2.1), .bool (Lib.cut (bl s) [c]).2.2]) ∧ Le w w' := by
  go_enter Tryd.func60, Tryd.ntmps60
  go_wp2_with fail
  refine (slCut_any s c w hs).mono ?_
  rintro e w1 ⟨rfl, hle⟩
  go_wp2
  go_ret3
  exact ⟨rfl, hle⟩
end

section
/-- the errors that strconv names lie there -/
def ErrW (w : World) : Prop := (∃ t p, w.cell? ⟨3, 0, none⟩ = some (.iface t p)) ∧ (∃ t p, w.cell? ⟨4, 0, none⟩ = some (.iface t p))
theorem cell_in {w : World} {a : Addr} {v : Value} (h : w.cell? a = some v) : a.block < w.heap.size := by
  rcases Nat.lt_or_ge a.block w.heap.size with h' | h'
  · exact h'
  · simp [World.cell?, Array.getElem?_eq_none h'] at h
theorem ErrW.le {w w' : World} (h : ErrW w) (hl : Le w w') : ErrW w' := by
  obtain ⟨⟨t, p, h1⟩, ⟨u, q, h2⟩⟩ := h
  exact ⟨⟨t, p, (hl.cell (cell_in h1)).trans h1⟩, ⟨u, q, (hl.cell (cell_in h2)).trans h2⟩⟩
theorem atoi_bad (s : ByteArray) (hlim : s.size ≤ 281474976710656) (h1 : ∀ v, Lib.atoiAll s.data.toList ≠ .ok v) (h2 : Lib.atoiAll s.data.toList ≠ .range) (ev : Value) (w : World) (hv : w.cell? ⟨3, 0, none⟩ = some ev) (hev : ev = .nilIface ∨ ∃ te pe, ev = .iface te pe) :
    Calls Tryd.prog 85 #[.string s] w fun e w' => ∃ u, e = .returned (.tuple #[.int .i64 0, u]) ∧ Le w w' := by
  have h := Any.strconv_Atoi_syntax Tryd.laysC172 s hlim (by
    cases h : Lib.atoiAll s.data.toList with
    | ok v => exact absurd h (h1 v)
    | range => exact absurd h h2
    | _ => rfl) ev w hv hev
  exact h.mono fun e w' ⟨N, he, _, _, hB⟩ => ⟨_, he, hB⟩
theorem atoi_any (s : ByteArray) (w : World) (hs : s.size ≤ 1048576) (hE : ErrW w) :
    Calls Tryd.prog 85 #[.string s] w fun e w' => ∃ u, e = .returned (.tuple #[.int .i64 (atI (bl s)), u]) ∧ Le w w' := by
  obtain ⟨⟨t, p, h1⟩, ⟨u, q, h2⟩⟩ := hE
  cases h : Lib.atoiAll s.data.toList with
  | ok v =>
    refine (Tryd.strconv_Atoi_ok s (by omega) v h w).mono ?_
    rintro e w' ⟨rfl, hw⟩
    refine ⟨_, by unfold atI; rw [show Lib.atoiAll (bl s) = .ok v from h], ?_⟩
    rcases hw with rfl | ⟨t, rfl⟩
    · exact Le.refl _
    · exact Lib.bytesWorld_below _ _ _
  | range =>
    refine (Tryd.strconv_Atoi_range s (by omega) h _ w h2 (.inr ⟨_, _, rfl⟩)).mono ?_
    rintro e w' ⟨N, rfl, -, -, hB⟩
    exact ⟨_, by unfold atI; rw [show Lib.atoiAll (bl s) = .range from h]; rfl, hB⟩
  | _ =>
    refine (atoi_bad s (by omega) (fun v => by rw [h]; exact fun e => nomatch e) (by rw [h]; exact fun e => nomatch e) _ w h1 (.inr ⟨_, _, rfl⟩)).mono ?_
    rintro e w' ⟨u, rfl, hB⟩
    exact ⟨u, by unfold atI; rw [show Lib.atoiAll (bl s) = _ from h], hB⟩
theorem str_at {w : World} {A : Option Addr} {n cap : Nat} {xs : List ByteArray} (h : Sl w A n cap xs) {k : Nat} (hk : k < xs.length) : ∃ b off, A = some ⟨b, off, none⟩ ∧ b < w.heap.size ∧ w.cell? ⟨b, off + k, none⟩ = some (.string xs[k]) := by
  obtain ⟨b, off, e, hb, hc⟩ := h.cells_ hk
  have := hc 0 (by decide) _ rfl
  exact ⟨b, off, e, hb, by simpa [Enc.size] using this⟩
end

section
/-- the lines of a text, but for nothing at the end -/
def lnF : Nat → List UInt8 → List (List UInt8)
  | 0, _ => []
  | n + 1, s => if s = [] then [] else (Lib.cut s [10]).1 :: lnF n (Lib.cut s [10]).2.1
theorem lnF_more : ∀ (n : Nat) (s : List UInt8), s.length ≤ n → lnF n s = lnF s.length s
  | 0, s, h => by
    have : s = [] := List.length_eq_zero_iff.1 (by omega)
    subst this; rfl
  | n + 1, s, h => by
    cases s with
    | nil => rfl
    | cons x r =>
      have hs := cut_shorter 10 (s := x :: r) (by simp)
      rw [List.length_cons] at h hs ⊢
      rw [lnF, lnF, if_neg (by simp), if_neg (by simp)]
      rw [lnF_more n _ (by omega), lnF_more r.length _ (by omega)]
def linesT (s : List UInt8) : List (List UInt8) := lnF s.length s
theorem linesT_nil : linesT [] = [] := rfl
theorem linesT_step {s : List UInt8} (h : s ≠ []) : linesT s = (Lib.cut s [10]).1 :: linesT (Lib.cut s [10]).2.1 := by
  unfold linesT
  cases s with
  | nil => exact absurd rfl h
  | cons x r =>
    have hs := cut_shorter 10 (s := x :: r) (by simp)
    rw [List.length_cons] at hs ⊢
    rw [lnF, if_neg (by simp), lnF_more _ _ (by omega)]
/-- texts with a newline behind each -/
def catN (L : List (List UInt8)) : List UInt8 := L.flatMap (· ++ [10])
theorem catN_cons (a : List UInt8) (L : List (List UInt8)) : catN (a :: L) = a ++ 10 :: catN L := by
  unfold catN; rw [List.flatMap_cons, List.append_assoc]; rfl
theorem catN_snoc (L : List (List UInt8)) (a : List UInt8) : catN (L ++ [a]) = catN L ++ (a ++ [10]) := by
  unfold catN; rw [List.flatMap_append]; simp
theorem linesT_cat : ∀ {L : List (List UInt8)}, (∀ a ∈ L, (10 : UInt8) ∉ a) → linesT (catN L) = L
  | [], _ => rfl
  | a :: L, h => by
    have ih := linesT_cat (L := L) (fun x hx => h x (List.mem_cons_of_mem _ hx))
    rw [catN_cons, linesT_step (by simp), cut_line (h a (by simp)), ih]
theorem split_cat : ∀ {L : List (List UInt8)}, (∀ a ∈ L, (10 : UInt8) ∉ a) → splitL 10 (catN L) = L ++ [[]]
  | [], _ => rfl
  | a :: L, h => by
    have ih := split_cat (L := L) (fun x hx => h x (List.mem_cons_of_mem _ hx))
    rw [catN_cons, splitL_line (h a (by simp)), ih]; rfl
theorem catN_len {m : Nat} : ∀ {L : List (List UInt8)}, (∀ a ∈ L, a.length ≤ m) → (catN L).length ≤ (m + 1) * L.length
  | [], _ => Nat.zero_le _
  | a :: L, h => by
    have h1 := h a (by simp)
    have ih := catN_len (L := L) (fun x hx => h x (List.mem_cons_of_mem _ hx))
    rw [catN_cons, List.length_append, List.length_cons, List.length_cons, Nat.mul_add]; omega
theorem count_catN : ∀ {L : List (List UInt8)}, (∀ a ∈ L, (10 : UInt8) ∉ a) → (catN L).count 10 = L.length
  | [], _ => rfl
  | a :: L, h => by
    have ih := count_catN (L := L) (fun x hx => h x (List.mem_cons_of_mem _ hx))
    rw [catN_cons, List.count_append, List.count_cons_self, List.count_eq_zero.2 (h a (by simp)), ih, List.length_cons]; omega
/-- one of the texts of a phrase -/
def atW (W : List (List UInt8)) (i : Nat) : List UInt8 := W.getD i []
/-- the name of a class -/
def clN (xs : List Cls) (a : Int) : List UInt8 := match xs[a.toNat]? with | some c => bl c.name | none => []
theorem clN_at {xs : List Cls} {k : Nat} (h : k < xs.length) : clN xs (k : Int) = bl xs[k].name := by
  unfold clN
  rw [show (k : Int).toNat = k by omega, List.getElem?_eq_getElem h]
end
end Go.Proofs.YtnpcmlcigeccmaaDoor
