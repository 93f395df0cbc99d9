/- impl.LeastCatches -/
import Derived.Test.YtembnjanopajgaaHL
import Derived.Test.YtembnjanopajgaaHI
import Derived.Test.YtembnjanopajgaaSC
namespace Go.Proofs.Ytembnjanopajgaa
open Go.RowKit

def upP (xs : List Cls) (L : List Int) (b : Int) : Bool := !decide (0 ≤ firstC xs L (parOf xs b) 0)
theorem firstC_nonneg {xs : List Cls} {a : Int} : ∀ {L : List Int} {j : Int}, 0 ≤ j → (0 ≤ firstC xs L a j ↔ ∃ b ∈ L, isAL xs a b = true)
  | [], j, _ => by simp [firstC]
  | c :: r, j, hj => by
    unfold firstC
    cases h : isAL xs a c
    · rw [if_neg (by simp)]
      rw [firstC_nonneg (L := r) (j := j + 1) (by omega)]
      simp [h]
    · rw [if_pos rfl]
      simp [h]; exact hj
theorem allN_iff {xs : List Cls} {a : Int} : ∀ {L : List Int}, allN xs a L = true ↔ ∀ b ∈ L, b = a ∨ isAL xs a b = false
  | [] => by simp [allN]
  | c :: r => by
    rw [allN, Bool.and_eq_true, allN_iff (L := r)]
    simp
theorem hasI_iff {x : Int} : ∀ {L : List Int}, hasI L x = true ↔ x ∈ L
  | [] => by simp [hasI]
  | c :: r => by
    rw [hasI, Bool.or_eq_true, hasI_iff (L := r)]
    simp
    constructor
    · rintro (h | h)
      · exact .inl h.symm
      · exact .inr h
    · rintro (h | h)
      · exact .inl h.symm
      · exact .inr h
theorem isAL_up_no {xs : List Cls} (g : Good xs) {i : Nat} (hi : i < xs.length) : isAL xs xs[i].parent (i : Int) = false := by
  cases h : isAL xs xs[i].parent (i : Int)
  · rfl
  · unfold isAL at h
    rw [hasI_iff] at h
    have hp := g.par_le hi
    have := aboveL_mem g _ xs[i].parent rfl (by omega) _ h
    omega
theorem need_iff {xs : List Cls} {L : List Int} (gc : GoodC xs L) {a : Int} : needC xs L a = true ↔ a ∈ L ∧ upP xs L a = true := by
  unfold needC upP
  rw [Bool.and_eq_true, hasI_iff, allN_iff]
  constructor
  · rintro ⟨ha, hb⟩
    refine ⟨ha, ?_⟩
    obtain ⟨h0, h1⟩ := gc.mem a ha
    obtain ⟨i, rfl⟩ := Int.eq_ofNat_of_zero_le h0
    have hi : i < xs.length := by omega
    rw [parOf_at hi]
    simp only [Bool.not_eq_true', decide_eq_false_iff_not]
    rw [firstC_nonneg (by omega)]
    rintro ⟨b, hbL, hbt⟩
    rcases hb b hbL with rfl | h
    · rw [isAL_up_no gc.tree hi] at hbt; cases hbt
    · rw [isAL_at gc.tree hi, hbt] at h; simp at h
  · rintro ⟨ha, hp⟩
    refine ⟨ha, fun b hbL => ?_⟩
    obtain ⟨h0, h1⟩ := gc.mem a ha
    obtain ⟨i, rfl⟩ := Int.eq_ofNat_of_zero_le h0
    have hi : i < xs.length := by omega
    rw [parOf_at hi] at hp
    simp only [Bool.not_eq_true', decide_eq_false_iff_not] at hp
    rw [firstC_nonneg (by omega)] at hp
    by_cases e : b = i
    · exact .inl e
    · right
      rw [isAL_at gc.tree hi]
      have e1 : ((i : Int) == b) = false := by simp; omega
      rw [e1, Bool.false_or]
      cases h : isAL xs xs[i].parent b
      · rfl
      · exact absurd ⟨b, hbL, h⟩ hp
theorem least_eq {xs : List Cls} {L : List Int} (gc : GoodC xs L) : Lib.compact ((L.filter (upP xs L)).mergeSort fun x y => decide (x ≤ y)) = leastK xs L xs.length := by
  obtain ⟨h1, h2⟩ := compact_sorted (L.filter (upP xs L))
  refine asc_ext _ _ h1 (leastK_asc xs L _) (fun x => ?_)
  rw [h2, leastK_mem, List.mem_filter, need_iff gc]
  constructor
  · rintro ⟨ha, hb⟩
    have := gc.mem x ha
    exact ⟨this.1, this.2, ha, hb⟩
  · rintro ⟨_, _, ha, hb⟩; exact ⟨ha, hb⟩

theorem own_cut {w : World} {base size n m : Nat} {e : TypeId} {A : Option Addr} {c : Nat} {xs ys : List Value} (h : w.ownsRow base e size (.slice A n c) n (xs ++ ys)) (hA : A ≠ none) (hx : xs.length = m * size) (hm : m ≤ n) : w.ownsRow base e size (.slice A m c) m xs := by
  refine ⟨hx, .inr ?_⟩
  rcases h.2 with ⟨h', _⟩ | ⟨g, cap, cur, hv, hg0, hg, hnc, hcm, hcs, ht⟩
  · simp only [Value.slice.injEq] at h'
    exact absurd h'.1 hA
  · simp only [Value.slice.injEq, true_and] at hv
    obtain ⟨rfl, rfl⟩ := hv
    refine ⟨g, c, cur, rfl, hg0, hg, by omega, hcm, hcs, ?_⟩
    have : cur.toList.take (m * size) = (cur.toList.take (n * size)).take (m * size) := by
      rw [List.take_take, Nat.min_eq_left (Nat.mul_le_mul_right _ hm)]
    rw [this, ht, ← hx]; simp
theorem ints_flat (L : List Int) : L.flatMap Enc.cells = L.map (Value.int .i64) := by
  induction L with
  | nil => rfl
  | cons x r ih => rw [List.flatMap_cons, ih]; rfl
end Go.Proofs.Ytembnjanopajgaa
