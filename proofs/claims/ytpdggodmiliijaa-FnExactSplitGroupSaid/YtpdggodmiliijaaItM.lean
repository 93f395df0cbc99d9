/- groups: what visit does to a piece -/
import Derived.Test.YtpdggodmiliijaaItL
namespace Go.Proofs.Ytpdggodmiliijaa
open Go.RowKit Go.Shelf
attribute [local go_sem] Oper.semAt_some
/-- what visit finds: the boxes of the test, of what is kept, of itself; what is kept so far -/
structure VSt (n₀ : Nat) (tf : Nat) (lb : Array Value) (b off C : Nat) (g : List Prt) (W : World) (v : Value) (L : List Prt) : Prop where
  bf : Boxed W n₀ 89 (.func (.func tf) #[] lb)
  bo : Boxed W (n₀ + 1) 34 v
  bv : Boxed W (n₀ + 1 + 1) 128 (.func (.func 101) #[] #[.pointer (some ⟨n₀, 0, none⟩), .pointer (some ⟨n₀ + 1, 0, none⟩), .pointer (some ⟨n₀ + 1 + 1, 0, none⟩)])
  row : W.ownsRow n₀ 70 4 v L.length (L.flatMap Enc.cells)
  sl : SlB n₀ W (some ⟨b, off, none⟩) g.length C g
/-- what visit leaves alone -/
structure VEf (n₀ : Nat) (W W' : World) (v v' : Value) : Prop where
  le : Below n₀ W W'
  block : ∀ k, k < W.heap.size → k ≠ n₀ + 1 → v.ownBlock ≠ some k → W'.heap[k]? = W.heap[k]?
  own : v'.ownBlock = v.ownBlock ∨ ∀ k, v'.ownBlock = some k → W.heap.size ≤ k
theorem VEf.refl (n₀ : Nat) (W : World) (v : Value) : VEf n₀ W W v v := ⟨Below.refl _ _, fun _ _ _ _ => rfl, .inl rfl⟩
theorem VEf.trans {n₀ : Nat} {A B D : World} {u v x : Value} (h : VEf n₀ A B u v) (k : VEf n₀ B D v x) : VEf n₀ A D u x := by
  refine ⟨h.le.trans k.le, fun i hi h1 h2 => ?_, ?_⟩
  · have hn : v.ownBlock ≠ some i := by
      rcases h.own with e | e
      · rw [e]; exact h2
      · intro e2; have := e i e2; omega
    exact (k.block i (Nat.lt_of_lt_of_le hi h.le.size) h1 hn).trans (h.block i hi h1 h2)
  · rcases k.own with e | e
    · rw [e]; exact h.own
    · exact .inr fun i hi => Nat.le_trans h.le.size (e i hi)
/-- what the visits of some pieces keep -/
def flK (t : Prt → Bool) (g : List Prt) (ks : List Nat) : List Prt := (ks.map fun k => selL (keepsAt t g) g k (endN g k - k)).flatten
theorem flK_snoc (t : Prt → Bool) (g : List Prt) (ks : List Nat) (k : Nat) : flK t g (ks ++ [k]) = flK t g ks ++ selL (keepsAt t g) g k (endN g k - k) := by
  unfold flK; simp
theorem selL_len (f : Nat → Bool) (g : List Prt) : ∀ m k, (selL f g k m).length ≤ m
  | 0, _ => Nat.le_refl _
  | m + 1, k => by
    have := selL_len f g m (k + 1)
    unfold selL
    cases f k <;> simp <;> omega
theorem flK_len (t : Prt → Bool) (g : List Prt) (h : g.length ≤ 16) (ks : List Nat) (hk : ∀ k ∈ ks, k < g.length) : (flK t g ks).length ≤ 16 * ks.length := by
  induction ks with
  | nil => simp [flK]
  | cons k ks ih =>
    have h1 := ih (fun x hx => hk x (List.mem_cons_of_mem _ hx))
    have h2 := selL_len (keepsAt t g) g (endN g k - k) k
    have h3 := endN_le (g := g) (i := k) (hk k (List.mem_cons_self ..))
    unfold flK at h1 ⊢
    simp at h1 ⊢
    omega
/-- the visits of all pieces from f up to e keep what is kept there -/
theorem flK_all (t : Prt → Bool) (g : List Prt) : ∀ (m f e : Nat), e ≤ g.length → (∀ i, f ≤ i → i < e → endN g i ≤ e) → e - f ≤ m → flK t g (kdS g m f e) = selL (keepsAt t g) g f (e - f)
  | 0, f, e, _, _, hm => by rw [show e - f = 0 by omega]; rfl
  | m + 1, f, e, he, hn, hm => by
    by_cases h : f < e
    · have hgt := endN_gt g f
      have hle := hn f (Nat.le_refl _) h
      have ih := flK_all t g m (endN g f) e he (fun i a b => hn i (by omega) b) (by omega)
      have e1 : kdS g (m + 1) f e = f :: kdS g m (endN g f) e := by
        show (if f < e then _ else _) = _
        rw [if_pos h]
      have e2 : e - f = (endN g f - f) + (e - endN g f) := by omega
      rw [e1, e2, selL_append, show f + (endN g f - f) = endN g f by omega, ← ih]
      unfold flK; simp
    · have e1 : kdS g (m + 1) f e = [] := by
        show (if f < e then _ else _) = _
        rw [if_neg h]
      rw [e1, show e - f = 0 by omega]; rfl
/-- the leaves of a piece that pass -/
theorem any_piece (p : Lef → Bool) (g : List Prt) (f : Nat) : ∀ e, e ≤ g.length → f ≤ e → (leavesL ((g.drop f).take (e - f))).any p = anyF (passAt (fun q => p ⟨q.cls, q.code⟩) g) f (e - f)
  | e, he, hfe => by
    rw [Bool.eq_iff_iff, anyF_iff, List.any_eq_true]
    unfold leavesL
    constructor
    · rintro ⟨x, hx, hp⟩
      obtain ⟨q, hq, rfl⟩ := List.mem_map.1 hx
      obtain ⟨hm, hg⟩ := List.mem_filter.1 hq
      obtain ⟨i, hi, e1⟩ := List.getElem_of_mem hm
      rw [List.length_take, List.length_drop] at hi
      rw [List.getElem_take, List.getElem_drop] at e1
      refine ⟨f + i, by omega, by omega, ?_⟩
      unfold passAt
      rw [gAt_at (by omega), e1]
      simp only [Bool.and_eq_true]
      exact ⟨by simpa using hg, hp⟩
    · rintro ⟨i, h1, h2, hp⟩
      have hi : i < g.length := by omega
      unfold passAt at hp
      rw [gAt_at hi] at hp
      simp only [Bool.and_eq_true] at hp
      refine ⟨⟨g[i].cls, g[i].code⟩, List.mem_map.2 ⟨g[i], List.mem_filter.2 ⟨?_, by simpa using hp.1⟩, rfl⟩, hp.2⟩
      have : (List.take (e - f) (List.drop f g))[i - f]'(by rw [List.length_take, List.length_drop]; omega) = g[i] := by
        rw [List.getElem_take, List.getElem_drop]
        congr 1; omega
      rw [← this]
      exact List.getElem_mem _
end Go.Proofs.Ytpdggodmiliijaa
