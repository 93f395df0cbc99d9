/- windows of rows of the call's own: a slice that begins anywhere in such a row -/
import Derived.Test.YtakkmgeocmndjaaCP
namespace Go.Proofs.Ytakkmgeocmndjaa
open Go.RowKit
def ownsWin (w : World) (base : Nat) (e : TypeId) (size : Nat) (v : Value) (n : Nat) (xs : List Value) : Prop :=
  w.ownsRow base e size v n xs ∨
  ∃ g N pre post c c', w.ownsRow base e size (.slice (some ⟨g, 0, none⟩) N c') N (pre ++ xs ++ post) ∧ xs.length = n * size ∧ v = .slice (some ⟨g, pre.length, none⟩) n c ∧ n ≤ c ∧ c ≤ 9223372036854775807
theorem ownsWin.le {w w' : World} {base : Nat} {e : TypeId} {size : Nat} {v : Value} {n : Nat} {xs : List Value} (h : ownsWin w base e size v n xs) (hl : Le w w') : ownsWin w' base e size v n xs :=
  h.imp (own_le · hl) fun ⟨g, N, pre, post, c, c', h, r⟩ => ⟨g, N, pre, post, c, c', own_le h hl, r⟩
theorem ownsWin.drew {w : World} {base : Nat} {e : TypeId} {size : Nat} {v : Value} {n : Nat} {xs : List Value} (h : ownsWin w base e size v n xs) : ownsWin w.drew base e size v n xs := h.le (Le.refl _).drew
theorem ownsWin.kept {w w' : World} {base : Nat} {e : TypeId} {size : Nat} {v : Value} {n : Nat} {xs : List Value} {row : Option Nat} (h : ownsWin w base e size v n xs) (hg : w.grownBy w' row) (hne : v.ownBlock = none ∨ v.ownBlock ≠ row) : ownsWin w' base e size v n xs := by
  rcases h with h | ⟨g, N, pre, post, c, c', h, hl, rfl, r⟩
  · exact .inl (h.kept hg hne)
  · exact .inr ⟨g, N, pre, post, c, c', h.kept hg hne, hl, rfl, r⟩
theorem ownsWin.lt {w : World} {base : Nat} {e : TypeId} {size : Nat} {v : Value} {n : Nat} {xs : List Value} (h : ownsWin w base e size v n xs) : ∀ k, v.ownBlock = some k → base ≤ k ∧ k < w.heap.size := by
  rcases h with h | ⟨g, N, pre, post, c, c', h, hl, rfl, r⟩
  · exact h.lt
  · exact h.lt
theorem win_mono {w : World} {base base' : Nat} {e : TypeId} {size n : Nat} {v : Value} {xs : List Value} (h : ownsWin w base e size v n xs) (hb : base' ≤ base) : ownsWin w base' e size v n xs :=
  h.imp (own_mono · hb) fun ⟨g, N, pre, post, c, c', h, r⟩ => ⟨g, N, pre, post, c, c', own_mono h hb, r⟩
theorem win_form {w : World} {base size n : Nat} {e : TypeId} {v : Value} {xs : List Value} (h : ownsWin w base e size v n xs) : ∃ A c, v = .slice A n c := by
  rcases h with h | ⟨g, N, pre, post, c, c', h, hl, rfl, r⟩
  · exact own_form h
  · exact ⟨_, _, rfl⟩
theorem Sl.of_win {α : Type} [Enc α] {w : World} {base : Nat} {e : TypeId} {size : Nat} {A : Option Addr} {n cap : Nat} {xs : List α} (h : ownsWin w base e size (.slice A n cap) n (xs.flatMap Enc.cells)) (hs : size = Enc.size α) (hp : 0 < size) (hok : ∀ x ∈ xs, Enc.ok x) : Sl w A n cap xs := by
  rcases h with h | ⟨g, N, pre, post, c, c', h, hl, hv, h1, h2⟩
  · exact Sl.of_own h hs hp hok
  · simp only [Value.slice.injEq, true_and] at hv
    obtain ⟨rfl, rfl⟩ := hv
    rw [flat_len, hs] at hl
    have hlen : xs.length = n := Nat.eq_of_mul_eq_mul_right (by omega) hl
    refine ⟨hlen, h1, h2, hok, fun _ => ⟨g, pre.length, rfl, (h.lt g rfl).2, fun j u hu => ?_⟩⟩
    have hj : j < (xs.flatMap (Enc.cells (α := α))).length := (List.getElem?_eq_some_iff.1 hu).1
    have := h.cellAt (pre.length + j) (by rw [← h.1]; simp only [List.length_append]; omega)
    rw [this, List.append_assoc, List.getElem?_append_right (by omega), Nat.add_sub_cancel_left, List.getElem?_append_left hj]
    exact hu
structure OwdW {α : Type} [Enc α] (T : TypeId) (w0 w : World) (v : Value) (xs : List α) : Prop where
  row : ownsWin w w0.heap.size T (Enc.size α) v xs.length (xs.flatMap Enc.cells)
  ok : ∀ x ∈ xs, Enc.ok x
theorem OwdW.of {α : Type} [Enc α] {T : TypeId} {w0 w : World} {v : Value} {xs : List α} (h : Owd T w0 w v xs) : OwdW T w0 w v xs := ⟨.inl h.row, h.ok⟩
theorem OwdW.le {α : Type} [Enc α] {T : TypeId} {w0 w w' : World} {v : Value} {xs : List α} (h : OwdW T w0 w v xs) (hl : Le w w') : OwdW T w0 w' v xs := ⟨h.row.le hl, h.ok⟩
theorem OwdW.mono {α : Type} [Enc α] {T : TypeId} {w0 w00 w : World} {v : Value} {xs : List α} (h : OwdW T w0 w v xs) (hl : Le w00 w0) : OwdW T w00 w v xs := ⟨win_mono h.row hl.size, h.ok⟩
theorem OwdW.form {α : Type} [Enc α] {T : TypeId} {w0 w : World} {v : Value} {xs : List α} (h : OwdW T w0 w v xs) (hp : 0 < Enc.size α) : ∃ A c, v = .slice A xs.length c ∧ Sl w A xs.length c xs ∧ (∀ k, (Value.slice A xs.length c).ownBlock = some k → w0.heap.size ≤ k ∧ k < w.heap.size) := by
  obtain ⟨A, c, rfl⟩ := win_form h.row
  exact ⟨A, c, rfl, Sl.of_win h.row rfl hp h.ok, fun k hk => h.row.lt k hk⟩
/-- the two parts of a row -/
theorem win_head {α : Type} [Enc α] {T : TypeId} {w0 w : World} {g n : Nat} {xs : List α} (h : w.ownsRow w0.heap.size T (Enc.size α) (.slice (some ⟨g, 0, none⟩) n n) n (xs.flatMap Enc.cells)) (hl : xs.length = n) (hm : n ≤ 2097152) (hok : ∀ x ∈ xs, Enc.ok x) (k : Nat) (hk : k ≤ n) :
    OwdW T w0 w (.slice (some ⟨g, 0, none⟩) k k) (xs.take k) := by
  have e : (xs.take k).length = k := by rw [List.length_take]; omega
  refine ⟨?_, fun x hx => hok x (List.mem_of_mem_take hx)⟩
  rw [e]
  refine .inr ⟨g, n, [], (xs.drop k).flatMap Enc.cells, k, n, ?_, by rw [flat_len, e], rfl, Nat.le_refl _, by omega⟩
  rw [List.nil_append, ← List.flatMap_append, List.take_append_drop]; exact h
theorem win_rest {α : Type} [Enc α] {T : TypeId} {w0 w : World} {g n : Nat} {xs : List α} (h : w.ownsRow w0.heap.size T (Enc.size α) (.slice (some ⟨g, 0, none⟩) n n) n (xs.flatMap Enc.cells)) (hl : xs.length = n) (hm : n ≤ 2097152) (hok : ∀ x ∈ xs, Enc.ok x) (k : Nat) (hk : k ≤ n) {s : Nat} (hs : s = Enc.size α) :
    OwdW T w0 w (.slice (if n = k then some ⟨g, 0, none⟩ else some ⟨g, k * s, none⟩) (n - k) (n - k)) (xs.drop k) := by
  have e : (xs.drop k).length = n - k := by rw [List.length_drop]; omega
  refine ⟨?_, fun x hx => hok x (List.mem_of_mem_drop hx)⟩
  rw [e]
  by_cases hnk : n = k
  · subst hnk
    rw [if_pos rfl]
    have e2 : xs.drop n = [] := List.drop_eq_nil_of_le (by omega)
    rw [e2]
    refine .inr ⟨g, n, [], xs.flatMap Enc.cells, n - n, n, by simpa using h, by simp, rfl, Nat.le_refl _, by omega⟩
  · rw [if_neg hnk]
    have e3 : ((xs.take k).flatMap (Enc.cells (α := α))).length = k * s := by rw [flat_len, List.length_take, Nat.min_eq_left (by omega), hs]
    refine .inr ⟨g, n, (xs.take k).flatMap Enc.cells, [], n - k, n, ?_, by rw [flat_len, e], by rw [e3], Nat.le_refl _, by omega⟩
    rw [List.append_nil, ← List.flatMap_append, List.take_append_drop]; exact h
end Go.Proofs.Ytakkmgeocmndjaa
