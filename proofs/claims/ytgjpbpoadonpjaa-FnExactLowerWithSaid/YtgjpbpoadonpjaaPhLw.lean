/- programs: what is opened, closed by a try: lower of the program, lowered of the model -/
import Derived.Test.YtgjpbpoadonpjaaPhPr
import Derived.Test.YtgjpbpoadonpjaaPhC
namespace Go.Proofs.Ytgjpbpoadonpjaa
open Go.RowKit
def lwStep (rec : List Lin → List Lin) (p : List Lin) : Nat → Nat → List Lin
  | 0, _ => []
  | m + 1, i => match p[i]? with
    | none => []
    | some x => if x.kind = 11 ∧ x.b ≠ 1 then (([⟨x.depth, 1, x.a, 0⟩, ⟨x.depth, 7, 0, 0⟩] ++ rec ((p.take (bEnd p i)).drop (i + 1))) ++ [⟨x.depth, 10, 0, 0⟩, ⟨x.depth + 1, 1, x.a, 0⟩]) ++ lwStep rec p m (bEnd p i) else x :: lwStep rec p m (i + 1)
/-- a program in which what is opened is closed by a try -/
def lwN : Nat → List Lin → List Lin
  | 0, _ => []
  | n + 1, p => lwStep (lwN n) p p.length 0
theorem lwStep_at {rec : List Lin → List Lin} {p : List Lin} {m i : Nat} (h : i < p.length) : lwStep rec p (m + 1) i = if p[i].kind = 11 ∧ p[i].b ≠ 1 then (([⟨p[i].depth, 1, p[i].a, 0⟩, ⟨p[i].depth, 7, 0, 0⟩] ++ rec ((p.take (bEnd p i)).drop (i + 1))) ++ [⟨p[i].depth, 10, 0, 0⟩, ⟨p[i].depth + 1, 1, p[i].a, 0⟩]) ++ lwStep rec p m (bEnd p i) else p[i] :: lwStep rec p m (i + 1) := by
  show (match p[i]? with | none => _ | some x => _) = _
  rw [List.getElem?_eq_getElem h]
theorem lwStep_end {rec : List Lin → List Lin} {p : List Lin} {m i : Nat} (h : ¬ i < p.length) : lwStep rec p m i = [] := by
  cases m with
  | zero => rfl
  | succ m =>
    show (match p[i]? with | none => _ | some x => _) = _
    rw [List.getElem?_eq_none (by omega)]
theorem sub_len {p : List Lin} {i : Nat} (h : i < p.length) : ((p.take (bEnd p i)).drop (i + 1)).length = bEnd p i - (i + 1) := by
  rw [List.length_drop, List.length_take, Nat.min_eq_left (bEnd_le h)]
theorem lwStep_len {rec : List Lin → List Lin} (hr : ∀ q, (rec q).length ≤ 4 * q.length) (p : List Lin) : ∀ m i, (lwStep rec p m i).length ≤ 4 * (p.length - i)
  | 0, i => Nat.zero_le _
  | m + 1, i => by
    rcases Nat.lt_or_ge i p.length with h | h
    · rw [lwStep_at h]
      have h1 := bEnd_gt p i
      have h2 := bEnd_le h
      split
      · have h3 := lwStep_len hr p m (bEnd p i)
        have h4 := hr ((p.take (bEnd p i)).drop (i + 1))
        rw [sub_len h] at h4
        simp only [List.length_append, List.length_cons, List.length_nil]
        omega
      · have h3 := lwStep_len hr p m (i + 1)
        rw [List.length_cons]
        omega
    · rw [lwStep_end (by omega)]; exact Nat.zero_le _
theorem lwN_len : ∀ n p, (lwN n p).length ≤ 4 * p.length
  | 0, p => Nat.zero_le _
  | n + 1, p => by
    have := lwStep_len (lwN_len n) p p.length 0
    simpa [lwN] using this
/-- what lower asks of a line -/
def LwOk (x : Lin) : Prop := Enc.ok x ∧ x.depth ≤ 5
theorem lin_mk {d k a b : Int} (hd : -9223372036854775808 ≤ d ∧ d ≤ 9223372036854775807) (hk : 0 ≤ k ∧ k ≤ 100) (ha : -9223372036854775808 ≤ a ∧ a ≤ 9223372036854775807) (hb : 0 ≤ b ∧ b ≤ 100) : Enc.ok (⟨d, k, a, b⟩ : Lin) :=
  ⟨hd.1, hd.2, show (-9223372036854775808 : Int) ≤ k by omega, show k ≤ 9223372036854775807 by omega, ha.1, ha.2, show (-9223372036854775808 : Int) ≤ b by omega, show b ≤ 9223372036854775807 by omega⟩
theorem lw_lines {x : Lin} (h : LwOk x) : Enc.ok (⟨x.depth, 1, x.a, 0⟩ : Lin) ∧ Enc.ok (⟨x.depth, 7, 0, 0⟩ : Lin) ∧ Enc.ok (⟨x.depth, 10, 0, 0⟩ : Lin) ∧ Enc.ok (⟨x.depth + 1, 1, x.a, 0⟩ : Lin) := by
  have h1 := h.1.1
  have h2 := h.2
  have ha : -9223372036854775808 ≤ x.a ∧ x.a ≤ 9223372036854775807 := ⟨h.1.2.2.2.2.1, h.1.2.2.2.2.2.1⟩
  exact ⟨lin_mk (by omega) (by omega) ha (by omega), lin_mk (by omega) (by omega) (by omega) (by omega), lin_mk (by omega) (by omega) (by omega) (by omega), lin_mk (by omega) (by omega) ha (by omega)⟩
theorem lwStep_ok {rec : List Lin → List Lin} {p : List Lin} (hp : ∀ x ∈ p, LwOk x) (hr : ∀ q, (∀ x ∈ q, LwOk x) → ∀ y ∈ rec q, Enc.ok y) : ∀ m i, ∀ y ∈ lwStep rec p m i, Enc.ok y
  | 0, _, y, h => nomatch h
  | m + 1, i, y, h => by
    rcases Nat.lt_or_ge i p.length with hi | hi
    · rw [lwStep_at hi] at h
      have hx := hp _ (List.getElem_mem hi)
      have hl := lw_lines hx
      split at h
      · rcases List.mem_append.1 h with h | h
        · rcases List.mem_append.1 h with h | h
          · rcases List.mem_append.1 h with h | h
            · simp only [List.mem_cons, List.not_mem_nil, or_false] at h
              rcases h with rfl | rfl
              · exact hl.1
              · exact hl.2.1
            · exact hr _ (fun x hx => hp x (List.mem_of_mem_take (List.mem_of_mem_drop hx))) y h
          · simp only [List.mem_cons, List.not_mem_nil, or_false] at h
            rcases h with rfl | rfl
            · exact hl.2.2.1
            · exact hl.2.2.2
        · exact lwStep_ok hp hr m _ y h
      · rcases List.mem_cons.1 h with rfl | h
        · exact hx.1
        · exact lwStep_ok hp hr m _ y h
    · rw [lwStep_end (by omega)] at h; cases h
theorem lwN_ok : ∀ n p, (∀ x ∈ p, LwOk x) → ∀ y ∈ lwN n p, Enc.ok y
  | 0, _, _, _, h => nomatch h
  | n + 1, p, hp, y, h => lwStep_ok hp (fun q hq => lwN_ok n q hq) p.length 0 y h
theorem sl_win {w : World} {b off n cap : Nat} {p : List Lin} (h : Sl w (some ⟨b, off, none⟩) n cap p) {lo hi : Nat} (h1 : lo ≤ hi) (h2 : hi ≤ n) : Sl w (some ⟨b, off + lo * 4, none⟩) (hi - lo) (cap - lo) ((p.take hi).drop lo) := by
  have ht := h.take_ hi h2
  refine ⟨by rw [List.length_drop, ht.len], by have := h.cap_; omega, by have := h.max; omega, fun x hx => ht.ok x (List.mem_of_mem_drop hx), fun hn => ?_⟩
  obtain ⟨b', off', e, hb, hc⟩ := ht.at_ (by omega)
  injection e with e
  injection e with e1 e2
  subst e1
  subst e2
  refine ⟨b, off + lo * 4, rfl, hb, fun j u hu => ?_⟩
  have hsplit : (p.take hi).flatMap (Enc.cells (α := Lin)) = ((p.take hi).take lo).flatMap Enc.cells ++ ((p.take hi).drop lo).flatMap Enc.cells := by rw [← List.flatMap_append, List.take_append_drop]
  have hl : (((p.take hi).take lo).flatMap (Enc.cells (α := Lin))).length = lo * 4 := by rw [flat_len, List.length_take, ht.len, Nat.min_eq_left h1]; rfl
  have := hc (lo * 4 + j) u (by rw [hsplit, List.getElem?_append_right (by omega), hl, Nat.add_sub_cancel_left]; exact hu)
  rw [Nat.add_assoc]; exact this
theorem sl_two {w : World} {T : TypeId} (x y : Lin) (hx : Enc.ok x) (hy : Enc.ok y) {b : Nat} (hb : b = w.heap.size) : Sl (w.alloc (.cells #[.int .i64 x.depth, .int .i64 x.kind, .int .i64 x.a, .int .i64 x.b, .int .i64 y.depth, .int .i64 y.kind, .int .i64 y.a, .int .i64 y.b] T)) (some ⟨b, 0, none⟩) 2 2 [x, y] := by
  subst hb
  refine ⟨rfl, Nat.le_refl _, by omega, fun z hz => ?_, fun _ => ⟨_, 0, rfl, by simp, fun j u hu => ?_⟩⟩
  · simp only [List.mem_cons, List.not_mem_nil, or_false] at hz
    rcases hz with rfl | rfl
    · exact hx
    · exact hy
  · rw [Nat.zero_add, World.cell?_alloc_at _ _ _ _ rfl]
    simpa [Enc.cells] using hu
end Go.Proofs.Ytgjpbpoadonpjaa
