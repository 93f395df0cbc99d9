/- append onto a full slice that reads as a list -/
import Derived.Test.YtakkmgeocmndjaaAP
import Derived.ArgAppend
namespace Go.Proofs.Ytakkmgeocmndjaa
open Go.RowKit
section
variable {α : Type} [Enc α] [EncOne α] {P : Program} {w : World}
omit [EncOne α] in
theorem sl_cells_some {ad : Addr} {m c : Nat} {ys : List α} (hS : Sl w (some ad) m c ys) : ∀ j u, (ys.flatMap Enc.cells)[j]? = some u → w.cell? (ad.add j) = some u := by
  intro j u hu
  rcases Nat.eq_zero_or_pos m with h0 | h0
  · have hy : ys = [] := List.eq_nil_of_length_eq_zero (by rw [hS.len, h0])
    subst hy; simp at hu
  · obtain ⟨b, off, h, _, hc⟩ := hS.at_ h0
    injection h with h
    subst h
    rw [Addr.add_lit]; exact hc j u hu
theorem run_append_full (t ty e : TypeId) (i : TypeInfo) (z : Value) (bytes : Nat) (ht : P.underlying t = some (.slice e)) (hi : P.info? e = some i) (hz : i.zero = some z)
    (hsize : i.size = Enc.size α) (hby : i.bytes = bytes) (hzs : z.cells.size = Enc.size α) (ad : Addr) (n : Nat) (xs : List α) (hX : Sl w (some ad) n n xs)
    (A : Option Addr) (m c : Nat) (ys : List α) (hS : Sl w A m c ys) (h63 : n + m ≤ maxLen) (hbytes : (n + m) * bytes ≤ 140737488355328) :
    ∃ v' w', (Builtin.append_ #[t, t] ty #[.slice (some ad) n n, .slice A m c]).run P w = .ok v' w' ∧ Le w w' ∧
      ((m = 0 ∧ v' = .slice (some ad) n n ∧ w' = w) ∨ (w'.ownsRow w.heap.size e (Enc.size α) v' (n + m) ((xs ++ ys).flatMap Enc.cells))) := by
  have hm : (ys.flatMap (Enc.cells (α := α))).length = m * Enc.size α := by rw [flat_len, hS.len]
  have hx : (xs.flatMap (Enc.cells (α := α))).length = n * Enc.size α := by rw [flat_len, hX.len]
  rcases Nat.eq_zero_or_pos m with h0 | h0
  · subst h0
    refine ⟨.slice (some ad) n n, w, ?_, Le.refl w, .inl ⟨rfl, rfl, rfl⟩⟩
    cases A with
    | none => simp [Builtin.append_, run_underlying ht, sizeOf, typeInfo, hi, Builtin.lenOf, Builtin.firstCells, storeCells]
    | some a2 =>
      have hl : (loadCells a2 0).run P w = .ok #[] w := by simpa using run_loadCells_list (P := P) w a2 [] (by simp)
      simp [Builtin.append_, run_underlying ht, sizeOf, typeInfo, hi, Builtin.lenOf, Builtin.firstCells, storeCells, hl]
  · obtain ⟨b, off, rfl, _, _⟩ := hS.at_ h0
    obtain ⟨v', w', hrun, r1, r2⟩ := run_append_arg_grows (P := P) w t ty e i z (Enc.size α) bytes ht hi hz hsize hby hzs EncOne.pos ad n n _ hx (sl_cells_some hX) ⟨b, off, none⟩ m c _ hm (sl_cells_some hS) (by omega) h63 hbytes
    exact ⟨v', w', hrun, (Le.refl w).grown r2 (fun k hk => by cases hk), .inr (by rw [List.flatMap_append]; exact r1)⟩
theorem wpList_append_full {ops : Array Oper} {rest : List Oper} {o : Oper} {a : Act} {Q : Exit → Act → World → Prop} (hgd : o.guard = none) (s x : Operand) (t : TypeId)
    (ho : o.op = .call { callee := .builtin .append, args := #[s, x], argTypes := #[t, t] })
    (e : TypeId) (i : TypeInfo) (z : Value) (bytes : Nat) (ht : P.underlying t = some (.slice e)) (hi : P.info? e = some i) (hz : i.zero = some z)
    (hsize : i.size = Enc.size α) (hby : i.bytes = bytes) (hzs : z.cells.size = Enc.size α) (ad : Addr) (n : Nat) (xs : List α) (hs : a.eval s = .slice (some ad) n n) (hX : Sl w (some ad) n n xs)
    (A : Option Addr) (m c : Nat) (ys : List α) (hx : a.eval x = .slice A m c) (hS : Sl w A m c ys) (h63 : n + m ≤ maxLen) (hbytes : (n + m) * bytes ≤ 140737488355328)
    (h : ∀ v' w', Le w w' → ((m = 0 ∧ v' = .slice (some ad) n n ∧ w' = w) ∨ (w'.ownsRow w.heap.size e (Enc.size α) v' (n + m) ((xs ++ ys).flatMap Enc.cells))) → wpList P ops Q rest (a.put o.dst v') w') : wpList P ops Q (o :: rest) a w := by
  refine wpList_plain hgd fun K hK => ?_
  obtain ⟨v', w', hrun, h2, h3⟩ := run_append_full (P := P) (w := w) t o.type e i z bytes ht hi hz hsize hby hzs ad n xs hX A m c ys hS h63 hbytes
  unfold Oper.wp execOp
  simp only [ho, resolve, invoke, builtin, Sem.run_bind, Sem.run_pure, Result.andThen_ok, List.map_toArray, List.map_cons, List.map_nil, hs, hx, hrun]
  exact hK _ _ (h v' w' h2 h3)
end
end Go.Proofs.Ytakkmgeocmndjaa
