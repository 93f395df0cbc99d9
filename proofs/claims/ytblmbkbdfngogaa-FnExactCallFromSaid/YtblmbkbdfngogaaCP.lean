/- copy of a slice that reads as a list over a row of the call's own of the same length -/
import Derived.Test.YtblmbkbdfngogaaAP
import Derived.Laws.CopyOwn
namespace Go.Proofs.Ytblmbkbdfngogaa
open Go.RowKit
section
variable {α : Type} [Enc α] [EncOne α] {P : Program} {w : World}
theorem run_copy_sl (base : Nat) (dT sT ty e : TypeId) (i : TypeInfo) (ht : P.underlying dT = some (.slice e)) (hi : P.info? e = some i) (hsize : i.size = Enc.size α) (g n cap : Nat) (zs : List Value)
    (hown : w.ownsRow base e (Enc.size α) (.slice (some ⟨g, 0, none⟩) n cap) n zs) (A : Option Addr) (c : Nat) (ys : List α) (hS : Sl w A n c ys) :
    ∃ w', (Builtin.copy_ #[dT, sT] ty #[.slice (some ⟨g, 0, none⟩) n cap, .slice A n c]).run P w = .ok (goInt n) w' ∧ w'.ownsRow base e (Enc.size α) (.slice (some ⟨g, 0, none⟩) n cap) n (ys.flatMap Enc.cells) ∧ w.grownBy w' (some g) := by
  have hm : (ys.flatMap (Enc.cells (α := α))).length = n * Enc.size α := by rw [flat_len, hS.len]
  have hown' := hown
  rcases hown.2 with ⟨h, _⟩ | ⟨g', cap', cur, h, hb, hg, hnc, hmx, hsz, htk⟩
  · cases h
  · simp only [Value.slice.injEq, Option.some.injEq, Addr.mk.injEq, and_true, true_and] at h
    obtain ⟨rfl, rfl⟩ := h
    rcases A with _ | ad
    · have h0 : n = 0 := by
        rcases Nat.eq_zero_or_pos n with h0 | h0
        · exact h0
        · obtain ⟨b, off, h, _⟩ := hS.at_ h0; cases h
      subst h0
      have hy : ys = [] := List.eq_nil_of_length_eq_zero hS.len
      subst hy
      have hz : zs = [] := List.eq_nil_of_length_eq_zero (by rw [hown.1]; simp)
      subst hz
      refine ⟨w, ?_, hown', World.grownBy.refl w _⟩
      simp [Builtin.copy_, run_underlying ht, sizeOf, typeInfo, hi, Builtin.lenOf, Builtin.firstCells, storeCells]
    · have hcells : ∀ j u, (ys.flatMap Enc.cells)[j]? = some u → w.cell? (ad.add j) = some u := by
        intro j u hu
        rcases Nat.eq_zero_or_pos n with h0 | h0
        · have hy : ys = [] := List.eq_nil_of_length_eq_zero (by rw [hS.len, h0])
          subst hy; simp at hu
        · obtain ⟨b, off, h, _, hc⟩ := hS.at_ h0
          injection h with h
          subst h
          have e : (⟨b, off, none⟩ : Addr).add j = ⟨b, off + j, none⟩ := by
            unfold Addr.add; split
            · next h => subst h; rfl
            · rfl
          rw [e]; exact hc j u hu
      have hfit : 0 + 0 + (ys.flatMap (Enc.cells (α := α))).length ≤ cur.size := by
        rw [hm, hsz]; simpa using Nat.mul_le_mul_right _ hnc
      have hl := run_loadCells_list (P := P) w ad _ hcells
      have hst := run_storeCells_at P g 0 e _ 0 cur w hg hfit (EncOne.all ys)
      obtain ⟨Z, hZ⟩ : ∃ Z, Z = ys.flatMap (Enc.cells (α := α)) ++ cur.toList.drop (ys.flatMap (Enc.cells (α := α))).length := ⟨_, rfl⟩
      have hst' : (storeCells ⟨g, 0, none⟩ (ys.flatMap (Enc.cells (α := α)))).run P w = .ok () (w.setRow g Z.toArray) := by
        rw [hZ]; simpa using hst
      have hZ1 : Z.length = cap * Enc.size α := by
        have h1 : (ys.flatMap (Enc.cells (α := α))).length ≤ cur.toList.length := by simpa using hfit
        rw [hZ, List.length_append, List.length_drop, ← hsz, ← Array.length_toList]; omega
      have hZ2 : Z.take (n * Enc.size α) = ys.flatMap (Enc.cells (α := α)) := by rw [hZ, ← hm, List.take_left]
      clear hZ hst
      refine ⟨w.setRow g Z.toArray, ?_, ⟨hm, .inr ⟨g, cap, Z.toArray, rfl, hb, setRow_heap w g cur _ e _ hg, hnc, hmx, by simpa using hZ1, by simpa using hZ2⟩⟩, ?_⟩
      · rw [hm] at hl
        simp [Builtin.copy_, run_underlying ht, Builtin.lenOf, Builtin.firstCells, sizeOf, typeInfo, hi, hsize, hl, hst']
      · exact ⟨rfl, rfl, rfl, by simp [World.setRow], fun k hk hne => setRow_other w g k _ (fun e => hne (by rw [e]))⟩
theorem wpList_copy_sl {ops : Array Oper} {rest : List Oper} {o : Oper} {a : Act} {Q : Exit → Act → World → Prop} (hgd : o.guard = none) (d s : Operand) (dT sT : TypeId)
    (ho : o.op = .call { callee := .builtin .copy, args := #[d, s], argTypes := #[dT, sT] })
    (base : Nat) (e : TypeId) (i : TypeInfo) (ht : P.underlying dT = some (.slice e)) (hi : P.info? e = some i) (hsize : i.size = Enc.size α) (g n cap : Nat) (zs : List Value)
    (hd : a.eval d = .slice (some ⟨g, 0, none⟩) n cap) (hown : w.ownsRow base e (Enc.size α) (.slice (some ⟨g, 0, none⟩) n cap) n zs) (A : Option Addr) (c : Nat) (ys : List α) (hs : a.eval s = .slice A n c) (hS : Sl w A n c ys)
    (h : ∀ w', w'.ownsRow base e (Enc.size α) (.slice (some ⟨g, 0, none⟩) n cap) n (ys.flatMap Enc.cells) → w.grownBy w' (some g) → wpList P ops Q rest (a.put o.dst (goInt n)) w') : wpList P ops Q (o :: rest) a w := by
  refine wpList_plain hgd fun K hK => ?_
  obtain ⟨w', hrun, h2, h3⟩ := run_copy_sl (P := P) (w := w) base dT sT o.type e i ht hi hsize g n cap zs hown A c ys hS
  unfold Oper.wp
  simp [execOp, ho, resolve, invoke, builtin, hd, hs, hrun, Result.andThen]
  exact hK _ _ (h w' h2 h3)
omit [Enc α] [EncOne α] in
theorem take_splice {β : Type} (L : List β) (off c m : Nat) (cs : List β) (hc : cs.length = c) (h : off + c ≤ m) (hm : m ≤ L.length) : (L.take off ++ cs ++ L.drop (off + c)).take m = (L.take m).take off ++ cs ++ (L.take m).drop (off + c) := by
  have e1 : (L.take off ++ cs).length = off + c := by simp [hc]; omega
  rw [List.take_append, e1, List.take_of_length_le (by omega), List.take_take, Nat.min_eq_left (by omega), List.drop_take]
omit [Enc α] [EncOne α] in
/-- copy into a row of the call's own, anywhere; the cells that go over are given -/
theorem run_copy_win {size : Nat} (base : Nat) (dT sT ty e : TypeId) (i : TypeInfo) (ht : P.underlying dT = some (.slice e)) (hi : P.info? e = some i) (hsize : i.size = size) (g N cap : Nat) (zs : List Value)
    (hown : w.ownsRow base e size (.slice (some ⟨g, 0, none⟩) N cap) N zs) (off dl dc : Nat) (ad : Addr) (sl sc k : Nat) (hk : Nat.min sl dl = k) (cs : List Value) (hcs : cs.length = k * size) (hsrc : ∀ j u, cs[j]? = some u → w.cell? (ad.add j) = some u)
    (h1 : ∀ u ∈ cs, u.oneCell' = true) (hfit : off + k * size ≤ N * size) :
    ∃ w', (Builtin.copy_ #[dT, sT] ty #[.slice (some ⟨g, off, none⟩) dl dc, .slice (some ad) sl sc]).run P w = .ok (goInt k) w' ∧ w'.ownsRow base e size (.slice (some ⟨g, 0, none⟩) N cap) N (zs.take off ++ cs ++ zs.drop (off + k * size)) ∧ w.grownBy w' (some g) := by
  have hz := hown.1
  rcases hown.2 with ⟨h, _⟩ | ⟨g', cap', cur, h, hb, hg, hnc, hmx, hsz, htk⟩
  · cases h
  · simp only [Value.slice.injEq, Option.some.injEq, Addr.mk.injEq, and_true, true_and] at h
    obtain ⟨rfl, rfl⟩ := h
    have hNc : N * size ≤ cap * size := Nat.mul_le_mul_right _ hnc
    have hcl : cur.toList.length = cap * size := by rw [Array.length_toList]; exact hsz
    have hfit2 : off + 0 + cs.length ≤ cur.size := by rw [hcs, hsz]; omega
    have hl := run_loadCells_list (P := P) w ad cs hsrc
    rw [hcs] at hl
    have hst := run_storeCells_at P g off e cs 0 cur w hg hfit2 h1
    obtain ⟨Z, hZ⟩ : ∃ Z, Z = cur.toList.take off ++ cs ++ cur.toList.drop (off + cs.length) := ⟨_, rfl⟩
    have hst' : (storeCells ⟨g, off, none⟩ cs).run P w = .ok () (w.setRow g Z.toArray) := by rw [hZ]; simpa using hst
    have hZ1 : Z.length = cap * size := by
      rw [hZ, List.length_append, List.length_append, List.length_take, List.length_drop, hcl, hcs]; omega
    have hZ2 : Z.take (N * size) = zs.take off ++ cs ++ zs.drop (off + k * size) := by
      rw [hZ, ← htk, hcs]
      exact take_splice cur.toList off (k * size) (N * size) cs hcs hfit (by rw [hcl]; exact hNc)
    clear hZ hst
    refine ⟨w.setRow g Z.toArray, ?_, ⟨?_, .inr ⟨g, cap, Z.toArray, rfl, hb, setRow_heap w g cur _ e _ hg, hnc, hmx, by simpa using hZ1, by simpa using hZ2⟩⟩, ?_⟩
    · simp [Builtin.copy_, run_underlying ht, Builtin.lenOf, Builtin.firstCells, sizeOf, typeInfo, hi, hsize, hk, hl, hst']
    · rw [List.length_append, List.length_append, List.length_take, List.length_drop, hz, hcs]; omega
    · exact ⟨rfl, rfl, rfl, by simp [World.setRow], fun k hk hne => setRow_other w g k _ (fun e => hne (by rw [e]))⟩
omit [Enc α] [EncOne α] in
theorem wpList_copy_win {size : Nat} {ops : Array Oper} {rest : List Oper} {o : Oper} {a : Act} {Q : Exit → Act → World → Prop} (hgd : o.guard = none) (d s : Operand) (dT sT : TypeId)
    (ho : o.op = .call { callee := .builtin .copy, args := #[d, s], argTypes := #[dT, sT] })
    (base : Nat) (e : TypeId) (i : TypeInfo) (ht : P.underlying dT = some (.slice e)) (hi : P.info? e = some i) (hsize : i.size = size) (g N cap : Nat) (zs : List Value)
    (hown : w.ownsRow base e size (.slice (some ⟨g, 0, none⟩) N cap) N zs) (off dl dc : Nat) (hd : a.eval d = .slice (some ⟨g, off, none⟩) dl dc) (ad : Addr) (sl sc k : Nat) (hs : a.eval s = .slice (some ad) sl sc) (hk : Nat.min sl dl = k) (cs : List Value) (hcs : cs.length = k * size) (hsrc : ∀ j u, cs[j]? = some u → w.cell? (ad.add j) = some u)
    (h1 : ∀ u ∈ cs, u.oneCell' = true) (hfit : off + k * size ≤ N * size)
    (h : ∀ w', w'.ownsRow base e size (.slice (some ⟨g, 0, none⟩) N cap) N (zs.take off ++ cs ++ zs.drop (off + k * size)) → w.grownBy w' (some g) → wpList P ops Q rest (a.put o.dst (goInt k)) w') : wpList P ops Q (o :: rest) a w := by
  refine wpList_plain hgd fun K hK => ?_
  obtain ⟨w', hrun, h2, h3⟩ := run_copy_win (P := P) (w := w) base dT sT o.type e i ht hi hsize g N cap zs hown off dl dc ad sl sc k hk cs hcs hsrc h1 hfit
  unfold Oper.wp
  simp [execOp, ho, resolve, invoke, builtin, hd, hs, hrun, Result.andThen]
  exact hK _ _ (h w' h2 h3)
omit [Enc α] [EncOne α] in
theorem step_copy_win {size : Nat} {ops : Array Oper} {o : Oper} {a : Act} {K : Act → World → Prop} {Q : Exit → Act → World → Prop} {E : Prop} (hgd : o.guard = none) (d s : Operand) (dT sT : TypeId)
    (ho : o.op = .call { callee := .builtin .copy, args := #[d, s], argTypes := #[dT, sT] })
    (base : Nat) (e : TypeId) (i : TypeInfo) (ht : P.underlying dT = some (.slice e)) (hi : P.info? e = some i) (hsize : i.size = size) (g N cap : Nat) (zs : List Value)
    (hown : w.ownsRow base e size (.slice (some ⟨g, 0, none⟩) N cap) N zs) (off dl dc : Nat) (hd : a.eval d = .slice (some ⟨g, off, none⟩) dl dc) (ad : Addr) (sl sc k : Nat) (hs : a.eval s = .slice (some ad) sl sc) (hk : Nat.min sl dl = k) (cs : List Value) (hcs : cs.length = k * size) (hsrc : ∀ j u, cs[j]? = some u → w.cell? (ad.add j) = some u)
    (h1 : ∀ u ∈ cs, u.oneCell' = true) (hfit : off + k * size ≤ N * size)
    (h : ∀ w', w'.ownsRow base e size (.slice (some ⟨g, 0, none⟩) N cap) N (zs.take off ++ cs ++ zs.drop (off + k * size)) → w.grownBy w' (some g) → K (a.put o.dst (goInt k)) w') :
    if Region.wanted o (yielded ops a.tmps) = true then Oper.wp P o a w K Q else E := by
  have hw : Region.wanted o (yielded ops a.tmps) = true := by simp [Region.wanted, hgd]
  rw [if_pos hw]
  obtain ⟨w', hrun, h2, h3⟩ := run_copy_win (P := P) (w := w) base dT sT o.type e i ht hi hsize g N cap zs hown off dl dc ad sl sc k hk cs hcs hsrc h1 hfit
  unfold Oper.wp
  simp [execOp, ho, resolve, invoke, builtin, hd, hs, hrun, Result.andThen]
  exact h w' h2 h3
end
end Go.Proofs.Ytblmbkbdfngogaa
