/- one text of YpR, AP, TtA, YpA, YpT, TkR, RZp, SpL, YpX, SlF, Bu -/
import Derived.Test.YtkcnjoikdalgjaaDoorDp3
import Derived.Test.YtkcnjoikdalgjaaDoorDp2
import Derived.Test.YtkcnjoikdalgjaaDoorDp1
import Derived.Test.YtkcnjoikdalgjaaDoorShelf
import Derived.Maps.AppendAt
import Derived.Deep.AppendLies
import Derived.RegionTactic
import Derived.OwnWalk
import Derived.Deep.RegionHeld3
namespace Go.Proofs.YtkcnjoikdalgjaaDoor
open Go.RowKit
set_option linter.unusedVariables false
section
/-- what a valid program is, in plain words (PhQ's vp_iff) -/
def VP (xs : List Cls) (p : List Lin) : Prop := okTree xs = true ∧ p.length ≤ 24 ∧ ∀ i (h : i < p.length), lineS xs p i p[i]
def pgB (xs : List Cls) (p : List Lin) : List UInt8 := catN (p.map (liT xs))
def plI (xs : List Cls) (s : List UInt8) : List Lin := (linesT s).map (pLI xs)
def plS (xs : List Cls) (s : List UInt8) : List Lin := ((splitL 10 s).take ((splitL 10 s).length - 1)).map (pLS xs)
theorem VP.line {xs : List Cls} {p : List Lin} (h : VP xs p) {x : Lin} (hx : x ∈ p) : numS xs x.kind x.a x.b = true ∧ 0 ≤ x.depth ∧ x.depth ≤ 5 := by
  obtain ⟨i, hi, rfl⟩ := List.getElem_of_mem hx
  have a := h.2.2 i hi
  have d := a.2.1.1
  rw [dep_at hi] at d
  exact ⟨a.1, d.1, d.2⟩
theorem VP.read {xs : List Cls} {p : List Lin} (h : VP xs p) {x : Lin} (hx : x ∈ p) : pLI xs (liT xs x) = x ∧ pLS xs (liT xs x) = x ∧ (10 : UInt8) ∉ liT xs x ∧ (liT xs x).length ≤ 30 :=
  line_read (good_of h.1) (h.line hx).1 (h.line hx).2.1 (h.line hx).2.2
theorem map_sameL {α : Type} {f : α → α} : ∀ {L : List α}, (∀ x ∈ L, f x = x) → L.map f = L
  | [], _ => rfl
  | x :: r, h => by rw [List.map_cons, h x (by simp), map_sameL (fun y hy => h y (List.mem_cons_of_mem _ hy))]
theorem pg_no {xs : List Cls} {p : List Lin} (h : VP xs p) : ∀ a ∈ p.map (liT xs), (10 : UInt8) ∉ a := fun a ha => by
  obtain ⟨x, hx, rfl⟩ := List.mem_map.1 ha
  exact (h.read hx).2.2.1
theorem pg_read {xs : List Cls} {p : List Lin} (h : VP xs p) : plI xs (pgB xs p) = p ∧ plS xs (pgB xs p) = p ∧ (linesT (pgB xs p)).length ≤ 24 := by
  have hn := pg_no h
  unfold plI plS pgB
  rw [linesT_cat hn, split_cat hn]
  refine ⟨?_, ?_, ?_⟩
  · rw [List.map_map]; exact map_sameL (fun x hx => (h.read hx).1)
  · rw [List.length_append, List.length_singleton, Nat.add_sub_cancel, List.take_left', List.map_map]
    · exact map_sameL (fun x hx => (h.read hx).2.1)
    · rfl
  · rw [List.length_map]; exact h.2.1
theorem pg_len {xs : List Cls} {p : List Lin} (h : VP xs p) : (pgB xs p).length ≤ 744 := by
  have := catN_len (m := 30) (L := p.map (liT xs)) (fun a ha => by
    obtain ⟨x, hx, rfl⟩ := List.mem_map.1 ha
    exact (h.read hx).2.2.2)
  rw [List.length_map] at this
  have := h.2.1
  show (catN _).length ≤ _; omega
theorem pg_count {xs : List Cls} {p : List Lin} (h : VP xs p) : (pgB xs p).count 10 = p.length := by
  unfold pgB
  rw [count_catN (pg_no h), List.length_map]
/-- the text of the first lines -/
theorem pg_pre {xs : List Cls} {p : List Lin} (h : VP xs p) (k : Nat) : (pgB xs (p.take k)).length ≤ 744 := by
  have := catN_len (m := 30) (L := (p.take k).map (liT xs)) (fun a ha => by
    obtain ⟨x, hx, rfl⟩ := List.mem_map.1 ha
    exact (h.read (List.mem_of_mem_take hx)).2.2.2)
  rw [List.length_map, List.length_take] at this
  have := h.2.1
  show (catN _).length ≤ _; omega
/-- the program of a text -/
noncomputable def ppX (xs : List Cls) (s : List UInt8) : List Lin := open Classical in if h : ∃ p, VP xs p ∧ pgB xs p = s then h.choose else []
noncomputable def ppO (xs : List Cls) (s : List UInt8) : Bool := open Classical in if ∃ p, VP xs p ∧ pgB xs p = s then true else false
theorem pp_some {xs : List Cls} {p : List Lin} {s : List UInt8} (h : VP xs p) (e : pgB xs p = s) : ppO xs s = true ∧ ppX xs s = p := by
  have hex : ∃ p, VP xs p ∧ pgB xs p = s := ⟨p, h, e⟩
  refine ⟨by unfold ppO; rw [if_pos hex], ?_⟩
  unfold ppX
  rw [dif_pos hex]
  have h1 := (pg_read hex.choose_spec.1).1
  rw [hex.choose_spec.2] at h1
  have h2 := (pg_read h).1
  rw [e] at h2
  exact h1.symm.trans h2
theorem pp_none {xs : List Cls} {s : List UInt8} (h : ∀ p, VP xs p → pgB xs p ≠ s) : ppO xs s = false ∧ ppX xs s = [] := by
  have hex : ¬ ∃ p, VP xs p ∧ pgB xs p = s := fun ⟨p, h1, h2⟩ => h p h1 h2
  exact ⟨by unfold ppO; rw [if_neg hex], by unfold ppX; rw [dif_neg hex]⟩
theorem pp_many {xs : List Cls} {s : List UInt8} (h : 24 < (linesT s).length) : ppO xs s = false ∧ ppX xs s = [] := pp_none fun p h1 e => by
  have := (pg_read h1).2.2
  rw [e] at this; omega
theorem pp_v {xs : List Cls} {s : List UInt8} (h : ¬ VP xs (plI xs s)) : ppO xs s = false ∧ ppX xs s = [] := pp_none fun p h1 e => by
  have h2 := (pg_read h1).1
  rw [e] at h2
  rw [h2] at h; exact h h1
theorem pp_text {xs : List Cls} {s : List UInt8} (e : pgB xs (plI xs s) ≠ s) : ppO xs s = false ∧ ppX xs s = [] := pp_none fun p h1 e2 => by
  have h2 := (pg_read h1).1
  rw [e2] at h2
  rw [h2] at e; exact e e2
theorem pps_v {xs : List Cls} {s : List UInt8} (h : ¬ VP xs (plS xs s)) : ppO xs s = false ∧ ppX xs s = [] := pp_none fun p h1 e => by
  have h2 := (pg_read h1).2.1
  rw [e] at h2
  rw [h2] at h; exact h h1
theorem pps_text {xs : List Cls} {s : List UInt8} (e : pgB xs (plS xs s) ≠ s) : ppO xs s = false ∧ ppX xs s = [] := pp_none fun p h1 e2 => by
  have h2 := (pg_read h1).2.1
  rw [e2] at h2
  rw [h2] at e; exact e e2
theorem pps_tree {xs : List Cls} {s : List UInt8} (h : okTree xs = false) : ppO xs s = false ∧ ppX xs s = [] := pp_none fun p h1 e => by
  rw [h1.1] at h; cases h
theorem pp_true {xs : List Cls} {s : List UInt8} (h : ppO xs s = true) : VP xs (ppX xs s) ∧ pgB xs (ppX xs s) = s := by
  by_cases hex : ∃ p, VP xs p ∧ pgB xs p = s
  · obtain ⟨p, h1, h2⟩ := hex
    rw [(pp_some h1 h2).2]; exact ⟨h1, h2⟩
  · rw [(pp_none (fun p h1 h2 => hex ⟨p, h1, h2⟩)).1] at h; cases h
theorem pp_len (xs : List Cls) (s : List UInt8) : (ppX xs s).length ≤ 24 := by
  by_cases hex : ∃ p, VP xs p ∧ pgB xs p = s
  · obtain ⟨p, h1, h2⟩ := hex
    rw [(pp_some h1 h2).2]; exact h1.2.1
  · rw [(pp_none (fun p h1 h2 => hex ⟨p, h1, h2⟩)).2]; exact Nat.zero_le _
end

section
class EncOne (α : Type) [Enc α] : Prop where
  pos : 0 < Enc.size α
  one : ∀ (x : α) u, u ∈ Enc.cells x → u.oneCell' = true
theorem EncOne.all {α : Type} [Enc α] [EncOne α] (xs : List α) : ∀ u ∈ xs.flatMap Enc.cells, u.oneCell' = true := by
  intro u hu
  rw [List.mem_flatMap] at hu
  obtain ⟨x, _, hx⟩ := hu
  exact EncOne.one x u hx
instance instOneInt : EncOne Int := ⟨by decide, fun x u hu => by simp [Enc.cells] at hu; subst hu; rfl⟩
instance instOneCls : EncOne Cls := ⟨by decide, fun x u hu => by simp [Enc.cells] at hu; rcases hu with rfl | rfl <;> rfl⟩

section
variable {α : Type} [Enc α] [EncOne α] {P : Program} {w : World}
theorem run_append_sl (base : Nat) (t ty e : TypeId) (i : TypeInfo) (z : Value) (bytes : Nat) (ht : P.underlying t = some (.slice e)) (hi : P.info? e = some i) (hz : i.zero = some z)
    (hsize : i.size = Enc.size α) (hby : i.bytes = bytes) (hzs : z.cells.size = Enc.size α) (v : Value) (n : Nat) (xs : List α) (hown : w.ownsRow base e (Enc.size α) v n (xs.flatMap Enc.cells))
    (A : Option Addr) (m c : Nat) (ys : List α) (hS : Sl w A m c ys) (h63 : n + m ≤ maxLen) (hbytes : (n + m) * bytes ≤ 140737488355328) (hbase : base ≤ w.heap.size) :
    ∃ v' w', (Builtin.append_ #[t, t] ty #[v, .slice A m c]).run P w = .ok v' w' ∧ w'.ownsRow base e (Enc.size α) v' (n + m) ((xs ++ ys).flatMap Enc.cells) ∧ w.grownBy w' v.ownBlock ∧
      (v'.ownBlock = v.ownBlock ∨ v'.ownBlock = some w.heap.size) := by
  have hm : (ys.flatMap (Enc.cells (α := α))).length = m * Enc.size α := by rw [flat_len, hS.len]
  rcases A with _ | ad
  · have h0 : m = 0 := by
      rcases Nat.eq_zero_or_pos m with h0 | h0
      · exact h0
      · obtain ⟨b, off, h, _⟩ := hS.at_ h0; cases h
    subst h0
    have hy : ys = [] := List.eq_nil_of_length_eq_zero hS.len
    subst hy
    refine ⟨v, w, ?_, by simpa using hown, World.grownBy.refl w _, .inl rfl⟩
    rcases hown.2 with ⟨rfl, _⟩ | ⟨g, cap, cur, rfl, _, _, hnc, _⟩
    · simp [Builtin.append_, run_underlying ht, sizeOf, typeInfo, hi, Builtin.lenOf, Builtin.firstCells]
    · simp [Builtin.append_, run_underlying ht, sizeOf, typeInfo, hi, Builtin.lenOf, Builtin.firstCells, hnc, storeCells]
  · have hcells : ∀ j u, (ys.flatMap Enc.cells)[j]? = some u → w.cell? (ad.add j) = some u := by
      intro j u hu
      rcases Nat.eq_zero_or_pos m with h0 | h0
      · have hy : ys = [] := List.eq_nil_of_length_eq_zero (by rw [hS.len, h0])
        subst hy; simp at hu
      · obtain ⟨b, off, h, _, hc⟩ := hS.at_ h0
        injection h with h
        subst h
        have e : (⟨b, off, none⟩ : Addr).add j = ⟨b, off + j, none⟩ := by
          unfold Addr.add; split
          · next h => subst h; rfl
          · rfl
        rw [e]; exact hc j u hu
    obtain ⟨v', w', hrun, h2, h3, _, h5⟩ := run_append_own_at (P := P) w base t ty e i z (Enc.size α) bytes ht hi hz hsize hby hzs EncOne.pos v n _ hown ad m c _ hm hcells (EncOne.all ys) h63 hbytes hbase
    exact ⟨v', w', hrun, by rw [List.flatMap_append]; exact h2, h3, h5⟩

theorem wp_append_sl {o : Oper} {a : Act} {K : Act → World → Prop} {Q : Exit → Act → World → Prop} (s x : Operand) (t : TypeId)
    (ho : o.op = .call { callee := .builtin .append, args := #[s, x], argTypes := #[t, t] })
    (base : Nat) (e : TypeId) (i : TypeInfo) (z : Value) (bytes : Nat) (ht : P.underlying t = some (.slice e)) (hi : P.info? e = some i) (hz : i.zero = some z)
    (hsize : i.size = Enc.size α) (hby : i.bytes = bytes) (hzs : z.cells.size = Enc.size α) (v : Value) (n : Nat) (xs : List α) (hs : a.eval s = v) (hown : w.ownsRow base e (Enc.size α) v n (xs.flatMap Enc.cells))
    (A : Option Addr) (m c : Nat) (ys : List α) (hx : a.eval x = .slice A m c) (hS : Sl w A m c ys) (h63 : n + m ≤ maxLen) (hbytes : (n + m) * bytes ≤ 140737488355328) (hbase : base ≤ w.heap.size)
    (h : ∀ v' w', w'.ownsRow base e (Enc.size α) v' (n + m) ((xs ++ ys).flatMap Enc.cells) → w.grownBy w' v.ownBlock → (v'.ownBlock = v.ownBlock ∨ v'.ownBlock = some w.heap.size) → K (a.put o.dst v') w') : o.wp P a w K Q := by
  obtain ⟨v', w', hrun, h2, h3, h4⟩ := run_append_sl (P := P) (w := w) base t o.type e i z bytes ht hi hz hsize hby hzs v n xs hown A m c ys hS h63 hbytes hbase
  unfold Oper.wp execOp
  simp only [ho, resolve, invoke, builtin, Sem.run_bind, Sem.run_pure, Result.andThen_ok, List.map_toArray, List.map_cons, List.map_nil, hs, hx, hrun]
  exact h v' w' h2 h3 h4
theorem wpList_append_sl {ops : Array Oper} {rest : List Oper} {o : Oper} {a : Act} {Q : Exit → Act → World → Prop} (hgd : o.guard = none) (s x : Operand) (t : TypeId)
    (ho : o.op = .call { callee := .builtin .append, args := #[s, x], argTypes := #[t, t] })
    (base : Nat) (e : TypeId) (i : TypeInfo) (z : Value) (bytes : Nat) (ht : P.underlying t = some (.slice e)) (hi : P.info? e = some i) (hz : i.zero = some z)
    (hsize : i.size = Enc.size α) (hby : i.bytes = bytes) (hzs : z.cells.size = Enc.size α) (v : Value) (n : Nat) (xs : List α) (hs : a.eval s = v) (hown : w.ownsRow base e (Enc.size α) v n (xs.flatMap Enc.cells))
    (A : Option Addr) (m c : Nat) (ys : List α) (hx : a.eval x = .slice A m c) (hS : Sl w A m c ys) (h63 : n + m ≤ maxLen) (hbytes : (n + m) * bytes ≤ 140737488355328) (hbase : base ≤ w.heap.size)
    (h : ∀ v' w', w'.ownsRow base e (Enc.size α) v' (n + m) ((xs ++ ys).flatMap Enc.cells) → w.grownBy w' v.ownBlock → (v'.ownBlock = v.ownBlock ∨ v'.ownBlock = some w.heap.size) → wpList P ops Q rest (a.put o.dst v') w') : wpList P ops Q (o :: rest) a w :=
  wpList_plain hgd fun _ hK => wp_append_sl s x t ho base e i z bytes ht hi hz hsize hby hzs v n xs hs hown A m c ys hx hS h63 hbytes hbase fun v' w' h2 h3 h4 => hK _ _ (h v' w' h2 h3 h4)
theorem step_append_sl {ops : Array Oper} {o : Oper} {a : Act} {K : Act → World → Prop} {Q : Exit → Act → World → Prop} {E : Prop} (hgd : o.guard = none) (s x : Operand) (t : TypeId)
    (ho : o.op = .call { callee := .builtin .append, args := #[s, x], argTypes := #[t, t] })
    (base : Nat) (e : TypeId) (i : TypeInfo) (z : Value) (bytes : Nat) (ht : P.underlying t = some (.slice e)) (hi : P.info? e = some i) (hz : i.zero = some z)
    (hsize : i.size = Enc.size α) (hby : i.bytes = bytes) (hzs : z.cells.size = Enc.size α) (v : Value) (n : Nat) (xs : List α) (hs : a.eval s = v) (hown : w.ownsRow base e (Enc.size α) v n (xs.flatMap Enc.cells))
    (A : Option Addr) (m c : Nat) (ys : List α) (hx : a.eval x = .slice A m c) (hS : Sl w A m c ys) (h63 : n + m ≤ maxLen) (hbytes : (n + m) * bytes ≤ 140737488355328) (hbase : base ≤ w.heap.size)
    (h : ∀ v' w', w'.ownsRow base e (Enc.size α) v' (n + m) ((xs ++ ys).flatMap Enc.cells) → w.grownBy w' v.ownBlock → (v'.ownBlock = v.ownBlock ∨ v'.ownBlock = some w.heap.size) → K (a.put o.dst v') w') :
    if Region.wanted o (yielded ops a.tmps) = true then Oper.wp P o a w K Q else E := by
  have hw : Region.wanted o (yielded ops a.tmps) = true := by simp [Region.wanted, hgd]
  rw [if_pos hw]
  exact wp_append_sl s x t ho base e i z bytes ht hi hz hsize hby hzs v n xs hs hown A m c ys hx hS h63 hbytes hbase h
end
/-- one new box as a list -/
theorem sl_one {α : Type} [Enc α] {w : World} {cs : Array Value} {T : TypeId} (x : α) (hc : cs.toList = Enc.cells x) (hok : Enc.ok x) {b : Nat} (hb : b = w.heap.size) : Sl (w.alloc (.cells cs T)) (some ⟨b, 0, none⟩) 1 1 [x] := by
  subst hb
  refine ⟨rfl, Nat.le_refl _, by omega, fun y hy => by simp at hy; subst hy; exact hok, fun _ => ⟨_, 0, rfl, by simp, fun j u hu => ?_⟩⟩
  rw [List.flatMap_cons, List.flatMap_nil, List.append_nil, ← hc] at hu
  rw [Nat.zero_add, World.cell?_alloc_at _ _ _ _ rfl]
  simpa using hu
end

section
instance instOneStrT : EncOne ByteArray := ⟨by decide, fun x u hu => by simp [Enc.cells] at hu; subst hu; rfl⟩
theorem infoStrT : (Tryd.prog.info? 9).map (fun i => (i.zero, i.size, i.bytes)) = some (some (.string ByteArray.empty), 1, 16) := by kernel_rfl
theorem bl_extract (s : ByteArray) (a i : Nat) : bl (s.extract a i) = ((bl s).drop a).take (i - a) := by
  unfold bl
  rw [ByteArray.data_extract, Array.toList_extract, List.extract_eq_take_drop]
theorem bl_at {s : ByteArray} {j : Nat} (h : j < s.size) : (bl s)[j]'(by rw [bl_len]; exact h) = s[j] := rfl
theorem seg_no {s : ByteArray} {c : UInt8} {a i : Nat} (h2 : i ≤ s.size) (hno : ∀ j (hj : j < s.size), a ≤ j → j < i → s[j] ≠ c) : c ∉ bl (s.extract a i) := by
  intro hm
  rw [bl_extract] at hm
  obtain ⟨j, hj, e⟩ := List.getElem_of_mem hm
  rw [List.length_take, List.length_drop, bl_len] at hj
  rw [List.getElem_take, List.getElem_drop] at e
  exact hno (a + j) (by omega) (by omega) (by omega) e
theorem seg_split {s : ByteArray} {c : UInt8} {a i : Nat} (h1 : a ≤ i) (h2 : i < s.size) (hno : ∀ j (hj : j < s.size), a ≤ j → j < i → s[j] ≠ c) (hc : s[i] = c) : splitL c ((bl s).drop a) = bl (s.extract a i) :: splitL c ((bl s).drop (i + 1)) := by
  have e : (bl s).drop a = bl (s.extract a i) ++ c :: (bl s).drop (i + 1) := by
    rw [bl_extract]
    have h3 : i < (bl s).length := by rw [bl_len]; exact h2
    have h7 : (bl s)[i] = c := hc
    have h6 : c :: (bl s).drop (i + 1) = (bl s).drop i := by rw [List.drop_eq_getElem_cons h3, h7]
    rw [h6]
    have h5 : (bl s).drop i = ((bl s).drop a).drop (i - a) := by rw [List.drop_drop]; congr 1; omega
    rw [h5, List.take_append_drop]
  rw [e, splitL_line (seg_no (by omega) hno)]
theorem seg_last {s : ByteArray} {c : UInt8} {a : Nat} (hno : ∀ j (hj : j < s.size), a ≤ j → s[j] ≠ c) : splitL c ((bl s).drop a) = [bl (s.extract a s.size)] := by
  have e : (bl s).drop a = bl (s.extract a s.size) := by
    rw [bl_extract, List.take_of_length_le (by rw [List.length_drop, bl_len]; omega)]
  rw [e, splitL_one (seg_no (Nat.le_refl _) (fun j hj h _ => hno j hj h))]
end

section
def lwCells : Array Value := #[.string (tb lwPass), .string (tb lwLog), .string (tb lwRaise), .string (tb lwAgain), .string (tb lwReturn), .string (tb lwBreak), .string (tb lwContinue), .string (tb lwTry), .string (tb lwExcept), .string (tb lwElse), .string (tb lwFinally), .string (tb lwWith), .string (tb lwLoop)]
/-- the words of lines lie there -/
def LnW (w : World) : Prop := w.var? Tryd.prog "loop.example/faultcleanup/impl.lineWords" = some lwCells
theorem LnW.le {w w' : World} (h : LnW w) (hl : Le w w') : LnW w' := var_le h hl
theorem lnw_named : Tryd.prog.globalNamed "loop.example/faultcleanup/impl.lineWords" = some 0 := by kernel_rfl
theorem lwCells_at : ∀ k : Fin 13, lwCells[k.1]? = some (.string (tb (lwAt k.1)))
  | ⟨0, _⟩ => rfl
  | ⟨1, _⟩ => rfl
  | ⟨2, _⟩ => rfl
  | ⟨3, _⟩ => rfl
  | ⟨4, _⟩ => rfl
  | ⟨5, _⟩ => rfl
  | ⟨6, _⟩ => rfl
  | ⟨7, _⟩ => rfl
  | ⟨8, _⟩ => rfl
  | ⟨9, _⟩ => rfl
  | ⟨10, _⟩ => rfl
  | ⟨11, _⟩ => rfl
  | ⟨12, _⟩ => rfl
theorem LnW.at {w : World} (h : LnW w) (k : Nat) (hk : k < 13) : w.cell? ⟨0, k, none⟩ = some (.string (tb (lwAt k))) := (World.var?_cell lnw_named h k).trans (lwCells_at ⟨k, hk⟩)
theorem lix0 (w : World) : (Instr.index 73 (.agg #[.string (tb lwPass), .string (tb lwLog), .string (tb lwRaise), .string (tb lwAgain), .string (tb lwReturn), .string (tb lwBreak), .string (tb lwContinue), .string (tb lwTry), .string (tb lwExcept), .string (tb lwElse), .string (tb lwFinally), .string (tb lwWith), .string (tb lwLoop)]) (.int .i64 0)).run Tryd.prog w = .ok (.string (tb lwPass)) w := by
  simp [Instr.index, run_underlying Tryd.underlying73, asIntOf, go_sem]
theorem lix1 (w : World) : (Instr.index 73 (.agg #[.string (tb lwPass), .string (tb lwLog), .string (tb lwRaise), .string (tb lwAgain), .string (tb lwReturn), .string (tb lwBreak), .string (tb lwContinue), .string (tb lwTry), .string (tb lwExcept), .string (tb lwElse), .string (tb lwFinally), .string (tb lwWith), .string (tb lwLoop)]) (.int .i64 1)).run Tryd.prog w = .ok (.string (tb lwLog)) w := by
  simp [Instr.index, run_underlying Tryd.underlying73, asIntOf, go_sem]
theorem lix2 (w : World) : (Instr.index 73 (.agg #[.string (tb lwPass), .string (tb lwLog), .string (tb lwRaise), .string (tb lwAgain), .string (tb lwReturn), .string (tb lwBreak), .string (tb lwContinue), .string (tb lwTry), .string (tb lwExcept), .string (tb lwElse), .string (tb lwFinally), .string (tb lwWith), .string (tb lwLoop)]) (.int .i64 2)).run Tryd.prog w = .ok (.string (tb lwRaise)) w := by
  simp [Instr.index, run_underlying Tryd.underlying73, asIntOf, go_sem]
theorem lix3 (w : World) : (Instr.index 73 (.agg #[.string (tb lwPass), .string (tb lwLog), .string (tb lwRaise), .string (tb lwAgain), .string (tb lwReturn), .string (tb lwBreak), .string (tb lwContinue), .string (tb lwTry), .string (tb lwExcept), .string (tb lwElse), .string (tb lwFinally), .string (tb lwWith), .string (tb lwLoop)]) (.int .i64 3)).run Tryd.prog w = .ok (.string (tb lwAgain)) w := by
  simp [Instr.index, run_underlying Tryd.underlying73, asIntOf, go_sem]
theorem lix4 (w : World) : (Instr.index 73 (.agg #[.string (tb lwPass), .string (tb lwLog), .string (tb lwRaise), .string (tb lwAgain), .string (tb lwReturn), .string (tb lwBreak), .string (tb lwContinue), .string (tb lwTry), .string (tb lwExcept), .string (tb lwElse), .string (tb lwFinally), .string (tb lwWith), .string (tb lwLoop)]) (.int .i64 4)).run Tryd.prog w = .ok (.string (tb lwReturn)) w := by
  simp [Instr.index, run_underlying Tryd.underlying73, asIntOf, go_sem]
theorem lix5 (w : World) : (Instr.index 73 (.agg #[.string (tb lwPass), .string (tb lwLog), .string (tb lwRaise), .string (tb lwAgain), .string (tb lwReturn), .string (tb lwBreak), .string (tb lwContinue), .string (tb lwTry), .string (tb lwExcept), .string (tb lwElse), .string (tb lwFinally), .string (tb lwWith), .string (tb lwLoop)]) (.int .i64 5)).run Tryd.prog w = .ok (.string (tb lwBreak)) w := by
  simp [Instr.index, run_underlying Tryd.underlying73, asIntOf, go_sem]
theorem lix6 (w : World) : (Instr.index 73 (.agg #[.string (tb lwPass), .string (tb lwLog), .string (tb lwRaise), .string (tb lwAgain), .string (tb lwReturn), .string (tb lwBreak), .string (tb lwContinue), .string (tb lwTry), .string (tb lwExcept), .string (tb lwElse), .string (tb lwFinally), .string (tb lwWith), .string (tb lwLoop)]) (.int .i64 6)).run Tryd.prog w = .ok (.string (tb lwContinue)) w := by
  simp [Instr.index, run_underlying Tryd.underlying73, asIntOf, go_sem]
theorem lix7 (w : World) : (Instr.index 73 (.agg #[.string (tb lwPass), .string (tb lwLog), .string (tb lwRaise), .string (tb lwAgain), .string (tb lwReturn), .string (tb lwBreak), .string (tb lwContinue), .string (tb lwTry), .string (tb lwExcept), .string (tb lwElse), .string (tb lwFinally), .string (tb lwWith), .string (tb lwLoop)]) (.int .i64 7)).run Tryd.prog w = .ok (.string (tb lwTry)) w := by
  simp [Instr.index, run_underlying Tryd.underlying73, asIntOf, go_sem]
theorem lix8 (w : World) : (Instr.index 73 (.agg #[.string (tb lwPass), .string (tb lwLog), .string (tb lwRaise), .string (tb lwAgain), .string (tb lwReturn), .string (tb lwBreak), .string (tb lwContinue), .string (tb lwTry), .string (tb lwExcept), .string (tb lwElse), .string (tb lwFinally), .string (tb lwWith), .string (tb lwLoop)]) (.int .i64 8)).run Tryd.prog w = .ok (.string (tb lwExcept)) w := by
  simp [Instr.index, run_underlying Tryd.underlying73, asIntOf, go_sem]
theorem lix9 (w : World) : (Instr.index 73 (.agg #[.string (tb lwPass), .string (tb lwLog), .string (tb lwRaise), .string (tb lwAgain), .string (tb lwReturn), .string (tb lwBreak), .string (tb lwContinue), .string (tb lwTry), .string (tb lwExcept), .string (tb lwElse), .string (tb lwFinally), .string (tb lwWith), .string (tb lwLoop)]) (.int .i64 9)).run Tryd.prog w = .ok (.string (tb lwElse)) w := by
  simp [Instr.index, run_underlying Tryd.underlying73, asIntOf, go_sem]
theorem lix10 (w : World) : (Instr.index 73 (.agg #[.string (tb lwPass), .string (tb lwLog), .string (tb lwRaise), .string (tb lwAgain), .string (tb lwReturn), .string (tb lwBreak), .string (tb lwContinue), .string (tb lwTry), .string (tb lwExcept), .string (tb lwElse), .string (tb lwFinally), .string (tb lwWith), .string (tb lwLoop)]) (.int .i64 10)).run Tryd.prog w = .ok (.string (tb lwFinally)) w := by
  simp [Instr.index, run_underlying Tryd.underlying73, asIntOf, go_sem]
theorem lix11 (w : World) : (Instr.index 73 (.agg #[.string (tb lwPass), .string (tb lwLog), .string (tb lwRaise), .string (tb lwAgain), .string (tb lwReturn), .string (tb lwBreak), .string (tb lwContinue), .string (tb lwTry), .string (tb lwExcept), .string (tb lwElse), .string (tb lwFinally), .string (tb lwWith), .string (tb lwLoop)]) (.int .i64 11)).run Tryd.prog w = .ok (.string (tb lwWith)) w := by
  simp [Instr.index, run_underlying Tryd.underlying73, asIntOf, go_sem]
theorem lix12 (w : World) : (Instr.index 73 (.agg #[.string (tb lwPass), .string (tb lwLog), .string (tb lwRaise), .string (tb lwAgain), .string (tb lwReturn), .string (tb lwBreak), .string (tb lwContinue), .string (tb lwTry), .string (tb lwExcept), .string (tb lwElse), .string (tb lwFinally), .string (tb lwWith), .string (tb lwLoop)]) (.int .i64 12)).run Tryd.prog w = .ok (.string (tb lwLoop)) w := by
  simp [Instr.index, run_underlying Tryd.underlying73, asIntOf, go_sem]
theorem lix (w : World) : ∀ k : Fin 13, (Instr.index 73 (.agg #[.string (tb lwPass), .string (tb lwLog), .string (tb lwRaise), .string (tb lwAgain), .string (tb lwReturn), .string (tb lwBreak), .string (tb lwContinue), .string (tb lwTry), .string (tb lwExcept), .string (tb lwElse), .string (tb lwFinally), .string (tb lwWith), .string (tb lwLoop)]) (.int .i64 (k.1 : Nat))).run Tryd.prog w = .ok (.string (tb (lwAt k.1))) w
  | ⟨0, _⟩ => lix0 w
  | ⟨1, _⟩ => lix1 w
  | ⟨2, _⟩ => lix2 w
  | ⟨3, _⟩ => lix3 w
  | ⟨4, _⟩ => lix4 w
  | ⟨5, _⟩ => lix5 w
  | ⟨6, _⟩ => lix6 w
  | ⟨7, _⟩ => lix7 w
  | ⟨8, _⟩ => lix8 w
  | ⟨9, _⟩ => lix9 w
  | ⟨10, _⟩ => lix10 w
  | ⟨11, _⟩ => lix11 w
  | ⟨12, _⟩ => lix12 w
theorem tb_eqL {a : List UInt8} {s : ByteArray} : tb a = s ↔ bl s = a := ⟨fun h => by rw [← h, bl_tb], fun h => by rw [← h, tb_bl]⟩
theorem str_yesL (s : ByteArray) : (s.toList == s.toList) = true := by simp
theorem lwL_drop : ∀ k : Fin 13, lwL.drop k.1 = lwAt k.1 :: lwL.drop (k.1 + 1)
  | ⟨0, _⟩ => rfl
  | ⟨1, _⟩ => rfl
  | ⟨2, _⟩ => rfl
  | ⟨3, _⟩ => rfl
  | ⟨4, _⟩ => rfl
  | ⟨5, _⟩ => rfl
  | ⟨6, _⟩ => rfl
  | ⟨7, _⟩ => rfl
  | ⟨8, _⟩ => rfl
  | ⟨9, _⟩ => rfl
  | ⟨10, _⟩ => rfl
  | ⟨11, _⟩ => rfl
  | ⟨12, _⟩ => rfl
end

section
section
variable {xs : List Cls} {d kd a b : Int}
theorem lnT_num (n : Nat) (h : kd = 1 ∨ kd = 4 ∨ kd = 12) : lnT xs ⟨d, kd, n, b⟩ = lwAt kd ++ 32 :: numL n := by
  unfold lnT; dsimp only; rw [if_pos h]; congr 3
theorem lnT_with0 (n : Nat) (hb : b ≠ 1) : lnT xs ⟨d, 11, n, b⟩ = lwWith ++ 32 :: numL n := by
  unfold lnT; dsimp only; rw [if_neg (by omega), if_pos rfl, if_neg hb]; rfl
theorem lnT_with1 (n : Nat) : lnT xs ⟨d, 11, n, 1⟩ = lwWith ++ 32 :: (numL n ++ 32 :: lwQuiet) := by
  unfold lnT; dsimp only; rw [if_neg (by omega), if_pos rfl, if_pos rfl]; rfl
theorem lnT_raise (k n : Nat) : lnT xs ⟨d, 2, k, n⟩ = lwRaise ++ 32 :: (clN xs k ++ 32 :: numL n) := by
  unfold lnT; dsimp only; rw [if_neg (by omega), if_neg (by omega), if_pos rfl]; rfl
theorem lnT_except (k : Nat) : lnT xs ⟨d, 8, k, b⟩ = lwExcept ++ 32 :: clN xs k := by
  unfold lnT; dsimp only; rw [if_neg (by omega), if_neg (by omega), if_neg (by omega), if_pos rfl]; rfl
theorem lnT_word (h1 : ¬ (kd = 1 ∨ kd = 4 ∨ kd = 12)) (h2 : kd ≠ 11) (h3 : kd ≠ 2) (h4 : kd ≠ 8) : lnT xs ⟨d, kd, a, b⟩ = lwAt kd := by
  unfold lnT; dsimp only; rw [if_neg h1, if_neg h2, if_neg h3, if_neg h4]
end
theorem lnT_len {xs : List Cls} (g : Good xs) {x : Lin} (h : numS xs x.kind x.a x.b = true) (h0 : 0 ≤ x.depth) (h5 : x.depth ≤ 5) : (lnT xs x).length ≤ 30 := by
  have := (line_read g h h0 h5).2.2.2
  unfold liT at this
  rw [List.length_append] at this; omega
/-- the next line of a text of a program -/
theorem pg_takeL {xs : List Cls} {p : List Lin} {k : Nat} (h : k < p.length) : pgB xs (p.take (k + 1)) = pgB xs (p.take k) ++ (List.replicate p[k].depth.toNat 32 ++ lnT xs p[k] ++ [10]) := by
  unfold pgB
  rw [List.take_succ_eq_append_getElem h, List.map_append, List.map_cons, List.map_nil, catN_snoc]; rfl
end

section
theorem pre_small {m k : Nat} (hm : m < 1000) (hk : k < (numL m).length) : dv ((numL m).take k) ≤ 99 := by
  have h1 := numL_sz ⟨m, hm⟩
  have h2 := numL_pre ⟨m, hm⟩
  dsimp only at h1 h2
  rcases Nat.lt_or_ge k 3 with h3 | h3
  · match k, h3 with
    | 0, _ => rw [List.take_zero]; show 0 ≤ 99; omega
    | 1, _ => have := h2.1; omega
    | 2, _ => exact h2.2 (by omega)
  · omega
theorem dv_snoc (l : List UInt8) (c : UInt8) : dv (l ++ [c]) = 10 * dv l + (c.toNat - 48) := by unfold dv; rw [List.foldl_append]; rfl
theorem rdN_digit {m : Nat} (hm : m ≤ 1000) {l : List UInt8} {c : UInt8} (hc : c ∈ l) (h : c.toNat < 48 ∨ 57 < c.toNat) : rdN m l = -1 := rdN_no fun n hn e => by
  rw [← e] at hc; exact numL_not (by omega) h hc
theorem rdN_long {l : List UInt8} {k : Nat} (hk : k < l.length) (h : 99 < dv (l.take k)) : rdN 1000 l = -1 := rdN_no fun n hn e => by
  subst e
  have := pre_small hn hk
  omega
theorem rdN_nil (m : Nat) : rdN m [] = -1 := by
  unfold rdN
  rw [if_neg]
  rintro ⟨h, -⟩
  exact absurd h (by decide)
theorem rdN_eq {m : Nat} {l : List UInt8} (h : numL (dv l) = l) (hd : dv l < m) : rdN m l = dv l := by unfold rdN; rw [if_pos ⟨h, hd⟩]
theorem rdN_ne {m : Nat} {l : List UInt8} (h : numL (dv l) ≠ l) : rdN m l = -1 := by unfold rdN; rw [if_neg (fun e => h e.1)]
theorem empT {s : ByteArray} : (s.toList.isEmpty = true ↔ bl s = []) := by
  constructor
  · intro h
    have h2 : s.toList = [] := List.isEmpty_iff.1 h
    by_cases hb : bl s = []
    · exact hb
    · have := str_ne (a := s) (b := ByteArray.empty) (fun e => hb (by rw [e]; rfl))
      rw [h2] at this
      exact absurd this (by decide +kernel)
  · intro h
    have : s = ByteArray.empty := bl_inj (by rw [h]; rfl)
    rw [this]; decide +kernel
theorem empF {s : ByteArray} (h : bl s ≠ []) : s.toList.isEmpty = false := by
  cases e : s.toList.isEmpty
  · rfl
  · exact absurd (empT.1 e) h
theorem take_snoc {s : ByteArray} {k : Nat} (h : k < s.size) : (bl s).take (k + 1) = (bl s).take k ++ [s[k]] := by
  rw [List.take_succ_eq_append_getElem (by rw [bl_len]; exact h)]; rfl
end

section
section
section
variable {P : Program} {ops : Array Oper} {Q : Exit → Act → World → Prop} {md : Region.Mode} {S : World → Prop} {Z : List Nat}

/-- Whatever order is picked from here on; S holds behind every operation that is carried out, but for those of Z. -/
def wpAnyZ (P : Program) (md : Region.Mode) (ops : Array Oper) (Q : Exit → Act → World → Prop) (S : World → Prop) (Z : List Nat) : Nat → Array Bool → Act → World → Prop
  | 0, listed, a, w => Region.ready md ops listed = [] ∧ Q .normal a w
  | fuel + 1, listed, a, w =>
    (Region.ready md ops listed = [] → Q .normal a w) ∧
    ∀ i ∈ Region.ready md ops listed, wpOp P ops Q i (fun a' w' => (Z.contains i = false → S w') ∧ wpAnyZ P md ops Q S Z fuel (listed.setIfInBounds i true) a' w') a w

theorem wpAny_of_Z : ∀ (fuel : Nat) (listed : Array Bool) (a : Act) (w : World), wpAnyZ P md ops Q S Z fuel listed a w → wpAny P md ops Q fuel listed a w
  | 0, _, _, _, h => h
  | fuel + 1, _, _, _, h => ⟨h.1, fun i hi => wpOp_mono (fun a' w' h' => wpAny_of_Z fuel _ a' w' h'.2) (h.2 i hi)⟩

/-- the operations of C cannot come up ahead of number i -/
def Waits (md : Region.Mode) (ops : Array Oper) (listed : Array Bool) (i : Nat) (C : List Nat) : Prop :=
  ∀ k ∈ C, listed.getD k true = false ∧ ∃ o, ops[k]? = some o ∧ ∃ e ∈ o.after, Region.binds md e = true ∧ (e.on = i ∨ e.on ∈ C)
theorem Waits.not {listed : Array Bool} {i : Nat} {C : List Nat} (h : Waits md ops listed i C) (hi : listed.getD i true = false) {j : Nat} (hj : j ∈ Region.ready md ops listed) : j ∉ C := by
  intro hc
  obtain ⟨_, o, ho, e, he, hb, hon⟩ := h j hc
  obtain ⟨_, o', ho', hall⟩ := mem_ready.1 hj
  rw [ho] at ho'; injection ho' with ho'; subst ho'
  have h1 := hall e he hb
  have hx : listed.getD e.on true = false := by
    rcases hon with h2 | h2
    · rw [h2]; exact hi
    · exact (h _ h2).1
  rcases Nat.lt_or_ge e.on listed.size with h3 | h3
  · simp [h3] at h1 hx; rw [h1] at hx; cases hx
  · simp [Array.getElem?_eq_none h3] at h1
def waitsB (md : Region.Mode) (ops : Array Oper) (listed : Array Bool) (i : Nat) (C : List Nat) : Bool :=
  C.all fun k => !(listed.getD k true) && match ops[k]? with | some o => o.after.any fun e => Region.binds md e && (e.on == i || C.contains e.on) | none => false
theorem waits_of {listed : Array Bool} {i : Nat} {C : List Nat} (h : waitsB md ops listed i C = true) : Waits md ops listed i C := by
  intro k hk
  have h1 := List.all_eq_true.1 h k hk
  rw [Bool.and_eq_true] at h1
  refine ⟨by simpa using h1.1, ?_⟩
  have h2 := h1.2
  cases ho : ops[k]? with
  | none => rw [ho] at h2; cases h2
  | some o =>
    rw [ho] at h2
    replace h2 : (o.after.any fun e => Region.binds md e && (e.on == i || C.contains e.on)) = true := h2
    obtain ⟨e, he, h3⟩ := Array.any_eq_true'.1 h2
    rw [Bool.and_eq_true, Bool.or_eq_true] at h3
    exact ⟨o, rfl, e, he, h3.1, by simpa using h3.2⟩

theorem wpAnyZ_first {i : Nat} {oi : Oper} {v : Value} {C : List Nat} (hi : ops[i]? = some oi) (hsel : ∀ (j : Nat) (o : Oper) cs b, ops[j]? = some o → o.op ≠ .select cs b)
    (hQ : ∀ c a w, Q (.panic c) (a.put oi.dst v) w → Q (.panic c) a w) (hZ : ∀ z, Z.contains z = true → z ∈ C) :
    ∀ (fuel : Nat) (listed : Array Bool) (a : Act) (w : World),
      (∀ j oj, ops[j]? = some oj → j ≠ i → listed.getD j true = false → (∀ e ∈ oj.after, Region.binds md e = true → e.on ≠ i) → oi.apart ops oj = true) →
      Waits md ops listed i C → i ∈ Region.ready md ops listed → YieldsIf P ops S oi v a → S w →
      wpAnyZ P md ops Q S Z fuel (listed.setIfInBounds i true) (a.put oi.dst v) w → wpAnyZ P md ops Q S Z (fuel + 1) listed a w := by
  intro fuel
  induction fuel with
  | zero =>
    intro listed a w _ _ hr hy hS H
    refine ⟨fun h => (by rw [h] at hr; cases hr), fun j hj => ?_⟩
    by_cases hji : j = i
    · subst hji; exact hy.wpOp hi hS ⟨fun _ => hS, H⟩
    · have := ready_mono hj hji
      rw [H.1] at this
      cases this
  | succ fuel ih =>
    intro listed a w hfree hw hr hy hS H
    refine ⟨fun h => (by rw [h] at hr; cases hr), fun j hj => ?_⟩
    by_cases hji : j = i
    · subst hji; exact hy.wpOp hi hS ⟨fun _ => hS, H⟩
    · have h1 := H.2 j (ready_mono hj hji)
      have hjc := hw.not (mem_ready.1 hr).1 hj
      have hjz : Z.contains j = false := by
        cases e : Z.contains j
        · rfl
        · exact absurd (hZ j e) hjc
      obtain ⟨hjun, oj, hoj, hall⟩ := mem_ready.1 hj
      have hnot : ∀ e ∈ oj.after, Region.binds md e = true → e.on ≠ i := fun e he hb heq => by
        have h1 := hall e he hb
        have h0 := (mem_ready.1 hr).1
        rw [heq] at h1
        rcases Nat.lt_or_ge i listed.size with h' | h'
        · simp [h'] at h0 h1; rw [h0] at h1; cases h1
        · simp [Array.getElem?_eq_none h'] at h1
      have h2 := wpOp_putIf hoj (hfree j oj hoj hji hjun hnot) (fun cs b => hsel i oi cs b hi) (fun cs b => hsel j oj cs b hoj) hQ hy h1
      have hfree' : ∀ k ok, ops[k]? = some ok → k ≠ i → (listed.setIfInBounds j true).getD k true = false →
          (∀ e ∈ ok.after, Region.binds md e = true → e.on ≠ i) → oi.apart ops ok = true := fun k ok hk hki hun hno => by
        refine hfree k ok hk hki ?_ hno
        by_cases hjk : j = k
        · subst hjk; exact hjun
        · rw [getD_set_ne true hjk] at hun; exact hun
      have hw' : Waits md ops (listed.setIfInBounds j true) i C := fun k hk => ⟨by rw [getD_set_ne true (fun e => hjc (by rw [e]; exact hk))]; exact (hw k hk).1, (hw k hk).2⟩
      refine wpOp_mono (fun a' w' h3 => ⟨h3.2.1, ih (listed.setIfInBounds j true) a' w' hfree' hw' (ready_mono hr (Ne.symm hji)) h3.1 (h3.2.1 hjz) ?_⟩) h2
      rw [Array.setIfInBounds_comm _ _ hji]
      exact h3.2.2

theorem wpAnyZ_done {listed : Array Bool} {a : Act} {w : World} (hr : Region.ready md ops listed = []) (h : Q .normal a w) :
    ∀ fuel, wpAnyZ P md ops Q S Z fuel listed a w
  | 0 => ⟨hr, h⟩
  | _ + 1 => ⟨fun _ => h, by rw [hr]; simp⟩
theorem wp_region_Z {id : Nat} {a : Act} {w : World} (S : World → Prop) (Z : List Nat) (hm : P.follows .mixedOrders = true)
    (h : wpAnyZ P .any ops Q S Z ops.size (Array.replicate ops.size false) a w.drew) : (Code.region id ops true).wp P Q a w :=
  wp_region_any hm (wpAny_of_Z _ _ _ _ h)
end
section
variable {P : Program} {l : List Oper} {Q : Exit → Act → World → Prop} {md : Region.Mode} {S : World → Prop} {Z : List Nat}
/-- the operations that wait for number i (edges lead back) -/
def clos (md : Region.Mode) (ops : Array Oper) (i : Nat) : List Nat :=
  (List.range ops.size).foldl (fun C k => if (k != i && match ops[k]? with | some o => o.after.any fun e => Region.binds md e && (e.on == i || C.contains e.on) | none => false) then C ++ [k] else C) []
theorem wpAnyZ_takeC {i : Nat} (C : List Nat) {oi : Oper} {v : Value} {fuel : Nat} {listed : Array Bool} {a : Act} {w : World} (hi : l[i]? = some oi)
    (hs : Region.noSelect l.toArray = true) (hf : Region.free md l.toArray listed i = true) (hr : (Region.ready md l.toArray listed).contains i = true)
    (hz : (Z.all fun z => C.contains z) = true) (hw : waitsB md l.toArray listed i C = true)
    (hQ : ∀ c a w, Q (.panic c) (a.put oi.dst v) w → Q (.panic c) a w) (hy : YieldsIf P l.toArray S oi v a) (hS : S w)
    (h : wpAnyZ P md l.toArray Q S Z fuel (listed.setIfInBounds i true) (a.put oi.dst v) w) : wpAnyZ P md l.toArray Q S Z (fuel + 1) listed a w := by
  have hi' : l.toArray[i]? = some oi := by rw [List.getElem?_toArray]; exact hi
  exact wpAnyZ_first (C := C) hi' (Region.noSelect_spec hs) hQ (fun z hz' => by have := List.all_eq_true.1 hz z (by simpa using hz'); simpa using this) fuel listed a w (Region.free_spec hi' hf) (waits_of hw) (by simpa using hr) hy hS h
theorem wpAnyZ_take {i : Nat} {oi : Oper} {v : Value} {fuel : Nat} {listed : Array Bool} {a : Act} {w : World} (hi : l[i]? = some oi)
    (hs : (Region.noSelect l.toArray && Region.free md l.toArray listed i && (Region.ready md l.toArray listed).contains i && (Z.all fun z => (clos md l.toArray i).contains z) && waitsB md l.toArray listed i (clos md l.toArray i)) = true)
    (hQ : ∀ c a w, Q (.panic c) (a.put oi.dst v) w → Q (.panic c) a w) (hy : YieldsIf P l.toArray S oi v a) (hS : S w)
    (h : wpAnyZ P md l.toArray Q S Z fuel (listed.setIfInBounds i true) (a.put oi.dst v) w) : wpAnyZ P md l.toArray Q S Z (fuel + 1) listed a w := by
  simp only [Bool.and_eq_true] at hs
  exact wpAnyZ_takeC _ hi hs.1.1.1.1 hs.1.1.1.2 hs.1.1.2 hs.1.2 hs.2 hQ hy hS h
/-- number i comes up first -/
def ReadyZ (P : Program) (md : Region.Mode) (l : List Oper) (Q : Exit → Act → World → Prop) (S : World → Prop) (Z : List Nat) (fuel : Nat) (listed : Array Bool) (a : Act) (w : World) (i : Nat) : Prop :=
  wpOp P l.toArray Q i (fun a' w' => (Z.contains i = false → S w') ∧ wpAnyZ P md l.toArray Q S Z fuel (listed.setIfInBounds i true) a' w') a w
theorem wpAnyZ_one {i fuel : Nat} {listed : Array Bool} {a : Act} {w : World} (hr : Region.ready md l.toArray listed = [i]) (h : ReadyZ P md l Q S Z fuel listed a w i) : wpAnyZ P md l.toArray Q S Z (fuel + 1) listed a w :=
  ⟨fun h0 => absurd (hr ▸ h0) (by simp), hr ▸ fun j hj => by simp at hj; subst hj; exact h⟩
theorem wpAnyZ_two {i k fuel : Nat} {listed : Array Bool} {a : Act} {w : World} (hr : Region.ready md l.toArray listed = [i, k]) (h : ReadyZ P md l Q S Z fuel listed a w i) (h2 : ReadyZ P md l Q S Z fuel listed a w k) : wpAnyZ P md l.toArray Q S Z (fuel + 1) listed a w :=
  ⟨fun h0 => absurd (hr ▸ h0) (by simp), hr ▸ fun j hj => by simp at hj; rcases hj with rfl | rfl; exact h; exact h2⟩
theorem wpAnyZ_three {i k m fuel : Nat} {listed : Array Bool} {a : Act} {w : World} (hr : Region.ready md l.toArray listed = [i, k, m]) (h : ReadyZ P md l Q S Z fuel listed a w i) (h2 : ReadyZ P md l Q S Z fuel listed a w k) (h3 : ReadyZ P md l Q S Z fuel listed a w m) : wpAnyZ P md l.toArray Q S Z (fuel + 1) listed a w :=
  ⟨fun h0 => absurd (hr ▸ h0) (by simp), hr ▸ fun j hj => by simp at hj; rcases hj with rfl | rfl | rfl; exact h; exact h2; exact h3⟩
theorem ReadyZ.mk {fuel : Nat} {listed : Array Bool} {a : Act} {w : World} {i : Nat} {o : Oper} (ho : l[i]? = some o)
    (h : ∀ K' : Act → World → Prop, Shut (∀ a w, (Z.contains i = false → S w) → wpAnyZ P md l.toArray Q S Z fuel (listed.setIfInBounds i true) a w → K' a w) → if Region.wanted o (yielded l.toArray a.tmps) = true then Oper.wp P o a w K' Q else K' (a.put o.dst undef) w) :
    ReadyZ P md l Q S Z fuel listed a w i :=
  wpOp_step (by rw [List.getElem?_toArray]; exact ho) (fun K' hK => h K' (fun a w hS hW => hK a w ⟨hS, hW⟩))
end
end
end

section
theorem splitL_len2 (c : UInt8) : ∀ l : List UInt8, ∀ x ∈ splitL c l, x.length ≤ l.length
  | [], x, h => by simp [splitL] at h; subst h; exact Nat.le_refl _
  | y :: l, x, h => by
    have ih := splitL_len2 c l
    rw [splitL] at h
    split at h
    · rcases List.mem_cons.1 h with rfl | h
      · exact Nat.zero_le _
      · have := ih x h; simp; omega
    · split at h
      · simp at h; subst h; simp
      · rename_i a t e
        rw [e] at ih
        rcases List.mem_cons.1 h with rfl | h
        · have := ih a (by simp); simp; omega
        · have := ih x (List.mem_cons_of_mem _ h); simp; omega
theorem linI_piece {s : List UInt8} {l : List UInt8} (h : l ∈ linesT s) : l.length ≤ s.length := by
  have key : ∀ (n : Nat) (s : List UInt8), s.length ≤ n → ∀ l ∈ linesT s, l.length ≤ s.length := by
    intro n
    induction n with
    | zero =>
      intro s hs l hl
      have : s = [] := List.length_eq_zero_iff.1 (by omega)
      subst this
      rw [linesT_nil] at hl; simp at hl
    | succ n ih =>
      intro s hs l hl
      by_cases h0 : s = []
      · subst h0; rw [linesT_nil] at hl; simp at hl
      · rw [linesT_step h0] at hl
        have h1 := (cut_fst_len 10 s).1
        have h2 := cut_shorter 10 h0
        rcases List.mem_cons.1 hl with rfl | hl
        · exact h1
        · have := ih _ (by omega) l hl; omega
  exact key _ s (Nat.le_refl _) l h
end

section
structure LinAt (w : World) (b : Nat) (x : Lin) : Prop where
  c0 : w.cell? ⟨b, 0, none⟩ = some (.int .i64 x.depth)
  c1 : w.cell? ⟨b, 1, none⟩ = some (.int .i64 x.kind)
  c2 : w.cell? ⟨b, 2, none⟩ = some (.int .i64 x.a)
  c3 : w.cell? ⟨b, 3, none⟩ = some (.int .i64 x.b)
  z : b < w.heap.size
  f : ∀ o, w.frozen? ⟨b, o, none⟩ = false
theorem LinAt.le {w w' : World} {b : Nat} {x : Lin} (h : LinAt w b x) (hl : Le w w') : LinAt w' b x := ⟨(hl.cell h.z).trans h.c0, (hl.cell h.z).trans h.c1, (hl.cell h.z).trans h.c2, (hl.cell h.z).trans h.c3, Nat.lt_of_lt_of_le h.z hl.size, fun o => (hl.frozen h.z).trans (h.f o)⟩
theorem LinAt.set0 {w : World} {b : Nat} {x : Lin} (h : LinAt w b x) (t : Int) : LinAt (w.setCell ⟨b, 0, none⟩ (.int .i64 t)) b ⟨t, x.kind, x.a, x.b⟩ :=
  ⟨cell_set_same h.c0, (cell_set_other (.inr (by decide))).trans h.c1, (cell_set_other (.inr (by decide))).trans h.c2, (cell_set_other (.inr (by decide))).trans h.c3, by simpa [World.setCell] using h.z, fun o => (World.frozen?_setCell ..).trans (h.f o)⟩
theorem LinAt.set1 {w : World} {b : Nat} {x : Lin} (h : LinAt w b x) (t : Int) : LinAt (w.setCell ⟨b, 1, none⟩ (.int .i64 t)) b ⟨x.depth, t, x.a, x.b⟩ :=
  ⟨(cell_set_other (.inr (by decide))).trans h.c0, cell_set_same h.c1, (cell_set_other (.inr (by decide))).trans h.c2, (cell_set_other (.inr (by decide))).trans h.c3, by simpa [World.setCell] using h.z, fun o => (World.frozen?_setCell ..).trans (h.f o)⟩
theorem LinAt.set2 {w : World} {b : Nat} {x : Lin} (h : LinAt w b x) (t : Int) : LinAt (w.setCell ⟨b, 2, none⟩ (.int .i64 t)) b ⟨x.depth, x.kind, t, x.b⟩ :=
  ⟨(cell_set_other (.inr (by decide))).trans h.c0, (cell_set_other (.inr (by decide))).trans h.c1, cell_set_same h.c2, (cell_set_other (.inr (by decide))).trans h.c3, by simpa [World.setCell] using h.z, fun o => (World.frozen?_setCell ..).trans (h.f o)⟩
theorem LinAt.set3 {w : World} {b : Nat} {x : Lin} (h : LinAt w b x) (t : Int) : LinAt (w.setCell ⟨b, 3, none⟩ (.int .i64 t)) b ⟨x.depth, x.kind, x.a, t⟩ :=
  ⟨(cell_set_other (.inr (by decide))).trans h.c0, (cell_set_other (.inr (by decide))).trans h.c1, (cell_set_other (.inr (by decide))).trans h.c2, cell_set_same h.c3, by simpa [World.setCell] using h.z, fun o => (World.frozen?_setCell ..).trans (h.f o)⟩
theorem LinAt.other {w : World} {b q o : Nat} {x : Lin} {u : Value} (h : LinAt w b x) (hq : q ≠ b) : LinAt (w.setCell ⟨q, o, none⟩ u) b x :=
  ⟨(cell_set_other (.inl (by omega))).trans h.c0, (cell_set_other (.inl (by omega))).trans h.c1, (cell_set_other (.inl (by omega))).trans h.c2, (cell_set_other (.inl (by omega))).trans h.c3, by simpa [World.setCell] using h.z, fun o => (World.frozen?_setCell ..).trans (h.f o)⟩
theorem linAt_new (w : World) (d k a b : Int) (T : TypeId) : LinAt (w.alloc (.cells #[.int .i64 d, .int .i64 k, .int .i64 a, .int .i64 b] T)) w.heap.size ⟨d, k, a, b⟩ := by
  refine ⟨?_, ?_, ?_, ?_, by simp, fun o => World.frozen?_alloc_at _ _ _ _ rfl⟩ <;> (rw [World.cell?_alloc_at _ _ _ _ rfl]; rfl)
def LinO (x : Lin) (w : World) (e : Ending) (w' : World) : Prop := e = .returned (.agg #[.int .i64 x.depth, .int .i64 x.kind, .int .i64 x.a, .int .i64 x.b]) ∧ Le w w'
theorem find_boundL (s : ByteArray) (L : List Cls) : -1 ≤ findN L s 0 ∧ findN L s 0 ≤ L.length := by
  rcases findN_spec s L 0 with ⟨h, _⟩ | ⟨j, hj, h, _⟩ <;> rw [h] <;> omega
theorem lin_okL {d k a b : Int} (h0 : 0 ≤ d ∧ d ≤ 1048576) (h1 : -1 ≤ k ∧ k ≤ 12) (h2 : -9223372036854775808 ≤ a ∧ a ≤ 9223372036854775807) (h3 : -9223372036854775808 ≤ b ∧ b ≤ 9223372036854775807) : Enc.ok (⟨d, k, a, b⟩ : Lin) :=
  ⟨by show _ ≤ d; omega, by show d ≤ _; omega, by show _ ≤ k; omega, by show k ≤ _; omega, h2.1, h2.2, h3.1, h3.2⟩
section
variable {xs : List Cls} {l : List UInt8}
theorem pLI_1 (h : lkW (atW (splitL 32 (l.drop (spN l))) 0) = 1 ∨ lkW (atW (splitL 32 (l.drop (spN l))) 0) = 4 ∨ lkW (atW (splitL 32 (l.drop (spN l))) 0) = 12) : pLI xs l = ⟨spN l, lkW (atW (splitL 32 (l.drop (spN l))) 0), atI (atW (splitL 32 (l.drop (spN l))) 1), 0⟩ := by unfold pLI; dsimp only; rw [if_pos h]
theorem pLI_11 (h : lkW (atW (splitL 32 (l.drop (spN l))) 0) = 11) : pLI xs l = ⟨spN l, lkW (atW (splitL 32 (l.drop (spN l))) 0), atI (atW (splitL 32 (l.drop (spN l))) 1), if atW (splitL 32 (l.drop (spN l))) 2 = lwQuiet then 1 else 0⟩ := by unfold pLI; dsimp only; rw [if_neg (by omega), if_pos h]
theorem pLI_2 (h : lkW (atW (splitL 32 (l.drop (spN l))) 0) = 2) : pLI xs l = ⟨spN l, lkW (atW (splitL 32 (l.drop (spN l))) 0), findN xs (tb (atW (splitL 32 (l.drop (spN l))) 1)) 0, atI (atW (splitL 32 (l.drop (spN l))) 2)⟩ := by unfold pLI; dsimp only; rw [if_neg (by omega), if_neg (by omega), if_pos h]
theorem pLI_8 (h : lkW (atW (splitL 32 (l.drop (spN l))) 0) = 8) : pLI xs l = ⟨spN l, lkW (atW (splitL 32 (l.drop (spN l))) 0), findN xs (tb (atW (splitL 32 (l.drop (spN l))) 1)) 0, 0⟩ := by unfold pLI; dsimp only; rw [if_neg (by omega), if_neg (by omega), if_neg (by omega), if_pos h]
theorem pLI_no (h1 : ¬ (lkW (atW (splitL 32 (l.drop (spN l))) 0) = 1 ∨ lkW (atW (splitL 32 (l.drop (spN l))) 0) = 4 ∨ lkW (atW (splitL 32 (l.drop (spN l))) 0) = 12)) (h2 : lkW (atW (splitL 32 (l.drop (spN l))) 0) ≠ 11) (h3 : lkW (atW (splitL 32 (l.drop (spN l))) 0) ≠ 2) (h4 : lkW (atW (splitL 32 (l.drop (spN l))) 0) ≠ 8) : pLI xs l = ⟨spN l, lkW (atW (splitL 32 (l.drop (spN l))) 0), 0, 0⟩ := by unfold pLI; dsimp only; rw [if_neg h1, if_neg h2, if_neg h3, if_neg h4]
end
theorem pLI_ok {xs : List Cls} {l : List UInt8} (hl : l.length ≤ 1048576) (h : xs.length ≤ 9223372036854775807) : Enc.ok (pLI xs l) := by
  have f := fun s => find_boundL s xs
  have hd := spN_le l
  have hk := lkW_rng (atW (splitL 32 (l.drop (spN l))) 0)
  unfold pLI
  dsimp only
  split
  · exact lin_okL (by omega) hk (atI_rng _) (by omega)
  split
  · refine lin_okL (by omega) hk (atI_rng _) ?_
    split <;> omega
  split
  · exact lin_okL (by omega) hk (by have := f (tb (atW (splitL 32 (l.drop (spN l))) 1)); omega) (atI_rng _)
  split
  · exact lin_okL (by omega) hk (by have := f (tb (atW (splitL 32 (l.drop (spN l))) 1)); omega) (by omega)
  · exact lin_okL (by omega) hk (by omega) (by omega)
theorem pLS_ok {xs : List Cls} {l : List UInt8} (hl : l.length ≤ 1048576) (h : xs.length ≤ 9223372036854775807) : Enc.ok (pLS xs l) := by
  have f := fun s => find_boundL s xs
  have r1 := fun x => rdN_rng (m := 100) (by omega) x
  have hd := spN_le l
  have hk := lkW_rng (atW (splitL 32 (l.drop (spN l))) 0)
  unfold pLS lnsA lnsB
  dsimp only
  refine lin_okL (by omega) hk ?_ ?_
  · split
    · have := f (tb (atW (splitL 32 (l.drop (spN l))) 1)); omega
    · split
      · have := r1 (atW (splitL 32 (l.drop (spN l))) 1); omega
      · omega
  · split
    · have := r1 (atW (splitL 32 (l.drop (spN l))) 2); omega
    · split <;> omega
end

section
theorem Sl.of_rowF {α : Type} [Enc α] {w : World} {b : Nat} {T : TypeId} {cs : Array Value} {fz : Nat × Nat} {n : Nat} {xs : List α} (h : w.heap[b]? = some (.cells cs T fz)) (hc : cs.toList = xs.flatMap Enc.cells) (hn : xs.length = n) (hm : n ≤ 1000) (hok : ∀ x ∈ xs, Enc.ok x) : Sl w (some ⟨b, 0, none⟩) n n xs := by
  refine ⟨hn, Nat.le_refl _, by omega, hok, fun _ => ⟨b, 0, rfl, ?_, fun j u hu => ?_⟩⟩
  · rcases Nat.lt_or_ge b w.heap.size with hlt | hge
    · exact hlt
    · rw [Array.getElem?_eq_none hge] at h; cases h
  · rw [Nat.zero_add, cell_of_row w b j cs T fz h, ← hu, ← hc]
    simp
end

section
theorem bldSize : (Tryd.prog.info? 48).map (·.size) = some 2 := by kernel_rfl
theorem bldLies : liesAt Tryd.prog Tryd.prog.depth 48 (2 / Tryd.prog.cellsOf 48) 0 48 1 = true := by kernel_rfl
theorem bldByte : (Tryd.prog.info? 5).map (fun i => (i.zero, i.size, i.bytes)) = some (some (.int .u8 0), 1, 1) := by kernel_rfl
/-- the builder at block b holds these bytes; its rows lie from B on -/
def Bl (B b : Nat) (l : List UInt8) (w : World) : Prop := Lib.IsBuilderF 48 5 B b (Lib.byteCells l) w
set_option maxRecDepth 100000 in
theorem copyCheck_any (B b : Nat) (bs : List Value) (w : World) (h : Lib.IsBuilderF 48 5 B b bs w) :
    Calls Tryd.prog 33 #[.pointer (some ⟨b, 0, none⟩)] w fun e w' => e = .returned (.tuple #[]) ∧ Lib.BuilderAtF 48 5 B b (.pointer (some ⟨b, 0, none⟩)) bs w' ∧ Below B w w' ∧ Lib.OthersKept 5 (some b) w w' := by
  obtain ⟨j, hj, hjs⟩ := Option.map_eq_some_iff.1 bldSize
  rcases h with h | h
  · have h0 := h.cell0
    have hsh := h.shape
    have hfz := h.frozen0
    refine Calls.mono (R := fun e w' => e = .returned (.tuple #[]) ∧ w' = w.setCell ⟨b, 0, none⟩ (.pointer (some ⟨b, 0, none⟩))) ?_ ?_
    · go_enter Tryd.func33, Tryd.ntmps33
      go_wp2
      rw [Lib.run_to_unsafe w ⟨b, 0, none⟩ Tryd.underlying45 Tryd.underlying93 hj (by rw [hjs]; decide) hsh (Nat.zero_lt_succ 1)]
      simp only [Result.andThen]
      rw [Oper.upon_value]
      go_wp2
      rw [run_callFunc_extern Tryd.func60 (by kernel_rfl) (by kernel_rfl) (by kernel_rfl) (e := Extern.AbiNoEscape.same) (by kernel_rfl)]
      rw [Lib.run_noEscape]
      simp only [Result.andThen]
      rw [Oper.upon_value]
      go_wp2
      rw [Lib.run_from_unsafe w ⟨b, 0, none⟩ Tryd.underlying93 Tryd.underlying45 hj hsh bldLies]
      simp only [Result.andThen]
      rw [Oper.upon_value]
      go_wp2
      go_end0
      exact ⟨rfl, rfl⟩
    · rintro e w' ⟨rfl, rfl⟩
      exact ⟨rfl, h.used _, (Below.refl B w).setCell (p := ⟨b, 0, none⟩) h.1 _, (Lib.OthersKept.refl _ _ w).setCell ⟨b, 0, none⟩ rfl _⟩
  · have h0 := h.cell0
    refine Calls.mono (R := fun e w' => e = .returned (.tuple #[]) ∧ w' = w) ?_ ?_
    · go_enter Tryd.func33, Tryd.ntmps33
      go_wp2
      rw [Lib.run_neq_ptr_same w _ Tryd.underlying45 hj]
      go_wp2
      go_end0
      exact ⟨rfl, rfl⟩
    · rintro e w' ⟨rfl, rfl⟩
      exact ⟨rfl, h, Below.refl B _, Lib.OthersKept.refl _ _ _⟩
set_option maxRecDepth 100000 in
theorem writeString_any (B b : Nat) (l : List UInt8) (s : ByteArray) (w : World) (h : Bl B b l w) (hl : l.length + s.size ≤ 1000000) (hBw : B ≤ w.heap.size) :
    Calls Tryd.prog 18 #[.pointer (some ⟨b, 0, none⟩), .string s] w fun e w' => e = .returned (.tuple #[.int .i64 s.size, .nilIface]) ∧ Bl B b (l ++ bl s) w' ∧ Below B w w' ∧ Lib.OthersKept 5 (some b) w w' := by
  obtain ⟨i0, hi, hz0, hz1, hz2⟩ := info_parts bldByte
  have hlen : (Lib.byteCells l).length = l.length := Lib.byteCells_length l
  go_enter Tryd.func18, Tryd.ntmps18
  go_wp2_with (go_at_call 33; refine (copyCheck_any B b _ _ h).mono ?_)
  rintro e w1 ⟨rfl, h1, hb1, hk1⟩
  obtain ⟨hB, v, hbk, hown, hne⟩ := h1
  have c0 : w1.cell? ⟨b, 0, none⟩ = some (.pointer (some ⟨b, 0, none⟩)) := by rw [Lib.cell_of_heap hbk]; rfl
  have c1 : w1.cell? ⟨b, 1, none⟩ = some v := by rw [Lib.cell_of_heap hbk]; rfl
  go_wp2_with (at_builtin; refine Lib.wpList_append_own_stringF _ rfl _ _ 46 9 rfl B 5 i0 Tryd.underlying46 Tryd.underlying9 hi hz0 hz1 hz2 _ _ _ rfl hown s rfl ?c3 ?c4 ?c5 ?_)
  case c3 => unfold maxLen; omega
  case c4 => omega
  case c5 => have := hb1.size; omega
  intro v' w2 hown' hgrow _
  have hlt : b < w1.heap.size := by
    rcases Nat.lt_or_ge b w1.heap.size with h' | h'
    · exact h'
    · simp [Array.getElem?_eq_none h'] at hbk
  have hb2 : w2.heap[b]? = some (.cells #[.pointer (some ⟨b, 0, none⟩), v] 48 (0, 0)) := by
    rw [hgrow.block b hlt (fun e => hne e.symm)]
    exact hbk
  have d0 : w2.cell? ⟨b, 0, none⟩ = some (.pointer (some ⟨b, 0, none⟩)) := by rw [Lib.cell_of_heap hb2]; rfl
  have d1 : w2.cell? ⟨b, 1, none⟩ = some v := by rw [Lib.cell_of_heap hb2]; rfl
  have f1 : w2.frozen? ⟨b, 1, none⟩ = false := Lib.frozen_of_heap hb2 1
  obtain ⟨ao, n', cap, rfl⟩ : ∃ ao n' cap, v' = .slice ao n' cap := by
    rcases hown'.2 with ⟨hv, _⟩ | ⟨g, cap, cur, fz, hv, _⟩
    · exact ⟨_, _, _, hv⟩
    · exact ⟨_, _, _, hv⟩
  go_wp2
  go_ret2
  refine ⟨rfl, ?_, ?_, (hk1.grown hgrow (Lib.ownsRowF_kind hown)).setCell ⟨b, 1, none⟩ rfl _⟩
  · refine Or.inr (Lib.BuilderAtF.put (T := 48) (e := 5) hB hb2 (bs' := Lib.byteCells (l ++ bl s)) ?_ (by decide))
    have e1 : Lib.byteCells (l ++ bl s) = Lib.byteCells l ++ Lib.strCells s := Lib.byteCells_append l (bl s)
    rw [e1, List.length_append, Lib.strCells_length, hlen]; exact hown'
  · exact (hb1.grown hgrow (by have := hb1.size; omega) (fun k hk => (hown.lt k hk).1)).setCell (p := ⟨b, 1, none⟩) hB _
theorem builderText_any (B b : Nat) (l : List UInt8) (w : World) (h : Bl B b l w) (hBw : B ≤ w.heap.size) :
    Calls Tryd.prog 21 #[.pointer (some ⟨b, 0, none⟩)] w fun e w' => e = .returned (.string (tb l)) ∧ Below B w w' :=
  (Tryd.Builder_String_any_k B b l w h hBw).mono fun _ _ ⟨he, _, hb, _⟩ => ⟨he, hb⟩
/-- a cell of a block that is no row of bytes and not the builder's -/
theorem kept_cell {b k : Nat} {w w' : World} (h : Lib.OthersKept 5 (some b) w w') {cs : Array Value} {T : TypeId} {fz : Nat × Nat} (hk : w.heap[k]? = some (.cells cs T fz)) (hb : k ≠ b) (hT : T ≠ 5) : w'.heap[k]? = some (.cells cs T fz) :=
  h k _ hk (fun e => hb (by injection e)) (fun c f e => hT (by injection e))
theorem bl_fresh (w : World) : Bl w.heap.size w.heap.size [] (w.alloc (.cells #[.pointer none, .slice none 0 0] 48)) := Lib.IsBuilderF.of (Lib.fresh_isBuilder 48 5 w)
end
end Go.Proofs.YtkcnjoikdalgjaaDoor
