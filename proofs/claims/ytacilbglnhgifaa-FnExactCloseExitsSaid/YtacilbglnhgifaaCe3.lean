/- one text of TlR2, AP, P, A, B, I, OP -/
import Derived.Test.YtacilbglnhgifaaCe2
import Derived.Test.YtacilbglnhgifaaCe1
import Derived.Test.YtacilbglnhgifaaRows
import Derived.Maps.AppendAt
import Derived.Deep.AppendLies
import Derived.RegionTactic
import Derived.OwnWalk
namespace Go.Proofs.Ytacilbglnhgifaa
open Go.RowKit
set_option linter.unusedVariables false
section
/-- two rows of the call's own in two blocks -/
def Apart (v u : Value) : Prop := v.ownBlock = none ∨ v.ownBlock ≠ u.ownBlock
theorem Apart.symm {v u : Value} (h : Apart v u) : Apart u v := by
  rcases h with h | h
  · unfold Apart; rw [h]
    cases u.ownBlock
    · exact .inl rfl
    · exact .inr (by simp)
  · exact .inr (Ne.symm h)
theorem Apart.new {w : World} {v u v1 : Value} {base size n m : Nat} {e : TypeId} {xs : List Value} (h : Apart v u) (hu : w.ownsRow base e size u n xs) (hat : v1.ownBlock = v.ownBlock ∨ v1.ownBlock = some m) (hm : w.heap.size ≤ m) : Apart v1 u := by
  rcases hat with h1 | h1
  · unfold Apart; rw [h1]; exact h
  · refine .inr fun e => ?_
    rw [h1] at e
    have := (hu.lt m e.symm).2
    omega
theorem hpn {w : World} {o : Obj} {b : Nat} (h : b = w.heap.size) : (w.alloc o).heap[b]? = some o := hp_new w o h
theorem cells4 {w : World} {b : Nat} {a0 a1 a2 a3 : Value} {T : TypeId} (h : w.heap[b]? = some (.cells #[a0, a1, a2, a3] T)) : w.cell? ⟨b, 0, none⟩ = some a0 ∧ w.cell? ⟨b, 1, none⟩ = some a1 ∧ w.cell? ⟨b, 2, none⟩ = some a2 ∧ w.cell? ⟨b, 3, none⟩ = some a3 :=
  ⟨cell_of_row w b 0 _ T _ h, cell_of_row w b 1 _ T _ h, cell_of_row w b 2 _ T _ h, cell_of_row w b 3 _ T _ h⟩
theorem boxR (w : World) (a b c d : Value) (T : TypeId) : (w.alloc (.cells #[a, b, c, d] T)).cell? ⟨w.heap.size, 0, none⟩ = some a ∧ (w.alloc (.cells #[a, b, c, d] T)).cell? ⟨w.heap.size, 1, none⟩ = some b ∧ (w.alloc (.cells #[a, b, c, d] T)).cell? ⟨w.heap.size, 2, none⟩ = some c ∧ (w.alloc (.cells #[a, b, c, d] T)).cell? ⟨w.heap.size, 3, none⟩ = some d ∧ w.heap.size < (w.alloc (.cells #[a, b, c, d] T)).heap.size ∧ Le w (w.alloc (.cells #[a, b, c, d] T)) := by
  obtain ⟨z0, z1, z2, z3⟩ := cells4 (hpn (w := w) (o := .cells #[a, b, c, d] T) rfl)
  exact ⟨z0, z1, z2, z3, by simp, Le.new w _⟩
set_option maxHeartbeats 1000000 in
set_option maxRecDepth 100000 in
theorem eqResult_self (A B E F : Option Addr) (n c d m e f : Nat) (xs : List Int) (hs : List Flt) (x y : Int) (w : World) (hA : Sl w A n c xs) (hB : Sl w B n d xs) (hE : Sl w E m e hs) (hF : Sl w F m f hs) :
    Calls Try.prog 13 #[.agg #[.slice A n c, .int .i64 x, .int .i64 y, .slice E m e], .agg #[.slice B n d, .int .i64 x, .int .i64 y, .slice F m f]] w fun e w' => e = .returned (.bool true) ∧ Le w w' := by
  have R1 := boxR w (.slice A n c) (.int .i64 x) (.int .i64 y) (.slice E m e) 35
  have R2 := boxR (w.alloc (.cells #[.slice A n c, .int .i64 x, .int .i64 y, .slice E m e] 35)) (.slice B n d) (.int .i64 x) (.int .i64 y) (.slice F m f) 35
  obtain ⟨a0, a1, a2, a3, za, L1⟩ := R1
  obtain ⟨b0, b1, b2, b3, zb, L2⟩ := R2
  have hz : (w.alloc (.cells #[.slice A n c, .int .i64 x, .int .i64 y, .slice E m e] 35)).heap.size = w.heap.size + 1 := by simp
  replace a0 := (L2.cell za).trans a0
  replace a1 := (L2.cell za).trans a1
  replace a2 := (L2.cell za).trans a2
  replace a3 := (L2.cell za).trans a3
  rw [hz] at b0 b1 b2 b3 zb
  have za2 := Nat.lt_of_lt_of_le za L2.size
  have LL := L1.trans L2
  go_enter Try.func13, Try.ntmps13
  go_wp2_with fail
  generalize (w.alloc (.cells #[.slice A n c, .int .i64 x, .int .i64 y, .slice E m e] 35)).alloc (.cells #[.slice B n d, .int .i64 x, .int .i64 y, .slice F m f] 35) = W at *
  refine (eqIntS_self A B n c d xs W (hA.le LL) (hB.le LL)).mono ?_
  rintro e2 w2 ⟨rfl, hle⟩
  replace a1 := (hle.cell za2).trans a1
  replace a2 := (hle.cell za2).trans a2
  replace a3 := (hle.cell za2).trans a3
  replace b1 := (hle.cell zb).trans b1
  replace b2 := (hle.cell zb).trans b2
  replace b3 := (hle.cell zb).trans b3
  have L3 := LL.trans hle
  clear L1 L2 LL hle a0 b0
  have hxb : (x != x) = false := by simp
  have hyb : (y != y) = false := by simp
  go_wp2_with fail
  refine (eqHeap_self E F m e f hs w2 (hE.le L3) (hF.le L3)).mono ?_
  rintro e3 w3 ⟨rfl, hle⟩
  go_wp2
  go_ret
  exact ⟨rfl, L3.trans hle⟩
set_option maxHeartbeats 1000000 in
set_option maxRecDepth 100000 in
theorem markResult_any (A B : Option Addr) (n c m d : Nat) (xs ys : List Value) (x y q : Int) (w : World) (b1 b2 : Nat) (hR : w.ownsRow b1 3 1 (.slice A n c) n xs) (hH : w.ownsRow b2 84 5 (.slice B m d) m ys) (hap : Apart (.slice A n c) (.slice B m d)) (h0 : 1 ≤ q) (h1 : q ≤ 1000000) (hn : n ≤ 1048576) (hm : m ≤ 1048576) :
    Calls Try.prog 18 #[.agg #[.slice A n c, .int .i64 x, .int .i64 y, .slice B m d], .int .i64 q] w fun e w' => e = .returned (.int .i64 (q + n + 5 * m)) ∧ w'.ownsRow b1 3 1 (.slice A n c) n (((List.range n).map (mInt q)).flatMap Enc.cells) ∧ w'.ownsRow b2 84 5 (.slice B m d) m (((List.range m).map (mFlt (q + n))).flatMap Enc.cells) ∧ ∃ w1, w.grownBy w1 (Value.slice A n c).ownBlock ∧ w1.grownBy w' (Value.slice B m d).ownBlock := by
  obtain ⟨a0, a1, a2, a3, za, L1⟩ := boxR w (.slice A n c) (.int .i64 x) (.int .i64 y) (.slice B m d) 35
  have hlt := hR.lt
  have hlt2 := hH.lt
  go_enter Try.func18, Try.ntmps18
  go_wp2_with fail
  refine (markIntS_any A n c xs q _ b1 (hR.alloc _) h0 (by omega) hn).mono ?_
  rintro e2 w2 ⟨rfl, O2, hg2⟩
  have c3 := hg2.cell (a := ⟨w.heap.size, 3, none⟩) a3 (fun e => by have := (hlt w.heap.size e.symm).2; omega)
  have H2 := (hH.alloc (.cells #[.slice A n c, .int .i64 x, .int .i64 y, .slice B m d] 35)).kept hg2 (by
    cases e : (Value.slice B m d).ownBlock with
    | none => exact .inl rfl
    | some k => exact .inr (fun e2 => by
        rcases hap with h | h
        · rw [h] at e2; cases e2
        · exact h (by rw [e, e2])))
  have g2 := gx_from hg2
  clear hg2 a0 a1 a2 a3 L1
  go_wp2_with fail
  refine (markHeap_any B m d ys (q + n) w2 b2 H2 (by omega) (by omega) hm).mono ?_
  rintro e3 w3 ⟨rfl, O3, hg3⟩
  have O4 := O2.kept hg3 (by
    cases e : (Value.slice A n c).ownBlock with
    | none => exact .inl rfl
    | some k => exact .inr (fun e2 => by
        rcases hap with h | h
        · rw [h] at e; cases e
        · exact h (by rw [e, e2])))
  go_wp2
  go_ret
  exact ⟨rfl, O4, O3, w2, g2, hg3⟩
set_option maxHeartbeats 1000000 in
set_option maxRecDepth 100000 in
theorem heldResult_any (A B : Option Addr) (n c m d : Nat) (x y q : Int) (w : World) (hR : Sl w A n c ((List.range n).map (mInt q))) (hH : Sl w B m d ((List.range m).map (mFlt (q + n)))) (h0 : 1 ≤ q) (h1 : q ≤ 1000000) (hn : n ≤ 1048576) (hm : m ≤ 1048576) :
    Calls Try.prog 19 #[.agg #[.slice A n c, .int .i64 x, .int .i64 y, .slice B m d], .int .i64 q] w fun e w' => e = .returned (.int .i64 (q + n + 5 * m)) ∧ Le w w' := by
  obtain ⟨a0, a1, a2, a3, za, L1⟩ := boxR w (.slice A n c) (.int .i64 x) (.int .i64 y) (.slice B m d) 35
  go_enter Try.func19, Try.ntmps19
  go_wp2_with fail
  generalize w.alloc (.cells #[.slice A n c, .int .i64 x, .int .i64 y, .slice B m d] 35) = W at *
  refine (heldIntS_any A n c q W (hR.le L1) h0 (by omega) hn).mono ?_
  rintro e2 w2 ⟨rfl, hle⟩
  replace a3 := (hle.cell za).trans a3
  have L2 := L1.trans hle
  have hneg : decide (q + (n : Int) < 0) = false := decide_eq_false (by omega)
  clear hle L1 a0 a1 a2
  go_wp2_with fail
  refine (heldHeap_any B m d (q + n) w2 (hH.le L2) (by omega) (by omega) hm).mono ?_
  rintro e3 w3 ⟨rfl, hle⟩
  have hneg2 : decide (q + (n : Int) + 5 * (m : Int) < 0) = false := decide_eq_false (by omega)
  go_wp2
  go_ret
  exact ⟨rfl, L2.trans hle⟩
end

section
class EncOne (α : Type) [Enc α] : Prop where
  pos : 0 < Enc.size α
  one : ∀ (x : α) u, u ∈ Enc.cells x → u.oneCell' = true
theorem EncOne.all {α : Type} [Enc α] [EncOne α] (xs : List α) : ∀ u ∈ xs.flatMap Enc.cells, u.oneCell' = true := by
  intro u hu
  rw [List.mem_flatMap] at hu
  obtain ⟨x, _, hx⟩ := hu
  exact EncOne.one x u hx
instance instOneInt : EncOne Int := ⟨by decide, fun x u hu => by simp [Enc.cells] at hu; subst hu; rfl⟩
instance instOneCls : EncOne Cls := ⟨by decide, fun x u hu => by simp [Enc.cells] at hu; rcases hu with rfl | rfl <;> rfl⟩

section
variable {α : Type} [Enc α] [EncOne α] {P : Program} {w : World}
theorem run_append_sl (base : Nat) (t ty e : TypeId) (i : TypeInfo) (z : Value) (bytes : Nat) (ht : P.underlying t = some (.slice e)) (hi : P.info? e = some i) (hz : i.zero = some z)
    (hsize : i.size = Enc.size α) (hby : i.bytes = bytes) (hzs : z.cells.size = Enc.size α) (v : Value) (n : Nat) (xs : List α) (hown : w.ownsRow base e (Enc.size α) v n (xs.flatMap Enc.cells))
    (A : Option Addr) (m c : Nat) (ys : List α) (hS : Sl w A m c ys) (h63 : n + m ≤ maxLen) (hbytes : (n + m) * bytes ≤ 140737488355328) (hbase : base ≤ w.heap.size) :
    ∃ v' w', (Builtin.append_ #[t, t] ty #[v, .slice A m c]).run P w = .ok v' w' ∧ w'.ownsRow base e (Enc.size α) v' (n + m) ((xs ++ ys).flatMap Enc.cells) ∧ w.grownBy w' v.ownBlock ∧
      (v'.ownBlock = v.ownBlock ∨ v'.ownBlock = some w.heap.size) := by
  have hm : (ys.flatMap (Enc.cells (α := α))).length = m * Enc.size α := by rw [flat_len, hS.len]
  rcases A with _ | ad
  · have h0 : m = 0 := by
      rcases Nat.eq_zero_or_pos m with h0 | h0
      · exact h0
      · obtain ⟨b, off, h, _⟩ := hS.at_ h0; cases h
    subst h0
    have hy : ys = [] := List.eq_nil_of_length_eq_zero hS.len
    subst hy
    refine ⟨v, w, ?_, by simpa using hown, World.grownBy.refl w _, .inl rfl⟩
    rcases hown.2 with ⟨rfl, _⟩ | ⟨g, cap, cur, rfl, _, _, hnc, _⟩
    · simp [Builtin.append_, run_underlying ht, sizeOf, typeInfo, hi, Builtin.lenOf, Builtin.firstCells]
    · simp [Builtin.append_, run_underlying ht, sizeOf, typeInfo, hi, Builtin.lenOf, Builtin.firstCells, hnc, storeCells]
  · have hcells : ∀ j u, (ys.flatMap Enc.cells)[j]? = some u → w.cell? (ad.add j) = some u := by
      intro j u hu
      rcases Nat.eq_zero_or_pos m with h0 | h0
      · have hy : ys = [] := List.eq_nil_of_length_eq_zero (by rw [hS.len, h0])
        subst hy; simp at hu
      · obtain ⟨b, off, h, _, hc⟩ := hS.at_ h0
        injection h with h
        subst h
        have e : (⟨b, off, none⟩ : Addr).add j = ⟨b, off + j, none⟩ := by
          unfold Addr.add; split
          · next h => subst h; rfl
          · rfl
        rw [e]; exact hc j u hu
    obtain ⟨v', w', hrun, h2, h3, _, h5⟩ := run_append_own_at (P := P) w base t ty e i z (Enc.size α) bytes ht hi hz hsize hby hzs EncOne.pos v n _ hown ad m c _ hm hcells (EncOne.all ys) h63 hbytes hbase
    exact ⟨v', w', hrun, by rw [List.flatMap_append]; exact h2, h3, h5⟩

theorem wp_append_sl {o : Oper} {a : Act} {K : Act → World → Prop} {Q : Exit → Act → World → Prop} (s x : Operand) (t : TypeId)
    (ho : o.op = .call { callee := .builtin .append, args := #[s, x], argTypes := #[t, t] })
    (base : Nat) (e : TypeId) (i : TypeInfo) (z : Value) (bytes : Nat) (ht : P.underlying t = some (.slice e)) (hi : P.info? e = some i) (hz : i.zero = some z)
    (hsize : i.size = Enc.size α) (hby : i.bytes = bytes) (hzs : z.cells.size = Enc.size α) (v : Value) (n : Nat) (xs : List α) (hs : a.eval s = v) (hown : w.ownsRow base e (Enc.size α) v n (xs.flatMap Enc.cells))
    (A : Option Addr) (m c : Nat) (ys : List α) (hx : a.eval x = .slice A m c) (hS : Sl w A m c ys) (h63 : n + m ≤ maxLen) (hbytes : (n + m) * bytes ≤ 140737488355328) (hbase : base ≤ w.heap.size)
    (h : ∀ v' w', w'.ownsRow base e (Enc.size α) v' (n + m) ((xs ++ ys).flatMap Enc.cells) → w.grownBy w' v.ownBlock → (v'.ownBlock = v.ownBlock ∨ v'.ownBlock = some w.heap.size) → K (a.put o.dst v') w') : o.wp P a w K Q := by
  obtain ⟨v', w', hrun, h2, h3, h4⟩ := run_append_sl (P := P) (w := w) base t o.type e i z bytes ht hi hz hsize hby hzs v n xs hown A m c ys hS h63 hbytes hbase
  unfold Oper.wp execOp
  simp only [ho, resolve, invoke, builtin, Sem.run_bind, Sem.run_pure, Result.andThen_ok, List.map_toArray, List.map_cons, List.map_nil, hs, hx, hrun]
  exact h v' w' h2 h3 h4
theorem wpList_append_sl {ops : Array Oper} {rest : List Oper} {o : Oper} {a : Act} {Q : Exit → Act → World → Prop} (hgd : o.guard = none) (s x : Operand) (t : TypeId)
    (ho : o.op = .call { callee := .builtin .append, args := #[s, x], argTypes := #[t, t] })
    (base : Nat) (e : TypeId) (i : TypeInfo) (z : Value) (bytes : Nat) (ht : P.underlying t = some (.slice e)) (hi : P.info? e = some i) (hz : i.zero = some z)
    (hsize : i.size = Enc.size α) (hby : i.bytes = bytes) (hzs : z.cells.size = Enc.size α) (v : Value) (n : Nat) (xs : List α) (hs : a.eval s = v) (hown : w.ownsRow base e (Enc.size α) v n (xs.flatMap Enc.cells))
    (A : Option Addr) (m c : Nat) (ys : List α) (hx : a.eval x = .slice A m c) (hS : Sl w A m c ys) (h63 : n + m ≤ maxLen) (hbytes : (n + m) * bytes ≤ 140737488355328) (hbase : base ≤ w.heap.size)
    (h : ∀ v' w', w'.ownsRow base e (Enc.size α) v' (n + m) ((xs ++ ys).flatMap Enc.cells) → w.grownBy w' v.ownBlock → (v'.ownBlock = v.ownBlock ∨ v'.ownBlock = some w.heap.size) → wpList P ops Q rest (a.put o.dst v') w') : wpList P ops Q (o :: rest) a w :=
  wpList_plain hgd fun _ hK => wp_append_sl s x t ho base e i z bytes ht hi hz hsize hby hzs v n xs hs hown A m c ys hx hS h63 hbytes hbase fun v' w' h2 h3 h4 => hK _ _ (h v' w' h2 h3 h4)
theorem step_append_sl {ops : Array Oper} {o : Oper} {a : Act} {K : Act → World → Prop} {Q : Exit → Act → World → Prop} {E : Prop} (hgd : o.guard = none) (s x : Operand) (t : TypeId)
    (ho : o.op = .call { callee := .builtin .append, args := #[s, x], argTypes := #[t, t] })
    (base : Nat) (e : TypeId) (i : TypeInfo) (z : Value) (bytes : Nat) (ht : P.underlying t = some (.slice e)) (hi : P.info? e = some i) (hz : i.zero = some z)
    (hsize : i.size = Enc.size α) (hby : i.bytes = bytes) (hzs : z.cells.size = Enc.size α) (v : Value) (n : Nat) (xs : List α) (hs : a.eval s = v) (hown : w.ownsRow base e (Enc.size α) v n (xs.flatMap Enc.cells))
    (A : Option Addr) (m c : Nat) (ys : List α) (hx : a.eval x = .slice A m c) (hS : Sl w A m c ys) (h63 : n + m ≤ maxLen) (hbytes : (n + m) * bytes ≤ 140737488355328) (hbase : base ≤ w.heap.size)
    (h : ∀ v' w', w'.ownsRow base e (Enc.size α) v' (n + m) ((xs ++ ys).flatMap Enc.cells) → w.grownBy w' v.ownBlock → (v'.ownBlock = v.ownBlock ∨ v'.ownBlock = some w.heap.size) → K (a.put o.dst v') w') :
    if Region.wanted o (yielded ops a.tmps) = true then Oper.wp P o a w K Q else E := by
  have hw : Region.wanted o (yielded ops a.tmps) = true := by simp [Region.wanted, hgd]
  rw [if_pos hw]
  exact wp_append_sl s x t ho base e i z bytes ht hi hz hsize hby hzs v n xs hs hown A m c ys hx hS h63 hbytes hbase h
end
/-- one new box as a list -/
theorem sl_one {α : Type} [Enc α] {w : World} {cs : Array Value} {T : TypeId} (x : α) (hc : cs.toList = Enc.cells x) (hok : Enc.ok x) {b : Nat} (hb : b = w.heap.size) : Sl (w.alloc (.cells cs T)) (some ⟨b, 0, none⟩) 1 1 [x] := by
  subst hb
  refine ⟨rfl, Nat.le_refl _, by omega, fun y hy => by simp at hy; subst hy; exact hok, fun _ => ⟨_, 0, rfl, by simp, fun j u hu => ?_⟩⟩
  rw [List.flatMap_cons, List.flatMap_nil, List.append_nil, ← hc] at hu
  rw [Nat.zero_add, World.cell?_alloc_at _ _ _ _ rfl]
  simpa using hu
end

section
def hasI : List Int → Int → Bool
  | [], _ => false
  | z :: r, x => z == x || hasI r x
def lowers : List UInt8 → Bool
  | [] => true
  | c :: r => decide (97 ≤ c.toNat) && decide (c.toNat ≤ 122) && lowers r
def okName (s : ByteArray) : Bool := lowers s.data.toList && decide (1 ≤ s.size) && decide (s.size ≤ 6)
def findN : List Cls → ByteArray → Int → Int
  | [], _, _ => -1
  | c :: r, s, k => if c.name = s then k else findN r s (k + 1)

theorem findN_cons (c : Cls) (r : List Cls) (s : ByteArray) (k : Int) : findN (c :: r) s k = if c.name = s then k else findN r s (k + 1) := rfl
theorem hasI_at {zs : List Int} {k : Nat} (h : k < zs.length) (x : Int) : hasI (zs.drop k) x = (zs[k] == x || hasI (zs.drop (k + 1)) x) := by
  rw [List.drop_eq_getElem_cons h]; rfl
theorem hasI_end {zs : List Int} {k : Nat} (h : ¬ k < zs.length) (x : Int) : hasI (zs.drop k) x = false := by
  rw [List.drop_eq_nil_of_le (by omega)]; rfl
theorem findN_at {zs : List Cls} {k : Nat} (h : k < zs.length) (s : ByteArray) (j : Int) : findN (zs.drop k) s j = if zs[k].name = s then j else findN (zs.drop (k + 1)) s (j + 1) := by
  rw [List.drop_eq_getElem_cons h]; rfl
theorem findN_end {zs : List Cls} {k : Nat} (h : ¬ k < zs.length) (s : ByteArray) (j : Int) : findN (zs.drop k) s j = -1 := by
  rw [List.drop_eq_nil_of_le (by omega)]; rfl
theorem lowers_at {s : ByteArray} {k : Nat} (h : k < s.size) : lowers (s.data.toList.drop k) = (decide (97 ≤ s[k].toNat) && decide (s[k].toNat ≤ 122) && lowers (s.data.toList.drop (k + 1))) := by
  rw [List.drop_eq_getElem_cons (by simpa using h)]; rfl
theorem lowers_end {s : ByteArray} {k : Nat} (h : ¬ k < s.size) : lowers (s.data.toList.drop k) = true := by
  rw [List.drop_eq_nil_of_le (by simpa using h)]; rfl
end

section
theorem inRange_any (a b c : Int) (w : World) : Calls Try.prog 66 #[.int .i64 a, .int .i64 b, .int .i64 c] w fun e w' => e = .returned (.bool (decide (b ≤ a) && decide (a ≤ c))) ∧ w = w' := by
  go_enter Try.func66, Try.ntmps66
  go_wp2
  all_goals (go_ret; simp_all)
  all_goals omega

theorem hasInt_any (A : Option Addr) (n cap : Nat) (zs : List Int) (x : Int) (w : World) (hR : Sl w A n cap zs) :
    Calls Try.prog 69 #[.slice A n cap, .int .i64 x] w fun e w' => e = .returned (.bool (hasI zs x)) ∧ w = w' := by
  obtain rfl := hR.len
  have hm := hR.n_le
  go_enter Try.func69, Try.ntmps69
  go_wp2
  go_loop [5] (fun i => ∃ k : Nat, k ≤ zs.length ∧ i = .int .i64 k ∧ hasI zs x = hasI (zs.drop k) x) (fun i => zs.length - (intOf i).toNat)
  case atStart => exact ⟨0, Nat.zero_le _, rfl, rfl⟩
  case round =>
    obtain ⟨k, hk, rfl, hr⟩ := hrel
    have HR := Lib.hid hr; clear hr
    by_cases hlt : k < zs.length
    · obtain ⟨b, off, rfl, _, hcell, _, _⟩ := hR.int_at hlt
      cases he : zs[k] == x
      · have HF : Hid (hasI zs x = hasI (zs.drop (k + 1)) x) := by show _ = _; rw [HR.out, hasI_at hlt, he]; rfl
        go_wp2
        go_round
        case rel => exact ⟨k + 1, by omega, by go_num, HF.out⟩
        case measure => simp [intOf]; omega
      · have HF : Hid (hasI zs x = true) := by show _ = _; rw [HR.out, hasI_at hlt, he]; rfl
        go_wp2
        go_ret
        exact ⟨ret_bool HF.out.symm, rfl⟩
    · have HF : Hid (hasI zs x = false) := by show _ = _; rw [HR.out, hasI_end hlt]
      go_wp2
      go_ret
      exact ⟨ret_bool HF.out.symm, rfl⟩

theorem validName_any (s : ByteArray) (w : World) (hs : s.size ≤ 9223372036854775807) : Calls Try.prog 80 #[.string s] w fun e w' => e = .returned (.bool (okName s)) ∧ w = w' := by
  go_enter Try.func80, Try.ntmps80
  go_wp2
  go_loop [3] (fun i => ∃ k : Nat, k ≤ s.size ∧ i = .int .i64 k ∧ lowers s.data.toList = lowers (s.data.toList.drop k)) (fun i => s.size - (intOf i).toNat)
  case atStart => exact ⟨0, Nat.zero_le _, rfl, rfl⟩
  case round =>
    obtain ⟨k, hk, rfl, hr⟩ := hrel
    have HR := Lib.hid hr; clear hr
    by_cases hlt : k < s.size
    · have hc : 0 ≤ (s[k].toNat : Int) ∧ (s[k].toNat : Int) ≤ 255 := by have := UInt8.toNat_lt s[k]; omega
      by_cases h1 : s[k].toNat < 97
      · have HF : Hid (okName s = false) := by show _ = _; unfold okName; rw [HR.out, lowers_at hlt, decide_eq_false (p := 97 ≤ s[k].toNat) (by omega)]; rfl
        go_wp2
        go_ret
        exact ⟨ret_bool HF.out.symm, rfl⟩
      · by_cases h2 : 122 < s[k].toNat
        · have HF : Hid (okName s = false) := by show _ = _; unfold okName; rw [HR.out, lowers_at hlt, decide_eq_false (p := s[k].toNat ≤ 122) (by omega)]; simp
          go_wp2
          go_ret
          exact ⟨ret_bool HF.out.symm, rfl⟩
        · have HF : Hid (lowers s.data.toList = lowers (s.data.toList.drop (k + 1))) := by show _ = _; rw [HR.out, lowers_at hlt, decide_eq_true (p := 97 ≤ s[k].toNat) (by omega), decide_eq_true (p := s[k].toNat ≤ 122) (by omega)]; rfl
          go_wp2
          go_round
          case rel => exact ⟨k + 1, by omega, by go_num, HF.out⟩
          case measure => simp [intOf]; omega
    · have HF : Hid (okName s = (decide ((1 : Int) ≤ s.size) && decide ((s.size : Int) ≤ 6))) := by
        show _ = _; unfold okName; rw [HR.out, lowers_end hlt, Bool.true_and]; congr 1 <;> exact decide_eq_decide.2 (by omega)
      go_wp2_with (go_at_call 66; refine (inRange_any _ _ _ _).mono ?_; rintro e w' ⟨rfl, rfl⟩)
      go_ret
      exact ⟨ret_bool HF.out.symm, rfl⟩

theorem classNamed_any (A : Option Addr) (n cap : Nat) (xs : List Cls) (s : ByteArray) (w : World) (hR : Sl w A n cap xs) :
    Calls Try.prog 81 #[.slice A n cap, .string s] w fun e w' => e = .returned (.int .i64 (findN xs s 0)) ∧ w = w' := by
  obtain rfl := hR.len
  have hm := hR.n_le
  go_enter Try.func81, Try.ntmps81
  go_wp2
  go_loop [5] (fun i => ∃ k : Nat, k ≤ xs.length ∧ i = .int .i64 k ∧ findN xs s 0 = findN (xs.drop k) s k) (fun i => xs.length - (intOf i).toNat)
  case atStart => exact ⟨0, Nat.zero_le _, rfl, rfl⟩
  case round =>
    obtain ⟨k, hk, rfl, hr⟩ := hrel
    have HR := Lib.hid hr; clear hr
    by_cases hlt : k < xs.length
    · obtain ⟨b, off, rfl, _, hcell, hcell2, _, _, _⟩ := hR.cls_at hlt
      by_cases he : xs[k].name = s
      · have he' := str_eq he
        have HF : Hid (findN xs s 0 = k) := by show _ = _; rw [HR.out, findN_at hlt, if_pos he]
        go_wp2
        go_ret
        exact ⟨ret_int HF.out.symm, rfl⟩
      · have he' := str_ne he
        have HF : Hid (findN xs s 0 = findN (xs.drop (k + 1)) s ((k + 1 : Nat) : Int)) := by show _ = _; rw [HR.out, findN_at hlt, if_neg he]; rfl
        go_wp2
        go_round
        case rel => exact ⟨k + 1, by omega, by go_num, HF.out⟩
        case measure => simp [intOf]; omega
    · have HF : Hid (findN xs s 0 = -1) := by show _ = _; rw [HR.out, findN_end hlt]
      go_wp2
      go_ret
      exact ⟨ret_int HF.out.symm, rfl⟩
end

section
def badCls (all : List Cls) (i : Nat) (c : Cls) : Bool := !okName c.name || decide (0 ≤ findN (all.take i) c.name 0) || ((i : Int) == 0 && c.parent != -1) || (decide (0 < (i : Int)) && !(decide (0 ≤ c.parent) && decide (c.parent ≤ (i : Int) - 1)))
def okFrom (all : List Cls) : Nat → List Cls → Bool
  | _, [] => decide (1 ≤ all.length) && decide (all.length ≤ 8)
  | i, c :: r => !badCls all i c && okFrom all (i + 1) r
def okTree (all : List Cls) : Bool := okFrom all 0 all
theorem okFrom_at {all : List Cls} {k : Nat} (h : k < all.length) : okFrom all k (all.drop k) = (!badCls all k all[k] && okFrom all (k + 1) (all.drop (k + 1))) := by
  rw [List.drop_eq_getElem_cons h]; rfl
theorem okFrom_end {all : List Cls} {k : Nat} (h : ¬ k < all.length) : okFrom all k (all.drop k) = (decide ((1 : Int) ≤ all.length) && decide ((all.length : Int) ≤ 8)) := by
  rw [List.drop_eq_nil_of_le (by omega)]
  show (decide (1 ≤ all.length) && decide (all.length ≤ 8)) = _
  congr 1 <;> simp <;> omega

set_option maxHeartbeats 8000000 in
theorem validTree_any (A : Option Addr) (n cap : Nat) (xs : List Cls) (w : World) (hR : Sl w A n cap xs) :
    Calls Try.prog 64 #[.agg #[.slice A n cap]] w fun e w' => e = .returned (.bool (okTree xs)) ∧ Le w w' := by
  obtain rfl := hR.len
  have hm := hR.n_le
  have hcp := hR.cap_
  go_enter Try.func64, Try.ntmps64
  go_wp2
  go_loopw [3] (fun i wr => ∃ k : Nat, k ≤ xs.length ∧ i = .int .i64 k ∧ okTree xs = okFrom xs k (xs.drop k) ∧ Le (w.alloc (.cells #[.slice A xs.length cap] 39)) wr) (fun i _ => xs.length - (intOf i).toNat)
  case atStart => exact ⟨0, Nat.zero_le _, rfl, rfl, Le.refl _⟩
  case round =>
    obtain ⟨k, hk, rfl, hr, hle⟩ := hrel
    have HR := Lib.hid hr; clear hr
    have hz : w.heap.size < wr.heap.size := by have := hle.size; simp at this; omega
    have hT : wr.cell? ⟨w.heap.size, 0, none⟩ = some (.slice A xs.length cap) := by
      rw [hle.cell (by simp)]; simp
    have hwr : Le w wr := (Le.new w _).trans hle
    have hRr := hR.le hwr
    clear hR
    by_cases hlt : k < xs.length
    · obtain ⟨b, off, rfl, hb, hcell, hcell2, hns, hp1, hp2⟩ := hRr.cls_at hlt
      go_wp2
      generalize hWd : wr.alloc _ = W
      have hWle : Le wr W := by rw [← hWd]; exact Le.new wr _
      have e1 : W.cell? ⟨wr.heap.size, 0, none⟩ = some (.string xs[k].name) := by rw [← hWd]; simp
      have e2 : W.cell? ⟨wr.heap.size, 1, none⟩ = some (.int .i64 xs[k].parent) := by rw [← hWd]; simp
      have hzW : wr.heap.size < W.heap.size := by rw [← hWd]; simp
      have e3 : W.cell? ⟨w.heap.size, 0, none⟩ = some (.slice (some ⟨b, off, none⟩) xs.length cap) := (hWle.cell hz).trans hT
      have hRW := hRr.le hWle
      clear hWd hcell hcell2 hT
      have E1 := cell_ext hzW e1
      have E2 := cell_ext hzW e2
      have E3 := cell_ext (by omega) e3
      have HB : Hid (okTree xs = (!badCls xs k xs[k] && okFrom xs (k + 1) (xs.drop (k + 1)))) := by show _ = _; rw [HR.out, okFrom_at hlt]
      unfold badCls at HB
      by_cases hk0 : k = 0
      all_goals cases h1 : okName xs[k].name
      all_goals cases h2 : decide (0 ≤ findN (xs.take k) xs[k].name 0)
      all_goals cases h4 : xs[k].parent != -1
      all_goals cases h6 : (decide (0 ≤ xs[k].parent) && decide (xs[k].parent ≤ (k : Int) - 1))
      all_goals
        have h3 : ((k : Int) == 0) = decide (k = 0) := by
          by_cases e : k = 0 <;> simp [e]
        have h5 : decide (0 < (k : Int)) = !decide (k = 0) := by
          by_cases e : k = 0 <;> simp [e]
          omega
        have h5n : decide (0 < k) = !decide (k = 0) := by
          by_cases e : k = 0 <;> simp [e]
          omega
      all_goals first | rw [decide_eq_true hk0] at h3 h5 h5n | rw [decide_eq_false hk0] at h3 h5 h5n
      all_goals simp only [Bool.not_true, Bool.not_false] at h5 h5n
      all_goals
        have hout := HB.out
        simp only [h1, h2, h3, h4, h5, h6] at hout
        have HO := Lib.hid hout
        clear hout HB
        clear hk0
      all_goals
        refine wp_region_ext (by kernel_rfl) (by kernel_rfl) ?_
        repeat (go_big_quiet_step (first | (go_at_call 80; exact Calls.ext_same (Calls.val (validName_any _ _ hns) (vb h1))) | (go_at_call 81; exact Calls.ext_same (classNamed_any _ _ _ _ _ _ ((hRW.ext _).take_ _ (by omega)))) | (go_at_call 66; exact Calls.ext_same (Calls.val (inRange_any _ _ _ _) (vb h6)))))
        refine wpQuiet_nil ?_
        intro _ hw'
        obtain ⟨g, rfl⟩ := hw'
        have hg := hWle.trans (Le.ext W g)
        generalize W.ext g = W2 at *
        go_wp2
        first
          | (go_ret; exact ⟨ret_bool (by rw [HO.out]; rfl), hwr.trans hg⟩)
          | (go_roundw
             case rel => exact ⟨k + 1, by omega, by go_num, by rw [HO.out]; rfl, hle.trans hg⟩
             case measure => simp [intOf]; omega)
    · have HF : Hid (okTree xs = (decide ((1 : Int) ≤ xs.length) && decide ((xs.length : Int) ≤ 8))) := by show _ = _; rw [HR.out, okFrom_end hlt]
      go_wp2_with (go_at_call 66; refine (inRange_any _ _ _ _).mono ?_; rintro e w' ⟨rfl, rfl⟩)
      go_ret
      exact ⟨ret_bool HF.out.symm, hwr⟩
end

section
theorem okFrom_mem {all : List Cls} : ∀ (m k : Nat), k + m = all.length → okFrom all k (all.drop k) = true → (1 ≤ all.length ∧ all.length ≤ 8) ∧ ∀ i (h : i < all.length), k ≤ i → badCls all i all[i] = false := by
  intro m
  induction m with
  | zero =>
    intro k hk h
    rw [okFrom_end (by omega)] at h
    simp at h
    exact ⟨by omega, fun i hi hki => by omega⟩
  | succ m ih =>
    intro k hk h
    rw [okFrom_at (by omega), Bool.and_eq_true] at h
    obtain ⟨h1, h2⟩ := h
    obtain ⟨hl, hr⟩ := ih (k + 1) (by omega) h2
    refine ⟨hl, fun i hi hki => ?_⟩
    by_cases e : i = k
    · subst e; simpa using h1
    · exact hr i hi (by omega)
/-- what a valid tree keeps to -/
structure Good (xs : List Cls) : Prop where
  lo : 1 ≤ xs.length
  hi : xs.length ≤ 8
  root : ∀ h : 0 < xs.length, xs[0].parent = -1
  par : ∀ i (h : i < xs.length), 0 < i → 0 ≤ xs[i].parent ∧ xs[i].parent ≤ (i : Int) - 1
  name : ∀ i (h : i < xs.length), okName xs[i].name = true
  diff : ∀ i (h : i < xs.length), findN (xs.take i) xs[i].name 0 < 0
theorem good_of {xs : List Cls} (h : okTree xs = true) : Good xs := by
  obtain ⟨⟨h1, h2⟩, hb⟩ := okFrom_mem (all := xs) xs.length 0 (by omega) (by simpa [okTree] using h)
  have hx : ∀ i (h : i < xs.length), okName xs[i].name = true ∧ findN (xs.take i) xs[i].name 0 < 0 ∧ (i = 0 → xs[i].parent = -1) ∧ (0 < i → 0 ≤ xs[i].parent ∧ xs[i].parent ≤ (i : Int) - 1) := by
    intro i hi
    have := hb i hi (Nat.zero_le _)
    unfold badCls at this
    simp only [Bool.or_eq_false_iff, Bool.not_eq_false', Bool.and_eq_false_iff, decide_eq_false_iff_not] at this
    obtain ⟨⟨⟨a, b⟩, c⟩, d⟩ := this
    refine ⟨a, by omega, fun e => ?_, fun e => ?_⟩
    · subst e
      rcases c with c | c
      · simp at c
      · simpa [bne] using c
    · rcases d with d | d
      · omega
      · simpa using d
  exact ⟨h1, h2, fun h => (hx 0 h).2.2.1 rfl, fun i h => (hx i h).2.2.2, fun i h => (hx i h).1, fun i h => (hx i h).2.1⟩
theorem Good.par_le {xs : List Cls} (g : Good xs) {i : Nat} (h : i < xs.length) : -1 ≤ xs[i].parent ∧ xs[i].parent ≤ (i : Int) - 1 := by
  by_cases e : i = 0
  · subst e; have := g.root h; omega
  · have := g.par i h (by omega); omega

def parOf (xs : List Cls) (a : Int) : Int := match xs[a.toNat]? with | some c => c.parent | none => -1
def aboveL (xs : List Cls) (a : Int) : List Int := if 0 ≤ a then a :: (if parOf xs a < a then aboveL xs (parOf xs a) else []) else []
termination_by (a + 1).toNat
decreasing_by omega
def isAL (xs : List Cls) (a b : Int) : Bool := hasI (aboveL xs a) b
theorem parOf_at {xs : List Cls} {i : Nat} (h : i < xs.length) : parOf xs (i : Int) = xs[i].parent := by
  unfold parOf; rw [Int.toNat_natCast, List.getElem?_eq_getElem h]
theorem aboveL_neg {xs : List Cls} {a : Int} (h : a < 0) : aboveL xs a = [] := by rw [aboveL, if_neg (by omega)]
theorem aboveL_at {xs : List Cls} (g : Good xs) {i : Nat} (h : i < xs.length) : aboveL xs (i : Int) = (i : Int) :: aboveL xs xs[i].parent := by
  have hp := g.par_le h
  rw [aboveL, if_pos (by omega), parOf_at h, if_pos (by omega)]
theorem isAL_at {xs : List Cls} (g : Good xs) {i : Nat} (h : i < xs.length) (b : Int) : isAL xs (i : Int) b = ((i : Int) == b || isAL xs xs[i].parent b) := by
  unfold isAL; rw [aboveL_at g h]; rfl
theorem isAL_neg {xs : List Cls} {a : Int} (h : a < 0) (b : Int) : isAL xs a b = false := by unfold isAL; rw [aboveL_neg h]; rfl
/-- all that is above lies in the tree -/
theorem aboveL_mem {xs : List Cls} (g : Good xs) : ∀ (m : Nat) (a : Int), (a + 1).toNat = m → a < xs.length → ∀ x ∈ aboveL xs a, 0 ≤ x ∧ x ≤ a := by
  intro m
  induction m using Nat.strongRecOn with
  | _ m ih =>
    intro a hm ha x hx
    by_cases h : a < 0
    · rw [aboveL_neg h] at hx; cases hx
    · obtain ⟨i, rfl⟩ := Int.eq_ofNat_of_zero_le (by omega : 0 ≤ a)
      have hi : i < xs.length := by omega
      rw [aboveL_at g hi] at hx
      have hp := g.par_le hi
      rcases List.mem_cons.1 hx with rfl | hx
      · omega
      · have := ih (xs[i].parent + 1).toNat (by omega) _ rfl (by omega) x hx
        omega
theorem aboveL_len {xs : List Cls} (g : Good xs) : ∀ (m : Nat) (a : Int), (a + 1).toNat = m → a < xs.length → (aboveL xs a).length ≤ m := by
  intro m
  induction m using Nat.strongRecOn with
  | _ m ih =>
    intro a hm ha
    by_cases h : a < 0
    · rw [aboveL_neg h]; simp
    · obtain ⟨i, rfl⟩ := Int.eq_ofNat_of_zero_le (by omega : 0 ≤ a)
      have hi : i < xs.length := by omega
      rw [aboveL_at g hi]
      have hp := g.par_le hi
      have := ih (xs[i].parent + 1).toNat (by omega) _ rfl (by omega)
      simp; omega

def hasK (xs : List Cls) (a : Int) : Bool := decide (0 ≤ a) && decide (a ≤ (xs.length : Int) - 1)

theorem hasClass_any (A : Option Addr) (n cap : Nat) (xs : List Cls) (a : Int) (w : World) (hR : Sl w A n cap xs) :
    Calls Try.prog 65 #[.agg #[.slice A n cap], .int .i64 a] w fun e w' => e = .returned (.bool (hasK xs a)) ∧ Le w w' := by
  obtain rfl := hR.len
  have hm := hR.n_le
  go_enter Try.func65, Try.ntmps65
  go_wp2_with (go_at_call 66; refine (inRange_any _ _ _ _).mono ?_; rintro e w' ⟨rfl, rfl⟩)
  go_ret
  exact ⟨rfl, Le.new w _⟩

theorem intInfo : (Try.prog.info? 3).map (fun i => (i.zero, i.size, i.bytes)) = some (some (.int .i64 0), 1, 8) := by kernel_rfl

set_option maxRecDepth 100000 in
theorem above_any (A : Option Addr) (n cap : Nat) (xs : List Cls) (a : Int) (w : World) (hR : Sl w A n cap xs) (g : Good xs) (ha : a < xs.length) (ha0 : -1 ≤ a) :
    Calls Try.prog 70 #[.agg #[.slice A n cap], .int .i64 a] w fun e w' => ∃ v, e = .returned v ∧ w'.ownsRow w.heap.size 3 1 v (aboveL xs a).length ((aboveL xs a).flatMap Enc.cells) ∧ Le w w' := by
  obtain ⟨i0, hi, hz0, hz1, hz2⟩ := info_parts intInfo
  have hl := Le.new w (.cells #[.slice A n cap] 39)
  have c0 : (w.alloc (.cells #[.slice A n cap] 39)).cell? ⟨w.heap.size, 0, none⟩ = some (.slice A n cap) := by rw [World.cell?_alloc_at _ _ _ _ rfl]; rfl
  have hz : w.heap.size < (w.alloc (.cells #[.slice A n cap] 39)).heap.size := by simp
  go_enter Try.func70, Try.ntmps70
  go_wp2
  have hlen := aboveL_len g _ a rfl (by omega)
  have hhi := g.hi
  have hnn := hR.len
  go_loopw [1, 5] (fun q v wr => ∃ a' : Int, ∃ out : List Int, -1 ≤ a' ∧ a' < xs.length ∧ q = .int .i64 a' ∧ aboveL xs a = out ++ aboveL xs a' ∧ wr.ownsRow (w.heap.size + 1) 3 1 v out.length (out.flatMap Enc.cells) ∧
      wr.cell? ⟨w.heap.size, 0, none⟩ = some (.slice A n cap) ∧ w.heap.size + 1 < wr.heap.size ∧ Le w wr) (fun q _ _ => (intOf q + 1).toNat)
  case atStart =>
    refine ⟨a, [], ha0, ha, rfl, rfl, ?_, ?_, by simp, hl.alloc _⟩
    · exact own_empty hz (by simp)
    · exact (World.cell?_alloc_past _ _ _ hz).trans c0
  case round =>
    obtain ⟨a', out, h1, h2, rfl, hr, hown, hT, hzr, hle⟩ := hrel
    have HR := Lib.hid hr; clear hr
    clear c0 hz hl
    by_cases h0 : a' < 0
    · have HF : Hid (aboveL xs a = out) := by show _ = _; rw [HR.out, aboveL_neg h0, List.append_nil]
      go_wp2
      go_ret
      exact ⟨_, rfl, by rw [HF.out]; exact own_mono hown (by omega), hle⟩
    · obtain ⟨i, rfl⟩ := Int.eq_ofNat_of_zero_le (by omega : 0 ≤ a')
      have hi' : i < xs.length := by omega
      have hp := g.par_le hi'
      obtain ⟨b, off, rfl, hb, hcell, hcell2, _, _, _⟩ := hR.cls_at hi'
      have HS : Hid (aboveL xs a = (out ++ [(i : Int)]) ++ aboveL xs xs[i].parent) := by show _ = _; rw [HR.out, aboveL_at g hi']; simp
      have hol : out.length + 1 ≤ 8 := by
        have e := congrArg List.length HS.out
        simp at e; omega
      have hc3 : out.length + 1 ≤ maxLen := by unfold maxLen; omega
      have hc4 : (out.length + 1) * 8 ≤ 140737488355328 := by omega
      have hiN : i < n := by omega
      have HN := Lib.hid hnn; clear hnn
      go_wp2_with (at_builtin; refine wpList_append_own _ rfl _ _ 30 rfl (w.heap.size + 1) 3 i0 (.int .i64 0) 1 8 Try.underlying30 hi hz0 hz1 hz2 rfl (by decide) _ _ _ rfl (hown.alloc _) ⟨wr.heap.size, 0, none⟩ 1 1 [.int .i64 i] rfl rfl ?c1 ?c2 hc3 hc4 ?c5 ?_)
      case c2 => rfl
      case c5 => omega
      intro v1 w1 hown1 hg1 _
      have hle1 := (hle.alloc (.cells #[.int .i64 (i : Int)] 3)).grown hg1 (fun k hk => by have := (hown.lt k hk).1; omega)
      have hT1 := hg1.cell ((World.cell?_alloc_past (.cells #[.int .i64 (i : Int)] 3) _ _ (by omega)).trans hT) (fun e => by have h' : w.heap.size + 1 ≤ w.heap.size := (hown.lt _ e.symm).1; omega)
      have hcell1 := (hle1.cell hb).trans hcell2
      go_wp2
      go_roundw
      case rel =>
        refine ⟨xs[i].parent, out ++ [(i : Int)], by omega, by omega, rfl, HS.out, ?_, hT1, ?_, hle1⟩
        · simpa [Enc.cells] using hown1
        · have := hg1.size; simp at this; omega
      case measure => simp [intOf]; omega
end

section
def isAx (xs : List Cls) (a b : Int) : Bool := okTree xs && hasK xs a && hasK xs b && isAL xs a b
theorem isAx_of {xs : List Cls} {t p q r : Bool} {a b : Int} (h1 : okTree xs = t) (h2 : hasK xs a = p) (h3 : hasK xs b = q) (h4 : isAL xs a b = r) : isAx xs a b = (t && p && q && r) := by unfold isAx; rw [h1, h2, h3, h4]
theorem hasK_iff {xs : List Cls} {a : Int} : hasK xs a = true ↔ 0 ≤ a ∧ a < xs.length := by unfold hasK; simp; omega
def blk : Value → Nat
  | .pointer (some p) => p.block + 1
  | _ => 0
end
end Go.Proofs.Ytacilbglnhgifaa
