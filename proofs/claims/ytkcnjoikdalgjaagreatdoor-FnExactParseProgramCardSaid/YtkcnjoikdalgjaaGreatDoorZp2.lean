/- one text of RZp, SlF, RZ, AP, TyLine, OneLin, DPb, Rg -/
import Derived.Test.YtkcnjoikdalgjaaGreatDoorZp1
import Derived.Deep.RegionHeld3
import Derived.Maps.AppendAt
import Derived.Deep.AppendLies
import Derived.RegionTactic
import Derived.OwnWalk
import Derived.Deep.CutRange
namespace Go.Proofs.YtkcnjoikdalgjaaGreatDoor
open Go.RowKit
set_option linter.unusedVariables false
section
section
section
variable {P : Program} {ops : Array Oper} {Q : Exit → Act → World → Prop} {md : Region.Mode} {S : World → Prop} {Z : List Nat}

/-- Whatever order is picked from here on; S holds behind every operation that is carried out, but for those of Z. -/
def wpAnyZ (P : Program) (md : Region.Mode) (ops : Array Oper) (Q : Exit → Act → World → Prop) (S : World → Prop) (Z : List Nat) : Nat → Array Bool → Act → World → Prop
  | 0, listed, a, w => Region.ready md ops listed = [] ∧ Q .normal a w
  | fuel + 1, listed, a, w =>
    (Region.ready md ops listed = [] → Q .normal a w) ∧
    ∀ i ∈ Region.ready md ops listed, wpOp P ops Q i (fun a' w' => (Z.contains i = false → S w') ∧ wpAnyZ P md ops Q S Z fuel (listed.setIfInBounds i true) a' w') a w

theorem wpAny_of_Z : ∀ (fuel : Nat) (listed : Array Bool) (a : Act) (w : World), wpAnyZ P md ops Q S Z fuel listed a w → wpAny P md ops Q fuel listed a w
  | 0, _, _, _, h => h
  | fuel + 1, _, _, _, h => ⟨h.1, fun i hi => wpOp_mono (fun a' w' h' => wpAny_of_Z fuel _ a' w' h'.2) (h.2 i hi)⟩

/-- the operations of C cannot come up ahead of number i -/
def Waits (md : Region.Mode) (ops : Array Oper) (listed : Array Bool) (i : Nat) (C : List Nat) : Prop :=
  ∀ k ∈ C, listed.getD k true = false ∧ ∃ o, ops[k]? = some o ∧ ∃ e ∈ o.after, Region.binds md e = true ∧ (e.on = i ∨ e.on ∈ C)
theorem Waits.not {listed : Array Bool} {i : Nat} {C : List Nat} (h : Waits md ops listed i C) (hi : listed.getD i true = false) {j : Nat} (hj : j ∈ Region.ready md ops listed) : j ∉ C := by
  intro hc
  obtain ⟨_, o, ho, e, he, hb, hon⟩ := h j hc
  obtain ⟨_, o', ho', hall⟩ := mem_ready.1 hj
  rw [ho] at ho'; injection ho' with ho'; subst ho'
  have h1 := hall e he hb
  have hx : listed.getD e.on true = false := by
    rcases hon with h2 | h2
    · rw [h2]; exact hi
    · exact (h _ h2).1
  rcases Nat.lt_or_ge e.on listed.size with h3 | h3
  · simp [h3] at h1 hx; rw [h1] at hx; cases hx
  · simp [Array.getElem?_eq_none h3] at h1
def waitsB (md : Region.Mode) (ops : Array Oper) (listed : Array Bool) (i : Nat) (C : List Nat) : Bool :=
  C.all fun k => !(listed.getD k true) && match ops[k]? with | some o => o.after.any fun e => Region.binds md e && (e.on == i || C.contains e.on) | none => false
theorem waits_of {listed : Array Bool} {i : Nat} {C : List Nat} (h : waitsB md ops listed i C = true) : Waits md ops listed i C := by
  intro k hk
  have h1 := List.all_eq_true.1 h k hk
  rw [Bool.and_eq_true] at h1
  refine ⟨by simpa using h1.1, ?_⟩
  have h2 := h1.2
  cases ho : ops[k]? with
  | none => rw [ho] at h2; cases h2
  | some o =>
    rw [ho] at h2
    replace h2 : (o.after.any fun e => Region.binds md e && (e.on == i || C.contains e.on)) = true := h2
    obtain ⟨e, he, h3⟩ := Array.any_eq_true'.1 h2
    rw [Bool.and_eq_true, Bool.or_eq_true] at h3
    exact ⟨o, rfl, e, he, h3.1, by simpa using h3.2⟩

theorem wpAnyZ_first {i : Nat} {oi : Oper} {v : Value} {C : List Nat} (hi : ops[i]? = some oi) (hsel : ∀ (j : Nat) (o : Oper) cs b, ops[j]? = some o → o.op ≠ .select cs b)
    (hQ : ∀ c a w, Q (.panic c) (a.put oi.dst v) w → Q (.panic c) a w) (hZ : ∀ z, Z.contains z = true → z ∈ C) :
    ∀ (fuel : Nat) (listed : Array Bool) (a : Act) (w : World),
      (∀ j oj, ops[j]? = some oj → j ≠ i → listed.getD j true = false → (∀ e ∈ oj.after, Region.binds md e = true → e.on ≠ i) → oi.apart ops oj = true) →
      Waits md ops listed i C → i ∈ Region.ready md ops listed → YieldsIf P ops S oi v a → S w →
      wpAnyZ P md ops Q S Z fuel (listed.setIfInBounds i true) (a.put oi.dst v) w → wpAnyZ P md ops Q S Z (fuel + 1) listed a w := by
  intro fuel
  induction fuel with
  | zero =>
    intro listed a w _ _ hr hy hS H
    refine ⟨fun h => (by rw [h] at hr; cases hr), fun j hj => ?_⟩
    by_cases hji : j = i
    · subst hji; exact hy.wpOp hi hS ⟨fun _ => hS, H⟩
    · have := ready_mono hj hji
      rw [H.1] at this
      cases this
  | succ fuel ih =>
    intro listed a w hfree hw hr hy hS H
    refine ⟨fun h => (by rw [h] at hr; cases hr), fun j hj => ?_⟩
    by_cases hji : j = i
    · subst hji; exact hy.wpOp hi hS ⟨fun _ => hS, H⟩
    · have h1 := H.2 j (ready_mono hj hji)
      have hjc := hw.not (mem_ready.1 hr).1 hj
      have hjz : Z.contains j = false := by
        cases e : Z.contains j
        · rfl
        · exact absurd (hZ j e) hjc
      obtain ⟨hjun, oj, hoj, hall⟩ := mem_ready.1 hj
      have hnot : ∀ e ∈ oj.after, Region.binds md e = true → e.on ≠ i := fun e he hb heq => by
        have h1 := hall e he hb
        have h0 := (mem_ready.1 hr).1
        rw [heq] at h1
        rcases Nat.lt_or_ge i listed.size with h' | h'
        · simp [h'] at h0 h1; rw [h0] at h1; cases h1
        · simp [Array.getElem?_eq_none h'] at h1
      have h2 := wpOp_putIf hoj (hfree j oj hoj hji hjun hnot) (fun cs b => hsel i oi cs b hi) (fun cs b => hsel j oj cs b hoj) hQ hy h1
      have hfree' : ∀ k ok, ops[k]? = some ok → k ≠ i → (listed.setIfInBounds j true).getD k true = false →
          (∀ e ∈ ok.after, Region.binds md e = true → e.on ≠ i) → oi.apart ops ok = true := fun k ok hk hki hun hno => by
        refine hfree k ok hk hki ?_ hno
        by_cases hjk : j = k
        · subst hjk; exact hjun
        · rw [getD_set_ne true hjk] at hun; exact hun
      have hw' : Waits md ops (listed.setIfInBounds j true) i C := fun k hk => ⟨by rw [getD_set_ne true (fun e => hjc (by rw [e]; exact hk))]; exact (hw k hk).1, (hw k hk).2⟩
      refine wpOp_mono (fun a' w' h3 => ⟨h3.2.1, ih (listed.setIfInBounds j true) a' w' hfree' hw' (ready_mono hr (Ne.symm hji)) h3.1 (h3.2.1 hjz) ?_⟩) h2
      rw [Array.setIfInBounds_comm _ _ hji]
      exact h3.2.2

theorem wpAnyZ_done {listed : Array Bool} {a : Act} {w : World} (hr : Region.ready md ops listed = []) (h : Q .normal a w) :
    ∀ fuel, wpAnyZ P md ops Q S Z fuel listed a w
  | 0 => ⟨hr, h⟩
  | _ + 1 => ⟨fun _ => h, by rw [hr]; simp⟩
theorem wp_region_Z {id : Nat} {a : Act} {w : World} (S : World → Prop) (Z : List Nat) (hm : P.follows .mixedOrders = true)
    (h : wpAnyZ P .any ops Q S Z ops.size (Array.replicate ops.size false) a w.drew) : (Code.region id ops true).wp P Q a w :=
  wp_region_any hm (wpAny_of_Z _ _ _ _ h)
end
section
variable {P : Program} {l : List Oper} {Q : Exit → Act → World → Prop} {md : Region.Mode} {S : World → Prop} {Z : List Nat}
/-- the operations that wait for number i (edges lead back) -/
def clos (md : Region.Mode) (ops : Array Oper) (i : Nat) : List Nat :=
  (List.range ops.size).foldl (fun C k => if (k != i && match ops[k]? with | some o => o.after.any fun e => Region.binds md e && (e.on == i || C.contains e.on) | none => false) then C ++ [k] else C) []
theorem wpAnyZ_takeC {i : Nat} (C : List Nat) {oi : Oper} {v : Value} {fuel : Nat} {listed : Array Bool} {a : Act} {w : World} (hi : l[i]? = some oi)
    (hs : Region.noSelect l.toArray = true) (hf : Region.free md l.toArray listed i = true) (hr : (Region.ready md l.toArray listed).contains i = true)
    (hz : (Z.all fun z => C.contains z) = true) (hw : waitsB md l.toArray listed i C = true)
    (hQ : ∀ c a w, Q (.panic c) (a.put oi.dst v) w → Q (.panic c) a w) (hy : YieldsIf P l.toArray S oi v a) (hS : S w)
    (h : wpAnyZ P md l.toArray Q S Z fuel (listed.setIfInBounds i true) (a.put oi.dst v) w) : wpAnyZ P md l.toArray Q S Z (fuel + 1) listed a w := by
  have hi' : l.toArray[i]? = some oi := by rw [List.getElem?_toArray]; exact hi
  exact wpAnyZ_first (C := C) hi' (Region.noSelect_spec hs) hQ (fun z hz' => by have := List.all_eq_true.1 hz z (by simpa using hz'); simpa using this) fuel listed a w (Region.free_spec hi' hf) (waits_of hw) (by simpa using hr) hy hS h
theorem wpAnyZ_take {i : Nat} {oi : Oper} {v : Value} {fuel : Nat} {listed : Array Bool} {a : Act} {w : World} (hi : l[i]? = some oi)
    (hs : (Region.noSelect l.toArray && Region.free md l.toArray listed i && (Region.ready md l.toArray listed).contains i && (Z.all fun z => (clos md l.toArray i).contains z) && waitsB md l.toArray listed i (clos md l.toArray i)) = true)
    (hQ : ∀ c a w, Q (.panic c) (a.put oi.dst v) w → Q (.panic c) a w) (hy : YieldsIf P l.toArray S oi v a) (hS : S w)
    (h : wpAnyZ P md l.toArray Q S Z fuel (listed.setIfInBounds i true) (a.put oi.dst v) w) : wpAnyZ P md l.toArray Q S Z (fuel + 1) listed a w := by
  simp only [Bool.and_eq_true] at hs
  exact wpAnyZ_takeC _ hi hs.1.1.1.1 hs.1.1.1.2 hs.1.1.2 hs.1.2 hs.2 hQ hy hS h
/-- number i comes up first -/
def ReadyZ (P : Program) (md : Region.Mode) (l : List Oper) (Q : Exit → Act → World → Prop) (S : World → Prop) (Z : List Nat) (fuel : Nat) (listed : Array Bool) (a : Act) (w : World) (i : Nat) : Prop :=
  wpOp P l.toArray Q i (fun a' w' => (Z.contains i = false → S w') ∧ wpAnyZ P md l.toArray Q S Z fuel (listed.setIfInBounds i true) a' w') a w
theorem wpAnyZ_one {i fuel : Nat} {listed : Array Bool} {a : Act} {w : World} (hr : Region.ready md l.toArray listed = [i]) (h : ReadyZ P md l Q S Z fuel listed a w i) : wpAnyZ P md l.toArray Q S Z (fuel + 1) listed a w :=
  ⟨fun h0 => absurd (hr ▸ h0) (by simp), hr ▸ fun j hj => by simp at hj; subst hj; exact h⟩
theorem wpAnyZ_two {i k fuel : Nat} {listed : Array Bool} {a : Act} {w : World} (hr : Region.ready md l.toArray listed = [i, k]) (h : ReadyZ P md l Q S Z fuel listed a w i) (h2 : ReadyZ P md l Q S Z fuel listed a w k) : wpAnyZ P md l.toArray Q S Z (fuel + 1) listed a w :=
  ⟨fun h0 => absurd (hr ▸ h0) (by simp), hr ▸ fun j hj => by simp at hj; rcases hj with rfl | rfl; exact h; exact h2⟩
theorem wpAnyZ_three {i k m fuel : Nat} {listed : Array Bool} {a : Act} {w : World} (hr : Region.ready md l.toArray listed = [i, k, m]) (h : ReadyZ P md l Q S Z fuel listed a w i) (h2 : ReadyZ P md l Q S Z fuel listed a w k) (h3 : ReadyZ P md l Q S Z fuel listed a w m) : wpAnyZ P md l.toArray Q S Z (fuel + 1) listed a w :=
  ⟨fun h0 => absurd (hr ▸ h0) (by simp), hr ▸ fun j hj => by simp at hj; rcases hj with rfl | rfl | rfl; exact h; exact h2; exact h3⟩
theorem ReadyZ.mk {fuel : Nat} {listed : Array Bool} {a : Act} {w : World} {i : Nat} {o : Oper} (ho : l[i]? = some o)
    (h : ∀ K' : Act → World → Prop, Shut (∀ a w, (Z.contains i = false → S w) → wpAnyZ P md l.toArray Q S Z fuel (listed.setIfInBounds i true) a w → K' a w) → if Region.wanted o (yielded l.toArray a.tmps) = true then Oper.wp P o a w K' Q else K' (a.put o.dst undef) w) :
    ReadyZ P md l Q S Z fuel listed a w i :=
  wpOp_step (by rw [List.getElem?_toArray]; exact ho) (fun K' hK => h K' (fun a w hS hW => hK a w ⟨hS, hW⟩))
end
end
end

section
theorem Sl.of_rowF {α : Type} [Enc α] {w : World} {b : Nat} {T : TypeId} {cs : Array Value} {fz : Nat × Nat} {n : Nat} {xs : List α} (h : w.heap[b]? = some (.cells cs T fz)) (hc : cs.toList = xs.flatMap Enc.cells) (hn : xs.length = n) (hm : n ≤ 1000) (hok : ∀ x ∈ xs, Enc.ok x) : Sl w (some ⟨b, 0, none⟩) n n xs := by
  refine ⟨hn, Nat.le_refl _, by omega, hok, fun _ => ⟨b, 0, rfl, ?_, fun j u hu => ?_⟩⟩
  · rcases Nat.lt_or_ge b w.heap.size with hlt | hge
    · exact hlt
    · rw [Array.getElem?_eq_none hge] at h; cases h
  · rw [Nat.zero_add, cell_of_row w b j cs T fz h, ← hu, ← hc]
    simp
end

section
section
theorem Rd.grown {w w' : World} {g p : Nat} {A : Option Addr} {n cap : Nat} {bs : List By} {r : Option Nat} (h : Rd w g p A n cap bs) (hg : w.grownBy w' r) (hne : r ≠ some g) (hA : 0 < n → ∀ a, A = some a → r ≠ some a.block) : Rd w' g p A n cap bs :=
  ⟨(hg.block g h.lt (fun e => hne e.symm)).trans h.row, h.sl.grown hg (fun hn a e e2 => hA hn a e e2.symm), h.off, h.few⟩
theorem Gx.grown {g : Nat} {a b c : World} {r : Option Nat} (h : Gx g a b) (hg : b.grownBy c r) (hr : ∀ k, r = some k → a.heap.size ≤ k) : Gx g a c :=
  ⟨hg.os.trans h.os, hg.tape.trans h.tape, hg.output.trans h.output, Nat.le_trans h.size hg.size, fun i hi hne => (hg.block i (Nat.lt_of_lt_of_le hi h.size) (fun e => by have := hr i e.symm; omega)).trans (h.block i hi hne)⟩
/-- a choice of a list that is written out -/
theorem of_lit (ss : List ByteArray) (m : Nat) (cs : Array Value) (T : TypeId) (g p : Nat) (A : Option Addr) (n cap : Nat) (bs : List By) (W : World) (b : Nat) (hc : cs.toList = ss.flatMap Enc.cells) (hl : ss.length = m) (hm : 0 < m) (hm1 : m ≤ 1000) (hok : ∀ x ∈ ss, Enc.ok x) (hp : p ≤ 1000000) (hb : b = W.heap.size) (hR : Rd W g p A n cap bs) :
    Calls Tryz.prog 75 #[.pointer (some ⟨g, 0, none⟩), .slice (some ⟨b, 0, none⟩) m m] (W.alloc (.cells cs T)) (OfOut ss g p A n cap bs W) := by
  subst hb
  refine (of_any _ m m ss g p A n cap bs _ hm hm1 hp (Sl.of_rowF (hp_new _ _ rfl) hc hl hm1 hok) (fun _ a e => by injection e with e; rw [← e]; show W.heap.size ≠ g; have := hR.lt; omega) (hR.le (Le.new _ _))).mono ?_
  rintro e w' ⟨s, rfl, hs, R, G⟩
  exact ⟨s, rfl, hs, R, (Gx.of_le (Le.new _ _)).trans G⟩
theorem one_lit (ss : List Int) (m : Nat) (cs : Array Value) (T : TypeId) (g p : Nat) (A : Option Addr) (n cap : Nat) (bs : List By) (W : World) (b : Nat) (hc : cs.toList = ss.flatMap Enc.cells) (hl : ss.length = m) (hm : 0 < m) (hm1 : m ≤ 1000) (hok : ∀ x ∈ ss, Enc.ok x) (hp : p ≤ 1000000) (hb : b = W.heap.size) (hR : Rd W g p A n cap bs) :
    Calls Tryz.prog 48 #[.pointer (some ⟨g, 0, none⟩), .slice (some ⟨b, 0, none⟩) m m] (W.alloc (.cells cs T)) (OneOut ss g p A n cap bs W) := by
  subst hb
  refine (one_any _ m m ss g p A n cap bs _ hm hm1 hp (Sl.of_rowF (hp_new _ _ rfl) hc hl hm1 hok) (fun _ a e => by injection e with e; rw [← e]; show W.heap.size ≠ g; have := hR.lt; omega) (hR.le (Le.new _ _))).mono ?_
  rintro e w' ⟨s, rfl, hs, R, G⟩
  exact ⟨s, rfl, hs, R, (Gx.of_le (Le.new _ _)).trans G⟩
theorem Gx.setNewF {g b o : Nat} {a c : World} (h : Gx g a c) (hb : a.heap.size ≤ b) (u : Value) : Gx g a (c.setCell ⟨b, o, none⟩ u) :=
  ⟨h.os, h.tape, h.output, by have := h.size; simp [World.setCell]; exact this, fun i hi hne => (heap_setCell_other c ⟨b, o, none⟩ i u (by show i ≠ b; omega)).trans (h.block i hi hne)⟩
theorem Rd.setNew {w : World} {g p b o : Nat} {A : Option Addr} {n cap : Nat} {bs : List By} (h : Rd w g p A n cap bs) (u : Value) (hb : b ≠ g) (hA : 0 < n → ∀ a, A = some a → a.block ≠ b) : Rd (w.setCell ⟨b, o, none⟩ u) g p A n cap bs :=
  h.grown (grown_set w b o u) (fun e => hb (by injection e)) (fun hn a e e2 => hA hn a e (by injection e2 with e2; exact e2.symm))
theorem own_some {w : World} {base e size m : Nat} {v : Value} {xs : List Value} (h : w.ownsRow base e size v (m + 1) xs) : ∃ g c, v = .slice (some ⟨g, 0, none⟩) (m + 1) c := by
  rcases h.2 with ⟨_, h0⟩ | ⟨g, c, _, h, _⟩
  · omega
  · exact ⟨g, c, h⟩
end
end

section
class EncOne (α : Type) [Enc α] : Prop where
  pos : 0 < Enc.size α
  one : ∀ (x : α) u, u ∈ Enc.cells x → u.oneCell' = true
theorem EncOne.all {α : Type} [Enc α] [EncOne α] (xs : List α) : ∀ u ∈ xs.flatMap Enc.cells, u.oneCell' = true := by
  intro u hu
  rw [List.mem_flatMap] at hu
  obtain ⟨x, _, hx⟩ := hu
  exact EncOne.one x u hx
instance instOneInt : EncOne Int := ⟨by decide, fun x u hu => by simp [Enc.cells] at hu; subst hu; rfl⟩
instance instOneCls : EncOne Cls := ⟨by decide, fun x u hu => by simp [Enc.cells] at hu; rcases hu with rfl | rfl <;> rfl⟩

section
variable {α : Type} [Enc α] [EncOne α] {P : Program} {w : World}
theorem run_append_sl (base : Nat) (t ty e : TypeId) (i : TypeInfo) (z : Value) (bytes : Nat) (ht : P.underlying t = some (.slice e)) (hi : P.info? e = some i) (hz : i.zero = some z)
    (hsize : i.size = Enc.size α) (hby : i.bytes = bytes) (hzs : z.cells.size = Enc.size α) (v : Value) (n : Nat) (xs : List α) (hown : w.ownsRow base e (Enc.size α) v n (xs.flatMap Enc.cells))
    (A : Option Addr) (m c : Nat) (ys : List α) (hS : Sl w A m c ys) (h63 : n + m ≤ maxLen) (hbytes : (n + m) * bytes ≤ 140737488355328) (hbase : base ≤ w.heap.size) :
    ∃ v' w', (Builtin.append_ #[t, t] ty #[v, .slice A m c]).run P w = .ok v' w' ∧ w'.ownsRow base e (Enc.size α) v' (n + m) ((xs ++ ys).flatMap Enc.cells) ∧ w.grownBy w' v.ownBlock ∧
      (v'.ownBlock = v.ownBlock ∨ v'.ownBlock = some w.heap.size) := by
  have hm : (ys.flatMap (Enc.cells (α := α))).length = m * Enc.size α := by rw [flat_len, hS.len]
  rcases A with _ | ad
  · have h0 : m = 0 := by
      rcases Nat.eq_zero_or_pos m with h0 | h0
      · exact h0
      · obtain ⟨b, off, h, _⟩ := hS.at_ h0; cases h
    subst h0
    have hy : ys = [] := List.eq_nil_of_length_eq_zero hS.len
    subst hy
    refine ⟨v, w, ?_, by simpa using hown, World.grownBy.refl w _, .inl rfl⟩
    rcases hown.2 with ⟨rfl, _⟩ | ⟨g, cap, cur, rfl, _, _, hnc, _⟩
    · simp [Builtin.append_, run_underlying ht, sizeOf, typeInfo, hi, Builtin.lenOf, Builtin.firstCells]
    · simp [Builtin.append_, run_underlying ht, sizeOf, typeInfo, hi, Builtin.lenOf, Builtin.firstCells, hnc, storeCells]
  · have hcells : ∀ j u, (ys.flatMap Enc.cells)[j]? = some u → w.cell? (ad.add j) = some u := by
      intro j u hu
      rcases Nat.eq_zero_or_pos m with h0 | h0
      · have hy : ys = [] := List.eq_nil_of_length_eq_zero (by rw [hS.len, h0])
        subst hy; simp at hu
      · obtain ⟨b, off, h, _, hc⟩ := hS.at_ h0
        injection h with h
        subst h
        have e : (⟨b, off, none⟩ : Addr).add j = ⟨b, off + j, none⟩ := by
          unfold Addr.add; split
          · next h => subst h; rfl
          · rfl
        rw [e]; exact hc j u hu
    obtain ⟨v', w', hrun, h2, h3, _, h5⟩ := run_append_own_at (P := P) w base t ty e i z (Enc.size α) bytes ht hi hz hsize hby hzs EncOne.pos v n _ hown ad m c _ hm hcells (EncOne.all ys) h63 hbytes hbase
    exact ⟨v', w', hrun, by rw [List.flatMap_append]; exact h2, h3, h5⟩

theorem wp_append_sl {o : Oper} {a : Act} {K : Act → World → Prop} {Q : Exit → Act → World → Prop} (s x : Operand) (t : TypeId)
    (ho : o.op = .call { callee := .builtin .append, args := #[s, x], argTypes := #[t, t] })
    (base : Nat) (e : TypeId) (i : TypeInfo) (z : Value) (bytes : Nat) (ht : P.underlying t = some (.slice e)) (hi : P.info? e = some i) (hz : i.zero = some z)
    (hsize : i.size = Enc.size α) (hby : i.bytes = bytes) (hzs : z.cells.size = Enc.size α) (v : Value) (n : Nat) (xs : List α) (hs : a.eval s = v) (hown : w.ownsRow base e (Enc.size α) v n (xs.flatMap Enc.cells))
    (A : Option Addr) (m c : Nat) (ys : List α) (hx : a.eval x = .slice A m c) (hS : Sl w A m c ys) (h63 : n + m ≤ maxLen) (hbytes : (n + m) * bytes ≤ 140737488355328) (hbase : base ≤ w.heap.size)
    (h : ∀ v' w', w'.ownsRow base e (Enc.size α) v' (n + m) ((xs ++ ys).flatMap Enc.cells) → w.grownBy w' v.ownBlock → (v'.ownBlock = v.ownBlock ∨ v'.ownBlock = some w.heap.size) → K (a.put o.dst v') w') : o.wp P a w K Q := by
  obtain ⟨v', w', hrun, h2, h3, h4⟩ := run_append_sl (P := P) (w := w) base t o.type e i z bytes ht hi hz hsize hby hzs v n xs hown A m c ys hS h63 hbytes hbase
  unfold Oper.wp execOp
  simp only [ho, resolve, invoke, builtin, Sem.run_bind, Sem.run_pure, Result.andThen_ok, List.map_toArray, List.map_cons, List.map_nil, hs, hx, hrun]
  exact h v' w' h2 h3 h4
theorem wpList_append_sl {ops : Array Oper} {rest : List Oper} {o : Oper} {a : Act} {Q : Exit → Act → World → Prop} (hgd : o.guard = none) (s x : Operand) (t : TypeId)
    (ho : o.op = .call { callee := .builtin .append, args := #[s, x], argTypes := #[t, t] })
    (base : Nat) (e : TypeId) (i : TypeInfo) (z : Value) (bytes : Nat) (ht : P.underlying t = some (.slice e)) (hi : P.info? e = some i) (hz : i.zero = some z)
    (hsize : i.size = Enc.size α) (hby : i.bytes = bytes) (hzs : z.cells.size = Enc.size α) (v : Value) (n : Nat) (xs : List α) (hs : a.eval s = v) (hown : w.ownsRow base e (Enc.size α) v n (xs.flatMap Enc.cells))
    (A : Option Addr) (m c : Nat) (ys : List α) (hx : a.eval x = .slice A m c) (hS : Sl w A m c ys) (h63 : n + m ≤ maxLen) (hbytes : (n + m) * bytes ≤ 140737488355328) (hbase : base ≤ w.heap.size)
    (h : ∀ v' w', w'.ownsRow base e (Enc.size α) v' (n + m) ((xs ++ ys).flatMap Enc.cells) → w.grownBy w' v.ownBlock → (v'.ownBlock = v.ownBlock ∨ v'.ownBlock = some w.heap.size) → wpList P ops Q rest (a.put o.dst v') w') : wpList P ops Q (o :: rest) a w :=
  wpList_plain hgd fun _ hK => wp_append_sl s x t ho base e i z bytes ht hi hz hsize hby hzs v n xs hs hown A m c ys hx hS h63 hbytes hbase fun v' w' h2 h3 h4 => hK _ _ (h v' w' h2 h3 h4)
theorem step_append_sl {ops : Array Oper} {o : Oper} {a : Act} {K : Act → World → Prop} {Q : Exit → Act → World → Prop} {E : Prop} (hgd : o.guard = none) (s x : Operand) (t : TypeId)
    (ho : o.op = .call { callee := .builtin .append, args := #[s, x], argTypes := #[t, t] })
    (base : Nat) (e : TypeId) (i : TypeInfo) (z : Value) (bytes : Nat) (ht : P.underlying t = some (.slice e)) (hi : P.info? e = some i) (hz : i.zero = some z)
    (hsize : i.size = Enc.size α) (hby : i.bytes = bytes) (hzs : z.cells.size = Enc.size α) (v : Value) (n : Nat) (xs : List α) (hs : a.eval s = v) (hown : w.ownsRow base e (Enc.size α) v n (xs.flatMap Enc.cells))
    (A : Option Addr) (m c : Nat) (ys : List α) (hx : a.eval x = .slice A m c) (hS : Sl w A m c ys) (h63 : n + m ≤ maxLen) (hbytes : (n + m) * bytes ≤ 140737488355328) (hbase : base ≤ w.heap.size)
    (h : ∀ v' w', w'.ownsRow base e (Enc.size α) v' (n + m) ((xs ++ ys).flatMap Enc.cells) → w.grownBy w' v.ownBlock → (v'.ownBlock = v.ownBlock ∨ v'.ownBlock = some w.heap.size) → K (a.put o.dst v') w') :
    if Region.wanted o (yielded ops a.tmps) = true then Oper.wp P o a w K Q else E := by
  have hw : Region.wanted o (yielded ops a.tmps) = true := by simp [Region.wanted, hgd]
  rw [if_pos hw]
  exact wp_append_sl s x t ho base e i z bytes ht hi hz hsize hby hzs v n xs hs hown A m c ys hx hS h63 hbytes hbase h
end
/-- one new box as a list -/
theorem sl_one {α : Type} [Enc α] {w : World} {cs : Array Value} {T : TypeId} (x : α) (hc : cs.toList = Enc.cells x) (hok : Enc.ok x) {b : Nat} (hb : b = w.heap.size) : Sl (w.alloc (.cells cs T)) (some ⟨b, 0, none⟩) 1 1 [x] := by
  subst hb
  refine ⟨rfl, Nat.le_refl _, by omega, fun y hy => by simp at hy; subst hy; exact hok, fun _ => ⟨_, 0, rfl, by simp, fun j u hu => ?_⟩⟩
  rw [List.flatMap_cons, List.flatMap_nil, List.append_nil, ← hc] at hu
  rw [Nat.zero_add, World.cell?_alloc_at _ _ _ _ rfl]
  simpa using hu
end

section
structure Lin where
  depth : Int
  kind : Int
  a : Int
  b : Int
instance instEncLin : Enc Lin := ⟨4, fun x => [.int .i64 x.depth, .int .i64 x.kind, .int .i64 x.a, .int .i64 x.b], fun x => -9223372036854775808 ≤ x.depth ∧ x.depth ≤ 9223372036854775807 ∧ -9223372036854775808 ≤ x.kind ∧ x.kind ≤ 9223372036854775807 ∧ -9223372036854775808 ≤ x.a ∧ x.a ≤ 9223372036854775807 ∧ -9223372036854775808 ≤ x.b ∧ x.b ≤ 9223372036854775807, fun _ => rfl⟩
theorem Sl.lin_at {w : World} {A : Option Addr} {n cap : Nat} {xs : List Lin} (h : Sl w A n cap xs) {k : Nat} (hk : k < xs.length) :
    ∃ b off, A = some ⟨b, off, none⟩ ∧ b < w.heap.size ∧ w.cell? ⟨b, off + k * 4, none⟩ = some (.int .i64 xs[k].depth) ∧ w.cell? ⟨b, off + k * 4 + 1, none⟩ = some (.int .i64 xs[k].kind) ∧ w.cell? ⟨b, off + k * 4 + 2, none⟩ = some (.int .i64 xs[k].a) ∧ w.cell? ⟨b, off + k * 4 + 3, none⟩ = some (.int .i64 xs[k].b) ∧ (-9223372036854775808 ≤ xs[k].depth ∧ xs[k].depth ≤ 9223372036854775807 ∧ -9223372036854775808 ≤ xs[k].kind ∧ xs[k].kind ≤ 9223372036854775807 ∧ -9223372036854775808 ≤ xs[k].a ∧ xs[k].a ≤ 9223372036854775807 ∧ -9223372036854775808 ≤ xs[k].b ∧ xs[k].b ≤ 9223372036854775807) := by
  obtain ⟨b, off, e, hb, hc⟩ := h.cells_ hk
  have h0 := hc 0 (by decide) _ rfl
  have h1 := hc 1 (by decide) _ rfl
  have h2 := hc 2 (by decide) _ rfl
  have h3 := hc 3 (by decide) _ rfl
  exact ⟨b, off, e, hb, by simpa [Enc.size] using h0, by simpa [Enc.size, Nat.add_assoc] using h1, by simpa [Enc.size, Nat.add_assoc] using h2, by simpa [Enc.size, Nat.add_assoc] using h3, h.ok xs[k] (List.getElem_mem hk)⟩
theorem flat_lin_depth : ∀ (xs : List Lin) (k : Nat) (h : k < xs.length) (z : Int), (xs.flatMap Enc.cells).set (k * 4) (.int .i64 z) = (xs.set k {xs[k] with depth := z}).flatMap Enc.cells
  | x :: r, 0, _, z => rfl
  | x :: r, k + 1, h, z => by
    have ih := flat_lin_depth r k (by simpa using h) z
    have e : (k + 1) * 4 = k * 4 + 1 + 1 + 1 + 1 := by omega
    rw [e]
    show Value.int .i64 x.depth :: Value.int .i64 x.kind :: Value.int .i64 x.a :: Value.int .i64 x.b :: (r.flatMap Enc.cells).set (k * 4) (.int .i64 z) = _
    rw [ih]; rfl
theorem flat_lin_kind : ∀ (xs : List Lin) (k : Nat) (h : k < xs.length) (z : Int), (xs.flatMap Enc.cells).set (k * 4 + 1) (.int .i64 z) = (xs.set k {xs[k] with kind := z}).flatMap Enc.cells
  | x :: r, 0, _, z => rfl
  | x :: r, k + 1, h, z => by
    have ih := flat_lin_kind r k (by simpa using h) z
    have e : (k + 1) * 4 + 1 = k * 4 + 1 + 1 + 1 + 1 + 1 := by omega
    rw [e]
    show Value.int .i64 x.depth :: Value.int .i64 x.kind :: Value.int .i64 x.a :: Value.int .i64 x.b :: (r.flatMap Enc.cells).set (k * 4 + 1) (.int .i64 z) = _
    rw [ih]; rfl
theorem flat_lin_a : ∀ (xs : List Lin) (k : Nat) (h : k < xs.length) (z : Int), (xs.flatMap Enc.cells).set (k * 4 + 2) (.int .i64 z) = (xs.set k {xs[k] with a := z}).flatMap Enc.cells
  | x :: r, 0, _, z => rfl
  | x :: r, k + 1, h, z => by
    have ih := flat_lin_a r k (by simpa using h) z
    have e : (k + 1) * 4 + 2 = k * 4 + 2 + 1 + 1 + 1 + 1 := by omega
    rw [e]
    show Value.int .i64 x.depth :: Value.int .i64 x.kind :: Value.int .i64 x.a :: Value.int .i64 x.b :: (r.flatMap Enc.cells).set (k * 4 + 2) (.int .i64 z) = _
    rw [ih]; rfl
theorem flat_lin_b : ∀ (xs : List Lin) (k : Nat) (h : k < xs.length) (z : Int), (xs.flatMap Enc.cells).set (k * 4 + 3) (.int .i64 z) = (xs.set k {xs[k] with b := z}).flatMap Enc.cells
  | x :: r, 0, _, z => rfl
  | x :: r, k + 1, h, z => by
    have ih := flat_lin_b r k (by simpa using h) z
    have e : (k + 1) * 4 + 3 = k * 4 + 3 + 1 + 1 + 1 + 1 := by omega
    rw [e]
    show Value.int .i64 x.depth :: Value.int .i64 x.kind :: Value.int .i64 x.a :: Value.int .i64 x.b :: (r.flatMap Enc.cells).set (k * 4 + 3) (.int .i64 z) = _
    rw [ih]; rfl
end

section
instance instOneLin : EncOne Lin := ⟨by decide, fun x u hu => by simp [Enc.cells] at hu; rcases hu with rfl | rfl | rfl | rfl <;> rfl⟩
theorem infoLn : (Tryz.prog.info? 54).map (fun i => (i.zero, i.size, i.bytes)) = some (some (.agg #[.int .i64 0, .int .i64 0, .int .i64 0, .int .i64 0]), 4, 32) := by kernel_rfl
end

section
section
/-- lines that were drawn: at most so many, of the call's own -/
def LnsOut (lim k g p : Nat) (A : Option Addr) (n cap : Nat) (bs : List By) (w : World) (e : Ending) (w' : World) : Prop :=
  ∃ (v : Value) (L : List Lin) (p' : Nat), e = .returned v ∧ w'.ownsRow w.heap.size 54 4 v L.length (L.flatMap Enc.cells) ∧ (∀ x ∈ L, Enc.ok x) ∧ 0 < L.length ∧ L.length ≤ lim ∧ p' ≤ p + k ∧ Rd w' g p' A n cap bs ∧ Gx g w w'
def slN : Nat → Nat
  | 0 => 1
  | e + 1 => 5 + 5 * (3 * slN e)
def skN : Nat → Nat
  | 0 => 4
  | e + 1 => 13 + 5 * (1 + 3 * skN e)
/-- what is asked of a draw of lines at a depth -/
def DrawC (f : FuncId) (e lim k : Nat) : Prop := ∀ (d : Int) (lp : Bool) (B : Option Addr) (m c g p : Nat) (A : Option Addr) (n cap : Nat) (bs : List By) (w : World), d + e = 3 → 0 ≤ d → m ≤ 8 → p + k ≤ 900000 → Rd w g p A n cap bs →
  Calls Tryz.prog f #[.pointer (some ⟨g, 0, none⟩), .agg #[.slice B m c], .int .i64 d, .bool lp] w (LnsOut lim k g p A n cap bs w)
theorem ok_app {α : Type} [Enc α] {a b : List α} (h : ∀ x ∈ a, Enc.ok x) (h2 : ∀ x ∈ b, Enc.ok x) : ∀ x ∈ a ++ b, Enc.ok x := fun x hx => by
  rcases List.mem_append.1 hx with hx | hx
  · exact h x hx
  · exact h2 x hx
theorem one_ok {α : Type} [Enc α] {x : α} (h : Enc.ok x) : ∀ y ∈ [x], Enc.ok y := fun y hy => by
  rw [List.mem_singleton] at hy; rw [hy]; exact h
theorem own_one2 (w : World) (h : Lin) {b : Nat} (hb : b ≤ w.heap.size) : (w.alloc (.cells #[.int .i64 h.depth, .int .i64 h.kind, .int .i64 h.a, .int .i64 h.b] 54)).ownsRow b 54 4 (.slice (some ⟨w.heap.size, 0, none⟩) 1 1) 1 ([h].flatMap Enc.cells) := by
  have := World.ownsRow_lit (base := b) (e := 54) (size := 4) w #[.int .i64 h.depth, .int .i64 h.kind, .int .i64 h.a, .int .i64 h.b] 1 hb (by unfold maxLen; omega) (by simp)
  simpa [Enc.cells] using this
set_option maxHeartbeats 2000000 in
set_option maxRecDepth 100000 in
theorem block_of (e : Nat) (hS : DrawC 111 e (slN e) (skN e)) (hsl : 3 * slN e ≤ 100000) : DrawC 74 e (3 * slN e) (1 + 3 * skN e) := by
  intro d lp B m c g p A n cap bs w hde hd0 hm hp hR
  have hgw := hR.lt
  have HA : Hid (0 < n → ∀ a, A = some a → a.block < w.heap.size) := fun hn a e => hR.sl.under hn a e
  obtain ⟨i0, hi, hz0, hz1, hz2⟩ := info_parts infoLn
  have HS := Lib.hid hS
  clear hS
  generalize slN e = S at *
  generalize skN e = K at *
  go_enter Tryz.func74, Tryz.ntmps74
  go_wp2_with fail
  have O0 := own_empty (w := w.alloc (.cells #[.slice B m c] 25)) (base := w.heap.size) (g := w.heap.size + 1) (e := 54) (size := 4) (by simp) (by simp)
  obtain ⟨ct, zt, L0⟩ := box1 w (.slice B m c) 25
  have LE := Le.new (w.alloc (.cells #[.slice B m c] 25)) (.cells #[] 54)
  have hz4 : w.heap.size + 1 + 1 = ((w.alloc (.cells #[.slice B m c] 25)).alloc (.cells #[] 54)).heap.size := by simp
  replace ct := (LE.cell zt).trans ct
  replace zt := Nat.lt_of_lt_of_le zt LE.size
  replace L0 := L0.trans LE
  have R0 := hR.le L0
  have G0 := Gx.of_le (g := g) L0
  clear LE
  generalize (w.alloc (.cells #[.slice B m c] 25)).alloc (.cells #[] 54) = W at *
  refine (one_lit [1, 2, 1, 2, 3] 5 _ _ g p A n cap bs W _ rfl rfl (by decide) (by decide) (by intro x hx; simp at hx; constructor <;> omega) (by omega) hz4 R0).mono ?_
  rintro e1 w1 ⟨u, rfl, hu, R1, G1⟩
  have hu1 : 1 ≤ u ∧ u ≤ 3 := by simp at hu; omega
  have ct1 := (G1.cell zt (by omega)).trans ct
  have zt1 := Nat.lt_of_lt_of_le zt G1.size
  have G2 := G0.trans G1
  have O1 := O0.kept G1 (.inr (fun e => by simp [Value.ownBlock] at e; omega))
  clear hu hz4 L0 R0 G0 G1 ct O0 zt hR
  go_wp2
  go_loopw [9, 10] (fun v i wr => ∃ (L : List Lin) (q p' : Nat), i = .int .i64 q ∧ L.length + q * S ≤ 3 * S ∧ p' + q * K ≤ p + 1 + 3 * K ∧ (q = 0 → 0 < L.length) ∧ q ≤ 3 ∧ (∀ x ∈ L, Enc.ok x) ∧ wr.ownsRow w.heap.size 54 4 v L.length (L.flatMap Enc.cells) ∧ Rd wr g p' A n cap bs ∧ Gx g w wr ∧ wr.cell? ⟨w.heap.size, 0, none⟩ = some (.slice B m c) ∧ w.heap.size < wr.heap.size ∧ (v.ownBlock ≠ some w.heap.size)) (fun _ i _ => (intOf i).toNat)
  case atStart =>
    obtain ⟨q, rfl⟩ := Int.eq_ofNat_of_zero_le (show 0 ≤ u by omega)
    have hq3 : q ≤ 3 := by omega
    have h1 : q * S ≤ 3 * S := Nat.mul_le_mul_right S hq3
    have h2 : q * K ≤ 3 * K := Nat.mul_le_mul_right K hq3
    exact ⟨[], q, p + 1, rfl, by simpa using h1, by omega, by omega, hq3, (fun _ h => nomatch h), O1, R1, G2, ct1, zt1, by simp [Value.ownBlock]⟩
  case round =>
    clear O1 R1 G2 ct1 zt1 hu1
    obtain ⟨L, q, p', rfl, hLq, hpq, hq0, hq3, hL, O, R, G, ct, zt, hnb⟩ := hrel
    have HL := Lib.hid hL
    have HNB := Lib.hid hnb
    clear hL hnb
    cases q with
    | zero =>
      have hpos := hq0 rfl
      have hlim : L.length ≤ 3 * S := by omega
      have hp2 : p' ≤ p + (1 + 3 * K) := by omega
      clear hq0 hLq hpq
      go_wp2
      go_ret
      exact ⟨_, L, p', rfl, O, HL.out, hpos, hlim, hp2, R, G⟩
    | succ q =>
      have hsq : (q + 1) * S = q * S + S := Nat.succ_mul q S
      have hkq : (q + 1) * K = q * K + K := Nat.succ_mul q K
      have hqs0 : 0 ≤ q * S := Nat.zero_le _
      have hqk0 : 0 ≤ q * K := Nat.zero_le _
      have hLl : L.length ≤ 3 * S := by omega
      have hLq2 : L.length + (q * S + S) ≤ 3 * S := by omega
      have hpq2 : p' + (q * K + K) ≤ p + 1 + 3 * K := by omega
      have hpb : p' + K ≤ 900000 := by omega
      clear hsq hkq hLq hpq hq0
      generalize hQS : q * S = QS at *
      generalize hQK : q * K = QK at *
      have HQS := Lib.hid hQS
      have HQK := Lib.hid hQK
      clear hQS hQK
      have hq1 : (0 : Int) < (q : Int) + 1 := by omega
      have hwt : IntKind.i64.wrap ((q : Int) + 1 - 1) = (q : Int) := by rw [Int.add_sub_cancel]; exact IntWalk.i64_in _ (by omega)
      go_wp2_with fail
      refine (HS.out d lp B m c g p' A n cap bs wr hde hd0 hm hpb R).mono ?_
      rintro e2 w2 ⟨v2, M, p2, rfl, O2, hM, hM0, hMS, hp2, R2, hg2⟩
      have hbk := O.lt
      have O3 := O.kept hg2 (.inr (fun e => by have h := (hbk _ e).1; omega))
      have G3 := G.trans hg2
      have ct2 := (hg2.cell zt (by omega)).trans ct
      have hs2 := hg2.size
      have hs1 := G.size
      obtain ⟨A2, q2, rfl⟩ := own_form O2
      have S2 := Sl.of_own O2 rfl (by decide) hM
      have HM := Lib.hid hM
      clear O R G ct hg2 O2 hM
      go_wp2_with (at_builtin; refine wpList_append_sl rfl _ _ 26 rfl w.heap.size 54 i0 _ 32 Tryz.underlying26 hi hz0 hz1 hz2 rfl _ L.length L rfl O3 A2 M.length q2 M rfl S2 (by unfold maxLen; omega) (by omega) (by omega) ?_; intro v4 w4 O4 hg4 hbl; have R4 := R2.grown hg4 (fun e => by have h := (hbk _ e).1; omega) (fun hn a e e2 => by have h := (hbk _ e2).1; have := HA.out hn a e; omega); have G4 := G3.grown hg4 (fun k hk => (hbk _ hk).1); have ct4 := (hg4.cell (a := ⟨w.heap.size, 0, none⟩) ct2 (fun e => HNB.out e.symm)); have zt4 : w.heap.size < w4.heap.size := Nat.lt_of_lt_of_le zt (Nat.le_trans hs2 hg4.size); have HNB4 : Hid (v4.ownBlock ≠ some w.heap.size) := (fun e => by rcases hbl with h | h; exact HNB.out (h.symm.trans e); (have e2 := h.symm.trans e; injection e2 with e2; omega)); clear hg4 hbl)
      go_roundw
      case rel => exact ⟨L ++ M, q, p2, by go_num, by rw [List.length_append, HQS.out]; omega, by rw [HQK.out]; omega, fun _ => by rw [List.length_append]; omega, by omega, ok_app HL.out HM.out, by rw [List.length_append]; exact O4, R4, G4, ct4, zt4, HNB4.out⟩
      case measure => simp [intOf]
end

section
/-- where a draw of lines stands: its row, the reader, the tree's box -/
structure Ts (w wr : World) (g p : Nat) (A : Option Addr) (n cap : Nat) (bs : List By) (B : Option Addr) (m c : Nat) (v : Value) (L : List Lin) : Prop where
  O : wr.ownsRow w.heap.size 54 4 v L.length (L.flatMap Enc.cells)
  ok : ∀ x ∈ L, Enc.ok x
  R : Rd wr g p A n cap bs
  G : Gx g w wr
  gw : g < w.heap.size
  ct : wr.cell? ⟨w.heap.size, 0, none⟩ = some (.slice B m c)
  zt : w.heap.size < wr.heap.size
  nb : v.ownBlock ≠ some w.heap.size
section
variable {w wr w2 : World} {g p p2 : Nat} {A : Option Addr} {n cap : Nat} {bs : List By} {B : Option Addr} {m c : Nat} {v : Value} {L M : List Lin}
theorem Ts.call (h : Ts w wr g p A n cap bs B m c v L) (R2 : Rd w2 g p2 A n cap bs) (hg : Gx g wr w2) : Ts w w2 g p2 A n cap bs B m c v L :=
  ⟨h.O.kept hg (.inr (fun e => by have := (h.O.lt _ e).1; have := h.gw; omega)), h.ok, R2, h.G.trans hg, h.gw, (hg.cell h.zt (by have := h.gw; omega)).trans h.ct, Nat.lt_of_lt_of_le h.zt hg.size, h.nb⟩
theorem Ts.le (h : Ts w wr g p A n cap bs B m c v L) (hl : Le wr w2) : Ts w w2 g p A n cap bs B m c v L := h.call (h.R.le hl) (Gx.of_le hl)
/-- more lines behind -/
theorem Ts.app (h : Ts w wr g p A n cap bs B m c v L) (hA : 0 < n → ∀ a, A = some a → a.block < w.heap.size) {v2 : Value} (O2 : w2.ownsRow w.heap.size 54 4 v2 (L.length + M.length) ((L ++ M).flatMap Enc.cells)) (hM : ∀ x ∈ M, Enc.ok x) (hg : wr.grownBy w2 v.ownBlock) (hb : v2.ownBlock = v.ownBlock ∨ v2.ownBlock = some wr.heap.size) : Ts w w2 g p A n cap bs B m c v2 (L ++ M) :=
  ⟨by rw [List.length_append]; exact O2, ok_app h.ok hM, h.R.grown hg (fun e => by have := (h.O.lt _ e).1; have := h.gw; omega) (fun hn a e e2 => by have := (h.O.lt _ e2).1; have := hA hn a e; omega), h.G.grown hg (fun k hk => (h.O.lt k hk).1), h.gw,
    (hg.cell (a := ⟨w.heap.size, 0, none⟩) h.ct (fun e => h.nb e.symm)), Nat.lt_of_lt_of_le h.zt hg.size, fun e => by
      rcases hb with hb | hb
      · exact h.nb (hb.symm.trans e)
      · have e2 := hb.symm.trans e; injection e2 with e2; have := h.zt; omega⟩
theorem Ts.out (h : Ts w wr g p A n cap bs B m c v L) {lim k p0 : Nat} (h0 : 0 < L.length) (h1 : L.length ≤ lim) (h2 : p ≤ p0 + k) : LnsOut lim k g p0 A n cap bs w (.returned v) wr := ⟨v, L, p, rfl, h.O, h.ok, h0, h1, h2, h.R, h.G⟩
end
theorem dl_ok {d k a : Int} (h0 : 0 ≤ d) (h1 : d ≤ 3) (hk : 0 ≤ k ∧ k ≤ 20) (ha : 0 ≤ a ∧ a ≤ 1000000) : Enc.ok (⟨d, k, a, 0⟩ : Lin) := by
  exact ⟨by show _ ≤ d; omega, by show d ≤ _; omega, by show _ ≤ k; omega, by show k ≤ _; omega, by show _ ≤ a; omega, by show a ≤ _; omega, by show (-9223372036854775808 : Int) ≤ 0; omega, by show (0 : Int) ≤ 9223372036854775807; omega⟩
set_option maxHeartbeats 4000000 in
set_option maxRecDepth 100000 in
theorem try_of (e T K : Nat) (hB : DrawC 74 e T K) (hT : T ≤ 100000) (hK : K ≤ 100000) : DrawC 73 (e + 1) (5 + 5 * T) (8 + 5 * K) := by
  intro d lp B m c g p A n cap bs w hde hd0 hm hp hR
  have hgw := hR.lt
  have HA : Hid (0 < n → ∀ a, A = some a → a.block < w.heap.size) := fun hn a e => hR.sl.under hn a e
  obtain ⟨i0, hi, hz0, hz1, hz2⟩ := info_parts infoLn
  have HB : Hid (∀ (q : Nat) (wx : World), q + K ≤ 900000 → Rd wx g q A n cap bs → Calls Tryz.prog 74 #[.pointer (some ⟨g, 0, none⟩), .agg #[.slice B m c], .int .i64 (d + 1), .bool lp] wx (LnsOut T K g q A n cap bs wx)) := fun q wx hq hr => hB (d + 1) lp B m c g q A n cap bs wx (by omega) (by omega) hm hq hr
  have hd3 : d ≤ 2 := by omega
  have HOK : Hid (∀ k a : Int, (0 ≤ k ∧ k ≤ 20) → (0 ≤ a ∧ a ≤ 1000000) → Enc.ok (⟨d, k, a, 0⟩ : Lin)) := fun k a hk ha => dl_ok hd0 (by omega) hk ha
  clear hB hde
  go_enter Tryz.func73, Tryz.ntmps73
  go_wp2_with fail
  obtain ⟨ct, zt, L0⟩ := box1 w (.slice B m c) 25
  have O0 := own_one2 (w.alloc (.cells #[.slice B m c] 25)) ⟨d, 7, 0, 0⟩ (b := w.heap.size) L0.size
  have LE := Le.new (w.alloc (.cells #[.slice B m c] 25)) (.cells #[.int .i64 d, .int .i64 7, .int .i64 0, .int .i64 0] 54)
  have esz : (w.alloc (.cells #[.slice B m c] 25)).heap.size = w.heap.size + 1 := by simp
  rw [esz] at O0
  clear esz
  have T0 : Ts w ((w.alloc (.cells #[.slice B m c] 25)).alloc (.cells #[.int .i64 d, .int .i64 7, .int .i64 0, .int .i64 0] 54)) g p A n cap bs B m c (.slice (some ⟨w.heap.size + 1, 0, none⟩) 1 1) [(⟨d, 7, 0, 0⟩ : Lin)] :=
    ⟨O0, one_ok (HOK.out 7 0 (by omega) (by omega)), hR.le (L0.trans LE), Gx.of_le (L0.trans LE), hgw, (LE.cell zt).trans ct, Nat.lt_of_lt_of_le zt LE.size, by simp [Value.ownBlock]⟩
  clear O0 ct zt L0 LE hR
  generalize ((w.alloc (.cells #[.slice B m c] 25)).alloc (.cells #[.int .i64 d, .int .i64 7, .int .i64 0, .int .i64 0] 54)) = W at *
  generalize hL0 : [(⟨d, 7, 0, 0⟩ : Lin)] = L0 at T0
  have hl0 : L0.length = 1 := by rw [← hL0]; rfl
  clear hL0
  refine (HB.out p W (by omega) T0.R).mono ?_
  rintro e1 u1 ⟨v1, M1, p1, rfl, O1, hM1, hm1, ht1, hp1, R1, hg1⟩
  have C1 := T0.call R1 hg1
  have z1 := C1.zt
  obtain ⟨B1, q1, rfl⟩ := own_form O1
  have S1 := Sl.of_own O1 rfl (by decide) hM1
  clear hg1 R1 O1 T0
  go_wp2_with (at_builtin; refine wpList_append_sl rfl _ _ 26 rfl w.heap.size 54 i0 _ 32 Tryz.underlying26 hi hz0 hz1 hz2 rfl _ L0.length L0 rfl C1.O B1 M1.length q1 M1 rfl S1 (by unfold maxLen; omega) (by omega) (Nat.le_of_lt z1) ?_; intro x1 y1 OO1 gg1 bb1; have T1 := C1.app HA.out OO1 hM1 gg1 bb1; have ct1 := T1.ct; have zt1 := T1.zt; clear OO1 gg1 bb1 S1 hM1 C1 z1)
  generalize hL1 : L0 ++ M1 = L1 at T1
  have hl1 : L1.length = L0.length + M1.length := by rw [← hL1, List.length_append]
  clear hL1
  refine (one_lit [1, 2, 0, 1] 4 _ _ g p1 A n cap bs y1 _ rfl rfl (by decide) (by decide) (by intro x hx; simp at hx; constructor <;> omega) (by omega) rfl T1.R).mono ?_
  rintro eo wo ⟨u, rfl, hu, Ro, hgo⟩
  have hu1 : 0 ≤ u ∧ u ≤ 2 := by simp at hu; omega
  have To := T1.call Ro hgo
  clear hu Ro hgo T1 ct1 zt1
  obtain ⟨u, rfl⟩ := Int.eq_ofNat_of_zero_le hu1.1
  have hu2 : u ≤ 2 := by omega
  clear hu1
  have hlo : L1.length ≤ 1 + T := by omega
  have hlp : 0 < L1.length := by omega
  have hpo : p1 + 1 ≤ p + 1 + K := by omega
  go_wp2
  go_loopw [9, 11] (fun v i wr => ∃ (L : List Lin) (q p' : Nat), i = .int .i64 q ∧ q ≤ 2 ∧ L.length + q * (1 + T) ≤ 3 * (1 + T) ∧ p' + q * (2 + K) ≤ p + 1 + K + 2 * (2 + K) ∧ 0 < L.length ∧ Ts w wr g p' A n cap bs B m c v L) (fun _ i _ => (intOf i).toNat)
  case atStart =>
    have h1 : u * (1 + T) ≤ 2 * (1 + T) := Nat.mul_le_mul_right _ hu2
    have h2 : u * (2 + K) ≤ 2 * (2 + K) := Nat.mul_le_mul_right _ hu2
    exact ⟨L1, u, p1 + 1, rfl, hu2, by omega, by omega, hlp, To⟩
  case round =>
    clear To hlo hlp hpo hl0 hl1 hm1 ht1 hp1
    obtain ⟨L, q, p', rfl, hq2, hLq, hpq, hL0, TTs⟩ := hrel
    cases q with
    | succ q =>
      have hsq : (q + 1) * (1 + T) = q * (1 + T) + (1 + T) := Nat.succ_mul q _
      have hkq : (q + 1) * (2 + K) = q * (2 + K) + (2 + K) := Nat.succ_mul q _
      generalize hX : q * (1 + T) = X at *
      generalize hY : q * (2 + K) = Y at *
      have HX := Lib.hid hX
      have HY := Lib.hid hY
      rw [hsq] at hLq
      rw [hkq] at hpq
      clear hsq hkq hX hY
      have hLb : L.length ≤ 3 * (1 + T) := by omega
      have hpb : p' + 2 + K ≤ p + 1 + K + 2 * (2 + K) := by omega
      have hq1 : (0 : Int) < (q : Int) + 1 := by omega
      have hwt : IntKind.i64.wrap ((q : Int) + 1 - 1) = (q : Int) := by rw [Int.add_sub_cancel]; exact IntWalk.i64_in _ (by omega)
      have ctr := TTs.ct
      have ztr := TTs.zt
      go_wp2_with fail
      refine (pick_any m g p' A n cap bs wr (by omega) (by omega) (by omega) TTs.R).mono ?_
      rintro e6 w6 ⟨a, rfl, ha0, ha1, R6, hg6⟩
      have T6 := TTs.call R6 hg6
      have ha2 : 0 ≤ a ∧ a ≤ 8 := by rcases ha1 with h | h <;> omega
      clear R6 hg6 ha0 ha1 TTs ctr ztr
      go_wp2_with fail
      refine (one_lit [a, 0] 2 _ _ g (p' + 1) A n cap bs w6 _ rfl rfl (by decide) (by decide) (by intro x hx; simp at hx; constructor <;> omega) (by omega) rfl T6.R).mono ?_
      rintro e7 w7 ⟨b, rfl, hb, R7, hg7⟩
      have T7 := T6.call R7 hg7
      have hb2 : 0 ≤ b ∧ b ≤ 8 := by (simp at hb; omega)
      have hokb := HOK.out 8 b (by omega) (by omega)
      clear R7 hg7 hb T6 ha2
      go_wp2_with (at_builtin; refine wpList_append_sl rfl _ _ 26 rfl w.heap.size 54 i0 _ 32 Tryz.underlying26 hi hz0 hz1 hz2 rfl _ L.length L rfl (T7.le (Le.new _ _)).O _ 1 1 [(⟨d, 8, b, 0⟩ : Lin)] rfl (sl_one (⟨d, 8, b, 0⟩ : Lin) rfl hokb rfl) (by unfold maxLen; omega) (by omega) (Nat.le_of_lt (T7.le (Le.new _ _)).zt) ?_; intro x2 y2 OO2 gg2 bb2; have T2 := (T7.le (Le.new _ _)).app HA.out OO2 (one_ok hokb) gg2 bb2; have ct2 := T2.ct; have zt2 := T2.zt; clear OO2 gg2 bb2 T7)
      generalize hL2 : L ++ [(⟨d, 8, b, 0⟩ : Lin)] = L2 at T2
      have hl2 : L2.length = L.length + 1 := by rw [← hL2, List.length_append]; rfl
      clear hL2
      refine (HB.out (p' + 1 + 1) y2 (by omega) T2.R).mono ?_
      rintro e3 u3 ⟨v3, M3, p3, rfl, O3, hM3, hm3, ht3, hp3, R3, hg3⟩
      have C3 := T2.call R3 hg3
      have z3 := C3.zt
      obtain ⟨B3, q3, rfl⟩ := own_form O3
      have S3 := Sl.of_own O3 rfl (by decide) hM3
      clear hg3 R3 O3 T2
      go_wp2_with (at_builtin; refine wpList_append_sl rfl _ _ 26 rfl w.heap.size 54 i0 _ 32 Tryz.underlying26 hi hz0 hz1 hz2 rfl _ L2.length L2 rfl C3.O B3 M3.length q3 M3 rfl S3 (by unfold maxLen; omega) (by omega) (Nat.le_of_lt z3) ?_; intro x3 y3 OO3 gg3 bb3; have T3 := C3.app HA.out OO3 hM3 gg3 bb3; have ct3 := T3.ct; have zt3 := T3.zt; clear OO3 gg3 bb3 S3 hM3 C3 z3)
      generalize hL3 : L2 ++ M3 = L3 at T3
      have hl3 : L3.length = L2.length + M3.length := by rw [← hL3, List.length_append]
      clear hL3
      have hfa : L3.length + X ≤ 3 * (1 + T) := by omega
      have hfb : p3 + Y ≤ p + 1 + K + 2 * (2 + K) := by omega
      have hfc : 0 < L3.length := by omega
      go_roundw
      case rel => exact ⟨L3, q, p3, by go_num, by omega, by rw [HX.out]; exact hfa, by rw [HY.out]; exact hfb, hfc, T3⟩
      case measure => simp [intOf]
    | zero =>
      have hLb : L.length ≤ 3 * (1 + T) := by omega
      have hpb : p' ≤ p + 5 + 3 * K := by omega
      clear hLq hpq
      have ctr := TTs.ct
      have ztr := TTs.zt
      cases u with
      | zero =>
        go_wp2_with (at_builtin; refine wpList_append_sl rfl _ _ 26 rfl w.heap.size 54 i0 _ 32 Tryz.underlying26 hi hz0 hz1 hz2 rfl _ L.length L rfl (TTs.le (Le.new _ _)).O _ 1 1 [(⟨d, 10, 0, 0⟩ : Lin)] rfl (sl_one (⟨d, 10, 0, 0⟩ : Lin) rfl (HOK.out 10 0 (by omega) (by omega)) rfl) (by unfold maxLen; omega) (by omega) (Nat.le_of_lt (TTs.le (Le.new _ _)).zt) ?_; intro x4 y4 OO4 gg4 bb4; have T4 := (TTs.le (Le.new _ _)).app HA.out OO4 (one_ok (HOK.out 10 0 (by omega) (by omega))) gg4 bb4; have ct4 := T4.ct; have zt4 := T4.zt; clear OO4 gg4 bb4 TTs)
        generalize hL4 : L ++ [(⟨d, 10, 0, 0⟩ : Lin)] = L4 at T4
        have hl4 : L4.length = L.length + 1 := by rw [← hL4, List.length_append]; rfl
        clear hL4
        refine (HB.out p' y4 (by omega) T4.R).mono ?_
        rintro e5 u5 ⟨v5, M5, p5, rfl, O5, hM5, hm5, ht5, hp5, R5, hg5⟩
        have C5 := T4.call R5 hg5
        have z5 := C5.zt
        obtain ⟨B5, q5, rfl⟩ := own_form O5
        have S5 := Sl.of_own O5 rfl (by decide) hM5
        clear hg5 R5 O5 T4
        go_wp2_with (at_builtin; refine wpList_append_sl rfl _ _ 26 rfl w.heap.size 54 i0 _ 32 Tryz.underlying26 hi hz0 hz1 hz2 rfl _ L4.length L4 rfl C5.O B5 M5.length q5 M5 rfl S5 (by unfold maxLen; omega) (by omega) (Nat.le_of_lt z5) ?_; intro x5 y5 OO5 gg5 bb5; have T5 := C5.app HA.out OO5 hM5 gg5 bb5; have ct5 := T5.ct; have zt5 := T5.zt; clear OO5 gg5 bb5 S5 hM5 C5 z5)
        generalize hL5 : L4 ++ M5 = L5 at T5
        have hl5 : L5.length = L4.length + M5.length := by rw [← hL5, List.length_append]
        clear hL5
        go_ret
        exact T5.out (by omega) (by omega) (by omega)
      | succ u =>
        have hu3 : (0 : Int) < (u : Int) + 1 := by omega
        have hu4 : ((u : Int) + 1 == 0) = false := by simp; omega
        go_wp2_with fail
        refine (pick_any 3 g p' A n cap bs wr (by omega) (by omega) (by omega) TTs.R).mono ?_
        rintro e6 y6 ⟨a6, rfl, ha6, hb6, R6, hg6⟩
        have T6 := TTs.call R6 hg6
        clear R6 hg6 TTs ctr ztr
        have ct6 := T6.ct
        have zt6 := T6.zt
        by_cases hz6 : a6 = 0
        · subst hz6
          go_wp2_with (at_builtin; refine wpList_append_sl rfl _ _ 26 rfl w.heap.size 54 i0 _ 32 Tryz.underlying26 hi hz0 hz1 hz2 rfl _ L.length L rfl (T6.le (Le.new _ _)).O _ 1 1 [(⟨d, 9, 0, 0⟩ : Lin)] rfl (sl_one (⟨d, 9, 0, 0⟩ : Lin) rfl (HOK.out 9 0 (by omega) (by omega)) rfl) (by unfold maxLen; omega) (by omega) (Nat.le_of_lt (T6.le (Le.new _ _)).zt) ?_; intro x7 y7 OO7 gg7 bb7; have T7 := (T6.le (Le.new _ _)).app HA.out OO7 (one_ok (HOK.out 9 0 (by omega) (by omega))) gg7 bb7; have ct7 := T7.ct; have zt7 := T7.zt; clear OO7 gg7 bb7 T6)
          generalize hL7 : L ++ [(⟨d, 9, 0, 0⟩ : Lin)] = L7 at T7
          have hl7 : L7.length = L.length + 1 := by rw [← hL7, List.length_append]; rfl
          clear hL7
          refine (HB.out (p' + 1) y7 (by omega) T7.R).mono ?_
          rintro e8 u8 ⟨v8, M8, p8, rfl, O8, hM8, hm8, ht8, hp8, R8, hg8⟩
          have C8 := T7.call R8 hg8
          have z8 := C8.zt
          obtain ⟨B8, q8, rfl⟩ := own_form O8
          have S8 := Sl.of_own O8 rfl (by decide) hM8
          clear hg8 R8 O8 T7
          go_wp2_with (at_builtin; refine wpList_append_sl rfl _ _ 26 rfl w.heap.size 54 i0 _ 32 Tryz.underlying26 hi hz0 hz1 hz2 rfl _ L7.length L7 rfl C8.O B8 M8.length q8 M8 rfl S8 (by unfold maxLen; omega) (by omega) (Nat.le_of_lt z8) ?_; intro x8 y8 OO8 gg8 bb8; have T8 := C8.app HA.out OO8 hM8 gg8 bb8; have ct8 := T8.ct; have zt8 := T8.zt; clear OO8 gg8 bb8 S8 hM8 C8 z8)
          generalize hL8 : L7 ++ M8 = L8 at T8
          have hl8 : L8.length = L7.length + M8.length := by rw [← hL8, List.length_append]
          clear hL8
          refine (pick_any 2 g p8 A n cap bs y8 (by omega) (by omega) (by omega) T8.R).mono ?_
          rintro e9 y9 ⟨a9, rfl, ha9, hb9, R9, hg9⟩
          have T9 := T8.call R9 hg9
          clear R9 hg9 T8
          have ct9 := T9.ct
          have zt9 := T9.zt
          by_cases hz9 : a9 = 0
          · subst hz9
            go_wp2_with (at_builtin; refine wpList_append_sl rfl _ _ 26 rfl w.heap.size 54 i0 _ 32 Tryz.underlying26 hi hz0 hz1 hz2 rfl _ L8.length L8 rfl (T9.le (Le.new _ _)).O _ 1 1 [(⟨d, 10, 0, 0⟩ : Lin)] rfl (sl_one (⟨d, 10, 0, 0⟩ : Lin) rfl (HOK.out 10 0 (by omega) (by omega)) rfl) (by unfold maxLen; omega) (by omega) (Nat.le_of_lt (T9.le (Le.new _ _)).zt) ?_; intro x10 y10 OO10 gg10 bb10; have T10 := (T9.le (Le.new _ _)).app HA.out OO10 (one_ok (HOK.out 10 0 (by omega) (by omega))) gg10 bb10; have ct10 := T10.ct; have zt10 := T10.zt; clear OO10 gg10 bb10 T9)
            generalize hL10 : L8 ++ [(⟨d, 10, 0, 0⟩ : Lin)] = L10 at T10
            have hl10 : L10.length = L8.length + 1 := by rw [← hL10, List.length_append]; rfl
            clear hL10
            refine (HB.out (p8 + 1) y10 (by omega) T10.R).mono ?_
            rintro e11 u11 ⟨v11, M11, p11, rfl, O11, hM11, hm11, ht11, hp11, R11, hg11⟩
            have C11 := T10.call R11 hg11
            have z11 := C11.zt
            obtain ⟨B11, q11, rfl⟩ := own_form O11
            have S11 := Sl.of_own O11 rfl (by decide) hM11
            clear hg11 R11 O11 T10
            go_wp2_with (at_builtin; refine wpList_append_sl rfl _ _ 26 rfl w.heap.size 54 i0 _ 32 Tryz.underlying26 hi hz0 hz1 hz2 rfl _ L10.length L10 rfl C11.O B11 M11.length q11 M11 rfl S11 (by unfold maxLen; omega) (by omega) (Nat.le_of_lt z11) ?_; intro x11 y11 OO11 gg11 bb11; have T11 := C11.app HA.out OO11 hM11 gg11 bb11; have ct11 := T11.ct; have zt11 := T11.zt; clear OO11 gg11 bb11 S11 hM11 C11 z11)
            generalize hL11 : L10 ++ M11 = L11 at T11
            have hl11 : L11.length = L10.length + M11.length := by rw [← hL11, List.length_append]
            clear hL11
            go_ret
            exact T11.out (by omega) (by omega) (by omega)
          · have hzb9 : (a9 == 0) = false := by simpa using hz9
            clear hz9
            go_wp2
            go_ret
            exact T9.out (by omega) (by omega) (by omega)
        · have hzb6 : (a6 == 0) = false := by simpa using hz6
          clear hz6
          go_wp2_with fail
          refine (pick_any 2 g (p' + 1) A n cap bs y6 (by omega) (by omega) (by omega) T6.R).mono ?_
          rintro e12 y12 ⟨a12, rfl, ha12, hb12, R12, hg12⟩
          have T12 := T6.call R12 hg12
          clear R12 hg12 T6
          have ct12 := T12.ct
          have zt12 := T12.zt
          by_cases hz12 : a12 = 0
          · subst hz12
            go_wp2_with (at_builtin; refine wpList_append_sl rfl _ _ 26 rfl w.heap.size 54 i0 _ 32 Tryz.underlying26 hi hz0 hz1 hz2 rfl _ L.length L rfl (T12.le (Le.new _ _)).O _ 1 1 [(⟨d, 10, 0, 0⟩ : Lin)] rfl (sl_one (⟨d, 10, 0, 0⟩ : Lin) rfl (HOK.out 10 0 (by omega) (by omega)) rfl) (by unfold maxLen; omega) (by omega) (Nat.le_of_lt (T12.le (Le.new _ _)).zt) ?_; intro x13 y13 OO13 gg13 bb13; have T13 := (T12.le (Le.new _ _)).app HA.out OO13 (one_ok (HOK.out 10 0 (by omega) (by omega))) gg13 bb13; have ct13 := T13.ct; have zt13 := T13.zt; clear OO13 gg13 bb13 T12)
            generalize hL13 : L ++ [(⟨d, 10, 0, 0⟩ : Lin)] = L13 at T13
            have hl13 : L13.length = L.length + 1 := by rw [← hL13, List.length_append]; rfl
            clear hL13
            refine (HB.out ((p' + 1) + 1) y13 (by omega) T13.R).mono ?_
            rintro e14 u14 ⟨v14, M14, p14, rfl, O14, hM14, hm14, ht14, hp14, R14, hg14⟩
            have C14 := T13.call R14 hg14
            have z14 := C14.zt
            obtain ⟨B14, q14, rfl⟩ := own_form O14
            have S14 := Sl.of_own O14 rfl (by decide) hM14
            clear hg14 R14 O14 T13
            go_wp2_with (at_builtin; refine wpList_append_sl rfl _ _ 26 rfl w.heap.size 54 i0 _ 32 Tryz.underlying26 hi hz0 hz1 hz2 rfl _ L13.length L13 rfl C14.O B14 M14.length q14 M14 rfl S14 (by unfold maxLen; omega) (by omega) (Nat.le_of_lt z14) ?_; intro x14 y14 OO14 gg14 bb14; have T14 := C14.app HA.out OO14 hM14 gg14 bb14; have ct14 := T14.ct; have zt14 := T14.zt; clear OO14 gg14 bb14 S14 hM14 C14 z14)
            generalize hL14 : L13 ++ M14 = L14 at T14
            have hl14 : L14.length = L13.length + M14.length := by rw [← hL14, List.length_append]
            clear hL14
            go_ret
            exact T14.out (by omega) (by omega) (by omega)
          · have hzb12 : (a12 == 0) = false := by simpa using hz12
            clear hz12
            go_wp2
            go_ret
            exact T12.out (by omega) (by omega) (by omega)
end
end

section
theorem wpAnyH_takeL {P : Program} {l : List Oper} {Q : Exit → Act → World → Prop} {md : Region.Mode} {S : World → Prop} {i : Nat} {oi : Oper} {v : Value} {fuel : Nat} {listed : Array Bool} {a : Act} {w : World} (hi : l[i]? = some oi)
    (hs : Region.noSelect l.toArray = true) (hf : Region.free md l.toArray listed i = true) (hr : (Region.ready md l.toArray listed).contains i = true)
    (hQ : ∀ c a w, Q (.panic c) (a.put oi.dst v) w → Q (.panic c) a w) (hy : YieldsIf P l.toArray S oi v a) (hS : S w)
    (h : wpAnyH P md l.toArray Q S fuel (listed.setIfInBounds i true) (a.put oi.dst v) w) : wpAnyH P md l.toArray Q S (fuel + 1) listed a w :=
  wpAnyH_take (by rw [List.getElem?_toArray]; exact hi) hs hf hr hQ hy hS h
theorem AllReadyH.consL {P : Program} {l : List Oper} {Q : Exit → Act → World → Prop} {md : Region.Mode} {S : World → Prop} {fuel : Nat} {listed : Array Bool} {a : Act} {w : World} {i : Nat} {o : Oper} {rs : List Nat} (ho : l[i]? = some o)
    (h : ∀ K' : Act → World → Prop, Shut (∀ a w, S w → (S w → wpAnyH P md l.toArray Q S fuel (listed.setIfInBounds i true) a w) → K' a w) → if Region.wanted o (yielded l.toArray a.tmps) = true then Oper.wp P o a w K' Q else K' (a.put o.dst undef) w)
    (hs : AllReadyH P md l.toArray Q S fuel listed a w rs) : AllReadyH P md l.toArray Q S fuel listed a w (i :: rs) :=
  AllReadyH.cons (by rw [List.getElem?_toArray]; exact ho) h hs
end
end Go.Proofs.YtkcnjoikdalgjaaGreatDoor
