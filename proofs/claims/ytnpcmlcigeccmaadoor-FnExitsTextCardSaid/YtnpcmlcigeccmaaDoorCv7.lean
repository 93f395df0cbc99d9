/- one text of TGo, TyFrame, TrA, TrB, TL, TlFrame, CP, WN, OneFrm, TrC, TrH, TyRow, TlRow -/
import Derived.Test.YtnpcmlcigeccmaaDoorCv6
import Derived.Test.YtnpcmlcigeccmaaDoorCv3
import Derived.Test.YtnpcmlcigeccmaaDoorCv1
import Derived.Test.YtnpcmlcigeccmaaDoorCv5
import Derived.Test.YtnpcmlcigeccmaaDoorCv2
import Derived.Test.YtnpcmlcigeccmaaDoorRows
import Derived.Test.YtnpcmlcigeccmaaDoorCv4
import Derived.Deep.RegionWith
import Derived.Deep.RegionHeld3
import Derived.Laws.CopyOwn
namespace Go.Proofs.YtnpcmlcigeccmaaDoor
open Go.RowKit
set_option linter.unusedVariables false
section
theorem names8_ok : ∀ i : Fin 8, ∀ s, names8[i.1]? = some s → okName s = true := by
  intro i s h
  have : ∀ i : Fin 8, okName (names8[i.1]'(by have := i.2; show i.1 < 8; omega)) = true := by decide +kernel
  have h2 := this i
  rw [List.getElem?_eq_getElem (by have := i.2; show i.1 < 8; omega)] at h
  injection h with h
  rw [← h]; exact h2
theorem names8_ne {i j : Nat} (hi : i < 8) (hj : j < 8) (hne : i ≠ j) {s : ByteArray} (h1 : names8[i]? = some s) (h2 : names8[j]? = some s) : False := by
  have : ∀ i j : Fin 8, i.1 ≠ j.1 → ((names8[i.1]'(by have := i.2; show i.1 < 8; omega)).data.toList == (names8[j.1]'(by have := j.2; show j.1 < 8; omega)).data.toList) = false := by decide +kernel
  have h := this ⟨i, hi⟩ ⟨j, hj⟩ hne
  rw [List.getElem?_eq_getElem (by show i < 8; omega)] at h1
  rw [List.getElem?_eq_getElem (by show j < 8; omega)] at h2
  injection h1 with h1
  injection h2 with h2
  simp only [h1, h2] at h
  simp at h
theorem gt_ok {k : Nat} {xs : List Cls} (h : GT k xs) (h1 : 1 ≤ k) (h8 : k ≤ 8) : okTree xs = true := by
  have hl := h.1
  have := okFrom_mk (all := xs) (by omega) (fun i hi => ?_) xs.length 0 (by omega)
  · simpa [okTree] using this
  · obtain ⟨hn, h0, hp⟩ := h.2 i hi
    have hok := names8_ok ⟨i, by omega⟩ _ hn
    have hf : findN (xs.take i) xs[i].name 0 = -1 := by
      rcases findN_spec xs[i].name (xs.take i) 0 with ⟨e, _⟩ | ⟨j, hj, _, e, _⟩
      · exact e
      · rw [List.length_take] at hj
        rw [List.getElem_take] at e
        have hj2 := (h.2 j (by omega)).1
        rw [e] at hj2
        exact (names8_ne (by omega) (by omega) (by omega) hn hj2).elim
    unfold badCls
    rw [hok, hf]
    rcases Nat.eq_zero_or_pos i with e | e
    · rw [h0 e]; subst e; rfl
    · have hpp := hp e
      rw [decide_eq_true hpp.1, decide_eq_true hpp.2]
      have e1 : ((i : Int) == 0) = false := by rw [beq_eq_false_iff_ne]; omega
      rw [e1]; simp
end

section
structure Frm where
  fn : ByteArray
  line : Int
instance instEncFrm : Enc Frm := ⟨2, fun x => [.string x.fn, .int .i64 x.line], fun x => x.fn.size ≤ 9223372036854775807 ∧ -9223372036854775808 ≤ x.line ∧ x.line ≤ 9223372036854775807, fun _ => rfl⟩
theorem Sl.frm_at {w : World} {A : Option Addr} {n cap : Nat} {xs : List Frm} (h : Sl w A n cap xs) {k : Nat} (hk : k < xs.length) :
    ∃ b off, A = some ⟨b, off, none⟩ ∧ b < w.heap.size ∧ w.cell? ⟨b, off + k * 2, none⟩ = some (.string xs[k].fn) ∧ w.cell? ⟨b, off + k * 2 + 1, none⟩ = some (.int .i64 xs[k].line) ∧ (xs[k].fn.size ≤ 9223372036854775807 ∧ -9223372036854775808 ≤ xs[k].line ∧ xs[k].line ≤ 9223372036854775807) := by
  obtain ⟨b, off, e, hb, hc⟩ := h.cells_ hk
  have h0 := hc 0 (by decide) _ rfl
  have h1 := hc 1 (by decide) _ rfl
  exact ⟨b, off, e, hb, by simpa [Enc.size] using h0, by simpa [Enc.size, Nat.add_assoc] using h1, h.ok xs[k] (List.getElem_mem hk)⟩
theorem flat_frm_fn : ∀ (xs : List Frm) (k : Nat) (h : k < xs.length) (z : ByteArray), (xs.flatMap Enc.cells).set (k * 2) (.string z) = (xs.set k {xs[k] with fn := z}).flatMap Enc.cells
  | x :: r, 0, _, z => rfl
  | x :: r, k + 1, h, z => by
    have ih := flat_frm_fn r k (by simpa using h) z
    have e : (k + 1) * 2 = k * 2 + 1 + 1 := by omega
    rw [e]
    show Value.string x.fn :: Value.int .i64 x.line :: (r.flatMap Enc.cells).set (k * 2) (.string z) = _
    rw [ih]; rfl
theorem flat_frm_line : ∀ (xs : List Frm) (k : Nat) (h : k < xs.length) (z : Int), (xs.flatMap Enc.cells).set (k * 2 + 1) (.int .i64 z) = (xs.set k {xs[k] with line := z}).flatMap Enc.cells
  | x :: r, 0, _, z => rfl
  | x :: r, k + 1, h, z => by
    have ih := flat_frm_line r k (by simpa using h) z
    have e : (k + 1) * 2 + 1 = k * 2 + 1 + 1 + 1 := by omega
    rw [e]
    show Value.string x.fn :: Value.int .i64 x.line :: (r.flatMap Enc.cells).set (k * 2 + 1) (.int .i64 z) = _
    rw [ih]; rfl
end

section
def inL (a : Int) : Bool := decide (1 ≤ a) && decide (a ≤ 999)
def vFr (f : Frm) : Bool := okName f.fn && inL f.line
def vAll (xs : List Frm) : Bool := xs.all vFr
def vTr (xs : List Frm) : Bool := vAll xs && decide (xs.length ≤ 12)
theorem vAll_at {xs : List Frm} {k : Nat} (h : k < xs.length) : vAll (xs.drop k) = (vFr xs[k] && vAll (xs.drop (k + 1))) := by
  unfold vAll; rw [List.drop_eq_getElem_cons h]; rfl
theorem vAll_end {xs : List Frm} {k : Nat} (h : ¬ k < xs.length) : vAll (xs.drop k) = true := by
  rw [List.drop_eq_nil_of_le (by omega)]; rfl
theorem vTr_small {xs : List Frm} (h : vTr xs = true) : xs.length ≤ 12 := by unfold vTr at h; simp at h; exact h.2
theorem vTr_all {xs : List Frm} (h : vTr xs = true) : ∀ f ∈ xs, vFr f = true := by unfold vTr vAll at h; simp at h; exact h.1
theorem vTr_of {xs : List Frm} (h : ∀ f ∈ xs, vFr f = true) (hl : xs.length ≤ 12) : vTr xs = true := by unfold vTr vAll; simp; exact ⟨h, hl⟩

theorem iinRange_any (a b c : Int) (w : World) : Calls Tryd.prog 58 #[.int .i64 a, .int .i64 b, .int .i64 c] w fun e w' => e = .returned (.bool (decide (b ≤ a) && decide (a ≤ c))) ∧ w = w' := by
  go_enter Tryd.func58, Tryd.ntmps58
  go_wp2
  all_goals (go_ret; simp_all)
  all_goals omega

end

section
def comH : List Frm → List Frm → Nat
  | a :: r, b :: s => if a.fn = b.fn ∧ a.line = b.line then comH r s + 1 else 0
  | _, _ => 0
theorem comH_le : ∀ a b : List Frm, comH a b ≤ a.length ∧ comH a b ≤ b.length
  | [], _ => by simp [comH]
  | a :: r, [] => by simp [comH]
  | a :: r, b :: s => by
    unfold comH
    have := comH_le r s
    split <;> simp <;> omega
theorem comH_yes {a b : List Frm} {k : Nat} (h1 : k < a.length) (h2 : k < b.length) (h : a[k].fn = b[k].fn ∧ a[k].line = b[k].line) : comH (a.drop k) (b.drop k) = comH (a.drop (k + 1)) (b.drop (k + 1)) + 1 := by
  rw [List.drop_eq_getElem_cons h1, List.drop_eq_getElem_cons h2, comH, if_pos h]
theorem comH_no {a b : List Frm} {k : Nat} (h1 : k < a.length) (h2 : k < b.length) (h : ¬ (a[k].fn = b[k].fn ∧ a[k].line = b[k].line)) : comH (a.drop k) (b.drop k) = 0 := by
  rw [List.drop_eq_getElem_cons h1, List.drop_eq_getElem_cons h2, comH, if_neg h]
theorem comH_end {a b : List Frm} {k : Nat} (h : ¬ (k < a.length ∧ k < b.length)) : comH (a.drop k) (b.drop k) = 0 := by
  by_cases h1 : k < a.length
  · have e : b.drop k = [] := List.drop_eq_nil_of_le (by omega)
    rw [e]; cases a.drop k <;> rfl
  · have e : a.drop k = [] := List.drop_eq_nil_of_le (by omega)
    rw [e]; rfl
def comX (a b : List Frm) : Int := if vTr a && vTr b then comH a b else -1

theorem comX_of {a b : List Frm} {p q : Bool} (h1 : vTr a = p) (h2 : vTr b = q) : comX a b = if p && q then (comH a b : Int) else -1 := by unfold comX; rw [h1, h2]
end

section
section
def SzOut (left : Int) (n : Nat) (w : World) (e : Ending) (w' : World) : Prop := ∃ r : Int, e = .returned (.int .i64 r) ∧ (r = -1 ∨ (0 ≤ r ∧ r ≤ left ∧ (n : Int) ≤ left)) ∧ Le w w'
end

section
theorem byte_str (w : World) (n : Int) : (convert 22 9 (.slice (some ⟨w.heap.size, 0, none⟩) 1 1)).run Tryd.prog (w.alloc (.cells #[.int .u8 n] 5)) = .ok (.string ⟨#[UInt8.ofNat n.toNat]⟩) (w.alloc (.cells #[.int .u8 n] 5)) := by
  rw [run_convert_bytes_string _ _ _ 5 _ _ _ Tryd.underlying22 Tryd.underlying5 Tryd.underlying9]
  have h := run_bytesToString (P := Tryd.prog) (w.alloc (.cells #[.int .u8 n] 5)) ⟨w.heap.size, 0, none⟩ 1 1 [n] (by simp [go_sem, loadCells])
  exact h
def mTxtF : Nat → Int → ByteArray → ByteArray
  | 0, _, o => o
  | f + 1, k, o => if 0 < k then mTxtF f (k / 10) (⟨#[UInt8.ofNat (48 + k % 10).toNat]⟩ ++ o) else o
def mTxt (k : Int) : ByteArray := ⟨#[109]⟩ ++ mTxtF k.toNat k ⟨#[]⟩
theorem mTxtF_end (f : Nat) {k : Int} (h : ¬ 0 < k) (o : ByteArray) : mTxtF f k o = o := by
  cases f with
  | zero => rfl
  | succ f => unfold mTxtF; rw [if_neg h]
theorem mTxtF_step (f : Nat) {k : Int} (h : 0 < k) (o : ByteArray) : mTxtF (f + 1) k o = mTxtF f (k / 10) (⟨#[UInt8.ofNat (48 + k % 10).toNat]⟩ ++ o) := by
  rw [mTxtF, if_pos h]
theorem mTxtF_size (f : Nat) : ∀ (k : Int) (o : ByteArray), 0 ≤ k → (mTxtF f k o).size ≤ k.toNat + o.size := by
  induction f with
  | zero => intro k o h; show o.size ≤ _; omega
  | succ f ih =>
    intro k o h
    by_cases hk : 0 < k
    · rw [mTxtF_step f hk]
      have := ih (k / 10) (⟨#[UInt8.ofNat (48 + k % 10).toNat]⟩ ++ o) (by omega)
      rw [ByteArray.size_append] at this
      have e : (⟨#[UInt8.ofNat (48 + k % 10).toNat]⟩ : ByteArray).size = 1 := rfl
      omega
    · rw [mTxtF_end _ hk]; omega
theorem mTxt_size {k : Int} (h0 : 0 ≤ k) (h1 : k ≤ 2000000000) : (mTxt k).size ≤ 9223372036854775807 := by
  unfold mTxt
  rw [ByteArray.size_append]
  have := mTxtF_size k.toNat k ⟨#[]⟩ h0
  have e : (⟨#[109]⟩ : ByteArray).size = 1 := rfl
  have e2 : (⟨#[]⟩ : ByteArray).size = 0 := rfl
  omega
def TextOut (k : Int) (w : World) (e : Ending) (w' : World) : Prop := e = .returned (.string (mTxt k)) ∧ (mTxt k).size ≤ 9223372036854775807 ∧ Le w w'
set_option maxRecDepth 100000 in
theorem markText_any (k : Int) (w : World) (h0 : 1 ≤ k) (h1 : k ≤ 2000000000) : Calls Tryd.prog 76 #[.int .i64 k] w (TextOut k w) := by
  go_enter Tryd.func76, Tryd.ntmps76
  go_wp2
  go_loopw [0, 3] (fun q o wr => ∃ k' : Int, ∃ s : ByteArray, ∃ f : Nat, 0 ≤ k' ∧ q = .int .i64 k' ∧ o = .string s ∧ k' + s.size ≤ k ∧ k'.toNat ≤ f ∧ mTxtF k.toNat k ⟨#[]⟩ = mTxtF f k' s ∧ Le w wr) (fun q _ _ => (intOf q).toNat)
  case atStart => exact ⟨k, ⟨#[]⟩, k.toNat, by omega, rfl, rfl, by simp [ByteArray.size], Nat.le_refl _, rfl, Le.refl _⟩
  case round =>
    obtain ⟨k', s, f, hk, rfl, rfl, hs, hf, hr, hle⟩ := hrel
    have HR := Lib.hid hr; clear hr
    by_cases hlt : 0 < k'
    · have hbs := byte_str wr (48 + k' % 10)
      cases f with
      | zero => omega
      | succ f =>
      have HF : Hid (mTxtF k.toNat k ⟨#[]⟩ = mTxtF f (k' / 10) (⟨#[UInt8.ofNat (48 + k' % 10).toNat]⟩ ++ s)) := by show _ = _; rw [HR.out, mTxtF_step f hlt]
      go_wp2
      go_roundw
      case rel => exact ⟨k' / 10, _, f, by omega, rfl, rfl, by rw [ByteArray.size_append]; show k' / 10 + ((1 + s.size : Nat) : Int) ≤ k; omega, by omega, HF.out, hle.alloc _⟩
      case measure => simp [intOf]; omega
    · have HF : Hid (mTxt k = ⟨#[109]⟩ ++ s) := by show _ = _; unfold mTxt; rw [HR.out, mTxtF_end f hlt]
      have HS : Hid ((mTxt k).size ≤ 9223372036854775807) := mTxt_size (by omega) h1
      go_wp2
      go_ret
      exact ⟨ret_str HF.out.symm, HS.out, hle⟩
theorem markText_ret (k : Int) (w : World) (h0 : 1 ≤ k) (h1 : k ≤ 2000000000) : Calls Tryd.prog 76 #[.int .i64 k] w fun e w' => e = .returned (.string (mTxt k)) ∧ Le w w' :=
  (markText_any k w h0 h1).mono fun _ _ h => ⟨h.1, h.2.2⟩
end
end

section
def mFrm (k : Int) (i : Nat) : Frm := ⟨mTxt (k + 2 * i), k + 2 * i + 1⟩

theorem mFrm_ok {q : Int} (h0 : 1 ≤ q) (h1 : q ≤ 1000000000) {n : Nat} (hn : n ≤ 1048576) : ∀ x ∈ (List.range n).map (mFrm q), Enc.ok x := by
  intro x hx
  simp at hx
  obtain ⟨i, hi, rfl⟩ := hx
  exact ⟨mTxt_size (by omega) (by omega), by show _ ≤ _; simp only [mFrm]; omega, by show _ ≤ _; simp only [mFrm]; omega⟩

end

section
section
variable {α : Type} [Enc α] [EncOne α] {P : Program} {w : World}
theorem run_copy_sl (base : Nat) (dT sT ty e : TypeId) (i : TypeInfo) (ht : P.underlying dT = some (.slice e)) (hi : P.info? e = some i) (hsize : i.size = Enc.size α) (g n cap : Nat) (zs : List Value)
    (hown : w.ownsRow base e (Enc.size α) (.slice (some ⟨g, 0, none⟩) n cap) n zs) (A : Option Addr) (c : Nat) (ys : List α) (hS : Sl w A n c ys) :
    ∃ w', (Builtin.copy_ #[dT, sT] ty #[.slice (some ⟨g, 0, none⟩) n cap, .slice A n c]).run P w = .ok (goInt n) w' ∧ w'.ownsRow base e (Enc.size α) (.slice (some ⟨g, 0, none⟩) n cap) n (ys.flatMap Enc.cells) ∧ w.grownBy w' (some g) := by
  have hm : (ys.flatMap (Enc.cells (α := α))).length = n * Enc.size α := by rw [flat_len, hS.len]
  have hown' := hown
  rcases hown.2 with ⟨h, _⟩ | ⟨g', cap', cur, h, hb, hg, hnc, hmx, hsz, htk⟩
  · cases h
  · simp only [Value.slice.injEq, Option.some.injEq, Addr.mk.injEq, and_true, true_and] at h
    obtain ⟨rfl, rfl⟩ := h
    rcases A with _ | ad
    · have h0 : n = 0 := by
        rcases Nat.eq_zero_or_pos n with h0 | h0
        · exact h0
        · obtain ⟨b, off, h, _⟩ := hS.at_ h0; cases h
      subst h0
      have hy : ys = [] := List.eq_nil_of_length_eq_zero hS.len
      subst hy
      have hz : zs = [] := List.eq_nil_of_length_eq_zero (by rw [hown.1]; simp)
      subst hz
      refine ⟨w, ?_, hown', World.grownBy.refl w _⟩
      simp [Builtin.copy_, run_underlying ht, sizeOf, typeInfo, hi, Builtin.lenOf, Builtin.firstCells, storeCells]
    · have hcells : ∀ j u, (ys.flatMap Enc.cells)[j]? = some u → w.cell? (ad.add j) = some u := by
        intro j u hu
        rcases Nat.eq_zero_or_pos n with h0 | h0
        · have hy : ys = [] := List.eq_nil_of_length_eq_zero (by rw [hS.len, h0])
          subst hy; simp at hu
        · obtain ⟨b, off, h, _, hc⟩ := hS.at_ h0
          injection h with h
          subst h
          have e : (⟨b, off, none⟩ : Addr).add j = ⟨b, off + j, none⟩ := by
            unfold Addr.add; split
            · next h => subst h; rfl
            · rfl
          rw [e]; exact hc j u hu
      have hfit : 0 + 0 + (ys.flatMap (Enc.cells (α := α))).length ≤ cur.size := by
        rw [hm, hsz]; simpa using Nat.mul_le_mul_right _ hnc
      have hl := run_loadCells_list (P := P) w ad _ hcells
      have hst := run_storeCells_at P g 0 e _ 0 cur w hg hfit (EncOne.all ys)
      obtain ⟨Z, hZ⟩ : ∃ Z, Z = ys.flatMap (Enc.cells (α := α)) ++ cur.toList.drop (ys.flatMap (Enc.cells (α := α))).length := ⟨_, rfl⟩
      have hst' : (storeCells ⟨g, 0, none⟩ (ys.flatMap (Enc.cells (α := α)))).run P w = .ok () (w.setRow g Z.toArray) := by
        rw [hZ]; simpa using hst
      have hZ1 : Z.length = cap * Enc.size α := by
        have h1 : (ys.flatMap (Enc.cells (α := α))).length ≤ cur.toList.length := by simpa using hfit
        rw [hZ, List.length_append, List.length_drop, ← hsz, ← Array.length_toList]; omega
      have hZ2 : Z.take (n * Enc.size α) = ys.flatMap (Enc.cells (α := α)) := by rw [hZ, ← hm, List.take_left]
      clear hZ hst
      refine ⟨w.setRow g Z.toArray, ?_, ⟨hm, .inr ⟨g, cap, Z.toArray, rfl, hb, setRow_heap w g cur _ e _ hg, hnc, hmx, by simpa using hZ1, by simpa using hZ2⟩⟩, ?_⟩
      · rw [hm] at hl
        simp [Builtin.copy_, run_underlying ht, Builtin.lenOf, Builtin.firstCells, sizeOf, typeInfo, hi, hsize, hl, hst']
      · exact ⟨rfl, rfl, rfl, by simp [World.setRow], fun k hk hne => setRow_other w g k _ (fun e => hne (by rw [e]))⟩
theorem wpList_copy_sl {ops : Array Oper} {rest : List Oper} {o : Oper} {a : Act} {Q : Exit → Act → World → Prop} (hgd : o.guard = none) (d s : Operand) (dT sT : TypeId)
    (ho : o.op = .call { callee := .builtin .copy, args := #[d, s], argTypes := #[dT, sT] })
    (base : Nat) (e : TypeId) (i : TypeInfo) (ht : P.underlying dT = some (.slice e)) (hi : P.info? e = some i) (hsize : i.size = Enc.size α) (g n cap : Nat) (zs : List Value)
    (hd : a.eval d = .slice (some ⟨g, 0, none⟩) n cap) (hown : w.ownsRow base e (Enc.size α) (.slice (some ⟨g, 0, none⟩) n cap) n zs) (A : Option Addr) (c : Nat) (ys : List α) (hs : a.eval s = .slice A n c) (hS : Sl w A n c ys)
    (h : ∀ w', w'.ownsRow base e (Enc.size α) (.slice (some ⟨g, 0, none⟩) n cap) n (ys.flatMap Enc.cells) → w.grownBy w' (some g) → wpList P ops Q rest (a.put o.dst (goInt n)) w') : wpList P ops Q (o :: rest) a w := by
  refine wpList_plain hgd fun K hK => ?_
  obtain ⟨w', hrun, h2, h3⟩ := run_copy_sl (P := P) (w := w) base dT sT o.type e i ht hi hsize g n cap zs hown A c ys hS
  unfold Oper.wp
  simp [execOp, ho, resolve, invoke, builtin, hd, hs, hrun, Result.andThen]
  exact hK _ _ (h w' h2 h3)
omit [Enc α] [EncOne α] in
theorem take_splice {β : Type} (L : List β) (off c m : Nat) (cs : List β) (hc : cs.length = c) (h : off + c ≤ m) (hm : m ≤ L.length) : (L.take off ++ cs ++ L.drop (off + c)).take m = (L.take m).take off ++ cs ++ (L.take m).drop (off + c) := by
  have e1 : (L.take off ++ cs).length = off + c := by simp [hc]; omega
  rw [List.take_append, e1, List.take_of_length_le (by omega), List.take_take, Nat.min_eq_left (by omega), List.drop_take]
omit [Enc α] [EncOne α] in
/-- copy into a row of the call's own, anywhere; the cells that go over are given -/
theorem run_copy_win {size : Nat} (base : Nat) (dT sT ty e : TypeId) (i : TypeInfo) (ht : P.underlying dT = some (.slice e)) (hi : P.info? e = some i) (hsize : i.size = size) (g N cap : Nat) (zs : List Value)
    (hown : w.ownsRow base e size (.slice (some ⟨g, 0, none⟩) N cap) N zs) (off dl dc : Nat) (ad : Addr) (sl sc k : Nat) (hk : Nat.min sl dl = k) (cs : List Value) (hcs : cs.length = k * size) (hsrc : ∀ j u, cs[j]? = some u → w.cell? (ad.add j) = some u)
    (h1 : ∀ u ∈ cs, u.oneCell' = true) (hfit : off + k * size ≤ N * size) :
    ∃ w', (Builtin.copy_ #[dT, sT] ty #[.slice (some ⟨g, off, none⟩) dl dc, .slice (some ad) sl sc]).run P w = .ok (goInt k) w' ∧ w'.ownsRow base e size (.slice (some ⟨g, 0, none⟩) N cap) N (zs.take off ++ cs ++ zs.drop (off + k * size)) ∧ w.grownBy w' (some g) := by
  have hz := hown.1
  rcases hown.2 with ⟨h, _⟩ | ⟨g', cap', cur, h, hb, hg, hnc, hmx, hsz, htk⟩
  · cases h
  · simp only [Value.slice.injEq, Option.some.injEq, Addr.mk.injEq, and_true, true_and] at h
    obtain ⟨rfl, rfl⟩ := h
    have hNc : N * size ≤ cap * size := Nat.mul_le_mul_right _ hnc
    have hcl : cur.toList.length = cap * size := by rw [Array.length_toList]; exact hsz
    have hfit2 : off + 0 + cs.length ≤ cur.size := by rw [hcs, hsz]; omega
    have hl := run_loadCells_list (P := P) w ad cs hsrc
    rw [hcs] at hl
    have hst := run_storeCells_at P g off e cs 0 cur w hg hfit2 h1
    obtain ⟨Z, hZ⟩ : ∃ Z, Z = cur.toList.take off ++ cs ++ cur.toList.drop (off + cs.length) := ⟨_, rfl⟩
    have hst' : (storeCells ⟨g, off, none⟩ cs).run P w = .ok () (w.setRow g Z.toArray) := by rw [hZ]; simpa using hst
    have hZ1 : Z.length = cap * size := by
      rw [hZ, List.length_append, List.length_append, List.length_take, List.length_drop, hcl, hcs]; omega
    have hZ2 : Z.take (N * size) = zs.take off ++ cs ++ zs.drop (off + k * size) := by
      rw [hZ, ← htk, hcs]
      exact take_splice cur.toList off (k * size) (N * size) cs hcs hfit (by rw [hcl]; exact hNc)
    clear hZ hst
    refine ⟨w.setRow g Z.toArray, ?_, ⟨?_, .inr ⟨g, cap, Z.toArray, rfl, hb, setRow_heap w g cur _ e _ hg, hnc, hmx, by simpa using hZ1, by simpa using hZ2⟩⟩, ?_⟩
    · simp [Builtin.copy_, run_underlying ht, Builtin.lenOf, Builtin.firstCells, sizeOf, typeInfo, hi, hsize, hk, hl, hst']
    · rw [List.length_append, List.length_append, List.length_take, List.length_drop, hz, hcs]; omega
    · exact ⟨rfl, rfl, rfl, by simp [World.setRow], fun k hk hne => setRow_other w g k _ (fun e => hne (by rw [e]))⟩
omit [Enc α] [EncOne α] in
theorem wpList_copy_win {size : Nat} {ops : Array Oper} {rest : List Oper} {o : Oper} {a : Act} {Q : Exit → Act → World → Prop} (hgd : o.guard = none) (d s : Operand) (dT sT : TypeId)
    (ho : o.op = .call { callee := .builtin .copy, args := #[d, s], argTypes := #[dT, sT] })
    (base : Nat) (e : TypeId) (i : TypeInfo) (ht : P.underlying dT = some (.slice e)) (hi : P.info? e = some i) (hsize : i.size = size) (g N cap : Nat) (zs : List Value)
    (hown : w.ownsRow base e size (.slice (some ⟨g, 0, none⟩) N cap) N zs) (off dl dc : Nat) (hd : a.eval d = .slice (some ⟨g, off, none⟩) dl dc) (ad : Addr) (sl sc k : Nat) (hs : a.eval s = .slice (some ad) sl sc) (hk : Nat.min sl dl = k) (cs : List Value) (hcs : cs.length = k * size) (hsrc : ∀ j u, cs[j]? = some u → w.cell? (ad.add j) = some u)
    (h1 : ∀ u ∈ cs, u.oneCell' = true) (hfit : off + k * size ≤ N * size)
    (h : ∀ w', w'.ownsRow base e size (.slice (some ⟨g, 0, none⟩) N cap) N (zs.take off ++ cs ++ zs.drop (off + k * size)) → w.grownBy w' (some g) → wpList P ops Q rest (a.put o.dst (goInt k)) w') : wpList P ops Q (o :: rest) a w := by
  refine wpList_plain hgd fun K hK => ?_
  obtain ⟨w', hrun, h2, h3⟩ := run_copy_win (P := P) (w := w) base dT sT o.type e i ht hi hsize g N cap zs hown off dl dc ad sl sc k hk cs hcs hsrc h1 hfit
  unfold Oper.wp
  simp [execOp, ho, resolve, invoke, builtin, hd, hs, hrun, Result.andThen]
  exact hK _ _ (h w' h2 h3)
omit [Enc α] [EncOne α] in
theorem step_copy_win {size : Nat} {ops : Array Oper} {o : Oper} {a : Act} {K : Act → World → Prop} {Q : Exit → Act → World → Prop} {E : Prop} (hgd : o.guard = none) (d s : Operand) (dT sT : TypeId)
    (ho : o.op = .call { callee := .builtin .copy, args := #[d, s], argTypes := #[dT, sT] })
    (base : Nat) (e : TypeId) (i : TypeInfo) (ht : P.underlying dT = some (.slice e)) (hi : P.info? e = some i) (hsize : i.size = size) (g N cap : Nat) (zs : List Value)
    (hown : w.ownsRow base e size (.slice (some ⟨g, 0, none⟩) N cap) N zs) (off dl dc : Nat) (hd : a.eval d = .slice (some ⟨g, off, none⟩) dl dc) (ad : Addr) (sl sc k : Nat) (hs : a.eval s = .slice (some ad) sl sc) (hk : Nat.min sl dl = k) (cs : List Value) (hcs : cs.length = k * size) (hsrc : ∀ j u, cs[j]? = some u → w.cell? (ad.add j) = some u)
    (h1 : ∀ u ∈ cs, u.oneCell' = true) (hfit : off + k * size ≤ N * size)
    (h : ∀ w', w'.ownsRow base e size (.slice (some ⟨g, 0, none⟩) N cap) N (zs.take off ++ cs ++ zs.drop (off + k * size)) → w.grownBy w' (some g) → K (a.put o.dst (goInt k)) w') :
    if Region.wanted o (yielded ops a.tmps) = true then Oper.wp P o a w K Q else E := by
  have hw : Region.wanted o (yielded ops a.tmps) = true := by simp [Region.wanted, hgd]
  rw [if_pos hw]
  obtain ⟨w', hrun, h2, h3⟩ := run_copy_win (P := P) (w := w) base dT sT o.type e i ht hi hsize g N cap zs hown off dl dc ad sl sc k hk cs hcs hsrc h1 hfit
  unfold Oper.wp
  simp [execOp, ho, resolve, invoke, builtin, hd, hs, hrun, Result.andThen]
  exact h w' h2 h3
end
end

section
def ownsWin (w : World) (base : Nat) (e : TypeId) (size : Nat) (v : Value) (n : Nat) (xs : List Value) : Prop :=
  w.ownsRow base e size v n xs ∨
  ∃ g N pre post c c', w.ownsRow base e size (.slice (some ⟨g, 0, none⟩) N c') N (pre ++ xs ++ post) ∧ xs.length = n * size ∧ v = .slice (some ⟨g, pre.length, none⟩) n c ∧ n ≤ c ∧ c ≤ 9223372036854775807
theorem ownsWin.le {w w' : World} {base : Nat} {e : TypeId} {size : Nat} {v : Value} {n : Nat} {xs : List Value} (h : ownsWin w base e size v n xs) (hl : Le w w') : ownsWin w' base e size v n xs :=
  h.imp (own_le · hl) fun ⟨g, N, pre, post, c, c', h, r⟩ => ⟨g, N, pre, post, c, c', own_le h hl, r⟩
theorem ownsWin.drew {w : World} {base : Nat} {e : TypeId} {size : Nat} {v : Value} {n : Nat} {xs : List Value} (h : ownsWin w base e size v n xs) : ownsWin w.drew base e size v n xs := h.le (Le.refl _).drew
theorem ownsWin.kept {w w' : World} {base : Nat} {e : TypeId} {size : Nat} {v : Value} {n : Nat} {xs : List Value} {row : Option Nat} (h : ownsWin w base e size v n xs) (hg : w.grownBy w' row) (hne : v.ownBlock = none ∨ v.ownBlock ≠ row) : ownsWin w' base e size v n xs := by
  rcases h with h | ⟨g, N, pre, post, c, c', h, hl, rfl, r⟩
  · exact .inl (h.kept hg hne)
  · exact .inr ⟨g, N, pre, post, c, c', h.kept hg hne, hl, rfl, r⟩
theorem ownsWin.lt {w : World} {base : Nat} {e : TypeId} {size : Nat} {v : Value} {n : Nat} {xs : List Value} (h : ownsWin w base e size v n xs) : ∀ k, v.ownBlock = some k → base ≤ k ∧ k < w.heap.size := by
  rcases h with h | ⟨g, N, pre, post, c, c', h, hl, rfl, r⟩
  · exact h.lt
  · exact h.lt
theorem win_mono {w : World} {base base' : Nat} {e : TypeId} {size n : Nat} {v : Value} {xs : List Value} (h : ownsWin w base e size v n xs) (hb : base' ≤ base) : ownsWin w base' e size v n xs :=
  h.imp (own_mono · hb) fun ⟨g, N, pre, post, c, c', h, r⟩ => ⟨g, N, pre, post, c, c', own_mono h hb, r⟩
theorem win_form {w : World} {base size n : Nat} {e : TypeId} {v : Value} {xs : List Value} (h : ownsWin w base e size v n xs) : ∃ A c, v = .slice A n c := by
  rcases h with h | ⟨g, N, pre, post, c, c', h, hl, rfl, r⟩
  · exact own_form h
  · exact ⟨_, _, rfl⟩
theorem Sl.of_win {α : Type} [Enc α] {w : World} {base : Nat} {e : TypeId} {size : Nat} {A : Option Addr} {n cap : Nat} {xs : List α} (h : ownsWin w base e size (.slice A n cap) n (xs.flatMap Enc.cells)) (hs : size = Enc.size α) (hp : 0 < size) (hok : ∀ x ∈ xs, Enc.ok x) : Sl w A n cap xs := by
  rcases h with h | ⟨g, N, pre, post, c, c', h, hl, hv, h1, h2⟩
  · exact Sl.of_own h hs hp hok
  · simp only [Value.slice.injEq, true_and] at hv
    obtain ⟨rfl, rfl⟩ := hv
    rw [flat_len, hs] at hl
    have hlen : xs.length = n := Nat.eq_of_mul_eq_mul_right (by omega) hl
    refine ⟨hlen, h1, h2, hok, fun _ => ⟨g, pre.length, rfl, (h.lt g rfl).2, fun j u hu => ?_⟩⟩
    have hj : j < (xs.flatMap (Enc.cells (α := α))).length := (List.getElem?_eq_some_iff.1 hu).1
    have := h.cellAt (pre.length + j) (by rw [← h.1]; simp only [List.length_append]; omega)
    rw [this, List.append_assoc, List.getElem?_append_right (by omega), Nat.add_sub_cancel_left, List.getElem?_append_left hj]
    exact hu
structure OwdW {α : Type} [Enc α] (T : TypeId) (w0 w : World) (v : Value) (xs : List α) : Prop where
  row : ownsWin w w0.heap.size T (Enc.size α) v xs.length (xs.flatMap Enc.cells)
  ok : ∀ x ∈ xs, Enc.ok x
theorem OwdW.of {α : Type} [Enc α] {T : TypeId} {w0 w : World} {v : Value} {xs : List α} (h : Owd T w0 w v xs) : OwdW T w0 w v xs := ⟨.inl h.row, h.ok⟩
theorem OwdW.le {α : Type} [Enc α] {T : TypeId} {w0 w w' : World} {v : Value} {xs : List α} (h : OwdW T w0 w v xs) (hl : Le w w') : OwdW T w0 w' v xs := ⟨h.row.le hl, h.ok⟩
theorem OwdW.mono {α : Type} [Enc α] {T : TypeId} {w0 w00 w : World} {v : Value} {xs : List α} (h : OwdW T w0 w v xs) (hl : Le w00 w0) : OwdW T w00 w v xs := ⟨win_mono h.row hl.size, h.ok⟩
theorem OwdW.form {α : Type} [Enc α] {T : TypeId} {w0 w : World} {v : Value} {xs : List α} (h : OwdW T w0 w v xs) (hp : 0 < Enc.size α) : ∃ A c, v = .slice A xs.length c ∧ Sl w A xs.length c xs ∧ (∀ k, (Value.slice A xs.length c).ownBlock = some k → w0.heap.size ≤ k ∧ k < w.heap.size) := by
  obtain ⟨A, c, rfl⟩ := win_form h.row
  exact ⟨A, c, rfl, Sl.of_win h.row rfl hp h.ok, fun k hk => h.row.lt k hk⟩
/-- the two parts of a row -/
theorem win_head {α : Type} [Enc α] {T : TypeId} {w0 w : World} {g n : Nat} {xs : List α} (h : w.ownsRow w0.heap.size T (Enc.size α) (.slice (some ⟨g, 0, none⟩) n n) n (xs.flatMap Enc.cells)) (hl : xs.length = n) (hm : n ≤ 2097152) (hok : ∀ x ∈ xs, Enc.ok x) (k : Nat) (hk : k ≤ n) :
    OwdW T w0 w (.slice (some ⟨g, 0, none⟩) k k) (xs.take k) := by
  have e : (xs.take k).length = k := by rw [List.length_take]; omega
  refine ⟨?_, fun x hx => hok x (List.mem_of_mem_take hx)⟩
  rw [e]
  refine .inr ⟨g, n, [], (xs.drop k).flatMap Enc.cells, k, n, ?_, by rw [flat_len, e], rfl, Nat.le_refl _, by omega⟩
  rw [List.nil_append, ← List.flatMap_append, List.take_append_drop]; exact h
theorem win_rest {α : Type} [Enc α] {T : TypeId} {w0 w : World} {g n : Nat} {xs : List α} (h : w.ownsRow w0.heap.size T (Enc.size α) (.slice (some ⟨g, 0, none⟩) n n) n (xs.flatMap Enc.cells)) (hl : xs.length = n) (hm : n ≤ 2097152) (hok : ∀ x ∈ xs, Enc.ok x) (k : Nat) (hk : k ≤ n) {s : Nat} (hs : s = Enc.size α) :
    OwdW T w0 w (.slice (if n = k then some ⟨g, 0, none⟩ else some ⟨g, k * s, none⟩) (n - k) (n - k)) (xs.drop k) := by
  have e : (xs.drop k).length = n - k := by rw [List.length_drop]; omega
  refine ⟨?_, fun x hx => hok x (List.mem_of_mem_drop hx)⟩
  rw [e]
  by_cases hnk : n = k
  · subst hnk
    rw [if_pos rfl]
    have e2 : xs.drop n = [] := List.drop_eq_nil_of_le (by omega)
    rw [e2]
    refine .inr ⟨g, n, [], xs.flatMap Enc.cells, n - n, n, by simpa using h, by simp, rfl, Nat.le_refl _, by omega⟩
  · rw [if_neg hnk]
    have e3 : ((xs.take k).flatMap (Enc.cells (α := α))).length = k * s := by rw [flat_len, List.length_take, Nat.min_eq_left (by omega), hs]
    refine .inr ⟨g, n, (xs.take k).flatMap Enc.cells, [], n - k, n, ?_, by rw [flat_len, e], by rw [e3], Nat.le_refl _, by omega⟩
    rw [List.append_nil, ← List.flatMap_append, List.take_append_drop]; exact h
end

section
instance instOneFrm : EncOne Frm := ⟨by decide, fun x u hu => by simp [Enc.cells] at hu; rcases hu with rfl | rfl <;> rfl⟩
theorem boxF (w : World) (f : Frm) (T : TypeId) : (w.alloc (.cells #[.string f.fn, .int .i64 f.line] T)).cell? ⟨w.heap.size, 0, none⟩ = some (.string f.fn) ∧ (w.alloc (.cells #[.string f.fn, .int .i64 f.line] T)).cell? ⟨w.heap.size, 1, none⟩ = some (.int .i64 f.line) ∧
    w.heap.size < (w.alloc (.cells #[.string f.fn, .int .i64 f.line] T)).heap.size ∧ Le w (w.alloc (.cells #[.string f.fn, .int .i64 f.line] T)) := by
  refine ⟨?_, ?_, by simp, Le.new w _⟩ <;> (rw [World.cell?_alloc_at _ _ _ _ rfl]; rfl)
end

section
theorem Sl.dropK {α : Type} [Enc α] {w : World} {b off n cap : Nat} {xs : List α} (h : Sl w (some ⟨b, off, none⟩) n cap xs) (k : Nat) (hk : k ≤ n) : Sl w (some ⟨b, off + k * Enc.size α, none⟩) (n - k) (cap - k) (xs.drop k) := by
  refine ⟨by rw [List.length_drop, h.len], by have := h.cap_; omega, by have := h.max; omega, fun x hx => h.ok x (List.mem_of_mem_drop hx), fun hn => ?_⟩
  obtain ⟨b', off', e, hb, hc⟩ := h.at_ (by omega)
  simp only [Option.some.injEq, Addr.mk.injEq, and_true] at e
  obtain ⟨rfl, rfl⟩ := e
  refine ⟨b, _, rfl, hb, fun j u hu => ?_⟩
  have e2 : xs.flatMap (Enc.cells (α := α)) = (xs.take k).flatMap Enc.cells ++ (xs.drop k).flatMap Enc.cells := by rw [← List.flatMap_append, List.take_append_drop]
  have e3 : ((xs.take k).flatMap (Enc.cells (α := α))).length = k * Enc.size α := by rw [flat_len, List.length_take, Nat.min_eq_left (by rw [h.len]; exact hk)]
  have := hc (k * Enc.size α + j) u (by rw [e2, List.getElem?_append_right (by omega), e3, Nat.add_sub_cancel_left]; exact hu)
  rw [← Nat.add_assoc] at this; exact this
theorem Sl.cutS {α : Type} [Enc α] {w : World} {ad : Addr} {n cap : Nat} {xs : List α} (h : Sl w (some ad) n cap xs) (k : Nat) (hk : k ≤ n) {s : Nat} (hs : s = k * Enc.size α) : Sl w (some (ad.add s)) (n - k) (cap - k) (xs.drop k) := by
  subst hs
  by_cases hn : n = k
  · subst hn
    have e : xs.drop n = [] := List.drop_eq_nil_of_le (by rw [h.len]; exact Nat.le_refl _)
    rw [e, Nat.sub_self]
    exact Sl.nil _ _ _ (by have := h.max; omega)
  · obtain ⟨b, off, e, _⟩ := h.at_ (by omega)
    simp only [Option.some.injEq] at e
    subst e
    have e : (⟨b, off, none⟩ : Addr).add (k * Enc.size α) = ⟨b, off + k * Enc.size α, none⟩ := by
      unfold Addr.add; split
      · next h => simp_all
      · rfl
    rw [e]; exact h.dropK k hk
theorem Sl.none_nil {α : Type} [Enc α] {w : World} {n cap : Nat} {xs : List α} (h : Sl w none n cap xs) : xs = [] := by
  rcases Nat.eq_zero_or_pos n with h0 | h0
  · exact List.eq_nil_of_length_eq_zero (by rw [h.len, h0])
  · obtain ⟨b, off, e, _⟩ := h.at_ h0; cases e
theorem Sl.cutE {α : Type} [Enc α] {w : World} {A : Option Addr} {n cap : Nat} {xs : List α} (h : Sl w A n cap xs) (B : Option Addr) (hk : n ≤ cap) : Sl w B 0 0 (xs.drop cap) := by
  have e : xs.drop cap = [] := List.drop_eq_nil_of_le (by rw [h.len]; exact hk)
  rw [e]
  exact Sl.nil _ _ _ (by omega)

def cutP (g n k : Nat) : Option Addr := if n = k then some ⟨g, 0, none⟩ else some ⟨g, k * 2, none⟩
end

section
def idxS : List ByteArray → ByteArray → Int → Int
  | [], _, _ => -1
  | x :: r, s, j => if x = s then j else idxS r s (j + 1)
theorem idxS_at {L : List ByteArray} {k : Nat} (h : k < L.length) (s : ByteArray) (j : Int) : idxS (L.drop k) s j = if L[k] = s then j else idxS (L.drop (k + 1)) s (j + 1) := by
  rw [List.drop_eq_getElem_cons h]; rfl
theorem idxS_end {L : List ByteArray} {k : Nat} (h : ¬ k < L.length) (s : ByteArray) (j : Int) : idxS (L.drop k) s j = -1 := by
  rw [List.drop_eq_nil_of_le (by omega)]; rfl
def hasS (L : List ByteArray) (s : ByteArray) : Bool := decide (0 ≤ idxS L s 0)
theorem hasS_of {L : List ByteArray} {s : ByteArray} {j : Int} (h : idxS L s 0 = j) : hasS L s = decide (0 ≤ j) := by unfold hasS; rw [h]
def frm0 : Frm := ⟨ByteArray.empty, 0⟩
def hidK (xs : List Frm) (ns : List ByteArray) : Nat → List Frm
  | 0 => []
  | k + 1 => hidK xs ns k ++ (if hasS ns (xs.getD k frm0).fn then [] else [xs.getD k frm0])
theorem hidK_no {xs : List Frm} {ns : List ByteArray} {k : Nat} (hk : k < xs.length) (h : hasS ns xs[k].fn = true) : hidK xs ns (k + 1) = hidK xs ns k := by
  rw [hidK, List.getD_eq_getElem?_getD, List.getElem?_eq_getElem hk, Option.getD_some, h, if_pos rfl, List.append_nil]
theorem hidK_yes {xs : List Frm} {ns : List ByteArray} {k : Nat} (hk : k < xs.length) (h : hasS ns xs[k].fn = false) : hidK xs ns (k + 1) = hidK xs ns k ++ [xs[k]] := by
  rw [hidK, List.getD_eq_getElem?_getD, List.getElem?_eq_getElem hk, Option.getD_some, h, if_neg (by simp)]
theorem hidK_len (xs : List Frm) (ns : List ByteArray) : ∀ k, (hidK xs ns k).length ≤ k
  | 0 => Nat.le_refl _
  | k + 1 => by
    have := hidK_len xs ns k
    unfold hidK
    split <;> simp <;> omega
theorem hidK_mem (xs : List Frm) (ns : List ByteArray) : ∀ k, k ≤ xs.length → ∀ x ∈ hidK xs ns k, x ∈ xs
  | 0, _, x, h => nomatch h
  | k + 1, hk, x, h => by
    have hk' : k < xs.length := hk
    cases he : hasS ns xs[k].fn
    · rw [hidK_yes hk' he] at h
      rcases List.mem_append.1 h with h | h
      · exact hidK_mem xs ns k (by omega) x h
      · simp at h; subst h; exact List.getElem_mem hk'
    · rw [hidK_no hk' he] at h
      exact hidK_mem xs ns k (by omega) x h
def hideX (xs : List Frm) (ns : List ByteArray) : List Frm := cond (vTr xs) (hidK xs ns xs.length) []
theorem hideX_of {xs : List Frm} {ns : List ByteArray} {p : Bool} (h : vTr xs = p) : hideX xs ns = cond p (hidK xs ns xs.length) [] := by unfold hideX; rw [h]
theorem hideX_len (xs : List Frm) (ns : List ByteArray) : (hideX xs ns).length ≤ 1048576 := by
  cases h : vTr xs
  · rw [hideX_of h]; simp
  · have := vTr_small h
    have h2 := hidK_len xs ns xs.length
    rw [hideX_of h]; show (hidK xs ns xs.length).length ≤ _; omega

end

section
structure Rwf where
  fn : ByteArray
  line : Int
  times : Int
instance instEncRwf : Enc Rwf := ⟨3, fun x => [.string x.fn, .int .i64 x.line, .int .i64 x.times], fun x => x.fn.size ≤ 9223372036854775807 ∧ -9223372036854775808 ≤ x.line ∧ x.line ≤ 9223372036854775807 ∧ -9223372036854775808 ≤ x.times ∧ x.times ≤ 9223372036854775807, fun _ => rfl⟩
theorem Sl.rwf_at {w : World} {A : Option Addr} {n cap : Nat} {xs : List Rwf} (h : Sl w A n cap xs) {k : Nat} (hk : k < xs.length) :
    ∃ b off, A = some ⟨b, off, none⟩ ∧ b < w.heap.size ∧ w.cell? ⟨b, off + k * 3, none⟩ = some (.string xs[k].fn) ∧ w.cell? ⟨b, off + k * 3 + 1, none⟩ = some (.int .i64 xs[k].line) ∧ w.cell? ⟨b, off + k * 3 + 2, none⟩ = some (.int .i64 xs[k].times) ∧ (xs[k].fn.size ≤ 9223372036854775807 ∧ -9223372036854775808 ≤ xs[k].line ∧ xs[k].line ≤ 9223372036854775807 ∧ -9223372036854775808 ≤ xs[k].times ∧ xs[k].times ≤ 9223372036854775807) := by
  obtain ⟨b, off, e, hb, hc⟩ := h.cells_ hk
  have h0 := hc 0 (by decide) _ rfl
  have h1 := hc 1 (by decide) _ rfl
  have h2 := hc 2 (by decide) _ rfl
  exact ⟨b, off, e, hb, by simpa [Enc.size] using h0, by simpa [Enc.size, Nat.add_assoc] using h1, by simpa [Enc.size, Nat.add_assoc] using h2, h.ok xs[k] (List.getElem_mem hk)⟩
theorem flat_rwf_fn : ∀ (xs : List Rwf) (k : Nat) (h : k < xs.length) (z : ByteArray), (xs.flatMap Enc.cells).set (k * 3) (.string z) = (xs.set k {xs[k] with fn := z}).flatMap Enc.cells
  | x :: r, 0, _, z => rfl
  | x :: r, k + 1, h, z => by
    have ih := flat_rwf_fn r k (by simpa using h) z
    have e : (k + 1) * 3 = k * 3 + 1 + 1 + 1 := by omega
    rw [e]
    show Value.string x.fn :: Value.int .i64 x.line :: Value.int .i64 x.times :: (r.flatMap Enc.cells).set (k * 3) (.string z) = _
    rw [ih]; rfl
theorem flat_rwf_line : ∀ (xs : List Rwf) (k : Nat) (h : k < xs.length) (z : Int), (xs.flatMap Enc.cells).set (k * 3 + 1) (.int .i64 z) = (xs.set k {xs[k] with line := z}).flatMap Enc.cells
  | x :: r, 0, _, z => rfl
  | x :: r, k + 1, h, z => by
    have ih := flat_rwf_line r k (by simpa using h) z
    have e : (k + 1) * 3 + 1 = k * 3 + 1 + 1 + 1 + 1 := by omega
    rw [e]
    show Value.string x.fn :: Value.int .i64 x.line :: Value.int .i64 x.times :: (r.flatMap Enc.cells).set (k * 3 + 1) (.int .i64 z) = _
    rw [ih]; rfl
theorem flat_rwf_times : ∀ (xs : List Rwf) (k : Nat) (h : k < xs.length) (z : Int), (xs.flatMap Enc.cells).set (k * 3 + 2) (.int .i64 z) = (xs.set k {xs[k] with times := z}).flatMap Enc.cells
  | x :: r, 0, _, z => rfl
  | x :: r, k + 1, h, z => by
    have ih := flat_rwf_times r k (by simpa using h) z
    have e : (k + 1) * 3 + 2 = k * 3 + 2 + 1 + 1 + 1 := by omega
    rw [e]
    show Value.string x.fn :: Value.int .i64 x.line :: Value.int .i64 x.times :: (r.flatMap Enc.cells).set (k * 3 + 2) (.int .i64 z) = _
    rw [ih]; rfl
end

section
theorem stk3 (w : World) (a r o : Array Value) (T U X : TypeId) :
    (∀ j, (((w.alloc (.cells a T)).alloc (.cells r U)).alloc (.cells o X)).cell? ⟨w.heap.size, j, none⟩ = a[j]?) ∧ (∀ j, (((w.alloc (.cells a T)).alloc (.cells r U)).alloc (.cells o X)).cell? ⟨w.heap.size + 1, j, none⟩ = r[j]?) ∧
    (∀ j, (((w.alloc (.cells a T)).alloc (.cells r U)).alloc (.cells o X)).cell? ⟨w.heap.size + 1 + 1, j, none⟩ = o[j]?) ∧ (∀ j, (((w.alloc (.cells a T)).alloc (.cells r U)).alloc (.cells o X)).frozen? ⟨w.heap.size + 1, j, none⟩ = false) ∧
    (∀ j, (((w.alloc (.cells a T)).alloc (.cells r U)).alloc (.cells o X)).frozen? ⟨w.heap.size + 1 + 1, j, none⟩ = false) ∧ w.heap.size + 1 + 1 < (((w.alloc (.cells a T)).alloc (.cells r U)).alloc (.cells o X)).heap.size ∧
    Le w (((w.alloc (.cells a T)).alloc (.cells r U)).alloc (.cells o X)) := by
  refine ⟨fun j => ?_, fun j => ?_, fun j => ?_, fun j => ?_, fun j => ?_, by simp, ((Le.new w _).alloc _).alloc _⟩
  · rw [World.cell?_alloc_past _ _ _ (by simp; omega), World.cell?_alloc_past _ _ _ (by simp), World.cell?_alloc_at _ _ _ _ rfl]
  · rw [World.cell?_alloc_past _ _ _ (by simp), World.cell?_alloc_at _ _ _ _ (by simp)]
  · rw [World.cell?_alloc_at _ _ _ _ (by simp)]
  · rw [World.frozen?_alloc_past _ _ _ (by simp), World.frozen?_alloc_at _ _ _ _ (by simp)]
  · rw [World.frozen?_alloc_at _ _ _ _ (by simp)]
theorem stk2 (w : World) (a r : Array Value) (T U : TypeId) :
    (∀ j, ((w.alloc (.cells a T)).alloc (.cells r U)).cell? ⟨w.heap.size, j, none⟩ = a[j]?) ∧ (∀ j, ((w.alloc (.cells a T)).alloc (.cells r U)).cell? ⟨w.heap.size + 1, j, none⟩ = r[j]?) ∧
    w.heap.size + 1 < ((w.alloc (.cells a T)).alloc (.cells r U)).heap.size ∧ Le w ((w.alloc (.cells a T)).alloc (.cells r U)) := by
  refine ⟨fun j => ?_, fun j => ?_, by simp, (Le.new w _).alloc _⟩
  · rw [World.cell?_alloc_past _ _ _ (by simp), World.cell?_alloc_at _ _ _ _ rfl]
  · rw [World.cell?_alloc_at _ _ _ _ (by simp)]
def mRwf (k : Int) (i : Nat) : Rwf := ⟨mTxt (k + 3 * i), k + 3 * i + 1, k + 3 * i + 1 + 1⟩

theorem mRwf_ok {q : Int} (h0 : 1 ≤ q) (h1 : q ≤ 1000000000) {n : Nat} (hn : n ≤ 1048576) : ∀ x ∈ (List.range n).map (mRwf q), Enc.ok x := by
  intro x hx
  simp at hx
  obtain ⟨i, hi, rfl⟩ := hx
  exact ⟨mTxt_size (by omega) (by omega), by show _ ≤ _; simp only [mRwf]; omega, by show _ ≤ _; simp only [mRwf]; omega, by show _ ≤ _; simp only [mRwf]; omega, by show _ ≤ _; simp only [mRwf]; omega⟩

end
end Go.Proofs.YtnpcmlcigeccmaaDoor
