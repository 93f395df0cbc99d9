/- one text of TrK, TrL, DM, TtP, TtA -/
import Derived.Test.YtnpcmlcigeccmaaDoorCv7
import Derived.Test.YtnpcmlcigeccmaaDoorCv2
import Derived.Test.YtnpcmlcigeccmaaDoorCv6
import Derived.Test.YtnpcmlcigeccmaaDoorCv4
import Derived.Test.YtnpcmlcigeccmaaDoorCv1
import Derived.Lib.IndexMore
import Derived.Lib.IndexBytes
import Derived.Deep.RegionHeld3
namespace Go.Proofs.YtnpcmlcigeccmaaDoor
open Go.RowKit
set_option linter.unusedVariables false
section
instance instOneRwf : EncOne Rwf := ⟨by decide, fun x u hu => by simp [Enc.cells] at hu; rcases hu with rfl | rfl | rfl <;> rfl⟩
def rwf0 : Rwf := ⟨ByteArray.empty, 0, 0⟩
def lastR (rs : List Rwf) : Rwf := rs.getD (rs.length - 1) rwf0
def bump (r : Rwf) : Rwf := {r with times := r.times + 1}
def sameR (rs : List Rwf) (f : Frm) : Prop := 0 < rs.length ∧ (lastR rs).fn = f.fn ∧ (lastR rs).line = f.line
instance (rs : List Rwf) (f : Frm) : Decidable (sameR rs f) := inferInstanceAs (Decidable (_ ∧ _ ∧ _))
def pushR (rs : List Rwf) (f : Frm) : List Rwf := if sameR rs f then rs.set (rs.length - 1) (bump (lastR rs)) else rs ++ [⟨f.fn, f.line, 1⟩]
def foldK (xs : List Frm) : Nat → List Rwf
  | 0 => []
  | k + 1 => pushR (foldK xs k) (xs.getD k frm0)
theorem foldK_at {xs : List Frm} {k : Nat} (hk : k < xs.length) : foldK xs (k + 1) = pushR (foldK xs k) xs[k] := by
  rw [foldK, List.getD_eq_getElem?_getD, List.getElem?_eq_getElem hk, Option.getD_some]
theorem push_yes {rs : List Rwf} {f : Frm} (h : sameR rs f) : pushR rs f = rs.set (rs.length - 1) (bump (lastR rs)) := if_pos h
theorem push_no {rs : List Rwf} {f : Frm} (h : ¬ sameR rs f) : pushR rs f = rs ++ [⟨f.fn, f.line, 1⟩] := if_neg h
theorem push_len (rs : List Rwf) (f : Frm) : 0 < (pushR rs f).length ∧ rs.length ≤ (pushR rs f).length ∧ (pushR rs f).length ≤ rs.length + 1 := by
  by_cases h : sameR rs f
  · rw [push_yes h]; have := h.1; simp; omega
  · rw [push_no h]; simp
theorem lastR_at {rs : List Rwf} (h : rs.length - 1 < rs.length) : lastR rs = rs[rs.length - 1] := by
  unfold lastR; rw [List.getD_eq_getElem?_getD, List.getElem?_eq_getElem h, Option.getD_some]
theorem push_last (rs : List Rwf) (f : Frm) : (lastR (pushR rs f)).fn = f.fn ∧ (lastR (pushR rs f)).line = f.line := by
  by_cases h : sameR rs f
  · have h0 := h.1
    rw [push_yes h]
    have e : lastR (rs.set (rs.length - 1) (bump (lastR rs))) = bump (lastR rs) := by
      unfold lastR
      rw [List.getD_eq_getElem?_getD, List.length_set, List.getElem?_set_self (by omega), Option.getD_some]
    rw [e]; exact h.2
  · rw [push_no h]
    have e : lastR (rs ++ [⟨f.fn, f.line, 1⟩]) = ⟨f.fn, f.line, 1⟩ := by
      unfold lastR
      rw [List.getD_eq_getElem?_getD, List.length_append, List.getElem?_append_right (by simp)]
      simp
    rw [e]; exact ⟨rfl, rfl⟩
theorem foldK_len (xs : List Frm) : ∀ k, (foldK xs k).length ≤ k ∧ (0 < k → 0 < (foldK xs k).length)
  | 0 => ⟨Nat.le_refl _, fun h => by omega⟩
  | k + 1 => by
    have h := foldK_len xs k
    have h2 := push_len (foldK xs k) (xs.getD k frm0)
    unfold foldK
    exact ⟨by omega, fun _ => h2.1⟩
theorem foldK_last {xs : List Frm} {k : Nat} (hk : k < xs.length) : (lastR (foldK xs (k + 1))).fn = xs[k].fn ∧ (lastR (foldK xs (k + 1))).line = xs[k].line := by
  rw [foldK_at hk]; exact push_last _ _
theorem push_mem {rs : List Rwf} {f : Frm} {r : Rwf} (h : r ∈ pushR rs f) : r ∈ rs ∨ (sameR rs f ∧ r = bump (lastR rs)) ∨ r = ⟨f.fn, f.line, 1⟩ := by
  by_cases hs : sameR rs f
  · rw [push_yes hs] at h
    rcases List.mem_or_eq_of_mem_set h with h | h
    · exact .inl h
    · exact .inr (.inl ⟨hs, h⟩)
  · rw [push_no hs] at h
    rcases List.mem_append.1 h with h | h
    · exact .inl h
    · simp at h; exact .inr (.inr h)
theorem lastR_mem {rs : List Rwf} (h : 0 < rs.length) : lastR rs ∈ rs := by
  rw [lastR_at (by omega)]; exact List.getElem_mem _
theorem foldK_times (xs : List Frm) : ∀ k, ∀ r ∈ foldK xs k, 1 ≤ r.times ∧ r.times ≤ k
  | 0, r, h => nomatch h
  | k + 1, r, h => by
    have ih := foldK_times xs k
    rcases push_mem h with h | ⟨hs, rfl⟩ | rfl
    · have := ih r h; omega
    · have := ih _ (lastR_mem hs.1)
      show 1 ≤ (lastR _).times + 1 ∧ (lastR _).times + 1 ≤ _
      omega
    · show (1 : Int) ≤ 1 ∧ (1 : Int) ≤ _; omega
theorem foldK_ok (xs : List Frm) (hok : ∀ x ∈ xs, Enc.ok x) : ∀ k, k ≤ xs.length → k ≤ 9223372036854775807 → ∀ r ∈ foldK xs k, Enc.ok r
  | 0, _, _, r, h => nomatch h
  | k + 1, hk, hm, r, h => by
    have ih := foldK_ok xs hok k (by omega) (by omega)
    have ht := foldK_times xs (k + 1) r h
    have hk' : k < xs.length := hk
    rw [foldK_at hk'] at h
    have hx := hok xs[k] (List.getElem_mem hk')
    rcases push_mem h with h | ⟨hs, rfl⟩ | rfl
    · exact ih r h
    · have h3 := ih _ (lastR_mem hs.1)
      exact ⟨h3.1, h3.2.1, h3.2.2.1, by omega, by omega⟩
    · exact ⟨hx.1, hx.2.1, hx.2.2, by omega, by omega⟩

theorem row_cells {w : World} {base g m c : Nat} {rs : List Rwf} {T : TypeId} (h : w.ownsRow base T 3 (.slice (some ⟨g, 0, none⟩) (m + 1) c) (m + 1) (rs.flatMap Enc.cells)) (hm : rs.length = m + 1) :
    w.cell? ⟨g, m * 3, none⟩ = some (.string (lastR rs).fn) ∧ w.cell? ⟨g, m * 3 + 1, none⟩ = some (.int .i64 (lastR rs).line) ∧ w.cell? ⟨g, m * 3 + 2, none⟩ = some (.int .i64 (lastR rs).times) := by
  have hk : m < rs.length := by omega
  have e : lastR rs = rs[m] := by
    unfold lastR; rw [hm, Nat.add_sub_cancel, List.getD_eq_getElem?_getD, List.getElem?_eq_getElem hk, Option.getD_some]
  rw [e]
  refine ⟨?_, ?_, ?_⟩
  · rw [h.cellAt _ (by omega)]; exact flat_at rs m hk 0 (by decide)
  · rw [h.cellAt _ (by omega)]; exact flat_at rs m hk 1 (by decide)
  · rw [h.cellAt _ (by omega)]; exact flat_at rs m hk 2 (by decide)
theorem row_bump {w : World} {base g m c : Nat} {rs : List Rwf} {f : Frm} {T : TypeId} (h : w.ownsRow base T 3 (.slice (some ⟨g, 0, none⟩) (m + 1) c) (m + 1) (rs.flatMap Enc.cells)) (hm : rs.length = m + 1) (hs : sameR rs f) :
    (w.setCell ⟨g, m * 3 + 2, none⟩ (.int .i64 ((lastR rs).times + 1))).ownsRow base T 3 (.slice (some ⟨g, 0, none⟩) (m + 1) c) (pushR rs f).length ((pushR rs f).flatMap Enc.cells) := by
  have hk : m < rs.length := by omega
  have e : lastR rs = rs[m] := by
    unfold lastR; rw [hm, Nat.add_sub_cancel, List.getD_eq_getElem?_getD, List.getElem?_eq_getElem hk, Option.getD_some]
  have h1 := (h.stored (m * 3 + 2) (.int .i64 ((lastR rs).times + 1))).1
  rw [flat_rwf_times rs m hk] at h1
  have e2 : pushR rs f = rs.set m {rs[m] with times := (lastR rs).times + 1} := by
    rw [push_yes hs, hm, Nat.add_sub_cancel, e]; rfl
  rw [e2, List.length_set, hm]; exact h1

def foldL (xs : List Frm) : List Rwf := foldK xs xs.length

end

section
def foldX (xs : List Frm) : List Rwf := cond (vTr xs) (foldL xs) []
theorem foldX_of {xs : List Frm} {p : Bool} (h : vTr xs = p) : foldX xs = cond p (foldL xs) [] := by unfold foldX; rw [h]
theorem foldX_len (xs : List Frm) : (foldX xs).length ≤ 1048576 := by
  cases h : vTr xs
  · rw [foldX_of h]; simp
  · have := vTr_small h
    have h2 := (foldK_len xs xs.length).1
    rw [foldX_of h]; show (foldK xs xs.length).length ≤ _; omega
end

section
def FrmOut (g p : Nat) (A : Option Addr) (n cap : Nat) (bs : List By) (w : World) (e : Ending) (w' : World) : Prop :=
  ∃ f : Frm, e = .returned (.agg #[.string f.fn, .int .i64 f.line]) ∧ Enc.ok f ∧ Rd w' g (p + 2) A n cap bs ∧ Gx g w w'
def fourS : List ByteArray := [⟨#[102]⟩, ⟨#[103]⟩, ⟨#[109, 97, 105, 110]⟩, ⟨#[102]⟩]
theorem fourS_ok : ∀ x ∈ fourS, Enc.ok x := by
  intro x hx; simp [fourS] at hx
  show x.size ≤ _
  rcases hx with rfl | rfl | rfl | rfl <;> decide
def threeS : List ByteArray := [⟨#[]⟩, ⟨#[70]⟩, ⟨#[116, 111, 111, 108, 111, 110, 103]⟩]
theorem threeS_ok : ∀ x ∈ threeS, Enc.ok x := by
  intro x hx; simp [threeS] at hx
  show x.size ≤ _
  rcases hx with rfl | rfl | rfl <;> decide
end

section
/-- the bytes of a text, and the text of bytes -/
def bl (s : ByteArray) : List UInt8 := s.data.toList
def tb (l : List UInt8) : ByteArray := ⟨l.toArray⟩
theorem tb_bl (s : ByteArray) : tb (bl s) = s := rfl
theorem bl_tb (l : List UInt8) : bl (tb l) = l := rfl
theorem bl_app (a b : ByteArray) : bl (a ++ b) = bl a ++ bl b := by
  unfold bl; rw [ByteArray.data_append, Array.toList_append]
theorem bl_len (s : ByteArray) : (bl s).length = s.size := rfl
theorem bl_inj {a b : ByteArray} (h : bl a = bl b) : a = b := by rw [← tb_bl a, ← tb_bl b, h]
theorem bl_nil : bl ByteArray.empty = [] := rfl

/-- cuts at a byte -/
theorem indexByte_skip {c : UInt8} : ∀ {a : List UInt8}, c ∉ a → ∀ r, Lib.indexByte (a ++ c :: r) c = a.length
  | [], _, r => by simp [Lib.indexByte]
  | x :: a, h, r => by
    have hx : (x == c) = false := by
      rw [beq_eq_false_iff_ne]; rintro rfl; exact h (by simp)
    have ih := indexByte_skip (a := a) (fun q => h (List.mem_cons_of_mem _ q)) r
    show Lib.indexByte (x :: (a ++ c :: r)) c = _
    rw [Lib.indexByte, ih, hx]
    have : ((a.length : Int) == -1) = false := by rw [beq_eq_false_iff_ne]; omega
    rw [this]
    simp
theorem indexByte_miss {c : UInt8} : ∀ {a : List UInt8}, c ∉ a → Lib.indexByte a c = -1
  | [], _ => rfl
  | x :: a, h => by
    have hx : (x == c) = false := by
      rw [beq_eq_false_iff_ne]; rintro rfl; exact h (by simp)
    rw [Lib.indexByte, indexByte_miss (a := a) (fun q => h (List.mem_cons_of_mem _ q)), hx]
    rfl
theorem cut_line {c : UInt8} {a : List UInt8} (h : c ∉ a) (r : List UInt8) : Lib.cut (a ++ c :: r) [c] = (a, r, true) := by
  unfold Lib.cut
  rw [Lib.index_one, indexByte_skip h r, if_pos (by omega)]
  simp
theorem cut_one {c : UInt8} {a : List UInt8} (h : c ∉ a) : Lib.cut a [c] = (a, [], false) := by
  unfold Lib.cut
  rw [Lib.index_one, indexByte_miss h, if_neg (by omega)]
/-- a text is one piece, or one ahead of the byte and what is behind it -/
theorem split_or (c : UInt8) : ∀ (s : List UInt8), (c ∉ s) ∨ ∃ a r, s = a ++ c :: r ∧ c ∉ a
  | [] => .inl (by simp)
  | x :: s => by
    by_cases hx : x = c
    · exact .inr ⟨[], s, by rw [hx]; rfl, by simp⟩
    · rcases split_or c s with h | ⟨a, r, e, h⟩
      · left; intro hm
        rcases List.mem_cons.1 hm with e | e
        · exact hx e.symm
        · exact h e
      · right
        refine ⟨x :: a, r, by rw [e]; rfl, fun hm => ?_⟩
        rcases List.mem_cons.1 hm with e2 | e2
        · exact hx e2.symm
        · exact h e2
theorem cut_shorter (c : UInt8) {s : List UInt8} (h : s ≠ []) : (Lib.cut s [c]).2.1.length < s.length := by
  rcases split_or c s with h1 | ⟨a, r, e, h1⟩
  · rw [cut_one h1]
    show 0 < s.length
    exact List.length_pos_iff.2 h
  · rw [e, cut_line h1]
    simp; omega
theorem cut_fst_len (c : UInt8) (s : List UInt8) : (Lib.cut s [c]).1.length ≤ s.length ∧ (Lib.cut s [c]).2.1.length ≤ s.length := by
  rcases split_or c s with h1 | ⟨a, r, e, h1⟩
  · rw [cut_one h1]; exact ⟨Nat.le_refl _, Nat.zero_le _⟩
  · rw [e, cut_line h1]; simp; omega
/-- the pieces between the bytes of a kind -/
def splitL (c : UInt8) : List UInt8 → List (List UInt8)
  | [] => [[]]
  | x :: r => if x = c then [] :: splitL c r else
    match splitL c r with
    | [] => [[x]]
    | h :: t => (x :: h) :: t
theorem splitL_ne (c : UInt8) (s : List UInt8) : splitL c s ≠ [] := by
  cases s with
  | nil => simp [splitL]
  | cons x r =>
    rw [splitL]
    split
    · simp
    · split <;> simp
theorem splitL_skip {c : UInt8} : ∀ {a : List UInt8}, c ∉ a → ∀ s, ∃ h t, splitL c s = h :: t ∧ splitL c (a ++ s) = (a ++ h) :: t
  | [], _, s => by
    cases h : splitL c s with
    | nil => exact absurd h (splitL_ne c s)
    | cons x r => exact ⟨x, r, rfl, by simpa using h⟩
  | x :: r, hn, s => by
    have hx : x ≠ c := fun e => hn (by simp [e])
    obtain ⟨h, t, e1, e2⟩ := splitL_skip (a := r) (fun hq => hn (List.mem_cons_of_mem _ hq)) s
    refine ⟨h, t, e1, ?_⟩
    show splitL c (x :: (r ++ s)) = _
    rw [splitL, if_neg hx, e2]; rfl
theorem splitL_line {c : UInt8} {a : List UInt8} (h : c ∉ a) (s : List UInt8) : splitL c (a ++ c :: s) = a :: splitL c s := by
  obtain ⟨x, t, e1, e2⟩ := splitL_skip h (c :: s)
  rw [splitL, if_pos rfl] at e1
  injection e1 with e1 e3
  rw [e2, ← e1, ← e3]; simp
theorem splitL_one {c : UInt8} {a : List UInt8} (h : c ∉ a) : splitL c a = [a] := by
  obtain ⟨x, t, e1, e2⟩ := splitL_skip h []
  simp [splitL] at e1
  rw [e1.1, e1.2] at e2
  simpa using e2
theorem splitL_len (c : UInt8) (s : List UInt8) : (splitL c s).length = s.count c + 1 := by
  induction s with
  | nil => rfl
  | cons x r ih =>
    rw [splitL]
    by_cases hx : x = c
    · subst hx
      rw [if_pos rfl, List.length_cons, ih, List.count_cons_self]
    · rw [if_neg hx]
      have e : (x :: r).count c = r.count c := by rw [List.count_cons_of_ne hx]
      rw [e, ← ih]
      cases h : splitL c r with
      | nil => exact absurd h (splitL_ne c r)
      | cons y t => rfl

/-- the line of a class, the lines of several, the text of a tree -/
def lnB (xs : List Cls) (c : Cls) : List UInt8 := cond (decide (0 ≤ c.parent)) (bl c.name ++ 32 :: bl (match xs[c.parent.toNat]? with | some d => d.name | none => ByteArray.empty)) (bl c.name)
def txB (xs : List Cls) : List Cls → List UInt8
  | [] => []
  | c :: r => lnB xs c ++ 10 :: txB xs r
def treeB (xs : List Cls) : List UInt8 := txB xs xs
theorem txB_at {xs ys : List Cls} {k : Nat} (h : k < ys.length) : txB xs (ys.drop k) = lnB xs ys[k] ++ 10 :: txB xs (ys.drop (k + 1)) := by
  rw [List.drop_eq_getElem_cons h]; rfl
theorem txB_end {xs ys : List Cls} {k : Nat} (h : ¬ k < ys.length) : txB xs (ys.drop k) = [] := by
  rw [List.drop_eq_nil_of_le (by omega)]; rfl
theorem lowers_rng : ∀ (l : List UInt8), lowers l = true → ∀ x ∈ l, 97 ≤ x.toNat
  | [], _, x, hx => by simp at hx
  | c :: r, h, x, hx => by
    unfold lowers at h
    simp only [Bool.and_eq_true, decide_eq_true_eq] at h
    rcases List.mem_cons.1 hx with rfl | hx
    · exact h.1.1
    · exact lowers_rng r h.2 x hx
theorem name_rng {s : ByteArray} (h : okName s = true) : (∀ x ∈ bl s, 97 ≤ x.toNat) ∧ 1 ≤ (bl s).length ∧ (bl s).length ≤ 6 := by
  unfold okName at h
  simp only [Bool.and_eq_true, decide_eq_true_eq] at h
  refine ⟨lowers_rng _ h.1.1, ?_, ?_⟩
  · rw [bl_len]; have := h.1.2; omega
  · rw [bl_len]; have := h.2; omega
theorem not_mem_name {s : ByteArray} (h : okName s = true) {c : UInt8} (hc : c.toNat < 97) : c ∉ bl s := fun hm => by
  have := (name_rng h).1 c hm; omega
/-- the line of a class of a valid tree -/
theorem lnB_root {xs : List Cls} (g : Good xs) (h : 0 < xs.length) : lnB xs xs[0] = bl xs[0].name := by
  unfold lnB; rw [g.root h]; rfl
theorem lnB_up {xs : List Cls} (g : Good xs) {k : Nat} (h : k < xs.length) (h0 : 0 < k) : ∃ p : Nat, ∃ hp : p < k, xs[k].parent = (p : Int) ∧ lnB xs xs[k] = bl xs[k].name ++ 32 :: bl (xs[p]'(by omega)).name := by
  have a := g.par k h h0
  obtain ⟨p, hp⟩ := Int.eq_ofNat_of_zero_le a.1
  refine ⟨p, by omega, hp, ?_⟩
  unfold lnB
  rw [decide_eq_true a.1, hp, Int.toNat_natCast, List.getElem?_eq_getElem (by omega)]
  rfl
theorem lnB_nl {xs : List Cls} (g : Good xs) {k : Nat} (h : k < xs.length) : (10 : UInt8) ∉ lnB xs xs[k] ∧ (lnB xs xs[k]).length ≤ 13 := by
  have hn := g.name k h
  have hl := (name_rng hn).2.2
  rcases Nat.eq_zero_or_pos k with h0 | h0
  · subst h0
    rw [lnB_root g h]
    exact ⟨not_mem_name hn (by decide), by omega⟩
  · obtain ⟨p, hp, _, e⟩ := lnB_up g h h0
    have hn2 := g.name p (by omega)
    have hl2 := (name_rng hn2).2.2
    rw [e]
    refine ⟨fun hm => ?_, by simp; omega⟩
    rcases List.mem_append.1 hm with hm | hm
    · exact not_mem_name hn (by decide) hm
    · rcases List.mem_cons.1 hm with e2 | hm
      · exact absurd e2 (by decide)
      · exact not_mem_name hn2 (by decide) hm
theorem txB_len {xs : List Cls} (g : Good xs) : ∀ (m k : Nat), k + m = xs.length → (txB xs (xs.drop k)).length ≤ 14 * m := by
  intro m
  induction m with
  | zero => intro k hk; rw [txB_end (by omega)]; simp
  | succ m ih =>
    intro k hk
    have := ih (k + 1) (by omega)
    have h2 := (lnB_nl g (k := k) (by omega)).2
    rw [txB_at (by omega)]
    simp; omega
theorem treeB_len {xs : List Cls} (g : Good xs) : (treeB xs).length ≤ 112 := by
  have := txB_len g xs.length 0 (by omega)
  have := g.hi
  rw [List.drop_zero] at *
  unfold treeB; omega
/-- trees of texts: the program's -/
def pcI (acc : List Cls) (line : List UInt8) : Cls := ⟨tb (Lib.cut line [32]).1, findN acc (tb (Lib.cut line [32]).2.1) 0⟩
def pI : Nat → List UInt8 → List Cls → Option (List Cls)
  | 0, _, acc => some acc
  | m + 1, rest, acc => if rest = [] then some acc else if acc.length = 8 then none else pI m (Lib.cut rest [10]).2.1 (acc ++ [pcI acc (Lib.cut rest [10]).1])
/-- trees of texts: the model's -/
def pcS (acc : List Cls) (line : List UInt8) : Cls :=
  match splitL 32 line with
  | [a, b] => ⟨tb a, findN acc (tb b) 0⟩
  | a :: _ => ⟨tb a, -1⟩
  | [] => ⟨ByteArray.empty, -1⟩
def pS : List (List UInt8) → List Cls → List Cls
  | [], acc => acc
  | [_], acc => acc
  | l :: r, acc => pS r (acc ++ [pcS acc l])
theorem findN_take {xs : List Cls} (g : Good xs) {p k : Nat} (hp : p < k) (hk : k ≤ xs.length) : findN (xs.take k) (xs[p]'(by omega)).name 0 = (p : Int) := by
  rcases findN_spec (xs[p]'(by omega)).name (xs.take k) 0 with ⟨_, h2⟩ | ⟨j, hj, h1, h2, h3⟩
  · exact absurd (by rw [List.getElem_take]) (h2 p (by rw [List.length_take]; omega))
  · rw [List.length_take] at hj
    rw [List.getElem_take] at h2
    have e := findN_here g (k := p) (by omega)
    have e2 := findN_here g (k := j) (by omega)
    rw [h2] at e2
    rw [e] at e2
    rw [h1]; omega
theorem pcI_line {xs : List Cls} (g : Good xs) {k : Nat} (h : k < xs.length) : pcI (xs.take k) (lnB xs xs[k]) = xs[k] ∧ pcS (xs.take k) (lnB xs xs[k]) = xs[k] := by
  have hn := g.name k h
  have h32 := not_mem_name hn (c := 32) (by decide)
  rcases Nat.eq_zero_or_pos k with h0 | h0
  · subst h0
    rw [lnB_root g h]
    unfold pcI pcS
    rw [cut_one h32, splitL_one h32]
    have hr := g.root h
    constructor
    · show (⟨tb (bl xs[0].name), findN (xs.take 0) (tb []) 0⟩ : Cls) = xs[0]
      rw [tb_bl, List.take_zero]
      show (⟨xs[0].name, -1⟩ : Cls) = xs[0]
      rw [← hr]
    · show (⟨tb (bl xs[0].name), -1⟩ : Cls) = xs[0]
      rw [tb_bl, ← hr]
  · obtain ⟨p, hp, e, e2⟩ := lnB_up g h h0
    have hn2 := g.name p (by omega)
    have h32b := not_mem_name hn2 (c := 32) (by decide)
    have hf := findN_take g hp (Nat.le_of_lt h)
    rw [e2]
    unfold pcI pcS
    rw [cut_line h32, splitL_line h32, splitL_one h32b]
    constructor
    · show (⟨tb (bl xs[k].name), findN (xs.take k) (tb (bl _)) 0⟩ : Cls) = xs[k]
      rw [tb_bl, tb_bl, hf, ← e]
    · show (⟨tb (bl xs[k].name), findN (xs.take k) (tb (bl _)) 0⟩ : Cls) = xs[k]
      rw [tb_bl, tb_bl, hf, ← e]
theorem pI_tree {xs : List Cls} (g : Good xs) : ∀ (m k : Nat), k + m = xs.length → ∀ f, m < f → pI f (txB xs (xs.drop k)) (xs.take k) = some xs := by
  intro m
  induction m with
  | zero =>
    intro k hk f hf
    obtain ⟨f, rfl⟩ : ∃ q, f = q + 1 := ⟨f - 1, by omega⟩
    rw [txB_end (by omega), pI, if_pos rfl, List.take_of_length_le (by omega)]
  | succ m ih =>
    intro k hk f hf
    obtain ⟨f, rfl⟩ : ∃ q, f = q + 1 := ⟨f - 1, by omega⟩
    have h : k < xs.length := by omega
    have := g.hi
    rw [txB_at h, pI, if_neg (by simp), if_neg (by rw [List.length_take]; omega), cut_line (lnB_nl g h).1]
    show pI f (txB xs (xs.drop (k + 1))) (xs.take k ++ [pcI (xs.take k) (lnB xs xs[k])]) = _
    rw [(pcI_line g h).1, ← List.take_succ_eq_append_getElem h]
    exact ih (k + 1) (by omega) f (by omega)
theorem pS_tree {xs : List Cls} (g : Good xs) : ∀ (m k : Nat), k + m = xs.length → pS (splitL 10 (txB xs (xs.drop k))) (xs.take k) = xs := by
  intro m
  induction m with
  | zero =>
    intro k hk
    rw [txB_end (by omega)]
    show pS [[]] _ = _
    rw [pS, List.take_of_length_le (by omega)]
  | succ m ih =>
    intro k hk
    have h : k < xs.length := by omega
    rw [txB_at h, splitL_line (lnB_nl g h).1]
    have := ih (k + 1) (by omega)
    cases e : splitL 10 (txB xs (xs.drop (k + 1))) with
    | nil => exact absurd e (splitL_ne _ _)
    | cons a r =>
      rw [e] at this
      rw [pS, (pcI_line g h).2, ← List.take_succ_eq_append_getElem h]
      · exact this
      · simp
/-- the tree of a text, and whether there is one -/
def ptT (s : ByteArray) : List Cls := pS (splitL 10 (bl s)) []
def ptOk (s : ByteArray) : Bool := okTree (ptT s) && decide (treeB (ptT s) = bl s)
def ptX (s : ByteArray) : List Cls := cond (ptOk s) (ptT s) []
def ptI (s : ByteArray) : Option (List Cls) := pI (s.size + 1) (bl s) []
theorem pt_good {s : ByteArray} {xs : List Cls} (h1 : okTree xs = true) (h2 : treeB xs = bl s) : ptT s = xs ∧ ptI s = some xs := by
  have g := good_of h1
  have a := pS_tree g xs.length 0 (by omega)
  have hl : xs.length < s.size + 1 := by
    have hx : ∀ (m k : Nat), k + m = xs.length → m ≤ (txB xs (xs.drop k)).length := by
      intro m
      induction m with
      | zero => intro k _; omega
      | succ m ih => intro k hk; have := ih (k + 1) (by omega); rw [txB_at (by omega)]; simp; omega
    have := hx xs.length 0 (by omega)
    rw [List.drop_zero] at this
    have e : (txB xs xs).length = s.size := by
      show (treeB xs).length = s.size
      rw [h2]; rfl
    omega
  have b := pI_tree g xs.length 0 (by omega) (s.size + 1) hl
  rw [List.drop_zero, List.take_zero] at a b
  unfold ptT ptI
  rw [← h2]
  exact ⟨a, b⟩
/-- the program's way gives the same -/
theorem pt_none {s : ByteArray} (h : ptI s = none) : ptOk s = false := by
  cases e : ptOk s
  · rfl
  · unfold ptOk at e
    simp only [Bool.and_eq_true, decide_eq_true_eq] at e
    have := (pt_good e.1 e.2).2
    rw [h] at this; cases this
theorem pt_some {s : ByteArray} {xs : List Cls} (h : ptI s = some xs) : (okTree xs && decide (treeB xs = bl s)) = ptOk s ∧ (ptOk s = true → xs = ptX s) := by
  cases e : ptOk s
  · refine ⟨?_, fun h => by cases h⟩
    cases e2 : (okTree xs && decide (treeB xs = bl s))
    · rfl
    · simp only [Bool.and_eq_true, decide_eq_true_eq] at e2
      have a := (pt_good e2.1 e2.2).1
      unfold ptOk at e
      rw [a, e2.1, decide_eq_true e2.2] at e
      cases e
  · have e' := e
    unfold ptOk at e
    simp only [Bool.and_eq_true, decide_eq_true_eq] at e
    have b := (pt_good e.1 e.2).2
    rw [h] at b
    injection b with b
    subst b
    refine ⟨by rw [e.1, decide_eq_true e.2]; rfl, fun _ => by unfold ptX; rw [e']; rfl⟩
end

section
instance instOneStrT : EncOne ByteArray := ⟨by decide, fun x u hu => by simp [Enc.cells] at hu; subst hu; rfl⟩
theorem infoStrT : (Tryd.prog.info? 9).map (fun i => (i.zero, i.size, i.bytes)) = some (some (.string ByteArray.empty), 1, 16) := by kernel_rfl
theorem bl_extract (s : ByteArray) (a i : Nat) : bl (s.extract a i) = ((bl s).drop a).take (i - a) := by
  unfold bl
  rw [ByteArray.data_extract, Array.toList_extract, List.extract_eq_take_drop]
theorem bl_at {s : ByteArray} {j : Nat} (h : j < s.size) : (bl s)[j]'(by rw [bl_len]; exact h) = s[j] := rfl
theorem seg_no {s : ByteArray} {c : UInt8} {a i : Nat} (h2 : i ≤ s.size) (hno : ∀ j (hj : j < s.size), a ≤ j → j < i → s[j] ≠ c) : c ∉ bl (s.extract a i) := by
  intro hm
  rw [bl_extract] at hm
  obtain ⟨j, hj, e⟩ := List.getElem_of_mem hm
  rw [List.length_take, List.length_drop, bl_len] at hj
  rw [List.getElem_take, List.getElem_drop] at e
  exact hno (a + j) (by omega) (by omega) (by omega) e
theorem seg_split {s : ByteArray} {c : UInt8} {a i : Nat} (h1 : a ≤ i) (h2 : i < s.size) (hno : ∀ j (hj : j < s.size), a ≤ j → j < i → s[j] ≠ c) (hc : s[i] = c) : splitL c ((bl s).drop a) = bl (s.extract a i) :: splitL c ((bl s).drop (i + 1)) := by
  have e : (bl s).drop a = bl (s.extract a i) ++ c :: (bl s).drop (i + 1) := by
    rw [bl_extract]
    have h3 : i < (bl s).length := by rw [bl_len]; exact h2
    have h7 : (bl s)[i] = c := hc
    have h6 : c :: (bl s).drop (i + 1) = (bl s).drop i := by rw [List.drop_eq_getElem_cons h3, h7]
    rw [h6]
    have h5 : (bl s).drop i = ((bl s).drop a).drop (i - a) := by rw [List.drop_drop]; congr 1; omega
    rw [h5, List.take_append_drop]
  rw [e, splitL_line (seg_no (by omega) hno)]
theorem seg_last {s : ByteArray} {c : UInt8} {a : Nat} (hno : ∀ j (hj : j < s.size), a ≤ j → s[j] ≠ c) : splitL c ((bl s).drop a) = [bl (s.extract a s.size)] := by
  have e : (bl s).drop a = bl (s.extract a s.size) := by
    rw [bl_extract, List.take_of_length_le (by rw [List.length_drop, bl_len]; omega)]
  rw [e, splitL_one (seg_no (Nat.le_refl _) (fun j hj h _ => hno j hj h))]
set_option maxHeartbeats 2000000 in
set_option maxRecDepth 100000 in
theorem splitAt_any (s : ByteArray) (c : UInt8) (w : World) (hs : s.size ≤ 1048576) :
    Calls Tryd.prog 41 #[.string s, .int .u8 c.toNat] w fun e w' => ∃ v, e = .returned v ∧ Owd 9 w w' v ((splitL c (bl s)).map tb) ∧ Le w w' := by
  obtain ⟨i0, hi, hz0, hz1, hz2⟩ := info_parts infoStrT
  go_enter Tryd.func41, Tryd.ntmps41
  go_wp2_with fail
  have L0 := Le.new w (.cells #[] 9)
  have O0 := own_empty (w := w) (base := w.heap.size) (g := w.heap.size) (e := 9) (size := 1) (Nat.le_refl _) rfl
  generalize w.alloc (.cells #[] 9) = W at *
  go_wp2
  go_loopw [5, 6, 7] (fun v f i wr => ∃ (L : List ByteArray) (a k : Nat), f = .int .i64 a ∧ i = .int .i64 k ∧ a ≤ k ∧ k ≤ s.size ∧ L.length ≤ a ∧ Hid (∀ j (hj : j < s.size), a ≤ j → j < k → s[j] ≠ c) ∧ Hid (L ++ (splitL c ((bl s).drop a)).map tb = (splitL c (bl s)).map tb) ∧ (∀ x ∈ L, Enc.ok x) ∧ wr.ownsRow w.heap.size 9 1 v L.length (L.flatMap Enc.cells) ∧ Le w wr) (fun _ _ i _ => s.size - (intOf i).toNat)
  case atStart => exact ⟨[], 0, 0, rfl, rfl, Nat.le_refl _, Nat.zero_le _, Nat.le_refl _, fun j _ _ h => absurd h (by omega), rfl, by simp, O0, L0⟩
  case round =>
    clear O0 L0
    obtain ⟨L, a, k, rfl, rfl, hak, hk, hLa, HNO, HSP, hL, O, LW⟩ := hrel
    obtain ⟨A2, c2, rfl⟩ := own_form O
    have HL := Lib.hid hL
    have s1 := LW.size
    clear hL
    by_cases hlt : k < s.size
    · have hc : 0 ≤ (s[k].toNat : Int) ∧ (s[k].toNat : Int) ≤ 255 := by have := UInt8.toNat_lt s[k]; omega
      have hkl : (k : Int) < (s.size : Int) := by omega
      by_cases h58 : s[k] = c
      · have hb : ((s[k].toNat : Int) == (c.toNat : Int)) = true := by rw [h58]; simp
        have HE := Lib.hid (seg_split hak hlt HNO.out h58)
        have hx1 : (a : Int) ≤ (k : Int) := by omega
        have hx2 : (k : Int) ≤ (s.size : Int) := by omega
        have hw : IntKind.i64.wrap ((k : Int) + 1) = (k : Int) + 1 := IntWalk.i64_in _ (by omega)
        have hsz : (s.extract a k).size ≤ 1048576 := by rw [ByteArray.size_extract]; omega
        clear h58 HNO
        have hfo : Enc.ok (s.extract a k) := by show (s.extract a k).size ≤ 9223372036854775807; omega
        have hbk := O.lt
        go_wp2_with (at_builtin; refine wpList_append_sl rfl _ _ 67 rfl w.heap.size 9 i0 _ 16 Tryd.underlying67 hi hz0 hz1 hz2 rfl _ _ L rfl (O.alloc _) _ 1 1 [s.extract a k] rfl (sl_one (s.extract a k) rfl hfo rfl) (by unfold maxLen; omega) (by omega) (Nat.le_trans (by omega) (Le.new wr _).size) ?_; intro v1 w7 O7 hg7 _; have LA := Le.new wr (.cells #[.string (s.extract a k)] 9); have L7 := (LW.trans LA).grown hg7 (fun k hk => by have h := (hbk _ hk).1; omega); clear hg7 LA)
        go_roundw
        case rel =>
          refine ⟨L ++ [s.extract a k], k + 1, k + 1, by go_num, by go_num, Nat.le_refl _, by omega, by simp; omega, fun j _ h1 h2 => absurd h1 (by omega), ?_, (fun y hy => by rcases List.mem_append.1 hy with h | h; exact HL.out y h; simp at h; subst h; exact hfo), by rw [List.length_append]; exact O7, L7⟩
          have := HSP.out
          rw [HE.out, List.map_cons, tb_bl] at this
          rw [List.append_assoc]; exact this
        case measure => (simp [intOf]) <;> omega
      · have hb : ((s[k].toNat : Int) == (c.toNat : Int)) = false := by
          rw [beq_eq_false_iff_ne]; intro e; exact h58 (UInt8.toNat_inj.1 (by omega))
        have HNO2 : Hid (∀ j (hj : j < s.size), a ≤ j → j < k + 1 → s[j] ≠ c) := fun j hj h1 h2 => by
          rcases Nat.lt_or_ge j k with h | h
          · exact HNO.out j hj h1 h
          · have e : j = k := by omega
            subst e; exact h58
        clear h58 HNO
        go_wp2
        go_roundw
        case rel => exact ⟨L, a, k + 1, by go_num, by go_num, by omega, by omega, hLa, HNO2.out, HSP.out, HL.out, O, LW⟩
        case measure => (simp [intOf]) <;> omega
    · have hkl : ¬ (k : Int) < (s.size : Int) := by omega
      have HE := Lib.hid (seg_last (fun j hj h => HNO.out j hj h (by omega)))
      have hx2 : (a : Int) ≤ (s.size : Int) := by omega
      have hsz : (s.extract a s.size).size ≤ 1048576 := by rw [ByteArray.size_extract]; omega
      have hfo : Enc.ok (s.extract a s.size) := by show (s.extract a s.size).size ≤ 9223372036854775807; omega
      have hbk := O.lt
      clear HNO
      go_wp2_with (at_builtin; refine wpList_append_sl rfl _ _ 67 rfl w.heap.size 9 i0 _ 16 Tryd.underlying67 hi hz0 hz1 hz2 rfl _ _ L rfl (O.alloc _) _ 1 1 [s.extract a s.size] rfl (sl_one (s.extract a s.size) rfl hfo rfl) (by unfold maxLen; omega) (by omega) (Nat.le_trans (by omega) (Le.new wr _).size) ?_; intro v1 w7 O7 hg7 _; have LA := Le.new wr (.cells #[.string (s.extract a s.size)] 9); have L7 := (LW.trans LA).grown hg7 (fun k hk => by have h := (hbk _ hk).1; omega); clear hg7 LA)
      go_ret
      refine ⟨_, rfl, ⟨?_, ?_⟩, L7⟩
      · have := HSP.out
        rw [HE.out, List.map_cons, tb_bl] at this
        rw [← this, List.length_append]; exact O7
      · have := HSP.out
        rw [HE.out, List.map_cons, tb_bl] at this
        rw [← this]
        intro y hy
        rcases List.mem_append.1 hy with h | h
        · exact HL.out y h
        · simp at h; subst h; exact hfo
end
end Go.Proofs.YtnpcmlcigeccmaaDoor
