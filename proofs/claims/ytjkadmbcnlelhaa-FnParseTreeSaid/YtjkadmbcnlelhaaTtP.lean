/- Plain: texts of trees, and trees of texts -/
import Derived.Test.YtjkadmbcnlelhaaPAn
import Derived.Lib.IndexMore
import Derived.Lib.IndexBytes
namespace Go.Proofs.Ytjkadmbcnlelhaa
open Go.RowKit

/-- the bytes of a text, and the text of bytes -/
def bl (s : ByteArray) : List UInt8 := s.data.toList
def tb (l : List UInt8) : ByteArray := ⟨l.toArray⟩
theorem tb_bl (s : ByteArray) : tb (bl s) = s := rfl
theorem bl_tb (l : List UInt8) : bl (tb l) = l := rfl
theorem bl_app (a b : ByteArray) : bl (a ++ b) = bl a ++ bl b := by
  unfold bl; rw [ByteArray.data_append, Array.toList_append]
theorem bl_len (s : ByteArray) : (bl s).length = s.size := rfl
theorem bl_inj {a b : ByteArray} (h : bl a = bl b) : a = b := by rw [← tb_bl a, ← tb_bl b, h]
theorem bl_nil : bl ByteArray.empty = [] := rfl

/-- cuts at a byte -/
theorem indexByte_skip {c : UInt8} : ∀ {a : List UInt8}, c ∉ a → ∀ r, Lib.indexByte (a ++ c :: r) c = a.length
  | [], _, r => by simp [Lib.indexByte]
  | x :: a, h, r => by
    have hx : (x == c) = false := by
      rw [beq_eq_false_iff_ne]; rintro rfl; exact h (by simp)
    have ih := indexByte_skip (a := a) (fun q => h (List.mem_cons_of_mem _ q)) r
    show Lib.indexByte (x :: (a ++ c :: r)) c = _
    rw [Lib.indexByte, ih, hx]
    have : ((a.length : Int) == -1) = false := by rw [beq_eq_false_iff_ne]; omega
    rw [this]
    simp
theorem indexByte_miss {c : UInt8} : ∀ {a : List UInt8}, c ∉ a → Lib.indexByte a c = -1
  | [], _ => rfl
  | x :: a, h => by
    have hx : (x == c) = false := by
      rw [beq_eq_false_iff_ne]; rintro rfl; exact h (by simp)
    rw [Lib.indexByte, indexByte_miss (a := a) (fun q => h (List.mem_cons_of_mem _ q)), hx]
    rfl
theorem cut_line {c : UInt8} {a : List UInt8} (h : c ∉ a) (r : List UInt8) : Lib.cut (a ++ c :: r) [c] = (a, r, true) := by
  unfold Lib.cut
  rw [Lib.index_one, indexByte_skip h r, if_pos (by omega)]
  simp
theorem cut_one {c : UInt8} {a : List UInt8} (h : c ∉ a) : Lib.cut a [c] = (a, [], false) := by
  unfold Lib.cut
  rw [Lib.index_one, indexByte_miss h, if_neg (by omega)]
/-- a text is one piece, or one ahead of the byte and what is behind it -/
theorem split_or (c : UInt8) : ∀ (s : List UInt8), (c ∉ s) ∨ ∃ a r, s = a ++ c :: r ∧ c ∉ a
  | [] => .inl (by simp)
  | x :: s => by
    by_cases hx : x = c
    · exact .inr ⟨[], s, by rw [hx]; rfl, by simp⟩
    · rcases split_or c s with h | ⟨a, r, e, h⟩
      · left; intro hm
        rcases List.mem_cons.1 hm with e | e
        · exact hx e.symm
        · exact h e
      · right
        refine ⟨x :: a, r, by rw [e]; rfl, fun hm => ?_⟩
        rcases List.mem_cons.1 hm with e2 | e2
        · exact hx e2.symm
        · exact h e2
theorem cut_shorter (c : UInt8) {s : List UInt8} (h : s ≠ []) : (Lib.cut s [c]).2.1.length < s.length := by
  rcases split_or c s with h1 | ⟨a, r, e, h1⟩
  · rw [cut_one h1]
    show 0 < s.length
    exact List.length_pos_iff.2 h
  · rw [e, cut_line h1]
    simp; omega
theorem cut_fst_len (c : UInt8) (s : List UInt8) : (Lib.cut s [c]).1.length ≤ s.length ∧ (Lib.cut s [c]).2.1.length ≤ s.length := by
  rcases split_or c s with h1 | ⟨a, r, e, h1⟩
  · rw [cut_one h1]; exact ⟨Nat.le_refl _, Nat.zero_le _⟩
  · rw [e, cut_line h1]; simp; omega
/-- the pieces between the bytes of a kind -/
def splitL (c : UInt8) : List UInt8 → List (List UInt8)
  | [] => [[]]
  | x :: r => if x = c then [] :: splitL c r else
    match splitL c r with
    | [] => [[x]]
    | h :: t => (x :: h) :: t
theorem splitL_ne (c : UInt8) (s : List UInt8) : splitL c s ≠ [] := by
  cases s with
  | nil => simp [splitL]
  | cons x r =>
    rw [splitL]
    split
    · simp
    · split <;> simp
theorem splitL_skip {c : UInt8} : ∀ {a : List UInt8}, c ∉ a → ∀ s, ∃ h t, splitL c s = h :: t ∧ splitL c (a ++ s) = (a ++ h) :: t
  | [], _, s => by
    cases h : splitL c s with
    | nil => exact absurd h (splitL_ne c s)
    | cons x r => exact ⟨x, r, rfl, by simpa using h⟩
  | x :: r, hn, s => by
    have hx : x ≠ c := fun e => hn (by simp [e])
    obtain ⟨h, t, e1, e2⟩ := splitL_skip (a := r) (fun hq => hn (List.mem_cons_of_mem _ hq)) s
    refine ⟨h, t, e1, ?_⟩
    show splitL c (x :: (r ++ s)) = _
    rw [splitL, if_neg hx, e2]; rfl
theorem splitL_line {c : UInt8} {a : List UInt8} (h : c ∉ a) (s : List UInt8) : splitL c (a ++ c :: s) = a :: splitL c s := by
  obtain ⟨x, t, e1, e2⟩ := splitL_skip h (c :: s)
  rw [splitL, if_pos rfl] at e1
  injection e1 with e1 e3
  rw [e2, ← e1, ← e3]; simp
theorem splitL_one {c : UInt8} {a : List UInt8} (h : c ∉ a) : splitL c a = [a] := by
  obtain ⟨x, t, e1, e2⟩ := splitL_skip h []
  simp [splitL] at e1
  rw [e1.1, e1.2] at e2
  simpa using e2
theorem splitL_len (c : UInt8) (s : List UInt8) : (splitL c s).length = s.count c + 1 := by
  induction s with
  | nil => rfl
  | cons x r ih =>
    rw [splitL]
    by_cases hx : x = c
    · subst hx
      rw [if_pos rfl, List.length_cons, ih, List.count_cons_self]
    · rw [if_neg hx]
      have e : (x :: r).count c = r.count c := by rw [List.count_cons_of_ne hx]
      rw [e, ← ih]
      cases h : splitL c r with
      | nil => exact absurd h (splitL_ne c r)
      | cons y t => rfl

/-- the line of a class, the lines of several, the text of a tree -/
def lnB (xs : List Cls) (c : Cls) : List UInt8 := cond (decide (0 ≤ c.parent)) (bl c.name ++ 32 :: bl (match xs[c.parent.toNat]? with | some d => d.name | none => ByteArray.empty)) (bl c.name)
def txB (xs : List Cls) : List Cls → List UInt8
  | [] => []
  | c :: r => lnB xs c ++ 10 :: txB xs r
def treeB (xs : List Cls) : List UInt8 := txB xs xs
theorem txB_at {xs ys : List Cls} {k : Nat} (h : k < ys.length) : txB xs (ys.drop k) = lnB xs ys[k] ++ 10 :: txB xs (ys.drop (k + 1)) := by
  rw [List.drop_eq_getElem_cons h]; rfl
theorem txB_end {xs ys : List Cls} {k : Nat} (h : ¬ k < ys.length) : txB xs (ys.drop k) = [] := by
  rw [List.drop_eq_nil_of_le (by omega)]; rfl
theorem lowers_rng : ∀ (l : List UInt8), lowers l = true → ∀ x ∈ l, 97 ≤ x.toNat
  | [], _, x, hx => by simp at hx
  | c :: r, h, x, hx => by
    unfold lowers at h
    simp only [Bool.and_eq_true, decide_eq_true_eq] at h
    rcases List.mem_cons.1 hx with rfl | hx
    · exact h.1.1
    · exact lowers_rng r h.2 x hx
theorem name_rng {s : ByteArray} (h : okName s = true) : (∀ x ∈ bl s, 97 ≤ x.toNat) ∧ 1 ≤ (bl s).length ∧ (bl s).length ≤ 6 := by
  unfold okName at h
  simp only [Bool.and_eq_true, decide_eq_true_eq] at h
  refine ⟨lowers_rng _ h.1.1, ?_, ?_⟩
  · rw [bl_len]; have := h.1.2; omega
  · rw [bl_len]; have := h.2; omega
theorem not_mem_name {s : ByteArray} (h : okName s = true) {c : UInt8} (hc : c.toNat < 97) : c ∉ bl s := fun hm => by
  have := (name_rng h).1 c hm; omega
/-- the line of a class of a valid tree -/
theorem lnB_root {xs : List Cls} (g : Good xs) (h : 0 < xs.length) : lnB xs xs[0] = bl xs[0].name := by
  unfold lnB; rw [g.root h]; rfl
theorem lnB_up {xs : List Cls} (g : Good xs) {k : Nat} (h : k < xs.length) (h0 : 0 < k) : ∃ p : Nat, ∃ hp : p < k, xs[k].parent = (p : Int) ∧ lnB xs xs[k] = bl xs[k].name ++ 32 :: bl (xs[p]'(by omega)).name := by
  have a := g.par k h h0
  obtain ⟨p, hp⟩ := Int.eq_ofNat_of_zero_le a.1
  refine ⟨p, by omega, hp, ?_⟩
  unfold lnB
  rw [decide_eq_true a.1, hp, Int.toNat_natCast, List.getElem?_eq_getElem (by omega)]
  rfl
theorem lnB_nl {xs : List Cls} (g : Good xs) {k : Nat} (h : k < xs.length) : (10 : UInt8) ∉ lnB xs xs[k] ∧ (lnB xs xs[k]).length ≤ 13 := by
  have hn := g.name k h
  have hl := (name_rng hn).2.2
  rcases Nat.eq_zero_or_pos k with h0 | h0
  · subst h0
    rw [lnB_root g h]
    exact ⟨not_mem_name hn (by decide), by omega⟩
  · obtain ⟨p, hp, _, e⟩ := lnB_up g h h0
    have hn2 := g.name p (by omega)
    have hl2 := (name_rng hn2).2.2
    rw [e]
    refine ⟨fun hm => ?_, by simp; omega⟩
    rcases List.mem_append.1 hm with hm | hm
    · exact not_mem_name hn (by decide) hm
    · rcases List.mem_cons.1 hm with e2 | hm
      · exact absurd e2 (by decide)
      · exact not_mem_name hn2 (by decide) hm
theorem txB_len {xs : List Cls} (g : Good xs) : ∀ (m k : Nat), k + m = xs.length → (txB xs (xs.drop k)).length ≤ 14 * m := by
  intro m
  induction m with
  | zero => intro k hk; rw [txB_end (by omega)]; simp
  | succ m ih =>
    intro k hk
    have := ih (k + 1) (by omega)
    have h2 := (lnB_nl g (k := k) (by omega)).2
    rw [txB_at (by omega)]
    simp; omega
theorem treeB_len {xs : List Cls} (g : Good xs) : (treeB xs).length ≤ 112 := by
  have := txB_len g xs.length 0 (by omega)
  have := g.hi
  rw [List.drop_zero] at *
  unfold treeB; omega
/-- trees of texts: the program's -/
def pcI (acc : List Cls) (line : List UInt8) : Cls := ⟨tb (Lib.cut line [32]).1, findN acc (tb (Lib.cut line [32]).2.1) 0⟩
def pI : Nat → List UInt8 → List Cls → Option (List Cls)
  | 0, _, acc => some acc
  | m + 1, rest, acc => if rest = [] then some acc else if acc.length = 8 then none else pI m (Lib.cut rest [10]).2.1 (acc ++ [pcI acc (Lib.cut rest [10]).1])
/-- trees of texts: the model's -/
def pcS (acc : List Cls) (line : List UInt8) : Cls :=
  match splitL 32 line with
  | [a, b] => ⟨tb a, findN acc (tb b) 0⟩
  | a :: _ => ⟨tb a, -1⟩
  | [] => ⟨ByteArray.empty, -1⟩
def pS : List (List UInt8) → List Cls → List Cls
  | [], acc => acc
  | [_], acc => acc
  | l :: r, acc => pS r (acc ++ [pcS acc l])
theorem findN_take {xs : List Cls} (g : Good xs) {p k : Nat} (hp : p < k) (hk : k ≤ xs.length) : findN (xs.take k) (xs[p]'(by omega)).name 0 = (p : Int) := by
  rcases findN_spec (xs[p]'(by omega)).name (xs.take k) 0 with ⟨_, h2⟩ | ⟨j, hj, h1, h2, h3⟩
  · exact absurd (by rw [List.getElem_take]) (h2 p (by rw [List.length_take]; omega))
  · rw [List.length_take] at hj
    rw [List.getElem_take] at h2
    have e := findN_here g (k := p) (by omega)
    have e2 := findN_here g (k := j) (by omega)
    rw [h2] at e2
    rw [e] at e2
    rw [h1]; omega
theorem pcI_line {xs : List Cls} (g : Good xs) {k : Nat} (h : k < xs.length) : pcI (xs.take k) (lnB xs xs[k]) = xs[k] ∧ pcS (xs.take k) (lnB xs xs[k]) = xs[k] := by
  have hn := g.name k h
  have h32 := not_mem_name hn (c := 32) (by decide)
  rcases Nat.eq_zero_or_pos k with h0 | h0
  · subst h0
    rw [lnB_root g h]
    unfold pcI pcS
    rw [cut_one h32, splitL_one h32]
    have hr := g.root h
    constructor
    · show (⟨tb (bl xs[0].name), findN (xs.take 0) (tb []) 0⟩ : Cls) = xs[0]
      rw [tb_bl, List.take_zero]
      show (⟨xs[0].name, -1⟩ : Cls) = xs[0]
      rw [← hr]
    · show (⟨tb (bl xs[0].name), -1⟩ : Cls) = xs[0]
      rw [tb_bl, ← hr]
  · obtain ⟨p, hp, e, e2⟩ := lnB_up g h h0
    have hn2 := g.name p (by omega)
    have h32b := not_mem_name hn2 (c := 32) (by decide)
    have hf := findN_take g hp (Nat.le_of_lt h)
    rw [e2]
    unfold pcI pcS
    rw [cut_line h32, splitL_line h32, splitL_one h32b]
    constructor
    · show (⟨tb (bl xs[k].name), findN (xs.take k) (tb (bl _)) 0⟩ : Cls) = xs[k]
      rw [tb_bl, tb_bl, hf, ← e]
    · show (⟨tb (bl xs[k].name), findN (xs.take k) (tb (bl _)) 0⟩ : Cls) = xs[k]
      rw [tb_bl, tb_bl, hf, ← e]
theorem pI_tree {xs : List Cls} (g : Good xs) : ∀ (m k : Nat), k + m = xs.length → ∀ f, m < f → pI f (txB xs (xs.drop k)) (xs.take k) = some xs := by
  intro m
  induction m with
  | zero =>
    intro k hk f hf
    obtain ⟨f, rfl⟩ : ∃ q, f = q + 1 := ⟨f - 1, by omega⟩
    rw [txB_end (by omega), pI, if_pos rfl, List.take_of_length_le (by omega)]
  | succ m ih =>
    intro k hk f hf
    obtain ⟨f, rfl⟩ : ∃ q, f = q + 1 := ⟨f - 1, by omega⟩
    have h : k < xs.length := by omega
    have := g.hi
    rw [txB_at h, pI, if_neg (by simp), if_neg (by rw [List.length_take]; omega), cut_line (lnB_nl g h).1]
    show pI f (txB xs (xs.drop (k + 1))) (xs.take k ++ [pcI (xs.take k) (lnB xs xs[k])]) = _
    rw [(pcI_line g h).1, ← List.take_succ_eq_append_getElem h]
    exact ih (k + 1) (by omega) f (by omega)
theorem pS_tree {xs : List Cls} (g : Good xs) : ∀ (m k : Nat), k + m = xs.length → pS (splitL 10 (txB xs (xs.drop k))) (xs.take k) = xs := by
  intro m
  induction m with
  | zero =>
    intro k hk
    rw [txB_end (by omega)]
    show pS [[]] _ = _
    rw [pS, List.take_of_length_le (by omega)]
  | succ m ih =>
    intro k hk
    have h : k < xs.length := by omega
    rw [txB_at h, splitL_line (lnB_nl g h).1]
    have := ih (k + 1) (by omega)
    cases e : splitL 10 (txB xs (xs.drop (k + 1))) with
    | nil => exact absurd e (splitL_ne _ _)
    | cons a r =>
      rw [e] at this
      rw [pS, (pcI_line g h).2, ← List.take_succ_eq_append_getElem h]
      · exact this
      · simp
/-- the tree of a text, and whether there is one -/
def ptT (s : ByteArray) : List Cls := pS (splitL 10 (bl s)) []
def ptOk (s : ByteArray) : Bool := okTree (ptT s) && decide (treeB (ptT s) = bl s)
def ptX (s : ByteArray) : List Cls := cond (ptOk s) (ptT s) []
def ptI (s : ByteArray) : Option (List Cls) := pI (s.size + 1) (bl s) []
theorem pt_good {s : ByteArray} {xs : List Cls} (h1 : okTree xs = true) (h2 : treeB xs = bl s) : ptT s = xs ∧ ptI s = some xs := by
  have g := good_of h1
  have a := pS_tree g xs.length 0 (by omega)
  have hl : xs.length < s.size + 1 := by
    have hx : ∀ (m k : Nat), k + m = xs.length → m ≤ (txB xs (xs.drop k)).length := by
      intro m
      induction m with
      | zero => intro k _; omega
      | succ m ih => intro k hk; have := ih (k + 1) (by omega); rw [txB_at (by omega)]; simp; omega
    have := hx xs.length 0 (by omega)
    rw [List.drop_zero] at this
    have e : (txB xs xs).length = s.size := by
      show (treeB xs).length = s.size
      rw [h2]; rfl
    omega
  have b := pI_tree g xs.length 0 (by omega) (s.size + 1) hl
  rw [List.drop_zero, List.take_zero] at a b
  unfold ptT ptI
  rw [← h2]
  exact ⟨a, b⟩
/-- the program's way gives the same -/
theorem pt_none {s : ByteArray} (h : ptI s = none) : ptOk s = false := by
  cases e : ptOk s
  · rfl
  · unfold ptOk at e
    simp only [Bool.and_eq_true, decide_eq_true_eq] at e
    have := (pt_good e.1 e.2).2
    rw [h] at this; cases this
theorem pt_some {s : ByteArray} {xs : List Cls} (h : ptI s = some xs) : (okTree xs && decide (treeB xs = bl s)) = ptOk s ∧ (ptOk s = true → xs = ptX s) := by
  cases e : ptOk s
  · refine ⟨?_, fun h => by cases h⟩
    cases e2 : (okTree xs && decide (treeB xs = bl s))
    · rfl
    · simp only [Bool.and_eq_true, decide_eq_true_eq] at e2
      have a := (pt_good e2.1 e2.2).1
      unfold ptOk at e
      rw [a, e2.1, decide_eq_true e2.2] at e
      cases e
  · have e' := e
    unfold ptOk at e
    simp only [Bool.and_eq_true, decide_eq_true_eq] at e
    have b := (pt_good e.1 e.2).2
    rw [h] at b
    injection b with b
    subst b
    refine ⟨by rw [e.1, decide_eq_true e.2]; rfl, fun _ => by unfold ptX; rw [e']; rfl⟩
end Go.Proofs.Ytjkadmbcnlelhaa
