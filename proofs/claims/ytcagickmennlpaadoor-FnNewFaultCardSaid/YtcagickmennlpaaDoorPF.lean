/- Plain: colons, ends and beginnings of the texts of chains -/
import Derived.Test.YtcagickmennlpaaDoorTx1
import Derived.Test.YtcagickmennlpaaDoorPK
namespace Go.Proofs.YtcagickmennlpaaDoor
open Go.RowKit

/-- how many colons a text has -/
def colons (s : ByteArray) : Nat := s.data.toList.countP (· == 58)
theorem colons_append (a b : ByteArray) : colons (a ++ b) = colons a + colons b := by
  unfold colons
  rw [ByteArray.data_append, Array.toList_append, List.countP_append]
theorem colons_lowers : ∀ (l : List UInt8), lowers l = true → l.countP (· == 58) = 0
  | [], _ => rfl
  | c :: r, h => by
    unfold lowers at h
    simp only [Bool.and_eq_true, decide_eq_true_eq] at h
    rw [List.countP_cons, colons_lowers r h.2]
    have : (c == 58) = false := by
      rw [beq_eq_false_iff_ne]
      rintro rfl
      exact absurd h.1.1 (by decide)
    rw [this]; rfl
theorem colons_name {s : ByteArray} (h : okName s = true) : colons s = 0 := by
  unfold okName at h
  simp only [Bool.and_eq_true] at h
  exact colons_lowers _ h.1.1
theorem colons_num : ∀ n : Fin 100, colons (numT n.1) = 0 := by decide +kernel
theorem colons_fT {xs : List Cls} {hs : List Flt} (h : okHeap xs hs = true) {x : Int} (h0 : 0 ≤ x) (h1 : x < hs.length) : colons (fT xs hs x) = 1 := by
  have g := goodH_of h
  obtain ⟨i, rfl⟩ := Int.eq_ofNat_of_zero_le h0
  have hi : i < hs.length := by omega
  unfold fT ccT
  rw [fltAt_at hi]
  have hc := g.cls i hi
  have hd := g.code i hi
  obtain ⟨a, ha⟩ := Int.eq_ofNat_of_zero_le hc.1
  rw [ha]
  have hal : a < xs.length := by omega
  rw [nameAt_at hal, colons_append, colons_append, colons_name (g.tree.name a hal), colons_num ⟨hs[i].code.toNat, by omega⟩]
  rfl
theorem colons_lnk (hs : List Flt) (x : Int) : colons (lnkT hs x) = 0 := by
  unfold lnkT; cases decide (0 ≤ (fltAt hs x).cause) <;> rfl
theorem colons_chT {xs : List Cls} {hs : List Flt} (h : okHeap xs hs = true) : ∀ (L : List Int), (∀ x ∈ L, 0 ≤ x ∧ x < hs.length) → colons (chT xs hs L) = L.length
  | [], _ => rfl
  | [x], hL => by
    have hx := hL x (by simp)
    exact colons_fT h hx.1 hx.2
  | x :: y :: r, hL => by
    have hx := hL x (by simp)
    have ih := colons_chT h (y :: r) (fun z hz => hL z (by simp at hz ⊢; right; exact hz))
    rw [chT, colons_append, colons_append, ih, colons_lnk, colons_fT h hx.1 hx.2]
    simp
/-- the text ends with the first one's -/
theorem chT_ends (xs : List Cls) (hs : List Flt) (x : Int) (r : List Int) : ∃ p, chT xs hs (x :: r) = p ++ fT xs hs x := by
  cases r with
  | nil => exact ⟨ByteArray.empty, by simp [chT]⟩
  | cons y r => exact ⟨_, rfl⟩
/-- the text begins with the last one's -/
theorem chT_begins (xs : List Cls) (hs : List Flt) : ∀ (L : List Int) (z : Int), L.getLast? = some z → ∃ s, chT xs hs L = fT xs hs z ++ s
  | [], z, h => by simp at h
  | [x], z, h => by
    simp at h; subst h
    exact ⟨ByteArray.empty, by simp [chT]⟩
  | x :: y :: r, z, h => by
    have h' : (y :: r).getLast? = some z := by rw [List.getLast?_cons_cons] at h; exact h
    obtain ⟨s, hs'⟩ := chT_begins xs hs (y :: r) z h'
    refine ⟨s ++ lnkT hs x ++ fT xs hs x, ?_⟩
    rw [chT, hs', ByteArray.append_assoc, ByteArray.append_assoc, ByteArray.append_assoc]
/-- class and code make the text -/
theorem fT_same {xs : List Cls} {hs ks : List Flt} {i k : Nat} (hi : i < hs.length) (hk : k < ks.length) (h1 : ks[k].cls = hs[i].cls) (h2 : ks[k].code = hs[i].code) : fT xs ks (k : Int) = fT xs hs (i : Int) := by
  unfold fT
  rw [fltAt_at hi, fltAt_at hk, h1, h2]
/-- a fault of which nothing is shown tells of itself alone -/
theorem chain_alone {nx : Int → Int} {n : Nat} {f : Int} (h0 : 0 ≤ f) (h : nx f < 0) : chainN nx n f = [f] := by
  unfold chainN
  rw [go_on h0 (by simp)]
  exact go_stop (.inl h)
end Go.Proofs.YtcagickmennlpaaDoor
