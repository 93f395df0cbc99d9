/- Plain: texts of chains -/
import Derived.Test.YtcagickmennlpaaDoorTx0
namespace Go.Proofs.YtcagickmennlpaaDoor
open Go.RowKit

def sepG : ByteArray := ⟨#[32, 62, 32]⟩
def sepT : ByteArray := ⟨#[32, 126, 32]⟩
def colT : ByteArray := ⟨#[58]⟩
def fltAt (hs : List Flt) (x : Int) : Flt := hs[x.toNat]?.getD ⟨0, 0, -1, -1, false⟩
theorem fltAt_at {hs : List Flt} {i : Nat} (h : i < hs.length) : fltAt hs (i : Int) = hs[i] := by
  unfold fltAt; rw [Int.toNat_natCast, List.getElem?_eq_getElem h]; rfl
def nameAt (xs : List Cls) (x : Int) : ByteArray := match xs[x.toNat]? with | some c => c.name | none => ByteArray.empty
theorem nameAt_at {xs : List Cls} {i : Nat} (h : i < xs.length) : nameAt xs (i : Int) = xs[i].name := by
  unfold nameAt; rw [Int.toNat_natCast, List.getElem?_eq_getElem h]
/-- the text of a class and a code -/
def ccT (xs : List Cls) (a b : Int) : ByteArray := nameAt xs a ++ colT ++ numT b.toNat
def fT (xs : List Cls) (hs : List Flt) (x : Int) : ByteArray := ccT xs (fltAt hs x).cls (fltAt hs x).code
def lnkT (hs : List Flt) (x : Int) : ByteArray := cond (decide (0 ≤ (fltAt hs x).cause)) sepG sepT
def chT (xs : List Cls) (hs : List Flt) : List Int → ByteArray
  | [] => ByteArray.empty
  | [x] => fT xs hs x
  | x :: y :: r => chT xs hs (y :: r) ++ lnkT hs x ++ fT xs hs x
/-- what stands ahead of the k-th -/
def preT (xs : List Cls) (hs : List Flt) (L : List Int) (k : Nat) : ByteArray :=
  match L.drop (k + 1) with
  | [] => ByteArray.empty
  | y :: r => chT xs hs (y :: r) ++ lnkT hs (L.getD k 0)
theorem chT_drop {xs : List Cls} {hs : List Flt} {L : List Int} {k : Nat} (h : k < L.length) : chT xs hs (L.drop k) = preT xs hs L k ++ fT xs hs L[k] := by
  rw [List.drop_eq_getElem_cons h]
  have e : L.getD k 0 = L[k] := by rw [List.getD_eq_getElem?_getD, List.getElem?_eq_getElem h]; rfl
  unfold preT
  rw [e]
  cases L.drop (k + 1) with
  | nil => simp [chT]
  | cons y r => rfl
theorem preT_last {xs : List Cls} {hs : List Flt} {L : List Int} {k : Nat} (h : k + 1 = L.length) : preT xs hs L k = ByteArray.empty := by
  unfold preT; rw [List.drop_eq_nil_of_le (by omega)]
theorem preT_succ {xs : List Cls} {hs : List Flt} {L : List Int} {k : Nat} (h : k + 1 < L.length) : preT xs hs L k = chT xs hs (L.drop (k + 1)) ++ lnkT hs L[k] := by
  have e : L.getD k 0 = L[k] := by rw [List.getD_eq_getElem?_getD, List.getElem?_eq_getElem (by omega)]; rfl
  unfold preT
  rw [e, List.drop_eq_getElem_cons h]
theorem lnkT_size (hs : List Flt) (x : Int) : (lnkT hs x).size = 3 := by
  unfold lnkT; cases decide (0 ≤ (fltAt hs x).cause) <;> rfl
theorem okName_size {s : ByteArray} (h : okName s = true) : s.size ≤ 6 := by
  unfold okName at h; simp at h; omega
/-- each fault's text is short -/
def Short (xs : List Cls) (hs : List Flt) : Prop := ∀ x : Int, 0 ≤ x → x < hs.length → (fT xs hs x).size ≤ 9
theorem short_of {xs : List Cls} {hs : List Flt} (h : okHeap xs hs = true) : Short xs hs := by
  have g := goodH_of h
  intro x h0 h1
  obtain ⟨i, rfl⟩ := Int.eq_ofNat_of_zero_le h0
  have hi : i < hs.length := by omega
  unfold fT ccT
  rw [fltAt_at hi]
  have hc := g.cls i hi
  have hd := g.code i hi
  obtain ⟨a, ha⟩ := Int.eq_ofNat_of_zero_le hc.1
  rw [ha]
  have hal : a < xs.length := by omega
  rw [nameAt_at hal]
  have hn := okName_size (g.tree.name a hal)
  have hm := numT_le (n := hs[i].code.toNat) (by omega)
  rw [ByteArray.size_append, ByteArray.size_append]
  have : colT.size = 1 := rfl
  omega
theorem chT_size {xs : List Cls} {hs : List Flt} (hsh : Short xs hs) : ∀ (L : List Int), (∀ x ∈ L, 0 ≤ x ∧ x < hs.length) → (chT xs hs L).size ≤ 12 * L.length
  | [], _ => by simp [chT]
  | [x], h => by have := hsh x (h x (by simp)).1 (h x (by simp)).2; simp [chT]; omega
  | x :: y :: r, h => by
    have h1 := chT_size hsh (y :: r) (fun z hz => h z (by simp at hz ⊢; right; exact hz))
    have h2 := hsh x (h x (by simp)).1 (h x (by simp)).2
    have h3 := lnkT_size hs x
    rw [chT, ByteArray.size_append, ByteArray.size_append]
    simp only [List.length_cons] at h1 ⊢
    omega
end Go.Proofs.YtcagickmennlpaaDoor
