import Derived.Test.YtjkadmbcnlelhaaT
import Derived.Test.YtjkadmbcnlelhaaD
import Derived.Test.YtjkadmbcnlelhaaSV
namespace Go.Proofs.Ytjkadmbcnlelhaa
open Go.RowKit

theorem okFrom_mk {all : List Cls} (hl : 1 ≤ all.length ∧ all.length ≤ 8) (hb : ∀ i (h : i < all.length), badCls all i all[i] = false) : ∀ (m k : Nat), k + m = all.length → okFrom all k (all.drop k) = true := by
  intro m
  induction m with
  | zero => intro k hk; rw [okFrom_end (by omega)]; simp; omega
  | succ m ih => intro k hk; rw [okFrom_at (by omega), hb k (by omega), ih (k + 1) (by omega)]; rfl
theorem okTree_take {xs : List Cls} (h : okTree xs = true) {k : Nat} (h1 : 1 ≤ k) (h2 : k ≤ xs.length) : okTree (xs.take k) = true := by
  obtain ⟨hl, hb⟩ := okFrom_mem (all := xs) xs.length 0 (by omega) (by simpa [okTree] using h)
  have hlen : (xs.take k).length = k := by rw [List.length_take]; omega
  have := okFrom_mk (all := xs.take k) (by omega) (fun i hi => by
    have hi' : i < k := by omega
    have e : (xs.take k)[i] = xs[i]'(by omega) := List.getElem_take
    have e2 : (xs.take k).take i = xs.take i := by rw [List.take_take]; congr 1; omega
    have hbi := hb i (by omega) (Nat.zero_le _)
    unfold badCls at hbi ⊢
    rw [e, e2]; exact hbi) (xs.take k).length 0 (by omega)
  simpa [okTree] using this

def DrawnTree (w : World) (e : Ending) (w' : World) : Prop := ∃ (B : Option Addr) (m c : Nat) (xs : List Cls), e = .returned (.agg #[.slice B m c]) ∧ Sl w' B m c xs ∧ m ≤ 8 ∧ Le w w'
end Go.Proofs.Ytjkadmbcnlelhaa
