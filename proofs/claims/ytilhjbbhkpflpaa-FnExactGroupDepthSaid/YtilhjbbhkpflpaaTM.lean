import Derived.Test.YtilhjbbhkpflpaaTL
namespace Go.Proofs.Ytilhjbbhkpflpaa
open Go.RowKit
def mTxtF : Nat → Int → ByteArray → ByteArray
  | 0, _, o => o
  | f + 1, k, o => if 0 < k then mTxtF f (k / 10) (⟨#[UInt8.ofNat (48 + k % 10).toNat]⟩ ++ o) else o
def mTxt (k : Int) : ByteArray := ⟨#[109]⟩ ++ mTxtF k.toNat k ⟨#[]⟩
theorem mTxtF_end (f : Nat) {k : Int} (h : ¬ 0 < k) (o : ByteArray) : mTxtF f k o = o := by
  cases f with
  | zero => rfl
  | succ f => unfold mTxtF; rw [if_neg h]
theorem mTxtF_step (f : Nat) {k : Int} (h : 0 < k) (o : ByteArray) : mTxtF (f + 1) k o = mTxtF f (k / 10) (⟨#[UInt8.ofNat (48 + k % 10).toNat]⟩ ++ o) := by
  rw [mTxtF, if_pos h]
theorem mTxtF_size (f : Nat) : ∀ (k : Int) (o : ByteArray), 0 ≤ k → (mTxtF f k o).size ≤ k.toNat + o.size := by
  induction f with
  | zero => intro k o h; show o.size ≤ _; omega
  | succ f ih =>
    intro k o h
    by_cases hk : 0 < k
    · rw [mTxtF_step f hk]
      have := ih (k / 10) (⟨#[UInt8.ofNat (48 + k % 10).toNat]⟩ ++ o) (by omega)
      rw [ByteArray.size_append] at this
      have e : (⟨#[UInt8.ofNat (48 + k % 10).toNat]⟩ : ByteArray).size = 1 := rfl
      omega
    · rw [mTxtF_end _ hk]; omega
theorem mTxt_size {k : Int} (h0 : 0 ≤ k) (h1 : k ≤ 2000000000) : (mTxt k).size ≤ 9223372036854775807 := by
  unfold mTxt
  rw [ByteArray.size_append]
  have := mTxtF_size k.toNat k ⟨#[]⟩ h0
  have e : (⟨#[109]⟩ : ByteArray).size = 1 := rfl
  have e2 : (⟨#[]⟩ : ByteArray).size = 0 := rfl
  omega
def TextOut (k : Int) (w : World) (e : Ending) (w' : World) : Prop := e = .returned (.string (mTxt k)) ∧ (mTxt k).size ≤ 9223372036854775807 ∧ Le w w'
end Go.Proofs.Ytilhjbbhkpflpaa
