/- What the exact laws of all types share. -/
import Derived.Test.YtpdggodmiliijaaKB
import Derived.Test.YtpdggodmiliijaaRows
import Derived.Deep.RegionWith
import Derived.Deep.RegionHeld3
namespace Go.Proofs.Ytpdggodmiliijaa
open Go.RowKit
section
def SzOut (left : Int) (n : Nat) (w : World) (e : Ending) (w' : World) : Prop := ∃ r : Int, e = .returned (.int .i64 r) ∧ (r = -1 ∨ (0 ≤ r ∧ r ≤ left ∧ (n : Int) ≤ left)) ∧ Le w w'
end

section
theorem byte_str (w : World) (n : Int) : (convert 126 9 (.slice (some ⟨w.heap.size, 0, none⟩) 1 1)).run Try.prog (w.alloc (.cells #[.int .u8 n] 5)) = .ok (.string ⟨#[UInt8.ofNat n.toNat]⟩) (w.alloc (.cells #[.int .u8 n] 5)) := by
  rw [run_convert_bytes_string _ _ _ 5 _ _ _ Try.underlying126 Try.underlying5 Try.underlying9]
  have h := run_bytesToString (P := Try.prog) (w.alloc (.cells #[.int .u8 n] 5)) ⟨w.heap.size, 0, none⟩ 1 1 [n] (by simp [go_sem, loadCells])
  exact h
def mTxtF : Nat → Int → ByteArray → ByteArray
  | 0, _, o => o
  | f + 1, k, o => if 0 < k then mTxtF f (k / 10) (⟨#[UInt8.ofNat (48 + k % 10).toNat]⟩ ++ o) else o
def mTxt (k : Int) : ByteArray := ⟨#[109]⟩ ++ mTxtF k.toNat k ⟨#[]⟩
theorem mTxtF_end (f : Nat) {k : Int} (h : ¬ 0 < k) (o : ByteArray) : mTxtF f k o = o := by
  cases f with
  | zero => rfl
  | succ f => unfold mTxtF; rw [if_neg h]
theorem mTxtF_step (f : Nat) {k : Int} (h : 0 < k) (o : ByteArray) : mTxtF (f + 1) k o = mTxtF f (k / 10) (⟨#[UInt8.ofNat (48 + k % 10).toNat]⟩ ++ o) := by
  rw [mTxtF, if_pos h]
theorem mTxtF_size (f : Nat) : ∀ (k : Int) (o : ByteArray), 0 ≤ k → (mTxtF f k o).size ≤ k.toNat + o.size := by
  induction f with
  | zero => intro k o h; show o.size ≤ _; omega
  | succ f ih =>
    intro k o h
    by_cases hk : 0 < k
    · rw [mTxtF_step f hk]
      have := ih (k / 10) (⟨#[UInt8.ofNat (48 + k % 10).toNat]⟩ ++ o) (by omega)
      rw [ByteArray.size_append] at this
      have e : (⟨#[UInt8.ofNat (48 + k % 10).toNat]⟩ : ByteArray).size = 1 := rfl
      omega
    · rw [mTxtF_end _ hk]; omega
theorem mTxt_size {k : Int} (h0 : 0 ≤ k) (h1 : k ≤ 2000000000) : (mTxt k).size ≤ 9223372036854775807 := by
  unfold mTxt
  rw [ByteArray.size_append]
  have := mTxtF_size k.toNat k ⟨#[]⟩ h0
  have e : (⟨#[109]⟩ : ByteArray).size = 1 := rfl
  have e2 : (⟨#[]⟩ : ByteArray).size = 0 := rfl
  omega
def TextOut (k : Int) (w : World) (e : Ending) (w' : World) : Prop := e = .returned (.string (mTxt k)) ∧ (mTxt k).size ≤ 9223372036854775807 ∧ Le w w'
set_option maxRecDepth 100000 in
theorem markText_any (k : Int) (w : World) (h0 : 1 ≤ k) (h1 : k ≤ 2000000000) : Calls Try.prog 88 #[.int .i64 k] w (TextOut k w) := by
  go_enter Try.func88, Try.ntmps88
  go_wp2
  go_loopw [0, 3] (fun q o wr => ∃ k' : Int, ∃ s : ByteArray, ∃ f : Nat, 0 ≤ k' ∧ q = .int .i64 k' ∧ o = .string s ∧ k' + s.size ≤ k ∧ k'.toNat ≤ f ∧ mTxtF k.toNat k ⟨#[]⟩ = mTxtF f k' s ∧ Le w wr) (fun q _ _ => (intOf q).toNat)
  case atStart => exact ⟨k, ⟨#[]⟩, k.toNat, by omega, rfl, rfl, by simp [ByteArray.size], Nat.le_refl _, rfl, Le.refl _⟩
  case round =>
    obtain ⟨k', s, f, hk, rfl, rfl, hs, hf, hr, hle⟩ := hrel
    have HR := Lib.hid hr; clear hr
    by_cases hlt : 0 < k'
    · have hbs := byte_str wr (48 + k' % 10)
      cases f with
      | zero => omega
      | succ f =>
      have HF : Hid (mTxtF k.toNat k ⟨#[]⟩ = mTxtF f (k' / 10) (⟨#[UInt8.ofNat (48 + k' % 10).toNat]⟩ ++ s)) := by show _ = _; rw [HR.out, mTxtF_step f hlt]
      go_wp2
      go_roundw
      case rel => exact ⟨k' / 10, _, f, by omega, rfl, rfl, by rw [ByteArray.size_append]; show k' / 10 + ((1 + s.size : Nat) : Int) ≤ k; omega, by omega, HF.out, hle.alloc _⟩
      case measure => simp [intOf]; omega
    · have HF : Hid (mTxt k = ⟨#[109]⟩ ++ s) := by show _ = _; unfold mTxt; rw [HR.out, mTxtF_end f hlt]
      have HS : Hid ((mTxt k).size ≤ 9223372036854775807) := mTxt_size (by omega) h1
      go_wp2
      go_ret
      exact ⟨ret_str HF.out.symm, HS.out, hle⟩
theorem markText_ret (k : Int) (w : World) (h0 : 1 ≤ k) (h1 : k ≤ 2000000000) : Calls Try.prog 88 #[.int .i64 k] w fun e w' => e = .returned (.string (mTxt k)) ∧ Le w w' :=
  (markText_any k w h0 h1).mono fun _ _ h => ⟨h.1, h.2.2⟩
end
end Go.Proofs.Ytpdggodmiliijaa
