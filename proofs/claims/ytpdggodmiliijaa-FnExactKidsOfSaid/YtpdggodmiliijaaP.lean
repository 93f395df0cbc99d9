/- Plain functions: what chapter 1 computes. Nothing here speaks of the program. -/
import Derived.Test.YtpdggodmiliijaaK
namespace Go.Proofs.Ytpdggodmiliijaa

def hasI : List Int → Int → Bool
  | [], _ => false
  | z :: r, x => z == x || hasI r x
def lowers : List UInt8 → Bool
  | [] => true
  | c :: r => decide (97 ≤ c.toNat) && decide (c.toNat ≤ 122) && lowers r
def okName (s : ByteArray) : Bool := lowers s.data.toList && decide (1 ≤ s.size) && decide (s.size ≤ 6)
def findN : List Cls → ByteArray → Int → Int
  | [], _, _ => -1
  | c :: r, s, k => if c.name = s then k else findN r s (k + 1)

theorem findN_cons (c : Cls) (r : List Cls) (s : ByteArray) (k : Int) : findN (c :: r) s k = if c.name = s then k else findN r s (k + 1) := rfl
theorem hasI_at {zs : List Int} {k : Nat} (h : k < zs.length) (x : Int) : hasI (zs.drop k) x = (zs[k] == x || hasI (zs.drop (k + 1)) x) := by
  rw [List.drop_eq_getElem_cons h]; rfl
theorem hasI_end {zs : List Int} {k : Nat} (h : ¬ k < zs.length) (x : Int) : hasI (zs.drop k) x = false := by
  rw [List.drop_eq_nil_of_le (by omega)]; rfl
theorem findN_at {zs : List Cls} {k : Nat} (h : k < zs.length) (s : ByteArray) (j : Int) : findN (zs.drop k) s j = if zs[k].name = s then j else findN (zs.drop (k + 1)) s (j + 1) := by
  rw [List.drop_eq_getElem_cons h]; rfl
theorem findN_end {zs : List Cls} {k : Nat} (h : ¬ k < zs.length) (s : ByteArray) (j : Int) : findN (zs.drop k) s j = -1 := by
  rw [List.drop_eq_nil_of_le (by omega)]; rfl
theorem lowers_at {s : ByteArray} {k : Nat} (h : k < s.size) : lowers (s.data.toList.drop k) = (decide (97 ≤ s[k].toNat) && decide (s[k].toNat ≤ 122) && lowers (s.data.toList.drop (k + 1))) := by
  rw [List.drop_eq_getElem_cons (by simpa using h)]; rfl
theorem lowers_end {s : ByteArray} {k : Nat} (h : ¬ k < s.size) : lowers (s.data.toList.drop k) = true := by
  rw [List.drop_eq_nil_of_le (by simpa using h)]; rfl
end Go.Proofs.Ytpdggodmiliijaa
