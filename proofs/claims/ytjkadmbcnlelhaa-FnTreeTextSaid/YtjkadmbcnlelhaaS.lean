import Derived.Test.YtjkadmbcnlelhaaR
import Derived.Test.YtjkadmbcnlelhaaI
import Derived.Test.YtjkadmbcnlelhaaTyStr
namespace Go.Proofs.Ytjkadmbcnlelhaa
open Go.RowKit

def ReaderOut (w : World) (e : Ending) (w' : World) : Prop :=
  ∃ g A n cap bs, e = .returned (.pointer (some ⟨g, 0, none⟩)) ∧ w.heap.size ≤ g ∧ Rd w' g 0 A n cap bs ∧ Le w w'
theorem newReader_any (A : Option Addr) (n cap : Nat) (bs : List By) (w : World) (hR : Sl w A n cap bs) :
    Calls Try.prog 22 #[.slice A n cap] w (ReaderOut w) := by
  have hm := hR.n_le
  have hcp := hR.cap_
  have hoff : 0 < n → Off w.heap.size A := fun hn => by
    obtain ⟨b, off, e, hb, _⟩ := hR.at_ hn
    exact fun a ea => by rw [e] at ea; injection ea with ea; rw [← ea]; exact Nat.ne_of_lt hb
  have HO := Lib.hid hoff; clear hoff
  by_cases h : 2000 < n
  · have ht := hR.take_ 2000 (by omega)
    go_enter Try.func22, Try.ntmps22
    go_wp2
    go_ret
    refine ⟨w.heap.size, A, 2000, cap, bs.take 2000, rfl, Nat.le_refl _, ⟨?_, ht.alloc _, fun _ => HO.out (by omega), by omega⟩, Le.new w _⟩
    exact heap_alloc_new w _
  · go_enter Try.func22, Try.ntmps22
    go_wp2
    go_ret
    refine ⟨w.heap.size, A, n, cap, bs, rfl, Nat.le_refl _, ⟨?_, hR.alloc _, HO.out, by omega⟩, Le.new w _⟩
    exact heap_alloc_new w _

def OneOut (xs : List Int) (g p : Nat) (A : Option Addr) (n cap : Nat) (bs : List By) (w : World) (e : Ending) (w' : World) : Prop :=
  ∃ v : Int, e = .returned (.int .i64 v) ∧ v ∈ xs ∧ Rd w' g (p + 1) A n cap bs ∧ Gx g w w'
theorem one_any (B : Option Addr) (m c : Nat) (xs : List Int) (g p : Nat) (A : Option Addr) (n cap : Nat) (bs : List By) (w : World) (hm : 0 < m) (hm1 : m ≤ 1000) (hp : p ≤ 1000000) (hS : Sl w B m c xs) (ho : 0 < m → Off g B) (hR : Rd w g p A n cap bs) :
    Calls Try.prog 41 #[.pointer (some ⟨g, 0, none⟩), .slice B m c] w (OneOut xs g p A n cap bs w) := by
  have hl := hS.len
  have HL := Lib.hid hl; clear hl
  have hc0 := hS.n_le
  go_enter Try.func41, Try.ntmps41
  go_wp2_with fail
  refine (pick_any m g p A n cap bs w (by omega) (by omega) hp hR).mono ?_
  rintro e w1 ⟨v, rfl, hv0, hv1, hR1, hg1⟩
  have hS1 := hS.gx ho hg1
  obtain ⟨k, rfl⟩ := Int.eq_ofNat_of_zero_le hv0
  have hk : k < m := by rcases hv1 with h | h <;> omega
  obtain ⟨b, off, rfl, hb, hcell, hw1, hw2⟩ := hS1.int_at (k := k) (by have := HL.out; omega)
  have hmem : Hid (xs[k]'(by have := HL.out; omega) ∈ xs) := List.getElem_mem _
  go_wp2
  go_ret
  exact ⟨_, rfl, hmem.out, hR1, hg1⟩

def OfOut (xs : List ByteArray) (g p : Nat) (A : Option Addr) (n cap : Nat) (bs : List By) (w : World) (e : Ending) (w' : World) : Prop :=
  ∃ s : ByteArray, e = .returned (.string s) ∧ s ∈ xs ∧ Rd w' g (p + 1) A n cap bs ∧ Gx g w w'
theorem of_any (B : Option Addr) (m c : Nat) (xs : List ByteArray) (g p : Nat) (A : Option Addr) (n cap : Nat) (bs : List By) (w : World) (hm : 0 < m) (hm1 : m ≤ 1000) (hp : p ≤ 1000000) (hS : Sl w B m c xs) (ho : 0 < m → Off g B) (hR : Rd w g p A n cap bs) :
    Calls Try.prog 40 #[.pointer (some ⟨g, 0, none⟩), .slice B m c] w (OfOut xs g p A n cap bs w) := by
  have hl := hS.len
  have HL := Lib.hid hl; clear hl
  have hc0 := hS.n_le
  go_enter Try.func40, Try.ntmps40
  go_wp2_with fail
  refine (pick_any m g p A n cap bs w (by omega) (by omega) hp hR).mono ?_
  rintro e w1 ⟨v, rfl, hv0, hv1, hR1, hg1⟩
  have hS1 := hS.gx ho hg1
  obtain ⟨k, rfl⟩ := Int.eq_ofNat_of_zero_le hv0
  have hk : k < m := by rcases hv1 with h | h <;> omega
  obtain ⟨b, off, rfl, hb, hcell⟩ := hS1.str_at (k := k) (by have := HL.out; omega)
  have hmem : Hid (xs[k]'(by have := HL.out; omega) ∈ xs) := List.getElem_mem _
  go_wp2
  go_ret
  exact ⟨_, rfl, hmem.out, hR1, hg1⟩
end Go.Proofs.Ytjkadmbcnlelhaa
