/- slices.Index, slices.Contains of ints -/
import Derived.Test.YtacilbglnhgifaaA
import Derived.Test.YtacilbglnhgifaaKB
namespace Go.Proofs.Ytacilbglnhgifaa
open Go.RowKit
def idx : List Int → Int → Int → Int
  | [], _, _ => -1
  | y :: r, x, k => if y = x then k else idx r x (k + 1)
theorem idx_at {L : List Int} {k : Nat} (h : k < L.length) (x j : Int) : idx (L.drop k) x j = if L[k] = x then j else idx (L.drop (k + 1)) x (j + 1) := by
  rw [List.drop_eq_getElem_cons h]; rfl
theorem idx_end {L : List Int} {k : Nat} (h : ¬ k < L.length) (x j : Int) : idx (L.drop k) x j = -1 := by
  rw [List.drop_eq_nil_of_le (by omega)]; rfl
set_option maxRecDepth 100000 in
theorem iIndex_any (A : Option Addr) (n c : Nat) (L : List Int) (x : Int) (w : World) (hL : Sl w A n c L) (hn : n ≤ 1048576) :
    Calls Try.prog 78 #[.slice A n c, .int .i64 x] w fun e w' => e = .returned (.int .i64 (idx L x 0)) ∧ w = w' := by
  obtain rfl := hL.len
  go_enter Try.func78, Try.ntmps78
  go_wp2
  go_loop [5, 8] (fun _ q => ∃ k : Nat, k ≤ L.length ∧ q = .int .i64 k ∧ idx L x 0 = idx (L.drop k) x k) (fun _ q => L.length - (intOf q).toNat)
  case atStart => exact ⟨0, Nat.zero_le _, rfl, rfl⟩
  case round =>
    obtain ⟨k, hk, rfl, hr⟩ := hrel
    by_cases hlt : k < L.length
    · obtain ⟨b, off, rfl, hb, hx, _, _⟩ := hL.int_at hlt
      rw [idx_at hlt] at hr
      have hki : (k : Int) < (L.length : Int) := by omega
      by_cases he : L[k] = x
      · have hb1 : (x == L[k]) = true := by simpa using he.symm
        rw [if_pos he] at hr
        have HR := Lib.hid hr; clear hr he
        generalize L[k] = y at *
        go_wp2
        go_ret
        exact ⟨ret_int HR.out.symm, rfl⟩
      · have hb1 : (x == L[k]) = false := by simpa using (fun e => he e.symm)
        rw [if_neg he] at hr
        have HR := Lib.hid hr; clear hr he
        generalize L[k] = y at *
        go_wp2
        go_round
        case rel => exact ⟨k + 1, by omega, by go_num, by rw [HR.out]; rfl⟩
        case measure => simp [intOf]; omega
    · rw [idx_end hlt] at hr
      have HR := Lib.hid hr; clear hr
      go_wp2
      go_ret
      exact ⟨ret_int HR.out.symm, rfl⟩
theorem idx_mem : ∀ (L : List Int) (x k : Int), 0 ≤ k → (idx L x k ≥ 0 ↔ x ∈ L)
  | [], x, k, h => by unfold idx; simp
  | y :: r, x, k, h => by
    unfold idx
    by_cases e : y = x
    · rw [if_pos e]; exact ⟨fun _ => by rw [e]; exact List.mem_cons_self .., fun _ => h⟩
    · rw [if_neg e, idx_mem r x (k + 1) (by omega), List.mem_cons]
      exact ⟨.inr, fun h => h.resolve_left fun h => e h.symm⟩
set_option maxRecDepth 100000 in
theorem sIndexOf_any (A : Option Addr) (n c : Nat) (L : List Int) (x : Int) (w : World) (hL : Sl w A n c L) (hn : n ≤ 1048576) :
    Calls Try.prog 73 #[.slice A n c, .int .i64 x] w fun e w' => e = .returned (.int .i64 (idx L x 0)) ∧ w = w' := by
  obtain rfl := hL.len
  go_enter Try.func73, Try.ntmps73
  go_wp2
  go_loop [5] (fun q => ∃ k : Nat, k ≤ L.length ∧ q = .int .i64 k ∧ idx L x 0 = idx (L.drop k) x k) (fun q => L.length - (intOf q).toNat)
  case atStart => exact ⟨0, Nat.zero_le _, rfl, rfl⟩
  case round =>
    obtain ⟨k, hk, rfl, hr⟩ := hrel
    by_cases hlt : k < L.length
    · obtain ⟨b, off, rfl, hb, hx, _, _⟩ := hL.int_at hlt
      rw [idx_at hlt] at hr
      by_cases he : L[k] = x
      · have hb1 : (L[k] == x) = true := by simpa using he
        rw [if_pos he] at hr
        have HR := Lib.hid hr; clear hr he
        generalize L[k] = y at *
        go_wp2
        go_ret
        exact ⟨ret_int HR.out.symm, rfl⟩
      · have hb1 : (L[k] == x) = false := by simpa using he
        rw [if_neg he] at hr
        have HR := Lib.hid hr; clear hr he
        generalize L[k] = y at *
        go_wp2
        go_round
        case rel => exact ⟨k + 1, by omega, by go_num, by rw [HR.out]; rfl⟩
        case measure => simp [intOf]; omega
    · rw [idx_end hlt] at hr
      have HR := Lib.hid hr; clear hr
      go_wp2
      go_ret
      exact ⟨ret_int HR.out.symm, rfl⟩
end Go.Proofs.Ytacilbglnhgifaa
