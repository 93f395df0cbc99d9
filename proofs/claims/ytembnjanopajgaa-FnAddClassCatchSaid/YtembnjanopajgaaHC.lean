/- impl: handlersOf, handlers.first, handlers.catches -/
import Derived.Test.YtembnjanopajgaaHA
namespace Go.Proofs.Ytembnjanopajgaa
open Go.RowKit

/-- the node of a class -/
def pbAt (gs : List PB) (b : Int) : PB := gs.getD b.toNat ⟨0⟩
theorem pbAt_at {gs : List PB} {i : Nat} (h : i < gs.length) : pbAt gs (i : Int) = gs[i] := by
  unfold pbAt; rw [Int.toNat_natCast, List.getD_eq_getElem?_getD, List.getElem?_eq_getElem h]; rfl
theorem ptrOf_pb {gs : List PB} {b : Int} (h0 : 0 ≤ b) (h1 : b < gs.length) : ptrOf gs b = some ⟨(pbAt gs b).g, 0, none⟩ := by
  obtain ⟨i, rfl⟩ := Int.eq_ofNat_of_zero_le h0
  rw [ptrOf_at (by omega), pbAt_at (by omega)]

set_option maxRecDepth 100000 in
theorem closureF_any (gs : List PB) (xs : List Cls) (g : Good xs) (b : Int) (h0 : 0 ≤ b) (h1 : b < xs.length) (a : Int) (ha : a < xs.length) (ha0 : -1 ≤ a) (p : Nat) (w : World) (hN : Nds w gs xs)
    (cp : w.cell? ⟨p, 0, none⟩ = some (.pointer (ptrOf gs a))) :
    Calls Try.prog 115 #[.pointer (some ⟨(pbAt gs b).g, 0, none⟩), .pointer (some ⟨p, 0, none⟩)] w fun e w' => e = .returned (.bool (isAL xs a b)) ∧ w = w' := by
  obtain ⟨i, rfl⟩ := Int.eq_ofNat_of_zero_le h0
  have hi : i < gs.length := by have := hN.len; omega
  rw [pbAt_at hi]
  have hc := Lib.hid (catches_any gs xs g i hi a ha ha0 w hN)
  go_enter Try.func115, Try.ntmps115
  go_wp2_with fail
  refine hc.out.mono ?_
  rintro e w' ⟨rfl, rfl⟩
  go_wp2
  go_ret
  exact ⟨rfl, rfl⟩

theorem indexFuncH_any (A : Option Addr) (m cap : Nat) (gs : List PB) (xs : List Cls) (L : List Int) (g : Good xs) (hm : ∀ b ∈ L, 0 ≤ b ∧ b < xs.length) (a : Int) (ha : a < xs.length) (ha0 : -1 ≤ a) (p : Nat) (w : World) (hN : Nds w gs xs)
    (hS : Sl w A m cap (L.map (pbAt gs))) (cp : w.cell? ⟨p, 0, none⟩ = some (.pointer (ptrOf gs a))) :
    Calls Try.prog 114 #[.slice A m cap, .func (.func 115) #[] #[.pointer (some ⟨p, 0, none⟩)]] w fun e w' => e = .returned (.int .i64 (firstC xs L a 0)) ∧ w = w' := by
  have hl := hS.len
  have hlm : L.length = m := by rw [← hl]; simp
  have hmx := hS.n_le
  obtain rfl := hlm
  clear hl
  have HN := Lib.hid hN; clear hN
  go_enter Try.func114, Try.ntmps114
  go_wp2
  go_loop [8] (fun i => ∃ k : Nat, k ≤ L.length ∧ i = .int .i64 k ∧ firstC xs L a 0 = firstC xs (L.drop k) a k) (fun i => L.length - (intOf i).toNat)
  case atStart => exact ⟨0, Nat.zero_le _, rfl, rfl⟩
  case round =>
    obtain ⟨k, hk, rfl, hr⟩ := hrel
    have HR := Lib.hid hr; clear hr
    by_cases hlt : k < L.length
    · have hlt' : k < (L.map (pbAt gs)).length := by simpa using hlt
      obtain ⟨b, off, rfl, _, hcell⟩ := hS.pb_at hlt'
      rw [List.getElem_map] at hcell
      have hmem := hm L[k] (List.getElem_mem hlt)
      have HC := Lib.hid (closureF_any gs xs g L[k] hmem.1 hmem.2 a ha ha0 p w HN.out cp)
      have hat := firstC_at (xs := xs) hlt a k
      cases hi1 : isAL xs a L[k]
      · have HF : Hid (firstC xs L a 0 = firstC xs (L.drop (k + 1)) a ((k + 1 : Nat) : Int)) := by show _ = _; rw [HR.out, hat, hi1]; rfl
        clear hat
        go_wp2_with fail
        refine HC.out.mono ?_
        rintro e w' ⟨rfl, rfl⟩
        rw [hi1]
        go_wp2
        go_round
        case rel => exact ⟨k + 1, by omega, by go_num, HF.out⟩
        case measure => simp [intOf]; omega
      · have HF : Hid (firstC xs L a 0 = k) := by show _ = _; rw [HR.out, hat, hi1]; rfl
        clear hat
        go_wp2_with fail
        refine HC.out.mono ?_
        rintro e w' ⟨rfl, rfl⟩
        rw [hi1]
        go_wp2
        go_ret
        exact ⟨ret_int HF.out.symm, rfl⟩
    · have HF : Hid (firstC xs L a 0 = -1) := by show _ = _; rw [HR.out, firstC_end hlt]
      go_wp2
      go_ret
      exact ⟨ret_int HF.out.symm, rfl⟩

theorem first_any (A : Option Addr) (m cap : Nat) (gs : List PB) (xs : List Cls) (L : List Int) (g : Good xs) (hm : ∀ b ∈ L, 0 ≤ b ∧ b < xs.length) (a : Int) (ha : a < xs.length) (ha0 : -1 ≤ a) (w : World) (hN : Nds w gs xs)
    (hS : Sl w A m cap (L.map (pbAt gs))) :
    Calls Try.prog 113 #[.slice A m cap, .pointer (ptrOf gs a)] w fun e w' => e = .returned (.int .i64 (firstC xs L a 0)) ∧ Le w w' := by
  go_enter Try.func113, Try.ntmps113
  go_wp2_with fail
  refine (indexFuncH_any A m cap gs xs L g hm a ha ha0 _ _ (hN.le (Le.new w _)) (hS.alloc _) (by simp)).mono ?_
  rintro e w' ⟨rfl, rfl⟩
  go_wp2
  go_ret
  exact ⟨rfl, Le.new w _⟩
theorem hcatches_any (A : Option Addr) (m cap : Nat) (gs : List PB) (xs : List Cls) (L : List Int) (g : Good xs) (hm : ∀ b ∈ L, 0 ≤ b ∧ b < xs.length) (a : Int) (ha : a < xs.length) (ha0 : -1 ≤ a) (w : World) (hN : Nds w gs xs)
    (hS : Sl w A m cap (L.map (pbAt gs))) :
    Calls Try.prog 112 #[.slice A m cap, .pointer (ptrOf gs a)] w fun e w' => e = .returned (.bool (decide (0 ≤ firstC xs L a 0))) ∧ Le w w' := by
  go_enter Try.func112, Try.ntmps112
  go_wp2_with fail
  refine (first_any A m cap gs xs L g hm a ha ha0 _ hN hS).mono ?_
  rintro e w' ⟨rfl, hle⟩
  go_wp2
  go_ret
  exact ⟨rfl, hle⟩
end Go.Proofs.Ytembnjanopajgaa
