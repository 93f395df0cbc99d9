/- Isolated faults: plain; indexOf of the model, slices.Index -/
import Derived.Test.YtildpenkanlcfaaRC
import Derived.Test.YtildpenkanlcfaaHpF
namespace Go.Proofs.Ytildpenkanlcfaa
open Go.RowKit

def idx : List Int → Int → Int → Int
  | [], _, _ => -1
  | y :: r, x, k => if y = x then k else idx r x (k + 1)
theorem idx_at {L : List Int} {k : Nat} (h : k < L.length) (x j : Int) : idx (L.drop k) x j = if L[k] = x then j else idx (L.drop (k + 1)) x (j + 1) := by
  rw [List.drop_eq_getElem_cons h]; rfl
theorem idx_end {L : List Int} {k : Nat} (h : ¬ k < L.length) (x j : Int) : idx (L.drop k) x j = -1 := by
  rw [List.drop_eq_nil_of_le (by omega)]; rfl
theorem idx_rng : ∀ (L : List Int) (x k : Int), 0 ≤ k → -1 ≤ idx L x k ∧ idx L x k < k + L.length + 1
  | [], x, k, h => by simp [idx]; omega
  | y :: r, x, k, h => by
    have := idx_rng r x (k + 1) (by omega)
    unfold idx
    split
    · simp; omega
    · simp; omega
def isoF (hs : List Flt) (L : List Int) (x : Int) : Flt :=
  match hs[x.toNat]? with
  | some y => ⟨y.cls, y.code, idx L y.cause 0, idx L y.ctx 0, y.hide⟩
  | none => ⟨0, 0, -1, -1, false⟩
theorem isoF_at {hs : List Flt} {L : List Int} {i : Nat} (h : i < hs.length) : isoF hs L (i : Int) = ⟨hs[i].cls, hs[i].code, idx L hs[i].cause 0, idx L hs[i].ctx 0, hs[i].hide⟩ := by
  unfold isoF; rw [Int.toNat_natCast, List.getElem?_eq_getElem h]
def isoL (hs : List Flt) (L : List Int) : List Flt := L.map (isoF hs L)
def isoX (xs : List Cls) (hs : List Flt) (f : Int) : List Flt := cond (goodF xs hs f) (isoL hs (reachL hs f)) []
def isoI (xs : List Cls) (hs : List Flt) (f : Int) : Int := cond (goodF xs hs f) (idx (reachL hs f) f 0) (-1)
theorem iso_of {xs : List Cls} {hs : List Flt} {f : Int} {t : Bool} (h : goodF xs hs f = t) : isoX xs hs f = cond t (isoL hs (reachL hs f)) [] ∧ isoI xs hs f = cond t (idx (reachL hs f) f 0) (-1) := by unfold isoX isoI; rw [h]; exact ⟨rfl, rfl⟩
theorem isoX_len (xs : List Cls) (hs : List Flt) (f : Int) : (isoX xs hs f).length ≤ 1048576 := by
  cases h : goodF xs hs f
  · rw [(iso_of h).1]; simp
  · rw [(iso_of h).1]
    obtain ⟨_, h1, _⟩ := goodF_lnk h
    have := ascOf_len (L := rch0 hs f) hs.length
    show ((reachL hs f).map (isoF hs (reachL hs f))).length ≤ _
    rw [List.length_map]
    show (ascOf (rch0 hs f) hs.length).length ≤ _
    omega
theorem isoF_ok {hs : List Flt} {L : List Int} (hok : ∀ x ∈ hs, Enc.ok x) (hl : L.length ≤ 1048576) (x : Int) : Enc.ok (isoF hs L x) := by
  unfold isoF
  split
  · next y hy =>
    have h := hok y (List.mem_of_getElem? hy)
    have a := idx_rng L y.cause 0 (by omega)
    have b := idx_rng L y.ctx 0 (by omega)
    exact ⟨h.1, h.2.1, h.2.2.1, h.2.2.2.1, by show (-9223372036854775808 : Int) ≤ idx L y.cause 0; omega, by show idx L y.cause 0 ≤ (9223372036854775807 : Int); omega, by show (-9223372036854775808 : Int) ≤ idx L y.ctx 0; omega, by show idx L y.ctx 0 ≤ (9223372036854775807 : Int); omega⟩
  · exact ⟨by decide, by decide, by decide, by decide, by decide, by decide, by decide, by decide⟩
theorem isoL_take {hs : List Flt} {L : List Int} {k : Nat} (hk : k < L.length) : (L.take k).map (isoF hs L) ++ [isoF hs L L[k]] = (L.take (k + 1)).map (isoF hs L) := by
  rw [List.take_succ_eq_append_getElem hk, List.map_append]; rfl

set_option maxRecDepth 100000 in
theorem sIndexOf_any (A : Option Addr) (n c : Nat) (L : List Int) (x : Int) (w : World) (hL : Sl w A n c L) (hn : n ≤ 1048576) :
    Calls Try.prog 63 #[.slice A n c, .int .i64 x] w fun e w' => e = .returned (.int .i64 (idx L x 0)) ∧ w = w' := by
  obtain rfl := hL.len
  go_enter Try.func63, Try.ntmps63
  go_wp2
  go_loop [5] (fun q => ∃ k : Nat, k ≤ L.length ∧ q = .int .i64 k ∧ idx L x 0 = idx (L.drop k) x k) (fun q => L.length - (intOf q).toNat)
  case atStart => exact ⟨0, Nat.zero_le _, rfl, rfl⟩
  case round =>
    obtain ⟨k, hk, rfl, hr⟩ := hrel
    by_cases hlt : k < L.length
    · obtain ⟨b, off, rfl, hb, hx, _, _⟩ := hL.int_at hlt
      rw [idx_at hlt] at hr
      by_cases he : L[k] = x
      · have hb1 : (L[k] == x) = true := by simpa using he
        rw [if_pos he] at hr
        have HR := Lib.hid hr; clear hr he
        generalize L[k] = y at *
        go_wp2
        go_ret
        exact ⟨ret_int HR.out.symm, rfl⟩
      · have hb1 : (L[k] == x) = false := by simpa using he
        rw [if_neg he] at hr
        have HR := Lib.hid hr; clear hr he
        generalize L[k] = y at *
        go_wp2
        go_round
        case rel => exact ⟨k + 1, by omega, by go_num, by rw [HR.out]; rfl⟩
        case measure => simp [intOf]; omega
    · rw [idx_end hlt] at hr
      have HR := Lib.hid hr; clear hr
      go_wp2
      go_ret
      exact ⟨ret_int HR.out.symm, rfl⟩
set_option maxRecDepth 100000 in
theorem iIndex_any (A : Option Addr) (n c : Nat) (L : List Int) (x : Int) (w : World) (hL : Sl w A n c L) (hn : n ≤ 1048576) :
    Calls Try.prog 64 #[.slice A n c, .int .i64 x] w fun e w' => e = .returned (.int .i64 (idx L x 0)) ∧ w = w' := by
  obtain rfl := hL.len
  go_enter Try.func64, Try.ntmps64
  go_wp2
  go_loop [5, 8] (fun _ q => ∃ k : Nat, k ≤ L.length ∧ q = .int .i64 k ∧ idx L x 0 = idx (L.drop k) x k) (fun _ q => L.length - (intOf q).toNat)
  case atStart => exact ⟨0, Nat.zero_le _, rfl, rfl⟩
  case round =>
    obtain ⟨k, hk, rfl, hr⟩ := hrel
    by_cases hlt : k < L.length
    · obtain ⟨b, off, rfl, hb, hx, _, _⟩ := hL.int_at hlt
      rw [idx_at hlt] at hr
      have hki : (k : Int) < (L.length : Int) := by omega
      by_cases he : L[k] = x
      · have hb1 : (x == L[k]) = true := by simpa using he.symm
        rw [if_pos he] at hr
        have HR := Lib.hid hr; clear hr he
        generalize L[k] = y at *
        go_wp2
        go_ret
        exact ⟨ret_int HR.out.symm, rfl⟩
      · have hb1 : (x == L[k]) = false := by simpa using (fun e => he e.symm)
        rw [if_neg he] at hr
        have HR := Lib.hid hr; clear hr he
        generalize L[k] = y at *
        go_wp2
        go_round
        case rel => exact ⟨k + 1, by omega, by go_num, by rw [HR.out]; rfl⟩
        case measure => simp [intOf]; omega
    · rw [idx_end hlt] at hr
      have HR := Lib.hid hr; clear hr
      go_wp2
      go_ret
      exact ⟨ret_int HR.out.symm, rfl⟩
end Go.Proofs.Ytildpenkanlcfaa
