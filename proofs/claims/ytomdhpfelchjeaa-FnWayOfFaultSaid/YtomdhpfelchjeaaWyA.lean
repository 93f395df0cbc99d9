/- WyA: one text of PgW, Ix, PhTy, PhX -/
import Derived.Test.YtomdhpfelchjeaaPgA
import Derived.Test.YtomdhpfelchjeaaPhQ
import Derived.Test.YtomdhpfelchjeaaA
import Derived.Test.YtomdhpfelchjeaaKB
import Derived.Test.YtomdhpfelchjeaaPhW
import Derived.Test.YtomdhpfelchjeaaPhE
import Derived.Test.YtomdhpfelchjeaaPhJ
namespace Go.Proofs.Ytomdhpfelchjeaa
open Go.RowKit
section
/-- the last line of the try of a line LnTry if it is LnFinally -/
def finE (p : List Lin) (j : Nat) : Option Nat := match (parts p j).getLast? with | some k => if knd p k = 10 then some k else none | none => none
/-- the line at the end of the block of a line -/
def lastE (p : List Lin) (i : Nat) : Option Nat := if knd p i = 11 then some i else if knd p i = 12 ∨ knd p i = 10 then none else match tryAt p i with | some j => finE p j | none => none
def wayL (p : List Lin) (L : List Nat) : List Nat := L.filterMap (lastE p)
/-- the program's map of ends behind some lines -/
def eGo (p : List Lin) : Nat → Nat → Option Nat
  | 0, _ => none
  | k + 1, x => if knd p k = 11 then (if x = k then some k else eGo p k x) else if knd p k = 7 then (match finE p k with | some l => if x ∈ (parts p k).take ((parts p k).length - 1) then some l else eGo p k x | none => eGo p k x) else eGo p k x
theorem parts_ne (p : List Lin) (j : Nat) : parts p j ≠ [] := by unfold parts; simp
theorem parts_pos (p : List Lin) (j : Nat) : 0 < (parts p j).length := by unfold parts; simp
theorem getLast_idx {α : Type} {L : List α} (h : 0 < L.length) : L.getLast? = some (L[L.length - 1]'(by omega)) := by
  rw [List.getLast?_eq_getElem?, List.getElem?_eq_getElem]
/-- each line of a try but the last one is followed by one that may come behind it -/
theorem pt_take (p : List Lin) : ∀ (m k x : Nat) (d : Int), x ∈ (k :: ptGo p d m k).take (ptGo p d m k).length → ∃ y, mayF (knd p x) (knd p y) = true
  | 0, k, x, d, h => by simp [ptGo] at h
  | m + 1, k, x, d, h => by
    unfold ptGo at h
    split at h
    · next c =>
      rw [List.length_cons, List.take_succ_cons] at h
      rcases List.mem_cons.1 h with rfl | h
      · exact ⟨_, c.2.2⟩
      · exact pt_take p m _ x d h
    · simp at h
theorem parts_take {p : List Lin} {j x : Nat} (h : x ∈ (parts p j).take ((parts p j).length - 1)) : x ∈ parts p j ∧ knd p x ≠ 10 := by
  refine ⟨List.mem_of_mem_take h, fun e => ?_⟩
  obtain ⟨y, hy⟩ := pt_take p p.length j x (dep p j) (by unfold parts at h; simpa using h)
  have := mayF_iff.1 hy
  omega
theorem take_mem {α : Type} {L : List α} {x : α} (h : x ∈ L) (hl : ∀ y, L.getLast? = some y → x ≠ y) : x ∈ L.take (L.length - 1) := by
  obtain ⟨i, hi, rfl⟩ := List.mem_iff_getElem.1 h
  have hne : i ≠ L.length - 1 := fun e => hl _ (getLast_idx (by omega)) (by congr 1)
  rw [List.mem_iff_getElem]
  exact ⟨i, by rw [List.length_take]; omega, by rw [List.getElem_take]⟩
theorem finE_10 {p : List Lin} {j l : Nat} (h : finE p j = some l) : knd p l = 10 ∧ (parts p j).getLast? = some l := by
  unfold finE at h
  split at h
  · next k hk =>
    split at h
    · next c => injection h with h; subst h; exact ⟨c, hk⟩
    · cases h
  · cases h
theorem eGo_none {p : List Lin} {x : Nat} (h : knd p x ≠ 11) (h2 : ∀ j, knd p j = 7 → x ∈ (parts p j).take ((parts p j).length - 1) → finE p j = none) : ∀ k, eGo p k x = none
  | 0 => rfl
  | k + 1 => by
    have ih := eGo_none h h2 k
    unfold eGo
    split
    · next c => rw [if_neg (fun e => h (by rw [e]; exact c)), ih]
    · split
      · next c =>
        split
        · next l hl =>
          split
          · next hm => rw [h2 k c hm] at hl; cases hl
          · exact ih
        · exact ih
      · exact ih
theorem eGo_with {p : List Lin} {x : Nat} (h : knd p x = 11) : ∀ k, x < k → eGo p k x = some x
  | 0, hk => by omega
  | k + 1, hk => by
    unfold eGo
    by_cases e : x = k
    · subst e; rw [if_pos h, if_pos rfl]
    · have ih := eGo_with h k (by omega)
      split
      · (try rw [if_neg e]); exact ih
      · split
        · next c =>
          split
          · next l hl =>
            split
            · next hm =>
              rcases List.mem_cons.1 (List.mem_of_mem_take hm) with e2 | h2
              · exact absurd e2 e
              · obtain ⟨y, _, h4, _⟩ := pt_back p _ _ _ h2
                have := mayF_iff.1 h4
                omega
            · exact ih
          · exact ih
        · exact ih
theorem eGo_try {p : List Lin} {x j l : Nat} (h7 : knd p j = 7) (hm : x ∈ (parts p j).take ((parts p j).length - 1)) (hl : finE p j = some l) (hx : knd p x ≠ 11) : ∀ k, j < k → eGo p k x = some l
  | 0, hk => by omega
  | k + 1, hk => by
    unfold eGo
    by_cases e : j = k
    · subst e; rw [if_neg (by omega), if_pos h7, hl]; exact if_pos hm
    · have ih := eGo_try h7 hm hl hx k (by omega)
      split
      · next c => rw [if_neg (fun e => hx (by rw [e]; exact c))]; exact ih
      · split
        · next c =>
          split
          · next l2 hl2 =>
            split
            · next hm2 => exact absurd (try_uniq x x (Nat.le_refl _) ⟨h7, List.mem_of_mem_take hm⟩ ⟨c, List.mem_of_mem_take hm2⟩) e
            · exact ih
          · exact ih
        · exact ih
theorem eGo_last {xs : List Cls} {p : List Lin} (g : GoodP xs p) {x : Nat} (hx : x < p.length) (ho : opn (knd p x) = true) : eGo p p.length x = lastE p x := by
  have ho' := opn_iff.1 ho
  unfold lastE
  by_cases h11 : knd p x = 11
  · rw [if_pos h11]; exact eGo_with h11 _ hx
  rw [if_neg h11]
  by_cases h12 : knd p x = 12 ∨ knd p x = 10
  · rw [if_pos h12]
    refine eGo_none h11 (fun j h7 hm => ?_) _
    have h1 := parts_take hm
    rcases h12 with h | h
    · rcases List.mem_cons.1 h1.1 with rfl | h2
      · omega
      · obtain ⟨y, _, h4, _⟩ := pt_back p _ _ _ h2
        have := mayF_iff.1 h4
        omega
    · exact absurd h h1.2
  rw [if_neg h12]
  obtain ⟨j, hj⟩ := tryAt_has g.tries hx (by
    by_cases h7 : knd p x = 7
    · exact .inl h7
    · exact .inr (fol_iff.2 (by omega)))
  rw [hj]
  have ht := tryAt_is hj
  show _ = finE p j
  cases hf : finE p j with
  | none => exact eGo_none h11 (fun k h7 hm => by rw [try_uniq x x (Nat.le_refl _) ⟨h7, List.mem_of_mem_take hm⟩ ht]; exact hf) _
  | some l =>
    have hl := finE_10 hf
    refine eGo_try ht.1 (take_mem ht.2 (fun y hy e => ?_)) hf h11 _ (by have := try_le x x (Nat.le_refl _) ht; omega)
    rw [hl.2] at hy; injection hy with hy
    subst hy
    subst e
    exact h12 (.inr hl.1)
/-! the lines around a line open blocks, each one less deep -/
theorem enGo_opn {p : List Lin} (H : ∀ i, i < p.length → depS p i) : ∀ (k : Nat) (d : Int), k < p.length → d ≤ dep p k → ∀ x ∈ enGo p d k, opn (knd p x) = true
  | 0, _, _, _, x, h => by cases h
  | k + 1, d, hk, hd, x, h => by
    have ih := fun d h1 h2 => enGo_opn H k d h1 h2
    unfold enGo at h
    have a := (H (k + 1) hk).2.2 k rfl
    split at h
    · next c =>
      rcases List.mem_cons.1 h with rfl | h
      · exact a.2.2 (by omega)
      · exact ih _ (by omega) (Int.le_refl _) x h
    · next c => exact ih d (by omega) (by omega) x h
theorem good_dep {xs : List Cls} {p : List Lin} (g : GoodP xs p) : ∀ i, i < p.length → depS p i := fun i hi => (g.line i hi).2.1
theorem encl_opn {xs : List Cls} {p : List Lin} (g : GoodP xs p) {i : Nat} (hi : i < p.length) : ∀ x ∈ encl p i, opn (knd p x) = true := enGo_opn (good_dep g) i _ hi (Int.le_refl _)
theorem enGo_deep {p : List Lin} (H : ∀ i, i < p.length → depS p i) : ∀ (k : Nat) (d : Int), k < p.length → 0 ≤ d → d ≤ dep p k → ((enGo p d k).length : Int) = d ∧ ∀ j (h : j < (enGo p d k).length), dep p (enGo p d k)[j] = d - 1 - j
  | 0, d, hk, h0, hd => by
    have := (H 0 hk).2.1 rfl
    exact ⟨by show ((0 : Nat) : Int) = d; omega, fun j h => by exact absurd h (Nat.not_lt_zero j)⟩
  | k + 1, d, hk, h0, hd => by
    have a := (H (k + 1) hk).2.2 k rfl
    rw [enGo_succ]
    by_cases c : dep p k < d
    · rw [if_pos c]
      have hdk : dep p k = d - 1 := by omega
      have hk0 := (H k (by omega)).1.1
      obtain ⟨h1, h2⟩ := enGo_deep H k (dep p k) (by omega) hk0 (Int.le_refl _)
      refine ⟨by rw [List.length_cons]; omega, fun j h => ?_⟩
      cases j with
      | zero => rw [List.getElem_cons_zero]; omega
      | succ j =>
        rw [List.getElem_cons_succ, h2 j (by simpa using h)]; omega
    · rw [if_neg c]
      exact enGo_deep H k d (by omega) h0 (by omega)
theorem encl_deep {xs : List Cls} {p : List Lin} (g : GoodP xs p) {i : Nat} (hi : i < p.length) : ((encl p i).length : Int) = dep p i ∧ ∀ j (h : j < (encl p i).length), dep p (encl p i)[j] = dep p i - 1 - j := enGo_deep (good_dep g) i _ hi (good_dep g i hi).1.1 (Int.le_refl _)
end

section
def idx : List Int → Int → Int → Int
  | [], _, _ => -1
  | y :: r, x, k => if y = x then k else idx r x (k + 1)
theorem idx_at {L : List Int} {k : Nat} (h : k < L.length) (x j : Int) : idx (L.drop k) x j = if L[k] = x then j else idx (L.drop (k + 1)) x (j + 1) := by
  rw [List.drop_eq_getElem_cons h]; rfl
theorem idx_end {L : List Int} {k : Nat} (h : ¬ k < L.length) (x j : Int) : idx (L.drop k) x j = -1 := by
  rw [List.drop_eq_nil_of_le (by omega)]; rfl
theorem idx_mem : ∀ (L : List Int) (x k : Int), 0 ≤ k → (idx L x k ≥ 0 ↔ x ∈ L)
  | [], x, k, h => by unfold idx; simp
  | y :: r, x, k, h => by
    unfold idx
    by_cases e : y = x
    · rw [if_pos e]; exact ⟨fun _ => by rw [e]; exact List.mem_cons_self .., fun _ => h⟩
    · rw [if_neg e, idx_mem r x (k + 1) (by omega), List.mem_cons]
      exact ⟨.inr, fun h => h.resolve_left fun h => e h.symm⟩
set_option maxRecDepth 100000 in
theorem sIndexOf_any (A : Option Addr) (n c : Nat) (L : List Int) (x : Int) (w : World) (hL : Sl w A n c L) (hn : n ≤ 1048576) :
    Calls Try.prog 43 #[.slice A n c, .int .i64 x] w fun e w' => e = .returned (.int .i64 (idx L x 0)) ∧ w = w' := by
  obtain rfl := hL.len
  go_enter Try.func43, Try.ntmps43
  go_wp2
  go_loop [5] (fun q => ∃ k : Nat, k ≤ L.length ∧ q = .int .i64 k ∧ idx L x 0 = idx (L.drop k) x k) (fun q => L.length - (intOf q).toNat)
  case atStart => exact ⟨0, Nat.zero_le _, rfl, rfl⟩
  case round =>
    obtain ⟨k, hk, rfl, hr⟩ := hrel
    by_cases hlt : k < L.length
    · obtain ⟨b, off, rfl, hb, hx, _, _⟩ := hL.int_at hlt
      rw [idx_at hlt] at hr
      by_cases he : L[k] = x
      · have hb1 : (L[k] == x) = true := by simpa using he
        rw [if_pos he] at hr
        have HR := Lib.hid hr; clear hr he
        generalize L[k] = y at *
        go_wp2
        go_ret
        exact ⟨ret_int HR.out.symm, rfl⟩
      · have hb1 : (L[k] == x) = false := by simpa using he
        rw [if_neg he] at hr
        have HR := Lib.hid hr; clear hr he
        generalize L[k] = y at *
        go_wp2
        go_round
        case rel => exact ⟨k + 1, by omega, by go_num, by rw [HR.out]; rfl⟩
        case measure => simp [intOf]; omega
    · rw [idx_end hlt] at hr
      have HR := Lib.hid hr; clear hr
      go_wp2
      go_ret
      exact ⟨ret_int HR.out.symm, rfl⟩
end

section
set_option maxHeartbeats 1000000 in
theorem tryOf_any (A : Option Addr) (n cap : Nat) (p : List Lin) (i j : Nat) (hi : i < p.length) (ht : IsTry p j i) (hsm : p.length ≤ 1048576) (w : World) (hR : Sl w A n cap p) :
    Calls Try.prog 90 #[.slice A n cap, .int .i64 i] w fun e w' => e = .returned (.int .i64 j) ∧ Le w w' := by
  obtain rfl := hR.len
  go_enter Try.func90, Try.ntmps90
  go_wp2
  go_loopw [1] (fun ii wr => ∃ x : Nat, ii = .int .i64 x ∧ x < p.length ∧ IsTry p j x ∧ Le w wr) (fun ii _ => (intOf ii + 1).toNat)
  case atStart => exact ⟨i, rfl, hi, ht, Le.refl _⟩
  case round =>
    obtain ⟨x, rfl, hx, hty, hle⟩ := hrel
    have T := hR.le hle
    obtain ⟨b, off, rfl, hb, d0, d1, -⟩ := T.lin_at hx
    have hx0 : (0 : Int) ≤ (x : Int) := by omega
    have hxn : (x : Int) < (p.length : Int) := by omega
    rcases try_step hty with ⟨h7, rfl⟩ | ⟨hf, y, hy, hyx, -, hty2⟩
    · rw [knd_at hx] at h7
      rw [h7] at d1
      have h7b : ((7 : Int) != 7) = false := rfl
      clear h7 ht hty
      go_wp2
      go_ret
      exact ⟨rfl, hle⟩
    · rw [knd_at hx] at hf
      have h7b : (p[x].kind != 7) = true := by
        have := fol_iff.1 hf
        simp; omega
      have HTY := Lib.hid hty2
      have HY := Lib.hid hy
      generalize p[x].kind = vk at *
      clear hf ht hty hty2 hy
      generalize wr = W0 at *
      go_wp2_with fail
      refine (headOf_any _ p.length cap p x hx (by omega) W0 T).mono ?_
      rintro e w2 ⟨rfl, hle2⟩
      rw [HY.out]
      go_wp2
      go_roundw
      case rel => exact ⟨y, rfl, by omega, HTY.out, hle.trans hle2⟩
      case measure => simp [intOf]; omega
def tyX (xs : List Cls) (p : List Lin) (i : Int) : List Int := cond (glB xs p i) (match tryAt p i.toNat with | some j => nI (parts p j) | none => []) []
theorem tyX_len (xs : List Cls) (p : List Lin) (i : Int) : (tyX xs p i).length ≤ 1048576 := by
  unfold tyX
  cases h : glB xs p i
  · simp
  · obtain ⟨h1, k, rfl, hk⟩ := glB_iff.1 h
    have h2 := (goodP_of h1).len
    show (match tryAt p (k : Int).toNat with | some j => nI (parts p j) | none => []).length ≤ _
    cases tryAt p (k : Int).toNat with
    | none => simp
    | some j =>
      have := parts_len p j
      show (nI _).length ≤ _
      rw [nI_len]; omega
theorem tyX_none {xs : List Cls} {p : List Lin} {k : Nat} (h : glB xs p k = true) (h2 : tryAt p k = none) : tyX xs p k = [] := by
  unfold tyX; rw [h, Int.toNat_natCast, h2]; rfl
theorem tyX_some {xs : List Cls} {p : List Lin} {k j : Nat} (h : glB xs p k = true) (h2 : tryAt p k = some j) : tyX xs p k = nI (parts p j) := by
  unfold tyX; rw [h, Int.toNat_natCast, h2]; rfl
theorem nI_contains (L : List Nat) (x : Nat) : (nI L).contains (x : Int) = L.contains x := by
  rw [Bool.eq_iff_iff, List.contains_iff_mem, List.contains_iff_mem]
  unfold nI
  rw [List.mem_map]
  exact ⟨fun ⟨y, hy, e⟩ => by rw [← Int.ofNat.inj e]; exact hy, fun h => ⟨x, h, rfl⟩⟩
theorem tyGo_yes {p : List Lin} {i j : Nat} (h7 : knd p j = 7) (hm : (parts p j).contains i = true) : tyGo p i (j + 1) = some j := by
  unfold tyGo; rw [if_pos ⟨h7, List.contains_iff_mem.1 hm⟩]
theorem tyGo_no {p : List Lin} {i j : Nat} (h : knd p j ≠ 7 ∨ (parts p j).contains i = false) : tyGo p i (j + 1) = tyGo p i j := by
  show (if _ then _ else _) = _
  rw [if_neg]
  rintro ⟨h1, h2⟩
  rcases h with h | h
  · exact h h1
  · rw [List.contains_iff_mem.2 h2] at h; cases h
end

section
/-- the place of the first loop of some lines -/
def loN (p : List Lin) : List Nat → Int → Int
  | [], _ => -1
  | x :: r, k => if knd p x = 12 then k else loN p r (k + 1)
/-- the first loop of some lines -/
def loA (p : List Lin) : List Nat → Int
  | [] => -1
  | x :: r => if knd p x = 12 then (x : Int) else loA p r
theorem loN_at {p : List Lin} {L : List Nat} {k : Nat} (h : k < L.length) (z : Int) : loN p (L.drop k) z = if knd p L[k] = 12 then z else loN p (L.drop (k + 1)) (z + 1) := by rw [List.drop_eq_getElem_cons h]; rfl
theorem loN_end {p : List Lin} {L : List Nat} {k : Nat} (h : ¬ k < L.length) (z : Int) : loN p (L.drop k) z = -1 := by rw [List.drop_eq_nil_of_le (by omega)]; rfl
theorem loA_at {p : List Lin} {L : List Nat} {k : Nat} (h : k < L.length) : loA p (L.drop k) = if knd p L[k] = 12 then (L[k] : Int) else loA p (L.drop (k + 1)) := by rw [List.drop_eq_getElem_cons h]; rfl
theorem loA_end {p : List Lin} {L : List Nat} {k : Nat} (h : ¬ k < L.length) : loA p (L.drop k) = -1 := by rw [List.drop_eq_nil_of_le (by omega)]; rfl
theorem lo_two (p : List Lin) : ∀ (L : List Nat) (z : Nat), (loN p L z = -1 ∧ loA p L = -1) ∨ ∃ j : Nat, ∃ h : j < L.length, loN p L z = ((z + j : Nat) : Int) ∧ loA p L = (L[j] : Int)
  | [], z => .inl ⟨rfl, rfl⟩
  | x :: r, z => by
    unfold loN loA
    by_cases h : knd p x = 12
    · rw [if_pos h, if_pos h]
      exact .inr ⟨0, by simp, by simp, rfl⟩
    · rw [if_neg h, if_neg h]
      rcases lo_two p r (z + 1) with ⟨h1, h2⟩ | ⟨j, hj, h1, h2⟩
      · exact .inl ⟨h1, h2⟩
      · exact .inr ⟨j + 1, by simpa using hj, by rw [show ((z : Int) + 1) = ((z + 1 : Nat) : Int) by omega, h1]; omega, by rw [h2]; rfl⟩
theorem closureL_any (A : Option Addr) (n cap : Nat) (p : List Lin) (x : Nat) (hx : x < p.length) (g : Nat) (w : World) (hR : Sl w A n cap p) (hg : w.cell? ⟨g, 0, none⟩ = some (.slice A n cap)) :
    Calls Try.prog 71 #[.int .i64 x, .pointer (some ⟨g, 0, none⟩)] w fun e w' => e = .returned (.bool (p[x].kind == 12)) ∧ Le w w' := by
  obtain rfl := hR.len
  obtain ⟨b, off, rfl, hb, c0, c1, -⟩ := hR.lin_at hx
  have hx0 : (0 : Int) ≤ (x : Int) := by omega
  have hxn : (x : Int) < (p.length : Int) := by omega
  go_enter Try.func71, Try.ntmps71
  go_wp2
  go_ret
  exact ⟨rfl, Le.refl _⟩
set_option maxHeartbeats 1000000 in
theorem indexFuncL_any (A C : Option Addr) (n cap m c : Nat) (p : List Lin) (L : List Nat) (g : Nat) (w : World) (hR : Sl w A n cap p) (hL : Sl w C m c (nI L)) (hlt : ∀ x ∈ L, x < p.length) (hg : w.cell? ⟨g, 0, none⟩ = some (.slice A n cap)) (hgl : g < w.heap.size) :
    Calls Try.prog 70 #[.slice C m c, .func (.func 71) #[] #[.pointer (some ⟨g, 0, none⟩)]] w fun e w' => e = .returned (.int .i64 (loN p L 0)) ∧ Le w w' := by
  obtain rfl := hR.len
  have hlen := hL.len
  rw [nI_len] at hlen
  obtain rfl := hlen
  have hm := hL.n_le
  have HLT := Lib.hid hlt; clear hlt
  go_enter Try.func70, Try.ntmps70
  go_wp2
  go_loopw [8] (fun i wr => ∃ k : Nat, k ≤ L.length ∧ i = .int .i64 k ∧ loN p L 0 = loN p (L.drop k) k ∧ Le w wr) (fun i _ => L.length - (intOf i).toNat)
  case atStart => exact ⟨0, Nat.zero_le _, rfl, rfl, Le.refl _⟩
  case round =>
    obtain ⟨k, hk, rfl, hr, hle⟩ := hrel
    have HR := Lib.hid hr; clear hr
    have hRr := hR.le hle
    have hLr := hL.le hle
    have hgr := (hle.cell hgl).trans hg
    clear hR hL hg
    by_cases hl : k < L.length
    · obtain ⟨b, off, rfl, _, hcell, -⟩ := hLr.int_at (k := k) (by rw [nI_len]; exact hl)
      rw [nI_at hl] at hcell
      have hx := HLT.out L[k] (List.getElem_mem hl)
      have HK := Lib.hid (knd_at hx)
      have HC := Lib.hid (fun U (hU : Sl U A p.length cap p) (hc : U.cell? ⟨g, 0, none⟩ = some (.slice A p.length cap)) => closureL_any A p.length cap p L[k] hx g U hU hc)
      have HN := Lib.hid (loN_at (p := p) hl (k : Int))
      generalize L[k] = x at *
      generalize p[x].kind = vk at *
      by_cases he : vk = 12
      · have he' : (vk == 12) = true := by simpa using he
        have HF : Hid (loN p L 0 = k) := by show _ = _; rw [HR.out, HN.out, HK.out, if_pos he]
        clear he
        go_wp2_with (go_at_call 71; refine (HC.out _ hRr hgr).mono ?_; rintro e w' ⟨rfl, hw1⟩)
        go_ret
        exact ⟨ret_int HF.out.symm, hle.trans hw1⟩
      · have he' : (vk == 12) = false := by simpa using he
        have HF : Hid (loN p L 0 = loN p (L.drop (k + 1)) ((k + 1 : Nat) : Int)) := by show _ = _; rw [HR.out, HN.out, HK.out, if_neg he]; rfl
        clear he
        go_wp2_with (go_at_call 71; refine (HC.out _ hRr hgr).mono ?_; rintro e w' ⟨rfl, hw1⟩)
        go_roundw
        case rel => exact ⟨k + 1, by omega, by go_num, HF.out, hle.trans hw1⟩
        case measure => simp [intOf]; omega
    · have HF : Hid (loN p L 0 = -1) := by show _ = _; rw [HR.out, loN_end hl]
      go_wp2
      go_ret
      exact ⟨ret_int HF.out.symm, hle⟩
theorem loopAt_any (A C : Option Addr) (n cap m c : Nat) (p : List Lin) (L : List Nat) (w : World) (hR : Sl w A n cap p) (hL : Sl w C m c (nI L)) (hlt : ∀ x ∈ L, x < p.length) :
    Calls Try.prog 38 #[.slice A n cap, .slice C m c] w fun e w' => e = .returned (.int .i64 (loN p L 0)) ∧ Le w w' := by
  go_enter Try.func38, Try.ntmps38
  go_wp2_with fail
  refine (indexFuncL_any A C n cap m c p L _ _ (hR.alloc _) (hL.alloc _) hlt (by simp) (by simp)).mono ?_
  rintro e w' ⟨rfl, hw1⟩
  go_wp2
  go_ret
  exact ⟨rfl, (Le.new w _).trans hw1⟩
def loX (xs : List Cls) (p : List Lin) (i : Int) : Int := cond (glB xs p i) (loA p (encl p i.toNat)) (-1)
set_option maxHeartbeats 1000000 in
theorem iLoopOf_any (B A : Option Addr) (m c n cap : Nat) (xs : List Cls) (p : List Lin) (i : Int) (hm : m ≤ 1048576) (w : World) (hT : Sl w B m c xs) (hR : Sl w A n cap p) :
    Calls Try.prog 14 #[.agg #[.slice B m c], .slice A n cap, .int .i64 i] w fun e w' => e = .returned (.int .i64 (loX xs p i)) ∧ Le w w' := by
  have HX : Hid (loX xs p i = cond (glB xs p i) (loA p (encl p i.toNat)) (-1)) := rfl
  go_enter Try.func14, Try.ntmps14
  go_wp2_with fail
  obtain ⟨ct, zt, hleB⟩ := box1 w (.slice B m c) 25
  have L0 := hleB
  clear hleB
  generalize w.alloc (.cells #[.slice B m c] 25) = W at *
  refine (hasLine_any B A m c n cap xs p i hm _ (hT.le L0) (hR.le L0)).mono ?_
  rintro e w1 ⟨rfl, hle⟩
  have L1 := L0.trans hle
  cases h : glB xs p i
  · have HF : Hid (loX xs p i = -1) := by show _ = _; rw [HX.out, h]; rfl
    go_wp2
    go_ret
    exact ⟨ret_int HF.out.symm, L1⟩
  · obtain ⟨h1, k, rfl, hk⟩ := glB_iff.1 h
    have hp := (goodP_of h1).len
    have HY : Hid (loX xs p k = loA p (encl p k)) := by show _ = _; rw [HX.out, h]; rfl
    have HEL : Hid (∀ x ∈ encl p k, x < p.length) := fun x hx => by have := encl_lt x hx; omega
    clear HX
    go_wp2_with fail
    refine (headsOf_any A n cap p k hk (by omega) w1 (hR.le L1)).mono ?_
    rintro e w2 ⟨v, rfl, D, hle2⟩
    obtain ⟨A2, q2, rfl, S2, -⟩ := D.form (by decide)
    have L2 := L1.trans hle2
    rw [nI_len] at S2 ⊢
    have hel := encl_len p k
    generalize encl p k = E at *
    clear D
    go_wp2_with fail
    refine (loopAt_any A A2 n cap _ q2 p E w2 (hR.le L2) S2 HEL.out).mono ?_
    rintro e w3 ⟨rfl, hle3⟩
    have L3 := L2.trans hle3
    have S3 := S2.le hle3
    rcases lo_two p E 0 with ⟨h2, h3⟩ | ⟨j, hj, h2, h3⟩
    · have h2' : loN p E 0 = -1 := h2
      rw [h2']
      have HF : Hid (loX xs p k = -1) := by show _ = _; rw [HY.out, h3]
      clear h2 h2' h3
      go_wp2
      go_ret
      exact ⟨ret_int HF.out.symm, L3⟩
    · have h2' : loN p E 0 = (j : Int) := by rw [show (0 : Int) = ((0 : Nat) : Int) from rfl, h2]; omega
      rw [h2']
      have HF : Hid (loX xs p k = (E[j] : Int)) := by show _ = _; rw [HY.out, h3]
      obtain ⟨b, off, rfl, hb, hc, -⟩ := S3.int_at (k := j) (by rw [nI_len]; exact hj)
      rw [nI_at hj] at hc
      generalize E[j] = x at *
      have hj0 : (0 : Int) ≤ (j : Int) := by omega
      have hjn : (j : Int) < (E.length : Int) := by omega
      clear h2 h2' h3
      go_wp2
      go_ret
      exact ⟨ret_int HF.out.symm, L3⟩
set_option maxHeartbeats 1000000 in
theorem sLoopOf_any (B A : Option Addr) (m c n cap : Nat) (xs : List Cls) (p : List Lin) (i : Int) (hsm : p.length ≤ 1048576) (w : World) (hT : Sl w B m c xs) (hR : Sl w A n cap p) :
    Calls Try.prog 40 #[.agg #[.slice B m c], .slice A n cap, .int .i64 i] w fun e w' => e = .returned (.int .i64 (loX xs p i)) ∧ Le w w' := by
  have HX : Hid (loX xs p i = cond (glB xs p i) (loA p (encl p i.toNat)) (-1)) := rfl
  go_enter Try.func40, Try.ntmps40
  go_wp2_with fail
  obtain ⟨ct, zt, hleB⟩ := box1 w (.slice B m c) 25
  have L0 := hleB
  clear hleB
  generalize w.alloc (.cells #[.slice B m c] 25) = W at *
  refine (goodLine_any B A m c n cap xs p i hsm _ (hT.le L0) (hR.le L0)).mono ?_
  rintro e w1 ⟨rfl, hle⟩
  have L1 := L0.trans hle
  cases h : glB xs p i
  · have HF : Hid (loX xs p i = -1) := by show _ = _; rw [HX.out, h]; rfl
    go_wp2
    go_ret
    exact ⟨ret_int HF.out.symm, L1⟩
  · obtain ⟨h1, k, rfl, hk⟩ := glB_iff.1 h
    have hp := (goodP_of h1).len
    have HY : Hid (loX xs p k = loA p (encl p k)) := by show _ = _; rw [HX.out, h]; rfl
    have HEL : Hid (∀ x ∈ encl p k, x < p.length) := fun x hx => by have := encl_lt x hx; omega
    clear HX
    go_wp2_with fail
    refine (enclosing_any A n cap p k hk (by omega) w1 (hR.le L1)).mono ?_
    rintro e w2 ⟨v, rfl, D, hle2⟩
    obtain ⟨A2, q2, rfl, S2, -⟩ := D.form (by decide)
    have L2 := L1.trans hle2
    rw [nI_len] at S2 ⊢
    have hel := encl_len p k
    generalize encl p k = E at *
    obtain rfl := hR.len
    have S0 := hR.le L2
    clear D hR
    go_wp2
    go_loopw [8] (fun q wr => ∃ j : Nat, j ≤ E.length ∧ q = .int .i64 j ∧ loA p E = loA p (E.drop j) ∧ Le w2 wr) (fun q _ => E.length - (intOf q).toNat)
    case atStart => exact ⟨0, Nat.zero_le _, rfl, rfl, Le.refl _⟩
    case round =>
      obtain ⟨j, hj, rfl, hr, hle3⟩ := hrel
      have HR := Lib.hid hr; clear hr
      have T := S0.le hle3
      have S3 := S2.le hle3
      clear S2 S0
      by_cases hl : j < E.length
      · obtain ⟨b, off, rfl, _, hcell, -⟩ := S3.int_at (k := j) (by rw [nI_len]; exact hl)
        rw [nI_at hl] at hcell
        have hx := HEL.out E[j] (List.getElem_mem hl)
        have HK := Lib.hid (knd_at hx)
        have HN := Lib.hid (loA_at (p := p) hl)
        obtain ⟨b2, off2, rfl, _, d0, d1, -⟩ := T.lin_at hx
        generalize E[j] = x at *
        generalize p[x].kind = vk at *
        have hx0 : (0 : Int) ≤ (x : Int) := by omega
        have hxn : (x : Int) < (p.length : Int) := by omega
        by_cases he : vk = 12
        · have he' : (vk == 12) = true := by simpa using he
          have HF : Hid (loX xs p k = (x : Int)) := by show _ = _; rw [HY.out, HR.out, HN.out, HK.out, if_pos he]
          clear he
          go_wp2
          go_ret
          exact ⟨ret_int HF.out.symm, L2.trans hle3⟩
        · have he' : (vk == 12) = false := by simpa using he
          have HF : Hid (loA p E = loA p (E.drop (j + 1))) := by show _ = _; rw [HR.out, HN.out, HK.out, if_neg he]
          clear he
          go_wp2
          go_roundw
          case rel => exact ⟨j + 1, by omega, by go_num, HF.out, hle3⟩
          case measure => simp [intOf]; omega
      · have HF : Hid (loX xs p k = -1) := by show _ = _; rw [HY.out, HR.out, loA_end hl]
        go_wp2
        go_ret
        exact ⟨ret_int HF.out.symm, L2.trans hle3⟩
end
end Go.Proofs.Ytomdhpfelchjeaa
