/- what iWayOut_any, iWayOfFault_any, encl_deep, encl_opn, Calls.sl1w need of WoA, WoB -/
import Derived.Test.YtgjlmfjmjglplaaGreatFj19
import Derived.Test.YtgjlmfjmjglplaaGreatFj26
import Derived.Test.YtgjlmfjmjglplaaGreatFj10
import Derived.Test.YtgjlmfjmjglplaaGreatFj17
import Derived.Test.YtgjlmfjmjglplaaGreatFj1
import Derived.Test.YtgjlmfjmjglplaaGreatFj2
import Derived.Test.YtgjlmfjmjglplaaGreatFj13
import Derived.Test.YtgjlmfjmjglplaaGreatFj21
import Derived.Test.YtgjlmfjmjglplaaGreatFj12
import Derived.Test.YtgjlmfjmjglplaaGreatFj20
import Derived.Test.YtgjlmfjmjglplaaGreatFj18
import Derived.Test.YtgjlmfjmjglplaaGreatFj4
import Derived.Test.YtgjlmfjmjglplaaGreatFj15
import Derived.WalkMore
import Derived.Scope
import Derived.Deep.LoopGhost
import Derived.Maps.OwnOps
import Derived.Maps.OwnSet
import Derived.Maps.Views
namespace Go.Proofs.YtgjlmfjmjglplaaGreat
open Go.RowKit Go.Maps
/-- the last line of the try of a line LnTry if it is LnFinally -/
def finE (p : List Lin) (j : Nat) : Option Nat := match (parts p j).getLast? with | some k => if knd p k = 10 then some k else none | none => none
/-- the line at the end of the block of a line -/
def lastE (p : List Lin) (i : Nat) : Option Nat := if knd p i = 11 then some i else if knd p i = 12 ∨ knd p i = 10 then none else match tryAt p i with | some j => finE p j | none => none
def wayL (p : List Lin) (L : List Nat) : List Nat := L.filterMap (lastE p)
/-- the program's map of ends behind some lines -/
def eGo (p : List Lin) : Nat → Nat → Option Nat
  | 0, _ => none
  | k + 1, x => if knd p k = 11 then (if x = k then some k else eGo p k x) else if knd p k = 7 then (match finE p k with | some l => if x ∈ (parts p k).take ((parts p k).length - 1) then some l else eGo p k x | none => eGo p k x) else eGo p k x
theorem parts_pos (p : List Lin) (j : Nat) : 0 < (parts p j).length := by unfold parts; simp
theorem getLast_idx {α : Type} {L : List α} (h : 0 < L.length) : L.getLast? = some (L[L.length - 1]'(by omega)) := by
  rw [List.getLast?_eq_getElem?, List.getElem?_eq_getElem]
/-- each line of a try but the last one is followed by one that may come behind it -/
theorem pt_take (p : List Lin) : ∀ (m k x : Nat) (d : Int), x ∈ (k :: ptGo p d m k).take (ptGo p d m k).length → ∃ y, mayF (knd p x) (knd p y) = true
  | 0, k, x, d, h => by simp [ptGo] at h
  | m + 1, k, x, d, h => by
    unfold ptGo at h
    split at h
    · next c =>
      rw [List.length_cons, List.take_succ_cons] at h
      rcases List.mem_cons.1 h with rfl | h
      · exact ⟨_, c.2.2⟩
      · exact pt_take p m _ x d h
    · simp at h
theorem parts_take {p : List Lin} {j x : Nat} (h : x ∈ (parts p j).take ((parts p j).length - 1)) : x ∈ parts p j ∧ knd p x ≠ 10 := by
  refine ⟨List.mem_of_mem_take h, fun e => ?_⟩
  obtain ⟨y, hy⟩ := pt_take p p.length j x (dep p j) (by unfold parts at h; simpa using h)
  have := mayF_iff.1 hy
  omega
theorem take_mem {α : Type} {L : List α} {x : α} (h : x ∈ L) (hl : ∀ y, L.getLast? = some y → x ≠ y) : x ∈ L.take (L.length - 1) := by
  obtain ⟨i, hi, rfl⟩ := List.mem_iff_getElem.1 h
  have hne : i ≠ L.length - 1 := fun e => hl _ (getLast_idx (by omega)) (by congr 1)
  rw [List.mem_iff_getElem]
  exact ⟨i, by rw [List.length_take]; omega, by rw [List.getElem_take]⟩
theorem finE_10 {p : List Lin} {j l : Nat} (h : finE p j = some l) : knd p l = 10 ∧ (parts p j).getLast? = some l := by
  unfold finE at h
  split at h
  · next k hk =>
    split at h
    · next c => injection h with h; subst h; exact ⟨c, hk⟩
    · cases h
  · cases h
theorem eGo_none {p : List Lin} {x : Nat} (h : knd p x ≠ 11) (h2 : ∀ j, knd p j = 7 → x ∈ (parts p j).take ((parts p j).length - 1) → finE p j = none) : ∀ k, eGo p k x = none
  | 0 => rfl
  | k + 1 => by
    have ih := eGo_none h h2 k
    unfold eGo
    split
    · next c => rw [if_neg (fun e => h (by rw [e]; exact c)), ih]
    · split
      · next c =>
        split
        · next l hl =>
          split
          · next hm => rw [h2 k c hm] at hl; cases hl
          · exact ih
        · exact ih
      · exact ih
theorem eGo_with {p : List Lin} {x : Nat} (h : knd p x = 11) : ∀ k, x < k → eGo p k x = some x
  | 0, hk => by omega
  | k + 1, hk => by
    unfold eGo
    by_cases e : x = k
    · subst e; rw [if_pos h, if_pos rfl]
    · have ih := eGo_with h k (by omega)
      split
      · (try rw [if_neg e]); exact ih
      · split
        · next c =>
          split
          · next l hl =>
            split
            · next hm =>
              rcases List.mem_cons.1 (List.mem_of_mem_take hm) with e2 | h2
              · exact absurd e2 e
              · obtain ⟨y, _, h4, _⟩ := pt_back p _ _ _ h2
                have := mayF_iff.1 h4
                omega
            · exact ih
          · exact ih
        · exact ih
theorem eGo_try {p : List Lin} {x j l : Nat} (h7 : knd p j = 7) (hm : x ∈ (parts p j).take ((parts p j).length - 1)) (hl : finE p j = some l) (hx : knd p x ≠ 11) : ∀ k, j < k → eGo p k x = some l
  | 0, hk => by omega
  | k + 1, hk => by
    unfold eGo
    by_cases e : j = k
    · subst e; rw [if_neg (by omega), if_pos h7, hl]; exact if_pos hm
    · have ih := eGo_try h7 hm hl hx k (by omega)
      split
      · next c => rw [if_neg (fun e => hx (by rw [e]; exact c))]; exact ih
      · split
        · next c =>
          split
          · next l2 hl2 =>
            split
            · next hm2 => exact absurd (try_uniq x x (Nat.le_refl _) ⟨h7, List.mem_of_mem_take hm⟩ ⟨c, List.mem_of_mem_take hm2⟩) e
            · exact ih
          · exact ih
        · exact ih
theorem eGo_last {xs : List Cls} {p : List Lin} (g : GoodP xs p) {x : Nat} (hx : x < p.length) (ho : opn (knd p x) = true) : eGo p p.length x = lastE p x := by
  have ho' := opn_iff.1 ho
  unfold lastE
  by_cases h11 : knd p x = 11
  · rw [if_pos h11]; exact eGo_with h11 _ hx
  rw [if_neg h11]
  by_cases h12 : knd p x = 12 ∨ knd p x = 10
  · rw [if_pos h12]
    refine eGo_none h11 (fun j h7 hm => ?_) _
    have h1 := parts_take hm
    rcases h12 with h | h
    · rcases List.mem_cons.1 h1.1 with rfl | h2
      · omega
      · obtain ⟨y, _, h4, _⟩ := pt_back p _ _ _ h2
        have := mayF_iff.1 h4
        omega
    · exact absurd h h1.2
  rw [if_neg h12]
  obtain ⟨j, hj⟩ := tryAt_has g.tries hx (by
    by_cases h7 : knd p x = 7
    · exact .inl h7
    · exact .inr (fol_iff.2 (by omega)))
  rw [hj]
  have ht := tryAt_is hj
  show _ = finE p j
  cases hf : finE p j with
  | none => exact eGo_none h11 (fun k h7 hm => by rw [try_uniq x x (Nat.le_refl _) ⟨h7, List.mem_of_mem_take hm⟩ ht]; exact hf) _
  | some l =>
    have hl := finE_10 hf
    refine eGo_try ht.1 (take_mem ht.2 (fun y hy e => ?_)) hf h11 _ (by have := try_le x x (Nat.le_refl _) ht; omega)
    rw [hl.2] at hy; injection hy with hy
    subst hy
    subst e
    exact h12 (.inr hl.1)
theorem enGo_opn {p : List Lin} (H : ∀ i, i < p.length → depS p i) : ∀ (k : Nat) (d : Int), k < p.length → d ≤ dep p k → ∀ x ∈ enGo p d k, opn (knd p x) = true
  | 0, _, _, _, x, h => by cases h
  | k + 1, d, hk, hd, x, h => by
    have ih := fun d h1 h2 => enGo_opn H k d h1 h2
    unfold enGo at h
    have a := (H (k + 1) hk).2.2 k rfl
    split at h
    · next c =>
      rcases List.mem_cons.1 h with rfl | h
      · exact a.2.2 (by omega)
      · exact ih _ (by omega) (Int.le_refl _) x h
    · next c => exact ih d (by omega) (by omega) x h
theorem good_dep {xs : List Cls} {p : List Lin} (g : GoodP xs p) : ∀ i, i < p.length → depS p i := fun i hi => (g.line i hi).2.1
theorem encl_opn {xs : List Cls} {p : List Lin} (g : GoodP xs p) {i : Nat} (hi : i < p.length) : ∀ x ∈ encl p i, opn (knd p x) = true := enGo_opn (good_dep g) i _ hi (Int.le_refl _)
theorem enGo_deep {p : List Lin} (H : ∀ i, i < p.length → depS p i) : ∀ (k : Nat) (d : Int), k < p.length → 0 ≤ d → d ≤ dep p k → ((enGo p d k).length : Int) = d ∧ ∀ j (h : j < (enGo p d k).length), dep p (enGo p d k)[j] = d - 1 - j
  | 0, d, hk, h0, hd => by
    have := (H 0 hk).2.1 rfl
    exact ⟨by show ((0 : Nat) : Int) = d; omega, fun j h => by exact absurd h (Nat.not_lt_zero j)⟩
  | k + 1, d, hk, h0, hd => by
    have a := (H (k + 1) hk).2.2 k rfl
    rw [enGo_succ]
    by_cases c : dep p k < d
    · rw [if_pos c]
      have hdk : dep p k = d - 1 := by omega
      have hk0 := (H k (by omega)).1.1
      obtain ⟨h1, h2⟩ := enGo_deep H k (dep p k) (by omega) hk0 (Int.le_refl _)
      refine ⟨by rw [List.length_cons]; omega, fun j h => ?_⟩
      cases j with
      | zero => rw [List.getElem_cons_zero]; omega
      | succ j =>
        rw [List.getElem_cons_succ, h2 j (by simpa using h)]; omega
    · rw [if_neg c]
      exact enGo_deep H k d (by omega) h0 (by omega)
theorem encl_deep {xs : List Cls} {p : List Lin} (g : GoodP xs p) {i : Nat} (hi : i < p.length) : ((encl p i).length : Int) = dep p i ∧ ∀ j (h : j < (encl p i).length), dep p (encl p i)[j] = dep p i - 1 - j := enGo_deep (good_dep g) i _ hi (good_dep g i hi).1.1 (Int.le_refl _)
theorem finE_at {p : List Lin} {j k : Nat} (h : (parts p j).length = k + 1) : finE p j = if knd p ((parts p j)[k]'(by omega)) = 10 then some ((parts p j)[k]'(by omega)) else none := by
  have h2 : (parts p j).getLast? = some ((parts p j)[k]'(by omega)) := by
    have e : (parts p j).length - 1 = k := by omega
    rw [List.getLast?_eq_getElem?, e, List.getElem?_eq_getElem (by omega)]
  unfold finE; rw [h2]
theorem lastE_lt {p : List Lin} {i k : Nat} (hi : i < p.length) (h : lastE p i = some k) : k < p.length := by
  unfold lastE at h
  split at h
  · injection h with h; omega
  · split at h
    · cases h
    · split at h
      · next j hj =>
        have hl := (finE_10 h).2
        have hm := List.mem_of_getLast? hl
        have hj2 : j < p.length := by have := try_le i i (Nat.le_refl _) (tryAt_is hj); omega
        exact parts_lt hj2 k hm
      · cases h
theorem wayL_drop {p : List Lin} {L : List Nat} {k : Nat} (h : k < L.length) : wayL p (L.take (k + 1)) = wayL p (L.take k) ++ (match lastE p L[k] with | some x => [x] | none => []) := by
  unfold wayL
  rw [List.take_succ_eq_append_getElem h, List.filterMap_append]
  congr 1
  simp only [List.filterMap_cons, List.filterMap_nil]
  cases lastE p L[k] <;> rfl
theorem wayL_len (p : List Lin) (L : List Nat) : (wayL p L).length ≤ L.length := List.length_filterMap_le _ _
theorem wayL_lt {p : List Lin} {L : List Nat} (hL : ∀ x ∈ L, x < p.length) : ∀ y ∈ wayL p L, y < p.length := fun y hy => by
  obtain ⟨x, hx, h⟩ := List.mem_filterMap.1 hy
  exact lastE_lt (hL x hx) h
theorem lawI : Keyed Tryz.prog 3 := int_keyed Tryz.underlying3
theorem zeroI (w : World) : (zeroValue 3).run Tryz.prog w = .ok (.int .i64 0) w := by kernel_rfl
theorem wfI {n : Nat} (h : n ≤ 1048576) : (Lit.int .i64 (n : Int)).wf = true := by simp [Lit.wf, IntKind.min, IntKind.max, IntKind.signed, IntKind.bits]; omega
/-- a map reads as a function of numbers -/
def MapIs (D : DataW Unit) (f : Nat → Option Nat) : Prop := IsMap D ∧ ∀ x : Nat, Go.Maps.has D (.int .i64 x) = (f x).isSome ∧ ∀ y, f x = some y → D.atKey (.int .i64 x) (.lit (.int .i64 0)) = .lit (.int .i64 y)
theorem MapIs.empty : MapIs (.map []) (fun _ => none) := ⟨isMap_empty, fun _ => ⟨rfl, fun _ h => nomatch h⟩⟩
theorem MapIs.put {D : DataW Unit} {f : Nat → Option Nat} (h : MapIs D f) (x y : Nat) {g : Nat → Option Nat} (hg : ∀ z, g z = if z = x then some y else f z) : MapIs (D.put (.int .i64 x) (.lit (.int .i64 y))) g := by
  refine ⟨h.1.put _ _, fun z => ?_⟩
  rw [hg z]
  by_cases e : z = x
  · subst e
    rw [if_pos rfl]
    exact ⟨has_put_same (k := .int .i64 (z : Int)) h.1 trivial _, fun y' hy => by injection hy with hy; subst hy; exact atKey_put_same (k := .int .i64 (z : Int)) h.1 trivial _ _⟩
  · rw [if_neg e]
    have hne : (Lit.int .i64 (z : Int)) ≠ Lit.int .i64 (x : Int) := fun e2 => e (by injection e2 with _ e2; omega)
    exact ⟨(has_put_other hne _).trans (h.2 z).1, fun y' hy => (atKey_put_other hne _ _).trans ((h.2 z).2 y' hy)⟩
theorem MapIs.congr {D : DataW Unit} {f g : Nat → Option Nat} (h : MapIs D f) (e : ∀ z, g z = f z) : MapIs D g := by
  have : g = f := funext e
  rw [this]; exact h
/-- the lines of a try but the last one put into the map, some of them yet -/
def tkE (f : Nat → Option Nat) (L : List Nat) (l t z : Nat) : Option Nat := if z ∈ L.take t then some l else f z
theorem tkE_0 (f : Nat → Option Nat) (L : List Nat) (l z : Nat) : tkE f L l 0 z = f z := by unfold tkE; rw [if_neg (by simp)]
theorem tkE_succ (f : Nat → Option Nat) (L : List Nat) (l : Nat) {t : Nat} (h : t < L.length) (z : Nat) : tkE f L l (t + 1) z = if z = L[t] then some l else tkE f L l t z := by
  unfold tkE
  rw [List.take_succ_eq_append_getElem h]
  by_cases e : z = L[t]
  · rw [if_pos (by rw [e]; exact List.mem_append.2 (.inr (List.mem_singleton.2 rfl))), if_pos e]
  · rw [if_neg e]
    by_cases h2 : z ∈ L.take t
    · rw [if_pos h2, if_pos (List.mem_append.2 (.inl h2))]
    · rw [if_neg h2, if_neg (fun h3 => by rcases List.mem_append.1 h3 with h3 | h3; exact h2 h3; exact e (by simpa using h3))]
theorem eGo_11 {p : List Lin} {k : Nat} (h : knd p k = 11) (x : Nat) : eGo p (k + 1) x = if x = k then some k else eGo p k x := if_pos h
theorem eGo_no {p : List Lin} {k : Nat} (h : knd p k ≠ 11) (h7 : knd p k ≠ 7) (x : Nat) : eGo p (k + 1) x = eGo p k x := by show (if _ then _ else _) = _; rw [if_neg h, if_neg h7]
theorem eGo_7n {p : List Lin} {k : Nat} (h7 : knd p k = 7) (hf : finE p k = none) (x : Nat) : eGo p (k + 1) x = eGo p k x := by show (if _ then _ else _) = _; rw [if_neg (by omega), if_pos h7, hf]
theorem eGo_7s {p : List Lin} {k l : Nat} (h7 : knd p k = 7) (hf : finE p k = some l) (x : Nat) : eGo p (k + 1) x = tkE (eGo p k) (parts p k) l ((parts p k).length - 1) x := by show (if _ then _ else _) = _; rw [if_neg (by omega), if_pos h7, hf]; rfl
def EndsOut (p : List Lin) (w : World) (e : Ending) (w' : World) : Prop := ∃ (b m : Nat) (D : DataW Unit), e = .returned (.map (some b)) ∧ w'.ownsMap Tryz.prog 3 (plainElem Tryz.prog 3) b m D ∧ MapIs D (eGo p p.length) ∧ Le w w'
set_option maxHeartbeats 4000000 in
set_option maxRecDepth 100000 in
theorem endsOf_any (A : Option Addr) (n cap : Nat) (p : List Lin) (hp : p.length ≤ 24) (w : World) (hR : Sl w A n cap p) : Calls Tryz.prog 44 #[.slice A n cap] w (EndsOut p w) := by
  obtain rfl := hR.len
  have hmm := @run_makeMap Tryz.prog
  go_enter Tryz.func44, Tryz.ntmps44
  go_wp2
  have HM0 := World.ownsMap_made (H := Unit) w Tryz.prog 3 (plainElem Tryz.prog 3)
  have L0 := Le.new w (.map #[] 0)
  go_loopw [4, 5, 6, 7, 9, 13] (fun _ _ _ _ _ q wr => ∃ (k m : Nat) (D : DataW Unit), k ≤ p.length ∧ q = .int .i64 k ∧ m ≤ k * 100 ∧ wr.ownsMap Tryz.prog 3 (plainElem Tryz.prog 3) w.heap.size m D ∧ MapIs D (eGo p k) ∧ Le w wr) (fun _ _ _ _ _ q _ => p.length - (intOf q).toNat)
  case atStart => exact ⟨0, 0, _, Nat.zero_le _, rfl, Nat.le_refl _, HM0, MapIs.empty, L0⟩
  case round =>
    obtain ⟨k, m, D, hk, rfl, hm, hown, hD, L⟩ := hrel
    clear HM0 L0 hmm
    have HD := Lib.hid hD
    have T := hR.le L
    clear hD
    by_cases hlt : k < p.length
    · obtain ⟨b, off, rfl, hb, d0, d1, d2, d3, -⟩ := T.lin_at hlt
      have HK := Lib.hid (knd_at hlt)
      have X11 := Lib.hid (eGo_11 (p := p) (k := k))
      have XNO := Lib.hid (eGo_no (p := p) (k := k))
      have X7N := Lib.hid (eGo_7n (p := p) (k := k))
      have X7S := Lib.hid (fun l => eGo_7s (p := p) (k := k) (l := l))
      have hk0 : (0 : Int) ≤ (k : Int) := by omega
      have hkn : (k : Int) < (p.length : Int) := by omega
      generalize p[k].depth = vd at *
      generalize p[k].kind = vk at *
      generalize p[k].a = va at *
      generalize p[k].b = vb at *
      obtain ⟨x0, x1, z0, hle2⟩ := box4 wr (.int .i64 vd) (.int .i64 vk) (.int .i64 va) (.int .i64 vb) 31
      have hown2 := hown.alloc (.cells #[.int .i64 vd, .int .i64 vk, .int .i64 va, .int .i64 vb] 31)
      have L2 := L.trans hle2
      have T2 := T.le hle2
      have wfk := wfI (n := k) (by omega)
      by_cases h11 : vk = 11
      · have HE : Hid (∀ x, eGo p (k + 1) x = if x = k then some k else eGo p k x) := X11.out (by rw [HK.out]; exact h11)
        subst h11
        clear X11 XNO X7N X7S
        go_wp2_with (at_mapUpdate; refine wpList_mapUpdate_own _ rfl _ _ _ 80 rfl 3 3 lawI Tryz.underlying80 _ w.heap.size m _ rfl hown2 (by unfold maxLen; omega) _ _ _ rfl rfl (keyOf_int_mk Tryz.underlying3 wfk) _ [] (plainElem_int Tryz.underlying3 wfk) ?_; intro w1 hown1 hgrow1; have L3 := L2.grown hgrow1 (fun j hj => by injection hj with hj; omega))
        go_roundw
        case rel => exact ⟨k + 1, m + 1, _, by omega, by go_num, by omega, hown1, HD.out.put k k HE.out, L3⟩
        case measure => simp [intOf]; omega
      · have h11b : (vk == 11) = false := by simpa using h11
        by_cases h7 : vk = 7
        · have h7k := HK.out.trans h7
          subst h7
          have HN := Lib.hid (X7N.out h7k)
          have HS := Lib.hid (fun l h => X7S.out l h7k h)
          obtain ⟨j, hj⟩ : ∃ j, (parts p k).length = j + 1 := ⟨(parts p k).length - 1, by have := parts_pos p k; omega⟩
          have HFA := Lib.hid (finE_at hj)
          have hplen := parts_len p k
          have HPL := Lib.hid (parts_lt hlt)
          clear X11 XNO X7N X7S h11 h7k
          go_wp2_with fail
          refine (partsOf_any _ p.length cap p k hlt (by omega) _ T2).mono ?_
          rintro e w3 ⟨v, rfl, D3, hle3⟩
          have own3 := hown2.kept (w' := w3) (row := none) ⟨hle3.os, hle3.tape, hle3.output, hle3.size, fun i hi _ => Below.block hle3 i hi⟩ (by simp)
          have L3 := L2.trans hle3
          have T3 := T2.le hle3
          obtain ⟨A3, q3, rfl, S3, hB3⟩ := D3.form (by decide)
          have hjl : j < (nI (parts p k)).length := by rw [nI_len]; omega
          obtain ⟨b3, off3, rfl, hb3, c3, -⟩ := S3.int_at hjl
          have hjp : j < (parts p k).length := by omega
          rw [nI_at hjp] at c3
          rw [nI_len, hj] at S3 ⊢
          have hzl : (parts p k)[j] < p.length := HPL.out _ (List.getElem_mem hjp)
          have hex : ∃ Z, (parts p k)[j] = Z := ⟨_, rfl⟩
          obtain ⟨Z, hZ0⟩ := hex
          have HFA2 : Hid (finE p k = if knd p Z = 10 then some Z else none) := by show _ = _; rw [HFA.out, hZ0]
          rw [hZ0] at c3 hzl
          clear HFA hZ0
          have HKZ := Lib.hid (knd_at hzl)
          obtain ⟨bz, offz, ez, hbz, -, z1, -⟩ := T3.lin_at hzl
          cases ez
          have hj0 : (0 : Int) ≤ (j : Int) := by omega
          have hjn : (j : Int) < (j : Int) + 1 := by omega
          have hz0 : (0 : Int) ≤ (Z : Int) := by omega
          have hzn : (Z : Int) < (p.length : Int) := by omega
          have hjk : j ≤ 100 := by omega
          generalize p[Z].kind = vz at *
          have hb3w : w.heap.size < b3 := by have h1 := (hB3 b3 rfl).1; have h2 := hown2.lt; omega
          clear D3 x0 x1 z0 hle2 hle3 hown hown2 L L2 hB3
          by_cases hv : vz = 10
          · have hf : finE p k = some Z := by rw [HFA2.out, if_pos (by rw [HKZ.out]; exact hv)]
            have HE := Lib.hid (HS.out Z hf)
            have S4 := S3.take_ j (by omega)
            have hjq : j ≤ q3 := by have := S3.cap_; omega
            have wfz := wfI (n := Z) (by omega)
            have HTS := Lib.hid (fun t (h : t < (parts p k).length) => tkE_succ (eGo p k) (parts p k) Z h)
            have HT0 : Hid (MapIs D (tkE (eGo p k) (parts p k) Z 0)) := HD.out.congr (tkE_0 _ _ _)
            have HJ := Lib.hid hj
            subst hv
            clear hf HN HS HFA2 hjl hjp hj
            go_wp2
            go_loopw [9, 48] (fun _ q wx => ∃ (t m2 : Nat) (D2 : DataW Unit), t ≤ j ∧ q = .int .i64 t ∧ m2 ≤ k * 100 + t ∧ wx.ownsMap Tryz.prog 3 (plainElem Tryz.prog 3) w.heap.size m2 D2 ∧ MapIs D2 (tkE (eGo p k) (parts p k) Z t) ∧ w3.grownBy wx (some w.heap.size)) (fun _ q _ => j - (intOf q).toNat)
            case atStart => exact ⟨0, m, D, Nat.zero_le _, rfl, by omega, own3, HT0.out, World.grownBy.refl _ _⟩
            case round =>
              obtain ⟨t, m2, D2, ht, rfl, hm2, hown4, hD4, hgr⟩ := hrel
              have HD4 := Lib.hid hD4
              clear hD4 own3 HT0 HD
              by_cases hlt2 : t < j
              · have htp : t < (parts p k).length := by have := HJ.out; omega
                have HST := Lib.hid (HTS.out t htp)
                obtain ⟨b4, off4, e4, -, c4, -⟩ := S3.int_at (k := t) (by rw [nI_len]; exact htp)
                cases e4
                rw [nI_at htp] at c4
                have hxl := HPL.out _ (List.getElem_mem htp)
                generalize (parts p k)[t] = x at *
                have c5 := (hgr.cell (a := ⟨b3, off3 + t, none⟩) c4 (fun e => by have e2 : b3 = w.heap.size := (by injection e); omega))
                have wfx := wfI (n := x) (by omega)
                have ht0 : (0 : Int) ≤ (t : Int) := by omega
                have htj : (t : Int) < (j : Int) := by omega
                go_wp2_with (at_mapUpdate; refine wpList_mapUpdate_own _ rfl _ _ _ 80 rfl 3 3 lawI Tryz.underlying80 _ w.heap.size m2 _ rfl hown4 (by unfold maxLen; omega) _ _ _ rfl rfl (keyOf_int_mk Tryz.underlying3 wfx) _ [] (plainElem_int Tryz.underlying3 wfz) ?_; intro w1 hown1 hgrow1; have hgr2 := hgr.trans hgrow1)
                go_roundw
                case rel => exact ⟨t + 1, m2 + 1, _, by omega, by go_num, by omega, hown1, HD4.out.put x Z HST.out, hgr2⟩
                case measure => simp [intOf]; omega
              · obtain rfl : t = j := by omega
                have HF : Hid (∀ z, eGo p (k + 1) z = tkE (eGo p k) (parts p k) Z t z) := fun z => by rw [HE.out z, HJ.out, Nat.add_sub_cancel]
                have L5 := L3.grown hgr (fun j hj => by injection hj with hj; omega)
                go_wp2
                go_roundw
                case rel => exact ⟨k + 1, m2, D2, by omega, by go_num, by omega, hown4, HD4.out.congr HF.out, L5⟩
                case measure => simp [intOf]; omega
          · have hvb : (vz != 10) = true := by simpa using hv
            have hf : finE p k = none := by rw [HFA2.out, if_neg (by rw [HKZ.out]; exact hv)]
            have HE := Lib.hid (HN.out hf)
            clear hf HN HS HFA2 hv
            go_wp2
            go_roundw
            case rel => exact ⟨k + 1, m, D, by omega, by go_num, by omega, own3, HD.out.congr HE.out, L3⟩
            case measure => simp [intOf]; omega
        · have h7b : (vk == 7) = false := by simpa using h7
          have HE : Hid (∀ x, eGo p (k + 1) x = eGo p k x) := XNO.out (by rw [HK.out]; exact h11) (by rw [HK.out]; exact h7)
          clear X11 XNO X7N X7S h11 h7
          go_wp2
          go_roundw
          case rel => exact ⟨k + 1, m, D, by omega, by go_num, by omega, hown2, HD.out.congr HE.out, L2⟩
          case measure => simp [intOf]; omega
    · obtain rfl : k = p.length := by omega
      go_wp2
      go_ret
      exact ⟨_, m, D, rfl, hown, HD.out, L⟩
set_option maxHeartbeats 4000000 in
set_option maxRecDepth 100000 in
theorem wayThrough_any (A B : Option Addr) (n cap m c : Nat) (xs : List Cls) (p : List Lin) (L : List Nat) (hL : ∀ x ∈ L, x < p.length) (hLl : L.length ≤ 1048576) (g : GoodP xs p) (ho : ∀ x ∈ L, opn (knd p x) = true) (w : World) (hR : Sl w A n cap p) (hS : Sl w B m c (nI L)) :
    Calls Tryz.prog 23 #[.slice A n cap, .slice B m c] w fun e w' => ∃ v, e = .returned v ∧ Owd 3 w w' v (nI (wayL p L)) ∧ Le w w' := by
  have hml := hS.len
  rw [nI_len] at hml
  subst hml
  obtain ⟨i0, hq, hz0, hz1, hz2⟩ := info_parts intInfoB
  have hp := g.len
  have HLT := Lib.hid hL
  have HLA : Hid (∀ x ∈ L, eGo p p.length x = lastE p x) := fun x hx => eGo_last g (hL x hx) (ho x hx)
  have HLW := Lib.hid (fun k (h : k < L.length) => wayL_drop (p := p) (L := L) h)
  have HLN := Lib.hid (fun k => wayL_len p (L.take k))
  have HOK : Hid (∀ y ∈ nI (wayL p L), Enc.ok y) := nI_ok (wayL_lt hL) (by omega)
  clear ho hL g
  go_enter Tryz.func23, Tryz.ntmps23
  go_wp2_with fail
  refine (endsOf_any A n cap p hp w hR).mono ?_
  rintro e w1 ⟨mb, mn, D, rfl, hown, hD, hle⟩
  have S1 := hS.le hle
  have hs1 := hle.size
  have HDM := Lib.hid hD
  have hbl := hown.lt
  clear hD
  go_wp2
  go_loopw [6, 8, 9, 10, 15] (fun v _ _ _ kk wr => ∃ k : Nat, k ≤ L.length ∧ kk = .int .i64 k ∧ wr.ownsRow w1.heap.size 3 1 v (wayL p (L.take k)).length ((nI (wayL p (L.take k))).flatMap Enc.cells) ∧ Le w1 wr) (fun _ _ _ _ kk _ => L.length - (intOf kk).toNat)
  case atStart => exact ⟨0, Nat.zero_le _, rfl, World.ownsRow_nil _ _ _ _, Le.refl _⟩
  case round =>
    obtain ⟨k, hk, rfl, O1, L1⟩ := hrel
    have S := S1.le L1
    have own1 := hown.kept (w' := wr) (row := none) ⟨L1.os, L1.tape, L1.output, L1.size, fun i hi _ => Below.block L1 i hi⟩ (by simp)
    clear hown S1
    by_cases hlt : k < L.length
    · have hol : (wayL p (L.take k)).length ≤ 1048576 := by have := HLN.out k; rw [List.length_take] at this; omega
      have HST := Lib.hid (HLW.out k hlt)
      obtain ⟨b, off, e1, hb, c0, -⟩ := S.int_at (k := k) (by rw [nI_len]; exact hlt)
      cases e1
      rw [nI_at hlt] at c0
      have hxl := HLT.out _ (List.getElem_mem hlt)
      have HXL := Lib.hid (HLA.out _ (List.getElem_mem hlt))
      generalize L[k] = x at *
      generalize hWT : wayL p (L.take k) = WT at *
      clear hWT
      have hk0 : (0 : Int) ≤ (k : Int) := by omega
      have hkn : (k : Int) < (L.length : Int) := by omega
      have wfx := wfI (n := x) (by omega)
      have hh := (HDM.out.2 x).1
      have hv := (HDM.out.2 x).2
      rw [HXL.out] at hh hv
      have HV := Lib.hid hv
      have HH := Lib.hid hh
      clear hh hv
      cases hx : lastE p x with
      | none =>
        have HF : Hid (wayL p (L.take (k + 1)) = WT) := by show _ = _; rw [HST.out, hx]; exact List.append_nil _
        have hhf : Go.Maps.has D (.int .i64 x) = false := by rw [HH.out, hx]; rfl
        clear hx
        go_wp2_with (at_lookup; refine wpList_lookup_own_ok_int _ rfl _ _ 80 rfl 3 3 .i64 lawI Tryz.underlying80 Tryz.underlying3 (zeroI _) mb mn D rfl own1 _ _ rfl (keyOf_int_mk Tryz.underlying3 wfx) ?_; intro c hat hwc; rw [hhf])
        go_roundw
        case rel => exact ⟨k + 1, by omega, by go_num, by rw [HF.out]; exact O1, L1⟩
        case measure => simp [intOf]; omega
      | some y =>
        have HF : Hid (wayL p (L.take (k + 1)) = WT ++ [y]) := by show _ = _; rw [HST.out, hx]
        have hhf : Go.Maps.has D (.int .i64 x) = true := by rw [HH.out, hx]; rfl
        have HAT := Lib.hid (HV.out y hx)
        have hyl := lastE_lt hxl hx
        have hoky : Enc.ok (y : Int) := ⟨by omega, by omega⟩
        clear hx
        go_wp2_with (first
          | (at_lookup; refine wpList_lookup_own_ok_int _ rfl _ _ 80 rfl 3 3 .i64 lawI Tryz.underlying80 Tryz.underlying3 (zeroI _) mb mn D rfl own1 _ _ rfl (keyOf_int_mk Tryz.underlying3 wfx) ?_; intro cc hat hwc; rw [hhf]; rw [HAT.out] at hat; obtain rfl : cc = (y : Int) := by (injection hat with hat; injection hat with _ hat; exact hat.symm))
          | (at_builtin; refine wpList_append_sl rfl _ _ 34 rfl w1.heap.size 3 i0 _ 8 Tryz.underlying34 hq hz0 hz1 hz2 rfl _ WT.length (nI WT) rfl (O1.alloc _) _ 1 1 [(y : Int)] rfl (sl_one (y : Int) rfl hoky rfl) (by unfold maxLen; omega) (by omega) (L1.alloc _).size ?_; intro v1 w3 O3 hg3 _; have L3 := (L1.alloc _).grown hg3 (fun k hk => (O1.lt k hk).1); clear hg3))
        go_roundw
        case rel => exact ⟨k + 1, by omega, by go_num, by rw [HF.out, nI_snoc, List.length_append]; exact O3, L3⟩
        case measure => simp [intOf]; omega
    · have HF : Hid (∀ v, wr.ownsRow w1.heap.size 3 1 v (wayL p (L.take k)).length ((nI (wayL p (L.take k))).flatMap Enc.cells) → Owd 3 w wr v (nI (wayL p L))) := fun v hv => by
        rw [List.take_of_length_le (by omega)] at hv
        exact ⟨by rw [nI_len]; exact own_mono hv hs1, HOK.out⟩
      go_wp2
      go_ret
      exact ⟨_, rfl, HF.out _ O1, hle.trans L1⟩
def woX (xs : List Cls) (p : List Lin) (i : Int) : List Int := cond (glB xs p i) (nI (wayL p (encl p i.toNat))) []
def wfX (xs : List Cls) (p : List Lin) (i a : Int) : List Int := cond (grB xs p i a) (nI (wayL p ((encl p i.toNat).take (coN xs p a (encl p i.toNat))))) []
set_option maxHeartbeats 1000000 in
theorem iWayOfFault_any (B A : Option Addr) (m c n cap : Nat) (xs : List Cls) (p : List Lin) (i a : Int) (hz : m ≤ 1048576) (w : World) (hT : Sl w B m c xs) (hR : Sl w A n cap p) :
    Calls Tryz.prog 9 #[.agg #[.slice B m c], .slice A n cap, .int .i64 i, .int .i64 a] w fun e w' => ∃ v, e = .returned v ∧ Owd 3 w w' v (wfX xs p i a) ∧ Le w w' := by
  have HX : Hid (wfX xs p i a = cond (glB xs p i && hasK xs a) (nI (wayL p ((encl p i.toNat).take (coN xs p a (encl p i.toNat))))) []) := rfl
  go_enter Tryz.func9, Tryz.ntmps9
  go_wp2_with fail
  obtain ⟨ct, zt, hleB⟩ := box1 w (.slice B m c) 25
  have L0 := hleB
  clear hleB
  generalize w.alloc (.cells #[.slice B m c] 25) = W at *
  refine (hasLine_any B A m c n cap xs p i hz _ (hT.le L0) (hR.le L0)).mono ?_
  rintro e w1 ⟨rfl, hle⟩
  replace ct := (hle.cell zt).trans ct
  replace zt := Nat.lt_of_lt_of_le zt hle.size
  replace L0 := L0.trans hle
  clear hle
  have HN : Hid (∀ w', (glB xs p i && hasK xs a) = false → Owd 3 w w' (.slice none 0 0) (wfX xs p i a)) := fun w' h => by rw [HX.out, h]; exact Owd.nil _ _ _
  cases h : glB xs p i
  · have HO := Lib.hid (HN.out w1 (by rw [h]; rfl))
    go_wp2
    go_ret
    exact ⟨_, rfl, HO.out, L0⟩
  · obtain ⟨h1, k, rfl, hk⟩ := glB_iff.1 h
    have g := goodP_of h1
    have hp := g.len
    have HG := Lib.hid g
    have HEO := Lib.hid (encl_opn g hk)
    have HEL : Hid (∀ x ∈ encl p k, x < p.length) := fun x hx => by have := encl_lt x hx; omega
    have hel := encl_len p k
    clear g
    go_wp2_with fail
    refine (isClass_any B m c xs a w1 (hT.le L0)).mono ?_
    rintro e w2 ⟨rfl, hle⟩
    replace ct := (hle.cell zt).trans ct
    replace zt := Nat.lt_of_lt_of_le zt hle.size
    replace L0 := L0.trans hle
    clear hle
    cases hc : hasK xs a
    · have HO := Lib.hid (HN.out w2 (by rw [hc]; simp))
      go_wp2
      go_ret
      exact ⟨_, rfl, HO.out, L0⟩
    · rw [h, hc, Int.toNat_natCast, Bool.true_and] at HX
      clear HN h
      go_wp2_with fail
      refine (headsOf_any A n cap p k hk (by omega) w2 (hR.le L0)).mono ?_
      rintro e w3 ⟨v, rfl, D, hle⟩
      obtain ⟨A2, q2, rfl, S2, -⟩ := D.form (by decide)
      replace ct := (hle.cell zt).trans ct
      replace zt := Nat.lt_of_lt_of_le zt hle.size
      replace L0 := L0.trans hle
      generalize hE : encl p k = E at *
      clear D hE hle
      rw [nI_len] at S2 ⊢
      have hcl := coN_le xs p a E
      go_wp2_with fail
      refine (catchAt_any B A A2 m c n cap E.length q2 xs p E a HG.out hc HEL.out (by omega) w3 (hT.le L0) (hR.le L0) S2).mono ?_
      rintro e w4 ⟨rfl, hle⟩
      have S4 := S2.le hle
      have L4 := L0.trans hle
      generalize coN xs p a E = j at *
      generalize coF xs p a E = q at *
      have HY : Hid (wfX xs p k a = nI (wayL p (E.take j))) := HX.out
      have S5 := S4.take_ j (by omega)
      have HTK : Hid (nI (E.take j) = (nI E).take j) := by show _ = _; unfold nI; rw [List.map_take]
      rw [← HTK.out] at S5
      have HEL2 : Hid (∀ x ∈ E.take j, x < p.length) := fun x hx => HEL.out x (List.mem_of_mem_take hx)
      have HEO2 : Hid (∀ x ∈ E.take j, opn (knd p x) = true) := fun x hx => HEO.out x (List.mem_of_mem_take hx)
      have HTL : Hid ((E.take j).length ≤ 1048576) := by show _ ≤ _; rw [List.length_take]; omega
      have hjq : j ≤ q2 := by have := S4.cap_; omega
      have hj0 : (0 : Int) ≤ (j : Int) := by omega
      clear HX hle hc
      go_wp2_with fail
      refine (wayThrough_any A A2 n cap j q2 xs p (E.take j) HEL2.out HTL.out HG.out HEO2.out w4 (hR.le L4) S5).mono ?_
      rintro e w5 ⟨v, rfl, D3, hle4⟩
      have HO : Hid (Owd 3 w w5 v (wfX xs p k a)) := by show Owd _ _ _ _ _; rw [HY.out]; exact D3.mono L4
      go_wp2
      go_ret
      exact ⟨_, rfl, HO.out, L4.trans hle4⟩
theorem Calls.sl1w {α : Type} [Enc α] {P : Program} {f : FuncId} {args : Array Value} {w : World} {xs : List α} {T : TypeId} (hp : 0 < Enc.size α) (h : Calls P f args w fun e w' => ∃ v, e = .returned v ∧ Owd T w w' v xs ∧ Le w w') : Calls P f args w fun e w' => ∃ A c, e = .returned (.slice A xs.length c) ∧ Sl w' A xs.length c xs ∧ Le w w' := by
  refine h.mono ?_
  rintro e w' ⟨v, rfl, D, hle⟩
  obtain ⟨A, c, rfl, S, _⟩ := D.form hp
  exact ⟨A, c, rfl, S, hle⟩
end Go.Proofs.YtgjlmfjmjglplaaGreat
