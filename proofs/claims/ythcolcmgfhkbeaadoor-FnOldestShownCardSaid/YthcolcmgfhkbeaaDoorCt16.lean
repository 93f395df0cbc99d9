/- one text of RC, Ix, RD0, PI, PI2 -/
import Derived.Test.YthcolcmgfhkbeaaDoorCt14
import Derived.Test.YthcolcmgfhkbeaaDoorCt15
import Derived.Test.YthcolcmgfhkbeaaDoorCt5
import Derived.Test.YthcolcmgfhkbeaaDoorCt1
namespace Go.Proofs.YthcolcmgfhkbeaaDoor
open Go.RowKit
set_option linter.unusedVariables false
section
def reachX (xs : List Cls) (hs : List Flt) (f : Int) : List Int := cond (goodF xs hs f) (reachL hs f) []
theorem reachX_of {xs : List Cls} {hs : List Flt} {f : Int} {t : Bool} (h : goodF xs hs f = t) : reachX xs hs f = cond t (reachL hs f) [] := by unfold reachX; rw [h]
theorem goodF_lnk {xs : List Cls} {hs : List Flt} {f : Int} (h : goodF xs hs f = true) : Lnk hs ∧ hs.length ≤ 24 ∧ 0 ≤ f ∧ f < hs.length := by
  unfold goodF at h; rw [Bool.and_eq_true] at h
  have g := goodH_of h.1
  have := hasF_iff.1 h.2
  exact ⟨g.lnk, g.few, this.1, this.2⟩
theorem reachX_len (xs : List Cls) (hs : List Flt) (f : Int) : (reachX xs hs f).length ≤ 1048576 := by
  cases h : goodF xs hs f
  · rw [reachX_of h]; simp
  · rw [reachX_of h]
    obtain ⟨_, h1, _⟩ := goodF_lnk h
    have := ascOf_len (L := rch0 hs f) hs.length
    show (ascOf (rch0 hs f) hs.length).length ≤ _
    omega

set_option maxRecDepth 100000 in
theorem iReachOf_any (A H : Option Addr) (n cap m c : Nat) (xs : List Cls) (hs : List Flt) (f : Int) (w : World) (hR : Sl w A n cap xs) (hH : Sl w H m c hs) (hm : m ≤ 2097152) :
    Calls Tryd.prog 14 #[.agg #[.slice A n cap], .agg #[.slice H m c], .int .i64 f] w fun e w' => ∃ v, e = .returned v ∧ Owd 3 w w' v (reachX xs hs f) ∧ Le w w' := by
  go_enter Tryd.func14, Tryd.ntmps14
  go_wp2_with fail
  obtain ⟨c0, z0, c1, z1, L0⟩ := box2 w (.slice A n cap) (.slice H m c) 25 28
  have S0 := hH.le L0
  have hL0 := L0
  generalize (w.alloc (.cells #[.slice A n cap] 25)).alloc (.cells #[.slice H m c] 28) = W at *
  refine (iHasFault_any A H n cap m c xs hs f W (hR.le L0) S0 hm).mono ?_
  rintro e w1 ⟨rfl, hle⟩
  replace c0 := (hle.cell z0).trans c0
  replace c1 := (hle.cell z1).trans c1
  replace z0 := Nat.lt_of_lt_of_le z0 hle.size
  replace z1 := Nat.lt_of_lt_of_le z1 hle.size
  replace L0 := L0.trans hle
  replace S0 := S0.le hle
  have hle1 := hle
  clear hle
  cases ho : goodF xs hs f
  · have HX := Lib.hid (reachX_of ho)
    clear ho
    go_wp2
    go_ret
    exact ⟨_, rfl, by rw [HX.out]; exact Owd.nil _ _ _, L0⟩
  · have HX := Lib.hid (reachX_of ho)
    obtain ⟨lk, hfew, hf0, hf1⟩ := goodF_lnk ho
    have HLK := Lib.hid lk
    clear ho lk
    go_wp2_with fail
    refine (iReach_any H m c hs f _ S0 HLK.out hf0 hf1 hm).mono ?_
    rintro e w2 ⟨v, rfl, D, hle⟩
    have HD := Lib.hid (D.mono (w00 := w) L0)
    clear D
    go_wp2
    go_ret
    exact ⟨_, rfl, by rw [HX.out]; exact HD.out, L0.trans hle⟩

end

section
def idx : List Int → Int → Int → Int
  | [], _, _ => -1
  | y :: r, x, k => if y = x then k else idx r x (k + 1)
theorem idx_at {L : List Int} {k : Nat} (h : k < L.length) (x j : Int) : idx (L.drop k) x j = if L[k] = x then j else idx (L.drop (k + 1)) x (j + 1) := by
  rw [List.drop_eq_getElem_cons h]; rfl
theorem idx_end {L : List Int} {k : Nat} (h : ¬ k < L.length) (x j : Int) : idx (L.drop k) x j = -1 := by
  rw [List.drop_eq_nil_of_le (by omega)]; rfl
set_option maxRecDepth 100000 in
theorem iIndex_any (A : Option Addr) (n c : Nat) (L : List Int) (x : Int) (w : World) (hL : Sl w A n c L) (hn : n ≤ 1048576) :
    Calls Tryd.prog 57 #[.slice A n c, .int .i64 x] w fun e w' => e = .returned (.int .i64 (idx L x 0)) ∧ w = w' := by
  obtain rfl := hL.len
  go_enter Tryd.func57, Tryd.ntmps57
  go_wp2
  go_loop [5, 8] (fun _ q => ∃ k : Nat, k ≤ L.length ∧ q = .int .i64 k ∧ idx L x 0 = idx (L.drop k) x k) (fun _ q => L.length - (intOf q).toNat)
  case atStart => exact ⟨0, Nat.zero_le _, rfl, rfl⟩
  case round =>
    obtain ⟨k, hk, rfl, hr⟩ := hrel
    by_cases hlt : k < L.length
    · obtain ⟨b, off, rfl, hb, hx, _, _⟩ := hL.int_at hlt
      rw [idx_at hlt] at hr
      have hki : (k : Int) < (L.length : Int) := by omega
      by_cases he : L[k] = x
      · have hb1 : (x == L[k]) = true := by simpa using he.symm
        rw [if_pos he] at hr
        have HR := Lib.hid hr; clear hr he
        generalize L[k] = y at *
        go_wp2
        go_ret
        exact ⟨ret_int HR.out.symm, rfl⟩
      · have hb1 : (x == L[k]) = false := by simpa using (fun e => he e.symm)
        rw [if_neg he] at hr
        have HR := Lib.hid hr; clear hr he
        generalize L[k] = y at *
        go_wp2
        go_round
        case rel => exact ⟨k + 1, by omega, by go_num, by rw [HR.out]; rfl⟩
        case measure => simp [intOf]; omega
    · rw [idx_end hlt] at hr
      have HR := Lib.hid hr; clear hr
      go_wp2
      go_ret
      exact ⟨ret_int HR.out.symm, rfl⟩
theorem idx_mem : ∀ (L : List Int) (x k : Int), 0 ≤ k → (idx L x k ≥ 0 ↔ x ∈ L)
  | [], x, k, h => by unfold idx; simp
  | y :: r, x, k, h => by
    unfold idx
    by_cases e : y = x
    · rw [if_pos e]; exact ⟨fun _ => by rw [e]; exact List.mem_cons_self .., fun _ => h⟩
    · rw [if_neg e, idx_mem r x (k + 1) (by omega), List.mem_cons]
      exact ⟨.inr, fun h => h.resolve_left fun h => e h.symm⟩
set_option maxRecDepth 100000 in
theorem sIndexOf_any (A : Option Addr) (n c : Nat) (L : List Int) (x : Int) (w : World) (hL : Sl w A n c L) (hn : n ≤ 1048576) :
    Calls Tryd.prog 60 #[.slice A n c, .int .i64 x] w fun e w' => e = .returned (.int .i64 (idx L x 0)) ∧ w = w' := by
  obtain rfl := hL.len
  go_enter Tryd.func60, Tryd.ntmps60
  go_wp2
  go_loop [5] (fun q => ∃ k : Nat, k ≤ L.length ∧ q = .int .i64 k ∧ idx L x 0 = idx (L.drop k) x k) (fun q => L.length - (intOf q).toNat)
  case atStart => exact ⟨0, Nat.zero_le _, rfl, rfl⟩
  case round =>
    obtain ⟨k, hk, rfl, hr⟩ := hrel
    by_cases hlt : k < L.length
    · obtain ⟨b, off, rfl, hb, hx, _, _⟩ := hL.int_at hlt
      rw [idx_at hlt] at hr
      by_cases he : L[k] = x
      · have hb1 : (L[k] == x) = true := by simpa using he
        rw [if_pos he] at hr
        have HR := Lib.hid hr; clear hr he
        generalize L[k] = y at *
        go_wp2
        go_ret
        exact ⟨ret_int HR.out.symm, rfl⟩
      · have hb1 : (L[k] == x) = false := by simpa using he
        rw [if_neg he] at hr
        have HR := Lib.hid hr; clear hr he
        generalize L[k] = y at *
        go_wp2
        go_round
        case rel => exact ⟨k + 1, by omega, by go_num, by rw [HR.out]; rfl⟩
        case measure => simp [intOf]; omega
    · rw [idx_end hlt] at hr
      have HR := Lib.hid hr; clear hr
      go_wp2
      go_ret
      exact ⟨ret_int HR.out.symm, rfl⟩
end

section
theorem idx_rng : ∀ (L : List Int) (x k : Int), 0 ≤ k → -1 ≤ idx L x k ∧ idx L x k < k + L.length + 1
  | [], x, k, h => by simp [idx]; omega
  | y :: r, x, k, h => by
    have := idx_rng r x (k + 1) (by omega)
    unfold idx
    split
    · simp; omega
    · simp; omega
def isoF (hs : List Flt) (L : List Int) (x : Int) : Flt :=
  match hs[x.toNat]? with
  | some y => ⟨y.cls, y.code, idx L y.cause 0, idx L y.ctx 0, y.hide⟩
  | none => ⟨0, 0, -1, -1, false⟩
theorem isoF_at {hs : List Flt} {L : List Int} {i : Nat} (h : i < hs.length) : isoF hs L (i : Int) = ⟨hs[i].cls, hs[i].code, idx L hs[i].cause 0, idx L hs[i].ctx 0, hs[i].hide⟩ := by
  unfold isoF; rw [Int.toNat_natCast, List.getElem?_eq_getElem h]
def isoL (hs : List Flt) (L : List Int) : List Flt := L.map (isoF hs L)
def isoX (xs : List Cls) (hs : List Flt) (f : Int) : List Flt := cond (goodF xs hs f) (isoL hs (reachL hs f)) []
def isoI (xs : List Cls) (hs : List Flt) (f : Int) : Int := cond (goodF xs hs f) (idx (reachL hs f) f 0) (-1)
theorem iso_of {xs : List Cls} {hs : List Flt} {f : Int} {t : Bool} (h : goodF xs hs f = t) : isoX xs hs f = cond t (isoL hs (reachL hs f)) [] ∧ isoI xs hs f = cond t (idx (reachL hs f) f 0) (-1) := by unfold isoX isoI; rw [h]; exact ⟨rfl, rfl⟩
theorem isoX_len (xs : List Cls) (hs : List Flt) (f : Int) : (isoX xs hs f).length ≤ 1048576 := by
  cases h : goodF xs hs f
  · rw [(iso_of h).1]; simp
  · rw [(iso_of h).1]
    obtain ⟨_, h1, _⟩ := goodF_lnk h
    have := ascOf_len (L := rch0 hs f) hs.length
    show ((reachL hs f).map (isoF hs (reachL hs f))).length ≤ _
    rw [List.length_map]
    show (ascOf (rch0 hs f) hs.length).length ≤ _
    omega
theorem isoF_ok {hs : List Flt} {L : List Int} (hok : ∀ x ∈ hs, Enc.ok x) (hl : L.length ≤ 1048576) (x : Int) : Enc.ok (isoF hs L x) := by
  unfold isoF
  split
  · next y hy =>
    have h := hok y (List.mem_of_getElem? hy)
    have a := idx_rng L y.cause 0 (by omega)
    have b := idx_rng L y.ctx 0 (by omega)
    exact ⟨h.1, h.2.1, h.2.2.1, h.2.2.2.1, by show (-9223372036854775808 : Int) ≤ idx L y.cause 0; omega, by show idx L y.cause 0 ≤ (9223372036854775807 : Int); omega, by show (-9223372036854775808 : Int) ≤ idx L y.ctx 0; omega, by show idx L y.ctx 0 ≤ (9223372036854775807 : Int); omega⟩
  · exact ⟨by decide, by decide, by decide, by decide, by decide, by decide, by decide, by decide⟩
theorem isoL_take {hs : List Flt} {L : List Int} {k : Nat} (hk : k < L.length) : (L.take k).map (isoF hs L) ++ [isoF hs L L[k]] = (L.take (k + 1)).map (isoF hs L) := by
  rw [List.take_succ_eq_append_getElem hk, List.map_append]; rfl
end

section
theorem idx_none : ∀ (L : List Int) (x k : Int), x ∉ L → idx L x k = -1
  | [], _, _, _ => rfl
  | y :: r, x, k, h => by
    rw [idx, if_neg (fun e => h (by rw [e]; simp)), idx_none r x (k + 1) (fun m => h (List.mem_cons_of_mem _ m))]
theorem idx_get : ∀ (L : List Int), L.Nodup → ∀ (i : Nat) (h : i < L.length) (k : Int), idx L L[i] k = k + i
  | y :: r, nd, 0, h, k => by simp [idx]
  | y :: r, nd, i + 1, h, k => by
    have h' : i < r.length := by simpa using h
    have e : (y :: r)[i + 1] = r[i] := rfl
    have ne : ¬ y = r[i] := fun e2 => (List.nodup_cons.1 nd).1 (by rw [e2]; exact List.getElem_mem _)
    rw [e, idx, if_neg ne, idx_get r (List.nodup_cons.1 nd).2 i h' (k + 1)]
    omega
/-- faults from which no link leads away -/
structure Clo (hs : List Flt) (R : List Int) : Prop where
  nd : R.Nodup
  rng : ∀ x ∈ R, 0 ≤ x ∧ x < hs.length
  cau : ∀ x ∈ R, 0 ≤ cauOf hs x → cauOf hs x ∈ R
  ctx : ∀ x ∈ R, 0 ≤ ctxOf hs x → ctxOf hs x ∈ R
theorem clo_reach {hs : List Flt} (lk : Lnk hs) {f : Int} (h0 : 0 ≤ f) (h1 : f < hs.length) : Clo hs (reachL hs f) := by
  refine ⟨(reachL_asc hs f).imp (fun h e => by omega), fun x hx => reach_rng hx, fun x hx hc => ?_, fun x hx hc => ?_⟩
  · exact (reachL_mem lk h0 h1 _).2 (.one ((reachL_mem lk h0 h1 _).1 hx) hc)
  · exact (reachL_mem lk h0 h1 _).2 (.two ((reachL_mem lk h0 h1 _).1 hx) hc)
theorem iso_len (hs : List Flt) (R : List Int) : (isoL hs R).length = R.length := by unfold isoL; simp
theorem iso_at {hs : List Flt} {R : List Int} (c : Clo hs R) {k : Nat} (hk : k < R.length) (h : k < (isoL hs R).length) :
    ∃ i : Nat, ∃ hi : i < hs.length, R[k] = (i : Int) ∧ (isoL hs R)[k] = ⟨hs[i].cls, hs[i].code, idx R hs[i].cause 0, idx R hs[i].ctx 0, hs[i].hide⟩ := by
  have hr := c.rng _ (List.getElem_mem hk)
  obtain ⟨i, e⟩ := Int.eq_ofNat_of_zero_le hr.1
  have hi : i < hs.length := by omega
  refine ⟨i, hi, e, ?_⟩
  have : (isoL hs R)[k] = isoF hs R R[k] := List.getElem_map (f := isoF hs R) (l := R)
  rw [this, e, isoF_at hi]
/-- from the place in what is isolated to the fault that lies there -/
def upR (R : List Int) (n : Nat) (x : Int) : Int := if x < 0 then x else R[x.toNat]?.getD (n + x)
theorem upR_at {R : List Int} {k : Nat} (h : k < R.length) (n : Nat) : upR R n (k : Int) = R[k] := by
  unfold upR
  rw [if_neg (by omega), Int.toNat_natCast, List.getElem?_eq_getElem h]; rfl
theorem upR_out {R : List Int} {k : Nat} (h : ¬ k < R.length) (n : Nat) : upR R n (k : Int) = n + k := by
  unfold upR
  rw [if_neg (by omega), Int.toNat_natCast, List.getElem?_eq_none (by omega)]; rfl
theorem upR_inj {hs : List Flt} {R : List Int} (c : Clo hs R) (x y : Int) (e : upR R hs.length x = upR R hs.length y) : x = y := by
  have key : ∀ x : Int, (x < 0 ∧ upR R hs.length x = x) ∨ (∃ k : Nat, ∃ h : k < R.length, x = k ∧ upR R hs.length x = R[k] ∧ 0 ≤ R[k] ∧ R[k] < hs.length) ∨ (∃ k : Nat, x = k ∧ upR R hs.length x = hs.length + k) := by
    intro x
    rcases Int.lt_or_le x 0 with h | h
    · left; exact ⟨h, by unfold upR; rw [if_pos h]⟩
    · right
      obtain ⟨k, rfl⟩ := Int.eq_ofNat_of_zero_le h
      by_cases hk : k < R.length
      · left; have := c.rng _ (List.getElem_mem hk); exact ⟨k, hk, rfl, upR_at hk _, this.1, this.2⟩
      · right; exact ⟨k, rfl, upR_out hk _⟩
  rcases key x with ⟨hx, ex⟩ | ⟨k, hk, rfl, ex, ek, el⟩ | ⟨k, rfl, ex⟩ <;> rcases key y with ⟨hy, ey⟩ | ⟨l, hl, rfl, ey, ek2, el2⟩ | ⟨l, rfl, ey⟩ <;> rw [ex, ey] at e
  any_goals omega
  have := Chn.nd_inj c.nd hk hl e
  omega
theorem upR_pos {hs : List Flt} {R : List Int} (c : Clo hs R) (x : Int) (h : 0 ≤ x) : 0 ≤ upR R hs.length x := by
  obtain ⟨k, rfl⟩ := Int.eq_ofNat_of_zero_le h
  by_cases hk : k < R.length
  · rw [upR_at hk]; exact (c.rng _ (List.getElem_mem hk)).1
  · rw [upR_out hk]; omega
/-- a link, as the place of what it leads to -/
theorem idx_lnk {hs : List Flt} {R : List Int} (c : Clo hs R) {x : Int} (h : 0 ≤ x → x ∈ R) : (x < 0 → idx R x 0 = -1) ∧ (0 ≤ x → ∃ k : Nat, ∃ hk : k < R.length, R[k] = x ∧ idx R x 0 = k ∧ upR R hs.length (idx R x 0) = x) := by
  refine ⟨fun hn => idx_none _ _ _ (fun hm => by have := (c.rng x hm).1; omega), fun h0 => ?_⟩
  obtain ⟨k, hk, rfl⟩ := List.getElem_of_mem (h h0)
  have e : idx R R[k] 0 = (k : Int) := by rw [idx_get R c.nd k hk 0]; omega
  exact ⟨k, hk, rfl, e, by rw [e, upR_at hk]⟩
theorem lnk_mem {hs : List Flt} {R : List Int} (c : Clo hs R) {i : Nat} (hi : i < hs.length) (h : (i : Int) ∈ R) : (0 ≤ hs[i].cause → hs[i].cause ∈ R) ∧ (0 ≤ hs[i].ctx → hs[i].ctx ∈ R) := by
  have a := c.cau _ h
  have b := c.ctx _ h
  rw [cauOf_at hi] at a
  rw [ctxOf_at hi] at b
  exact ⟨a, b⟩
theorem shown_mem {hs : List Flt} {R : List Int} (c : Clo hs R) {x : Int} (h : x ∈ R) (h0 : 0 ≤ shownAt hs x) : shownAt hs x ∈ R := by
  rcases shown_step hs x h0 with e | e
  · rw [e] at h0 ⊢; exact c.cau x h h0
  · rw [e] at h0 ⊢; exact c.ctx x h h0
theorem iso_ctx {hs : List Flt} {R : List Int} (c : Clo hs R) {k : Nat} (hk : k < R.length) : ctxOf (isoL hs R) (k : Int) = idx R (ctxOf hs R[k]) 0 := by
  have h : k < (isoL hs R).length := by rw [iso_len]; exact hk
  obtain ⟨i, hi, e, e2⟩ := iso_at c hk h
  rw [ctxOf_at h, e2, e, ctxOf_at hi]
theorem iso_cau {hs : List Flt} {R : List Int} (c : Clo hs R) {k : Nat} (hk : k < R.length) : cauOf (isoL hs R) (k : Int) = idx R (cauOf hs R[k]) 0 := by
  have h : k < (isoL hs R).length := by rw [iso_len]; exact hk
  obtain ⟨i, hi, e, e2⟩ := iso_at c hk h
  rw [cauOf_at h, e2, e, cauOf_at hi]
theorem idx_neg {hs : List Flt} {R : List Int} (c : Clo hs R) {x : Int} (h : 0 ≤ x → x ∈ R) : decide (0 ≤ idx R x 0) = decide (0 ≤ x) := by
  have a := idx_lnk c h
  rcases Int.lt_or_le x 0 with hx | hx
  · rw [a.1 hx, decide_eq_false (show ¬ 0 ≤ x by omega)]; rfl
  · obtain ⟨k, hk, _, e, _⟩ := a.2 hx
    rw [e, decide_eq_true hx, decide_eq_true (show (0 : Int) ≤ k by omega)]
theorem iso_shown {hs : List Flt} {R : List Int} (c : Clo hs R) {k : Nat} (hk : k < R.length) : shownAt (isoL hs R) (k : Int) = idx R (shownAt hs R[k]) 0 := by
  have h : k < (isoL hs R).length := by rw [iso_len]; exact hk
  obtain ⟨i, hi, e, e2⟩ := iso_at c hk h
  have hm : (i : Int) ∈ R := by rw [← e]; exact List.getElem_mem hk
  have hl := lnk_mem c hi hm
  rw [shownAt_at h, e2, e, shownAt_at hi]
  unfold shownOf
  simp only [idx_neg c hl.1]
  cases decide (0 ≤ hs[i].cause)
  · cases hs[i].hide
    · rfl
    · exact ((idx_lnk c (x := -1) (fun h => absurd h (by omega))).1 (by omega)).symm
  · rfl
/-- a step in what is isolated is a step in the heap -/
structure StepUp (hs : List Flt) (R : List Int) (nx jx : Int → Int) : Prop where
  at_ : ∀ k (hk : k < R.length), nx (k : Int) = idx R (jx R[k]) 0
  in_ : ∀ x ∈ R, 0 ≤ jx x → jx x ∈ R
theorem StepUp.neg {hs : List Flt} {R : List Int} {nx jx : Int → Int} (c : Clo hs R) (s : StepUp hs R nx jx) (x : Int) (h0 : 0 ≤ x) (h1 : x < R.length) (hn : nx x < 0) : jx (upR R hs.length x) < 0 := by
  obtain ⟨k, rfl⟩ := Int.eq_ofNat_of_zero_le h0
  have hk : k < R.length := by omega
  rw [s.at_ k hk] at hn
  rw [upR_at hk]
  rcases Int.lt_or_le (jx R[k]) 0 with h | h
  · exact h
  · obtain ⟨l, _, _, e, _⟩ := (idx_lnk c (s.in_ _ (List.getElem_mem hk))).2 h
    omega
theorem StepUp.pos {hs : List Flt} {R : List Int} {nx jx : Int → Int} (c : Clo hs R) (s : StepUp hs R nx jx) (x : Int) (h0 : 0 ≤ x) (h1 : x < R.length) (hn : 0 ≤ nx x) : jx (upR R hs.length x) = upR R hs.length (nx x) := by
  obtain ⟨k, rfl⟩ := Int.eq_ofNat_of_zero_le h0
  have hk : k < R.length := by omega
  rw [s.at_ k hk] at hn ⊢
  rw [upR_at hk]
  have a := idx_lnk c (s.in_ _ (List.getElem_mem hk))
  rcases Int.lt_or_le (jx R[k]) 0 with h | h
  · have := a.1 h; omega
  · obtain ⟨l, _, _, _, e⟩ := a.2 h
    exact e.symm
theorem StepUp.lt {hs : List Flt} {R : List Int} {nx jx : Int → Int} (c : Clo hs R) (s : StepUp hs R nx jx) (x : Int) (h0 : 0 ≤ x) (h1 : x < R.length) : nx x < R.length := by
  obtain ⟨k, rfl⟩ := Int.eq_ofNat_of_zero_le h0
  have hk : k < R.length := by omega
  rw [s.at_ k hk]
  have a := idx_lnk c (s.in_ _ (List.getElem_mem hk))
  rcases Int.lt_or_le (jx R[k]) 0 with h | h
  · have := a.1 h; omega
  · obtain ⟨l, hl, _, e, _⟩ := a.2 h
    omega
theorem StepUp.is {hs : List Flt} {R : List Int} {nx jx : Int → Int} (c : Clo hs R) (s : StepUp hs R nx jx) {g : Int} {L : List Int} (h1 : g < R.length) (h : Chn.Is nx g L) : Chn.Is jx (upR R hs.length g) (L.map (upR R hs.length)) :=
  h.map (h.rng h1 (s.lt c)) (upR_inj c) (upR_pos c) (fun x a b d => s.neg c x a b d) (fun x a b d => s.pos c x a b d)
theorem su_ctx {hs : List Flt} {R : List Int} (c : Clo hs R) : StepUp hs R (ctxOf (isoL hs R)) (ctxOf hs) := ⟨fun _ hk => iso_ctx c hk, c.ctx⟩
theorem su_shown {hs : List Flt} {R : List Int} (c : Clo hs R) : StepUp hs R (shownAt (isoL hs R)) (shownAt hs) := ⟨fun _ hk => iso_shown c hk, fun _ h h0 => shown_mem c h h0⟩
/-- what is isolated is valid -/
theorem ok_iso {xs : List Cls} {hs : List Flt} {R : List Int} (h : okHeap xs hs = true) (c : Clo hs R) : okHeap xs (isoL hs R) = true := by
  have gh := goodH_of h
  have hlen : R.length ≤ hs.length := Chn.nodup_bound hs.length R c.nd c.rng
  refine okHeap_mk (fun k hk => ?_) (fun _ => ?_) (okHeap_fall h).2.2.1 (by rw [iso_len]; have := gh.few; omega)
  · have hk2 : k < R.length := by rw [iso_len] at hk; exact hk
    obtain ⟨i, hi, e, e2⟩ := iso_at c hk2 hk
    have hm : (i : Int) ∈ R := by rw [← e]; exact List.getElem_mem hk2
    have hl := lnk_mem c hi hm
    have a := fOk_parts.1 (okHeap_at h i hi)
    rw [e2, fOk_parts, iso_len]
    have b1 := idx_lnk c hl.1
    have b2 := idx_lnk c hl.2
    have key : ∀ x : Int, (x < 0 → idx R x 0 = -1) ∧ (0 ≤ x → ∃ k : Nat, ∃ hk : k < R.length, R[k] = x ∧ idx R x 0 = k ∧ upR R hs.length (idx R x 0) = x) → x ≠ (i : Int) → (-1 ≤ idx R x 0 ∧ idx R x 0 ≤ (R.length : Int) - 1) ∧ idx R x 0 ≠ (k : Int) := by
      intro x hx hne
      rcases Int.lt_or_le x 0 with h | h
      · rw [hx.1 h]; omega
      · obtain ⟨l, hl, el, e3, _⟩ := hx.2 h
        rw [e3]
        refine ⟨by omega, fun e4 => hne ?_⟩
        have : l = k := by omega
        subst this
        rw [← el, e]
    have k1 := key _ b1 a.2.2.2.2.1
    have k2 := key _ b2 a.2.2.2.2.2
    exact ⟨a.1, a.2.1, k1.1, k2.1, k1.2, k2.2⟩
  · rw [iso_len]
    intro g h0 h1 L hL x hx
    have s := su_ctx c
    have hM := s.is c h1 hL
    have hxm := List.mem_of_getLast? hx
    have hx0 := hL.pos x hxm
    have hx1 := hL.rng h1 (s.lt c) x hxm
    have hlast : (L.map (upR R hs.length)).getLast? = some (upR R hs.length x) := by rw [List.getLast?_map, hx]; rfl
    have hg : 0 ≤ upR R hs.length g ∧ upR R hs.length g < hs.length := by
      obtain ⟨k, rfl⟩ := Int.eq_ofNat_of_zero_le h0
      rw [upR_at (by omega)]; exact c.rng _ (List.getElem_mem _)
    have := gh.fin _ hg.1 hg.2 _ hM _ hlast
    rcases Int.lt_or_le (ctxOf (isoL hs R) x) 0 with h | h
    · exact h
    · rw [s.pos c x hx0 hx1 h] at this
      have := upR_pos c _ h
      omega
theorem fT_iso {xs : List Cls} {hs : List Flt} {R : List Int} (c : Clo hs R) {x : Int} (h0 : 0 ≤ x) (h1 : x < R.length) : fT xs (isoL hs R) x = fT xs hs (upR R hs.length x) ∧ lnkT (isoL hs R) x = lnkT hs (upR R hs.length x) := by
  obtain ⟨k, rfl⟩ := Int.eq_ofNat_of_zero_le h0
  have hk : k < R.length := by omega
  have h : k < (isoL hs R).length := by rw [iso_len]; exact hk
  obtain ⟨i, hi, e, e2⟩ := iso_at c hk h
  have hm : (i : Int) ∈ R := by rw [← e]; exact List.getElem_mem hk
  rw [upR_at hk, e]
  unfold fT lnkT
  rw [fltAt_at h, fltAt_at hi, e2]
  refine ⟨rfl, ?_⟩
  show cond (decide (0 ≤ idx R hs[i].cause 0)) sepG sepT = _
  rw [idx_neg c (lnk_mem c hi hm).1]
theorem chT_iso {xs : List Cls} {hs : List Flt} {R : List Int} (c : Clo hs R) : ∀ (L : List Int), (∀ x ∈ L, 0 ≤ x ∧ x < R.length) → chT xs (isoL hs R) L = chT xs hs (L.map (upR R hs.length))
  | [], _ => rfl
  | [x], h => (fT_iso c (h x (by simp)).1 (h x (by simp)).2).1
  | x :: y :: r, h => by
    have hx := h x (by simp)
    have ih := chT_iso (xs := xs) c (y :: r) (fun z hz => h z (by simp at hz ⊢; right; exact hz))
    have a := fT_iso (xs := xs) c hx.1 hx.2
    rw [List.map_cons] at ih ⊢
    rw [List.map_cons, chT, chT, ih, a.1, a.2]
theorem text_iso {xs : List Cls} {hs : List Flt} {R : List Int} (lk : Lnk hs) (c : Clo hs R) {k : Nat} (hk : k < R.length) :
    chT xs (isoL hs R) (chainN (shownAt (isoL hs R)) (isoL hs R).length (k : Int)) = chT xs hs (chainN (shownAt hs) hs.length R[k]) := by
  have s := su_shown c
  rw [iso_len]
  have hK := chain_is (s.lt c) (show 0 ≤ (k : Int) by omega) (show (k : Int) < R.length by omega)
  rw [chT_iso c _ (fun x hx => ⟨hK.pos x hx, hK.rng (by omega) (s.lt c) x hx⟩)]
  have hM := s.is c (by omega) hK
  rw [upR_at hk] at hM
  have hr := c.rng _ (List.getElem_mem hk)
  rw [hM.uniq (chain_is (shownAt_lt lk) hr.1 hr.2)]
/-- all that is isolated is reached -/
theorem rch_iso {hs : List Flt} {R : List Int} (c : Clo hs R) {k : Nat} (hk : k < R.length) {x : Int} (hx : Rch (cauOf hs) (ctxOf hs) R[k] x) : ∃ l : Nat, ∃ hl : l < R.length, R[l] = x ∧ Rch (cauOf (isoL hs R)) (ctxOf (isoL hs R)) (k : Int) (l : Int) := by
  refine Rch.least (S := fun x => ∃ l : Nat, ∃ hl : l < R.length, R[l] = x ∧ Rch (cauOf (isoL hs R)) (ctxOf (isoL hs R)) (k : Int) (l : Int)) ⟨k, hk, rfl, .base⟩ ?_ ?_ hx
  · rintro y ⟨l, hl, rfl, r⟩ h0
    obtain ⟨m, hm, e, e2, _⟩ := (idx_lnk c (c.cau _ (List.getElem_mem hl))).2 h0
    have e3 := iso_cau c hl
    rw [e2] at e3
    refine ⟨m, hm, e, ?_⟩
    rw [← e3]
    exact .one r (by rw [e3]; omega)
  · rintro y ⟨l, hl, rfl, r⟩ h0
    obtain ⟨m, hm, e, e2, _⟩ := (idx_lnk c (c.ctx _ (List.getElem_mem hl))).2 h0
    have e3 := iso_ctx c hl
    rw [e2] at e3
    refine ⟨m, hm, e, ?_⟩
    rw [← e3]
    exact .two r (by rw [e3]; omega)
/-- the first n numbers -/
def upto (n : Nat) : List Int := (List.range n).map (fun (i : Nat) => (i : Int))
theorem upto_len (n : Nat) : (upto n).length = n := by unfold upto; simp
theorem upto_at {n k : Nat} (h : k < (upto n).length) : (upto n)[k] = (k : Int) := by
  have e : (upto n)[k]? = some (k : Int) := by
    have h' : k < n := by rw [upto_len] at h; exact h
    unfold upto
    rw [List.getElem?_map, List.getElem?_range h']; rfl
  rw [List.getElem?_eq_getElem h] at e
  injection e
theorem upto_asc (n : Nat) : (upto n).Pairwise (· < ·) := by
  unfold upto
  rw [List.pairwise_map]
  exact List.pairwise_lt_range.imp (fun h => by omega)
theorem upto_mem {n : Nat} {x : Int} : x ∈ upto n ↔ 0 ≤ x ∧ x < n := by
  unfold upto
  rw [List.mem_map]
  constructor
  · rintro ⟨i, hi, rfl⟩; rw [List.mem_range] at hi; omega
  · rintro ⟨h0, h1⟩; exact ⟨x.toNat, by rw [List.mem_range]; omega, by omega⟩
theorem idx_upto {n : Nat} {x : Int} (h0 : -1 ≤ x) (h1 : x < n) : idx (upto n) x 0 = x := by
  rcases Int.lt_or_le x 0 with h | h
  · rw [idx_none _ _ _ (fun hm => by have := (upto_mem.1 hm).1; omega)]; omega
  · obtain ⟨k, rfl⟩ := Int.eq_ofNat_of_zero_le h
    have hk : k < (upto n).length := by rw [upto_len]; omega
    have := idx_get (upto n) ((upto_asc n).imp (fun h e => by omega)) k hk 0
    rw [upto_at] at this
    rw [this]; omega
theorem reach_all {hs : List Flt} (lk : Lnk hs) {f : Int} (h0 : 0 ≤ f) (h1 : f < hs.length) (h : ∀ k : Nat, k < hs.length → Rch (cauOf hs) (ctxOf hs) f (k : Int)) : reachL hs f = upto hs.length := by
  refine (reachL_eq lk h0 h1 (upto_asc _) (fun x => ?_)).symm
  rw [upto_mem]
  constructor
  · rintro ⟨a, b⟩
    obtain ⟨k, rfl⟩ := Int.eq_ofNat_of_zero_le a
    exact h k (by omega)
  · intro hr; exact reach_rng ((reachL_mem lk h0 h1 x).2 hr)
theorem isoL_upto {hs : List Flt} (lk : Lnk hs) : isoL hs (upto hs.length) = hs := by
  refine List.ext_getElem (by rw [iso_len, upto_len]) (fun k h1 h2 => ?_)
  have h3 : k < (upto hs.length).length := by rw [upto_len]; exact h2
  have : (isoL hs (upto hs.length))[k] = isoF hs (upto hs.length) ((upto hs.length)[k]) := List.getElem_map (f := isoF hs (upto hs.length)) (l := upto hs.length)
  rw [this, upto_at, isoF_at h2, idx_upto (lk.cause k h2).1 (lk.cause k h2).2, idx_upto (lk.ctx k h2).1 (lk.ctx k h2).2]
/-- what is isolated of a fault of a valid heap -/
theorem iso_facts {xs : List Cls} {hs : List Flt} {f : Int} (h : goodF xs hs f = true) {K : List Flt} {g : Int} (hK : isoX xs hs f = K) (hg : isoI xs hs f = g) :
    goodF xs K g = true ∧ isoX xs K g = K ∧ isoI xs K g = g ∧ chT xs K (chainN (shownAt K) K.length g) = chT xs hs (chainN (shownAt hs) hs.length f) ∧ (reachL K g).length = K.length ∧ K.length = (reachL hs f).length := by
  obtain ⟨lk, _, h0, h1⟩ := goodF_lnk h
  have hok : okHeap xs hs = true := by have h := h; unfold goodF at h; rw [Bool.and_eq_true] at h; exact h.1
  have c := clo_reach lk h0 h1
  obtain ⟨k, hk, ek⟩ := List.getElem_of_mem (reach_self lk h0 h1)
  have eg : g = (k : Int) := by
    rw [← hg, (iso_of h).2]
    show idx (reachL hs f) f 0 = _
    have e := idx_get _ c.nd k hk 0
    rw [ek] at e
    rw [e]; omega
  have eK : K = isoL hs (reachL hs f) := by rw [← hK, (iso_of h).1]; rfl
  have hokK : okHeap xs K = true := by rw [eK]; exact ok_iso hok c
  have hlK : K.length = (reachL hs f).length := by rw [eK, iso_len]
  have hgood : goodF xs K g = true := by
    unfold goodF; rw [hokK, hasF_iff.2 ⟨by omega, by omega⟩]; rfl
  have lkK := (goodH_of hokK).lnk
  have hall : reachL K g = upto K.length := by
    refine reach_all lkK (by omega) (by omega) (fun l hl => ?_)
    have hl2 : l < (reachL hs f).length := by omega
    have hr := (reachL_mem lk h0 h1 _).1 (List.getElem_mem hl2)
    obtain ⟨m, hm, e, r⟩ := rch_iso c hk (x := (reachL hs f)[l]) (by rw [ek]; exact hr)
    have : m = l := Chn.nd_inj c.nd hm hl2 e
    subst this
    rw [eK, eg]; exact r
  refine ⟨hgood, ?_, ?_, ?_, ?_, hlK⟩
  · rw [(iso_of hgood).1]
    show isoL K (reachL K g) = K
    rw [hall, isoL_upto lkK]
  · rw [(iso_of hgood).2]
    show idx (reachL K g) g 0 = g
    rw [hall, idx_upto (by omega) (by omega)]
  · rw [eK, eg, text_iso lk c hk, ek]
  · rw [hall, upto_len]
end

section
theorem cau_left {hs ks : List Flt} {x : Int} (h0 : 0 ≤ x) (h1 : x < hs.length) : cauOf (joinL hs ks) x = cauOf hs x := by
  obtain ⟨i, rfl⟩ := Int.eq_ofNat_of_zero_le h0
  rw [cauOf_at (by rw [joinL_len]; omega), cauOf_at (by omega), joinL_left _ (by omega)]
theorem cau_right {hs ks : List Flt} {x : Int} (h0 : 0 ≤ x) (h1 : x < ks.length) : cauOf (joinL hs ks) (x + hs.length) = shl hs.length (cauOf ks x) := by
  obtain ⟨i, rfl⟩ := Int.eq_ofNat_of_zero_le h0
  have e : ((i : Int) + (hs.length : Int)) = ((i + hs.length : Nat) : Int) := by omega
  rw [e, cauOf_at (by rw [joinL_len]; omega), cauOf_at (by omega), joinL_right _ (by omega) (by omega)]
  simp [shF]
theorem reach_left {hs ks : List Flt} (lk : Lnk hs) (lj : Lnk (joinL hs ks)) {f : Int} (h0 : 0 ≤ f) (h1 : f < hs.length) : reachL (joinL hs ks) f = reachL hs f := by
  have hJ : f < (joinL hs ks).length := by rw [joinL_len]; omega
  refine reachL_eq lk h0 h1 (reachL_asc _ _) (fun x => ?_)
  rw [reachL_mem lj h0 hJ]
  constructor
  · intro h
    have := Rch.least (S := fun x => Rch (cauOf hs) (ctxOf hs) f x) .base ?_ ?_ h
    · exact this
    · intro y hy h2
      have r := reach_rng ((reachL_mem lk h0 h1 y).2 hy)
      rw [cau_left r.1 r.2] at h2 ⊢
      exact .one hy h2
    · intro y hy h2
      have r := reach_rng ((reachL_mem lk h0 h1 y).2 hy)
      rw [ctx_left r.1 r.2] at h2 ⊢
      exact .two hy h2
  · intro h
    have := Rch.least (S := fun x => Rch (cauOf hs) (ctxOf hs) f x ∧ Rch (cauOf (joinL hs ks)) (ctxOf (joinL hs ks)) f x) ⟨.base, .base⟩ ?_ ?_ h
    · exact this.2
    · rintro y ⟨hy, hz⟩ h2
      have r := reach_rng ((reachL_mem lk h0 h1 y).2 hy)
      have e := cau_left (ks := ks) r.1 r.2
      refine ⟨.one hy h2, ?_⟩
      rw [← e] at h2 ⊢
      exact .one hz h2
    · rintro y ⟨hy, hz⟩ h2
      have r := reach_rng ((reachL_mem lk h0 h1 y).2 hy)
      have e := ctx_left (ks := ks) r.1 r.2
      refine ⟨.two hy h2, ?_⟩
      rw [← e] at h2 ⊢
      exact .two hz h2
theorem reach_right {hs ks : List Flt} (lk : Lnk ks) (lj : Lnk (joinL hs ks)) {f : Int} (h0 : 0 ≤ f) (h1 : f < ks.length) : reachL (joinL hs ks) (f + hs.length) = (reachL ks f).map (· + (hs.length : Int)) := by
  have hJ : f + hs.length < (joinL hs ks).length := by rw [joinL_len]; omega
  refine (reachL_eq lj (by omega) hJ ?_ (fun x => ?_)).symm
  · rw [List.pairwise_map]; exact (reachL_asc ks f).imp (fun h => by omega)
  · rw [List.mem_map]
    constructor
    · rintro ⟨y, hy, rfl⟩
      have hy2 := (reachL_mem lk h0 h1 y).1 hy
      have := Rch.least (S := fun x => Rch (cauOf ks) (ctxOf ks) f x ∧ Rch (cauOf (joinL hs ks)) (ctxOf (joinL hs ks)) (f + hs.length) (x + hs.length)) ⟨.base, .base⟩ ?_ ?_ hy2
      · exact this.2
      · rintro y ⟨hy, hz⟩ h2
        have r := reach_rng ((reachL_mem lk h0 h1 y).2 hy)
        have e := cau_right (hs := hs) r.1 r.2
        have e2 : shl hs.length (cauOf ks y) = cauOf ks y + hs.length := by unfold shl; rw [if_neg (by omega)]
        rw [e2] at e
        refine ⟨.one hy h2, ?_⟩
        rw [← e]
        exact .one hz (by rw [e]; omega)
      · rintro y ⟨hy, hz⟩ h2
        have r := reach_rng ((reachL_mem lk h0 h1 y).2 hy)
        have e := ctx_right (hs := hs) r.1 r.2
        have e2 : shl hs.length (ctxOf ks y) = ctxOf ks y + hs.length := by unfold shl; rw [if_neg (by omega)]
        rw [e2] at e
        refine ⟨.two hy h2, ?_⟩
        rw [← e]
        exact .two hz (by rw [e]; omega)
    · intro hx
      have := Rch.least (S := fun x => ∃ y, Rch (cauOf ks) (ctxOf ks) f y ∧ y + (hs.length : Int) = x) ⟨f, .base, rfl⟩ ?_ ?_ hx
      · obtain ⟨y, hy, e⟩ := this
        exact ⟨y, (reachL_mem lk h0 h1 y).2 hy, e⟩
      · rintro x ⟨y, hy, rfl⟩ h2
        have r := reach_rng ((reachL_mem lk h0 h1 y).2 hy)
        have e := cau_right (hs := hs) r.1 r.2
        rw [e] at h2 ⊢
        have h3 := shl_nonneg.1 h2
        exact ⟨_, .one hy h3, by unfold shl; rw [if_neg (by omega)]⟩
      · rintro x ⟨y, hy, rfl⟩ h2
        have r := reach_rng ((reachL_mem lk h0 h1 y).2 hy)
        have e := ctx_right (hs := hs) r.1 r.2
        rw [e] at h2 ⊢
        have h3 := shl_nonneg.1 h2
        exact ⟨_, .two hy h3, by unfold shl; rw [if_neg (by omega)]⟩
theorem idx_map_add (n : Int) : ∀ (L : List Int) (x k : Int), idx (L.map (· + n)) (x + n) k = idx L x k
  | [], _, _ => rfl
  | y :: r, x, k => by
    rw [List.map_cons, idx, idx, idx_map_add n r x (k + 1)]
    by_cases h : y = x
    · rw [if_pos h, if_pos (by omega)]
    · rw [if_neg h, if_neg (by omega)]
theorem idx_shl {n : Nat} {L : List Int} (hL : ∀ x ∈ L, 0 ≤ x) (x : Int) : idx (L.map (· + (n : Int))) (shl n x) 0 = idx L x 0 := by
  unfold shl
  split
  · next h =>
    have a : x ∉ L := fun hm => by have := hL x hm; omega
    have b : x ∉ L.map (· + (n : Int)) := by
      intro hm
      obtain ⟨y, hy, e⟩ := List.mem_map.1 hm
      have := hL y hy
      omega
    rw [idx_none _ _ _ a, idx_none _ _ _ b]
  · exact idx_map_add _ _ _ _
/-- of a joined heap the same is isolated as of the one in which the fault lay -/
theorem iso_left {xs : List Cls} {hs ks : List Flt} (h : okHeap xs hs = true) (hj : okHeap xs (joinL hs ks) = true) {f : Nat} (h1 : f < hs.length) : isoX xs (joinL hs ks) (f : Int) = isoX xs hs (f : Int) ∧ isoI xs (joinL hs ks) (f : Int) = isoI xs hs (f : Int) := by
  have lk := (goodH_of h).lnk
  have lj := (goodH_of hj).lnk
  have g1 : goodF xs hs (f : Int) = true := by unfold goodF; rw [h, hasF_iff.2 ⟨by omega, by omega⟩]; rfl
  have g2 : goodF xs (joinL hs ks) (f : Int) = true := by unfold goodF; rw [hj, hasF_iff.2 ⟨by omega, by rw [joinL_len]; omega⟩]; rfl
  have e := reach_left lk lj (show 0 ≤ (f : Int) by omega) (by omega)
  rw [(iso_of g1).1, (iso_of g2).1, (iso_of g1).2, (iso_of g2).2, e]
  refine ⟨?_, rfl⟩
  show List.map _ _ = List.map _ _
  refine List.map_congr_left (fun x hx => ?_)
  have r := reach_rng hx
  obtain ⟨i, rfl⟩ := Int.eq_ofNat_of_zero_le r.1
  rw [isoF_at (by rw [joinL_len]; omega), isoF_at (show i < hs.length by omega), joinL_left _ (by omega)]
theorem iso_right {xs : List Cls} {hs ks : List Flt} (h : okHeap xs ks = true) (hj : okHeap xs (joinL hs ks) = true) {f : Nat} (h1 : f < ks.length) : isoX xs (joinL hs ks) ((f : Int) + hs.length) = isoX xs ks (f : Int) ∧ isoI xs (joinL hs ks) ((f : Int) + hs.length) = isoI xs ks (f : Int) := by
  have lk := (goodH_of h).lnk
  have lj := (goodH_of hj).lnk
  have g1 : goodF xs ks (f : Int) = true := by unfold goodF; rw [h, hasF_iff.2 ⟨by omega, by omega⟩]; rfl
  have g2 : goodF xs (joinL hs ks) ((f : Int) + hs.length) = true := by unfold goodF; rw [hj, hasF_iff.2 ⟨by omega, by rw [joinL_len]; omega⟩]; rfl
  have e := reach_right (hs := hs) lk lj (show 0 ≤ (f : Int) by omega) (by omega)
  have hpos : ∀ x ∈ reachL ks (f : Int), 0 ≤ x := fun x hx => (reach_rng hx).1
  rw [(iso_of g1).1, (iso_of g2).1, (iso_of g1).2, (iso_of g2).2, e]
  refine ⟨?_, idx_map_add _ _ _ _⟩
  show List.map _ (List.map _ _) = List.map _ _
  rw [List.map_map]
  refine List.map_congr_left (fun x hx => ?_)
  have r := reach_rng hx
  obtain ⟨i, rfl⟩ := Int.eq_ofNat_of_zero_le r.1
  have hi : i < ks.length := by omega
  show isoF (joinL hs ks) _ ((i : Int) + hs.length) = _
  have e : ((i : Int) + (hs.length : Int)) = ((i + hs.length : Nat) : Int) := by omega
  rw [e, isoF_at (by rw [joinL_len]; omega), isoF_at hi, joinL_right _ (by omega) (by omega)]
  have e2 : ks[i + hs.length - hs.length]'(by omega) = ks[i] := by simp
  rw [e2]
  show (⟨_, _, idx _ (shl hs.length ks[i].cause) 0, idx _ (shl hs.length ks[i].ctx) 0, _⟩ : Flt) = _
  rw [idx_shl hpos, idx_shl hpos]
  rfl

/-- the text of a fault that is raised while another one is handled, which does not reach it -/
theorem text_raised {xs : List Cls} {hs : List Flt} {f g : Nat} (h : okHeap xs hs = true) (hf : f < hs.length) (hg : g < hs.length) (hfg : f ≠ g) (hc : hs[f].cause < 0) (hh : hs[f].hide = false) (hr : (f : Int) ∉ reachL hs (g : Int)) :
    chT xs (raisedL hs (f : Int) (g : Int)) (chainN (shownAt (raisedL hs (f : Int) (g : Int))) (raisedL hs (f : Int) (g : Int)).length (f : Int)) = chT xs hs (chainN (shownAt hs) hs.length (g : Int)) ++ sepT ++ fT xs hs (f : Int) := by
  have gh := goodH_of h
  have c := clo_reach gh.lnk (show 0 ≤ (g : Int) by omega) (show (g : Int) < hs.length by omega)
  have hcut : cutL hs (f : Int) (chainN (ctxOf hs) hs.length (g : Int)) = hs := by
    refine cutL_none _ _ (fun x hx e => hr ?_)
    have hm := chain_reach gh.lnk (show 0 ≤ (g : Int) by omega) (by omega) x hx
    have := c.ctx x hm (by rw [e]; omega)
    rw [e] at this; exact this
  have hokK := ok_raised h hf hg
  have lkK := (goodH_of hokK).lnk
  have hK : raisedL hs (f : Int) (g : Int) = setF hs (f : Int) (ctxF (g : Int)) := by rw [raisedL_other (by omega), hcut]
  have hlen := raisedL_len hs (f : Int) (g : Int)
  have hat : ∀ x : Int, 0 ≤ x → x ≠ (f : Int) → x < hs.length → fltAt (raisedL hs (f : Int) (g : Int)) x = fltAt hs x := by
    intro x h0 hne h1
    obtain ⟨i, rfl⟩ := Int.eq_ofNat_of_zero_le h0
    rw [hK, setF_at hf, fltAt_at (by rw [List.length_set]; omega), fltAt_at (show i < hs.length by omega), List.getElem_set, if_neg (by omega)]
  have hatf : fltAt (raisedL hs (f : Int) (g : Int)) (f : Int) = ctxF (g : Int) hs[f] := by
    rw [hK, setF_at hf, fltAt_at (by rw [List.length_set]; omega), List.getElem_set, if_pos rfl]
  have hsx : ∀ x : Int, 0 ≤ x → x ≠ (f : Int) → x < hs.length → shownAt (raisedL hs (f : Int) (g : Int)) x = shownAt hs x := by
    intro x h0 hne h1
    obtain ⟨i, rfl⟩ := Int.eq_ofNat_of_zero_le h0
    rw [hK, setF_at hf, shownAt_at (by rw [List.length_set]; omega), shownAt_at (show i < hs.length by omega), List.getElem_set, if_neg (by omega)]
  have hsf : shownAt (raisedL hs (f : Int) (g : Int)) (f : Int) = (g : Int) := by
    rw [hK, setF_at hf, shownAt_at (by rw [List.length_set]; omega), List.getElem_set, if_pos rfl]
    show cond (decide (0 ≤ hs[f].cause)) _ (cond hs[f].hide _ _) = _
    rw [decide_eq_false (by omega), hh]; rfl
  have hM := chain_is (f := (g : Int)) (shownAt_lt gh.lnk) (by omega) (by omega)
  have hMr : ∀ k (hk : k < (chainN (shownAt hs) hs.length (g : Int)).length), (chainN (shownAt hs) hs.length (g : Int))[k] ∈ reachL hs (g : Int) := fun k hk =>
    (reachL_mem gh.lnk (by omega) (by omega) _).2 (rch_of_steps hM (fun x hx => shown_step hs x hx) k hk)
  have hMf : (f : Int) ∉ chainN (shownAt hs) hs.length (g : Int) := by
    intro hm
    obtain ⟨k, hk, e⟩ := List.getElem_of_mem hm
    exact hr (by rw [← e]; exact hMr k hk)
  have hMx : ∀ x ∈ chainN (shownAt hs) hs.length (g : Int), 0 ≤ x ∧ x < hs.length ∧ x ≠ (f : Int) := fun x hx =>
    ⟨hM.pos x hx, hM.rng (by omega) (shownAt_lt gh.lnk) x hx, fun e => hMf (by rw [← e]; exact hx)⟩
  have hg0 : (chainN (shownAt hs) hs.length (g : Int)) ≠ [] := hM.ne
  generalize hMM : chainN (shownAt hs) hs.length (g : Int) = M at *
  have hKis : Chn.Is (shownAt (raisedL hs (f : Int) (g : Int))) (f : Int) ((f : Int) :: M) := by
    refine ⟨List.nodup_cons.2 ⟨hMf, hM.nd⟩, ?_, by simp, rfl, ?_, ?_⟩
    · intro y hy
      rcases List.mem_cons.1 hy with rfl | hy
      · omega
      · exact hM.pos y hy
    · intro k hk
      cases k with
      | zero =>
        have a := hM.hd
        rw [List.head?_eq_getElem?, List.getElem?_eq_getElem (by simpa using hk)] at a
        injection a with a
        show M[0]'(by simpa using hk) = shownAt _ (f : Int)
        rw [hsf]; exact a
      | succ k =>
        have hk' : k + 1 < M.length := by simpa using hk
        have hx := hMx M[k] (List.getElem_mem (by omega))
        show M[k + 1]'hk' = shownAt _ (M[k]'(by omega))
        rw [hsx _ hx.1 hx.2.2 hx.2.1]
        exact hM.st k hk'
    · intro y hy
      have hy' : M.getLast? = some y := by
        rw [List.getLast?_cons] at hy
        rcases e : M.getLast? with _ | z
        · exact absurd (List.getLast?_eq_none_iff.1 e) hM.ne
        · rw [e] at hy; simpa using hy
      have hx := hMx y (List.mem_of_getLast? hy')
      rw [hsx _ hx.1 hx.2.2 hx.2.1]
      rcases hM.en y hy' with h | h
      · exact .inl h
      · exact .inr (List.mem_cons_of_mem _ h)
  have e1 : chainN (shownAt (raisedL hs (f : Int) (g : Int))) (raisedL hs (f : Int) (g : Int)).length (f : Int) = (f : Int) :: M :=
    (chain_is (shownAt_lt lkK) (by omega) (by omega)).uniq hKis
  rw [e1]
  have hch : ∀ L : List Int, (∀ x ∈ L, 0 ≤ x ∧ x < hs.length ∧ x ≠ (f : Int)) → chT xs (raisedL hs (f : Int) (g : Int)) L = chT xs hs L := by
    intro L
    induction L with
    | nil => intro _; rfl
    | cons x r ih =>
      intro hL
      have hx := hL x (by simp)
      have hfx := hat x hx.1 hx.2.2 hx.2.1
      cases r with
      | nil => show fT xs _ x = fT xs _ x; unfold fT; rw [hfx]
      | cons y r =>
        have := ih (fun z hz => hL z (List.mem_cons_of_mem _ hz))
        rw [chT, chT, this]
        unfold fT lnkT; rw [hfx]
  cases M with
  | nil => exact absurd rfl hg0
  | cons y r =>
    rw [chT, hch _ hMx]
    have a : lnkT (raisedL hs (f : Int) (g : Int)) (f : Int) = sepT := by
      unfold lnkT; rw [hatf]
      show cond (decide (0 ≤ hs[f].cause)) _ _ = _
      rw [decide_eq_false (by omega)]; rfl
    have b : fT xs (raisedL hs (f : Int) (g : Int)) (f : Int) = fT xs hs (f : Int) := by
      unfold fT; rw [hatf, fltAt_at hf]; rfl
    rw [a, b]
/-- a fault whose cause is taken away tells of itself alone -/
theorem text_alone {xs : List Cls} {hs : List Flt} {f : Nat} (hf : f < hs.length) :
    chT xs (setF hs (f : Int) (cauF (-1))) (chainN (shownAt (setF hs (f : Int) (cauF (-1)))) (setF hs (f : Int) (cauF (-1))).length (f : Int)) = fT xs hs (f : Int) := by
  rw [chain_alone (by omega) (by rw [shown_cau hf (by omega)]; omega)]
  show fT xs _ _ = _
  have h' : f < (setF hs (f : Int) (cauF (-1))).length := by rw [setF_len]; exact hf
  have a := cau_same hs f hf (-1) f hf h'
  exact fT_same hf h' a.1 a.2.1
end
end Go.Proofs.YthcolcmgfhkbeaaDoor
