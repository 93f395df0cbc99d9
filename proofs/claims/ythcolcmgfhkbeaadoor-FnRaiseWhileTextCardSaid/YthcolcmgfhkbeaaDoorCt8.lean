/- one text of PK, RWs -/
import Derived.Test.YthcolcmgfhkbeaaDoorCt2
import Derived.Test.YthcolcmgfhkbeaaDoorCt5
import Derived.Test.YthcolcmgfhkbeaaDoorCt7
import Derived.Deep.LoopGhost
namespace Go.Proofs.YthcolcmgfhkbeaaDoor
open Go.RowKit
set_option linter.unusedVariables false
section
section
/-- a list that steps along c or d from f is reached -/
theorem rch_of_steps {c d nx : Int → Int} {f : Int} {L : List Int} (hL : Chn.Is nx f L) (hs : ∀ x, 0 ≤ nx x → nx x = c x ∨ nx x = d x) : ∀ k (h : k < L.length), Rch c d f L[k] := by
  intro k
  induction k with
  | zero =>
    intro h
    have a := hL.hd
    rw [List.head?_eq_getElem?, List.getElem?_eq_getElem h] at a
    injection a with a
    rw [a]; exact .base
  | succ k ih =>
    intro h
    have h0 := hL.pos _ (List.getElem_mem h)
    have e := hL.st k h
    have r := ih (by omega)
    rw [e] at h0 ⊢
    rcases hs _ h0 with e1 | e1
    · rw [e1] at h0 ⊢; exact .one r h0
    · rw [e1] at h0 ⊢; exact .two r h0
theorem chain_reach {hs : List Flt} (lk : Lnk hs) {f : Int} (h0 : 0 ≤ f) (h1 : f < hs.length) : ∀ x ∈ chainN (ctxOf hs) hs.length f, x ∈ reachL hs f := by
  intro x hx
  obtain ⟨k, hk, rfl⟩ := List.getElem_of_mem hx
  exact (reachL_mem lk h0 h1 _).2 (rch_of_steps (chain_is lk.ctxlt h0 h1) (fun x _ => .inr rfl) k hk)
theorem shown_step (hs : List Flt) (x : Int) (h : 0 ≤ shownAt hs x) : shownAt hs x = cauOf hs x ∨ shownAt hs x = ctxOf hs x := by
  unfold shownAt cauOf ctxOf at *
  cases e : hs[x.toNat]? with
  | none => rw [e] at h; exact .inl rfl
  | some y =>
    rw [e] at h
    replace h : 0 ≤ shownOf y := h
    show shownOf y = y.cause ∨ shownOf y = y.ctx
    unfold shownOf at h ⊢
    cases hd : decide (0 ≤ y.cause)
    · rw [hd] at h
      cases hh : y.hide
      · exact .inr rfl
      · rw [hh] at h; exact absurd h (by show ¬ (0 : Int) ≤ -1; omega)
    · exact .inl rfl
theorem shown_reach {hs : List Flt} (lk : Lnk hs) {f : Int} (h0 : 0 ≤ f) (h1 : f < hs.length) (h : 0 ≤ shownAt hs f) : shownAt hs f ∈ reachL hs f := by
  refine (reachL_mem lk h0 h1 _).2 ?_
  rcases shown_step hs f h with e | e
  · rw [e] at h ⊢; exact .one .base h
  · rw [e] at h ⊢; exact .two .base h
theorem reach_self {hs : List Flt} (lk : Lnk hs) {f : Int} (h0 : 0 ≤ f) (h1 : f < hs.length) : f ∈ reachL hs f := (reachL_mem lk h0 h1 _).2 .base
theorem reach_rng {hs : List Flt} {f x : Int} (h : x ∈ reachL hs f) : 0 ≤ x ∧ x < hs.length := by
  unfold reachL at h
  have := ascOf_mem.1 h
  exact ⟨this.1, this.2.1⟩
theorem reach_cause {hs : List Flt} (lk : Lnk hs) {f : Int} (h0 : 0 ≤ f) (h1 : f < hs.length) {i : Nat} (hi : i < hs.length) (h : (i : Int) ∈ reachL hs f) (hc : 0 ≤ hs[i].cause) : hs[i].cause ∈ reachL hs f := by
  rw [← cauOf_at hi] at hc ⊢
  exact (reachL_mem lk h0 h1 _).2 (.one ((reachL_mem lk h0 h1 _).1 h) hc)
theorem reach_ctx {hs : List Flt} (lk : Lnk hs) {f : Int} (h0 : 0 ≤ f) (h1 : f < hs.length) {i : Nat} (hi : i < hs.length) (h : (i : Int) ∈ reachL hs f) (hc : 0 ≤ hs[i].ctx) : hs[i].ctx ∈ reachL hs f := by
  rw [← ctxOf_at hi] at hc ⊢
  exact (reachL_mem lk h0 h1 _).2 (.two ((reachL_mem lk h0 h1 _).1 h) hc)
theorem reach_sub {hs : List Flt} (lk : Lnk hs) {f g : Int} (h0 : 0 ≤ f) (h1 : f < hs.length) (h : g ∈ reachL hs f) : ∀ x ∈ reachL hs g, x ∈ reachL hs f := by
  intro x hx
  have hg := reach_rng h
  exact (reachL_mem lk h0 h1 _).2 (((reachL_mem lk h0 h1 _).1 h).trans ((reachL_mem lk hg.1 hg.2 _).1 hx))
/-- the last context of a valid heap has none -/
theorem chain_last {hs : List Flt} (lk : Lnk hs) (he : Chn.allEnd (ctxOf hs) hs.length) {f : Int} (h0 : 0 ≤ f) (h1 : f < hs.length) {x : Int} (hx : (chainN (ctxOf hs) hs.length f).getLast? = some x) : ctxOf hs x = -1 ∧ 0 ≤ x ∧ x < hs.length := by
  have hL := chain_is lk.ctxlt h0 h1
  have hm : x ∈ chainN (ctxOf hs) hs.length f := List.mem_of_getLast? hx
  have hp := hL.pos x hm
  have hl := (hL.lt lk.ctxlt h1 x hm).2
  refine ⟨?_, hp, hl⟩
  have := he f h0 h1 _ hL x hx
  obtain ⟨i, rfl⟩ := Int.eq_ofNat_of_zero_le hp
  rw [ctxOf_at (by omega)] at this ⊢
  have := (lk.ctx i (by omega)).1
  omega

/- what Hide changes -/
theorem setF_hid_at {hs : List Flt} {i k : Nat} (hi : i < hs.length) (hk : k < hs.length) (b : Bool) (h' : k < (setF hs (i : Int) (hidF b)).length) : (setF hs (i : Int) (hidF b))[k] = if i = k then hidF b hs[i] else hs[k] := by
  simp only [setF_at hi, List.getElem_set]
theorem hid_same (hs : List Flt) (i : Nat) (hi : i < hs.length) (b : Bool) (k : Nat) (hk : k < hs.length) (h' : k < (setF hs (i : Int) (hidF b)).length) :
    (setF hs (i : Int) (hidF b))[k].cls = hs[k].cls ∧ (setF hs (i : Int) (hidF b))[k].code = hs[k].code ∧ (setF hs (i : Int) (hidF b))[k].cause = hs[k].cause ∧ (setF hs (i : Int) (hidF b))[k].ctx = hs[k].ctx := by
  rw [setF_hid_at hi hk b h']
  by_cases e : i = k
  · subst e; rw [if_pos rfl]; exact ⟨rfl, rfl, rfl, rfl⟩
  · rw [if_neg e]; exact ⟨rfl, rfl, rfl, rfl⟩
theorem hid_ctx (hs : List Flt) (i : Nat) (hi : i < hs.length) (b : Bool) (x : Int) : ctxOf (setF hs (i : Int) (hidF b)) x = ctxOf hs x := by
  unfold ctxOf
  rcases Nat.lt_or_ge x.toNat hs.length with h | h
  · have h' : x.toNat < (setF hs (i : Int) (hidF b)).length := by rw [setF_len]; exact h
    rw [List.getElem?_eq_getElem h', List.getElem?_eq_getElem h]
    exact (hid_same hs i hi b _ h h').2.2.2
  · rw [List.getElem?_eq_none (by rw [setF_len]; exact h), List.getElem?_eq_none h]
theorem hid_back (hs : List Flt) (i : Nat) (hi : i < hs.length) (b : Bool) : setF (setF hs (i : Int) (hidF b)) (i : Int) (hidF hs[i].hide) = hs := by
  have h' : i < (setF hs (i : Int) (hidF b)).length := by rw [setF_len]; exact hi
  rw [setF_at h', setF_hid_at hi hi b h', if_pos rfl, setF_at hi, List.set_set]
  have : hidF hs[i].hide (hidF b hs[i]) = hs[i] := rfl
  rw [this, List.set_getElem_self]

theorem endsAt_congr {hs ks : List Flt} (hl : ks.length = hs.length) (hc : ∀ x, ctxOf ks x = ctxOf hs x) (f : Int) : endsAt ks f = endsAt hs f := by
  have e : ctxOf ks = ctxOf hs := funext hc
  unfold endsAt
  rw [e, hl]
/-- a heap of the same contexts whose faults are fine is valid where the other one is -/
theorem okHeap_turn {xs : List Cls} {hs ks : List Flt} (hl : ks.length = hs.length) (hf : ∀ k (h : k < ks.length), fOk xs ks.length (k : Int) ks[k] = true) (hc : ∀ x, ctxOf ks x = ctxOf hs x) (h : okHeap xs hs = true) : okHeap xs ks = true := by
  unfold okHeap at h ⊢
  simp only [Bool.and_eq_true, decide_eq_true_eq] at h ⊢
  obtain ⟨⟨⟨h1, h2⟩, h3⟩, h4⟩ := h
  refine ⟨⟨⟨?_, ?_⟩, h3⟩, by omega⟩
  · have := allF_mk (n := ks.length) hf ks.length 0 (by omega)
    simpa using this
  · rw [hl, endsF_mem]
    rw [endsF_mem] at h2
    intro i hi1 hi2
    rw [endsAt_congr hl hc]
    exact h2 i hi1 hi2
theorem okHeap_fok {xs : List Cls} {hs : List Flt} (h : okHeap xs hs = true) (i : Nat) (hi : i < hs.length) : fOk xs hs.length (i : Int) hs[i] = true := by
  unfold okHeap at h
  simp only [Bool.and_eq_true] at h
  exact allF_mem (hs := hs) hs.length 0 (by omega) (by simpa using h.1.1.1) i hi (Nat.zero_le _)
theorem ok_hid {xs : List Cls} {hs : List Flt} {i : Nat} (hi : i < hs.length) (b : Bool) (h : okHeap xs hs = true) : okHeap xs (setF hs (i : Int) (hidF b)) = true := by
  refine okHeap_turn (setF_len _ _ _) (fun k hk => ?_) (hid_ctx hs i hi b) h
  have hk' : k < hs.length := by rw [setF_len] at hk; exact hk
  have a := okHeap_fok h k hk'
  obtain ⟨e1, e2, e3, e4⟩ := hid_same hs i hi b k hk' hk
  unfold fOk linksOk at a ⊢
  rw [e1, e2, e3, e4, setF_len]
  exact a
theorem good_hid {xs : List Cls} {hs : List Flt} {i : Nat} (hi : i < hs.length) (b : Bool) (h : goodF xs hs (i : Int) = true) : goodF xs (setF hs (i : Int) (hidF b)) (i : Int) = true := by
  unfold goodF at h ⊢
  rw [Bool.and_eq_true] at h ⊢
  refine ⟨ok_hid hi b h.1, hasF_iff.2 ⟨by omega, by rw [setF_len]; omega⟩⟩
theorem shown_hid {hs : List Flt} {i : Nat} (hi : i < hs.length) (b : Bool) : shownAt (setF hs (i : Int) (hidF b)) (i : Int) = cond (decide (0 ≤ hs[i].cause)) hs[i].cause (cond b (-1) hs[i].ctx) := by
  have h' : i < (setF hs (i : Int) (hidF b)).length := by rw [setF_len]; exact hi
  rw [shownAt_at h', setF_hid_at hi hi b h', if_pos rfl]
  rfl

/- what a cause changes -/
theorem setF_cau_at {hs : List Flt} {i k : Nat} (hi : i < hs.length) (hk : k < hs.length) (c : Int) (h' : k < (setF hs (i : Int) (cauF c)).length) : (setF hs (i : Int) (cauF c))[k] = if i = k then cauF c hs[i] else hs[k] := by
  simp only [setF_at hi, List.getElem_set]
theorem cau_same (hs : List Flt) (i : Nat) (hi : i < hs.length) (c : Int) (k : Nat) (hk : k < hs.length) (h' : k < (setF hs (i : Int) (cauF c)).length) :
    (setF hs (i : Int) (cauF c))[k].cls = hs[k].cls ∧ (setF hs (i : Int) (cauF c))[k].code = hs[k].code ∧ (setF hs (i : Int) (cauF c))[k].ctx = hs[k].ctx ∧ (setF hs (i : Int) (cauF c))[k].cause = if i = k then c else hs[k].cause := by
  rw [setF_cau_at hi hk c h']
  by_cases e : i = k
  · subst e; rw [if_pos rfl, if_pos rfl]; exact ⟨rfl, rfl, rfl, rfl⟩
  · rw [if_neg e, if_neg e]; exact ⟨rfl, rfl, rfl, rfl⟩
theorem cau_ctx (hs : List Flt) (i : Nat) (hi : i < hs.length) (c : Int) (x : Int) : ctxOf (setF hs (i : Int) (cauF c)) x = ctxOf hs x := by
  unfold ctxOf
  rcases Nat.lt_or_ge x.toNat hs.length with h | h
  · have h' : x.toNat < (setF hs (i : Int) (cauF c)).length := by rw [setF_len]; exact h
    rw [List.getElem?_eq_getElem h', List.getElem?_eq_getElem h]
    exact (cau_same hs i hi c _ h h').2.2.1
  · rw [List.getElem?_eq_none (by rw [setF_len]; exact h), List.getElem?_eq_none h]
theorem ok_cau {xs : List Cls} {hs : List Flt} {i : Nat} (hi : i < hs.length) {c : Int} (hc : -1 ≤ c ∧ c < hs.length ∧ c ≠ (i : Int)) (h : okHeap xs hs = true) : okHeap xs (setF hs (i : Int) (cauF c)) = true := by
  refine okHeap_turn (setF_len _ _ _) (fun k hk => ?_) (cau_ctx hs i hi c) h
  have hk' : k < hs.length := by rw [setF_len] at hk; exact hk
  have a := okHeap_fok h k hk'
  obtain ⟨e1, e2, e3, e4⟩ := cau_same hs i hi c k hk' hk
  unfold fOk linksOk at a ⊢
  rw [e1, e2, e3, e4, setF_len]
  by_cases e : i = k
  · subst e
    rw [if_pos rfl]
    simp only [Bool.and_eq_true, bne_iff_ne, rng_iff] at a ⊢
    obtain ⟨⟨a1, a2⟩, ⟨⟨a3, a4⟩, a5⟩, a6⟩ := a
    exact ⟨⟨a1, a2⟩, ⟨⟨⟨hc.1, by omega⟩, a4⟩, hc.2.2⟩, a6⟩
  · rw [if_neg e]; exact a
theorem cau_twice (hs : List Flt) (i : Nat) (hi : i < hs.length) (c : Int) : setF (setF hs (i : Int) (cauF c)) (i : Int) (cauF c) = setF hs (i : Int) (cauF c) := by
  have h' : i < (setF hs (i : Int) (cauF c)).length := by rw [setF_len]; exact hi
  rw [setF_at h', setF_cau_at hi hi c h', if_pos rfl, setF_at hi, List.set_set]
  rfl
theorem shown_cau {hs : List Flt} {i : Nat} (hi : i < hs.length) {c : Int} (hc : -1 ≤ c) : shownAt (setF hs (i : Int) (cauF c)) (i : Int) = c := by
  have h' : i < (setF hs (i : Int) (cauF c)).length := by rw [setF_len]; exact hi
  rw [shownAt_at h', setF_cau_at hi hi c h', if_pos rfl]
  show shownOf (cauF c hs[i]) = c
  unfold shownOf cauF
  by_cases h : 0 ≤ c
  · simp [h]
  · rw [decide_eq_false h]; show (-1 : Int) = c; omega
theorem chain_cau {hs : List Flt} {i : Nat} (hi : i < hs.length) (c f : Int) : chainN (ctxOf (setF hs (i : Int) (cauF c))) (setF hs (i : Int) (cauF c)).length f = chainN (ctxOf hs) hs.length f := by
  rw [setF_len, show ctxOf (setF hs (i : Int) (cauF c)) = ctxOf hs from funext (cau_ctx hs i hi c)]
end

section
theorem chain_cons {nx : Int → Int} {n : Nat} (hb : ∀ x : Int, 0 ≤ x → x < n → nx x < n) (he : Chn.allEnd nx n) {x : Int} (h0 : 0 ≤ x) (h1 : x < n) (hn : 0 ≤ nx x) : chainN nx n x = x :: chainN nx n (nx x) := by
  have hM := chain_is hb hn (hb x h0 h1)
  have hx := chain_is hb h0 h1
  have hno := Chn.noBack_of_end he x h0 h1 _ hM
  generalize chainN nx n (nx x) = M at *
  refine hx.uniq ⟨List.nodup_cons.2 ⟨hno, hM.nd⟩, ?_, by simp, rfl, ?_, ?_⟩
  · intro y hy
    rcases List.mem_cons.1 hy with rfl | hy
    · exact h0
    · exact hM.pos y hy
  · intro k hk
    cases k with
    | zero =>
      have a := hM.hd
      rw [List.head?_eq_getElem?, List.getElem?_eq_getElem (by simpa using hk)] at a
      injection a
    | succ k => exact hM.st k (by simpa using hk)
  · intro y hy
    have hy' : M.getLast? = some y := by
      rw [List.getLast?_cons] at hy
      rcases e : M.getLast? with _ | z
      · exact absurd (List.getLast?_eq_none_iff.1 e) hM.ne
      · rw [e] at hy; simpa using hy
    rcases hM.en y hy' with h | h
    · exact .inl h
    · exact .inr (List.mem_cons_of_mem _ h)
theorem allEnd_of_rank {nx : Int → Int} {n : Nat} (hb : ∀ x : Int, 0 ≤ x → x < n → nx x < n) (r : Int → Nat) (hr : ∀ x : Int, 0 ≤ x → x < n → 0 ≤ nx x → r (nx x) < r x) : Chn.allEnd nx n := by
  intro f h0 h1 L hL x hx
  rcases hL.en x hx with h | h
  · exact h
  · rcases Int.lt_or_le (nx x) 0 with hn | hn
    · exact hn
    · exfalso
      have hlt := fun y hy => hL.lt hb h1 y hy
      have dec : ∀ d j, (hj : j + d < L.length) → r L[j + d] ≤ r (L[j]'(by omega)) := by
        intro d
        induction d with
        | zero => intro j hj; exact Nat.le_refl _
        | succ d ih =>
          intro j hj
          have a := ih j (by omega)
          have e := hL.st (j + d) (by omega)
          have p := hL.pos _ (List.getElem_mem (show j + d + 1 < L.length by omega))
          have q := hlt _ (List.getElem_mem (show j + d < L.length by omega))
          rw [e] at p
          have b := hr _ q.1 q.2 p
          rw [← e] at b
          exact Nat.le_of_lt (Nat.lt_of_lt_of_le b a)
      obtain ⟨j, hj, ej⟩ := List.getElem_of_mem h
      have hne : 0 < L.length := by omega
      have el : L[L.length - 1] = x := by
        rw [List.getLast?_eq_getElem?, List.getElem?_eq_getElem (by omega)] at hx
        injection hx
      have hm := hlt x (List.mem_of_getLast? hx)
      have a := hr x hm.1 hm.2 hn
      have b := dec (L.length - 1 - j) j (by omega)
      have e2 : L[j + (L.length - 1 - j)]'(by omega) = x := by
        have : j + (L.length - 1 - j) = L.length - 1 := by omega
        simp only [this]; exact el
      rw [e2, ej] at b
      omega

theorem ctx_setF {hs : List Flt} {i : Nat} (hi : i < hs.length) (c x : Int) (h0 : 0 ≤ x) : ctxOf (setF hs (i : Int) (ctxF c)) x = if x = (i : Int) then c else ctxOf hs x := by
  rw [setF_at hi]
  unfold ctxOf
  rw [List.getElem?_set]
  by_cases e : x = (i : Int)
  · subst e
    rw [if_pos rfl, Int.toNat_natCast, if_pos rfl, if_pos hi]
    rfl
  · rw [if_neg e, if_neg (by omega)]
/-- the contexts behind a raise -/
theorem ctx_raised {hs : List Flt} {f g : Nat} (hf : f < hs.length) (_hg : g < hs.length) (hfg : f ≠ g) (hc : CtxCh hs (g : Int) (chainN (ctxOf hs) hs.length (g : Int))) (x : Int) (h0 : 0 ≤ x) :
    ctxOf (raisedL hs (f : Int) (g : Int)) x = if x = (f : Int) then (g : Int) else if x ∈ chainN (ctxOf hs) hs.length (g : Int) ∧ ctxOf hs x = (f : Int) then -1 else ctxOf hs x := by
  rw [raisedL_other (by omega)]
  generalize chainN (ctxOf hs) hs.length (g : Int) = L at *
  rw [ctx_setF (by rw [cutL_len]; exact hf) _ _ h0]
  by_cases e : x = (f : Int)
  · rw [if_pos e, if_pos e]
  · rw [if_neg e, if_neg e]
    by_cases hex : ∃ k, ∃ h : k < L.length, ctxOf hs L[k] = (f : Int)
    · obtain ⟨k, hk, ek⟩ := hex
      rw [cutL_here hk ek (fun j hj hne ej => hne (hc.once (by omega) hj hk ej ek))]
      obtain ⟨y, hy⟩ := Int.eq_ofNat_of_zero_le (hc.rng _ (List.getElem_mem hk)).1
      have hyl : y < hs.length := by have := (hc.rng _ (List.getElem_mem hk)).2; omega
      rw [hy, ctx_setF hyl _ _ h0]
      by_cases e2 : x = (y : Int)
      · rw [if_pos e2, if_pos]
        rw [e2, ← hy]
        exact ⟨List.getElem_mem _, ek⟩
      · rw [if_neg e2, if_neg]
        rintro ⟨hx, ex⟩
        obtain ⟨j, hj, rfl⟩ := List.getElem_of_mem hx
        have := hc.once (by omega) hj hk ex ek
        subst this
        exact e2 hy
    · have hno : ∀ z ∈ L, ctxOf hs z ≠ (f : Int) := by
        intro z hz ez
        obtain ⟨j, hj, rfl⟩ := List.getElem_of_mem hz
        exact hex ⟨j, hj, ez⟩
      have hcut : cutL hs (f : Int) L = hs := cutL_none L hs hno
      rw [hcut, if_neg]
      rintro ⟨hx, ex⟩
      exact hno x hx ex
theorem raised_end {hs : List Flt} (lk : Lnk hs) (he : Chn.allEnd (ctxOf hs) hs.length) {f g : Nat} (hf : f < hs.length) (hg : g < hs.length) (hc : CtxCh hs (g : Int) (chainN (ctxOf hs) hs.length (g : Int))) :
    (∀ x : Int, 0 ≤ x → x < hs.length → ctxOf (raisedL hs (f : Int) (g : Int)) x < hs.length) ∧ Chn.allEnd (ctxOf (raisedL hs (f : Int) (g : Int))) hs.length := by
  by_cases hfg : f = g
  · subst hfg; rw [raisedL_same]; exact ⟨lk.ctxlt, he⟩
  · have hcx := ctx_raised hf hg hfg hc
    have hb : ∀ x : Int, 0 ≤ x → x < hs.length → ctxOf (raisedL hs (f : Int) (g : Int)) x < hs.length := by
      intro x h0 h1
      rw [hcx x h0]
      have := lk.ctxlt x h0 h1
      split
      · omega
      · split <;> omega
    refine ⟨hb, ?_⟩
    have hgL : (g : Int) ∈ chainN (ctxOf hs) hs.length (g : Int) := List.mem_of_head? hc.is.hd
    generalize hLL : chainN (ctxOf hs) hs.length (g : Int) = L at *
    refine allEnd_of_rank hb (fun x => (chainN (ctxOf hs) hs.length x).length + (if (f : Int) ∈ chainN (ctxOf hs) hs.length x ∧ ¬ (x ∈ L ∧ x ≠ (f : Int)) then hs.length + 1 else 0)) ?_
    intro x h0 h1 hn
    rw [hcx x h0] at hn
    show (chainN (ctxOf hs) hs.length (ctxOf (raisedL hs (f : Int) (g : Int)) x)).length + _ < _
    rw [hcx x h0]
    by_cases e : x = (f : Int)
    · subst e
      rw [if_pos rfl]
      have a : (chainN (ctxOf hs) hs.length (g : Int)).length ≤ hs.length := Chn.go_len2 lk.ctxlt (by omega) (by omega)
      have hff : (f : Int) ∈ chainN (ctxOf hs) hs.length (f : Int) := List.mem_of_head? (chain_is lk.ctxlt h0 h1).hd
      rw [if_neg (by rintro ⟨_, h⟩; exact h ⟨hgL, by omega⟩), if_pos ⟨hff, by rintro ⟨_, h⟩; exact h rfl⟩]
      omega
    · rw [if_neg e] at hn ⊢
      by_cases hcut : x ∈ L ∧ ctxOf hs x = (f : Int)
      · rw [if_pos hcut] at hn; omega
      · rw [if_neg hcut] at hn ⊢
        have hcc := chain_cons lk.ctxlt he h0 h1 hn
        rw [hcc, List.length_cons]
        by_cases hp : (f : Int) ∈ chainN (ctxOf hs) hs.length (ctxOf hs x) ∧ ¬ (ctxOf hs x ∈ L ∧ ctxOf hs x ≠ (f : Int))
        · rw [if_pos hp, if_pos]
          · omega
          · refine ⟨List.mem_cons_of_mem _ hp.1, ?_⟩
            rintro ⟨hxL, _⟩
            obtain ⟨k, hk, rfl⟩ := List.getElem_of_mem hxL
            obtain ⟨h2, e2⟩ := hc.next k hk hn
            refine hp.2 ⟨by rw [← e2]; exact List.getElem_mem _, fun ef => hcut ⟨hxL, ef⟩⟩
        · rw [if_neg hp]
          omega
end

section
def T8 : List Cls := [⟨⟨#[97]⟩, -1⟩, ⟨⟨#[98]⟩, 0⟩, ⟨⟨#[99]⟩, 0⟩, ⟨⟨#[100]⟩, 0⟩, ⟨⟨#[101]⟩, 0⟩, ⟨⟨#[102]⟩, 0⟩, ⟨⟨#[103]⟩, 0⟩, ⟨⟨#[104]⟩, 0⟩]
theorem ok_T8 : okTree T8 = true := by decide +kernel
theorem hasK_T8 {a : Int} (h0 : 0 ≤ a) (h1 : a < 8) : hasK T8 a = true := hasK_iff.2 ⟨h0, h1⟩
theorem ok_nil : okHeap T8 [] = true := by
  refine okHeap_mk (fun i h => absurd h (by simp)) (fun _ f h0 h1 => absurd h1 (by simp; omega)) ok_T8 (by simp)
theorem ok_one {a b : Int} (ha : 0 ≤ a ∧ a < 8) (hb : 0 ≤ b ∧ b ≤ 99) : okHeap T8 [mkF a b] = true := by
  refine okHeap_mk (fun i h => ?_) (fun _ => ?_) ok_T8 (by simp)
  · have e : i = 0 := by simpa using h
    subst e
    exact fOk_parts.2 ⟨hasK_T8 ha.1 ha.2, hb, ⟨by show (-1 : Int) ≤ -1; omega, by show (-1 : Int) ≤ _; simp⟩, ⟨by show (-1 : Int) ≤ -1; omega, by show (-1 : Int) ≤ _; simp⟩, by show (-1 : Int) ≠ 0; omega, by show (-1 : Int) ≠ 0; omega⟩
  · refine allEnd_of_rank (fun x h0 h1 => ?_) (fun _ => 0) (fun x h0 h1 hn => ?_)
    · have e : x = ((0 : Nat) : Int) := by simp at h1; omega
      subst e
      rw [ctxOf_at (by simp)]; show (-1 : Int) < _; simp
    · have e : x = ((0 : Nat) : Int) := by simp at h1; omega
      subst e
      rw [ctxOf_at (by simp)] at hn; exact absurd hn (by show ¬ (0 : Int) ≤ -1; omega)
theorem ok_snoc {hs : List Flt} {a b : Int} (h : okHeap T8 hs = true) (ha : 0 ≤ a ∧ a < 8) (hb : 0 ≤ b ∧ b ≤ 99) (hl : hs.length < 24) : okHeap T8 (hs ++ [mkF a b]) = true := by
  have := join_ok h (ok_one ha hb)
  have e : joinL hs [mkF a b] = hs ++ [mkF a b] := rfl
  rw [e, decide_eq_true (by simp; omega)] at this
  exact this
/-- all but the context -/
def bare (x : Flt) : Flt := ctxF 0 x
theorem bare_setF (hs : List Flt) (f c : Int) : (setF hs f (ctxF c)).map bare = hs.map bare := by
  unfold setF
  split
  · next x e =>
    obtain ⟨h, e2⟩ := List.getElem?_eq_some_iff.1 e
    rw [List.map_set]
    have : bare (ctxF c x) = (hs.map bare)[f.toNat]'(by rw [List.length_map]; exact h) := by rw [List.getElem_map, e2]; rfl
    rw [this, List.set_getElem_self]
  · rfl
theorem bare_cut (hs : List Flt) (f : Int) : ∀ (L : List Int) (out : List Flt), (L.foldl (cutOne hs f) out).map bare = out.map bare
  | [], out => rfl
  | x :: r, out => by
    rw [List.foldl_cons, bare_cut hs f r]
    unfold cutOne
    split
    · exact bare_setF _ _ _
    · rfl
theorem bare_raised (hs : List Flt) (f g : Int) : (raisedL hs f g).map bare = hs.map bare := by
  unfold raisedL
  split
  · rfl
  · rw [bare_setF]; exact bare_cut hs f _ hs
theorem raised_at (hs : List Flt) (f g : Int) (i : Nat) (h : i < (raisedL hs f g).length) (h2 : i < hs.length) : (raisedL hs f g)[i].cls = hs[i].cls ∧ (raisedL hs f g)[i].code = hs[i].code ∧ (raisedL hs f g)[i].cause = hs[i].cause ∧ (raisedL hs f g)[i].hide = hs[i].hide := by
  have e : bare (raisedL hs f g)[i] = bare hs[i] := by
    have h3 : ((raisedL hs f g).map bare)[i]? = (hs.map bare)[i]? := by rw [bare_raised]
    rw [List.getElem?_map, List.getElem?_map, List.getElem?_eq_getElem h, List.getElem?_eq_getElem h2] at h3
    simpa using h3
  unfold bare ctxF at e
  injection e with e1 e2 e3 e4 e5
  exact ⟨e1, e2, e3, e5⟩
theorem ok_raised {xs : List Cls} {hs : List Flt} {f g : Nat} (h : okHeap xs hs = true) (hf : f < hs.length) (hg : g < hs.length) : okHeap xs (raisedL hs (f : Int) (g : Int)) = true := by
  by_cases hfg : f = g
  · subst hfg; rw [raisedL_same]; exact h
  have gh := goodH_of h
  have hgg : goodF xs hs (g : Int) = true := by unfold goodF; rw [h, hasF_iff.2 ⟨by omega, by omega⟩]; rfl
  have hc := ctxCh_of hgg
  have hx := ctx_raised hf hg hfg hc
  refine okHeap_mk (fun i hi => ?_) (fun _ => ?_) (okHeap_fall h).2.2.1 (by rw [raisedL_len]; exact gh.few)
  · have hi2 : i < hs.length := by rw [raisedL_len] at hi; exact hi
    have a := fOk_parts.1 (okHeap_at h i hi2)
    obtain ⟨e1, e2, e3, _⟩ := raised_at hs f g i hi hi2
    have ex := hx (i : Int) (by omega)
    rw [ctxOf_at hi, ctxOf_at hi2] at ex
    rw [fOk_parts, e1, e2, e3, raisedL_len]
    refine ⟨a.1, a.2.1, a.2.2.1, ?_, a.2.2.2.2.1, ?_⟩
    · rw [ex]
      have := a.2.2.2.1
      split
      · omega
      · split <;> omega
    · rw [ex]
      have := a.2.2.2.2.2
      split
      · omega
      · split <;> omega
  · rw [raisedL_len]; exact (raised_end gh.lnk gh.fin hf hg hc).2
theorem ok_enc {hs : List Flt} (h : okHeap T8 hs = true) : ∀ x ∈ hs, Enc.ok x := by
  intro x hx
  obtain ⟨i, hi, rfl⟩ := List.getElem_of_mem hx
  have gh := goodH_of h
  have a := gh.cls i hi
  have b := gh.code i hi
  have c := gh.lnk.cause i hi
  have d := gh.lnk.ctx i hi
  have e := gh.few
  have f : T8.length = 8 := rfl
  exact ⟨by omega, by omega, by omega, by omega, by omega, by omega, by omega, by omega⟩
end
end

section
set_option maxHeartbeats 8000000 in
set_option maxRecDepth 100000 in
theorem sRaised_any (H : Option Addr) (m c : Nat) (xs : List Cls) (hs : List Flt) (f g : Int) (w : World) (hH : Sl w H m c hs) (hgf : goodF xs hs f = true) (hgg : goodF xs hs g = true) :
    Calls Tryd.prog 55 #[.agg #[.slice H m c], .int .i64 f, .int .i64 g] w fun e w' => ∃ v, e = .returned (.agg #[v]) ∧ Owd 49 w w' v (raisedL hs f g) ∧ Le w w' := by
  obtain rfl := hH.len
  obtain ⟨c0, z0, c1, z1, L0⟩ := box2 w (.slice H hs.length c) (.slice none 0 0) 28 28
  have f1 : ((w.alloc (.cells #[.slice H hs.length c] 28)).alloc (.cells #[.slice none 0 0] 28)).frozen? ⟨w.heap.size + 1, 0, none⟩ = false := World.frozen?_alloc_at _ _ _ _ (by simp)
  have S0 := hH.le L0
  have HOKH := Lib.hid hH.ok
  have hfew := goodF_few hgf
  obtain ⟨fi, rfl, hfi⟩ := goodF_at hgf
  have hg2 := goodF_in hgg
  have hch := ctxCh_of hgg
  have hgr : -9223372036854775808 ≤ g ∧ g ≤ 9223372036854775807 := by have := hg2.2; omega
  have hfi3 : (fi : Int) < (hs.length : Int) := by omega
  have hgp := hg2.2.1
  clear hg2 hgf hgg
  go_enter Tryd.func55, Tryd.ntmps55
  go_wp2_with fail
  generalize (w.alloc (.cells #[.slice H hs.length c] 28)).alloc (.cells #[.slice none 0 0] 28) = w3 at *
  have y1 := z1
  refine (sCopyHeap_any H hs.length c hs w3 S0 (by omega)).mono ?_
  rintro e w4 ⟨v, rfl, D, hle⟩
  obtain ⟨gb, q, rfl, O, hg0, hg1⟩ := D.blk (by omega)
  replace c1 := (hle.cell z1).trans c1
  replace f1 := (hle.frozen z1).trans f1
  replace z1 := Nat.lt_of_lt_of_le z1 hle.size
  replace L0 := L0.trans hle
  have hs4 := hle.size
  clear hle D c0 z0
  have cB : (w4.alloc (.cells #[.slice (some ⟨gb, 0, none⟩) hs.length q] 28)).cell? ⟨w4.heap.size, 0, none⟩ = some (.slice (some ⟨gb, 0, none⟩) hs.length q) := by rw [World.cell?_alloc_at _ _ _ _ rfl]; rfl
  have zB : w4.heap.size < (w4.alloc (.cells #[.slice (some ⟨gb, 0, none⟩) hs.length q] 28)).heap.size := by simp
  have LB := Le.new w4 (.cells #[.slice (some ⟨gb, 0, none⟩) hs.length q] 28)
  replace c1 := (LB.cell z1).trans c1
  replace f1 := (LB.frozen z1).trans f1
  replace z1 := Nat.lt_of_lt_of_le z1 LB.size
  replace L0 := L0.trans LB
  replace O := own_le O LB
  clear LB
  by_cases hfg : (fi : Int) = g
  · subst hfg
    have hb1 : ((fi : Int) == (fi : Int)) = true := by simp
    have HG1 := Lib.hid hg1; clear hg1
    generalize hW5 : w4.alloc (.cells #[.slice (some ⟨gb, 0, none⟩) hs.length q] 28) = W5 at *
    have hg1 := HG1.out
    clear hch
    have HR : raisedL hs (fi : Int) (fi : Int) = hs := raisedL_same _ _
    have OF : W5.ownsRow w3.heap.size 49 5 (.slice (some ⟨gb, 0, none⟩) hs.length q) (raisedL hs (fi : Int) (fi : Int)).length ((raisedL hs (fi : Int) (fi : Int)).flatMap Enc.cells) := by rw [raisedL_len, HR]; exact O
    have LX : Le w W5 := L0
    have cX : W5.cell? ⟨w.heap.size + 1, 0, none⟩ = some (.slice none 0 0) := c1
    have bX : W5.cell? ⟨w4.heap.size, 0, none⟩ = some (.slice (some ⟨gb, 0, none⟩) hs.length q) := cB
    have fX : W5.frozen? ⟨w.heap.size + 1, 0, none⟩ = false := by simpa using f1
    have hend := fun u => cell_set_same (v := u) cX
    have HE := Lib.hid (res_end (r := w.heap.size + 1) LX (by omega) y1 OF (raisedL_ok hgr HOKH.out))
    clear OF HR LX
    subst hW5
    clear hg1
    go_wp2
    exact bodyPost_ret (v := .agg #[.slice (some ⟨gb, 0, none⟩) hs.length q]) (by simp [results, Tryd.results55, go_sem, hend]) rfl ⟨_, rfl, by have h := HE.out (.slice (some ⟨gb, 0, none⟩) hs.length q); exact h.1, (HE.out _).2⟩
  · have hb1 : ((fi : Int) == g) = false := by simpa using hfg
    have hb2 : decide (g < 0) = false := decide_eq_false (by omega)
    have HRO := Lib.hid (raisedL_other (hs := hs) hfg)
    have HCH := Lib.hid hch
    have hne := hch.is.ne
    have hhd := hch.is.hd
    generalize hL : chainN (ctxOf hs) hs.length g = L at *
    have HL := Lib.hid hL; clear hL
    have hl0 : 0 < L.length := by rcases Nat.eq_zero_or_pos L.length with h | h; exact absurd (List.eq_nil_of_length_eq_zero h) hne; exact h
    have hL0 : L[0] = g := by rw [List.head?_eq_getElem?, List.getElem?_eq_getElem hl0] at hhd; injection hhd
    have HL0 := Lib.hid hL0
    have HG1 := Lib.hid hg1; clear hg1 hch hne hhd hL0 hfg
    go_wp2
    generalize hW5 : w4.alloc (.cells #[.slice (some ⟨gb, 0, none⟩) hs.length q] 28) = W5 at *
    clear hW5
    have hg1 := HG1.out
    go_loopg [8] (L.length) (fun mm x wr => ∃ (k : Nat) (h : k < L.length), x = .int .i64 L[k] ∧ mm = L.length - k ∧ (∀ j (h : j < L.length), j < k → ctxOf hs L[j] ≠ (fi : Int)) ∧ W5 = wr)
    case atStart => exact ⟨0, hl0, by rw [HL0.out], rfl, fun j h h2 => by omega, rfl⟩
    case round =>
      obtain ⟨k, hk, rfl, rfl, hno, rfl⟩ := hrel
      have HNO := Lib.hid hno; clear hno
      have hr := HCH.out.rng _ (List.getElem_mem hk)
      have hneg := HCH.out.neg k hk
      have hnext := HCH.out.next k hk
      have HONE := Lib.hid (fun j (hj : j < L.length) (e1 : ctxOf hs L[j] = (fi : Int)) (e2 : ctxOf hs L[k] = (fi : Int)) => HCH.out.once (f := (fi : Int)) (by omega) hj hk e1 e2)
      obtain ⟨i, hi⟩ := Int.eq_ofNat_of_zero_le hr.1
      have HI := Lib.hid hi
      rw [hi] at hr hneg hnext
      have hil : i < hs.length := by omega
      have hi3 : (i : Int) < (hs.length : Int) := by omega
      have hcx := ctxOf_at hil
      have q3 := O.cellAt (i * 5 + 3) (by omega)
      rw [show (hs.flatMap (Enc.cells (α := Flt)))[i * 5 + 3]? = _ from (flat_at hs i hil 3 (by decide))] at q3
      simp only [Enc.cells, List.getElem?_cons_succ, List.getElem?_cons_zero] at q3
      rw [← hcx] at q3
      clear hcx
      rw [hi]
      have HNEG := Lib.hid hneg; have HNEXT := Lib.hid hnext
      clear hneg hnext hi
      by_cases hcn : ctxOf hs (i : Int) < 0
      · have hd1 : decide (0 ≤ ctxOf hs (i : Int)) = false := decide_eq_false (by omega)
        have HCN := Lib.hid hcn
        have hnc : cutL hs (fi : Int) L = hs := by
          unfold cutL
          refine cutL_none L hs (fun x hx => ?_)
          obtain ⟨j, hj, rfl⟩ := List.getElem_of_mem hx
          have hk2 := HNEG.out HCN.out
          rcases Nat.lt_or_ge j k with h | h
          · exact HNO.out j hj h
          · have e : j = k := by omega
            subst e; rw [HI.out]; have := HCN.out; omega
        have HNC := Lib.hid hnc; clear hnc
        have O1 := (O.stored (fi * 5 + 3) (.int .i64 g)).1
        rw [flat_ctx hs fi hfi g] at O1
        have HR : raisedL hs (fi : Int) g = setF hs (fi : Int) (ctxF g) := by rw [HRO.out, HNC.out]
        have OF : (W5.setCell ⟨gb, fi * 5 + 3, none⟩ (.int .i64 g)).ownsRow w3.heap.size 49 5 (.slice (some ⟨gb, 0, none⟩) hs.length q) (raisedL hs (fi : Int) g).length ((raisedL hs (fi : Int) g).flatMap Enc.cells) := by rw [raisedL_len, HR]; exact O1
        have LX : Le w (W5.setCell ⟨gb, fi * 5 + 3, none⟩ (.int .i64 g)) := L0.setCell (by omega) _
        have cX : (W5.setCell ⟨gb, fi * 5 + 3, none⟩ (.int .i64 g)).cell? ⟨w.heap.size + 1, 0, none⟩ = some (.slice none 0 0) := (cell_set_other (.inl (by omega))).trans (c1)
        have bX : (W5.setCell ⟨gb, fi * 5 + 3, none⟩ (.int .i64 g)).cell? ⟨w4.heap.size, 0, none⟩ = some (.slice (some ⟨gb, 0, none⟩) hs.length q) := (cell_set_other (.inl (by omega))).trans (cB)
        have fX : (W5.setCell ⟨gb, fi * 5 + 3, none⟩ (.int .i64 g)).frozen? ⟨w.heap.size + 1, 0, none⟩ = false := by simpa using f1
        have k0 := O.cellAt (fi * 5 + 3) (by omega)
        rw [show (hs.flatMap (Enc.cells (α := Flt)))[fi * 5 + 3]? = _ from (flat_at hs fi hfi 3 (by decide))] at k0
        simp only [Enc.cells, List.getElem?_cons_succ, List.getElem?_cons_zero] at k0
        have e0 := O.frozenAt (fi * 5 + 3)
        have hend := fun u => cell_set_same (v := u) cX
        have HE := Lib.hid (res_end (r := w.heap.size + 1) LX (by omega) y1 OF (raisedL_ok hgr HOKH.out))
        clear OF HR LX
        go_wp2
        exact bodyPost_ret (v := .agg #[.slice (some ⟨gb, 0, none⟩) hs.length q]) (by simp [results, Tryd.results55, go_sem, hend]) rfl ⟨_, rfl, by have h := HE.out (.slice (some ⟨gb, 0, none⟩) hs.length q); exact h.1, (HE.out _).2⟩
      · have hd1 : decide (0 ≤ ctxOf hs (i : Int)) = true := decide_eq_true (by omega)
        by_cases hcf : ctxOf hs (i : Int) = (fi : Int)
        · have hb3 : (ctxOf hs (i : Int) == (fi : Int)) = true := by simpa using hcf
          have HCF := Lib.hid hcf
          clear hcf
          have hcut : cutL hs (fi : Int) L = setF hs (i : Int) (ctxF (-1)) := by
            have := cutL_here (hs := hs) (f := (fi : Int)) hk (by rw [HI.out]; exact HCF.out) (fun j hj hne e => hne (HONE.out j hj e (by rw [HI.out]; exact HCF.out)))
            rw [HI.out] at this; exact this
          have HCUT := Lib.hid hcut; clear hcut
          have O1 := (O.stored (i * 5 + 3) (.int .i64 (-1))).1
          rw [flat_ctx hs i hil (-1)] at O1
          have O2 := (O1.stored (fi * 5 + 3) (.int .i64 g)).1
          rw [flat_ctx (setF hs (i : Int) (ctxF (-1))) fi (by rw [setF_len]; exact hfi) g] at O2
          have HR : raisedL hs (fi : Int) g = setF (setF hs (i : Int) (ctxF (-1))) (fi : Int) (ctxF g) := by rw [HRO.out, HCUT.out]
          have OF : ((W5.setCell ⟨gb, i * 5 + 3, none⟩ (.int .i64 (-1))).setCell ⟨gb, fi * 5 + 3, none⟩ (.int .i64 g)).ownsRow w3.heap.size 49 5 (.slice (some ⟨gb, 0, none⟩) hs.length q) (raisedL hs (fi : Int) g).length ((raisedL hs (fi : Int) g).flatMap Enc.cells) := by rw [raisedL_len, HR]; exact O2
          have LX : Le w ((W5.setCell ⟨gb, i * 5 + 3, none⟩ (.int .i64 (-1))).setCell ⟨gb, fi * 5 + 3, none⟩ (.int .i64 g)) := (L0.setCell (by omega) _).setCell (by omega) _
          have cX : ((W5.setCell ⟨gb, i * 5 + 3, none⟩ (.int .i64 (-1))).setCell ⟨gb, fi * 5 + 3, none⟩ (.int .i64 g)).cell? ⟨w.heap.size + 1, 0, none⟩ = some (.slice none 0 0) := (cell_set_other (.inl (by omega))).trans ((cell_set_other (.inl (by omega))).trans (c1))
          have bX : ((W5.setCell ⟨gb, i * 5 + 3, none⟩ (.int .i64 (-1))).setCell ⟨gb, fi * 5 + 3, none⟩ (.int .i64 g)).cell? ⟨w4.heap.size, 0, none⟩ = some (.slice (some ⟨gb, 0, none⟩) hs.length q) := (cell_set_other (.inl (by omega))).trans ((cell_set_other (.inl (by omega))).trans (cB))
          have fX : ((W5.setCell ⟨gb, i * 5 + 3, none⟩ (.int .i64 (-1))).setCell ⟨gb, fi * 5 + 3, none⟩ (.int .i64 g)).frozen? ⟨w.heap.size + 1, 0, none⟩ = false := by simpa using f1
          have k0 := O.cellAt (i * 5 + 3) (by omega)
          rw [show (hs.flatMap (Enc.cells (α := Flt)))[i * 5 + 3]? = _ from (flat_at hs i hil 3 (by decide))] at k0
          simp only [Enc.cells, List.getElem?_cons_succ, List.getElem?_cons_zero] at k0
          have e0 := O.frozenAt (i * 5 + 3)
          have k1 := O1.cellAt (fi * 5 + 3) (by omega)
          obtain ⟨u1, hu1⟩ : ∃ u, ((setF hs (i : Int) (ctxF (-1))).flatMap (Enc.cells (α := Flt)))[fi * 5 + 3]? = some u := ⟨_, List.getElem?_eq_getElem (by rw [flat_len, setF_len]; show fi * 5 + 3 < hs.length * 5; omega)⟩
          rw [hu1] at k1
          have e1 := O1.frozenAt (fi * 5 + 3)
          have hend := fun u => cell_set_same (v := u) cX
          have HE := Lib.hid (res_end (r := w.heap.size + 1) LX (by omega) y1 OF (raisedL_ok hgr HOKH.out))
          clear OF HR LX
          go_wp2
          exact bodyPost_ret (v := .agg #[.slice (some ⟨gb, 0, none⟩) hs.length q]) (by simp [results, Tryd.results55, go_sem, hend]) rfl ⟨_, rfl, by have h := HE.out (.slice (some ⟨gb, 0, none⟩) hs.length q); exact h.1, (HE.out _).2⟩
        · have hb3 : (ctxOf hs (i : Int) == (fi : Int)) = false := by simpa using hcf
          obtain ⟨hk2, hn2⟩ := HNEXT.out (by omega)
          have HN2 := Lib.hid hn2
          have HNO2 : Hid (∀ j (h : j < L.length), j < k + 1 → ctxOf hs L[j] ≠ (fi : Int)) := fun j hj h2 => by
            rcases Nat.lt_or_ge j k with h | h
            · exact HNO.out j hj h
            · have e : j = k := by omega
              subst e; rw [HI.out]; exact hcf
          clear hn2 hcf
          go_wp2
          go_roundg (L.length - (k + 1))
          case measure => omega
          case rel => exact ⟨k + 1, hk2, by rw [HN2.out], rfl, HNO2.out, rfl⟩
end
end Go.Proofs.YthcolcmgfhkbeaaDoor
