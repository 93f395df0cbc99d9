/- one text of PW, PJ, HpG -/
import Derived.Test.YthcolcmgfhkbeaaDoorCt6
import Derived.Test.YthcolcmgfhkbeaaDoorCt2
import Derived.Test.YthcolcmgfhkbeaaDoorCt3
import Derived.Test.YthcolcmgfhkbeaaDoorCt5
namespace Go.Proofs.YthcolcmgfhkbeaaDoor
open Go.RowKit
set_option linter.unusedVariables false
section
def ctxF (c : Int) (x : Flt) : Flt := ⟨x.cls, x.code, x.cause, c, x.hide⟩
theorem ctxF_ok {c : Int} (hc : -9223372036854775808 ≤ c ∧ c ≤ 9223372036854775807) (x : Flt) (h : Enc.ok x) : Enc.ok (ctxF c x) := ⟨h.1, h.2.1, h.2.2.1, h.2.2.2.1, h.2.2.2.2.1, h.2.2.2.2.2.1, hc.1, hc.2⟩
theorem flat_ctx (hs : List Flt) (i : Nat) (h : i < hs.length) (c : Int) : (hs.flatMap Enc.cells).set (i * 5 + 3) (.int .i64 c) = (setF hs (i : Int) (ctxF c)).flatMap Enc.cells := by
  rw [setF_at h, flat_flt_ctx hs i h c]; rfl
def cutOne (hs : List Flt) (f : Int) (out : List Flt) (x : Int) : List Flt := if ctxOf hs x = f then setF out x (ctxF (-1)) else out
def cutL (hs : List Flt) (f : Int) (L : List Int) : List Flt := L.foldl (cutOne hs f) hs
theorem cutL_succ {hs : List Flt} {f : Int} {L : List Int} {k : Nat} (h : k < L.length) : cutL hs f (L.take (k + 1)) = cutOne hs f (cutL hs f (L.take k)) L[k] := by
  unfold cutL; rw [List.take_succ_eq_append_getElem h, List.foldl_append]; rfl
theorem cutOne_len (hs : List Flt) (f : Int) (out : List Flt) (x : Int) : (cutOne hs f out x).length = out.length := by
  unfold cutOne; split
  · exact setF_len _ _ _
  · rfl
theorem cutL_len (hs : List Flt) (f : Int) : ∀ (L : List Int), (cutL hs f L).length = hs.length := by
  have : ∀ (L : List Int) (out : List Flt), (L.foldl (cutOne hs f) out).length = out.length := by
    intro L
    induction L with
    | nil => intro out; rfl
    | cons x r ih => intro out; rw [List.foldl_cons, ih, cutOne_len]
  exact fun L => this L hs
theorem cutL_none {hs : List Flt} {f : Int} : ∀ (L : List Int) (out : List Flt), (∀ x ∈ L, ctxOf hs x ≠ f) → L.foldl (cutOne hs f) out = out
  | [], out, _ => rfl
  | x :: r, out, h => by
    rw [List.foldl_cons]
    have : cutOne hs f out x = out := by unfold cutOne; rw [if_neg (h x (by simp))]
    rw [this]
    exact cutL_none r out (fun y hy => h y (by simp [hy]))
theorem cutL_here {hs : List Flt} {f : Int} {L : List Int} {k : Nat} (hk : k < L.length) (he : ctxOf hs L[k] = f) (hno : ∀ j (h : j < L.length), j ≠ k → ctxOf hs L[j] ≠ f) : cutL hs f L = setF hs L[k] (ctxF (-1)) := by
  unfold cutL
  have hsplit : L = L.take k ++ (L[k] :: L.drop (k + 1)) := by rw [← List.drop_eq_getElem_cons hk, List.take_append_drop]
  conv => lhs; rw [hsplit]
  rw [List.foldl_append, List.foldl_cons, cutL_none (L.take k) hs ?_, cutL_none _ _ ?_]
  · unfold cutOne; rw [if_pos he]
  · intro x hx
    obtain ⟨j, hj, rfl⟩ := List.getElem_of_mem hx
    rw [List.length_drop] at hj
    rw [List.getElem_drop]
    exact hno _ (by omega) (by omega)
  · intro x hx
    obtain ⟨j, hj, rfl⟩ := List.getElem_of_mem hx
    rw [List.length_take] at hj
    rw [List.getElem_take]
    exact hno _ (by omega) (by omega)
theorem cutOne_ok {hs : List Flt} {f : Int} {out : List Flt} {x : Int} (h : ∀ y ∈ out, Enc.ok y) : ∀ y ∈ cutOne hs f out x, Enc.ok y := by
  unfold cutOne; split
  · exact setF_ok h (ctxF_ok (by omega))
  · exact h
theorem cutL_ok {hs : List Flt} {f : Int} (L : List Int) (h : ∀ y ∈ hs, Enc.ok y) : ∀ y ∈ cutL hs f L, Enc.ok y := by
  have : ∀ (L : List Int) (out : List Flt), (∀ y ∈ out, Enc.ok y) → ∀ y ∈ L.foldl (cutOne hs f) out, Enc.ok y := by
    intro L
    induction L with
    | nil => intro out h; exact h
    | cons x r ih => intro out h; rw [List.foldl_cons]; exact ih _ (cutOne_ok h)
  exact this L hs h
def raisedL (hs : List Flt) (f g : Int) : List Flt := if f = g then hs else setF (cutL hs f (chainN (ctxOf hs) hs.length g)) f (ctxF g)
theorem raisedL_same (hs : List Flt) (f : Int) : raisedL hs f f = hs := by unfold raisedL; rw [if_pos rfl]
theorem raisedL_other {hs : List Flt} {f g : Int} (h : f ≠ g) : raisedL hs f g = setF (cutL hs f (chainN (ctxOf hs) hs.length g)) f (ctxF g) := by unfold raisedL; rw [if_neg h]
theorem raisedL_len (hs : List Flt) (f g : Int) : (raisedL hs f g).length = hs.length := by
  unfold raisedL; split
  · rfl
  · rw [setF_len, cutL_len]
theorem raisedL_ok {hs : List Flt} {f g : Int} (hg : -9223372036854775808 ≤ g ∧ g ≤ 9223372036854775807) (h : ∀ y ∈ hs, Enc.ok y) : ∀ y ∈ raisedL hs f g, Enc.ok y := by
  unfold raisedL; split
  · exact h
  · exact setF_ok (cutL_ok _ h) (ctxF_ok hg)
def rwOk (xs : List Cls) (hs : List Flt) (f g : Int) : Bool := goodF xs hs f && goodF xs hs g
theorem rwOk_has (xs : List Cls) (hs : List Flt) (f g : Int) : rwOk xs hs f g = (goodF xs hs f && hasF hs g) := by
  unfold rwOk goodF
  cases okHeap xs hs <;> simp
def rwX (xs : List Cls) (hs : List Flt) (f g : Int) : List Flt := cond (rwOk xs hs f g) (raisedL hs f g) []
theorem rwX_of {xs : List Cls} {hs : List Flt} {f g : Int} {t : Bool} (h : rwOk xs hs f g = t) : rwX xs hs f g = cond t (raisedL hs f g) [] := by unfold rwX; rw [h]
theorem rwX_len (xs : List Cls) (hs : List Flt) (f g : Int) : (rwX xs hs f g).length ≤ 1048576 := by
  cases h : rwOk xs hs f g
  · rw [rwX_of h]; simp
  · rw [rwX_of h]
    unfold rwOk at h; rw [Bool.and_eq_true] at h
    have := goodF_few h.1
    show (raisedL hs f g).length ≤ _
    rw [raisedL_len]; omega
/-- what the chain of contexts from g keeps to in a valid heap -/
structure CtxCh (hs : List Flt) (g : Int) (L : List Int) : Prop where
  is : Chn.Is (ctxOf hs) g L
  rng : ∀ x ∈ L, 0 ≤ x ∧ x < hs.length
  last : ∀ k (h : k < L.length), k + 1 = L.length → ctxOf hs L[k] < 0
  next : ∀ k (h : k < L.length), 0 ≤ ctxOf hs L[k] → ∃ h2 : k + 1 < L.length, L[k + 1] = ctxOf hs L[k]
  neg : ∀ k (h : k < L.length), ctxOf hs L[k] < 0 → k + 1 = L.length
theorem ctxCh_of {xs : List Cls} {hs : List Flt} {g : Int} (h : goodF xs hs g = true) : CtxCh hs g (chainN (ctxOf hs) hs.length g) := by
  have hg := goodF_in h
  unfold goodF at h; rw [Bool.and_eq_true] at h
  have gh := goodH_of h.1
  have hi := chain_is hg.1.ctxlt hg.2.1 hg.2.2
  generalize chainN (ctxOf hs) hs.length g = L at *
  have hl : ∀ k (h : k < L.length), k + 1 = L.length → ctxOf hs L[k] < 0 := by
    intro k hk e
    refine gh.fin g hg.2.1 hg.2.2 L hi L[k] ?_
    rw [List.getLast?_eq_getElem?, ← e, Nat.add_sub_cancel, List.getElem?_eq_getElem hk]
  refine ⟨hi, hi.rngD hg.2.2 hg.1.ctxlt, hl, fun k hk h0 => ?_, fun k hk h0 => ?_⟩
  · by_cases e : k + 1 = L.length
    · have := hl k hk e; omega
    · exact ⟨by omega, hi.st k (by omega)⟩
  · by_cases e : k + 1 = L.length
    · exact e
    · have h1 := hi.st k (by omega)
      have h2 := hi.pos _ (List.getElem_mem (show k + 1 < L.length by omega))
      omega
/-- at most one of the chain has f as its Context -/
theorem CtxCh.once {hs : List Flt} {g f : Int} {L : List Int} (h : CtxCh hs g L) (hf : 0 ≤ f) {j k : Nat} (hj : j < L.length) (hk : k < L.length) (e1 : ctxOf hs L[j] = f) (e2 : ctxOf hs L[k] = f) : j = k := by
  obtain ⟨a, ea⟩ := h.next j hj (by omega)
  obtain ⟨b, eb⟩ := h.next k hk (by omega)
  have := Chn.nd_inj h.is.nd a b (by rw [ea, eb, e1, e2])
  omega
end

section
namespace Chn
theorem Is.map {nx jx φ : Int → Int} {n : Nat} {f : Int} {L : List Int} (h : Is nx f L) (hr : ∀ x ∈ L, x < n) (hi : ∀ x y : Int, φ x = φ y → x = y) (hp : ∀ x : Int, 0 ≤ x → 0 ≤ φ x)
    (hn : ∀ x : Int, 0 ≤ x → x < n → nx x < 0 → jx (φ x) < 0) (hs : ∀ x : Int, 0 ≤ x → x < n → 0 ≤ nx x → jx (φ x) = φ (nx x)) : Is jx (φ f) (L.map φ) := by
  refine ⟨?_, ?_, ?_, ?_, ?_, ?_⟩
  · rw [List.Nodup, List.pairwise_map]
    exact h.nd.imp (fun hab e => hab (hi _ _ e))
  · intro x hx
    obtain ⟨y, hy, rfl⟩ := List.mem_map.1 hx
    exact hp y (h.pos y hy)
  · intro e; exact h.ne (List.map_eq_nil_iff.1 e)
  · rw [List.head?_map, h.hd]; rfl
  · intro k hk
    rw [List.length_map] at hk
    rw [List.getElem_map, List.getElem_map]
    have h1 := h.st k hk
    have h2 := h.pos _ (List.getElem_mem hk)
    rw [h1] at h2 ⊢
    exact (hs _ (h.pos _ (List.getElem_mem _)) (hr _ (List.getElem_mem _)) h2).symm
  · intro x hx
    rw [List.getLast?_map] at hx
    cases hl : L.getLast? with
    | none => rw [hl] at hx; cases hx
    | some y =>
      rw [hl] at hx
      injection hx with hx
      subst hx
      have hm := List.mem_of_getLast? hl
      rcases h.en y hl with h1 | h1
      · exact .inl (hn y (h.pos y hm) (hr y hm) h1)
      · right
        rw [hs y (h.pos y hm) (hr y hm) (h.pos _ h1)]
        exact List.mem_map_of_mem h1
theorem Is.rng {nx : Int → Int} {n : Nat} {f : Int} {L : List Int} (h : Is nx f L) (h1 : f < n) (hb : ∀ x : Int, 0 ≤ x → x < n → nx x < n) : ∀ x ∈ L, x < n := by
  intro x hx
  obtain ⟨k, hk, rfl⟩ := List.getElem_of_mem hx
  have : ∀ k (hk : k < L.length), L[k] < n := by
    intro k
    induction k with
    | zero =>
      intro hk
      have a := h.hd
      rw [List.head?_eq_getElem?, List.getElem?_eq_getElem hk] at a
      injection a with a; omega
    | succ k ih =>
      intro hk
      rw [h.st k hk]
      exact hb _ (h.pos _ (List.getElem_mem _)) (ih (by omega))
  exact this k hk
/-- where chains end, what is carried along ends, too -/
theorem end_map {nx jx φ : Int → Int} {n : Nat} {f : Int} (hE : allEnd nx n) (h0 : 0 ≤ f) (h1 : f < n) (hb : ∀ x : Int, 0 ≤ x → x < n → nx x < n) (hi : ∀ x y : Int, φ x = φ y → x = y) (hp : ∀ x : Int, 0 ≤ x → 0 ≤ φ x)
    (hn : ∀ x : Int, 0 ≤ x → x < n → nx x < 0 → jx (φ x) < 0) (hs : ∀ x : Int, 0 ≤ x → x < n → 0 ≤ nx x → jx (φ x) = φ (nx x)) {M : List Int} (hM : Is jx (φ f) M) {x : Int} (hx : M.getLast? = some x) : jx x < 0 := by
  have hc := chain_is (nx := nx) (n := n) hb h0 h1
  have hr := hc.rng h1 hb
  have hm := hc.map (jx := jx) (φ := φ) hr hi hp hn hs
  rw [hM.uniq hm, List.getLast?_map] at hx
  cases hl : (chainN nx n f).getLast? with
  | none => rw [hl] at hx; cases hx
  | some y =>
    rw [hl] at hx
    injection hx with hx
    subst hx
    have hy := List.mem_of_getLast? hl
    exact hn y (hc.pos y hy) (hr y hy) (hE f h0 h1 _ hc y hl)
end Chn

/-- a fault that comes behind n others -/
def shl (n : Nat) (x : Int) : Int := if x < 0 then x else x + n
def shF (n : Nat) (x : Flt) : Flt := ⟨x.cls, x.code, shl n x.cause, shl n x.ctx, x.hide⟩
def joinL (hs ks : List Flt) : List Flt := hs ++ ks.map (shF hs.length)
theorem joinL_len (hs ks : List Flt) : (joinL hs ks).length = hs.length + ks.length := by unfold joinL; simp
theorem joinL_left {hs ks : List Flt} {i : Nat} (hi : i < (joinL hs ks).length) (hc : i < hs.length) : (joinL hs ks)[i] = hs[i] := List.getElem_append_left hc
theorem joinL_right {hs ks : List Flt} {i : Nat} (hi : i < (joinL hs ks).length) (hc : ¬ i < hs.length) (hk : i - hs.length < ks.length) : (joinL hs ks)[i] = shF hs.length ks[i - hs.length] := by
  have h : (joinL hs ks)[i] = (ks.map (shF hs.length))[i - hs.length]'(by simpa using hk) := List.getElem_append_right (by omega)
  rw [h, List.getElem_map]
theorem ctx_left {hs ks : List Flt} {x : Int} (h0 : 0 ≤ x) (h1 : x < hs.length) : ctxOf (joinL hs ks) x = ctxOf hs x := by
  obtain ⟨i, rfl⟩ := Int.eq_ofNat_of_zero_le h0
  rw [ctxOf_at (by rw [joinL_len]; omega), ctxOf_at (by omega), joinL_left _ (by omega)]
theorem ctx_right {hs ks : List Flt} {x : Int} (h0 : 0 ≤ x) (h1 : x < ks.length) : ctxOf (joinL hs ks) (x + hs.length) = shl hs.length (ctxOf ks x) := by
  obtain ⟨i, rfl⟩ := Int.eq_ofNat_of_zero_le h0
  have e : ((i : Int) + (hs.length : Int)) = ((i + hs.length : Nat) : Int) := by omega
  rw [e, ctxOf_at (by rw [joinL_len]; omega), ctxOf_at (by omega), joinL_right _ (by omega) (by omega)]
  simp [shF]
theorem fOk_parts {xs : List Cls} {n : Nat} {k : Int} {x : Flt} : fOk xs n k x = true ↔ hasK xs x.cls = true ∧ (0 ≤ x.code ∧ x.code ≤ 99) ∧ (-1 ≤ x.cause ∧ x.cause ≤ (n : Int) - 1) ∧ (-1 ≤ x.ctx ∧ x.ctx ≤ (n : Int) - 1) ∧ x.cause ≠ k ∧ x.ctx ≠ k := by
  unfold fOk linksOk
  simp only [Bool.and_eq_true, rng_iff, bne_iff_ne]
  constructor
  · rintro ⟨⟨h1, h2⟩, ⟨⟨h3, h4⟩, h5⟩, h6⟩; exact ⟨h1, h2, h3, h4, h5, h6⟩
  · rintro ⟨h1, h2, h3, h4, h5, h6⟩; exact ⟨⟨h1, h2⟩, ⟨⟨h3, h4⟩, h5⟩, h6⟩
theorem okHeap_fall {xs : List Cls} {hs : List Flt} (h : okHeap xs hs = true) : allF xs hs.length 0 hs = true ∧ endsF hs 0 hs.length = true ∧ okTree xs = true ∧ hs.length ≤ 24 := by
  unfold okHeap at h
  simp only [Bool.and_eq_true, decide_eq_true_eq] at h
  exact ⟨h.1.1.1, h.1.1.2, h.1.2, h.2⟩
theorem okHeap_mk {xs : List Cls} {hs : List Flt} (h1 : ∀ i (h : i < hs.length), fOk xs hs.length (i : Int) hs[i] = true) (h2 : Lnk hs → Chn.allEnd (ctxOf hs) hs.length) (h3 : okTree xs = true) (h4 : hs.length ≤ 24) : okHeap xs hs = true := by
  have ha := allF_mk (xs := xs) (n := hs.length) h1 hs.length 0 (by omega)
  rw [List.drop_zero] at ha
  have hl := lnk_of ha
  unfold okHeap
  rw [ha, (ends_iff hl).2 (h2 hl), h3, decide_eq_true h4]; rfl
theorem okHeap_at {xs : List Cls} {hs : List Flt} (h : okHeap xs hs = true) (i : Nat) (hi : i < hs.length) : fOk xs hs.length (i : Int) hs[i] = true :=
  allF_mem (hs := hs) hs.length 0 (by omega) (by simpa using (okHeap_fall h).1) i hi (Nat.zero_le _)
theorem join_ok {xs : List Cls} {hs ks : List Flt} (h : okHeap xs hs = true) (k : okHeap xs ks = true) : okHeap xs (joinL hs ks) = decide (hs.length + ks.length ≤ 24) := by
  by_cases hl : hs.length + ks.length ≤ 24
  · rw [decide_eq_true hl]
    have gh := goodH_of h
    have gk := goodH_of k
    refine okHeap_mk (fun i hi => ?_) (fun _ => ?_) (okHeap_fall h).2.2.1 (by rw [joinL_len]; exact hl)
    · have hi2 := hi
      rw [joinL_len] at hi2
      rw [fOk_parts, joinL_len]
      by_cases hc : i < hs.length
      · have := fOk_parts.1 (okHeap_at h i hc)
        rw [joinL_left _ hc]
        exact ⟨this.1, this.2.1, by omega, by omega, this.2.2.2.2.1, this.2.2.2.2.2⟩
      · have := fOk_parts.1 (okHeap_at k (i - hs.length) (by omega))
        rw [joinL_right _ hc (by omega)]
        generalize ks[i - hs.length]'(by omega) = x at *
        obtain ⟨a1, a2, a3, a4, a5, a6⟩ := this
        refine ⟨a1, a2, ?_, ?_, ?_, ?_⟩
        all_goals (simp only [shF, shl]; split <;> omega)
    · rw [joinL_len]
      intro f h0 h1 M hM x hx
      by_cases hc : f < hs.length
      · refine Chn.end_map (nx := ctxOf hs) (φ := id) gh.fin h0 hc gh.lnk.ctxlt (fun _ _ e => e) (fun _ e => e) (fun x h0 h1 hn => ?_) (fun x h0 h1 _ => ?_) hM hx
        · show ctxOf _ x < 0; rw [ctx_left h0 h1]; exact hn
        · exact ctx_left h0 h1
      · have e : f = (f - hs.length) + hs.length := by omega
        rw [e] at hM
        refine Chn.end_map (nx := ctxOf ks) (φ := fun x => x + hs.length) (f := f - hs.length) gk.fin (by omega) (by omega) gk.lnk.ctxlt (fun x y e => by simp at e; omega) (fun x e => by show 0 ≤ x + (hs.length : Int); omega) (fun x h0 h1 hn => ?_) (fun x h0 h1 hn => ?_) hM hx
        · show ctxOf _ (x + hs.length) < 0; rw [ctx_right h0 h1]; unfold shl; rw [if_pos hn]; exact hn
        · show ctxOf _ (x + hs.length) = _; rw [ctx_right h0 h1]; unfold shl; rw [if_neg (by omega)]
  · rw [decide_eq_false hl]
    cases hj : okHeap xs (joinL hs ks)
    · rfl
    · have := (okHeap_fall hj).2.2.2; rw [joinL_len] at this; omega
end

section
def mkF (a b : Int) : Flt := ⟨a, b, -1, -1, false⟩
theorem mkF_ok {a b : Int} (ha : -9223372036854775808 ≤ a ∧ a ≤ 9223372036854775807) (hb : -9223372036854775808 ≤ b ∧ b ≤ 9223372036854775807) : Enc.ok (mkF a b) := by
  unfold mkF
  exact ⟨ha.1, ha.2, hb.1, hb.2, by show (-9223372036854775808 : Int) ≤ -1; omega, by show (-1 : Int) ≤ 9223372036854775807; omega, by show (-9223372036854775808 : Int) ≤ -1; omega, by show (-1 : Int) ≤ 9223372036854775807; omega⟩
theorem snocF_ok {hs : List Flt} {a b : Int} (h : ∀ x ∈ hs, Enc.ok x) (ha : -9223372036854775808 ≤ a ∧ a ≤ 9223372036854775807) (hb : -9223372036854775808 ≤ b ∧ b ≤ 9223372036854775807) : ∀ x ∈ hs ++ [mkF a b], Enc.ok x := by
  intro x hx
  rcases List.mem_append.1 hx with hx | hx
  · exact h x hx
  · simp at hx; subst hx; exact mkF_ok ha hb
def nfOk (xs : List Cls) (hs : List Flt) (a b : Int) : Bool := okHeap xs hs && okHeap xs (hs ++ [mkF a b])
def nfX (xs : List Cls) (hs : List Flt) (a b : Int) : List Flt := cond (nfOk xs hs a b) (hs ++ [mkF a b]) []
def nfI (xs : List Cls) (hs : List Flt) (a b : Int) : Int := cond (nfOk xs hs a b) hs.length (-1)
theorem nf_of {xs : List Cls} {hs : List Flt} {a b : Int} {t : Bool} (h : nfOk xs hs a b = t) : nfX xs hs a b = cond t (hs ++ [mkF a b]) [] ∧ nfI xs hs a b = cond t (hs.length : Int) (-1) := by unfold nfX nfI; rw [h]; exact ⟨rfl, rfl⟩
theorem nfX_len (xs : List Cls) (hs : List Flt) (a b : Int) : (nfX xs hs a b).length ≤ 1048576 := by
  cases h : nfOk xs hs a b
  · rw [(nf_of h).1]; simp
  · rw [(nf_of h).1]
    have h2 := h
    unfold nfOk at h2
    rw [Bool.and_eq_true] at h2
    have := (goodH_of h2.2).few
    simp at this ⊢; omega
set_option maxHeartbeats 1000000 in
set_option maxRecDepth 100000 in
theorem added_any (H : Option Addr) (m c : Nat) (hs : List Flt) (a b : Int) (w : World) (hH : Sl w H m c hs) (hm : m ≤ 2097152) (ha : -9223372036854775808 ≤ a ∧ a ≤ 9223372036854775807) (hb : -9223372036854775808 ≤ b ∧ b ≤ 9223372036854775807) :
    Calls Tryd.prog 77 #[.agg #[.slice H m c], .int .i64 a, .int .i64 b] w fun e w' => ∃ v, e = .returned (.agg #[v]) ∧ Owd 49 w w' v (hs ++ [mkF a b]) ∧ Le w w' := by
  obtain ⟨i0, hi, hz0, hz1, hz2⟩ := info_parts infoCcFault
  have hlen := hH.len
  obtain ⟨c0, z0, c1, z1, L0⟩ := box2 w (.slice H m c) (.slice none 0 0) 28 28
  have f1 : ((w.alloc (.cells #[.slice H m c] 28)).alloc (.cells #[.slice none 0 0] 28)).frozen? ⟨w.heap.size + 1, 0, none⟩ = false := World.frozen?_alloc_at _ _ _ _ (by simp)
  have hs0 : ((w.alloc (.cells #[.slice H m c] 28)).alloc (.cells #[.slice none 0 0] 28)).heap.size = w.heap.size + 1 + 1 := by simp
  have S0 := hH.le L0
  have HOK := Lib.hid (snocF_ok hH.ok ha hb)
  have HK := Lib.hid (mkF_ok ha hb)
  have hl : (hs ++ [mkF a b]).length = m + 1 := by simp [hH.len]
  have HL := Lib.hid hl; clear hl
  go_enter Tryd.func77, Tryd.ntmps77
  go_wp2_with fail
  generalize (w.alloc (.cells #[.slice H m c] 28)).alloc (.cells #[.slice none 0 0] 28) = W at *
  refine (sCopyHeap_any H m c hs _ S0 hm).mono ?_
  rintro e w1 ⟨v, rfl, D, hle⟩
  replace c0 := (hle.cell z0).trans c0
  replace c1 := (hle.cell z1).trans c1
  replace f1 := (hle.frozen z1).trans f1
  replace z0 := Nat.lt_of_lt_of_le z0 hle.size
  replace z1 := Nat.lt_of_lt_of_le z1 hle.size
  replace L0 := L0.trans hle
  have s1 := hle.size
  clear hle
  obtain ⟨A1, q1, rfl⟩ := own_form D.row
  have O1 := D.row
  rw [hlen] at O1
  rw [hs0] at O1
  rw [hlen]
  clear D S0
  have hbk := O1.lt
  have c2 : ((w1.alloc (.cells #[.slice A1 m q1] 28)).alloc (.cells #[.int .i64 a, .int .i64 b, .int .i64 (-1), .int .i64 (-1), .bool false] 49)).cell? ⟨w1.heap.size, 0, none⟩ = some (.slice A1 m q1) := by
    rw [World.cell?_alloc_past _ _ _ (by simp), World.cell?_alloc_at _ _ _ _ rfl]; rfl
  have f2 : ((w1.alloc (.cells #[.slice A1 m q1] 28)).alloc (.cells #[.int .i64 a, .int .i64 b, .int .i64 (-1), .int .i64 (-1), .bool false] 49)).frozen? ⟨w1.heap.size, 0, none⟩ = false := by
    rw [((Le.new (w1.alloc (.cells #[.slice A1 m q1] 28)) _).frozen (b := w1.heap.size) (o := 0) (by simp))]; exact World.frozen?_alloc_at _ _ _ _ rfl
  have LL := (Le.new w1 (.cells #[.slice A1 m q1] 28)).alloc (.cells #[.int .i64 a, .int .i64 b, .int .i64 (-1), .int .i64 (-1), .bool false] 49)
  replace c0 := (LL.cell z0).trans c0
  replace c1 := (LL.cell z1).trans c1
  replace f1 := (LL.frozen z1).trans f1
  replace L0 := L0.trans LL
  have s2 := LL.size
  clear LL
  go_wp2_with (at_builtin; refine wpList_append_sl rfl (.tmp 11) (.tmp 15) 26 rfl (w.heap.size + 1 + 1) 49 i0 _ 40 Tryd.underlying26 hi hz0 hz1 hz2 rfl (.slice A1 m q1) m hs rfl ((O1.alloc _).alloc _) (some ⟨w1.heap.size + 1, 0, none⟩) 1 1 [mkF a b] rfl (sl_one (mkF a b) rfl HK.out (by simp)) (by unfold maxLen; omega) (by omega) (by simp; omega) ?_; intro v2 w2 O2 hg2 hat; replace c0 := (hg2.cell (a := ⟨w.heap.size, 0, none⟩) c0 (fun e => by have h : w.heap.size + 1 + 1 ≤ w.heap.size ∧ _ := hbk _ e.symm; omega)); replace c1 := (hg2.cell (a := ⟨w.heap.size + 1, 0, none⟩) c1 (fun e => by have h : w.heap.size + 1 + 1 ≤ w.heap.size + 1 ∧ _ := hbk _ e.symm; omega)); replace c2 := (hg2.cell (a := ⟨w1.heap.size, 0, none⟩) c2 (fun e => by have h : _ ∧ w1.heap.size < w1.heap.size := hbk _ e.symm; omega)); replace f2 := (World.frozen?_of_block (a := ⟨w1.heap.size, 0, none⟩) (hg2.block w1.heap.size (by simp; omega) (fun e => by have h : _ ∧ w1.heap.size < w1.heap.size := hbk _ e.symm; omega))).trans f2; replace f1 := (World.frozen?_of_block (a := ⟨w.heap.size + 1, 0, none⟩) (hg2.block (w.heap.size + 1) (by simp; omega) (fun e => by have h : w.heap.size + 1 + 1 ≤ w.heap.size + 1 ∧ _ := hbk _ e.symm; omega))).trans f1; replace s2 := Nat.le_trans s2 hg2.size; replace L0 := L0.grown hg2 (fun k hk => by have h := (hbk k hk).1; omega); clear hg2; obtain ⟨A2, q2, rfl⟩ := own_form O2)
  have hne : (Value.slice A2 (m + 1) q2).ownBlock ≠ some w1.heap.size := by
    intro e
    rcases hat with h | h
    · rw [h] at e
      have := (hbk _ e).2; omega
    · rw [h] at e; simp at e; omega
  have O3 := O2.kept (grown_set w2 w1.heap.size 0 (.slice A2 (m + 1) q2)) (.inr hne)
  have c3 : (w2.setCell ⟨w1.heap.size, 0, none⟩ (.slice A2 (m + 1) q2)).cell? ⟨w.heap.size + 1, 0, none⟩ = some (.slice none 0 0) := (cell_set_other (.inl (by omega))).trans c1
  have hend := fun u => cell_set_same (v := u) c3
  have HE := Lib.hid (res_end (r := w.heap.size + 1) (L0.setCell (b := w1.heap.size) (o := 0) (by omega) (.slice A2 (m + 1) q2)) (by omega) (Nat.lt_succ_self _) (by rw [HL.out]; exact O3) HOK.out)
  exact bodyPost_ret (v := .agg #[.slice A2 (m + 1) q2]) (by simp [results, Tryd.results77, go_sem, hend]) rfl ⟨_, rfl, (HE.out _).1, (HE.out _).2⟩
end
end Go.Proofs.YthcolcmgfhkbeaaDoor
