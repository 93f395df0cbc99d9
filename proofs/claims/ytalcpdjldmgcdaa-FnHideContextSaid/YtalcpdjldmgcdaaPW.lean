/- Plain: a fault is raised while another one is handled -/
import Derived.Test.YtalcpdjldmgcdaaDc
namespace Go.Proofs.Ytalcpdjldmgcdaa
open Go.RowKit

def ctxF (c : Int) (x : Flt) : Flt := ⟨x.cls, x.code, x.cause, c, x.hide⟩
theorem ctxF_ok {c : Int} (hc : -9223372036854775808 ≤ c ∧ c ≤ 9223372036854775807) (x : Flt) (h : Enc.ok x) : Enc.ok (ctxF c x) := ⟨h.1, h.2.1, h.2.2.1, h.2.2.2.1, h.2.2.2.2.1, h.2.2.2.2.2.1, hc.1, hc.2⟩
theorem flat_ctx (hs : List Flt) (i : Nat) (h : i < hs.length) (c : Int) : (hs.flatMap Enc.cells).set (i * 5 + 3) (.int .i64 c) = (setF hs (i : Int) (ctxF c)).flatMap Enc.cells := by
  rw [setF_at h, flat_flt_ctx hs i h c]; rfl
def cutOne (hs : List Flt) (f : Int) (out : List Flt) (x : Int) : List Flt := if ctxOf hs x = f then setF out x (ctxF (-1)) else out
def cutL (hs : List Flt) (f : Int) (L : List Int) : List Flt := L.foldl (cutOne hs f) hs
theorem cutL_succ {hs : List Flt} {f : Int} {L : List Int} {k : Nat} (h : k < L.length) : cutL hs f (L.take (k + 1)) = cutOne hs f (cutL hs f (L.take k)) L[k] := by
  unfold cutL; rw [List.take_succ_eq_append_getElem h, List.foldl_append]; rfl
theorem cutOne_len (hs : List Flt) (f : Int) (out : List Flt) (x : Int) : (cutOne hs f out x).length = out.length := by
  unfold cutOne; split
  · exact setF_len _ _ _
  · rfl
theorem cutL_len (hs : List Flt) (f : Int) : ∀ (L : List Int), (cutL hs f L).length = hs.length := by
  have : ∀ (L : List Int) (out : List Flt), (L.foldl (cutOne hs f) out).length = out.length := by
    intro L
    induction L with
    | nil => intro out; rfl
    | cons x r ih => intro out; rw [List.foldl_cons, ih, cutOne_len]
  exact fun L => this L hs
theorem cutL_none {hs : List Flt} {f : Int} : ∀ (L : List Int) (out : List Flt), (∀ x ∈ L, ctxOf hs x ≠ f) → L.foldl (cutOne hs f) out = out
  | [], out, _ => rfl
  | x :: r, out, h => by
    rw [List.foldl_cons]
    have : cutOne hs f out x = out := by unfold cutOne; rw [if_neg (h x (by simp))]
    rw [this]
    exact cutL_none r out (fun y hy => h y (by simp [hy]))
theorem cutL_here {hs : List Flt} {f : Int} {L : List Int} {k : Nat} (hk : k < L.length) (he : ctxOf hs L[k] = f) (hno : ∀ j (h : j < L.length), j ≠ k → ctxOf hs L[j] ≠ f) : cutL hs f L = setF hs L[k] (ctxF (-1)) := by
  unfold cutL
  have hsplit : L = L.take k ++ (L[k] :: L.drop (k + 1)) := by rw [← List.drop_eq_getElem_cons hk, List.take_append_drop]
  conv => lhs; rw [hsplit]
  rw [List.foldl_append, List.foldl_cons, cutL_none (L.take k) hs ?_, cutL_none _ _ ?_]
  · unfold cutOne; rw [if_pos he]
  · intro x hx
    obtain ⟨j, hj, rfl⟩ := List.getElem_of_mem hx
    rw [List.length_drop] at hj
    rw [List.getElem_drop]
    exact hno _ (by omega) (by omega)
  · intro x hx
    obtain ⟨j, hj, rfl⟩ := List.getElem_of_mem hx
    rw [List.length_take] at hj
    rw [List.getElem_take]
    exact hno _ (by omega) (by omega)
theorem cutOne_ok {hs : List Flt} {f : Int} {out : List Flt} {x : Int} (h : ∀ y ∈ out, Enc.ok y) : ∀ y ∈ cutOne hs f out x, Enc.ok y := by
  unfold cutOne; split
  · exact setF_ok h (ctxF_ok (by omega))
  · exact h
theorem cutL_ok {hs : List Flt} {f : Int} (L : List Int) (h : ∀ y ∈ hs, Enc.ok y) : ∀ y ∈ cutL hs f L, Enc.ok y := by
  have : ∀ (L : List Int) (out : List Flt), (∀ y ∈ out, Enc.ok y) → ∀ y ∈ L.foldl (cutOne hs f) out, Enc.ok y := by
    intro L
    induction L with
    | nil => intro out h; exact h
    | cons x r ih => intro out h; rw [List.foldl_cons]; exact ih _ (cutOne_ok h)
  exact this L hs h
def raisedL (hs : List Flt) (f g : Int) : List Flt := if f = g then hs else setF (cutL hs f (chainN (ctxOf hs) hs.length g)) f (ctxF g)
theorem raisedL_same (hs : List Flt) (f : Int) : raisedL hs f f = hs := by unfold raisedL; rw [if_pos rfl]
theorem raisedL_other {hs : List Flt} {f g : Int} (h : f ≠ g) : raisedL hs f g = setF (cutL hs f (chainN (ctxOf hs) hs.length g)) f (ctxF g) := by unfold raisedL; rw [if_neg h]
theorem raisedL_len (hs : List Flt) (f g : Int) : (raisedL hs f g).length = hs.length := by
  unfold raisedL; split
  · rfl
  · rw [setF_len, cutL_len]
theorem raisedL_ok {hs : List Flt} {f g : Int} (hg : -9223372036854775808 ≤ g ∧ g ≤ 9223372036854775807) (h : ∀ y ∈ hs, Enc.ok y) : ∀ y ∈ raisedL hs f g, Enc.ok y := by
  unfold raisedL; split
  · exact h
  · exact setF_ok (cutL_ok _ h) (ctxF_ok hg)
def rwOk (xs : List Cls) (hs : List Flt) (f g : Int) : Bool := goodF xs hs f && goodF xs hs g
theorem rwOk_has (xs : List Cls) (hs : List Flt) (f g : Int) : rwOk xs hs f g = (goodF xs hs f && hasF hs g) := by
  unfold rwOk goodF
  cases okHeap xs hs <;> simp
def rwX (xs : List Cls) (hs : List Flt) (f g : Int) : List Flt := cond (rwOk xs hs f g) (raisedL hs f g) []
theorem rwX_of {xs : List Cls} {hs : List Flt} {f g : Int} {t : Bool} (h : rwOk xs hs f g = t) : rwX xs hs f g = cond t (raisedL hs f g) [] := by unfold rwX; rw [h]
theorem rwX_len (xs : List Cls) (hs : List Flt) (f g : Int) : (rwX xs hs f g).length ≤ 1048576 := by
  cases h : rwOk xs hs f g
  · rw [rwX_of h]; simp
  · rw [rwX_of h]
    unfold rwOk at h; rw [Bool.and_eq_true] at h
    have := goodF_few h.1
    show (raisedL hs f g).length ≤ _
    rw [raisedL_len]; omega
/-- what the chain of contexts from g keeps to in a valid heap -/
structure CtxCh (hs : List Flt) (g : Int) (L : List Int) : Prop where
  is : Chn.Is (ctxOf hs) g L
  rng : ∀ x ∈ L, 0 ≤ x ∧ x < hs.length
  last : ∀ k (h : k < L.length), k + 1 = L.length → ctxOf hs L[k] < 0
  next : ∀ k (h : k < L.length), 0 ≤ ctxOf hs L[k] → ∃ h2 : k + 1 < L.length, L[k + 1] = ctxOf hs L[k]
  neg : ∀ k (h : k < L.length), ctxOf hs L[k] < 0 → k + 1 = L.length
theorem ctxCh_of {xs : List Cls} {hs : List Flt} {g : Int} (h : goodF xs hs g = true) : CtxCh hs g (chainN (ctxOf hs) hs.length g) := by
  have hg := goodF_in h
  unfold goodF at h; rw [Bool.and_eq_true] at h
  have gh := goodH_of h.1
  have hi := chain_is hg.1.ctxlt hg.2.1 hg.2.2
  generalize chainN (ctxOf hs) hs.length g = L at *
  have hl : ∀ k (h : k < L.length), k + 1 = L.length → ctxOf hs L[k] < 0 := by
    intro k hk e
    refine gh.fin g hg.2.1 hg.2.2 L hi L[k] ?_
    rw [List.getLast?_eq_getElem?, ← e, Nat.add_sub_cancel, List.getElem?_eq_getElem hk]
  refine ⟨hi, hi.rngD hg.2.2 hg.1.ctxlt, hl, fun k hk h0 => ?_, fun k hk h0 => ?_⟩
  · by_cases e : k + 1 = L.length
    · have := hl k hk e; omega
    · exact ⟨by omega, hi.st k (by omega)⟩
  · by_cases e : k + 1 = L.length
    · exact e
    · have h1 := hi.st k (by omega)
      have h2 := hi.pos _ (List.getElem_mem (show k + 1 < L.length by omega))
      omega
/-- at most one of the chain has f as its Context -/
theorem CtxCh.once {hs : List Flt} {g f : Int} {L : List Int} (h : CtxCh hs g L) (hf : 0 ≤ f) {j k : Nat} (hj : j < L.length) (hk : k < L.length) (e1 : ctxOf hs L[j] = f) (e2 : ctxOf hs L[k] = f) : j = k := by
  obtain ⟨a, ea⟩ := h.next j hj (by omega)
  obtain ⟨b, eb⟩ := h.next k hk (by omega)
  have := Chn.nd_inj h.is.nd a b (by rw [ea, eb, e1, e2])
  omega
end Go.Proofs.Ytalcpdjldmgcdaa
