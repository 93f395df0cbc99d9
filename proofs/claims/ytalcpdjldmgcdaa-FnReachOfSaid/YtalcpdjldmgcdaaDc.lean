/- chains of the model and of the program: ContextChain, ShownChain, OldestShown -/
import Derived.Test.YtalcpdjldmgcdaaAiCtx
import Derived.Test.YtalcpdjldmgcdaaAiShn
import Derived.Test.YtalcpdjldmgcdaaHpQ
namespace Go.Proofs.Ytalcpdjldmgcdaa
open Go.RowKit

theorem shownAt_lt {hs : List Flt} (lk : Lnk hs) : ∀ x : Int, 0 ≤ x → x < hs.length → shownAt hs x < hs.length := by
  intro x h0 h1
  obtain ⟨i, rfl⟩ := Int.eq_ofNat_of_zero_le h0
  rw [shownAt_at (by omega)]
  have a := lk.cause i (by omega)
  have b := lk.ctx i (by omega)
  unfold shownOf
  cases decide (0 ≤ hs[i].cause)
  · cases hs[i].hide
    · exact b.2
    · show (-1 : Int) < _; omega
  · exact a.2
theorem shownAt_ge {hs : List Flt} (lk : Lnk hs) : ∀ i, i < hs.length → -1 ≤ shownAt hs (i : Int) := by
  intro i h
  rw [shownAt_at h]
  have a := lk.cause i h
  have b := lk.ctx i h
  unfold shownOf
  cases decide (0 ≤ hs[i].cause)
  · cases hs[i].hide
    · exact b.1
    · show (-1 : Int) ≤ -1; omega
  · exact a.1


theorem goodF_in {xs : List Cls} {hs : List Flt} {f : Int} (h : goodF xs hs f = true) : Lnk hs ∧ 0 ≤ f ∧ f < hs.length := by
  unfold goodF at h; rw [Bool.and_eq_true] at h
  have g := goodH_of h.1
  have := hasF_iff.1 h.2
  exact ⟨g.lnk, this.1, this.2⟩
theorem Chn.Is.rngD {nx : Int → Int} {n : Nat} {f : Int} {L : List Int} (h : Chn.Is nx f L) (h1 : f < n) (hb : ∀ x : Int, 0 ≤ x → x < n → nx x < n) : ∀ x ∈ L, 0 ≤ x ∧ x < n := by
  intro x hx
  obtain ⟨k, hk, rfl⟩ := List.getElem_of_mem hx
  refine ⟨h.pos _ hx, ?_⟩
  have : ∀ k (hk : k < L.length), L[k] < n := by
    intro k
    induction k with
    | zero =>
      intro hk
      have a := h.hd
      rw [List.head?_eq_getElem?, List.getElem?_eq_getElem hk] at a
      injection a with a; omega
    | succ k ih =>
      intro hk
      rw [h.st k hk]
      exact hb _ (h.pos _ (List.getElem_mem _)) (ih (by omega))
  exact this k hk
theorem Chn.go_len2 {nx : Int → Int} {n : Nat} {f : Int} (hb : ∀ x : Int, 0 ≤ x → x < n → nx x < n) (h0 : 0 ≤ f) (h1 : f < n) : (chainN nx n f).length ≤ n := by
  have h := chain_is hb h0 h1
  exact Chn.nodup_bound n _ h.nd (h.rngD h1 hb)
def InShnOut (tv hv : Value) (f : Int) (w : World) (e : Ending) (w' : World) : Prop :=
  ∃ g, e = .returned (.pointer (some ⟨g, 0, none⟩)) ∧ w'.heap[g]? = some (.cells #[tv, hv, .int .i64 f, lkShn, .pointer none] 100 (0, 0)) ∧ w.heap.size ≤ g ∧ Le w w'
def chX (xs : List Cls) (hs : List Flt) (f : Int) : List Int := cond (goodF xs hs f) (chainN (ctxOf hs) hs.length f) []
theorem chX_of {xs : List Cls} {hs : List Flt} {f : Int} {t : Bool} (h : goodF xs hs f = t) : chX xs hs f = cond t (chainN (ctxOf hs) hs.length f) [] := by unfold chX; rw [h]
theorem chX_len (xs : List Cls) (hs : List Flt) (f : Int) : (chX xs hs f).length ≤ 1048576 := by
  cases h : goodF xs hs f
  · rw [chX_of h]; simp
  · rw [chX_of h]
    have h1 := goodF_few h
    obtain ⟨lk, h2, h3⟩ := goodF_in h
    have := Chn.go_len2 (Lnk.ctxlt lk) h2 h3
    show (chainN (ctxOf hs) hs.length f).length ≤ _
    omega
def shX (xs : List Cls) (hs : List Flt) (f : Int) : List Int := cond (goodF xs hs f) (chainN (shownAt hs) hs.length f) []
theorem shX_of {xs : List Cls} {hs : List Flt} {f : Int} {t : Bool} (h : goodF xs hs f = t) : shX xs hs f = cond t (chainN (shownAt hs) hs.length f) [] := by unfold shX; rw [h]
theorem shX_len (xs : List Cls) (hs : List Flt) (f : Int) : (shX xs hs f).length ≤ 1048576 := by
  cases h : goodF xs hs f
  · rw [shX_of h]; simp
  · rw [shX_of h]
    have h1 := goodF_few h
    obtain ⟨lk, h2, h3⟩ := goodF_in h
    have := Chn.go_len2 (shownAt_lt lk) h2 h3
    show (chainN (shownAt hs) hs.length f).length ≤ _
    omega
end Go.Proofs.Ytalcpdjldmgcdaa
