/- programs, plain: what a run that raises one fault hands back (for FnFirstJumpRaise) -/
import Derived.Test.YtgjlmfjmjglplaaGreatPrVP
import Derived.Test.YtgjlmfjmjglplaaGreatFj35
import Derived.Test.YtgjlmfjmjglplaaGreatFj36
namespace Go.Proofs.YtgjlmfjmjglplaaGreat
open Go.RowKit
theorem one_reach (a b : Int) : reachL [(⟨a, b, -1, -1, false⟩ : Flt)] 0 = [0] := by rfl
theorem one_iso (a b : Int) : isoL [(⟨a, b, -1, -1, false⟩ : Flt)] [0] = [(⟨a, b, -1, -1, false⟩ : Flt)] := by rfl
/-- where the first jump raises what nobody catches, the run ends with this fault alone -/
theorem fj_rai {xs : List Cls} {p : List Lin} {x : Nat} (hv : vp xs p = true) (hx : x < p.length) (hf : fjX xs p = (x : Int)) (h2 : knd p x = 2) (HQ : FinQ p x) (hc : coF xs p (lnA p x) (encl p x) < 0) : rpE xs p = 2 ∧ rpV xs p = 0 ∧ rpH xs p = [(⟨lnA p x, lnBc p x, -1, -1, false⟩ : Flt)] := by
  have e0 : fjX xs p = scn p 0 p.length := by unfold fjX; rw [hv]; rfl
  rw [e0] at hf
  obtain ⟨e1, e2⟩ := run_rai (xs := xs) (goodP_of hv) hf h2 HQ (noC_of hx hc)
  unfold rpE rpV rpH rgE rgV rgH
  rw [hv, e1, e2]
  refine ⟨rfl, ?_, ?_⟩
  · show idx (reachL _ 0) 0 0 = 0
    rw [one_reach]; rfl
  · show isoL _ (reachL _ 0) = _
    rw [one_reach, one_iso]
theorem coN_all {xs : List Cls} {p : List Lin} {a : Int} : ∀ {L : List Nat}, coF xs p a L < 0 → coN xs p a L = L.length
  | [], _ => rfl
  | z :: r, h => by
    have h2 : (if 0 ≤ ctAt xs p a z then ctAt xs p a z else coF xs p a r) < 0 := h
    by_cases c : 0 ≤ ctAt xs p a z
    · rw [if_pos c] at h2; omega
    · rw [if_neg c] at h2
      show (if 0 ≤ ctAt xs p a z then 0 else coN xs p a r + 1) = _
      rw [if_neg c, coN_all h2]; rfl
/-- the heap of one fault is valid -/
theorem oneF_ok {xs : List Cls} {a b : Int} (hx : okTree xs = true) (ha : hasK xs a = true) (hb : 0 ≤ b ∧ b ≤ 99) : okHeap xs [(⟨a, b, -1, -1, false⟩ : Flt)] = true := by
  have hf : fOk xs 1 0 (⟨a, b, -1, -1, false⟩ : Flt) = true := by
    unfold fOk
    have hl : linksOk 1 0 (⟨a, b, -1, -1, false⟩ : Flt) = true := by rfl
    simp [ha, rng, hb, hl]
  have he : endsF [(⟨a, b, -1, -1, false⟩ : Flt)] 0 1 = true := by rfl
  unfold okHeap
  rw [show allF xs [(⟨a, b, -1, -1, false⟩ : Flt)].length 0 [(⟨a, b, -1, -1, false⟩ : Flt)] = true from by
    show (fOk xs 1 0 (⟨a, b, -1, -1, false⟩ : Flt) && true) = true
    rw [hf]; rfl, show endsF [(⟨a, b, -1, -1, false⟩ : Flt)] 0 [(⟨a, b, -1, -1, false⟩ : Flt)].length = true from he, hx]
  rfl
end Go.Proofs.YtgjlmfjmjglplaaGreat
