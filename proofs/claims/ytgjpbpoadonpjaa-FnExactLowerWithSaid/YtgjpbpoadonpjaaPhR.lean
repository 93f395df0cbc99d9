/- programs: a line with a program as its block: under of both -/
import Derived.Test.YtgjpbpoadonpjaaOneLin
import Derived.Test.YtgjpbpoadonpjaaPhQ
namespace Go.Proofs.Ytgjpbpoadonpjaa
open Go.RowKit
def deep (x : Lin) : Lin := { x with depth := x.depth + 1 }
def passL : Lin := ⟨1, 0, 0, 0⟩
def undL (h : Lin) (p : List Lin) : List Lin := h :: (if p = [] then [passL] else p.map deep)
theorem undL_nil (h : Lin) : undL h [] = [h, passL] := rfl
theorem undL_some {h : Lin} {p : List Lin} (hp : 0 < p.length) : undL h p = h :: p.map deep := by
  unfold undL
  rw [if_neg (fun e => by rw [e] at hp; simp at hp)]
theorem deep_ok {x : Lin} (h : Enc.ok x) (hd : x.depth ≤ 5) : Enc.ok (deep x) := ⟨by have := h.1; simp only [deep]; omega, by simp only [deep]; omega, h.2.2.1, h.2.2.2.1, h.2.2.2.2.1, h.2.2.2.2.2.1, h.2.2.2.2.2.2.1, h.2.2.2.2.2.2.2⟩
theorem pass_ok : Enc.ok passL := ⟨by decide, by decide, by decide, by decide, by decide, by decide, by decide, by decide⟩
theorem undL_ok {h : Lin} {p : List Lin} (hh : Enc.ok h) (hp : ∀ x ∈ p, Enc.ok x) (hd : ∀ x ∈ p, x.depth ≤ 5) : ∀ x ∈ undL h p, Enc.ok x := by
  intro x hx
  unfold undL at hx
  rcases List.mem_cons.1 hx with rfl | hx
  · exact hh
  · split at hx
    · rw [List.mem_singleton.1 hx]; exact pass_ok
    · obtain ⟨y, hy, rfl⟩ := List.mem_map.1 hx
      exact deep_ok (hp y hy) (hd y hy)
theorem undL_len (h : Lin) (p : List Lin) : (undL h p).length ≤ p.length + 2 := by
  unfold undL
  split
  · simp
  · simp
/-- a program that has been held against the rules -/
def chkX (xs : List Cls) (p : List Lin) : List Lin := cond (vp xs p) p []
end Go.Proofs.Ytgjpbpoadonpjaa
