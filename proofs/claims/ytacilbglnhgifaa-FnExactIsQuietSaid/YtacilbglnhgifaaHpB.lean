/- spec.validLinks, spec.contexts -/
import Derived.Test.YtacilbglnhgifaaHpA
import Derived.Test.YtacilbglnhgifaaKB
import Derived.Test.YtacilbglnhgifaaAP
namespace Go.Proofs.Ytacilbglnhgifaa
open Go.RowKit

theorem rng_any (a b c : Int) (w : World) : Calls Try.prog 66 #[.int .i64 a, .int .i64 b, .int .i64 c] w fun e w' => e = .returned (.bool (rng b c a)) ∧ w = w' := inRange_any a b c w
theorem intInfoB : (Try.prog.info? 3).map (fun i => (i.zero, i.size, i.bytes)) = some (some (.int .i64 0), 1, 8) := by kernel_rfl
theorem one_newB (w : World) (a : Value) (t : TypeId) : ∀ j u, [a][j]? = some u → (w.alloc (.cells #[a] t)).cell? ((⟨w.heap.size, 0, none⟩ : Addr).add j) = some u := by
  intro j u hu
  cases j with
  | zero =>
    simp at hu; subst hu
    show (w.alloc (.cells #[a] t)).cell? ⟨w.heap.size, 0, none⟩ = some a
    rw [World.cell?_alloc_at _ _ _ _ rfl]; rfl
  | succ j => simp at hu

theorem go_len {nx : Int → Int} : ∀ (m : Nat) (f : Int) (out : List Int), (Chn.go nx m f out).length ≤ m + out.length
  | 0, _, out => by simp [Chn.go]
  | m + 1, f, out => by
    unfold Chn.go
    split
    · omega
    · have := go_len (nx := nx) m (nx f) (out ++ [f]); simp at this; omega
theorem go_stop {nx : Int → Int} {m : Nat} {f : Int} {out : List Int} (h : f < 0 ∨ f ∈ out) : Chn.go nx m f out = out := by
  cases m with
  | zero => rfl
  | succ m => rw [Chn.go, if_pos h]
theorem go_on {nx : Int → Int} {m : Nat} {f : Int} {out : List Int} (h0 : 0 ≤ f) (h : f ∉ out) : Chn.go nx (m + 1) f out = Chn.go nx m (nx f) (out ++ [f]) := by
  rw [Chn.go, if_neg (by rintro (h1 | h1); omega; exact h h1)]
theorem hasI_not {x : Int} {L : List Int} (h : x ∉ L) : hasI L x = false := by
  cases e : hasI L x
  · rfl
  · exact absurd (hasI_iff'.1 e) h

def slLen : Value → Nat
  | .slice _ n _ => n
  | _ => 0
end Go.Proofs.Ytacilbglnhgifaa
