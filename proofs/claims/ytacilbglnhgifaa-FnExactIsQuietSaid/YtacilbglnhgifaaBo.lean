/- rows of bools; stores in a row that reads as a list -/
import Derived.Test.YtacilbglnhgifaaA
import Derived.Test.YtacilbglnhgifaaKB
namespace Go.Proofs.Ytacilbglnhgifaa
open Go.RowKit
instance instEncBool : Enc Bool := ⟨1, fun x => [.bool x], fun _ => True, fun _ => rfl⟩
theorem flat_set {α : Type} [Enc α] (y : α) (v : Value) (j : Nat) (hj : j < Enc.size α) : ∀ (xs : List α) (k : Nat) (hk : k < xs.length), (Enc.cells xs[k]).set j v = Enc.cells y → (xs.flatMap Enc.cells).set (k * Enc.size α + j) v = (xs.set k y).flatMap Enc.cells := by
  intro xs
  induction xs with
  | nil => intro k hk; simp at hk
  | cons x r ih =>
    intro k hk hy
    rw [List.flatMap_cons]
    cases k with
    | zero =>
      rw [Nat.zero_mul, Nat.zero_add, List.set_append_left _ _ (by rw [Enc.len]; exact hj)]
      simp only [List.getElem_cons_zero] at hy
      rw [hy]; rfl
    | succ k =>
      have hle : (Enc.cells x).length ≤ (k + 1) * Enc.size α + j := by rw [Enc.len, Nat.succ_mul]; omega
      have hsub : (k + 1) * Enc.size α + j - (Enc.cells x).length = k * Enc.size α + j := by rw [Enc.len, Nat.succ_mul]; omega
      rw [List.set_append_right _ _ hle, hsub, ih k (by simpa using hk) (by simpa using hy)]
      rfl
theorem boolInfo : (Try.prog.info? 4).map (fun i => (i.zero, i.size, i.bytes)) = some (some (.bool false), 1, 1) := by kernel_rfl
theorem made_bools (n : Nat) : (madeCells (Value.bool false).cells (n * 1)).toList = ((List.replicate n false).flatMap (Enc.cells (α := Bool))) := by
  have : ∀ n, (List.replicate n false).flatMap (Enc.cells (α := Bool)) = List.replicate n (.bool false) := by
    intro n
    induction n with
    | zero => rfl
    | succ n ih => rw [List.replicate_succ, List.flatMap_cons, ih, List.replicate_succ]; rfl
  rw [this]
  refine List.ext_getElem (by simp [madeCells]) (fun i h1 h2 => ?_)
  simp [madeCells, Value.cells, Nat.mod_one]
theorem flat_bool (xs : List Bool) (i : Nat) (hi : i < xs.length) (b : Bool) : (xs.flatMap (Enc.cells (α := Bool))).set i (.bool b) = (xs.set i b).flatMap Enc.cells := by
  have := flat_set b (.bool b) 0 (by decide) xs i hi rfl
  simpa [Enc.size] using this
theorem cell_bool {w : World} {base n g c : Nat} {fd : List Bool} (h : w.ownsRow base 4 1 (.slice (some ⟨g, 0, none⟩) n c) n (fd.flatMap Enc.cells)) {k : Nat} (hk : k < fd.length) (hl : fd.length = n) : w.cell? ⟨g, k, none⟩ = some (.bool fd[k]) := by
  rw [h.cellAt k (by omega), show (fd.flatMap (Enc.cells (α := Bool)))[k]? = _ from by simpa [Enc.size] using flat_at fd k hk 0 (by decide)]; rfl
end Go.Proofs.Ytacilbglnhgifaa
