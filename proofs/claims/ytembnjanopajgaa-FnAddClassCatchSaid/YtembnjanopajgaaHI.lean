/- spec.DeadCatches, impl.DeadCatches -/
import Derived.Test.YtembnjanopajgaaHG
import Derived.Test.YtembnjanopajgaaHD
namespace Go.Proofs.Ytembnjanopajgaa
open Go.RowKit

theorem hand_tree {xs : List Cls} {L : List Int} (h : goodC xs L = true) : okTree xs = true := by unfold goodC at h; simp at h; exact h.1.1
end Go.Proofs.Ytembnjanopajgaa
