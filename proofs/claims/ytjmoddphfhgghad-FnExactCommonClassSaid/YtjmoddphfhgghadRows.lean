/-
  No cell of these rows narrows 'for every input' (looked for: loops, veiled, ifaces, maps, wideKeys, modest, calm, conditions, laid).
  DERIVED. THE GIVEN ROWS OF THIS SEAT. 6 by the template 'for every input the law returns true; each argument reads behind the call as it read before'; 0 by the template 'total and deterministic' (their statements: YtjmoddphfhgghadTotals.lean).
  GIVEN WITH THE SEED: the statements are not yours to turn. If you find one false, say at which input.
  Laid BY PROGRAM, IN A SANDBOX (cutbox-rows.mjs): the forced cells as the released guide's own fill.sh prints them over the translation 89011df3e8752559… (all of the seat's roots in one cut). By AI agents, Wed Nov 11 2026. No macro, syntax, notation, axiom, sorry.
-/
import Derived.Test.YtjmoddphfhgghadChecked
import GoSem.Claim
import GoSem.ClaimJoined
import GoSem.ClaimMapViews
import Derived.JoinedTies
import Derived.KernelRfl
namespace Go.Proofs.Ytjmoddphfhgghad
/- THE CELL 'sum', in the pinned program and in every row, IS THE sha256 OF THE DUMP (.gsa) THAT YtjmoddphfhgghadProg.lean LOADS. Nothing in Lean hashes anything: it is a label: what it is worth is what the hold of that sum in a sandbox is worth. -/
noncomputable def Try.pinned : Pinned := { name := "ytjmoddphfhgghad", sum := "89011df3e875255999905f1e918dd2c9d72caee050f1fb926e558be39ba5aeae", checked := Try.checked }
namespace Rows
def none {H : Type} : Left H := { results := [], args := [] }

/-- 'laws.FnExactBelowOf': WHATEVER THE INPUT: true; the input reads as it did. -/
def fnExactBelowOfSpec : ChangeSpec := { name := "fnExactBelowOf", fn := fun _ => fun
  | [d1, d2] => { results := [.lit (.bool true)], args := [d1, d2] }
  | _ => none }
def fnExactBelowOfRow : OpenClaim := { program := "ytjmoddphfhgghad", sum := "89011df3e875255999905f1e918dd2c9d72caee050f1fb926e558be39ba5aeae", func := "loop.example/faultcleanup/laws.FnExactBelowOf", spec := "fnExactBelowOf", unfollowed := true, recurses := true, apart := false }
def FnExactBelowOfSaid : Prop := fnExactBelowOfRow.holds Try.pinned (OpenSpec.ofChange fnExactBelowOfSpec)

/-- ITS FALSE NEIGHBOUR: 'it returns false'. Refute it at one input. -/
def fnExactBelowOfWrong : ChangeSpec := { name := "fnExactBelowOf", fn := fun _ => fun
  | [d1, d2] => { results := [.lit (.bool false)], args := [d1, d2] }
  | _ => none }
def FnExactBelowOfWrongFalsely : Prop := fnExactBelowOfRow.holds Try.pinned (OpenSpec.ofChange fnExactBelowOfWrong)

/-- 'laws.FnExactCommonClass': WHATEVER THE INPUT: true; the input reads as it did. -/
def fnExactCommonClassSpec : ChangeSpec := { name := "fnExactCommonClass", fn := fun _ => fun
  | [d1, d2, d3] => { results := [.lit (.bool true)], args := [d1, d2, d3] }
  | _ => none }
def fnExactCommonClassRow : OpenClaim := { program := "ytjmoddphfhgghad", sum := "89011df3e875255999905f1e918dd2c9d72caee050f1fb926e558be39ba5aeae", func := "loop.example/faultcleanup/laws.FnExactCommonClass", spec := "fnExactCommonClass", unfollowed := true, recurses := true, apart := false }
def FnExactCommonClassSaid : Prop := fnExactCommonClassRow.holds Try.pinned (OpenSpec.ofChange fnExactCommonClassSpec)

/-- ITS FALSE NEIGHBOUR: 'it returns false'. Refute it at one input. -/
def fnExactCommonClassWrong : ChangeSpec := { name := "fnExactCommonClass", fn := fun _ => fun
  | [d1, d2, d3] => { results := [.lit (.bool false)], args := [d1, d2, d3] }
  | _ => none }
def FnExactCommonClassWrongFalsely : Prop := fnExactCommonClassRow.holds Try.pinned (OpenSpec.ofChange fnExactCommonClassWrong)

/-- 'laws.FnExactAddClass': WHATEVER THE INPUT: true; the input reads as it did. -/
def fnExactAddClassSpec : ChangeSpec := { name := "fnExactAddClass", fn := fun _ => fun
  | [d1, d2, d3] => { results := [.lit (.bool true)], args := [d1, d2, d3] }
  | _ => none }
def fnExactAddClassRow : OpenClaim := { program := "ytjmoddphfhgghad", sum := "89011df3e875255999905f1e918dd2c9d72caee050f1fb926e558be39ba5aeae", func := "loop.example/faultcleanup/laws.FnExactAddClass", spec := "fnExactAddClass", unfollowed := true, recurses := true, apart := false }
def FnExactAddClassSaid : Prop := fnExactAddClassRow.holds Try.pinned (OpenSpec.ofChange fnExactAddClassSpec)

/-- ITS FALSE NEIGHBOUR: 'it returns false'. Refute it at one input. -/
def fnExactAddClassWrong : ChangeSpec := { name := "fnExactAddClass", fn := fun _ => fun
  | [d1, d2, d3] => { results := [.lit (.bool false)], args := [d1, d2, d3] }
  | _ => none }
def FnExactAddClassWrongFalsely : Prop := fnExactAddClassRow.holds Try.pinned (OpenSpec.ofChange fnExactAddClassWrong)

/-- 'laws.FnExactFirstCatch': WHATEVER THE INPUT: true; the input reads as it did. -/
def fnExactFirstCatchSpec : ChangeSpec := { name := "fnExactFirstCatch", fn := fun _ => fun
  | [d1, d2, d3] => { results := [.lit (.bool true)], args := [d1, d2, d3] }
  | _ => none }
def fnExactFirstCatchRow : OpenClaim := { program := "ytjmoddphfhgghad", sum := "89011df3e875255999905f1e918dd2c9d72caee050f1fb926e558be39ba5aeae", func := "loop.example/faultcleanup/laws.FnExactFirstCatch", spec := "fnExactFirstCatch", unfollowed := true, recurses := true, apart := false }
def FnExactFirstCatchSaid : Prop := fnExactFirstCatchRow.holds Try.pinned (OpenSpec.ofChange fnExactFirstCatchSpec)

/-- ITS FALSE NEIGHBOUR: 'it returns false'. Refute it at one input. -/
def fnExactFirstCatchWrong : ChangeSpec := { name := "fnExactFirstCatch", fn := fun _ => fun
  | [d1, d2, d3] => { results := [.lit (.bool false)], args := [d1, d2, d3] }
  | _ => none }
def FnExactFirstCatchWrongFalsely : Prop := fnExactFirstCatchRow.holds Try.pinned (OpenSpec.ofChange fnExactFirstCatchWrong)

/-- 'laws.FnExactDeadCatches': WHATEVER THE INPUT: true; the input reads as it did. -/
def fnExactDeadCatchesSpec : ChangeSpec := { name := "fnExactDeadCatches", fn := fun _ => fun
  | [d1, d2] => { results := [.lit (.bool true)], args := [d1, d2] }
  | _ => none }
def fnExactDeadCatchesRow : OpenClaim := { program := "ytjmoddphfhgghad", sum := "89011df3e875255999905f1e918dd2c9d72caee050f1fb926e558be39ba5aeae", func := "loop.example/faultcleanup/laws.FnExactDeadCatches", spec := "fnExactDeadCatches", unfollowed := true, recurses := true, apart := false }
def FnExactDeadCatchesSaid : Prop := fnExactDeadCatchesRow.holds Try.pinned (OpenSpec.ofChange fnExactDeadCatchesSpec)

/-- ITS FALSE NEIGHBOUR: 'it returns false'. Refute it at one input. -/
def fnExactDeadCatchesWrong : ChangeSpec := { name := "fnExactDeadCatches", fn := fun _ => fun
  | [d1, d2] => { results := [.lit (.bool false)], args := [d1, d2] }
  | _ => none }
def FnExactDeadCatchesWrongFalsely : Prop := fnExactDeadCatchesRow.holds Try.pinned (OpenSpec.ofChange fnExactDeadCatchesWrong)

/-- 'laws.FnExactCaughtBy': WHATEVER THE INPUT: true; the input reads as it did. -/
def fnExactCaughtBySpec : ChangeSpec := { name := "fnExactCaughtBy", fn := fun _ => fun
  | [d1, d2] => { results := [.lit (.bool true)], args := [d1, d2] }
  | _ => none }
def fnExactCaughtByRow : OpenClaim := { program := "ytjmoddphfhgghad", sum := "89011df3e875255999905f1e918dd2c9d72caee050f1fb926e558be39ba5aeae", func := "loop.example/faultcleanup/laws.FnExactCaughtBy", spec := "fnExactCaughtBy", unfollowed := true, recurses := true, apart := false }
def FnExactCaughtBySaid : Prop := fnExactCaughtByRow.holds Try.pinned (OpenSpec.ofChange fnExactCaughtBySpec)

/-- ITS FALSE NEIGHBOUR: 'it returns false'. Refute it at one input. -/
def fnExactCaughtByWrong : ChangeSpec := { name := "fnExactCaughtBy", fn := fun _ => fun
  | [d1, d2] => { results := [.lit (.bool false)], args := [d1, d2] }
  | _ => none }
def FnExactCaughtByWrongFalsely : Prop := fnExactCaughtByRow.holds Try.pinned (OpenSpec.ofChange fnExactCaughtByWrong)

/- THE SECOND FORM. 'bulk': how many values and letters a reading holds, each counted each time it is reached (what is shared counts as often as it is met; a slice's spare places count too). A statement '..UptoSaid' is the law's where the arguments, and the package variables that the reading takes, are together of bulk at most 1048576: NARROWER than '..Said'. Prove '..Said' where nothing that the law and all that it calls make is longer than what came in: it says more and counts as full. Else prove '..UptoSaid'. A law counts once. -/
mutual
def uptoBulk {H : Type} : DataW H → Nat
  | .lit (.string bytes) => bytes.length + 1
  | .lit _ => 1
  | .nil => 1
  | .ptr d => uptoBulk d + 1
  | .slice elems spare => uptoBulkAll elems + uptoBulkAll spare + 1
  | .agg parts => uptoBulkAll parts + 1
  | .iface _ d => uptoBulk d + 1
  | .map entries => uptoBulkEntries entries + 1
  | .held _ => 1
def uptoBulkAll {H : Type} : List (DataW H) → Nat
  | [] => 0
  | d :: r => uptoBulk d + uptoBulkAll r
def uptoBulkEntries {H : Type} : List (Lit × DataW H) → Nat
  | [] => 0
  | x :: r => uptoBulkEntry x + uptoBulkEntries r
def uptoBulkEntry {H : Type} : Lit × DataW H → Nat
  | (.string bytes, d) => bytes.length + uptoBulk d + 1
  | (_, d) => uptoBulk d + 1
 end
def uptoSmall : (H : Type) → List (DataW H) → Bool := fun _ ds => decide (uptoBulkAll ds ≤ 1048576)
def OpenSpec.upto (s : _root_.Go.ChangeSpec) : _root_.Go.OpenSpec := { _root_.Go.OpenSpec.ofChange s with cond := some uptoSmall }

/-- 'laws.FnExactBelowOf', WHERE WHAT IT READS IS OF BULK AT MOST 1048576: true; the input reads as it did. -/
def fnExactBelowOfUptoRow : OpenClaim := { program := "ytjmoddphfhgghad", sum := "89011df3e875255999905f1e918dd2c9d72caee050f1fb926e558be39ba5aeae", func := "loop.example/faultcleanup/laws.FnExactBelowOf", spec := "fnExactBelowOf", unfollowed := true, recurses := true, apart := false, narrowed := true }
def FnExactBelowOfUptoSaid : Prop := fnExactBelowOfUptoRow.holds Try.pinned (OpenSpec.upto fnExactBelowOfSpec)

/-- 'laws.FnExactCommonClass', WHERE WHAT IT READS IS OF BULK AT MOST 1048576: true; the input reads as it did. -/
def fnExactCommonClassUptoRow : OpenClaim := { program := "ytjmoddphfhgghad", sum := "89011df3e875255999905f1e918dd2c9d72caee050f1fb926e558be39ba5aeae", func := "loop.example/faultcleanup/laws.FnExactCommonClass", spec := "fnExactCommonClass", unfollowed := true, recurses := true, apart := false, narrowed := true }
def FnExactCommonClassUptoSaid : Prop := fnExactCommonClassUptoRow.holds Try.pinned (OpenSpec.upto fnExactCommonClassSpec)

/-- 'laws.FnExactAddClass', WHERE WHAT IT READS IS OF BULK AT MOST 1048576: true; the input reads as it did. -/
def fnExactAddClassUptoRow : OpenClaim := { program := "ytjmoddphfhgghad", sum := "89011df3e875255999905f1e918dd2c9d72caee050f1fb926e558be39ba5aeae", func := "loop.example/faultcleanup/laws.FnExactAddClass", spec := "fnExactAddClass", unfollowed := true, recurses := true, apart := false, narrowed := true }
def FnExactAddClassUptoSaid : Prop := fnExactAddClassUptoRow.holds Try.pinned (OpenSpec.upto fnExactAddClassSpec)

/-- 'laws.FnExactFirstCatch', WHERE WHAT IT READS IS OF BULK AT MOST 1048576: true; the input reads as it did. -/
def fnExactFirstCatchUptoRow : OpenClaim := { program := "ytjmoddphfhgghad", sum := "89011df3e875255999905f1e918dd2c9d72caee050f1fb926e558be39ba5aeae", func := "loop.example/faultcleanup/laws.FnExactFirstCatch", spec := "fnExactFirstCatch", unfollowed := true, recurses := true, apart := false, narrowed := true }
def FnExactFirstCatchUptoSaid : Prop := fnExactFirstCatchUptoRow.holds Try.pinned (OpenSpec.upto fnExactFirstCatchSpec)

/-- 'laws.FnExactDeadCatches', WHERE WHAT IT READS IS OF BULK AT MOST 1048576: true; the input reads as it did. -/
def fnExactDeadCatchesUptoRow : OpenClaim := { program := "ytjmoddphfhgghad", sum := "89011df3e875255999905f1e918dd2c9d72caee050f1fb926e558be39ba5aeae", func := "loop.example/faultcleanup/laws.FnExactDeadCatches", spec := "fnExactDeadCatches", unfollowed := true, recurses := true, apart := false, narrowed := true }
def FnExactDeadCatchesUptoSaid : Prop := fnExactDeadCatchesUptoRow.holds Try.pinned (OpenSpec.upto fnExactDeadCatchesSpec)

/-- 'laws.FnExactCaughtBy', WHERE WHAT IT READS IS OF BULK AT MOST 1048576: true; the input reads as it did. -/
def fnExactCaughtByUptoRow : OpenClaim := { program := "ytjmoddphfhgghad", sum := "89011df3e875255999905f1e918dd2c9d72caee050f1fb926e558be39ba5aeae", func := "loop.example/faultcleanup/laws.FnExactCaughtBy", spec := "fnExactCaughtBy", unfollowed := true, recurses := true, apart := false, narrowed := true }
def FnExactCaughtByUptoSaid : Prop := fnExactCaughtByUptoRow.holds Try.pinned (OpenSpec.upto fnExactCaughtBySpec)

end Rows
end Go.Proofs.Ytjmoddphfhgghad
