/-
  No cell of these rows narrows 'for every input' (looked for: loops, veiled, ifaces, maps, wideKeys, modest, calm, conditions, laid).
  DERIVED. THE GIVEN ROWS OF THIS SEAT. 12 by the template 'for every input the law returns true; each argument reads behind the call as it read before'; 0 by the template 'total and deterministic' (their statements: YtlejfmhmpcimaaaTotals.lean).
  GIVEN WITH THE SEED: the statements are not yours to turn. If you find one false, say at which input.
  Laid BY PROGRAM, IN A SANDBOX (cutbox-rows.mjs): the forced cells as the released guide's own fill.sh prints them over the translation f10880f399e30f70… (all of the seat's roots in one cut). By AI agents, Wed Nov 11 2026. No macro, syntax, notation, axiom, sorry.
-/
import Derived.Test.YtlejfmhmpcimaaaChecked
import GoSem.Claim
import GoSem.ClaimJoined
import GoSem.ClaimMapViews
import Derived.JoinedTies
import Derived.KernelRfl
namespace Go.Proofs.Ytlejfmhmpcimaaa
/- THE CELL 'sum', in the pinned program and in every row, IS THE sha256 OF THE DUMP (.gsa) THAT YtlejfmhmpcimaaaProg.lean LOADS. Nothing in Lean hashes anything: it is a label: what it is worth is what the hold of that sum in a sandbox is worth. -/
noncomputable def Try.pinned : Pinned := { name := "ytlejfmhmpcimaaa", sum := "f10880f399e30f70b93be45cfd3f15808d75cf4d4684431713572a632aca4e3e", checked := Try.checked }
namespace Rows
def none {H : Type} : Left H := { results := [], args := [] }

/-- 'laws.FnExactAddClass': WHATEVER THE INPUT: true; the input reads as it did. -/
def fnExactAddClassSpec : ChangeSpec := { name := "fnExactAddClass", fn := fun _ => fun
  | [d1, d2, d3] => { results := [.lit (.bool true)], args := [d1, d2, d3] }
  | _ => none }
def fnExactAddClassRow : OpenClaim := { program := "ytlejfmhmpcimaaa", sum := "f10880f399e30f70b93be45cfd3f15808d75cf4d4684431713572a632aca4e3e", func := "loop.example/faultcleanup/laws.FnExactAddClass", spec := "fnExactAddClass", unfollowed := true, recurses := true, apart := false }
def FnExactAddClassSaid : Prop := fnExactAddClassRow.holds Try.pinned (OpenSpec.ofChange fnExactAddClassSpec)

/-- ITS FALSE NEIGHBOUR: 'it returns false'. Refute it at one input. -/
def fnExactAddClassWrong : ChangeSpec := { name := "fnExactAddClass", fn := fun _ => fun
  | [d1, d2, d3] => { results := [.lit (.bool false)], args := [d1, d2, d3] }
  | _ => none }
def FnExactAddClassWrongFalsely : Prop := fnExactAddClassRow.holds Try.pinned (OpenSpec.ofChange fnExactAddClassWrong)

/-- 'laws.FnExactFirstCatch': WHATEVER THE INPUT: true; the input reads as it did. -/
def fnExactFirstCatchSpec : ChangeSpec := { name := "fnExactFirstCatch", fn := fun _ => fun
  | [d1, d2, d3] => { results := [.lit (.bool true)], args := [d1, d2, d3] }
  | _ => none }
def fnExactFirstCatchRow : OpenClaim := { program := "ytlejfmhmpcimaaa", sum := "f10880f399e30f70b93be45cfd3f15808d75cf4d4684431713572a632aca4e3e", func := "loop.example/faultcleanup/laws.FnExactFirstCatch", spec := "fnExactFirstCatch", unfollowed := true, recurses := true, apart := false }
def FnExactFirstCatchSaid : Prop := fnExactFirstCatchRow.holds Try.pinned (OpenSpec.ofChange fnExactFirstCatchSpec)

/-- ITS FALSE NEIGHBOUR: 'it returns false'. Refute it at one input. -/
def fnExactFirstCatchWrong : ChangeSpec := { name := "fnExactFirstCatch", fn := fun _ => fun
  | [d1, d2, d3] => { results := [.lit (.bool false)], args := [d1, d2, d3] }
  | _ => none }
def FnExactFirstCatchWrongFalsely : Prop := fnExactFirstCatchRow.holds Try.pinned (OpenSpec.ofChange fnExactFirstCatchWrong)

/-- 'laws.FnExactDeadCatches': WHATEVER THE INPUT: true; the input reads as it did. -/
def fnExactDeadCatchesSpec : ChangeSpec := { name := "fnExactDeadCatches", fn := fun _ => fun
  | [d1, d2] => { results := [.lit (.bool true)], args := [d1, d2] }
  | _ => none }
def fnExactDeadCatchesRow : OpenClaim := { program := "ytlejfmhmpcimaaa", sum := "f10880f399e30f70b93be45cfd3f15808d75cf4d4684431713572a632aca4e3e", func := "loop.example/faultcleanup/laws.FnExactDeadCatches", spec := "fnExactDeadCatches", unfollowed := true, recurses := true, apart := false }
def FnExactDeadCatchesSaid : Prop := fnExactDeadCatchesRow.holds Try.pinned (OpenSpec.ofChange fnExactDeadCatchesSpec)

/-- ITS FALSE NEIGHBOUR: 'it returns false'. Refute it at one input. -/
def fnExactDeadCatchesWrong : ChangeSpec := { name := "fnExactDeadCatches", fn := fun _ => fun
  | [d1, d2] => { results := [.lit (.bool false)], args := [d1, d2] }
  | _ => none }
def FnExactDeadCatchesWrongFalsely : Prop := fnExactDeadCatchesRow.holds Try.pinned (OpenSpec.ofChange fnExactDeadCatchesWrong)

/-- 'laws.FnExactCaughtBy': WHATEVER THE INPUT: true; the input reads as it did. -/
def fnExactCaughtBySpec : ChangeSpec := { name := "fnExactCaughtBy", fn := fun _ => fun
  | [d1, d2] => { results := [.lit (.bool true)], args := [d1, d2] }
  | _ => none }
def fnExactCaughtByRow : OpenClaim := { program := "ytlejfmhmpcimaaa", sum := "f10880f399e30f70b93be45cfd3f15808d75cf4d4684431713572a632aca4e3e", func := "loop.example/faultcleanup/laws.FnExactCaughtBy", spec := "fnExactCaughtBy", unfollowed := true, recurses := true, apart := false }
def FnExactCaughtBySaid : Prop := fnExactCaughtByRow.holds Try.pinned (OpenSpec.ofChange fnExactCaughtBySpec)

/-- ITS FALSE NEIGHBOUR: 'it returns false'. Refute it at one input. -/
def fnExactCaughtByWrong : ChangeSpec := { name := "fnExactCaughtBy", fn := fun _ => fun
  | [d1, d2] => { results := [.lit (.bool false)], args := [d1, d2] }
  | _ => none }
def FnExactCaughtByWrongFalsely : Prop := fnExactCaughtByRow.holds Try.pinned (OpenSpec.ofChange fnExactCaughtByWrong)

/-- 'laws.FnExactLeastCatches': WHATEVER THE INPUT: true; the input reads as it did. -/
def fnExactLeastCatchesSpec : ChangeSpec := { name := "fnExactLeastCatches", fn := fun _ => fun
  | [d1, d2] => { results := [.lit (.bool true)], args := [d1, d2] }
  | _ => none }
def fnExactLeastCatchesRow : OpenClaim := { program := "ytlejfmhmpcimaaa", sum := "f10880f399e30f70b93be45cfd3f15808d75cf4d4684431713572a632aca4e3e", func := "loop.example/faultcleanup/laws.FnExactLeastCatches", spec := "fnExactLeastCatches", unfollowed := true, recurses := true, apart := false }
def FnExactLeastCatchesSaid : Prop := fnExactLeastCatchesRow.holds Try.pinned (OpenSpec.ofChange fnExactLeastCatchesSpec)

/-- ITS FALSE NEIGHBOUR: 'it returns false'. Refute it at one input. -/
def fnExactLeastCatchesWrong : ChangeSpec := { name := "fnExactLeastCatches", fn := fun _ => fun
  | [d1, d2] => { results := [.lit (.bool false)], args := [d1, d2] }
  | _ => none }
def FnExactLeastCatchesWrongFalsely : Prop := fnExactLeastCatchesRow.holds Try.pinned (OpenSpec.ofChange fnExactLeastCatchesWrong)

/-- 'laws.FnClassNamed': WHATEVER THE INPUT: true; the input reads as it did. -/
def fnClassNamedSpec : ChangeSpec := { name := "fnClassNamed", fn := fun _ => fun
  | [d] => { results := [.lit (.bool true)], args := [d] }
  | _ => none }
def fnClassNamedRow : OpenClaim := { program := "ytlejfmhmpcimaaa", sum := "f10880f399e30f70b93be45cfd3f15808d75cf4d4684431713572a632aca4e3e", func := "loop.example/faultcleanup/laws.FnClassNamed", spec := "fnClassNamed", unfollowed := true, recurses := true, apart := false }
def FnClassNamedSaid : Prop := fnClassNamedRow.holds Try.pinned (OpenSpec.ofChange fnClassNamedSpec)

/-- ITS FALSE NEIGHBOUR: 'it returns false'. Refute it at one input. -/
def fnClassNamedWrong : ChangeSpec := { name := "fnClassNamed", fn := fun _ => fun
  | [d] => { results := [.lit (.bool false)], args := [d] }
  | _ => none }
def FnClassNamedWrongFalsely : Prop := fnClassNamedRow.holds Try.pinned (OpenSpec.ofChange fnClassNamedWrong)

/-- 'laws.FnIsA': WHATEVER THE INPUT: true; the input reads as it did. -/
def fnIsASpec : ChangeSpec := { name := "fnIsA", fn := fun _ => fun
  | [d] => { results := [.lit (.bool true)], args := [d] }
  | _ => none }
def fnIsARow : OpenClaim := { program := "ytlejfmhmpcimaaa", sum := "f10880f399e30f70b93be45cfd3f15808d75cf4d4684431713572a632aca4e3e", func := "loop.example/faultcleanup/laws.FnIsA", spec := "fnIsA", unfollowed := true, recurses := true, apart := false }
def FnIsASaid : Prop := fnIsARow.holds Try.pinned (OpenSpec.ofChange fnIsASpec)

/-- ITS FALSE NEIGHBOUR: 'it returns false'. Refute it at one input. -/
def fnIsAWrong : ChangeSpec := { name := "fnIsA", fn := fun _ => fun
  | [d] => { results := [.lit (.bool false)], args := [d] }
  | _ => none }
def FnIsAWrongFalsely : Prop := fnIsARow.holds Try.pinned (OpenSpec.ofChange fnIsAWrong)

/-- 'laws.FnAboveOf': WHATEVER THE INPUT: true; the input reads as it did. -/
def fnAboveOfSpec : ChangeSpec := { name := "fnAboveOf", fn := fun _ => fun
  | [d] => { results := [.lit (.bool true)], args := [d] }
  | _ => none }
def fnAboveOfRow : OpenClaim := { program := "ytlejfmhmpcimaaa", sum := "f10880f399e30f70b93be45cfd3f15808d75cf4d4684431713572a632aca4e3e", func := "loop.example/faultcleanup/laws.FnAboveOf", spec := "fnAboveOf", unfollowed := true, recurses := true, apart := false }
def FnAboveOfSaid : Prop := fnAboveOfRow.holds Try.pinned (OpenSpec.ofChange fnAboveOfSpec)

/-- ITS FALSE NEIGHBOUR: 'it returns false'. Refute it at one input. -/
def fnAboveOfWrong : ChangeSpec := { name := "fnAboveOf", fn := fun _ => fun
  | [d] => { results := [.lit (.bool false)], args := [d] }
  | _ => none }
def FnAboveOfWrongFalsely : Prop := fnAboveOfRow.holds Try.pinned (OpenSpec.ofChange fnAboveOfWrong)

/-- 'laws.FnBelowOf': WHATEVER THE INPUT: true; the input reads as it did. -/
def fnBelowOfSpec : ChangeSpec := { name := "fnBelowOf", fn := fun _ => fun
  | [d] => { results := [.lit (.bool true)], args := [d] }
  | _ => none }
def fnBelowOfRow : OpenClaim := { program := "ytlejfmhmpcimaaa", sum := "f10880f399e30f70b93be45cfd3f15808d75cf4d4684431713572a632aca4e3e", func := "loop.example/faultcleanup/laws.FnBelowOf", spec := "fnBelowOf", unfollowed := true, recurses := true, apart := false }
def FnBelowOfSaid : Prop := fnBelowOfRow.holds Try.pinned (OpenSpec.ofChange fnBelowOfSpec)

/-- ITS FALSE NEIGHBOUR: 'it returns false'. Refute it at one input. -/
def fnBelowOfWrong : ChangeSpec := { name := "fnBelowOf", fn := fun _ => fun
  | [d] => { results := [.lit (.bool false)], args := [d] }
  | _ => none }
def FnBelowOfWrongFalsely : Prop := fnBelowOfRow.holds Try.pinned (OpenSpec.ofChange fnBelowOfWrong)

/-- 'laws.FnCommonClass': WHATEVER THE INPUT: true; the input reads as it did. -/
def fnCommonClassSpec : ChangeSpec := { name := "fnCommonClass", fn := fun _ => fun
  | [d] => { results := [.lit (.bool true)], args := [d] }
  | _ => none }
def fnCommonClassRow : OpenClaim := { program := "ytlejfmhmpcimaaa", sum := "f10880f399e30f70b93be45cfd3f15808d75cf4d4684431713572a632aca4e3e", func := "loop.example/faultcleanup/laws.FnCommonClass", spec := "fnCommonClass", unfollowed := true, recurses := true, apart := false }
def FnCommonClassSaid : Prop := fnCommonClassRow.holds Try.pinned (OpenSpec.ofChange fnCommonClassSpec)

/-- ITS FALSE NEIGHBOUR: 'it returns false'. Refute it at one input. -/
def fnCommonClassWrong : ChangeSpec := { name := "fnCommonClass", fn := fun _ => fun
  | [d] => { results := [.lit (.bool false)], args := [d] }
  | _ => none }
def FnCommonClassWrongFalsely : Prop := fnCommonClassRow.holds Try.pinned (OpenSpec.ofChange fnCommonClassWrong)

/-- 'laws.FnAddClass': WHATEVER THE INPUT: true; the input reads as it did. -/
def fnAddClassSpec : ChangeSpec := { name := "fnAddClass", fn := fun _ => fun
  | [d] => { results := [.lit (.bool true)], args := [d] }
  | _ => none }
def fnAddClassRow : OpenClaim := { program := "ytlejfmhmpcimaaa", sum := "f10880f399e30f70b93be45cfd3f15808d75cf4d4684431713572a632aca4e3e", func := "loop.example/faultcleanup/laws.FnAddClass", spec := "fnAddClass", unfollowed := true, recurses := true, apart := false }
def FnAddClassSaid : Prop := fnAddClassRow.holds Try.pinned (OpenSpec.ofChange fnAddClassSpec)

/-- ITS FALSE NEIGHBOUR: 'it returns false'. Refute it at one input. -/
def fnAddClassWrong : ChangeSpec := { name := "fnAddClass", fn := fun _ => fun
  | [d] => { results := [.lit (.bool false)], args := [d] }
  | _ => none }
def FnAddClassWrongFalsely : Prop := fnAddClassRow.holds Try.pinned (OpenSpec.ofChange fnAddClassWrong)

/-- 'laws.FnAddClassCatch': WHATEVER THE INPUT: true; the input reads as it did. -/
def fnAddClassCatchSpec : ChangeSpec := { name := "fnAddClassCatch", fn := fun _ => fun
  | [d] => { results := [.lit (.bool true)], args := [d] }
  | _ => none }
def fnAddClassCatchRow : OpenClaim := { program := "ytlejfmhmpcimaaa", sum := "f10880f399e30f70b93be45cfd3f15808d75cf4d4684431713572a632aca4e3e", func := "loop.example/faultcleanup/laws.FnAddClassCatch", spec := "fnAddClassCatch", unfollowed := true, recurses := true, apart := false }
def FnAddClassCatchSaid : Prop := fnAddClassCatchRow.holds Try.pinned (OpenSpec.ofChange fnAddClassCatchSpec)

/-- ITS FALSE NEIGHBOUR: 'it returns false'. Refute it at one input. -/
def fnAddClassCatchWrong : ChangeSpec := { name := "fnAddClassCatch", fn := fun _ => fun
  | [d] => { results := [.lit (.bool false)], args := [d] }
  | _ => none }
def FnAddClassCatchWrongFalsely : Prop := fnAddClassCatchRow.holds Try.pinned (OpenSpec.ofChange fnAddClassCatchWrong)

/- THE SECOND FORM. 'bulk': how many values and letters a reading holds, each counted each time it is reached (what is shared counts as often as it is met; a slice's spare places count too). A statement '..UptoSaid' is the law's where the arguments, and the package variables that the reading takes, are together of bulk at most 1048576: NARROWER than '..Said'. Prove '..Said' where nothing that the law and all that it calls make is longer than what came in: it says more and counts as full. Else prove '..UptoSaid'. A law counts once. -/
mutual
def uptoBulk {H : Type} : DataW H → Nat
  | .lit (.string bytes) => bytes.length + 1
  | .lit _ => 1
  | .nil => 1
  | .ptr d => uptoBulk d + 1
  | .slice elems spare => uptoBulkAll elems + uptoBulkAll spare + 1
  | .agg parts => uptoBulkAll parts + 1
  | .iface _ d => uptoBulk d + 1
  | .map entries => uptoBulkEntries entries + 1
  | .held _ => 1
def uptoBulkAll {H : Type} : List (DataW H) → Nat
  | [] => 0
  | d :: r => uptoBulk d + uptoBulkAll r
def uptoBulkEntries {H : Type} : List (Lit × DataW H) → Nat
  | [] => 0
  | x :: r => uptoBulkEntry x + uptoBulkEntries r
def uptoBulkEntry {H : Type} : Lit × DataW H → Nat
  | (.string bytes, d) => bytes.length + uptoBulk d + 1
  | (_, d) => uptoBulk d + 1
 end
def uptoSmall : (H : Type) → List (DataW H) → Bool := fun _ ds => decide (uptoBulkAll ds ≤ 1048576)
def OpenSpec.upto (s : _root_.Go.ChangeSpec) : _root_.Go.OpenSpec := { _root_.Go.OpenSpec.ofChange s with cond := some uptoSmall }

/-- 'laws.FnExactAddClass', WHERE WHAT IT READS IS OF BULK AT MOST 1048576: true; the input reads as it did. -/
def fnExactAddClassUptoRow : OpenClaim := { program := "ytlejfmhmpcimaaa", sum := "f10880f399e30f70b93be45cfd3f15808d75cf4d4684431713572a632aca4e3e", func := "loop.example/faultcleanup/laws.FnExactAddClass", spec := "fnExactAddClass", unfollowed := true, recurses := true, apart := false, narrowed := true }
def FnExactAddClassUptoSaid : Prop := fnExactAddClassUptoRow.holds Try.pinned (OpenSpec.upto fnExactAddClassSpec)

/-- 'laws.FnExactFirstCatch', WHERE WHAT IT READS IS OF BULK AT MOST 1048576: true; the input reads as it did. -/
def fnExactFirstCatchUptoRow : OpenClaim := { program := "ytlejfmhmpcimaaa", sum := "f10880f399e30f70b93be45cfd3f15808d75cf4d4684431713572a632aca4e3e", func := "loop.example/faultcleanup/laws.FnExactFirstCatch", spec := "fnExactFirstCatch", unfollowed := true, recurses := true, apart := false, narrowed := true }
def FnExactFirstCatchUptoSaid : Prop := fnExactFirstCatchUptoRow.holds Try.pinned (OpenSpec.upto fnExactFirstCatchSpec)

/-- 'laws.FnExactDeadCatches', WHERE WHAT IT READS IS OF BULK AT MOST 1048576: true; the input reads as it did. -/
def fnExactDeadCatchesUptoRow : OpenClaim := { program := "ytlejfmhmpcimaaa", sum := "f10880f399e30f70b93be45cfd3f15808d75cf4d4684431713572a632aca4e3e", func := "loop.example/faultcleanup/laws.FnExactDeadCatches", spec := "fnExactDeadCatches", unfollowed := true, recurses := true, apart := false, narrowed := true }
def FnExactDeadCatchesUptoSaid : Prop := fnExactDeadCatchesUptoRow.holds Try.pinned (OpenSpec.upto fnExactDeadCatchesSpec)

/-- 'laws.FnExactCaughtBy', WHERE WHAT IT READS IS OF BULK AT MOST 1048576: true; the input reads as it did. -/
def fnExactCaughtByUptoRow : OpenClaim := { program := "ytlejfmhmpcimaaa", sum := "f10880f399e30f70b93be45cfd3f15808d75cf4d4684431713572a632aca4e3e", func := "loop.example/faultcleanup/laws.FnExactCaughtBy", spec := "fnExactCaughtBy", unfollowed := true, recurses := true, apart := false, narrowed := true }
def FnExactCaughtByUptoSaid : Prop := fnExactCaughtByUptoRow.holds Try.pinned (OpenSpec.upto fnExactCaughtBySpec)

/-- 'laws.FnExactLeastCatches', WHERE WHAT IT READS IS OF BULK AT MOST 1048576: true; the input reads as it did. -/
def fnExactLeastCatchesUptoRow : OpenClaim := { program := "ytlejfmhmpcimaaa", sum := "f10880f399e30f70b93be45cfd3f15808d75cf4d4684431713572a632aca4e3e", func := "loop.example/faultcleanup/laws.FnExactLeastCatches", spec := "fnExactLeastCatches", unfollowed := true, recurses := true, apart := false, narrowed := true }
def FnExactLeastCatchesUptoSaid : Prop := fnExactLeastCatchesUptoRow.holds Try.pinned (OpenSpec.upto fnExactLeastCatchesSpec)

/-- 'laws.FnClassNamed', WHERE WHAT IT READS IS OF BULK AT MOST 1048576: true; the input reads as it did. -/
def fnClassNamedUptoRow : OpenClaim := { program := "ytlejfmhmpcimaaa", sum := "f10880f399e30f70b93be45cfd3f15808d75cf4d4684431713572a632aca4e3e", func := "loop.example/faultcleanup/laws.FnClassNamed", spec := "fnClassNamed", unfollowed := true, recurses := true, apart := false, narrowed := true }
def FnClassNamedUptoSaid : Prop := fnClassNamedUptoRow.holds Try.pinned (OpenSpec.upto fnClassNamedSpec)

/-- 'laws.FnIsA', WHERE WHAT IT READS IS OF BULK AT MOST 1048576: true; the input reads as it did. -/
def fnIsAUptoRow : OpenClaim := { program := "ytlejfmhmpcimaaa", sum := "f10880f399e30f70b93be45cfd3f15808d75cf4d4684431713572a632aca4e3e", func := "loop.example/faultcleanup/laws.FnIsA", spec := "fnIsA", unfollowed := true, recurses := true, apart := false, narrowed := true }
def FnIsAUptoSaid : Prop := fnIsAUptoRow.holds Try.pinned (OpenSpec.upto fnIsASpec)

/-- 'laws.FnAboveOf', WHERE WHAT IT READS IS OF BULK AT MOST 1048576: true; the input reads as it did. -/
def fnAboveOfUptoRow : OpenClaim := { program := "ytlejfmhmpcimaaa", sum := "f10880f399e30f70b93be45cfd3f15808d75cf4d4684431713572a632aca4e3e", func := "loop.example/faultcleanup/laws.FnAboveOf", spec := "fnAboveOf", unfollowed := true, recurses := true, apart := false, narrowed := true }
def FnAboveOfUptoSaid : Prop := fnAboveOfUptoRow.holds Try.pinned (OpenSpec.upto fnAboveOfSpec)

/-- 'laws.FnBelowOf', WHERE WHAT IT READS IS OF BULK AT MOST 1048576: true; the input reads as it did. -/
def fnBelowOfUptoRow : OpenClaim := { program := "ytlejfmhmpcimaaa", sum := "f10880f399e30f70b93be45cfd3f15808d75cf4d4684431713572a632aca4e3e", func := "loop.example/faultcleanup/laws.FnBelowOf", spec := "fnBelowOf", unfollowed := true, recurses := true, apart := false, narrowed := true }
def FnBelowOfUptoSaid : Prop := fnBelowOfUptoRow.holds Try.pinned (OpenSpec.upto fnBelowOfSpec)

/-- 'laws.FnCommonClass', WHERE WHAT IT READS IS OF BULK AT MOST 1048576: true; the input reads as it did. -/
def fnCommonClassUptoRow : OpenClaim := { program := "ytlejfmhmpcimaaa", sum := "f10880f399e30f70b93be45cfd3f15808d75cf4d4684431713572a632aca4e3e", func := "loop.example/faultcleanup/laws.FnCommonClass", spec := "fnCommonClass", unfollowed := true, recurses := true, apart := false, narrowed := true }
def FnCommonClassUptoSaid : Prop := fnCommonClassUptoRow.holds Try.pinned (OpenSpec.upto fnCommonClassSpec)

/-- 'laws.FnAddClass', WHERE WHAT IT READS IS OF BULK AT MOST 1048576: true; the input reads as it did. -/
def fnAddClassUptoRow : OpenClaim := { program := "ytlejfmhmpcimaaa", sum := "f10880f399e30f70b93be45cfd3f15808d75cf4d4684431713572a632aca4e3e", func := "loop.example/faultcleanup/laws.FnAddClass", spec := "fnAddClass", unfollowed := true, recurses := true, apart := false, narrowed := true }
def FnAddClassUptoSaid : Prop := fnAddClassUptoRow.holds Try.pinned (OpenSpec.upto fnAddClassSpec)

/-- 'laws.FnAddClassCatch', WHERE WHAT IT READS IS OF BULK AT MOST 1048576: true; the input reads as it did. -/
def fnAddClassCatchUptoRow : OpenClaim := { program := "ytlejfmhmpcimaaa", sum := "f10880f399e30f70b93be45cfd3f15808d75cf4d4684431713572a632aca4e3e", func := "loop.example/faultcleanup/laws.FnAddClassCatch", spec := "fnAddClassCatch", unfollowed := true, recurses := true, apart := false, narrowed := true }
def FnAddClassCatchUptoSaid : Prop := fnAddClassCatchUptoRow.holds Try.pinned (OpenSpec.upto fnAddClassCatchSpec)

end Rows
end Go.Proofs.Ytlejfmhmpcimaaa
