/-
  No cell of these rows narrows 'for every input' (looked for: loops, veiled, ifaces, maps, wideKeys, modest, calm, conditions, laid).
  DERIVED. THE GIVEN ROWS OF THIS SEAT. 11 by the template 'for every input the law returns true; each argument reads behind the call as it read before'; 0 by the template 'total and deterministic' (their statements: YtdookbcnodghnaaTotals.lean).
  GIVEN WITH THE SEED: the statements are not yours to turn. If you find one false, say at which input.
  Laid BY PROGRAM, IN A SANDBOX (cutbox-rows.mjs): the forced cells as the released guide's own fill.sh prints them over the translation 62bdc153cb143608… (all of the seat's roots in one cut). By AI agents, Wed Nov 11 2026. No macro, syntax, notation, axiom, sorry.
-/
import Derived.Test.YtdookbcnodghnaaChecked
import GoSem.Claim
import GoSem.ClaimJoined
import GoSem.ClaimMapViews
import Derived.JoinedTies
import Derived.KernelRfl
namespace Go.Proofs.Ytdookbcnodghnaa
/- THE CELL 'sum', in the pinned program and in every row, IS THE sha256 OF THE DUMP (.gsa) THAT YtdookbcnodghnaaProg.lean LOADS. Nothing in Lean hashes anything: it is a label: what it is worth is what the hold of that sum in a sandbox is worth. -/
noncomputable def Try.pinned : Pinned := { name := "ytdookbcnodghnaa", sum := "62bdc153cb143608c31e39c430b08c8d1624e0909d3104f78457460ff38d6398", checked := Try.checked }
namespace Rows
def none {H : Type} : Left H := { results := [], args := [] }

/-- 'laws.FnClassNamed': WHATEVER THE INPUT: true; the input reads as it did. -/
def fnClassNamedSpec : ChangeSpec := { name := "fnClassNamed", fn := fun _ => fun
  | [d] => { results := [.lit (.bool true)], args := [d] }
  | _ => none }
def fnClassNamedRow : OpenClaim := { program := "ytdookbcnodghnaa", sum := "62bdc153cb143608c31e39c430b08c8d1624e0909d3104f78457460ff38d6398", func := "loop.example/faultcleanup/laws.FnClassNamed", spec := "fnClassNamed", unfollowed := true, recurses := true, apart := false }
def FnClassNamedSaid : Prop := fnClassNamedRow.holds Try.pinned (OpenSpec.ofChange fnClassNamedSpec)

/-- ITS FALSE NEIGHBOUR: 'it returns false'. Refute it at one input. -/
def fnClassNamedWrong : ChangeSpec := { name := "fnClassNamed", fn := fun _ => fun
  | [d] => { results := [.lit (.bool false)], args := [d] }
  | _ => none }
def FnClassNamedWrongFalsely : Prop := fnClassNamedRow.holds Try.pinned (OpenSpec.ofChange fnClassNamedWrong)

/-- 'laws.FnIsA': WHATEVER THE INPUT: true; the input reads as it did. -/
def fnIsASpec : ChangeSpec := { name := "fnIsA", fn := fun _ => fun
  | [d] => { results := [.lit (.bool true)], args := [d] }
  | _ => none }
def fnIsARow : OpenClaim := { program := "ytdookbcnodghnaa", sum := "62bdc153cb143608c31e39c430b08c8d1624e0909d3104f78457460ff38d6398", func := "loop.example/faultcleanup/laws.FnIsA", spec := "fnIsA", unfollowed := true, recurses := true, apart := false }
def FnIsASaid : Prop := fnIsARow.holds Try.pinned (OpenSpec.ofChange fnIsASpec)

/-- ITS FALSE NEIGHBOUR: 'it returns false'. Refute it at one input. -/
def fnIsAWrong : ChangeSpec := { name := "fnIsA", fn := fun _ => fun
  | [d] => { results := [.lit (.bool false)], args := [d] }
  | _ => none }
def FnIsAWrongFalsely : Prop := fnIsARow.holds Try.pinned (OpenSpec.ofChange fnIsAWrong)

/-- 'laws.FnAboveOf': WHATEVER THE INPUT: true; the input reads as it did. -/
def fnAboveOfSpec : ChangeSpec := { name := "fnAboveOf", fn := fun _ => fun
  | [d] => { results := [.lit (.bool true)], args := [d] }
  | _ => none }
def fnAboveOfRow : OpenClaim := { program := "ytdookbcnodghnaa", sum := "62bdc153cb143608c31e39c430b08c8d1624e0909d3104f78457460ff38d6398", func := "loop.example/faultcleanup/laws.FnAboveOf", spec := "fnAboveOf", unfollowed := true, recurses := true, apart := false }
def FnAboveOfSaid : Prop := fnAboveOfRow.holds Try.pinned (OpenSpec.ofChange fnAboveOfSpec)

/-- ITS FALSE NEIGHBOUR: 'it returns false'. Refute it at one input. -/
def fnAboveOfWrong : ChangeSpec := { name := "fnAboveOf", fn := fun _ => fun
  | [d] => { results := [.lit (.bool false)], args := [d] }
  | _ => none }
def FnAboveOfWrongFalsely : Prop := fnAboveOfRow.holds Try.pinned (OpenSpec.ofChange fnAboveOfWrong)

/-- 'laws.FnBelowOf': WHATEVER THE INPUT: true; the input reads as it did. -/
def fnBelowOfSpec : ChangeSpec := { name := "fnBelowOf", fn := fun _ => fun
  | [d] => { results := [.lit (.bool true)], args := [d] }
  | _ => none }
def fnBelowOfRow : OpenClaim := { program := "ytdookbcnodghnaa", sum := "62bdc153cb143608c31e39c430b08c8d1624e0909d3104f78457460ff38d6398", func := "loop.example/faultcleanup/laws.FnBelowOf", spec := "fnBelowOf", unfollowed := true, recurses := true, apart := false }
def FnBelowOfSaid : Prop := fnBelowOfRow.holds Try.pinned (OpenSpec.ofChange fnBelowOfSpec)

/-- ITS FALSE NEIGHBOUR: 'it returns false'. Refute it at one input. -/
def fnBelowOfWrong : ChangeSpec := { name := "fnBelowOf", fn := fun _ => fun
  | [d] => { results := [.lit (.bool false)], args := [d] }
  | _ => none }
def FnBelowOfWrongFalsely : Prop := fnBelowOfRow.holds Try.pinned (OpenSpec.ofChange fnBelowOfWrong)

/-- 'laws.FnCommonClass': WHATEVER THE INPUT: true; the input reads as it did. -/
def fnCommonClassSpec : ChangeSpec := { name := "fnCommonClass", fn := fun _ => fun
  | [d] => { results := [.lit (.bool true)], args := [d] }
  | _ => none }
def fnCommonClassRow : OpenClaim := { program := "ytdookbcnodghnaa", sum := "62bdc153cb143608c31e39c430b08c8d1624e0909d3104f78457460ff38d6398", func := "loop.example/faultcleanup/laws.FnCommonClass", spec := "fnCommonClass", unfollowed := true, recurses := true, apart := false }
def FnCommonClassSaid : Prop := fnCommonClassRow.holds Try.pinned (OpenSpec.ofChange fnCommonClassSpec)

/-- ITS FALSE NEIGHBOUR: 'it returns false'. Refute it at one input. -/
def fnCommonClassWrong : ChangeSpec := { name := "fnCommonClass", fn := fun _ => fun
  | [d] => { results := [.lit (.bool false)], args := [d] }
  | _ => none }
def FnCommonClassWrongFalsely : Prop := fnCommonClassRow.holds Try.pinned (OpenSpec.ofChange fnCommonClassWrong)

/-- 'laws.FnAddClass': WHATEVER THE INPUT: true; the input reads as it did. -/
def fnAddClassSpec : ChangeSpec := { name := "fnAddClass", fn := fun _ => fun
  | [d] => { results := [.lit (.bool true)], args := [d] }
  | _ => none }
def fnAddClassRow : OpenClaim := { program := "ytdookbcnodghnaa", sum := "62bdc153cb143608c31e39c430b08c8d1624e0909d3104f78457460ff38d6398", func := "loop.example/faultcleanup/laws.FnAddClass", spec := "fnAddClass", unfollowed := true, recurses := true, apart := false }
def FnAddClassSaid : Prop := fnAddClassRow.holds Try.pinned (OpenSpec.ofChange fnAddClassSpec)

/-- ITS FALSE NEIGHBOUR: 'it returns false'. Refute it at one input. -/
def fnAddClassWrong : ChangeSpec := { name := "fnAddClass", fn := fun _ => fun
  | [d] => { results := [.lit (.bool false)], args := [d] }
  | _ => none }
def FnAddClassWrongFalsely : Prop := fnAddClassRow.holds Try.pinned (OpenSpec.ofChange fnAddClassWrong)

/-- 'laws.FnFirstCatch': WHATEVER THE INPUT: true; the input reads as it did. -/
def fnFirstCatchSpec : ChangeSpec := { name := "fnFirstCatch", fn := fun _ => fun
  | [d] => { results := [.lit (.bool true)], args := [d] }
  | _ => none }
def fnFirstCatchRow : OpenClaim := { program := "ytdookbcnodghnaa", sum := "62bdc153cb143608c31e39c430b08c8d1624e0909d3104f78457460ff38d6398", func := "loop.example/faultcleanup/laws.FnFirstCatch", spec := "fnFirstCatch", unfollowed := true, recurses := true, apart := false }
def FnFirstCatchSaid : Prop := fnFirstCatchRow.holds Try.pinned (OpenSpec.ofChange fnFirstCatchSpec)

/-- ITS FALSE NEIGHBOUR: 'it returns false'. Refute it at one input. -/
def fnFirstCatchWrong : ChangeSpec := { name := "fnFirstCatch", fn := fun _ => fun
  | [d] => { results := [.lit (.bool false)], args := [d] }
  | _ => none }
def FnFirstCatchWrongFalsely : Prop := fnFirstCatchRow.holds Try.pinned (OpenSpec.ofChange fnFirstCatchWrong)

/-- 'laws.FnDeadCatches': WHATEVER THE INPUT: true; the input reads as it did. -/
def fnDeadCatchesSpec : ChangeSpec := { name := "fnDeadCatches", fn := fun _ => fun
  | [d] => { results := [.lit (.bool true)], args := [d] }
  | _ => none }
def fnDeadCatchesRow : OpenClaim := { program := "ytdookbcnodghnaa", sum := "62bdc153cb143608c31e39c430b08c8d1624e0909d3104f78457460ff38d6398", func := "loop.example/faultcleanup/laws.FnDeadCatches", spec := "fnDeadCatches", unfollowed := true, recurses := true, apart := false }
def FnDeadCatchesSaid : Prop := fnDeadCatchesRow.holds Try.pinned (OpenSpec.ofChange fnDeadCatchesSpec)

/-- ITS FALSE NEIGHBOUR: 'it returns false'. Refute it at one input. -/
def fnDeadCatchesWrong : ChangeSpec := { name := "fnDeadCatches", fn := fun _ => fun
  | [d] => { results := [.lit (.bool false)], args := [d] }
  | _ => none }
def FnDeadCatchesWrongFalsely : Prop := fnDeadCatchesRow.holds Try.pinned (OpenSpec.ofChange fnDeadCatchesWrong)

/-- 'laws.FnCaughtBy': WHATEVER THE INPUT: true; the input reads as it did. -/
def fnCaughtBySpec : ChangeSpec := { name := "fnCaughtBy", fn := fun _ => fun
  | [d] => { results := [.lit (.bool true)], args := [d] }
  | _ => none }
def fnCaughtByRow : OpenClaim := { program := "ytdookbcnodghnaa", sum := "62bdc153cb143608c31e39c430b08c8d1624e0909d3104f78457460ff38d6398", func := "loop.example/faultcleanup/laws.FnCaughtBy", spec := "fnCaughtBy", unfollowed := true, recurses := true, apart := false }
def FnCaughtBySaid : Prop := fnCaughtByRow.holds Try.pinned (OpenSpec.ofChange fnCaughtBySpec)

/-- ITS FALSE NEIGHBOUR: 'it returns false'. Refute it at one input. -/
def fnCaughtByWrong : ChangeSpec := { name := "fnCaughtBy", fn := fun _ => fun
  | [d] => { results := [.lit (.bool false)], args := [d] }
  | _ => none }
def FnCaughtByWrongFalsely : Prop := fnCaughtByRow.holds Try.pinned (OpenSpec.ofChange fnCaughtByWrong)

/-- 'laws.FnLeastCatches': WHATEVER THE INPUT: true; the input reads as it did. -/
def fnLeastCatchesSpec : ChangeSpec := { name := "fnLeastCatches", fn := fun _ => fun
  | [d] => { results := [.lit (.bool true)], args := [d] }
  | _ => none }
def fnLeastCatchesRow : OpenClaim := { program := "ytdookbcnodghnaa", sum := "62bdc153cb143608c31e39c430b08c8d1624e0909d3104f78457460ff38d6398", func := "loop.example/faultcleanup/laws.FnLeastCatches", spec := "fnLeastCatches", unfollowed := true, recurses := true, apart := false }
def FnLeastCatchesSaid : Prop := fnLeastCatchesRow.holds Try.pinned (OpenSpec.ofChange fnLeastCatchesSpec)

/-- ITS FALSE NEIGHBOUR: 'it returns false'. Refute it at one input. -/
def fnLeastCatchesWrong : ChangeSpec := { name := "fnLeastCatches", fn := fun _ => fun
  | [d] => { results := [.lit (.bool false)], args := [d] }
  | _ => none }
def FnLeastCatchesWrongFalsely : Prop := fnLeastCatchesRow.holds Try.pinned (OpenSpec.ofChange fnLeastCatchesWrong)

/-- 'laws.FnTreeText': WHATEVER THE INPUT: true; the input reads as it did. -/
def fnTreeTextSpec : ChangeSpec := { name := "fnTreeText", fn := fun _ => fun
  | [d] => { results := [.lit (.bool true)], args := [d] }
  | _ => none }
def fnTreeTextRow : OpenClaim := { program := "ytdookbcnodghnaa", sum := "62bdc153cb143608c31e39c430b08c8d1624e0909d3104f78457460ff38d6398", func := "loop.example/faultcleanup/laws.FnTreeText", spec := "fnTreeText", inPlace := ["internal/abi.NoEscape", "internal/bytealg.IndexByteString", "internal/bytealg.IndexString"], unfollowed := true, recurses := true, named := ["internal/bytealg.MaxLen"], apart := false }
def FnTreeTextSaid : Prop := fnTreeTextRow.holds Try.pinned (OpenSpec.ofChange fnTreeTextSpec)

/-- ITS FALSE NEIGHBOUR: 'it returns false'. Refute it at one input. -/
def fnTreeTextWrong : ChangeSpec := { name := "fnTreeText", fn := fun _ => fun
  | [d] => { results := [.lit (.bool false)], args := [d] }
  | _ => none }
def FnTreeTextWrongFalsely : Prop := fnTreeTextRow.holds Try.pinned (OpenSpec.ofChange fnTreeTextWrong)

/- THE SECOND FORM. 'bulk': how many values and letters a reading holds, each counted each time it is reached (what is shared counts as often as it is met; a slice's spare places count too). A statement '..UptoSaid' is the law's where the arguments, and the package variables that the reading takes, are together of bulk at most 1048576: NARROWER than '..Said'. Prove '..Said' where nothing that the law and all that it calls make is longer than what came in: it says more and counts as full. Else prove '..UptoSaid'. A law counts once. -/
mutual
def uptoBulk {H : Type} : DataW H → Nat
  | .lit (.string bytes) => bytes.length + 1
  | .lit _ => 1
  | .nil => 1
  | .ptr d => uptoBulk d + 1
  | .slice elems spare => uptoBulkAll elems + uptoBulkAll spare + 1
  | .agg parts => uptoBulkAll parts + 1
  | .iface _ d => uptoBulk d + 1
  | .map entries => uptoBulkEntries entries + 1
  | .held _ => 1
def uptoBulkAll {H : Type} : List (DataW H) → Nat
  | [] => 0
  | d :: r => uptoBulk d + uptoBulkAll r
def uptoBulkEntries {H : Type} : List (Lit × DataW H) → Nat
  | [] => 0
  | x :: r => uptoBulkEntry x + uptoBulkEntries r
def uptoBulkEntry {H : Type} : Lit × DataW H → Nat
  | (.string bytes, d) => bytes.length + uptoBulk d + 1
  | (_, d) => uptoBulk d + 1
 end
def uptoSmall : (H : Type) → List (DataW H) → Bool := fun _ ds => decide (uptoBulkAll ds ≤ 1048576)
def OpenSpec.upto (s : _root_.Go.ChangeSpec) : _root_.Go.OpenSpec := { _root_.Go.OpenSpec.ofChange s with cond := some uptoSmall }

/-- 'laws.FnClassNamed', WHERE WHAT IT READS IS OF BULK AT MOST 1048576: true; the input reads as it did. -/
def fnClassNamedUptoRow : OpenClaim := { program := "ytdookbcnodghnaa", sum := "62bdc153cb143608c31e39c430b08c8d1624e0909d3104f78457460ff38d6398", func := "loop.example/faultcleanup/laws.FnClassNamed", spec := "fnClassNamed", unfollowed := true, recurses := true, apart := false, narrowed := true }
def FnClassNamedUptoSaid : Prop := fnClassNamedUptoRow.holds Try.pinned (OpenSpec.upto fnClassNamedSpec)

/-- 'laws.FnIsA', WHERE WHAT IT READS IS OF BULK AT MOST 1048576: true; the input reads as it did. -/
def fnIsAUptoRow : OpenClaim := { program := "ytdookbcnodghnaa", sum := "62bdc153cb143608c31e39c430b08c8d1624e0909d3104f78457460ff38d6398", func := "loop.example/faultcleanup/laws.FnIsA", spec := "fnIsA", unfollowed := true, recurses := true, apart := false, narrowed := true }
def FnIsAUptoSaid : Prop := fnIsAUptoRow.holds Try.pinned (OpenSpec.upto fnIsASpec)

/-- 'laws.FnAboveOf', WHERE WHAT IT READS IS OF BULK AT MOST 1048576: true; the input reads as it did. -/
def fnAboveOfUptoRow : OpenClaim := { program := "ytdookbcnodghnaa", sum := "62bdc153cb143608c31e39c430b08c8d1624e0909d3104f78457460ff38d6398", func := "loop.example/faultcleanup/laws.FnAboveOf", spec := "fnAboveOf", unfollowed := true, recurses := true, apart := false, narrowed := true }
def FnAboveOfUptoSaid : Prop := fnAboveOfUptoRow.holds Try.pinned (OpenSpec.upto fnAboveOfSpec)

/-- 'laws.FnBelowOf', WHERE WHAT IT READS IS OF BULK AT MOST 1048576: true; the input reads as it did. -/
def fnBelowOfUptoRow : OpenClaim := { program := "ytdookbcnodghnaa", sum := "62bdc153cb143608c31e39c430b08c8d1624e0909d3104f78457460ff38d6398", func := "loop.example/faultcleanup/laws.FnBelowOf", spec := "fnBelowOf", unfollowed := true, recurses := true, apart := false, narrowed := true }
def FnBelowOfUptoSaid : Prop := fnBelowOfUptoRow.holds Try.pinned (OpenSpec.upto fnBelowOfSpec)

/-- 'laws.FnCommonClass', WHERE WHAT IT READS IS OF BULK AT MOST 1048576: true; the input reads as it did. -/
def fnCommonClassUptoRow : OpenClaim := { program := "ytdookbcnodghnaa", sum := "62bdc153cb143608c31e39c430b08c8d1624e0909d3104f78457460ff38d6398", func := "loop.example/faultcleanup/laws.FnCommonClass", spec := "fnCommonClass", unfollowed := true, recurses := true, apart := false, narrowed := true }
def FnCommonClassUptoSaid : Prop := fnCommonClassUptoRow.holds Try.pinned (OpenSpec.upto fnCommonClassSpec)

/-- 'laws.FnAddClass', WHERE WHAT IT READS IS OF BULK AT MOST 1048576: true; the input reads as it did. -/
def fnAddClassUptoRow : OpenClaim := { program := "ytdookbcnodghnaa", sum := "62bdc153cb143608c31e39c430b08c8d1624e0909d3104f78457460ff38d6398", func := "loop.example/faultcleanup/laws.FnAddClass", spec := "fnAddClass", unfollowed := true, recurses := true, apart := false, narrowed := true }
def FnAddClassUptoSaid : Prop := fnAddClassUptoRow.holds Try.pinned (OpenSpec.upto fnAddClassSpec)

/-- 'laws.FnFirstCatch', WHERE WHAT IT READS IS OF BULK AT MOST 1048576: true; the input reads as it did. -/
def fnFirstCatchUptoRow : OpenClaim := { program := "ytdookbcnodghnaa", sum := "62bdc153cb143608c31e39c430b08c8d1624e0909d3104f78457460ff38d6398", func := "loop.example/faultcleanup/laws.FnFirstCatch", spec := "fnFirstCatch", unfollowed := true, recurses := true, apart := false, narrowed := true }
def FnFirstCatchUptoSaid : Prop := fnFirstCatchUptoRow.holds Try.pinned (OpenSpec.upto fnFirstCatchSpec)

/-- 'laws.FnDeadCatches', WHERE WHAT IT READS IS OF BULK AT MOST 1048576: true; the input reads as it did. -/
def fnDeadCatchesUptoRow : OpenClaim := { program := "ytdookbcnodghnaa", sum := "62bdc153cb143608c31e39c430b08c8d1624e0909d3104f78457460ff38d6398", func := "loop.example/faultcleanup/laws.FnDeadCatches", spec := "fnDeadCatches", unfollowed := true, recurses := true, apart := false, narrowed := true }
def FnDeadCatchesUptoSaid : Prop := fnDeadCatchesUptoRow.holds Try.pinned (OpenSpec.upto fnDeadCatchesSpec)

/-- 'laws.FnCaughtBy', WHERE WHAT IT READS IS OF BULK AT MOST 1048576: true; the input reads as it did. -/
def fnCaughtByUptoRow : OpenClaim := { program := "ytdookbcnodghnaa", sum := "62bdc153cb143608c31e39c430b08c8d1624e0909d3104f78457460ff38d6398", func := "loop.example/faultcleanup/laws.FnCaughtBy", spec := "fnCaughtBy", unfollowed := true, recurses := true, apart := false, narrowed := true }
def FnCaughtByUptoSaid : Prop := fnCaughtByUptoRow.holds Try.pinned (OpenSpec.upto fnCaughtBySpec)

/-- 'laws.FnLeastCatches', WHERE WHAT IT READS IS OF BULK AT MOST 1048576: true; the input reads as it did. -/
def fnLeastCatchesUptoRow : OpenClaim := { program := "ytdookbcnodghnaa", sum := "62bdc153cb143608c31e39c430b08c8d1624e0909d3104f78457460ff38d6398", func := "loop.example/faultcleanup/laws.FnLeastCatches", spec := "fnLeastCatches", unfollowed := true, recurses := true, apart := false, narrowed := true }
def FnLeastCatchesUptoSaid : Prop := fnLeastCatchesUptoRow.holds Try.pinned (OpenSpec.upto fnLeastCatchesSpec)

/-- 'laws.FnTreeText', WHERE WHAT IT READS IS OF BULK AT MOST 1048576: true; the input reads as it did. -/
def fnTreeTextUptoRow : OpenClaim := { program := "ytdookbcnodghnaa", sum := "62bdc153cb143608c31e39c430b08c8d1624e0909d3104f78457460ff38d6398", func := "loop.example/faultcleanup/laws.FnTreeText", spec := "fnTreeText", inPlace := ["internal/abi.NoEscape", "internal/bytealg.IndexByteString", "internal/bytealg.IndexString"], unfollowed := true, recurses := true, named := ["internal/bytealg.MaxLen"], apart := false, narrowed := true }
def FnTreeTextUptoSaid : Prop := fnTreeTextUptoRow.holds Try.pinned (OpenSpec.upto fnTreeTextSpec)

end Rows
end Go.Proofs.Ytdookbcnodghnaa
