/-
  No cell of these rows narrows 'for every input' (looked for: loops, veiled, ifaces, maps, wideKeys, modest, calm, conditions, laid).
  DERIVED. THE GIVEN ROWS OF THIS SEAT. 12 by the template 'for every input the law returns true; each argument reads behind the call as it read before'; 0 by the template 'total and deterministic' (their statements: YtlejfmhmpcimaabTotals.lean).
  GIVEN WITH THE SEED: the statements are not yours to turn. If you find one false, say at which input.
  Laid BY PROGRAM, IN A SANDBOX (cutbox-rows.mjs): the forced cells as the released guide's own fill.sh prints them over the translation c90ad8eda5bb4705… (all of the seat's roots in one cut). By AI agents, Wed Nov 11 2026. No macro, syntax, notation, axiom, sorry.
-/
import Derived.Test.YtlejfmhmpcimaabChecked
import GoSem.Claim
import GoSem.ClaimJoined
import GoSem.ClaimMapViews
import Derived.JoinedTies
import Derived.KernelRfl
namespace Go.Proofs.Ytlejfmhmpcimaab
/- THE CELL 'sum', in the pinned program and in every row, IS THE sha256 OF THE DUMP (.gsa) THAT YtlejfmhmpcimaabProg.lean LOADS. Nothing in Lean hashes anything: it is a label: what it is worth is what the hold of that sum in a sandbox is worth. -/
noncomputable def Try.pinned : Pinned := { name := "ytlejfmhmpcimaab", sum := "c90ad8eda5bb4705c992f3f9ffbe0f8c30f3e476eb3c863fb8d25af129e92f7f", checked := Try.checked }
namespace Rows
def none {H : Type} : Left H := { results := [], args := [] }

/-- 'laws.FnExactTreeText': WHATEVER THE INPUT: true; the input reads as it did. -/
def fnExactTreeTextSpec : ChangeSpec := { name := "fnExactTreeText", fn := fun _ => fun
  | [d] => { results := [.lit (.bool true)], args := [d] }
  | _ => none }
def fnExactTreeTextRow : OpenClaim := { program := "ytlejfmhmpcimaab", sum := "c90ad8eda5bb4705c992f3f9ffbe0f8c30f3e476eb3c863fb8d25af129e92f7f", func := "loop.example/faultcleanup/laws.FnExactTreeText", spec := "fnExactTreeText", inPlace := ["internal/abi.NoEscape"], unfollowed := true, recurses := true, apart := false }
def FnExactTreeTextSaid : Prop := fnExactTreeTextRow.holds Try.pinned (OpenSpec.ofChange fnExactTreeTextSpec)

/-- ITS FALSE NEIGHBOUR: 'it returns false'. Refute it at one input. -/
def fnExactTreeTextWrong : ChangeSpec := { name := "fnExactTreeText", fn := fun _ => fun
  | [d] => { results := [.lit (.bool false)], args := [d] }
  | _ => none }
def FnExactTreeTextWrongFalsely : Prop := fnExactTreeTextRow.holds Try.pinned (OpenSpec.ofChange fnExactTreeTextWrong)

/-- 'laws.FnExactParseTree': WHATEVER THE INPUT: true; the input reads as it did. -/
def fnExactParseTreeSpec : ChangeSpec := { name := "fnExactParseTree", fn := fun _ => fun
  | [d] => { results := [.lit (.bool true)], args := [d] }
  | _ => none }
def fnExactParseTreeRow : OpenClaim := { program := "ytlejfmhmpcimaab", sum := "c90ad8eda5bb4705c992f3f9ffbe0f8c30f3e476eb3c863fb8d25af129e92f7f", func := "loop.example/faultcleanup/laws.FnExactParseTree", spec := "fnExactParseTree", inPlace := ["internal/bytealg.IndexByteString", "internal/bytealg.IndexString", "internal/abi.NoEscape"], unfollowed := true, recurses := true, named := ["internal/bytealg.MaxLen"], apart := false }
def FnExactParseTreeSaid : Prop := fnExactParseTreeRow.holds Try.pinned (OpenSpec.ofChange fnExactParseTreeSpec)

/-- ITS FALSE NEIGHBOUR: 'it returns false'. Refute it at one input. -/
def fnExactParseTreeWrong : ChangeSpec := { name := "fnExactParseTree", fn := fun _ => fun
  | [d] => { results := [.lit (.bool false)], args := [d] }
  | _ => none }
def FnExactParseTreeWrongFalsely : Prop := fnExactParseTreeRow.holds Try.pinned (OpenSpec.ofChange fnExactParseTreeWrong)

/-- 'laws.FnFirstCatch': WHATEVER THE INPUT: true; the input reads as it did. -/
def fnFirstCatchSpec : ChangeSpec := { name := "fnFirstCatch", fn := fun _ => fun
  | [d] => { results := [.lit (.bool true)], args := [d] }
  | _ => none }
def fnFirstCatchRow : OpenClaim := { program := "ytlejfmhmpcimaab", sum := "c90ad8eda5bb4705c992f3f9ffbe0f8c30f3e476eb3c863fb8d25af129e92f7f", func := "loop.example/faultcleanup/laws.FnFirstCatch", spec := "fnFirstCatch", unfollowed := true, recurses := true, apart := false }
def FnFirstCatchSaid : Prop := fnFirstCatchRow.holds Try.pinned (OpenSpec.ofChange fnFirstCatchSpec)

/-- ITS FALSE NEIGHBOUR: 'it returns false'. Refute it at one input. -/
def fnFirstCatchWrong : ChangeSpec := { name := "fnFirstCatch", fn := fun _ => fun
  | [d] => { results := [.lit (.bool false)], args := [d] }
  | _ => none }
def FnFirstCatchWrongFalsely : Prop := fnFirstCatchRow.holds Try.pinned (OpenSpec.ofChange fnFirstCatchWrong)

/-- 'laws.FnDeadCatches': WHATEVER THE INPUT: true; the input reads as it did. -/
def fnDeadCatchesSpec : ChangeSpec := { name := "fnDeadCatches", fn := fun _ => fun
  | [d] => { results := [.lit (.bool true)], args := [d] }
  | _ => none }
def fnDeadCatchesRow : OpenClaim := { program := "ytlejfmhmpcimaab", sum := "c90ad8eda5bb4705c992f3f9ffbe0f8c30f3e476eb3c863fb8d25af129e92f7f", func := "loop.example/faultcleanup/laws.FnDeadCatches", spec := "fnDeadCatches", unfollowed := true, recurses := true, apart := false }
def FnDeadCatchesSaid : Prop := fnDeadCatchesRow.holds Try.pinned (OpenSpec.ofChange fnDeadCatchesSpec)

/-- ITS FALSE NEIGHBOUR: 'it returns false'. Refute it at one input. -/
def fnDeadCatchesWrong : ChangeSpec := { name := "fnDeadCatches", fn := fun _ => fun
  | [d] => { results := [.lit (.bool false)], args := [d] }
  | _ => none }
def FnDeadCatchesWrongFalsely : Prop := fnDeadCatchesRow.holds Try.pinned (OpenSpec.ofChange fnDeadCatchesWrong)

/-- 'laws.FnCaughtBy': WHATEVER THE INPUT: true; the input reads as it did. -/
def fnCaughtBySpec : ChangeSpec := { name := "fnCaughtBy", fn := fun _ => fun
  | [d] => { results := [.lit (.bool true)], args := [d] }
  | _ => none }
def fnCaughtByRow : OpenClaim := { program := "ytlejfmhmpcimaab", sum := "c90ad8eda5bb4705c992f3f9ffbe0f8c30f3e476eb3c863fb8d25af129e92f7f", func := "loop.example/faultcleanup/laws.FnCaughtBy", spec := "fnCaughtBy", unfollowed := true, recurses := true, apart := false }
def FnCaughtBySaid : Prop := fnCaughtByRow.holds Try.pinned (OpenSpec.ofChange fnCaughtBySpec)

/-- ITS FALSE NEIGHBOUR: 'it returns false'. Refute it at one input. -/
def fnCaughtByWrong : ChangeSpec := { name := "fnCaughtBy", fn := fun _ => fun
  | [d] => { results := [.lit (.bool false)], args := [d] }
  | _ => none }
def FnCaughtByWrongFalsely : Prop := fnCaughtByRow.holds Try.pinned (OpenSpec.ofChange fnCaughtByWrong)

/-- 'laws.FnLeastCatches': WHATEVER THE INPUT: true; the input reads as it did. -/
def fnLeastCatchesSpec : ChangeSpec := { name := "fnLeastCatches", fn := fun _ => fun
  | [d] => { results := [.lit (.bool true)], args := [d] }
  | _ => none }
def fnLeastCatchesRow : OpenClaim := { program := "ytlejfmhmpcimaab", sum := "c90ad8eda5bb4705c992f3f9ffbe0f8c30f3e476eb3c863fb8d25af129e92f7f", func := "loop.example/faultcleanup/laws.FnLeastCatches", spec := "fnLeastCatches", unfollowed := true, recurses := true, apart := false }
def FnLeastCatchesSaid : Prop := fnLeastCatchesRow.holds Try.pinned (OpenSpec.ofChange fnLeastCatchesSpec)

/-- ITS FALSE NEIGHBOUR: 'it returns false'. Refute it at one input. -/
def fnLeastCatchesWrong : ChangeSpec := { name := "fnLeastCatches", fn := fun _ => fun
  | [d] => { results := [.lit (.bool false)], args := [d] }
  | _ => none }
def FnLeastCatchesWrongFalsely : Prop := fnLeastCatchesRow.holds Try.pinned (OpenSpec.ofChange fnLeastCatchesWrong)

/-- 'laws.FnTreeText': WHATEVER THE INPUT: true; the input reads as it did. -/
def fnTreeTextSpec : ChangeSpec := { name := "fnTreeText", fn := fun _ => fun
  | [d] => { results := [.lit (.bool true)], args := [d] }
  | _ => none }
def fnTreeTextRow : OpenClaim := { program := "ytlejfmhmpcimaab", sum := "c90ad8eda5bb4705c992f3f9ffbe0f8c30f3e476eb3c863fb8d25af129e92f7f", func := "loop.example/faultcleanup/laws.FnTreeText", spec := "fnTreeText", inPlace := ["internal/abi.NoEscape", "internal/bytealg.IndexByteString", "internal/bytealg.IndexString"], unfollowed := true, recurses := true, named := ["internal/bytealg.MaxLen"], apart := false }
def FnTreeTextSaid : Prop := fnTreeTextRow.holds Try.pinned (OpenSpec.ofChange fnTreeTextSpec)

/-- ITS FALSE NEIGHBOUR: 'it returns false'. Refute it at one input. -/
def fnTreeTextWrong : ChangeSpec := { name := "fnTreeText", fn := fun _ => fun
  | [d] => { results := [.lit (.bool false)], args := [d] }
  | _ => none }
def FnTreeTextWrongFalsely : Prop := fnTreeTextRow.holds Try.pinned (OpenSpec.ofChange fnTreeTextWrong)

/-- 'laws.FnParseTree': WHATEVER THE INPUT: true; the input reads as it did. -/
def fnParseTreeSpec : ChangeSpec := { name := "fnParseTree", fn := fun _ => fun
  | [d] => { results := [.lit (.bool true)], args := [d] }
  | _ => none }
def fnParseTreeRow : OpenClaim := { program := "ytlejfmhmpcimaab", sum := "c90ad8eda5bb4705c992f3f9ffbe0f8c30f3e476eb3c863fb8d25af129e92f7f", func := "loop.example/faultcleanup/laws.FnParseTree", spec := "fnParseTree", inPlace := ["internal/bytealg.IndexByteString", "internal/bytealg.IndexString", "internal/abi.NoEscape"], unfollowed := true, recurses := true, named := ["internal/bytealg.MaxLen"], apart := false }
def FnParseTreeSaid : Prop := fnParseTreeRow.holds Try.pinned (OpenSpec.ofChange fnParseTreeSpec)

/-- ITS FALSE NEIGHBOUR: 'it returns false'. Refute it at one input. -/
def fnParseTreeWrong : ChangeSpec := { name := "fnParseTree", fn := fun _ => fun
  | [d] => { results := [.lit (.bool false)], args := [d] }
  | _ => none }
def FnParseTreeWrongFalsely : Prop := fnParseTreeRow.holds Try.pinned (OpenSpec.ofChange fnParseTreeWrong)

/-- 'laws.FnExactValidHeap': WHATEVER THE INPUT: true; the input reads as it did. -/
def fnExactValidHeapSpec : ChangeSpec := { name := "fnExactValidHeap", fn := fun _ => fun
  | [d1, d2] => { results := [.lit (.bool true)], args := [d1, d2] }
  | _ => none }
def fnExactValidHeapRow : OpenClaim := { program := "ytlejfmhmpcimaab", sum := "c90ad8eda5bb4705c992f3f9ffbe0f8c30f3e476eb3c863fb8d25af129e92f7f", func := "loop.example/faultcleanup/laws.FnExactValidHeap", spec := "fnExactValidHeap", inPlace := ["internal/reflectlite.TypeOf"], unfollowed := true, recurses := true, apart := false }
def FnExactValidHeapSaid : Prop := fnExactValidHeapRow.holds Try.pinned (OpenSpec.ofChange fnExactValidHeapSpec)

/-- ITS FALSE NEIGHBOUR: 'it returns false'. Refute it at one input. -/
def fnExactValidHeapWrong : ChangeSpec := { name := "fnExactValidHeap", fn := fun _ => fun
  | [d1, d2] => { results := [.lit (.bool false)], args := [d1, d2] }
  | _ => none }
def FnExactValidHeapWrongFalsely : Prop := fnExactValidHeapRow.holds Try.pinned (OpenSpec.ofChange fnExactValidHeapWrong)

/-- 'laws.FnExactNewFault': WHATEVER THE INPUT: true; the input reads as it did. -/
def fnExactNewFaultSpec : ChangeSpec := { name := "fnExactNewFault", fn := fun _ => fun
  | [d1, d2, d3, d4] => { results := [.lit (.bool true)], args := [d1, d2, d3, d4] }
  | _ => none }
def fnExactNewFaultRow : OpenClaim := { program := "ytlejfmhmpcimaab", sum := "c90ad8eda5bb4705c992f3f9ffbe0f8c30f3e476eb3c863fb8d25af129e92f7f", func := "loop.example/faultcleanup/laws.FnExactNewFault", spec := "fnExactNewFault", inPlace := ["internal/reflectlite.TypeOf"], unfollowed := true, recurses := true, apart := false }
def FnExactNewFaultSaid : Prop := fnExactNewFaultRow.holds Try.pinned (OpenSpec.ofChange fnExactNewFaultSpec)

/-- ITS FALSE NEIGHBOUR: 'it returns false'. Refute it at one input. -/
def fnExactNewFaultWrong : ChangeSpec := { name := "fnExactNewFault", fn := fun _ => fun
  | [d1, d2, d3, d4] => { results := [.lit (.bool false)], args := [d1, d2, d3, d4] }
  | _ => none }
def FnExactNewFaultWrongFalsely : Prop := fnExactNewFaultRow.holds Try.pinned (OpenSpec.ofChange fnExactNewFaultWrong)

/-- 'laws.FnExactSetCause': WHATEVER THE INPUT: true; the input reads as it did. -/
def fnExactSetCauseSpec : ChangeSpec := { name := "fnExactSetCause", fn := fun _ => fun
  | [d1, d2, d3, d4] => { results := [.lit (.bool true)], args := [d1, d2, d3, d4] }
  | _ => none }
def fnExactSetCauseRow : OpenClaim := { program := "ytlejfmhmpcimaab", sum := "c90ad8eda5bb4705c992f3f9ffbe0f8c30f3e476eb3c863fb8d25af129e92f7f", func := "loop.example/faultcleanup/laws.FnExactSetCause", spec := "fnExactSetCause", inPlace := ["internal/reflectlite.TypeOf"], unfollowed := true, recurses := true, apart := false }
def FnExactSetCauseSaid : Prop := fnExactSetCauseRow.holds Try.pinned (OpenSpec.ofChange fnExactSetCauseSpec)

/-- ITS FALSE NEIGHBOUR: 'it returns false'. Refute it at one input. -/
def fnExactSetCauseWrong : ChangeSpec := { name := "fnExactSetCause", fn := fun _ => fun
  | [d1, d2, d3, d4] => { results := [.lit (.bool false)], args := [d1, d2, d3, d4] }
  | _ => none }
def FnExactSetCauseWrongFalsely : Prop := fnExactSetCauseRow.holds Try.pinned (OpenSpec.ofChange fnExactSetCauseWrong)

/-- 'laws.FnExactHideContext': WHATEVER THE INPUT: true; the input reads as it did. -/
def fnExactHideContextSpec : ChangeSpec := { name := "fnExactHideContext", fn := fun _ => fun
  | [d1, d2, d3, d4] => { results := [.lit (.bool true)], args := [d1, d2, d3, d4] }
  | _ => none }
def fnExactHideContextRow : OpenClaim := { program := "ytlejfmhmpcimaab", sum := "c90ad8eda5bb4705c992f3f9ffbe0f8c30f3e476eb3c863fb8d25af129e92f7f", func := "loop.example/faultcleanup/laws.FnExactHideContext", spec := "fnExactHideContext", inPlace := ["internal/reflectlite.TypeOf"], unfollowed := true, recurses := true, apart := false }
def FnExactHideContextSaid : Prop := fnExactHideContextRow.holds Try.pinned (OpenSpec.ofChange fnExactHideContextSpec)

/-- ITS FALSE NEIGHBOUR: 'it returns false'. Refute it at one input. -/
def fnExactHideContextWrong : ChangeSpec := { name := "fnExactHideContext", fn := fun _ => fun
  | [d1, d2, d3, d4] => { results := [.lit (.bool false)], args := [d1, d2, d3, d4] }
  | _ => none }
def FnExactHideContextWrongFalsely : Prop := fnExactHideContextRow.holds Try.pinned (OpenSpec.ofChange fnExactHideContextWrong)

/- THE SECOND FORM. 'bulk': how many values and letters a reading holds, each counted each time it is reached (what is shared counts as often as it is met; a slice's spare places count too). A statement '..UptoSaid' is the law's where the arguments, and the package variables that the reading takes, are together of bulk at most 1048576: NARROWER than '..Said'. Prove '..Said' where nothing that the law and all that it calls make is longer than what came in: it says more and counts as full. Else prove '..UptoSaid'. A law counts once. -/
mutual
def uptoBulk {H : Type} : DataW H → Nat
  | .lit (.string bytes) => bytes.length + 1
  | .lit _ => 1
  | .nil => 1
  | .ptr d => uptoBulk d + 1
  | .slice elems spare => uptoBulkAll elems + uptoBulkAll spare + 1
  | .agg parts => uptoBulkAll parts + 1
  | .iface _ d => uptoBulk d + 1
  | .map entries => uptoBulkEntries entries + 1
  | .held _ => 1
def uptoBulkAll {H : Type} : List (DataW H) → Nat
  | [] => 0
  | d :: r => uptoBulk d + uptoBulkAll r
def uptoBulkEntries {H : Type} : List (Lit × DataW H) → Nat
  | [] => 0
  | x :: r => uptoBulkEntry x + uptoBulkEntries r
def uptoBulkEntry {H : Type} : Lit × DataW H → Nat
  | (.string bytes, d) => bytes.length + uptoBulk d + 1
  | (_, d) => uptoBulk d + 1
 end
def uptoSmall : (H : Type) → List (DataW H) → Bool := fun _ ds => decide (uptoBulkAll ds ≤ 1048576)
def OpenSpec.upto (s : _root_.Go.ChangeSpec) : _root_.Go.OpenSpec := { _root_.Go.OpenSpec.ofChange s with cond := some uptoSmall }

/-- 'laws.FnExactTreeText', WHERE WHAT IT READS IS OF BULK AT MOST 1048576: true; the input reads as it did. -/
def fnExactTreeTextUptoRow : OpenClaim := { program := "ytlejfmhmpcimaab", sum := "c90ad8eda5bb4705c992f3f9ffbe0f8c30f3e476eb3c863fb8d25af129e92f7f", func := "loop.example/faultcleanup/laws.FnExactTreeText", spec := "fnExactTreeText", inPlace := ["internal/abi.NoEscape"], unfollowed := true, recurses := true, apart := false, narrowed := true }
def FnExactTreeTextUptoSaid : Prop := fnExactTreeTextUptoRow.holds Try.pinned (OpenSpec.upto fnExactTreeTextSpec)

/-- 'laws.FnExactParseTree', WHERE WHAT IT READS IS OF BULK AT MOST 1048576: true; the input reads as it did. -/
def fnExactParseTreeUptoRow : OpenClaim := { program := "ytlejfmhmpcimaab", sum := "c90ad8eda5bb4705c992f3f9ffbe0f8c30f3e476eb3c863fb8d25af129e92f7f", func := "loop.example/faultcleanup/laws.FnExactParseTree", spec := "fnExactParseTree", inPlace := ["internal/bytealg.IndexByteString", "internal/bytealg.IndexString", "internal/abi.NoEscape"], unfollowed := true, recurses := true, named := ["internal/bytealg.MaxLen"], apart := false, narrowed := true }
def FnExactParseTreeUptoSaid : Prop := fnExactParseTreeUptoRow.holds Try.pinned (OpenSpec.upto fnExactParseTreeSpec)

/-- 'laws.FnFirstCatch', WHERE WHAT IT READS IS OF BULK AT MOST 1048576: true; the input reads as it did. -/
def fnFirstCatchUptoRow : OpenClaim := { program := "ytlejfmhmpcimaab", sum := "c90ad8eda5bb4705c992f3f9ffbe0f8c30f3e476eb3c863fb8d25af129e92f7f", func := "loop.example/faultcleanup/laws.FnFirstCatch", spec := "fnFirstCatch", unfollowed := true, recurses := true, apart := false, narrowed := true }
def FnFirstCatchUptoSaid : Prop := fnFirstCatchUptoRow.holds Try.pinned (OpenSpec.upto fnFirstCatchSpec)

/-- 'laws.FnDeadCatches', WHERE WHAT IT READS IS OF BULK AT MOST 1048576: true; the input reads as it did. -/
def fnDeadCatchesUptoRow : OpenClaim := { program := "ytlejfmhmpcimaab", sum := "c90ad8eda5bb4705c992f3f9ffbe0f8c30f3e476eb3c863fb8d25af129e92f7f", func := "loop.example/faultcleanup/laws.FnDeadCatches", spec := "fnDeadCatches", unfollowed := true, recurses := true, apart := false, narrowed := true }
def FnDeadCatchesUptoSaid : Prop := fnDeadCatchesUptoRow.holds Try.pinned (OpenSpec.upto fnDeadCatchesSpec)

/-- 'laws.FnCaughtBy', WHERE WHAT IT READS IS OF BULK AT MOST 1048576: true; the input reads as it did. -/
def fnCaughtByUptoRow : OpenClaim := { program := "ytlejfmhmpcimaab", sum := "c90ad8eda5bb4705c992f3f9ffbe0f8c30f3e476eb3c863fb8d25af129e92f7f", func := "loop.example/faultcleanup/laws.FnCaughtBy", spec := "fnCaughtBy", unfollowed := true, recurses := true, apart := false, narrowed := true }
def FnCaughtByUptoSaid : Prop := fnCaughtByUptoRow.holds Try.pinned (OpenSpec.upto fnCaughtBySpec)

/-- 'laws.FnLeastCatches', WHERE WHAT IT READS IS OF BULK AT MOST 1048576: true; the input reads as it did. -/
def fnLeastCatchesUptoRow : OpenClaim := { program := "ytlejfmhmpcimaab", sum := "c90ad8eda5bb4705c992f3f9ffbe0f8c30f3e476eb3c863fb8d25af129e92f7f", func := "loop.example/faultcleanup/laws.FnLeastCatches", spec := "fnLeastCatches", unfollowed := true, recurses := true, apart := false, narrowed := true }
def FnLeastCatchesUptoSaid : Prop := fnLeastCatchesUptoRow.holds Try.pinned (OpenSpec.upto fnLeastCatchesSpec)

/-- 'laws.FnTreeText', WHERE WHAT IT READS IS OF BULK AT MOST 1048576: true; the input reads as it did. -/
def fnTreeTextUptoRow : OpenClaim := { program := "ytlejfmhmpcimaab", sum := "c90ad8eda5bb4705c992f3f9ffbe0f8c30f3e476eb3c863fb8d25af129e92f7f", func := "loop.example/faultcleanup/laws.FnTreeText", spec := "fnTreeText", inPlace := ["internal/abi.NoEscape", "internal/bytealg.IndexByteString", "internal/bytealg.IndexString"], unfollowed := true, recurses := true, named := ["internal/bytealg.MaxLen"], apart := false, narrowed := true }
def FnTreeTextUptoSaid : Prop := fnTreeTextUptoRow.holds Try.pinned (OpenSpec.upto fnTreeTextSpec)

/-- 'laws.FnParseTree', WHERE WHAT IT READS IS OF BULK AT MOST 1048576: true; the input reads as it did. -/
def fnParseTreeUptoRow : OpenClaim := { program := "ytlejfmhmpcimaab", sum := "c90ad8eda5bb4705c992f3f9ffbe0f8c30f3e476eb3c863fb8d25af129e92f7f", func := "loop.example/faultcleanup/laws.FnParseTree", spec := "fnParseTree", inPlace := ["internal/bytealg.IndexByteString", "internal/bytealg.IndexString", "internal/abi.NoEscape"], unfollowed := true, recurses := true, named := ["internal/bytealg.MaxLen"], apart := false, narrowed := true }
def FnParseTreeUptoSaid : Prop := fnParseTreeUptoRow.holds Try.pinned (OpenSpec.upto fnParseTreeSpec)

/-- 'laws.FnExactValidHeap', WHERE WHAT IT READS IS OF BULK AT MOST 1048576: true; the input reads as it did. -/
def fnExactValidHeapUptoRow : OpenClaim := { program := "ytlejfmhmpcimaab", sum := "c90ad8eda5bb4705c992f3f9ffbe0f8c30f3e476eb3c863fb8d25af129e92f7f", func := "loop.example/faultcleanup/laws.FnExactValidHeap", spec := "fnExactValidHeap", inPlace := ["internal/reflectlite.TypeOf"], unfollowed := true, recurses := true, apart := false, narrowed := true }
def FnExactValidHeapUptoSaid : Prop := fnExactValidHeapUptoRow.holds Try.pinned (OpenSpec.upto fnExactValidHeapSpec)

/-- 'laws.FnExactNewFault', WHERE WHAT IT READS IS OF BULK AT MOST 1048576: true; the input reads as it did. -/
def fnExactNewFaultUptoRow : OpenClaim := { program := "ytlejfmhmpcimaab", sum := "c90ad8eda5bb4705c992f3f9ffbe0f8c30f3e476eb3c863fb8d25af129e92f7f", func := "loop.example/faultcleanup/laws.FnExactNewFault", spec := "fnExactNewFault", inPlace := ["internal/reflectlite.TypeOf"], unfollowed := true, recurses := true, apart := false, narrowed := true }
def FnExactNewFaultUptoSaid : Prop := fnExactNewFaultUptoRow.holds Try.pinned (OpenSpec.upto fnExactNewFaultSpec)

/-- 'laws.FnExactSetCause', WHERE WHAT IT READS IS OF BULK AT MOST 1048576: true; the input reads as it did. -/
def fnExactSetCauseUptoRow : OpenClaim := { program := "ytlejfmhmpcimaab", sum := "c90ad8eda5bb4705c992f3f9ffbe0f8c30f3e476eb3c863fb8d25af129e92f7f", func := "loop.example/faultcleanup/laws.FnExactSetCause", spec := "fnExactSetCause", inPlace := ["internal/reflectlite.TypeOf"], unfollowed := true, recurses := true, apart := false, narrowed := true }
def FnExactSetCauseUptoSaid : Prop := fnExactSetCauseUptoRow.holds Try.pinned (OpenSpec.upto fnExactSetCauseSpec)

/-- 'laws.FnExactHideContext', WHERE WHAT IT READS IS OF BULK AT MOST 1048576: true; the input reads as it did. -/
def fnExactHideContextUptoRow : OpenClaim := { program := "ytlejfmhmpcimaab", sum := "c90ad8eda5bb4705c992f3f9ffbe0f8c30f3e476eb3c863fb8d25af129e92f7f", func := "loop.example/faultcleanup/laws.FnExactHideContext", spec := "fnExactHideContext", inPlace := ["internal/reflectlite.TypeOf"], unfollowed := true, recurses := true, apart := false, narrowed := true }
def FnExactHideContextUptoSaid : Prop := fnExactHideContextUptoRow.holds Try.pinned (OpenSpec.upto fnExactHideContextSpec)

end Rows
end Go.Proofs.Ytlejfmhmpcimaab
