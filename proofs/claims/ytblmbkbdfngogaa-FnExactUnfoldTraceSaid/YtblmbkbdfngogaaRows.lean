/-
  No cell of these rows narrows 'for every input' (looked for: loops, veiled, ifaces, maps, wideKeys, modest, calm, conditions, laid).
  DERIVED. THE GIVEN ROWS OF THIS SEAT. 11 by the template 'for every input the law returns true; each argument reads behind the call as it read before'; 0 by the template 'total and deterministic' (their statements: YtblmbkbdfngogaaTotals.lean).
  GIVEN WITH THE SEED: the statements are not yours to turn. If you find one false, say at which input.
  Laid BY PROGRAM, IN A SANDBOX (cutbox-rows.mjs): the forced cells as the released guide's own fill.sh prints them over the translation 668ffbe5a09cf32a… (all of the seat's roots in one cut). By AI agents, Wed Nov 11 2026. No macro, syntax, notation, axiom, sorry.
-/
import Derived.Test.YtblmbkbdfngogaaChecked
import GoSem.Claim
import GoSem.ClaimJoined
import GoSem.ClaimMapViews
import Derived.JoinedTies
import Derived.KernelRfl
namespace Go.Proofs.Ytblmbkbdfngogaa
/- THE CELL 'sum', in the pinned program and in every row, IS THE sha256 OF THE DUMP (.gsa) THAT YtblmbkbdfngogaaProg.lean LOADS. Nothing in Lean hashes anything: it is a label: what it is worth is what the hold of that sum in a sandbox is worth. -/
noncomputable def Try.pinned : Pinned := { name := "ytblmbkbdfngogaa", sum := "668ffbe5a09cf32a8e0d2b3e7ff0914f8c9c27058b9645bbfe6d35d9a04dd43b", checked := Try.checked }
namespace Rows
def none {H : Type} : Left H := { results := [], args := [] }

/-- 'laws.FnExactValidTrace': WHATEVER THE INPUT: true; the input reads as it did. -/
def fnExactValidTraceSpec : ChangeSpec := { name := "fnExactValidTrace", fn := fun _ => fun
  | [d] => { results := [.lit (.bool true)], args := [d] }
  | _ => none }
def fnExactValidTraceRow : OpenClaim := { program := "ytblmbkbdfngogaa", sum := "668ffbe5a09cf32a8e0d2b3e7ff0914f8c9c27058b9645bbfe6d35d9a04dd43b", func := "loop.example/faultcleanup/laws.FnExactValidTrace", spec := "fnExactValidTrace", apart := false }
def FnExactValidTraceSaid : Prop := fnExactValidTraceRow.holds Try.pinned (OpenSpec.ofChange fnExactValidTraceSpec)

/-- ITS FALSE NEIGHBOUR: 'it returns false'. Refute it at one input. -/
def fnExactValidTraceWrong : ChangeSpec := { name := "fnExactValidTrace", fn := fun _ => fun
  | [d] => { results := [.lit (.bool false)], args := [d] }
  | _ => none }
def FnExactValidTraceWrongFalsely : Prop := fnExactValidTraceRow.holds Try.pinned (OpenSpec.ofChange fnExactValidTraceWrong)

/-- 'laws.FnExactCallFrom': WHATEVER THE INPUT: true; the input reads as it did. -/
def fnExactCallFromSpec : ChangeSpec := { name := "fnExactCallFrom", fn := fun _ => fun
  | [d1, d2] => { results := [.lit (.bool true)], args := [d1, d2] }
  | _ => none }
def fnExactCallFromRow : OpenClaim := { program := "ytblmbkbdfngogaa", sum := "668ffbe5a09cf32a8e0d2b3e7ff0914f8c9c27058b9645bbfe6d35d9a04dd43b", func := "loop.example/faultcleanup/laws.FnExactCallFrom", spec := "fnExactCallFrom", apart := false }
def FnExactCallFromSaid : Prop := fnExactCallFromRow.holds Try.pinned (OpenSpec.ofChange fnExactCallFromSpec)

/-- ITS FALSE NEIGHBOUR: 'it returns false'. Refute it at one input. -/
def fnExactCallFromWrong : ChangeSpec := { name := "fnExactCallFrom", fn := fun _ => fun
  | [d1, d2] => { results := [.lit (.bool false)], args := [d1, d2] }
  | _ => none }
def FnExactCallFromWrongFalsely : Prop := fnExactCallFromRow.holds Try.pinned (OpenSpec.ofChange fnExactCallFromWrong)

/-- 'laws.FnExactTrimTrace': WHATEVER THE INPUT: true; the input reads as it did. -/
def fnExactTrimTraceSpec : ChangeSpec := { name := "fnExactTrimTrace", fn := fun _ => fun
  | [d1, d2] => { results := [.lit (.bool true)], args := [d1, d2] }
  | _ => none }
def fnExactTrimTraceRow : OpenClaim := { program := "ytblmbkbdfngogaa", sum := "668ffbe5a09cf32a8e0d2b3e7ff0914f8c9c27058b9645bbfe6d35d9a04dd43b", func := "loop.example/faultcleanup/laws.FnExactTrimTrace", spec := "fnExactTrimTrace", apart := false }
def FnExactTrimTraceSaid : Prop := fnExactTrimTraceRow.holds Try.pinned (OpenSpec.ofChange fnExactTrimTraceSpec)

/-- ITS FALSE NEIGHBOUR: 'it returns false'. Refute it at one input. -/
def fnExactTrimTraceWrong : ChangeSpec := { name := "fnExactTrimTrace", fn := fun _ => fun
  | [d1, d2] => { results := [.lit (.bool false)], args := [d1, d2] }
  | _ => none }
def FnExactTrimTraceWrongFalsely : Prop := fnExactTrimTraceRow.holds Try.pinned (OpenSpec.ofChange fnExactTrimTraceWrong)

/-- 'laws.FnExactHideFuncs': WHATEVER THE INPUT: true; the input reads as it did. -/
def fnExactHideFuncsSpec : ChangeSpec := { name := "fnExactHideFuncs", fn := fun _ => fun
  | [d1, d2] => { results := [.lit (.bool true)], args := [d1, d2] }
  | _ => none }
def fnExactHideFuncsRow : OpenClaim := { program := "ytblmbkbdfngogaa", sum := "668ffbe5a09cf32a8e0d2b3e7ff0914f8c9c27058b9645bbfe6d35d9a04dd43b", func := "loop.example/faultcleanup/laws.FnExactHideFuncs", spec := "fnExactHideFuncs", apart := false }
def FnExactHideFuncsSaid : Prop := fnExactHideFuncsRow.holds Try.pinned (OpenSpec.ofChange fnExactHideFuncsSpec)

/-- ITS FALSE NEIGHBOUR: 'it returns false'. Refute it at one input. -/
def fnExactHideFuncsWrong : ChangeSpec := { name := "fnExactHideFuncs", fn := fun _ => fun
  | [d1, d2] => { results := [.lit (.bool false)], args := [d1, d2] }
  | _ => none }
def FnExactHideFuncsWrongFalsely : Prop := fnExactHideFuncsRow.holds Try.pinned (OpenSpec.ofChange fnExactHideFuncsWrong)

/-- 'laws.FnExactFoldTrace': WHATEVER THE INPUT: true; the input reads as it did. -/
def fnExactFoldTraceSpec : ChangeSpec := { name := "fnExactFoldTrace", fn := fun _ => fun
  | [d] => { results := [.lit (.bool true)], args := [d] }
  | _ => none }
def fnExactFoldTraceRow : OpenClaim := { program := "ytblmbkbdfngogaa", sum := "668ffbe5a09cf32a8e0d2b3e7ff0914f8c9c27058b9645bbfe6d35d9a04dd43b", func := "loop.example/faultcleanup/laws.FnExactFoldTrace", spec := "fnExactFoldTrace", apart := false }
def FnExactFoldTraceSaid : Prop := fnExactFoldTraceRow.holds Try.pinned (OpenSpec.ofChange fnExactFoldTraceSpec)

/-- ITS FALSE NEIGHBOUR: 'it returns false'. Refute it at one input. -/
def fnExactFoldTraceWrong : ChangeSpec := { name := "fnExactFoldTrace", fn := fun _ => fun
  | [d] => { results := [.lit (.bool false)], args := [d] }
  | _ => none }
def FnExactFoldTraceWrongFalsely : Prop := fnExactFoldTraceRow.holds Try.pinned (OpenSpec.ofChange fnExactFoldTraceWrong)

/-- 'laws.FnExactUnfoldTrace': WHATEVER THE INPUT: true; the input reads as it did. -/
def fnExactUnfoldTraceSpec : ChangeSpec := { name := "fnExactUnfoldTrace", fn := fun _ => fun
  | [d] => { results := [.lit (.bool true)], args := [d] }
  | _ => none }
def fnExactUnfoldTraceRow : OpenClaim := { program := "ytblmbkbdfngogaa", sum := "668ffbe5a09cf32a8e0d2b3e7ff0914f8c9c27058b9645bbfe6d35d9a04dd43b", func := "loop.example/faultcleanup/laws.FnExactUnfoldTrace", spec := "fnExactUnfoldTrace", apart := false }
def FnExactUnfoldTraceSaid : Prop := fnExactUnfoldTraceRow.holds Try.pinned (OpenSpec.ofChange fnExactUnfoldTraceSpec)

/-- ITS FALSE NEIGHBOUR: 'it returns false'. Refute it at one input. -/
def fnExactUnfoldTraceWrong : ChangeSpec := { name := "fnExactUnfoldTrace", fn := fun _ => fun
  | [d] => { results := [.lit (.bool false)], args := [d] }
  | _ => none }
def FnExactUnfoldTraceWrongFalsely : Prop := fnExactUnfoldTraceRow.holds Try.pinned (OpenSpec.ofChange fnExactUnfoldTraceWrong)

/-- 'laws.FnExactCommonHead': WHATEVER THE INPUT: true; the input reads as it did. -/
def fnExactCommonHeadSpec : ChangeSpec := { name := "fnExactCommonHead", fn := fun _ => fun
  | [d1, d2] => { results := [.lit (.bool true)], args := [d1, d2] }
  | _ => none }
def fnExactCommonHeadRow : OpenClaim := { program := "ytblmbkbdfngogaa", sum := "668ffbe5a09cf32a8e0d2b3e7ff0914f8c9c27058b9645bbfe6d35d9a04dd43b", func := "loop.example/faultcleanup/laws.FnExactCommonHead", spec := "fnExactCommonHead", apart := false }
def FnExactCommonHeadSaid : Prop := fnExactCommonHeadRow.holds Try.pinned (OpenSpec.ofChange fnExactCommonHeadSpec)

/-- ITS FALSE NEIGHBOUR: 'it returns false'. Refute it at one input. -/
def fnExactCommonHeadWrong : ChangeSpec := { name := "fnExactCommonHead", fn := fun _ => fun
  | [d1, d2] => { results := [.lit (.bool false)], args := [d1, d2] }
  | _ => none }
def FnExactCommonHeadWrongFalsely : Prop := fnExactCommonHeadRow.holds Try.pinned (OpenSpec.ofChange fnExactCommonHeadWrong)

/-- 'laws.FnExactLessHead': WHATEVER THE INPUT: true; the input reads as it did. -/
def fnExactLessHeadSpec : ChangeSpec := { name := "fnExactLessHead", fn := fun _ => fun
  | [d1, d2] => { results := [.lit (.bool true)], args := [d1, d2] }
  | _ => none }
def fnExactLessHeadRow : OpenClaim := { program := "ytblmbkbdfngogaa", sum := "668ffbe5a09cf32a8e0d2b3e7ff0914f8c9c27058b9645bbfe6d35d9a04dd43b", func := "loop.example/faultcleanup/laws.FnExactLessHead", spec := "fnExactLessHead", apart := false }
def FnExactLessHeadSaid : Prop := fnExactLessHeadRow.holds Try.pinned (OpenSpec.ofChange fnExactLessHeadSpec)

/-- ITS FALSE NEIGHBOUR: 'it returns false'. Refute it at one input. -/
def fnExactLessHeadWrong : ChangeSpec := { name := "fnExactLessHead", fn := fun _ => fun
  | [d1, d2] => { results := [.lit (.bool false)], args := [d1, d2] }
  | _ => none }
def FnExactLessHeadWrongFalsely : Prop := fnExactLessHeadRow.holds Try.pinned (OpenSpec.ofChange fnExactLessHeadWrong)

/-- 'laws.FnExactWithHead': WHATEVER THE INPUT: true; the input reads as it did. -/
def fnExactWithHeadSpec : ChangeSpec := { name := "fnExactWithHead", fn := fun _ => fun
  | [d1, d2, d3] => { results := [.lit (.bool true)], args := [d1, d2, d3] }
  | _ => none }
def fnExactWithHeadRow : OpenClaim := { program := "ytblmbkbdfngogaa", sum := "668ffbe5a09cf32a8e0d2b3e7ff0914f8c9c27058b9645bbfe6d35d9a04dd43b", func := "loop.example/faultcleanup/laws.FnExactWithHead", spec := "fnExactWithHead", apart := false }
def FnExactWithHeadSaid : Prop := fnExactWithHeadRow.holds Try.pinned (OpenSpec.ofChange fnExactWithHeadSpec)

/-- ITS FALSE NEIGHBOUR: 'it returns false'. Refute it at one input. -/
def fnExactWithHeadWrong : ChangeSpec := { name := "fnExactWithHead", fn := fun _ => fun
  | [d1, d2, d3] => { results := [.lit (.bool false)], args := [d1, d2, d3] }
  | _ => none }
def FnExactWithHeadWrongFalsely : Prop := fnExactWithHeadRow.holds Try.pinned (OpenSpec.ofChange fnExactWithHeadWrong)

/-- 'laws.FnExactLinesOf': WHATEVER THE INPUT: true; the input reads as it did. -/
def fnExactLinesOfSpec : ChangeSpec := { name := "fnExactLinesOf", fn := fun _ => fun
  | [d1, d2] => { results := [.lit (.bool true)], args := [d1, d2] }
  | _ => none }
def fnExactLinesOfRow : OpenClaim := { program := "ytblmbkbdfngogaa", sum := "668ffbe5a09cf32a8e0d2b3e7ff0914f8c9c27058b9645bbfe6d35d9a04dd43b", func := "loop.example/faultcleanup/laws.FnExactLinesOf", spec := "fnExactLinesOf", apart := false }
def FnExactLinesOfSaid : Prop := fnExactLinesOfRow.holds Try.pinned (OpenSpec.ofChange fnExactLinesOfSpec)

/-- ITS FALSE NEIGHBOUR: 'it returns false'. Refute it at one input. -/
def fnExactLinesOfWrong : ChangeSpec := { name := "fnExactLinesOf", fn := fun _ => fun
  | [d1, d2] => { results := [.lit (.bool false)], args := [d1, d2] }
  | _ => none }
def FnExactLinesOfWrongFalsely : Prop := fnExactLinesOfRow.holds Try.pinned (OpenSpec.ofChange fnExactLinesOfWrong)

/-- 'laws.FnExactInnerTrace': WHATEVER THE INPUT: true; the input reads as it did. -/
def fnExactInnerTraceSpec : ChangeSpec := { name := "fnExactInnerTrace", fn := fun _ => fun
  | [d1, d2] => { results := [.lit (.bool true)], args := [d1, d2] }
  | _ => none }
def fnExactInnerTraceRow : OpenClaim := { program := "ytblmbkbdfngogaa", sum := "668ffbe5a09cf32a8e0d2b3e7ff0914f8c9c27058b9645bbfe6d35d9a04dd43b", func := "loop.example/faultcleanup/laws.FnExactInnerTrace", spec := "fnExactInnerTrace", apart := false }
def FnExactInnerTraceSaid : Prop := fnExactInnerTraceRow.holds Try.pinned (OpenSpec.ofChange fnExactInnerTraceSpec)

/-- ITS FALSE NEIGHBOUR: 'it returns false'. Refute it at one input. -/
def fnExactInnerTraceWrong : ChangeSpec := { name := "fnExactInnerTrace", fn := fun _ => fun
  | [d1, d2] => { results := [.lit (.bool false)], args := [d1, d2] }
  | _ => none }
def FnExactInnerTraceWrongFalsely : Prop := fnExactInnerTraceRow.holds Try.pinned (OpenSpec.ofChange fnExactInnerTraceWrong)

/- THE SECOND FORM. 'bulk': how many values and letters a reading holds, each counted each time it is reached (what is shared counts as often as it is met; a slice's spare places count too). A statement '..UptoSaid' is the law's where the arguments, and the package variables that the reading takes, are together of bulk at most 1048576: NARROWER than '..Said'. Prove '..Said' where nothing that the law and all that it calls make is longer than what came in: it says more and counts as full. Else prove '..UptoSaid'. A law counts once. -/
mutual
def uptoBulk {H : Type} : DataW H → Nat
  | .lit (.string bytes) => bytes.length + 1
  | .lit _ => 1
  | .nil => 1
  | .ptr d => uptoBulk d + 1
  | .slice elems spare => uptoBulkAll elems + uptoBulkAll spare + 1
  | .agg parts => uptoBulkAll parts + 1
  | .iface _ d => uptoBulk d + 1
  | .map entries => uptoBulkEntries entries + 1
  | .held _ => 1
def uptoBulkAll {H : Type} : List (DataW H) → Nat
  | [] => 0
  | d :: r => uptoBulk d + uptoBulkAll r
def uptoBulkEntries {H : Type} : List (Lit × DataW H) → Nat
  | [] => 0
  | x :: r => uptoBulkEntry x + uptoBulkEntries r
def uptoBulkEntry {H : Type} : Lit × DataW H → Nat
  | (.string bytes, d) => bytes.length + uptoBulk d + 1
  | (_, d) => uptoBulk d + 1
 end
def uptoSmall : (H : Type) → List (DataW H) → Bool := fun _ ds => decide (uptoBulkAll ds ≤ 1048576)
def OpenSpec.upto (s : _root_.Go.ChangeSpec) : _root_.Go.OpenSpec := { _root_.Go.OpenSpec.ofChange s with cond := some uptoSmall }

/-- 'laws.FnExactValidTrace', WHERE WHAT IT READS IS OF BULK AT MOST 1048576: true; the input reads as it did. -/
def fnExactValidTraceUptoRow : OpenClaim := { program := "ytblmbkbdfngogaa", sum := "668ffbe5a09cf32a8e0d2b3e7ff0914f8c9c27058b9645bbfe6d35d9a04dd43b", func := "loop.example/faultcleanup/laws.FnExactValidTrace", spec := "fnExactValidTrace", apart := false, narrowed := true }
def FnExactValidTraceUptoSaid : Prop := fnExactValidTraceUptoRow.holds Try.pinned (OpenSpec.upto fnExactValidTraceSpec)

/-- 'laws.FnExactCallFrom', WHERE WHAT IT READS IS OF BULK AT MOST 1048576: true; the input reads as it did. -/
def fnExactCallFromUptoRow : OpenClaim := { program := "ytblmbkbdfngogaa", sum := "668ffbe5a09cf32a8e0d2b3e7ff0914f8c9c27058b9645bbfe6d35d9a04dd43b", func := "loop.example/faultcleanup/laws.FnExactCallFrom", spec := "fnExactCallFrom", apart := false, narrowed := true }
def FnExactCallFromUptoSaid : Prop := fnExactCallFromUptoRow.holds Try.pinned (OpenSpec.upto fnExactCallFromSpec)

/-- 'laws.FnExactTrimTrace', WHERE WHAT IT READS IS OF BULK AT MOST 1048576: true; the input reads as it did. -/
def fnExactTrimTraceUptoRow : OpenClaim := { program := "ytblmbkbdfngogaa", sum := "668ffbe5a09cf32a8e0d2b3e7ff0914f8c9c27058b9645bbfe6d35d9a04dd43b", func := "loop.example/faultcleanup/laws.FnExactTrimTrace", spec := "fnExactTrimTrace", apart := false, narrowed := true }
def FnExactTrimTraceUptoSaid : Prop := fnExactTrimTraceUptoRow.holds Try.pinned (OpenSpec.upto fnExactTrimTraceSpec)

/-- 'laws.FnExactHideFuncs', WHERE WHAT IT READS IS OF BULK AT MOST 1048576: true; the input reads as it did. -/
def fnExactHideFuncsUptoRow : OpenClaim := { program := "ytblmbkbdfngogaa", sum := "668ffbe5a09cf32a8e0d2b3e7ff0914f8c9c27058b9645bbfe6d35d9a04dd43b", func := "loop.example/faultcleanup/laws.FnExactHideFuncs", spec := "fnExactHideFuncs", apart := false, narrowed := true }
def FnExactHideFuncsUptoSaid : Prop := fnExactHideFuncsUptoRow.holds Try.pinned (OpenSpec.upto fnExactHideFuncsSpec)

/-- 'laws.FnExactFoldTrace', WHERE WHAT IT READS IS OF BULK AT MOST 1048576: true; the input reads as it did. -/
def fnExactFoldTraceUptoRow : OpenClaim := { program := "ytblmbkbdfngogaa", sum := "668ffbe5a09cf32a8e0d2b3e7ff0914f8c9c27058b9645bbfe6d35d9a04dd43b", func := "loop.example/faultcleanup/laws.FnExactFoldTrace", spec := "fnExactFoldTrace", apart := false, narrowed := true }
def FnExactFoldTraceUptoSaid : Prop := fnExactFoldTraceUptoRow.holds Try.pinned (OpenSpec.upto fnExactFoldTraceSpec)

/-- 'laws.FnExactUnfoldTrace', WHERE WHAT IT READS IS OF BULK AT MOST 1048576: true; the input reads as it did. -/
def fnExactUnfoldTraceUptoRow : OpenClaim := { program := "ytblmbkbdfngogaa", sum := "668ffbe5a09cf32a8e0d2b3e7ff0914f8c9c27058b9645bbfe6d35d9a04dd43b", func := "loop.example/faultcleanup/laws.FnExactUnfoldTrace", spec := "fnExactUnfoldTrace", apart := false, narrowed := true }
def FnExactUnfoldTraceUptoSaid : Prop := fnExactUnfoldTraceUptoRow.holds Try.pinned (OpenSpec.upto fnExactUnfoldTraceSpec)

/-- 'laws.FnExactCommonHead', WHERE WHAT IT READS IS OF BULK AT MOST 1048576: true; the input reads as it did. -/
def fnExactCommonHeadUptoRow : OpenClaim := { program := "ytblmbkbdfngogaa", sum := "668ffbe5a09cf32a8e0d2b3e7ff0914f8c9c27058b9645bbfe6d35d9a04dd43b", func := "loop.example/faultcleanup/laws.FnExactCommonHead", spec := "fnExactCommonHead", apart := false, narrowed := true }
def FnExactCommonHeadUptoSaid : Prop := fnExactCommonHeadUptoRow.holds Try.pinned (OpenSpec.upto fnExactCommonHeadSpec)

/-- 'laws.FnExactLessHead', WHERE WHAT IT READS IS OF BULK AT MOST 1048576: true; the input reads as it did. -/
def fnExactLessHeadUptoRow : OpenClaim := { program := "ytblmbkbdfngogaa", sum := "668ffbe5a09cf32a8e0d2b3e7ff0914f8c9c27058b9645bbfe6d35d9a04dd43b", func := "loop.example/faultcleanup/laws.FnExactLessHead", spec := "fnExactLessHead", apart := false, narrowed := true }
def FnExactLessHeadUptoSaid : Prop := fnExactLessHeadUptoRow.holds Try.pinned (OpenSpec.upto fnExactLessHeadSpec)

/-- 'laws.FnExactWithHead', WHERE WHAT IT READS IS OF BULK AT MOST 1048576: true; the input reads as it did. -/
def fnExactWithHeadUptoRow : OpenClaim := { program := "ytblmbkbdfngogaa", sum := "668ffbe5a09cf32a8e0d2b3e7ff0914f8c9c27058b9645bbfe6d35d9a04dd43b", func := "loop.example/faultcleanup/laws.FnExactWithHead", spec := "fnExactWithHead", apart := false, narrowed := true }
def FnExactWithHeadUptoSaid : Prop := fnExactWithHeadUptoRow.holds Try.pinned (OpenSpec.upto fnExactWithHeadSpec)

/-- 'laws.FnExactLinesOf', WHERE WHAT IT READS IS OF BULK AT MOST 1048576: true; the input reads as it did. -/
def fnExactLinesOfUptoRow : OpenClaim := { program := "ytblmbkbdfngogaa", sum := "668ffbe5a09cf32a8e0d2b3e7ff0914f8c9c27058b9645bbfe6d35d9a04dd43b", func := "loop.example/faultcleanup/laws.FnExactLinesOf", spec := "fnExactLinesOf", apart := false, narrowed := true }
def FnExactLinesOfUptoSaid : Prop := fnExactLinesOfUptoRow.holds Try.pinned (OpenSpec.upto fnExactLinesOfSpec)

/-- 'laws.FnExactInnerTrace', WHERE WHAT IT READS IS OF BULK AT MOST 1048576: true; the input reads as it did. -/
def fnExactInnerTraceUptoRow : OpenClaim := { program := "ytblmbkbdfngogaa", sum := "668ffbe5a09cf32a8e0d2b3e7ff0914f8c9c27058b9645bbfe6d35d9a04dd43b", func := "loop.example/faultcleanup/laws.FnExactInnerTrace", spec := "fnExactInnerTrace", apart := false, narrowed := true }
def FnExactInnerTraceUptoSaid : Prop := fnExactInnerTraceUptoRow.holds Try.pinned (OpenSpec.upto fnExactInnerTraceSpec)

end Rows
end Go.Proofs.Ytblmbkbdfngogaa
