/-
  No cell of these rows narrows 'for every input' (looked for: loops, veiled, ifaces, maps, wideKeys, modest, calm, conditions, laid).
  DERIVED. THE GIVEN ROWS OF THIS SEAT. 12 by the template 'for every input the law returns true; each argument reads behind the call as it read before'; 0 by the template 'total and deterministic' (their statements: YtakkmgeocmndjaaTotals.lean).
  GIVEN WITH THE SEED: the statements are not yours to turn. If you find one false, say at which input.
  Laid BY PROGRAM, IN A SANDBOX (cutbox-rows.mjs): the forced cells as the released guide's own fill.sh prints them over the translation 057272f37210754e… (all of the seat's roots in one cut). By AI agents, Wed Nov 11 2026. No macro, syntax, notation, axiom, sorry.
-/
import Derived.Test.YtakkmgeocmndjaaChecked
import GoSem.Claim
import GoSem.ClaimJoined
import GoSem.ClaimMapViews
import Derived.JoinedTies
import Derived.KernelRfl
namespace Go.Proofs.Ytakkmgeocmndjaa
/- THE CELL 'sum', in the pinned program and in every row, IS THE sha256 OF THE DUMP (.gsa) THAT YtakkmgeocmndjaaProg.lean LOADS. Nothing in Lean hashes anything: it is a label: what it is worth is what the hold of that sum in a sandbox is worth. -/
noncomputable def Try.pinned : Pinned := { name := "ytakkmgeocmndjaa", sum := "057272f37210754ee76cef6ab01fcd5fc6dfb82d18e7f9996df7675c60f1f46c", checked := Try.checked }
namespace Rows
def none {H : Type} : Left H := { results := [], args := [] }

/-- 'laws.FnValidTrace': WHATEVER THE INPUT: true; the input reads as it did. -/
def fnValidTraceSpec : ChangeSpec := { name := "fnValidTrace", fn := fun _ => fun
  | [d] => { results := [.lit (.bool true)], args := [d] }
  | _ => none }
def fnValidTraceRow : OpenClaim := { program := "ytakkmgeocmndjaa", sum := "057272f37210754ee76cef6ab01fcd5fc6dfb82d18e7f9996df7675c60f1f46c", func := "loop.example/faultcleanup/laws.FnValidTrace", spec := "fnValidTrace", apart := false }
def FnValidTraceSaid : Prop := fnValidTraceRow.holds Try.pinned (OpenSpec.ofChange fnValidTraceSpec)

/-- ITS FALSE NEIGHBOUR: 'it returns false'. Refute it at one input. -/
def fnValidTraceWrong : ChangeSpec := { name := "fnValidTrace", fn := fun _ => fun
  | [d] => { results := [.lit (.bool false)], args := [d] }
  | _ => none }
def FnValidTraceWrongFalsely : Prop := fnValidTraceRow.holds Try.pinned (OpenSpec.ofChange fnValidTraceWrong)

/-- 'laws.FnCallFrom': WHATEVER THE INPUT: true; the input reads as it did. -/
def fnCallFromSpec : ChangeSpec := { name := "fnCallFrom", fn := fun _ => fun
  | [d] => { results := [.lit (.bool true)], args := [d] }
  | _ => none }
def fnCallFromRow : OpenClaim := { program := "ytakkmgeocmndjaa", sum := "057272f37210754ee76cef6ab01fcd5fc6dfb82d18e7f9996df7675c60f1f46c", func := "loop.example/faultcleanup/laws.FnCallFrom", spec := "fnCallFrom", apart := false }
def FnCallFromSaid : Prop := fnCallFromRow.holds Try.pinned (OpenSpec.ofChange fnCallFromSpec)

/-- ITS FALSE NEIGHBOUR: 'it returns false'. Refute it at one input. -/
def fnCallFromWrong : ChangeSpec := { name := "fnCallFrom", fn := fun _ => fun
  | [d] => { results := [.lit (.bool false)], args := [d] }
  | _ => none }
def FnCallFromWrongFalsely : Prop := fnCallFromRow.holds Try.pinned (OpenSpec.ofChange fnCallFromWrong)

/-- 'laws.FnTrimTrace': WHATEVER THE INPUT: true; the input reads as it did. -/
def fnTrimTraceSpec : ChangeSpec := { name := "fnTrimTrace", fn := fun _ => fun
  | [d] => { results := [.lit (.bool true)], args := [d] }
  | _ => none }
def fnTrimTraceRow : OpenClaim := { program := "ytakkmgeocmndjaa", sum := "057272f37210754ee76cef6ab01fcd5fc6dfb82d18e7f9996df7675c60f1f46c", func := "loop.example/faultcleanup/laws.FnTrimTrace", spec := "fnTrimTrace", apart := false }
def FnTrimTraceSaid : Prop := fnTrimTraceRow.holds Try.pinned (OpenSpec.ofChange fnTrimTraceSpec)

/-- ITS FALSE NEIGHBOUR: 'it returns false'. Refute it at one input. -/
def fnTrimTraceWrong : ChangeSpec := { name := "fnTrimTrace", fn := fun _ => fun
  | [d] => { results := [.lit (.bool false)], args := [d] }
  | _ => none }
def FnTrimTraceWrongFalsely : Prop := fnTrimTraceRow.holds Try.pinned (OpenSpec.ofChange fnTrimTraceWrong)

/-- 'laws.FnHideFuncs': WHATEVER THE INPUT: true; the input reads as it did. -/
def fnHideFuncsSpec : ChangeSpec := { name := "fnHideFuncs", fn := fun _ => fun
  | [d] => { results := [.lit (.bool true)], args := [d] }
  | _ => none }
def fnHideFuncsRow : OpenClaim := { program := "ytakkmgeocmndjaa", sum := "057272f37210754ee76cef6ab01fcd5fc6dfb82d18e7f9996df7675c60f1f46c", func := "loop.example/faultcleanup/laws.FnHideFuncs", spec := "fnHideFuncs", apart := false }
def FnHideFuncsSaid : Prop := fnHideFuncsRow.holds Try.pinned (OpenSpec.ofChange fnHideFuncsSpec)

/-- ITS FALSE NEIGHBOUR: 'it returns false'. Refute it at one input. -/
def fnHideFuncsWrong : ChangeSpec := { name := "fnHideFuncs", fn := fun _ => fun
  | [d] => { results := [.lit (.bool false)], args := [d] }
  | _ => none }
def FnHideFuncsWrongFalsely : Prop := fnHideFuncsRow.holds Try.pinned (OpenSpec.ofChange fnHideFuncsWrong)

/-- 'laws.FnFoldTrace': WHATEVER THE INPUT: true; the input reads as it did. -/
def fnFoldTraceSpec : ChangeSpec := { name := "fnFoldTrace", fn := fun _ => fun
  | [d] => { results := [.lit (.bool true)], args := [d] }
  | _ => none }
def fnFoldTraceRow : OpenClaim := { program := "ytakkmgeocmndjaa", sum := "057272f37210754ee76cef6ab01fcd5fc6dfb82d18e7f9996df7675c60f1f46c", func := "loop.example/faultcleanup/laws.FnFoldTrace", spec := "fnFoldTrace", apart := false }
def FnFoldTraceSaid : Prop := fnFoldTraceRow.holds Try.pinned (OpenSpec.ofChange fnFoldTraceSpec)

/-- ITS FALSE NEIGHBOUR: 'it returns false'. Refute it at one input. -/
def fnFoldTraceWrong : ChangeSpec := { name := "fnFoldTrace", fn := fun _ => fun
  | [d] => { results := [.lit (.bool false)], args := [d] }
  | _ => none }
def FnFoldTraceWrongFalsely : Prop := fnFoldTraceRow.holds Try.pinned (OpenSpec.ofChange fnFoldTraceWrong)

/-- 'laws.FnUnfoldTrace': WHATEVER THE INPUT: true; the input reads as it did. -/
def fnUnfoldTraceSpec : ChangeSpec := { name := "fnUnfoldTrace", fn := fun _ => fun
  | [d] => { results := [.lit (.bool true)], args := [d] }
  | _ => none }
def fnUnfoldTraceRow : OpenClaim := { program := "ytakkmgeocmndjaa", sum := "057272f37210754ee76cef6ab01fcd5fc6dfb82d18e7f9996df7675c60f1f46c", func := "loop.example/faultcleanup/laws.FnUnfoldTrace", spec := "fnUnfoldTrace", apart := false }
def FnUnfoldTraceSaid : Prop := fnUnfoldTraceRow.holds Try.pinned (OpenSpec.ofChange fnUnfoldTraceSpec)

/-- ITS FALSE NEIGHBOUR: 'it returns false'. Refute it at one input. -/
def fnUnfoldTraceWrong : ChangeSpec := { name := "fnUnfoldTrace", fn := fun _ => fun
  | [d] => { results := [.lit (.bool false)], args := [d] }
  | _ => none }
def FnUnfoldTraceWrongFalsely : Prop := fnUnfoldTraceRow.holds Try.pinned (OpenSpec.ofChange fnUnfoldTraceWrong)

/-- 'laws.FnCommonHead': WHATEVER THE INPUT: true; the input reads as it did. -/
def fnCommonHeadSpec : ChangeSpec := { name := "fnCommonHead", fn := fun _ => fun
  | [d] => { results := [.lit (.bool true)], args := [d] }
  | _ => none }
def fnCommonHeadRow : OpenClaim := { program := "ytakkmgeocmndjaa", sum := "057272f37210754ee76cef6ab01fcd5fc6dfb82d18e7f9996df7675c60f1f46c", func := "loop.example/faultcleanup/laws.FnCommonHead", spec := "fnCommonHead", apart := false }
def FnCommonHeadSaid : Prop := fnCommonHeadRow.holds Try.pinned (OpenSpec.ofChange fnCommonHeadSpec)

/-- ITS FALSE NEIGHBOUR: 'it returns false'. Refute it at one input. -/
def fnCommonHeadWrong : ChangeSpec := { name := "fnCommonHead", fn := fun _ => fun
  | [d] => { results := [.lit (.bool false)], args := [d] }
  | _ => none }
def FnCommonHeadWrongFalsely : Prop := fnCommonHeadRow.holds Try.pinned (OpenSpec.ofChange fnCommonHeadWrong)

/-- 'laws.FnLessHead': WHATEVER THE INPUT: true; the input reads as it did. -/
def fnLessHeadSpec : ChangeSpec := { name := "fnLessHead", fn := fun _ => fun
  | [d] => { results := [.lit (.bool true)], args := [d] }
  | _ => none }
def fnLessHeadRow : OpenClaim := { program := "ytakkmgeocmndjaa", sum := "057272f37210754ee76cef6ab01fcd5fc6dfb82d18e7f9996df7675c60f1f46c", func := "loop.example/faultcleanup/laws.FnLessHead", spec := "fnLessHead", apart := false }
def FnLessHeadSaid : Prop := fnLessHeadRow.holds Try.pinned (OpenSpec.ofChange fnLessHeadSpec)

/-- ITS FALSE NEIGHBOUR: 'it returns false'. Refute it at one input. -/
def fnLessHeadWrong : ChangeSpec := { name := "fnLessHead", fn := fun _ => fun
  | [d] => { results := [.lit (.bool false)], args := [d] }
  | _ => none }
def FnLessHeadWrongFalsely : Prop := fnLessHeadRow.holds Try.pinned (OpenSpec.ofChange fnLessHeadWrong)

/-- 'laws.FnWithHead': WHATEVER THE INPUT: true; the input reads as it did. -/
def fnWithHeadSpec : ChangeSpec := { name := "fnWithHead", fn := fun _ => fun
  | [d] => { results := [.lit (.bool true)], args := [d] }
  | _ => none }
def fnWithHeadRow : OpenClaim := { program := "ytakkmgeocmndjaa", sum := "057272f37210754ee76cef6ab01fcd5fc6dfb82d18e7f9996df7675c60f1f46c", func := "loop.example/faultcleanup/laws.FnWithHead", spec := "fnWithHead", apart := false }
def FnWithHeadSaid : Prop := fnWithHeadRow.holds Try.pinned (OpenSpec.ofChange fnWithHeadSpec)

/-- ITS FALSE NEIGHBOUR: 'it returns false'. Refute it at one input. -/
def fnWithHeadWrong : ChangeSpec := { name := "fnWithHead", fn := fun _ => fun
  | [d] => { results := [.lit (.bool false)], args := [d] }
  | _ => none }
def FnWithHeadWrongFalsely : Prop := fnWithHeadRow.holds Try.pinned (OpenSpec.ofChange fnWithHeadWrong)

/-- 'laws.FnLinesOf': WHATEVER THE INPUT: true; the input reads as it did. -/
def fnLinesOfSpec : ChangeSpec := { name := "fnLinesOf", fn := fun _ => fun
  | [d] => { results := [.lit (.bool true)], args := [d] }
  | _ => none }
def fnLinesOfRow : OpenClaim := { program := "ytakkmgeocmndjaa", sum := "057272f37210754ee76cef6ab01fcd5fc6dfb82d18e7f9996df7675c60f1f46c", func := "loop.example/faultcleanup/laws.FnLinesOf", spec := "fnLinesOf", apart := false }
def FnLinesOfSaid : Prop := fnLinesOfRow.holds Try.pinned (OpenSpec.ofChange fnLinesOfSpec)

/-- ITS FALSE NEIGHBOUR: 'it returns false'. Refute it at one input. -/
def fnLinesOfWrong : ChangeSpec := { name := "fnLinesOf", fn := fun _ => fun
  | [d] => { results := [.lit (.bool false)], args := [d] }
  | _ => none }
def FnLinesOfWrongFalsely : Prop := fnLinesOfRow.holds Try.pinned (OpenSpec.ofChange fnLinesOfWrong)

/-- 'laws.FnInnerTrace': WHATEVER THE INPUT: true; the input reads as it did. -/
def fnInnerTraceSpec : ChangeSpec := { name := "fnInnerTrace", fn := fun _ => fun
  | [d] => { results := [.lit (.bool true)], args := [d] }
  | _ => none }
def fnInnerTraceRow : OpenClaim := { program := "ytakkmgeocmndjaa", sum := "057272f37210754ee76cef6ab01fcd5fc6dfb82d18e7f9996df7675c60f1f46c", func := "loop.example/faultcleanup/laws.FnInnerTrace", spec := "fnInnerTrace", apart := false }
def FnInnerTraceSaid : Prop := fnInnerTraceRow.holds Try.pinned (OpenSpec.ofChange fnInnerTraceSpec)

/-- ITS FALSE NEIGHBOUR: 'it returns false'. Refute it at one input. -/
def fnInnerTraceWrong : ChangeSpec := { name := "fnInnerTrace", fn := fun _ => fun
  | [d] => { results := [.lit (.bool false)], args := [d] }
  | _ => none }
def FnInnerTraceWrongFalsely : Prop := fnInnerTraceRow.holds Try.pinned (OpenSpec.ofChange fnInnerTraceWrong)

/-- 'laws.FnLessHeadSame': WHATEVER THE INPUT: true; the input reads as it did. -/
def fnLessHeadSameSpec : ChangeSpec := { name := "fnLessHeadSame", fn := fun _ => fun
  | [d] => { results := [.lit (.bool true)], args := [d] }
  | _ => none }
def fnLessHeadSameRow : OpenClaim := { program := "ytakkmgeocmndjaa", sum := "057272f37210754ee76cef6ab01fcd5fc6dfb82d18e7f9996df7675c60f1f46c", func := "loop.example/faultcleanup/laws.FnLessHeadSame", spec := "fnLessHeadSame", apart := false }
def FnLessHeadSameSaid : Prop := fnLessHeadSameRow.holds Try.pinned (OpenSpec.ofChange fnLessHeadSameSpec)

/-- ITS FALSE NEIGHBOUR: 'it returns false'. Refute it at one input. -/
def fnLessHeadSameWrong : ChangeSpec := { name := "fnLessHeadSame", fn := fun _ => fun
  | [d] => { results := [.lit (.bool false)], args := [d] }
  | _ => none }
def FnLessHeadSameWrongFalsely : Prop := fnLessHeadSameRow.holds Try.pinned (OpenSpec.ofChange fnLessHeadSameWrong)

/- THE SECOND FORM. 'bulk': how many values and letters a reading holds, each counted each time it is reached (what is shared counts as often as it is met; a slice's spare places count too). A statement '..UptoSaid' is the law's where the arguments, and the package variables that the reading takes, are together of bulk at most 1048576: NARROWER than '..Said'. Prove '..Said' where nothing that the law and all that it calls make is longer than what came in: it says more and counts as full. Else prove '..UptoSaid'. A law counts once. -/
mutual
def uptoBulk {H : Type} : DataW H → Nat
  | .lit (.string bytes) => bytes.length + 1
  | .lit _ => 1
  | .nil => 1
  | .ptr d => uptoBulk d + 1
  | .slice elems spare => uptoBulkAll elems + uptoBulkAll spare + 1
  | .agg parts => uptoBulkAll parts + 1
  | .iface _ d => uptoBulk d + 1
  | .map entries => uptoBulkEntries entries + 1
  | .held _ => 1
def uptoBulkAll {H : Type} : List (DataW H) → Nat
  | [] => 0
  | d :: r => uptoBulk d + uptoBulkAll r
def uptoBulkEntries {H : Type} : List (Lit × DataW H) → Nat
  | [] => 0
  | x :: r => uptoBulkEntry x + uptoBulkEntries r
def uptoBulkEntry {H : Type} : Lit × DataW H → Nat
  | (.string bytes, d) => bytes.length + uptoBulk d + 1
  | (_, d) => uptoBulk d + 1
 end
def uptoSmall : (H : Type) → List (DataW H) → Bool := fun _ ds => decide (uptoBulkAll ds ≤ 1048576)
def OpenSpec.upto (s : _root_.Go.ChangeSpec) : _root_.Go.OpenSpec := { _root_.Go.OpenSpec.ofChange s with cond := some uptoSmall }

/-- 'laws.FnValidTrace', WHERE WHAT IT READS IS OF BULK AT MOST 1048576: true; the input reads as it did. -/
def fnValidTraceUptoRow : OpenClaim := { program := "ytakkmgeocmndjaa", sum := "057272f37210754ee76cef6ab01fcd5fc6dfb82d18e7f9996df7675c60f1f46c", func := "loop.example/faultcleanup/laws.FnValidTrace", spec := "fnValidTrace", apart := false, narrowed := true }
def FnValidTraceUptoSaid : Prop := fnValidTraceUptoRow.holds Try.pinned (OpenSpec.upto fnValidTraceSpec)

/-- 'laws.FnCallFrom', WHERE WHAT IT READS IS OF BULK AT MOST 1048576: true; the input reads as it did. -/
def fnCallFromUptoRow : OpenClaim := { program := "ytakkmgeocmndjaa", sum := "057272f37210754ee76cef6ab01fcd5fc6dfb82d18e7f9996df7675c60f1f46c", func := "loop.example/faultcleanup/laws.FnCallFrom", spec := "fnCallFrom", apart := false, narrowed := true }
def FnCallFromUptoSaid : Prop := fnCallFromUptoRow.holds Try.pinned (OpenSpec.upto fnCallFromSpec)

/-- 'laws.FnTrimTrace', WHERE WHAT IT READS IS OF BULK AT MOST 1048576: true; the input reads as it did. -/
def fnTrimTraceUptoRow : OpenClaim := { program := "ytakkmgeocmndjaa", sum := "057272f37210754ee76cef6ab01fcd5fc6dfb82d18e7f9996df7675c60f1f46c", func := "loop.example/faultcleanup/laws.FnTrimTrace", spec := "fnTrimTrace", apart := false, narrowed := true }
def FnTrimTraceUptoSaid : Prop := fnTrimTraceUptoRow.holds Try.pinned (OpenSpec.upto fnTrimTraceSpec)

/-- 'laws.FnHideFuncs', WHERE WHAT IT READS IS OF BULK AT MOST 1048576: true; the input reads as it did. -/
def fnHideFuncsUptoRow : OpenClaim := { program := "ytakkmgeocmndjaa", sum := "057272f37210754ee76cef6ab01fcd5fc6dfb82d18e7f9996df7675c60f1f46c", func := "loop.example/faultcleanup/laws.FnHideFuncs", spec := "fnHideFuncs", apart := false, narrowed := true }
def FnHideFuncsUptoSaid : Prop := fnHideFuncsUptoRow.holds Try.pinned (OpenSpec.upto fnHideFuncsSpec)

/-- 'laws.FnFoldTrace', WHERE WHAT IT READS IS OF BULK AT MOST 1048576: true; the input reads as it did. -/
def fnFoldTraceUptoRow : OpenClaim := { program := "ytakkmgeocmndjaa", sum := "057272f37210754ee76cef6ab01fcd5fc6dfb82d18e7f9996df7675c60f1f46c", func := "loop.example/faultcleanup/laws.FnFoldTrace", spec := "fnFoldTrace", apart := false, narrowed := true }
def FnFoldTraceUptoSaid : Prop := fnFoldTraceUptoRow.holds Try.pinned (OpenSpec.upto fnFoldTraceSpec)

/-- 'laws.FnUnfoldTrace', WHERE WHAT IT READS IS OF BULK AT MOST 1048576: true; the input reads as it did. -/
def fnUnfoldTraceUptoRow : OpenClaim := { program := "ytakkmgeocmndjaa", sum := "057272f37210754ee76cef6ab01fcd5fc6dfb82d18e7f9996df7675c60f1f46c", func := "loop.example/faultcleanup/laws.FnUnfoldTrace", spec := "fnUnfoldTrace", apart := false, narrowed := true }
def FnUnfoldTraceUptoSaid : Prop := fnUnfoldTraceUptoRow.holds Try.pinned (OpenSpec.upto fnUnfoldTraceSpec)

/-- 'laws.FnCommonHead', WHERE WHAT IT READS IS OF BULK AT MOST 1048576: true; the input reads as it did. -/
def fnCommonHeadUptoRow : OpenClaim := { program := "ytakkmgeocmndjaa", sum := "057272f37210754ee76cef6ab01fcd5fc6dfb82d18e7f9996df7675c60f1f46c", func := "loop.example/faultcleanup/laws.FnCommonHead", spec := "fnCommonHead", apart := false, narrowed := true }
def FnCommonHeadUptoSaid : Prop := fnCommonHeadUptoRow.holds Try.pinned (OpenSpec.upto fnCommonHeadSpec)

/-- 'laws.FnLessHead', WHERE WHAT IT READS IS OF BULK AT MOST 1048576: true; the input reads as it did. -/
def fnLessHeadUptoRow : OpenClaim := { program := "ytakkmgeocmndjaa", sum := "057272f37210754ee76cef6ab01fcd5fc6dfb82d18e7f9996df7675c60f1f46c", func := "loop.example/faultcleanup/laws.FnLessHead", spec := "fnLessHead", apart := false, narrowed := true }
def FnLessHeadUptoSaid : Prop := fnLessHeadUptoRow.holds Try.pinned (OpenSpec.upto fnLessHeadSpec)

/-- 'laws.FnWithHead', WHERE WHAT IT READS IS OF BULK AT MOST 1048576: true; the input reads as it did. -/
def fnWithHeadUptoRow : OpenClaim := { program := "ytakkmgeocmndjaa", sum := "057272f37210754ee76cef6ab01fcd5fc6dfb82d18e7f9996df7675c60f1f46c", func := "loop.example/faultcleanup/laws.FnWithHead", spec := "fnWithHead", apart := false, narrowed := true }
def FnWithHeadUptoSaid : Prop := fnWithHeadUptoRow.holds Try.pinned (OpenSpec.upto fnWithHeadSpec)

/-- 'laws.FnLinesOf', WHERE WHAT IT READS IS OF BULK AT MOST 1048576: true; the input reads as it did. -/
def fnLinesOfUptoRow : OpenClaim := { program := "ytakkmgeocmndjaa", sum := "057272f37210754ee76cef6ab01fcd5fc6dfb82d18e7f9996df7675c60f1f46c", func := "loop.example/faultcleanup/laws.FnLinesOf", spec := "fnLinesOf", apart := false, narrowed := true }
def FnLinesOfUptoSaid : Prop := fnLinesOfUptoRow.holds Try.pinned (OpenSpec.upto fnLinesOfSpec)

/-- 'laws.FnInnerTrace', WHERE WHAT IT READS IS OF BULK AT MOST 1048576: true; the input reads as it did. -/
def fnInnerTraceUptoRow : OpenClaim := { program := "ytakkmgeocmndjaa", sum := "057272f37210754ee76cef6ab01fcd5fc6dfb82d18e7f9996df7675c60f1f46c", func := "loop.example/faultcleanup/laws.FnInnerTrace", spec := "fnInnerTrace", apart := false, narrowed := true }
def FnInnerTraceUptoSaid : Prop := fnInnerTraceUptoRow.holds Try.pinned (OpenSpec.upto fnInnerTraceSpec)

/-- 'laws.FnLessHeadSame', WHERE WHAT IT READS IS OF BULK AT MOST 1048576: true; the input reads as it did. -/
def fnLessHeadSameUptoRow : OpenClaim := { program := "ytakkmgeocmndjaa", sum := "057272f37210754ee76cef6ab01fcd5fc6dfb82d18e7f9996df7675c60f1f46c", func := "loop.example/faultcleanup/laws.FnLessHeadSame", spec := "fnLessHeadSame", apart := false, narrowed := true }
def FnLessHeadSameUptoSaid : Prop := fnLessHeadSameUptoRow.holds Try.pinned (OpenSpec.upto fnLessHeadSameSpec)

end Rows
end Go.Proofs.Ytakkmgeocmndjaa
