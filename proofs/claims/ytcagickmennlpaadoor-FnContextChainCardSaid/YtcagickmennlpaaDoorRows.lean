/-
  NARROWER THAN 'FOR EVERY INPUT', by the rows' own cells (each row's printed sentence says how): FnValidHeap: laid · FnNewFault: laid · FnRaiseWhile: laid · FnRaiseWhileChain: laid · FnSetCause: laid · FnShownChain: laid · FnContextChain: laid.
  DERIVED. THE GIVEN ROWS OF THIS SEAT. 7 by the template 'for every input the law returns true; each argument reads behind the call as it read before'; 0 by the template 'total and deterministic' (their statements: YtcagickmennlpaaDoorTotals.lean).
  GIVEN WITH THE SEED: the statements are not yours to turn. If you find one false, say at which input.
  Laid BY PROGRAM, IN A SANDBOX (cutbox-rows.mjs): the forced cells as the released guide's own fill.sh prints them over the translation 7e68df4ceae7c671… (all of the seat's roots in one cut). By AI agents, Wed Nov 11 2026. No macro, syntax, notation, axiom, sorry.
-/
import Derived.Test.YtcagickmennlpaaDoorChecked
import GoSem.Claim
import GoSem.ClaimJoined
import GoSem.ClaimMapViews
import Derived.JoinedTies
import Derived.KernelRfl
namespace Go.Proofs.YtcagickmennlpaaDoor
/- THE CELL 'sum', in the pinned program and in every row, IS THE sha256 OF THE DUMP (.gsa) THAT YtcagickmennlpaaDoorProg.lean LOADS. Nothing in Lean hashes anything: it is a label: what it is worth is what the hold of that sum in a sandbox is worth. -/
noncomputable def Tryd.pinned : Pinned := { name := "ytcagickmennlpaadoor", sum := "7e68df4ceae7c67133b340dffecae6969a286da03579aba90cdd6c6b254fb8ed", checked := Tryd.checked }
namespace Rows
def none {H : Type} : Left H := { results := [], args := [] }

/- WHAT THE LISTED PACKAGE-LEVEL VARIABLES READ AS WHEN THE CALL BEGINS. Each datum BY PROGRAM (the guide's laid-datum.mjs) off the statement by which the dump's own 'gosem.cut.vars' lays the variable. In a bare row this is a premise. The card (YtcagickmennlpaaDoorCards.lean) ties it to the program's text. -/
def laid_errors_errorType {H : Type} : DataW H := .iface "internal/reflectlite.rtype" (.agg [.ptr (.lit (.string [101, 114, 114, 111, 114]))])

/-- 'laws.FnValidHeap': WHATEVER THE INPUT: true; the input reads as it did. -/
def fnValidHeapSpec : ChangeSpec := { name := "fnValidHeap", fn := fun _ => fun
  | [d] => { results := [.lit (.bool true)], args := [d] }
  | _ => none }
def fnValidHeapRow : OpenClaim := { program := "ytcagickmennlpaadoor", sum := "7e68df4ceae7c67133b340dffecae6969a286da03579aba90cdd6c6b254fb8ed", func := "loop.example/faultcleanup/laws.FnValidHeap", spec := "fnValidHeap", inPlace := ["internal/reflectlite.TypeOf", "internal/reflectlite.ValueOf", "(internal/reflectlite.Value).Type", "(internal/reflectlite.Value).IsNil", "(internal/reflectlite.Value).Elem", "(internal/reflectlite.Value).Set"], unfollowed := true, recurses := true, named := ["errors.errorType"], apart := false, laid := [("errors.errorType", laid_errors_errorType)] }
def FnValidHeapSaid : Prop := fnValidHeapRow.holds Tryd.pinned (OpenSpec.ofChange fnValidHeapSpec)

/-- ITS FALSE NEIGHBOUR: 'it returns false'. Refute it at one input. -/
def fnValidHeapWrong : ChangeSpec := { name := "fnValidHeap", fn := fun _ => fun
  | [d] => { results := [.lit (.bool false)], args := [d] }
  | _ => none }
def FnValidHeapWrongFalsely : Prop := fnValidHeapRow.holds Tryd.pinned (OpenSpec.ofChange fnValidHeapWrong)

/-- 'laws.FnNewFault': WHATEVER THE INPUT: true; the input reads as it did. -/
def fnNewFaultSpec : ChangeSpec := { name := "fnNewFault", fn := fun _ => fun
  | [d] => { results := [.lit (.bool true)], args := [d] }
  | _ => none }
def fnNewFaultRow : OpenClaim := { program := "ytcagickmennlpaadoor", sum := "7e68df4ceae7c67133b340dffecae6969a286da03579aba90cdd6c6b254fb8ed", func := "loop.example/faultcleanup/laws.FnNewFault", spec := "fnNewFault", inPlace := ["internal/reflectlite.TypeOf", "internal/reflectlite.ValueOf", "(internal/reflectlite.Value).Type", "(internal/reflectlite.Value).IsNil", "(internal/reflectlite.Value).Elem", "(internal/reflectlite.Value).Set"], unfollowed := true, recurses := true, named := ["errors.errorType"], apart := false, laid := [("errors.errorType", laid_errors_errorType)] }
def FnNewFaultSaid : Prop := fnNewFaultRow.holds Tryd.pinned (OpenSpec.ofChange fnNewFaultSpec)

/-- ITS FALSE NEIGHBOUR: 'it returns false'. Refute it at one input. -/
def fnNewFaultWrong : ChangeSpec := { name := "fnNewFault", fn := fun _ => fun
  | [d] => { results := [.lit (.bool false)], args := [d] }
  | _ => none }
def FnNewFaultWrongFalsely : Prop := fnNewFaultRow.holds Tryd.pinned (OpenSpec.ofChange fnNewFaultWrong)

/-- 'laws.FnRaiseWhile': WHATEVER THE INPUT: true; the input reads as it did. -/
def fnRaiseWhileSpec : ChangeSpec := { name := "fnRaiseWhile", fn := fun _ => fun
  | [d] => { results := [.lit (.bool true)], args := [d] }
  | _ => none }
def fnRaiseWhileRow : OpenClaim := { program := "ytcagickmennlpaadoor", sum := "7e68df4ceae7c67133b340dffecae6969a286da03579aba90cdd6c6b254fb8ed", func := "loop.example/faultcleanup/laws.FnRaiseWhile", spec := "fnRaiseWhile", inPlace := ["internal/reflectlite.TypeOf", "internal/reflectlite.ValueOf", "(internal/reflectlite.Value).Type", "(internal/reflectlite.Value).IsNil", "(internal/reflectlite.Value).Elem", "(internal/reflectlite.Value).Set"], unfollowed := true, recurses := true, named := ["errors.errorType"], apart := false, laid := [("errors.errorType", laid_errors_errorType)] }
def FnRaiseWhileSaid : Prop := fnRaiseWhileRow.holds Tryd.pinned (OpenSpec.ofChange fnRaiseWhileSpec)

/-- ITS FALSE NEIGHBOUR: 'it returns false'. Refute it at one input. -/
def fnRaiseWhileWrong : ChangeSpec := { name := "fnRaiseWhile", fn := fun _ => fun
  | [d] => { results := [.lit (.bool false)], args := [d] }
  | _ => none }
def FnRaiseWhileWrongFalsely : Prop := fnRaiseWhileRow.holds Tryd.pinned (OpenSpec.ofChange fnRaiseWhileWrong)

/-- 'laws.FnRaiseWhileChain': WHATEVER THE INPUT: true; the input reads as it did. -/
def fnRaiseWhileChainSpec : ChangeSpec := { name := "fnRaiseWhileChain", fn := fun _ => fun
  | [d] => { results := [.lit (.bool true)], args := [d] }
  | _ => none }
def fnRaiseWhileChainRow : OpenClaim := { program := "ytcagickmennlpaadoor", sum := "7e68df4ceae7c67133b340dffecae6969a286da03579aba90cdd6c6b254fb8ed", func := "loop.example/faultcleanup/laws.FnRaiseWhileChain", spec := "fnRaiseWhileChain", inPlace := ["internal/reflectlite.TypeOf", "internal/reflectlite.ValueOf", "(internal/reflectlite.Value).Type", "(internal/reflectlite.Value).IsNil", "(internal/reflectlite.Value).Elem", "(internal/reflectlite.Value).Set"], unfollowed := true, recurses := true, named := ["errors.errorType"], apart := false, laid := [("errors.errorType", laid_errors_errorType)] }
def FnRaiseWhileChainSaid : Prop := fnRaiseWhileChainRow.holds Tryd.pinned (OpenSpec.ofChange fnRaiseWhileChainSpec)

/-- ITS FALSE NEIGHBOUR: 'it returns false'. Refute it at one input. -/
def fnRaiseWhileChainWrong : ChangeSpec := { name := "fnRaiseWhileChain", fn := fun _ => fun
  | [d] => { results := [.lit (.bool false)], args := [d] }
  | _ => none }
def FnRaiseWhileChainWrongFalsely : Prop := fnRaiseWhileChainRow.holds Tryd.pinned (OpenSpec.ofChange fnRaiseWhileChainWrong)

/-- 'laws.FnSetCause': WHATEVER THE INPUT: true; the input reads as it did. -/
def fnSetCauseSpec : ChangeSpec := { name := "fnSetCause", fn := fun _ => fun
  | [d] => { results := [.lit (.bool true)], args := [d] }
  | _ => none }
def fnSetCauseRow : OpenClaim := { program := "ytcagickmennlpaadoor", sum := "7e68df4ceae7c67133b340dffecae6969a286da03579aba90cdd6c6b254fb8ed", func := "loop.example/faultcleanup/laws.FnSetCause", spec := "fnSetCause", inPlace := ["internal/reflectlite.TypeOf", "internal/reflectlite.ValueOf", "(internal/reflectlite.Value).Type", "(internal/reflectlite.Value).IsNil", "(internal/reflectlite.Value).Elem", "(internal/reflectlite.Value).Set"], unfollowed := true, recurses := true, named := ["errors.errorType"], apart := false, laid := [("errors.errorType", laid_errors_errorType)] }
def FnSetCauseSaid : Prop := fnSetCauseRow.holds Tryd.pinned (OpenSpec.ofChange fnSetCauseSpec)

/-- ITS FALSE NEIGHBOUR: 'it returns false'. Refute it at one input. -/
def fnSetCauseWrong : ChangeSpec := { name := "fnSetCause", fn := fun _ => fun
  | [d] => { results := [.lit (.bool false)], args := [d] }
  | _ => none }
def FnSetCauseWrongFalsely : Prop := fnSetCauseRow.holds Tryd.pinned (OpenSpec.ofChange fnSetCauseWrong)

/-- 'laws.FnShownChain': WHATEVER THE INPUT: true; the input reads as it did. -/
def fnShownChainSpec : ChangeSpec := { name := "fnShownChain", fn := fun _ => fun
  | [d] => { results := [.lit (.bool true)], args := [d] }
  | _ => none }
def fnShownChainRow : OpenClaim := { program := "ytcagickmennlpaadoor", sum := "7e68df4ceae7c67133b340dffecae6969a286da03579aba90cdd6c6b254fb8ed", func := "loop.example/faultcleanup/laws.FnShownChain", spec := "fnShownChain", inPlace := ["internal/reflectlite.TypeOf", "internal/reflectlite.ValueOf", "(internal/reflectlite.Value).Type", "(internal/reflectlite.Value).IsNil", "(internal/reflectlite.Value).Elem", "(internal/reflectlite.Value).Set"], unfollowed := true, recurses := true, named := ["errors.errorType"], apart := false, laid := [("errors.errorType", laid_errors_errorType)] }
def FnShownChainSaid : Prop := fnShownChainRow.holds Tryd.pinned (OpenSpec.ofChange fnShownChainSpec)

/-- ITS FALSE NEIGHBOUR: 'it returns false'. Refute it at one input. -/
def fnShownChainWrong : ChangeSpec := { name := "fnShownChain", fn := fun _ => fun
  | [d] => { results := [.lit (.bool false)], args := [d] }
  | _ => none }
def FnShownChainWrongFalsely : Prop := fnShownChainRow.holds Tryd.pinned (OpenSpec.ofChange fnShownChainWrong)

/-- 'laws.FnContextChain': WHATEVER THE INPUT: true; the input reads as it did. -/
def fnContextChainSpec : ChangeSpec := { name := "fnContextChain", fn := fun _ => fun
  | [d] => { results := [.lit (.bool true)], args := [d] }
  | _ => none }
def fnContextChainRow : OpenClaim := { program := "ytcagickmennlpaadoor", sum := "7e68df4ceae7c67133b340dffecae6969a286da03579aba90cdd6c6b254fb8ed", func := "loop.example/faultcleanup/laws.FnContextChain", spec := "fnContextChain", inPlace := ["internal/reflectlite.TypeOf", "internal/reflectlite.ValueOf", "(internal/reflectlite.Value).Type", "(internal/reflectlite.Value).IsNil", "(internal/reflectlite.Value).Elem", "(internal/reflectlite.Value).Set"], unfollowed := true, recurses := true, named := ["errors.errorType"], apart := false, laid := [("errors.errorType", laid_errors_errorType)] }
def FnContextChainSaid : Prop := fnContextChainRow.holds Tryd.pinned (OpenSpec.ofChange fnContextChainSpec)

/-- ITS FALSE NEIGHBOUR: 'it returns false'. Refute it at one input. -/
def fnContextChainWrong : ChangeSpec := { name := "fnContextChain", fn := fun _ => fun
  | [d] => { results := [.lit (.bool false)], args := [d] }
  | _ => none }
def FnContextChainWrongFalsely : Prop := fnContextChainRow.holds Tryd.pinned (OpenSpec.ofChange fnContextChainWrong)

/- THE SECOND FORM. 'bulk': how many values and letters a reading holds, each counted each time it is reached (what is shared counts as often as it is met; a slice's spare places count too). A statement '..UptoSaid' is the law's where the arguments, and the package variables that the reading takes, are together of bulk at most 1048576: NARROWER than '..Said'. Prove '..Said' where nothing that the law and all that it calls make is longer than what came in: it says more and counts as full. Else prove '..UptoSaid'. A law counts once. -/
mutual
def uptoBulk {H : Type} : DataW H → Nat
  | .lit (.string bytes) => bytes.length + 1
  | .lit _ => 1
  | .nil => 1
  | .ptr d => uptoBulk d + 1
  | .slice elems spare => uptoBulkAll elems + uptoBulkAll spare + 1
  | .agg parts => uptoBulkAll parts + 1
  | .iface _ d => uptoBulk d + 1
  | .map entries => uptoBulkEntries entries + 1
  | .held _ => 1
def uptoBulkAll {H : Type} : List (DataW H) → Nat
  | [] => 0
  | d :: r => uptoBulk d + uptoBulkAll r
def uptoBulkEntries {H : Type} : List (Lit × DataW H) → Nat
  | [] => 0
  | x :: r => uptoBulkEntry x + uptoBulkEntries r
def uptoBulkEntry {H : Type} : Lit × DataW H → Nat
  | (.string bytes, d) => bytes.length + uptoBulk d + 1
  | (_, d) => uptoBulk d + 1
 end
def uptoSmall : (H : Type) → List (DataW H) → Bool := fun _ ds => decide (uptoBulkAll ds ≤ 1048576)
def OpenSpec.upto (s : _root_.Go.ChangeSpec) : _root_.Go.OpenSpec := { _root_.Go.OpenSpec.ofChange s with cond := some uptoSmall }

/-- 'laws.FnValidHeap', WHERE WHAT IT READS IS OF BULK AT MOST 1048576: true; the input reads as it did. -/
def fnValidHeapUptoRow : OpenClaim := { program := "ytcagickmennlpaadoor", sum := "7e68df4ceae7c67133b340dffecae6969a286da03579aba90cdd6c6b254fb8ed", func := "loop.example/faultcleanup/laws.FnValidHeap", spec := "fnValidHeap", inPlace := ["internal/reflectlite.TypeOf", "internal/reflectlite.ValueOf", "(internal/reflectlite.Value).Type", "(internal/reflectlite.Value).IsNil", "(internal/reflectlite.Value).Elem", "(internal/reflectlite.Value).Set"], unfollowed := true, recurses := true, named := ["errors.errorType"], apart := false, laid := [("errors.errorType", laid_errors_errorType)], narrowed := true }
def FnValidHeapUptoSaid : Prop := fnValidHeapUptoRow.holds Tryd.pinned (OpenSpec.upto fnValidHeapSpec)

/-- 'laws.FnNewFault', WHERE WHAT IT READS IS OF BULK AT MOST 1048576: true; the input reads as it did. -/
def fnNewFaultUptoRow : OpenClaim := { program := "ytcagickmennlpaadoor", sum := "7e68df4ceae7c67133b340dffecae6969a286da03579aba90cdd6c6b254fb8ed", func := "loop.example/faultcleanup/laws.FnNewFault", spec := "fnNewFault", inPlace := ["internal/reflectlite.TypeOf", "internal/reflectlite.ValueOf", "(internal/reflectlite.Value).Type", "(internal/reflectlite.Value).IsNil", "(internal/reflectlite.Value).Elem", "(internal/reflectlite.Value).Set"], unfollowed := true, recurses := true, named := ["errors.errorType"], apart := false, laid := [("errors.errorType", laid_errors_errorType)], narrowed := true }
def FnNewFaultUptoSaid : Prop := fnNewFaultUptoRow.holds Tryd.pinned (OpenSpec.upto fnNewFaultSpec)

/-- 'laws.FnRaiseWhile', WHERE WHAT IT READS IS OF BULK AT MOST 1048576: true; the input reads as it did. -/
def fnRaiseWhileUptoRow : OpenClaim := { program := "ytcagickmennlpaadoor", sum := "7e68df4ceae7c67133b340dffecae6969a286da03579aba90cdd6c6b254fb8ed", func := "loop.example/faultcleanup/laws.FnRaiseWhile", spec := "fnRaiseWhile", inPlace := ["internal/reflectlite.TypeOf", "internal/reflectlite.ValueOf", "(internal/reflectlite.Value).Type", "(internal/reflectlite.Value).IsNil", "(internal/reflectlite.Value).Elem", "(internal/reflectlite.Value).Set"], unfollowed := true, recurses := true, named := ["errors.errorType"], apart := false, laid := [("errors.errorType", laid_errors_errorType)], narrowed := true }
def FnRaiseWhileUptoSaid : Prop := fnRaiseWhileUptoRow.holds Tryd.pinned (OpenSpec.upto fnRaiseWhileSpec)

/-- 'laws.FnRaiseWhileChain', WHERE WHAT IT READS IS OF BULK AT MOST 1048576: true; the input reads as it did. -/
def fnRaiseWhileChainUptoRow : OpenClaim := { program := "ytcagickmennlpaadoor", sum := "7e68df4ceae7c67133b340dffecae6969a286da03579aba90cdd6c6b254fb8ed", func := "loop.example/faultcleanup/laws.FnRaiseWhileChain", spec := "fnRaiseWhileChain", inPlace := ["internal/reflectlite.TypeOf", "internal/reflectlite.ValueOf", "(internal/reflectlite.Value).Type", "(internal/reflectlite.Value).IsNil", "(internal/reflectlite.Value).Elem", "(internal/reflectlite.Value).Set"], unfollowed := true, recurses := true, named := ["errors.errorType"], apart := false, laid := [("errors.errorType", laid_errors_errorType)], narrowed := true }
def FnRaiseWhileChainUptoSaid : Prop := fnRaiseWhileChainUptoRow.holds Tryd.pinned (OpenSpec.upto fnRaiseWhileChainSpec)

/-- 'laws.FnSetCause', WHERE WHAT IT READS IS OF BULK AT MOST 1048576: true; the input reads as it did. -/
def fnSetCauseUptoRow : OpenClaim := { program := "ytcagickmennlpaadoor", sum := "7e68df4ceae7c67133b340dffecae6969a286da03579aba90cdd6c6b254fb8ed", func := "loop.example/faultcleanup/laws.FnSetCause", spec := "fnSetCause", inPlace := ["internal/reflectlite.TypeOf", "internal/reflectlite.ValueOf", "(internal/reflectlite.Value).Type", "(internal/reflectlite.Value).IsNil", "(internal/reflectlite.Value).Elem", "(internal/reflectlite.Value).Set"], unfollowed := true, recurses := true, named := ["errors.errorType"], apart := false, laid := [("errors.errorType", laid_errors_errorType)], narrowed := true }
def FnSetCauseUptoSaid : Prop := fnSetCauseUptoRow.holds Tryd.pinned (OpenSpec.upto fnSetCauseSpec)

/-- 'laws.FnShownChain', WHERE WHAT IT READS IS OF BULK AT MOST 1048576: true; the input reads as it did. -/
def fnShownChainUptoRow : OpenClaim := { program := "ytcagickmennlpaadoor", sum := "7e68df4ceae7c67133b340dffecae6969a286da03579aba90cdd6c6b254fb8ed", func := "loop.example/faultcleanup/laws.FnShownChain", spec := "fnShownChain", inPlace := ["internal/reflectlite.TypeOf", "internal/reflectlite.ValueOf", "(internal/reflectlite.Value).Type", "(internal/reflectlite.Value).IsNil", "(internal/reflectlite.Value).Elem", "(internal/reflectlite.Value).Set"], unfollowed := true, recurses := true, named := ["errors.errorType"], apart := false, laid := [("errors.errorType", laid_errors_errorType)], narrowed := true }
def FnShownChainUptoSaid : Prop := fnShownChainUptoRow.holds Tryd.pinned (OpenSpec.upto fnShownChainSpec)

/-- 'laws.FnContextChain', WHERE WHAT IT READS IS OF BULK AT MOST 1048576: true; the input reads as it did. -/
def fnContextChainUptoRow : OpenClaim := { program := "ytcagickmennlpaadoor", sum := "7e68df4ceae7c67133b340dffecae6969a286da03579aba90cdd6c6b254fb8ed", func := "loop.example/faultcleanup/laws.FnContextChain", spec := "fnContextChain", inPlace := ["internal/reflectlite.TypeOf", "internal/reflectlite.ValueOf", "(internal/reflectlite.Value).Type", "(internal/reflectlite.Value).IsNil", "(internal/reflectlite.Value).Elem", "(internal/reflectlite.Value).Set"], unfollowed := true, recurses := true, named := ["errors.errorType"], apart := false, laid := [("errors.errorType", laid_errors_errorType)], narrowed := true }
def FnContextChainUptoSaid : Prop := fnContextChainUptoRow.holds Tryd.pinned (OpenSpec.upto fnContextChainSpec)

end Rows
end Go.Proofs.YtcagickmennlpaaDoor
