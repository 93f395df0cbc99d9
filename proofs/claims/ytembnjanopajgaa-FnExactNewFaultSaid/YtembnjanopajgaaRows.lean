/-
  No cell of these rows narrows 'for every input' (looked for: loops, veiled, ifaces, maps, wideKeys, modest, calm, conditions, laid).
  DERIVED. THE GIVEN ROWS OF THIS SEAT. 6 by the template 'for every input the law returns true; each argument reads behind the call as it read before'; 0 by the template 'total and deterministic' (their statements: YtembnjanopajgaaTotals.lean).
  GIVEN WITH THE SEED: the statements are not yours to turn. If you find one false, say at which input.
  Laid BY PROGRAM, IN A SANDBOX (cutbox-rows.mjs): the forced cells as the released guide's own fill.sh prints them over the translation 2c2041c9fc7e5aff… (all of the seat's roots in one cut). By AI agents, Wed Nov 11 2026. No macro, syntax, notation, axiom, sorry.
-/
import Derived.Test.YtembnjanopajgaaChecked
import GoSem.Claim
import GoSem.ClaimJoined
import GoSem.ClaimMapViews
import Derived.JoinedTies
import Derived.KernelRfl
namespace Go.Proofs.Ytembnjanopajgaa
/- THE CELL 'sum', in the pinned program and in every row, IS THE sha256 OF THE DUMP (.gsa) THAT YtembnjanopajgaaProg.lean LOADS. Nothing in Lean hashes anything: it is a label: what it is worth is what the hold of that sum in a sandbox is worth. -/
noncomputable def Try.pinned : Pinned := { name := "ytembnjanopajgaa", sum := "2c2041c9fc7e5affb4cf973e11f894e0a8961e930244ac7ed23813d9746278a2", checked := Try.checked }
namespace Rows
def none {H : Type} : Left H := { results := [], args := [] }

/-- 'laws.FnAddClassCatch': WHATEVER THE INPUT: true; the input reads as it did. -/
def fnAddClassCatchSpec : ChangeSpec := { name := "fnAddClassCatch", fn := fun _ => fun
  | [d] => { results := [.lit (.bool true)], args := [d] }
  | _ => none }
def fnAddClassCatchRow : OpenClaim := { program := "ytembnjanopajgaa", sum := "2c2041c9fc7e5affb4cf973e11f894e0a8961e930244ac7ed23813d9746278a2", func := "loop.example/faultcleanup/laws.FnAddClassCatch", spec := "fnAddClassCatch", unfollowed := true, recurses := true, apart := false }
def FnAddClassCatchSaid : Prop := fnAddClassCatchRow.holds Try.pinned (OpenSpec.ofChange fnAddClassCatchSpec)

/-- ITS FALSE NEIGHBOUR: 'it returns false'. Refute it at one input. -/
def fnAddClassCatchWrong : ChangeSpec := { name := "fnAddClassCatch", fn := fun _ => fun
  | [d] => { results := [.lit (.bool false)], args := [d] }
  | _ => none }
def FnAddClassCatchWrongFalsely : Prop := fnAddClassCatchRow.holds Try.pinned (OpenSpec.ofChange fnAddClassCatchWrong)

/-- 'laws.FnExactNewFault': WHATEVER THE INPUT: true; the input reads as it did. -/
def fnExactNewFaultSpec : ChangeSpec := { name := "fnExactNewFault", fn := fun _ => fun
  | [d1, d2, d3, d4] => { results := [.lit (.bool true)], args := [d1, d2, d3, d4] }
  | _ => none }
def fnExactNewFaultRow : OpenClaim := { program := "ytembnjanopajgaa", sum := "2c2041c9fc7e5affb4cf973e11f894e0a8961e930244ac7ed23813d9746278a2", func := "loop.example/faultcleanup/laws.FnExactNewFault", spec := "fnExactNewFault", inPlace := ["internal/reflectlite.TypeOf"], unfollowed := true, recurses := true, apart := false }
def FnExactNewFaultSaid : Prop := fnExactNewFaultRow.holds Try.pinned (OpenSpec.ofChange fnExactNewFaultSpec)

/-- ITS FALSE NEIGHBOUR: 'it returns false'. Refute it at one input. -/
def fnExactNewFaultWrong : ChangeSpec := { name := "fnExactNewFault", fn := fun _ => fun
  | [d1, d2, d3, d4] => { results := [.lit (.bool false)], args := [d1, d2, d3, d4] }
  | _ => none }
def FnExactNewFaultWrongFalsely : Prop := fnExactNewFaultRow.holds Try.pinned (OpenSpec.ofChange fnExactNewFaultWrong)

/-- 'laws.FnExactSetCause': WHATEVER THE INPUT: true; the input reads as it did. -/
def fnExactSetCauseSpec : ChangeSpec := { name := "fnExactSetCause", fn := fun _ => fun
  | [d1, d2, d3, d4] => { results := [.lit (.bool true)], args := [d1, d2, d3, d4] }
  | _ => none }
def fnExactSetCauseRow : OpenClaim := { program := "ytembnjanopajgaa", sum := "2c2041c9fc7e5affb4cf973e11f894e0a8961e930244ac7ed23813d9746278a2", func := "loop.example/faultcleanup/laws.FnExactSetCause", spec := "fnExactSetCause", inPlace := ["internal/reflectlite.TypeOf"], unfollowed := true, recurses := true, apart := false }
def FnExactSetCauseSaid : Prop := fnExactSetCauseRow.holds Try.pinned (OpenSpec.ofChange fnExactSetCauseSpec)

/-- ITS FALSE NEIGHBOUR: 'it returns false'. Refute it at one input. -/
def fnExactSetCauseWrong : ChangeSpec := { name := "fnExactSetCause", fn := fun _ => fun
  | [d1, d2, d3, d4] => { results := [.lit (.bool false)], args := [d1, d2, d3, d4] }
  | _ => none }
def FnExactSetCauseWrongFalsely : Prop := fnExactSetCauseRow.holds Try.pinned (OpenSpec.ofChange fnExactSetCauseWrong)

/-- 'laws.FnExactHideContext': WHATEVER THE INPUT: true; the input reads as it did. -/
def fnExactHideContextSpec : ChangeSpec := { name := "fnExactHideContext", fn := fun _ => fun
  | [d1, d2, d3, d4] => { results := [.lit (.bool true)], args := [d1, d2, d3, d4] }
  | _ => none }
def fnExactHideContextRow : OpenClaim := { program := "ytembnjanopajgaa", sum := "2c2041c9fc7e5affb4cf973e11f894e0a8961e930244ac7ed23813d9746278a2", func := "loop.example/faultcleanup/laws.FnExactHideContext", spec := "fnExactHideContext", inPlace := ["internal/reflectlite.TypeOf"], unfollowed := true, recurses := true, apart := false }
def FnExactHideContextSaid : Prop := fnExactHideContextRow.holds Try.pinned (OpenSpec.ofChange fnExactHideContextSpec)

/-- ITS FALSE NEIGHBOUR: 'it returns false'. Refute it at one input. -/
def fnExactHideContextWrong : ChangeSpec := { name := "fnExactHideContext", fn := fun _ => fun
  | [d1, d2, d3, d4] => { results := [.lit (.bool false)], args := [d1, d2, d3, d4] }
  | _ => none }
def FnExactHideContextWrongFalsely : Prop := fnExactHideContextRow.holds Try.pinned (OpenSpec.ofChange fnExactHideContextWrong)

/-- 'laws.FnExactShownNext': WHATEVER THE INPUT: true; the input reads as it did. -/
def fnExactShownNextSpec : ChangeSpec := { name := "fnExactShownNext", fn := fun _ => fun
  | [d1, d2, d3] => { results := [.lit (.bool true)], args := [d1, d2, d3] }
  | _ => none }
def fnExactShownNextRow : OpenClaim := { program := "ytembnjanopajgaa", sum := "2c2041c9fc7e5affb4cf973e11f894e0a8961e930244ac7ed23813d9746278a2", func := "loop.example/faultcleanup/laws.FnExactShownNext", spec := "fnExactShownNext", inPlace := ["internal/reflectlite.TypeOf"], unfollowed := true, recurses := true, apart := false }
def FnExactShownNextSaid : Prop := fnExactShownNextRow.holds Try.pinned (OpenSpec.ofChange fnExactShownNextSpec)

/-- ITS FALSE NEIGHBOUR: 'it returns false'. Refute it at one input. -/
def fnExactShownNextWrong : ChangeSpec := { name := "fnExactShownNext", fn := fun _ => fun
  | [d1, d2, d3] => { results := [.lit (.bool false)], args := [d1, d2, d3] }
  | _ => none }
def FnExactShownNextWrongFalsely : Prop := fnExactShownNextRow.holds Try.pinned (OpenSpec.ofChange fnExactShownNextWrong)

/-- 'laws.FnExactJoinHeaps': WHATEVER THE INPUT: true; the input reads as it did. -/
def fnExactJoinHeapsSpec : ChangeSpec := { name := "fnExactJoinHeaps", fn := fun _ => fun
  | [d1, d2, d3] => { results := [.lit (.bool true)], args := [d1, d2, d3] }
  | _ => none }
def fnExactJoinHeapsRow : OpenClaim := { program := "ytembnjanopajgaa", sum := "2c2041c9fc7e5affb4cf973e11f894e0a8961e930244ac7ed23813d9746278a2", func := "loop.example/faultcleanup/laws.FnExactJoinHeaps", spec := "fnExactJoinHeaps", inPlace := ["internal/reflectlite.TypeOf"], unfollowed := true, recurses := true, apart := false }
def FnExactJoinHeapsSaid : Prop := fnExactJoinHeapsRow.holds Try.pinned (OpenSpec.ofChange fnExactJoinHeapsSpec)

/-- ITS FALSE NEIGHBOUR: 'it returns false'. Refute it at one input. -/
def fnExactJoinHeapsWrong : ChangeSpec := { name := "fnExactJoinHeaps", fn := fun _ => fun
  | [d1, d2, d3] => { results := [.lit (.bool false)], args := [d1, d2, d3] }
  | _ => none }
def FnExactJoinHeapsWrongFalsely : Prop := fnExactJoinHeapsRow.holds Try.pinned (OpenSpec.ofChange fnExactJoinHeapsWrong)

/- THE SECOND FORM. 'bulk': how many values and letters a reading holds, each counted each time it is reached (what is shared counts as often as it is met; a slice's spare places count too). A statement '..UptoSaid' is the law's where the arguments, and the package variables that the reading takes, are together of bulk at most 1048576: NARROWER than '..Said'. Prove '..Said' where nothing that the law and all that it calls make is longer than what came in: it says more and counts as full. Else prove '..UptoSaid'. A law counts once. -/
mutual
def uptoBulk {H : Type} : DataW H → Nat
  | .lit (.string bytes) => bytes.length + 1
  | .lit _ => 1
  | .nil => 1
  | .ptr d => uptoBulk d + 1
  | .slice elems spare => uptoBulkAll elems + uptoBulkAll spare + 1
  | .agg parts => uptoBulkAll parts + 1
  | .iface _ d => uptoBulk d + 1
  | .map entries => uptoBulkEntries entries + 1
  | .held _ => 1
def uptoBulkAll {H : Type} : List (DataW H) → Nat
  | [] => 0
  | d :: r => uptoBulk d + uptoBulkAll r
def uptoBulkEntries {H : Type} : List (Lit × DataW H) → Nat
  | [] => 0
  | x :: r => uptoBulkEntry x + uptoBulkEntries r
def uptoBulkEntry {H : Type} : Lit × DataW H → Nat
  | (.string bytes, d) => bytes.length + uptoBulk d + 1
  | (_, d) => uptoBulk d + 1
 end
def uptoSmall : (H : Type) → List (DataW H) → Bool := fun _ ds => decide (uptoBulkAll ds ≤ 1048576)
def OpenSpec.upto (s : _root_.Go.ChangeSpec) : _root_.Go.OpenSpec := { _root_.Go.OpenSpec.ofChange s with cond := some uptoSmall }

/-- 'laws.FnAddClassCatch', WHERE WHAT IT READS IS OF BULK AT MOST 1048576: true; the input reads as it did. -/
def fnAddClassCatchUptoRow : OpenClaim := { program := "ytembnjanopajgaa", sum := "2c2041c9fc7e5affb4cf973e11f894e0a8961e930244ac7ed23813d9746278a2", func := "loop.example/faultcleanup/laws.FnAddClassCatch", spec := "fnAddClassCatch", unfollowed := true, recurses := true, apart := false, narrowed := true }
def FnAddClassCatchUptoSaid : Prop := fnAddClassCatchUptoRow.holds Try.pinned (OpenSpec.upto fnAddClassCatchSpec)

/-- 'laws.FnExactNewFault', WHERE WHAT IT READS IS OF BULK AT MOST 1048576: true; the input reads as it did. -/
def fnExactNewFaultUptoRow : OpenClaim := { program := "ytembnjanopajgaa", sum := "2c2041c9fc7e5affb4cf973e11f894e0a8961e930244ac7ed23813d9746278a2", func := "loop.example/faultcleanup/laws.FnExactNewFault", spec := "fnExactNewFault", inPlace := ["internal/reflectlite.TypeOf"], unfollowed := true, recurses := true, apart := false, narrowed := true }
def FnExactNewFaultUptoSaid : Prop := fnExactNewFaultUptoRow.holds Try.pinned (OpenSpec.upto fnExactNewFaultSpec)

/-- 'laws.FnExactSetCause', WHERE WHAT IT READS IS OF BULK AT MOST 1048576: true; the input reads as it did. -/
def fnExactSetCauseUptoRow : OpenClaim := { program := "ytembnjanopajgaa", sum := "2c2041c9fc7e5affb4cf973e11f894e0a8961e930244ac7ed23813d9746278a2", func := "loop.example/faultcleanup/laws.FnExactSetCause", spec := "fnExactSetCause", inPlace := ["internal/reflectlite.TypeOf"], unfollowed := true, recurses := true, apart := false, narrowed := true }
def FnExactSetCauseUptoSaid : Prop := fnExactSetCauseUptoRow.holds Try.pinned (OpenSpec.upto fnExactSetCauseSpec)

/-- 'laws.FnExactHideContext', WHERE WHAT IT READS IS OF BULK AT MOST 1048576: true; the input reads as it did. -/
def fnExactHideContextUptoRow : OpenClaim := { program := "ytembnjanopajgaa", sum := "2c2041c9fc7e5affb4cf973e11f894e0a8961e930244ac7ed23813d9746278a2", func := "loop.example/faultcleanup/laws.FnExactHideContext", spec := "fnExactHideContext", inPlace := ["internal/reflectlite.TypeOf"], unfollowed := true, recurses := true, apart := false, narrowed := true }
def FnExactHideContextUptoSaid : Prop := fnExactHideContextUptoRow.holds Try.pinned (OpenSpec.upto fnExactHideContextSpec)

/-- 'laws.FnExactShownNext', WHERE WHAT IT READS IS OF BULK AT MOST 1048576: true; the input reads as it did. -/
def fnExactShownNextUptoRow : OpenClaim := { program := "ytembnjanopajgaa", sum := "2c2041c9fc7e5affb4cf973e11f894e0a8961e930244ac7ed23813d9746278a2", func := "loop.example/faultcleanup/laws.FnExactShownNext", spec := "fnExactShownNext", inPlace := ["internal/reflectlite.TypeOf"], unfollowed := true, recurses := true, apart := false, narrowed := true }
def FnExactShownNextUptoSaid : Prop := fnExactShownNextUptoRow.holds Try.pinned (OpenSpec.upto fnExactShownNextSpec)

/-- 'laws.FnExactJoinHeaps', WHERE WHAT IT READS IS OF BULK AT MOST 1048576: true; the input reads as it did. -/
def fnExactJoinHeapsUptoRow : OpenClaim := { program := "ytembnjanopajgaa", sum := "2c2041c9fc7e5affb4cf973e11f894e0a8961e930244ac7ed23813d9746278a2", func := "loop.example/faultcleanup/laws.FnExactJoinHeaps", spec := "fnExactJoinHeaps", inPlace := ["internal/reflectlite.TypeOf"], unfollowed := true, recurses := true, apart := false, narrowed := true }
def FnExactJoinHeapsUptoSaid : Prop := fnExactJoinHeapsUptoRow.holds Try.pinned (OpenSpec.upto fnExactJoinHeapsSpec)

end Rows
end Go.Proofs.Ytembnjanopajgaa
