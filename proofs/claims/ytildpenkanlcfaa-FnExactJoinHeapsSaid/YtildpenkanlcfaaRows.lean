/-
  No cell of these rows narrows 'for every input' (looked for: loops, veiled, ifaces, maps, wideKeys, modest, calm, conditions, laid).
  DERIVED. THE GIVEN ROWS OF THIS SEAT. 5 by the template 'for every input the law returns true; each argument reads behind the call as it read before'; 0 by the template 'total and deterministic' (their statements: YtildpenkanlcfaaTotals.lean).
  GIVEN WITH THE SEED: the statements are not yours to turn. If you find one false, say at which input.
  Laid BY PROGRAM, IN A SANDBOX (cutbox-rows.mjs): the forced cells as the released guide's own fill.sh prints them over the translation 6e0e24547dbee69a… (all of the seat's roots in one cut). By AI agents, Wed Nov 11 2026. No macro, syntax, notation, axiom, sorry.
-/
import Derived.Test.YtildpenkanlcfaaChecked
import GoSem.Claim
import GoSem.ClaimJoined
import GoSem.ClaimMapViews
import Derived.JoinedTies
import Derived.KernelRfl
namespace Go.Proofs.Ytildpenkanlcfaa
/- THE CELL 'sum', in the pinned program and in every row, IS THE sha256 OF THE DUMP (.gsa) THAT YtildpenkanlcfaaProg.lean LOADS. Nothing in Lean hashes anything: it is a label: what it is worth is what the hold of that sum in a sandbox is worth. -/
noncomputable def Try.pinned : Pinned := { name := "ytildpenkanlcfaa", sum := "6e0e24547dbee69a5db21cdeeb9ffe958c8e34a3490d04aed939d9765b6e461c", checked := Try.checked }
namespace Rows
def none {H : Type} : Left H := { results := [], args := [] }

/-- 'laws.FnExactSetCause': WHATEVER THE INPUT: true; the input reads as it did. -/
def fnExactSetCauseSpec : ChangeSpec := { name := "fnExactSetCause", fn := fun _ => fun
  | [d1, d2, d3, d4] => { results := [.lit (.bool true)], args := [d1, d2, d3, d4] }
  | _ => none }
def fnExactSetCauseRow : OpenClaim := { program := "ytildpenkanlcfaa", sum := "6e0e24547dbee69a5db21cdeeb9ffe958c8e34a3490d04aed939d9765b6e461c", func := "loop.example/faultcleanup/laws.FnExactSetCause", spec := "fnExactSetCause", inPlace := ["internal/reflectlite.TypeOf"], unfollowed := true, recurses := true, apart := false }
def FnExactSetCauseSaid : Prop := fnExactSetCauseRow.holds Try.pinned (OpenSpec.ofChange fnExactSetCauseSpec)

/-- ITS FALSE NEIGHBOUR: 'it returns false'. Refute it at one input. -/
def fnExactSetCauseWrong : ChangeSpec := { name := "fnExactSetCause", fn := fun _ => fun
  | [d1, d2, d3, d4] => { results := [.lit (.bool false)], args := [d1, d2, d3, d4] }
  | _ => none }
def FnExactSetCauseWrongFalsely : Prop := fnExactSetCauseRow.holds Try.pinned (OpenSpec.ofChange fnExactSetCauseWrong)

/-- 'laws.FnExactHideContext': WHATEVER THE INPUT: true; the input reads as it did. -/
def fnExactHideContextSpec : ChangeSpec := { name := "fnExactHideContext", fn := fun _ => fun
  | [d1, d2, d3, d4] => { results := [.lit (.bool true)], args := [d1, d2, d3, d4] }
  | _ => none }
def fnExactHideContextRow : OpenClaim := { program := "ytildpenkanlcfaa", sum := "6e0e24547dbee69a5db21cdeeb9ffe958c8e34a3490d04aed939d9765b6e461c", func := "loop.example/faultcleanup/laws.FnExactHideContext", spec := "fnExactHideContext", inPlace := ["internal/reflectlite.TypeOf"], unfollowed := true, recurses := true, apart := false }
def FnExactHideContextSaid : Prop := fnExactHideContextRow.holds Try.pinned (OpenSpec.ofChange fnExactHideContextSpec)

/-- ITS FALSE NEIGHBOUR: 'it returns false'. Refute it at one input. -/
def fnExactHideContextWrong : ChangeSpec := { name := "fnExactHideContext", fn := fun _ => fun
  | [d1, d2, d3, d4] => { results := [.lit (.bool false)], args := [d1, d2, d3, d4] }
  | _ => none }
def FnExactHideContextWrongFalsely : Prop := fnExactHideContextRow.holds Try.pinned (OpenSpec.ofChange fnExactHideContextWrong)

/-- 'laws.FnExactReachOf': WHATEVER THE INPUT: true; the input reads as it did. -/
def fnExactReachOfSpec : ChangeSpec := { name := "fnExactReachOf", fn := fun _ => fun
  | [d1, d2, d3] => { results := [.lit (.bool true)], args := [d1, d2, d3] }
  | _ => none }
def fnExactReachOfRow : OpenClaim := { program := "ytildpenkanlcfaa", sum := "6e0e24547dbee69a5db21cdeeb9ffe958c8e34a3490d04aed939d9765b6e461c", func := "loop.example/faultcleanup/laws.FnExactReachOf", spec := "fnExactReachOf", inPlace := ["internal/reflectlite.TypeOf"], unfollowed := true, recurses := true, apart := false }
def FnExactReachOfSaid : Prop := fnExactReachOfRow.holds Try.pinned (OpenSpec.ofChange fnExactReachOfSpec)

/-- ITS FALSE NEIGHBOUR: 'it returns false'. Refute it at one input. -/
def fnExactReachOfWrong : ChangeSpec := { name := "fnExactReachOf", fn := fun _ => fun
  | [d1, d2, d3] => { results := [.lit (.bool false)], args := [d1, d2, d3] }
  | _ => none }
def FnExactReachOfWrongFalsely : Prop := fnExactReachOfRow.holds Try.pinned (OpenSpec.ofChange fnExactReachOfWrong)

/-- 'laws.FnExactIsolateFault': WHATEVER THE INPUT: true; the input reads as it did. -/
def fnExactIsolateFaultSpec : ChangeSpec := { name := "fnExactIsolateFault", fn := fun _ => fun
  | [d1, d2, d3] => { results := [.lit (.bool true)], args := [d1, d2, d3] }
  | _ => none }
def fnExactIsolateFaultRow : OpenClaim := { program := "ytildpenkanlcfaa", sum := "6e0e24547dbee69a5db21cdeeb9ffe958c8e34a3490d04aed939d9765b6e461c", func := "loop.example/faultcleanup/laws.FnExactIsolateFault", spec := "fnExactIsolateFault", inPlace := ["internal/reflectlite.TypeOf"], unfollowed := true, recurses := true, apart := false }
def FnExactIsolateFaultSaid : Prop := fnExactIsolateFaultRow.holds Try.pinned (OpenSpec.ofChange fnExactIsolateFaultSpec)

/-- ITS FALSE NEIGHBOUR: 'it returns false'. Refute it at one input. -/
def fnExactIsolateFaultWrong : ChangeSpec := { name := "fnExactIsolateFault", fn := fun _ => fun
  | [d1, d2, d3] => { results := [.lit (.bool false)], args := [d1, d2, d3] }
  | _ => none }
def FnExactIsolateFaultWrongFalsely : Prop := fnExactIsolateFaultRow.holds Try.pinned (OpenSpec.ofChange fnExactIsolateFaultWrong)

/-- 'laws.FnExactJoinHeaps': WHATEVER THE INPUT: true; the input reads as it did. -/
def fnExactJoinHeapsSpec : ChangeSpec := { name := "fnExactJoinHeaps", fn := fun _ => fun
  | [d1, d2, d3] => { results := [.lit (.bool true)], args := [d1, d2, d3] }
  | _ => none }
def fnExactJoinHeapsRow : OpenClaim := { program := "ytildpenkanlcfaa", sum := "6e0e24547dbee69a5db21cdeeb9ffe958c8e34a3490d04aed939d9765b6e461c", func := "loop.example/faultcleanup/laws.FnExactJoinHeaps", spec := "fnExactJoinHeaps", inPlace := ["internal/reflectlite.TypeOf"], unfollowed := true, recurses := true, apart := false }
def FnExactJoinHeapsSaid : Prop := fnExactJoinHeapsRow.holds Try.pinned (OpenSpec.ofChange fnExactJoinHeapsSpec)

/-- ITS FALSE NEIGHBOUR: 'it returns false'. Refute it at one input. -/
def fnExactJoinHeapsWrong : ChangeSpec := { name := "fnExactJoinHeaps", fn := fun _ => fun
  | [d1, d2, d3] => { results := [.lit (.bool false)], args := [d1, d2, d3] }
  | _ => none }
def FnExactJoinHeapsWrongFalsely : Prop := fnExactJoinHeapsRow.holds Try.pinned (OpenSpec.ofChange fnExactJoinHeapsWrong)

/- THE SECOND FORM. 'bulk': how many values and letters a reading holds, each counted each time it is reached (what is shared counts as often as it is met; a slice's spare places count too). A statement '..UptoSaid' is the law's where the arguments, and the package variables that the reading takes, are together of bulk at most 1048576: NARROWER than '..Said'. Prove '..Said' where nothing that the law and all that it calls make is longer than what came in: it says more and counts as full. Else prove '..UptoSaid'. A law counts once. -/
mutual
def uptoBulk {H : Type} : DataW H → Nat
  | .lit (.string bytes) => bytes.length + 1
  | .lit _ => 1
  | .nil => 1
  | .ptr d => uptoBulk d + 1
  | .slice elems spare => uptoBulkAll elems + uptoBulkAll spare + 1
  | .agg parts => uptoBulkAll parts + 1
  | .iface _ d => uptoBulk d + 1
  | .map entries => uptoBulkEntries entries + 1
  | .held _ => 1
def uptoBulkAll {H : Type} : List (DataW H) → Nat
  | [] => 0
  | d :: r => uptoBulk d + uptoBulkAll r
def uptoBulkEntries {H : Type} : List (Lit × DataW H) → Nat
  | [] => 0
  | x :: r => uptoBulkEntry x + uptoBulkEntries r
def uptoBulkEntry {H : Type} : Lit × DataW H → Nat
  | (.string bytes, d) => bytes.length + uptoBulk d + 1
  | (_, d) => uptoBulk d + 1
 end
def uptoSmall : (H : Type) → List (DataW H) → Bool := fun _ ds => decide (uptoBulkAll ds ≤ 1048576)
def OpenSpec.upto (s : _root_.Go.ChangeSpec) : _root_.Go.OpenSpec := { _root_.Go.OpenSpec.ofChange s with cond := some uptoSmall }

/-- 'laws.FnExactSetCause', WHERE WHAT IT READS IS OF BULK AT MOST 1048576: true; the input reads as it did. -/
def fnExactSetCauseUptoRow : OpenClaim := { program := "ytildpenkanlcfaa", sum := "6e0e24547dbee69a5db21cdeeb9ffe958c8e34a3490d04aed939d9765b6e461c", func := "loop.example/faultcleanup/laws.FnExactSetCause", spec := "fnExactSetCause", inPlace := ["internal/reflectlite.TypeOf"], unfollowed := true, recurses := true, apart := false, narrowed := true }
def FnExactSetCauseUptoSaid : Prop := fnExactSetCauseUptoRow.holds Try.pinned (OpenSpec.upto fnExactSetCauseSpec)

/-- 'laws.FnExactHideContext', WHERE WHAT IT READS IS OF BULK AT MOST 1048576: true; the input reads as it did. -/
def fnExactHideContextUptoRow : OpenClaim := { program := "ytildpenkanlcfaa", sum := "6e0e24547dbee69a5db21cdeeb9ffe958c8e34a3490d04aed939d9765b6e461c", func := "loop.example/faultcleanup/laws.FnExactHideContext", spec := "fnExactHideContext", inPlace := ["internal/reflectlite.TypeOf"], unfollowed := true, recurses := true, apart := false, narrowed := true }
def FnExactHideContextUptoSaid : Prop := fnExactHideContextUptoRow.holds Try.pinned (OpenSpec.upto fnExactHideContextSpec)

/-- 'laws.FnExactReachOf', WHERE WHAT IT READS IS OF BULK AT MOST 1048576: true; the input reads as it did. -/
def fnExactReachOfUptoRow : OpenClaim := { program := "ytildpenkanlcfaa", sum := "6e0e24547dbee69a5db21cdeeb9ffe958c8e34a3490d04aed939d9765b6e461c", func := "loop.example/faultcleanup/laws.FnExactReachOf", spec := "fnExactReachOf", inPlace := ["internal/reflectlite.TypeOf"], unfollowed := true, recurses := true, apart := false, narrowed := true }
def FnExactReachOfUptoSaid : Prop := fnExactReachOfUptoRow.holds Try.pinned (OpenSpec.upto fnExactReachOfSpec)

/-- 'laws.FnExactIsolateFault', WHERE WHAT IT READS IS OF BULK AT MOST 1048576: true; the input reads as it did. -/
def fnExactIsolateFaultUptoRow : OpenClaim := { program := "ytildpenkanlcfaa", sum := "6e0e24547dbee69a5db21cdeeb9ffe958c8e34a3490d04aed939d9765b6e461c", func := "loop.example/faultcleanup/laws.FnExactIsolateFault", spec := "fnExactIsolateFault", inPlace := ["internal/reflectlite.TypeOf"], unfollowed := true, recurses := true, apart := false, narrowed := true }
def FnExactIsolateFaultUptoSaid : Prop := fnExactIsolateFaultUptoRow.holds Try.pinned (OpenSpec.upto fnExactIsolateFaultSpec)

/-- 'laws.FnExactJoinHeaps', WHERE WHAT IT READS IS OF BULK AT MOST 1048576: true; the input reads as it did. -/
def fnExactJoinHeapsUptoRow : OpenClaim := { program := "ytildpenkanlcfaa", sum := "6e0e24547dbee69a5db21cdeeb9ffe958c8e34a3490d04aed939d9765b6e461c", func := "loop.example/faultcleanup/laws.FnExactJoinHeaps", spec := "fnExactJoinHeaps", inPlace := ["internal/reflectlite.TypeOf"], unfollowed := true, recurses := true, apart := false, narrowed := true }
def FnExactJoinHeapsUptoSaid : Prop := fnExactJoinHeapsUptoRow.holds Try.pinned (OpenSpec.upto fnExactJoinHeapsSpec)

end Rows
end Go.Proofs.Ytildpenkanlcfaa
