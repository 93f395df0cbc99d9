/-
  No cell of these rows narrows 'for every input' (looked for: loops, veiled, ifaces, maps, wideKeys, modest, calm, conditions, laid).
  DERIVED. THE GIVEN ROWS OF THIS SEAT. 4 by the template 'for every input the law returns true; each argument reads behind the call as it read before'; 0 by the template 'total and deterministic' (their statements: YtkcblnhemdgjjaaTotals.lean).
  GIVEN WITH THE SEED: the statements are not yours to turn. If you find one false, say at which input.
  Laid BY PROGRAM, IN A SANDBOX (cutbox-rows.mjs): the forced cells as the released guide's own fill.sh prints them over the translation 004e8e2b4cb5737f… (all of the seat's roots in one cut). By AI agents, Wed Nov 11 2026. No macro, syntax, notation, axiom, sorry.
-/
import Derived.Test.YtkcblnhemdgjjaaChecked
import GoSem.Claim
import GoSem.ClaimJoined
import GoSem.ClaimMapViews
import Derived.JoinedTies
import Derived.KernelRfl
namespace Go.Proofs.Ytkcblnhemdgjjaa
/- THE CELL 'sum', in the pinned program and in every row, IS THE sha256 OF THE DUMP (.gsa) THAT YtkcblnhemdgjjaaProg.lean LOADS. Nothing in Lean hashes anything: it is a label: what it is worth is what the hold of that sum in a sandbox is worth. -/
noncomputable def Try.pinned : Pinned := { name := "ytkcblnhemdgjjaa", sum := "004e8e2b4cb5737f03188ce88daeebb5c7b1339b5907308e5492beaaae760945", checked := Try.checked }
namespace Rows
def none {H : Type} : Left H := { results := [], args := [] }

/-- 'laws.FnWayOut': WHATEVER THE INPUT: true; the input reads as it did. -/
def fnWayOutSpec : ChangeSpec := { name := "fnWayOut", fn := fun _ => fun
  | [d] => { results := [.lit (.bool true)], args := [d] }
  | _ => none }
def fnWayOutRow : OpenClaim := { program := "ytkcblnhemdgjjaa", sum := "004e8e2b4cb5737f03188ce88daeebb5c7b1339b5907308e5492beaaae760945", func := "loop.example/faultcleanup/laws.FnWayOut", spec := "fnWayOut", unfollowed := true, recurses := true, apart := false }
def FnWayOutSaid : Prop := fnWayOutRow.holds Try.pinned (OpenSpec.ofChange fnWayOutSpec)

/-- ITS FALSE NEIGHBOUR: 'it returns false'. Refute it at one input. -/
def fnWayOutWrong : ChangeSpec := { name := "fnWayOut", fn := fun _ => fun
  | [d] => { results := [.lit (.bool false)], args := [d] }
  | _ => none }
def FnWayOutWrongFalsely : Prop := fnWayOutRow.holds Try.pinned (OpenSpec.ofChange fnWayOutWrong)

/-- 'laws.FnWayToLoop': WHATEVER THE INPUT: true; the input reads as it did. -/
def fnWayToLoopSpec : ChangeSpec := { name := "fnWayToLoop", fn := fun _ => fun
  | [d] => { results := [.lit (.bool true)], args := [d] }
  | _ => none }
def fnWayToLoopRow : OpenClaim := { program := "ytkcblnhemdgjjaa", sum := "004e8e2b4cb5737f03188ce88daeebb5c7b1339b5907308e5492beaaae760945", func := "loop.example/faultcleanup/laws.FnWayToLoop", spec := "fnWayToLoop", unfollowed := true, recurses := true, apart := false }
def FnWayToLoopSaid : Prop := fnWayToLoopRow.holds Try.pinned (OpenSpec.ofChange fnWayToLoopSpec)

/-- ITS FALSE NEIGHBOUR: 'it returns false'. Refute it at one input. -/
def fnWayToLoopWrong : ChangeSpec := { name := "fnWayToLoop", fn := fun _ => fun
  | [d] => { results := [.lit (.bool false)], args := [d] }
  | _ => none }
def FnWayToLoopWrongFalsely : Prop := fnWayToLoopRow.holds Try.pinned (OpenSpec.ofChange fnWayToLoopWrong)

/-- 'laws.FnWayOfFault': WHATEVER THE INPUT: true; the input reads as it did. -/
def fnWayOfFaultSpec : ChangeSpec := { name := "fnWayOfFault", fn := fun _ => fun
  | [d] => { results := [.lit (.bool true)], args := [d] }
  | _ => none }
def fnWayOfFaultRow : OpenClaim := { program := "ytkcblnhemdgjjaa", sum := "004e8e2b4cb5737f03188ce88daeebb5c7b1339b5907308e5492beaaae760945", func := "loop.example/faultcleanup/laws.FnWayOfFault", spec := "fnWayOfFault", unfollowed := true, recurses := true, apart := false }
def FnWayOfFaultSaid : Prop := fnWayOfFaultRow.holds Try.pinned (OpenSpec.ofChange fnWayOfFaultSpec)

/-- ITS FALSE NEIGHBOUR: 'it returns false'. Refute it at one input. -/
def fnWayOfFaultWrong : ChangeSpec := { name := "fnWayOfFault", fn := fun _ => fun
  | [d] => { results := [.lit (.bool false)], args := [d] }
  | _ => none }
def FnWayOfFaultWrongFalsely : Prop := fnWayOfFaultRow.holds Try.pinned (OpenSpec.ofChange fnWayOfFaultWrong)

/-- 'laws.FnWayOutUp': WHATEVER THE INPUT: true; the input reads as it did. -/
def fnWayOutUpSpec : ChangeSpec := { name := "fnWayOutUp", fn := fun _ => fun
  | [d] => { results := [.lit (.bool true)], args := [d] }
  | _ => none }
def fnWayOutUpRow : OpenClaim := { program := "ytkcblnhemdgjjaa", sum := "004e8e2b4cb5737f03188ce88daeebb5c7b1339b5907308e5492beaaae760945", func := "loop.example/faultcleanup/laws.FnWayOutUp", spec := "fnWayOutUp", unfollowed := true, recurses := true, apart := false }
def FnWayOutUpSaid : Prop := fnWayOutUpRow.holds Try.pinned (OpenSpec.ofChange fnWayOutUpSpec)

/-- ITS FALSE NEIGHBOUR: 'it returns false'. Refute it at one input. -/
def fnWayOutUpWrong : ChangeSpec := { name := "fnWayOutUp", fn := fun _ => fun
  | [d] => { results := [.lit (.bool false)], args := [d] }
  | _ => none }
def FnWayOutUpWrongFalsely : Prop := fnWayOutUpRow.holds Try.pinned (OpenSpec.ofChange fnWayOutUpWrong)

/- THE SECOND FORM. 'bulk': how many values and letters a reading holds, each counted each time it is reached (what is shared counts as often as it is met; a slice's spare places count too). A statement '..UptoSaid' is the law's where the arguments, and the package variables that the reading takes, are together of bulk at most 1048576: NARROWER than '..Said'. Prove '..Said' where nothing that the law and all that it calls make is longer than what came in: it says more and counts as full. Else prove '..UptoSaid'. A law counts once. -/
mutual
def uptoBulk {H : Type} : DataW H → Nat
  | .lit (.string bytes) => bytes.length + 1
  | .lit _ => 1
  | .nil => 1
  | .ptr d => uptoBulk d + 1
  | .slice elems spare => uptoBulkAll elems + uptoBulkAll spare + 1
  | .agg parts => uptoBulkAll parts + 1
  | .iface _ d => uptoBulk d + 1
  | .map entries => uptoBulkEntries entries + 1
  | .held _ => 1
def uptoBulkAll {H : Type} : List (DataW H) → Nat
  | [] => 0
  | d :: r => uptoBulk d + uptoBulkAll r
def uptoBulkEntries {H : Type} : List (Lit × DataW H) → Nat
  | [] => 0
  | x :: r => uptoBulkEntry x + uptoBulkEntries r
def uptoBulkEntry {H : Type} : Lit × DataW H → Nat
  | (.string bytes, d) => bytes.length + uptoBulk d + 1
  | (_, d) => uptoBulk d + 1
 end
def uptoSmall : (H : Type) → List (DataW H) → Bool := fun _ ds => decide (uptoBulkAll ds ≤ 1048576)
def OpenSpec.upto (s : _root_.Go.ChangeSpec) : _root_.Go.OpenSpec := { _root_.Go.OpenSpec.ofChange s with cond := some uptoSmall }

/-- 'laws.FnWayOut', WHERE WHAT IT READS IS OF BULK AT MOST 1048576: true; the input reads as it did. -/
def fnWayOutUptoRow : OpenClaim := { program := "ytkcblnhemdgjjaa", sum := "004e8e2b4cb5737f03188ce88daeebb5c7b1339b5907308e5492beaaae760945", func := "loop.example/faultcleanup/laws.FnWayOut", spec := "fnWayOut", unfollowed := true, recurses := true, apart := false, narrowed := true }
def FnWayOutUptoSaid : Prop := fnWayOutUptoRow.holds Try.pinned (OpenSpec.upto fnWayOutSpec)

/-- 'laws.FnWayToLoop', WHERE WHAT IT READS IS OF BULK AT MOST 1048576: true; the input reads as it did. -/
def fnWayToLoopUptoRow : OpenClaim := { program := "ytkcblnhemdgjjaa", sum := "004e8e2b4cb5737f03188ce88daeebb5c7b1339b5907308e5492beaaae760945", func := "loop.example/faultcleanup/laws.FnWayToLoop", spec := "fnWayToLoop", unfollowed := true, recurses := true, apart := false, narrowed := true }
def FnWayToLoopUptoSaid : Prop := fnWayToLoopUptoRow.holds Try.pinned (OpenSpec.upto fnWayToLoopSpec)

/-- 'laws.FnWayOfFault', WHERE WHAT IT READS IS OF BULK AT MOST 1048576: true; the input reads as it did. -/
def fnWayOfFaultUptoRow : OpenClaim := { program := "ytkcblnhemdgjjaa", sum := "004e8e2b4cb5737f03188ce88daeebb5c7b1339b5907308e5492beaaae760945", func := "loop.example/faultcleanup/laws.FnWayOfFault", spec := "fnWayOfFault", unfollowed := true, recurses := true, apart := false, narrowed := true }
def FnWayOfFaultUptoSaid : Prop := fnWayOfFaultUptoRow.holds Try.pinned (OpenSpec.upto fnWayOfFaultSpec)

/-- 'laws.FnWayOutUp', WHERE WHAT IT READS IS OF BULK AT MOST 1048576: true; the input reads as it did. -/
def fnWayOutUpUptoRow : OpenClaim := { program := "ytkcblnhemdgjjaa", sum := "004e8e2b4cb5737f03188ce88daeebb5c7b1339b5907308e5492beaaae760945", func := "loop.example/faultcleanup/laws.FnWayOutUp", spec := "fnWayOutUp", unfollowed := true, recurses := true, apart := false, narrowed := true }
def FnWayOutUpUptoSaid : Prop := fnWayOutUpUptoRow.holds Try.pinned (OpenSpec.upto fnWayOutUpSpec)

end Rows
end Go.Proofs.Ytkcblnhemdgjjaa
