/-
  No cell of these rows narrows 'for every input' (looked for: loops, veiled, ifaces, maps, wideKeys, modest, calm, conditions, laid).
  DERIVED. THE GIVEN ROWS OF THIS SEAT. 6 by the template 'for every input the law returns true; each argument reads behind the call as it read before'; 0 by the template 'total and deterministic' (their statements: YtgjpbpoadonpjaaTotals.lean).
  GIVEN WITH THE SEED: the statements are not yours to turn. If you find one false, say at which input.
  Laid BY PROGRAM, IN A SANDBOX (cutbox-rows.mjs): the forced cells as the released guide's own fill.sh prints them over the translation dacf3431596c3083… (all of the seat's roots in one cut). By AI agents, Wed Nov 11 2026. No macro, syntax, notation, axiom, sorry.
-/
import Derived.Test.YtgjpbpoadonpjaaChecked
import GoSem.Claim
import GoSem.ClaimJoined
import GoSem.ClaimMapViews
import Derived.JoinedTies
import Derived.KernelRfl
namespace Go.Proofs.Ytgjpbpoadonpjaa
/- THE CELL 'sum', in the pinned program and in every row, IS THE sha256 OF THE DUMP (.gsa) THAT YtgjpbpoadonpjaaProg.lean LOADS. Nothing in Lean hashes anything: it is a label: what it is worth is what the hold of that sum in a sandbox is worth. -/
noncomputable def Try.pinned : Pinned := { name := "ytgjpbpoadonpjaa", sum := "dacf3431596c3083c11db7e207bee4e5f63b51263dfaa6bb635bb52a1280508f", checked := Try.checked }
namespace Rows
def none {H : Type} : Left H := { results := [], args := [] }

/-- 'laws.FnExactLowerWith': WHATEVER THE INPUT: true; the input reads as it did. -/
def fnExactLowerWithSpec : ChangeSpec := { name := "fnExactLowerWith", fn := fun _ => fun
  | [d1, d2] => { results := [.lit (.bool true)], args := [d1, d2] }
  | _ => none }
def fnExactLowerWithRow : OpenClaim := { program := "ytgjpbpoadonpjaa", sum := "dacf3431596c3083c11db7e207bee4e5f63b51263dfaa6bb635bb52a1280508f", func := "loop.example/faultcleanup/laws.FnExactLowerWith", spec := "fnExactLowerWith", unfollowed := true, recurses := true, apart := false }
def FnExactLowerWithSaid : Prop := fnExactLowerWithRow.holds Try.pinned (OpenSpec.ofChange fnExactLowerWithSpec)

/-- ITS FALSE NEIGHBOUR: 'it returns false'. Refute it at one input. -/
def fnExactLowerWithWrong : ChangeSpec := { name := "fnExactLowerWith", fn := fun _ => fun
  | [d1, d2] => { results := [.lit (.bool false)], args := [d1, d2] }
  | _ => none }
def FnExactLowerWithWrongFalsely : Prop := fnExactLowerWithRow.holds Try.pinned (OpenSpec.ofChange fnExactLowerWithWrong)

/-- 'laws.FnExactWayOut': WHATEVER THE INPUT: true; the input reads as it did. -/
def fnExactWayOutSpec : ChangeSpec := { name := "fnExactWayOut", fn := fun _ => fun
  | [d1, d2, d3] => { results := [.lit (.bool true)], args := [d1, d2, d3] }
  | _ => none }
def fnExactWayOutRow : OpenClaim := { program := "ytgjpbpoadonpjaa", sum := "dacf3431596c3083c11db7e207bee4e5f63b51263dfaa6bb635bb52a1280508f", func := "loop.example/faultcleanup/laws.FnExactWayOut", spec := "fnExactWayOut", unfollowed := true, recurses := true, apart := false }
def FnExactWayOutSaid : Prop := fnExactWayOutRow.holds Try.pinned (OpenSpec.ofChange fnExactWayOutSpec)

/-- ITS FALSE NEIGHBOUR: 'it returns false'. Refute it at one input. -/
def fnExactWayOutWrong : ChangeSpec := { name := "fnExactWayOut", fn := fun _ => fun
  | [d1, d2, d3] => { results := [.lit (.bool false)], args := [d1, d2, d3] }
  | _ => none }
def FnExactWayOutWrongFalsely : Prop := fnExactWayOutRow.holds Try.pinned (OpenSpec.ofChange fnExactWayOutWrong)

/-- 'laws.FnExactWayToLoop': WHATEVER THE INPUT: true; the input reads as it did. -/
def fnExactWayToLoopSpec : ChangeSpec := { name := "fnExactWayToLoop", fn := fun _ => fun
  | [d1, d2, d3] => { results := [.lit (.bool true)], args := [d1, d2, d3] }
  | _ => none }
def fnExactWayToLoopRow : OpenClaim := { program := "ytgjpbpoadonpjaa", sum := "dacf3431596c3083c11db7e207bee4e5f63b51263dfaa6bb635bb52a1280508f", func := "loop.example/faultcleanup/laws.FnExactWayToLoop", spec := "fnExactWayToLoop", unfollowed := true, recurses := true, apart := false }
def FnExactWayToLoopSaid : Prop := fnExactWayToLoopRow.holds Try.pinned (OpenSpec.ofChange fnExactWayToLoopSpec)

/-- ITS FALSE NEIGHBOUR: 'it returns false'. Refute it at one input. -/
def fnExactWayToLoopWrong : ChangeSpec := { name := "fnExactWayToLoop", fn := fun _ => fun
  | [d1, d2, d3] => { results := [.lit (.bool false)], args := [d1, d2, d3] }
  | _ => none }
def FnExactWayToLoopWrongFalsely : Prop := fnExactWayToLoopRow.holds Try.pinned (OpenSpec.ofChange fnExactWayToLoopWrong)

/-- 'laws.FnExactWayOfFault': WHATEVER THE INPUT: true; the input reads as it did. -/
def fnExactWayOfFaultSpec : ChangeSpec := { name := "fnExactWayOfFault", fn := fun _ => fun
  | [d1, d2, d3, d4] => { results := [.lit (.bool true)], args := [d1, d2, d3, d4] }
  | _ => none }
def fnExactWayOfFaultRow : OpenClaim := { program := "ytgjpbpoadonpjaa", sum := "dacf3431596c3083c11db7e207bee4e5f63b51263dfaa6bb635bb52a1280508f", func := "loop.example/faultcleanup/laws.FnExactWayOfFault", spec := "fnExactWayOfFault", unfollowed := true, recurses := true, apart := false }
def FnExactWayOfFaultSaid : Prop := fnExactWayOfFaultRow.holds Try.pinned (OpenSpec.ofChange fnExactWayOfFaultSpec)

/-- ITS FALSE NEIGHBOUR: 'it returns false'. Refute it at one input. -/
def fnExactWayOfFaultWrong : ChangeSpec := { name := "fnExactWayOfFault", fn := fun _ => fun
  | [d1, d2, d3, d4] => { results := [.lit (.bool false)], args := [d1, d2, d3, d4] }
  | _ => none }
def FnExactWayOfFaultWrongFalsely : Prop := fnExactWayOfFaultRow.holds Try.pinned (OpenSpec.ofChange fnExactWayOfFaultWrong)

/-- 'laws.FnExactFirstJump': WHATEVER THE INPUT: true; the input reads as it did. -/
def fnExactFirstJumpSpec : ChangeSpec := { name := "fnExactFirstJump", fn := fun _ => fun
  | [d1, d2] => { results := [.lit (.bool true)], args := [d1, d2] }
  | _ => none }
def fnExactFirstJumpRow : OpenClaim := { program := "ytgjpbpoadonpjaa", sum := "dacf3431596c3083c11db7e207bee4e5f63b51263dfaa6bb635bb52a1280508f", func := "loop.example/faultcleanup/laws.FnExactFirstJump", spec := "fnExactFirstJump", unfollowed := true, recurses := true, apart := false }
def FnExactFirstJumpSaid : Prop := fnExactFirstJumpRow.holds Try.pinned (OpenSpec.ofChange fnExactFirstJumpSpec)

/-- ITS FALSE NEIGHBOUR: 'it returns false'. Refute it at one input. -/
def fnExactFirstJumpWrong : ChangeSpec := { name := "fnExactFirstJump", fn := fun _ => fun
  | [d1, d2] => { results := [.lit (.bool false)], args := [d1, d2] }
  | _ => none }
def FnExactFirstJumpWrongFalsely : Prop := fnExactFirstJumpRow.holds Try.pinned (OpenSpec.ofChange fnExactFirstJumpWrong)

/-- 'laws.FnExactDeadLines': WHATEVER THE INPUT: true; the input reads as it did. -/
def fnExactDeadLinesSpec : ChangeSpec := { name := "fnExactDeadLines", fn := fun _ => fun
  | [d1, d2] => { results := [.lit (.bool true)], args := [d1, d2] }
  | _ => none }
def fnExactDeadLinesRow : OpenClaim := { program := "ytgjpbpoadonpjaa", sum := "dacf3431596c3083c11db7e207bee4e5f63b51263dfaa6bb635bb52a1280508f", func := "loop.example/faultcleanup/laws.FnExactDeadLines", spec := "fnExactDeadLines", unfollowed := true, recurses := true, apart := false }
def FnExactDeadLinesSaid : Prop := fnExactDeadLinesRow.holds Try.pinned (OpenSpec.ofChange fnExactDeadLinesSpec)

/-- ITS FALSE NEIGHBOUR: 'it returns false'. Refute it at one input. -/
def fnExactDeadLinesWrong : ChangeSpec := { name := "fnExactDeadLines", fn := fun _ => fun
  | [d1, d2] => { results := [.lit (.bool false)], args := [d1, d2] }
  | _ => none }
def FnExactDeadLinesWrongFalsely : Prop := fnExactDeadLinesRow.holds Try.pinned (OpenSpec.ofChange fnExactDeadLinesWrong)

/- THE SECOND FORM. 'bulk': how many values and letters a reading holds, each counted each time it is reached (what is shared counts as often as it is met; a slice's spare places count too). A statement '..UptoSaid' is the law's where the arguments, and the package variables that the reading takes, are together of bulk at most 1048576: NARROWER than '..Said'. Prove '..Said' where nothing that the law and all that it calls make is longer than what came in: it says more and counts as full. Else prove '..UptoSaid'. A law counts once. -/
mutual
def uptoBulk {H : Type} : DataW H → Nat
  | .lit (.string bytes) => bytes.length + 1
  | .lit _ => 1
  | .nil => 1
  | .ptr d => uptoBulk d + 1
  | .slice elems spare => uptoBulkAll elems + uptoBulkAll spare + 1
  | .agg parts => uptoBulkAll parts + 1
  | .iface _ d => uptoBulk d + 1
  | .map entries => uptoBulkEntries entries + 1
  | .held _ => 1
def uptoBulkAll {H : Type} : List (DataW H) → Nat
  | [] => 0
  | d :: r => uptoBulk d + uptoBulkAll r
def uptoBulkEntries {H : Type} : List (Lit × DataW H) → Nat
  | [] => 0
  | x :: r => uptoBulkEntry x + uptoBulkEntries r
def uptoBulkEntry {H : Type} : Lit × DataW H → Nat
  | (.string bytes, d) => bytes.length + uptoBulk d + 1
  | (_, d) => uptoBulk d + 1
 end
def uptoSmall : (H : Type) → List (DataW H) → Bool := fun _ ds => decide (uptoBulkAll ds ≤ 1048576)
def OpenSpec.upto (s : _root_.Go.ChangeSpec) : _root_.Go.OpenSpec := { _root_.Go.OpenSpec.ofChange s with cond := some uptoSmall }

/-- 'laws.FnExactLowerWith', WHERE WHAT IT READS IS OF BULK AT MOST 1048576: true; the input reads as it did. -/
def fnExactLowerWithUptoRow : OpenClaim := { program := "ytgjpbpoadonpjaa", sum := "dacf3431596c3083c11db7e207bee4e5f63b51263dfaa6bb635bb52a1280508f", func := "loop.example/faultcleanup/laws.FnExactLowerWith", spec := "fnExactLowerWith", unfollowed := true, recurses := true, apart := false, narrowed := true }
def FnExactLowerWithUptoSaid : Prop := fnExactLowerWithUptoRow.holds Try.pinned (OpenSpec.upto fnExactLowerWithSpec)

/-- 'laws.FnExactWayOut', WHERE WHAT IT READS IS OF BULK AT MOST 1048576: true; the input reads as it did. -/
def fnExactWayOutUptoRow : OpenClaim := { program := "ytgjpbpoadonpjaa", sum := "dacf3431596c3083c11db7e207bee4e5f63b51263dfaa6bb635bb52a1280508f", func := "loop.example/faultcleanup/laws.FnExactWayOut", spec := "fnExactWayOut", unfollowed := true, recurses := true, apart := false, narrowed := true }
def FnExactWayOutUptoSaid : Prop := fnExactWayOutUptoRow.holds Try.pinned (OpenSpec.upto fnExactWayOutSpec)

/-- 'laws.FnExactWayToLoop', WHERE WHAT IT READS IS OF BULK AT MOST 1048576: true; the input reads as it did. -/
def fnExactWayToLoopUptoRow : OpenClaim := { program := "ytgjpbpoadonpjaa", sum := "dacf3431596c3083c11db7e207bee4e5f63b51263dfaa6bb635bb52a1280508f", func := "loop.example/faultcleanup/laws.FnExactWayToLoop", spec := "fnExactWayToLoop", unfollowed := true, recurses := true, apart := false, narrowed := true }
def FnExactWayToLoopUptoSaid : Prop := fnExactWayToLoopUptoRow.holds Try.pinned (OpenSpec.upto fnExactWayToLoopSpec)

/-- 'laws.FnExactWayOfFault', WHERE WHAT IT READS IS OF BULK AT MOST 1048576: true; the input reads as it did. -/
def fnExactWayOfFaultUptoRow : OpenClaim := { program := "ytgjpbpoadonpjaa", sum := "dacf3431596c3083c11db7e207bee4e5f63b51263dfaa6bb635bb52a1280508f", func := "loop.example/faultcleanup/laws.FnExactWayOfFault", spec := "fnExactWayOfFault", unfollowed := true, recurses := true, apart := false, narrowed := true }
def FnExactWayOfFaultUptoSaid : Prop := fnExactWayOfFaultUptoRow.holds Try.pinned (OpenSpec.upto fnExactWayOfFaultSpec)

/-- 'laws.FnExactFirstJump', WHERE WHAT IT READS IS OF BULK AT MOST 1048576: true; the input reads as it did. -/
def fnExactFirstJumpUptoRow : OpenClaim := { program := "ytgjpbpoadonpjaa", sum := "dacf3431596c3083c11db7e207bee4e5f63b51263dfaa6bb635bb52a1280508f", func := "loop.example/faultcleanup/laws.FnExactFirstJump", spec := "fnExactFirstJump", unfollowed := true, recurses := true, apart := false, narrowed := true }
def FnExactFirstJumpUptoSaid : Prop := fnExactFirstJumpUptoRow.holds Try.pinned (OpenSpec.upto fnExactFirstJumpSpec)

/-- 'laws.FnExactDeadLines', WHERE WHAT IT READS IS OF BULK AT MOST 1048576: true; the input reads as it did. -/
def fnExactDeadLinesUptoRow : OpenClaim := { program := "ytgjpbpoadonpjaa", sum := "dacf3431596c3083c11db7e207bee4e5f63b51263dfaa6bb635bb52a1280508f", func := "loop.example/faultcleanup/laws.FnExactDeadLines", spec := "fnExactDeadLines", unfollowed := true, recurses := true, apart := false, narrowed := true }
def FnExactDeadLinesUptoSaid : Prop := fnExactDeadLinesUptoRow.holds Try.pinned (OpenSpec.upto fnExactDeadLinesSpec)

end Rows
end Go.Proofs.Ytgjpbpoadonpjaa
