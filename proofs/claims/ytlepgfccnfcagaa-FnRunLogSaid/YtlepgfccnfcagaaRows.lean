/-
  No cell of these rows narrows 'for every input' (looked for: loops, veiled, ifaces, maps, wideKeys, modest, calm, conditions, laid).
  DERIVED. THE GIVEN ROWS OF THIS SEAT. 7 by the template 'for every input the law returns true; each argument reads behind the call as it read before'; 0 by the template 'total and deterministic' (their statements: YtlepgfccnfcagaaTotals.lean).
  GIVEN WITH THE SEED: the statements are not yours to turn. If you find one false, say at which input.
  Laid BY PROGRAM, IN A SANDBOX (cutbox-rows.mjs): the forced cells as the released guide's own fill.sh prints them over the translation ae7de3b9620306ef… (all of the seat's roots in one cut). By AI agents, Wed Nov 11 2026. No macro, syntax, notation, axiom, sorry.
-/
import Derived.Test.YtlepgfccnfcagaaChecked
import GoSem.Claim
import GoSem.ClaimJoined
import GoSem.ClaimMapViews
import Derived.JoinedTies
import Derived.KernelRfl
namespace Go.Proofs.Ytlepgfccnfcagaa
/- THE CELL 'sum', in the pinned program and in every row, IS THE sha256 OF THE DUMP (.gsa) THAT YtlepgfccnfcagaaProg.lean LOADS. Nothing in Lean hashes anything: it is a label: what it is worth is what the hold of that sum in a sandbox is worth. -/
noncomputable def Try.pinned : Pinned := { name := "ytlepgfccnfcagaa", sum := "ae7de3b9620306efb22a6a854dd4ff4e2b10f20b9c89a3734c96335eeacc7426", checked := Try.checked }
namespace Rows
def none {H : Type} : Left H := { results := [], args := [] }

/-- 'laws.FnRunProgramOpen': WHATEVER THE INPUT: true; the input reads as it did. -/
def fnRunProgramOpenSpec : ChangeSpec := { name := "fnRunProgramOpen", fn := fun _ => fun
  | [d] => { results := [.lit (.bool true)], args := [d] }
  | _ => none }
def fnRunProgramOpenRow : OpenClaim := { program := "ytlepgfccnfcagaa", sum := "ae7de3b9620306efb22a6a854dd4ff4e2b10f20b9c89a3734c96335eeacc7426", func := "loop.example/faultcleanup/laws.FnRunProgramOpen", spec := "fnRunProgramOpen", unfollowed := true, recurses := true, apart := false }
def FnRunProgramOpenSaid : Prop := fnRunProgramOpenRow.holds Try.pinned (OpenSpec.ofChange fnRunProgramOpenSpec)

/-- ITS FALSE NEIGHBOUR: 'it returns false'. Refute it at one input. -/
def fnRunProgramOpenWrong : ChangeSpec := { name := "fnRunProgramOpen", fn := fun _ => fun
  | [d] => { results := [.lit (.bool false)], args := [d] }
  | _ => none }
def FnRunProgramOpenWrongFalsely : Prop := fnRunProgramOpenRow.holds Try.pinned (OpenSpec.ofChange fnRunProgramOpenWrong)

/-- 'laws.FnRunLog': WHATEVER THE INPUT: true; the input reads as it did. -/
def fnRunLogSpec : ChangeSpec := { name := "fnRunLog", fn := fun _ => fun
  | [d] => { results := [.lit (.bool true)], args := [d] }
  | _ => none }
def fnRunLogRow : OpenClaim := { program := "ytlepgfccnfcagaa", sum := "ae7de3b9620306efb22a6a854dd4ff4e2b10f20b9c89a3734c96335eeacc7426", func := "loop.example/faultcleanup/laws.FnRunLog", spec := "fnRunLog", unfollowed := true, recurses := true, apart := false }
def FnRunLogSaid : Prop := fnRunLogRow.holds Try.pinned (OpenSpec.ofChange fnRunLogSpec)

/-- ITS FALSE NEIGHBOUR: 'it returns false'. Refute it at one input. -/
def fnRunLogWrong : ChangeSpec := { name := "fnRunLog", fn := fun _ => fun
  | [d] => { results := [.lit (.bool false)], args := [d] }
  | _ => none }
def FnRunLogWrongFalsely : Prop := fnRunLogRow.holds Try.pinned (OpenSpec.ofChange fnRunLogWrong)

/-- 'laws.FnThenProgram': WHATEVER THE INPUT: true; the input reads as it did. -/
def fnThenProgramSpec : ChangeSpec := { name := "fnThenProgram", fn := fun _ => fun
  | [d] => { results := [.lit (.bool true)], args := [d] }
  | _ => none }
def fnThenProgramRow : OpenClaim := { program := "ytlepgfccnfcagaa", sum := "ae7de3b9620306efb22a6a854dd4ff4e2b10f20b9c89a3734c96335eeacc7426", func := "loop.example/faultcleanup/laws.FnThenProgram", spec := "fnThenProgram", unfollowed := true, recurses := true, apart := false }
def FnThenProgramSaid : Prop := fnThenProgramRow.holds Try.pinned (OpenSpec.ofChange fnThenProgramSpec)

/-- ITS FALSE NEIGHBOUR: 'it returns false'. Refute it at one input. -/
def fnThenProgramWrong : ChangeSpec := { name := "fnThenProgram", fn := fun _ => fun
  | [d] => { results := [.lit (.bool false)], args := [d] }
  | _ => none }
def FnThenProgramWrongFalsely : Prop := fnThenProgramRow.holds Try.pinned (OpenSpec.ofChange fnThenProgramWrong)

/-- 'laws.FnWithFinally': WHATEVER THE INPUT: true; the input reads as it did. -/
def fnWithFinallySpec : ChangeSpec := { name := "fnWithFinally", fn := fun _ => fun
  | [d] => { results := [.lit (.bool true)], args := [d] }
  | _ => none }
def fnWithFinallyRow : OpenClaim := { program := "ytlepgfccnfcagaa", sum := "ae7de3b9620306efb22a6a854dd4ff4e2b10f20b9c89a3734c96335eeacc7426", func := "loop.example/faultcleanup/laws.FnWithFinally", spec := "fnWithFinally", unfollowed := true, recurses := true, apart := false }
def FnWithFinallySaid : Prop := fnWithFinallyRow.holds Try.pinned (OpenSpec.ofChange fnWithFinallySpec)

/-- ITS FALSE NEIGHBOUR: 'it returns false'. Refute it at one input. -/
def fnWithFinallyWrong : ChangeSpec := { name := "fnWithFinally", fn := fun _ => fun
  | [d] => { results := [.lit (.bool false)], args := [d] }
  | _ => none }
def FnWithFinallyWrongFalsely : Prop := fnWithFinallyRow.holds Try.pinned (OpenSpec.ofChange fnWithFinallyWrong)

/-- 'laws.FnInLoop': WHATEVER THE INPUT: true; the input reads as it did. -/
def fnInLoopSpec : ChangeSpec := { name := "fnInLoop", fn := fun _ => fun
  | [d] => { results := [.lit (.bool true)], args := [d] }
  | _ => none }
def fnInLoopRow : OpenClaim := { program := "ytlepgfccnfcagaa", sum := "ae7de3b9620306efb22a6a854dd4ff4e2b10f20b9c89a3734c96335eeacc7426", func := "loop.example/faultcleanup/laws.FnInLoop", spec := "fnInLoop", unfollowed := true, recurses := true, apart := false }
def FnInLoopSaid : Prop := fnInLoopRow.holds Try.pinned (OpenSpec.ofChange fnInLoopSpec)

/-- ITS FALSE NEIGHBOUR: 'it returns false'. Refute it at one input. -/
def fnInLoopWrong : ChangeSpec := { name := "fnInLoop", fn := fun _ => fun
  | [d] => { results := [.lit (.bool false)], args := [d] }
  | _ => none }
def FnInLoopWrongFalsely : Prop := fnInLoopRow.holds Try.pinned (OpenSpec.ofChange fnInLoopWrong)

/-- 'laws.FnInLoopTwice': WHATEVER THE INPUT: true; the input reads as it did. -/
def fnInLoopTwiceSpec : ChangeSpec := { name := "fnInLoopTwice", fn := fun _ => fun
  | [d] => { results := [.lit (.bool true)], args := [d] }
  | _ => none }
def fnInLoopTwiceRow : OpenClaim := { program := "ytlepgfccnfcagaa", sum := "ae7de3b9620306efb22a6a854dd4ff4e2b10f20b9c89a3734c96335eeacc7426", func := "loop.example/faultcleanup/laws.FnInLoopTwice", spec := "fnInLoopTwice", unfollowed := true, recurses := true, apart := false }
def FnInLoopTwiceSaid : Prop := fnInLoopTwiceRow.holds Try.pinned (OpenSpec.ofChange fnInLoopTwiceSpec)

/-- ITS FALSE NEIGHBOUR: 'it returns false'. Refute it at one input. -/
def fnInLoopTwiceWrong : ChangeSpec := { name := "fnInLoopTwice", fn := fun _ => fun
  | [d] => { results := [.lit (.bool false)], args := [d] }
  | _ => none }
def FnInLoopTwiceWrongFalsely : Prop := fnInLoopTwiceRow.holds Try.pinned (OpenSpec.ofChange fnInLoopTwiceWrong)

/-- 'laws.FnWithExceptRoot': WHATEVER THE INPUT: true; the input reads as it did. -/
def fnWithExceptRootSpec : ChangeSpec := { name := "fnWithExceptRoot", fn := fun _ => fun
  | [d] => { results := [.lit (.bool true)], args := [d] }
  | _ => none }
def fnWithExceptRootRow : OpenClaim := { program := "ytlepgfccnfcagaa", sum := "ae7de3b9620306efb22a6a854dd4ff4e2b10f20b9c89a3734c96335eeacc7426", func := "loop.example/faultcleanup/laws.FnWithExceptRoot", spec := "fnWithExceptRoot", unfollowed := true, recurses := true, apart := false }
def FnWithExceptRootSaid : Prop := fnWithExceptRootRow.holds Try.pinned (OpenSpec.ofChange fnWithExceptRootSpec)

/-- ITS FALSE NEIGHBOUR: 'it returns false'. Refute it at one input. -/
def fnWithExceptRootWrong : ChangeSpec := { name := "fnWithExceptRoot", fn := fun _ => fun
  | [d] => { results := [.lit (.bool false)], args := [d] }
  | _ => none }
def FnWithExceptRootWrongFalsely : Prop := fnWithExceptRootRow.holds Try.pinned (OpenSpec.ofChange fnWithExceptRootWrong)

/- THE SECOND FORM. 'bulk': how many values and letters a reading holds, each counted each time it is reached (what is shared counts as often as it is met; a slice's spare places count too). A statement '..UptoSaid' is the law's where the arguments, and the package variables that the reading takes, are together of bulk at most 1048576: NARROWER than '..Said'. Prove '..Said' where nothing that the law and all that it calls make is longer than what came in: it says more and counts as full. Else prove '..UptoSaid'. A law counts once. -/
mutual
def uptoBulk {H : Type} : DataW H → Nat
  | .lit (.string bytes) => bytes.length + 1
  | .lit _ => 1
  | .nil => 1
  | .ptr d => uptoBulk d + 1
  | .slice elems spare => uptoBulkAll elems + uptoBulkAll spare + 1
  | .agg parts => uptoBulkAll parts + 1
  | .iface _ d => uptoBulk d + 1
  | .map entries => uptoBulkEntries entries + 1
  | .held _ => 1
def uptoBulkAll {H : Type} : List (DataW H) → Nat
  | [] => 0
  | d :: r => uptoBulk d + uptoBulkAll r
def uptoBulkEntries {H : Type} : List (Lit × DataW H) → Nat
  | [] => 0
  | x :: r => uptoBulkEntry x + uptoBulkEntries r
def uptoBulkEntry {H : Type} : Lit × DataW H → Nat
  | (.string bytes, d) => bytes.length + uptoBulk d + 1
  | (_, d) => uptoBulk d + 1
 end
def uptoSmall : (H : Type) → List (DataW H) → Bool := fun _ ds => decide (uptoBulkAll ds ≤ 1048576)
def OpenSpec.upto (s : _root_.Go.ChangeSpec) : _root_.Go.OpenSpec := { _root_.Go.OpenSpec.ofChange s with cond := some uptoSmall }

/-- 'laws.FnRunProgramOpen', WHERE WHAT IT READS IS OF BULK AT MOST 1048576: true; the input reads as it did. -/
def fnRunProgramOpenUptoRow : OpenClaim := { program := "ytlepgfccnfcagaa", sum := "ae7de3b9620306efb22a6a854dd4ff4e2b10f20b9c89a3734c96335eeacc7426", func := "loop.example/faultcleanup/laws.FnRunProgramOpen", spec := "fnRunProgramOpen", unfollowed := true, recurses := true, apart := false, narrowed := true }
def FnRunProgramOpenUptoSaid : Prop := fnRunProgramOpenUptoRow.holds Try.pinned (OpenSpec.upto fnRunProgramOpenSpec)

/-- 'laws.FnRunLog', WHERE WHAT IT READS IS OF BULK AT MOST 1048576: true; the input reads as it did. -/
def fnRunLogUptoRow : OpenClaim := { program := "ytlepgfccnfcagaa", sum := "ae7de3b9620306efb22a6a854dd4ff4e2b10f20b9c89a3734c96335eeacc7426", func := "loop.example/faultcleanup/laws.FnRunLog", spec := "fnRunLog", unfollowed := true, recurses := true, apart := false, narrowed := true }
def FnRunLogUptoSaid : Prop := fnRunLogUptoRow.holds Try.pinned (OpenSpec.upto fnRunLogSpec)

/-- 'laws.FnThenProgram', WHERE WHAT IT READS IS OF BULK AT MOST 1048576: true; the input reads as it did. -/
def fnThenProgramUptoRow : OpenClaim := { program := "ytlepgfccnfcagaa", sum := "ae7de3b9620306efb22a6a854dd4ff4e2b10f20b9c89a3734c96335eeacc7426", func := "loop.example/faultcleanup/laws.FnThenProgram", spec := "fnThenProgram", unfollowed := true, recurses := true, apart := false, narrowed := true }
def FnThenProgramUptoSaid : Prop := fnThenProgramUptoRow.holds Try.pinned (OpenSpec.upto fnThenProgramSpec)

/-- 'laws.FnWithFinally', WHERE WHAT IT READS IS OF BULK AT MOST 1048576: true; the input reads as it did. -/
def fnWithFinallyUptoRow : OpenClaim := { program := "ytlepgfccnfcagaa", sum := "ae7de3b9620306efb22a6a854dd4ff4e2b10f20b9c89a3734c96335eeacc7426", func := "loop.example/faultcleanup/laws.FnWithFinally", spec := "fnWithFinally", unfollowed := true, recurses := true, apart := false, narrowed := true }
def FnWithFinallyUptoSaid : Prop := fnWithFinallyUptoRow.holds Try.pinned (OpenSpec.upto fnWithFinallySpec)

/-- 'laws.FnInLoop', WHERE WHAT IT READS IS OF BULK AT MOST 1048576: true; the input reads as it did. -/
def fnInLoopUptoRow : OpenClaim := { program := "ytlepgfccnfcagaa", sum := "ae7de3b9620306efb22a6a854dd4ff4e2b10f20b9c89a3734c96335eeacc7426", func := "loop.example/faultcleanup/laws.FnInLoop", spec := "fnInLoop", unfollowed := true, recurses := true, apart := false, narrowed := true }
def FnInLoopUptoSaid : Prop := fnInLoopUptoRow.holds Try.pinned (OpenSpec.upto fnInLoopSpec)

/-- 'laws.FnInLoopTwice', WHERE WHAT IT READS IS OF BULK AT MOST 1048576: true; the input reads as it did. -/
def fnInLoopTwiceUptoRow : OpenClaim := { program := "ytlepgfccnfcagaa", sum := "ae7de3b9620306efb22a6a854dd4ff4e2b10f20b9c89a3734c96335eeacc7426", func := "loop.example/faultcleanup/laws.FnInLoopTwice", spec := "fnInLoopTwice", unfollowed := true, recurses := true, apart := false, narrowed := true }
def FnInLoopTwiceUptoSaid : Prop := fnInLoopTwiceUptoRow.holds Try.pinned (OpenSpec.upto fnInLoopTwiceSpec)

/-- 'laws.FnWithExceptRoot', WHERE WHAT IT READS IS OF BULK AT MOST 1048576: true; the input reads as it did. -/
def fnWithExceptRootUptoRow : OpenClaim := { program := "ytlepgfccnfcagaa", sum := "ae7de3b9620306efb22a6a854dd4ff4e2b10f20b9c89a3734c96335eeacc7426", func := "loop.example/faultcleanup/laws.FnWithExceptRoot", spec := "fnWithExceptRoot", unfollowed := true, recurses := true, apart := false, narrowed := true }
def FnWithExceptRootUptoSaid : Prop := fnWithExceptRootUptoRow.holds Try.pinned (OpenSpec.upto fnWithExceptRootSpec)

end Rows
end Go.Proofs.Ytlepgfccnfcagaa
