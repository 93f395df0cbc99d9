/-
  No cell of these rows narrows 'for every input' (looked for: loops, veiled, ifaces, maps, wideKeys, modest, calm, conditions, laid).
  DERIVED. THE GIVEN ROWS OF THIS SEAT. 12 by the template 'for every input the law returns true; each argument reads behind the call as it read before'; 0 by the template 'total and deterministic' (their statements: YtjcellhpmooifaaTotals.lean).
  GIVEN WITH THE SEED: the statements are not yours to turn. If you find one false, say at which input.
  Laid BY PROGRAM, IN A SANDBOX (cutbox-rows.mjs): the forced cells as the released guide's own fill.sh prints them over the translation 8316b884fb8c215f… (all of the seat's roots in one cut). By AI agents, Wed Nov 11 2026. No macro, syntax, notation, axiom, sorry.
-/
import Derived.Test.YtjcellhpmooifaaChecked
import GoSem.Claim
import GoSem.ClaimJoined
import GoSem.ClaimMapViews
import Derived.JoinedTies
import Derived.KernelRfl
namespace Go.Proofs.Ytjcellhpmooifaa
/- THE CELL 'sum', in the pinned program and in every row, IS THE sha256 OF THE DUMP (.gsa) THAT YtjcellhpmooifaaProg.lean LOADS. Nothing in Lean hashes anything: it is a label: what it is worth is what the hold of that sum in a sandbox is worth. -/
noncomputable def Try.pinned : Pinned := { name := "ytjcellhpmooifaa", sum := "8316b884fb8c215f6aad0eb6945e8aa3ac8005d58648aba24081a1b68d2faeeb", checked := Try.checked }
namespace Rows
def none {H : Type} : Left H := { results := [], args := [] }

/-- 'laws.FnExactValidProgram': WHATEVER THE INPUT: true; the input reads as it did. -/
def fnExactValidProgramSpec : ChangeSpec := { name := "fnExactValidProgram", fn := fun _ => fun
  | [d1, d2] => { results := [.lit (.bool true)], args := [d1, d2] }
  | _ => none }
def fnExactValidProgramRow : OpenClaim := { program := "ytjcellhpmooifaa", sum := "8316b884fb8c215f6aad0eb6945e8aa3ac8005d58648aba24081a1b68d2faeeb", func := "loop.example/faultcleanup/laws.FnExactValidProgram", spec := "fnExactValidProgram", unfollowed := true, recurses := true, apart := false }
def FnExactValidProgramSaid : Prop := fnExactValidProgramRow.holds Try.pinned (OpenSpec.ofChange fnExactValidProgramSpec)

/-- ITS FALSE NEIGHBOUR: 'it returns false'. Refute it at one input. -/
def fnExactValidProgramWrong : ChangeSpec := { name := "fnExactValidProgram", fn := fun _ => fun
  | [d1, d2] => { results := [.lit (.bool false)], args := [d1, d2] }
  | _ => none }
def FnExactValidProgramWrongFalsely : Prop := fnExactValidProgramRow.holds Try.pinned (OpenSpec.ofChange fnExactValidProgramWrong)

/-- 'laws.FnExactThenProgram': WHATEVER THE INPUT: true; the input reads as it did. -/
def fnExactThenProgramSpec : ChangeSpec := { name := "fnExactThenProgram", fn := fun _ => fun
  | [d1, d2, d3] => { results := [.lit (.bool true)], args := [d1, d2, d3] }
  | _ => none }
def fnExactThenProgramRow : OpenClaim := { program := "ytjcellhpmooifaa", sum := "8316b884fb8c215f6aad0eb6945e8aa3ac8005d58648aba24081a1b68d2faeeb", func := "loop.example/faultcleanup/laws.FnExactThenProgram", spec := "fnExactThenProgram", unfollowed := true, recurses := true, apart := false }
def FnExactThenProgramSaid : Prop := fnExactThenProgramRow.holds Try.pinned (OpenSpec.ofChange fnExactThenProgramSpec)

/-- ITS FALSE NEIGHBOUR: 'it returns false'. Refute it at one input. -/
def fnExactThenProgramWrong : ChangeSpec := { name := "fnExactThenProgram", fn := fun _ => fun
  | [d1, d2, d3] => { results := [.lit (.bool false)], args := [d1, d2, d3] }
  | _ => none }
def FnExactThenProgramWrongFalsely : Prop := fnExactThenProgramRow.holds Try.pinned (OpenSpec.ofChange fnExactThenProgramWrong)

/-- 'laws.FnExactWithFinally': WHATEVER THE INPUT: true; the input reads as it did. -/
def fnExactWithFinallySpec : ChangeSpec := { name := "fnExactWithFinally", fn := fun _ => fun
  | [d1, d2, d3] => { results := [.lit (.bool true)], args := [d1, d2, d3] }
  | _ => none }
def fnExactWithFinallyRow : OpenClaim := { program := "ytjcellhpmooifaa", sum := "8316b884fb8c215f6aad0eb6945e8aa3ac8005d58648aba24081a1b68d2faeeb", func := "loop.example/faultcleanup/laws.FnExactWithFinally", spec := "fnExactWithFinally", unfollowed := true, recurses := true, apart := false }
def FnExactWithFinallySaid : Prop := fnExactWithFinallyRow.holds Try.pinned (OpenSpec.ofChange fnExactWithFinallySpec)

/-- ITS FALSE NEIGHBOUR: 'it returns false'. Refute it at one input. -/
def fnExactWithFinallyWrong : ChangeSpec := { name := "fnExactWithFinally", fn := fun _ => fun
  | [d1, d2, d3] => { results := [.lit (.bool false)], args := [d1, d2, d3] }
  | _ => none }
def FnExactWithFinallyWrongFalsely : Prop := fnExactWithFinallyRow.holds Try.pinned (OpenSpec.ofChange fnExactWithFinallyWrong)

/-- 'laws.FnExactWithExcept': WHATEVER THE INPUT: true; the input reads as it did. -/
def fnExactWithExceptSpec : ChangeSpec := { name := "fnExactWithExcept", fn := fun _ => fun
  | [d1, d2, d3, d4] => { results := [.lit (.bool true)], args := [d1, d2, d3, d4] }
  | _ => none }
def fnExactWithExceptRow : OpenClaim := { program := "ytjcellhpmooifaa", sum := "8316b884fb8c215f6aad0eb6945e8aa3ac8005d58648aba24081a1b68d2faeeb", func := "loop.example/faultcleanup/laws.FnExactWithExcept", spec := "fnExactWithExcept", unfollowed := true, recurses := true, apart := false }
def FnExactWithExceptSaid : Prop := fnExactWithExceptRow.holds Try.pinned (OpenSpec.ofChange fnExactWithExceptSpec)

/-- ITS FALSE NEIGHBOUR: 'it returns false'. Refute it at one input. -/
def fnExactWithExceptWrong : ChangeSpec := { name := "fnExactWithExcept", fn := fun _ => fun
  | [d1, d2, d3, d4] => { results := [.lit (.bool false)], args := [d1, d2, d3, d4] }
  | _ => none }
def FnExactWithExceptWrongFalsely : Prop := fnExactWithExceptRow.holds Try.pinned (OpenSpec.ofChange fnExactWithExceptWrong)

/-- 'laws.FnExactInLoop': WHATEVER THE INPUT: true; the input reads as it did. -/
def fnExactInLoopSpec : ChangeSpec := { name := "fnExactInLoop", fn := fun _ => fun
  | [d1, d2, d3] => { results := [.lit (.bool true)], args := [d1, d2, d3] }
  | _ => none }
def fnExactInLoopRow : OpenClaim := { program := "ytjcellhpmooifaa", sum := "8316b884fb8c215f6aad0eb6945e8aa3ac8005d58648aba24081a1b68d2faeeb", func := "loop.example/faultcleanup/laws.FnExactInLoop", spec := "fnExactInLoop", unfollowed := true, recurses := true, apart := false }
def FnExactInLoopSaid : Prop := fnExactInLoopRow.holds Try.pinned (OpenSpec.ofChange fnExactInLoopSpec)

/-- ITS FALSE NEIGHBOUR: 'it returns false'. Refute it at one input. -/
def fnExactInLoopWrong : ChangeSpec := { name := "fnExactInLoop", fn := fun _ => fun
  | [d1, d2, d3] => { results := [.lit (.bool false)], args := [d1, d2, d3] }
  | _ => none }
def FnExactInLoopWrongFalsely : Prop := fnExactInLoopRow.holds Try.pinned (OpenSpec.ofChange fnExactInLoopWrong)

/-- 'laws.FnExactDropDead': WHATEVER THE INPUT: true; the input reads as it did. -/
def fnExactDropDeadSpec : ChangeSpec := { name := "fnExactDropDead", fn := fun _ => fun
  | [d1, d2] => { results := [.lit (.bool true)], args := [d1, d2] }
  | _ => none }
def fnExactDropDeadRow : OpenClaim := { program := "ytjcellhpmooifaa", sum := "8316b884fb8c215f6aad0eb6945e8aa3ac8005d58648aba24081a1b68d2faeeb", func := "loop.example/faultcleanup/laws.FnExactDropDead", spec := "fnExactDropDead", unfollowed := true, recurses := true, apart := false }
def FnExactDropDeadSaid : Prop := fnExactDropDeadRow.holds Try.pinned (OpenSpec.ofChange fnExactDropDeadSpec)

/-- ITS FALSE NEIGHBOUR: 'it returns false'. Refute it at one input. -/
def fnExactDropDeadWrong : ChangeSpec := { name := "fnExactDropDead", fn := fun _ => fun
  | [d1, d2] => { results := [.lit (.bool false)], args := [d1, d2] }
  | _ => none }
def FnExactDropDeadWrongFalsely : Prop := fnExactDropDeadRow.holds Try.pinned (OpenSpec.ofChange fnExactDropDeadWrong)

/-- 'laws.FnExactLowerWith': WHATEVER THE INPUT: true; the input reads as it did. -/
def fnExactLowerWithSpec : ChangeSpec := { name := "fnExactLowerWith", fn := fun _ => fun
  | [d1, d2] => { results := [.lit (.bool true)], args := [d1, d2] }
  | _ => none }
def fnExactLowerWithRow : OpenClaim := { program := "ytjcellhpmooifaa", sum := "8316b884fb8c215f6aad0eb6945e8aa3ac8005d58648aba24081a1b68d2faeeb", func := "loop.example/faultcleanup/laws.FnExactLowerWith", spec := "fnExactLowerWith", unfollowed := true, recurses := true, apart := false }
def FnExactLowerWithSaid : Prop := fnExactLowerWithRow.holds Try.pinned (OpenSpec.ofChange fnExactLowerWithSpec)

/-- ITS FALSE NEIGHBOUR: 'it returns false'. Refute it at one input. -/
def fnExactLowerWithWrong : ChangeSpec := { name := "fnExactLowerWith", fn := fun _ => fun
  | [d1, d2] => { results := [.lit (.bool false)], args := [d1, d2] }
  | _ => none }
def FnExactLowerWithWrongFalsely : Prop := fnExactLowerWithRow.holds Try.pinned (OpenSpec.ofChange fnExactLowerWithWrong)

/-- 'laws.FnExactEnclosingOf': WHATEVER THE INPUT: true; the input reads as it did. -/
def fnExactEnclosingOfSpec : ChangeSpec := { name := "fnExactEnclosingOf", fn := fun _ => fun
  | [d1, d2, d3] => { results := [.lit (.bool true)], args := [d1, d2, d3] }
  | _ => none }
def fnExactEnclosingOfRow : OpenClaim := { program := "ytjcellhpmooifaa", sum := "8316b884fb8c215f6aad0eb6945e8aa3ac8005d58648aba24081a1b68d2faeeb", func := "loop.example/faultcleanup/laws.FnExactEnclosingOf", spec := "fnExactEnclosingOf", unfollowed := true, recurses := true, apart := false }
def FnExactEnclosingOfSaid : Prop := fnExactEnclosingOfRow.holds Try.pinned (OpenSpec.ofChange fnExactEnclosingOfSpec)

/-- ITS FALSE NEIGHBOUR: 'it returns false'. Refute it at one input. -/
def fnExactEnclosingOfWrong : ChangeSpec := { name := "fnExactEnclosingOf", fn := fun _ => fun
  | [d1, d2, d3] => { results := [.lit (.bool false)], args := [d1, d2, d3] }
  | _ => none }
def FnExactEnclosingOfWrongFalsely : Prop := fnExactEnclosingOfRow.holds Try.pinned (OpenSpec.ofChange fnExactEnclosingOfWrong)

/-- 'laws.FnExactLoopOf': WHATEVER THE INPUT: true; the input reads as it did. -/
def fnExactLoopOfSpec : ChangeSpec := { name := "fnExactLoopOf", fn := fun _ => fun
  | [d1, d2, d3] => { results := [.lit (.bool true)], args := [d1, d2, d3] }
  | _ => none }
def fnExactLoopOfRow : OpenClaim := { program := "ytjcellhpmooifaa", sum := "8316b884fb8c215f6aad0eb6945e8aa3ac8005d58648aba24081a1b68d2faeeb", func := "loop.example/faultcleanup/laws.FnExactLoopOf", spec := "fnExactLoopOf", unfollowed := true, recurses := true, apart := false }
def FnExactLoopOfSaid : Prop := fnExactLoopOfRow.holds Try.pinned (OpenSpec.ofChange fnExactLoopOfSpec)

/-- ITS FALSE NEIGHBOUR: 'it returns false'. Refute it at one input. -/
def fnExactLoopOfWrong : ChangeSpec := { name := "fnExactLoopOf", fn := fun _ => fun
  | [d1, d2, d3] => { results := [.lit (.bool false)], args := [d1, d2, d3] }
  | _ => none }
def FnExactLoopOfWrongFalsely : Prop := fnExactLoopOfRow.holds Try.pinned (OpenSpec.ofChange fnExactLoopOfWrong)

/-- 'laws.FnExactTableOf': WHATEVER THE INPUT: true; the input reads as it did. -/
def fnExactTableOfSpec : ChangeSpec := { name := "fnExactTableOf", fn := fun _ => fun
  | [d1, d2] => { results := [.lit (.bool true)], args := [d1, d2] }
  | _ => none }
def fnExactTableOfRow : OpenClaim := { program := "ytjcellhpmooifaa", sum := "8316b884fb8c215f6aad0eb6945e8aa3ac8005d58648aba24081a1b68d2faeeb", func := "loop.example/faultcleanup/laws.FnExactTableOf", spec := "fnExactTableOf", unfollowed := true, recurses := true, apart := false }
def FnExactTableOfSaid : Prop := fnExactTableOfRow.holds Try.pinned (OpenSpec.ofChange fnExactTableOfSpec)

/-- ITS FALSE NEIGHBOUR: 'it returns false'. Refute it at one input. -/
def fnExactTableOfWrong : ChangeSpec := { name := "fnExactTableOf", fn := fun _ => fun
  | [d1, d2] => { results := [.lit (.bool false)], args := [d1, d2] }
  | _ => none }
def FnExactTableOfWrongFalsely : Prop := fnExactTableOfRow.holds Try.pinned (OpenSpec.ofChange fnExactTableOfWrong)

/-- 'laws.FnExactLookUp': WHATEVER THE INPUT: true; the input reads as it did. -/
def fnExactLookUpSpec : ChangeSpec := { name := "fnExactLookUp", fn := fun _ => fun
  | [d1, d2, d3, d4] => { results := [.lit (.bool true)], args := [d1, d2, d3, d4] }
  | _ => none }
def fnExactLookUpRow : OpenClaim := { program := "ytjcellhpmooifaa", sum := "8316b884fb8c215f6aad0eb6945e8aa3ac8005d58648aba24081a1b68d2faeeb", func := "loop.example/faultcleanup/laws.FnExactLookUp", spec := "fnExactLookUp", unfollowed := true, recurses := true, apart := false }
def FnExactLookUpSaid : Prop := fnExactLookUpRow.holds Try.pinned (OpenSpec.ofChange fnExactLookUpSpec)

/-- ITS FALSE NEIGHBOUR: 'it returns false'. Refute it at one input. -/
def fnExactLookUpWrong : ChangeSpec := { name := "fnExactLookUp", fn := fun _ => fun
  | [d1, d2, d3, d4] => { results := [.lit (.bool false)], args := [d1, d2, d3, d4] }
  | _ => none }
def FnExactLookUpWrongFalsely : Prop := fnExactLookUpRow.holds Try.pinned (OpenSpec.ofChange fnExactLookUpWrong)

/-- 'laws.FnExactFirstJump': WHATEVER THE INPUT: true; the input reads as it did. -/
def fnExactFirstJumpSpec : ChangeSpec := { name := "fnExactFirstJump", fn := fun _ => fun
  | [d1, d2] => { results := [.lit (.bool true)], args := [d1, d2] }
  | _ => none }
def fnExactFirstJumpRow : OpenClaim := { program := "ytjcellhpmooifaa", sum := "8316b884fb8c215f6aad0eb6945e8aa3ac8005d58648aba24081a1b68d2faeeb", func := "loop.example/faultcleanup/laws.FnExactFirstJump", spec := "fnExactFirstJump", unfollowed := true, recurses := true, apart := false }
def FnExactFirstJumpSaid : Prop := fnExactFirstJumpRow.holds Try.pinned (OpenSpec.ofChange fnExactFirstJumpSpec)

/-- ITS FALSE NEIGHBOUR: 'it returns false'. Refute it at one input. -/
def fnExactFirstJumpWrong : ChangeSpec := { name := "fnExactFirstJump", fn := fun _ => fun
  | [d1, d2] => { results := [.lit (.bool false)], args := [d1, d2] }
  | _ => none }
def FnExactFirstJumpWrongFalsely : Prop := fnExactFirstJumpRow.holds Try.pinned (OpenSpec.ofChange fnExactFirstJumpWrong)

/- THE SECOND FORM. 'bulk': how many values and letters a reading holds, each counted each time it is reached (what is shared counts as often as it is met; a slice's spare places count too). A statement '..UptoSaid' is the law's where the arguments, and the package variables that the reading takes, are together of bulk at most 1048576: NARROWER than '..Said'. Prove '..Said' where nothing that the law and all that it calls make is longer than what came in: it says more and counts as full. Else prove '..UptoSaid'. A law counts once. -/
mutual
def uptoBulk {H : Type} : DataW H → Nat
  | .lit (.string bytes) => bytes.length + 1
  | .lit _ => 1
  | .nil => 1
  | .ptr d => uptoBulk d + 1
  | .slice elems spare => uptoBulkAll elems + uptoBulkAll spare + 1
  | .agg parts => uptoBulkAll parts + 1
  | .iface _ d => uptoBulk d + 1
  | .map entries => uptoBulkEntries entries + 1
  | .held _ => 1
def uptoBulkAll {H : Type} : List (DataW H) → Nat
  | [] => 0
  | d :: r => uptoBulk d + uptoBulkAll r
def uptoBulkEntries {H : Type} : List (Lit × DataW H) → Nat
  | [] => 0
  | x :: r => uptoBulkEntry x + uptoBulkEntries r
def uptoBulkEntry {H : Type} : Lit × DataW H → Nat
  | (.string bytes, d) => bytes.length + uptoBulk d + 1
  | (_, d) => uptoBulk d + 1
 end
def uptoSmall : (H : Type) → List (DataW H) → Bool := fun _ ds => decide (uptoBulkAll ds ≤ 1048576)
def OpenSpec.upto (s : _root_.Go.ChangeSpec) : _root_.Go.OpenSpec := { _root_.Go.OpenSpec.ofChange s with cond := some uptoSmall }

/-- 'laws.FnExactValidProgram', WHERE WHAT IT READS IS OF BULK AT MOST 1048576: true; the input reads as it did. -/
def fnExactValidProgramUptoRow : OpenClaim := { program := "ytjcellhpmooifaa", sum := "8316b884fb8c215f6aad0eb6945e8aa3ac8005d58648aba24081a1b68d2faeeb", func := "loop.example/faultcleanup/laws.FnExactValidProgram", spec := "fnExactValidProgram", unfollowed := true, recurses := true, apart := false, narrowed := true }
def FnExactValidProgramUptoSaid : Prop := fnExactValidProgramUptoRow.holds Try.pinned (OpenSpec.upto fnExactValidProgramSpec)

/-- 'laws.FnExactThenProgram', WHERE WHAT IT READS IS OF BULK AT MOST 1048576: true; the input reads as it did. -/
def fnExactThenProgramUptoRow : OpenClaim := { program := "ytjcellhpmooifaa", sum := "8316b884fb8c215f6aad0eb6945e8aa3ac8005d58648aba24081a1b68d2faeeb", func := "loop.example/faultcleanup/laws.FnExactThenProgram", spec := "fnExactThenProgram", unfollowed := true, recurses := true, apart := false, narrowed := true }
def FnExactThenProgramUptoSaid : Prop := fnExactThenProgramUptoRow.holds Try.pinned (OpenSpec.upto fnExactThenProgramSpec)

/-- 'laws.FnExactWithFinally', WHERE WHAT IT READS IS OF BULK AT MOST 1048576: true; the input reads as it did. -/
def fnExactWithFinallyUptoRow : OpenClaim := { program := "ytjcellhpmooifaa", sum := "8316b884fb8c215f6aad0eb6945e8aa3ac8005d58648aba24081a1b68d2faeeb", func := "loop.example/faultcleanup/laws.FnExactWithFinally", spec := "fnExactWithFinally", unfollowed := true, recurses := true, apart := false, narrowed := true }
def FnExactWithFinallyUptoSaid : Prop := fnExactWithFinallyUptoRow.holds Try.pinned (OpenSpec.upto fnExactWithFinallySpec)

/-- 'laws.FnExactWithExcept', WHERE WHAT IT READS IS OF BULK AT MOST 1048576: true; the input reads as it did. -/
def fnExactWithExceptUptoRow : OpenClaim := { program := "ytjcellhpmooifaa", sum := "8316b884fb8c215f6aad0eb6945e8aa3ac8005d58648aba24081a1b68d2faeeb", func := "loop.example/faultcleanup/laws.FnExactWithExcept", spec := "fnExactWithExcept", unfollowed := true, recurses := true, apart := false, narrowed := true }
def FnExactWithExceptUptoSaid : Prop := fnExactWithExceptUptoRow.holds Try.pinned (OpenSpec.upto fnExactWithExceptSpec)

/-- 'laws.FnExactInLoop', WHERE WHAT IT READS IS OF BULK AT MOST 1048576: true; the input reads as it did. -/
def fnExactInLoopUptoRow : OpenClaim := { program := "ytjcellhpmooifaa", sum := "8316b884fb8c215f6aad0eb6945e8aa3ac8005d58648aba24081a1b68d2faeeb", func := "loop.example/faultcleanup/laws.FnExactInLoop", spec := "fnExactInLoop", unfollowed := true, recurses := true, apart := false, narrowed := true }
def FnExactInLoopUptoSaid : Prop := fnExactInLoopUptoRow.holds Try.pinned (OpenSpec.upto fnExactInLoopSpec)

/-- 'laws.FnExactDropDead', WHERE WHAT IT READS IS OF BULK AT MOST 1048576: true; the input reads as it did. -/
def fnExactDropDeadUptoRow : OpenClaim := { program := "ytjcellhpmooifaa", sum := "8316b884fb8c215f6aad0eb6945e8aa3ac8005d58648aba24081a1b68d2faeeb", func := "loop.example/faultcleanup/laws.FnExactDropDead", spec := "fnExactDropDead", unfollowed := true, recurses := true, apart := false, narrowed := true }
def FnExactDropDeadUptoSaid : Prop := fnExactDropDeadUptoRow.holds Try.pinned (OpenSpec.upto fnExactDropDeadSpec)

/-- 'laws.FnExactLowerWith', WHERE WHAT IT READS IS OF BULK AT MOST 1048576: true; the input reads as it did. -/
def fnExactLowerWithUptoRow : OpenClaim := { program := "ytjcellhpmooifaa", sum := "8316b884fb8c215f6aad0eb6945e8aa3ac8005d58648aba24081a1b68d2faeeb", func := "loop.example/faultcleanup/laws.FnExactLowerWith", spec := "fnExactLowerWith", unfollowed := true, recurses := true, apart := false, narrowed := true }
def FnExactLowerWithUptoSaid : Prop := fnExactLowerWithUptoRow.holds Try.pinned (OpenSpec.upto fnExactLowerWithSpec)

/-- 'laws.FnExactEnclosingOf', WHERE WHAT IT READS IS OF BULK AT MOST 1048576: true; the input reads as it did. -/
def fnExactEnclosingOfUptoRow : OpenClaim := { program := "ytjcellhpmooifaa", sum := "8316b884fb8c215f6aad0eb6945e8aa3ac8005d58648aba24081a1b68d2faeeb", func := "loop.example/faultcleanup/laws.FnExactEnclosingOf", spec := "fnExactEnclosingOf", unfollowed := true, recurses := true, apart := false, narrowed := true }
def FnExactEnclosingOfUptoSaid : Prop := fnExactEnclosingOfUptoRow.holds Try.pinned (OpenSpec.upto fnExactEnclosingOfSpec)

/-- 'laws.FnExactLoopOf', WHERE WHAT IT READS IS OF BULK AT MOST 1048576: true; the input reads as it did. -/
def fnExactLoopOfUptoRow : OpenClaim := { program := "ytjcellhpmooifaa", sum := "8316b884fb8c215f6aad0eb6945e8aa3ac8005d58648aba24081a1b68d2faeeb", func := "loop.example/faultcleanup/laws.FnExactLoopOf", spec := "fnExactLoopOf", unfollowed := true, recurses := true, apart := false, narrowed := true }
def FnExactLoopOfUptoSaid : Prop := fnExactLoopOfUptoRow.holds Try.pinned (OpenSpec.upto fnExactLoopOfSpec)

/-- 'laws.FnExactTableOf', WHERE WHAT IT READS IS OF BULK AT MOST 1048576: true; the input reads as it did. -/
def fnExactTableOfUptoRow : OpenClaim := { program := "ytjcellhpmooifaa", sum := "8316b884fb8c215f6aad0eb6945e8aa3ac8005d58648aba24081a1b68d2faeeb", func := "loop.example/faultcleanup/laws.FnExactTableOf", spec := "fnExactTableOf", unfollowed := true, recurses := true, apart := false, narrowed := true }
def FnExactTableOfUptoSaid : Prop := fnExactTableOfUptoRow.holds Try.pinned (OpenSpec.upto fnExactTableOfSpec)

/-- 'laws.FnExactLookUp', WHERE WHAT IT READS IS OF BULK AT MOST 1048576: true; the input reads as it did. -/
def fnExactLookUpUptoRow : OpenClaim := { program := "ytjcellhpmooifaa", sum := "8316b884fb8c215f6aad0eb6945e8aa3ac8005d58648aba24081a1b68d2faeeb", func := "loop.example/faultcleanup/laws.FnExactLookUp", spec := "fnExactLookUp", unfollowed := true, recurses := true, apart := false, narrowed := true }
def FnExactLookUpUptoSaid : Prop := fnExactLookUpUptoRow.holds Try.pinned (OpenSpec.upto fnExactLookUpSpec)

/-- 'laws.FnExactFirstJump', WHERE WHAT IT READS IS OF BULK AT MOST 1048576: true; the input reads as it did. -/
def fnExactFirstJumpUptoRow : OpenClaim := { program := "ytjcellhpmooifaa", sum := "8316b884fb8c215f6aad0eb6945e8aa3ac8005d58648aba24081a1b68d2faeeb", func := "loop.example/faultcleanup/laws.FnExactFirstJump", spec := "fnExactFirstJump", unfollowed := true, recurses := true, apart := false, narrowed := true }
def FnExactFirstJumpUptoSaid : Prop := fnExactFirstJumpUptoRow.holds Try.pinned (OpenSpec.upto fnExactFirstJumpSpec)

end Rows
end Go.Proofs.Ytjcellhpmooifaa
