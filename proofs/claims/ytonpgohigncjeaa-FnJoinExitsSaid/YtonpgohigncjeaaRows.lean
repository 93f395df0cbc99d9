/-
  No cell of these rows narrows 'for every input' (looked for: loops, veiled, ifaces, maps, wideKeys, modest, calm, conditions, laid).
  DERIVED. THE GIVEN ROWS OF THIS SEAT. 6 by the template 'for every input the law returns true; each argument reads behind the call as it read before'; 0 by the template 'total and deterministic' (their statements: YtonpgohigncjeaaTotals.lean).
  GIVEN WITH THE SEED: the statements are not yours to turn. If you find one false, say at which input.
  Laid BY PROGRAM, IN A SANDBOX (cutbox-rows.mjs): the forced cells as the released guide's own fill.sh prints them over the translation f41871fb2b24fe52… (all of the seat's roots in one cut). By AI agents, Wed Nov 11 2026. No macro, syntax, notation, axiom, sorry.
-/
import Derived.Test.YtonpgohigncjeaaChecked
import GoSem.Claim
import GoSem.ClaimJoined
import GoSem.ClaimMapViews
import Derived.JoinedTies
import Derived.KernelRfl
namespace Go.Proofs.Ytonpgohigncjeaa
/- THE CELL 'sum', in the pinned program and in every row, IS THE sha256 OF THE DUMP (.gsa) THAT YtonpgohigncjeaaProg.lean LOADS. Nothing in Lean hashes anything: it is a label: what it is worth is what the hold of that sum in a sandbox is worth. -/
noncomputable def Try.pinned : Pinned := { name := "ytonpgohigncjeaa", sum := "f41871fb2b24fe52b5fb55baf70d65d8e958e2c6849a1cdd1e43362a8afcaa66", checked := Try.checked }
namespace Rows
def none {H : Type} : Left H := { results := [], args := [] }

/-- 'laws.FnCloseExitsCalls': WHATEVER THE INPUT: true; the input reads as it did. -/
def fnCloseExitsCallsSpec : ChangeSpec := { name := "fnCloseExitsCalls", fn := fun _ => fun
  | [d] => { results := [.lit (.bool true)], args := [d] }
  | _ => none }
def fnCloseExitsCallsRow : OpenClaim := { program := "ytonpgohigncjeaa", sum := "f41871fb2b24fe52b5fb55baf70d65d8e958e2c6849a1cdd1e43362a8afcaa66", func := "loop.example/faultcleanup/laws.FnCloseExitsCalls", spec := "fnCloseExitsCalls", unfollowed := true, recurses := true, apart := false }
def FnCloseExitsCallsSaid : Prop := fnCloseExitsCallsRow.holds Try.pinned (OpenSpec.ofChange fnCloseExitsCallsSpec)

/-- ITS FALSE NEIGHBOUR: 'it returns false'. Refute it at one input. -/
def fnCloseExitsCallsWrong : ChangeSpec := { name := "fnCloseExitsCalls", fn := fun _ => fun
  | [d] => { results := [.lit (.bool false)], args := [d] }
  | _ => none }
def FnCloseExitsCallsWrongFalsely : Prop := fnCloseExitsCallsRow.holds Try.pinned (OpenSpec.ofChange fnCloseExitsCallsWrong)

/-- 'laws.FnPushExit': WHATEVER THE INPUT: true; the input reads as it did. -/
def fnPushExitSpec : ChangeSpec := { name := "fnPushExit", fn := fun _ => fun
  | [d] => { results := [.lit (.bool true)], args := [d] }
  | _ => none }
def fnPushExitRow : OpenClaim := { program := "ytonpgohigncjeaa", sum := "f41871fb2b24fe52b5fb55baf70d65d8e958e2c6849a1cdd1e43362a8afcaa66", func := "loop.example/faultcleanup/laws.FnPushExit", spec := "fnPushExit", unfollowed := true, recurses := true, apart := false }
def FnPushExitSaid : Prop := fnPushExitRow.holds Try.pinned (OpenSpec.ofChange fnPushExitSpec)

/-- ITS FALSE NEIGHBOUR: 'it returns false'. Refute it at one input. -/
def fnPushExitWrong : ChangeSpec := { name := "fnPushExit", fn := fun _ => fun
  | [d] => { results := [.lit (.bool false)], args := [d] }
  | _ => none }
def FnPushExitWrongFalsely : Prop := fnPushExitRow.holds Try.pinned (OpenSpec.ofChange fnPushExitWrong)

/-- 'laws.FnJoinExits': WHATEVER THE INPUT: true; the input reads as it did. -/
def fnJoinExitsSpec : ChangeSpec := { name := "fnJoinExits", fn := fun _ => fun
  | [d] => { results := [.lit (.bool true)], args := [d] }
  | _ => none }
def fnJoinExitsRow : OpenClaim := { program := "ytonpgohigncjeaa", sum := "f41871fb2b24fe52b5fb55baf70d65d8e958e2c6849a1cdd1e43362a8afcaa66", func := "loop.example/faultcleanup/laws.FnJoinExits", spec := "fnJoinExits", inPlace := ["internal/reflectlite.TypeOf"], unfollowed := true, recurses := true, apart := false }
def FnJoinExitsSaid : Prop := fnJoinExitsRow.holds Try.pinned (OpenSpec.ofChange fnJoinExitsSpec)

/-- ITS FALSE NEIGHBOUR: 'it returns false'. Refute it at one input. -/
def fnJoinExitsWrong : ChangeSpec := { name := "fnJoinExits", fn := fun _ => fun
  | [d] => { results := [.lit (.bool false)], args := [d] }
  | _ => none }
def FnJoinExitsWrongFalsely : Prop := fnJoinExitsRow.holds Try.pinned (OpenSpec.ofChange fnJoinExitsWrong)

/-- 'laws.FnEscapesOf': WHATEVER THE INPUT: true; the input reads as it did. -/
def fnEscapesOfSpec : ChangeSpec := { name := "fnEscapesOf", fn := fun _ => fun
  | [d] => { results := [.lit (.bool true)], args := [d] }
  | _ => none }
def fnEscapesOfRow : OpenClaim := { program := "ytonpgohigncjeaa", sum := "f41871fb2b24fe52b5fb55baf70d65d8e958e2c6849a1cdd1e43362a8afcaa66", func := "loop.example/faultcleanup/laws.FnEscapesOf", spec := "fnEscapesOf", inPlace := ["internal/reflectlite.TypeOf"], unfollowed := true, recurses := true, apart := false }
def FnEscapesOfSaid : Prop := fnEscapesOfRow.holds Try.pinned (OpenSpec.ofChange fnEscapesOfSpec)

/-- ITS FALSE NEIGHBOUR: 'it returns false'. Refute it at one input. -/
def fnEscapesOfWrong : ChangeSpec := { name := "fnEscapesOf", fn := fun _ => fun
  | [d] => { results := [.lit (.bool false)], args := [d] }
  | _ => none }
def FnEscapesOfWrongFalsely : Prop := fnEscapesOfRow.holds Try.pinned (OpenSpec.ofChange fnEscapesOfWrong)

/-- 'laws.FnIsQuiet': WHATEVER THE INPUT: true; the input reads as it did. -/
def fnIsQuietSpec : ChangeSpec := { name := "fnIsQuiet", fn := fun _ => fun
  | [d] => { results := [.lit (.bool true)], args := [d] }
  | _ => none }
def fnIsQuietRow : OpenClaim := { program := "ytonpgohigncjeaa", sum := "f41871fb2b24fe52b5fb55baf70d65d8e958e2c6849a1cdd1e43362a8afcaa66", func := "loop.example/faultcleanup/laws.FnIsQuiet", spec := "fnIsQuiet", unfollowed := true, recurses := true, apart := false }
def FnIsQuietSaid : Prop := fnIsQuietRow.holds Try.pinned (OpenSpec.ofChange fnIsQuietSpec)

/-- ITS FALSE NEIGHBOUR: 'it returns false'. Refute it at one input. -/
def fnIsQuietWrong : ChangeSpec := { name := "fnIsQuiet", fn := fun _ => fun
  | [d] => { results := [.lit (.bool false)], args := [d] }
  | _ => none }
def FnIsQuietWrongFalsely : Prop := fnIsQuietRow.holds Try.pinned (OpenSpec.ofChange fnIsQuietWrong)

/-- 'laws.FnCloseExitsTell': WHATEVER THE INPUT: true; the input reads as it did. -/
def fnCloseExitsTellSpec : ChangeSpec := { name := "fnCloseExitsTell", fn := fun _ => fun
  | [d] => { results := [.lit (.bool true)], args := [d] }
  | _ => none }
def fnCloseExitsTellRow : OpenClaim := { program := "ytonpgohigncjeaa", sum := "f41871fb2b24fe52b5fb55baf70d65d8e958e2c6849a1cdd1e43362a8afcaa66", func := "loop.example/faultcleanup/laws.FnCloseExitsTell", spec := "fnCloseExitsTell", unfollowed := true, recurses := true, apart := false }
def FnCloseExitsTellSaid : Prop := fnCloseExitsTellRow.holds Try.pinned (OpenSpec.ofChange fnCloseExitsTellSpec)

/-- ITS FALSE NEIGHBOUR: 'it returns false'. Refute it at one input. -/
def fnCloseExitsTellWrong : ChangeSpec := { name := "fnCloseExitsTell", fn := fun _ => fun
  | [d] => { results := [.lit (.bool false)], args := [d] }
  | _ => none }
def FnCloseExitsTellWrongFalsely : Prop := fnCloseExitsTellRow.holds Try.pinned (OpenSpec.ofChange fnCloseExitsTellWrong)

/- THE SECOND FORM. 'bulk': how many values and letters a reading holds, each counted each time it is reached (what is shared counts as often as it is met; a slice's spare places count too). A statement '..UptoSaid' is the law's where the arguments, and the package variables that the reading takes, are together of bulk at most 1048576: NARROWER than '..Said'. Prove '..Said' where nothing that the law and all that it calls make is longer than what came in: it says more and counts as full. Else prove '..UptoSaid'. A law counts once. -/
mutual
def uptoBulk {H : Type} : DataW H → Nat
  | .lit (.string bytes) => bytes.length + 1
  | .lit _ => 1
  | .nil => 1
  | .ptr d => uptoBulk d + 1
  | .slice elems spare => uptoBulkAll elems + uptoBulkAll spare + 1
  | .agg parts => uptoBulkAll parts + 1
  | .iface _ d => uptoBulk d + 1
  | .map entries => uptoBulkEntries entries + 1
  | .held _ => 1
def uptoBulkAll {H : Type} : List (DataW H) → Nat
  | [] => 0
  | d :: r => uptoBulk d + uptoBulkAll r
def uptoBulkEntries {H : Type} : List (Lit × DataW H) → Nat
  | [] => 0
  | x :: r => uptoBulkEntry x + uptoBulkEntries r
def uptoBulkEntry {H : Type} : Lit × DataW H → Nat
  | (.string bytes, d) => bytes.length + uptoBulk d + 1
  | (_, d) => uptoBulk d + 1
 end
def uptoSmall : (H : Type) → List (DataW H) → Bool := fun _ ds => decide (uptoBulkAll ds ≤ 1048576)
def OpenSpec.upto (s : _root_.Go.ChangeSpec) : _root_.Go.OpenSpec := { _root_.Go.OpenSpec.ofChange s with cond := some uptoSmall }

/-- 'laws.FnCloseExitsCalls', WHERE WHAT IT READS IS OF BULK AT MOST 1048576: true; the input reads as it did. -/
def fnCloseExitsCallsUptoRow : OpenClaim := { program := "ytonpgohigncjeaa", sum := "f41871fb2b24fe52b5fb55baf70d65d8e958e2c6849a1cdd1e43362a8afcaa66", func := "loop.example/faultcleanup/laws.FnCloseExitsCalls", spec := "fnCloseExitsCalls", unfollowed := true, recurses := true, apart := false, narrowed := true }
def FnCloseExitsCallsUptoSaid : Prop := fnCloseExitsCallsUptoRow.holds Try.pinned (OpenSpec.upto fnCloseExitsCallsSpec)

/-- 'laws.FnPushExit', WHERE WHAT IT READS IS OF BULK AT MOST 1048576: true; the input reads as it did. -/
def fnPushExitUptoRow : OpenClaim := { program := "ytonpgohigncjeaa", sum := "f41871fb2b24fe52b5fb55baf70d65d8e958e2c6849a1cdd1e43362a8afcaa66", func := "loop.example/faultcleanup/laws.FnPushExit", spec := "fnPushExit", unfollowed := true, recurses := true, apart := false, narrowed := true }
def FnPushExitUptoSaid : Prop := fnPushExitUptoRow.holds Try.pinned (OpenSpec.upto fnPushExitSpec)

/-- 'laws.FnJoinExits', WHERE WHAT IT READS IS OF BULK AT MOST 1048576: true; the input reads as it did. -/
def fnJoinExitsUptoRow : OpenClaim := { program := "ytonpgohigncjeaa", sum := "f41871fb2b24fe52b5fb55baf70d65d8e958e2c6849a1cdd1e43362a8afcaa66", func := "loop.example/faultcleanup/laws.FnJoinExits", spec := "fnJoinExits", inPlace := ["internal/reflectlite.TypeOf"], unfollowed := true, recurses := true, apart := false, narrowed := true }
def FnJoinExitsUptoSaid : Prop := fnJoinExitsUptoRow.holds Try.pinned (OpenSpec.upto fnJoinExitsSpec)

/-- 'laws.FnEscapesOf', WHERE WHAT IT READS IS OF BULK AT MOST 1048576: true; the input reads as it did. -/
def fnEscapesOfUptoRow : OpenClaim := { program := "ytonpgohigncjeaa", sum := "f41871fb2b24fe52b5fb55baf70d65d8e958e2c6849a1cdd1e43362a8afcaa66", func := "loop.example/faultcleanup/laws.FnEscapesOf", spec := "fnEscapesOf", inPlace := ["internal/reflectlite.TypeOf"], unfollowed := true, recurses := true, apart := false, narrowed := true }
def FnEscapesOfUptoSaid : Prop := fnEscapesOfUptoRow.holds Try.pinned (OpenSpec.upto fnEscapesOfSpec)

/-- 'laws.FnIsQuiet', WHERE WHAT IT READS IS OF BULK AT MOST 1048576: true; the input reads as it did. -/
def fnIsQuietUptoRow : OpenClaim := { program := "ytonpgohigncjeaa", sum := "f41871fb2b24fe52b5fb55baf70d65d8e958e2c6849a1cdd1e43362a8afcaa66", func := "loop.example/faultcleanup/laws.FnIsQuiet", spec := "fnIsQuiet", unfollowed := true, recurses := true, apart := false, narrowed := true }
def FnIsQuietUptoSaid : Prop := fnIsQuietUptoRow.holds Try.pinned (OpenSpec.upto fnIsQuietSpec)

/-- 'laws.FnCloseExitsTell', WHERE WHAT IT READS IS OF BULK AT MOST 1048576: true; the input reads as it did. -/
def fnCloseExitsTellUptoRow : OpenClaim := { program := "ytonpgohigncjeaa", sum := "f41871fb2b24fe52b5fb55baf70d65d8e958e2c6849a1cdd1e43362a8afcaa66", func := "loop.example/faultcleanup/laws.FnCloseExitsTell", spec := "fnCloseExitsTell", unfollowed := true, recurses := true, apart := false, narrowed := true }
def FnCloseExitsTellUptoSaid : Prop := fnCloseExitsTellUptoRow.holds Try.pinned (OpenSpec.upto fnCloseExitsTellSpec)

end Rows
end Go.Proofs.Ytonpgohigncjeaa
