/-
  No cell of these rows narrows 'for every input' (looked for: loops, veiled, ifaces, maps, wideKeys, modest, calm, conditions, laid).
  DERIVED. THE GIVEN ROWS OF THIS SEAT. 6 by the template 'for every input the law returns true; each argument reads behind the call as it read before'; 0 by the template 'total and deterministic' (their statements: YtjmoddphfhgghacTotals.lean).
  GIVEN WITH THE SEED: the statements are not yours to turn. If you find one false, say at which input.
  Laid BY PROGRAM, IN A SANDBOX (cutbox-rows.mjs): the forced cells as the released guide's own fill.sh prints them over the translation bd9dd665f0a045bd… (all of the seat's roots in one cut). By AI agents, Wed Nov 11 2026. No macro, syntax, notation, axiom, sorry.
-/
import Derived.Test.YtjmoddphfhgghacChecked
import GoSem.Claim
import GoSem.ClaimJoined
import GoSem.ClaimMapViews
import Derived.JoinedTies
import Derived.KernelRfl
namespace Go.Proofs.Ytjmoddphfhgghac
/- THE CELL 'sum', in the pinned program and in every row, IS THE sha256 OF THE DUMP (.gsa) THAT YtjmoddphfhgghacProg.lean LOADS. Nothing in Lean hashes anything: it is a label: what it is worth is what the hold of that sum in a sandbox is worth. -/
noncomputable def Try.pinned : Pinned := { name := "ytjmoddphfhgghac", sum := "bd9dd665f0a045bdccdc6fecfe3bf815f7cfe7cd10a83b855369d925bde3fd87", checked := Try.checked }
namespace Rows
def none {H : Type} : Left H := { results := [], args := [] }

/-- 'laws.FnParseTree': WHATEVER THE INPUT: true; the input reads as it did. -/
def fnParseTreeSpec : ChangeSpec := { name := "fnParseTree", fn := fun _ => fun
  | [d] => { results := [.lit (.bool true)], args := [d] }
  | _ => none }
def fnParseTreeRow : OpenClaim := { program := "ytjmoddphfhgghac", sum := "bd9dd665f0a045bdccdc6fecfe3bf815f7cfe7cd10a83b855369d925bde3fd87", func := "loop.example/faultcleanup/laws.FnParseTree", spec := "fnParseTree", inPlace := ["internal/bytealg.IndexByteString", "internal/bytealg.IndexString", "internal/abi.NoEscape"], unfollowed := true, recurses := true, named := ["internal/bytealg.MaxLen"], apart := false }
def FnParseTreeSaid : Prop := fnParseTreeRow.holds Try.pinned (OpenSpec.ofChange fnParseTreeSpec)

/-- ITS FALSE NEIGHBOUR: 'it returns false'. Refute it at one input. -/
def fnParseTreeWrong : ChangeSpec := { name := "fnParseTree", fn := fun _ => fun
  | [d] => { results := [.lit (.bool false)], args := [d] }
  | _ => none }
def FnParseTreeWrongFalsely : Prop := fnParseTreeRow.holds Try.pinned (OpenSpec.ofChange fnParseTreeWrong)

/-- 'laws.FnAddClassCatch': WHATEVER THE INPUT: true; the input reads as it did. -/
def fnAddClassCatchSpec : ChangeSpec := { name := "fnAddClassCatch", fn := fun _ => fun
  | [d] => { results := [.lit (.bool true)], args := [d] }
  | _ => none }
def fnAddClassCatchRow : OpenClaim := { program := "ytjmoddphfhgghac", sum := "bd9dd665f0a045bdccdc6fecfe3bf815f7cfe7cd10a83b855369d925bde3fd87", func := "loop.example/faultcleanup/laws.FnAddClassCatch", spec := "fnAddClassCatch", unfollowed := true, recurses := true, apart := false }
def FnAddClassCatchSaid : Prop := fnAddClassCatchRow.holds Try.pinned (OpenSpec.ofChange fnAddClassCatchSpec)

/-- ITS FALSE NEIGHBOUR: 'it returns false'. Refute it at one input. -/
def fnAddClassCatchWrong : ChangeSpec := { name := "fnAddClassCatch", fn := fun _ => fun
  | [d] => { results := [.lit (.bool false)], args := [d] }
  | _ => none }
def FnAddClassCatchWrongFalsely : Prop := fnAddClassCatchRow.holds Try.pinned (OpenSpec.ofChange fnAddClassCatchWrong)

/-- 'laws.FnExactValidTree': WHATEVER THE INPUT: true; the input reads as it did. -/
def fnExactValidTreeSpec : ChangeSpec := { name := "fnExactValidTree", fn := fun _ => fun
  | [d] => { results := [.lit (.bool true)], args := [d] }
  | _ => none }
def fnExactValidTreeRow : OpenClaim := { program := "ytjmoddphfhgghac", sum := "bd9dd665f0a045bdccdc6fecfe3bf815f7cfe7cd10a83b855369d925bde3fd87", func := "loop.example/faultcleanup/laws.FnExactValidTree", spec := "fnExactValidTree", unfollowed := true, recurses := true, apart := false }
def FnExactValidTreeSaid : Prop := fnExactValidTreeRow.holds Try.pinned (OpenSpec.ofChange fnExactValidTreeSpec)

/-- ITS FALSE NEIGHBOUR: 'it returns false'. Refute it at one input. -/
def fnExactValidTreeWrong : ChangeSpec := { name := "fnExactValidTree", fn := fun _ => fun
  | [d] => { results := [.lit (.bool false)], args := [d] }
  | _ => none }
def FnExactValidTreeWrongFalsely : Prop := fnExactValidTreeRow.holds Try.pinned (OpenSpec.ofChange fnExactValidTreeWrong)

/-- 'laws.FnExactClassNamed': WHATEVER THE INPUT: true; the input reads as it did. -/
def fnExactClassNamedSpec : ChangeSpec := { name := "fnExactClassNamed", fn := fun _ => fun
  | [d1, d2] => { results := [.lit (.bool true)], args := [d1, d2] }
  | _ => none }
def fnExactClassNamedRow : OpenClaim := { program := "ytjmoddphfhgghac", sum := "bd9dd665f0a045bdccdc6fecfe3bf815f7cfe7cd10a83b855369d925bde3fd87", func := "loop.example/faultcleanup/laws.FnExactClassNamed", spec := "fnExactClassNamed", unfollowed := true, recurses := true, apart := false }
def FnExactClassNamedSaid : Prop := fnExactClassNamedRow.holds Try.pinned (OpenSpec.ofChange fnExactClassNamedSpec)

/-- ITS FALSE NEIGHBOUR: 'it returns false'. Refute it at one input. -/
def fnExactClassNamedWrong : ChangeSpec := { name := "fnExactClassNamed", fn := fun _ => fun
  | [d1, d2] => { results := [.lit (.bool false)], args := [d1, d2] }
  | _ => none }
def FnExactClassNamedWrongFalsely : Prop := fnExactClassNamedRow.holds Try.pinned (OpenSpec.ofChange fnExactClassNamedWrong)

/-- 'laws.FnExactIsA': WHATEVER THE INPUT: true; the input reads as it did. -/
def fnExactIsASpec : ChangeSpec := { name := "fnExactIsA", fn := fun _ => fun
  | [d1, d2, d3] => { results := [.lit (.bool true)], args := [d1, d2, d3] }
  | _ => none }
def fnExactIsARow : OpenClaim := { program := "ytjmoddphfhgghac", sum := "bd9dd665f0a045bdccdc6fecfe3bf815f7cfe7cd10a83b855369d925bde3fd87", func := "loop.example/faultcleanup/laws.FnExactIsA", spec := "fnExactIsA", unfollowed := true, recurses := true, apart := false }
def FnExactIsASaid : Prop := fnExactIsARow.holds Try.pinned (OpenSpec.ofChange fnExactIsASpec)

/-- ITS FALSE NEIGHBOUR: 'it returns false'. Refute it at one input. -/
def fnExactIsAWrong : ChangeSpec := { name := "fnExactIsA", fn := fun _ => fun
  | [d1, d2, d3] => { results := [.lit (.bool false)], args := [d1, d2, d3] }
  | _ => none }
def FnExactIsAWrongFalsely : Prop := fnExactIsARow.holds Try.pinned (OpenSpec.ofChange fnExactIsAWrong)

/-- 'laws.FnExactAboveOf': WHATEVER THE INPUT: true; the input reads as it did. -/
def fnExactAboveOfSpec : ChangeSpec := { name := "fnExactAboveOf", fn := fun _ => fun
  | [d1, d2] => { results := [.lit (.bool true)], args := [d1, d2] }
  | _ => none }
def fnExactAboveOfRow : OpenClaim := { program := "ytjmoddphfhgghac", sum := "bd9dd665f0a045bdccdc6fecfe3bf815f7cfe7cd10a83b855369d925bde3fd87", func := "loop.example/faultcleanup/laws.FnExactAboveOf", spec := "fnExactAboveOf", unfollowed := true, recurses := true, apart := false }
def FnExactAboveOfSaid : Prop := fnExactAboveOfRow.holds Try.pinned (OpenSpec.ofChange fnExactAboveOfSpec)

/-- ITS FALSE NEIGHBOUR: 'it returns false'. Refute it at one input. -/
def fnExactAboveOfWrong : ChangeSpec := { name := "fnExactAboveOf", fn := fun _ => fun
  | [d1, d2] => { results := [.lit (.bool false)], args := [d1, d2] }
  | _ => none }
def FnExactAboveOfWrongFalsely : Prop := fnExactAboveOfRow.holds Try.pinned (OpenSpec.ofChange fnExactAboveOfWrong)

/- THE SECOND FORM. 'bulk': how many values and letters a reading holds, each counted each time it is reached (what is shared counts as often as it is met; a slice's spare places count too). A statement '..UptoSaid' is the law's where the arguments, and the package variables that the reading takes, are together of bulk at most 1048576: NARROWER than '..Said'. Prove '..Said' where nothing that the law and all that it calls make is longer than what came in: it says more and counts as full. Else prove '..UptoSaid'. A law counts once. -/
mutual
def uptoBulk {H : Type} : DataW H → Nat
  | .lit (.string bytes) => bytes.length + 1
  | .lit _ => 1
  | .nil => 1
  | .ptr d => uptoBulk d + 1
  | .slice elems spare => uptoBulkAll elems + uptoBulkAll spare + 1
  | .agg parts => uptoBulkAll parts + 1
  | .iface _ d => uptoBulk d + 1
  | .map entries => uptoBulkEntries entries + 1
  | .held _ => 1
def uptoBulkAll {H : Type} : List (DataW H) → Nat
  | [] => 0
  | d :: r => uptoBulk d + uptoBulkAll r
def uptoBulkEntries {H : Type} : List (Lit × DataW H) → Nat
  | [] => 0
  | x :: r => uptoBulkEntry x + uptoBulkEntries r
def uptoBulkEntry {H : Type} : Lit × DataW H → Nat
  | (.string bytes, d) => bytes.length + uptoBulk d + 1
  | (_, d) => uptoBulk d + 1
 end
def uptoSmall : (H : Type) → List (DataW H) → Bool := fun _ ds => decide (uptoBulkAll ds ≤ 1048576)
def OpenSpec.upto (s : _root_.Go.ChangeSpec) : _root_.Go.OpenSpec := { _root_.Go.OpenSpec.ofChange s with cond := some uptoSmall }

/-- 'laws.FnParseTree', WHERE WHAT IT READS IS OF BULK AT MOST 1048576: true; the input reads as it did. -/
def fnParseTreeUptoRow : OpenClaim := { program := "ytjmoddphfhgghac", sum := "bd9dd665f0a045bdccdc6fecfe3bf815f7cfe7cd10a83b855369d925bde3fd87", func := "loop.example/faultcleanup/laws.FnParseTree", spec := "fnParseTree", inPlace := ["internal/bytealg.IndexByteString", "internal/bytealg.IndexString", "internal/abi.NoEscape"], unfollowed := true, recurses := true, named := ["internal/bytealg.MaxLen"], apart := false, narrowed := true }
def FnParseTreeUptoSaid : Prop := fnParseTreeUptoRow.holds Try.pinned (OpenSpec.upto fnParseTreeSpec)

/-- 'laws.FnAddClassCatch', WHERE WHAT IT READS IS OF BULK AT MOST 1048576: true; the input reads as it did. -/
def fnAddClassCatchUptoRow : OpenClaim := { program := "ytjmoddphfhgghac", sum := "bd9dd665f0a045bdccdc6fecfe3bf815f7cfe7cd10a83b855369d925bde3fd87", func := "loop.example/faultcleanup/laws.FnAddClassCatch", spec := "fnAddClassCatch", unfollowed := true, recurses := true, apart := false, narrowed := true }
def FnAddClassCatchUptoSaid : Prop := fnAddClassCatchUptoRow.holds Try.pinned (OpenSpec.upto fnAddClassCatchSpec)

/-- 'laws.FnExactValidTree', WHERE WHAT IT READS IS OF BULK AT MOST 1048576: true; the input reads as it did. -/
def fnExactValidTreeUptoRow : OpenClaim := { program := "ytjmoddphfhgghac", sum := "bd9dd665f0a045bdccdc6fecfe3bf815f7cfe7cd10a83b855369d925bde3fd87", func := "loop.example/faultcleanup/laws.FnExactValidTree", spec := "fnExactValidTree", unfollowed := true, recurses := true, apart := false, narrowed := true }
def FnExactValidTreeUptoSaid : Prop := fnExactValidTreeUptoRow.holds Try.pinned (OpenSpec.upto fnExactValidTreeSpec)

/-- 'laws.FnExactClassNamed', WHERE WHAT IT READS IS OF BULK AT MOST 1048576: true; the input reads as it did. -/
def fnExactClassNamedUptoRow : OpenClaim := { program := "ytjmoddphfhgghac", sum := "bd9dd665f0a045bdccdc6fecfe3bf815f7cfe7cd10a83b855369d925bde3fd87", func := "loop.example/faultcleanup/laws.FnExactClassNamed", spec := "fnExactClassNamed", unfollowed := true, recurses := true, apart := false, narrowed := true }
def FnExactClassNamedUptoSaid : Prop := fnExactClassNamedUptoRow.holds Try.pinned (OpenSpec.upto fnExactClassNamedSpec)

/-- 'laws.FnExactIsA', WHERE WHAT IT READS IS OF BULK AT MOST 1048576: true; the input reads as it did. -/
def fnExactIsAUptoRow : OpenClaim := { program := "ytjmoddphfhgghac", sum := "bd9dd665f0a045bdccdc6fecfe3bf815f7cfe7cd10a83b855369d925bde3fd87", func := "loop.example/faultcleanup/laws.FnExactIsA", spec := "fnExactIsA", unfollowed := true, recurses := true, apart := false, narrowed := true }
def FnExactIsAUptoSaid : Prop := fnExactIsAUptoRow.holds Try.pinned (OpenSpec.upto fnExactIsASpec)

/-- 'laws.FnExactAboveOf', WHERE WHAT IT READS IS OF BULK AT MOST 1048576: true; the input reads as it did. -/
def fnExactAboveOfUptoRow : OpenClaim := { program := "ytjmoddphfhgghac", sum := "bd9dd665f0a045bdccdc6fecfe3bf815f7cfe7cd10a83b855369d925bde3fd87", func := "loop.example/faultcleanup/laws.FnExactAboveOf", spec := "fnExactAboveOf", unfollowed := true, recurses := true, apart := false, narrowed := true }
def FnExactAboveOfUptoSaid : Prop := fnExactAboveOfUptoRow.holds Try.pinned (OpenSpec.upto fnExactAboveOfSpec)

end Rows
end Go.Proofs.Ytjmoddphfhgghac
