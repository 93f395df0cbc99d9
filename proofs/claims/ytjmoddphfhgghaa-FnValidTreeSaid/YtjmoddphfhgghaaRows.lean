/-
  No cell of these rows narrows 'for every input' (looked for: loops, veiled, ifaces, maps, wideKeys, modest, calm, conditions, laid).
  DERIVED. THE GIVEN ROWS OF THIS SEAT. 6 by the template 'for every input the law returns true; each argument reads behind the call as it read before'; 0 by the template 'total and deterministic' (their statements: YtjmoddphfhgghaaTotals.lean).
  GIVEN WITH THE SEED: the statements are not yours to turn. If you find one false, say at which input.
  Laid BY PROGRAM, IN A SANDBOX (cutbox-rows.mjs): the forced cells as the released guide's own fill.sh prints them over the translation 948f60c75c84b591… (all of the seat's roots in one cut). By AI agents, Wed Nov 11 2026. No macro, syntax, notation, axiom, sorry.
-/
import Derived.Test.YtjmoddphfhgghaaChecked
import GoSem.Claim
import GoSem.ClaimJoined
import GoSem.ClaimMapViews
import Derived.JoinedTies
import Derived.KernelRfl
namespace Go.Proofs.Ytjmoddphfhgghaa
/- THE CELL 'sum', in the pinned program and in every row, IS THE sha256 OF THE DUMP (.gsa) THAT YtjmoddphfhgghaaProg.lean LOADS. Nothing in Lean hashes anything: it is a label: what it is worth is what the hold of that sum in a sandbox is worth. -/
noncomputable def Try.pinned : Pinned := { name := "ytjmoddphfhgghaa", sum := "948f60c75c84b5915fe59eb9540e3c12958d8cff69fbbab64c4fb41319bb7fa5", checked := Try.checked }
namespace Rows
def none {H : Type} : Left H := { results := [], args := [] }

/-- 'laws.FnValidTree': WHATEVER THE INPUT: true; the input reads as it did. -/
def fnValidTreeSpec : ChangeSpec := { name := "fnValidTree", fn := fun _ => fun
  | [d] => { results := [.lit (.bool true)], args := [d] }
  | _ => none }
def fnValidTreeRow : OpenClaim := { program := "ytjmoddphfhgghaa", sum := "948f60c75c84b5915fe59eb9540e3c12958d8cff69fbbab64c4fb41319bb7fa5", func := "loop.example/faultcleanup/laws.FnValidTree", spec := "fnValidTree", unfollowed := true, recurses := true, apart := false }
def FnValidTreeSaid : Prop := fnValidTreeRow.holds Try.pinned (OpenSpec.ofChange fnValidTreeSpec)

/-- ITS FALSE NEIGHBOUR: 'it returns false'. Refute it at one input. -/
def fnValidTreeWrong : ChangeSpec := { name := "fnValidTree", fn := fun _ => fun
  | [d] => { results := [.lit (.bool false)], args := [d] }
  | _ => none }
def FnValidTreeWrongFalsely : Prop := fnValidTreeRow.holds Try.pinned (OpenSpec.ofChange fnValidTreeWrong)

/-- 'laws.FnClassNamed': WHATEVER THE INPUT: true; the input reads as it did. -/
def fnClassNamedSpec : ChangeSpec := { name := "fnClassNamed", fn := fun _ => fun
  | [d] => { results := [.lit (.bool true)], args := [d] }
  | _ => none }
def fnClassNamedRow : OpenClaim := { program := "ytjmoddphfhgghaa", sum := "948f60c75c84b5915fe59eb9540e3c12958d8cff69fbbab64c4fb41319bb7fa5", func := "loop.example/faultcleanup/laws.FnClassNamed", spec := "fnClassNamed", unfollowed := true, recurses := true, apart := false }
def FnClassNamedSaid : Prop := fnClassNamedRow.holds Try.pinned (OpenSpec.ofChange fnClassNamedSpec)

/-- ITS FALSE NEIGHBOUR: 'it returns false'. Refute it at one input. -/
def fnClassNamedWrong : ChangeSpec := { name := "fnClassNamed", fn := fun _ => fun
  | [d] => { results := [.lit (.bool false)], args := [d] }
  | _ => none }
def FnClassNamedWrongFalsely : Prop := fnClassNamedRow.holds Try.pinned (OpenSpec.ofChange fnClassNamedWrong)

/-- 'laws.FnIsA': WHATEVER THE INPUT: true; the input reads as it did. -/
def fnIsASpec : ChangeSpec := { name := "fnIsA", fn := fun _ => fun
  | [d] => { results := [.lit (.bool true)], args := [d] }
  | _ => none }
def fnIsARow : OpenClaim := { program := "ytjmoddphfhgghaa", sum := "948f60c75c84b5915fe59eb9540e3c12958d8cff69fbbab64c4fb41319bb7fa5", func := "loop.example/faultcleanup/laws.FnIsA", spec := "fnIsA", unfollowed := true, recurses := true, apart := false }
def FnIsASaid : Prop := fnIsARow.holds Try.pinned (OpenSpec.ofChange fnIsASpec)

/-- ITS FALSE NEIGHBOUR: 'it returns false'. Refute it at one input. -/
def fnIsAWrong : ChangeSpec := { name := "fnIsA", fn := fun _ => fun
  | [d] => { results := [.lit (.bool false)], args := [d] }
  | _ => none }
def FnIsAWrongFalsely : Prop := fnIsARow.holds Try.pinned (OpenSpec.ofChange fnIsAWrong)

/-- 'laws.FnAboveOf': WHATEVER THE INPUT: true; the input reads as it did. -/
def fnAboveOfSpec : ChangeSpec := { name := "fnAboveOf", fn := fun _ => fun
  | [d] => { results := [.lit (.bool true)], args := [d] }
  | _ => none }
def fnAboveOfRow : OpenClaim := { program := "ytjmoddphfhgghaa", sum := "948f60c75c84b5915fe59eb9540e3c12958d8cff69fbbab64c4fb41319bb7fa5", func := "loop.example/faultcleanup/laws.FnAboveOf", spec := "fnAboveOf", unfollowed := true, recurses := true, apart := false }
def FnAboveOfSaid : Prop := fnAboveOfRow.holds Try.pinned (OpenSpec.ofChange fnAboveOfSpec)

/-- ITS FALSE NEIGHBOUR: 'it returns false'. Refute it at one input. -/
def fnAboveOfWrong : ChangeSpec := { name := "fnAboveOf", fn := fun _ => fun
  | [d] => { results := [.lit (.bool false)], args := [d] }
  | _ => none }
def FnAboveOfWrongFalsely : Prop := fnAboveOfRow.holds Try.pinned (OpenSpec.ofChange fnAboveOfWrong)

/-- 'laws.FnBelowOf': WHATEVER THE INPUT: true; the input reads as it did. -/
def fnBelowOfSpec : ChangeSpec := { name := "fnBelowOf", fn := fun _ => fun
  | [d] => { results := [.lit (.bool true)], args := [d] }
  | _ => none }
def fnBelowOfRow : OpenClaim := { program := "ytjmoddphfhgghaa", sum := "948f60c75c84b5915fe59eb9540e3c12958d8cff69fbbab64c4fb41319bb7fa5", func := "loop.example/faultcleanup/laws.FnBelowOf", spec := "fnBelowOf", unfollowed := true, recurses := true, apart := false }
def FnBelowOfSaid : Prop := fnBelowOfRow.holds Try.pinned (OpenSpec.ofChange fnBelowOfSpec)

/-- ITS FALSE NEIGHBOUR: 'it returns false'. Refute it at one input. -/
def fnBelowOfWrong : ChangeSpec := { name := "fnBelowOf", fn := fun _ => fun
  | [d] => { results := [.lit (.bool false)], args := [d] }
  | _ => none }
def FnBelowOfWrongFalsely : Prop := fnBelowOfRow.holds Try.pinned (OpenSpec.ofChange fnBelowOfWrong)

/-- 'laws.FnCommonClass': WHATEVER THE INPUT: true; the input reads as it did. -/
def fnCommonClassSpec : ChangeSpec := { name := "fnCommonClass", fn := fun _ => fun
  | [d] => { results := [.lit (.bool true)], args := [d] }
  | _ => none }
def fnCommonClassRow : OpenClaim := { program := "ytjmoddphfhgghaa", sum := "948f60c75c84b5915fe59eb9540e3c12958d8cff69fbbab64c4fb41319bb7fa5", func := "loop.example/faultcleanup/laws.FnCommonClass", spec := "fnCommonClass", unfollowed := true, recurses := true, apart := false }
def FnCommonClassSaid : Prop := fnCommonClassRow.holds Try.pinned (OpenSpec.ofChange fnCommonClassSpec)

/-- ITS FALSE NEIGHBOUR: 'it returns false'. Refute it at one input. -/
def fnCommonClassWrong : ChangeSpec := { name := "fnCommonClass", fn := fun _ => fun
  | [d] => { results := [.lit (.bool false)], args := [d] }
  | _ => none }
def FnCommonClassWrongFalsely : Prop := fnCommonClassRow.holds Try.pinned (OpenSpec.ofChange fnCommonClassWrong)

/- THE SECOND FORM. 'bulk': how many values and letters a reading holds, each counted each time it is reached (what is shared counts as often as it is met; a slice's spare places count too). A statement '..UptoSaid' is the law's where the arguments, and the package variables that the reading takes, are together of bulk at most 1048576: NARROWER than '..Said'. Prove '..Said' where nothing that the law and all that it calls make is longer than what came in: it says more and counts as full. Else prove '..UptoSaid'. A law counts once. -/
mutual
def uptoBulk {H : Type} : DataW H → Nat
  | .lit (.string bytes) => bytes.length + 1
  | .lit _ => 1
  | .nil => 1
  | .ptr d => uptoBulk d + 1
  | .slice elems spare => uptoBulkAll elems + uptoBulkAll spare + 1
  | .agg parts => uptoBulkAll parts + 1
  | .iface _ d => uptoBulk d + 1
  | .map entries => uptoBulkEntries entries + 1
  | .held _ => 1
def uptoBulkAll {H : Type} : List (DataW H) → Nat
  | [] => 0
  | d :: r => uptoBulk d + uptoBulkAll r
def uptoBulkEntries {H : Type} : List (Lit × DataW H) → Nat
  | [] => 0
  | x :: r => uptoBulkEntry x + uptoBulkEntries r
def uptoBulkEntry {H : Type} : Lit × DataW H → Nat
  | (.string bytes, d) => bytes.length + uptoBulk d + 1
  | (_, d) => uptoBulk d + 1
 end
def uptoSmall : (H : Type) → List (DataW H) → Bool := fun _ ds => decide (uptoBulkAll ds ≤ 1048576)
def OpenSpec.upto (s : _root_.Go.ChangeSpec) : _root_.Go.OpenSpec := { _root_.Go.OpenSpec.ofChange s with cond := some uptoSmall }

/-- 'laws.FnValidTree', WHERE WHAT IT READS IS OF BULK AT MOST 1048576: true; the input reads as it did. -/
def fnValidTreeUptoRow : OpenClaim := { program := "ytjmoddphfhgghaa", sum := "948f60c75c84b5915fe59eb9540e3c12958d8cff69fbbab64c4fb41319bb7fa5", func := "loop.example/faultcleanup/laws.FnValidTree", spec := "fnValidTree", unfollowed := true, recurses := true, apart := false, narrowed := true }
def FnValidTreeUptoSaid : Prop := fnValidTreeUptoRow.holds Try.pinned (OpenSpec.upto fnValidTreeSpec)

/-- 'laws.FnClassNamed', WHERE WHAT IT READS IS OF BULK AT MOST 1048576: true; the input reads as it did. -/
def fnClassNamedUptoRow : OpenClaim := { program := "ytjmoddphfhgghaa", sum := "948f60c75c84b5915fe59eb9540e3c12958d8cff69fbbab64c4fb41319bb7fa5", func := "loop.example/faultcleanup/laws.FnClassNamed", spec := "fnClassNamed", unfollowed := true, recurses := true, apart := false, narrowed := true }
def FnClassNamedUptoSaid : Prop := fnClassNamedUptoRow.holds Try.pinned (OpenSpec.upto fnClassNamedSpec)

/-- 'laws.FnIsA', WHERE WHAT IT READS IS OF BULK AT MOST 1048576: true; the input reads as it did. -/
def fnIsAUptoRow : OpenClaim := { program := "ytjmoddphfhgghaa", sum := "948f60c75c84b5915fe59eb9540e3c12958d8cff69fbbab64c4fb41319bb7fa5", func := "loop.example/faultcleanup/laws.FnIsA", spec := "fnIsA", unfollowed := true, recurses := true, apart := false, narrowed := true }
def FnIsAUptoSaid : Prop := fnIsAUptoRow.holds Try.pinned (OpenSpec.upto fnIsASpec)

/-- 'laws.FnAboveOf', WHERE WHAT IT READS IS OF BULK AT MOST 1048576: true; the input reads as it did. -/
def fnAboveOfUptoRow : OpenClaim := { program := "ytjmoddphfhgghaa", sum := "948f60c75c84b5915fe59eb9540e3c12958d8cff69fbbab64c4fb41319bb7fa5", func := "loop.example/faultcleanup/laws.FnAboveOf", spec := "fnAboveOf", unfollowed := true, recurses := true, apart := false, narrowed := true }
def FnAboveOfUptoSaid : Prop := fnAboveOfUptoRow.holds Try.pinned (OpenSpec.upto fnAboveOfSpec)

/-- 'laws.FnBelowOf', WHERE WHAT IT READS IS OF BULK AT MOST 1048576: true; the input reads as it did. -/
def fnBelowOfUptoRow : OpenClaim := { program := "ytjmoddphfhgghaa", sum := "948f60c75c84b5915fe59eb9540e3c12958d8cff69fbbab64c4fb41319bb7fa5", func := "loop.example/faultcleanup/laws.FnBelowOf", spec := "fnBelowOf", unfollowed := true, recurses := true, apart := false, narrowed := true }
def FnBelowOfUptoSaid : Prop := fnBelowOfUptoRow.holds Try.pinned (OpenSpec.upto fnBelowOfSpec)

/-- 'laws.FnCommonClass', WHERE WHAT IT READS IS OF BULK AT MOST 1048576: true; the input reads as it did. -/
def fnCommonClassUptoRow : OpenClaim := { program := "ytjmoddphfhgghaa", sum := "948f60c75c84b5915fe59eb9540e3c12958d8cff69fbbab64c4fb41319bb7fa5", func := "loop.example/faultcleanup/laws.FnCommonClass", spec := "fnCommonClass", unfollowed := true, recurses := true, apart := false, narrowed := true }
def FnCommonClassUptoSaid : Prop := fnCommonClassUptoRow.holds Try.pinned (OpenSpec.upto fnCommonClassSpec)

end Rows
end Go.Proofs.Ytjmoddphfhgghaa
