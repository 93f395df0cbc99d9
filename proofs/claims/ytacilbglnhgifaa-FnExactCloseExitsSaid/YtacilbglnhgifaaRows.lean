/-
  No cell of these rows narrows 'for every input' (looked for: loops, veiled, ifaces, maps, wideKeys, modest, calm, conditions, laid).
  DERIVED. THE GIVEN ROWS OF THIS SEAT. 3 by the template 'for every input the law returns true; each argument reads behind the call as it read before'; 0 by the template 'total and deterministic' (their statements: YtacilbglnhgifaaTotals.lean).
  GIVEN WITH THE SEED: the statements are not yours to turn. If you find one false, say at which input.
  Laid BY PROGRAM, IN A SANDBOX (cutbox-rows.mjs): the forced cells as the released guide's own fill.sh prints them over the translation a67ea079f7b895bd… (all of the seat's roots in one cut). By AI agents, Wed Nov 11 2026. No macro, syntax, notation, axiom, sorry.
-/
import Derived.Test.YtacilbglnhgifaaChecked
import GoSem.Claim
import GoSem.ClaimJoined
import GoSem.ClaimMapViews
import Derived.JoinedTies
import Derived.KernelRfl
namespace Go.Proofs.Ytacilbglnhgifaa
/- THE CELL 'sum', in the pinned program and in every row, IS THE sha256 OF THE DUMP (.gsa) THAT YtacilbglnhgifaaProg.lean LOADS. Nothing in Lean hashes anything: it is a label: what it is worth is what the hold of that sum in a sandbox is worth. -/
noncomputable def Try.pinned : Pinned := { name := "ytacilbglnhgifaa", sum := "a67ea079f7b895bd16ab3cf5b9a87148031458c458f76cb8b424f1f7c3129821", checked := Try.checked }
namespace Rows
def none {H : Type} : Left H := { results := [], args := [] }

/-- 'laws.FnExactCloseExits': WHATEVER THE INPUT: true; the input reads as it did. -/
def fnExactCloseExitsSpec : ChangeSpec := { name := "fnExactCloseExits", fn := fun _ => fun
  | [d1, d2, d3] => { results := [.lit (.bool true)], args := [d1, d2, d3] }
  | _ => none }
def fnExactCloseExitsRow : OpenClaim := { program := "ytacilbglnhgifaa", sum := "a67ea079f7b895bd16ab3cf5b9a87148031458c458f76cb8b424f1f7c3129821", func := "loop.example/faultcleanup/laws.FnExactCloseExits", spec := "fnExactCloseExits", unfollowed := true, recurses := true, apart := false }
def FnExactCloseExitsSaid : Prop := fnExactCloseExitsRow.holds Try.pinned (OpenSpec.ofChange fnExactCloseExitsSpec)

/-- ITS FALSE NEIGHBOUR: 'it returns false'. Refute it at one input. -/
def fnExactCloseExitsWrong : ChangeSpec := { name := "fnExactCloseExits", fn := fun _ => fun
  | [d1, d2, d3] => { results := [.lit (.bool false)], args := [d1, d2, d3] }
  | _ => none }
def FnExactCloseExitsWrongFalsely : Prop := fnExactCloseExitsRow.holds Try.pinned (OpenSpec.ofChange fnExactCloseExitsWrong)

/-- 'laws.FnExactEscapesOf': WHATEVER THE INPUT: true; the input reads as it did. -/
def fnExactEscapesOfSpec : ChangeSpec := { name := "fnExactEscapesOf", fn := fun _ => fun
  | [d1, d2] => { results := [.lit (.bool true)], args := [d1, d2] }
  | _ => none }
def fnExactEscapesOfRow : OpenClaim := { program := "ytacilbglnhgifaa", sum := "a67ea079f7b895bd16ab3cf5b9a87148031458c458f76cb8b424f1f7c3129821", func := "loop.example/faultcleanup/laws.FnExactEscapesOf", spec := "fnExactEscapesOf", unfollowed := true, recurses := true, apart := false }
def FnExactEscapesOfSaid : Prop := fnExactEscapesOfRow.holds Try.pinned (OpenSpec.ofChange fnExactEscapesOfSpec)

/-- ITS FALSE NEIGHBOUR: 'it returns false'. Refute it at one input. -/
def fnExactEscapesOfWrong : ChangeSpec := { name := "fnExactEscapesOf", fn := fun _ => fun
  | [d1, d2] => { results := [.lit (.bool false)], args := [d1, d2] }
  | _ => none }
def FnExactEscapesOfWrongFalsely : Prop := fnExactEscapesOfRow.holds Try.pinned (OpenSpec.ofChange fnExactEscapesOfWrong)

/-- 'laws.FnExactIsQuiet': WHATEVER THE INPUT: true; the input reads as it did. -/
def fnExactIsQuietSpec : ChangeSpec := { name := "fnExactIsQuiet", fn := fun _ => fun
  | [d1, d2] => { results := [.lit (.bool true)], args := [d1, d2] }
  | _ => none }
def fnExactIsQuietRow : OpenClaim := { program := "ytacilbglnhgifaa", sum := "a67ea079f7b895bd16ab3cf5b9a87148031458c458f76cb8b424f1f7c3129821", func := "loop.example/faultcleanup/laws.FnExactIsQuiet", spec := "fnExactIsQuiet", unfollowed := true, recurses := true, apart := false }
def FnExactIsQuietSaid : Prop := fnExactIsQuietRow.holds Try.pinned (OpenSpec.ofChange fnExactIsQuietSpec)

/-- ITS FALSE NEIGHBOUR: 'it returns false'. Refute it at one input. -/
def fnExactIsQuietWrong : ChangeSpec := { name := "fnExactIsQuiet", fn := fun _ => fun
  | [d1, d2] => { results := [.lit (.bool false)], args := [d1, d2] }
  | _ => none }
def FnExactIsQuietWrongFalsely : Prop := fnExactIsQuietRow.holds Try.pinned (OpenSpec.ofChange fnExactIsQuietWrong)

/- THE SECOND FORM. 'bulk': how many values and letters a reading holds, each counted each time it is reached (what is shared counts as often as it is met; a slice's spare places count too). A statement '..UptoSaid' is the law's where the arguments, and the package variables that the reading takes, are together of bulk at most 1048576: NARROWER than '..Said'. Prove '..Said' where nothing that the law and all that it calls make is longer than what came in: it says more and counts as full. Else prove '..UptoSaid'. A law counts once. -/
mutual
def uptoBulk {H : Type} : DataW H → Nat
  | .lit (.string bytes) => bytes.length + 1
  | .lit _ => 1
  | .nil => 1
  | .ptr d => uptoBulk d + 1
  | .slice elems spare => uptoBulkAll elems + uptoBulkAll spare + 1
  | .agg parts => uptoBulkAll parts + 1
  | .iface _ d => uptoBulk d + 1
  | .map entries => uptoBulkEntries entries + 1
  | .held _ => 1
def uptoBulkAll {H : Type} : List (DataW H) → Nat
  | [] => 0
  | d :: r => uptoBulk d + uptoBulkAll r
def uptoBulkEntries {H : Type} : List (Lit × DataW H) → Nat
  | [] => 0
  | x :: r => uptoBulkEntry x + uptoBulkEntries r
def uptoBulkEntry {H : Type} : Lit × DataW H → Nat
  | (.string bytes, d) => bytes.length + uptoBulk d + 1
  | (_, d) => uptoBulk d + 1
 end
def uptoSmall : (H : Type) → List (DataW H) → Bool := fun _ ds => decide (uptoBulkAll ds ≤ 1048576)
def OpenSpec.upto (s : _root_.Go.ChangeSpec) : _root_.Go.OpenSpec := { _root_.Go.OpenSpec.ofChange s with cond := some uptoSmall }

/-- 'laws.FnExactCloseExits', WHERE WHAT IT READS IS OF BULK AT MOST 1048576: true; the input reads as it did. -/
def fnExactCloseExitsUptoRow : OpenClaim := { program := "ytacilbglnhgifaa", sum := "a67ea079f7b895bd16ab3cf5b9a87148031458c458f76cb8b424f1f7c3129821", func := "loop.example/faultcleanup/laws.FnExactCloseExits", spec := "fnExactCloseExits", unfollowed := true, recurses := true, apart := false, narrowed := true }
def FnExactCloseExitsUptoSaid : Prop := fnExactCloseExitsUptoRow.holds Try.pinned (OpenSpec.upto fnExactCloseExitsSpec)

/-- 'laws.FnExactEscapesOf', WHERE WHAT IT READS IS OF BULK AT MOST 1048576: true; the input reads as it did. -/
def fnExactEscapesOfUptoRow : OpenClaim := { program := "ytacilbglnhgifaa", sum := "a67ea079f7b895bd16ab3cf5b9a87148031458c458f76cb8b424f1f7c3129821", func := "loop.example/faultcleanup/laws.FnExactEscapesOf", spec := "fnExactEscapesOf", unfollowed := true, recurses := true, apart := false, narrowed := true }
def FnExactEscapesOfUptoSaid : Prop := fnExactEscapesOfUptoRow.holds Try.pinned (OpenSpec.upto fnExactEscapesOfSpec)

/-- 'laws.FnExactIsQuiet', WHERE WHAT IT READS IS OF BULK AT MOST 1048576: true; the input reads as it did. -/
def fnExactIsQuietUptoRow : OpenClaim := { program := "ytacilbglnhgifaa", sum := "a67ea079f7b895bd16ab3cf5b9a87148031458c458f76cb8b424f1f7c3129821", func := "loop.example/faultcleanup/laws.FnExactIsQuiet", spec := "fnExactIsQuiet", unfollowed := true, recurses := true, apart := false, narrowed := true }
def FnExactIsQuietUptoSaid : Prop := fnExactIsQuietUptoRow.holds Try.pinned (OpenSpec.upto fnExactIsQuietSpec)

end Rows
end Go.Proofs.Ytacilbglnhgifaa
