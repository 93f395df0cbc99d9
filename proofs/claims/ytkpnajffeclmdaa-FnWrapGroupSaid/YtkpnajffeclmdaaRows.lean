/-
  No cell of these rows narrows 'for every input' (looked for: loops, veiled, ifaces, maps, wideKeys, modest, calm, conditions, laid).
  DERIVED. THE GIVEN ROWS OF THIS SEAT. 5 by the template 'for every input the law returns true; each argument reads behind the call as it read before'; 0 by the template 'total and deterministic' (their statements: YtkpnajffeclmdaaTotals.lean).
  GIVEN WITH THE SEED: the statements are not yours to turn. If you find one false, say at which input.
  Laid BY PROGRAM, IN A SANDBOX (cutbox-rows.mjs): the forced cells as the released guide's own fill.sh prints them over the translation 6346afef4bf30c73… (all of the seat's roots in one cut). By AI agents, Wed Nov 11 2026. No macro, syntax, notation, axiom, sorry.
-/
import Derived.Test.YtkpnajffeclmdaaChecked
import GoSem.Claim
import GoSem.ClaimJoined
import GoSem.ClaimMapViews
import Derived.JoinedTies
import Derived.KernelRfl
namespace Go.Proofs.Ytkpnajffeclmdaa
/- THE CELL 'sum', in the pinned program and in every row, IS THE sha256 OF THE DUMP (.gsa) THAT YtkpnajffeclmdaaProg.lean LOADS. Nothing in Lean hashes anything: it is a label: what it is worth is what the hold of that sum in a sandbox is worth. -/
noncomputable def Try.pinned : Pinned := { name := "ytkpnajffeclmdaa", sum := "6346afef4bf30c7316ccf3291725d588be8228ae854a06c89878609c28956760", checked := Try.checked }
namespace Rows
def none {H : Type} : Left H := { results := [], args := [] }

/-- 'laws.FnSplitGroup': WHATEVER THE INPUT: true; the input reads as it did. -/
def fnSplitGroupSpec : ChangeSpec := { name := "fnSplitGroup", fn := fun _ => fun
  | [d] => { results := [.lit (.bool true)], args := [d] }
  | _ => none }
def fnSplitGroupRow : OpenClaim := { program := "ytkpnajffeclmdaa", sum := "6346afef4bf30c7316ccf3291725d588be8228ae854a06c89878609c28956760", func := "loop.example/faultcleanup/laws.FnSplitGroup", spec := "fnSplitGroup", unfollowed := true, recurses := true, apart := false }
def FnSplitGroupSaid : Prop := fnSplitGroupRow.holds Try.pinned (OpenSpec.ofChange fnSplitGroupSpec)

/-- ITS FALSE NEIGHBOUR: 'it returns false'. Refute it at one input. -/
def fnSplitGroupWrong : ChangeSpec := { name := "fnSplitGroup", fn := fun _ => fun
  | [d] => { results := [.lit (.bool false)], args := [d] }
  | _ => none }
def FnSplitGroupWrongFalsely : Prop := fnSplitGroupRow.holds Try.pinned (OpenSpec.ofChange fnSplitGroupWrong)

/-- 'laws.FnHandleGroup': WHATEVER THE INPUT: true; the input reads as it did. -/
def fnHandleGroupSpec : ChangeSpec := { name := "fnHandleGroup", fn := fun _ => fun
  | [d] => { results := [.lit (.bool true)], args := [d] }
  | _ => none }
def fnHandleGroupRow : OpenClaim := { program := "ytkpnajffeclmdaa", sum := "6346afef4bf30c7316ccf3291725d588be8228ae854a06c89878609c28956760", func := "loop.example/faultcleanup/laws.FnHandleGroup", spec := "fnHandleGroup", unfollowed := true, recurses := true, apart := false }
def FnHandleGroupSaid : Prop := fnHandleGroupRow.holds Try.pinned (OpenSpec.ofChange fnHandleGroupSpec)

/-- ITS FALSE NEIGHBOUR: 'it returns false'. Refute it at one input. -/
def fnHandleGroupWrong : ChangeSpec := { name := "fnHandleGroup", fn := fun _ => fun
  | [d] => { results := [.lit (.bool false)], args := [d] }
  | _ => none }
def FnHandleGroupWrongFalsely : Prop := fnHandleGroupRow.holds Try.pinned (OpenSpec.ofChange fnHandleGroupWrong)

/-- 'laws.FnWrapGroup': WHATEVER THE INPUT: true; the input reads as it did. -/
def fnWrapGroupSpec : ChangeSpec := { name := "fnWrapGroup", fn := fun _ => fun
  | [d] => { results := [.lit (.bool true)], args := [d] }
  | _ => none }
def fnWrapGroupRow : OpenClaim := { program := "ytkpnajffeclmdaa", sum := "6346afef4bf30c7316ccf3291725d588be8228ae854a06c89878609c28956760", func := "loop.example/faultcleanup/laws.FnWrapGroup", spec := "fnWrapGroup", unfollowed := true, recurses := true, apart := false }
def FnWrapGroupSaid : Prop := fnWrapGroupRow.holds Try.pinned (OpenSpec.ofChange fnWrapGroupSpec)

/-- ITS FALSE NEIGHBOUR: 'it returns false'. Refute it at one input. -/
def fnWrapGroupWrong : ChangeSpec := { name := "fnWrapGroup", fn := fun _ => fun
  | [d] => { results := [.lit (.bool false)], args := [d] }
  | _ => none }
def FnWrapGroupWrongFalsely : Prop := fnWrapGroupRow.holds Try.pinned (OpenSpec.ofChange fnWrapGroupWrong)

/-- 'laws.FnSplitGroupOrder': WHATEVER THE INPUT: true; the input reads as it did. -/
def fnSplitGroupOrderSpec : ChangeSpec := { name := "fnSplitGroupOrder", fn := fun _ => fun
  | [d] => { results := [.lit (.bool true)], args := [d] }
  | _ => none }
def fnSplitGroupOrderRow : OpenClaim := { program := "ytkpnajffeclmdaa", sum := "6346afef4bf30c7316ccf3291725d588be8228ae854a06c89878609c28956760", func := "loop.example/faultcleanup/laws.FnSplitGroupOrder", spec := "fnSplitGroupOrder", unfollowed := true, recurses := true, apart := false }
def FnSplitGroupOrderSaid : Prop := fnSplitGroupOrderRow.holds Try.pinned (OpenSpec.ofChange fnSplitGroupOrderSpec)

/-- ITS FALSE NEIGHBOUR: 'it returns false'. Refute it at one input. -/
def fnSplitGroupOrderWrong : ChangeSpec := { name := "fnSplitGroupOrder", fn := fun _ => fun
  | [d] => { results := [.lit (.bool false)], args := [d] }
  | _ => none }
def FnSplitGroupOrderWrongFalsely : Prop := fnSplitGroupOrderRow.holds Try.pinned (OpenSpec.ofChange fnSplitGroupOrderWrong)

/-- 'laws.FnHandleGroupLeast': WHATEVER THE INPUT: true; the input reads as it did. -/
def fnHandleGroupLeastSpec : ChangeSpec := { name := "fnHandleGroupLeast", fn := fun _ => fun
  | [d] => { results := [.lit (.bool true)], args := [d] }
  | _ => none }
def fnHandleGroupLeastRow : OpenClaim := { program := "ytkpnajffeclmdaa", sum := "6346afef4bf30c7316ccf3291725d588be8228ae854a06c89878609c28956760", func := "loop.example/faultcleanup/laws.FnHandleGroupLeast", spec := "fnHandleGroupLeast", unfollowed := true, recurses := true, apart := false }
def FnHandleGroupLeastSaid : Prop := fnHandleGroupLeastRow.holds Try.pinned (OpenSpec.ofChange fnHandleGroupLeastSpec)

/-- ITS FALSE NEIGHBOUR: 'it returns false'. Refute it at one input. -/
def fnHandleGroupLeastWrong : ChangeSpec := { name := "fnHandleGroupLeast", fn := fun _ => fun
  | [d] => { results := [.lit (.bool false)], args := [d] }
  | _ => none }
def FnHandleGroupLeastWrongFalsely : Prop := fnHandleGroupLeastRow.holds Try.pinned (OpenSpec.ofChange fnHandleGroupLeastWrong)

/- THE SECOND FORM. 'bulk': how many values and letters a reading holds, each counted each time it is reached (what is shared counts as often as it is met; a slice's spare places count too). A statement '..UptoSaid' is the law's where the arguments, and the package variables that the reading takes, are together of bulk at most 1048576: NARROWER than '..Said'. Prove '..Said' where nothing that the law and all that it calls make is longer than what came in: it says more and counts as full. Else prove '..UptoSaid'. A law counts once. -/
mutual
def uptoBulk {H : Type} : DataW H → Nat
  | .lit (.string bytes) => bytes.length + 1
  | .lit _ => 1
  | .nil => 1
  | .ptr d => uptoBulk d + 1
  | .slice elems spare => uptoBulkAll elems + uptoBulkAll spare + 1
  | .agg parts => uptoBulkAll parts + 1
  | .iface _ d => uptoBulk d + 1
  | .map entries => uptoBulkEntries entries + 1
  | .held _ => 1
def uptoBulkAll {H : Type} : List (DataW H) → Nat
  | [] => 0
  | d :: r => uptoBulk d + uptoBulkAll r
def uptoBulkEntries {H : Type} : List (Lit × DataW H) → Nat
  | [] => 0
  | x :: r => uptoBulkEntry x + uptoBulkEntries r
def uptoBulkEntry {H : Type} : Lit × DataW H → Nat
  | (.string bytes, d) => bytes.length + uptoBulk d + 1
  | (_, d) => uptoBulk d + 1
 end
def uptoSmall : (H : Type) → List (DataW H) → Bool := fun _ ds => decide (uptoBulkAll ds ≤ 1048576)
def OpenSpec.upto (s : _root_.Go.ChangeSpec) : _root_.Go.OpenSpec := { _root_.Go.OpenSpec.ofChange s with cond := some uptoSmall }

/-- 'laws.FnSplitGroup', WHERE WHAT IT READS IS OF BULK AT MOST 1048576: true; the input reads as it did. -/
def fnSplitGroupUptoRow : OpenClaim := { program := "ytkpnajffeclmdaa", sum := "6346afef4bf30c7316ccf3291725d588be8228ae854a06c89878609c28956760", func := "loop.example/faultcleanup/laws.FnSplitGroup", spec := "fnSplitGroup", unfollowed := true, recurses := true, apart := false, narrowed := true }
def FnSplitGroupUptoSaid : Prop := fnSplitGroupUptoRow.holds Try.pinned (OpenSpec.upto fnSplitGroupSpec)

/-- 'laws.FnHandleGroup', WHERE WHAT IT READS IS OF BULK AT MOST 1048576: true; the input reads as it did. -/
def fnHandleGroupUptoRow : OpenClaim := { program := "ytkpnajffeclmdaa", sum := "6346afef4bf30c7316ccf3291725d588be8228ae854a06c89878609c28956760", func := "loop.example/faultcleanup/laws.FnHandleGroup", spec := "fnHandleGroup", unfollowed := true, recurses := true, apart := false, narrowed := true }
def FnHandleGroupUptoSaid : Prop := fnHandleGroupUptoRow.holds Try.pinned (OpenSpec.upto fnHandleGroupSpec)

/-- 'laws.FnWrapGroup', WHERE WHAT IT READS IS OF BULK AT MOST 1048576: true; the input reads as it did. -/
def fnWrapGroupUptoRow : OpenClaim := { program := "ytkpnajffeclmdaa", sum := "6346afef4bf30c7316ccf3291725d588be8228ae854a06c89878609c28956760", func := "loop.example/faultcleanup/laws.FnWrapGroup", spec := "fnWrapGroup", unfollowed := true, recurses := true, apart := false, narrowed := true }
def FnWrapGroupUptoSaid : Prop := fnWrapGroupUptoRow.holds Try.pinned (OpenSpec.upto fnWrapGroupSpec)

/-- 'laws.FnSplitGroupOrder', WHERE WHAT IT READS IS OF BULK AT MOST 1048576: true; the input reads as it did. -/
def fnSplitGroupOrderUptoRow : OpenClaim := { program := "ytkpnajffeclmdaa", sum := "6346afef4bf30c7316ccf3291725d588be8228ae854a06c89878609c28956760", func := "loop.example/faultcleanup/laws.FnSplitGroupOrder", spec := "fnSplitGroupOrder", unfollowed := true, recurses := true, apart := false, narrowed := true }
def FnSplitGroupOrderUptoSaid : Prop := fnSplitGroupOrderUptoRow.holds Try.pinned (OpenSpec.upto fnSplitGroupOrderSpec)

/-- 'laws.FnHandleGroupLeast', WHERE WHAT IT READS IS OF BULK AT MOST 1048576: true; the input reads as it did. -/
def fnHandleGroupLeastUptoRow : OpenClaim := { program := "ytkpnajffeclmdaa", sum := "6346afef4bf30c7316ccf3291725d588be8228ae854a06c89878609c28956760", func := "loop.example/faultcleanup/laws.FnHandleGroupLeast", spec := "fnHandleGroupLeast", unfollowed := true, recurses := true, apart := false, narrowed := true }
def FnHandleGroupLeastUptoSaid : Prop := fnHandleGroupLeastUptoRow.holds Try.pinned (OpenSpec.upto fnHandleGroupLeastSpec)

end Rows
end Go.Proofs.Ytkpnajffeclmdaa
