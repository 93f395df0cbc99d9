/-
  No cell of these rows narrows 'for every input' (looked for: loops, veiled, ifaces, maps, wideKeys, modest, calm, conditions, laid).
  DERIVED. THE GIVEN ROWS OF THIS SEAT. 10 by the template 'for every input the law returns true; each argument reads behind the call as it read before'; 0 by the template 'total and deterministic' (their statements: YtcokoaolcafkoaaTotals.lean).
  GIVEN WITH THE SEED: the statements are not yours to turn. If you find one false, say at which input.
  Laid BY PROGRAM, IN A SANDBOX (cutbox-rows.mjs): the forced cells as the released guide's own fill.sh prints them over the translation d9f879b7e02e8e25… (all of the seat's roots in one cut). By AI agents, Wed Nov 11 2026. No macro, syntax, notation, axiom, sorry.
-/
import Derived.Test.YtcokoaolcafkoaaChecked
import GoSem.Claim
import GoSem.ClaimJoined
import GoSem.ClaimMapViews
import Derived.JoinedTies
import Derived.KernelRfl
namespace Go.Proofs.Ytcokoaolcafkoaa
/- THE CELL 'sum', in the pinned program and in every row, IS THE sha256 OF THE DUMP (.gsa) THAT YtcokoaolcafkoaaProg.lean LOADS. Nothing in Lean hashes anything: it is a label: what it is worth is what the hold of that sum in a sandbox is worth. -/
noncomputable def Try.pinned : Pinned := { name := "ytcokoaolcafkoaa", sum := "d9f879b7e02e8e254d6d57e96c1467aa866ba5ef2d0fc62693e6c7c486b6be51", checked := Try.checked }
namespace Rows
def none {H : Type} : Left H := { results := [], args := [] }

/-- 'laws.FnValidProgram': WHATEVER THE INPUT: true; the input reads as it did. -/
def fnValidProgramSpec : ChangeSpec := { name := "fnValidProgram", fn := fun _ => fun
  | [d] => { results := [.lit (.bool true)], args := [d] }
  | _ => none }
def fnValidProgramRow : OpenClaim := { program := "ytcokoaolcafkoaa", sum := "d9f879b7e02e8e254d6d57e96c1467aa866ba5ef2d0fc62693e6c7c486b6be51", func := "loop.example/faultcleanup/laws.FnValidProgram", spec := "fnValidProgram", unfollowed := true, recurses := true, apart := false }
def FnValidProgramSaid : Prop := fnValidProgramRow.holds Try.pinned (OpenSpec.ofChange fnValidProgramSpec)

/-- ITS FALSE NEIGHBOUR: 'it returns false'. Refute it at one input. -/
def fnValidProgramWrong : ChangeSpec := { name := "fnValidProgram", fn := fun _ => fun
  | [d] => { results := [.lit (.bool false)], args := [d] }
  | _ => none }
def FnValidProgramWrongFalsely : Prop := fnValidProgramRow.holds Try.pinned (OpenSpec.ofChange fnValidProgramWrong)

/-- 'laws.FnEnclosingOf': WHATEVER THE INPUT: true; the input reads as it did. -/
def fnEnclosingOfSpec : ChangeSpec := { name := "fnEnclosingOf", fn := fun _ => fun
  | [d] => { results := [.lit (.bool true)], args := [d] }
  | _ => none }
def fnEnclosingOfRow : OpenClaim := { program := "ytcokoaolcafkoaa", sum := "d9f879b7e02e8e254d6d57e96c1467aa866ba5ef2d0fc62693e6c7c486b6be51", func := "loop.example/faultcleanup/laws.FnEnclosingOf", spec := "fnEnclosingOf", unfollowed := true, recurses := true, apart := false }
def FnEnclosingOfSaid : Prop := fnEnclosingOfRow.holds Try.pinned (OpenSpec.ofChange fnEnclosingOfSpec)

/-- ITS FALSE NEIGHBOUR: 'it returns false'. Refute it at one input. -/
def fnEnclosingOfWrong : ChangeSpec := { name := "fnEnclosingOf", fn := fun _ => fun
  | [d] => { results := [.lit (.bool false)], args := [d] }
  | _ => none }
def FnEnclosingOfWrongFalsely : Prop := fnEnclosingOfRow.holds Try.pinned (OpenSpec.ofChange fnEnclosingOfWrong)

/-- 'laws.FnTryOf': WHATEVER THE INPUT: true; the input reads as it did. -/
def fnTryOfSpec : ChangeSpec := { name := "fnTryOf", fn := fun _ => fun
  | [d] => { results := [.lit (.bool true)], args := [d] }
  | _ => none }
def fnTryOfRow : OpenClaim := { program := "ytcokoaolcafkoaa", sum := "d9f879b7e02e8e254d6d57e96c1467aa866ba5ef2d0fc62693e6c7c486b6be51", func := "loop.example/faultcleanup/laws.FnTryOf", spec := "fnTryOf", unfollowed := true, recurses := true, apart := false }
def FnTryOfSaid : Prop := fnTryOfRow.holds Try.pinned (OpenSpec.ofChange fnTryOfSpec)

/-- ITS FALSE NEIGHBOUR: 'it returns false'. Refute it at one input. -/
def fnTryOfWrong : ChangeSpec := { name := "fnTryOf", fn := fun _ => fun
  | [d] => { results := [.lit (.bool false)], args := [d] }
  | _ => none }
def FnTryOfWrongFalsely : Prop := fnTryOfRow.holds Try.pinned (OpenSpec.ofChange fnTryOfWrong)

/-- 'laws.FnLoopOf': WHATEVER THE INPUT: true; the input reads as it did. -/
def fnLoopOfSpec : ChangeSpec := { name := "fnLoopOf", fn := fun _ => fun
  | [d] => { results := [.lit (.bool true)], args := [d] }
  | _ => none }
def fnLoopOfRow : OpenClaim := { program := "ytcokoaolcafkoaa", sum := "d9f879b7e02e8e254d6d57e96c1467aa866ba5ef2d0fc62693e6c7c486b6be51", func := "loop.example/faultcleanup/laws.FnLoopOf", spec := "fnLoopOf", unfollowed := true, recurses := true, apart := false }
def FnLoopOfSaid : Prop := fnLoopOfRow.holds Try.pinned (OpenSpec.ofChange fnLoopOfSpec)

/-- ITS FALSE NEIGHBOUR: 'it returns false'. Refute it at one input. -/
def fnLoopOfWrong : ChangeSpec := { name := "fnLoopOf", fn := fun _ => fun
  | [d] => { results := [.lit (.bool false)], args := [d] }
  | _ => none }
def FnLoopOfWrongFalsely : Prop := fnLoopOfRow.holds Try.pinned (OpenSpec.ofChange fnLoopOfWrong)

/-- 'laws.FnCatcherOf': WHATEVER THE INPUT: true; the input reads as it did. -/
def fnCatcherOfSpec : ChangeSpec := { name := "fnCatcherOf", fn := fun _ => fun
  | [d] => { results := [.lit (.bool true)], args := [d] }
  | _ => none }
def fnCatcherOfRow : OpenClaim := { program := "ytcokoaolcafkoaa", sum := "d9f879b7e02e8e254d6d57e96c1467aa866ba5ef2d0fc62693e6c7c486b6be51", func := "loop.example/faultcleanup/laws.FnCatcherOf", spec := "fnCatcherOf", unfollowed := true, recurses := true, apart := false }
def FnCatcherOfSaid : Prop := fnCatcherOfRow.holds Try.pinned (OpenSpec.ofChange fnCatcherOfSpec)

/-- ITS FALSE NEIGHBOUR: 'it returns false'. Refute it at one input. -/
def fnCatcherOfWrong : ChangeSpec := { name := "fnCatcherOf", fn := fun _ => fun
  | [d] => { results := [.lit (.bool false)], args := [d] }
  | _ => none }
def FnCatcherOfWrongFalsely : Prop := fnCatcherOfRow.holds Try.pinned (OpenSpec.ofChange fnCatcherOfWrong)

/-- 'laws.FnTableOf': WHATEVER THE INPUT: true; the input reads as it did. -/
def fnTableOfSpec : ChangeSpec := { name := "fnTableOf", fn := fun _ => fun
  | [d] => { results := [.lit (.bool true)], args := [d] }
  | _ => none }
def fnTableOfRow : OpenClaim := { program := "ytcokoaolcafkoaa", sum := "d9f879b7e02e8e254d6d57e96c1467aa866ba5ef2d0fc62693e6c7c486b6be51", func := "loop.example/faultcleanup/laws.FnTableOf", spec := "fnTableOf", unfollowed := true, recurses := true, apart := false }
def FnTableOfSaid : Prop := fnTableOfRow.holds Try.pinned (OpenSpec.ofChange fnTableOfSpec)

/-- ITS FALSE NEIGHBOUR: 'it returns false'. Refute it at one input. -/
def fnTableOfWrong : ChangeSpec := { name := "fnTableOf", fn := fun _ => fun
  | [d] => { results := [.lit (.bool false)], args := [d] }
  | _ => none }
def FnTableOfWrongFalsely : Prop := fnTableOfRow.holds Try.pinned (OpenSpec.ofChange fnTableOfWrong)

/-- 'laws.FnTableOfRanges': WHATEVER THE INPUT: true; the input reads as it did. -/
def fnTableOfRangesSpec : ChangeSpec := { name := "fnTableOfRanges", fn := fun _ => fun
  | [d] => { results := [.lit (.bool true)], args := [d] }
  | _ => none }
def fnTableOfRangesRow : OpenClaim := { program := "ytcokoaolcafkoaa", sum := "d9f879b7e02e8e254d6d57e96c1467aa866ba5ef2d0fc62693e6c7c486b6be51", func := "loop.example/faultcleanup/laws.FnTableOfRanges", spec := "fnTableOfRanges", unfollowed := true, recurses := true, apart := false }
def FnTableOfRangesSaid : Prop := fnTableOfRangesRow.holds Try.pinned (OpenSpec.ofChange fnTableOfRangesSpec)

/-- ITS FALSE NEIGHBOUR: 'it returns false'. Refute it at one input. -/
def fnTableOfRangesWrong : ChangeSpec := { name := "fnTableOfRanges", fn := fun _ => fun
  | [d] => { results := [.lit (.bool false)], args := [d] }
  | _ => none }
def FnTableOfRangesWrongFalsely : Prop := fnTableOfRangesRow.holds Try.pinned (OpenSpec.ofChange fnTableOfRangesWrong)

/-- 'laws.FnLookUp': WHATEVER THE INPUT: true; the input reads as it did. -/
def fnLookUpSpec : ChangeSpec := { name := "fnLookUp", fn := fun _ => fun
  | [d] => { results := [.lit (.bool true)], args := [d] }
  | _ => none }
def fnLookUpRow : OpenClaim := { program := "ytcokoaolcafkoaa", sum := "d9f879b7e02e8e254d6d57e96c1467aa866ba5ef2d0fc62693e6c7c486b6be51", func := "loop.example/faultcleanup/laws.FnLookUp", spec := "fnLookUp", unfollowed := true, recurses := true, apart := false }
def FnLookUpSaid : Prop := fnLookUpRow.holds Try.pinned (OpenSpec.ofChange fnLookUpSpec)

/-- ITS FALSE NEIGHBOUR: 'it returns false'. Refute it at one input. -/
def fnLookUpWrong : ChangeSpec := { name := "fnLookUp", fn := fun _ => fun
  | [d] => { results := [.lit (.bool false)], args := [d] }
  | _ => none }
def FnLookUpWrongFalsely : Prop := fnLookUpRow.holds Try.pinned (OpenSpec.ofChange fnLookUpWrong)

/-- 'laws.FnPruneLinesDead': WHATEVER THE INPUT: true; the input reads as it did. -/
def fnPruneLinesDeadSpec : ChangeSpec := { name := "fnPruneLinesDead", fn := fun _ => fun
  | [d] => { results := [.lit (.bool true)], args := [d] }
  | _ => none }
def fnPruneLinesDeadRow : OpenClaim := { program := "ytcokoaolcafkoaa", sum := "d9f879b7e02e8e254d6d57e96c1467aa866ba5ef2d0fc62693e6c7c486b6be51", func := "loop.example/faultcleanup/laws.FnPruneLinesDead", spec := "fnPruneLinesDead", unfollowed := true, recurses := true, apart := false }
def FnPruneLinesDeadSaid : Prop := fnPruneLinesDeadRow.holds Try.pinned (OpenSpec.ofChange fnPruneLinesDeadSpec)

/-- ITS FALSE NEIGHBOUR: 'it returns false'. Refute it at one input. -/
def fnPruneLinesDeadWrong : ChangeSpec := { name := "fnPruneLinesDead", fn := fun _ => fun
  | [d] => { results := [.lit (.bool false)], args := [d] }
  | _ => none }
def FnPruneLinesDeadWrongFalsely : Prop := fnPruneLinesDeadRow.holds Try.pinned (OpenSpec.ofChange fnPruneLinesDeadWrong)

/-- 'laws.FnCatcherOfUp': WHATEVER THE INPUT: true; the input reads as it did. -/
def fnCatcherOfUpSpec : ChangeSpec := { name := "fnCatcherOfUp", fn := fun _ => fun
  | [d] => { results := [.lit (.bool true)], args := [d] }
  | _ => none }
def fnCatcherOfUpRow : OpenClaim := { program := "ytcokoaolcafkoaa", sum := "d9f879b7e02e8e254d6d57e96c1467aa866ba5ef2d0fc62693e6c7c486b6be51", func := "loop.example/faultcleanup/laws.FnCatcherOfUp", spec := "fnCatcherOfUp", unfollowed := true, recurses := true, apart := false }
def FnCatcherOfUpSaid : Prop := fnCatcherOfUpRow.holds Try.pinned (OpenSpec.ofChange fnCatcherOfUpSpec)

/-- ITS FALSE NEIGHBOUR: 'it returns false'. Refute it at one input. -/
def fnCatcherOfUpWrong : ChangeSpec := { name := "fnCatcherOfUp", fn := fun _ => fun
  | [d] => { results := [.lit (.bool false)], args := [d] }
  | _ => none }
def FnCatcherOfUpWrongFalsely : Prop := fnCatcherOfUpRow.holds Try.pinned (OpenSpec.ofChange fnCatcherOfUpWrong)

/- THE SECOND FORM. 'bulk': how many values and letters a reading holds, each counted each time it is reached (what is shared counts as often as it is met; a slice's spare places count too). A statement '..UptoSaid' is the law's where the arguments, and the package variables that the reading takes, are together of bulk at most 1048576: NARROWER than '..Said'. Prove '..Said' where nothing that the law and all that it calls make is longer than what came in: it says more and counts as full. Else prove '..UptoSaid'. A law counts once. -/
mutual
def uptoBulk {H : Type} : DataW H → Nat
  | .lit (.string bytes) => bytes.length + 1
  | .lit _ => 1
  | .nil => 1
  | .ptr d => uptoBulk d + 1
  | .slice elems spare => uptoBulkAll elems + uptoBulkAll spare + 1
  | .agg parts => uptoBulkAll parts + 1
  | .iface _ d => uptoBulk d + 1
  | .map entries => uptoBulkEntries entries + 1
  | .held _ => 1
def uptoBulkAll {H : Type} : List (DataW H) → Nat
  | [] => 0
  | d :: r => uptoBulk d + uptoBulkAll r
def uptoBulkEntries {H : Type} : List (Lit × DataW H) → Nat
  | [] => 0
  | x :: r => uptoBulkEntry x + uptoBulkEntries r
def uptoBulkEntry {H : Type} : Lit × DataW H → Nat
  | (.string bytes, d) => bytes.length + uptoBulk d + 1
  | (_, d) => uptoBulk d + 1
 end
def uptoSmall : (H : Type) → List (DataW H) → Bool := fun _ ds => decide (uptoBulkAll ds ≤ 1048576)
def OpenSpec.upto (s : _root_.Go.ChangeSpec) : _root_.Go.OpenSpec := { _root_.Go.OpenSpec.ofChange s with cond := some uptoSmall }

/-- 'laws.FnValidProgram', WHERE WHAT IT READS IS OF BULK AT MOST 1048576: true; the input reads as it did. -/
def fnValidProgramUptoRow : OpenClaim := { program := "ytcokoaolcafkoaa", sum := "d9f879b7e02e8e254d6d57e96c1467aa866ba5ef2d0fc62693e6c7c486b6be51", func := "loop.example/faultcleanup/laws.FnValidProgram", spec := "fnValidProgram", unfollowed := true, recurses := true, apart := false, narrowed := true }
def FnValidProgramUptoSaid : Prop := fnValidProgramUptoRow.holds Try.pinned (OpenSpec.upto fnValidProgramSpec)

/-- 'laws.FnEnclosingOf', WHERE WHAT IT READS IS OF BULK AT MOST 1048576: true; the input reads as it did. -/
def fnEnclosingOfUptoRow : OpenClaim := { program := "ytcokoaolcafkoaa", sum := "d9f879b7e02e8e254d6d57e96c1467aa866ba5ef2d0fc62693e6c7c486b6be51", func := "loop.example/faultcleanup/laws.FnEnclosingOf", spec := "fnEnclosingOf", unfollowed := true, recurses := true, apart := false, narrowed := true }
def FnEnclosingOfUptoSaid : Prop := fnEnclosingOfUptoRow.holds Try.pinned (OpenSpec.upto fnEnclosingOfSpec)

/-- 'laws.FnTryOf', WHERE WHAT IT READS IS OF BULK AT MOST 1048576: true; the input reads as it did. -/
def fnTryOfUptoRow : OpenClaim := { program := "ytcokoaolcafkoaa", sum := "d9f879b7e02e8e254d6d57e96c1467aa866ba5ef2d0fc62693e6c7c486b6be51", func := "loop.example/faultcleanup/laws.FnTryOf", spec := "fnTryOf", unfollowed := true, recurses := true, apart := false, narrowed := true }
def FnTryOfUptoSaid : Prop := fnTryOfUptoRow.holds Try.pinned (OpenSpec.upto fnTryOfSpec)

/-- 'laws.FnLoopOf', WHERE WHAT IT READS IS OF BULK AT MOST 1048576: true; the input reads as it did. -/
def fnLoopOfUptoRow : OpenClaim := { program := "ytcokoaolcafkoaa", sum := "d9f879b7e02e8e254d6d57e96c1467aa866ba5ef2d0fc62693e6c7c486b6be51", func := "loop.example/faultcleanup/laws.FnLoopOf", spec := "fnLoopOf", unfollowed := true, recurses := true, apart := false, narrowed := true }
def FnLoopOfUptoSaid : Prop := fnLoopOfUptoRow.holds Try.pinned (OpenSpec.upto fnLoopOfSpec)

/-- 'laws.FnCatcherOf', WHERE WHAT IT READS IS OF BULK AT MOST 1048576: true; the input reads as it did. -/
def fnCatcherOfUptoRow : OpenClaim := { program := "ytcokoaolcafkoaa", sum := "d9f879b7e02e8e254d6d57e96c1467aa866ba5ef2d0fc62693e6c7c486b6be51", func := "loop.example/faultcleanup/laws.FnCatcherOf", spec := "fnCatcherOf", unfollowed := true, recurses := true, apart := false, narrowed := true }
def FnCatcherOfUptoSaid : Prop := fnCatcherOfUptoRow.holds Try.pinned (OpenSpec.upto fnCatcherOfSpec)

/-- 'laws.FnTableOf', WHERE WHAT IT READS IS OF BULK AT MOST 1048576: true; the input reads as it did. -/
def fnTableOfUptoRow : OpenClaim := { program := "ytcokoaolcafkoaa", sum := "d9f879b7e02e8e254d6d57e96c1467aa866ba5ef2d0fc62693e6c7c486b6be51", func := "loop.example/faultcleanup/laws.FnTableOf", spec := "fnTableOf", unfollowed := true, recurses := true, apart := false, narrowed := true }
def FnTableOfUptoSaid : Prop := fnTableOfUptoRow.holds Try.pinned (OpenSpec.upto fnTableOfSpec)

/-- 'laws.FnTableOfRanges', WHERE WHAT IT READS IS OF BULK AT MOST 1048576: true; the input reads as it did. -/
def fnTableOfRangesUptoRow : OpenClaim := { program := "ytcokoaolcafkoaa", sum := "d9f879b7e02e8e254d6d57e96c1467aa866ba5ef2d0fc62693e6c7c486b6be51", func := "loop.example/faultcleanup/laws.FnTableOfRanges", spec := "fnTableOfRanges", unfollowed := true, recurses := true, apart := false, narrowed := true }
def FnTableOfRangesUptoSaid : Prop := fnTableOfRangesUptoRow.holds Try.pinned (OpenSpec.upto fnTableOfRangesSpec)

/-- 'laws.FnLookUp', WHERE WHAT IT READS IS OF BULK AT MOST 1048576: true; the input reads as it did. -/
def fnLookUpUptoRow : OpenClaim := { program := "ytcokoaolcafkoaa", sum := "d9f879b7e02e8e254d6d57e96c1467aa866ba5ef2d0fc62693e6c7c486b6be51", func := "loop.example/faultcleanup/laws.FnLookUp", spec := "fnLookUp", unfollowed := true, recurses := true, apart := false, narrowed := true }
def FnLookUpUptoSaid : Prop := fnLookUpUptoRow.holds Try.pinned (OpenSpec.upto fnLookUpSpec)

/-- 'laws.FnPruneLinesDead', WHERE WHAT IT READS IS OF BULK AT MOST 1048576: true; the input reads as it did. -/
def fnPruneLinesDeadUptoRow : OpenClaim := { program := "ytcokoaolcafkoaa", sum := "d9f879b7e02e8e254d6d57e96c1467aa866ba5ef2d0fc62693e6c7c486b6be51", func := "loop.example/faultcleanup/laws.FnPruneLinesDead", spec := "fnPruneLinesDead", unfollowed := true, recurses := true, apart := false, narrowed := true }
def FnPruneLinesDeadUptoSaid : Prop := fnPruneLinesDeadUptoRow.holds Try.pinned (OpenSpec.upto fnPruneLinesDeadSpec)

/-- 'laws.FnCatcherOfUp', WHERE WHAT IT READS IS OF BULK AT MOST 1048576: true; the input reads as it did. -/
def fnCatcherOfUpUptoRow : OpenClaim := { program := "ytcokoaolcafkoaa", sum := "d9f879b7e02e8e254d6d57e96c1467aa866ba5ef2d0fc62693e6c7c486b6be51", func := "loop.example/faultcleanup/laws.FnCatcherOfUp", spec := "fnCatcherOfUp", unfollowed := true, recurses := true, apart := false, narrowed := true }
def FnCatcherOfUpUptoSaid : Prop := fnCatcherOfUpUptoRow.holds Try.pinned (OpenSpec.upto fnCatcherOfUpSpec)

end Rows
end Go.Proofs.Ytcokoaolcafkoaa
