/-
  DERIVED. GIVEN WITH THE SEED: THE CARDS: each row of YtcagickmennlpaaDoorRows.lean that lists a variable, with what it lists TIED to the program's text (the seventh form; the later family's looks); each row that meets fmt, with fmt's text TOLD by the authors' own Lean function (tested against real Go, not proved from fmt's source: count such statements apart). THE CARD IS WHAT COUNTS. Prove the row's statement (the work); the ties are given (YtcagickmennlpaaDoorTie.lean); close each card by the builder's one call (the guide's Derived/Test/ToyasCard.lean, 'card_holds'). Laid BY PROGRAM, IN A SANDBOX (cutbox-door.mjs). By AI agents, Wed Nov 11 2026. No macro, syntax, notation, axiom, sorry.
-/
import Derived.Test.YtcagickmennlpaaDoorRows
import GoSem.ClaimSeven
namespace Go.Proofs.YtcagickmennlpaaDoor
namespace Rows

/-- THE TIED CARD OF 'laws.FnValidHeap'. -/
def fnValidHeapCard : Claim7 := { stood := { row := fnValidHeapRow, standIns := [], harness := (true, "6bbffe7d774c31c86df60ae35c63e6ffdfd1910efe860c51ba15600ba382b2f5"), looks := true }, kinds := [], alts := [], laidByText := true, laidKinds := [.handle], laidTests := true, laidLooks := .later }
def FnValidHeapCardSaid : Prop := Claim7.holds Tryd.pinned (.plain (OpenSpec.ofChange fnValidHeapSpec)) fnValidHeapCard

/-- THE TIED CARD OF 'laws.FnNewFault'. -/
def fnNewFaultCard : Claim7 := { stood := { row := fnNewFaultRow, standIns := [], harness := (true, "6bbffe7d774c31c86df60ae35c63e6ffdfd1910efe860c51ba15600ba382b2f5"), looks := true }, kinds := [], alts := [], laidByText := true, laidKinds := [.handle], laidTests := true, laidLooks := .later }
def FnNewFaultCardSaid : Prop := Claim7.holds Tryd.pinned (.plain (OpenSpec.ofChange fnNewFaultSpec)) fnNewFaultCard

/-- THE TIED CARD OF 'laws.FnRaiseWhile'. -/
def fnRaiseWhileCard : Claim7 := { stood := { row := fnRaiseWhileRow, standIns := [], harness := (true, "6bbffe7d774c31c86df60ae35c63e6ffdfd1910efe860c51ba15600ba382b2f5"), looks := true }, kinds := [], alts := [], laidByText := true, laidKinds := [.handle], laidTests := true, laidLooks := .later }
def FnRaiseWhileCardSaid : Prop := Claim7.holds Tryd.pinned (.plain (OpenSpec.ofChange fnRaiseWhileSpec)) fnRaiseWhileCard

/-- THE TIED CARD OF 'laws.FnRaiseWhileChain'. -/
def fnRaiseWhileChainCard : Claim7 := { stood := { row := fnRaiseWhileChainRow, standIns := [], harness := (true, "6bbffe7d774c31c86df60ae35c63e6ffdfd1910efe860c51ba15600ba382b2f5"), looks := true }, kinds := [], alts := [], laidByText := true, laidKinds := [.handle], laidTests := true, laidLooks := .later }
def FnRaiseWhileChainCardSaid : Prop := Claim7.holds Tryd.pinned (.plain (OpenSpec.ofChange fnRaiseWhileChainSpec)) fnRaiseWhileChainCard

/-- THE TIED CARD OF 'laws.FnSetCause'. -/
def fnSetCauseCard : Claim7 := { stood := { row := fnSetCauseRow, standIns := [], harness := (true, "6bbffe7d774c31c86df60ae35c63e6ffdfd1910efe860c51ba15600ba382b2f5"), looks := true }, kinds := [], alts := [], laidByText := true, laidKinds := [.handle], laidTests := true, laidLooks := .later }
def FnSetCauseCardSaid : Prop := Claim7.holds Tryd.pinned (.plain (OpenSpec.ofChange fnSetCauseSpec)) fnSetCauseCard

/-- THE TIED CARD OF 'laws.FnShownChain'. -/
def fnShownChainCard : Claim7 := { stood := { row := fnShownChainRow, standIns := [], harness := (true, "6bbffe7d774c31c86df60ae35c63e6ffdfd1910efe860c51ba15600ba382b2f5"), looks := true }, kinds := [], alts := [], laidByText := true, laidKinds := [.handle], laidTests := true, laidLooks := .later }
def FnShownChainCardSaid : Prop := Claim7.holds Tryd.pinned (.plain (OpenSpec.ofChange fnShownChainSpec)) fnShownChainCard

/-- THE TIED CARD OF 'laws.FnContextChain'. -/
def fnContextChainCard : Claim7 := { stood := { row := fnContextChainRow, standIns := [], harness := (true, "6bbffe7d774c31c86df60ae35c63e6ffdfd1910efe860c51ba15600ba382b2f5"), looks := true }, kinds := [], alts := [], laidByText := true, laidKinds := [.handle], laidTests := true, laidLooks := .later }
def FnContextChainCardSaid : Prop := Claim7.holds Tryd.pinned (.plain (OpenSpec.ofChange fnContextChainSpec)) fnContextChainCard

/-- THE SECOND FORM's CARD OF 'laws.FnValidHeap'. -/
def fnValidHeapUptoCard : Claim7 := { stood := { row := fnValidHeapUptoRow, standIns := [], harness := (true, "6bbffe7d774c31c86df60ae35c63e6ffdfd1910efe860c51ba15600ba382b2f5"), looks := true }, kinds := [], alts := [], laidByText := true, laidKinds := [.handle], laidTests := true, laidLooks := .later }
def FnValidHeapUptoCardSaid : Prop := Claim7.holds Tryd.pinned (.plain (OpenSpec.upto fnValidHeapSpec)) fnValidHeapUptoCard

/-- THE SECOND FORM's CARD OF 'laws.FnNewFault'. -/
def fnNewFaultUptoCard : Claim7 := { stood := { row := fnNewFaultUptoRow, standIns := [], harness := (true, "6bbffe7d774c31c86df60ae35c63e6ffdfd1910efe860c51ba15600ba382b2f5"), looks := true }, kinds := [], alts := [], laidByText := true, laidKinds := [.handle], laidTests := true, laidLooks := .later }
def FnNewFaultUptoCardSaid : Prop := Claim7.holds Tryd.pinned (.plain (OpenSpec.upto fnNewFaultSpec)) fnNewFaultUptoCard

/-- THE SECOND FORM's CARD OF 'laws.FnRaiseWhile'. -/
def fnRaiseWhileUptoCard : Claim7 := { stood := { row := fnRaiseWhileUptoRow, standIns := [], harness := (true, "6bbffe7d774c31c86df60ae35c63e6ffdfd1910efe860c51ba15600ba382b2f5"), looks := true }, kinds := [], alts := [], laidByText := true, laidKinds := [.handle], laidTests := true, laidLooks := .later }
def FnRaiseWhileUptoCardSaid : Prop := Claim7.holds Tryd.pinned (.plain (OpenSpec.upto fnRaiseWhileSpec)) fnRaiseWhileUptoCard

/-- THE SECOND FORM's CARD OF 'laws.FnRaiseWhileChain'. -/
def fnRaiseWhileChainUptoCard : Claim7 := { stood := { row := fnRaiseWhileChainUptoRow, standIns := [], harness := (true, "6bbffe7d774c31c86df60ae35c63e6ffdfd1910efe860c51ba15600ba382b2f5"), looks := true }, kinds := [], alts := [], laidByText := true, laidKinds := [.handle], laidTests := true, laidLooks := .later }
def FnRaiseWhileChainUptoCardSaid : Prop := Claim7.holds Tryd.pinned (.plain (OpenSpec.upto fnRaiseWhileChainSpec)) fnRaiseWhileChainUptoCard

/-- THE SECOND FORM's CARD OF 'laws.FnSetCause'. -/
def fnSetCauseUptoCard : Claim7 := { stood := { row := fnSetCauseUptoRow, standIns := [], harness := (true, "6bbffe7d774c31c86df60ae35c63e6ffdfd1910efe860c51ba15600ba382b2f5"), looks := true }, kinds := [], alts := [], laidByText := true, laidKinds := [.handle], laidTests := true, laidLooks := .later }
def FnSetCauseUptoCardSaid : Prop := Claim7.holds Tryd.pinned (.plain (OpenSpec.upto fnSetCauseSpec)) fnSetCauseUptoCard

/-- THE SECOND FORM's CARD OF 'laws.FnShownChain'. -/
def fnShownChainUptoCard : Claim7 := { stood := { row := fnShownChainUptoRow, standIns := [], harness := (true, "6bbffe7d774c31c86df60ae35c63e6ffdfd1910efe860c51ba15600ba382b2f5"), looks := true }, kinds := [], alts := [], laidByText := true, laidKinds := [.handle], laidTests := true, laidLooks := .later }
def FnShownChainUptoCardSaid : Prop := Claim7.holds Tryd.pinned (.plain (OpenSpec.upto fnShownChainSpec)) fnShownChainUptoCard

/-- THE SECOND FORM's CARD OF 'laws.FnContextChain'. -/
def fnContextChainUptoCard : Claim7 := { stood := { row := fnContextChainUptoRow, standIns := [], harness := (true, "6bbffe7d774c31c86df60ae35c63e6ffdfd1910efe860c51ba15600ba382b2f5"), looks := true }, kinds := [], alts := [], laidByText := true, laidKinds := [.handle], laidTests := true, laidLooks := .later }
def FnContextChainUptoCardSaid : Prop := Claim7.holds Tryd.pinned (.plain (OpenSpec.upto fnContextChainSpec)) fnContextChainUptoCard
end Rows
end Go.Proofs.YtcagickmennlpaaDoor
