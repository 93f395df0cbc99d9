/-
  DERIVED. GIVEN WITH THE SEED: THE CARDS: each row of YthcolcmgfhkbeaaDoorRows.lean that lists a variable, with what it lists TIED to the program's text (the seventh form; the later family's looks); each row that meets fmt, with fmt's text TOLD by the authors' own Lean function (tested against real Go, not proved from fmt's source: count such statements apart). THE CARD IS WHAT COUNTS. Prove the row's statement (the work); the ties are given (YthcolcmgfhkbeaaDoorTie.lean); close each card by the builder's one call (the guide's Derived/Test/ToyasCard.lean, 'card_holds'). Laid BY PROGRAM, IN A SANDBOX (cutbox-door.mjs). By AI agents, Wed Nov 11 2026. No macro, syntax, notation, axiom, sorry.
-/
import Derived.Test.YthcolcmgfhkbeaaDoorRows
import GoSem.ClaimSeven
namespace Go.Proofs.YthcolcmgfhkbeaaDoor
namespace Rows

/-- THE TIED CARD OF 'laws.FnIsolateFault'. -/
def fnIsolateFaultCard : Claim7 := { stood := { row := fnIsolateFaultRow, standIns := [], harness := (true, "66b5a10eb08ea280321bb823b1282775af9d8f682eeb53ebc385be648f0939e9"), looks := true }, kinds := [], alts := [], laidByText := true, laidKinds := [.data, .data, .data, .handle], laidTests := true, laidLooks := .later }
def FnIsolateFaultCardSaid : Prop := Claim7.holds Tryd.pinned (.plain (OpenSpec.ofChange fnIsolateFaultSpec)) fnIsolateFaultCard

/-- THE TIED CARD OF 'laws.FnOldestShown'. -/
def fnOldestShownCard : Claim7 := { stood := { row := fnOldestShownRow, standIns := [], harness := (true, "66b5a10eb08ea280321bb823b1282775af9d8f682eeb53ebc385be648f0939e9"), looks := true }, kinds := [], alts := [], laidByText := true, laidKinds := [.data, .data, .data, .handle], laidTests := true, laidLooks := .later }
def FnOldestShownCardSaid : Prop := Claim7.holds Tryd.pinned (.plain (OpenSpec.ofChange fnOldestShownSpec)) fnOldestShownCard

/-- THE TIED CARD OF 'laws.FnChainText'. -/
def fnChainTextCard : Claim7 := { stood := { row := fnChainTextRow, standIns := [], harness := (true, "66b5a10eb08ea280321bb823b1282775af9d8f682eeb53ebc385be648f0939e9"), looks := true }, kinds := [], alts := [], laidByText := true, laidKinds := [.data, .data, .data, .handle], laidTests := true, laidLooks := .later }
def FnChainTextCardSaid : Prop := Claim7.holds Tryd.pinned (.plain (OpenSpec.ofChange fnChainTextSpec)) fnChainTextCard

/-- THE TIED CARD OF 'laws.FnJoinHeaps'. -/
def fnJoinHeapsCard : Claim7 := { stood := { row := fnJoinHeapsRow, standIns := [], harness := (true, "66b5a10eb08ea280321bb823b1282775af9d8f682eeb53ebc385be648f0939e9"), looks := true }, kinds := [], alts := [], laidByText := true, laidKinds := [.data, .data, .data, .handle], laidTests := true, laidLooks := .later }
def FnJoinHeapsCardSaid : Prop := Claim7.holds Tryd.pinned (.plain (OpenSpec.ofChange fnJoinHeapsSpec)) fnJoinHeapsCard

/-- THE TIED CARD OF 'laws.FnRaiseWhileText'. -/
def fnRaiseWhileTextCard : Claim7 := { stood := { row := fnRaiseWhileTextRow, standIns := [], harness := (true, "66b5a10eb08ea280321bb823b1282775af9d8f682eeb53ebc385be648f0939e9"), looks := true }, kinds := [], alts := [], laidByText := true, laidKinds := [.data, .data, .data, .handle], laidTests := true, laidLooks := .later }
def FnRaiseWhileTextCardSaid : Prop := Claim7.holds Tryd.pinned (.plain (OpenSpec.ofChange fnRaiseWhileTextSpec)) fnRaiseWhileTextCard

/-- THE SECOND FORM's CARD OF 'laws.FnIsolateFault'. -/
def fnIsolateFaultUptoCard : Claim7 := { stood := { row := fnIsolateFaultUptoRow, standIns := [], harness := (true, "66b5a10eb08ea280321bb823b1282775af9d8f682eeb53ebc385be648f0939e9"), looks := true }, kinds := [], alts := [], laidByText := true, laidKinds := [.data, .data, .data, .handle], laidTests := true, laidLooks := .later }
def FnIsolateFaultUptoCardSaid : Prop := Claim7.holds Tryd.pinned (.plain (OpenSpec.upto fnIsolateFaultSpec)) fnIsolateFaultUptoCard

/-- THE SECOND FORM's CARD OF 'laws.FnOldestShown'. -/
def fnOldestShownUptoCard : Claim7 := { stood := { row := fnOldestShownUptoRow, standIns := [], harness := (true, "66b5a10eb08ea280321bb823b1282775af9d8f682eeb53ebc385be648f0939e9"), looks := true }, kinds := [], alts := [], laidByText := true, laidKinds := [.data, .data, .data, .handle], laidTests := true, laidLooks := .later }
def FnOldestShownUptoCardSaid : Prop := Claim7.holds Tryd.pinned (.plain (OpenSpec.upto fnOldestShownSpec)) fnOldestShownUptoCard

/-- THE SECOND FORM's CARD OF 'laws.FnChainText'. -/
def fnChainTextUptoCard : Claim7 := { stood := { row := fnChainTextUptoRow, standIns := [], harness := (true, "66b5a10eb08ea280321bb823b1282775af9d8f682eeb53ebc385be648f0939e9"), looks := true }, kinds := [], alts := [], laidByText := true, laidKinds := [.data, .data, .data, .handle], laidTests := true, laidLooks := .later }
def FnChainTextUptoCardSaid : Prop := Claim7.holds Tryd.pinned (.plain (OpenSpec.upto fnChainTextSpec)) fnChainTextUptoCard

/-- THE SECOND FORM's CARD OF 'laws.FnJoinHeaps'. -/
def fnJoinHeapsUptoCard : Claim7 := { stood := { row := fnJoinHeapsUptoRow, standIns := [], harness := (true, "66b5a10eb08ea280321bb823b1282775af9d8f682eeb53ebc385be648f0939e9"), looks := true }, kinds := [], alts := [], laidByText := true, laidKinds := [.data, .data, .data, .handle], laidTests := true, laidLooks := .later }
def FnJoinHeapsUptoCardSaid : Prop := Claim7.holds Tryd.pinned (.plain (OpenSpec.upto fnJoinHeapsSpec)) fnJoinHeapsUptoCard

/-- THE SECOND FORM's CARD OF 'laws.FnRaiseWhileText'. -/
def fnRaiseWhileTextUptoCard : Claim7 := { stood := { row := fnRaiseWhileTextUptoRow, standIns := [], harness := (true, "66b5a10eb08ea280321bb823b1282775af9d8f682eeb53ebc385be648f0939e9"), looks := true }, kinds := [], alts := [], laidByText := true, laidKinds := [.data, .data, .data, .handle], laidTests := true, laidLooks := .later }
def FnRaiseWhileTextUptoCardSaid : Prop := Claim7.holds Tryd.pinned (.plain (OpenSpec.upto fnRaiseWhileTextSpec)) fnRaiseWhileTextUptoCard
end Rows
end Go.Proofs.YthcolcmgfhkbeaaDoor
