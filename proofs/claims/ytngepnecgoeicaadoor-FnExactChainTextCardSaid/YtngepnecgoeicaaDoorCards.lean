/-
  DERIVED. GIVEN WITH THE SEED: THE CARDS: each row of YtngepnecgoeicaaDoorRows.lean that lists a variable, with what it lists TIED to the program's text (the seventh form; the later family's looks); each row that meets fmt, with fmt's text TOLD by the authors' own Lean function (tested against real Go, not proved from fmt's source: count such statements apart). THE CARD IS WHAT COUNTS. Prove the row's statement (the work); the ties are given (YtngepnecgoeicaaDoorTie.lean); close each card by the builder's one call (the guide's Derived/Test/ToyasCard.lean, 'card_holds'). Laid BY PROGRAM, IN A SANDBOX (cutbox-door.mjs). By AI agents, Wed Nov 11 2026. No macro, syntax, notation, axiom, sorry.
-/
import Derived.Test.YtngepnecgoeicaaDoorRows
import GoSem.ClaimSeven
namespace Go.Proofs.YtngepnecgoeicaaDoor
namespace Rows

/-- THE TIED CARD OF 'laws.FnExactRaiseWhile'. -/
def fnExactRaiseWhileCard : Claim7 := { stood := { row := fnExactRaiseWhileRow, standIns := [], harness := (true, "f7e3b5b3e6c09cc4be8c2c1f05cf45571f112107add8f8cc1a6bd1c349f6a805"), looks := true }, kinds := [], alts := [], laidByText := true, laidKinds := [.handle], laidTests := true, laidLooks := .later }
def FnExactRaiseWhileCardSaid : Prop := Claim7.holds Tryd.pinned (.plain (OpenSpec.ofChange fnExactRaiseWhileSpec)) fnExactRaiseWhileCard

/-- THE TIED CARD OF 'laws.FnExactShownChain'. -/
def fnExactShownChainCard : Claim7 := { stood := { row := fnExactShownChainRow, standIns := [], harness := (true, "f7e3b5b3e6c09cc4be8c2c1f05cf45571f112107add8f8cc1a6bd1c349f6a805"), looks := true }, kinds := [], alts := [], laidByText := true, laidKinds := [.handle], laidTests := true, laidLooks := .later }
def FnExactShownChainCardSaid : Prop := Claim7.holds Tryd.pinned (.plain (OpenSpec.ofChange fnExactShownChainSpec)) fnExactShownChainCard

/-- THE TIED CARD OF 'laws.FnExactContextChain'. -/
def fnExactContextChainCard : Claim7 := { stood := { row := fnExactContextChainRow, standIns := [], harness := (true, "f7e3b5b3e6c09cc4be8c2c1f05cf45571f112107add8f8cc1a6bd1c349f6a805"), looks := true }, kinds := [], alts := [], laidByText := true, laidKinds := [.handle], laidTests := true, laidLooks := .later }
def FnExactContextChainCardSaid : Prop := Claim7.holds Tryd.pinned (.plain (OpenSpec.ofChange fnExactContextChainSpec)) fnExactContextChainCard

/-- THE TIED CARD OF 'laws.FnExactOldestShown'. -/
def fnExactOldestShownCard : Claim7 := { stood := { row := fnExactOldestShownRow, standIns := [], harness := (true, "f7e3b5b3e6c09cc4be8c2c1f05cf45571f112107add8f8cc1a6bd1c349f6a805"), looks := true }, kinds := [], alts := [], laidByText := true, laidKinds := [.handle], laidTests := true, laidLooks := .later }
def FnExactOldestShownCardSaid : Prop := Claim7.holds Tryd.pinned (.plain (OpenSpec.ofChange fnExactOldestShownSpec)) fnExactOldestShownCard

/-- THE TIED CARD OF 'laws.FnExactChainText'. -/
def fnExactChainTextCard : Claim7 := { stood := { row := fnExactChainTextRow, standIns := [], harness := (true, "f7e3b5b3e6c09cc4be8c2c1f05cf45571f112107add8f8cc1a6bd1c349f6a805"), looks := true }, kinds := [], alts := [], laidByText := true, laidKinds := [.data, .data, .data, .handle], laidTests := true, laidLooks := .later }
def FnExactChainTextCardSaid : Prop := Claim7.holds Tryd.pinned (.plain (OpenSpec.ofChange fnExactChainTextSpec)) fnExactChainTextCard

/-- THE SECOND FORM's CARD OF 'laws.FnExactRaiseWhile'. -/
def fnExactRaiseWhileUptoCard : Claim7 := { stood := { row := fnExactRaiseWhileUptoRow, standIns := [], harness := (true, "f7e3b5b3e6c09cc4be8c2c1f05cf45571f112107add8f8cc1a6bd1c349f6a805"), looks := true }, kinds := [], alts := [], laidByText := true, laidKinds := [.handle], laidTests := true, laidLooks := .later }
def FnExactRaiseWhileUptoCardSaid : Prop := Claim7.holds Tryd.pinned (.plain (OpenSpec.upto fnExactRaiseWhileSpec)) fnExactRaiseWhileUptoCard

/-- THE SECOND FORM's CARD OF 'laws.FnExactShownChain'. -/
def fnExactShownChainUptoCard : Claim7 := { stood := { row := fnExactShownChainUptoRow, standIns := [], harness := (true, "f7e3b5b3e6c09cc4be8c2c1f05cf45571f112107add8f8cc1a6bd1c349f6a805"), looks := true }, kinds := [], alts := [], laidByText := true, laidKinds := [.handle], laidTests := true, laidLooks := .later }
def FnExactShownChainUptoCardSaid : Prop := Claim7.holds Tryd.pinned (.plain (OpenSpec.upto fnExactShownChainSpec)) fnExactShownChainUptoCard

/-- THE SECOND FORM's CARD OF 'laws.FnExactContextChain'. -/
def fnExactContextChainUptoCard : Claim7 := { stood := { row := fnExactContextChainUptoRow, standIns := [], harness := (true, "f7e3b5b3e6c09cc4be8c2c1f05cf45571f112107add8f8cc1a6bd1c349f6a805"), looks := true }, kinds := [], alts := [], laidByText := true, laidKinds := [.handle], laidTests := true, laidLooks := .later }
def FnExactContextChainUptoCardSaid : Prop := Claim7.holds Tryd.pinned (.plain (OpenSpec.upto fnExactContextChainSpec)) fnExactContextChainUptoCard

/-- THE SECOND FORM's CARD OF 'laws.FnExactOldestShown'. -/
def fnExactOldestShownUptoCard : Claim7 := { stood := { row := fnExactOldestShownUptoRow, standIns := [], harness := (true, "f7e3b5b3e6c09cc4be8c2c1f05cf45571f112107add8f8cc1a6bd1c349f6a805"), looks := true }, kinds := [], alts := [], laidByText := true, laidKinds := [.handle], laidTests := true, laidLooks := .later }
def FnExactOldestShownUptoCardSaid : Prop := Claim7.holds Tryd.pinned (.plain (OpenSpec.upto fnExactOldestShownSpec)) fnExactOldestShownUptoCard

/-- THE SECOND FORM's CARD OF 'laws.FnExactChainText'. -/
def fnExactChainTextUptoCard : Claim7 := { stood := { row := fnExactChainTextUptoRow, standIns := [], harness := (true, "f7e3b5b3e6c09cc4be8c2c1f05cf45571f112107add8f8cc1a6bd1c349f6a805"), looks := true }, kinds := [], alts := [], laidByText := true, laidKinds := [.data, .data, .data, .handle], laidTests := true, laidLooks := .later }
def FnExactChainTextUptoCardSaid : Prop := Claim7.holds Tryd.pinned (.plain (OpenSpec.upto fnExactChainTextSpec)) fnExactChainTextUptoCard
end Rows
end Go.Proofs.YtngepnecgoeicaaDoor
