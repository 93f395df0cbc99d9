/-
  DERIVED. GIVEN WITH THE SEED: THE CARDS: each row of YtnpcmlcigeccmaaDoorRows.lean that lists a variable, with what it lists TIED to the program's text (the seventh form; the later family's looks); each row that meets fmt, with fmt's text TOLD by the authors' own Lean function (tested against real Go, not proved from fmt's source: count such statements apart). THE CARD IS WHAT COUNTS. Prove the row's statement (the work); the ties are given (YtnpcmlcigeccmaaDoorTie.lean); close each card by the builder's one call (the guide's Derived/Test/ToyasCard.lean, 'card_holds'). Laid BY PROGRAM, IN A SANDBOX (cutbox-door.mjs). By AI agents, Wed Nov 11 2026. No macro, syntax, notation, axiom, sorry.
-/
import Derived.Test.YtnpcmlcigeccmaaDoorRows
import GoSem.ClaimSeven
namespace Go.Proofs.YtnpcmlcigeccmaaDoor
namespace Rows

/-- THE TIED CARD OF 'laws.FnExitsText'. -/
def fnExitsTextCard : Claim7 := { stood := { row := fnExitsTextRow, standIns := [], harness := (true, "2e656cd5e741ff16c86729cd1f59636bc37c4494a2e7cf8975dff883a4a538df"), looks := true }, kinds := [], alts := [], laidByText := true, laidKinds := [.data, .data, .data, .sentinel, .sentinel, .data], laidTests := true, laidLooks := .later }
def FnExitsTextCardSaid : Prop := Claim7.holds Tryd.pinned (.plain (OpenSpec.ofChange fnExitsTextSpec)) fnExitsTextCard

/-- THE TIED CARD OF 'laws.FnParseExits'. -/
def fnParseExitsCard : Claim7 := { stood := { row := fnParseExitsRow, standIns := [], harness := (true, "2e656cd5e741ff16c86729cd1f59636bc37c4494a2e7cf8975dff883a4a538df"), looks := true }, kinds := [], alts := [], laidByText := true, laidKinds := [.data, .data, .data, .sentinel, .sentinel, .data], laidTests := true, laidLooks := .later }
def FnParseExitsCardSaid : Prop := Claim7.holds Tryd.pinned (.plain (OpenSpec.ofChange fnParseExitsSpec)) fnParseExitsCard

/-- THE TIED CARD OF 'laws.FnExactExitsText'. -/
def fnExactExitsTextCard : Claim7 := { stood := { row := fnExactExitsTextRow, standIns := [], harness := (true, "2e656cd5e741ff16c86729cd1f59636bc37c4494a2e7cf8975dff883a4a538df"), looks := true }, kinds := [], alts := [], laidByText := true, laidKinds := [.data, .data, .data, .data], laidTests := true, laidLooks := .later }
def FnExactExitsTextCardSaid : Prop := Claim7.holds Tryd.pinned (.plain (OpenSpec.ofChange fnExactExitsTextSpec)) fnExactExitsTextCard

/-- THE TIED CARD OF 'laws.FnExactParseExits'. -/
def fnExactParseExitsCard : Claim7 := { stood := { row := fnExactParseExitsRow, standIns := [], harness := (true, "2e656cd5e741ff16c86729cd1f59636bc37c4494a2e7cf8975dff883a4a538df"), looks := true }, kinds := [], alts := [], laidByText := true, laidKinds := [.data, .data, .data, .sentinel, .sentinel, .data], laidTests := true, laidLooks := .later }
def FnExactParseExitsCardSaid : Prop := Claim7.holds Tryd.pinned (.plain (OpenSpec.ofChange fnExactParseExitsSpec)) fnExactParseExitsCard

/-- THE SECOND FORM's CARD OF 'laws.FnExitsText'. -/
def fnExitsTextUptoCard : Claim7 := { stood := { row := fnExitsTextUptoRow, standIns := [], harness := (true, "2e656cd5e741ff16c86729cd1f59636bc37c4494a2e7cf8975dff883a4a538df"), looks := true }, kinds := [], alts := [], laidByText := true, laidKinds := [.data, .data, .data, .sentinel, .sentinel, .data], laidTests := true, laidLooks := .later }
def FnExitsTextUptoCardSaid : Prop := Claim7.holds Tryd.pinned (.plain (OpenSpec.upto fnExitsTextSpec)) fnExitsTextUptoCard

/-- THE SECOND FORM's CARD OF 'laws.FnParseExits'. -/
def fnParseExitsUptoCard : Claim7 := { stood := { row := fnParseExitsUptoRow, standIns := [], harness := (true, "2e656cd5e741ff16c86729cd1f59636bc37c4494a2e7cf8975dff883a4a538df"), looks := true }, kinds := [], alts := [], laidByText := true, laidKinds := [.data, .data, .data, .sentinel, .sentinel, .data], laidTests := true, laidLooks := .later }
def FnParseExitsUptoCardSaid : Prop := Claim7.holds Tryd.pinned (.plain (OpenSpec.upto fnParseExitsSpec)) fnParseExitsUptoCard

/-- THE SECOND FORM's CARD OF 'laws.FnExactExitsText'. -/
def fnExactExitsTextUptoCard : Claim7 := { stood := { row := fnExactExitsTextUptoRow, standIns := [], harness := (true, "2e656cd5e741ff16c86729cd1f59636bc37c4494a2e7cf8975dff883a4a538df"), looks := true }, kinds := [], alts := [], laidByText := true, laidKinds := [.data, .data, .data, .data], laidTests := true, laidLooks := .later }
def FnExactExitsTextUptoCardSaid : Prop := Claim7.holds Tryd.pinned (.plain (OpenSpec.upto fnExactExitsTextSpec)) fnExactExitsTextUptoCard

/-- THE SECOND FORM's CARD OF 'laws.FnExactParseExits'. -/
def fnExactParseExitsUptoCard : Claim7 := { stood := { row := fnExactParseExitsUptoRow, standIns := [], harness := (true, "2e656cd5e741ff16c86729cd1f59636bc37c4494a2e7cf8975dff883a4a538df"), looks := true }, kinds := [], alts := [], laidByText := true, laidKinds := [.data, .data, .data, .sentinel, .sentinel, .data], laidTests := true, laidLooks := .later }
def FnExactParseExitsUptoCardSaid : Prop := Claim7.holds Tryd.pinned (.plain (OpenSpec.upto fnExactParseExitsSpec)) fnExactParseExitsUptoCard
end Rows
end Go.Proofs.YtnpcmlcigeccmaaDoor
