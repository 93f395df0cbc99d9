/-
  DERIVED. GIVEN WITH THE SEED: THE CARDS: each row of YtnjckloodkdbpaaDoorRows.lean that lists a variable, with what it lists TIED to the program's text (the seventh form; the later family's looks); each row that meets fmt, with fmt's text TOLD by the authors' own Lean function (tested against real Go, not proved from fmt's source: count such statements apart). THE CARD IS WHAT COUNTS. Prove the row's statement (the work); the ties are given (YtnjckloodkdbpaaDoorTie.lean); close each card by the builder's one call (the guide's Derived/Test/ToyasCard.lean, 'card_holds'). Laid BY PROGRAM, IN A SANDBOX (cutbox-door.mjs). By AI agents, Wed Nov 11 2026. No macro, syntax, notation, axiom, sorry.
-/
import Derived.Test.YtnjckloodkdbpaaDoorRows
import GoSem.ClaimSeven
namespace Go.Proofs.YtnjckloodkdbpaaDoor
namespace Rows

/-- THE TIED CARD OF 'laws.FnTraceText'. -/
def fnTraceTextCard : Claim7 := { stood := { row := fnTraceTextRow, standIns := [], harness := (true, "cd7dcb11e3cd05a9d572e5d76285df4e697d5d7ccd1eff794def0b490c920856"), looks := true }, kinds := [], alts := [], laidByText := true, laidKinds := [.data, .data, .data, .sentinel, .sentinel], laidTests := true, laidLooks := .later }
def FnTraceTextCardSaid : Prop := Claim7.holds Tryd.pinned (.plain (OpenSpec.ofChange fnTraceTextSpec)) fnTraceTextCard

/-- THE TIED CARD OF 'laws.FnParseTrace'. -/
def fnParseTraceCard : Claim7 := { stood := { row := fnParseTraceRow, standIns := [], harness := (true, "cd7dcb11e3cd05a9d572e5d76285df4e697d5d7ccd1eff794def0b490c920856"), looks := true }, kinds := [], alts := [], laidByText := true, laidKinds := [.data, .data, .data, .sentinel, .sentinel], laidTests := true, laidLooks := .later }
def FnParseTraceCardSaid : Prop := Claim7.holds Tryd.pinned (.plain (OpenSpec.ofChange fnParseTraceSpec)) fnParseTraceCard

/-- THE TIED CARD OF 'laws.FnTraceTextRows'. -/
def fnTraceTextRowsCard : Claim7 := { stood := { row := fnTraceTextRowsRow, standIns := [], harness := (true, "cd7dcb11e3cd05a9d572e5d76285df4e697d5d7ccd1eff794def0b490c920856"), looks := true }, kinds := [], alts := [], laidByText := true, laidKinds := [.data, .data, .data], laidTests := true, laidLooks := .later }
def FnTraceTextRowsCardSaid : Prop := Claim7.holds Tryd.pinned (.plain (OpenSpec.ofChange fnTraceTextRowsSpec)) fnTraceTextRowsCard

/-- THE TIED CARD OF 'laws.FnExactTraceText'. -/
def fnExactTraceTextCard : Claim7 := { stood := { row := fnExactTraceTextRow, standIns := [], harness := (true, "cd7dcb11e3cd05a9d572e5d76285df4e697d5d7ccd1eff794def0b490c920856"), looks := true }, kinds := [], alts := [], laidByText := true, laidKinds := [.data, .data, .data], laidTests := true, laidLooks := .later }
def FnExactTraceTextCardSaid : Prop := Claim7.holds Tryd.pinned (.plain (OpenSpec.ofChange fnExactTraceTextSpec)) fnExactTraceTextCard

/-- THE TIED CARD OF 'laws.FnExactParseTrace'. -/
def fnExactParseTraceCard : Claim7 := { stood := { row := fnExactParseTraceRow, standIns := [], harness := (true, "cd7dcb11e3cd05a9d572e5d76285df4e697d5d7ccd1eff794def0b490c920856"), looks := true }, kinds := [], alts := [], laidByText := true, laidKinds := [.data, .data, .data, .sentinel, .sentinel], laidTests := true, laidLooks := .later }
def FnExactParseTraceCardSaid : Prop := Claim7.holds Tryd.pinned (.plain (OpenSpec.ofChange fnExactParseTraceSpec)) fnExactParseTraceCard

/-- THE SECOND FORM's CARD OF 'laws.FnTraceText'. -/
def fnTraceTextUptoCard : Claim7 := { stood := { row := fnTraceTextUptoRow, standIns := [], harness := (true, "cd7dcb11e3cd05a9d572e5d76285df4e697d5d7ccd1eff794def0b490c920856"), looks := true }, kinds := [], alts := [], laidByText := true, laidKinds := [.data, .data, .data, .sentinel, .sentinel], laidTests := true, laidLooks := .later }
def FnTraceTextUptoCardSaid : Prop := Claim7.holds Tryd.pinned (.plain (OpenSpec.upto fnTraceTextSpec)) fnTraceTextUptoCard

/-- THE SECOND FORM's CARD OF 'laws.FnParseTrace'. -/
def fnParseTraceUptoCard : Claim7 := { stood := { row := fnParseTraceUptoRow, standIns := [], harness := (true, "cd7dcb11e3cd05a9d572e5d76285df4e697d5d7ccd1eff794def0b490c920856"), looks := true }, kinds := [], alts := [], laidByText := true, laidKinds := [.data, .data, .data, .sentinel, .sentinel], laidTests := true, laidLooks := .later }
def FnParseTraceUptoCardSaid : Prop := Claim7.holds Tryd.pinned (.plain (OpenSpec.upto fnParseTraceSpec)) fnParseTraceUptoCard

/-- THE SECOND FORM's CARD OF 'laws.FnTraceTextRows'. -/
def fnTraceTextRowsUptoCard : Claim7 := { stood := { row := fnTraceTextRowsUptoRow, standIns := [], harness := (true, "cd7dcb11e3cd05a9d572e5d76285df4e697d5d7ccd1eff794def0b490c920856"), looks := true }, kinds := [], alts := [], laidByText := true, laidKinds := [.data, .data, .data], laidTests := true, laidLooks := .later }
def FnTraceTextRowsUptoCardSaid : Prop := Claim7.holds Tryd.pinned (.plain (OpenSpec.upto fnTraceTextRowsSpec)) fnTraceTextRowsUptoCard

/-- THE SECOND FORM's CARD OF 'laws.FnExactTraceText'. -/
def fnExactTraceTextUptoCard : Claim7 := { stood := { row := fnExactTraceTextUptoRow, standIns := [], harness := (true, "cd7dcb11e3cd05a9d572e5d76285df4e697d5d7ccd1eff794def0b490c920856"), looks := true }, kinds := [], alts := [], laidByText := true, laidKinds := [.data, .data, .data], laidTests := true, laidLooks := .later }
def FnExactTraceTextUptoCardSaid : Prop := Claim7.holds Tryd.pinned (.plain (OpenSpec.upto fnExactTraceTextSpec)) fnExactTraceTextUptoCard

/-- THE SECOND FORM's CARD OF 'laws.FnExactParseTrace'. -/
def fnExactParseTraceUptoCard : Claim7 := { stood := { row := fnExactParseTraceUptoRow, standIns := [], harness := (true, "cd7dcb11e3cd05a9d572e5d76285df4e697d5d7ccd1eff794def0b490c920856"), looks := true }, kinds := [], alts := [], laidByText := true, laidKinds := [.data, .data, .data, .sentinel, .sentinel], laidTests := true, laidLooks := .later }
def FnExactParseTraceUptoCardSaid : Prop := Claim7.holds Tryd.pinned (.plain (OpenSpec.upto fnExactParseTraceSpec)) fnExactParseTraceUptoCard
end Rows
end Go.Proofs.YtnjckloodkdbpaaDoor
