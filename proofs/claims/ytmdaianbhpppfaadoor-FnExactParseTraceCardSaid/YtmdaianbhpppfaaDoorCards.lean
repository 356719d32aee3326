/-
  DERIVED. GIVEN WITH THE SEED: THE CARDS: each row of YtmdaianbhpppfaaDoorRows.lean that lists a variable, with what it lists TIED to the program's text (the seventh form; the later family's looks); each row that meets fmt, with fmt's text TOLD by the authors' own Lean function (tested against real Go, not proved from fmt's source: count such statements apart). THE CARD IS WHAT COUNTS. Prove the row's statement (the work); the ties are given (YtmdaianbhpppfaaDoorTie.lean); close each card by the builder's one call (the guide's Derived/Test/ToyasCard.lean, 'card_holds'). Laid BY PROGRAM, IN A SANDBOX (cutbox-door.mjs). By AI agents, Wed Nov 11 2026. No macro, syntax, notation, axiom, sorry.
-/
import Derived.Test.YtmdaianbhpppfaaDoorRows
import GoSem.ClaimSeven
namespace Go.Proofs.YtmdaianbhpppfaaDoor
namespace Rows

/-- THE TIED CARD OF 'laws.FnExactHexOf'. -/
def fnExactHexOfCard : Claim7 := { stood := { row := fnExactHexOfRow, standIns := [], harness := (true, "5ecbb0d7ff00d36920ec0248376e86f8e40959730a99eb349b864acd4b078508"), looks := false }, kinds := [], alts := [], laidByText := true, laidKinds := [.data, .data, .data], laidTests := true, laidLooks := .later }
def FnExactHexOfCardSaid : Prop := Claim7.holds Tryd.pinned (.plain (OpenSpec.ofChange fnExactHexOfSpec)) fnExactHexOfCard

/-- THE TIED CARD OF 'laws.FnExactEventText'. -/
def fnExactEventTextCard : Claim7 := { stood := { row := fnExactEventTextRow, standIns := [], harness := (true, "5ecbb0d7ff00d36920ec0248376e86f8e40959730a99eb349b864acd4b078508"), looks := false }, kinds := [], alts := [], laidByText := true, laidKinds := [.data, .data, .data], laidTests := true, laidLooks := .later }
def FnExactEventTextCardSaid : Prop := Claim7.holds Tryd.pinned (.plain (OpenSpec.ofChange fnExactEventTextSpec)) fnExactEventTextCard

/-- THE TIED CARD OF 'laws.FnExactPrintTrace'. -/
def fnExactPrintTraceCard : Claim7 := { stood := { row := fnExactPrintTraceRow, standIns := [], harness := (true, "5ecbb0d7ff00d36920ec0248376e86f8e40959730a99eb349b864acd4b078508"), looks := false }, kinds := [], alts := [], laidByText := true, laidKinds := [.data, .data, .data], laidTests := true, laidLooks := .later }
def FnExactPrintTraceCardSaid : Prop := Claim7.holds Tryd.pinned (.plain (OpenSpec.ofChange fnExactPrintTraceSpec)) fnExactPrintTraceCard

/-- THE TIED CARD OF 'laws.FnExactParseTrace'. -/
def fnExactParseTraceCard : Claim7 := { stood := { row := fnExactParseTraceRow, standIns := [], harness := (true, "5ecbb0d7ff00d36920ec0248376e86f8e40959730a99eb349b864acd4b078508"), looks := false }, kinds := [], alts := [], laidByText := true, laidKinds := [.data, .pinned], laidTests := true, laidLooks := .later }
def FnExactParseTraceCardSaid : Prop := Claim7.holds Tryd.pinned (.plain (OpenSpec.ofChange fnExactParseTraceSpec)) fnExactParseTraceCard

/-- THE SECOND FORM's CARD OF 'laws.FnExactHexOf'. -/
def fnExactHexOfUptoCard : Claim7 := { stood := { row := fnExactHexOfUptoRow, standIns := [], harness := (true, "5ecbb0d7ff00d36920ec0248376e86f8e40959730a99eb349b864acd4b078508"), looks := false }, kinds := [], alts := [], laidByText := true, laidKinds := [.data, .data, .data], laidTests := true, laidLooks := .later }
def FnExactHexOfUptoCardSaid : Prop := Claim7.holds Tryd.pinned (.plain (OpenSpec.upto fnExactHexOfSpec)) fnExactHexOfUptoCard

/-- THE SECOND FORM's CARD OF 'laws.FnExactEventText'. -/
def fnExactEventTextUptoCard : Claim7 := { stood := { row := fnExactEventTextUptoRow, standIns := [], harness := (true, "5ecbb0d7ff00d36920ec0248376e86f8e40959730a99eb349b864acd4b078508"), looks := false }, kinds := [], alts := [], laidByText := true, laidKinds := [.data, .data, .data], laidTests := true, laidLooks := .later }
def FnExactEventTextUptoCardSaid : Prop := Claim7.holds Tryd.pinned (.plain (OpenSpec.upto fnExactEventTextSpec)) fnExactEventTextUptoCard

/-- THE SECOND FORM's CARD OF 'laws.FnExactPrintTrace'. -/
def fnExactPrintTraceUptoCard : Claim7 := { stood := { row := fnExactPrintTraceUptoRow, standIns := [], harness := (true, "5ecbb0d7ff00d36920ec0248376e86f8e40959730a99eb349b864acd4b078508"), looks := false }, kinds := [], alts := [], laidByText := true, laidKinds := [.data, .data, .data], laidTests := true, laidLooks := .later }
def FnExactPrintTraceUptoCardSaid : Prop := Claim7.holds Tryd.pinned (.plain (OpenSpec.upto fnExactPrintTraceSpec)) fnExactPrintTraceUptoCard

/-- THE SECOND FORM's CARD OF 'laws.FnExactParseTrace'. -/
def fnExactParseTraceUptoCard : Claim7 := { stood := { row := fnExactParseTraceUptoRow, standIns := [], harness := (true, "5ecbb0d7ff00d36920ec0248376e86f8e40959730a99eb349b864acd4b078508"), looks := false }, kinds := [], alts := [], laidByText := true, laidKinds := [.data, .pinned], laidTests := true, laidLooks := .later }
def FnExactParseTraceUptoCardSaid : Prop := Claim7.holds Tryd.pinned (.plain (OpenSpec.upto fnExactParseTraceSpec)) fnExactParseTraceUptoCard
end Rows
end Go.Proofs.YtmdaianbhpppfaaDoor
