/-
  DERIVED. GIVEN WITH THE SEED: THE CARDS: each row of YtmnpiakcppcmgaaDoorRows.lean that lists a variable, with what it lists TIED to the program's text (the seventh form; the later family's looks); each row that meets fmt, with fmt's text TOLD by the authors' own Lean function (tested against real Go, not proved from fmt's source: count such statements apart). THE CARD IS WHAT COUNTS. Prove the row's statement (the work); the ties are given (YtmnpiakcppcmgaaDoorTie.lean); close each card by the builder's one call (the guide's Derived/Test/ToyasCard.lean, 'card_holds'). Laid BY PROGRAM, IN A SANDBOX (cutbox-door.mjs). By AI agents, Wed Nov 11 2026. No macro, syntax, notation, axiom, sorry.
-/
import Derived.Test.YtmnpiakcppcmgaaDoorRows
import GoSem.ClaimSeven
namespace Go.Proofs.YtmnpiakcppcmgaaDoor
namespace Rows

/-- THE TIED CARD OF 'laws.FnExactEncodeTrace'. -/
def fnExactEncodeTraceCard : Claim7 := { stood := { row := fnExactEncodeTraceRow, standIns := [], harness := (true, "aa86d8ab1c7532c08858297bb63ced864cf21c8c3f43bf29648e085bae85192e"), looks := true }, kinds := [], alts := [], laidByText := true, laidKinds := [.data], laidTests := true, laidLooks := .later }
def FnExactEncodeTraceCardSaid : Prop := Claim7.holds Tryd.pinned (.plain (OpenSpec.ofChange fnExactEncodeTraceSpec)) fnExactEncodeTraceCard

/-- THE TIED CARD OF 'laws.FnExactDecodeTrace'. -/
def fnExactDecodeTraceCard : Claim7 := { stood := { row := fnExactDecodeTraceRow, standIns := [], harness := (true, "aa86d8ab1c7532c08858297bb63ced864cf21c8c3f43bf29648e085bae85192e"), looks := true }, kinds := [], alts := [], laidByText := true, laidKinds := [.data, .sentinel, .sentinel, .sentinel], laidTests := true, laidLooks := .later }
def FnExactDecodeTraceCardSaid : Prop := Claim7.holds Tryd.pinned (.plain (OpenSpec.ofChange fnExactDecodeTraceSpec)) fnExactDecodeTraceCard

/-- THE SECOND FORM's CARD OF 'laws.FnExactEncodeTrace'. -/
def fnExactEncodeTraceUptoCard : Claim7 := { stood := { row := fnExactEncodeTraceUptoRow, standIns := [], harness := (true, "aa86d8ab1c7532c08858297bb63ced864cf21c8c3f43bf29648e085bae85192e"), looks := true }, kinds := [], alts := [], laidByText := true, laidKinds := [.data], laidTests := true, laidLooks := .later }
def FnExactEncodeTraceUptoCardSaid : Prop := Claim7.holds Tryd.pinned (.plain (OpenSpec.upto fnExactEncodeTraceSpec)) fnExactEncodeTraceUptoCard

/-- THE SECOND FORM's CARD OF 'laws.FnExactDecodeTrace'. -/
def fnExactDecodeTraceUptoCard : Claim7 := { stood := { row := fnExactDecodeTraceUptoRow, standIns := [], harness := (true, "aa86d8ab1c7532c08858297bb63ced864cf21c8c3f43bf29648e085bae85192e"), looks := true }, kinds := [], alts := [], laidByText := true, laidKinds := [.data, .sentinel, .sentinel, .sentinel], laidTests := true, laidLooks := .later }
def FnExactDecodeTraceUptoCardSaid : Prop := Claim7.holds Tryd.pinned (.plain (OpenSpec.upto fnExactDecodeTraceSpec)) fnExactDecodeTraceUptoCard
end Rows
end Go.Proofs.YtmnpiakcppcmgaaDoor
