/-
  DERIVED. GIVEN WITH THE SEED: THE CARDS: each row of YtechfdnfmapafaaDoorRows.lean that lists a variable, with what it lists TIED to the program's text (the seventh form; the later family's looks); each row that meets fmt, with fmt's text TOLD by the authors' own Lean function (tested against real Go, not proved from fmt's source: count such statements apart). THE CARD IS WHAT COUNTS. Prove the row's statement (the work); the ties are given (YtechfdnfmapafaaDoorTie.lean); close each card by the builder's one call (the guide's Derived/Test/ToyasCard.lean, 'card_holds'). Laid BY PROGRAM, IN A SANDBOX (cutbox-door.mjs). By AI agents, Wed Nov 11 2026. No macro, syntax, notation, axiom, sorry.
-/
import Derived.Test.YtechfdnfmapafaaDoorRows
import GoSem.ClaimSeven
namespace Go.Proofs.YtechfdnfmapafaaDoor
namespace Rows

/-- THE TIED CARD OF 'laws.FnWires'. -/
def fnWiresCard : Claim7 := { stood := { row := fnWiresRow, standIns := [], harness := (true, "a9dca9269a28e7c3641368243a1dc5b237511cbb6f1f91596748b6af69b73f84"), looks := false }, kinds := [], alts := [], laidByText := true, laidKinds := [.data], laidTests := true, laidLooks := .later }
def FnWiresCardSaid : Prop := Claim7.holds Tryd.pinned (.plain (OpenSpec.ofChange fnWiresSpec)) fnWiresCard

/-- THE TIED CARD OF 'laws.FnExactCrcOf'. -/
def fnExactCrcOfCard : Claim7 := { stood := { row := fnExactCrcOfRow, standIns := [], harness := (true, "a9dca9269a28e7c3641368243a1dc5b237511cbb6f1f91596748b6af69b73f84"), looks := false }, kinds := [], alts := [], laidByText := true, laidKinds := [.data], laidTests := true, laidLooks := .later }
def FnExactCrcOfCardSaid : Prop := Claim7.holds Tryd.pinned (.plain (OpenSpec.ofChange fnExactCrcOfSpec)) fnExactCrcOfCard

/-- THE SECOND FORM's CARD OF 'laws.FnWires'. -/
def fnWiresUptoCard : Claim7 := { stood := { row := fnWiresUptoRow, standIns := [], harness := (true, "a9dca9269a28e7c3641368243a1dc5b237511cbb6f1f91596748b6af69b73f84"), looks := false }, kinds := [], alts := [], laidByText := true, laidKinds := [.data], laidTests := true, laidLooks := .later }
def FnWiresUptoCardSaid : Prop := Claim7.holds Tryd.pinned (.plain (OpenSpec.upto fnWiresSpec)) fnWiresUptoCard

/-- THE SECOND FORM's CARD OF 'laws.FnExactCrcOf'. -/
def fnExactCrcOfUptoCard : Claim7 := { stood := { row := fnExactCrcOfUptoRow, standIns := [], harness := (true, "a9dca9269a28e7c3641368243a1dc5b237511cbb6f1f91596748b6af69b73f84"), looks := false }, kinds := [], alts := [], laidByText := true, laidKinds := [.data], laidTests := true, laidLooks := .later }
def FnExactCrcOfUptoCardSaid : Prop := Claim7.holds Tryd.pinned (.plain (OpenSpec.upto fnExactCrcOfSpec)) fnExactCrcOfUptoCard
end Rows
end Go.Proofs.YtechfdnfmapafaaDoor
