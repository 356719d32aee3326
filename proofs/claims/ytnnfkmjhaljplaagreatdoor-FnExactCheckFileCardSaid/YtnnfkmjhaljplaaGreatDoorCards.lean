/-
  DERIVED. GIVEN WITH THE SEED: THE CARDS: each row of YtnnfkmjhaljplaaGreatDoorRows.lean that lists a variable, with what it lists TIED to the program's text (the seventh form; the later family's looks); each row that meets fmt, with fmt's text TOLD by the authors' own Lean function (tested against real Go, not proved from fmt's source: count such statements apart). THE CARD IS WHAT COUNTS. Prove the row's statement (the work); the ties are given (YtnnfkmjhaljplaaGreatDoorTie.lean); close each card by the builder's one call (the guide's Derived/Test/ToyasCard.lean, 'card_holds'). Laid BY PROGRAM, IN A SANDBOX (cutbox-door.mjs). By AI agents, Wed Nov 11 2026. No macro, syntax, notation, axiom, sorry.
-/
import Derived.Test.YtnnfkmjhaljplaaGreatDoorRows
import GoSem.ClaimSeven
namespace Go.Proofs.YtnnfkmjhaljplaaGreatDoor
namespace Rows

/-- THE TIED CARD OF 'laws.FnTop'. -/
def fnTopCard : Claim7 := { stood := { row := fnTopRow, standIns := [], harness := (true, "61cfb363b8a31a167f983ab8ea5759e0736b1194d8a7996d8ced40be90385071"), looks := true }, kinds := [], alts := [], laidByText := true, laidKinds := [.data, .sentinel, .sentinel, .sentinel], laidTests := true, laidLooks := .later }
def FnTopCardSaid : Prop := Claim7.holds Tryz.pinned (.plain (OpenSpec.ofChange fnTopSpec)) fnTopCard

/-- THE TIED CARD OF 'laws.FnPipes'. -/
def fnPipesCard : Claim7 := { stood := { row := fnPipesRow, standIns := [], harness := (true, "61cfb363b8a31a167f983ab8ea5759e0736b1194d8a7996d8ced40be90385071"), looks := true }, kinds := [], alts := [], laidByText := true, laidKinds := [.data, .data, .data, .data, .data, .sentinel, .sentinel, .sentinel, .pinned], laidTests := true, laidLooks := .later }
def FnPipesCardSaid : Prop := Claim7.holds Tryz.pinned (.plain (OpenSpec.ofChange fnPipesSpec)) fnPipesCard

/-- THE TIED CARD OF 'laws.FnExactCheckFile'. -/
def fnExactCheckFileCard : Claim7 := { stood := { row := fnExactCheckFileRow, standIns := [], harness := (true, "61cfb363b8a31a167f983ab8ea5759e0736b1194d8a7996d8ced40be90385071"), looks := true }, kinds := [], alts := [], laidByText := true, laidKinds := [.data, .sentinel, .sentinel, .sentinel], laidTests := true, laidLooks := .later }
def FnExactCheckFileCardSaid : Prop := Claim7.holds Tryz.pinned (.plain (OpenSpec.ofChange fnExactCheckFileSpec)) fnExactCheckFileCard

/-- THE TIED CARD OF 'laws.FnExactRunAll'. -/
def fnExactRunAllCard : Claim7 := { stood := { row := fnExactRunAllRow, standIns := [], harness := (true, "61cfb363b8a31a167f983ab8ea5759e0736b1194d8a7996d8ced40be90385071"), looks := true }, kinds := [], alts := [], laidByText := true, laidKinds := [.data, .sentinel, .sentinel, .sentinel], laidTests := true, laidLooks := .later }
def FnExactRunAllCardSaid : Prop := Claim7.holds Tryz.pinned (.plain (OpenSpec.ofChange fnExactRunAllSpec)) fnExactRunAllCard

/-- THE SECOND FORM's CARD OF 'laws.FnTop'. -/
def fnTopUptoCard : Claim7 := { stood := { row := fnTopUptoRow, standIns := [], harness := (true, "61cfb363b8a31a167f983ab8ea5759e0736b1194d8a7996d8ced40be90385071"), looks := true }, kinds := [], alts := [], laidByText := true, laidKinds := [.data, .sentinel, .sentinel, .sentinel], laidTests := true, laidLooks := .later }
def FnTopUptoCardSaid : Prop := Claim7.holds Tryz.pinned (.plain (OpenSpec.upto fnTopSpec)) fnTopUptoCard

/-- THE SECOND FORM's CARD OF 'laws.FnPipes'. -/
def fnPipesUptoCard : Claim7 := { stood := { row := fnPipesUptoRow, standIns := [], harness := (true, "61cfb363b8a31a167f983ab8ea5759e0736b1194d8a7996d8ced40be90385071"), looks := true }, kinds := [], alts := [], laidByText := true, laidKinds := [.data, .data, .data, .data, .data, .sentinel, .sentinel, .sentinel, .pinned], laidTests := true, laidLooks := .later }
def FnPipesUptoCardSaid : Prop := Claim7.holds Tryz.pinned (.plain (OpenSpec.upto fnPipesSpec)) fnPipesUptoCard

/-- THE SECOND FORM's CARD OF 'laws.FnExactCheckFile'. -/
def fnExactCheckFileUptoCard : Claim7 := { stood := { row := fnExactCheckFileUptoRow, standIns := [], harness := (true, "61cfb363b8a31a167f983ab8ea5759e0736b1194d8a7996d8ced40be90385071"), looks := true }, kinds := [], alts := [], laidByText := true, laidKinds := [.data, .sentinel, .sentinel, .sentinel], laidTests := true, laidLooks := .later }
def FnExactCheckFileUptoCardSaid : Prop := Claim7.holds Tryz.pinned (.plain (OpenSpec.upto fnExactCheckFileSpec)) fnExactCheckFileUptoCard

/-- THE SECOND FORM's CARD OF 'laws.FnExactRunAll'. -/
def fnExactRunAllUptoCard : Claim7 := { stood := { row := fnExactRunAllUptoRow, standIns := [], harness := (true, "61cfb363b8a31a167f983ab8ea5759e0736b1194d8a7996d8ced40be90385071"), looks := true }, kinds := [], alts := [], laidByText := true, laidKinds := [.data, .sentinel, .sentinel, .sentinel], laidTests := true, laidLooks := .later }
def FnExactRunAllUptoCardSaid : Prop := Claim7.holds Tryz.pinned (.plain (OpenSpec.upto fnExactRunAllSpec)) fnExactRunAllUptoCard
end Rows
end Go.Proofs.YtnnfkmjhaljplaaGreatDoor
