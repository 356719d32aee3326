/-
  DERIVED. GIVEN WITH THE SEED: THE CARDS: each row of YtldepledinolmaaGreatDoorRows.lean that lists a variable, with what it lists TIED to the program's text (the seventh form; the later family's looks); each row that meets fmt, with fmt's text TOLD by the authors' own Lean function (tested against real Go, not proved from fmt's source: count such statements apart). THE CARD IS WHAT COUNTS. Prove the row's statement (the work); the ties are given (YtldepledinolmaaGreatDoorTie.lean); close each card by the builder's one call (the guide's Derived/Test/ToyasCard.lean, 'card_holds'). Laid BY PROGRAM, IN A SANDBOX (cutbox-door.mjs). By AI agents, Wed Nov 11 2026. No macro, syntax, notation, axiom, sorry.
-/
import Derived.Test.YtldepledinolmaaGreatDoorRows
import GoSem.ClaimSeven
namespace Go.Proofs.YtldepledinolmaaGreatDoor
namespace Rows

/-- THE TIED CARD OF 'laws.FnTurns'. -/
def fnTurnsCard : Claim7 := { stood := { row := fnTurnsRow, standIns := [], harness := (true, "87f8a8aaa8e4c0b42c748a6233402dfdf254bf7ab230d26bb778b44fbb82239c"), looks := true }, kinds := [], alts := [], laidByText := true, laidKinds := [.data, .sentinel, .sentinel, .sentinel], laidTests := true, laidLooks := .later }
def FnTurnsCardSaid : Prop := Claim7.holds Tryz.pinned (.plain (OpenSpec.ofChange fnTurnsSpec)) fnTurnsCard

/-- THE TIED CARD OF 'laws.FnExactIsCaught'. -/
def fnExactIsCaughtCard : Claim7 := { stood := { row := fnExactIsCaughtRow, standIns := [], harness := (true, "87f8a8aaa8e4c0b42c748a6233402dfdf254bf7ab230d26bb778b44fbb82239c"), looks := true }, kinds := [], alts := [], laidByText := true, laidKinds := [.data, .sentinel, .sentinel, .sentinel], laidTests := true, laidLooks := .later }
def FnExactIsCaughtCardSaid : Prop := Claim7.holds Tryz.pinned (.plain (OpenSpec.ofChange fnExactIsCaughtSpec)) fnExactIsCaughtCard

/-- THE SECOND FORM's CARD OF 'laws.FnTurns'. -/
def fnTurnsUptoCard : Claim7 := { stood := { row := fnTurnsUptoRow, standIns := [], harness := (true, "87f8a8aaa8e4c0b42c748a6233402dfdf254bf7ab230d26bb778b44fbb82239c"), looks := true }, kinds := [], alts := [], laidByText := true, laidKinds := [.data, .sentinel, .sentinel, .sentinel], laidTests := true, laidLooks := .later }
def FnTurnsUptoCardSaid : Prop := Claim7.holds Tryz.pinned (.plain (OpenSpec.upto fnTurnsSpec)) fnTurnsUptoCard

/-- THE SECOND FORM's CARD OF 'laws.FnExactIsCaught'. -/
def fnExactIsCaughtUptoCard : Claim7 := { stood := { row := fnExactIsCaughtUptoRow, standIns := [], harness := (true, "87f8a8aaa8e4c0b42c748a6233402dfdf254bf7ab230d26bb778b44fbb82239c"), looks := true }, kinds := [], alts := [], laidByText := true, laidKinds := [.data, .sentinel, .sentinel, .sentinel], laidTests := true, laidLooks := .later }
def FnExactIsCaughtUptoCardSaid : Prop := Claim7.holds Tryz.pinned (.plain (OpenSpec.upto fnExactIsCaughtSpec)) fnExactIsCaughtUptoCard
end Rows
end Go.Proofs.YtldepledinolmaaGreatDoor
