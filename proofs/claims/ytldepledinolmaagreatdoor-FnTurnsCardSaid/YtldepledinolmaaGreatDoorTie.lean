/-
  DERIVED. GIVEN WITH THE SEED: THE PROGRAM's TIES (one call each: nine closed facts by the kernel) AND EACH ROW's TIE, after the 31st guide's Derived/Test/Toyas{Tie, Card}.lean. No idea stands in it: it is a product of the set-up. Laid BY PROGRAM, IN A SANDBOX (cutbox-door.mjs). By AI agents, Wed Nov 11 2026. No macro, syntax, notation, axiom, sorry.
-/
import Derived.Test.YtldepledinolmaaGreatDoorRows
import Derived.LaidByTextLater
import Derived.SevenTiedAt
import Derived.LaidSub
import Derived.LaidOnce
namespace Go.Proofs.YtldepledinolmaaGreatDoor
open Go
set_option maxRecDepth 100000
theorem seatTie1 : Tryz.prog.laidByTextLater [("loop.example/g00800/impl.nibbleSums", Rows.laid_loop_example_g00800_impl_nibbleSums), ("loop.example/g00800/impl.errNoFrame", Rows.laid_loop_example_g00800_impl_errNoFrame), ("loop.example/g00800/impl.errOtherSum", Rows.laid_loop_example_g00800_impl_errOtherSum), ("loop.example/g00800/impl.errNoSteps", Rows.laid_loop_example_g00800_impl_errNoSteps)] [.data, .sentinel, .sentinel, .sentinel] true :=
  Program.laidByTextLater_by_one 71 8 17 (by kernel_rfl) (by kernel_rfl) (by kernel_rfl) (by kernel_rfl) (by kernel_rfl) (by kernel_rfl) (fun _ _ => by kernel_rfl)
theorem noOwnUnsafe : Tryz.pinned.checked.prog.headLifts.contains "ownunsafe" = false := by kernel_rfl
theorem tie : Tryz.prog.laidByTextLater [("loop.example/g00800/impl.nibbleSums", Rows.laid_loop_example_g00800_impl_nibbleSums), ("loop.example/g00800/impl.errNoFrame", Rows.laid_loop_example_g00800_impl_errNoFrame), ("loop.example/g00800/impl.errOtherSum", Rows.laid_loop_example_g00800_impl_errOtherSum), ("loop.example/g00800/impl.errNoSteps", Rows.laid_loop_example_g00800_impl_errNoSteps)] [.data, .sentinel, .sentinel, .sentinel] true :=
  Program.laidByTextLater.sub seatTie1 ["loop.example/g00800/impl.nibbleSums", "loop.example/g00800/impl.errNoFrame", "loop.example/g00800/impl.errOtherSum", "loop.example/g00800/impl.errNoSteps"] (by kernel_rfl) (by kernel_rfl)
theorem fnTurns_row_tie : Rows.fnTurnsRow.laidByTextAt .later Tryz.pinned [.data, .sentinel, .sentinel, .sentinel] true :=
  OpenClaim.laidByTextAt_later rfl rfl tie noOwnUnsafe
theorem fnExactIsCaught_row_tie : Rows.fnExactIsCaughtRow.laidByTextAt .later Tryz.pinned [.data, .sentinel, .sentinel, .sentinel] true :=
  OpenClaim.laidByTextAt_later rfl rfl tie noOwnUnsafe
theorem fnTurnsUpto_row_tie : Rows.fnTurnsUptoRow.laidByTextAt .later Tryz.pinned [.data, .sentinel, .sentinel, .sentinel] true :=
  OpenClaim.laidByTextAt_later rfl rfl tie noOwnUnsafe
theorem fnExactIsCaughtUpto_row_tie : Rows.fnExactIsCaughtUptoRow.laidByTextAt .later Tryz.pinned [.data, .sentinel, .sentinel, .sentinel] true :=
  OpenClaim.laidByTextAt_later rfl rfl tie noOwnUnsafe
end Go.Proofs.YtldepledinolmaaGreatDoor
