/-
  DERIVED. GIVEN WITH THE SEED: THE PROGRAM's TIES (one call each: nine closed facts by the kernel) AND EACH ROW's TIE, after the 31st guide's Derived/Test/Toyas{Tie, Card}.lean. No idea stands in it: it is a product of the set-up. Laid BY PROGRAM, IN A SANDBOX (cutbox-door.mjs). By AI agents, Wed Nov 11 2026. No macro, syntax, notation, axiom, sorry.
-/
import Derived.Test.YtldepledinolmaaDoorRows
import Derived.LaidByTextLater
import Derived.SevenTiedAt
import Derived.LaidSub
import Derived.LaidOnce
namespace Go.Proofs.YtldepledinolmaaDoor
open Go
set_option maxRecDepth 100000
theorem seatTie1 : Tryd.prog.laidByTextLater [("loop.example/g00800/impl.nibbleSums", Rows.laid_loop_example_g00800_impl_nibbleSums), ("loop.example/g00800/impl.errNoFrame", Rows.laid_loop_example_g00800_impl_errNoFrame), ("loop.example/g00800/impl.errOtherSum", Rows.laid_loop_example_g00800_impl_errOtherSum), ("loop.example/g00800/impl.errNoSteps", Rows.laid_loop_example_g00800_impl_errNoSteps)] [.data, .sentinel, .sentinel, .sentinel] true :=
  Program.laidByTextLater_by_one 71 8 17 (by kernel_rfl) (by kernel_rfl) (by kernel_rfl) (by kernel_rfl) (by kernel_rfl) (by kernel_rfl) (fun _ _ => by kernel_rfl)
theorem noOwnUnsafe : Tryd.pinned.checked.prog.headLifts.contains "ownunsafe" = false := by kernel_rfl
theorem tie : Tryd.prog.laidByTextLater [("loop.example/g00800/impl.nibbleSums", Rows.laid_loop_example_g00800_impl_nibbleSums), ("loop.example/g00800/impl.errNoFrame", Rows.laid_loop_example_g00800_impl_errNoFrame), ("loop.example/g00800/impl.errOtherSum", Rows.laid_loop_example_g00800_impl_errOtherSum), ("loop.example/g00800/impl.errNoSteps", Rows.laid_loop_example_g00800_impl_errNoSteps)] [.data, .sentinel, .sentinel, .sentinel] true :=
  Program.laidByTextLater.sub seatTie1 ["loop.example/g00800/impl.nibbleSums", "loop.example/g00800/impl.errNoFrame", "loop.example/g00800/impl.errOtherSum", "loop.example/g00800/impl.errNoSteps"] (by kernel_rfl) (by kernel_rfl)
theorem fnWholes_row_tie : Rows.fnWholesRow.laidByTextAt .later Tryd.pinned [.data, .sentinel, .sentinel, .sentinel] true :=
  OpenClaim.laidByTextAt_later rfl rfl tie noOwnUnsafe
theorem fnExactIsWhole_row_tie : Rows.fnExactIsWholeRow.laidByTextAt .later Tryd.pinned [.data, .sentinel, .sentinel, .sentinel] true :=
  OpenClaim.laidByTextAt_later rfl rfl tie noOwnUnsafe
theorem tie2 : Tryd.prog.laidByTextLater [("loop.example/g00800/impl.nibbleSums", Rows.laid_loop_example_g00800_impl_nibbleSums), ("loop.example/g00800/impl.errNoFrame", Rows.laid_loop_example_g00800_impl_errNoFrame)] [.data, .sentinel] true :=
  Program.laidByTextLater.sub seatTie1 ["loop.example/g00800/impl.nibbleSums", "loop.example/g00800/impl.errNoFrame"] (by kernel_rfl) (by kernel_rfl)
theorem fnExactSpotsOf_row_tie : Rows.fnExactSpotsOfRow.laidByTextAt .later Tryd.pinned [.data, .sentinel] true :=
  OpenClaim.laidByTextAt_later rfl rfl tie2 noOwnUnsafe
theorem fnWholesUpto_row_tie : Rows.fnWholesUptoRow.laidByTextAt .later Tryd.pinned [.data, .sentinel, .sentinel, .sentinel] true :=
  OpenClaim.laidByTextAt_later rfl rfl tie noOwnUnsafe
theorem fnExactSpotsOfUpto_row_tie : Rows.fnExactSpotsOfUptoRow.laidByTextAt .later Tryd.pinned [.data, .sentinel] true :=
  OpenClaim.laidByTextAt_later rfl rfl tie2 noOwnUnsafe
theorem fnExactIsWholeUpto_row_tie : Rows.fnExactIsWholeUptoRow.laidByTextAt .later Tryd.pinned [.data, .sentinel, .sentinel, .sentinel] true :=
  OpenClaim.laidByTextAt_later rfl rfl tie noOwnUnsafe
end Go.Proofs.YtldepledinolmaaDoor
