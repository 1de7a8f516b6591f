/-
  DERIVED. GIVEN WITH THE SEED: THE PROGRAM's TIES (one call each: nine closed facts by the kernel) AND EACH ROW's TIE, after the 31st guide's Derived/Test/Toyas{Tie, Card}.lean. No idea stands in it: it is a product of the set-up. Laid BY PROGRAM, IN A SANDBOX (cutbox-door.mjs). By AI agents, Wed Nov 11 2026. No macro, syntax, notation, axiom, sorry.
-/
import Derived.Test.YtfiabbfdnmldjaaDoorRows
import Derived.LaidByTextLater
import Derived.SevenTiedAt
import Derived.LaidSub
import Derived.LaidOnce
namespace Go.Proofs.YtfiabbfdnmldjaaDoor
open Go
set_option maxRecDepth 100000
theorem seatTie1 : Tryd.prog.laidByTextLater [("errors.errorType", Rows.laid_errors_errorType), ("loop.example/g00629/impl.errNotRight", Rows.laid_loop_example_g00629_impl_errNotRight), ("loop.example/g00629/impl.errNoHead", Rows.laid_loop_example_g00629_impl_errNoHead), ("loop.example/g00629/impl.errLacking", Rows.laid_loop_example_g00629_impl_errLacking), ("loop.example/g00629/impl.errNoRoom", Rows.laid_loop_example_g00629_impl_errNoRoom)] [.handle, .sentinel, .sentinel, .sentinel, .sentinel] true :=
  Program.laidByTextLater_by_one 92 8 2 (by kernel_rfl) (by kernel_rfl) (by kernel_rfl) (by kernel_rfl) (by kernel_rfl) (by kernel_rfl) (fun _ _ => by kernel_rfl)
theorem noOwnUnsafe : Tryd.pinned.checked.prog.headLifts.contains "ownunsafe" = false := by kernel_rfl
theorem tie : Tryd.prog.laidByTextLater [("errors.errorType", Rows.laid_errors_errorType), ("loop.example/g00629/impl.errNotRight", Rows.laid_loop_example_g00629_impl_errNotRight), ("loop.example/g00629/impl.errNoHead", Rows.laid_loop_example_g00629_impl_errNoHead), ("loop.example/g00629/impl.errLacking", Rows.laid_loop_example_g00629_impl_errLacking), ("loop.example/g00629/impl.errNoRoom", Rows.laid_loop_example_g00629_impl_errNoRoom)] [.handle, .sentinel, .sentinel, .sentinel, .sentinel] true :=
  Program.laidByTextLater.sub seatTie1 ["errors.errorType", "loop.example/g00629/impl.errNotRight", "loop.example/g00629/impl.errNoHead", "loop.example/g00629/impl.errLacking", "loop.example/g00629/impl.errNoRoom"] (by kernel_rfl) (by kernel_rfl)
theorem fnExactAreaFormat_row_tie : Rows.fnExactAreaFormatRow.laidByTextAt .later Tryd.pinned [.handle, .sentinel, .sentinel, .sentinel, .sentinel] true :=
  OpenClaim.laidByTextAt_later rfl rfl tie noOwnUnsafe
theorem fnExactAreaRead_row_tie : Rows.fnExactAreaReadRow.laidByTextAt .later Tryd.pinned [.handle, .sentinel, .sentinel, .sentinel, .sentinel] true :=
  OpenClaim.laidByTextAt_later rfl rfl tie noOwnUnsafe
theorem fnExactAreaFormatUpto_row_tie : Rows.fnExactAreaFormatUptoRow.laidByTextAt .later Tryd.pinned [.handle, .sentinel, .sentinel, .sentinel, .sentinel] true :=
  OpenClaim.laidByTextAt_later rfl rfl tie noOwnUnsafe
theorem fnExactAreaReadUpto_row_tie : Rows.fnExactAreaReadUptoRow.laidByTextAt .later Tryd.pinned [.handle, .sentinel, .sentinel, .sentinel, .sentinel] true :=
  OpenClaim.laidByTextAt_later rfl rfl tie noOwnUnsafe
end Go.Proofs.YtfiabbfdnmldjaaDoor
