/-
  DERIVED. GIVEN WITH THE SEED: THE PROGRAM's TIES (one call each: nine closed facts by the kernel) AND EACH ROW's TIE, after the 31st guide's Derived/Test/Toyas{Tie, Card}.lean. No idea stands in it: it is a product of the set-up. Laid BY PROGRAM, IN A SANDBOX (cutbox-door.mjs). By AI agents, Wed Nov 11 2026. No macro, syntax, notation, axiom, sorry.
-/
import Derived.Test.YtpkfbabgcinhhaaDoorRows
import Derived.LaidByTextLater
import Derived.SevenTiedAt
import Derived.LaidSub
import Derived.LaidOnce
namespace Go.Proofs.YtpkfbabgcinhhaaDoor
open Go
set_option maxRecDepth 100000
theorem seatTie1 : Tryd.prog.laidByTextLater [("errors.errorType", Rows.laid_errors_errorType), ("loop.example/g00385/impl.aluSigns", Rows.laid_loop_example_g00385_impl_aluSigns), ("loop.example/g00385/impl.errNoImage", Rows.laid_loop_example_g00385_impl_errNoImage)] [.handle, .data, .sentinel] true :=
  Program.laidByTextLater_by_one 40 8 7 (by kernel_rfl) (by kernel_rfl) (by kernel_rfl) (by kernel_rfl) (by kernel_rfl) (by kernel_rfl) (fun _ _ => by kernel_rfl)
theorem noOwnUnsafe : Tryd.pinned.checked.prog.headLifts.contains "ownunsafe" = false := by kernel_rfl
theorem tie : Tryd.prog.laidByTextLater [("errors.errorType", Rows.laid_errors_errorType), ("loop.example/g00385/impl.aluSigns", Rows.laid_loop_example_g00385_impl_aluSigns), ("loop.example/g00385/impl.errNoImage", Rows.laid_loop_example_g00385_impl_errNoImage)] [.handle, .data, .sentinel] true :=
  Program.laidByTextLater.sub seatTie1 ["errors.errorType", "loop.example/g00385/impl.aluSigns", "loop.example/g00385/impl.errNoImage"] (by kernel_rfl) (by kernel_rfl)
theorem fnExactExec_row_tie : Rows.fnExactExecRow.laidByTextAt .later Tryd.pinned [.handle, .data, .sentinel] true :=
  OpenClaim.laidByTextAt_later rfl rfl tie noOwnUnsafe
theorem fnExactCost_row_tie : Rows.fnExactCostRow.laidByTextAt .later Tryd.pinned [.handle, .data, .sentinel] true :=
  OpenClaim.laidByTextAt_later rfl rfl tie noOwnUnsafe
theorem fnExactExecUpto_row_tie : Rows.fnExactExecUptoRow.laidByTextAt .later Tryd.pinned [.handle, .data, .sentinel] true :=
  OpenClaim.laidByTextAt_later rfl rfl tie noOwnUnsafe
theorem fnExactCostUpto_row_tie : Rows.fnExactCostUptoRow.laidByTextAt .later Tryd.pinned [.handle, .data, .sentinel] true :=
  OpenClaim.laidByTextAt_later rfl rfl tie noOwnUnsafe
end Go.Proofs.YtpkfbabgcinhhaaDoor
