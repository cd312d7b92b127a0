/-
  DERIVED. GIVEN WITH THE SEED: THE PROGRAM's TIES (one call each: nine closed facts by the kernel) AND EACH ROW's TIE, after the 31st guide's Derived/Test/Toyas{Tie, Card}.lean. No idea stands in it: it is a product of the set-up. Laid BY PROGRAM, IN A SANDBOX (cutbox-door.mjs). By AI agents, Wed Nov 11 2026. No macro, syntax, notation, axiom, sorry.
-/
import Derived.Test.YtlkhmmoimplokaaGreatDoorRows
import Derived.LaidByTextLater
import Derived.SevenTiedAt
import Derived.LaidSub
import Derived.LaidOnce
namespace Go.Proofs.YtlkhmmoimplokaaGreatDoor
open Go
set_option maxRecDepth 100000
theorem seatTie1 : Tryz.prog.laidByTextLater [("errors.errorType", Rows.laid_errors_errorType), ("loop.example/s00095/impl.charKinds", Rows.laid_loop_example_s00095_impl_charKinds), ("loop.example/s00095/impl.opTypeNames", Rows.laid_loop_example_s00095_impl_opTypeNames)] [.handle, .data, .data] true :=
  Program.laidByTextLater_by_one 26 8 129 (by kernel_rfl) (by kernel_rfl) (by kernel_rfl) (by kernel_rfl) (by kernel_rfl) (by kernel_rfl) (fun _ _ => by kernel_rfl)
theorem noOwnUnsafe : Tryz.pinned.checked.prog.headLifts.contains "ownunsafe" = false := by kernel_rfl
theorem tie : Tryz.prog.laidByTextLater [("errors.errorType", Rows.laid_errors_errorType), ("loop.example/s00095/impl.charKinds", Rows.laid_loop_example_s00095_impl_charKinds)] [.handle, .data] true :=
  Program.laidByTextLater.sub seatTie1 ["errors.errorType", "loop.example/s00095/impl.charKinds"] (by kernel_rfl) (by kernel_rfl)
theorem fnExactReadTerm_row_tie : Rows.fnExactReadTermRow.laidByTextAt .later Tryz.pinned [.handle, .data] true :=
  OpenClaim.laidByTextAt_later rfl rfl tie noOwnUnsafe
theorem tie2 : Tryz.prog.laidByTextLater [("errors.errorType", Rows.laid_errors_errorType), ("loop.example/s00095/impl.charKinds", Rows.laid_loop_example_s00095_impl_charKinds), ("loop.example/s00095/impl.opTypeNames", Rows.laid_loop_example_s00095_impl_opTypeNames)] [.handle, .data, .data] true :=
  Program.laidByTextLater.sub seatTie1 ["errors.errorType", "loop.example/s00095/impl.charKinds", "loop.example/s00095/impl.opTypeNames"] (by kernel_rfl) (by kernel_rfl)
theorem fnExactReadClauses_row_tie : Rows.fnExactReadClausesRow.laidByTextAt .later Tryz.pinned [.handle, .data, .data] true :=
  OpenClaim.laidByTextAt_later rfl rfl tie2 noOwnUnsafe
theorem fnExactReadTermUpto_row_tie : Rows.fnExactReadTermUptoRow.laidByTextAt .later Tryz.pinned [.handle, .data] true :=
  OpenClaim.laidByTextAt_later rfl rfl tie noOwnUnsafe
theorem fnExactReadClausesUpto_row_tie : Rows.fnExactReadClausesUptoRow.laidByTextAt .later Tryz.pinned [.handle, .data, .data] true :=
  OpenClaim.laidByTextAt_later rfl rfl tie2 noOwnUnsafe
end Go.Proofs.YtlkhmmoimplokaaGreatDoor
