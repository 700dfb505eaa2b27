/-
  DERIVED. GIVEN WITH THE SEED: THE PROGRAM's TIES (one call each: nine closed facts by the kernel) AND EACH ROW's TIE, after the 31st guide's Derived/Test/Toyas{Tie, Card}.lean. No idea stands in it: it is a product of the set-up. Laid BY PROGRAM, IN A SANDBOX (cutbox-door.mjs). By AI agents, Wed Nov 11 2026. No macro, syntax, notation, axiom, sorry.
-/
import Derived.Test.YtkgjbamkinfmeaaGreatDoorRows
import Derived.LaidByTextLater
import Derived.SevenTiedAt
import Derived.LaidSub
import Derived.LaidOnce
namespace Go.Proofs.YtkgjbamkinfmeaaGreatDoor
open Go
set_option maxRecDepth 100000
theorem seatTie1 : Tryz.prog.laidByTextLater [("errors.errorType", Rows.laid_errors_errorType), ("newsreel/tree.errOpen", Rows.laid_newsreel_tree_errOpen), ("newsreel/date.weekdays", Rows.laid_newsreel_date_weekdays), ("newsreel/date.months", Rows.laid_newsreel_date_months), ("newsreel/lex.errEnd", Rows.laid_newsreel_lex_errEnd)] [.handle, .sentinel, .data, .data, .sentinel] true :=
  Program.laidByTextLater_by_one 64 8 13 (by kernel_rfl) (by kernel_rfl) (by kernel_rfl) (by kernel_rfl) (by kernel_rfl) (by kernel_rfl) (fun _ _ => by kernel_rfl)
theorem noOwnUnsafe : Tryz.pinned.checked.prog.headLifts.contains "ownunsafe" = false := by kernel_rfl
theorem tie : Tryz.prog.laidByTextLater [("errors.errorType", Rows.laid_errors_errorType), ("newsreel/tree.errOpen", Rows.laid_newsreel_tree_errOpen), ("newsreel/date.weekdays", Rows.laid_newsreel_date_weekdays), ("newsreel/date.months", Rows.laid_newsreel_date_months), ("newsreel/lex.errEnd", Rows.laid_newsreel_lex_errEnd)] [.handle, .sentinel, .data, .data, .sentinel] true :=
  Program.laidByTextLater.sub seatTie1 ["errors.errorType", "newsreel/tree.errOpen", "newsreel/date.weekdays", "newsreel/date.months", "newsreel/lex.errEnd"] (by kernel_rfl) (by kernel_rfl)
theorem feedReads_row_tie : Rows.feedReadsRow.laidByTextAt .later Tryz.pinned [.handle, .sentinel, .data, .data, .sentinel] true :=
  OpenClaim.laidByTextAt_later rfl rfl tie noOwnUnsafe
theorem feedCodes_row_tie : Rows.feedCodesRow.laidByTextAt .later Tryz.pinned [.handle, .sentinel, .data, .data, .sentinel] true :=
  OpenClaim.laidByTextAt_later rfl rfl tie noOwnUnsafe
theorem feedOrder_row_tie : Rows.feedOrderRow.laidByTextAt .later Tryz.pinned [.handle, .sentinel, .data, .data, .sentinel] true :=
  OpenClaim.laidByTextAt_later rfl rfl tie noOwnUnsafe
theorem feedShort_row_tie : Rows.feedShortRow.laidByTextAt .later Tryz.pinned [.handle, .sentinel, .data, .data, .sentinel] true :=
  OpenClaim.laidByTextAt_later rfl rfl tie noOwnUnsafe
theorem feedReadsUpto_row_tie : Rows.feedReadsUptoRow.laidByTextAt .later Tryz.pinned [.handle, .sentinel, .data, .data, .sentinel] true :=
  OpenClaim.laidByTextAt_later rfl rfl tie noOwnUnsafe
theorem feedCodesUpto_row_tie : Rows.feedCodesUptoRow.laidByTextAt .later Tryz.pinned [.handle, .sentinel, .data, .data, .sentinel] true :=
  OpenClaim.laidByTextAt_later rfl rfl tie noOwnUnsafe
theorem feedOrderUpto_row_tie : Rows.feedOrderUptoRow.laidByTextAt .later Tryz.pinned [.handle, .sentinel, .data, .data, .sentinel] true :=
  OpenClaim.laidByTextAt_later rfl rfl tie noOwnUnsafe
theorem feedShortUpto_row_tie : Rows.feedShortUptoRow.laidByTextAt .later Tryz.pinned [.handle, .sentinel, .data, .data, .sentinel] true :=
  OpenClaim.laidByTextAt_later rfl rfl tie noOwnUnsafe
end Go.Proofs.YtkgjbamkinfmeaaGreatDoor
