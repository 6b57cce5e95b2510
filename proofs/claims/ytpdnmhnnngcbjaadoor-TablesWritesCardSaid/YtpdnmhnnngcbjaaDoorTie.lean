/-
  DERIVED. GIVEN WITH THE SEED: THE PROGRAM's TIES (one call each: nine closed facts by the kernel) AND EACH ROW's TIE, after the 31st guide's Derived/Test/Toyas{Tie, Card}.lean. No idea stands in it: it is a product of the set-up. Laid BY PROGRAM, IN A SANDBOX (cutbox-door.mjs). By AI agents, Wed Nov 11 2026. No macro, syntax, notation, axiom, sorry.
-/
import Derived.Test.YtpdnmhnnngcbjaaDoorRows
import Derived.LaidByTextLater
import Derived.SevenTiedAt
import Derived.LaidSub
import Derived.LaidOnce
namespace Go.Proofs.YtpdnmhnnngcbjaaDoor
open Go
set_option maxRecDepth 100000
theorem seatTie1 : Tryd.prog.laidByTextLater [("lighterman/codes.lasts", Rows.laid_lighterman_codes_lasts), ("lighterman/tables.givenLogs", Rows.laid_lighterman_tables_givenLogs), ("lighterman/tables.givenParts", Rows.laid_lighterman_tables_givenParts), ("lighterman/tables.mosts", Rows.laid_lighterman_tables_mosts)] [.data, .data, .data, .data] true :=
  Program.laidByTextLater_by_one 32 8 54 (by kernel_rfl) (by kernel_rfl) (by kernel_rfl) (by kernel_rfl) (by kernel_rfl) (by kernel_rfl) (fun _ _ => by kernel_rfl)
theorem noOwnUnsafe : Tryd.pinned.checked.prog.headLifts.contains "ownunsafe" = false := by kernel_rfl
theorem tie : Tryd.prog.laidByTextLater [("lighterman/codes.lasts", Rows.laid_lighterman_codes_lasts), ("lighterman/tables.givenLogs", Rows.laid_lighterman_tables_givenLogs), ("lighterman/tables.givenParts", Rows.laid_lighterman_tables_givenParts), ("lighterman/tables.mosts", Rows.laid_lighterman_tables_mosts)] [.data, .data, .data, .data] true :=
  Program.laidByTextLater.sub seatTie1 ["lighterman/codes.lasts", "lighterman/tables.givenLogs", "lighterman/tables.givenParts", "lighterman/tables.mosts"] (by kernel_rfl) (by kernel_rfl)
theorem tablesWrites_row_tie : Rows.tablesWritesRow.laidByTextAt .later Tryd.pinned [.data, .data, .data, .data] true :=
  OpenClaim.laidByTextAt_later rfl rfl tie noOwnUnsafe
theorem tablesGiven_row_tie : Rows.tablesGivenRow.laidByTextAt .later Tryd.pinned [.data, .data, .data, .data] true :=
  OpenClaim.laidByTextAt_later rfl rfl tie noOwnUnsafe
theorem tablesRow_row_tie : Rows.tablesRowRow.laidByTextAt .later Tryd.pinned [.data, .data, .data, .data] true :=
  OpenClaim.laidByTextAt_later rfl rfl tie noOwnUnsafe
theorem tablesWritesUpto_row_tie : Rows.tablesWritesUptoRow.laidByTextAt .later Tryd.pinned [.data, .data, .data, .data] true :=
  OpenClaim.laidByTextAt_later rfl rfl tie noOwnUnsafe
theorem tablesGivenUpto_row_tie : Rows.tablesGivenUptoRow.laidByTextAt .later Tryd.pinned [.data, .data, .data, .data] true :=
  OpenClaim.laidByTextAt_later rfl rfl tie noOwnUnsafe
theorem tablesRowUpto_row_tie : Rows.tablesRowUptoRow.laidByTextAt .later Tryd.pinned [.data, .data, .data, .data] true :=
  OpenClaim.laidByTextAt_later rfl rfl tie noOwnUnsafe
end Go.Proofs.YtpdnmhnnngcbjaaDoor
