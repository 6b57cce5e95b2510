/-
  DERIVED. GIVEN WITH THE SEED: THE PROGRAM's TIES (one call each: nine closed facts by the kernel) AND EACH ROW's TIE, after the 31st guide's Derived/Test/Toyas{Tie, Card}.lean. No idea stands in it: it is a product of the set-up. Laid BY PROGRAM, IN A SANDBOX (cutbox-door.mjs). By AI agents, Wed Nov 11 2026. No macro, syntax, notation, axiom, sorry.
-/
import Derived.Test.YtlidnialggpcpaaGreatDoorRows
import Derived.LaidByTextLater
import Derived.SevenTiedAt
import Derived.LaidSub
import Derived.LaidOnce
namespace Go.Proofs.YtlidnialggpcpaaGreatDoor
open Go
set_option maxRecDepth 100000
theorem seatTie1 : Tryz.prog.laidByTextLater [("lighterman/codes.firsts", Rows.laid_lighterman_codes_firsts), ("lighterman/codes.lasts", Rows.laid_lighterman_codes_lasts), ("lighterman/codes.added", Rows.laid_lighterman_codes_added), ("lighterman/tables.givenLogs", Rows.laid_lighterman_tables_givenLogs), ("lighterman/tables.givenParts", Rows.laid_lighterman_tables_givenParts), ("lighterman/tables.mosts", Rows.laid_lighterman_tables_mosts), ("lighterman/sequences.valueOrder", Rows.laid_lighterman_sequences_valueOrder), ("lighterman/sequences.stateOrder", Rows.laid_lighterman_sequences_stateOrder)] [.data, .data, .data, .data, .data, .data, .data, .data] true :=
  Program.laidByTextLater_by_one 55 8 160 (by kernel_rfl) (by kernel_rfl) (by kernel_rfl) (by kernel_rfl) (by kernel_rfl) (by kernel_rfl) (fun _ _ => by kernel_rfl)
theorem noOwnUnsafe : Tryz.pinned.checked.prog.headLifts.contains "ownunsafe" = false := by kernel_rfl
theorem tie : Tryz.prog.laidByTextLater [("lighterman/codes.firsts", Rows.laid_lighterman_codes_firsts), ("lighterman/codes.lasts", Rows.laid_lighterman_codes_lasts), ("lighterman/codes.added", Rows.laid_lighterman_codes_added), ("lighterman/tables.givenLogs", Rows.laid_lighterman_tables_givenLogs), ("lighterman/tables.givenParts", Rows.laid_lighterman_tables_givenParts), ("lighterman/tables.mosts", Rows.laid_lighterman_tables_mosts), ("lighterman/sequences.valueOrder", Rows.laid_lighterman_sequences_valueOrder), ("lighterman/sequences.stateOrder", Rows.laid_lighterman_sequences_stateOrder)] [.data, .data, .data, .data, .data, .data, .data, .data] true :=
  Program.laidByTextLater.sub seatTie1 ["lighterman/codes.firsts", "lighterman/codes.lasts", "lighterman/codes.added", "lighterman/tables.givenLogs", "lighterman/tables.givenParts", "lighterman/tables.mosts", "lighterman/sequences.valueOrder", "lighterman/sequences.stateOrder"] (by kernel_rfl) (by kernel_rfl)
theorem sequencesMany_row_tie : Rows.sequencesManyRow.laidByTextAt .later Tryz.pinned [.data, .data, .data, .data, .data, .data, .data, .data] true :=
  OpenClaim.laidByTextAt_later rfl rfl tie noOwnUnsafe
theorem sequencesWrites_row_tie : Rows.sequencesWritesRow.laidByTextAt .later Tryz.pinned [.data, .data, .data, .data, .data, .data, .data, .data] true :=
  OpenClaim.laidByTextAt_later rfl rfl tie noOwnUnsafe
theorem sequencesSame_row_tie : Rows.sequencesSameRow.laidByTextAt .later Tryz.pinned [.data, .data, .data, .data, .data, .data, .data, .data] true :=
  OpenClaim.laidByTextAt_later rfl rfl tie noOwnUnsafe
theorem sequencesCut_row_tie : Rows.sequencesCutRow.laidByTextAt .later Tryz.pinned [.data, .data, .data, .data, .data, .data, .data, .data] true :=
  OpenClaim.laidByTextAt_later rfl rfl tie noOwnUnsafe
theorem sequencesManyUpto_row_tie : Rows.sequencesManyUptoRow.laidByTextAt .later Tryz.pinned [.data, .data, .data, .data, .data, .data, .data, .data] true :=
  OpenClaim.laidByTextAt_later rfl rfl tie noOwnUnsafe
theorem sequencesWritesUpto_row_tie : Rows.sequencesWritesUptoRow.laidByTextAt .later Tryz.pinned [.data, .data, .data, .data, .data, .data, .data, .data] true :=
  OpenClaim.laidByTextAt_later rfl rfl tie noOwnUnsafe
theorem sequencesSameUpto_row_tie : Rows.sequencesSameUptoRow.laidByTextAt .later Tryz.pinned [.data, .data, .data, .data, .data, .data, .data, .data] true :=
  OpenClaim.laidByTextAt_later rfl rfl tie noOwnUnsafe
theorem sequencesCutUpto_row_tie : Rows.sequencesCutUptoRow.laidByTextAt .later Tryz.pinned [.data, .data, .data, .data, .data, .data, .data, .data] true :=
  OpenClaim.laidByTextAt_later rfl rfl tie noOwnUnsafe
end Go.Proofs.YtlidnialggpcpaaGreatDoor
