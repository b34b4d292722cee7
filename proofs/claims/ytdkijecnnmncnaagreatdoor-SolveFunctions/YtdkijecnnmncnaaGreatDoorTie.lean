/-
  DERIVED. GIVEN WITH THE SEED: THE PROGRAM's TIES (one call each: nine closed facts by the kernel) AND EACH ROW's TIE, after the 31st guide's Derived/Test/Toyas{Tie, Card}.lean. No idea stands in it: it is a product of the set-up. Laid BY PROGRAM, IN A SANDBOX (cutbox-door.mjs). By AI agents, Wed Nov 11 2026. No macro, syntax, notation, axiom, sorry.
-/
import Derived.Test.YtdkijecnnmncnaaGreatDoorRows
import Derived.LaidByTextLater
import Derived.SevenTiedAt
import Derived.LaidSub
import Derived.LaidOnce
namespace Go.Proofs.YtdkijecnnmncnaaGreatDoor
open Go
set_option maxRecDepth 100000
theorem seatTie1 : Tryz.prog.laidByTextLater [("fugue/code.numberSizes", Rows.laid_fugue_code_numberSizes), ("math/bits.deBruijn64tab", Rows.laid_math_bits_deBruijn64tab), ("fugue/flow.rows", Rows.laid_fugue_flow_rows)] [.data, .data, .data] true :=
  Program.laidByTextLater_by_one 32 8 73 (by kernel_rfl) (by kernel_rfl) (by kernel_rfl) (by kernel_rfl) (by kernel_rfl) (by kernel_rfl) (fun _ _ => by kernel_rfl)
theorem noOwnUnsafe : Tryz.pinned.checked.prog.headLifts.contains "ownunsafe" = false := by kernel_rfl
theorem tie : Tryz.prog.laidByTextLater [("fugue/code.numberSizes", Rows.laid_fugue_code_numberSizes), ("fugue/flow.rows", Rows.laid_fugue_flow_rows)] [.data, .data] true :=
  Program.laidByTextLater.sub seatTie1 ["fugue/code.numberSizes", "fugue/flow.rows"] (by kernel_rfl) (by kernel_rfl)
theorem solveMonotone_row_tie : Rows.solveMonotoneRow.laidByTextAt .later Tryz.pinned [.data, .data] true :=
  OpenClaim.laidByTextAt_later rfl rfl tie noOwnUnsafe
theorem solveGrows_row_tie : Rows.solveGrowsRow.laidByTextAt .later Tryz.pinned [.data, .data] true :=
  OpenClaim.laidByTextAt_later rfl rfl tie noOwnUnsafe
theorem solveFunctions_row_tie : Rows.solveFunctionsRow.laidByTextAt .later Tryz.pinned [.data, .data] true :=
  OpenClaim.laidByTextAt_later rfl rfl tie noOwnUnsafe
theorem tie2 : Tryz.prog.laidByTextLater [("fugue/code.numberSizes", Rows.laid_fugue_code_numberSizes), ("math/bits.deBruijn64tab", Rows.laid_math_bits_deBruijn64tab), ("fugue/flow.rows", Rows.laid_fugue_flow_rows)] [.data, .data, .data] true :=
  Program.laidByTextLater.sub seatTie1 ["fugue/code.numberSizes", "math/bits.deBruijn64tab", "fugue/flow.rows"] (by kernel_rfl) (by kernel_rfl)
theorem solveLeast_row_tie : Rows.solveLeastRow.laidByTextAt .later Tryz.pinned [.data, .data, .data] true :=
  OpenClaim.laidByTextAt_later rfl rfl tie2 noOwnUnsafe
theorem solveComponents_row_tie : Rows.solveComponentsRow.laidByTextAt .later Tryz.pinned [.data, .data, .data] true :=
  OpenClaim.laidByTextAt_later rfl rfl tie2 noOwnUnsafe
theorem solveMonotoneUpto_row_tie : Rows.solveMonotoneUptoRow.laidByTextAt .later Tryz.pinned [.data, .data] true :=
  OpenClaim.laidByTextAt_later rfl rfl tie noOwnUnsafe
theorem solveGrowsUpto_row_tie : Rows.solveGrowsUptoRow.laidByTextAt .later Tryz.pinned [.data, .data] true :=
  OpenClaim.laidByTextAt_later rfl rfl tie noOwnUnsafe
theorem solveFunctionsUpto_row_tie : Rows.solveFunctionsUptoRow.laidByTextAt .later Tryz.pinned [.data, .data] true :=
  OpenClaim.laidByTextAt_later rfl rfl tie noOwnUnsafe
theorem solveLeastUpto_row_tie : Rows.solveLeastUptoRow.laidByTextAt .later Tryz.pinned [.data, .data, .data] true :=
  OpenClaim.laidByTextAt_later rfl rfl tie2 noOwnUnsafe
theorem solveComponentsUpto_row_tie : Rows.solveComponentsUptoRow.laidByTextAt .later Tryz.pinned [.data, .data, .data] true :=
  OpenClaim.laidByTextAt_later rfl rfl tie2 noOwnUnsafe
end Go.Proofs.YtdkijecnnmncnaaGreatDoor
