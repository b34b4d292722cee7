/-
  DERIVED. GIVEN WITH THE SEED: THE CARDS: each row of YtdkijecnnmncnaaGreatDoorRows.lean that lists a variable, with what it lists TIED to the program's text (the seventh form; the later family's looks); each row that meets fmt, with fmt's text TOLD by the authors' own Lean function (tested against real Go, not proved from fmt's source: count such statements apart). THE CARD IS WHAT COUNTS. Prove the row's statement (the work); the ties are given (YtdkijecnnmncnaaGreatDoorTie.lean); close each card by the builder's one call (the guide's Derived/Test/ToyasCard.lean, 'card_holds'). Laid BY PROGRAM, IN A SANDBOX (cutbox-door.mjs). By AI agents, Wed Nov 11 2026. No macro, syntax, notation, axiom, sorry.
-/
import Derived.Test.YtdkijecnnmncnaaGreatDoorRows
import GoSem.ClaimSeven
namespace Go.Proofs.YtdkijecnnmncnaaGreatDoor
namespace Rows

/-- THE TIED CARD OF 'fuguelaw08.SolveMonotone'. -/
def solveMonotoneCard : Claim7 := { stood := { row := solveMonotoneRow, standIns := [], harness := (true, "6ac09108c20558be0073b369428782d334b6e8aeaf0952bc98acebebe32095c0"), looks := true }, kinds := [], alts := [], laidByText := true, laidKinds := [.data, .data], laidTests := true, laidLooks := .later }
def SolveMonotoneCardSaid : Prop := Claim7.holds Tryz.pinned (.plain (OpenSpec.ofChange solveMonotoneSpec)) solveMonotoneCard

/-- THE TIED CARD OF 'fuguelaw08.SolveGrows'. -/
def solveGrowsCard : Claim7 := { stood := { row := solveGrowsRow, standIns := [], harness := (true, "6ac09108c20558be0073b369428782d334b6e8aeaf0952bc98acebebe32095c0"), looks := true }, kinds := [], alts := [], laidByText := true, laidKinds := [.data, .data], laidTests := true, laidLooks := .later }
def SolveGrowsCardSaid : Prop := Claim7.holds Tryz.pinned (.plain (OpenSpec.ofChange solveGrowsSpec)) solveGrowsCard

/-- THE TIED CARD OF 'fuguelaw08.SolveFunctions'. -/
def solveFunctionsCard : Claim7 := { stood := { row := solveFunctionsRow, standIns := [], harness := (true, "6ac09108c20558be0073b369428782d334b6e8aeaf0952bc98acebebe32095c0"), looks := true }, kinds := [], alts := [], laidByText := true, laidKinds := [.data, .data], laidTests := true, laidLooks := .later }
def SolveFunctionsCardSaid : Prop := Claim7.holds Tryz.pinned (.plain (OpenSpec.ofChange solveFunctionsSpec)) solveFunctionsCard

/-- THE TIED CARD OF 'fuguelaw08.SolveLeast'. -/
def solveLeastCard : Claim7 := { stood := { row := solveLeastRow, standIns := [], harness := (true, "6ac09108c20558be0073b369428782d334b6e8aeaf0952bc98acebebe32095c0"), looks := true }, kinds := [], alts := [], laidByText := true, laidKinds := [.data, .data, .data], laidTests := true, laidLooks := .later }
def SolveLeastCardSaid : Prop := Claim7.holds Tryz.pinned (.plain (OpenSpec.ofChange solveLeastSpec)) solveLeastCard

/-- THE TIED CARD OF 'fuguelaw08.SolveComponents'. -/
def solveComponentsCard : Claim7 := { stood := { row := solveComponentsRow, standIns := [], harness := (true, "6ac09108c20558be0073b369428782d334b6e8aeaf0952bc98acebebe32095c0"), looks := true }, kinds := [], alts := [], laidByText := true, laidKinds := [.data, .data, .data], laidTests := true, laidLooks := .later }
def SolveComponentsCardSaid : Prop := Claim7.holds Tryz.pinned (.plain (OpenSpec.ofChange solveComponentsSpec)) solveComponentsCard

/-- THE SECOND FORM's CARD OF 'fuguelaw08.SolveMonotone'. -/
def solveMonotoneUptoCard : Claim7 := { stood := { row := solveMonotoneUptoRow, standIns := [], harness := (true, "6ac09108c20558be0073b369428782d334b6e8aeaf0952bc98acebebe32095c0"), looks := true }, kinds := [], alts := [], laidByText := true, laidKinds := [.data, .data], laidTests := true, laidLooks := .later }
def SolveMonotoneUptoCardSaid : Prop := Claim7.holds Tryz.pinned (.plain (OpenSpec.upto solveMonotoneSpec)) solveMonotoneUptoCard

/-- THE SECOND FORM's CARD OF 'fuguelaw08.SolveGrows'. -/
def solveGrowsUptoCard : Claim7 := { stood := { row := solveGrowsUptoRow, standIns := [], harness := (true, "6ac09108c20558be0073b369428782d334b6e8aeaf0952bc98acebebe32095c0"), looks := true }, kinds := [], alts := [], laidByText := true, laidKinds := [.data, .data], laidTests := true, laidLooks := .later }
def SolveGrowsUptoCardSaid : Prop := Claim7.holds Tryz.pinned (.plain (OpenSpec.upto solveGrowsSpec)) solveGrowsUptoCard

/-- THE SECOND FORM's CARD OF 'fuguelaw08.SolveFunctions'. -/
def solveFunctionsUptoCard : Claim7 := { stood := { row := solveFunctionsUptoRow, standIns := [], harness := (true, "6ac09108c20558be0073b369428782d334b6e8aeaf0952bc98acebebe32095c0"), looks := true }, kinds := [], alts := [], laidByText := true, laidKinds := [.data, .data], laidTests := true, laidLooks := .later }
def SolveFunctionsUptoCardSaid : Prop := Claim7.holds Tryz.pinned (.plain (OpenSpec.upto solveFunctionsSpec)) solveFunctionsUptoCard

/-- THE SECOND FORM's CARD OF 'fuguelaw08.SolveLeast'. -/
def solveLeastUptoCard : Claim7 := { stood := { row := solveLeastUptoRow, standIns := [], harness := (true, "6ac09108c20558be0073b369428782d334b6e8aeaf0952bc98acebebe32095c0"), looks := true }, kinds := [], alts := [], laidByText := true, laidKinds := [.data, .data, .data], laidTests := true, laidLooks := .later }
def SolveLeastUptoCardSaid : Prop := Claim7.holds Tryz.pinned (.plain (OpenSpec.upto solveLeastSpec)) solveLeastUptoCard

/-- THE SECOND FORM's CARD OF 'fuguelaw08.SolveComponents'. -/
def solveComponentsUptoCard : Claim7 := { stood := { row := solveComponentsUptoRow, standIns := [], harness := (true, "6ac09108c20558be0073b369428782d334b6e8aeaf0952bc98acebebe32095c0"), looks := true }, kinds := [], alts := [], laidByText := true, laidKinds := [.data, .data, .data], laidTests := true, laidLooks := .later }
def SolveComponentsUptoCardSaid : Prop := Claim7.holds Tryz.pinned (.plain (OpenSpec.upto solveComponentsSpec)) solveComponentsUptoCard
end Rows
end Go.Proofs.YtdkijecnnmncnaaGreatDoor
