/-
  DERIVED. GIVEN WITH THE SEED: THE CARDS: each row of YtjmbfjaahadbhaaGreatDoorRows.lean that lists a variable, with what it lists TIED to the program's text (the seventh form; the later family's looks); each row that meets fmt, with fmt's text TOLD by the authors' own Lean function (tested against real Go, not proved from fmt's source: count such statements apart). THE CARD IS WHAT COUNTS. Prove the row's statement (the work); the ties are given (YtjmbfjaahadbhaaGreatDoorTie.lean); close each card by the builder's one call (the guide's Derived/Test/ToyasCard.lean, 'card_holds'). Laid BY PROGRAM, IN A SANDBOX (cutbox-door.mjs). By AI agents, Wed Nov 11 2026. No macro, syntax, notation, axiom, sorry.
-/
import Derived.Test.YtjmbfjaahadbhaaGreatDoorRows
import GoSem.ClaimSeven
namespace Go.Proofs.YtjmbfjaahadbhaaGreatDoor
namespace Rows

/-- THE TIED CARD OF 'fuguelaw05.CallsGraphs'. -/
def callsGraphsCard : Claim7 := { stood := { row := callsGraphsRow, standIns := [], harness := (true, "805a2d29cee21309b63b03570052cfeb1b474187b0c1a61cbec98ded959dcae6"), looks := true }, kinds := [], alts := [], laidByText := true, laidKinds := [.data], laidTests := true, laidLooks := .later }
def CallsGraphsCardSaid : Prop := Claim7.holds Tryz.pinned (.plain (OpenSpec.ofChange callsGraphsSpec)) callsGraphsCard

/-- THE SECOND FORM's CARD OF 'fuguelaw05.CallsGraphs'. -/
def callsGraphsUptoCard : Claim7 := { stood := { row := callsGraphsUptoRow, standIns := [], harness := (true, "805a2d29cee21309b63b03570052cfeb1b474187b0c1a61cbec98ded959dcae6"), looks := true }, kinds := [], alts := [], laidByText := true, laidKinds := [.data], laidTests := true, laidLooks := .later }
def CallsGraphsUptoCardSaid : Prop := Claim7.holds Tryz.pinned (.plain (OpenSpec.upto callsGraphsSpec)) callsGraphsUptoCard
end Rows
end Go.Proofs.YtjmbfjaahadbhaaGreatDoor
