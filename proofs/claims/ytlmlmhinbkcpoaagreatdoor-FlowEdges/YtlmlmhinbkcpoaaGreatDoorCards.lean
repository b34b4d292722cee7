/-
  DERIVED. GIVEN WITH THE SEED: THE CARDS: each row of YtlmlmhinbkcpoaaGreatDoorRows.lean that lists a variable, with what it lists TIED to the program's text (the seventh form; the later family's looks); each row that meets fmt, with fmt's text TOLD by the authors' own Lean function (tested against real Go, not proved from fmt's source: count such statements apart). THE CARD IS WHAT COUNTS. Prove the row's statement (the work); the ties are given (YtlmlmhinbkcpoaaGreatDoorTie.lean); close each card by the builder's one call (the guide's Derived/Test/ToyasCard.lean, 'card_holds'). Laid BY PROGRAM, IN A SANDBOX (cutbox-door.mjs). By AI agents, Wed Nov 11 2026. No macro, syntax, notation, axiom, sorry.
-/
import Derived.Test.YtlmlmhinbkcpoaaGreatDoorRows
import GoSem.ClaimSeven
namespace Go.Proofs.YtlmlmhinbkcpoaaGreatDoor
namespace Rows

/-- THE TIED CARD OF 'fuguelaw07.FlowEdges'. -/
def flowEdgesCard : Claim7 := { stood := { row := flowEdgesRow, standIns := [], harness := (true, "698e5cc5e085074bef1509f09710378d896751acadf509819914c28dfe46cc8d"), looks := true }, kinds := [], alts := [], laidByText := true, laidKinds := [.data, .data], laidTests := true, laidLooks := .later }
def FlowEdgesCardSaid : Prop := Claim7.holds Tryz.pinned (.plain (OpenSpec.ofChange flowEdgesSpec)) flowEdgesCard

/-- THE SECOND FORM's CARD OF 'fuguelaw07.FlowEdges'. -/
def flowEdgesUptoCard : Claim7 := { stood := { row := flowEdgesUptoRow, standIns := [], harness := (true, "698e5cc5e085074bef1509f09710378d896751acadf509819914c28dfe46cc8d"), looks := true }, kinds := [], alts := [], laidByText := true, laidKinds := [.data, .data], laidTests := true, laidLooks := .later }
def FlowEdgesUptoCardSaid : Prop := Claim7.holds Tryz.pinned (.plain (OpenSpec.upto flowEdgesSpec)) flowEdgesUptoCard
end Rows
end Go.Proofs.YtlmlmhinbkcpoaaGreatDoor
