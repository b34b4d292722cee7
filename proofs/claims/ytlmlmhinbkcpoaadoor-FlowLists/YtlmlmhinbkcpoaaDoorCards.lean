/-
  DERIVED. GIVEN WITH THE SEED: THE CARDS: each row of YtlmlmhinbkcpoaaDoorRows.lean that lists a variable, with what it lists TIED to the program's text (the seventh form; the later family's looks); each row that meets fmt, with fmt's text TOLD by the authors' own Lean function (tested against real Go, not proved from fmt's source: count such statements apart). THE CARD IS WHAT COUNTS. Prove the row's statement (the work); the ties are given (YtlmlmhinbkcpoaaDoorTie.lean); close each card by the builder's one call (the guide's Derived/Test/ToyasCard.lean, 'card_holds'). Laid BY PROGRAM, IN A SANDBOX (cutbox-door.mjs). By AI agents, Wed Nov 11 2026. No macro, syntax, notation, axiom, sorry.
-/
import Derived.Test.YtlmlmhinbkcpoaaDoorRows
import GoSem.ClaimSeven
namespace Go.Proofs.YtlmlmhinbkcpoaaDoor
namespace Rows

/-- THE TIED CARD OF 'fuguelaw07.FlowLocal'. -/
def flowLocalCard : Claim7 := { stood := { row := flowLocalRow, standIns := [], harness := (true, "3e74d70d69e5813df0e8ceb95f3afeff5d2be2e77be70deb7d174920ff6913bb"), looks := true }, kinds := [], alts := [], laidByText := true, laidKinds := [.data, .data], laidTests := true, laidLooks := .later }
def FlowLocalCardSaid : Prop := Claim7.holds Tryd.pinned (.plain (OpenSpec.ofChange flowLocalSpec)) flowLocalCard

/-- THE TIED CARD OF 'fuguelaw07.FlowShape'. -/
def flowShapeCard : Claim7 := { stood := { row := flowShapeRow, standIns := [], harness := (true, "3e74d70d69e5813df0e8ceb95f3afeff5d2be2e77be70deb7d174920ff6913bb"), looks := true }, kinds := [], alts := [], laidByText := true, laidKinds := [.data, .data], laidTests := true, laidLooks := .later }
def FlowShapeCardSaid : Prop := Claim7.holds Tryd.pinned (.plain (OpenSpec.ofChange flowShapeSpec)) flowShapeCard

/-- THE TIED CARD OF 'fuguelaw07.FlowRises'. -/
def flowRisesCard : Claim7 := { stood := { row := flowRisesRow, standIns := [], harness := (true, "3e74d70d69e5813df0e8ceb95f3afeff5d2be2e77be70deb7d174920ff6913bb"), looks := true }, kinds := [], alts := [], laidByText := true, laidKinds := [.data, .data], laidTests := true, laidLooks := .later }
def FlowRisesCardSaid : Prop := Claim7.holds Tryd.pinned (.plain (OpenSpec.ofChange flowRisesSpec)) flowRisesCard

/-- THE TIED CARD OF 'fuguelaw07.FlowPlaces'. -/
def flowPlacesCard : Claim7 := { stood := { row := flowPlacesRow, standIns := [], harness := (true, "3e74d70d69e5813df0e8ceb95f3afeff5d2be2e77be70deb7d174920ff6913bb"), looks := true }, kinds := [], alts := [], laidByText := true, laidKinds := [.data, .data], laidTests := true, laidLooks := .later }
def FlowPlacesCardSaid : Prop := Claim7.holds Tryd.pinned (.plain (OpenSpec.ofChange flowPlacesSpec)) flowPlacesCard

/-- THE TIED CARD OF 'fuguelaw07.FlowLists'. -/
def flowListsCard : Claim7 := { stood := { row := flowListsRow, standIns := [], harness := (true, "3e74d70d69e5813df0e8ceb95f3afeff5d2be2e77be70deb7d174920ff6913bb"), looks := true }, kinds := [], alts := [], laidByText := true, laidKinds := [.data, .data], laidTests := true, laidLooks := .later }
def FlowListsCardSaid : Prop := Claim7.holds Tryd.pinned (.plain (OpenSpec.ofChange flowListsSpec)) flowListsCard

/-- THE SECOND FORM's CARD OF 'fuguelaw07.FlowLocal'. -/
def flowLocalUptoCard : Claim7 := { stood := { row := flowLocalUptoRow, standIns := [], harness := (true, "3e74d70d69e5813df0e8ceb95f3afeff5d2be2e77be70deb7d174920ff6913bb"), looks := true }, kinds := [], alts := [], laidByText := true, laidKinds := [.data, .data], laidTests := true, laidLooks := .later }
def FlowLocalUptoCardSaid : Prop := Claim7.holds Tryd.pinned (.plain (OpenSpec.upto flowLocalSpec)) flowLocalUptoCard

/-- THE SECOND FORM's CARD OF 'fuguelaw07.FlowShape'. -/
def flowShapeUptoCard : Claim7 := { stood := { row := flowShapeUptoRow, standIns := [], harness := (true, "3e74d70d69e5813df0e8ceb95f3afeff5d2be2e77be70deb7d174920ff6913bb"), looks := true }, kinds := [], alts := [], laidByText := true, laidKinds := [.data, .data], laidTests := true, laidLooks := .later }
def FlowShapeUptoCardSaid : Prop := Claim7.holds Tryd.pinned (.plain (OpenSpec.upto flowShapeSpec)) flowShapeUptoCard

/-- THE SECOND FORM's CARD OF 'fuguelaw07.FlowRises'. -/
def flowRisesUptoCard : Claim7 := { stood := { row := flowRisesUptoRow, standIns := [], harness := (true, "3e74d70d69e5813df0e8ceb95f3afeff5d2be2e77be70deb7d174920ff6913bb"), looks := true }, kinds := [], alts := [], laidByText := true, laidKinds := [.data, .data], laidTests := true, laidLooks := .later }
def FlowRisesUptoCardSaid : Prop := Claim7.holds Tryd.pinned (.plain (OpenSpec.upto flowRisesSpec)) flowRisesUptoCard

/-- THE SECOND FORM's CARD OF 'fuguelaw07.FlowPlaces'. -/
def flowPlacesUptoCard : Claim7 := { stood := { row := flowPlacesUptoRow, standIns := [], harness := (true, "3e74d70d69e5813df0e8ceb95f3afeff5d2be2e77be70deb7d174920ff6913bb"), looks := true }, kinds := [], alts := [], laidByText := true, laidKinds := [.data, .data], laidTests := true, laidLooks := .later }
def FlowPlacesUptoCardSaid : Prop := Claim7.holds Tryd.pinned (.plain (OpenSpec.upto flowPlacesSpec)) flowPlacesUptoCard

/-- THE SECOND FORM's CARD OF 'fuguelaw07.FlowLists'. -/
def flowListsUptoCard : Claim7 := { stood := { row := flowListsUptoRow, standIns := [], harness := (true, "3e74d70d69e5813df0e8ceb95f3afeff5d2be2e77be70deb7d174920ff6913bb"), looks := true }, kinds := [], alts := [], laidByText := true, laidKinds := [.data, .data], laidTests := true, laidLooks := .later }
def FlowListsUptoCardSaid : Prop := Claim7.holds Tryd.pinned (.plain (OpenSpec.upto flowListsSpec)) flowListsUptoCard
end Rows
end Go.Proofs.YtlmlmhinbkcpoaaDoor
