/-
  DERIVED. GIVEN WITH THE SEED: THE CARDS: each row of YtjmbfjaahadbhaaDoorRows.lean that lists a variable, with what it lists TIED to the program's text (the seventh form; the later family's looks); each row that meets fmt, with fmt's text TOLD by the authors' own Lean function (tested against real Go, not proved from fmt's source: count such statements apart). THE CARD IS WHAT COUNTS. Prove the row's statement (the work); the ties are given (YtjmbfjaahadbhaaDoorTie.lean); close each card by the builder's one call (the guide's Derived/Test/ToyasCard.lean, 'card_holds'). Laid BY PROGRAM, IN A SANDBOX (cutbox-door.mjs). By AI agents, Wed Nov 11 2026. No macro, syntax, notation, axiom, sorry.
-/
import Derived.Test.YtjmbfjaahadbhaaDoorRows
import GoSem.ClaimSeven
namespace Go.Proofs.YtjmbfjaahadbhaaDoor
namespace Rows

/-- THE TIED CARD OF 'fuguelaw05.CallsLong'. -/
def callsLongCard : Claim7 := { stood := { row := callsLongRow, standIns := [], harness := (true, "967f959ec8024bab7a6c0f19dc0a9e2e2f07acb016a50050f2bd925cea2dc911"), looks := true }, kinds := [], alts := [], laidByText := true, laidKinds := [.data], laidTests := true, laidLooks := .later }
def CallsLongCardSaid : Prop := Claim7.holds Tryd.pinned (.plain (OpenSpec.ofChange callsLongSpec)) callsLongCard

/-- THE TIED CARD OF 'fuguelaw05.CallsNames'. -/
def callsNamesCard : Claim7 := { stood := { row := callsNamesRow, standIns := [], harness := (true, "967f959ec8024bab7a6c0f19dc0a9e2e2f07acb016a50050f2bd925cea2dc911"), looks := true }, kinds := [], alts := [], laidByText := true, laidKinds := [.data], laidTests := true, laidLooks := .later }
def CallsNamesCardSaid : Prop := Claim7.holds Tryd.pinned (.plain (OpenSpec.ofChange callsNamesSpec)) callsNamesCard

/-- THE TIED CARD OF 'fuguelaw05.CallsRings'. -/
def callsRingsCard : Claim7 := { stood := { row := callsRingsRow, standIns := [], harness := (true, "967f959ec8024bab7a6c0f19dc0a9e2e2f07acb016a50050f2bd925cea2dc911"), looks := true }, kinds := [], alts := [], laidByText := true, laidKinds := [.data], laidTests := true, laidLooks := .later }
def CallsRingsCardSaid : Prop := Claim7.holds Tryd.pinned (.plain (OpenSpec.ofChange callsRingsSpec)) callsRingsCard

/-- THE TIED CARD OF 'fuguelaw05.CallsOrder'. -/
def callsOrderCard : Claim7 := { stood := { row := callsOrderRow, standIns := [], harness := (true, "967f959ec8024bab7a6c0f19dc0a9e2e2f07acb016a50050f2bd925cea2dc911"), looks := true }, kinds := [], alts := [], laidByText := true, laidKinds := [.data], laidTests := true, laidLooks := .later }
def CallsOrderCardSaid : Prop := Claim7.holds Tryd.pinned (.plain (OpenSpec.ofChange callsOrderSpec)) callsOrderCard

/-- THE TIED CARD OF 'fuguelaw05.CallsOwn'. -/
def callsOwnCard : Claim7 := { stood := { row := callsOwnRow, standIns := [], harness := (true, "967f959ec8024bab7a6c0f19dc0a9e2e2f07acb016a50050f2bd925cea2dc911"), looks := true }, kinds := [], alts := [], laidByText := true, laidKinds := [.data], laidTests := true, laidLooks := .later }
def CallsOwnCardSaid : Prop := Claim7.holds Tryd.pinned (.plain (OpenSpec.ofChange callsOwnSpec)) callsOwnCard

/-- THE SECOND FORM's CARD OF 'fuguelaw05.CallsLong'. -/
def callsLongUptoCard : Claim7 := { stood := { row := callsLongUptoRow, standIns := [], harness := (true, "967f959ec8024bab7a6c0f19dc0a9e2e2f07acb016a50050f2bd925cea2dc911"), looks := true }, kinds := [], alts := [], laidByText := true, laidKinds := [.data], laidTests := true, laidLooks := .later }
def CallsLongUptoCardSaid : Prop := Claim7.holds Tryd.pinned (.plain (OpenSpec.upto callsLongSpec)) callsLongUptoCard

/-- THE SECOND FORM's CARD OF 'fuguelaw05.CallsNames'. -/
def callsNamesUptoCard : Claim7 := { stood := { row := callsNamesUptoRow, standIns := [], harness := (true, "967f959ec8024bab7a6c0f19dc0a9e2e2f07acb016a50050f2bd925cea2dc911"), looks := true }, kinds := [], alts := [], laidByText := true, laidKinds := [.data], laidTests := true, laidLooks := .later }
def CallsNamesUptoCardSaid : Prop := Claim7.holds Tryd.pinned (.plain (OpenSpec.upto callsNamesSpec)) callsNamesUptoCard

/-- THE SECOND FORM's CARD OF 'fuguelaw05.CallsRings'. -/
def callsRingsUptoCard : Claim7 := { stood := { row := callsRingsUptoRow, standIns := [], harness := (true, "967f959ec8024bab7a6c0f19dc0a9e2e2f07acb016a50050f2bd925cea2dc911"), looks := true }, kinds := [], alts := [], laidByText := true, laidKinds := [.data], laidTests := true, laidLooks := .later }
def CallsRingsUptoCardSaid : Prop := Claim7.holds Tryd.pinned (.plain (OpenSpec.upto callsRingsSpec)) callsRingsUptoCard

/-- THE SECOND FORM's CARD OF 'fuguelaw05.CallsOrder'. -/
def callsOrderUptoCard : Claim7 := { stood := { row := callsOrderUptoRow, standIns := [], harness := (true, "967f959ec8024bab7a6c0f19dc0a9e2e2f07acb016a50050f2bd925cea2dc911"), looks := true }, kinds := [], alts := [], laidByText := true, laidKinds := [.data], laidTests := true, laidLooks := .later }
def CallsOrderUptoCardSaid : Prop := Claim7.holds Tryd.pinned (.plain (OpenSpec.upto callsOrderSpec)) callsOrderUptoCard

/-- THE SECOND FORM's CARD OF 'fuguelaw05.CallsOwn'. -/
def callsOwnUptoCard : Claim7 := { stood := { row := callsOwnUptoRow, standIns := [], harness := (true, "967f959ec8024bab7a6c0f19dc0a9e2e2f07acb016a50050f2bd925cea2dc911"), looks := true }, kinds := [], alts := [], laidByText := true, laidKinds := [.data], laidTests := true, laidLooks := .later }
def CallsOwnUptoCardSaid : Prop := Claim7.holds Tryd.pinned (.plain (OpenSpec.upto callsOwnSpec)) callsOwnUptoCard
end Rows
end Go.Proofs.YtjmbfjaahadbhaaDoor
