/-
  NARROWER THAN 'FOR EVERY INPUT', by the rows' own cells (each row's printed sentence says how): FlowLocal: laid · FlowShape: laid · FlowRises: laid · FlowPlaces: laid · FlowLists: laid.
  DERIVED. THE GIVEN ROWS OF THIS SEAT. 5 by the template 'for every input the law returns true; each argument reads behind the call as it read before'; 0 by the template 'total and deterministic' (their statements: YtlmlmhinbkcpoaaDoorTotals.lean).
  GIVEN WITH THE SEED: the statements are not yours to turn. If you find one false, say at which input.
  Laid BY PROGRAM, IN A SANDBOX (cutbox-rows.mjs): the forced cells as the released guide's own fill.sh prints them over the translation 625b7455af200045… (all of the seat's roots in one cut). By AI agents, Wed Nov 11 2026. No macro, syntax, notation, axiom, sorry.
-/
import Derived.Test.YtlmlmhinbkcpoaaDoorChecked
import GoSem.Claim
import GoSem.ClaimJoined
import GoSem.ClaimMapViews
import Derived.JoinedTies
import Derived.KernelRfl
namespace Go.Proofs.YtlmlmhinbkcpoaaDoor
/- THE CELL 'sum', in the pinned program and in every row, IS THE sha256 OF THE DUMP (.gsa) THAT YtlmlmhinbkcpoaaDoorProg.lean LOADS. Nothing in Lean hashes anything: it is a label: what it is worth is what the hold of that sum in a sandbox is worth. -/
noncomputable def Tryd.pinned : Pinned := { name := "ytlmlmhinbkcpoaadoor", sum := "625b7455af200045324facbd2a815e3202a7badac70c9907be84c746a3749eda", checked := Tryd.checked }
namespace Rows
def none {H : Type} : Left H := { results := [], args := [] }

/- WHAT THE LISTED PACKAGE-LEVEL VARIABLES READ AS WHEN THE CALL BEGINS. Each datum BY PROGRAM (the guide's laid-datum.mjs) off the statement by which the dump's own 'gosem.cut.vars' lays the variable. In a bare row this is a premise. The card (YtlmlmhinbkcpoaaDoorCards.lean) ties it to the program's text. -/
def laid_fugue_code_numberSizes {H : Type} : DataW H := .agg [.lit (.int .i64 0), .lit (.int .i64 8), .lit (.int .i64 0), .lit (.int .i64 0), .lit (.int .i64 0), .lit (.int .i64 0), .lit (.int .i64 1), .lit (.int .i64 1), .lit (.int .i64 1), .lit (.int .i64 1), .lit (.int .i64 1), .lit (.int .i64 2), .lit (.int .i64 0), .lit (.int .i64 2), .lit (.int .i64 2), .lit (.int .i64 0), .lit (.int .i64 0), .lit (.int .i64 0)]
def laid_fugue_flow_rows {H : Type} : DataW H := .agg [.agg [.lit (.int .i64 0), .lit (.int .i64 0), .lit (.int .i64 0), .lit (.int .i64 0)], .agg [.lit (.int .i64 0), .lit (.int .i64 0), .lit (.int .i64 0), .lit (.int .i64 0)], .agg [.lit (.int .i64 1), .lit (.int .i64 1), .lit (.int .i64 2), .lit (.int .i64 0)], .agg [.lit (.int .i64 0), .lit (.int .i64 0), .lit (.int .i64 0), .lit (.int .i64 0)], .agg [.lit (.int .i64 0), .lit (.int .i64 0), .lit (.int .i64 0), .lit (.int .i64 0)], .agg [.lit (.int .i64 1), .lit (.int .i64 1), .lit (.int .i64 2), .lit (.int .i64 (-1))], .agg [.lit (.int .i64 1), .lit (.int .i64 1), .lit (.int .i64 3), .lit (.int .i64 (-1))], .agg [.lit (.int .i64 1), .lit (.int .i64 1), .lit (.int .i64 2), .lit (.int .i64 1)], .agg [.lit (.int .i64 1), .lit (.int .i64 0), .lit (.int .i64 2), .lit (.int .i64 0)], .agg [.lit (.int .i64 0), .lit (.int .i64 0), .lit (.int .i64 0), .lit (.int .i64 0)], .agg [.lit (.int .i64 1), .lit (.int .i64 0), .lit (.int .i64 2), .lit (.int .i64 0)], .agg [.lit (.int .i64 3), .lit (.int .i64 0), .lit (.int .i64 0), .lit (.int .i64 0)], .agg [.lit (.int .i64 0), .lit (.int .i64 0), .lit (.int .i64 0), .lit (.int .i64 0)], .agg [.lit (.int .i64 0), .lit (.int .i64 0), .lit (.int .i64 0), .lit (.int .i64 0)], .agg [.lit (.int .i64 0), .lit (.int .i64 0), .lit (.int .i64 0), .lit (.int .i64 0)], .agg [.lit (.int .i64 2), .lit (.int .i64 0), .lit (.int .i64 0), .lit (.int .i64 0)], .agg [.lit (.int .i64 0), .lit (.int .i64 0), .lit (.int .i64 0), .lit (.int .i64 0)], .agg [.lit (.int .i64 0), .lit (.int .i64 0), .lit (.int .i64 0), .lit (.int .i64 0)]]

/-- 'fuguelaw07.FlowLocal': WHATEVER THE INPUT: true; the input reads as it did. -/
def flowLocalSpec : ChangeSpec := { name := "flowLocal", fn := fun _ => fun
  | [d1, d2, d3, d4] => { results := [.lit (.bool true)], args := [d1, d2, d3, d4] }
  | _ => none }
def flowLocalRow : OpenClaim := { program := "ytlmlmhinbkcpoaadoor", sum := "625b7455af200045324facbd2a815e3202a7badac70c9907be84c746a3749eda", func := "fugue/fuguelaw07.FlowLocal", spec := "flowLocal", unfollowed := true, recurses := true, named := ["fugue/code.numberSizes", "fugue/flow.rows"], apart := false, laid := [("fugue/code.numberSizes", laid_fugue_code_numberSizes), ("fugue/flow.rows", laid_fugue_flow_rows)] }
def FlowLocalSaid : Prop := flowLocalRow.holds Tryd.pinned (OpenSpec.ofChange flowLocalSpec)

/-- ITS FALSE NEIGHBOUR: 'it returns false'. Refute it at one input. -/
def flowLocalWrong : ChangeSpec := { name := "flowLocal", fn := fun _ => fun
  | [d1, d2, d3, d4] => { results := [.lit (.bool false)], args := [d1, d2, d3, d4] }
  | _ => none }
def FlowLocalWrongFalsely : Prop := flowLocalRow.holds Tryd.pinned (OpenSpec.ofChange flowLocalWrong)

/-- 'fuguelaw07.FlowShape': WHATEVER THE INPUT: true; the input reads as it did. -/
def flowShapeSpec : ChangeSpec := { name := "flowShape", fn := fun _ => fun
  | [d] => { results := [.lit (.bool true)], args := [d] }
  | _ => none }
def flowShapeRow : OpenClaim := { program := "ytlmlmhinbkcpoaadoor", sum := "625b7455af200045324facbd2a815e3202a7badac70c9907be84c746a3749eda", func := "fugue/fuguelaw07.FlowShape", spec := "flowShape", unfollowed := true, recurses := true, named := ["fugue/code.numberSizes", "fugue/flow.rows"], apart := false, laid := [("fugue/code.numberSizes", laid_fugue_code_numberSizes), ("fugue/flow.rows", laid_fugue_flow_rows)] }
def FlowShapeSaid : Prop := flowShapeRow.holds Tryd.pinned (OpenSpec.ofChange flowShapeSpec)

/-- ITS FALSE NEIGHBOUR: 'it returns false'. Refute it at one input. -/
def flowShapeWrong : ChangeSpec := { name := "flowShape", fn := fun _ => fun
  | [d] => { results := [.lit (.bool false)], args := [d] }
  | _ => none }
def FlowShapeWrongFalsely : Prop := flowShapeRow.holds Tryd.pinned (OpenSpec.ofChange flowShapeWrong)

/-- 'fuguelaw07.FlowRises': WHATEVER THE INPUT: true; the input reads as it did. -/
def flowRisesSpec : ChangeSpec := { name := "flowRises", fn := fun _ => fun
  | [d1, d2] => { results := [.lit (.bool true)], args := [d1, d2] }
  | _ => none }
def flowRisesRow : OpenClaim := { program := "ytlmlmhinbkcpoaadoor", sum := "625b7455af200045324facbd2a815e3202a7badac70c9907be84c746a3749eda", func := "fugue/fuguelaw07.FlowRises", spec := "flowRises", unfollowed := true, recurses := true, named := ["fugue/code.numberSizes", "fugue/flow.rows"], apart := false, laid := [("fugue/code.numberSizes", laid_fugue_code_numberSizes), ("fugue/flow.rows", laid_fugue_flow_rows)] }
def FlowRisesSaid : Prop := flowRisesRow.holds Tryd.pinned (OpenSpec.ofChange flowRisesSpec)

/-- ITS FALSE NEIGHBOUR: 'it returns false'. Refute it at one input. -/
def flowRisesWrong : ChangeSpec := { name := "flowRises", fn := fun _ => fun
  | [d1, d2] => { results := [.lit (.bool false)], args := [d1, d2] }
  | _ => none }
def FlowRisesWrongFalsely : Prop := flowRisesRow.holds Tryd.pinned (OpenSpec.ofChange flowRisesWrong)

/-- 'fuguelaw07.FlowPlaces': WHATEVER THE INPUT: true; the input reads as it did. -/
def flowPlacesSpec : ChangeSpec := { name := "flowPlaces", fn := fun _ => fun
  | [d1, d2, d3] => { results := [.lit (.bool true)], args := [d1, d2, d3] }
  | _ => none }
def flowPlacesRow : OpenClaim := { program := "ytlmlmhinbkcpoaadoor", sum := "625b7455af200045324facbd2a815e3202a7badac70c9907be84c746a3749eda", func := "fugue/fuguelaw07.FlowPlaces", spec := "flowPlaces", unfollowed := true, recurses := true, named := ["fugue/code.numberSizes", "fugue/flow.rows"], apart := false, laid := [("fugue/code.numberSizes", laid_fugue_code_numberSizes), ("fugue/flow.rows", laid_fugue_flow_rows)] }
def FlowPlacesSaid : Prop := flowPlacesRow.holds Tryd.pinned (OpenSpec.ofChange flowPlacesSpec)

/-- ITS FALSE NEIGHBOUR: 'it returns false'. Refute it at one input. -/
def flowPlacesWrong : ChangeSpec := { name := "flowPlaces", fn := fun _ => fun
  | [d1, d2, d3] => { results := [.lit (.bool false)], args := [d1, d2, d3] }
  | _ => none }
def FlowPlacesWrongFalsely : Prop := flowPlacesRow.holds Tryd.pinned (OpenSpec.ofChange flowPlacesWrong)

/-- 'fuguelaw07.FlowLists': WHATEVER THE INPUT: true; the input reads as it did. -/
def flowListsSpec : ChangeSpec := { name := "flowLists", fn := fun _ => fun
  | [d] => { results := [.lit (.bool true)], args := [d] }
  | _ => none }
def flowListsRow : OpenClaim := { program := "ytlmlmhinbkcpoaadoor", sum := "625b7455af200045324facbd2a815e3202a7badac70c9907be84c746a3749eda", func := "fugue/fuguelaw07.FlowLists", spec := "flowLists", unfollowed := true, recurses := true, named := ["fugue/code.numberSizes", "fugue/flow.rows"], apart := false, laid := [("fugue/code.numberSizes", laid_fugue_code_numberSizes), ("fugue/flow.rows", laid_fugue_flow_rows)] }
def FlowListsSaid : Prop := flowListsRow.holds Tryd.pinned (OpenSpec.ofChange flowListsSpec)

/-- ITS FALSE NEIGHBOUR: 'it returns false'. Refute it at one input. -/
def flowListsWrong : ChangeSpec := { name := "flowLists", fn := fun _ => fun
  | [d] => { results := [.lit (.bool false)], args := [d] }
  | _ => none }
def FlowListsWrongFalsely : Prop := flowListsRow.holds Tryd.pinned (OpenSpec.ofChange flowListsWrong)

/- THE SECOND FORM. 'bulk': how many values and letters a reading holds, each counted each time it is reached (what is shared counts as often as it is met; a slice's spare places count too). A statement '..UptoSaid' is the law's where the arguments, and the package variables that the reading takes, are together of bulk at most 1048576: NARROWER than '..Said'. Prove '..Said' where nothing that the law and all that it calls make is longer than what came in: it says more and counts as full. Else prove '..UptoSaid'. A law counts once. -/
mutual
def uptoBulk {H : Type} : DataW H → Nat
  | .lit (.string bytes) => bytes.length + 1
  | .lit _ => 1
  | .nil => 1
  | .ptr d => uptoBulk d + 1
  | .slice elems spare => uptoBulkAll elems + uptoBulkAll spare + 1
  | .agg parts => uptoBulkAll parts + 1
  | .iface _ d => uptoBulk d + 1
  | .map entries => uptoBulkEntries entries + 1
  | .held _ => 1
def uptoBulkAll {H : Type} : List (DataW H) → Nat
  | [] => 0
  | d :: r => uptoBulk d + uptoBulkAll r
def uptoBulkEntries {H : Type} : List (Lit × DataW H) → Nat
  | [] => 0
  | x :: r => uptoBulkEntry x + uptoBulkEntries r
def uptoBulkEntry {H : Type} : Lit × DataW H → Nat
  | (.string bytes, d) => bytes.length + uptoBulk d + 1
  | (_, d) => uptoBulk d + 1
 end
def uptoSmall : (H : Type) → List (DataW H) → Bool := fun _ ds => decide (uptoBulkAll ds ≤ 1048576)
def OpenSpec.upto (s : _root_.Go.ChangeSpec) : _root_.Go.OpenSpec := { _root_.Go.OpenSpec.ofChange s with cond := some uptoSmall }

/-- 'fuguelaw07.FlowLocal', WHERE WHAT IT READS IS OF BULK AT MOST 1048576: true; the input reads as it did. -/
def flowLocalUptoRow : OpenClaim := { program := "ytlmlmhinbkcpoaadoor", sum := "625b7455af200045324facbd2a815e3202a7badac70c9907be84c746a3749eda", func := "fugue/fuguelaw07.FlowLocal", spec := "flowLocal", unfollowed := true, recurses := true, named := ["fugue/code.numberSizes", "fugue/flow.rows"], apart := false, laid := [("fugue/code.numberSizes", laid_fugue_code_numberSizes), ("fugue/flow.rows", laid_fugue_flow_rows)], narrowed := true }
def FlowLocalUptoSaid : Prop := flowLocalUptoRow.holds Tryd.pinned (OpenSpec.upto flowLocalSpec)

/-- 'fuguelaw07.FlowShape', WHERE WHAT IT READS IS OF BULK AT MOST 1048576: true; the input reads as it did. -/
def flowShapeUptoRow : OpenClaim := { program := "ytlmlmhinbkcpoaadoor", sum := "625b7455af200045324facbd2a815e3202a7badac70c9907be84c746a3749eda", func := "fugue/fuguelaw07.FlowShape", spec := "flowShape", unfollowed := true, recurses := true, named := ["fugue/code.numberSizes", "fugue/flow.rows"], apart := false, laid := [("fugue/code.numberSizes", laid_fugue_code_numberSizes), ("fugue/flow.rows", laid_fugue_flow_rows)], narrowed := true }
def FlowShapeUptoSaid : Prop := flowShapeUptoRow.holds Tryd.pinned (OpenSpec.upto flowShapeSpec)

/-- 'fuguelaw07.FlowRises', WHERE WHAT IT READS IS OF BULK AT MOST 1048576: true; the input reads as it did. -/
def flowRisesUptoRow : OpenClaim := { program := "ytlmlmhinbkcpoaadoor", sum := "625b7455af200045324facbd2a815e3202a7badac70c9907be84c746a3749eda", func := "fugue/fuguelaw07.FlowRises", spec := "flowRises", unfollowed := true, recurses := true, named := ["fugue/code.numberSizes", "fugue/flow.rows"], apart := false, laid := [("fugue/code.numberSizes", laid_fugue_code_numberSizes), ("fugue/flow.rows", laid_fugue_flow_rows)], narrowed := true }
def FlowRisesUptoSaid : Prop := flowRisesUptoRow.holds Tryd.pinned (OpenSpec.upto flowRisesSpec)

/-- 'fuguelaw07.FlowPlaces', WHERE WHAT IT READS IS OF BULK AT MOST 1048576: true; the input reads as it did. -/
def flowPlacesUptoRow : OpenClaim := { program := "ytlmlmhinbkcpoaadoor", sum := "625b7455af200045324facbd2a815e3202a7badac70c9907be84c746a3749eda", func := "fugue/fuguelaw07.FlowPlaces", spec := "flowPlaces", unfollowed := true, recurses := true, named := ["fugue/code.numberSizes", "fugue/flow.rows"], apart := false, laid := [("fugue/code.numberSizes", laid_fugue_code_numberSizes), ("fugue/flow.rows", laid_fugue_flow_rows)], narrowed := true }
def FlowPlacesUptoSaid : Prop := flowPlacesUptoRow.holds Tryd.pinned (OpenSpec.upto flowPlacesSpec)

/-- 'fuguelaw07.FlowLists', WHERE WHAT IT READS IS OF BULK AT MOST 1048576: true; the input reads as it did. -/
def flowListsUptoRow : OpenClaim := { program := "ytlmlmhinbkcpoaadoor", sum := "625b7455af200045324facbd2a815e3202a7badac70c9907be84c746a3749eda", func := "fugue/fuguelaw07.FlowLists", spec := "flowLists", unfollowed := true, recurses := true, named := ["fugue/code.numberSizes", "fugue/flow.rows"], apart := false, laid := [("fugue/code.numberSizes", laid_fugue_code_numberSizes), ("fugue/flow.rows", laid_fugue_flow_rows)], narrowed := true }
def FlowListsUptoSaid : Prop := flowListsUptoRow.holds Tryd.pinned (OpenSpec.upto flowListsSpec)

end Rows
end Go.Proofs.YtlmlmhinbkcpoaaDoor
