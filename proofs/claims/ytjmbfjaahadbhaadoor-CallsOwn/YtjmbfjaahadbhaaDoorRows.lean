/-
  NARROWER THAN 'FOR EVERY INPUT', by the rows' own cells (each row's printed sentence says how): CallsLong: laid · CallsNames: laid · CallsRings: laid · CallsOrder: laid · CallsOwn: laid.
  DERIVED. THE GIVEN ROWS OF THIS SEAT. 5 by the template 'for every input the law returns true; each argument reads behind the call as it read before'; 0 by the template 'total and deterministic' (their statements: YtjmbfjaahadbhaaDoorTotals.lean).
  GIVEN WITH THE SEED: the statements are not yours to turn. If you find one false, say at which input.
  Laid BY PROGRAM, IN A SANDBOX (cutbox-rows.mjs): the forced cells as the released guide's own fill.sh prints them over the translation 1a6af6c83b8dc400… (all of the seat's roots in one cut). By AI agents, Wed Nov 11 2026. No macro, syntax, notation, axiom, sorry.
-/
import Derived.Test.YtjmbfjaahadbhaaDoorChecked
import GoSem.Claim
import GoSem.ClaimJoined
import GoSem.ClaimMapViews
import Derived.JoinedTies
import Derived.KernelRfl
namespace Go.Proofs.YtjmbfjaahadbhaaDoor
/- THE CELL 'sum', in the pinned program and in every row, IS THE sha256 OF THE DUMP (.gsa) THAT YtjmbfjaahadbhaaDoorProg.lean LOADS. Nothing in Lean hashes anything: it is a label: what it is worth is what the hold of that sum in a sandbox is worth. -/
noncomputable def Tryd.pinned : Pinned := { name := "ytjmbfjaahadbhaadoor", sum := "1a6af6c83b8dc400335fc522ee6cfe7c2ce8e9f20314c7674838f1ae8d1da10a", checked := Tryd.checked }
namespace Rows
def none {H : Type} : Left H := { results := [], args := [] }

/- WHAT THE LISTED PACKAGE-LEVEL VARIABLES READ AS WHEN THE CALL BEGINS. Each datum BY PROGRAM (the guide's laid-datum.mjs) off the statement by which the dump's own 'gosem.cut.vars' lays the variable. In a bare row this is a premise. The card (YtjmbfjaahadbhaaDoorCards.lean) ties it to the program's text. -/
def laid_fugue_code_numberSizes {H : Type} : DataW H := .agg [.lit (.int .i64 0), .lit (.int .i64 8), .lit (.int .i64 0), .lit (.int .i64 0), .lit (.int .i64 0), .lit (.int .i64 0), .lit (.int .i64 1), .lit (.int .i64 1), .lit (.int .i64 1), .lit (.int .i64 1), .lit (.int .i64 1), .lit (.int .i64 2), .lit (.int .i64 0), .lit (.int .i64 2), .lit (.int .i64 2), .lit (.int .i64 0), .lit (.int .i64 0), .lit (.int .i64 0)]

/-- 'fuguelaw05.CallsLong': WHATEVER THE INPUT: true; the input reads as it did. -/
def callsLongSpec : ChangeSpec := { name := "callsLong", fn := fun _ => fun
  | [d1, d2] => { results := [.lit (.bool true)], args := [d1, d2] }
  | _ => none }
def callsLongRow : OpenClaim := { program := "ytjmbfjaahadbhaadoor", sum := "1a6af6c83b8dc400335fc522ee6cfe7c2ce8e9f20314c7674838f1ae8d1da10a", func := "fugue/fuguelaw05.CallsLong", spec := "callsLong", unfollowed := true, recurses := true, named := ["fugue/code.numberSizes"], apart := false, laid := [("fugue/code.numberSizes", laid_fugue_code_numberSizes)] }
def CallsLongSaid : Prop := callsLongRow.holds Tryd.pinned (OpenSpec.ofChange callsLongSpec)

/-- ITS FALSE NEIGHBOUR: 'it returns false'. Refute it at one input. -/
def callsLongWrong : ChangeSpec := { name := "callsLong", fn := fun _ => fun
  | [d1, d2] => { results := [.lit (.bool false)], args := [d1, d2] }
  | _ => none }
def CallsLongWrongFalsely : Prop := callsLongRow.holds Tryd.pinned (OpenSpec.ofChange callsLongWrong)

/-- 'fuguelaw05.CallsNames': WHATEVER THE INPUT: true; the input reads as it did. -/
def callsNamesSpec : ChangeSpec := { name := "callsNames", fn := fun _ => fun
  | [d] => { results := [.lit (.bool true)], args := [d] }
  | _ => none }
def callsNamesRow : OpenClaim := { program := "ytjmbfjaahadbhaadoor", sum := "1a6af6c83b8dc400335fc522ee6cfe7c2ce8e9f20314c7674838f1ae8d1da10a", func := "fugue/fuguelaw05.CallsNames", spec := "callsNames", unfollowed := true, recurses := true, named := ["fugue/code.numberSizes"], apart := false, laid := [("fugue/code.numberSizes", laid_fugue_code_numberSizes)] }
def CallsNamesSaid : Prop := callsNamesRow.holds Tryd.pinned (OpenSpec.ofChange callsNamesSpec)

/-- ITS FALSE NEIGHBOUR: 'it returns false'. Refute it at one input. -/
def callsNamesWrong : ChangeSpec := { name := "callsNames", fn := fun _ => fun
  | [d] => { results := [.lit (.bool false)], args := [d] }
  | _ => none }
def CallsNamesWrongFalsely : Prop := callsNamesRow.holds Tryd.pinned (OpenSpec.ofChange callsNamesWrong)

/-- 'fuguelaw05.CallsRings': WHATEVER THE INPUT: true; the input reads as it did. -/
def callsRingsSpec : ChangeSpec := { name := "callsRings", fn := fun _ => fun
  | [d] => { results := [.lit (.bool true)], args := [d] }
  | _ => none }
def callsRingsRow : OpenClaim := { program := "ytjmbfjaahadbhaadoor", sum := "1a6af6c83b8dc400335fc522ee6cfe7c2ce8e9f20314c7674838f1ae8d1da10a", func := "fugue/fuguelaw05.CallsRings", spec := "callsRings", unfollowed := true, recurses := true, named := ["fugue/code.numberSizes"], apart := false, laid := [("fugue/code.numberSizes", laid_fugue_code_numberSizes)] }
def CallsRingsSaid : Prop := callsRingsRow.holds Tryd.pinned (OpenSpec.ofChange callsRingsSpec)

/-- ITS FALSE NEIGHBOUR: 'it returns false'. Refute it at one input. -/
def callsRingsWrong : ChangeSpec := { name := "callsRings", fn := fun _ => fun
  | [d] => { results := [.lit (.bool false)], args := [d] }
  | _ => none }
def CallsRingsWrongFalsely : Prop := callsRingsRow.holds Tryd.pinned (OpenSpec.ofChange callsRingsWrong)

/-- 'fuguelaw05.CallsOrder': WHATEVER THE INPUT: true; the input reads as it did. -/
def callsOrderSpec : ChangeSpec := { name := "callsOrder", fn := fun _ => fun
  | [d] => { results := [.lit (.bool true)], args := [d] }
  | _ => none }
def callsOrderRow : OpenClaim := { program := "ytjmbfjaahadbhaadoor", sum := "1a6af6c83b8dc400335fc522ee6cfe7c2ce8e9f20314c7674838f1ae8d1da10a", func := "fugue/fuguelaw05.CallsOrder", spec := "callsOrder", unfollowed := true, recurses := true, named := ["fugue/code.numberSizes"], apart := false, laid := [("fugue/code.numberSizes", laid_fugue_code_numberSizes)] }
def CallsOrderSaid : Prop := callsOrderRow.holds Tryd.pinned (OpenSpec.ofChange callsOrderSpec)

/-- ITS FALSE NEIGHBOUR: 'it returns false'. Refute it at one input. -/
def callsOrderWrong : ChangeSpec := { name := "callsOrder", fn := fun _ => fun
  | [d] => { results := [.lit (.bool false)], args := [d] }
  | _ => none }
def CallsOrderWrongFalsely : Prop := callsOrderRow.holds Tryd.pinned (OpenSpec.ofChange callsOrderWrong)

/-- 'fuguelaw05.CallsOwn': WHATEVER THE INPUT: true; the input reads as it did. -/
def callsOwnSpec : ChangeSpec := { name := "callsOwn", fn := fun _ => fun
  | [d] => { results := [.lit (.bool true)], args := [d] }
  | _ => none }
def callsOwnRow : OpenClaim := { program := "ytjmbfjaahadbhaadoor", sum := "1a6af6c83b8dc400335fc522ee6cfe7c2ce8e9f20314c7674838f1ae8d1da10a", func := "fugue/fuguelaw05.CallsOwn", spec := "callsOwn", unfollowed := true, recurses := true, named := ["fugue/code.numberSizes"], apart := false, laid := [("fugue/code.numberSizes", laid_fugue_code_numberSizes)] }
def CallsOwnSaid : Prop := callsOwnRow.holds Tryd.pinned (OpenSpec.ofChange callsOwnSpec)

/-- ITS FALSE NEIGHBOUR: 'it returns false'. Refute it at one input. -/
def callsOwnWrong : ChangeSpec := { name := "callsOwn", fn := fun _ => fun
  | [d] => { results := [.lit (.bool false)], args := [d] }
  | _ => none }
def CallsOwnWrongFalsely : Prop := callsOwnRow.holds Tryd.pinned (OpenSpec.ofChange callsOwnWrong)

/- THE SECOND FORM. 'bulk': how many values and letters a reading holds, each counted each time it is reached (what is shared counts as often as it is met; a slice's spare places count too). A statement '..UptoSaid' is the law's where the arguments, and the package variables that the reading takes, are together of bulk at most 1048576: NARROWER than '..Said'. Prove '..Said' where nothing that the law and all that it calls make is longer than what came in: it says more and counts as full. Else prove '..UptoSaid'. A law counts once. -/
mutual
def uptoBulk {H : Type} : DataW H → Nat
  | .lit (.string bytes) => bytes.length + 1
  | .lit _ => 1
  | .nil => 1
  | .ptr d => uptoBulk d + 1
  | .slice elems spare => uptoBulkAll elems + uptoBulkAll spare + 1
  | .agg parts => uptoBulkAll parts + 1
  | .iface _ d => uptoBulk d + 1
  | .map entries => uptoBulkEntries entries + 1
  | .held _ => 1
def uptoBulkAll {H : Type} : List (DataW H) → Nat
  | [] => 0
  | d :: r => uptoBulk d + uptoBulkAll r
def uptoBulkEntries {H : Type} : List (Lit × DataW H) → Nat
  | [] => 0
  | x :: r => uptoBulkEntry x + uptoBulkEntries r
def uptoBulkEntry {H : Type} : Lit × DataW H → Nat
  | (.string bytes, d) => bytes.length + uptoBulk d + 1
  | (_, d) => uptoBulk d + 1
 end
def uptoSmall : (H : Type) → List (DataW H) → Bool := fun _ ds => decide (uptoBulkAll ds ≤ 1048576)
def OpenSpec.upto (s : _root_.Go.ChangeSpec) : _root_.Go.OpenSpec := { _root_.Go.OpenSpec.ofChange s with cond := some uptoSmall }

/-- 'fuguelaw05.CallsLong', WHERE WHAT IT READS IS OF BULK AT MOST 1048576: true; the input reads as it did. -/
def callsLongUptoRow : OpenClaim := { program := "ytjmbfjaahadbhaadoor", sum := "1a6af6c83b8dc400335fc522ee6cfe7c2ce8e9f20314c7674838f1ae8d1da10a", func := "fugue/fuguelaw05.CallsLong", spec := "callsLong", unfollowed := true, recurses := true, named := ["fugue/code.numberSizes"], apart := false, laid := [("fugue/code.numberSizes", laid_fugue_code_numberSizes)], narrowed := true }
def CallsLongUptoSaid : Prop := callsLongUptoRow.holds Tryd.pinned (OpenSpec.upto callsLongSpec)

/-- 'fuguelaw05.CallsNames', WHERE WHAT IT READS IS OF BULK AT MOST 1048576: true; the input reads as it did. -/
def callsNamesUptoRow : OpenClaim := { program := "ytjmbfjaahadbhaadoor", sum := "1a6af6c83b8dc400335fc522ee6cfe7c2ce8e9f20314c7674838f1ae8d1da10a", func := "fugue/fuguelaw05.CallsNames", spec := "callsNames", unfollowed := true, recurses := true, named := ["fugue/code.numberSizes"], apart := false, laid := [("fugue/code.numberSizes", laid_fugue_code_numberSizes)], narrowed := true }
def CallsNamesUptoSaid : Prop := callsNamesUptoRow.holds Tryd.pinned (OpenSpec.upto callsNamesSpec)

/-- 'fuguelaw05.CallsRings', WHERE WHAT IT READS IS OF BULK AT MOST 1048576: true; the input reads as it did. -/
def callsRingsUptoRow : OpenClaim := { program := "ytjmbfjaahadbhaadoor", sum := "1a6af6c83b8dc400335fc522ee6cfe7c2ce8e9f20314c7674838f1ae8d1da10a", func := "fugue/fuguelaw05.CallsRings", spec := "callsRings", unfollowed := true, recurses := true, named := ["fugue/code.numberSizes"], apart := false, laid := [("fugue/code.numberSizes", laid_fugue_code_numberSizes)], narrowed := true }
def CallsRingsUptoSaid : Prop := callsRingsUptoRow.holds Tryd.pinned (OpenSpec.upto callsRingsSpec)

/-- 'fuguelaw05.CallsOrder', WHERE WHAT IT READS IS OF BULK AT MOST 1048576: true; the input reads as it did. -/
def callsOrderUptoRow : OpenClaim := { program := "ytjmbfjaahadbhaadoor", sum := "1a6af6c83b8dc400335fc522ee6cfe7c2ce8e9f20314c7674838f1ae8d1da10a", func := "fugue/fuguelaw05.CallsOrder", spec := "callsOrder", unfollowed := true, recurses := true, named := ["fugue/code.numberSizes"], apart := false, laid := [("fugue/code.numberSizes", laid_fugue_code_numberSizes)], narrowed := true }
def CallsOrderUptoSaid : Prop := callsOrderUptoRow.holds Tryd.pinned (OpenSpec.upto callsOrderSpec)

/-- 'fuguelaw05.CallsOwn', WHERE WHAT IT READS IS OF BULK AT MOST 1048576: true; the input reads as it did. -/
def callsOwnUptoRow : OpenClaim := { program := "ytjmbfjaahadbhaadoor", sum := "1a6af6c83b8dc400335fc522ee6cfe7c2ce8e9f20314c7674838f1ae8d1da10a", func := "fugue/fuguelaw05.CallsOwn", spec := "callsOwn", unfollowed := true, recurses := true, named := ["fugue/code.numberSizes"], apart := false, laid := [("fugue/code.numberSizes", laid_fugue_code_numberSizes)], narrowed := true }
def CallsOwnUptoSaid : Prop := callsOwnUptoRow.holds Tryd.pinned (OpenSpec.upto callsOwnSpec)

end Rows
end Go.Proofs.YtjmbfjaahadbhaaDoor
