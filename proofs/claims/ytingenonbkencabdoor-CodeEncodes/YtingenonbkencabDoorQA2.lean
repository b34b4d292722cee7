import Derived.Test.YtingenonbkencabDoorProg
import Derived.Says
import Derived.Tactics
import Derived.Tactics2
import Derived.Laws.Alloc2
import Derived.Laws.Append
import Derived.Laws.AppendOwn
import Derived.Laws.Bits
import Derived.Laws.Bits128
import Derived.Laws.Bits64
import Derived.Laws.Bits64b
import Derived.Laws.BitsAll
import Derived.Laws.BitsAllLaws
import Derived.Laws.BitsLemmas
import Derived.Laws.ByValue
import Derived.Laws.BytesString
import Derived.Laws.Cells
import Derived.Laws.Closers25
import Derived.Laws.Closers25b
import Derived.Laws.Concat
import Derived.Laws.CopyRow
import Derived.Laws.Entries
import Derived.Laws.Externs
import Derived.Laws.IdiomArrays
import Derived.Laws.IdiomMaps
import Derived.Laws.LoneSync
import Derived.Laws.MakeOwn
import Derived.Laws.MathBits
import Derived.Laws.NewBlocks
import Derived.Laws.NewDeep
import Derived.Laws.NewFold
import Derived.Laws.OwnMore
import Derived.Laws.Pointers
import Derived.Laws.RangeAny
import Derived.Laws.RangeString
import Derived.Laws.ResultCell
import Derived.Laws.Rows
import Derived.Laws.Runes
import Derived.Laws.Sem
import Derived.Laws.Shifts
import Derived.Laws.ShiftsVar
import Derived.Laws.ShiftsVarLaws
import Derived.Laws.Slices
import Derived.Laws.Small
import Derived.Laws.StandIn
import Derived.Laws.Strings
import Derived.Laws.Strings2
import Derived.Laws.Strings3
import Derived.Laws.StructEq
import Derived.Laws.Tables
import Derived.Laws.Unary
import Derived.Laws.World
import Derived.Laws.Wrap64
import Derived.Scope
import Derived.FnLit
import Derived.StillTactics
import Derived.RegionTactic
import Derived.LoopTactic
import Derived.ChangeAlike
import Derived.Laws.BytesArg
import Derived.Laws.IdiomCopy
import Derived.Laws.IdiomStrings
import Derived.Laws.IdiomRangeMap
import Derived.LoopN
import Derived.WalkMore
import Derived.ScopeJumps
import Derived.Outline
import Derived.RegionCalls
import Derived.Defers
import Derived.Recover
import Derived.OwnWalk
import Derived.Below
import Derived.ArgAppend
import Derived.IntWalk
import Derived.BigFrame
import Derived.BigRegion
import Derived.WalkArith
import Derived.BigCall      -- the step that arrives at a call of a named Go function, made cheap
import Derived.BigGuard     -- an operation whose guard says no is passed over by looking, inside a loop and at a nested guard too
import Derived.OneCell      -- a block of one cell (a captured variable); an owned row while another block is written
import Derived.Carry        -- 'run_makeMap', 'Grown', 'Below.trod' (the law on 'make(map ..)' that 6f names for a walk)
import Derived.Deep.WholeRow
set_option linter.unusedVariables false
set_option linter.unusedSimpArgs false
namespace Go.Proofs.YtingenonbkencabDoor
open Go.RowKit (wrap32 wrap64)
set_option maxRecDepth 100000
set_option maxHeartbeats 1000000
abbrev vI (n : Int) : Value := .int .i64 n
abbrev vF (f : Nat) : Value := .func (.func f) #[] #[]
abbrev vN : Value := .nilFunc
abbrev vB (b : Bool) : Value := .bool b
def rowsC : Array Value := #[
 vN, vN, vN, vN, vN, vN, vB false, vB false,
 vF 54, vN, vN, vF 55, vN, vN, vB false, vB false,
 vF 54, vF 54, vN, vN, vN, vN, vB false, vB false,
 vF 54, vF 54, vF 54, vN, vN, vN, vB false, vB false,
 vF 54, vF 54, vF 54, vN, vN, vN, vB false, vB false,
 vF 54, vF 54, vN, vN, vN, vN, vB false, vB false,
 vF 54, vN, vN, vF 56, vN, vN, vB false, vB true,
 vF 54, vF 54, vN, vF 57, vN, vN, vB false, vB false,
 vF 54, vF 54, vN, vF 57, vN, vN, vB false, vB false,
 vF 54, vN, vN, vF 58, vN, vN, vB false, vB false,
 vN, vF 54, vN, vF 58, vN, vN, vB false, vB false,
 vN, vN, vN, vF 59, vF 60, vF 61, vB false, vB false,
 vN, vF 54, vN, vN, vN, vN, vB false, vB false,
 vN, vN, vN, vF 62, vN, vN, vB true, vB false,
 vN, vF 54, vN, vF 62, vN, vN, vB false, vB false,
 vN, vN, vN, vN, vF 63, vN, vB true, vB false,
 vF 54, vN, vN, vN, vN, vN, vB false, vB false,
 vF 54, vF 54, vF 54, vN, vN, vN, vB false, vB false]
structure WS where
 num : Value
 at' : Int
 globals : Int
 funcs : Value
 locs : Int
 fP : Int
 fR : Int
 fV : Int
 fC : Value
 len : Int
 op : Int
 r : Int
 s : Int
 t : Int
 n : Int
 args : Value
 rets : Value
 count : Int
def WS.cells (s : WS) : Array Value :=
 #[s.num, vI s.at'] ++ rowsC ++ #[vI s.globals, s.funcs, vI s.locs, vI s.fP, vI s.fR, vI s.fV, s.fC, vI s.len, vI s.op, vI s.r, vI s.s, vI s.t, vI s.n, s.args, s.rets, vI s.count]
def nilS : Value := .slice none 0 0
def WS.start (num : Value) : WS := ⟨num, 6, 0, nilS, 1, 0, 0, 0, nilS, 0, 0, 0, 0, 0, 0, nilS, nilS, 0⟩
abbrev rowA (r s t n a e : Value) (x y : Bool) : Value := .agg #[r, s, t, n, a, e, vB x, vB y]
theorem run_build85 (w : World) : (Instr.build 67 #[
 (1, rowA (vF 54) vN vN (vF 55) vN vN false false), (2, rowA (vF 54) (vF 54) vN vN vN vN false false), (3, rowA (vF 54) (vF 54) (vF 54) vN vN vN false false),
 (4, rowA (vF 54) (vF 54) (vF 54) vN vN vN false false), (5, rowA (vF 54) (vF 54) vN vN vN vN false false), (6, rowA (vF 54) vN vN (vF 56) vN vN false true),
 (7, rowA (vF 54) (vF 54) vN (vF 57) vN vN false false), (8, rowA (vF 54) (vF 54) vN (vF 57) vN vN false false), (9, rowA (vF 54) vN vN (vF 58) vN vN false false),
 (10, rowA vN (vF 54) vN (vF 58) vN vN false false), (11, rowA vN vN vN (vF 59) (vF 60) (vF 61) false false), (12, rowA vN (vF 54) vN vN vN vN false false),
 (13, rowA vN vN vN (vF 62) vN vN true false), (14, rowA vN (vF 54) vN (vF 62) vN vN false false), (15, rowA vN vN vN vN (vF 63) vN true false),
 (16, rowA (vF 54) vN vN vN vN vN false false), (17, rowA (vF 54) (vF 54) (vF 54) vN vN vN false false)]).run Tryd.prog w = .ok (.agg rowsC) w := by kernel_rfl
theorem rowsC_size : rowsC.size = 144 := by kernel_rfl
theorem run_store85 (w : World) : (storeCells ⟨w.heap.size, 0, none⟩ rowsC.toList).run Tryd.prog (w.alloc (.cells Tryd.zeroCells67 67)) = .ok () (w.alloc (.cells rowsC 67)) :=
 run_storeCells_new w 67 Tryd.zeroCells67 rowsC (by kernel_rfl) (by kernel_rfl) (by kernel_rfl)
theorem run_build87 (fn : Fn) (first cap : Array Value) (w : World) : (Instr.build 69 #[(0, .func fn first cap), (1, vI 6), (2, .agg rowsC), (5, vI 1)]).run Tryd.prog w = .ok (.agg (WS.start (.func fn first cap)).cells) w := by kernel_rfl
theorem run_row1 (w : World) : (Instr.build 66 #[(0, vF 54), (3, vF 55)]).run Tryd.prog w = .ok (rowA (vF 54) vN vN (vF 55) vN vN false false) w := by kernel_rfl
theorem run_row2 (w : World) : (Instr.build 66 #[(0, vF 54), (1, vF 54)]).run Tryd.prog w = .ok (rowA (vF 54) (vF 54) vN vN vN vN false false) w := by kernel_rfl
theorem run_row3 (w : World) : (Instr.build 66 #[(0, vF 54), (1, vF 54), (2, vF 54)]).run Tryd.prog w = .ok (rowA (vF 54) (vF 54) (vF 54) vN vN vN false false) w := by kernel_rfl
theorem run_row6 (w : World) : (Instr.build 66 #[(0, vF 54), (3, vF 56), (7, vB true)]).run Tryd.prog w = .ok (rowA (vF 54) vN vN (vF 56) vN vN false true) w := by kernel_rfl
theorem run_row7 (w : World) : (Instr.build 66 #[(0, vF 54), (1, vF 54), (3, vF 57)]).run Tryd.prog w = .ok (rowA (vF 54) (vF 54) vN (vF 57) vN vN false false) w := by kernel_rfl
theorem run_row9 (w : World) : (Instr.build 66 #[(0, vF 54), (3, vF 58)]).run Tryd.prog w = .ok (rowA (vF 54) vN vN (vF 58) vN vN false false) w := by kernel_rfl
theorem run_row10 (w : World) : (Instr.build 66 #[(1, vF 54), (3, vF 58)]).run Tryd.prog w = .ok (rowA vN (vF 54) vN (vF 58) vN vN false false) w := by kernel_rfl
theorem run_row11 (w : World) : (Instr.build 66 #[(3, vF 59), (4, vF 60), (5, vF 61)]).run Tryd.prog w = .ok (rowA vN vN vN (vF 59) (vF 60) (vF 61) false false) w := by kernel_rfl
theorem run_row12 (w : World) : (Instr.build 66 #[(1, vF 54)]).run Tryd.prog w = .ok (rowA vN (vF 54) vN vN vN vN false false) w := by kernel_rfl
theorem run_row13 (w : World) : (Instr.build 66 #[(3, vF 62), (6, vB true)]).run Tryd.prog w = .ok (rowA vN vN vN (vF 62) vN vN true false) w := by kernel_rfl
theorem run_row14 (w : World) : (Instr.build 66 #[(1, vF 54), (3, vF 62)]).run Tryd.prog w = .ok (rowA vN (vF 54) vN (vF 62) vN vN false false) w := by kernel_rfl
theorem run_row15 (w : World) : (Instr.build 66 #[(4, vF 63), (6, vB true)]).run Tryd.prog w = .ok (rowA vN vN vN vN (vF 63) vN true false) w := by kernel_rfl
theorem run_row16 (w : World) : (Instr.build 66 #[(0, vF 54)]).run Tryd.prog w = .ok (rowA (vF 54) vN vN vN vN vN false false) w := by kernel_rfl
theorem results_cell {fn : Func} {p : Tmp} {ty : TypeId} (h : fn.results = #[.cell p ty]) (tmps : Array Value) (P : Program) (w : World) :
 (results fn tmps).run P w = ((asAddr (tmps.getD p undef)).run P w).andThen fun a w₁ => (loadVar ty a).run P w₁ := by
 simp only [results, h]
 simp [Sem.run_bind, Result.andThen]
attribute [local go_sem] run_build85 run_build87 run_row1 run_row2 run_row3 run_row6 run_row7 run_row9 run_row10 run_row11 run_row12 run_row13 run_row14 run_row15 run_row16
attribute [local go_sem] run_store85 rowsC_size
theorem makeRows_any (w : World) :
 Calls Tryd.prog 36 #[] w fun e w' => e = .returned (.agg rowsC) ∧ w' = w.alloc (.cells rowsC 67) := by
 have hmf : ∀ (fn : Fn) (first cap : Array Value) (w : World), (Instr.makeFunc fn first cap).run Tryd.prog w = .ok (.func fn first cap) w := fun _ _ _ _ => rfl
 go_enter Tryd.func36, Tryd.ntmps36
 go_wp2
 have hl := run_loadVar_new (P := Tryd.prog) w 67 rowsC 18 66 Tryd.underlying67 (by kernel_rfl)
 refine bodyPost_ret (v := .agg rowsC) ?_ rfl ⟨rfl, rfl⟩
 rw [results_cell (p := 0) (ty := 67) Tryd.results36]
 simp only [Array.getD_eq_getD_getElem?, List.getElem?_toArray, List.getElem?_cons_zero, Option.getD_some, asAddr, Sem.run_pure, Result.andThen, hl]
theorem newWalk_any (fn : Fn) (first cap : Array Value) (w : World) :
 Calls Tryd.prog 18 #[.func fn first cap] w fun e w' => e = .returned (.pointer (some ⟨w.heap.size + 1, 0, none⟩)) ∧ w' = (w.alloc (.cells rowsC 67)).alloc (.cells (WS.start (.func fn first cap)).cells 69) := by
 go_enter Tryd.func18, Tryd.ntmps18
 go_wp2_with fail
 refine (makeRows_any _).mono ?_
 rintro e w' ⟨rfl, rfl⟩
 go_wp2_with fail
 go_ret
 exact ⟨rfl, rfl⟩
end Go.Proofs.YtingenonbkencabDoor
