import Derived.Test.YtingenonbkencaaDoorProg
import Derived.Says
import Derived.Tactics
import Derived.Tactics2
import Derived.Laws.Alloc2
import Derived.Laws.Append
import Derived.Laws.AppendOwn
import Derived.Laws.Bits
import Derived.Laws.Bits128
import Derived.Laws.Bits64
import Derived.Laws.Bits64b
import Derived.Laws.BitsAll
import Derived.Laws.BitsAllLaws
import Derived.Laws.BitsLemmas
import Derived.Laws.ByValue
import Derived.Laws.BytesString
import Derived.Laws.Cells
import Derived.Laws.Closers25
import Derived.Laws.Closers25b
import Derived.Laws.Concat
import Derived.Laws.CopyRow
import Derived.Laws.Entries
import Derived.Laws.Externs
import Derived.Laws.IdiomArrays
import Derived.Laws.IdiomMaps
import Derived.Laws.LoneSync
import Derived.Laws.MakeOwn
import Derived.Laws.MathBits
import Derived.Laws.NewBlocks
import Derived.Laws.NewDeep
import Derived.Laws.NewFold
import Derived.Laws.OwnMore
import Derived.Laws.Pointers
import Derived.Laws.RangeAny
import Derived.Laws.RangeString
import Derived.Laws.ResultCell
import Derived.Laws.Rows
import Derived.Laws.Runes
import Derived.Laws.Sem
import Derived.Laws.Shifts
import Derived.Laws.ShiftsVar
import Derived.Laws.ShiftsVarLaws
import Derived.Laws.Slices
import Derived.Laws.Small
import Derived.Laws.StandIn
import Derived.Laws.Strings
import Derived.Laws.Strings2
import Derived.Laws.Strings3
import Derived.Laws.StructEq
import Derived.Laws.Tables
import Derived.Laws.Unary
import Derived.Laws.World
import Derived.Laws.Wrap64
import Derived.Scope
import Derived.FnLit
import Derived.StillTactics
import Derived.RegionTactic
import Derived.LoopTactic
import Derived.ChangeAlike
import Derived.Laws.BytesArg
import Derived.Laws.IdiomCopy
import Derived.Laws.IdiomStrings
import Derived.Laws.IdiomRangeMap
import Derived.LoopN
import Derived.WalkMore
import Derived.ScopeJumps
import Derived.Outline
import Derived.RegionCalls
import Derived.Defers
import Derived.Recover
import Derived.OwnWalk
import Derived.Below
import Derived.ArgAppend
import Derived.IntWalk
import Derived.BigFrame
import Derived.BigRegion
import Derived.WalkArith
import Derived.BigCall      -- the step that arrives at a call of a named Go function, made cheap
import Derived.BigGuard     -- an operation whose guard says no is passed over by looking, inside a loop and at a nested guard too
import Derived.OneCell      -- a block of one cell (a captured variable); an owned row while another block is written
import Derived.Carry        -- 'run_makeMap', 'Grown', 'Below.trod' (the law on 'make(map ..)' that 6f names for a walk)
import Derived.Deep.WholeRow
set_option linter.unusedVariables false
set_option linter.unusedSimpArgs false
namespace Go.Proofs.YtingenonbkencaaDoor
open Go.RowKit (wrap32 wrap64)
set_option maxRecDepth 100000
set_option maxHeartbeats 1000000
abbrev vI (n:Int):Value:=.int .i64 n
abbrev vF (f:Nat):Value:=.func (.func f) #[] #[]
abbrev vN : Value:=.nilFunc
abbrev vB (b:Bool):Value:=.bool b
def rowsC : Array Value:=#[
 vN,vN,vN,vN,vN,vN,vB false,vB false,
 vF 80,vN,vN,vF 81,vN,vN,vB false,vB false,
 vF 80,vF 80,vN,vN,vN,vN,vB false,vB false,
 vF 80,vF 80,vF 80,vN,vN,vN,vB false,vB false,
 vF 80,vF 80,vF 80,vN,vN,vN,vB false,vB false,
 vF 80,vF 80,vN,vN,vN,vN,vB false,vB false,
 vF 80,vN,vN,vF 82,vN,vN,vB false,vB true,
 vF 80,vF 80,vN,vF 83,vN,vN,vB false,vB false,
 vF 80,vF 80,vN,vF 83,vN,vN,vB false,vB false,
 vF 80,vN,vN,vF 84,vN,vN,vB false,vB false,
 vN,vF 80,vN,vF 84,vN,vN,vB false,vB false,
 vN,vN,vN,vF 85,vF 86,vF 87,vB false,vB false,
 vN,vF 80,vN,vN,vN,vN,vB false,vB false,
 vN,vN,vN,vF 88,vN,vN,vB true,vB false,
 vN,vF 80,vN,vF 88,vN,vN,vB false,vB false,
 vN,vN,vN,vN,vF 89,vN,vB true,vB false,
 vF 80,vN,vN,vN,vN,vN,vB false,vB false,
 vF 80,vF 80,vF 80,vN,vN,vN,vB false,vB false]
structure WS where
 num:Value
 at':Int
 globals:Int
 funcs:Value
 locs:Int
 fP:Int
 fR:Int
 fV:Int
 fC:Value
 len:Int
 op:Int
 r:Int
 s:Int
 t:Int
 n:Int
 args:Value
 rets:Value
 count:Int
def WS.cells (s:WS):Array Value :=
 #[s.num,vI s.at']++rowsC++#[vI s.globals,s.funcs,vI s.locs,vI s.fP,vI s.fR,vI s.fV,s.fC,vI s.len,vI s.op,vI s.r,vI s.s,vI s.t,vI s.n,s.args,s.rets,vI s.count]
def nilS : Value:=.slice none 0 0
def WS.start (num:Value):WS:=⟨num,6,0,nilS,1,0,0,0,nilS,0,0,0,0,0,0,nilS,nilS,0⟩
abbrev rowA (r s t n a e:Value)(x y:Bool):Value:=.agg #[r,s,t,n,a,e,vB x,vB y]
theorem run_build85 (w:World):(Instr.build 85 #[
 (1,rowA (vF 80) vN vN (vF 81) vN vN false false),(2,rowA (vF 80) (vF 80) vN vN vN vN false false),(3,rowA (vF 80) (vF 80) (vF 80) vN vN vN false false),
 (4,rowA (vF 80) (vF 80) (vF 80) vN vN vN false false),(5,rowA (vF 80) (vF 80) vN vN vN vN false false),(6,rowA (vF 80) vN vN (vF 82) vN vN false true),
 (7,rowA (vF 80) (vF 80) vN (vF 83) vN vN false false),(8,rowA (vF 80) (vF 80) vN (vF 83) vN vN false false),(9,rowA (vF 80) vN vN (vF 84) vN vN false false),
 (10,rowA vN (vF 80) vN (vF 84) vN vN false false),(11,rowA vN vN vN (vF 85) (vF 86) (vF 87) false false),(12,rowA vN (vF 80) vN vN vN vN false false),
 (13,rowA vN vN vN (vF 88) vN vN true false),(14,rowA vN (vF 80) vN (vF 88) vN vN false false),(15,rowA vN vN vN vN (vF 89) vN true false),
 (16,rowA (vF 80) vN vN vN vN vN false false),(17,rowA (vF 80) (vF 80) (vF 80) vN vN vN false false)]).run Tryd.prog w = .ok (.agg rowsC) w:=by kernel_rfl
theorem rowsC_size : rowsC.size=144:=by kernel_rfl
theorem run_store85 (w:World):(storeCells ⟨w.heap.size,0,none⟩ rowsC.toList).run Tryd.prog (w.alloc (.cells Tryd.zeroCells85 85)) = .ok () (w.alloc (.cells rowsC 85)) :=
 run_storeCells_new w 85 Tryd.zeroCells85 rowsC (by kernel_rfl) (by kernel_rfl) (by kernel_rfl)
theorem run_build87 (fn:Fn)(first cap:Array Value)(w:World):(Instr.build 87 #[(0,.func fn first cap),(1,vI 6),(2,.agg rowsC),(5,vI 1)]).run Tryd.prog w = .ok (.agg (WS.start (.func fn first cap)).cells) w:=by kernel_rfl
theorem run_row1 (w:World):(Instr.build 84 #[(0,vF 80),(3,vF 81)]).run Tryd.prog w = .ok (rowA (vF 80) vN vN (vF 81) vN vN false false) w:=by kernel_rfl
theorem run_row2 (w:World):(Instr.build 84 #[(0,vF 80),(1,vF 80)]).run Tryd.prog w = .ok (rowA (vF 80) (vF 80) vN vN vN vN false false) w:=by kernel_rfl
theorem run_row3 (w:World):(Instr.build 84 #[(0,vF 80),(1,vF 80),(2,vF 80)]).run Tryd.prog w = .ok (rowA (vF 80) (vF 80) (vF 80) vN vN vN false false) w:=by kernel_rfl
theorem run_row6 (w:World):(Instr.build 84 #[(0,vF 80),(3,vF 82),(7,vB true)]).run Tryd.prog w = .ok (rowA (vF 80) vN vN (vF 82) vN vN false true) w:=by kernel_rfl
theorem run_row7 (w:World):(Instr.build 84 #[(0,vF 80),(1,vF 80),(3,vF 83)]).run Tryd.prog w = .ok (rowA (vF 80) (vF 80) vN (vF 83) vN vN false false) w:=by kernel_rfl
theorem run_row9 (w:World):(Instr.build 84 #[(0,vF 80),(3,vF 84)]).run Tryd.prog w = .ok (rowA (vF 80) vN vN (vF 84) vN vN false false) w:=by kernel_rfl
theorem run_row10 (w:World):(Instr.build 84 #[(1,vF 80),(3,vF 84)]).run Tryd.prog w = .ok (rowA vN (vF 80) vN (vF 84) vN vN false false) w:=by kernel_rfl
theorem run_row11 (w:World):(Instr.build 84 #[(3,vF 85),(4,vF 86),(5,vF 87)]).run Tryd.prog w = .ok (rowA vN vN vN (vF 85) (vF 86) (vF 87) false false) w:=by kernel_rfl
theorem run_row12 (w:World):(Instr.build 84 #[(1,vF 80)]).run Tryd.prog w = .ok (rowA vN (vF 80) vN vN vN vN false false) w:=by kernel_rfl
theorem run_row13 (w:World):(Instr.build 84 #[(3,vF 88),(6,vB true)]).run Tryd.prog w = .ok (rowA vN vN vN (vF 88) vN vN true false) w:=by kernel_rfl
theorem run_row14 (w:World):(Instr.build 84 #[(1,vF 80),(3,vF 88)]).run Tryd.prog w = .ok (rowA vN (vF 80) vN (vF 88) vN vN false false) w:=by kernel_rfl
theorem run_row15 (w:World):(Instr.build 84 #[(4,vF 89),(6,vB true)]).run Tryd.prog w = .ok (rowA vN vN vN vN (vF 89) vN true false) w:=by kernel_rfl
theorem run_row16 (w:World):(Instr.build 84 #[(0,vF 80)]).run Tryd.prog w = .ok (rowA (vF 80) vN vN vN vN vN false false) w:=by kernel_rfl
theorem results_cell {fn:Func}{p:Tmp}{ty:TypeId}(h:fn.results=#[.cell p ty])(tmps:Array Value)(P:Program)(w:World) :
 (results fn tmps).run P w=((asAddr (tmps.getD p undef)).run P w).andThen fun a w₁=>(loadVar ty a).run P w₁:=by
 simp only[results,h]
 simp[Sem.run_bind,Result.andThen]
attribute [local go_sem] run_build85 run_build87 run_row1 run_row2 run_row3 run_row6 run_row7 run_row9 run_row10 run_row11 run_row12 run_row13 run_row14 run_row15 run_row16
attribute [local go_sem] run_store85 rowsC_size
theorem makeRows_any (w:World) :
 Calls Tryd.prog 57 #[] w fun e w'=>e = .returned (.agg rowsC)∧w'=w.alloc (.cells rowsC 85):=by
 have hmf:∀ (fn:Fn) (first cap:Array Value) (w:World),(Instr.makeFunc fn first cap).run Tryd.prog w = .ok (.func fn first cap) w:=fun _ _ _ _=>rfl
 go_enter Tryd.func57,Tryd.ntmps57
 go_wp2
 have hl:=run_loadVar_new (P:=Tryd.prog) w 85 rowsC 18 84 Tryd.underlying85 (by kernel_rfl)
 refine bodyPost_ret (v:=.agg rowsC) ?_ rfl ⟨rfl,rfl⟩
 rw[results_cell (p:=0) (ty:=85) Tryd.results57]
 simp only[Array.getD_eq_getD_getElem?,List.getElem?_toArray,List.getElem?_cons_zero,Option.getD_some,asAddr,Sem.run_pure,Result.andThen,hl]
theorem newWalk_any (fn:Fn)(first cap:Array Value)(w:World) :
 Calls Tryd.prog 29 #[.func fn first cap] w fun e w'=>e = .returned (.pointer (some ⟨w.heap.size+1,0,none⟩))∧w'=(w.alloc (.cells rowsC 85)).alloc (.cells (WS.start (.func fn first cap)).cells 87):=by
 go_enter Tryd.func29,Tryd.ntmps29
 go_wp2_with fail
 refine(makeRows_any _).mono ?_
 rintro e w' ⟨rfl,rfl⟩
 go_wp2_with fail
 go_ret
 exact⟨rfl,rfl⟩
end Go.Proofs.YtingenonbkencaaDoor
