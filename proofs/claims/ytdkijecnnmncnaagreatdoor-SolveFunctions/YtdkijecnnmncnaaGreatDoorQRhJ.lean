import Derived.Test.YtdkijecnnmncnaaGreatDoorQRgJ
import Derived.Test.YtdkijecnnmncnaaGreatDoorQQ4J
import Derived.JoinedCond
import Derived.Test.YtdkijecnnmncnaaGreatDoorCards
import Derived.Test.YtdkijecnnmncnaaGreatDoorTie
import Derived.Deep.DeepHandedRow
import Derived.Lib.LaidTab
import Derived.Test.YtdkijecnnmncnaaGreatDoorQEcJ
import Derived.Deep.RegionHeld3
import Derived.BigQuiet
import Derived.Test.YtdkijecnnmncnaaGreatDoorQN8J
import Derived.Test.YtdkijecnnmncnaaGreatDoorQEdJ
set_option linter.unusedVariables false
set_option linter.unusedSimpArgs false
namespace Go.Proofs.YtdkijecnnmncnaaGreatDoor
open Go.ChangeShapes Go.WideShapes Go.ChangeAt Go.RowKit
theorem knob : ownKnob Tryz.prog.godebug=none:=by kernel_rfl
theorem laysOut : laidOutB Tryz.prog=true:=by kernel_rfl
theorem gTab : Tryz.prog.globalNamed "fugue/code.numberSizes" = some 2 := by kernel_rfl
theorem gTabType : (Tryz.prog.globals[2]?).map (·.type)=some 247:=by kernel_rfl
theorem under138t : Tryz.prog.underlying 247=some (.array 18 3):=by kernel_rfl
theorem cells138 : Tryz.prog.cellsOf 247=18:=by kernel_rfl
theorem gRow : Tryz.prog.globalNamed "fugue/flow.rows" = some 0 := by kernel_rfl
theorem gRowType : (Tryz.prog.globals[0]?).map (·.type)=some 210:=by kernel_rfl
theorem under100t : Tryz.prog.underlying 210=some (.array 18 209):=by kernel_rfl
def fldp (name : String) (type offset byteOffset : Nat) : Field := { name := name, type := type, offset := offset, embedded := false, tag := "", pkgPath := "fugue/flow", byteOffset := byteOffset }
theorem under99t : Tryz.prog.underlying 209 = some (.struct #[fldp "how" 3 0 0, fldp "dst" 3 1 8, fldp "src" 3 2 16, fldp "derefs" 3 3 24]) := by kernel_rfl
theorem cells99 : Tryz.prog.cellsOf 209=4:=by kernel_rfl
theorem under4 : Tryz.prog.underlying 4=some .bool:=by kernel_rfl
theorem laid_tail {P:Program}{x:String × DataW Unit}{r:List (String × DataW Unit)}{w:World}(h:laidMet P (x::r) w):laidMet P r w:=by
 obtain⟨ps,hv,hnd,hrows⟩:=h
 obtain⟨n,d⟩:=x
 obtain⟨g,t,cs,fuel,p,q,_,_,_,_,hq,rfl⟩:=hv
 exact⟨q,hq,List.Nodup.sublist (List.sublist_append_right _ _) hnd,fun b off hm=>hrows b off (List.mem_append_right _ hm)⟩
theorem tab_of {W:World}(h:laidMetH Tryz.prog Rows.solveGrowsRow.laid W):Tab W:=by
 have ht : Lib.TabIs Tryz.prog W "fugue/code.numberSizes" .i64 [0, 8, 0, 0, 0, 0, 1, 1, 1, 1, 1, 2, 0, 2, 2, 0, 0, 0] := Lib.tabIs_of_head (rest := [("fugue/flow.rows", Rows.laid_fugue_flow_rows)]) gTab gTabType under138t und3 cel3 cells138 h
 intro op hop
 have hc:=ht.cell gTab op (by simpa using hop)
 rw[hc]
 simp only[Option.some.injEq,Value.int.injEq,true_and]
 match op,hop with
 | 0,_ | 1,_ | 2,_ | 3,_ | 4,_ | 5,_ | 6,_ | 7,_ | 8,_ | 9,_ | 10,_ | 11,_ | 12,_ | 13,_ | 14,_ | 15,_ | 16,_ | 17,_=>rfl
 | n+18,h=>exact absurd h (by omega)
theorem four_of {H:Type}{enc:TypeId × Value→H}{w:World}{base:Nat}{sp:Nat→Bool}{held:Bool}{fuel:Nat}{cs:List Value}{p:List MemPlace}{a b c d:Int}(h:DataW.trod enc Tryz.prog w base sp held fuel 209 cs=some (.agg [.lit (.int .i64 a),.lit (.int .i64 b),.lit (.int .i64 c),.lit (.int .i64 d)],p)):cs=[vI a,vI b,vI c,vI d]:=by
 obtain⟨xs,k,-,hx,hcl,hxl,hf⟩:=DataW.trod_struct under99t h
 rw[cells99] at hcl
 have hxl:xs.length=4:=hxl
 obtain⟨c0,r0,rfl,hl1⟩:=len_cons hcl
 obtain⟨c1,r1,rfl,hl2⟩:=len_cons hl1
 obtain⟨c2,r2,rfl,hl3⟩:=len_cons hl2
 obtain⟨c3,r3,rfl,hl4⟩:=len_cons hl3
 obtain rfl:=List.length_eq_zero_iff.1 hl4
 have g0 := hf 0 (fldp "how" 3 0 0) rfl
 have g1 := hf 1 (fldp "dst" 3 1 8) rfl
 have g2 := hf 2 (fldp "src" 3 2 16) rfl
 have g3 := hf 3 (fldp "derefs" 3 3 24) rfl
 match xs,hxl with
 | [y0,y1,y2,y3],_ =>
 have hx:=congrArg Prod.fst hx
 simp only[List.map_cons,List.map_nil,DataW.agg.injEq,List.cons.injEq,and_true] at hx
 obtain⟨e0,e1,e2,e3⟩:=hx
 simp only[fldp,cel3,List.drop_zero,List.drop_succ_cons,List.take_succ_cons,List.take_zero,List.getElem?_cons_zero,List.getElem?_cons_succ] at g0 g1 g2 g3
 obtain⟨z0,q0,h0,-⟩:=DataW.trod_int und3 g0
 obtain⟨z1,q1,h1,-⟩:=DataW.trod_int und3 g1
 obtain⟨z2,q2,h2,-⟩:=DataW.trod_int und3 g2
 obtain⟨z3,q3,h3,-⟩:=DataW.trod_int und3 g3
 subst h0 h1 h2 h3
 simp only[DataW.lit.injEq,Lit.int.injEq,true_and] at e0 e1 e2 e3
 subst e0 e1 e2 e3
 rw[(List.cons.inj q0).1,(List.cons.inj q1).1,(List.cons.inj q2).1,(List.cons.inj q3).1]
def aggAt (d:DataW Unit)(i:Nat):Option (DataW Unit):=match d with | .agg l=>l[i]? | _=>none
theorem rowsA_of {W:World}(h:laidMetH Tryz.prog Rows.solveGrowsRow.laid W):RowsA W:=by
 have h' : laidMet Tryz.prog [("fugue/code.numberSizes", Rows.laid_fugue_code_numberSizes), ("fugue/flow.rows", Rows.laid_fugue_flow_rows)] W := h
 obtain⟨ps,⟨g',t',cs,fuel,p,q,hg',ht',hvar,hd,_,_⟩,_⟩:=laid_tail h'
 obtain rfl:=Option.some.inj (gRow.symm.trans hg')
 obtain rfl:=Option.some.inj (gRowType.symm.trans ht')
 obtain⟨xs,m,-,hx,hcl,hxl,hf⟩:=DataW.trod_array under100t hd
 have key:∀ (op:Nat) (a b c d:Int),op<18→aggAt Rows.laid_fugue_flow_rows op=some (.agg [.lit (.int .i64 a),.lit (.int .i64 b),.lit (.int .i64 c),.lit (.int .i64 d)])→W.cell? ⟨0,op*4,none⟩=some (vI a)∧W.cell? ⟨0,op*4+1,none⟩=some (vI b)∧W.cell? ⟨0,op*4+2,none⟩=some (vI c)∧W.cell? ⟨0,op*4+3,none⟩=some (vI d):=fun op a b c d hop he=>by
  have g15:=hf op (by omega)
  rw[cells99] at g15
  have e15:xs[op]?.map (·.1)=some (.agg [.lit (.int .i64 a),.lit (.int .i64 b),.lit (.int .i64 c),.lit (.int .i64 d)]):=by
   have hx:Rows.laid_fugue_flow_rows = .agg (xs.map (·.1)):=congrArg Prod.fst hx
   rw[hx] at he
   rw[← List.getElem?_map]
   exact he
  obtain⟨⟨y,yp⟩,hy,rfl⟩:=Option.map_eq_some_iff.1 e15
  rw[hy] at g15
  have h4:=four_of g15
  have cc:∀ i,i<4→W.cell? ⟨0,op*4+i,none⟩=[vI a,vI b,vI c,vI d][i]?:=fun i hi=>by
   have h1:=World.var?_cell gRow hvar (op*4+i)
   rw[h1,← h4]
   simp[List.getElem?_take,List.getElem?_drop,hi]
  exact⟨cc 0 (by omega),cc 1 (by omega),cc 2 (by omega),cc 3 (by omega)⟩
 intro op hop
 match op,hop with
 | 0,_=>exact key 0 _ _ _ _ (by omega) rfl
 | 1,_=>exact key 1 _ _ _ _ (by omega) rfl
 | 2,_=>exact key 2 _ _ _ _ (by omega) rfl
 | 3,_=>exact key 3 _ _ _ _ (by omega) rfl
 | 4,_=>exact key 4 _ _ _ _ (by omega) rfl
 | 5,_=>exact key 5 _ _ _ _ (by omega) rfl
 | 6,_=>exact key 6 _ _ _ _ (by omega) rfl
 | 7,_=>exact key 7 _ _ _ _ (by omega) rfl
 | 8,_=>exact key 8 _ _ _ _ (by omega) rfl
 | 9,_=>exact key 9 _ _ _ _ (by omega) rfl
 | 10,_=>exact key 10 _ _ _ _ (by omega) rfl
 | 11,_=>exact key 11 _ _ _ _ (by omega) rfl
 | 12,_=>exact key 12 _ _ _ _ (by omega) rfl
 | 13,_=>exact key 13 _ _ _ _ (by omega) rfl
 | 14,_=>exact key 14 _ _ _ _ (by omega) rfl
 | 15,_=>exact key 15 _ _ _ _ (by omega) rfl
 | 16,_=>exact key 16 _ _ _ _ (by omega) rfl
 | 17,_=>exact key 17 _ _ _ _ (by omega) rfl
 | n+18,h=>exact absurd h (by omega)
theorem cel31 : Tryz.prog.cellsOf 30=1:=by kernel_rfl
theorem cel34 : Tryz.prog.cellsOf 33=2:=by kernel_rfl
theorem cel22 : Tryz.prog.cellsOf 22=1:=by kernel_rfl
theorem cel32 : Tryz.prog.cellsOf 31=1:=by kernel_rfl
theorem cel24 : Tryz.prog.cellsOf 24=2:=by kernel_rfl
theorem byt31 : Tryz.prog.bytesOf 30=24:=by kernel_rfl
theorem byt34 : Tryz.prog.bytesOf 33=48:=by kernel_rfl
theorem und34 : Tryz.prog.underlying 33 = some (.struct #[fld "Heap" 30 0 0, fld "Result" 31 1 24]) := by kernel_rfl
theorem und24 : Tryz.prog.underlying 24 = some (.struct #[fld "Globals" 3 0 0, fld "Funcs" 22 1 8]) := by kernel_rfl
section
variable {H:Type} {enc:TypeId × Value→H} {W:World} {n:Nat} {x:DataW H × List MemPlace}
theorem funcs_sz {c:Value}(h:DataW.trod enc Tryz.prog W 0 (fun _=>true) true n 22 [c]=some x)(hx:Szd x.1 22):∃ l,FA W c l∧FineP l:=by
 obtain⟨l,hl,a,cp,e,hh⟩:=rows_sz under24 cel67 byt67 (by omega) h hx (⟨0,0,0,[]⟩:PF) (IsFz W) (fun n cs y hy hs=>func_sz hy hs)
 have hr:=reach_is
 refine⟨l,⟨a,cp,e,fun hne=>?_⟩,by omega,fun f hf=>?_⟩
 ·obtain⟨k,o,ea,hk,hc⟩:=hh hne
  refine⟨k,o,ea,hk,fun j hj=>?_⟩
  obtain⟨cs,⟨cv,rfl,h2,-⟩,h1⟩:=hc j hj
  exact⟨cv,h1 0 (by omega),h1 1 (by omega),h1 2 (by omega),h1 3 (by omega),h2⟩
 ·obtain⟨j,hj,rfl⟩:=List.getElem_of_mem hf
  obtain⟨k,o,ea,hk,hcc⟩:=hh (by intro e;simp[e] at hj)
  obtain⟨cs,⟨cv,-,-,h4⟩,-⟩:=hcc j hj
  exact h4
theorem lists_sz {c:Value}(h:DataW.trod enc Tryz.prog W 0 (fun _=>true) true n 31 [c]=some x)(hx:Szd x.1 31):∃ l,LA W c l∧l.length≤5864062014634∧∀ z∈l,z.length≤17592186043904:=by
 obtain⟨l,hl,a,cp,e,hh⟩:=rows_sz underL32 cel31 byt31 (by omega) h hx ([]:List Int) (fun q cs=>∃ u,cs=[u]∧IA W u q∧q.length≤17592186043904) (fun n cs y hy hs=>by
  obtain⟨u,rfl⟩:∃ u,cs=[u]:=by
   rcases Deep.open_slice under64 hy with⟨hcs,-⟩|⟨a,len,cap,m,k,D,Pl,hcs,-⟩<;>exact⟨_,hcs⟩
  obtain⟨q,h1,h2⟩:=ints_sz hy hs
  exact⟨q,u,rfl,h1,h2⟩)
 have hr:=reach_is
 refine⟨l,⟨a,cp,e,fun hne=>?_⟩,by omega,fun z hz=>?_⟩
 ·obtain⟨k,o,ea,hk,hc⟩:=hh hne
  refine⟨k,o,ea,hk,fun j hj=>?_⟩
  obtain⟨cs,⟨u,rfl,h2,-⟩,h1⟩:=hc j hj
  have:=h1 0 (by omega)
  rw[Nat.mul_one,Nat.add_zero] at this
  exact⟨u,this,h2⟩
 ·obtain⟨j,hj,rfl⟩:=List.getElem_of_mem hz
  obtain⟨k,o,ea,hk,hcc⟩:=hh (by intro e;simp[e] at hj)
  obtain⟨cs,⟨u,-,-,h4⟩,-⟩:=hcc j hj
  exact h4
def IsSz (W:World)(s:PS)(cs:List Value):Prop:=∃ hv rv,cs=[hv,rv]∧IA W hv s.H∧LA W rv s.R∧s.H.length≤17592186043904∧s.R.length≤5864062014634∧∀ l∈s.R,l.length≤17592186043904
theorem sum_sz {cs:List Value}(h:DataW.trod enc Tryz.prog W 0 (fun _=>true) true n 33 cs=some x)(hx:Szd x.1 33):∃ s:PS,IsSz W s cs:=by
 obtain⟨xs,k,-,rfl,hcl,hxl,hf⟩:=DataW.trod_struct und34 h
 rw[cel34] at hcl
 have hxl:xs.length=2:=hxl
 obtain⟨c0,r0,rfl,hl1⟩:=len_cons hcl
 obtain⟨c1,r1,rfl,hl2⟩:=len_cons hl1
 obtain rfl:=List.length_eq_zero_iff.1 hl2
 have g0 := hf 0 (fld "Heap" 30 0 0) rfl
 have g1 := hf 1 (fld "Result" 31 1 24) rfl
 have ee:∀ i (hi:i<2),xs[i]?=some (xs[i]'(by omega)):=fun i hi=>List.getElem?_eq_getElem (by omega)
 rw[ee 0 (by omega)] at g0
 rw[ee 1 (by omega)] at g1
 simp only[fld,cel31,cel32,List.drop_zero,List.drop_succ_cons,List.take_succ_cons,List.take_zero] at g0 g1
 have bb : ∀ i (hi : i < 2) u, (#[fld "Heap" 30 0 0, fld "Result" 31 1 24].toList.map (·.type))[i]? = some u → Szd (xs[i]'(by omega)).1 u := fun i hi u hu q hq => by
  apply hx
  simp only[DataW.weights,und34]
  exact DataW.weights_mem_each (j:=i) (t:=u) (d:=(xs[i]'(by omega)).1) hu (by rw[List.getElem?_map,ee i hi];rfl) q hq
 obtain⟨la,hA,hla⟩:=ints_sz g0 (bb 0 (by omega) 30 rfl)
 obtain⟨lr,hR,hlr,hlz⟩:=lists_sz g1 (bb 1 (by omega) 31 rfl)
 exact⟨⟨la,lr⟩,c0,c1,rfl,hA,hR,hla,hlr,hlz⟩
theorem sums_sz {c:Value}(h:DataW.trod enc Tryz.prog W 0 (fun _=>true) true n 25 [c]=some x)(hx:Szd x.1 25):∃ l,SsA W c l∧FineS l:=by
 obtain⟨l,hl,a,cp,e,hh⟩:=rows_sz under25 cel34 byt34 (by omega) h hx (⟨[],[]⟩:PS) (IsSz W) (fun n cs y hy hs=>sum_sz hy hs)
 have hr:=reach_is
 refine⟨l,⟨a,cp,e,fun hne=>?_⟩,by omega,fun s hs=>?_⟩
 ·obtain⟨k,o,ea,hk,hc⟩:=hh hne
  refine⟨k,o,ea,hk,fun j hj=>?_⟩
  obtain⟨cs,⟨hv,rv,rfl,h2,h3,-⟩,h1⟩:=hc j hj
  exact⟨hv,rv,h1 0 (by omega),h1 1 (by omega),h2,h3⟩
 ·obtain⟨j,hj,rfl⟩:=List.getElem_of_mem hs
  obtain⟨k,o,ea,hk,hcc⟩:=hh (by intro e;simp[e] at hj)
  obtain⟨cs,⟨hv,rv,-,-,-,h4⟩,-⟩:=hcc j hj
  exact h4
theorem prog_sz {cs:List Value}(h:DataW.trod enc Tryz.prog W 0 (fun _=>true) true n 24 cs=some x)(hx:Szd x.1 24):∃ (G:Int) (fv:Value) (fs:List PF),cs=[vI G,fv]∧FA W fv fs∧FineP fs:=by
 obtain⟨xs,k,-,rfl,hcl,hxl,hf⟩:=DataW.trod_struct und24 h
 rw[cel24] at hcl
 have hxl:xs.length=2:=hxl
 obtain⟨c0,r0,rfl,hl1⟩:=len_cons hcl
 obtain⟨c1,r1,rfl,hl2⟩:=len_cons hl1
 obtain rfl:=List.length_eq_zero_iff.1 hl2
 have g0 := hf 0 (fld "Globals" 3 0 0) rfl
 have g1 := hf 1 (fld "Funcs" 22 1 8) rfl
 have ee:∀ i (hi:i<2),xs[i]?=some (xs[i]'(by omega)):=fun i hi=>List.getElem?_eq_getElem (by omega)
 rw[ee 0 (by omega)] at g0
 rw[ee 1 (by omega)] at g1
 simp only[fld,cel3,cel22,List.drop_zero,List.drop_succ_cons,List.take_succ_cons,List.take_zero] at g0 g1
 obtain⟨z0,rfl⟩:=int_of g0
 have bb:Szd (xs[1]'(by omega)).1 22:=fun q hq=>by
  apply hx
  simp only[DataW.weights,und24]
  exact DataW.weights_mem_each (j:=1) (t:=22) (d:=(xs[1]'(by omega)).1) rfl (by rw[List.getElem?_map,ee 1 (by omega)];rfl) q hq
 obtain⟨fs,hF,hP⟩:=funcs_sz g1 bb
 exact⟨z0,c1,fs,rfl,hF,hP⟩
end
end Go.Proofs.YtdkijecnnmncnaaGreatDoor
namespace Go.Proofs.YtdkijecnnmncnaaGreatDoor
open Go.RowKit (wrap32 wrap64)
set_option maxRecDepth 100000
set_option maxHeartbeats 4000000
theorem weight_any (d:Int)(w:World):Calls Tryz.prog 132 #[vI d] w fun e w'=>e = .returned (.bool (derOk d))∧w'=w:=by
 go_enter Tryz.func132,Tryz.ntmps132
 by_cases h9:d=9
 ·have e1:(d==9)=true:=by simp[h9]
  have HD:Hd (derOk d=true):=by unfold Hd derOk;simp[h9]
  have f1:decide (d≥0)=true:=by simp;omega
  have f2:decide (0≤d)=true:=by simp;omega
  have f3:decide (d≤3)=false:=by simp;omega
  clear h9
  go_wp2_with fail
  go_ret
  exact⟨by rw[HD.out];rfl,rfl⟩
 ·have e1:(d==9)=false:=by simp[h9]
  by_cases h0:0≤d
  ·have f1:decide (d≥0)=true:=by simp;omega
   have f2:decide (0≤d)=true:=by simp;omega
   by_cases h3:d≤3
   ·have f3:decide (d≤3)=true:=by simp;omega
    have HD:Hd (derOk d=true):=by unfold Hd derOk;simp[h0,h3]
    go_wp2_with fail
    go_ret
    exact⟨by rw[HD.out];rfl,rfl⟩
   ·have f3:decide (d≤3)=false:=by simp;omega
    have HD:Hd (derOk d=false):=by unfold Hd derOk;simp[h9];omega
    go_wp2_with fail
    go_ret
    exact⟨by rw[HD.out];rfl,rfl⟩
  ·have f1:decide (d≥0)=false:=by simp;omega
   have f2:decide (0≤d)=false:=by simp;omega
   have HD:Hd (derOk d=false):=by unfold Hd derOk;simp[h9];omega
   go_wp2_with fail
   go_ret
   exact⟨by rw[HD.out];rfl,rfl⟩
theorem measW {i n:Nat}(h:i<n):n-((i:Int)+1).toNat<n-(i:Int).toNat:=by omega
theorem castW (i:Nat):Value.int .i64 ((i:Int)+1)=Value.int .i64 ((i+1:Nat):Int):=by simp
theorem rright_any (hv rv:Value)(s:PS)(P R V:Int)(ca:Option Addr)(cn cc:Nat)(w:World)(h1:IA w hv s.H)(h2:LA w rv s.R)(b1:s.H.length≤17592186043904)(b2:s.R.length≤17592186043904)(b3:∀ l∈s.R,l.length≤17592186043904) :
 Calls Tryz.prog 97 #[.agg #[vI P,vI R,vI V,.slice ca cn cc],.agg #[hv,rv]] w fun e w'=>e = .returned (.bool (fitsX s P R))∧Fr (fun _=>False) w w':=by
 obtain⟨W,hW⟩:∃ W,W=(w.alloc (.cells #[vI P,vI R,vI V,.slice ca cn cc] 45)).alloc (.cells #[hv,rv] 33):=⟨_,rfl⟩
 have HW:Hd (W=(w.alloc (.cells #[vI P,vI R,vI V,.slice ca cn cc] 45)).alloc (.cells #[hv,rv] 33)):=hW
 have hF:Fr (fun _=>False) w W:=by rw[hW];exact Fr.alloc (Fr.alloc (Fr.refl _ w) _) _
 have k1:W.heap[w.heap.size]?=some (.cells #[vI P,vI R,vI V,.slice ca cn cc] 45):=by
  rw[hW,Go.RowKit.Below.heap_alloc _ _ _ (by simp)];exact heap_new w _
 have k2:W.heap[w.heap.size+1]?=some (.cells #[hv,rv] 33):=by
  have:=heap_new (w.alloc (.cells #[vI P,vI R,vI V,.slice ca cn cc] 45)) (.cells #[hv,rv] 33)
  rw[World.size_alloc] at this
  rw[hW];exact this
 obtain⟨X,hX⟩:∃ X,X=w.heap.size:=⟨_,rfl⟩
 have HX:Hd (X=w.heap.size):=hX
 rw[← hX] at k1 k2
 have H1:Hd (IA W hv s.H):=h1.stay hF
 have H2:Hd (LA W rv s.R):=h2.stay hF
 have HF:Hd (Fr (fun _=>False) w W):=hF
 have HB3:Hd (∀ l∈s.R,l.length≤17592186043904):=b3
 obtain⟨ha,hc,ehv,-⟩:=h1
 obtain⟨la,lc,erv,-⟩:=h2
 subst ehv erv
 have HC:Hd (∀ wr,Fr (fun _=>False) W wr→wr.cell? ⟨X,0,none⟩=some (vI P)∧wr.cell? ⟨X,1,none⟩=some (vI R)∧wr.cell? ⟨X+1,0,none⟩=some (.slice ha s.H.length hc)∧wr.cell? ⟨X+1,1,none⟩=some (.slice la s.R.length lc)):=fun wr f=>by
  have e1:=(f.block _ (heap_lt k1) (fun h=>h)).trans k1
  have e2:=(f.block _ (heap_lt k2) (fun h=>h)).trans k2
  exact⟨by rw[cell_of e1];rfl,by rw[cell_of e1];rfl,by rw[cell_of e2];rfl,by rw[cell_of e2];rfl⟩
 clear hW hF k1 k2 hX b3
 obtain⟨c0,c1,d0,d1⟩:=HC.out W (Fr.refl _ _)
 go_enter Tryz.func97,Tryz.ntmps97
 go_upto_region 1 with fail
 rw[← HW.out,← HX.out]
 clear HW HX
 by_cases hn:(s.H.length:Int)=P
 ·have hd1:((s.H.length:Int) != P)=false:=by simp[hn]
  by_cases hm:(s.R.length:Int)=P
  ·have hd2:((s.R.length:Int) != P)=false:=by simp[hm]
   have HFX:Hd (fitsX s P R=(s.H.all derOk&&s.R.all (fun l=>dersX l R))):=by unfold Hd fitsX dersX;rw[decide_eq_true hm,decide_eq_true hn];rfl
   obtain⟨n,en⟩:∃ n,n=s.H.length:=⟨_,rfl⟩
   have HN:Hd (n=s.H.length∧n=s.R.length∧(n:Int)=P):=⟨en,by omega,by omega⟩
   have eP:P=(n:Int):=by omega
   subst eP
   clear hn hm en
   go_wp2_with fail
   clear hd1 hd2 c0 c1 d0 d1
   go_loopw [5] (fun v wr=>∃ (k:Nat),v = .int .i64 k∧k≤n∧Hd (Fr (fun _=>False) W wr)∧Hd ((s.H.take k).all derOk=true∧(s.R.take k).all (fun l=>dersX l R)=true)) (fun v _=>match v with | .int _ q=>n-q.toNat | _=>0)
   case atStart=>exact⟨0,rfl,by omega,Fr.refl _ _,⟨rfl,rfl⟩⟩
   case round =>
    obtain⟨k,rfl,hk,HFr,HA⟩:=hrel
    obtain⟨c0,c1,d0,d1⟩:=HC.out wr HFr.out
    by_cases hlt:k<n
    ·have hkH:k<s.H.length:=by have:=HN.out;omega
     have hkR:k<s.R.length:=by have:=HN.out;omega
     obtain⟨a',c',e',hhs⟩:=H1.out
     cases e'
     obtain⟨hg,ho,rfl,hhg,hhs⟩:=hhs (by intro e;rw[e] at hkH;simp at hkH)
     obtain⟨a',c',e',hls⟩:=H2.out
     cases e'
     obtain⟨lg,lo,rfl,hlg,hls⟩:=hls (by intro e;rw[e] at hkR;simp at hkR)
     obtain⟨x,hx1,hx2⟩:=hls k hkR
     have q0:=(HFr.out.cell hhg (fun h=>h)).trans (hhs k hkH)
     have q1:=(HFr.out.cell hlg (fun h=>h)).trans hx1
     have HIX:Hd (IA W x s.R[k]):=hx2
     have HX1:Hd (W.cell? ⟨lg,lo+k,none⟩=some x∧lg<W.heap.size):=⟨hx1,hlg⟩
     have hll:=HB3.out s.R[k] (List.getElem_mem hkR)
     have HS1:=all_take_succ s.H derOk k hkH
     have HS2:=all_take_succ s.R (fun l=>dersX l R) k hkR
     have HB1:Hd (derOk s.H[k]=false→fitsX s n R=false):=fun e=>by rw[HFX.out,all_bad hkH e];rfl
     have HB2:Hd (dersX s.R[k] R=false→fitsX s n R=false):=fun e=>by rw[HFX.out,all_bad (p:=fun l=>dersX l R) hkR e];simp
     obtain⟨xa,xc,ex,-⟩:=hx2
     have hk0:(0:Int)≤k:=by omega
     have hk1:(k:Int)<s.H.length:=by omega
     have hk2:(k:Int)<s.R.length:=by omega
     have hk3:(k:Int)<n:=by omega
     clear hhs hls hx1
     generalize s.H[k]=d at *
     generalize s.R[k]=l at *
     subst ex
     go_upto_region 6 with fail
     cases hb:derOk d with
     | false =>
       have HWT:Hd (∀ w',Calls Tryz.prog 132 #[vI d] w' fun e w2=>e = .returned (.bool false)∧w2=w'):=fun w'=>by have:=weight_any d w';rw[hb] at this;exact this
       have HR:=HB1.out hb
       have HR:Hd (fitsX s n R=false):=HR
       clear HS1 HS2 HB1 HB2 hb
       go_quiet ((go_at_call 132;refine Calls.quiet_of_same (HWT.out _)))
       all_goals
        go_wp2_with fail
        go_ret
        exact⟨by rw[HR.out];rfl,HF.out.trans ⟨HFr.out.os,HFr.out.tape,HFr.out.output,HFr.out.size,HFr.out.block⟩⟩
     | true =>
       have HWT:Hd (∀ w',Calls Tryz.prog 132 #[vI d] w' fun e w2=>e = .returned (.bool true)∧w2=w'):=fun w'=>by have:=weight_any d w';rw[hb] at this;exact this
       have HS1':Hd ((s.H.take (k+1)).all derOk=true):=by unfold Hd;rw[HS1,HA.out.1,hb];rfl
       clear HS1 HB1 hb
       by_cases hlR:(l.length:Int)=R
       ·have f1:((l.length:Int) != R)=false:=by simp[hlR]
        obtain⟨m,em⟩:∃ m,m=l.length:=⟨_,rfl⟩
        have HM:Hd (m=l.length∧(m:Int)=R):=⟨em,by omega⟩
        have eR:R=(m:Int):=by omega
        subst eR
        have HDX:Hd (dersX l (m:Int)=l.all derOk):=by unfold Hd dersX;rw[decide_eq_true (by rw[HM.out.1])];rfl
        clear em hlR
        go_quiet ((go_at_call 132;refine Calls.quiet_of_same (HWT.out _)))
        go_wp2_with fail
        clear f1 c0 c1 d0 d1 q0 q1
        go_loopw [6] (fun v wq=>∃ (j:Nat),v = .int .i64 j∧j≤m∧Hd (Fr (fun _=>False) W wq)∧Hd ((l.take j).all derOk=true)) (fun v _=>match v with | .int _ q=>m-q.toNat | _=>0)
        case atStart=>exact⟨0,rfl,by omega,⟨HFr.out.os,HFr.out.tape,HFr.out.output,HFr.out.size,HFr.out.block⟩,rfl⟩
        case round =>
         obtain⟨j,rfl,hj,HFq,HAj⟩:=hrel
         obtain⟨c0,c1,d0,d1⟩:=HC.out wr HFq.out
         have q1:=(HFq.out.cell HX1.out.2 (fun h=>h)).trans HX1.out.1
         by_cases hjm:j<m
         ·have hjl:j<l.length:=by have:=HM.out.1;omega
          obtain⟨a',c',e',hxs⟩:=HIX.out
          cases e'
          obtain⟨xg,xo,rfl,hxg,hxs⟩:=hxs (by intro e;rw[e] at hjl;simp at hjl)
          have q2:=(HFq.out.cell hxg (fun h=>h)).trans (hxs j hjl)
          have HT1:=all_take_succ l derOk j hjl
          have HT2:Hd (derOk l[j]=false→l.all derOk=false):=fun e=>all_bad hjl e
          have hj0:(0:Int)≤j:=by omega
          have hj1:(j:Int)<l.length:=by omega
          have hj2:(j:Int)<m:=by omega
          clear hxs
          generalize l[j]=d2 at *
          cases hb2:derOk d2 with
          | false =>
            have HW2:Hd (∀ w',Calls Tryz.prog 132 #[vI d2] w' fun e w2=>e = .returned (.bool false)∧w2=w'):=fun w'=>by have:=weight_any d2 w';rw[hb2] at this;exact this
            have HR:=HB2.out (by rw[HDX.out];exact HT2.out hb2)
            have HR:Hd (fitsX s n (m:Int)=false):=HR
            clear HT1 HT2 hb2 HS2 HB2
            go_wp2_with fail
            refine(HW2.out _).mono ?_
            rintro _ wx ⟨rfl,rfl⟩
            go_wp2_with fail
            go_ret
            exact⟨by rw[HR.out];rfl,HF.out.trans HFq.out⟩
          | true =>
            have HW2:Hd (∀ w',Calls Tryz.prog 132 #[vI d2] w' fun e w2=>e = .returned (.bool true)∧w2=w'):=fun w'=>by have:=weight_any d2 w';rw[hb2] at this;exact this
            have HT3:Hd ((l.take (j+1)).all derOk=true):=by unfold Hd;rw[HT1,HAj.out,hb2];rfl
            clear HT1 HT2 hb2 HS2 HB2
            go_wp2_with fail
            refine(HW2.out _).mono ?_
            rintro _ wx ⟨rfl,rfl⟩
            go_wp2_with fail
            exact⟨⟨j+1,castW j,hjm,HFq,HT3⟩,measW hjm⟩
         ·have hdj:decide ((j:Int)<m)=false:=by simp;omega
          have HL:Hd (l.all derOk=true):=by
           have h:=HAj.out
           rw[List.take_of_length_le (by have:=HM.out.1;omega)] at h
           exact h
          have HS3:Hd ((s.R.take (k+1)).all (fun l=>dersX l (m:Int))=true):=by unfold Hd;rw[HS2,HA.out.2,HDX.out,HL.out];rfl
          clear HS2 HB2
          go_wp2_with fail
          exact⟨⟨k+1,castW k,hlt,HFq,⟨HS1'.out,HS3.out⟩⟩,measW hlt⟩
       ·have f1:((l.length:Int) != R)=true:=by simp[hlR]
        have HR:=HB2.out (by unfold dersX;rw[decide_eq_false hlR];rfl)
        have HR:Hd (fitsX s n R=false):=HR
        clear HS2 HB2
        go_quiet ((go_at_call 132;refine Calls.quiet_of_same (HWT.out _)))
        all_goals
         go_wp2_with fail
         go_ret
         exact⟨by rw[HR.out];rfl,HF.out.trans ⟨HFr.out.os,HFr.out.tape,HFr.out.output,HFr.out.size,HFr.out.block⟩⟩
    ·have hdk:decide ((k:Int)<n)=false:=by simp;omega
     have HH:Hd (s.H.all derOk=true∧s.R.all (fun l=>dersX l R)=true):=by
      have h:=HA.out
      rw[List.take_of_length_le (by have:=HN.out;omega),List.take_of_length_le (by have:=HN.out;omega)] at h
      exact h
     go_wp2_with fail
     go_ret
     exact⟨by rw[HFX.out,HH.out.1,HH.out.2];rfl,HF.out.trans HFr.out⟩
  ·have hd2:((s.R.length:Int) != P)=true:=by simp[hm]
   have HFX:Hd (fitsX s P R=false):=by unfold Hd fitsX;rw[decide_eq_false hm];rfl
   go_wp2_with fail
   go_ret
   exact⟨by rw[HFX.out];rfl,HF.out⟩
 ·have hd1:((s.H.length:Int) != P)=true:=by simp[hn]
  have HFX:Hd (fitsX s P R=false):=by unfold Hd fitsX dersX;rw[decide_eq_false hn];simp
  go_wp2_with fail
  go_ret
  exact⟨by rw[HFX.out];rfl,HF.out⟩
set_option maxRecDepth 100000
set_option maxHeartbeats 2000000
def SmC (N:Nat)(cs:List PI):Prop:=cs.length≤N∧∀ c∈cs,c.args.length≤N∧c.rets.length≤N
theorem SmC.mono {a b:Nat}{cs:List PI}(h:SmC a cs)(hab:a≤b):SmC b cs:=⟨Nat.le_trans h.1 hab,fun c hc=>⟨Nat.le_trans (h.2 c hc).1 hab,Nat.le_trans (h.2 c hc).2 hab⟩⟩
theorem Fr.drewN {S:Nat→Prop}{a w:World}(h:Fr S a w)(n:Nat):Fr S a (w.drewN n):=⟨h.os,h.tape,h.output,h.size,h.block⟩
theorem long1_any (n:Nat)(w:World):Calls Tryz.prog 38 #[vI n] w fun e w'=>e = .returned (.bool (decide (2147483647<n)))∧w'=w:=by
 go_enter Tryz.func38,Tryz.ntmps38
 go_wp2
 go_ret
 refine⟨?_,rfl⟩
 congr 2
 simp
 omega
theorem long_any (G:Int)(fv:Value)(fs:List PF)(w:World)(h:FA w fv fs)(hn:FineP fs) :
 Calls Tryz.prog 8 #[.agg #[vI G,fv]] w fun e w'=>∃ b,e = .returned (.bool b)∧Fr (fun _=>False) w w'∧(b=false→fs.length≤2147483647∧∀ f∈fs,SmC 2147483647 f.code):=by
 obtain⟨a1,b1,e1,h0⟩:=h
 have H0:Hd (fs≠[]→_):=h0
 have HFI:Hd (FineP fs):=hn
 have hfl:fs.length≤2932031007317:=hn.1
 obtain⟨wa,hwa⟩:∃ wa,wa=w.alloc (.cells #[vI G,fv] 24):=⟨_,rfl⟩
 have hF:Fr (fun _=>False) w wa:=by rw[hwa];exact Fr.alloc (Fr.refl _ w) _
 have b1':wa.heap[w.heap.size]?=some (.cells #[vI G,fv] 24):=by rw[hwa];exact heap_new w _
 have HWA:Hd (wa=w.alloc (.cells #[vI G,fv] 24)):=hwa
 have HF:Hd (Fr (fun _=>False) w wa):=hF
 obtain⟨H,hH⟩:∃ H,H=w.heap.size:=⟨_,rfl⟩
 have HH:Hd (H=w.heap.size):=hH
 rw[← hH] at b1'
 have B1:Hd (wa.heap[H]?=some (.cells #[vI G,fv] 24)):=b1'
 have c1:wa.cell? ⟨H,1,none⟩=some fv:=by rw[cell_of0 b1'];rfl
 subst e1
 clear hF hwa hH b1' h0 hn
 go_enter Tryz.func8,Tryz.ntmps8
 go_upto_region 1 with fail
 rw[← HWA.out,← HH.out]
 clear HWA
 go_wp2_with fail
 clear c1
 go_loopw [3,4] (fun nv v wr=>∃ (n k:Nat),nv = .int .i64 n∧v = .int .i64 k∧k≤fs.length∧n≤40000000000000∧Hd (fs.length≤n)∧Hd (2147483647<n∨∀ f∈fs.take k,SmC n f.code)∧Hd (Fr (fun _=>False) wa wr)) (fun _ v _=>match v with | .int _ q=>fs.length-q.toNat | _=>0)
 case atStart=>exact⟨fs.length,0,rfl,rfl,Nat.zero_le _,by omega,Nat.le_refl _,Or.inr (fun f hf=>by simp at hf),Fr.refl _ _⟩
 case round =>
  obtain⟨n,k,rfl,rfl,hk,hnn,HFN,HS,HFr⟩:=hrel
  have c1:wr.cell? ⟨H,1,none⟩=some (.slice a1 fs.length b1):=by rw[HFr.out.cell (heap_lt B1.out) (fun e=>e),cell_of B1.out];rfl
  by_cases hlt:k<fs.length
  ·by_cases hL:n≤2147483647
   ·have hdL:decide (2147483647<n)=false:=by simp;omega
    have hk0:(0:Int)≤k:=by omega
    have hk1:(k:Int)<fs.length:=by omega
    obtain⟨fk,fo,rfl,hfk,hcells⟩:=H0.out (by intro e;simp[e] at hlt)
    obtain⟨cv,f0,f1,f2,f3,hcv⟩:=hcells k hlt
    have hC:FineC fs[k].code:=HFI.out.2 _ (List.getElem_mem hlt)
    have HT:Hd (fs.take (k+1)=fs.take k++[fs[k]]):=by unfold Hd;rw[List.take_add_one,List.getElem?_eq_getElem hlt];rfl
    have HS2:Hd (∀ f∈fs.take k,SmC n f.code):=by
     rcases HS.out with h | h
     ·omega
     ·exact h
    have q3:=((HF.out.trans HFr.out).cell (o:=fo+k*4+3) hfk (fun e=>e)).trans f3
    generalize fs[k]=f at *
    obtain⟨ca,cc,rfl,hcc⟩:=hcv
    have HCC:Hd (f.code≠[]→_):=hcc
    have HFC:Hd (FineC f.code):=hC
    have hcl:f.code.length≤1599289640354:=hC.1
    have HFO:Hd (∀ wx,Fr (fun _=>False) wa wx→wx.cell? ⟨fk,fo+k*4+3,none⟩=some (.slice ca f.code.length cc)):=fun wx hx=>((HF.out.trans hx).cell (o:=fo+k*4+3) hfk (fun e=>e)).trans f3
    clear hcells f0 f1 f2 f3 hcc hC
    go_wp2_with ((refine(show Calls Tryz.prog 38 #[vI (n:Int)] _ _ from long1_any n _).mono ?_;rintro e wl ⟨rfl,rfl⟩))
    clear q3 c1
    obtain⟨n0,hn0⟩:∃ n0,n0=n:=⟨_,rfl⟩
    have HN0:Hd (n0=n):=hn0
    clear hn0
    go_loopw [3,5] (fun nv v wr=>∃ (m j:Nat),nv = .int .i64 m∧v = .int .i64 j∧j≤f.code.length∧m≤40000000000000∧Hd (n≤m∧f.code.length≤m)∧Hd (2147483647<m∨∀ c∈f.code.take j,c.args.length≤m∧c.rets.length≤m)∧Hd (Fr (fun _=>False) wa wr)) (fun _ v _=>match v with | .int _ q=>f.code.length-q.toNat | _=>0)
    case atStart=>exact⟨n+f.code.length,0,by simp,rfl,Nat.zero_le _,by omega,⟨by omega,by omega⟩,Or.inr (fun c hc=>by simp at hc),HFr.out⟩
    case round =>
     clear HFr
     obtain⟨m,j,rfl,rfl,hj,hm,HM,HS3,HFr⟩:=hrel
     have c1:wr.cell? ⟨H,1,none⟩=some (.slice (some ⟨fk,fo,none⟩) fs.length b1):=by rw[HFr.out.cell (heap_lt B1.out) (fun e=>e),cell_of B1.out];rfl
     have q3:=HFO.out wr HFr.out
     have HFN2:Hd (fs.length≤m):=by have:=HFN.out;have:=HM.out.1;unfold Hd;omega
     by_cases hltj:j<f.code.length
     ·by_cases hLm:m≤2147483647
      ·have hdm:decide (2147483647<m)=false:=by simp;omega
       have hj0:(0:Int)≤j:=by omega
       have hj1:(j:Int)<f.code.length:=by omega
       obtain⟨ck,co,rfl,hck,hcs⟩:=HCC.out (by intro e;simp[e] at hltj)
       obtain⟨av,rv,-,-,-,-,-,p5,p6,ia,ir⟩:=hcs j hltj
       have p5:=((HF.out.trans HFr.out).cell (o:=co+j*7+5) hck (fun e=>e)).trans p5
       have p6:=((HF.out.trans HFr.out).cell (o:=co+j*7+6) hck (fun e=>e)).trans p6
       have hb:=HFC.out.2 _ (List.getElem_mem hltj)
       have HTj:Hd (f.code.take (j+1)=f.code.take j++[f.code[j]]):=by unfold Hd;rw[List.take_add_one,List.getElem?_eq_getElem hltj];rfl
       have HS4:Hd (∀ c∈f.code.take j,c.args.length≤m∧c.rets.length≤m):=by
        rcases HS3.out with h | h
        ·omega
        ·exact h
       generalize f.code[j]=c at *
       obtain⟨aa,ac,rfl,-⟩:=ia
       obtain⟨ra,rc,rfl,-⟩:=ir
       have HM2:Hd (n≤m+c.args.length+c.rets.length∧f.code.length≤m+c.args.length+c.rets.length):=by have:=HM.out;unfold Hd;omega
       have HS5:Hd (2147483647<m+c.args.length+c.rets.length∨∀ x∈f.code.take (j+1),x.args.length≤m+c.args.length+c.rets.length∧x.rets.length≤m+c.args.length+c.rets.length):=by
        right
        intro x hx
        rw[HTj.out] at hx
        rcases List.mem_append.1 hx with hx | hx
        ·have:=HS4.out x hx;omega
        ·simp at hx;subst hx;omega
       have hb1:c.args.length≤17592186043904:=hb.1
       have hb2:c.rets.length≤17592186043904:=hb.2
       clear hcs hb HM HS3 HS4
       go_wp2_with ((refine(show Calls Tryz.prog 38 #[vI (m:Int)] _ _ from long1_any m _).mono ?_;rintro e wl ⟨rfl,rfl⟩))
       go_quiet (fail)
       go_wp2_with fail
       exact⟨⟨m+c.args.length+c.rets.length,j+1,by simp,by simp,by omega,by omega,HM2.out,HS5.out,HFr.out.drewN _⟩,by simp;omega⟩
      ·have hdm:decide (2147483647<m)=true:=by simp;omega
       go_wp2_with ((refine(show Calls Tryz.prog 38 #[vI (m:Int)] _ _ from long1_any m _).mono ?_;rintro e wl ⟨rfl,rfl⟩))
       exact⟨⟨m,k+1,rfl,by simp,by omega,hm,HFN2.out,Or.inl (by omega),HFr.out⟩,by simp;omega⟩
     ·have HS5:Hd (2147483647<m∨∀ x∈fs.take (k+1),SmC m x.code):=by
       rcases HS3.out with h | h
       ·exact Or.inl h
       ·right
        intro x hx
        rw[HT.out] at hx
        rcases List.mem_append.1 hx with hx | hx
        ·exact(HS2.out x hx).mono HM.out.1
        ·simp at hx;subst hx
         exact⟨HM.out.2,fun c hc=>h c (by rw[List.take_of_length_le (by omega)];exact hc)⟩
      have hdj:decide ((j:Int)<f.code.length)=false:=by simp;omega
      go_wp2_with fail
      exact⟨⟨m,k+1,rfl,by simp,by omega,hm,HFN2.out,HS5.out,HFr.out⟩,by simp;omega⟩
   ·have hdL:decide (2147483647<n)=true:=by simp;omega
    go_wp2_with ((refine(show Calls Tryz.prog 38 #[vI (n:Int)] _ _ from long1_any n _).mono ?_;rintro e wl ⟨rfl,rfl⟩))
    go_ret
    exact⟨_,rfl,HF.out.trans HFr.out,fun e=>by simp at e⟩
  ·have HE:Hd (decide (2147483647<n)=false→fs.length≤2147483647∧∀ f∈fs,SmC 2147483647 f.code):=fun e=>by
    have hn':n≤2147483647:=by simpa using e
    refine⟨Nat.le_trans HFN.out hn',fun f hf=>?_⟩
    rcases HS.out with h | h
    ·omega
    ·rw[List.take_of_length_le (by omega)] at h
     exact(h f hf).mono hn'
   go_wp2_with ((refine(show Calls Tryz.prog 38 #[vI (n:Int)] _ _ from long1_any n _).mono ?_;rintro e wl ⟨rfl,rfl⟩))
   go_ret
   exact⟨_,rfl,HF.out.trans HFr.out,HE.out⟩
def SmS (N:Nat)(s:PS):Prop:=s.H.length≤N∧s.R.length≤N∧∀ l∈s.R,l.length≤N
theorem SmS.mono {a b:Nat}{s:PS}(h:SmS a s)(hab:a≤b):SmS b s:=⟨Nat.le_trans h.1 hab,Nat.le_trans h.2.1 hab,fun l hl=>Nat.le_trans (h.2.2 l hl) hab⟩
theorem longSums_any (sv:Value)(ss:List PS)(w:World)(h:SsA w sv ss)(hn:FineS ss) :
 Calls Tryz.prog 9 #[sv] w fun e w'=>∃ b,e = .returned (.bool b)∧Fr (fun _=>False) w w'∧(b=false→ss.length≤2147483647∧∀ s∈ss,SmS 2147483647 s):=by
 obtain⟨a1,b1,rfl,h0⟩:=h
 have H0:Hd (ss≠[]→_):=h0
 have HFI:Hd (FineS ss):=hn
 have hfl:ss.length≤2932031007317:=hn.1
 clear h0 hn
 go_enter Tryz.func9,Tryz.ntmps9
 go_wp2_with fail
 go_loopw [3,4] (fun nv v wr=>∃ (n k:Nat),nv = .int .i64 n∧v = .int .i64 k∧k≤ss.length∧n≤40000000000000∧Hd (ss.length≤n)∧Hd (2147483647<n∨∀ s∈ss.take k,SmS n s)∧Hd (Fr (fun _=>False) w wr)) (fun _ v _=>match v with | .int _ q=>ss.length-q.toNat | _=>0)
 case atStart=>exact⟨ss.length,0,rfl,rfl,Nat.zero_le _,by omega,Nat.le_refl _,Or.inr (fun f hf=>by simp at hf),Fr.refl _ _⟩
 case round =>
  obtain⟨n,k,rfl,rfl,hk,hnn,HFN,HS,HFr⟩:=hrel
  by_cases hlt:k<ss.length
  ·by_cases hL:n≤2147483647
   ·have hdL:decide (2147483647<n)=false:=by simp;omega
    have hk0:(0:Int)≤k:=by omega
    have hk1:(k:Int)<ss.length:=by omega
    obtain⟨fk,fo,rfl,hfk,hcells⟩:=H0.out (by intro e;simp[e] at hlt)
    obtain⟨hv,rv,f0,f1,ih,il⟩:=hcells k hlt
    have hC:=HFI.out.2 _ (List.getElem_mem hlt)
    have HT:Hd (ss.take (k+1)=ss.take k++[ss[k]]):=by unfold Hd;rw[List.take_add_one,List.getElem?_eq_getElem hlt];rfl
    have HS2:Hd (∀ s∈ss.take k,SmS n s):=by
     rcases HS.out with h | h
     ·omega
     ·exact h
    generalize ss[k]=s at *
    obtain⟨ha,hc,rfl,-⟩:=ih
    obtain⟨ra,rc,rfl,hll⟩:=il
    have HLL:Hd (s.R≠[]→_):=hll
    have q0:=(HFr.out.cell (o:=fo+k*2) hfk (fun e=>e)).trans f0
    have q1:=(HFr.out.cell (o:=fo+k*2+1) hfk (fun e=>e)).trans f1
    have HFO:Hd (∀ wx,Fr (fun _=>False) w wx→wx.cell? ⟨fk,fo+k*2+1,none⟩=some (.slice ra s.R.length rc)):=fun wx hx=>(hx.cell (o:=fo+k*2+1) hfk (fun e=>e)).trans f1
    have hb1:s.H.length≤17592186043904:=hC.1
    have hb2:s.R.length≤5864062014634:=hC.2.1
    have HB3:Hd (∀ l∈s.R,l.length≤17592186043904):=hC.2.2
    clear hcells f0 f1 hll hC
    go_wp2_with ((refine(show Calls Tryz.prog 38 #[vI (n:Int)] _ _ from long1_any n _).mono ?_;rintro e wl ⟨rfl,rfl⟩))
    go_quiet (fail)
    go_wp2_with fail
    clear q0 q1
    go_loopw [3,5] (fun nv v wr=>∃ (m j:Nat),nv = .int .i64 m∧v = .int .i64 j∧j≤s.R.length∧m≤40000000000000∧Hd (n≤m∧s.H.length≤m∧s.R.length≤m)∧Hd (2147483647<m∨∀ l∈s.R.take j,l.length≤m)∧Hd (Fr (fun _=>False) w wr)) (fun _ v _=>match v with | .int _ q=>s.R.length-q.toNat | _=>0)
    case atStart=>exact⟨n+s.H.length+s.R.length,0,by simp,rfl,Nat.zero_le _,by omega,⟨by omega,by omega,by omega⟩,Or.inr (fun c hc=>by simp at hc),HFr.out.drewN _⟩
    case round =>
     clear HFr
     obtain⟨m,j,rfl,rfl,hj,hm,HM,HS3,HFr⟩:=hrel
     have q1:=HFO.out wr HFr.out
     have HFN2:Hd (ss.length≤m):=by have:=HFN.out;have:=HM.out.1;unfold Hd;omega
     by_cases hltj:j<s.R.length
     ·by_cases hLm:m≤2147483647
      ·have hdm:decide (2147483647<m)=false:=by simp;omega
       have hj0:(0:Int)≤j:=by omega
       have hj1:(j:Int)<s.R.length:=by omega
       obtain⟨ck,co,rfl,hck,hcs⟩:=HLL.out (by intro e;simp[e] at hltj)
       obtain⟨u,p0,ia⟩:=hcs j hltj
       have p0:=(HFr.out.cell (o:=co+j) hck (fun e=>e)).trans p0
       have hb:=HB3.out _ (List.getElem_mem hltj)
       have HTj:Hd (s.R.take (j+1)=s.R.take j++[s.R[j]]):=by unfold Hd;rw[List.take_add_one,List.getElem?_eq_getElem hltj];rfl
       have HS4:Hd (∀ l∈s.R.take j,l.length≤m):=by
        rcases HS3.out with h | h
        ·omega
        ·exact h
       generalize s.R[j]=c at *
       obtain⟨aa,ac,rfl,-⟩:=ia
       have HM2:Hd (n≤m+c.length∧s.H.length≤m+c.length∧s.R.length≤m+c.length):=by have:=HM.out;unfold Hd;omega
       have HS5:Hd (2147483647<m+c.length∨∀ x∈s.R.take (j+1),x.length≤m+c.length):=by
        right
        intro x hx
        rw[HTj.out] at hx
        rcases List.mem_append.1 hx with hx | hx
        ·have:=HS4.out x hx;omega
        ·simp at hx;subst hx;omega
       clear hcs HM HS3 HS4
       go_wp2_with ((refine(show Calls Tryz.prog 38 #[vI (m:Int)] _ _ from long1_any m _).mono ?_;rintro e wl ⟨rfl,rfl⟩))
       exact⟨⟨m+c.length,j+1,by simp,by simp,by omega,by omega,HM2.out,HS5.out,HFr.out⟩,by simp;omega⟩
      ·have hdm:decide (2147483647<m)=true:=by simp;omega
       go_wp2_with ((refine(show Calls Tryz.prog 38 #[vI (m:Int)] _ _ from long1_any m _).mono ?_;rintro e wl ⟨rfl,rfl⟩))
       exact⟨⟨m,k+1,rfl,by simp,by omega,hm,HFN2.out,Or.inl (by omega),HFr.out⟩,by simp;omega⟩
     ·have HS5:Hd (2147483647<m∨∀ x∈ss.take (k+1),SmS m x):=by
       rcases HS3.out with h | h
       ·exact Or.inl h
       ·right
        intro x hx
        rw[HT.out] at hx
        rcases List.mem_append.1 hx with hx | hx
        ·exact(HS2.out x hx).mono HM.out.1
        ·simp at hx;subst hx
         exact⟨HM.out.2.1,HM.out.2.2,fun c hc=>h c (by rw[List.take_of_length_le (by omega)];exact hc)⟩
      have hdj:decide ((j:Int)<s.R.length)=false:=by simp;omega
      go_wp2_with fail
      exact⟨⟨m,k+1,rfl,by simp,by omega,hm,HFN2.out,HS5.out,HFr.out⟩,by simp;omega⟩
   ·have hdL:decide (2147483647<n)=true:=by simp;omega
    go_wp2_with ((refine(show Calls Tryz.prog 38 #[vI (n:Int)] _ _ from long1_any n _).mono ?_;rintro e wl ⟨rfl,rfl⟩))
    go_ret
    exact⟨_,rfl,HFr.out,fun e=>by simp at e⟩
  ·have HE:Hd (decide (2147483647<n)=false→ss.length≤2147483647∧∀ s∈ss,SmS 2147483647 s):=fun e=>by
    have hn':n≤2147483647:=by simpa using e
    refine⟨Nat.le_trans HFN.out hn',fun f hf=>?_⟩
    rcases HS.out with h | h
    ·omega
    ·rw[List.take_of_length_le (by omega)] at h
     exact(h f hf).mono hn'
   go_wp2_with ((refine(show Calls Tryz.prog 38 #[vI (n:Int)] _ _ from long1_any n _).mono ?_;rintro e wl ⟨rfl,rfl⟩))
   go_ret
   exact⟨_,rfl,HFr.out,HE.out⟩
end Go.Proofs.YtdkijecnnmncnaaGreatDoor
