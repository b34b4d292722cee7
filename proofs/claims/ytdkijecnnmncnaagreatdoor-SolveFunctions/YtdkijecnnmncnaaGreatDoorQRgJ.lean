import Derived.Test.YtdkijecnnmncnaaGreatDoorQEdJ
import Derived.Test.YtdkijecnnmncnaaGreatDoorRows
import Derived.ProofKit
import Derived.OpenShut
import Derived.ChangeOld
import Derived.Below
import Derived.Carry
import Derived.Deep.Slices
import Derived.SizedLaws
import Derived.Test.YtdkijecnnmncnaaGreatDoorQA3J
import Derived.RangeFuncNested
import Derived.RangeFuncLeaves
import Derived.Test.YtdkijecnnmncnaaGreatDoorQN8J
import Derived.RangeFuncBox
import Derived.RangeFuncBound
import Derived.RangeFuncCalls
import Derived.Shelf.Abstract
import Derived.Shelf.RegionOpen
import Derived.OwnWalkIn
import Derived.TacticsInMore
import Derived.LoopNIn
import Derived.LoopIn
set_option linter.unusedVariables false
set_option linter.unusedSimpArgs false
namespace Go.Proofs.YtdkijecnnmncnaaGreatDoor
open Go.ChangeShapes Go.WideShapes Go.ChangeAt Go.RowKit
theorem addr_off (b off i:Nat):(⟨b,off,none⟩:Addr).add i=⟨b,off+i,none⟩:=by unfold Addr.add;split<;>simp_all
def fld (name : String) (type offset byteOffset : Nat) : Field := { name := name, type := type, offset := offset, embedded := false, tag := "", pkgPath := "", byteOffset := byteOffset }
theorem und3 : Tryz.prog.underlying 3=some (.int .i64):=by kernel_rfl
theorem und71 : Tryz.prog.underlying 79 = some (.struct #[fld "Op" 3 0 0, fld "R" 3 1 8, fld "S" 3 2 16, fld "T" 3 3 24, fld "N" 3 4 32, fld "Args" 30 5 40, fld "Rets" 30 6 64]) := by kernel_rfl
theorem und67 : Tryz.prog.underlying 45 = some (.struct #[fld "Params" 3 0 0, fld "Results" 3 1 8, fld "Vars" 3 2 16, fld "Code" 41 3 24]) := by kernel_rfl
theorem cel3 : Tryz.prog.cellsOf 3=1:=by kernel_rfl
theorem cel64 : Tryz.prog.cellsOf 30=1:=by kernel_rfl
theorem cel65 : Tryz.prog.cellsOf 41=1:=by kernel_rfl
theorem cel71 : Tryz.prog.cellsOf 79=7:=by kernel_rfl
theorem cel67 : Tryz.prog.cellsOf 45=4:=by kernel_rfl
theorem len_cons {n:Nat}:∀ {cs:List Value},cs.length=n+1→∃ c r,cs=c::r∧r.length=n
 | c::r,h=>⟨c,r,rfl,by simpa using h⟩
theorem int_of {H:Type}{enc:TypeId × Value→H}{W:World}{n:Nat}{c:Value}{x:DataW H × List MemPlace}(h:DataW.trod enc Tryz.prog W 0 (fun _=>true) true n 3 [c]=some x):∃ z:Int,c=vI z:=by
 obtain⟨z,e,-,-⟩:=DataW.trod_int und3 h
 exact⟨z,(List.cons.inj e).1⟩
theorem reach_is : reachBytes=140737488351232:=by decide
def Szd {H:Type}(d:DataW H)(t:Nat):Prop:=∀ q∈d.weights Tryz.prog t,q≤reachBytes
theorem weightsAll_mem {H:Type}{P:Program}{e:TypeId}{d:DataW H}{n:Nat}(hn:n∈d.weights P e):∀ {ds:List (DataW H)},d∈ds→n∈DataW.weightsAll P e ds
 | a::r,h=>by
   simp only[DataW.weightsAll,List.mem_append]
   rcases List.mem_cons.1 h with rfl | h
   ·exact Or.inl hn
   ·exact Or.inr (weightsAll_mem hn h)
theorem rows_sz {H:Type}{enc:TypeId × Value→H}{W:World}{n t e sz by':Nat}{c:Value}{x:DataW H × List MemPlace}(ht:Tryz.prog.underlying t=some (.slice e))(hsz:Tryz.prog.cellsOf e=sz)(hby:Tryz.prog.bytesOf e=by')(hs0:0<sz)
 (h:DataW.trod enc Tryz.prog W 0 (fun _=>true) true n t [c]=some x) (hx:Szd x.1 t) {α:Type} (dflt:α) (Pr:α→List Value→Prop)
 (hel:∀ n cs (y:DataW H × List MemPlace),DataW.trod enc Tryz.prog W 0 (fun _=>true) true n e cs=some y→Szd y.1 e→∃ q,Pr q cs) :
 ∃ l:List α,l.length*by'≤reachBytes∧∃ a cp,c = .slice a l.length cp∧(l≠[]→∃ k o,a=some ⟨k,o,none⟩∧k<W.heap.size∧∀ j (h:j<l.length),∃ cs,Pr l[j] cs∧∀ i,i<sz→W.cell? ⟨k,o+j*sz+i,none⟩=cs[i]?):=by
 rcases Deep.open_slice ht h with⟨hcs,hx⟩|⟨a,len,cap,m,k,D,Pl,hcs,_,hl,hm,hmm,hxx,hc⟩
 ·have hcs:=(List.cons.inj hcs).1
  subst hcs
  exact⟨[],by simp,none,0,rfl,fun h=>absurd rfl h⟩
 ·have hcs:=(List.cons.inj hcs).1
  subst hcs
  have hmc:m=cap:=by simpa using hmm
  subst hmc
  have hw:∀ q,q∈(((((List.range len).map D).length+((List.range (m-len)).map fun j=>D (len+j)).length)*by')::DataW.weightsAll Tryz.prog e ((List.range len).map D))→q≤reachBytes:=by
   intro q hq
   apply hx
   rw[hxx]
   simp only[DataW.weights,ht,hby]
   rcases List.mem_cons.1 hq with rfl | hq
   ·exact List.mem_cons_self
   ·exact List.mem_cons_of_mem _ (List.mem_append_left _ hq)
  have hlw:len*by'≤reachBytes:=by
   have:=hw _ List.mem_cons_self
   simp only[List.length_map,List.length_range] at this
   exact Nat.le_trans (Nat.mul_le_mul_right by' (by omega)) this
  have hv:∀ i,∃ q:α × List Value,i<len→Pr q.1 q.2∧q.2.length=sz∧∀ j,j<sz→W.cell? ((a.add (i*sz)).add j)=q.2[j]?:=by
   intro i
   by_cases hi:i<len
   ·obtain⟨cs',r0,r1⟩:=hc i (by omega)
    rw[hsz] at r0
    obtain⟨-,hcl,hcell⟩:=World.cells?_some r0
    obtain⟨q,hq⟩:=hel _ _ _ r1 (fun q hq=>hw q (List.mem_cons_of_mem _ (weightsAll_mem hq (List.mem_map.2 ⟨i,List.mem_range.2 hi,rfl⟩))))
    exact⟨(q,cs'),fun _=>⟨hq,hcl,hcell⟩⟩
   ·exact⟨(dflt,[]),fun h=>absurd h hi⟩
  obtain⟨Q,hQ⟩:∃ Q:Nat→α × List Value,∀ i,i<len→Pr (Q i).1 (Q i).2∧(Q i).2.length=sz∧∀ j,j<sz→W.cell? ((a.add (i*sz)).add j)=(Q i).2[j]? :=
   ⟨fun i=>(hv i).choose,fun i=>(hv i).choose_spec⟩
  have hlen:((List.range len).map fun i=>(Q i).1).length=len:=by simp
  refine⟨(List.range len).map fun i=>(Q i).1,by rw[hlen];exact hlw,some a,m,by rw[hlen],fun hne=>?_⟩
  obtain⟨b,off,spot⟩:=a
  have hpos:0<len:=by
   rcases Nat.eq_zero_or_pos len with h0 | h0
   ·exfalso;apply hne;rw[h0];rfl
   ·exact h0
  have h00:W.cell? ((({ block:=b,off:=off,spot:=spot }:Addr).add (0*sz)).add 0)=some ((Q 0).2[0]'(by rw[(hQ 0 hpos).2.1];exact hs0)):=by
   rw[(hQ 0 hpos).2.2 0 hs0];exact List.getElem?_eq_getElem _
  have hspot:spot=none:=by
   have:=World.cell?_spot h00
   simpa[Addr.add] using this
  subst hspot
  simp only[addr_off] at hQ h00
  refine⟨b,off,rfl,cell_lt h00,fun j hj=>?_⟩
  have hj':j<len:=by simpa using hj
  refine⟨(Q j).2,?_,(hQ j hj').2.2⟩
  have:=(hQ j hj').1
  simpa using this
theorem byt3 : Tryz.prog.bytesOf 3=8:=by kernel_rfl
theorem byt71 : Tryz.prog.bytesOf 79=88:=by kernel_rfl
theorem byt67 : Tryz.prog.bytesOf 45=48:=by kernel_rfl
theorem ints_sz {H:Type}{enc:TypeId × Value→H}{W:World}{n:Nat}{c:Value}{x:DataW H × List MemPlace}(h:DataW.trod enc Tryz.prog W 0 (fun _=>true) true n 30 [c]=some x)(hx:Szd x.1 30):∃ l,IA W c l∧l.length≤17592186043904:=by
 obtain⟨l,hl,a,cp,e,hh⟩:=rows_sz under64 cel3 byt3 (by omega) h hx (0:Int) (fun q cs=>cs=[vI q]) (fun n cs y hy _=>by
  obtain⟨z,e,-,-⟩:=DataW.trod_int und3 hy
  exact⟨z,e⟩)
 have hr:=reach_is
 refine⟨l,⟨a,cp,e,fun hne=>?_⟩,by omega⟩
 obtain⟨k,o,ea,hk,hc⟩:=hh hne
 refine⟨k,o,ea,hk,fun j hj=>?_⟩
 obtain⟨cs,rfl,h1⟩:=hc j hj
 have:=h1 0 (by omega)
 rw[Nat.mul_one] at this
 exact this
def IsIz (W:World)(c:PI)(cs:List Value):Prop:=∃ av rv,cs=[vI c.op,vI c.r,vI c.s,vI c.t,vI c.n,av,rv]∧IA W av c.args∧IA W rv c.rets∧c.args.length≤17592186043904∧c.rets.length≤17592186043904
theorem instr_sz {H:Type}{enc:TypeId × Value→H}{W:World}{n:Nat}{cs:List Value}{x:DataW H × List MemPlace}(h:DataW.trod enc Tryz.prog W 0 (fun _=>true) true n 79 cs=some x)(hx:Szd x.1 79):∃ c:PI,IsIz W c cs:=by
 obtain⟨xs,k,-,rfl,hcl,hxl,hf⟩:=DataW.trod_struct und71 h
 rw[cel71] at hcl
 have hxl:xs.length=7:=hxl
 obtain⟨c0,r0,rfl,hl1⟩:=len_cons hcl
 obtain⟨c1,r1,rfl,hl2⟩:=len_cons hl1
 obtain⟨c2,r2,rfl,hl3⟩:=len_cons hl2
 obtain⟨c3,r3,rfl,hl4⟩:=len_cons hl3
 obtain⟨c4,r4,rfl,hl5⟩:=len_cons hl4
 obtain⟨c5,r5,rfl,hl6⟩:=len_cons hl5
 obtain⟨c6,r6,rfl,hl7⟩:=len_cons hl6
 obtain rfl:=List.length_eq_zero_iff.1 hl7
 have g0 := hf 0 (fld "Op" 3 0 0) rfl
 have g1 := hf 1 (fld "R" 3 1 8) rfl
 have g2 := hf 2 (fld "S" 3 2 16) rfl
 have g3 := hf 3 (fld "T" 3 3 24) rfl
 have g4 := hf 4 (fld "N" 3 4 32) rfl
 have g5 := hf 5 (fld "Args" 30 5 40) rfl
 have g6 := hf 6 (fld "Rets" 30 6 64) rfl
 have ee:∀ i (hi:i<7),xs[i]?=some (xs[i]'(by omega)):=fun i hi=>List.getElem?_eq_getElem (by omega)
 rw[ee 0 (by omega)] at g0
 rw[ee 1 (by omega)] at g1
 rw[ee 2 (by omega)] at g2
 rw[ee 3 (by omega)] at g3
 rw[ee 4 (by omega)] at g4
 rw[ee 5 (by omega)] at g5
 rw[ee 6 (by omega)] at g6
 simp only[fld,cel3,cel64,List.drop_zero,List.drop_succ_cons,List.take_succ_cons,List.take_zero] at g0 g1 g2 g3 g4 g5 g6
 obtain⟨z0,rfl⟩:=int_of g0
 obtain⟨z1,rfl⟩:=int_of g1
 obtain⟨z2,rfl⟩:=int_of g2
 obtain⟨z3,rfl⟩:=int_of g3
 obtain⟨z4,rfl⟩:=int_of g4
 have bb : ∀ i (hi : i < 7) u, (#[fld "Op" 3 0 0, fld "R" 3 1 8, fld "S" 3 2 16, fld "T" 3 3 24, fld "N" 3 4 32, fld "Args" 30 5 40, fld "Rets" 30 6 64].toList.map (·.type))[i]? = some u → Szd (xs[i]'(by omega)).1 u := fun i hi u hu q hq => by
  apply hx
  simp only[DataW.weights,und71]
  exact DataW.weights_mem_each (j:=i) (t:=u) (d:=(xs[i]'(by omega)).1) hu (by rw[List.getElem?_map,ee i hi];rfl) q hq
 obtain⟨la,hA,hla⟩:=ints_sz g5 (bb 5 (by omega) 30 rfl)
 obtain⟨lr,hR,hlr⟩:=ints_sz g6 (bb 6 (by omega) 30 rfl)
 exact⟨⟨z0,z1,z2,z3,z4,la,lr⟩,c5,c6,rfl,hA,hR,hla,hlr⟩
theorem code_sz {H:Type}{enc:TypeId × Value→H}{W:World}{n:Nat}{c:Value}{x:DataW H × List MemPlace}(h:DataW.trod enc Tryz.prog W 0 (fun _=>true) true n 41 [c]=some x)(hx:Szd x.1 41):∃ l,CA W c l∧FineC l:=by
 obtain⟨l,hl,a,cp,e,hh⟩:=rows_sz under65 cel71 byt71 (by omega) h hx (⟨0,0,0,0,0,[],[]⟩:PI) (IsIz W) (fun n cs y hy hs=>instr_sz hy hs)
 have hr:=reach_is
 refine⟨l,⟨a,cp,e,fun hne=>?_⟩,by omega,fun c hc=>?_⟩
 ·obtain⟨k,o,ea,hk,hc⟩:=hh hne
  refine⟨k,o,ea,hk,fun j hj=>?_⟩
  obtain⟨cs,⟨av,rv,rfl,h2,h3,-⟩,h1⟩:=hc j hj
  exact⟨av,rv,h1 0 (by omega),h1 1 (by omega),h1 2 (by omega),h1 3 (by omega),h1 4 (by omega),h1 5 (by omega),h1 6 (by omega),h2,h3⟩
 ·obtain⟨j,hj,rfl⟩:=List.getElem_of_mem hc
  obtain⟨k,o,ea,hk,hcc⟩:=hh (by intro e;simp[e] at hj)
  obtain⟨cs,⟨av,rv,-,-,-,h4,h5⟩,-⟩:=hcc j hj
  exact⟨h4,h5⟩
def IsFz (W:World)(f:PF)(cs:List Value):Prop:=∃ cv,cs=[vI f.P,vI f.R,vI f.V,cv]∧CA W cv f.code∧FineC f.code
theorem func_sz {H:Type}{enc:TypeId × Value→H}{W:World}{n:Nat}{cs:List Value}{x:DataW H × List MemPlace}(h:DataW.trod enc Tryz.prog W 0 (fun _=>true) true n 45 cs=some x)(hx:Szd x.1 45):∃ f:PF,IsFz W f cs:=by
 obtain⟨xs,k,-,rfl,hcl,hxl,hf⟩:=DataW.trod_struct und67 h
 rw[cel67] at hcl
 have hxl:xs.length=4:=hxl
 obtain⟨c0,r0,rfl,hl1⟩:=len_cons hcl
 obtain⟨c1,r1,rfl,hl2⟩:=len_cons hl1
 obtain⟨c2,r2,rfl,hl3⟩:=len_cons hl2
 obtain⟨c3,r3,rfl,hl4⟩:=len_cons hl3
 obtain rfl:=List.length_eq_zero_iff.1 hl4
 have g0 := hf 0 (fld "Params" 3 0 0) rfl
 have g1 := hf 1 (fld "Results" 3 1 8) rfl
 have g2 := hf 2 (fld "Vars" 3 2 16) rfl
 have g3 := hf 3 (fld "Code" 41 3 24) rfl
 have ee:∀ i (hi:i<4),xs[i]?=some (xs[i]'(by omega)):=fun i hi=>List.getElem?_eq_getElem (by omega)
 rw[ee 0 (by omega)] at g0
 rw[ee 1 (by omega)] at g1
 rw[ee 2 (by omega)] at g2
 rw[ee 3 (by omega)] at g3
 simp only[fld,cel3,cel65,List.drop_zero,List.drop_succ_cons,List.take_succ_cons,List.take_zero] at g0 g1 g2 g3
 obtain⟨z0,rfl⟩:=int_of g0
 obtain⟨z1,rfl⟩:=int_of g1
 obtain⟨z2,rfl⟩:=int_of g2
 have bb:Szd (xs[3]'(by omega)).1 41:=fun q hq=>by
  apply hx
  simp only[DataW.weights,und67]
  exact DataW.weights_mem_each (j:=3) (t:=41) (d:=(xs[3]'(by omega)).1) rfl (by rw[List.getElem?_map,ee 3 (by omega)];rfl) q hq
 obtain⟨l,hC,hl⟩:=code_sz g3 bb
 exact⟨⟨z0,z1,z2,l⟩,c3,rfl,hC,hl⟩
end Go.Proofs.YtdkijecnnmncnaaGreatDoor
namespace Go.Proofs.YtdkijecnnmncnaaGreatDoor
open Go Go.RowKit
variable {F:Fence} {n:Nat} {P:Program}
def SeqGivesC {α:Type}(F:Fence)(n:Nat)(P:Program)(g:Nat)(fst lb:Array Value)(encs:α→Array Value)(Kp:Nat→World→World→Prop)(S:List α→Prop)(N:Nat)(w:World):Prop :=
 ∀ (l:Nat) (J:List α→World→Prop) (W:World),Below w.heap.size w W→w.heap.size≤l→l<W.heap.size→OwnFrom W.heap.size J →
  (∀ pre x W1,J pre W1→pre.length<N→YieldAt F (n-1) P l (encs x) W1 fun e W'=>e = .returned (.bool true)∧J (pre++[x]) W'∧Kp l W1 W') →
  J [] W →
  CallsIn F n P g (fst++#[.func (.yield l) #[] #[]]++lb) W fun e W'=>(∃ v,e = .returned v)∧∃ xs,S xs∧J xs W'
def GoesOn {α:Type}(B:Nat)(Kp:World→World→Prop)(I:List α→World→Prop)(xs:List α)(W:World):Exit→Act→World→Prop
 | .normal,_,W'=>KeepsFrom B W W'∧Kp W W'∧I xs W'
 | _,_,_=>False
theorem later_block {A B:World}{row:Option Nat}(hg:A.grownBy B row){k m:Nat}{o:Obj}(hk:A.heap[k]?=some o)(hkm:k<m)(hr:∀ r,row=some r→m≤r∧∃ o:Obj,A.heap[r]?=some o∧o.isCells=false):B.heap[k]?=some o :=
 (hg.block k (Array.getElem?_eq_some_iff.1 hk).1 (fun e=>by have:=(hr k e.symm).1;omega)).trans hk
theorem wpIn_rangeC {α:Type}{g:Operand}{ps:Array Tmp}{assign body:Code}{Q:Exit→Act→World→Prop}{a:Act}{w:World}
 (hro:F.round=none) (h1:1≤n) {gf:Nat} {fst lb:Array Value} (hg:a.eval g = .func (.func gf) fst lb) (hFg:F.fn gf) (eg:∀ args w,(callFunc gf args).run P w = .ok (.enter gf args) w)
 {encs:α→Array Value} {Kp:Nat→World→World→Prop} {S:List α→Prop} {N:Nat} {w0:World} (hseq:SeqGivesC F (n-1) P gf fst lb encs Kp S N w0)
 (hKt:∀ (l:Nat) (A B C:World),Kp l A B→Kp l B C→Kp l A C) (hKb:∀ (l:Nat) (W:World) (r:Loop) (o':Obj),w.heap.size≤l→W.heap[l]?=some (.loop r)→Kp l W (W.putObj l o')) (hb0:Below w0.heap.size w0 w) (hps:∀ x,(encs x).size=ps.size)
 (I:List α→World→Prop) (hI:OwnFrom w.heap.size I) (h0:I [] w) (Ax:α→Act→World→Prop) (hAx:∀ x a',OwnFrom w.heap.size (fun(_:Unit) W=>Ax x a' W))
 (hassign:∀ (l:Nat) (pre:List α) (x:α) (W:World) (K:Act→World→Prop),w.heap.size≤l→I pre W→(∀ a' W',KeepsFrom w.heap.size W W'→Kp l W W'→I pre W'→Ax x a' W'→K a' W') →
   assign.wpIn (F.inRound l) (n-1-1) P (Exit.then K (fun _ _ _=>False)) { tmps:=(ps.zip (encs x)).foldl (fun t (p,v)=>t.setIfInBounds p v) a.tmps,defers:=[] } W)
 (hbody:∀ (l:Nat) (pre:List α) (x:α) (a':Act) (W:World),w.heap.size≤l→I pre W→Ax x a' W→pre.length<N→body.wpIn (F.inRound l) (n-1-1) P (GoesOn w.heap.size (Kp l) I (pre++[x]) W) a' W)
 (hdone:∀ (D:Nat) (xs:List α) (W:World),w.heap.size≤D→S xs→I xs W→W.heap[D]?=some (.deferred (some []))→Q .normal { a with defers:={ target:=.collected D,args:=#[] }::a.defers } W) :
 (Code.rangeFunc g ps assign body).wpIn F n P Q a w:=by
 refine wpIn_rangeFunc (fun fn hfn=>?_)
 rw[hro]
 let rec_:LoopState→Loop:=fun st=>{ state:=st,pending:=none,fn,tmps:=a.tmps,params:=ps,assign,body,defers:=w.heap.size }
 have hrec:∀ st,rec_ st={ state:=st,pending:=none,fn,tmps:=a.tmps,params:=ps,assign,body,defers:=w.heap.size }:=fun _=>rfl
 clear_value rec_
 obtain⟨V,hV⟩:∃ V,V=(w.alloc (.deferred (some []))).alloc (.loop (rec_ .ready)):=⟨_,rfl⟩
 have hVs:V.heap.size=w.heap.size+2:=by rw[hV];simp
 have hVd:V.heap[w.heap.size]?=some (.deferred (some [])):=by
  rw[hV,Below.heap_alloc _ _ _ (by simp)];exact World.alloc_heap_new w _
 have hVl:V.heap[w.heap.size+1]?=some (.loop (rec_ .ready)):=by
  have:=World.alloc_heap_new (w.alloc (.deferred (some []))) (.loop (rec_ .ready))
  rw[World.size_alloc] at this
  rw[hV];exact this
 have hVI:I [] V:=by rw[hV];exact hI.alloc _ (hI.alloc _ h0)
 have hVb:Below w0.heap.size w0 V:=by
  rw[hV];exact hb0.trans ((((Below.refl _ w).alloc (Nat.le_refl _) _).alloc (by simp) _).mono hb0.size)
 refine⟨w.heap.size+1,[{ target:=.collected w.heap.size,args:=#[] }],V,{ target:=.fn (.func gf) lb,args:=fst++#[.func (.yield (w.heap.size+1)) #[] #[]] },V,gf,fst++#[.func (.yield (w.heap.size+1)) #[] #[]]++lb,V,?_,?_,?_,?_,fun _=>h1,?_⟩
 ·rw[hV,hrec];exact run_enterLoop_outer _ _ _ _ _
 ·simp only[resolve,hg]
  simp[go_sem]
 ·intro f' hf';simp[Target.leads] at hf';subst hf';exact hFg
 ·simp[invoke,go_sem,eg]
 ·refine(hseq (w.heap.size+1) (fun pre W=>I pre W∧W.heap[w.heap.size+1]?=some (.loop (rec_ .ready))∧W.heap[w.heap.size]?=some (.deferred (some []))) V hVb (by have:=hb0.size;omega) (by omega)
   (fun s A B row hs hgr hr=>⟨hI s A B row hs.1 hgr (fun r e=>⟨by have:=(hr r e).1;omega,(hr r e).2⟩),later_block hgr hs.2.1 (by omega) hr,later_block hgr hs.2.2 (by omega) hr⟩) ?_ ⟨hVI,hVl,hVd⟩).mono ?_
  ·rintro pre x W ⟨hi,hl,hk⟩ hlen
   have hy:=run_yield (P:=P) (args:=encs x) hl (by rw[hrec];exact hps x)
   rw[hrec] at hy
   refine⟨fn,_,assign,body,hy,roundIn_of_wpIn hfn (hassign (w.heap.size+1) pre x W _ (by omega) hi ?_)⟩
   intro a' Wa ka kpa ia axa
   have hla:=ka.same _ _ (by omega) hl rfl
   have hka:=ka.same _ _ (Nat.le_refl _) hk rfl
   have hlt:=(Array.getElem?_eq_some_iff.1 hla).1
   refine⟨_,run_beginRound hla (by rw[hrec]),?_⟩
   have hl2:(Wa.putObj (w.heap.size+1) (.loop { rec_ .ready with state:=.busy })).heap[w.heap.size+1]?=some (.loop { rec_ .ready with state:=.busy }):=World.putObj_heap_same hlt
   have hk2:(Wa.putObj (w.heap.size+1) (.loop { rec_ .ready with state:=.busy })).heap[w.heap.size]?=some (.deferred (some [])):=(World.putObj_heap_other (by omega)).trans hka
   refine wpIn_mono (hbody (w.heap.size+1) pre x a' _ (by omega) (hI.putObj _ ia (by omega) hla rfl) ((hAx x a').putObj (s:=()) _ axa (by omega) hla rfl) hlen) ?_
   rintro e a3 W3 hp
   cases e with
   | normal =>
     obtain⟨k3,kp3,i3⟩:=hp
     have hl3:=k3.same _ _ (by omega) hl2 rfl
     have hd3:=k3.same _ _ (Nat.le_refl _) hk2 rfl
     have hend:=run_endRound (P:=P) none hl3
     rw[hrec] at hend
     refine⟨_,_,hend,rfl,⟨hI.putObj _ i3 (by omega) hl3 rfl,?_,(World.putObj_heap_other (by omega)).trans hd3⟩,hKt _ _ _ _ kpa (hKt _ _ _ _ (hKt _ _ _ _ (hKb _ _ _ _ (by omega) hla) kp3) (hKb _ _ _ _ (by omega) hl3))⟩
     rw[World.putObj_heap_same (Array.getElem?_eq_some_iff.1 hl3).1,hrec]
     rfl
   | ret=>exact hp.elim
   | exit id=>exact hp.elim
   | goto t=>exact hp.elim
   | panic ch=>exact hp.elim
   | outgrown=>exact hp.elim
  ·rintro e W2 ⟨⟨v,rfl⟩,xs,hS,hi,hl,hk⟩
   have hend:=run_endLoop (P:=P) hl (by rw[hrec];simp)
   rw[hrec] at hend
   exact⟨none,_,hend,hdone _ xs _ (Nat.le_refl _) hS (hI.putObj _ hi (by omega) hl rfl) ((World.putObj_heap_other (by omega)).trans hk)⟩
end Go.Proofs.YtdkijecnnmncnaaGreatDoor
namespace Go.Proofs.YtdkijecnnmncnaaGreatDoor
open Go.RowKit Go.Shelf
set_option maxRecDepth 100000
set_option maxHeartbeats 2000000
attribute [local go_sem] Oper.semAt_some
abbrev Ed := Int × Int × Int
abbrev encE (x:Ed):Array Value:=#[.agg #[vI x.1,vI x.2.1,vI x.2.2]]
structure KpA (n0:Nat)(W W':World):Prop where
 below:Below n0 W W'
 typed:∀ (k:Nat) cs t,W.heap[k]?=some (.cells cs t)→t≠140→t≠85→W'.heap[k]?=some (.cells cs t)
theorem KpA.refl (n0:Nat)(W:World):KpA n0 W W:=⟨Below.refl _ _,fun _ _ _ h _ _=>h⟩
theorem KpA.trans {n0:Nat}{A B C:World}(h:KpA n0 A B)(k:KpA n0 B C):KpA n0 A C:=⟨h.below.trans k.below,fun i cs t hi h1 h2=>k.typed i cs t (h.typed i cs t hi h1 h2) h1 h2⟩
structure KpB (n0:Nat)(l:Nat)(W W':World):Prop where
 a:KpA n0 W W'
 other:∀ (k:Nat) (o:Obj),W.heap[k]?=some o→o.isCells=false→k≠l→W'.heap[k]?=some o
theorem KpB.trans {n0 l:Nat}{A B C:World}(h:KpB n0 l A B)(k:KpB n0 l B C):KpB n0 l A C:=⟨h.a.trans k.a,fun i o hi ho hl=>k.other i o (h.other i o hi ho hl) ho hl⟩
theorem KpA.putObj {n0 l:Nat}{W:World}{r:Loop}(o':Obj)(h:W.heap[l]?=some (.loop r))(hl:n0≤l):KpA n0 W (W.putObj l o') :=
 ⟨(Below.refl n0 W).grown (grownBy_putObj' W l o') (by have:=(Array.getElem?_eq_some_iff.1 h).1;omega) (fun k e=>by cases e;omega),fun k cs t hk _ _=>by
  by_cases e:k=l
  ·subst e;rw[h] at hk;cases hk
  ·exact(World.putObj_heap_other e).trans hk⟩
theorem KpB.putObj {n0 l:Nat}{W:World}{r:Loop}(o':Obj)(h:W.heap[l]?=some (.loop r))(hl:n0≤l):KpB n0 l W (W.putObj l o') :=
 ⟨KpA.putObj o' h hl,fun k o hk _ hne=>(World.putObj_heap_other hne).trans hk⟩
theorem KpA.ofFr {n0:Nat}{W W':World}(f:Fr (fun _=>False) W W')(h:n0≤W.heap.size):KpA n0 W W' :=
 ⟨⟨f.os,f.tape,f.output,f.size,fun k hk=>f.block k (by omega) (fun e=>e)⟩,fun k cs t hk _ _=>(f.block k (heap_lt0 hk) (fun e=>e)).trans hk⟩
def retE (R V:Int)(zs:List Int):List Ed:=(List.range zs.length).map fun(j:Nat)=>(1+(j:Int),varX R V (zs[j]?.getD 0),0)
theorem retE_take (R V:Int)(zs:List Int)(k:Nat)(h:k<zs.length):(retE R V zs).take (k+1)=(retE R V zs).take k++[(1+(k:Int),varX R V (zs[k]?.getD 0),0)]:=by
 have hl:k<(retE R V zs).length:=by simp[retE,h]
 rw[List.take_add_one,List.getElem?_eq_getElem hl]
 simp[retE]
theorem returned1_in (n:Nat)(l n0 Ba Bb:Nat)(P R V:Int)(ca:Option Addr)(cn cc:Nat)(sv:Value)(zs:List Int)(ad:Option Addr)(cap:Nat)(hlen:zs.length≤1000000)(W:World)(hn0:n0≤W.heap.size)(J:List Ed→World→Prop)
 (hY:∀ pre x W,J pre W→pre.length<zs.length→YieldAt Fence.wide (n-1) Tryz.prog l (encE x) W fun e W'=>e = .returned (.bool true)∧J (pre++[x]) W'∧KpA n0 W W')
 (hJ:∀ pre (W W':World),J pre W→Fr (fun _=>False) W W'→J pre W')
 (hBa:W.heap[Ba]?=some (.cells #[.slice ad zs.length cap] 30)) (hBb:W.heap[Bb]?=some (.cells #[vI P,vI R,vI V,.slice ca cn cc,sv] 138))
 (hc:zs≠[]→∃ k0 o0,ad=some ⟨k0,o0,none⟩∧k0<n0∧∀ j (h:j<zs.length),W.cell? ⟨k0,o0+j,none⟩=some (vI zs[j])) (h0:J [] W) :
 CallsIn Fence.wide n Tryz.prog 192 #[.func (.yield l) #[] #[],.pointer (some ⟨Ba,0,none⟩),.pointer (some ⟨Bb,0,none⟩)] W fun e W'=>(∃ v,e = .returned v)∧J (retE R V zs) W':=by
 have hca:W.cell? ⟨Ba,0,none⟩=some (.slice ad zs.length cap):=by rw[cell_of0 hBa];rfl
 refine callsIn_of_wp Tryz.func192 rfl trivial ?_ rfl
 simp only[Tryz.ntmps192,List.size_toArray,List.length_cons,List.length_nil,Nat.reduceAdd,Nat.reduceSub,Array.replicate_succ,Array.replicate_zero,List.push_toArray,List.append_toArray,List.nil_append,List.cons_append]
 gi_wp2
 gi_loopw [8] (fun i wr=>∃ k:Nat,k≤zs.length∧i = .int .i64 k∧J ((retE R V zs).take k) wr∧KpA n0 W wr) (fun i _=>zs.length-(RowKit.intOf i).toNat)
 case atStart=>exact⟨0,Nat.zero_le _,rfl,h0,KpA.refl _ _⟩
 case round =>
  obtain⟨k,hk,rfl,hJs,hnx⟩:=hrel
  have hn0w:n0≤wr.heap.size:=Nat.le_trans hn0 hnx.below.size
  by_cases hlt:k<zs.length
  ·obtain⟨k0,o0,rfl,hk0,hc⟩:=hc (by intro e;simp[e] at hlt)
   have hcx:wr.cell? ⟨k0,o0+k,none⟩=some (vI zs[k]):=(hnx.below.cell (p:=⟨k0,o0+k,none⟩) hk0).trans (hc k hlt)
   have bB:=hnx.typed Bb _ _ hBb (by decide) (by decide)
   have q0:wr.cell? ⟨Bb,0,none⟩=some (vI P):=by rw[cell_of0 bB];rfl
   have q1:wr.cell? ⟨Bb,1,none⟩=some (vI R):=by rw[cell_of0 bB];rfl
   have q2:wr.cell? ⟨Bb,2,none⟩=some (vI V):=by rw[cell_of0 bB];rfl
   have q3:wr.cell? ⟨Bb,3,none⟩=some (.slice ca cn cc):=by rw[cell_of0 bB];rfl
   have htk:=retE_take R V zs k hlt
   rw[List.getElem?_eq_getElem hlt] at htk
   simp only[Option.getD_some] at htk
   generalize zs[k]=x at hcx htk
   gi_wp2_with fail
   refine⟨trivial,(fun h=>by cases h),?_⟩
   refine(callsIn_wide.2 (variable_any P R V x ca cn cc wr)).mono ?_
   rintro e w2 ⟨rfl,hF2⟩
   have hJ2:=hJ _ _ _ hJs hF2
   obtain⟨fn,tmps,assign,body,hy,hR⟩:=hY _ (1+(k:Int),varX R V x,0) w2 hJ2 (by rw[List.length_take];omega)
   gi_wp2
   refine⟨(fun h=>by cases h),hR.mono ?_⟩
   rintro e W3 ⟨rfl,hJ3,hk3⟩
   have hB2:KpA n0 wr w2:=KpA.ofFr hF2 hn0w
   gi_wp2
   go_roundw
   case rel=>exact⟨k+1,by omega,by simp,by rw[htk];exact hJ3,hnx.trans (hB2.trans hk3)⟩
   case measure=>simp[RowKit.intOf];omega
  ·obtain rfl:k=zs.length:=by omega
   gi_wp2
   go_end0
   exact⟨⟨_,rfl⟩,by rw[List.take_of_length_le (by simp[retE])] at hJs;exact hJs⟩
theorem own_fr {β:Type}{B:Nat}{J:β→World→Prop}(h:OwnFrom B J){s:β}{A A':World}(hs:J s A)(f:Fr (fun _=>False) A A'):J s A' :=
 h s A A' none hs ⟨f.os,f.tape,f.output,f.size,fun k hk _=>f.block k hk (fun e=>e)⟩ (fun r e=>by cases e)
theorem returned_gives (n n0 Ba Bb:Nat)(P R V:Int)(ca:Option Addr)(cn cc:Nat)(sv:Value)(zs:List Int)(ad:Option Addr)(cap:Nat)(w:World)(hlen:zs.length≤1000000)(hn0:n0≤w.heap.size)
 (hBa:w.heap[Ba]?=some (.cells #[.slice ad zs.length cap] 30)) (hBb:w.heap[Bb]?=some (.cells #[vI P,vI R,vI V,.slice ca cn cc,sv] 138))
 (hc:zs≠[]→∃ k0 o0,ad=some ⟨k0,o0,none⟩∧k0<n0∧∀ j (h:j<zs.length),w.cell? ⟨k0,o0+j,none⟩=some (vI zs[j])) :
 SeqGivesC Fence.wide n Tryz.prog 192 #[] #[.pointer (some ⟨Ba,0,none⟩),.pointer (some ⟨Bb,0,none⟩)] encE (fun _=>KpA n0) (fun xs=>xs=retE R V zs) zs.length w:=fun l J W hW _ hl hJ hY h0=>by
 have kb:∀ (k:Nat) (o:Obj),w.heap[k]?=some o→W.heap[k]?=some o:=fun k o h=>(hW.block k (heap_lt0 h)).trans h
 refine(returned1_in n l n0 Ba Bb P R V ca cn cc sv zs ad cap hlen W (Nat.le_trans hn0 hW.size) J hY (fun pre A A' hs f=>own_fr hJ hs f) (kb _ _ hBa) (kb _ _ hBb) (fun hne=>?_) h0).mono ?_
 ·obtain⟨k0,o0,e,hk,hc⟩:=hc hne
  exact⟨k0,o0,e,hk,fun j hj=>(hW.cell (p:=⟨k0,o0+j,none⟩) (by show k0<_;omega)).trans (hc j hj)⟩
 ·rintro e W' ⟨he,hj⟩
  exact⟨he,_,rfl,hj⟩
end Go.Proofs.YtdkijecnnmncnaaGreatDoor
namespace Go.Proofs.YtdkijecnnmncnaaGreatDoor
open Go.RowKit (wrap32 wrap64)
set_option maxRecDepth 100000
set_option maxHeartbeats 2000000
theorem returned_any (P R V:Int)(ca:Option Addr)(cn cc:Nat)(sa:Option Addr)(sn sc:Nat)(ad:Option Addr)(m cap:Nat)(w:World) :
 Calls Tryz.prog 156 #[.agg #[vI P,vI R,vI V,.slice ca cn cc,.slice sa sn sc],.slice ad m cap] w fun e w'=>e = .returned (.func (.func 192) #[] #[.pointer (some ⟨w.heap.size+1,0,none⟩),.pointer (some ⟨w.heap.size,0,none⟩)])∧w'=(w.alloc (.cells #[vI P,vI R,vI V,.slice ca cn cc,.slice sa sn sc] 138)).alloc (.cells #[.slice ad m cap] 30):=by
 go_enter Tryz.func156,Tryz.ntmps156
 go_wp2
 go_ret
 exact⟨rfl,rfl⟩
theorem firstCell_any (P R V:Int)(a:Option Addr)(n c:Nat)(w:World) :
 Calls Tryz.prog 124 #[.agg #[vI P,vI R,vI V,.slice a n c]] w fun e w'=>e = .returned (vI (cellX R V))∧w'=w.alloc (.cells #[vI P,vI R,vI V,.slice a n c] 45):=by
 go_enter Tryz.func124,Tryz.ntmps124
 go_wp2
 go_ret
 exact⟨rfl,rfl⟩
theorem returned_gives_new (n n0 X:Nat)(P R V:Int)(ca:Option Addr)(cn cc:Nat)(sa:Option Addr)(sn sc:Nat)(zs:List Int)(ad:Option Addr)(cap:Nat)(w:World)(hX:w.heap.size=X)(hlen:zs.length≤1000000)(hn0:n0≤w.heap.size)
 (hc:zs≠[]→∃ k0 o0,ad=some ⟨k0,o0,none⟩∧k0<n0∧∀ j (h:j<zs.length),w.cell? ⟨k0,o0+j,none⟩=some (vI zs[j])) :
 SeqGivesC Fence.wide n Tryz.prog 192 #[] #[.pointer (some ⟨X+1,0,none⟩),.pointer (some ⟨X,0,none⟩)] encE (fun _=>KpA n0) (fun xs=>xs=retE R V zs) (retE R V zs).length ((w.alloc (.cells #[vI P,vI R,vI V,.slice ca cn cc,.slice sa sn sc] 138)).alloc (.cells #[.slice ad zs.length cap] 30)):=by
 subst hX
 have hl:(retE R V zs).length=zs.length:=by simp[retE]
 rw[hl]
 have f:Fr (fun _=>False) w ((w.alloc (.cells #[vI P,vI R,vI V,.slice ca cn cc,.slice sa sn sc] 138)).alloc (.cells #[.slice ad zs.length cap] 30)):=Fr.alloc (Fr.alloc (Fr.refl _ w) _) _
 refine returned_gives n n0 (w.heap.size+1) w.heap.size P R V ca cn cc (.slice sa sn sc) zs ad cap _ hlen (Nat.le_trans hn0 f.size) ?_ ?_ (fun hne=>?_)
 ·have:=heap_new0 (w.alloc (.cells #[vI P,vI R,vI V,.slice ca cn cc,.slice sa sn sc] 138)) (.cells #[.slice ad zs.length cap] 30)
  rw[World.size_alloc] at this
  exact this
 ·rw[Go.RowKit.Below.heap_alloc _ _ _ (by simp)];exact heap_new0 w _
 ·obtain⟨k0,o0,e,hk,hcc⟩:=hc hne
  exact⟨k0,o0,e,hk,fun j hj=>(f.cell (by omega) (fun e=>e)).trans (hcc j hj)⟩
def RowsT (w:World):Prop:=w.cell? ⟨0,60,none⟩=some (vI 2)∧w.cell? ⟨0,61,none⟩=some (vI 0)∧w.cell? ⟨0,62,none⟩=some (vI 0)∧w.cell? ⟨0,63,none⟩=some (vI 0)
def Given (n0:Nat)(bv iv:Value)(cell:Int)(E:List Ed)(w:World):Prop :=
 ∀ W,KpA n0 w W→Calls Tryz.prog 125 #[bv,iv,vI cell] W fun e W'=>∃ g lb,e = .returned (.func (.func g) #[] lb)∧(∀ args w,(callFunc g args).run Tryz.prog w = .ok (.enter g args) w)∧Fr (fun _=>False) W W'∧∀ n,SeqGivesC Fence.wide n Tryz.prog g #[] lb encE (fun _=>KpA n0) (fun xs=>xs=E) E.length W'
theorem given_return (n0:Nat)(P R V:Int)(ca:Option Addr)(cn cc:Nat)(sa:Option Addr)(sn sc:Nat)(r s t m cell:Int)(zs:List Int)(ad:Option Addr)(cap:Nat)(ra:Option Addr)(rn rc:Nat)(w:World)(hlen:zs.length≤1000000)(h0:0<n0)(hn0:n0≤w.heap.size)(hT:RowsT w)
 (hc:zs≠[]→∃ k0 o0,ad=some ⟨k0,o0,none⟩∧k0<n0∧∀ j (h:j<zs.length),w.cell? ⟨k0,o0+j,none⟩=some (vI zs[j])) :
 Given n0 (.agg #[vI P,vI R,vI V,.slice ca cn cc,.slice sa sn sc]) (.agg #[vI 15,vI r,vI s,vI t,vI m,.slice ad zs.length cap,.slice ra rn rc]) cell (retE R V zs) w:=by
 intro W hK
 have tb:∀ o,W.cell? ⟨0,o,none⟩=w.cell? ⟨0,o,none⟩:=fun o=>hK.below.cell (p:=⟨0,o,none⟩) h0
 have t0:W.cell? ⟨0,60,none⟩=some (vI 2):=(tb _).trans hT.1
 have t1:W.cell? ⟨0,61,none⟩=some (vI 0):=(tb _).trans hT.2.1
 have t2:W.cell? ⟨0,62,none⟩=some (vI 0):=(tb _).trans hT.2.2.1
 have t3:W.cell? ⟨0,63,none⟩=some (vI 0):=(tb _).trans hT.2.2.2
 have HC:Hd (zs≠[]→∃ k0 o0,ad=some ⟨k0,o0,none⟩∧k0<n0∧∀ j (h:j<zs.length),W.cell? ⟨k0,o0+j,none⟩=some (vI zs[j])):=fun hne=>by
  obtain⟨k0,o0,e,hk,hcc⟩:=hc hne
  exact⟨k0,o0,e,hk,fun j hj=>(hK.below.cell (p:=⟨k0,o0+j,none⟩) hk).trans (hcc j hj)⟩
 have HN:Hd (n0≤W.heap.size):=Nat.le_trans hn0 hK.below.size
 have hWp:0<W.heap.size:=Nat.lt_of_lt_of_le h0 HN.out
 clear tb hT hc hK
 go_enter Tryz.func125,Tryz.ntmps125
 go_wp2_with fail
 refine(returned_any P R V ca cn cc sa sn sc ad zs.length cap _).mono ?_
 rintro e w1 ⟨rfl,rfl⟩
 go_wp2_with fail
 go_ret
 refine⟨192,_,rfl,enters_of Tryz.func192 (by kernel_rfl) rfl,?_,fun n=>?_⟩
 ·exact Fr.alloc (Fr.alloc (Fr.alloc (Fr.alloc (Fr.alloc (Fr.refl _ W) _) _) _) _) _
 ·refine returned_gives_new n n0 _ P R V ca cn cc sa sn sc zs ad cap _ (by simp) hlen ?_ (fun hne=>?_)
  ·have:=HN.out;simp;omega
  ·obtain⟨k0,o0,e,hk,hcc⟩:=HC.out hne
   refine⟨k0,o0,e,hk,fun j hj=>?_⟩
   have f:Fr (fun _=>False) W (((W.alloc (.cells #[vI P,vI R,vI V,.slice ca cn cc,.slice sa sn sc] 138)).alloc (.cells #[vI 15,vI r,vI s,vI t,vI m,.slice ad zs.length cap,.slice ra rn rc] 79)).alloc (.cells #[vI 2,vI 0,vI 0,vI 0] 209)):=Fr.alloc (Fr.alloc (Fr.alloc (Fr.refl _ W) _) _) _
   exact(f.cell (by have:=HN.out;omega) (fun e=>e)).trans (hcc j hj)
end Go.Proofs.YtdkijecnnmncnaaGreatDoor
