import Derived.Test.YtingenonbkencaaDoorQTa
import Derived.Test.YtingenonbkencaaDoorQN5J
import Derived.Test.YtingenonbkencaaDoorRows
import Derived.ProofKit
import Derived.OpenShut
import Derived.ChangeOld
import Derived.Below
import Derived.Carry
import Derived.Deep.Slices
import Derived.SizedLaws
import Derived.Test.YtingenonbkencaaDoorQN6J
set_option linter.unusedVariables false
set_option linter.unusedSimpArgs false
namespace Go.Proofs.YtingenonbkencaaDoor
open Go.ChangeShapes Go.WideShapes Go.ChangeAt Go.RowKit
theorem addr_off (b off i:Nat):(⟨b,off,none⟩:Addr).add i=⟨b,off+i,none⟩:=by unfold Addr.add;split<;>simp_all
def fld (name : String) (type offset byteOffset : Nat) : Field := { name := name, type := type, offset := offset, embedded := false, tag := "", pkgPath := "", byteOffset := byteOffset }
theorem und3 : Tryd.prog.underlying 3=some (.int .i64):=by kernel_rfl
theorem und71 : Tryd.prog.underlying 71 = some (.struct #[fld "Op" 3 0 0, fld "R" 3 1 8, fld "S" 3 2 16, fld "T" 3 3 24, fld "N" 3 4 32, fld "Args" 64 5 40, fld "Rets" 64 6 64]) := by kernel_rfl
theorem und67 : Tryd.prog.underlying 67 = some (.struct #[fld "Params" 3 0 0, fld "Results" 3 1 8, fld "Vars" 3 2 16, fld "Code" 65 3 24]) := by kernel_rfl
theorem und26 : Tryd.prog.underlying 26 = some (.struct #[fld "Globals" 3 0 0, fld "Funcs" 24 1 8]) := by kernel_rfl
theorem cel3 : Tryd.prog.cellsOf 3=1:=by kernel_rfl
theorem cel64 : Tryd.prog.cellsOf 64=1:=by kernel_rfl
theorem cel65 : Tryd.prog.cellsOf 65=1:=by kernel_rfl
theorem cel24 : Tryd.prog.cellsOf 24=1:=by kernel_rfl
theorem cel71 : Tryd.prog.cellsOf 71=7:=by kernel_rfl
theorem cel67 : Tryd.prog.cellsOf 67=4:=by kernel_rfl
theorem cel26 : Tryd.prog.cellsOf 26=2:=by kernel_rfl
theorem len_cons {n:Nat}:∀ {cs:List Value},cs.length=n+1→∃ c r,cs=c::r∧r.length=n
 | c::r,h=>⟨c,r,rfl,by simpa using h⟩
theorem int_of {H:Type}{enc:TypeId × Value→H}{W:World}{n:Nat}{c:Value}{x:DataW H × List MemPlace}(h:DataW.trod enc Tryd.prog W 0 (fun _=>true) true n 3 [c]=some x):∃ z:Int,c=vI z:=by
 obtain⟨z,e,-,-⟩:=DataW.trod_int und3 h
 exact⟨z,(List.cons.inj e).1⟩
theorem reach_is : reachBytes=140737488351232:=by decide
def Szd {H:Type}(d:DataW H)(t:Nat):Prop:=∀ q∈d.weights Tryd.prog t,q≤reachBytes
theorem weightsAll_mem {H:Type}{P:Program}{e:TypeId}{d:DataW H}{n:Nat}(hn:n∈d.weights P e):∀ {ds:List (DataW H)},d∈ds→n∈DataW.weightsAll P e ds
 | a::r,h=>by
   simp only[DataW.weightsAll,List.mem_append]
   rcases List.mem_cons.1 h with rfl | h
   ·exact Or.inl hn
   ·exact Or.inr (weightsAll_mem hn h)
theorem rows_sz {H:Type}{enc:TypeId × Value→H}{W:World}{n t e sz by':Nat}{c:Value}{x:DataW H × List MemPlace}(ht:Tryd.prog.underlying t=some (.slice e))(hsz:Tryd.prog.cellsOf e=sz)(hby:Tryd.prog.bytesOf e=by')(hs0:0<sz)
 (h:DataW.trod enc Tryd.prog W 0 (fun _=>true) true n t [c]=some x) (hx:Szd x.1 t) {α:Type} (dflt:α) (Pr:α→List Value→Prop)
 (hel:∀ n cs (y:DataW H × List MemPlace),DataW.trod enc Tryd.prog W 0 (fun _=>true) true n e cs=some y→Szd y.1 e→∃ q,Pr q cs) :
 ∃ l:List α,l.length*by'≤reachBytes∧∃ a cp,c = .slice a l.length cp∧(l≠[]→∃ k o,a=some ⟨k,o,none⟩∧k<W.heap.size∧∀ j (h:j<l.length),∃ cs,Pr l[j] cs∧∀ i,i<sz→W.cell? ⟨k,o+j*sz+i,none⟩=cs[i]?):=by
 rcases Deep.open_slice ht h with⟨hcs,hx⟩|⟨a,len,cap,m,k,D,Pl,hcs,_,hl,hm,hmm,hxx,hc⟩
 ·have hcs:=(List.cons.inj hcs).1
  subst hcs
  exact⟨[],by simp,none,0,rfl,fun h=>absurd rfl h⟩
 ·have hcs:=(List.cons.inj hcs).1
  subst hcs
  have hmc:m=cap:=by simpa using hmm
  subst hmc
  have hw:∀ q,q∈(((((List.range len).map D).length+((List.range (m-len)).map fun j=>D (len+j)).length)*by')::DataW.weightsAll Tryd.prog e ((List.range len).map D))→q≤reachBytes:=by
   intro q hq
   apply hx
   rw[hxx]
   simp only[DataW.weights,ht,hby]
   rcases List.mem_cons.1 hq with rfl | hq
   ·exact List.mem_cons_self
   ·exact List.mem_cons_of_mem _ (List.mem_append_left _ hq)
  have hlw:len*by'≤reachBytes:=by
   have:=hw _ List.mem_cons_self
   simp only[List.length_map,List.length_range] at this
   exact Nat.le_trans (Nat.mul_le_mul_right by' (by omega)) this
  have hv:∀ i,∃ q:α × List Value,i<len→Pr q.1 q.2∧q.2.length=sz∧∀ j,j<sz→W.cell? ((a.add (i*sz)).add j)=q.2[j]?:=by
   intro i
   by_cases hi:i<len
   ·obtain⟨cs',r0,r1⟩:=hc i (by omega)
    rw[hsz] at r0
    obtain⟨-,hcl,hcell⟩:=World.cells?_some r0
    obtain⟨q,hq⟩:=hel _ _ _ r1 (fun q hq=>hw q (List.mem_cons_of_mem _ (weightsAll_mem hq (List.mem_map.2 ⟨i,List.mem_range.2 hi,rfl⟩))))
    exact⟨(q,cs'),fun _=>⟨hq,hcl,hcell⟩⟩
   ·exact⟨(dflt,[]),fun h=>absurd h hi⟩
  obtain⟨Q,hQ⟩:∃ Q:Nat→α × List Value,∀ i,i<len→Pr (Q i).1 (Q i).2∧(Q i).2.length=sz∧∀ j,j<sz→W.cell? ((a.add (i*sz)).add j)=(Q i).2[j]? :=
   ⟨fun i=>(hv i).choose,fun i=>(hv i).choose_spec⟩
  have hlen:((List.range len).map fun i=>(Q i).1).length=len:=by simp
  refine⟨(List.range len).map fun i=>(Q i).1,by rw[hlen];exact hlw,some a,m,by rw[hlen],fun hne=>?_⟩
  obtain⟨b,off,spot⟩:=a
  have hpos:0<len:=by
   rcases Nat.eq_zero_or_pos len with h0 | h0
   ·exfalso;apply hne;rw[h0];rfl
   ·exact h0
  have h00:W.cell? ((({ block:=b,off:=off,spot:=spot }:Addr).add (0*sz)).add 0)=some ((Q 0).2[0]'(by rw[(hQ 0 hpos).2.1];exact hs0)):=by
   rw[(hQ 0 hpos).2.2 0 hs0];exact List.getElem?_eq_getElem _
  have hspot:spot=none:=by
   have:=World.cell?_spot h00
   simpa[Addr.add] using this
  subst hspot
  simp only[addr_off] at hQ h00
  refine⟨b,off,rfl,cell_lt h00,fun j hj=>?_⟩
  have hj':j<len:=by simpa using hj
  refine⟨(Q j).2,?_,(hQ j hj').2.2⟩
  have:=(hQ j hj').1
  simpa using this
theorem byt3 : Tryd.prog.bytesOf 3=8:=by kernel_rfl
theorem byt71 : Tryd.prog.bytesOf 71=88:=by kernel_rfl
theorem byt67 : Tryd.prog.bytesOf 67=48:=by kernel_rfl
theorem ints_sz {H:Type}{enc:TypeId × Value→H}{W:World}{n:Nat}{c:Value}{x:DataW H × List MemPlace}(h:DataW.trod enc Tryd.prog W 0 (fun _=>true) true n 64 [c]=some x)(hx:Szd x.1 64):∃ l,IA W c l∧l.length≤17592186043904:=by
 obtain⟨l,hl,a,cp,e,hh⟩:=rows_sz under64 cel3 byt3 (by omega) h hx (0:Int) (fun q cs=>cs=[vI q]) (fun n cs y hy _=>by
  obtain⟨z,e,-,-⟩:=DataW.trod_int und3 hy
  exact⟨z,e⟩)
 have hr:=reach_is
 refine⟨l,⟨a,cp,e,fun hne=>?_⟩,by omega⟩
 obtain⟨k,o,ea,hk,hc⟩:=hh hne
 refine⟨k,o,ea,hk,fun j hj=>?_⟩
 obtain⟨cs,rfl,h1⟩:=hc j hj
 have:=h1 0 (by omega)
 rw[Nat.mul_one] at this
 exact this
theorem int_ofB {H:Type}{enc:TypeId × Value→H}{W:World}{n:Nat}{c:Value}{x:DataW H × List MemPlace}(h:DataW.trod enc Tryd.prog W 0 (fun _=>true) true n 3 [c]=some x):∃ z:Int,c=vI z∧-9223372036854775808≤z∧z<9223372036854775808:=by
 obtain⟨z,e,-,hw⟩:=DataW.trod_int und3 h
 have:=bounds_i64 hw
 exact⟨z,(List.cons.inj e).1,by omega,by omega⟩
def IsIz (W:World)(c:PI)(cs:List Value):Prop:=∃ av rv,cs=[vI c.op,vI c.r,vI c.s,vI c.t,vI c.n,av,rv]∧IA W av c.args∧IA W rv c.rets∧c.args.length≤17592186043904∧c.rets.length≤17592186043904∧In64n c
theorem instr_sz {H:Type}{enc:TypeId × Value→H}{W:World}{n:Nat}{cs:List Value}{x:DataW H × List MemPlace}(h:DataW.trod enc Tryd.prog W 0 (fun _=>true) true n 71 cs=some x)(hx:Szd x.1 71):∃ c:PI,IsIz W c cs:=by
 obtain⟨xs,k,-,rfl,hcl,hxl,hf⟩:=DataW.trod_struct und71 h
 rw[cel71] at hcl
 have hxl:xs.length=7:=hxl
 obtain⟨c0,r0,rfl,hl1⟩:=len_cons hcl
 obtain⟨c1,r1,rfl,hl2⟩:=len_cons hl1
 obtain⟨c2,r2,rfl,hl3⟩:=len_cons hl2
 obtain⟨c3,r3,rfl,hl4⟩:=len_cons hl3
 obtain⟨c4,r4,rfl,hl5⟩:=len_cons hl4
 obtain⟨c5,r5,rfl,hl6⟩:=len_cons hl5
 obtain⟨c6,r6,rfl,hl7⟩:=len_cons hl6
 obtain rfl:=List.length_eq_zero_iff.1 hl7
 have g0 := hf 0 (fld "Op" 3 0 0) rfl
 have g1 := hf 1 (fld "R" 3 1 8) rfl
 have g2 := hf 2 (fld "S" 3 2 16) rfl
 have g3 := hf 3 (fld "T" 3 3 24) rfl
 have g4 := hf 4 (fld "N" 3 4 32) rfl
 have g5 := hf 5 (fld "Args" 64 5 40) rfl
 have g6 := hf 6 (fld "Rets" 64 6 64) rfl
 have ee:∀ i (hi:i<7),xs[i]?=some (xs[i]'(by omega)):=fun i hi=>List.getElem?_eq_getElem (by omega)
 rw[ee 0 (by omega)] at g0
 rw[ee 1 (by omega)] at g1
 rw[ee 2 (by omega)] at g2
 rw[ee 3 (by omega)] at g3
 rw[ee 4 (by omega)] at g4
 rw[ee 5 (by omega)] at g5
 rw[ee 6 (by omega)] at g6
 simp only[fld,cel3,cel64,List.drop_zero,List.drop_succ_cons,List.take_succ_cons,List.take_zero] at g0 g1 g2 g3 g4 g5 g6
 obtain⟨z0,rfl⟩:=int_of g0
 obtain⟨z1,rfl⟩:=int_of g1
 obtain⟨z2,rfl⟩:=int_of g2
 obtain⟨z3,rfl⟩:=int_of g3
 obtain⟨z4,rfl,n4⟩:=int_ofB g4
 have bb : ∀ i (hi : i < 7) u, (#[fld "Op" 3 0 0, fld "R" 3 1 8, fld "S" 3 2 16, fld "T" 3 3 24, fld "N" 3 4 32, fld "Args" 64 5 40, fld "Rets" 64 6 64].toList.map (·.type))[i]? = some u → Szd (xs[i]'(by omega)).1 u := fun i hi u hu q hq => by
  apply hx
  simp only[DataW.weights,und71]
  exact DataW.weights_mem_each (j:=i) (t:=u) (d:=(xs[i]'(by omega)).1) hu (by rw[List.getElem?_map,ee i hi];rfl) q hq
 obtain⟨la,hA,hla⟩:=ints_sz g5 (bb 5 (by omega) 64 rfl)
 obtain⟨lr,hR,hlr⟩:=ints_sz g6 (bb 6 (by omega) 64 rfl)
 exact⟨⟨z0,z1,z2,z3,z4,la,lr⟩,c5,c6,rfl,hA,hR,hla,hlr,n4⟩
theorem code_sz {H:Type}{enc:TypeId × Value→H}{W:World}{n:Nat}{c:Value}{x:DataW H × List MemPlace}(h:DataW.trod enc Tryd.prog W 0 (fun _=>true) true n 65 [c]=some x)(hx:Szd x.1 65):∃ l,CA W c l∧FineC l∧∀ c∈l,In64n c:=by
 obtain⟨l,hl,a,cp,e,hh⟩:=rows_sz under65 cel71 byt71 (by omega) h hx (⟨0,0,0,0,0,[],[]⟩:PI) (IsIz W) (fun n cs y hy hs=>instr_sz hy hs)
 have hr:=reach_is
 refine⟨l,⟨a,cp,e,fun hne=>?_⟩,⟨by omega,fun c hc=>?_⟩,fun c hc=>?_⟩
 ·obtain⟨k,o,ea,hk,hc⟩:=hh hne
  refine⟨k,o,ea,hk,fun j hj=>?_⟩
  obtain⟨cs,⟨av,rv,rfl,h2,h3,-⟩,h1⟩:=hc j hj
  exact⟨av,rv,h1 0 (by omega),h1 1 (by omega),h1 2 (by omega),h1 3 (by omega),h1 4 (by omega),h1 5 (by omega),h1 6 (by omega),h2,h3⟩
 ·obtain⟨j,hj,rfl⟩:=List.getElem_of_mem hc
  obtain⟨k,o,ea,hk,hcc⟩:=hh (by intro e;simp[e] at hj)
  obtain⟨cs,⟨av,rv,-,-,-,h4,h5,-⟩,-⟩:=hcc j hj
  exact⟨h4,h5⟩
 ·obtain⟨j,hj,rfl⟩:=List.getElem_of_mem hc
  obtain⟨k,o,ea,hk,hcc⟩:=hh (by intro e;simp[e] at hj)
  obtain⟨cs,⟨av,rv,-,-,-,-,-,h6⟩,-⟩:=hcc j hj
  exact h6
def IsFz (W:World)(f:PF)(cs:List Value):Prop:=∃ cv,cs=[vI f.P,vI f.R,vI f.V,cv]∧CA W cv f.code∧FineC f.code∧∀ c∈f.code,In64n c
theorem func_sz {H:Type}{enc:TypeId × Value→H}{W:World}{n:Nat}{cs:List Value}{x:DataW H × List MemPlace}(h:DataW.trod enc Tryd.prog W 0 (fun _=>true) true n 67 cs=some x)(hx:Szd x.1 67):∃ f:PF,IsFz W f cs:=by
 obtain⟨xs,k,-,rfl,hcl,hxl,hf⟩:=DataW.trod_struct und67 h
 rw[cel67] at hcl
 have hxl:xs.length=4:=hxl
 obtain⟨c0,r0,rfl,hl1⟩:=len_cons hcl
 obtain⟨c1,r1,rfl,hl2⟩:=len_cons hl1
 obtain⟨c2,r2,rfl,hl3⟩:=len_cons hl2
 obtain⟨c3,r3,rfl,hl4⟩:=len_cons hl3
 obtain rfl:=List.length_eq_zero_iff.1 hl4
 have g0 := hf 0 (fld "Params" 3 0 0) rfl
 have g1 := hf 1 (fld "Results" 3 1 8) rfl
 have g2 := hf 2 (fld "Vars" 3 2 16) rfl
 have g3 := hf 3 (fld "Code" 65 3 24) rfl
 have ee:∀ i (hi:i<4),xs[i]?=some (xs[i]'(by omega)):=fun i hi=>List.getElem?_eq_getElem (by omega)
 rw[ee 0 (by omega)] at g0
 rw[ee 1 (by omega)] at g1
 rw[ee 2 (by omega)] at g2
 rw[ee 3 (by omega)] at g3
 simp only[fld,cel3,cel65,List.drop_zero,List.drop_succ_cons,List.take_succ_cons,List.take_zero] at g0 g1 g2 g3
 obtain⟨z0,rfl⟩:=int_of g0
 obtain⟨z1,rfl⟩:=int_of g1
 obtain⟨z2,rfl⟩:=int_of g2
 have bb:Szd (xs[3]'(by omega)).1 65:=fun q hq=>by
  apply hx
  simp only[DataW.weights,und67]
  exact DataW.weights_mem_each (j:=3) (t:=65) (d:=(xs[3]'(by omega)).1) rfl (by rw[List.getElem?_map,ee 3 (by omega)];rfl) q hq
 obtain⟨l,hC,hl⟩:=code_sz g3 bb
 exact⟨⟨z0,z1,z2,l⟩,c3,rfl,hC,hl⟩
theorem funcs_sz {H:Type}{enc:TypeId × Value→H}{W:World}{n:Nat}{c:Value}{x:DataW H × List MemPlace}(h:DataW.trod enc Tryd.prog W 0 (fun _=>true) true n 24 [c]=some x)(hx:Szd x.1 24):∃ l,FA W c l∧FineP l∧∀ f∈l,∀ c∈f.code,In64n c:=by
 obtain⟨l,hl,a,cp,e,hh⟩:=rows_sz under24 cel67 byt67 (by omega) h hx (⟨0,0,0,[]⟩:PF) (IsFz W) (fun n cs y hy hs=>func_sz hy hs)
 have hr:=reach_is
 refine⟨l,⟨a,cp,e,fun hne=>?_⟩,⟨by omega,fun c hc=>?_⟩,fun c hc=>?_⟩
 ·obtain⟨k,o,ea,hk,hc⟩:=hh hne
  refine⟨k,o,ea,hk,fun j hj=>?_⟩
  obtain⟨cs,⟨cv,rfl,h2,-⟩,h1⟩:=hc j hj
  exact⟨cv,h1 0 (by omega),h1 1 (by omega),h1 2 (by omega),h1 3 (by omega),h2⟩
 ·obtain⟨j,hj,rfl⟩:=List.getElem_of_mem hc
  obtain⟨k,o,ea,hk,hcc⟩:=hh (by intro e;simp[e] at hj)
  obtain⟨cs,⟨cv,-,-,h4,-⟩,-⟩:=hcc j hj
  exact h4
 ·obtain⟨j,hj,rfl⟩:=List.getElem_of_mem hc
  obtain⟨k,o,ea,hk,hcc⟩:=hh (by intro e;simp[e] at hj)
  obtain⟨cs,⟨cv,-,-,-,h5⟩,-⟩:=hcc j hj
  exact h5
theorem program_sz {H:Type}{enc:TypeId × Value→H}{W:World}{n:Nat}{cs:List Value}{x:DataW H × List MemPlace}(h:DataW.trod enc Tryd.prog W 0 (fun _=>true) true n 26 cs=some x)(hx:Szd x.1 26):∃ (G:Int) (fv:Value) (fs:List PF),cs=[vI G,fv]∧FA W fv fs∧FineP fs∧∀ f∈fs,∀ c∈f.code,In64n c:=by
 obtain⟨xs,k,-,rfl,hcl,hxl,hf⟩:=DataW.trod_struct und26 h
 rw[cel26] at hcl
 have hxl:xs.length=2:=hxl
 obtain⟨c0,r0,rfl,hl1⟩:=len_cons hcl
 obtain⟨c1,r1,rfl,hl2⟩:=len_cons hl1
 obtain rfl:=List.length_eq_zero_iff.1 hl2
 have g0 := hf 0 (fld "Globals" 3 0 0) rfl
 have g1 := hf 1 (fld "Funcs" 24 1 8) rfl
 have ee:∀ i (hi:i<2),xs[i]?=some (xs[i]'(by omega)):=fun i hi=>List.getElem?_eq_getElem (by omega)
 rw[ee 0 (by omega)] at g0
 rw[ee 1 (by omega)] at g1
 simp only[fld,cel3,cel24,List.drop_zero,List.drop_succ_cons,List.take_succ_cons,List.take_zero] at g0 g1
 obtain⟨z0,rfl⟩:=int_of g0
 have bb:Szd (xs[1]'(by omega)).1 24:=fun q hq=>by
  apply hx
  simp only[DataW.weights,und26]
  exact DataW.weights_mem_each (j:=1) (t:=24) (d:=(xs[1]'(by omega)).1) rfl (by rw[List.getElem?_map,ee 1 (by omega)];rfl) q hq
 obtain⟨l,hC,hl⟩:=funcs_sz g1 bb
 exact⟨z0,c1,l,rfl,hC,hl⟩
end Go.Proofs.YtingenonbkencaaDoor
namespace Go.Proofs.YtingenonbkencaaDoor
open Go.RowKit (wrap32 wrap64)
variable {b br wb g0 K:Nat} {rv:Value}
def pi (a:AI):PI:=⟨a.op,a.r,a.s,a.t,a.n,a.args,a.rets⟩
abbrev H4 : List Nat:=[149,150,151,153]
theorem head_b (b:Nat)(x:WS × Unit):(headX (leaving b) x:X (WS × Unit))=headX (leaving 0) x:=rfl
theorem instr_b (b:Nat)(heads:List (Nat × Nat))(fR i:Nat)(la lr:List Int)(s:WS):(instrL (b:=b) heads fR i la lr s:X (WS × Unit))=instrL (b:=0) heads fR i la lr s:=rfl
theorem then_eq {c c':X (WS × Unit)}{p p':WS × Unit→X (WS × Unit)}(h:c=c')(hp:∀ y,p y=p' y):thenX c p=thenX c' p':=by
 subst h
 cases c with
 | ok y=>exact hp y
 | error z=>rfl
theorem headsP_b (b:Nat):∀ (fs:List PF) (s:WS),headsP b fs s=headsP 0 fs s
 | [],_=>rfl
 | f::r,s=>then_eq (head_b b (inF f s,())) (fun y=>headsP_b b r y.1)
theorem codeP_b (b:Nat)(heads:List (Nat × Nat))(fR:Nat):∀ (l:List PI) (i:Nat) (s:WS),codeP b heads fR i l s=codeP 0 heads fR i l s
 | [],_,_=>rfl
 | c::r,i,s=>then_eq (instr_b b heads fR i c.args c.rets (inI c s)) (fun y=>codeP_b b heads fR r (i+1) y.1)
theorem funcsP_b (b:Nat)(heads:List (Nat × Nat)):∀ (fs:List PF) (s:WS),funcsP b heads fs s=funcsP 0 heads fs s
 | [],_=>rfl
 | f::r,s=>then_eq (codeP_b b heads f.R.toNat f.code 0 (inF f s)) (fun y=>funcsP_b b heads r y.1)
theorem ask_b (b o size:Nat)(c:WS→Bool)(er:Int)(x:WS × Unit):(askX (leaving b) o size c er x:X (WS × Unit))=askX (leaving 0) o size c er x:=rfl
theorem overP_b (b:Nat)(G:Int)(fs:List PF)(s:WS):overP b G fs s=overP 0 G fs s :=
 then_eq (ask_b b _ _ _ _ _) (fun y=>then_eq (ask_b b _ _ _ _ y) (fun y=>then_eq (headsP_b b fs y.1) (fun y=>funcsP_b b _ fs y.1)))
theorem sim_overP (G:Int)(fs:List PF)(s s':WS)(h:s.bare=s'.bare):SimX (overP 0 G fs s) (overP 0 G fs s'):=by
 refine SimX.then (sim_ask (b:=0) 146 1 _ (fun _=>rfl) 18 _ _ ?_) (fun y y' hy=>SimX.then (sim_ask (b:=0) 161 2 _ (fun _=>rfl) 20 y y' hy) (fun y y' hy=>SimX.then (sim_headsP 0 fs y.1 y'.1 hy) (fun y y' hy=>sim_funcsP 0 _ fs y.1 y'.1 hy)))
 exact(congrArg (fun t:WS=>({ t with globals:=G,count:=(fs.length:Nat) }:WS)) h:({ s.bare with globals:=G,count:=(fs.length:Nat) }:WS)={ s'.bare with globals:=G,count:=(fs.length:Nat) })
def answerP (G:Int)(fs:List PF):X (WS × Unit):=overP 0 G fs (WS.start nilS)
theorem sim_answer (b:Nat)(v:Value)(G:Int)(fs:List PF):SimX (overP b G fs (WS.start v)) (answerP G fs):=by
 rw[overP_b]
 exact sim_overP G fs _ _ rfl
def Told (r:X (WS × Unit)):Prop:=∀ z,r = .error z→z.1≠0
theorem told_ok (y:WS × Unit):Told (.ok y):=fun _ h=>by cases h
theorem told_then {c:X (WS × Unit)}{p:WS × Unit→X (WS × Unit)}(hc:Told c)(hp:∀ y,Told (p y)):Told (thenX c p):=by
 cases c with
 | ok y=>exact hp y
 | error z=>exact fun z' h=>hc z' h
theorem told_next {b:Nat}(o size:Nat)(x:WS × Unit):Told (nextX (leaving b) o size x):=by
 obtain⟨s,u⟩:=x
 intro z h
 cases (L_next o size s u).symm.trans h
theorem told_ask {b:Nat}(o size:Nat)(c:WS→Bool)(er:Int)(he:er≠0)(x:WS × Unit):Told (askX (leaving b) o size c er x):=by
 obtain⟨s,u⟩:=x
 intro z h
 have h:=(L_ask o size c er s u).symm.trans h
 split at h
 ·cases h
 ·cases h;exact he
theorem told_loc {b:Nat}(n p:Int)(x:WS × Unit):Told (locX (leaving b) n p x):=by
 intro z h
 unfold locX at h
 split at h
 ·cases h
 ·cases h;simp
theorem told_front {b:Nat}(ends makes nb:Bool)(i:Nat)(p:Int)(x:WS × Unit):Told (frontOk (leaving b) ends makes nb i p x):=by
 intro z h
 unfold frontOk at h
 split at h
 ·cases h;simp
 ·split at h
  ·cases h;simp
  ·split at h
   ·exact told_loc (b:=b) 1 p x z h
   ·cases h
theorem told_vars : ∀ (l:List Int) (x:WS × Unit),Told (varsL l x)
 | [],_=>told_ok _
 | v::r,x=>by
   refine told_then (c:=oneL v x) (p:=varsL r) ?_ (fun y=>told_vars r y)
   intro z h
   unfold oneL at h
   split at h
   ·cases h
   ·cases h;simp
theorem told_list (n:Nat)(l:List Int)(x:WS × Unit):Told (listL n l x):=by
 intro z h
 unfold listL at h
 split at h
 ·exact told_vars l _ z h
 ·cases h;simp
theorem told_parts {b:Nat}(op:Nat)(c:X (WS × Unit))(h:Told c):Told (partsX (leaving b) op c):=by
 have hv:∀ o (y:WS × Unit),Told (varPart (leaving b) o y):=fun o y=>told_ask (b:=b) _ _ _ _ (by decide) y
 have hn:∀ (y:WS × Unit),Told (intPart (leaving b) y):=fun y=>told_next (b:=b) _ _ y
 have hf:∀ (y:WS × Unit),Told (fieldsPart (leaving b) y):=fun y=>told_ask (b:=b) _ _ _ _ (by decide) y
 have hd:∀ (y:WS × Unit),Told (fieldPart (leaving b) y):=fun y=>told_ask (b:=b) _ _ _ _ (by decide) y
 have hg:∀ (y:WS × Unit),Told (globalPart (leaving b) y):=fun y=>told_ask (b:=b) _ _ _ _ (by decide) y
 have ht:∀ (y:WS × Unit),Told (targetPart (leaving b) y):=fun y=>told_ask (b:=b) _ _ _ _ (by decide) y
 match op with
 | 1=>exact told_then (told_then h (hv 155)) hn
 | 2=>exact told_then (told_then h (hv 155)) (hv 156)
 | 3=>exact told_then (told_then (told_then h (hv 155)) (hv 156)) (hv 157)
 | 4=>exact told_then (told_then (told_then h (hv 155)) (hv 156)) (hv 157)
 | 5=>exact told_then (told_then h (hv 155)) (hv 156)
 | 6=>exact told_then (told_then h (hv 155)) hf
 | 7=>exact told_then (told_then (told_then h (hv 155)) (hv 156)) hd
 | 8=>exact told_then (told_then (told_then h (hv 155)) (hv 156)) hd
 | 9=>exact told_then (told_then h (hv 155)) hg
 | 10=>exact told_then (told_then h (hv 156)) hg
 | 12=>exact told_then h (hv 156)
 | 13=>exact told_then h ht
 | 14=>exact told_then (told_then h (hv 156)) ht
 | 16=>exact told_then h (hv 155)
 | 17=>exact told_then (told_then (told_then h (hv 155)) (hv 156)) (hv 157)
 | 0=>exact h
 | 11=>exact h
 | 15=>exact h
 | n+18=>exact h
theorem told_instr {b:Nat}(heads:List (Nat × Nat))(fR i:Nat)(la lr:List Int)(s:WS):Told (instrL (b:=b) heads fR i la lr s):=by
 by_cases h1:1≤s.op∧s.op≤17
 ·by_cases h15:s.op=15
  ·intro z h
   exact told_then (told_front (b:=b) _ _ _ _ _ _) (fun y=>told_list fR la y) z ((instrL_15 heads fR i la lr s h15).symm.trans h)
  ·by_cases h11:s.op=11
   ·intro z h
    exact told_then (told_then (told_front (b:=b) _ _ _ _ _ _) (fun y=>told_ask (b:=b) _ _ _ _ (by decide) y)) (fun y=>told_then (told_list _ la y) (fun y2=>told_list _ lr y2)) z ((instrL_11 heads fR i la lr s h11).symm.trans h)
   ·intro z h
    exact told_parts (b:=b) _ _ (told_front (b:=b) _ _ _ _ _ _) z ((instrL_k heads fR i la lr s h1 h15 h11).symm.trans h)
 ·intro z h
  cases (instrL_no heads fR i la lr s h1).symm.trans h
  simp
theorem told_head {b:Nat}(x:WS × Unit):Told (headX (leaving b) x):=by
 have h2:Told _:=told_then (told_next (b:=b) 149 1 x) fun y1=>told_then (told_next (b:=b) 150 1 y1) fun y2=>told_then (told_next (b:=b) 151 1 y2) fun y3=>told_then (told_next (b:=b) 153 2 y3) fun y4 =>
  (show Told (thenX (headOk y4.1 x.1.at') fun _=>locX (leaving b) y4.1.fV x.1.at' y4) from by
    cases h:headOk y4.1 x.1.at' with
    | ok u=>exact told_loc (b:=b) _ _ _
    | error z =>
      intro z' hz
      cases hz
      unfold headOk at h
      repeat' split at h
      all_goals first | (cases h;simp) | cases h)
 intro z h
 exact h2 z ((headX_then (leaving b) x).symm.trans h)
theorem told_headsP (b:Nat):∀ (fs:List PF) (s:WS),Told (headsP b fs s)
 | [],_=>told_ok _
 | f::r,s=>told_then (told_head (b:=b) _) (fun y=>told_headsP b r y.1)
theorem told_codeP (b:Nat)(heads:List (Nat × Nat))(fR:Nat):∀ (l:List PI) (i:Nat) (s:WS),Told (codeP b heads fR i l s)
 | [],_,_=>told_ok _
 | c::r,i,s=>told_then (told_instr (b:=b) _ _ _ _ _ _) (fun y=>told_codeP b heads fR r (i+1) y.1)
theorem told_funcsP (b:Nat)(heads:List (Nat × Nat)):∀ (fs:List PF) (s:WS),Told (funcsP b heads fs s)
 | [],_=>told_ok _
 | f::r,s=>told_then (told_codeP b _ _ _ _ _) (fun y=>told_funcsP b heads r y.1)
theorem told_overP (b:Nat)(G:Int)(fs:List PF)(s:WS):Told (overP b G fs s) :=
 told_then (told_ask (b:=b) _ _ _ _ (by decide) _) (fun y=>told_then (told_ask (b:=b) _ _ _ _ (by decide) y) (fun y=>told_then (told_headsP b fs y.1) (fun y=>told_funcsP b _ fs y.1)))
end Go.Proofs.YtingenonbkencaaDoor
