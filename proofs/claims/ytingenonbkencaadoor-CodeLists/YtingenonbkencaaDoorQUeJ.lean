import Derived.Test.YtingenonbkencaaDoorQLkJ
import Derived.Test.YtingenonbkencaaDoorQRlJ
import Derived.Test.YtingenonbkencaaDoorQKcJ
import Derived.Test.YtingenonbkencaaDoorQN4
import Derived.Test.YtingenonbkencaaDoorQRtJ
import Derived.Deep.CutBlock
set_option linter.unusedVariables false
set_option linter.unusedSimpArgs false
namespace Go.Proofs.YtingenonbkencaaDoor
open Go.RowKit (wrap32 wrap64)
def lsC (L:List CI):List Value:=L.flatMap (fun y=>[y.2.1,y.2.2])
def lsF (L:List FI):List Value:=L.flatMap (fun x=>lsC x.2.2)
structure FOa (w:World)(B:Nat)(v:Value)(L:List FI):Prop extends FO w B v L where
 ls:(lsF L).Pairwise Lt
 cs:(L.map (fun x=>x.2.1)).Pairwise Lt
theorem NewL.own {w0 w:World}{v:Value}{l:List Int}(h:NewL w0 w v l)(hl:l.length≤maxLen):IOwn w w0.heap.size v l:=by
 rcases h with⟨rfl,rfl⟩|⟨g,h1,rfl,hb⟩
 ·exact World.ownsRow_nil _ _ _ _
 ·exact ⟨by simp,Or.inr ⟨g,l.length,_,rfl,h1,hb,Nat.le_refl _,hl,by simp,by
   show(l.map vI).take (l.length*1)=l.map vI
   exact List.take_of_length_le (by simp)⟩⟩
theorem CodeCells.list {w0 w:World}:∀ {l:List AI} {cs:List Value},CodeCells w0 w l cs→(∀ a∈l,a.args.length≤maxLen∧a.rets.length≤maxLen) →
 ∃ L:List CI,L.map (·.1)=l.map pi∧cs=L.flatMap rowI∧(∀ x∈L,IOwn w w0.heap.size x.2.1 x.1.args∧IOwn w w0.heap.size x.2.2 x.1.rets)∧(lsC L).Pairwise Lt∧∀ v∈lsC L,v∈cs
 | [],cs,h,_=>⟨[],rfl,(by rw[show cs=[] from h];rfl),(by simp),List.Pairwise.nil,(by simp[lsC])⟩
 | a::l,cs,h,hb=>by
   obtain⟨av,rv,rest,rfl,h1,h2,h3,h4,h5⟩:=h
   obtain⟨L,k1,k2,k3,k4,k5⟩:=CodeCells.list h3 (fun x hx=>hb x (List.mem_cons_of_mem _ hx))
   obtain⟨b1,b2⟩:=hb a List.mem_cons_self
   refine⟨(pi a,av,rv)::L,by simp[k1],by rw[k2];rfl,fun x hx=>?_,?_,fun v hv=>?_⟩
   ·rcases List.mem_cons.1 hx with rfl | hx
    ·exact⟨h1.own b1,h2.own b2⟩
    ·exact k3 x hx
   ·show(av::rv::lsC L).Pairwise Lt
    refine List.Pairwise.cons (fun v hv=>?_) (List.Pairwise.cons (fun v hv=>?_) k4)
    ·rcases List.mem_cons.1 hv with rfl | hv
     ·exact h4
     ·exact(h5 v (k5 v hv)).1
    ·exact(h5 v (k5 v hv)).2
   ·have hv:v∈av::rv::lsC L:=hv
    rcases List.mem_cons.1 hv with rfl | hv
    ·simp
    ·rcases List.mem_cons.1 hv with rfl | hv
     ·simp
     ·exact List.mem_append_right _ (k5 v hv)
theorem CodesAt.list {w:World}:∀ {w0:World} {ls:List (List AI)} {cs:List Value} {done:List HD},CodesAt w0 w ls cs→ls.length=done.length→cs.length=done.length→(∀ l∈ls,l.length≤maxLen∧∀ a∈l,a.args.length≤maxLen∧a.rets.length≤maxLen) →
 ∃ L:List FI,L.map (·.1)=pfs done ls∧L.map (fun x=>x.2.1)=cs∧funcCells done cs=L.flatMap rowF∧(∀ x∈L,CO w w0.heap.size x.2.1 x.2.2∧x.2.2.map (·.1)=x.1.code)∧(lsF L).Pairwise Lt∧cs.Pairwise Lt∧(∀ v∈lsF L,∀ k,v.ownBlock=some k→w0.heap.size≤k)∧∀ v∈cs,∀ k,v.ownBlock=some k→w0.heap.size≤k
 | w0,[],[],[],_,_,_,_=>⟨[],rfl,rfl,rfl,(by simp),List.Pairwise.nil,List.Pairwise.nil,(by simp[lsF]),(by simp)⟩
 | _,[],c::cs,[],_,_,h,_=>by simp at h
 | _,[],_,d::done,_,h,_,_=>by simp at h
 | _,l::ls,_,[],_,h,_,_=>by simp at h
 | _,l::ls,[],d::done,_,_,h,_=>by simp at h
 | w0,l::ls,c::cs,d::done,⟨gc,cells,h1,h2,h3,h4,w1,h5,h6,h7,h8,h9⟩,hl,hc,hb=>by
   obtain⟨L,k1,k2,k3,k4,k5,k6,k7,k8⟩:=CodesAt.list (done:=done) h9 (by simpa using hl) (by simpa using hc) (fun x hx=>hb x (List.mem_cons_of_mem _ hx))
   obtain⟨b1,b2⟩:=hb l List.mem_cons_self
   obtain⟨M,m1,m2,m3,m4,m5⟩:=CodeCells.list h4 b2
   have hlen:M.length=l.length:=by have:=congrArg List.length m1;simpa using this
   have hco:CO w w0.heap.size c M:=by
    refine⟨?_,m3⟩
    have hml:=h4.length
    rw[m2] at hml h3
    exact⟨by rw[hml,hlen],Or.inr ⟨gc,l.length,_,by rw[hlen];exact h2,h1,h3,by omega,b1,hml,by
     show(M.flatMap rowI).take (M.length*7)=M.flatMap rowI
     rw[hlen]
     exact List.take_of_length_le (by rw[hml];exact Nat.le_refl _)⟩⟩
   refine⟨(⟨d.P,d.R,d.V,l.map pi⟩,c,M)::L,by rw[List.map_cons,k1];rfl,by rw[List.map_cons,k2],by rw[show funcCells (d::done) (c::cs)=[vI d.P,vI d.R,vI d.V,c]++funcCells done cs from rfl,k3];rfl,fun x hx=>?_,?_,?_,fun v hv k e=>?_,fun v hv k e=>?_⟩
   ·rcases List.mem_cons.1 hx with rfl | hx
    ·exact⟨hco,m1⟩
    ·exact⟨(k4 x hx).1.mono h5,(k4 x hx).2⟩
   ·show(lsC M++lsF L).Pairwise Lt
    refine List.pairwise_append.2 ⟨m4,k5,fun u hu v hv a b e1 e2=>?_⟩
    have:=h8 u (m5 u hu) a e1
    have:=k7 v hv b e2
    omega
   ·refine List.Pairwise.cons (fun v hv a b e1 e2=>?_) k6
    have:=k8 v hv b e2
    rw[h2] at e1
    have e3:gc=a:=by injection e1
    omega
   ·have hv:v∈lsC M++lsF L:=hv
    rcases List.mem_append.1 hv with hv | hv
    ·exact(h4.blk v (m5 v hv) k e).1
    ·exact Nat.le_trans h5 (k7 v hv k e)
   ·rcases List.mem_cons.1 hv with rfl | hv
    ·rw[h2] at e
     cases e
     exact h1
    ·exact Nat.le_trans h5 (k8 v hv k e)
theorem LaidP.own {w0 w:World}{v:Value}{G:Int}{done:List HD}{ls:List (List AI)}(h:LaidP w0 w v G done ls)(hb:∀ l∈ls,l.length≤maxLen∧∀ a∈l,a.args.length≤maxLen∧a.rets.length≤maxLen) :
 ∃ fv L,v = .agg #[vI G,fv]∧FOa w w0.heap.size fv L∧L.map (·.1)=pfs done ls∧L.length=done.length:=by
 obtain⟨g,cap,cs,tl,h1,h2,h3,h4,h5,h6,h7,h8,h9,h10,h11,h12⟩:=h
 obtain⟨L,k1,k2,k3,k4,k5,k6,-,-⟩:=CodesAt.list (done:=done) h8 h4 h3 hb
 have hL:L.length=done.length:=by have:=congrArg List.length k2;simp at this;omega
 have hfl:=funcCells_length done cs h3
 have hrl:(L.flatMap rowF).length=done.length*4:=by rw[← k3,hfl]
 refine⟨_,L,h2,⟨⟨?_,k4⟩,k5,by rw[k2];exact k6⟩,k1,hL⟩
 rw[hL]
 refine⟨by rw[hrl],Or.inr ⟨g,cap,_,rfl,h1,h7,h10,h11,?_,?_⟩⟩
 ·simp[hfl];omega
 ·rw[k3,List.take_append_of_le_length (by omega)]
  exact List.take_of_length_le (by omega)
def lsP (L:List FI):List (Value × List Int):=L.flatMap (fun x=>x.2.2.flatMap (fun y=>[(y.2.1,y.1.args),(y.2.2,y.1.rets)]))
theorem lsP_fst (L:List FI):(lsP L).map (·.1)=lsF L:=by
 unfold lsP lsF lsC
 rw[List.map_flatMap]
 congr 1
 funext x
 rw[List.map_flatMap]
 rfl
theorem lsP_own {w:World}{B:Nat}{v:Value}{L:List FI}(h:FO w B v L):∀ z∈lsP L,IOwn w B z.1 z.2:=by
 intro z hz
 unfold lsP at hz
 obtain⟨x,hx,hz⟩:=List.mem_flatMap.1 hz
 obtain⟨y,hy,hz⟩:=List.mem_flatMap.1 hz
 have:=(h.code x hx).1.ints y hy
 simp only[List.mem_cons,List.not_mem_nil,or_false] at hz
 rcases hz with rfl | rfl
 ·exact this.1
 ·exact this.2
theorem pair_ap {l:List Value}(h:l.Pairwise Lt){i j:Nat}(hi:i<l.length)(hj:j<l.length)(hne:i≠j):∀ q,l[i].ownBlock=some q→l[j].ownBlock≠some q:=by
 intro q e1 e2
 rcases Nat.lt_or_gt_of_ne hne with hlt | hlt
 ·have:=List.pairwise_iff_getElem.1 h i j hi hj hlt q q e1 e2
  omega
 ·have:=List.pairwise_iff_getElem.1 h j i hj hi hlt q q e2 e1
  omega
theorem range_getD {α:Type}(l:List α)(d:α):(List.range l.length).map (fun j=>l.getD j d)=l:=by
 apply List.ext_getElem
 ·simp
 ·intro i h1 h2
  rw[List.getElem_map,List.getElem_range,List.getD_eq_getElem?_getD,List.getElem?_eq_getElem h2]
  rfl
theorem FOa.ints {w:World}{B:Nat}{v lv:Value}{L:List FI}(h:FOa w B v L)(hl:w.ownsRow B 64 1 lv (lsF L).length (lsF L)) :
 StA w w B w.heap.size lv (lsF L).length (fun j=>(lsF L).getD j undef) (fun j=>((lsP L).getD j (undef,[])).2.length) 0 0:=by
 have hlen:(lsP L).length=(lsF L).length:=by rw[← lsP_fst,List.length_map]
 have hg:∀ j (hj:j<(lsF L).length),(lsF L).getD j undef=((lsP L)[j]'(by omega)).1∧(lsP L).getD j (undef,[])=(lsP L)[j]'(by omega):=fun j hj=>by
  refine⟨?_,?_⟩
  ·rw[List.getD_eq_getElem?_getD,← lsP_fst,List.getElem?_map,List.getElem?_eq_getElem (by omega)];rfl
  ·rw[List.getD_eq_getElem?_getD,List.getElem?_eq_getElem (by omega)];rfl
 have hf:∀ j (hj:j<(lsF L).length),(lsF L).getD j undef=(lsF L)[j]:=fun j hj=>by rw[List.getD_eq_getElem?_getD,List.getElem?_eq_getElem hj];rfl
 refine StA.start (xs:=fun j=>((lsP L).getD j (undef,[])).2) ⟨by rw[range_getD];exact hl,fun j hj=>?_,fun i j hi hj hne q e1 e2=>?_,fun j hj q e=>?_,fun q e=>(World.ownsRow.lt hl q e).2⟩ (fun j hj=>rfl)
 ·obtain⟨e1,e2⟩:=hg j hj
  simp only[e1,e2]
  exact lsP_own h.toFO _ (List.getElem_mem _)
 ·simp only[hf i hi,hf j hj] at e1 e2
  exact pair_ap h.ls hi hj hne q e1 e2
 ·obtain⟨e1,e2⟩:=hg j hj
  simp only[e1] at e
  exact((lsP_own h.toFO _ (List.getElem_mem _)).ge q e).2
def csF (L:List FI):List Value:=L.map (fun x=>x.2.1)
theorem code_ready {w:World}{B:Nat}{cv:Value}{L:List FI}(hc:∀ x∈L,COw w B x.2.1 x.2.2)(hp:(csF L).Pairwise Lt)(hl:w.ownsRow B 65 1 cv L.length (csF L)) :
 StC w w B w.heap.size cv L.length (fun j=>(csF L).getD j undef) (fun j=>((L.map (fun x=>x.2.2)).getD j []).length) 0 0:=by
 have hcl:(csF L).length=L.length:=by unfold csF;simp
 have hf:∀ j (hj:j<L.length),(csF L).getD j undef=L[j].2.1∧(L.map (fun x=>x.2.2)).getD j []=L[j].2.2:=fun j hj=>by
  refine⟨?_,?_⟩
  ·unfold csF;rw[List.getD_eq_getElem?_getD,List.getElem?_map,List.getElem?_eq_getElem hj];rfl
  ·rw[List.getD_eq_getElem?_getD,List.getElem?_map,List.getElem?_eq_getElem hj];rfl
 have hf2:∀ j (hj:j<L.length),(csF L).getD j undef=(csF L)[j]'(by omega):=fun j hj=>by rw[List.getD_eq_getElem?_getD,List.getElem?_eq_getElem (by omega)];rfl
 refine StC.start (xs:=fun j=>(L.map (fun x=>x.2.2)).getD j []) ⟨by rw[← hcl,range_getD,hcl];exact hl,fun j hj=>?_,fun i j hi hj hne q e1 e2=>?_,fun j hj q e=>?_,fun q e=>(World.ownsRow.lt hl q e).2⟩ (fun j hj=>rfl)
 ·obtain⟨e1,e2⟩:=hf j hj
  simp only[e1,e2]
  exact hc _ (List.getElem_mem _)
 ·simp only[hf2 i hi,hf2 j hj] at e1 e2
  exact pair_ap hp (by omega) (by omega) hne q e1 e2
 ·obtain⟨e1,e2⟩:=hf j hj
  simp only[e1] at e
  exact((hc _ (List.getElem_mem hj)).ge q e).2
theorem FO.fn {w:World}{B g n c i:Nat}{L:List FI}{x:FI}(h:FO w B (.slice (some ⟨g,0,none⟩) n c) L)(hi:L[i]?=some x) :
 w.cell? ⟨g,i*4+3,none⟩=some x.2.1∧∃ a c,x.2.1 = .slice a x.2.2.length c∧∀ k y,x.2.2[k]?=some y→∃ gc,a=some ⟨gc,0,none⟩∧w.cell? ⟨gc,k*7+5,none⟩=some y.2.1∧w.cell? ⟨gc,k*7+6,none⟩=some y.2.2∧(∃ a c,y.2.1 = .slice a y.1.args.length c)∧∃ a c,y.2.2 = .slice a y.1.rets.length c:=by
 obtain⟨hi',rfl⟩:=List.getElem?_eq_some_iff.1 hi
 refine⟨?_,?_⟩
 ·obtain⟨g',cap',e',-,hc⟩:=own_cell h.row (j:=i*4+3) (u:=L[i].2.1) (by rw[flat_get rowF 4 (fun _=>rfl) L i 3 hi' (by omega)];rfl)
  cases e'
  exact hc
 ·have hco:=(h.code L[i] (List.getElem_mem hi')).1
  obtain⟨a,c,e⟩:=hco.shape
  refine⟨a,c,e,fun k y hy=>?_⟩
  obtain⟨hk,rfl⟩:=List.getElem?_eq_some_iff.1 hy
  obtain⟨gc,c2,e2,-,h7⟩:=cown_some (w:=w) (B:=B) (l:=L[i].2.2) hco.row (by omega)
  rw[e] at e2
  injection e2 with e3
  obtain⟨-,-,-,-,-,k5,k6⟩:=h7 k hk
  obtain⟨i1,i2⟩:=hco.ints _ (List.getElem_mem hk)
  exact⟨gc,e3,k5,k6,iown_cap i1,iown_cap i2⟩
def calleeP (fs:List PF)(n:Int):Int:=(fs[n.toNat]?.map (·.P)).getD 0
def calleeR (fs:List PF)(n:Int):Int:=(fs[n.toNat]?.map (·.R)).getD 0
def letE (G:Int)(fs:List PF)(R V:Int)(fl:Nat)(c:PI)(u:UInt8)(E:Int):Int :=
 if u=82 then mustE (varB V c.r) 13 E else if u=83 then mustE (varB V c.s) 13 E else if u=84 then mustE (varB V c.t) 13 E
 else if u=65 then listE (calleeP fs c.n) V c.args E else if u=66 then listE (calleeR fs c.n) V c.rets E else if u=86 then listE R V c.args E
 else if u=99 then mustE (numB 1 9 c.n) 17 E else if u=102 then mustE (numB 0 8 c.n) 17 E else if u=103 then mustE (numB 0 G c.n) 18 E
 else if u=70 then mustE (numB 0 fs.length c.n) 14 E else if u=74 then mustE (numB 0 fl c.n) 16 E else E
def letters : List UInt8:=[82,83,84,65,66,86,99,102,103,70,74,105]
def instrE (G:Int)(fs:List PF)(R V:Int)(fl:Nat)(c:PI)(last:Bool)(L E:Int):Int :=
 (partsN c.op.toNat).toList.foldl (fun E u=>letE G fs R V fl c u E) (opE c.op (plainB c.op c.r c.s c.t c.n c.args.length c.rets.length) last L E)
theorem parts_letters : ∀ k,k<18→∀ u∈(partsN k).toList,u∈letters∧((u=65∨u=66)→k=11):=by decide
theorem partsN_big (k:Nat)(h:18≤k):(partsN k).toList=[]:=by
 unfold partsN
 split<;>first | omega | rfl
theorem mustE_zero {ok:Bool}{e E:Int}(he:e≠0)(h:mustE ok e E=0):ok=true∧E=0:=by
 unfold mustE at h
 cases ok with
 | true=>simp at h;exact⟨rfl,h⟩
 | false =>
   by_cases hE:E=0
   ·simp[hE] at h;omega
   ·simp[hE] at h
theorem listE_zero {m V:Int}{l:List Int}{E:Int}(h:listE m V l E=0):E=0:=by
 unfold listE at h
 by_cases hE:E=0
 ·exact hE
 ·rw[if_neg hE] at h;exact h
theorem letter_call (rb:Nat)(G:Int)(fv:Value)(w:World)(L E:Int)(h:RW rb G fv w L E)(fs:List PF)(hFL:FL rb w fv fs)(P R V:Int)(a:Option Addr)(fl cc:Nat)(c:PI)(aa ra:Option Addr)(ca cr:Nat)
 (hA:IL rb w (.slice aa c.args.length ca) c.args) (hB:IL rb w (.slice ra c.rets.length cr) c.rets) (hla:c.args.length≤1000000000000000) (hlr:c.rets.length≤1000000000000000) (u:UInt8) (hu:u∈letters) (hc:(u=65∨u=66)→E=0→0≤c.n∧c.n<fs.length) :
 Calls Tryd.prog (partCall rb (.agg #[vI P,vI R,vI V,.slice a fl cc]) (.agg #[vI c.op,vI c.r,vI c.s,vI c.t,vI c.n,.slice aa c.args.length ca,.slice ra c.rets.length cr]) c.r c.s c.t c.n fl u).1 (partCall rb (.agg #[vI P,vI R,vI V,.slice a fl cc]) (.agg #[vI c.op,vI c.r,vI c.s,vI c.t,vI c.n,.slice aa c.args.length ca,.slice ra c.rets.length cr]) c.r c.s c.t c.n fl u).2 w
  fun r w''=>r = .returned (.tuple #[])∧RW rb G fv w'' L (letE G fs R V fl c u E)∧Fr (fun k=>k=rb) w w'':=by
 obtain⟨-,fa,fc,efv,hcells⟩:=hFL
 subst efv
 have ilA:c.args≠[]→∃ k o,aa=some ⟨k,o,none⟩∧k<w.heap.size∧k≠rb∧∀ j (h:j<c.args.length),w.cell? ⟨k,o+j,none⟩=some (vI c.args[j]):=fun hne=>by
  obtain⟨a1,c1,e1,h1⟩:=hA
  cases e1
  exact h1 hne
 have ilB:c.rets≠[]→∃ k o,ra=some ⟨k,o,none⟩∧k<w.heap.size∧k≠rb∧∀ j (h:j<c.rets.length),w.cell? ⟨k,o+j,none⟩=some (vI c.rets[j]):=fun hne=>by
  obtain⟨a1,c1,e1,h1⟩:=hB
  cases e1
  exact h1 hne
 -- the callee's head
 have callee:E=0→(u=65∨u=66)→∃ fk fo N,fa=some ⟨fk,fo,none⟩∧c.n=((N:Nat):Int)∧N<fs.length∧fk<w.heap.size∧w.cell? ⟨fk,fo+N*4,none⟩=some (vI (calleeP fs c.n))∧w.cell? ⟨fk,fo+N*4+1,none⟩=some (vI (calleeR fs c.n)):=fun hE hu2=>by
  obtain⟨n0,n1⟩:=hc hu2 hE
  have hN:c.n.toNat<fs.length:=by omega
  obtain⟨fk,fo,e,hk,-,hj⟩:=hcells (by intro e;simp[e] at hN)
  obtain⟨cv,h1,h2,-⟩:=hj c.n.toNat hN
  refine⟨fk,fo,c.n.toNat,e,by omega,hN,hk,?_,?_⟩
  ·unfold calleeP;rw[List.getElem?_eq_getElem hN];exact h1
  ·unfold calleeR;rw[List.getElem?_eq_getElem hN];exact h2
 simp only[letters,List.mem_cons,List.not_mem_nil,or_false] at hu
 rcases hu with rfl | rfl | rfl | rfl | rfl | rfl | rfl | rfl | rfl | rfl | rfl | rfl
 ·exact rvariable rb G _ w L E h P R V a fl cc c.r
 ·exact rvariable rb G _ w L E h P R V a fl cc c.s
 ·exact rvariable rb G _ w L E h P R V a fl cc c.t
 ·refine rlist_A rb G _ w L E h P R V a fl cc c.op c.r c.s c.t c.n aa ra ca cr c.rets.length c.args hla (calleeP fs c.n) ilA (fun hE w' hf=>?_)
  obtain⟨fk,fo,N,rfl,en,hN,hk,c0,-⟩:=callee hE (Or.inl rfl)
  have:=rwanted_A rb fk fo fs.length fc N G w' L E (h.fr hf (fun h=>h)) hN (calleeP fs c.n) ((hf.cell hk (fun h=>h)).trans c0) P R V a fl cc c.op c.r c.s c.t aa ra c.args.length ca c.rets.length cr
  rw[← en] at this
  exact this
 ·refine rlist_B rb G _ w L E h P R V a fl cc c.op c.r c.s c.t c.n aa ra ca cr c.args.length c.rets hlr (calleeR fs c.n) ilB (fun hE w' hf=>?_)
  obtain⟨fk,fo,N,rfl,en,hN,hk,-,c1⟩:=callee hE (Or.inr rfl)
  have:=rwanted_B rb fk fo fs.length fc N G w' L E (h.fr hf (fun h=>h)) hN (calleeR fs c.n) ((hf.cell hk (fun h=>h)).trans c1) P R V a fl cc c.op c.r c.s c.t aa ra c.args.length ca c.rets.length cr
  rw[← en] at this
  exact this
 ·exact rlist_V rb G _ w L E h P R V a fl cc c.op c.r c.s c.t c.n aa ra ca cr c.rets.length c.args hla R ilA (fun _ w' _=>rwanted_V rb w' P R V a fl cc c.op c.r c.s c.t c.n aa ra c.args.length ca c.rets.length cr)
 ·exact rnumber_c rb G fa fs.length fc w L E h c.n fl
 ·exact rnumber_f rb G fa fs.length fc w L E h c.n fl
 ·exact rnumber_g rb G fa fs.length fc w L E h c.n fl
 ·exact rnumber_F rb G fa fs.length fc w L E h c.n fl
 ·exact rnumber_J rb G fa fs.length fc w L E h c.n fl
 ·exact rnumber_i rb G _ w L E h c.n fl
theorem rinstr_any (rb:Nat)(G:Int)(fv:Value)(w:World)(L E:Int)(h:RW rb G fv w L E)(hL0:0≤L)(hL1:L≤1000000000000)(fs:List PF)(hFL:FL rb w fv fs)(P R V:Int)(a:Option Addr)(fl cc:Nat)(c:PI)(aa ra:Option Addr)(ca cr:Nat)
 (hA:IL rb w (.slice aa c.args.length ca) c.args) (hB:IL rb w (.slice ra c.rets.length cr) c.rets) (hla:c.args.length≤1000000000000000) (hlr:c.rets.length≤1000000000000000) (last:Bool) :
 Calls Tryd.prog 56 #[.pointer (some ⟨rb,0,none⟩),.agg #[vI P,vI R,vI V,.slice a fl cc],.agg #[vI c.op,vI c.r,vI c.s,vI c.t,vI c.n,.slice aa c.args.length ca,.slice ra c.rets.length cr],.bool last] w
  fun r w'=>r = .returned (.tuple #[])∧RW rb G fv w' (opL c.op L) (instrE G fs R V fl c last L E)∧Fr (fun k=>k=rb) w w':=by
 have key:=rinstr rb G fv w L E h hL0 hL1 P R V a fl cc c.op c.r c.s c.t c.n aa ra c.args.length ca c.rets.length cr last
  (fun j=>((partsN c.op.toNat).toList.take j).foldl (fun E u=>letE G fs R V fl c u E) (opE c.op (plainB c.op c.r c.s c.t c.n c.args.length c.rets.length) last L E)) rfl ?_
 ·refine key.mono ?_
  rintro r w' ⟨rfl,h1,h2⟩
  rw[List.take_length] at h1
  exact⟨rfl,h1,h2⟩
 ·intro j hj w' hr hf
  have hk:c.op.toNat<18:=by
   rcases Nat.lt_or_ge c.op.toNat 18 with h | h
   ·exact h
   ·rw[partsN_big _ h] at hj;simp at hj
  have hu:=parts_letters _ hk _ (List.getElem_mem hj)
  have step:((partsN c.op.toNat).toList.take (j+1)).foldl (fun E u=>letE G fs R V fl c u E) (opE c.op (plainB c.op c.r c.s c.t c.n c.args.length c.rets.length) last L E)=letE G fs R V fl c (partsN c.op.toNat).toList[j] (((partsN c.op.toNat).toList.take j).foldl (fun E u=>letE G fs R V fl c u E) (opE c.op (plainB c.op c.r c.s c.t c.n c.args.length c.rets.length) last L E)):=by
   rw[List.take_add_one,List.getElem?_eq_getElem hj,List.foldl_append]
   rfl
  rw[step]
  refine letter_call rb G fv w' (opL c.op L) _ hr fs (hFL.fr hf (fun _ h=>h)) P R V a fl cc c aa ra ca cr (hA.fr hf (fun _ h=>h)) (hB.fr hf (fun _ h=>h)) hla hlr _ hu.1 (fun hu2 hE=>?_)
  have h11:=hu.2 hu2
  have hn:numB 0 fs.length c.n=true:=by
   have hu3:(partsN c.op.toNat).toList[j]?=some 65∨(partsN c.op.toNat).toList[j]?=some 66:=by
    rw[List.getElem?_eq_getElem hj]
    rcases hu2 with h | h
    ·exact Or.inl (by rw[h])
    ·exact Or.inr (by rw[h])
   have hj2:j<(partsN c.op.toNat).toList.length:=hj
   rw[h11] at hE hu3 hj2
   have hj3:j<3:=hj2
   rcases(show j=0∨j=1∨j=2 by omega) with rfl | rfl | rfl
   ·rcases hu3 with h | h<;>exact absurd h (by decide)
   ·exact(mustE_zero (by decide) hE).1
   ·exact(mustE_zero (by decide) (listE_zero hE)).1
  unfold numB at hn
  simp at hn
  exact⟨hn.1,hn.2⟩
def rHeads : List PF→Int→Int→Int × Int
 | [],L,E=>(L,E)
 | f::fs,L,E=>if E=0 then rHeads fs (headL f.P f.R f.V f.code.length L E) (headE f.P f.R f.V f.code.length L E) else (L,E)
def rCode (G:Int)(fs:List PF)(R V:Int)(fl:Nat):Nat→List PI→Int→Int→Int × Int
 | _,[],L,E=>(L,E)
 | i,c::cs,L,E=>if E=0 then rCode G fs R V fl (i+1) cs (opL c.op L) (instrE G fs R V fl c ((i:Int)==(fl:Int)-1) L E) else (L,E)
def rFuncs (G:Int)(FS:List PF):List PF→Int→Int→Int × Int
 | [],L,E=>(L,E)
 | f::fs,L,E=>if E=0 then rFuncs G FS fs (rCode G FS f.R f.V f.code.length 0 f.code L E).1 (rCode G FS f.R f.V f.code.length 0 f.code L E).2 else (L,E)
def rE0 (G:Int):Int:=mustE (decide (0≤G)&&decide (G≤16)) 18 0
def rE1 (G:Int)(n:Nat):Int:=mustE (decide ((1:Int)≤n)&&decide ((n:Int)≤65535)) 20 (rE0 G)
def rHd (G:Int)(fs:List PF):Int × Int:=rHeads fs 0 (rE1 G fs.length)
def rAll (G:Int)(fs:List PF):Int × Int:=rFuncs G fs fs (rHd G fs).1 (rHd G fs).2
def Low (L E:Int):Prop:=0≤L∧(E=0→L+1≤1048576)
theorem Low.zero (E:Int):Low 0 E:=⟨by omega,fun _=>by omega⟩
theorem opL_ge {op L:Int}(h:0≤L):0≤opL op L:=by unfold opL;split<;>omega
theorem Low.head {P R V n L E:Int}(h:0≤L):Low (headL P R V n L E) (headE P R V n L E):=by
 refine⟨?_,fun he=>?_⟩
 ·unfold headL
  split
  ·rename_i hz
   unfold headE2 at hz
   have h1:=(mustE_zero (by decide) (mustE_zero (by decide) hz).2).1
   unfold smallB at h1
   simp at h1
   omega
  ·exact h
 ·unfold headE at he
  have:=(mustE_zero (by decide) he).1
  simpa using this
theorem letE_zero {G:Int}{fs:List PF}{R V:Int}{fl:Nat}{c:PI}{u:UInt8}{E:Int}(h:letE G fs R V fl c u E=0):E=0:=by
 unfold letE at h
 by_cases hE:E=0
 ·exact hE
 ·exfalso
  have m:∀ ok e,¬ mustE ok e E=0:=fun ok e=>mustE_ne ok e E hE
  have l:∀ m V l,¬ listE m V l E=0:=fun _ _ _ hh=>hE (listE_zero hh)
  repeat (first | exact m _ _ h | exact l _ _ _ h | exact hE h | split at h)
theorem letE_fold {G:Int}{fs:List PF}{R V:Int}{fl:Nat}{c:PI}:∀ (l:List UInt8) (E:Int),l.foldl (fun E u=>letE G fs R V fl c u E) E=0→E=0
 | [],_,h=>h
 | u::l,E,h=>letE_zero (letE_fold l _ h)
theorem Low.instr {G:Int}{fs:List PF}{R V:Int}{fl:Nat}{c:PI}{last:Bool}{L E:Int}(h:0≤L):Low (opL c.op L) (instrE G fs R V fl c last L E):=by
 refine⟨opL_ge h,fun he=>?_⟩
 have h1:=letE_fold _ _ he
 unfold opE at h1
 have:=(mustE_zero (by decide) h1).1
 simpa using this
theorem rHeads_ne (fs:List PF)(L:Int){E:Int}(h:¬ E=0):rHeads fs L E=(L,E):=by cases fs<;>simp[rHeads,h]
theorem rCode_ne (G:Int)(FS:List PF)(R V:Int)(fl i:Nat)(cs:List PI)(L:Int){E:Int}(h:¬ E=0):rCode G FS R V fl i cs L E=(L,E):=by cases cs<;>simp[rCode,h]
theorem rFuncs_ne (G:Int)(FS fs:List PF)(L:Int){E:Int}(h:¬ E=0):rFuncs G FS fs L E=(L,E):=by cases fs<;>simp[rFuncs,h]
theorem rHeads_at {fs:List PF}{k:Nat}(hk:k<fs.length)(L:Int):rHeads (fs.drop k) L 0=rHeads (fs.drop (k+1)) (headL fs[k].P fs[k].R fs[k].V fs[k].code.length L 0) (headE fs[k].P fs[k].R fs[k].V fs[k].code.length L 0):=by
 rw[List.drop_eq_getElem_cons hk];rfl
theorem rCode_at {G:Int}{FS:List PF}{R V:Int}{fl:Nat}{cs:List PI}{k:Nat}(hk:k<cs.length)(L:Int):rCode G FS R V fl k (cs.drop k) L 0=rCode G FS R V fl (k+1) (cs.drop (k+1)) (opL cs[k].op L) (instrE G FS R V fl cs[k] ((k:Int)==(fl:Int)-1) L 0):=by
 rw[List.drop_eq_getElem_cons hk];rfl
theorem rFuncs_at {G:Int}{FS fs:List PF}{k:Nat}(hk:k<fs.length)(L:Int):rFuncs G FS (fs.drop k) L 0=rFuncs G FS (fs.drop (k+1)) (rCode G FS fs[k].R fs[k].V fs[k].code.length 0 fs[k].code L 0).1 (rCode G FS fs[k].R fs[k].V fs[k].code.length 0 fs[k].code L 0).2:=by
 rw[List.drop_eq_getElem_cons hk];rfl
set_option maxRecDepth 100000
set_option maxHeartbeats 2000000
theorem FO.shape {w:World}{B:Nat}{v:Value}{L:List FI}(h:FO w B v L):∃ a c,v = .slice a L.length c:=by
 rcases h.row.2 with⟨h2,h3⟩|⟨g,cap,cur,e,-⟩
 ·exact⟨none,0,by rw[h2,h3]⟩
 ·exact⟨_,_,e⟩
theorem FO.far {S:Nat→Prop}{w w':World}{B:Nat}{v:Value}{L:List FI}(h:FO w B v L)(f:Fr S w w')(hS:∀ k,S k→k<B):FO w' B v L:=by
 have no:∀ k,B≤k→¬ S k:=fun k hk e=>by have:=hS k e;omega
 refine⟨ownsRow_frL h.row f (fun k e=>no k (World.ownsRow.lt h.row k e).1),fun x hx=>⟨(h.code x hx).1.fr f (fun k e=>no k (World.ownsRow.lt (h.code x hx).1.row k e).1) (fun y hy k e=>?_),(h.code x hx).2⟩⟩
 rcases e with e | e
 ·exact no k (((h.code x hx).1.ints y hy).1.ge k e).1
 ·exact no k (((h.code x hx).1.ints y hy).2.ge k e).1
theorem FO.mono {w:World}{B B':Nat}{v:Value}{L:List FI}(h:FO w B v L)(hB:B'≤B):FO w B' v L:=⟨World.ownsRow.mono h.row hB,fun x hx=>⟨(h.code x hx).1.mono hB,(h.code x hx).2⟩⟩
theorem copyProgram_any (G:Int)(v:Value)(fs:List PF)(w:World)(hl:FA w v fs)(hn:FineP fs) :
 Calls Tryd.prog 13 #[.agg #[vI G,v]] w fun e w'=>∃ v',e = .returned (.agg #[vI G,v'])∧FA w' v' fs∧Fr (fun _=>False) w w':=by
 obtain⟨a1,b1,e1,-⟩:=id hl
 obtain⟨wa,hwa⟩:∃ wa,wa=(w.alloc (.cells #[vI G,v] 26)).alloc (.cells #[vI 0,.slice none 0 0] 26):=⟨_,rfl⟩
 have hF:Fr (fun _=>False) w wa:=by rw[hwa];exact Fr.alloc (Fr.alloc (Fr.refl _ w) _) _
 have hsz:wa.heap.size=w.heap.size+2:=by rw[hwa];simp
 have b1':wa.heap[w.heap.size]?=some (.cells #[vI G,v] 26):=by
  rw[hwa,Go.RowKit.Below.heap_alloc _ _ _ (by simp)];exact heap_new w _
 have b2':wa.heap[w.heap.size+1]?=some (.cells #[vI 0,.slice none 0 0] 26):=by
  rw[hwa,show w.heap.size+1=(w.alloc (.cells #[vI G,v] 26)).heap.size by simp];exact heap_new _ _
 have HWA:Hd (wa=(w.alloc (.cells #[vI G,v] 26)).alloc (.cells #[vI 0,.slice none 0 0] 26)):=hwa
 have G1:Hd (FA wa v fs):=hl.stay hF
 have HF:Hd (Fr (fun _=>False) w wa):=hF
 obtain⟨H,hH⟩:∃ H,H=w.heap.size:=⟨_,rfl⟩
 have HH:Hd (H=w.heap.size):=hH
 have HSZ:Hd (wa.heap.size=H+2):=by rw[hH];exact hsz
 rw[← hH] at b1' b2'
 have B1:Hd _:=b1'
 have B2:Hd _:=b2'
 have p0:wa.cell? ⟨H,0,none⟩=some (vI G):=by rw[cell_of b1'];rfl
 have p1:wa.cell? ⟨H,1,none⟩=some v:=by rw[cell_of b1'];rfl
 subst e1
 clear hl hF hsz hwa hH b1' b2'
 go_enter Tryd.func13,Tryd.ntmps13
 go_upto_region 1 with fail
 rw[← HWA.out,← HH.out]
 clear HWA
 go_region_held3 (fun w'=>w'.cell? ⟨H,0,none⟩=some (vI G)∧w'.cell? ⟨H,1,none⟩=some (.slice a1 fs.length b1)) (go_keep) ((
  go_at_call 37
  refine(show Calls Tryd.prog 37 #[.slice a1 fs.length b1] wa.drew _ from copyFuncs_any _ fs wa.drew G1.out hn).mono ?_
  rintro e w2 ⟨x',L,rfl,hx',hL,hF2⟩
  have hG2:Fr (fun _=>False) wa w2:=(Fr.refl _ wa).drew.trans hF2
  have B1':w2.heap[H]?=some (.cells #[vI G,.slice a1 fs.length b1] 26):=(hG2.block H (heap_lt B1.out) (fun e=>e)).trans B1.out
  have B2':w2.heap[H+1]?=some (.cells #[vI 0,.slice none 0 0] 26):=(hG2.block (H+1) (heap_lt B2.out) (fun e=>e)).trans B2.out
  have s0:w2.cell? ⟨H,0,none⟩=some (vI G):=by rw[cell_of B1'];rfl
  have s1:w2.cell? ⟨H,1,none⟩=some (.slice a1 fs.length b1):=by rw[cell_of B1'];rfl
  have d0:w2.cell? ⟨H+1,0,none⟩=some (vI 0):=by rw[cell_of B2'];rfl
  have d1:w2.cell? ⟨H+1,1,none⟩=some (.slice none 0 0):=by rw[cell_of B2'];rfl
  have y0:=frozen_of B2' 0
  have y1:=frozen_of B2' 1
  have HX:Hd (FO w2 (H+2) x' L):=hx'.mono (by have:=HSZ.out;show H+2≤wa.heap.size;omega)
  have HLL:Hd (L.map (·.1)=fs):=hL
  have HF2:Hd (Fr (fun _=>False) w w2):=HF.out.trans hG2
  have HB2:Hd (w2.heap[H+1]?=some (.cells #[vI 0,.slice none 0 0] 26)):=B2'
  obtain⟨xa,xc,rfl⟩:=hx'.shape
  clear hx' hL hF2 hG2 B1' B2'))
 all_goals
  have HZ:Hd (((w2.setCell ⟨H+1,0,none⟩ (vI G)).setCell ⟨H+1,1,none⟩ (.slice xa L.length xc)).heap[H+1]?=some (.cells #[vI G,.slice xa L.length xc] 26)):=set_of (set_of HB2.out 0 _) 1 _
  have fs6:Fr (fun j=>j=H+1) w2 ((w2.setCell ⟨H+1,0,none⟩ (vI G)).setCell ⟨H+1,1,none⟩ (.slice xa L.length xc)):=Fr.setCell (S:=fun j=>j=H+1) (Fr.setCell (S:=fun j=>j=H+1) (Fr.refl _ w2) _ _ (Or.inl rfl)) _ _ (Or.inl rfl)
  have KX:Hd (FA ((w2.setCell ⟨H+1,0,none⟩ (vI G)).setCell ⟨H+1,1,none⟩ (.slice xa L.length xc)) (.slice xa L.length xc) fs):=by
   have:=(HX.out.far fs6 (fun k e=>by omega)).fa
   rw[HLL.out] at this
   exact this
  have KF:Hd (Fr (fun _=>False) w ((w2.setCell ⟨H+1,0,none⟩ (vI G)).setCell ⟨H+1,1,none⟩ (.slice xa L.length xc))):=Fr.then HF2.out fs6 (fun j hj e=>by have:=HH.out;omega)
  clear fs6
  go_wp2_with fail
  generalize (w2.setCell ⟨H+1,0,none⟩ (vI G)).setCell ⟨H+1,1,none⟩ (.slice xa L.length xc)=wz at *
  have e0:wz.cell? ⟨H+1,0,none⟩=some (vI G):=by rw[cell_of HZ.out];rfl
  have e1:wz.cell? ⟨H+1,1,none⟩=some (.slice xa L.length xc):=by rw[cell_of HZ.out];rfl
  refine bodyPost_ret (v:=.agg #[vI G,.slice xa L.length xc]) ?_ rfl ⟨_,rfl,KX.out,KF.out⟩
  rw[results_cell (p:=2) (ty:=26) Tryd.results13]
  simp[go_sem,e0,e1]
end Go.Proofs.YtingenonbkencaaDoor
