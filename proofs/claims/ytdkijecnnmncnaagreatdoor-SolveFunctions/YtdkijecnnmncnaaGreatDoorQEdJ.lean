import Derived.Test.YtdkijecnnmncnaaGreatDoorQN8J
import Derived.Test.YtdkijecnnmncnaaGreatDoorQEcJ
import Derived.Test.YtdkijecnnmncnaaGreatDoorQLiJ
import Derived.Laws.OwnMore
import Derived.Deep.RegionHeld3
set_option linter.unusedVariables false
set_option linter.unusedSimpArgs false
namespace Go.Proofs.YtdkijecnnmncnaaGreatDoor
open Go.RowKit (wrap32 wrap64)
set_option maxRecDepth 100000
set_option maxHeartbeats 2000000
theorem addr_plus (b off i:Nat):(⟨b,off,none⟩:Addr).add i=⟨b,off+i,none⟩:=by unfold Addr.add;split<;>simp_all
theorem row_set {w:World}{B e sz n g cap j:Nat}{xs:List Value}(h:w.ownsRow B e sz (.slice (some ⟨g,0,none⟩) n cap) n xs)(u:Value) :
 (w.setCell ⟨g,j,none⟩ u).ownsRow B e sz (.slice (some ⟨g,0,none⟩) n cap) n (xs.set j u)∧w.frozen? ⟨g,j,none⟩=false:=by
 obtain⟨h0,h1⟩:=h
 rcases h1 with⟨e1,-⟩|⟨g',cap',cur,e1,k1,k2,k3,k4,k5,k6⟩
 ·cases e1
 ·cases e1
  refine⟨⟨by rw[List.length_set];exact h0,Or.inr ⟨g,cap,cur.setIfInBounds j u,rfl,k1,set_of k2 j u,k3,k4,by simpa using k5,?_⟩⟩,frozen_of k2 j⟩
  rw[← k6,Array.toList_setIfInBounds,List.take_set]
structure CSo (w:World)(B:Nat)(v:Value)(L:List CI):Prop where
 row:w.ownsRow B 79 7 v L.length (L.flatMap rowI)
 ints:∀ x∈L,IA w x.2.1 x.1.args∧IA w x.2.2 x.1.rets
theorem CSo.ca {w:World}{B:Nat}{v:Value}{L:List CI}(h:CSo w B v L):CA w v (L.map (·.1)):=by
 rcases h.row.2 with⟨h2,h3⟩|⟨g,cap,cur,e,-⟩
 ·refine⟨none,0,by rw[h2,List.length_map,h3],fun hne=>?_⟩
  exact absurd (by rw[List.eq_nil_of_length_eq_zero h3];rfl) hne
 ·refine⟨some ⟨g,0,none⟩,cap,by rw[e,List.length_map],fun _=>⟨g,0,rfl,(World.ownsRow.lt h.row g (by rw[e];rfl)).2,fun j hj=>?_⟩⟩
  have hj':j<L.length:=by simpa using hj
  have pc:∀ o u,o<7→(rowI L[j])[o]?=some u→w.cell? ⟨g,j*7+o,none⟩=some u:=fun o u ho hu=>by
   obtain⟨g',cap',e',-,hc⟩:=own_cell h.row (j:=j*7+o) (u:=u) (by rw[flat_get rowI 7 (fun _=>rfl) L j o hj' ho];exact hu)
   rw[e] at e'
   cases e'
   exact hc
  have hi:=h.ints L[j] (List.getElem_mem hj')
  rw[Nat.zero_add]
  simp only[List.getElem_map]
  exact⟨L[j].2.1,L[j].2.2,pc 0 _ (by omega) rfl,pc 1 _ (by omega) rfl,pc 2 _ (by omega) rfl,pc 3 _ (by omega) rfl,pc 4 _ (by omega) rfl,pc 5 _ (by omega) rfl,pc 6 _ (by omega) rfl,hi.1,hi.2⟩
theorem CA.items {w:World}{a:Option Addr}{n cp:Nat}{cs:List PI}(h:CA w (.slice a n cp) cs)(hne:cs≠[]) :
 ∃ k o,a=some ⟨k,o,none⟩∧k<w.heap.size∧∃ L:List CI,L.map (·.1)=cs∧(∀ x∈L,IA w x.2.1 x.1.args∧IA w x.2.2 x.1.rets)∧∀ j u,(L.flatMap rowI)[j]?=some u→w.cell? ⟨k,o+j,none⟩=some u:=by
 obtain⟨a',cp',e,h⟩:=h
 cases e
 obtain⟨k,o,rfl,hk,hc⟩:=h hne
 have hf:∃ f:Nat→Value × Value,∀ j (h:j<cs.length),w.cell? ⟨k,o+j*7,none⟩=some (vI cs[j].op)∧w.cell? ⟨k,o+j*7+1,none⟩=some (vI cs[j].r)∧w.cell? ⟨k,o+j*7+2,none⟩=some (vI cs[j].s)∧w.cell? ⟨k,o+j*7+3,none⟩=some (vI cs[j].t)∧w.cell? ⟨k,o+j*7+4,none⟩=some (vI cs[j].n) ∧
  w.cell? ⟨k,o+j*7+5,none⟩=some (f j).1∧w.cell? ⟨k,o+j*7+6,none⟩=some (f j).2∧IA w (f j).1 cs[j].args∧IA w (f j).2 cs[j].rets:=by
  have hv:∀ j,∃ p:Value × Value,∀ (h:j<cs.length),w.cell? ⟨k,o+j*7,none⟩=some (vI cs[j].op)∧w.cell? ⟨k,o+j*7+1,none⟩=some (vI cs[j].r)∧w.cell? ⟨k,o+j*7+2,none⟩=some (vI cs[j].s)∧w.cell? ⟨k,o+j*7+3,none⟩=some (vI cs[j].t)∧w.cell? ⟨k,o+j*7+4,none⟩=some (vI cs[j].n) ∧
   w.cell? ⟨k,o+j*7+5,none⟩=some p.1∧w.cell? ⟨k,o+j*7+6,none⟩=some p.2∧IA w p.1 cs[j].args∧IA w p.2 cs[j].rets:=fun j=>by
   by_cases hj:j<cs.length
   ·obtain⟨av,rv,q⟩:=hc j hj
    exact⟨(av,rv),fun _=>q⟩
   ·exact⟨(undef,undef),fun h=>absurd h hj⟩
  exact⟨fun j=>(hv j).choose,fun j=>(hv j).choose_spec⟩
 obtain⟨f,hf⟩:=hf
 have hL:∀ j (h:j<(List.zip cs ((List.range cs.length).map f)).length),j<cs.length:=fun j h=>by simpa using h
 have hg:∀ j (h:j<(List.zip cs ((List.range cs.length).map f)).length),(List.zip cs ((List.range cs.length).map f))[j]=(cs[j]'(hL j h),f j):=fun j h=>by simp
 refine⟨k,o,rfl,hk,List.zip cs ((List.range cs.length).map f),?_,fun x hx=>?_,fun j u hu=>?_⟩
 ·apply List.map_fst_zip
  simp
 ·obtain⟨j,hj,rfl⟩:=List.mem_iff_getElem.1 hx
  rw[hg j hj]
  exact⟨(hf j (hL j hj)).2.2.2.2.2.2.2.1,(hf j (hL j hj)).2.2.2.2.2.2.2.2⟩
 ·have hlen:((List.zip cs ((List.range cs.length).map f)).flatMap rowI).length=cs.length*7:=by
   rw[List.length_flatMap]
   simp[List.map_const']
  have hj:=(List.getElem?_eq_some_iff.1 hu).1
  rw[hlen] at hj
  have hi:j / 7<cs.length:=by omega
  have hi':j / 7<(List.zip cs ((List.range cs.length).map f)).length:=by simpa using hi
  have ho:j % 7<7:=Nat.mod_lt _ (by omega)
  have e:j=j / 7*7+j % 7:=by omega
  rw[e,flat_get rowI 7 (fun _=>rfl) _ _ _ hi' ho,hg _ hi'] at hu
  rw[e,← Nat.add_assoc]
  obtain⟨c0,c1,c2,c3,c4,c5,c6,-⟩:=hf (j / 7) hi
  generalize j / 7=i at *
  generalize j % 7=r at *
  have hr:r=0∨r=1∨r=2∨r=3∨r=4∨r=5∨r=6:=by omega
  rcases hr with rfl | rfl | rfl | rfl | rfl | rfl | rfl
  all_goals (cases hu;assumption)
theorem items_one {w:World}{L:List CI}(h:∀ x∈L,IA w x.2.1 x.1.args∧IA w x.2.2 x.1.rets):∀ u∈L.flatMap rowI,u.oneCell'=true:=fun u hu=>by
 obtain⟨x,hx,hu⟩:=List.mem_flatMap.1 hu
 obtain⟨⟨a1,c1,e1,-⟩,⟨a2,c2,e2,-⟩⟩:=h x hx
 simp only[rowI,iR,List.mem_cons,List.not_mem_nil,or_false] at hu
 rcases hu with rfl | rfl | rfl | rfl | rfl | rfl | rfl
 all_goals first | rfl | (rw[e1];rfl) | (rw[e2];rfl)
theorem run_append_none0 {P:Program}{w:World}(base:Nat)(t ty e:TypeId)(i:TypeInfo)(size:Nat)(ht:P.underlying t=some (.slice e))(hi:P.info? e=some i)
 (v:Value) (n:Nat) (xs:List Value) (hown:w.ownsRow base e size v n xs) (ad:Addr) (c:Nat) :
 (Builtin.append_ #[t,t] ty #[v,.slice (some ad) 0 c]).run P w = .ok v w:=by
 rcases hown.2 with⟨rfl,rfl⟩|⟨g,cap,cur,rfl,_,_,hnc,_⟩
 ·simp[Builtin.append_,run_underlying ht,sizeOf,typeInfo,hi,Builtin.lenOf,Builtin.firstCells,loadCells,loadCellsFrom]
 ·simp[Builtin.append_,run_underlying ht,sizeOf,typeInfo,hi,Builtin.lenOf,Builtin.firstCells,hnc,storeCells,loadCells,loadCellsFrom]
theorem wpList_append_none0 {P:Program}{w:World}{ops:Array Oper}{rest:List Oper}{o:Oper}{a:Act}{Q:Exit→Act→World→Prop}(hgd:o.guard=none)(s x:Operand)(t:TypeId)
 (ho:o.op = .call { callee:=.builtin .append,args:=#[s,x],argTypes:=#[t,t] })
 (base:Nat) (e:TypeId) (i:TypeInfo) (size:Nat) (ht:P.underlying t=some (.slice e)) (hi:P.info? e=some i)
 (v:Value) (n:Nat) (xs:List Value) (hs:a.eval s=v) (hown:w.ownsRow base e size v n xs) (ad:Addr) (c:Nat) (hx:a.eval x = .slice (some ad) 0 c)
 (h:wpList P ops Q rest (a.put o.dst v) w):wpList P ops Q (o::rest) a w:=by
 refine wpList_plain hgd fun K hK=>?_
 have hrun:=run_append_none0 (P:=P) (w:=w) base t o.type e i size ht hi v n xs hown ad c
 unfold Oper.wp
 simp[execOp,ho,resolve,invoke,builtin,hs,hx,hrun,Result.andThen]
 exact hK _ _ h
theorem clone_any (v:Value)(cs:List PI)(w0 w:World)(h:CA w0 v cs)(f:Fr (fun _=>False) w0 w)(hn:FineC cs) :
 Calls Tryz.prog 148 #[v] w fun e w'=>∃ (v':Value) (L:List CI),e = .returned v'∧w'.ownsRow w.heap.size 79 7 v' cs.length (L.flatMap rowI)∧L.map (·.1)=cs∧(∀ x∈L,IA w0 x.2.1 x.1.args∧IA w0 x.2.2 x.1.rets)∧Fr (fun _=>False) w w':=by
 by_cases hne:cs=[]
 ·subst hne
  obtain⟨a0,cp,rfl,-⟩:=h
  rcases a0 with _ | ad
  rotate_left
  ·obtain⟨i7,hi7,hz7,hs7,hb7⟩:=info_parts (P:=Tryz.prog) (e:=79) (z:=.agg #[vI 0,vI 0,vI 0,vI 0,vI 0,.slice none 0 0,.slice none 0 0]) (size:=7) (bytes:=88) (by kernel_rfl)
   have hq:(binOp .eql 41 (.slice (some ad) 0 cp) (.slice none 0 0)).run Tryz.prog w = .ok (.bool false) w:=by first | rfl | kernel_rfl
   have HF1:Hd (Fr (fun _=>False) w (w.alloc (.cells #[] 79))):=Fr.alloc (Fr.refl _ w) _
   have HRW:Hd ((w.alloc (.cells #[] 79)).ownsRow w.heap.size 79 7 (.slice (some ⟨w.heap.size,0,none⟩) 0 0) 0 []):=⟨rfl,Or.inr ⟨w.heap.size,0,#[],rfl,Nat.le_refl _,heap_new w _,Nat.le_refl _,Nat.zero_le _,rfl,rfl⟩⟩
   show Calls Tryz.prog 148 #[.slice (some ad) 0 cp] w _
   go_enter Tryz.func148,Tryz.ntmps148
   go_wp2_with ((at_builtin;refine Hd.out ?_))
   unfold Hd
   refine wpList_append_none0 rfl (.tmp 5) (.tmp 6) 41 rfl w.heap.size 79 i7 7 (by kernel_rfl) hi7 (.slice (some ⟨w.heap.size,0,none⟩) 0 0) 0 [] rfl HRW.out ad cp rfl ?_
   go_wp2_with fail
   go_ret
   exact⟨_,[],rfl,HRW.out,rfl,(fun x hx=>by simp at hx),HF1.out⟩
  show Calls Tryz.prog 148 #[.slice none 0 cp] w _
  have hq:(binOp .eql 41 (.slice none 0 cp) (.slice none 0 0)).run Tryz.prog w = .ok (.bool true) w:=by first | rfl | kernel_rfl
  go_enter Tryz.func148,Tryz.ntmps148
  go_wp2_with fail
  go_ret
  exact⟨_,[],rfl,World.ownsRow_nil _ _ _ _,rfl,(fun x hx=>by simp at hx),Fr.refl _ _⟩
 ·obtain⟨a0,cp,rfl,-⟩:=id h
  obtain⟨k,o,rfl,hk,L,hL,hI,hcell⟩:=h.items hne
  have hLl:L.length=cs.length:=by rw[← hL,List.length_map]
  have hlen:(L.flatMap rowI).length=cs.length*7:=by
   rw[List.length_flatMap,← hLl]
   simp[List.map_const']
  have hpos:0<cs.length:=List.length_pos_iff.2 hne
  obtain⟨i7,hi7,hz7,hs7,hb7⟩:=info_parts (P:=Tryz.prog) (e:=79) (z:=.agg #[vI 0,vI 0,vI 0,vI 0,vI 0,.slice none 0 0,.slice none 0 0]) (size:=7) (bytes:=88) (by kernel_rfl)
  have hq:(binOp .eql 41 (.slice (some ⟨k,o,none⟩) cs.length cp) (.slice none 0 0)).run Tryz.prog w = .ok (.bool false) w:=by first | rfl | kernel_rfl
  have hF1:Fr (fun _=>False) w (w.alloc (.cells #[] 79)):=Fr.alloc (Fr.refl _ w) _
  have HF1:Hd (Fr (fun _=>False) w (w.alloc (.cells #[] 79))):=hF1
  have HRW:Hd ((w.alloc (.cells #[] 79)).ownsRow w.heap.size 79 7 (.slice (some ⟨w.heap.size,0,none⟩) 0 0) 0 []):=⟨rfl,Or.inr ⟨w.heap.size,0,#[],rfl,Nat.le_refl _,heap_new w _,Nat.le_refl _,Nat.zero_le _,rfl,rfl⟩⟩
  have HNW:Hd (∀ j u,(L.flatMap rowI)[j]?=some u→(w.alloc (.cells #[] 79)).cell? ((⟨k,o,none⟩:Addr).add j)=some u):=fun j u hu=>by
   rw[addr_plus,hF1.cell (Nat.lt_of_lt_of_le hk f.size) (fun h=>h),f.cell hk (fun h=>h)]
   exact hcell j u hu
  have hbase:w.heap.size≤(w.alloc (.cells #[] 79)).heap.size:=hF1.size
  have HI:Hd (∀ x∈L,IA w0 x.2.1 x.1.args∧IA w0 x.2.2 x.1.rets):=hI
  have HL:Hd (L.map (·.1)=cs∧L.length=cs.length∧(L.flatMap rowI).length=cs.length*7∧cs.length≤1599289640354):=⟨hL,hLl,hlen,hn.1⟩
  clear hF1 hcell hI hL hLl hlen hn h hne
  go_enter Tryz.func148,Tryz.ntmps148
  go_wp2_with ((at_builtin;refine Hd.out ?_))
  unfold Hd
  refine wpList_append_lies _ rfl (.tmp 5) (.tmp 6) 41 rfl w.heap.size 79 i7 (.agg #[vI 0,vI 0,vI 0,vI 0,vI 0,.slice none 0 0,.slice none 0 0]) 7 88 (by kernel_rfl) hi7 hz7 hs7 hb7 rfl (by omega) (.slice (some ⟨w.heap.size,0,none⟩) 0 0) 0 _ rfl HRW.out ⟨k,o,none⟩ cs.length cp (L.flatMap rowI) rfl HL.out.2.2.1 HNW.out (items_one HI.out) hpos (by have:=HL.out;unfold maxLen;omega) (by have:=HL.out;omega) hbase (w.heap.size+1) (by simp) ?_
  intro g6 cap6 w6 hown6 hgrow6 hat6 hlt6
  have HF6:Hd (Fr (fun _=>False) w w6):=HF1.out.then (⟨hgrow6.os,hgrow6.tape,hgrow6.output,hgrow6.size,fun k hk hS=>hgrow6.block k hk (fun e=>hS e.symm)⟩:Fr (fun k=>(Value.slice (some ⟨w.heap.size,0,none⟩) 0 0).ownBlock=some k) _ _) (fun j hj e=>by cases e;exact absurd hj (Nat.lt_irrefl _))
  have HO6:Hd (w6.ownsRow w.heap.size 79 7 (.slice (some ⟨g6,0,none⟩) cs.length cap6) cs.length (L.flatMap rowI)):=by unfold Hd;simpa using hown6
  clear hown6 hgrow6 hat6 hlt6 hbase HRW HNW
  rw[Nat.zero_add]
  go_wp2_with fail
  go_ret
  exact⟨_,L,rfl,HO6.out,HL.out.1,HI.out,HF6.out⟩
set_option maxRecDepth 100000
set_option maxHeartbeats 4000000
abbrev nil2 : Obj:=.cells #[.slice none 0 0,.slice none 0 0] 33
theorem underL32 : Tryz.prog.underlying 31=some (.slice 30):=by kernel_rfl
theorem own_slice {w:World}{B e sz n:Nat}{v:Value}{xs:List Value}(h:w.ownsRow B e sz v n xs):∃ a c,v = .slice a n c:=by
 rcases h.2 with⟨e,e2⟩|⟨g,cap,cur,e,-⟩
 ·exact⟨none,0,by rw[e,e2]⟩
 ·exact⟨_,_,e⟩
theorem keepA {W:World}{k:Nat}{o':Obj}(h:W.heap[k]?=some o')(o:Obj):(W.alloc o).heap[k]?=some o':=by rw[Go.RowKit.Below.heap_alloc _ _ _ (heap_lt h)];exact h
theorem keepF {W W':World}{k:Nat}{o':Obj}(h:W.heap[k]?=some o')(f:Fr (fun _=>False) W W'):W'.heap[k]?=some o':=(f.block k (heap_lt h) (fun e=>e)).trans h
structure LO (w:World)(B:Nat)(rv:Value)(us:List Value)(ls:List (List Int)):Prop where
 row:w.ownsRow B 30 1 rv us.length us
 ul:us.length=ls.length
 each:∀ i (h:i<us.length) (h':i<ls.length),IOwn w B us[i] ls[i]
 apart:∀ i j (h:i<us.length) (h':j<us.length),i≠j→∀ k,us[i].ownBlock=some k→us[j].ownBlock≠some k
theorem LO.nil (w:World)(B:Nat):LO w B (.slice none 0 0) [] []:=⟨World.ownsRow_nil _ _ _ _,rfl,fun i h=>by simp at h,fun i j h=>by simp at h⟩
theorem LO.keep {w w':World}{B:Nat}{rv:Value}{us:List Value}{ls:List (List Int)}(h:LO w B rv us ls)(f:Fr (fun _=>False) w w'):LO w' B rv us ls :=
 ⟨ownsRow_frL h.row f (fun _ _ e=>e),h.ul,fun i hi hk=>(h.each i hi hk).fr f (fun _ _ e=>e),h.apart⟩
theorem LO.grow {w w6:World}{B g cap:Nat}{rv x:Value}{us:List Value}{ls:List (List Int)}{l:List Int}(h:LO w B rv us ls)(hx:IOwn w B x l)(ha:∀ i (hi:i<us.length),∀ k,us[i].ownBlock=some k→x.ownBlock≠some k)(hg:w.grownBy w6 rv.ownBlock)(ho:w6.ownsRow B 30 1 (.slice (some ⟨g,0,none⟩) (us.length+1) cap) (us.length+1) (us++[x])) :
 LO w6 B (.slice (some ⟨g,0,none⟩) (us.length+1) cap) (us++[x]) (ls++[l]):=by
 have f:=grown_frL hg
 have ke:∀ y s,IOwn w B y s→IOwn w6 B y s:=fun y s hy=>hy.fr f (fun j e e2=>own_apart h.row hy (by decide) j e e2)
 refine⟨by rw[List.length_append];exact ho,by rw[List.length_append,List.length_append,h.ul];rfl,fun i hi hk=>?_,fun i j hi hj hne k e=>?_⟩
 ·have hul:=h.ul
  by_cases e:i<us.length
  ·rw[List.getElem_append_left e,List.getElem_append_left (by omega)]
   exact ke _ _ (h.each i e (by omega))
  ·have ei:i=us.length:=by simp at hi;omega
   subst ei
   have e1:(us++[x])[us.length]=x:=by simp
   have e2:(ls++[l])[us.length]=l:=by simp[hul]
   rw[e1,e2]
   exact ke _ _ hx
 ·have hi':i<us.length+1:=by simpa using hi
  have hj':j<us.length+1:=by simpa using hj
  by_cases ei:i<us.length
  ·rw[List.getElem_append_left ei] at e
   by_cases ej:j<us.length
   ·rw[List.getElem_append_left ej];exact h.apart i j ei ej hne k e
   ·have e3:j=us.length:=by omega
    subst e3
    have e1:(us++[x])[us.length]=x:=by simp
    rw[e1];exact ha i ei k e
  ·have e3:i=us.length:=by omega
   subst e3
   have e1:(us++[x])[us.length]=x:=by simp
   rw[e1] at e
   have ej:j<us.length:=by omega
   rw[List.getElem_append_left ej]
   intro e2
   exact ha j ej k e2 e
theorem LO.la {w:World}{B:Nat}{rv:Value}{us:List Value}{ls:List (List Int)}(h:LO w B rv us ls):LA w rv ls:=by
 obtain⟨ra,rc,erv⟩:=own_slice h.row
 refine⟨ra,rc,by rw[erv,h.ul],fun hne=>?_⟩
 have hl0:0<us.length:=by rw[h.ul];exact List.length_pos_iff.2 hne
 obtain⟨g,cap,e,hgl,-⟩:=own_cell h.row (j:=0) (u:=us[0]) (List.getElem?_eq_getElem hl0)
 rw[erv] at e
 cases e
 refine⟨g,0,rfl,hgl,fun j hj=>?_⟩
 have hj':j<us.length:=by rw[h.ul];exact hj
 obtain⟨g',cap',e',-,hc⟩:=own_cell h.row (j:=j) (u:=us[j]) (List.getElem?_eq_getElem hj')
 rw[erv] at e'
 cases e'
 exact⟨us[j],by rw[Nat.zero_add];exact hc,(h.each j hj' hj).ia⟩
theorem copyLists_any (v:Value)(ls:List (List Int))(w:World)(hE:LA w v ls)(hel:ls.length≤5864062014634)(hll:∀ l∈ls,l.length≤17592186043904):Calls Tryz.prog 84 #[v] w fun e w'=>∃ v' us,e = .returned v'∧LO w' w.heap.size v' us ls∧Fr (fun _=>False) w w':=by
 obtain⟨ea,ec,rfl,hein⟩:=hE
 have HE:Hd (ls≠[]→_):=hein
 have HLL:Hd (∀ l∈ls,l.length≤17592186043904):=hll
 clear hein hll
 obtain⟨i22,hi22,hz22,hs22,hb22⟩:=info_parts (P:=Tryz.prog) (e:=30) (z:=.slice none 0 0) (size:=1) (bytes:=24) (by kernel_rfl)
 go_enter Tryz.func84,Tryz.ntmps84
 go_wp2_with fail
 go_loopw [3,4] (fun mv v wr=>∃ (k:Nat) (us:List Value),v = .int .i64 k∧k≤ls.length∧Hd (LO wr w.heap.size mv us (ls.take k))∧Hd (Fr (fun _=>False) w wr)) (fun _ v _=>match v with | .int _ q=>ls.length-q.toNat | _=>0)
 case atStart=>exact⟨0,[],rfl,Nat.zero_le _,LO.nil _ _,Fr.refl _ _⟩
 case round =>
  obtain⟨k,us,rfl,hk,HO,HF⟩:=hrel
  by_cases hlt:k<ls.length
  ·obtain⟨pk,po,rfl,hpk,hcs⟩:=HE.out (by intro e;simp[e] at hlt)
   obtain⟨u,hu1,hu2⟩:=hcs k hlt
   have p0:=(HF.out.cell (o:=po+k) hpk (fun h=>h)).trans hu1
   have HI:Hd (IA wr u ls[k]):=hu2.stay HF.out
   have hzk:ls[k].length≤17592186043904:=HLL.out _ (List.getElem_mem hlt)
   have HT:Hd (ls.take (k+1)=ls.take k++[ls[k]]):=by unfold Hd;rw[List.take_add_one,List.getElem?_eq_getElem hlt];rfl
   have HUL:Hd (us.length=k):=by have h9:=HO.out.ul;unfold Hd;rw[h9,List.length_take];omega
   obtain⟨va,vc,eu,-⟩:=hu2
   generalize ls[k]=z at *
   subst eu
   have hk0:(0:Int)≤k:=by omega
   have hk1:(k:Int)<ls.length:=by omega
   clear hcs hu1
   go_wp2_with fail
   refine(show Calls Tryz.prog 83 #[.slice va z.length vc] wr _ from copyInts_any _ z wr HI.out hzk).mono ?_
   rintro e w2 ⟨x,rfl,hx,hF2⟩
   have HX:Hd (IOwn w2 w.heap.size x z):=hx.mono HF.out.size
   have HXA:Hd (∀ i (hi:i<us.length),∀ k,us[i].ownBlock=some k→x.ownBlock≠some k):=fun i hi j e e2=>by
    have h1:=(hx.ge j e2).1
    have h2:=((HO.out.each i hi (by have:=HO.out.ul;omega)).ge j e).2
    omega
   obtain⟨xa,xc,ex⟩:=own_slice hx
   have HO2:Hd (LO w2 w.heap.size u3 us (ls.take k)):=HO.out.keep hF2
   have HF2:Hd (Fr (fun _=>False) w w2):=HF.out.trans hF2
   have hsz:=HF2.out.size
   have HO1:Hd (LO (w2.alloc (.cells #[x] 30)) w.heap.size u3 us (ls.take k)):=HO2.out.keep (Fr.alloc (Fr.refl _ _) _)
   have HX1:Hd (IOwn (w2.alloc (.cells #[x] 30)) w.heap.size x z):=HX.out.fr (Fr.alloc (Fr.refl (fun _=>False) _) _) (fun _ _ e=>e)
   have hnews:∀ j u,[x][j]?=some u→(w2.alloc (.cells #[x] 30)).cell? ((⟨w2.heap.size,0,none⟩:Addr).add j)=some u :=
    World.news_of_block (cs:=#[x]) (heap_new w2 (.cells #[x] 30))
   have hbase:w.heap.size≤(w2.alloc (.cells #[x] 30)).heap.size:=by simp;omega
   have hUl:us.length+1≤5864062014634:=by have:=HUL.out;omega
   subst ex
   clear hx hF2 HF HO HI p0
   go_wp2_with ((at_builtin;refine Hd.out ?_))
   unfold Hd
   refine wpList_append_lies _ rfl (.tmp 17) (.tmp 19) 31 rfl w.heap.size 30 i22 (.slice none 0 0) 1 24 underL32 hi22 hz22 hs22 hb22 rfl (by omega) u3 us.length _ rfl HO1.out.row ⟨w2.heap.size,0,none⟩ 1 1 [.slice xa z.length xc] rfl rfl hnews (by intro u hu;simp at hu;subst hu;rfl) (by omega) (by unfold maxLen;omega) (by omega) hbase (w2.heap.size+1) (by simp) ?_
   intro g6 cap6 w6 hown6 hgrow6 hat6 hlt6
   have HO6:Hd (LO w6 w.heap.size (.slice (some ⟨g6,0,none⟩) (us.length+1) cap6) (us++[.slice xa z.length xc]) (ls.take (k+1))):=by unfold Hd;rw[HT.out];exact HO1.out.grow HX1.out HXA.out hgrow6 hown6
   have HF6:Hd (Fr (fun _=>False) w w6):=grow_fr0 (HF2.out.alloc _) hgrow6 (fun k hk=>(World.ownsRow.lt HO1.out.row k hk).1)
   clear hown6 hgrow6 hat6 hlt6 HO1 hnews hbase HO2 HF2 HX HX1 HXA
   go_wp2_with fail
   exact⟨⟨k+1,_,by simp,by omega,HO6.out,HF6.out⟩,by simp;omega⟩
  ·have hdk:decide ((k:Int)<ls.length)=false:=by simp;omega
   have HO2:Hd (LO wr w.heap.size u3 us ls):=by have:=HO.out;rw[List.take_of_length_le (by omega)] at this;exact this
   clear HO
   go_wp2_with fail
   go_ret
   exact⟨u3,us,rfl,HO2.out,HF.out⟩
structure SO (w:World)(B:Nat)(hv rv:Value)(us:List Value)(s:PS):Prop where
 oh:IOwn w B hv s.H
 lo:LO w B rv us s.R
 ap:∀ i (h:i<us.length),∀ k,us[i].ownBlock=some k→hv.ownBlock≠some k
theorem SO.keep {w w':World}{B:Nat}{hv rv:Value}{us:List Value}{s:PS}(h:SO w B hv rv us s)(f:Fr (fun _=>False) w w'):SO w' B hv rv us s:=⟨h.oh.fr f (fun _ _ e=>e),h.lo.keep f,h.ap⟩
theorem SO.sa {w:World}{B:Nat}{hv rv:Value}{us:List Value}{s:PS}(h:SO w B hv rv us s):(IA w hv s.H∧LA w rv s.R):=⟨h.oh.ia,h.lo.la⟩
theorem LO.fr {S:Nat→Prop}{w w':World}{B:Nat}{rv:Value}{us:List Value}{ls:List (List Int)}(h:LO w B rv us ls)(f:Fr S w w')(hS:∀ k,B≤k→¬ S k):LO w' B rv us ls :=
 ⟨ownsRow_frL h.row f (fun k e=>hS k (World.ownsRow.lt h.row k e).1),h.ul,fun i hi hk=>(h.each i hi hk).fr f (fun k e=>hS k ((h.each i hi hk).ge k e).1),h.apart⟩
theorem LO.mono {w:World}{B B':Nat}{rv:Value}{us:List Value}{ls:List (List Int)}(h:LO w B rv us ls)(hB:B'≤B):LO w B' rv us ls:=⟨World.ownsRow.mono h.row hB,h.ul,fun i hi hk=>(h.each i hi hk).mono hB,h.apart⟩
theorem copySummary_any (x1 y1:Value)(s:PS)(w:World)(h1:IA w x1 s.H)(h2:LA w y1 s.R)(fh:s.H.length≤17592186043904)(hr:s.R.length≤5864062014634)(fl:∀ l∈s.R,l.length≤17592186043904):Calls Tryz.prog 43 #[.agg #[x1,y1]] w fun e w'=>∃ hv rv us,e = .returned (.agg #[hv,rv])∧SO w' (w.heap.size+2) hv rv us s∧Fr (fun _=>False) w w':=by
 obtain⟨a1,b1,e1,-⟩:=id h1
 obtain⟨a2,b2,e2,-⟩:=id h2
 obtain⟨wa,hwa⟩:∃ wa,wa=(w.alloc (.cells #[x1,y1] 33)).alloc nil2:=⟨_,rfl⟩
 have hF:Fr (fun _=>False) w wa:=by rw[hwa];exact Fr.alloc (Fr.alloc (Fr.refl _ w) _) _
 obtain⟨H,hH⟩:∃ H,H=w.heap.size:=⟨_,rfl⟩
 have b1':wa.heap[H]?=some (.cells #[x1,y1] 33):=by rw[hwa,hH];exact keepA (heap_new w _) _
 have b2':wa.heap[H+1]?=some nil2:=by
  have:=heap_new (w.alloc (.cells #[x1,y1] 33)) nil2
  rw[World.size_alloc] at this
  rw[hwa,hH];exact this
 have hsz:wa.heap.size=H+2:=by rw[hwa,hH];simp
 have HWA:Hd (wa=(w.alloc (.cells #[x1,y1] 33)).alloc nil2):=hwa
 have HSZ:Hd (wa.heap.size=H+2):=hsz
 have HF:Hd (Fr (fun _=>False) w wa):=hF
 have HH:Hd (H=w.heap.size):=hH
 have B2:Hd (wa.heap[H+1]?=some nil2):=b2'
 have HI1:Hd (∀ W,Fr (fun _=>False) wa W→IA W x1 s.H):=fun W f=>h1.stay (hF.trans f)
 have HI2:Hd (∀ W,Fr (fun _=>False) wa W→LA W y1 s.R):=fun W f=>h2.stay (hF.trans f)
 have FL:Hd (∀ l∈s.R,l.length≤17592186043904):=fl
 have c0:wa.cell? ⟨H,0,none⟩=some x1:=by rw[cell_of b1'];rfl
 have c1:wa.cell? ⟨H,1,none⟩=some y1:=by rw[cell_of b1'];rfl
 have d0:wa.cell? ⟨H+1,0,none⟩=some (.slice none 0 0):=by rw[cell_of b2'];rfl
 have d1:wa.cell? ⟨H+1,1,none⟩=some (.slice none 0 0):=by rw[cell_of b2'];rfl
 have z0:=frozen_of b2' 0
 have z1:=frozen_of b2' 1
 have hHl:H<wa.heap.size:=heap_lt b1'
 have hHl1:H+1<wa.heap.size:=heap_lt b2'
 subst e1;subst e2
 clear h1 h2 hF hwa hH b1' b2' fl hsz
 go_enter Tryz.func43,Tryz.ntmps43
 go_upto_region 1 with fail
 rw[← HWA.out,← HH.out]
 clear HWA
 go_region_held3 (fun w'=>w'.cell? ⟨H,0,none⟩=some (.slice a1 s.H.length b1)∧w'.cell? ⟨H,1,none⟩=some (.slice a2 s.R.length b2)) (go_keep) ((
  first
   |(go_at_call 83
     refine(show Calls Tryz.prog 83 #[.slice a1 s.H.length b1] _ _ from copyInts_any _ s.H _ (by first | exact HI1.out _ (Fr.drew (Fr.refl _ _)) | exact HI1.out _ HGb.out) fh).mono ?_
     rintro e wx ⟨hv,rfl,hxo,hfx⟩
     obtain⟨xa,xc,ehv⟩:=own_slice hxo
     subst ehv
     have HGa:Hd (Fr (fun _=>False) wa wx):=by first | exact(Fr.drew (Fr.refl _ _)).trans hfx | exact HGb.out.trans hfx
     have HOa:Hd _:=hxo
     have s0:=(HGa.out.cell hHl (fun h=>h)).trans c0
     have s1:=(HGa.out.cell hHl (fun h=>h)).trans c1
     have s2:=(HGa.out.cell hHl1 (fun h=>h)).trans d0
     have s3:=(HGa.out.cell hHl1 (fun h=>h)).trans d1
     have s4:=frozen_of (keepF B2.out HGa.out) 0
     have s5:=frozen_of (keepF B2.out HGa.out) 1
     have HFXa:Hd _:=hfx
     clear hxo hfx)
   |(go_at_call 84
     refine(show Calls Tryz.prog 84 #[.slice a2 s.R.length b2] _ _ from copyLists_any _ s.R _ (by first | exact HI2.out _ (Fr.drew (Fr.refl _ _)) | exact HI2.out _ HGa.out) hr FL.out).mono ?_
     rintro e wy ⟨rv,us,rfl,hyo,hfy⟩
     obtain⟨ya,yc,erv⟩:=own_slice hyo.row
     subst erv
     have HGb:Hd (Fr (fun _=>False) wa wy):=by first | exact(Fr.drew (Fr.refl _ _)).trans hfy | exact HGa.out.trans hfy
     have HOb:Hd _:=hyo
     have t0:=(HGb.out.cell hHl (fun h=>h)).trans c0
     have t1:=(HGb.out.cell hHl (fun h=>h)).trans c1
     have t2:=(HGb.out.cell hHl1 (fun h=>h)).trans d0
     have t3:=(HGb.out.cell hHl1 (fun h=>h)).trans d1
     have t4:=frozen_of (keepF B2.out HGb.out) 0
     have t5:=frozen_of (keepF B2.out HGb.out) 1
     have HFXb:Hd _:=hfy
     clear hyo hfy)))
 have f:Fr (fun j=>j=H+1) wy ((wy.setCell ⟨H+1,0,none⟩ (.slice xa s.H.length xc)).setCell ⟨H+1,1,none⟩ (.slice ya us.length yc)):=(setCell_fr wy (H+1) 0 _).trans (setCell_fr _ (H+1) 1 _)
 have HZ:Hd (((wy.setCell ⟨H+1,0,none⟩ (.slice xa s.H.length xc)).setCell ⟨H+1,1,none⟩ (.slice ya us.length yc)).heap[H+1]?=some (.cells #[.slice xa s.H.length xc,.slice ya us.length yc] 33)):=set_of (set_of (keepF B2.out HGb.out) 0 _) 1 _
 have hO1:IOwn wx wa.heap.size (.slice xa s.H.length xc) s.H:=HOa.out
 have hL1:LO wy wx.heap.size (.slice ya us.length yc) us s.R:=HOb.out
 have hFxy:Fr (fun _=>False) wx wy:=HFXb.out
 have hsx:wa.heap.size≤wx.heap.size:=HGa.out.size
 have hsz:=HSZ.out
 have HSO:Hd (SO ((wy.setCell ⟨H+1,0,none⟩ (.slice xa s.H.length xc)).setCell ⟨H+1,1,none⟩ (.slice ya us.length yc)) (w.heap.size+2) (.slice xa s.H.length xc) (.slice ya us.length yc) us s):=by
  have hw:=HH.out
  have h1:IOwn wy (w.heap.size+2) (.slice xa s.H.length xc) s.H:=(hO1.fr hFxy (fun _ _ e=>e)).mono (by omega)
  refine⟨h1.fr f (fun j e e2=>by have:=(h1.ge j e).1;omega),(hL1.mono (by omega)).fr f (fun j hj e=>by omega),fun i hi j e e2=>?_⟩
  have h2:=((hL1.each i hi (by have:=hL1.ul;omega)).ge j e).1
  have h3:=(hO1.ge j e2).2
  omega
 have HFz:Hd (Fr (fun _=>False) w ((wy.setCell ⟨H+1,0,none⟩ (.slice xa s.H.length xc)).setCell ⟨H+1,1,none⟩ (.slice ya us.length yc))):=(HF.out.trans HGb.out).then f (fun j hj e=>by have:=HH.out;omega)
 clear f hO1 hL1 hFxy hsx hsz s0 s1 s2 s3 s4 s5 t0 t1 t2 t3 t4 t5 c0 c1 d0 d1 z0 z1
 go_wp2_with fail
 generalize (wy.setCell ⟨H+1,0,none⟩ (.slice xa s.H.length xc)).setCell ⟨H+1,1,none⟩ (.slice ya us.length yc)=wz at *
 have e0:wz.cell? ⟨H+1,0,none⟩=some (.slice xa s.H.length xc):=by rw[cell_of HZ.out];rfl
 have e1:wz.cell? ⟨H+1,1,none⟩=some (.slice ya us.length yc):=by rw[cell_of HZ.out];rfl
 refine bodyPost_ret (v:=.agg #[.slice xa s.H.length xc,.slice ya us.length yc]) ?_ rfl ⟨_,_,us,rfl,HSO.out,HFz.out⟩
 rw[results_cell (p:=2) (ty:=33) Tryz.results43]
 simp[go_sem,e0,e1]
set_option maxRecDepth 100000
set_option maxHeartbeats 2000000
abbrev SI := PS × Value × Value × List Value
abbrev rowS (x:SI):List Value:=[x.2.1,x.2.2.1]
structure SsO (w:World)(B:Nat)(v:Value)(L:List SI):Prop where
 row:w.ownsRow B 33 2 v L.length (L.flatMap rowS)
 each:∀ x∈L,SO w B x.2.1 x.2.2.1 x.2.2.2 x.1
theorem SsO.sa {w:World}{B:Nat}{v:Value}{L:List SI}(h:SsO w B v L):SsA w v (L.map (·.1)):=by
 rcases h.row.2 with⟨h2,h3⟩|⟨g,cap,cur,e,-⟩
 ·refine⟨none,0,by rw[h2,List.length_map,h3],fun hne=>?_⟩
  exact absurd (by rw[List.eq_nil_of_length_eq_zero h3];rfl) hne
 ·refine⟨some ⟨g,0,none⟩,cap,by rw[e,List.length_map],fun _=>⟨g,0,rfl,(World.ownsRow.lt h.row g (by rw[e];rfl)).2,fun j hj=>?_⟩⟩
  have hj':j<L.length:=by simpa using hj
  have pc:∀ o u,o<2→(rowS L[j])[o]?=some u→w.cell? ⟨g,j*2+o,none⟩=some u:=fun o u ho hu=>by
   obtain⟨g',cap',e',-,hc⟩:=own_cell h.row (j:=j*2+o) (u:=u) (by rw[flat_get rowS 2 (fun _=>rfl) L j o hj' ho];exact hu)
   rw[e] at e'
   cases e'
   exact hc
  have hi:=(h.each L[j] (List.getElem_mem hj')).sa
  rw[Nat.zero_add]
  simp only[List.getElem_map]
  exact⟨L[j].2.1,L[j].2.2.1,pc 0 _ (by omega) rfl,pc 1 _ (by omega) rfl,hi.1,hi.2⟩
theorem SsO.stay {w w':World}{B:Nat}{v:Value}{L:List SI}(h:SsO w B v L)(f:Fr (fun _=>False) w w'):SsO w' B v L:=⟨ownsRow_frL h.row f (fun _ _ e=>e),fun x hx=>(h.each x hx).keep f⟩
theorem SO.mono {w:World}{B B':Nat}{hv rv:Value}{us:List Value}{s:PS}(h:SO w B hv rv us s)(hB:B'≤B):SO w B' hv rv us s:=⟨h.oh.mono hB,h.lo.mono hB,h.ap⟩
theorem SO.other {S:Nat→Prop}{w w':World}{B:Nat}{hv rv:Value}{us:List Value}{s:PS}(h:SO w B hv rv us s)(f:Fr S w w')(h1:∀ k,hv.ownBlock=some k→¬ S k)(h2:∀ k,rv.ownBlock=some k→¬ S k)(h3:∀ i (h:i<us.length),∀ k,us[i].ownBlock=some k→¬ S k):SO w' B hv rv us s :=
 ⟨h.oh.fr f h1,⟨ownsRow_frL h.lo.row f h2,h.lo.ul,fun i hi hk=>(h.lo.each i hi hk).fr f (h3 i hi),h.lo.apart⟩,h.ap⟩
theorem under25 : Tryz.prog.underlying 25=some (.slice 33):=by kernel_rfl
theorem copySums_any (v:Value)(ss:List PS)(w:World)(hl:SsA w v ss)(hn:FineS ss) :
 Calls Tryz.prog 27 #[v] w fun e w'=>∃ v' L,e = .returned v'∧SsO w' w.heap.size v' L∧L.map (·.1)=ss∧Fr (fun _=>False) w w':=by
 obtain⟨ea,ec,rfl,hein⟩:=hl
 have HE:Hd _:=hein
 have HFI:Hd (FineS ss):=hn
 have hz:=hn.1
 clear hein hn
 obtain⟨i7,hi7,hz7,hs7,hb7⟩:=info_parts (P:=Tryz.prog) (e:=33) (z:=.agg #[.slice none 0 0,.slice none 0 0]) (size:=2) (bytes:=48) (by kernel_rfl)
 go_enter Tryz.func27,Tryz.ntmps27
 go_wp2_with fail
 go_loopw [3,4] (fun mv v wr=>∃ (k:Nat) (L:List SI),v = .int .i64 k∧k≤ss.length∧Hd (SsO wr w.heap.size mv L)∧Hd (L.map (·.1)=ss.take k)∧Hd (Fr (fun _=>False) w wr)) (fun _ v _=>match v with | .int _ q=>ss.length-q.toNat | _=>0)
 case atStart=>exact⟨0,[],rfl,Nat.zero_le _,⟨World.ownsRow_nil _ _ _ _,fun x hx=>by simp at hx⟩,rfl,Fr.refl _ _⟩
 case round =>
  obtain⟨k,L,rfl,hk,HO,HM,HF⟩:=hrel
  by_cases hlt:k<ss.length
  ·have hne:ss≠[]:=by intro e;simp[e] at hlt
   obtain⟨k1,o1,rfl,hk1,g1⟩:=HE.out hne
   obtain⟨x1,y1,p0,p1,ix1,iy1⟩:=g1 k hlt
   have m1:=fun o=>HF.out.cell (o:=o) hk1 (fun h=>h)
   have p0:=(m1 _).trans p0
   have p1:=(m1 _).trans p1
   have X1:Hd (IA wr x1 ss[k].H):=ix1.stay HF.out
   have Y1:Hd (LA wr y1 ss[k].R):=iy1.stay HF.out
   have HC:=HFI.out.2 _ (List.getElem_mem hlt)
   have HT:Hd (ss.take (k+1)=ss.take k++[ss[k]]):=by unfold Hd;rw[List.take_add_one,List.getElem?_eq_getElem hlt];rfl
   have HLL:Hd (L.length=k):=by have:=congrArg List.length HM.out;simp at this;unfold Hd;omega
   generalize ss[k]=f at *
   obtain⟨a,b,e1,-⟩:=ix1
   obtain⟨a',b',e2,-⟩:=iy1
   subst e1 e2
   obtain⟨q1,q2,q3⟩:=HC
   have hct:=copySummary_any _ _ f wr X1.out Y1.out q1 q2 q3
   have hk0:(0:Int)≤k:=by omega
   have hk3:(k:Int)<ss.length:=by omega
   clear g1 m1 q3
   go_wp2_with fail
   refine hct.mono ?_
   rintro e w1 ⟨hv,rv,us,rfl,hx,hF1⟩
   obtain⟨xa,xc,eh⟩:=own_slice hx.oh
   obtain⟨ya,yc,er⟩:=own_slice hx.lo.row
   subst eh er
   obtain⟨wb,hwb⟩:∃ wb,wb=w1.alloc (.cells #[.slice xa f.H.length xc,.slice ya us.length yc] 33):=⟨_,rfl⟩
   have hFb:Fr (fun _=>False) w1 wb:=by rw[hwb];exact Fr.alloc (Fr.refl _ w1) _
   have hFc:Fr (fun _=>False) w1 (wb.alloc (.cells #[.slice xa f.H.length xc,.slice ya us.length yc] 33)):=Fr.alloc hFb _
   have b1:wb.heap[w1.heap.size]?=some (.cells #[.slice xa f.H.length xc,.slice ya us.length yc] 33):=by rw[hwb];exact heap_new w1 _
   have HO1:Hd (SsO (wb.alloc (.cells #[.slice xa f.H.length xc,.slice ya us.length yc] 33)) w.heap.size u3 L):=HO.out.stay (hF1.trans hFc)
   have HX1:Hd (SO (wb.alloc (.cells #[.slice xa f.H.length xc,.slice ya us.length yc] 33)) w.heap.size (.slice xa f.H.length xc) (.slice ya us.length yc) us f):=(hx.keep hFc).mono (by have:=HF.out.size;omega)
   have HF1:Hd (Fr (fun _=>False) w (wb.alloc (.cells #[.slice xa f.H.length xc,.slice ya us.length yc] 33))):=HF.out.trans (hF1.trans hFc)
   have HWB:Hd (wb=w1.alloc (.cells #[.slice xa f.H.length xc,.slice ya us.length yc] 33)):=hwb
   have HRW:Hd ((wb.alloc (.cells #[.slice xa f.H.length xc,.slice ya us.length yc] 33)).ownsRow w.heap.size 33 2 u3 L.length (L.flatMap rowS)):=HO1.out.row
   have hnews:∀ j u,[Value.slice xa f.H.length xc,.slice ya us.length yc][j]?=some u→(wb.alloc (.cells #[.slice xa f.H.length xc,.slice ya us.length yc] 33)).cell? ((⟨wb.heap.size,0,none⟩:Addr).add j)=some u :=
    World.news_of_block (cs:=#[.slice xa f.H.length xc,.slice ya us.length yc]) (heap_new wb _)
   have hbase:w.heap.size≤(wb.alloc (.cells #[.slice xa f.H.length xc,.slice ya us.length yc] 33)).heap.size:=HF1.out.size
   have hEl:L.length+1≤2932031007318:=by have:=HLL.out;omega
   have u0:wb.cell? ⟨w1.heap.size,0,none⟩=some (.slice xa f.H.length xc):=by rw[cell_of b1];rfl
   have u1:wb.cell? ⟨w1.heap.size,1,none⟩=some (.slice ya us.length yc):=by rw[cell_of b1];rfl
   clear hx hF1 hFb hFc b1 HO HF hwb p0 p1 hct
   go_upto_region 6 with fail
   rw[← HWB.out]
   clear HWB
   go_wp2_with ((at_builtin;refine Hd.out ?_))
   unfold Hd
   refine wpList_append_lies _ rfl (.tmp 17) (.tmp 19) 25 rfl w.heap.size 33 i7 (.agg #[.slice none 0 0,.slice none 0 0]) 2 48 under25 hi7 hz7 hs7 hb7 rfl (by omega) u3 L.length _ rfl HRW.out ⟨wb.heap.size,0,none⟩ 1 1 [.slice xa f.H.length xc,.slice ya us.length yc] rfl rfl hnews (by intro u hu;simp at hu;rcases hu with rfl | rfl<;>rfl) (by omega) (by unfold maxLen;omega) (by omega) hbase (wb.heap.size+1) (by simp) ?_
   intro g6 cap6 w6 hown6 hgrow6 hat6 hlt6
   have hF6:=grown_frL hgrow6
   have HO6:Hd (SsO w6 w.heap.size (.slice (some ⟨g6,0,none⟩) (L.length+1) cap6) (L++[(f,.slice xa f.H.length xc,.slice ya us.length yc,us)])):=by
    have keep:∀ (hv rv:Value) (us:List Value) (s:PS),SO (wb.alloc (.cells #[.slice xa f.H.length xc,.slice ya us.length yc] 33)) w.heap.size hv rv us s→True:=fun _ _ _ _ _=>trivial
    have keep:∀ (hv rv:Value) (us':List Value) (s:PS),SO (wb.alloc (.cells #[.slice xa f.H.length xc,.slice ya us.length yc] 33)) w.heap.size hv rv us' s→SO w6 w.heap.size hv rv us' s:=fun hv rv us' s hM =>
     hM.other hF6 (fun j e e2=>own_apart HRW.out hM.oh (by decide) j e e2) (fun j e e2=>own_apart HRW.out hM.lo.row (by decide) j e e2) (fun i hi j e e2=>own_apart HRW.out (hM.lo.each i hi (by have:=hM.lo.ul;omega)) (by decide) j e e2)
    refine⟨?_,fun x hx=>?_⟩
    ·rw[List.length_append,List.flatMap_append]
     simpa using hown6
    ·rcases List.mem_append.1 hx with hx | hx
     ·exact keep _ _ _ _ (HO1.out.each x hx)
     ·simp at hx
      subst hx
      exact keep _ _ _ _ HX1.out
   have HF6:Hd (Fr (fun _=>False) w w6):=grow_fr0 HF1.out hgrow6 (fun k hk=>(World.ownsRow.lt HRW.out k hk).1)
   have HM6:Hd ((L++[((f,.slice xa f.H.length xc,.slice ya us.length yc,us):SI)]).map (·.1)=ss.take (k+1)):=by unfold Hd;rw[HT.out,List.map_append,HM.out];rfl
   clear hown6 hgrow6 hat6 hlt6 hnews hbase u0 u1 HRW HO1 HX1 HF1 HM hF6
   go_wp2_with fail
   exact⟨⟨k+1,_,by simp,by omega,HO6,HM6,HF6⟩,by simp;omega⟩
  ·have hdk:decide ((k:Int)<ss.length)=false:=by simp;omega
   have HM2:Hd (L.map (·.1)=ss):=by have:=HM.out;rw[List.take_of_length_le (by omega)] at this;exact this
   clear HM
   go_wp2_with fail
   go_ret
   exact⟨u3,L,rfl,HO.out,HM2.out,HF.out⟩
end Go.Proofs.YtdkijecnnmncnaaGreatDoor
