import Derived.Test.YtdkijecnnmncnaaGreatDoorQMfJ
set_option linter.unusedVariables false
set_option linter.unusedSimpArgs false
namespace Go.Proofs.YtdkijecnnmncnaaGreatDoor
open Go.RowKit (wrap32 wrap64)
set_option maxRecDepth 100000
set_option maxHeartbeats 8000000
abbrev rowP (x:PF × Value):List Value:=fR x.1 x.2
abbrev jmpO : Obj:=.cells #[vI 13,vI 0,vI 0,vI 0,vI 0,.slice none 0 0,.slice none 0 0] 79
abbrev stl (S:Nat):Value:=.slice (some ⟨S,0,none⟩) 1 1
def midF (fs:List PF)(f:PF)(gv:Value)(S:Nat)(cs:List PI)(k:Nat):List (PF × Value):=(f,gv)::((cs.take k).filter (isH fs.length)).map (fun c=>(headF fs c,stl S))
theorem midF_len (fs:List PF)(f:PF)(gv:Value)(S:Nat)(cs:List PI)(k:Nat):(midF fs f gv S cs k).length=1+hcnt fs.length (cs.take k):=by
 unfold midF hcnt
 simp;omega
theorem midF_no {fs:List PF}{f:PF}{gv:Value}{S:Nat}{cs:List PI}{k:Nat}(hk:k<cs.length)(h:isH fs.length cs[k]=false):midF fs f gv S cs (k+1)=midF fs f gv S cs k:=by
 unfold midF
 rw[List.take_succ_eq_append_getElem hk,List.filter_append]
 simp[h]
theorem midF_yes {fs:List PF}{f:PF}{gv:Value}{S:Nat}{cs:List PI}{k:Nat}(hk:k<cs.length)(h:isH fs.length cs[k]=true):midF fs f gv S cs (k+1)=midF fs f gv S cs k++[(headF fs cs[k],stl S)]:=by
 unfold midF
 rw[List.take_succ_eq_append_getElem hk,List.filter_append]
 simp[h]
theorem hcnt_le (n:Nat)(l:List PI):hcnt n l≤l.length:=List.length_filter_le _ _
structure Al (fs:List PF)(f:PF)(G:Int)(fv:Value)(X:Nat)(gv:Value)(S:Nat)(ps:List (Value × Value))(k m:Nat)(v6:Value)(w:World):Prop where
 p:w.heap[X]?=some (.cells #[vI G,fv] 24)
 q:w.heap[X+1]?=some (.cells #[vI 0,.slice none 0 0] 24)
 o:w.heap[X+2]?=some (.cells #[vI f.P,vI f.R,vI f.V,gv] 45)
 s:w.heap[S]?=some jmpO
 row:w.ownsRow (X+3) 79 7 gv f.code.length ((midC fs.length f.code ps k).flatMap rowI)
 fns:w.ownsRow (X+3) 45 4 v6 (midF fs f gv S f.code m).length ((midF fs f gv S f.code m).flatMap rowP)
 ne:∀ j,gv.ownBlock=some j→j≠S
section
variable {fs:List PF} {f:PF} {G:Int} {fv:Value} {X S:Nat} {gv:Value} {ps:List (Value × Value)} {k m:Nat} {v6:Value} {w w':World}
theorem Al.fr (h:Al fs f G fv X gv S ps k m v6 w)(e:Fr (fun _=>False) w w'):Al fs f G fv X gv S ps k m v6 w' :=
 ⟨(e.block _ (heap_lt h.p) (fun h=>h)).trans h.p,(e.block _ (heap_lt h.q) (fun h=>h)).trans h.q,(e.block _ (heap_lt h.o) (fun h=>h)).trans h.o,(e.block _ (heap_lt h.s) (fun h=>h)).trans h.s,ownsRow_frL h.row e (fun _ _ h=>h),ownsRow_frL h.fns e (fun _ _ h=>h),h.ne⟩
theorem Al.num {g gc:Nat}{q:Int}(h:Al fs f G fv X (.slice (some ⟨g,0,none⟩) f.code.length gc) S ps k m v6 w)(hp:ps.length=f.code.length)(hk:k<f.code.length)(hr:renI fs.length (1+hcnt fs.length (f.code.take k)) f.code[k]={ f.code[k] with n:=q }) :
 Al fs f G fv X (.slice (some ⟨g,0,none⟩) f.code.length gc) S ps (k+1) m v6 (w.setCell ⟨g,k*7+4,none⟩ (vI q)):=by
 have hb:X+3≤g:=(World.ownsRow.lt h.row g rfl).1
 have e:=setCell_fr w g (k*7+4) (vI q)
 refine⟨(e.block _ (heap_lt h.p) (fun h=>by omega)).trans h.p,(e.block _ (heap_lt h.q) (fun h=>by omega)).trans h.q,(e.block _ (heap_lt h.o) (fun h=>by omega)).trans h.o,(e.block _ (heap_lt h.s) (fun e2=>h.ne g rfl e2.symm)).trans h.s,?_,?_,h.ne⟩
 ·have hl:=midC_len (n:=fs.length) (k:=k) hp (by omega)
  have hg:=midC_get (n:=fs.length) hp hk
  have hg':=(List.getElem?_eq_some_iff.1 hg).2
  rw[midC_succ hp hk,hr,flat_set rowI 7 (fun _=>rfl) 4 (by omega) (vI q) (midC fs.length f.code ps k) k (by omega) _ (by rw[hg'];rfl)]
  exact(row_set h.row (vI q)).1
 ·exact ownsRow_frL h.fns e (fun j e1 e2=>own_apart h.row h.fns (by decide) j e1 (by rw[e2];rfl))
theorem Al.skip (h:Al fs f G fv X gv S ps (k+1) k v6 w)(hk:k<f.code.length)(hn:isH fs.length f.code[k]=false):Al fs f G fv X gv S ps (k+1) (k+1) v6 w :=
 ⟨h.p,h.q,h.o,h.s,h.row,by rw[midF_no hk hn];exact h.fns,h.ne⟩
theorem Al.same (h:Al fs f G fv X gv S ps k k v6 w)(hp:ps.length=f.code.length)(hk:k<f.code.length)(hn:f.code[k].op≠11):Al fs f G fv X gv S ps (k+1) (k+1) v6 w:=by
 have h1:isH fs.length f.code[k]=false:=by unfold isH;simp[hn]
 have h2:renI fs.length (1+hcnt fs.length (f.code.take k)) f.code[k]=f.code[k]:=by unfold renI;rw[if_neg hn]
 refine Al.skip ⟨h.p,h.q,h.o,h.s,?_,h.fns,h.ne⟩ hk h1
 have hg:=midC_get (n:=fs.length) hp hk
 obtain⟨hl,hg'⟩:=List.getElem?_eq_some_iff.1 hg
 rw[midC_succ hp hk,h2,← hg',List.set_getElem_self]
 exact h.row
theorem Al.app {W w6:World}{v7:Value}(h:Al fs f G fv X gv S ps (k+1) k v6 W)(hk:k<f.code.length)(hn:isH fs.length f.code[k]=true)(hown:w6.ownsRow (X+3) 45 4 v7 ((midF fs f gv S f.code k).length+1) ((midF fs f gv S f.code k).flatMap rowP++rowP (headF fs f.code[k],stl S)))(hg:W.grownBy w6 v6.ownBlock):Al fs f G fv X gv S ps (k+1) (k+1) v7 w6:=by
 have e:=grown_frL hg
 have hb:∀ j,v6.ownBlock=some j→X+3≤j:=fun j hj=>(World.ownsRow.lt h.fns j hj).1
 have hs:¬ v6.ownBlock=some S:=fun e2=>by
  rcases h.fns.2 with⟨e1,-⟩|⟨g',cap',cur,e1,-,k2,-⟩
  ·rw[e1] at e2;cases e2
  ·rw[e1] at e2
   cases e2
   rw[h.s] at k2
   injection (Option.some.inj k2) with _ e _
   exact absurd e (by decide)
 refine⟨(e.block _ (heap_lt h.p) (fun e2=>by have:=hb _ e2;omega)).trans h.p,(e.block _ (heap_lt h.q) (fun e2=>by have:=hb _ e2;omega)).trans h.q,(e.block _ (heap_lt h.o) (fun e2=>by have:=hb _ e2;omega)).trans h.o,(e.block _ (heap_lt h.s) hs).trans h.s,ownsRow_frL h.row e (fun j e1 e2=>own_apart h.fns h.row (by decide) j e1 e2),?_,h.ne⟩
 rw[midF_yes hk hn,List.length_append,List.flatMap_append]
 simpa using hown
theorem fa_of_row {w:World}{B:Nat}{v:Value}{N:List (PF × Value)}(h:w.ownsRow B 45 4 v N.length (N.flatMap rowP))(hc:∀ x∈N,CA w x.2 x.1.code):FA w v (N.map (·.1)):=by
 rcases h.2 with⟨h2,h3⟩|⟨g,cap,cur,e,-⟩
 ·refine⟨none,0,by rw[h2,List.length_map,h3],fun hne=>?_⟩
  exact absurd (by rw[List.eq_nil_of_length_eq_zero h3];rfl) hne
 ·refine⟨some ⟨g,0,none⟩,cap,by rw[e,List.length_map],fun _=>⟨g,0,rfl,(World.ownsRow.lt h g (by rw[e];rfl)).2,fun j hj=>?_⟩⟩
  have hj':j<N.length:=by simpa using hj
  have pc:∀ o u,o<4→(rowP N[j])[o]?=some u→w.cell? ⟨g,j*4+o,none⟩=some u:=fun o u ho hu=>by
   obtain⟨g',cap',e',-,hc⟩:=own_cell h (j:=j*4+o) (u:=u) (by rw[flat_get rowP 4 (fun _=>rfl) N j o hj' ho];exact hu)
   rw[e] at e'
   cases e'
   exact hc
  rw[Nat.zero_add]
  simp only[List.getElem_map]
  exact⟨N[j].2,pc 0 _ (by omega) rfl,pc 1 _ (by omega) rfl,pc 2 _ (by omega) rfl,pc 3 _ (by omega) rfl,hc N[j] (List.getElem_mem hj')⟩
theorem renI_args (n k:Nat)(c:PI):(renI n k c).args=c.args∧(renI n k c).rets=c.rets:=by
 unfold renI
 split
 ·split<;>exact⟨rfl,rfl⟩
 ·exact⟨rfl,rfl⟩
theorem Al.fa {w0 w9:World}{L:List CI}(h:Al fs f G fv X gv S (L.map (·.2)) f.code.length f.code.length v6 w9)(e9:Fr (fun j=>j=X+1) w9 w)(e:Fr (fun _=>False) w0 w)(hL:L.map (·.1)=f.code)(hI:∀ x∈L,IA w0 x.2.1 x.1.args∧IA w0 x.2.2 x.1.rets):FA w v6 (aloneP fs f):=by
 have hs:w.heap[S]?=some jmpO:=(e9.block S (heap_lt h.s) (fun e2=>by
  have h1:=h.s
  have e2:S=X+1:=e2
  rw[e2,h.q] at h1
  injection (Option.some.inj h1) with _ e _
  exact absurd e (by decide))).trans h.s
 have hrow:=ownsRow_frL h.row e9 (fun j hj e2=>by have:=(World.ownsRow.lt h.row j hj).1;have e2:j=X+1:=e2;omega)
 have hfns:=ownsRow_frL h.fns e9 (fun j hj e2=>by have:=(World.ownsRow.lt h.fns j hj).1;have e2:j=X+1:=e2;omega)
 have hLl:L.length=f.code.length:=by rw[← hL,List.length_map]
 have hp:(L.map (·.2)).length=f.code.length:=by rw[List.length_map,hLl]
 have hN:((({ f with code:=renC fs.length 1 f.code },gv):PF × Value)::(f.code.filter (isH fs.length)).map (fun c=>(headF fs c,stl S))).map (·.1)=aloneP fs f:=by
  unfold aloneP headsF
  simp
 have hm:midF fs f gv S f.code f.code.length=(f,gv)::(f.code.filter (isH fs.length)).map (fun c=>(headF fs c,stl S)):=by
  unfold midF
  rw[List.take_length]
 have hf:=hfns
 rw[hm] at hf
 rw[← hN]
 refine fa_of_row (B:=X+3) hf (fun x hx=>?_)
 rcases List.mem_cons.1 hx with rfl | hx
 ·have hr:=hrow
  rw[midC_end] at hr
  have hz:(List.zip (renC fs.length 1 f.code) (L.map (·.2))).length=f.code.length:=by rw[List.length_zip,renC_len,hp];omega
  have hc:CSo w (X+3) gv (List.zip (renC fs.length 1 f.code) (L.map (·.2))):=by
   refine⟨by rw[hz];exact hr,fun x hx=>?_⟩
   obtain⟨j,hj,rfl⟩:=List.mem_iff_getElem.1 hx
   have hj':j<f.code.length:=by omega
   have hjL:j<L.length:=by omega
   have e1:(List.zip (renC fs.length 1 f.code) (L.map (·.2)))[j]=((renC fs.length 1 f.code)[j]'(by rw[renC_len];exact hj'),L[j].2):=by simp
   have e2:(renC fs.length 1 f.code)[j]'(by rw[renC_len];exact hj')=renI fs.length (1+hcnt fs.length (f.code.take j)) f.code[j]:=by
    have:=renC_get fs.length f.code 1 j hj'
    exact(List.getElem?_eq_some_iff.1 this).2
   have e3:L[j].1=f.code[j]:=by
    have:(L.map (·.1))[j]?=f.code[j]?:=by rw[hL]
    rw[List.getElem?_map,List.getElem?_eq_getElem hjL,List.getElem?_eq_getElem hj'] at this
    simpa using this
   obtain⟨i1,i2⟩:=hI L[j] (List.getElem_mem hjL)
   rw[e1,e2]
   obtain⟨a1,a2⟩:=renI_args fs.length (1+hcnt fs.length (f.code.take j)) f.code[j]
   simp only[a1,a2]
   rw[← e3]
   exact⟨i1.stay e,i2.stay e⟩
  have:=hc.ca
  rw[List.map_fst_zip (by rw[renC_len,hp];omega)] at this
  exact this
 ·obtain⟨c,-,rfl⟩:=List.mem_map.1 hx
  refine⟨some ⟨S,0,none⟩,1,rfl,fun _=>⟨S,0,rfl,heap_lt hs,fun j hj=>?_⟩⟩
  have hj:j<1:=hj
  obtain rfl:j=0:=by omega
  refine⟨.slice none 0 0,.slice none 0 0,by rw[cell_of hs];rfl,by rw[cell_of hs];rfl,by rw[cell_of hs];rfl,by rw[cell_of hs];rfl,by rw[cell_of hs];rfl,by rw[cell_of hs];rfl,by rw[cell_of hs];rfl,⟨none,0,rfl,fun h=>absurd rfl h⟩,⟨none,0,rfl,fun h=>absurd rfl h⟩⟩
end
theorem alone_any (G:Int)(fv:Value)(fs:List PF)(i:Nat)(hi:i<fs.length)(w:World)(h1:FA w fv fs)(b1:FineP fs) :
 Calls Tryz.prog 122 #[.agg #[vI G,fv],vI (i:Int)] w fun e w'=>∃ v',e = .returned (.agg #[vI G,v'])∧FA w' v' (aloneP fs fs[i])∧Fr (fun _=>False) w w':=by
 have H1:Hd (FA w fv fs):=h1
 have HBP:Hd (FineP fs):=b1
 obtain⟨fa,fc,efv,hfs⟩:=h1
 obtain⟨fk,fo,efa,hfk,hfc⟩:=hfs (by intro e;rw[e] at hi;simp at hi)
 obtain⟨cv,f0,f1,f2,f3,hcv⟩:=hfc i hi
 subst efa efv
 have HCV:Hd (CA w cv fs[i].code):=hcv
 obtain⟨ca,cc,ecv,-⟩:=hcv
 subst ecv
 have hi0:(0:Int)≤i:=by omega
 have hi1:(i:Int)<fs.length:=by omega
 have HFC:Hd (FineC fs[i].code):=b1.2 fs[i] (List.getElem_mem hi)
 have hfl:fs.length≤2932031007317:=b1.1
 clear hfs hfc b1
 generalize fs[i]=f at *
 obtain⟨wa,hwa⟩:∃ wa,wa=((w.alloc (.cells #[vI G,.slice (some ⟨fk,fo,none⟩) fs.length fc] 24)).alloc (.cells #[vI 0,.slice none 0 0] 24)).alloc (.cells #[vI f.P,vI f.R,vI f.V,.slice ca f.code.length cc] 45):=⟨_,rfl⟩
 have HWA:Hd (wa=((w.alloc (.cells #[vI G,.slice (some ⟨fk,fo,none⟩) fs.length fc] 24)).alloc (.cells #[vI 0,.slice none 0 0] 24)).alloc (.cells #[vI f.P,vI f.R,vI f.V,.slice ca f.code.length cc] 45)):=hwa
 have ne1:fk≠w.heap.size:=by omega
 have ne2:fk≠w.heap.size+1:=by omega
 have hFa:Fr (fun _=>False) w wa:=by rw[hwa];exact Fr.alloc (Fr.alloc (Fr.alloc (Fr.refl _ w) _) _) _
 have k1:wa.heap[w.heap.size]?=some (.cells #[vI G,.slice (some ⟨fk,fo,none⟩) fs.length fc] 24):=by
  rw[hwa,Go.RowKit.Below.heap_alloc _ _ _ (by simp;omega),Go.RowKit.Below.heap_alloc _ _ _ (by simp)];exact heap_new w _
 have k2:wa.heap[w.heap.size+1]?=some (.cells #[vI 0,.slice none 0 0] 24):=by
  have:=heap_new (w.alloc (.cells #[vI G,.slice (some ⟨fk,fo,none⟩) fs.length fc] 24)) (.cells #[vI 0,.slice none 0 0] 24)
  rw[World.size_alloc] at this
  rw[hwa,Go.RowKit.Below.heap_alloc _ _ _ (by simp)];exact this
 have k3:wa.heap[w.heap.size+2]?=some (.cells #[vI f.P,vI f.R,vI f.V,.slice ca f.code.length cc] 45):=by
  have:=heap_new ((w.alloc (.cells #[vI G,.slice (some ⟨fk,fo,none⟩) fs.length fc] 24)).alloc (.cells #[vI 0,.slice none 0 0] 24)) (.cells #[vI f.P,vI f.R,vI f.V,.slice ca f.code.length cc] 45)
  rw[World.size_alloc,World.size_alloc] at this
  rw[hwa];exact this
 obtain⟨X,hX⟩:∃ X,X=w.heap.size:=⟨_,rfl⟩
 have HX:Hd (X=w.heap.size):=hX
 rw[← hX] at k1 k2 k3
 have HSZ:Hd (wa.heap.size=X+3):=by unfold Hd;rw[hwa,hX];simp
 have HFa:Hd (Fr (fun _=>False) w wa):=hFa
 have K1:Hd (wa.heap[X]?=some (.cells #[vI G,.slice (some ⟨fk,fo,none⟩) fs.length fc] 24)):=k1
 have K2:Hd (wa.heap[X+1]?=some (.cells #[vI 0,.slice none 0 0] 24)):=k2
 have K3:Hd (wa.heap[X+2]?=some (.cells #[vI f.P,vI f.R,vI f.V,.slice ca f.code.length cc] 45)):=k3
 have d3:wa.cell? ⟨X+2,3,none⟩=some (.slice ca f.code.length cc):=by rw[cell_of k3];rfl
 clear hwa hFa k1 k2 k3 hX
 go_enter Tryz.func122,Tryz.ntmps122
 go_upto_region 2 with fail
 rw[← HWA.out,← HX.out]
 clear HWA f0 f1 f2 f3 ne1 ne2
 go_wp2_with fail
 refine(show Calls Tryz.prog 148 #[.slice ca f.code.length cc] wa _ from clone_any _ f.code w wa HCV.out HFa.out HFC.out).mono ?_
 rintro e w1 ⟨gv,L,rfl,hrow,hL,hI,hF1⟩
 have keep1:∀ (k:Nat) (o:Obj),wa.heap[k]?=some o→w1.heap[k]?=some o:=fun k o hk=>(hF1.block k (heap_lt hk) (fun e=>e)).trans hk
 rw[HSZ.out] at hrow
 have hgb:∀ j,gv.ownBlock=some j→X+3≤j∧j<w1.heap.size:=World.ownsRow.lt hrow
 obtain⟨ga,gc,rfl⟩:∃ ga gc,gv = .slice ga f.code.length gc:=by
  rcases hrow.2 with⟨e1,e2⟩|⟨g',cap',cur,e1,-⟩
  ·exact⟨none,0,by rw[e1,e2]⟩
  ·exact⟨_,_,e1⟩
 have k3:=keep1 _ _ K3.out
 have e3:w1.cell? ⟨X+2,3,none⟩=some (.slice ca f.code.length cc):=by rw[cell_of k3];rfl
 have z3:=frozen_of k3 3
 have fs3:=setCell_fr w1 (X+2) 3 (.slice ga f.code.length gc)
 have up:∀ (k:Nat) (o:Obj),k≠X+2→w1.heap[k]?=some o→(w1.setCell ⟨X+2,3,none⟩ (.slice ga f.code.length gc)).heap[k]?=some o:=fun k o hk ho=>(fs3.block k (heap_lt ho) hk).trans ho
 have L1:Hd ((w1.setCell ⟨X+2,3,none⟩ (.slice ga f.code.length gc)).heap[X]?=some (.cells #[vI G,.slice (some ⟨fk,fo,none⟩) fs.length fc] 24)):=up _ _ (by omega) (keep1 _ _ K1.out)
 have L2:Hd ((w1.setCell ⟨X+2,3,none⟩ (.slice ga f.code.length gc)).heap[X+1]?=some (.cells #[vI 0,.slice none 0 0] 24)):=up _ _ (by omega) (keep1 _ _ K2.out)
 have L3:Hd ((w1.setCell ⟨X+2,3,none⟩ (.slice ga f.code.length gc)).heap[X+2]?=some (.cells #[vI f.P,vI f.R,vI f.V,.slice ga f.code.length gc] 45)):=set_of k3 3 _
 have HR2:Hd ((w1.setCell ⟨X+2,3,none⟩ (.slice ga f.code.length gc)).ownsRow (X+3) 79 7 (.slice ga f.code.length gc) f.code.length (L.flatMap rowI)):=ownsRow_frL hrow fs3 (fun k e e2=>by have:=(hgb k e).1;omega)
 have HF2:Hd (Fr (fun _=>False) w (w1.setCell ⟨X+2,3,none⟩ (.slice ga f.code.length gc))):=(HFa.out.trans hF1).then fs3 (fun j hj e=>by have:=HX.out;omega)
 have HGB:Hd (∀ j,(Value.slice ga f.code.length gc).ownBlock=some j→X+3≤j∧j<(w1.setCell ⟨X+2,3,none⟩ (.slice ga f.code.length gc)).heap.size):=fun j hj=>⟨(hgb j hj).1,Nat.lt_of_lt_of_le (hgb j hj).2 fs3.size⟩
 have HS2:Hd (X+3≤(w1.setCell ⟨X+2,3,none⟩ (.slice ga f.code.length gc)).heap.size):=Nat.le_trans (by have:=HSZ.out;omega) (Nat.le_trans hF1.size fs3.size)
 have HL:Hd (L.map (·.1)=f.code∧L=List.zip f.code (L.map (·.2))∧(L.map (·.2)).length=f.code.length):=by
  refine⟨hL,?_,by rw[← hL];simp⟩
  rw[← hL,List.zip_map']
  simp
 have HI:Hd (∀ x∈L,IA w x.2.1 x.1.args∧IA w x.2.2 x.1.rets):=hI
 clear hrow hF1 keep1 k3 fs3 up K1 K2 K3 HFa HSZ d3 hgb hL hI
 go_upto_region 3 with fail
 clear e3 z3
 generalize w1.setCell ⟨X+2,3,none⟩ (.slice ga f.code.length gc)=w2 at *
 have e0:w2.cell? ⟨X+2,0,none⟩=some (vI f.P):=by rw[cell_of L3.out];rfl
 have e1:w2.cell? ⟨X+2,1,none⟩=some (vI f.R):=by rw[cell_of L3.out];rfl
 have e2:w2.cell? ⟨X+2,2,none⟩=some (vI f.V):=by rw[cell_of L3.out];rfl
 have e3:w2.cell? ⟨X+2,3,none⟩=some (.slice ga f.code.length gc):=by rw[cell_of L3.out];rfl
 obtain⟨w3,hw3⟩:∃ w3,w3=(w2.alloc (.cells #[vI f.P,vI f.R,vI f.V,.slice ga f.code.length gc] 45)).alloc jmpO:=⟨_,rfl⟩
 have HW3:Hd (w3=(w2.alloc (.cells #[vI f.P,vI f.R,vI f.V,.slice ga f.code.length gc] 45)).alloc jmpO):=hw3
 have hF3:Fr (fun _=>False) w2 w3:=by rw[hw3];exact Fr.alloc (Fr.alloc (Fr.refl _ w2) _) _
 have hG:w3.heap[w2.heap.size]?=some (.cells #[vI f.P,vI f.R,vI f.V,.slice ga f.code.length gc] 45):=by
  rw[hw3,Go.RowKit.Below.heap_alloc _ _ _ (by simp)];exact heap_new w2 _
 have hS:w3.heap[w2.heap.size+1]?=some jmpO:=by
  have:=heap_new (w2.alloc (.cells #[vI f.P,vI f.R,vI f.V,.slice ga f.code.length gc] 45)) jmpO
  rw[World.size_alloc] at this
  rw[hw3];exact this
 obtain⟨Y,hY⟩:∃ Y,Y=w2.heap.size:=⟨_,rfl⟩
 have HY:Hd (Y=w2.heap.size):=hY
 rw[← hY] at hG hS
 have keep3:∀ (k:Nat) (o:Obj),w2.heap[k]?=some o→w3.heap[k]?=some o:=fun k o hk=>(hF3.block k (heap_lt hk) (fun e=>e)).trans hk
 have HAL:Hd (Al fs f G (.slice (some ⟨fk,fo,none⟩) fs.length fc) X (.slice ga f.code.length gc) (Y+1) (L.map (·.2)) 0 0 (.slice (some ⟨Y,0,none⟩) 1 1) w3):=by
  refine⟨keep3 _ _ L1.out,keep3 _ _ L2.out,keep3 _ _ L3.out,hS,?_,?_,fun j hj e=>by have:=(HGB.out j hj).2;omega⟩
  ·rw[midC_zero,← HL.out.2.1]
   exact ownsRow_frL HR2.out hF3 (fun _ _ e=>e)
  ·exact⟨rfl,Or.inr ⟨Y,1,#[vI f.P,vI f.R,vI f.V,.slice ga f.code.length gc],rfl,by have:=HS2.out;omega,hG,Nat.le_refl _,by unfold maxLen;omega,rfl,rfl⟩⟩
 have MF:Hd (Fr (fun _=>False) w w3):=HF2.out.trans hF3
 have f3:w3.cell? ⟨X+2,3,none⟩=some (.slice ga f.code.length gc):=by rw[cell_of HAL.out.o];rfl
 clear hw3 hF3 hG hS hY keep3 L1 L2 L3 HR2 HF2 HGB HS2
 go_upto_region 5 with fail
 rw[← HW3.out,← HY.out]
 clear HW3 HY e0 e1 e2 e3
 go_wp2_with fail
 clear f3
 have hcl:f.code.length≤1599289640354:=HFC.out.1
 go_loopw [6,27] (fun v6 v wr=>∃ (k:Nat),v = .int .i64 k∧k≤f.code.length∧Hd (Al fs f G (.slice (some ⟨fk,fo,none⟩) fs.length fc) X (.slice ga f.code.length gc) (Y+1) (L.map (·.2)) k k v6 wr)∧Hd (Fr (fun _=>False) w wr)) (fun _ v _=>match v with | .int _ q=>f.code.length-q.toNat | _=>0)
 case atStart=>exact⟨0,rfl,by omega,HAL.out,MF.out⟩
 case round =>
  clear HAL MF
  obtain⟨k,rfl,hk,HA,HF⟩:=hrel
  have HPL:Hd ((L.map (·.2)).length=f.code.length):=HL.out.2.2
  by_cases hlt:k<f.code.length
  ·obtain⟨g,rfl⟩:∃ g,ga=some ⟨g,0,none⟩:=by
    rcases HA.out.row.2 with⟨e1,e2⟩|⟨g',cap',cur,e1,-⟩
    ·omega
    ·cases e1;exact⟨_,rfl⟩
   have hg:=midC_get (n:=fs.length) HPL.out hlt
   have hLk:k<L.length:=by have:=congrArg List.length HL.out.1;simp at this;omega
   have hkk:=HL.out.2.1
   obtain⟨av,rv,hps,hia,hir⟩:∃ av rv,(L.map (·.2))[k]'(by have:=HPL.out;omega)=(av,rv)∧IA w av f.code[k].args∧IA w rv f.code[k].rets:=by
    have h1:L[k].1=f.code[k]:=by
     have:=HL.out.1
     have e:(L.map (·.1))[k]?=f.code[k]?:=by rw[this]
     rw[List.getElem?_map,List.getElem?_eq_getElem hLk,List.getElem?_eq_getElem hlt] at e
     simpa using e
    obtain⟨i1,i2⟩:=HI.out L[k] (List.getElem_mem hLk)
    rw[h1] at i1 i2
    exact⟨L[k].2.1,L[k].2.2,by simp,i1,i2⟩
   rw[hps] at hg
   obtain⟨aa,ac,rfl,-⟩:=hia
   obtain⟨ra,rc,rfl,-⟩:=hir
   have hml:=midC_len (n:=fs.length) (k:=k) HPL.out (by omega)
   have hgk:=(List.getElem?_eq_some_iff.1 hg).2
   have pc:∀ o u,o<7→(rowI (f.code[k],(.slice aa f.code[k].args.length ac,.slice ra f.code[k].rets.length rc)))[o]?=some u→wr.cell? ⟨g,k*7+o,none⟩=some u:=fun o u ho hu=>by
    obtain⟨g',cap',e',-,hc⟩:=own_cell HA.out.row (j:=k*7+o) (u:=u) (by rw[flat_get rowI 7 (fun _=>rfl) _ k o (by omega) ho,hgk];exact hu)
    cases e'
    exact hc
   have c0:=pc 0 _ (by omega) rfl
   have c1:=pc 1 _ (by omega) rfl
   have c2:=pc 2 _ (by omega) rfl
   have c3:=pc 3 _ (by omega) rfl
   have c4:=pc 4 _ (by omega) rfl
   have c5:=pc 5 _ (by omega) rfl
   have c6:=pc 6 _ (by omega) rfl
   obtain⟨x,ex⟩:∃ x,x=f.code[k]:=⟨_,rfl⟩
   have EX:Hd (x=f.code[k]):=ex
   rw[← ex] at c0 c1 c2 c3 c4 c5 c6
   simp only[Nat.add_zero] at c0
   clear pc hg hgk hps hml hkk ex hLk
   obtain⟨V,hV⟩:∃ V,V=wr.alloc (.cells #[vI x.op,vI x.r,vI x.s,vI x.t,vI x.n,.slice aa x.args.length ac,.slice ra x.rets.length rc] 79):=⟨_,rfl⟩
   have HV:Hd (V=wr.alloc (.cells #[vI x.op,vI x.r,vI x.s,vI x.t,vI x.n,.slice aa x.args.length ac,.slice ra x.rets.length rc] 79)):=hV
   have hFV:Fr (fun _=>False) wr V:=by rw[hV];exact Fr.alloc (Fr.refl _ wr) _
   have v1:V.heap[wr.heap.size]?=some (.cells #[vI x.op,vI x.r,vI x.s,vI x.t,vI x.n,.slice aa x.args.length ac,.slice ra x.rets.length rc] 79):=by rw[hV];exact heap_new wr _
   obtain⟨Z,hZ⟩:∃ Z,Z=wr.heap.size:=⟨_,rfl⟩
   have HZ:Hd (Z=wr.heap.size):=hZ
   rw[← hZ] at v1
   have HV1:Hd (V.heap[Z]?=some (.cells #[vI x.op,vI x.r,vI x.s,vI x.t,vI x.n,.slice aa x.args.length ac,.slice ra x.rets.length rc] 79)):=v1
   have HAV:Hd (Al fs f G (.slice (some ⟨fk,fo,none⟩) fs.length fc) X (.slice (some ⟨g,0,none⟩) f.code.length gc) (Y+1) (L.map (·.2)) k k u6 V):=HA.out.fr hFV
   have HFV:Hd (Fr (fun _=>False) w V):=HF.out.trans hFV
   have hgl:g<wr.heap.size:=(World.ownsRow.lt HA.out.row g rfl).2
   have HNE:Hd (g<Z):=by unfold Hd;omega
   have y0:V.cell? ⟨Z,0,none⟩=some (vI x.op):=by rw[cell_of v1];rfl
   have y4:V.cell? ⟨Z,4,none⟩=some (vI x.n):=by rw[cell_of v1];rfl
   have r4:V.cell? ⟨g,k*7+4,none⟩=some (vI x.n):=(hFV.cell hgl (fun h=>h)).trans c4
   have rz:V.frozen? ⟨g,k*7+4,none⟩=false:=(row_set HAV.out.row (vI 0)).2
   have o3:V.cell? ⟨X+2,3,none⟩=some (.slice (some ⟨g,0,none⟩) f.code.length gc):=by rw[cell_of HAV.out.o];rfl
   have p1:V.cell? ⟨X,1,none⟩=some (.slice (some ⟨fk,fo,none⟩) fs.length fc):=by rw[cell_of HAV.out.p];rfl
   have hk0:(0:Int)≤k:=by omega
   have hk1:(k:Int)<f.code.length:=by omega
   clear hV hFV v1 hZ hgl HA HF
   go_upto_region 8 with fail
   rw[← HV.out,← HZ.out]
   clear HV HZ c0 c1 c2 c3 c4 c5 c6
   by_cases h11:x.op=11
   ·have e1:(x.op != 11)=false:=by simp[h11]
    have e2:(x.op==11)=true:=by simp[h11]
    by_cases hr:0≤x.n∧x.n<fs.length
    ·obtain⟨q,hq⟩:∃ q:Nat,x.n=q:=⟨x.n.toNat,by omega⟩
     have hqf:q<fs.length:=by omega
     have d1:decide (x.n<0)=false:=by simp;omega
     have d2:decide (x.n≥(fs.length:Int))=false:=by simp;omega
     have d3:decide ((fs.length:Int)≤x.n)=false:=by simp;omega
     obtain⟨n6,hn6⟩:∃ n6,n6=(midF fs f (.slice (some ⟨g,0,none⟩) f.code.length gc) (Y+1) f.code k).length:=⟨_,rfl⟩
     have hn6':=midF_len fs f (.slice (some ⟨g,0,none⟩) f.code.length gc) (Y+1) f.code k
     obtain⟨j6,c6,rfl⟩:∃ j6 c6,u6 = .slice (some ⟨j6,0,none⟩) n6 c6:=by
      rcases HAV.out.fns.2 with⟨e1,e2⟩|⟨g',cap',cur,e1,-⟩
      ·omega
      ·exact⟨_,_,by rw[e1,hn6]⟩
     have hren:renI fs.length (1+hcnt fs.length (f.code.take k)) f.code[k]={ f.code[k] with n:=(n6:Int) }:=by
      unfold renI
      rw[← EX.out,if_pos h11,if_pos hr,hn6,hn6']
     have HA1:=Hd.out (HAV.out.num HPL.out hlt hren)
     have HA1:Hd (Al fs f G (.slice (some ⟨fk,fo,none⟩) fs.length fc) X (.slice (some ⟨g,0,none⟩) f.code.length gc) (Y+1) (L.map (·.2)) (k+1) k (.slice (some ⟨j6,0,none⟩) n6 c6) (V.setCell ⟨g,k*7+4,none⟩ (vI (n6:Int)))):=HA1
     have hgX:X+3≤g:=(World.ownsRow.lt HAV.out.row g rfl).1
     have hFs:=setCell_fr V g (k*7+4) (vI (n6:Int))
     have HF1:Hd (Fr (fun _=>False) w (V.setCell ⟨g,k*7+4,none⟩ (vI (n6:Int)))):=HFV.out.then hFs (fun j hj e=>by have:=HX.out;omega)
     have s4:(V.setCell ⟨g,k*7+4,none⟩ (vI (n6:Int))).cell? ⟨Z,4,none⟩=some (vI x.n):=(hFs.cell (heap_lt HV1.out) (fun e=>by have:=HNE.out;omega)).trans y4
     have s1:(V.setCell ⟨g,k*7+4,none⟩ (vI (n6:Int))).cell? ⟨X,1,none⟩=some (.slice (some ⟨fk,fo,none⟩) fs.length fc):=by rw[cell_of HA1.out.p];rfl
     obtain⟨a',c',e',hff⟩:=H1.out.stay HF1.out
     cases e'
     obtain⟨fk',fo',e',hfk',hff⟩:=hff (by intro e;rw[e] at hqf;simp at hqf)
     cases e'
     obtain⟨cv,g0,g1,g2,g3,hcv⟩:=hff q hqf
     obtain⟨na,nc,rfl,-⟩:=hcv
     have HDF:Hd (headF fs x={ fs[q] with code:=[jmp] }):=by unfold Hd headF;rw[hq];simp[hqf]
     have HIH:Hd (isH fs.length f.code[k]=true):=by unfold Hd isH;rw[← EX.out];simp[h11,hr.1,hr.2]
     have HN6:Hd (n6=(midF fs f (.slice (some ⟨g,0,none⟩) f.code.length gc) (Y+1) f.code k).length):=hn6
     have d4:decide (fs.length≤q)=false:=by simp;omega
     have hn6b:n6≤1599289640355:=by have:=hcnt_le fs.length (f.code.take k);simp at this;omega
     rw[hq] at d1 d2 d3 y4 r4 s4
     have hq0:(0:Int)≤q:=by omega
     have hq1:(q:Int)<fs.length:=by omega
     have hnw:IntKind.i64.wrap (n6:Int)=n6:=wrap_small _ (by omega) (by omega)
     clear hff hren hFs HAV hgX hn6' hn6
     generalize fs[q]=fq at *
     go_upto_region 12 with fail
     clear y0 y4 r4 rz o3 p1 d1 d2 d3 d4 e1 e2 HV1
     generalize V.setCell ⟨g,k*7+4,none⟩ (vI (n6:Int))=V1 at *
     obtain⟨i4,hi4,hz4,hs4,hb4⟩:=info_parts (P:=Tryz.prog) (e:=45) (z:=.agg #[vI 0,vI 0,vI 0,.slice none 0 0]) (size:=4) (bytes:=48) (by kernel_rfl)
     go_upto_region 14 with fail
     obtain⟨wb,hwb⟩:∃ wb,wb=V1.alloc (.cells #[vI fq.P,vI fq.R,vI fq.V,stl (Y+1)] 45):=⟨_,rfl⟩
     have hFb:Fr (fun _=>False) V1 wb:=by rw[hwb];exact Fr.alloc (Fr.refl _ V1) _
     have hFc:Fr (fun _=>False) V1 (wb.alloc (.cells #[vI fq.P,vI fq.R,vI fq.V,stl (Y+1)] 45)):=Fr.alloc hFb _
     have hb1:wb.heap[V1.heap.size]?=some (.cells #[vI fq.P,vI fq.R,vI fq.V,stl (Y+1)] 45):=by rw[hwb];exact heap_new V1 _
     have HA2:Hd (Al fs f G (.slice (some ⟨fk,fo,none⟩) fs.length fc) X (.slice (some ⟨g,0,none⟩) f.code.length gc) (Y+1) (L.map (·.2)) (k+1) k (.slice (some ⟨j6,0,none⟩) n6 c6) (wb.alloc (.cells #[vI fq.P,vI fq.R,vI fq.V,stl (Y+1)] 45))):=HA1.out.fr hFc
     have HF2:Hd (Fr (fun _=>False) w (wb.alloc (.cells #[vI fq.P,vI fq.R,vI fq.V,stl (Y+1)] 45))):=HF1.out.trans hFc
     have HRW:Hd ((wb.alloc (.cells #[vI fq.P,vI fq.R,vI fq.V,stl (Y+1)] 45)).ownsRow (X+3) 45 4 (.slice (some ⟨j6,0,none⟩) n6 c6) n6 ((midF fs f (.slice (some ⟨g,0,none⟩) f.code.length gc) (Y+1) f.code k).flatMap rowP)):=by
      have:=HA2.out.fns
      rw[← HN6.out] at this
      exact this
     have hnews:∀ j u,[vI fq.P,vI fq.R,vI fq.V,stl (Y+1)][j]?=some u→(wb.alloc (.cells #[vI fq.P,vI fq.R,vI fq.V,stl (Y+1)] 45)).cell? ((⟨wb.heap.size,0,none⟩:Addr).add j)=some u :=
      World.news_of_block (cs:=#[vI fq.P,vI fq.R,vI fq.V,stl (Y+1)]) (heap_new wb _)
     have hbase:X+3≤(wb.alloc (.cells #[vI fq.P,vI fq.R,vI fq.V,stl (Y+1)] 45)).heap.size:=Nat.le_of_lt (Nat.lt_of_le_of_lt (World.ownsRow.lt HRW.out j6 rfl).1 (World.ownsRow.lt HRW.out j6 rfl).2)
     have t0:wb.cell? ⟨V1.heap.size,0,none⟩=some (vI fq.P):=by rw[cell_of hb1];rfl
     have t1:wb.cell? ⟨V1.heap.size,1,none⟩=some (vI fq.R):=by rw[cell_of hb1];rfl
     have t2:wb.cell? ⟨V1.heap.size,2,none⟩=some (vI fq.V):=by rw[cell_of hb1];rfl
     have t3:wb.cell? ⟨V1.heap.size,3,none⟩=some (stl (Y+1)):=by rw[cell_of hb1];rfl
     rw[← hwb]
     clear hwb hFb hFc hb1 HA1 HF1 g0 g1 g2 g3 s1 s4 hfk'
     go_wp2_with ((at_builtin;refine Hd.out ?_))
     unfold Hd
     refine wpList_append_lies _ rfl (.tmp 66) (.tmp 68) 22 rfl (X+3) 45 i4 (.agg #[vI 0,vI 0,vI 0,.slice none 0 0]) 4 48 under24 hi4 hz4 hs4 hb4 rfl (by omega) (.slice (some ⟨j6,0,none⟩) n6 c6) n6 _ rfl HRW.out ⟨wb.heap.size,0,none⟩ 1 1 [vI fq.P,vI fq.R,vI fq.V,stl (Y+1)] rfl rfl hnews (by intro u hu;simp at hu;rcases hu with rfl | rfl | rfl | rfl<;>rfl) (by omega) (by unfold maxLen;omega) (by omega) hbase (wb.heap.size+1) (by simp) ?_
     intro g7 cap7 w7 hown7 hgrow7 hat7 hlt7
     have HA7:Hd (Al fs f G (.slice (some ⟨fk,fo,none⟩) fs.length fc) X (.slice (some ⟨g,0,none⟩) f.code.length gc) (Y+1) (L.map (·.2)) (k+1) (k+1) (.slice (some ⟨g7,0,none⟩) (n6+1) cap7) w7):=by
      refine HA2.out.app hlt HIH.out ?_ hgrow7
      rw[← HN6.out,← EX.out,HDF.out]
      exact hown7
     have HF7:Hd (Fr (fun _=>False) w w7):=grow_fr0 HF2.out hgrow7 (fun j hj=>by have:=(World.ownsRow.lt HRW.out j hj).1;have:=HX.out;omega)
     clear hown7 hgrow7 hat7 hlt7 hnews hbase t0 t1 t2 t3 HRW HA2 HF2
     go_wp2_with fail
     exact⟨⟨k+1,by simp,by omega,HA7,HF7⟩,by simp;omega⟩
    ·have hren:renI fs.length (1+hcnt fs.length (f.code.take k)) f.code[k]={ f.code[k] with n:=-1 }:=by
      unfold renI
      rw[← EX.out,if_pos h11,if_neg hr]
     have HIH:Hd (isH fs.length f.code[k]=false):=by unfold Hd isH;rw[← EX.out];simp[h11];intro h0;simp[h0] at hr;omega
     have HA1:Hd (Al fs f G (.slice (some ⟨fk,fo,none⟩) fs.length fc) X (.slice (some ⟨g,0,none⟩) f.code.length gc) (Y+1) (L.map (·.2)) (k+1) (k+1) u6 (V.setCell ⟨g,k*7+4,none⟩ (vI (-1)))):=(HAV.out.num HPL.out hlt hren).skip hlt HIH.out
     have hgX:X+3≤g:=(World.ownsRow.lt HAV.out.row g rfl).1
     have HF1:Hd (Fr (fun _=>False) w (V.setCell ⟨g,k*7+4,none⟩ (vI (-1)))):=HFV.out.then (setCell_fr V g (k*7+4) (vI (-1))) (fun j hj e=>by have:=HX.out;omega)
     clear hren HAV hgX
     by_cases hneg:x.n<0
     ·have d1:decide (x.n<0)=true:=by simp;omega
      clear hr
      go_wp2_with fail
      exact⟨⟨k+1,by simp,by omega,HA1,HF1⟩,by simp;omega⟩
     ·have d1:decide (x.n<0)=false:=by simp;omega
      have d2:decide (x.n≥(fs.length:Int))=true:=by simp;omega
      have d3:decide ((fs.length:Int)≤x.n)=true:=by simp;omega
      clear hr
      go_wp2_with fail
      exact⟨⟨k+1,by simp,by omega,HA1,HF1⟩,by simp;omega⟩
   ·have e1:(x.op != 11)=true:=by simp[h11]
    have e2:(x.op==11)=false:=by simp[h11]
    have HN:Hd (Al fs f G (.slice (some ⟨fk,fo,none⟩) fs.length fc) X (.slice (some ⟨g,0,none⟩) f.code.length gc) (Y+1) (L.map (·.2)) (k+1) (k+1) u6 V):=HAV.out.same HPL.out hlt (by rw[← EX.out];exact h11)
    clear HAV
    go_wp2_with fail
    exact⟨⟨k+1,by simp,by omega,HN,HFV⟩,by simp;omega⟩
  ·have hke:k=f.code.length:=by omega
   have HA':Hd (Al fs f G (.slice (some ⟨fk,fo,none⟩) fs.length fc) X (.slice ga f.code.length gc) (Y+1) (L.map (·.2)) f.code.length f.code.length u6 wr):=by
    have h:=HA
    rw[hke] at h
    exact h
   have hd:decide ((k:Int)<f.code.length)=false:=by simp;omega
   obtain⟨va,vn,vc,rfl⟩:∃ va vn vc,u6 = .slice va vn vc:=by
    rcases HA'.out.fns.2 with⟨e1,e2⟩|⟨g',cap',cur,e1,-⟩
    ·exact⟨_,_,_,e1⟩
    ·exact⟨_,_,_,e1⟩
   have x0:wr.cell? ⟨X,0,none⟩=some (vI G):=by rw[cell_of HA'.out.p];rfl
   have y0:wr.cell? ⟨X+1,0,none⟩=some (vI 0):=by rw[cell_of HA'.out.q];rfl
   have y1:wr.cell? ⟨X+1,1,none⟩=some (.slice none 0 0):=by rw[cell_of HA'.out.q];rfl
   have z0:=frozen_of HA'.out.q 0
   have z1:=frozen_of HA'.out.q 1
   have fz:Fr (fun j=>j=X+1) wr ((wr.setCell ⟨X+1,0,none⟩ (vI G)).setCell ⟨X+1,1,none⟩ (.slice va vn vc)):=(setCell_fr wr (X+1) 0 _).trans (setCell_fr _ (X+1) 1 _)
   have HZ:Hd (((wr.setCell ⟨X+1,0,none⟩ (vI G)).setCell ⟨X+1,1,none⟩ (.slice va vn vc)).heap[X+1]?=some (.cells #[vI G,.slice va vn vc] 24)):=set_of (set_of HA'.out.q 0 _) 1 _
   have HFz:Hd (Fr (fun _=>False) w ((wr.setCell ⟨X+1,0,none⟩ (vI G)).setCell ⟨X+1,1,none⟩ (.slice va vn vc))):=HF.out.then fz (fun j hj e=>by have:=HX.out;omega)
   have HFA:Hd (FA ((wr.setCell ⟨X+1,0,none⟩ (vI G)).setCell ⟨X+1,1,none⟩ (.slice va vn vc)) (.slice va vn vc) (aloneP fs f)):=HA'.out.fa fz HFz.out HL.out.1 HI.out
   clear fz hke
   go_wp2_with fail
   generalize (wr.setCell ⟨X+1,0,none⟩ (vI G)).setCell ⟨X+1,1,none⟩ (.slice va vn vc)=wz at *
   have r0:wz.cell? ⟨X+1,0,none⟩=some (vI G):=by rw[cell_of HZ.out];rfl
   have r1:wz.cell? ⟨X+1,1,none⟩=some (.slice va vn vc):=by rw[cell_of HZ.out];rfl
   refine bodyPost_ret (v:=.agg #[vI G,.slice va vn vc]) ?_ rfl ⟨_,rfl,HFA.out,HFz.out⟩
   rw[results_cell (p:=4) (ty:=24) Tryz.results122]
   simp[go_sem,r0,r1]
set_option maxRecDepth 100000
set_option maxHeartbeats 1000000
theorem renC_mem (n:Nat):∀ (k:Nat) (cs:List PI) (c:PI),c∈renC n k cs→∃ d∈cs,∃ m,c=renI n m d
 | _,[],c,h=>by cases h
 | k,d::r,c,h=>by
   rcases List.mem_cons.1 h with rfl | h
   ·exact⟨d,List.mem_cons_self,k,rfl⟩
   ·obtain⟨d',h1,m,h2⟩:=renC_mem n _ r c h
    exact⟨d',List.mem_cons_of_mem _ h1,m,h2⟩
theorem fine_alone {fs:List PF}{f:PF}(h:FineC f.code):FineP (aloneP fs f):=by
 refine⟨?_,fun g hg=>?_⟩
 ·unfold aloneP headsF
  simp only[List.length_cons,List.length_map]
  have:=hcnt_le fs.length f.code
  unfold hcnt at this
  have:=h.1
  omega
 ·rcases List.mem_cons.1 hg with rfl | hg
  ·refine⟨by simp only[renC_len];exact h.1,fun c hc=>?_⟩
   obtain⟨d,hd,m,rfl⟩:=renC_mem fs.length 1 f.code c hc
   obtain⟨a1,a2⟩:=renI_args fs.length m d
   rw[a1,a2]
   exact h.2 d hd
  ·obtain⟨c,-,rfl⟩:=List.mem_map.1 hg
   refine⟨by simp[headF],fun c' hc'=>?_⟩
   simp[headF] at hc'
   subst hc'
   simp[jmp]
theorem right_any (G:Int)(fv:Value)(fs:List PF)(i:Nat)(hi:i<fs.length)(w:World)(h1:FA w fv fs)(b1:FineP fs)(hT:Tab w) :
 Calls Tryz.prog 85 #[.agg #[vI G,fv],vI (i:Int)] w fun e w'=>e = .returned (.bool (decide (checkP G (aloneP fs fs[i])=0)))∧Fr (fun _=>False) w w':=by
 have hFa:Fr (fun _=>False) w (w.alloc (.cells #[vI G,fv] 24)):=Fr.alloc (Fr.refl _ w) _
 have HFa:Hd (Fr (fun _=>False) w (w.alloc (.cells #[vI G,fv] 24))):=hFa
 have H1:Hd (FA (w.alloc (.cells #[vI G,fv] 24)) fv fs):=h1.stay hFa
 have HT:Hd (Tab w):=hT
 have HB:Hd (FineP fs):=b1
 obtain⟨fa,fc,efv,-⟩:=h1
 subst efv
 clear hFa hT b1
 go_enter Tryz.func85,Tryz.ntmps85
 go_wp2_with fail
 refine(show Calls Tryz.prog 122 #[.agg #[vI G,.slice fa fs.length fc],vI (i:Int)] (w.alloc (.cells #[vI G,.slice fa fs.length fc] 24)) _ from alone_any G _ fs i hi _ H1.out HB.out).mono ?_
 rintro e w1 ⟨v',rfl,hfa,hF1⟩
 have HF1:Hd (Fr (fun _=>False) w w1):=HFa.out.trans hF1
 have HA:Hd (FA w1 v' (aloneP fs fs[i])):=hfa
 have HT1:Hd (Tab w1):=HT.out.stay HF1.out
 have hfine:FineP (aloneP fs fs[i]):=fine_alone (HB.out.2 fs[i] (List.getElem_mem hi))
 obtain⟨va,vc,ev,-⟩:=hfa
 subst ev
 have hck:=check_prog w1 G (aloneP fs fs[i]) _ (HA.out.fl hfine (by omega)) HT1.out (by have:=HT1.out.lt;omega)
 clear hF1
 obtain⟨ck,hgen⟩:∃ ck,checkP G (aloneP fs fs[i])=ck:=⟨_,rfl⟩
 rw[hgen] at hck
 have HGE:Hd (checkP G (aloneP fs fs[i])=ck):=hgen
 clear hgen
 go_wp2_with fail
 refine hck.mono ?_
 rintro e w2 ⟨rfl,hF2⟩
 have HF2:Hd (Fr (fun _=>False) w w2):=HF1.out.trans hF2
 have hb:(ck==0)=decide (ck=0):=by by_cases h:ck=0<;>simp[h]
 clear hF2 hck
 go_wp2_with fail
 go_ret
 exact⟨by rw[HGE.out,← hb];rfl,HF2.out⟩
structure FunR (fs:List PF)(f:PF):Prop where
 V:0≤f.V∧f.V≤255
 P:0≤f.P∧f.P≤8
 R:0≤f.R∧f.R≤4
 len:1≤f.code.length∧f.code.length≤4096
 op:∀ c∈f.code,1≤c.op∧c.op≤17
 r:∀ c∈f.code,c.op=2∨c.op=5∨c.op=6∨c.op=7∨c.op=8→0≤c.r∧c.r<f.V
 s:∀ c∈f.code,c.op=2∨c.op=5∨c.op=7∨c.op=8∨c.op=10→0≤c.s∧c.s<f.V
 ret:∀ c∈f.code,c.op=15→(c.args.length:Int)=f.R∧∀ v∈c.args,0≤v∧v<f.V
 call:∀ c∈f.code,c.op=11→∃ q:Nat,c.n=q∧∃ h:q<fs.length,(0≤fs[q].P∧fs[q].P≤8)∧(0≤fs[q].R∧fs[q].R≤4)∧c.args.length=fs[q].P.toNat∧c.rets.length=fs[q].R.toNat∧(∀ v∈c.args,0≤v∧v<f.V)∧∀ v∈c.rets,0≤v∧v<f.V
theorem inV {V v:Int}(hV:0≤V∧V≤255)(h:InV V v):0≤v∧v<V:=by
 obtain⟨h1,h2⟩:=h
 rw[wrap_small _ (by omega) (by omega)] at h2
 omega
theorem heads_at (n:Nat)(p:PI→Bool):∀ (cs:List PI) (j:Nat) (h:j<cs.length),p cs[j]=true→(cs.filter p)[((cs.take j).filter p).length]?=some cs[j]
 | c::r,0,_,hp=>by
   have hp:p c=true:=hp
   simp[hp]
 | c::r,j+1,h,hp=>by
   have h':j<r.length:=by simpa using h
   have:=heads_at n p r j h' (by simpa using hp)
   simp only[List.take_succ_cons,List.getElem_cons_succ]
   rw[List.filter_cons,List.filter_cons]
   split
   ·rw[List.length_cons,List.getElem?_cons_succ]
    exact this
   ·exact this
theorem renI_op (n k:Nat)(c:PI):(renI n k c).op=c.op∧(renI n k c).r=c.r∧(renI n k c).s=c.s:=by
 unfold renI
 split
 ·split<;>exact⟨rfl,rfl,rfl⟩
 ·exact⟨rfl,rfl,rfl⟩
theorem right_ok {G:Int}{fs:List PF}{f:PF}(h:checkP G (aloneP fs f)=0):FunR fs f:=by
 obtain⟨⟨hV,hP,hR,hlen,hcode⟩,hl,hhd⟩:=check_ok (r:=headsF fs f.code) h
 simp only at hV hP hR
 simp only[renC_len] at hlen
 have key:∀ j (hj:j<f.code.length),InsK (headsOfP (aloneP fs f)) f.R.toNat f.V f.code[j].op f.code[j].r f.code[j].s (renI fs.length (1+hcnt fs.length (f.code.take j)) f.code[j]).n f.code[j].args f.code[j].rets:=fun j hj=>by
  have hg:=renC_get fs.length f.code 1 j hj
  have hm:=hcode _ (List.mem_of_getElem? hg)
  obtain⟨a1,a2⟩:=renI_args fs.length (1+hcnt fs.length (f.code.take j)) f.code[j]
  obtain⟨b1,b2,b3⟩:=renI_op fs.length (1+hcnt fs.length (f.code.take j)) f.code[j]
  rw[a1,a2,b1,b2,b3] at hm
  exact hm
 refine⟨hV,hP,hR,hlen,fun c hc=>?_,fun c hc=>?_,fun c hc=>?_,fun c hc=>?_,fun c hc=>?_⟩
 all_goals obtain⟨j,hj,rfl⟩:=List.mem_iff_getElem.1 hc
 all_goals have K:=key j hj
 ·exact K.kop
 ·exact fun e=>inV hV (K.kr e)
 ·exact fun e=>inV hV (K.ks e)
 ·intro e
  obtain⟨k1,k2⟩:=K.kret e
  exact⟨by omega,fun v hv=>inV hV (k2 v hv)⟩
 ·intro e
  obtain⟨k1,k2,k3,k4,k5⟩:=K.kcall e
  by_cases hr:0≤f.code[j].n∧f.code[j].n<fs.length
  ·have e1:(renI fs.length (1+hcnt fs.length (f.code.take j)) f.code[j]).n=((1+hcnt fs.length (f.code.take j):Nat):Int):=by unfold renI;rw[if_pos e,if_pos hr]
   rw[e1] at k2 k3
   have hh:isH fs.length f.code[j]=true:=by unfold isH;simp[e,hr.1,hr.2]
   have h2:=heads_at fs.length (isH fs.length) f.code j hj hh
   have h3:(headsOfP (aloneP fs f)).getD (((1+hcnt fs.length (f.code.take j):Nat):Int)).toNat (0,0)=((fs.getD f.code[j].n.toNat ⟨0,0,0,[]⟩).P.toNat,(fs.getD f.code[j].n.toNat ⟨0,0,0,[]⟩).R.toNat):=by
    unfold headsOfP aloneP headsF
    rw[Int.toNat_natCast,Nat.add_comm,List.getD_eq_getElem?_getD,List.map_cons,List.getElem?_cons_succ,List.getElem?_map,List.getElem?_map]
    unfold hcnt
    rw[h2]
    rfl
   rw[h3] at k2 k3
   have hq':f.code[j].n.toNat<fs.length:=by omega
   have hmem:headF fs f.code[j]∈aloneP fs f:=List.mem_cons_of_mem _ (List.mem_map.2 ⟨f.code[j],List.mem_filter.2 ⟨List.getElem_mem hj,hh⟩,rfl⟩)
   obtain⟨-,p1,p2⟩:=hhd _ hmem
   have ehd:(headF fs f.code[j]).P=fs[f.code[j].n.toNat].P∧(headF fs f.code[j]).R=fs[f.code[j].n.toNat].R:=by unfold headF;simp[hq']
   rw[ehd.1] at p1
   rw[ehd.2] at p2
   refine⟨f.code[j].n.toNat,by omega,hq',p1,p2,?_,?_,fun v hv=>inV hV (k4 v hv),fun v hv=>inV hV (k5 v hv)⟩
   ·rw[k2]
    have:f.code[j].n.toNat<fs.length:=by omega
    simp[this]
   ·rw[k3]
    have:f.code[j].n.toNat<fs.length:=by omega
    simp[this]
  ·have e1:(renI fs.length (1+hcnt fs.length (f.code.take j)) f.code[j]).n = -1:=by unfold renI;rw[if_pos e,if_neg hr]
   rw[e1] at k1
   omega
end Go.Proofs.YtdkijecnnmncnaaGreatDoor
