import Derived.Test.YtingenonbkencaaDoorQLiJ
import Derived.Deep.AppendLies
import Derived.Test.YtingenonbkencaaDoorQW3J
set_option linter.unusedVariables false
set_option linter.unusedSimpArgs false
namespace Go.Proofs.YtingenonbkencaaDoor
open Go.RowKit (wrap32 wrap64)
set_option maxRecDepth 100000
set_option maxHeartbeats 2000000
abbrev FI := PF × Value × List CI
abbrev rowF (x:FI):List Value:=fR x.1 x.2.1
structure FO (w:World)(B:Nat)(v:Value)(L:List FI):Prop where
 row:w.ownsRow B 67 4 v L.length (L.flatMap rowF)
 code:∀ x∈L,CO w B x.2.1 x.2.2∧x.2.2.map (·.1)=x.1.code
theorem FO.fa {w:World}{B:Nat}{v:Value}{L:List FI}(h:FO w B v L):FA w v (L.map (·.1)):=by
 rcases h.row.2 with⟨h2,h3⟩|⟨g,cap,cur,e,-⟩
 ·refine⟨none,0,by rw[h2,List.length_map,h3],fun hne=>?_⟩
  exact absurd (by rw[List.eq_nil_of_length_eq_zero h3];rfl) hne
 ·refine⟨some ⟨g,0,none⟩,cap,by rw[e,List.length_map],fun _=>⟨g,0,rfl,(World.ownsRow.lt h.row g (by rw[e];rfl)).2,fun j hj=>?_⟩⟩
  have hj':j<L.length:=by simpa using hj
  have pc:∀ o u,o<4→(rowF L[j])[o]?=some u→w.cell? ⟨g,j*4+o,none⟩=some u:=fun o u ho hu=>by
   obtain⟨g',cap',e',-,hc⟩:=own_cell h.row (j:=j*4+o) (u:=u) (by rw[flat_get rowF 4 (fun _=>rfl) L j o hj' ho];exact hu)
   rw[e] at e'
   cases e'
   exact hc
  have hi:=h.code L[j] (List.getElem_mem hj')
  rw[Nat.zero_add]
  simp only[List.getElem_map]
  refine⟨L[j].2.1,pc 0 _ (by omega) rfl,pc 1 _ (by omega) rfl,pc 2 _ (by omega) rfl,pc 3 _ (by omega) rfl,?_⟩
  rw[← hi.2]
  exact hi.1.ca
theorem FO.stay {w w':World}{B:Nat}{v:Value}{L:List FI}(h:FO w B v L)(f:Fr (fun _=>False) w w'):FO w' B v L:=⟨ownsRow_frL h.row f (fun _ _ e=>e),fun x hx=>⟨(h.code x hx).1.stay f,(h.code x hx).2⟩⟩
theorem CO.shape {w:World}{B:Nat}{v:Value}{L:List CI}(h:CO w B v L):∃ a c,v = .slice a L.length c:=by
 rcases h.row.2 with⟨h2,h3⟩|⟨g,cap,cur,e,-⟩
 ·exact⟨none,0,by rw[h2,h3]⟩
 ·exact⟨_,_,e⟩
theorem copyFunc_any (f:PF)(x:Value)(w:World)(h1:CA w x f.code)(hn:FineC f.code) :
 Calls Tryd.prog 66 #[.agg #[vI f.P,vI f.R,vI f.V,x]] w fun e w'=>∃ x' L,e = .returned (.agg #[vI f.P,vI f.R,vI f.V,x'])∧CO w' w.heap.size x' L∧L.map (·.1)=f.code∧Fr (fun _=>False) w w':=by
 obtain⟨a1,b1,e1,-⟩:=id h1
 obtain⟨wa,hwa⟩:∃ wa,wa=(w.alloc (.cells #[vI f.P,vI f.R,vI f.V,x] 67)).alloc (.cells #[vI 0,vI 0,vI 0,.slice none 0 0] 67):=⟨_,rfl⟩
 have hF:Fr (fun _=>False) w wa:=by rw[hwa];exact Fr.alloc (Fr.alloc (Fr.refl _ w) _) _
 have hsz:wa.heap.size=w.heap.size+2:=by rw[hwa];simp
 have b1':wa.heap[w.heap.size]?=some (.cells #[vI f.P,vI f.R,vI f.V,x] 67):=by
  rw[hwa,Go.RowKit.Below.heap_alloc _ _ _ (by simp)];exact heap_new w _
 have b2':wa.heap[w.heap.size+1]?=some (.cells #[vI 0,vI 0,vI 0,.slice none 0 0] 67):=by
  rw[hwa,show w.heap.size+1=(w.alloc (.cells #[vI f.P,vI f.R,vI f.V,x] 67)).heap.size by simp];exact heap_new _ _
 have HWA:Hd (wa=(w.alloc (.cells #[vI f.P,vI f.R,vI f.V,x] 67)).alloc (.cells #[vI 0,vI 0,vI 0,.slice none 0 0] 67)):=hwa
 have G1:Hd (CA wa x f.code):=h1.stay hF
 have HF:Hd (Fr (fun _=>False) w wa):=hF
 obtain⟨H,hH⟩:∃ H,H=w.heap.size:=⟨_,rfl⟩
 have HH:Hd (H=w.heap.size):=hH
 have HSZ:Hd (wa.heap.size=H+2):=by rw[hH];exact hsz
 rw[← hH] at b1' b2'
 have B1:Hd _:=b1'
 have B2:Hd _:=b2'
 have p3:wa.cell? ⟨H,3,none⟩=some x:=by rw[cell_of b1'];rfl
 subst e1
 clear h1 hF hsz hwa hH b1' b2'
 go_enter Tryd.func66,Tryd.ntmps66
 go_upto_region 1 with fail
 rw[← HWA.out,← HH.out]
 clear HWA
 go_wp2_with fail
 refine(show Calls Tryd.prog 94 #[.slice a1 f.code.length b1] wa _ from copyCode_any _ f.code wa G1.out hn).mono ?_
 rintro e w2 ⟨x',L,rfl,hx',hL,hF2⟩
 have B1':w2.heap[H]?=some (.cells #[vI f.P,vI f.R,vI f.V,.slice a1 f.code.length b1] 67):=(hF2.block H (heap_lt B1.out) (fun e=>e)).trans B1.out
 have B2':w2.heap[H+1]?=some (.cells #[vI 0,vI 0,vI 0,.slice none 0 0] 67):=(hF2.block (H+1) (heap_lt B2.out) (fun e=>e)).trans B2.out
 obtain⟨xa,xc,exa⟩:=hx'.shape
 have q3:w2.cell? ⟨H,3,none⟩=some (.slice a1 f.code.length b1):=by rw[cell_of B1'];rfl
 have z3:=frozen_of B1' 3
 have fs2:=setCell_fr w2 H 3 x'
 have C1:Hd ((w2.setCell ⟨H,3,none⟩ x').heap[H]?=some (.cells #[vI f.P,vI f.R,vI f.V,x'] 67)):=set_of B1' 3 x'
 have C2:Hd ((w2.setCell ⟨H,3,none⟩ x').heap[H+1]?=some (.cells #[vI 0,vI 0,vI 0,.slice none 0 0] 67)):=(fs2.block (H+1) (heap_lt B2') (by omega)).trans B2'
 have hx2:=hx'.mono (B':=H+2) (by rw[HSZ.out];exact Nat.le_refl _)
 have HX:Hd (CO (w2.setCell ⟨H,3,none⟩ x') (H+2) x' L):=hx2.fr fs2 (fun k e e2=>by have:=(World.ownsRow.lt hx2.row k e).1;omega) (fun y hy k e e2=>by
  rcases e with e | e
  ·have:=((hx2.ints y hy).1.ge k e).1;omega
  ·have:=((hx2.ints y hy).2.ge k e).1;omega)
 have HF2:Hd (Fr (fun _=>False) w (w2.setCell ⟨H,3,none⟩ x')):=(HF.out.trans hF2).then fs2 (fun j hj e=>by have:=HH.out;omega)
 have HLL:Hd (L.map (·.1)=f.code):=hL
 subst exa
 clear hx' hx2 hL hF2 fs2 B1' B2' p3 B1 B2 G1 HF HSZ
 go_upto_region 2 with fail
 clear q3 z3
 generalize w2.setCell ⟨H,3,none⟩ (.slice xa L.length xc)=w5 at *
 have c0:w5.cell? ⟨H,0,none⟩=some (vI f.P):=by rw[cell_of C1.out];rfl
 have c1:w5.cell? ⟨H,1,none⟩=some (vI f.R):=by rw[cell_of C1.out];rfl
 have c2:w5.cell? ⟨H,2,none⟩=some (vI f.V):=by rw[cell_of C1.out];rfl
 have c3:w5.cell? ⟨H,3,none⟩=some (.slice xa L.length xc):=by rw[cell_of C1.out];rfl
 have d0:w5.cell? ⟨H+1,0,none⟩=some (vI 0):=by rw[cell_of C2.out];rfl
 have d1:w5.cell? ⟨H+1,1,none⟩=some (vI 0):=by rw[cell_of C2.out];rfl
 have d2:w5.cell? ⟨H+1,2,none⟩=some (vI 0):=by rw[cell_of C2.out];rfl
 have d3:w5.cell? ⟨H+1,3,none⟩=some (.slice none 0 0):=by rw[cell_of C2.out];rfl
 have y0:=frozen_of C2.out 0
 have y1:=frozen_of C2.out 1
 have y2:=frozen_of C2.out 2
 have y3:=frozen_of C2.out 3
 have HLz:Hd ((fou4 w5 (H+1) 0 (fR f (.slice xa L.length xc))).heap[H+1]?=some (.cells #[vI f.P,vI f.R,vI f.V,.slice xa L.length xc] 67)):=set_of (set_of (set_of (set_of C2.out 0 _) 1 _) 2 _) 3 _
 have fs6:=fou4_fr w5 (H+1) 0 (fR f (.slice xa L.length xc))
 have KX:Hd (CO (fou4 w5 (H+1) 0 (fR f (.slice xa L.length xc))) w.heap.size (.slice xa L.length xc) L):=(HX.out.fr fs6 (fun k e e2=>by have:=(World.ownsRow.lt HX.out.row k e).1;omega) (fun y hy k e e2=>by
  rcases e with e | e
  ·have:=((HX.out.ints y hy).1.ge k e).1;omega
  ·have:=((HX.out.ints y hy).2.ge k e).1;omega)).mono (by have:=HH.out;omega)
 have KF:Hd (Fr (fun _=>False) w (fou4 w5 (H+1) 0 (fR f (.slice xa L.length xc)))):=Fr.then HF2.out fs6 (fun j hj e=>by have:=HH.out;omega)
 clear fs6
 go_wp2_with fail
 change bodyPost _ _ _ _ _ (fou4 w5 (H+1) 0 (fR f (.slice xa L.length xc)))
 generalize fou4 w5 (H+1) 0 (fR f (.slice xa L.length xc))=wz at *
 have e0:wz.cell? ⟨H+1,0,none⟩=some (vI f.P):=by rw[cell_of HLz.out];rfl
 have e1:wz.cell? ⟨H+1,1,none⟩=some (vI f.R):=by rw[cell_of HLz.out];rfl
 have e2:wz.cell? ⟨H+1,2,none⟩=some (vI f.V):=by rw[cell_of HLz.out];rfl
 have e3:wz.cell? ⟨H+1,3,none⟩=some (.slice xa L.length xc):=by rw[cell_of HLz.out];rfl
 refine bodyPost_ret (v:=.agg #[vI f.P,vI f.R,vI f.V,.slice xa L.length xc]) ?_ rfl ⟨_,L,rfl,KX.out,HLL.out,KF.out⟩
 rw[results_cell (p:=2) (ty:=67) Tryd.results66]
 simp[go_sem,e0,e1,e2,e3]
theorem copyFuncs_any (v:Value)(fs:List PF)(w:World)(hl:FA w v fs)(hn:FineP fs) :
 Calls Tryd.prog 37 #[v] w fun e w'=>∃ v' L,e = .returned v'∧FO w' w.heap.size v' L∧L.map (·.1)=fs∧Fr (fun _=>False) w w':=by
 obtain⟨ea,ec,rfl,hein⟩:=hl
 have HE:Hd _:=hein
 have HFI:Hd (FineP fs):=hn
 have hz:=hn.1
 clear hein hn
 obtain⟨i7,hi7,hz7,hs7,hb7⟩:=info_parts (P:=Tryd.prog) (e:=67) (z:=.agg #[vI 0,vI 0,vI 0,.slice none 0 0]) (size:=4) (bytes:=48) (by kernel_rfl)
 go_enter Tryd.func37,Tryd.ntmps37
 go_wp2_with fail
 go_loopw [3,4] (fun mv v wr=>∃ (k:Nat) (L:List FI),v = .int .i64 k∧k≤fs.length∧Hd (FO wr w.heap.size mv L)∧Hd (L.map (·.1)=fs.take k)∧Hd (Fr (fun _=>False) w wr)) (fun _ v _=>match v with | .int _ q=>fs.length-q.toNat | _=>0)
 case atStart=>exact⟨0,[],rfl,Nat.zero_le _,⟨World.ownsRow_nil _ _ _ _,fun x hx=>by simp at hx⟩,rfl,Fr.refl _ _⟩
 case round =>
  obtain⟨k,L,rfl,hk,HO,HM,HF⟩:=hrel
  by_cases hlt:k<fs.length
  ·have hne:fs≠[]:=by intro e;simp[e] at hlt
   obtain⟨k1,o1,rfl,hk1,g1⟩:=HE.out hne
   obtain⟨x1,p0,p1,p2,p3,ix1⟩:=g1 k hlt
   have m1:=fun o=>HF.out.cell (o:=o) hk1 (fun h=>h)
   have p0:=(m1 _).trans p0
   have p1:=(m1 _).trans p1
   have p2:=(m1 _).trans p2
   have p3:=(m1 _).trans p3
   have X1:Hd (CA wr x1 fs[k].code):=ix1.stay HF.out
   have HC:Hd (FineC fs[k].code):=HFI.out.2 _ (List.getElem_mem hlt)
   have HT:Hd (fs.take (k+1)=fs.take k++[fs[k]]):=by unfold Hd;rw[List.take_add_one,List.getElem?_eq_getElem hlt];rfl
   have HLL:Hd (L.length=k):=by have:=congrArg List.length HM.out;simp at this;unfold Hd;omega
   generalize fs[k]=f at *
   obtain⟨a,b,e1,-⟩:=ix1
   subst e1
   have hk0:(0:Int)≤k:=by omega
   have hk3:(k:Int)<fs.length:=by omega
   clear g1 m1
   go_wp2_with fail
   refine(show Calls Tryd.prog 66 #[.agg #[vI f.P,vI f.R,vI f.V,.slice a f.code.length b]] wr _ from copyFunc_any f _ wr X1.out HC.out).mono ?_
   rintro e w1 ⟨x',Lx,rfl,hx,hLx,hF1⟩
   obtain⟨xa,xc,rfl⟩:=hx.shape
   obtain⟨wb,hwb⟩:∃ wb,wb=w1.alloc (.cells #[vI f.P,vI f.R,vI f.V,.slice xa Lx.length xc] 67):=⟨_,rfl⟩
   have hFb:Fr (fun _=>False) w1 wb:=by rw[hwb];exact Fr.alloc (Fr.refl _ w1) _
   have hFc:Fr (fun _=>False) w1 (wb.alloc (.cells #[vI f.P,vI f.R,vI f.V,.slice xa Lx.length xc] 67)):=Fr.alloc hFb _
   have b1:wb.heap[w1.heap.size]?=some (.cells #[vI f.P,vI f.R,vI f.V,.slice xa Lx.length xc] 67):=by rw[hwb];exact heap_new w1 _
   have HO1:Hd (FO (wb.alloc (.cells #[vI f.P,vI f.R,vI f.V,.slice xa Lx.length xc] 67)) w.heap.size u3 L):=HO.out.stay (hF1.trans hFc)
   have HX1:Hd (CO (wb.alloc (.cells #[vI f.P,vI f.R,vI f.V,.slice xa Lx.length xc] 67)) w.heap.size (.slice xa Lx.length xc) Lx):=(hx.stay hFc).mono HF.out.size
   have HLX:Hd (Lx.map (·.1)=f.code):=hLx
   have HF1:Hd (Fr (fun _=>False) w (wb.alloc (.cells #[vI f.P,vI f.R,vI f.V,.slice xa Lx.length xc] 67))):=HF.out.trans (hF1.trans hFc)
   have HWB:Hd (wb=w1.alloc (.cells #[vI f.P,vI f.R,vI f.V,.slice xa Lx.length xc] 67)):=hwb
   have HRW:Hd ((wb.alloc (.cells #[vI f.P,vI f.R,vI f.V,.slice xa Lx.length xc] 67)).ownsRow w.heap.size 67 4 u3 L.length (L.flatMap rowF)):=HO1.out.row
   have hnews:∀ j u,[vI f.P,vI f.R,vI f.V,.slice xa Lx.length xc][j]?=some u→(wb.alloc (.cells #[vI f.P,vI f.R,vI f.V,.slice xa Lx.length xc] 67)).cell? ((⟨wb.heap.size,0,none⟩:Addr).add j)=some u :=
    World.news_of_block (cs:=#[vI f.P,vI f.R,vI f.V,.slice xa Lx.length xc]) (heap_new wb _)
   have hbase:w.heap.size≤(wb.alloc (.cells #[vI f.P,vI f.R,vI f.V,.slice xa Lx.length xc] 67)).heap.size:=HF1.out.size
   have hEl:L.length+1≤2932031007318:=by have:=HLL.out;omega
   have u0:wb.cell? ⟨w1.heap.size,0,none⟩=some (vI f.P):=by rw[cell_of b1];rfl
   have u1:wb.cell? ⟨w1.heap.size,1,none⟩=some (vI f.R):=by rw[cell_of b1];rfl
   have u2:wb.cell? ⟨w1.heap.size,2,none⟩=some (vI f.V):=by rw[cell_of b1];rfl
   have u3':wb.cell? ⟨w1.heap.size,3,none⟩=some (.slice xa Lx.length xc):=by rw[cell_of b1];rfl
   clear hx hLx hF1 hFb hFc b1 HO HF hwb p0 p1 p2 p3
   go_upto_region 6 with fail
   rw[← HWB.out]
   clear HWB
   go_wp2_with ((at_builtin;refine Hd.out ?_))
   unfold Hd
   refine wpList_append_lies _ rfl (.tmp 17) (.tmp 19) 24 rfl w.heap.size 67 i7 (.agg #[vI 0,vI 0,vI 0,.slice none 0 0]) 4 48 under24 hi7 hz7 hs7 hb7 rfl (by omega) u3 L.length _ rfl HRW.out ⟨wb.heap.size,0,none⟩ 1 1 [vI f.P,vI f.R,vI f.V,.slice xa Lx.length xc] rfl rfl hnews (by intro u hu;simp at hu;rcases hu with rfl | rfl | rfl | rfl<;>rfl) (by omega) (by unfold maxLen;omega) (by omega) hbase (wb.heap.size+1) (by simp) ?_
   intro g6 cap6 w6 hown6 hgrow6 hat6 hlt6
   have hF6:=grown_frL hgrow6
   have HO6:Hd (FO w6 w.heap.size (.slice (some ⟨g6,0,none⟩) (L.length+1) cap6) (L++[(f,.slice xa Lx.length xc,Lx)])):=by
    have keep:∀ (v:Value) (M:List CI),CO (wb.alloc (.cells #[vI f.P,vI f.R,vI f.V,.slice xa Lx.length xc] 67)) w.heap.size v M→CO w6 w.heap.size v M:=fun v M hM =>
     hM.fr hF6 (fun j e e2=>own_apart HRW.out hM.row (by decide) j e e2) (fun y hy j e e2=>by
      rcases e with e | e
      ·exact own_apart HRW.out (hM.ints y hy).1 (by decide) j e e2
      ·exact own_apart HRW.out (hM.ints y hy).2 (by decide) j e e2)
    refine⟨?_,fun x hx=>?_⟩
    ·rw[List.length_append,List.flatMap_append]
     simpa using hown6
    ·rcases List.mem_append.1 hx with hx | hx
     ·exact⟨keep _ _ (HO1.out.code x hx).1,(HO1.out.code x hx).2⟩
     ·simp at hx
      subst hx
      exact⟨keep _ _ HX1.out,HLX.out⟩
   have HF6:Hd (Fr (fun _=>False) w w6):=grow_fr0 HF1.out hgrow6 (fun k hk=>(World.ownsRow.lt HRW.out k hk).1)
   have HM6:Hd ((L++[(f,Value.slice xa Lx.length xc,Lx)]).map (·.1)=fs.take (k+1)):=by
    unfold Hd
    rw[HT.out,List.map_append,HM.out]
    rfl
   clear hown6 hgrow6 hat6 hlt6 HO1 HF1 HRW hnews hbase hF6 HX1 u0 u1 u2 u3'
   go_wp2_with fail
   exact⟨⟨k+1,_,by simp,by omega,HO6.out,HM6.out,HF6.out⟩,by simp;omega⟩
  ·have hke:k=fs.length:=by omega
   subst hke
   have HM2:Hd (L.map (·.1)=fs):=by have:=HM.out;rw[List.take_length] at this;exact this
   clear HM
   go_wp2_with fail
   go_ret
   exact⟨u3,L,rfl,HO.out,HM2.out,HF.out⟩
theorem under76 : Tryd.prog.underlying 76=some (.slice 64):=by kernel_rfl
theorem own_slice {w:World}{B e sz n:Nat}{v:Value}{xs:List Value}(h:w.ownsRow B e sz v n xs):∃ a c,v = .slice a n c:=by
 rcases h.2 with⟨e,e2⟩|⟨g,cap,cur,e,-⟩
 ·exact⟨none,0,by rw[e,e2]⟩
 ·exact⟨_,_,e⟩
theorem row_setI {w:World}{B e sz n g cap j:Nat}{xs:List Value}(h:w.ownsRow B e sz (.slice (some ⟨g,0,none⟩) n cap) n xs)(u:Value) :
 (w.setCell ⟨g,j,none⟩ u).ownsRow B e sz (.slice (some ⟨g,0,none⟩) n cap) n (xs.set j u)∧w.frozen? ⟨g,j,none⟩=false:=by
 obtain⟨h0,h1⟩:=h
 rcases h1 with⟨e1,-⟩|⟨g',cap',cur,e1,k1,k2,k3,k4,k5,k6⟩
 ·cases e1
 ·cases e1
  refine⟨⟨by rw[List.length_set];exact h0,Or.inr ⟨g,cap,cur.setIfInBounds j u,rfl,k1,set_of k2 j u,k3,k4,by simpa using k5,?_⟩⟩,frozen_of k2 j⟩
  rw[← k6,Array.toList_setIfInBounds,List.take_set]
theorem iown_some {w:World}{B:Nat}{v:Value}{l:List Int}(h:IOwn w B v l)(hl:0<l.length):∃ g c,v = .slice (some ⟨g,0,none⟩) l.length c∧l.length≤c∧∀ i (hi:i<l.length),w.cell? ⟨g,i,none⟩=some (vI l[i]):=by
 rcases h.2 with⟨e,e2⟩|⟨g,cap,cur,e,-,-,h3,-⟩
 ·omega
 ·obtain⟨a,c,e2,h4⟩:=h.ia
  obtain⟨k,o,e3,-,h5⟩:=h4 (List.length_pos_iff.1 hl)
  rw[e] at e2
  injection e2 with e4 e5 e6
  rw[e3] at e4
  injection e4 with e4
  injection e4 with e7 e8
  subst e7 e8
  exact⟨g,cap,by rw[e],h3,fun i hi=>by have:=h5 i hi;rwa [Nat.zero_add] at this⟩
theorem iown_cap {w:World}{B:Nat}{v:Value}{l:List Int}(h:IOwn w B v l):∃ a c,v = .slice a l.length c:=by
 have:=own_slice h
 simpa[IOwn] using this
theorem run_append_keeps {P:Program}(w:World)(t ty:TypeId)(base:Nat)(e:TypeId)(i:TypeInfo)(z:Value)(size bytes:Nat)(ht:P.underlying t=some (.slice e))(hi:P.info? e=some i)(hz:i.zero=some z)
 (hsize:i.size=size) (hby:i.bytes=bytes) (hzs:z.cells.size=size) (hsz:0<size)
 (v:Value) (n:Nat) (xs:List Value) (hown:w.ownsRow base e size v n xs)
 (ad:Addr) (m c:Nat) (news:List Value) (hl:news.length=m*size) (hnews:∀ j u,news[j]?=some u→w.cell? (ad.add j)=some u) (h1:∀ u∈news,u.oneCell'=true)
 (hm:0<m) (h63:n+m≤maxLen) (hbytes:(n+m)*bytes≤140737488355328) (hbase:base≤w.heap.size) (H:Nat) (hH:w.heap.size=H) :
 ∃ g cap w',(Builtin.append_ #[t,t] ty #[v,.slice (some ad) m c]).run P w = .ok (.slice (some ⟨g,0,none⟩) (n+m) cap) w' ∧
  w'.ownsRow base e size (.slice (some ⟨g,0,none⟩) (n+m) cap) (n+m) (xs++news)∧w.grownBy w' v.ownBlock∧(v.ownBlock=some g∨g=H)∧g<w'.heap.size ∧
  ∀ (B k cap0 g0:Nat) (ys:List Value),w.ownsRow B e size (.slice (some ⟨g0,0,none⟩) k cap0) k ys→(v.ownBlock=some g0→k≤n)→w'.ownsRow B e size (.slice (some ⟨g0,0,none⟩) k cap0) k ys:=by
 obtain⟨g,cap,w',hr,h2,h3,h4,h5⟩:=run_append_lies (P:=P) w t ty base e i z size bytes ht hi hz hsize hby hzs hsz v n xs hown ad m c news hl hnews h1 hm h63 hbytes hbase H hH
 refine⟨g,cap,w',hr,h2,h3,h4,h5,fun B k cap0 g0 ys hrow hk=>?_⟩
 by_cases hv:v.ownBlock=some g0
 ·have hkn:=hk hv
  rcases hown.2 with⟨rfl,rfl⟩|⟨g1,cap1,cur,rfl,hbg,hg,hnc,hcm,hcs,htake⟩
  ·cases hv
  ·cases hv
   subst hsize
   rcases hrow.2 with⟨e1,-⟩|⟨g2,cap2,cur2,e1,k1,k2,k3,k4,k5,k6⟩
   ·cases e1
   ·cases e1
    rw[hg] at k2
    cases k2
    by_cases hroom:n+m≤cap1
    ·have hfit:n*i.size+news.length≤cur.size:=by rw[hl,hcs,← Nat.add_mul];exact Nat.mul_le_mul_right _ hroom
     have hr2:=run_append_room (P:=P) w t ty e i ht hi g1 n cap1 cur hg ad m c news hl hnews h1 hroom hfit
     have hw:=hr.symm.trans hr2
     injection hw with hw1 hw2
     subst hw2
     refine⟨hrow.1,Or.inr ⟨g1,cap0,_,rfl,k1,setRow_heap w g1 cur _ e _ hg,k3,k4,?_,?_⟩⟩
     ·simp only[List.size_toArray,List.length_append,List.length_take,List.length_drop,Array.length_toList]
      omega
     ·rw[← k6,List.append_assoc]
      have hle:k*i.size≤n*i.size:=Nat.mul_le_mul_right _ hkn
      rw[List.take_append_of_le_length (by rw[List.length_take,Array.length_toList];omega),List.take_take]
      congr 1
      omega
    ·have holds:∀ j u,xs[j]?=some u→w.cell? ((⟨g1,0,none⟩:Addr).add j)=some u:=hown.cells (g:=g1) rfl
     have hr2:=run_append_grow (P:=P) w t ty e i z ht hi hz ⟨g1,0,none⟩ n cap1 xs hown.1 holds ad m c news hl hnews (by omega) (by simp only[maxLen] at h63;omega) (growslice_fits (by omega) (by rw[hby];exact hbytes))
     have hw:=hr.symm.trans hr2
     injection hw with hw1 hw2
     subst hw2
     refine⟨hrow.1,Or.inr ⟨g1,cap0,cur,rfl,k1,?_,k3,k4,k5,k6⟩⟩
     exact(Go.RowKit.Below.heap_alloc w.drew _ g1 (heap_lt hg)).trans hg
 ·exact ownsRow_frL hrow (grown_frL h3) (fun j ej e=>by cases ej;exact hv e)
theorem wpList_append_keeps {P:Program}{w:World}{ops:Array Oper}{rest:List Oper}{o:Oper}{a:Act}{Q:Exit→Act→World→Prop}(hgd:o.guard=none)(s x:Operand)(t:TypeId)
 (ho:o.op = .call { callee:=.builtin .append,args:=#[s,x],argTypes:=#[t,t] })
 (base:Nat) (e:TypeId) (i:TypeInfo) (z:Value) (size bytes:Nat) (ht:P.underlying t=some (.slice e)) (hi:P.info? e=some i) (hz:i.zero=some z)
 (hsize:i.size=size) (hby:i.bytes=bytes) (hzs:z.cells.size=size) (hsz:0<size)
 (v:Value) (n:Nat) (xs:List Value) (hs:a.eval s=v) (hown:w.ownsRow base e size v n xs)
 (ad:Addr) (m c:Nat) (news:List Value) (hx:a.eval x = .slice (some ad) m c) (hl:news.length=m*size) (hnews:∀ j u,news[j]?=some u→w.cell? (ad.add j)=some u) (h1:∀ u∈news,u.oneCell'=true)
 (hm:0<m) (h63:n+m≤maxLen) (hbytes:(n+m)*bytes≤140737488355328) (hbase:base≤w.heap.size) (H:Nat) (hH:w.heap.size=H)
 (h:∀ g cap w',w'.ownsRow base e size (.slice (some ⟨g,0,none⟩) (n+m) cap) (n+m) (xs++news)→w.grownBy w' v.ownBlock→(v.ownBlock=some g∨g=H)→g<w'.heap.size →
   (∀ (B k cap0 g0:Nat) (ys:List Value),w.ownsRow B e size (.slice (some ⟨g0,0,none⟩) k cap0) k ys→(v.ownBlock=some g0→k≤n)→w'.ownsRow B e size (.slice (some ⟨g0,0,none⟩) k cap0) k ys) →
   wpList P ops Q rest (a.put o.dst (.slice (some ⟨g,0,none⟩) (n+m) cap)) w'):wpList P ops Q (o::rest) a w :=
 wpList_plain hgd fun _ hK=>by
  obtain⟨g,cap,w',hr,h2,h3,h4,h5,h6⟩:=run_append_keeps (P:=P) w t o.type base e i z size bytes ht hi hz hsize hby hzs hsz v n xs hown ad m c news hl hnews h1 hm h63 hbytes hbase H hH
  unfold Oper.wp execOp
  simp only[ho,resolve,invoke,builtin,Sem.run_bind,Sem.run_pure,Result.andThen_ok,List.map_toArray,List.map_cons,List.map_nil,hs,hx,hr]
  exact hK _ _ (h g cap w' h2 h3 h4 h5 h6)
def KpI (w w':World)(v:Value)(n:Nat):Prop:=∀ (B k cap0 g0:Nat) (ys:List Value),w.ownsRow B 3 1 (.slice (some ⟨g0,0,none⟩) k cap0) k ys→(v.ownBlock=some g0→k≤n)→w'.ownsRow B 3 1 (.slice (some ⟨g0,0,none⟩) k cap0) k ys
theorem IOwn.kept {w w':World}{B n:Nat}{v v0:Value}{l:List Int}(h:IOwn w B v0 l)(k:KpI w w' v n)(hn:∀ q,v.ownBlock=some q→v0.ownBlock=some q→l.length≤n):IOwn w' B v0 l:=by
 rcases h.2 with⟨e1,e2⟩|⟨g,cap,cur,e,-⟩
 ·exact⟨h.1,Or.inl ⟨e1,e2⟩⟩
 ·subst e
  exact k _ _ _ _ _ h (fun e=>hn g e rfl)
theorem wpList_int {w:World}{ops:Array Oper}{rest:List Oper}{o:Oper}{a:Act}{Q:Exit→Act→World→Prop}(hgd:o.guard=none)(s x:Operand)(ho:o.op = .call { callee:=.builtin .append,args:=#[s,x],argTypes:=#[64,64] })
 {B k H c:Nat} {v:Value} {l:List Int} {z:Int} (hs:a.eval s=v) (hx:a.eval x = .slice (some ⟨H,0,none⟩) 1 c)
 (h:IOwn w B v l) (hk:l.length=k) (hb:w.heap[H]?=some (.cells #[vI z] 3)) (hl:k≤2000000000) (hB:B≤w.heap.size)
 (K:∀ g cap w',IOwn w' B (.slice (some ⟨g,0,none⟩) (k+1) cap) (l++[z])→Fr (fun q=>v.ownBlock=some q) w w'→(v.ownBlock=some g∨g=w.heap.size)→KpI w w' v k→wpList Tryd.prog ops Q rest (a.put o.dst (.slice (some ⟨g,0,none⟩) (k+1) cap)) w') :
 wpList Tryd.prog ops Q (o::rest) a w:=by
 subst hk
 obtain⟨i3,hi3,hz3,hs3,hb3⟩:=info_parts (P:=Tryd.prog) (e:=3) (z:=.int .i64 0) (size:=1) (bytes:=8) (by kernel_rfl)
 refine wpList_append_keeps hgd s x 64 ho B 3 i3 (.int .i64 0) 1 8 under64 hi3 hz3 hs3 hb3 rfl (by omega) v l.length (l.map vI) hs h ⟨H,0,none⟩ 1 c [vI z] hx rfl (World.news_of_block (cs:=#[vI z]) hb) (by intro y hy;rw[List.mem_singleton] at hy;rw[hy];rfl) (by omega) (by unfold maxLen;omega) (by omega) hB w.heap.size rfl ?_
 intro g cap w' hown hgrow hat _ hkp
 exact K g cap w' (by unfold IOwn;simpa using hown) (grown_frL hgrow) hat hkp
structure Lm (w:World)(B1 B2:Nat)(v:Value)(m:Nat)(U:Nat→Value)(xs:Nat→List Int):Prop where
 row:w.ownsRow B1 64 1 v m ((List.range m).map U)
 own:∀ j,j<m→IOwn w B1 (U j) (xs j)
 ap:∀ i j,i<m→j<m→i≠j→∀ q,(U i).ownBlock=some q→(U j).ownBlock≠some q
 lt:∀ j,j<m→∀ q,(U j).ownBlock=some q→q<B2
 vb:∀ q,v.ownBlock=some q→q<B2
section
variable {w:World} {B1 B2 m:Nat} {v:Value} {U:Nat→Value} {xs:Nat→List Int}
theorem Lm.stay {w':World}(h:Lm w B1 B2 v m U xs)(f:Fr (fun _=>False) w w'):Lm w' B1 B2 v m U xs :=
 ⟨ownsRow_frL h.row f (fun _ _ e=>e),fun j hj=>(h.own j hj).fr f (fun _ _ e=>e),h.ap,h.lt,h.vb⟩
theorem Lm.at (h:Lm w B1 B2 v m U xs){i:Nat}(hi:i<m):∃ g c a ca,v = .slice (some ⟨g,0,none⟩) m c∧w.cell? ⟨g,i,none⟩=some (.slice a (xs i).length ca)∧U i = .slice a (xs i).length ca∧g<w.heap.size:=by
 obtain⟨g,c,e,hg,hc⟩:=own_cell h.row (j:=i) (u:=U i) (by rw[List.getElem?_map,List.getElem?_range hi];rfl)
 obtain⟨a,ca,e2⟩:=iown_cap (h.own i hi)
 exact⟨g,c,a,ca,e,by rw[← e2];exact hc,e2,hg⟩
theorem Lm.set {i t g c:Nat}(h:Lm w B1 B2 v m U xs)(hi:i<m)(e:U i = .slice (some ⟨g,0,none⟩) (xs i).length c)(z:Int):Lm (w.setCell ⟨g,t,none⟩ (vI z)) B1 B2 v m U (at1 xs i ((xs i).set t z))∧w.frozen? ⟨g,t,none⟩=false∧B1≤g∧g<B2∧g<w.heap.size:=by
 have f:=setCell_fr w g t (vI z)
 have ho:=h.own i hi
 have eb:(U i).ownBlock=some g:=by rw[e];rfl
 have hk:(w.ownsRow B1 3 1 (.slice (some ⟨g,0,none⟩) (xs i).length c) (xs i).length ((xs i).map vI)):=by rw[← e];exact ho
 have hs:=row_setI (j:=t) hk (vI z)
 refine⟨⟨ownsRow_frL h.row f (fun q e1 e2=>?_),fun j hj=>?_,h.ap,h.lt,h.vb⟩,hs.2,(ho.ge g eb).1,h.lt i hi g eb,(ho.ge g eb).2⟩
 ·have e2:q=g:=e2
  subst e2
  exact own_apart h.row ho (by decide) q eb e1
 ·by_cases hij:j=i
  ·subst hij
   rw[at1_self]
   unfold IOwn
   rw[List.length_set,e,List.map_set]
   exact hs.1
  ·rw[at1_ne _ _ hij]
   exact(h.own j hj).fr f (fun q e1 e2=>by
    have e2:q=g:=e2
    subst e2
    exact h.ap j i hj hi hij q e1 eb)
end
def mrX (n:Nat→Nat)(j:Nat):List Int:=List.replicate (n j) (-(j:Int)-1)
theorem mrX_len (n:Nat→Nat)(j:Nat):(mrX n j).length=n j:=by unfold mrX;simp
theorem marked {xs:List Int}{n j:Nat}{f:Nat→Nat}(hl:xs.length=f j)(h:∀ t,t<f j→xs[t]?=some (-(j:Int)-1)):xs=mrX f j:=by
 apply List.ext_getElem?
 intro t
 unfold mrX
 by_cases ht:t<f j
 ·rw[h t ht,List.getElem?_replicate,if_pos ht]
 ·rw[List.getElem?_eq_none (by omega),List.getElem?_eq_none (by simp;omega)]
def SU (m:Nat)(U:Nat→Value)(q:Nat):Prop:=∃ j,j<m∧(U j).ownBlock=some q
structure FmX (w3 w:World)(B1 B2:Nat)(v:Value)(m:Nat)(U:Nat→Value)(n:Nat→Nat)(fv:Value)(F:Nat→Value)(i:Nat):Prop where
 l:Lm w B1 B2 v m U (mrX n)
 far:w.ownsRow w3.heap.size 64 1 fv i ((List.range i).map F)
 fown:∀ j,j<i→IOwn w B1 (F j) (mrX n j++List.replicate 64 (-100000000-(j:Int)))
 fat:∀ j,j<i→∀ q,(F j).ownBlock=some q→(U j).ownBlock=some q∨w3.heap.size≤q
 fr:Fr (SU m U) w3 w
 b3:B2≤w3.heap.size
structure GmX (w3 w:World)(B1 B2:Nat)(v:Value)(m:Nat)(U:Nat→Value)(n:Nat→Nat)(fv:Value)(F:Nat→Value)(i k:Nat)(wv:Value):Prop extends FmX w3 w B1 B2 v m U n fv F i where
 wo:IOwn w B1 wv (mrX n i++List.replicate k (-100000000-(i:Int)))
 wat:∀ q,wv.ownBlock=some q→((U i).ownBlock=some q∨w3.heap.size≤q)∧∀ j,j<i→(F j).ownBlock≠some q
section
variable {w3 w:World} {B1 B2 m:Nat} {v:Value} {U:Nat→Value} {n:Nat→Nat} {fv:Value} {F:Nat→Value} {i k:Nat} {wv:Value}
theorem FmX.stay {w':World}(h:FmX w3 w B1 B2 v m U n fv F i)(f:Fr (fun _=>False) w w'):FmX w3 w' B1 B2 v m U n fv F i :=
 ⟨h.l.stay f,ownsRow_frL h.far f (fun _ _ e=>e),fun j hj=>(h.fown j hj).fr f (fun _ _ e=>e),h.fat,h.fr.then f (fun _ _ e=>e.elim),h.b3⟩
theorem GmX.stay {w':World}(h:GmX w3 w B1 B2 v m U n fv F i k wv)(f:Fr (fun _=>False) w w'):GmX w3 w' B1 B2 v m U n fv F i k wv :=
 ⟨h.toFmX.stay f,h.wo.fr f (fun _ _ e=>e),h.wat⟩
theorem FmX.gm (h:FmX w3 w B1 B2 v m U n fv F i)(hi:i<m):GmX w3 w B1 B2 v m U n fv F i 0 (U i):=by
 refine⟨h,by rw[List.replicate_zero,List.append_nil];exact h.l.own i hi,fun q e=>⟨Or.inl e,fun j hj e2=>?_⟩⟩
 have h1:=h.l.lt i hi q e
 have h3:=h.b3
 rcases h.fat j hj q e2 with e3 | e3
 ·exact h.l.ap j i (by omega) hi (by omega) q e3 e
 ·omega
theorem GmX.more {w':World}{g cap:Nat}(h:GmX w3 w B1 B2 v m U n fv F i k wv)(hi:i<m)(ho:IOwn w' B1 (.slice (some ⟨g,0,none⟩) (n i+k+1) cap) (mrX n i++List.replicate k (-100000000-(i:Int))++[-100000000-(i:Int)]))(f:Fr (fun q=>wv.ownBlock=some q) w w')(hat:wv.ownBlock=some g∨g=w.heap.size)(hk:KpI w w' wv (n i+k)) :
 GmX w3 w' B1 B2 v m U n fv F i (k+1) (.slice (some ⟨g,0,none⟩) (n i+k+1) cap):=by
 have hb3:=h.b3
 have hsz:=h.fr.size
 have hub:∀ j,j<m→j≠i→∀ q,(U j).ownBlock=some q→wv.ownBlock≠some q:=fun j hj hne q e e2=>by
  have h1:=h.l.lt j hj q e
  rcases(h.wat q e2).1 with e3 | e3
  ·exact h.l.ap j i hj hi hne q e e3
  ·omega
 refine⟨⟨⟨ownsRow_frL h.l.row f (fun q e e2=>own_apart h.l.row h.wo (by decide) q e2 e),fun j hj=>?_,h.l.ap,h.l.lt,h.l.vb⟩,ownsRow_frL h.far f (fun q e e2=>own_apart h.far h.wo (by decide) q e2 e),fun j hj=>(h.fown j hj).fr f (fun q e e2=>(h.wat q e2).2 j hj e),h.fat,h.fr.then f (fun q hq e=>?_),hb3⟩,?_,fun q e=>?_⟩
 ·refine(h.l.own j hj).kept hk (fun q e e2=>?_)
  by_cases hij:j=i
  ·rw[hij,mrX_len];omega
  ·exact absurd e (hub j hj hij q e2)
 ·rcases(h.wat q e).1 with e3 | e3
  ·exact⟨i,hi,e3⟩
  ·omega
 ·rw[List.replicate_succ',← List.append_assoc];exact ho
 ·have e:g=q:=by injection e
  subst e
  rcases hat with hat | hat
  ·exact h.wat _ hat
  ·refine⟨Or.inr (by omega),fun j hj e2=>?_⟩
   have:=((h.fown j hj).ge _ e2).2
   omega
theorem GmX.told {w':World}{g cap:Nat}(h:GmX w3 w B1 B2 v m U n fv F i 64 wv)(ho:w'.ownsRow w3.heap.size 64 1 (.slice (some ⟨g,0,none⟩) (i+1) cap) (i+1) ((List.range i).map F++[wv]))(f:Fr (fun q=>fv.ownBlock=some q) w w') :
 FmX w3 w' B1 B2 v m U n (.slice (some ⟨g,0,none⟩) (i+1) cap) (at1 F i wv) (i+1):=by
 have hb3:=h.b3
 have hfb:∀ q,fv.ownBlock=some q→w3.heap.size≤q:=fun q e=>(World.ownsRow.lt h.far q e).1
 have ka:∀ u l,IOwn w B1 u l→IOwn w' B1 u l:=fun u l hu=>hu.fr f (fun q e e2=>own_apart h.far hu (by decide) q e e2)
 refine⟨⟨ownsRow_frL h.l.row f (fun q e e2=>?_),fun j hj=>ka _ _ (h.l.own j hj),h.l.ap,h.l.lt,h.l.vb⟩,?_,fun j hj=>?_,fun j hj q e=>?_,h.fr.then f (fun q hq e=>?_),hb3⟩
 ·have:=h.l.vb q e
  have:=hfb q e2
  omega
 ·rw[List.range_succ,List.map_append,List.map_singleton,at1_self]
  have e:(List.range i).map (at1 F i wv)=(List.range i).map F:=List.map_congr_left (fun x hx=>at1_ne _ _ (by have:=List.mem_range.1 hx;omega))
  rw[e]
  exact ho
 ·by_cases hij:j=i
  ·rw[hij,at1_self];exact ka _ _ h.wo
  ·rw[at1_ne _ _ hij];exact ka _ _ (h.fown j (by omega))
 ·by_cases hij:j=i
  ·rw[hij,at1_self] at e
   rw[hij]
   exact(h.wat q e).1
  ·rw[at1_ne _ _ hij] at e
   exact h.fat j (by omega) q e
 ·have:=hfb q e;omega
end
theorem wpList_rowI {w:World}{ops:Array Oper}{rest:List Oper}{o:Oper}{a:Act}{Q:Exit→Act→World→Prop}(hgd:o.guard=none)(s x:Operand)(ho:o.op = .call { callee:=.builtin .append,args:=#[s,x],argTypes:=#[76,76] })
 {B k H c uk uc:Nat} {ua:Option Addr} {v:Value} {us:List Value} (hs:a.eval s=v) (hx:a.eval x = .slice (some ⟨H,0,none⟩) 1 c)
 (h:w.ownsRow B 64 1 v k us) (hb:w.heap[H]?=some (.cells #[.slice ua uk uc] 64)) (hl:k≤1000000000) (hB:B≤w.heap.size)
 (K:∀ g cap w',w'.ownsRow B 64 1 (.slice (some ⟨g,0,none⟩) (k+1) cap) (k+1) (us++[.slice ua uk uc])→Fr (fun q=>v.ownBlock=some q) w w'→wpList Tryd.prog ops Q rest (a.put o.dst (.slice (some ⟨g,0,none⟩) (k+1) cap)) w') :
 wpList Tryd.prog ops Q (o::rest) a w:=by
 obtain⟨i3,hi3,hz3,hs3,hb3⟩:=info_parts (P:=Tryd.prog) (e:=64) (z:=.slice none 0 0) (size:=1) (bytes:=24) (by kernel_rfl)
 refine wpList_append_lies _ hgd s x 76 ho B 64 i3 (.slice none 0 0) 1 24 under76 hi3 hz3 hs3 hb3 rfl (by omega) v k us hs h ⟨H,0,none⟩ 1 c [.slice ua uk uc] hx rfl (World.news_of_block (cs:=#[.slice ua uk uc]) hb) (by intro y hy;rw[List.mem_singleton] at hy;rw[hy];rfl) (by omega) (by unfold maxLen;omega) (by omega) hB w.heap.size rfl ?_
 intro g cap w' hown hgrow hat _
 exact K g cap w' hown (grown_frL hgrow)
def StA (w8 wx:World)(B1 B2:Nat)(lv:Value)(m:Nat)(U:Nat→Value)(nn:Nat→Nat)(i k:Nat):Prop :=
 ∃ xs:Nat→List Int,(∀ j,j<m→(xs j).length=nn j)∧(∀ j,j<i→j<m→xs j=mrX nn j)∧(∀ t,t<k→(xs i)[t]?=some (-(i:Int)-1))∧Lm wx B1 B2 lv m U xs∧Fr (SU m U) w8 wx
section
variable {w8 wx:World} {B1 B2 m lg lc:Nat} {lv:Value} {U:Nat→Value} {nn:Nat→Nat} {i k:Nat}
theorem StA.start {xs:Nat→List Int}(h:Lm w8 B1 B2 lv m U xs)(hn:∀ j,j<m→(xs j).length=nn j):StA w8 w8 B1 B2 lv m U nn 0 0 :=
 ⟨xs,hn,fun j hj=>by omega,fun t ht=>by omega,h,Fr.refl _ _⟩
theorem StA.next (h:StA w8 wx B1 B2 lv m U nn i k)(hi:i<m)(hk:nn i≤k):StA w8 wx B1 B2 lv m U nn (i+1) 0:=by
 obtain⟨xs,h1,h2,h3,h4,h5⟩:=h
 refine⟨xs,h1,fun j hj hm=>?_,fun t ht=>by omega,h4,h5⟩
 by_cases e:j=i
 ·subst e
  exact marked (n:=0) (h1 j hm) (fun t ht=>h3 t (by omega))
 ·exact h2 j (by omega) hm
theorem StA.at (h:StA w8 wx B1 B2 (.slice (some ⟨lg,0,none⟩) m lc) m U nn i k)(hi:i<m):∃ a ca,wx.cell? ⟨lg,i,none⟩=some (.slice a (nn i) ca)∧U i = .slice a (nn i) ca∧(0<nn i→∃ g,a=some ⟨g,0,none⟩∧∀ t,t<nn i→∃ z,wx.cell? ⟨g,t,none⟩=some (vI z)):=by
 obtain⟨xs,h1,h2,h3,h4,h5⟩:=h
 obtain⟨g,c,a,ca,e,e2,e3,-⟩:=h4.at hi
 injection e with e4
 injection e4 with e4
 injection e4 with e4
 subst e4
 rw[h1 i hi] at e2 e3
 refine⟨a,ca,e2,e3,fun h0=>?_⟩
 obtain⟨g',c',e5,-,hc⟩:=iown_some (h4.own i hi) (by rw[h1 i hi];exact h0)
 rw[e3,h1 i hi] at e5
 injection e5 with e6
 exact⟨g',e6,fun t ht=>⟨_,hc t (by rw[h1 i hi];exact ht)⟩⟩
theorem StA.put {g c:Nat}(h:StA w8 wx B1 B2 lv m U nn i k)(hi:i<m)(hk:k<nn i)(e:U i = .slice (some ⟨g,0,none⟩) (nn i) c):StA w8 (wx.setCell ⟨g,k,none⟩ (vI (-(i:Int)-1))) B1 B2 lv m U nn i (k+1)∧wx.frozen? ⟨g,k,none⟩=false:=by
 obtain⟨xs,h1,h2,h3,h4,h5⟩:=h
 obtain⟨k1,k2,k3,k4,k5⟩:=h4.set (t:=k) hi (by rw[h1 i hi];exact e) (-(i:Int)-1)
 refine⟨⟨_,fun j hj=>?_,fun j hj hm=>?_,fun t ht=>?_,k1,h5.then (setCell_fr wx g k _) (fun q hq e2=>by have e2:q=g:=e2;subst e2;exact⟨i,hi,by rw[e];rfl⟩)⟩,k2⟩
 ·by_cases e1:j=i
  ·rw[e1,at1_self,List.length_set,h1 i hi]
  ·rw[at1_ne _ _ e1];exact h1 j hj
 ·rw[at1_ne _ _ (by omega)];exact h2 j hj hm
 ·rw[at1_self]
  by_cases e1:t=k
  ·rw[e1,List.getElem?_set_self (by rw[h1 i hi];exact hk)]
  ·rw[List.getElem?_set_ne (by omega)]
   exact h3 t (by omega)
theorem StA.done (h:StA w8 wx B1 B2 lv m U nn i k)(hi:m≤i)(hB:B2≤w8.heap.size):FmX wx wx B1 B2 lv m U nn (.slice none 0 0) (fun _=>undef) 0:=by
 obtain⟨xs,h1,h2,h3,h4,h5⟩:=h
 refine⟨⟨h4.row,fun j hj=>?_,h4.ap,h4.lt,h4.vb⟩,World.ownsRow_nil _ _ _ _,fun j hj=>by omega,fun j hj=>by omega,Fr.refl _ _,Nat.le_trans hB h5.size⟩
 rw[← h2 j (by omega) hj]
 exact h4.own j hj
theorem StA.fr (h:StA w8 wx B1 B2 lv m U nn i k):Fr (SU m U) w8 wx:=by
 obtain⟨xs,h1,h2,h3,h4,h5⟩:=h
 exact h5
end
section
variable {w3 w:World} {B1 B2 m lg lc:Nat} {U:Nat→Value} {n:Nat→Nat} {fv:Value} {F:Nat→Value} {i k:Nat} {wv:Value}
theorem FmX.at (h:FmX w3 w B1 B2 (.slice (some ⟨lg,0,none⟩) m lc) m U n fv F i){j:Nat}(hj:j<m):∃ a ca,w.cell? ⟨lg,j,none⟩=some (.slice a (n j) ca)∧U j = .slice a (n j) ca∧(0<n j→∃ g,a=some ⟨g,0,none⟩∧∀ t,t<n j→w.cell? ⟨g,t,none⟩=some (vI (-(j:Int)-1))):=by
 obtain⟨g,c,a,ca,e,e2,e3,-⟩:=h.l.at hj
 injection e with e4
 injection e4 with e4
 injection e4 with e4
 subst e4
 rw[mrX_len] at e2 e3
 refine⟨a,ca,e2,e3,fun h0=>?_⟩
 obtain⟨g',c',e5,-,hc⟩:=iown_some (h.l.own j hj) (by rw[mrX_len];exact h0)
 rw[e3,mrX_len] at e5
 injection e5 with e6
 refine⟨g',e6,fun t ht=>?_⟩
 rw[hc t (by rw[mrX_len];exact ht)]
 unfold mrX
 rw[List.getElem_replicate]
theorem GmX.len (h:GmX w3 w B1 B2 (.slice (some ⟨lg,0,none⟩) m lc) m U n fv F i k wv):∃ a c,wv = .slice a (n i+k) c:=by
 obtain⟨a,c,e⟩:=iown_cap h.wo
 rw[List.length_append,mrX_len,List.length_replicate] at e
 exact⟨a,c,e⟩
theorem FmX.far_at (h:FmX w3 w B1 B2 (.slice (some ⟨lg,0,none⟩) m lc) m U n fv F m){j:Nat}(hj:j<m):∃ g c gj cj,fv = .slice (some ⟨g,0,none⟩) m c∧w.cell? ⟨g,j,none⟩=some (.slice (some ⟨gj,0,none⟩) (n j+64) cj)∧(∀ t,t<n j→w.cell? ⟨gj,t,none⟩=some (vI (-(j:Int)-1)))∧∀ t,t<64→w.cell? ⟨gj,n j+t,none⟩=some (vI (-100000000-(j:Int))):=by
 obtain⟨g,c,e,hg,hc⟩:=own_cell h.far (j:=j) (u:=F j) (by rw[List.getElem?_map,List.getElem?_range hj];rfl)
 have hl:(mrX n j++List.replicate 64 (-100000000-(j:Int))).length=n j+64:=by rw[List.length_append,mrX_len,List.length_replicate]
 obtain⟨gj,cj,e2,-,hcj⟩:=iown_some (h.fown j hj) (by rw[hl];omega)
 rw[hl] at e2
 refine⟨g,c,gj,cj,e,by rw[← e2];exact hc,fun t ht=>?_,fun t ht=>?_⟩
 ·rw[hcj t (by rw[hl];omega),List.getElem_append_left (by rw[mrX_len];exact ht)]
  unfold mrX
  rw[List.getElem_replicate]
 ·rw[hcj (n j+t) (by rw[hl];omega),List.getElem_append_right (by rw[mrX_len];omega),List.getElem_replicate]
end
set_option maxRecDepth 100000
set_option maxHeartbeats 4000000
theorem wsm (n:Int)(h : -9223372036854775808≤n∧n≤9223372036854775807):IntKind.i64.wrap n=n:=by rw[IntKind.wrap_i64];omega
theorem apartInts_any {m B1 B2 la lc:Nat}{U:Nat→Value}{nn:Nat→Nat}(w8:World)(h:StA w8 w8 B1 B2 (.slice (some ⟨la,0,none⟩) m lc) m U nn 0 0)(hm0:0<m)(hmb:m≤999999999)(hnb:∀ j,j<m→nn j≤65535)(hB2:B2≤w8.heap.size)(hB1:B1≤w8.heap.size) :
 Calls Tryd.prog 49 #[.slice (some ⟨la,0,none⟩) m lc] w8 fun e w'=>e = .returned (.bool true)∧Fr (SU m U) w8 w':=by
 have HA0:Hd (StA w8 w8 B1 B2 (.slice (some ⟨la,0,none⟩) m lc) m U nn 0 0):=h
 have HNB:Hd (∀ j,j<m→nn j≤65535):=hnb
 have HBB:Hd (B2≤w8.heap.size∧B1≤w8.heap.size):=⟨hB2,hB1⟩
 clear h hnb hB2 hB1
 have qn:∀ z:Int,(z != z)=false:=fun z=>by simp
 go_enter Tryd.func49,Tryd.ntmps49
 go_wp2_with fail
 go_loopw [3] (fun v wx=>∃ i:Nat,v = .int .i64 i∧i≤m∧Hd (StA w8 wx B1 B2 (.slice (some ⟨la,0,none⟩) m lc) m U nn i 0)) (fun v _=>match v with | .int _ q=>m-q.toNat | _=>0)
 case atStart=>exact⟨0,by simp,Nat.zero_le _,HA0.out⟩
 case round =>
  clear HA0
  obtain⟨i,rfl,hi,HA⟩:=hrel
  by_cases hlt:i<m
  ·have d1:decide ((i:Int)<(m:Int))=true:=by simp;omega
   have i0:(0:Int)≤i:=by omega
   have i1:(i:Int)<m:=by omega
   have HLTI:Hd (i<m):=hlt
   have hnb:=HNB.out i hlt
   clear hlt
   go_wp2_with fail
   go_loopw [4] (fun v wx=>∃ k:Nat,v = .int .i64 k∧k≤nn i∧Hd (StA w8 wx B1 B2 (.slice (some ⟨la,0,none⟩) m lc) m U nn i k)) (fun v _=>match v with | .int _ q=>nn i-q.toNat | _=>0)
   case atStart=>exact⟨0,by simp,Nat.zero_le _,HA.out⟩
   case round =>
    clear HA
    obtain⟨k,rfl,hk,HA⟩:=hrel
    obtain⟨ua,uc,p0,eU,hg⟩:=HA.out.at HLTI.out
    by_cases hltk:k<nn i
    ·have d2:decide ((k:Int)<(nn i:Int))=true:=by simp;omega
     have k0:(0:Int)≤k:=by omega
     have k1:(k:Int)<nn i:=by omega
     obtain⟨g,rfl,hz⟩:=hg (by omega)
     obtain⟨z,p1⟩:=hz k hltk
     obtain⟨hput,p2⟩:=HA.out.put HLTI.out hltk eU
     have HPU:Hd (StA w8 (wr.setCell ⟨g,k,none⟩ (vI (-(i:Int)-1))) B1 B2 (.slice (some ⟨la,0,none⟩) m lc) m U nn i (k+1)):=hput
     have x0:IntKind.i64.wrap (-(i:Int)) = -(i:Int):=wsm _ (by omega)
     have x1:IntKind.i64.wrap (-(i:Int)-1) = -(i:Int)-1:=wsm _ (by omega)
     clear hput hz hg HA hltk eU
     go_wp2_with fail
     go_roundw
     case measure=>simp;omega
     case rel=>exact⟨k+1,by simp,by omega,HPU.out⟩
    ·have d2:decide ((k:Int)<(nn i:Int))=false:=by simp;omega
     have d2n:¬ k<nn i:=hltk
     have HA2:Hd (StA w8 wr B1 B2 (.slice (some ⟨la,0,none⟩) m lc) m U nn (i+1) 0):=HA.out.next HLTI.out (by omega)
     have hlt2:i+1≤m:=HLTI.out
     clear hltk hg HA eU
     go_wp2_with fail
     go_roundw
     case measure=>simp;omega
     case rel=>exact⟨i+1,by simp,by omega,HA2.out⟩
  ·have d1:decide ((i:Int)<(m:Int))=false:=by simp;omega
   have d1n:¬ i<m:=hlt
   have HFM:Hd (FmX wr wr B1 B2 (.slice (some ⟨la,0,none⟩) m lc) m U nn (.slice none 0 0) (fun _=>undef) 0):=HA.out.done (by omega) HBB.out.1
   have HF9:Hd (Fr (SU m U) w8 wr):=HA.out.fr
   clear hlt HA
   obtain⟨w9,hw9⟩:∃ w9,w9=wr:=⟨_,rfl⟩
   rw[← hw9] at HFM HF9
   subst hw9
   go_wp2_with fail
   go_loopw [5,6] (fun v5 v wx=>∃ (i:Nat) (F:Nat→Value),v = .int .i64 i∧i≤m∧Hd (FmX w9 wx B1 B2 (.slice (some ⟨la,0,none⟩) m lc) m U nn v5 F i)) (fun _ v _=>match v with | .int _ q=>m-q.toNat | _=>0)
   case atStart=>exact⟨0,_,by simp,Nat.zero_le _,HFM.out⟩
   case round =>
    clear HFM
    obtain⟨i,F,rfl,hi,HA⟩:=hrel
    by_cases hlt:i<m
    ·have d1:decide ((i:Int)<(m:Int))=true:=by simp;omega
     have i0:(0:Int)≤i:=by omega
     have i1:(i:Int)<m:=by omega
     have HLTI:Hd (i<m):=hlt
     have hnb:=HNB.out i hlt
     obtain⟨ua,uc,p0,eU,-⟩:=HA.out.at hlt
     have HG0:Hd (GmX w9 wr B1 B2 (.slice (some ⟨la,0,none⟩) m lc) m U nn u5 F i 0 (.slice ua (nn i) uc)):=by rw[← eU];exact HA.out.gm hlt
     clear hlt eU HA
     go_wp2_with fail
     go_loopw [7,8] (fun v7 v wx=>∃ k:Nat,v = .int .i64 k∧k≤64∧Hd (GmX w9 wx B1 B2 (.slice (some ⟨la,0,none⟩) m lc) m U nn u5 F i k v7)) (fun _ v _=>match v with | .int _ q=>64-q.toNat | _=>0)
     case atStart=>exact⟨0,by simp,by omega,HG0.out⟩
     case round =>
      clear HG0 p0
      obtain⟨k,rfl,hk,HG⟩:=hrel
      obtain⟨va,vc,ev⟩:=HG.out.len
      subst ev
      by_cases hltk:k<64
      ·have d2:decide ((k:Int)<64)=true:=by simp;omega
       have x1:IntKind.i64.wrap (-100000000-(i:Int)) = -100000000-(i:Int):=wsm _ (by omega)
       obtain⟨wz,hwz⟩:∃ wz,wz=wr.alloc (.cells #[vI (-100000000-(i:Int))] 3):=⟨_,rfl⟩
       have hFz:Fr (fun _=>False) wr wz:=by rw[hwz];exact Fr.alloc (Fr.refl _ _) _
       have HWZ:Hd (wz=wr.alloc (.cells #[vI (-100000000-(i:Int))] 3)):=hwz
       have HBZ:Hd (wz.heap[wr.heap.size]?=some (.cells #[vI (-100000000-(i:Int))] 3)):=by unfold Hd;rw[hwz];exact heap_new wr _
       have HGZ:Hd (GmX w9 wz B1 B2 (.slice (some ⟨la,0,none⟩) m lc) m U nn u5 F i k (.slice va (nn i+k) vc)):=HG.out.stay hFz
       have HBL:Hd (B1≤wz.heap.size):=by
        have h1:=HGZ.out.fr.size
        have h2:=HF9.out.size
        have h3:=HBB.out.2
        unfold Hd
        omega
       have hk2:k+1≤64:=hltk
       clear hFz hwz HG hltk
       go_wp2_with ((at_builtin;refine Hd.out ?_))
       unfold Hd
       rw[← HWZ.out]
       refine wpList_int rfl (.tmp 49) (.tmp 52) rfl rfl rfl HGZ.out.wo (k:=nn i+k) (by rw[List.length_append,mrX_len,List.length_replicate]) HBZ.out (by omega) HBL.out ?_
       intro g6 cap6 w6 hown6 hfr6 hat6 hkp6
       have HG6:Hd (GmX w9 w6 B1 B2 (.slice (some ⟨la,0,none⟩) m lc) m U nn u5 F i (k+1) (.slice (some ⟨g6,0,none⟩) (nn i+k+1) cap6)):=HGZ.out.more HLTI.out hown6 hfr6 hat6 hkp6
       clear hown6 hfr6 hat6 hkp6 HGZ HBZ HWZ HBL
       go_wp2_with fail
       go_roundw
       case measure=>simp;omega
       case rel=>exact⟨k+1,by simp,by omega,HG6.out⟩
      ·have d2:decide ((k:Int)<64)=false:=by simp;omega
       have hk64:k=64:=by omega
       subst hk64
       obtain⟨fa,fc,efv⟩:=own_slice HG.out.far
       subst efv
       obtain⟨wz,hwz⟩:∃ wz,wz=wr.alloc (.cells #[.slice va (nn i+64) vc] 64):=⟨_,rfl⟩
       have hFz:Fr (fun _=>False) wr wz:=by rw[hwz];exact Fr.alloc (Fr.refl _ _) _
       have HWZ:Hd (wz=wr.alloc (.cells #[.slice va (nn i+64) vc] 64)):=hwz
       have HBZ:Hd (wz.heap[wr.heap.size]?=some (.cells #[.slice va (nn i+64) vc] 64)):=by unfold Hd;rw[hwz];exact heap_new wr _
       have HGZ:Hd (GmX w9 wz B1 B2 (.slice (some ⟨la,0,none⟩) m lc) m U nn (.slice fa i fc) F i 64 (.slice va (nn i+64) vc)):=HG.out.stay hFz
       have hlt2:i+1≤m:=HLTI.out
       clear hFz hwz HG hltk
       go_wp2_with ((at_builtin;refine Hd.out ?_))
       unfold Hd
       rw[← HWZ.out]
       refine wpList_rowI rfl (.tmp 54) (.tmp 56) rfl rfl rfl HGZ.out.far HBZ.out (by omega) HGZ.out.fr.size ?_
       intro g6 cap6 w6 hown6 hfr6
       have HF6:Hd (FmX w9 w6 B1 B2 (.slice (some ⟨la,0,none⟩) m lc) m U nn (.slice (some ⟨g6,0,none⟩) (i+1) cap6) (at1 F i (.slice va (nn i+64) vc)) (i+1)):=HGZ.out.told hown6 hfr6
       clear hown6 hfr6 HGZ HBZ HWZ
       go_wp2_with fail
       go_roundw
       case measure=>simp;omega
       case rel=>exact⟨i+1,_,by simp,by omega,HF6.out⟩
    ·have d1:decide ((i:Int)<(m:Int))=false:=by simp;omega
     have d1n:¬ i<m:=hlt
     have him:i=m:=by omega
     subst him
     have HFX:Hd (Fr (SU i U) w8 wr):=HF9.out.trans HA.out.fr
     have HAt:Hd (∀ j,j<i→∃ a ca,wr.cell? ⟨la,j,none⟩=some (.slice a (nn j) ca)∧(0<nn j→∃ g,a=some ⟨g,0,none⟩∧∀ t,t<nn j→wr.cell? ⟨g,t,none⟩=some (vI (-(j:Int)-1)))):=fun j hj=>by
      obtain⟨a,ca,h1,h2,h3⟩:=HA.out.at hj
      exact⟨a,ca,h1,h3⟩
     obtain⟨fg,fc,fgj,fcj,efv,-⟩:=HA.out.far_at hm0
     subst efv
     have HFt:Hd (∀ j,j<i→∃ gj cj,wr.cell? ⟨fg,j,none⟩=some (.slice (some ⟨gj,0,none⟩) (nn j+64) cj)∧(∀ t,t<nn j→wr.cell? ⟨gj,t,none⟩=some (vI (-(j:Int)-1)))∧∀ t,t<64→wr.cell? ⟨gj,nn j+t,none⟩=some (vI (-100000000-(j:Int)))):=fun j hj=>by
      obtain⟨g,c,gj,cj,e,h1,h2,h3⟩:=HA.out.far_at hj
      injection e with e1
      injection e1 with e1
      injection e1 with e1
      subst e1
      exact⟨gj,cj,h1,h2,h3⟩
     clear hlt HA HF9 HBB
     obtain⟨wC,hwC⟩:∃ wC,wC=wr:=⟨_,rfl⟩
     rw[← hwC] at HFX HAt HFt
     subst hwC
     generalize hmi:i=m at *
     have HMI:Hd (_=m):=hmi
     clear hmi
     go_wp2_with fail
     go_loopw [9] (fun v wx=>∃ i:Nat,v = .int .i64 i∧i≤m∧Hd (wx=wC)) (fun v _=>match v with | .int _ q=>m-q.toNat | _=>0)
     case atStart=>exact⟨0,by simp,Nat.zero_le _,by first | exact rfl | trivial⟩
     case round =>
      obtain⟨i,rfl,hi,HW⟩:=hrel
      have hw:=HW.out
      subst hw
      by_cases hlt:i<m
      ·have d1:decide ((i:Int)<(m:Int))=true:=by simp;omega
       have i0:(0:Int)≤i:=by omega
       have i1:(i:Int)<m:=by omega
       have hnb:=HNB.out i hlt
       obtain⟨ua,uc,p0,hg⟩:=HAt.out i hlt
       obtain⟨gj,cj,q0,hq1,hq2⟩:=HFt.out i hlt
       have HG:Hd (0<nn i→∃ g,ua=some ⟨g,0,none⟩∧∀ t,t<nn i→wr.cell? ⟨g,t,none⟩=some (vI (-(i:Int)-1))):=hg
       have HQ1:Hd (∀ t,t<nn i→wr.cell? ⟨gj,t,none⟩=some (vI (-(i:Int)-1))):=hq1
       have HQ2:Hd (∀ t,t<64→wr.cell? ⟨gj,nn i+t,none⟩=some (vI (-100000000-(i:Int)))):=hq2
       have x0:IntKind.i64.wrap (-(i:Int)) = -(i:Int):=wsm _ (by omega)
       have x1:IntKind.i64.wrap (-(i:Int)-1) = -(i:Int)-1:=wsm _ (by omega)
       have x2:IntKind.i64.wrap (-100000000-(i:Int)) = -100000000-(i:Int):=wsm _ (by omega)
       have HLTI:Hd (i+1≤m):=hlt
       clear hg hq1 hq2 hlt
       go_wp2_with fail
       go_loopw [10] (fun v wx=>∃ k:Nat,v = .int .i64 k∧k≤nn i+64∧Hd (wx=wr)) (fun v _=>match v with | .int _ q=>nn i+64-q.toNat | _=>0)
       case atStart=>exact⟨0,by simp,Nat.zero_le _,by first | exact rfl | trivial⟩
       case round =>
        obtain⟨k,rfl,hk,HW2⟩:=hrel
        have hw:=HW2.out
        subst hw
        by_cases hltk:k<nn i+64
        ·have k0:(0:Int)≤k:=by omega
         have k2:(k:Int)<((nn i+64:Nat):Int):=by omega
         have k3:(k:Int)<(nn i:Int)+64:=by omega
         have d2:decide ((k:Int)<((nn i+64:Nat):Int))=true:=by simpa using k2
         have d2':decide ((k:Int)<(nn i:Int)+64)=true:=by simpa using k3
         by_cases hin:k<nn i
         ·have k1:(k:Int)<nn i:=by omega
          have d3:decide ((k:Int)<(nn i:Int))=true:=by simpa using k1
          have d4:decide ((k:Int)≥(nn i:Int))=false:=by simp;omega
          have d5:decide ((nn i:Int)≤(k:Int))=false:=by simp;omega
          obtain⟨g,rfl,hz⟩:=HG.out (by omega)
          have p1:=hz k hin
          have q1:=HQ1.out k hin
          clear hz
          go_wp2_with fail
          go_roundw
          case measure=>simp;omega
          case rel=>exact⟨k+1,by simp,by omega,by first | exact rfl | trivial⟩
         ·have k1:¬ (k:Int)<nn i:=by omega
          have d3:decide ((k:Int)<(nn i:Int))=false:=by simp;omega
          have d4:decide ((k:Int)≥(nn i:Int))=true:=by simp;omega
          have d5:decide ((nn i:Int)≤(k:Int))=true:=by simp;omega
          have q1:=HQ2.out (k-nn i) (by omega)
          rw[show nn i+(k-nn i)=k by omega] at q1
          go_wp2_with fail
          go_roundw
          case measure=>simp;omega
          case rel=>exact⟨k+1,by simp,by omega,by first | exact rfl | trivial⟩
        ·have d2:decide ((k:Int)<((nn i+64:Nat):Int))=false:=by simp;omega
         have d2':decide ((k:Int)<(nn i:Int)+64)=false:=by simp;omega
         have d2n:¬ k<nn i+64:=hltk
         have hlt2:=HLTI.out
         clear hltk
         go_wp2_with fail
         go_roundw
         case measure=>simp;omega
         case rel=>exact⟨i+1,by simp,by omega,by first | exact rfl | trivial⟩
      ·have d1:decide ((i:Int)<(m:Int))=false:=by simp;omega
       have d1n:¬ i<m:=hlt
       clear hlt HAt HFt
       go_wp2_with fail
       go_ret
       exact⟨rfl,by rw[HMI.out];exact HFX.out⟩
theorem under77 : Tryd.prog.underlying 77=some (.slice 65):=by kernel_rfl
def mI (z:Int):CI:=(⟨0,0,0,0,z,[],[]⟩,.slice none 0 0,.slice none 0 0)
def sq7 (w:World)(g o:Nat)(x:CI):World:=((((((w.setCell ⟨g,o,none⟩ (vI x.1.op)).setCell ⟨g,o+1,none⟩ (vI x.1.r)).setCell ⟨g,o+2,none⟩ (vI x.1.s)).setCell ⟨g,o+3,none⟩ (vI x.1.t)).setCell ⟨g,o+4,none⟩ (vI x.1.n)).setCell ⟨g,o+5,none⟩ x.2.1).setCell ⟨g,o+6,none⟩ x.2.2
theorem sq7_fr (w:World)(g o:Nat)(x:CI):Fr (fun k=>k=g) w (sq7 w g o x) :=
 (((((((setCell_fr w g o _).trans (setCell_fr _ g _ _)).trans (setCell_fr _ g _ _)).trans (setCell_fr _ g _ _)).trans (setCell_fr _ g _ _)).trans (setCell_fr _ g _ _)).trans (setCell_fr _ g _ _))
def Has7 (w:World)(g o:Nat)(x:CI):Prop:=w.cell? ⟨g,o,none⟩=some (vI x.1.op)∧w.cell? ⟨g,o+1,none⟩=some (vI x.1.r)∧w.cell? ⟨g,o+2,none⟩=some (vI x.1.s)∧w.cell? ⟨g,o+3,none⟩=some (vI x.1.t)∧w.cell? ⟨g,o+4,none⟩=some (vI x.1.n)∧w.cell? ⟨g,o+5,none⟩=some x.2.1∧w.cell? ⟨g,o+6,none⟩=some x.2.2
def COw (w:World)(B:Nat)(v:Value)(L:List CI):Prop:=w.ownsRow B 71 7 v L.length (L.flatMap rowI)
theorem COw.fr {S:Nat→Prop}{w w':World}{B:Nat}{v:Value}{l:List CI}(h:COw w B v l)(f:Fr S w w')(hS:∀ k,v.ownBlock=some k→¬ S k):COw w' B v l:=ownsRow_frL h f hS
theorem COw.ge {w:World}{B:Nat}{v:Value}{l:List CI}(h:COw w B v l):∀ k,v.ownBlock=some k→B≤k∧k<w.heap.size:=World.ownsRow.lt h
theorem cown_cap {w:World}{B:Nat}{v:Value}{l:List CI}(h:COw w B v l):∃ a c,v = .slice a l.length c:=own_slice h
theorem cown_some {w:World}{B:Nat}{v:Value}{l:List CI}(h:COw w B v l)(hl:0<l.length):∃ g c,v = .slice (some ⟨g,0,none⟩) l.length c∧l.length≤c∧∀ i (hi:i<l.length),Has7 w g (i*7) l[i]:=by
 rcases h.2 with⟨-,e⟩|⟨g,cap,cur,e,-,-,h3,-⟩
 ·omega
 ·refine⟨g,cap,e,h3,fun i hi=>?_⟩
  have pc:∀ o u,o<7→(rowI l[i])[o]?=some u→w.cell? ⟨g,i*7+o,none⟩=some u:=fun o u ho hu=>by
   obtain⟨g',cap',e',-,hc⟩:=own_cell h (j:=i*7+o) (u:=u) (by rw[flat_get rowI 7 (fun _=>rfl) l i o hi ho];exact hu)
   rw[e] at e'
   cases e'
   exact hc
  exact⟨pc 0 _ (by omega) rfl,pc 1 _ (by omega) rfl,pc 2 _ (by omega) rfl,pc 3 _ (by omega) rfl,pc 4 _ (by omega) rfl,pc 5 _ (by omega) rfl,pc 6 _ (by omega) rfl⟩
theorem flat_set7 : ∀ (L:List CI) (t:Nat) (_:t<L.length) (x:CI),((((((((L.flatMap rowI).set (t*7) (vI x.1.op)).set (t*7+1) (vI x.1.r)).set (t*7+2) (vI x.1.s)).set (t*7+3) (vI x.1.t)).set (t*7+4) (vI x.1.n)).set (t*7+5) x.2.1).set (t*7+6) x.2.2)=(L.set t x).flatMap rowI
 | [],t,h,_=>by simp at h
 | y::L,0,_,x=>by simp[rowI,iR]
 | y::L,t+1,h,x=>by
   have ih:=flat_set7 L t (by simpa using h) x
   have sh:∀ (M:List Value) (o:Nat) (u:Value),(rowI y++M).set ((t+1)*7+o) u=rowI y++M.set (t*7+o) u:=fun M o u=>by
    rw[List.set_append_right _ _ (by simp[rowI,iR];omega)]
    congr 2
    simp[rowI,iR]
    omega
   have sh0:∀ (M:List Value) (u:Value),(rowI y++M).set ((t+1)*7) u=rowI y++M.set (t*7) u:=fun M u=>sh M 0 u
   rw[List.flatMap_cons,List.set_cons_succ,List.flatMap_cons,← ih,sh0,sh,sh,sh,sh,sh,sh]
theorem crow_set {w:World}{B g cap t:Nat}{L:List CI}(h:COw w B (.slice (some ⟨g,0,none⟩) L.length cap) L)(ht:t<L.length)(x:CI):COw (sq7 w g (t*7) x) B (.slice (some ⟨g,0,none⟩) L.length cap) (L.set t x)∧∀ o,w.frozen? ⟨g,o,none⟩=false:=by
 refine⟨?_,fun o=>(row_setI (j:=o) h (vI 0)).2⟩
 unfold COw at h ⊢
 rw[List.length_set,← flat_set7 L t ht x]
 exact(row_setI (row_setI (row_setI (row_setI (row_setI (row_setI (row_setI h _).1 _).1 _).1 _).1 _).1 _).1 _).1
def KpC (w w':World)(v:Value)(n:Nat):Prop:=∀ (B k cap0 g0:Nat) (ys:List Value),w.ownsRow B 71 7 (.slice (some ⟨g0,0,none⟩) k cap0) k ys→(v.ownBlock=some g0→k≤n)→w'.ownsRow B 71 7 (.slice (some ⟨g0,0,none⟩) k cap0) k ys
theorem COw.kept {w w':World}{B n:Nat}{v v0:Value}{l:List CI}(h:COw w B v0 l)(k:KpC w w' v n)(hn:∀ q,v.ownBlock=some q→v0.ownBlock=some q→l.length≤n):COw w' B v0 l:=by
 rcases h.2 with⟨e1,e2⟩|⟨g,cap,cur,e,-⟩
 ·exact⟨h.1,Or.inl ⟨e1,e2⟩⟩
 ·subst e
  exact k _ _ _ _ _ h (fun e=>hn g e rfl)
theorem wpList_instr {w:World}{ops:Array Oper}{rest:List Oper}{o:Oper}{a:Act}{Q:Exit→Act→World→Prop}(hgd:o.guard=none)(s x:Operand)(ho:o.op = .call { callee:=.builtin .append,args:=#[s,x],argTypes:=#[65,65] })
 {B k H c:Nat} {v:Value} {l:List CI} {z:Int} (hs:a.eval s=v) (hx:a.eval x = .slice (some ⟨H,0,none⟩) 1 c)
 (h:COw w B v l) (hk:l.length=k) (hb:w.heap[H]?=some (.cells #[vI 0,vI 0,vI 0,vI 0,vI z,.slice none 0 0,.slice none 0 0] 71)) (hl:k≤1000000000) (hB:B≤w.heap.size)
 (K:∀ g cap w',COw w' B (.slice (some ⟨g,0,none⟩) (k+1) cap) (l++[mI z])→Fr (fun q=>v.ownBlock=some q) w w'→(v.ownBlock=some g∨g=w.heap.size)→KpC w w' v k→wpList Tryd.prog ops Q rest (a.put o.dst (.slice (some ⟨g,0,none⟩) (k+1) cap)) w') :
 wpList Tryd.prog ops Q (o::rest) a w:=by
 subst hk
 obtain⟨i3,hi3,hz3,hs3,hb3⟩:=info_parts (P:=Tryd.prog) (e:=71) (z:=.agg #[vI 0,vI 0,vI 0,vI 0,vI 0,.slice none 0 0,.slice none 0 0]) (size:=7) (bytes:=88) (by kernel_rfl)
 refine wpList_append_keeps hgd s x 65 ho B 71 i3 (.agg #[vI 0,vI 0,vI 0,vI 0,vI 0,.slice none 0 0,.slice none 0 0]) 7 88 under65 hi3 hz3 hs3 hb3 (by kernel_rfl) (by omega) v l.length (l.flatMap rowI) hs h ⟨H,0,none⟩ 1 c [vI 0,vI 0,vI 0,vI 0,vI z,.slice none 0 0,.slice none 0 0] hx rfl (World.news_of_block (cs:=#[vI 0,vI 0,vI 0,vI 0,vI z,.slice none 0 0,.slice none 0 0]) hb) (by intro y hy;simp only[List.mem_cons,List.not_mem_nil,or_false] at hy;rcases hy with rfl | rfl | rfl | rfl | rfl | rfl | rfl<;>rfl) (by omega) (by unfold maxLen;omega) (by omega) hB w.heap.size rfl ?_
 intro g cap w' hown hgrow hat _ hkp
 exact K g cap w' (by unfold COw;rw[List.length_append,List.flatMap_append];exact hown) (grown_frL hgrow) hat hkp
structure LmC (w:World)(B1 B2:Nat)(v:Value)(m:Nat)(U:Nat→Value)(xs:Nat→List CI):Prop where
 row:w.ownsRow B1 65 1 v m ((List.range m).map U)
 own:∀ j,j<m→COw w B1 (U j) (xs j)
 ap:∀ i j,i<m→j<m→i≠j→∀ q,(U i).ownBlock=some q→(U j).ownBlock≠some q
 lt:∀ j,j<m→∀ q,(U j).ownBlock=some q→q<B2
 vb:∀ q,v.ownBlock=some q→q<B2
section
variable {w:World} {B1 B2 m:Nat} {v:Value} {U:Nat→Value} {xs:Nat→List CI}
theorem LmC.stay {w':World}(h:LmC w B1 B2 v m U xs)(f:Fr (fun _=>False) w w'):LmC w' B1 B2 v m U xs :=
 ⟨ownsRow_frL h.row f (fun _ _ e=>e),fun j hj=>(h.own j hj).fr f (fun _ _ e=>e),h.ap,h.lt,h.vb⟩
theorem LmC.at (h:LmC w B1 B2 v m U xs){i:Nat}(hi:i<m):∃ g c a ca,v = .slice (some ⟨g,0,none⟩) m c∧w.cell? ⟨g,i,none⟩=some (.slice a (xs i).length ca)∧U i = .slice a (xs i).length ca∧g<w.heap.size:=by
 obtain⟨g,c,e,hg,hc⟩:=own_cell h.row (j:=i) (u:=U i) (by rw[List.getElem?_map,List.getElem?_range hi];rfl)
 obtain⟨a,ca,e2⟩:=cown_cap (h.own i hi)
 exact⟨g,c,a,ca,e,by rw[← e2];exact hc,e2,hg⟩
theorem LmC.set {i t g c:Nat}(h:LmC w B1 B2 v m U xs)(hi:i<m)(ht:t<(xs i).length)(e:U i = .slice (some ⟨g,0,none⟩) (xs i).length c)(x:CI):LmC (sq7 w g (t*7) x) B1 B2 v m U (at1 xs i ((xs i).set t x))∧(∀ o,w.frozen? ⟨g,o,none⟩=false)∧B1≤g∧g<B2∧g<w.heap.size:=by
 have f:=sq7_fr w g (t*7) x
 have ho:=h.own i hi
 have eb:(U i).ownBlock=some g:=by rw[e];rfl
 have hk:COw w B1 (.slice (some ⟨g,0,none⟩) (xs i).length c) (xs i):=by rw[← e];exact ho
 have hs:=crow_set hk ht x
 refine⟨⟨ownsRow_frL h.row f (fun q e1 e2=>?_),fun j hj=>?_,h.ap,h.lt,h.vb⟩,hs.2,(ho.ge g eb).1,h.lt i hi g eb,(ho.ge g eb).2⟩
 ·have e2:q=g:=e2
  subst e2
  exact own_apart h.row ho (by decide) q eb e1
 ·by_cases hij:j=i
  ·subst hij
   rw[at1_self,e]
   exact hs.1
  ·rw[at1_ne _ _ hij]
   exact(h.own j hj).fr f (fun q e1 e2=>by
    have e2:q=g:=e2
    subst e2
    exact h.ap j i hj hi hij q e1 eb)
end
def mrC (n:Nat→Nat)(j:Nat):List CI:=List.replicate (n j) (mI (-(j:Int)-1))
theorem mrC_len (n:Nat→Nat)(j:Nat):(mrC n j).length=n j:=by unfold mrC;simp
theorem markedC {xs:List CI}{n j:Nat}{f:Nat→Nat}(hl:xs.length=f j)(h:∀ t,t<f j→xs[t]?=some (mI (-(j:Int)-1))):xs=mrC f j:=by
 apply List.ext_getElem?
 intro t
 unfold mrC
 by_cases ht:t<f j
 ·rw[h t ht,List.getElem?_replicate,if_pos ht]
 ·rw[List.getElem?_eq_none (by omega),List.getElem?_eq_none (by simp;omega)]
structure FmC (w3 w:World)(B1 B2:Nat)(v:Value)(m:Nat)(U:Nat→Value)(n:Nat→Nat)(fv:Value)(F:Nat→Value)(i:Nat):Prop where
 l:LmC w B1 B2 v m U (mrC n)
 far:w.ownsRow w3.heap.size 65 1 fv i ((List.range i).map F)
 fown:∀ j,j<i→COw w B1 (F j) (mrC n j++List.replicate 64 (mI (-100000000-(j:Int))))
 fat:∀ j,j<i→∀ q,(F j).ownBlock=some q→(U j).ownBlock=some q∨w3.heap.size≤q
 fr:Fr (SU m U) w3 w
 b3:B2≤w3.heap.size
structure GmC (w3 w:World)(B1 B2:Nat)(v:Value)(m:Nat)(U:Nat→Value)(n:Nat→Nat)(fv:Value)(F:Nat→Value)(i k:Nat)(wv:Value):Prop extends FmC w3 w B1 B2 v m U n fv F i where
 wo:COw w B1 wv (mrC n i++List.replicate k (mI (-100000000-(i:Int))))
 wat:∀ q,wv.ownBlock=some q→((U i).ownBlock=some q∨w3.heap.size≤q)∧∀ j,j<i→(F j).ownBlock≠some q
section
variable {w3 w:World} {B1 B2 m:Nat} {v:Value} {U:Nat→Value} {n:Nat→Nat} {fv:Value} {F:Nat→Value} {i k:Nat} {wv:Value}
theorem FmC.stay {w':World}(h:FmC w3 w B1 B2 v m U n fv F i)(f:Fr (fun _=>False) w w'):FmC w3 w' B1 B2 v m U n fv F i :=
 ⟨h.l.stay f,ownsRow_frL h.far f (fun _ _ e=>e),fun j hj=>(h.fown j hj).fr f (fun _ _ e=>e),h.fat,h.fr.then f (fun _ _ e=>e.elim),h.b3⟩
theorem GmC.stay {w':World}(h:GmC w3 w B1 B2 v m U n fv F i k wv)(f:Fr (fun _=>False) w w'):GmC w3 w' B1 B2 v m U n fv F i k wv :=
 ⟨h.toFmC.stay f,h.wo.fr f (fun _ _ e=>e),h.wat⟩
theorem FmC.gm (h:FmC w3 w B1 B2 v m U n fv F i)(hi:i<m):GmC w3 w B1 B2 v m U n fv F i 0 (U i):=by
 refine⟨h,by rw[List.replicate_zero,List.append_nil];exact h.l.own i hi,fun q e=>⟨Or.inl e,fun j hj e2=>?_⟩⟩
 have h1:=h.l.lt i hi q e
 have h3:=h.b3
 rcases h.fat j hj q e2 with e3 | e3
 ·exact h.l.ap j i (by omega) hi (by omega) q e3 e
 ·omega
theorem GmC.more {w':World}{g cap:Nat}(h:GmC w3 w B1 B2 v m U n fv F i k wv)(hi:i<m)(ho:COw w' B1 (.slice (some ⟨g,0,none⟩) (n i+k+1) cap) (mrC n i++List.replicate k (mI (-100000000-(i:Int)))++[mI (-100000000-(i:Int))]))(f:Fr (fun q=>wv.ownBlock=some q) w w')(hat:wv.ownBlock=some g∨g=w.heap.size)(hk:KpC w w' wv (n i+k)) :
 GmC w3 w' B1 B2 v m U n fv F i (k+1) (.slice (some ⟨g,0,none⟩) (n i+k+1) cap):=by
 have hb3:=h.b3
 have hsz:=h.fr.size
 have hub:∀ j,j<m→j≠i→∀ q,(U j).ownBlock=some q→wv.ownBlock≠some q:=fun j hj hne q e e2=>by
  have h1:=h.l.lt j hj q e
  rcases(h.wat q e2).1 with e3 | e3
  ·exact h.l.ap j i hj hi hne q e e3
  ·omega
 refine⟨⟨⟨ownsRow_frL h.l.row f (fun q e e2=>own_apart h.l.row h.wo (by decide) q e2 e),fun j hj=>?_,h.l.ap,h.l.lt,h.l.vb⟩,ownsRow_frL h.far f (fun q e e2=>own_apart h.far h.wo (by decide) q e2 e),fun j hj=>(h.fown j hj).fr f (fun q e e2=>(h.wat q e2).2 j hj e),h.fat,h.fr.then f (fun q hq e=>?_),hb3⟩,?_,fun q e=>?_⟩
 ·refine(h.l.own j hj).kept hk (fun q e e2=>?_)
  by_cases hij:j=i
  ·rw[hij,mrC_len];omega
  ·exact absurd e (hub j hj hij q e2)
 ·rcases(h.wat q e).1 with e3 | e3
  ·exact⟨i,hi,e3⟩
  ·omega
 ·rw[List.replicate_succ',← List.append_assoc];exact ho
 ·have e:g=q:=by injection e
  subst e
  rcases hat with hat | hat
  ·exact h.wat _ hat
  ·refine⟨Or.inr (by omega),fun j hj e2=>?_⟩
   have:=((h.fown j hj).ge _ e2).2
   omega
theorem GmC.told {w':World}{g cap:Nat}(h:GmC w3 w B1 B2 v m U n fv F i 64 wv)(ho:w'.ownsRow w3.heap.size 65 1 (.slice (some ⟨g,0,none⟩) (i+1) cap) (i+1) ((List.range i).map F++[wv]))(f:Fr (fun q=>fv.ownBlock=some q) w w') :
 FmC w3 w' B1 B2 v m U n (.slice (some ⟨g,0,none⟩) (i+1) cap) (at1 F i wv) (i+1):=by
 have hb3:=h.b3
 have hfb:∀ q,fv.ownBlock=some q→w3.heap.size≤q:=fun q e=>(World.ownsRow.lt h.far q e).1
 have ka:∀ u l,COw w B1 u l→COw w' B1 u l:=fun u l hu=>hu.fr f (fun q e e2=>own_apart h.far hu (by decide) q e e2)
 refine⟨⟨ownsRow_frL h.l.row f (fun q e e2=>?_),fun j hj=>ka _ _ (h.l.own j hj),h.l.ap,h.l.lt,h.l.vb⟩,?_,fun j hj=>?_,fun j hj q e=>?_,h.fr.then f (fun q hq e=>?_),hb3⟩
 ·have:=h.l.vb q e
  have:=hfb q e2
  omega
 ·rw[List.range_succ,List.map_append,List.map_singleton,at1_self]
  have e:(List.range i).map (at1 F i wv)=(List.range i).map F:=List.map_congr_left (fun x hx=>at1_ne _ _ (by have:=List.mem_range.1 hx;omega))
  rw[e]
  exact ho
 ·by_cases hij:j=i
  ·rw[hij,at1_self];exact ka _ _ h.wo
  ·rw[at1_ne _ _ hij];exact ka _ _ (h.fown j (by omega))
 ·by_cases hij:j=i
  ·rw[hij,at1_self] at e
   rw[hij]
   exact(h.wat q e).1
  ·rw[at1_ne _ _ hij] at e
   exact h.fat j (by omega) q e
 ·have:=hfb q e;omega
end
theorem wpList_rowC {w:World}{ops:Array Oper}{rest:List Oper}{o:Oper}{a:Act}{Q:Exit→Act→World→Prop}(hgd:o.guard=none)(s x:Operand)(ho:o.op = .call { callee:=.builtin .append,args:=#[s,x],argTypes:=#[77,77] })
 {B k H c uk uc:Nat} {ua:Option Addr} {v:Value} {us:List Value} (hs:a.eval s=v) (hx:a.eval x = .slice (some ⟨H,0,none⟩) 1 c)
 (h:w.ownsRow B 65 1 v k us) (hb:w.heap[H]?=some (.cells #[.slice ua uk uc] 65)) (hl:k≤1000000000) (hB:B≤w.heap.size)
 (K:∀ g cap w',w'.ownsRow B 65 1 (.slice (some ⟨g,0,none⟩) (k+1) cap) (k+1) (us++[.slice ua uk uc])→Fr (fun q=>v.ownBlock=some q) w w'→wpList Tryd.prog ops Q rest (a.put o.dst (.slice (some ⟨g,0,none⟩) (k+1) cap)) w') :
 wpList Tryd.prog ops Q (o::rest) a w:=by
 obtain⟨i3,hi3,hz3,hs3,hb3⟩:=info_parts (P:=Tryd.prog) (e:=65) (z:=.slice none 0 0) (size:=1) (bytes:=24) (by kernel_rfl)
 refine wpList_append_lies _ hgd s x 77 ho B 65 i3 (.slice none 0 0) 1 24 under77 hi3 hz3 hs3 hb3 rfl (by omega) v k us hs h ⟨H,0,none⟩ 1 c [.slice ua uk uc] hx rfl (World.news_of_block (cs:=#[.slice ua uk uc]) hb) (by intro y hy;rw[List.mem_singleton] at hy;rw[hy];rfl) (by omega) (by unfold maxLen;omega) (by omega) hB w.heap.size rfl ?_
 intro g cap w' hown hgrow hat _
 exact K g cap w' hown (grown_frL hgrow)
def StC (w8 wx:World)(B1 B2:Nat)(lv:Value)(m:Nat)(U:Nat→Value)(nn:Nat→Nat)(i k:Nat):Prop :=
 ∃ xs:Nat→List CI,(∀ j,j<m→(xs j).length=nn j)∧(∀ j,j<i→j<m→xs j=mrC nn j)∧(∀ t,t<k→(xs i)[t]?=some (mI (-(i:Int)-1)))∧LmC wx B1 B2 lv m U xs∧Fr (SU m U) w8 wx
section
variable {w8 wx:World} {B1 B2 m lg lc:Nat} {lv:Value} {U:Nat→Value} {nn:Nat→Nat} {i k:Nat}
theorem StC.start {xs:Nat→List CI}(h:LmC w8 B1 B2 lv m U xs)(hn:∀ j,j<m→(xs j).length=nn j):StC w8 w8 B1 B2 lv m U nn 0 0 :=
 ⟨xs,hn,fun j hj=>by omega,fun t ht=>by omega,h,Fr.refl _ _⟩
theorem StC.next (h:StC w8 wx B1 B2 lv m U nn i k)(hi:i<m)(hk:nn i≤k):StC w8 wx B1 B2 lv m U nn (i+1) 0:=by
 obtain⟨xs,h1,h2,h3,h4,h5⟩:=h
 refine⟨xs,h1,fun j hj hm=>?_,fun t ht=>by omega,h4,h5⟩
 by_cases e:j=i
 ·subst e
  exact markedC (n:=0) (h1 j hm) (fun t ht=>h3 t (by omega))
 ·exact h2 j (by omega) hm
theorem StC.at (h:StC w8 wx B1 B2 (.slice (some ⟨lg,0,none⟩) m lc) m U nn i k)(hi:i<m):∃ a ca,wx.cell? ⟨lg,i,none⟩=some (.slice a (nn i) ca)∧U i = .slice a (nn i) ca∧(0<nn i→∃ g,a=some ⟨g,0,none⟩∧∀ t,t<nn i→∃ y,Has7 wx g (t*7) y):=by
 obtain⟨xs,h1,h2,h3,h4,h5⟩:=h
 obtain⟨g,c,a,ca,e,e2,e3,-⟩:=h4.at hi
 injection e with e4
 injection e4 with e4
 injection e4 with e4
 subst e4
 rw[h1 i hi] at e2 e3
 refine⟨a,ca,e2,e3,fun h0=>?_⟩
 obtain⟨g',c',e5,-,hc⟩:=cown_some (h4.own i hi) (by rw[h1 i hi];exact h0)
 rw[e3,h1 i hi] at e5
 injection e5 with e6
 exact⟨g',e6,fun t ht=>⟨_,hc t (by rw[h1 i hi];exact ht)⟩⟩
theorem StC.put {g c:Nat}(h:StC w8 wx B1 B2 lv m U nn i k)(hi:i<m)(hk:k<nn i)(e:U i = .slice (some ⟨g,0,none⟩) (nn i) c):StC w8 (sq7 wx g (k*7) (mI (-(i:Int)-1))) B1 B2 lv m U nn i (k+1)∧∀ o,wx.frozen? ⟨g,o,none⟩=false:=by
 obtain⟨xs,h1,h2,h3,h4,h5⟩:=h
 obtain⟨k1,k2,k3,k4,k5⟩:=h4.set (t:=k) hi (by rw[h1 i hi];exact hk) (by rw[h1 i hi];exact e) (mI (-(i:Int)-1))
 refine⟨⟨_,fun j hj=>?_,fun j hj hm=>?_,fun t ht=>?_,k1,h5.then (sq7_fr wx g (k*7) _) (fun q hq e2=>by have e2:q=g:=e2;subst e2;exact⟨i,hi,by rw[e];rfl⟩)⟩,k2⟩
 ·by_cases e1:j=i
  ·rw[e1,at1_self,List.length_set,h1 i hi]
  ·rw[at1_ne _ _ e1];exact h1 j hj
 ·rw[at1_ne _ _ (by omega)];exact h2 j hj hm
 ·rw[at1_self]
  by_cases e1:t=k
  ·rw[e1,List.getElem?_set_self (by rw[h1 i hi];exact hk)]
  ·rw[List.getElem?_set_ne (by omega)]
   exact h3 t (by omega)
theorem StC.done (h:StC w8 wx B1 B2 lv m U nn i k)(hi:m≤i)(hB:B2≤w8.heap.size):FmC wx wx B1 B2 lv m U nn (.slice none 0 0) (fun _=>undef) 0:=by
 obtain⟨xs,h1,h2,h3,h4,h5⟩:=h
 refine⟨⟨h4.row,fun j hj=>?_,h4.ap,h4.lt,h4.vb⟩,World.ownsRow_nil _ _ _ _,fun j hj=>by omega,fun j hj=>by omega,Fr.refl _ _,Nat.le_trans hB h5.size⟩
 rw[← h2 j (by omega) hj]
 exact h4.own j hj
theorem StC.fr (h:StC w8 wx B1 B2 lv m U nn i k):Fr (SU m U) w8 wx:=by
 obtain⟨xs,h1,h2,h3,h4,h5⟩:=h
 exact h5
end
section
variable {w3 w:World} {B1 B2 m lg lc:Nat} {U:Nat→Value} {n:Nat→Nat} {fv:Value} {F:Nat→Value} {i k:Nat} {wv:Value}
theorem FmC.at (h:FmC w3 w B1 B2 (.slice (some ⟨lg,0,none⟩) m lc) m U n fv F i){j:Nat}(hj:j<m):∃ a ca,w.cell? ⟨lg,j,none⟩=some (.slice a (n j) ca)∧U j = .slice a (n j) ca∧(0<n j→∃ g,a=some ⟨g,0,none⟩∧∀ t,t<n j→Has7 w g (t*7) (mI (-(j:Int)-1))):=by
 obtain⟨g,c,a,ca,e,e2,e3,-⟩:=h.l.at hj
 injection e with e4
 injection e4 with e4
 injection e4 with e4
 subst e4
 rw[mrC_len] at e2 e3
 refine⟨a,ca,e2,e3,fun h0=>?_⟩
 obtain⟨g',c',e5,-,hc⟩:=cown_some (h.l.own j hj) (by rw[mrC_len];exact h0)
 rw[e3,mrC_len] at e5
 injection e5 with e6
 refine⟨g',e6,fun t ht=>?_⟩
 have:=hc t (by rw[mrC_len];exact ht)
 unfold mrC at this
 rw[List.getElem_replicate] at this
 exact this
theorem GmC.len (h:GmC w3 w B1 B2 (.slice (some ⟨lg,0,none⟩) m lc) m U n fv F i k wv):∃ a c,wv = .slice a (n i+k) c:=by
 obtain⟨a,c,e⟩:=cown_cap h.wo
 rw[List.length_append,mrC_len,List.length_replicate] at e
 exact⟨a,c,e⟩
theorem FmC.far_at (h:FmC w3 w B1 B2 (.slice (some ⟨lg,0,none⟩) m lc) m U n fv F m){j:Nat}(hj:j<m):∃ g c gj cj,fv = .slice (some ⟨g,0,none⟩) m c∧w.cell? ⟨g,j,none⟩=some (.slice (some ⟨gj,0,none⟩) (n j+64) cj)∧(∀ t,t<n j→Has7 w gj (t*7) (mI (-(j:Int)-1)))∧∀ t,t<64→Has7 w gj ((n j+t)*7) (mI (-100000000-(j:Int))):=by
 obtain⟨g,c,e,hg,hc⟩:=own_cell h.far (j:=j) (u:=F j) (by rw[List.getElem?_map,List.getElem?_range hj];rfl)
 have hl:(mrC n j++List.replicate 64 (mI (-100000000-(j:Int)))).length=n j+64:=by rw[List.length_append,mrC_len,List.length_replicate]
 obtain⟨gj,cj,e2,-,hcj⟩:=cown_some (h.fown j hj) (by rw[hl];omega)
 rw[hl] at e2
 refine⟨g,c,gj,cj,e,by rw[← e2];exact hc,fun t ht=>?_,fun t ht=>?_⟩
 ·have:=hcj t (by rw[hl];omega)
  rw[List.getElem_append_left (by rw[mrC_len];exact ht)] at this
  unfold mrC at this
  rw[List.getElem_replicate] at this
  exact this
 ·have:=hcj (n j+t) (by rw[hl];omega)
  rw[List.getElem_append_right (by rw[mrC_len];omega),List.getElem_replicate] at this
  exact this
end
end Go.Proofs.YtingenonbkencaaDoor
