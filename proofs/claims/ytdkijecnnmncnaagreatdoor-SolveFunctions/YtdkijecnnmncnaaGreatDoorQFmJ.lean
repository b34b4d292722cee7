import Derived.Test.YtdkijecnnmncnaaGreatDoorQQaJ
import Derived.Test.YtdkijecnnmncnaaGreatDoorQEjJ
import Derived.Test.YtdkijecnnmncnaaGreatDoorQRhJ
import Derived.StillTail
import Derived.StillTailTactics
import Derived.BigQuiet
import Derived.Test.YtdkijecnnmncnaaGreatDoorQVbJ
set_option linter.unusedVariables false
set_option linter.unusedSimpArgs false
namespace Go.Proofs.YtdkijecnnmncnaaGreatDoor
open Go.RowKit (wrap32 wrap64)
set_option maxRecDepth 100000
set_option maxHeartbeats 8000000
theorem EO.one (w:World)(B:Nat)(hB:B≤w.heap.size)(a b d:Int):EO (w.alloc (.cells #[vI a,vI b,vI d] 140)) B (.slice (some ⟨w.heap.size,0,none⟩) 1 1) [(a,b,d)] :=
 ⟨rfl,Or.inr ⟨w.heap.size,1,#[vI a,vI b,vI d],rfl,hB,heap_new w _,Nat.le_refl _,by decide,rfl,rfl⟩⟩
theorem edgI_one {ss:List PS}{R V cell:Int}{c:PI}{a b d:Int}(o:Nat)(h:c.op=o)(ho:o≠15∧o≠11)(hr:rowX o=(1,a,b,d)):edgI ss R V cell c=[(endX R V a c.r c.s cell,endX R V b c.r c.s cell,d)]:=by
 unfold edgI
 rw[h,if_neg (by omega),if_neg (by omega),Int.toNat_natCast,hr]
 rfl
theorem edgI_none {ss:List PS}{R V cell:Int}{c:PI}(h:1≤c.op∧c.op≤17)(h2:c.op≠2)(h5:c.op≠5)(h6:c.op≠6)(h7:c.op≠7)(h8:c.op≠8)(h10:c.op≠10)(h11:c.op≠11)(h15:c.op≠15):edgI ss R V cell c=[]:=by
 unfold edgI
 rw[if_neg h15,if_neg h11]
 have hr:(rowX c.op.toNat).1=0:=by
  obtain⟨o,ho⟩:∃ o:Nat,c.op=o:=⟨c.op.toNat,by omega⟩
  rw[ho,Int.toNat_natCast]
  have key:∀ o:Fin 18,(o.val≠2∧o.val≠5∧o.val≠6∧o.val≠7∧o.val≠8∧o.val≠10∧o.val≠11∧o.val≠15)→(rowX o.val).1=0:=by decide
  exact key ⟨o,by omega⟩ ⟨by simp;omega,by simp;omega,by simp;omega,by simp;omega,by simp;omega,by simp;omega,by simp;omega,by simp;omega⟩
 rw[hr]
 rfl
theorem retE_tk {R V:Int}{zs:List Int}{j:Nat}(h:j<zs.length):(retE R V zs).take (j+1)=(retE R V zs).take j++[(1+(j:Int),varX R V zs[j],0)]:=by
 have e:(retE R V zs)[j]?=some (1+(j:Int),varX R V zs[j],0):=by
  unfold retE
  rw[List.getElem?_map,List.getElem?_range h]
  simp[h]
 rw[List.take_add_one,e]
 rfl
theorem rins_any (fs:List PF)(f:PF)(cv:Value)(k:Nat)(sv:Value)(ss:List PS)(w:World)(h0:CA w cv f.code)(h1:SsA w sv ss)(hf:FunR fs f)(ht:toldX fs ss f.code=true)(hls:ss.length=fs.length)(bs:FineS ss)(hk:k<f.code.length) :
 Calls Tryz.prog 98 #[.agg #[vI f.P,vI f.R,vI f.V,cv],vI (k:Int),sv] w fun e w'=>∃ v,e = .returned v∧EO w' w.heap.size v (edgI ss f.R f.V (clX f.R f.V f.code k) f.code[k])∧Fr (fun _=>False) w w':=by
 obtain⟨ca,cc,ecv,hcs⟩:=id h0
 obtain⟨ck,co,eca,hck,hcs⟩:=hcs (by intro e;rw[e] at hk;simp at hk)
 obtain⟨av,rv,o0,o1,o2,o3,o4,o5,o6,hA,hB⟩:=hcs k hk
 subst eca
 obtain⟨W1,hW1⟩:∃ W1,W1=w.alloc (.cells #[vI f.P,vI f.R,vI f.V,cv] 45):=⟨_,rfl⟩
 have HW1:Hd (W1=w.alloc (.cells #[vI f.P,vI f.R,vI f.V,cv] 45)):=hW1
 have hF1:Fr (fun _=>False) w W1:=by rw[hW1];exact Fr.alloc (Fr.refl _ w) _
 have k1:W1.heap[w.heap.size]?=some (.cells #[vI f.P,vI f.R,vI f.V,cv] 45):=by rw[hW1];exact heap_new w _
 have hs1:W1.heap.size=w.heap.size+1:=by rw[hW1];simp
 obtain⟨W,hW⟩:∃ W,W=W1.alloc (.cells #[vI f.code[k].op,vI f.code[k].r,vI f.code[k].s,vI f.code[k].t,vI f.code[k].n,av,rv] 79):=⟨_,rfl⟩
 have HW:Hd (W=W1.alloc (.cells #[vI f.code[k].op,vI f.code[k].r,vI f.code[k].s,vI f.code[k].t,vI f.code[k].n,av,rv] 79)):=hW
 have hF2:Fr (fun _=>False) W1 W:=by rw[hW];exact Fr.alloc (Fr.refl _ W1) _
 have k2:W.heap[w.heap.size+1]?=some (.cells #[vI f.code[k].op,vI f.code[k].r,vI f.code[k].s,vI f.code[k].t,vI f.code[k].n,av,rv] 79):=by rw[hW,← hs1];exact heap_new W1 _
 obtain⟨X,hX⟩:∃ X,X=w.heap.size:=⟨_,rfl⟩
 have HX:Hd (X=w.heap.size):=hX
 rw[← hX] at k1 k2 hs1
 have k1':=(hF2.block _ (heap_lt k1) (fun h=>h)).trans k1
 have HF:Hd (Fr (fun _=>False) w W):=hF1.trans hF2
 have HS1:Hd (W1.heap.size=X+1):=hs1
 have HXW:Hd (X+1<W.heap.size):=heap_lt k2
 have HCA:Hd (∀ wr,Fr (fun _=>False) W wr→CA wr cv f.code):=fun wr f=>h0.stay (HF.out.trans f)
 have HSA:Hd (∀ wr,Fr (fun _=>False) W wr→SsA wr sv ss):=fun wr f=>h1.stay (HF.out.trans f)
 have HIA:Hd (∀ wr,Fr (fun _=>False) W wr→IA wr av f.code[k].args∧IA wr rv f.code[k].rets):=fun wr f=>⟨hA.stay (HF.out.trans f),hB.stay (HF.out.trans f)⟩
 have hlen:=hf.len
 have HOP:Hd (1≤f.code[k].op∧f.code[k].op≤17):=hf.op _ (List.getElem_mem hk)
 have HCX:Hd (∀ (o:f.code[k].op=6),fcelX f.R f.V (k:Int) f.code=clX f.R f.V f.code k):=fun o=>by
  have h6:(f.code[(k:Int).toNat]?.map (·.op))=some 6:=by rw[Int.toNat_natCast,List.getElem?_eq_getElem hk];simp[o]
  unfold fcelX
  rw[if_pos ⟨hf.R.1,hf.V.1,by omega,by omega,h6⟩,clX_is hf.R hf.V f.code (by omega) k (by omega),cellX_is hf.R hf.V,Int.toNat_natCast]
  have h1:=newsX_le (f.code.take k)
  rw[List.length_take] at h1
  have:=hf.R
  have:=hf.V
  unfold wrap64
  omega
 have HRT:Hd (f.code[k].op=15→f.code[k].args.length≤4):=fun o=>by
  have:=(hf.ret _ (List.getElem_mem hk) o).1
  have:=hf.R
  omega
 have HCL:Hd (f.code[k].op=11→∃ q:Nat,f.code[k].n=q∧∃ h:q<ss.length,f.code[k].args.length≤8∧f.code[k].rets.length≤4∧f.code[k].args.length≤ss[q].H.length∧f.code[k].args.length≤ss[q].R.length∧∀ l∈ss[q].R,l.length=f.code[k].rets.length):=fun o=>by
  obtain⟨q,hq,hqf,p1,p2,a1,a2,-⟩:=hf.call _ (List.getElem_mem hk) o
  have hqs:q<ss.length:=by omega
  have hfit:fitsX ss[q] fs[q].P fs[q].R=true:=by
   have:=List.all_eq_true.1 ht _ (List.getElem_mem hk)
   unfold fitI at this
   rw[if_pos o,hq] at this
   simpa[hqf,hqs] using this
  obtain⟨l1,l2,l3,l4,l5⟩:=fits_len hfit
  exact⟨q,hq,hqs,by omega,by omega,by omega,by omega,fun l hl=>by have:=l3 l hl;omega⟩
 have HBS:Hd (FineS ss):=bs
 have HC:Hd (∀ wr,Fr (fun _=>False) W wr→wr.cell? ⟨X,0,none⟩=some (vI f.P)∧wr.cell? ⟨X,1,none⟩=some (vI f.R)∧wr.cell? ⟨X,2,none⟩=some (vI f.V)∧wr.cell? ⟨X,3,none⟩=some cv ∧
  wr.cell? ⟨X+1,0,none⟩=some (vI f.code[k].op)∧wr.cell? ⟨X+1,1,none⟩=some (vI f.code[k].r)∧wr.cell? ⟨X+1,2,none⟩=some (vI f.code[k].s)∧wr.cell? ⟨X+1,3,none⟩=some (vI f.code[k].t)∧wr.cell? ⟨X+1,4,none⟩=some (vI f.code[k].n)∧wr.cell? ⟨X+1,5,none⟩=some av∧wr.cell? ⟨X+1,6,none⟩=some rv):=fun wr f=>by
  have e1:=(f.block _ (heap_lt k1') (fun h=>h)).trans k1'
  have e2:=(f.block _ (heap_lt k2) (fun h=>h)).trans k2
  exact⟨by rw[cell_of e1];rfl,by rw[cell_of e1];rfl,by rw[cell_of e1];rfl,by rw[cell_of e1];rfl,by rw[cell_of e2];rfl,by rw[cell_of e2];rfl,by rw[cell_of e2];rfl,by rw[cell_of e2];rfl,by rw[cell_of e2];rfl,by rw[cell_of e2];rfl,by rw[cell_of e2];rfl⟩
 have q0:=(hF1.cell hck (fun h=>h)).trans o0
 have q1:=(hF1.cell hck (fun h=>h)).trans o1
 have q2:=(hF1.cell hck (fun h=>h)).trans o2
 have q3:=(hF1.cell hck (fun h=>h)).trans o3
 have q4:=(hF1.cell hck (fun h=>h)).trans o4
 have q5:=(hF1.cell hck (fun h=>h)).trans o5
 have q6:=(hF1.cell hck (fun h=>h)).trans o6
 have d3:W1.cell? ⟨X,3,none⟩=some cv:=by rw[cell_of k1];rfl
 obtain⟨aa,ac,ea,-⟩:=hA
 obtain⟨ra,rc,er,-⟩:=hB
 obtain⟨sa,sc,es,-⟩:=h1
 have hk0:(0:Int)≤k:=by omega
 have hk1:(k:Int)<f.code.length:=by omega
 have HLN:Hd (f.code.length≤4096):=hlen.2
 have HK:Hd (k<f.code.length):=hk
 clear h0 hX hcs hF1 hF2 k1 k2 k1' hW1 hW o0 o1 o2 o3 o4 o5 o6 hck hf ht hls bs hlen hs1
 generalize f.code[k]=c at *
 generalize clX f.R f.V f.code k=cell at *
 subst ecv ea er es
 go_enter Tryz.func98,Tryz.ntmps98
 go_upto_region 1 with fail
 rw[← HW1.out,← HX.out]
 go_upto_region 2 with fail
 rw[show W1.heap.size=X+1 from HS1.out,← HW.out]
 clear HW HW1 q0 q1 q2 q3 q4 q5 q6 d3
 obtain⟨c0,c1,c2,c3,m0,m1,m2,m3,m4,m5,m6⟩:=HC.out W (Fr.refl _ _)
 have hv1:=rvariable_any f (.slice (some ⟨ck,co,none⟩) f.code.length cc) c.r W (HCA.out W (Fr.refl _ _))
 go_wp2_with fail
 refine hv1.mono ?_
 rintro _ w2 ⟨rfl,hG2⟩
 have HG2:Hd (Fr (fun _=>False) W w2):=hG2
 clear hv1 hG2 c0 c1 c2 c3 m0 m1 m2 m3 m4 m5 m6
 obtain⟨c0,c1,c2,c3,m0,m1,m2,m3,m4,m5,m6⟩:=HC.out w2 HG2.out
 have hv2:=rvariable_any f (.slice (some ⟨ck,co,none⟩) f.code.length cc) c.s w2 (HCA.out w2 HG2.out)
 go_wp2_with fail
 refine hv2.mono ?_
 rintro _ w3 ⟨rfl,hG3⟩
 have HG3:Hd (Fr (fun _=>False) W w3):=HG2.out.trans hG3
 have HSZ:Hd (w.heap.size≤w3.heap.size):=(HF.out.trans HG3.out).size
 clear hv2 hG3 c0 c1 c2 c3 m0 m1 m2 m3 m4 m5 m6 HG2
 obtain⟨c0,c1,c2,c3,m0,m1,m2,m3,m4,m5,m6⟩:=HC.out w3 HG3.out
 by_cases b2:c.op=2
 ·rw[b2] at m0
  have HE:=@edgI_one ss f.R f.V cell c 1 2 0 2 b2 (by decide) (by decide)
  have HQ:Hd (∀ v,EO (w3.alloc (.cells #[vI (varX f.R f.V c.r),vI (varX f.R f.V c.s),vI 0] 140)) w.heap.size v [(varX f.R f.V c.r,varX f.R f.V c.s,0)]→EO (w3.alloc (.cells #[vI (varX f.R f.V c.r),vI (varX f.R f.V c.s),vI 0] 140)) w.heap.size v (edgI ss f.R f.V cell c)):=fun v h=>by rw[HE];exact h
  clear HE
  go_wp2_with fail
  go_ret
  exact⟨_,rfl,HQ.out _ (EO.one w3 _ HSZ.out _ _ _),(HF.out.trans HG3.out).alloc _⟩
 by_cases b5:c.op=5
 ·rw[b5] at m0
  have HE:=@edgI_one ss f.R f.V cell c 1 2 (-1) 5 b5 (by decide) (by decide)
  have HQ:Hd (∀ v,EO (w3.alloc (.cells #[vI (varX f.R f.V c.r),vI (varX f.R f.V c.s),vI (-1)] 140)) w.heap.size v [(varX f.R f.V c.r,varX f.R f.V c.s,-1)]→EO (w3.alloc (.cells #[vI (varX f.R f.V c.r),vI (varX f.R f.V c.s),vI (-1)] 140)) w.heap.size v (edgI ss f.R f.V cell c)):=fun v h=>by rw[HE];exact h
  clear HE
  go_wp2_with fail
  go_ret
  exact⟨_,rfl,HQ.out _ (EO.one w3 _ HSZ.out _ _ _),(HF.out.trans HG3.out).alloc _⟩
 by_cases b7:c.op=7
 ·rw[b7] at m0
  have HE:=@edgI_one ss f.R f.V cell c 1 2 1 7 b7 (by decide) (by decide)
  have HQ:Hd (∀ v,EO (w3.alloc (.cells #[vI (varX f.R f.V c.r),vI (varX f.R f.V c.s),vI 1] 140)) w.heap.size v [(varX f.R f.V c.r,varX f.R f.V c.s,1)]→EO (w3.alloc (.cells #[vI (varX f.R f.V c.r),vI (varX f.R f.V c.s),vI 1] 140)) w.heap.size v (edgI ss f.R f.V cell c)):=fun v h=>by rw[HE];exact h
  clear HE
  go_wp2_with fail
  go_ret
  exact⟨_,rfl,HQ.out _ (EO.one w3 _ HSZ.out _ _ _),(HF.out.trans HG3.out).alloc _⟩
 by_cases b8:c.op=8
 ·rw[b8] at m0
  have HE:=@edgI_one ss f.R f.V cell c 0 2 0 8 b8 (by decide) (by decide)
  have HQ:Hd (∀ v,EO (w3.alloc (.cells #[vI (0),vI (varX f.R f.V c.s),vI 0] 140)) w.heap.size v [(0,varX f.R f.V c.s,0)]→EO (w3.alloc (.cells #[vI (0),vI (varX f.R f.V c.s),vI 0] 140)) w.heap.size v (edgI ss f.R f.V cell c)):=fun v h=>by rw[HE];exact h
  clear HE
  go_wp2_with fail
  go_ret
  exact⟨_,rfl,HQ.out _ (EO.one w3 _ HSZ.out _ _ _),(HF.out.trans HG3.out).alloc _⟩
 by_cases b10:c.op=10
 ·rw[b10] at m0
  have HE:=@edgI_one ss f.R f.V cell c 0 2 0 10 b10 (by decide) (by decide)
  have HQ:Hd (∀ v,EO (w3.alloc (.cells #[vI (0),vI (varX f.R f.V c.s),vI 0] 140)) w.heap.size v [(0,varX f.R f.V c.s,0)]→EO (w3.alloc (.cells #[vI (0),vI (varX f.R f.V c.s),vI 0] 140)) w.heap.size v (edgI ss f.R f.V cell c)):=fun v h=>by rw[HE];exact h
  clear HE
  go_wp2_with fail
  go_ret
  exact⟨_,rfl,HQ.out _ (EO.one w3 _ HSZ.out _ _ _),(HF.out.trans HG3.out).alloc _⟩
 by_cases b6:c.op=6
 ·rw[b6] at m0
  have HE:=@edgI_one ss f.R f.V cell c 1 3 (-1) 6 b6 (by decide) (by decide)
  have HQ:Hd (∀ w' v,EO w' w.heap.size v [(varX f.R f.V c.r,cell,-1)]→EO w' w.heap.size v (edgI ss f.R f.V cell c)):=fun w' v h=>by rw[HE];exact h
  have hcl:=rcell_any f (.slice (some ⟨ck,co,none⟩) f.code.length cc) (k:Int) w3 (HCA.out w3 HG3.out) (by have:=HLN.out;omega)
  rw[HCX.out b6] at hcl
  clear HE
  go_wp2_with fail
  refine hcl.mono ?_
  rintro _ w4 ⟨rfl,hG4⟩
  have HG4:Hd (Fr (fun _=>False) W w4):=HG3.out.trans hG4
  have HS4:Hd (w.heap.size≤w4.heap.size):=(HF.out.trans HG4.out).size
  clear hcl hG4 c0 c1 c2 c3 m0 m1 m2 m3 m4 m5 m6
  go_wp2_with fail
  go_ret
  exact⟨_,rfl,HQ.out _ _ (EO.one w4 _ HS4.out _ _ _),(HF.out.trans HG4.out).alloc _⟩
 by_cases b11:c.op=11
 ·rw[b11] at m0
  obtain⟨q,hq,hqs,n1,n2,n3,n4,n5⟩:=HCL.out b11
  have HE:Hd (edgI ss f.R f.V cell c=callT f.R f.V c.args c.rets ss[q].H ss[q].R c.args.length):=by
   unfold Hd edgI
   rw[if_neg (by omega),if_pos b11,hq]
   simp[hqs]
  obtain⟨a',c',e',hss⟩:=HSA.out w3 HG3.out
  cases e'
  obtain⟨sg,so,rfl,hsg,hss⟩:=hss (by intro e;rw[e] at hqs;simp at hqs)
  obtain⟨hv,lv,s0,s1,t1,t2⟩:=hss q hqs
  have hbs:=HBS.out.2 ss[q] (List.getElem_mem hqs)
  have hI:=HIA.out w3 HG3.out
  have HD:Fr (fun _=>False) w3 w3.drew:=Fr.drew (Fr.refl _ w3)
  have hct:=rcall_any f (.slice (some ⟨ck,co,none⟩) f.code.length cc) 11 c.r c.s c.t c.n (.slice aa c.args.length ac) (.slice ra c.rets.length rc) c.args c.rets hv lv ss[q] w3.drew ((HCA.out w3 HG3.out).stay HD) (hI.1.stay HD) (hI.2.stay HD) (t1.stay HD) (t2.stay HD) n1 n2 n3 n4 n5 ⟨hbs.1,by omega⟩
  obtain⟨ha,hc,ehv,-⟩:=t1
  obtain⟨la,lc,elv,-⟩:=t2
  subst ehv elv
  rw[hq] at m4 hct
  have hq0:(0:Int)≤q:=by omega
  have hq1:(q:Int)<ss.length:=by omega
  clear hss hI HD n3 n4 n5 hbs
  go_upto_region 17 with fail
  refine wp_region_still_tail 7 mixed (by kernel_rfl) ?_
  simp only[List.take_succ_cons,List.take_zero,List.drop_succ_cons,List.drop_zero]
  repeat still_step
  refine wpStill_nil ?_
  go_wp2_with fail
  refine hct.mono ?_
  rintro _ w4 ⟨v,rfl,hO,hG4⟩
  have HO:Hd (EO w4 w.heap.size v (edgI ss f.R f.V cell c)):=by unfold Hd;rw[HE.out];exact World.ownsRow.mono hO HSZ.out
  have HG4:Hd (Fr (fun _=>False) w w4):=(HF.out.trans HG3.out).trans ((Fr.drew (Fr.refl _ w3)).trans hG4)
  clear hO hG4 c0 c1 c2 c3 m0 m1 m2 m3 m4 m5 m6 s0 s1
  go_wp2_with fail
  go_ret
  exact⟨_,rfl,HO.out,HG4.out⟩
 by_cases b15:c.op=15
 ·rw[b15] at m0
  have HE:Hd (edgI ss f.R f.V cell c=retE f.R f.V c.args):=by unfold Hd edgI;rw[if_pos b15]
  have hl4:=HRT.out b15
  have HRL:Hd ((retE f.R f.V c.args).length=c.args.length):=by unfold Hd retE;simp
  obtain⟨i7,hi7,hz7,hs7,hb7⟩:=info_parts (P:=Tryz.prog) (e:=140) (z:=.agg #[vI 0,vI 0,vI 0]) (size:=3) (bytes:=24) (by kernel_rfl)
  go_wp2_with fail
  clear c0 c1 c2 c3 m0 m1 m2 m3 m4 m5 m6
  go_loopw [10,11] (fun v10 v11 wr=>∃ (j:Nat),v11 = .int .i64 j∧j≤c.args.length∧Hd (EO wr W.heap.size v10 ((retE f.R f.V c.args).take j))∧Hd (Fr (fun _=>False) W wr)) (fun _ v _=>match v with | .int _ q=>c.args.length-q.toNat | _=>0)
  case atStart=>exact⟨0,rfl,by omega,EO.nil _ _,HG3⟩
  case round =>
   obtain⟨j,rfl,hj,HO,HFr⟩:=hrel
   obtain⟨c0,c1,c2,c3,m0,m1,m2,m3,m4,m5,m6⟩:=HC.out wr HFr.out
   by_cases hjl:j<c.args.length
   ·obtain⟨a',c',e',ha1⟩:=(HIA.out wr HFr.out).1
    cases e'
    obtain⟨ak,ao,rfl,hak,ha1⟩:=ha1 (by intro e;rw[e] at hjl;simp at hjl)
    have p0:=ha1 j hjl
    have HT:=@retE_tk f.R f.V c.args j hjl
    have HT:Hd ((retE f.R f.V c.args).take (j+1)=(retE f.R f.V c.args).take j++[(1+(j:Int),varX f.R f.V c.args[j],0)]):=HT
    have HTL:Hd (((retE f.R f.V c.args).take j).length≤4):=by unfold Hd;rw[List.length_take];omega
    have HRV:Hd (∀ wx (hx:Fr (fun _=>False) W wx),Calls Tryz.prog 60 #[.agg #[vI f.P,vI f.R,vI f.V,.slice (some ⟨ck,co,none⟩) f.code.length cc],vI c.args[j]] wx fun e w'=>e = .returned (vI (varX f.R f.V c.args[j]))∧Fr (fun _=>False) wx w'):=fun wx hx=>rvariable_any f (.slice (some ⟨ck,co,none⟩) f.code.length cc) c.args[j] wx (HCA.out wx hx)
    have HP1:Hd (∀ W',Fr (fun _=>False) W W'→W'.cell? ⟨ak,ao+j,none⟩=some (vI c.args[j])):=fun W' f=>by
     obtain⟨a',c',e',hz⟩:=(HIA.out W' f).1
     cases e'
     obtain⟨ak',ao',e2,-,hz⟩:=hz (by intro e;rw[e] at hjl;simp at hjl)
     cases e2
     exact hz j hjl
    have HP0:Hd (∀ W',Fr (fun _=>False) wr W'→W'.cell? ⟨ak,ao+j,none⟩=some (vI c.args[j])):=fun W' f=>(f.cell hak (fun h=>h)).trans p0
    generalize varX f.R f.V c.args[j]=va at *
    generalize c.args[j]=aj at *
    generalize (retE f.R f.V c.args).take j=E at *
    have hj0:(0:Int)≤j:=by omega
    have hj1:(j:Int)<c.args.length:=by omega
    have hw1:wrap64 (1+(j:Int))=1+(j:Int):=by unfold wrap64;omega
    have hw2:IntKind.i64.wrap (1+(j:Int))=1+(j:Int):=wrap_small _ (by omega) (by omega)
    obtain⟨ea,ec,ee⟩:=own_slice HO.out
    subst ee
    have hel:=HTL.out
    clear ha1
    go_upto_region 23 with fail
    go_region_held3 (fun w'=>w'.cell? ⟨X,0,none⟩=some (vI f.P)∧w'.cell? ⟨X,1,none⟩=some (vI f.R)∧w'.cell? ⟨X,2,none⟩=some (vI f.V)∧w'.cell? ⟨X,3,none⟩=some (.slice (some ⟨ck,co,none⟩) f.code.length cc)∧w'.cell? ⟨X+1,5,none⟩=some (.slice (some ⟨ak,ao,none⟩) c.args.length ac)∧w'.cell? ⟨ak,ao+j,none⟩=some (vI aj)) (go_keep) ((
     first
      |(go_at_call 60
        refine(HRV.out _ (HFr.out.trans (Fr.drew (Fr.refl _ wr)))).mono ?_
        rintro e w4 ⟨rfl,hG4⟩
        have HD4:Hd (Fr (fun _=>False) wr w4):=(Fr.drew (Fr.refl _ wr)).trans hG4
        have HF4:Hd (Fr (fun _=>False) W w4):=HFr.out.trans HD4.out
        have HO4:Hd (EO w4 W.heap.size (.slice ea E.length ec) E):=HO.out.stay HD4.out
        obtain⟨s0,s1,s2,s3,-,-,-,-,-,s5,-⟩:=HC.out w4 HF4.out
        have s8:=HP0.out w4 HD4.out
        have HFn:Hd (Fr (fun _=>False) w4 (w4.alloc (.cells #[vI (1+(j:Int)),vI va,vI 0] 140))):=Fr.alloc (Fr.refl _ w4) _
        have HRW:Hd ((w4.alloc (.cells #[vI (1+(j:Int)),vI va,vI 0] 140)).ownsRow W.heap.size 140 3 (.slice ea E.length ec) E.length (E.flatMap edC)):=HO4.out.stay HFn.out
        have HNW:Hd (∀ j' u,[vI (1+(j:Int)),vI va,vI 0][j']?=some u→(w4.alloc (.cells #[vI (1+(j:Int)),vI va,vI 0] 140)).cell? ((⟨w4.heap.size,0,none⟩:Addr).add j')=some u):=World.news_of_block (cs:=#[vI (1+(j:Int)),vI va,vI 0]) (heap_new w4 _)
        have HBS2:Hd (W.heap.size≤(w4.alloc (.cells #[vI (1+(j:Int)),vI va,vI 0] 140)).heap.size):=(HF4.out.trans HFn.out).size
        clear hG4)
      |(refine step_append_lies _ rfl (.tmp 78) (.tmp 89) 85 rfl W.heap.size 140 i7 (.agg #[vI 0,vI 0,vI 0]) 3 24 under36 hi7 hz7 hs7 hb7 rfl (by omega) (.slice ea E.length ec) E.length _ (by simp[Act.eval,Act.put]) HRW.out ⟨w4.heap.size,0,none⟩ 1 1 [vI (1+(j:Int)),vI va,vI 0] (by simp[Act.eval,Act.put]) rfl HNW.out (by intro u hu;simp at hu;rcases hu with rfl | rfl | rfl<;>rfl) (by omega) (by unfold maxLen;omega) (by omega) HBS2.out (w4.heap.size+1) (by simp) ?_
        intro g6 cap6 w6 hown6 hgrow6 hat6 hlt6
        obtain⟨z1,z2⟩:=EO.grow (x:=(1+(j:Int),va,0)) HO4.out HFn.out hgrow6 hown6 HF4.out (Nat.le_refl _)
        have HO1:Hd (EO w6 W.heap.size (.slice (some ⟨g6,0,none⟩) (E.length+1) cap6) ((retE f.R f.V c.args).take (j+1))):=by unfold Hd;rw[HT.out];exact z1
        have HO2:Hd (Fr (fun _=>False) W w6):=z2
        obtain⟨n0,n1,n2,n3,-,-,-,-,-,n5,-⟩:=HC.out w6 HO2.out
        have n8:=HP1.out w6 HO2.out
        clear hown6 hgrow6 hat6 hlt6 z1 z2)))
    all_goals
     go_wp2_with fail
     exact⟨⟨j+1,castE j,hjl,HO1,HO2⟩,measE hjl⟩
   ·have hdj:decide ((j:Int)<c.args.length)=false:=by simp;omega
    have HQ:Hd (EO wr w.heap.size u10 (edgI ss f.R f.V cell c)):=by
     unfold Hd
     have h:EO wr w.heap.size u10 ((retE f.R f.V c.args).take j):=World.ownsRow.mono HO.out HF.out.size
     rw[List.take_of_length_le (by have:=HRL.out;omega)] at h
     rw[HE.out]
     exact h
    go_wp2_with fail
    go_ret
    exact⟨_,rfl,HQ.out,HF.out.trans HFr.out⟩
 have HN:Hd (edgI ss f.R f.V cell c=[]):=edgI_none HOP.out b2 b5 b6 b7 b8 b10 b11 b15
 have x2:(c.op==2)=false:=by simpa using b2
 have x5:(c.op==5)=false:=by simpa using b5
 have x6:(c.op==6)=false:=by simpa using b6
 have x7:(c.op==7)=false:=by simpa using b7
 have x8:(c.op==8)=false:=by simpa using b8
 have x10:(c.op==10)=false:=by simpa using b10
 have x11:(c.op==11)=false:=by simpa using b11
 have x15:(c.op==15)=false:=by simpa using b15
 go_wp2_with fail
 go_ret
 exact⟨_,rfl,by rw[HN.out];exact EO.nil _ _,HF.out.trans HG3.out⟩
set_option maxRecDepth 100000
set_option maxHeartbeats 8000000
theorem ede_bad {G:Int}{fs:List PF}{F:Int}{ss:List PS}{w w':World}(h:¬ EdgOk G fs F ss)(f:Fr (fun _=>False) w w'):EdgE G fs F ss w (.returned (.tuple #[.slice none 0 0,vI 1])) w':=⟨f,Or.inl ⟨h,rfl⟩⟩
theorem ede_ok {G:Int}{fs:List PF}{i:Nat}{ss:List PS}{w w':World}{v:Value}(hi:i<fs.length)(h1:ss.length=fs.length)(h2:checkP G (aloneP fs fs[i])=0)(h3:toldX fs ss fs[i].code=true)(ho:EO w' w.heap.size v (edgX ss fs[i]))(f:Fr (fun _=>False) w w'):EdgE G fs i ss w (.returned (.tuple #[v,vI 0])) w':=⟨f,Or.inr ⟨i,hi,rfl,h1,h2,h3,v,rfl,ho⟩⟩
theorem all_take {α:Type}(l:List α)(p:α→Bool)(k:Nat)(h:k<l.length):(l.take (k+1)).all p=((l.take k).all p&&p l[k]):=by
 rw[List.take_succ_eq_append_getElem h,List.all_append]
 simp
def edgK (ss:List PS)(f:PF)(k:Nat):List Ed:=(List.range k).flatMap fun j=>edgI ss f.R f.V (clX f.R f.V f.code j) (f.code.getD j dPI)
theorem edgK_succ {ss:List PS}{f:PF}{k:Nat}(h:k<f.code.length):edgK ss f (k+1)=edgK ss f k++edgI ss f.R f.V (clX f.R f.V f.code k) f.code[k]:=by
 unfold edgK
 rw[flat_succ]
 simp[h]
theorem edgK_le {ss:List PS}{f:PF}{k:Nat}(h:k≤f.code.length):(edgK ss f k).length≤(edgX ss f).length:=flat_mono _ h
theorem EO.at {w:World}{B:Nat}{v:Value}{E:List Ed}(h:EO w B v E){j:Nat}(hj:j<E.length):∃ g cap,v = .slice (some ⟨g,0,none⟩) E.length cap∧B≤g∧g<w.heap.size∧w.cell? ⟨g,j*3,none⟩=some (vI E[j].1)∧w.cell? ⟨g,j*3+1,none⟩=some (vI E[j].2.1)∧w.cell? ⟨g,j*3+2,none⟩=some (vI E[j].2.2):=by
 obtain⟨g,cap,e,hg,x0⟩:=own_cell h (j:=j*3+0) (u:=vI E[j].1) (by rw[flat_get edC 3 (fun _=>rfl) E j 0 hj (by omega)];rfl)
 obtain⟨g1,cap1,e1,-,x1⟩:=own_cell h (j:=j*3+1) (u:=vI E[j].2.1) (by rw[flat_get edC 3 (fun _=>rfl) E j 1 hj (by omega)];rfl)
 obtain⟨g2,cap2,e2,-,x2⟩:=own_cell h (j:=j*3+2) (u:=vI E[j].2.2) (by rw[flat_get edC 3 (fun _=>rfl) E j 2 hj (by omega)];rfl)
 subst e
 cases e1
 cases e2
 exact⟨g,cap,rfl,(World.ownsRow.lt h g rfl).1,hg,x0,x1,x2⟩
theorem redges_any (G:Int)(fv sv:Value)(fs:List PF)(ss:List PS)(F:Int)(w:World)(h1:FA w fv fs)(h2:SsA w sv ss)(b1:FineP fs)(b2:FineS ss) :
 Calls Tryz.prog 55 #[.agg #[vI G,fv],vI F,sv] w (EdgE G fs F ss w):=by
 obtain⟨X,hX⟩:∃ X,X=w.heap.size:=⟨_,rfl⟩
 have HX:Hd (X=w.heap.size):=hX
 obtain⟨w1,hw1⟩:∃ w1,w1=w.alloc (.cells #[vI G,fv] 24):=⟨_,rfl⟩
 have HW1:Hd (w1=w.alloc (.cells #[vI G,fv] 24)):=hw1
 have hFa:Fr (fun _=>False) w w1:=by rw[hw1];exact Fr.alloc (Fr.refl _ w) _
 have k1:w1.heap[X]?=some (.cells #[vI G,fv] 24):=by rw[hw1,hX];exact heap_new w _
 have HFa:Hd (Fr (fun _=>False) w w1):=hFa
 have H1:Hd (∀ W,Fr (fun _=>False) w1 W→FA W fv fs):=fun W f=>h1.stay (hFa.trans f)
 have H2:Hd (∀ W,Fr (fun _=>False) w1 W→SsA W sv ss):=fun W f=>h2.stay (hFa.trans f)
 have HB1:Hd (FineP fs):=b1
 have HB2:Hd (FineS ss):=b2
 have HP:Hd (∀ W,Fr (fun _=>False) w1 W→W.cell? ⟨X,0,none⟩=some (vI G)∧W.cell? ⟨X,1,none⟩=some fv):=fun W f=>by
  have b:=(f.block _ (heap_lt k1) (fun h=>h)).trans k1
  exact⟨by rw[cell_of b];rfl,by rw[cell_of b];rfl⟩
 have hct:=ralone_any G fv fs F w1 (h1.stay hFa) b1
 obtain⟨c0,c1⟩:=HP.out w1 (Fr.refl _ _)
 obtain⟨fa,fc,efv,-⟩:=h1
 obtain⟨sa,sc,esv,-⟩:=h2
 subst efv esv
 clear hw1 hFa k1 hX b1 b2
 go_enter Tryz.func55,Tryz.ntmps55
 go_upto_region 1 with fail
 rw[← HW1.out,← HX.out]
 clear HW1
 go_wp2_with fail
 refine hct.mono ?_
 rintro e w2 ⟨b,rfl,hb,hF2⟩
 have HF2:Hd (Fr (fun _=>False) w1 w2):=hF2
 have HFw:Hd (Fr (fun _=>False) w w2):=HFa.out.trans hF2
 clear hct c0 c1 hF2
 obtain⟨c0,c1⟩:=HP.out w2 HF2.out
 have HAL:Hd (EdgOk G fs F ss→b=true):=fun⟨i,e,hi,_,k,_⟩=>hb.2 ⟨i,e,hi,(alone_iff G fs fs[i]).1 k⟩
 cases b with
 | false =>
   have HN:Hd (¬ EdgOk G fs F ss):=fun h=>by have:=HAL.out h;cases this
   clear hb HAL
   go_wp2_with fail
   refine bodyPost_ret (results_tmp2 Tryz.results55 _ _ _) rfl ?_
   exact ede_bad HN.out HFw.out
 | true =>
 obtain⟨i,rfl,hi,hal⟩:=hb.1 rfl
 have HCK:Hd (checkP G (aloneP fs fs[i])=0):=(alone_iff G fs fs[i]).2 hal
 clear hb HAL hal
 by_cases hls:ss.length=fs.length
 ·have hd1:((ss.length:Int) != (fs.length:Int))=false:=by simp[hls]
  have HLS:Hd (ss.length=fs.length):=hls
  obtain⟨a',c',e',hff⟩:=H1.out w2 HF2.out
  cases e'
  obtain⟨fk,fo,efa,hfk,hff⟩:=hff (by intro e;rw[e] at hi;simp at hi)
  obtain⟨cv,p0,p1,p2,p3,hcv⟩:=hff i hi
  subst efa
  obtain⟨w3,hw3⟩:∃ w3,w3=w2.alloc (.cells #[vI fs[i].P,vI fs[i].R,vI fs[i].V,cv] 45):=⟨_,rfl⟩
  have HW3:Hd (w3=w2.alloc (.cells #[vI fs[i].P,vI fs[i].R,vI fs[i].V,cv] 45)):=hw3
  have hF3:Fr (fun _=>False) w2 w3:=by rw[hw3];exact Fr.alloc (Fr.refl _ w2) _
  obtain⟨Y,hY⟩:∃ Y,Y=w2.heap.size:=⟨_,rfl⟩
  have HY:Hd (Y=w2.heap.size):=hY
  have k3:w3.heap[Y]?=some (.cells #[vI fs[i].P,vI fs[i].R,vI fs[i].V,cv] 45):=by rw[hw3,hY];exact heap_new w2 _
  have HF3:Hd (Fr (fun _=>False) w1 w3):=HF2.out.trans hF3
  have HFz:Hd (Fr (fun _=>False) w w3):=HFa.out.trans HF3.out
  have HCV:Hd (∀ W,Fr (fun _=>False) w3 W→CA W cv fs[i].code):=fun W f=>hcv.stay (hF3.trans f)
  have HQ:Hd (∀ W,Fr (fun _=>False) w3 W→W.cell? ⟨Y,0,none⟩=some (vI fs[i].P)∧W.cell? ⟨Y,1,none⟩=some (vI fs[i].R)∧W.cell? ⟨Y,2,none⟩=some (vI fs[i].V)∧W.cell? ⟨Y,3,none⟩=some cv):=fun W f=>by
   have b:=(f.block _ (heap_lt k3) (fun h=>h)).trans k3
   exact⟨by rw[cell_of b];rfl,by rw[cell_of b];rfl,by rw[cell_of b];rfl,by rw[cell_of b];rfl⟩
  have HFR:Hd (FunR fs fs[i]):=right_ok HCK.out
  have hln:fs[i].code.length≤4096:=HFR.out.len.2
  have HTB:Hd (toldX fs ss fs[i].code=false→¬ EdgOk G fs i ss):=fun e ⟨q,hq,hqf,_,_,ht⟩=>by
   obtain rfl:i=q:=by omega
   rw[e] at ht
   cases ht
  have HEND:Hd (∀ w' v,toldX fs ss fs[i].code=true→EO w' w.heap.size v (edgX ss fs[i])→Fr (fun _=>False) w w'→EdgE G fs i ss w (.returned (.tuple #[v,vI 0])) w'):=fun w' v ht ho f=>ede_ok hi HLS.out HCK.out ht ho f
  have hi0:(0:Int)≤i:=by omega
  have hi1:(i:Int)<fs.length:=by omega
  obtain⟨ca,cc,ecv,-⟩:=hcv
  clear hff hw3 hY k3 hF3 hls
  generalize fs[i]=f at *
  subst ecv
  go_upto_region 5 with fail
  rw[← HW3.out,← HY.out]
  clear HW3 c0 c1 p0 p1 p2 p3 hd1
  go_wp2_with fail
  go_loopw [11] (fun v wr=>∃ (k:Nat),v = .int .i64 k∧k≤f.code.length∧Hd (Fr (fun _=>False) w3 wr)∧Hd ((f.code.take k).all (fitI fs ss)=true)) (fun v _=>match v with | .int _ q=>f.code.length-q.toNat | _=>0)
  case atStart=>exact⟨0,rfl,by omega,Fr.refl _ _,rfl⟩
  case round =>
   obtain⟨k,rfl,hk,HFr,HT⟩:=hrel
   obtain⟨r0,r1,r2,r3⟩:=HQ.out wr HFr.out
   obtain⟨c0,c1⟩:=HP.out wr (HF3.out.trans HFr.out)
   by_cases hlt:k<f.code.length
   ·obtain⟨a',c',e',hcc⟩:=HCV.out wr HFr.out
    cases e'
    obtain⟨ck,co,rfl,hck,hcc⟩:=hcc (by intro e;rw[e] at hlt;simp at hlt)
    obtain⟨av,rv,o0,o1,o2,o3,o4,o5,o6,-,-⟩:=hcc k hlt
    have HS:=all_take f.code (fitI fs ss) k hlt
    have HBD:Hd (fitI fs ss f.code[k]=false→toldX fs ss f.code=false):=fun e=>List.all_eq_false.2 ⟨_,List.getElem_mem hlt,by rw[e];decide⟩
    have HCL:=HFR.out.call f.code[k] (List.getElem_mem hlt)
    have hk0:(0:Int)≤k:=by omega
    have hk1:(k:Int)<f.code.length:=by omega
    clear hcc hck
    generalize f.code[k]=c at *
    by_cases h11:c.op=11
    ·have hop:(c.op==11)=true:=by simpa using h11
     obtain⟨q,hq,hqf,-⟩:=HCL h11
     have hqs:q<ss.length:=by have:=HLS.out;omega
     obtain⟨a',c',e',hff⟩:=H1.out wr (HF3.out.trans HFr.out)
     cases e'
     obtain⟨fk',fo',e'',hfk',hff⟩:=hff (by intro e;rw[e] at hqf;simp at hqf)
     cases e''
     obtain⟨gv,v0,v1,v2,v3,hgv⟩:=hff q hqf
     obtain⟨ga,gc,egv,-⟩:=hgv
     subst egv
     obtain⟨a',c',e',hss⟩:=H2.out wr (HF3.out.trans HFr.out)
     cases e'
     obtain⟨sk,so,rfl,hsk,hss⟩:=hss (by intro e;rw[e] at hqs;simp at hqs)
     obtain⟨hv,lv,s0,s1,hH,hL⟩:=hss q hqs
     obtain⟨bs1,bs2,bs3⟩:=HB2.out.2 ss[q] (List.getElem_mem hqs)
     have hct:=rright_any hv lv ss[q] fs[q].P fs[q].R fs[q].V ga fs[q].code.length gc wr.drew (hH.stay (Fr.refl (fun _=>False) wr).drew) (hL.stay (Fr.refl (fun _=>False) wr).drew) bs1 (by omega) bs3
     have hfi:fitI fs ss c=fitsX ss[q] fs[q].P fs[q].R:=by
      unfold fitI
      rw[if_pos h11,hq]
      simp[hqf,hqs]
     obtain⟨ha,hc,rfl,-⟩:=hH
     obtain⟨la,lc,rfl,-⟩:=hL
     rw[hq] at o4
     have hq0:(0:Int)≤q:=by omega
     have hq1:(q:Int)<fs.length:=by omega
     have hq2:(q:Int)<ss.length:=by omega
     rw[hfi] at HS HBD
     clear hff hss bs1 bs2 bs3 hfi HCL hq
     generalize hfx:fitsX ss[q] fs[q].P fs[q].R=fx at *
     clear hfx
     generalize fs[q]=g at *
     generalize ss[q]=s at *
     go_upto_region 9 with fail
     refine wp_region_still_tail 27 mixed (by kernel_rfl) ?_
     simp only[List.take_succ_cons,List.take_zero,List.drop_succ_cons,List.drop_zero]
     repeat still_step
     refine wpStill_nil ?_
     go_wp2_with fail
     refine hct.mono ?_
     rintro _ w6 ⟨rfl,hF6⟩
     have HF6:Hd (Fr (fun _=>False) w3 w6):=HFr.out.trans (((Fr.refl (fun _=>False) wr).drew).trans hF6)
     clear hct hF6 s0 s1 v0 v1 v2 v3 o0 o1 o2 o3 o4 o5 o6 r0 r1 r2 r3 c0 c1
     cases fx with
     | true =>
       have HT2:Hd ((f.code.take (k+1)).all (fitI fs ss)=true):=by unfold Hd;rw[HS,HT.out];rfl
       clear HS HBD
       go_wp2_with fail
       exact⟨⟨k+1,castE k,hlt,HF6,HT2⟩,measE hlt⟩
     | false =>
       have HN:Hd (¬ EdgOk G fs i ss):=HTB.out (HBD.out rfl)
       clear HS HBD
       go_wp2_with fail
       refine bodyPost_ret (results_tmp2 Tryz.results55 _ _ _) rfl ?_
       exact ede_bad HN.out (HFz.out.trans HF6.out)
    ·have hop:(c.op==11)=false:=by simpa using h11
     have HT2:Hd ((f.code.take (k+1)).all (fitI fs ss)=true):=by
      unfold Hd
      rw[HS,HT.out]
      unfold fitI
      rw[if_neg h11]
      rfl
     clear HS HBD HCL
     go_upto_region 9 with fail
     go_quiet (fail)
     go_wp2_with fail
     exact⟨⟨k+1,castE k,hlt,HFr.out.trans ⟨rfl,rfl,rfl,Nat.le_refl _,fun _ _ _=>rfl⟩,HT2⟩,measE hlt⟩
   ·have hdk:decide ((k:Int)<f.code.length)=false:=by simp;omega
    have HTD:Hd (toldX fs ss f.code=true):=by
     have h:=HT.out
     rw[List.take_of_length_le (by omega)] at h
     exact h
    have HXL:Hd ((edgX ss f).length≤163840):=edgX_len HFR.out HTD.out HLS.out
    obtain⟨i7,hi7,hz7,hs7,hb7⟩:=info_parts (P:=Tryz.prog) (e:=140) (z:=.agg #[vI 0,vI 0,vI 0]) (size:=3) (bytes:=24) (by kernel_rfl)
    clear hk HT
    go_wp2_with fail
    clear r0 r1 r2 r3 c0 c1 hdk
    go_loopw [10,12] (fun v10 v12 wq=>∃ (k:Nat),v12 = .int .i64 k∧k≤f.code.length∧Hd (EO wq w3.heap.size v10 (edgK ss f k))∧Hd (Fr (fun _=>False) w3 wq)) (fun _ v _=>match v with | .int _ q=>f.code.length-q.toNat | _=>0)
    case atStart=>exact⟨0,rfl,by omega,EO.nil _ _,HFr⟩
    case round =>
     obtain⟨k,rfl,hk,HE,HFq⟩:=hrel
     obtain⟨r0,r1,r2,r3⟩:=HQ.out wr HFq.out
     by_cases hlt:k<f.code.length
     ·have hct:=rins_any fs f (.slice ca f.code.length cc) k (.slice sa ss.length sc) ss wr (HCV.out wr HFq.out) (H2.out wr (HF3.out.trans HFq.out)) HFR.out HTD.out HLS.out HB2.out hlt
      have HKS:Hd (edgK ss f (k+1)=edgK ss f k++edgI ss f.R f.V (clX f.R f.V f.code k) f.code[k]):=edgK_succ hlt
      have HKL:Hd ((edgK ss f (k+1)).length≤163840):=by
       have h1:=@edgK_le ss f (k+1) hlt
       have h2:=HXL.out
       unfold Hd
       omega
      have hk0:(0:Int)≤k:=by omega
      have hk1:(k:Int)<f.code.length:=by omega
      generalize edgI ss f.R f.V (clX f.R f.V f.code k) f.code[k]=Em at *
      go_wp2_with fail
      refine hct.mono ?_
      rintro _ w5 ⟨vm,rfl,hO,hF5⟩
      have HO:Hd (EO w5 wr.heap.size vm Em):=hO
      have HE5:Hd (EO w5 w3.heap.size u10 (edgK ss f k)):=HE.out.stay hF5
      have HF5:Hd (Fr (fun _=>False) w3 w5):=HFq.out.trans hF5
      have HAP:Hd (∀ g,u10.ownBlock=some g→vm.ownBlock≠some g):=fun g e e2=>by
       have h1:=(World.ownsRow.lt HE.out g e).2
       have h2:=(World.ownsRow.lt hO g e2).1
       omega
      have HLE:Hd ((edgK ss f k).length+Em.length≤163840):=by have h:=HKL.out;rw[HKS.out,List.length_append] at h;exact h
      obtain⟨ma,mc,em⟩:=own_slice hO
      subst em
      have hml:Em.length≤163840:=by have:=HLE.out;omega
      clear hct hO hF5 r0 r1 r2 r3 HE HFq
      go_wp2_with fail
      go_loopw [10,14] (fun v10 v14 wq=>∃ (j:Nat),v14 = .int .i64 j∧j≤Em.length∧Hd (EO wq w3.heap.size v10 (edgK ss f k++Em.take j))∧Hd (∃ B,EO wq B (.slice ma Em.length mc) Em)∧Hd (∀ g,v10.ownBlock=some g→(Value.slice ma Em.length mc).ownBlock≠some g)∧Hd (Fr (fun _=>False) w3 wq)) (fun _ v _=>match v with | .int _ q=>Em.length-q.toNat | _=>0)
      case atStart=>exact⟨0,rfl,by omega,by rw[List.take_zero,List.append_nil];exact HE5,⟨_,HO.out⟩,HAP,HF5⟩
      case round =>
       obtain⟨j,rfl,hj,HE,HM,HAP,HFq⟩:=hrel
       by_cases hjl:j<Em.length
       ·obtain⟨B,hM⟩:=HM.out
        obtain⟨mb,cap',e1,-,hmb,x0,x1,x2⟩:=hM.at hjl
        injection e1 with e1 e2 e3
        subst e1 e3
        have HTK:Hd (edgK ss f k++Em.take (j+1)=(edgK ss f k++Em.take j)++[(Em[j].1,Em[j].2.1,Em[j].2.2)]):=by
         unfold Hd
         rw[List.take_succ_eq_append_getElem hjl,List.append_assoc]
        have HL3:Hd ((edgK ss f k++Em.take j).length≤163840):=by
         have h:=HLE.out
         unfold Hd
         rw[List.length_append,List.length_take]
         omega
        have HMM:Hd (EO wr B (.slice (some ⟨mb,0,none⟩) Em.length mc) Em∧mb<wr.heap.size):=⟨hM,hmb⟩
        generalize Em[j].1=d0 at *
        generalize Em[j].2.1=d1 at *
        generalize Em[j].2.2=d2 at *
        generalize edgK ss f k++Em.take j=E at *
        obtain⟨ea,ec,ee⟩:=own_slice HE.out
        subst ee
        have HFn:Hd (Fr (fun _=>False) wr (wr.alloc (.cells #[vI d0,vI d1,vI d2] 140))):=Fr.alloc (Fr.refl _ wr) _
        have HRW:Hd ((wr.alloc (.cells #[vI d0,vI d1,vI d2] 140)).ownsRow w3.heap.size 140 3 (.slice ea E.length ec) E.length (E.flatMap edC)):=HE.out.stay HFn.out
        have hnews:∀ j u,[vI d0,vI d1,vI d2][j]?=some u→(wr.alloc (.cells #[vI d0,vI d1,vI d2] 140)).cell? ((⟨wr.heap.size,0,none⟩:Addr).add j)=some u :=
         World.news_of_block (cs:=#[vI d0,vI d1,vI d2]) (heap_new wr _)
        have hbase:w3.heap.size≤(wr.alloc (.cells #[vI d0,vI d1,vI d2] 140)).heap.size:=(HFq.out.trans HFn.out).size
        have hel:=HL3.out
        have hj0:(0:Int)≤j:=by omega
        have hj1:(j:Int)<Em.length:=by omega
        clear hM hmb HM
        go_wp2_with ((at_builtin;refine Hd.out ?_))
        unfold Hd
        refine wpList_append_lies _ rfl (.tmp 87) (.tmp 92) 85 rfl w3.heap.size 140 i7 (.agg #[vI 0,vI 0,vI 0]) 3 24 under36 hi7 hz7 hs7 hb7 rfl (by omega) (.slice ea E.length ec) E.length _ rfl HRW.out ⟨wr.heap.size,0,none⟩ 1 1 [vI d0,vI d1,vI d2] rfl rfl hnews (by intro u hu;simp at hu;rcases hu with rfl | rfl | rfl<;>rfl) (by omega) (by unfold maxLen;omega) (by omega) hbase (wr.heap.size+1) (by simp) ?_
        intro g6 cap6 w6 hown6 hgrow6 hat6 hlt6
        obtain⟨o1,o2⟩:=EO.grow (x:=(d0,d1,d2)) HE.out HFn.out hgrow6 hown6 HFq.out (Nat.le_refl _)
        have HQ1:Hd (EO w6 w3.heap.size (.slice (some ⟨g6,0,none⟩) (E.length+1) cap6) (edgK ss f k++Em.take (j+1))):=by unfold Hd;rw[HTK.out];exact o1
        have HQ2:Hd (Fr (fun _=>False) w3 w6):=o2
        have HQ3:Hd (∃ B,EO w6 B (.slice (some ⟨mb,0,none⟩) Em.length mc) Em):=⟨B,ownsRow_frL (HMM.out.1.stay HFn.out) (grown_frL hgrow6) (fun g e e2=>HAP.out g e2 e)⟩
        have HQ4:Hd (∀ g,(Value.slice (some ⟨g6,0,none⟩) (E.length+1) cap6).ownBlock=some g→(Value.slice (some ⟨mb,0,none⟩) Em.length mc).ownBlock≠some g):=fun g e e2=>by
         have e:some g6=some g:=e
         have e:=Option.some.inj e
         subst e
         rcases hat6 with h | h
         ·exact HAP.out g6 h e2
         ·have e2:some mb=some g6:=e2
          have e2:=Option.some.inj e2
          have:=HMM.out.2
          omega
        clear hown6 hgrow6 hat6 hlt6 o1 o2 hnews hbase HRW x0 x1 x2
        go_wp2_with fail
        exact⟨⟨j+1,castE j,hjl,HQ1,HQ3,HQ4,HQ2⟩,measE hjl⟩
       ·have hdj:decide ((j:Int)<Em.length)=false:=by simp;omega
        have HQ1:Hd (EO wr w3.heap.size u10 (edgK ss f (k+1))):=by
         have h:=HE.out
         rw[List.take_of_length_le (by omega),← HKS.out] at h
         exact h
        go_wp2_with fail
        exact⟨⟨k+1,castE k,hlt,HQ1,HFq⟩,measE hlt⟩
     ·have hdk:decide ((k:Int)<f.code.length)=false:=by simp;omega
      have hke:k=f.code.length:=by omega
      have HQ1:Hd (EO wr w.heap.size u10 (edgX ss f)):=by
       have h:EO wr w.heap.size u10 (edgK ss f k):=World.ownsRow.mono HE.out HFz.out.size
       rw[hke] at h
       exact h
      clear hke
      go_wp2_with fail
      refine bodyPost_ret (results_tmp2 Tryz.results55 _ _ _) rfl ?_
      exact HEND.out _ _ HTD.out HQ1.out (HFz.out.trans HFq.out)
 ·have hd1:((ss.length:Int) != (fs.length:Int))=true:=by simp;omega
  have HN:Hd (¬ EdgOk G fs i ss):=fun⟨_,_,_,h,_⟩=>hls h
  go_wp2_with fail
  refine bodyPost_ret (results_tmp2 Tryz.results55 _ _ _) rfl ?_
  exact ede_bad HN.out HFw.out
end Go.Proofs.YtdkijecnnmncnaaGreatDoor
