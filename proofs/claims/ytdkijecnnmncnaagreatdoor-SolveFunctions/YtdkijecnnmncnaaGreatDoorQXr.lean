import Derived.Test.YtdkijecnnmncnaaGreatDoorQXqJ
import Derived.Test.YtdkijecnnmncnaaGreatDoorQRhJ
import Derived.Test.YtdkijecnnmncnaaGreatDoorQEdJ
set_option linter.unusedVariables false
set_option linter.unusedSimpArgs false
namespace Go.Proofs.YtdkijecnnmncnaaGreatDoor
open Go.RowKit (wrap32 wrap64)
set_option maxRecDepth 100000
set_option maxHeartbeats 8000000
theorem fr_tc {B:Nat}{w0 a b:World}(f:Fr (fun _=>False) w0 a)(t:Tc B a b)(h:w0.heap.size≤B):Fr (fun _=>False) w0 b :=
 Fr.then f t.fr (fun j hj e=>by have:=e.1;omega)
theorem NL.mono {w:World}{B B':Nat}{v:Value}{n:Nat}(h:NL w B' v n)(hB:B≤B'):NL w B v n:=by
 obtain⟨g,cap,m,e,h1,h2,h3⟩:=h
 exact⟨g,cap,m,e,h1,Nat.le_trans hB h2,h3⟩
theorem NS.mono {w:World}{B B':Nat}{v:Value}{N:Nat}{hn rn:Nat→Nat}{ln:Nat→Nat→Nat}(h:NS w B' v N hn rn ln)(hB:B≤B'):NS w B v N hn rn ln:=by
 obtain⟨g,cap,cs,e,h1,h2⟩:=h
 refine⟨g,cap,cs,e,h1,fun i hi=>?_⟩
 obtain⟨hv,gr,rc,rs,k1,k2,k3,k4,k5⟩:=h2 i hi
 refine⟨hv,gr,rc,rs,k1,k2,k3.mono hB,k4,fun j hj=>?_⟩
 obtain⟨u,u1,u2⟩:=k5 j hj
 exact⟨u,u1,u2.mono hB⟩
theorem FinP.fine {fs:List PF}(h:FinP fs):FineP fs:=⟨by have:=h.1;omega,fun f hf=>by
 obtain⟨h1,h2⟩:=h.2 f hf
 exact⟨by omega,fun c hc=>by have:=h2 c hc;omega⟩⟩
theorem finS_ns {ss:List PS}(h:FinS ss):∀ i,i<ss.length→hnX ss i≤3000000000∧rnX ss i≤3000000000∧∀ j,j<rnX ss i→lnX ss i j≤3000000000:=fun i hi=>by
 have hg:ss.getD i dPS=ss[i]:=by simp[List.getD,hi]
 unfold hnX rnX lnX
 rw[hg]
 obtain⟨h1,h2,h3⟩:=h.2 _ (List.getElem_mem hi)
 refine⟨h1,h2,fun j hj=>?_⟩
 have:ss[i].R.getD j []=ss[i].R[j]:=by simp[List.getD,hj]
 rw[this]
 exact h3 _ (List.getElem_mem hj)
theorem finP_np {fs:List PF}(h:FinP fs):∀ i,i<fs.length→cnX fs i≤2147483647:=fun i hi=>by
 have hg:fs.getD i ⟨0,0,0,[]⟩=fs[i]:=by simp[List.getD,hi]
 unfold cnX
 rw[hg]
 exact(h.2 _ (List.getElem_mem hi)).1
theorem functions_any (G odd:Int)(fv sv:Value)(fs:List PF)(ss:List PS)(w:World)(h1:FA w fv fs)(h2:SsA w sv ss)(b1:FineP fs)(b2:FineS ss)(hT:Tab w)(hR:RowsA w) :
 Calls Tryz.prog 5 #[.agg #[vI G,fv],sv,vI odd] w fun e w'=>e = .returned (.bool true)∧Fr (fun _=>False) w w':=by
 obtain⟨fa,fc,efv,-⟩:=id h1
 obtain⟨sa,sc,esv,-⟩:=id h2
 subst efv esv
 obtain⟨wa,hwa⟩:∃ wa,wa=w.alloc (.cells #[vI G,.slice fa fs.length fc] 24):=⟨_,rfl⟩
 have HWA:Hd (wa=w.alloc (.cells #[vI G,.slice fa fs.length fc] 24)):=hwa
 obtain⟨H,hH⟩:∃ H,H=w.heap.size:=⟨_,rfl⟩
 have HH:Hd (H=w.heap.size):=hH
 have hb0:wa.heap[H]?=some (.cells #[vI G,.slice fa fs.length fc] 24):=by rw[hwa,hH];exact heap_new0 w _
 have HFA:Hd (Fr (fun _=>False) w wa):=by unfold Hd;rw[hwa];exact Fr.alloc (Fr.refl _ w) _
 have HB0:Hd (wa.heap[H]?=some (.cells #[vI G,.slice fa fs.length fc] 24)):=hb0
 have H1:Hd (FA w (.slice fa fs.length fc) fs):=h1
 have H2:Hd (SsA w (.slice sa ss.length sc) ss):=h2
 have B1:Hd (FineP fs):=b1
 have B2:Hd (FineS ss):=b2
 have HT:Hd (Tab w):=hT
 have HR:Hd (RowsA w):=hR
 have HP:Hd (∀ wx,Fr (fun _=>False) wa wx→wx.cell? ⟨H,0,none⟩=some (vI G)∧wx.cell? ⟨H,1,none⟩=some (.slice fa fs.length fc)):=fun wx hx=>by
  have hb:=keepF HB0.out hx
  exact⟨by rw[cell_of0 hb];rfl,by rw[cell_of0 hb];rfl⟩
 obtain⟨c0,c1⟩:=HP.out wa (Fr.refl _ wa)
 clear hwa hH hb0 h1 h2 b1 b2 hT hR
 go_enter Tryz.func5,Tryz.ntmps5
 go_upto_region 1 with fail
 rw[← HWA.out,← HH.out]
 clear HWA
 go_wp2_with fail
 refine(show Calls Tryz.prog 8 #[.agg #[vI G,.slice fa fs.length fc]] wa _ from long_any G _ fs wa (H1.out.stay HFA.out) B1.out).mono ?_
 rintro e w1 ⟨b,rfl,hF1,hl1⟩
 have HF1:Hd (Fr (fun _=>False) wa w1):=hF1
 have HL1:Hd (b=false→fs.length≤2147483647∧∀ f∈fs,SmC 2147483647 f.code):=hl1
 clear hF1 c0 c1 hl1
 cases b with
 | true =>
   go_wp2_with fail
   go_ret
   exact⟨rfl,HFA.out.trans HF1.out⟩
 | false =>
 go_wp2_with fail
 refine(show Calls Tryz.prog 9 #[.slice sa ss.length sc] w1 _ from longSums_any _ ss w1 (H2.out.stay (HFA.out.trans HF1.out)) B2.out).mono ?_
 rintro e w2 ⟨b,rfl,hF2,hl2⟩
 have HF2:Hd (Fr (fun _=>False) wa w2):=HF1.out.trans hF2
 have HL2:Hd (b=false→ss.length≤2147483647∧∀ s∈ss,SmS 2147483647 s):=hl2
 clear hF2 HF1 hl2
 cases b with
 | true =>
   go_wp2_with fail
   go_ret
   exact⟨rfl,HFA.out.trans HF2.out⟩
 | false =>
 have HFP:Hd (FinP fs):=⟨(HL1.out (by simp)).1,fun f hf=>⟨((HL1.out (by simp)).2 f hf).1,((HL1.out (by simp)).2 f hf).2⟩⟩
 have HFS:Hd (FinS ss):=⟨by have:=(HL2.out (by simp)).1;omega,fun s hs=>by
  obtain⟨k1,k2,k3⟩:=(HL2.out (by simp)).2 s hs
  exact⟨by omega,by omega,fun l hl=>by have:=k3 l hl;omega⟩⟩
 have hnf:fs.length≤2147483647:=HFP.out.1
 clear HL1 HL2
 obtain⟨c0,c1⟩:=HP.out w2 HF2.out
 go_wp2_with fail
 refine(show Calls Tryz.prog 18 #[.agg #[vI G,.slice fa fs.length fc]] w2 _ from spare_any G _ fs w2 (H1.out.stay (HFA.out.trans HF2.out)) HFP.out).mono ?_
 rintro e w3 ⟨qv,rfl,hq,hF3⟩
 obtain⟨qg,qc,eq⟩:∃ qg qc,qv = .slice (some ⟨qg,0,none⟩) fs.length qc:=by obtain⟨g,c,L,e,-⟩:=hq;exact⟨g,c,e⟩
 subst eq
 obtain⟨wb,hwb⟩:∃ wb,wb=w3.alloc (.cells #[vI G,.slice (some ⟨qg,0,none⟩) fs.length qc] 24):=⟨_,rfl⟩
 have HWB:Hd (wb=w3.alloc (.cells #[vI G,.slice (some ⟨qg,0,none⟩) fs.length qc] 24)):=hwb
 obtain⟨X,hX⟩:∃ X,X=w3.heap.size:=⟨_,rfl⟩
 have HX:Hd (X=w3.heap.size):=hX
 have hFb:Fr (fun _=>False) w3 wb:=by rw[hwb];exact Fr.alloc (Fr.refl _ _) _
 have HBX:Hd (wb.heap[X]?=some (.cells #[vI G,.slice (some ⟨qg,0,none⟩) fs.length qc] 24)):=by unfold Hd;rw[hwb,hX];exact heap_new0 w3 _
 obtain⟨B,hB⟩:∃ B,B=w2.heap.size:=⟨_,rfl⟩
 have HQ:Hd (SpF wb B (.slice (some ⟨qg,0,none⟩) fs.length qc) fs):=by rw[hB];exact hq.stay hFb
 have HFB:Hd (Fr (fun _=>False) wa wb):=(HF2.out.trans hF3).trans hFb
 have HLB:Hd (w.heap.size≤B∧B≤wb.heap.size):=by
  have k1:=HFA.out.size
  have k2:=HF2.out.size
  have k3:=(hF3.trans hFb).size
  unfold Hd
  omega
 clear hwb hX hFb hq hF3 HF2 c0 c1 hB
 go_upto_region 4 with fail
 rw[← HWB.out,← HX.out]
 clear HWB HX
 go_wp2_with fail
 refine(show Calls Tryz.prog 19 #[.slice sa ss.length sc] wb _ from spareSums_any _ ss wb (H2.out.stay (HFA.out.trans HFB.out)) HFS.out).mono ?_
 rintro e w4 ⟨iv,rfl,hi,hF4⟩
 obtain⟨ig,ic,ei⟩:∃ ig ic,iv = .slice (some ⟨ig,0,none⟩) ss.length ic:=by obtain⟨g,c,L,e,-⟩:=hi;exact⟨g,c,e⟩
 subst ei
 have HI:Hd (SpS w4 wb.heap.size (.slice (some ⟨ig,0,none⟩) ss.length ic) ss):=hi
 have HQ4:Hd (SpF w4 B (.slice (some ⟨qg,0,none⟩) fs.length qc) fs):=HQ.out.stay hF4
 have HF4:Hd (Fr (fun _=>False) w w4):=HFA.out.trans (HFB.out.trans hF4)
 have HBH:Hd (w4.heap[H]?=some (.cells #[vI G,.slice fa fs.length fc] 24)):=keepF HB0.out (HFB.out.trans hF4)
 have HBQ:Hd (w4.heap[X]?=some (.cells #[vI G,.slice (some ⟨qg,0,none⟩) fs.length qc] 24)):=keepF HBX.out hF4
 have HC1:Hd (∀ wx,Fr (fun _=>False) w4 wx→wx.cell? ⟨H,0,none⟩=some (vI G)∧wx.cell? ⟨H,1,none⟩=some (.slice fa fs.length fc)∧wx.cell? ⟨X,0,none⟩=some (vI G)∧wx.cell? ⟨X,1,none⟩=some (.slice (some ⟨qg,0,none⟩) fs.length qc)):=fun wx hx=>by
  have k1:=keepF HBH.out hx
  have k2:=keepF HBQ.out hx
  exact⟨by rw[cell_of0 k1];rfl,by rw[cell_of0 k1];rfl,by rw[cell_of0 k2];rfl,by rw[cell_of0 k2];rfl⟩
 have HA1:Hd (∀ F wx,Fr (fun _=>False) w4 wx→Calls Tryz.prog 13 #[.agg #[vI G,.slice (some ⟨qg,0,none⟩) fs.length qc],vI F,.slice (some ⟨ig,0,none⟩) ss.length ic] wx (AnE G fs F ss wx)):=fun F wx hx=>function_ans G _ _ fs ss F wx (HQ4.out.fa.stay hx) (HI.out.ssa.stay hx) B1.out B2.out (HT.out.stay (HF4.out.trans hx)) (HR.out.stay (HF4.out.trans hx) (tab_lt HT.out))
 have HA2:Hd (∀ F wx,Fr (fun _=>False) w4 wx→Calls Tryz.prog 20 #[.agg #[vI G,.slice fa fs.length fc],vI F,.slice sa ss.length sc] wx (AnE G fs F ss wx)):=fun F wx hx=>rfunction_ans G _ _ fs ss F wx (H1.out.stay (HF4.out.trans hx)) (H2.out.stay (HF4.out.trans hx)) B1.out B2.out
 clear hi hF4 HQ HFA HB0 HP HBX HFB
 obtain⟨n,hn⟩:∃ n,n=fs.length:=⟨_,rfl⟩
 have HN:Hd (n=fs.length):=hn
 rw[← hn] at HC1 HA1 HA2 HQ4 HBH HBQ H1 hnf ⊢
 clear hn
 go_wp2_with fail
 go_loopw [9] (fun v wr=>∃ (k:Nat),v = .int .i64 ((k:Int)-1)∧k≤n+3∧Hd (Fr (fun _=>False) w4 wr)) (fun v _=>match v with | .int _ q=>n+3-(q+1).toNat | _=>0)
 case atStart=>exact⟨0,rfl,by omega,Fr.refl _ _⟩
 case round =>
  obtain⟨k,rfl,hk,HF⟩:=hrel
  obtain⟨c0,c1,q0,q1⟩:=HC1.out wr HF.out
  by_cases hlt:k<n+3
  ·have hk1:(k:Int)-1≤(n:Int)+1:=by omega
   go_upto_if 49 with fail
   go_cut [10] from 36 to 81 (fun v wx=>(∃ F:Int,v=vI F)∧wr=wx)
   case first =>
    by_cases hk2:k<n+2
    ·have dk:decide ((n:Int)<(k:Int)-1)=false:=by simp;omega
     have dk2:decide ((k:Int)-1>(n:Int))=false:=by simp;omega
     go_wp2_with fail
     go_meet
     case rel=>exact⟨⟨_,rfl⟩,rfl⟩
    ·have dk:decide ((n:Int)<(k:Int)-1)=true:=by simp;omega
     have dk2:decide ((k:Int)-1>(n:Int))=true:=by simp;omega
     go_wp2_with fail
     go_meet
     case rel=>exact⟨⟨_,rfl⟩,rfl⟩
   case rest =>
   obtain⟨⟨F,rfl⟩,rfl⟩:=hcut
   go_wp2_with fail
   refine Calls.mono (HA1.out F wr HF.out) ?_
   rintro e wA ⟨hFA,a1,b1,d1,n1,m1,o1,x1,y1,z1,rfl,hB1,hI1,hL1⟩
   obtain⟨wB,hwB⟩:∃ wB,wB=wA.alloc (.cells #[.slice b1 m1 y1,.slice d1 o1 z1] 33):=⟨_,rfl⟩
   have HWB:Hd (wB=wA.alloc (.cells #[.slice b1 m1 y1,.slice d1 o1 z1] 33)):=hwB
   obtain⟨X1,hX1⟩:∃ X1,X1=wA.heap.size:=⟨_,rfl⟩
   have HX1:Hd (X1=wA.heap.size):=hX1
   have hFB:Fr (fun _=>False) wA wB:=by rw[hwB];exact Fr.alloc (Fr.refl _ _) _
   have bB:wB.heap[X1]?=some (.cells #[.slice b1 m1 y1,.slice d1 o1 z1] 33):=by rw[hwB,hX1];exact heap_new0 wA _
   have HB1:Hd (BL wB (.slice a1 n1 x1) (ansB G fs F ss)):=hB1.stay hFB
   have HI1:Hd (IA wB (.slice b1 m1 y1) (ansS G fs F ss).H):=hI1.stay hFB
   have HL1:Hd (LA wB (.slice d1 o1 z1) (ansS G fs F ss).R):=hL1.stay hFB
   have HFB:Hd (Fr (fun _=>False) w4 wB):=(HF.out.trans hFA).trans hFB
   have HBB:Hd (wB.heap[X1]?=some (.cells #[.slice b1 m1 y1,.slice d1 o1 z1] 33)):=bB
   clear hwB hX1 hFA hFB bB hB1 hI1 hL1 HF c0 c1 q0 q1
   go_upto_region 12 with fail
   rw[← HWB.out,← HX1.out]
   clear HWB HX1
   obtain⟨c0,c1,q0,q1⟩:=HC1.out wB HFB.out
   go_wp2_with fail
   refine Calls.mono (HA2.out F wB HFB.out) ?_
   rintro e wC ⟨hFC,a2,b2,d2,n2,m2,o2,x2,y2,z2,rfl,hB2,hI2,hL2⟩
   obtain⟨wD,hwD⟩:∃ wD,wD=wC.alloc (.cells #[.slice b2 m2 y2,.slice d2 o2 z2] 33):=⟨_,rfl⟩
   have HWD:Hd (wD=wC.alloc (.cells #[.slice b2 m2 y2,.slice d2 o2 z2] 33)):=hwD
   obtain⟨X2,hX2⟩:∃ X2,X2=wC.heap.size:=⟨_,rfl⟩
   have HX2:Hd (X2=wC.heap.size):=hX2
   have hFD:Fr (fun _=>False) wC wD:=by rw[hwD];exact Fr.alloc (Fr.refl _ _) _
   have hGD:=hFC.trans hFD
   have bD:wD.heap[X2]?=some (.cells #[.slice b2 m2 y2,.slice d2 o2 z2] 33):=by rw[hwD,hX2];exact heap_new0 wC _
   have HEQ:Hd (Calls Tryz.prog 21 #[.slice a1 n1 x1,.slice a2 n2 x2] wD fun e w'=>e = .returned (.bool true)∧Fr (fun _=>False) wD w'):=eqBools_same _ _ _ wD (HB1.out.stay hGD) (hB2.stay hFD) (by have:=(ans_len G fs F ss).1;omega)
   have HES:Hd (∀ wx,Fr (fun _=>False) wD wx→Calls Tryz.prog 22 #[.agg #[.slice b1 m1 y1,.slice d1 o1 z1],.agg #[.slice b2 m2 y2,.slice d2 o2 z2]] wx fun e w'=>e = .returned (.bool true)∧Fr (fun _=>False) wx w'):=fun wx hx=>eqSummary_same _ _ _ _ _ _ wx ((HI1.out.stay hGD).stay hx) ((HL1.out.stay hGD).stay hx) ((hI2.stay hFD).stay hx) ((hL2.stay hFD).stay hx) (by have:=(ans_len G fs F ss).2.1;omega) (by have:=(ans_len G fs F ss).2.2.1;omega) (fun l hl=>by have:=(ans_len G fs F ss).2.2.2 l hl;omega)
   have HFD:Hd (Fr (fun _=>False) w4 wD):=HFB.out.trans hGD
   have HBX:Hd (∀ wx,Fr (fun _=>False) wD wx→wx.cell? ⟨X1,0,none⟩=some (.slice b1 m1 y1)∧wx.cell? ⟨X1,1,none⟩=some (.slice d1 o1 z1)∧wx.cell? ⟨X2,0,none⟩=some (.slice b2 m2 y2)∧wx.cell? ⟨X2,1,none⟩=some (.slice d2 o2 z2)):=fun wx hx=>by
    have k1:=keepF (keepF HBB.out hGD) hx
    have k2:=keepF bD hx
    exact⟨by rw[cell_of0 k1];rfl,by rw[cell_of0 k1];rfl,by rw[cell_of0 k2];rfl,by rw[cell_of0 k2];rfl⟩
   clear hwD hX2 hFC hFD hGD bD hB2 hI2 hL2 HFB HBB HB1 HI1 HL1 c0 c1 q0 q1
   generalize ansZ G fs F ss=zz at *
   go_upto_region 13 with fail
   rw[← HWD.out,← HX2.out]
   clear HWD HX2
   go_wp2_with fail
   refine Calls.mono HEQ.out ?_
   rintro e wE ⟨rfl,hFE⟩
   obtain⟨k1,k2,k3,k4⟩:=HBX.out wE hFE
   have HSE:Hd (Calls Tryz.prog 22 #[.agg #[.slice b1 m1 y1,.slice d1 o1 z1],.agg #[.slice b2 m2 y2,.slice d2 o2 z2]] wE fun e w'=>e = .returned (.bool true)∧Fr (fun _=>False) wE w'):=HES.out wE hFE
   have HFE:Hd (Fr (fun _=>False) w4 wE):=HFD.out.trans hFE
   clear hFE HEQ HES HBX HFD
   go_wp2_with fail
   refine Calls.mono HSE.out ?_
   rintro e wG ⟨rfl,hFG⟩
   have HFG:Hd (Fr (fun _=>False) w4 wG):=HFE.out.trans hFG
   clear hFG HFE HSE k1 k2 k3 k4
   go_wp2_with fail
   exact⟨⟨k+1,by simp,by omega,HFG.out⟩,by simp;omega⟩
  ·have dk:decide ((k:Int)-1≤(n:Int)+1)=false:=by simp;omega
   clear hk hlt
   have HW4:Hd (Fr (fun _=>False) w wr):=HF4.out.trans HF.out
   have HST:Hd (Calls Tryz.prog 23 #[.slice (some ⟨ig,0,none⟩) ss.length ic,.slice sa ss.length sc] wr fun e w'=>e = .returned (.bool true)∧Fr (fun _=>False) wr w'):=staySums_any _ _ ss wb.heap.size wr (HI.out.stay HF.out) (H2.out.stay HW4.out) HFS.out
   go_wp2_with fail
   refine Calls.mono HST.out ?_
   rintro e w5 ⟨rfl,hF5⟩
   have HF5:Hd (Fr (fun _=>False) w4 w5):=HF.out.trans hF5
   have HSY:Hd (Calls Tryz.prog 24 #[.agg #[vI G,.slice (some ⟨qg,0,none⟩) n qc],.agg #[vI G,.slice fa n fc]] w5 fun e w'=>e = .returned (.bool true)∧Fr (fun _=>False) w5 w'):=stays_any G _ _ fs B w5 (HQ4.out.stay HF5.out) (H1.out.stay (HF4.out.trans HF5.out)) HFP.out
   clear hF5 HST HF HW4 c0 c1 q0 q1 dk
   obtain⟨c0,c1,q0,q1⟩:=HC1.out w5 HF5.out
   go_wp2_with fail
   refine Calls.mono HSY.out ?_
   rintro e w6 ⟨rfl,hF6⟩
   have HF6:Hd (Fr (fun _=>False) w4 w6):=HF5.out.trans hF6
   clear hF6 HSY HF5 c0 c1 q0 q1
   obtain⟨c0,c1,q0,q1⟩:=HC1.out w6 HF6.out
   go_wp2_with fail
   refine Calls.mono (HA1.out 0 w6 HF6.out) ?_
   rintro e w7 ⟨hF7,a1,b1,d1,n1,m1,o1,x1,y1,z1,rfl,-,-,-⟩
   have HF7:Hd (Fr (fun _=>False) w4 w7):=HF6.out.trans hF7
   have HNP:Hd (NP w7 B (.slice (some ⟨qg,0,none⟩) n qc) n (cnX fs)):=by
    have k:=(HQ4.out.stay HF7.out).np HFP.out
    rw[← HN.out] at k
    exact k
   have HTN:Hd (Calls Tryz.prog 25 #[.agg #[vI G,.slice (some ⟨qg,0,none⟩) n qc]] w7 fun e w'=>e = .returned (.tuple #[])∧Tc B w7 w'):=turn_any G _ n B (cnX fs) w7 HNP.out hnf (fun i hi=>finP_np HFP.out i (by have:=HN.out;omega))
   clear hF7 HF6 c0 c1 q0 q1
   obtain⟨c0,c1,q0,q1⟩:=HC1.out w7 HF7.out
   go_wp2_with fail
   refine Calls.mono HTN.out ?_
   rintro e w8 ⟨rfl,hT8⟩
   have HNS:Hd (NS w8 B (.slice (some ⟨ig,0,none⟩) ss.length ic) ss.length (hnX ss) (rnX ss) (lnX ss)):=((HI.out.stay HF7.out).ns.mono HLB.out.2).tc hT8
   have HTS:Hd (Calls Tryz.prog 26 #[.slice (some ⟨ig,0,none⟩) ss.length ic] w8 fun e w'=>e = .returned (.tuple #[])∧Tn B w8 w'):=turnSums_any _ _ B _ _ _ w8 HNS.out HFS.out.1 (finS_ns HFS.out)
   have HT8:Hd (Tc B w7 w8):=hT8
   clear hT8 HTN c0 c1 q0 q1
   go_wp2_with fail
   refine Calls.mono HTS.out ?_
   rintro e w9 ⟨rfl,hT9⟩
   have hTc9:Tc B w7 w9:=HT8.out.trans (Tc.tn hT9)
   have HF9:Hd (Fr (fun _=>False) w w9):=fr_tc (HF4.out.trans HF7.out) hTc9 HLB.out.1
   have BH9:Hd (w9.heap[H]?=some (.cells #[vI G,.slice fa n fc] 24)):=hTc9.other (keepF HBH.out HF7.out) (by decide) (by decide)
   have BX9:Hd (w9.heap[X]?=some (.cells #[vI G,.slice (some ⟨qg,0,none⟩) n qc] 24)):=hTc9.other (keepF HBQ.out HF7.out) (by decide) (by decide)
   obtain⟨gs,hgl,hgf,hgp⟩:=(HNP.out.tc hTc9).fa hnf (fun i hi=>finP_np HFP.out i (by have:=HN.out;omega))
   obtain⟨ts,htl,htf,htp⟩:=(HNS.out.tn hT9).ssa HFS.out.1 (finS_ns HFS.out)
   have HGF:Hd (FA w9 (.slice (some ⟨qg,0,none⟩) n qc) gs):=hgf
   have HGP:Hd (FineP gs):=hgp.fine
   have HTF:Hd (SsA w9 (.slice (some ⟨ig,0,none⟩) ss.length ic) ts):=htf
   have HTP:Hd (FineS ts):=htp.fine
   have HGL:Hd (gs.length=n):=hgl
   have HTL:Hd (ts.length=ss.length):=htl
   clear hT9 hTc9 HTS HT8 HNS HNP HF7 HI HQ4 HA1 HA2 HC1 HBH HBQ HF4 HFP HFS B1 B2 H1 H2 hgl hgf hgp htl htf htp HLB
   have q0:w9.cell? ⟨X,0,none⟩=some (vI G):=by rw[cell_of0 BX9.out];rfl
   have q1:w9.cell? ⟨X,1,none⟩=some (.slice (some ⟨qg,0,none⟩) n qc):=by rw[cell_of0 BX9.out];rfl
   have HCP:Hd (Calls Tryz.prog 15 #[.agg #[vI G,.slice (some ⟨qg,0,none⟩) n qc]] w9 fun e w'=>∃ oa oc,e = .returned (.agg #[vI G,.slice oa n oc])∧FA w' (.slice oa n oc) gs∧Fr (fun _=>False) w9 w'):=by
    refine(copyProgramO_any G _ gs w9 HGF.out HGP.out).mono ?_
    rintro e w' ⟨v',L,rfl,hfo,hm,hf⟩
    have k:=hfo.fa
    rw[hm] at k
    obtain⟨oa,oc,rfl,-⟩:=id k
    rw[HGL.out] at k ⊢
    exact⟨oa,oc,rfl,k,hf⟩
   go_wp2_with fail
   refine Calls.mono HCP.out ?_
   rintro e w10 ⟨oa,oc,rfl,ho,hF10⟩
   obtain⟨wo,hwo⟩:∃ wo,wo=w10.alloc (.cells #[vI G,.slice oa n oc] 24):=⟨_,rfl⟩
   have HWO:Hd (wo=w10.alloc (.cells #[vI G,.slice oa n oc] 24)):=hwo
   obtain⟨Y,hY⟩:∃ Y,Y=w10.heap.size:=⟨_,rfl⟩
   have HY:Hd (Y=w10.heap.size):=hY
   have hFo:Fr (fun _=>False) w10 wo:=by rw[hwo];exact Fr.alloc (Fr.refl _ _) _
   have HBY:Hd (wo.heap[Y]?=some (.cells #[vI G,.slice oa n oc] 24)):=by unfold Hd;rw[hwo,hY];exact heap_new0 w10 _
   have HOF:Hd (FA wo (.slice oa n oc) gs):=ho.stay hFo
   have HFO:Hd (Fr (fun _=>False) w9 wo):=hF10.trans hFo
   have HCS:Hd (Calls Tryz.prog 27 #[.slice (some ⟨ig,0,none⟩) ss.length ic] wo fun e w'=>∃ ua uc,e = .returned (.slice ua ss.length uc)∧SsA w' (.slice ua ss.length uc) ts∧Fr (fun _=>False) wo w'):=by
    refine(copySums_any _ ts wo (HTF.out.stay HFO.out) HTP.out).mono ?_
    rintro e w' ⟨v',L,rfl,hfo,hm,hf⟩
    have k:=hfo.sa
    rw[hm] at k
    obtain⟨oa,oc,rfl,-⟩:=id k
    rw[HTL.out] at k ⊢
    exact⟨oa,oc,rfl,k,hf⟩
   clear hwo hY hFo ho hF10 HCP q0 q1
   go_upto_region 21 with fail
   rw[← HWO.out,← HY.out]
   clear HWO HY
   go_wp2_with fail
   refine Calls.mono HCS.out ?_
   rintro e wz ⟨ua,uc,rfl,hu,hFz⟩
   have HFZ:Hd (Fr (fun _=>False) w9 wz):=HFO.out.trans hFz
   have HC2:Hd (∀ wx,Fr (fun _=>False) wz wx→wx.cell? ⟨H,1,none⟩=some (.slice fa n fc)∧wx.cell? ⟨X,0,none⟩=some (vI G)∧wx.cell? ⟨X,1,none⟩=some (.slice (some ⟨qg,0,none⟩) n qc)∧wx.cell? ⟨Y,0,none⟩=some (vI G)∧wx.cell? ⟨Y,1,none⟩=some (.slice oa n oc)):=fun wx hx=>by
    have k1:=keepF BH9.out (HFZ.out.trans hx)
    have k2:=keepF BX9.out (HFZ.out.trans hx)
    have k3:=keepF HBY.out (hFz.trans hx)
    exact⟨by rw[cell_of0 k1];rfl,by rw[cell_of0 k2];rfl,by rw[cell_of0 k2];rfl,by rw[cell_of0 k3];rfl,by rw[cell_of0 k3];rfl⟩
   have HA3:Hd (∀ F wx,Fr (fun _=>False) wz wx→Calls Tryz.prog 13 #[.agg #[vI G,.slice (some ⟨qg,0,none⟩) n qc],vI F,.slice (some ⟨ig,0,none⟩) ss.length ic] wx (AnE G gs F ts wx)):=fun F wx hx=>function_ans G _ _ gs ts F wx (HGF.out.stay (HFZ.out.trans hx)) (HTF.out.stay (HFZ.out.trans hx)) HGP.out HTP.out (HT.out.stay (HF9.out.trans (HFZ.out.trans hx))) (HR.out.stay (HF9.out.trans (HFZ.out.trans hx)) (tab_lt HT.out))
   have HA4:Hd (∀ F wx,Fr (fun _=>False) wz wx→Calls Tryz.prog 20 #[.agg #[vI G,.slice oa n oc],vI F,.slice ua ss.length uc] wx (AnE G gs F ts wx)):=fun F wx hx=>rfunction_ans G _ _ gs ts F wx (HOF.out.stay (hFz.trans hx)) (hu.stay hx) HGP.out HTP.out
   have HFW:Hd (Fr (fun _=>False) w wz):=HF9.out.trans HFZ.out
   clear hu hFz HFZ HFO HCS HBY HOF HGF HTF HF9 BH9 BX9
   go_wp2_with fail
   go_loopw [19] (fun v wr=>∃ (k:Nat),v = .int .i64 k∧k≤n∧Hd (Fr (fun _=>False) wz wr)) (fun v _=>match v with | .int _ q=>n-q.toNat | _=>0)
   case atStart=>exact⟨0,rfl,by omega,Fr.refl _ _⟩
   case round =>
    obtain⟨k,rfl,hk,HF⟩:=hrel
    obtain⟨c1,q0,q1,j0,j1⟩:=HC2.out wr HF.out
    by_cases hlt:k<n
    ·have hk1:(k:Int)<n:=by omega
     go_wp2_with fail
     refine Calls.mono (HA3.out k wr HF.out) ?_
     rintro e wA ⟨hFA,a1,b1,d1,n1,m1,o1,x1,y1,z1,rfl,hB1,hI1,hL1⟩
     obtain⟨wB,hwB⟩:∃ wB,wB=wA.alloc (.cells #[.slice b1 m1 y1,.slice d1 o1 z1] 33):=⟨_,rfl⟩
     have HWB:Hd (wB=wA.alloc (.cells #[.slice b1 m1 y1,.slice d1 o1 z1] 33)):=hwB
     obtain⟨X1,hX1⟩:∃ X1,X1=wA.heap.size:=⟨_,rfl⟩
     have HX1:Hd (X1=wA.heap.size):=hX1
     have hFB:Fr (fun _=>False) wA wB:=by rw[hwB];exact Fr.alloc (Fr.refl _ _) _
     have bB:wB.heap[X1]?=some (.cells #[.slice b1 m1 y1,.slice d1 o1 z1] 33):=by rw[hwB,hX1];exact heap_new0 wA _
     have HB1:Hd (BL wB (.slice a1 n1 x1) (ansB G gs k ts)):=hB1.stay hFB
     have HI1:Hd (IA wB (.slice b1 m1 y1) (ansS G gs k ts).H):=hI1.stay hFB
     have HL1:Hd (LA wB (.slice d1 o1 z1) (ansS G gs k ts).R):=hL1.stay hFB
     have HFB:Hd (Fr (fun _=>False) wz wB):=(HF.out.trans hFA).trans hFB
     have HBB:Hd (wB.heap[X1]?=some (.cells #[.slice b1 m1 y1,.slice d1 o1 z1] 33)):=bB
     clear hwB hX1 hFA hFB bB hB1 hI1 hL1 HF c1 q0 q1 j0 j1
     go_upto_region 26 with fail
     rw[← HWB.out,← HX1.out]
     clear HWB HX1
     obtain⟨c1,q0,q1,j0,j1⟩:=HC2.out wB HFB.out
     go_wp2_with fail
     refine Calls.mono (HA4.out k wB HFB.out) ?_
     rintro e wC ⟨hFC,a2,b2,d2,n2,m2,o2,x2,y2,z2,rfl,hB2,hI2,hL2⟩
     obtain⟨wD,hwD⟩:∃ wD,wD=wC.alloc (.cells #[.slice b2 m2 y2,.slice d2 o2 z2] 33):=⟨_,rfl⟩
     have HWD:Hd (wD=wC.alloc (.cells #[.slice b2 m2 y2,.slice d2 o2 z2] 33)):=hwD
     obtain⟨X2,hX2⟩:∃ X2,X2=wC.heap.size:=⟨_,rfl⟩
     have HX2:Hd (X2=wC.heap.size):=hX2
     have hFD:Fr (fun _=>False) wC wD:=by rw[hwD];exact Fr.alloc (Fr.refl _ _) _
     have hGD:=hFC.trans hFD
     have bD:wD.heap[X2]?=some (.cells #[.slice b2 m2 y2,.slice d2 o2 z2] 33):=by rw[hwD,hX2];exact heap_new0 wC _
     have HEQ:Hd (Calls Tryz.prog 21 #[.slice a1 n1 x1,.slice a2 n2 x2] wD fun e w'=>e = .returned (.bool true)∧Fr (fun _=>False) wD w'):=eqBools_same _ _ _ wD (HB1.out.stay hGD) (hB2.stay hFD) (by have:=(ans_len G gs k ts).1;omega)
     have HES:Hd (∀ wx,Fr (fun _=>False) wD wx→Calls Tryz.prog 22 #[.agg #[.slice b1 m1 y1,.slice d1 o1 z1],.agg #[.slice b2 m2 y2,.slice d2 o2 z2]] wx fun e w'=>e = .returned (.bool true)∧Fr (fun _=>False) wx w'):=fun wx hx=>eqSummary_same _ _ _ _ _ _ wx ((HI1.out.stay hGD).stay hx) ((HL1.out.stay hGD).stay hx) ((hI2.stay hFD).stay hx) ((hL2.stay hFD).stay hx) (by have:=(ans_len G gs k ts).2.1;omega) (by have:=(ans_len G gs k ts).2.2.1;omega) (fun l hl=>by have:=(ans_len G gs k ts).2.2.2 l hl;omega)
     have HFD:Hd (Fr (fun _=>False) wz wD):=HFB.out.trans hGD
     have HBX:Hd (∀ wx,Fr (fun _=>False) wD wx→wx.cell? ⟨X1,0,none⟩=some (.slice b1 m1 y1)∧wx.cell? ⟨X1,1,none⟩=some (.slice d1 o1 z1)∧wx.cell? ⟨X2,0,none⟩=some (.slice b2 m2 y2)∧wx.cell? ⟨X2,1,none⟩=some (.slice d2 o2 z2)):=fun wx hx=>by
      have k1:=keepF (keepF HBB.out hGD) hx
      have k2:=keepF bD hx
      exact⟨by rw[cell_of0 k1];rfl,by rw[cell_of0 k1];rfl,by rw[cell_of0 k2];rfl,by rw[cell_of0 k2];rfl⟩
     clear hwD hX2 hFC hFD hGD bD hB2 hI2 hL2 HFB HBB HB1 HI1 HL1 c1 q0 q1 j0 j1
     generalize ansZ G gs k ts=zz at *
     go_upto_region 27 with fail
     rw[← HWD.out,← HX2.out]
     clear HWD HX2
     go_wp2_with fail
     refine Calls.mono HEQ.out ?_
     rintro e wE ⟨rfl,hFE⟩
     obtain⟨k1,k2,k3,k4⟩:=HBX.out wE hFE
     have HSE:Hd (Calls Tryz.prog 22 #[.agg #[.slice b1 m1 y1,.slice d1 o1 z1],.agg #[.slice b2 m2 y2,.slice d2 o2 z2]] wE fun e w'=>e = .returned (.bool true)∧Fr (fun _=>False) wE w'):=HES.out wE hFE
     have HFE:Hd (Fr (fun _=>False) wz wE):=HFD.out.trans hFE
     clear hFE HEQ HES HBX HFD
     go_wp2_with fail
     refine Calls.mono HSE.out ?_
     rintro e wG ⟨rfl,hFG⟩
     have HFG:Hd (Fr (fun _=>False) wz wG):=HFE.out.trans hFG
     clear hFG HFE HSE k1 k2 k3 k4
     go_wp2_with fail
     exact⟨⟨k+1,by simp,by omega,HFG.out⟩,by simp;omega⟩
    ·have dk:decide ((k:Int)<n)=false:=by simp;omega
     go_wp2_with fail
     go_ret
     exact⟨rfl,HFW.out.trans HF.out⟩
end Go.Proofs.YtdkijecnnmncnaaGreatDoor
