import Derived.Test.YtingenonbkencaaDoorQUeJ
import Derived.Test.YtingenonbkencaaDoorQE3J
set_option linter.unusedVariables false
set_option linter.unusedSimpArgs false
namespace Go.Proofs.YtingenonbkencaaDoor
open Go.RowKit (wrap32 wrap64)
set_option maxRecDepth 100000
set_option maxHeartbeats 4000000
theorem rcheck_any (w:World)(G:Int)(fs:List PF)(fv:Value)(hl:FL (w.heap.size+1) w fv fs) :
 Calls Tryd.prog 25 #[.agg #[vI G,fv]] w fun e w'=>e = .returned (vI (rAll G fs).2)∧Fr (fun _=>False) w w':=by
 have HFL:Hd (FL (w.heap.size+1) w fv fs):=hl
 obtain⟨hlen,fa,fcap,rfl,hin⟩:=hl
 have HIN:Hd _:=hin
 clear hin
 have hP:((w.alloc (.cells #[vI G,.slice fa fs.length fcap] 26)).alloc (.cells #[vI G,.slice fa fs.length fcap,vI 0,vI 0] 58)).heap[w.heap.size]?=some (.cells #[vI G,.slice fa fs.length fcap] 26):=by
  rw[Go.RowKit.Below.heap_alloc _ _ _ (by simp)];exact heap_new w _
 have hR:RW (w.heap.size+1) G (.slice fa fs.length fcap) ((w.alloc (.cells #[vI G,.slice fa fs.length fcap] 26)).alloc (.cells #[vI G,.slice fa fs.length fcap,vI 0,vI 0] 58)) 0 0:=by
  unfold RW;rw[show w.heap.size+1=(w.alloc (.cells #[vI G,.slice fa fs.length fcap] 26)).heap.size by simp];exact heap_new _ _
 have HF:Hd (Fr (fun k=>k=w.heap.size+1) w ((w.alloc (.cells #[vI G,.slice fa fs.length fcap] 26)).alloc (.cells #[vI G,.slice fa fs.length fcap,vI 0,vI 0] 58))):=Fr.alloc (Fr.alloc (Fr.refl _ w) _) _
 have HP:Hd _:=hP
 have HR:Hd _:=hR
 clear hP hR
 obtain⟨H,hH⟩:∃ H,H=w.heap.size:=⟨_,rfl⟩
 have HH:Hd (H=w.heap.size):=hH
 have HE:Hd (∀ w',Fr (fun k=>k=H+1) w w'→Fr (fun _=>False) w w'):=fun w' h=>h.mono (fun k hk hS=>by have:=HH.out;omega)
 obtain⟨T,HT⟩:∃ T,Hd (T=rAll G fs):=⟨_,rfl⟩
 rw[← HT.out]
 go_enter Tryd.func25,Tryd.ntmps25
 go_upto_region 2 with fail
 rw[← hH] at HFL HIN HP HR HF ⊢
 clear hH
 generalize (w.alloc (.cells #[vI G,.slice fa fs.length fcap] 26)).alloc (.cells #[vI G,.slice fa fs.length fcap,vI 0,vI 0] 58)=wa at *
 have p0:wa.cell? ⟨H,0,none⟩=some (vI G):=by rw[cell_of HP.out];rfl
 go_cut [] from 11 to 20 (fun wx=>Hd (RW (H+1) G (.slice fa fs.length fcap) wx 0 (rE0 G))∧Hd (wx.heap[H]?=some (.cells #[vI G,.slice fa fs.length fcap] 26))∧Hd (Fr (fun k=>k=H+1) w wx))
 case first =>
  by_cases hg:0≤G
  ·have hq:Hd ((decide (0≤G)&&decide (G≤16))=decide (G≤16)):=by unfold Hd;simp[hg]
   go_wp2_with fail
   refine(rmust (H+1) G _ wa 0 0 HR.out (decide (G≤16)) 18).mono ?_
   rintro e w2 ⟨rfl,h2,hf2⟩
   have X1:Hd (RW (H+1) G (.slice fa fs.length fcap) w2 0 (rE0 G)):=by unfold Hd rE0;rw[hq.out];exact h2
   have X2:Hd (w2.heap[H]?=some (.cells #[vI G,.slice fa fs.length fcap] 26)):=(hf2.block H (heap_lt HP.out) (by omega)).trans HP.out
   have X3:Hd (Fr (fun k=>k=H+1) w w2):=HF.out.trans hf2
   clear h2 hf2
   go_wp2_with fail
   go_meet
   exact⟨X1,X2,X3⟩
  ·have hq:Hd ((decide (0≤G)&&decide (G≤16))=false):=by unfold Hd;simp[hg]
   go_wp2_with fail
   refine(rmust (H+1) G _ wa 0 0 HR.out false 18).mono ?_
   rintro e w2 ⟨rfl,h2,hf2⟩
   have X1:Hd (RW (H+1) G (.slice fa fs.length fcap) w2 0 (rE0 G)):=by unfold Hd rE0;rw[hq.out];exact h2
   have X2:Hd (w2.heap[H]?=some (.cells #[vI G,.slice fa fs.length fcap] 26)):=(hf2.block H (heap_lt HP.out) (by omega)).trans HP.out
   have X3:Hd (Fr (fun k=>k=H+1) w w2):=HF.out.trans hf2
   clear h2 hf2
   go_wp2_with fail
   go_meet
   exact⟨X1,X2,X3⟩
 case rest =>
 clear HR HP HF p0
 obtain⟨HR,HP,HF⟩:=hcut
 go_upto_region 3 with fail
 have p1:wc.cell? ⟨H,1,none⟩=some (.slice fa fs.length fcap):=by rw[cell_of HP.out];rfl
 go_cut [] from 21 to 32 (fun wx=>Hd (RW (H+1) G (.slice fa fs.length fcap) wx 0 (rE1 G fs.length))∧Hd (wx.heap[H]?=some (.cells #[vI G,.slice fa fs.length fcap] 26))∧Hd (Fr (fun k=>k=H+1) w wx))
 case first =>
  by_cases hg:(1:Int)≤fs.length
  ·have hq:Hd ((decide ((1:Int)≤fs.length)&&decide ((fs.length:Int)≤65535))=decide ((fs.length:Int)≤65535)):=by unfold Hd;rw[decide_eq_true hg];rfl
   go_wp2_with fail
   refine(rmust (H+1) G _ wc 0 (rE0 G) HR.out (decide ((fs.length:Int)≤65535)) 20).mono ?_
   rintro e w2 ⟨rfl,h2,hf2⟩
   have X1:Hd (RW (H+1) G (.slice fa fs.length fcap) w2 0 (rE1 G fs.length)):=by unfold Hd rE1;rw[hq.out];exact h2
   have X2:Hd (w2.heap[H]?=some (.cells #[vI G,.slice fa fs.length fcap] 26)):=(hf2.block H (heap_lt HP.out) (by omega)).trans HP.out
   have X3:Hd (Fr (fun k=>k=H+1) w w2):=HF.out.trans hf2
   clear h2 hf2
   go_wp2_with fail
   go_meet
   exact⟨X1,X2,X3⟩
  ·have hq:Hd ((decide ((1:Int)≤fs.length)&&decide ((fs.length:Int)≤65535))=false):=by unfold Hd;rw[decide_eq_false hg];rfl
   go_wp2_with fail
   refine(rmust (H+1) G _ wc 0 (rE0 G) HR.out false 20).mono ?_
   rintro e w2 ⟨rfl,h2,hf2⟩
   have X1:Hd (RW (H+1) G (.slice fa fs.length fcap) w2 0 (rE1 G fs.length)):=by unfold Hd rE1;rw[hq.out];exact h2
   have X2:Hd (w2.heap[H]?=some (.cells #[vI G,.slice fa fs.length fcap] 26)):=(hf2.block H (heap_lt HP.out) (by omega)).trans HP.out
   have X3:Hd (Fr (fun k=>k=H+1) w w2):=HF.out.trans hf2
   clear h2 hf2
   go_wp2_with fail
   go_meet
   exact⟨X1,X2,X3⟩
 case rest =>
 clear HR HP HF p1
 obtain⟨HR,HP,HF⟩:=hcut
 go_upto_block 0 with fail
 go_cut [4] from 33 to 60 (fun x wx=>∃ (L E:Int),Hd (RW (H+1) G (.slice fa fs.length fcap) wx L E)∧Hd (Low L E)∧Hd (rHd G fs=(L,E))∧Hd (wx.heap[H]?=some (.cells #[vI G,.slice fa fs.length fcap] 26))∧Hd (Fr (fun k=>k=H+1) w wx))
 case first =>
  go_wp2_with fail
  go_loopw [4] (fun v wx=>∃ (k:Nat) (L E:Int),v = .int .i64 k∧k≤fs.length∧Hd (RW (H+1) G (.slice fa fs.length fcap) wx L E)∧Hd (Low L E)∧Hd (rHd G fs=rHeads (fs.drop k) L E)∧Hd (wx.heap[H]?=some (.cells #[vI G,.slice fa fs.length fcap] 26))∧Hd (Fr (fun k=>k=H+1) w wx)) (fun v _=>match v with | .int _ q=>fs.length-q.toNat | _=>0)
  case atStart=>exact⟨0,0,rE1 G fs.length,rfl,Nat.zero_le _,HR,Low.zero _,rfl,HP,HF⟩
  case round =>
   clear HR HP HF
   obtain⟨k,L,E,rfl,hk,HR,HLO,HRH,HP,HF⟩:=hrel
   have p1:wr.cell? ⟨H,1,none⟩=some (.slice fa fs.length fcap):=by rw[cell_of HP.out];rfl
   obtain⟨-,-,-,r3,-,-⟩:=HR.out.cells
   by_cases hlt:k<fs.length
   ·by_cases hE:E=0
    ·subst hE
     have hne:fs≠[]:=by intro e;simp[e] at hlt
     obtain⟨fk,fo,rfl,hfk,hfb,hfc⟩:=HIN.out hne
     obtain⟨cv,f0,f1,f2,f3,hcl⟩:=hfc k hlt
     obtain⟨-,ca,ccap,rfl,-⟩:=hcl
     have gg:∀ o,wr.cell? ⟨fk,o,none⟩=w.cell? ⟨fk,o,none⟩:=fun o=>HF.out.cell (HH.out ▸ hfk) hfb
     rw[← gg] at f0 f1 f2 f3
     have HST:=rHeads_at hlt L
     have HST:Hd _:=HST
     have hk0:(0:Int)≤k:=by omega
     have hk3:(k:Int)<fs.length:=by omega
     clear gg hfc hfk hfb
     generalize fs[k]=f at *
     go_upto_region 7 with fail
     refine wp_region_still_tail 13 mixed (by kernel_rfl) ?_
     simp only[List.take_succ_cons,List.take_zero,List.drop_succ_cons,List.drop_zero]
     repeat still_step
     refine wpStill_nil ?_
     go_wp2_with fail
     refine(show Calls Tryd.prog 55 #[.pointer (some ⟨H+1,0,none⟩),.agg #[vI f.P,vI f.R,vI f.V,.slice ca f.code.length ccap],vI f.code.length] wr.drew _ from rhead (H+1) G _ wr.drew L 0 (HR.out.fr (Fr.drew (Fr.refl (fun _=>False) wr)) (fun h=>h)) HLO.out.1 (by have:=HLO.out.2 rfl;omega) f.P f.R f.V f.code.length ca f.code.length ccap).mono ?_
     rintro e w2 ⟨rfl,h2,hf2⟩
     have X1:Hd (RW (H+1) G (.slice (some ⟨fk,fo,none⟩) fs.length fcap) w2 (headL f.P f.R f.V f.code.length L 0) (headE f.P f.R f.V f.code.length L 0)):=h2
     have X2:Hd (w2.heap[H]?=some (.cells #[vI G,.slice (some ⟨fk,fo,none⟩) fs.length fcap] 26)):=(hf2.block H (heap_lt HP.out) (by omega)).trans HP.out
     have X3:Hd (Fr (fun k=>k=H+1) w w2):=HF.out.drew.trans hf2
     have X4:Hd (Low (headL f.P f.R f.V f.code.length L 0) (headE f.P f.R f.V f.code.length L 0)):=Low.head HLO.out.1
     clear h2 hf2 p1 r3 f0 f1 f2 f3
     go_wp2_with fail
     exact⟨⟨k+1,_,_,by simp,by omega,X1,X4,HRH.out.trans HST.out,X2,X3⟩,by simp;omega⟩
    ·have hE':(E==0)=false:=by simpa using hE
     have X4:Hd (rHd G fs=(L,E)):=HRH.out.trans (rHeads_ne _ L hE)
     go_wp2_with fail
     go_meet
     exact⟨L,E,HR,HLO,X4,HP,HF⟩
   ·have hke:k=fs.length:=by omega
    have X4:Hd (rHd G fs=(L,E)):=by
     refine HRH.out.trans ?_
     rw[hke,List.drop_length];rfl
    subst hke
    go_wp2_with fail
    go_meet
    exact⟨L,E,HR,HLO,X4,HP,HF⟩
 case rest =>
 clear HR HP HF
 obtain⟨L,E,HR,HLO,HRH,HP,HF⟩:=hcut
 have HT2:Hd (T=rFuncs G fs (fs.drop 0) L E):=by
  unfold Hd;rw[HT.out,List.drop_zero];unfold rAll;rw[HRH.out]
 clear HT HRH
 go_wp2_with fail
 go_loopw [5] (fun v wx=>∃ (k:Nat) (L E:Int),v = .int .i64 k∧k≤fs.length∧Hd (RW (H+1) G (.slice fa fs.length fcap) wx L E)∧Hd (Low L E)∧Hd (T=rFuncs G fs (fs.drop k) L E)∧Hd (wx.heap[H]?=some (.cells #[vI G,.slice fa fs.length fcap] 26))∧Hd (Fr (fun k=>k=H+1) w wx)) (fun v _=>match v with | .int _ q=>fs.length-q.toNat | _=>0)
 case atStart=>exact⟨0,L,E,rfl,Nat.zero_le _,HR,HLO,HT2,HP,HF⟩
 case round =>
  clear HR HP HF HLO HT2
  obtain⟨i,L,E,rfl,hi,HR,HLO,HT,HP,HF⟩:=hrel
  have p1:wr.cell? ⟨H,1,none⟩=some (.slice fa fs.length fcap):=by rw[cell_of HP.out];rfl
  obtain⟨-,-,-,r3,-,-⟩:=HR.out.cells
  by_cases hlt:i<fs.length
  ·by_cases hE:E=0
   ·subst hE
    have hne:fs≠[]:=by intro e;simp[e] at hlt
    obtain⟨fk,fo,rfl,hfk,hfb,hfc⟩:=HIN.out hne
    obtain⟨cv,f0,f1,f2,f3,hcl⟩:=hfc i hlt
    obtain⟨hcl0,ca,ccap,rfl,hcc⟩:=hcl
    have gg:∀ o,wr.cell? ⟨fk,o,none⟩=w.cell? ⟨fk,o,none⟩:=fun o=>HF.out.cell (HH.out ▸ hfk) hfb
    rw[← gg] at f0 f1 f2 f3
    have HST:Hd (rFuncs G fs (fs.drop i) L 0=_):=rFuncs_at hlt L
    have HCC:Hd _:=hcc
    have hk0:(0:Int)≤i:=by omega
    have hk3:(i:Int)<fs.length:=by omega
    clear gg hfc hfk hfb hcc
    generalize fs[i]=f at *
    have HB:Hd ((wr.alloc (.cells #[vI f.P,vI f.R,vI f.V,.slice ca f.code.length ccap] 67)).heap[wr.heap.size]?=some (.cells #[vI f.P,vI f.R,vI f.V,.slice ca f.code.length ccap] 67)):=heap_new wr _
    have hfa:Fr (fun _=>False) wr (wr.alloc (.cells #[vI f.P,vI f.R,vI f.V,.slice ca f.code.length ccap] 67)):=Fr.alloc (Fr.refl _ wr) _
    have HR2:Hd (RW (H+1) G (.slice (some ⟨fk,fo,none⟩) fs.length fcap) (wr.alloc (.cells #[vI f.P,vI f.R,vI f.V,.slice ca f.code.length ccap] 67)) L 0):=HR.out.fr hfa (fun h=>h)
    have HP2:Hd ((wr.alloc (.cells #[vI f.P,vI f.R,vI f.V,.slice ca f.code.length ccap] 67)).heap[H]?=some (.cells #[vI G,(.slice (some ⟨fk,fo,none⟩) fs.length fcap)] 26)):=(hfa.block H (heap_lt HP.out) (fun h=>h)).trans HP.out
    have HF2:Hd (Fr (fun k=>k=H+1) w (wr.alloc (.cells #[vI f.P,vI f.R,vI f.V,.slice ca f.code.length ccap] 67))):=HF.out.trans (hfa.mono (fun _ _ h=>h.elim))
    have HLT:Hd (H+1<wr.heap.size):=HR.out.cells.2.2.2.2.2
    clear hfa
    go_upto_region 12 with fail
    clear HR HP HF p1 r3 f0 f1 f2 f3
    obtain⟨Q,hQ⟩:∃ Q,Q=wr.heap.size:=⟨_,rfl⟩
    rw[← hQ] at HB HLT ⊢
    clear hQ
    generalize wr.alloc (.cells #[vI f.P,vI f.R,vI f.V,.slice ca f.code.length ccap] 67)=wy at *
    go_wp2_with fail
    go_loopw [7] (fun v wx=>∃ (k:Nat) (L' E:Int),v = .int .i64 k∧k≤f.code.length∧Hd (RW (H+1) G (.slice (some ⟨fk,fo,none⟩) fs.length fcap) wx L' E)∧Hd (Low L' E)∧Hd (rCode G fs f.R f.V f.code.length 0 f.code L 0=rCode G fs f.R f.V f.code.length k (f.code.drop k) L' E)∧Hd (wx.heap[Q]?=some (.cells #[vI f.P,vI f.R,vI f.V,.slice ca f.code.length ccap] 67))∧Hd (wx.heap[H]?=some (.cells #[vI G,.slice (some ⟨fk,fo,none⟩) fs.length fcap] 26))∧Hd (Fr (fun k=>k=H+1) w wx)) (fun v _=>match v with | .int _ q=>f.code.length-q.toNat | _=>0)
    case atStart=>exact⟨0,L,0,rfl,Nat.zero_le _,HR2,HLO,by unfold Hd;rw[List.drop_zero],HB,HP2,HF2⟩
    case round =>
     clear HR2 HP2 HF2 HB HLO
     obtain⟨k,L',E,rfl,hk,HR,HLO,HRC,HB,HP,HF⟩:=hrel
     have b0:wr.cell? ⟨Q,0,none⟩=some (vI f.P):=by rw[cell_of HB.out];rfl
     have b1:wr.cell? ⟨Q,1,none⟩=some (vI f.R):=by rw[cell_of HB.out];rfl
     have b2:wr.cell? ⟨Q,2,none⟩=some (vI f.V):=by rw[cell_of HB.out];rfl
     have b3:wr.cell? ⟨Q,3,none⟩=some (.slice ca f.code.length ccap):=by rw[cell_of HB.out];rfl
     obtain⟨-,-,-,r3,-,-⟩:=HR.out.cells
     by_cases hkt:k<f.code.length
     ·by_cases hE:E=0
      ·subst hE
       have hne:f.code≠[]:=by intro e;simp[e] at hkt
       obtain⟨ck,co,rfl,hck,hcb,hcc⟩:=HCC.out hne
       obtain⟨av,rv,q0,q1,q2,q3,q4,q5,q6,hA,hB,hla,hlr⟩:=hcc k hkt
       have gg:∀ o,wr.cell? ⟨ck,o,none⟩=w.cell? ⟨ck,o,none⟩:=fun o=>HF.out.cell (HH.out ▸ hck) hcb
       rw[← gg] at q0 q1 q2 q3 q4 q5 q6
       have HA:=hA.fr HF.out (fun _ h=>h)
       have HB2:=hB.fr HF.out (fun _ h=>h)
       have HST2:Hd (rCode G fs f.R f.V f.code.length k (f.code.drop k) L' 0=_):=rCode_at hkt L'
       generalize f.code[k]=c at *
       obtain⟨aa,acap,rfl,-⟩:=id hA
       obtain⟨ra,rcap,rfl,-⟩:=id hB
       have HA:Hd (IL (H+1) wr (.slice aa c.args.length acap) c.args):=HA
       have HB2:Hd (IL (H+1) wr (.slice ra c.rets.length rcap) c.rets):=HB2
       have hk0':(0:Int)≤k:=by omega
       have hk3':(k:Int)<f.code.length:=by omega
       clear gg hcc hck hcb hA hB
       go_upto_region 15 with fail
       refine wp_region_still_tail 13 mixed (by kernel_rfl) ?_
       simp only[List.take_succ_cons,List.take_zero,List.drop_succ_cons,List.drop_zero]
       repeat still_step
       refine wpStill_nil ?_
       go_wp2_with fail
       have hfd:Fr (fun _=>False) wr wr.drew:=Fr.drew (Fr.refl _ wr)
       refine(rinstr_any (H+1) G _ wr.drew L' 0 (HR.out.fr hfd (fun h=>h)) HLO.out.1 (by have:=HLO.out.2 rfl;omega) fs ((HFL.out.fr HF.out (fun _ h=>h)).fr hfd (fun _ h=>h.elim)) f.P f.R f.V _ f.code.length ccap c aa ra acap rcap (HA.out.fr hfd (fun _ h=>h.elim)) (HB2.out.fr hfd (fun _ h=>h.elim)) hla hlr ((k:Int)==(f.code.length:Int)-1)).mono ?_
       rintro e w2 ⟨rfl,h2,hf2⟩
       have X1:Hd (RW (H+1) G (.slice (some ⟨fk,fo,none⟩) fs.length fcap) w2 (opL c.op L') (instrE G fs f.R f.V f.code.length c ((k:Int)==(f.code.length:Int)-1) L' 0)):=h2
       have X2:Hd (w2.heap[H]?=some (.cells #[vI G,.slice (some ⟨fk,fo,none⟩) fs.length fcap] 26)):=(hf2.block H (heap_lt HP.out) (by omega)).trans HP.out
       have X6:Hd (w2.heap[Q]?=some (.cells #[vI f.P,vI f.R,vI f.V,.slice (some ⟨ck,co,none⟩) f.code.length ccap] 67)):=(hf2.block Q (heap_lt HB.out) (by have:=HLT.out;omega)).trans HB.out
       have X3:Hd (Fr (fun k=>k=H+1) w w2):=HF.out.drew.trans hf2
       have X4:Hd (Low (opL c.op L') (instrE G fs f.R f.V f.code.length c ((k:Int)==(f.code.length:Int)-1) L' 0)):=Low.instr HLO.out.1
       clear h2 hf2 hfd q0 q1 q2 q3 q4 q5 q6 b0 b1 b2 b3 r3
       go_wp2_with fail
       exact⟨⟨k+1,_,_,by simp,by omega,X1,X4,HRC.out.trans HST2.out,X6,X2,X3⟩,by simp;omega⟩
      ·have hE':(E==0)=false:=by simpa using hE
       have X4:Hd (rCode G fs f.R f.V f.code.length 0 f.code L 0=(L',E)):=HRC.out.trans (rCode_ne _ _ _ _ _ _ _ L' hE)
       have X5:Hd (T=rFuncs G fs (fs.drop (i+1)) L' E):=by
        unfold Hd;rw[HT.out,HST.out,X4.out]
       clear HRC
       go_wp2_with fail
       exact⟨⟨i+1,L',E,by simp,by omega,HR,HLO,X5,HP,HF⟩,by simp;omega⟩
     ·have hke:k=f.code.length:=by omega
      have X4:Hd (rCode G fs f.R f.V f.code.length 0 f.code L 0=(L',E)):=by
       refine HRC.out.trans ?_
       rw[hke,List.drop_length];rfl
      have X5:Hd (T=rFuncs G fs (fs.drop (i+1)) L' E):=by
       unfold Hd;rw[HT.out,HST.out,X4.out]
      clear HRC
      subst hke
      go_wp2_with fail
      exact⟨⟨i+1,L',E,by simp,by omega,HR,HLO,X5,HP,HF⟩,by simp;omega⟩
   ·have hE':(E==0)=false:=by simpa using hE
    have X4:Hd (T=(L,E)):=HT.out.trans (rFuncs_ne _ _ _ L hE)
    go_wp2_with fail
    go_ret
    exact⟨by rw[X4.out];rfl,HE.out _ HF.out⟩
  ·have hke:i=fs.length:=by omega
   have X4:Hd (T=(L,E)):=by
    refine HT.out.trans ?_
    rw[hke,List.drop_length];rfl
   subst hke
   go_wp2_with fail
   go_ret
   exact⟨by rw[X4.out];rfl,HE.out _ HF.out⟩
end Go.Proofs.YtingenonbkencaaDoor
