import Derived.Test.YtdkijecnnmncnaaGreatDoorQXkJ
import Derived.StillTail
import Derived.StillTailTactics
import Derived.Test.YtdkijecnnmncnaaGreatDoorQThJ
import Derived.Test.YtdkijecnnmncnaaGreatDoorQLiJ
set_option linter.unusedVariables false
set_option linter.unusedSimpArgs false
namespace Go.Proofs.YtdkijecnnmncnaaGreatDoor
open Go.RowKit (wrap32 wrap64)
set_option maxRecDepth 100000
set_option maxHeartbeats 4000000
theorem Tn.setX {B:Nat}{a w:World}{g m:Nat}(t:Tn B a w)(h:AllN w g m)(hB:B≤g)(j:Nat)(z:Int):Tn B a (w.setCell ⟨g,j,none⟩ (vI z)):=t.trans (Tn.set h hB j z)
theorem Tn.drew {B:Nat}{a w:World}(t:Tn B a w):Tn B a w.drew:=t.stay (Fr.refl _ w).drew
abbrev setR (w:World)(g o:Nat)(a b c d e:Int)(u v:Value):World:=((((((w.setCell ⟨g,o,none⟩ (vI a)).setCell ⟨g,o+1,none⟩ (vI b)).setCell ⟨g,o+2,none⟩ (vI c)).setCell ⟨g,o+3,none⟩ (vI d)).setCell ⟨g,o+4,none⟩ (vI e)).setCell ⟨g,o+5,none⟩ u).setCell ⟨g,o+6,none⟩ v
theorem Tc.setRow {B:Nat}{w:World}{g m:Nat}(h:AllC w B g m)(hB:B≤g){i:Nat}(hi:i<m)(a b c d e:Int){u v:Value}(hu:NB w B u)(hv:NB w B v):Tc B w (setR w g (i*7) a b c d e u v):=by
 have t0:=Tc.setC h hB hi (o:=0) (by omega) (vI a) ⟨fun _=>⟨a,rfl⟩,fun e=>by omega⟩
 have t1:=t0.trans (Tc.setC (t0.code _ _ h) hB hi (o:=1) (by omega) (vI b) ⟨fun _=>⟨b,rfl⟩,fun e=>by omega⟩)
 have t2:=t1.trans (Tc.setC (t1.code _ _ h) hB hi (o:=2) (by omega) (vI c) ⟨fun _=>⟨c,rfl⟩,fun e=>by omega⟩)
 have t3:=t2.trans (Tc.setC (t2.code _ _ h) hB hi (o:=3) (by omega) (vI d) ⟨fun _=>⟨d,rfl⟩,fun e=>by omega⟩)
 have t4:=t3.trans (Tc.setC (t3.code _ _ h) hB hi (o:=4) (by omega) (vI e) ⟨fun _=>⟨e,rfl⟩,fun e=>by omega⟩)
 have t5:=t4.trans (Tc.setC (t4.code _ _ h) hB hi (o:=5) (by omega) u ⟨fun e=>by omega,fun _=>hu.to t4.ints⟩)
 exact t5.trans (Tc.setC (t5.code _ _ h) hB hi (o:=6) (by omega) v ⟨fun e=>by omega,fun _=>hv.to t5.ints⟩)
theorem AllC.row {w:World}{B g m:Nat}(h:AllC w B g m){i:Nat}(hi:i<m):∃ a b c d e u v,(w.cell? ⟨g,i*7,none⟩=some (vI a)∧w.cell? ⟨g,i*7+1,none⟩=some (vI b)∧w.cell? ⟨g,i*7+2,none⟩=some (vI c)∧w.cell? ⟨g,i*7+3,none⟩=some (vI d)∧w.cell? ⟨g,i*7+4,none⟩=some (vI e)∧w.cell? ⟨g,i*7+5,none⟩=some u∧w.cell? ⟨g,i*7+6,none⟩=some v)∧(∀ o,w.frozen? ⟨g,o,none⟩=false)∧(∃ x y z,u = .slice x y z)∧(∃ x y z,v = .slice x y z)∧NB w B u∧NB w B v:=by
 obtain⟨cs,h1,h2⟩:=h
 obtain⟨a,b,c,d,e,u,v,k1,k2,k3,k4,k5,k6,k7,k8,k9⟩:=h2 i hi
 refine⟨a,b,c,d,e,u,v,⟨by rw[cell_of0 h1];exact k1,by rw[cell_of0 h1];exact k2,by rw[cell_of0 h1];exact k3,by rw[cell_of0 h1];exact k4,by rw[cell_of0 h1];exact k5,by rw[cell_of0 h1];exact k6,by rw[cell_of0 h1];exact k7⟩,fun o=>frozen_of h1 o,?_,?_,k8,k9⟩
 ·obtain⟨n,-,gu,cu,mu,e,-⟩:=k8
  exact⟨_,_,_,e⟩
 ·obtain⟨n,-,gu,cu,mu,e,-⟩:=k9
  exact⟨_,_,_,e⟩
theorem turn_any (G:Int)(v:Value)(N B:Nat)(cn:Nat→Nat)(w:World)(h:NP w B v N cn)(b1:N≤2147483647)(b2:∀ i,i<N→cn i≤2147483647) :
 Calls Tryz.prog 25 #[.agg #[vI G,v]] w fun e w'=>e = .returned (.tuple #[])∧Tc B w w':=by
 obtain⟨g,cap,cs,rfl,h1,h2⟩:=id h
 obtain⟨wa,hwa⟩:∃ wa,wa=w.alloc (.cells #[vI G,.slice (some ⟨g,0,none⟩) N cap] 24):=⟨_,rfl⟩
 have HWA:Hd (wa=w.alloc (.cells #[vI G,.slice (some ⟨g,0,none⟩) N cap] 24)):=hwa
 obtain⟨H,hH⟩:∃ H,H=w.heap.size:=⟨_,rfl⟩
 have HH:Hd (H=w.heap.size):=hH
 have hb0:wa.heap[H]?=some (.cells #[vI G,.slice (some ⟨g,0,none⟩) N cap] 24):=by rw[hwa,hH];exact heap_new0 w _
 have HTA:Hd (Tc B w wa):=by unfold Hd;rw[hwa];exact(Tc.refl B w).stay (Fr.alloc (Fr.refl _ w) _)
 have HP:Hd (∀ wx,Tc B wa wx→wx.cell? ⟨H,1,none⟩=some (.slice (some ⟨g,0,none⟩) N cap)):=fun wx t=>by
  have:=t.other hb0 (by decide) (by decide)
  rw[cell_of0 this]
  rfl
 have HN:Hd (∀ i,i<N→∃ gc cc,B≤gc∧∀ wx,Tc B wa wx→wx.cell? ⟨g,i*4+3,none⟩=some (.slice (some ⟨gc,0,none⟩) (cn i) cc)∧AllC wx B gc (cn i)):=fun i hi=>by
  obtain⟨a,b,c,gc,cc,k1,k2,k3,k4,k5,k6⟩:=h2 i hi
  refine⟨gc,cc,k5,fun wx t=>?_⟩
  have t':=HTA.out.trans t
  have g1:=t'.other h1 (by decide) (by decide)
  exact⟨by rw[cell_of0 g1];exact k4,t'.code _ _ k6⟩
 have HB2:Hd (∀ i,i<N→cn i≤2147483647):=b2
 clear h h1 h2 b2 hwa hH hb0
 go_enter Tryz.func25,Tryz.ntmps25
 go_upto_region 1 with fail
 rw[← HWA.out,← HH.out]
 clear HWA
 go_wp2_with fail
 go_loopw [2] (fun v wr=>∃ (k:Nat),v = .int .i64 k∧k≤N∧Hd (Tc B wa wr)) (fun v _=>match v with | .int _ q=>N-q.toNat | _=>0)
 case atStart=>exact⟨0,rfl,Nat.zero_le _,Tc.refl _ _⟩
 case round =>
  obtain⟨k,rfl,hk,HT⟩:=hrel
  have c1:=HP.out wr HT.out
  by_cases hlt:k<N
  ·have hk0:(0:Int)≤k:=by omega
   have hk1:(k:Int)<N:=by omega
   obtain⟨gc,cc,hgc,hN⟩:=HN.out k hlt
   have b3:=HB2.out k hlt
   have p3:=(hN wr HT.out).1
   obtain⟨n,hn⟩:∃ n,n=cn k:=⟨_,rfl⟩
   have HA:Hd (∀ wx,Tc B wa wx→AllC wx B gc n):=fun wx t=>by rw[hn];exact(hN wx t).2
   rw[← hn] at p3 b3
   clear hN hn
   go_wp2_with fail
   clear c1 p3
   obtain⟨wi,hwi⟩:∃ wi,wi=wr:=⟨_,rfl⟩
   rw[← hwi] at HT ⊢
   clear hwi
   go_loopw [4] (fun v wr=>∃ (j:Nat),v = .int .i64 j∧j≤n∧Hd (Tc B wa wr)) (fun v _=>match v with | .int _ q=>n-q.toNat | _=>0)
   case atStart=>exact⟨0,rfl,Nat.zero_le _,HT.out⟩
   case round =>
    clear HT
    obtain⟨j,rfl,hj,HT⟩:=hrel
    by_cases hlt2:j<n
    ·have hj0:(0:Int)≤j:=by omega
     have hj1:(j:Int)<n:=by omega
     obtain⟨ds,d0,d1⟩:=HA.out wr HT.out
     obtain⟨xa,xb,xs,xt,xn,u,v,r0,r1,r2,r3,r4,r5,r6,hu,hv⟩:=d1 j hlt2
     obtain⟨nu,hnu,gu,uc,mu,rfl,hum,hug,hua⟩:=hu
     obtain⟨nv,hnv,gv,vc,mv,rfl,hvm,hvg,hva⟩:=hv
     have HR:Hd (∀ wx,Tn B wr wx→wx.cell? ⟨gc,j*7+5,none⟩=some (.slice (some ⟨gu,0,none⟩) nu uc)∧wx.cell? ⟨gc,j*7+6,none⟩=some (.slice (some ⟨gv,0,none⟩) nv vc)∧wx.cell? ⟨gc,j*7+2,none⟩=some (vI xs)∧wx.frozen? ⟨gc,j*7+2,none⟩=false∧AllN wx gu mu∧AllN wx gv mv):=fun wx t=>by
      have k:=t.other d0 (by decide)
      exact⟨by rw[cell_of0 k];exact r5,by rw[cell_of0 k];exact r6,by rw[cell_of0 k];exact r2,frozen_of k _,t.ints _ _ hua,t.ints _ _ hva⟩
     clear d0 d1 r0 r1 r2 r3 r4 r5 r6 hua hva
     obtain⟨wo,hwo⟩:∃ wo,wo=wr:=⟨_,rfl⟩
     rw[← hwo] at HT HR ⊢
     clear hwo
     go_wp2_with fail
     go_loopw [5] (fun v wr=>∃ (i:Nat),v = .int .i64 i∧i≤nu∧Hd (Tn B wo wr)) (fun v _=>match v with | .int _ q=>nu-q.toNat | _=>0)
     case atStart=>exact⟨0,rfl,Nat.zero_le _,Tn.refl _ _⟩
     case round =>
      obtain⟨i,rfl,hi,HS⟩:=hrel
      obtain⟨q5,-,-,-,hA,-⟩:=HR.out wr HS.out
      by_cases hlt3:i<nu
      ·have hi0:(0:Int)≤i:=by omega
       have hi1:(i:Int)<nu:=by omega
       obtain⟨-,⟨z,p0⟩,z0⟩:=hA.cell (j:=i) (by omega)
       have HZ:Hd (∀ x,Tn B wo ((wr.setCell ⟨gu,i,none⟩ (vI x)).drew)):=fun x=>(HS.out.setX hA hug i x).drew
       have HZ2:Hd (∀ x,Tn B wo (wr.drew.setCell ⟨gu,i,none⟩ (vI x))):=fun x=>HZ.out x
       clear hA
       go_upto_region 11 with fail
       refine wp_region_still_tail 16 mixed (by kernel_rfl) ?_
       simp only[List.take_succ_cons,List.take_zero,List.drop_succ_cons,List.drop_zero]
       repeat still_step
       refine wpStill_nil ?_
       go_wp2_with fail
       exact⟨⟨i+1,by simp,by omega,HZ2.out _⟩,by simp;omega⟩
      ·have di:decide ((i:Int)<nu)=false:=by simp;omega
       clear hA
       go_wp2_with fail
       obtain⟨wy,hwy⟩:∃ wy,wy=wr:=⟨_,rfl⟩
       rw[← hwy] at HS ⊢
       clear hwy q5 di
       go_loopw [6] (fun v wr=>∃ (i:Nat),v = .int .i64 i∧i≤nv∧Hd (Tn B wo wr)) (fun v _=>match v with | .int _ q=>nv-q.toNat | _=>0)
       case atStart=>exact⟨0,rfl,Nat.zero_le _,HS.out⟩
       case round =>
        clear HS
        obtain⟨i,rfl,hi,HS⟩:=hrel
        obtain⟨-,q6,q2,z2,-,hA⟩:=HR.out wr HS.out
        by_cases hlt3:i<nv
        ·have hi0:(0:Int)≤i:=by omega
         have hi1:(i:Int)<nv:=by omega
         obtain⟨-,⟨z,p0⟩,z0⟩:=hA.cell (j:=i) (by omega)
         have HZ:Hd (∀ x,Tn B wo (wr.drew.setCell ⟨gv,i,none⟩ (vI x))):=fun x=>(HS.out.setX hA hvg i x).drew
         clear hA q2 z2
         go_upto_region 15 with fail
         refine wp_region_still_tail 16 mixed (by kernel_rfl) ?_
         simp only[List.take_succ_cons,List.take_zero,List.drop_succ_cons,List.drop_zero]
         repeat still_step
         refine wpStill_nil ?_
         go_wp2_with fail
         exact⟨⟨i+1,by simp,by omega,HZ.out _⟩,by simp;omega⟩
        ·have di:decide ((i:Int)<nv)=false:=by simp;omega
         have HT5:Hd (Tc B wa wr):=HT.out.trans (Tc.tn HS.out)
         have HT6:Hd (∀ x,Tc B wa (wr.setCell ⟨gc,j*7+2,none⟩ (vI x))):=fun x=>HT5.out.trans (Tc.setC (HA.out wr HT5.out) hgc hlt2 (by omega) (vI x) ⟨fun _=>⟨x,rfl⟩,fun e=>by omega⟩)
         clear hA
         by_cases hx:xs=0
         ·have e1:(xs==0)=true:=by simp[hx]
          have e2:(xs != 0)=false:=by simp[hx]
          clear hx
          go_wp2_with fail
          exact⟨⟨j+1,by simp,by omega,HT5.out⟩,by simp;omega⟩
         ·have e1:(xs==0)=false:=by simp[hx]
          have e2:(xs != 0)=true:=by simp[hx]
          clear hx
          go_wp2_with fail
          exact⟨⟨j+1,by simp,by omega,HT6.out _⟩,by simp;omega⟩
    ·have dj:decide ((j:Int)<n)=false:=by simp;omega
     clear hj
     go_wp2_with fail
     obtain⟨wy,hwy⟩:∃ wy,wy=wr:=⟨_,rfl⟩
     rw[← hwy] at HT ⊢
     clear hwy dj hlt2
     go_loopw [7] (fun v wr=>∃ (i:Nat),v = .int .i64 i∧i≤n∧Hd (Tc B wa wr)) (fun v _=>match v with | .int _ q=>n-q.toNat | _=>0)
     case atStart=>exact⟨0,rfl,Nat.zero_le _,HT.out⟩
     case round =>
      clear HT
      obtain⟨i,rfl,hi,HT⟩:=hrel
      by_cases hlt3:2*i+2<n
      ·have hi0:(0:Int)≤i:=by omega
       have hi1:(i:Int)<n:=by omega
       have hi2:2*(i:Int)+2<n:=by omega
       obtain⟨m,hm⟩:∃ m:Nat,m=n-2-i:=⟨_,rfl⟩
       have em:(n:Int)-2-i=m:=by omega
       have hm0:(0:Int)≤m:=by omega
       have hm1:(m:Int)<n:=by omega
       clear hm
       have hA:=HA.out wr HT.out
       obtain⟨a1,b1,c1,d1,e1,u1,v1,⟨r0,r1,r2,r3,r4,r5,r6⟩,hz,⟨ux,uy,uz,eu⟩,⟨vx,vy,vz,ev⟩,hu,hv⟩:=hA.row (i:=i) (by omega)
       subst eu ev
       obtain⟨wb,hwb⟩:∃ wb,wb=wr.alloc (.cells #[vI a1,vI b1,vI c1,vI d1,vI e1,.slice ux uy uz,.slice vx vy vz] 79):=⟨_,rfl⟩
       have HWB:Hd (wb=wr.alloc (.cells #[vI a1,vI b1,vI c1,vI d1,vI e1,.slice ux uy uz,.slice vx vy vz] 79)):=hwb
       have hFb:Fr (fun _=>False) wr wb:=by rw[hwb];exact Fr.alloc (Fr.refl _ _) _
       have bx:wb.heap[wr.heap.size]?=some (.cells #[vI a1,vI b1,vI c1,vI d1,vI e1,.slice ux uy uz,.slice vx vy vz] 79):=by rw[hwb];exact heap_new0 wr _
       have hXg:gc<wr.heap.size:=hA.lt
       obtain⟨X,hX⟩:∃ X,X=wr.heap.size:=⟨_,rfl⟩
       have HX:Hd (X=wr.heap.size):=hX
       rw[← hX] at bx hXg
       have HTb:Hd (Tc B wa wb):=HT.out.stay hFb
       have hAb:=HA.out wb HTb.out
       have hub:=hu.to ((Tn.refl B wr).stay hFb).ints
       have hvb:=hv.to ((Tn.refl B wr).stay hFb).ints
       clear hz hA hu hv HT hwb hFb hX
       go_upto_region 22 with fail
       rw[← HWB.out,← HX.out]
       clear HWB r0 r1 r2 r3 r4 r5 r6 HX
       obtain⟨a2,b2,c2,d2,e2,u2,v2,⟨r0,r1,r2,r3,r4,r5,r6⟩,hz,⟨ox,oy,oz,eu⟩,⟨px,py,pz,ev⟩,hu2,hv2⟩:=hAb.row (i:=m) (Int.ofNat_lt.1 hm1)
       subst eu ev
       obtain⟨y1,y2,y3,y4,y5,y6,y7,⟨s0,s1,s2,s3,s4,s5,s6⟩,-,-,-,-,-⟩:=hAb.row (i:=i) (by omega)
       have z0:=hz (i*7)
       have z1:=hz (i*7+1)
       have z2:=hz (i*7+2)
       have z3:=hz (i*7+3)
       have z4:=hz (i*7+4)
       have z5:=hz (i*7+5)
       have z6:=hz (i*7+6)
       clear hz
       obtain⟨wc,hwc⟩:∃ wc,wc=setR wb gc (i*7) a2 b2 c2 d2 e2 (.slice ox oy oz) (.slice px py pz):=⟨_,rfl⟩
       have HTc:Hd (Tc B wb wc):=by unfold Hd;rw[hwc];exact Tc.setRow hAb hgc (Int.ofNat_lt.1 hi1) a2 b2 c2 d2 e2 hu2 hv2
       have bxc:wc.heap[X]?=some (.cells #[vI a1,vI b1,vI c1,vI d1,vI e1,.slice ux uy uz,.slice vx vy vz] 79):=by
        rw[hwc]
        have hne:∀ (W:World) (o:Nat) (y:Value),(W.setCell ⟨gc,o,none⟩ y).heap[X]?=W.heap[X]?:=fun W o y=>by
         by_cases hl:X<W.heap.size
         ·exact(setCell_fr W gc o y).block X hl (by omega)
         ·have hs:(W.setCell ⟨gc,o,none⟩ y).heap.size=W.heap.size:=World.size_setCell _ _ _
          rw[Array.getElem?_eq_none (by omega),Array.getElem?_eq_none (by omega)]
        simp only[setR,hne]
        exact bx
       have HWC:Hd (wc=_):=(by have h9:=hwc;unfold setR at h9;exact h9)
       clear hwc
       go_upto_region 23 with fail
       rw[← HWC.out]
       clear HWC r0 r1 r2 r3 r4 r5 r6 s0 s1 s2 s3 s4 s5 s6 z0 z1 z2 z3 z4 z5 z6 bx
       have hAc:=HTc.out.code _ _ hAb
       have huc:=hub.to HTc.out.ints
       have hvc:=hvb.to HTc.out.ints
       obtain⟨y1,y2,y3,y4,y5,y6,y7,⟨s0,s1,s2,s3,s4,s5,s6⟩,hz,-,-,-,-⟩:=hAc.row (i:=m) (Int.ofNat_lt.1 hm1)
       have z0:=hz (m*7)
       have z1:=hz (m*7+1)
       have z2:=hz (m*7+2)
       have z3:=hz (m*7+3)
       have z4:=hz (m*7+4)
       have z5:=hz (m*7+5)
       have z6:=hz (m*7+6)
       have r0:wc.cell? ⟨X,0,none⟩=some (vI a1):=by rw[cell_of0 bxc];rfl
       have r1:wc.cell? ⟨X,1,none⟩=some (vI b1):=by rw[cell_of0 bxc];rfl
       have r2:wc.cell? ⟨X,2,none⟩=some (vI c1):=by rw[cell_of0 bxc];rfl
       have r3:wc.cell? ⟨X,3,none⟩=some (vI d1):=by rw[cell_of0 bxc];rfl
       have r4:wc.cell? ⟨X,4,none⟩=some (vI e1):=by rw[cell_of0 bxc];rfl
       have r5:wc.cell? ⟨X,5,none⟩=some (.slice ux uy uz):=by rw[cell_of0 bxc];rfl
       have r6:wc.cell? ⟨X,6,none⟩=some (.slice vx vy vz):=by rw[cell_of0 bxc];rfl
       obtain⟨wd,hwd⟩:∃ wd,wd=setR wc gc (m*7) a1 b1 c1 d1 e1 (.slice ux uy uz) (.slice vx vy vz):=⟨_,rfl⟩
       have HTd:Hd (Tc B wa wd):=by unfold Hd;rw[hwd];exact(HTb.out.trans HTc.out).trans (Tc.setRow hAc hgc (Int.ofNat_lt.1 hm1) a1 b1 c1 d1 e1 huc hvc)
       have HWD:Hd (wd=_):=(by have h9:=hwd;unfold setR at h9;exact h9)
       clear hwd hz hAc huc hvc hub hvb hAb hu2 hv2 HTb HTc bxc
       go_upto_region 20 with fail
       rw[← HWD.out]
       clear HWD r0 r1 r2 r3 r4 r5 r6 s0 s1 s2 s3 s4 s5 s6 z0 z1 z2 z3 z4 z5 z6
       go_wp2_with fail
       exact⟨⟨i+1,by simp,by omega,HTd.out⟩,by simp;omega⟩
      ·have di:decide (2*(i:Int)+2<n)=false:=by simp;omega
       go_wp2_with fail
       exact⟨⟨k+1,by simp,by omega,HT.out⟩,by simp;omega⟩
  ·have dk:decide ((k:Int)<N)=false:=by simp;omega
   go_wp2_with fail
   go_end0
   exact⟨rfl,HTA.out.trans HT.out⟩
noncomputable def ansB (G:Int)(fs:List PF)(F:Int)(ss:List PS):List Bool:=open Classical in if EdgOk G fs F ss then (List.range (locN (fs.getD F.toNat dPF))).map (escF ss (fs.getD F.toNat dPF)) else []
noncomputable def ansS (G:Int)(fs:List PF)(F:Int)(ss:List PS):PS:=open Classical in if EdgOk G fs F ss then solF ss (fs.getD F.toNat dPF) else ⟨[],[]⟩
noncomputable def ansZ (G:Int)(fs:List PF)(F:Int)(ss:List PS):Int:=open Classical in if EdgOk G fs F ss then 0 else 1
theorem ans_len (G:Int)(fs:List PF)(F:Int)(ss:List PS):(ansB G fs F ss).length≤100000∧(ansS G fs F ss).H.length≤8∧(ansS G fs F ss).R.length≤8∧∀ l∈(ansS G fs F ss).R,l.length≤8:=by
 unfold ansB ansS
 by_cases h:EdgOk G fs F ss
 ·rw[if_pos h,if_pos h]
  obtain⟨i,rfl,hi,hls,hck,htl⟩:=h
  have hg:fs.getD ((i:Int)).toNat dPF=fs[i]:=by simp[List.getD,hi]
  rw[hg]
  have hf:=right_ok hck
  have h1:=hf.V
  have h2:=hf.P
  have h3:=hf.R
  have h4:=hf.len
  have h5:=newsX_le fs[i].code
  refine⟨?_,?_,?_,fun l hl=>?_⟩
  ·simp only[List.length_map,List.length_range]
   unfold locN
   omega
  ·simp only[solF,sumX,List.length_map,List.length_range]
   omega
  ·simp only[solF,sumX,List.length_map,List.length_range]
   omega
  ·simp only[solF,sumX,List.mem_map,List.mem_range] at hl
   obtain⟨j,-,rfl⟩:=hl
   simp only[List.length_map,List.length_range]
   omega
 ·rw[if_neg h,if_neg h]
  simp
def AnE (G:Int)(fs:List PF)(F:Int)(ss:List PS)(w:World)(e:Ending)(w':World):Prop :=
 Fr (fun _=>False) w w'∧∃ (a b d:Option Addr) (n m o x y z:Nat),e = .returned (.tuple #[.slice a n x,.agg #[.slice b m y,.slice d o z],vI (ansZ G fs F ss)])∧BL w' (.slice a n x) (ansB G fs F ss)∧IA w' (.slice b m y) (ansS G fs F ss).H∧LA w' (.slice d o z) (ansS G fs F ss).R
theorem ans_bad {G:Int}{fs:List PF}{F:Int}{ss:List PS}{w w':World}{e:Ending}(h:Fr (fun _=>False) w w')(hb:¬ EdgOk G fs F ss)(he:e = .returned (.tuple #[.slice none 0 0,.agg #[.slice none 0 0,.slice none 0 0],vI 1])):AnE G fs F ss w e w':=by
 have e1:ansB G fs F ss=[]:=by unfold ansB;rw[if_neg hb]
 have e2:ansS G fs F ss=⟨[],[]⟩:=by unfold ansS;rw[if_neg hb]
 have e3:ansZ G fs F ss=1:=by unfold ansZ;rw[if_neg hb]
 refine⟨h,none,none,none,0,0,0,0,0,0,by rw[e3];exact he,?_,?_,?_⟩
 ·rw[e1];exact⟨none,0,rfl,fun h=>absurd rfl h⟩
 ·rw[e2];exact⟨none,0,rfl,fun h=>absurd rfl h⟩
 ·rw[e2];exact⟨none,0,rfl,fun h=>absurd rfl h⟩
theorem so_vals {w:World}{B:Nat}{hv rv:Value}{us:List Value}{s:PS}(h:SO w B hv rv us s):(∃ b m y,hv = .slice b m y)∧∃ d o z,rv = .slice d o z:=by
 obtain⟨h1,h2⟩:=h.sa
 obtain⟨a,c,e,-⟩:=h1
 obtain⟨a',c',e',-⟩:=h2
 exact⟨⟨_,_,_,e⟩,⟨_,_,_,e'⟩⟩
theorem function_ans (G:Int)(fv sv:Value)(fs:List PF)(ss:List PS)(F:Int)(w:World)(h1:FA w fv fs)(h2:SsA w sv ss)(b1:FineP fs)(b2:FineS ss)(hT:Tab w)(hR:RowsA w) :
 Calls Tryz.prog 13 #[.agg #[vI G,fv],vI F,sv] w (AnE G fs F ss w):=by
 refine(function_any G fv sv fs ss F w h1 h2 b1 b2 hT hR).mono ?_
 rintro e w' ⟨hf,⟨hn,he⟩|⟨i,hi,rfl,hok,eb,p,r,g1,g2,gs,Y,Z,he,-,hE,hS,hp,hr,hs⟩⟩
 ·exact ans_bad hf hn he
 ·have hg:fs.getD ((i:Int)).toNat dPF=fs[i]:=by simp[List.getD,hi]
  have e1:ansB G fs i ss=(List.range (locN fs[i])).map (escF ss fs[i]):=by unfold ansB;rw[if_pos hok,hg]
  have e2:ansS G fs i ss=solF ss fs[i]:=by unfold ansS;rw[if_pos hok,hg]
  have e3:ansZ G fs i ss=0:=by unfold ansZ;rw[if_pos hok]
  have hso:=(hS.so hp hr).sa
  rw[← hs] at hso
  refine⟨hf,_,_,_,_,_,_,_,_,_,by rw[e3];exact he,?_,by rw[e2];exact hso.1,by rw[e2];exact hso.2⟩
  rw[e1]
  refine⟨some ⟨eb,0,none⟩,locN fs[i],by simp,fun _=>⟨eb,0,rfl,hE.lt,fun j hj=>?_⟩⟩
  have hj':j<locN fs[i]:=by simpa using hj
  rw[Nat.zero_add,hE.cell hj']
  simp
theorem rfunction_ans (G:Int)(fv sv:Value)(fs:List PF)(ss:List PS)(F:Int)(w:World)(h1:FA w fv fs)(h2:SsA w sv ss)(b1:FineP fs)(b2:FineS ss) :
 Calls Tryz.prog 20 #[.agg #[vI G,fv],vI F,sv] w (AnE G fs F ss w):=by
 refine(rfunction_any G fv sv fs ss F w h1 h2 b1 b2).mono ?_
 rintro e w' ⟨hf,⟨hn,he⟩|⟨i,hi,rfl,hok,a,c,hv,rv,us,he,hE,hS⟩⟩
 ·exact ans_bad hf hn he
 ·have hg:fs.getD ((i:Int)).toNat dPF=fs[i]:=by simp[List.getD,hi]
  have e1:ansB G fs i ss=(List.range (locN fs[i])).map (escF ss fs[i]):=by unfold ansB;rw[if_pos hok,hg]
  have e2:ansS G fs i ss=solF ss fs[i]:=by unfold ansS;rw[if_pos hok,hg]
  have e3:ansZ G fs i ss=0:=by unfold ansZ;rw[if_pos hok]
  obtain⟨⟨b,m,y,rfl⟩,d,o,z,rfl⟩:=so_vals hS
  exact⟨hf,_,_,_,_,_,_,_,_,_,by rw[e3];exact he,by rw[e1];exact hE,by rw[e2];exact hS.sa.1,by rw[e2];exact hS.sa.2⟩
theorem FO.shape {w:World}{B:Nat}{v:Value}{L:List FI}(h:FO w B v L):∃ a c,v = .slice a L.length c:=by
 rcases h.row.2 with⟨h2,h3⟩|⟨g,cap,cur,e,-⟩
 ·exact⟨none,0,by rw[h2,h3]⟩
 ·exact⟨_,_,e⟩
theorem FO.far {S:Nat→Prop}{w w':World}{B:Nat}{v:Value}{L:List FI}(h:FO w B v L)(f:Fr S w w')(hS:∀ k,S k→k<B):FO w' B v L:=by
 have no:∀ k,B≤k→¬ S k:=fun k hk e=>by have:=hS k e;omega
 refine⟨ownsRow_frL h.row f (fun k e=>no k (World.ownsRow.lt h.row k e).1),fun x hx=>⟨(h.code x hx).1.fr f (fun k e=>no k (World.ownsRow.lt (h.code x hx).1.row k e).1) (fun y hy k e=>?_),(h.code x hx).2⟩⟩
 rcases e with e | e
 ·exact no k (((h.code x hx).1.ints y hy).1.ge k e).1
 ·exact no k (((h.code x hx).1.ints y hy).2.ge k e).1
theorem FO.mono {w:World}{B B':Nat}{v:Value}{L:List FI}(h:FO w B v L)(hB:B'≤B):FO w B' v L:=⟨World.ownsRow.mono h.row hB,fun x hx=>⟨(h.code x hx).1.mono hB,(h.code x hx).2⟩⟩
set_option maxRecDepth 100000
set_option maxHeartbeats 2000000
theorem copyProgramO_any (G:Int)(v:Value)(fs:List PF)(w:World)(hl:FA w v fs)(hn:FineP fs) :
 Calls Tryz.prog 15 #[.agg #[vI G,v]] w fun e w'=>∃ v' L,e = .returned (.agg #[vI G,v'])∧FO w' (w.heap.size+2) v' L∧L.map (·.1)=fs∧Fr (fun _=>False) w w':=by
 obtain⟨a1,b1,e1,-⟩:=id hl
 obtain⟨wa,hwa⟩:∃ wa,wa=(w.alloc (.cells #[vI G,v] 24)).alloc (.cells #[vI 0,.slice none 0 0] 24):=⟨_,rfl⟩
 have hF:Fr (fun _=>False) w wa:=by rw[hwa];exact Fr.alloc (Fr.alloc (Fr.refl _ w) _) _
 have hsz:wa.heap.size=w.heap.size+2:=by rw[hwa];simp
 have b1':wa.heap[w.heap.size]?=some (.cells #[vI G,v] 24):=by
  rw[hwa,Go.RowKit.Below.heap_alloc _ _ _ (by simp)];exact heap_new w _
 have b2':wa.heap[w.heap.size+1]?=some (.cells #[vI 0,.slice none 0 0] 24):=by
  rw[hwa,show w.heap.size+1=(w.alloc (.cells #[vI G,v] 24)).heap.size by simp];exact heap_new _ _
 have HWA:Hd (wa=(w.alloc (.cells #[vI G,v] 24)).alloc (.cells #[vI 0,.slice none 0 0] 24)):=hwa
 have G1:Hd (FA wa v fs):=hl.stay hF
 have HF:Hd (Fr (fun _=>False) w wa):=hF
 obtain⟨H,hH⟩:∃ H,H=w.heap.size:=⟨_,rfl⟩
 have HH:Hd (H=w.heap.size):=hH
 have HSZ:Hd (wa.heap.size=H+2):=by rw[hH];exact hsz
 rw[← hH] at b1' b2'
 have B1:Hd _:=b1'
 have B2:Hd _:=b2'
 have p0:wa.cell? ⟨H,0,none⟩=some (vI G):=by rw[cell_of b1'];rfl
 have p1:wa.cell? ⟨H,1,none⟩=some v:=by rw[cell_of b1'];rfl
 subst e1
 clear hl hF hsz hwa hH b1' b2'
 go_enter Tryz.func15,Tryz.ntmps15
 go_upto_region 1 with fail
 rw[← HWA.out,← HH.out]
 clear HWA
 go_region_held3 (fun w'=>w'.cell? ⟨H,0,none⟩=some (vI G)∧w'.cell? ⟨H,1,none⟩=some (.slice a1 fs.length b1)) (go_keep) ((
  go_at_call 47
  refine(show Calls Tryz.prog 47 #[.slice a1 fs.length b1] wa.drew _ from copyFuncs_any _ fs wa.drew G1.out hn).mono ?_
  rintro e w2 ⟨x',L,rfl,hx',hL,hF2⟩
  have hG2:Fr (fun _=>False) wa w2:=(Fr.refl _ wa).drew.trans hF2
  have B1':w2.heap[H]?=some (.cells #[vI G,.slice a1 fs.length b1] 24):=(hG2.block H (heap_lt B1.out) (fun e=>e)).trans B1.out
  have B2':w2.heap[H+1]?=some (.cells #[vI 0,.slice none 0 0] 24):=(hG2.block (H+1) (heap_lt B2.out) (fun e=>e)).trans B2.out
  have s0:w2.cell? ⟨H,0,none⟩=some (vI G):=by rw[cell_of B1'];rfl
  have s1:w2.cell? ⟨H,1,none⟩=some (.slice a1 fs.length b1):=by rw[cell_of B1'];rfl
  have d0:w2.cell? ⟨H+1,0,none⟩=some (vI 0):=by rw[cell_of B2'];rfl
  have d1:w2.cell? ⟨H+1,1,none⟩=some (.slice none 0 0):=by rw[cell_of B2'];rfl
  have y0:=frozen_of B2' 0
  have y1:=frozen_of B2' 1
  have HX:Hd (FO w2 (H+2) x' L):=hx'.mono (by have:=HSZ.out;show H+2≤wa.heap.size;omega)
  have HLL:Hd (L.map (·.1)=fs):=hL
  have HF2:Hd (Fr (fun _=>False) w w2):=HF.out.trans hG2
  have HB2:Hd (w2.heap[H+1]?=some (.cells #[vI 0,.slice none 0 0] 24)):=B2'
  obtain⟨xa,xc,rfl⟩:=hx'.shape
  clear hx' hL hF2 hG2 B1' B2'))
 all_goals
  have HZ:Hd (((w2.setCell ⟨H+1,0,none⟩ (vI G)).setCell ⟨H+1,1,none⟩ (.slice xa L.length xc)).heap[H+1]?=some (.cells #[vI G,.slice xa L.length xc] 24)):=set_of (set_of HB2.out 0 _) 1 _
  have fs6:Fr (fun j=>j=H+1) w2 ((w2.setCell ⟨H+1,0,none⟩ (vI G)).setCell ⟨H+1,1,none⟩ (.slice xa L.length xc)):=Fr.setCell (S:=fun j=>j=H+1) (Fr.setCell (S:=fun j=>j=H+1) (Fr.refl _ w2) _ _ (Or.inl rfl)) _ _ (Or.inl rfl)
  have KX:Hd (FO ((w2.setCell ⟨H+1,0,none⟩ (vI G)).setCell ⟨H+1,1,none⟩ (.slice xa L.length xc)) (w.heap.size+2) (.slice xa L.length xc) L):=by
   have:=HX.out.far fs6 (fun k e=>by omega)
   exact this.mono (by have:=HH.out;omega)
  have KF:Hd (Fr (fun _=>False) w ((w2.setCell ⟨H+1,0,none⟩ (vI G)).setCell ⟨H+1,1,none⟩ (.slice xa L.length xc))):=Fr.then HF2.out fs6 (fun j hj e=>by have:=HH.out;omega)
  clear fs6
  go_wp2_with fail
  generalize (w2.setCell ⟨H+1,0,none⟩ (vI G)).setCell ⟨H+1,1,none⟩ (.slice xa L.length xc)=wz at *
  have e0:wz.cell? ⟨H+1,0,none⟩=some (vI G):=by rw[cell_of HZ.out];rfl
  have e1:wz.cell? ⟨H+1,1,none⟩=some (.slice xa L.length xc):=by rw[cell_of HZ.out];rfl
  refine bodyPost_ret (v:=.agg #[vI G,.slice xa L.length xc]) ?_ rfl ⟨_,L,rfl,KX.out,HLL.out,KF.out⟩
  rw[results_cell (p:=2) (ty:=24) Tryz.results15]
  simp[go_sem,e0,e1]
end Go.Proofs.YtdkijecnnmncnaaGreatDoor
