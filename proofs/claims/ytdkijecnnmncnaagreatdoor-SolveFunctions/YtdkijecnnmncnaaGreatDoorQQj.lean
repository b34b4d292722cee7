import Derived.Test.YtdkijecnnmncnaaGreatDoorQQhJ
import Derived.Sort.BigQuietIn
import Derived.Sort.AtCallIn
set_option linter.unusedVariables false
set_option linter.unusedSimpArgs false
namespace Go.Proofs.YtdkijecnnmncnaaGreatDoor
open Go.RowKit Go.Shelf
set_option maxRecDepth 100000
set_option maxHeartbeats 4000000
attribute [local go_sem] Oper.semAt_some
theorem called1_in (n:Nat)(l n0 Bi Bb Bs:Nat)(P R V:Int)(ca:Option Addr)(cn cc:Nat)(sv:Value)(op r s t m:Int)(av rv hv lv:Value)(args rets hs:List Int)(res:List (List Int))(N:Nat)(hlen:args.length≤1000000)(hhs:args.length≤hs.length)(hres:args.length≤res.length)(hrl:∀ x∈res,x.length≤rets.length)(hrt:rets.length≤1000000)(W:World)(hn0:n0≤W.heap.size)(J:List Ed→World→Prop)
 (hN:N=(callT R V args rets hs res args.length).length)
 (hY:∀ pre x W,J pre W→pre.length<N→YieldAt Fence.wide (n-1) Tryz.prog l (encE x) W fun e W'=>e = .returned (.bool true)∧J (pre++[x]) W'∧KpA n0 W W')
 (hJ:∀ pre (W W':World),J pre W→Fr (fun _=>False) W W'→J pre W')
 (hBi:W.heap[Bi]?=some (.cells #[vI op,vI r,vI s,vI t,vI m,av,rv] 79)) (hBb:W.heap[Bb]?=some (.cells #[vI P,vI R,vI V,.slice ca cn cc,sv] 138)) (hBs:W.heap[Bs]?=some (.cells #[hv,lv] 33))
 (ha:IB n0 W av args) (hr:IB n0 W rv rets) (hh:IB n0 W hv hs) (hl:LB n0 W lv res) (h0:J [] W) :
 CallsIn Fence.wide n Tryz.prog 193 #[.func (.yield l) #[] #[],.pointer (some ⟨Bi,0,none⟩),.pointer (some ⟨Bb,0,none⟩),.pointer (some ⟨Bs,0,none⟩)] W fun e W'=>(∃ v,e = .returned v)∧J (callT R V args rets hs res args.length) W':=by
 obtain⟨aa,ac,ea,-⟩:=id ha
 subst ea
 have i5:W.cell? ⟨Bi,5,none⟩=some (.slice aa args.length ac):=by rw[cell_of0 hBi];rfl
 refine callsIn_of_wp Tryz.func193 rfl trivial ?_ rfl
 simp only[Tryz.ntmps193,List.size_toArray,List.length_cons,List.length_nil,Nat.reduceAdd,Nat.reduceSub,Array.replicate_succ,Array.replicate_zero,List.push_toArray,List.append_toArray,List.nil_append,List.cons_append]
 gi_wp2
 gi_loopw [14] (fun i wr=>∃ k:Nat,k≤args.length∧i = .int .i64 k∧J (callT R V args rets hs res k) wr∧KpA n0 W wr) (fun i _=>args.length-(RowKit.intOf i).toNat)
 case atStart=>exact⟨0,Nat.zero_le _,rfl,h0,KpA.refl _ _⟩
 case round =>
  obtain⟨k,hk,rfl,hJs,hnx⟩:=hrel
  have hn0w:n0≤wr.heap.size:=Nat.le_trans hn0 hnx.below.size
  by_cases hlt:k<args.length
  ·obtain⟨k0,o0,c0,e0,hk0,hc0⟩:=ha.at hlt
   cases e0
   obtain⟨k1,o1,c1,rfl,hk1,hc1⟩:=hh.at (show k<hs.length by omega)
   obtain⟨k2,o2,c2,x2,rfl,hk2,hc2,hx2⟩:=hl.at (show k<res.length by omega)
   have hLl:res[k].length≤rets.length:=hrl _ (List.getElem_mem _)
   have ka:args[k]?.getD 0=args[k]:=by rw[List.getElem?_eq_getElem hlt];rfl
   have kh:hs[k]?.getD 0=hs[k]:=by rw[List.getElem?_eq_getElem (by omega)];rfl
   have kl:res[k]?.getD []=res[k]:=by rw[List.getElem?_eq_getElem (by omega)];rfl
   have HO:Hd (callT R V args rets hs res (k+1)=callT R V args rets hs res k++(hE R V args[k] hs[k]++gE R V args[k] rets res[k] res[k].length)):=by
    unfold Hd callT;rw[flat_succ];unfold oneE;rw[ka,kh,kl]
   have HL:Hd ((callT R V args rets hs res k).length+(hE R V args[k] hs[k]++gE R V args[k] rets res[k] res[k].length).length≤N):=by
    have:=callT_len (R:=R) (V:=V) (args:=args) (rets:=rets) (hs:=hs) (res:=res) hlt
    unfold oneE at this;rw[ka,kh,kl] at this;unfold Hd;rw[hN];exact this
   have HX:Hd (IB n0 W x2 res[k]):=hx2
   obtain⟨xa,xc,ex,-⟩:=id hx2
   have HC:Hd (∀ wq,KpA n0 W wq→wq.cell? ⟨k0,o0+k,none⟩=some (vI args[k])∧wq.cell? ⟨k1,o1+k,none⟩=some (vI hs[k])∧wq.cell? ⟨k2,o2+k,none⟩=some x2 ∧
    wq.cell? ⟨Bb,0,none⟩=some (vI P)∧wq.cell? ⟨Bb,1,none⟩=some (vI R)∧wq.cell? ⟨Bb,2,none⟩=some (vI V)∧wq.cell? ⟨Bb,3,none⟩=some (.slice ca cn cc) ∧
    wq.cell? ⟨Bs,0,none⟩=some (.slice (some ⟨k1,o1,none⟩) hs.length c1)∧wq.cell? ⟨Bs,1,none⟩=some (.slice (some ⟨k2,o2,none⟩) res.length c2)∧wq.cell? ⟨Bi,6,none⟩=some rv):=fun wq hq=>by
    have bB:=hq.typed Bb _ _ hBb (by decide) (by decide)
    have bS:=hq.typed Bs _ _ hBs (by decide) (by decide)
    have bI:=hq.typed Bi _ _ hBi (by decide) (by decide)
    exact⟨(hq.below.cell (p:=⟨k0,o0+k,none⟩) hk0).trans hc0,(hq.below.cell (p:=⟨k1,o1+k,none⟩) hk1).trans hc1,(hq.below.cell (p:=⟨k2,o2+k,none⟩) hk2).trans hc2,by rw[cell_of0 bB];rfl,by rw[cell_of0 bB];rfl,by rw[cell_of0 bB];rfl,by rw[cell_of0 bB];rfl,by rw[cell_of0 bS];rfl,by rw[cell_of0 bS];rfl,by rw[cell_of0 bI];rfl⟩
   have hkh:(k:Int)<hs.length:=by omega
   have hkr:(k:Int)<res.length:=by omega
   have hka:(k:Int)<args.length:=by omega
   have hk00:(0:Int)≤k:=by omega
   subst ex
   generalize args[k]=a at *
   generalize hs[k]=d at *
   generalize res[k]=L at *
   clear hc0 hc1 hc2 ka kh kl hx2
   obtain⟨f0,f1,f2,q0,q1,q2,q3,s0,s1,i6⟩:=HC.out wr hnx
   gi_wp2_with fail
   refine⟨trivial,(fun h=>by cases h),?_⟩
   refine(callsIn_wide.2 (variable_any P R V a ca cn cc wr)).mono ?_
   rintro e w2 ⟨rfl,hF2⟩
   have hJ2:=hJ _ _ _ hJs hF2
   have hK2:KpA n0 W w2:=hnx.trans (KpA.ofFr hF2 hn0w)
   clear f0 f1 f2 q0 q1 q2 q3 s0 s1 i6 hF2 hJs hnx
   obtain⟨f0,f1,f2,q0,q1,q2,q3,s0,s1,i6⟩:=HC.out w2 hK2
   by_cases h9:d=9
   ·have d9:(d != 9)=false:=by simp[h9]
    have e9:decide (d≠9)=false:=by simp[h9]
    have hh0:hE R V a d=[]:=by unfold hE;rw[if_pos h9]
    have hJ3:J (callT R V args rets hs res k++hE R V a d) w2:=by rw[hh0,List.append_nil];exact hJ2
    clear hJ2 h9 hh0
    gi_wp2
    refine⟨(fun _ h=>by cases h),?_⟩
    gi_wp2
    gi_loopw [44] (fun i wr=>∃ j:Nat,j≤L.length∧i = .int .i64 j∧J (callT R V args rets hs res k++hE R V a d++gE R V a rets L j) wr∧KpA n0 W wr) (fun i _=>L.length-(RowKit.intOf i).toNat)
    case atStart=>exact⟨0,Nat.zero_le _,rfl,by simpa[gE] using hJ3,hK2⟩
    case round =>
     clear hJ3 hK2 f0 f1 f2 q0 q1 q2 q3 s0 s1 i6
     obtain⟨j,hj,rfl,hJ4,hK4⟩:=hrel
     by_cases hltj:j<L.length
     ·have hn0v:n0≤wr.heap.size:=Nat.le_trans hn0 hK4.below.size
      obtain⟨f0,f1,f2,q0,q1,q2,q3,s0,s1,i6⟩:=HC.out wr hK4
      obtain⟨k3,o3,c3,e3,hk3,hc3⟩:=(HX.out.kept hK4.below).at hltj
      cases e3
      obtain⟨k4,o4,c4,e4,hk4,hc4⟩:=(hr.kept hK4.below).at (show j<rets.length by omega)
      have hjr:(j:Int)<rets.length:=by omega
      have hjl:(j:Int)<L.length:=by omega
      have hj00:(0:Int)≤j:=by omega
      have HG:Hd (gE R V a rets L (j+1)=gE R V a rets L j++rE R V a rets[j] L[j]):=by
       unfold Hd;rw[gE_succ,List.getElem?_eq_getElem (show j<rets.length by omega),List.getElem?_eq_getElem hltj];rfl
      have HM:Hd ((callT R V args rets hs res k).length+(hE R V a d).length+(gE R V a rets L j).length+(rE R V a rets[j] L[j]).length≤N):=by
       have h1:=HL.out
       have h2:=gE_len (R:=R) (V:=V) (a:=a) (rets:=rets) hltj
       rw[List.getElem?_eq_getElem (show j<rets.length by omega),List.getElem?_eq_getElem hltj] at h2
       simp only[Option.getD_some,List.length_append] at h1 h2
       unfold Hd
       omega
      subst e4
      generalize L[j]=D at *
      generalize rets[j]=b at *
      by_cases hD:D=9
      ·have dD:(D != 9)=false:=by simp[hD]
       have eD:decide (D≠9)=false:=by simp[hD]
       have hJ5:J (callT R V args rets hs res k++hE R V a d++gE R V a rets L (j+1)) wr:=by rw[HG.out,rE,if_pos hD,List.append_nil];exact hJ4
       clear hJ4 hD
       gi_wp2
       refine wpIn_region_quiet_lit rfl (by kernel_rfl) (by kernel_rfl) ?_
       repeat (first | gi_big_quiet_step (fail) | (refine BigFrame.wpQuietIn_skip (fun _ _ _ _=>trivial) rfl ?_;go_simp))
       refine wpQuietIn_nil ?_
       first
        |(intro _ hw';obtain⟨nq,hw2⟩:=hw';subst hw2)
        | intro nq
       have hFn:Fr (fun _=>False) wr (wr.drewN nq):=⟨rfl,rfl,rfl,Nat.le_refl _,fun _ _ _=>rfl⟩
       have hJ6:=hJ _ _ _ hJ5 hFn
       have hK6:=hK4.trans (KpA.ofFr hFn hn0v)
       clear hFn
       generalize wr.drewN nq=wn at *
       gi_wp2
       exact⟨⟨j+1,by omega,by simp,hJ6,hK6⟩,by simp[RowKit.intOf];omega⟩
      ·have dD:(D != 9)=true:=by simp[hD]
       have eD:decide (D≠9)=true:=by simp[hD]
       have hRE:rE R V a b D=[(varX R V b,varX R V a,D)]:=by rw[rE,if_neg hD]
       have hpl:(callT R V args rets hs res k++hE R V a d++gE R V a rets L j).length<N:=by
        have:=HM.out
        rw[hRE] at this
        simp only[List.length_append,List.length_cons,List.length_nil] at this ⊢
        omega
       clear hD
       gi_wp2
       have HCw:Hd (∀ w',Fr (fun _=>False) wr w'→w'.cell? ⟨Bb,0,none⟩=some (vI P)∧w'.cell? ⟨Bb,1,none⟩=some (vI R)∧w'.cell? ⟨Bb,2,none⟩=some (vI V)∧w'.cell? ⟨Bb,3,none⟩=some (.slice ca cn cc)∧w'.cell? ⟨Bi,6,none⟩=some (.slice (some ⟨k4,o4,none⟩) rets.length c4)∧w'.cell? ⟨k4,o4+j,none⟩=some (vI b)):=fun w' hw'=>by
        obtain⟨-,-,-,g0,g1,g2,g3,-,-,g6⟩:=HC.out w' (hK4.trans (KpA.ofFr hw' hn0v))
        exact⟨g0,g1,g2,g3,g6,(hw'.cell (by omega) (fun e=>e)).trans hc4⟩
       clear f0 f1 f2 q0 q1 q2 q3 s0 s1 i6 hc3 hc4
       refine wpIn_region_tail (y:=15) (C:=fun w'=>Fr (fun _=>False) wr w') rfl (by kernel_rfl) (by kernel_rfl) (by kernel_rfl) (by decide) (by kernel_rfl) (by kernel_rfl) ⟨rfl,rfl,rfl,Nat.le_refl _,fun _ _ _=>rfl⟩ ?_
       simp only[List.take_succ_cons,List.take_zero]
       repeat (
        (refine BigFrame.wpQuietIn_want (fun _ _ _ _=>trivial) rfl ?_
         intro K hK
         apply Exists.intro
         refine⟨fun w' hw'=>?_,?_⟩
         ·obtain⟨g0,g1,g2,g3,g6,g7⟩:=HCw.out w' hw'
          unfold Oper.quietAtIn
          go_simp
          first |exact⟨rfl,rfl⟩ | rfl | exact⟨trivial,rfl⟩
         refine hK _ ?_
         clear hK K
         go_simp))
       refine BigFrame.wpQuietIn_want (fun _ _ _ _=>trivial) rfl ?_
       intro K hK
       apply Exists.intro
       refine⟨fun w' hw'=>?_,?_⟩
       ·obtain⟨g0,g1,g2,g3,g6,g7⟩:=HCw.out w' hw'
        unfold Oper.quietAtIn
        go_simp
        exact⟨(fun h=>by cases h),(callsIn_wide.2 (variable_any P R V b ca cn cc w')).mono (fun e w2 ⟨he,hF⟩=>⟨he,hw'.trans hF⟩)⟩
       refine hK _ ?_
       clear hK K
       go_simp
       repeat (
        (refine BigFrame.wpQuietIn_want (fun _ _ _ _=>trivial) rfl ?_
         intro K hK
         apply Exists.intro
         refine⟨fun w' hw'=>?_,?_⟩
         ·obtain⟨g0,g1,g2,g3,g6,g7⟩:=HCw.out w' hw'
          unfold Oper.quietAtIn
          go_simp
          first |exact⟨rfl,rfl⟩ | rfl | exact⟨trivial,rfl⟩
         refine hK _ ?_
         clear hK K
         go_simp))
       refine wpQuietIn_nil ?_
       intro w5 hF5
       have hJ5:=hJ _ _ _ hJ4 hF5
       have hK5:KpA n0 W w5:=hK4.trans (KpA.ofFr hF5 hn0v)
       obtain⟨fn5,tmps5,assign5,body5,hy5,hR5⟩:=hY _ (varX R V b,varX R V a,D) w5 hJ5 hpl
       refine wpAnyIn_only (k:=15) (by kernel_rfl) rfl rfl ?_
       unfold Oper.wpIn
       refine⟨fun _ _=>trivial,?_⟩
       go_simp
       refine⟨(fun h=>by cases h),hR5.mono ?_⟩
       rintro e w6 ⟨rfl,hJ6',hk6⟩
       have hJ6:J (callT R V args rets hs res k++hE R V a d++gE R V a rets L (j+1)) w6:=by rw[HG.out,hRE,← List.append_assoc];exact hJ6'
       have hK6:KpA n0 W w6:=hK5.trans hk6
       clear hJ6' hk6 hR5 hy5 hJ5 hK5 hJ4 hF5 HCw
       go_simp
       refine wpAnyIn_only (k:=16) (by kernel_rfl) rfl rfl ?_
       unfold Oper.wpIn
       refine⟨fun _ _=>trivial,?_⟩
       go_simp
       refine wpAnyIn_only (k:=17) (by kernel_rfl) rfl rfl ?_
       unfold Oper.wpIn
       refine⟨fun _ _=>trivial,?_⟩
       go_simp
       refine wpAnyIn_end (by kernel_rfl) ?_
       gi_wp2
       exact⟨⟨j+1,by omega,by simp,hJ6,hK6⟩,by simp[RowKit.intOf];omega⟩
     ·obtain rfl:j=L.length:=by omega
      gi_wp2
      exact⟨⟨k+1,by omega,by simp,by rw[HO.out,← List.append_assoc];exact hJ4,hK4⟩,by simp[RowKit.intOf];omega⟩
   ·have d9:(d != 9)=true:=by simp[h9]
    have e9:decide (d≠9)=true:=by simp[h9]
    have hh0:hE R V a d=[(0,varX R V a,d)]:=by unfold hE;rw[if_neg h9]
    obtain⟨fn,tmps,assign,body,hy,hR⟩:=hY _ (0,varX R V a,d) w2 hJ2 (by have:=HL.out;rw[hh0,List.length_append] at this;simp at this;omega)
    gi_wp2
    refine⟨(fun h=>by cases h),hR.mono ?_⟩
    rintro e w3 ⟨rfl,hJ3',hk3⟩
    have hJ3:J (callT R V args rets hs res k++hE R V a d) w3:=by rw[hh0];exact hJ3'
    have hK3:KpA n0 W w3:=hK2.trans hk3
    clear f0 f1 f2 q0 q1 q2 q3 s0 s1 i6 hJ3' hk3 hR hy hJ2 hK2 h9 hh0
    obtain⟨f0,f1,f2,q0,q1,q2,q3,s0,s1,i6⟩:=HC.out w3 hK3
    gi_wp2
    gi_loopw [44] (fun i wr=>∃ j:Nat,j≤L.length∧i = .int .i64 j∧J (callT R V args rets hs res k++hE R V a d++gE R V a rets L j) wr∧KpA n0 W wr) (fun i _=>L.length-(RowKit.intOf i).toNat)
    case atStart=>exact⟨0,Nat.zero_le _,rfl,by simpa[gE] using hJ3,hK3⟩
    case round =>
     clear hJ3 hK3 f0 f1 f2 q0 q1 q2 q3 s0 s1 i6
     obtain⟨j,hj,rfl,hJ4,hK4⟩:=hrel
     by_cases hltj:j<L.length
     ·have hn0v:n0≤wr.heap.size:=Nat.le_trans hn0 hK4.below.size
      obtain⟨f0,f1,f2,q0,q1,q2,q3,s0,s1,i6⟩:=HC.out wr hK4
      obtain⟨k3,o3,c3,e3,hk3,hc3⟩:=(HX.out.kept hK4.below).at hltj
      cases e3
      obtain⟨k4,o4,c4,e4,hk4,hc4⟩:=(hr.kept hK4.below).at (show j<rets.length by omega)
      have hjr:(j:Int)<rets.length:=by omega
      have hjl:(j:Int)<L.length:=by omega
      have hj00:(0:Int)≤j:=by omega
      have HG:Hd (gE R V a rets L (j+1)=gE R V a rets L j++rE R V a rets[j] L[j]):=by
       unfold Hd;rw[gE_succ,List.getElem?_eq_getElem (show j<rets.length by omega),List.getElem?_eq_getElem hltj];rfl
      have HM:Hd ((callT R V args rets hs res k).length+(hE R V a d).length+(gE R V a rets L j).length+(rE R V a rets[j] L[j]).length≤N):=by
       have h1:=HL.out
       have h2:=gE_len (R:=R) (V:=V) (a:=a) (rets:=rets) hltj
       rw[List.getElem?_eq_getElem (show j<rets.length by omega),List.getElem?_eq_getElem hltj] at h2
       simp only[Option.getD_some,List.length_append] at h1 h2
       unfold Hd
       omega
      subst e4
      generalize L[j]=D at *
      generalize rets[j]=b at *
      by_cases hD:D=9
      ·have dD:(D != 9)=false:=by simp[hD]
       have eD:decide (D≠9)=false:=by simp[hD]
       have hJ5:J (callT R V args rets hs res k++hE R V a d++gE R V a rets L (j+1)) wr:=by rw[HG.out,rE,if_pos hD,List.append_nil];exact hJ4
       clear hJ4 hD
       gi_wp2
       refine wpIn_region_quiet_lit rfl (by kernel_rfl) (by kernel_rfl) ?_
       repeat (first | gi_big_quiet_step (fail) | (refine BigFrame.wpQuietIn_skip (fun _ _ _ _=>trivial) rfl ?_;go_simp))
       refine wpQuietIn_nil ?_
       first
        |(intro _ hw';obtain⟨nq,hw2⟩:=hw';subst hw2)
        | intro nq
       have hFn:Fr (fun _=>False) wr (wr.drewN nq):=⟨rfl,rfl,rfl,Nat.le_refl _,fun _ _ _=>rfl⟩
       have hJ6:=hJ _ _ _ hJ5 hFn
       have hK6:=hK4.trans (KpA.ofFr hFn hn0v)
       clear hFn
       generalize wr.drewN nq=wn at *
       gi_wp2
       exact⟨⟨j+1,by omega,by simp,hJ6,hK6⟩,by simp[RowKit.intOf];omega⟩
      ·have dD:(D != 9)=true:=by simp[hD]
       have eD:decide (D≠9)=true:=by simp[hD]
       have hRE:rE R V a b D=[(varX R V b,varX R V a,D)]:=by rw[rE,if_neg hD]
       have hpl:(callT R V args rets hs res k++hE R V a d++gE R V a rets L j).length<N:=by
        have:=HM.out
        rw[hRE] at this
        simp only[List.length_append,List.length_cons,List.length_nil] at this ⊢
        omega
       clear hD
       gi_wp2
       have HCw:Hd (∀ w',Fr (fun _=>False) wr w'→w'.cell? ⟨Bb,0,none⟩=some (vI P)∧w'.cell? ⟨Bb,1,none⟩=some (vI R)∧w'.cell? ⟨Bb,2,none⟩=some (vI V)∧w'.cell? ⟨Bb,3,none⟩=some (.slice ca cn cc)∧w'.cell? ⟨Bi,6,none⟩=some (.slice (some ⟨k4,o4,none⟩) rets.length c4)∧w'.cell? ⟨k4,o4+j,none⟩=some (vI b)):=fun w' hw'=>by
        obtain⟨-,-,-,g0,g1,g2,g3,-,-,g6⟩:=HC.out w' (hK4.trans (KpA.ofFr hw' hn0v))
        exact⟨g0,g1,g2,g3,g6,(hw'.cell (by omega) (fun e=>e)).trans hc4⟩
       clear f0 f1 f2 q0 q1 q2 q3 s0 s1 i6 hc3 hc4
       refine wpIn_region_tail (y:=15) (C:=fun w'=>Fr (fun _=>False) wr w') rfl (by kernel_rfl) (by kernel_rfl) (by kernel_rfl) (by decide) (by kernel_rfl) (by kernel_rfl) ⟨rfl,rfl,rfl,Nat.le_refl _,fun _ _ _=>rfl⟩ ?_
       simp only[List.take_succ_cons,List.take_zero]
       repeat (
        (refine BigFrame.wpQuietIn_want (fun _ _ _ _=>trivial) rfl ?_
         intro K hK
         apply Exists.intro
         refine⟨fun w' hw'=>?_,?_⟩
         ·obtain⟨g0,g1,g2,g3,g6,g7⟩:=HCw.out w' hw'
          unfold Oper.quietAtIn
          go_simp
          first |exact⟨rfl,rfl⟩ | rfl | exact⟨trivial,rfl⟩
         refine hK _ ?_
         clear hK K
         go_simp))
       refine BigFrame.wpQuietIn_want (fun _ _ _ _=>trivial) rfl ?_
       intro K hK
       apply Exists.intro
       refine⟨fun w' hw'=>?_,?_⟩
       ·obtain⟨g0,g1,g2,g3,g6,g7⟩:=HCw.out w' hw'
        unfold Oper.quietAtIn
        go_simp
        exact⟨(fun h=>by cases h),(callsIn_wide.2 (variable_any P R V b ca cn cc w')).mono (fun e w2 ⟨he,hF⟩=>⟨he,hw'.trans hF⟩)⟩
       refine hK _ ?_
       clear hK K
       go_simp
       repeat (
        (refine BigFrame.wpQuietIn_want (fun _ _ _ _=>trivial) rfl ?_
         intro K hK
         apply Exists.intro
         refine⟨fun w' hw'=>?_,?_⟩
         ·obtain⟨g0,g1,g2,g3,g6,g7⟩:=HCw.out w' hw'
          unfold Oper.quietAtIn
          go_simp
          first |exact⟨rfl,rfl⟩ | rfl | exact⟨trivial,rfl⟩
         refine hK _ ?_
         clear hK K
         go_simp))
       refine wpQuietIn_nil ?_
       intro w5 hF5
       have hJ5:=hJ _ _ _ hJ4 hF5
       have hK5:KpA n0 W w5:=hK4.trans (KpA.ofFr hF5 hn0v)
       obtain⟨fn5,tmps5,assign5,body5,hy5,hR5⟩:=hY _ (varX R V b,varX R V a,D) w5 hJ5 hpl
       refine wpAnyIn_only (k:=15) (by kernel_rfl) rfl rfl ?_
       unfold Oper.wpIn
       refine⟨fun _ _=>trivial,?_⟩
       go_simp
       refine⟨(fun h=>by cases h),hR5.mono ?_⟩
       rintro e w6 ⟨rfl,hJ6',hk6⟩
       have hJ6:J (callT R V args rets hs res k++hE R V a d++gE R V a rets L (j+1)) w6:=by rw[HG.out,hRE,← List.append_assoc];exact hJ6'
       have hK6:KpA n0 W w6:=hK5.trans hk6
       clear hJ6' hk6 hR5 hy5 hJ5 hK5 hJ4 hF5 HCw
       go_simp
       refine wpAnyIn_only (k:=16) (by kernel_rfl) rfl rfl ?_
       unfold Oper.wpIn
       refine⟨fun _ _=>trivial,?_⟩
       go_simp
       refine wpAnyIn_only (k:=17) (by kernel_rfl) rfl rfl ?_
       unfold Oper.wpIn
       refine⟨fun _ _=>trivial,?_⟩
       go_simp
       refine wpAnyIn_end (by kernel_rfl) ?_
       gi_wp2
       exact⟨⟨j+1,by omega,by simp,hJ6,hK6⟩,by simp[RowKit.intOf];omega⟩
     ·obtain rfl:j=L.length:=by omega
      gi_wp2
      exact⟨⟨k+1,by omega,by simp,by rw[HO.out,← List.append_assoc];exact hJ4,hK4⟩,by simp[RowKit.intOf];omega⟩
  ·obtain rfl:k=args.length:=by omega
   gi_wp2
   go_end0
   exact⟨⟨_,rfl⟩,hJs⟩
end Go.Proofs.YtdkijecnnmncnaaGreatDoor
