import Derived.Test.YtingenonbkencaaDoorQLkJ
import Derived.Test.YtingenonbkencaaDoorQUeJ
set_option linter.unusedVariables false
set_option linter.unusedSimpArgs false
namespace Go.Proofs.YtingenonbkencaaDoor
open Go.RowKit (wrap32 wrap64)
set_option maxRecDepth 100000
set_option maxHeartbeats 4000000
theorem apartCode_any {m B1 B2 la lc:Nat}{U:Nat→Value}{nn:Nat→Nat}(w8:World)(h:StC w8 w8 B1 B2 (.slice (some ⟨la,0,none⟩) m lc) m U nn 0 0)(hm0:0<m)(hmb:m≤999999999)(hnb:∀ j,j<m→nn j≤65535)(hB2:B2≤w8.heap.size)(hB1:B1≤w8.heap.size) :
 Calls Tryd.prog 50 #[.slice (some ⟨la,0,none⟩) m lc] w8 fun e w'=>e = .returned (.bool true)∧Fr (SU m U) w8 w':=by
 have HA0:Hd (StC w8 w8 B1 B2 (.slice (some ⟨la,0,none⟩) m lc) m U nn 0 0):=h
 have HNB:Hd (∀ j,j<m→nn j≤65535):=hnb
 have HBB:Hd (B2≤w8.heap.size∧B1≤w8.heap.size):=⟨hB2,hB1⟩
 clear h hnb hB2 hB1
 have qn:∀ z:Int,(z != z)=false:=fun z=>by simp
 go_enter Tryd.func50,Tryd.ntmps50
 go_wp2_with fail
 go_loopw [3] (fun v wx=>∃ i:Nat,v = .int .i64 i∧i≤m∧Hd (StC w8 wx B1 B2 (.slice (some ⟨la,0,none⟩) m lc) m U nn i 0)) (fun v _=>match v with | .int _ q=>m-q.toNat | _=>0)
 case atStart=>exact⟨0,by simp,Nat.zero_le _,HA0.out⟩
 case round =>
  clear HA0
  obtain⟨i,rfl,hi,HA⟩:=hrel
  by_cases hlt:i<m
  ·have d1:decide ((i:Int)<(m:Int))=true:=by simp;omega
   have i0:(0:Int)≤i:=by omega
   have i1:(i:Int)<m:=by omega
   have HLTI:Hd (i<m):=hlt
   have hnb:=HNB.out i hlt
   clear hlt
   go_wp2_with fail
   go_loopw [4] (fun v wx=>∃ k:Nat,v = .int .i64 k∧k≤nn i∧Hd (StC w8 wx B1 B2 (.slice (some ⟨la,0,none⟩) m lc) m U nn i k)) (fun v _=>match v with | .int _ q=>nn i-q.toNat | _=>0)
   case atStart=>exact⟨0,by simp,Nat.zero_le _,HA.out⟩
   case round =>
    clear HA
    obtain⟨k,rfl,hk,HA⟩:=hrel
    obtain⟨ua,uc,p0,eU,hg⟩:=HA.out.at HLTI.out
    by_cases hltk:k<nn i
    ·have d2:decide ((k:Int)<(nn i:Int))=true:=by simp;omega
     have k0:(0:Int)≤k:=by omega
     have k1:(k:Int)<nn i:=by omega
     obtain⟨g,rfl,hz⟩:=hg (by omega)
     obtain⟨y,p1,p2,p3,p4,p5,p6,p7⟩:=hz k hltk
     obtain⟨hput,pz⟩:=HA.out.put HLTI.out hltk eU
     have HPU:Hd (StC w8 (sq7 wr g (k*7) (mI (-(i:Int)-1))) B1 B2 (.slice (some ⟨la,0,none⟩) m lc) m U nn i (k+1)):=hput
     have x0:IntKind.i64.wrap (-(i:Int)) = -(i:Int):=wsm _ (by omega)
     have x1:IntKind.i64.wrap (-(i:Int)-1) = -(i:Int)-1:=wsm _ (by omega)
     clear hput hz hg HA hltk eU
     go_wp2_with fail
     go_roundw
     case measure=>simp;omega
     case rel=>exact⟨k+1,by simp,by omega,HPU.out⟩
    ·have d2:decide ((k:Int)<(nn i:Int))=false:=by simp;omega
     have d2n:¬ k<nn i:=hltk
     have HA2:Hd (StC w8 wr B1 B2 (.slice (some ⟨la,0,none⟩) m lc) m U nn (i+1) 0):=HA.out.next HLTI.out (by omega)
     have hlt2:i+1≤m:=HLTI.out
     clear hltk hg HA eU
     go_wp2_with fail
     go_roundw
     case measure=>simp;omega
     case rel=>exact⟨i+1,by simp,by omega,HA2.out⟩
  ·have d1:decide ((i:Int)<(m:Int))=false:=by simp;omega
   have d1n:¬ i<m:=hlt
   have HFM:Hd (FmC wr wr B1 B2 (.slice (some ⟨la,0,none⟩) m lc) m U nn (.slice none 0 0) (fun _=>undef) 0):=HA.out.done (by omega) HBB.out.1
   have HF9:Hd (Fr (SU m U) w8 wr):=HA.out.fr
   clear hlt HA
   obtain⟨w9,hw9⟩:∃ w9,w9=wr:=⟨_,rfl⟩
   rw[← hw9] at HFM HF9
   subst hw9
   go_wp2_with fail
   go_loopw [5,6] (fun v5 v wx=>∃ (i:Nat) (F:Nat→Value),v = .int .i64 i∧i≤m∧Hd (FmC w9 wx B1 B2 (.slice (some ⟨la,0,none⟩) m lc) m U nn v5 F i)) (fun _ v _=>match v with | .int _ q=>m-q.toNat | _=>0)
   case atStart=>exact⟨0,_,by simp,Nat.zero_le _,HFM.out⟩
   case round =>
    clear HFM
    obtain⟨i,F,rfl,hi,HA⟩:=hrel
    by_cases hlt:i<m
    ·have d1:decide ((i:Int)<(m:Int))=true:=by simp;omega
     have i0:(0:Int)≤i:=by omega
     have i1:(i:Int)<m:=by omega
     have HLTI:Hd (i<m):=hlt
     have hnb:=HNB.out i hlt
     obtain⟨ua,uc,p0,eU,-⟩:=HA.out.at hlt
     have HG0:Hd (GmC w9 wr B1 B2 (.slice (some ⟨la,0,none⟩) m lc) m U nn u5 F i 0 (.slice ua (nn i) uc)):=by rw[← eU];exact HA.out.gm hlt
     clear hlt eU HA
     go_wp2_with fail
     go_loopw [7,8] (fun v7 v wx=>∃ k:Nat,v = .int .i64 k∧k≤64∧Hd (GmC w9 wx B1 B2 (.slice (some ⟨la,0,none⟩) m lc) m U nn u5 F i k v7)) (fun _ v _=>match v with | .int _ q=>64-q.toNat | _=>0)
     case atStart=>exact⟨0,by simp,by omega,HG0.out⟩
     case round =>
      clear HG0 p0
      obtain⟨k,rfl,hk,HG⟩:=hrel
      obtain⟨va,vc,ev⟩:=HG.out.len
      subst ev
      by_cases hltk:k<64
      ·have d2:decide ((k:Int)<64)=true:=by simp;omega
       have x1:IntKind.i64.wrap (-100000000-(i:Int)) = -100000000-(i:Int):=wsm _ (by omega)
       obtain⟨wz,hwz⟩:∃ wz,wz=wr.alloc (.cells #[vI 0,vI 0,vI 0,vI 0,vI (-100000000-(i:Int)),.slice none 0 0,.slice none 0 0] 71):=⟨_,rfl⟩
       have hFz:Fr (fun _=>False) wr wz:=by rw[hwz];exact Fr.alloc (Fr.refl _ _) _
       have HWZ:Hd (wz=wr.alloc (.cells #[vI 0,vI 0,vI 0,vI 0,vI (-100000000-(i:Int)),.slice none 0 0,.slice none 0 0] 71)):=hwz
       have HBZ:Hd (wz.heap[wr.heap.size]?=some (.cells #[vI 0,vI 0,vI 0,vI 0,vI (-100000000-(i:Int)),.slice none 0 0,.slice none 0 0] 71)):=by unfold Hd;rw[hwz];exact heap_new wr _
       have HGZ:Hd (GmC w9 wz B1 B2 (.slice (some ⟨la,0,none⟩) m lc) m U nn u5 F i k (.slice va (nn i+k) vc)):=HG.out.stay hFz
       have HBL:Hd (B1≤wz.heap.size):=by
        have h1:=HGZ.out.fr.size
        have h2:=HF9.out.size
        have h3:=HBB.out.2
        unfold Hd
        omega
       have hk2:k+1≤64:=hltk
       clear hFz hwz HG hltk
       go_wp2_with ((at_builtin;refine Hd.out ?_))
       unfold Hd
       rw[← HWZ.out]
       refine wpList_instr rfl (.tmp 50) (.tmp 54) rfl rfl rfl HGZ.out.wo (k:=nn i+k) (by rw[List.length_append,mrC_len,List.length_replicate]) HBZ.out (by omega) HBL.out ?_
       intro g6 cap6 w6 hown6 hfr6 hat6 hkp6
       have HG6:Hd (GmC w9 w6 B1 B2 (.slice (some ⟨la,0,none⟩) m lc) m U nn u5 F i (k+1) (.slice (some ⟨g6,0,none⟩) (nn i+k+1) cap6)):=HGZ.out.more HLTI.out hown6 hfr6 hat6 hkp6
       clear hown6 hfr6 hat6 hkp6 HGZ HBZ HWZ HBL
       go_wp2_with fail
       go_roundw
       case measure=>simp;omega
       case rel=>exact⟨k+1,by simp,by omega,HG6.out⟩
      ·have d2:decide ((k:Int)<64)=false:=by simp;omega
       have hk64:k=64:=by omega
       subst hk64
       obtain⟨fa,fc,efv⟩:=own_slice HG.out.far
       subst efv
       obtain⟨wz,hwz⟩:∃ wz,wz=wr.alloc (.cells #[.slice va (nn i+64) vc] 65):=⟨_,rfl⟩
       have hFz:Fr (fun _=>False) wr wz:=by rw[hwz];exact Fr.alloc (Fr.refl _ _) _
       have HWZ:Hd (wz=wr.alloc (.cells #[.slice va (nn i+64) vc] 65)):=hwz
       have HBZ:Hd (wz.heap[wr.heap.size]?=some (.cells #[.slice va (nn i+64) vc] 65)):=by unfold Hd;rw[hwz];exact heap_new wr _
       have HGZ:Hd (GmC w9 wz B1 B2 (.slice (some ⟨la,0,none⟩) m lc) m U nn (.slice fa i fc) F i 64 (.slice va (nn i+64) vc)):=HG.out.stay hFz
       have hlt2:i+1≤m:=HLTI.out
       clear hFz hwz HG hltk
       go_wp2_with ((at_builtin;refine Hd.out ?_))
       unfold Hd
       rw[← HWZ.out]
       refine wpList_rowC rfl (.tmp 56) (.tmp 58) rfl rfl rfl HGZ.out.far HBZ.out (by omega) HGZ.out.fr.size ?_
       intro g6 cap6 w6 hown6 hfr6
       have HF6:Hd (FmC w9 w6 B1 B2 (.slice (some ⟨la,0,none⟩) m lc) m U nn (.slice (some ⟨g6,0,none⟩) (i+1) cap6) (at1 F i (.slice va (nn i+64) vc)) (i+1)):=HGZ.out.told hown6 hfr6
       clear hown6 hfr6 HGZ HBZ HWZ
       go_wp2_with fail
       go_roundw
       case measure=>simp;omega
       case rel=>exact⟨i+1,_,by simp,by omega,HF6.out⟩
    ·have d1:decide ((i:Int)<(m:Int))=false:=by simp;omega
     have d1n:¬ i<m:=hlt
     have him:i=m:=by omega
     subst him
     have HFX:Hd (Fr (SU i U) w8 wr):=HF9.out.trans HA.out.fr
     have HAt:Hd (∀ j,j<i→∃ a ca,wr.cell? ⟨la,j,none⟩=some (.slice a (nn j) ca)∧(0<nn j→∃ g,a=some ⟨g,0,none⟩∧∀ t,t<nn j→wr.cell? ⟨g,t*7+4,none⟩=some (vI (-(j:Int)-1)))):=fun j hj=>by
      obtain⟨a,ca,h1,h2,h3⟩:=HA.out.at hj
      exact⟨a,ca,h1,fun h0=>by
       obtain⟨g,e,hc⟩:=h3 h0
       exact⟨g,e,fun t ht=>(hc t ht).2.2.2.2.1⟩⟩
     obtain⟨fg,fc,fgj,fcj,efv,-⟩:=HA.out.far_at hm0
     subst efv
     have HFt:Hd (∀ j,j<i→∃ gj cj,wr.cell? ⟨fg,j,none⟩=some (.slice (some ⟨gj,0,none⟩) (nn j+64) cj)∧(∀ t,t<nn j→wr.cell? ⟨gj,t*7+4,none⟩=some (vI (-(j:Int)-1)))∧∀ t,t<64→wr.cell? ⟨gj,(nn j+t)*7+4,none⟩=some (vI (-100000000-(j:Int)))):=fun j hj=>by
      obtain⟨g,c,gj,cj,e,h1,h2,h3⟩:=HA.out.far_at hj
      injection e with e1
      injection e1 with e1
      injection e1 with e1
      subst e1
      exact⟨gj,cj,h1,fun t ht=>(h2 t ht).2.2.2.2.1,fun t ht=>(h3 t ht).2.2.2.2.1⟩
     clear hlt HA HF9 HBB
     obtain⟨wC,hwC⟩:∃ wC,wC=wr:=⟨_,rfl⟩
     rw[← hwC] at HFX HAt HFt
     subst hwC
     generalize hmi:i=m at *
     have HMI:Hd (_=m):=hmi
     clear hmi
     go_wp2_with fail
     go_loopw [9] (fun v wx=>∃ i:Nat,v = .int .i64 i∧i≤m∧Hd (wx=wC)) (fun v _=>match v with | .int _ q=>m-q.toNat | _=>0)
     case atStart=>exact⟨0,by simp,Nat.zero_le _,by first | exact rfl | trivial⟩
     case round =>
      obtain⟨i,rfl,hi,HW⟩:=hrel
      have hw:=HW.out
      subst hw
      by_cases hlt:i<m
      ·have d1:decide ((i:Int)<(m:Int))=true:=by simp;omega
       have i0:(0:Int)≤i:=by omega
       have i1:(i:Int)<m:=by omega
       have hnb:=HNB.out i hlt
       obtain⟨ua,uc,p0,hg⟩:=HAt.out i hlt
       obtain⟨gj,cj,q0,hq1,hq2⟩:=HFt.out i hlt
       have HG:Hd (0<nn i→∃ g,ua=some ⟨g,0,none⟩∧∀ t,t<nn i→wr.cell? ⟨g,t*7+4,none⟩=some (vI (-(i:Int)-1))):=hg
       have HQ1:Hd (∀ t,t<nn i→wr.cell? ⟨gj,t*7+4,none⟩=some (vI (-(i:Int)-1))):=hq1
       have HQ2:Hd (∀ t,t<64→wr.cell? ⟨gj,(nn i+t)*7+4,none⟩=some (vI (-100000000-(i:Int)))):=hq2
       have x0:IntKind.i64.wrap (-(i:Int)) = -(i:Int):=wsm _ (by omega)
       have x1:IntKind.i64.wrap (-(i:Int)-1) = -(i:Int)-1:=wsm _ (by omega)
       have x2:IntKind.i64.wrap (-100000000-(i:Int)) = -100000000-(i:Int):=wsm _ (by omega)
       have HLTI:Hd (i+1≤m):=hlt
       clear hg hq1 hq2 hlt
       go_wp2_with fail
       go_loopw [10] (fun v wx=>∃ k:Nat,v = .int .i64 k∧k≤nn i+64∧Hd (wx=wr)) (fun v _=>match v with | .int _ q=>nn i+64-q.toNat | _=>0)
       case atStart=>exact⟨0,by simp,Nat.zero_le _,by first | exact rfl | trivial⟩
       case round =>
        obtain⟨k,rfl,hk,HW2⟩:=hrel
        have hw:=HW2.out
        subst hw
        by_cases hltk:k<nn i+64
        ·have k0:(0:Int)≤k:=by omega
         have k2:(k:Int)<((nn i+64:Nat):Int):=by omega
         have k3:(k:Int)<(nn i:Int)+64:=by omega
         have d2:decide ((k:Int)<((nn i+64:Nat):Int))=true:=by simpa using k2
         have d2':decide ((k:Int)<(nn i:Int)+64)=true:=by simpa using k3
         by_cases hin:k<nn i
         ·have k1:(k:Int)<nn i:=by omega
          have d3:decide ((k:Int)<(nn i:Int))=true:=by simpa using k1
          have d4:decide ((k:Int)≥(nn i:Int))=false:=by simp;omega
          have d5:decide ((nn i:Int)≤(k:Int))=false:=by simp;omega
          obtain⟨g,rfl,hz⟩:=HG.out (by omega)
          have p1:=hz k hin
          have q1:=HQ1.out k hin
          clear hz
          go_wp2_with fail
          go_roundw
          case measure=>simp;omega
          case rel=>exact⟨k+1,by simp,by omega,by first | exact rfl | trivial⟩
         ·have k1:¬ (k:Int)<nn i:=by omega
          have d3:decide ((k:Int)<(nn i:Int))=false:=by simp;omega
          have d4:decide ((k:Int)≥(nn i:Int))=true:=by simp;omega
          have d5:decide ((nn i:Int)≤(k:Int))=true:=by simp;omega
          have q1:=HQ2.out (k-nn i) (by omega)
          rw[show nn i+(k-nn i)=k by omega] at q1
          go_wp2_with fail
          go_roundw
          case measure=>simp;omega
          case rel=>exact⟨k+1,by simp,by omega,by first | exact rfl | trivial⟩
        ·have d2:decide ((k:Int)<((nn i+64:Nat):Int))=false:=by simp;omega
         have d2':decide ((k:Int)<(nn i:Int)+64)=false:=by simp;omega
         have d2n:¬ k<nn i+64:=hltk
         have hlt2:=HLTI.out
         clear hltk
         go_wp2_with fail
         go_roundw
         case measure=>simp;omega
         case rel=>exact⟨i+1,by simp,by omega,by first | exact rfl | trivial⟩
      ·have d1:decide ((i:Int)<(m:Int))=false:=by simp;omega
       have d1n:¬ i<m:=hlt
       clear hlt HAt HFt
       go_wp2_with fail
       go_ret
       exact⟨rfl,by rw[HMI.out];exact HFX.out⟩
set_option maxRecDepth 100000
set_option maxHeartbeats 4000000
theorem apartInts_nil (a:Option Addr)(c:Nat)(w:World):Calls Tryd.prog 49 #[.slice a 0 c] w fun e w'=>e = .returned (.bool true)∧Fr (fun _=>False) w w':=by
 go_enter Tryd.func49,Tryd.ntmps49
 go_wp2_with fail
 go_loopw [3] (fun v wx=>v = .int .i64 0∧wx=w) (fun _ _=>0)
 case atStart=>exact⟨rfl,rfl⟩
 case round =>
  obtain⟨rfl,rfl⟩:=hrel
  go_wp2_with fail
  go_loopw [6] (fun v wx=>v = .int .i64 0∧wx=wr) (fun _ _=>0)
  case atStart=>exact⟨rfl,rfl⟩
  case round =>
   obtain⟨rfl,rfl⟩:=hrel
   go_wp2_with fail
   go_loopw [9] (fun v wx=>v = .int .i64 0∧wx=wr) (fun _ _=>0)
   case atStart=>exact⟨rfl,rfl⟩
   case round =>
    obtain⟨rfl,rfl⟩:=hrel
    go_wp2_with fail
    go_ret
    exact⟨rfl,Fr.refl _ _⟩
theorem lsC_len (l:List CI):(lsC l).length=2*l.length:=by
 induction l with
 | nil=>rfl
 | cons y l ih=>show(y.2.1::y.2.2::lsC l).length=_;simp[ih];omega
theorem lsF_len : ∀ (L:List FI),(∀ x∈L,x.2.2.length≤4096)→(lsF L).length≤8192*L.length
 | [],_=>by simp[lsF]
 | x::L,h=>by
   have:=lsF_len L (fun y hy=>h y (List.mem_cons_of_mem _ hy))
   have h1:=h x List.mem_cons_self
   show(lsC x.2.2++lsF L).length≤_
   rw[List.length_append,lsC_len,List.length_cons]
   omega
theorem lsC_take {l:List CI}{k:Nat}{y:CI}(h:l[k]?=some y):lsC (l.take (k+1))=lsC (l.take k)++[y.2.1]++[y.2.2]:=by
 rw[List.take_add_one,h]
 unfold lsC
 rw[List.flatMap_append]
 simp
theorem lsF_take {L:List FI}{k:Nat}{x:FI}(h:L[k]?=some x):lsF (L.take (k+1))=lsF (L.take k)++lsC x.2.2:=by
 rw[List.take_add_one,h]
 unfold lsF
 rw[List.flatMap_append]
 simp
theorem csF_take {L:List FI}{k:Nat}{x:FI}(h:L[k]?=some x):csF (L.take (k+1))=csF (L.take k)++[x.2.1]:=by
 rw[List.take_add_one,h]
 unfold csF
 simp
theorem FOa.stay {w w':World}{B:Nat}{v:Value}{L:List FI}(h:FOa w B v L)(f:Fr (fun _=>False) w w'):FOa w' B v L:=⟨h.toFO.stay f,h.ls,h.cs⟩
theorem lsP_len {L:List FI}(hc:∀ x∈L,x.2.2.length≤4096∧∀ y∈x.2.2,y.1.args.length≤65535∧y.1.rets.length≤65535):∀ z∈lsP L,z.2.length≤65535:=by
 intro z hz
 unfold lsP at hz
 obtain⟨x,hx,hz⟩:=List.mem_flatMap.1 hz
 obtain⟨y,hy,hz⟩:=List.mem_flatMap.1 hz
 have:=(hc x hx).2 y hy
 simp only[List.mem_cons,List.not_mem_nil,or_false] at hz
 rcases hz with rfl | rfl
 ·exact this.1
 ·exact this.2
theorem ints_call {w:World}{B:Nat}{v lv:Value}{L:List FI}(h:FOa w B v L)(hl:w.ownsRow B 64 1 lv (lsF L).length (lsF L))(hm:(lsF L).length≤999999999)(hc:∀ x∈L,x.2.2.length≤4096∧∀ y∈x.2.2,y.1.args.length≤65535∧y.1.rets.length≤65535)(hB:B≤w.heap.size) :
 Calls Tryd.prog 49 #[lv] w fun e w'=>e = .returned (.bool true)∧Fr (fun q=>∃ u∈lsF L,u.ownBlock=some q) w w':=by
 by_cases h0:(lsF L).length=0
 ·obtain⟨a,c,e⟩:=own_slice hl
  rw[h0] at e
  subst e
  exact(apartInts_nil a c w).mono fun e w' ⟨h1,h2⟩=>⟨h1,h2.mono (fun _ _ h=>h.elim)⟩
 ·have hs:=h.ints hl
  rcases hl.2 with⟨-,e⟩|⟨g,cap,cur,e,-⟩
  ·exact absurd e h0
  ·rw[e] at hs ⊢
   refine(apartInts_any w hs (by omega) hm (fun j hj=>?_) (Nat.le_refl _) hB).mono fun e w' ⟨h1,h2⟩=>⟨h1,h2.mono (fun q _ ⟨j,hj,e⟩=>?_)⟩
   ·have hlen:(lsP L).length=(lsF L).length:=by rw[← lsP_fst,List.length_map]
    rw[List.getD_eq_getElem?_getD,List.getElem?_eq_getElem (by omega)]
    exact lsP_len hc _ (List.getElem_mem _)
   ·refine⟨(lsF L)[j],List.getElem_mem _,?_⟩
    have e2:(lsF L).getD j undef=(lsF L)[j]:=by rw[List.getD_eq_getElem?_getD,List.getElem?_eq_getElem hj];rfl
    rw[← e2]
    exact e
theorem code_call {w:World}{B:Nat}{cv:Value}{L:List FI}(hc:∀ x∈L,COw w B x.2.1 x.2.2)(hp:(csF L).Pairwise Lt)(hl:w.ownsRow B 65 1 cv L.length (csF L))(h0:0<L.length)(hm:L.length≤999999999)(hk:∀ x∈L,x.2.2.length≤4096)(hB:B≤w.heap.size) :
 Calls Tryd.prog 50 #[cv] w fun e w'=>e = .returned (.bool true)∧Fr (fun q=>∃ u∈csF L,u.ownBlock=some q) w w':=by
 have hs:=code_ready hc hp hl
 have hcl:(csF L).length=L.length:=by unfold csF;simp
 rcases hl.2 with⟨-,e⟩|⟨g,cap,cur,e,-⟩
 ·omega
 ·rw[e] at hs ⊢
  refine(apartCode_any w hs h0 hm (fun j hj=>?_) (Nat.le_refl _) hB).mono fun e w' ⟨h1,h2⟩=>⟨h1,h2.mono (fun q _ ⟨j,hj,e⟩=>?_)⟩
  ·rw[List.getD_eq_getElem?_getD,List.getElem?_map,List.getElem?_eq_getElem hj]
   have:=hk _ (List.getElem_mem hj)
   show(L[j].2.2).length≤65535
   omega
  ·have hj':j<(csF L).length:=by omega
   refine⟨(csF L)[j],List.getElem_mem _,?_⟩
   have e2:(csF L).getD j undef=(csF L)[j]:=by rw[List.getD_eq_getElem?_getD,List.getElem?_eq_getElem hj'];rfl
   rw[← e2]
   exact e
theorem wpList_func {w:World}{ops:Array Oper}{rest:List Oper}{o:Oper}{a:Act}{Q:Exit→Act→World→Prop}(hgd:o.guard=none)(s x:Operand)(ho:o.op = .call { callee:=.builtin .append,args:=#[s,x],argTypes:=#[24,24] })
 {B k H c:Nat} {v:Value} {us:List Value} {z:Int} (hs:a.eval s=v) (hx:a.eval x = .slice (some ⟨H,0,none⟩) 1 c)
 (h:w.ownsRow B 67 4 v k us) (hb:w.heap[H]?=some (.cells #[vI 0,vI 0,vI z,.slice none 0 0] 67)) (hl:k≤1000000000) (hB:B≤w.heap.size)
 (K:∀ g cap w',w'.ownsRow B 67 4 (.slice (some ⟨g,0,none⟩) (k+1) cap) (k+1) (us++[vI 0,vI 0,vI z,.slice none 0 0])→Fr (fun q=>v.ownBlock=some q) w w'→(v.ownBlock=some g∨g=w.heap.size)→wpList Tryd.prog ops Q rest (a.put o.dst (.slice (some ⟨g,0,none⟩) (k+1) cap)) w') :
 wpList Tryd.prog ops Q (o::rest) a w:=by
 obtain⟨i3,hi3,hz3,hs3,hb3⟩:=info_parts (P:=Tryd.prog) (e:=67) (z:=.agg #[vI 0,vI 0,vI 0,.slice none 0 0]) (size:=4) (bytes:=48) (by kernel_rfl)
 refine wpList_append_lies _ hgd s x 24 ho B 67 i3 (.agg #[vI 0,vI 0,vI 0,.slice none 0 0]) 4 48 under24 hi3 hz3 hs3 hb3 (by kernel_rfl) (by omega) v k us hs h ⟨H,0,none⟩ 1 c [vI 0,vI 0,vI z,.slice none 0 0] hx rfl (World.news_of_block (cs:=#[vI 0,vI 0,vI z,.slice none 0 0]) hb) (by intro y hy;simp only[List.mem_cons,List.not_mem_nil,or_false] at hy;rcases hy with rfl | rfl | rfl | rfl<;>rfl) (by omega) (by unfold maxLen;omega) (by omega) hB w.heap.size rfl ?_
 intro g cap w' hown hgrow hat _
 exact K g cap w' hown (grown_frL hgrow) hat
theorem push_row {wa wz w6:World}{e e' sz sz' N i:Nat}{lv cv:Value}{us cs:List Value}(hl:wz.ownsRow wa.heap.size e sz lv N us)(hc:wz.ownsRow wa.heap.size e' sz' cv i cs)(he:e'≠e)(f:Fr (fun _=>False) wa wz)(f6:Fr (fun q=>lv.ownBlock=some q) wz w6) :
 w6.ownsRow wa.heap.size e' sz' cv i cs∧Fr (fun _=>False) wa w6 :=
 ⟨ownsRow_frL hc f6 (fun q e1 e2=>own_apart hc hl he q e2 e1),f.then f6 (fun q hq e1=>by have:=(World.ownsRow.lt hl q e1).1;omega)⟩
theorem apartProgram_any {B B' n gF fc:Nat}{G:Int}{L:List FI}(w:World)(h:FOa w B (.slice (some ⟨gF,0,none⟩) n fc) L)(hn:L.length=n)(hn1:1≤n)(hn2:n≤65535)
 (hc:∀ x∈L,x.2.2.length≤4096∧∀ y∈x.2.2,y.1.args.length≤65535∧y.1.rets.length≤65535) (hU:gF<B'∧∀ v∈csF L++lsF L,∀ q,v.ownBlock=some q→q<B') (hBB:B'≤w.heap.size) :
 Calls Tryd.prog 21 #[.agg #[vI G,.slice (some ⟨gF,0,none⟩) n fc]] w fun e w'=>e = .returned (.bool true)∧Fr (fun q=>B≤q∧q<B') w w':=by
 obtain⟨wa,hwa⟩:∃ wa,wa=w.alloc (.cells #[vI G,.slice (some ⟨gF,0,none⟩) n fc] 26):=⟨_,rfl⟩
 obtain⟨Z,hZ⟩:∃ Z,Z=w.heap.size:=⟨_,rfl⟩
 have hfa:Fr (fun _=>False) w wa:=by rw[hwa];exact Fr.alloc (Fr.refl _ w) _
 have hbx:wa.heap[Z]?=some (.cells #[vI G,.slice (some ⟨gF,0,none⟩) n fc] 26):=by rw[hwa,hZ];exact heap_new w _
 have hsz:wa.heap.size=Z+1:=by rw[hwa,hZ];simp
 have HWA:Hd (wa=w.alloc (.cells #[vI G,.slice (some ⟨gF,0,none⟩) n fc] 26)):=hwa
 have HZ:Hd (Z=w.heap.size∧wa.heap.size=Z+1∧B'≤Z):=⟨hZ,hsz,by omega⟩
 have HFA:Hd (Fr (fun _=>False) w wa):=hfa
 have HBX:Hd (wa.heap[Z]?=some (.cells #[vI G,.slice (some ⟨gF,0,none⟩) n fc] 26)):=hbx
 have PK:Hd (∀ wx,Fr (fun _=>False) wa wx→wx.cell? ⟨Z,1,none⟩=some (.slice (some ⟨gF,0,none⟩) n fc)∧FOa wx B (.slice (some ⟨gF,0,none⟩) n fc) L):=fun wx f=>by
  have hb:=(f.block Z (heap_lt hbx) (fun h=>h)).trans hbx
  exact⟨by rw[cell_of hb];rfl,h.stay (hfa.trans f)⟩
 have HN:Hd (L.length=n):=hn
 have HC:Hd (∀ x∈L,x.2.2.length≤4096∧∀ y∈x.2.2,y.1.args.length≤65535∧y.1.rets.length≤65535):=hc
 have HU:Hd (gF<B'∧∀ v∈csF L++lsF L,∀ q,v.ownBlock=some q→q<B'):=hU
 have HH:Hd (FOa w B (.slice (some ⟨gF,0,none⟩) n fc) L):=h
 clear h hn hc hU hBB hwa hZ hfa hbx hsz
 go_enter Tryd.func21,Tryd.ntmps21
 go_upto_region 1 with fail
 rw[← HWA.out,← HZ.out.1]
 clear HWA
 go_wp2_with fail
 go_loopw [3,4,5] (fun lv cv iv wx=>∃ i:Nat,iv = .int .i64 i∧i≤n∧Hd (wx.ownsRow wa.heap.size 64 1 lv (lsF (L.take i)).length (lsF (L.take i)))∧Hd (wx.ownsRow wa.heap.size 65 1 cv i (csF (L.take i)))∧Hd (Fr (fun _=>False) wa wx)) (fun _ _ v _=>match v with | .int _ q=>n-q.toNat | _=>0)
 case atStart=>exact⟨0,by simp,Nat.zero_le _,World.ownsRow_nil _ _ _ _,World.ownsRow_nil _ _ _ _,Fr.refl _ _⟩
 case round =>
  obtain⟨i,rfl,hi,HL,HCV,HF⟩:=hrel
  obtain⟨q1,hfo⟩:=PK.out wr HF.out
  by_cases hlt:i<n
  ·have d1:decide ((i:Int)<(n:Int))=true:=by simp;omega
   have i0:(0:Int)≤i:=by omega
   have i1:(i:Int)<n:=by omega
   obtain⟨x,hx⟩:∃ x,L[i]?=some x:=⟨_,List.getElem?_eq_getElem (by have:=HN.out;omega)⟩
   have HX:Hd (L[i]?=some x):=hx
   have HXM:Hd (x.2.2.length≤4096∧∀ y∈x.2.2,y.1.args.length≤65535∧y.1.rets.length≤65535):=HC.out x (List.mem_of_getElem? hx)
   obtain⟨q2,ca,cc,ecv,hk⟩:=hfo.toFO.fn hx
   rw[ecv] at q2
   have HQ:Hd (∀ wx,Fr (fun _=>False) wa wx→wx.cell? ⟨Z,1,none⟩=some (.slice (some ⟨gF,0,none⟩) n fc)∧wx.cell? ⟨gF,i*4+3,none⟩=some (.slice ca x.2.2.length cc)):=fun wx f=>by
    obtain⟨k1,k2⟩:=PK.out wx f
    obtain⟨k3,-⟩:=k2.toFO.fn hx
    rw[ecv] at k3
    exact⟨k1,k3⟩
   have HXC:Hd (x.2.1 = .slice ca x.2.2.length cc):=ecv
   have hxl:=HXM.out.1
   have hli:(lsF (L.take i)).length≤8192*i:=by
    have:=lsF_len (L.take i) (fun y hy=>(HC.out y (List.mem_of_mem_take hy)).1)
    rw[List.length_take] at this
    have h2:8192*min i L.length≤8192*i:=Nat.mul_le_mul_left _ (Nat.min_le_left _ _)
    omega
   have HLT:Hd (i<n):=hlt
   clear hk hfo hx hlt ecv
   go_wp2_with fail
   go_loopw [3,6] (fun lv v wx=>∃ k:Nat,v = .int .i64 k∧k≤x.2.2.length∧Hd (wx.ownsRow wa.heap.size 64 1 lv (lsF (L.take i)++lsC (x.2.2.take k)).length (lsF (L.take i)++lsC (x.2.2.take k)))∧Hd (wx.ownsRow wa.heap.size 65 1 u4 i (csF (L.take i)))∧Hd (Fr (fun _=>False) wa wx)) (fun _ v _=>match v with | .int _ q=>x.2.2.length-q.toNat | _=>0)
   case atStart=>exact⟨0,by simp,Nat.zero_le _,by show Hd (wr.ownsRow _ 64 1 _ (lsF (L.take i)++[]).length (lsF (L.take i)++[]));rw[List.append_nil];exact HL,HCV.out,HF.out⟩
   case round =>
    clear HL HCV HF q1 q2
    obtain⟨k,rfl,hk,HL,HCV,HF⟩:=hrel
    obtain⟨q1,q2⟩:=HQ.out wr HF.out
    by_cases hltk:k<x.2.2.length
    ·have d2:decide ((k:Int)<(x.2.2.length:Int))=true:=by simp;omega
     have k0:(0:Int)≤k:=by omega
     have k1:(k:Int)<x.2.2.length:=by omega
     obtain⟨y,hy⟩:∃ y,x.2.2[k]?=some y:=⟨_,List.getElem?_eq_getElem hltk⟩
     obtain⟨-,ca2,cc2,ec2,hkk⟩:=(PK.out wr HF.out).2.toFO.fn HX.out
     rw[HXC.out] at ec2
     cases ec2
     obtain⟨gc,rfl,q3,q4,⟨aa,ac,ea⟩,ra,rc,er⟩:=hkk k y hy
     have HRD:Hd (∀ wx,Fr (fun _=>False) wa wx→wx.cell? ⟨gc,k*7+5,none⟩=some (.slice aa y.1.args.length ac)∧wx.cell? ⟨gc,k*7+6,none⟩=some (.slice ra y.1.rets.length rc)):=fun wx f=>by
      obtain⟨-,ca3,cc3,ec3,hk3⟩:=(PK.out wx f).2.toFO.fn HX.out
      rw[HXC.out] at ec3
      cases ec3
      obtain⟨gc3,eg,z1,z2,-,-⟩:=hk3 k y hy
      cases eg
      rw[ea] at z1
      rw[er] at z2
      exact⟨z1,z2⟩
     have HEA:Hd (lsC (x.2.2.take (k+1))=lsC (x.2.2.take k)++[.slice aa y.1.args.length ac]++[.slice ra y.1.rets.length rc]):=by unfold Hd;rw[lsC_take hy,ea,er]
     clear hkk q3 q4 ea er hy
     obtain⟨q3,q4⟩:=HRD.out wr HF.out
     have hlk:(lsF (L.take i)++lsC (x.2.2.take k)).length≤8192*i+8192:=by rw[List.length_append,lsC_len,List.length_take];omega
     obtain⟨us,hus⟩:∃ us,us=lsF (L.take i)++lsC (x.2.2.take k):=⟨_,rfl⟩
     have HUS:Hd (us=lsF (L.take i)++lsC (x.2.2.take k)):=hus
     rw[← hus] at HL hlk
     clear hus
     obtain⟨la0,lc0,elv⟩:=own_slice HL.out
     subst elv
     obtain⟨wz,hwz⟩:∃ wz,wz=wr.alloc (.cells #[.slice aa y.1.args.length ac] 64):=⟨_,rfl⟩
     have hFz:Fr (fun _=>False) wr wz:=by rw[hwz];exact Fr.alloc (Fr.refl _ _) _
     have HWZ:Hd (wz=wr.alloc (.cells #[.slice aa y.1.args.length ac] 64)):=hwz
     have HBZ:Hd (wz.heap[wr.heap.size]?=some (.cells #[.slice aa y.1.args.length ac] 64)):=by unfold Hd;rw[hwz];exact heap_new wr _
     have HLZ:Hd (wz.ownsRow wa.heap.size 64 1 (.slice la0 us.length lc0) us.length us):=ownsRow_frL HL.out hFz (fun _ _ e=>e)
     have HCZ:Hd (wz.ownsRow wa.heap.size 65 1 u4 i (csF (L.take i))):=ownsRow_frL HCV.out hFz (fun _ _ e=>e)
     have HFZ:Hd (Fr (fun _=>False) wa wz):=HF.out.trans hFz
     clear hFz hwz HL HCV HF
     go_wp2_with ((at_builtin;refine Hd.out ?_))
     unfold Hd
     rw[← HWZ.out]
     refine wpList_rowI rfl (.tmp 31) (.tmp 42) rfl rfl rfl HLZ.out HBZ.out (by omega) HFZ.out.size ?_
     intro g6 cap6 w6 hown6 hfr6
     obtain⟨hc6,hf6⟩:=push_row HLZ.out HCZ.out (by decide) HFZ.out hfr6
     have HL6:Hd (w6.ownsRow wa.heap.size 64 1 (.slice (some ⟨g6,0,none⟩) (us.length+1) cap6) (us.length+1) (us++[.slice aa y.1.args.length ac])):=hown6
     have HC6:Hd (w6.ownsRow wa.heap.size 65 1 u4 i (csF (L.take i))):=hc6
     have HF6:Hd (Fr (fun _=>False) wa w6):=hf6
     clear hown6 hfr6 hc6 hf6 HLZ HCZ HFZ HWZ HBZ q1 q2 q3 q4
     obtain⟨q1,q2⟩:=HQ.out w6 HF6.out
     obtain⟨q3,q4⟩:=HRD.out w6 HF6.out
     obtain⟨wz,hwz⟩:∃ wz,wz=w6.alloc (.cells #[.slice ra y.1.rets.length rc] 64):=⟨_,rfl⟩
     have hFz:Fr (fun _=>False) w6 wz:=by rw[hwz];exact Fr.alloc (Fr.refl _ _) _
     have HWZ:Hd (wz=w6.alloc (.cells #[.slice ra y.1.rets.length rc] 64)):=hwz
     have HBZ:Hd (wz.heap[w6.heap.size]?=some (.cells #[.slice ra y.1.rets.length rc] 64)):=by unfold Hd;rw[hwz];exact heap_new w6 _
     have HLZ:Hd (wz.ownsRow wa.heap.size 64 1 (.slice (some ⟨g6,0,none⟩) (us.length+1) cap6) (us.length+1) (us++[.slice aa y.1.args.length ac])):=ownsRow_frL HL6.out hFz (fun _ _ e=>e)
     have HCZ:Hd (wz.ownsRow wa.heap.size 65 1 u4 i (csF (L.take i))):=ownsRow_frL HC6.out hFz (fun _ _ e=>e)
     have HFZ:Hd (Fr (fun _=>False) wa wz):=HF6.out.trans hFz
     clear hFz hwz HL6 HC6 HF6
     go_wp2_with ((at_builtin;refine Hd.out ?_))
     unfold Hd
     rw[← HWZ.out]
     refine wpList_rowI rfl (.tmp 44) (.tmp 55) rfl rfl rfl HLZ.out HBZ.out (by omega) HFZ.out.size ?_
     intro g7 cap7 w7 hown7 hfr7
     obtain⟨hc7,hf7⟩:=push_row HLZ.out HCZ.out (by decide) HFZ.out hfr7
     have HL7:Hd (w7.ownsRow wa.heap.size 64 1 (.slice (some ⟨g7,0,none⟩) (us.length+1+1) cap7) (lsF (L.take i)++lsC (x.2.2.take (k+1))).length (lsF (L.take i)++lsC (x.2.2.take (k+1)))):=by
      have e:us++[.slice aa y.1.args.length ac]++[.slice ra y.1.rets.length rc]=lsF (L.take i)++lsC (x.2.2.take (k+1)):=by rw[HEA.out,HUS.out];simp
      rw[e] at hown7
      have e2:us.length+1+1=(lsF (L.take i)++lsC (x.2.2.take (k+1))).length:=by rw[← e];simp
      rw[← e2]
      exact hown7
     have HC7:Hd (w7.ownsRow wa.heap.size 65 1 u4 i (csF (L.take i))):=hc7
     have HF7:Hd (Fr (fun _=>False) wa w7):=hf7
     clear hown7 hfr7 hc7 hf7 HLZ HCZ HFZ HWZ HBZ q1 q2 q3 q4
     have hltk2:k+1≤x.2.2.length:=hltk
     clear hltk
     go_wp2_with fail
     go_roundw
     case measure=>simp;omega
     case rel=>exact⟨k+1,by simp,by omega,HL7.out,HC7.out,HF7.out⟩
    ·have d2:decide ((k:Int)<(x.2.2.length:Int))=false:=by simp;omega
     have hkl:k=x.2.2.length:=by omega
     have HL1:Hd (wr.ownsRow wa.heap.size 64 1 u3 (lsF (L.take (i+1))).length (lsF (L.take (i+1)))):=by
      have:=HL.out
      rw[hkl,List.take_length,← lsF_take HX.out] at this
      exact this
     obtain⟨la0,lc0,ecv⟩:=own_slice HCV.out
     subst ecv
     obtain⟨wz,hwz⟩:∃ wz,wz=wr.alloc (.cells #[.slice ca x.2.2.length cc] 65):=⟨_,rfl⟩
     have hFz:Fr (fun _=>False) wr wz:=by rw[hwz];exact Fr.alloc (Fr.refl _ _) _
     have HWZ:Hd (wz=wr.alloc (.cells #[.slice ca x.2.2.length cc] 65)):=hwz
     have HBZ:Hd (wz.heap[wr.heap.size]?=some (.cells #[.slice ca x.2.2.length cc] 65)):=by unfold Hd;rw[hwz];exact heap_new wr _
     have HLZ:Hd (wz.ownsRow wa.heap.size 64 1 u3 (lsF (L.take (i+1))).length (lsF (L.take (i+1)))):=ownsRow_frL HL1.out hFz (fun _ _ e=>e)
     have HCZ:Hd (wz.ownsRow wa.heap.size 65 1 (.slice la0 i lc0) i (csF (L.take i))):=ownsRow_frL HCV.out hFz (fun _ _ e=>e)
     have HFZ:Hd (Fr (fun _=>False) wa wz):=HF.out.trans hFz
     have d2n:¬ k<x.2.2.length:=hltk
     clear hFz hwz HL HCV HF HL1 hltk hkl
     go_wp2_with ((at_builtin;refine Hd.out ?_))
     unfold Hd
     rw[← HWZ.out]
     refine wpList_rowC rfl (.tmp 57) (.tmp 64) rfl rfl rfl HCZ.out HBZ.out (by omega) HFZ.out.size ?_
     intro g6 cap6 w6 hown6 hfr6
     obtain⟨hl6,hf6⟩:=push_row HCZ.out HLZ.out (by decide) HFZ.out hfr6
     have HL6:Hd (w6.ownsRow wa.heap.size 64 1 u3 (lsF (L.take (i+1))).length (lsF (L.take (i+1)))):=hl6
     have HC6:Hd (w6.ownsRow wa.heap.size 65 1 (.slice (some ⟨g6,0,none⟩) (i+1) cap6) (i+1) (csF (L.take (i+1)))):=by unfold Hd;rw[csF_take HX.out,HXC.out];exact hown6
     have HF6:Hd (Fr (fun _=>False) wa w6):=hf6
     have hlt2:i+1≤n:=HLT.out
     clear hown6 hfr6 hl6 hf6 HLZ HCZ HFZ HWZ HBZ q1 q2
     go_wp2_with fail
     go_roundw
     case measure=>simp;omega
     case rel=>exact⟨i+1,by simp,by omega,HL6.out,HC6.out,HF6.out⟩
  ·have d1:decide ((i:Int)<(n:Int))=false:=by simp;omega
   have d1n:¬ i<n:=hlt
   have hin:i=n:=by omega
   have hLn:L.take i=L:=by rw[hin,← HN.out,List.take_length]
   rw[hLn] at HL HCV
   rw[hin] at HCV
   have hBg:B≤gF∧gF<w.heap.size:=World.ownsRow.lt HH.out.row gF rfl
   have hBa:B≤wa.heap.size:=by have:=HFA.out.size;omega
   have hsr:=HF.out.size
   have hml:(lsF L).length≤999999999:=by
    have:=lsF_len L (fun y hy=>(HC.out y hy).1)
    rw[HN.out] at this
    omega
   have HI:Hd (Calls Tryd.prog 49 #[u3] wr fun e w'=>e = .returned (.bool true)∧Fr (fun q=>∃ u∈lsF L,u.ownBlock=some q) wr w'):=ints_call hfo (World.ownsRow.mono HL.out hBa) hml HC.out (by omega)
   have HCR:Hd (∀ x∈L,COw wr B x.2.1 x.2.2):=fun x hx=>(hfo.code x hx).1.row
   have HFR:Hd (wr.ownsRow B 67 4 (.slice (some ⟨gF,0,none⟩) n fc) n (L.flatMap rowF)):=by have:=hfo.row;rw[HN.out] at this;exact this
   have HT1:Hd (∀ q,(∃ u∈lsF L,u.ownBlock=some q)→∃ u l,IOwn wr B u l∧u.ownBlock=some q∧q<B'):=fun q ⟨u,hu,e⟩=>by
    rw[← lsP_fst] at hu
    obtain⟨z,hz,rfl⟩:=List.mem_map.1 hu
    refine⟨z.1,z.2,lsP_own hfo.toFO z hz,e,HU.out.2 _ (List.mem_append_right _ ?_) q e⟩
    rw[← lsP_fst]
    exact List.mem_map.2 ⟨z,hz,rfl⟩
   have HPW:Hd ((csF L).Pairwise Lt):=hfo.cs
   have HBZ0:Hd (B'≤Z∧wa.heap.size=Z+1):=⟨HZ.out.2.2,HZ.out.2.1⟩
   have HBX1:Hd (wr.heap[Z]?=some (.cells #[vI G,.slice (some ⟨gF,0,none⟩) n fc] 26)):=(HF.out.block Z (heap_lt HBX.out) (fun h=>h)).trans HBX.out
   clear hfo hlt hi d1n hLn HL
   subst hin
   go_wp2_with fail
   refine Calls.mono HI.out ?_
   rintro e w1 ⟨rfl,f1⟩
   have HC1:Hd (∀ x∈L,COw w1 B x.2.1 x.2.2):=fun x hx=>(HCR.out x hx).fr f1 (fun q e e2=>by
    obtain⟨u,l,h1,h2,-⟩:=HT1.out q e2
    exact own_apart (HCR.out x hx) h1 (by decide) q h2 e)
   have HF1:Hd (w1.ownsRow B 67 4 (.slice (some ⟨gF,0,none⟩) i fc) i (L.flatMap rowF)):=ownsRow_frL HFR.out f1 (fun q e e2=>by
    obtain⟨u,l,h1,h2,-⟩:=HT1.out q e2
    exact own_apart HFR.out h1 (by decide) q h2 e)
   have HV1:Hd (w1.ownsRow wa.heap.size 65 1 u4 i (csF L)):=ownsRow_frL HCV.out f1 (fun q e e2=>by
    obtain⟨u,l,-,-,h3⟩:=HT1.out q e2
    have:=(World.ownsRow.lt HCV.out q e).1
    have:=HBZ0.out
    omega)
   have HB1:Hd (w1.heap[Z]?=some (.cells #[vI G,.slice (some ⟨gF,0,none⟩) i fc] 26)):=(f1.block Z (heap_lt HBX1.out) (fun e2=>by
    obtain⟨u,l,-,-,h3⟩:=HT1.out Z e2
    have:=HBZ0.out
    omega)).trans HBX1.out
   have HFF1:Hd (Fr (fun q=>B≤q∧q<B') w w1):=((HFA.out.trans HF.out).mono (fun _ _ h=>h.elim)).trans (f1.mono (fun q _ e2=>by
    obtain⟨u,l,h1,h2,h3⟩:=HT1.out q e2
    exact⟨(h1.ge q h2).1,h3⟩))
   have hs1:=f1.size
   have HCC:Hd (Calls Tryd.prog 50 #[u4] w1 fun e w'=>e = .returned (.bool true)∧Fr (fun q=>∃ u∈csF L,u.ownBlock=some q) w1 w'):=code_call HC1.out HPW.out (by rw[HN.out];exact World.ownsRow.mono HV1.out hBa) (by rw[HN.out];omega) (by rw[HN.out];omega) (fun x hx=>(HC.out x hx).1) (by omega)
   clear f1 HI HCR HFR HBX1 HCV HT1
   go_wp2_with fail
   refine Calls.mono HCC.out ?_
   rintro e w2 ⟨rfl,f2⟩
   have HT2:Hd (∀ q,(∃ u∈csF L,u.ownBlock=some q)→∃ u l,COw w1 B u l∧u.ownBlock=some q∧q<B'):=fun q ⟨u,hu,e⟩=>by
    obtain⟨x,hx,rfl⟩:=List.mem_map.1 hu
    exact⟨x.2.1,x.2.2,HC1.out x hx,e,HU.out.2 _ (List.mem_append_left _ hu) q e⟩
   have HF2:Hd (w2.ownsRow B 67 4 (.slice (some ⟨gF,0,none⟩) i fc) i (L.flatMap rowF)):=ownsRow_frL HF1.out f2 (fun q e e2=>by
    obtain⟨u,l,h1,h2,-⟩:=HT2.out q e2
    exact own_apart HF1.out h1 (by decide) q h2 e)
   have HB2:Hd (w2.heap[Z]?=some (.cells #[vI G,.slice (some ⟨gF,0,none⟩) i fc] 26)):=(f2.block Z (heap_lt HB1.out) (fun e2=>by
    obtain⟨u,l,-,-,h3⟩:=HT2.out Z e2
    have:=HBZ0.out
    omega)).trans HB1.out
   have HFF2:Hd (Fr (fun q=>B≤q∧q<B') w w2):=HFF1.out.trans (f2.mono (fun q _ e2=>by
    obtain⟨u,l,h1,h2,h3⟩:=HT2.out q e2
    exact⟨(h1.ge q h2).1,h3⟩))
   have hs2:=f2.size
   have HGB:Hd (B≤gF∧gF<B'∧gF≠Z):=⟨hBg.1,HU.out.1,by have:=HU.out.1;have:=HBZ0.out;omega⟩
   have HSZ:Hd (B≤w2.heap.size∧w.heap.size≤w2.heap.size):=⟨by omega,by have:=HFA.out.size;omega⟩
   clear f2 HCC HC1 HF1 HV1 HB1 HFF1 HT2 q1 HU HBZ0
   have q1:w2.cell? ⟨Z,1,none⟩=some (.slice (some ⟨gF,0,none⟩) i fc):=by rw[cell_of HB2.out];rfl
   go_wp2_with fail
   have HW0:Hd (∃ rows,w2.ownsRow B 67 4 (.slice (some ⟨gF,0,none⟩) i fc) i rows):=⟨_,HF2.out⟩
   have HWF:Hd (Fr (fun q=>q=gF) w2 w2):=Fr.refl _ _
   clear HF2 q1
   go_loopw [10] (fun v wx=>∃ k:Nat,v = .int .i64 k∧k≤i∧Hd (∃ rows,wx.ownsRow B 67 4 (.slice (some ⟨gF,0,none⟩) i fc) i rows)∧Hd (Fr (fun q=>q=gF) w2 wx)) (fun v _=>match v with | .int _ q=>i-q.toNat | _=>0)
   case atStart=>exact⟨0,by simp,Nat.zero_le _,HW0.out,HWF.out⟩
   case round =>
    clear HW0 HWF
    obtain⟨k,rfl,hk,HR,HWF⟩:=hrel
    have hbz:wr.heap[Z]?=some (.cells #[vI G,.slice (some ⟨gF,0,none⟩) i fc] 26):=(HWF.out.block Z (heap_lt HB2.out) (fun e=>HGB.out.2.2 e.symm)).trans HB2.out
    have q1:wr.cell? ⟨Z,1,none⟩=some (.slice (some ⟨gF,0,none⟩) i fc):=by rw[cell_of hbz];rfl
    clear hbz
    by_cases hltk:k<i
    ·have d2:decide ((k:Int)<(i:Int))=true:=by simp;omega
     have k0:(0:Int)≤k:=by omega
     have k1:(k:Int)<i:=by omega
     obtain⟨rows,hr⟩:=HR.out
     have hrl:rows.length=i*4:=hr.1
     have hcell:∀ o,o<4→∃ u,wr.cell? ⟨gF,k*4+o,none⟩=some u:=fun o ho=>by
      obtain⟨g',c',e',-,hc⟩:=own_cell hr (j:=k*4+o) (u:=rows[k*4+o]'(by omega)) (List.getElem?_eq_getElem (by omega))
      cases e'
      exact⟨_,hc⟩
     obtain⟨u0,r0⟩:=hcell 0 (by omega)
     obtain⟨u1,r1⟩:=hcell 1 (by omega)
     obtain⟨u2,r2⟩:=hcell 2 (by omega)
     obtain⟨u3',r3⟩:=hcell 3 (by omega)
     rw[Nat.add_zero] at r0
     have hz:=fun o=>(row_setI (j:=o) hr (vI 0)).2
     have HR2:Hd (∃ rows,((((wr.setCell ⟨gF,k*4,none⟩ (vI 0)).setCell ⟨gF,k*4+1,none⟩ (vI 0)).setCell ⟨gF,k*4+2,none⟩ (vI (-9))).setCell ⟨gF,k*4+3,none⟩ (.slice none 0 0)).ownsRow B 67 4 (.slice (some ⟨gF,0,none⟩) i fc) i rows):=⟨_,(row_setI (row_setI (row_setI (row_setI hr _).1 _).1 _).1 _).1⟩
     have HW2:Hd (Fr (fun q=>q=gF) w2 ((((wr.setCell ⟨gF,k*4,none⟩ (vI 0)).setCell ⟨gF,k*4+1,none⟩ (vI 0)).setCell ⟨gF,k*4+2,none⟩ (vI (-9))).setCell ⟨gF,k*4+3,none⟩ (.slice none 0 0))):=HWF.out.trans ((((setCell_fr wr gF _ _).trans (setCell_fr _ gF _ _)).trans (setCell_fr _ gF _ _)).trans (setCell_fr _ gF _ _))
     have hltk2:k+1≤i:=hltk
     clear hcell hrl hr HR HWF hltk
     go_wp2_with fail
     go_roundw
     case measure=>simp;omega
     case rel=>exact⟨k+1,by simp,by omega,HR2.out,HW2.out⟩
    ·have d2:decide ((k:Int)<(i:Int))=false:=by simp;omega
     have d2n:¬ k<i:=hltk
     have HM0:Hd (∃ rows,wr.ownsRow B 67 4 (.slice (some ⟨gF,0,none⟩) i fc) (i+0) rows):=HR.out
     have HS2:Hd (B≤wr.heap.size∧w.heap.size≤wr.heap.size):=⟨Nat.le_trans HSZ.out.1 HWF.out.size,Nat.le_trans HSZ.out.2 HWF.out.size⟩
     have HF3:Hd (Fr (fun q=>B≤q∧q<B') w wr):=HFF2.out.trans (HWF.out.mono (fun q _ e=>by have:=HGB.out;subst e;exact⟨this.1,this.2.1⟩))
     clear hltk HR HWF HFF2 HSZ HB2
     obtain⟨w3,hw3⟩:∃ w3,w3=wr:=⟨_,rfl⟩
     rw[← hw3] at HM0 HS2 HF3 q1
     subst hw3
     go_wp2_with fail
     have HAT:Hd (∀ q,(Value.slice (some ⟨gF,0,none⟩) i fc).ownBlock=some q→q=gF∨w3.heap.size≤q):=fun q e=>Or.inl (by injection e with e;exact e.symm)
     have HWF:Hd (Fr (fun q=>q=gF) w3 w3):=Fr.refl _ _
     go_loopw [11,12] (fun mv v wx=>∃ t:Nat,v = .int .i64 t∧t≤64∧Hd (∃ rows,wx.ownsRow B 67 4 mv (i+t) rows)∧Hd (∀ q,mv.ownBlock=some q→q=gF∨w3.heap.size≤q)∧Hd (Fr (fun q=>q=gF) w3 wx)) (fun _ v _=>match v with | .int _ q=>64-q.toNat | _=>0)
     case atStart=>exact⟨0,by simp,by omega,HM0.out,HAT.out,HWF.out⟩
     case round =>
      clear HM0 HAT HWF q1
      obtain⟨t,rfl,ht,HR,HAT,HWF⟩:=hrel
      obtain⟨rows,hr⟩:=HR.out
      obtain⟨ma,mc,emv⟩:=own_slice hr
      subst emv
      by_cases hltt:t<64
      ·have d3:decide ((t:Int)<64)=true:=by simp;omega
       obtain⟨wz,hwz⟩:∃ wz,wz=wr.alloc (.cells #[vI 0,vI 0,vI (-10),.slice none 0 0] 67):=⟨_,rfl⟩
       have hFz:Fr (fun _=>False) wr wz:=by rw[hwz];exact Fr.alloc (Fr.refl _ _) _
       have HWZ:Hd (wz=wr.alloc (.cells #[vI 0,vI 0,vI (-10),.slice none 0 0] 67)):=hwz
       have HBZ:Hd (wz.heap[wr.heap.size]?=some (.cells #[vI 0,vI 0,vI (-10),.slice none 0 0] 67)):=by unfold Hd;rw[hwz];exact heap_new wr _
       have HRZ:Hd (wz.ownsRow B 67 4 (.slice ma (i+t) mc) (i+t) rows):=ownsRow_frL hr hFz (fun _ _ e=>e)
       have HFZ:Hd (Fr (fun q=>q=gF) w3 wz):=HWF.out.trans (hFz.mono (fun _ _ h=>h.elim))
       have HBS:Hd (B≤wz.heap.size):=Nat.le_trans HS2.out.1 HFZ.out.size
       clear hFz hwz hr HR HWF
       go_wp2_with ((at_builtin;refine Hd.out ?_))
       unfold Hd
       rw[← HWZ.out]
       refine wpList_func rfl (.tmp 89) (.tmp 91) rfl rfl rfl HRZ.out HBZ.out (by omega) HBS.out ?_
       intro g6 cap6 w6 hown6 hfr6 hat6
       have HR6:Hd (∃ rows,w6.ownsRow B 67 4 (.slice (some ⟨g6,0,none⟩) (i+t+1) cap6) (i+(t+1)) rows):=⟨_,hown6⟩
       have HF6:Hd (Fr (fun q=>q=gF) w3 w6):=HFZ.out.then hfr6 (fun q hq e=>by
        rcases HAT.out q e with h | h
        ·exact h
        ·omega)
       have HA6:Hd (∀ q,(Value.slice (some ⟨g6,0,none⟩) (i+t+1) cap6).ownBlock=some q→q=gF∨w3.heap.size≤q):=fun q e=>by
        have e2:g6=q:=by injection e
        subst e2
        rcases hat6 with h | h
        ·exact HAT.out _ h
        ·have:=HFZ.out.size
         right;omega
       have hlt2:t+1≤64:=hltt
       clear hown6 hfr6 hat6 HRZ HBZ HWZ HFZ HBS HAT hltt
       go_wp2_with fail
       go_roundw
       case measure=>simp;omega
       case rel=>exact⟨t+1,by simp,by omega,HR6.out,HA6.out,HF6.out⟩
      ·have d3:decide ((t:Int)<64)=false:=by simp;omega
       have ht64:t=64:=by omega
       subst ht64
       have heq:(((i+64:Nat):Int)==(i:Int)+64)=true:=by simp
       have heq2:decide (((i+64:Nat):Int)=(i:Int)+64)=true:=by simp
       have HFE:Hd (Fr (fun q=>B≤q∧q<B') w wr):=HF3.out.trans (HWF.out.mono (fun q _ e=>by have:=HGB.out;subst e;exact⟨this.1,this.2.1⟩))
       clear hr HR HAT HWF hltt
       go_wp2_with fail
       go_ret
       exact⟨rfl,HFE.out⟩
end Go.Proofs.YtingenonbkencaaDoor
