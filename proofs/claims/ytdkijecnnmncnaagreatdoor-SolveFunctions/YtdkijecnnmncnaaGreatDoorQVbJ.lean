import Derived.Test.YtdkijecnnmncnaaGreatDoorQWF3J
import Derived.Deep.LoopGhost
import Derived.Test.YtdkijecnnmncnaaGreatDoorQMfJ
import Derived.Test.YtdkijecnnmncnaaGreatDoorQN8J
import Derived.StillTail
import Derived.StillTailTactics
import Derived.BigQuiet
set_option linter.unusedVariables false
set_option linter.unusedSimpArgs false
namespace Go.Proofs.YtdkijecnnmncnaaGreatDoor
open Go.RowKit (wrap32 wrap64)
set_option maxRecDepth 100000
set_option maxHeartbeats 4000000
def cntF (n:Nat)(esc:Nat→Bool):Nat:=((List.range n).filter fun l=>!esc l).length
theorem cntF_le {n:Nat}{e e':Nat→Bool}(h:∀ l,e l=true→e' l=true):cntF n e'≤cntF n e:=by
 unfold cntF
 induction n with
 | zero=>simp
 | succ n ih =>
   rw[List.range_succ,List.filter_append,List.filter_append,List.length_append,List.length_append]
   have:([n].filter fun l=>!e' l).length≤([n].filter fun l=>!e l).length:=by
    cases h1:e n with
    | true=>simp[h1,h n h1]
    | false=>cases h2:e' n<;>simp[h1,h2]
   omega
theorem cntF_lt {n x:Nat}{e e':Nat→Bool}(h:∀ l,e l=true→e' l=true)(hx:x<n)(h1:e x=false)(h2:e' x=true):cntF n e'<cntF n e:=by
 unfold cntF
 induction n with
 | zero=>omega
 | succ n ih =>
   rw[List.range_succ,List.filter_append,List.filter_append,List.length_append,List.length_append]
   have h3:([n].filter fun l=>!e' l).length≤([n].filter fun l=>!e l).length:=by
    cases h1:e n with
    | true=>simp[h1,h n h1]
    | false=>cases h2:e' n<;>simp[h1,h2]
   by_cases e1:x=n
   ·subst e1
    have h4:=cntF_le (n:=x) h
    unfold cntF at h4
    have h5:([x].filter fun l=>!e' l).length=0:=by simp[h2]
    have h6:([x].filter fun l=>!e l).length=1:=by simp[h1]
    omega
   ·have:=ih (by omega)
    omega
theorem range_false (n:Nat):(List.range n).map (fun _=>Value.bool false)=List.replicate n (.bool false):=by
 rw[List.map_const',List.length_range]
theorem escapes_any (n r:Nat)(ea:Option Addr)(en ec:Nat)(es:List Ed)(w:World)(hE:Wg.EdgesAt w.heap.size w (.slice ea en ec) es)(hG:EdR n r es)(hel:es.length≤163840)(hr4:r≤4) :
 Calls Tryz.prog 57 #[vI n,vI r,.slice ea en ec] w fun e w'=>Fr (fun _=>False) w w'∧∃ a c esc x,e = .returned (.slice a n c)∧OB w' w.heap.size (.slice a n c) n esc∧Least n es (rootsX r) x∧∀ l,l<n→esc l=decide (x l = -1):=by
 obtain⟨i4,hi4,hz4,hs4,hb4⟩:=info_parts (P:=Tryz.prog) (e:=4) (z:=.bool false) (size:=1) (bytes:=1) (by kernel_rfl)
 have hn1:n≤1048576:=hG.n2
 have hrn:r<n:=hG.n1
 have HG:Hd (EdR n r es):=hG
 have HFL:Hd (∀ wx ra rn rc rs,Fr (fun _=>False) w wx→Wg.IntsAt wx.heap.size wx (.slice ra rn rc) rs→RightG n es rs→rs.length≤2000000→Calls Tryz.prog 58 #[vI n,.slice ea en ec,.slice ra rn rc] wx (RfE n es rs wx)):=fun wx ra rn rc rs hx hi hg hl=>rflows_any n ea en ec es ra rn rc rs wx (edges_stay hE hx) hi hg (by omega) (by omega)
 clear hE hG
 go_enter Tryz.func57,Tryz.ntmps57
 go_wp2_with fail
 go_loopw [7,8] (fun mv v wr=>∃ (k:Nat),v = .int .i64 k∧k≤n∧Hd (wr.ownsRow w.heap.size 4 1 mv k (List.replicate k (.bool false)))∧Hd (Fr (fun _=>False) w wr)) (fun _ v _=>match v with | .int _ q=>n-q.toNat | _=>0)
 case atStart=>exact⟨0,rfl,Nat.zero_le _,World.ownsRow_nil _ _ _ _,Fr.refl _ _⟩
 case round =>
  obtain⟨k,rfl,hk,HO,HF⟩:=hrel
  by_cases hlt:k<n
  ·have hk0:(0:Int)≤k:=by omega
   have hk1:(k:Int)<n:=by omega
   have HO1:Hd ((wr.alloc (.cells #[.bool false] 4)).ownsRow w.heap.size 4 1 u7 k (List.replicate k (.bool false))):=World.ownsRow.alloc HO.out _
   have hnews:∀ j u,[Value.bool false][j]?=some u→(wr.alloc (.cells #[.bool false] 4)).cell? ((⟨wr.heap.size,0,none⟩:Addr).add j)=some u :=
    World.news_of_block (cs:=#[.bool false]) (heap_new0 wr (.cells #[.bool false] 4))
   have hsz:=HF.out.size
   have hbase:w.heap.size≤(wr.alloc (.cells #[.bool false] 4)).heap.size:=by simp;omega
   go_wp2_with ((at_builtin;refine Hd.out ?_))
   unfold Hd
   refine wpList_append_lies _ rfl (.tmp 20) (.tmp 21) 35 rfl w.heap.size 4 i4 (.bool false) 1 1 under35 hi4 hz4 hs4 hb4 rfl (by omega) u7 k _ rfl HO1.out ⟨wr.heap.size,0,none⟩ 1 1 [.bool false] rfl rfl hnews (by intro u hu;simp at hu;subst hu;rfl) (by omega) (by unfold maxLen;omega) (by omega) hbase (wr.heap.size+1) (by simp) ?_
   intro g6 cap6 w6 hown6 hgrow6 hat6 hlt6
   have HO6:Hd (w6.ownsRow w.heap.size 4 1 (.slice (some ⟨g6,0,none⟩) (k+1) cap6) (k+1) (List.replicate (k+1) (.bool false))):=by unfold Hd;rw[List.replicate_succ'];exact hown6
   have HF6:Hd (Fr (fun _=>False) w w6):=grow_fr0 (HF.out.alloc _) hgrow6 (fun k hk=>(World.ownsRow.lt HO.out k hk).1)
   clear hown6 hgrow6 hat6 hlt6 HO HF HO1 hnews hbase
   go_wp2_with fail
   exact⟨⟨k+1,by simp,by omega,HO6.out,HF6.out⟩,by simp;omega⟩
  ·have hke:k=n:=by omega
   have dk:decide ((k:Int)<n)=false:=by simp;omega
   have hob:OB wr w.heap.size u7 n (fun _=>false):=by
    have:=HO.out
    rw[hke] at this
    unfold OB
    rw[range_false]
    exact this
   obtain⟨g,cap,eu,hgB,hgl⟩:=World.ownsRow.form hob (by omega)
   subst eu
   have HOB:Hd (OB wr w.heap.size (.slice (some ⟨g,0,none⟩) n cap) n (fun _=>false)):=hob
   have HGB:Hd (w.heap.size≤g):=hgB
   clear hke hob HO hgB hgl
   go_wp2_with fail
   clear dk
   have HE0:Hd (EscS n r es (fun _=>false)):=fun l hl h=>by cases h
   go_loopw [9] (fun v wr=>∃ (j:Nat) (esc:Nat→Bool) (z:Nat→Nat→Int),v = .int .i64 j∧j≤r∧Hd (OB wr w.heap.size (.slice (some ⟨g,0,none⟩) n cap) n esc)∧Hd (EscS n r es esc)∧Hd (∀ q,q<j→Least n es [1+(q:Int)] (z q))∧Hd (∀ q,q<j→∀ l,r<l→l<n→z q l = -1→esc l=true)∧Hd (Fr (fun _=>False) w wr)) (fun v _=>match v with | .int _ q=>r-q.toNat | _=>0)
   case atStart=>exact⟨0,_,fun _ _=>0,rfl,Nat.zero_le _,HOB.out,HE0.out,fun q hq=>absurd hq (Nat.not_lt_zero _),fun q hq=>absurd hq (Nat.not_lt_zero _),HF.out⟩
   case round =>
    clear HOB HF
    obtain⟨j,esc,z,rfl,hj,HO,HE,HZL,HZE,HF⟩:=hrel
    by_cases hjr:j<r
    ·have hj0:(0:Int)≤j:=by omega
     have hj1:(j:Int)<r:=by omega
     have hw1:wrap64 (1+(j:Int))=1+(j:Int):=by unfold wrap64;omega
     have hw2:wrap64 (1+(r:Int))=((1+r:Nat):Int):=by unfold wrap64;omega
     have HFb:Hd (Fr (fun _=>False) wr (wr.alloc (.cells #[vI (1+(j:Int))] 3))):=Fr.alloc (Fr.refl _ wr) _
     have HCF:Hd (Calls Tryz.prog 58 #[vI n,.slice ea en ec,.slice (some ⟨wr.heap.size,0,none⟩) 1 1] (wr.alloc (.cells #[vI (1+(j:Int))] 3)) (RfE n es [1+(j:Int)] (wr.alloc (.cells #[vI (1+(j:Int))] 3)))):=HFL.out _ _ _ _ _ (HF.out.trans HFb.out) (ints_one wr (1+(j:Int))) (HG.out.res hjr) (by simp)
     go_wp2_with fail
     refine HCF.out.mono ?_
     rintro e wf ⟨hFf,za,zc,zj,rfl,hzi,hzb,hzl⟩
     have HZC:Hd (∀ wx,Fr (fun k=>k=g) wf wx→∀ i,i<n→∃ k o,za=some ⟨k,o,none⟩∧wx.cell? ⟨k,o+i,none⟩=some (vI (zj i))):=fun wx hx i hi=>by
      obtain⟨a',c',e,h⟩:=hzi
      injection e with e1 e2 e3
      subst e1
      have hi':i<((List.range n).map zj).length:=by simpa using hi
      obtain⟨k,o,e1,e2,e3⟩:=h (by intro e;rw[e] at hi';simp at hi')
      refine⟨k,o,e1,(hx.cell e2 (fun e=>?_)).trans ?_⟩
      ·have h5:=hzb k (by rw[e1];rfl)
       have h6:=(World.ownsRow.lt HO.out g rfl).2
       have h7:=HFb.out.size
       omega
      ·rw[e3 i hi'];simp
     have HOf:Hd (OB wf w.heap.size (.slice (some ⟨g,0,none⟩) n cap) n esc):=HO.out.stay (HFb.out.trans hFf)
     have HFf:Hd (Fr (fun _=>False) w wf):=(HF.out.trans HFb.out).trans hFf
     have HLJ:Hd (Least n es [1+(j:Int)] zj):=hzl
     clear hFf hzi hzb hzl HCF HFb HO HF
     go_wp2_with fail
     go_loopw [11] (fun v wr=>∃ (x:Nat) (esc':Nat→Bool),v = .int .i64 x∧1+r≤x∧x≤n∧Hd (OB wr w.heap.size (.slice (some ⟨g,0,none⟩) n cap) n esc')∧Hd (EscS n r es esc')∧Hd (∀ l,esc l=true→esc' l=true)∧Hd (∀ l,r<l→l<x→zj l = -1→esc' l=true)∧Hd (Fr (fun k=>k=g) wf wr)) (fun v _=>match v with | .int _ q=>n-q.toNat | _=>0)
     case atStart=>exact⟨1+r,esc,rfl,Nat.le_refl _,by omega,HOf.out,HE.out,fun l h=>h,fun l h1 h2=>by omega,Fr.refl _ _⟩
     case round =>
      clear HOf HE
      obtain⟨x,esc',rfl,hx1,hx2,HO,HE,HM,HP,HF⟩:=hrel
      by_cases hxn:x<n
      ·have hx0:(0:Int)≤x:=by omega
       have hx3:(x:Int)<n:=by omega
       have p0:=HO.out.cell hxn
       obtain⟨kz,oz,rfl,pz⟩:=HZC.out wr HF.out x hxn
       have hfz:=(HO.out.set x true).2
       cases hb:esc' x with
       | true =>
         rw[hb] at p0
         have HO2:Hd (OB (wr.setCell ⟨g,x,none⟩ (.bool true)) w.heap.size (.slice (some ⟨g,0,none⟩) n cap) n esc'):=(HO.out.set x true).1.congr fun i _=>by
          unfold Wg.upd;split
          ·rename_i e;rw[e,hb]
          ·rfl
         have HP2:Hd (∀ l,r<l→l<x+1→zj l = -1→esc' l=true):=fun l h1 h2 h3=>by
          by_cases e:l=x
          ·rw[e];exact hb
          ·exact HP.out l h1 (by omega) h3
         have HF2:Hd (Fr (fun k=>k=g) wf (wr.setCell ⟨g,x,none⟩ (.bool true))):=HF.out.setCell _ _ (Or.inl rfl)
         clear hb HO HP HF
         go_wp2_with fail
         exact⟨⟨x+1,esc',by simp,by omega,by omega,HO2.out,HE.out,HM.out,HP2.out,HF2.out⟩,by simp;omega⟩
       | false =>
         rw[hb] at p0
         have HO2:Hd (OB (wr.setCell ⟨g,x,none⟩ (.bool (zj x==-1))) w.heap.size (.slice (some ⟨g,0,none⟩) n cap) n (Wg.upd esc' x (zj x==-1))):=(HO.out.set x (zj x==-1)).1
         have HE2:Hd (EscS n r es (Wg.upd esc' x (zj x==-1))):=fun l hl he=>by
          unfold Wg.upd at he
          split at he
          ·rename_i e
           subst e
           exact esc_first HG.out hjr HLJ.out hl (by simpa using he)
          ·exact HE.out l hl he
         have HM2:Hd (∀ l,esc l=true→Wg.upd esc' x (zj x==-1) l=true):=fun l hl=>by
          unfold Wg.upd
          split
          ·rename_i e
           have:=HM.out l hl
           rw[e,hb] at this
           cases this
          ·exact HM.out l hl
         have HP2:Hd (∀ l,r<l→l<x+1→zj l = -1→Wg.upd esc' x (zj x==-1) l=true):=fun l h1 h2 h3=>by
          unfold Wg.upd
          split
          ·rename_i e
           rw[← e]
           simpa using h3
          ·exact HP.out l h1 (by omega) h3
         have HF2:Hd (Fr (fun k=>k=g) wf (wr.setCell ⟨g,x,none⟩ (.bool (zj x==-1)))):=HF.out.setCell _ _ (Or.inl rfl)
         clear hb HO HE HM HP HF
         generalize zj x=zz at *
         go_wp2_with fail
         exact⟨⟨x+1,_,by simp,by omega,by omega,HO2.out,HE2.out,HM2.out,HP2.out,HF2.out⟩,by simp;omega⟩
      ·have hxe:x=n:=by omega
       have dx:decide ((x:Int)<n)=false:=by simp;omega
       have HZL2:Hd (∀ q,q<j+1→Least n es [1+(q:Int)] (Wg.upd z j zj q)):=fun q hq=>by
        by_cases e:q=j
        ·rw[e,Wg.upd_same];exact HLJ.out
        ·rw[Wg.upd_ne _ _ e];exact HZL.out q (by omega)
       have HZE2:Hd (∀ q,q<j+1→∀ l,r<l→l<n→Wg.upd z j zj q l = -1→esc' l=true):=fun q hq l h1 h2 h3=>by
        by_cases e:q=j
        ·rw[e,Wg.upd_same] at h3
         exact HP.out l h1 (by omega) h3
        ·rw[Wg.upd_ne _ _ e] at h3
         exact HM.out l (HZE.out q (by omega) l h1 h2 h3)
       have HF2:Hd (Fr (fun _=>False) w wr):=HFf.out.then HF.out (fun j hj e=>by have:=HGB.out;omega)
       clear hxe
       go_wp2_with fail
       exact⟨⟨j+1,esc',Wg.upd z j zj,by simp,by omega,HO.out,HE.out,HZL2.out,HZE2.out,HF2.out⟩,by simp;omega⟩
    ·have hje:j=r:=by omega
     have dj:decide ((j:Int)<r)=false:=by simp;omega
     have HZL2:Hd (∀ q,q<r→Least n es [1+(q:Int)] (z q)):=fun q hq=>HZL.out q (by omega)
     have HZE2:Hd (∀ q,q<r→∀ l,r<l→l<n→z q l = -1→esc l=true):=fun q hq=>HZE.out q (by omega)
     clear hje HZL HZE
     go_wp2_with fail
     clear dj
     go_loopg [12] (2*cntF n esc+1) (fun kk mv wr=>∃ (esc:Nat→Bool) (b:Bool),mv = .bool b∧Hd (OB wr w.heap.size (.slice (some ⟨g,0,none⟩) n cap) n esc)∧Hd (EscS n r es esc)∧Hd (∀ q,q<r→∀ l,r<l→l<n→z q l = -1→esc l=true)∧Hd (b=false→∃ y,Least n es (heapsX n esc) y∧∀ l,r<l→l<n→y l = -1→esc l=true)∧Hd (2*cntF n esc+(if b then 1 else 0)≤kk)∧Hd (Fr (fun _=>False) w wr))
     case atStart=>exact⟨esc,true,rfl,HO.out,HE.out,HZE2.out,(fun h=>by cases h),Nat.le_refl _,HF.out⟩
     case round =>
      clear HO HE HZE2 HF
      obtain⟨esc,b,rfl,HO,HE,HZ,HC,HM,HF⟩:=hrel
      cases b with
      | true =>
        have HM1:Hd (2*cntF n esc+(if false then 1 else 0)<gk):=HM.out
        have HH:Hd _:=rheaps_any n (some ⟨g,0,none⟩) cap esc wr HO.out.bl hn1
        clear HC HM
        go_wp2_with fail
        refine Calls.mono HH.out ?_
        rintro e wh ⟨hFh,ra,rl,rc,rfl,hrl,hio⟩
        have hw2:wrap64 (1+(r:Int))=((1+r:Nat):Int):=by unfold wrap64;omega
        have HCF:Hd (Calls Tryz.prog 58 #[vI n,.slice ea en ec,.slice ra rl rc] wh (RfE n es (heapsX n esc) wh)):=HFL.out _ _ _ _ _ (HF.out.trans hFh) (iown_ints hio) (HG.out.heaps esc) (by have:=heapsX_len n esc;omega)
        have HFh:Hd (Fr (fun _=>False) wr wh):=hFh
        clear hFh hrl hio HH
        go_wp2_with fail
        refine HCF.out.mono ?_
        rintro e wf ⟨hFf,za,zc,y,rfl,hzi,hzb,hzl⟩
        have HZC:Hd (∀ wx,Fr (fun k=>k=g) wf wx→∀ i,i<n→∃ k o,za=some ⟨k,o,none⟩∧wx.cell? ⟨k,o+i,none⟩=some (vI (y i))):=fun wx hx i hi=>by
         obtain⟨a',c',e,h⟩:=hzi
         injection e with e1 e2 e3
         subst e1
         have hi':i<((List.range n).map y).length:=by simpa using hi
         obtain⟨k,o,e1,e2,e3⟩:=h (by intro e;rw[e] at hi';simp at hi')
         refine⟨k,o,e1,(hx.cell e2 (fun e=>?_)).trans ?_⟩
         ·have h5:=hzb k (by rw[e1];rfl)
          have h6:=(World.ownsRow.lt HO.out g rfl).2
          have h7:=HFh.out.size
          omega
         ·rw[e3 i hi'];simp
        have HOf:Hd (OB wf w.heap.size (.slice (some ⟨g,0,none⟩) n cap) n esc):=HO.out.stay (HFh.out.trans hFf)
        have HFf:Hd (Fr (fun _=>False) w wf):=(HF.out.trans HFh.out).trans hFf
        have HLY:Hd (Least n es (heapsX n esc) y):=hzl
        clear hFf hzi hzb hzl HCF HFh HO HF
        go_wp2_with fail
        go_loopw [12,14] (fun mv v wr=>∃ (x:Nat) (esc':Nat→Bool) (b:Bool),mv = .bool b∧v = .int .i64 x∧1+r≤x∧x≤n∧Hd (OB wr w.heap.size (.slice (some ⟨g,0,none⟩) n cap) n esc')∧Hd (EscS n r es esc')∧Hd (∀ l,esc l=true→esc' l=true)∧Hd (b=false→esc'=esc∧∀ l,r<l→l<x→y l = -1→esc l=true)∧Hd (2*cntF n esc'+(if b then 1 else 0)<gk)∧Hd (Fr (fun k=>k=g) wf wr)) (fun _ v _=>match v with | .int _ q=>n-q.toNat | _=>0)
        case atStart=>exact⟨1+r,esc,false,rfl,rfl,Nat.le_refl _,by omega,HOf.out,HE.out,fun l h=>h,(fun _=>⟨rfl,fun l h1 h2=>by omega⟩),HM1.out,Fr.refl _ _⟩
        case round =>
         clear HOf HM1
         obtain⟨x,esc',b,rfl,rfl,hx1,hx2,HO,HE',HM,HP,HK,HF⟩:=hrel
         by_cases hxn:x<n
         ·have hx0:(0:Int)≤x:=by omega
          have hx3:(x:Int)<n:=by omega
          have p0:=HO.out.cell hxn
          obtain⟨kz,oz,rfl,pz⟩:=HZC.out wr HF.out x hxn
          have hfz:=(HO.out.set x true).2
          cases hb:esc' x with
          | true =>
            rw[hb] at p0
            have HO2:Hd (OB (wr.setCell ⟨g,x,none⟩ (.bool true)) w.heap.size (.slice (some ⟨g,0,none⟩) n cap) n esc'):=(HO.out.set x true).1.congr fun i _=>by
             unfold Wg.upd;split
             ·rename_i e;rw[e,hb]
             ·rfl
            have HP2:Hd (b=false→esc'=esc∧∀ l,r<l→l<x+1→y l = -1→esc l=true):=fun h=>by
             obtain⟨h0,h4⟩:=HP.out h
             refine⟨h0,fun l h1 h2 h3=>?_⟩
             by_cases e:l=x
             ·rw[e,← h0];exact hb
             ·exact h4 l h1 (by omega) h3
            have HF2:Hd (Fr (fun k=>k=g) wf (wr.setCell ⟨g,x,none⟩ (.bool true))):=HF.out.setCell _ _ (Or.inl rfl)
            clear hb HO HP HF
            cases b with
            | true =>
              go_wp2_with fail
              exact⟨⟨x+1,esc',true,rfl,by simp,by omega,by omega,HO2.out,HE'.out,HM.out,HP2.out,HK.out,HF2.out⟩,by simp;omega⟩
            | false =>
              go_wp2_with fail
              exact⟨⟨x+1,esc',false,rfl,by simp,by omega,by omega,HO2.out,HE'.out,HM.out,HP2.out,HK.out,HF2.out⟩,by simp;omega⟩
          | false =>
            rw[hb] at p0
            cases hy:(y x==-1) with
            | true =>
              have hy1:y x = -1:=by simpa using hy
              rw[hy1] at pz
              have HO2:Hd (OB (wr.setCell ⟨g,x,none⟩ (.bool true)) w.heap.size (.slice (some ⟨g,0,none⟩) n cap) n (Wg.upd esc' x true)):=(HO.out.set x true).1
              have HE2:Hd (EscS n r es (Wg.upd esc' x true)):=fun l hl he=>by
               unfold Wg.upd at he
               split at he
               ·rename_i e
                subst e
                exact EscS.next HG.out HE.out HLY.out hl hy1
               ·exact HE'.out l hl he
              have HU:Hd (∀ l,esc' l=true→Wg.upd esc' x true l=true):=fun l hl=>by
               unfold Wg.upd
               split
               ·rfl
               ·exact hl
              have HM2:Hd (∀ l,esc l=true→Wg.upd esc' x true l=true):=fun l hl=>HU.out l (HM.out l hl)
              have HK2:Hd (2*cntF n (Wg.upd esc' x true)+(if true then 1 else 0)<gk):=by
               have h1:=cntF_lt HU.out hxn hb (Wg.upd_same _ _ _)
               have h2:=HK.out
               unfold Hd
               split at h2<;>simp<;>omega
              have HF2:Hd (Fr (fun k=>k=g) wf (wr.setCell ⟨g,x,none⟩ (.bool true))):=HF.out.setCell _ _ (Or.inl rfl)
              clear hb hy hy1 HO HE' HM HP HF HK HU
              cases b with
              | true =>
                go_wp2_with fail
                exact⟨⟨x+1,_,true,rfl,by simp,by omega,by omega,HO2.out,HE2.out,HM2.out,(fun h=>by cases h),HK2.out,HF2.out⟩,by simp;omega⟩
              | false =>
                go_wp2_with fail
                exact⟨⟨x+1,_,true,rfl,by simp,by omega,by omega,HO2.out,HE2.out,HM2.out,(fun h=>by cases h),HK2.out,HF2.out⟩,by simp;omega⟩
            | false =>
              have HO2:Hd (OB (wr.setCell ⟨g,x,none⟩ (.bool false)) w.heap.size (.slice (some ⟨g,0,none⟩) n cap) n esc'):=(HO.out.set x false).1.congr fun i _=>by
               unfold Wg.upd;split
               ·rename_i e;rw[e,hb]
               ·rfl
              have HP2:Hd (b=false→esc'=esc∧∀ l,r<l→l<x+1→y l = -1→esc l=true):=fun h=>by
               obtain⟨h0,h4⟩:=HP.out h
               refine⟨h0,fun l h1 h2 h3=>?_⟩
               by_cases e:l=x
               ·rw[e] at h3;rw[h3] at hy;cases hy
               ·exact h4 l h1 (by omega) h3
              have HF2:Hd (Fr (fun k=>k=g) wf (wr.setCell ⟨g,x,none⟩ (.bool false))):=HF.out.setCell _ _ (Or.inl rfl)
              have hfz:=(HO.out.set x false).2
              clear hb HO HP HF
              generalize y x=zz at *
              cases b with
              | true =>
                go_wp2_with fail
                exact⟨⟨x+1,esc',true,rfl,by simp,by omega,by omega,HO2.out,HE'.out,HM.out,HP2.out,HK.out,HF2.out⟩,by simp;omega⟩
              | false =>
                go_wp2_with fail
                exact⟨⟨x+1,esc',false,rfl,by simp,by omega,by omega,HO2.out,HE'.out,HM.out,HP2.out,HK.out,HF2.out⟩,by simp;omega⟩
         ·have hxe:x=n:=by omega
          have dx:decide ((x:Int)<n)=false:=by simp;omega
          have HF2:Hd (Fr (fun _=>False) w wr):=HFf.out.then HF.out (fun j hj e=>by have:=HGB.out;omega)
          have HZ2:Hd (∀ q,q<r→∀ l,r<l→l<n→z q l = -1→esc' l=true):=fun q hq l h1 h2 h3=>HM.out l (HZ.out q hq l h1 h2 h3)
          have HC2:Hd (b=false→∃ y,Least n es (heapsX n esc') y∧∀ l,r<l→l<n→y l = -1→esc' l=true):=fun h=>by
           obtain⟨h0,h4⟩:=HP.out h
           rw[h0]
           exact⟨y,HLY.out,fun l h1 h2 h3=>h4 l h1 (by omega) h3⟩
          clear hxe
          go_wp2_with fail
          go_roundg (2*cntF n esc'+(if b then 1 else 0))
          case measure=>exact HK.out
          case rel=>exact⟨esc',b,rfl,HO.out,HE'.out,HZ2.out,HC2.out,Nat.le_refl _,HF2.out⟩
      | false =>
        have HS:Hd (∃ x,Least n es (rootsX r) x∧∀ l,l<n→esc l=decide (x l = -1)):=by
         obtain⟨y,hy,hy2⟩:=HC.out rfl
         exact(EscS.sol HG.out HE.out hy HZL2.out HZ.out hy2 (wtX_least HG.out.roots)).first
        clear HC HM HE HZ
        go_wp2_with fail
        go_ret
        obtain⟨x,hx1,hx2⟩:=HS.out
        exact⟨HF.out,some ⟨g,0,none⟩,cap,esc,x,rfl,HO.out,hx1,hx2⟩
set_option maxRecDepth 100000
set_option maxHeartbeats 8000000
theorem castV (i:Nat):Value.int .i64 ((i:Int)+1)=Value.int .i64 ((i+1:Nat):Int):=by simp
theorem measV {i n:Nat}(h:i<n):n-((i:Int)+1).toNat<n-(i:Int).toNat:=by omega
theorem rhd_any (P R V:Int)(a:Option Addr)(l c:Nat)(w:World):Calls Tryz.prog 131 #[.agg #[vI P,vI R,vI V,.slice a l c]] w fun e w'=>e = .returned (.bool (headE P R V 1 0 0==0))∧Fr (fun _=>False) w w':=by
 obtain⟨W,hW⟩:∃ W,W=(w.alloc (.cells #[vI P,vI R,vI V,.slice a l c] 45)).alloc (.cells #[vI 0,.slice none 0 0,vI 0,vI 0] 96):=⟨_,rfl⟩
 have HW:Hd (W=(w.alloc (.cells #[vI P,vI R,vI V,.slice a l c] 45)).alloc (.cells #[vI 0,.slice none 0 0,vI 0,vI 0] 96)):=hW
 have hF:Fr (fun _=>False) w W:=by rw[hW];exact Fr.alloc (Fr.alloc (Fr.refl _ w) _) _
 have k1:W.heap[w.heap.size]?=some (.cells #[vI P,vI R,vI V,.slice a l c] 45):=by
  rw[hW,Go.RowKit.Below.heap_alloc _ _ _ (by simp)];exact heap_new w _
 have k2:W.heap[w.heap.size+1]?=some (.cells #[vI 0,.slice none 0 0,vI 0,vI 0] 96):=by
  have:=heap_new (w.alloc (.cells #[vI P,vI R,vI V,.slice a l c] 45)) (.cells #[vI 0,.slice none 0 0,vI 0,vI 0] 96)
  rw[World.size_alloc] at this
  rw[hW];exact this
 obtain⟨X,hX⟩:∃ X,X=w.heap.size:=⟨_,rfl⟩
 have HX:Hd (X=w.heap.size):=hX
 rw[← hX] at k1 k2
 have hct:=rhead (X+1) 0 (.slice none 0 0) W 0 0 k2 (by omega) (by omega) P R V 1 a l c
 have HF:Hd (Fr (fun _=>False) w W):=hF
 have c0:W.cell? ⟨X,0,none⟩=some (vI P):=by rw[cell_of k1];rfl
 have c1:W.cell? ⟨X,1,none⟩=some (vI R):=by rw[cell_of k1];rfl
 have c2:W.cell? ⟨X,2,none⟩=some (vI V):=by rw[cell_of k1];rfl
 have c3:W.cell? ⟨X,3,none⟩=some (.slice a l c):=by rw[cell_of k1];rfl
 clear hW hF k1 k2 hX
 go_enter Tryz.func131,Tryz.ntmps131
 go_upto_region 2 with fail
 rw[← HW.out,← HX.out]
 clear HW
 go_wp2_with fail
 refine hct.mono ?_
 rintro _ w3 ⟨rfl,hR3,hF3⟩
 obtain⟨-,-,-,e3,-,-⟩:=hR3.cells
 have HF3:Hd (Fr (fun _=>False) w w3):=HF.out.then hF3 (fun j hj e=>by have e:j=X+1:=e;have:=HX.out;omega)
 clear hct hR3 hF3 c0 c1 c2 c3
 go_wp2_with fail
 go_ret
 exact⟨rfl,HF3.out⟩
theorem headE_one {P R V:Int}:(headE P R V 1 0 0==0)=true↔HeadOk P R V 1:=by
 rw[beq_iff_eq,headE_iff]
 exact⟨fun h=>h.1,fun h=>⟨h,by have:=h.V;omega⟩⟩
def UpOk (G:Int)(fs:List PF)(f:PF)(k:Nat):Prop:=HeadOk f.P f.R f.V f.code.length∧∀ j (h:j<f.code.length),j<k→InsOk G fs f.R f.V f.code.length f.code[j] ((j:Int)==(f.code.length:Int)-1)∧(f.code[j].op=11→∀ g,fs[f.code[j].n.toNat]?=some g→HeadOk g.P g.R g.V 1)
theorem UpOk.next {G:Int}{fs:List PF}{f:PF}{k:Nat}(h:UpOk G fs f k)(hk:k<f.code.length)(h1:InsOk G fs f.R f.V f.code.length f.code[k] ((k:Int)==(f.code.length:Int)-1))(h2:f.code[k].op=11→∀ g,fs[f.code[k].n.toNat]?=some g→HeadOk g.P g.R g.V 1):UpOk G fs f (k+1):=by
 refine⟨h.1,fun j hj hjk=>?_⟩
 by_cases e:j<k
 ·exact h.2 j hj e
 ·obtain rfl:j=k:=by omega
  exact⟨h1,h2⟩
def RAl (G:Int)(fs:List PF)(F:Int)(w:World)(e:Ending)(w':World):Prop:=∃ b,e = .returned (.bool b)∧(b=true↔∃ i:Nat,F=i∧∃ h:i<fs.length,AloneOk G fs fs[i])∧Fr (fun _=>False) w w'
theorem ral_mk {G:Int}{fs:List PF}{F:Int}{w w':World}(b:Bool)(h:b=true↔∃ i:Nat,F=i∧∃ h:i<fs.length,AloneOk G fs fs[i])(f:Fr (fun _=>False) w w'):RAl G fs F w (.returned (.bool b)) w':=⟨b,rfl,h,f⟩
theorem ralone_any (G:Int)(fv:Value)(fs:List PF)(F:Int)(w:World)(h1:FA w fv fs)(b1:FineP fs) :
 Calls Tryz.prog 96 #[.agg #[vI G,fv],vI F] w fun e w'=>RAl G fs F w e w':=by
 obtain⟨X,hX⟩:∃ X,X=w.heap.size:=⟨_,rfl⟩
 have HX:Hd (X=w.heap.size):=hX
 obtain⟨w1,hw1⟩:∃ w1,w1=w.alloc (.cells #[vI G,fv] 24):=⟨_,rfl⟩
 have HW1:Hd (w1=w.alloc (.cells #[vI G,fv] 24)):=hw1
 have hFa:Fr (fun _=>False) w w1:=by rw[hw1];exact Fr.alloc (Fr.refl _ w) _
 have k1:w1.heap[X]?=some (.cells #[vI G,fv] 24):=by rw[hw1,hX];exact heap_new w _
 have hs1:w1.heap.size=X+1:=by rw[hw1,hX];simp
 have H1:Hd (FA w fv fs):=h1
 have HB:Hd (FineP fs):=b1
 have HFa:Hd (Fr (fun _=>False) w w1):=hFa
 have HFL:Hd (FL (X+1) w1 fv fs):=(h1.stay hFa).fl b1 (by omega)
 have HS1:Hd (w1.heap.size=X+1):=hs1
 have HK1:Hd (w1.heap[X]?=some (.cells #[vI G,fv] 24)):=k1
 have c0:w1.cell? ⟨X,0,none⟩=some (vI G):=by rw[cell_of k1];rfl
 have c1:w1.cell? ⟨X,1,none⟩=some fv:=by rw[cell_of k1];rfl
 obtain⟨fa,fc,efv,-⟩:=h1
 subst efv
 clear hw1 hFa k1 hs1 hX b1
 go_enter Tryz.func96,Tryz.ntmps96
 go_upto_region 1 with fail
 rw[← HW1.out,← HX.out]
 clear HW1
 by_cases g1:G<0
 ·have d1:decide (G<0)=true:=by simpa using g1
  go_wp2_with fail
  go_ret
  exact ral_mk false ⟨fun h=>(by cases h),fun⟨i,_,_,h⟩=>by have:=h.1;omega⟩ HFa.out
 have d1:decide (G<0)=false:=by simpa using g1
 by_cases g2:G>16
 ·have d2:decide (G>16)=true:=by simpa using g2
  have d2':decide (16<G)=true:=by simpa using g2
  go_wp2_with fail
  go_ret
  exact ral_mk false ⟨fun h=>(by cases h),fun⟨i,_,_,h⟩=>by have:=h.1;omega⟩ HFa.out
 have d2:decide (G>16)=false:=by simpa using g2
 have d2':decide (16<G)=false:=by simpa using g2
 by_cases g3:F<0
 ·have d3:decide (F<0)=true:=by simpa using g3
  go_wp2_with fail
  go_ret
  exact ral_mk false ⟨fun h=>(by cases h),fun⟨i,e,_,h⟩=>by omega⟩ HFa.out
 have d3:decide (F<0)=false:=by simpa using g3
 by_cases g4:F≥fs.length
 ·have d4:decide (F≥(fs.length:Int))=true:=by simpa using g4
  have d4':decide ((fs.length:Int)≤F)=true:=by simpa using g4
  go_wp2_with fail
  go_ret
  exact ral_mk false ⟨fun h=>(by cases h),fun⟨i,e,hi,h⟩=>by omega⟩ HFa.out
 have d4:decide (F≥(fs.length:Int))=false:=by simpa using g4
 have d4':decide ((fs.length:Int)≤F)=false:=by simpa using g4
 go_upto_region 3 with fail
 clear d1 d2 d2' d3 d4 d4'
 obtain⟨i,rfl⟩:∃ i:Nat,F=i:=⟨F.toNat,by omega⟩
 have hi:i<fs.length:=by omega
 have HG:Hd (0≤G∧G≤16):=⟨by omega,by omega⟩
 clear g1 g2 g3 g4
 obtain⟨hfl0,a',cp',e',hff⟩:=HFL.out
 cases e'
 obtain⟨fk,fo,rfl,hfk,hfkb,hff⟩:=hff (by intro e;rw[e] at hi;simp at hi)
 obtain⟨cv,p0,p1,p2,p3,hcv⟩:=hff i hi
 have HI:Hd (∀ b,(b=true↔AloneOk G fs fs[i])→(b=true↔∃ q:Nat,(i:Int)=q∧∃ h:q<fs.length,AloneOk G fs fs[q])):=fun b hb=>by
  rw[hb]
  constructor
  ·intro h;exact⟨i,rfl,hi,h⟩
  ·rintro⟨q,e,hq,h⟩
   obtain rfl:i=q:=by omega
   exact h
 have HCL:Hd (∀ W,Fr (fun k=>k=X+1) w1 W→CL (X+1) W cv fs[i].code):=fun W f=>hcv.fr f (fun k e=>e)
 obtain⟨hcl0,ca,cc,ecv,-⟩:=hcv
 obtain⟨w2,hw2⟩:∃ w2,w2=w1.alloc (.cells #[vI G,.slice (some ⟨fk,fo,none⟩) fs.length fc,vI 0,vI 0] 96):=⟨_,rfl⟩
 have HW2:Hd (w2=w1.alloc (.cells #[vI G,.slice (some ⟨fk,fo,none⟩) fs.length fc,vI 0,vI 0] 96)):=hw2
 have hF2:Fr (fun _=>False) w1 w2:=by rw[hw2];exact Fr.alloc (Fr.refl _ w1) _
 have k2:w2.heap[X+1]?=some (.cells #[vI G,.slice (some ⟨fk,fo,none⟩) fs.length fc,vI 0,vI 0] 96):=by rw[hw2,← HS1.out];exact heap_new w1 _
 have hs2:w2.heap.size=X+2:=by rw[hw2];simp;exact HS1.out
 have q0:=(hF2.cell hfk (fun h=>h)).trans p0
 have q1:=(hF2.cell hfk (fun h=>h)).trans p1
 have q2:=(hF2.cell hfk (fun h=>h)).trans p2
 have q3:=(hF2.cell hfk (fun h=>h)).trans p3
 have c1':=(hF2.cell (cell_lt c1) (fun h=>h)).trans c1
 obtain⟨w3,hw3⟩:∃ w3,w3=w2.alloc (.cells #[vI fs[i].P,vI fs[i].R,vI fs[i].V,cv] 45):=⟨_,rfl⟩
 have HW3:Hd (w3=w2.alloc (.cells #[vI fs[i].P,vI fs[i].R,vI fs[i].V,cv] 45)):=hw3
 have hF3:Fr (fun _=>False) w2 w3:=by rw[hw3];exact Fr.alloc (Fr.refl _ w2) _
 have k3:w3.heap[X+2]?=some (.cells #[vI fs[i].P,vI fs[i].R,vI fs[i].V,cv] 45):=by rw[hw3,← hs2];exact heap_new w2 _
 have hR3:RW (X+1) G (.slice (some ⟨fk,fo,none⟩) fs.length fc) w3 0 0:=(hF3.block _ (heap_lt k2) (fun h=>h)).trans k2
 have HF3:Hd (Fr (fun _=>False) w w3):=HFa.out.trans (hF2.trans hF3)
 have HF13:Hd (Fr (fun _=>False) w1 w3):=hF2.trans hF3
 have HFL3:Hd (∀ W,Fr (fun k=>k=X+1) w3 W→FL (X+1) W (.slice (some ⟨fk,fo,none⟩) fs.length fc) fs):=fun W f=>HFL.out.fr ((HF13.out.mono (fun _ _ e=>e.elim)).trans f) (fun k e=>e)
 have HCC:Hd (∀ W,Fr (fun k=>k=X+1) w3 W→W.cell? ⟨X,1,none⟩=some (.slice (some ⟨fk,fo,none⟩) fs.length fc)∧W.cell? ⟨X+2,0,none⟩=some (vI fs[i].P)∧W.cell? ⟨X+2,1,none⟩=some (vI fs[i].R)∧W.cell? ⟨X+2,2,none⟩=some (vI fs[i].V)∧W.cell? ⟨X+2,3,none⟩=some cv):=fun W f=>by
  have b3:=(f.block _ (heap_lt k3) (fun e=>by have e:X+2=X+1:=e;omega)).trans k3
  have b1:W.heap[X]?=some (.cells #[vI G,.slice (some ⟨fk,fo,none⟩) fs.length fc] 24):=by
   have h:=(HF13.out.block _ (heap_lt HK1.out) (fun h=>h)).trans HK1.out
   exact(f.block _ (heap_lt h) (fun e=>by have e:X=X+1:=e;omega)).trans h
  exact⟨by rw[cell_of b1];rfl,by rw[cell_of b3];rfl,by rw[cell_of b3];rfl,by rw[cell_of b3];rfl,by rw[cell_of b3];rfl⟩
 have hi1:(0:Int)≤i:=by omega
 have hi2:(i:Int)<fs.length:=by omega
 have HCL3:Hd (∀ W,Fr (fun k=>k=X+1) w3 W→CL (X+1) W cv fs[i].code):=fun W f=>HCL.out W ((HF13.out.mono (fun _ _ e=>e.elim)).trans f)
 have hct:=rhead (X+1) G _ w3 0 0 hR3 (by omega) (by omega) fs[i].P fs[i].R fs[i].V fs[i].code.length ca fs[i].code.length cc
 rw[← ecv] at hct
 have HS3:Hd (w3.heap.size=X+3):=by unfold Hd;rw[hw3];simp;exact hs2
 clear hff hw2 hF2 k2 hw3 hF3 k3 hR3 HCL p0 p1 p2 p3
 subst ecv
 generalize fs[i]=f at *
 go_upto_region 4 with fail
 rw[show w1.heap.size=X+1 from HS1.out,← HW2.out]
 go_upto_region 5 with fail
 rw[← HW3.out]
 clear HW2 HW3 hs2 q0 q1 q2 q3 c0 c1 c1'
 obtain⟨e1,r0,r1,r2,r3⟩:=HCC.out w3 (Fr.refl _ _)
 go_wp2_with fail
 refine hct.mono ?_
 rintro _ w4 ⟨rfl,hR4,hF4⟩
 have HF4:Hd (Fr (fun j=>j=X+1) w3 w4):=hF4
 have HR4:Hd (RW (X+1) G (.slice (some ⟨fk,fo,none⟩) fs.length fc) w4 (headL f.P f.R f.V f.code.length 0 0) (headE f.P f.R f.V f.code.length 0 0)):=hR4
 have HZ1:Hd (0≤headL f.P f.R f.V f.code.length 0 0∧(headE f.P f.R f.V f.code.length 0 0=0→UpOk G fs f 0∧headL f.P f.R f.V f.code.length 0 0≤255+(0:Nat))):=by
  refine⟨(Low.head (by omega)).1,fun e=>?_⟩
  obtain⟨h,-⟩:=headE_iff.1 e
  have hv:=h.V
  refine⟨⟨h,fun j _ hj=>absurd hj (by omega)⟩,?_⟩
  unfold headL
  rw[if_pos (headE2_iff.2 h)]
  omega
 have HZ2:Hd (headE f.P f.R f.V f.code.length 0 0≠0→¬ AloneOk G fs f):=fun e h=>e (headE_iff.2 ⟨h.2.1,by have:=h.2.1.V;omega⟩)
 clear hct hR4 hF4 r0 r1 r2 r3 e1
 generalize headL f.P f.R f.V f.code.length 0 0=L0 at *
 generalize headE f.P f.R f.V f.code.length 0 0=E0 at *
 go_wp2_with fail
 go_loopw [7] (fun v wr=>∃ (k:Nat) (L E:Int),v = .int .i64 k∧k≤f.code.length∧Hd (RW (X+1) G (.slice (some ⟨fk,fo,none⟩) fs.length fc) wr L E)∧Hd (Fr (fun j=>j=X+1) w3 wr)∧Hd (0≤L∧(E=0→UpOk G fs f k∧L≤255+(k:Nat)))∧Hd (E≠0→¬ AloneOk G fs f)) (fun v _=>match v with | .int _ q=>f.code.length-q.toNat | _=>0)
 case atStart=>exact⟨0,L0,E0,rfl,by omega,HR4,HF4,HZ1,HZ2⟩
 case round =>
  obtain⟨k,L,E,rfl,hk,HR,HF,HU,HN⟩:=hrel
  obtain⟨e1,r0,r1,r2,r3⟩:=HCC.out wr HF.out
  obtain⟨-,-,-,x3,-,-⟩:=HR.out.cells
  have HFW:Hd (Fr (fun _=>False) w wr):=HF3.out.then HF.out (fun j hj e=>by have e:j=X+1:=e;have:=HX.out;omega)
  by_cases hE:E=0
  ·subst hE
   by_cases hlt:k<f.code.length
   ·obtain⟨-,a',cp',e',hcc⟩:=HCL3.out wr HF.out
    cases e'
    obtain⟨ck,co,rfl,hck,hckb,hcc⟩:=hcc (by intro e;simp[e] at hlt)
    obtain⟨av,rv,o0,o1,o2,o3,o4,o5,o6,hA,hB,hla,hlr⟩:=hcc k hlt
    have HUP:Hd (UpOk G fs f k∧L≤255+(k:Nat)):=HU.out.2 rfl
    have HNX:Hd (InsOk G fs f.R f.V f.code.length f.code[k] ((k:Int)==(f.code.length:Int)-1)→(f.code[k].op=11→∀ g,fs[f.code[k].n.toNat]?=some g→HeadOk g.P g.R g.V 1)→UpOk G fs f (k+1)):=fun h1 h2=>HUP.out.1.next hlt h1 h2
    have HAL:Hd (AloneOk G fs f→InsOk G fs f.R f.V f.code.length f.code[k] ((k:Int)==(f.code.length:Int)-1)∧(f.code[k].op=11→∀ g,fs[f.code[k].n.toNat]?=some g→HeadOk g.P g.R g.V 1)):=fun h=>h.2.2 k hlt
    obtain⟨aa,acap,ea,-⟩:=id hA
    obtain⟨ra,rcap,er,-⟩:=id hB
    generalize f.code[k]=c at *
    subst ea er
    have HA:Hd (IL (X+1) wr (.slice aa c.args.length acap) c.args):=hA
    have HB2:Hd (IL (X+1) wr (.slice ra c.rets.length rcap) c.rets):=hB
    have HCX:Hd (∀ W,Fr (fun j=>j=X+1) wr W→W.cell? ⟨ck,co+k*7,none⟩=some (vI c.op)∧W.cell? ⟨ck,co+k*7+4,none⟩=some (vI c.n)):=fun W f=>⟨(f.cell hck hckb).trans o0,(f.cell hck hckb).trans o4⟩
    have hk0:(0:Int)≤k:=by omega
    have hk1:(k:Int)<f.code.length:=by omega
    have HLN:Hd (f.code.length≤4096):=by have:=HUP.out.1.1.2.1;unfold Hd;omega
    clear hcc hck hckb hA hB
    go_upto_region 9 with fail
    refine wp_region_still_tail 13 mixed (by kernel_rfl) ?_
    simp only[List.take_succ_cons,List.take_zero,List.drop_succ_cons,List.drop_zero]
    repeat still_step
    refine wpStill_nil ?_
    go_wp2_with fail
    have hfd:Fr (fun _=>False) wr wr.drew:=Fr.drew (Fr.refl _ wr)
    refine(rinstr_any (X+1) G _ wr.drew L 0 (HR.out.fr hfd (fun h=>h)) HU.out.1 (by have:=HUP.out.2;have:=HLN.out;omega) fs ((HFL3.out wr HF.out).fr hfd (fun _ h=>h.elim)) f.P f.R f.V _ f.code.length cc c aa ra acap rcap (HA.out.fr hfd (fun _ h=>h.elim)) (HB2.out.fr hfd (fun _ h=>h.elim)) hla hlr ((k:Int)==(f.code.length:Int)-1)).mono ?_
    rintro _ w5 ⟨rfl,h5,hf5⟩
    have HR5:Hd (RW (X+1) G (.slice (some ⟨fk,fo,none⟩) fs.length fc) w5 (opL c.op L) (instrE G fs f.R f.V f.code.length c ((k:Int)==(f.code.length:Int)-1) L 0)):=h5
    have HF5:Hd (Fr (fun j=>j=X+1) wr w5):=(hfd.mono (fun _ _ e=>e.elim)).trans hf5
    have HF6:Hd (Fr (fun j=>j=X+1) w3 w5):=HF.out.trans HF5.out
    have HLB:Hd (0≤opL c.op L∧opL c.op L≤255+((k+1:Nat):Int)):=by
     have:=HUP.out.2
     have:=HU.out.1
     have e:=opL_is c.op L
     unfold Hd
     split at e<;>omega
    have HIF:Hd (instrE G fs f.R f.V f.code.length c ((k:Int)==(f.code.length:Int)-1) L 0=0↔InsOk G fs f.R f.V f.code.length c ((k:Int)==(f.code.length:Int)-1)):=by
     have h:=@instrE_iff G fs f.R f.V f.code.length c ((k:Int)==(f.code.length:Int)-1) L
     have:=HLB.out.2
     have:=HLN.out
     exact⟨fun e=>(h.1 e).1,fun e=>h.2 ⟨e,by omega⟩⟩
    clear h5 hf5 hfd o0 o1 o2 o3 o4 o5 o6 r0 r1 r2 r3 e1 x3
    generalize instrE G fs f.R f.V f.code.length c ((k:Int)==(f.code.length:Int)-1) L 0=E' at *
    obtain⟨e1,r0,r1,r2,r3⟩:=HCC.out w5 HF6.out
    obtain⟨-,-,-,x3,-,-⟩:=HR5.out.cells
    obtain⟨o0,o4⟩:=HCX.out w5 HF5.out
    by_cases hE:E'=0
    ·subst hE
     have hio:=HIF.out.1 rfl
     have hE0:((0:Int)==0)=true:=rfl
     by_cases h11:c.op=11
     ·have hop:(c.op==11)=true:=by simpa using h11
      obtain⟨n1,n2⟩:=ins_numB h11 hio
      obtain⟨q,hq⟩:∃ q:Nat,c.n=q:=⟨c.n.toNat,by omega⟩
      have hqf:q<fs.length:=by omega
      obtain⟨-,a',cp',e',hff⟩:=HFL3.out w5 HF6.out
      cases e'
      obtain⟨fk',fo',e'',hfk',hfkb',hff⟩:=hff (by intro e;rw[e] at hqf;simp at hqf)
      cases e''
      obtain⟨gv,v0,v1,v2,v3,hgv⟩:=hff q hqf
      obtain⟨-,ga,gc,egv,-⟩:=hgv
      subst egv
      have HH:Hd (∀ W,Calls Tryz.prog 131 #[.agg #[vI fs[q].P,vI fs[q].R,vI fs[q].V,.slice ga fs[q].code.length gc]] W fun e w'=>e = .returned (.bool (headE fs[q].P fs[q].R fs[q].V 1 0 0==0))∧Fr (fun _=>False) W w'):=fun W=>rhd_any fs[q].P fs[q].R fs[q].V ga fs[q].code.length gc W
      have HHO:=@headE_one fs[q].P fs[q].R fs[q].V
      have HGET:Hd (∀ g,fs[c.n.toNat]?=some g→g=fs[q]):=fun g hg=>by
       rw[hq,Int.toNat_natCast,List.getElem?_eq_getElem hqf] at hg
       exact(Option.some.inj hg).symm
      have HGT2:Hd (fs[c.n.toNat]?=some fs[q]):=by unfold Hd;rw[hq,Int.toNat_natCast,List.getElem?_eq_getElem hqf]
      rw[hq] at o4
      have hq0:(0:Int)≤q:=by omega
      have hq1:(q:Int)<fs.length:=by omega
      have HNX2:=HNX.out hio
      have HAL2:Hd (AloneOk G fs f→HeadOk fs[q].P fs[q].R fs[q].V 1):=fun h=>(HAL.out h).2 h11 _ HGT2.out
      have HNX3:Hd (HeadOk fs[q].P fs[q].R fs[q].V 1→UpOk G fs f (k+1)):=fun h=>HNX2 (fun _ g hg=>by rw[HGET.out g hg];exact h)
      have HFZ:Hd (Fr (fun _=>False) w w5):=HF3.out.then HF6.out (fun j hj e=>by have e:j=X+1:=e;have:=HX.out;omega)
      clear hff HNX2 HGET HGT2 hio HIF HNX HAL n1 n2 hq hfk' hfkb'
      generalize fs[q]=g at *
      go_upto_region 10 with fail
      refine wp_region_still_tail 25 mixed (by kernel_rfl) ?_
      simp only[List.take_succ_cons,List.take_zero,List.drop_succ_cons,List.drop_zero]
      repeat still_step
      refine wpStill_nil ?_
      go_wp2_with fail
      refine(HH.out _).mono ?_
      rintro _ w6 ⟨rfl,hF6⟩
      have hfe:Fr (fun _=>False) w5 w6:=(Fr.drew (Fr.refl _ w5)).trans hF6
      have HR6:Hd (RW (X+1) G (.slice (some ⟨fk,fo,none⟩) fs.length fc) w6 (opL c.op L) 0):=HR5.out.fr hfe (fun h=>h)
      have HF7:Hd (Fr (fun j=>j=X+1) w3 w6):=HF6.out.trans (hfe.mono (fun _ _ e=>e.elim))
      have HFY:Hd (Fr (fun _=>False) w w6):=HFZ.out.trans hfe
      clear hF6 hfe HR5 HF5 HH v0 v1 v2 v3 o0 o4 e1 r0 r1 r2 r3 x3
      cases hb:(headE g.P g.R g.V 1 0 0==0) with
      | true =>
        have HUQ:Hd (0≤opL c.op L∧((0:Int)=0→UpOk G fs f (k+1)∧opL c.op L≤255+((k+1:Nat):Int))):=⟨HLB.out.1,fun _=>⟨HNX3.out (HHO.1 hb),HLB.out.2⟩⟩
        clear hb HHO
        go_wp2_with fail
        exact⟨⟨k+1,_,0,castV k,hlt,HR6,HF7,⟨HUQ.out.1,fun _=>HUQ.out.2 trivial⟩,fun h=>absurd rfl h⟩,measV hlt⟩
      | false =>
        have HNA:Hd (¬ AloneOk G fs f):=fun h=>by
         have:=HHO.2 (HAL2.out h)
         rw[hb] at this
         cases this
        clear hb HHO
        go_wp2_with fail
        go_ret
        exact ral_mk false (HI.out _ ⟨fun h=>(by cases h),fun h=>absurd h HNA.out⟩) HFY.out
     ·have hop:(c.op==11)=false:=by simpa using h11
      have HUQ:Hd (0≤opL c.op L∧((0:Int)=0→UpOk G fs f (k+1)∧opL c.op L≤255+((k+1:Nat):Int))):=⟨HLB.out.1,fun _=>⟨HNX.out hio (fun h=>absurd h h11),HLB.out.2⟩⟩
      clear HIF HNX HAL hio
      go_upto_region 10 with fail
      go_quiet (fail)
      go_wp2_with fail
      exact⟨⟨k+1,_,0,castV k,hlt,HR5.out.fr (S:=fun _=>False) ⟨rfl,rfl,rfl,Nat.le_refl _,fun _ _ _=>rfl⟩ (fun h=>h),HF6.out.trans ⟨rfl,rfl,rfl,Nat.le_refl _,fun _ _ _=>rfl⟩,⟨HUQ.out.1,fun _=>HUQ.out.2 trivial⟩,fun h=>absurd rfl h⟩,measV hlt⟩
    ·have hE':(E'==0)=false:=by simpa using hE
     have HNA:Hd (E'≠0→¬ AloneOk G fs f):=fun e h=>e (HIF.out.2 (HAL.out h).1)
     have HUQ:Hd (0≤opL c.op L∧(E'=0→UpOk G fs f (k+1)∧opL c.op L≤255+((k+1:Nat):Int))):=⟨HLB.out.1,fun e=>absurd e hE⟩
     clear HIF HNX HAL
     go_upto_region 10 with fail
     go_quiet (fail)
     go_wp2_with fail
     exact⟨⟨k+1,_,E',castV k,hlt,HR5.out.fr (S:=fun _=>False) ⟨rfl,rfl,rfl,Nat.le_refl _,fun _ _ _=>rfl⟩ (fun h=>h),HF6.out.trans ⟨rfl,rfl,rfl,Nat.le_refl _,fun _ _ _=>rfl⟩,HUQ,HNA⟩,measV hlt⟩
   ·have hdk:decide ((k:Int)<f.code.length)=false:=by simp;omega
    have hke:k=f.code.length:=by omega
    have HAO:Hd (AloneOk G fs f):=by
     have h:=(HU.out.2 rfl).1
     rw[hke] at h
     exact⟨HG.out,h.1,fun j hj=>h.2 j hj hj⟩
    go_wp2_with fail
    go_ret
    exact ral_mk true (HI.out _ ⟨fun _=>HAO.out,fun _=>rfl⟩) HFW.out
  ·have hE':(E==0)=false:=by simpa using hE
   have HNA:Hd (¬ AloneOk G fs f):=HN.out hE
   by_cases hlt:k<f.code.length
   ·have hk1:(k:Int)<f.code.length:=by omega
    go_wp2_with fail
    go_ret
    exact ral_mk false (HI.out _ ⟨fun h=>(by cases h),fun h=>absurd h HNA.out⟩) HFW.out
   ·have hdk:decide ((k:Int)<f.code.length)=false:=by simp;omega
    go_wp2_with fail
    go_ret
    exact ral_mk false (HI.out _ ⟨fun h=>(by cases h),fun h=>absurd h HNA.out⟩) HFW.out
end Go.Proofs.YtdkijecnnmncnaaGreatDoor
