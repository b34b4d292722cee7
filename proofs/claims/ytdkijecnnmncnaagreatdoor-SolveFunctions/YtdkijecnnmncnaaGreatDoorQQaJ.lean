import Derived.Test.YtdkijecnnmncnaaGreatDoorQQlJ
import Derived.Test.YtdkijecnnmncnaaGreatDoorQEdJ
import Derived.Deep.DeepCutAuto
import Derived.Deep.RegionHeld3
import Derived.StillTail
import Derived.StillTailTactics
import Derived.BigQuiet
set_option linter.unusedVariables false
set_option linter.unusedSimpArgs false
namespace Go.Proofs.YtdkijecnnmncnaaGreatDoor
open Go.RowKit (wrap32 wrap64)
set_option maxRecDepth 100000
set_option maxHeartbeats 2000000
theorem start_news (R V:Int)(cs:List PI):cellX R V=wrap64 (cellX R V+(newsX (cs.take 0):Nat)):=by
 unfold cellX
 have:(newsX (cs.take 0):Nat)=0:=by simp[newsX]
 rw[this]
 unfold wrap64
 omega
theorem rvariable_any (f:PF)(cv:Value)(v:Int)(w:World)(h:CA w cv f.code) :
 Calls Tryz.prog 60 #[.agg #[vI f.P,vI f.R,vI f.V,cv],vI v] w fun e w'=>e = .returned (vI (varX f.R f.V v))∧Fr (fun _=>False) w w':=by
 obtain⟨a,c,rfl,H0'⟩:=id h
 obtain⟨wa,hwa⟩:∃ wa,wa=w.alloc (.cells #[vI f.P,vI f.R,vI f.V,.slice a f.code.length c] 45):=⟨_,rfl⟩
 have hb:wa.heap[w.heap.size]?=some (.cells #[vI f.P,vI f.R,vI f.V,.slice a f.code.length c] 45):=by rw[hwa];exact heap_new0 w _
 have HWA:Hd (wa=w.alloc (.cells #[vI f.P,vI f.R,vI f.V,.slice a f.code.length c] 45)):=hwa
 obtain⟨H,hH⟩:∃ H,H=w.heap.size:=⟨_,rfl⟩
 have HH:Hd (H=w.heap.size):=hH
 rw[← hH] at hb
 have hFa:Fr (fun _=>False) w wa:=by rw[hwa];exact Fr.alloc (Fr.refl _ w) _
 have HFa:Hd (Fr (fun _=>False) w wa):=hFa
 have HB:Hd (wa.heap[H]?=some (.cells #[vI f.P,vI f.R,vI f.V,.slice a f.code.length c] 45)):=hb
 have H0:Hd (f.code≠[]→_):=H0'
 have c0:wa.cell? ⟨H,0,none⟩=some (vI f.P):=by rw[cell_of0 hb];rfl
 have c1:wa.cell? ⟨H,1,none⟩=some (vI f.R):=by rw[cell_of0 hb];rfl
 have c2:wa.cell? ⟨H,2,none⟩=some (vI f.V):=by rw[cell_of0 hb];rfl
 have c3:wa.cell? ⟨H,3,none⟩=some (.slice a f.code.length c):=by rw[cell_of0 hb];rfl
 clear hwa hH hb hFa H0' h
 by_cases hq0:0≤f.R
 ·have d0:decide (f.R<0)=false:=by simp;omega
  by_cases hq1:0≤v
  ·have d1:decide (v<0)=false:=by simp;omega
   by_cases hq2:v<f.V
   ·have d2:decide (v≥f.V)=false:=by simp;omega
    have HX:Hd (varX f.R f.V v=wrap64 (wrap64 (1+f.R)+v)):=if_pos ⟨hq0,by omega,hq1,hq2⟩
    clear hq0 hq1 hq2
    go_enter Tryz.func60,Tryz.ntmps60
    go_upto_region 1 with fail
    rw[← HWA.out,← HH.out]
    clear HWA
    go_wp2_with fail
    go_ret
    exact⟨by rw[HX.out];rfl,HFa.out⟩
   ·have d2:decide (v≥f.V)=true:=by simp;omega
    have HX:Hd (varX f.R f.V v = -1):=if_neg (fun h=>hq2 h.2.2.2)
    clear hq0 hq1 hq2
    go_enter Tryz.func60,Tryz.ntmps60
    go_upto_region 1 with fail
    rw[← HWA.out,← HH.out]
    clear HWA
    go_wp2_with fail
    go_ret
    exact⟨by rw[HX.out];rfl,HFa.out⟩
  ·have d1:decide (v<0)=true:=by simp;omega
   have HX:Hd (varX f.R f.V v = -1):=if_neg (fun h=>hq1 h.2.2.1)
   clear hq0 hq1
   go_enter Tryz.func60,Tryz.ntmps60
   go_upto_region 1 with fail
   rw[← HWA.out,← HH.out]
   clear HWA
   go_wp2_with fail
   go_ret
   exact⟨by rw[HX.out];rfl,HFa.out⟩
 ·have d0:decide (f.R<0)=true:=by simp;omega
  have HX:Hd (varX f.R f.V v = -1):=if_neg (fun h=>hq0 h.1)
  clear hq0
  go_enter Tryz.func60,Tryz.ntmps60
  go_upto_region 1 with fail
  rw[← HWA.out,← HH.out]
  clear HWA
  go_wp2_with fail
  go_ret
  exact⟨by rw[HX.out];rfl,HFa.out⟩
set_option maxRecDepth 100000
set_option maxHeartbeats 8000000
theorem castE (i:Nat):Value.int .i64 ((i:Int)+1)=Value.int .i64 ((i+1:Nat):Int):=by simp
theorem measE {i n:Nat}(h:i<n):n-((i:Int)+1).toNat<n-(i:Int).toNat:=by omega
def EO (w:World)(B:Nat)(v:Value)(E:List Ed):Prop:=w.ownsRow B 140 3 v E.length (E.flatMap edC)
theorem EO.nil (w:World)(B:Nat):EO w B (.slice none 0 0) []:=World.ownsRow_nil _ _ _ _
theorem EO.stay {w w':World}{B:Nat}{v:Value}{E:List Ed}(h:EO w B v E)(f:Fr (fun _=>False) w w'):EO w' B v E:=ownsRow_frL h f (fun _ _ e=>e)
theorem EO.cat {w:World}{B g cap:Nat}{E:List Ed}{x:Ed}(h:w.ownsRow B 140 3 (.slice (some ⟨g,0,none⟩) (E.length+1) cap) (E.length+1) (E.flatMap edC++[vI x.1,vI x.2.1,vI x.2.2])):EO w B (.slice (some ⟨g,0,none⟩) (E.length+1) cap) (E++[x]):=by
 unfold EO
 rw[List.length_append,List.flatMap_append]
 simpa using h
theorem EO.grow {w wn w6:World}{B g6 cap6:Nat}{v:Value}{E:List Ed}{x:Ed}(h:EO w B v E)(hF:Fr (fun _=>False) w wn)(hg:wn.grownBy w6 v.ownBlock)(ho:w6.ownsRow B 140 3 (.slice (some ⟨g6,0,none⟩) (E.length+1) cap6) (E.length+1) (E.flatMap edC++[vI x.1,vI x.2.1,vI x.2.2])){w0:World}(h0:Fr (fun _=>False) w0 w)(hB:w0.heap.size≤B) :
 EO w6 B (.slice (some ⟨g6,0,none⟩) (E.length+1) cap6) (E++[x])∧Fr (fun _=>False) w0 w6 :=
 ⟨EO.cat ho,grow_fr0 (h0.trans hF) hg (fun k hk=>by have:=(World.ownsRow.lt h k hk).1;omega)⟩
theorem callT_small {R V:Int}{args rets hs:List Int}{res:List (List Int)}(hr:rets.length≤4)(hl:∀ l∈res,l.length=rets.length)(k:Nat)(hk:k≤8)(hkr:k≤res.length):(callT R V args rets hs res k).length≤40:=by
 have h:=flat_max (oneE R V args rets hs res) 5 k (fun i hi=>by
  unfold oneE
  rw[List.length_append]
  have h1:(hE R V (args[i]?.getD 0) (hs[i]?.getD 0)).length≤1:=by unfold hE;split<;>simp
  have hir:i<res.length:=by omega
  have e:res[i]?.getD []=res[i]:=by simp[hir]
  have h2:(gE R V (args[i]?.getD 0) rets (res[i]?.getD []) (res[i]?.getD []).length).length≤(res[i]?.getD []).length*1:=flat_max _ 1 _ (fun j _=>by show(rE R V _ _ _).length≤1;unfold rE;split<;>simp)
  rw[e,hl _ (List.getElem_mem hir)] at h2
  rw[e,hl _ (List.getElem_mem hir)]
  omega)
 unfold callT
 omega
theorem rcall_any (f:PF)(cv:Value)(op zr zs zt zn:Int)(av rv:Value)(args rets:List Int)(hv lv:Value)(s:PS)(w:World)(h0:CA w cv f.code)(h1:IA w av args)(h2:IA w rv rets)(h3:IA w hv s.H)(h4:LA w lv s.R)
 (ba:args.length≤8) (br:rets.length≤4) (bh:args.length≤s.H.length) (bl:args.length≤s.R.length) (bb:∀ l∈s.R,l.length=rets.length) (bz:s.H.length≤17592186043904∧s.R.length≤17592186043904) :
 Calls Tryz.prog 134 #[.agg #[vI f.P,vI f.R,vI f.V,cv],.agg #[vI op,vI zr,vI zs,vI zt,vI zn,av,rv],.agg #[hv,lv]] w fun e w'=>∃ v,e = .returned v∧EO w' w.heap.size v (callT f.R f.V args rets s.H s.R args.length)∧Fr (fun _=>False) w w':=by
 obtain⟨W,hW⟩:∃ W,W=((w.alloc (.cells #[vI f.P,vI f.R,vI f.V,cv] 45)).alloc (.cells #[vI op,vI zr,vI zs,vI zt,vI zn,av,rv] 79)).alloc (.cells #[hv,lv] 33):=⟨_,rfl⟩
 have HW:Hd (W=((w.alloc (.cells #[vI f.P,vI f.R,vI f.V,cv] 45)).alloc (.cells #[vI op,vI zr,vI zs,vI zt,vI zn,av,rv] 79)).alloc (.cells #[hv,lv] 33)):=hW
 have hF:Fr (fun _=>False) w W:=by rw[hW];exact Fr.alloc (Fr.alloc (Fr.alloc (Fr.refl _ w) _) _) _
 have k1:W.heap[w.heap.size]?=some (.cells #[vI f.P,vI f.R,vI f.V,cv] 45):=by
  rw[hW,Go.RowKit.Below.heap_alloc _ _ _ (by simp;omega),Go.RowKit.Below.heap_alloc _ _ _ (by simp)];exact heap_new w _
 have k2:W.heap[w.heap.size+1]?=some (.cells #[vI op,vI zr,vI zs,vI zt,vI zn,av,rv] 79):=by
  have:=heap_new (w.alloc (.cells #[vI f.P,vI f.R,vI f.V,cv] 45)) (.cells #[vI op,vI zr,vI zs,vI zt,vI zn,av,rv] 79)
  rw[World.size_alloc] at this
  rw[hW,Go.RowKit.Below.heap_alloc _ _ _ (by simp)];exact this
 have k3:W.heap[w.heap.size+2]?=some (.cells #[hv,lv] 33):=by
  have:=heap_new ((w.alloc (.cells #[vI f.P,vI f.R,vI f.V,cv] 45)).alloc (.cells #[vI op,vI zr,vI zs,vI zt,vI zn,av,rv] 79)) (.cells #[hv,lv] 33)
  rw[World.size_alloc,World.size_alloc] at this
  rw[hW];exact this
 obtain⟨X,hX⟩:∃ X,X=w.heap.size:=⟨_,rfl⟩
 have HX:Hd (X=w.heap.size):=hX
 rw[← hX] at k1 k2 k3
 have hXW:X+2<W.heap.size:=heap_lt k3
 have HXW:Hd (X+2<W.heap.size):=hXW
 have HF:Hd (Fr (fun _=>False) w W):=hF
 have H0:Hd (∀ wr,Fr (fun _=>False) W wr→CA wr cv f.code):=fun wr f=>h0.stay (hF.trans f)
 have H1:Hd (IA W av args):=h1.stay hF
 have H2:Hd (IA W rv rets):=h2.stay hF
 have H3:Hd (IA W hv s.H):=h3.stay hF
 have H4:Hd (LA W lv s.R):=h4.stay hF
 obtain⟨ca,cc,ecv,-⟩:=h0
 obtain⟨aa,ac,eav,-⟩:=h1
 obtain⟨ra,rc,erv,-⟩:=h2
 obtain⟨ha,hc,ehv,-⟩:=h3
 obtain⟨la,lc,elv,-⟩:=h4
 subst ecv eav erv ehv elv
 have HC:Hd (∀ wr,Fr (fun _=>False) W wr→wr.cell? ⟨X,0,none⟩=some (vI f.P)∧wr.cell? ⟨X,1,none⟩=some (vI f.R)∧wr.cell? ⟨X,2,none⟩=some (vI f.V)∧wr.cell? ⟨X,3,none⟩=some (.slice ca f.code.length cc) ∧
  wr.cell? ⟨X+1,5,none⟩=some (.slice aa args.length ac)∧wr.cell? ⟨X+1,6,none⟩=some (.slice ra rets.length rc)∧wr.cell? ⟨X+2,0,none⟩=some (.slice ha s.H.length hc)∧wr.cell? ⟨X+2,1,none⟩=some (.slice la s.R.length lc)):=fun wr f=>by
  have e1:=(f.block _ (heap_lt k1) (fun h=>h)).trans k1
  have e2:=(f.block _ (heap_lt k2) (fun h=>h)).trans k2
  have e3:=(f.block _ (heap_lt k3) (fun h=>h)).trans k3
  exact⟨by rw[cell_of e1];rfl,by rw[cell_of e1];rfl,by rw[cell_of e1];rfl,by rw[cell_of e1];rfl,by rw[cell_of e2];rfl,by rw[cell_of e2];rfl,by rw[cell_of e3];rfl,by rw[cell_of e3];rfl⟩
 have HBB:Hd (∀ l∈s.R,l.length=rets.length):=bb
 obtain⟨i7,hi7,hz7,hs7,hb7⟩:=info_parts (P:=Tryz.prog) (e:=140) (z:=.agg #[vI 0,vI 0,vI 0]) (size:=3) (bytes:=24) (by kernel_rfl)
 obtain⟨bz1,bz2⟩:=bz
 clear hW hF k1 k2 k3 hX bb hXW
 go_enter Tryz.func134,Tryz.ntmps134
 go_upto_region 1 with fail
 rw[← HW.out,← HX.out]
 clear HW
 go_wp2_with fail
 go_loopw [7,8] (fun v7 v8 wr=>∃ (i:Nat),v8 = .int .i64 i∧i≤args.length∧Hd (EO wr W.heap.size v7 (callT f.R f.V args rets s.H s.R i))∧Hd (Fr (fun _=>False) W wr)) (fun _ v _=>match v with | .int _ q=>args.length-q.toNat | _=>0)
 case atStart=>exact⟨0,rfl,by omega,EO.nil _ _,Fr.refl _ _⟩
 case round =>
  obtain⟨i,rfl,hi,HE,HFr⟩:=hrel
  obtain⟨c0,c1,c2,c3,d5,d6,g0,g1⟩:=HC.out wr HFr.out
  by_cases hlt:i<args.length
  ·obtain⟨a',c',e',ha1⟩:=H1.out.stay HFr.out
   cases e'
   obtain⟨ak,ao,rfl,hak,ha1⟩:=ha1 (by intro e;rw[e] at hlt;simp at hlt)
   have p0:=ha1 i hlt
   have HEL:Hd ((callT f.R f.V args rets s.H s.R i).length≤40):=callT_small br HBB.out i (by omega) (by omega)
   have HEL2:Hd ((callT f.R f.V args rets s.H s.R (i+1)).length≤40):=callT_small br HBB.out (i+1) (by omega) (by omega)
   have hiH:i<s.H.length:=by omega
   have hiR:i<s.R.length:=by omega
   have HST:Hd (callT f.R f.V args rets s.H s.R (i+1)=callT f.R f.V args rets s.H s.R i++(hE f.R f.V args[i] s.H[i]++gE f.R f.V args[i] rets s.R[i] rets.length)):=by
    unfold Hd callT
    rw[flat_succ]
    unfold oneE
    simp[hlt,hiH,hiR,HBB.out _ (List.getElem_mem hiR)]
   have hrv:=fun wx (hx:Fr (fun _=>False) W wx)=>rvariable_any f (.slice ca f.code.length cc) args[i] wx (H0.out wx hx)
   have hi0:(0:Int)≤i:=by omega
   have hi1:(i:Int)<args.length:=by omega
   clear ha1
   go_upto_region 5 with fail
   refine wp_region_still_tail 6 mixed (by kernel_rfl) ?_
   simp only[List.take_succ_cons,List.take_zero,List.drop_succ_cons,List.drop_zero]
   repeat still_step
   refine wpStill_nil ?_
   go_wp2_with fail
   refine(hrv _ (HFr.out.trans (Fr.drew (Fr.refl _ wr)))).mono ?_
   rintro _ w2 ⟨rfl,hF2⟩
   have HF2:Hd (Fr (fun _=>False) W w2):=(HFr.out.trans (Fr.drew (Fr.refl _ wr))).trans hF2
   have HE2:Hd (EO w2 W.heap.size u7 (callT f.R f.V args rets s.H s.R i)):=HE.out.stay ((Fr.drew (Fr.refl _ wr)).trans hF2)
   obtain⟨x0,x1,x2,x3,y5,y6,z0,z1⟩:=HC.out w2 HF2.out
   obtain⟨a',c',e',hh1⟩:=H3.out.stay HF2.out
   cases e'
   obtain⟨hk,ho,rfl,hhk,hh1⟩:=hh1 (by intro e;rw[e] at hiH;simp at hiH)
   have p1:=hh1 i hiH
   have hiH1:(i:Int)<s.H.length:=by omega
   have HL5:Hd ((callT f.R f.V args rets s.H s.R i).length+(hE f.R f.V args[i] s.H[i]).length≤40):=by
    have h:=HEL2.out
    rw[HST.out,List.length_append,List.length_append] at h
    unfold Hd
    omega
   have hi0H:(0:Int)≤i:=hi0
   clear hh1 hF2 hrv c0 c1 c2 c3 d5 d6 g0 g1 p0
   generalize hEE:callT f.R f.V args rets s.H s.R i=E at *
   clear hEE
   obtain⟨ea,ec,ee⟩:=own_slice HE2.out
   subst ee
   obtain⟨va,eva⟩:∃ va,va=varX f.R f.V args[i]:=⟨_,rfl⟩
   have HVA:Hd (varX f.R f.V args[i]=va):=eva.symm
   rw[← eva]
   clear eva
   have HD:Hd (hE f.R f.V args[i] s.H[i]=if s.H[i]=9 then [] else [(0,va,s.H[i])]):=by unfold Hd hE;rw[HVA.out]
   generalize s.H[i]=d at *
   go_upto_if 30 with fail
   go_cut [7] from 11 to 76 (fun v7 wx=>Hd (EO wx W.heap.size v7 (E++hE f.R f.V args[i] d))∧Hd (Fr (fun _=>False) W wx))
   case first =>
    by_cases h9:d=9
    ·have hd9:(d != 9)=false:=by simp[h9]
     have HQ:Hd (EO w2 W.heap.size (.slice ea E.length ec) (E++hE f.R f.V args[i] d)):=by unfold Hd;rw[HD.out,if_pos h9,List.append_nil];exact HE2.out
     go_wp2_with fail
     go_meet
     exact⟨HQ,HF2⟩
    ·have hd9:(d != 9)=true:=by simp[h9]
     have HRW:Hd ((w2.alloc (.cells #[vI 0,vI va,vI d] 140)).ownsRow W.heap.size 140 3 (.slice ea E.length ec) E.length (E.flatMap edC)):=HE2.out.stay (Fr.alloc (Fr.refl _ w2) _)
     have hnews:∀ j u,[vI 0,vI va,vI d][j]?=some u→(w2.alloc (.cells #[vI 0,vI va,vI d] 140)).cell? ((⟨w2.heap.size,0,none⟩:Addr).add j)=some u :=
      World.news_of_block (cs:=#[vI 0,vI va,vI d]) (heap_new w2 _)
     have hbase:W.heap.size≤(w2.alloc (.cells #[vI 0,vI va,vI d] 140)).heap.size:=by have:=HF2.out.size;simp;omega
     have hel:=HEL.out
     go_wp2_with ((at_builtin;refine Hd.out ?_))
     unfold Hd
     refine wpList_append_lies _ rfl (.tmp 31) (.tmp 39) 85 rfl W.heap.size 140 i7 (.agg #[vI 0,vI 0,vI 0]) 3 24 under36 hi7 hz7 hs7 hb7 rfl (by omega) (.slice ea E.length ec) E.length _ rfl HRW.out ⟨w2.heap.size,0,none⟩ 1 1 [vI 0,vI va,vI d] rfl rfl hnews (by intro u hu;simp at hu;rcases hu with rfl | rfl | rfl<;>rfl) (by omega) (by unfold maxLen;omega) (by omega) hbase (w2.heap.size+1) (by simp) ?_
     intro g6 cap6 w6 hown6 hgrow6 hat6 hlt6
     obtain⟨o1,o2⟩:=EO.grow (x:=(0,va,d)) HE2.out (Fr.alloc (Fr.refl _ w2) _) hgrow6 hown6 HF2.out (Nat.le_refl _)
     have HQ:Hd (EO w6 W.heap.size (.slice (some ⟨g6,0,none⟩) (E.length+1) cap6) (E++hE f.R f.V args[i] d)):=by unfold Hd;rw[HD.out,if_neg h9];exact o1
     have HQ2:Hd (Fr (fun _=>False) W w6):=o2
     clear hown6 hgrow6 hat6 hlt6 o1 o2 hnews hbase HRW
     go_wp2_with fail
     go_meet
     exact⟨HQ,HQ2⟩
   case rest =>
    obtain⟨HQ,HFc⟩:=hcut
    clear x0 x1 x2 x3 y5 y6 z0 z1 p1 HE HE2 HF2 HFr HEL
    have HRL:Hd (s.R[i].length=rets.length):=HBB.out _ (List.getElem_mem hiR)
    have HL6:Hd ((E++hE f.R f.V args[i] d).length+(gE f.R f.V args[i] rets s.R[i] rets.length).length≤40):=by
     have h:=HEL2.out
     rw[HST.out,List.length_append,List.length_append] at h
     unfold Hd
     rw[List.length_append]
     omega
    have HST2:Hd (callT f.R f.V args rets s.H s.R (i+1)=(E++hE f.R f.V args[i] d)++gE f.R f.V args[i] rets s.R[i] rets.length):=by unfold Hd;rw[HST.out,List.append_assoc]
    generalize E++hE f.R f.V args[i] d=E2 at *
    have hiR1:(i:Int)<s.R.length:=by omega
    go_wp2_with fail
    go_loopw [7,10] (fun v7 v10 wr=>∃ (j:Nat),v10 = .int .i64 j∧j≤rets.length∧Hd (EO wr W.heap.size v7 (E2++gE f.R f.V args[i] rets s.R[i] j))∧Hd (Fr (fun _=>False) W wr)) (fun _ v _=>match v with | .int _ q=>rets.length-q.toNat | _=>0)
    case atStart=>exact⟨0,rfl,by omega,by unfold Hd gE;simpa using HQ.out,HFc⟩
    case round =>
     obtain⟨j,rfl,hj,HE,HFr⟩:=hrel
     obtain⟨c0,c1,c2,c3,d5,d6,g0,g1⟩:=HC.out wr HFr.out
     by_cases hjl:j<rets.length
     ·obtain⟨a',c',e',hr1⟩:=H2.out
      cases e'
      obtain⟨rk,ro,rfl,hrk,hr1⟩:=hr1 (by intro e;rw[e] at hjl;simp at hjl)
      have HP0:Hd (∀ W',Fr (fun _=>False) W W'→W'.cell? ⟨rk,ro+j,none⟩=some (vI rets[j])):=fun W' f=>(f.cell hrk (fun h=>h)).trans (hr1 j hjl)
      obtain⟨a',c',e',hl1⟩:=H4.out
      cases e'
      obtain⟨lg,lo,rfl,hlg,hl1⟩:=hl1 (by intro e;rw[e] at hiR;simp at hiR)
      obtain⟨xv,q1,q2⟩:=hl1 i hiR
      have hjx:j<s.R[i].length:=by rw[HRL.out];exact hjl
      obtain⟨xa,xc,exv,q2⟩:=q2
      obtain⟨xg,xo,rfl,hxg,q2⟩:=q2 (by intro e;rw[e] at hjx;simp at hjx)
      subst exv
      have HP1:Hd (∀ W',Fr (fun _=>False) W W'→W'.cell? ⟨lg,lo+i,none⟩=some (.slice (some ⟨xg,xo,none⟩) s.R[i].length xc)∧W'.cell? ⟨xg,xo+j,none⟩=some (vI s.R[i][j])):=fun W' f=>⟨(f.cell hlg (fun h=>h)).trans q1,(f.cell hxg (fun h=>h)).trans (q2 j hjx)⟩
      have HGS:Hd (gE f.R f.V args[i] rets s.R[i] (j+1)=gE f.R f.V args[i] rets s.R[i] j++if s.R[i][j]=9 then [] else [(varX f.R f.V rets[j],va,s.R[i][j])]):=by
       unfold Hd gE
       rw[flat_succ]
       have e1:rets[j]?.getD 0=rets[j]:=by simp[hjl]
       have e2:s.R[i][j]?.getD 0=s.R[i][j]:=by simp[hjx]
       rw[e1,e2]
       unfold rE
       rw[HVA.out]
      have HLE:Hd ((E2++gE f.R f.V args[i] rets s.R[i] j).length≤40):=by
       have h:=HL6.out
       have h2:=flat_mono (fun m=>rE f.R f.V args[i] (rets[m]?.getD 0) (s.R[i][m]?.getD 0)) (show j≤rets.length from hj)
       unfold Hd
       rw[List.length_append]
       unfold gE at h ⊢
       omega
      have hjx1:(j:Int)<s.R[i].length:=by omega
      have HRV:Hd (∀ wx (hx:Fr (fun _=>False) W wx),Calls Tryz.prog 60 #[.agg #[vI f.P,vI f.R,vI f.V,.slice ca f.code.length cc],vI rets[j]] wx fun e w'=>e = .returned (vI (varX f.R f.V rets[j]))∧Fr (fun _=>False) wx w'):=fun wx hx=>rvariable_any f (.slice ca f.code.length cc) rets[j] wx (H0.out wx hx)
      generalize varX f.R f.V rets[j]=vb at *
      generalize rets[j]=rj at *
      generalize s.R[i][j]=d2 at *
      have t0:=HP0.out wr HFr.out
      obtain⟨t1,t2⟩:=HP1.out wr HFr.out
      have hj0:(0:Int)≤j:=by omega
      have hj1:(j:Int)<rets.length:=by omega
      obtain⟨ea',ec',ee⟩:=own_slice HE.out
      subst ee
      generalize hE3:E2++gE f.R f.V args[i] rets s.R[i] j=E3 at *
      clear hr1 hl1 q1 q2
      by_cases h9:d2=9
      ·have hd9:(d2 != 9)=false:=by simp[h9]
       have HQ3:Hd (EO wr W.heap.size (.slice ea' E3.length ec') (E2++gE f.R f.V args[i] rets s.R[i] (j+1))):=by unfold Hd;rw[HGS.out,if_pos h9,List.append_nil,hE3];exact HE.out
       clear hE3 HGS
       go_wp2_with fail
       exact⟨⟨j+1,castE j,hjl,HQ3,HFr⟩,measE hjl⟩
      ·have hd9:(d2 != 9)=true:=by simp[h9]
       have HQ3:Hd (∀ w6 v,EO w6 W.heap.size v (E3++[(vb,va,d2)])→EO w6 W.heap.size v (E2++gE f.R f.V args[i] rets s.R[i] (j+1))):=fun w6 v h=>by rw[HGS.out,if_neg h9,← List.append_assoc,hE3];exact h
       have hel:=HLE.out
       clear hE3 HGS
       go_upto_region 12 with fail
       go_region_held3 (fun w'=>w'.cell? ⟨X,0,none⟩=some (vI f.P)∧w'.cell? ⟨X,1,none⟩=some (vI f.R)∧w'.cell? ⟨X,2,none⟩=some (vI f.V)∧w'.cell? ⟨X,3,none⟩=some (.slice ca f.code.length cc)∧w'.cell? ⟨X+1,6,none⟩=some (.slice (some ⟨rk,ro,none⟩) rets.length rc)∧w'.cell? ⟨X+2,1,none⟩=some (.slice (some ⟨lg,lo,none⟩) s.R.length lc)∧w'.cell? ⟨rk,ro+j,none⟩=some (vI rj)∧w'.cell? ⟨lg,lo+i,none⟩=some (.slice (some ⟨xg,xo,none⟩) s.R[i].length xc)∧w'.cell? ⟨xg,xo+j,none⟩=some (vI d2)) (go_keep) ((
        first
         |(go_at_call 60
           refine(HRV.out _ (HFr.out.trans (Fr.drew (Fr.refl _ wr)))).mono ?_
           rintro e w2 ⟨rfl,hF2⟩
           have HF2:Hd (Fr (fun _=>False) W w2):=(HFr.out.trans (Fr.drew (Fr.refl _ wr))).trans hF2
           have HE2:Hd (EO w2 W.heap.size (.slice ea' E3.length ec') E3):=HE.out.stay ((Fr.drew (Fr.refl _ wr)).trans hF2)
           obtain⟨s0,s1,s2,s3,s4,s5,s6,s7⟩:=HC.out w2 HF2.out
           have s8:=HP0.out w2 HF2.out
           obtain⟨s9,s10⟩:=HP1.out w2 HF2.out
           have HFn:Hd (Fr (fun _=>False) w2 (w2.alloc (.cells #[vI vb,vI va,vI d2] 140))):=Fr.alloc (Fr.refl _ w2) _
           have HRW:Hd ((w2.alloc (.cells #[vI vb,vI va,vI d2] 140)).ownsRow W.heap.size 140 3 (.slice ea' E3.length ec') E3.length (E3.flatMap edC)):=HE2.out.stay HFn.out
           have HNW:Hd (∀ j u,[vI vb,vI va,vI d2][j]?=some u→(w2.alloc (.cells #[vI vb,vI va,vI d2] 140)).cell? ((⟨w2.heap.size,0,none⟩:Addr).add j)=some u):=World.news_of_block (cs:=#[vI vb,vI va,vI d2]) (heap_new w2 _)
           have HBS:Hd (W.heap.size≤(w2.alloc (.cells #[vI vb,vI va,vI d2] 140)).heap.size):=(HF2.out.trans HFn.out).size
           clear hF2)
         |(refine step_append_lies _ rfl (.tmp 57) (.tmp 75) 85 rfl W.heap.size 140 i7 (.agg #[vI 0,vI 0,vI 0]) 3 24 under36 hi7 hz7 hs7 hb7 rfl (by omega) (.slice ea' E3.length ec') E3.length _ (by simp[Act.eval,Act.put]) HRW.out ⟨w2.heap.size,0,none⟩ 1 1 [vI vb,vI va,vI d2] (by simp[Act.eval,Act.put]) rfl HNW.out (by intro u hu;simp at hu;rcases hu with rfl | rfl | rfl<;>rfl) (by omega) (by unfold maxLen;omega) (by omega) HBS.out (w2.heap.size+1) (by simp) ?_
           intro g6 cap6 w6 hown6 hgrow6 hat6 hlt6
           obtain⟨o1,o2⟩:=EO.grow (x:=(vb,va,d2)) HE2.out HFn.out hgrow6 hown6 HF2.out (Nat.le_refl _)
           have HO1:Hd _:=HQ3.out _ _ o1
           have HO2:Hd (Fr (fun _=>False) W w6):=o2
           obtain⟨n0,n1,n2,n3,n4,n5,n6,n7⟩:=HC.out w6 HO2.out
           have n8:=HP0.out w6 HO2.out
           obtain⟨n9,n10⟩:=HP1.out w6 HO2.out
           clear hown6 hgrow6 hat6 hlt6 o1 o2)))
       all_goals
        go_wp2_with fail
        exact⟨⟨j+1,castE j,hjl,HO1,HO2⟩,measE hjl⟩
     ·have hdj:decide ((j:Int)<rets.length)=false:=by simp;omega
      have hje:j=rets.length:=by omega
      have HQ3:Hd (EO wr W.heap.size u7 (callT f.R f.V args rets s.H s.R (i+1))):=by unfold Hd;rw[HST2.out,← hje];exact HE.out
      clear hje
      go_wp2_with fail
      exact⟨⟨i+1,castE i,hlt,HQ3,HFr⟩,measE hlt⟩
  ·have hdi:decide ((i:Int)<args.length)=false:=by simp;omega
   have hie:i=args.length:=by omega
   subst hie
   go_wp2_with fail
   go_ret
   exact⟨u7,rfl,World.ownsRow.mono HE.out (by have:=HXW.out;have:=HX.out;omega),HF.out.trans HFr.out⟩
set_option maxRecDepth 100000
set_option maxHeartbeats 4000000
theorem rcell_any (f:PF)(cv:Value)(at':Int)(w:World)(h:CA w cv f.code)(hn:f.code.length≤1599289640354) :
 Calls Tryz.prog 133 #[.agg #[vI f.P,vI f.R,vI f.V,cv],vI at'] w fun e w'=>e = .returned (vI (fcelX f.R f.V at' f.code))∧Fr (fun _=>False) w w':=by
 obtain⟨a,c,rfl,H0'⟩:=id h
 obtain⟨wa,hwa⟩:∃ wa,wa=w.alloc (.cells #[vI f.P,vI f.R,vI f.V,.slice a f.code.length c] 45):=⟨_,rfl⟩
 have hb:wa.heap[w.heap.size]?=some (.cells #[vI f.P,vI f.R,vI f.V,.slice a f.code.length c] 45):=by rw[hwa];exact heap_new0 w _
 have HWA:Hd (wa=w.alloc (.cells #[vI f.P,vI f.R,vI f.V,.slice a f.code.length c] 45)):=hwa
 obtain⟨H,hH⟩:∃ H,H=w.heap.size:=⟨_,rfl⟩
 have HH:Hd (H=w.heap.size):=hH
 rw[← hH] at hb
 have hFa:Fr (fun _=>False) w wa:=by rw[hwa];exact Fr.alloc (Fr.refl _ w) _
 have HFa:Hd (Fr (fun _=>False) w wa):=hFa
 have HB:Hd (wa.heap[H]?=some (.cells #[vI f.P,vI f.R,vI f.V,.slice a f.code.length c] 45)):=hb
 have H0:Hd (f.code≠[]→_):=H0'
 have c0:wa.cell? ⟨H,0,none⟩=some (vI f.P):=by rw[cell_of0 hb];rfl
 have c1:wa.cell? ⟨H,1,none⟩=some (vI f.R):=by rw[cell_of0 hb];rfl
 have c2:wa.cell? ⟨H,2,none⟩=some (vI f.V):=by rw[cell_of0 hb];rfl
 have c3:wa.cell? ⟨H,3,none⟩=some (.slice a f.code.length c):=by rw[cell_of0 hb];rfl
 clear hwa hH hb hFa H0' h
 by_cases hq0:0≤f.R
 ·have d0:decide (f.R<0)=false:=by simp;omega
  by_cases hq1:0≤f.V
  ·have d1:decide (f.V<0)=false:=by simp;omega
   by_cases hq2:0≤at'
   ·have d2:decide (at'<0)=false:=by simp;omega
    by_cases hq3:at'<f.code.length
    ·have d3:decide (at'≥f.code.length)=false:=by simp;omega
     obtain⟨m,rfl⟩:=Int.eq_ofNat_of_zero_le hq2
     have hml:m<f.code.length:=by omega
     obtain⟨ck,co,ea,hck,hcs⟩:=H0.out (by intro e;simp[e] at hml)
     obtain⟨av,rv,x0,-⟩:=hcs m hml
     have x0:=(HFa.out.cell (o:=co+m*7) hck (fun h=>h)).trans x0
     have hop:(f.code[((m:Int)).toNat]?.map (·.op))=some f.code[m].op:=by simp[hml]
     have hm0:(0:Int)≤m:=by omega
     have hm1:(m:Int)<f.code.length:=by omega
     have HOP:Hd ((f.code[((m:Int)).toNat]?.map (·.op))=some f.code[m].op):=hop
     generalize f.code[m].op=op at *
     subst ea
     clear hcs hop
     by_cases h6:op=6
     ·have d6:(op != 6)=false:=by simp[h6]
      have d7:decide (op≠6)=false:=by simp[h6]
      have HX:Hd (fcelX f.R f.V m f.code=wrap64 (cellX f.R f.V+(newsX (f.code.take m):Nat))):=by
       unfold Hd fcelX;rw[if_pos ⟨hq0,hq1,hq2,hq3,by rw[HOP.out,h6]⟩];simp
      clear h6 hq0 hq1 hq2 hq3
      go_enter Tryz.func133,Tryz.ntmps133
      go_upto_region 1 with fail
      rw[← HWA.out,← HH.out]
      clear HWA
      go_wp2_with fail
      clear c0 c1 c2 c3 x0
      go_loopw [5,6] (fun nv v wr=>∃ (q:Int) (k:Nat),nv = .int .i64 q∧v = .int .i64 k∧k≤m∧Hd (q=wrap64 (cellX f.R f.V+(newsX (f.code.take k):Nat)))∧Hd (Fr (fun _=>False) wa wr)) (fun _ v _=>match v with | .int _ q=>m-q.toNat | _=>0)
      case atStart=>exact⟨_,0,rfl,rfl,Nat.zero_le _,start_news _ _ _,Fr.refl _ _⟩
      case round =>
       obtain⟨q,k,rfl,rfl,hk,HQ,HF⟩:=hrel
       have c3:wr.cell? ⟨H,3,none⟩=some (.slice (some ⟨ck,co,none⟩) f.code.length c):=by rw[HF.out.cell (heap_lt0 HB.out) (fun e=>e),cell_of0 HB.out];rfl
       by_cases hlt:k<m
       ·have hkl:k<f.code.length:=by omega
        obtain⟨ck',co',ea,hck',hcs⟩:=H0.out (by intro e;simp[e] at hkl)
        cases ea
        obtain⟨av,rv,x0,-⟩:=hcs k hkl
        have x0:=((HFa.out.trans HF.out).cell (o:=co+k*7) hck (fun h=>h)).trans x0
        have HT:Hd (f.code.take (k+1)=f.code.take k++[f.code[k]]):=by unfold Hd;rw[List.take_add_one,List.getElem?_eq_getElem hkl];rfl
        generalize f.code[k]=ci at *
        have hk0:(0:Int)≤k:=by omega
        have hk1:(k:Int)<f.code.length:=by omega
        have hk2:(k:Int)<m:=by omega
        clear hcs
        by_cases h6:ci.op=6
        ·have d6:(ci.op==6)=true:=by simpa using h6
         have HQ2:Hd (wrap64 (q+1)=wrap64 (cellX f.R f.V+(newsX (f.code.take (k+1)):Nat))):=by
          unfold Hd;rw[HT.out,newsX_snoc,if_pos h6,HQ.out,wrap_add];congr 1;omega
         clear h6
         go_wp2_with fail
         exact⟨⟨_,k+1,rfl,by simp,by omega,HQ2.out,HF.out⟩,by simp;omega⟩
        ·have d6:(ci.op==6)=false:=by simpa using h6
         have HQ2:Hd (q=wrap64 (cellX f.R f.V+(newsX (f.code.take (k+1)):Nat))):=by unfold Hd;rw[HT.out,newsX_snoc,if_neg h6];exact HQ.out
         clear h6
         go_wp2_with fail
         exact⟨⟨_,k+1,rfl,by simp,by omega,HQ2.out,HF.out⟩,by simp;omega⟩
       ·have hke:k=m:=by omega
        have HE:Hd (q=fcelX f.R f.V m f.code):=by unfold Hd;rw[HX.out,HQ.out,hke]
        have hdk:decide ((k:Int)<m)=false:=by simp;omega
        have hdk2:decide (k<m)=false:=by simp;omega
        clear hke hlt
        go_wp2_with fail
        go_ret
        exact⟨by rw[← HE.out];rfl,HFa.out.trans HF.out⟩
     ·have d6:(op != 6)=true:=by simp[h6]
      have d7:decide (op≠6)=true:=by simp[h6]
      have HX:Hd (fcelX f.R f.V m f.code = -1):=if_neg (fun h=>h6 (by have:=h.2.2.2.2;rw[HOP.out] at this;exact Option.some.inj this))
      clear h6 hq0 hq1 hq2 hq3
      go_enter Tryz.func133,Tryz.ntmps133
      go_upto_region 1 with fail
      rw[← HWA.out,← HH.out]
      clear HWA
      go_wp2_with fail
      go_ret
      exact⟨by rw[HX.out];rfl,HFa.out⟩
    ·have d3:decide (at'≥f.code.length)=true:=by simp;omega
     have HX:Hd (fcelX f.R f.V at' f.code = -1):=if_neg (fun h=>hq3 h.2.2.2.1)
     clear hq0 hq1 hq2 hq3
     go_enter Tryz.func133,Tryz.ntmps133
     go_upto_region 1 with fail
     rw[← HWA.out,← HH.out]
     clear HWA
     go_wp2_with fail
     go_ret
     exact⟨by rw[HX.out];rfl,HFa.out⟩
   ·have d2:decide (at'<0)=true:=by simp;omega
    have HX:Hd (fcelX f.R f.V at' f.code = -1):=if_neg (fun h=>hq2 h.2.2.1)
    clear hq0 hq1 hq2
    go_enter Tryz.func133,Tryz.ntmps133
    go_upto_region 1 with fail
    rw[← HWA.out,← HH.out]
    clear HWA
    go_wp2_with fail
    go_ret
    exact⟨by rw[HX.out];rfl,HFa.out⟩
  ·have d1:decide (f.V<0)=true:=by simp;omega
   have HX:Hd (fcelX f.R f.V at' f.code = -1):=if_neg (fun h=>hq1 h.2.1)
   clear hq0 hq1
   go_enter Tryz.func133,Tryz.ntmps133
   go_upto_region 1 with fail
   rw[← HWA.out,← HH.out]
   clear HWA
   go_wp2_with fail
   go_ret
   exact⟨by rw[HX.out];rfl,HFa.out⟩
 ·have d0:decide (f.R<0)=true:=by simp;omega
  have HX:Hd (fcelX f.R f.V at' f.code = -1):=if_neg (fun h=>hq0 h.1)
  clear hq0
  go_enter Tryz.func133,Tryz.ntmps133
  go_upto_region 1 with fail
  rw[← HWA.out,← HH.out]
  clear HWA
  go_wp2_with fail
  go_ret
  exact⟨by rw[HX.out];rfl,HFa.out⟩
end Go.Proofs.YtdkijecnnmncnaaGreatDoor
