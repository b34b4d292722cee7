import Derived.Test.YtdkijecnnmncnaaGreatDoorQXcJ
set_option linter.unusedVariables false
set_option linter.unusedSimpArgs false
namespace Go.Proofs.YtdkijecnnmncnaaGreatDoor
open Go.RowKit (wrap32 wrap64)
set_option maxRecDepth 100000
set_option maxHeartbeats 2000000
theorem spareSums_any (v:Value)(ss:List PS)(w:World)(hE:SsA w v ss)(hF:FinS ss) :
 Calls Tryz.prog 19 #[v] w fun e w'=>∃ v',e = .returned v'∧SpS w' w.heap.size v' ss∧Fr (fun _=>False) w w':=by
 obtain⟨ea,ec,rfl,hein⟩:=hE
 have HE:Hd (ss≠[]→_):=hein
 have HFI:Hd (FinS ss):=hF
 have hel:=hF.1
 clear hein hF
 obtain⟨i7,hi7,hz7,hs7,hb7⟩:=info_parts (P:=Tryz.prog) (e:=33) (z:=.agg #[.slice none 0 0,.slice none 0 0]) (size:=2) (bytes:=48) (by kernel_rfl)
 go_enter Tryz.func19,Tryz.ntmps19
 go_wp2_with fail
 go_loopw [3,4] (fun mv v wr=>∃ (k:Nat) (L:List (Value × Value)),v = .int .i64 k∧k≤ss.length∧Hd (SpSs wr w.heap.size mv L (ss.take k) 0)∧Hd (Fr (fun _=>False) w wr)) (fun _ v _=>match v with | .int _ q=>ss.length-q.toNat | _=>0)
 case atStart=>exact⟨0,[],rfl,Nat.zero_le _,SpSs.nil _ _,Fr.refl _ _⟩
 case round =>
  obtain⟨k,L,rfl,hk,HO,HF⟩:=hrel
  by_cases hlt:k<ss.length
  ·obtain⟨pk,po,rfl,hpk,hcs⟩:=HE.out (by intro e;simp[e] at hlt)
   obtain⟨hv,rv,hu1,hu2,hi1,hi2⟩:=hcs k hlt
   have p0:=(HF.out.cell (o:=po+k*2) hpk (fun h=>h)).trans hu1
   have p1:=(HF.out.cell (o:=po+k*2+1) hpk (fun h=>h)).trans hu2
   have lp:pk<wr.heap.size:=Nat.lt_of_lt_of_le hpk HF.out.size
   have HC1:Hd (∀ wx,Fr (fun _=>False) wr wx→Calls Tryz.prog 53 #[hv,vI (-500)] wx fun e w'=>∃ v',e = .returned v'∧SpI w' wx.heap.size v' ss[k].H (-500)∧Fr (fun _=>False) wx w'):=fun wx hx=>room_any hv ss[k].H (-500) wx (hi1.stay (HF.out.trans hx)) (HFI.out.2 _ (List.getElem_mem hlt)).1 (by omega) (by omega)
   have HC2:Hd (∀ wx,Fr (fun _=>False) wr wx→Calls Tryz.prog 54 #[rv,vI (-700)] wx fun e w'=>∃ v',e = .returned v'∧SpL w' wx.heap.size v' ss[k].R (-700)∧Fr (fun _=>False) wx w'):=fun wx hx=>roomLists_any rv ss[k].R (-700) wx (hi2.stay (HF.out.trans hx)) (HFI.out.2 _ (List.getElem_mem hlt)).2.1 (HFI.out.2 _ (List.getElem_mem hlt)).2.2 (by omega) (by omega)
   have HT:Hd (ss.take (k+1)=ss.take k++[ss[k]]):=by unfold Hd;rw[List.take_add_one,List.getElem?_eq_getElem hlt];rfl
   have HUL:Hd (L.length=k):=by have h9:=HO.out.len;unfold Hd;rw[h9,List.length_take];omega
   obtain⟨va,vc,ev,-⟩:=hi1
   obtain⟨ra,rc,er,-⟩:=hi2
   generalize ss[k]=s at *
   subst ev er
   have hk0:(0:Int)≤k:=by omega
   have hk1:(k:Int)<ss.length:=by omega
   obtain⟨nl,hnl⟩:∃ nl,nl=L.length:=⟨_,rfl⟩
   have HNL:Hd (nl=L.length):=hnl
   have hn3:nl+1≤3000000001:=by have:=HUL.out;omega
   have HRW0:Hd (∀ wx,Fr (fun _=>False) wr wx→wx.ownsRow w.heap.size 33 2 u3 nl (L.flatMap rowV)):=fun wx hx=>by rw[hnl];exact(HO.out.stay hx).row
   obtain⟨oa,oc,eo⟩:=own_slice HO.out.row
   rw[← hnl] at eo
   subst eo
   clear hcs hu1 hu2 hnl
   go_upto_region 5 with fail
   go_region_held3 (fun w'=>w'.cell? ⟨pk,po+k*2,none⟩=some (.slice va s.H.length vc)∧w'.cell? ⟨pk,po+k*2+1,none⟩=some (.slice ra s.R.length rc)) (go_keep) ((
    first
     |(go_at_call 53
       refine(HC1.out wr.drew (Fr.drew (Fr.refl _ wr))).mono ?_
       rintro e w2 ⟨x,rfl,hx,hF2⟩
       have HD2:Hd (Fr (fun _=>False) wr w2):=(Fr.drew (Fr.refl _ wr)).trans hF2
       have HX2:Hd (SpI w2 w.heap.size x s.H (-500)):=hx.mono HF.out.size
       obtain⟨xa,xc,ex⟩:∃ xa xc,x = .slice (some ⟨xa,0,none⟩) s.H.length xc:=by obtain⟨xa,xc,e,-⟩:=hx;exact⟨xa,xc,e⟩
       subst ex
       have p0:=(HD2.out.cell lp (fun e=>e)).trans p0
       have p1:=(HD2.out.cell lp (fun e=>e)).trans p1
       clear hx hF2)
     |(go_at_call 54
       refine(HC2.out w2 HD2.out).mono ?_
       rintro e w3 ⟨y,rfl,hy,hF3⟩
       have HD3:Hd (Fr (fun _=>False) wr w3):=HD2.out.trans hF3
       obtain⟨ya,yc,ey⟩:∃ ya yc,y = .slice (some ⟨ya,0,none⟩) s.R.length yc:=by obtain⟨xa,xc,_,e,-⟩:=hy;exact⟨xa,xc,e⟩
       subst ey
       have HFn:Hd (Fr (fun _=>False) w3 (w3.alloc (.cells #[.slice (some ⟨xa,0,none⟩) s.H.length xc,.slice (some ⟨ya,0,none⟩) s.R.length yc] 33))):=Fr.alloc (Fr.refl _ w3) _
       have HX3:Hd (SpI (w3.alloc (.cells #[.slice (some ⟨xa,0,none⟩) s.H.length xc,.slice (some ⟨ya,0,none⟩) s.R.length yc] 33)) w.heap.size (.slice (some ⟨xa,0,none⟩) s.H.length xc) s.H (-500)):=HX2.out.stay (hF3.trans HFn.out)
       have HY3:Hd (SpL (w3.alloc (.cells #[.slice (some ⟨xa,0,none⟩) s.H.length xc,.slice (some ⟨ya,0,none⟩) s.R.length yc] 33)) w.heap.size (.slice (some ⟨ya,0,none⟩) s.R.length yc) s.R (-700)):=(hy.mono (HF.out.trans HD2.out).size).stay HFn.out
       have HD4:Hd (Fr (fun _=>False) wr (w3.alloc (.cells #[.slice (some ⟨xa,0,none⟩) s.H.length xc,.slice (some ⟨ya,0,none⟩) s.R.length yc] 33))):=HD3.out.trans HFn.out
       have HRW:Hd ((w3.alloc (.cells #[.slice (some ⟨xa,0,none⟩) s.H.length xc,.slice (some ⟨ya,0,none⟩) s.R.length yc] 33)).ownsRow w.heap.size 33 2 (.slice oa nl oc) nl (L.flatMap rowV)):=HRW0.out _ HD4.out
       have HNW:Hd (∀ j' u,[Value.slice (some ⟨xa,0,none⟩) s.H.length xc,.slice (some ⟨ya,0,none⟩) s.R.length yc][j']?=some u→(w3.alloc (.cells #[.slice (some ⟨xa,0,none⟩) s.H.length xc,.slice (some ⟨ya,0,none⟩) s.R.length yc] 33)).cell? ((⟨w3.heap.size,0,none⟩:Addr).add j')=some u):=World.news_of_block (cs:=#[.slice (some ⟨xa,0,none⟩) s.H.length xc,.slice (some ⟨ya,0,none⟩) s.R.length yc]) (heap_new0 w3 _)
       have HBS2:Hd (w.heap.size≤(w3.alloc (.cells #[.slice (some ⟨xa,0,none⟩) s.H.length xc,.slice (some ⟨ya,0,none⟩) s.R.length yc] 33)).heap.size):=(HF.out.trans HD4.out).size
       have p0:=(hF3.cell (Nat.lt_of_lt_of_le lp HD2.out.size) (fun e=>e)).trans p0
       have p1:=(hF3.cell (Nat.lt_of_lt_of_le lp HD2.out.size) (fun e=>e)).trans p1
       clear hy hF3)
     |(refine step_append_lies _ rfl (.tmp 12) (.tmp 26) 25 rfl w.heap.size 33 i7 (.agg #[.slice none 0 0,.slice none 0 0]) 2 48 under25 hi7 hz7 hs7 hb7 rfl (by omega) (.slice oa nl oc) nl _ (by simp[Act.eval,Act.put]) HRW.out ⟨w3.heap.size,0,none⟩ 1 1 [.slice (some ⟨xa,0,none⟩) s.H.length xc,.slice (some ⟨ya,0,none⟩) s.R.length yc] (by simp[Act.eval,Act.put]) rfl HNW.out (by intro u hu;simp at hu;rcases hu with rfl | rfl<;>rfl) (by omega) (by unfold maxLen;omega) (by omega) HBS2.out (w3.heap.size+1) (by simp) ?_
       intro g6 cap6 w6 hown6 hgrow6 hat6 hlt6
       have hso:SpSs w6 w.heap.size (.slice (some ⟨g6,0,none⟩) (L.length+1) cap6) (L++[(.slice (some ⟨xa,0,none⟩) s.H.length xc,.slice (some ⟨ya,0,none⟩) s.R.length yc)]) (ss.take k++[s]) 0:=(HO.out.stay HD4.out).app1 HX3.out HY3.out hgrow6 (by rw[← HNL.out];exact hown6)
       rw[← HNL.out,← HT.out] at hso
       have HO6:Hd (SpSs w6 w.heap.size (.slice (some ⟨g6,0,none⟩) (nl+1) cap6) (L++[(.slice (some ⟨xa,0,none⟩) s.H.length xc,.slice (some ⟨ya,0,none⟩) s.R.length yc)]) (ss.take (k+1)) 0):=hso
       have HF6:Hd (Fr (fun _=>False) w w6):=grow_fr0 (HF.out.trans HD4.out) hgrow6 (fun k hk=>(World.ownsRow.lt HRW.out k hk).1)
       have q0:w6.cell? ⟨pk,po+k*2,none⟩=some (.slice va s.H.length vc):=((grown_frL hgrow6).cell (Nat.lt_of_lt_of_le lp HD4.out.size) (fun e=>by have:=(World.ownsRow.lt HRW.out pk e).1;omega)).trans ((HFn.out.cell (Nat.lt_of_lt_of_le lp HD3.out.size) (fun e=>e)).trans p0)
       have q1:w6.cell? ⟨pk,po+k*2+1,none⟩=some (.slice ra s.R.length rc):=((grown_frL hgrow6).cell (Nat.lt_of_lt_of_le lp HD4.out.size) (fun e=>by have:=(World.ownsRow.lt HRW.out pk e).1;omega)).trans ((HFn.out.cell (Nat.lt_of_lt_of_le lp HD3.out.size) (fun e=>e)).trans p1)
       clear hown6 hgrow6 hat6 hlt6 hso)))
   all_goals
    go_wp2_with fail
    exact⟨⟨k+1,_,by simp,by omega,HO6.out,HF6.out⟩,by simp;omega⟩
  ·have hdk:decide ((k:Int)<ss.length)=false:=by simp;omega
   have HO2:Hd (SpSs wr w.heap.size u3 L ss 0):=by have:=HO.out;rw[List.take_of_length_le (by omega)] at this;exact this
   clear HO
   go_wp2_with fail
   clear hdk
   obtain⟨wo,hwo⟩:∃ wo,wo=wr:=⟨_,rfl⟩
   rw[← hwo] at HO2 HF ⊢
   clear hwo
   go_loopw [3,5] (fun mv v wr=>∃ (k:Nat) (L:List (Value × Value)),v = .int .i64 k∧k≤64∧Hd (SpSs wr w.heap.size mv L ss k)∧Hd (Fr (fun _=>False) w wr)) (fun _ v _=>match v with | .int _ q=>64-q.toNat | _=>0)
   case atStart=>exact⟨0,L,rfl,Nat.zero_le _,HO2.out,HF.out⟩
   case round =>
    clear HO2 HF
    obtain⟨k,L,rfl,hk,HO,HF⟩:=hrel
    by_cases hlt:k<64
    ·have hk0:(0:Int)≤k:=by omega
     have hk1:(k:Int)<64:=by omega
     have hw:IntKind.i64.wrap (-66-(k:Int)) = -66-(k:Int):=by simp[IntKind.wrap,IntKind.bits,IntKind.signed];omega
     have hsz:=HF.out.size
     obtain⟨wb,hwb⟩:∃ wb,wb=wr.alloc (.cells #[vI (-66-(k:Int))] 3):=⟨_,rfl⟩
     have HWB:Hd (wb=wr.alloc (.cells #[vI (-66-(k:Int))] 3)):=hwb
     have HXb:Hd (IOwn wb w.heap.size (.slice (some ⟨wr.heap.size,0,none⟩) 1 1) [-66-(k:Int)]):=by unfold Hd;rw[hwb];exact iown_one wr _ hsz
     have hFb:Fr (fun _=>False) wr wb:=by rw[hwb];exact Fr.alloc (Fr.refl _ _) _
     have hwz:wb.heap.size=wr.heap.size+1:=by rw[hwb];simp
     obtain⟨q,hq⟩:∃ q,q=wr.heap.size:=⟨_,rfl⟩
     have HQ:Hd (q=wr.heap.size):=hq
     rw[← hq] at HXb hwz
     have HFc:Hd (Fr (fun _=>False) wb (wb.alloc (.cells #[.slice (some ⟨q,0,none⟩) 1 1,.slice none 0 0] 33))):=Fr.alloc (Fr.refl _ _) _
     have HO1:Hd (SpSs (wb.alloc (.cells #[.slice (some ⟨q,0,none⟩) 1 1,.slice none 0 0] 33)) w.heap.size u3 L ss k):=HO.out.stay (hFb.trans HFc.out)
     have HX1:Hd (IOwn (wb.alloc (.cells #[.slice (some ⟨q,0,none⟩) 1 1,.slice none 0 0] 33)) w.heap.size (.slice (some ⟨q,0,none⟩) 1 1) [-66-(k:Int)]):=HXb.out.fr HFc.out (fun _ _ e=>e)
     have hnews:∀ j u,[Value.slice (some ⟨q,0,none⟩) 1 1,.slice none 0 0][j]?=some u→(wb.alloc (.cells #[.slice (some ⟨q,0,none⟩) 1 1,.slice none 0 0] 33)).cell? ((⟨q+1,0,none⟩:Addr).add j)=some u:=by
      rw[← hwz]
      exact World.news_of_block (cs:=#[.slice (some ⟨q,0,none⟩) 1 1,.slice none 0 0]) (heap_new wb _)
     have hbase:w.heap.size≤(wb.alloc (.cells #[.slice (some ⟨q,0,none⟩) 1 1,.slice none 0 0] 33)).heap.size:=by simp;omega
     have hUl:L.length+1≤3000000065:=by have:=HO.out.len;omega
     have HF1:Hd (Fr (fun _=>False) w (wb.alloc (.cells #[.slice (some ⟨q,0,none⟩) 1 1,.slice none 0 0] 33))):=(HF.out.trans hFb).trans HFc.out
     clear hwb hFb hq HO HF HXb
     go_wp2_with ((at_builtin;refine Hd.out ?_))
     rw[← HWB.out,← HQ.out]
     clear HWB
     unfold Hd
     refine wpList_append_lies _ rfl (.tmp 32) (.tmp 37) 25 rfl w.heap.size 33 i7 (.agg #[.slice none 0 0,.slice none 0 0]) 2 48 under25 hi7 hz7 hs7 hb7 rfl (by omega) u3 L.length _ rfl HO1.out.row ⟨q+1,0,none⟩ 1 1 [.slice (some ⟨q,0,none⟩) 1 1,.slice none 0 0] rfl rfl hnews (by intro u hu;simp at hu;rcases hu with rfl | rfl<;>rfl) (by omega) (by unfold maxLen;omega) (by omega) hbase (q+2) (by simp[hwz]) ?_
     intro g6 cap6 w6 hown6 hgrow6 hat6 hlt6
     have HO6:Hd (SpSs w6 w.heap.size (.slice (some ⟨g6,0,none⟩) (L.length+1) cap6) (L++[(.slice (some ⟨q,0,none⟩) 1 1,.slice none 0 0)]) ss (k+1)):=HO1.out.app2 HX1.out hgrow6 hown6
     have HF6:Hd (Fr (fun _=>False) w w6):=grow_fr0 HF1.out hgrow6 (fun k hk=>(World.ownsRow.lt HO1.out.row k hk).1)
     clear hown6 hgrow6 hat6 hlt6 HO1 hnews hbase HF1 HX1 HFc
     go_wp2_with fail
     exact⟨⟨k+1,_,by simp,by omega,HO6.out,HF6.out⟩,by simp;omega⟩
    ·have hke:k=64:=by omega
     subst hke
     have hlen:L.length=ss.length+64:=HO.out.len
     obtain⟨g,cap,rfl,hcap⟩:∃ g cap,u3 = .slice (some ⟨g,0,none⟩) (ss.length+64) cap∧ss.length+64≤cap:=by
      rcases HO.out.row.2 with⟨-,h3⟩|⟨g,cap,cur,e,-,-,h5,-⟩
      ·omega
      ·rw[hlen] at e h5;exact⟨g,cap,e,h5⟩
     have HEn:Hd (SpS wr w.heap.size (.slice (some ⟨g,0,none⟩) ss.length cap) ss):=⟨g,cap,L,rfl,hcap,HO.out⟩
     have hn0:(0:Int)≤ss.length:=by omega
     have hn1:(ss.length:Int)≤cap:=by omega
     clear hlen HO
     go_wp2_with fail
     go_ret
     exact⟨_,rfl,HEn.out,HF.out⟩
set_option maxRecDepth 100000
set_option maxHeartbeats 2000000
theorem SpSs.cell {w:World}{B g n cap:Nat}{L:List (Value × Value)}{ss:List PS}{k:Nat}(h:SpSs w B (.slice (some ⟨g,0,none⟩) n cap) L ss k){j:Nat}(hj:j<L.length):g<w.heap.size∧w.cell? ⟨g,j*2,none⟩=some L[j].1∧w.cell? ⟨g,j*2+1,none⟩=some L[j].2:=by
 obtain⟨g',cap',e,h1,h2⟩:=own_cell h.row (j:=j*2+0) (u:=L[j].1) (by rw[flat_get rowV 2 (fun _=>rfl) L j 0 hj (by omega)];rfl)
 obtain⟨g'',cap'',e',h1',h2'⟩:=own_cell h.row (j:=j*2+1) (u:=L[j].2) (by rw[flat_get rowV 2 (fun _=>rfl) L j 1 hj (by omega)];rfl)
 injection e with e1
 injection e' with e1'
 simp at e1 e1'
 subst e1 e1'
 exact⟨h1,h2,h2'⟩
theorem SpS.ssa {w:World}{B:Nat}{v:Value}{ss:List PS}(h:SpS w B v ss):SsA w v ss:=by
 obtain⟨g,cap,L,rfl,hc,h⟩:=h
 have hl:=h.len
 refine⟨_,cap,rfl,fun hne=>?_⟩
 have hp:0<ss.length:=List.length_pos_iff.2 hne
 refine⟨g,0,rfl,(h.cell (j:=0) (by omega)).1,fun j hj=>?_⟩
 obtain⟨-,h1,h2⟩:=h.cell (j:=j) (by omega)
 obtain⟨h3,h4⟩:=h.each j (by omega) hj
 simp only[Nat.zero_add]
 exact⟨_,_,h1,h2,h3.ia,h4.la⟩
theorem FinS.fine {ss:List PS}(h:FinS ss):FineS ss:=⟨by have:=h.1;omega,fun s hs=>by
 obtain⟨h1,h2,h3⟩:=h.2 s hs
 exact⟨by omega,by omega,fun l hl=>by have:=h3 l hl;omega⟩⟩
theorem eqSums_same (v1 v2:Value)(ss:List PS)(w:World)(h1:SsA w v1 ss)(h2:SsA w v2 ss)(hn:FinS ss) :
 Calls Tryz.prog 37 #[v1,v2] w fun e w'=>e = .returned (.bool true)∧Fr (fun _=>False) w w':=by
 obtain⟨a1,c1,rfl,hc1⟩:=h1
 obtain⟨a2,c2,rfl,hc2⟩:=h2
 have H1:Hd _:=hc1
 have H2:Hd _:=hc2
 have HFI:Hd (FinS ss):=hn
 have hz:=hn.1
 clear hc1 hc2 hn
 go_enter Tryz.func37,Tryz.ntmps37
 go_wp2_with fail
 go_loopw [5] (fun v wr=>∃ (k:Nat),v = .int .i64 k∧k≤ss.length∧Hd (Fr (fun _=>False) w wr)) (fun v _=>match v with | .int _ q=>ss.length-q.toNat | _=>0)
 case atStart=>exact⟨0,rfl,Nat.zero_le _,Fr.refl _ _⟩
 case round =>
  obtain⟨k,rfl,hk,HF⟩:=hrel
  by_cases hlt:k<ss.length
  ·have hne:ss≠[]:=by intro e;simp[e] at hlt
   obtain⟨k1,o1,rfl,hk1,g1⟩:=H1.out hne
   obtain⟨k2,o2,rfl,hk2,g2⟩:=H2.out hne
   obtain⟨x1,y1,p0,p1,ix1,iy1⟩:=g1 k hlt
   obtain⟨x2,y2,q0,q1,ix2,iy2⟩:=g2 k hlt
   have p0:=(HF.out.cell hk1 (fun h=>h)).trans p0
   have p1:=(HF.out.cell hk1 (fun h=>h)).trans p1
   have q0:=(HF.out.cell hk2 (fun h=>h)).trans q0
   have q1:=(HF.out.cell hk2 (fun h=>h)).trans q1
   have fD:=HF.out.trans (Fr.drew (Fr.refl (fun _=>False) wr))
   have hB:=HFI.out.2 _ (List.getElem_mem hlt)
   have hct:=eqSummary_same x1 y1 x2 y2 ss[k].H ss[k].R wr.drew (ix1.stay fD) (iy1.stay fD) (ix2.stay fD) (iy2.stay fD) (by omega) (by omega) (fun l hl=>by have:=hB.2.2 l hl;omega)
   obtain⟨a,b,e1,-⟩:=ix1
   obtain⟨a',b',e2,-⟩:=iy1
   obtain⟨a'',b'',e3,-⟩:=ix2
   obtain⟨a4,b4,e4,-⟩:=iy2
   subst e1 e2 e3 e4
   have hk0:(0:Int)≤k:=by omega
   have hk3:(k:Int)<ss.length:=by omega
   clear g1 g2 fD hB
   go_wp2_with fail
   refine wp_region_still_tail 8 mixed (by kernel_rfl) ?_
   simp only[List.take_succ_cons,List.take_zero,List.drop_succ_cons,List.drop_zero]
   repeat still_step
   refine wpStill_nil ?_
   go_wp2_with fail
   refine hct.mono ?_
   rintro e w1 ⟨rfl,hF1⟩
   have HF1:Hd (Fr (fun _=>False) w w1):=HF.out.drew.trans hF1
   clear hF1 p0 p1 q0 q1 hct
   go_wp2_with fail
   exact⟨⟨k+1,by simp,by omega,HF1⟩,by simp;omega⟩
  ·have hdk:decide ((k:Int)<ss.length)=false:=by simp;omega
   go_wp2_with fail
   go_ret
   exact⟨rfl,HF.out⟩
theorem staySums_any (v lv:Value)(ss:List PS)(B:Nat)(w:World)(h:SpS w B v ss)(h2:SsA w lv ss)(hF:FinS ss) :
 Calls Tryz.prog 23 #[v,lv] w fun e w'=>e = .returned (.bool true)∧Fr (fun _=>False) w w':=by
 have HQ:Hd (Calls Tryz.prog 37 #[v,lv] w fun e w'=>e = .returned (.bool true)∧Fr (fun _=>False) w w'):=eqSums_same v lv ss w h.ssa h2 hF
 have HS:Hd (SpS w B v ss):=h
 obtain⟨g,cap,L,rfl,hcap,h⟩:=h
 have hl:=h.len
 have hel:=hF.1
 have HC1:Hd (∀ wx,Fr (fun _=>False) w wx→∀ k,k<ss.length→∃ x y l ls,wx.cell? ⟨g,k*2,none⟩=some x∧wx.cell? ⟨g,k*2+1,none⟩=some y∧SpI wx B x l (-500)∧SpL wx B y ls (-700)∧l.length≤3000000000∧ls.length≤3000000000∧∀ l∈ls,l.length≤3000000000):=fun wx hx k hk=>by
  obtain⟨-,h1,h2⟩:=(h.stay hx).cell (j:=k) (by omega)
  obtain⟨h3,h4⟩:=(h.stay hx).each k (by omega) hk
  obtain⟨b1,b2,b3⟩:=hF.2 _ (List.getElem_mem hk)
  exact⟨_,_,_,_,h1,h2,h3,h4,b1,b2,b3⟩
 have HC2:Hd (∀ wx,Fr (fun _=>False) w wx→∀ k,k<64→∃ q,wx.cell? ⟨g,(ss.length+k)*2,none⟩=some (.slice (some ⟨q,0,none⟩) 1 1)∧wx.cell? ⟨q,0,none⟩=some (vI (-66-(k:Int)))):=fun wx hx k hk=>by
  have h1:=((h.stay hx).cell (j:=ss.length+k) (by omega)).2.1
  obtain⟨h2,q,h3⟩:=(h.stay hx).mrk (ss.length+k) (by omega) (by omega)
  rw[h3] at h1 h2
  refine⟨q,h1,?_⟩
  obtain⟨q',cap',e,-,h5⟩:=own_cell h2 (j:=0) (u:=vI (-66-((ss.length+k-ss.length:Nat):Int))) rfl
  injection e with e1
  simp at e1
  subst e1
  rw[h5,Nat.add_sub_cancel_left]
 obtain⟨la,lc,rfl,-⟩:=h2
 obtain⟨n,hnl⟩:∃ n,n=ss.length:=⟨_,rfl⟩
 rw[← hnl] at hel hcap HC1 HC2 HQ ⊢
 clear hnl h hl hF HS
 have hn0:(0:Int)≤(n:Int)+64:=by omega
 have hn1:(n:Int)+64≤cap:=by omega
 have ht:((n:Int)+64).toNat=n+64:=by omega
 go_enter Tryz.func23,Tryz.ntmps23
 go_wp2_with fail
 refine HQ.out.mono ?_
 rintro e w1 ⟨rfl,hF1⟩
 have HF1:Hd (Fr (fun _=>False) w w1):=hF1
 clear HQ hF1
 go_wp2_with fail
 go_loopw [6] (fun v wr=>∃ (k:Nat),v = .int .i64 k∧k≤64∧wr=w1) (fun v _=>match v with | .int _ q=>64-q.toNat | _=>0)
 case atStart=>exact⟨0,rfl,by omega,rfl⟩
 case round =>
  obtain⟨k,rfl,hk,rfl⟩:=hrel
  by_cases hlt:k<64
  ·have hk0:(0:Int)≤(n:Int)+k:=by omega
   have hk1:(k:Int)<64:=by omega
   have hk3:(n:Int)+k<((n+64:Nat):Int):=by omega
   have ht2:((n:Int)+k).toNat=n+k:=by omega
   obtain⟨q,p0,p1⟩:=HC2.out wr HF1.out k hlt
   have hw:IntKind.i64.wrap (-66-(k:Int)) = -66-(k:Int):=by simp[IntKind.wrap,IntKind.bits,IntKind.signed];omega
   go_wp2_with fail
   exact⟨⟨k+1,by simp,by omega,by trivial⟩,by simp;omega⟩
  ·have hd64:decide ((k:Int)<64)=false:=by simp;omega
   clear hk hlt
   go_wp2_with fail
   clear hd64
   obtain⟨wo,hwo⟩:∃ wo,wo=wr:=⟨_,rfl⟩
   rw[← hwo] at HF1 ⊢
   clear hwo
   go_loopw [4,8] (fun _ v wr=>∃ (k:Nat),v = .int .i64 k∧k≤n∧Hd (wr=wo)) (fun _ v _=>match v with | .int _ q=>n-q.toNat | _=>0)
   case atStart=>exact⟨0,rfl,by omega,rfl⟩
   case round =>
    obtain⟨k,rfl,hk,HWR⟩:=hrel
    have HF1:Hd (Fr (fun _=>False) w wr):=by have:=HF1.out;rw[← HWR.out] at this;exact this
    by_cases hlt:k<n
    ·have hk0:(0:Int)≤k:=by omega
     have hk1:(k:Int)<n:=by omega
     obtain⟨x,y,l,ls,p0,p1,hx,hy,b1,b2,b3⟩:=HC1.out wr HF1.out k hlt
     obtain⟨xa,xc,ex⟩:∃ xa xc,x = .slice (some ⟨xa,0,none⟩) l.length xc:=by obtain⟨xa,xc,e,-⟩:=hx;exact⟨xa,xc,e⟩
     obtain⟨ya,yc,ey⟩:∃ xa xc,y = .slice (some ⟨xa,0,none⟩) ls.length xc:=by obtain⟨xa,xc,_,e,-⟩:=hy;exact⟨xa,xc,e⟩
     have HK1:Hd (Calls Tryz.prog 62 #[x,vI (-500)] wr fun e w'=>e = .returned (.bool true)∧w'=wr):=kept_any x l (-500) B wr hx b1 (by omega) (by omega)
     have HK2:Hd (Calls Tryz.prog 63 #[y,vI (-700)] wr fun e w'=>e = .returned (.bool true)∧w'=wr):=keptLists_any y ls (-700) B wr hy b2 b3 (by omega) (by omega)
     subst ex ey
     clear hx hy b3
     go_wp2_with fail
     refine HK1.out.mono ?_
     rintro e w2 ⟨rfl,hw2⟩
     subst hw2
     go_wp2_with fail
     refine HK2.out.mono ?_
     rintro e w3 ⟨rfl,hw3⟩
     subst hw3
     go_wp2_with fail
     exact⟨⟨k+1,by simp,by omega,HWR.out⟩,by simp;omega⟩
    ·have dk:decide ((k:Int)<n)=false:=by simp;omega
     go_wp2_with fail
     go_ret
     exact⟨rfl,HF1.out⟩
theorem SpK.fr45 {w w6:World}{B B' n:Nat}{v v':Value}{xs:List Value}{cs:List PI}(h:SpK w B v cs)(hr:w.ownsRow B' 45 4 v' n xs)(f:Fr (fun k=>v'.ownBlock=some k) w w6):SpK w6 B v cs:=by
 obtain⟨g,cap,L,e,hc,hL,h⟩:=h
 refine⟨g,cap,L,e,hc,hL,h.fr f (fun j e1 e2=>own_apart hr h.row (by decide) j e1 e2) (fun x hx j e1 e2=>?_)⟩
 rcases e1 with e1 | e1
 ·exact(h.ints x hx).1.apart hr (by decide) j e1 e2
 ·exact(h.ints x hx).2.apart hr (by decide) j e1 e2
theorem SpK.mono {w:World}{B B':Nat}{v:Value}{cs:List PI}(h:SpK w B v cs)(hB:B'≤B):SpK w B' v cs:=by
 obtain⟨g,cap,L,e,hc,hL,h⟩:=h
 exact⟨g,cap,L,e,hc,hL,h.mono hB⟩
structure SpFs (w:World)(B:Nat)(v:Value)(L:List (PF × Value))(fs:List PF)(k:Nat):Prop where
 row:w.ownsRow B 45 4 v L.length (L.flatMap rowP)
 len:L.length=fs.length+k
 each:∀ i (h:i<L.length) (h':i<fs.length),L[i].1=fs[i]∧SpK w B L[i].2 fs[i].code
 mrk:∀ i (h:i<L.length),fs.length≤i→L[i].1.P = -76-((i-fs.length:Nat):Int)
theorem SpFs.stay {w w':World}{B:Nat}{v:Value}{L:List (PF × Value)}{fs:List PF}{k:Nat}(h:SpFs w B v L fs k)(f:Fr (fun _=>False) w w'):SpFs w' B v L fs k :=
 ⟨ownsRow_frL h.row f (fun _ _ e=>e),h.len,fun i hi hi'=>⟨(h.each i hi hi').1,(h.each i hi hi').2.stay f⟩,h.mrk⟩
theorem SpFs.mono {w:World}{B B':Nat}{v:Value}{L:List (PF × Value)}{fs:List PF}{k:Nat}(h:SpFs w B v L fs k)(hB:B'≤B):SpFs w B' v L fs k :=
 ⟨World.ownsRow.mono h.row hB,h.len,fun i hi hi'=>⟨(h.each i hi hi').1,(h.each i hi hi').2.mono hB⟩,h.mrk⟩
theorem SpFs.nil (w:World)(B:Nat):SpFs w B (.slice none 0 0) [] [] 0:=⟨World.ownsRow_nil _ _ _ _,rfl,fun i h=>by simp at h,fun i h=>by simp at h⟩
theorem SpFs.app1 {w w6:World}{B g cap:Nat}{v x:Value}{L:List (PF × Value)}{fs:List PF}{s:PF}(h:SpFs w B v L fs 0)(hx:SpK w B x s.code)(hg:w.grownBy w6 v.ownBlock)(ho:w6.ownsRow B 45 4 (.slice (some ⟨g,0,none⟩) (L.length+1) cap) (L.length+1) (L.flatMap rowP++[vI s.P,vI s.R,vI s.V,x])) :
 SpFs w6 B (.slice (some ⟨g,0,none⟩) (L.length+1) cap) (L++[(s,x)]) (fs++[s]) 0:=by
 have f:=grown_frL hg
 refine⟨?_,by simp[h.len],fun i hi hi'=>?_,fun i hi hl=>?_⟩
 ·rw[List.length_append,List.flatMap_append]
  simpa using ho
 ·by_cases e:i<L.length
  ·have e':i<fs.length:=by have:=h.len;omega
   have k:=h.each i e e'
   rw[List.getElem_append_left e,List.getElem_append_left e']
   exact⟨k.1,k.2.fr45 h.row f⟩
  ·have e1:i=L.length:=by simp at hi;omega
   have e2:L.length=fs.length:=h.len
   subst e1
   simp[e2]
   exact hx.fr45 h.row f
 ·have:=h.len
  simp at hi hl
  omega
theorem SpFs.app2 {w w6:World}{B g cap:Nat}{v:Value}{L:List (PF × Value)}{fs:List PF}{k:Nat}(h:SpFs w B v L fs k)(hg:w.grownBy w6 v.ownBlock)(ho:w6.ownsRow B 45 4 (.slice (some ⟨g,0,none⟩) (L.length+1) cap) (L.length+1) (L.flatMap rowP++[vI (-76-(k:Int)),vI 0,vI 0,.slice none 0 0])) :
 SpFs w6 B (.slice (some ⟨g,0,none⟩) (L.length+1) cap) (L++[(⟨-76-(k:Int),0,0,[]⟩,.slice none 0 0)]) fs (k+1):=by
 have f:=grown_frL hg
 refine⟨?_,by simp[h.len];omega,fun i hi hi'=>?_,fun i hi hl=>?_⟩
 ·rw[List.length_append,List.flatMap_append]
  simpa using ho
 ·have e:i<L.length:=by have:=h.len;omega
  have k:=h.each i e hi'
  rw[List.getElem_append_left e]
  exact⟨k.1,k.2.fr45 h.row f⟩
 ·by_cases e:i<L.length
  ·rw[List.getElem_append_left e]
   exact h.mrk i e hl
  ·have e1:i=L.length:=by simp at hi;omega
   subst e1
   have e2:L.length-fs.length=k:=by have:=h.len;omega
   simp only[List.getElem_concat_length,e2]
def SpF (w:World)(B:Nat)(v:Value)(fs:List PF):Prop :=
 ∃ g cap L,v = .slice (some ⟨g,0,none⟩) fs.length cap∧fs.length+64≤cap∧SpFs w B (.slice (some ⟨g,0,none⟩) (fs.length+64) cap) L fs 64
theorem SpF.stay {w w':World}{B:Nat}{v:Value}{fs:List PF}(h:SpF w B v fs)(f:Fr (fun _=>False) w w'):SpF w' B v fs:=by
 obtain⟨g,cap,us,e,hc,h⟩:=h
 exact⟨g,cap,us,e,hc,h.stay f⟩
theorem SpFs.cell {w:World}{B g n cap:Nat}{L:List (PF × Value)}{fs:List PF}{k:Nat}(h:SpFs w B (.slice (some ⟨g,0,none⟩) n cap) L fs k){j o:Nat}(hj:j<L.length)(ho:o<4){u:Value}(hu:(rowP L[j])[o]?=some u):g<w.heap.size∧w.cell? ⟨g,j*4+o,none⟩=some u:=by
 obtain⟨g',cap',e,h1,h2⟩:=own_cell h.row (j:=j*4+o) (u:=u) (by rw[flat_get rowP 4 (fun _=>rfl) L j o hj ho];exact hu)
 injection e with e1
 simp at e1
 subst e1
 exact⟨h1,h2⟩
theorem SpF.fa {w:World}{B:Nat}{v:Value}{fs:List PF}(h:SpF w B v fs):FA w v fs:=by
 obtain⟨g,cap,L,rfl,hc,h⟩:=h
 have hl:=h.len
 refine⟨_,cap,rfl,fun hne=>?_⟩
 have hp:0<fs.length:=List.length_pos_iff.2 hne
 refine⟨g,0,rfl,(h.cell (j:=0) (o:=0) (by omega) (by omega) rfl).1,fun j hj=>?_⟩
 obtain⟨h3,h4⟩:=h.each j (by omega) hj
 have c0:=(h.cell (j:=j) (o:=0) (by omega) (by omega) rfl).2
 have c1:=(h.cell (j:=j) (o:=1) (by omega) (by omega) rfl).2
 have c2:=(h.cell (j:=j) (o:=2) (by omega) (by omega) rfl).2
 have c3:=(h.cell (j:=j) (o:=3) (by omega) (by omega) rfl).2
 rw[h3] at c0 c1 c2
 simp only[Nat.zero_add]
 exact⟨_,c0,c1,c2,c3,h4.ca⟩
set_option maxRecDepth 100000
set_option maxHeartbeats 2000000
def FinP (fs:List PF):Prop:=fs.length≤2147483647∧∀ f∈fs,f.code.length≤2147483647∧∀ c∈f.code,c.args.length≤2147483647∧c.rets.length≤2147483647
abbrev zero24 : Obj:=.cells #[vI 0,.slice none 0 0] 24
theorem spare_any (G:Int)(fv:Value)(fs:List PF)(w:World)(hE:FA w fv fs)(hF:FinP fs) :
 Calls Tryz.prog 18 #[.agg #[vI G,fv]] w fun e w'=>∃ fv',e = .returned (.agg #[vI G,fv'])∧SpF w' w.heap.size fv' fs∧Fr (fun _=>False) w w':=by
 obtain⟨a,c,rfl,hein⟩:=hE
 have HE:Hd (fs≠[]→_):=hein
 have HFI:Hd (FinP fs):=hF
 have hel:=hF.1
 obtain⟨wa,hwa⟩:∃ wa,wa=(w.alloc (.cells #[vI G,.slice a fs.length c] 24)).alloc zero24:=⟨_,rfl⟩
 have HWA:Hd (wa=(w.alloc (.cells #[vI G,.slice a fs.length c] 24)).alloc zero24):=hwa
 obtain⟨H,hH⟩:∃ H,H=w.heap.size:=⟨_,rfl⟩
 have HH:Hd (H=w.heap.size):=hH
 have hb0:wa.heap[H]?=some (.cells #[vI G,.slice a fs.length c] 24):=by rw[hwa,hH];exact keepA (heap_new0 w _) _
 have hb1:wa.heap[H+1]?=some zero24:=by
  rw[hwa,hH]
  have:=heap_new0 (w.alloc (.cells #[vI G,.slice a fs.length c] 24)) zero24
  rw[World.size_alloc] at this
  exact this
 have HFA:Hd (Fr (fun _=>False) w wa):=by unfold Hd;rw[hwa];exact Fr.alloc (Fr.alloc (Fr.refl _ w) _) _
 have HWS:Hd (wa.heap.size=H+2):=by unfold Hd;rw[hwa,hH];simp
 have HB0:Hd (∀ wx,Fr (fun _=>False) wa wx→wx.heap[H]?=some (.cells #[vI G,.slice a fs.length c] 24)):=fun wx hx=>keepF hb0 hx
 have HB1:Hd (∀ wx,Fr (fun _=>False) wa wx→wx.heap[H+1]?=some zero24):=fun wx hx=>keepF hb1 hx
 clear hein hF hwa hH hb0 hb1
 obtain⟨i7,hi7,hz7,hs7,hb7⟩:=info_parts (P:=Tryz.prog) (e:=45) (z:=.agg #[vI 0,vI 0,vI 0,.slice none 0 0]) (size:=4) (bytes:=48) (by kernel_rfl)
 go_enter Tryz.func18,Tryz.ntmps18
 go_upto_region 1 with fail
 rw[← HWA.out,← HH.out]
 clear HWA
 go_wp2_with fail
 go_loopw [3,4] (fun mv v wr=>∃ (k:Nat) (L:List (PF × Value)),v = .int .i64 k∧k≤fs.length∧Hd (SpFs wr wa.heap.size mv L (fs.take k) 0)∧Hd (Fr (fun _=>False) wa wr)) (fun _ v _=>match v with | .int _ q=>fs.length-q.toNat | _=>0)
 case atStart=>exact⟨0,[],rfl,Nat.zero_le _,SpFs.nil _ _,Fr.refl _ _⟩
 case round =>
  obtain⟨k,L,rfl,hk,HO,HF⟩:=hrel
  have c1:wr.cell? ⟨H,1,none⟩=some (.slice a fs.length c):=by rw[cell_of0 (HB0.out wr HF.out)];rfl
  by_cases hlt:k<fs.length
  ·obtain⟨pk,po,rfl,hpk,hcs⟩:=HE.out (by intro e;simp[e] at hlt)
   obtain⟨x1,p0,p1,p2,p3,ix1⟩:=hcs k hlt
   have m1:=fun o=>(HFA.out.trans HF.out).cell (o:=o) hpk (fun h=>h)
   have p0:=(m1 _).trans p0
   have p1:=(m1 _).trans p1
   have p2:=(m1 _).trans p2
   have p3:=(m1 _).trans p3
   have hB:=HFI.out.2 _ (List.getElem_mem hlt)
   have HC:Hd (Calls Tryz.prog 52 #[.agg #[vI fs[k].P,vI fs[k].R,vI fs[k].V,x1]] wr fun e w'=>∃ x',e = .returned (.agg #[vI fs[k].P,vI fs[k].R,vI fs[k].V,x'])∧SpK w' wr.heap.size x' fs[k].code∧Fr (fun _=>False) wr w'):=spareFunc_any fs[k] x1 wr (ix1.stay (HFA.out.trans HF.out)) (by omega) (fun c hc=>by have:=hB.2 c hc;omega)
   have HT:Hd (fs.take (k+1)=fs.take k++[fs[k]]):=by unfold Hd;rw[List.take_add_one,List.getElem?_eq_getElem hlt];rfl
   have HUL:Hd (L.length=k):=by have h9:=HO.out.len;unfold Hd;rw[h9,List.length_take];omega
   obtain⟨va,vc,ev,-⟩:=ix1
   clear hB hcs m1
   generalize fs[k]=f at *
   subst ev
   have hk0:(0:Int)≤k:=by omega
   have hk1:(k:Int)<fs.length:=by omega
   go_wp2_with fail
   refine HC.out.mono ?_
   rintro e w2 ⟨x,rfl,hx,hF2⟩
   obtain⟨xa,xc,ex⟩:∃ xa xc,x = .slice (some ⟨xa,0,none⟩) f.code.length xc:=by obtain⟨xa,xc,_,e,-⟩:=hx;exact⟨xa,xc,e⟩
   subst ex
   obtain⟨wb,hwb⟩:∃ wb,wb=w2.alloc (.cells #[vI f.P,vI f.R,vI f.V,.slice (some ⟨xa,0,none⟩) f.code.length xc] 45):=⟨_,rfl⟩
   have HWB:Hd (wb=w2.alloc (.cells #[vI f.P,vI f.R,vI f.V,.slice (some ⟨xa,0,none⟩) f.code.length xc] 45)):=hwb
   have hFb:Fr (fun _=>False) w2 wb:=by rw[hwb];exact Fr.alloc (Fr.refl _ _) _
   have bx:wb.heap[w2.heap.size]?=some (.cells #[vI f.P,vI f.R,vI f.V,.slice (some ⟨xa,0,none⟩) f.code.length xc] 45):=by rw[hwb];exact heap_new0 w2 _
   have hwz:wb.heap.size=w2.heap.size+1:=by rw[hwb];simp
   obtain⟨X,hX⟩:∃ X,X=w2.heap.size:=⟨_,rfl⟩
   have HX:Hd (X=w2.heap.size):=hX
   rw[← hX] at bx hwz
   have u0:wb.cell? ⟨X,0,none⟩=some (vI f.P):=by rw[cell_of0 bx];rfl
   have u1:wb.cell? ⟨X,1,none⟩=some (vI f.R):=by rw[cell_of0 bx];rfl
   have u2:wb.cell? ⟨X,2,none⟩=some (vI f.V):=by rw[cell_of0 bx];rfl
   have v3:wb.cell? ⟨X,3,none⟩=some (.slice (some ⟨xa,0,none⟩) f.code.length xc):=by rw[cell_of0 bx];rfl
   have HFc:Hd (Fr (fun _=>False) wb (wb.alloc (.cells #[vI f.P,vI f.R,vI f.V,.slice (some ⟨xa,0,none⟩) f.code.length xc] 45))):=Fr.alloc (Fr.refl _ _) _
   have HFd:Hd (Fr (fun _=>False) wr (wb.alloc (.cells #[vI f.P,vI f.R,vI f.V,.slice (some ⟨xa,0,none⟩) f.code.length xc] 45))):=(hF2.trans hFb).trans HFc.out
   have HO1:Hd (SpFs (wb.alloc (.cells #[vI f.P,vI f.R,vI f.V,.slice (some ⟨xa,0,none⟩) f.code.length xc] 45)) wa.heap.size u3 L (fs.take k) 0):=HO.out.stay HFd.out
   have HX1:Hd (SpK (wb.alloc (.cells #[vI f.P,vI f.R,vI f.V,.slice (some ⟨xa,0,none⟩) f.code.length xc] 45)) wa.heap.size (.slice (some ⟨xa,0,none⟩) f.code.length xc) f.code):=(hx.mono HF.out.size).stay (hFb.trans HFc.out)
   have hnews:∀ j u,[vI f.P,vI f.R,vI f.V,.slice (some ⟨xa,0,none⟩) f.code.length xc][j]?=some u→(wb.alloc (.cells #[vI f.P,vI f.R,vI f.V,.slice (some ⟨xa,0,none⟩) f.code.length xc] 45)).cell? ((⟨wb.heap.size,0,none⟩:Addr).add j)=some u :=
    World.news_of_block (cs:=#[vI f.P,vI f.R,vI f.V,.slice (some ⟨xa,0,none⟩) f.code.length xc]) (heap_new0 wb _)
   have HF1:Hd (Fr (fun _=>False) wa (wb.alloc (.cells #[vI f.P,vI f.R,vI f.V,.slice (some ⟨xa,0,none⟩) f.code.length xc] 45))):=HF.out.trans HFd.out
   have hbase:wa.heap.size≤(wb.alloc (.cells #[vI f.P,vI f.R,vI f.V,.slice (some ⟨xa,0,none⟩) f.code.length xc] 45)).heap.size:=HF1.out.size
   have hUl:L.length+1≤3000000001:=by have:=HUL.out;omega
   clear hx hF2 hwb hFb bx hX HF HO HC p0 p1 p2 p3 c1 hwz
   go_upto_region 6 with fail
   rw[← HWB.out,← HX.out]
   clear HWB
   go_wp2_with ((at_builtin;refine Hd.out ?_))
   unfold Hd
   refine wpList_append_lies _ rfl (.tmp 20) (.tmp 22) 22 rfl wa.heap.size 45 i7 (.agg #[vI 0,vI 0,vI 0,.slice none 0 0]) 4 48 under24 hi7 hz7 hs7 hb7 rfl (by omega) u3 L.length _ rfl HO1.out.row ⟨wb.heap.size,0,none⟩ 1 1 [vI f.P,vI f.R,vI f.V,.slice (some ⟨xa,0,none⟩) f.code.length xc] rfl rfl hnews (by intro u hu;simp at hu;rcases hu with rfl | rfl | rfl | rfl<;>rfl) (by omega) (by unfold maxLen;omega) (by omega) hbase (wb.heap.size+1) (by simp) ?_
   intro g6 cap6 w6 hown6 hgrow6 hat6 hlt6
   have HO6:Hd (SpFs w6 wa.heap.size (.slice (some ⟨g6,0,none⟩) (L.length+1) cap6) (L++[(f,.slice (some ⟨xa,0,none⟩) f.code.length xc)]) (fs.take (k+1)) 0):=by unfold Hd;rw[HT.out];exact HO1.out.app1 HX1.out hgrow6 hown6
   have HF6:Hd (Fr (fun _=>False) wa w6):=grow_fr0 HF1.out hgrow6 (fun k hk=>(World.ownsRow.lt HO1.out.row k hk).1)
   clear hown6 hgrow6 hat6 hlt6 HO1 hnews hbase HF1 HX1 HFc HFd u0 u1 u2 v3
   go_wp2_with fail
   exact⟨⟨k+1,_,by simp,by omega,HO6.out,HF6.out⟩,by simp;omega⟩
  ·have hdk:decide ((k:Int)<fs.length)=false:=by simp;omega
   have HO2:Hd (SpFs wr wa.heap.size u3 L fs 0):=by have:=HO.out;rw[List.take_of_length_le (by omega)] at this;exact this
   clear HO
   go_wp2_with fail
   clear hdk c1
   obtain⟨wo,hwo⟩:∃ wo,wo=wr:=⟨_,rfl⟩
   rw[← hwo] at HO2 HF ⊢
   clear hwo
   go_loopw [3,6] (fun mv v wr=>∃ (k:Nat) (L:List (PF × Value)),v = .int .i64 k∧k≤64∧Hd (SpFs wr wa.heap.size mv L fs k)∧Hd (Fr (fun _=>False) wa wr)) (fun _ v _=>match v with | .int _ q=>64-q.toNat | _=>0)
   case atStart=>exact⟨0,L,rfl,Nat.zero_le _,HO2.out,HF.out⟩
   case round =>
    clear HO2 HF
    obtain⟨k,L,rfl,hk,HO,HF⟩:=hrel
    by_cases hlt:k<64
    ·have hk0:(0:Int)≤k:=by omega
     have hk1:(k:Int)<64:=by omega
     have hw:IntKind.i64.wrap (-76-(k:Int)) = -76-(k:Int):=by simp[IntKind.wrap,IntKind.bits,IntKind.signed];omega
     have HFc:Hd (Fr (fun _=>False) wr (wr.alloc (.cells #[vI (-76-(k:Int)),vI 0,vI 0,.slice none 0 0] 45))):=Fr.alloc (Fr.refl _ _) _
     have HO1:Hd (SpFs (wr.alloc (.cells #[vI (-76-(k:Int)),vI 0,vI 0,.slice none 0 0] 45)) wa.heap.size u3 L fs k):=HO.out.stay HFc.out
     have hnews:∀ j u,[vI (-76-(k:Int)),vI 0,vI 0,.slice none 0 0][j]?=some u→(wr.alloc (.cells #[vI (-76-(k:Int)),vI 0,vI 0,.slice none 0 0] 45)).cell? ((⟨wr.heap.size,0,none⟩:Addr).add j)=some u :=
      World.news_of_block (cs:=#[vI (-76-(k:Int)),vI 0,vI 0,.slice none 0 0]) (heap_new0 wr _)
     have HF1:Hd (Fr (fun _=>False) wa (wr.alloc (.cells #[vI (-76-(k:Int)),vI 0,vI 0,.slice none 0 0] 45))):=HF.out.trans HFc.out
     have hbase:wa.heap.size≤(wr.alloc (.cells #[vI (-76-(k:Int)),vI 0,vI 0,.slice none 0 0] 45)).heap.size:=HF1.out.size
     have hUl:L.length+1≤3000000065:=by have:=HO.out.len;omega
     clear HO HF
     go_wp2_with ((at_builtin;refine Hd.out ?_))
     unfold Hd
     refine wpList_append_lies _ rfl (.tmp 28) (.tmp 32) 22 rfl wa.heap.size 45 i7 (.agg #[vI 0,vI 0,vI 0,.slice none 0 0]) 4 48 under24 hi7 hz7 hs7 hb7 rfl (by omega) u3 L.length _ rfl HO1.out.row ⟨wr.heap.size,0,none⟩ 1 1 [vI (-76-(k:Int)),vI 0,vI 0,.slice none 0 0] rfl rfl hnews (by intro u hu;simp at hu;rcases hu with rfl | rfl | rfl<;>rfl) (by omega) (by unfold maxLen;omega) (by omega) hbase (wr.heap.size+1) (by simp) ?_
     intro g6 cap6 w6 hown6 hgrow6 hat6 hlt6
     have HO6:Hd (SpFs w6 wa.heap.size (.slice (some ⟨g6,0,none⟩) (L.length+1) cap6) (L++[(⟨-76-(k:Int),0,0,[]⟩,.slice none 0 0)]) fs (k+1)):=HO1.out.app2 hgrow6 hown6
     have HF6:Hd (Fr (fun _=>False) wa w6):=grow_fr0 HF1.out hgrow6 (fun k hk=>(World.ownsRow.lt HO1.out.row k hk).1)
     clear hown6 hgrow6 hat6 hlt6 HO1 hnews hbase HF1 HFc
     go_wp2_with fail
     exact⟨⟨k+1,_,by simp,by omega,HO6.out,HF6.out⟩,by simp;omega⟩
    ·have hke:k=64:=by omega
     subst hke
     have hlen:L.length=fs.length+64:=HO.out.len
     obtain⟨g,cap,rfl,hcap⟩:∃ g cap,u3 = .slice (some ⟨g,0,none⟩) (fs.length+64) cap∧fs.length+64≤cap:=by
      rcases HO.out.row.2 with⟨-,h3⟩|⟨g,cap,cur,e,-,-,h5,-⟩
      ·omega
      ·rw[hlen] at e h5;exact⟨g,cap,e,h5⟩
     have hn0:(0:Int)≤fs.length:=by omega
     have hn1:(fs.length:Int)≤cap:=by omega
     have hB0:=HB0.out wr HF.out
     have hB1:=HB1.out wr HF.out
     have c0:wr.cell? ⟨H,0,none⟩=some (vI G):=by rw[cell_of0 hB0];rfl
     have c1:wr.cell? ⟨H,1,none⟩=some (.slice a fs.length c):=by rw[cell_of0 hB0];rfl
     have y0:wr.cell? ⟨H+1,0,none⟩=some (vI 0):=by rw[cell_of0 hB1];rfl
     have y1:wr.cell? ⟨H+1,1,none⟩=some (.slice none 0 0):=by rw[cell_of0 hB1];rfl
     have z0:=frozen_of hB1 0
     have z1:=frozen_of hB1 1
     have hE0:((wr.setCell ⟨H+1,0,none⟩ (vI G)).setCell ⟨H+1,1,none⟩ (.slice (some ⟨g,0,none⟩) fs.length cap)).drew.heap[H+1]?=some (.cells #[vI G,.slice (some ⟨g,0,none⟩) fs.length cap] 24):=set_of (set_of hB1 0 _) 1 _
     have hfz:Fr (fun j=>j=H+1) wr ((wr.setCell ⟨H+1,0,none⟩ (vI G)).setCell ⟨H+1,1,none⟩ (.slice (some ⟨g,0,none⟩) fs.length cap)).drew:=((setCell_fr wr (H+1) 0 _).trans (setCell_fr _ (H+1) 1 _)).drew
     have hSp:SpFs ((wr.setCell ⟨H+1,0,none⟩ (vI G)).setCell ⟨H+1,1,none⟩ (.slice (some ⟨g,0,none⟩) fs.length cap)).drew wa.heap.size (.slice (some ⟨g,0,none⟩) (fs.length+64) cap) L fs 64:=by
      have hs:=HWS.out
      refine⟨ownsRow_frL HO.out.row hfz (fun j e e2=>by have:=(World.ownsRow.lt HO.out.row j e).1;omega),HO.out.len,fun i hi hi'=>⟨(HO.out.each i hi hi').1,?_⟩,HO.out.mrk⟩
      obtain⟨g',cap',L',e1,e2,e3,e4⟩:=(HO.out.each i hi hi').2
      exact⟨g',cap',L',e1,e2,e3,e4.up hfz (fun k hk e=>by omega)⟩
     have HEN:Hd (SpF ((wr.setCell ⟨H+1,0,none⟩ (vI G)).setCell ⟨H+1,1,none⟩ (.slice (some ⟨g,0,none⟩) fs.length cap)).drew w.heap.size (.slice (some ⟨g,0,none⟩) fs.length cap) fs):=⟨g,cap,L,rfl,hcap,hSp.mono HFA.out.size⟩
     have HFz:Hd (Fr (fun _=>False) w ((wr.setCell ⟨H+1,0,none⟩ (vI G)).setCell ⟨H+1,1,none⟩ (.slice (some ⟨g,0,none⟩) fs.length cap)).drew):=(HFA.out.trans HF.out).then hfz (fun j hj e=>by have:=HH.out;omega)
     have HE0:Hd (((wr.setCell ⟨H+1,0,none⟩ (vI G)).setCell ⟨H+1,1,none⟩ (.slice (some ⟨g,0,none⟩) fs.length cap)).drew.heap[H+1]?=some (.cells #[vI G,.slice (some ⟨g,0,none⟩) fs.length cap] 24)):=hE0
     clear hE0 hfz hSp hB0 hB1 hlen HO HF
     go_upto_region 11 with fail
     go_region
     all_goals
      go_wp2_with fail
      generalize ((wr.setCell ⟨H+1,0,none⟩ (vI G)).setCell ⟨H+1,1,none⟩ (.slice (some ⟨g,0,none⟩) fs.length cap)).drew=wv at *
      have e0:wv.cell? ⟨H+1,0,none⟩=some (vI G):=by rw[cell_of0 HE0.out];rfl
      have e1:wv.cell? ⟨H+1,1,none⟩=some (.slice (some ⟨g,0,none⟩) fs.length cap):=by rw[cell_of0 HE0.out];rfl
      refine bodyPost_ret (v:=.agg #[vI G,.slice (some ⟨g,0,none⟩) fs.length cap]) ?_ rfl ⟨_,rfl,HEN.out,HFz.out⟩
      rw[results_cell (p:=2) (ty:=24) Tryz.results18]
      simp[go_sem,e0,e1]
end Go.Proofs.YtdkijecnnmncnaaGreatDoor
