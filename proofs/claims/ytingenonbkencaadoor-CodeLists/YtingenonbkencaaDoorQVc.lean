import Derived.Test.YtingenonbkencaaDoorQVaJ
import Derived.Test.YtingenonbkencaaDoorQK1
set_option linter.unusedVariables false
set_option linter.unusedSimpArgs false
namespace Go.Proofs.YtingenonbkencaaDoor
open Go.RowKit (wrap32 wrap64)
set_option maxRecDepth 100000
set_option maxHeartbeats 4000000
theorem docP_eq (n:Nat):docP n=(partsN n).toList:=by
 match n with
 | 0 | 1 | 2 | 3 | 4 | 5 | 6 | 7 | 8 | 9 | 10 | 11 | 12 | 13 | 14 | 15 | 16 | 17=>rfl
 | m+18=>rfl
theorem leN_len (n:Nat)(z:Int):(leN n z).length=n:=leBytes_length _ _
theorem lst_len (l:List Int):(lst l).length=l.length+1:=by
 unfold lst
 rw[List.length_append,leN_len]
 have:∀ l:List Int,(l.flatMap (leN 1)).length=l.length:=fun l=>by
  induction l with
  | nil=>rfl
  | cons a r ih=>rw[List.flatMap_cons,List.length_append,ih,leN_len];simp;omega
 rw[this];omega
theorem docL_len (c:PI)(u:UInt8)(ha:c.args.length≤255)(hr:c.rets.length≤255):(docL c u).length≤256:=by
 unfold docL
 repeat' split
 all_goals first | (rw[leN_len];omega) | (rw[lst_len];omega)
theorem docP_len (n:Nat):(partsN n).toList.length≤3:=by
 match n with
 | 0 | 1 | 2 | 3 | 4 | 5 | 6 | 7 | 8 | 9 | 10 | 11 | 12 | 13 | 14 | 15 | 16 | 17=>decide
 | m+18=>exact Nat.zero_le 3
theorem u64_nat (z:Int):∃ X:Nat,IntKind.u64.wrap z=(X:Int)∧X<18446744073709551616∧∀ n,leN n z=leBytes n X:=by
 have h0:0≤IntKind.u64.wrap z∧IntKind.u64.wrap z<18446744073709551616:=by
  simp only[IntKind.wrap,IntKind.signed,IntKind.bits]
  simp
  omega
 exact⟨(IntKind.u64.wrap z).toNat,by omega,by omega,fun n=>rfl⟩
theorem laid_any (v:Value)(bs:List UInt8)(B:Nat)(c:PI)(av rv:Value)(w:World)(h:Bo w B v bs)(hA:IB B w av c.args)(hR:IB B w rv c.rets)(hal:c.args.length≤255)(hrl:c.rets.length≤255)(hl:bs.length≤9000000000000) :
 Calls Tryd.prog 48 #[v,.agg #[vI c.op,vI c.r,vI c.s,vI c.t,vI c.n,av,rv]] w fun e w'=>∃ v',e = .returned v'∧Bo w' B v' (bs++docI c)∧Fb B w w':=by
 obtain⟨i5,hi5,hz5,hs5,hb5⟩:=info_parts (P:=Tryd.prog) (e:=5) (z:=.int .u8 0) (size:=1) (bytes:=1) (by kernel_rfl)
 obtain⟨aa,ca,eav,-⟩:=id hA
 obtain⟨ra,cr,erv,-⟩:=id hR
 obtain⟨W,HW⟩:∃ W,W=w.alloc (.cells #[vI c.op,vI c.r,vI c.s,vI c.t,vI c.n,av,rv] 71):=⟨_,rfl⟩
 have hf1:Fb B w W:=by rw[HW];exact Fr.alloc (Fr.refl _ _) _
 have hx1:W.heap[w.heap.size]?=some (.cells #[vI c.op,vI c.r,vI c.s,vI c.t,vI c.n,av,rv] 71):=by rw[HW];exact heap_new w _
 have hb1:Bo W B v bs:=⟨by rw[HW];exact h.1.alloc _,Nat.le_trans h.2 hf1.size⟩
 obtain⟨H,hH⟩:∃ H,H=w.heap.size:=⟨_,rfl⟩
 have HA:Hd (∀ wx,Fb B w wx→IB B wx av c.args):=fun wx f=>hA.fb f
 have HR:Hd (∀ wx,Fb B w wx→IB B wx rv c.rets):=fun wx f=>hR.fb f
 have HAL:Hd (c.args.length≤255):=hal
 have HRL:Hd (c.rets.length≤255):=hrl
 clear h hA hR hal hrl
 have x0:W.cell? ⟨H,0,none⟩=some (vI c.op):=by rw[hH,cell_of hx1];rfl
 rw[← hH] at hx1
 have HX:Hd (∀ wx,Fb B W wx→wx.heap[H]?=some (.cells #[vI c.op,vI c.r,vI c.s,vI c.t,vI c.n,av,rv] 71)):=fun wx f=>f.keep hx1 (by decide)
 have HF1:Hd (Fb B w W):=hf1
 obtain⟨cop,hcop,hlop⟩:=u8_le c.op
 have HLO:Hd (leN 1 c.op=[cop]):=hlop
 have hcell1:∀ (j:Nat) (u:Value),[u8v cop][j]?=some u→(W.alloc (.cells #[u8v cop] 5)).cell? ((⟨W.heap.size,0,none⟩:Addr).add j)=some u:=by
  intro j u hu
  rw[addr_add,World.cell?_alloc_new]
  simpa using hu
 have hkb:bs.length+1≤maxLen:=by unfold maxLen;omega
 have hBw:=hb1.2
 have HB:Hd (Bo W B v bs):=hb1
 clear hlop hx1 hf1
 subst eav erv
 go_enter Tryd.func48,Tryd.ntmps48
 go_upto_region 1 with fail
 rw[← HW,← hH]
 clear HW hH
 go_upto_region 2 with((at_builtin;refine wpList_append_own _ rfl (.tmp 7) (.tmp 11) 22 rfl B 5 i5 (.int .u8 0) 1 1 Tryd.underlying22 hi5 hz5 hs5 hb5 rfl (by omega) v bs.length _ rfl (hb1.1.alloc _) ⟨W.heap.size,0,none⟩ 1 1 [u8v cop] rfl rfl hcell1 (by intro u hu;simp at hu;subst hu;rfl) hkb (by omega) (by simp;omega) ?_;intro v1 w2 hown2 hgrow2 hnil2))
 obtain⟨hb2,hf2⟩:=HB.out.more _ hown2 hgrow2
 have HB2:Hd (Bo w2 B v1 (bs++[cop])):=hb2
 have HF2:Hd (Fb B W w2):=hf2
 have y0:w2.cell? ⟨H,0,none⟩=some (vI c.op):=by rw[cell_of (HX.out w2 hf2)];rfl
 clear hown2 hgrow2 hnil2 hcell1 hkb HB hb1 hb2 hf2 x0 hcop
 have hpc:=rparts c.op w2
 have hB:Hd (partsB c.op=⟨(partsN c.op.toNat).toList.toArray⟩):=rfl
 rw[hB.out] at hpc
 have HDI:Hd (docI c=[cop]++((partsN c.op.toNat).toList).flatMap (docL c)):=by unfold Hd docI;rw[docP_eq,HLO.out]
 have hl3:(partsN c.op.toNat).toList.length≤3:=docP_len _
 generalize (partsN c.op.toNat).toList=l at hpc HDI hl3
 clear hB
 go_wp2_with fail
 refine hpc.mono ?_
 rintro e w3 ⟨rfl,hf3⟩
 have HF3:Hd (Fb B W w3):=HF2.out.trans (hf3.mono (fun _ _ h=>h.elim))
 have HB3:Hd (Bo w3 B v1 (bs++[cop])):=HB2.out.fr hf3 (fun _ _ h=>h)
 clear hpc y0 hf3 HF2 HB2
 go_wp2_with fail
 go_loopw [0,6] (fun u i wr=>∃ (k:Nat) (cs:List UInt8),k≤l.length∧i = .int .i64 k∧Bo wr B u cs∧Hd (cs=bs++[cop]++(l.take k).flatMap (docL c))∧cs.length≤bs.length+1+256*k∧Hd (Fb B W wr)) (fun _ i _=>match i with | .int _ q=>l.length-q.toNat | _=>0)
 case atStart=>exact⟨0,bs++[cop],Nat.zero_le _,rfl,HB3.out,by unfold Hd;simp,by simp,HF3.out⟩
 case round =>
  obtain⟨k,cs,hk,rfl,hb,HCS,hcl,HFR⟩:=hrel
  by_cases hlt:k<l.length
  rotate_left
  ·have hkn:k=l.length:=by omega
   subst hkn
   have HBB:Hd (Bo wr B u0 cs):=hb
   clear hb
   go_wp2_with fail
   go_ret
   refine⟨_,rfl,?_,HF1.out.trans HFR.out⟩
   have e:=HCS.out
   rw[List.take_of_length_le (Nat.le_refl _)] at e
   rw[HDI.out,← List.append_assoc,← e]
   exact HBB.out
  have hp:k<(⟨l.toArray⟩:ByteArray).size:=by show k<l.toArray.size;simpa using hlt
  have hi:(⟨l.toArray⟩:ByteArray)[k]'hp=l[k]:=rfl
  have hxb:=HX.out wr HFR.out
  have b1:wr.cell? ⟨H,1,none⟩=some (vI c.r):=by rw[cell_of hxb];rfl
  have b2:wr.cell? ⟨H,2,none⟩=some (vI c.s):=by rw[cell_of hxb];rfl
  have b3:wr.cell? ⟨H,3,none⟩=some (vI c.t):=by rw[cell_of hxb];rfl
  have b4:wr.cell? ⟨H,4,none⟩=some (vI c.n):=by rw[cell_of hxb];rfl
  have b5:wr.cell? ⟨H,5,none⟩=some (.slice aa c.args.length ca):=by rw[cell_of hxb];rfl
  have b6:wr.cell? ⟨H,6,none⟩=some (.slice ra c.rets.length cr):=by rw[cell_of hxb];rfl
  have HTK:Hd (∀ ds,docL c l[k]=ds→cs++ds=bs++[cop]++(l.take (k+1)).flatMap (docL c)):=fun ds e=>by
   rw[List.take_add_one,List.flatMap_append,← List.append_assoc,← HCS.out]
   simp[List.getElem?_eq_getElem hlt,e]
  have HDL:Hd ((docL c l[k]).length≤256):=docL_len c _ HAL.out HRL.out
  have HB:Hd (Bo wr B u0 cs):=hb
  have hBw':=hb.2
  have hcl2:cs.length≤9000000001000:=by omega
  clear hxb HCS
  by_cases q82:l[k]=82
  ·have e82:(((((⟨l.toArray⟩:ByteArray)[k]'hp).toNat:Nat):Int)==82)=true:=by rw[hi,q82];rfl
   have hdq:Hd (docL c l[k]=leN 1 c.r):=by unfold Hd;rw[q82];rfl
   clear q82
   obtain⟨ck,hc1,hl1⟩:=u8_le c.r
   have HL1:Hd (leN 1 c.r=[ck]):=hl1
   have HT:Hd (cs++[ck]=bs++[cop]++(l.take (k+1)).flatMap (docL c)):=HTK.out _ (hdq.out.trans hl1)
   have hcell1:∀ (j:Nat) (u:Value),[u8v ck][j]?=some u→(wr.alloc (.cells #[u8v ck] 5)).cell? ((⟨wr.heap.size,0,none⟩:Addr).add j)=some u:=by
    intro j u hu
    rw[addr_add,World.cell?_alloc_new]
    simpa using hu
   have hkb:cs.length+1≤maxLen:=by unfold maxLen;omega
   clear hi hl1 HTK HDL hdq
   go_wp2_with ((at_builtin;refine wpList_append_own _ rfl (.tmp 33) (.tmp 37) 22 rfl B 5 i5 (.int .u8 0) 1 1 Tryd.underlying22 hi5 hz5 hs5 hb5 rfl (by omega) u0 cs.length _ rfl (hb.1.alloc _) ⟨wr.heap.size,0,none⟩ 1 1 [u8v ck] rfl rfl hcell1 (by intro u hu;simp at hu;subst hu;rfl) hkb (by omega) (by simp;omega) ?_;intro v2 w7 hown7 hgrow7 hnil7))
   obtain⟨hb7,hf7⟩:=HB.out.more _ hown7 hgrow7
   exact⟨⟨k+1,cs++[ck],by omega,by simp,hb7,HT.out,by simp;omega,HFR.out.trans hf7⟩,by simp;omega⟩
  by_cases q83:l[k]=83
  ·have n82:(((((⟨l.toArray⟩:ByteArray)[k]'hp).toNat:Nat):Int)==82)=false:=by
    rw[hi];simp only[beq_eq_false_iff_ne,ne_eq];intro e;exact q82 (UInt8.toNat_inj.1 (by show _=82;omega))
   have e83:(((((⟨l.toArray⟩:ByteArray)[k]'hp).toNat:Nat):Int)==83)=true:=by rw[hi,q83];rfl
   have hdq:Hd (docL c l[k]=leN 1 c.s):=by unfold Hd;rw[q83];rfl
   clear q83
   obtain⟨ck,hc1,hl1⟩:=u8_le c.s
   have HL1:Hd (leN 1 c.s=[ck]):=hl1
   have HT:Hd (cs++[ck]=bs++[cop]++(l.take (k+1)).flatMap (docL c)):=HTK.out _ (hdq.out.trans hl1)
   have hcell1:∀ (j:Nat) (u:Value),[u8v ck][j]?=some u→(wr.alloc (.cells #[u8v ck] 5)).cell? ((⟨wr.heap.size,0,none⟩:Addr).add j)=some u:=by
    intro j u hu
    rw[addr_add,World.cell?_alloc_new]
    simpa using hu
   have hkb:cs.length+1≤maxLen:=by unfold maxLen;omega
   clear hi hl1 HTK HDL hdq
   go_wp2_with ((at_builtin;refine wpList_append_own _ rfl (.tmp 41) (.tmp 45) 22 rfl B 5 i5 (.int .u8 0) 1 1 Tryd.underlying22 hi5 hz5 hs5 hb5 rfl (by omega) u0 cs.length _ rfl (hb.1.alloc _) ⟨wr.heap.size,0,none⟩ 1 1 [u8v ck] rfl rfl hcell1 (by intro u hu;simp at hu;subst hu;rfl) hkb (by omega) (by simp;omega) ?_;intro v2 w7 hown7 hgrow7 hnil7))
   obtain⟨hb7,hf7⟩:=HB.out.more _ hown7 hgrow7
   exact⟨⟨k+1,cs++[ck],by omega,by simp,hb7,HT.out,by simp;omega,HFR.out.trans hf7⟩,by simp;omega⟩
  by_cases q84:l[k]=84
  ·have n82:(((((⟨l.toArray⟩:ByteArray)[k]'hp).toNat:Nat):Int)==82)=false:=by
    rw[hi];simp only[beq_eq_false_iff_ne,ne_eq];intro e;exact q82 (UInt8.toNat_inj.1 (by show _=82;omega))
   have n83:(((((⟨l.toArray⟩:ByteArray)[k]'hp).toNat:Nat):Int)==83)=false:=by
    rw[hi];simp only[beq_eq_false_iff_ne,ne_eq];intro e;exact q83 (UInt8.toNat_inj.1 (by show _=83;omega))
   have e84:(((((⟨l.toArray⟩:ByteArray)[k]'hp).toNat:Nat):Int)==84)=true:=by rw[hi,q84];rfl
   have hdq:Hd (docL c l[k]=leN 1 c.t):=by unfold Hd;rw[q84];rfl
   clear q84
   obtain⟨ck,hc1,hl1⟩:=u8_le c.t
   have HL1:Hd (leN 1 c.t=[ck]):=hl1
   have HT:Hd (cs++[ck]=bs++[cop]++(l.take (k+1)).flatMap (docL c)):=HTK.out _ (hdq.out.trans hl1)
   have hcell1:∀ (j:Nat) (u:Value),[u8v ck][j]?=some u→(wr.alloc (.cells #[u8v ck] 5)).cell? ((⟨wr.heap.size,0,none⟩:Addr).add j)=some u:=by
    intro j u hu
    rw[addr_add,World.cell?_alloc_new]
    simpa using hu
   have hkb:cs.length+1≤maxLen:=by unfold maxLen;omega
   clear hi hl1 HTK HDL hdq
   go_wp2_with ((at_builtin;refine wpList_append_own _ rfl (.tmp 49) (.tmp 53) 22 rfl B 5 i5 (.int .u8 0) 1 1 Tryd.underlying22 hi5 hz5 hs5 hb5 rfl (by omega) u0 cs.length _ rfl (hb.1.alloc _) ⟨wr.heap.size,0,none⟩ 1 1 [u8v ck] rfl rfl hcell1 (by intro u hu;simp at hu;subst hu;rfl) hkb (by omega) (by simp;omega) ?_;intro v2 w7 hown7 hgrow7 hnil7))
   obtain⟨hb7,hf7⟩:=HB.out.more _ hown7 hgrow7
   exact⟨⟨k+1,cs++[ck],by omega,by simp,hb7,HT.out,by simp;omega,HFR.out.trans hf7⟩,by simp;omega⟩
  by_cases q105:l[k]=105
  ·have n82:(((((⟨l.toArray⟩:ByteArray)[k]'hp).toNat:Nat):Int)==82)=false:=by
    rw[hi];simp only[beq_eq_false_iff_ne,ne_eq];intro e;exact q82 (UInt8.toNat_inj.1 (by show _=82;omega))
   have n83:(((((⟨l.toArray⟩:ByteArray)[k]'hp).toNat:Nat):Int)==83)=false:=by
    rw[hi];simp only[beq_eq_false_iff_ne,ne_eq];intro e;exact q83 (UInt8.toNat_inj.1 (by show _=83;omega))
   have n84:(((((⟨l.toArray⟩:ByteArray)[k]'hp).toNat:Nat):Int)==84)=false:=by
    rw[hi];simp only[beq_eq_false_iff_ne,ne_eq];intro e;exact q84 (UInt8.toNat_inj.1 (by show _=84;omega))
   have e105:(((((⟨l.toArray⟩:ByteArray)[k]'hp).toNat:Nat):Int)==105)=true:=by rw[hi,q105];rfl
   have hdq:Hd (docL c l[k]=leN 8 c.n):=by unfold Hd;rw[q105];rfl
   clear q105
   obtain⟨X,hX,hX2,hX3⟩:=u64_nat c.n
   have HT:Hd (cs++leBytes 8 X=bs++[cop]++(l.take (k+1)).flatMap (docL c)):=HTK.out _ (hdq.out.trans (hX3 8))
   have hcall:=add_any u0 cs B X 8 wr hb (by omega) hX2 (by omega)
   clear hi HTK HDL hdq hX3
   go_wp2_with fail
   refine hcall.mono ?_
   rintro e w7 ⟨v7,rfl,hb7,hf7⟩
   clear hcall
   go_wp2_with fail
   exact⟨⟨k+1,_,by omega,by simp,hb7,HT.out,by rw[List.length_append,leBytes_length];omega,HFR.out.trans hf7⟩,by simp;omega⟩
  by_cases q70:l[k]=70
  ·have n82:(((((⟨l.toArray⟩:ByteArray)[k]'hp).toNat:Nat):Int)==82)=false:=by
    rw[hi];simp only[beq_eq_false_iff_ne,ne_eq];intro e;exact q82 (UInt8.toNat_inj.1 (by show _=82;omega))
   have n83:(((((⟨l.toArray⟩:ByteArray)[k]'hp).toNat:Nat):Int)==83)=false:=by
    rw[hi];simp only[beq_eq_false_iff_ne,ne_eq];intro e;exact q83 (UInt8.toNat_inj.1 (by show _=83;omega))
   have n84:(((((⟨l.toArray⟩:ByteArray)[k]'hp).toNat:Nat):Int)==84)=false:=by
    rw[hi];simp only[beq_eq_false_iff_ne,ne_eq];intro e;exact q84 (UInt8.toNat_inj.1 (by show _=84;omega))
   have n105:(((((⟨l.toArray⟩:ByteArray)[k]'hp).toNat:Nat):Int)==105)=false:=by
    rw[hi];simp only[beq_eq_false_iff_ne,ne_eq];intro e;exact q105 (UInt8.toNat_inj.1 (by show _=105;omega))
   have e70:(((((⟨l.toArray⟩:ByteArray)[k]'hp).toNat:Nat):Int)==70)=true:=by rw[hi,q70];rfl
   have hdq:Hd (docL c l[k]=leN 2 c.n):=by unfold Hd;rw[q70];rfl
   clear q70
   obtain⟨X,hX,hX2,hX3⟩:=u64_nat c.n
   have HT:Hd (cs++leBytes 2 X=bs++[cop]++(l.take (k+1)).flatMap (docL c)):=HTK.out _ (hdq.out.trans (hX3 2))
   have hcall:=add_any u0 cs B X 2 wr hb (by omega) hX2 (by omega)
   clear hi HTK HDL hdq hX3
   go_wp2_with fail
   refine hcall.mono ?_
   rintro e w7 ⟨v7,rfl,hb7,hf7⟩
   clear hcall
   go_wp2_with fail
   exact⟨⟨k+1,_,by omega,by simp,hb7,HT.out,by rw[List.length_append,leBytes_length];omega,HFR.out.trans hf7⟩,by simp;omega⟩
  by_cases q74:l[k]=74
  ·have n82:(((((⟨l.toArray⟩:ByteArray)[k]'hp).toNat:Nat):Int)==82)=false:=by
    rw[hi];simp only[beq_eq_false_iff_ne,ne_eq];intro e;exact q82 (UInt8.toNat_inj.1 (by show _=82;omega))
   have n83:(((((⟨l.toArray⟩:ByteArray)[k]'hp).toNat:Nat):Int)==83)=false:=by
    rw[hi];simp only[beq_eq_false_iff_ne,ne_eq];intro e;exact q83 (UInt8.toNat_inj.1 (by show _=83;omega))
   have n84:(((((⟨l.toArray⟩:ByteArray)[k]'hp).toNat:Nat):Int)==84)=false:=by
    rw[hi];simp only[beq_eq_false_iff_ne,ne_eq];intro e;exact q84 (UInt8.toNat_inj.1 (by show _=84;omega))
   have n105:(((((⟨l.toArray⟩:ByteArray)[k]'hp).toNat:Nat):Int)==105)=false:=by
    rw[hi];simp only[beq_eq_false_iff_ne,ne_eq];intro e;exact q105 (UInt8.toNat_inj.1 (by show _=105;omega))
   have n70:(((((⟨l.toArray⟩:ByteArray)[k]'hp).toNat:Nat):Int)==70)=false:=by
    rw[hi];simp only[beq_eq_false_iff_ne,ne_eq];intro e;exact q70 (UInt8.toNat_inj.1 (by show _=70;omega))
   have e74:(((((⟨l.toArray⟩:ByteArray)[k]'hp).toNat:Nat):Int)==74)=true:=by rw[hi,q74];rfl
   have hdq:Hd (docL c l[k]=leN 2 c.n):=by unfold Hd;rw[q74];rfl
   clear q74
   obtain⟨X,hX,hX2,hX3⟩:=u64_nat c.n
   have HT:Hd (cs++leBytes 2 X=bs++[cop]++(l.take (k+1)).flatMap (docL c)):=HTK.out _ (hdq.out.trans (hX3 2))
   have hcall:=add_any u0 cs B X 2 wr hb (by omega) hX2 (by omega)
   clear hi HTK HDL hdq hX3
   go_wp2_with fail
   refine hcall.mono ?_
   rintro e w7 ⟨v7,rfl,hb7,hf7⟩
   clear hcall
   go_wp2_with fail
   exact⟨⟨k+1,_,by omega,by simp,hb7,HT.out,by rw[List.length_append,leBytes_length];omega,HFR.out.trans hf7⟩,by simp;omega⟩
  by_cases q65:l[k]=65
  ·have n82:(((((⟨l.toArray⟩:ByteArray)[k]'hp).toNat:Nat):Int)==82)=false:=by
    rw[hi];simp only[beq_eq_false_iff_ne,ne_eq];intro e;exact q82 (UInt8.toNat_inj.1 (by show _=82;omega))
   have n83:(((((⟨l.toArray⟩:ByteArray)[k]'hp).toNat:Nat):Int)==83)=false:=by
    rw[hi];simp only[beq_eq_false_iff_ne,ne_eq];intro e;exact q83 (UInt8.toNat_inj.1 (by show _=83;omega))
   have n84:(((((⟨l.toArray⟩:ByteArray)[k]'hp).toNat:Nat):Int)==84)=false:=by
    rw[hi];simp only[beq_eq_false_iff_ne,ne_eq];intro e;exact q84 (UInt8.toNat_inj.1 (by show _=84;omega))
   have n105:(((((⟨l.toArray⟩:ByteArray)[k]'hp).toNat:Nat):Int)==105)=false:=by
    rw[hi];simp only[beq_eq_false_iff_ne,ne_eq];intro e;exact q105 (UInt8.toNat_inj.1 (by show _=105;omega))
   have n70:(((((⟨l.toArray⟩:ByteArray)[k]'hp).toNat:Nat):Int)==70)=false:=by
    rw[hi];simp only[beq_eq_false_iff_ne,ne_eq];intro e;exact q70 (UInt8.toNat_inj.1 (by show _=70;omega))
   have n74:(((((⟨l.toArray⟩:ByteArray)[k]'hp).toNat:Nat):Int)==74)=false:=by
    rw[hi];simp only[beq_eq_false_iff_ne,ne_eq];intro e;exact q74 (UInt8.toNat_inj.1 (by show _=74;omega))
   have e65:(((((⟨l.toArray⟩:ByteArray)[k]'hp).toNat:Nat):Int)==65)=true:=by rw[hi,q65];rfl
   have hdq:Hd (docL c l[k]=lst c.args):=by unfold Hd;rw[q65];rfl
   clear q65
   have HT:Hd (cs++lst c.args=bs++[cop]++(l.take (k+1)).flatMap (docL c)):=HTK.out _ hdq.out
   have hcall:=blist_any u0 (.slice aa c.args.length ca) cs c.args B wr hb (HA.out wr (HF1.out.trans HFR.out)) (by omega) HAL.out
   have hln:=lst_len c.args
   have hl255:=HAL.out
   clear hi HTK HDL hdq
   go_wp2_with fail
   refine hcall.mono ?_
   rintro e w7 ⟨v7,rfl,hb7,hf7⟩
   clear hcall
   go_wp2_with fail
   exact⟨⟨k+1,_,by omega,by simp,hb7,HT.out,by rw[List.length_append,hln];omega,HFR.out.trans hf7⟩,by simp;omega⟩
  by_cases q86:l[k]=86
  ·have n82:(((((⟨l.toArray⟩:ByteArray)[k]'hp).toNat:Nat):Int)==82)=false:=by
    rw[hi];simp only[beq_eq_false_iff_ne,ne_eq];intro e;exact q82 (UInt8.toNat_inj.1 (by show _=82;omega))
   have n83:(((((⟨l.toArray⟩:ByteArray)[k]'hp).toNat:Nat):Int)==83)=false:=by
    rw[hi];simp only[beq_eq_false_iff_ne,ne_eq];intro e;exact q83 (UInt8.toNat_inj.1 (by show _=83;omega))
   have n84:(((((⟨l.toArray⟩:ByteArray)[k]'hp).toNat:Nat):Int)==84)=false:=by
    rw[hi];simp only[beq_eq_false_iff_ne,ne_eq];intro e;exact q84 (UInt8.toNat_inj.1 (by show _=84;omega))
   have n105:(((((⟨l.toArray⟩:ByteArray)[k]'hp).toNat:Nat):Int)==105)=false:=by
    rw[hi];simp only[beq_eq_false_iff_ne,ne_eq];intro e;exact q105 (UInt8.toNat_inj.1 (by show _=105;omega))
   have n70:(((((⟨l.toArray⟩:ByteArray)[k]'hp).toNat:Nat):Int)==70)=false:=by
    rw[hi];simp only[beq_eq_false_iff_ne,ne_eq];intro e;exact q70 (UInt8.toNat_inj.1 (by show _=70;omega))
   have n74:(((((⟨l.toArray⟩:ByteArray)[k]'hp).toNat:Nat):Int)==74)=false:=by
    rw[hi];simp only[beq_eq_false_iff_ne,ne_eq];intro e;exact q74 (UInt8.toNat_inj.1 (by show _=74;omega))
   have n65:(((((⟨l.toArray⟩:ByteArray)[k]'hp).toNat:Nat):Int)==65)=false:=by
    rw[hi];simp only[beq_eq_false_iff_ne,ne_eq];intro e;exact q65 (UInt8.toNat_inj.1 (by show _=65;omega))
   have e86:(((((⟨l.toArray⟩:ByteArray)[k]'hp).toNat:Nat):Int)==86)=true:=by rw[hi,q86];rfl
   have hdq:Hd (docL c l[k]=lst c.args):=by unfold Hd;rw[q86];rfl
   clear q86
   have HT:Hd (cs++lst c.args=bs++[cop]++(l.take (k+1)).flatMap (docL c)):=HTK.out _ hdq.out
   have hcall:=blist_any u0 (.slice aa c.args.length ca) cs c.args B wr hb (HA.out wr (HF1.out.trans HFR.out)) (by omega) HAL.out
   have hln:=lst_len c.args
   have hl255:=HAL.out
   clear hi HTK HDL hdq
   go_wp2_with fail
   refine hcall.mono ?_
   rintro e w7 ⟨v7,rfl,hb7,hf7⟩
   clear hcall
   go_wp2_with fail
   exact⟨⟨k+1,_,by omega,by simp,hb7,HT.out,by rw[List.length_append,hln];omega,HFR.out.trans hf7⟩,by simp;omega⟩
  by_cases q66:l[k]=66
  ·have n82:(((((⟨l.toArray⟩:ByteArray)[k]'hp).toNat:Nat):Int)==82)=false:=by
    rw[hi];simp only[beq_eq_false_iff_ne,ne_eq];intro e;exact q82 (UInt8.toNat_inj.1 (by show _=82;omega))
   have n83:(((((⟨l.toArray⟩:ByteArray)[k]'hp).toNat:Nat):Int)==83)=false:=by
    rw[hi];simp only[beq_eq_false_iff_ne,ne_eq];intro e;exact q83 (UInt8.toNat_inj.1 (by show _=83;omega))
   have n84:(((((⟨l.toArray⟩:ByteArray)[k]'hp).toNat:Nat):Int)==84)=false:=by
    rw[hi];simp only[beq_eq_false_iff_ne,ne_eq];intro e;exact q84 (UInt8.toNat_inj.1 (by show _=84;omega))
   have n105:(((((⟨l.toArray⟩:ByteArray)[k]'hp).toNat:Nat):Int)==105)=false:=by
    rw[hi];simp only[beq_eq_false_iff_ne,ne_eq];intro e;exact q105 (UInt8.toNat_inj.1 (by show _=105;omega))
   have n70:(((((⟨l.toArray⟩:ByteArray)[k]'hp).toNat:Nat):Int)==70)=false:=by
    rw[hi];simp only[beq_eq_false_iff_ne,ne_eq];intro e;exact q70 (UInt8.toNat_inj.1 (by show _=70;omega))
   have n74:(((((⟨l.toArray⟩:ByteArray)[k]'hp).toNat:Nat):Int)==74)=false:=by
    rw[hi];simp only[beq_eq_false_iff_ne,ne_eq];intro e;exact q74 (UInt8.toNat_inj.1 (by show _=74;omega))
   have n65:(((((⟨l.toArray⟩:ByteArray)[k]'hp).toNat:Nat):Int)==65)=false:=by
    rw[hi];simp only[beq_eq_false_iff_ne,ne_eq];intro e;exact q65 (UInt8.toNat_inj.1 (by show _=65;omega))
   have n86:(((((⟨l.toArray⟩:ByteArray)[k]'hp).toNat:Nat):Int)==86)=false:=by
    rw[hi];simp only[beq_eq_false_iff_ne,ne_eq];intro e;exact q86 (UInt8.toNat_inj.1 (by show _=86;omega))
   have e66:(((((⟨l.toArray⟩:ByteArray)[k]'hp).toNat:Nat):Int)==66)=true:=by rw[hi,q66];rfl
   have hdq:Hd (docL c l[k]=lst c.rets):=by unfold Hd;rw[q66];rfl
   clear q66
   have HT:Hd (cs++lst c.rets=bs++[cop]++(l.take (k+1)).flatMap (docL c)):=HTK.out _ hdq.out
   have hcall:=blist_any u0 (.slice ra c.rets.length cr) cs c.rets B wr hb (HR.out wr (HF1.out.trans HFR.out)) (by omega) HRL.out
   have hln:=lst_len c.rets
   have hl255:=HRL.out
   clear hi HTK HDL hdq
   go_wp2_with fail
   refine hcall.mono ?_
   rintro e w7 ⟨v7,rfl,hb7,hf7⟩
   clear hcall
   go_wp2_with fail
   exact⟨⟨k+1,_,by omega,by simp,hb7,HT.out,by rw[List.length_append,hln];omega,HFR.out.trans hf7⟩,by simp;omega⟩
  have n82:(((((⟨l.toArray⟩:ByteArray)[k]'hp).toNat:Nat):Int)==82)=false:=by
   rw[hi];simp only[beq_eq_false_iff_ne,ne_eq];intro e;exact q82 (UInt8.toNat_inj.1 (by show _=82;omega))
  have n83:(((((⟨l.toArray⟩:ByteArray)[k]'hp).toNat:Nat):Int)==83)=false:=by
   rw[hi];simp only[beq_eq_false_iff_ne,ne_eq];intro e;exact q83 (UInt8.toNat_inj.1 (by show _=83;omega))
  have n84:(((((⟨l.toArray⟩:ByteArray)[k]'hp).toNat:Nat):Int)==84)=false:=by
   rw[hi];simp only[beq_eq_false_iff_ne,ne_eq];intro e;exact q84 (UInt8.toNat_inj.1 (by show _=84;omega))
  have n105:(((((⟨l.toArray⟩:ByteArray)[k]'hp).toNat:Nat):Int)==105)=false:=by
   rw[hi];simp only[beq_eq_false_iff_ne,ne_eq];intro e;exact q105 (UInt8.toNat_inj.1 (by show _=105;omega))
  have n70:(((((⟨l.toArray⟩:ByteArray)[k]'hp).toNat:Nat):Int)==70)=false:=by
   rw[hi];simp only[beq_eq_false_iff_ne,ne_eq];intro e;exact q70 (UInt8.toNat_inj.1 (by show _=70;omega))
  have n74:(((((⟨l.toArray⟩:ByteArray)[k]'hp).toNat:Nat):Int)==74)=false:=by
   rw[hi];simp only[beq_eq_false_iff_ne,ne_eq];intro e;exact q74 (UInt8.toNat_inj.1 (by show _=74;omega))
  have n65:(((((⟨l.toArray⟩:ByteArray)[k]'hp).toNat:Nat):Int)==65)=false:=by
   rw[hi];simp only[beq_eq_false_iff_ne,ne_eq];intro e;exact q65 (UInt8.toNat_inj.1 (by show _=65;omega))
  have n86:(((((⟨l.toArray⟩:ByteArray)[k]'hp).toNat:Nat):Int)==86)=false:=by
   rw[hi];simp only[beq_eq_false_iff_ne,ne_eq];intro e;exact q86 (UInt8.toNat_inj.1 (by show _=86;omega))
  have n66:(((((⟨l.toArray⟩:ByteArray)[k]'hp).toNat:Nat):Int)==66)=false:=by
   rw[hi];simp only[beq_eq_false_iff_ne,ne_eq];intro e;exact q66 (UInt8.toNat_inj.1 (by show _=66;omega))
  have hdq:Hd (docL c l[k]=leN 1 c.n):=by
   unfold Hd docL
   simp only[q82,q83,q84,q105,q70,q74,q65,q86,q66,if_false,or_self]
  obtain⟨ck,hc1,hl1⟩:=u8_le c.n
  have HL1:Hd (leN 1 c.n=[ck]):=hl1
  have HT:Hd (cs++[ck]=bs++[cop]++(l.take (k+1)).flatMap (docL c)):=HTK.out _ (hdq.out.trans hl1)
  have hcell1:∀ (j:Nat) (u:Value),[u8v ck][j]?=some u→(wr.alloc (.cells #[u8v ck] 5)).cell? ((⟨wr.heap.size,0,none⟩:Addr).add j)=some u:=by
   intro j u hu
   rw[addr_add,World.cell?_alloc_new]
   simpa using hu
  have hkb:cs.length+1≤maxLen:=by unfold maxLen;omega
  clear hi hl1 HTK HDL hdq
  go_wp2_with ((at_builtin;refine wpList_append_own _ rfl (.tmp 25) (.tmp 29) 22 rfl B 5 i5 (.int .u8 0) 1 1 Tryd.underlying22 hi5 hz5 hs5 hb5 rfl (by omega) u0 cs.length _ rfl (hb.1.alloc _) ⟨wr.heap.size,0,none⟩ 1 1 [u8v ck] rfl rfl hcell1 (by intro u hu;simp at hu;subst hu;rfl) hkb (by omega) (by simp;omega) ?_;intro v2 w7 hown7 hgrow7 hnil7))
  obtain⟨hb7,hf7⟩:=HB.out.more _ hown7 hgrow7
  exact⟨⟨k+1,cs++[ck],by omega,by simp,hb7,HT.out,by simp;omega,HFR.out.trans hf7⟩,by simp;omega⟩
end Go.Proofs.YtingenonbkencaaDoor
