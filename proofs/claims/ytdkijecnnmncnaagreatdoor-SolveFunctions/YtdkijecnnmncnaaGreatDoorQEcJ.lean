import Derived.Test.YtdkijecnnmncnaaGreatDoorQN8J
import Derived.BigQuiet
set_option linter.unusedVariables false
set_option linter.unusedSimpArgs false
namespace Go.Proofs.YtdkijecnnmncnaaGreatDoor
open Go.RowKit (wrap32 wrap64)
set_option maxRecDepth 100000
set_option maxHeartbeats 4000000
def SsA (w:World)(v:Value)(ss:List PS):Prop :=
 ∃ a c,v = .slice a ss.length c∧(ss≠[]→∃ k o,a=some ⟨k,o,none⟩∧k<w.heap.size∧∀ j (h:j<ss.length),∃ hv rv,w.cell? ⟨k,o+j*2,none⟩=some hv∧w.cell? ⟨k,o+j*2+1,none⟩=some rv∧IA w hv ss[j].H∧LA w rv ss[j].R)
theorem SsA.stay {w w':World}{v:Value}{ss:List PS}(h:SsA w v ss)(f:Fr (fun _=>False) w w'):SsA w' v ss:=by
 obtain⟨a,c,rfl,h⟩:=h
 refine⟨a,c,rfl,fun hne=>?_⟩
 obtain⟨k,o,rfl,hk,hc⟩:=h hne
 refine⟨k,o,rfl,Nat.lt_of_lt_of_le hk f.size,fun j hj=>?_⟩
 obtain⟨x,y,h1,h2,h3,h4⟩:=hc j hj
 exact⟨x,y,(f.cell hk (fun h=>h)).trans h1,(f.cell hk (fun h=>h)).trans h2,h3.stay f,h4.stay f⟩
def FineS (ss:List PS):Prop:=ss.length≤2932031007317∧∀ s∈ss,s.H.length≤17592186043904∧s.R.length≤5864062014634∧∀ l∈s.R,l.length≤17592186043904
def fitI (fs:List PF)(ss:List PS)(x:PI):Bool:=if x.op=11 then fitsX (ss.getD x.n.toNat ⟨[],[]⟩) (fs.getD x.n.toNat ⟨0,0,0,[]⟩).P (fs.getD x.n.toNat ⟨0,0,0,[]⟩).R else true
def toldX (fs:List PF)(ss:List PS)(c:List PI):Bool:=c.all (fitI fs ss)
theorem told_any (G:Int)(fv sv:Value)(fs:List PF)(ss:List PS)(i:Nat)(hi:i<fs.length)(w:World)(h1:FA w fv fs)(h2:SsA w sv ss)(hls:ss.length=fs.length)(b1:FineP fs)(b2:FineS ss)
 (hcall:∀ c∈fs[i].code,c.op=11→0≤c.n∧c.n<fs.length) :
 Calls Tryz.prog 86 #[.agg #[vI G,fv],vI (i:Int),sv] w fun e w'=>e = .returned (.bool (toldX fs ss fs[i].code))∧Fr (fun _=>False) w w':=by
 obtain⟨W,hW⟩:∃ W,W=w.alloc (.cells #[vI G,fv] 24):=⟨_,rfl⟩
 have HW:Hd (W=w.alloc (.cells #[vI G,fv] 24)):=hW
 have hF:Fr (fun _=>False) w W:=by rw[hW];exact Fr.alloc (Fr.refl _ w) _
 have k1:W.heap[w.heap.size]?=some (.cells #[vI G,fv] 24):=by rw[hW];exact heap_new w _
 obtain⟨X,hX⟩:∃ X,X=w.heap.size:=⟨_,rfl⟩
 have HX:Hd (X=w.heap.size):=hX
 rw[← hX] at k1
 have K1:Hd (W.heap[X]?=some (.cells #[vI G,fv] 24)):=k1
 have H1:Hd (FA W fv fs):=h1.stay hF
 have H2:Hd (SsA W sv ss):=h2.stay hF
 have HF:Hd (Fr (fun _=>False) w W):=hF
 have HBP:Hd (FineP fs):=b1
 have HBS:Hd (FineS ss):=b2
 have HLS:Hd (ss.length=fs.length):=hls
 clear hls
 have HCL:Hd (∀ c∈fs[i].code,c.op=11→0≤c.n∧c.n<fs.length):=hcall
 obtain⟨fa,fc,efv,hfs⟩:=h1.stay hF
 obtain⟨fk,fo,efa,hfk,hfc⟩:=hfs (by intro e;rw[e] at hi;simp at hi)
 obtain⟨cv,f0,f1,f2,f3,hcv⟩:=hfc i hi
 obtain⟨sa,sc,esv,-⟩:=h2
 subst efa efv esv
 have HCV:Hd (CA W cv fs[i].code):=hcv
 obtain⟨ca,cc,ecv,-⟩:=hcv
 subst ecv
 have hi0:(0:Int)≤i:=by omega
 have hi1:(i:Int)<fs.length:=by omega
 have d0:W.cell? ⟨X,0,none⟩=some (vI G):=by rw[cell_of k1];rfl
 have d1:W.cell? ⟨X,1,none⟩=some (.slice (some ⟨fk,fo,none⟩) fs.length fc):=by rw[cell_of k1];rfl
 have hm:fs[i].code.length≤1599289640354:=(b1.2 fs[i] (List.getElem_mem hi)).1
 have HFI:Hd (∀ c∈fs[i].code,c.args.length≤17592186043904∧c.rets.length≤17592186043904):=(b1.2 fs[i] (List.getElem_mem hi)).2
 clear hW hF k1 hX hfs hfc h1 b1 b2 hcall f0 f1 f2
 generalize fs[i].code=cs at *
 go_enter Tryz.func86,Tryz.ntmps86
 go_upto_region 1 with fail
 rw[← HW.out,← HX.out]
 clear HW HX
 go_wp2_with fail
 clear d0 d1 f3
 go_loopw [16] (fun v wr=>∃ (k:Nat),v = .int .i64 k∧k≤cs.length∧Hd (Fr (fun _=>False) W wr)∧Hd ((cs.take k).all (fitI fs ss)=true)) (fun v _=>match v with | .int _ q=>cs.length-q.toNat | _=>0)
 case atStart=>exact⟨0,rfl,by omega,Fr.refl _ _,rfl⟩
 case round =>
  obtain⟨k,rfl,hk,HFr,HA⟩:=hrel
  by_cases hlt:k<cs.length
  ·obtain⟨a',c',e',hcs⟩:=HCV.out.stay HFr.out
   cases e'
   obtain⟨g,o,rfl,hg,hcs⟩:=hcs (by intro e;rw[e] at hlt;simp at hlt)
   obtain⟨av,rv,c0,c1,c2,c3,c4,c5,c6,ha,hr⟩:=hcs k hlt
   obtain⟨aa,ac,rfl,-⟩:=ha
   obtain⟨ra,rc,rfl,-⟩:=hr
   have HS:=all_take_succ cs (fitI fs ss) k hlt
   have HB:Hd (fitI fs ss cs[k]=false→cs.all (fitI fs ss)=false):=fun e=>all_bad (p:=fitI fs ss) hlt e
   have HN:=HCL.out cs[k] (List.getElem_mem hlt)
   have hk0:(0:Int)≤k:=by omega
   have hk1:(k:Int)<cs.length:=by omega
   clear hcs
   generalize cs[k]=x at *
   obtain⟨V,hV⟩:∃ V,V=wr.alloc (.cells #[vI x.op,vI x.r,vI x.s,vI x.t,vI x.n,.slice aa x.args.length ac,.slice ra x.rets.length rc] 79):=⟨_,rfl⟩
   have HV:Hd (V=wr.alloc (.cells #[vI x.op,vI x.r,vI x.s,vI x.t,vI x.n,.slice aa x.args.length ac,.slice ra x.rets.length rc] 79)):=hV
   have hFV:Fr (fun _=>False) wr V:=by rw[hV];exact Fr.alloc (Fr.refl _ wr) _
   have v1:V.heap[wr.heap.size]?=some (.cells #[vI x.op,vI x.r,vI x.s,vI x.t,vI x.n,.slice aa x.args.length ac,.slice ra x.rets.length rc] 79):=by rw[hV];exact heap_new wr _
   obtain⟨Y,hY⟩:∃ Y,Y=wr.heap.size:=⟨_,rfl⟩
   have HY:Hd (Y=wr.heap.size):=hY
   rw[← hY] at v1
   have HFV:Hd (Fr (fun _=>False) W V):=HFr.out.trans hFV
   have y0:V.cell? ⟨Y,0,none⟩=some (vI x.op):=by rw[cell_of v1];rfl
   have y4:V.cell? ⟨Y,4,none⟩=some (vI x.n):=by rw[cell_of v1];rfl
   clear hV hFV v1 hY
   go_upto_region 4 with fail
   rw[← HV.out,← HY.out]
   clear HV HY c0 c1 c2 c3 c4 c5 c6
   by_cases h11:x.op=11
   ·obtain⟨q,hq⟩:∃ q:Nat,x.n=q:=⟨x.n.toNat,by have:=HN h11;omega⟩
    have hqf:q<fs.length:=by have:=HN h11;omega
    have hqs:q<ss.length:=by have:=HLS.out;omega
    have hfit:fitI fs ss x=fitsX ss[q] fs[q].P fs[q].R:=by
     unfold fitI
     rw[if_pos h11,hq]
     simp[hqf,hqs]
    obtain⟨a',c',e',hss⟩:=H2.out.stay HFV.out
    cases e'
    obtain⟨sk,so,rfl,hsk,hss⟩:=hss (by intro e;rw[e] at hqs;simp at hqs)
    obtain⟨hv,rv,s0,s1,hH,hR⟩:=hss q hqs
    obtain⟨a',c',e',hff⟩:=H1.out.stay HFV.out
    cases e'
    obtain⟨fk',fo',e',hfk',hff⟩:=hff (by intro e;rw[e] at hqf;simp at hqf)
    cases e'
    obtain⟨cv,f0,f1,f2,f3,hcv⟩:=hff q hqf
    obtain⟨na,nc,rfl,-⟩:=hcv
    have d1:V.cell? ⟨X,1,none⟩=some (.slice (some ⟨fk,fo,none⟩) fs.length fc):=by rw[HFV.out.cell (heap_lt K1.out) (fun h=>h),cell_of K1.out];rfl
    obtain⟨bs1,bs2,bs3⟩:=HBS.out.2 ss[q] (List.getElem_mem hqs)
    have hct:=fits_any hv rv ss[q] fs[q].P fs[q].R fs[q].V na fs[q].code.length nc V.drew (hH.stay (Fr.refl (fun _=>False) V).drew) (hR.stay (Fr.refl (fun _=>False) V).drew) bs1 (by omega) bs3
    obtain⟨ha,hc,rfl,-⟩:=hH
    obtain⟨la,lc,rfl,-⟩:=hR
    rw[h11] at y0
    rw[hq] at y4
    have hq0:(0:Int)≤q:=by omega
    have hq1:(q:Int)<fs.length:=by omega
    have hq2:(q:Int)<ss.length:=by omega
    clear hss hff HN
    generalize hfx:fitsX ss[q] fs[q].P fs[q].R=fx at *
    generalize fs[q]=fq at *
    generalize ss[q]=sq at *
    refine wp_region_still_tail 15 mixed (by kernel_rfl) ?_
    simp only[List.take_succ_cons,List.take_zero,List.drop_succ_cons,List.drop_zero]
    repeat still_step
    refine wpStill_nil ?_
    go_wp2_with fail
    refine hct.mono ?_
    rintro _ w6 ⟨rfl,hF6⟩
    have HF6:Hd (Fr (fun _=>False) W w6):=HFV.out.trans (((Fr.refl (fun _=>False) V).drew).trans hF6)
    clear hct hF6 y0 y4 s0 s1 f0 f1 f2 f3 d1
    cases fx with
    | true =>
      have HT:Hd ((cs.take (k+1)).all (fitI fs ss)=true):=by unfold Hd;rw[HS,HA.out,hfit];rfl
      clear HS HB hfit hfx
      go_wp2_with fail
      exact⟨⟨k+1,by simp,by omega,HF6,HT⟩,by simp;omega⟩
    | false =>
      have HT:Hd (cs.all (fitI fs ss)=false):=HB.out hfit
      clear HS HB hfit hfx
      go_wp2_with fail
      go_ret
      exact⟨by unfold toldX;rw[HT.out];rfl,HF.out.trans HF6.out⟩
   ·have e1:(x.op==11)=false:=by simpa using h11
    have HT:Hd ((cs.take (k+1)).all (fitI fs ss)=true):=by unfold Hd;rw[HS,HA.out];unfold fitI;rw[if_neg h11];rfl
    clear HS HB HN
    go_quiet (fail)
    go_wp2_with fail
    exact⟨⟨k+1,by simp,by omega,⟨HFV.out.os,HFV.out.tape,HFV.out.output,HFV.out.size,HFV.out.block⟩,HT⟩,by simp;omega⟩
  ·have hke:k=cs.length:=by omega
   subst hke
   go_wp2_with fail
   go_ret
   have:=HA.out
   rw[List.take_of_length_le (Nat.le_refl _)] at this
   exact⟨by unfold toldX;rw[this];rfl,HF.out.trans HFr.out⟩
abbrev InV (V v:Int):Prop:=0≤v∧v≤IntKind.i64.wrap (V-1)
structure Sme (s y:WS):Prop where
 gV:y.fV=s.fV
 gr:y.r=s.r
 gs:y.s=s.s
 gt:y.t=s.t
 gn:y.n=s.n
theorem Sme.refl (s:WS):Sme s s:=⟨rfl,rfl,rfl,rfl,rfl⟩
theorem Sme.trans {a b c:WS}(h:Sme a b)(k:Sme b c):Sme a c:=⟨k.gV.trans h.gV,k.gr.trans h.gr,k.gs.trans h.gs,k.gt.trans h.gt,k.gn.trans h.gn⟩
section
variable {b:Nat} {y:WS × Unit} {x:WS × Unit}
theorem ask_okL {o size:Nat}{c:WS→Bool}{er:Int}(h:askX (leaving b) o size c er x = .ok y):c { x.1 with at':=adv x.1.at' size }=true∧Sme x.1 y.1:=by
 obtain⟨s,u⟩:=x
 have h:=(L_ask o size c er s u).symm.trans h
 split at h
 ·rename_i hc
  cases h
  exact⟨hc,rfl,rfl,rfl,rfl,rfl⟩
 ·cases h
theorem R_ok (h:varPart (leaving b) 155 x = .ok y):InV x.1.fV x.1.r∧Sme x.1 y.1:=by
 obtain⟨h1,h2⟩:=ask_okL h
 exact⟨of_decide_eq_true h1,h2⟩
theorem S_ok (h:varPart (leaving b) 156 x = .ok y):InV x.1.fV x.1.s∧Sme x.1 y.1:=by
 obtain⟨h1,h2⟩:=ask_okL h
 exact⟨of_decide_eq_true h1,h2⟩
theorem T_ok (h:varPart (leaving b) 157 x = .ok y):InV x.1.fV x.1.t∧Sme x.1 y.1:=by
 obtain⟨h1,h2⟩:=ask_okL h
 exact⟨of_decide_eq_true h1,h2⟩
theorem int_ok (h:intPart (leaving b) x = .ok y):True∧Sme x.1 y.1:=by
 obtain⟨s,u⟩:=x
 cases (L_next 158 8 s u).symm.trans h
 exact⟨trivial,rfl,rfl,rfl,rfl,rfl⟩
theorem fields_ok (h:fieldsPart (leaving b) x = .ok y):True∧Sme x.1 y.1:=⟨trivial,(ask_okL h).2⟩
theorem field_ok (h:fieldPart (leaving b) x = .ok y):True∧Sme x.1 y.1:=⟨trivial,(ask_okL h).2⟩
theorem global_ok (h:globalPart (leaving b) x = .ok y):True∧Sme x.1 y.1:=⟨trivial,(ask_okL h).2⟩
theorem target_ok (h:targetPart (leaving b) x = .ok y):True∧Sme x.1 y.1:=⟨trivial,(ask_okL h).2⟩
theorem loc_ok {n p:Int}(h:locX (leaving b) n p x = .ok y):Sme x.1 y.1:=by
 unfold locX at h
 split at h
 ·cases h;exact⟨rfl,rfl,rfl,rfl,rfl⟩
 ·cases h
theorem front_ok {e m nb:Bool}{i:Nat}{p:Int}(h:frontOk (leaving b) e m nb i p x = .ok y):Sme x.1 y.1:=by
 unfold frontOk at h
 split at h
 ·cases h
 ·split at h
  ·cases h
  ·split at h
   ·exact loc_ok (b:=b) h
   ·cases h;exact Sme.refl _
theorem vars_ok : ∀ (l:List Int) (x y:WS × Unit),varsL l x = .ok y→(∀ v∈l,InV x.1.fV v)∧Sme x.1 y.1
 | [],x,y,h=>by cases h;exact⟨fun v hv=>(by cases hv),Sme.refl _⟩
 | v::r,x,y,h=>by
   obtain⟨z,h1,h2⟩:=thenX_ok h
   unfold oneL at h1
   split at h1
   ·rename_i hv
    cases h1
    obtain⟨k1,k2⟩:=vars_ok r _ y h2
    refine⟨fun u hu=>?_,Sme.trans (by exact⟨rfl,rfl,rfl,rfl,rfl⟩) k2⟩
    rcases List.mem_cons.1 hu with rfl | hu
    ·exact of_decide_eq_true hv
    ·exact k1 u hu
   ·cases h1
theorem list_ok {n:Nat}{l:List Int}(h:listL n l x = .ok y):l.length=n∧(∀ v∈l,InV x.1.fV v)∧Sme x.1 y.1:=by
 unfold listL at h
 split at h
 ·rename_i hn
  obtain⟨k1,k2⟩:=vars_ok l _ y h
  exact⟨hn,k1,Sme.trans (by exact⟨rfl,rfl,rfl,rfl,rfl⟩) k2⟩
 ·cases h
structure InsK (heads:List (Nat × Nat))(fR:Nat)(V op r s n:Int)(la lr:List Int):Prop where
 kop:1≤op∧op≤17
 kr:op=2∨op=5∨op=6∨op=7∨op=8→InV V r
 ks:op=2∨op=5∨op=7∨op=8∨op=10→InV V s
 kret:op=15→la.length=fR∧∀ v∈la,InV V v
 kcall:op=11→(0≤n∧n<heads.length)∧la.length=(heads.getD n.toNat (0,0)).1∧lr.length=(heads.getD n.toNat (0,0)).2∧(∀ v∈la,InV V v)∧∀ v∈lr,InV V v
theorem parts1 {c:X (WS × Unit)}(h:partsX (leaving b) 1 c = .ok y):∃ x,c = .ok x∧Sme x.1 y.1∧InV x.1.fV x.1.r:=by
 have h:thenX (thenX (c) (varPart (leaving b) 155)) (intPart (leaving b)) = .ok y:=h
 obtain⟨x1,h1,g1⟩:=thenX_ok h
 obtain⟨x0,h0,g0⟩:=thenX_ok h1
 obtain⟨a0,s0⟩:=R_ok g0
 obtain⟨a1,s1⟩:=int_ok g1
 exact⟨x0,h0,(s0).trans s1,a0⟩
theorem parts2 {c:X (WS × Unit)}(h:partsX (leaving b) 2 c = .ok y):∃ x,c = .ok x∧Sme x.1 y.1∧InV x.1.fV x.1.r∧InV x.1.fV x.1.s:=by
 have h:thenX (thenX (c) (varPart (leaving b) 155)) (varPart (leaving b) 156) = .ok y:=h
 obtain⟨x1,h1,g1⟩:=thenX_ok h
 obtain⟨x0,h0,g0⟩:=thenX_ok h1
 obtain⟨a0,s0⟩:=R_ok g0
 obtain⟨a1,s1⟩:=S_ok g1
 exact⟨x0,h0,(s0).trans s1,a0,(by have e:=s0;rw[← e.gV,← e.gs];exact a1)⟩
theorem parts3 {c:X (WS × Unit)}(h:partsX (leaving b) 3 c = .ok y):∃ x,c = .ok x∧Sme x.1 y.1∧InV x.1.fV x.1.r∧InV x.1.fV x.1.s:=by
 have h:thenX (thenX (thenX (c) (varPart (leaving b) 155)) (varPart (leaving b) 156)) (varPart (leaving b) 157) = .ok y:=h
 obtain⟨x2,h2,g2⟩:=thenX_ok h
 obtain⟨x1,h1,g1⟩:=thenX_ok h2
 obtain⟨x0,h0,g0⟩:=thenX_ok h1
 obtain⟨a0,s0⟩:=R_ok g0
 obtain⟨a1,s1⟩:=S_ok g1
 obtain⟨a2,s2⟩:=T_ok g2
 exact⟨x0,h0,((s0).trans s1).trans s2,a0,(by have e:=s0;rw[← e.gV,← e.gs];exact a1)⟩
theorem parts4 {c:X (WS × Unit)}(h:partsX (leaving b) 4 c = .ok y):∃ x,c = .ok x∧Sme x.1 y.1∧InV x.1.fV x.1.r∧InV x.1.fV x.1.s:=by
 have h:thenX (thenX (thenX (c) (varPart (leaving b) 155)) (varPart (leaving b) 156)) (varPart (leaving b) 157) = .ok y:=h
 obtain⟨x2,h2,g2⟩:=thenX_ok h
 obtain⟨x1,h1,g1⟩:=thenX_ok h2
 obtain⟨x0,h0,g0⟩:=thenX_ok h1
 obtain⟨a0,s0⟩:=R_ok g0
 obtain⟨a1,s1⟩:=S_ok g1
 obtain⟨a2,s2⟩:=T_ok g2
 exact⟨x0,h0,((s0).trans s1).trans s2,a0,(by have e:=s0;rw[← e.gV,← e.gs];exact a1)⟩
theorem parts5 {c:X (WS × Unit)}(h:partsX (leaving b) 5 c = .ok y):∃ x,c = .ok x∧Sme x.1 y.1∧InV x.1.fV x.1.r∧InV x.1.fV x.1.s:=by
 have h:thenX (thenX (c) (varPart (leaving b) 155)) (varPart (leaving b) 156) = .ok y:=h
 obtain⟨x1,h1,g1⟩:=thenX_ok h
 obtain⟨x0,h0,g0⟩:=thenX_ok h1
 obtain⟨a0,s0⟩:=R_ok g0
 obtain⟨a1,s1⟩:=S_ok g1
 exact⟨x0,h0,(s0).trans s1,a0,(by have e:=s0;rw[← e.gV,← e.gs];exact a1)⟩
theorem parts6 {c:X (WS × Unit)}(h:partsX (leaving b) 6 c = .ok y):∃ x,c = .ok x∧Sme x.1 y.1∧InV x.1.fV x.1.r:=by
 have h:thenX (thenX (c) (varPart (leaving b) 155)) (fieldsPart (leaving b)) = .ok y:=h
 obtain⟨x1,h1,g1⟩:=thenX_ok h
 obtain⟨x0,h0,g0⟩:=thenX_ok h1
 obtain⟨a0,s0⟩:=R_ok g0
 obtain⟨a1,s1⟩:=fields_ok g1
 exact⟨x0,h0,(s0).trans s1,a0⟩
theorem parts7 {c:X (WS × Unit)}(h:partsX (leaving b) 7 c = .ok y):∃ x,c = .ok x∧Sme x.1 y.1∧InV x.1.fV x.1.r∧InV x.1.fV x.1.s:=by
 have h:thenX (thenX (thenX (c) (varPart (leaving b) 155)) (varPart (leaving b) 156)) (fieldPart (leaving b)) = .ok y:=h
 obtain⟨x2,h2,g2⟩:=thenX_ok h
 obtain⟨x1,h1,g1⟩:=thenX_ok h2
 obtain⟨x0,h0,g0⟩:=thenX_ok h1
 obtain⟨a0,s0⟩:=R_ok g0
 obtain⟨a1,s1⟩:=S_ok g1
 obtain⟨a2,s2⟩:=field_ok g2
 exact⟨x0,h0,((s0).trans s1).trans s2,a0,(by have e:=s0;rw[← e.gV,← e.gs];exact a1)⟩
theorem parts8 {c:X (WS × Unit)}(h:partsX (leaving b) 8 c = .ok y):∃ x,c = .ok x∧Sme x.1 y.1∧InV x.1.fV x.1.r∧InV x.1.fV x.1.s:=by
 have h:thenX (thenX (thenX (c) (varPart (leaving b) 155)) (varPart (leaving b) 156)) (fieldPart (leaving b)) = .ok y:=h
 obtain⟨x2,h2,g2⟩:=thenX_ok h
 obtain⟨x1,h1,g1⟩:=thenX_ok h2
 obtain⟨x0,h0,g0⟩:=thenX_ok h1
 obtain⟨a0,s0⟩:=R_ok g0
 obtain⟨a1,s1⟩:=S_ok g1
 obtain⟨a2,s2⟩:=field_ok g2
 exact⟨x0,h0,((s0).trans s1).trans s2,a0,(by have e:=s0;rw[← e.gV,← e.gs];exact a1)⟩
theorem parts9 {c:X (WS × Unit)}(h:partsX (leaving b) 9 c = .ok y):∃ x,c = .ok x∧Sme x.1 y.1∧InV x.1.fV x.1.r:=by
 have h:thenX (thenX (c) (varPart (leaving b) 155)) (globalPart (leaving b)) = .ok y:=h
 obtain⟨x1,h1,g1⟩:=thenX_ok h
 obtain⟨x0,h0,g0⟩:=thenX_ok h1
 obtain⟨a0,s0⟩:=R_ok g0
 obtain⟨a1,s1⟩:=global_ok g1
 exact⟨x0,h0,(s0).trans s1,a0⟩
theorem parts10 {c:X (WS × Unit)}(h:partsX (leaving b) 10 c = .ok y):∃ x,c = .ok x∧Sme x.1 y.1∧InV x.1.fV x.1.s:=by
 have h:thenX (thenX (c) (varPart (leaving b) 156)) (globalPart (leaving b)) = .ok y:=h
 obtain⟨x1,h1,g1⟩:=thenX_ok h
 obtain⟨x0,h0,g0⟩:=thenX_ok h1
 obtain⟨a0,s0⟩:=S_ok g0
 obtain⟨a1,s1⟩:=global_ok g1
 exact⟨x0,h0,(s0).trans s1,a0⟩
theorem parts12 {c:X (WS × Unit)}(h:partsX (leaving b) 12 c = .ok y):∃ x,c = .ok x∧Sme x.1 y.1∧InV x.1.fV x.1.s:=by
 have h:thenX (c) (varPart (leaving b) 156) = .ok y:=h
 obtain⟨x0,h0,g0⟩:=thenX_ok h
 obtain⟨a0,s0⟩:=S_ok g0
 exact⟨x0,h0,s0,a0⟩
theorem parts13 {c:X (WS × Unit)}(h:partsX (leaving b) 13 c = .ok y):∃ x,c = .ok x∧Sme x.1 y.1:=by
 have h:thenX (c) (targetPart (leaving b)) = .ok y:=h
 obtain⟨x0,h0,g0⟩:=thenX_ok h
 obtain⟨a0,s0⟩:=target_ok g0
 exact⟨x0,h0,s0⟩
theorem parts14 {c:X (WS × Unit)}(h:partsX (leaving b) 14 c = .ok y):∃ x,c = .ok x∧Sme x.1 y.1∧InV x.1.fV x.1.s:=by
 have h:thenX (thenX (c) (varPart (leaving b) 156)) (targetPart (leaving b)) = .ok y:=h
 obtain⟨x1,h1,g1⟩:=thenX_ok h
 obtain⟨x0,h0,g0⟩:=thenX_ok h1
 obtain⟨a0,s0⟩:=S_ok g0
 obtain⟨a1,s1⟩:=target_ok g1
 exact⟨x0,h0,(s0).trans s1,a0⟩
theorem parts16 {c:X (WS × Unit)}(h:partsX (leaving b) 16 c = .ok y):∃ x,c = .ok x∧Sme x.1 y.1∧InV x.1.fV x.1.r:=by
 have h:thenX (c) (varPart (leaving b) 155) = .ok y:=h
 obtain⟨x0,h0,g0⟩:=thenX_ok h
 obtain⟨a0,s0⟩:=R_ok g0
 exact⟨x0,h0,s0,a0⟩
theorem parts17 {c:X (WS × Unit)}(h:partsX (leaving b) 17 c = .ok y):∃ x,c = .ok x∧Sme x.1 y.1∧InV x.1.fV x.1.r∧InV x.1.fV x.1.s:=by
 have h:thenX (thenX (thenX (c) (varPart (leaving b) 155)) (varPart (leaving b) 156)) (varPart (leaving b) 157) = .ok y:=h
 obtain⟨x2,h2,g2⟩:=thenX_ok h
 obtain⟨x1,h1,g1⟩:=thenX_ok h2
 obtain⟨x0,h0,g0⟩:=thenX_ok h1
 obtain⟨a0,s0⟩:=R_ok g0
 obtain⟨a1,s1⟩:=S_ok g1
 obtain⟨a2,s2⟩:=T_ok g2
 exact⟨x0,h0,((s0).trans s1).trans s2,a0,(by have e:=s0;rw[← e.gV,← e.gs];exact a1)⟩
theorem callee_ok {nf:Nat}(hnf:nf≤65535)(h:calleePart (leaving b) nf x = .ok y):(0≤x.1.n∧x.1.n<nf)∧Sme x.1 y.1:=by
 obtain⟨h1,h2⟩:=ask_okL h
 have h1:0≤x.1.n∧x.1.n≤IntKind.i64.wrap ((nf:Int)-1):=of_decide_eq_true h1
 rw[wrap_small _ (by omega) (by omega)] at h1
 exact⟨by omega,h2⟩
theorem instr_ok {heads:List (Nat × Nat)}{fR i:Nat}{la lr:List Int}{s:WS}(hnf:heads.length≤65535)(h:instrL (b:=b) heads fR i la lr s = .ok y):InsK heads fR s.fV s.op s.r s.s s.n la lr∧Sme s y.1:=by
 unfold instrL at h
 split at h
 ·rename_i hop
  split at h
  ·rename_i e
   obtain⟨x,h1,h2⟩:=thenX_ok (p:=listL fR la) h
   have k1:=front_ok h1
   obtain⟨k2,k3,k4⟩:=list_ok h2
   have k1:Sme s x.1:=⟨k1.gV,k1.gr,k1.gs,k1.gt,k1.gn⟩
   rw[k1.gV] at k3
   exact⟨⟨hop,fun e'=>by omega,fun e'=>by omega,fun _=>⟨k2,k3⟩,fun e'=>by omega⟩,k1.trans k4⟩
  ·split at h
   ·rename_i e
    obtain⟨x,h1,h2⟩:=thenX_ok h
    obtain⟨x0,h0,h1⟩:=thenX_ok h1
    obtain⟨x2,h2,h3⟩:=thenX_ok h2
    have k0:=front_ok h0
    have k0:Sme s x0.1:=⟨k0.gV,k0.gr,k0.gs,k0.gt,k0.gn⟩
    obtain⟨c1,c2⟩:=callee_ok hnf h1
    have k1:=k0.trans c2
    obtain⟨a1,a2,a3⟩:=list_ok h2
    obtain⟨b1,b2,b3⟩:=list_ok h3
    have k2:=k1.trans a3
    rw[k1.gV] at a2
    rw[k2.gV] at b2
    rw[k1.gn] at a1 b1
    rw[k0.gn] at c1
    exact⟨⟨hop,fun e'=>by omega,fun e'=>by omega,fun e'=>by omega,fun _=>⟨c1,a1,b1,a2,b2⟩⟩,k2.trans b3⟩
   ·rename_i n15 n11
    have hop2:s.op=1∨s.op=2∨s.op=3∨s.op=4∨s.op=5∨s.op=6∨s.op=7∨s.op=8∨s.op=9∨s.op=10∨s.op=12∨s.op=13∨s.op=14∨s.op=16∨s.op=17:=by omega
    obtain⟨c,hc⟩:∃ c:X (WS × Unit),c=frontOk (leaving b) (s.op==13) (s.op==6) (nbK s.op.toNat s la.length lr.length) i s.at' ({ s with at':=adv s.at' 1 },()):=⟨_,rfl⟩
    have hc':∀ x,c = .ok x→Sme s x.1:=fun x hx=>by
     rw[hc] at hx
     have k:=front_ok hx
     exact⟨k.gV,k.gr,k.gs,k.gt,k.gn⟩
    rw[← hc] at h
    clear hc
    obtain⟨o,ho⟩:∃ o:Nat,s.op.toNat=o:=⟨_,rfl⟩
    rw[ho] at h
    rcases hop2 with e | e | e | e | e | e | e | e | e | e | e | e | e | e | e
    ·obtain rfl:o=1:=by omega
     obtain⟨x,hx,k,kr⟩:=parts1 h
     have e0:=hc' x hx
     rw[e0.gV,e0.gr] at kr
     exact⟨⟨hop,fun e'=>by omega,fun e'=>by omega,fun e'=>by omega,fun e'=>by omega⟩,e0.trans k⟩
    ·obtain rfl:o=2:=by omega
     obtain⟨x,hx,k,kr,ks⟩:=parts2 h
     have e0:=hc' x hx
     rw[e0.gV,e0.gr] at kr
     rw[e0.gV,e0.gs] at ks
     exact⟨⟨hop,fun _=>kr,fun _=>ks,fun e'=>by omega,fun e'=>by omega⟩,e0.trans k⟩
    ·obtain rfl:o=3:=by omega
     obtain⟨x,hx,k,kr,ks⟩:=parts3 h
     have e0:=hc' x hx
     rw[e0.gV,e0.gr] at kr
     rw[e0.gV,e0.gs] at ks
     exact⟨⟨hop,fun e'=>by omega,fun e'=>by omega,fun e'=>by omega,fun e'=>by omega⟩,e0.trans k⟩
    ·obtain rfl:o=4:=by omega
     obtain⟨x,hx,k,kr,ks⟩:=parts4 h
     have e0:=hc' x hx
     rw[e0.gV,e0.gr] at kr
     rw[e0.gV,e0.gs] at ks
     exact⟨⟨hop,fun e'=>by omega,fun e'=>by omega,fun e'=>by omega,fun e'=>by omega⟩,e0.trans k⟩
    ·obtain rfl:o=5:=by omega
     obtain⟨x,hx,k,kr,ks⟩:=parts5 h
     have e0:=hc' x hx
     rw[e0.gV,e0.gr] at kr
     rw[e0.gV,e0.gs] at ks
     exact⟨⟨hop,fun _=>kr,fun _=>ks,fun e'=>by omega,fun e'=>by omega⟩,e0.trans k⟩
    ·obtain rfl:o=6:=by omega
     obtain⟨x,hx,k,kr⟩:=parts6 h
     have e0:=hc' x hx
     rw[e0.gV,e0.gr] at kr
     exact⟨⟨hop,fun _=>kr,fun e'=>by omega,fun e'=>by omega,fun e'=>by omega⟩,e0.trans k⟩
    ·obtain rfl:o=7:=by omega
     obtain⟨x,hx,k,kr,ks⟩:=parts7 h
     have e0:=hc' x hx
     rw[e0.gV,e0.gr] at kr
     rw[e0.gV,e0.gs] at ks
     exact⟨⟨hop,fun _=>kr,fun _=>ks,fun e'=>by omega,fun e'=>by omega⟩,e0.trans k⟩
    ·obtain rfl:o=8:=by omega
     obtain⟨x,hx,k,kr,ks⟩:=parts8 h
     have e0:=hc' x hx
     rw[e0.gV,e0.gr] at kr
     rw[e0.gV,e0.gs] at ks
     exact⟨⟨hop,fun _=>kr,fun _=>ks,fun e'=>by omega,fun e'=>by omega⟩,e0.trans k⟩
    ·obtain rfl:o=9:=by omega
     obtain⟨x,hx,k,kr⟩:=parts9 h
     have e0:=hc' x hx
     rw[e0.gV,e0.gr] at kr
     exact⟨⟨hop,fun e'=>by omega,fun e'=>by omega,fun e'=>by omega,fun e'=>by omega⟩,e0.trans k⟩
    ·obtain rfl:o=10:=by omega
     obtain⟨x,hx,k,ks⟩:=parts10 h
     have e0:=hc' x hx
     rw[e0.gV,e0.gs] at ks
     exact⟨⟨hop,fun e'=>by omega,fun _=>ks,fun e'=>by omega,fun e'=>by omega⟩,e0.trans k⟩
    ·obtain rfl:o=12:=by omega
     obtain⟨x,hx,k,ks⟩:=parts12 h
     have e0:=hc' x hx
     rw[e0.gV,e0.gs] at ks
     exact⟨⟨hop,fun e'=>by omega,fun e'=>by omega,fun e'=>by omega,fun e'=>by omega⟩,e0.trans k⟩
    ·obtain rfl:o=13:=by omega
     obtain⟨x,hx,k⟩:=parts13 h
     have e0:=hc' x hx
     exact⟨⟨hop,fun e'=>by omega,fun e'=>by omega,fun e'=>by omega,fun e'=>by omega⟩,e0.trans k⟩
    ·obtain rfl:o=14:=by omega
     obtain⟨x,hx,k,ks⟩:=parts14 h
     have e0:=hc' x hx
     rw[e0.gV,e0.gs] at ks
     exact⟨⟨hop,fun e'=>by omega,fun e'=>by omega,fun e'=>by omega,fun e'=>by omega⟩,e0.trans k⟩
    ·obtain rfl:o=16:=by omega
     obtain⟨x,hx,k,kr⟩:=parts16 h
     have e0:=hc' x hx
     rw[e0.gV,e0.gr] at kr
     exact⟨⟨hop,fun e'=>by omega,fun e'=>by omega,fun e'=>by omega,fun e'=>by omega⟩,e0.trans k⟩
    ·obtain rfl:o=17:=by omega
     obtain⟨x,hx,k,kr,ks⟩:=parts17 h
     have e0:=hc' x hx
     rw[e0.gV,e0.gr] at kr
     rw[e0.gV,e0.gs] at ks
     exact⟨⟨hop,fun e'=>by omega,fun e'=>by omega,fun e'=>by omega,fun e'=>by omega⟩,e0.trans k⟩
 ·cases h
end
theorem ask_cnt {b o size:Nat}{c:WS→Bool}{er:Int}{x y:WS × Unit}(h:askX (leaving b) o size c er x = .ok y):y.1.count=x.1.count:=by
 obtain⟨s,u⟩:=x
 have h:=(L_ask o size c er s u).symm.trans h
 split at h
 ·cases h;rfl
 ·cases h
theorem code_ok (b:Nat)(heads:List (Nat × Nat))(hnf:heads.length≤65535)(fR:Nat):∀ (l:List PI) (i:Nat) (s:WS) (y:WS × Unit),codeP b heads fR i l s = .ok y→∀ c∈l,InsK heads fR s.fV c.op c.r c.s c.n c.args c.rets
 | [],_,_,_,_,c,hc=>by cases hc
 | c::r,i,s,y,h,d,hd=>by
   obtain⟨x,h1,h2⟩:=thenX_ok h
   obtain⟨k1,k2⟩:=instr_ok hnf h1
   have e:x.1.fV=s.fV:=k2.gV
   rcases List.mem_cons.1 hd with rfl | hd
   ·exact k1
   ·have:=code_ok b heads hnf fR r (i+1) x.1 y h2 d hd
    rw[e] at this
    exact this
structure FunK (heads:List (Nat × Nat))(f:PF):Prop where
 V:0≤f.V∧f.V≤255
 P:0≤f.P∧f.P≤8
 R:0≤f.R∧f.R≤4
 len:1≤f.code.length∧f.code.length≤4096
 code:∀ c∈f.code,InsK heads f.R.toNat f.V c.op c.r c.s c.n c.args c.rets
theorem head_ok {b:Nat}{s:WS}{y:WS × Unit}(h:headX (leaving b) (s,()) = .ok y):(0≤s.fV∧s.fV≤255)∧(0≤s.fP∧s.fP≤8)∧(0≤s.fR∧s.fR≤4)∧0<s.len∧s.len≤4096:=by
 rw[headX_then] at h
 obtain⟨y1,h1,h⟩:=thenX_ok h
 obtain⟨y2,h2,h⟩:=thenX_ok h
 obtain⟨y3,h3,h⟩:=thenX_ok h
 obtain⟨y4,h4,h⟩:=thenX_ok h
 obtain⟨u,h5,-⟩:=thenX_ok h
 cases (L_next 149 1 s ()).symm.trans h1
 cases (L_next 150 1 _ ()).symm.trans h2
 cases (L_next 151 1 _ ()).symm.trans h3
 cases (L_next 153 2 _ ()).symm.trans h4
 obtain⟨g1,g2,g3,g4,g5⟩:=headOk_ok h5
 refine⟨g1,⟨g2.1,?_⟩,g3,g5,g4⟩
 have g2:=g2.2
 have e:∀ a:Int,(if a<8 then a else 8)≤8:=fun a=>by split<;>omega
 exact Int.le_trans g2 (e _)
theorem heads_ok (b:Nat):∀ (fs:List PF) (s:WS) (y:WS × Unit),headsP b fs s = .ok y→∀ g∈fs,(0≤g.V∧g.V≤255)∧(0≤g.P∧g.P≤8)∧(0≤g.R∧g.R≤4)
 | [],_,_,_,g,hg=>by cases hg
 | f::r,s,y,h,g,hg=>by
   obtain⟨x,h1,h2⟩:=thenX_ok h
   rcases List.mem_cons.1 hg with rfl | hg
   ·obtain⟨k1,k2,k3,-,-⟩:=head_ok h1
    exact⟨k1,k2,k3⟩
   ·exact heads_ok b r x.1 y h2 g hg
theorem check_ok {G:Int}{f:PF}{r:List PF}(h:checkP G (f::r)=0):FunK (headsOfP (f::r)) f∧(f::r).length≤65535∧∀ g∈f::r,(0≤g.V∧g.V≤255)∧(0≤g.P∧g.P≤8)∧(0≤g.R∧g.R≤4):=by
 have ht:=told_overP 0 G (f::r) (WS.start nilS)
 unfold checkP at h
 cases ha:answerP G (f::r) with
 | error z =>
   rw[ha] at h
   exact absurd h (ht z ha)
 | ok y =>
   have ha:overP 0 G (f::r) (WS.start nilS) = .ok y:=ha
   obtain⟨x1,h1,h2⟩:=thenX_ok ha
   obtain⟨x2,h3,h4⟩:=thenX_ok h2
   obtain⟨x3,h5,h6⟩:=thenX_ok h4
   obtain⟨x4,h7,h8⟩:=thenX_ok h5
   obtain⟨x5,h9,h10⟩:=thenX_ok h6
   have hl:(f::r).length≤65535:=by
    have e1:=ask_cnt h1
    have e2:=ask_cnt h3
    have e3:=(ask_okL h3).1
    simp only[decide_eq_true_eq] at e3
    rw[e1] at e3
    have:((f::r).length:Int)≤65535:=e3.2
    omega
   obtain⟨k1,k2,k3,k4,k5⟩:=head_ok h7
   have hh:(headsOfP (f::r)).length≤65535:=by rw[headsOfP,List.length_map];exact hl
   have k4:0<((f.code.length:Nat):Int):=k4
   have k5:((f.code.length:Nat):Int)≤4096:=k5
   exact⟨⟨k1,k2,k3,⟨by omega,by omega⟩,code_ok 0 _ hh _ f.code 0 _ _ h9⟩,hl,heads_ok 0 _ _ _ h5⟩
set_option maxRecDepth 100000
set_option maxHeartbeats 2000000
theorem eqInstr_same (c:PI)(x1 y1 x2 y2:Value)(w:World)(h1:IA w x1 c.args)(h2:IA w y1 c.rets)(h3:IA w x2 c.args)(h4:IA w y2 c.rets)(hla:c.args.length≤17592186043904)(hlr:c.rets.length≤17592186043904) :
 Calls Tryz.prog 170 #[.agg #[vI c.op,vI c.r,vI c.s,vI c.t,vI c.n,x1,y1],.agg #[vI c.op,vI c.r,vI c.s,vI c.t,vI c.n,x2,y2]] w fun e w'=>e = .returned (.bool true)∧Fr (fun _=>False) w w':=by
 obtain⟨a1,b1,e1,-⟩:=id h1
 obtain⟨a2,b2,e2,-⟩:=id h2
 obtain⟨a3,b3,e3,-⟩:=id h3
 obtain⟨a4,b4,e4,-⟩:=id h4
 have hF:Fr (fun _=>False) w ((w.alloc (.cells #[vI c.op,vI c.r,vI c.s,vI c.t,vI c.n,x1,y1] 79)).alloc (.cells #[vI c.op,vI c.r,vI c.s,vI c.t,vI c.n,x2,y2] 79)):=Fr.alloc (Fr.alloc (Fr.refl _ w) _) _
 have HB1:Hd (((w.alloc (.cells #[vI c.op,vI c.r,vI c.s,vI c.t,vI c.n,x1,y1] 79)).alloc (.cells #[vI c.op,vI c.r,vI c.s,vI c.t,vI c.n,x2,y2] 79)).heap[w.heap.size]?=some (.cells #[vI c.op,vI c.r,vI c.s,vI c.t,vI c.n,x1,y1] 79)):=by
  unfold Hd;rw[Go.RowKit.Below.heap_alloc _ _ _ (by simp)];exact heap_new w _
 have HB2:Hd (((w.alloc (.cells #[vI c.op,vI c.r,vI c.s,vI c.t,vI c.n,x1,y1] 79)).alloc (.cells #[vI c.op,vI c.r,vI c.s,vI c.t,vI c.n,x2,y2] 79)).heap[w.heap.size+1]?=some (.cells #[vI c.op,vI c.r,vI c.s,vI c.t,vI c.n,x2,y2] 79)):=by
  unfold Hd;rw[show w.heap.size+1=(w.alloc (.cells #[vI c.op,vI c.r,vI c.s,vI c.t,vI c.n,x1,y1] 79)).heap.size by simp];exact heap_new _ _
 have H1:=h1.stay hF
 have H2:=h2.stay hF
 have H3:=h3.stay hF
 have H4:=h4.stay hF
 have G1:Hd _:=H1
 have G2:Hd _:=H2
 have G3:Hd _:=H3
 have G4:Hd _:=H4
 have HF:Hd _:=hF
 clear h1 h2 h3 h4 H1 H2 H3 H4 hF
 subst e1;subst e2;subst e3;subst e4
 have q0:(c.op==c.op)=true:=by simp
 have q1:(c.r==c.r)=true:=by simp
 have q2:(c.s==c.s)=true:=by simp
 have q3:(c.t==c.t)=true:=by simp
 have q4:(c.n==c.n)=true:=by simp
 go_enter Tryz.func170,Tryz.ntmps170
 go_upto_region 1 with fail
 generalize (w.alloc (.cells #[vI c.op,vI c.r,vI c.s,vI c.t,vI c.n,.slice a1 c.args.length b1,.slice a2 c.rets.length b2] 79)).alloc (.cells #[vI c.op,vI c.r,vI c.s,vI c.t,vI c.n,.slice a3 c.args.length b3,.slice a4 c.rets.length b4] 79)=wa at *
 have c0:wa.cell? ⟨w.heap.size,0,none⟩=some (vI c.op):=by rw[cell_of HB1.out];rfl
 have c1:wa.cell? ⟨w.heap.size,1,none⟩=some (vI c.r):=by rw[cell_of HB1.out];rfl
 have c2:wa.cell? ⟨w.heap.size,2,none⟩=some (vI c.s):=by rw[cell_of HB1.out];rfl
 have c3:wa.cell? ⟨w.heap.size,3,none⟩=some (vI c.t):=by rw[cell_of HB1.out];rfl
 have c4:wa.cell? ⟨w.heap.size,4,none⟩=some (vI c.n):=by rw[cell_of HB1.out];rfl
 have c5:wa.cell? ⟨w.heap.size,5,none⟩=some (.slice a1 c.args.length b1):=by rw[cell_of HB1.out];rfl
 have d0:wa.cell? ⟨w.heap.size+1,0,none⟩=some (vI c.op):=by rw[cell_of HB2.out];rfl
 have d1:wa.cell? ⟨w.heap.size+1,1,none⟩=some (vI c.r):=by rw[cell_of HB2.out];rfl
 have d2:wa.cell? ⟨w.heap.size+1,2,none⟩=some (vI c.s):=by rw[cell_of HB2.out];rfl
 have d3:wa.cell? ⟨w.heap.size+1,3,none⟩=some (vI c.t):=by rw[cell_of HB2.out];rfl
 have d4:wa.cell? ⟨w.heap.size+1,4,none⟩=some (vI c.n):=by rw[cell_of HB2.out];rfl
 have d5:wa.cell? ⟨w.heap.size+1,5,none⟩=some (.slice a3 c.args.length b3):=by rw[cell_of HB2.out];rfl
 go_wp2_with fail
 refine(show Calls Tryz.prog 40 #[.slice a1 c.args.length b1,.slice a3 c.args.length b3] wa _ from eqInts_same _ _ c.args wa G1.out G3.out hla).mono ?_
 rintro e w1 ⟨rfl,hF1⟩
 have G2':Hd (IA w1 (.slice a2 c.rets.length b2) c.rets):=IA.stay G2.out hF1
 have G4':Hd (IA w1 (.slice a4 c.rets.length b4) c.rets):=IA.stay G4.out hF1
 have p6:w1.cell? ⟨w.heap.size,6,none⟩=some (.slice a2 c.rets.length b2):=by rw[hF1.cell (heap_lt HB1.out) (fun e=>e),cell_of HB1.out];rfl
 have r6:w1.cell? ⟨w.heap.size+1,6,none⟩=some (.slice a4 c.rets.length b4):=by rw[hF1.cell (heap_lt HB2.out) (fun e=>e),cell_of HB2.out];rfl
 have HF1:Hd (Fr (fun _=>False) w w1):=HF.out.trans hF1
 clear hF1 c0 c1 c2 c3 c4 c5 d0 d1 d2 d3 d4 d5 HB1 HB2
 go_wp2_with fail
 refine(show Calls Tryz.prog 40 #[.slice a2 c.rets.length b2,.slice a4 c.rets.length b4] w1 _ from eqInts_same _ _ c.rets w1 G2'.out G4'.out hlr).mono ?_
 rintro e w2 ⟨rfl,hF2⟩
 have HF2:Hd (Fr (fun _=>False) w w2):=HF1.out.trans hF2
 clear hF2
 go_wp2_with fail
 go_ret
 exact⟨rfl,HF2.out⟩
theorem eqCode_same (v1 v2:Value)(cs:List PI)(w:World)(h1:CA w v1 cs)(h2:CA w v2 cs)(hn:FineC cs) :
 Calls Tryz.prog 137 #[v1,v2] w fun e w'=>e = .returned (.bool true)∧Fr (fun _=>False) w w':=by
 obtain⟨a1,c1,rfl,hc1⟩:=h1
 obtain⟨a2,c2,rfl,hc2⟩:=h2
 have H1:Hd _:=hc1
 have H2:Hd _:=hc2
 have HFI:Hd (FineC cs):=hn
 have hz:=hn.1
 clear hc1 hc2 hn
 go_enter Tryz.func137,Tryz.ntmps137
 go_wp2_with fail
 go_loopw [5] (fun v wr=>∃ (k:Nat),v = .int .i64 k∧k≤cs.length∧Hd (Fr (fun _=>False) w wr)) (fun v _=>match v with | .int _ q=>cs.length-q.toNat | _=>0)
 case atStart=>exact⟨0,rfl,Nat.zero_le _,Fr.refl _ _⟩
 case round =>
  obtain⟨k,rfl,hk,HF⟩:=hrel
  by_cases hlt:k<cs.length
  ·have hne:cs≠[]:=by intro e;simp[e] at hlt
   obtain⟨k1,o1,rfl,hk1,g1⟩:=H1.out hne
   obtain⟨k2,o2,rfl,hk2,g2⟩:=H2.out hne
   obtain⟨x1,y1,p0,p1,p2,p3,p4,p5,p6,ix1,iy1⟩:=g1 k hlt
   obtain⟨x2,y2,q0,q1,q2,q3,q4,q5,q6,ix2,iy2⟩:=g2 k hlt
   have m1:=fun o=>HF.out.cell (o:=o) hk1 (fun h=>h)
   have m2:=fun o=>HF.out.cell (o:=o) hk2 (fun h=>h)
   have p0:=(m1 _).trans p0
   have p1:=(m1 _).trans p1
   have p2:=(m1 _).trans p2
   have p3:=(m1 _).trans p3
   have p4:=(m1 _).trans p4
   have p5:=(m1 _).trans p5
   have p6:=(m1 _).trans p6
   have q0:=(m2 _).trans q0
   have q1:=(m2 _).trans q1
   have q2:=(m2 _).trans q2
   have q3:=(m2 _).trans q3
   have q4:=(m2 _).trans q4
   have q5:=(m2 _).trans q5
   have q6:=(m2 _).trans q6
   have X1:Hd (IA wr x1 cs[k].args):=ix1.stay HF.out
   have Y1:Hd (IA wr y1 cs[k].rets):=iy1.stay HF.out
   have X2:Hd (IA wr x2 cs[k].args):=ix2.stay HF.out
   have Y2:Hd (IA wr y2 cs[k].rets):=iy2.stay HF.out
   have HC:Hd (cs[k].args.length≤17592186043904∧cs[k].rets.length≤17592186043904):=HFI.out.2 _ (List.getElem_mem hlt)
   generalize cs[k]=c at *
   obtain⟨a,b,e1,-⟩:=ix1
   obtain⟨a',b',e2,-⟩:=iy1
   obtain⟨a'',b'',e3,-⟩:=ix2
   obtain⟨a3,b3,e4,-⟩:=iy2
   subst e1;subst e2;subst e3;subst e4
   have hk0:(0:Int)≤k:=by omega
   have hk3:(k:Int)<cs.length:=by omega
   clear g1 g2 m1 m2
   go_wp2_with fail
   refine wp_region_still_tail 8 mixed (by kernel_rfl) ?_
   simp only[List.take_succ_cons,List.take_zero,List.drop_succ_cons,List.drop_zero]
   repeat still_step
   refine wpStill_nil ?_
   go_wp2_with fail
   refine(show Calls Tryz.prog 170 #[.agg #[vI c.op,vI c.r,vI c.s,vI c.t,vI c.n,.slice a c.args.length b,.slice a' c.rets.length b'],.agg #[vI c.op,vI c.r,vI c.s,vI c.t,vI c.n,.slice a'' c.args.length b'',.slice a3 c.rets.length b3]] wr.drew _ from eqInstr_same c _ _ _ _ wr.drew X1.out Y1.out X2.out Y2.out (by have:=HC.out;omega) (by have:=HC.out;omega)).mono ?_
   rintro e w1 ⟨rfl,hF1⟩
   have HF1:Hd (Fr (fun _=>False) w w1):=HF.out.drew.trans hF1
   clear hF1 p0 p1 p2 p3 p4 p5 p6 q0 q1 q2 q3 q4 q5 q6
   go_wp2_with fail
   exact⟨⟨k+1,by simp,by omega,HF1.out⟩,by simp;omega⟩
  ·have hke:k=cs.length:=by omega
   subst hke
   go_wp2_with fail
   go_ret
   exact⟨rfl,HF.out⟩
theorem eqFunc_same (f:PF)(x1 x2:Value)(w:World)(h1:CA w x1 f.code)(h3:CA w x2 f.code)(hn:FineC f.code) :
 Calls Tryz.prog 100 #[.agg #[vI f.P,vI f.R,vI f.V,x1],.agg #[vI f.P,vI f.R,vI f.V,x2]] w fun e w'=>e = .returned (.bool true)∧Fr (fun _=>False) w w':=by
 obtain⟨a1,b1,e1,-⟩:=id h1
 obtain⟨a3,b3,e3,-⟩:=id h3
 have hF:Fr (fun _=>False) w ((w.alloc (.cells #[vI f.P,vI f.R,vI f.V,x1] 45)).alloc (.cells #[vI f.P,vI f.R,vI f.V,x2] 45)):=Fr.alloc (Fr.alloc (Fr.refl _ w) _) _
 have HB1:Hd (((w.alloc (.cells #[vI f.P,vI f.R,vI f.V,x1] 45)).alloc (.cells #[vI f.P,vI f.R,vI f.V,x2] 45)).heap[w.heap.size]?=some (.cells #[vI f.P,vI f.R,vI f.V,x1] 45)):=by
  unfold Hd;rw[Go.RowKit.Below.heap_alloc _ _ _ (by simp)];exact heap_new w _
 have HB2:Hd (((w.alloc (.cells #[vI f.P,vI f.R,vI f.V,x1] 45)).alloc (.cells #[vI f.P,vI f.R,vI f.V,x2] 45)).heap[w.heap.size+1]?=some (.cells #[vI f.P,vI f.R,vI f.V,x2] 45)):=by
  unfold Hd;rw[show w.heap.size+1=(w.alloc (.cells #[vI f.P,vI f.R,vI f.V,x1] 45)).heap.size by simp];exact heap_new _ _
 have H1:=h1.stay hF
 have H3:=h3.stay hF
 have G1:Hd _:=H1
 have G3:Hd _:=H3
 have HF:Hd _:=hF
 clear h1 h3 H1 H3 hF
 subst e1;subst e3
 have q0:(f.P==f.P)=true:=by simp
 have q1:(f.R==f.R)=true:=by simp
 have q2:(f.V==f.V)=true:=by simp
 go_enter Tryz.func100,Tryz.ntmps100
 go_upto_region 1 with fail
 generalize (w.alloc (.cells #[vI f.P,vI f.R,vI f.V,.slice a1 f.code.length b1] 45)).alloc (.cells #[vI f.P,vI f.R,vI f.V,.slice a3 f.code.length b3] 45)=wa at *
 have c0:wa.cell? ⟨w.heap.size,0,none⟩=some (vI f.P):=by rw[cell_of HB1.out];rfl
 have c1:wa.cell? ⟨w.heap.size,1,none⟩=some (vI f.R):=by rw[cell_of HB1.out];rfl
 have c2:wa.cell? ⟨w.heap.size,2,none⟩=some (vI f.V):=by rw[cell_of HB1.out];rfl
 have c3:wa.cell? ⟨w.heap.size,3,none⟩=some (.slice a1 f.code.length b1):=by rw[cell_of HB1.out];rfl
 have d0:wa.cell? ⟨w.heap.size+1,0,none⟩=some (vI f.P):=by rw[cell_of HB2.out];rfl
 have d1:wa.cell? ⟨w.heap.size+1,1,none⟩=some (vI f.R):=by rw[cell_of HB2.out];rfl
 have d2:wa.cell? ⟨w.heap.size+1,2,none⟩=some (vI f.V):=by rw[cell_of HB2.out];rfl
 have d3:wa.cell? ⟨w.heap.size+1,3,none⟩=some (.slice a3 f.code.length b3):=by rw[cell_of HB2.out];rfl
 go_wp2_with fail
 refine(show Calls Tryz.prog 137 #[.slice a1 f.code.length b1,.slice a3 f.code.length b3] wa _ from eqCode_same _ _ f.code wa G1.out G3.out hn).mono ?_
 rintro e w1 ⟨rfl,hF1⟩
 have HF1:Hd (Fr (fun _=>False) w w1):=HF.out.trans hF1
 clear hF1 c0 c1 c2 c3 d0 d1 d2 d3 HB1 HB2
 go_wp2_with fail
 go_ret
 exact⟨rfl,HF1.out⟩
end Go.Proofs.YtdkijecnnmncnaaGreatDoor
