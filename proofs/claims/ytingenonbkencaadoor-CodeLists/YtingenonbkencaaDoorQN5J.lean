import Derived.Test.YtingenonbkencaaDoorQN4
import Derived.Test.YtingenonbkencaaDoorQE6J
import Derived.Test.YtingenonbkencaaDoorQW3J
import Derived.Test.YtingenonbkencaaDoorQA3J
import Derived.Test.YtingenonbkencaaDoorQK5a
import Derived.Test.YtingenonbkencaaDoorQK5b
import Derived.Test.YtingenonbkencaaDoorQK5c
import Derived.Test.YtingenonbkencaaDoorQK5d
import Derived.Test.YtingenonbkencaaDoorQK5e
import Derived.Test.YtingenonbkencaaDoorQK5f
set_option linter.unusedVariables false
set_option linter.unusedSimpArgs false
namespace Go.Proofs.YtingenonbkencaaDoor
open Go.RowKit (wrap32 wrap64)
theorem SimX.err {z:Int × Int}{T:X (WS × Unit)}(h:SimX (.error z) T):T = .error z:=by
 cases T with
 | ok y=>exact h.elim
 | error z'=>exact congrArg _ (Eq.symm h)
theorem SimX.okk {y:WS × Unit}{T:X (WS × Unit)}(h:SimX (.ok y) T):∃ y',T = .ok y'∧y.1.bare=y'.1.bare:=by
 cases T with
 | ok y'=>exact⟨y',rfl,h⟩
 | error z'=>exact h.elim
def inF (f:PF)(s:WS):WS:={ s with fP:=f.P,fR:=f.R,fV:=f.V,fC:=nilS,len:=(f.code.length:Nat) }
def inI (c:PI)(s:WS):WS:={ s with op:=c.op,r:=c.r,s:=c.s,t:=c.t,n:=c.n,args:=nilS,rets:=nilS }
def headsP (b:Nat):List PF→WS→X (WS × Unit)
 | [],s=>.ok (s,())
 | f::r,s=>thenX (headX (leaving b) (inF f s,())) fun y=>headsP b r y.1
def codeP (b:Nat)(heads:List (Nat × Nat))(fR:Nat):Nat→List PI→WS→X (WS × Unit)
 | _,[],s=>.ok (s,())
 | i,c::r,s=>thenX (instrL (b:=b) heads fR i c.args c.rets (inI c s)) fun y=>codeP b heads fR (i+1) r y.1
def funcsP (b:Nat)(heads:List (Nat × Nat)):List PF→WS→X (WS × Unit)
 | [],s=>.ok (s,())
 | f::r,s=>thenX (codeP b heads f.R.toNat 0 f.code (inF f s)) fun y=>funcsP b heads r y.1
def headsOfP (fs:List PF):List (Nat × Nat):=fs.map fun f=>(f.P.toNat,f.R.toNat)
def overP (b:Nat)(G:Int)(fs:List PF)(s:WS):X (WS × Unit) :=
 thenX (askX (leaving b) 146 1 (fun s=>decide (0≤s.globals∧s.globals≤16)) 18 ({ s with globals:=G,count:=(fs.length:Nat) },())) fun y =>
  thenX (askX (leaving b) 161 2 (fun s=>decide (1≤s.count∧s.count≤65535)) 20 y) fun y =>
   thenX (headsP b fs y.1) fun y=>funcsP b (headsOfP fs) fs y.1
theorem inF_bare {s s':WS}(f:PF)(h:s.bare=s'.bare):(inF f s).bare=(inF f s').bare:=(congrArg (fun t:WS=>inF f t) h:inF f s.bare=inF f s'.bare)
theorem inI_bare {s s':WS}(c:PI)(h:s.bare=s'.bare):(inI c s).bare=(inI c s').bare:=(congrArg (fun t:WS=>inI c t) h:inI c s.bare=inI c s'.bare)
theorem sim_headsP (b:Nat):∀ (fs:List PF) (s s':WS),s.bare=s'.bare→SimX (headsP b fs s) (headsP b fs s')
 | [],_,_,h=>h
 | f::r,s,s',h=>SimX.then (sim_head (b:=b) (inF f s,()) (inF f s',()) (inF_bare f h)) (fun y y' hy=>sim_headsP b r y.1 y'.1 hy)
theorem sim_codeP (b:Nat)(heads:List (Nat × Nat))(fR:Nat):∀ (l:List PI) (i:Nat) (s s':WS),s.bare=s'.bare→SimX (codeP b heads fR i l s) (codeP b heads fR i l s')
 | [],_,_,_,h=>h
 | c::r,i,s,s',h=>SimX.then (sim_instr (b:=b) heads fR i c.args c.rets (inI c s) (inI c s') (inI_bare c h)) (fun y y' hy=>sim_codeP b heads fR r (i+1) y.1 y'.1 hy)
theorem sim_funcsP (b:Nat)(heads:List (Nat × Nat)):∀ (fs:List PF) (s s':WS),s.bare=s'.bare→SimX (funcsP b heads fs s) (funcsP b heads fs s')
 | [],_,_,h=>h
 | f::r,s,s',h=>SimX.then (sim_codeP b heads f.R.toNat f.code 0 (inF f s) (inF f s') (inF_bare f h)) (fun y y' hy=>sim_funcsP b heads r y.1 y'.1 hy)
def FineF (f:PF):Prop:=(0≤f.V∧f.V≤255)∧(0≤f.P∧f.P≤8)∧(0≤f.R∧f.R≤4)∧0<f.code.length∧f.code.length≤4096
theorem L_head_state {b:Nat}{x y:WS × Unit}(h:headX (leaving b) x = .ok y):y.1.fP=x.1.fP∧y.1.fR=x.1.fR∧y.1.fV=x.1.fV∧y.1.len=x.1.len∧y.1.fC=x.1.fC∧y.1.funcs=x.1.funcs:=by
 obtain⟨s,u⟩:=x
 have h:=(headX_then (leaving b) (s,u)).symm.trans h
 rw[L_next] at h
 simp only[thenX] at h
 rw[L_next] at h
 simp only at h
 rw[L_next] at h
 simp only at h
 rw[L_next] at h
 simp only at h
 split at h
 ·unfold locX at h
  split at h
  ·cases h;exact⟨rfl,rfl,rfl,rfl,rfl,rfl⟩
  ·cases h
 ·cases h
theorem head_fine {b:Nat}{f:PF}{s:WS}{y:WS × Unit}(hP:s.fP=f.P)(hR:s.fR=f.R)(hV:s.fV=f.V)(hl:s.len=(f.code.length:Nat))(h:headX (leaving b) (s,()) = .ok y):FineF f:=by
 obtain⟨-,h1,h2,h3,h4,h5⟩:=headX_ok h
 obtain⟨e1,e2,e3,e4,-⟩:=L_head_state h
 rw[e3,hV] at h1
 rw[e1,hP] at h2
 rw[e2,hR] at h3
 rw[e4,hl] at h4 h5
 exact⟨h1,h2,h3,by omega,by omega⟩
abbrev iR (c:PI)(p:Value × Value):List Value:=[vI c.op,vI c.r,vI c.s,vI c.t,vI c.n,p.1,p.2]
def CA (w:World)(v:Value)(cs:List PI):Prop :=
 ∃ a cp,v = .slice a cs.length cp∧(cs≠[]→∃ k o,a=some ⟨k,o,none⟩∧k<w.heap.size∧∀ j (h:j<cs.length),∃ av rv,
  w.cell? ⟨k,o+j*7,none⟩=some (vI cs[j].op)∧w.cell? ⟨k,o+j*7+1,none⟩=some (vI cs[j].r)∧w.cell? ⟨k,o+j*7+2,none⟩=some (vI cs[j].s)∧w.cell? ⟨k,o+j*7+3,none⟩=some (vI cs[j].t)∧w.cell? ⟨k,o+j*7+4,none⟩=some (vI cs[j].n) ∧
  w.cell? ⟨k,o+j*7+5,none⟩=some av∧w.cell? ⟨k,o+j*7+6,none⟩=some rv∧IA w av cs[j].args∧IA w rv cs[j].rets)
theorem CA.stay {w w':World}{v:Value}{cs:List PI}(h:CA w v cs)(f:Fr (fun _=>False) w w'):CA w' v cs:=by
 obtain⟨a,cp,rfl,h⟩:=h
 refine⟨a,cp,rfl,fun hne=>?_⟩
 obtain⟨k,o,rfl,hk,hc⟩:=h hne
 refine⟨k,o,rfl,Nat.lt_of_lt_of_le hk f.size,fun j hj=>?_⟩
 obtain⟨av,rv,h1,h2,h3,h4,h5,h6,h7,h8,h9⟩:=hc j hj
 have g:∀ o,w'.cell? ⟨k,o,none⟩=w.cell? ⟨k,o,none⟩:=fun o=>f.cell hk (fun h=>h)
 exact⟨av,rv,(g _).trans h1,(g _).trans h2,(g _).trans h3,(g _).trans h4,(g _).trans h5,(g _).trans h6,(g _).trans h7,h8.stay f,h9.stay f⟩
def FineC (cs:List PI):Prop:=cs.length≤1599289640354∧∀ c∈cs,c.args.length≤17592186043904∧c.rets.length≤17592186043904
theorem under65 : Tryd.prog.underlying 65=some (.slice 71):=by kernel_rfl
def sev7 (w:World)(g q:Nat)(x:List Value):World :=
 ((((((w.setCell ⟨g,q,none⟩ (x.getD 0 undef)).setCell ⟨g,q+1,none⟩ (x.getD 1 undef)).setCell ⟨g,q+2,none⟩ (x.getD 2 undef)).setCell ⟨g,q+3,none⟩ (x.getD 3 undef)).setCell ⟨g,q+4,none⟩ (x.getD 4 undef)).setCell ⟨g,q+5,none⟩ (x.getD 5 undef)).setCell ⟨g,q+6,none⟩ (x.getD 6 undef)
theorem sev7_fr (w:World)(g q:Nat)(x:List Value):Fr (fun k=>k=g) w (sev7 w g q x):=by
 unfold sev7
 refine Fr.setCell (S:=fun k=>k=g) ?_ _ _ (Or.inl rfl)
 refine Fr.setCell (S:=fun k=>k=g) ?_ _ _ (Or.inl rfl)
 refine Fr.setCell (S:=fun k=>k=g) ?_ _ _ (Or.inl rfl)
 refine Fr.setCell (S:=fun k=>k=g) ?_ _ _ (Or.inl rfl)
 refine Fr.setCell (S:=fun k=>k=g) ?_ _ _ (Or.inl rfl)
 refine Fr.setCell (S:=fun k=>k=g) ?_ _ _ (Or.inl rfl)
 refine Fr.setCell (S:=fun k=>k=g) ?_ _ _ (Or.inl rfl)
 exact Fr.refl _ _
abbrev fR (f:PF)(cv:Value):List Value:=[vI f.P,vI f.R,vI f.V,cv]
def FA (w:World)(v:Value)(fs:List PF):Prop :=
 ∃ a cp,v = .slice a fs.length cp∧(fs≠[]→∃ k o,a=some ⟨k,o,none⟩∧k<w.heap.size∧∀ j (h:j<fs.length),∃ cv,
  w.cell? ⟨k,o+j*4,none⟩=some (vI fs[j].P)∧w.cell? ⟨k,o+j*4+1,none⟩=some (vI fs[j].R)∧w.cell? ⟨k,o+j*4+2,none⟩=some (vI fs[j].V)∧w.cell? ⟨k,o+j*4+3,none⟩=some cv∧CA w cv fs[j].code)
theorem FA.stay {w w':World}{v:Value}{fs:List PF}(h:FA w v fs)(f:Fr (fun _=>False) w w'):FA w' v fs:=by
 obtain⟨a,cp,rfl,h⟩:=h
 refine⟨a,cp,rfl,fun hne=>?_⟩
 obtain⟨k,o,rfl,hk,hc⟩:=h hne
 refine⟨k,o,rfl,Nat.lt_of_lt_of_le hk f.size,fun j hj=>?_⟩
 obtain⟨cv,h1,h2,h3,h4,h5⟩:=hc j hj
 have g:∀ o,w'.cell? ⟨k,o,none⟩=w.cell? ⟨k,o,none⟩:=fun o=>f.cell hk (fun h=>h)
 exact⟨cv,(g _).trans h1,(g _).trans h2,(g _).trans h3,(g _).trans h4,h5.stay f⟩
def FineP (fs:List PF):Prop:=fs.length≤2932031007317∧∀ f∈fs,FineC f.code
theorem under24 : Tryd.prog.underlying 24=some (.slice 67):=by kernel_rfl
def fou4 (w:World)(g q:Nat)(x:List Value):World :=
 (((w.setCell ⟨g,q,none⟩ (x.getD 0 undef)).setCell ⟨g,q+1,none⟩ (x.getD 1 undef)).setCell ⟨g,q+2,none⟩ (x.getD 2 undef)).setCell ⟨g,q+3,none⟩ (x.getD 3 undef)
theorem fou4_fr (w:World)(g q:Nat)(x:List Value):Fr (fun k=>k=g) w (fou4 w g q x):=by
 unfold fou4
 refine Fr.setCell (S:=fun k=>k=g) ?_ _ _ (Or.inl rfl)
 refine Fr.setCell (S:=fun k=>k=g) ?_ _ _ (Or.inl rfl)
 refine Fr.setCell (S:=fun k=>k=g) ?_ _ _ (Or.inl rfl)
 refine Fr.setCell (S:=fun k=>k=g) ?_ _ _ (Or.inl rfl)
 exact Fr.refl _ _
set_option maxRecDepth 100000
set_option maxHeartbeats 2000000
theorem eqInstr_same (c:PI)(x1 y1 x2 y2:Value)(w:World)(h1:IA w x1 c.args)(h2:IA w y1 c.rets)(h3:IA w x2 c.args)(h4:IA w y2 c.rets)(hla:c.args.length≤17592186043904)(hlr:c.rets.length≤17592186043904) :
 Calls Tryd.prog 102 #[.agg #[vI c.op,vI c.r,vI c.s,vI c.t,vI c.n,x1,y1],.agg #[vI c.op,vI c.r,vI c.s,vI c.t,vI c.n,x2,y2]] w fun e w'=>e = .returned (.bool true)∧Fr (fun _=>False) w w':=by
 obtain⟨a1,b1,e1,-⟩:=id h1
 obtain⟨a2,b2,e2,-⟩:=id h2
 obtain⟨a3,b3,e3,-⟩:=id h3
 obtain⟨a4,b4,e4,-⟩:=id h4
 have hF:Fr (fun _=>False) w ((w.alloc (.cells #[vI c.op,vI c.r,vI c.s,vI c.t,vI c.n,x1,y1] 71)).alloc (.cells #[vI c.op,vI c.r,vI c.s,vI c.t,vI c.n,x2,y2] 71)):=Fr.alloc (Fr.alloc (Fr.refl _ w) _) _
 have HB1:Hd (((w.alloc (.cells #[vI c.op,vI c.r,vI c.s,vI c.t,vI c.n,x1,y1] 71)).alloc (.cells #[vI c.op,vI c.r,vI c.s,vI c.t,vI c.n,x2,y2] 71)).heap[w.heap.size]?=some (.cells #[vI c.op,vI c.r,vI c.s,vI c.t,vI c.n,x1,y1] 71)):=by
  unfold Hd;rw[Go.RowKit.Below.heap_alloc _ _ _ (by simp)];exact heap_new w _
 have HB2:Hd (((w.alloc (.cells #[vI c.op,vI c.r,vI c.s,vI c.t,vI c.n,x1,y1] 71)).alloc (.cells #[vI c.op,vI c.r,vI c.s,vI c.t,vI c.n,x2,y2] 71)).heap[w.heap.size+1]?=some (.cells #[vI c.op,vI c.r,vI c.s,vI c.t,vI c.n,x2,y2] 71)):=by
  unfold Hd;rw[show w.heap.size+1=(w.alloc (.cells #[vI c.op,vI c.r,vI c.s,vI c.t,vI c.n,x1,y1] 71)).heap.size by simp];exact heap_new _ _
 have H1:=h1.stay hF
 have H2:=h2.stay hF
 have H3:=h3.stay hF
 have H4:=h4.stay hF
 have G1:Hd _:=H1
 have G2:Hd _:=H2
 have G3:Hd _:=H3
 have G4:Hd _:=H4
 have HF:Hd _:=hF
 clear h1 h2 h3 h4 H1 H2 H3 H4 hF
 subst e1;subst e2;subst e3;subst e4
 have q0:(c.op==c.op)=true:=by simp
 have q1:(c.r==c.r)=true:=by simp
 have q2:(c.s==c.s)=true:=by simp
 have q3:(c.t==c.t)=true:=by simp
 have q4:(c.n==c.n)=true:=by simp
 go_enter Tryd.func102,Tryd.ntmps102
 go_upto_region 1 with fail
 generalize (w.alloc (.cells #[vI c.op,vI c.r,vI c.s,vI c.t,vI c.n,.slice a1 c.args.length b1,.slice a2 c.rets.length b2] 71)).alloc (.cells #[vI c.op,vI c.r,vI c.s,vI c.t,vI c.n,.slice a3 c.args.length b3,.slice a4 c.rets.length b4] 71)=wa at *
 have c0:wa.cell? ⟨w.heap.size,0,none⟩=some (vI c.op):=by rw[cell_of HB1.out];rfl
 have c1:wa.cell? ⟨w.heap.size,1,none⟩=some (vI c.r):=by rw[cell_of HB1.out];rfl
 have c2:wa.cell? ⟨w.heap.size,2,none⟩=some (vI c.s):=by rw[cell_of HB1.out];rfl
 have c3:wa.cell? ⟨w.heap.size,3,none⟩=some (vI c.t):=by rw[cell_of HB1.out];rfl
 have c4:wa.cell? ⟨w.heap.size,4,none⟩=some (vI c.n):=by rw[cell_of HB1.out];rfl
 have c5:wa.cell? ⟨w.heap.size,5,none⟩=some (.slice a1 c.args.length b1):=by rw[cell_of HB1.out];rfl
 have d0:wa.cell? ⟨w.heap.size+1,0,none⟩=some (vI c.op):=by rw[cell_of HB2.out];rfl
 have d1:wa.cell? ⟨w.heap.size+1,1,none⟩=some (vI c.r):=by rw[cell_of HB2.out];rfl
 have d2:wa.cell? ⟨w.heap.size+1,2,none⟩=some (vI c.s):=by rw[cell_of HB2.out];rfl
 have d3:wa.cell? ⟨w.heap.size+1,3,none⟩=some (vI c.t):=by rw[cell_of HB2.out];rfl
 have d4:wa.cell? ⟨w.heap.size+1,4,none⟩=some (vI c.n):=by rw[cell_of HB2.out];rfl
 have d5:wa.cell? ⟨w.heap.size+1,5,none⟩=some (.slice a3 c.args.length b3):=by rw[cell_of HB2.out];rfl
 go_wp2_with fail
 refine(show Calls Tryd.prog 105 #[.slice a1 c.args.length b1,.slice a3 c.args.length b3] wa _ from eqInts_same _ _ c.args wa G1.out G3.out hla).mono ?_
 rintro e w1 ⟨rfl,hF1⟩
 have G2':Hd (IA w1 (.slice a2 c.rets.length b2) c.rets):=IA.stay G2.out hF1
 have G4':Hd (IA w1 (.slice a4 c.rets.length b4) c.rets):=IA.stay G4.out hF1
 have p6:w1.cell? ⟨w.heap.size,6,none⟩=some (.slice a2 c.rets.length b2):=by rw[hF1.cell (heap_lt HB1.out) (fun e=>e),cell_of HB1.out];rfl
 have r6:w1.cell? ⟨w.heap.size+1,6,none⟩=some (.slice a4 c.rets.length b4):=by rw[hF1.cell (heap_lt HB2.out) (fun e=>e),cell_of HB2.out];rfl
 have HF1:Hd (Fr (fun _=>False) w w1):=HF.out.trans hF1
 clear hF1 c0 c1 c2 c3 c4 c5 d0 d1 d2 d3 d4 d5 HB1 HB2
 go_wp2_with fail
 refine(show Calls Tryd.prog 105 #[.slice a2 c.rets.length b2,.slice a4 c.rets.length b4] w1 _ from eqInts_same _ _ c.rets w1 G2'.out G4'.out hlr).mono ?_
 rintro e w2 ⟨rfl,hF2⟩
 have HF2:Hd (Fr (fun _=>False) w w2):=HF1.out.trans hF2
 clear hF2
 go_wp2_with fail
 go_ret
 exact⟨rfl,HF2.out⟩
theorem eqCode_same (v1 v2:Value)(cs:List PI)(w:World)(h1:CA w v1 cs)(h2:CA w v2 cs)(hn:FineC cs) :
 Calls Tryd.prog 95 #[v1,v2] w fun e w'=>e = .returned (.bool true)∧Fr (fun _=>False) w w':=by
 obtain⟨a1,c1,rfl,hc1⟩:=h1
 obtain⟨a2,c2,rfl,hc2⟩:=h2
 have H1:Hd _:=hc1
 have H2:Hd _:=hc2
 have HFI:Hd (FineC cs):=hn
 have hz:=hn.1
 clear hc1 hc2 hn
 go_enter Tryd.func95,Tryd.ntmps95
 go_wp2_with fail
 go_loopw [5] (fun v wr=>∃ (k:Nat),v = .int .i64 k∧k≤cs.length∧Hd (Fr (fun _=>False) w wr)) (fun v _=>match v with | .int _ q=>cs.length-q.toNat | _=>0)
 case atStart=>exact⟨0,rfl,Nat.zero_le _,Fr.refl _ _⟩
 case round =>
  obtain⟨k,rfl,hk,HF⟩:=hrel
  by_cases hlt:k<cs.length
  ·have hne:cs≠[]:=by intro e;simp[e] at hlt
   obtain⟨k1,o1,rfl,hk1,g1⟩:=H1.out hne
   obtain⟨k2,o2,rfl,hk2,g2⟩:=H2.out hne
   obtain⟨x1,y1,p0,p1,p2,p3,p4,p5,p6,ix1,iy1⟩:=g1 k hlt
   obtain⟨x2,y2,q0,q1,q2,q3,q4,q5,q6,ix2,iy2⟩:=g2 k hlt
   have m1:=fun o=>HF.out.cell (o:=o) hk1 (fun h=>h)
   have m2:=fun o=>HF.out.cell (o:=o) hk2 (fun h=>h)
   have p0:=(m1 _).trans p0
   have p1:=(m1 _).trans p1
   have p2:=(m1 _).trans p2
   have p3:=(m1 _).trans p3
   have p4:=(m1 _).trans p4
   have p5:=(m1 _).trans p5
   have p6:=(m1 _).trans p6
   have q0:=(m2 _).trans q0
   have q1:=(m2 _).trans q1
   have q2:=(m2 _).trans q2
   have q3:=(m2 _).trans q3
   have q4:=(m2 _).trans q4
   have q5:=(m2 _).trans q5
   have q6:=(m2 _).trans q6
   have X1:Hd (IA wr x1 cs[k].args):=ix1.stay HF.out
   have Y1:Hd (IA wr y1 cs[k].rets):=iy1.stay HF.out
   have X2:Hd (IA wr x2 cs[k].args):=ix2.stay HF.out
   have Y2:Hd (IA wr y2 cs[k].rets):=iy2.stay HF.out
   have HC:Hd (cs[k].args.length≤17592186043904∧cs[k].rets.length≤17592186043904):=HFI.out.2 _ (List.getElem_mem hlt)
   generalize cs[k]=c at *
   obtain⟨a,b,e1,-⟩:=ix1
   obtain⟨a',b',e2,-⟩:=iy1
   obtain⟨a'',b'',e3,-⟩:=ix2
   obtain⟨a3,b3,e4,-⟩:=iy2
   subst e1;subst e2;subst e3;subst e4
   have hk0:(0:Int)≤k:=by omega
   have hk3:(k:Int)<cs.length:=by omega
   clear g1 g2 m1 m2
   go_wp2_with fail
   refine wp_region_still_tail 8 mixed (by kernel_rfl) ?_
   simp only[List.take_succ_cons,List.take_zero,List.drop_succ_cons,List.drop_zero]
   repeat still_step
   refine wpStill_nil ?_
   go_wp2_with fail
   refine(show Calls Tryd.prog 102 #[.agg #[vI c.op,vI c.r,vI c.s,vI c.t,vI c.n,.slice a c.args.length b,.slice a' c.rets.length b'],.agg #[vI c.op,vI c.r,vI c.s,vI c.t,vI c.n,.slice a'' c.args.length b'',.slice a3 c.rets.length b3]] wr.drew _ from eqInstr_same c _ _ _ _ wr.drew X1.out Y1.out X2.out Y2.out (by have:=HC.out;omega) (by have:=HC.out;omega)).mono ?_
   rintro e w1 ⟨rfl,hF1⟩
   have HF1:Hd (Fr (fun _=>False) w w1):=HF.out.drew.trans hF1
   clear hF1 p0 p1 p2 p3 p4 p5 p6 q0 q1 q2 q3 q4 q5 q6
   go_wp2_with fail
   exact⟨⟨k+1,by simp,by omega,HF1.out⟩,by simp;omega⟩
  ·have hke:k=cs.length:=by omega
   subst hke
   go_wp2_with fail
   go_ret
   exact⟨rfl,HF.out⟩
theorem eqFunc_same (f:PF)(x1 x2:Value)(w:World)(h1:CA w x1 f.code)(h3:CA w x2 f.code)(hn:FineC f.code) :
 Calls Tryd.prog 67 #[.agg #[vI f.P,vI f.R,vI f.V,x1],.agg #[vI f.P,vI f.R,vI f.V,x2]] w fun e w'=>e = .returned (.bool true)∧Fr (fun _=>False) w w':=by
 obtain⟨a1,b1,e1,-⟩:=id h1
 obtain⟨a3,b3,e3,-⟩:=id h3
 have hF:Fr (fun _=>False) w ((w.alloc (.cells #[vI f.P,vI f.R,vI f.V,x1] 67)).alloc (.cells #[vI f.P,vI f.R,vI f.V,x2] 67)):=Fr.alloc (Fr.alloc (Fr.refl _ w) _) _
 have HB1:Hd (((w.alloc (.cells #[vI f.P,vI f.R,vI f.V,x1] 67)).alloc (.cells #[vI f.P,vI f.R,vI f.V,x2] 67)).heap[w.heap.size]?=some (.cells #[vI f.P,vI f.R,vI f.V,x1] 67)):=by
  unfold Hd;rw[Go.RowKit.Below.heap_alloc _ _ _ (by simp)];exact heap_new w _
 have HB2:Hd (((w.alloc (.cells #[vI f.P,vI f.R,vI f.V,x1] 67)).alloc (.cells #[vI f.P,vI f.R,vI f.V,x2] 67)).heap[w.heap.size+1]?=some (.cells #[vI f.P,vI f.R,vI f.V,x2] 67)):=by
  unfold Hd;rw[show w.heap.size+1=(w.alloc (.cells #[vI f.P,vI f.R,vI f.V,x1] 67)).heap.size by simp];exact heap_new _ _
 have H1:=h1.stay hF
 have H3:=h3.stay hF
 have G1:Hd _:=H1
 have G3:Hd _:=H3
 have HF:Hd _:=hF
 clear h1 h3 H1 H3 hF
 subst e1;subst e3
 have q0:(f.P==f.P)=true:=by simp
 have q1:(f.R==f.R)=true:=by simp
 have q2:(f.V==f.V)=true:=by simp
 go_enter Tryd.func67,Tryd.ntmps67
 go_upto_region 1 with fail
 generalize (w.alloc (.cells #[vI f.P,vI f.R,vI f.V,.slice a1 f.code.length b1] 67)).alloc (.cells #[vI f.P,vI f.R,vI f.V,.slice a3 f.code.length b3] 67)=wa at *
 have c0:wa.cell? ⟨w.heap.size,0,none⟩=some (vI f.P):=by rw[cell_of HB1.out];rfl
 have c1:wa.cell? ⟨w.heap.size,1,none⟩=some (vI f.R):=by rw[cell_of HB1.out];rfl
 have c2:wa.cell? ⟨w.heap.size,2,none⟩=some (vI f.V):=by rw[cell_of HB1.out];rfl
 have c3:wa.cell? ⟨w.heap.size,3,none⟩=some (.slice a1 f.code.length b1):=by rw[cell_of HB1.out];rfl
 have d0:wa.cell? ⟨w.heap.size+1,0,none⟩=some (vI f.P):=by rw[cell_of HB2.out];rfl
 have d1:wa.cell? ⟨w.heap.size+1,1,none⟩=some (vI f.R):=by rw[cell_of HB2.out];rfl
 have d2:wa.cell? ⟨w.heap.size+1,2,none⟩=some (vI f.V):=by rw[cell_of HB2.out];rfl
 have d3:wa.cell? ⟨w.heap.size+1,3,none⟩=some (.slice a3 f.code.length b3):=by rw[cell_of HB2.out];rfl
 go_wp2_with fail
 refine(show Calls Tryd.prog 95 #[.slice a1 f.code.length b1,.slice a3 f.code.length b3] wa _ from eqCode_same _ _ f.code wa G1.out G3.out hn).mono ?_
 rintro e w1 ⟨rfl,hF1⟩
 have HF1:Hd (Fr (fun _=>False) w w1):=HF.out.trans hF1
 clear hF1 c0 c1 c2 c3 d0 d1 d2 d3 HB1 HB2
 go_wp2_with fail
 go_ret
 exact⟨rfl,HF1.out⟩
theorem eqFuncs_same (v1 v2:Value)(fs:List PF)(w:World)(h1:FA w v1 fs)(h2:FA w v2 fs)(hn:FineP fs) :
 Calls Tryd.prog 40 #[v1,v2] w fun e w'=>e = .returned (.bool true)∧Fr (fun _=>False) w w':=by
 obtain⟨a1,c1,rfl,hc1⟩:=h1
 obtain⟨a2,c2,rfl,hc2⟩:=h2
 have H1:Hd _:=hc1
 have H2:Hd _:=hc2
 have HFI:Hd (FineP fs):=hn
 have hz:=hn.1
 clear hc1 hc2 hn
 go_enter Tryd.func40,Tryd.ntmps40
 go_wp2_with fail
 go_loopw [5] (fun v wr=>∃ (k:Nat),v = .int .i64 k∧k≤fs.length∧Hd (Fr (fun _=>False) w wr)) (fun v _=>match v with | .int _ q=>fs.length-q.toNat | _=>0)
 case atStart=>exact⟨0,rfl,Nat.zero_le _,Fr.refl _ _⟩
 case round =>
  obtain⟨k,rfl,hk,HF⟩:=hrel
  by_cases hlt:k<fs.length
  ·have hne:fs≠[]:=by intro e;simp[e] at hlt
   obtain⟨k1,o1,rfl,hk1,g1⟩:=H1.out hne
   obtain⟨k2,o2,rfl,hk2,g2⟩:=H2.out hne
   obtain⟨x1,p0,p1,p2,p3,ix1⟩:=g1 k hlt
   obtain⟨x2,q0,q1,q2,q3,ix2⟩:=g2 k hlt
   have m1:=fun o=>HF.out.cell (o:=o) hk1 (fun h=>h)
   have m2:=fun o=>HF.out.cell (o:=o) hk2 (fun h=>h)
   have p0:=(m1 _).trans p0
   have p1:=(m1 _).trans p1
   have p2:=(m1 _).trans p2
   have p3:=(m1 _).trans p3
   have q0:=(m2 _).trans q0
   have q1:=(m2 _).trans q1
   have q2:=(m2 _).trans q2
   have q3:=(m2 _).trans q3
   have X1:Hd (CA wr x1 fs[k].code):=ix1.stay HF.out
   have X2:Hd (CA wr x2 fs[k].code):=ix2.stay HF.out
   have HC:Hd (FineC fs[k].code):=HFI.out.2 _ (List.getElem_mem hlt)
   generalize fs[k]=f at *
   obtain⟨a,b,e1,-⟩:=ix1
   obtain⟨a'',b'',e3,-⟩:=ix2
   subst e1;subst e3
   have hk0:(0:Int)≤k:=by omega
   have hk3:(k:Int)<fs.length:=by omega
   clear g1 g2 m1 m2
   go_wp2_with fail
   refine wp_region_still_tail 8 mixed (by kernel_rfl) ?_
   simp only[List.take_succ_cons,List.take_zero,List.drop_succ_cons,List.drop_zero]
   repeat still_step
   refine wpStill_nil ?_
   go_wp2_with fail
   refine(show Calls Tryd.prog 67 #[.agg #[vI f.P,vI f.R,vI f.V,.slice a f.code.length b],.agg #[vI f.P,vI f.R,vI f.V,.slice a'' f.code.length b'']] wr.drew _ from eqFunc_same f _ _ wr.drew X1.out X2.out HC.out).mono ?_
   rintro e w1 ⟨rfl,hF1⟩
   have HF1:Hd (Fr (fun _=>False) w w1):=HF.out.drew.trans hF1
   clear hF1 p0 p1 p2 p3 q0 q1 q2 q3
   go_wp2_with fail
   exact⟨⟨k+1,by simp,by omega,HF1.out⟩,by simp;omega⟩
  ·have hke:k=fs.length:=by omega
   subst hke
   go_wp2_with fail
   go_ret
   exact⟨rfl,HF.out⟩
theorem eqProgram_same (G:Int)(fs:List PF)(x1 x2:Value)(w:World)(h1:FA w x1 fs)(h3:FA w x2 fs)(hn:FineP fs) :
 Calls Tryd.prog 15 #[.agg #[vI G,x1],.agg #[vI G,x2]] w fun e w'=>e = .returned (.bool true)∧Fr (fun _=>False) w w':=by
 obtain⟨a1,b1,e1,-⟩:=id h1
 obtain⟨a3,b3,e3,-⟩:=id h3
 have hF:Fr (fun _=>False) w ((w.alloc (.cells #[vI G,x1] 26)).alloc (.cells #[vI G,x2] 26)):=Fr.alloc (Fr.alloc (Fr.refl _ w) _) _
 have HB1:Hd (((w.alloc (.cells #[vI G,x1] 26)).alloc (.cells #[vI G,x2] 26)).heap[w.heap.size]?=some (.cells #[vI G,x1] 26)):=by
  unfold Hd;rw[Go.RowKit.Below.heap_alloc _ _ _ (by simp)];exact heap_new w _
 have HB2:Hd (((w.alloc (.cells #[vI G,x1] 26)).alloc (.cells #[vI G,x2] 26)).heap[w.heap.size+1]?=some (.cells #[vI G,x2] 26)):=by
  unfold Hd;rw[show w.heap.size+1=(w.alloc (.cells #[vI G,x1] 26)).heap.size by simp];exact heap_new _ _
 have H1:=h1.stay hF
 have H3:=h3.stay hF
 have G1:Hd _:=H1
 have G3:Hd _:=H3
 have HF:Hd _:=hF
 clear h1 h3 H1 H3 hF
 subst e1;subst e3
 have q0:(G==G)=true:=by simp
 go_enter Tryd.func15,Tryd.ntmps15
 go_upto_region 1 with fail
 generalize (w.alloc (.cells #[vI G,.slice a1 fs.length b1] 26)).alloc (.cells #[vI G,.slice a3 fs.length b3] 26)=wa at *
 have c0:wa.cell? ⟨w.heap.size,0,none⟩=some (vI G):=by rw[cell_of HB1.out];rfl
 have c1:wa.cell? ⟨w.heap.size,1,none⟩=some (.slice a1 fs.length b1):=by rw[cell_of HB1.out];rfl
 have d0:wa.cell? ⟨w.heap.size+1,0,none⟩=some (vI G):=by rw[cell_of HB2.out];rfl
 have d1:wa.cell? ⟨w.heap.size+1,1,none⟩=some (.slice a3 fs.length b3):=by rw[cell_of HB2.out];rfl
 go_wp2_with fail
 refine(show Calls Tryd.prog 40 #[.slice a1 fs.length b1,.slice a3 fs.length b3] wa _ from eqFuncs_same _ _ fs wa G1.out G3.out hn).mono ?_
 rintro e w1 ⟨rfl,hF1⟩
 have HF1:Hd (Fr (fun _=>False) w w1):=HF.out.trans hF1
 clear hF1 c0 c1 d0 d1 HB1 HB2
 go_wp2_with fail
 go_ret
 exact⟨rfl,HF1.out⟩
set_option maxRecDepth 100000
set_option maxHeartbeats 1000000
def Went (pq:Nat)(J:Int→Option Addr→Nat→Nat→World→Prop)(Pn:Int→Int→World→Prop)(e:Ending)(w1:World):Prop :=
 (∃ G a n c,e = .returned (.agg #[vI G,.slice a n c])∧J G a n c w1∧(∃ u0 u1,w1.cell? ⟨pq,0,none⟩=some u0∧w1.cell? ⟨pq,1,none⟩=some u1)∧∀ o,w1.frozen? ⟨pq,o,none⟩=false) ∨
   ∃ er at',e = .panicked (viol er at')∧Pn er at' w1
def Went1 (pq:Nat)(J:Int→Option Addr→Nat→Nat→World→Prop)(Pn:Int→Int→World→Prop)(e:Ending)(w1:World):Prop :=
 (e = .returned (.tuple #[])∧∃ G a n c w0,J G a n c w0∧w1=(w0.setCell ⟨pq,0,none⟩ (vI G)).setCell ⟨pq,1,none⟩ (.slice a n c)) ∨
   ∃ er at',e = .panicked (viol er at')∧Pn er at' w1
theorem decode1_any (wv rq pq b:Nat)(ra:Option Addr)(rl rc:Nat)(w:World)(hw:w.cell? ⟨wv,0,none⟩=some (.pointer (some ⟨b,0,none⟩)))(hr:w.cell? ⟨rq,0,none⟩=some (.slice ra rl rc))
 (J:Int→Option Addr→Nat→Nat→World→Prop) (Pn:Int→Int→World→Prop)
 (ht:Calls Tryd.prog 33 #[.pointer (some ⟨b,0,none⟩),.agg #[.slice ra rl rc]] w (Went pq J Pn)) :
 Calls Tryd.prog 32 #[.pointer (some ⟨wv,0,none⟩),.pointer (some ⟨rq,0,none⟩),.pointer (some ⟨pq,0,none⟩)] w (Went1 pq J Pn):=by
 go_enter Tryd.func32,Tryd.ntmps32
 go_wp2_with fail
 refine ht.mono ?_
 rintro e w1 (⟨G,a,n,c,rfl,hJ,⟨u0,u1,h0,h1⟩,hz⟩|⟨er,at',rfl,hP⟩)
 ·clear ht
  go_wp2_with fail
  go_end0
  exact Or.inl ⟨rfl,G,a,n,c,w1,hJ,rfl⟩
 ·clear ht
  go_wp2_with fail
  exact⟨rfl,Or.inr ⟨er,at',rfl,hP⟩⟩
def plainB (op zr zs zt zn:Int)(la lr:Nat):Bool:=(tested (namesB op)).all fun p=>(zzOf (zeros6 zr zs zt zn la lr) p.1==0)||p.2
theorem rplain (w:World)(op zr zs zt zn:Int)(aa ra:Option Addr)(la ca lr cr:Nat) :
 Calls Tryd.prog 96 #[.agg #[vI op,vI zr,vI zs,vI zt,vI zn,.slice aa la ca,.slice ra lr cr]] w fun e w'=>e = .returned (.bool (plainB op zr zs zt zn la lr))∧Fr (fun _=>False) w w':=by
 by_cases h:1≤op∧op≤17
 ·rcases(show op=1∨op=2∨op=3∨op=4∨op=5∨op=6∨op=7∨op=8∨op=9∨op=10∨op=11∨op=12∨op=13∨op=14∨op=15∨op=16∨op=17 by omega) with rfl | rfl | rfl | rfl | rfl | rfl | rfl | rfl | rfl | rfl | rfl | rfl | rfl | rfl | rfl | rfl | rfl
  ·exact plain_1 w 1 zr zs zt zn aa ra la ca lr cr (fun _=>rfl)
  ·exact plain_2 w 2 zr zs zt zn aa ra la ca lr cr (fun _=>rfl)
  ·exact plain_3 w 3 zr zs zt zn aa ra la ca lr cr (fun _=>rfl)
  ·exact plain_4 w 4 zr zs zt zn aa ra la ca lr cr (fun _=>rfl)
  ·exact plain_5 w 5 zr zs zt zn aa ra la ca lr cr (fun _=>rfl)
  ·exact plain_6 w 6 zr zs zt zn aa ra la ca lr cr (fun _=>rfl)
  ·exact plain_7 w 7 zr zs zt zn aa ra la ca lr cr (fun _=>rfl)
  ·exact plain_8 w 8 zr zs zt zn aa ra la ca lr cr (fun _=>rfl)
  ·exact plain_9 w 9 zr zs zt zn aa ra la ca lr cr (fun _=>rfl)
  ·exact plain_10 w 10 zr zs zt zn aa ra la ca lr cr (fun _=>rfl)
  ·exact plain_11 w 11 zr zs zt zn aa ra la ca lr cr (fun _=>rfl)
  ·exact plain_12 w 12 zr zs zt zn aa ra la ca lr cr (fun _=>rfl)
  ·exact plain_13 w 13 zr zs zt zn aa ra la ca lr cr (fun _=>rfl)
  ·exact plain_14 w 14 zr zs zt zn aa ra la ca lr cr (fun _=>rfl)
  ·exact plain_15 w 15 zr zs zt zn aa ra la ca lr cr (fun _=>rfl)
  ·exact plain_16 w 16 zr zs zt zn aa ra la ca lr cr (fun _=>rfl)
  ·exact plain_17 w 17 zr zs zt zn aa ra la ca lr cr (fun _=>rfl)
 ·have hn:∀ c,namesB op c=false:=fun c=>by
   have e:=partsB_out op h
   have e2:partsN op.toNat=#[]:=congrArg ByteArray.data e
   unfold namesB
   rw[e2]
   rfl
  have hf:namesB op=fun _=>false:=funext hn
  unfold plainB
  rw[hf]
  exact plain_no w op zr zs zt zn aa ra la ca lr cr hn
end Go.Proofs.YtingenonbkencaaDoor
