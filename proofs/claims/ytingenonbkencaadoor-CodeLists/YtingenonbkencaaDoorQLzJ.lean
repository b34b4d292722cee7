import Derived.Test.YtingenonbkencaaDoorQA3J
import Derived.Test.YtingenonbkencaaDoorQN5J
import Derived.Test.YtingenonbkencaaDoorQRtJ
import Derived.Test.YtingenonbkencaaDoorQMb
import Derived.Test.YtingenonbkencaaDoorQRlJ
set_option linter.unusedVariables false
set_option linter.unusedSimpArgs false
namespace Go.Proofs.YtingenonbkencaaDoor
open Go.RowKit (wrap32 wrap64)
theorem IA.il {w:World}{v:Value}{l:List Int}(h:IA w v l){b:Nat}(hb:w.heap.size≤b):IL b w v l:=by
 obtain⟨a,c,e,h⟩:=h
 refine⟨a,c,e,fun hne=>?_⟩
 obtain⟨k,o,e,hk,hc⟩:=h hne
 exact⟨k,o,e,hk,by omega,hc⟩
theorem CA.cl {w:World}{v:Value}{cs:List PI}(h:CA w v cs)(hn:FineC cs){b:Nat}(hb:w.heap.size≤b):CL b w v cs:=by
 obtain⟨a,c,e,h⟩:=h
 refine⟨by have:=hn.1;omega,a,c,e,fun hne=>?_⟩
 obtain⟨k,o,e,hk,hc⟩:=h hne
 refine⟨k,o,e,hk,by omega,fun j hj=>?_⟩
 obtain⟨av,rv,h1,h2,h3,h4,h5,h6,h7,h8,h9⟩:=hc j hj
 have hf:=hn.2 _ (List.getElem_mem hj)
 exact⟨av,rv,h1,h2,h3,h4,h5,h6,h7,h8.il hb,h9.il hb,by omega,by omega⟩
theorem FA.fl {w:World}{v:Value}{fs:List PF}(h:FA w v fs)(hn:FineP fs){b:Nat}(hb:w.heap.size≤b):FL b w v fs:=by
 obtain⟨a,c,e,h⟩:=h
 refine⟨by have:=hn.1;omega,a,c,e,fun hne=>?_⟩
 obtain⟨k,o,e,hk,hc⟩:=h hne
 refine⟨k,o,e,hk,by omega,fun j hj=>?_⟩
 obtain⟨cv,h1,h2,h3,h4,h5⟩:=hc j hj
 exact⟨cv,h1,h2,h3,h4,h5.cl (hn.2 _ (List.getElem_mem hj)) hb⟩
def c6 : List PI→Int
 | []=>0
 | c::cs=>(if c.op=6 then 1 else 0)+c6 cs
def s6 : List PF→Int
 | []=>0
 | f::fs=>c6 f.code+s6 fs
theorem Low.heads : ∀ (fs:List PF) (L E:Int),Low L E→Low (rHeads fs L E).1 (rHeads fs L E).2
 | [],_,_,h=>h
 | f::fs,L,E,h=>by
   by_cases hE:E=0
   ·subst hE;exact Low.heads fs _ _ (Low.head h.1)
   ·rw[rHeads_ne _ _ hE];exact h
theorem Low.code (G:Int)(FS:List PF)(R V:Int)(fl:Nat):∀ (cs:List PI) (i:Nat) (L E:Int),Low L E→Low (rCode G FS R V fl i cs L E).1 (rCode G FS R V fl i cs L E).2
 | [],_,_,_,h=>h
 | c::cs,i,L,E,h=>by
   by_cases hE:E=0
   ·subst hE;exact Low.code G FS R V fl cs (i+1) _ _ (Low.instr h.1)
   ·rw[rCode_ne _ _ _ _ _ _ _ _ hE];exact h
structure Cor (G V:Int)(fl:Nat)(c:PI)(s:WS)(L:Int):Prop where
 g:s.globals=G
 v:s.fV=V
 l:s.len=fl
 r:s.r=c.r
 ss:s.s=c.s
 t:s.t=c.t
 n:s.n=c.n
 lo:s.locs=L+1
def AGI (G V:Int)(fl:Nat)(c:PI)(L E:Int)(r:X (WS × Unit)):Prop:=match r with
 | .ok y=>E=0∧Cor G V fl c y.1 L
 | .error z=>E=z.1∧z.1≠0
theorem AGI.cast {G V:Int}{fl:Nat}{c:PI}{L E:Int}{r q:X (WS × Unit)}(e:r=q)(h:AGI G V fl c L E q):AGI G V fl c L E r:=by rw[e];exact h
theorem mustE_keep {ok:Bool}{e E:Int}(h:¬ E=0):mustE ok e E=E:=by unfold mustE;simp[h]
theorem mustE_yes {e E:Int}:mustE true e E=E:=by unfold mustE;simp
theorem mustE_no {e:Int}:mustE false e 0=e:=by unfold mustE;simp
theorem Cor.at {G V:Int}{fl:Nat}{c:PI}{s:WS}{L:Int}(h:Cor G V fl c s L)(a:Int):Cor G V fl c { s with at':=a } L:=⟨h.g,h.v,h.l,h.r,h.ss,h.t,h.n,h.lo⟩
theorem AGI.ask {G V:Int}{fl:Nat}{c:PI}{L E:Int}{r:X (WS × Unit)}(h:AGI G V fl c L E r)(b o size:Nat)(q:WS→Bool)(B:Bool)(er:Int)(he:er≠0)(hq:∀ s,Cor G V fl c s L→q s=B) :
 AGI G V fl c L (mustE B er E) (thenX r (askX (leaving b) o size q er)):=by
 cases r with
 | error z =>
   have h:E=z.1∧z.1≠0:=h
   show mustE B er E=z.1∧z.1≠0
   rw[mustE_keep (by rw[h.1];exact h.2)]
   exact h
 | ok y =>
   obtain⟨s,u⟩:=y
   obtain⟨h0,hc⟩:E=0∧Cor G V fl c s L:=h
   subst h0
   have e:thenX (.ok (s,u)) (askX (leaving b) o size q er)=if q { s with at':=adv s.at' size } then .ok ({ s with at':=adv s.at' size },u) else .error (er,s.at'):=L_ask o size q er s u
   rw[hq _ (hc.at _)] at e
   refine AGI.cast e ?_
   cases B with
   | true=>rw[if_pos rfl,mustE_yes];exact⟨rfl,hc.at _⟩
   | false=>rw[if_neg (by decide),mustE_no];exact⟨rfl,he⟩
theorem varq {V v:Int}(h0:0≤V)(h1:V≤1000000):decide (0≤v∧v≤IntKind.i64.wrap (V-1))=varB V v:=by
 rw[wrap_small (V-1) (by omega) (by omega)]
 unfold varB
 rw[Bool.eq_iff_iff]
 simp
 omega
section
variable {G V:Int} {fl:Nat} {c:PI} {L E:Int} {r:X (WS × Unit)} {fs:List PF} {R:Int} (b:Nat)
theorem AGI.l82 (h:AGI G V fl c L E r)(h0:0≤V)(h1:V≤255):AGI G V fl c L (letE G fs R V fl c 82 E) (thenX r (varPart (leaving b) 155)) :=
 h.ask b 155 1 _ (varB V c.r) 13 (by decide) (fun s hs=>by
  show decide (0≤s.r∧s.r≤IntKind.i64.wrap (s.fV-1))=_
  rw[hs.r,hs.v];exact varq h0 (by omega))
theorem AGI.l83 (h:AGI G V fl c L E r)(h0:0≤V)(h1:V≤255):AGI G V fl c L (letE G fs R V fl c 83 E) (thenX r (varPart (leaving b) 156)) :=
 h.ask b 156 1 _ (varB V c.s) 13 (by decide) (fun s hs=>by
  show decide (0≤s.s∧s.s≤IntKind.i64.wrap (s.fV-1))=_
  rw[hs.ss,hs.v];exact varq h0 (by omega))
theorem AGI.l84 (h:AGI G V fl c L E r)(h0:0≤V)(h1:V≤255):AGI G V fl c L (letE G fs R V fl c 84 E) (thenX r (varPart (leaving b) 157)) :=
 h.ask b 157 1 _ (varB V c.t) 13 (by decide) (fun s hs=>by
  show decide (0≤s.t∧s.t≤IntKind.i64.wrap (s.fV-1))=_
  rw[hs.t,hs.v];exact varq h0 (by omega))
theorem AGI.l99 (h:AGI G V fl c L E r):AGI G V fl c L (letE G fs R V fl c 99 E) (thenX r (fieldsPart (leaving b))) :=
 h.ask b 158 1 _ (numB 1 9 c.n) 17 (by decide) (fun s hs=>by
  show decide (1≤s.n∧s.n≤8)=_
  rw[hs.n];unfold numB;rw[Bool.eq_iff_iff];simp;omega)
theorem AGI.l102 (h:AGI G V fl c L E r):AGI G V fl c L (letE G fs R V fl c 102 E) (thenX r (fieldPart (leaving b))) :=
 h.ask b 158 1 _ (numB 0 8 c.n) 17 (by decide) (fun s hs=>by
  show decide (0≤s.n∧s.n≤7)=_
  rw[hs.n];unfold numB;rw[Bool.eq_iff_iff];simp;omega)
theorem AGI.l103 (h:AGI G V fl c L E r)(h0:0≤G)(h1:G≤16):AGI G V fl c L (letE G fs R V fl c 103 E) (thenX r (globalPart (leaving b))) :=
 h.ask b 158 1 _ (numB 0 G c.n) 18 (by decide) (fun s hs=>by
  show decide (0≤s.n∧s.n≤IntKind.i64.wrap (s.globals-1))=_
  rw[hs.n,hs.g];exact varq h0 (by omega))
theorem AGI.l74 (h:AGI G V fl c L E r)(h1:fl≤4096):AGI G V fl c L (letE G fs R V fl c 74 E) (thenX r (targetPart (leaving b))) :=
 h.ask b 158 2 _ (numB 0 fl c.n) 16 (by decide) (fun s hs=>by
  show decide (0≤s.n∧s.n≤IntKind.i64.wrap (s.len-1))=_
  rw[hs.n,hs.l];exact varq (by omega) (by omega))
theorem AGI.l70 (h:AGI G V fl c L E r)(h1:fs.length≤65535):AGI G V fl c L (letE G fs R V fl c 70 E) (thenX r (calleePart (leaving b) fs.length)) :=
 h.ask b 158 2 _ (numB 0 fs.length c.n) 14 (by decide) (fun s hs=>by
  show decide (0≤s.n∧s.n≤IntKind.i64.wrap ((fs.length:Int)-1))=_
  rw[hs.n];exact varq (by omega) (by omega))
theorem AGI.l105 (h:AGI G V fl c L E r):AGI G V fl c L (letE G fs R V fl c 105 E) (thenX r (intPart (leaving b))):=by
 cases r with
 | error z=>exact h
 | ok y =>
   obtain⟨s,u⟩:=y
   obtain⟨h0,hc⟩:E=0∧Cor G V fl c s L:=h
   have e:thenX (.ok (s,u)) (intPart (leaving b)) = .ok ({ s with at':=adv s.at' 8 },u):=L_next 158 8 s u
   refine AGI.cast e ?_
   exact⟨h0,hc.at _⟩
theorem varsL_agi (h0:0≤V)(h1:V≤255):∀ (l:List Int) (x:WS × Unit),Cor G V fl c x.1 L→AGI G V fl c L (varsE V l 0) (varsL l x)
 | [],x,h=>⟨rfl,h⟩
 | v::l,x,h=>by
   show AGI G V fl c L (varsE V l (mustE (varB V v) 13 0)) (thenX (oneL v x) (varsL l))
   have hq:varOk x.1.fV v=varB V v:=by rw[h.v];exact varq h0 (by omega)
   unfold oneL
   rw[hq]
   cases hb:varB V v with
   | true =>
     rw[if_pos rfl,mustE_yes]
     exact varsL_agi h0 h1 l _ (h.at _)
   | false =>
     rw[if_neg (by decide),mustE_no]
     refine⟨?_,show(13:Int)≠0 by decide⟩
     show varsE V l 13=13
     have:∀ (l:List Int),varsE V l 13=13:=by
      intro l
      induction l with
      | nil=>rfl
      | cons a l ih=>show varsE V l (mustE (varB V a) 13 13)=13;rw[mustE_keep (by decide)];exact ih
     exact this l
theorem AGI.list (h:AGI G V fl c L E r)(h0:0≤V)(h1:V≤255)(n:Nat)(m:Int)(hm:m=n)(l:List Int):AGI G V fl c L (listE m V l E) (thenX r (listL n l)):=by
 cases r with
 | error z =>
   have h:E=z.1∧z.1≠0:=h
   show listE m V l E=z.1∧z.1≠0
   unfold listE
   rw[if_neg (by rw[h.1];exact h.2)]
   exact h
 | ok y =>
   obtain⟨s,u⟩:=y
   obtain⟨e0,hc⟩:E=0∧Cor G V fl c s L:=h
   subst e0
   show AGI G V fl c L (listE m V l 0) (listL n l (s,u))
   unfold listE listL
   rw[if_pos rfl]
   by_cases hl:l.length=n
   ·rw[if_pos hl,show((l.length:Int)==m)=true by rw[hm];simp[hl],mustE_yes]
    exact varsL_agi h0 h1 l _ ⟨hc.g,hc.v,hc.l,hc.r,hc.ss,hc.t,hc.n,hc.lo⟩
   ·rw[if_neg hl,show((l.length:Int)==m)=false by rw[hm];simpa using (by omega:¬ (l.length:Int)=n),mustE_no]
    refine⟨?_,show(15:Int)≠0 by decide⟩
    show varsE V l 15=15
    have:∀ (l:List Int),varsE V l 15=15:=by
     intro l
     induction l with
     | nil=>rfl
     | cons a l ih=>show varsE V l (mustE (varB V a) 13 15)=15;rw[mustE_keep (by decide)];exact ih
    exact this l
end
theorem w64 {z:Int}(h0:0≤z)(h1:z≤1000000000000):wrap64 z=z:=by unfold wrap64;omega
structure CorF (G V:Int)(fl:Nat)(s:WS)(L:Int):Prop where
 g:s.globals=G
 v:s.fV=V
 l:s.len=fl
 lo:s.locs=L+1
theorem front_agi {G V:Int}{fl:Nat}{L:Int}(b:Nat)(c:PI)(i:Nat)(hi:i<fl)(s:WS)(hs:CorF G V fl s L)(hL0:0≤L)(hL1:L+1≤1048576)(hop:1≤c.op∧c.op≤17)
 (nb ends makes:Bool) (he:ends=(c.op==13||c.op==15)) (hm:makes=(c.op==6)) (p a:Int) :
 AGI G V fl c (opL c.op L) (opE c.op nb ((i:Int)==(fl:Int)-1) L 0) (frontOk (leaving b) ends makes nb i p ({ inI c s with at':=a },())):=by
 have hob:opB c.op=true:=by unfold opB;simp[hop.1,hop.2]
 have hla:(ends||decide ((i:Int)<(inI c s).len-1))=lastB ((i:Int)==(fl:Int)-1) c.op:=by
  rw[show(inI c s).len=s.len from rfl,hs.l,he]
  unfold lastB
  cases hx:(c.op==13||c.op==15)
  ·rw[Bool.or_false,Bool.false_or,Bool.eq_iff_iff];simp;omega
  ·simp
 unfold frontOk opE
 rw[hob,mustE_yes]
 cases nb with
 | false =>
   rw[if_pos rfl,mustE_no,mustE_keep (E:=1) (by decide),mustE_keep (E:=1) (by decide)]
   exact⟨rfl,show(1:Int)≠0 by decide⟩
 | true =>
   rw[if_neg (by decide),mustE_yes]
   rw[show(({ inI c s with at':=a },()):WS × Unit).1.len=(inI c s).len from rfl,hla]
   cases lastB ((i:Int)==(fl:Int)-1) c.op with
   | false =>
     rw[if_pos rfl,mustE_no,mustE_keep (by decide)]
     exact⟨rfl,show(19:Int)≠0 by decide⟩
   | true =>
     rw[if_neg (by decide),mustE_yes,hm]
     by_cases h6:c.op=6
     ·have e:opL c.op L=L+1:=by unfold opL;rw[if_pos h6]
      rw[e,if_pos (by simp[h6])]
      unfold locX
      have e2:wrap64 ((({ inI c s with at':=a },()):WS × Unit).1.locs+1)=L+1+1:=by
       rw[show(({ inI c s with at':=a },()):WS × Unit).1.locs=s.locs from rfl,hs.lo]
       exact w64 (by omega) (by omega)
      rw[e2]
      by_cases hle:L+1+1≤1048576
      ·rw[if_pos hle,show decide (L+1+1≤1048576)=true by simpa using hle,mustE_yes]
       exact⟨rfl,⟨hs.g,hs.v,hs.l,rfl,rfl,rfl,rfl,rfl⟩⟩
      ·rw[if_neg hle,show decide (L+1+1≤1048576)=false by simpa using hle,mustE_no]
       exact⟨rfl,show(21:Int)≠0 by decide⟩
     ·have e:opL c.op L=L:=by unfold opL;rw[if_neg h6]
      rw[e,if_neg (by simp[h6]),show decide (L+1≤1048576)=true by simpa using hL1,mustE_yes]
      exact⟨rfl,⟨hs.g,hs.v,hs.l,rfl,rfl,rfl,rfl,hs.lo⟩⟩
theorem call_agi {G V R:Int}{fl:Nat}{c:PI}{L E:Int}{r1:X (WS × Unit)}(fs:List PF)(hP:∀ f∈fs,0≤f.P∧0≤f.R)(hV0:0≤V)(hV1:V≤255)(h1:AGI G V fl c L E r1)(hE:E=0→0≤c.n∧c.n<fs.length) :
 AGI G V fl c L (letE G fs R V fl c 66 (letE G fs R V fl c 65 E)) (thenX r1 fun y=>thenX (listL (((headsOfP fs).getD y.1.n.toNat (0,0)).1) c.args y) fun y2=>listL (((headsOfP fs).getD y.1.n.toNat (0,0)).2) c.rets y2):=by
 show AGI G V fl c L (listE (calleeR fs c.n) V c.rets (listE (calleeP fs c.n) V c.args E)) _
 cases r1 with
 | error z =>
   have h1:E=z.1∧z.1≠0:=h1
   have hz:¬ E=0:=by rw[h1.1];exact h1.2
   have e1:listE (calleeP fs c.n) V c.args E=E:=by unfold listE;rw[if_neg hz]
   have e2:listE (calleeR fs c.n) V c.rets E=E:=by unfold listE;rw[if_neg hz]
   rw[e1,e2]
   exact h1
 | ok y =>
   have h2:E=0∧Cor G V fl c y.1 L:=h1
   obtain⟨hn0,hn1⟩:=hE h2.1
   have hlt:c.n.toNat<fs.length:=by omega
   have hn:y.1.n.toNat=c.n.toNat:=by rw[h2.2.n]
   have hg:(headsOfP fs).getD y.1.n.toNat (0,0)=(fs[c.n.toNat].P.toNat,fs[c.n.toNat].R.toNat):=by
    rw[hn]
    unfold headsOfP
    rw[List.getD_eq_getElem?_getD,List.getElem?_map,List.getElem?_eq_getElem hlt]
    rfl
   have hp:=hP _ (List.getElem_mem hlt)
   have cP:calleeP fs c.n=(fs[c.n.toNat].P.toNat:Nat):=by
    unfold calleeP;rw[List.getElem?_eq_getElem hlt];show fs[c.n.toNat].P=_;omega
   have cR:calleeR fs c.n=(fs[c.n.toNat].R.toNat:Nat):=by
    unfold calleeR;rw[List.getElem?_eq_getElem hlt];show fs[c.n.toNat].R=_;omega
   have h3:=h1.list hV0 hV1 _ _ cP c.args
   have h4:=h3.list hV0 hV1 _ _ cR c.rets
   refine AGI.cast ?_ h4
   show thenX (listL (((headsOfP fs).getD y.1.n.toNat (0,0)).1) c.args y) (fun y2=>listL (((headsOfP fs).getD y.1.n.toNat (0,0)).2) c.rets y2)=_
   rw[hg]
   rfl
theorem instr_agi {G V R:Int}{fl:Nat}{L:Int}(b:Nat)(fs:List PF)(hP:∀ f∈fs,0≤f.P∧0≤f.R)(hnf:fs.length≤65535)(hG0:0≤G)(hG1:G≤16)(hV0:0≤V)(hV1:V≤255)(hR:0≤R)(hfl:fl≤4096)
 (c:PI) (i:Nat) (hi:i<fl) (s:WS) (hs:CorF G V fl s L) (hL0:0≤L) (hL1:L+1≤1048576) :
 AGI G V fl c (opL c.op L) (instrE G fs R V fl c ((i:Int)==(fl:Int)-1) L 0) (instrL (b:=b) (headsOfP fs) R.toNat i c.args c.rets (inI c s)):=by
 by_cases hop:1≤c.op∧c.op≤17
 ·obtain⟨k,hk⟩:∃ k:Nat,c.op=k:=⟨c.op.toNat,by omega⟩
  have hkk:1≤k∧k≤17:=by omega
  have hpl:plainB c.op c.r c.s c.t c.n c.args.length c.rets.length=nbK k (inI c s) c.args.length c.rets.length:=by
   rw[hk];exact plainB_nbK k hkk (inI c s) c.args.length c.rets.length
  have hfr:∀ (ends makes:Bool),ends=(c.op==13||c.op==15)→makes=(c.op==6)→AGI G V fl c (opL c.op L) (opE c.op (plainB c.op c.r c.s c.t c.n c.args.length c.rets.length) ((i:Int)==(fl:Int)-1) L 0) (frontOk (leaving b) ends makes (nbK k (inI c s) c.args.length c.rets.length) i (inI c s).at' ({ inI c s with at':=adv (inI c s).at' 1 },())):=fun e m he hm=>by
   rw[hpl];exact front_agi b c i hi s hs hL0 hL1 hop _ e m he hm _ _
  unfold instrL
  rw[if_pos (show 1≤(inI c s).op∧(inI c s).op≤17 from hop)]
  rw[show(inI c s).op=c.op from rfl]
  unfold instrE
  have hN:c.op.toNat=k:=by omega
  rw[hN]
  generalize hEE:opE c.op (plainB c.op c.r c.s c.t c.n c.args.length c.rets.length) ((i:Int)==(fl:Int)-1) L 0=EE at hfr ⊢
  rcases(show k=1∨k=2∨k=3∨k=4∨k=5∨k=6∨k=7∨k=8∨k=9∨k=10∨k=11∨k=12∨k=13∨k=14∨k=15∨k=16∨k=17 by omega) with rfl | rfl | rfl | rfl | rfl | rfl | rfl | rfl | rfl | rfl | rfl | rfl | rfl | rfl | rfl | rfl | rfl
  case inr.inr.inr.inr.inr.inr.inr.inr.inr.inr.inl =>
   have h1:=(hfr false false (by rw[hk];rfl) (by rw[hk];rfl)).l70 (fs:=fs) (R:=R) b hnf
   rw[if_neg (by omega),if_pos (show c.op=11 by omega)]
   refine call_agi fs hP hV0 hV1 (r1:=thenX _ (calleePart (leaving b) (headsOfP fs).length)) ?_ ?_
   ·rw[show(headsOfP fs).length=fs.length by unfold headsOfP;simp]
    exact h1
   ·intro h0
    have hn:=(mustE_zero (by decide) (show mustE (numB 0 fs.length c.n) 14 EE=0 from h0)).1
    unfold numB at hn
    simp at hn
    exact⟨hn.1,hn.2⟩
  case inr.inr.inr.inr.inr.inr.inr.inr.inr.inr.inr.inr.inr.inr.inl =>
   have h1:=hfr true false (by rw[hk];rfl) (by rw[hk];rfl)
   rw[if_pos (show c.op=15 by omega)]
   exact h1.list hV0 hV1 R.toNat R (by omega) c.args
  ·rw[if_neg (by omega),if_neg (by omega)]
   have h1:=hfr (c.op==13) (c.op==6) (by rw[hk];rfl) rfl
   exact((h1.l82 (fs:=fs) (R:=R) b hV0 hV1).l105 (fs:=fs) (R:=R) b)
  ·rw[if_neg (by omega),if_neg (by omega)]
   have h1:=hfr (c.op==13) (c.op==6) (by rw[hk];rfl) rfl
   exact((h1.l82 (fs:=fs) (R:=R) b hV0 hV1).l83 (fs:=fs) (R:=R) b hV0 hV1)
  ·rw[if_neg (by omega),if_neg (by omega)]
   have h1:=hfr (c.op==13) (c.op==6) (by rw[hk];rfl) rfl
   exact(((h1.l82 (fs:=fs) (R:=R) b hV0 hV1).l83 (fs:=fs) (R:=R) b hV0 hV1).l84 (fs:=fs) (R:=R) b hV0 hV1)
  ·rw[if_neg (by omega),if_neg (by omega)]
   have h1:=hfr (c.op==13) (c.op==6) (by rw[hk];rfl) rfl
   exact(((h1.l82 (fs:=fs) (R:=R) b hV0 hV1).l83 (fs:=fs) (R:=R) b hV0 hV1).l84 (fs:=fs) (R:=R) b hV0 hV1)
  ·rw[if_neg (by omega),if_neg (by omega)]
   have h1:=hfr (c.op==13) (c.op==6) (by rw[hk];rfl) rfl
   exact((h1.l82 (fs:=fs) (R:=R) b hV0 hV1).l83 (fs:=fs) (R:=R) b hV0 hV1)
  ·rw[if_neg (by omega),if_neg (by omega)]
   have h1:=hfr (c.op==13) (c.op==6) (by rw[hk];rfl) rfl
   exact((h1.l82 (fs:=fs) (R:=R) b hV0 hV1).l99 (fs:=fs) (R:=R) b)
  ·rw[if_neg (by omega),if_neg (by omega)]
   have h1:=hfr (c.op==13) (c.op==6) (by rw[hk];rfl) rfl
   exact(((h1.l82 (fs:=fs) (R:=R) b hV0 hV1).l83 (fs:=fs) (R:=R) b hV0 hV1).l102 (fs:=fs) (R:=R) b)
  ·rw[if_neg (by omega),if_neg (by omega)]
   have h1:=hfr (c.op==13) (c.op==6) (by rw[hk];rfl) rfl
   exact(((h1.l82 (fs:=fs) (R:=R) b hV0 hV1).l83 (fs:=fs) (R:=R) b hV0 hV1).l102 (fs:=fs) (R:=R) b)
  ·rw[if_neg (by omega),if_neg (by omega)]
   have h1:=hfr (c.op==13) (c.op==6) (by rw[hk];rfl) rfl
   exact((h1.l82 (fs:=fs) (R:=R) b hV0 hV1).l103 (fs:=fs) (R:=R) b hG0 hG1)
  ·rw[if_neg (by omega),if_neg (by omega)]
   have h1:=hfr (c.op==13) (c.op==6) (by rw[hk];rfl) rfl
   exact((h1.l83 (fs:=fs) (R:=R) b hV0 hV1).l103 (fs:=fs) (R:=R) b hG0 hG1)
  ·rw[if_neg (by omega),if_neg (by omega)]
   have h1:=hfr (c.op==13) (c.op==6) (by rw[hk];rfl) rfl
   exact(h1.l83 (fs:=fs) (R:=R) b hV0 hV1)
  ·rw[if_neg (by omega),if_neg (by omega)]
   have h1:=hfr (c.op==13) (c.op==6) (by rw[hk];rfl) rfl
   exact(h1.l74 (fs:=fs) (R:=R) b hfl)
  ·rw[if_neg (by omega),if_neg (by omega)]
   have h1:=hfr (c.op==13) (c.op==6) (by rw[hk];rfl) rfl
   exact((h1.l83 (fs:=fs) (R:=R) b hV0 hV1).l74 (fs:=fs) (R:=R) b hfl)
  ·rw[if_neg (by omega),if_neg (by omega)]
   have h1:=hfr (c.op==13) (c.op==6) (by rw[hk];rfl) rfl
   exact(h1.l82 (fs:=fs) (R:=R) b hV0 hV1)
  ·rw[if_neg (by omega),if_neg (by omega)]
   have h1:=hfr (c.op==13) (c.op==6) (by rw[hk];rfl) rfl
   exact(((h1.l82 (fs:=fs) (R:=R) b hV0 hV1).l83 (fs:=fs) (R:=R) b hV0 hV1).l84 (fs:=fs) (R:=R) b hV0 hV1)
 ·have hob:opB c.op=false:=by unfold opB;simp;omega
  have e1:opE c.op (plainB c.op c.r c.s c.t c.n c.args.length c.rets.length) ((i:Int)==(fl:Int)-1) L 0=12:=by
   unfold opE
   rw[hob,mustE_no,mustE_keep (E:=12) (by decide),mustE_keep (E:=12) (by decide),mustE_keep (E:=12) (by decide)]
  unfold instrL instrE
  rw[if_neg (show ¬ (1≤(inI c s).op∧(inI c s).op≤17) from hop),e1]
  have e2:(partsN c.op.toNat).toList=[]:=by
   rcases Nat.lt_or_ge c.op.toNat 18 with h | h
   ·have:c.op.toNat=0:=by omega
    rw[this];rfl
   ·exact partsN_big _ h
  rw[e2]
  exact⟨rfl,show(12:Int)≠0 by decide⟩
set_option maxRecDepth 100000
set_option maxHeartbeats 1000000
theorem eqBytes_same (v1 v2:Value)(bs:List UInt8)(w:World)(h1:BytesIn w v1 bs)(h2:BytesIn w v2 bs) :
 Calls Tryd.prog 16 #[v1,v2] w fun e w'=>e = .returned (.bool true)∧Fr (fun _=>False) w w':=by
 obtain⟨hL,a1,c1,rfl,hc1,g1⟩:=h1
 obtain⟨-,a2,c2,rfl,hc2,g2⟩:=h2
 have H1:Hd _:=g1
 have H2:Hd _:=g2
 clear g1 g2
 obtain⟨n,hn⟩:∃ n,n=bs.length:=⟨_,rfl⟩
 have HN:Hd (n=bs.length):=hn
 rw[← hn] at hL hc1 hc2 ⊢
 clear hn
 go_enter Tryd.func16,Tryd.ntmps16
 go_wp2_with fail
 go_loopw [5] (fun v wr=>∃ (k:Nat),v = .int .i64 k∧k≤n∧Hd (Fr (fun _=>False) w wr)) (fun v _=>match v with | .int _ q=>n-q.toNat | _=>0)
 case atStart=>exact⟨0,rfl,Nat.zero_le _,Fr.refl _ _⟩
 case round =>
  obtain⟨k,rfl,hk,HF⟩:=hrel
  by_cases hltn:k<n
  ·have hlt:k<bs.length:=by rw[← HN.out];exact hltn
   obtain⟨k1,o1,rfl,hk1,g1⟩:=H1.out (by intro e;simp[e] at hlt)
   obtain⟨k2,o2,rfl,hk2,g2⟩:=H2.out (by intro e;simp[e] at hlt)
   have q1:=(HF.out.cell (o:=o1+k) hk1 (fun h=>h)).trans (g1 k hlt)
   have q2:=(HF.out.cell (o:=o2+k) hk2 (fun h=>h)).trans (g2 k hlt)
   generalize bs[k].toNat=x at *
   have hk0:(0:Int)≤k:=by omega
   have hk3:(k:Int)<n:=by omega
   clear g1 g2 hlt
   go_wp2_with fail
   refine wp_region_still_tail 8 mixed (by kernel_rfl) ?_
   simp only[List.take_succ_cons,List.take_zero,List.drop_succ_cons,List.drop_zero]
   repeat still_step
   refine wpStill_nil ?_
   go_wp2_with fail
   exact⟨⟨k+1,by simp,by omega,HF.out.drew⟩,by simp;omega⟩
  ·have hkn:k=n:=by omega
   subst hkn
   go_wp2_with fail
   go_ret
   exact⟨rfl,HF.out⟩
end Go.Proofs.YtingenonbkencaaDoor
