import Derived.Test.YtingenonbkencaaDoorQN5J
import Derived.Test.YtingenonbkencaaDoorQW4J
import Derived.Test.YtingenonbkencaaDoorQE6J
import Derived.Test.YtingenonbkencaaDoorQA3J
set_option linter.unusedVariables false
set_option linter.unusedSimpArgs false
namespace Go.Proofs.YtingenonbkencaaDoor
open Go.RowKit (wrap32 wrap64)
theorem then_ok {α β:Type}{c:X α}{p:α→X β}{y:β}(h:thenX c p = .ok y):∃ x,c = .ok x∧p x = .ok y:=by
 cases c with
 | ok x=>exact⟨x,rfl,h⟩
 | error z=>cases h
def inFv (f:PF)(cv:Value)(s:WS):WS:={ s with fP:=f.P,fR:=f.R,fV:=f.V,fC:=cv,len:=(f.code.length:Nat) }
def inIv (c:PI)(av rv:Value)(s:WS):WS:={ s with op:=c.op,r:=c.r,s:=c.s,t:=c.t,n:=c.n,args:=av,rets:=rv }
theorem inIv_lies {w:World}{b:Nat}{s:WS}(c:PI)(av rv:Value)(h:Lies w b s) :
 Lies (((((((w.setCell ⟨b,154,none⟩ (vI c.op)).setCell ⟨b,155,none⟩ (vI c.r)).setCell ⟨b,156,none⟩ (vI c.s)).setCell ⟨b,157,none⟩ (vI c.t)).setCell ⟨b,158,none⟩ (vI c.n)).setCell ⟨b,159,none⟩ av).setCell ⟨b,160,none⟩ rv) b (inIv c av rv s):=by
 have h1:=h.setCell (s':={ s with op:=c.op }) 154 (vI c.op) (by kernel_rfl)
 have h2:=h1.setCell (s':={ s with op:=c.op,r:=c.r }) 155 (vI c.r) (by kernel_rfl)
 have h3:=h2.setCell (s':={ s with op:=c.op,r:=c.r,s:=c.s }) 156 (vI c.s) (by kernel_rfl)
 have h4:=h3.setCell (s':={ s with op:=c.op,r:=c.r,s:=c.s,t:=c.t }) 157 (vI c.t) (by kernel_rfl)
 have h5:=h4.setCell (s':={ s with op:=c.op,r:=c.r,s:=c.s,t:=c.t,n:=c.n }) 158 (vI c.n) (by kernel_rfl)
 have h6:=h5.setCell (s':={ s with op:=c.op,r:=c.r,s:=c.s,t:=c.t,n:=c.n,args:=av }) 159 av (by kernel_rfl)
 exact h6.setCell (s':=inIv c av rv s) 160 rv (by kernel_rfl)
def Al {σ:Type}(x x':WS × σ):Prop:=x.1.bare=x'.1.bare∧x.2=x'.2
theorem Al.refl {σ:Type}(x:WS × σ):Al x x:=⟨rfl,rfl⟩
def SimK {σ:Type}(r r':X (WS × σ)):Prop:=match r,r' with
 | .ok y,.ok y'=>Al y y'
 | .error z,.error z'=>z=z'
 | _,_=>False
theorem SimK.refl {σ:Type}(r:X (WS × σ)):SimK r r:=by cases r<;>first | exact rfl | exact Al.refl _
theorem SimK.trans {σ:Type}{r r' r'':X (WS × σ)}(h:SimK r r')(k:SimK r' r''):SimK r r'':=by
 cases r<;>cases r'<;>cases r''<;>first | exact Eq.trans h k | exact h.elim | exact k.elim | exact⟨h.1.trans k.1,h.2.trans k.2⟩
theorem SimK.then {σ:Type}{c c':X (WS × σ)}{p p':WS × σ→X (WS × σ)}(h:SimK c c')(hp:∀ y y',Al y y'→SimK (p y) (p' y')):SimK (thenX c p) (thenX c' p'):=by
 cases c with
 | ok y=>cases c' with
   | ok y'=>exact hp y y' h
   | error z=>exact h.elim
 | error z=>cases c' with
   | ok y'=>exact h.elim
   | error z'=>exact h
theorem SimK.cast {σ:Type}{r r' q q':X (WS × σ)}(h1:r=q)(h2:r'=q')(h:SimK q q'):SimK r r':=by
 subst h1;subst h2;exact h
theorem SimK.ite {σ:Type}{p:Prop} [Decidable p]{a a' c c':X (WS × σ)}(h1:p→SimK a a')(h2:¬ p→SimK c c'):SimK (if p then a else c) (if p then a' else c'):=by
 by_cases h:p
 ·exact SimK.cast (if_pos h) (if_pos h) (h1 h)
 ·exact SimK.cast (if_neg h) (if_neg h) (h2 h)
theorem SimK.err {σ:Type}{z:Int × Int}{T:X (WS × σ)}(h:SimK (.error z) T):T = .error z:=by
 cases T with
 | ok y=>exact h.elim
 | error z'=>exact congrArg _ (Eq.symm h)
theorem SimK.okk {σ:Type}{y:WS × σ}{T:X (WS × σ)}(h:SimK (.ok y) T):∃ y',T = .ok y'∧Al y y':=by
 cases T with
 | ok y'=>exact⟨y',rfl,h⟩
 | error z'=>exact h.elim
theorem get_bareK (s:WS)(o:Nat):s.bare.get o=s.get o:=by unfold WS.get;rfl
theorem set_bareK (s:WS)(o:Nat)(v a:Int):({ s.set o v with at':=a }:WS).bare={ s.bare.set o v with at':=a }:=congrArg (fun t:WS=>{ t with at':=a }) (set_bare s o v)
theorem simK_next {b:Nat}(M:Mode b)(o size:Nat)(x x':WS × M.σ)(h:Al x x'):SimK (nextX M o size x) (nextX M o size x'):=by
 obtain⟨s,st⟩:=x
 obtain⟨s',st'⟩:=x'
 obtain⟨h1,h2⟩:=h
 have h1:s.bare=s'.bare:=h1
 have h2:st=st':=h2
 subst h2
 have ea:s.at'=s'.at':=bare_at h1
 have eg:s.get o=s'.get o:=by rw[← get_bareK s,← get_bareK s',h1]
 unfold nextX
 simp only[ea,eg]
 cases M.eff st s'.at' size (s'.get o) with
 | error z=>exact rfl
 | ok vs =>
   obtain⟨v,st2⟩:=vs
   refine⟨?_,rfl⟩
   show({ s.set o v with at':=adv s'.at' size }:WS).bare=({ s'.set o v with at':=adv s'.at' size }:WS).bare
   rw[set_bareK,set_bareK,h1]
theorem simK_ask {b:Nat}(M:Mode b)(o size:Nat)(c:WS→Bool)(hc:∀ s,c s.bare=c s)(er:Int)(x x':WS × M.σ)(h:Al x x'):SimK (askX M o size c er x) (askX M o size c er x'):=by
 refine SimK.cast (askX_then M o size c er x) (askX_then M o size c er x') (SimK.then (simK_next M o size x x' h) fun y y' hy=>?_)
 have e:c y.1=c y'.1:=by rw[← hc,← hc y'.1,hy.1]
 rw[e]
 exact SimK.ite (fun _=>hy) (fun _=>congrArg (fun z=>(er,z)) (bare_at h.1))
theorem simK_loc {b:Nat}(M:Mode b)(n p:Int)(x x':WS × M.σ)(h:Al x x'):SimK (locX M n p x) (locX M n p x'):=by
 have e:x.1.locs=x'.1.locs:=(congrArg WS.locs h.1:x.1.bare.locs=x'.1.bare.locs)
 unfold locX
 rw[e]
 refine SimK.ite (fun _=>⟨?_,h.2⟩) (fun _=>rfl)
 exact(congrArg (fun t:WS=>({ t with locs:=wrap64 (x'.1.locs+n) }:WS)) h.1:({ x.1.bare with locs:=wrap64 (x'.1.locs+n) }:WS)=_)
theorem simK_front {b:Nat}(M:Mode b)(ends makes nb:Bool)(i:Nat)(p p':Int)(hp:p=p')(x x':WS × M.σ)(h:Al x x'):SimK (frontOk M ends makes nb i p x) (frontOk M ends makes nb i p' x'):=by
 subst hp
 have e:x.1.len=x'.1.len:=(congrArg WS.len h.1:x.1.bare.len=x'.1.bare.len)
 unfold frontOk
 rw[e]
 refine SimK.ite (fun _=>rfl) (fun _=>SimK.ite (fun _=>rfl) (fun _=>SimK.ite (fun _=>simK_loc M 1 p x x' h) (fun _=>h)))
theorem simK_one {b:Nat}(M:Mode b)(v:Int)(x x':WS × M.σ)(h:Al x x'):SimK (oneK M v x) (oneK M v x'):=by
 have e:x.1.fV=x'.1.fV:=(congrArg WS.fV h.1:x.1.bare.fV=x'.1.bare.fV)
 have ea:=bare_at h.1
 unfold oneK
 rw[e,ea,h.2]
 cases M.eff x'.2 x'.1.at' 1 v with
 | error z=>exact rfl
 | ok vs=>exact SimK.ite (fun _=>⟨bare_with h.1 _,rfl⟩) (fun _=>rfl)
theorem simK_vars {b:Nat}(M:Mode b):∀ (l:List Int) (x x':WS × M.σ),Al x x'→SimK (varsK M l x) (varsK M l x')
 | [],_,_,h=>h
 | v::r,x,x',h=>SimK.then (simK_one M v x x' h) (fun y y' hy=>simK_vars M r y y' hy)
theorem simK_list {b:Nat}(M:Mode b)(n:Nat)(l:List Int)(x x':WS × M.σ)(h:Al x x'):SimK (listK M n l x) (listK M n l x'):=by
 unfold listK
 refine SimK.then (simK_next M 161 1 _ _ ⟨?_,h.2⟩) (fun y y' hy=>SimK.ite (fun _=>simK_vars M l y y' hy) (fun _=>congrArg (fun z=>((15:Int),z)) (bare_at h.1)))
 exact(congrArg (fun t:WS=>({ t with count:=l.length }:WS)) h.1:({ x.1.bare with count:=l.length }:WS)=_)
theorem simK_parts {b:Nat}(M:Mode b)(op:Nat)(c c':X (WS × M.σ))(h:SimK c c'):SimK (partsX M op c) (partsX M op c'):=by
 have hv:∀ o (y y':WS × M.σ),Al y y'→SimK (varPart M o y) (varPart M o y'):=fun o y y' hy=>simK_ask M _ _ _ (fun s=>by
  show varOk s.bare.fV (s.bare.get o)=varOk s.fV (s.get o)
  unfold WS.get
  rfl) _ y y' hy
 have hn:∀ (y y':WS × M.σ),Al y y'→SimK (intPart M y) (intPart M y'):=fun y y' hy=>simK_next M _ _ y y' hy
 have hf:∀ (y y':WS × M.σ),Al y y'→SimK (fieldsPart M y) (fieldsPart M y'):=fun y y' hy=>simK_ask M _ _ _ (fun s=>rfl) _ y y' hy
 have hd:∀ (y y':WS × M.σ),Al y y'→SimK (fieldPart M y) (fieldPart M y'):=fun y y' hy=>simK_ask M _ _ _ (fun s=>rfl) _ y y' hy
 have hg:∀ (y y':WS × M.σ),Al y y'→SimK (globalPart M y) (globalPart M y'):=fun y y' hy=>simK_ask M _ _ _ (fun s=>rfl) _ y y' hy
 have ht:∀ (y y':WS × M.σ),Al y y'→SimK (targetPart M y) (targetPart M y'):=fun y y' hy=>simK_ask M _ _ _ (fun s=>rfl) _ y y' hy
 match op with
 | 1=>exact(h.then (hv 155)).then hn
 | 2=>exact(h.then (hv 155)).then (hv 156)
 | 3=>exact((h.then (hv 155)).then (hv 156)).then (hv 157)
 | 4=>exact((h.then (hv 155)).then (hv 156)).then (hv 157)
 | 5=>exact(h.then (hv 155)).then (hv 156)
 | 6=>exact(h.then (hv 155)).then hf
 | 7=>exact((h.then (hv 155)).then (hv 156)).then hd
 | 8=>exact((h.then (hv 155)).then (hv 156)).then hd
 | 9=>exact(h.then (hv 155)).then hg
 | 10=>exact(h.then (hv 156)).then hg
 | 12=>exact h.then (hv 156)
 | 13=>exact h.then ht
 | 14=>exact(h.then (hv 156)).then ht
 | 16=>exact h.then (hv 155)
 | 17=>exact((h.then (hv 155)).then (hv 156)).then (hv 157)
 | 0=>exact h
 | 11=>exact h
 | 15=>exact h
 | n+18=>exact h
theorem simK_instr {b:Nat}(M:Mode b)(heads:List (Nat × Nat))(fR i:Nat)(la lr:List Int)(x x':WS × M.σ)(h:Al x x'):SimK (instrK M heads fR i la lr x) (instrK M heads fR i la lr x'):=by
 have e:x.1.op=x'.1.op:=(congrArg WS.op h.1:x.1.bare.op=x'.1.bare.op)
 have ea:=bare_at h.1
 unfold instrK
 refine SimK.then (simK_next M 154 1 x x' h) (fun y y' hy=>?_)
 have hf:∀ ends makes k,SimK (frontOk M ends makes (nbK k x.1 la.length lr.length) i x.1.at' y) (frontOk M ends makes (nbK k x'.1 la.length lr.length) i x'.1.at' y'):=fun ends makes k=>by
  rw[nbK_bare k x.1 x'.1 _ _ h.1]
  exact simK_front M ends makes _ i _ _ ea _ _ hy
 rw[e]
 refine SimK.ite (fun _=>SimK.ite (fun _=>?_) (fun _=>SimK.ite (fun _=>?_) (fun _=>?_))) (fun _=>congrArg (fun z=>((12:Int),z)) ea)
 ·exact SimK.then (hf true false 15) (fun y y' hy=>simK_list M fR la y y' hy)
 ·unfold callK
  refine SimK.then (SimK.then (hf false false 11) (fun y y' hy=>simK_ask M _ _ _ (fun s=>rfl) _ y y' hy)) (fun y y' hy=>?_)
  have en:y.1.n=y'.1.n:=(congrArg WS.n hy.1:y.1.bare.n=y'.1.bare.n)
  rw[en]
  exact SimK.then (simK_list M _ la y y' hy) (fun z z' hz=>simK_list M _ lr z z' hz)
 ·exact simK_parts M _ _ _ (hf _ _ _)
theorem simK_head {b:Nat}(M:Mode b)(x x':WS × M.σ)(h:Al x x'):SimK (headX M x) (headX M x'):=by
 refine SimK.cast (headX_then M x) (headX_then M x') ?_
 refine SimK.then (simK_next M 149 1 x x' h) (fun y1 y1' h1=>?_)
 refine SimK.then (simK_next M 150 1 y1 y1' h1) (fun y2 y2' h2=>?_)
 refine SimK.then (simK_next M 151 1 y2 y2' h2) (fun y3 y3' h3=>?_)
 refine SimK.then (simK_next M 153 2 y3 y3' h3) (fun y4 y4' h4=>?_)
 have ea:=bare_at h.1
 have e1:y4.1.fV=y4'.1.fV:=(congrArg WS.fV h4.1:y4.1.bare.fV=y4'.1.bare.fV)
 have e2:y4.1.fP=y4'.1.fP:=(congrArg WS.fP h4.1:y4.1.bare.fP=y4'.1.bare.fP)
 have e3:y4.1.fR=y4'.1.fR:=(congrArg WS.fR h4.1:y4.1.bare.fR=y4'.1.bare.fR)
 have e4:y4.1.len=y4'.1.len:=(congrArg WS.len h4.1:y4.1.bare.len=y4'.1.bare.len)
 have ho:headOk y4.1 x.1.at'=headOk y4'.1 x'.1.at':=by
  unfold headOk
  rw[e1,e2,e3,e4,ea]
 rw[ho,e1,ea]
 cases headOk y4'.1 x'.1.at' with
 | error z=>exact rfl
 | ok u=>exact simK_loc M _ _ _ _ h4
def headsK {b:Nat}(M:Mode b):List PF→WS × M.σ→X (WS × M.σ)
 | [],x=>.ok x
 | f::r,x=>thenX (headX M (inF f x.1,x.2)) (headsK M r)
def codeK {b:Nat}(M:Mode b)(heads:List (Nat × Nat))(fR:Nat):Nat→List PI→WS × M.σ→X (WS × M.σ)
 | _,[],x=>.ok x
 | i,c::r,x=>thenX (instrK M heads fR i c.args c.rets (inI c x.1,x.2)) (codeK M heads fR (i+1) r)
def funcsK {b:Nat}(M:Mode b)(heads:List (Nat × Nat)):List PF→WS × M.σ→X (WS × M.σ)
 | [],x=>.ok x
 | f::r,x=>thenX (codeK M heads f.R.toNat 0 f.code (inF f x.1,x.2)) (funcsK M heads r)
def overK {b:Nat}(M:Mode b)(G:Int)(fs:List PF)(x:WS × M.σ):X (WS × M.σ) :=
 thenX (askX M 146 1 (fun s=>decide (0≤s.globals∧s.globals≤16)) 18 ({ x.1 with globals:=G,count:=(fs.length:Nat) },x.2)) fun y =>
  thenX (askX M 161 2 (fun s=>decide (1≤s.count∧s.count≤65535)) 20 y) fun y =>
   thenX (headsK M fs y) (funcsK M (headsOfP fs) fs)
theorem Al.inF {σ:Type}{x x':WS × σ}(f:PF)(h:Al x x'):Al (inF f x.1,x.2) (inF f x'.1,x'.2):=⟨inF_bare f h.1,h.2⟩
theorem Al.inI {σ:Type}{x x':WS × σ}(c:PI)(h:Al x x'):Al (inI c x.1,x.2) (inI c x'.1,x'.2):=⟨inI_bare c h.1,h.2⟩
theorem simK_heads {b:Nat}(M:Mode b):∀ (fs:List PF) (x x':WS × M.σ),Al x x'→SimK (headsK M fs x) (headsK M fs x')
 | [],_,_,h=>h
 | f::r,_,_,h=>SimK.then (simK_head M _ _ (h.inF f)) (fun y y' hy=>simK_heads M r y y' hy)
theorem simK_code {b:Nat}(M:Mode b)(heads:List (Nat × Nat))(fR:Nat):∀ (l:List PI) (i:Nat) (x x':WS × M.σ),Al x x'→SimK (codeK M heads fR i l x) (codeK M heads fR i l x')
 | [],_,_,_,h=>h
 | c::r,i,_,_,h=>SimK.then (simK_instr M heads fR i c.args c.rets _ _ (h.inI c)) (fun y y' hy=>simK_code M heads fR r (i+1) y y' hy)
theorem simK_funcs {b:Nat}(M:Mode b)(heads:List (Nat × Nat)):∀ (fs:List PF) (x x':WS × M.σ),Al x x'→SimK (funcsK M heads fs x) (funcsK M heads fs x')
 | [],_,_,h=>h
 | f::r,_,_,h=>SimK.then (simK_code M heads f.R.toNat f.code 0 _ _ (h.inF f)) (fun y y' hy=>simK_funcs M heads r y y' hy)
def RespK {σ:Type}(p:WS × σ→X (WS × σ)):Prop:=∀ y y',Al y y'→SimK (p y) (p y')
theorem step_simK {σ:Type}{c c':X (WS × σ)}{p K:WS × σ→X (WS × σ)}{T:X (WS × σ)}(h:SimK (thenX (thenX c p) K) T)(hc:SimK c' c)(hp:RespK p)(hK:RespK K) :
 (∀ z,c' = .error z→T = .error z)∧∀ y,c' = .ok y→SimK (thenX (p y) K) T:=by
 have h2:SimK (thenX (thenX c' p) K) T:=(SimK.then (SimK.then hc hp) hK).trans h
 refine⟨fun z e=>?_,fun y e=>?_⟩
 ·subst e;exact h2.err
 ·subst e;exact h2
theorem heads_stepK {b:Nat}{M:Mode b}{fs:List PF}{k:Nat}(hk:k<fs.length){x x2:WS × M.σ}{H:List (Nat × Nat)}{T:X (WS × M.σ)}(h:SimK (thenX (headsK M (fs.drop k) x) (funcsK M H fs)) T)(hs:Al x2 (inF fs[k] x.1,x.2)) :
 (∀ z,headX M x2 = .error z→T = .error z)∧∀ y,headX M x2 = .ok y→SimK (thenX (headsK M (fs.drop (k+1)) y) (funcsK M H fs)) T:=by
 rw[List.drop_eq_getElem_cons hk] at h
 exact step_simK h (simK_head M x2 _ hs) (fun y y' hy=>simK_heads M _ y y' hy) (fun y y' hy=>simK_funcs M H fs y y' hy)
theorem code_stepK {b:Nat}{M:Mode b}{fs:List PF}{c:List PI}{i fR:Nat}(hi:i<c.length){x x2:WS × M.σ}{H:List (Nat × Nat)}{T:X (WS × M.σ)}(h:SimK (thenX (codeK M H fR i (c.drop i) x) (funcsK M H fs)) T)(hs:Al x2 (inI c[i] x.1,x.2)) :
 (∀ z,instrK M H fR i c[i].args c[i].rets x2 = .error z→T = .error z)∧∀ y,instrK M H fR i c[i].args c[i].rets x2 = .ok y→SimK (thenX (codeK M H fR (i+1) (c.drop (i+1)) y) (funcsK M H fs)) T:=by
 rw[List.drop_eq_getElem_cons hi] at h
 exact step_simK h (simK_instr M H fR i c[i].args c[i].rets x2 _ hs) (fun y y' hy=>simK_code M H fR _ _ y y' hy) (fun y y' hy=>simK_funcs M H fs y y' hy)
theorem code_endK {b:Nat}{M:Mode b}{fs:List PF}{c:List PI}{fR:Nat}{x:WS × M.σ}{H:List (Nat × Nat)}{T:X (WS × M.σ)}{i:Nat}(hi:i=c.length)(h:SimK (thenX (codeK M H fR i (c.drop i) x) (funcsK M H fs)) T):SimK (funcsK M H fs x) T:=by
 subst hi
 rw[List.drop_length] at h
 exact h
theorem heads_endK {b:Nat}{M:Mode b}{fs:List PF}{x:WS × M.σ}{H:List (Nat × Nat)}{T:X (WS × M.σ)}{i:Nat}(hi:i=fs.length)(h:SimK (thenX (headsK M (fs.drop i) x) (funcsK M H fs)) T):SimK (funcsK M H fs x) T:=by
 subst hi
 rw[List.drop_length] at h
 exact h
theorem funcs_beginK {b:Nat}{M:Mode b}{fs:List PF}{k:Nat}(hk:k<fs.length){x x2:WS × M.σ}{H:List (Nat × Nat)}{T:X (WS × M.σ)}(h:SimK (funcsK M H (fs.drop k) x) T)(hs:Al x2 (inF fs[k] x.1,x.2)) :
 SimK (thenX (codeK M H fs[k].R.toNat 0 (fs[k].code.drop 0) x2) (funcsK M H (fs.drop (k+1)))) T:=by
 rw[List.drop_eq_getElem_cons hk] at h
 exact(SimK.then (simK_code M H _ _ _ x2 _ hs) (fun y y' hy=>simK_funcs M H _ y y' hy)).trans h
theorem funcs_endK {b:Nat}{M:Mode b}{fs:List PF}{x:WS × M.σ}{H:List (Nat × Nat)}{T:X (WS × M.σ)}{i:Nat}(hi:i=fs.length)(h:SimK (funcsK M H (fs.drop i) x) T):SimK (.ok x) T:=by
 subst hi
 rw[List.drop_length] at h
 exact h
theorem headK_goes {b:Nat}{M:Mode b}{rm:M.σ→Nat}(hR:RoomGoes M rm){x y:WS × M.σ}(h:headX M x = .ok y):rm x.2≤rm y.2+4:=by
 rw[headX_then] at h
 obtain⟨y1,h1,h⟩:=then_ok h
 obtain⟨y2,h2,h⟩:=then_ok h
 obtain⟨y3,h3,h⟩:=then_ok h
 obtain⟨y4,h4,h⟩:=then_ok h
 obtain⟨u,-,h⟩:=then_ok h
 have e:=loc_snd h
 have a1:=hR _ _ _ _ h1
 have a2:=hR _ _ _ _ h2
 have a3:=hR _ _ _ _ h3
 have a4:=hR _ _ _ _ h4
 rw[e]
 omega
theorem headK_state {b:Nat}{M:Mode b}{rm:M.σ→Nat}(hM:KM M rm){x y:WS × M.σ}(hp:4≤rm x.2)(h:headX M x = .ok y):y.1.fP=x.1.fP∧y.1.fR=x.1.fR∧y.1.fV=x.1.fV∧y.1.len=x.1.len:=by
 obtain⟨s,st⟩:=x
 have hp:4≤rm st:=hp
 obtain⟨st1,e1,r1⟩:=K_next hM 149 1 s st (by omega)
 obtain⟨st2,e2,r2⟩:=K_next hM 150 1 { s with at':=adv s.at' 1 } st1 (by omega)
 obtain⟨st3,e3,r3⟩:=K_next hM 151 1 { s with at':=adv (adv s.at' 1) 1 } st2 (by omega)
 obtain⟨st4,e4,r4⟩:=K_next hM 153 2 { s with at':=adv (adv (adv s.at' 1) 1) 1 } st3 (by omega)
 have h:=(headX_then M (s,st)).symm.trans h
 rw[e1] at h
 simp only[thenX] at h
 rw[e2] at h
 simp only at h
 rw[e3] at h
 simp only at h
 rw[e4] at h
 simp only at h
 split at h
 ·unfold locX at h
  split at h
  ·cases h;exact⟨rfl,rfl,rfl,rfl⟩
  ·cases h
 ·cases h
theorem headK_fine {b:Nat}{M:Mode b}{rm:M.σ→Nat}(hM:KM M rm){f:PF}{s:WS}{st:M.σ}{y:WS × M.σ}(hp:4≤rm st)(hP:s.fP=f.P)(hR:s.fR=f.R)(hV:s.fV=f.V)(hl:s.len=(f.code.length:Nat))(h:headX M (s,st) = .ok y):FineF f:=by
 obtain⟨-,h1,h2,h3,h4,h5⟩:=headX_ok h
 obtain⟨e1,e2,e3,e4⟩:=headK_state hM (x:=(s,st)) hp h
 have e1:y.1.fP=s.fP:=e1
 have e2:y.1.fR=s.fR:=e2
 have e3:y.1.fV=s.fV:=e3
 have e4:y.1.len=s.len:=e4
 rw[e3,hV] at h1
 rw[e1,hP] at h2
 rw[e2,hR] at h3
 rw[e4,hl] at h4 h5
 exact⟨h1,h2,h3,by omega,by omega⟩
def CS (S:Nat→Prop)(w:World)(v:Value)(c:List PI):Prop :=
 c.length≤1000000000000000∧∃ a cp,v = .slice a c.length cp∧(c≠[]→∃ k o,a=some ⟨k,o,none⟩∧k<w.heap.size∧¬ S k∧∀ j (h:j<c.length),∃ av rv,
  w.cell? ⟨k,o+j*7,none⟩=some (vI c[j].op)∧w.cell? ⟨k,o+j*7+1,none⟩=some (vI c[j].r)∧w.cell? ⟨k,o+j*7+2,none⟩=some (vI c[j].s)∧w.cell? ⟨k,o+j*7+3,none⟩=some (vI c[j].t)∧w.cell? ⟨k,o+j*7+4,none⟩=some (vI c[j].n) ∧
  w.cell? ⟨k,o+j*7+5,none⟩=some av∧w.cell? ⟨k,o+j*7+6,none⟩=some rv∧IS S w av c[j].args∧IS S w rv c[j].rets∧c[j].args.length≤1000000000000000∧c[j].rets.length≤1000000000000000)
def FS (S:Nat→Prop)(w:World)(v:Value)(fs:List PF):Prop :=
 fs.length≤1000000000000000∧∃ a cp,v = .slice a fs.length cp∧(fs≠[]→∃ k o,a=some ⟨k,o,none⟩∧k<w.heap.size∧¬ S k∧∀ j (h:j<fs.length),∃ cv,
  w.cell? ⟨k,o+j*4,none⟩=some (vI fs[j].P)∧w.cell? ⟨k,o+j*4+1,none⟩=some (vI fs[j].R)∧w.cell? ⟨k,o+j*4+2,none⟩=some (vI fs[j].V)∧w.cell? ⟨k,o+j*4+3,none⟩=some cv∧CS S w cv fs[j].code)
theorem IL.out {b:Nat}{S:Nat→Prop}{w:World}{v:Value}{l:List Int}(h:IL b w v l)(hS:∀ k,k<w.heap.size→k≠b→¬ S k):IS S w v l:=by
 obtain⟨a,c,e,h⟩:=h
 refine⟨a,c,e,fun hne=>?_⟩
 obtain⟨k,o,e,hk,hb,hc⟩:=h hne
 exact⟨k,o,e,hk,hS k hk hb,hc⟩
theorem CL.out {b:Nat}{S:Nat→Prop}{w:World}{v:Value}{c:List PI}(h:CL b w v c)(hS:∀ k,k<w.heap.size→k≠b→¬ S k):CS S w v c:=by
 obtain⟨h0,a,cp,e,h⟩:=h
 refine⟨h0,a,cp,e,fun hne=>?_⟩
 obtain⟨k,o,e,hk,hb,hc⟩:=h hne
 refine⟨k,o,e,hk,hS k hk hb,fun j hj=>?_⟩
 obtain⟨av,rv,h1,h2,h3,h4,h5,h6,h7,h8,h9,h10⟩:=hc j hj
 exact⟨av,rv,h1,h2,h3,h4,h5,h6,h7,h8.out hS,h9.out hS,h10⟩
theorem FL.out {b:Nat}{S:Nat→Prop}{w:World}{v:Value}{fs:List PF}(h:FL b w v fs)(hS:∀ k,k<w.heap.size→k≠b→¬ S k):FS S w v fs:=by
 obtain⟨h0,a,cp,e,h⟩:=h
 refine⟨h0,a,cp,e,fun hne=>?_⟩
 obtain⟨k,o,e,hk,hb,hc⟩:=h hne
 refine⟨k,o,e,hk,hS k hk hb,fun j hj=>?_⟩
 obtain⟨cv,h1,h2,h3,h4,h5⟩:=hc j hj
 exact⟨cv,h1,h2,h3,h4,h5.out hS⟩
set_option maxRecDepth 100000
set_option maxHeartbeats 1000000
def startW (w:World)(rv:Value):World :=
 ((((((w.alloc (.cells #[vI 0,.slice none 0 0] 26)).alloc (.cells #[rv] 45)).alloc (.cells rowsC 85)).alloc (.cells (WS.start (readerFn rv)).cells 87)).alloc (.cells #[.pointer (some ⟨w.heap.size+3,0,none⟩)] 46)).alloc (.cells #[vI 0,.slice none 0 0] 26)).alloc (.cells #[vI 0,vI 0] 50)
def Spared (n:Nat)(w:World):Prop:=w.heap[n]?=some (.cells #[vI 0,.slice none 0 0] 26)∧Unsaid (n+6) w
theorem results_cell3 {fn:Func}{p u v:Tmp}{ty:TypeId}(h:fn.results=#[.cell p ty,.tmp u,.tmp v])(tmps:Array Value)(P:Program)(w:World) :
 (results fn tmps).run P w=((asAddr (tmps.getD p undef)).run P w).andThen fun a w₁=>((loadVar ty a).run P w₁).andThen fun x w₂=>.ok (.tuple #[x,tmps.getD u undef,tmps.getD v undef]) w₂:=by
 simp only[results,h]
 simp[Sem.run_bind,Result.andThen]
def Decoded (n:Nat)(J:Int→Option Addr→Nat→Nat→World→Prop)(Pn:Int→Int→World→Prop)(e:Ending)(w':World):Prop :=
 (∃ G a l c w0,J G a l c w0∧e = .returned (.tuple #[.agg #[vI G,.slice a l c],vI 0,vI 0])∧Fr (fun k=>n≤k∧k<n+7) w0 w') ∨
   ∃ er at' w0,Pn er at' w0∧e = .returned (.tuple #[.agg #[vI 0,.slice none 0 0],vI er,vI at'])∧Fr (fun k=>n≤k∧k<n+7) w0 w'
theorem decode_any (ra:Option Addr)(rl rc:Nat)(w:World)(J:Int→Option Addr→Nat→Nat→World→Prop)(Pn:Int→Int→World→Prop)
 (hJ0:∀ G a n c w0,J G a n c w0→Spared w.heap.size w0∧(∃ u0 u1,w0.cell? ⟨w.heap.size+5,0,none⟩=some u0∧w0.cell? ⟨w.heap.size+5,1,none⟩=some u1))
 (hP0:∀ er at' w0,Pn er at' w0→er≠0∧Spared w.heap.size w0)
 (ht:Calls Tryd.prog 33 #[.pointer (some ⟨w.heap.size+3,0,none⟩),.agg #[.slice ra rl rc]] (startW w (.slice ra rl rc)) (Went (w.heap.size+5) J Pn)) :
 Calls Tryd.prog 10 #[.slice ra rl rc] w (Decoded w.heap.size J Pn):=by
 have hmf:∀ (fn:Fn) (first cap:Array Value) (w:World),(Instr.makeFunc fn first cap).run Tryd.prog w = .ok (.func fn first cap) w:=fun _ _ _ _=>rfl
 generalize hR:w.heap.size=R at *
 have hfv:Calls Tryd.prog 31 #[.func (.func 32) #[] #[.pointer (some ⟨R+4,0,none⟩),.pointer (some ⟨R+1,0,none⟩),.pointer (some ⟨R+5,0,none⟩)]]
  ((((((w.alloc (.cells #[vI 0,.slice none 0 0] 26)).alloc (.cells #[.slice ra rl rc] 45)).alloc (.cells rowsC 85)).alloc (.cells (WS.start (readerFn (.slice ra rl rc))).cells 87)).alloc (.cells #[.pointer (some ⟨R+3,0,none⟩)] 46)).alloc (.cells #[vI 0,.slice none 0 0] 26))
  (Said1 (R+6) (fun w1=>∃ G a n c w0,J G a n c w0∧w1=(w0.setCell ⟨R+5,0,none⟩ (vI G)).setCell ⟨R+5,1,none⟩ (.slice a n c)) Pn):=by
  have hsz:((((((w.alloc (.cells #[vI 0,.slice none 0 0] 26)).alloc (.cells #[.slice ra rl rc] 45)).alloc (.cells rowsC 85)).alloc (.cells (WS.start (readerFn (.slice ra rl rc))).cells 87)).alloc (.cells #[.pointer (some ⟨R+3,0,none⟩)] 46)).alloc (.cells #[vI 0,.slice none 0 0] 26)).heap.size=R+6:=by simp[hR]
  have:=firstViolation_any 32 #[.pointer (some ⟨R+4,0,none⟩),.pointer (some ⟨R+1,0,none⟩),.pointer (some ⟨R+5,0,none⟩)]
   ((((((w.alloc (.cells #[vI 0,.slice none 0 0] 26)).alloc (.cells #[.slice ra rl rc] 45)).alloc (.cells rowsC 85)).alloc (.cells (WS.start (readerFn (.slice ra rl rc))).cells 87)).alloc (.cells #[.pointer (some ⟨R+3,0,none⟩)] 46)).alloc (.cells #[vI 0,.slice none 0 0] 26))
   (fun w1=>∃ G a n c w0,J G a n c w0∧w1=(w0.setCell ⟨R+5,0,none⟩ (vI G)).setCell ⟨R+5,1,none⟩ (.slice a n c)) Pn (fun _=>by kernel_rfl)
  rw[hsz] at this
  refine this ?_
  have hst:startW w (.slice ra rl rc)=((((((w.alloc (.cells #[vI 0,.slice none 0 0] 26)).alloc (.cells #[.slice ra rl rc] 45)).alloc (.cells rowsC 85)).alloc (.cells (WS.start (readerFn (.slice ra rl rc))).cells 87)).alloc (.cells #[.pointer (some ⟨R+3,0,none⟩)] 46)).alloc (.cells #[vI 0,.slice none 0 0] 26)).alloc (.cells #[vI 0,vI 0] 50):=by
   unfold startW;rw[hR]
  rw[← hst]
  refine(decode1_any (R+4) (R+1) (R+5) (R+3) ra rl rc _ ?_ ?_ J Pn ht).mono ?_
  ·rw[hst]
   rw[World.cell?_alloc_past _ _ _ (by simp[hR]),World.cell?_alloc_past _ _ _ (by simp[hR]),World.cell?_alloc_at _ _ _ _ (by simp[hR])];rfl
  ·rw[hst]
   rw[World.cell?_alloc_past _ _ _ (by simp[hR]),World.cell?_alloc_past _ _ _ (by simp[hR]),World.cell?_alloc_past _ _ _ (by simp[hR]),World.cell?_alloc_past _ _ _ (by simp[hR]),World.cell?_alloc_past _ _ _ (by simp[hR]),World.cell?_alloc_at _ _ _ _ (by simp[hR])];rfl
  ·rintro e w1 (⟨rfl,G,a,n,c,w0,hJ,rfl⟩|⟨er,at',rfl,hP⟩)
   ·have hu:=(hJ0 _ _ _ _ _ hJ).1.2
    refine⟨⟨?_,?_,?_⟩,Or.inl ⟨rfl,G,a,n,c,w0,hJ,rfl⟩⟩
    ·rw[World.cell?_setCell_other _ _ _ _ (by simp),World.cell?_setCell_other _ _ _ _ (by simp)];exact hu.1
    ·rw[World.cell?_setCell_other _ _ _ _ (by simp),World.cell?_setCell_other _ _ _ _ (by simp)];exact hu.2.1
    ·intro o;rw[World.frozen?_setCell,World.frozen?_setCell];exact hu.2.2 o
   ·exact⟨(hP0 _ _ _ hP).2.2,Or.inr ⟨er,at',rfl,hP⟩⟩
 clear ht
 go_enter Tryd.func10,Tryd.ntmps10
 go_wp2_with fail
 refine(newWalk_any _ _ _ _).mono ?_
 rintro e w1 ⟨rfl,rfl⟩
 go_wp2_with fail
 refine hfv.mono ?_
 rintro e w2 ⟨er,at',w3,rfl,rfl,hcase⟩
 clear hfv
 rcases hcase with⟨rfl,rfl,G,a,n,c,w0,hJ,rfl⟩ | hP
 ·obtain⟨⟨hs1,hs2,hs3,hs4⟩,u0,u1,hu0,hu1⟩:=hJ0 _ _ _ _ _ hJ
  have hlt6:R+6<w0.heap.size:=by
   unfold World.cell? at hs2
   by_cases hk:R+6<w0.heap.size
   ·exact hk
   ·simp[Array.getElem?_eq_none (Nat.le_of_not_lt hk)] at hs2
  have hfr:Fr (fun k=>R≤k∧k<R+7) w0 ((((w0.setCell ⟨R+5,0,none⟩ (vI G)).setCell ⟨R+5,1,none⟩ (.slice a n c)).setCell ⟨R+6,0,none⟩ (vI 0)).setCell ⟨R+6,1,none⟩ (vI 0)) :=
   Fr.setCell (Fr.setCell (Fr.setCell (Fr.setCell (Fr.refl _ w0) _ _ (Or.inl ⟨by show R≤R+5;omega,by show R+5<R+7;omega⟩)) _ _ (Or.inl ⟨by show R≤R+5;omega,by show R+5<R+7;omega⟩)) _ _ (Or.inl ⟨by show R≤R+6;omega,by show R+6<R+7;omega⟩)) _ _ (Or.inl ⟨by show R≤R+6;omega,by show R+6<R+7;omega⟩)
  have c0:((((w0.setCell ⟨R+5,0,none⟩ (vI G)).setCell ⟨R+5,1,none⟩ (.slice a n c)).setCell ⟨R+6,0,none⟩ (vI 0)).setCell ⟨R+6,1,none⟩ (vI 0)).cell? ⟨R+5,0,none⟩=some (vI G):=by
   rw[World.cell?_setCell_other _ _ _ _ (by simp),World.cell?_setCell_other _ _ _ _ (by simp),World.cell?_setCell_other _ _ _ _ (by simp)]
   exact World.cell?_setCell_same _ _ _ hu0
  have c1:((((w0.setCell ⟨R+5,0,none⟩ (vI G)).setCell ⟨R+5,1,none⟩ (.slice a n c)).setCell ⟨R+6,0,none⟩ (vI 0)).setCell ⟨R+6,1,none⟩ (vI 0)).cell? ⟨R+5,1,none⟩=some (.slice a n c):=by
   rw[World.cell?_setCell_other _ _ _ _ (by simp),World.cell?_setCell_other _ _ _ _ (by simp)]
   exact World.cell?_setCell_same _ _ _ (by rw[World.cell?_setCell_other _ _ _ _ (by simp)];exact hu1)
  have cR:((((w0.setCell ⟨R+5,0,none⟩ (vI G)).setCell ⟨R+5,1,none⟩ (.slice a n c)).setCell ⟨R+6,0,none⟩ (vI 0)).setCell ⟨R+6,1,none⟩ (vI 0)).heap[R]?=some (.cells #[vI 0,.slice none 0 0] 26):=by
   rw[RowKit.Below.heap_setCell _ _ _ _ (by show R≠R+6;omega),RowKit.Below.heap_setCell _ _ _ _ (by show R≠R+6;omega),RowKit.Below.heap_setCell _ _ _ _ (by show R≠R+5;omega),RowKit.Below.heap_setCell _ _ _ _ (by show R≠R+5;omega)];exact hs1
  have hsz2:R+6<((((w0.setCell ⟨R+5,0,none⟩ (vI G)).setCell ⟨R+5,1,none⟩ (.slice a n c)).setCell ⟨R+6,0,none⟩ (vI 0)).setCell ⟨R+6,1,none⟩ (vI 0)).heap.size:=by simpa using hlt6
  generalize ((((w0.setCell ⟨R+5,0,none⟩ (vI G)).setCell ⟨R+5,1,none⟩ (.slice a n c)).setCell ⟨R+6,0,none⟩ (vI 0)).setCell ⟨R+6,1,none⟩ (vI 0))=w4 at hfr c0 c1 cR hsz2 ⊢
  have cR0:w4.cell? ⟨R,0,none⟩=some (vI 0):=by unfold World.cell?;simp[cR]
  have cR1:w4.cell? ⟨R,1,none⟩=some (.slice none 0 0):=by unfold World.cell?;simp[cR]
  have cRz:∀ o,w4.frozen? ⟨R,o,none⟩=false:=by intro o;unfold World.frozen?;simp[cR]
  have hRl:R<w4.heap.size:=by omega
  have hR5:R+5<w4.heap.size:=by omega
  have hRx:R+1+1+1+1+1<w4.heap.size:=by omega
  go_wp2_with fail
  refine⟨rfl,.tuple #[.agg #[vI G,.slice a n c],vI 0,vI 0],?_,Or.inl ⟨G,a,n,c,w0,hJ,rfl,?_⟩⟩
  ·rw[results_cell3 (p:=2) (u:=3) (v:=4) (ty:=26) Tryd.results10]
   simp[go_sem,cR0,cR1,hRl]
  ·exact hfr.trans (Fr.alloc (Fr.setCell (Fr.setCell (Fr.refl _ w4) _ _ (Or.inl ⟨by show R≤R;omega,by show R<R+7;omega⟩)) _ _ (Or.inl ⟨by show R≤R;omega,by show R<R+7;omega⟩)) _)
 ·obtain⟨her,hs1,hs2,hs3,hs4⟩:=hP0 _ _ _ hP
  have hlt6:R+6<w3.heap.size:=by
   unfold World.cell? at hs2
   by_cases hk:R+6<w3.heap.size
   ·exact hk
   ·simp[Array.getElem?_eq_none (Nat.le_of_not_lt hk)] at hs2
  have hfr:Fr (fun k=>R≤k∧k<R+7) w3 ((w3.setCell ⟨R+6,0,none⟩ (vI er)).setCell ⟨R+6,1,none⟩ (vI at')) :=
   Fr.setCell (Fr.setCell (Fr.refl _ w3) _ _ (Or.inl ⟨by show R≤R+6;omega,by show R+6<R+7;omega⟩)) _ _ (Or.inl ⟨by show R≤R+6;omega,by show R+6<R+7;omega⟩)
  have cR:((w3.setCell ⟨R+6,0,none⟩ (vI er)).setCell ⟨R+6,1,none⟩ (vI at')).heap[R]?=some (.cells #[vI 0,.slice none 0 0] 26):=by
   rw[RowKit.Below.heap_setCell _ _ _ _ (by show R≠R+6;omega),RowKit.Below.heap_setCell _ _ _ _ (by show R≠R+6;omega)];exact hs1
  have hsz2:R+6<((w3.setCell ⟨R+6,0,none⟩ (vI er)).setCell ⟨R+6,1,none⟩ (vI at')).heap.size:=by simpa using hlt6
  generalize ((w3.setCell ⟨R+6,0,none⟩ (vI er)).setCell ⟨R+6,1,none⟩ (vI at'))=w4 at hfr cR hsz2 ⊢
  have cR0:w4.cell? ⟨R,0,none⟩=some (vI 0):=by unfold World.cell?;simp[cR]
  have cR1:w4.cell? ⟨R,1,none⟩=some (.slice none 0 0):=by unfold World.cell?;simp[cR]
  have cRz:∀ o,w4.frozen? ⟨R,o,none⟩=false:=by intro o;unfold World.frozen?;simp[cR]
  have hRl:R<w4.heap.size:=by omega
  have hne:(er != 0)=true:=by rw[bne_iff_ne];exact her
  clear her
  go_wp2_with fail
  have d0:(w4.alloc (.cells #[vI er,vI at'] 50)).cell? ⟨w4.heap.size,0,none⟩=some (vI er):=by simp
  have d1:(w4.alloc (.cells #[vI er,vI at'] 50)).cell? ⟨w4.heap.size,1,none⟩=some (vI at'):=by simp
  have dR0:(w4.alloc (.cells #[vI er,vI at'] 50)).cell? ⟨R,0,none⟩=some (vI 0):=by rw[World.cell?_alloc_past _ _ _ hRl];exact cR0
  have dR1:(w4.alloc (.cells #[vI er,vI at'] 50)).cell? ⟨R,1,none⟩=some (.slice none 0 0):=by rw[World.cell?_alloc_past _ _ _ hRl];exact cR1
  have dRz:∀ o,(w4.alloc (.cells #[vI er,vI at'] 50)).frozen? ⟨R,o,none⟩=false:=by intro o;rw[World.frozen?_alloc_past _ _ _ hRl];exact cRz o
  have hfr5:Fr (fun k=>R≤k∧k<R+7) w3 (w4.alloc (.cells #[vI er,vI at'] 50)):=Fr.alloc hfr _
  have hl5:R<(w4.alloc (.cells #[vI er,vI at'] 50)).heap.size:=by simp;omega
  change Code.wp _ _ _ _ (w4.alloc (.cells #[vI er,vI at'] 50))
  generalize (w4.alloc (.cells #[vI er,vI at'] 50))=w5 at d0 d1 dR0 dR1 dRz hfr5 hl5 ⊢
  go_region
  all_goals
   go_wp2_with fail
   refine⟨rfl,.tuple #[.agg #[vI 0,.slice none 0 0],vI er,vI at'],?_,Or.inr ⟨er,at',w3,hP,rfl,?_⟩⟩
   ·rw[results_cell3 (p:=2) (u:=3) (v:=4) (ty:=26) Tryd.results10]
    simp[go_sem,dR0,dR1]
   ·exact hfr5.trans (Fr.drew (Fr.setCell (Fr.setCell (Fr.refl _ w5) _ _ (Or.inl ⟨by show R≤R;omega,by show R<R+7;omega⟩)) _ _ (Or.inl ⟨by show R≤R;omega,by show R<R+7;omega⟩)))
end Go.Proofs.YtingenonbkencaaDoor
