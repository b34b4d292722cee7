import Derived.Test.YtingenonbkencaaDoorQW3J
import Derived.Test.YtingenonbkencaaDoorQS1J
set_option linter.unusedVariables false
set_option linter.unusedSimpArgs false
namespace Go.Proofs.YtingenonbkencaaDoor
open Go.RowKit (wrap32 wrap64)
def CL (b:Nat)(w:World)(v:Value)(c:List PI):Prop :=
 c.length≤1000000000000000∧∃ a cp,v = .slice a c.length cp∧(c≠[]→∃ k o,a=some ⟨k,o,none⟩∧k<w.heap.size∧k≠b∧∀ j (h:j<c.length),∃ av rv,
  w.cell? ⟨k,o+j*7,none⟩=some (vI c[j].op)∧w.cell? ⟨k,o+j*7+1,none⟩=some (vI c[j].r)∧w.cell? ⟨k,o+j*7+2,none⟩=some (vI c[j].s)∧w.cell? ⟨k,o+j*7+3,none⟩=some (vI c[j].t)∧w.cell? ⟨k,o+j*7+4,none⟩=some (vI c[j].n) ∧
  w.cell? ⟨k,o+j*7+5,none⟩=some av∧w.cell? ⟨k,o+j*7+6,none⟩=some rv∧IL b w av c[j].args∧IL b w rv c[j].rets∧c[j].args.length≤1000000000000000∧c[j].rets.length≤1000000000000000)
def FL (b:Nat)(w:World)(v:Value)(fs:List PF):Prop :=
 fs.length≤1000000000000000∧∃ a cp,v = .slice a fs.length cp∧(fs≠[]→∃ k o,a=some ⟨k,o,none⟩∧k<w.heap.size∧k≠b∧∀ j (h:j<fs.length),∃ cv,
  w.cell? ⟨k,o+j*4,none⟩=some (vI fs[j].P)∧w.cell? ⟨k,o+j*4+1,none⟩=some (vI fs[j].R)∧w.cell? ⟨k,o+j*4+2,none⟩=some (vI fs[j].V)∧w.cell? ⟨k,o+j*4+3,none⟩=some cv∧CL b w cv fs[j].code)
theorem CL.fr {S:Nat→Prop}{b:Nat}{w w':World}{v:Value}{c:List PI}(h:CL b w v c)(f:Fr S w w')(hS:∀ k,S k→k=b):CL b w' v c:=by
 obtain⟨h0,a,cp,e,h⟩:=h
 refine⟨h0,a,cp,e,fun hne=>?_⟩
 obtain⟨k,o,e,hk,hb,hc⟩:=h hne
 refine⟨k,o,e,Nat.lt_of_lt_of_le hk f.size,hb,fun j hj=>?_⟩
 obtain⟨av,rv,h1,h2,h3,h4,h5,h6,h7,h8,h9,h10⟩:=hc j hj
 have g:∀ o,w'.cell? ⟨k,o,none⟩=w.cell? ⟨k,o,none⟩:=fun o=>f.cell hk (fun h=>hb (hS k h))
 exact⟨av,rv,(g _).trans h1,(g _).trans h2,(g _).trans h3,(g _).trans h4,(g _).trans h5,(g _).trans h6,(g _).trans h7,h8.fr f hS,h9.fr f hS,h10⟩
theorem FL.fr {S:Nat→Prop}{b:Nat}{w w':World}{v:Value}{fs:List PF}(h:FL b w v fs)(f:Fr S w w')(hS:∀ k,S k→k=b):FL b w' v fs:=by
 obtain⟨h0,a,cp,e,h⟩:=h
 refine⟨h0,a,cp,e,fun hne=>?_⟩
 obtain⟨k,o,e,hk,hb,hc⟩:=h hne
 refine⟨k,o,e,Nat.lt_of_lt_of_le hk f.size,hb,fun j hj=>?_⟩
 obtain⟨cv,h1,h2,h3,h4,h5⟩:=hc j hj
 have g:∀ o,w'.cell? ⟨k,o,none⟩=w.cell? ⟨k,o,none⟩:=fun o=>f.cell hk (fun h=>hb (hS k h))
 exact⟨cv,(g _).trans h1,(g _).trans h2,(g _).trans h3,(g _).trans h4,h5.fr f hS⟩
def SimX (r r':X (WS × Unit)):Prop:=match r,r' with
 | .ok y,.ok y'=>y.1.bare=y'.1.bare
 | .error z,.error z'=>z=z'
 | _,_=>False
theorem SimX.then {c c':X (WS × Unit)}{p p':WS × Unit→X (WS × Unit)}(h:SimX c c')(hp:∀ y y',y.1.bare=y'.1.bare→SimX (p y) (p' y')):SimX (thenX c p) (thenX c' p'):=by
 cases c with
 | ok y=>cases c' with
   | ok y'=>exact hp y y' h
   | error z=>exact h.elim
 | error z=>cases c' with
   | ok y'=>exact h.elim
   | error z'=>exact h
theorem SimX.cast {r r' q q':X (WS × Unit)}(h1:r=q)(h2:r'=q')(h:SimX q q'):SimX r r':=by
 subst h1;subst h2;exact h
theorem bare_at {s s':WS}(h:s.bare=s'.bare):s.at'=s'.at':=(congrArg WS.at' h:s.bare.at'=s'.bare.at')
theorem bare_with {s s':WS}(h:s.bare=s'.bare)(a:Int):({ s with at':=a }:WS).bare=({ s' with at':=a }:WS).bare:=(congrArg (fun t:WS=>({ t with at':=a }:WS)) h:({ s.bare with at':=a }:WS)={ s'.bare with at':=a })
theorem L_ask {b:Nat}(o size:Nat)(c:WS→Bool)(er:Int)(s:WS)(u:Unit):askX (leaving b) o size c er (s,u)=if c { s with at':=adv s.at' size } then .ok ({ s with at':=adv s.at' size },u) else .error (er,s.at'):=by
 unfold askX
 split
 ·rename_i y hy
  have hy2:=Except.ok.inj (hy.symm.trans (L_next o size s u))
  subst hy2
  rfl
 ·rename_i z hz
  cases hz.symm.trans (L_next o size s u)
theorem sim_next {b:Nat}(o size:Nat)(x x':WS × Unit)(h:x.1.bare=x'.1.bare):SimX (nextX (leaving b) o size x) (nextX (leaving b) o size x'):=by
 obtain⟨s,u⟩:=x
 obtain⟨s',u'⟩:=x'
 have h:s.bare=s'.bare:=h
 refine SimX.cast (L_next o size s u) (L_next o size s' u') ?_
 show _=_
 rw[bare_at h]
 exact bare_with h _
theorem sim_ask {b:Nat}(o size:Nat)(c:WS→Bool)(hc:∀ s,c s.bare=c s)(er:Int)(x x':WS × Unit)(h:x.1.bare=x'.1.bare):SimX (askX (leaving b) o size c er x) (askX (leaving b) o size c er x'):=by
 obtain⟨s,u⟩:=x
 obtain⟨s',u'⟩:=x'
 have h:s.bare=s'.bare:=h
 have hb:=bare_with h (adv s.at' size)
 have e:c { s with at':=adv s.at' size }=c { s' with at':=adv s'.at' size }:=by rw[← hc,← hc { s' with at':=adv s'.at' size },← bare_at h,hb]
 refine SimX.cast (L_ask o size c er s u) (L_ask o size c er s' u') ?_
 rw[e]
 split
 ·show _=_
  rw[← bare_at h]
  exact hb
 ·exact congrArg (fun z=>(er,z)) (bare_at h)
theorem sim_loc {b:Nat}(n p:Int)(x x':WS × Unit)(h:x.1.bare=x'.1.bare):SimX (locX (leaving b) n p x) (locX (leaving b) n p x'):=by
 have e:x.1.locs=x'.1.locs:=(congrArg WS.locs h:x.1.bare.locs=x'.1.bare.locs)
 unfold locX
 by_cases hc:wrap64 (x.1.locs+n)≤1048576
 ·rw[if_pos hc,if_pos (by rw[← e];exact hc)]
  show _=_
  rw[e]
  exact(congrArg (fun t:WS=>({ t with locs:=wrap64 (x'.1.locs+n) }:WS)) h:({ x.1.bare with locs:=wrap64 (x'.1.locs+n) }:WS)=_)
 ·rw[if_neg hc,if_neg (by rw[← e];exact hc)]
  rfl
theorem SimX.ite {p:Prop} [Decidable p]{a a' c c':X (WS × Unit)}(h1:p→SimX a a')(h2:¬ p→SimX c c'):SimX (if p then a else c) (if p then a' else c'):=by
 by_cases h:p
 ·exact SimX.cast (if_pos h) (if_pos h) (h1 h)
 ·exact SimX.cast (if_neg h) (if_neg h) (h2 h)
theorem sim_front {b:Nat}(ends makes nb:Bool)(i:Nat)(p p':Int)(hp:p=p')(x x':WS × Unit)(h:x.1.bare=x'.1.bare):SimX (frontOk (leaving b) ends makes nb i p x) (frontOk (leaving b) ends makes nb i p' x'):=by
 subst hp
 have e:x.1.len=x'.1.len:=(congrArg WS.len h:x.1.bare.len=x'.1.bare.len)
 unfold frontOk
 rw[e]
 refine SimX.ite (fun _=>rfl) (fun _=>SimX.ite (fun _=>rfl) (fun _=>SimX.ite (fun _=>sim_loc 1 p x x' h) (fun _=>h)))
theorem sim_vars : ∀ (l:List Int) (x x':WS × Unit),x.1.bare=x'.1.bare→SimX (varsL l x) (varsL l x')
 | [],_,_,h=>h
 | v::r,x,x',h=>by
   refine SimX.then (p:=varsL r) (p':=varsL r) ?_ (fun y y' hy=>sim_vars r y y' hy)
   have e:x.1.fV=x'.1.fV:=(congrArg WS.fV h:x.1.bare.fV=x'.1.bare.fV)
   unfold oneL
   rw[e]
   split
   ·show _=_
    rw[bare_at h]
    exact bare_with h _
   ·exact congrArg (fun z=>((13:Int),z)) (bare_at h)
theorem sim_list (n:Nat)(l:List Int)(x x':WS × Unit)(h:x.1.bare=x'.1.bare):SimX (listL n l x) (listL n l x'):=by
 unfold listL
 split
 ·refine sim_vars l _ _ ?_
  show _=_
  rw[bare_at h]
  exact(congrArg (fun t:WS=>({ t with count:=l.length,at':=adv x'.1.at' 1 }:WS)) h:({ x.1.bare with count:=l.length,at':=adv x'.1.at' 1 }:WS)=_)
 ·exact congrArg (fun z=>((15:Int),z)) (bare_at h)
theorem sim_parts {b:Nat}(op:Nat)(c c':X (WS × Unit))(h:SimX c c'):SimX (partsX (leaving b) op c) (partsX (leaving b) op c'):=by
 have hv:∀ o (y y':WS × Unit),y.1.bare=y'.1.bare→SimX (varPart (leaving b) o y) (varPart (leaving b) o y'):=fun o y y' hy=>sim_ask _ _ _ (fun s=>by
  show varOk s.bare.fV (s.bare.get o)=varOk s.fV (s.get o)
  unfold WS.get
  rfl) _ y y' hy
 have hn:∀ (y y':WS × Unit),y.1.bare=y'.1.bare→SimX (intPart (leaving b) y) (intPart (leaving b) y'):=fun y y' hy=>sim_next _ _ y y' hy
 have hf:∀ (y y':WS × Unit),y.1.bare=y'.1.bare→SimX (fieldsPart (leaving b) y) (fieldsPart (leaving b) y'):=fun y y' hy=>sim_ask _ _ _ (fun s=>rfl) _ y y' hy
 have hd:∀ (y y':WS × Unit),y.1.bare=y'.1.bare→SimX (fieldPart (leaving b) y) (fieldPart (leaving b) y'):=fun y y' hy=>sim_ask _ _ _ (fun s=>rfl) _ y y' hy
 have hg:∀ (y y':WS × Unit),y.1.bare=y'.1.bare→SimX (globalPart (leaving b) y) (globalPart (leaving b) y'):=fun y y' hy=>sim_ask _ _ _ (fun s=>rfl) _ y y' hy
 have ht:∀ (y y':WS × Unit),y.1.bare=y'.1.bare→SimX (targetPart (leaving b) y) (targetPart (leaving b) y'):=fun y y' hy=>sim_ask _ _ _ (fun s=>rfl) _ y y' hy
 match op with
 | 1=>exact(h.then (hv 155)).then hn
 | 2=>exact(h.then (hv 155)).then (hv 156)
 | 3=>exact((h.then (hv 155)).then (hv 156)).then (hv 157)
 | 4=>exact((h.then (hv 155)).then (hv 156)).then (hv 157)
 | 5=>exact(h.then (hv 155)).then (hv 156)
 | 6=>exact(h.then (hv 155)).then hf
 | 7=>exact((h.then (hv 155)).then (hv 156)).then hd
 | 8=>exact((h.then (hv 155)).then (hv 156)).then hd
 | 9=>exact(h.then (hv 155)).then hg
 | 10=>exact(h.then (hv 156)).then hg
 | 12=>exact h.then (hv 156)
 | 13=>exact h.then ht
 | 14=>exact(h.then (hv 156)).then ht
 | 16=>exact h.then (hv 155)
 | 17=>exact((h.then (hv 155)).then (hv 156)).then (hv 157)
 | 0=>exact h
 | 11=>exact h
 | 15=>exact h
 | n+18=>exact h
theorem nbK_bare (k:Nat)(s s':WS)(la lr:Nat)(h:s.bare=s'.bare):nbK k s la lr=nbK k s' la lr:=by
 have e1:s.r=s'.r:=(congrArg WS.r h:s.bare.r=s'.bare.r)
 have e2:s.s=s'.s:=(congrArg WS.s h:s.bare.s=s'.bare.s)
 have e3:s.t=s'.t:=(congrArg WS.t h:s.bare.t=s'.bare.t)
 have e4:s.n=s'.n:=(congrArg WS.n h:s.bare.n=s'.bare.n)
 unfold nbK
 rw[e1,e2,e3,e4]
theorem instrL_15 {b:Nat}(heads:List (Nat × Nat))(fR i:Nat)(la lr:List Int)(s:WS)(h:s.op=15):instrL (b:=b) heads fR i la lr s=retL fR la (frontOk (leaving b) true false (nbK 15 s la.length lr.length) i s.at' ({ s with at':=adv s.at' 1 },())):=by
 unfold instrL
 rw[if_pos (by omega),if_pos h]
theorem instrL_11 {b:Nat}(heads:List (Nat × Nat))(fR i:Nat)(la lr:List Int)(s:WS)(h:s.op=11):instrL (b:=b) heads fR i la lr s=callL heads la lr (frontOk (leaving b) false false (nbK 11 s la.length lr.length) i s.at' ({ s with at':=adv s.at' 1 },())):=by
 unfold instrL
 rw[if_pos (by omega),if_neg (by omega),if_pos h]
theorem instrL_k {b:Nat}(heads:List (Nat × Nat))(fR i:Nat)(la lr:List Int)(s:WS)(h:1≤s.op∧s.op≤17)(h1:¬ s.op=15)(h2:¬ s.op=11):instrL (b:=b) heads fR i la lr s=partsX (leaving b) s.op.toNat (frontOk (leaving b) (s.op==13) (s.op==6) (nbK s.op.toNat s la.length lr.length) i s.at' ({ s with at':=adv s.at' 1 },())):=by
 unfold instrL
 rw[if_pos h,if_neg h1,if_neg h2]
theorem instrL_no {b:Nat}(heads:List (Nat × Nat))(fR i:Nat)(la lr:List Int)(s:WS)(h:¬ (1≤s.op∧s.op≤17)):instrL (b:=b) heads fR i la lr s = .error (12,s.at'):=by
 unfold instrL
 rw[if_neg h]
theorem sim_instr {b:Nat}(heads:List (Nat × Nat))(fR i:Nat)(la lr:List Int)(s s':WS)(h:s.bare=s'.bare):SimX (instrL (b:=b) heads fR i la lr s) (instrL (b:=b) heads fR i la lr s'):=by
 have e:s.op=s'.op:=(congrArg WS.op h:s.bare.op=s'.bare.op)
 have ea:=bare_at h
 have hf:∀ ends makes k,SimX (frontOk (leaving b) ends makes (nbK k s la.length lr.length) i s.at' ({ s with at':=adv s.at' 1 },())) (frontOk (leaving b) ends makes (nbK k s' la.length lr.length) i s'.at' ({ s' with at':=adv s'.at' 1 },())):=fun ends makes k=>by
  rw[nbK_bare k s s' _ _ h]
  refine sim_front ends makes _ i _ _ ea _ _ ?_
  show _=_
  rw[← ea]
  exact bare_with h _
 by_cases h1:1≤s.op∧s.op≤17
 ·have h1':1≤s'.op∧s'.op≤17:=by rw[← e];exact h1
  by_cases h15:s.op=15
  ·refine SimX.cast (instrL_15 heads fR i la lr s h15) (instrL_15 heads fR i la lr s' (e ▸ h15)) ?_
   exact SimX.then (hf true false 15) (fun y y' hy=>sim_list fR la y y' hy)
  ·have h15':¬ s'.op=15:=fun k=>h15 (e.trans k)
   by_cases h11:s.op=11
   ·refine SimX.cast (instrL_11 heads fR i la lr s h11) (instrL_11 heads fR i la lr s' (e ▸ h11)) ?_
    unfold callL
    refine SimX.then (SimX.then (hf false false 11) (fun y y' hy=>sim_ask _ _ _ (fun s=>rfl) _ y y' hy)) (fun y y' hy=>?_)
    have en:y.1.n=y'.1.n:=(congrArg WS.n hy:y.1.bare.n=y'.1.bare.n)
    rw[en]
    exact SimX.then (sim_list _ la y y' hy) (fun z z' hz=>sim_list _ lr z z' hz)
   ·have h11':¬ s'.op=11:=fun k=>h11 (e.trans k)
    refine SimX.cast (instrL_k heads fR i la lr s h1 h15 h11) (instrL_k heads fR i la lr s' h1' h15' h11') ?_
    have h2:=sim_parts (b:=b) s.op.toNat _ _ (hf (s.op==13) (s.op==6) s.op.toNat)
    have h3:partsX (leaving b) s.op.toNat (frontOk (leaving b) (s.op==13) (s.op==6) (nbK s.op.toNat s' la.length lr.length) i s'.at' ({ s' with at':=adv s'.at' 1 },()))=partsX (leaving b) s'.op.toNat (frontOk (leaving b) (s'.op==13) (s'.op==6) (nbK s'.op.toNat s' la.length lr.length) i s'.at' ({ s' with at':=adv s'.at' 1 },())):=by rw[e]
    exact SimX.cast rfl h3.symm h2
 ·refine SimX.cast (instrL_no heads fR i la lr s h1) (instrL_no heads fR i la lr s' (by rw[← e];exact h1)) ?_
  exact congrArg (fun z=>((12:Int),z)) ea
theorem sim_head {b:Nat}(x x':WS × Unit)(h:x.1.bare=x'.1.bare):SimX (headX (leaving b) x) (headX (leaving b) x'):=by
 refine SimX.cast (headX_then (leaving b) x) (headX_then (leaving b) x') ?_
 refine SimX.then (sim_next 149 1 x x' h) (fun y1 y1' h1=>?_)
 refine SimX.then (sim_next 150 1 y1 y1' h1) (fun y2 y2' h2=>?_)
 refine SimX.then (sim_next 151 1 y2 y2' h2) (fun y3 y3' h3=>?_)
 refine SimX.then (sim_next 153 2 y3 y3' h3) (fun y4 y4' h4=>?_)
 have ea:=bare_at h
 have e1:y4.1.fV=y4'.1.fV:=(congrArg WS.fV h4:y4.1.bare.fV=y4'.1.bare.fV)
 have e2:y4.1.fP=y4'.1.fP:=(congrArg WS.fP h4:y4.1.bare.fP=y4'.1.bare.fP)
 have e3:y4.1.fR=y4'.1.fR:=(congrArg WS.fR h4:y4.1.bare.fR=y4'.1.bare.fR)
 have e4:y4.1.len=y4'.1.len:=(congrArg WS.len h4:y4.1.bare.len=y4'.1.bare.len)
 have ho:headOk y4.1 x.1.at'=headOk y4'.1 x'.1.at':=by
  unfold headOk
  rw[e1,e2,e3,e4,ea]
 have hl:∀ (r:X Unit),SimX (thenX r fun _=>locX (leaving b) y4.1.fV x.1.at' y4) (thenX r fun _=>locX (leaving b) y4'.1.fV x'.1.at' y4'):=fun r=>by
  cases r with
  | error z=>rfl
  | ok t =>
    show SimX (locX (leaving b) y4.1.fV x.1.at' y4) (locX (leaving b) y4'.1.fV x'.1.at' y4')
    rw[e1,ea]
    exact sim_loc _ _ _ _ h4
 have hh:=hl (headOk y4'.1 x'.1.at')
 refine SimX.cast ?_ rfl hh
 show thenX (headOk y4.1 x.1.at') _=thenX (headOk y4'.1 x'.1.at') _
 rw[ho]
end Go.Proofs.YtingenonbkencaaDoor
