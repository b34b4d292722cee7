import Derived.Test.YtingenonbkencaaDoorQRtJ
import Derived.Test.YtingenonbkencaaDoorQTa
import Derived.Test.YtingenonbkencaaDoorQD4J
set_option linter.unusedVariables false
set_option linter.unusedSimpArgs false
namespace Go.Proofs.YtingenonbkencaaDoor
open Go.RowKit (wrap32 wrap64)
theorem CS.fr {S:Nat→Prop}{w w':World}{v:Value}{c:List PI}(h:CS S w v c)(f:Fr S w w'):CS S w' v c:=by
 obtain⟨h0,a,cp,e,h⟩:=h
 refine⟨h0,a,cp,e,fun hne=>?_⟩
 obtain⟨k,o,e,hk,hb,hc⟩:=h hne
 refine⟨k,o,e,Nat.lt_of_lt_of_le hk f.size,hb,fun j hj=>?_⟩
 obtain⟨av,rv,h1,h2,h3,h4,h5,h6,h7,h8,h9,h10⟩:=hc j hj
 exact⟨av,rv,(f.cell hk hb).trans h1,(f.cell hk hb).trans h2,(f.cell hk hb).trans h3,(f.cell hk hb).trans h4,(f.cell hk hb).trans h5,(f.cell hk hb).trans h6,(f.cell hk hb).trans h7,h8.fr f,h9.fr f,h10⟩
theorem FS.fr {S:Nat→Prop}{w w':World}{v:Value}{fs:List PF}(h:FS S w v fs)(f:Fr S w w'):FS S w' v fs:=by
 obtain⟨h0,a,cp,e,h⟩:=h
 refine⟨h0,a,cp,e,fun hne=>?_⟩
 obtain⟨k,o,e,hk,hb,hc⟩:=h hne
 refine⟨k,o,e,Nat.lt_of_lt_of_le hk f.size,hb,fun j hj=>?_⟩
 obtain⟨cv,h1,h2,h3,h4,h5⟩:=hc j hj
 exact⟨cv,(f.cell hk hb).trans h1,(f.cell hk hb).trans h2,(f.cell hk hb).trans h3,(f.cell hk hb).trans h4,h5.fr f⟩
def startP (w:World)(G:Int)(fv:Value):World :=
 ((((((w.alloc (.cells #[vI G,fv] 26)).alloc (.cells magicC 5 (6,7))).alloc (.cells #[.slice (some ⟨w.heap.size+1,0,none⟩) 6 6] 53)).alloc (.cells rowsC 85)).alloc (.cells (WS.start (writerFn (w.heap.size+2))).cells 87)).alloc (.cells #[.pointer (some ⟨w.heap.size+4,0,none⟩)] 46)).alloc (.cells #[vI 0,vI 0] 50)
theorem startP_at (w:World)(G:Int)(fv:Value):(startP w G fv).heap[w.heap.size]?=some (.cells #[vI G,fv] 26)∧(startP w G fv).heap[w.heap.size+1]?=some (.cells magicC 5 (6,7)) ∧
 (startP w G fv).heap[w.heap.size+2]?=some (.cells #[.slice (some ⟨w.heap.size+1,0,none⟩) 6 6] 53)∧(startP w G fv).heap[w.heap.size+4]?=some (.cells (WS.start (writerFn (w.heap.size+2))).cells 87) ∧
 (startP w G fv).heap[w.heap.size+5]?=some (.cells #[.pointer (some ⟨w.heap.size+4,0,none⟩)] 46)∧(startP w G fv).heap[w.heap.size+6]?=some (.cells #[vI 0,vI 0] 50)∧(startP w G fv).heap.size=w.heap.size+7∧Fr (fun _=>False) w (startP w G fv):=by
 have last:∀ (v:World) (o:Obj) (n:Nat),v.heap.size=n→(v.alloc o).heap[n]?=some o:=fun v o n h=>by rw[← h];exact heap_alloc_last v o
 have past:∀ (v:World) (o:Obj) (n:Nat),n<v.heap.size→(v.alloc o).heap[n]?=v.heap[n]?:=fun v o n h=>Go.RowKit.Below.heap_alloc v o n h
 unfold startP
 refine⟨?_,?_,?_,?_,?_,?_,by simp,Fr.alloc (Fr.alloc (Fr.alloc (Fr.alloc (Fr.alloc (Fr.alloc (Fr.alloc (Fr.refl _ w) _) _) _) _) _) _) _⟩
 ·rw[past _ _ _ (by simp;try omega),past _ _ _ (by simp;try omega),past _ _ _ (by simp;try omega),past _ _ _ (by simp;try omega),past _ _ _ (by simp;try omega),past _ _ _ (by simp;try omega),last _ _ _ rfl]
 ·rw[past _ _ _ (by simp;try omega),past _ _ _ (by simp;try omega),past _ _ _ (by simp;try omega),past _ _ _ (by simp;try omega),past _ _ _ (by simp;try omega),last _ _ _ (by simp;try omega)]
 ·rw[past _ _ _ (by simp;try omega),past _ _ _ (by simp;try omega),past _ _ _ (by simp;try omega),past _ _ _ (by simp;try omega),last _ _ _ (by simp;try omega)]
 ·rw[past _ _ _ (by simp;try omega),past _ _ _ (by simp;try omega),last _ _ _ (by simp;try omega)]
 ·rw[past _ _ _ (by simp;try omega),last _ _ _ (by simp;try omega)]
 ·rw[last _ _ _ (by simp;try omega)]
def RoomOk (R:Nat):Prop:=5368971270≤R∧6+8*R≤1000000000000
def encK (n R:Nat)(G:Int)(fs:List PF):X (WS × (Nat × List UInt8)):=overK (writing (n+4) (n+2) (n+1) (n+8)) G fs (WS.start (writerFn (n+2)),((R,magicL):Nat × List UInt8))
def EncJ (R:Nat)(w:World)(G:Int)(fs:List PF)(fv:Value)(w':World):Prop :=
 Fr (fun k=>k=w.heap.size+4∨k=w.heap.size+2) (startP w G fv) w'∧∃ y bv,encK w.heap.size R G fs = .ok y∧w'.heap[w.heap.size+2]?=some (.cells #[bv] 53)∧Handed w' bv y.2.2∧(∃ a c,bv = .slice a y.2.2.length c)∧(y.2.2.length≤6∨w'.ownsRow (w.heap.size+8) 5 1 bv y.2.2.length (y.2.2.map u8v))
def EncN (R:Nat)(w:World)(G:Int)(fs:List PF)(fv:Value)(er at':Int)(w':World):Prop :=
 Fr (fun k=>k=w.heap.size+4∨k=w.heap.size+2) (startP w G fv) w'∧encK w.heap.size R G fs = .error (er,at')
theorem over_encP {R:Nat}(hR:RoomOk R)(w:World)(G:Int)(fs:List PF)(fv:Value)(b0:Nat)(hl:FL b0 w fv fs)(hc:∀ f∈fs,∀ c∈f.code,In64n c)(hT:Tab w)(h0:0<w.heap.size) :
 Calls Tryd.prog 36 #[.pointer (some ⟨w.heap.size+4,0,none⟩),.agg #[vI G,fv]] (startP w G fv) fun e w'=>(e = .returned (.tuple #[])∧EncJ R w G fs fv w')∨∃ er at',e = .panicked (viol er at')∧EncN R w G fs fv er at' w':=by
 obtain⟨s0,s1,s2,s4,s5,s6,hsz,hsf⟩:=startP_at w G fv
 have hSB:∀ k,(writing (w.heap.size+4) (w.heap.size+2) (w.heap.size+1) (w.heap.size+8)).SB k→k=w.heap.size+4∨k=w.heap.size+2∨w.heap.size+8≤k:=fun k h=>h
 have hFS:FS (writing (w.heap.size+4) (w.heap.size+2) (w.heap.size+1) (w.heap.size+8)).SB (startP w G fv) fv fs :=
  (hl.out (fun k hk _ h=>by have:=hSB k h;omega)).fr (hsf.mono (fun _ _ h=>h.elim))
 refine(over_K (writing_KM (w.heap.size+4) (w.heap.size+2) (w.heap.size+1) (w.heap.size+8)) (WS.start (writerFn (w.heap.size+2))) ((R,magicL):Nat × List UInt8) (startP w G fv) s4 hR.1 G fv fs hFS (fun k e h=>by have:=hSB k h;omega) ?_).mono ?_
 ·intro w1 s' hf hp hls hn hat
  refine⟨hls,hn,?_,hR.2,by omega,by omega,by omega,by omega,by omega,by omega,(hT.fr hsf (fun h=>h)).fr hf (by omega),.slice (some ⟨w.heap.size+1,0,none⟩) 6 6,?_,Or.inr ⟨rfl,?_⟩,by omega,by omega,by omega,?_⟩
  ·show s'.at'=_;rw[hat];rfl
  ·rw[hf.block _ (by omega) (by omega)];exact s2
  ·intro j u hu
   rw[hf.cell (by omega) (by omega)]
   unfold World.cell?
   simp only[s1,Option.isSome_none,Bool.false_eq_true,if_false]
   have:(magicL.map u8v)[j]?=some u:=hu
   rw[← this]
   show magicC[j]?=_
   rw[← Array.getElem?_toList]
   rfl
  ·have:=(Array.getElem?_eq_some_iff.1 hp).1;omega
 ·rintro e w' ⟨hf,hres⟩
  have hf':Fr (fun k=>k=w.heap.size+4∨k=w.heap.size+2) (startP w G fv) w':=hf.mono (fun k hk h=>by have:=hSB k h;omega)
  have hk:encK w.heap.size R G fs=overK (writing (w.heap.size+4) (w.heap.size+2) (w.heap.size+1) (w.heap.size+8)) G fs (WS.start (writerFn (w.heap.size+2)),((R,magicL):Nat × List UInt8)):=rfl
  cases hx:overK (writing (w.heap.size+4) (w.heap.size+2) (w.heap.size+1) (w.heap.size+8)) G fs (WS.start (writerFn (w.heap.size+2)),((R,magicL):Nat × List UInt8)) with
  | error z =>
    rw[hx] at hres
    exact Or.inr ⟨z.1,z.2,hres,hf',hk.trans hx⟩
  | ok y =>
    rw[hx] at hres
    obtain⟨rfl,x,hon,hal⟩:=hres
    obtain⟨h1,h2,-,-,-,-,-,-,-,bv,hrow⟩:=hon.2.2
    have e2:(x.2:Nat × List UInt8)=y.2:=hal.2
    have hrow':Row w' (w.heap.size+2) (w.heap.size+1) (w.heap.size+8) (y.2:Nat × List UInt8).2 bv:=by rw[← e2];exact hrow
    have hlen:(y.2:Nat × List UInt8).2.length≤1000000000000:=by
     rw[← e2]
     have h2':(x.2:Nat × List UInt8).2.length+8*(x.2:Nat × List UInt8).1≤1000000000000:=h2
     omega
    refine Or.inl ⟨rfl,hf',y,bv,hk.trans hx,hrow'.var,?_⟩
    have hm:=(over_back (br:=0) (rv:=nilS) (vr:=nilS) (fv:=nilS) hR.2 hc hx).2.2.2.2
    have hne:(y.2:Nat × List UInt8).2≠[]:=by
     intro e
     have h3:=hm.length_le
     rw[e] at h3
     simp[magicL] at h3
    obtain⟨k1,a,c,k2⟩:=row_handed hrow' hne (by omega)
    refine⟨k1,⟨a,c,k2⟩,?_⟩
    by_cases h6:(y.2:Nat × List UInt8).2.length≤6
    ·exact Or.inl h6
    ·rcases hrow'.own with k | ⟨-,k⟩
     ·exact Or.inr k
     ·exfalso
      have h7:=k 6 (u8v ((y.2:Nat × List UInt8).2[6]'(by omega))) (by rw[List.getElem?_map,List.getElem?_eq_getElem (by omega)];rfl)
      rw[hf'.cell (by omega) (by omega)] at h7
      unfold World.cell? at h7
      simp only[s1,Option.isSome_none,Bool.false_eq_true,if_false] at h7
      have h8:magicC[6]?=none:=by rfl
      rw[h8] at h7
      cases h7
def Er {σ:Type}(r:X (WS × σ))(r':X (WS × Unit)):Prop:=match r,r' with
 | .ok y,.ok y'=>y.1=y'.1
 | .error z,.error z'=>z=z'
 | _,_=>False
theorem Er.cast {σ:Type}{r q:X (WS × σ)}{r' q':X (WS × Unit)}(h1:r=q)(h2:r'=q')(h:Er q q'):Er r r':=by
 subst h1;subst h2;exact h
theorem Er.then {σ:Type}{c:X (WS × σ)}{c':X (WS × Unit)}{p:WS × σ→X (WS × σ)}{p':WS × Unit→X (WS × Unit)}(h:Er c c')(hp:∀ y y',c = .ok y→y.1=y'.1→Er (p y) (p' y')):Er (thenX c p) (thenX c' p'):=by
 cases c with
 | ok y=>cases c' with
   | ok y'=>exact hp y y' rfl h
   | error z=>exact h.elim
 | error z=>cases c' with
   | ok y'=>exact h.elim
   | error z'=>exact h
theorem Er.ite {σ:Type}{p:Prop} [Decidable p]{a c:X (WS × σ)}{a' c':X (WS × Unit)}(h1:p→Er a a')(h2:¬ p→Er c c'):Er (if p then a else c) (if p then a' else c'):=by
 by_cases h:p
 ·exact Er.cast (if_pos h) (if_pos h) (h1 h)
 ·exact Er.cast (if_neg h) (if_neg h) (h2 h)
theorem er_next {b b':Nat}{M:Mode b}{rm:M.σ→Nat}(hM:KM M rm)(o size:Nat)(x:WS × M.σ)(x':WS × Unit)(hp:1≤rm x.2)(e:x.1=x'.1):Er (nextX M o size x) (nextX (leaving b') o size x'):=by
 obtain⟨s,st⟩:=x
 obtain⟨s',u⟩:=x'
 have e:s=s':=e
 subst e
 obtain⟨st',hn,-⟩:=K_next hM o size s st hp
 exact Er.cast hn (L_next (b:=b') o size s u) rfl
theorem er_ask {b b':Nat}{M:Mode b}{rm:M.σ→Nat}(hM:KM M rm)(o size:Nat)(c:WS→Bool)(er:Int)(x:WS × M.σ)(x':WS × Unit)(hp:1≤rm x.2)(e:x.1=x'.1):Er (askX M o size c er x) (askX (leaving b') o size c er x'):=by
 have ea:x.1.at'=x'.1.at':=by rw[e]
 refine Er.cast (askX_then M o size c er x) (askX_then (leaving b') o size c er x') (Er.then (er_next hM o size x x' hp e) (fun y y' _ e'=>?_))
 obtain⟨s,st⟩:=y
 obtain⟨s',u⟩:=y'
 have e':s=s':=e'
 subst e'
 exact Er.ite (fun _=>rfl) (fun _=>congrArg (fun z=>(er,z)) ea)
theorem er_loc {b b':Nat}{M:Mode b}(n p:Int)(x:WS × M.σ)(x':WS × Unit)(e:x.1=x'.1):Er (locX M n p x) (locX (leaving b') n p x'):=by
 obtain⟨s,st⟩:=x
 obtain⟨s',u⟩:=x'
 have e:s=s':=e
 subst e
 unfold locX
 exact Er.ite (fun _=>rfl) (fun _=>rfl)
theorem er_front {b b':Nat}{M:Mode b}(ends makes nb:Bool)(i:Nat)(p:Int)(x:WS × M.σ)(x':WS × Unit)(e:x.1=x'.1):Er (frontOk M ends makes nb i p x) (frontOk (leaving b') ends makes nb i p x'):=by
 obtain⟨s,st⟩:=x
 obtain⟨s',u⟩:=x'
 have e:s=s':=e
 subst e
 unfold frontOk
 exact Er.ite (fun _=>rfl) (fun _=>Er.ite (fun _=>rfl) (fun _=>Er.ite (fun _=>er_loc 1 p _ _ rfl) (fun _=>rfl)))
theorem er_one {b:Nat}{M:Mode b}{rm:M.σ→Nat}(hM:KM M rm)(v:Int)(x:WS × M.σ)(x':WS × Unit)(hp:1≤rm x.2)(e:x.1=x'.1):Er (oneK M v x) (oneL v x'):=by
 obtain⟨s,st⟩:=x
 obtain⟨s',u⟩:=x'
 have e:s=s':=e
 subst e
 obtain⟨st',hst⟩:=hM.keeps st s.at' 1 v hp
 have h1:oneK M v (s,st)=if varOk s.fV v then .ok ({ s with at':=adv s.at' 1 },st') else .error (13,s.at'):=by unfold oneK;simp only[hst]
 refine Er.cast h1 (q':=if varOk s.fV v then .ok ({ s with at':=adv s.at' 1 },u) else .error (13,s.at')) rfl ?_
 exact Er.ite (fun _=>rfl) (fun _=>rfl)
theorem er_vars {b:Nat}{M:Mode b}{rm:M.σ→Nat}(hM:KM M rm):∀ (l:List Int) (x:WS × M.σ) (x':WS × Unit),l.length≤rm x.2→x.1=x'.1→Er (varsK M l x) (varsL l x')
 | [],_,_,_,e=>e
 | v::r,x,x',hp,e=>by
   simp only[List.length_cons] at hp
   refine Er.then (c:=oneK M v x) (c':=oneL v x') (er_one hM v x x' (by omega) e) (fun y y' hy e'=>er_vars hM r y y' ?_ e')
   have:=oneK_goes hM.goes hy
   omega
theorem er_list {b:Nat}{M:Mode b}{rm:M.σ→Nat}(hM:KM M rm)(n:Nat)(l:List Int)(x:WS × M.σ)(x':WS × Unit)(hp:n+1≤rm x.2)(e:x.1=x'.1):Er (listK M n l x) (listL n l x'):=by
 obtain⟨s,st⟩:=x
 obtain⟨s',u⟩:=x'
 have e:s=s':=e
 subst e
 have hp:n+1≤rm st:=hp
 obtain⟨st',hn,hr⟩:=K_next hM 161 1 { s with count:=l.length } st (by omega)
 have h1:listK M n l (s,st)=if l.length=n then varsK M l ({ s with count:=l.length,at':=adv s.at' 1 },st') else .error (15,s.at'):=by
  unfold listK;rw[hn];rfl
 refine Er.cast h1 (q':=if l.length=n then varsL l ({ s with count:=l.length,at':=adv s.at' 1 },u) else .error (15,s.at')) rfl ?_
 exact Er.ite (fun h=>er_vars hM l _ _ (by show l.length≤rm st';omega) rfl) (fun _=>rfl)
def ErR {b:Nat}{M:Mode b}(rm:M.σ→Nat)(n:Nat)(c:X (WS × M.σ))(c':X (WS × Unit)):Prop:=Er c c'∧∀ y,c = .ok y→n≤rm y.2
theorem ErR.then {b:Nat}{M:Mode b}{rm:M.σ→Nat}{n:Nat}{c:X (WS × M.σ)}{c':X (WS × Unit)}{p:WS × M.σ→X (WS × M.σ)}{p':WS × Unit→X (WS × Unit)}(h:ErR rm (n+1) c c')(hp:∀ y y',1≤rm y.2→y.1=y'.1→Er (p y) (p' y'))
 (hg:∀ a a',p a = .ok a'→rm a.2≤rm a'.2+1):ErR rm n (thenX c p) (thenX c' p'):=by
 refine⟨h.1.then (fun y y' hy e=>hp y y' (by have:=h.2 y hy;omega) e),fun y hy=>?_⟩
 obtain⟨a,ha,hpa⟩:=then_ok hy
 have h1:=h.2 a ha
 have h2:=hg a y hpa
 omega
theorem er_parts {b b':Nat}{M:Mode b}{rm:M.σ→Nat}(hM:KM M rm)(op:Nat)(c:X (WS × M.σ))(c':X (WS × Unit))(h:ErR rm 3 c c'):Er (partsX M op c) (partsX (leaving b') op c'):=by
 have hv:∀ o {n:Nat} {c:X (WS × M.σ)} {c':X (WS × Unit)},ErR rm (n+1) c c'→ErR rm n (thenX c (varPart M o)) (thenX c' (varPart (leaving b') o)):=fun o _ _ _ h=>h.then (fun y y' hp e=>er_ask hM _ _ _ _ y y' hp e) (fun a a' ha=>ask_goes hM.goes ha)
 have hn:∀ {n:Nat} {c:X (WS × M.σ)} {c':X (WS × Unit)},ErR rm (n+1) c c'→ErR rm n (thenX c (intPart M)) (thenX c' (intPart (leaving b'))):=fun h=>h.then (fun y y' hp e=>er_next hM _ _ y y' hp e) (fun a a' ha=>hM.goes _ _ _ _ ha)
 have hf:∀ {n:Nat} {c:X (WS × M.σ)} {c':X (WS × Unit)},ErR rm (n+1) c c'→ErR rm n (thenX c (fieldsPart M)) (thenX c' (fieldsPart (leaving b'))):=fun h=>h.then (fun y y' hp e=>er_ask hM _ _ _ _ y y' hp e) (fun a a' ha=>ask_goes hM.goes ha)
 have hd:∀ {n:Nat} {c:X (WS × M.σ)} {c':X (WS × Unit)},ErR rm (n+1) c c'→ErR rm n (thenX c (fieldPart M)) (thenX c' (fieldPart (leaving b'))):=fun h=>h.then (fun y y' hp e=>er_ask hM _ _ _ _ y y' hp e) (fun a a' ha=>ask_goes hM.goes ha)
 have hg:∀ {n:Nat} {c:X (WS × M.σ)} {c':X (WS × Unit)},ErR rm (n+1) c c'→ErR rm n (thenX c (globalPart M)) (thenX c' (globalPart (leaving b'))):=fun h=>h.then (fun y y' hp e=>er_ask hM _ _ _ _ y y' hp e) (fun a a' ha=>ask_goes hM.goes ha)
 have ht:∀ {n:Nat} {c:X (WS × M.σ)} {c':X (WS × Unit)},ErR rm (n+1) c c'→ErR rm n (thenX c (targetPart M)) (thenX c' (targetPart (leaving b'))):=fun h=>h.then (fun y y' hp e=>er_ask hM _ _ _ _ y y' hp e) (fun a a' ha=>ask_goes hM.goes ha)
 match op with
 | 1=>exact(hn (hv 155 h)).1
 | 2=>exact(hv 156 (hv 155 h)).1
 | 3=>exact(hv 157 (hv 156 (hv 155 h))).1
 | 4=>exact(hv 157 (hv 156 (hv 155 h))).1
 | 5=>exact(hv 156 (hv 155 h)).1
 | 6=>exact(hf (hv 155 h)).1
 | 7=>exact(hd (hv 156 (hv 155 h))).1
 | 8=>exact(hd (hv 156 (hv 155 h))).1
 | 9=>exact(hg (hv 155 h)).1
 | 10=>exact(hg (hv 156 h)).1
 | 12=>exact(hv 156 h).1
 | 13=>exact(ht h).1
 | 14=>exact(ht (hv 156 h)).1
 | 16=>exact(hv 155 h).1
 | 17=>exact(hv 157 (hv 156 (hv 155 h))).1
 | 0=>exact h.1
 | 11=>exact h.1
 | 15=>exact h.1
 | m+18=>exact h.1
theorem er_instr {b b':Nat}{M:Mode b}{rm:M.σ→Nat}(hM:KM M rm)(heads:List (Nat × Nat))(hPR:∀ k:Nat,(heads.getD k (0,0)).1≤8∧(heads.getD k (0,0)).2≤4)(fR i:Nat)(hfR:fR≤4)(la lr:List Int)(x:WS × M.σ)(s':WS)(hp:20≤rm x.2)(e:x.1=s') :
 Er (instrK M heads fR i la lr x) (instrL (b:=b') heads fR i la lr s'):=by
 obtain⟨s,st⟩:=x
 have e:s=s':=e
 subst e
 have hp:20≤rm st:=hp
 obtain⟨st',hn,hr⟩:=K_next hM 154 1 s st (by omega)
 have h1:instrK M heads fR i la lr (s,st)=if 1≤s.op∧s.op≤17 then
  (if s.op=15 then retK M fR la (frontOk M true false (nbK 15 s la.length lr.length) i s.at' ({ s with at':=adv s.at' 1 },st'))
   else if s.op=11 then callK M heads la lr (frontOk M false false (nbK 11 s la.length lr.length) i s.at' ({ s with at':=adv s.at' 1 },st'))
   else partsX M s.op.toNat (frontOk M (s.op==13) (s.op==6) (nbK s.op.toNat s la.length lr.length) i s.at' ({ s with at':=adv s.at' 1 },st')))
  else .error (12,s.at'):=by unfold instrK;rw[hn];rfl
 have room:∀ ends makes nb y,frontOk M ends makes nb i s.at' ({ s with at':=adv s.at' 1 },st') = .ok y→19≤rm y.2:=fun ends makes nb y hy=>by
  rw[front_snd hy];show 19≤rm st';omega
 refine Er.cast h1 (q':=if 1≤s.op∧s.op≤17 then
  (if s.op=15 then retL (b:=b') fR la (frontOk (leaving b') true false (nbK 15 s la.length lr.length) i s.at' ({ s with at':=adv s.at' 1 },()))
   else if s.op=11 then callL (b:=b') heads la lr (frontOk (leaving b') false false (nbK 11 s la.length lr.length) i s.at' ({ s with at':=adv s.at' 1 },()))
   else partsX (leaving b') s.op.toNat (frontOk (leaving b') (s.op==13) (s.op==6) (nbK s.op.toNat s la.length lr.length) i s.at' ({ s with at':=adv s.at' 1 },())))
  else .error (12,s.at')) rfl ?_
 refine Er.ite (fun _=>Er.ite (fun _=>?_) (fun _=>Er.ite (fun _=>?_) (fun _=>?_))) (fun _=>rfl)
 ·exact Er.then (er_front true false _ i _ _ _ rfl) (fun y y' hy e=>er_list hM fR la y y' (by have:=room _ _ _ y hy;omega) e)
 ·have hc:Er (thenX (frontOk M false false (nbK 11 s la.length lr.length) i s.at' ({ s with at':=adv s.at' 1 },st')) (calleePart M heads.length)) (thenX (frontOk (leaving b') false false (nbK 11 s la.length lr.length) i s.at' ({ s with at':=adv s.at' 1 },())) (calleePart (leaving b') heads.length)) :=
   Er.then (er_front false false _ i _ _ _ rfl) (fun y y' hy e=>er_ask hM _ _ _ _ y y' (by have:=room _ _ _ y hy;omega) e)
  refine Er.then hc (fun y y' hy e=>?_)
  have r1:18≤rm y.2:=by
   obtain⟨a,ha,hpa⟩:=then_ok hy
   have h1:=room _ _ _ a ha
   have h2:=ask_goes hM.goes hpa
   omega
  have en:y.1.n=y'.1.n:=by rw[e]
  have b1:=hPR y.1.n.toNat
  rw[← en]
  exact Er.then (er_list hM _ la y y' (by omega) e) (fun z z' hz e2=>er_list hM _ lr z z' (by have:=listK_goes hM.goes hz;omega) e2)
 ·exact er_parts hM _ _ _ ⟨er_front _ _ _ i _ _ _ rfl,fun y hy=>by have:=room _ _ _ y hy;omega⟩
theorem er_head {b b':Nat}{M:Mode b}{rm:M.σ→Nat}(hM:KM M rm)(x:WS × M.σ)(x':WS × Unit)(hp:4≤rm x.2)(e:x.1=x'.1):Er (headX M x) (headX (leaving b') x'):=by
 have ea:x.1.at'=x'.1.at':=by rw[e]
 refine Er.cast (headX_then M x) (headX_then (leaving b') x') ?_
 refine Er.then (er_next hM 149 1 x x' (by omega) e) (fun y1 y1' h1 e1=>?_)
 have r1:=hM.goes _ _ _ _ h1
 refine Er.then (er_next hM 150 1 y1 y1' (by omega) e1) (fun y2 y2' h2 e2=>?_)
 have r2:=hM.goes _ _ _ _ h2
 refine Er.then (er_next hM 151 1 y2 y2' (by omega) e2) (fun y3 y3' h3 e3=>?_)
 have r3:=hM.goes _ _ _ _ h3
 refine Er.then (er_next hM 153 2 y3 y3' (by omega) e3) (fun y4 y4' h4 e4=>?_)
 have ho:headOk y4.1 x.1.at'=headOk y4'.1 x'.1.at':=by rw[e4,ea]
 have ev:y4.1.fV=y4'.1.fV:=by rw[e4]
 rw[ho,ev,ea]
 cases headOk y4'.1 x'.1.at' with
 | error z=>exact rfl
 | ok u=>exact er_loc _ _ _ _ e4
theorem er_heads {b b':Nat}{M:Mode b}{rm:M.σ→Nat}(hM:KM M rm):∀ (fs:List PF) (x:WS × M.σ) (s':WS),4*fs.length≤rm x.2→x.1=s'→Er (headsK M fs x) (headsP b' fs s')
 | [],_,_,_,e=>e
 | f::r,x,s',hp,e=>by
   simp only[List.length_cons] at hp
   subst e
   refine Er.then (c:=headX M (inF f x.1,x.2)) (c':=headX (leaving b') (inF f x.1,())) (er_head hM _ _ (by show 4≤rm x.2;omega) rfl) (fun y y' hy e'=>er_heads hM r y y'.1 ?_ e')
   have h1:=headK_goes hM.goes hy
   have h1:rm x.2≤rm y.2+4:=h1
   omega
theorem er_code {b b':Nat}{M:Mode b}{rm:M.σ→Nat}(hM:KM M rm)(heads:List (Nat × Nat))(hPR:∀ k:Nat,(heads.getD k (0,0)).1≤8∧(heads.getD k (0,0)).2≤4)(hPR':∀ j (h:j<heads.length),heads[j].1≤8∧heads[j].2≤4)(fR:Nat)(hfR:fR≤4):∀ (l:List PI) (i:Nat) (x:WS × M.σ) (s':WS),20*l.length≤rm x.2→x.1=s' →
 Er (codeK M heads fR i l x) (codeP b' heads fR i l s')∧∀ y,codeK M heads fR i l x = .ok y→rm x.2≤rm y.2+20*l.length
 | [],_,_,_,_,e=>⟨e,fun y hy=>by cases hy;simp⟩
 | c::r,i,x,s',hp,e=>by
   simp only[List.length_cons] at hp ⊢
   subst e
   have go1:∀ y,instrK M heads fR i c.args c.rets (inI c x.1,x.2) = .ok y→rm x.2≤rm y.2+20:=fun y hy=>instrK_goes hM.goes hPR' hfR (x:=(inI c x.1,x.2)) hy
   refine⟨Er.then (c:=instrK M heads fR i c.args c.rets (inI c x.1,x.2)) (c':=instrL (b:=b') heads fR i c.args c.rets (inI c x.1)) (er_instr hM heads hPR fR i hfR c.args c.rets _ _ (by show 20≤rm x.2;omega) rfl) (fun y y' hy e'=>(er_code hM heads hPR hPR' fR hfR r (i+1) y y'.1 ?_ e').1),fun y hy=>?_⟩
   ·have:=go1 y hy;omega
   ·obtain⟨a,ha,hpa⟩:=then_ok hy
    have h1:=go1 a ha
    have h2:=(er_code (b':=b') hM heads hPR hPR' fR hfR r (i+1) a a.1 (by omega) rfl).2 y hpa
    omega
theorem er_funcs {b b':Nat}{M:Mode b}{rm:M.σ→Nat}(hM:KM M rm)(heads:List (Nat × Nat))(hPR:∀ k:Nat,(heads.getD k (0,0)).1≤8∧(heads.getD k (0,0)).2≤4)(hPR':∀ j (h:j<heads.length),heads[j].1≤8∧heads[j].2≤4):∀ (fs:List PF) (x:WS × M.σ) (s':WS),(∀ f∈fs,HeadF f)→81920*fs.length≤rm x.2→x.1=s' →
 Er (funcsK M heads fs x) (funcsP b' heads fs s')
 | [],_,_,_,_,e=>e
 | f::r,x,s',hF,hp,e=>by
   simp only[List.length_cons] at hp
   subst e
   obtain⟨-,-,h3,h4,h5⟩:=hF f (by simp)
   have hc:=er_code (b':=b') hM heads hPR hPR' f.R.toNat (by omega) f.code 0 (inF f x.1,x.2) (inF f x.1) (by show 20*f.code.length≤rm x.2;omega) rfl
   refine Er.then (c:=codeK M heads f.R.toNat 0 f.code (inF f x.1,x.2)) (c':=codeP b' heads f.R.toNat 0 f.code (inF f x.1)) hc.1 (fun y y' hy e'=>er_funcs hM heads hPR hPR' r y y'.1 (fun f' h'=>hF f' (by simp[h'])) ?_ e')
   have h6:=hc.2 y hy
   have h6:rm x.2≤rm y.2+20*f.code.length:=h6
   omega
theorem headsK_goes {b:Nat}{M:Mode b}{rm:M.σ→Nat}(hR:RoomGoes M rm):∀ {fs:List PF} {x y:WS × M.σ},headsK M fs x = .ok y→rm x.2≤rm y.2+4*fs.length
 | [],_,_,h=>by cases h;simp
 | f::r,x,y,h=>by
   obtain⟨a,ha,hpa⟩:=then_ok h
   have h1:rm x.2≤rm a.2+4:=headK_goes hR (x:=(inF f x.1,x.2)) ha
   have h2:=headsK_goes hR hpa
   simp only[List.length_cons]
   omega
theorem er_over {b wb g0 K b' R:Nat}(hR:RoomOk R)(G:Int)(fs:List PF)(v:Value):Er (overK (writing b wb g0 K) G fs (WS.start v,((R,magicL):Nat × List UInt8))) (overP b' G fs (WS.start v)):=by
 have hM:=writing_KM b wb g0 K
 obtain⟨hR1,hR2⟩:=hR
 have p0:Pos (({ WS.start v with globals:=G,count:=(fs.length:Nat) }:WS),((R,magicL):Nat × List UInt8)):=⟨rfl,hR2⟩
 refine Er.then (er_ask hM 146 1 _ 18 ({ WS.start v with globals:=G,count:=(fs.length:Nat) },((R,magicL):Nat × List UInt8)) ({ WS.start v with globals:=G,count:=(fs.length:Nat) },()) (by show 1≤R;omega) rfl) (fun y1 y1' h1 e1=>?_)
 have r1:=ask_goes hM.goes h1
 have r1:R≤(y1.2:Nat × List UInt8).1+1:=r1
 obtain⟨n1,c1⟩:=ask_next h1
 have w1:=(wr_next (b:=b) (o:=146) (by simp[places]) (by omega) p0 n1)
 refine Er.then (er_ask hM 161 2 _ 20 y1 y1' (by show 1≤(y1.2:Nat × List UInt8).1;omega) e1) (fun y2 y2' h2 e2=>?_)
 have r2:=ask_goes hM.goes h2
 have r2:(y1.2:Nat × List UInt8).1≤(y2.2:Nat × List UInt8).1+1:=r2
 obtain⟨n2,c2⟩:=ask_next h2
 have w2:=(wr_next (b:=b) (o:=161) (by simp[places]) (by omega) w1.2.pos n2)
 have k1:y1.1.count=(fs.length:Nat):=by rw[w1.1]
 have k2:y2.1.count=(fs.length:Nat):=by rw[w2.1];exact k1
 have c2:=of_decide_eq_true c2
 rw[k2] at c2
 refine Er.then (er_heads (b':=b') hM fs y2 y2'.1 (by show 4*fs.length≤(y2.2:Nat × List UInt8).1;omega) e2) (fun y3 y3' h3 e3=>?_)
 obtain⟨w3,hF,-⟩:=heads_sm (br:=0) (rv:=nilS) (bs:=[]) w2.2.pos h3
 have r3:(y2.2:Nat × List UInt8).1≤(y3.2:Nat × List UInt8).1+4*fs.length:=headsK_goes hM.goes h3
 have hhd:∀ k:Nat,((headsOfP fs).getD k (0,0)).1≤8∧((headsOfP fs).getD k (0,0)).2≤4:=fun k=>by
  by_cases hk:k<fs.length
  ·have e:(headsOfP fs).getD k (0,0)=(fs[k].P.toNat,fs[k].R.toNat):=by simp[headsOfP,List.getD,hk]
   rw[e]
   obtain⟨-,q2,q3,-⟩:=hF fs[k] (List.getElem_mem hk)
   exact⟨by show fs[k].P.toNat≤8;omega,by show fs[k].R.toNat≤4;omega⟩
  ·have e:(headsOfP fs).getD k (0,0)=(0,0):=by simp[headsOfP,List.getD,Nat.le_of_not_lt hk]
   rw[e]
   exact⟨Nat.zero_le _,Nat.zero_le _⟩
 have hhd':∀ j (h:j<(headsOfP fs).length),(headsOfP fs)[j].1≤8∧(headsOfP fs)[j].2≤4:=fun j h=>by
  have:=hhd j
  have e:(headsOfP fs).getD j (0,0)=(headsOfP fs)[j]:=by simp[List.getD,h]
  rw[e] at this
  exact this
 exact er_funcs (b':=b') hM (headsOfP fs) hhd hhd' fs y3 y3'.1 hF (by show 81920*fs.length≤(y3.2:Nat × List UInt8).1;omega) e3
theorem enc_check {n R:Nat}(hR:RoomOk R)(G:Int)(fs:List PF):match encK n R G fs with | .ok _=>checkP G fs=0 | .error z=>checkP G fs=z.1∧z.1≠0:=by
 have h:=er_over (b:=n+4) (wb:=n+2) (g0:=n+1) (K:=n+8) (b':=0) hR G fs (writerFn (n+2))
 have hs:=sim_answer 0 (writerFn (n+2)) G fs
 have hk:encK n R G fs=overK (writing (n+4) (n+2) (n+1) (n+8)) G fs (WS.start (writerFn (n+2)),((R,magicL):Nat × List UInt8)):=rfl
 rw[hk]
 unfold checkP
 cases h1:overK (writing (n+4) (n+2) (n+1) (n+8)) G fs (WS.start (writerFn (n+2)),((R,magicL):Nat × List UInt8)) with
 | ok y =>
   rw[h1] at h
   cases h2:overP 0 G fs (WS.start (writerFn (n+2))) with
   | error z=>rw[h2] at h;exact h.elim
   | ok y' =>
     rw[h2] at hs
     obtain⟨y2,hy2,-⟩:=hs.okk
     simp only[hy2]
 | error z =>
   rw[h1] at h
   cases h2:overP 0 G fs (WS.start (writerFn (n+2))) with
   | ok y'=>rw[h2] at h;exact h.elim
   | error z' =>
     rw[h2] at h hs
     have e:z=z':=h
     subst e
     have e2:=hs.err
     simp only[e2]
     exact⟨trivial,told_overP 0 G fs _ z h2⟩
theorem encK_told {n R:Nat}(hR:RoomOk R){G:Int}{fs:List PF}{z:Int × Int}(h:encK n R G fs = .error z):z.1≠0:=by
 have:=enc_check (n:=n) hR G fs
 rw[h] at this
 exact this.2
set_option maxRecDepth 100000
set_option maxHeartbeats 1000000
theorem enc1_gen (wv pv b:Nat)(G:Int)(fv:Value)(w:World)(hw:w.cell? ⟨wv,0,none⟩=some (.pointer (some ⟨b,0,none⟩)))(h0:w.cell? ⟨pv,0,none⟩=some (vI G))(a:Option Addr)(l c:Nat)(hfv:fv = .slice a l c)(h1:w.cell? ⟨pv,1,none⟩=some fv)(J:World→Prop)(Pn:Int→Int→World→Prop)
 (ho:Calls Tryd.prog 36 #[.pointer (some ⟨b,0,none⟩),.agg #[vI G,fv]] w fun e w'=>(e = .returned (.tuple #[])∧J w')∨∃ er at',e = .panicked (viol er at')∧Pn er at' w') :
 Calls Tryd.prog 35 #[.pointer (some ⟨wv,0,none⟩),.pointer (some ⟨pv,0,none⟩)] w fun e w'=>(e = .returned (.tuple #[])∧J w')∨∃ er at',e = .panicked (viol er at')∧Pn er at' w':=by
 subst hfv
 go_enter Tryd.func35,Tryd.ntmps35
 go_wp2_with fail
 refine ho.mono ?_
 rintro e w1 (⟨rfl,hQ⟩|⟨er,at',rfl,hQ⟩)
 ·clear ho
  go_wp2_with fail
  go_end0
  exact Or.inl ⟨rfl,hQ⟩
 ·clear ho
  go_wp2_with fail
  exact⟨rfl,Or.inr ⟨er,at',rfl,hQ⟩⟩
theorem first_enc1 {R:Nat}(hR:RoomOk R)(w:World)(G:Int)(fs:List PF)(fv:Value)(b0:Nat)(hl:FL b0 w fv fs)(hc:∀ f∈fs,∀ c∈f.code,In64n c)(hT:Tab w)(h0:0<w.heap.size) :
 Calls Tryd.prog 31 #[.func (.func 35) #[] #[.pointer (some ⟨w.heap.size+5,0,none⟩),.pointer (some ⟨w.heap.size,0,none⟩)]]
  ((((((w.alloc (.cells #[vI G,fv] 26)).alloc (.cells magicC 5 (6,7))).alloc (.cells #[.slice (some ⟨w.heap.size+1,0,none⟩) 6 6] 53)).alloc (.cells rowsC 85)).alloc (.cells (WS.start (writerFn (w.heap.size+2))).cells 87)).alloc (.cells #[.pointer (some ⟨w.heap.size+4,0,none⟩)] 46))
  (Said1 (w.heap.size+6) (EncJ R w G fs fv) (EncN R w G fs fv)):=by
 obtain⟨s0,s1,s2,s4,s5,s6,hsz,hsf⟩:=startP_at w G fv
 have e6:((((((w.alloc (.cells #[vI G,fv] 26)).alloc (.cells magicC 5 (6,7))).alloc (.cells #[.slice (some ⟨w.heap.size+1,0,none⟩) 6 6] 53)).alloc (.cells rowsC 85)).alloc (.cells (WS.start (writerFn (w.heap.size+2))).cells 87)).alloc (.cells #[.pointer (some ⟨w.heap.size+4,0,none⟩)] 46)).heap.size=w.heap.size+6:=by simp
 have:=firstViolation_any 35 #[.pointer (some ⟨w.heap.size+5,0,none⟩),.pointer (some ⟨w.heap.size,0,none⟩)]
  ((((((w.alloc (.cells #[vI G,fv] 26)).alloc (.cells magicC 5 (6,7))).alloc (.cells #[.slice (some ⟨w.heap.size+1,0,none⟩) 6 6] 53)).alloc (.cells rowsC 85)).alloc (.cells (WS.start (writerFn (w.heap.size+2))).cells 87)).alloc (.cells #[.pointer (some ⟨w.heap.size+4,0,none⟩)] 46))
  (EncJ R w G fs fv) (EncN R w G fs fv) (fun _=>by kernel_rfl) ?_
 ·rw[e6] at this;exact this
 ·obtain⟨-,a,c,ea,-⟩:=id hl
  have hun:∀ w',Fr (fun k=>k=w.heap.size+4∨k=w.heap.size+2) (startP w G fv) w'→Unsaid ((((((w.alloc (.cells #[vI G,fv] 26)).alloc (.cells magicC 5 (6,7))).alloc (.cells #[.slice (some ⟨w.heap.size+1,0,none⟩) 6 6] 53)).alloc (.cells rowsC 85)).alloc (.cells (WS.start (writerFn (w.heap.size+2))).cells 87)).alloc (.cells #[.pointer (some ⟨w.heap.size+4,0,none⟩)] 46)).heap.size w':=fun w' hf=>by
   rw[e6]
   refine unsaid_of ?_
   rw[hf.block _ (by omega) (by omega)]
   exact s6
  refine(enc1_gen (w.heap.size+5) w.heap.size (w.heap.size+4) G fv (startP w G fv) ?_ ?_ a fs.length c ea ?_ (EncJ R w G fs fv) (EncN R w G fs fv) (over_encP hR w G fs fv b0 hl hc hT h0)).mono ?_
  ·unfold World.cell?;simp[s5]
  ·unfold World.cell?;simp[s0]
  ·unfold World.cell?;simp[s0]
  ·rintro e w' (⟨rfl,hJ⟩|⟨er,at',rfl,hN⟩)
   ·exact⟨hun w' hJ.1,Or.inl ⟨rfl,hJ⟩⟩
   ·exact⟨hun w' hN.1,Or.inr ⟨er,at',rfl,hN⟩⟩
def EncE (R:Nat)(w:World)(G:Int)(fs:List PF)(e:Ending)(w':World):Prop :=
 Fr (fun _=>False) w w'∧match encK w.heap.size R G fs with
  | .ok y=>∃ a c,e = .returned (.tuple #[.slice a y.2.2.length c,vI 0])∧Handed w' (.slice a y.2.2.length c) y.2.2∧(y.2.2.length≤6∨w'.ownsRow (w.heap.size+8) 5 1 (.slice a y.2.2.length c) y.2.2.length (y.2.2.map u8v))
  | .error z=>e = .returned (.tuple #[.slice none 0 0,vI z.1])
theorem encode_any {R:Nat}(hR:RoomOk R)(w:World)(G:Int)(fs:List PF)(fv:Value)(b0:Nat)(hl:FL b0 w fv fs)(hc:∀ f∈fs,∀ c∈f.code,In64n c)(hT:Tab w)(h0:0<w.heap.size) :
 Calls Tryd.prog 12 #[.agg #[vI G,fv]] w (EncE R w G fs):=by
 have hmf:∀ (fn:_root_.Go.Fn) (first cap:Array Value) (w:World),(Instr.makeFunc fn first cap).run Tryd.prog w = .ok (.func fn first cap) w:=fun _ _ _ _=>rfl
 obtain⟨s0,s1,s2,s4,s5,s6,hsz,hsf⟩:=startP_at w G fv
 have hcv:(convert 22 22 (.slice (some ⟨w.heap.size+1,0,none⟩) 6 6)).run Tryd.prog ((w.alloc (.cells #[vI G,fv] 26)).alloc (.cells magicC 5)) = .ok (.slice (some ⟨w.heap.size+1,0,none⟩) 6 6) ((w.alloc (.cells #[vI G,fv] 26)).alloc (.cells magicC 5 (6,7))):=by
  have:=Go.Lib.run_convert_bytes_const (P:=Tryd.prog) (w.alloc (.cells #[vI G,fv] 26)) 22 5 magicC 6 6 Tryd.underlying22 (by kernel_rfl)
  simpa using this
 have hfv:=first_enc1 hR w G fs fv b0 hl hc hT h0
 obtain⟨-,a,c,ea,-⟩:=hl
 subst ea
 unfold writerFn at hfv
 clear hc
 go_enter Tryd.func12,Tryd.ntmps12
 go_wp2_with fail
 refine(newWalk_any _ _ _ _).mono ?_
 rintro e w1 ⟨rfl,rfl⟩
 go_wp2_with fail
 refine hfv.mono ?_
 rintro e w2 ⟨er,at',w3,rfl,rfl,hcase⟩
 clear hfv hcv
 have hfd:∀ (v:World),(Instr.field 50 (.agg #[vI er,vI at']) 0).run Tryd.prog v = .ok (vI er) v:=fun _=>by kernel_rfl
 have hf4:Fr (fun k=>k=w.heap.size+6) w3 ((w3.setCell ⟨w.heap.size+6,0,none⟩ (vI er)).setCell ⟨w.heap.size+6,1,none⟩ (vI at')):=Fr.setCell (Fr.setCell (Fr.refl (fun k=>k=w.heap.size+6) w3) _ _ (Or.inl rfl)) _ _ (Or.inl rfl)
 have hff:Fr (fun k=>k=w.heap.size+4∨k=w.heap.size+2) (startP w G (.slice a fs.length c)) w3:=hcase.elim (fun h=>h.2.2.1) (fun h=>h.1)
 have hend:Hd (∀ w4,Fr (fun k=>k=w.heap.size+6) w3 w4→Fr (fun _=>False) w w4):=fun w4 h4=>by
  have h1:Fr (fun k=>w.heap.size≤k) w w4:=((hsf.mono (fun _ _ h=>h.elim)).trans (hff.mono (fun k _ hk=>by omega))).trans (h4.mono (fun k _ hk=>by omega))
  exact h1.mono (fun k hk hS=>by omega)
 have h6':w3.heap[w.heap.size+6]?=some (.cells #[vI 0,vI 0] 50):=by rw[hff.block _ (by omega) (by omega)];exact s6
 rcases hcase with⟨rfl,rfl,-,y,bv,hy,hb2,hbh,⟨a2,c2,rfl⟩,hob⟩|⟨-,hy⟩
 ·have HY:Hd (encK w.heap.size R G fs = .ok y):=hy
  clear hy hff
  have hb4:((w3.setCell ⟨w.heap.size+6,0,none⟩ (vI 0)).setCell ⟨w.heap.size+6,1,none⟩ (vI 0)).heap[w.heap.size+2]?=some (.cells #[.slice a2 y.2.2.length c2] 53):=by
   rw[hf4.block _ (Array.getElem?_eq_some_iff.1 hb2).1 (by omega)];exact hb2
  have HB:Hd (∀ w4,Fr (fun k=>k=w.heap.size+6) w3 w4→Handed w4 (.slice a2 y.2.2.length c2) y.2.2∧(y.2.2.length≤6∨w4.ownsRow (w.heap.size+8) 5 1 (.slice a2 y.2.2.length c2) y.2.2.length (y.2.2.map u8v))):=fun w4 h4=>⟨hbh.spared h4 h6',hob.imp id (fun k=>ownsRow_fr k h4 (fun g hg e=>by have:=(World.ownsRow.lt k g hg).1;omega))⟩
  clear hbh hb2 h6' hob
  generalize ((w3.setCell ⟨w.heap.size+6,0,none⟩ (vI 0)).setCell ⟨w.heap.size+6,1,none⟩ (vI 0))=w4 at hf4 hb4 ⊢
  have hfin:Hd (∀ w5,Fr (fun k=>k=w.heap.size+6) w3 w5→EncE R w G fs (.returned (.tuple #[.slice a2 y.2.2.length c2,vI 0])) w5):=fun w5 h5=>by
   refine⟨hend.out _ h5,?_⟩
   rw[HY.out]
   exact⟨a2,c2,rfl,HB.out _ h5⟩
  have c2':w4.cell? ⟨w.heap.size+1+1,0,none⟩=some (.slice a2 y.2.2.length c2):=by unfold World.cell?;simp[hb4]
  have hl2:w.heap.size+1+1<w4.heap.size:=cell_lt c2'
  clear HB HY hend
  generalize y.2.2.length=ny at c2' hfin ⊢
  go_wp2_with fail
  go_ret2
  exact hfin.out _ (hf4.trans (Fr.alloc (Fr.refl _ w4) _))
 ·have hne:(er==0)=false:=by
   have:=encK_told hR hy
   simpa using this
  have HY:Hd (encK w.heap.size R G fs = .error (er,at')):=hy
  clear hy hff h6'
  generalize ((w3.setCell ⟨w.heap.size+6,0,none⟩ (vI er)).setCell ⟨w.heap.size+6,1,none⟩ (vI at'))=w4 at hf4 ⊢
  go_wp2_with fail
  go_region
  all_goals go_wp2_with fail
  all_goals go_ret2
  all_goals
   refine⟨hend.out _ (hf4.trans ?_),?_⟩
   ·repeat first
     | exact Fr.refl _ _
     | refine Fr.drew ?_
     | refine Fr.alloc ?_ _
   ·rw[HY.out];rfl
section
variable {b wb g0 K:Nat}
theorem len_next {o size:Nat}{x y:WS × (Nat × List UInt8)}(ho:o∈places)(hs:size≤8)(hx:Pos x)(h:nextX (writing b wb g0 K) o size x = .ok y):y.2.2.length=x.2.2.length+size∧Pos y:=by
 obtain⟨e,w⟩:=wr_next (b:=b) ho hs hx h
 refine⟨?_,w.pos⟩
 rw[e]
 simp[leBytes_length]
def Lg (n:Nat)(c:X (WS × (Nat × List UInt8))):Prop:=∀ y,c = .ok y→n≤y.2.2.length∧Pos y
theorem Lg.next {n o size:Nat}{c:X (WS × (Nat × List UInt8))}(h:Lg n c)(ho:o∈places)(hs:size≤8):Lg (n+size) (thenX c (nextX (writing b wb g0 K) o size)):=fun y hy=>by
 obtain⟨x,hx,hxy⟩:=then_ok hy
 obtain⟨h1,h2⟩:=h x hx
 obtain⟨l,p⟩:=len_next ho hs h2 hxy
 exact⟨by omega,p⟩
theorem Lg.ask {n o size:Nat}{t:WS→Bool}{er:Int}{c:X (WS × (Nat × List UInt8))}(h:Lg n c)(ho:o∈places)(hs:size≤8):Lg (n+size) (thenX c (askX (writing b wb g0 K) o size t er)):=fun y hy=>by
 obtain⟨x,hx,hxy⟩:=then_ok hy
 obtain⟨h1,h2⟩:=h x hx
 obtain⟨l,p⟩:=len_next ho hs h2 (ask_next hxy).1
 exact⟨by omega,p⟩
theorem Lg.mono {n m:Nat}{c:X (WS × (Nat × List UInt8))}(h:Lg n c)(hm:m≤n):Lg m c:=fun y hy=>⟨Nat.le_trans hm (h y hy).1,(h y hy).2⟩
theorem lg_parts {n:Nat}{c:X (WS × (Nat × List UInt8))}(op:Nat)(h1:1≤op∧op≤17∧op≠11∧op≠15)(h:Lg n c):Lg (n+1) (partsX (writing b wb g0 K) op c):=by
 have hv:∀ {n:Nat} {c:X (WS × (Nat × List UInt8))} (o:Nat),o∈places→Lg n c→Lg (n+1) (thenX c (varPart (writing b wb g0 K) o)):=fun o ho h=>h.ask ho (by omega)
 have m5:155∈places:=by simp[places]
 have m6:156∈places:=by simp[places]
 have m7:157∈places:=by simp[places]
 have m8:158∈places:=by simp[places]
 match op with
 | 1=>exact((hv 155 m5 h).next m8 (by omega)).mono (by omega)
 | 2=>exact(hv 156 m6 (hv 155 m5 h)).mono (by omega)
 | 3=>exact(hv 157 m7 (hv 156 m6 (hv 155 m5 h))).mono (by omega)
 | 4=>exact(hv 157 m7 (hv 156 m6 (hv 155 m5 h))).mono (by omega)
 | 5=>exact(hv 156 m6 (hv 155 m5 h)).mono (by omega)
 | 6=>exact((hv 155 m5 h).ask m8 (by omega)).mono (by omega)
 | 7=>exact((hv 156 m6 (hv 155 m5 h)).ask m8 (by omega)).mono (by omega)
 | 8=>exact((hv 156 m6 (hv 155 m5 h)).ask m8 (by omega)).mono (by omega)
 | 9=>exact((hv 155 m5 h).ask m8 (by omega)).mono (by omega)
 | 10=>exact((hv 156 m6 h).ask m8 (by omega)).mono (by omega)
 | 12=>exact hv 156 m6 h
 | 13=>exact(h.ask m8 (by omega)).mono (by omega)
 | 14=>exact((hv 156 m6 h).ask m8 (by omega)).mono (by omega)
 | 16=>exact hv 155 m5 h
 | 17=>exact(hv 157 m7 (hv 156 m6 (hv 155 m5 h))).mono (by omega)
 | 0=>omega
 | 11=>omega
 | 15=>omega
 | m+18=>omega
theorem instr_two {heads:List (Nat × Nat)}{fR i:Nat}{la lr:List Int}{x y:WS × (Nat × List UInt8)}(hx:Pos x)(h:instrK (writing b wb g0 K) heads fR i la lr x = .ok y):x.2.2.length+2≤y.2.2.length:=by
 obtain⟨x1,h1,h⟩:=then_ok h
 obtain⟨l1,p1⟩:=len_next (o:=154) (by simp[places]) (by omega) hx h1
 have hfr:∀ ends makes nb,Lg (x1.2.2.length) (frontOk (writing b wb g0 K) ends makes nb i x.1.at' x1):=fun ends makes nb z hz=>by
  have e:z.2=x1.2:=front_snd hz
  exact⟨by rw[e];exact Nat.le_refl _,(front_sm (b:=b) (bs:=[]) (br:=0) (rv:=nilS) (F:=[]) (p':=0) _ _ p1 hz).2.1.pos⟩
 split at h
 ·rename_i hop
  split at h
  ·obtain⟨x2,h2,h3⟩:=then_ok h
   obtain⟨g1,g2⟩:=hfr _ _ _ x2 h2
   obtain⟨z,h4,h5⟩:=then_ok h3
   have w0:=wr_count (v:=(la.length:Int)) g2
   obtain⟨l2,p2⟩:=len_next (o:=161) (by simp[places]) (by omega) w0.pos h4
   have l2:z.2.2.length=x2.2.2.length+1:=l2
   split at h5
   ·have:=(vars_wr p2 h5).pre.length_le
    omega
   ·cases h5
  ·split at h
   ·obtain⟨x3,h3,h⟩:=then_ok h
    obtain⟨x2,h2,h3⟩:=then_ok h3
    obtain⟨g1,g2⟩:=hfr _ _ _ x2 h2
    obtain⟨n3,-⟩:=ask_next h3
    obtain⟨l3,p3⟩:=len_next (o:=158) (by simp[places]) (by omega) g2 n3
    obtain⟨x4,h4,h5⟩:=then_ok h
    have w4:=(list_wr p3 h4).1
    have w5:=(list_wr w4.pos h5).1
    have e4:=w4.pre.length_le
    have e5:=w5.pre.length_le
    omega
   ·rename_i h15 h11
    have:=(lg_parts x.1.op.toNat (by omega) (hfr _ _ _) y h).1
    omega
 ·cases h
theorem head_five {x y:WS × (Nat × List UInt8)}(hx:Pos x)(h:headX (writing b wb g0 K) x = .ok y):x.2.2.length+5≤y.2.2.length:=by
 have h:=(headX_then (writing b wb g0 K) x).symm.trans h
 obtain⟨y1,h1,h⟩:=then_ok h
 obtain⟨y2,h2,h⟩:=then_ok h
 obtain⟨y3,h3,h⟩:=then_ok h
 obtain⟨y4,h4,h⟩:=then_ok h
 obtain⟨u,-,h⟩:=then_ok h
 obtain⟨l1,p1⟩:=len_next (o:=149) (by simp[places]) (by omega) hx h1
 obtain⟨l2,p2⟩:=len_next (o:=150) (by simp[places]) (by omega) p1 h2
 obtain⟨l3,p3⟩:=len_next (o:=151) (by simp[places]) (by omega) p2 h3
 obtain⟨l4,p4⟩:=len_next (o:=153) (by simp[places]) (by omega) p3 h4
 have e:y.2=y4.2:=loc_snd h
 rw[e]
 omega
theorem over_len {room:Nat}{G:Int}{fs:List PF}{vw:Value}{y:WS × (Nat × List UInt8)}(hroom:6+8*room≤1000000000000)(hc:∀ f∈fs,∀ c∈f.code,In64n c)
 (h:overK (writing b wb g0 K) G fs (WS.start vw,((room,magicL):Nat × List UInt8)) = .ok y):Pos y∧16≤y.2.2.length:=by
 obtain⟨-,hF,hn1,-⟩:=over_back (br:=0) (rv:=nilS) (vr:=nilS) (fv:=nilS) hroom hc h
 obtain⟨x1,h1,h⟩:=then_ok h
 obtain⟨x2,h2,h⟩:=then_ok h
 obtain⟨x3,h3,h4⟩:=then_ok h
 have p0:Pos (({ WS.start vw with globals:=G,count:=(fs.length:Nat) }:WS),((room,magicL):Nat × List UInt8)):=⟨rfl,hroom⟩
 obtain⟨l1,p1⟩:=len_next (o:=146) (by simp[places]) (by omega) p0 (ask_next h1).1
 obtain⟨l2,p2⟩:=len_next (o:=161) (by simp[places]) (by omega) p1 (ask_next h2).1
 have l1:x1.2.2.length=6+1:=l1
 have hlh:(headsOfP fs).length=fs.length:=by simp[headsOfP]
 have hhd:∀ k:Nat,((headsOfP fs).getD k (0,0)).1≤255∧((headsOfP fs).getD k (0,0)).2≤255:=fun k=>by
  by_cases hk:k<fs.length
  ·have e:(headsOfP fs).getD k (0,0)=(fs[k].P.toNat,fs[k].R.toNat):=by simp[headsOfP,List.getD,hk]
   rw[e]
   obtain⟨-,q2,q3,-⟩:=hF fs[k] (List.getElem_mem hk)
   exact⟨by show fs[k].P.toNat≤255;omega,by show fs[k].R.toNat≤255;omega⟩
  ·have e:(headsOfP fs).getD k (0,0)=(0,0):=by simp[headsOfP,List.getD,Nat.le_of_not_lt hk]
   rw[e]
   exact⟨Nat.zero_le _,Nat.zero_le _⟩
 have hH:(headsOfP fs).length≤65535:=by omega
 generalize headsOfP fs=H at h4 hH hhd
 have c1:=of_decide_eq_true (ask_next h1).2
 have g1:x1.1.globals=G:=by rw[(wr_next (b:=b) (o:=146) (by simp[places]) (by omega) p0 (ask_next h1).1).1]
 have g2:x2.1.globals=G:=by rw[(wr_next (b:=b) (o:=161) (by simp[places]) (by omega) p1 (ask_next h2).1).1];exact g1
 rw[g1] at c1
 cases fs with
 | nil=>simp at hn1
 | cons f r =>
   obtain⟨a,ha,hr⟩:=then_ok h3
   obtain⟨wa,-,-⟩:=head_sm (br:=0) (rv:=nilS) (bs:=[]) (x:=(inF f x2.1,x2.2)) p2 ha
   have l3:=head_five (x:=(inF f x2.1,x2.2)) p2 ha
   have l3:x2.2.2.length+5≤a.2.2.length:=l3
   obtain⟨wr,-,-⟩:=heads_sm (br:=0) (rv:=nilS) (bs:=[]) wa.pos hr
   have l4:=wr.pre.length_le
   obtain⟨z,hz,hr2⟩:=then_ok h4
   obtain⟨-,-,-,hpos,-⟩:=hF f (by simp)
   have eg:x3.1.globals=G:=by
    have e1:a.1.globals=x2.1.globals:=wa.num 146 (by simp[places]) (by omega)
    rw[wr.glob,e1,g2]
   have hF6:∀ f'∈r,HeadF f':=fun f' h'=>hF f' (by simp[h'])
   have hc6:∀ f'∈r,∀ c∈f'.code,In64n c:=fun f' h'=>hc f' (by simp[h'])
   have wz:=code_wr (b:=b) (x:=(inF f x3.1,x3.2)) hH wr.pos hz
   have ez:z.1.globals=G:=by
    have:z.1.globals=x3.1.globals:=wz.num 146 (by simp[places]) (by simp)
    rw[this,eg]
   obtain⟨⟨w5,p5⟩,-⟩:=funcs_sm (br:=0) (rv:=nilS) (bs:=[]) hH hhd wz.pos (by rw[ez];exact c1) hF6 hc6 hr2
   have l5:=w5.length_le
   refine⟨p5,?_⟩
   cases hcd:f.code with
   | nil=>rw[hcd] at hpos;simp at hpos
   | cons c cs =>
     rw[hcd] at hz
     obtain⟨a2,ha2,hcs⟩:=then_ok hz
     have l6:=instr_two (x:=(inI c (inF f x3.1),x3.2)) wr.pos ha2
     have l6:x3.2.2.length+2≤a2.2.2.length:=l6
     have w7:=instr_wr (b:=b) (x:=(inI c (inF f x3.1),x3.2)) wr.pos hH ha2
     have l7:=(code_wr (b:=b) hH w7.pos hcs).pre.length_le
     omega
end
theorem enc_dec {n R:Nat}(hR:RoomOk R){G:Int}{fs:List PF}{y:WS × (Nat × List UInt8)}(hc:∀ f∈fs,∀ c∈f.code,In64n c)(h:encK n R G fs = .ok y) :
 decX y.2.2 = .ok (G,fs.map hd,fs.map (fun f=>f.code.map ai))∧y.2.2.length≤1000000000000∧16≤y.2.2.length:=by
 have h:overK (writing (n+4) (n+2) (n+1) (n+8)) G fs (WS.start (writerFn (n+2)),((R,magicL):Nat × List UInt8)) = .ok y:=h
 obtain⟨h1,-⟩:=over_back (br:=0) (rv:=nilS) (vr:=nilS) (fv:=nilS) hR.2 hc h
 obtain⟨p,l⟩:=over_len hR.2 hc h
 exact⟨h1,by have:=p.2;omega,l⟩
end Go.Proofs.YtingenonbkencaaDoor
