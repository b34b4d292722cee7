import Derived.Test.YtingenonbkencaaDoorQRfJ
import Derived.Test.YtingenonbkencaaDoorQRlJ
import Derived.Test.YtingenonbkencaaDoorQW3J
set_option linter.unusedVariables false
set_option linter.unusedSimpArgs false
namespace Go.Proofs.YtingenonbkencaaDoor
open Go.RowKit (wrap32 wrap64)
def leN (size:Nat)(v:Int):List UInt8:=leBytes size (IntKind.u64.wrap v).toNat
def lst (l:List Int):List UInt8:=leN 1 (l.length:Nat)++l.flatMap (leN 1)
def docL (c:PI)(u:UInt8):List UInt8 :=
 if u=82 then leN 1 c.r else if u=83 then leN 1 c.s else if u=84 then leN 1 c.t else if u=105 then leN 8 c.n else if u=70∨u=74 then leN 2 c.n else if u=65∨u=86 then lst c.args else if u=66 then lst c.rets else leN 1 c.n
def docP : Nat→List UInt8
 | 1=>[82,105] | 2=>[82,83] | 3=>[82,83,84] | 4=>[82,83,84] | 5=>[82,83] | 6=>[82,99] | 7=>[82,83,102] | 8=>[82,83,102] | 9=>[82,103] | 10=>[83,103] | 11=>[70,65,66] | 12=>[83] | 13=>[74] | 14=>[83,74] | 15=>[86] | 16=>[82] | 17=>[82,83,84] | _=>[]
def docI (c:PI):List UInt8:=leN 1 c.op++(docP c.op.toNat).flatMap (docL c)
def docH (f:PF):List UInt8:=leN 1 f.P++leN 1 f.R++leN 1 f.V++leN 2 (f.code.length:Nat)
def docC (f:PF):List UInt8:=f.code.flatMap docI
def docAll (G:Int)(fs:List PF):List UInt8:=magicL++leN 1 G++leN 2 (fs.length:Nat)++fs.flatMap docH++fs.flatMap docC
section
variable {b wb g0 K:Nat}
structure Wb (s:WS)(l:List UInt8)(y:WS × (Nat × List UInt8)):Prop where
 pos:Pos y
 bytes:y.2.2=l
 num:∀ o,o∈places→o≠161→y.1.get o=s.get o
def Wn (s:WS)(l:List UInt8)(c:X (WS × (Nat × List UInt8))):Prop:=∀ y,c = .ok y→Wb s l y
theorem Wb.step {s:WS}{l:List UInt8}{x y:WS × (Nat × List UInt8)}{o size:Nat}(h:Wb s l x)(ho:o∈places)(hn:o≠161)(hs:size≤8)(hy:nextX (writing b wb g0 K) o size x = .ok y):Wb s (l++leN size (s.get o)) y:=by
 obtain⟨e,w⟩:=wr_next (b:=b) ho hs h.pos hy
 refine⟨w.pos,?_,fun o' h1 h2=>(w.num o' h1 h2).trans (h.num o' h1 h2)⟩
 rw[e]
 show x.2.2++leBytes size (IntKind.u64.wrap (x.1.get o)).toNat=_
 rw[h.bytes,h.num o ho hn]
 rfl
theorem Wn.next {s:WS}{l:List UInt8}{c:X (WS × (Nat × List UInt8))}{o size:Nat}(h:Wn s l c)(ho:o∈places)(hn:o≠161)(hs:size≤8):Wn s (l++leN size (s.get o)) (thenX c (nextX (writing b wb g0 K) o size)):=fun y hy=>by
 obtain⟨x,hx,hxy⟩:=then_ok hy
 exact(h x hx).step ho hn hs hxy
theorem Wn.ask {s:WS}{l:List UInt8}{c:X (WS × (Nat × List UInt8))}{o size:Nat}{t:WS→Bool}{er:Int}(h:Wn s l c)(ho:o∈places)(hn:o≠161)(hs:size≤8):Wn s (l++leN size (s.get o)) (thenX c (askX (writing b wb g0 K) o size t er)):=fun y hy=>by
 obtain⟨x,hx,hxy⟩:=then_ok hy
 exact(h x hx).step ho hn hs (ask_next hxy).1
theorem Wb.front {s:WS}{l:List UInt8}{x:WS × (Nat × List UInt8)}{ends makes nb:Bool}{i:Nat}{p:Int}(h:Wb s l x):Wn s l (frontOk (writing b wb g0 K) ends makes nb i p x):=fun y hy=>by
 obtain⟨-,w,-⟩:=front_sm (b:=b) (bs:=[]) (br:=0) (rv:=nilS) (F:=[]) (p':=0) _ _ h.pos hy
 have e:y.2=x.2:=front_snd hy
 exact⟨w.pos,by rw[e];exact h.bytes,fun o h1 h2=>(w.num o h1 h2).trans (h.num o h1 h2)⟩
theorem Wb.vars {s:WS}:∀ {la:List Int} {l:List UInt8} {x y:WS × (Nat × List UInt8)},Wb s l x→varsK (writing b wb g0 K) la x = .ok y→Wb s (l++la.flatMap (leN 1)) y
 | [],l,x,y,h,hy=>by cases hy;simpa using h
 | v::r,l,x,y,h,hy=>by
   obtain⟨z,h1,h2⟩:=then_ok hy
   obtain⟨e,w,-⟩:=one_wr h.pos h1
   have hz:Wb s (l++leN 1 v) z:=⟨w.pos,by rw[e];show x.2.2++_=_;rw[h.bytes];rfl,fun o k1 k2=>(w.num o k1 k2).trans (h.num o k1 k2)⟩
   have:=hz.vars h2
   rw[List.flatMap_cons,← List.append_assoc]
   exact this
theorem Wb.list {s:WS}{n:Nat}{la:List Int}{l:List UInt8}{x y:WS × (Nat × List UInt8)}(h:Wb s l x)(hy:listK (writing b wb g0 K) n la x = .ok y):Wb s (l++lst la) y:=by
 obtain⟨z,h1,h2⟩:=then_ok hy
 have w0:=wr_count (v:=(la.length:Int)) h.pos
 obtain⟨e,w⟩:=wr_next (b:=b) (o:=161) (by simp[places]) (by omega) w0.pos h1
 have hz:Wb s (l++leN 1 (la.length:Nat)) z:=⟨w.pos,by rw[e];show x.2.2++_=_;rw[h.bytes];rfl,fun o k1 k2=>((w.num o k1 k2).trans (w0.num o k1 k2)).trans (h.num o k1 k2)⟩
 split at h2
 ·have:=hz.vars h2
  unfold lst
  rw[← List.append_assoc]
  exact this
 ·cases h2
theorem Wn.parts {s:WS}{l:List UInt8}{c:X (WS × (Nat × List UInt8))}{p:PI}(op:Nat)(h1:1≤op∧op≤17∧op≠11∧op≠15)(hr:s.get 155=p.r)(hs:s.get 156=p.s)(ht:s.get 157=p.t)(hn:s.get 158=p.n)(h:Wn s l c):Wn s (l++(docP op).flatMap (docL p)) (partsX (writing b wb g0 K) op c):=by
 have m5:155∈places:=by simp[places]
 have m6:156∈places:=by simp[places]
 have m7:157∈places:=by simp[places]
 have m8:158∈places:=by simp[places]
 have vr:∀ {l:List UInt8} {c:X (WS × (Nat × List UInt8))},Wn s l c→Wn s (l++leN 1 p.r) (thenX c (varPart (writing b wb g0 K) 155)):=fun h=>by rw[← hr];exact h.ask m5 (by omega) (by omega)
 have vs:∀ {l:List UInt8} {c:X (WS × (Nat × List UInt8))},Wn s l c→Wn s (l++leN 1 p.s) (thenX c (varPart (writing b wb g0 K) 156)):=fun h=>by rw[← hs];exact h.ask m6 (by omega) (by omega)
 have vt:∀ {l:List UInt8} {c:X (WS × (Nat × List UInt8))},Wn s l c→Wn s (l++leN 1 p.t) (thenX c (varPart (writing b wb g0 K) 157)):=fun h=>by rw[← ht];exact h.ask m7 (by omega) (by omega)
 have vn:∀ {l:List UInt8} {c:X (WS × (Nat × List UInt8))} {size:Nat} {t:WS→Bool} {er:Int},size≤8→Wn s l c→Wn s (l++leN size p.n) (thenX c (askX (writing b wb g0 K) 158 size t er)):=fun hz h=>by rw[← hn];exact h.ask m8 (by omega) hz
 have vi:∀ {l:List UInt8} {c:X (WS × (Nat × List UInt8))},Wn s l c→Wn s (l++leN 8 p.n) (thenX c (intPart (writing b wb g0 K))):=fun h=>by rw[← hn];exact h.next m8 (by omega) (by omega)
 have cast:∀ {l l':List UInt8} {c:X (WS × (Nat × List UInt8))},l=l'→Wn s l c→Wn s l' c:=fun e h=>by subst e;exact h
 match op with
 | 1=>exact cast (by simp[docP,docL]) (vi (vr h))
 | 2=>exact cast (by simp[docP,docL]) (vs (vr h))
 | 3=>exact cast (by simp[docP,docL]) (vt (vs (vr h)))
 | 4=>exact cast (by simp[docP,docL]) (vt (vs (vr h)))
 | 5=>exact cast (by simp[docP,docL]) (vs (vr h))
 | 6=>exact cast (by simp[docP,docL]) (vn (size:=1) (by omega) (vr h))
 | 7=>exact cast (by simp[docP,docL]) (vn (size:=1) (by omega) (vs (vr h)))
 | 8=>exact cast (by simp[docP,docL]) (vn (size:=1) (by omega) (vs (vr h)))
 | 9=>exact cast (by simp[docP,docL]) (vn (size:=1) (by omega) (vr h))
 | 10=>exact cast (by simp[docP,docL]) (vn (size:=1) (by omega) (vs h))
 | 12=>exact cast (by simp[docP,docL]) (vs h)
 | 13=>exact cast (by simp[docP,docL]) (vn (size:=2) (by omega) h)
 | 14=>exact cast (by simp[docP,docL]) (vn (size:=2) (by omega) (vs h))
 | 16=>exact cast (by simp[docP,docL]) (vr h)
 | 17=>exact cast (by simp[docP,docL]) (vt (vs (vr h)))
 | 0=>omega
 | 11=>omega
 | 15=>omega
 | m+18=>omega
theorem instr_doc {heads:List (Nat × Nat)}{fR i:Nat}{c:PI}{s:WS}{l:List UInt8}{st:Nat × List UInt8}{y:WS × (Nat × List UInt8)}(hx:Pos (s,st))(hl:st.2=l)(h:instrK (writing b wb g0 K) heads fR i c.args c.rets (inI c s,st) = .ok y):Pos y∧y.2.2=l++docI c:=by
 obtain⟨x1,h1,h⟩:=then_ok h
 have h0:Wb (inI c s) l (inI c s,st):=⟨hx,hl,fun _ _ _=>rfl⟩
 have w1:Wb (inI c s) (l++leN 1 c.op) x1:=h0.step (o:=154) (by simp[places]) (by omega) (by omega) h1
 have eo:(inI c s).op=c.op:=rfl
 suffices hw:Wb (inI c s) (l++leN 1 c.op++(docP c.op.toNat).flatMap (docL c)) y by
  refine⟨hw.pos,?_⟩
  rw[hw.bytes]
  unfold docI
  rw[List.append_assoc]
 split at h
 ·rename_i hop
  have hop:1≤c.op∧c.op≤17:=hop
  split at h
  ·rename_i h15
   have h15:c.op=15:=h15
   obtain⟨x2,h2,h3⟩:=then_ok h
   have w2:=w1.front x2 h2
   have w3:=w2.list h3
   rw[h15] at w3 ⊢
   simpa[docP,docL] using w3
  ·split at h
   ·rename_i h11
    have h11:c.op=11:=h11
    obtain⟨x3,h3,h⟩:=then_ok h
    obtain⟨x2,h2,h3⟩:=then_ok h3
    have w2:=w1.front x2 h2
    have w3:Wb (inI c s) (l++leN 1 c.op++leN 2 c.n) x3:=w2.step (o:=158) (by simp[places]) (by omega) (by omega) (ask_next h3).1
    obtain⟨x4,h4,h5⟩:=then_ok h
    have w5:=(w3.list h4).list h5
    rw[h11] at w5 ⊢
    simpa[docP,docL] using w5
   ·rename_i n15 n11
    have n15:¬ c.op=15:=n15
    have n11:¬ c.op=11:=n11
    have h:partsX (writing b wb g0 K) c.op.toNat _ = .ok y:=h
    exact Wn.parts (p:=c) c.op.toNat (by omega) rfl rfl rfl rfl w1.front y h
 ·cases h
theorem code_doc {heads:List (Nat × Nat)}{fR:Nat}:∀ {cs:List PI} {i:Nat} {s:WS} {l:List UInt8} {st:Nat × List UInt8} {y:WS × (Nat × List UInt8)},Pos (s,st)→st.2=l→codeK (writing b wb g0 K) heads fR i cs (s,st) = .ok y→Pos y∧y.2.2=l++cs.flatMap docI
 | [],i,s,l,st,y,hx,hl,h=>by cases h;exact⟨hx,by simpa using hl⟩
 | c::r,i,s,l,st,y,hx,hl,h=>by
   obtain⟨z,h1,h2⟩:=then_ok h
   obtain⟨p1,e1⟩:=instr_doc hx hl h1
   obtain⟨z1,z2⟩:=z
   obtain⟨p2,e2⟩:=code_doc (s:=z1) (st:=z2) p1 e1 h2
   exact⟨p2,by rw[e2,List.flatMap_cons,List.append_assoc]⟩
theorem funcs_doc {heads:List (Nat × Nat)}:∀ {fs:List PF} {s:WS} {l:List UInt8} {st:Nat × List UInt8} {y:WS × (Nat × List UInt8)},Pos (s,st)→st.2=l→funcsK (writing b wb g0 K) heads fs (s,st) = .ok y→Pos y∧y.2.2=l++fs.flatMap docC
 | [],s,l,st,y,hx,hl,h=>by cases h;exact⟨hx,by simpa using hl⟩
 | f::r,s,l,st,y,hx,hl,h=>by
   obtain⟨z,h1,h2⟩:=then_ok h
   obtain⟨p1,e1⟩:=code_doc (s:=inF f s) (st:=st) hx hl h1
   obtain⟨z1,z2⟩:=z
   obtain⟨p2,e2⟩:=funcs_doc (s:=z1) (st:=z2) p1 e1 h2
   exact⟨p2,by rw[e2,List.flatMap_cons,List.append_assoc];rfl⟩
theorem head_doc {f:PF}{s:WS}{l:List UInt8}{st:Nat × List UInt8}{y:WS × (Nat × List UInt8)}(hx:Pos (s,st))(hl:st.2=l)(h:headX (writing b wb g0 K) (inF f s,st) = .ok y):Pos y∧y.2.2=l++docH f:=by
 have hp:=(head_sm (b:=b) (bs:=[]) (br:=0) (rv:=nilS) (x:=(inF f s,st)) hx h).1.pos
 have h:=(headX_then (writing b wb g0 K) (inF f s,st)).symm.trans h
 obtain⟨y1,h1,h⟩:=then_ok h
 obtain⟨y2,h2,h⟩:=then_ok h
 obtain⟨y3,h3,h⟩:=then_ok h
 obtain⟨y4,h4,h⟩:=then_ok h
 obtain⟨u,-,h⟩:=then_ok h
 have h0:Wb (inF f s) l (inF f s,st):=⟨hx,hl,fun _ _ _=>rfl⟩
 have w1:=h0.step (o:=149) (by simp[places]) (by omega) (by omega) h1
 have w2:=w1.step (o:=150) (by simp[places]) (by omega) (by omega) h2
 have w3:=w2.step (o:=151) (by simp[places]) (by omega) (by omega) h3
 have w4:=w3.step (o:=153) (by simp[places]) (by omega) (by omega) h4
 have e:y.2=y4.2:=loc_snd h
 refine⟨hp,?_⟩
 rw[e,w4.bytes]
 unfold docH
 simp only[List.append_assoc]
 rfl
theorem heads_doc : ∀ {fs:List PF} {s:WS} {l:List UInt8} {st:Nat × List UInt8} {y:WS × (Nat × List UInt8)},Pos (s,st)→st.2=l→headsK (writing b wb g0 K) fs (s,st) = .ok y→Pos y∧y.2.2=l++fs.flatMap docH
 | [],s,l,st,y,hx,hl,h=>by cases h;exact⟨hx,by simpa using hl⟩
 | f::r,s,l,st,y,hx,hl,h=>by
   obtain⟨z,h1,h2⟩:=then_ok h
   obtain⟨p1,e1⟩:=head_doc hx hl h1
   obtain⟨z1,z2⟩:=z
   obtain⟨p2,e2⟩:=heads_doc (s:=z1) (st:=z2) p1 e1 h2
   exact⟨p2,by rw[e2,List.flatMap_cons,List.append_assoc]⟩
theorem over_doc {room:Nat}{G:Int}{fs:List PF}{vw:Value}{y:WS × (Nat × List UInt8)}(hroom:6+8*room≤1000000000000)
 (h:overK (writing b wb g0 K) G fs (WS.start vw,((room,magicL):Nat × List UInt8)) = .ok y):y.2.2=docAll G fs:=by
 obtain⟨x1,h1,h⟩:=then_ok h
 obtain⟨x2,h2,h⟩:=then_ok h
 obtain⟨x3,h3,h4⟩:=then_ok h
 have h0:Wb ({ WS.start vw with globals:=G,count:=(fs.length:Nat) }:WS) magicL (({ WS.start vw with globals:=G,count:=(fs.length:Nat) }:WS),((room,magicL):Nat × List UInt8)):=⟨⟨rfl,hroom⟩,rfl,fun _ _ _=>rfl⟩
 have w1:Wb ({ WS.start vw with globals:=G,count:=(fs.length:Nat) }:WS) (magicL++leN 1 G) x1:=h0.step (o:=146) (by simp[places]) (by omega) (by omega) (ask_next h1).1
 obtain⟨e1,-⟩:=wr_next (b:=b) (o:=146) (by simp[places]) (by omega) h0.pos (ask_next h1).1
 have k1:x1.1.get 161=(fs.length:Nat):=by rw[e1];rfl
 obtain⟨e2,q2⟩:=wr_next (b:=b) (o:=161) (by simp[places]) (by omega) w1.pos (ask_next h2).1
 have b2:x2.2.2=magicL++leN 1 G++leN 2 (fs.length:Nat):=by
  rw[e2]
  show x1.2.2++leBytes 2 (IntKind.u64.wrap (x1.1.get 161)).toNat=_
  rw[w1.bytes,k1]
  rfl
 obtain⟨x21,x22⟩:=x2
 obtain⟨p3,b3⟩:=heads_doc q2.pos b2 h3
 obtain⟨x31,x32⟩:=x3
 obtain⟨-,b4⟩:=funcs_doc p3 b3 h4
 exact b4
end
theorem enc_doc {n R:Nat}(hR:RoomOk R){G:Int}{fs:List PF}{y:WS × (Nat × List UInt8)}(h:encK n R G fs = .ok y):y.2.2=docAll G fs:=over_doc (b:=n+4) (wb:=n+2) (g0:=n+1) (K:=n+8) hR.2 h
set_option maxRecDepth 100000
set_option maxHeartbeats 1000000
def Bo (w:World)(B:Nat)(v:Value)(bs:List UInt8):Prop:=w.ownsRow B 5 1 v bs.length (bs.map u8v)∧B≤w.heap.size
theorem Bo.fr {S:Nat→Prop}{w w':World}{B:Nat}{v:Value}{bs:List UInt8}(h:Bo w B v bs)(f:Fr S w w')(hS:∀ k,B≤k→¬ S k):Bo w' B v bs:=⟨ownsRow_frL h.1 f (fun k e=>hS k (World.ownsRow.lt h.1 k e).1),Nat.le_trans h.2 f.size⟩
def Sb (w:World)(B k:Nat):Prop:=B≤k∧∃ cs f,w.heap[k]?=some (.cells cs 5 f)
def Fb (B:Nat)(w w':World):Prop:=Fr (Sb w B) w w'
theorem Fb.refl (B:Nat)(w:World):Fb B w w:=Fr.refl _ w
theorem Fb.fr {B:Nat}{w w':World}(h:Fb B w w'):Fr (fun k=>B≤k) w w':=h.mono (fun _ _ e=>e.1)
theorem Fb.trans {B:Nat}{w w1 w2:World}(h:Fb B w w1)(k:Fb B w1 w2):Fb B w w2:=by
 refine Fr.then h k (fun j hj e=>?_)
 obtain⟨e1,cs,f,e2⟩:=e
 by_cases hs:Sb w B j
 ·exact hs
 ·exact⟨e1,cs,f,by rw[← h.block j hj hs];exact e2⟩
theorem Fb.keep {B:Nat}{w w':World}(h:Fb B w w'){j t:Nat}{cs:Array Value}(hb:w.heap[j]?=some (.cells cs t))(ht:t≠5):w'.heap[j]?=some (.cells cs t):=by
 rw[h.block j (heap_lt hb) (fun⟨_,cs',f,e⟩=>by rw[hb] at e;cases e;exact ht rfl)]
 exact hb
theorem Bo.more {w w':World}{B:Nat}{v v':Value}{bs:List UInt8}{c:UInt8}(h:Bo w B v bs)(o:Obj)(h':w'.ownsRow B 5 1 v' (bs.length+1) (bs.map u8v++[u8v c]))(g:(w.alloc o).grownBy w' v.ownBlock):Bo w' B v' (bs++[c])∧Fb B w w':=by
 have f:Fb B w w':=Fr.trans (Fr.alloc (Fr.refl _ w) _) ((grown_frL g).mono (fun j _ hj=>by
  refine⟨(World.ownsRow.lt h.1 j hj).1,?_⟩
  rcases h.1.2 with⟨e,-⟩|⟨g',cap,cur,e,-,hb,-⟩
  ·rw[e] at hj;cases hj
  ·rw[e] at hj;cases hj;exact⟨cur,_,hb⟩))
 refine⟨⟨?_,Nat.le_trans h.2 f.size⟩,f⟩
 rw[List.length_append,List.map_append]
 exact h'
theorem add_any (v:Value)(bs:List UInt8)(B:Nat)(x n:Nat)(w:World)(h:Bo w B v bs)(hl:bs.length≤10000000000000)(hx:x<18446744073709551616)(hn:n≤8) :
 Calls Tryd.prog 47 #[v,.int .u64 x,.int .i64 n] w fun e w'=>∃ v',e = .returned v'∧Bo w' B v' (bs++leBytes n x)∧Fb B w w':=by
 obtain⟨i5,hi5,hz5,hs5,hb5⟩:=info_parts (P:=Tryd.prog) (e:=5) (z:=.int .u8 0) (size:=1) (bytes:=1) (by kernel_rfl)
 go_enter Tryd.func47,Tryd.ntmps47
 go_wp2_with fail
 go_loopw [0,1,7] (fun u z i wr=>∃ (k m:Nat) (cs:List UInt8),k≤n∧i = .int .i64 k∧z = .int .u64 m∧m<18446744073709551616∧Bo wr B u cs∧cs.length=bs.length+k∧Hd (cs++leBytes (n-k) m=bs++leBytes n x)∧Fb B w wr) (fun _ _ i _=>match i with | .int _ q=>n-q.toNat | _=>0)
 case atStart=>exact⟨0,x,bs,Nat.zero_le _,rfl,rfl,hx,h,rfl,rfl,Fb.refl _ _⟩
 case round =>
  obtain⟨k,m,cs,hk,rfl,rfl,hm,hb,hcl,HE,hfr⟩:=hrel
  by_cases hlt:k<n
  ·obtain⟨c,hc⟩:∃ c,c=UInt8.ofNat (m % 256):=⟨_,rfl⟩
   have hbv:(m:Int) % 256=(c.toNat:Nat):=by
    have:c.toNat=m % 256:=by rw[hc];simp
    omega
   have HS:Hd ((cs++[c])++leBytes (n-(k+1)) (m / 256)=bs++leBytes n x):=by
    have h1:=HE.out
    rw[show n-k=(n-(k+1))+1 by omega] at h1
    unfold Hd
    rw[← h1,hc,List.append_assoc]
    rfl
   have hcell1:∀ (j:Nat) (u:Value),[u8v c][j]?=some u→(wr.alloc (.cells #[u8v c] 5)).cell? ((⟨wr.heap.size,0,none⟩:Addr).add j)=some u:=by
    intro j u hu
    rw[addr_add,World.cell?_alloc_new]
    simpa using hu
   have hkb:cs.length+1≤maxLen:=by unfold maxLen;omega
   have hBw:=hb.2
   have HB:Hd (Bo wr B u0 cs):=hb
   clear hc HE
   go_wp2_with ((at_builtin;refine wpList_append_own _ rfl (.tmp 13) (.tmp 17) 22 rfl B 5 i5 (.int .u8 0) 1 1 Tryd.underlying22 hi5 hz5 hs5 hb5 rfl (by omega) u0 cs.length _ rfl (hb.1.alloc _) ⟨wr.heap.size,0,none⟩ 1 1 [u8v c] rfl rfl hcell1 (by intro u hu;simp at hu;subst hu;rfl) hkb (by omega) (by simp;omega) ?_;intro v1 w6 hown6 hgrow6 hnil6))
   obtain⟨hb6,hf6⟩:=HB.out.more _ hown6 hgrow6
   exact⟨⟨k+1,m / 256,cs++[c],by omega,by simp,by simp,by omega,hb6,by simp;omega,HS.out,hfr.trans hf6⟩,by simp;omega⟩
  ·have hkn:k=n:=by omega
   subst hkn
   go_wp2_with fail
   go_ret
   refine⟨_,rfl,?_,hfr⟩
   have:=HE.out
   rw[Nat.sub_self] at this
   rw[← this]
   simpa[leBytes] using hb
def IB (B:Nat)(w:World)(v:Value)(l:List Int):Prop :=
 ∃ a c,v = .slice a l.length c∧(l≠[]→∃ k o,a=some ⟨k,o,none⟩∧k<B∧k<w.heap.size∧∀ j (h:j<l.length),w.cell? ⟨k,o+j,none⟩=some (vI l[j]))
theorem IB.fb {B:Nat}{w w':World}{v:Value}{l:List Int}(h:IB B w v l)(f:Fb B w w'):IB B w' v l:=by
 obtain⟨a,c,e,h⟩:=h
 refine⟨a,c,e,fun hne=>?_⟩
 obtain⟨k,o,e,hB,hk,hc⟩:=h hne
 exact⟨k,o,e,hB,Nat.lt_of_lt_of_le hk f.size,fun j hj=>(f.fr.cell hk (by omega)).trans (hc j hj)⟩
theorem u8_le (z:Int):∃ c:UInt8,IntKind.u8.wrap z=(c.toNat:Nat)∧leN 1 z=[c]:=by
 refine⟨UInt8.ofNat ((IntKind.u64.wrap z).toNat % 256),?_,rfl⟩
 have h1:(UInt8.ofNat ((IntKind.u64.wrap z).toNat % 256)).toNat=(IntKind.u64.wrap z).toNat % 256:=by simp
 rw[h1]
 simp only[IntKind.wrap,IntKind.signed,IntKind.bits]
 simp
 omega
theorem blist_any (v lv:Value)(bs:List UInt8)(l:List Int)(B:Nat)(w:World)(h:Bo w B v bs)(hv:IB B w lv l)(hl:bs.length≤10000000000000)(hll:l.length≤255) :
 Calls Tryd.prog 74 #[v,lv] w fun e w'=>∃ v',e = .returned v'∧Bo w' B v' (bs++lst l)∧Fb B w w':=by
 obtain⟨i5,hi5,hz5,hs5,hb5⟩:=info_parts (P:=Tryd.prog) (e:=5) (z:=.int .u8 0) (size:=1) (bytes:=1) (by kernel_rfl)
 obtain⟨a,c,rfl,hcs⟩:=hv
 obtain⟨c0,hc0,hl0⟩:=u8_le (l.length:Nat)
 have HL0:Hd (leN 1 (l.length:Nat)=[c0]):=hl0
 have hcell1:∀ (j:Nat) (u:Value),[u8v c0][j]?=some u→(w.alloc (.cells #[u8v c0] 5)).cell? ((⟨w.heap.size,0,none⟩:Addr).add j)=some u:=by
  intro j u hu
  rw[addr_add,World.cell?_alloc_new]
  simpa using hu
 have hkb:bs.length+1≤maxLen:=by unfold maxLen;omega
 have hBw:=h.2
 have HB:Hd (Bo w B v bs):=h
 have HC:Hd _:=hcs
 clear hl0 hcs
 go_enter Tryd.func74,Tryd.ntmps74
 go_wp2_with ((at_builtin;refine wpList_append_own _ rfl (.tmp 6) (.tmp 10) 22 rfl B 5 i5 (.int .u8 0) 1 1 Tryd.underlying22 hi5 hz5 hs5 hb5 rfl (by omega) v bs.length _ rfl (h.1.alloc _) ⟨w.heap.size,0,none⟩ 1 1 [u8v c0] rfl rfl hcell1 (by intro u hu;simp at hu;subst hu;rfl) hkb (by omega) (by simp;omega) ?_;intro v1 w6 hown6 hgrow6 hnil6))
 obtain⟨hb6,hf6⟩:=HB.out.more _ hown6 hgrow6
 clear hown6 hgrow6 hnil6 hcell1 hkb h HB
 go_loopw [0,5] (fun u i wr=>∃ (k:Nat),k≤l.length∧i = .int .i64 k∧Bo wr B u (bs++[c0]++(l.take k).flatMap (leN 1))∧Hd (((l.take k).flatMap (leN 1)).length=k)∧Fb B w wr) (fun _ i _=>match i with | .int _ q=>l.length-q.toNat | _=>0)
 case atStart=>exact⟨0,Nat.zero_le _,rfl,by simpa using hb6,rfl,hf6⟩
 case round =>
  obtain⟨k,hk,rfl,hb,HK,hfr⟩:=hrel
  by_cases hlt:k<l.length
  ·obtain⟨g,o,rfl,hgB,hg,hcs⟩:=HC.out (by intro e;simp[e] at hlt)
   have hck:wr.cell? ⟨g,o+k,none⟩=some (vI l[k]):=(hfr.fr.cell hg (by omega)).trans (hcs k hlt)
   have hgl:g<wr.heap.size:=Nat.lt_of_lt_of_le hg hfr.size
   have htk:Hd ((l.take (k+1)).flatMap (leN 1)=(l.take k).flatMap (leN 1)++leN 1 l[k]):=by
    unfold Hd
    rw[List.take_add_one,List.flatMap_append]
    simp[List.getElem?_eq_getElem hlt]
   obtain⟨ck,hc1,hl1⟩:=u8_le l[k]
   have HL1:Hd (leN 1 l[k]=[ck]):=hl1
   generalize l[k]=z at hck hc1 htk HL1
   have hcell1:∀ (j:Nat) (u:Value),[u8v ck][j]?=some u→(wr.alloc (.cells #[u8v ck] 5)).cell? ((⟨wr.heap.size,0,none⟩:Addr).add j)=some u:=by
    intro j u hu
    rw[addr_add,World.cell?_alloc_new]
    simpa using hu
   have hln:(bs++[c0]++(l.take k).flatMap (leN 1)).length=bs.length+1+k:=by rw[List.length_append,List.length_append,HK.out];rfl
   generalize hcs':bs++[c0]++(l.take k).flatMap (leN 1)=cs at hb hln
   have HCS:Hd (bs++[c0]++(l.take k).flatMap (leN 1)=cs):=hcs'
   have hkb:cs.length+1≤maxLen:=by unfold maxLen;omega
   have hBw':=hb.2
   have HB:Hd (Bo wr B u0 cs):=hb
   have hkn:(0:Int)≤k∧(k:Int)<l.length:=by omega
   clear hcs hl1 hcs'
   go_wp2_with ((at_builtin;refine wpList_append_own _ rfl (.tmp 18) (.tmp 24) 22 rfl B 5 i5 (.int .u8 0) 1 1 Tryd.underlying22 hi5 hz5 hs5 hb5 rfl (by omega) u0 cs.length _ rfl (hb.1.alloc _) ⟨wr.heap.size,0,none⟩ 1 1 [u8v ck] rfl rfl hcell1 (by intro u hu;simp at hu;subst hu;rfl) hkb (by omega) (by simp;omega) ?_;intro v2 w7 hown7 hgrow7 hnil7))
   obtain⟨hb7,hf7⟩:=HB.out.more _ hown7 hgrow7
   refine⟨⟨k+1,by omega,by simp,?_,?_,hfr.trans hf7⟩,by simp;omega⟩
   ·rw[htk.out,HL1.out,← List.append_assoc,HCS.out];exact hb7
   ·unfold Hd
    rw[htk.out,HL1.out,List.length_append,HK.out];rfl
  ·have hkn:k=l.length:=by omega
   subst hkn
   go_wp2_with fail
   go_ret
   refine⟨_,rfl,?_,hfr⟩
   rw[List.take_of_length_le (Nat.le_refl _)] at hb
   unfold lst
   rw[HL0.out,← List.append_assoc]
   exact hb
end Go.Proofs.YtingenonbkencaaDoor
