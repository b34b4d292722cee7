import Derived.Test.YtingenonbkencaaDoorQW1J
import Derived.Test.YtingenonbkencaaDoorQS1J
import Derived.Test.YtingenonbkencaaDoorQE6J
import Derived.Test.YtingenonbkencaaDoorQC2J
import Derived.Test.YtingenonbkencaaDoorQN1a
import Derived.Test.YtingenonbkencaaDoorQN1b
import Derived.Test.YtingenonbkencaaDoorQN1c
import Derived.Test.YtingenonbkencaaDoorQN1d
import Derived.Test.YtingenonbkencaaDoorQA3J
import Derived.Test.YtingenonbkencaaDoorQE3J
import Derived.Test.YtingenonbkencaaDoorQK1
set_option linter.unusedVariables false
set_option linter.unusedSimpArgs false
namespace Go.Proofs.YtingenonbkencaaDoor
open Go.RowKit (wrap32 wrap64)
set_option maxRecDepth 100000
set_option maxHeartbeats 1000000
theorem next_writes (b wb g0 K:Nat)(l:List UInt8)(bv:Value)(p:Addr)(at' v:Int)(size:Nat)(w:World)(h0:w.cell? ⟨b,0,none⟩=some (writerFn wb))(h1:w.cell? ⟨b,1,none⟩=some (vI at'))(f1:w.frozen? ⟨b,1,none⟩=false)
 (hp:w.cell? p=some (vI v)) (hs:size≤8) (hr:Row w wb g0 K l bv) (hl:l.length+size≤1000000000000) (hbS:¬ (b=wb∨K≤b)) (hb:b<w.heap.size) :
 Calls Tryd.prog 90 #[.pointer (some ⟨b,0,none⟩),.pointer (some p),.int .i64 size] w fun e w' =>
  e = .returned (vI at')∧∃ w1 bv',Row w1 wb g0 K (l++leBytes size (IntKind.u64.wrap v).toNat) bv'∧Fr (fun k=>k=wb∨K≤k) w w1∧w'=w1.setCell ⟨b,1,none⟩ (vI (adv at' size)):=by
 unfold adv
 rw[← wrap64_wrap]
 have hw:=writes_any wb g0 K l bv p at' v size w hp hs hr hl
 unfold writerFn at h0
 go_enter Tryd.func90,Tryd.ntmps90
 go_wp2_with fail
 refine hw.mono ?_
 rintro e w1 ⟨rfl,⟨bv',hr1⟩,hf1⟩
 have d1:w1.cell? ⟨b,1,none⟩=some (vI at'):=(hf1.cell hb hbS).trans h1
 have z1:w1.frozen? ⟨b,1,none⟩=false:=(hf1.frozen hb hbS).trans f1
 clear hw
 go_wp2_with fail
 go_ret
 exact⟨rfl,w1,bv',hr1,hf1,rfl⟩
theorem writing_at (b wb g0 K:Nat):NextAt (writing b wb g0 K) (fun st=>st.1):=by
 intro o ho x size w hroom hx hs1 hs8
 obtain⟨s,st⟩:=x
 obtain⟨hl,hn,hI⟩:=hx
 have hroom':1≤st.1:=hroom
 simp only at hl hn
 obtain⟨h1,h2,h3,h4,h5,h6,h7,h8,h9,bv,hrow⟩:=hI
 simp only at h1
 have h2':st.2.length+8*st.1≤1000000000000:=h2
 have hbS:¬ (b=wb∨K≤b):=by omega
 have h0:w.cell? ⟨b,0,none⟩=some (writerFn wb):=by rw[hl.facts.1,hn];rfl
 have hu:w.cell? ⟨b,o,none⟩=some (vI (s.get o)):=by rw[hl.cell,cells_get s o ho]
 refine(next_writes b wb g0 K st.2 bv ⟨b,o,none⟩ s.at' (s.get o) size w h0 hl.facts.2.1 (hl.frozen 1) hu hs8 hrow (by omega) hbS hl.lt).mono ?_
 rintro e w' ⟨rfl,w1,bv',hr1,hf1,rfl⟩
 have hfb:Fr (fun k=>k=b) w1 (w1.setCell ⟨b,1,none⟩ (vI (adv s.at' size))):=Fr.setCell (Fr.refl (fun k=>k=b) w1) _ _ (Or.inl rfl)
 refine⟨(hf1.mono (fun k _ hk=>Or.inr hk)).trans (hfb.mono (fun k _ hk=>Or.inl hk)),?_⟩
 have hadv:adv s.at' size=s.at'+size:=adv_small _ _ (by omega) (by omega) hs8
 have hl1:Lies w1 b s:=hl.fr hf1 hbS
 have hT1:Tab w1:=h9.fr hf1 (by omega)
 have e:nextX (writing b wb g0 K) o size (s,st) = .ok ({ s with at':=adv s.at' size },(st.1-1,st.2++leBytes size (IntKind.u64.wrap (s.get o)).toNat)):=by
  unfold nextX
  simp only[writing]
  rw[if_neg (by omega)]
  simp only[set_get]
 rw[e]
 refine⟨rfl,hl1.setCell 1 _ (cells_at _ _),hn,?_,?_,h3,h4,h5,h6,h7,h8,hT1.fr hfb (by omega),bv',hr1.fr hfb (fun e=>h7 e.symm) h8 (fun k hk e=>by omega)⟩
 ·show adv s.at' size=((st.2++leBytes size (IntKind.u64.wrap (s.get o)).toNat).length:Nat)
  rw[List.length_append,leBytes_length,hadv,h1];simp
 ·show(st.2++leBytes size (IntKind.u64.wrap (s.get o)).toNat).length+8*(st.1-1)≤1000000000000
  rw[List.length_append,leBytes_length];omega
theorem writing_goes (b wb g0 K:Nat):RoomGoes (writing b wb g0 K) (fun st=>st.1):=by
 intro o size x y h
 unfold nextX at h
 simp only[writing] at h
 split at h
 ·rename_i v st hv
  split at hv
  ·cases hv
  ·cases hv
   cases h
   show x.2.1≤x.2.1-1+1
   omega
 ·cases h
theorem leaving_goes (b:Nat):RoomGoes (leaving b) (fun _=>1000):=fun _ _ _ _ _=>by show 1000≤1000+1;omega
theorem L_next {b:Nat}(o size:Nat)(s:WS)(u:Unit):nextX (leaving b) o size (s,u) = .ok ({ s with at':=adv s.at' size },u):=by
 unfold nextX
 simp only[leaving,set_get]
def oneL (v:Int)(x:WS × Unit):X (WS × Unit):=if varOk x.1.fV v then .ok ({ x.1 with at':=adv x.1.at' 1 },x.2) else .error (13,x.1.at')
def varsL : List Int→WS × Unit→X (WS × Unit)
 | [],x=>.ok x
 | v::r,x=>thenX (oneL v x) (varsL r)
def listL (n:Nat)(l:List Int)(x:WS × Unit):X (WS × Unit) :=
 if l.length=n then varsL l ({ x.1 with count:=l.length,at':=adv x.1.at' 1 },x.2) else .error (15,x.1.at')
def IL (b:Nat)(w:World)(v:Value)(l:List Int):Prop :=
 ∃ a c,v = .slice a l.length c∧(l≠[]→∃ k o,a=some ⟨k,o,none⟩∧k<w.heap.size∧k≠b∧∀ j (h:j<l.length),w.cell? ⟨k,o+j,none⟩=some (vI l[j]))
theorem IL.fr {S:Nat→Prop}{b:Nat}{w w':World}{v:Value}{l:List Int}(h:IL b w v l)(f:Fr S w w')(hS:∀ k,S k→k=b):IL b w' v l:=by
 obtain⟨a,c,e,h⟩:=h
 refine⟨a,c,e,fun hne=>?_⟩
 obtain⟨k,o,e,hk,hb,hc⟩:=h hne
 exact⟨k,o,e,Nat.lt_of_lt_of_le hk f.size,hb,fun j hj=>(f.cell hk (fun h=>hb (hS k h))).trans (hc j hj)⟩
def nbK (k:Nat)(s:WS)(la lr:Nat):Bool :=
 match k with
 | 1=>(s.s==0)&&(s.t==0)&&((la:Int)==0)&&((lr:Int)==0)
 | 2=>(s.t==0)&&(s.n==0)&&((la:Int)==0)&&((lr:Int)==0)
 | 3=>(s.n==0)&&((la:Int)==0)&&((lr:Int)==0)
 | 4=>(s.n==0)&&((la:Int)==0)&&((lr:Int)==0)
 | 5=>(s.t==0)&&(s.n==0)&&((la:Int)==0)&&((lr:Int)==0)
 | 6=>(s.s==0)&&(s.t==0)&&((la:Int)==0)&&((lr:Int)==0)
 | 7=>(s.t==0)&&((la:Int)==0)&&((lr:Int)==0)
 | 8=>(s.t==0)&&((la:Int)==0)&&((lr:Int)==0)
 | 9=>(s.s==0)&&(s.t==0)&&((la:Int)==0)&&((lr:Int)==0)
 | 10=>(s.r==0)&&(s.t==0)&&((la:Int)==0)&&((lr:Int)==0)
 | 11=>(s.r==0)&&(s.s==0)&&(s.t==0)
 | 12=>(s.r==0)&&(s.t==0)&&(s.n==0)&&((la:Int)==0)&&((lr:Int)==0)
 | 13=>(s.r==0)&&(s.s==0)&&(s.t==0)&&((la:Int)==0)&&((lr:Int)==0)
 | 14=>(s.r==0)&&(s.t==0)&&((la:Int)==0)&&((lr:Int)==0)
 | 15=>(s.r==0)&&(s.s==0)&&(s.t==0)&&(s.n==0)&&((lr:Int)==0)
 | 16=>(s.s==0)&&(s.t==0)&&(s.n==0)&&((la:Int)==0)&&((lr:Int)==0)
 | 17=>(s.n==0)&&((la:Int)==0)&&((lr:Int)==0)
 | _=>true
theorem ends_plain {b:Nat}{M:Mode b}{w w':World}{r:X (WS × M.σ)}{e:Ending}(h:Ends M w r e w'):Plain (Ends M w r) e w':=by
 refine⟨?_,h⟩
 obtain⟨-,h⟩:=h
 cases r with
 | ok y=>exact Or.inl h.1
 | error z=>exact Or.inr ⟨_,h⟩
def retL {b:Nat}(n:Nat)(la:List Int)(c:X (WS × (leaving b).σ)):X (WS × (leaving b).σ):=thenX c (listL n la)
def callL {b:Nat}(heads:List (Nat × Nat))(la lr:List Int)(c:X (WS × (leaving b).σ)):X (WS × (leaving b).σ) :=
 thenX (thenX c (calleePart (leaving b) heads.length)) fun y =>
  thenX (listL ((heads.getD y.1.n.toNat (0,0)).1) la y) fun y2=>listL ((heads.getD y.1.n.toNat (0,0)).2) lr y2
theorem callee_in {b:Nat}{M:Mode b}{nf:Nat}(hnf:nf≤65535){c:X (WS × M.σ)}{y:WS × M.σ}(h:thenX c (calleePart M nf) = .ok y):0≤y.1.n∧y.1.n<nf:=by
 unfold thenX at h
 split at h
 ·unfold calleePart askX at h
  split at h
  ·split at h
   ·rename_i hcond
    cases h
    simp only[decide_eq_true_eq] at hcond
    rw[wrap_small _ (by omega) (by omega)] at hcond
    omega
   ·cases h
  ·cases h
 ·cases h
def instrL {b:Nat}(heads:List (Nat × Nat))(fR i:Nat)(la lr:List Int)(s:WS):X (WS × (leaving b).σ) :=
 if 1≤s.op∧s.op≤17 then
  (if s.op=15 then retL fR la (frontOk (leaving b) true false (nbK 15 s la.length lr.length) i s.at' ({ s with at':=adv s.at' 1 },()))
   else if s.op=11 then callL heads la lr (frontOk (leaving b) false false (nbK 11 s la.length lr.length) i s.at' ({ s with at':=adv s.at' 1 },()))
   else partsX (leaving b) s.op.toNat (frontOk (leaving b) (s.op==13) (s.op==6) (nbK s.op.toNat s la.length lr.length) i s.at' ({ s with at':=adv s.at' 1 },())))
 else .error (12,s.at')
end Go.Proofs.YtingenonbkencaaDoor
namespace Go.Proofs.YtingenonbkencaaDoor
structure PI where
 op:Int
 r:Int
 s:Int
 t:Int
 n:Int
 args:List Int
 rets:List Int
structure PF where
 P:Int
 R:Int
 V:Int
 code:List PI
end Go.Proofs.YtingenonbkencaaDoor
namespace Go.Proofs.YtingenonbkencaaDoor
open Go.RowKit (wrap32 wrap64)
set_option maxRecDepth 100000
set_option maxHeartbeats 1000000
def IOwn (w:World)(B:Nat)(v:Value)(l:List Int):Prop:=w.ownsRow B 3 1 v l.length (l.map vI)
theorem ownsRow_frL {S:Nat→Prop}{w w':World}{B e size n:Nat}{v:Value}{xs:List Value}(h:w.ownsRow B e size v n xs)(f:Fr S w w')(hS:∀ g,v.ownBlock=some g→¬ S g):w'.ownsRow B e size v n xs:=by
 refine⟨h.1,?_⟩
 rcases h.2 with h2 | ⟨g,cap,cur,rfl,h3,h4,h5⟩
 ·exact Or.inl h2
 ·exact Or.inr ⟨g,cap,cur,rfl,h3,by rw[f.block g ((Array.getElem?_eq_some_iff.1 h4).1) (hS g rfl)];exact h4,h5⟩
theorem IOwn.fr {S:Nat→Prop}{w w':World}{B:Nat}{v:Value}{l:List Int}(h:IOwn w B v l)(f:Fr S w w')(hS:∀ k,v.ownBlock=some k→¬ S k):IOwn w' B v l:=ownsRow_frL h f hS
theorem IOwn.ge {w:World}{B:Nat}{v:Value}{l:List Int}(h:IOwn w B v l):∀ k,v.ownBlock=some k→B≤k∧k<w.heap.size:=World.ownsRow.lt h
theorem IOwn.mono {w:World}{B B':Nat}{v:Value}{l:List Int}(h:IOwn w B v l)(hB:B'≤B):IOwn w B' v l:=World.ownsRow.mono h hB
theorem IOwn.ia {w:World}{B:Nat}{v:Value}{l:List Int}(h:IOwn w B v l):IA w v l:=by
 rcases h.2 with⟨h2,h3⟩|⟨g,cap,cur,e,h3,h4,h5,h6,h7,h8⟩
 ·exact⟨none,0,by rw[h2,h3],fun hne=>absurd (List.eq_nil_of_length_eq_zero h3) hne⟩
 ·refine⟨_,cap,e,fun _=>⟨g,0,rfl,heap_lt h4,fun i hi=>?_⟩⟩
  rw[Nat.zero_add,cell_of h4]
  have:cur[i]?=(l.map vI)[i]?:=by rw[← h8,List.getElem?_take,if_pos (by omega),Array.getElem?_toList]
  rw[this]
  simp[hi]
theorem grown_frL {w w':World}{row:Option Nat}(h:w.grownBy w' row):Fr (fun k=>row=some k) w w' :=
 ⟨h.os,h.tape,h.output,h.size,fun k hk hS=>h.block k hk (fun e=>hS e.symm)⟩
theorem grow_fr0 {w wr w6:World}{v:Value}(h:Fr (fun _=>False) w wr)(hg:wr.grownBy w6 v.ownBlock)(hb:∀ k,v.ownBlock=some k→w.heap.size≤k):Fr (fun _=>False) w w6 :=
 h.then (grown_frL hg) (fun j hj e=>by have:=hb j e;omega)
theorem copyInts_any (v:Value)(es:List Int)(w:World)(hE:IA w v es)(hel:es.length≤17592186043904):Calls Tryd.prog 104 #[v] w fun e w'=>∃ v',e = .returned v'∧IOwn w' w.heap.size v' es∧Fr (fun _=>False) w w':=by
 obtain⟨ea,ec,rfl,hein⟩:=hE
 have HE:Hd _:=hein
 clear hein
 obtain⟨i3,hi3,hz3,hs3,hb3⟩:=info_parts (P:=Tryd.prog) (e:=3) (z:=.int .i64 0) (size:=1) (bytes:=8) (by kernel_rfl)
 go_enter Tryd.func104,Tryd.ntmps104
 go_wp2_with fail
 go_loopw [3,4] (fun mv v wr=>∃ (k:Nat),v = .int .i64 k∧k≤es.length∧Hd (IOwn wr w.heap.size mv (es.take k))∧Hd (Fr (fun _=>False) w wr)) (fun _ v _=>match v with | .int _ q=>es.length-q.toNat | _=>0)
 case atStart=>exact⟨0,rfl,Nat.zero_le _,World.ownsRow_nil _ _ _ _,Fr.refl _ _⟩
 case round =>
  obtain⟨k,rfl,hk,HO,HF⟩:=hrel
  by_cases hlt:k<es.length
  ·obtain⟨pk,po,rfl,hpk,hcs⟩:=HE.out (by intro e;simp[e] at hlt)
   have d0:=hcs k hlt
   have p0:=(HF.out.cell (o:=po+k) hpk (fun h=>h)).trans d0
   clear hcs d0
   have HT:Hd (es.take (k+1)=es.take k++[es[k]]):=by unfold Hd;rw[List.take_add_one,List.getElem?_eq_getElem hlt];rfl
   have HTL:Hd ((es.take k).length=k):=by unfold Hd;rw[List.length_take];omega
   obtain⟨e,he⟩:∃ e,es[k]=e:=⟨_,rfl⟩
   rw[he] at p0 HT
   clear he
   obtain⟨E,hE⟩:∃ E,E=es.take k:=⟨_,rfl⟩
   rw[← hE] at HO HT HTL
   clear hE
   have hk0:(0:Int)≤k:=by omega
   have hk1:(k:Int)<es.length:=by omega
   have hsz:=HF.out.size
   have HO1:Hd ((wr.alloc (.cells #[vI e] 3)).ownsRow w.heap.size 3 1 u3 E.length (E.map vI)):=World.ownsRow.alloc HO.out _
   have hnews:∀ j u,[vI e][j]?=some u→(wr.alloc (.cells #[vI e] 3)).cell? ((⟨wr.heap.size,0,none⟩:Addr).add j)=some u :=
    World.news_of_block (cs:=#[vI e]) (heap_new wr (.cells #[vI e] 3))
   have hbase:w.heap.size≤(wr.alloc (.cells #[vI e] 3)).heap.size:=by simp;omega
   have hEl:E.length+1≤17592186043905:=by have:=HTL.out;omega
   go_wp2_with ((at_builtin;refine Hd.out ?_))
   unfold Hd
   refine wpList_append_lies _ rfl (.tmp 11) (.tmp 16) 64 rfl w.heap.size 3 i3 (.int .i64 0) 1 8 under64 hi3 hz3 hs3 hb3 rfl (by omega) u3 E.length _ rfl HO1.out ⟨wr.heap.size,0,none⟩ 1 1 [vI e] rfl rfl hnews (by intro u hu;simp at hu;subst hu;rfl) (by omega) (by unfold maxLen;omega) (by omega) hbase (wr.heap.size+1) (by simp) ?_
   intro g6 cap6 w6 hown6 hgrow6 hat6 hlt6
   have HO6:Hd (IOwn w6 w.heap.size (.slice (some ⟨g6,0,none⟩) (E.length+1) cap6) (E++[e])):=by unfold Hd IOwn;rw[List.map_append,List.length_append];exact hown6
   have HF6:Hd (Fr (fun _=>False) w w6):=grow_fr0 (HF.out.alloc _) hgrow6 (fun k hk=>(HO.out.ge k hk).1)
   clear hown6 hgrow6 hat6 hlt6 HO HF HO1 hnews hbase p0
   go_wp2_with fail
   refine⟨⟨k+1,by simp,by omega,?_,HF6.out⟩,by simp;omega⟩
   unfold Hd;rw[HT.out];exact HO6.out
  ·have hke:k=es.length:=by omega
   subst hke
   have HO2:Hd (IOwn wr w.heap.size u3 es):=by have:=HO.out;rw[List.take_length] at this;exact this
   clear HO
   go_wp2_with fail
   go_ret
   exact⟨u3,rfl,HO2.out,HF.out⟩
theorem eqInts_same (v1 v2:Value)(zs:List Int)(w:World)(h1:IA w v1 zs)(h2:IA w v2 zs)(hz:zs.length≤17592186043904) :
 Calls Tryd.prog 105 #[v1,v2] w fun e w'=>e = .returned (.bool true)∧Fr (fun _=>False) w w':=by
 obtain⟨a1,c1,rfl,hc1⟩:=h1
 obtain⟨a2,c2,rfl,hc2⟩:=h2
 have H1:Hd _:=hc1
 have H2:Hd _:=hc2
 clear hc1 hc2
 go_enter Tryd.func105,Tryd.ntmps105
 go_wp2_with fail
 go_loopw [5] (fun v wr=>∃ (k:Nat),v = .int .i64 k∧k≤zs.length∧Hd (Fr (fun _=>False) w wr)) (fun v _=>match v with | .int _ q=>zs.length-q.toNat | _=>0)
 case atStart=>exact⟨0,rfl,Nat.zero_le _,Fr.refl _ _⟩
 case round =>
  obtain⟨k,rfl,hk,HF⟩:=hrel
  by_cases hlt:k<zs.length
  ·have hne:zs≠[]:=by intro e;simp[e] at hlt
   obtain⟨k1,o1,rfl,hk1,g1⟩:=H1.out hne
   obtain⟨k2,o2,rfl,hk2,g2⟩:=H2.out hne
   have q1:=(HF.out.cell (o:=o1+k) hk1 (fun h=>h)).trans (g1 k hlt)
   have q2:=(HF.out.cell (o:=o2+k) hk2 (fun h=>h)).trans (g2 k hlt)
   generalize zs[k]=z at *
   have hk0:(0:Int)≤k:=by omega
   have hk3:(k:Int)<zs.length:=by omega
   clear g1 g2
   go_wp2_with fail
   refine wp_region_still_tail 8 mixed (by kernel_rfl) ?_
   simp only[List.take_succ_cons,List.take_zero,List.drop_succ_cons,List.drop_zero]
   repeat still_step
   refine wpStill_nil ?_
   go_wp2_with fail
   exact⟨⟨k+1,by simp,by omega,HF.out.drew⟩,by simp;omega⟩
  ·have hke:k=zs.length:=by omega
   subst hke
   go_wp2_with fail
   go_ret
   exact⟨rfl,HF.out⟩
theorem through_same {b b':Nat}{rv rv':Value}{bs:List UInt8}{s s':WS}(fv fv':Value)(hL:bs.length≤1000000000000000)(hs:Eqv s s')(h6:s.at'=6) :
 throughX b rv bs s fv=throughX b' rv' bs s' fv':=by
 have h6':s'.at'=6:=(Eqv.at hs).trans h6
 have hE:=body_stb ⟨b,b',rv,rv',bs,bs,bs.length,Nat.le_refl _,hL,hL,rfl⟩ s s' hs h6 fv fv'
 have hE':=body_stb ⟨b',b,rv',rv,bs,bs,bs.length,Nat.le_refl _,hL,hL,rfl⟩ s' s (Eq.symm hs) h6' fv' fv
 simp only at hE hE'
 rw[throughX_body,throughX_body]
 cases hb:bodyX b rv bs s fv with
 | ok q =>
   rw[hb] at hE
   obtain⟨-,k2,k3,-⟩:=hE
   obtain⟨q',e',hq⟩:=k3 k2
   rw[e']
   simp only[thenX]
   rw[hq.1,Eqv.at hq.2]
 | error z =>
   rw[hb] at hE
   by_cases hz:z.1=11
   ·have hp:=hE.2.1 hz
    cases hb':bodyX b' rv' bs s' fv' with
    | ok q' =>
      rw[hb',hb] at hE'
      obtain⟨-,k2,k3,-⟩:=hE'
      obtain⟨q,e,-⟩:=k3 k2
      cases e
    | error z' =>
      rw[hb',hb] at hE'
      by_cases hz':z'.1=11
      ·have hp':=hE'.2.1 hz'
       rw[show z=z' from Prod.ext (hz.trans hz'.symm) (hp.trans hp'.symm)]
      ·obtain⟨-,-,-,-,k5⟩:=hE'.2.2 hz'
       have:=k5 (Or.inr (Int.le_refl _))
       cases this
       exact absurd hz hz'
   ·obtain⟨-,-,-,-,k5⟩:=hE.2.2 hz
    rw[k5 (Or.inr (Int.le_refl _))]
def decX (bs:List UInt8):X (Int × List HD × List (List AI)):=throughX 0 nilS bs (WS.start nilS) nilS
theorem decX_eq {b:Nat}{rv:Value}{bs:List UInt8}{num fv:Value}(hL:bs.length≤1000000000000000):throughX b rv bs (WS.start num) fv=decX bs :=
 through_same _ _ hL rfl rfl
theorem decX_told {bs:List UInt8}{z:Int × Int}(hL:bs.length≤1000000000000000)(h:decX bs = .error z):z.1≠0:=by
 unfold decX at h
 rw[throughX_body] at h
 split at h
 ·have hE:=body_stb ⟨0,0,nilS,nilS,bs,bs,bs.length,Nat.le_refl _,hL,hL,rfl⟩ (WS.start nilS) (WS.start nilS) rfl rfl nilS nilS
  simp only at hE
  cases hb:bodyX 0 nilS bs (WS.start nilS) nilS with
  | error z' =>
    rw[hb] at h hE
    cases h
    exact hE.1
  | ok q =>
    rw[hb] at h
    simp only[thenX] at h
    split at h
    ·cases h
    ·cases h;simp
 ·cases h;simp
section
variable {b:Nat} {rv:Value} {bs:List UInt8}
end
set_option maxRecDepth 100000
set_option maxHeartbeats 4000000
abbrev vU (c:UInt8):Value:=.int .u8 (c.toNat:Nat)
def namesB (op:Int)(c:UInt8):Bool:=(partsN op.toNat).toList.any (·==c)
theorem partsN_size (n:Nat):(partsN n).size≤3:=by
 unfold partsN
 split<;>simp
theorem rnames (op:Int)(c:UInt8)(w:World):Calls Tryd.prog 103 #[vI op,vU c] w fun r w'=>r = .returned (.bool (namesB op c))∧Fr (fun _=>False) w w':=by
 obtain⟨l,hl⟩:∃ l:List UInt8,(partsN op.toNat).toList=l:=⟨_,rfl⟩
 have hP:Hd (namesB op c=l.any (·==c)):=by unfold Hd namesB;rw[hl]
 have hB:partsB op=⟨l.toArray⟩:=by unfold partsB;rw[← hl]
 have h3:l.length≤3:=by
  have:=partsN_size op.toNat
  rw[← hl];simpa using this
 have hc:=rparts op w
 rw[hB] at hc
 clear hB hl
 go_enter Tryd.func103,Tryd.ntmps103
 go_wp2_with fail
 refine hc.mono ?_
 rintro e w1 ⟨rfl,hf1⟩
 clear hc
 go_wp2_with fail
 go_loopw [6] (fun i wr=>∃ (k:Nat),k≤l.length∧i = .int .i64 k∧wr=w1∧Hd (l.any (·==c)=(l.drop k).any (·==c))) (fun i _=>match i with | .int _ q=>l.length-q.toNat | _=>0)
 case atStart=>exact⟨0,Nat.zero_le _,rfl,rfl,rfl⟩
 case round =>
  obtain⟨k,hk,rfl,rfl,hv⟩:=hrel
  by_cases hlt:k<l.length
  ·have hp:k<(⟨l.toArray⟩:ByteArray).size:=by show k<l.toArray.size;simpa using hlt
   have hi:(⟨l.toArray⟩:ByteArray)[k]'hp=l[k]:=rfl
   have hd:Hd (l.drop k=l[k]::l.drop (k+1)):=List.drop_eq_getElem_cons hlt
   by_cases hu:l[k]=c
   ·have hq:(((((⟨l.toArray⟩:ByteArray)[k]'hp).toNat:Nat):Int)==((c.toNat:Nat):Int))=true:=by rw[hi,hu];simp
    have hT:Hd (namesB op c=true):=by unfold Hd;rw[hP.out,hv.out,hd.out,List.any_cons,show(l[k]==c)=true by simpa using hu,Bool.true_or]
    clear hu hv hd hi
    go_wp2_with fail
    go_ret
    exact⟨by rw[hT.out];rfl,hf1⟩
   ·have hq:(((((⟨l.toArray⟩:ByteArray)[k]'hp).toNat:Nat):Int)==((c.toNat:Nat):Int))=false:=by
     rw[hi]
     simp only[beq_eq_false_iff_ne,ne_eq]
     intro e
     exact hu (UInt8.toNat_inj.1 (by omega))
    have hN:Hd ((l.any fun x=>x==c)=(l.drop (k+1)).any fun x=>x==c):=by
     unfold Hd
     rw[hv.out,hd.out,List.any_cons,show(l[k]==c)=false by simpa using hu,Bool.false_or]
    clear hu hv hd hi
    go_wp2_with fail
    exact⟨⟨k+1,by omega,by simp,trivial,hN⟩,by simp;omega⟩
  ·have hkl:k=l.length:=by omega
   subst hkl
   have hF:Hd (namesB op c=false):=by unfold Hd;rw[hP.out,hv.out];simp
   clear hv
   go_wp2_with fail
   go_ret
   exact⟨by rw[hF.out];rfl,hf1⟩
set_option maxRecDepth 100000
theorem op_names {ρ:Operand→Value}{o:Oper}{x y:Operand}(h:o.op = .call { callee:=.value (.func 103),args:=#[x,y],argTypes:=#[3,5] })(hρ:ρ (.func 103) = .func (.func 103) #[] #[])(w:World){op:Int}{c:UInt8}(hx:ρ x=vI op)(hy:ρ y=vU c) :
 (execOp ρ o).run Tryd.prog w = .ok (.enter 103 #[vI op,vU c]) w:=by
 have hen:∀ (cap:Array Value) w,(callFunc 103 cap).run Tryd.prog w = .ok (.enter 103 cap) w:=fun _ _=>by kernel_rfl
 unfold execOp
 rw[h]
 simp only[resolve,hρ]
 have e:(#[x,y]:Array Operand).map ρ=#[vI op,vU c]:=by simp[hx,hy]
 rw[e]
 exact hen _ w
def ev3 (b:Nat)(op:Int)(nmf:UInt8→Bool)(mem:Nat→Option Value)(zz:Nat→Int)(tb:Nat→Bool)(ops:Array Oper)(o:Oper)(a:Act):Option (Act × List (Value × Value)) :=
 bif Region.wanted o (yielded ops a.tmps) then
  match o.op with
  | .move x=>some (a.put o.dst (a.eval x),[])
  | .assign x=>some (a.put o.dst (a.eval x),[])
  | .pick c x y =>
    match a.eval c with
    | .bool true=>some (a.put o.dst (a.eval x),[])
    | .bool false=>some (a.put o.dst (a.eval y),[])
    | _=>none
  | .fieldAddr ty x i =>
    match a.eval x with
    | .pointer (some ⟨k,q,none⟩) =>
      bif ty==71&&Nat.blt i 7 then some (a.put o.dst (pp k (q+i)),[]) else none
    | _=>none
  | .load ty x =>
    match a.eval x with
    | .pointer (some ⟨k,q,none⟩) =>
      bif ty==3||ty==64 then
       match mem q with
       | some v=>some (a.put o.dst v,[(pp k q,pp b q)])
       | none=>none
      else none
    | _=>none
  | .binOp .eql ty x (.const (.int .i64 0)) _ =>
    bif ty==3 then
     match o.dst with
     | some d=>some (a.put o.dst (.bool (tb d)),[(a.eval x,vI (zz d))])
     | none=>none
    else none
  | .call c =>
    match c.callee,c.args.toList,c.argTypes.toList with
    | .builtin .len,[x],[ty] =>
      bif ty==64 then
       match a.eval x with
       | .slice _ n _=>some (a.put o.dst (vI n),[])
       | _=>none
      else none
    | .value (.func f),[x,.const (.int .u8 (.ofNat n))],[t1,t2] =>
      bif f==103&&t1==3&&t2==5&&Nat.blt n 256 then some (a.put o.dst (.bool (nmf (UInt8.ofNat n))),[(a.eval x,vI op)]) else none
    | _,_,_=>none
  | _=>none
 else some (a.put o.dst undef,[])
def ev3L (b:Nat)(op:Int)(nmf:UInt8→Bool)(mem:Nat→Option Value)(zz:Nat→Int)(tb:Nat→Bool)(ops:Array Oper):List Oper→Act→Option (Act × List (Value × Value))
 | [],a=>some (a,[])
 | o::rest,a=>match ev3 b op nmf mem zz tb ops o a with
   | some (a',l)=>match ev3L b op nmf mem zz tb ops rest a' with
     | some (a2,l2)=>some (a2,l++l2)
     | none=>none
   | none=>none
theorem ev3_sound {b:Nat}{op:Int}{nmf:UInt8→Bool}{mem:Nat→Option Value}{zz:Nat→Int}{tb:Nat→Bool}{ops:Array Oper}{o:Oper}{a a':Act}{l:List (Value × Value)}{w0 w:World}{rest:List Oper}{Q:Exit→Act→World→Prop}(hn:∀ c,namesB op c=nmf c)(hb:b<w0.heap.size)
 (hm:∀ q v,mem q=some v→w0.cell? ⟨b,q,none⟩=some v) (hz:∀ d,(zz d==0)=tb d) (h:ev3 b op nmf mem zz tb ops o a=some (a',l)) (hl:∀ p∈l,p.1=p.2) (hf:Fr (fun _=>False) w0 w) (ih:∀ w',Fr (fun _=>False) w0 w'→wpList Tryd.prog ops Q rest a' w'):wpList Tryd.prog ops Q (o::rest) a w:=by
 unfold ev3 at h
 cases hw:Region.wanted o (yielded ops a.tmps) with
 | false =>
   rw[hw] at h
   cases h
   exact wpList_skip hw (ih w hf)
 | true =>
   rw[hw] at h
   refine BigFrame.wpList_want hw (fun K hK=>?_)
   simp only[cond_true] at h
   split at h
   ·rename_i x hx
    cases h
    exact BigFrame.wp_move x hx (hK _ _ (ih w hf))
   ·rename_i x hx
    cases h
    exact BigFrame.wp_assign x hx (hK _ _ (ih w hf))
   ·rename_i c x y hx
    unfold Oper.wp execOp
    rw[hx]
    split at h
    ·rename_i hc
     cases h
     simp only[hc]
     exact hK _ _ (ih w hf)
    ·rename_i hc
     cases h
     simp only[hc]
     exact hK _ _ (ih w hf)
    ·cases h
   ·rename_i ty x i hx
    split at h
    ·rename_i k q hv
     cases hc:(ty==71&&Nat.blt i 7) with
     | false=>rw[hc] at h;cases h
     | true =>
       rw[hc] at h
       cases h
       simp only[Bool.and_eq_true,beq_iff_eq,Nat.blt_eq] at hc
       obtain⟨rfl,hi⟩:=hc
       exact wp_value (op_fld71 hx hi hv w) (hK _ _ (ih w hf))
    ·cases h
   ·rename_i ty x hx
    split at h
    ·rename_i k q hv
     cases hc:(ty==3||ty==64) with
     | false=>rw[hc] at h;cases h
     | true =>
       rw[hc] at h
       simp only[cond_true] at h
       simp only[Bool.or_eq_true,beq_iff_eq] at hc
       split at h
       ·rename_i u hu
        cases h
        have hp:pp k q=pp b q:=hl _ List.mem_cons_self
        have hk:k=b:=by cases hp;rfl
        subst hk
        exact wp_value (op_load hx (by rcases hc with h | h<;>simp[h]) hv ((hf.cell hb (fun h=>h)).trans (hm q u hu))) (hK _ _ (ih w hf))
       ·cases h
    ·cases h
   ·rename_i ty x ty' hx
    cases hc:(ty==3) with
    | false=>rw[hc] at h;cases h
    | true =>
      rw[hc] at h
      simp only[cond_true] at h
      simp only[beq_iff_eq] at hc
      subst hc
      split at h
      ·rename_i d hd
       cases h
       have hp:a.eval x=vI (zz d):=hl _ List.mem_cons_self
       have:=op_eql (ρ:=a.eval) hx rfl w hp
       rw[hz d] at this
       exact wp_value this (hK _ _ (ih w hf))
      ·cases h
   ·rename_i c hx
    split at h
    ·rename_i x ty h1 h2 h3
     cases hc:(ty==64) with
     | false=>rw[hc] at h;cases h
     | true =>
       rw[hc] at h
       simp only[cond_true] at h
       simp only[beq_iff_eq] at hc
       subst hc
       obtain⟨callee,args,argTypes⟩:=c
       simp only at h1 h2 h3
       subst h1
       have e2:args=#[x]:=by cases args;simp_all
       have e3:argTypes=#[64]:=by cases argTypes;simp_all
       subst e2;subst e3
       split at h
       ·rename_i aa n c hv
        cases h
        exact wp_value (op_len hx w hv) (hK _ _ (ih w hf))
       ·cases h
    ·rename_i f x n t1 t2 h1 h2 h3
     cases hc:(f==103&&t1==3&&t2==5&&Nat.blt n 256) with
     | false=>rw[hc] at h;cases h
     | true =>
       rw[hc] at h
       cases h
       simp only[Bool.and_eq_true,beq_iff_eq,Nat.blt_eq] at hc
       obtain⟨⟨⟨rfl,rfl⟩,rfl⟩,hnn⟩:=hc
       obtain⟨callee,args,argTypes⟩:=c
       simp only at h1 h2 h3
       subst h1
       have e2:args=#[x,.const (.int .u8 (.ofNat n))]:=by cases args;simp_all
       have e3:argTypes=#[3,5]:=by cases argTypes;simp_all
       subst e2;subst e3
       have hp:a.eval x=vI op:=hl _ List.mem_cons_self
       have hy:a.eval (.const (.int .u8 (.ofNat n)))=vU (UInt8.ofNat n):=by
        show Value.int .u8 (.ofNat n) = .int .u8 (((UInt8.ofNat n).toNat:Nat):Int)
        have e:(UInt8.ofNat n).toNat=n:=by simp;omega
        rw[e]
        rfl
       unfold Oper.wp
       rw[op_names hx rfl w hp hy,Oper.upon_enter]
       refine(rnames op (UInt8.ofNat n) w).mono ?_
       rw[hn]
       rintro e w1 ⟨rfl,hf1⟩
       exact hK _ _ (ih w1 (hf.trans hf1))
    ·cases h
   ·cases h
theorem ev3L_sound {b:Nat}{op:Int}{nmf:UInt8→Bool}{mem:Nat→Option Value}{zz:Nat→Int}{tb:Nat→Bool}{ops:Array Oper}{w0:World}{Q:Exit→Act→World→Prop}(hn:∀ c,namesB op c=nmf c)(hb:b<w0.heap.size)(hm:∀ q v,mem q=some v→w0.cell? ⟨b,q,none⟩=some v)(hz:∀ d,(zz d==0)=tb d) :
 ∀ {rest:List Oper} {a a':Act} {l:List (Value × Value)} {w:World},ev3L b op nmf mem zz tb ops rest a=some (a',l)→(∀ p∈l,p.1=p.2)→Fr (fun _=>False) w0 w→(∀ w',Fr (fun _=>False) w0 w'→Q .normal a' w')→wpList Tryd.prog ops Q rest a w
 | [],a,a',l,w,h,_,hf,hq=>by
   cases h
   exact hq w hf
 | o::rest,a,a',l,w,h,hl,hf,hq=>by
   unfold ev3L at h
   split at h
   ·rename_i a1 l1 h1
    split at h
    ·rename_i a2 l2 h2
     cases h
     exact ev3_sound hn hb hm hz h1 (fun p hp=>hl p (List.mem_append_left _ hp)) hf (fun w' hf'=>ev3L_sound hn hb hm hz h2 (fun p hp=>hl p (List.mem_append_right _ hp)) hf' hq)
    ·cases h
   ·cases h
theorem wpList_ev3 {b:Nat}{op:Int}{nmf:UInt8→Bool}{mem:Nat→Option Value}{zz:Nat→Int}{tb:Nat→Bool}{ops:Array Oper}{w0 w:World}{Q:Exit→Act→World→Prop}{rest:List Oper}{a:Act}(hn:∀ c,namesB op c=nmf c)(hb:b<w0.heap.size)(hm:∀ q v,mem q=some v→w0.cell? ⟨b,q,none⟩=some v)(hz:∀ d,(zz d==0)=tb d)
 (h1:((ev3L b op nmf mem zz tb ops rest a).map fun r=>r.2.map (·.1))=((ev3L b op nmf mem zz tb ops rest a).map fun r=>r.2.map (·.2))) (h2:(ev3L b op nmf mem zz tb ops rest a).isSome=true) (hf:Fr (fun _=>False) w0 w)
 (hq:∀ w',Fr (fun _=>False) w0 w'→Q .normal ((ev3L b op nmf mem zz tb ops rest a).getD (a,[])).1 w'):wpList Tryd.prog ops Q rest a w:=by
 cases e:ev3L b op nmf mem zz tb ops rest a with
 | none=>rw[e] at h2;cases h2
 | some r =>
   obtain⟨a',l⟩:=r
   rw[e] at h1 hq
   simp only[Option.map_some,Option.some.injEq] at h1
   refine ev3L_sound hn hb hm hz e (fun p hp=>?_) hf hq
   have key:∀ (l:List (Value × Value)),l.map (·.1)=l.map (·.2)→∀ p∈l,p.1=p.2:=fun l=>by
    induction l with
    | nil=>intro _ p hp;cases hp
    | cons x r ih =>
      intro h p hp
      simp only[List.map_cons,List.cons.injEq] at h
      rcases List.mem_cons.1 hp with rfl | hp
      ·exact h.1
      ·exact ih h.2 p hp
   exact key l h1 p hp
inductive TR where
 | leaf (r:Bool)
 | node (d:Nat) (t f:TR)
def TR.ev (e:Nat→Bool):TR→Bool
 | .leaf r=>r
 | .node d t f=>bif e d then t.ev e else f.ev e
def testOf (ops:Array Oper)(o:Oper)(a:Act):Option (Nat × Operand) :=
 bif Region.wanted o (yielded ops a.tmps) then
  match o.op,o.dst with
  | .binOp .eql ty x (.const (.int .i64 0)) _,some d=>bif ty==3 then some (d,x) else none
  | _,_=>none
 else none
theorem testOf_sound {ops:Array Oper}{o:Oper}{a:Act}{d:Nat}{x:Operand}(h:testOf ops o a=some (d,x)):Region.wanted o (yielded ops a.tmps)=true∧(∃ ty',o.op = .binOp .eql 3 x (.const (vI 0)) ty')∧o.dst=some d:=by
 unfold testOf at h
 cases hw:Region.wanted o (yielded ops a.tmps) with
 | false=>rw[hw] at h;cases h
 | true =>
   rw[hw] at h
   simp only[cond_true] at h
   split at h
   ·rename_i ty x' ty' d' h1 h2
    cases hc:(ty==3) with
    | false=>rw[hc] at h;cases h
    | true =>
      rw[hc] at h
      cases h
      simp only[beq_iff_eq] at hc
      subst hc
      exact⟨rfl,⟨_,h1⟩,h2⟩
   ·cases h
def ev4L (b:Nat)(op:Int)(nmf:UInt8→Bool)(mem:Nat→Option Value)(zz:Nat→Int)(t:Tmp)(ops:Array Oper):List Oper→Act→Option (TR × List (Value × Value))
 | [],a=>match a.tmps.getD t undef,a.defers with
   | .bool r,[]=>some (.leaf r,[])
   | _,_=>none
 | o::rest,a=>match testOf ops o a with
   | some (d,x)=>match ev4L b op nmf mem zz t ops rest (a.put o.dst (.bool true)),ev4L b op nmf mem zz t ops rest (a.put o.dst (.bool false)) with
     | some (t1,l1),some (t2,l2)=>some (.node d t1 t2,(a.eval x,vI (zz d))::(l1++l2))
     | _,_=>none
   | none=>match ev3 b op nmf mem zz (fun d=>zz d==0) ops o a with
     | some (a',l)=>match ev4L b op nmf mem zz t ops rest a' with
       | some (t1,l1)=>some (t1,l++l1)
       | none=>none
     | none=>none
theorem ev4L_sound {b:Nat}{op:Int}{nmf:UInt8→Bool}{mem:Nat→Option Value}{zz:Nat→Int}{t:Tmp}{ops:Array Oper}{w0:World}{Q:Exit→Act→World→Prop}(hn:∀ c,namesB op c=nmf c)(hb:b<w0.heap.size)(hm:∀ q v,mem q=some v→w0.cell? ⟨b,q,none⟩=some v) :
 ∀ {rest:List Oper} {a:Act} {T:TR} {l:List (Value × Value)} {w:World},ev4L b op nmf mem zz t ops rest a=some (T,l)→(∀ p∈l,p.1=p.2)→Fr (fun _=>False) w0 w →
  (∀ a' w',Fr (fun _=>False) w0 w'→a'.tmps.getD t undef = .bool (T.ev fun d=>zz d==0)→a'.defers=[]→Q .normal a' w')→wpList Tryd.prog ops Q rest a w
 | [],a,T,l,w,h,_,hf,hq=>by
   unfold ev4L at h
   split at h
   ·rename_i r h1 h2
    cases h
    exact hq a w hf h1 h2
   ·cases h
 | o::rest,a,T,l,w,h,hl,hf,hq=>by
   unfold ev4L at h
   split at h
   ·rename_i d x ht
    obtain⟨hw,⟨ty',hx⟩,hd⟩:=testOf_sound ht
    split at h
    ·rename_i t1 l1 t2 l2 h1 h2
     cases h
     have hp:a.eval x=vI (zz d):=hl _ List.mem_cons_self
     refine BigFrame.wpList_want hw (fun K hK=>?_)
     have hop:=op_eql (ρ:=a.eval) hx rfl w hp
     cases he:(zz d==0) with
     | true =>
       rw[he] at hop
       refine wp_value hop (hK _ _ (ev4L_sound hn hb hm h1 (fun p hp=>hl p (List.mem_cons_of_mem _ (List.mem_append_left _ hp))) hf (fun a' w' hf' hr hdd=>hq a' w' hf' ?_ hdd)))
       rw[hr]
       simp only[TR.ev,he,cond_true]
     | false =>
       rw[he] at hop
       refine wp_value hop (hK _ _ (ev4L_sound hn hb hm h2 (fun p hp=>hl p (List.mem_cons_of_mem _ (List.mem_append_right _ hp))) hf (fun a' w' hf' hr hdd=>hq a' w' hf' ?_ hdd)))
       rw[hr]
       simp only[TR.ev,he,cond_false]
    ·cases h
   ·split at h
    ·rename_i a1 l1 h1
     split at h
     ·rename_i t2 l2 h2
      cases h
      exact ev3_sound hn hb hm (fun _=>rfl) h1 (fun p hp=>hl p (List.mem_append_left _ hp)) hf (fun w' hf'=>ev4L_sound hn hb hm h2 (fun p hp=>hl p (List.mem_append_right _ hp)) hf' hq)
     ·cases h
    ·cases h
theorem wpList_ev4 {b:Nat}{op:Int}{nmf:UInt8→Bool}{mem:Nat→Option Value}{zz:Nat→Int}{ops:Array Oper}{w0 w:World}{Q:Exit→Act→World→Prop}{rest:List Oper}{a:Act}(t:Tmp)(T:TR)(hn:∀ c,namesB op c=nmf c)(hb:b<w0.heap.size)(hm:∀ q v,mem q=some v→w0.cell? ⟨b,q,none⟩=some v)
 (h1:((ev4L b op nmf mem zz t ops rest a).map fun r=>(r.1,r.2.map (·.1)))=((ev4L b op nmf mem zz t ops rest a).map fun r=>(T,r.2.map (·.2)))) (h2:(ev4L b op nmf mem zz t ops rest a).isSome=true) (hf:Fr (fun _=>False) w0 w)
 (hq:∀ a' w',Fr (fun _=>False) w0 w'→a'.tmps.getD t undef = .bool (T.ev fun d=>zz d==0)→a'.defers=[]→Q .normal a' w'):wpList Tryd.prog ops Q rest a w:=by
 cases e:ev4L b op nmf mem zz t ops rest a with
 | none=>rw[e] at h2;cases h2
 | some r =>
   obtain⟨T',l⟩:=r
   rw[e] at h1
   simp only[Option.map_some,Option.some.injEq,Prod.mk.injEq] at h1
   obtain⟨rfl,h1⟩:=h1
   refine ev4L_sound hn hb hm e (fun p hp=>?_) hf hq
   have key:∀ (l:List (Value × Value)),l.map (·.1)=l.map (·.2)→∀ p∈l,p.1=p.2:=fun l=>by
    induction l with
    | nil=>intro _ p hp;cases hp
    | cons x r ih =>
      intro h p hp
      simp only[List.map_cons,List.cons.injEq] at h
      rcases List.mem_cons.1 hp with rfl | hp
      ·exact h.1
      ·exact ih h.2 p hp
   exact key l h1 p hp
def conjT : List (Nat × Bool)→TR
 | []=>.leaf true
 |(d,nm)::r=>.node d (conjT r) (bif nm then conjT r else .leaf false)
theorem conjT_ev (e:Nat→Bool):∀ (l:List (Nat × Bool)),(conjT l).ev e=l.all fun p=>e p.1||p.2
 | []=>rfl
 |(d,nm)::r=>by
  simp only[conjT,TR.ev,List.all_cons,conjT_ev e r]
  cases e d<;>cases nm<;>simp[TR.ev,conjT_ev e r]
def zeros6 (zr zs zt zn la lr:Int):List (Nat × Int × Bool):=[(43,zr,true),(52,zs,true),(62,zt,true),(72,zn,true),(81,la,true),(90,lr,true)]
def tested (nmf:UInt8→Bool):List (Nat × Bool):=[(43,nmf 82),(52,nmf 83),(62,nmf 84),(72,nmf 105||nmf 99||nmf 102||nmf 103||nmf 70||nmf 74),(81,nmf 65||nmf 86),(90,nmf 66)]
set_option maxRecDepth 100000
set_option maxHeartbeats 1000000
def varB (V v:Int):Bool:=decide (0≤v)&&decide (v<V)
theorem rvariable (rb:Nat)(G:Int)(fv:Value)(w:World)(L E:Int)(h:RW rb G fv w L E)(P R V:Int)(a:Option Addr)(l c:Nat)(v:Int) :
 Calls Tryd.prog 77 #[.pointer (some ⟨rb,0,none⟩),.agg #[vI P,vI R,vI V,.slice a l c],vI v] w fun r w'=>r = .returned (.tuple #[])∧RW rb G fv w' L (mustE (varB V v) 13 E)∧Fr (fun k=>k=rb) w w':=by
 have hf0:Fr (fun k=>k=rb) w (w.alloc (.cells #[vI P,vI R,vI V,.slice a l c] 67)):=Fr.alloc (Fr.refl _ _) _
 have h0:RW rb G fv (w.alloc (.cells #[vI P,vI R,vI V,.slice a l c] 67)) L E:=h.fr (Fr.alloc (Fr.refl (fun _=>False) w) _) (fun h=>h)
 have hm:=rmust rb G fv _ L E h0 (varB V v) 13
 by_cases h1:0≤v
 ·by_cases h2:v<V
  ·have hv:varB V v=true:=by unfold varB;simp[h1,h2]
   have HV:Hd (varB V v=true):=hv
   rw[hv] at hm
   clear hv h h0
   go_enter Tryd.func77,Tryd.ntmps77
   go_wp2_with fail
   refine hm.mono ?_
   rintro e w1 ⟨rfl,hr,hf⟩
   clear hm
   go_wp2_with fail
   go_end0
   exact⟨rfl,by rw[HV.out];exact hr,hf0.trans hf⟩
  ·have hv:varB V v=false:=by unfold varB;simp[h2]
   have HV:Hd (varB V v=false):=hv
   rw[hv] at hm
   clear hv h h0
   go_enter Tryd.func77,Tryd.ntmps77
   go_wp2_with fail
   refine hm.mono ?_
   rintro e w1 ⟨rfl,hr,hf⟩
   clear hm
   go_wp2_with fail
   go_end0
   exact⟨rfl,by rw[HV.out];exact hr,hf0.trans hf⟩
 ·have hv:varB V v=false:=by unfold varB;simp[h1]
  have HV:Hd (varB V v=false):=hv
  rw[hv] at hm
  clear hv h h0
  go_enter Tryd.func77,Tryd.ntmps77
  go_wp2_with fail
  refine hm.mono ?_
  rintro e w1 ⟨rfl,hr,hf⟩
  clear hm
  go_wp2_with fail
  go_end0
  exact⟨rfl,by rw[HV.out];exact hr,hf0.trans hf⟩
set_option maxRecDepth 100000
set_option maxHeartbeats 1000000
def numB (lo hi v:Int):Bool:=decide (lo≤v)&&decide (v<hi)
theorem rnumber_c (rb:Nat)(G:Int)(fa:Option Addr)(nf fc:Nat)(w:World)(L E:Int)(h:RW rb G (.slice fa nf fc) w L E)(v n:Int) :
 Calls Tryd.prog 79 #[.pointer (some ⟨rb,0,none⟩),.int .u8 99,vI v,vI n] w fun r w'=>r = .returned (.tuple #[])∧RW rb G (.slice fa nf fc) w' L (mustE (numB 1 9 v) 17 E)∧Fr (fun k=>k=rb) w w':=by
 obtain⟨c0,c1,-,-,hz,hlt⟩:=h.cells
 have hm:=rmust rb G (.slice fa nf fc) w L E h (numB 1 9 v) 17
 obtain⟨B,hB⟩:∃ B,numB 1 9 v=B:=⟨_,rfl⟩
 have HV:Hd (numB 1 9 v=B):=hB
 rw[hB] at hm
 unfold numB at hB
 clear h
 by_cases h1:1≤v
 ·by_cases h2:v≤8
  ·have hb:B=true:=by rw[← hB];simp;omega
   subst hb
   clear hB
   go_enter Tryd.func79,Tryd.ntmps79
   go_wp2_with fail
   refine hm.mono ?_
   rintro e w1 ⟨rfl,hr,hf⟩
   clear hm c0 c1
   go_wp2_with fail
   go_end0
   exact⟨rfl,by rw[HV.out];exact hr,hf⟩
  ·have hb:B=false:=by rw[← hB];simp;omega
   subst hb
   clear hB
   go_enter Tryd.func79,Tryd.ntmps79
   go_wp2_with fail
   refine hm.mono ?_
   rintro e w1 ⟨rfl,hr,hf⟩
   clear hm c0 c1
   go_wp2_with fail
   go_end0
   exact⟨rfl,by rw[HV.out];exact hr,hf⟩
 ·have hb:B=false:=by rw[← hB];simp;omega
  subst hb
  clear hB
  go_enter Tryd.func79,Tryd.ntmps79
  go_wp2_with fail
  refine hm.mono ?_
  rintro e w1 ⟨rfl,hr,hf⟩
  clear hm c0 c1
  go_wp2_with fail
  go_end0
  exact⟨rfl,by rw[HV.out];exact hr,hf⟩
theorem rnumber_f (rb:Nat)(G:Int)(fa:Option Addr)(nf fc:Nat)(w:World)(L E:Int)(h:RW rb G (.slice fa nf fc) w L E)(v n:Int) :
 Calls Tryd.prog 79 #[.pointer (some ⟨rb,0,none⟩),.int .u8 102,vI v,vI n] w fun r w'=>r = .returned (.tuple #[])∧RW rb G (.slice fa nf fc) w' L (mustE (numB 0 8 v) 17 E)∧Fr (fun k=>k=rb) w w':=by
 obtain⟨c0,c1,-,-,hz,hlt⟩:=h.cells
 have hm:=rmust rb G (.slice fa nf fc) w L E h (numB 0 8 v) 17
 obtain⟨B,hB⟩:∃ B,numB 0 8 v=B:=⟨_,rfl⟩
 have HV:Hd (numB 0 8 v=B):=hB
 rw[hB] at hm
 unfold numB at hB
 clear h
 by_cases h1:0≤v
 ·by_cases h2:v<8
  ·have hb:B=true:=by rw[← hB];simp;omega
   subst hb
   clear hB
   go_enter Tryd.func79,Tryd.ntmps79
   go_wp2_with fail
   refine hm.mono ?_
   rintro e w1 ⟨rfl,hr,hf⟩
   clear hm c0 c1
   go_wp2_with fail
   go_end0
   exact⟨rfl,by rw[HV.out];exact hr,hf⟩
  ·have hb:B=false:=by rw[← hB];simp;omega
   subst hb
   clear hB
   go_enter Tryd.func79,Tryd.ntmps79
   go_wp2_with fail
   refine hm.mono ?_
   rintro e w1 ⟨rfl,hr,hf⟩
   clear hm c0 c1
   go_wp2_with fail
   go_end0
   exact⟨rfl,by rw[HV.out];exact hr,hf⟩
 ·have hb:B=false:=by rw[← hB];simp;omega
  subst hb
  clear hB
  go_enter Tryd.func79,Tryd.ntmps79
  go_wp2_with fail
  refine hm.mono ?_
  rintro e w1 ⟨rfl,hr,hf⟩
  clear hm c0 c1
  go_wp2_with fail
  go_end0
  exact⟨rfl,by rw[HV.out];exact hr,hf⟩
theorem rnumber_g (rb:Nat)(G:Int)(fa:Option Addr)(nf fc:Nat)(w:World)(L E:Int)(h:RW rb G (.slice fa nf fc) w L E)(v n:Int) :
 Calls Tryd.prog 79 #[.pointer (some ⟨rb,0,none⟩),.int .u8 103,vI v,vI n] w fun r w'=>r = .returned (.tuple #[])∧RW rb G (.slice fa nf fc) w' L (mustE (numB 0 G v) 18 E)∧Fr (fun k=>k=rb) w w':=by
 obtain⟨c0,c1,-,-,hz,hlt⟩:=h.cells
 have hm:=rmust rb G (.slice fa nf fc) w L E h (numB 0 G v) 18
 obtain⟨B,hB⟩:∃ B,numB 0 G v=B:=⟨_,rfl⟩
 have HV:Hd (numB 0 G v=B):=hB
 rw[hB] at hm
 unfold numB at hB
 clear h
 by_cases h1:0≤v
 ·by_cases h2:v<G
  ·have hb:B=true:=by rw[← hB];simp;omega
   subst hb
   clear hB
   go_enter Tryd.func79,Tryd.ntmps79
   go_wp2_with fail
   refine hm.mono ?_
   rintro e w1 ⟨rfl,hr,hf⟩
   clear hm c0 c1
   go_wp2_with fail
   go_end0
   exact⟨rfl,by rw[HV.out];exact hr,hf⟩
  ·have hb:B=false:=by rw[← hB];simp;omega
   subst hb
   clear hB
   go_enter Tryd.func79,Tryd.ntmps79
   go_wp2_with fail
   refine hm.mono ?_
   rintro e w1 ⟨rfl,hr,hf⟩
   clear hm c0 c1
   go_wp2_with fail
   go_end0
   exact⟨rfl,by rw[HV.out];exact hr,hf⟩
 ·have hb:B=false:=by rw[← hB];simp;omega
  subst hb
  clear hB
  go_enter Tryd.func79,Tryd.ntmps79
  go_wp2_with fail
  refine hm.mono ?_
  rintro e w1 ⟨rfl,hr,hf⟩
  clear hm c0 c1
  go_wp2_with fail
  go_end0
  exact⟨rfl,by rw[HV.out];exact hr,hf⟩
theorem rnumber_F (rb:Nat)(G:Int)(fa:Option Addr)(nf fc:Nat)(w:World)(L E:Int)(h:RW rb G (.slice fa nf fc) w L E)(v n:Int) :
 Calls Tryd.prog 79 #[.pointer (some ⟨rb,0,none⟩),.int .u8 70,vI v,vI n] w fun r w'=>r = .returned (.tuple #[])∧RW rb G (.slice fa nf fc) w' L (mustE (numB 0 nf v) 14 E)∧Fr (fun k=>k=rb) w w':=by
 obtain⟨c0,c1,-,-,hz,hlt⟩:=h.cells
 have hm:=rmust rb G (.slice fa nf fc) w L E h (numB 0 nf v) 14
 obtain⟨B,hB⟩:∃ B,numB 0 nf v=B:=⟨_,rfl⟩
 have HV:Hd (numB 0 nf v=B):=hB
 rw[hB] at hm
 unfold numB at hB
 clear h
 by_cases h1:0≤v
 ·by_cases h2:v<nf
  ·have hb:B=true:=by rw[← hB];simp;omega
   subst hb
   clear hB
   go_enter Tryd.func79,Tryd.ntmps79
   go_wp2_with fail
   refine hm.mono ?_
   rintro e w1 ⟨rfl,hr,hf⟩
   clear hm c0 c1
   go_wp2_with fail
   go_end0
   exact⟨rfl,by rw[HV.out];exact hr,hf⟩
  ·have hb:B=false:=by rw[← hB];simp;omega
   subst hb
   clear hB
   go_enter Tryd.func79,Tryd.ntmps79
   go_wp2_with fail
   refine hm.mono ?_
   rintro e w1 ⟨rfl,hr,hf⟩
   clear hm c0 c1
   go_wp2_with fail
   go_end0
   exact⟨rfl,by rw[HV.out];exact hr,hf⟩
 ·have hb:B=false:=by rw[← hB];simp;omega
  subst hb
  clear hB
  go_enter Tryd.func79,Tryd.ntmps79
  go_wp2_with fail
  refine hm.mono ?_
  rintro e w1 ⟨rfl,hr,hf⟩
  clear hm c0 c1
  go_wp2_with fail
  go_end0
  exact⟨rfl,by rw[HV.out];exact hr,hf⟩
theorem rnumber_J (rb:Nat)(G:Int)(fa:Option Addr)(nf fc:Nat)(w:World)(L E:Int)(h:RW rb G (.slice fa nf fc) w L E)(v n:Int) :
 Calls Tryd.prog 79 #[.pointer (some ⟨rb,0,none⟩),.int .u8 74,vI v,vI n] w fun r w'=>r = .returned (.tuple #[])∧RW rb G (.slice fa nf fc) w' L (mustE (numB 0 n v) 16 E)∧Fr (fun k=>k=rb) w w':=by
 obtain⟨c0,c1,-,-,hz,hlt⟩:=h.cells
 have hm:=rmust rb G (.slice fa nf fc) w L E h (numB 0 n v) 16
 obtain⟨B,hB⟩:∃ B,numB 0 n v=B:=⟨_,rfl⟩
 have HV:Hd (numB 0 n v=B):=hB
 rw[hB] at hm
 unfold numB at hB
 clear h
 by_cases h1:0≤v
 ·by_cases h2:v<n
  ·have hb:B=true:=by rw[← hB];simp;omega
   subst hb
   clear hB
   go_enter Tryd.func79,Tryd.ntmps79
   go_wp2_with fail
   refine hm.mono ?_
   rintro e w1 ⟨rfl,hr,hf⟩
   clear hm c0 c1
   go_wp2_with fail
   go_end0
   exact⟨rfl,by rw[HV.out];exact hr,hf⟩
  ·have hb:B=false:=by rw[← hB];simp;omega
   subst hb
   clear hB
   go_enter Tryd.func79,Tryd.ntmps79
   go_wp2_with fail
   refine hm.mono ?_
   rintro e w1 ⟨rfl,hr,hf⟩
   clear hm c0 c1
   go_wp2_with fail
   go_end0
   exact⟨rfl,by rw[HV.out];exact hr,hf⟩
 ·have hb:B=false:=by rw[← hB];simp;omega
  subst hb
  clear hB
  go_enter Tryd.func79,Tryd.ntmps79
  go_wp2_with fail
  refine hm.mono ?_
  rintro e w1 ⟨rfl,hr,hf⟩
  clear hm c0 c1
  go_wp2_with fail
  go_end0
  exact⟨rfl,by rw[HV.out];exact hr,hf⟩
theorem rnumber_i (rb:Nat)(G:Int)(fv:Value)(w:World)(L E:Int)(h:RW rb G fv w L E)(v n:Int) :
 Calls Tryd.prog 79 #[.pointer (some ⟨rb,0,none⟩),.int .u8 105,vI v,vI n] w fun r w'=>r = .returned (.tuple #[])∧RW rb G fv w' L E∧Fr (fun k=>k=rb) w w':=by
 have HH:Hd (RW rb G fv w L E):=h
 clear h
 go_enter Tryd.func79,Tryd.ntmps79
 go_wp2_with fail
 go_end0
 exact⟨rfl,HH.out,Fr.refl _ _⟩
end Go.Proofs.YtingenonbkencaaDoor
