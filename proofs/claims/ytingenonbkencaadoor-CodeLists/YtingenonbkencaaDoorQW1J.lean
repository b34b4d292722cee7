import Derived.Test.YtingenonbkencaaDoorQC2J
import Derived.Test.YtingenonbkencaaDoorQE6J
set_option linter.unusedVariables false
set_option linter.unusedSimpArgs false
namespace Go.Proofs.YtingenonbkencaaDoor
open Go.RowKit (wrap32 wrap64)
set_option maxRecDepth 100000
set_option maxHeartbeats 1000000
abbrev u8v (c:UInt8):Value:=.int .u8 c.toNat
def leBytes : Nat→Nat→List UInt8
 | 0,_=>[]
 | k+1,n=>UInt8.ofNat (n % 256)::leBytes k (n / 256)
theorem leBytes_length : ∀ (k n:Nat),(leBytes k n).length=k
 | 0,_=>rfl
 | k+1,n=>by simp[leBytes,leBytes_length k]
theorem leBytes_get : ∀ (k n j:Nat),j<k→(leBytes k n)[j]?=some (UInt8.ofNat (n / 256 ^ j % 256))
 | 0,_,_,h=>absurd h (Nat.not_lt_zero _)
 | k+1,n,0,_=>by simp[leBytes]
 | k+1,n,j+1,h=>by
   simp only[leBytes,List.getElem?_cons_succ]
   rw[leBytes_get k (n / 256) j (by omega),Nat.div_div_eq_div_mul,Nat.pow_succ,Nat.mul_comm]
theorem leBytes_take (k n j:Nat)(h:j<k):(leBytes k n).take (j+1)=(leBytes k n).take j++[UInt8.ofNat (n / 256 ^ j % 256)]:=by
 rw[List.take_add_one,leBytes_get k n j h]
 rfl
structure Row (w:World)(wb g0 K:Nat)(l:List UInt8)(bv:Value):Prop where
 var:w.heap[wb]?=some (.cells #[bv] 53)
 own:w.ownsRow K 5 1 bv l.length (l.map u8v)∨(bv = .slice (some ⟨g0,0,none⟩) l.length l.length∧∀ j u,(l.map u8v)[j]?=some u→w.cell? ⟨g0,j,none⟩=some u)
 g0K:g0<K
 g0w:g0≠wb
 wK:wb<K
 Kw:K≤w.heap.size
theorem Row.alloc {w:World}{wb g0 K:Nat}{l:List UInt8}{bv:Value}(h:Row w wb g0 K l bv)(o:Obj):Row (w.alloc o) wb g0 K l bv:=by
 have e:∀ k,k<K→(w.alloc o).heap[k]?=w.heap[k]?:=fun k hk=>Go.RowKit.Below.heap_alloc w o k (Nat.lt_of_lt_of_le hk h.Kw)
 refine⟨by rw[e wb h.wK];exact h.var,?_,h.g0K,h.g0w,h.wK,by have:=h.Kw;simp;omega⟩
 rcases h.own with k | ⟨k1,k2⟩
 ·exact Or.inl (k.alloc o)
 ·exact Or.inr ⟨k1,fun j u hu=>by rw[World.cell?_of_block (a:=⟨g0,j,none⟩) (e g0 h.g0K)];exact k2 j u hu⟩
theorem Row.fr {S:Nat→Prop}{w w':World}{wb g0 K:Nat}{l:List UInt8}{bv:Value}(h:Row w wb g0 K l bv)(f:Fr S w w')(h1:¬ S wb)(h2:¬ S g0)(h3:∀ k,K≤k→¬ S k):Row w' wb g0 K l bv:=by
 have hKw:=h.Kw
 have hwK:=h.wK
 have hgK:=h.g0K
 refine⟨by rw[f.block wb (by omega) h1];exact h.var,?_,h.g0K,h.g0w,h.wK,Nat.le_trans hKw f.size⟩
 rcases h.own with k | ⟨k1,k2⟩
 ·exact Or.inl (ownsRow_fr k f (fun g e=>h3 g (World.ownsRow.lt k g e).1))
 ·exact Or.inr ⟨k1,fun j u hu=>by rw[f.cell (by omega) h2];exact k2 j u hu⟩
theorem addr_add (g j:Nat):(⟨g,0,none⟩:Addr).add j=⟨g,j,none⟩:=by unfold Addr.add;split<;>simp_all
theorem row_append {w:World}{wb g0 K:Nat}{l:List UInt8}{bv:Value}(h:Row w wb g0 K l bv)(ty:TypeId)(ad:Addr)(cc:Nat)(c:Value)(hc:∀ j u,[c][j]?=some u→w.cell? (ad.add j)=some u)(h1:∀ u∈[c],u.oneCell'=true)(hl:l.length+1≤1000000000000) :
 ∃ v1 w6 r,(Builtin.append_ #[22,22] ty #[bv,.slice (some ad) 1 cc]).run Tryd.prog w = .ok v1 w6∧w6.ownsRow K 5 1 v1 (l.length+1) (l.map u8v++[c])∧w.grownBy w6 r∧(∀ g,r=some g→K≤g):=by
 obtain⟨i5,hi5,hz5,hs5,hb5⟩:=info_parts (P:=Tryd.prog) (e:=5) (z:=.int .u8 0) (size:=1) (bytes:=1) (by kernel_rfl)
 have hm:l.length+1≤maxLen:=by unfold maxLen;omega
 rcases h.own with k | ⟨rfl,k2⟩
 ·obtain⟨v1,w6,hr,r1,r2,-⟩:=run_append_own (P:=Tryd.prog) w K 22 ty 5 i5 (.int .u8 0) 1 1 Tryd.underlying22 hi5 hz5 hs5 hb5 rfl (by omega) bv l.length _ k ad 1 cc [c] rfl hc h1 hm (by omega) h.Kw
  exact⟨v1,w6,_,hr,r1,r2,fun g e=>(World.ownsRow.lt k g e).1⟩
 ·have hr:=run_append_grow (P:=Tryd.prog) w 22 ty 5 i5 (.int .u8 0) Tryd.underlying22 hi5 hz5 ⟨g0,0,none⟩ l.length l.length (l.map u8v) (by rw[hs5];simp) (fun j u hu=>by rw[addr_add];exact k2 j u hu) ad 1 cc [c] (by rw[hs5];rfl) hc (by omega) (by omega) (by rw[hb5];exact growslice_fits (by omega) (by omega))
  have hge:=grownCap_ge w (l.length+1) l.length 5
  have hcm:grownCap w (l.length+1) l.length 5≤maxLen:=grownCap_le_maxLen w (l.length+1) l.length 5 hm
  refine⟨_,_,none,hr,⟨by simp,.inr ⟨w.heap.size,_,_,rfl,h.Kw,heap_alloc_last w.drew _,hge,hcm,?_,?_⟩⟩,⟨rfl,rfl,rfl,by simp,fun k hk _=>Go.RowKit.Below.heap_alloc w.drew _ k hk⟩,fun g e=>by cases e⟩
  ·have:(Builtin.zeroCells (Value.int .u8 0).cells (grownCap w (l.length+1) l.length 5-(l.length+1))).size=grownCap w (l.length+1) l.length 5-(l.length+1):=by
    rw[size_zeroCells];rw[show(Value.int IntKind.u8 0).cells.size=1 from rfl];omega
   simp only[Array.size_append,List.size_toArray,this,List.length_map,List.length_cons,List.length_nil]
   omega
  ·simp only[Array.toList_append]
   rw[List.take_append_of_le_length (by simp),List.take_of_length_le (by simp)]
theorem wpList_row {w:World}{wb g0 K:Nat}{l:List UInt8}{bv:Value}{ops:Array Oper}{rest:List Oper}{o:Oper}{a:Act}{Q:Exit→Act→World→Prop}(hgd:o.guard=none)(s x:Operand)
 (ho:o.op = .call { callee:=.builtin .append,args:=#[s,x],argTypes:=#[22,22] }) (h:Row w wb g0 K l bv) (hs:a.eval s=bv) (ad:Addr) (cc:Nat) (c:Value) (hx:a.eval x = .slice (some ad) 1 cc)
 (hc:∀ j u,[c][j]?=some u→w.cell? (ad.add j)=some u) (h1:∀ u∈[c],u.oneCell'=true) (hl:l.length+1≤1000000000000)
 (hk:∀ v1 w6 r,w6.ownsRow K 5 1 v1 (l.length+1) (l.map u8v++[c])→w.grownBy w6 r→(∀ g,r=some g→K≤g)→wpList Tryd.prog ops Q rest (a.put o.dst v1) w6):wpList Tryd.prog ops Q (o::rest) a w :=
 wpList_plain hgd fun _ hK=>by
  obtain⟨v1,w6,r,hr,h2,h3,h4⟩:=row_append h o.type ad cc c hc h1 hl
  unfold Oper.wp execOp
  simp only[ho,resolve,invoke,builtin,Sem.run_bind,Sem.run_pure,Result.andThen_ok,List.map_toArray,List.map_cons,List.map_nil,hs,hx,hr]
  exact hK _ _ (hk v1 w6 r h2 h3 h4)
theorem Row.push {w w6:World}{wb g0 K:Nat}{l:List UInt8}{bv v1:Value}{c:UInt8}{r:Option Nat}(h:Row w wb g0 K l bv)
 (hown:w6.ownsRow K 5 1 v1 (l.length+1) (l.map u8v++[u8v c])) (hg:w.grownBy w6 r) (hr:∀ g,r=some g→K≤g):Row (w6.setCell ⟨wb,0,none⟩ v1) wb g0 K (l++[c]) v1∧Fr (fun k=>k=wb∨K≤k) w (w6.setCell ⟨wb,0,none⟩ v1):=by
 have hKw:=h.Kw
 have hwK:=h.wK
 have hvar6:w6.heap[wb]?=some (.cells #[bv] 53):=by rw[hg.block wb (by omega) (fun e=>by have:=hr wb e.symm;omega)];exact h.var
 have hbw:∀ g,v1.ownBlock=some g→g≠wb:=fun g e hw=>by have:=(World.ownsRow.lt hown g e).1;omega
 refine⟨⟨?_,Or.inl ?_,h.g0K,h.g0w,hwK,by have:=hg.size;simp;omega⟩,?_⟩
 ·unfold World.setCell
  simp only[Array.getElem?_modify]
  rw[if_pos trivial,hvar6]
  rfl
 ·have e1:(l++[c]).length=l.length+1:=by simp
  rw[e1,List.map_append]
  have hf:Fr (fun j=>j=wb) w6 (w6.setCell ⟨wb,0,none⟩ v1):=Fr.setCell (Fr.refl (fun j=>j=wb) w6) _ _ (Or.inl rfl)
  exact ownsRow_fr hown hf (fun g e=>hbw g e)
 ·exact Fr.setCell ((grown_fr hg).mono (fun j hj e=>Or.inr (hr j e))) _ _ (Or.inl (Or.inl rfl))
theorem writes_any (wb g0 K:Nat)(l:List UInt8)(bv:Value)(p:Addr)(at' v:Int)(size:Nat)(w:World)(hp:w.cell? p=some (vI v))(hs:size≤8)(hr:Row w wb g0 K l bv)(hl:l.length+size≤1000000000000) :
 Calls Tryd.prog 34 #[.pointer (some ⟨wb,0,none⟩),.pointer (some p),.int .i64 at',.int .i64 size] w fun e w' =>
  e = .returned (.tuple #[])∧(∃ bv',Row w' wb g0 K (l++leBytes size (IntKind.u64.wrap v).toNat) bv')∧Fr (fun k=>k=wb∨K≤k) w w':=by
 have hN0:0≤IntKind.u64.wrap v:=by rw[IntKind.wrap_u64];omega
 obtain⟨N,hN⟩:=Int.eq_ofNat_of_zero_le hN0
 have HN:Hd (IntKind.u64.wrap v=N):=hN
 go_enter Tryd.func34,Tryd.ntmps34
 go_wp2_with fail
 obtain⟨i5,hi5,hz5,hs5,hb5⟩:=info_parts (P:=Tryd.prog) (e:=5) (z:=.int .u8 0) (size:=1) (bytes:=1) (by kernel_rfl)
 go_loopw [8,14] (fun nv i wr=>∃ (k:Nat) (bv':Value),k≤size∧i = .int .i64 k∧nv = .int .u64 ((N / 256 ^ k:Nat):Int)∧Row wr wb g0 K (l++(leBytes size N).take k) bv'∧Fr (fun k=>k=wb∨K≤k) w wr) (fun _ i _=>match i with | .int _ q=>size-q.toNat | _=>0)
 case atStart=>exact⟨0,bv,Nat.zero_le _,rfl,by simp,by simpa using hr,Fr.refl _ _⟩
 case round =>
  obtain⟨k,bv',hk,rfl,rfl,hrow,hfr⟩:=hrel
  by_cases hlt:k<size
  ·have hKw:=hrow.Kw
   have hcw:wr.cell? ⟨wb,0,none⟩=some bv':=by unfold World.cell?;simp[hrow.var]
   have hwb:wb<wr.heap.size:=by have:=hrow.wK;omega
   have hll:(l++(leBytes size N).take k).length=l.length+k:=by simp[leBytes_length];omega
   have hcell1:∀ (j:Nat) (u:Value),[Value.int .u8 ((N:Int) / 256 ^ k % 256)][j]?=some u→(wr.alloc (.cells #[.int .u8 ((N:Int) / 256 ^ k % 256)] 5)).cell? ((⟨wr.heap.size,0,none⟩:Addr).add j)=some u:=by
    intro j u hu
    have hadd:(⟨wr.heap.size,0,none⟩:Addr).add j=⟨wr.heap.size,j,none⟩:=by unfold Addr.add;split<;>simp_all
    rw[hadd,World.cell?_alloc_new]
    simpa using hu
   have hval:Hd (Value.int .u8 ((N:Int) / 256 ^ k % 256)=u8v (UInt8.ofNat (N / 256 ^ k % 256))):=by
    unfold Hd
    simp
   have hl':(l++(leBytes size N).take k).length+1≤1000000000000:=by rw[hll];omega
   go_wp2_with ((
    at_builtin
    refine wpList_row rfl (.tmp 20) (.tmp 23) rfl (hrow.alloc _) rfl ⟨wr.heap.size,0,none⟩ 1 (.int .u8 ((N:Int) / 256 ^ k % 256)) rfl hcell1 (by intro u hu;simp at hu;subst hu;rfl) hl' ?_
    intro v1 w6 r hown6 hgrow6 hr6
    rw[hll] at hown6
    obtain⟨a',c',hv1⟩:∃ a' c',v1 = .slice a' (l.length+k+1) c':=by
     rcases hown6.2 with⟨e1,e2⟩|⟨g,cap,cur,e1,-⟩
     ·omega
     ·exact⟨_,_,e1⟩
    subst hv1
    have hw6:w6.heap[wb]?=some (.cells #[bv'] 53):=by
     rw[hgrow6.block wb (by simp;omega) (fun e=>by have:=hr6 wb e.symm;have:=hrow.wK;omega),Go.RowKit.Below.heap_alloc _ _ _ hwb];exact hrow.var
    have hc6:w6.cell? ⟨wb,0,none⟩=some bv':=by unfold World.cell?;simp[hw6]
    have hz6:w6.frozen? ⟨wb,0,none⟩=false:=by unfold World.frozen?;simp[hw6]
    have hlt6:wb<w6.heap.size:=(Array.getElem?_eq_some_iff.1 hw6).1))
   rw[hval.out] at hown6
   rw[← hll] at hown6
   obtain⟨hr2,hf2⟩:=(hrow.alloc (.cells #[.int .u8 ((N:Int) / 256 ^ k % 256)] 5)).push hown6 hgrow6 hr6
   rw[hll] at hr2 hf2
   refine⟨⟨k+1,.slice a' (l.length+k+1) c',by omega,by simp,?_,?_,?_⟩,by simp;omega⟩
   ·rw[Nat.pow_succ,← Nat.div_div_eq_div_mul];simp
   ·rw[leBytes_take size N k hlt,← List.append_assoc]
    exact hr2
   ·exact hfr.trans ((Fr.alloc (Fr.refl _ wr) _).trans hf2)
  ·have hks:k=size:=by omega
   subst hks
   go_wp2_with fail
   go_end0
   refine⟨rfl,⟨bv',?_⟩,hfr⟩
   rw[HN.out,Int.toNat_natCast]
   rw[List.take_of_length_le (by rw[leBytes_length];exact Nat.le_refl _)] at hrow
   exact hrow
def writerFn (wb:Nat):Value:=.func (.func 34) #[.pointer (some ⟨wb,0,none⟩)] #[]
def writing (b wb g0 K:Nat):Mode b where
 σ:=Nat × List UInt8
 S:=fun k=>k=wb∨K≤k
 N:=fun k=>k=0∨k=wb∨k=g0∨K≤k
 fn:=writerFn wb
 I:=fun st p w=>p=st.2.length∧st.2.length+8*st.1≤1000000000000∧0<K∧0<wb∧b≠0∧b<K∧b≠wb∧g0≠b∧Tab w∧∃ bv,Row w wb g0 K st.2 bv
 eff:=fun st _ size v=>if st.1=0 then .error (-1,-1) else .ok (v,(st.1-1,st.2++leBytes size (IntKind.u64.wrap v).toNat))
 tab:=fun _ _ _ h=>h.2.2.2.2.2.2.2.2.1
 stable:=fun st p w w' h f=>by
  obtain⟨h1,h2,h3,h4,h5,h6,h7,h8,h9,bv,k⟩:=h
  exact⟨h1,h2,h3,h4,h5,h6,h7,h8,h9.fr f (fun e=>h5 e.symm),bv,k.fr f (fun e=>h7 e.symm) h8 (fun j hj e=>by omega)⟩
set_option maxRecDepth 100000
set_option maxHeartbeats 2000000
theorem askHead_at {b:Nat}(M:Mode b)(rm:M.σ→Nat)(hN:NextAt M rm)(x:WS × M.σ)(w:World)(h:On M w x)(hR:RoomGoes M rm)(hp:4≤rm x.2) :
 Calls Tryd.prog 63 #[.pointer (some ⟨b,0,none⟩)] w (Ends M w (headX M x)):=by
 go_enter Tryd.func63,Tryd.ntmps63
 go_wp2_with fail
 refine(hN 149 (by simp[places]) x 1 _ (by omega) h (by omega) (by omega)).mono ?_
 rintro e w1 ⟨hf1,hres⟩
 cases hx1:nextX M 149 1 x with
 | error z =>
   simp only[hx1] at hres
   subst hres
   go_wp2_with fail
   refine⟨rfl,hf1,?_⟩
   simp only[headX,hx1,bind,Except.bind]
 | ok y1 =>
 have HR1:Hd (nextX M 149 1 x = .ok y1):=hx1
 simp only[hx1] at hres
 obtain⟨rfl,hon1⟩:=hres
 go_wp2_with fail
 refine(hN 150 (by simp[places]) y1 1 _ (by have:=hR _ _ _ _ HR1.out;omega) hon1 (by omega) (by omega)).mono ?_
 rintro e w2 ⟨hf2,hres⟩
 cases hx2:nextX M 150 1 y1 with
 | error z =>
   simp only[hx2] at hres
   subst hres
   go_wp2_with fail
   refine⟨rfl,hf1.trans hf2,?_⟩
   simp only[headX,hx1,hx2,bind,Except.bind]
 | ok y2 =>
 have HR2:Hd (nextX M 150 1 y1 = .ok y2):=hx2
 simp only[hx2] at hres
 obtain⟨rfl,hon2⟩:=hres
 go_wp2_with fail
 refine(hN 151 (by simp[places]) y2 1 _ (by have:=hR _ _ _ _ HR1.out;have:=hR _ _ _ _ HR2.out;omega) hon2 (by omega) (by omega)).mono ?_
 rintro e w3 ⟨hf3,hres⟩
 cases hx3:nextX M 151 1 y2 with
 | error z =>
   simp only[hx3] at hres
   subst hres
   go_wp2_with fail
   refine⟨rfl,(hf1.trans hf2).trans hf3,?_⟩
   simp only[headX,hx1,hx2,hx3,bind,Except.bind]
 | ok y3 =>
 have HR3:Hd (nextX M 151 1 y2 = .ok y3):=hx3
 simp only[hx3] at hres
 obtain⟨rfl,hon3⟩:=hres
 go_wp2_with fail
 refine(hN 153 (by simp[places]) y3 2 _ (by have:=hR _ _ _ _ HR1.out;have:=hR _ _ _ _ HR2.out;have:=hR _ _ _ _ HR3.out;omega) hon3 (by omega) (by omega)).mono ?_
 rintro e w4 ⟨hf4,hres⟩
 have hf:Fr M.SB w w4:=((hf1.trans hf2).trans hf3).trans hf4
 cases hx4:nextX M 153 2 y3 with
 | error z =>
   simp only[hx4] at hres
   subst hres
   go_wp2_with fail
   refine⟨rfl,hf,?_⟩
   simp only[headX,hx1,hx2,hx3,hx4,bind,Except.bind]
 | ok y4 =>
 simp only[hx4] at hres
 obtain⟨rfl,hon4⟩:=hres
 have c149:w4.cell? ⟨b,149,none⟩=some (vI y4.1.fP):=hon4.1.facts.2.2.2.2.2.1
 have c150:w4.cell? ⟨b,150,none⟩=some (vI y4.1.fR):=hon4.1.facts.2.2.2.2.2.2.1
 have c151:w4.cell? ⟨b,151,none⟩=some (vI y4.1.fV):=hon4.1.facts.2.2.2.2.2.2.2.1
 have c153:w4.cell? ⟨b,153,none⟩=some (vI y4.1.len):=hon4.1.facts.2.2.2.2.2.2.2.2.2.1
 have hX:headX M x=(headOk y4.1 x.1.at' >>= fun _=>locX M y4.1.fV x.1.at' y4):=by
  simp only[headX,hx1,hx2,hx3,hx4,bind,Except.bind]
 have HX:Hd (headX M x=(headOk y4.1 x.1.at' >>= fun _=>locX M y4.1.fV x.1.at' y4)):=hX
 clear hX hx1 hx2 hx3 hx4 hon1 hon2 hon3 hf1 hf2 hf3 hf4
 go_wp2_with fail
 refine(within_any _ _ _ _).mono ?_
 rintro e w' ⟨rfl,rfl⟩
 by_cases m1:0≤y4.1.fV∧y4.1.fV≤255
 rotate_left
 ·have n1:Hd (¬ (0≤y4.1.fV∧y4.1.fV≤255)):=m1
  have m1':decide (0≤y4.1.fV∧y4.1.fV≤255)=false:=by simpa using m1
  rw[m1']
  go_wp2_with fail
  refine(must_false 20 x.1.at' _).mono ?_
  rintro e w' ⟨rfl,rfl⟩
  go_wp2_with fail
  refine⟨rfl,hf,?_⟩
  have hXk:headX M x = .error (20,x.1.at'):=by rw[HX.out];unfold headOk;rw[if_pos n1.out];rfl
  simp only[hXk]
 have n1:Hd (0≤y4.1.fV∧y4.1.fV≤255):=m1
 have m1':decide (0≤y4.1.fV∧y4.1.fV≤255)=true:=by simpa using m1
 rw[m1']
 go_wp2_with fail
 refine(must_true 20 x.1.at' _).mono ?_
 rintro e w' ⟨rfl,rfl⟩
 go_wp2_with fail
 refine wp_region_still_tail 11 mixed (by kernel_rfl) ?_
 simp only[List.take_succ_cons,List.take_zero,List.drop_succ_cons,List.drop_zero]
 repeat still_step
 generalize hmn:(if y4.1.fV<8 then y4.1.fV else 8)=mn
 have HMN:Hd ((if y4.1.fV<8 then y4.1.fV else 8)=mn):=hmn
 clear hmn
 by_cases m2:0≤y4.1.fP∧y4.1.fP≤mn
 rotate_left
 ·have n2':Hd (¬ (0≤y4.1.fP∧y4.1.fP≤(if y4.1.fV<8 then y4.1.fV else 8))):=by unfold Hd;rw[HMN.out];exact m2
  have m2':decide (0≤y4.1.fP∧y4.1.fP≤mn)=false:=by simpa using m2
  still_call (within_any _ _ _ _)
  repeat still_step
  refine wpStill_nil ?_
  go_wp2_with fail
  refine(must_false 20 x.1.at' _).mono ?_
  rintro e w' ⟨rfl,rfl⟩
  go_wp2_with fail
  refine⟨rfl,hf.drew,?_⟩
  have hXk:headX M x = .error (20,x.1.at'):=by rw[HX.out];unfold headOk;rw[if_neg (Decidable.not_not.2 n1.out),if_pos n2'.out];rfl
  simp only[hXk]
 have n2:Hd (0≤y4.1.fP∧y4.1.fP≤(if y4.1.fV<8 then y4.1.fV else 8)):=by unfold Hd;rw[HMN.out];exact m2
 have m2':decide (0≤y4.1.fP∧y4.1.fP≤mn)=true:=by simpa using m2
 still_call (within_any _ _ _ _)
 repeat still_step
 refine wpStill_nil ?_
 go_wp2_with fail
 refine(must_true 20 x.1.at' _).mono ?_
 rintro e w' ⟨rfl,rfl⟩
 go_wp2_with fail
 refine(within_any _ _ _ _).mono ?_
 rintro e w' ⟨rfl,rfl⟩
 by_cases m3:0≤y4.1.fR∧y4.1.fR≤4
 rotate_left
 ·have n3:Hd (¬ (0≤y4.1.fR∧y4.1.fR≤4)):=m3
  have m3':decide (0≤y4.1.fR∧y4.1.fR≤4)=false:=by simpa using m3
  rw[m3']
  go_wp2_with fail
  refine(must_false 20 x.1.at' _).mono ?_
  rintro e w' ⟨rfl,rfl⟩
  go_wp2_with fail
  refine⟨rfl,hf.drew,?_⟩
  have hXk:headX M x = .error (20,x.1.at'):=by rw[HX.out];unfold headOk;rw[if_neg (Decidable.not_not.2 n1.out),if_neg (Decidable.not_not.2 n2.out),if_pos n3.out];rfl
  simp only[hXk]
 have n3:Hd (0≤y4.1.fR∧y4.1.fR≤4):=m3
 have m3':decide (0≤y4.1.fR∧y4.1.fR≤4)=true:=by simpa using m3
 rw[m3']
 go_wp2_with fail
 refine(must_true 20 x.1.at' _).mono ?_
 rintro e w' ⟨rfl,rfl⟩
 by_cases m4:y4.1.len≤4096
 rotate_left
 ·have n4:Hd (¬ (y4.1.len≤4096)):=m4
  have m4':decide (y4.1.len≤4096)=false:=by simpa using m4
  go_wp2_with fail
  refine(must_false 20 x.1.at' _).mono ?_
  rintro e w' ⟨rfl,rfl⟩
  go_wp2_with fail
  refine⟨rfl,hf.drew,?_⟩
  have hXk:headX M x = .error (20,x.1.at'):=by rw[HX.out];unfold headOk;rw[if_neg (Decidable.not_not.2 n1.out),if_neg (Decidable.not_not.2 n2.out),if_neg (Decidable.not_not.2 n3.out),if_pos (Int.not_le.2 n4.out)];rfl
  simp only[hXk]
 have n4:Hd (y4.1.len≤4096):=m4
 have m4':decide (y4.1.len≤4096)=true:=by simpa using m4
 go_wp2_with fail
 refine(must_true 20 x.1.at' _).mono ?_
 rintro e w' ⟨rfl,rfl⟩
 by_cases m5:0<y4.1.len
 rotate_left
 ·have n5:Hd (¬ (0<y4.1.len)):=m5
  have m5':decide (0<y4.1.len)=false:=by simpa using m5
  go_wp2_with fail
  refine(must_false 19 x.1.at' _).mono ?_
  rintro e w' ⟨rfl,rfl⟩
  go_wp2_with fail
  refine⟨rfl,hf.drew,?_⟩
  have hXk:headX M x = .error (19,x.1.at'):=by rw[HX.out];unfold headOk;rw[if_neg (Decidable.not_not.2 n1.out),if_neg (Decidable.not_not.2 n2.out),if_neg (Decidable.not_not.2 n3.out),if_neg (Decidable.not_not.2 n4.out),if_pos (Int.not_lt.2 n5.out)];rfl
  simp only[hXk]
 have n5:Hd (0<y4.1.len):=m5
 have m5':decide (0<y4.1.len)=true:=by simpa using m5
 go_wp2_with fail
 refine(must_true 19 x.1.at' _).mono ?_
 rintro e w' ⟨rfl,rfl⟩
 go_wp2_with fail
 refine(locate_any M y4.1.fV x.1.at' y4 _ hon4.drew).mono ?_
 rintro e w5 ⟨hf5,hres⟩
 have hX5:Hd (headX M x=locX M y4.1.fV x.1.at' y4):=by
  unfold Hd
  rw[HX.out];unfold headOk;rw[if_neg (Decidable.not_not.2 n1.out),if_neg (Decidable.not_not.2 n2.out),if_neg (Decidable.not_not.2 n3.out),if_neg (Decidable.not_not.2 n4.out),if_neg (Decidable.not_not.2 n5.out)];rfl
 cases hx5:locX M y4.1.fV x.1.at' y4 with
 | error z =>
   simp only[hx5] at hres
   subst hres
   go_wp2_with fail
   refine⟨rfl,hf.drew.trans hf5,?_⟩
   simp only[hX5.out,hx5]
 | ok y5 =>
   simp only[hx5] at hres
   obtain⟨rfl,hon5⟩:=hres
   go_wp2_with fail
   go_end0
   refine⟨hf.drew.trans hf5,?_⟩
   simp only[hX5.out,hx5]
   exact⟨trivial,hon5⟩
theorem list_none {b:Nat}(M:Mode b)(rm:M.σ→Nat)(hN:NextAt M rm)(o n:Nat)(ho:o=159∨o=160)(x:WS × M.σ)(w:World)(h:On M w x)(a:Option Addr)(c pk po:Nat)(l:List Int)
 (hsl:x.1.getL o = .slice a l.length c) (hL:l.length=n) (hnil:Hd (l=[])) (hp:1≤rm x.2) (hn:n≤255) (ha:n≠0→a=some ⟨pk,po,none⟩∧pk≠b∧¬ M.S pk∧¬ M.N pk∧pk<w.heap.size) (hI:Ints w pk po l) :
 Calls Tryd.prog 100 #[.pointer (some ⟨b,0,none⟩),.pointer (some ⟨b,o,none⟩),.int .i64 n] w (EndsK M w pk po (listX M n l x)):=by
 subst hL
 have hcl:w.cell? ⟨b,o,none⟩=some (.slice a l.length c):=by rw[h.1.cell,cells_getL _ _ ho,hsl]
 have hc161:w.cell? ⟨b,161,none⟩=some (vI x.1.count):=h.1.facts.2.2.2.2.2.2.2.2.2.2.2.2.2.2.2.2.2
 have hz161:=h.1.frozen 161
 have hf0:Fr (·=b) w (w.setCell ⟨b,161,none⟩ (vI l.length)):=Fr.setCell (Fr.refl (fun k=>k=b) w) _ _ (Or.inl rfl)
 have hl0:Lies (w.setCell ⟨b,161,none⟩ (vI l.length)) b { x.1 with count:=l.length }:=h.1.setCell 161 _ (cells_set _ 161 _ (by simp[places]))
 have hon0:On M (w.setCell ⟨b,161,none⟩ (vI l.length)) ({ x.1 with count:=l.length },x.2):=h.fr hf0 hl0 rfl rfl
 have hb:=h.1.lt
 go_enter Tryd.func100,Tryd.ntmps100
 go_wp2_with fail
 refine(hN 161 (by simp[places]) ({ x.1 with count:=l.length },x.2) 1 _ hp hon0 (by omega) (by omega)).mono ?_
 rintro e w1 ⟨hf1,hres⟩
 have hfa:Fr M.SB w w1:=(hf0.mono (fun k _ hk=>Or.inl hk)).trans hf1
 cases hx1:nextX M 161 1 ({ x.1 with count:=l.length },x.2) with
 | error z =>
   simp only[hx1] at hres
   subst hres
   go_wp2_with fail
   refine⟨rfl,hfa.mono (fun _ _ hk=>Or.inl hk),?_⟩
   simp only[listX,hx1]
 | ok y =>
 simp only[hx1] at hres
 obtain⟨rfl,hon1⟩:=hres
 have hcc:w1.cell? ⟨b,161,none⟩=some (vI y.1.count):=hon1.1.facts.2.2.2.2.2.2.2.2.2.2.2.2.2.2.2.2.2
 have hyL:y.1.getL o = .slice a l.length c:=by
  obtain⟨v,st,rfl⟩:=nextX_num hx1
  rcases ho with rfl | rfl<;>exact hsl
 have hcl1:w1.cell? ⟨b,o,none⟩=some (.slice a l.length c):=by rw[hon1.1.cell,cells_getL _ _ ho,hyL]
 have HL:Hd (listX M l.length l x=if y.1.count=(l.length:Nat) then varsX M l y else .error (15,x.1.at')):=by
  unfold Hd;simp only[listX,hx1,if_true]
 clear hx1
 by_cases hm:y.1.count=(l.length:Nat)
 rotate_left
 ·have hm':(y.1.count==((l.length:Nat):Int))=false:=by simpa using hm
  have HM:Hd (¬ y.1.count=(l.length:Nat)):=hm
  clear hm
  go_wp2_with fail
  refine(must_false 15 x.1.at' _).mono ?_
  rintro e w' ⟨rfl,rfl⟩
  go_wp2_with fail
  refine⟨rfl,hfa.mono (fun _ _ hk=>Or.inl hk),?_⟩
  rw[HL.out,if_neg HM.out]
 have hm':(y.1.count==((l.length:Nat):Int))=true:=by simpa using hm
 have HLV:Hd (listX M l.length l x=varsX M l y):=by unfold Hd;rw[HL.out,if_pos hm]
 clear hm HL
 go_wp2_with fail
 refine(must_true 15 x.1.at' _).mono ?_
 rintro e w' ⟨rfl,rfl⟩
 go_wp2_with fail
 have hI1:Ints w' pk po l:=fun i hi=>by
  obtain⟨-,hpkb,hpS,hpN,hplt⟩:=ha (by omega)
  have hSB:¬ M.SB pk:=fun h=>h.elim hpkb hpS
  exact⟨(hfa.cell hplt hSB).trans (hI i hi).1,(hfa.frozen hplt hSB).trans (hI i hi).2⟩
 go_loopw [42] (fun i wr=>∃ (k:Nat) (done:List Int) (z:WS × M.σ),k≤l.length∧i = .int .i64 k∧done.length=k∧On M wr z∧Hd (z.1={ y.1 with at':=z.1.at' })∧Fr (fun j=>M.SB j∨j=pk) w' wr ∧
  Hd (l≠[]→wr.heap[pk]?=(w'.setCells pk po (done.map vI)).heap[pk]?)∧Hd (varsX M l y=contX done (varsX M (l.drop k) z))) (fun i _=>match i with | .int _ q=>l.length-q.toNat | _=>0)
 case atStart=>exact⟨0,[],y,Nat.zero_le _,rfl,rfl,hon1,rfl,Fr.refl _ _,fun _=>rfl,by unfold Hd;rw[contX_nil];rfl⟩
 case round =>
  obtain⟨k,done,z,hk,rfl,hdl,honz,hz1,hfz,hblk,hvx⟩:=hrel
  have hclz:wr.cell? ⟨b,o,none⟩=some (.slice a l.length c):=by
   rw[honz.1.cell,cells_getL _ _ ho,hz1.out,getL_at,hyL]
  by_cases hlt:k<l.length
  ·exfalso;rw[hnil.out] at hlt;simp at hlt
  ·have hkl:k=l.length:=by omega
   subst hkl
   have hvl:Hd (varsX M l y = .ok (done,z)):=by
    unfold Hd;rw[hvx.out,List.drop_length];simp[varsX,contX]
   clear hvx
   go_wp2_with fail
   go_end0
   refine⟨(hfa.mono (fun _ _ hk=>Or.inl hk)).trans hfz,?_⟩
   rw[HLV.out,hvl.out]
   exact⟨rfl,honz,fun hvs=>by
    have hne:l≠[]:=by intro e;apply hvs;rw[e] at hdl;exact List.length_eq_zero_iff.1 hdl
    obtain⟨-,hpkb,hpS,hpN,hplt⟩:=ha (by intro e;exact hne (List.length_eq_zero_iff.1 e))
    rw[hblk.out hne]
    exact setCells_block pk _ po _ _ (hfa.block pk hplt (fun h=>h.elim hpkb hpS))⟩
theorem list_new0 {b:Nat}(M:Mode b)(rm:M.σ→Nat)(hN:NextAt M rm)(o n:Nat)(ho:o=159∨o=160)(x:WS × M.σ)(w:World)(h:On M w x)(hsl:x.1.getL o=nilS)
 (hn0:n=0) (hp:1≤rm x.2) :
 Calls Tryd.prog 100 #[.pointer (some ⟨b,0,none⟩),.pointer (some ⟨b,o,none⟩),.int .i64 n] w (EndsNew M w o (listX M n [] x)):=by
 subst hn0
 refine(list_none M rm hN o 0 ho x w h none 0 b 0 [] (by simpa[nilS] using hsl) rfl rfl hp (by omega) (fun h=>absurd rfl h) (fun i hi=>by simp at hi)).mono ?_
 rintro e w' ⟨hf,hr⟩
 refine⟨hf.mono (fun k _ hk=>hk.elim id (fun e=>Or.inl e)),?_⟩
 cases hl:listX M 0 [] x with
 | error z=>simp only[hl] at hr;exact hr
 | ok q =>
   obtain⟨vs,y⟩:=q
   simp only[hl] at hr
   obtain⟨rfl,hon,-⟩:=hr
   have hvs:vs=[]∧y.1.getL o=nilS:=by
    unfold listX at hl
    split at hl
    ·cases hl
    ·rename_i y' hy
     split at hl
     ·simp only[List.length_nil,if_true,varsX,Except.ok.injEq,Prod.mk.injEq] at hl
      rw[← hl.1,← hl.2,getL_nextX hy]
      exact⟨rfl,hsl⟩
     ·cases hl
   refine⟨rfl,nilS,Or.inl ⟨hvs.1,rfl⟩,?_⟩
   rw[setL_getL _ _ _ hvs.2]
   exact hon
theorem front_state {b:Nat}{M:Mode b}{nb:Bool}{i:Nat}{p:Int}{y y':WS × M.σ}(h:frontOk M true false nb i p y = .ok y'):y'=y:=by
 unfold frontOk at h
 split at h
 ·cases h
 ·split at h
  ·cases h
  ·simp at h;exact h.symm
theorem instr_15at {b:Nat}(M:Mode b)(rm:M.σ→Nat)(hN:NextAt M rm)(hRm:RoomGoes M rm)(x y:WS × M.σ)(w:World)(h:On M w x)(hp:2≤rm x.2)(i:Nat)(hi:i≤4096)(hx:nextX M 154 1 x = .ok y)(hk:y.1.op=15)(hl0:0≤y.1.len)(hl1:y.1.len≤4096)(nb:Bool)
 (hnames:∀ w1,Lies w1 b y.1→Calls Tryd.prog 93 #[.pointer (some ⟨b,122,none⟩),.pointer (some ⟨b,154,none⟩)] w1 fun e w'=>e = .returned (.bool nb)∧w'=w1)
 (ha:y.1.args=nilS) (hr:y.1.rets=nilS) (n:Nat) (hR:y.1.fR=n) (hn:n=0) :
 Calls Tryd.prog 65 #[.pointer (some ⟨b,0,none⟩),.int .i64 i] w (EndsI M w (retX M n (frontOk M true false nb i x.1.at' y))):=by
 refine askInstr_15at M rm hN x y w h (by omega) i hi hx hk hl0 hl1 nb hnames _ (fun j w1=>match j with | 0=>Stage M w y.1 (frontOk M true false nb i x.1.at' y) w1 | 1=>After M w (retX M n (frontOk M true false nb i x.1.at' y)) w1 | _=>False)
  (fun z w1 hz hf=>endsI_error (by simp only[retX,hz,thenX]) hf) ?_ ?_ ?_ ?_ ?_
 ·exact fun y' w1 hy hf hon=>⟨y',hy,hf,hon,frontOk_kept hy⟩
 ·intro j w1 hj
  match j,hj with
  | 0,hj=>exact Stage.lies hj
  | 1,hj=>exact After.lies hj
 ·intro j w1 hj
  match j,hj with
  | 0,hj=>exact Stage.drew hj
  | 1,hj=>exact After.drew hj
 ·rintro w1 ⟨y',hy',hf1,hon,hkp⟩
  refine ownResults_any 159 n y'.1 w1 hon.1 (by rw[hkp.fR,hR]) _ ?_
  refine(list_new0 M rm hN 159 n (Or.inl rfl) y' w1 hon (by unfold WS.getL;rw[if_pos rfl,hkp.args,ha]) hn (by rw[front_state hy'];have:=hRm _ _ _ _ hx;omega)).mono ?_
  rintro e w2 ⟨hf2,hres⟩
  cases hl:listX M n [] y' with
  | error z =>
    simp only[hl] at hres
    subst hres
    exact⟨Or.inr ⟨_,rfl⟩,Or.inr ⟨_,rfl,endsI_error (by simp only[retX,hy',thenX,hl]) (hf1.trans hf2)⟩⟩
  | ok q =>
    obtain⟨vs,y2⟩:=q
    simp only[hl] at hres
    obtain⟨rfl,av,hnew,hon2⟩:=hres
    have k2:=hkp.trans (listX_kept hl)
    have hy2:y2.1.setL 159 av={ y2.1 with args:=av,rets:=nilS }:=by
     have:y2.1.rets=nilS:=by rw[k2.rets,hr]
     unfold WS.setL;rw[if_pos rfl,← this]
    refine⟨Or.inl rfl,Or.inl ⟨rfl,hf1.trans hf2,(vs,[]),y2,av,nilS,?_,⟨hnew.mono hf1.size,Lt.nil_r _⟩,Or.inl ⟨rfl,rfl⟩,?_⟩⟩
    ·simp only[retX,hy',thenX,hl]
    ·rw[← hy2];exact hon2
 ·exact fun w1 hw1=>After.ends hw1
end Go.Proofs.YtingenonbkencaaDoor
