import Derived.Test.YtingenonbkencaaDoorQM1J
import Derived.Test.YtingenonbkencaaDoorQA2
import Derived.Laws.IdiomCopy
import Derived.Laws.MakeOwn
import Derived.Defers
import Derived.Recover
set_option linter.unusedVariables false
set_option linter.unusedSimpArgs false
namespace Go.Proofs.YtingenonbkencaaDoor
open Go.RowKit (wrap32 wrap64)
structure Fr (S:Nat→Prop)(w w':World):Prop where
 os:w'.os=w.os
 tape:w'.tape=w.tape
 output:w'.output=w.output
 size:w.heap.size≤w'.heap.size
 block:∀ k,k<w.heap.size→¬ S k→w'.heap[k]?=w.heap[k]?
theorem Fr.refl (S:Nat→Prop)(w:World):Fr S w w:=⟨rfl,rfl,rfl,Nat.le_refl _,fun _ _ _=>rfl⟩
theorem Fr.trans {S:Nat→Prop}{a b c:World}(h:Fr S a b)(k:Fr S b c):Fr S a c :=
 ⟨k.os.trans h.os,k.tape.trans h.tape,k.output.trans h.output,Nat.le_trans h.size k.size,fun j hj hS=>(k.block j (Nat.lt_of_lt_of_le hj h.size) hS).trans (h.block j hj hS)⟩
theorem Fr.mono {S T:Nat→Prop}{a b:World}(h:Fr S a b)(hs:∀ k,k<a.heap.size→S k→T k):Fr T a b :=
 ⟨h.os,h.tape,h.output,h.size,fun k hk hT=>h.block k hk (fun hS=>hT (hs k hk hS))⟩
theorem Fr.drew {S:Nat→Prop}{a w:World}(h:Fr S a w):Fr S a w.drew:=⟨h.os,h.tape,h.output,h.size,h.block⟩
theorem Fr.alloc {S:Nat→Prop}{a w:World}(h:Fr S a w)(o:Obj):Fr S a (w.alloc o) :=
 ⟨h.os,h.tape,h.output,by simp;have:=h.size;omega,fun k hk hS=>(Go.RowKit.Below.heap_alloc w o k (Nat.lt_of_lt_of_le hk h.size)).trans (h.block k hk hS)⟩
theorem Fr.setCell {S:Nat→Prop}{a w:World}(h:Fr S a w)(p:Addr)(v:Value)(hp:S p.block∨a.heap.size≤p.block):Fr S a (w.setCell p v) :=
 ⟨h.os,h.tape,h.output,by simpa using h.size,fun k hk hS=>by
  rw[Go.RowKit.Below.heap_setCell w p v k (by intro e;subst e;rcases hp with hp | hp;exact hS hp;omega)];exact h.block k hk hS⟩
theorem Fr.cell {S:Nat→Prop}{w w':World}(h:Fr S w w'){k o:Nat}(hk:k<w.heap.size)(hS:¬ S k):w'.cell? ⟨k,o,none⟩=w.cell? ⟨k,o,none⟩:=World.cell?_of_block (h.block k hk hS)
theorem Fr.frozen {S:Nat→Prop}{w w':World}(h:Fr S w w'){k o:Nat}(hk:k<w.heap.size)(hS:¬ S k):w'.frozen? ⟨k,o,none⟩=w.frozen? ⟨k,o,none⟩:=World.frozen?_of_block (h.block k hk hS)
def Lies (w:World)(b:Nat)(s:WS):Prop:=w.heap[b]?=some (.cells s.cells 87)
theorem Lies.lt {w:World}{b:Nat}{s:WS}(h:Lies w b s):b<w.heap.size:=(Array.getElem?_eq_some_iff.1 h).1
theorem Lies.cell {w:World}{b:Nat}{s:WS}(h:Lies w b s)(o:Nat):w.cell? ⟨b,o,none⟩=s.cells[o]?:=by
 unfold World.cell?;rw[show w.heap[b]?=_ from h];simp
theorem Lies.frozen {w:World}{b:Nat}{s:WS}(h:Lies w b s)(o:Nat):w.frozen? ⟨b,o,none⟩=false:=by
 unfold World.frozen?;rw[show w.heap[b]?=_ from h];simp
theorem Lies.alloc {w:World}{b:Nat}{s:WS}(h:Lies w b s)(o:Obj):Lies (w.alloc o) b s:=by
 unfold Lies;rw[Go.RowKit.Below.heap_alloc w o b h.lt];exact h
theorem Lies.drew {w:World}{b:Nat}{s:WS}(h:Lies w b s):Lies w.drew b s:=h
theorem Lies.other {w:World}{b:Nat}{s:WS}(h:Lies w b s)(p:Addr)(v:Value)(hp:b≠p.block):Lies (w.setCell p v) b s:=by
 unfold Lies;rw[Go.RowKit.Below.heap_setCell w p v b hp];exact h
theorem Lies.setCell {w:World}{b:Nat}{s s':WS}(h:Lies w b s)(o:Nat)(v:Value)(e:s.cells.setIfInBounds o v=s'.cells):Lies (w.setCell ⟨b,o,none⟩ v) b s':=by
 have h':w.heap[b]?=some (.cells s.cells 87):=h
 have hb:=h.lt
 unfold Lies World.setCell
 simp only[Array.getElem?_modify]
 rw[if_pos trivial,h']
 simp[e]
theorem Lies.fr {S:Nat→Prop}{w w':World}{b:Nat}{s:WS}(h:Lies w b s)(f:Fr S w w')(hS:¬ S b):Lies w' b s:=by
 unfold Lies;rw[f.block b h.lt hS];exact h
theorem Lies.facts {w:World}{b:Nat}{s:WS}(h:Lies w b s) :
 w.cell? ⟨b,0,none⟩=some s.num∧w.cell? ⟨b,1,none⟩=some (vI s.at')∧w.cell? ⟨b,146,none⟩=some (vI s.globals)∧w.cell? ⟨b,147,none⟩=some s.funcs ∧
 w.cell? ⟨b,148,none⟩=some (vI s.locs)∧w.cell? ⟨b,149,none⟩=some (vI s.fP)∧w.cell? ⟨b,150,none⟩=some (vI s.fR)∧w.cell? ⟨b,151,none⟩=some (vI s.fV) ∧
 w.cell? ⟨b,152,none⟩=some s.fC∧w.cell? ⟨b,153,none⟩=some (vI s.len)∧w.cell? ⟨b,154,none⟩=some (vI s.op)∧w.cell? ⟨b,155,none⟩=some (vI s.r) ∧
 w.cell? ⟨b,156,none⟩=some (vI s.s)∧w.cell? ⟨b,157,none⟩=some (vI s.t)∧w.cell? ⟨b,158,none⟩=some (vI s.n)∧w.cell? ⟨b,159,none⟩=some s.args ∧
 w.cell? ⟨b,160,none⟩=some s.rets∧w.cell? ⟨b,161,none⟩=some (vI s.count):=by
 simp only[h.cell]
 refine⟨?_,?_,?_,?_,?_,?_,?_,?_,?_,?_,?_,?_,?_,?_,?_,?_,?_,?_⟩<;>kernel_rfl
def WS.set (s:WS)(o:Nat)(v:Int):WS :=
 if o=146 then { s with globals:=v } else if o=149 then { s with fP:=v } else if o=150 then { s with fR:=v } else if o=151 then { s with fV:=v }
 else if o=153 then { s with len:=v } else if o=154 then { s with op:=v } else if o=155 then { s with r:=v } else if o=156 then { s with s:=v }
 else if o=157 then { s with t:=v } else if o=158 then { s with n:=v } else { s with count:=v }
def places : List Nat:=[146,149,150,151,153,154,155,156,157,158,161]
theorem cells_set (s:WS)(o:Nat)(v:Int)(h:o∈places):s.cells.setIfInBounds o (vI v)=(s.set o v).cells:=by
 simp only[places,List.mem_cons,List.not_mem_nil,or_false] at h
 rcases h with rfl | rfl | rfl | rfl | rfl | rfl | rfl | rfl | rfl | rfl | rfl<;>kernel_rfl
theorem cells_at (s:WS)(v:Int):s.cells.setIfInBounds 1 (vI v)={ s with at':=v }.cells:=by kernel_rfl
def WS.get (s:WS)(o:Nat):Int :=
 if o=146 then s.globals else if o=149 then s.fP else if o=150 then s.fR else if o=151 then s.fV else if o=153 then s.len else if o=154 then s.op else if o=155 then s.r else if o=156 then s.s else if o=157 then s.t else if o=158 then s.n else s.count
theorem cells_get (s:WS)(o:Nat)(h:o∈places):s.cells[o]?=some (vI (s.get o)):=by
 simp only[places,List.mem_cons,List.not_mem_nil,or_false] at h
 rcases h with rfl | rfl | rfl | rfl | rfl | rfl | rfl | rfl | rfl | rfl | rfl<;>kernel_rfl
theorem set_num (s:WS)(o:Nat)(v:Int):(s.set o v).num=s.num:=by
 unfold WS.set;repeat' split
 all_goals rfl
def BytesOf (b:Nat)(w:World)(v:Value)(bs:List UInt8):Prop :=
 bs.length≤1000000000000000∧∃ a c,v = .slice a bs.length c∧bs.length≤c ∧
  (bs≠[]→∃ k o,a=some ⟨k,o,none⟩∧k<w.heap.size∧k≠b∧∀ i,(h:i<bs.length)→w.cell? ⟨k,o+i,none⟩=some (.int .u8 bs[i].toNat))
theorem BytesOf.plain {b:Nat}{w:World}{v:Value}{bs:List UInt8}(h:BytesOf b w v bs):BytesIn w v bs:=by
 obtain⟨h1,a,c,h2,h3,h4⟩:=h
 exact⟨h1,a,c,h2,h3,fun hne=>let ⟨k,o,e,hk,_,hc⟩:=h4 hne;⟨k,o,e,hk,hc⟩⟩
theorem BytesOf.fr {S:Nat→Prop}{b:Nat}{w w':World}{v:Value}{bs:List UInt8}(h:BytesOf b w v bs)(f:Fr S w w')(hS:∀ k,S k→k<w.heap.size→k=b):BytesOf b w' v bs:=by
 obtain⟨h1,a,c,h2,h3,h4⟩:=h
 refine⟨h1,a,c,h2,h3,fun hne=>?_⟩
 obtain⟨k,o,e,hk,hb,hc⟩:=h4 hne
 exact⟨k,o,e,Nat.lt_of_lt_of_le hk f.size,hb,fun i hi=>(f.cell hk (fun h=>hb (hS k h hk))).trans (hc i hi)⟩
abbrev X := Except (Int × Int)
def rd (bs:List UInt8)(p size:Nat):X Int:=if p+size≤bs.length then .ok (wrap64 (leAt bs p size)) else .error (11,bs.length)
def adv (p:Int)(size:Nat):Int:=IntKind.i64.wrap (p+size)
def szs : List Nat:=[0,8,0,0,0,0,1,1,1,1,1,2,0,2,2,0,0,0]
def Tab (w:World):Prop:=∀ op,op<18→w.cell? ⟨0,op,none⟩=some (vI (szs.getD op 0:Nat))
theorem Tab.fr {S:Nat→Prop}{w w':World}(h:Tab w)(f:Fr S w w')(h0:¬ S 0):Tab w':=fun op ho=>by
 have hlt:0<w.heap.size:=by
  have:=h 0 (by omega)
  unfold World.cell? at this
  by_cases hk:0<w.heap.size
  ·exact hk
  ·simp[Array.getElem?_eq_none (Nat.le_of_not_lt hk)] at this
 rw[f.cell hlt h0];exact h op ho
structure Mode (b:Nat) where
 σ:Type
 S:Nat→Prop
 N:Nat→Prop
 fn:Value
 I:σ→Int→World→Prop
 eff:σ→Int→Nat→Int→X (Int × σ)
 tab:∀ st p w,I st p w→Tab w
 stable:∀ st p w w',I st p w→Fr (·=b) w w'→I st p w'
def Mode.SB {b:Nat}(M:Mode b)(k:Nat):Prop:=k=b∨M.S k
def On {b:Nat}(M:Mode b)(w:World)(x:WS × M.σ):Prop:=Lies w b x.1∧x.1.num=M.fn∧M.I x.2 x.1.at' w
theorem On.fr {b:Nat}{M:Mode b}{w w':World}{x:WS × M.σ}{s':WS}(h:On M w x)(f:Fr (·=b) w w')(hl:Lies w' b s')(hn:s'.num=x.1.num)(ha:s'.at'=x.1.at'):On M w' (s',x.2) :=
 ⟨hl,hn.trans h.2.1,by rw[ha];exact M.stable _ _ _ _ h.2.2 f⟩
def Ends {b:Nat}(M:Mode b)(w:World)(r:X (WS × M.σ))(e:Ending)(w':World):Prop :=
 Fr M.SB w w'∧match r with
  | .ok y=>e = .returned (.tuple #[])∧On M w' y
  | .error x=>e = .panicked (viol x.1 x.2)
def nextX {b:Nat}(M:Mode b)(o size:Nat)(x:WS × M.σ):X (WS × M.σ) :=
 match M.eff x.2 x.1.at' size (x.1.get o) with
 | .ok (v,st)=>.ok ({ x.1.set o v with at':=adv x.1.at' size },st)
 | .error z=>.error z
def NextOwn {b:Nat}(M:Mode b):Prop:=∀ (o:Nat),o∈places→∀ (x:WS × M.σ) (size:Nat) (w:World),On M w x→1≤size→size≤8 →
 Calls Tryd.prog 90 #[.pointer (some ⟨b,0,none⟩),.pointer (some ⟨b,o,none⟩),.int .i64 size] w fun e w'=>Fr M.SB w w' ∧
  match nextX M o size x with
  | .ok y=>e = .returned (vI x.1.at')∧On M w' y
  | .error z=>e = .panicked (viol z.1 z.2)
def NextOther {b:Nat}(M:Mode b):Prop:=∀ (pb po:Nat),pb≠b→¬ M.S pb→¬ M.N pb→∀ (x:WS × M.σ) (old:Int) (size:Nat) (w:World),On M w x→1≤size→size≤8→w.cell? ⟨pb,po,none⟩=some (vI old)→w.frozen? ⟨pb,po,none⟩=false →
 Calls Tryd.prog 90 #[.pointer (some ⟨b,0,none⟩),.pointer (some ⟨pb,po,none⟩),.int .i64 size] w fun e w'=>Fr (fun k=>M.SB k∨k=pb) w w' ∧
  match M.eff x.2 x.1.at' size old with
  | .ok (v,st)=>e = .returned (vI x.1.at')∧On M w' ({ x.1 with at':=adv x.1.at' size },st)∧w'.heap[pb]?=(w.setCell ⟨pb,po,none⟩ (vI v)).heap[pb]?
  | .error z=>e = .panicked (viol z.1 z.2)
def NextAt {b:Nat}(M:Mode b)(rm:M.σ→Nat):Prop:=∀ (o:Nat),o∈places→∀ (x:WS × M.σ) (size:Nat) (w:World),1≤rm x.2→On M w x→1≤size→size≤8 →
 Calls Tryd.prog 90 #[.pointer (some ⟨b,0,none⟩),.pointer (some ⟨b,o,none⟩),.int .i64 size] w fun e w'=>Fr M.SB w w' ∧
  match nextX M o size x with
  | .ok y=>e = .returned (vI x.1.at')∧On M w' y
  | .error z=>e = .panicked (viol z.1 z.2)
theorem NextOwn.at {b:Nat}{M:Mode b}(h:NextOwn M)(rm:M.σ→Nat):NextAt M rm:=fun o ho x size w _ hon h1 h8=>h o ho x size w hon h1 h8
def RoomGoes {b:Nat}(M:Mode b)(rm:M.σ→Nat):Prop:=∀ o size x y,nextX M o size x = .ok y→rm x.2≤rm y.2+1
def reading (b:Nat)(rv:Value)(bs:List UInt8):Mode b where
 σ:=Unit
 S:=fun _=>False
 N:=fun k=>k=0∨∃ o n c,rv = .slice (some ⟨k,o,none⟩) n c
 fn:=readerFn rv
 I:=fun _ p w=>BytesOf b w rv bs∧0≤p∧p≤bs.length+6∧b≠0∧Tab w
 eff:=fun _ p size _=>match rd bs p.toNat size with | .ok v=>.ok (v,()) | .error z=>.error z
 tab:=fun _ _ _ h=>h.2.2.2.2
 stable:=fun _ _ _ _ h f=>⟨h.1.fr f (fun _ hk _=>hk),h.2.1,h.2.2.1,h.2.2.2.1,h.2.2.2.2.fr f (fun e=>h.2.2.2.1 e.symm)⟩
theorem wrap_small (x:Int)(h : -1000000000000000000≤x)(h':x≤1000000000000000000):IntKind.i64.wrap x=x:=by
 rw[IntKind.wrap_i64];omega
theorem cell_lt {w:World}{k o:Nat}{u:Value}(h:w.cell? ⟨k,o,none⟩=some u):k<w.heap.size:=by
 unfold World.cell? at h
 by_cases hk:k<w.heap.size
 ·exact hk
 ·simp[Array.getElem?_eq_none (Nat.le_of_not_lt hk)] at h
theorem reading_own (b:Nat)(rv:Value)(bs:List UInt8):NextOwn (reading b rv bs):=by
 intro o ho x size w hx hs1 hs8
 obtain⟨⟨s,st⟩,hl,hn,hR,hp0,hp1,hb0,hT⟩:∃ y:WS × Unit,Lies w b x.1∧x.1.num=readerFn rv∧BytesOf b w rv bs∧0≤x.1.at'∧x.1.at'≤bs.length+6∧b≠0∧Tab w:=⟨x,hx⟩
 clear s st
 obtain⟨s,st⟩:=x
 simp only at hl hn hp0 hp1
 obtain⟨p,hp⟩:=Int.eq_ofNat_of_zero_le hp0
 have h0:w.cell? ⟨b,0,none⟩=some (readerFn rv):=by rw[hl.facts.1,hn]
 have h1:w.cell? ⟨b,1,none⟩=some (.int .i64 p):=by rw[hl.facts.2.1,hp]
 have hlen:=hR.1
 have hu:w.cell? ⟨b,o,none⟩=some (vI (s.get o)):=by rw[hl.cell,cells_get s o ho]
 have hadv:adv s.at' size=((p:Int)+size):=by unfold adv;rw[hp,wrap_small _ (by omega) (by omega)]
 have het:s.at'.toNat=p:=by omega
 unfold nextX
 simp only[reading,rd,het]
 by_cases h:p+size≤bs.length
 ·have hne:¬ (b=b∧o=1):=by
   rintro⟨-,rfl⟩;simp[places] at ho
  refine(next_reads b b o rv _ bs p size w h0 h1 (hl.frozen 1) hu (hl.frozen o) hne hl.lt hl.lt hR.plain h hs1 hs8).mono ?_
  rintro e w' ⟨rfl,rfl⟩
  have hfr:Fr (fun k=>k=b) w (((w.setCell ⟨b,o,none⟩ (vI (wrap64 (leAt bs p size)))).setCell ⟨b,1,none⟩ (vI (p+size))).alloc (.cells #[rv] 45)) :=
   Fr.alloc (Fr.setCell (Fr.setCell (Fr.refl (fun k=>k=b) w) _ _ (Or.inl rfl)) _ _ (Or.inl rfl)) _
  refine⟨hfr.mono (fun k _ hk=>Or.inl hk),?_⟩
  simp only[if_pos h]
  refine⟨by rw[hp],?_,?_,?_⟩
  ·rw[hadv]
   exact Lies.alloc (Lies.setCell (hl.setCell o _ (cells_set s o _ ho)) 1 _ (cells_at _ _)) _
  ·simpa[set_num] using hn
  ·refine⟨hR.fr hfr (fun _ hk _=>hk),?_⟩
   simp only[hadv];exact⟨by omega,by omega,hb0,hT.fr hfr (fun e=>hb0 e.symm)⟩
 ·refine(next_short b b o rv bs p size w h0 h1 hR.plain h (by omega) hs8).mono ?_
  rintro e w' ⟨rfl,rfl⟩
  refine⟨(Fr.alloc (Fr.refl (fun k=>k=b) w) _).mono (fun k _ hk=>Or.inl hk),?_⟩
  simp only[if_neg h]
theorem reading_other (b:Nat)(rv:Value)(bs:List UInt8):NextOther (reading b rv bs):=by
 intro pb po hpb _ hN x old size w hx hs1 hs8 hu hfz
 have hpk:∀ a c,rv = .slice a bs.length c→∀ k o,a=some ⟨k,o,none⟩→bs≠[]→k≠pb:=by
  intro a c e k o e' _ hk
  subst hk
  exact hN (Or.inr ⟨o,bs.length,c,by rw[e,e']⟩)
 have hz:pb≠0:=fun h=>hN (Or.inl h)
 obtain⟨s,st⟩:=x
 obtain⟨hl,hn,hR,hp0,hp1,hb0,hT⟩:=hx
 simp only at hl hn hp0 hp1
 obtain⟨p,hp⟩:=Int.eq_ofNat_of_zero_le hp0
 have h0:w.cell? ⟨b,0,none⟩=some (readerFn rv):=by rw[hl.facts.1,hn];rfl
 have h1:w.cell? ⟨b,1,none⟩=some (.int .i64 p):=by rw[hl.facts.2.1,hp]
 have hlen:=hR.1
 have hadv:adv s.at' size=((p:Int)+size):=by unfold adv;rw[hp,wrap_small _ (by omega) (by omega)]
 have het:s.at'.toNat=p:=by omega
 simp only[reading,rd,het]
 by_cases h:p+size≤bs.length
 ·have hne:¬ (pb=b∧po=1):=fun h=>hpb h.1
  refine(next_reads b pb po rv _ bs p size w h0 h1 (hl.frozen 1) hu hfz hne hl.lt (cell_lt hu) hR.plain h hs1 hs8).mono ?_
  rintro e w' ⟨rfl,rfl⟩
  have hfr:Fr (fun k=>k=b∨k=pb) w (((w.setCell ⟨pb,po,none⟩ (vI (wrap64 (leAt bs p size)))).setCell ⟨b,1,none⟩ (vI (p+size))).alloc (.cells #[rv] 45)) :=
   Fr.alloc (Fr.setCell (Fr.setCell (Fr.refl (fun k=>k=b∨k=pb) w) _ _ (Or.inl (Or.inr rfl))) _ _ (Or.inl (Or.inl rfl))) _
  refine⟨hfr.mono (fun k _ hk=>hk.imp Or.inl id),?_⟩
  simp only[if_pos h]
  refine⟨by rw[hp],⟨?_,hn,?_⟩,?_⟩
  ·rw[hadv]
   exact Lies.alloc (Lies.setCell (hl.other _ _ (Ne.symm hpb)) 1 _ (cells_at _ _)) _
  ·refine⟨?_,?_⟩
   ·obtain⟨g1,a,c,g2,g3,g4⟩:=hR
    refine⟨g1,a,c,g2,g3,fun hne=>?_⟩
    obtain⟨k,o,e,hk,hb,hc⟩:=g4 hne
    have hkp:=hpk a c g2 k o e hne
    exact⟨k,o,e,Nat.lt_of_lt_of_le hk hfr.size,hb,fun i hi=>(hfr.cell hk (fun h=>h.elim hb hkp)).trans (hc i hi)⟩
   ·simp only[hadv];exact⟨by omega,by omega,hb0,hT.fr hfr (fun e=>e.elim (fun e=>hb0 e.symm) (fun e=>hz e.symm))⟩
  ·have h5:pb<w.heap.size:=cell_lt hu
   rw[RowKit.Below.heap_alloc _ _ _ (by simpa using h5),RowKit.Below.heap_setCell _ _ _ _ (show pb≠b from hpb)]
 ·refine(next_short b pb po rv bs p size w h0 h1 hR.plain h (by omega) hs8).mono ?_
  rintro e w' ⟨rfl,rfl⟩
  refine⟨Fr.alloc (Fr.refl _ w) _,?_⟩
  simp only[if_neg h]
set_option maxRecDepth 100000
set_option maxHeartbeats 1000000
theorem mixed : Tryd.prog.follows .mixedOrders=true:=by kernel_rfl
theorem numberN_at {b:Nat}(M:Mode b)(rm:M.σ→Nat)(hN:NextAt M rm)(x:WS × M.σ)(w:World)(h:On M w x)(hp:1≤rm x.2)(op size:Nat)(hop:x.1.op=op)(hlt:op<18)(hsz:szs.getD op 0=size)(hs1:1≤size)(hs8:size≤8) :
 Calls Tryd.prog 99 #[.pointer (some ⟨b,0,none⟩),.pointer (some ⟨b,158,none⟩)] w fun e w'=>Fr M.SB w w' ∧
 match nextX M 158 size x with
 | .ok y=>e = .returned (vI x.1.at')∧On M w' y
 | .error z=>e = .panicked (viol z.1 z.2):=by
 have hc:w.cell? ⟨b,154,none⟩=some (vI op):=by rw[h.1.cell,← hop];kernel_rfl
 have hT:w.cell? ⟨0,op,none⟩=some (vI (size:Nat)):=by rw[M.tab _ _ _ h.2.2 op hlt,hsz]
 have hlt':0≤(op:Int)∧(op:Int)<18:=by omega
 clear hsz
 cases hx:nextX M 158 size x with
 | error z =>
   go_enter Tryd.func99,Tryd.ntmps99
   go_wp2_with fail
   refine(hN 158 (by simp[places]) x size w hp h hs1 hs8).mono ?_
   rintro e w1 ⟨hf,hres⟩
   simp only[hx] at hres
   subst hres
   go_wp2_with fail
   exact⟨rfl,hf,rfl⟩
 | ok y =>
   go_enter Tryd.func99,Tryd.ntmps99
   go_wp2_with fail
   refine(hN 158 (by simp[places]) x size w hp h hs1 hs8).mono ?_
   rintro e w1 ⟨hf,hres⟩
   simp only[hx] at hres
   obtain⟨rfl,hon⟩:=hres
   go_wp2_with fail
   go_ret
   exact⟨hf,rfl,hon⟩
set_option maxRecDepth 100000
set_option maxHeartbeats 1000000
def askX {b:Nat}(M:Mode b)(o size:Nat)(c:WS→Bool)(er:Int)(x:WS × M.σ):X (WS × M.σ) :=
 match nextX M o size x with
 | .ok y=>if c y.1 then .ok y else .error (er,x.1.at')
 | .error z=>.error z
theorem nextX_num {b:Nat}{M:Mode b}{o size:Nat}{x y:WS × M.σ}(h:nextX M o size x = .ok y):∃ v st,y=({ x.1.set o v with at':=adv x.1.at' size },st):=by
 unfold nextX at h
 split at h
 ·rename_i v st _
  exact⟨v,st,(Except.ok.inj h).symm⟩
 ·cases h
theorem On.drew {b:Nat}{M:Mode b}{w:World}{x:WS × M.σ}(h:On M w x):On M w.drew x :=
 ⟨h.1,h.2.1,M.stable _ _ _ _ h.2.2 (Fr.refl _ _).drew⟩
theorem get_cell {w:World}{b o:Nat}{s:WS}(h:Lies w b s)(ho:o∈places):w.cell? ⟨b,o,none⟩=some (vI (s.get o)):=by rw[h.cell,cells_get s o ho]
theorem variable_at {b:Nat}(M:Mode b)(rm:M.σ→Nat)(hN:NextAt M rm)(x:WS × M.σ)(w:World)(h:On M w x)(hp:1≤rm x.2)(o:Nat)(hop:o∈places) :
 Calls Tryd.prog 80 #[.pointer (some ⟨b,0,none⟩),.pointer (some ⟨b,o,none⟩)] w (Ends M w (askX M o 1 (fun s=>decide (0≤s.get o∧s.get o≤IntKind.i64.wrap (s.fV-1))) 13 x)):=by
 cases hx:nextX M o 1 x with
 | error z =>
   simp only[askX,hx]
   go_enter Tryd.func80,Tryd.ntmps80
   go_wp2_with fail
   refine(hN o hop x 1 _ hp h (by omega) (by omega)).mono ?_
   rintro e w1 ⟨hf,hres⟩
   simp only[hx] at hres
   subst hres
   go_wp2_with fail
   exact⟨rfl,hf,rfl⟩
 | ok y =>
   by_cases hm:decide (0≤y.1.get o∧y.1.get o≤IntKind.i64.wrap (y.1.fV-1))=true
   ·have hm':decide (0≤y.1.get o∧y.1.get o≤IntKind.i64.wrap (y.1.fV-1))=true:=by simpa using hm
    simp only[askX,hx,hm',if_true,Bool.false_eq_true,if_false]
    go_enter Tryd.func80,Tryd.ntmps80
    go_wp2_with fail
    refine(hN o hop x 1 _ hp h (by omega) (by omega)).mono ?_
    rintro e w1 ⟨hf,hres⟩
    simp only[hx] at hres
    obtain⟨rfl,hon⟩:=hres
    have hc:=get_cell hon.1 hop
    have hcV:w1.cell? ⟨b,151,none⟩=some (vI y.1.fV):=hon.1.facts.2.2.2.2.2.2.2.1
    clear hx hm
    go_wp2_with fail
    refine wp_region_still_tail 11 mixed (by kernel_rfl) ?_
    simp only[List.take_succ_cons,List.take_zero,List.drop_succ_cons,List.drop_zero]
    repeat still_step
    still_call (within_any _ _ _ _)
    repeat still_step
    refine wpStill_nil ?_
    go_wp2_with fail
    refine(must_true 13 x.1.at' _).mono ?_
    rintro e w' ⟨rfl,rfl⟩
    go_wp2_with fail
    go_end0
    exact⟨hf.drew,rfl,hon.drew⟩
   ·have hm':decide (0≤y.1.get o∧y.1.get o≤IntKind.i64.wrap (y.1.fV-1))=false:=by simpa using hm
    simp only[askX,hx,hm',if_true,Bool.false_eq_true,if_false]
    go_enter Tryd.func80,Tryd.ntmps80
    go_wp2_with fail
    refine(hN o hop x 1 _ hp h (by omega) (by omega)).mono ?_
    rintro e w1 ⟨hf,hres⟩
    simp only[hx] at hres
    obtain⟨rfl,hon⟩:=hres
    have hc:=get_cell hon.1 hop
    have hcV:w1.cell? ⟨b,151,none⟩=some (vI y.1.fV):=hon.1.facts.2.2.2.2.2.2.2.1
    clear hx hm
    go_wp2_with fail
    refine wp_region_still_tail 11 mixed (by kernel_rfl) ?_
    simp only[List.take_succ_cons,List.take_zero,List.drop_succ_cons,List.drop_zero]
    repeat still_step
    still_call (within_any _ _ _ _)
    repeat still_step
    refine wpStill_nil ?_
    go_wp2_with fail
    refine(must_false 13 x.1.at' _).mono ?_
    rintro e w' ⟨rfl,rfl⟩
    go_wp2_with fail
    exact⟨rfl,hf.drew,rfl⟩
theorem variable_own {b:Nat}(M:Mode b)(hN:NextOwn M)(x:WS × M.σ)(w:World)(h:On M w x)(o:Nat)(hop:o∈places) :
 Calls Tryd.prog 80 #[.pointer (some ⟨b,0,none⟩),.pointer (some ⟨b,o,none⟩)] w (Ends M w (askX M o 1 (fun s=>decide (0≤s.get o∧s.get o≤IntKind.i64.wrap (s.fV-1))) 13 x)) :=
 variable_at M (fun _=>1000000) (hN.at _) x w h (show 1≤1000000 by omega) o hop
theorem fields_at {b:Nat}(M:Mode b)(rm:M.σ→Nat)(hN:NextAt M rm)(x:WS × M.σ)(w:World)(h:On M w x)(hp:1≤rm x.2)(op size:Nat)(hop:x.1.op=op)(hlt:op<18)(hsz:szs.getD op 0=size)(hs1:1≤size)(hs8:size≤8) :
 Calls Tryd.prog 82 #[.pointer (some ⟨b,0,none⟩),.pointer (some ⟨b,158,none⟩)] w (Ends M w (askX M 158 size (fun s=>decide (1≤s.n∧s.n≤8)) 17 x)):=by
 cases hx:nextX M 158 size x with
 | error z =>
   simp only[askX,hx]
   go_enter Tryd.func82,Tryd.ntmps82
   go_wp2_with fail
   refine(numberN_at M rm hN x _ h hp op size hop hlt hsz hs1 hs8).mono ?_
   rintro e w1 ⟨hf,hres⟩
   simp only[hx] at hres
   subst hres
   go_wp2_with fail
   exact⟨rfl,hf,rfl⟩
 | ok y =>
   by_cases hm:decide (1≤y.1.n∧y.1.n≤8)=true
   ·have hm':decide (1≤y.1.n∧y.1.n≤8)=true:=by simpa using hm
    simp only[askX,hx,hm',if_true,Bool.false_eq_true,if_false]
    go_enter Tryd.func82,Tryd.ntmps82
    go_wp2_with fail
    refine(numberN_at M rm hN x _ h hp op size hop hlt hsz hs1 hs8).mono ?_
    rintro e w1 ⟨hf,hres⟩
    simp only[hx] at hres
    obtain⟨rfl,hon⟩:=hres
    have hc:w1.cell? ⟨b,158,none⟩=some (vI y.1.n):=hon.1.facts.2.2.2.2.2.2.2.2.2.2.2.2.2.2.1
    clear hx hm
    go_wp2_with fail
    refine(within_any _ _ _ _).mono ?_
    rintro e w' ⟨rfl,rfl⟩
    rw[hm']
    go_wp2_with fail
    refine(must_true 17 x.1.at' _).mono ?_
    rintro e w' ⟨rfl,rfl⟩
    go_wp2_with fail
    go_end0
    exact⟨hf,rfl,hon⟩
   ·have hm':decide (1≤y.1.n∧y.1.n≤8)=false:=by simpa using hm
    simp only[askX,hx,hm',if_true,Bool.false_eq_true,if_false]
    go_enter Tryd.func82,Tryd.ntmps82
    go_wp2_with fail
    refine(numberN_at M rm hN x _ h hp op size hop hlt hsz hs1 hs8).mono ?_
    rintro e w1 ⟨hf,hres⟩
    simp only[hx] at hres
    obtain⟨rfl,hon⟩:=hres
    have hc:w1.cell? ⟨b,158,none⟩=some (vI y.1.n):=hon.1.facts.2.2.2.2.2.2.2.2.2.2.2.2.2.2.1
    clear hx hm
    go_wp2_with fail
    refine(within_any _ _ _ _).mono ?_
    rintro e w' ⟨rfl,rfl⟩
    rw[hm']
    go_wp2_with fail
    refine(must_false 17 x.1.at' _).mono ?_
    rintro e w' ⟨rfl,rfl⟩
    go_wp2_with fail
    exact⟨rfl,hf,rfl⟩
theorem fields_own {b:Nat}(M:Mode b)(hN:NextOwn M)(x:WS × M.σ)(w:World)(h:On M w x)(op size:Nat)(hop:x.1.op=op)(hlt:op<18)(hsz:szs.getD op 0=size)(hs1:1≤size)(hs8:size≤8) :
 Calls Tryd.prog 82 #[.pointer (some ⟨b,0,none⟩),.pointer (some ⟨b,158,none⟩)] w (Ends M w (askX M 158 size (fun s=>decide (1≤s.n∧s.n≤8)) 17 x)) :=
 fields_at M (fun _=>1000000) (hN.at _) x w h (show 1≤1000000 by omega) op size hop hlt hsz hs1 hs8
theorem field_at {b:Nat}(M:Mode b)(rm:M.σ→Nat)(hN:NextAt M rm)(x:WS × M.σ)(w:World)(h:On M w x)(hp:1≤rm x.2)(op size:Nat)(hop:x.1.op=op)(hlt:op<18)(hsz:szs.getD op 0=size)(hs1:1≤size)(hs8:size≤8) :
 Calls Tryd.prog 83 #[.pointer (some ⟨b,0,none⟩),.pointer (some ⟨b,158,none⟩)] w (Ends M w (askX M 158 size (fun s=>decide (0≤s.n∧s.n≤7)) 17 x)):=by
 cases hx:nextX M 158 size x with
 | error z =>
   simp only[askX,hx]
   go_enter Tryd.func83,Tryd.ntmps83
   go_wp2_with fail
   refine(numberN_at M rm hN x _ h hp op size hop hlt hsz hs1 hs8).mono ?_
   rintro e w1 ⟨hf,hres⟩
   simp only[hx] at hres
   subst hres
   go_wp2_with fail
   exact⟨rfl,hf,rfl⟩
 | ok y =>
   by_cases hm:decide (0≤y.1.n∧y.1.n≤7)=true
   ·have hm':decide (0≤y.1.n∧y.1.n≤7)=true:=by simpa using hm
    simp only[askX,hx,hm',if_true,Bool.false_eq_true,if_false]
    go_enter Tryd.func83,Tryd.ntmps83
    go_wp2_with fail
    refine(numberN_at M rm hN x _ h hp op size hop hlt hsz hs1 hs8).mono ?_
    rintro e w1 ⟨hf,hres⟩
    simp only[hx] at hres
    obtain⟨rfl,hon⟩:=hres
    have hc:w1.cell? ⟨b,158,none⟩=some (vI y.1.n):=hon.1.facts.2.2.2.2.2.2.2.2.2.2.2.2.2.2.1
    clear hx hm
    go_wp2_with fail
    refine(within_any _ _ _ _).mono ?_
    rintro e w' ⟨rfl,rfl⟩
    rw[hm']
    go_wp2_with fail
    refine(must_true 17 x.1.at' _).mono ?_
    rintro e w' ⟨rfl,rfl⟩
    go_wp2_with fail
    go_end0
    exact⟨hf,rfl,hon⟩
   ·have hm':decide (0≤y.1.n∧y.1.n≤7)=false:=by simpa using hm
    simp only[askX,hx,hm',if_true,Bool.false_eq_true,if_false]
    go_enter Tryd.func83,Tryd.ntmps83
    go_wp2_with fail
    refine(numberN_at M rm hN x _ h hp op size hop hlt hsz hs1 hs8).mono ?_
    rintro e w1 ⟨hf,hres⟩
    simp only[hx] at hres
    obtain⟨rfl,hon⟩:=hres
    have hc:w1.cell? ⟨b,158,none⟩=some (vI y.1.n):=hon.1.facts.2.2.2.2.2.2.2.2.2.2.2.2.2.2.1
    clear hx hm
    go_wp2_with fail
    refine(within_any _ _ _ _).mono ?_
    rintro e w' ⟨rfl,rfl⟩
    rw[hm']
    go_wp2_with fail
    refine(must_false 17 x.1.at' _).mono ?_
    rintro e w' ⟨rfl,rfl⟩
    go_wp2_with fail
    exact⟨rfl,hf,rfl⟩
theorem global_at {b:Nat}(M:Mode b)(rm:M.σ→Nat)(hN:NextAt M rm)(x:WS × M.σ)(w:World)(h:On M w x)(hp:1≤rm x.2)(op size:Nat)(hop:x.1.op=op)(hlt:op<18)(hsz:szs.getD op 0=size)(hs1:1≤size)(hs8:size≤8) :
 Calls Tryd.prog 84 #[.pointer (some ⟨b,0,none⟩),.pointer (some ⟨b,158,none⟩)] w (Ends M w (askX M 158 size (fun s=>decide (0≤s.n∧s.n≤IntKind.i64.wrap (s.globals-1))) 18 x)):=by
 cases hx:nextX M 158 size x with
 | error z =>
   simp only[askX,hx]
   go_enter Tryd.func84,Tryd.ntmps84
   go_wp2_with fail
   refine(numberN_at M rm hN x _ h hp op size hop hlt hsz hs1 hs8).mono ?_
   rintro e w1 ⟨hf,hres⟩
   simp only[hx] at hres
   subst hres
   go_wp2_with fail
   exact⟨rfl,hf,rfl⟩
 | ok y =>
   by_cases hm:decide (0≤y.1.n∧y.1.n≤IntKind.i64.wrap (y.1.globals-1))=true
   ·have hm':decide (0≤y.1.n∧y.1.n≤IntKind.i64.wrap (y.1.globals-1))=true:=by simpa using hm
    simp only[askX,hx,hm',if_true,Bool.false_eq_true,if_false]
    go_enter Tryd.func84,Tryd.ntmps84
    go_wp2_with fail
    refine(numberN_at M rm hN x _ h hp op size hop hlt hsz hs1 hs8).mono ?_
    rintro e w1 ⟨hf,hres⟩
    simp only[hx] at hres
    obtain⟨rfl,hon⟩:=hres
    have hc:w1.cell? ⟨b,158,none⟩=some (vI y.1.n):=hon.1.facts.2.2.2.2.2.2.2.2.2.2.2.2.2.2.1
    have hcV:w1.cell? ⟨b,146,none⟩=some (vI y.1.globals):=hon.1.facts.2.2.1
    clear hx hm
    go_wp2_with fail
    refine wp_region_still_tail 10 mixed (by kernel_rfl) ?_
    simp only[List.take_succ_cons,List.take_zero,List.drop_succ_cons,List.drop_zero]
    repeat still_step
    still_call (within_any _ _ _ _)
    repeat still_step
    refine wpStill_nil ?_
    go_wp2_with fail
    refine(must_true 18 x.1.at' _).mono ?_
    rintro e w' ⟨rfl,rfl⟩
    go_wp2_with fail
    go_end0
    exact⟨hf.drew,rfl,hon.drew⟩
   ·have hm':decide (0≤y.1.n∧y.1.n≤IntKind.i64.wrap (y.1.globals-1))=false:=by simpa using hm
    simp only[askX,hx,hm',if_true,Bool.false_eq_true,if_false]
    go_enter Tryd.func84,Tryd.ntmps84
    go_wp2_with fail
    refine(numberN_at M rm hN x _ h hp op size hop hlt hsz hs1 hs8).mono ?_
    rintro e w1 ⟨hf,hres⟩
    simp only[hx] at hres
    obtain⟨rfl,hon⟩:=hres
    have hc:w1.cell? ⟨b,158,none⟩=some (vI y.1.n):=hon.1.facts.2.2.2.2.2.2.2.2.2.2.2.2.2.2.1
    have hcV:w1.cell? ⟨b,146,none⟩=some (vI y.1.globals):=hon.1.facts.2.2.1
    clear hx hm
    go_wp2_with fail
    refine wp_region_still_tail 10 mixed (by kernel_rfl) ?_
    simp only[List.take_succ_cons,List.take_zero,List.drop_succ_cons,List.drop_zero]
    repeat still_step
    still_call (within_any _ _ _ _)
    repeat still_step
    refine wpStill_nil ?_
    go_wp2_with fail
    refine(must_false 18 x.1.at' _).mono ?_
    rintro e w' ⟨rfl,rfl⟩
    go_wp2_with fail
    exact⟨rfl,hf.drew,rfl⟩
theorem target_at {b:Nat}(M:Mode b)(rm:M.σ→Nat)(hN:NextAt M rm)(x:WS × M.σ)(w:World)(h:On M w x)(hp:1≤rm x.2)(op size:Nat)(hop:x.1.op=op)(hlt:op<18)(hsz:szs.getD op 0=size)(hs1:1≤size)(hs8:size≤8) :
 Calls Tryd.prog 88 #[.pointer (some ⟨b,0,none⟩),.pointer (some ⟨b,158,none⟩)] w (Ends M w (askX M 158 size (fun s=>decide (0≤s.n∧s.n≤IntKind.i64.wrap (s.len-1))) 16 x)):=by
 cases hx:nextX M 158 size x with
 | error z =>
   simp only[askX,hx]
   go_enter Tryd.func88,Tryd.ntmps88
   go_wp2_with fail
   refine(numberN_at M rm hN x _ h hp op size hop hlt hsz hs1 hs8).mono ?_
   rintro e w1 ⟨hf,hres⟩
   simp only[hx] at hres
   subst hres
   go_wp2_with fail
   exact⟨rfl,hf,rfl⟩
 | ok y =>
   by_cases hm:decide (0≤y.1.n∧y.1.n≤IntKind.i64.wrap (y.1.len-1))=true
   ·have hm':decide (0≤y.1.n∧y.1.n≤IntKind.i64.wrap (y.1.len-1))=true:=by simpa using hm
    simp only[askX,hx,hm',if_true,Bool.false_eq_true,if_false]
    go_enter Tryd.func88,Tryd.ntmps88
    go_wp2_with fail
    refine(numberN_at M rm hN x _ h hp op size hop hlt hsz hs1 hs8).mono ?_
    rintro e w1 ⟨hf,hres⟩
    simp only[hx] at hres
    obtain⟨rfl,hon⟩:=hres
    have hc:w1.cell? ⟨b,158,none⟩=some (vI y.1.n):=hon.1.facts.2.2.2.2.2.2.2.2.2.2.2.2.2.2.1
    have hcV:w1.cell? ⟨b,153,none⟩=some (vI y.1.len):=hon.1.facts.2.2.2.2.2.2.2.2.2.1
    clear hx hm
    go_wp2_with fail
    refine wp_region_still_tail 10 mixed (by kernel_rfl) ?_
    simp only[List.take_succ_cons,List.take_zero,List.drop_succ_cons,List.drop_zero]
    repeat still_step
    still_call (within_any _ _ _ _)
    repeat still_step
    refine wpStill_nil ?_
    go_wp2_with fail
    refine(must_true 16 x.1.at' _).mono ?_
    rintro e w' ⟨rfl,rfl⟩
    go_wp2_with fail
    go_end0
    exact⟨hf.drew,rfl,hon.drew⟩
   ·have hm':decide (0≤y.1.n∧y.1.n≤IntKind.i64.wrap (y.1.len-1))=false:=by simpa using hm
    simp only[askX,hx,hm',if_true,Bool.false_eq_true,if_false]
    go_enter Tryd.func88,Tryd.ntmps88
    go_wp2_with fail
    refine(numberN_at M rm hN x _ h hp op size hop hlt hsz hs1 hs8).mono ?_
    rintro e w1 ⟨hf,hres⟩
    simp only[hx] at hres
    obtain⟨rfl,hon⟩:=hres
    have hc:w1.cell? ⟨b,158,none⟩=some (vI y.1.n):=hon.1.facts.2.2.2.2.2.2.2.2.2.2.2.2.2.2.1
    have hcV:w1.cell? ⟨b,153,none⟩=some (vI y.1.len):=hon.1.facts.2.2.2.2.2.2.2.2.2.1
    clear hx hm
    go_wp2_with fail
    refine wp_region_still_tail 10 mixed (by kernel_rfl) ?_
    simp only[List.take_succ_cons,List.take_zero,List.drop_succ_cons,List.drop_zero]
    repeat still_step
    still_call (within_any _ _ _ _)
    repeat still_step
    refine wpStill_nil ?_
    go_wp2_with fail
    refine(must_false 16 x.1.at' _).mono ?_
    rintro e w' ⟨rfl,rfl⟩
    go_wp2_with fail
    exact⟨rfl,hf.drew,rfl⟩
theorem callee_at {b:Nat}(M:Mode b)(rm:M.σ→Nat)(hN:NextAt M rm)(x:WS × M.σ)(w:World)(h:On M w x)(hp:1≤rm x.2)(op size:Nat)(hop:x.1.op=op)(hlt:op<18)(hsz:szs.getD op 0=size)(hs1:1≤size)(hs8:size≤8)(fa:Option Addr)(nf fc:Nat)(hfu:x.1.funcs = .slice fa nf fc) :
 Calls Tryd.prog 85 #[.pointer (some ⟨b,0,none⟩),.pointer (some ⟨b,158,none⟩)] w (Ends M w (askX M 158 size (fun s=>decide (0≤s.n∧s.n≤IntKind.i64.wrap ((nf:Int)-1))) 14 x)):=by
 cases hx:nextX M 158 size x with
 | error z =>
   simp only[askX,hx]
   go_enter Tryd.func85,Tryd.ntmps85
   go_wp2_with fail
   refine(numberN_at M rm hN x _ h hp op size hop hlt hsz hs1 hs8).mono ?_
   rintro e w1 ⟨hf,hres⟩
   simp only[hx] at hres
   subst hres
   go_wp2_with fail
   exact⟨rfl,hf,rfl⟩
 | ok y =>
   have hfy:y.1.funcs = .slice fa nf fc:=by obtain⟨v,st,rfl⟩:=nextX_num hx;exact hfu
   by_cases hm:decide (0≤y.1.n∧y.1.n≤IntKind.i64.wrap ((nf:Int)-1))=true
   ·have hm':decide (0≤y.1.n∧y.1.n≤IntKind.i64.wrap ((nf:Int)-1))=true:=by simpa using hm
    simp only[askX,hx,hm',if_true,Bool.false_eq_true,if_false]
    go_enter Tryd.func85,Tryd.ntmps85
    go_wp2_with fail
    refine(numberN_at M rm hN x _ h hp op size hop hlt hsz hs1 hs8).mono ?_
    rintro e w1 ⟨hf,hres⟩
    simp only[hx] at hres
    obtain⟨rfl,hon⟩:=hres
    have hc:w1.cell? ⟨b,158,none⟩=some (vI y.1.n):=hon.1.facts.2.2.2.2.2.2.2.2.2.2.2.2.2.2.1
    have hcV:w1.cell? ⟨b,147,none⟩=some (.slice fa nf fc):=by
     rw[hon.1.facts.2.2.2.1,hfy]
    clear hx hm
    go_wp2_with fail
    refine wp_region_still_tail 11 mixed (by kernel_rfl) ?_
    simp only[List.take_succ_cons,List.take_zero,List.drop_succ_cons,List.drop_zero]
    repeat still_step
    still_call (within_any _ _ _ _)
    repeat still_step
    refine wpStill_nil ?_
    go_wp2_with fail
    refine(must_true 14 x.1.at' _).mono ?_
    rintro e w' ⟨rfl,rfl⟩
    go_wp2_with fail
    go_end0
    exact⟨hf.drew,rfl,hon.drew⟩
   ·have hm':decide (0≤y.1.n∧y.1.n≤IntKind.i64.wrap ((nf:Int)-1))=false:=by simpa using hm
    simp only[askX,hx,hm',if_true,Bool.false_eq_true,if_false]
    go_enter Tryd.func85,Tryd.ntmps85
    go_wp2_with fail
    refine(numberN_at M rm hN x _ h hp op size hop hlt hsz hs1 hs8).mono ?_
    rintro e w1 ⟨hf,hres⟩
    simp only[hx] at hres
    obtain⟨rfl,hon⟩:=hres
    have hc:w1.cell? ⟨b,158,none⟩=some (vI y.1.n):=hon.1.facts.2.2.2.2.2.2.2.2.2.2.2.2.2.2.1
    have hcV:w1.cell? ⟨b,147,none⟩=some (.slice fa nf fc):=by
     rw[hon.1.facts.2.2.2.1,hfy]
    clear hx hm
    go_wp2_with fail
    refine wp_region_still_tail 11 mixed (by kernel_rfl) ?_
    simp only[List.take_succ_cons,List.take_zero,List.drop_succ_cons,List.drop_zero]
    repeat still_step
    still_call (within_any _ _ _ _)
    repeat still_step
    refine wpStill_nil ?_
    go_wp2_with fail
    refine(must_false 14 x.1.at' _).mono ?_
    rintro e w' ⟨rfl,rfl⟩
    go_wp2_with fail
    exact⟨rfl,hf.drew,rfl⟩
theorem callee_own {b:Nat}(M:Mode b)(hN:NextOwn M)(x:WS × M.σ)(w:World)(h:On M w x)(op size:Nat)(hop:x.1.op=op)(hlt:op<18)(hsz:szs.getD op 0=size)(hs1:1≤size)(hs8:size≤8)(fa:Option Addr)(nf fc:Nat)(hfu:x.1.funcs = .slice fa nf fc) :
 Calls Tryd.prog 85 #[.pointer (some ⟨b,0,none⟩),.pointer (some ⟨b,158,none⟩)] w (Ends M w (askX M 158 size (fun s=>decide (0≤s.n∧s.n≤IntKind.i64.wrap ((nf:Int)-1))) 14 x)) :=
 callee_at M (fun _=>1000000) (hN.at _) x w h (show 1≤1000000 by omega) op size hop hlt hsz hs1 hs8 fa nf fc hfu
theorem askGlobals_at {b:Nat}(M:Mode b)(rm:M.σ→Nat)(hN:NextAt M rm)(x:WS × M.σ)(w:World)(h:On M w x)(hp:1≤rm x.2) :
 Calls Tryd.prog 61 #[.pointer (some ⟨b,0,none⟩)] w (Ends M w (askX M 146 1 (fun s=>decide (0≤s.globals∧s.globals≤16)) 18 x)):=by
 cases hx:nextX M 146 1 x with
 | error z =>
   simp only[askX,hx]
   go_enter Tryd.func61,Tryd.ntmps61
   go_wp2_with fail
   refine(hN 146 (by simp[places]) x 1 _ hp h (by omega) (by omega)).mono ?_
   rintro e w1 ⟨hf,hres⟩
   simp only[hx] at hres
   subst hres
   go_wp2_with fail
   exact⟨rfl,hf,rfl⟩
 | ok y =>
   by_cases hm:decide (0≤y.1.globals∧y.1.globals≤16)=true
   ·have hm':decide (0≤y.1.globals∧y.1.globals≤16)=true:=by simpa using hm
    simp only[askX,hx,hm',if_true,Bool.false_eq_true,if_false]
    go_enter Tryd.func61,Tryd.ntmps61
    go_wp2_with fail
    refine(hN 146 (by simp[places]) x 1 _ hp h (by omega) (by omega)).mono ?_
    rintro e w1 ⟨hf,hres⟩
    simp only[hx] at hres
    obtain⟨rfl,hon⟩:=hres
    have hc:w1.cell? ⟨b,146,none⟩=some (vI y.1.globals):=hon.1.facts.2.2.1
    clear hx hm
    go_wp2_with fail
    refine(within_any _ _ _ _).mono ?_
    rintro e w' ⟨rfl,rfl⟩
    rw[hm']
    go_wp2_with fail
    refine(must_true 18 x.1.at' _).mono ?_
    rintro e w' ⟨rfl,rfl⟩
    go_wp2_with fail
    go_end0
    exact⟨hf,rfl,hon⟩
   ·have hm':decide (0≤y.1.globals∧y.1.globals≤16)=false:=by simpa using hm
    simp only[askX,hx,hm',if_true,Bool.false_eq_true,if_false]
    go_enter Tryd.func61,Tryd.ntmps61
    go_wp2_with fail
    refine(hN 146 (by simp[places]) x 1 _ hp h (by omega) (by omega)).mono ?_
    rintro e w1 ⟨hf,hres⟩
    simp only[hx] at hres
    obtain⟨rfl,hon⟩:=hres
    have hc:w1.cell? ⟨b,146,none⟩=some (vI y.1.globals):=hon.1.facts.2.2.1
    clear hx hm
    go_wp2_with fail
    refine(within_any _ _ _ _).mono ?_
    rintro e w' ⟨rfl,rfl⟩
    rw[hm']
    go_wp2_with fail
    refine(must_false 18 x.1.at' _).mono ?_
    rintro e w' ⟨rfl,rfl⟩
    go_wp2_with fail
    exact⟨rfl,hf,rfl⟩
theorem askGlobals_any {b:Nat}(M:Mode b)(hN:NextOwn M)(x:WS × M.σ)(w:World)(h:On M w x) :
 Calls Tryd.prog 61 #[.pointer (some ⟨b,0,none⟩)] w (Ends M w (askX M 146 1 (fun s=>decide (0≤s.globals∧s.globals≤16)) 18 x)) :=
 askGlobals_at M (fun _=>1000000) (hN.at _) x w h (show 1≤1000000 by omega)
theorem askFunctions_at {b:Nat}(M:Mode b)(rm:M.σ→Nat)(hN:NextAt M rm)(x:WS × M.σ)(w:World)(h:On M w x)(hp:1≤rm x.2) :
 Calls Tryd.prog 62 #[.pointer (some ⟨b,0,none⟩)] w (Ends M w (askX M 161 2 (fun s=>decide (1≤s.count∧s.count≤65535)) 20 x)):=by
 cases hx:nextX M 161 2 x with
 | error z =>
   simp only[askX,hx]
   go_enter Tryd.func62,Tryd.ntmps62
   go_wp2_with fail
   refine(hN 161 (by simp[places]) x 2 _ hp h (by omega) (by omega)).mono ?_
   rintro e w1 ⟨hf,hres⟩
   simp only[hx] at hres
   subst hres
   go_wp2_with fail
   exact⟨rfl,hf,rfl⟩
 | ok y =>
   by_cases hm:decide (1≤y.1.count∧y.1.count≤65535)=true
   ·have hm':decide (1≤y.1.count∧y.1.count≤65535)=true:=by simpa using hm
    simp only[askX,hx,hm',if_true,Bool.false_eq_true,if_false]
    go_enter Tryd.func62,Tryd.ntmps62
    go_wp2_with fail
    refine(hN 161 (by simp[places]) x 2 _ hp h (by omega) (by omega)).mono ?_
    rintro e w1 ⟨hf,hres⟩
    simp only[hx] at hres
    obtain⟨rfl,hon⟩:=hres
    have hc:w1.cell? ⟨b,161,none⟩=some (vI y.1.count):=hon.1.facts.2.2.2.2.2.2.2.2.2.2.2.2.2.2.2.2.2
    clear hx hm
    go_wp2_with fail
    refine(within_any _ _ _ _).mono ?_
    rintro e w' ⟨rfl,rfl⟩
    rw[hm']
    go_wp2_with fail
    refine(must_true 20 x.1.at' _).mono ?_
    rintro e w' ⟨rfl,rfl⟩
    go_wp2_with fail
    go_end0
    exact⟨hf,rfl,hon⟩
   ·have hm':decide (1≤y.1.count∧y.1.count≤65535)=false:=by simpa using hm
    simp only[askX,hx,hm',if_true,Bool.false_eq_true,if_false]
    go_enter Tryd.func62,Tryd.ntmps62
    go_wp2_with fail
    refine(hN 161 (by simp[places]) x 2 _ hp h (by omega) (by omega)).mono ?_
    rintro e w1 ⟨hf,hres⟩
    simp only[hx] at hres
    obtain⟨rfl,hon⟩:=hres
    have hc:w1.cell? ⟨b,161,none⟩=some (vI y.1.count):=hon.1.facts.2.2.2.2.2.2.2.2.2.2.2.2.2.2.2.2.2
    clear hx hm
    go_wp2_with fail
    refine(within_any _ _ _ _).mono ?_
    rintro e w' ⟨rfl,rfl⟩
    rw[hm']
    go_wp2_with fail
    refine(must_false 20 x.1.at' _).mono ?_
    rintro e w' ⟨rfl,rfl⟩
    go_wp2_with fail
    exact⟨rfl,hf,rfl⟩
theorem askFunctions_any {b:Nat}(M:Mode b)(hN:NextOwn M)(x:WS × M.σ)(w:World)(h:On M w x) :
 Calls Tryd.prog 62 #[.pointer (some ⟨b,0,none⟩)] w (Ends M w (askX M 161 2 (fun s=>decide (1≤s.count∧s.count≤65535)) 20 x)) :=
 askFunctions_at M (fun _=>1000000) (hN.at _) x w h (show 1≤1000000 by omega)
set_option maxRecDepth 100000
set_option maxHeartbeats 1000000
theorem anyNumber_at {b:Nat}(M:Mode b)(rm:M.σ→Nat)(hN:NextAt M rm)(x:WS × M.σ)(w:World)(h:On M w x)(hp:1≤rm x.2)(op size:Nat)(hop:x.1.op=op)(hlt:op<18)(hsz:szs.getD op 0=size)(hs1:1≤size)(hs8:size≤8) :
 Calls Tryd.prog 81 #[.pointer (some ⟨b,0,none⟩),.pointer (some ⟨b,158,none⟩)] w (Ends M w (nextX M 158 size x)):=by
 go_enter Tryd.func81,Tryd.ntmps81
 go_wp2_with fail
 refine(numberN_at M rm hN x _ h hp op size hop hlt hsz hs1 hs8).mono ?_
 rintro e w1 ⟨hf,hres⟩
 cases hx:nextX M 158 size x with
 | error z =>
   simp only[hx] at hres
   subst hres
   go_wp2_with fail
   refine⟨rfl,hf,?_⟩
   simp only[hx]
 | ok y =>
   simp only[hx] at hres
   obtain⟨rfl,hon⟩:=hres
   go_wp2_with fail
   go_end0
   refine⟨hf,?_⟩
   simp only[hx]
   exact⟨trivial,hon⟩
def locX {b:Nat}(M:Mode b)(n p:Int)(x:WS × M.σ):X (WS × M.σ) :=
 if wrap64 (x.1.locs+n)≤1048576 then .ok ({ x.1 with locs:=wrap64 (x.1.locs+n) },x.2) else .error (21,p)
theorem cells_locs (s:WS)(v:Int):s.cells.setIfInBounds 148 (vI v)={ s with locs:=v }.cells:=by kernel_rfl
theorem locate_any {b:Nat}(M:Mode b)(n p:Int)(x:WS × M.σ)(w:World)(h:On M w x) :
 Calls Tryd.prog 92 #[.pointer (some ⟨b,0,none⟩),vI n,vI p] w (Ends M w (locX M n p x)):=by
 have hc:w.cell? ⟨b,148,none⟩=some (vI x.1.locs):=h.1.facts.2.2.2.2.1
 have hz:=h.1.frozen 148
 have hl':∀ v,Lies (w.setCell ⟨b,148,none⟩ (vI v)) b { x.1 with locs:=v }:=fun v=>h.1.setCell 148 _ (cells_locs _ _)
 have hfr:∀ v,Fr (·=b) w (w.setCell ⟨b,148,none⟩ (vI v)):=fun v=>Fr.setCell (Fr.refl (fun k=>k=b) w) _ _ (Or.inl rfl)
 by_cases hm:wrap64 (x.1.locs+n)≤1048576
 ·have hm':decide (wrap64 (x.1.locs+n)≤1048576)=true:=by simpa using hm
  go_enter Tryd.func92,Tryd.ntmps92
  go_wp2_with fail
  refine(must_true 21 p _).mono ?_
  rintro e w' ⟨rfl,rfl⟩
  go_wp2_with fail
  go_end0
  refine⟨(hfr _).mono (fun k _ hk=>Or.inl hk),?_⟩
  simp only[locX,if_pos hm]
  exact⟨trivial,h.fr (hfr _) (hl' _) rfl rfl⟩
 ·have hm':decide (wrap64 (x.1.locs+n)≤1048576)=false:=by simpa using hm
  go_enter Tryd.func92,Tryd.ntmps92
  go_wp2_with fail
  refine(must_false 21 p _).mono ?_
  rintro e w' ⟨rfl,rfl⟩
  go_wp2_with fail
  refine⟨rfl,(hfr _).mono (fun k _ hk=>Or.inl hk),?_⟩
  simp only[locX,if_neg (Int.not_le.2 hm)]
set_option maxRecDepth 100000
set_option maxHeartbeats 2000000
def headOk (s:WS)(p:Int):X Unit :=
 if ¬ (0≤s.fV∧s.fV≤255) then .error (20,p)
 else if ¬ (0≤s.fP∧s.fP≤(if s.fV<8 then s.fV else 8)) then .error (20,p)
 else if ¬ (0≤s.fR∧s.fR≤4) then .error (20,p)
 else if ¬ s.len≤4096 then .error (20,p)
 else if ¬ 0<s.len then .error (19,p)
 else .ok ()
def headX {b:Nat}(M:Mode b)(x:WS × M.σ):X (WS × M.σ):=do
 let y1 ← nextX M 149 1 x
 let y2 ← nextX M 150 1 y1
 let y3 ← nextX M 151 1 y2
 let y4 ← nextX M 153 2 y3
 headOk y4.1 x.1.at'
 locX M y4.1.fV x.1.at' y4
theorem askHead_any {b:Nat}(M:Mode b)(hN:NextOwn M)(x:WS × M.σ)(w:World)(h:On M w x) :
 Calls Tryd.prog 63 #[.pointer (some ⟨b,0,none⟩)] w (Ends M w (headX M x)):=by
 go_enter Tryd.func63,Tryd.ntmps63
 go_wp2_with fail
 refine(hN 149 (by simp[places]) x 1 _ h (by omega) (by omega)).mono ?_
 rintro e w1 ⟨hf1,hres⟩
 cases hx1:nextX M 149 1 x with
 | error z =>
   simp only[hx1] at hres
   subst hres
   go_wp2_with fail
   refine⟨rfl,hf1,?_⟩
   simp only[headX,hx1,bind,Except.bind]
 | ok y1 =>
 simp only[hx1] at hres
 obtain⟨rfl,hon1⟩:=hres
 go_wp2_with fail
 refine(hN 150 (by simp[places]) y1 1 _ hon1 (by omega) (by omega)).mono ?_
 rintro e w2 ⟨hf2,hres⟩
 cases hx2:nextX M 150 1 y1 with
 | error z =>
   simp only[hx2] at hres
   subst hres
   go_wp2_with fail
   refine⟨rfl,hf1.trans hf2,?_⟩
   simp only[headX,hx1,hx2,bind,Except.bind]
 | ok y2 =>
 simp only[hx2] at hres
 obtain⟨rfl,hon2⟩:=hres
 go_wp2_with fail
 refine(hN 151 (by simp[places]) y2 1 _ hon2 (by omega) (by omega)).mono ?_
 rintro e w3 ⟨hf3,hres⟩
 cases hx3:nextX M 151 1 y2 with
 | error z =>
   simp only[hx3] at hres
   subst hres
   go_wp2_with fail
   refine⟨rfl,(hf1.trans hf2).trans hf3,?_⟩
   simp only[headX,hx1,hx2,hx3,bind,Except.bind]
 | ok y3 =>
 simp only[hx3] at hres
 obtain⟨rfl,hon3⟩:=hres
 go_wp2_with fail
 refine(hN 153 (by simp[places]) y3 2 _ hon3 (by omega) (by omega)).mono ?_
 rintro e w4 ⟨hf4,hres⟩
 have hf:Fr M.SB w w4:=((hf1.trans hf2).trans hf3).trans hf4
 cases hx4:nextX M 153 2 y3 with
 | error z =>
   simp only[hx4] at hres
   subst hres
   go_wp2_with fail
   refine⟨rfl,hf,?_⟩
   simp only[headX,hx1,hx2,hx3,hx4,bind,Except.bind]
 | ok y4 =>
 simp only[hx4] at hres
 obtain⟨rfl,hon4⟩:=hres
 have c149:w4.cell? ⟨b,149,none⟩=some (vI y4.1.fP):=hon4.1.facts.2.2.2.2.2.1
 have c150:w4.cell? ⟨b,150,none⟩=some (vI y4.1.fR):=hon4.1.facts.2.2.2.2.2.2.1
 have c151:w4.cell? ⟨b,151,none⟩=some (vI y4.1.fV):=hon4.1.facts.2.2.2.2.2.2.2.1
 have c153:w4.cell? ⟨b,153,none⟩=some (vI y4.1.len):=hon4.1.facts.2.2.2.2.2.2.2.2.2.1
 have hX:headX M x=(headOk y4.1 x.1.at' >>= fun _=>locX M y4.1.fV x.1.at' y4):=by
  simp only[headX,hx1,hx2,hx3,hx4,bind,Except.bind]
 have HX:Hd (headX M x=(headOk y4.1 x.1.at' >>= fun _=>locX M y4.1.fV x.1.at' y4)):=hX
 clear hX hx1 hx2 hx3 hx4 hon1 hon2 hon3 hf1 hf2 hf3 hf4
 go_wp2_with fail
 refine(within_any _ _ _ _).mono ?_
 rintro e w' ⟨rfl,rfl⟩
 by_cases m1:0≤y4.1.fV∧y4.1.fV≤255
 rotate_left
 ·have n1:Hd (¬ (0≤y4.1.fV∧y4.1.fV≤255)):=m1
  have m1':decide (0≤y4.1.fV∧y4.1.fV≤255)=false:=by simpa using m1
  rw[m1']
  go_wp2_with fail
  refine(must_false 20 x.1.at' _).mono ?_
  rintro e w' ⟨rfl,rfl⟩
  go_wp2_with fail
  refine⟨rfl,hf,?_⟩
  have hXk:headX M x = .error (20,x.1.at'):=by rw[HX.out];unfold headOk;rw[if_pos n1.out];rfl
  simp only[hXk]
 have n1:Hd (0≤y4.1.fV∧y4.1.fV≤255):=m1
 have m1':decide (0≤y4.1.fV∧y4.1.fV≤255)=true:=by simpa using m1
 rw[m1']
 go_wp2_with fail
 refine(must_true 20 x.1.at' _).mono ?_
 rintro e w' ⟨rfl,rfl⟩
 go_wp2_with fail
 refine wp_region_still_tail 11 mixed (by kernel_rfl) ?_
 simp only[List.take_succ_cons,List.take_zero,List.drop_succ_cons,List.drop_zero]
 repeat still_step
 generalize hmn:(if y4.1.fV<8 then y4.1.fV else 8)=mn
 have HMN:Hd ((if y4.1.fV<8 then y4.1.fV else 8)=mn):=hmn
 clear hmn
 by_cases m2:0≤y4.1.fP∧y4.1.fP≤mn
 rotate_left
 ·have n2':Hd (¬ (0≤y4.1.fP∧y4.1.fP≤(if y4.1.fV<8 then y4.1.fV else 8))):=by unfold Hd;rw[HMN.out];exact m2
  have m2':decide (0≤y4.1.fP∧y4.1.fP≤mn)=false:=by simpa using m2
  still_call (within_any _ _ _ _)
  repeat still_step
  refine wpStill_nil ?_
  go_wp2_with fail
  refine(must_false 20 x.1.at' _).mono ?_
  rintro e w' ⟨rfl,rfl⟩
  go_wp2_with fail
  refine⟨rfl,hf.drew,?_⟩
  have hXk:headX M x = .error (20,x.1.at'):=by rw[HX.out];unfold headOk;rw[if_neg (Decidable.not_not.2 n1.out),if_pos n2'.out];rfl
  simp only[hXk]
 have n2:Hd (0≤y4.1.fP∧y4.1.fP≤(if y4.1.fV<8 then y4.1.fV else 8)):=by unfold Hd;rw[HMN.out];exact m2
 have m2':decide (0≤y4.1.fP∧y4.1.fP≤mn)=true:=by simpa using m2
 still_call (within_any _ _ _ _)
 repeat still_step
 refine wpStill_nil ?_
 go_wp2_with fail
 refine(must_true 20 x.1.at' _).mono ?_
 rintro e w' ⟨rfl,rfl⟩
 go_wp2_with fail
 refine(within_any _ _ _ _).mono ?_
 rintro e w' ⟨rfl,rfl⟩
 by_cases m3:0≤y4.1.fR∧y4.1.fR≤4
 rotate_left
 ·have n3:Hd (¬ (0≤y4.1.fR∧y4.1.fR≤4)):=m3
  have m3':decide (0≤y4.1.fR∧y4.1.fR≤4)=false:=by simpa using m3
  rw[m3']
  go_wp2_with fail
  refine(must_false 20 x.1.at' _).mono ?_
  rintro e w' ⟨rfl,rfl⟩
  go_wp2_with fail
  refine⟨rfl,hf.drew,?_⟩
  have hXk:headX M x = .error (20,x.1.at'):=by rw[HX.out];unfold headOk;rw[if_neg (Decidable.not_not.2 n1.out),if_neg (Decidable.not_not.2 n2.out),if_pos n3.out];rfl
  simp only[hXk]
 have n3:Hd (0≤y4.1.fR∧y4.1.fR≤4):=m3
 have m3':decide (0≤y4.1.fR∧y4.1.fR≤4)=true:=by simpa using m3
 rw[m3']
 go_wp2_with fail
 refine(must_true 20 x.1.at' _).mono ?_
 rintro e w' ⟨rfl,rfl⟩
 by_cases m4:y4.1.len≤4096
 rotate_left
 ·have n4:Hd (¬ (y4.1.len≤4096)):=m4
  have m4':decide (y4.1.len≤4096)=false:=by simpa using m4
  go_wp2_with fail
  refine(must_false 20 x.1.at' _).mono ?_
  rintro e w' ⟨rfl,rfl⟩
  go_wp2_with fail
  refine⟨rfl,hf.drew,?_⟩
  have hXk:headX M x = .error (20,x.1.at'):=by rw[HX.out];unfold headOk;rw[if_neg (Decidable.not_not.2 n1.out),if_neg (Decidable.not_not.2 n2.out),if_neg (Decidable.not_not.2 n3.out),if_pos (Int.not_le.2 n4.out)];rfl
  simp only[hXk]
 have n4:Hd (y4.1.len≤4096):=m4
 have m4':decide (y4.1.len≤4096)=true:=by simpa using m4
 go_wp2_with fail
 refine(must_true 20 x.1.at' _).mono ?_
 rintro e w' ⟨rfl,rfl⟩
 by_cases m5:0<y4.1.len
 rotate_left
 ·have n5:Hd (¬ (0<y4.1.len)):=m5
  have m5':decide (0<y4.1.len)=false:=by simpa using m5
  go_wp2_with fail
  refine(must_false 19 x.1.at' _).mono ?_
  rintro e w' ⟨rfl,rfl⟩
  go_wp2_with fail
  refine⟨rfl,hf.drew,?_⟩
  have hXk:headX M x = .error (19,x.1.at'):=by rw[HX.out];unfold headOk;rw[if_neg (Decidable.not_not.2 n1.out),if_neg (Decidable.not_not.2 n2.out),if_neg (Decidable.not_not.2 n3.out),if_neg (Decidable.not_not.2 n4.out),if_pos (Int.not_lt.2 n5.out)];rfl
  simp only[hXk]
 have n5:Hd (0<y4.1.len):=m5
 have m5':decide (0<y4.1.len)=true:=by simpa using m5
 go_wp2_with fail
 refine(must_true 19 x.1.at' _).mono ?_
 rintro e w' ⟨rfl,rfl⟩
 go_wp2_with fail
 refine(locate_any M y4.1.fV x.1.at' y4 _ hon4.drew).mono ?_
 rintro e w5 ⟨hf5,hres⟩
 have hX5:Hd (headX M x=locX M y4.1.fV x.1.at' y4):=by
  unfold Hd
  rw[HX.out];unfold headOk;rw[if_neg (Decidable.not_not.2 n1.out),if_neg (Decidable.not_not.2 n2.out),if_neg (Decidable.not_not.2 n3.out),if_neg (Decidable.not_not.2 n4.out),if_neg (Decidable.not_not.2 n5.out)];rfl
 cases hx5:locX M y4.1.fV x.1.at' y4 with
 | error z =>
   simp only[hx5] at hres
   subst hres
   go_wp2_with fail
   refine⟨rfl,hf.drew.trans hf5,?_⟩
   simp only[hX5.out,hx5]
 | ok y5 =>
   simp only[hx5] at hres
   obtain⟨rfl,hon5⟩:=hres
   go_wp2_with fail
   go_end0
   refine⟨hf.drew.trans hf5,?_⟩
   simp only[hX5.out,hx5]
   exact⟨trivial,hon5⟩
set_option maxRecDepth 100000
set_option maxHeartbeats 1000000
def varOk (V v:Int):Bool:=decide (0≤v∧v≤IntKind.i64.wrap (V-1))
def oneX {b:Nat}(M:Mode b)(old:Int)(x:WS × M.σ):X (Int × (WS × M.σ)) :=
 match M.eff x.2 x.1.at' 1 old with
 | .ok (v,st)=>if varOk x.1.fV v then .ok (v,({ x.1 with at':=adv x.1.at' 1 },st)) else .error (13,x.1.at')
 | .error z=>.error z
def EndsAt {b:Nat}(M:Mode b)(w:World)(pb po:Nat)(r:X (Int × (WS × M.σ)))(e:Ending)(w':World):Prop :=
 Fr (fun k=>M.SB k∨k=pb) w w'∧match r with
  | .ok (v,y)=>e = .returned (.tuple #[])∧On M w' y∧w'.heap[pb]?=(w.setCell ⟨pb,po,none⟩ (vI v)).heap[pb]?
  | .error z=>e = .panicked (viol z.1 z.2)
theorem variable_other {b:Nat}(M:Mode b)(hO:NextOther M)(pb po:Nat)(hpb:pb≠b)(hS:¬ M.S pb)(hNn:¬ M.N pb)(x:WS × M.σ)(old:Int)(w:World)(h:On M w x)(hu:w.cell? ⟨pb,po,none⟩=some (vI old))(hz:w.frozen? ⟨pb,po,none⟩=false) :
 Calls Tryd.prog 80 #[.pointer (some ⟨b,0,none⟩),.pointer (some ⟨pb,po,none⟩)] w (EndsAt M w pb po (oneX M old x)):=by
 go_enter Tryd.func80,Tryd.ntmps80
 go_wp2_with fail
 refine(hO pb po hpb hS hNn x old 1 _ h (by omega) (by omega) hu hz).mono ?_
 rintro e w1 ⟨hf,hres⟩
 cases hx:M.eff x.2 x.1.at' 1 old with
 | error z =>
   simp only[hx] at hres
   subst hres
   go_wp2_with fail
   refine⟨rfl,hf,?_⟩
   simp only[oneX,hx]
 | ok vs =>
 obtain⟨v,st⟩:=vs
 simp only[hx] at hres
 obtain⟨rfl,hon,hblk⟩:=hres
 have hlt:pb<w.heap.size:=cell_lt hu
 have hc:w1.cell? ⟨pb,po,none⟩=some (vI v):=by
  rw[World.cell?_of_block (a:=⟨pb,po,none⟩) hblk]
  exact World.cell?_setCell_same _ _ _ hu
 have hcV:w1.cell? ⟨b,151,none⟩=some (vI x.1.fV):=hon.1.facts.2.2.2.2.2.2.2.1
 have HB:Hd (w1.heap[pb]?=(w.setCell ⟨pb,po,none⟩ (vI v)).heap[pb]?):=hblk
 have HX:Hd (oneX M old x=if varOk x.1.fV v then .ok (v,({ x.1 with at':=adv x.1.at' 1 },st)) else .error (13,x.1.at')):=by
  unfold Hd;simp only[oneX,hx]
 clear hblk hx hu hz
 by_cases hm:varOk x.1.fV v=true
 ·have hm':decide (0≤v∧v≤IntKind.i64.wrap (x.1.fV-1))=true:=by exact hm
  have HM:Hd (varOk x.1.fV v=true):=hm'
  clear hm
  go_wp2_with fail
  refine wp_region_still_tail 11 mixed (by kernel_rfl) ?_
  simp only[List.take_succ_cons,List.take_zero,List.drop_succ_cons,List.drop_zero]
  repeat still_step
  still_call (within_any _ _ _ _)
  repeat still_step
  refine wpStill_nil ?_
  go_wp2_with fail
  refine(must_true 13 x.1.at' _).mono ?_
  rintro e w' ⟨rfl,rfl⟩
  go_wp2_with fail
  go_end0
  refine⟨hf.drew,?_⟩
  rw[HX.out,HM.out,if_pos rfl]
  exact⟨rfl,hon.drew,HB.out⟩
 ·have hm':decide (0≤v∧v≤IntKind.i64.wrap (x.1.fV-1))=false:=by simpa[varOk] using hm
  have HM:Hd (varOk x.1.fV v=false):=hm'
  clear hm
  go_wp2_with fail
  refine wp_region_still_tail 11 mixed (by kernel_rfl) ?_
  simp only[List.take_succ_cons,List.take_zero,List.drop_succ_cons,List.drop_zero]
  repeat still_step
  still_call (within_any _ _ _ _)
  repeat still_step
  refine wpStill_nil ?_
  go_wp2_with fail
  refine(must_false 13 x.1.at' _).mono ?_
  rintro e w' ⟨rfl,rfl⟩
  go_wp2_with fail
  refine⟨rfl,hf.drew,?_⟩
  rw[HX.out,HM.out,if_neg (by simp)]
set_option maxRecDepth 100000
set_option maxHeartbeats 2000000
def varsX {b:Nat}(M:Mode b):List Int→WS × M.σ→X (List Int × (WS × M.σ))
 | [],x=>.ok ([],x)
 | old::r,x=>match oneX M old x with
   | .error z=>.error z
   | .ok (v,y)=>match varsX M r y with
     | .error z=>.error z
     | .ok (vs,y')=>.ok (v::vs,y')
def contX {α:Type}(done:List Int):X (List Int × α)→X (List Int × α)
 | .ok (vs,y)=>.ok (done++vs,y)
 | .error z=>.error z
theorem contX_nil {α:Type}(r:X (List Int × α)):contX [] r=r:=by cases r<;>simp[contX]
theorem contX_cons {b:Nat}(M:Mode b)(done:List Int)(old:Int)(r:List Int)(x y:WS × M.σ)(v:Int)(h:oneX M old x = .ok (v,y)) :
 contX done (varsX M (old::r) x)=contX (done++[v]) (varsX M r y):=by
 simp only[varsX,h]
 cases varsX M r y with
 | error z=>rfl
 | ok p=>simp[contX]
def WS.getL (s:WS)(o:Nat):Value:=if o=159 then s.args else s.rets
def WS.setL (s:WS)(o:Nat)(v:Value):WS:=if o=159 then { s with args:=v } else { s with rets:=v }
theorem cells_getL (s:WS)(o:Nat)(h:o=159∨o=160):s.cells[o]?=some (s.getL o):=by
 rcases h with rfl | rfl<;>kernel_rfl
theorem cells_setL (s:WS)(o:Nat)(v:Value)(h:o=159∨o=160):s.cells.setIfInBounds o v=(s.setL o v).cells:=by
 rcases h with rfl | rfl<;>kernel_rfl
theorem setL_num (s:WS)(o:Nat)(v:Value):(s.setL o v).num=s.num:=by unfold WS.setL;split<;>rfl
theorem setL_at (s:WS)(o:Nat)(v:Value):(s.setL o v).at'=s.at':=by unfold WS.setL;split<;>rfl
theorem getL_setL (s:WS)(o:Nat)(v:Value):(s.setL o v).getL o=v:=by unfold WS.setL WS.getL;split<;>rfl
theorem getL_at (s:WS)(o:Nat)(p:Int):({ s with at':=p }:WS).getL o=s.getL o:=rfl
theorem setCell_block {w w':World}{k:Nat}(o:Nat)(v:Value)(h:w'.heap[k]?=w.heap[k]?):(w'.setCell ⟨k,o,none⟩ v).heap[k]?=(w.setCell ⟨k,o,none⟩ v).heap[k]?:=by
 unfold World.setCell
 simp only[Array.getElem?_modify]
 rw[if_pos trivial,if_pos trivial,h]
theorem setCells_snoc (b:Nat):∀ (vs:List Value) (o:Nat) (w:World) (v:Value),w.setCells b o (vs++[v])=(w.setCells b o vs).setCell ⟨b,o+vs.length,none⟩ v
 | [],o,w,v=>by simp[World.setCells]
 | u::r,o,w,v=>by
   simp only[List.cons_append,World.setCells,List.length_cons]
   rw[setCells_snoc b r (o+1)]
   rw[show o+1+r.length=o+(r.length+1) by omega]
theorem setCells_block (k:Nat):∀ (vs:List Value) (o:Nat) (w w':World),w'.heap[k]?=w.heap[k]?→(w'.setCells k o vs).heap[k]?=(w.setCells k o vs).heap[k]?
 | [],_,_,_,h=>h
 | v::r,o,_,_,h=>setCells_block k r (o+1) _ _ (setCell_block o v h)
def Ints (w:World)(pk po:Nat)(l:List Int):Prop :=
 ∀ i,(h:i<l.length)→w.cell? ⟨pk,po+i,none⟩=some (vI l[i])∧w.frozen? ⟨pk,po+i,none⟩=false
def listX {b:Nat}(M:Mode b)(n:Nat)(l:List Int)(x:WS × M.σ):X (List Int × (WS × M.σ)) :=
 match nextX M 161 1 ({ x.1 with count:=l.length },x.2) with
 | .error z=>.error z
 | .ok y=>if y.1.count=n then varsX M (if l.length=n then l else List.replicate n 0) y else .error (15,x.1.at')
def EndsK {b:Nat}(M:Mode b)(w:World)(pk po:Nat)(r:X (List Int × (WS × M.σ)))(e:Ending)(w':World):Prop :=
 Fr (fun j=>M.SB j∨j=pk) w w'∧match r with
  | .ok (vs,y)=>e = .returned (.tuple #[])∧On M w' y∧(vs≠[]→w'.heap[pk]?=(w.setCells pk po (vs.map vI)).heap[pk]?)
  | .error z=>e = .panicked (viol z.1 z.2)
def EndsM {b:Nat}(M:Mode b)(w:World)(o n:Nat)(r:X (List Int × (WS × M.σ)))(e:Ending)(w':World):Prop :=
 Fr M.SB w w'∧match r with
  | .ok (vs,y)=>e = .returned (.tuple #[])∧∃ g,w.heap.size≤g∧On M w' (y.1.setL o (.slice (some ⟨g,0,none⟩) n n),y.2)∧w'.heap[g]?=some (.cells (vs.map vI).toArray 3)
  | .error z=>e = .panicked (viol z.1 z.2)
theorem list_keep {b:Nat}(M:Mode b)(hN:NextOwn M)(hO:NextOther M)(o n:Nat)(ho:o=159∨o=160)(x:WS × M.σ)(w:World)(h:On M w x)(a:Option Addr)(c pk po:Nat)(l:List Int)
 (hsl:x.1.getL o = .slice a l.length c) (hL:l.length=n) (hn:n≤255) (ha:n≠0→a=some ⟨pk,po,none⟩∧pk≠b∧¬ M.S pk∧¬ M.N pk∧pk<w.heap.size) (hI:Ints w pk po l) :
 Calls Tryd.prog 100 #[.pointer (some ⟨b,0,none⟩),.pointer (some ⟨b,o,none⟩),.int .i64 n] w (EndsK M w pk po (listX M n l x)):=by
 subst hL
 have hcl:w.cell? ⟨b,o,none⟩=some (.slice a l.length c):=by rw[h.1.cell,cells_getL _ _ ho,hsl]
 have hc161:w.cell? ⟨b,161,none⟩=some (vI x.1.count):=h.1.facts.2.2.2.2.2.2.2.2.2.2.2.2.2.2.2.2.2
 have hz161:=h.1.frozen 161
 have hf0:Fr (·=b) w (w.setCell ⟨b,161,none⟩ (vI l.length)):=Fr.setCell (Fr.refl (fun k=>k=b) w) _ _ (Or.inl rfl)
 have hl0:Lies (w.setCell ⟨b,161,none⟩ (vI l.length)) b { x.1 with count:=l.length }:=h.1.setCell 161 _ (cells_set _ 161 _ (by simp[places]))
 have hon0:On M (w.setCell ⟨b,161,none⟩ (vI l.length)) ({ x.1 with count:=l.length },x.2):=h.fr hf0 hl0 rfl rfl
 have hb:=h.1.lt
 go_enter Tryd.func100,Tryd.ntmps100
 go_wp2_with fail
 refine(hN 161 (by simp[places]) ({ x.1 with count:=l.length },x.2) 1 _ hon0 (by omega) (by omega)).mono ?_
 rintro e w1 ⟨hf1,hres⟩
 have hfa:Fr M.SB w w1:=(hf0.mono (fun k _ hk=>Or.inl hk)).trans hf1
 cases hx1:nextX M 161 1 ({ x.1 with count:=l.length },x.2) with
 | error z =>
   simp only[hx1] at hres
   subst hres
   go_wp2_with fail
   refine⟨rfl,hfa.mono (fun _ _ hk=>Or.inl hk),?_⟩
   simp only[listX,hx1]
 | ok y =>
 simp only[hx1] at hres
 obtain⟨rfl,hon1⟩:=hres
 have hcc:w1.cell? ⟨b,161,none⟩=some (vI y.1.count):=hon1.1.facts.2.2.2.2.2.2.2.2.2.2.2.2.2.2.2.2.2
 have hyL:y.1.getL o = .slice a l.length c:=by
  obtain⟨v,st,rfl⟩:=nextX_num hx1
  rcases ho with rfl | rfl<;>exact hsl
 have hcl1:w1.cell? ⟨b,o,none⟩=some (.slice a l.length c):=by rw[hon1.1.cell,cells_getL _ _ ho,hyL]
 have HL:Hd (listX M l.length l x=if y.1.count=(l.length:Nat) then varsX M l y else .error (15,x.1.at')):=by
  unfold Hd;simp only[listX,hx1,if_true]
 clear hx1
 by_cases hm:y.1.count=(l.length:Nat)
 rotate_left
 ·have hm':(y.1.count==((l.length:Nat):Int))=false:=by simpa using hm
  have HM:Hd (¬ y.1.count=(l.length:Nat)):=hm
  clear hm
  go_wp2_with fail
  refine(must_false 15 x.1.at' _).mono ?_
  rintro e w' ⟨rfl,rfl⟩
  go_wp2_with fail
  refine⟨rfl,hfa.mono (fun _ _ hk=>Or.inl hk),?_⟩
  rw[HL.out,if_neg HM.out]
 have hm':(y.1.count==((l.length:Nat):Int))=true:=by simpa using hm
 have HLV:Hd (listX M l.length l x=varsX M l y):=by unfold Hd;rw[HL.out,if_pos hm]
 clear hm HL
 go_wp2_with fail
 refine(must_true 15 x.1.at' _).mono ?_
 rintro e w' ⟨rfl,rfl⟩
 go_wp2_with fail
 have hI1:Ints w' pk po l:=fun i hi=>by
  obtain⟨-,hpkb,hpS,hpN,hplt⟩:=ha (by omega)
  have hSB:¬ M.SB pk:=fun h=>h.elim hpkb hpS
  exact⟨(hfa.cell hplt hSB).trans (hI i hi).1,(hfa.frozen hplt hSB).trans (hI i hi).2⟩
 go_loopw [42] (fun i wr=>∃ (k:Nat) (done:List Int) (z:WS × M.σ),k≤l.length∧i = .int .i64 k∧done.length=k∧On M wr z∧Hd (z.1={ y.1 with at':=z.1.at' })∧Fr (fun j=>M.SB j∨j=pk) w' wr ∧
  Hd (l≠[]→wr.heap[pk]?=(w'.setCells pk po (done.map vI)).heap[pk]?)∧Hd (varsX M l y=contX done (varsX M (l.drop k) z))) (fun i _=>match i with | .int _ q=>l.length-q.toNat | _=>0)
 case atStart=>exact⟨0,[],y,Nat.zero_le _,rfl,rfl,hon1,rfl,Fr.refl _ _,fun _=>rfl,by unfold Hd;rw[contX_nil];rfl⟩
 case round =>
  obtain⟨k,done,z,hk,rfl,hdl,honz,hz1,hfz,hblk,hvx⟩:=hrel
  have hclz:wr.cell? ⟨b,o,none⟩=some (.slice a l.length c):=by
   rw[honz.1.cell,cells_getL _ _ ho,hz1.out,getL_at,hyL]
  by_cases hlt:k<l.length
  ·obtain⟨rfl,hpkb,hpS,hpN,hplt⟩:=ha (by omega)
   have hne:l≠[]:=by intro e;simp[e] at hlt
   have hce:wr.cell? ⟨pk,po+k,none⟩=some (vI l[k]):=by
    rw[World.cell?_of_block (a:=⟨pk,po+k,none⟩) (hblk.out hne),World.cell?_setCells_out _ _ _ _ _ (fun _ _=>Or.inr (by simp;omega))]
    exact(hI1 k hlt).1
   have hfe:wr.frozen? ⟨pk,po+k,none⟩=false:=by
    rw[World.frozen?_of_block (a:=⟨pk,po+k,none⟩) (hblk.out hne),World.frozen?_setCells]
    exact(hI1 k hlt).2
   have hdrop:Hd (l.drop k=l[k]::l.drop (k+1)):=List.drop_eq_getElem_cons hlt
   generalize hlk:l[k]=lk at hce hdrop
   clear hlk
   have hcdz:=variable_other M hO pk (po+k) hpkb hpS hpN z lk wr honz hce hfe
   go_wp2_with fail
   refine hcdz.mono ?_
   rintro e w2 ⟨hf2,hres⟩
   cases hox:oneX M lk z with
   | error er =>
     simp only[hox] at hres
     subst hres
     go_wp2_with fail
     refine⟨rfl,((hfa.mono (fun _ _ hk=>Or.inl hk)).trans hfz).trans hf2,?_⟩
     rw[HLV.out,hvx.out,hdrop.out]
     simp only[varsX,hox,contX]
   | ok vz =>
     obtain⟨v,z2⟩:=vz
     simp only[hox] at hres
     obtain⟨rfl,hon2,hb2⟩:=hres
     have hz2:Hd (z2.1={ y.1 with at':=z2.1.at' }):=by
      unfold Hd
      unfold oneX at hox
      split at hox
      ·split at hox
       ·have:=(Prod.mk.inj (Except.ok.inj hox)).2
        rw[← this]
        simp only
        rw[hz1.out]
       ·cases hox
      ·cases hox
     have hvx2:Hd (varsX M l y=contX (done++[v]) (varsX M (l.drop (k+1)) z2)):=by
      unfold Hd;rw[hvx.out,hdrop.out];exact contX_cons M done lk _ z z2 v hox
     have hb3:Hd (l≠[]→w2.heap[pk]?=(w'.setCells pk po ((done++[v]).map vI)).heap[pk]?):=fun _=>by
      rw[hb2,List.map_append,List.map_cons,List.map_nil,setCells_snoc,List.length_map,hdl]
      exact setCell_block _ _ (hblk.out hne)
     clear hcdz hce hfe hox hb2 hblk hvx
     go_wp2_with fail
     exact⟨⟨k+1,done++[v],z2,by omega,by simp,by simp[hdl],hon2,hz2,hfz.trans hf2,hb3,hvx2⟩,by simp;omega⟩
  ·have hkl:k=l.length:=by omega
   subst hkl
   have hvl:Hd (varsX M l y = .ok (done,z)):=by
    unfold Hd;rw[hvx.out,List.drop_length];simp[varsX,contX]
   clear hvx
   go_wp2_with fail
   go_end0
   refine⟨(hfa.mono (fun _ _ hk=>Or.inl hk)).trans hfz,?_⟩
   rw[HLV.out,hvl.out]
   exact⟨rfl,honz,fun hvs=>by
    have hne:l≠[]:=by intro e;apply hvs;rw[e] at hdl;exact List.length_eq_zero_iff.1 hdl
    obtain⟨-,hpkb,hpS,hpN,hplt⟩:=ha (by intro e;exact hne (List.length_eq_zero_iff.1 e))
    rw[hblk.out hne]
    exact setCells_block pk _ po _ _ (hfa.block pk hplt (fun h=>h.elim hpkb hpS))⟩
set_option maxRecDepth 100000
set_option maxHeartbeats 2000000
theorem run_make_of (t e:TypeId)(z:Value)(size bytes:Nat)(ht:Tryd.prog.underlying t=some (.slice e))(hz:(Tryd.prog.info? e).map (·.zero)=some (some z))(hs:(Tryd.prog.info? e).map (·.size)=some size)(hb:(Tryd.prog.info? e).map (·.bytes)=some bytes)
 (n:Nat) (hn:bytes*n≤281474976710656) (hn':n≤1000000000000000) (w:World) :
 (Instr.makeSlice t (.int .i64 n) (.int .i64 n)).run Tryd.prog w = .ok (.slice (some ⟨w.heap.size,0,none⟩) n n) (w.alloc (.cells (madeCells z.cells (n*size)) e)):=by
 cases hi:Tryd.prog.info? e with
 | none=>rw[hi] at hz;cases hz
 | some i =>
   rw[hi] at hz hs hb
   simp only[Option.map_some,Option.some.injEq] at hz hs hb
   have:=run_make (P:=Tryd.prog) w t e i z ht hi hz .i64 .i64 n n (by omega) (by omega) (by rw[hb,← Int.natCast_mul];omega) (by omega)
   rw[this,hs]
   simp
def zeros (n:Nat):Array Value:=madeCells #[vI 0] n
theorem zeros_eq (n:Nat):zeros n=((List.replicate n 0).map vI).toArray:=by
 unfold zeros madeCells
 apply Array.ext
 ·simp
 ·intro i h1 h2
  simp[Nat.mod_one]
theorem run_make64 (n:Nat)(hn:n≤255)(w:World):(Instr.makeSlice 64 (.int .i64 n) (.int .i64 n)).run Tryd.prog w = .ok (.slice (some ⟨w.heap.size,0,none⟩) n n) (w.alloc (.cells (zeros n) 3)):=by
 rw[run_make_of 64 3 (vI 0) 1 8 Tryd.underlying64 (by kernel_rfl) (by kernel_rfl) (by kernel_rfl) n (by omega) (by omega) w,Nat.mul_one]
 rfl
theorem whole_block (vs:List Value)(w:World)(pk n:Nat)(hb:w.heap[pk]?=some (.cells (zeros n) 3))(hl:vs.length=n):(w.setCells pk 0 vs).heap[pk]?=some (.cells vs.toArray 3):=by
 have key:∀ (vs:List Value) (o:Nat) (w:World) (cs:Array Value),w.heap[pk]?=some (.cells cs 3)→o+vs.length≤cs.size →
  ∃ cs',(w.setCells pk o vs).heap[pk]?=some (.cells cs' 3)∧cs'.toList=cs.toList.take o++vs++cs.toList.drop (o+vs.length):=by
  intro vs
  induction vs with
  | nil=>intro o w cs h _;exact⟨cs,h,by simp⟩
  | cons v r ih =>
    intro o w cs h hle
    simp only[List.length_cons] at hle
    have hset:(w.setCell ⟨pk,o,none⟩ v).heap[pk]?=some (.cells (cs.setIfInBounds o v) 3):=by
     unfold World.setCell
     simp only[Array.getElem?_modify]
     rw[if_pos trivial,h]
     simp
    obtain⟨cs',h1,h2⟩:=ih (o+1) _ _ hset (by simp;omega)
    refine⟨cs',h1,?_⟩
    rw[h2]
    have ho:o<cs.toList.length:=by simp;omega
    simp only[Array.toList_setIfInBounds,List.length_cons]
    rw[List.take_set,List.drop_set_of_lt (by omega)]
    have hs:(List.take o cs.toList++[cs.toList[o]]).set o v=List.take o cs.toList++[v]:=by
     rw[List.set_append,if_neg (by simp;omega)]
     simp
     rw[Nat.min_eq_left (by simp at ho;omega)]
     simp
    rw[List.take_succ_eq_append_getElem ho,hs,show o+1+r.length=o+(r.length+1) by omega]
    simp
 obtain⟨cs',h1,h2⟩:=key vs 0 w (zeros n) hb (by rw[zeros_eq];simp;omega)
 rw[h1]
 have:cs'.toList=vs:=by
  rw[h2,zeros_eq];simp[hl]
 rw[← this]
theorem oneX_setL {b:Nat}(M:Mode b)(o:Nat)(v:Value)(old:Int)(s:WS)(st:M.σ) :
 oneX M old (s.setL o v,st)=match oneX M old (s,st) with | .ok (u,y)=>.ok (u,(y.1.setL o v,y.2)) | .error z=>.error z:=by
 by_cases h:o=159
 ·have e:∀ s:WS,s.setL o v={ s with args:=v }:=fun s=>by unfold WS.setL;rw[if_pos h]
  simp only[e,oneX]
  cases M.eff st s.at' 1 old with
  | error z=>rfl
  | ok q =>
    obtain⟨u,st'⟩:=q
    simp only
    split<;>rfl
 ·have e:∀ s:WS,s.setL o v={ s with rets:=v }:=fun s=>by unfold WS.setL;rw[if_neg h]
  simp only[e,oneX]
  cases M.eff st s.at' 1 old with
  | error z=>rfl
  | ok q =>
    obtain⟨u,st'⟩:=q
    simp only
    split<;>rfl
theorem varsX_setL {b:Nat}(M:Mode b)(o:Nat)(v:Value):∀ (l:List Int) (s:WS) (st:M.σ),
 varsX M l (s.setL o v,st)=match varsX M l (s,st) with | .ok (vs,y)=>.ok (vs,(y.1.setL o v,y.2)) | .error z=>.error z
 | [],s,st=>rfl
 | old::r,s,st=>by
   simp only[varsX,oneX_setL M o v old s st]
   cases oneX M old (s,st) with
   | error z=>rfl
   | ok q =>
     obtain⟨u,y⟩:=q
     simp only
     rw[varsX_setL M o v r y.1 y.2]
     cases varsX M r y with
     | error z=>rfl
     | ok p=>rfl
theorem list_make {b:Nat}(M:Mode b)(hN:NextOwn M)(hO:NextOther M)(o n:Nat)(ho:o=159∨o=160)(x:WS × M.σ)(w:World)(h:On M w x)(a:Option Addr)(c:Nat)(l0:List Int)
 (hsl:x.1.getL o = .slice a l0.length c) (hL:l0.length≠n) (hn:n≤255) (hnew:∀ y,nextX M 161 1 ({ x.1 with count:=l0.length },x.2) = .ok y→y.1.count=n→∀ k,w.heap.size≤k→¬ M.S k∧¬ M.N k) (hl0:l0.length≤1000000000000000) (hnz:n≠0) :
 Calls Tryd.prog 100 #[.pointer (some ⟨b,0,none⟩),.pointer (some ⟨b,o,none⟩),.int .i64 n] w (EndsM M w o n (listX M n l0 x)):=by
 have hmk:=run_make64 n hn
 have hcl:w.cell? ⟨b,o,none⟩=some (.slice a l0.length c):=by rw[h.1.cell,cells_getL _ _ ho,hsl]
 have hc161:w.cell? ⟨b,161,none⟩=some (vI x.1.count):=h.1.facts.2.2.2.2.2.2.2.2.2.2.2.2.2.2.2.2.2
 have hz161:=h.1.frozen 161
 have hf0:Fr (·=b) w (w.setCell ⟨b,161,none⟩ (vI l0.length)):=Fr.setCell (Fr.refl (fun k=>k=b) w) _ _ (Or.inl rfl)
 have hli0:Lies (w.setCell ⟨b,161,none⟩ (vI l0.length)) b { x.1 with count:=l0.length }:=h.1.setCell 161 _ (cells_set _ 161 _ (by simp[places]))
 have hon0:On M (w.setCell ⟨b,161,none⟩ (vI l0.length)) ({ x.1 with count:=l0.length },x.2):=h.fr hf0 hli0 rfl rfl
 have hb:=h.1.lt
 go_enter Tryd.func100,Tryd.ntmps100
 go_wp2_with fail
 refine(hN 161 (by simp[places]) ({ x.1 with count:=l0.length },x.2) 1 _ hon0 (by omega) (by omega)).mono ?_
 rintro e w1 ⟨hf1,hres⟩
 have hfa:Fr M.SB w w1:=(hf0.mono (fun k _ hk=>Or.inl hk)).trans hf1
 cases hx1:nextX M 161 1 ({ x.1 with count:=l0.length },x.2) with
 | error z =>
   simp only[hx1] at hres
   subst hres
   go_wp2_with fail
   refine⟨rfl,hfa,?_⟩
   simp only[listX,hx1]
 | ok y0 =>
 simp only[hx1] at hres
 obtain⟨rfl,hon1⟩:=hres
 have hcc:w1.cell? ⟨b,161,none⟩=some (vI y0.1.count):=hon1.1.facts.2.2.2.2.2.2.2.2.2.2.2.2.2.2.2.2.2
 have hyL:y0.1.getL o = .slice a l0.length c:=by
  obtain⟨v,st,rfl⟩:=nextX_num hx1
  rcases ho with rfl | rfl<;>exact hsl
 have hcl1:w1.cell? ⟨b,o,none⟩=some (.slice a l0.length c):=by rw[hon1.1.cell,cells_getL _ _ ho,hyL]
 have HL:Hd (listX M n l0 x=if y0.1.count=n then varsX M (List.replicate n 0) y0 else .error (15,x.1.at')):=by
  unfold Hd;simp only[listX,hx1,if_neg hL]
 have hnew':=hnew y0 hx1
 clear hx1 hnew
 by_cases hm:y0.1.count=n
 rotate_left
 ·have hm':(y0.1.count==((n:Nat):Int))=false:=by simpa using hm
  have HM:Hd (¬ y0.1.count=n):=hm
  clear hm hnew'
  go_wp2_with fail
  refine(must_false 15 x.1.at' _).mono ?_
  rintro e w' ⟨rfl,rfl⟩
  go_wp2_with fail
  refine⟨rfl,hfa,?_⟩
  rw[HL.out,if_neg HM.out]
 have hm':(y0.1.count==((n:Nat):Int))=true:=by simpa using hm
 have HLV0:Hd (listX M n l0 x=varsX M (List.replicate n 0) y0):=by unfold Hd;rw[HL.out,if_pos hm]
 have hnew:=hnew' hm
 have hLb:((l0.length:Int) != (n:Int))=true:=by rw[bne_iff_ne];omega
 have hzo:=hon1.1.frozen o
 have hb1:=hon1.1.lt
 clear hm HL hnew'
 go_wp2_with fail
 refine(must_true 15 x.1.at' _).mono ?_
 rintro e w' ⟨rfl,rfl⟩
 go_wp2_with fail
 generalize hpk:w'.heap.size=pk
 have hfl:Fr (fun k=>k=b) w' ((w'.setCell ⟨b,o,none⟩ (.slice (some ⟨pk,0,none⟩) n n)).alloc (.cells (zeros n) 3)):=Fr.alloc (Fr.setCell (Fr.refl (fun k=>k=b) w') _ _ (Or.inl rfl)) _
 have honl:On M ((w'.setCell ⟨b,o,none⟩ (.slice (some ⟨pk,0,none⟩) n n)).alloc (.cells (zeros n) 3)) (y0.1.setL o (.slice (some ⟨pk,0,none⟩) n n),y0.2) :=
  hon1.fr hfl (Lies.alloc (hon1.1.setCell o _ (cells_setL _ _ _ ho)) _) (setL_num _ _ _) (setL_at _ _ _)
 have hpblk:((w'.setCell ⟨b,o,none⟩ (.slice (some ⟨pk,0,none⟩) n n)).alloc (.cells (zeros n) 3)).heap[pk]?=some (.cells (zeros n) 3):=by
  have:=heap_alloc_last (w'.setCell ⟨b,o,none⟩ (.slice (some ⟨pk,0,none⟩) n n)) (.cells (zeros n) 3)
  rw[World.size_setCell,hpk] at this
  exact this
 generalize ((w'.setCell ⟨b,o,none⟩ (.slice (some ⟨pk,0,none⟩) n n)).alloc (.cells (zeros n) 3))=wl at *
 have hfwl:Fr M.SB w wl:=hfa.trans (hfl.mono (fun k _ hk=>Or.inl hk))
 have hpw:w.heap.size≤pk:=by have:=hfa.size;omega
 have hpkb0:pk≠b:=by omega
 obtain⟨hpS0,hpN0⟩:=hnew pk hpw
 have hn0x:n≠0:=hnz
 have hI1:Ints wl pk 0 (List.replicate n 0):=fun i hi=>by
  have hi':i<n:=by simpa using hi
  constructor
  ·unfold World.cell?;simp only[hpblk];rw[zeros_eq];simp[hi']
  ·unfold World.frozen?;simp only[hpblk];simp
 have hyy:Hd ((y0.1.setL o (.slice (some ⟨pk,0,none⟩) n n),y0.2)=(y0.1.setL o (.slice (some ⟨pk,0,none⟩) n n),y0.2)):=rfl
 have HERR:Hd (∀ er,varsX M (List.replicate n 0) (y0.1.setL o (.slice (some ⟨pk,0,none⟩) n n),y0.2) = .error er→listX M n l0 x = .error er):=by
  intro er he
  rw[HLV0.out]
  rw[varsX_setL M o _ (List.replicate n 0) y0.1 y0.2] at he
  cases hvv:varsX M (List.replicate n 0) y0 with
  | error z=>rw[show(y0.1,y0.2)=y0 from rfl,hvv] at he;exact he
  | ok q=>rw[show(y0.1,y0.2)=y0 from rfl,hvv] at he;cases he
 have hyL2:(y0.1.setL o (.slice (some ⟨pk,0,none⟩) n n)).getL o = .slice (some ⟨pk,0,none⟩) n n:=getL_setL _ _ _
 clear hyL hcl1 hcc hzo hmk hcl hc161 hz161 hli0 hon0 hf1 hf0
 generalize hy:(y0.1.setL o (.slice (some ⟨pk,0,none⟩) n n),y0.2)=y at *
 have hyL:y.1.getL o = .slice (some ⟨pk,0,none⟩) n n:=by rw[← hy];exact hyL2
 have Hyy:Hd (y=(y0.1.setL o (.slice (some ⟨pk,0,none⟩) n n),y0.2)):=hy.symm
 clear hy hyL2 hyy
 have hyy:=Hyy
 go_loopw [42] (fun i wr=>∃ (k:Nat) (done:List Int) (z:WS × M.σ),k≤n∧i = .int .i64 k∧done.length=k∧On M wr z∧Hd (z.1={ y.1 with at':=z.1.at' })∧Fr (fun j=>M.SB j∨j=pk) wl wr ∧
  Hd (n≠0→wr.heap[pk]?=(wl.setCells pk 0 (done.map vI)).heap[pk]?)∧Hd (varsX M (List.replicate n 0) y=contX done (varsX M ((List.replicate n 0).drop k) z))) (fun i _=>match i with | .int _ q=>n-q.toNat | _=>0)
 case atStart=>exact⟨0,[],y,Nat.zero_le _,rfl,rfl,honl,rfl,Fr.refl _ _,fun _=>rfl,by unfold Hd;rw[contX_nil];rfl⟩
 case round =>
  obtain⟨k,done,z,hk,rfl,hdl,honz,hz1,hfz,hblk,hvx⟩:=hrel
  have hclz:wr.cell? ⟨b,o,none⟩=some (.slice (some ⟨pk,0,none⟩) n n):=by
   rw[honz.1.cell,cells_getL _ _ ho,hz1.out,getL_at,hyL]
  by_cases hlt:k<n
  ·have hpkb:=hpkb0;have hpS:=hpS0;have hpN:=hpN0
   have hne:n≠0:=by omega
   have hce:wr.cell? ⟨pk,0+k,none⟩=some (vI 0):=by
    rw[World.cell?_of_block (a:=⟨pk,0+k,none⟩) (hblk.out hne),World.cell?_setCells_out _ _ _ _ _ (fun _ _=>Or.inr (by simp;omega))]
    have:=(hI1 k (by simpa using hlt)).1
    rwa [List.getElem_replicate] at this
   have hfe:wr.frozen? ⟨pk,0+k,none⟩=false:=by
    rw[World.frozen?_of_block (a:=⟨pk,0+k,none⟩) (hblk.out hne),World.frozen?_setCells]
    simpa using (hI1 k (by simpa using hlt)).2
   have hdrop:Hd ((List.replicate n (0:Int)).drop k=0::(List.replicate n 0).drop (k+1)):=by
    unfold Hd;rw[List.drop_eq_getElem_cons (by simpa using hlt)];simp
   have hcdz:=variable_other M hO pk (0+k) hpkb hpS hpN z 0 wr honz hce hfe
   rw[Nat.zero_add] at hcdz
   go_wp2_with fail
   refine hcdz.mono ?_
   rintro e w2 ⟨hf2,hres⟩
   cases hox:oneX M 0 z with
   | error er =>
     simp only[hox] at hres
     subst hres
     go_wp2_with fail
     refine⟨rfl,(show Fr M.SB w w2 from⟨hf2.os.trans (hfz.os.trans hfwl.os),hf2.tape.trans (hfz.tape.trans hfwl.tape),hf2.output.trans (hfz.output.trans hfwl.output),Nat.le_trans hfwl.size (Nat.le_trans hfz.size hf2.size),fun j hj hS=>by
      rw[hf2.block j (Nat.lt_of_lt_of_le hj (Nat.le_trans hfwl.size hfz.size)) (fun h=>h.elim hS (fun e=>by omega)),hfz.block j (Nat.lt_of_lt_of_le hj hfwl.size) (fun h=>h.elim hS (fun e=>by omega)),hfwl.block j hj hS]⟩),?_⟩
     rw[HERR.out er (by rw[hvx.out,hdrop.out];simp only[varsX,hox,contX])]
   | ok vz =>
     obtain⟨v,z2⟩:=vz
     simp only[hox] at hres
     obtain⟨rfl,hon2,hb2⟩:=hres
     have hz2:Hd (z2.1={ y.1 with at':=z2.1.at' }):=by
      unfold Hd
      unfold oneX at hox
      split at hox
      ·split at hox
       ·have:=(Prod.mk.inj (Except.ok.inj hox)).2
        rw[← this]
        simp only
        rw[hz1.out]
       ·cases hox
      ·cases hox
     have hvx2:Hd (varsX M (List.replicate n 0) y=contX (done++[v]) (varsX M ((List.replicate n 0).drop (k+1)) z2)):=by
      unfold Hd;rw[hvx.out,hdrop.out];exact contX_cons M done 0 _ z z2 v hox
     have hb3:Hd (n≠0→w2.heap[pk]?=(wl.setCells pk 0 ((done++[v]).map vI)).heap[pk]?):=fun _=>by
      rw[hb2,List.map_append,List.map_cons,List.map_nil,setCells_snoc,List.length_map,hdl]
      rw[Nat.zero_add]
      exact setCell_block _ _ (hblk.out hne)
     clear hcdz hce hfe hox hb2 hblk hvx
     go_wp2_with fail
     exact⟨⟨k+1,done++[v],z2,by omega,by simp,by simp[hdl],hon2,hz2,hfz.trans hf2,hb3,hvx2⟩,by simp;omega⟩
  ·have hkl:k=n:=by omega
   have hvl:Hd (varsX M (List.replicate n 0) y = .ok (done,z)):=by
    unfold Hd;rw[hvx.out,List.drop_of_length_le (by simp;omega)];simp[varsX,contX]
   clear hvx
   go_wp2_with fail
   go_end0
   have hfin:Fr M.SB w wr:=⟨hfz.os.trans hfwl.os,hfz.tape.trans hfwl.tape,hfz.output.trans hfwl.output,Nat.le_trans hfwl.size hfz.size,fun j hj hS=>by
    rw[hfz.block j (Nat.lt_of_lt_of_le hj hfwl.size) (fun h=>h.elim hS (fun e=>by omega)),hfwl.block j hj hS]⟩
   refine⟨hfin,?_⟩
   rw[HLV0.out]
   have hv0:=varsX_setL M o (.slice (some ⟨pk,0,none⟩) n n) (List.replicate n 0) y0.1 y0.2
   have hv1:varsX M (List.replicate n 0) y = .ok (done,z):=hvl.out
   rw[hyy.out] at hv1
   rw[hv1] at hv0
   cases hvv:varsX M (List.replicate n 0) y0 with
   | error er=>rw[show(y0.1,y0.2)=y0 from rfl,hvv] at hv0;cases hv0
   | ok q =>
     obtain⟨vs,yS⟩:=q
     rw[show(y0.1,y0.2)=y0 from rfl,hvv] at hv0
     simp only[Except.ok.injEq,Prod.mk.injEq] at hv0
     obtain⟨e1,e2⟩:=hv0
     subst e1
     refine⟨rfl,pk,hpw,by rw[← e2];exact honz,?_⟩
     by_cases hn0:n=0
     ·exact absurd hn0 hn0x
     ·rw[hblk.out hn0]
      exact whole_block (done.map vI) wl pk n hpblk (by rw[List.length_map,hdl];exact hkl)
set_option maxRecDepth 100000
set_option maxHeartbeats 1000000
def Plain (R:Ending→World→Prop)(e:Ending)(w':World):Prop:=(e = .returned (.tuple #[])∨∃ c,e = .panicked c)∧R e w'
theorem ownResults_any {b:Nat}(o n:Nat)(s:WS)(w:World)(h:Lies w b s)(hn:s.fR=n)(R:Ending→World→Prop)
 (hc:Calls Tryd.prog 100 #[.pointer (some ⟨b,0,none⟩),.pointer (some ⟨b,o,none⟩),.int .i64 n] w (Plain R)) :
 Calls Tryd.prog 89 #[.pointer (some ⟨b,0,none⟩),.pointer (some ⟨b,o,none⟩)] w R:=by
 have c150:w.cell? ⟨b,150,none⟩=some (vI n):=by rw[h.facts.2.2.2.2.2.2.1,hn]
 go_enter Tryd.func89,Tryd.ntmps89
 go_wp2_with fail
 refine hc.mono ?_
 rintro e w' ⟨rfl | ⟨c,rfl⟩,hr⟩
 ·go_wp2_with fail
  go_end0
  exact hr
 ·go_wp2_with fail
  exact⟨rfl,hr⟩
theorem calleeParams_any {b:Nat}(o n N fb fo nf fc:Nat)(s:WS)(w:World)(h:Lies w b s)(hN:s.n=N)(hNf:N<nf)(hfu:s.funcs = .slice (some ⟨fb,fo,none⟩) nf fc)(hcn:w.cell? ⟨fb,fo+N*4,none⟩=some (vI n))(R:Ending→World→Prop)
 (hc:Calls Tryd.prog 100 #[.pointer (some ⟨b,0,none⟩),.pointer (some ⟨b,o,none⟩),.int .i64 n] w.drew (Plain R)) :
 Calls Tryd.prog 86 #[.pointer (some ⟨b,0,none⟩),.pointer (some ⟨b,o,none⟩)] w R:=by
 have c158:w.cell? ⟨b,158,none⟩=some (vI N):=by rw[h.facts.2.2.2.2.2.2.2.2.2.2.2.2.2.2.1,hN]
 have c147:w.cell? ⟨b,147,none⟩=some (.slice (some ⟨fb,fo,none⟩) nf fc):=by rw[h.facts.2.2.2.1,hfu]
 have hb:0≤(N:Int)∧(N:Int)<nf:=by omega
 go_enter Tryd.func86,Tryd.ntmps86
 go_wp2_with fail
 refine wp_region_still_tail 14 mixed (by kernel_rfl) ?_
 simp only[List.take_succ_cons,List.take_zero,List.drop_succ_cons,List.drop_zero]
 repeat still_step
 refine wpStill_nil ?_
 go_wp2_with fail
 refine hc.mono ?_
 rintro e w' ⟨rfl | ⟨c,rfl⟩,hr⟩
 ·go_wp2_with fail
  go_end0
  exact hr
 ·go_wp2_with fail
  exact⟨rfl,hr⟩
theorem calleeResults_any {b:Nat}(o n N fb fo nf fc:Nat)(s:WS)(w:World)(h:Lies w b s)(hN:s.n=N)(hNf:N<nf)(hfu:s.funcs = .slice (some ⟨fb,fo,none⟩) nf fc)(hcn:w.cell? ⟨fb,fo+N*4+1,none⟩=some (vI n))(R:Ending→World→Prop)
 (hc:Calls Tryd.prog 100 #[.pointer (some ⟨b,0,none⟩),.pointer (some ⟨b,o,none⟩),.int .i64 n] w.drew (Plain R)) :
 Calls Tryd.prog 87 #[.pointer (some ⟨b,0,none⟩),.pointer (some ⟨b,o,none⟩)] w R:=by
 have c158:w.cell? ⟨b,158,none⟩=some (vI N):=by rw[h.facts.2.2.2.2.2.2.2.2.2.2.2.2.2.2.1,hN]
 have c147:w.cell? ⟨b,147,none⟩=some (.slice (some ⟨fb,fo,none⟩) nf fc):=by rw[h.facts.2.2.2.1,hfu]
 have hb:0≤(N:Int)∧(N:Int)<nf:=by omega
 go_enter Tryd.func87,Tryd.ntmps87
 go_wp2_with fail
 refine wp_region_still_tail 14 mixed (by kernel_rfl) ?_
 simp only[List.take_succ_cons,List.take_zero,List.drop_succ_cons,List.drop_zero]
 repeat still_step
 refine wpStill_nil ?_
 go_wp2_with fail
 refine hc.mono ?_
 rintro e w' ⟨rfl | ⟨c,rfl⟩,hr⟩
 ·go_wp2_with fail
  go_end0
  exact hr
 ·go_wp2_with fail
  exact⟨rfl,hr⟩
end Go.Proofs.YtingenonbkencaaDoor
namespace Go.Proofs.YtingenonbkencaaDoor
theorem run_neq81_f (f:Nat)(w:World):(binOp .neq 81 (vF f) .nilFunc).run Tryd.prog w = .ok (.bool true) w:=by kernel_rfl
theorem run_neq81_n (w:World):(binOp .neq 81 vN .nilFunc).run Tryd.prog w = .ok (.bool false) w:=by kernel_rfl
theorem run_neq82_f (f:Nat)(w:World):(binOp .neq 82 (vF f) .nilFunc).run Tryd.prog w = .ok (.bool true) w:=by kernel_rfl
theorem run_neq82_n (w:World):(binOp .neq 82 vN .nilFunc).run Tryd.prog w = .ok (.bool false) w:=by kernel_rfl
def lenOf : Value→Nat
 | .slice _ n _=>n
 | _=>0
end Go.Proofs.YtingenonbkencaaDoor
namespace Go.Proofs.YtingenonbkencaaDoor
open Go.RowKit (wrap32 wrap64)
set_option maxRecDepth 100000
set_option maxHeartbeats 400000
theorem catch_panicking (pb:Nat)(er at':Int)(older:List PanicEntry)(w:World)(h0:w.cell? ⟨pb,0,none⟩=some (vI 0))(h1:w.cell? ⟨pb,1,none⟩=some (vI 0))(hz:∀ o,w.frozen? ⟨pb,o,none⟩=false) :
 CallsD Tryd.prog 59 #[.pointer (some ⟨pb,0,none⟩)] (.panicking ({ v:=.iface 50 (.agg #[vI er,vI at']),recovered:=false }::older)) w fun e u' w' =>
  e = .returned (.tuple #[])∧u' = .panicking ({ v:=.iface 50 (.agg #[vI er,vI at']),recovered:=true }::older)∧w'=(w.setCell ⟨pb,0,none⟩ (vI er)).setCell ⟨pb,1,none⟩ (vI at'):=by
 refine callsD_of_wpS Tryd.func59 rfl fun c₀ cs hu=>?_
 apply wpS_seq
 apply wpS_region
 simp[wpOpsS,go_sem,recoverD,hu,Tryd.ntmps59,Exit.thenS]
 have hq:∀ w,(binOp .neq 20 (.iface 50 (.agg #[vI er,vI at'])) .nilIface).run Tryd.prog w = .ok (.bool true) w:=fun _=>by kernel_rfl
 have hta:∀ w,(Instr.typeAssert (.iface 50 (.agg #[vI er,vI at'])) 20 50 false).run Tryd.prog w = .ok (.agg #[vI er,vI at']) w:=fun _=>by kernel_rfl
 refine wpS_of_wp ?_
 rw[show(#[Value.pointer (some ⟨pb,0,none⟩)]++((Array.replicate 6 undef).setIfInBounds 1 (Value.iface 50 (Value.agg #[vI er,vI at']))).setIfInBounds 0 (Value.iface 50 (Value.agg #[vI er,vI at'])))=#[Value.pointer (some ⟨pb,0,none⟩),Value.iface 50 (Value.agg #[vI er,vI at']),Value.iface 50 (Value.agg #[vI er,vI at']),undef,undef,undef,undef] from rfl]
 generalize hQ:(fun(e:Exit) (a':Act) (w':World)=>bodyPostS Tryd.prog Tryd.f59 c₀ cs _ e a' _ w')=Q
 go_wp2_with fail
 subst hQ
 refine⟨rfl,_,rfl,.tuple #[],?_,rfl,rfl,rfl⟩
 simp[results,Tryd.results59]
theorem catch_idle (p:Addr)(w:World) :
 CallsD Tryd.prog 59 #[.pointer (some p)] .returning w fun e u' w'=>e = .returned (.tuple #[])∧u' = .returning∧w'=w:=by
 refine callsD_of_wpS Tryd.func59 rfl fun c₀ cs hu=>?_
 apply wpS_seq
 apply wpS_region
 simp[wpOpsS,go_sem,recoverD,hu,Tryd.ntmps59,Exit.thenS]
 have hq:∀ w,(binOp .neq 20 .nilIface .nilIface).run Tryd.prog w = .ok (.bool false) w:=fun _=>by kernel_rfl
 refine wpS_of_wp ?_
 rw[show(#[Value.pointer (some p)]++((Array.replicate 6 undef).setIfInBounds 1 Value.nilIface).setIfInBounds 0 Value.nilIface)=#[Value.pointer (some p),Value.nilIface,Value.nilIface,undef,undef,undef,undef] from rfl]
 generalize hQ:(fun(e:Exit) (a':Act) (w':World)=>bodyPostS Tryd.prog Tryd.f59 c₀ cs _ e a' _ w')=Q
 go_wp2_with fail
 subst hQ
 refine⟨rfl,.returning,by rw[← hu],.tuple #[],?_,rfl,rfl,rfl⟩
 simp[results,Tryd.results59]
def Unsaid (pb:Nat)(w:World):Prop:=w.cell? ⟨pb,0,none⟩=some (vI 0)∧w.cell? ⟨pb,1,none⟩=some (vI 0)∧∀ o,w.frozen? ⟨pb,o,none⟩=false
def Walked (pb:Nat)(J:World→Prop)(Pn:Int→Int→World→Prop)(e:Ending)(w1:World):Prop :=
 Unsaid pb w1∧((e = .returned (.tuple #[])∧J w1)∨∃ er at',e = .panicked (viol er at')∧Pn er at' w1)
def Said1 (pb:Nat)(J:World→Prop)(Pn:Int→Int→World→Prop)(e:Ending)(w':World):Prop :=
 ∃ er at' w1,w'=(w1.setCell ⟨pb,0,none⟩ (vI er)).setCell ⟨pb,1,none⟩ (vI at')∧e = .returned (.agg #[vI er,vI at'])∧((er=0∧at'=0∧J w1)∨Pn er at' w1)
theorem firstViolation_any (fn:Nat)(cap:Array Value)(w:World)(J:World→Prop)(Pn:Int→Int→World→Prop)
 (hen:∀ w,(callFunc fn cap).run Tryd.prog w = .ok (.enter fn cap) w)
 (hc:Calls Tryd.prog fn cap (w.alloc (.cells #[vI 0,vI 0] 50)) (Walked w.heap.size J Pn)) :
 Calls Tryd.prog 31 #[.func (.func fn) #[] cap] w (Said1 w.heap.size J Pn):=by
 have hmf:∀ (fn:Fn) (first cap:Array Value) (w:World),(Instr.makeFunc fn first cap).run Tryd.prog w = .ok (.func fn first cap) w:=fun _ _ _ _=>rfl
 go_enter_defers Tryd.func31,Tryd.ntmps31
 go_wp2_with fail
 refine hc.mono ?_
 rintro e w1 ⟨⟨u0,u1,uz⟩,(⟨rfl,hJ⟩|⟨er,at',rfl,hP⟩)⟩
 ·clear hc hen
  go_wp2_with fail
  refine leaves_cons (f:=59) (args:=#[.pointer (some ⟨w.heap.size,0,none⟩)]) (by simp) (by simp[go_sem]) ?_
  refine(catch_idle ⟨w.heap.size,0,none⟩ _).mono ?_
  rintro e u' w'' ⟨rfl,rfl,rfl⟩
  refine⟨.agg #[vI 0,vI 0],?_,0,0,w1,rfl,rfl,Or.inl ⟨rfl,rfl,hJ⟩⟩
  rw[results_cell (p:=2) (ty:=50) Tryd.results31]
  simp[go_sem,u0,u1]
 ·clear hc hen
  go_wp2_with fail
  refine leaves_cons (f:=59) (args:=#[.pointer (some ⟨w.heap.size,0,none⟩)]) (by simp) (by simp[go_sem]) ?_
  refine(catch_panicking w.heap.size er at' [] _ u0 u1 uz).mono ?_
  rintro e u' w'' ⟨rfl,rfl,rfl⟩
  refine⟨.agg #[vI er,vI at'],?_,er,at',w1,rfl,rfl,Or.inr hP⟩
  rw[results_cell (p:=2) (ty:=50) Tryd.results31]
  simp[go_sem,u0,u1]
end Go.Proofs.YtingenonbkencaaDoor
