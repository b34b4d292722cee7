import Derived.Test.YtdkijecnnmncnaaGreatDoorQN6J
import Derived.Test.YtdkijecnnmncnaaGreatDoorQA3J
import Derived.Test.YtdkijecnnmncnaaGreatDoorQB7J
import Derived.Deep.AppendLies
import Derived.Deep.Onto
import Derived.Deep.DeepCutAuto
import Derived.Deep.RegionHeld3
import Derived.Test.YtdkijecnnmncnaaGreatDoorQN4J
import Derived.BigQuiet
import Derived.StillTail
import Derived.StillTailTactics
set_option linter.unusedVariables false
set_option linter.unusedSimpArgs false
namespace Go.Proofs.YtdkijecnnmncnaaGreatDoor
open Go.RowKit (wrap32 wrap64)
set_option maxRecDepth 100000
set_option maxHeartbeats 1000000
theorem unsaid_of {w:World}{n:Nat}(h:w.heap[n]?=some (.cells #[vI 0,vI 0] 154)):Unsaid n w:=by
 refine⟨?_,?_,?_⟩
 ·unfold World.cell?;simp[h]
 ·unfold World.cell?;simp[h]
 ·intro o;unfold World.frozen?;simp[h]
theorem check1_gen (wv pv b:Nat)(G:Int)(fv:Value)(w:World)(hw:w.cell? ⟨wv,0,none⟩=some (.pointer (some ⟨b,0,none⟩)))(h0:w.cell? ⟨pv,0,none⟩=some (vI G))(a:Option Addr)(l c:Nat)(hfv:fv = .slice a l c)(h1:w.cell? ⟨pv,1,none⟩=some fv)(J:World→Prop)(Pn:Int→Int→World→Prop)
 (ho:Calls Tryz.prog 105 #[.pointer (some ⟨b,0,none⟩),.agg #[vI G,fv]] w fun e w'=>(e = .returned (.tuple #[])∧J w')∨∃ er at',e = .panicked (viol er at')∧Pn er at' w') :
 Calls Tryz.prog 104 #[.pointer (some ⟨wv,0,none⟩),.pointer (some ⟨pv,0,none⟩)] w fun e w'=>(e = .returned (.tuple #[])∧J w')∨∃ er at',e = .panicked (viol er at')∧Pn er at' w':=by
 subst hfv
 go_enter Tryz.func104,Tryz.ntmps104
 go_wp2_with fail
 refine ho.mono ?_
 rintro e w1 (⟨rfl,hQ⟩|⟨er,at',rfl,hQ⟩)
 ·clear ho
  go_wp2_with fail
  go_end0
  exact Or.inl ⟨rfl,hQ⟩
 ·clear ho
  go_wp2_with fail
  exact⟨rfl,Or.inr ⟨er,at',rfl,hQ⟩⟩
def startG (w:World)(G:Int)(fv:Value):World :=
 ((((w.alloc (.cells #[vI G,fv] 24)).alloc (.cells rowsC 192)).alloc (.cells (WS.start (vF 102)).cells 195)).alloc (.cells #[.pointer (some ⟨w.heap.size+2,0,none⟩)] 150)).alloc (.cells #[vI 0,vI 0] 154)
theorem startG_at (w:World)(G:Int)(fv:Value):(startG w G fv).heap[w.heap.size]?=some (.cells #[vI G,fv] 24)∧(startG w G fv).heap[w.heap.size+2]?=some (.cells (WS.start (vF 102)).cells 195) ∧
 (startG w G fv).heap[w.heap.size+3]?=some (.cells #[.pointer (some ⟨w.heap.size+2,0,none⟩)] 150)∧(startG w G fv).heap[w.heap.size+4]?=some (.cells #[vI 0,vI 0] 154)∧(startG w G fv).heap.size=w.heap.size+5∧Fr (fun _=>False) w (startG w G fv):=by
 have last:∀ (v:World) (o:Obj) (n:Nat),v.heap.size=n→(v.alloc o).heap[n]?=some o:=fun v o n h=>by rw[← h];exact heap_alloc_last v o
 have past:∀ (v:World) (o:Obj) (n:Nat),n<v.heap.size→(v.alloc o).heap[n]?=v.heap[n]?:=fun v o n h=>Go.RowKit.Below.heap_alloc v o n h
 unfold startG
 refine⟨?_,?_,?_,?_,by simp,Fr.alloc (Fr.alloc (Fr.alloc (Fr.alloc (Fr.alloc (Fr.refl _ w) _) _) _) _) _⟩
 ·rw[past _ _ _ (by simp;try omega),past _ _ _ (by simp;try omega),past _ _ _ (by simp;try omega),past _ _ _ (by simp;try omega),last _ _ _ rfl]
 ·rw[past _ _ _ (by simp;try omega),past _ _ _ (by simp;try omega),last _ _ _ (by simp;try omega)]
 ·rw[past _ _ _ (by simp;try omega),last _ _ _ (by simp;try omega)]
 ·rw[last _ _ _ (by simp;try omega)]
def OverJ (w:World)(G:Int)(fs:List PF)(fv:Value)(w':World):Prop :=
 Fr (fun k=>k=w.heap.size+2) (startG w G fv) w'∧∃ y,answerP G fs = .ok y∧w'.cell? ⟨w.heap.size+2,148,none⟩=some (vI y.1.locs)
def OverN (w:World)(G:Int)(fs:List PF)(fv:Value)(er at':Int)(w':World):Prop :=
 Fr (fun k=>k=w.heap.size+2) (startG w G fv) w'∧answerP G fs = .error (er,at')
theorem over_checkG (w:World)(G:Int)(fs:List PF)(fv:Value)(hl:FL (w.heap.size+2) w fv fs)(hT:Tab w)(h0:0<w.heap.size) :
 Calls Tryz.prog 105 #[.pointer (some ⟨w.heap.size+2,0,none⟩),.agg #[vI G,fv]] (startG w G fv) fun e w'=>(e = .returned (.tuple #[])∧OverJ w G fs fv w')∨∃ er at',e = .panicked (viol er at')∧OverN w G fs fv er at' w':=by
 obtain⟨s0,s2,s3,s4,hsz,hsf⟩:=startG_at w G fv
 have hon:On (leaving (w.heap.size+2)) (startG w G fv) (WS.start (vF 102),()):=⟨s2,rfl,by show _≠2;omega,hT.fr hsf (fun h=>h)⟩
 refine(over_any (WS.start (vF 102)) (startG w G fv) hon G fv fs (hl.fr hsf (fun _ h=>h.elim))).mono ?_
 rintro e w' ⟨hf,hres⟩
 have hsim:=sim_answer (w.heap.size+2) (vF 102) G fs
 cases hx:overP (w.heap.size+2) G fs (WS.start (vF 102)) with
 | error z =>
   rw[hx] at hres hsim
   exact Or.inr ⟨z.1,z.2,hres,hf,hsim.err⟩
 | ok y =>
   rw[hx] at hres hsim
   obtain⟨rfl,x,honx,hb⟩:=hres
   obtain⟨y',hy',hby⟩:=hsim.okk
   refine Or.inl ⟨rfl,hf,y',hy',?_⟩
   have e:x.locs=y'.1.locs:=(congrArg WS.locs (hb.trans hby):x.bare.locs=y'.1.bare.locs)
   rw[honx.1.facts.2.2.2.2.1,e]
theorem first_check1 (w:World)(G:Int)(fs:List PF)(fv:Value)(hl:FL (w.heap.size+2) w fv fs)(hT:Tab w)(h0:0<w.heap.size) :
 Calls Tryz.prog 103 #[.func (.func 104) #[] #[.pointer (some ⟨w.heap.size+3,0,none⟩),.pointer (some ⟨w.heap.size,0,none⟩)]]
  ((((w.alloc (.cells #[vI G,fv] 24)).alloc (.cells rowsC 192)).alloc (.cells (WS.start (vF 102)).cells 195)).alloc (.cells #[.pointer (some ⟨w.heap.size+2,0,none⟩)] 150))
  (Said1 (w.heap.size+4) (OverJ w G fs fv) (OverN w G fs fv)):=by
 obtain⟨s0,s2,s3,s4,hsz,hsf⟩:=startG_at w G fv
 have:=firstViolation_any 104 #[.pointer (some ⟨w.heap.size+3,0,none⟩),.pointer (some ⟨w.heap.size,0,none⟩)]
  ((((w.alloc (.cells #[vI G,fv] 24)).alloc (.cells rowsC 192)).alloc (.cells (WS.start (vF 102)).cells 195)).alloc (.cells #[.pointer (some ⟨w.heap.size+2,0,none⟩)] 150))
  (OverJ w G fs fv) (OverN w G fs fv) (fun _=>by kernel_rfl) ?_
 ·simpa using this
 ·obtain⟨-,a,c,ea,-⟩:=id hl
  have hun:∀ w',Fr (fun k=>k=w.heap.size+2) (startG w G fv) w'→Unsaid (((((w.alloc (.cells #[vI G,fv] 24)).alloc (.cells rowsC 192)).alloc (.cells (WS.start (vF 102)).cells 195)).alloc (.cells #[.pointer (some ⟨w.heap.size+2,0,none⟩)] 150))).heap.size w':=fun w' hf=>by
   have e4:(((((w.alloc (.cells #[vI G,fv] 24)).alloc (.cells rowsC 192)).alloc (.cells (WS.start (vF 102)).cells 195)).alloc (.cells #[.pointer (some ⟨w.heap.size+2,0,none⟩)] 150))).heap.size=w.heap.size+4:=by simp
   rw[e4]
   refine unsaid_of ?_
   rw[hf.block _ (by omega) (by omega)]
   exact s4
  refine(check1_gen (w.heap.size+3) w.heap.size (w.heap.size+2) G fv (startG w G fv) ?_ ?_ a fs.length c ea ?_ (OverJ w G fs fv) (OverN w G fs fv) (over_checkG w G fs fv hl hT h0)).mono ?_
  ·unfold World.cell?;simp[s3]
  ·unfold World.cell?;simp[s0]
  ·unfold World.cell?;simp[s0]
  ·rintro e w' (⟨rfl,hJ⟩|⟨er,at',rfl,hN⟩)
   ·exact⟨hun w' hJ.1,Or.inl ⟨rfl,hJ⟩⟩
   ·exact⟨hun w' hN.1,Or.inr ⟨er,at',rfl,hN⟩⟩
def checkP (G:Int)(fs:List PF):Int:=match answerP G fs with | .ok _=>0 | .error z=>z.1
theorem check_prog (w:World)(G:Int)(fs:List PF)(fv:Value)(hl:FL (w.heap.size+2) w fv fs)(hT:Tab w)(h0:0<w.heap.size) :
 Calls Tryz.prog 66 #[.agg #[vI G,fv]] w fun e w'=>e = .returned (vI (checkP G fs))∧Fr (fun _=>False) w w':=by
 have hmf:∀ (fn:Fn) (first cap:Array Value) (w:World),(Instr.makeFunc fn first cap).run Tryz.prog w = .ok (.func fn first cap) w:=fun _ _ _ _=>rfl
 obtain⟨s0,s2,s3,s4,hsz,hsf⟩:=startG_at w G fv
 have hfv:=first_check1 w G fs fv hl hT h0
 obtain⟨-,a,c,ea,-⟩:=hl
 subst ea
 go_enter Tryz.func66,Tryz.ntmps66
 go_wp2_with fail
 refine(newWalk_any _ _ _ _).mono ?_
 rintro e w1 ⟨rfl,rfl⟩
 go_wp2_with fail
 refine hfv.mono ?_
 rintro e w2 ⟨er,at',w3,rfl,rfl,hcase⟩
 clear hfv
 have hck:Hd (checkP G fs=er∧Fr (fun k=>k=w.heap.size+2) (startG w G (.slice a fs.length c)) w3):=by
  unfold Hd checkP
  rcases hcase with⟨rfl,rfl,hf,y,hy,-⟩|⟨hf,hy⟩
  ·rw[hy];exact⟨rfl,hf⟩
  ·rw[hy];exact⟨rfl,hf⟩
 clear hcase
 have hfd:∀ (v:World),(Instr.field 154 (.agg #[vI er,vI at']) 0).run Tryz.prog v = .ok (vI er) v:=fun _=>by kernel_rfl
 have hend:Hd (∀ w4,Fr (fun k=>w.heap.size≤k) w3 w4→Fr (fun _=>False) w w4):=fun w4 h4=>by
  have h1:Fr (fun k=>w.heap.size≤k) w w4:=((hsf.mono (fun _ _ h=>h.elim)).trans (hck.out.2.mono (fun k _ hk=>by omega))).trans h4
  exact h1.mono (fun k hk hS=>by omega)
 go_wp2_with fail
 go_ret
 refine⟨by rw[hck.out.1];rfl,hend.out _ ?_⟩
 repeat first
  | exact Fr.refl _ _
  | refine Fr.drew ?_
  | refine Fr.alloc ?_ _
  | refine Fr.setCell ?_ _ _ (Or.inl (by simp<;>omega))
theorem heap_new (w:World)(o:Obj):(w.alloc o).heap[w.heap.size]?=some o:=(MapKept.heap_alloc w o).1
theorem heap_lt {w:World}{k:Nat}{o:Obj}(h:w.heap[k]?=some o):k<w.heap.size:=(Array.getElem?_eq_some_iff.1 h).1
theorem cell_of {w:World}{k:Nat}{cs:Array Value}{t:TypeId}(h:w.heap[k]?=some (.cells cs t))(o:Nat):w.cell? ⟨k,o,none⟩=cs[o]?:=by
 unfold World.cell?;rw[h];simp
theorem frozen_of {w:World}{k:Nat}{cs:Array Value}{t:TypeId}(h:w.heap[k]?=some (.cells cs t))(o:Nat):w.frozen? ⟨k,o,none⟩=false:=by
 unfold World.frozen?;rw[h];simp
theorem set_of {w:World}{k:Nat}{cs:Array Value}{t:TypeId}(h:w.heap[k]?=some (.cells cs t))(o:Nat)(v:Value):(w.setCell ⟨k,o,none⟩ v).heap[k]?=some (.cells (cs.setIfInBounds o v) t):=by
 unfold World.setCell
 simp only[Array.getElem?_modify]
 rw[if_pos trivial,h]
 rfl
theorem Fr.then {S S':Nat→Prop}{a b c:World}(h:Fr S a b)(k:Fr S' b c)(hs:∀ j,j<a.heap.size→S' j→S j):Fr S a c :=
 ⟨k.os.trans h.os,k.tape.trans h.tape,k.output.trans h.output,Nat.le_trans h.size k.size,fun j hj hS=>(k.block j (Nat.lt_of_lt_of_le hj h.size) (fun e=>hS (hs j hj e))).trans (h.block j hj hS)⟩
theorem setCell_fr (w:World)(k o:Nat)(u:Value):Fr (fun j=>j=k) w (w.setCell ⟨k,o,none⟩ u):=Fr.setCell (S:=fun j=>j=k) (Fr.refl _ w) _ _ (Or.inl rfl)
def Rws (w:World)(t sz g m:Nat)(R:Nat→List Value):Prop:=∃ cs:Array Value,w.heap[g]?=some (.cells cs t)∧cs.size=m*sz∧∀ i o,i<m→o<sz→cs[i*sz+o]?=some ((R i).getD o undef)
theorem Rws.lt {w:World}{t sz g m:Nat}{R:Nat→List Value}(h:Rws w t sz g m R):g<w.heap.size:=by obtain⟨cs,h,-⟩:=h;exact heap_lt h
theorem Rws.cell {w:World}{t sz g m:Nat}{R:Nat→List Value}(h:Rws w t sz g m R){i o:Nat}(hi:i<m)(ho:o<sz):w.cell? ⟨g,i*sz+o,none⟩=some ((R i).getD o undef):=by
 obtain⟨cs,h,-,hc⟩:=h;rw[cell_of h];exact hc i o hi ho
theorem Rws.frozen {w:World}{t sz g m:Nat}{R:Nat→List Value}(h:Rws w t sz g m R)(q:Nat):w.frozen? ⟨g,q,none⟩=false:=by
 obtain⟨cs,h,-⟩:=h;exact frozen_of h q
theorem Rws.fr {S:Nat→Prop}{w w':World}{t sz g m:Nat}{R:Nat→List Value}(h:Rws w t sz g m R)(f:Fr S w w')(hS:¬ S g):Rws w' t sz g m R:=by
 have hl:=h.lt
 obtain⟨cs,h,h2⟩:=h;exact⟨cs,(f.block g hl hS).trans h,h2⟩
theorem Rws.congr {w:World}{t sz g m:Nat}{R R':Nat→List Value}(h:Rws w t sz g m R)(e:∀ i,i<m→R i=R' i):Rws w t sz g m R':=by
 obtain⟨cs,h,h2,h3⟩:=h
 exact⟨cs,h,h2,fun i o hi ho=>by rw[h3 i o hi ho,e i hi]⟩
def at1 {α:Type}(f:Nat→α)(i:Nat)(x:α):Nat→α:=fun j=>if j=i then x else f j
theorem at1_self {α:Type}(f:Nat→α)(i:Nat)(x:α):at1 f i x i=x:=if_pos rfl
theorem at1_ne {α:Type}(f:Nat→α){i j:Nat}(x:α)(h:j≠i):at1 f i x j=f j:=if_neg h
theorem row_index {sz i j o q:Nat}(ho:o<sz)(hq:q<sz)(h:i*sz+o=j*sz+q):i=j∧o=q:=by
 have e1:(i*sz+o) / sz=i:=by rw[Nat.mul_comm,Nat.mul_add_div (by omega),Nat.div_eq_of_lt ho];rfl
 have e2:(j*sz+q) / sz=j:=by rw[Nat.mul_comm,Nat.mul_add_div (by omega),Nat.div_eq_of_lt hq];rfl
 have:i=j:=by rw[← e1,← e2,h]
 subst this
 exact⟨rfl,by omega⟩
theorem Rws.set1 {w:World}{t sz g m:Nat}{R:Nat→List Value}(h:Rws w t sz g m R){i o:Nat}(hi:i<m)(ho:o<sz)(hl:(R i).length=sz)(v:Value):Rws (w.setCell ⟨g,i*sz+o,none⟩ v) t sz g m (at1 R i ((R i).set o v)):=by
 obtain⟨cs,h,h2,h3⟩:=h
 have hlt:i*sz+o<m*sz:=by
  have:(i+1)*sz≤m*sz:=Nat.mul_le_mul_right _ hi
  rw[Nat.add_mul] at this;omega
 refine⟨cs.setIfInBounds (i*sz+o) v,set_of h _ v,by simpa using h2,fun j q hj hq=>?_⟩
 rw[Array.getElem?_setIfInBounds]
 by_cases e:i*sz+o=j*sz+q
 ·obtain⟨rfl,rfl⟩:=row_index ho hq e
  rw[if_pos rfl,if_pos (by omega),at1_self]
  simp[List.getD_eq_getElem?_getD,hl,ho]
 ·rw[if_neg e,h3 j q hj hq]
  by_cases ej:j=i
  ·subst ej
   have:o≠q:=fun eo=>e (by rw[eo])
   rw[at1_self]
   simp[List.getD_eq_getElem?_getD,List.getElem?_set_ne this]
  ·rw[at1_ne _ _ ej]
def IA (w:World)(v:Value)(l:List Int):Prop :=
 ∃ a c,v = .slice a l.length c∧(l≠[]→∃ k o,a=some ⟨k,o,none⟩∧k<w.heap.size∧∀ j (h:j<l.length),w.cell? ⟨k,o+j,none⟩=some (vI l[j]))
theorem IA.fr {S:Nat→Prop}{w w':World}{v:Value}{l:List Int}(h:IA w v l)(f:Fr S w w')(hS:∀ k,v.ownBlock=some k→¬ S k):IA w' v l:=by
 obtain⟨a,c,rfl,h⟩:=h
 refine⟨a,c,rfl,fun hne=>?_⟩
 obtain⟨k,o,rfl,hk,hc⟩:=h hne
 exact⟨k,o,rfl,Nat.lt_of_lt_of_le hk f.size,fun j hj=>(f.cell hk (hS k rfl)).trans (hc j hj)⟩
theorem IA.stay {w w':World}{v:Value}{l:List Int}(h:IA w v l)(f:Fr (fun _=>False) w w'):IA w' v l:=h.fr f (fun _ _ e=>e)
theorem under64 : Tryz.prog.underlying 30=some (.slice 3):=by kernel_rfl
set_option maxRecDepth 100000
set_option maxHeartbeats 1000000
def IOwn (w:World)(B:Nat)(v:Value)(l:List Int):Prop:=w.ownsRow B 3 1 v l.length (l.map vI)
theorem ownsRow_frL {S:Nat→Prop}{w w':World}{B e size n:Nat}{v:Value}{xs:List Value}(h:w.ownsRow B e size v n xs)(f:Fr S w w')(hS:∀ g,v.ownBlock=some g→¬ S g):w'.ownsRow B e size v n xs:=by
 refine⟨h.1,?_⟩
 rcases h.2 with h2 | ⟨g,cap,cur,rfl,h3,h4,h5⟩
 ·exact Or.inl h2
 ·exact Or.inr ⟨g,cap,cur,rfl,h3,by rw[f.block g ((Array.getElem?_eq_some_iff.1 h4).1) (hS g rfl)];exact h4,h5⟩
theorem IOwn.fr {S:Nat→Prop}{w w':World}{B:Nat}{v:Value}{l:List Int}(h:IOwn w B v l)(f:Fr S w w')(hS:∀ k,v.ownBlock=some k→¬ S k):IOwn w' B v l:=ownsRow_frL h f hS
theorem IOwn.ge {w:World}{B:Nat}{v:Value}{l:List Int}(h:IOwn w B v l):∀ k,v.ownBlock=some k→B≤k∧k<w.heap.size:=World.ownsRow.lt h
theorem IOwn.mono {w:World}{B B':Nat}{v:Value}{l:List Int}(h:IOwn w B v l)(hB:B'≤B):IOwn w B' v l:=World.ownsRow.mono h hB
theorem IOwn.ia {w:World}{B:Nat}{v:Value}{l:List Int}(h:IOwn w B v l):IA w v l:=by
 rcases h.2 with⟨h2,h3⟩|⟨g,cap,cur,e,h3,h4,h5,h6,h7,h8⟩
 ·exact⟨none,0,by rw[h2,h3],fun hne=>absurd (List.eq_nil_of_length_eq_zero h3) hne⟩
 ·refine⟨_,cap,e,fun _=>⟨g,0,rfl,heap_lt h4,fun i hi=>?_⟩⟩
  rw[Nat.zero_add,cell_of h4]
  have:cur[i]?=(l.map vI)[i]?:=by rw[← h8,List.getElem?_take,if_pos (by omega),Array.getElem?_toList]
  rw[this]
  simp[hi]
theorem grown_frL {w w':World}{row:Option Nat}(h:w.grownBy w' row):Fr (fun k=>row=some k) w w' :=
 ⟨h.os,h.tape,h.output,h.size,fun k hk hS=>h.block k hk (fun e=>hS e.symm)⟩
theorem grow_fr0 {w wr w6:World}{v:Value}(h:Fr (fun _=>False) w wr)(hg:wr.grownBy w6 v.ownBlock)(hb:∀ k,v.ownBlock=some k→w.heap.size≤k):Fr (fun _=>False) w w6 :=
 h.then (grown_frL hg) (fun j hj e=>by have:=hb j e;omega)
theorem copyInts_any (v:Value)(es:List Int)(w:World)(hE:IA w v es)(hel:es.length≤17592186043904):Calls Tryz.prog 83 #[v] w fun e w'=>∃ v',e = .returned v'∧IOwn w' w.heap.size v' es∧Fr (fun _=>False) w w':=by
 obtain⟨ea,ec,rfl,hein⟩:=hE
 have HE:Hd _:=hein
 clear hein
 obtain⟨i3,hi3,hz3,hs3,hb3⟩:=info_parts (P:=Tryz.prog) (e:=3) (z:=.int .i64 0) (size:=1) (bytes:=8) (by kernel_rfl)
 go_enter Tryz.func83,Tryz.ntmps83
 go_wp2_with fail
 go_loopw [3,4] (fun mv v wr=>∃ (k:Nat),v = .int .i64 k∧k≤es.length∧Hd (IOwn wr w.heap.size mv (es.take k))∧Hd (Fr (fun _=>False) w wr)) (fun _ v _=>match v with | .int _ q=>es.length-q.toNat | _=>0)
 case atStart=>exact⟨0,rfl,Nat.zero_le _,World.ownsRow_nil _ _ _ _,Fr.refl _ _⟩
 case round =>
  obtain⟨k,rfl,hk,HO,HF⟩:=hrel
  by_cases hlt:k<es.length
  ·obtain⟨pk,po,rfl,hpk,hcs⟩:=HE.out (by intro e;simp[e] at hlt)
   have d0:=hcs k hlt
   have p0:=(HF.out.cell (o:=po+k) hpk (fun h=>h)).trans d0
   clear hcs d0
   have HT:Hd (es.take (k+1)=es.take k++[es[k]]):=by unfold Hd;rw[List.take_add_one,List.getElem?_eq_getElem hlt];rfl
   have HTL:Hd ((es.take k).length=k):=by unfold Hd;rw[List.length_take];omega
   obtain⟨e,he⟩:∃ e,es[k]=e:=⟨_,rfl⟩
   rw[he] at p0 HT
   clear he
   obtain⟨E,hE⟩:∃ E,E=es.take k:=⟨_,rfl⟩
   rw[← hE] at HO HT HTL
   clear hE
   have hk0:(0:Int)≤k:=by omega
   have hk1:(k:Int)<es.length:=by omega
   have hsz:=HF.out.size
   have HO1:Hd ((wr.alloc (.cells #[vI e] 3)).ownsRow w.heap.size 3 1 u3 E.length (E.map vI)):=World.ownsRow.alloc HO.out _
   have hnews:∀ j u,[vI e][j]?=some u→(wr.alloc (.cells #[vI e] 3)).cell? ((⟨wr.heap.size,0,none⟩:Addr).add j)=some u :=
    World.news_of_block (cs:=#[vI e]) (heap_new wr (.cells #[vI e] 3))
   have hbase:w.heap.size≤(wr.alloc (.cells #[vI e] 3)).heap.size:=by simp;omega
   have hEl:E.length+1≤17592186043905:=by have:=HTL.out;omega
   go_wp2_with ((at_builtin;refine Hd.out ?_))
   unfold Hd
   refine wpList_append_lies _ rfl (.tmp 11) (.tmp 16) 30 rfl w.heap.size 3 i3 (.int .i64 0) 1 8 under64 hi3 hz3 hs3 hb3 rfl (by omega) u3 E.length _ rfl HO1.out ⟨wr.heap.size,0,none⟩ 1 1 [vI e] rfl rfl hnews (by intro u hu;simp at hu;subst hu;rfl) (by omega) (by unfold maxLen;omega) (by omega) hbase (wr.heap.size+1) (by simp) ?_
   intro g6 cap6 w6 hown6 hgrow6 hat6 hlt6
   have HO6:Hd (IOwn w6 w.heap.size (.slice (some ⟨g6,0,none⟩) (E.length+1) cap6) (E++[e])):=by unfold Hd IOwn;rw[List.map_append,List.length_append];exact hown6
   have HF6:Hd (Fr (fun _=>False) w w6):=grow_fr0 (HF.out.alloc _) hgrow6 (fun k hk=>(HO.out.ge k hk).1)
   clear hown6 hgrow6 hat6 hlt6 HO HF HO1 hnews hbase p0
   go_wp2_with fail
   refine⟨⟨k+1,by simp,by omega,?_,HF6.out⟩,by simp;omega⟩
   unfold Hd;rw[HT.out];exact HO6.out
  ·have hke:k=es.length:=by omega
   subst hke
   have HO2:Hd (IOwn wr w.heap.size u3 es):=by have:=HO.out;rw[List.take_length] at this;exact this
   clear HO
   go_wp2_with fail
   go_ret
   exact⟨u3,rfl,HO2.out,HF.out⟩
theorem eqInts_same (v1 v2:Value)(zs:List Int)(w:World)(h1:IA w v1 zs)(h2:IA w v2 zs)(hz:zs.length≤17592186043904) :
 Calls Tryz.prog 40 #[v1,v2] w fun e w'=>e = .returned (.bool true)∧Fr (fun _=>False) w w':=by
 obtain⟨a1,c1,rfl,hc1⟩:=h1
 obtain⟨a2,c2,rfl,hc2⟩:=h2
 have H1:Hd _:=hc1
 have H2:Hd _:=hc2
 clear hc1 hc2
 go_enter Tryz.func40,Tryz.ntmps40
 go_wp2_with fail
 go_loopw [5] (fun v wr=>∃ (k:Nat),v = .int .i64 k∧k≤zs.length∧Hd (Fr (fun _=>False) w wr)) (fun v _=>match v with | .int _ q=>zs.length-q.toNat | _=>0)
 case atStart=>exact⟨0,rfl,Nat.zero_le _,Fr.refl _ _⟩
 case round =>
  obtain⟨k,rfl,hk,HF⟩:=hrel
  by_cases hlt:k<zs.length
  ·have hne:zs≠[]:=by intro e;simp[e] at hlt
   obtain⟨k1,o1,rfl,hk1,g1⟩:=H1.out hne
   obtain⟨k2,o2,rfl,hk2,g2⟩:=H2.out hne
   have q1:=(HF.out.cell (o:=o1+k) hk1 (fun h=>h)).trans (g1 k hlt)
   have q2:=(HF.out.cell (o:=o2+k) hk2 (fun h=>h)).trans (g2 k hlt)
   generalize zs[k]=z at *
   have hk0:(0:Int)≤k:=by omega
   have hk3:(k:Int)<zs.length:=by omega
   clear g1 g2
   go_wp2_with fail
   refine wp_region_still_tail 8 mixed (by kernel_rfl) ?_
   simp only[List.take_succ_cons,List.take_zero,List.drop_succ_cons,List.drop_zero]
   repeat still_step
   refine wpStill_nil ?_
   go_wp2_with fail
   exact⟨⟨k+1,by simp,by omega,HF.out.drew⟩,by simp;omega⟩
  ·have hke:k=zs.length:=by omega
   subst hke
   go_wp2_with fail
   go_ret
   exact⟨rfl,HF.out⟩
abbrev iR (c:PI)(p:Value × Value):List Value:=[vI c.op,vI c.r,vI c.s,vI c.t,vI c.n,p.1,p.2]
def CA (w:World)(v:Value)(cs:List PI):Prop :=
 ∃ a cp,v = .slice a cs.length cp∧(cs≠[]→∃ k o,a=some ⟨k,o,none⟩∧k<w.heap.size∧∀ j (h:j<cs.length),∃ av rv,
  w.cell? ⟨k,o+j*7,none⟩=some (vI cs[j].op)∧w.cell? ⟨k,o+j*7+1,none⟩=some (vI cs[j].r)∧w.cell? ⟨k,o+j*7+2,none⟩=some (vI cs[j].s)∧w.cell? ⟨k,o+j*7+3,none⟩=some (vI cs[j].t)∧w.cell? ⟨k,o+j*7+4,none⟩=some (vI cs[j].n) ∧
  w.cell? ⟨k,o+j*7+5,none⟩=some av∧w.cell? ⟨k,o+j*7+6,none⟩=some rv∧IA w av cs[j].args∧IA w rv cs[j].rets)
theorem CA.stay {w w':World}{v:Value}{cs:List PI}(h:CA w v cs)(f:Fr (fun _=>False) w w'):CA w' v cs:=by
 obtain⟨a,cp,rfl,h⟩:=h
 refine⟨a,cp,rfl,fun hne=>?_⟩
 obtain⟨k,o,rfl,hk,hc⟩:=h hne
 refine⟨k,o,rfl,Nat.lt_of_lt_of_le hk f.size,fun j hj=>?_⟩
 obtain⟨av,rv,h1,h2,h3,h4,h5,h6,h7,h8,h9⟩:=hc j hj
 have g:∀ o,w'.cell? ⟨k,o,none⟩=w.cell? ⟨k,o,none⟩:=fun o=>f.cell hk (fun h=>h)
 exact⟨av,rv,(g _).trans h1,(g _).trans h2,(g _).trans h3,(g _).trans h4,(g _).trans h5,(g _).trans h6,(g _).trans h7,h8.stay f,h9.stay f⟩
def FineC (cs:List PI):Prop:=cs.length≤1599289640354∧∀ c∈cs,c.args.length≤17592186043904∧c.rets.length≤17592186043904
theorem under65 : Tryz.prog.underlying 41=some (.slice 79):=by kernel_rfl
def sev7 (w:World)(g q:Nat)(x:List Value):World :=
 ((((((w.setCell ⟨g,q,none⟩ (x.getD 0 undef)).setCell ⟨g,q+1,none⟩ (x.getD 1 undef)).setCell ⟨g,q+2,none⟩ (x.getD 2 undef)).setCell ⟨g,q+3,none⟩ (x.getD 3 undef)).setCell ⟨g,q+4,none⟩ (x.getD 4 undef)).setCell ⟨g,q+5,none⟩ (x.getD 5 undef)).setCell ⟨g,q+6,none⟩ (x.getD 6 undef)
theorem sev7_fr (w:World)(g q:Nat)(x:List Value):Fr (fun k=>k=g) w (sev7 w g q x):=by
 unfold sev7
 refine Fr.setCell (S:=fun k=>k=g) ?_ _ _ (Or.inl rfl)
 refine Fr.setCell (S:=fun k=>k=g) ?_ _ _ (Or.inl rfl)
 refine Fr.setCell (S:=fun k=>k=g) ?_ _ _ (Or.inl rfl)
 refine Fr.setCell (S:=fun k=>k=g) ?_ _ _ (Or.inl rfl)
 refine Fr.setCell (S:=fun k=>k=g) ?_ _ _ (Or.inl rfl)
 refine Fr.setCell (S:=fun k=>k=g) ?_ _ _ (Or.inl rfl)
 refine Fr.setCell (S:=fun k=>k=g) ?_ _ _ (Or.inl rfl)
 exact Fr.refl _ _
abbrev fR (f:PF)(cv:Value):List Value:=[vI f.P,vI f.R,vI f.V,cv]
def FA (w:World)(v:Value)(fs:List PF):Prop :=
 ∃ a cp,v = .slice a fs.length cp∧(fs≠[]→∃ k o,a=some ⟨k,o,none⟩∧k<w.heap.size∧∀ j (h:j<fs.length),∃ cv,
  w.cell? ⟨k,o+j*4,none⟩=some (vI fs[j].P)∧w.cell? ⟨k,o+j*4+1,none⟩=some (vI fs[j].R)∧w.cell? ⟨k,o+j*4+2,none⟩=some (vI fs[j].V)∧w.cell? ⟨k,o+j*4+3,none⟩=some cv∧CA w cv fs[j].code)
theorem FA.stay {w w':World}{v:Value}{fs:List PF}(h:FA w v fs)(f:Fr (fun _=>False) w w'):FA w' v fs:=by
 obtain⟨a,cp,rfl,h⟩:=h
 refine⟨a,cp,rfl,fun hne=>?_⟩
 obtain⟨k,o,rfl,hk,hc⟩:=h hne
 refine⟨k,o,rfl,Nat.lt_of_lt_of_le hk f.size,fun j hj=>?_⟩
 obtain⟨cv,h1,h2,h3,h4,h5⟩:=hc j hj
 have g:∀ o,w'.cell? ⟨k,o,none⟩=w.cell? ⟨k,o,none⟩:=fun o=>f.cell hk (fun h=>h)
 exact⟨cv,(g _).trans h1,(g _).trans h2,(g _).trans h3,(g _).trans h4,h5.stay f⟩
def FineP (fs:List PF):Prop:=fs.length≤2932031007317∧∀ f∈fs,FineC f.code
theorem under24 : Tryz.prog.underlying 22=some (.slice 45):=by kernel_rfl
def fou4 (w:World)(g q:Nat)(x:List Value):World :=
 (((w.setCell ⟨g,q,none⟩ (x.getD 0 undef)).setCell ⟨g,q+1,none⟩ (x.getD 1 undef)).setCell ⟨g,q+2,none⟩ (x.getD 2 undef)).setCell ⟨g,q+3,none⟩ (x.getD 3 undef)
theorem fou4_fr (w:World)(g q:Nat)(x:List Value):Fr (fun k=>k=g) w (fou4 w g q x):=by
 unfold fou4
 refine Fr.setCell (S:=fun k=>k=g) ?_ _ _ (Or.inl rfl)
 refine Fr.setCell (S:=fun k=>k=g) ?_ _ _ (Or.inl rfl)
 refine Fr.setCell (S:=fun k=>k=g) ?_ _ _ (Or.inl rfl)
 refine Fr.setCell (S:=fun k=>k=g) ?_ _ _ (Or.inl rfl)
 exact Fr.refl _ _
set_option maxRecDepth 100000
set_option maxHeartbeats 2000000
theorem heap_new0 (w:World)(o:Obj):(w.alloc o).heap[w.heap.size]?=some o:=(MapKept.heap_alloc w o).1
theorem cell_of0 {w:World}{k:Nat}{cs:Array Value}{t:TypeId}(h:w.heap[k]?=some (.cells cs t))(o:Nat):w.cell? ⟨k,o,none⟩=cs[o]?:=by
 unfold World.cell?;rw[h];simp
theorem heap_lt0 {w:World}{k:Nat}{o:Obj}(h:w.heap[k]?=some o):k<w.heap.size:=(Array.getElem?_eq_some_iff.1 h).1
def varX (R V v:Int):Int:=if 0≤R∧0≤V∧0≤v∧v<V then wrap64 (wrap64 (1+R)+v) else -1
def cellX (R V:Int):Int:=wrap64 (wrap64 (1+R)+V)
theorem numbered_any (P R V:Int)(a:Option Addr)(n c:Nat)(w:World) :
 Calls Tryz.prog 166 #[.agg #[vI P,vI R,vI V,.slice a n c]] w fun e w'=>e = .returned (.bool (decide (0≤R∧0≤V)))∧w'=w.alloc (.cells #[vI P,vI R,vI V,.slice a n c] 45):=by
 by_cases h1:0≤R
 ·by_cases h2:0≤V
  ·have d1:decide (R≥0)=true:=by simpa using h1
   have d2:decide (V≥0)=true:=by simpa using h2
   go_enter Tryz.func166,Tryz.ntmps166
   go_wp2_with fail
   go_ret
   exact⟨by simp[h1,h2],rfl⟩
  ·have d1:decide (R≥0)=true:=by simpa using h1
   have d2:decide (V≥0)=false:=by simpa using h2
   go_enter Tryz.func166,Tryz.ntmps166
   go_wp2_with fail
   go_ret
   exact⟨by simp[h1,h2],rfl⟩
 ·have d1:decide (R≥0)=false:=by simpa using h1
  go_enter Tryz.func166,Tryz.ntmps166
  go_wp2_with fail
  go_ret
  exact⟨by simp[h1],rfl⟩
theorem variable_any (P R V v:Int)(a:Option Addr)(n c:Nat)(w:World) :
 Calls Tryz.prog 128 #[.agg #[vI P,vI R,vI V,.slice a n c],vI v] w fun e w'=>e = .returned (vI (varX R V v))∧Fr (fun _=>False) w w':=by
 obtain⟨wa,hwa⟩:∃ wa,wa=w.alloc (.cells #[vI P,vI R,vI V,.slice a n c] 45):=⟨_,rfl⟩
 have hb:wa.heap[w.heap.size]?=some (.cells #[vI P,vI R,vI V,.slice a n c] 45):=by rw[hwa];exact heap_new0 w _
 have HWA:Hd (wa=w.alloc (.cells #[vI P,vI R,vI V,.slice a n c] 45)):=hwa
 obtain⟨H,hH⟩:∃ H,H=w.heap.size:=⟨_,rfl⟩
 have HH:Hd (H=w.heap.size):=hH
 rw[← hH] at hb
 have c0:wa.cell? ⟨H,0,none⟩=some (vI P):=by rw[cell_of0 hb];rfl
 have c1:wa.cell? ⟨H,1,none⟩=some (vI R):=by rw[cell_of0 hb];rfl
 have c2:wa.cell? ⟨H,2,none⟩=some (vI V):=by rw[cell_of0 hb];rfl
 have c3:wa.cell? ⟨H,3,none⟩=some (.slice a n c):=by rw[cell_of0 hb];rfl
 obtain⟨wb,hwb⟩:∃ wb,wb=wa.alloc (.cells #[vI P,vI R,vI V,.slice a n c] 45):=⟨_,rfl⟩
 have HWB:Hd (wb=wa.alloc (.cells #[vI P,vI R,vI V,.slice a n c] 45)):=hwb
 have hFa:Fr (fun _=>False) wa wb:=by rw[hwb];exact Fr.alloc (Fr.refl _ wa) _
 have HF:Hd (Fr (fun _=>False) w wb):=by refine Fr.trans ?_ hFa;rw[hwa];exact Fr.alloc (Fr.refl _ w) _
 have b1:wb.cell? ⟨H,1,none⟩=some (vI R):=(hFa.cell (heap_lt0 hb) (fun e=>e)).trans c1
 have b2:wb.cell? ⟨H,2,none⟩=some (vI V):=(hFa.cell (heap_lt0 hb) (fun e=>e)).trans c2
 clear hwa hH hb hwb hFa
 go_enter Tryz.func128,Tryz.ntmps128
 go_upto_region 1 with fail
 rw[← HWA.out,← HH.out]
 clear HWA
 go_wp2_with fail
 refine(show Calls Tryz.prog 166 #[.agg #[vI P,vI R,vI V,.slice a n c]] wa _ from numbered_any P R V a n c wa).mono ?_
 rintro e w1 ⟨rfl,rfl⟩
 rw[← HWB.out]
 clear HWB c0 c1 c2 c3
 by_cases hn:0≤R∧0≤V
 ·have d0:decide (0≤R∧0≤V)=true:=by simpa using hn
  rw[d0]
  clear d0
  by_cases hv:0≤v
  ·have d1:decide (v<0)=false:=by simpa using hv
   by_cases hv2:v<V
   ·have d2:decide (v≥V)=false:=by simpa using hv2
    have HX:Hd (varX R V v=wrap64 (wrap64 (1+R)+v)):=if_pos ⟨hn.1,hn.2,hv,hv2⟩
    clear hn hv hv2
    go_wp2_with fail
    go_ret
    exact⟨by rw[HX.out];rfl,HF.out⟩
   ·have d2:decide (v≥V)=true:=by simpa using hv2
    have HX:Hd (varX R V v = -1):=if_neg (fun h=>hv2 h.2.2.2)
    clear hn hv hv2
    go_wp2_with fail
    go_ret
    exact⟨by rw[HX.out];rfl,HF.out⟩
  ·have d1:decide (v<0)=true:=by simpa using hv
   have HX:Hd (varX R V v = -1):=if_neg (fun h=>hv h.2.2.1)
   clear hn hv
   go_wp2_with fail
   go_ret
   exact⟨by rw[HX.out];rfl,HF.out⟩
 ·have d0:decide (0≤R∧0≤V)=false:=by simpa using hn
  rw[d0]
  clear d0
  have HX:Hd (varX R V v = -1):=if_neg (fun h=>hn ⟨h.1,h.2.1⟩)
  clear hn
  go_wp2_with fail
  go_ret
  exact⟨by rw[HX.out];rfl,HF.out⟩
theorem IA.il {w:World}{v:Value}{l:List Int}(h:IA w v l){b:Nat}(hb:w.heap.size≤b):IL b w v l:=by
 obtain⟨a,c,e,h⟩:=h
 refine⟨a,c,e,fun hne=>?_⟩
 obtain⟨k,o,e,hk,hc⟩:=h hne
 exact⟨k,o,e,hk,by omega,hc⟩
theorem CA.cl {w:World}{v:Value}{cs:List PI}(h:CA w v cs)(hn:FineC cs){b:Nat}(hb:w.heap.size≤b):CL b w v cs:=by
 obtain⟨a,c,e,h⟩:=h
 refine⟨by have:=hn.1;omega,a,c,e,fun hne=>?_⟩
 obtain⟨k,o,e,hk,hc⟩:=h hne
 refine⟨k,o,e,hk,by omega,fun j hj=>?_⟩
 obtain⟨av,rv,h1,h2,h3,h4,h5,h6,h7,h8,h9⟩:=hc j hj
 have hf:=hn.2 _ (List.getElem_mem hj)
 exact⟨av,rv,h1,h2,h3,h4,h5,h6,h7,h8.il hb,h9.il hb,by omega,by omega⟩
theorem FA.fl {w:World}{v:Value}{fs:List PF}(h:FA w v fs)(hn:FineP fs){b:Nat}(hb:w.heap.size≤b):FL b w v fs:=by
 obtain⟨a,c,e,h⟩:=h
 refine⟨by have:=hn.1;omega,a,c,e,fun hne=>?_⟩
 obtain⟨k,o,e,hk,hc⟩:=h hne
 refine⟨k,o,e,hk,by omega,fun j hj=>?_⟩
 obtain⟨cv,h1,h2,h3,h4,h5⟩:=hc j hj
 exact⟨cv,h1,h2,h3,h4,h5.cl (hn.2 _ (List.getElem_mem hj)) hb⟩
theorem Tab.lt {w:World}(h:Tab w):2<w.heap.size:=by
 have:=h 0 (by omega)
 unfold World.cell? at this
 rcases Nat.lt_or_ge 2 w.heap.size with hk | hk
 ·exact hk
 ·simp[Array.getElem?_eq_none hk] at this
theorem Tab.stay {w w':World}(h:Tab w)(f:Fr (fun _=>False) w w'):Tab w':=h.fr f (fun e=>e)
set_option maxRecDepth 100000
set_option maxHeartbeats 2000000
structure PS where
 H:List Int
 R:List (List Int)
def derOk (d:Int):Bool:=d==9||(decide (0≤d)&&decide (d≤3))
def dersX (l:List Int)(n:Int):Bool:=decide ((l.length:Int)=n)&&l.all derOk
def fitsX (s:PS)(P R:Int):Bool:=decide ((s.R.length:Int)=P)&&(dersX s.H P&&s.R.all (fun l=>dersX l R))
def LA (w:World)(v:Value)(ls:List (List Int)):Prop :=
 ∃ a c,v = .slice a ls.length c∧(ls≠[]→∃ k o,a=some ⟨k,o,none⟩∧k<w.heap.size∧∀ j (h:j<ls.length),∃ x,w.cell? ⟨k,o+j,none⟩=some x∧IA w x ls[j])
theorem LA.stay {w w':World}{v:Value}{ls:List (List Int)}(h:LA w v ls)(f:Fr (fun _=>False) w w'):LA w' v ls:=by
 obtain⟨a,c,rfl,h⟩:=h
 refine⟨a,c,rfl,fun hne=>?_⟩
 obtain⟨k,o,rfl,hk,hc⟩:=h hne
 refine⟨k,o,rfl,Nat.lt_of_lt_of_le hk f.size,fun j hj=>?_⟩
 obtain⟨x,h1,h2⟩:=hc j hj
 exact⟨x,(f.cell hk (fun h=>h)).trans h1,h2.stay f⟩
theorem all_take_succ {α:Type}(l:List α)(p:α→Bool)(k:Nat)(h:k<l.length):(l.take (k+1)).all p=((l.take k).all p&&p l[k]):=by
 rw[List.take_succ_eq_append_getElem h,List.all_append]
 simp
theorem all_bad {α:Type}{l:List α}{p:α→Bool}{k:Nat}(h:k<l.length)(hp:p l[k]=false):l.all p=false:=by
 apply List.all_eq_false.2
 exact⟨l[k],List.getElem_mem h,by simp[hp]⟩
theorem derefs_any (v:Value)(l:List Int)(n:Int)(w:World)(h:IA w v l)(hl:l.length≤17592186043904) :
 Calls Tryz.prog 153 #[v,vI n] w fun e w'=>e = .returned (.bool (dersX l n))∧w'=w:=by
 obtain⟨a,c,rfl,hc⟩:=h
 have HC:Hd (l≠[]→∃ k o,a=some ⟨k,o,none⟩∧k<w.heap.size∧∀ j (h:j<l.length),w.cell? ⟨k,o+j,none⟩=some (vI l[j])):=hc
 clear hc
 go_enter Tryz.func153,Tryz.ntmps153
 by_cases hn:(l.length:Int)=n
 ·have hd1:((l.length:Int) != n)=false:=by simp[hn]
  have hd2:((l.length:Int)==n)=true:=by simp[hn]
  have HX:Hd (dersX l n=l.all derOk):=by unfold Hd dersX;rw[decide_eq_true hn];rfl
  subst hn
  go_wp2_with fail
  go_loopw [13] (fun v wr=>∃ (k:Nat),v = .int .i64 k∧k≤l.length∧wr=w∧Hd ((l.take k).all derOk=true)) (fun v _=>match v with | .int _ q=>l.length-q.toNat | _=>0)
  case atStart=>exact⟨0,rfl,by omega,rfl,rfl⟩
  case round =>
   obtain⟨k,rfl,hk,rfl,HA⟩:=hrel
   by_cases hlt:k<l.length
   ·obtain⟨g,o,rfl,hg,hcs⟩:=HC.out (by intro e;rw[e] at hlt;simp at hlt)
    have hck:=hcs k hlt
    have HS:=all_take_succ l derOk k hlt
    have HB:Hd (derOk l[k]=false→l.all derOk=false):=fun e=>all_bad hlt e
    have hk0:(0:Int)≤k:=by omega
    have hk1:(k:Int)<l.length:=by omega
    clear hcs
    generalize l[k]=d at *
    by_cases h9:d=9
    ·have e1:(d != 9)=false:=by simp[h9]
     have e2:(d==9)=true:=by simp[h9]
     have HN:Hd ((l.take (k+1)).all derOk=true):=by unfold Hd;rw[HS,HA.out];simp[derOk,h9]
     clear HS HB h9
     go_wp2_with fail
     exact⟨⟨k+1,by simp,by omega,by trivial,HN⟩,by simp;omega⟩
    ·have e1:(d != 9)=true:=by simp[h9]
     have e2:(d==9)=false:=by simp[h9]
     by_cases h0:d<0
     ·have e3:decide (d<0)=true:=by simp[h0]
      have HN:Hd (l.all derOk=false):=HB.out (by simp[derOk,h9];omega)
      clear HS HB
      go_wp2_with fail
      go_ret
      rw[HX.out,HN.out]
      exact⟨rfl,rfl⟩
     ·have e3:decide (d<0)=false:=by simp;omega
      by_cases h3:d>3
      ·have e4:decide (d>3)=true:=by simp;omega
       have e5:decide (3<d)=true:=by simp;omega
       have HN:Hd (l.all derOk=false):=HB.out (by simp[derOk,h9];omega)
       clear HS HB
       go_wp2_with fail
       go_ret
       rw[HX.out,HN.out]
       exact⟨rfl,rfl⟩
      ·have e4:decide (d>3)=false:=by simp;omega
       have e5:decide (3<d)=false:=by simp;omega
       have HN:Hd ((l.take (k+1)).all derOk=true):=by unfold Hd;rw[HS,HA.out];simp[derOk];right;omega
       clear HS HB
       go_wp2_with fail
       exact⟨⟨k+1,by simp,by omega,by trivial,HN⟩,by simp;omega⟩
   ·have hke:k=l.length:=by omega
    subst hke
    go_wp2_with fail
    go_ret
    have:=HA.out
    rw[List.take_of_length_le (Nat.le_refl _)] at this
    rw[HX.out,this]
    exact⟨rfl,rfl⟩
 ·have hd1:((l.length:Int) != n)=true:=by simp[hn]
  have hd2:((l.length:Int)==n)=false:=by simp[hn]
  have HX:Hd (dersX l n=false):=by unfold Hd dersX;rw[decide_eq_false hn];rfl
  go_wp2_with fail
  go_ret
  rw[HX.out]
  exact⟨rfl,rfl⟩
theorem fits_any (hv rv:Value)(s:PS)(P R V:Int)(ca:Option Addr)(cn cc:Nat)(w:World)(h1:IA w hv s.H)(h2:LA w rv s.R)(b1:s.H.length≤17592186043904)(b2:s.R.length≤17592186043904)(b3:∀ l∈s.R,l.length≤17592186043904) :
 Calls Tryz.prog 123 #[.agg #[hv,rv],.agg #[vI P,vI R,vI V,.slice ca cn cc]] w fun e w'=>e = .returned (.bool (fitsX s P R))∧Fr (fun _=>False) w w':=by
 obtain⟨W,hW⟩:∃ W,W=(w.alloc (.cells #[hv,rv] 33)).alloc (.cells #[vI P,vI R,vI V,.slice ca cn cc] 45):=⟨_,rfl⟩
 have HW:Hd (W=(w.alloc (.cells #[hv,rv] 33)).alloc (.cells #[vI P,vI R,vI V,.slice ca cn cc] 45)):=hW
 have hF:Fr (fun _=>False) w W:=by rw[hW];exact Fr.alloc (Fr.alloc (Fr.refl _ w) _) _
 have k1:W.heap[w.heap.size]?=some (.cells #[hv,rv] 33):=by
  rw[hW,Go.RowKit.Below.heap_alloc _ _ _ (by simp)];exact heap_new w _
 have k2:W.heap[w.heap.size+1]?=some (.cells #[vI P,vI R,vI V,.slice ca cn cc] 45):=by
  have:=heap_new (w.alloc (.cells #[hv,rv] 33)) (.cells #[vI P,vI R,vI V,.slice ca cn cc] 45)
  rw[World.size_alloc] at this
  rw[hW];exact this
 obtain⟨X,hX⟩:∃ X,X=w.heap.size:=⟨_,rfl⟩
 have HX:Hd (X=w.heap.size):=hX
 rw[← hX] at k1 k2
 have H1:Hd (IA W hv s.H):=h1.stay hF
 have H2:Hd (LA W rv s.R):=h2.stay hF
 have HF:Hd (Fr (fun _=>False) w W):=hF
 have HB3:Hd (∀ l∈s.R,l.length≤17592186043904):=b3
 obtain⟨ha,hc,ehv,-⟩:=h1
 obtain⟨la,lc,erv,-⟩:=h2
 subst ehv erv
 have c0:W.cell? ⟨X,0,none⟩=some (.slice ha s.H.length hc):=by rw[cell_of k1];rfl
 have c1:W.cell? ⟨X,1,none⟩=some (.slice la s.R.length lc):=by rw[cell_of k1];rfl
 have d0:W.cell? ⟨X+1,0,none⟩=some (vI P):=by rw[cell_of k2];rfl
 have d1:W.cell? ⟨X+1,1,none⟩=some (vI R):=by rw[cell_of k2];rfl
 clear hW hF k1 k2 hX b3
 go_enter Tryz.func123,Tryz.ntmps123
 go_upto_region 1 with fail
 rw[← HW.out,← HX.out]
 clear HW HX
 by_cases hn:(s.R.length:Int)=P
 ·have hd1:((s.R.length:Int) != P)=false:=by simp[hn]
  have hd2:((s.R.length:Int)==P)=true:=by simp[hn]
  have HFX:Hd (fitsX s P R=(dersX s.H P&&s.R.all (fun l=>dersX l R))):=by unfold Hd fitsX;rw[decide_eq_true hn];rfl
  clear hn
  go_wp2_with fail
  refine(derefs_any _ s.H P W H1.out b1).mono ?_
  rintro _ w1 ⟨rfl,rfl⟩
  cases hb:dersX s.H P with
  | false =>
    rw[hb] at HFX
    go_wp2_with fail
    go_ret
    exact⟨by rw[HFX.out];rfl,HF.out⟩
  | true =>
    rw[hb] at HFX
    clear hb
    go_wp2_with fail
    go_loopw [24] (fun v wr=>∃ (k:Nat),v = .int .i64 k∧k≤s.R.length∧wr=w1∧Hd ((s.R.take k).all (fun l=>dersX l R)=true)) (fun v _=>match v with | .int _ q=>s.R.length-q.toNat | _=>0)
    case atStart=>exact⟨0,rfl,by omega,rfl,rfl⟩
    case round =>
     obtain⟨k,rfl,hk,rfl,HA⟩:=hrel
     by_cases hlt:k<s.R.length
     ·obtain⟨a',c',e',hcs⟩:=H2.out
      cases e'
      obtain⟨g,o,rfl,hg,hcs⟩:=hcs (by intro e;rw[e] at hlt;simp at hlt)
      obtain⟨x,hck,hix⟩:=hcs k hlt
      have HS:=all_take_succ s.R (fun l=>dersX l R) k hlt
      have HB:Hd (dersX s.R[k] R=false→s.R.all (fun l=>dersX l R)=false):=fun e=>all_bad (p:=fun l=>dersX l R) hlt e
      have hlk:=HB3.out s.R[k] (List.getElem_mem hlt)
      have hk0:(0:Int)≤k:=by omega
      have hk1:(k:Int)<s.R.length:=by omega
      clear hcs
      generalize s.R[k]=l at *
      have HIX:Hd (IA wr x l):=hix
      obtain⟨xa,xc,ex,-⟩:=hix
      subst ex
      go_wp2_with fail
      refine(derefs_any _ l R wr HIX.out hlk).mono ?_
      rintro _ w2 ⟨rfl,rfl⟩
      cases hb:dersX l R with
      | false =>
        have HN:Hd (s.R.all (fun l=>dersX l R)=false):=HB.out hb
        clear HS HB hb
        go_wp2_with fail
        go_ret
        exact⟨by rw[HFX.out,HN.out];rfl,HF.out⟩
      | true =>
        have HN:Hd ((s.R.take (k+1)).all (fun l=>dersX l R)=true):=by unfold Hd;rw[HS,HA.out];simp[hb]
        clear HS HB hb
        go_wp2_with fail
        exact⟨⟨k+1,by simp,by omega,by trivial,HN⟩,by simp;omega⟩
     ·have hke:k=s.R.length:=by omega
      subst hke
      go_wp2_with fail
      go_ret
      have:=HA.out
      rw[List.take_of_length_le (Nat.le_refl _)] at this
      exact⟨by rw[HFX.out,this];rfl,HF.out⟩
 ·have hd1:((s.R.length:Int) != P)=true:=by simp[hn]
  have hd2:((s.R.length:Int)==P)=false:=by simp[hn]
  have HFX:Hd (fitsX s P R=false):=by unfold Hd fitsX;rw[decide_eq_false hn];rfl
  go_wp2_with fail
  go_ret
  exact⟨by rw[HFX.out];rfl,HF.out⟩
end Go.Proofs.YtdkijecnnmncnaaGreatDoor
