import Derived.Test.YtdkijecnnmncnaaGreatDoorQEjJ
import Derived.Test.YtdkijecnnmncnaaGreatDoorQMfJ
import Derived.Test.YtdkijecnnmncnaaGreatDoorQRhJ
import Derived.Test.YtdkijecnnmncnaaGreatDoorQKeJ
import Derived.Test.YtdkijecnnmncnaaGreatDoorProg
import Derived.WalkKit
import Derived.WalkLawsBesides
import Derived.StillTailTactics
import Derived.Deep.RegionHeld3
import Derived.Deep.RegionLaw
import Derived.Deep.AppendLies
import Derived.BigQuiet
import Derived.Laws.MathBits
import Derived.Laws.CopyOwn
import Derived.Laws.MakeOwn
set_option linter.unusedVariables false
set_option linter.unusedSimpArgs false
namespace Go.Proofs.YtdkijecnnmncnaaGreatDoor
open Go.RowKit Go.Shelf
noncomputable def wtX (es:List Ed)(rs:List Int)(i:Nat):Int :=
 open Classical in if Reach es rs i (-1) then -1 else if Reach es rs i 0 then 0 else if Reach es rs i 1 then 1 else if Reach es rs i 2 then 2 else if Reach es rs i 3 then 3 else 9
theorem wtX_way (es:List Ed)(rs:List Int)(i:Nat):wtX es rs i=9∨Reach es rs i (wtX es rs i):=by
 unfold wtX
 split
 ·exact Or.inr ‹_›
 ·split
  ·exact Or.inr ‹_›
  ·split
   ·exact Or.inr ‹_›
   ·split
    ·exact Or.inr ‹_›
    ·split
     ·exact Or.inr ‹_›
     ·exact Or.inl rfl
theorem wtX_le {es:List Ed}{rs:List Int}{i:Nat}{d:Int}(h:Reach es rs i d)(hd:flowsX d=true):wtX es rs i≤d:=by
 simp only[flowsX,decide_eq_true_eq] at hd
 have hc:d = -1∨d=0∨d=1∨d=2∨d=3:=by omega
 unfold wtX
 split
 ·omega
 ·split
  ·rcases hc with rfl | rfl | rfl | rfl | rfl<;>first | omega | contradiction
  ·split
   ·rcases hc with rfl | rfl | rfl | rfl | rfl<;>first | omega | contradiction
   ·split
    ·rcases hc with rfl | rfl | rfl | rfl | rfl<;>first | omega | contradiction
    ·split
     ·rcases hc with rfl | rfl | rfl | rfl | rfl<;>first | omega | contradiction
     ·rcases hc with rfl | rfl | rfl | rfl | rfl<;>contradiction
theorem wtX_top {n:Int}{es:List Ed}{rs:List Int}(hG:RightG n es rs)(i:Nat):wtX es rs i=9∨flowsX (wtX es rs i)=true:=by
 rcases wtX_way es rs i with h | h
 ·exact Or.inl h
 ·exact Or.inr (h.right hG).2
theorem wtX_least {n:Nat}{es:List Ed}{rs:List Int}(hG:RightG n es rs):Least n es rs (wtX es rs):=by
 refine⟨fun r hr=>wtX_le (.root hr) (by decide),fun d s k h=>?_,fun i _=>wtX_way es rs i⟩
 rcases wtX_way es rs d with e | r
 ·have e9:plusX (wtX es rs d) k=9:=by rw[e];simp[plusX,flowsX]
  rw[e9]
  rcases wtX_top hG s with e | e
  ·omega
  ·simp only[flowsX,decide_eq_true_eq] at e;omega
 ·have r':=Reach.step h r
  exact wtX_le r' (r'.right hG).2
noncomputable def escF (ss:List PS)(f:PF)(l:Nat):Bool:=decide (wtX (edgX ss f) (rootsX f.R.toNat) l = -1)
noncomputable def heapF (ss:List PS)(f:PF):Nat→Int:=wtX (edgX ss f) (heapsX (locN f) (escF ss f))
noncomputable def resF (ss:List PS)(f:PF)(j:Nat):Nat→Int:=wtX (edgX ss f) [1+(j:Int)]
noncomputable def solF (ss:List PS)(f:PF):PS:=sumX f.P f.R f.V (heapF ss f) (resF ss f)
section
variable {fs:List PF} {ss ss':List PS} {f:PF}
theorem solF_sol (hf:FunR fs f)(ht:toldX fs ss f.code=true)(hls:ss.length=fs.length):SolX (locN f) f.R.toNat (edgX ss f) (escF ss f) (heapF ss f) (resF ss f):=by
 have hE:=edg_edr hf ht hls
 exact⟨⟨_,wtX_least hE.roots,fun l hl=>rfl⟩,wtX_least (hE.heaps _),fun j hj=>wtX_least (hE.res hj)⟩
theorem SolX.is (hf:FunR fs f)(hPV:f.P≤f.V)(ht:toldX fs ss f.code=true)(hls:ss.length=fs.length){esc:Nat→Bool}{y:Nat→Int}{z:Nat→Nat→Int}(h:SolX (locN f) f.R.toNat (edgX ss f) esc y z) :
 (∀ l,l<locN f→esc l=escF ss f l)∧sumX f.P f.R f.V y z=solF ss f:=by
 obtain⟨h1,h2,h3⟩:=h.unique (edg_edr hf ht hls) (solF_sol hf ht hls)
 exact⟨h1,sumX_same (var_loc hf hPV) h2 h3⟩
end
def rk (d:Int):Nat:=if d=9 then 4 else d.toNat
def dPF : PF:=⟨0,0,0,[]⟩
abbrev fn (fs:List PF)(m:Nat):PF:=fs.getD m dPF
abbrev sm (ss:List PS)(m:Nat):PS:=ss.getD m dPS
noncomputable def stp (fs:List PF)(ss:List PS)(m:Nat):List PS:=ss.set m (solF ss (fn fs m))
section
variable {fs:List PF} {ms:List Nat} {ss t:List PS} {m:Nat}
noncomputable def goX (fs:List PF)(l:List Nat)(ss:List PS):List PS:=l.foldl (stp fs) ss
theorem go_still : ∀ l:List Nat,(∀ m∈l,stp fs ss m=ss)→goX fs l ss=ss
 | [],_=>rfl
 | m::l,h=>by
   show goX fs l (stp fs ss m)=ss
   rw[h m List.mem_cons_self]
   exact go_still l fun q hq=>h q (List.mem_cons_of_mem _ hq)
end
theorem head_pv {b:Nat}{s:WS}{y:WS × Unit}(h:headX (leaving b) (s,()) = .ok y):s.fP≤s.fV:=by
 rw[headX_then] at h
 obtain⟨y1,h1,h⟩:=thenX_ok h
 obtain⟨y2,h2,h⟩:=thenX_ok h
 obtain⟨y3,h3,h⟩:=thenX_ok h
 obtain⟨y4,h4,h⟩:=thenX_ok h
 obtain⟨u,h5,-⟩:=thenX_ok h
 cases (L_next 149 1 s ()).symm.trans h1
 cases (L_next 150 1 _ ()).symm.trans h2
 cases (L_next 151 1 _ ()).symm.trans h3
 cases (L_next 153 2 _ ()).symm.trans h4
 obtain⟨g1,g2,g3,g4,g5⟩:=headOk_ok h5
 have e:∀ a:Int,(if a<8 then a else 8)≤a:=fun a=>by split<;>omega
 exact Int.le_trans g2.2 (e _)
theorem check_pv {G:Int}{f:PF}{r:List PF}(h:checkP G (f::r)=0):f.P≤f.V:=by
 have ht:=told_overP 0 G (f::r) (WS.start nilS)
 unfold checkP at h
 cases ha:answerP G (f::r) with
 | error z =>
   rw[ha] at h
   exact absurd h (ht z ha)
 | ok y =>
   have ha:overP 0 G (f::r) (WS.start nilS) = .ok y:=ha
   obtain⟨x1,h1,h2⟩:=thenX_ok ha
   obtain⟨x2,h3,h4⟩:=thenX_ok h2
   obtain⟨x3,h5,h6⟩:=thenX_ok h4
   obtain⟨x4,h7,h8⟩:=thenX_ok h5
   exact head_pv h7
theorem alone_pv {G:Int}{fs:List PF}{f:PF}(h:checkP G (aloneP fs f)=0):f.P≤f.V:=check_pv (f:={ f with code:=renC fs.length 1 f.code }) (r:=headsF fs f.code) h
end Go.Proofs.YtdkijecnnmncnaaGreatDoor
namespace Go.Proofs.YtdkijecnnmncnaaGreatDoor
open Go.RowKit (wrap32 wrap64)
theorem FA.each {w:World}{v:Value}{fs:List PF}{n:Nat}(h:FA w v fs)(hn:fs.length=n):∃ a c,v = .slice a n c∧∀ i (hi:i<fs.length),∃ k o cv,a=some ⟨k,o,none⟩∧k<w.heap.size∧w.cell? ⟨k,o+i*4,none⟩=some (vI fs[i].P)∧w.cell? ⟨k,o+i*4+1,none⟩=some (vI fs[i].R)∧w.cell? ⟨k,o+i*4+2,none⟩=some (vI fs[i].V)∧w.cell? ⟨k,o+i*4+3,none⟩=some cv∧CA w cv fs[i].code:=by
 obtain⟨a,c,e,h⟩:=h
 refine⟨a,c,by rw[e,hn],fun i hi=>?_⟩
 obtain⟨k,o,e1,e2,e3⟩:=h (by intro e;simp[e] at hi)
 obtain⟨cv,h1,h2,h3,h4,h5⟩:=e3 i hi
 exact⟨k,o,cv,e1,e2,h1,h2,h3,h4,h5⟩
end Go.Proofs.YtdkijecnnmncnaaGreatDoor
namespace Go.Proofs.YtdkijecnnmncnaaGreatDoor.Wg
open Go.RowKit (wrap32 wrap64)
def Hd (p:Prop):Prop:=p
theorem Hd.out {p:Prop}(h:Hd p):p:=h
abbrev vI (n:Int):Value:=.int .i64 n
structure Fr (S:Nat→Prop)(w w':World):Prop where
 os:w'.os=w.os
 tape:w'.tape=w.tape
 output:w'.output=w.output
 size:w.heap.size≤w'.heap.size
 block:∀ k,k<w.heap.size→¬ S k→w'.heap[k]?=w.heap[k]?
theorem Fr.refl (S:Nat→Prop)(w:World):Fr S w w:=⟨rfl,rfl,rfl,Nat.le_refl _,fun _ _ _=>rfl⟩
theorem Fr.trans {S:Nat→Prop}{a b c:World}(h:Fr S a b)(k:Fr S b c):Fr S a c :=
 ⟨k.os.trans h.os,k.tape.trans h.tape,k.output.trans h.output,Nat.le_trans h.size k.size,fun j hj hS=>(k.block j (Nat.lt_of_lt_of_le hj h.size) hS).trans (h.block j hj hS)⟩
theorem Fr.mono {S T:Nat→Prop}{a b:World}(h:Fr S a b)(hs:∀ k,k<a.heap.size→S k→T k):Fr T a b :=
 ⟨h.os,h.tape,h.output,h.size,fun k hk hT=>h.block k hk (fun hS=>hT (hs k hk hS))⟩
theorem Fr.drew {S:Nat→Prop}{a w:World}(h:Fr S a w):Fr S a w.drew:=⟨h.os,h.tape,h.output,h.size,h.block⟩
theorem Fr.alloc {S:Nat→Prop}{a w:World}(h:Fr S a w)(o:Obj):Fr S a (w.alloc o) :=
 ⟨h.os,h.tape,h.output,by simp;have:=h.size;omega,fun k hk hS=>(Go.RowKit.Below.heap_alloc w o k (Nat.lt_of_lt_of_le hk h.size)).trans (h.block k hk hS)⟩
theorem Fr.setCell {S:Nat→Prop}{a w:World}(h:Fr S a w)(p:Addr)(v:Value)(hp:S p.block∨a.heap.size≤p.block):Fr S a (w.setCell p v) :=
 ⟨h.os,h.tape,h.output,by simpa using h.size,fun k hk hS=>by
  rw[Go.RowKit.Below.heap_setCell w p v k (by intro e;subst e;rcases hp with hp | hp;exact hS hp;omega)];exact h.block k hk hS⟩
theorem Fr.cell {S:Nat→Prop}{w w':World}(h:Fr S w w'){k o:Nat}(hk:k<w.heap.size)(hS:¬ S k):w'.cell? ⟨k,o,none⟩=w.cell? ⟨k,o,none⟩:=World.cell?_of_block (h.block k hk hS)
theorem Fr.anew {S T:Nat→Prop}{a b c:World}(h:Fr S a b)(k:Fr T b c)(hT:∀ j,j<a.heap.size→T j→S j):Fr S a c :=
 ⟨k.os.trans h.os,k.tape.trans h.tape,k.output.trans h.output,Nat.le_trans h.size k.size,fun j hj hS=>(k.block j (Nat.lt_of_lt_of_le hj h.size) (fun t=>hS (hT j hj t))).trans (h.block j hj hS)⟩
theorem grown_fr {w w':World}{row:Option Nat}(h:w.grownBy w' row):Fr (fun k=>row=some k) w w' :=
 ⟨h.os,h.tape,h.output,h.size,fun k hk hS=>h.block k hk (fun e=>hS e.symm)⟩
theorem ownsRow_fr {S:Nat→Prop}{w w':World}{B e size n:Nat}{v:Value}{xs:List Value}(h:w.ownsRow B e size v n xs)(f:Fr S w w')(hS:∀ g,v.ownBlock=some g→¬ S g):w'.ownsRow B e size v n xs:=by
 refine⟨h.1,?_⟩
 rcases h.2 with h2 | ⟨g,cap,cur,rfl,h3,h4,h5⟩
 ·exact Or.inl h2
 ·exact Or.inr ⟨g,cap,cur,rfl,h3,by rw[f.block g ((Array.getElem?_eq_some_iff.1 h4).1) (hS g rfl)];exact h4,h5⟩
theorem mixed : Tryz.prog.follows .mixedOrders=true:=by kernel_rfl
theorem addr_add (g j:Nat):(⟨g,0,none⟩:Addr).add j=⟨g,j,none⟩:=by unfold Addr.add;split<;>simp_all
theorem addr_off (b off i:Nat):(⟨b,off,none⟩:Addr).add i=⟨b,off+i,none⟩:=by unfold Addr.add;split<;>simp_all
theorem heap_alloc_last (w:World)(o:Obj):(w.alloc o).heap[w.heap.size]?=some o:=(MapKept.heap_alloc w o).1
theorem heap_lt {w:World}{k:Nat}{o:Obj}(h:w.heap[k]?=some o):k<w.heap.size:=(Array.getElem?_eq_some_iff.1 h).1
theorem cell_of {w:World}{k:Nat}{cs:Array Value}{t:TypeId}(h:w.heap[k]?=some (.cells cs t))(o:Nat):w.cell? ⟨k,o,none⟩=cs[o]?:=by
 unfold World.cell?;rw[h];simp
theorem frozen_of {w:World}{k:Nat}{cs:Array Value}{t:TypeId}(h:w.heap[k]?=some (.cells cs t))(o:Nat):w.frozen? ⟨k,o,none⟩=false:=by
 unfold World.frozen?;rw[h];simp
theorem set_of {w:World}{k:Nat}{cs:Array Value}{t:TypeId}(h:w.heap[k]?=some (.cells cs t))(o:Nat)(v:Value):(w.setCell ⟨k,o,none⟩ v).heap[k]?=some (.cells (cs.setIfInBounds o v) t):=by
 unfold World.setCell
 simp only[Array.getElem?_modify]
 rw[if_pos trivial,h]
 rfl
def upd {α:Type}(f:Nat→α)(i:Nat)(x:α):Nat→α:=fun j=>if j=i then x else f j
theorem upd_same {α:Type}(f:Nat→α)(i:Nat)(x:α):upd f i x i=x:=by simp[upd]
theorem upd_ne {α:Type}(f:Nat→α){i j:Nat}(x:α)(h:j≠i):upd f i x j=f j:=by simp[upd,h]
def Row (w:World)(t:TypeId)(b m:Nat)(g:Nat→Value):Prop:=∃ cs:Array Value,w.heap[b]?=some (.cells cs t)∧cs.size=m∧∀ i,i<m→cs[i]?=some (g i)
theorem Row.lt {w:World}{t:TypeId}{b m:Nat}{g:Nat→Value}(h:Row w t b m g):b<w.heap.size:=by obtain⟨cs,h,-⟩:=h;exact heap_lt h
theorem Row.cell {w:World}{t:TypeId}{b m:Nat}{g:Nat→Value}(h:Row w t b m g){i:Nat}(hi:i<m):w.cell? ⟨b,i,none⟩=some (g i):=by
 obtain⟨cs,h,hs,hc⟩:=h;rw[cell_of h];exact hc i hi
theorem Row.frozen {w:World}{t:TypeId}{b m:Nat}{g:Nat→Value}(h:Row w t b m g)(i:Nat):w.frozen? ⟨b,i,none⟩=false:=by
 obtain⟨cs,h,hs,hc⟩:=h;exact frozen_of h i
theorem Row.fr {S:Nat→Prop}{w w':World}{t:TypeId}{b m:Nat}{g:Nat→Value}(h:Row w t b m g)(f:Fr S w w')(hS:¬ S b):Row w' t b m g:=by
 have hl:=h.lt
 obtain⟨cs,h,hs,hc⟩:=h;exact⟨cs,(f.block b hl hS).trans h,hs,hc⟩
theorem Row.set {w:World}{t:TypeId}{b m:Nat}{g:Nat→Value}(h:Row w t b m g)(i:Nat)(v:Value):Row (w.setCell ⟨b,i,none⟩ v) t b m (upd g i v):=by
 obtain⟨cs,h,hs,hc⟩:=h
 refine⟨cs.setIfInBounds i v,set_of h i v,by simpa using hs,fun j hj=>?_⟩
 rw[Array.getElem?_setIfInBounds]
 by_cases e:i=j
 ·subst e;simp[upd,hs,hj]
 ·rw[if_neg e,hc j hj,upd_ne _ _ (fun x=>e x.symm)]
theorem Row.congr {w:World}{t:TypeId}{b m:Nat}{g g':Nat→Value}(h:Row w t b m g)(e:∀ i,i<m→g i=g' i):Row w t b m g':=by
 obtain⟨cs,h,hs,hc⟩:=h
 exact⟨cs,h,hs,fun i hi=>(hc i hi).trans (by rw[e i hi])⟩
theorem Row.setI {w:World}{t:TypeId}{b m:Nat}{f:Nat→Int}(h:Row w t b m (fun i=>vI (f i)))(i:Nat)(x:Int):Row (w.setCell ⟨b,i,none⟩ (vI x)) t b m (fun j=>vI (upd f i x j)) :=
 (h.set i (vI x)).congr fun j _=>by unfold upd;split<;>rfl
theorem Row.setB {w:World}{t:TypeId}{b m:Nat}{f:Nat→Bool}(h:Row w t b m (fun i=>.bool (f i)))(i:Nat)(x:Bool):Row (w.setCell ⟨b,i,none⟩ (.bool x)) t b m (fun j=>.bool (upd f i x j)) :=
 (h.set i (.bool x)).congr fun j _=>by unfold upd;split<;>rfl
theorem Row.made (w:World)(t:TypeId)(m:Nat)(v:Value):Row (w.alloc (.cells (Array.replicate m v) t)) t w.heap.size m (fun _=>v) :=
 ⟨_,heap_alloc_last w _,by simp,fun i hi=>by simp[Array.getElem?_replicate,hi]⟩
abbrev Ed := Int × Int × Int
def IntsAt (n0:Nat)(w:World)(v:Value)(zs:List Int):Prop :=
 ∃ a c,v = .slice a zs.length c∧zs.length≤c∧(zs≠[]→∃ k o,a=some ⟨k,o,none⟩∧k<n0∧∀ i (h:i<zs.length),w.cell? ⟨k,o+i,none⟩=some (vI zs[i]))
def EdgesAt (n0:Nat)(w:World)(v:Value)(es:List Ed):Prop :=
 ∃ a c,v = .slice a es.length c∧es.length≤c∧(es≠[]→∃ k o,a=some ⟨k,o,none⟩∧k<n0∧∀ i (h:i<es.length),
  w.cell? ⟨k,o+i*3,none⟩=some (vI es[i].1)∧w.cell? ⟨k,o+i*3+1,none⟩=some (vI es[i].2.1)∧w.cell? ⟨k,o+i*3+2,none⟩=some (vI es[i].2.2))
theorem EdgesAt.fr {S:Nat→Prop}{n0:Nat}{w w':World}{v:Value}{es:List Ed}(h:EdgesAt n0 w v es)(f:Fr S w w')(hn:n0≤w.heap.size)(hS:∀ k,k<n0→¬ S k):EdgesAt n0 w' v es:=by
 obtain⟨a,c,e,hc,h⟩:=h
 refine⟨a,c,e,hc,fun hne=>?_⟩
 obtain⟨k,o,e,hk,h⟩:=h hne
 exact⟨k,o,e,hk,fun i hi=>⟨(f.cell (by omega) (hS k hk)).trans (h i hi).1,(f.cell (by omega) (hS k hk)).trans (h i hi).2.1,(f.cell (by omega) (hS k hk)).trans (h i hi).2.2⟩⟩
def flowsX (d:Int):Bool:=decide (-1≤d∧d≤3)
def plusX (d k:Int):Int:=if flowsX d&&flowsX k then min (max d 0+k) 3 else 9
def weightX (d:Int):Int:=if flowsX d then d else 9
theorem flows_any (d:Int)(w:World):Calls Tryz.prog 195 #[.int .i64 d] w fun e w'=>e = .returned (.bool (flowsX d))∧w'=w:=by
 by_cases h : -1≤d
 ·have h':decide (-1≤d)=true:=by simpa using h
  go_enter Tryz.func195,Tryz.ntmps195
  go_wp2
  go_ret
  exact⟨by simp[flowsX,h],rfl⟩
 ·have h':decide (-1≤d)=false:=by simpa using h
  go_enter Tryz.func195,Tryz.ntmps195
  go_wp2
  go_ret
  exact⟨by simp[flowsX];omega,rfl⟩
theorem below_any (d n:Int)(w:World):Calls Tryz.prog 194 #[.int .i64 d,.int .i64 n] w fun e w'=>e = .returned (.bool (decide (0≤d∧d<n)))∧w'=w:=by
 by_cases h:0≤d
 ·have h':decide (0≤d)=true:=by simpa using h
  go_enter Tryz.func194,Tryz.ntmps194
  go_wp2
  go_ret
  exact⟨by simp[h],rfl⟩
 ·have h':decide (0≤d)=false:=by simpa using h
  go_enter Tryz.func194,Tryz.ntmps194
  go_wp2
  go_ret
  exact⟨by simp[h],rfl⟩
theorem plus_any (d k:Int)(w:World):Calls Tryz.prog 165 #[.int .i64 d,.int .i64 k] w fun e w'=>e = .returned (vI (plusX d k))∧w'=w:=by
 cases hd:flowsX d
 ·go_enter Tryz.func165,Tryz.ntmps165
  go_wp2_with fail
  refine(flows_any d w).mono ?_
  rintro e w1 ⟨rfl,rfl⟩
  rw[hd]
  go_wp2_with fail
  go_ret
  exact⟨by simp[plusX,hd],rfl⟩
 ·cases hk:flowsX k
  ·go_enter Tryz.func165,Tryz.ntmps165
   go_wp2_with fail
   refine(flows_any d w).mono ?_
   rintro e w1 ⟨rfl,rfl⟩
   rw[hd]
   go_wp2_with fail
   refine(flows_any k w1).mono ?_
   rintro e w2 ⟨rfl,rfl⟩
   rw[hk]
   go_wp2_with fail
   go_ret
   exact⟨by simp[plusX,hd,hk],rfl⟩
  ·go_enter Tryz.func165,Tryz.ntmps165
   go_wp2_with fail
   refine(flows_any d w).mono ?_
   rintro e w1 ⟨rfl,rfl⟩
   rw[hd]
   go_wp2_with fail
   refine(flows_any k w1).mono ?_
   rintro e w2 ⟨rfl,rfl⟩
   rw[hk]
   go_wp2_with fail
   all_goals
    go_ret
    refine⟨?_,rfl⟩
    simp only[flowsX,decide_eq_true_eq] at hd hk
    have e:plusX d k=min (max d 0+k) 3:=by simp[plusX,flowsX,hd,hk]
    rw[e]
    refine congrArg (fun z=>Ending.returned (vI z)) ?_
    unfold wrap64 at *
    rcases Int.lt_or_le d 0 with h0 | h0
    ·rw[show max d 0=0 by omega]
     try simp only[if_pos h0] at *
     omega
    ·rw[show max d 0=d by omega]
     try simp only[if_neg (Int.not_lt.2 h0)] at *
     omega
end Go.Proofs.YtdkijecnnmncnaaGreatDoor.Wg
namespace Go.Proofs.YtdkijecnnmncnaaGreatDoor.Wg
theorem plusX_mono {a b:Int}(k:Int)(h:a≤b)(ha:flowsX a=true):plusX a k≤plusX b k:=by
 simp only[plusX,flowsX] at *
 simp only[decide_eq_true_eq] at ha
 by_cases hb : -1≤b∧b≤3
 ·by_cases hk : -1≤k∧k≤3
  ·simp[ha,hb,hk];omega
  ·simp[hk]
 ·by_cases hk : -1≤k∧k≤3
  ·simp[ha,hb,hk];omega
  ·simp[hk]
theorem plusX_flows {a k:Int}(ha:flowsX a=true)(hk:flowsX k=true):flowsX (plusX a k)=true:=by
 simp only[plusX,ha,hk,flowsX,decide_eq_true_eq] at *
 simp
 omega
theorem plusX_nine (k:Int):plusX 9 k=9:=by simp[plusX,flowsX]
inductive Reach (es:List Ed) (rs:List Int):Int→Int→Prop
 | root {r:Int}:r∈rs→Reach es rs r 0
 | step {e:Ed} {d:Int}:e∈es→Reach es rs e.1 d→Reach es rs e.2.1 (plusX d e.2.2)
structure Least (n:Nat)(es:List Ed)(rs:List Int)(x:Nat→Int):Prop where
 root:∀ r:Nat,(r:Int)∈rs→x r≤0
 edge:∀ (d s:Nat) k,((d:Int),(s:Int),k)∈es→x s≤plusX (x d) k
 way:∀ i,i<n→x i=9∨Reach es rs i (x i)
def RightE (n:Int)(e:Ed):Prop:=(0≤e.1∧e.1<n)∧(0≤e.2.1∧e.2.1<n)∧flowsX e.2.2=true
instance (n : Int) (e:Ed):Decidable (RightE n e):=by unfold RightE;infer_instance
def RightG (n:Int)(es:List Ed)(rs:List Int):Prop:=(0≤n∧n≤1048576)∧(∀ e∈es,RightE n e)∧(∀ r∈rs,0≤r∧r<n)
instance (n : Int) (es:List Ed) (rs:List Int):Decidable (RightG n es rs):=by unfold RightG;infer_instance
end Go.Proofs.YtdkijecnnmncnaaGreatDoor.Wg
namespace Go.Proofs.YtdkijecnnmncnaaGreatDoor.Wg
open Go.RowKit (wrap32 wrap64)
set_option maxRecDepth 100000
set_option maxHeartbeats 1000000
theorem right_any (n:Int)(ev rv:Value)(es:List Ed)(rs:List Int)(w:World)(hE:EdgesAt w.heap.size w ev es)(hR:IntsAt w.heap.size w rv rs)(hel:es.length≤100000000000000)(hrl:rs.length≤100000000000000) :
 Calls Tryz.prog 159 #[.int .i64 n,ev,rv] w fun e w'=>e = .returned (.bool (decide (RightG n es rs)))∧Fr (fun _=>False) w w':=by
 obtain⟨ea,ec,rfl,-,hein⟩:=hE
 obtain⟨ra,rc,rfl,-,hrin⟩:=hR
 have HE:Hd _:=hein
 have HR:Hd _:=hrin
 clear hein hrin
 by_cases hn0:n<0
 ·go_enter Tryz.func159,Tryz.ntmps159
  go_wp2_with fail
  go_ret
  refine⟨?_,Fr.refl _ _⟩
  rw[decide_eq_false (fun h=>by have:=h.1;omega)]
  rfl
 by_cases hn1:1048576<n
 ·go_enter Tryz.func159,Tryz.ntmps159
  go_wp2_with fail
  go_ret
  refine⟨?_,Fr.refl _ _⟩
  rw[decide_eq_false (fun h=>by have:=h.1;omega)]
  rfl
 have hn0':decide (n<0)=false:=by simpa using hn0
 have hn1':decide (1048576<n)=false:=by simpa using hn1
 go_enter Tryz.func159,Tryz.ntmps159
 go_wp2_with fail
 go_loopw [19] (fun v wr=>∃ (k:Nat),v = .int .i64 k∧k≤es.length∧Hd (∀ e∈es.take k,RightE n e)∧Hd (Fr (fun _=>False) w wr)) (fun v _=>match v with | .int _ q=>es.length-q.toNat | _=>0)
 case atStart=>exact⟨0,rfl,Nat.zero_le _,fun e h=>by simp at h,Fr.refl _ _⟩
 case round =>
  obtain⟨k,rfl,hk,HA,HF⟩:=hrel
  by_cases hlt:k<es.length
  ·obtain⟨pk,po,rfl,hpk,hcs⟩:=HE.out (by intro e;simp[e] at hlt)
   obtain⟨c0,c1,c2⟩:=hcs k hlt
   have p0:=(HF.out.cell (o:=po+k*3) hpk (fun h=>h)).trans c0
   have p1:=(HF.out.cell (o:=po+k*3+1) hpk (fun h=>h)).trans c1
   have p2:=(HF.out.cell (o:=po+k*3+2) hpk (fun h=>h)).trans c2
   clear hcs c0 c1 c2
   have HT:Hd (es.take (k+1)=es.take k++[es[k]]):=by
    unfold Hd;rw[List.take_add_one,List.getElem?_eq_getElem hlt];rfl
   have HM:Hd (es[k]∈es):=List.getElem_mem hlt
   obtain⟨e,he⟩:∃ e,es[k]=e:=⟨_,rfl⟩
   rw[he] at p0 p1 p2 HT HM
   clear he
   obtain⟨d,s,q⟩:=e
   have hk0:(0:Int)≤k:=by omega
   have hk1:(k:Int)<es.length:=by omega
   have hF1:Hd (Fr (fun _=>False) w (wr.alloc (.cells #[vI d,vI s,vI q] 140))):=HF.out.alloc _
   by_cases hd:0≤d∧d<n
   ·by_cases hs:0≤s∧s<n
    ·cases hq:flowsX q
     ·go_wp2_with fail
      refine(below_any d n _).mono ?_
      rintro e w2 ⟨rfl,rfl⟩
      rw[decide_eq_true hd]
      go_wp2_with fail
      refine(below_any s n _).mono ?_
      rintro e w2 ⟨rfl,rfl⟩
      rw[decide_eq_true hs]
      go_wp2_with fail
      refine(flows_any q _).mono ?_
      rintro e w2 ⟨rfl,rfl⟩
      rw[hq]
      go_wp2_with fail
      go_ret
      refine⟨?_,hF1.out⟩
      rw[decide_eq_false (fun h=>by have:=(h.2.1 _ HM.out).2.2;rw[hq] at this;cases this)]
      rfl
     ·go_wp2_with fail
      refine(below_any d n _).mono ?_
      rintro e w2 ⟨rfl,rfl⟩
      rw[decide_eq_true hd]
      go_wp2_with fail
      refine(below_any s n _).mono ?_
      rintro e w2 ⟨rfl,rfl⟩
      rw[decide_eq_true hs]
      go_wp2_with fail
      refine(flows_any q _).mono ?_
      rintro e w2 ⟨rfl,rfl⟩
      rw[hq]
      go_wp2_with fail
      refine⟨⟨k+1,by simp,by omega,?_,hF1.out⟩,by simp;omega⟩
      unfold Hd
      rw[HT.out]
      intro e hme
      rcases List.mem_append.1 hme with h | h
      ·exact HA.out e h
      ·rw[List.mem_singleton.1 h];exact⟨hd,hs,hq⟩
    ·go_wp2_with fail
     refine(below_any d n _).mono ?_
     rintro e w2 ⟨rfl,rfl⟩
     rw[decide_eq_true hd]
     go_wp2_with fail
     refine(below_any s n _).mono ?_
     rintro e w2 ⟨rfl,rfl⟩
     rw[decide_eq_false hs]
     go_wp2_with fail
     go_ret
     refine⟨?_,hF1.out⟩
     rw[decide_eq_false (fun h=>hs (h.2.1 _ HM.out).2.1)]
     rfl
   ·go_wp2_with fail
    refine(below_any d n _).mono ?_
    rintro e w2 ⟨rfl,rfl⟩
    rw[decide_eq_false hd]
    go_wp2_with fail
    go_ret
    refine⟨?_,hF1.out⟩
    rw[decide_eq_false (fun h=>hd (h.2.1 _ HM.out).1)]
    rfl
  ·have hke:k=es.length:=by omega
   have HA2:Hd (∀ e∈es,RightE n e):=by have:=HA.out;rw[hke,List.take_length] at this;exact this
   clear HA
   subst hke
   go_wp2_with fail
   go_loopw [44] (fun v wr=>∃ (k:Nat),v = .int .i64 k∧k≤rs.length∧Hd (∀ r∈rs.take k,0≤r∧r<n)∧Hd (Fr (fun _=>False) w wr)) (fun v _=>match v with | .int _ q=>rs.length-q.toNat | _=>0)
   case atStart=>exact⟨0,rfl,Nat.zero_le _,fun e h=>by simp at h,HF.out⟩
   case round =>
    obtain⟨k,rfl,hk,HA,HF⟩:=hrel
    by_cases hlt:k<rs.length
    ·obtain⟨pk,po,rfl,hpk,hcs⟩:=HR.out (by intro e;simp[e] at hlt)
     have p0:=(HF.out.cell (o:=po+k) hpk (fun h=>h)).trans (hcs k hlt)
     clear hcs
     have HT:Hd (rs.take (k+1)=rs.take k++[rs[k]]):=by
      unfold Hd;rw[List.take_add_one,List.getElem?_eq_getElem hlt];rfl
     have HM:Hd (rs[k]∈rs):=List.getElem_mem hlt
     obtain⟨r,he⟩:∃ e,rs[k]=e:=⟨_,rfl⟩
     rw[he] at p0 HT HM
     clear he
     have hk0:(0:Int)≤k:=by omega
     have hk1:(k:Int)<rs.length:=by omega
     by_cases hd:0≤r∧r<n
     ·go_wp2_with fail
      refine(below_any r n _).mono ?_
      rintro e w2 ⟨rfl,rfl⟩
      rw[decide_eq_true hd]
      go_wp2_with fail
      refine⟨⟨k+1,by simp,by omega,?_,HF.out⟩,by simp;omega⟩
      unfold Hd
      rw[HT.out]
      intro e hme
      rcases List.mem_append.1 hme with h | h
      ·exact HA.out e h
      ·rw[List.mem_singleton.1 h];exact hd
     ·go_wp2_with fail
      refine(below_any r n _).mono ?_
      rintro e w2 ⟨rfl,rfl⟩
      rw[decide_eq_false hd]
      go_wp2_with fail
      go_ret
      refine⟨?_,HF.out⟩
      rw[decide_eq_false (fun h=>hd (h.2.2 _ HM.out))]
      rfl
    ·have hke:k=rs.length:=by omega
     have HA3:Hd (∀ r∈rs,0≤r∧r<n):=by have:=HA.out;rw[hke,List.take_length] at this;exact this
     clear HA
     subst hke
     go_wp2_with fail
     go_ret
     refine⟨?_,HF.out⟩
     rw[decide_eq_true ⟨⟨by omega,by omega⟩,HA2.out,HA3.out⟩]
     rfl
end Go.Proofs.YtdkijecnnmncnaaGreatDoor.Wg
namespace Go.Proofs.YtdkijecnnmncnaaGreatDoor.Wg
open Go.RowKit (wrap32 wrap64)
set_option maxRecDepth 100000
set_option maxHeartbeats 1000000
theorem mul64_one (n:Nat)(hn:n≤1048577)(w:World):Calls Tryz.prog 190 #[.int .u64 1,.int .u64 n] w fun e w'=>e = .returned (.tuple #[.int .u64 0,.int .u64 n])∧w'=w:=by
 have e1:bits .and .u64 1 4294967295=1:=by kernel_rfl
 have e2:bits .and .u64 (n:Int) 4294967295=n:=by rw[and_low32 _ (by omega) (by omega)];omega
 have e3:bits .and .u64 0 4294967295=0:=by kernel_rfl
 have e4:(n:Int) / 4294967296=0:=by omega
 have e5:IntKind.u64.wrap (n:Int)=n:=by simp[IntKind.wrap,IntKind.bits,IntKind.signed];omega
 have e6:IntKind.u64.wrap (0:Int)=0:=by kernel_rfl
 go_enter Tryz.func190,Tryz.ntmps190
 go_wp2
 go_ret2
 exact⟨rfl,rfl⟩
theorem mul_one (n:Nat)(hn:n≤1048577)(w:World):Calls Tryz.prog 152 #[.int .u64 1,.int .u64 n] w fun e w'=>e = .returned (.tuple #[.int .u64 0,.int .u64 n])∧w'=w:=by
 go_enter Tryz.func152,Tryz.ntmps152
 go_wp2_with fail
 refine(mul64_one n hn w).mono ?_
 rintro e w1 ⟨rfl,rfl⟩
 go_wp2_with fail
 go_ret2
 exact⟨rfl,rfl⟩
theorem run_make_of (t e:TypeId)(z:Value)(size bytes:Nat)(ht:Tryz.prog.underlying t=some (.slice e))(hz:(Tryz.prog.info? e).map (·.zero)=some (some z))(hs:(Tryz.prog.info? e).map (·.size)=some size)(hb:(Tryz.prog.info? e).map (·.bytes)=some bytes)
 (n:Nat) (hn:bytes*n≤281474976710656) (hn':n≤1000000000000000) (w:World) :
 (Instr.makeSlice t (.int .i64 n) (.int .i64 n)).run Tryz.prog w = .ok (.slice (some ⟨w.heap.size,0,none⟩) n n) (w.alloc (.cells (madeCells z.cells (n*size)) e)):=by
 cases hi:Tryz.prog.info? e with
 | none=>rw[hi] at hz;cases hz
 | some i =>
   rw[hi] at hz hs hb
   simp only[Option.map_some,Option.some.injEq] at hz hs hb
   have:=run_make (P:=Tryz.prog) w t e i z ht hi hz .i64 .i64 n n (by omega) (by omega) (by rw[hb,← Int.natCast_mul];omega) (by omega)
   rw[this,hs]
   simp
theorem made_one (z:Value)(n:Nat):madeCells #[z] n=(List.replicate n z).toArray:=by
 unfold madeCells
 apply Array.ext
 ·simp
 ·intro i h1 h2
  simp[Nat.mod_one]
theorem under22 : Tryz.prog.underlying 30=some (.slice 3):=by kernel_rfl
theorem size3 : (Tryz.prog.info? 3).map (·.size)=some 1:=by kernel_rfl
def nines (n k:Nat):List Value:=List.replicate k (vI 9)++List.replicate (n-k) (vI 0)
theorem nines_length (n k:Nat)(h:k≤n):(nines n k).length=n:=by simp[nines];omega
theorem nines_zero (n:Nat):nines n 0=List.replicate n (vI 0):=by simp[nines]
theorem nines_all (n:Nat):nines n n=List.replicate n (vI 9):=by simp[nines]
theorem nines_splice (n k m:Nat)(h:k+m≤n):splice (nines n k) k (List.replicate m (vI 9))=nines n (k+m):=by
 unfold splice nines
 rw[List.take_append_of_le_length (by simp),List.take_of_length_le (by simp),List.drop_append]
 simp only[List.length_replicate,List.drop_replicate]
 rw[show k-(k+m)=0 by omega,show n-k-(k+m-k)=n-(k+m) by omega]
 rw[← List.append_assoc,List.replicate_append_replicate]
 simp
theorem nines_get (n k j:Nat)(h:j<k):(nines n k)[j]?=some (vI 9):=by
 unfold nines
 rw[List.getElem?_append_left (by simpa using h)]
 simp[List.getElem?_replicate,h]
theorem below_fr {B:Nat}{w w':World}(h:RowKit.Below B w w')(hB:B=w.heap.size):Fr (fun _=>False) w w' :=
 ⟨h.os,h.tape,h.output,h.size,fun k hk _=>h.block k (by omega)⟩
theorem make_ints (n:Nat)(hn:n≤10000000000000)(w:World):(Instr.makeSlice 30 (.int .i64 n) (.int .i64 n)).run Tryz.prog w = .ok (.slice (some ⟨w.heap.size,0,none⟩) n n) (w.alloc (.cells (Array.replicate n (vI 0)) 3)):=by
 rw[run_make_of 30 3 (vI 0) 1 8 under22 (by kernel_rfl) (by kernel_rfl) (by kernel_rfl) n (by omega) (by omega) w,Nat.mul_one]
 show Result.ok _ (w.alloc (.cells (madeCells #[vI 0] n) 3))=_
 rw[made_one,List.toArray_replicate]
theorem copy_first (xb n:Nat)(w:World)(hxl:xb<w.heap.size)(hx:w.cell? ⟨xb,0,none⟩=some (vI 9)) :
 ∃ w2,(Builtin.copy_ #[30,30] 3 #[.slice (some ⟨w.heap.size,0,none⟩) n n,.slice (some ⟨xb,0,none⟩) 1 1]).run Tryz.prog (w.alloc (.cells (Array.replicate n (vI 0)) 3)) = .ok (.int .i64 (min 1 n:Nat)) w2 ∧
  w2.heap[w.heap.size]?=some (.cells (nines n (min 1 n)).toArray 3)∧Fr (fun _=>False) w w2:=by
 have hg0:(w.alloc (.cells (Array.replicate n (vI 0)) 3)).heap[w.heap.size]?=some (.cells (nines n 0).toArray 3):=by
  rw[heap_alloc_last,nines_zero,List.toArray_replicate]
 have hb0:Fr (fun _=>False) w (w.alloc (.cells (Array.replicate n (vI 0)) 3)):=Fr.alloc (Fr.refl _ w) _
 have hsrc:∀ j v,(List.replicate (min 1 n) (vI 9))[j]?=some v→(w.alloc (.cells (Array.replicate n (vI 0)) 3)).cell? ((⟨xb,0,none⟩:Addr).add j)=some v:=by
  intro j v hj
  rw[List.getElem?_replicate] at hj
  split at hj
  ·rw[show j=0 by omega]
   cases hj
   exact(hb0.cell (o:=0) hxl (fun h=>h)).trans hx
  ·cases hj
 have hr:=run_copy_row (P:=Tryz.prog) (w.alloc (.cells (Array.replicate n (vI 0)) 3)) 30 30 3 3 w.heap.size 0 n n ⟨xb,0,none⟩ 1 1 (nines n 0).toArray 3 (List.replicate (min 1 n) (vI 9)) under22 size3 hg0 (by simp) hsrc (by simp[nines_length];omega) (by intro v hv;rw[List.eq_of_mem_replicate hv];rfl)
 have e:=nines_splice n 0 (min 1 n) (by omega)
 rw[Nat.zero_add] at e
 have e':((nines n 0).toArray.toList.take 0++List.replicate (min 1 n) (vI 9)++(nines n 0).toArray.toList.drop (0+(List.replicate (min 1 n) (vI 9)).length))=nines n (min 1 n):=by rw[← e];simp[splice]
 rw[e',List.length_replicate] at hr
 refine⟨_,hr,setRow_heap _ _ _ _ _ _ hg0,rfl,rfl,rfl,by simp[World.setRow],fun k hk _=>?_⟩
 rw[setRow_other _ _ _ _ (by omega)]
 exact RowKit.Below.heap_alloc w _ k hk
theorem repeat_nine (xb:Nat)(n:Nat)(hn:n≤1048576)(w:World)(hx:w.cell? ⟨xb,0,none⟩=some (vI 9)) :
 Calls Tryz.prog 119 #[.slice (some ⟨xb,0,none⟩) 1 1,.int .i64 n] w fun e w'=>e = .returned (.slice (some ⟨w.heap.size,0,none⟩) n n)∧w'.heap[w.heap.size]?=some (.cells (List.replicate n (vI 9)).toArray 3)∧Fr (fun _=>False) w w':=by
 have e1:IntKind.u64.wrap (n:Int)=n:=by simp[IntKind.wrap,IntKind.bits,IntKind.signed];omega
 have e0:¬ (n:Int)<0:=by omega
 have hxl:xb<w.heap.size:=World.block_lt_of_cell? w ⟨xb,0,none⟩ hx
 have hmk:=make_ints n (by omega) w
 obtain⟨w2,hcp,hN2,hF2⟩:=copy_first xb n w hxl hx
 have HN2:Hd _:=hN2
 have HF2:Hd _:=hF2
 clear hN2 hF2 hx
 go_enter Tryz.func119,Tryz.ntmps119
 go_wp2_with fail
 refine(mul_one n (by omega) w).mono ?_
 rintro e w1 ⟨rfl,rfl⟩
 go_wp2_with fail
 clear hmk hcp
 obtain⟨g,hg⟩:∃ g,g=w1.heap.size:=⟨_,rfl⟩
 have HG:Hd (g=w1.heap.size):=hg
 rw[← hg] at HN2 ⊢
 clear hg
 obtain⟨m0,hm0⟩:∃ m,m=min 1 n:=⟨_,rfl⟩
 have HM0:Hd (m0=min 1 n):=hm0
 rw[← hm0] at HN2 ⊢
 clear hm0
 go_loopw [8] (fun v wr=>∃ (k:Nat),v = .int .i64 k∧k≤n∧(k=0→n=0)∧Hd (wr.heap[g]?=some (.cells (nines n k).toArray 3))∧Hd (Fr (fun _=>False) w1 wr)) (fun v _=>match v with | .int _ q=>n-q.toNat | _=>0)
 case atStart=>exact⟨m0,rfl,by have:=HM0.out;omega,by have:=HM0.out;omega,HN2.out,HF2.out⟩
 case round =>
  obtain⟨k,rfl,hk,hk0,HN,HF⟩:=hrel
  clear HN2 HF2
  by_cases hlt:k<n
  ·have hkp:0<k:=by omega
   have hsrc:∀ j v,(List.replicate (min k (n-k)) (vI 9))[j]?=some v→wr.cell? ((⟨g,0,none⟩:Addr).add j)=some v:=by
    intro j v hj
    rw[List.getElem?_replicate] at hj
    split at hj
    ·cases hj
     rw[addr_add,cell_of HN.out]
     rw[List.getElem?_toArray]
     exact nines_get n k j (by omega)
    ·cases hj
   have HSR:Hd _:=hsrc
   have hki:(0:Int)≤k:=by omega
   have hki1:(k:Int)≤n:=by omega
   have HB:Hd (RowKit.Below w1.heap.size w1 wr.drew):=⟨HF.out.os,HF.out.tape,HF.out.output,HF.out.size,fun k hk=>HF.out.block k hk (fun h=>h)⟩
   clear hsrc
   go_wp2_with fail
   go_region_law (
    refine step_copy_splice rfl (.tmp 41) (.tmp 44) 30 30 rfl 3 under22 size3 (some ⟨g,k,none⟩) (some ⟨g,0,none⟩) (n-k) (n-k) k n (by simp[Act.eval,Act.put];try omega) (by simp[Act.eval,Act.put];try omega) g k (nines n k) 3 HN.out (List.replicate (min k (n-k)) (vI 9)) (by simp) (fun _=>⟨rfl,_,rfl,HSR.out⟩) (by rw[nines_length _ _ (by omega),List.length_replicate];omega) (by intro v hv;rw[List.eq_of_mem_replicate hv];rfl) w1.heap.size w1 HB.out (by rw[HG.out];exact Nat.le_refl _) ?_
    intro w3 HG3 HB3)
   all_goals
    have HF3:Hd (Fr (fun _=>False) w1 w3):=below_fr HB3 rfl
    have HN3:Hd (w3.heap[g]?=some (.cells (nines n (k+min k (n-k))).toArray 3)):=by
     have:=HG3.out
     rw[nines_splice n k (min k (n-k)) (by omega)] at this
     exact this
    clear HG3 HB3 HN HF HSR HB
    obtain⟨q,hq⟩:∃ q,q=min k (n-k):=⟨_,rfl⟩
    try simp only[List.length_replicate,goInt]
    rw[← hq] at HN3 ⊢
    have hq0:0<q:=by omega
    have hq1:k+q≤n:=by omega
    clear hq
    have hw:IntKind.i64.wrap ((k:Int)+(q:Int))=((k+q:Nat):Int):=by simp[IntKind.wrap,IntKind.bits,IntKind.signed];omega
    go_wp2_with fail
    refine⟨⟨k+q,by simp,hq1,by omega,?_⟩,by omega⟩
    first
     | exact⟨HN3.out,HF3.out⟩
     | exact HN3.out
  ·have hke:k=n:=by omega
   subst hke
   go_wp2_with fail
   go_ret
   exact⟨by rw[HG.out];rfl,by have:=HN.out;rw[nines_all] at this;rw[← HG.out];exact this,HF.out⟩
end Go.Proofs.YtdkijecnnmncnaaGreatDoor.Wg
namespace Go.Proofs.YtdkijecnnmncnaaGreatDoor.Wg
def eg (es:List Ed)(j:Nat):Ed:=es.getD j (0,0,0)
def dn (es:List Ed)(j:Nat):Nat:=(eg es j).1.toNat
def cnt (es:List Ed):Nat→Nat→Nat
 | 0,_=>0
 | i+1,l=>cnt es i l+if dn es i=l then 1 else 0
def beg (es:List Ed):Nat→Nat
 | 0=>0
 | l+1=>beg es l+cnt es es.length l
def pos (es:List Ed)(j:Nat):Nat:=beg es (dn es j+1)-1-cnt es j (dn es j)
theorem cnt_mono (es:List Ed)(l:Nat){i j:Nat}(h:i≤j):cnt es i l≤cnt es j l:=by
 induction j with
 | zero=>rw[show i=0 by omega];exact Nat.le_refl _
 | succ j ih =>
   by_cases e:i=j+1
   ·rw[e];exact Nat.le_refl _
   ·have:=ih (by omega)
    simp only[cnt]
    omega
theorem cnt_lt (es:List Ed){i j:Nat}(h:i<j):cnt es i (dn es i)<cnt es j (dn es i):=by
 have:=cnt_mono es (dn es i) (show i+1≤j from h)
 simp only[cnt,if_true] at this
 omega
theorem beg_mono (es:List Ed){i j:Nat}(h:i≤j):beg es i≤beg es j:=by
 induction j with
 | zero=>rw[show i=0 by omega];exact Nat.le_refl _
 | succ j ih =>
   by_cases e:i=j+1
   ·rw[e];exact Nat.le_refl _
   ·have:=ih (by omega)
    simp only[beg]
    omega
theorem cnt_hits (es:List Ed)(l:Nat):∀ (N k:Nat),k<cnt es N l→∃ j,j<N∧dn es j=l∧cnt es j l=k
 | 0,k,h=>by simp[cnt] at h
 | N+1,k,h=>by
   by_cases hk:k<cnt es N l
   ·obtain⟨j,h1,h2⟩:=cnt_hits es l N k hk
    exact⟨j,by omega,h2⟩
   ·simp only[cnt] at h
    split at h
    ·rename_i e
     exact⟨N,by omega,e,by omega⟩
    ·omega
def sumTo (f:Nat→Nat):Nat→Nat
 | 0=>0
 | l+1=>sumTo f l+f l
theorem sumTo_congr {f g:Nat→Nat}:∀ {n:Nat},(∀ l,l<n→f l=g l)→sumTo f n=sumTo g n
 | 0,_=>rfl
 | n+1,h=>by simp only[sumTo];rw[sumTo_congr (fun l hl=>h l (by omega)),h n (by omega)]
theorem sumTo_add (f g:Nat→Nat):∀ n,sumTo (fun l=>f l+g l) n=sumTo f n+sumTo g n
 | 0=>rfl
 | n+1=>by simp only[sumTo];rw[sumTo_add f g n];omega
theorem sumTo_zero : ∀ n,sumTo (fun _=>0) n=0
 | 0=>rfl
 | n+1=>by simp only[sumTo];rw[sumTo_zero n]
theorem sumTo_ite (d:Nat):∀ n,sumTo (fun l=>if d=l then 1 else 0) n=if d<n then 1 else 0
 | 0=>by simp[sumTo]
 | n+1=>by
   simp only[sumTo]
   rw[sumTo_ite d n]
   by_cases h1:d<n
   ·rw[if_pos h1,if_neg (by omega),if_pos (by omega)]
   ·by_cases h2:d=n
    ·rw[if_neg h1,if_pos h2,if_pos (by omega)]
    ·rw[if_neg h1,if_neg h2,if_neg (by omega)]
theorem beg_sum (es:List Ed):∀ n,beg es n=sumTo (cnt es es.length) n
 | 0=>rfl
 | n+1=>by simp only[beg,sumTo];rw[beg_sum es n]
theorem cnt_sum (es:List Ed)(n:Nat):∀ i,(∀ j,j<i→dn es j<n)→sumTo (cnt es i) n=i
 | 0,_=>sumTo_zero n
 | i+1,h=>by
   have e:sumTo (cnt es (i+1)) n=sumTo (fun l=>cnt es i l+if dn es i=l then 1 else 0) n:=rfl
   rw[e,sumTo_add,cnt_sum es n i (fun j hj=>h j (by omega)),sumTo_ite,if_pos (h i (by omega))]
theorem cnt_none (es:List Ed)(l:Nat):∀ i,(∀ j,j<i→dn es j≠l)→cnt es i l=0
 | 0,_=>rfl
 | i+1,h=>by
   simp only[cnt]
   rw[cnt_none es l i (fun j hj=>h j (by omega)),if_neg (h i (by omega))]
section
variable {n:Nat} {es:List Ed}
theorem eg_mem {j:Nat}(hj:j<es.length):eg es j∈es:=by
 unfold eg
 rw[List.getD_eq_getElem?_getD,List.getElem?_eq_getElem hj]
 exact List.getElem_mem hj
theorem dn_lt (hR:∀ e∈es,RightE n e){j:Nat}(hj:j<es.length):dn es j<n∧((dn es j:Nat):Int)=(eg es j).1:=by
 have:=(hR _ (eg_mem hj)).1
 unfold dn
 omega
theorem beg_all (hR:∀ e∈es,RightE n e):beg es n=es.length:=by
 rw[beg_sum]
 exact cnt_sum es n es.length (fun j hj=>(dn_lt hR hj).1)
theorem beg_more (hR:∀ e∈es,RightE n e):beg es (n+1)=es.length:=by
 simp only[beg]
 rw[beg_all hR,cnt_none es n es.length (fun j hj=>by have:=(dn_lt hR hj).1;omega)]
 rfl
theorem pos_in {j:Nat}(hj:j<es.length):beg es (dn es j)≤pos es j∧pos es j<beg es (dn es j+1)∧pos es j+1+cnt es j (dn es j)=beg es (dn es j+1):=by
 have h1:=cnt_lt es hj
 have h2:beg es (dn es j+1)=beg es (dn es j)+cnt es es.length (dn es j):=rfl
 unfold pos
 omega
theorem pos_lt (hR:∀ e∈es,RightE n e){j:Nat}(hj:j<es.length):pos es j<es.length:=by
 have h1:=(pos_in hj).2.1
 have h2:=beg_mono es (show dn es j+1≤n from(dn_lt hR hj).1)
 rw[beg_all hR] at h2
 omega
theorem pos_ne {i j:Nat}(hj:j<i)(hi:i<es.length):pos es j≠pos es i:=by
 have h1:=pos_in (show j<es.length by omega)
 have h2:=pos_in hi
 rcases Nat.lt_trichotomy (dn es j) (dn es i) with h | h | h
 ·have:=beg_mono es (show dn es j+1≤dn es i from h)
  omega
 ·have:=cnt_lt es hj
  rw[h] at this h1
  omega
 ·have:=beg_mono es (show dn es i+1≤dn es j from h)
  omega
end
structure ByD (n:Nat)(es:List Ed)(A:Nat→Ed)(F:Nat→Nat):Prop where
 le:∀ l,l<n→F l≤F (l+1)
 top:∀ l,l≤n→F l≤es.length
 just:∀ l p,l<n→F l≤p→p<F (l+1)→A p∈es∧(A p).1=l
 all:∀ l e,l<n→e∈es→e.1=(l:Nat)→∃ p,F l≤p∧p<F (l+1)∧A p=e
theorem ByD.mk' {n:Nat}{es:List Ed}{A:Nat→Ed}(hR:∀ e∈es,RightE n e)(hA:∀ j,j<es.length→A (pos es j)=eg es j):ByD n es A (beg es) where
 le:=fun l _=>beg_mono es (Nat.le_succ l)
 top:=fun l hl=>by have:=beg_mono es hl;rw[beg_all hR] at this;exact this
 just:=by
  intro l p hl h1 h2
  have h3:beg es (l+1)=beg es l+cnt es es.length l:=rfl
  obtain⟨j,hj,h4,h5⟩:=cnt_hits es l es.length (beg es (l+1)-1-p) (by omega)
  have h6:pos es j=p:=by unfold pos;rw[h4,h5];omega
  have h7:=hA j hj
  rw[h6] at h7
  rw[h7]
  exact⟨eg_mem hj,by rw[← (dn_lt hR hj).2,h4]⟩
 all:=by
  intro l e hl he hd
  obtain⟨j,hj,rfl⟩:=List.getElem_of_mem he
  have e1:eg es j=es[j]:=by unfold eg;rw[List.getD_eq_getElem?_getD,List.getElem?_eq_getElem hj];rfl
  have e2:dn es j=l:=by unfold dn;rw[e1,hd];simp
  have h1:=pos_in hj
  rw[e2] at h1
  exact⟨pos es j,h1.1,h1.2.1,by rw[hA j hj,e1]⟩
end Go.Proofs.YtdkijecnnmncnaaGreatDoor.Wg
