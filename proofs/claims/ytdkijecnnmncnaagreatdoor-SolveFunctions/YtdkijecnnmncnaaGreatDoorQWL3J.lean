import Derived.Test.YtdkijecnnmncnaaGreatDoorQSdJ
import Derived.Test.YtdkijecnnmncnaaGreatDoorQWA4J
import Derived.Deep.LoopGhost
import Derived.Test.YtdkijecnnmncnaaGreatDoorQEdJ
set_option linter.unusedVariables false
set_option linter.unusedSimpArgs false
namespace Go.Proofs.YtdkijecnnmncnaaGreatDoor.Wg
theorem nodup_le : ∀ (n:Nat) (l:List Nat),l.Nodup→(∀ i∈l,i<n)→l.length≤n
 | 0,l,_,h=>by
   cases l with
   | nil=>exact Nat.le_refl _
   | cons x r=>exact absurd (h x List.mem_cons_self) (Nat.not_lt_zero x)
 | n+1,l,hn,h=>by
   by_cases hm:n∈l
   ·have h1:=nodup_le n (l.erase n) (hn.erase n) (fun i hi=>by
     have:=(List.Nodup.mem_erase_iff hn).1 hi
     have:=h i this.2
     omega)
    rw[List.length_erase_of_mem hm] at h1
    omega
   ·have:=nodup_le n l hn (fun i hi=>by
     have:=h i hi
     by_cases e:i=n
     ·exact absurd (e ▸ hi) hm
     ·omega)
    omega
def addTo (l:List Nat)(s:Nat):List Nat:=if s∈l then l else l++[s]
theorem addTo_mem (l:List Nat)(s i:Nat):i∈addTo l s↔i∈l∨i=s:=by
 unfold addTo
 split
 ·rename_i h
  constructor
  ·exact Or.inl
  ·rintro(h1 | rfl)
   ·exact h1
   ·exact h
 ·simp
theorem addTo_nodup {l:List Nat}(h:l.Nodup)(s:Nat):(addTo l s).Nodup:=by
 unfold addTo
 split
 ·exact h
 ·rename_i hs
  refine List.nodup_append.2 ⟨h,by simp,fun a ha b hb=>?_⟩
  simp at hb
  subst hb
  intro e
  subst e
  exact hs ha
theorem addTo_length (l:List Nat)(s:Nat):(addTo l s).length≤l.length+1:=by
 unfold addTo
 split
 ·omega
 ·simp
structure Ini (n:Nat)(es:List Ed)(rs:List Int)(k:Nat)(L:Nat→Int)(l:List Nat):Prop where
 nd:l.Nodup
 lt:∀ i∈l,i<n
 out:∀ i,i ∉ l→L i=9
 inn:∀ i∈l,L i=0∧(i:Int)∈rs
 got:∀ r∈rs.take k,r.toNat∈l
theorem Ini.start (n:Nat)(es:List Ed)(rs:List Int):Ini n es rs 0 (fun _=>9) [] :=
 ⟨List.nodup_nil,fun i h=>absurd h List.not_mem_nil,fun _ _=>rfl,fun i h=>absurd h List.not_mem_nil,fun r h=>by simp at h⟩
theorem Ini.step {n:Nat}{es:List Ed}{rs:List Int}{k:Nat}{L:Nat→Int}{l:List Nat}(h:Ini n es rs k L l)(r:Nat)(hr:r<n)(hk:rs[k]?=some (r:Int)):Ini n es rs (k+1) (upd L r 0) (addTo l r) where
 nd:=addTo_nodup h.nd r
 lt:=fun i hi=>by
  rcases(addTo_mem l r i).1 hi with h1 | rfl
  ·exact h.lt i h1
  ·exact hr
 out:=fun i hi=>by
  have:=(addTo_mem l r i)
  rw[upd_ne _ _ (fun e=>hi (this.2 (Or.inr e)))]
  exact h.out i (fun h1=>hi (this.2 (Or.inl h1)))
 inn:=fun i hi=>by
  by_cases e:i=r
  ·subst e
   exact⟨upd_same _ _ _,List.mem_of_getElem? hk⟩
  ·rcases(addTo_mem l r i).1 hi with h1 | h1
   ·rw[upd_ne _ _ e];exact h.inn i h1
   ·exact absurd h1 e
 got:=fun q hq=>by
  rw[List.take_add_one,hk] at hq
  rcases List.mem_append.1 hq with h1 | h1
  ·exact(addTo_mem l r _).2 (Or.inl (h.got q h1))
  ·simp at h1
   subst h1
   exact(addTo_mem l r _).2 (Or.inr (by simp))
structure Mid (n:Nat)(es:List Ed)(rs:List Int)(L:Nat→Int)(l:List Nat)(dst:Nat)(P:Ed→Prop):Prop where
 nd:l.Nodup
 lt:∀ i∈l,i<n
 way:∀ i,i<n→L i=9∨Reach es rs i (L i)
 root:∀ r:Nat,(r:Int)∈rs→L r≤0
 edge:∀ (d s:Nat) k,((d:Int),(s:Int),k)∈es→d ∉ l→(d≠dst∨P ((d:Int),(s:Int),k))→L s≤plusX (L d) k
structure Inv (n:Nat)(es:List Ed)(rs:List Int)(L:Nat→Int)(l:List Nat):Prop where
 nd:l.Nodup
 lt:∀ i∈l,i<n
 way:∀ i,i<n→L i=9∨Reach es rs i (L i)
 root:∀ r:Nat,(r:Int)∈rs→L r≤0
 edge:∀ (d s:Nat) k,((d:Int),(s:Int),k)∈es→d ∉ l→L s≤plusX (L d) k
theorem Ini.done {n:Nat}{es:List Ed}{rs:List Int}{L:Nat→Int}{l:List Nat}(h:Ini n es rs rs.length L l):Inv n es rs L l where
 nd:=h.nd
 lt:=h.lt
 way:=fun i _=>by
  by_cases hi:i∈l
  ·have:=h.inn i hi
   rw[this.1]
   exact Or.inr (.root this.2)
  ·exact Or.inl (h.out i hi)
 root:=fun r hr=>by
  have:=h.got r (by rw[List.take_length];exact hr)
  simp at this
  have:=(h.inn r this).1
  omega
 edge:=fun d s k _ hd=>by
  rw[h.out d hd,plusX_nine]
  by_cases hs:s∈l
  ·rw[(h.inn s hs).1];decide
  ·rw[h.out s hs];decide
theorem Inv.take {n:Nat}{es:List Ed}{rs:List Int}{L:Nat→Int}{l:List Nat}{dst:Nat}(h:Inv n es rs L (l++[dst])):Mid n es rs L l dst (fun _=>False) where
 nd:=(List.nodup_append.1 h.nd).1
 lt:=fun i hi=>h.lt i (List.mem_append_left _ hi)
 way:=h.way
 root:=h.root
 edge:=fun d s k he hd hp=>h.edge d s k he (fun hm=>by
  rcases List.mem_append.1 hm with h1 | h1
  ·exact hd h1
  ·rcases hp with hp | hp
   ·exact hp (List.mem_singleton.1 h1)
   ·exact hp)
theorem Mid.stay {n:Nat}{es:List Ed}{rs:List Int}{L:Nat→Int}{l:List Nat}{dst:Nat}{P:Ed→Prop}(h:Mid n es rs L l dst P){s:Nat}{k:Int}(hs:L s≤plusX (L dst) k):Mid n es rs L l dst (fun e=>P e∨e=((dst:Int),(s:Int),k)) where
 nd:=h.nd
 lt:=h.lt
 way:=h.way
 root:=h.root
 edge:=fun d s' k' he hd hp=>by
  rcases hp with hp | hp | hp
  ·exact h.edge d s' k' he hd (Or.inl hp)
  ·exact h.edge d s' k' he hd (Or.inr hp)
  ·simp only[Prod.mk.injEq] at hp
   obtain⟨h1,h2,h3⟩:=hp
   have h1:d=dst:=by omega
   have h2:s'=s:=by omega
   subst h1;subst h2;subst h3
   exact hs
theorem Mid.fall {n:Nat}{es:List Ed}{rs:List Int}{L:Nat→Int}{l:List Nat}{dst:Nat}{P:Ed→Prop}(h:Mid n es rs L l dst P){s:Nat}{k:Int}(hdst:dst<n)(hsn:s<n)(he:((dst:Int),(s:Int),k)∈es)(hs:plusX (L dst) k<L s) :
 Mid n es rs (upd L s (plusX (L dst) k)) (addTo l s) dst (fun e=>P e∨e=((dst:Int),(s:Int),k)) where
 nd:=addTo_nodup h.nd s
 lt:=fun i hi=>by
  rcases(addTo_mem l s i).1 hi with h1 | rfl
  ·exact h.lt i h1
  ·exact hsn
 way:=fun i hi=>by
  by_cases e:i=s
  ·subst e
   rw[upd_same]
   rcases h.way dst hdst with h1 | h1
   ·rw[h1,plusX_nine];exact Or.inl rfl
   ·exact Or.inr (.step (e:=((dst:Int),(i:Int),k)) he h1)
  ·rw[upd_ne _ _ e];exact h.way i hi
 root:=fun r hr=>by
  have:=h.root r hr
  by_cases e:r=s
  ·subst e;rw[upd_same];omega
  ·rw[upd_ne _ _ e];exact this
 edge:=fun d s' k' he' hd hp=>by
  have hd1:d ∉ l:=fun hm=>hd ((addTo_mem l s d).2 (Or.inl hm))
  have hd2:d≠s:=fun e=>hd ((addTo_mem l s d).2 (Or.inr e))
  rw[upd_ne _ _ hd2]
  have key:(d≠dst∨P ((d:Int),(s':Int),k'))→upd L s (plusX (L dst) k) s'≤plusX (L d) k':=fun hp=>by
   have:=h.edge d s' k' he' hd1 hp
   by_cases e:s'=s
   ·subst e;rw[upd_same];omega
   ·rw[upd_ne _ _ e];exact this
  rcases hp with hp | hp | hp
  ·exact key (Or.inl hp)
  ·exact key (Or.inr hp)
  ·simp only[Prod.mk.injEq] at hp
   obtain⟨h1,h2,h3⟩:=hp
   have h1:d=dst:=by omega
   have h2:s'=s:=by omega
   subst h1;subst h2;subst h3
   rw[upd_same]
   exact Int.le_refl _
theorem Mid.done {n:Nat}{es:List Ed}{rs:List Int}{L:Nat→Int}{l:List Nat}{dst:Nat}{P:Ed→Prop}(h:Mid n es rs L l dst P)(hP:∀ e∈es,e.1=(dst:Int)→P e):Inv n es rs L l where
 nd:=h.nd
 lt:=h.lt
 way:=h.way
 root:=h.root
 edge:=fun d s k he hd=>h.edge d s k he hd (by
  by_cases e:d=dst
  ·exact Or.inr (hP _ he (by simp[e]))
  ·exact Or.inl e)
theorem Inv.least {n:Nat}{es:List Ed}{rs:List Int}{L:Nat→Int}(h:Inv n es rs L []):Least n es rs L :=
 ⟨h.root,fun d s k he=>h.edge d s k he List.not_mem_nil,h.way⟩
def mu (n:Nat)(L:Nat→Int)(l:List Nat):Nat:=2*sumTo (fun i=>(L i+1).toNat) n+l.length
theorem sumTo_upd (f:Nat→Nat)(s v:Nat):∀ n,sumTo (upd f s v) n+(if s<n then f s else 0)=sumTo f n+(if s<n then v else 0)
 | 0=>by simp[sumTo]
 | n+1=>by
   have ih:=sumTo_upd f s v n
   simp only[sumTo]
   by_cases h1:s<n
   ·rw[if_pos h1,if_pos h1] at ih
    rw[if_pos (by omega),if_pos (by omega),upd_ne _ _ (by omega)]
    omega
   ·by_cases h2:s=n
    ·subst h2
     rw[if_neg h1,if_neg h1] at ih
     rw[if_pos (by omega),if_pos (by omega),upd_same]
     omega
    ·rw[if_neg h1,if_neg h1] at ih
     rw[if_neg (by omega),if_neg (by omega),upd_ne _ _ (by omega)]
     omega
theorem plusX_ge (a k:Int) : -1≤plusX a k:=by
 unfold plusX
 split
 ·rename_i h
  simp[flowsX] at h
  omega
 ·omega
theorem mu_fall {n:Nat}{L:Nat→Int}{l:List Nat}{s:Nat}{v:Int}(hs:s<n)(hv:v<L s)(h1 : -1≤v):mu n (upd L s v) (addTo l s)<mu n L l:=by
 unfold mu
 have e:(fun i=>(upd L s v i+1).toNat)=upd (fun i=>(L i+1).toNat) s (v+1).toNat:=by
  funext i
  unfold upd
  split<;>rfl
 have h2:=sumTo_upd (fun i=>(L i+1).toNat) s (v+1).toNat n
 rw[if_pos hs,if_pos hs] at h2
 rw[e]
 have h3:=addTo_length l s
 omega
end Go.Proofs.YtdkijecnnmncnaaGreatDoor.Wg
namespace Go.Proofs.YtdkijecnnmncnaaGreatDoor.Wg
open Go.RowKit (wrap32 wrap64)
set_option maxRecDepth 100000
set_option maxHeartbeats 4000000
def FromEnds (w:World)(n:Int)(es:List Ed)(rs:List Int)(e:Ending)(w':World):Prop :=
 Fr (fun _=>False) w w'∧((¬ RightG n es rs∧e = .returned (.tuple #[.slice none 0 0,vI 1])) ∨
  (RightG n es rs∧∃ b x,e = .returned (.tuple #[.slice (some ⟨b,0,none⟩) n.toNat n.toNat,vI 0])∧w.heap.size≤b∧Row w' 3 b n.toNat (fun i=>vI (x i))∧Least n.toNat es rs x))
structure At where
 ib:Nat
 eb:Nat
 fb:Nat
 lb:Nat
 tb:Nat
 wb:Nat
 B:Nat
 n:Nat
 N:Nat
structure Fs (w wr:World)(a:At)(A:Nat→Ed)(F:Nat→Nat)(L:Nat→Int)(ws:Nat→Bool)(l:List Nat)(lv:Value):Prop where
 inn:wr.heap[a.ib]?=some (.cells #[.slice (some ⟨a.eb,0,none⟩) a.N a.N,.slice (some ⟨a.fb,0,none⟩) (a.n+1) (a.n+1)] 216)
 es:Row wr 140 a.eb (a.N*3) (eRow A)
 fi:Row wr 3 a.fb (a.n+1) (fun l=>vI (F l:Nat))
 le:Row wr 3 a.lb a.n (fun i=>vI (L i))
 td:Td wr a.tb a.wb a.n a.B lv ws l
 fr:Fr (fun _=>False) w wr
 ge:w.heap.size≤a.lb∧w.heap.size≤a.tb∧w.heap.size≤a.wb
 lt:(a.ib<a.lb∧a.eb<a.lb∧a.fb<a.lb)∧a.lb<a.wb∧a.wb<a.tb∧a.tb<a.B
 mem:∀ i,ws i=true↔i∈l
theorem Fs.keep {w wr w':World}{a:At}{A:Nat→Ed}{F:Nat→Nat}{L:Nat→Int}{ws:Nat→Bool}{l:List Nat}{lv:Value}(h:Fs w wr a A F L ws l lv)(f:Fr (fun _=>False) wr w'):Fs w w' a A F L ws l lv where
 inn:=(f.block _ (heap_lt h.inn) (fun h=>h)).trans h.inn
 es:=h.es.fr f (fun h=>h)
 fi:=h.fi.fr f (fun h=>h)
 le:=h.le.fr f (fun h=>h)
 td:=h.td.fr f (fun _ _ _ h=>h)
 fr:=h.fr.trans f
 ge:=h.ge
 lt:=h.lt
 mem:=h.mem
theorem Fs.setL {w wr:World}{a:At}{A:Nat→Ed}{F:Nat→Nat}{L:Nat→Int}{ws:Nat→Bool}{l:List Nat}{lv:Value}(h:Fs w wr a A F L ws l lv)(i:Nat)(v:Int):Fs w (wr.setCell ⟨a.lb,i,none⟩ (vI v)) a A F (upd L i v) ws l lv:=by
 have f:Fr (fun k=>k=a.lb) wr (wr.setCell ⟨a.lb,i,none⟩ (vI v)):=Fr.setCell (S:=fun k=>k=a.lb) (Fr.refl _ wr) ⟨a.lb,i,none⟩ _ (Or.inl rfl)
 obtain⟨⟨h1,h2,h3⟩,h4,h5,h6⟩:=h.lt
 refine⟨(f.block _ (heap_lt h.inn) (by omega)).trans h.inn,h.es.fr f (by omega),h.fi.fr f (by omega),h.le.setI i v,h.td.fr f (fun k hk _ e=>?_),h.fr.setCell _ _ (Or.inr h.ge.1),h.ge,h.lt,h.mem⟩
 subst e
 rcases hk with hk | hk | hk<;>omega
theorem Fs.tds {w wr w':World}{a:At}{A:Nat→Ed}{F:Nat→Nat}{L:Nat→Int}{ws ws':Nat→Bool}{l l':List Nat}{lv:Value}(h:Fs w wr a A F L ws l lv)(t:Tds wr w' a.tb a.wb a.n a.B ws' l')(hm:∀ i,ws' i=true↔i∈l'):∃ lv',Fs w w' a A F L ws' l' lv':=by
 obtain⟨lv',td,f⟩:=t
 obtain⟨⟨h1,h2,h3⟩,h4,h5,h6⟩:=h.lt
 have no:∀ k,k≤a.lb→¬ TdT a.tb a.wb a.B k:=fun k hk e=>by rcases e with e | e | e<;>omega
 have hB:w.heap.size≤a.B:=by have:=h.ge;omega
 refine⟨lv',(f.block _ (heap_lt h.inn) (no _ (by omega))).trans h.inn,h.es.fr f (no _ (by omega)),h.fi.fr f (no _ (by omega)),h.le.fr f (no _ (by omega)),td,h.fr.anew f (fun j hj e=>?_),h.ge,h.lt,hm⟩
 have:=h.ge
 rcases e with e | e | e<;>omega
theorem Fs.begin {w w2 w4 w5:World}{eb fb m N:Nat}{A:Nat→Ed}{F:Nat→Nat}(hes:Row w2 140 eb (N*3) (eRow A))(hfi:Row w2 3 fb (m+1) (fun l=>vI (F l:Nat)))(hF:Fr (fun _=>False) w w2)(o:Obj)
 (hN4:w4.heap[w2.heap.size+2]?=some (.cells (List.replicate m (vI 9)).toArray 3)) (hF4:Fr (fun _=>False) ((w2.alloc (.cells #[.slice (some ⟨eb,0,none⟩) N N,.slice (some ⟨fb,0,none⟩) (m+1) (m+1)] 216)).alloc o) w4)
 (hT:Td w5 (w4.heap.size+1) w4.heap.size m (w4.heap.size+2) (.slice none 0 0) (fun _=>false) []) (hF5:Fr (fun _=>False) w4 w5) :
 Fs w w5 ⟨w2.heap.size,eb,fb,w2.heap.size+2,w4.heap.size+1,w4.heap.size,w4.heap.size+2,m,N⟩ A F (fun _=>9) (fun _=>false) [] (.slice none 0 0):=by
 have h0:=heap_alloc_last w2 (.cells #[.slice (some ⟨eb,0,none⟩) N N,.slice (some ⟨fb,0,none⟩) (m+1) (m+1)] 216)
 have fa:Fr (fun _=>False) w2 ((w2.alloc (.cells #[.slice (some ⟨eb,0,none⟩) N N,.slice (some ⟨fb,0,none⟩) (m+1) (m+1)] 216)).alloc o):=((Fr.refl _ w2).alloc _).alloc _
 have fb':Fr (fun _=>False) (w2.alloc (.cells #[.slice (some ⟨eb,0,none⟩) N N,.slice (some ⟨fb,0,none⟩) (m+1) (m+1)] 216)) ((w2.alloc (.cells #[.slice (some ⟨eb,0,none⟩) N N,.slice (some ⟨fb,0,none⟩) (m+1) (m+1)] 216)).alloc o):=(Fr.refl _ _).alloc _
 have f45:=hF4.trans hF5
 have f25:=fa.trans f45
 have hl:Row w4 3 (w2.heap.size+2) m (fun _=>vI 9):=⟨_,hN4,by simp,fun i hi=>by simp[List.getElem?_replicate,hi]⟩
 have e1:=hes.lt
 have e2:=hfi.lt
 have e3:=hl.lt
 have e4:=hF.size
 refine⟨((fb'.trans f45).block _ (heap_lt h0) (fun h=>h)).trans h0,hes.fr f25 (fun h=>h),hfi.fr f25 (fun h=>h),hl.fr hF5 (fun h=>h),hT,hF.trans f25,⟨?_,?_,?_⟩,⟨⟨?_,?_,?_⟩,?_,?_,?_⟩,fun i=>by simp⟩<;>simp only<;>omega
theorem addTo_if (ws:Nat→Bool)(l:List Nat)(s:Nat)(hm:∀ i,ws i=true↔i∈l):(if ws s then l else l++[s])=addTo l s:=by
 unfold addTo
 by_cases h:s∈l
 ·rw[if_pos h,(hm s).2 h];rfl
 ·rw[if_neg h,if_neg (fun e=>h ((hm s).1 e))]
theorem upd_mem {ws:Nat→Bool}{l:List Nat}(s:Nat)(hm:∀ i,ws i=true↔i∈l):∀ i,upd ws s true i=true↔i∈addTo l s:=fun i=>by
 rw[addTo_mem]
 unfold upd
 split
 ·rename_i e;exact⟨fun _=>Or.inr e,fun _=>rfl⟩
 ·rename_i e;rw[hm i];exact⟨Or.inl,fun h=>h.elim id (fun h=>absurd h e)⟩
theorem upd_gone {ws:Nat→Bool}{l:List Nat}{s:Nat}(hnd:(l++[s]).Nodup)(hm:∀ i,ws i=true↔i∈l++[s]):∀ i,upd ws s false i=true↔i∈l:=fun i=>by
 unfold upd
 split
 ·rename_i e
  subst e
  constructor
  ·intro h;cases h
  ·intro h
   exact absurd rfl ((List.nodup_append.1 hnd).2.2 i h i (List.mem_singleton.2 rfl))
 ·rename_i e
  rw[hm i,List.mem_append,List.mem_singleton]
  exact⟨fun h=>h.elim id (fun h=>absurd h e),Or.inl⟩
theorem Mid.imp {n:Nat}{es:List Ed}{rs:List Int}{L:Nat→Int}{l:List Nat}{dst:Nat}{P Q:Ed→Prop}(h:Mid n es rs L l dst P)(hq:∀ e,Q e→P e):Mid n es rs L l dst Q :=
 ⟨h.nd,h.lt,h.way,h.root,fun d s k he hd hp=>h.edge d s k he hd (hp.imp id (hq _))⟩
def Seg (A:Nat→Ed)(a j:Nat):Ed→Prop:=fun e=>∃ p,a≤p∧p<a+j∧A p=e
theorem Seg.more {A:Nat→Ed}{a j:Nat}{e:Ed}(h:Seg A a (j+1) e):Seg A a j e∨e=A (a+j):=by
 obtain⟨p,h1,h2,rfl⟩:=h
 by_cases e:p=a+j
 ·rw[e];exact Or.inr rfl
 ·exact Or.inl ⟨p,h1,by omega,rfl⟩
theorem from_any (n:Int)(ev rv:Value)(es:List Ed)(rs:List Int)(w:World)(hE:EdgesAt w.heap.size w ev es)(hR:IntsAt w.heap.size w rv rs)(hel:es.length≤11000000000000)(hrl:rs.length≤100000000000000) :
 Calls Tryz.prog 126 #[.int .i64 n,ev,rv] w (FromEnds w n es rs):=by
 have HE:Hd (EdgesAt w.heap.size w ev es):=hE
 have HRI:Hd (IntsAt w.heap.size w rv rs):=hR
 obtain⟨ea,ec,rfl,-,-⟩:=hE
 obtain⟨ra,rc,rfl,-,hrin⟩:=hR
 have HRS:Hd _:=hrin
 clear hrin
 by_cases hG:RightG n es rs
 ·obtain⟨m,rfl⟩:∃ m:Nat,n=m:=⟨n.toNat,by have:=hG.1.1;omega⟩
  have hm:m≤1048576:=by have:=hG.1.2;omega
  have HG:Hd (RightG m es rs):=hG
  have hmi:(0:Int)≤m:=by omega
  go_enter Tryz.func126,Tryz.ntmps126
  go_wp2_with fail
  refine(right_any m _ _ es rs w HE.out HRI.out (by omega) hrl).mono ?_
  rintro e w1 ⟨rfl,hF1⟩
  rw[decide_eq_true HG.out]
  have HF1:Hd _:=hF1
  have hE1:=HE.out.fr hF1 (Nat.le_refl _) (fun _ _ h=>h)
  have HE1:Hd (EdgesAt w1.heap.size w1 (.slice ea es.length ec) es):=by
   obtain⟨a,c,e1,e2,e3⟩:=hE1
   exact⟨a,c,e1,e2,fun hne=>by obtain⟨k,o,h1,h2,h3⟩:=e3 hne;exact⟨k,o,h1,by have:=hF1.size;omega,h3⟩⟩
  clear hF1 hE1 hG
  go_wp2_with fail
  refine(byDst_any m _ es w1 HE1.out HG.out.2.1 hm (by omega)).mono ?_
  rintro e w2 ⟨eb,fb,A,F,rfl,hes,hfi,hby,hge1,hge2,hF2⟩
  have HES:Hd (Row w2 140 eb (es.length*3) (eRow A)):=hes
  have HFI:Hd (Row w2 3 fb (m+1) (fun l=>vI (F l:Nat))):=hfi
  have HF2:Hd (Fr (fun _=>False) w w2):=HF1.out.trans hF2
  have HBY:Hd (ByD m es A F):=hby
  clear hes hfi hby hF2 HF1 HE1 hge1 hge2
  go_wp2_with fail
  refine(repeat_nine (w2.heap.size+1) m hm _ (by
   have:=heap_alloc_last (w2.alloc (.cells #[.slice (some ⟨eb,0,none⟩) es.length es.length,.slice (some ⟨fb,0,none⟩) (m+1) (m+1)] 216)) (.cells #[vI 9] 3)
   rw[show(w2.alloc (.cells #[.slice (some ⟨eb,0,none⟩) es.length es.length,.slice (some ⟨fb,0,none⟩) (m+1) (m+1)] 216)).heap.size=w2.heap.size+1 by simp] at this
   rw[cell_of this]
   rfl)).mono ?_
  rintro e w4 ⟨rfl,hN4,hF4⟩
  rw[show((w2.alloc (.cells #[.slice (some ⟨eb,0,none⟩) es.length es.length,.slice (some ⟨fb,0,none⟩) (m+1) (m+1)] 216)).alloc (.cells #[vI 9] 3)).heap.size=w2.heap.size+2 by simp] at hN4 ⊢
  have HN4:Hd (w4.heap[w2.heap.size+2]?=some (.cells (List.replicate m (vI 9)).toArray 3)):=hN4
  have HF4:Hd (Fr (fun _=>False) ((w2.alloc (.cells #[.slice (some ⟨eb,0,none⟩) es.length es.length,.slice (some ⟨fb,0,none⟩) (m+1) (m+1)] 216)).alloc (.cells #[vI 9] 3)) w4):=hF4
  clear hN4 hF4
  go_wp2_with fail
  refine(newTodo_any m hm w4).mono ?_
  rintro e w5 ⟨rfl,hT,hF5⟩
  have HFS:Hd (Fs w w5 ⟨w2.heap.size,eb,fb,w2.heap.size+2,w4.heap.size+1,w4.heap.size,w4.heap.size+2,m,es.length⟩ A F (fun _=>9) (fun _=>false) [] (.slice none 0 0)):=Fs.begin HES.out HFI.out HF2.out _ HN4.out HF4.out hT hF5
  clear hT hF5 HES HFI HF2 HN4 HF4
  obtain⟨ib,hib⟩:∃ x,x=w2.heap.size:=⟨_,rfl⟩
  obtain⟨lb,hlb⟩:∃ x,x=w2.heap.size+2:=⟨_,rfl⟩
  obtain⟨tb,htb⟩:∃ x,x=w4.heap.size+1:=⟨_,rfl⟩
  rw[← hlb,← hib,← htb] at HFS
  rw[← hlb,← htb,← hib]
  generalize w4.heap.size=wb at HFS
  generalize wb+2=B at HFS
  clear hib hlb htb
  go_wp2_with fail
  go_loopw [33] (fun v wr=>∃ (k:Nat) (L:Nat→Int) (ws:Nat→Bool) (l:List Nat) (lv:Value),v = .int .i64 k∧k≤rs.length∧Hd (Fs w wr ⟨ib,eb,fb,lb,tb,wb,B,m,es.length⟩ A F L ws l lv)∧Hd (Ini m es rs k L l)) (fun v _=>match v with | .int _ q=>rs.length-q.toNat | _=>0)
  case atStart=>exact⟨0,_,_,_,_,rfl,Nat.zero_le _,HFS.out,Ini.start m es rs⟩
  case round =>
   obtain⟨k,L,ws,l,lv,rfl,hk,HS,HI⟩:=hrel
   clear HFS
   by_cases hlt:k<rs.length
   ·obtain⟨pk,po,rfl,hpk,hcs⟩:=HRS.out (by intro e;simp[e] at hlt)
    have p0:=(HS.out.fr.cell (o:=po+k) hpk (fun h=>h)).trans (hcs k hlt)
    have hr:=HG.out.2.2 _ (List.getElem_mem hlt)
    have HK:Hd (rs[k]?=some rs[k]):=List.getElem?_eq_getElem hlt
    obtain⟨r,hr'⟩:∃ r:Nat,rs[k]=r:=⟨rs[k].toNat,by omega⟩
    rw[hr'] at p0 hr HK
    clear hcs hr'
    have hr0:r<m:=by omega
    have z0:=HS.out.le.frozen r
    have c0:=HS.out.le.cell (i:=r) hr0
    have hl:=nodup_le m l HI.out.nd HI.out.lt
    have HSA:Hd _:=HS.out.setL r 0
    have HI2:Hd _:=HI.out.step r hr0 HK.out
    have hk0:(0:Int)≤k:=by omega
    have hk1:(k:Int)<rs.length:=by omega
    generalize L r=x at c0
    clear HS HI HK
    go_wp2_with fail
    refine(put_any tb wb m B lv ws l r _ HSA.out.td hr0 hm (by omega)).mono ?_
    rintro e w6 ⟨rfl,hT6⟩
    rw[addTo_if ws l r HSA.out.mem] at hT6
    obtain⟨lv6,hS6⟩:=HSA.out.tds hT6 (upd_mem r HSA.out.mem)
    have HS6:Hd _:=hS6
    clear hT6 hS6 HSA
    go_wp2_with fail
    refine⟨⟨k+1,_,_,_,_,by simp,by omega,HS6.out,HI2.out⟩,by simp;omega⟩
   ·have hke:k=rs.length:=by omega
    have HV:Hd (Inv m es rs L l):=by have:=HI.out;rw[hke] at this;exact this.done
    clear HI
    subst hke
    go_wp2_with fail
    go_loopg [] (mu m L l) (fun g wr=>∃ (L:Nat→Int) (ws:Nat→Bool) (l:List Nat) (lv:Value),Hd (Fs w wr ⟨ib,eb,fb,lb,tb,wb,B,m,es.length⟩ A F L ws l lv)∧Hd (Inv m es rs L l)∧Hd (mu m L l≤g))
    case atStart=>exact⟨L,ws,l,lv,HS.out,HV.out,Nat.le_refl _⟩
    case round =>
     clear HS HV
     obtain⟨L,ws,l,lv,HS,HV,HM⟩:=hrel
     rcases List.eq_nil_or_concat l with rfl | ⟨l',x,rfl⟩
     ·go_wp2_with fail
      refine(take_nil tb wb m B lv ws wr HS.out.td).mono ?_
      rintro e w6 ⟨rfl,rfl⟩
      go_wp2_with fail
      go_ret2
      exact⟨HS.out.fr,Or.inr ⟨HG.out,lb,L,rfl,HS.out.ge.1,HS.out.le,HV.out.least⟩⟩
     ·rw[List.concat_eq_append] at HS HV HM
      have hx:x<m:=HV.out.lt x (by simp)
      have hl:=nodup_le m _ HV.out.nd HV.out.lt
      rw[List.length_append,List.length_singleton] at hl
      have HM1:Hd (mu m L l'<gk):=by have:=HM.out;unfold mu at *;rw[List.length_append,List.length_singleton] at this;unfold Hd;omega
      have HD:Hd (Mid m es rs L l' x (Seg A (F x) 0)):=HV.out.take.imp (fun e h=>by obtain⟨p,h1,h2,-⟩:=h;omega)
      have hF1:=HBY.out.le x hx
      have hF2:=HBY.out.top (x+1) hx
      go_wp2_with fail
      refine(take_any tb wb m B lv ws l' x wr HS.out.td hx hm (by omega)).mono ?_
      rintro e w6 ⟨rfl,hT6⟩
      obtain⟨lv6,hS6⟩:=HS.out.tds hT6 (upd_gone HV.out.nd HS.out.mem)
      have HS6:Hd _:=hS6
      have c0:w6.cell? ⟨ib,0,none⟩=some (.slice (some ⟨eb,0,none⟩) es.length es.length):=by rw[cell_of hS6.inn];rfl
      have c1:w6.cell? ⟨ib,1,none⟩=some (.slice (some ⟨fb,0,none⟩) (m+1) (m+1)):=by rw[cell_of hS6.inn];rfl
      clear hT6 hS6 HS HV HM
      go_wp2_with fail
      refine(of_any eb fb m es.length x F w6 HS6.out.fi hx hm (by omega) hF1 hF2).mono ?_
      rintro e w7 ⟨ad,c,rfl,had,hcap,hF7⟩
      have HS7:Hd _:=HS6.out.keep hF7
      clear hF7 HS6 c0 c1
      obtain⟨bl,hbl⟩:∃ bl,bl=F (x+1)-F x:=⟨_,rfl⟩
      have HSEG:Hd (∀ j,j<bl→A (F x+j)∈es∧(A (F x+j)).1=(x:Nat)):=fun j hj=>HBY.out.just x (F x+j) hx (by omega) (by omega)
      have HALL:Hd (∀ e∈es,e.1=(x:Int)→Seg A (F x) bl e):=fun e he hd=>by
       obtain⟨p,h1,h2,h3⟩:=HBY.out.all x e hx he hd
       exact⟨p,h1,by omega,h3⟩
      have hab:F x+bl≤es.length:=by omega
      have HAD:Hd (0<bl→ad=some ⟨eb,F x*3,none⟩):=fun h=>had (by omega)
      rw[← hbl] at hcap ⊢
      clear had hbl hF1 hF2
      generalize F x=a at *
      go_wp2_with fail
      go_loopw [56] (fun v wr=>∃ (j:Nat) (L:Nat→Int) (ws:Nat→Bool) (l:List Nat) (lv:Value),v = .int .i64 j∧j≤bl∧Hd (Fs w wr ⟨ib,eb,fb,lb,tb,wb,B,m,es.length⟩ A F L ws l lv)∧Hd (Mid m es rs L l x (Seg A a j))∧Hd (mu m L l<gk)) (fun v _=>match v with | .int _ q=>bl-q.toNat | _=>0)
      case atStart=>exact⟨0,_,_,_,_,rfl,Nat.zero_le _,HS7.out,HD.out,HM1.out⟩
      case round =>
       clear HS7 HD HM1
       obtain⟨j,L,ws,l,lv,rfl,hj,HS,HD,HM⟩:=hrel
       by_cases hlt:j<bl
       ·have hadr:=HAD.out (by omega)
        subst hadr
        obtain⟨hmem,hdst⟩:=HSEG.out j hlt
        have hRE:=HG.out.2.1 _ hmem
        obtain⟨sN,hsN⟩:∃ sN:Nat,(A (a+j)).2.1=sN:=⟨(A (a+j)).2.1.toNat,by have:=hRE.2.1;omega⟩
        have heq:A (a+j)=((x:Int),(sN:Int),(A (a+j)).2.2):=by rw[← hdst,← hsN]
        have hsm:sN<m:=by have:=hRE.2.1;omega
        have p0:=HS.out.es.cell (i:=(a+j)*3) (by simp only;omega)
        have p1:=HS.out.es.cell (i:=(a+j)*3+1) (by simp only;omega)
        have p2:=HS.out.es.cell (i:=(a+j)*3+2) (by simp only;omega)
        rw[eRow_0,hdst,Nat.add_mul] at p0
        rw[eRow_1,hsN,Nat.add_mul] at p1
        rw[eRow_2,Nat.add_mul] at p2
        have HMEM:Hd (((x:Int),(sN:Int),(A (a+j)).2.2)∈es):=by have:=hmem;rw[heq] at this;exact this
        have HEQ:Hd (A (a+j)=((x:Int),(sN:Int),(A (a+j)).2.2)):=heq
        clear hmem hdst hRE hsN heq
        obtain⟨kk,hkk⟩:∃ kk,kk=(A (a+j)).2.2:=⟨_,rfl⟩
        rw[← hkk] at p2 HMEM HEQ
        clear hkk
        have hj0:(0:Int)≤j:=by omega
        have hj1:(j:Int)<bl:=by omega
        have hx0:(0:Int)≤x:=by omega
        have hx1:(x:Int)<m:=by omega
        have hs0:(0:Int)≤sN:=by omega
        have hs1:(sN:Int)<m:=by omega
        have hll:=nodup_le m l HD.out.nd HD.out.lt
        have HSA:Hd _:=HS.out.keep ((Fr.refl _ wr).alloc (.cells #[vI x,vI sN,vI kk] 140))
        have HV0:Hd _:=heap_alloc_last wr (.cells #[vI x,vI sN,vI kk] 140)
        go_upto_region 18 with fail
        obtain⟨vb,hvb⟩:∃ vb,vb=wr.heap.size:=⟨_,rfl⟩
        rw[← hvb] at HV0 ⊢
        have hvL:vb≠lb:=by have:=HS.out.le.lt;simp only at this;omega
        clear hvb p0 p1 p2 HS
        generalize wr.alloc (.cells #[vI x,vI sN,vI kk] 140)=wa at *
        have v1:wa.cell? ⟨vb,1,none⟩=some (vI sN):=by rw[cell_of HV0.out];rfl
        have v2:wa.cell? ⟨vb,2,none⟩=some (vI kk):=by rw[cell_of HV0.out];rfl
        have c0:=HSA.out.le.cell (i:=x) hx
        refine wp_region_still_tail 7 mixed (by kernel_rfl) ?_
        simp only[List.take_succ_cons,List.take_zero,List.drop_succ_cons,List.drop_zero]
        repeat still_step
        still_call (plus_any (L x) kk _)
        repeat still_step
        refine wpStill_nil ?_
        have HSD:Hd _:=HSA.out.keep (Fr.drew (Fr.refl _ wa))
        have v1':wa.drew.cell? ⟨vb,1,none⟩=some (vI sN):=v1
        have c1:=HSD.out.le.cell (i:=sN) hsm
        have z1:=HSD.out.le.frozen sN
        have HV1:Hd (wa.drew.heap[vb]?=some (.cells #[vI x,vI sN,vI kk] 140)):=HV0.out
        have c1w:wa.cell? ⟨lb,sN,none⟩=some (vI (L sN)):=c1
        have z1w:wa.frozen? ⟨lb,sN,none⟩=false:=z1
        clear v2 c0 HSA HV0
        obtain⟨pv,hpv⟩:∃ pv,pv=plusX (L x) kk:=⟨_,rfl⟩
        have HPV:Hd (pv=plusX (L x) kk):=hpv
        have hge : -1≤pv:=by rw[hpv];exact plusX_ge _ _
        rw[← hpv]
        clear hpv
        by_cases hfall:pv<L sN
        ·have HD2:Hd (Mid m es rs (upd L sN pv) (addTo l sN) x (Seg A a (j+1))):=by
          have:=HD.out.fall (s:=sN) (k:=kk) hx hsm HMEM.out (by rw[← HPV.out];exact hfall)
          rw[← HPV.out] at this
          exact this.imp (fun e he=>by rw[← HEQ.out];exact he.more)
         have HM2:Hd (mu m (upd L sN pv) (addTo l sN)<gk):=Nat.lt_trans (mu_fall hsm hfall hge) HM.out
         have hdec:decide (pv<L sN)=true:=by simpa using hfall
         have HSE:Hd _:=HSD.out.setL sN pv
         generalize L sN=ls at *
         have v2':(wa.drew.setCell ⟨lb,sN,none⟩ (vI pv)).cell? ⟨vb,1,none⟩=some (vI sN):=by
          have f:Fr (fun k=>k=lb) wa.drew (wa.drew.setCell ⟨lb,sN,none⟩ (vI pv)):=Fr.setCell (S:=fun k=>k=lb) (Fr.refl _ wa.drew) ⟨lb,sN,none⟩ _ (Or.inl rfl)
          exact(f.cell (heap_lt HV1.out) hvL).trans v1'
         clear HD HM HV1 HSD HPV
         go_wp2_with fail
         refine(put_any tb wb m B lv ws l sN _ HSE.out.td hsm hm (by omega)).mono ?_
         rintro e w8 ⟨rfl,hT8⟩
         rw[addTo_if ws l sN HSE.out.mem] at hT8
         obtain⟨lv8,hS8⟩:=HSE.out.tds hT8 (upd_mem sN HSE.out.mem)
         have HS8:Hd _:=hS8
         clear hT8 hS8 HSE v2' v1' c1 z1 v1 c1w z1w
         go_wp2_with fail
         refine⟨⟨j+1,_,_,_,_,by simp,by omega,HS8.out,HD2.out,HM2.out⟩,by simp;omega⟩
        ·have HD2:Hd (Mid m es rs L l x (Seg A a (j+1))):=by
          have:=HD.out.stay (s:=sN) (k:=kk) (by rw[← HPV.out];omega)
          exact this.imp (fun e he=>by rw[← HEQ.out];exact he.more)
         have hdec:decide (pv<L sN)=false:=by simpa using hfall
         generalize L sN=ls at *
         clear HD HPV HV1
         go_wp2_with fail
         refine⟨⟨j+1,_,_,_,_,by simp,by omega,HSD.out,HD2.out,HM.out⟩,by simp;omega⟩
       ·have hje:j=bl:=by omega
        have HV2:Hd (Inv m es rs L l):=by have:=HD.out;rw[hje] at this;exact this.done HALL.out
        clear HD
        go_wp2_with fail
        go_roundg (mu m L l)
        case measure=>exact HM.out
        case rel=>exact⟨L,ws,l,lv,HS.out,HV2.out,Nat.le_refl _⟩
 ·go_enter Tryz.func126,Tryz.ntmps126
  go_wp2_with fail
  refine(right_any n _ _ es rs w HE.out HRI.out (by omega) hrl).mono ?_
  rintro e w1 ⟨rfl,hF1⟩
  rw[decide_eq_false hG]
  have HF1:Hd _:=hF1
  clear hF1
  go_wp2_with fail
  go_ret2
  exact⟨HF1.out,Or.inl ⟨hG,rfl⟩⟩
end Go.Proofs.YtdkijecnnmncnaaGreatDoor.Wg
namespace Go.Proofs.YtdkijecnnmncnaaGreatDoor
open Go.RowKit (wrap32 wrap64)
set_option maxRecDepth 100000
set_option maxHeartbeats 1000000
theorem fr_of {S:Nat→Prop}{w w':World}(h:Wg.Fr S w w'):Fr S w w':=⟨h.os,h.tape,h.output,h.size,h.block⟩
theorem fr_to {S:Nat→Prop}{w w':World}(h:Fr S w w'):Wg.Fr S w w':=⟨h.os,h.tape,h.output,h.size,h.block⟩
theorem reach_of {es:List Ed}{rs:List Int}{i d:Int}(h:Wg.Reach es rs i d):Reach es rs i d:=by
 induction h with
 | root hr=>exact .root hr
 | step he _ ih=>exact .step he ih
theorem least_of {n:Nat}{es:List Ed}{rs:List Int}{x:Nat→Int}(h:Wg.Least n es rs x):Least n es rs x :=
 ⟨h.root,h.edge,fun i hi=>(h.way i hi).imp id reach_of⟩
theorem right_to {n:Int}{es:List Ed}{rs:List Int}(h:RightG n es rs):Wg.RightG n es rs:=h
theorem stold_any (P R V:Int)(a:Option Addr)(cn cc:Nat)(ea:Option Addr)(en ec:Nat)(x:Nat→Int)(b n:Nat)(v:Int)(w:World)(hr:Wg.Row w 3 b n (fun i=>vI (x i)))(k:Nat)(hk:varX R V v=k)(hkn:k<n) :
 Calls Tryz.prog 89 #[.agg #[vI P,vI R,vI V,.slice a cn cc,.slice ea en ec],.slice (some ⟨b,0,none⟩) n n,vI v] w fun e w'=>e = .returned (vI (max (x k) 0))∧Fr (fun _=>False) w w':=by
 obtain⟨wa,hwa⟩:∃ wa,wa=w.alloc (.cells #[vI P,vI R,vI V,.slice a cn cc,.slice ea en ec] 89):=⟨_,rfl⟩
 have hb:wa.heap[w.heap.size]?=some (.cells #[vI P,vI R,vI V,.slice a cn cc,.slice ea en ec] 89):=by rw[hwa];exact heap_new0 w _
 have HWA:Hd (wa=w.alloc (.cells #[vI P,vI R,vI V,.slice a cn cc,.slice ea en ec] 89)):=hwa
 obtain⟨H,hH⟩:∃ H,H=w.heap.size:=⟨_,rfl⟩
 have HH:Hd (H=w.heap.size):=hH
 rw[← hH] at hb
 have c0:wa.cell? ⟨H,0,none⟩=some (vI P):=by rw[cell_of0 hb];rfl
 have c1:wa.cell? ⟨H,1,none⟩=some (vI R):=by rw[cell_of0 hb];rfl
 have c2:wa.cell? ⟨H,2,none⟩=some (vI V):=by rw[cell_of0 hb];rfl
 have c3:wa.cell? ⟨H,3,none⟩=some (.slice a cn cc):=by rw[cell_of0 hb];rfl
 have hFa:Fr (fun _=>False) w wa:=by rw[hwa];exact Fr.alloc (Fr.refl _ w) _
 have HFA:Hd (Fr (fun _=>False) w wa):=hFa
 have HR:Hd (Wg.Row w 3 b n (fun i=>vI (x i))):=hr
 have hkn':(0:Int)≤k∧(k:Int)<n:=by omega
 clear hwa hH hb hFa hr
 go_enter Tryz.func89,Tryz.ntmps89
 go_upto_region 1 with fail
 rw[← HWA.out,← HH.out]
 clear HWA
 go_wp2_with fail
 refine(show Calls Tryz.prog 128 #[.agg #[vI P,vI R,vI V,.slice a cn cc],vI v] wa _ from variable_any P R V v a cn cc wa).mono ?_
 rintro e w1 ⟨rfl,hf1⟩
 rw[hk]
 have hF:Fr (fun _=>False) w w1:=HFA.out.trans hf1
 have hcell:w1.cell? ⟨b,k,none⟩=some (vI (x k)):=(hF.cell HR.out.lt (fun e=>e)).trans (HR.out.cell hkn)
 have HF:Hd (Fr (fun _=>False) w w1):=hF
 clear hF hf1 c0 c1 c2 c3
 go_wp2_with fail
 ·go_ret
  have e:max (x k) 0=0:=by omega
  rw[e]
  exact⟨rfl,HF.out⟩
 ·go_ret
  have e:max (x k) 0=x k:=by omega
  rw[e]
  exact⟨rfl,HF.out⟩
set_option maxRecDepth 100000
set_option maxHeartbeats 2000000
theorem ints_stay {w w':World}{v:Value}{zs:List Int}(h:Wg.IntsAt w.heap.size w v zs)(f:Fr (fun _=>False) w w'):Wg.IntsAt w'.heap.size w' v zs:=by
 obtain⟨a,c,e,hc,h⟩:=h
 refine⟨a,c,e,hc,fun hne=>?_⟩
 obtain⟨k,o,e',hk,hh⟩:=h hne
 exact⟨k,o,e',Nat.lt_of_lt_of_le hk f.size,fun i hi=>(f.cell hk (fun e=>e)).trans (hh i hi)⟩
theorem edges_stay {w w':World}{v:Value}{es:List Ed}(h:Wg.EdgesAt w.heap.size w v es)(f:Fr (fun _=>False) w w'):Wg.EdgesAt w'.heap.size w' v es:=by
 obtain⟨a,c,e,hc,h⟩:=h
 refine⟨a,c,e,hc,fun hne=>?_⟩
 obtain⟨k,o,e',hk,hh⟩:=h hne
 refine⟨k,o,e',Nat.lt_of_lt_of_le hk f.size,fun i hi=>?_⟩
 obtain⟨h1,h2,h3⟩:=hh i hi
 exact⟨(f.cell hk (fun e=>e)).trans h1,(f.cell hk (fun e=>e)).trans h2,(f.cell hk (fun e=>e)).trans h3⟩
def FlwE (n:Nat)(es:List Ed)(rs:List Int)(w:World)(e:Ending)(w':World):Prop :=
 Fr (fun _=>False) w w'∧∃ b x,e = .returned (.slice (some ⟨b,0,none⟩) n n)∧w.heap.size≤b∧Wg.Row w' 3 b n (fun i=>vI (x i))∧Least n es rs x
theorem flows_any (fs:List PF)(f:PF)(hf:FunR fs f)(a:Option Addr)(c:Nat)(ea:Option Addr)(ec:Nat)(es:List Ed)(ra:Option Addr)(rc:Nat)(rs:List Int)(w:World)(hC:CA w (.slice a f.code.length c) f.code)(hE:Wg.EdgesAt w.heap.size w (.slice ea es.length ec) es)(hR:Wg.IntsAt w.heap.size w (.slice ra rs.length rc) rs)(hG:RightG (locN f) es rs)(hel:es.length≤11000000000000)(hrl:rs.length≤100000000000000) :
 Calls Tryz.prog 88 #[.agg #[vI f.P,vI f.R,vI f.V,.slice a f.code.length c,.slice ea es.length ec],.slice ra rs.length rc] w (FlwE (locN f) es rs w):=by
 have hfl:=floc_is hf
 have hlen:=hf.len
 obtain⟨wa,hwa⟩:∃ wa,wa=w.alloc (.cells #[vI f.P,vI f.R,vI f.V,.slice a f.code.length c,.slice ea es.length ec] 89):=⟨_,rfl⟩
 have hb:wa.heap[w.heap.size]?=some (.cells #[vI f.P,vI f.R,vI f.V,.slice a f.code.length c,.slice ea es.length ec] 89):=by rw[hwa];exact heap_new0 w _
 have HWA:Hd (wa=w.alloc (.cells #[vI f.P,vI f.R,vI f.V,.slice a f.code.length c,.slice ea es.length ec] 89)):=hwa
 obtain⟨H,hH⟩:∃ H,H=w.heap.size:=⟨_,rfl⟩
 have HH:Hd (H=w.heap.size):=hH
 rw[← hH] at hb
 have HS:Hd (∀ wx,Fr (fun _=>False) wa wx→wx.cell? ⟨H,0,none⟩=some (vI f.P)∧wx.cell? ⟨H,1,none⟩=some (vI f.R)∧wx.cell? ⟨H,2,none⟩=some (vI f.V)∧wx.cell? ⟨H,3,none⟩=some (.slice a f.code.length c)∧wx.cell? ⟨H,4,none⟩=some (.slice ea es.length ec)):=fun wx hx=>by
  have hb:=(hx.block H (heap_lt0 hb) (fun e=>e)).trans hb
  exact⟨by rw[cell_of0 hb];rfl,by rw[cell_of0 hb];rfl,by rw[cell_of0 hb];rfl,by rw[cell_of0 hb];rfl,by rw[cell_of0 hb];rfl⟩
 have hFa:Fr (fun _=>False) w wa:=by rw[hwa];exact Fr.alloc (Fr.refl _ w) _
 have HFA:Hd (Fr (fun _=>False) w wa):=hFa
 have HL:Hd (Calls Tryz.prog 127 #[.agg #[vI f.P,vI f.R,vI f.V,.slice a f.code.length c]] wa.drew fun e w'=>e = .returned (vI (locN f:Nat))∧Fr (fun _=>False) wa.drew w'):=by
  have:=locations_any f (.slice a f.code.length c) wa.drew (hC.stay (Fr.drew hFa)) (by omega)
  rw[hfl] at this
  exact this
 have HFR:Hd (∀ wx,Fr (fun _=>False) w wx→Calls Tryz.prog 126 #[vI (locN f:Nat),.slice ea es.length ec,.slice ra rs.length rc] wx fun e w'=>Fr (fun _=>False) wx w'∧∃ b x,e = .returned (.tuple #[.slice (some ⟨b,0,none⟩) (locN f) (locN f),vI 0])∧wx.heap.size≤b∧Wg.Row w' 3 b (locN f) (fun i=>vI (x i))∧Least (locN f) es rs x):=fun wx hx=>by
  refine(Wg.from_any (locN f:Nat) _ _ es rs wx (edges_stay hE hx) (ints_stay hR hx) hel hrl).mono ?_
  rintro e w' ⟨h1,h2⟩
  refine⟨fr_of h1,?_⟩
  rcases h2 with⟨hn,-⟩|⟨-,b,x,he,hb,hr,hl⟩
  ·exact absurd (right_to hG) hn
  ·exact⟨b,x,he,hb,hr,least_of hl⟩
 obtain⟨s0,s1,s2,s3,s4⟩:=HS.out wa (Fr.refl _ wa)
 generalize locN f=n at *
 clear hwa hH hb hFa hC hE hR hG hfl hf
 go_enter Tryz.func88,Tryz.ntmps88
 go_upto_region 1 with fail
 rw[← HWA.out,← HH.out]
 clear HWA
 go_cut [5] (fun x5 wx=>∃ b x,x5 = .slice (some ⟨b,0,none⟩) n n∧Hd (w.heap.size≤b∧Wg.Row wx 3 b n (fun i=>vI (x i))∧Least n es rs x∧Fr (fun _=>False) w wx))
 case first =>
  go_region_with ((
   first
    |(go_at_call 127
      refine HL.out.mono ?_
      rintro e w3 ⟨rfl,hF3⟩
      have HF3:Hd (Fr (fun _=>False) w w3):=(Fr.drew HFA.out).trans hF3
      obtain⟨s0,s1,s2,s3,s4⟩:=HS.out w3 ((Fr.drew (Fr.refl _ wa)).trans hF3)
      clear hF3)
    |(go_at_call 126
      refine(HFR.out w3 HF3.out).mono ?_
      rintro e w4 ⟨hF4,b,x,rfl,h4⟩
      have H4:Hd (w.heap.size≤b∧Wg.Row w4 3 b n (fun i=>vI (x i))∧Least n es rs x∧Fr (fun _=>False) w w4):=⟨Nat.le_trans HF3.out.size h4.1,h4.2.1,h4.2.2,HF3.out.trans hF4⟩
      clear hF4 h4)))
  all_goals
   go_wp2_with fail
   go_meet
   exact⟨_,_,rfl,H4.out⟩
 case rest =>
  obtain⟨b,x,rfl,h4⟩:=hcut
  go_wp2_with fail
  go_ret
  exact⟨h4.2.2.2,b,x,rfl,h4.1,h4.2.1,h4.2.2.1⟩
set_option maxRecDepth 100000
set_option maxHeartbeats 1000000
theorem nones_any (n:Nat)(hn:n≤8)(w:World) :
 Calls Tryz.prog 75 #[vI n] w fun e w'=>∃ g,e = .returned (.slice (some ⟨g,0,none⟩) n n)∧w.heap.size≤g∧w'.heap[g]?=some (.cells (List.replicate n (vI 9)).toArray 3)∧Fr (fun _=>False) w w':=by
 have HF:Hd (Fr (fun _=>False) w (w.alloc (.cells #[vI 9] 3))):=Fr.alloc (Fr.refl _ w) _
 have hx:(w.alloc (.cells #[vI 9] 3)).cell? ⟨w.heap.size,0,none⟩=some (vI 9):=by rw[cell_of (heap_new w _)];rfl
 have HX:Hd _:=hx
 clear hx
 go_enter Tryz.func75,Tryz.ntmps75
 go_wp2_with fail
 refine(show Calls Tryz.prog 119 #[.slice (some ⟨w.heap.size,0,none⟩) 1 1,.int .i64 n] (w.alloc (.cells #[vI 9] 3)) _ from Wg.repeat_nine w.heap.size n (by omega) _ HX.out).mono ?_
 rintro e w1 ⟨rfl,hg,hF1⟩
 have hF1:=fr_of hF1
 have HG:Hd (w1.heap[w.heap.size+1]?=some (.cells (List.replicate n (vI 9)).toArray 3)):=by unfold Hd;simpa using hg
 have HF1:Hd (Fr (fun _=>False) w w1):=HF.out.trans hF1
 clear hg hF1
 go_wp2_with fail
 go_ret
 exact⟨_,rfl,Nat.le_succ _,HG.out,HF1.out⟩
end Go.Proofs.YtdkijecnnmncnaaGreatDoor
