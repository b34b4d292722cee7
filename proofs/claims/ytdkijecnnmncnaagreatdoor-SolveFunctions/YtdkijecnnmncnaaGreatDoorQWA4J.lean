import Derived.Test.YtdkijecnnmncnaaGreatDoorQSdJ
import Derived.Deep.DeepCutAuto
set_option linter.unusedVariables false
set_option linter.unusedSimpArgs false
namespace Go.Proofs.YtdkijecnnmncnaaGreatDoor.Wg
open Go.RowKit (wrap32 wrap64)
set_option maxRecDepth 100000
set_option maxHeartbeats 2000000
theorem under24 : Tryz.prog.underlying 85=some (.slice 140):=by kernel_rfl
def eCell (e:Ed)(k:Nat):Value:=if k=0 then vI e.1 else if k=1 then vI e.2.1 else vI e.2.2
def eRow (A:Nat→Ed)(p:Nat):Value:=eCell (A (p / 3)) (p % 3)
theorem eRow_0 (A:Nat→Ed)(i:Nat):eRow A (i*3)=vI (A i).1:=by
 unfold eRow;rw[show i*3 / 3=i by omega,show i*3 % 3=0 by omega];rfl
theorem eRow_1 (A:Nat→Ed)(i:Nat):eRow A (i*3+1)=vI (A i).2.1:=by
 unfold eRow;rw[show(i*3+1) / 3=i by omega,show(i*3+1) % 3=1 by omega];rfl
theorem eRow_2 (A:Nat→Ed)(i:Nat):eRow A (i*3+2)=vI (A i).2.2:=by
 unfold eRow;rw[show(i*3+2) / 3=i by omega,show(i*3+2) % 3=2 by omega];rfl
theorem Row.setE {w:World}{t:TypeId}{b m:Nat}{A:Nat→Ed}(h:Row w t b m (eRow A))(i:Nat)(e:Ed) :
 Row (((w.setCell ⟨b,i*3,none⟩ (vI e.1)).setCell ⟨b,i*3+1,none⟩ (vI e.2.1)).setCell ⟨b,i*3+2,none⟩ (vI e.2.2)) t b m (eRow (upd A i e)):=by
 refine(((h.set _ _).set _ _).set _ _).congr fun j _=>?_
 have hj:j=j / 3*3+j % 3:=by omega
 have h3:j % 3<3:=Nat.mod_lt _ (by omega)
 by_cases hi:j / 3=i
 ·rcases(show j % 3=0∨j % 3=1∨j % 3=2 by omega) with h0 | h0 | h0
  ·have:j=i*3:=by omega
   subst this
   rw[upd_ne _ _ (by omega),upd_ne _ _ (by omega),upd_same,eRow_0,upd_same]
  ·have:j=i*3+1:=by omega
   subst this
   rw[upd_ne _ _ (by omega),upd_same,eRow_1,upd_same]
  ·have:j=i*3+2:=by omega
   subst this
   rw[upd_same,eRow_2,upd_same]
 ·rw[upd_ne _ _ (by omega),upd_ne _ _ (by omega),upd_ne _ _ (by omega)]
  unfold eRow
  rw[upd_ne _ _ hi]
def zE (N:Nat):Array Value:=madeCells #[vI 0,vI 0,vI 0] (N*3)
theorem make_edges (N:Nat)(hN:N≤11000000000000)(w:World):(Instr.makeSlice 85 (.int .i64 N) (.int .i64 N)).run Tryz.prog w = .ok (.slice (some ⟨w.heap.size,0,none⟩) N N) (w.alloc (.cells (zE N) 140)):=by
 rw[run_make_of 85 140 (.agg #[vI 0,vI 0,vI 0]) 3 24 under24 (by kernel_rfl) (by kernel_rfl) (by kernel_rfl) N (by omega) (by omega) w]
 rfl
theorem zE_row (w:World)(N b:Nat)(hb:w.heap[b]?=some (.cells (zE N) 140)):Row w 140 b (N*3) (eRow fun _=>(0,0,0)):=by
 refine⟨zE N,hb,by simp[zE,madeCells],fun i hi=>?_⟩
 have h3:i % 3<3:=Nat.mod_lt _ (by omega)
 have e:eRow (fun _=>((0:Int),(0:Int),(0:Int))) i=vI 0:=by
  unfold eRow eCell
  split
  ·rfl
  ·split<;>rfl
 rw[e]
 have hs:i<(zE N).size:=by simpa[zE,madeCells] using hi
 rw[Array.getElem?_eq_getElem hs]
 congr 1
 simp only[zE,madeCells,Array.getElem_map,Array.getElem_range]
 show #[vI 0,vI 0,vI 0][i % 3]! = _
 rcases(show i % 3=0∨i % 3=1∨i % 3=2 by omega) with h0 | h0 | h0<;>rw[h0]<;>rfl
theorem cnt_le (es:List Ed):∀ i l,cnt es i l≤i
 | 0,_=>Nat.le_refl _
 | i+1,l=>by have:=cnt_le es i l;simp only[cnt];split<;>omega
structure Bd (w wr:World)(rb ib eb fb n N:Nat)(F:Nat→Nat)(A:Nat→Ed):Prop where
 res:wr.heap[rb]?=some (.cells #[.slice none 0 0,.slice none 0 0] 216)
 inn:wr.heap[ib]?=some (.cells #[.slice (some ⟨eb,0,none⟩) N N,.slice (some ⟨fb,0,none⟩) (n+1) (n+1)] 216)
 es:Row wr 140 eb (N*3) (eRow A)
 fi:Row wr 3 fb (n+1) (fun l=>vI (F l:Nat))
 fr:Fr (fun _=>False) w wr
 ge:w.heap.size≤rb∧w.heap.size≤ib∧w.heap.size≤eb∧w.heap.size≤fb
 ne:(ib≠eb∧ib≠fb∧eb≠fb)∧(rb≠ib∧rb≠eb∧rb≠fb)
theorem Bd.keep {w wr w':World}{rb ib eb fb n N:Nat}{F:Nat→Nat}{A:Nat→Ed}(h:Bd w wr rb ib eb fb n N F A)(f:Fr (fun _=>False) wr w'):Bd w w' rb ib eb fb n N F A where
 res:=(f.block _ (heap_lt h.res) (fun h=>h)).trans h.res
 inn:=(f.block _ (heap_lt h.inn) (fun h=>h)).trans h.inn
 es:=h.es.fr f (fun h=>h)
 fi:=h.fi.fr f (fun h=>h)
 fr:=h.fr.trans f
 ge:=h.ge
 ne:=h.ne
theorem Bd.congr {w wr:World}{rb ib eb fb n N:Nat}{F F':Nat→Nat}{A:Nat→Ed}(h:Bd w wr rb ib eb fb n N F A)(e:∀ l,l<n+1→F l=F' l):Bd w wr rb ib eb fb n N F' A :=
 { h with fi:=h.fi.congr fun l hl=>by rw[e l hl] }
theorem Bd.setF {w wr:World}{rb ib eb fb n N:Nat}{F:Nat→Nat}{A:Nat→Ed}(h:Bd w wr rb ib eb fb n N F A)(l x:Nat):Bd w (wr.setCell ⟨fb,l,none⟩ (vI (x:Nat))) rb ib eb fb n N (upd F l x) A:=by
 have f:Fr (fun k=>k=fb) wr (wr.setCell ⟨fb,l,none⟩ (vI (x:Nat))):=Fr.setCell (Fr.refl _ wr) _ _ (Or.inl rfl)
 refine⟨(f.block _ (heap_lt h.res) h.ne.2.2.2).trans h.res,(f.block _ (heap_lt h.inn) h.ne.1.2.1).trans h.inn,h.es.fr f h.ne.1.2.2,?_,h.fr.setCell _ _ (Or.inr h.ge.2.2.2),h.ge,h.ne⟩
 refine(h.fi.set l (vI (x:Nat))).congr fun j _=>?_
 unfold upd
 split<;>rfl
theorem Bd.setA {w wr:World}{rb ib eb fb n N:Nat}{F:Nat→Nat}{A:Nat→Ed}(h:Bd w wr rb ib eb fb n N F A)(p:Nat)(e:Ed) :
 Bd w (((wr.setCell ⟨eb,p*3,none⟩ (vI e.1)).setCell ⟨eb,p*3+1,none⟩ (vI e.2.1)).setCell ⟨eb,p*3+2,none⟩ (vI e.2.2)) rb ib eb fb n N F (upd A p e):=by
 have f:Fr (fun k=>k=eb) wr (((wr.setCell ⟨eb,p*3,none⟩ (vI e.1)).setCell ⟨eb,p*3+1,none⟩ (vI e.2.1)).setCell ⟨eb,p*3+2,none⟩ (vI e.2.2)) :=
  Fr.setCell (S:=fun k=>k=eb) (Fr.setCell (S:=fun k=>k=eb) (Fr.setCell (S:=fun k=>k=eb) (Fr.refl _ wr) ⟨eb,p*3,none⟩ _ (Or.inl rfl)) ⟨eb,p*3+1,none⟩ _ (Or.inl rfl)) ⟨eb,p*3+2,none⟩ _ (Or.inl rfl)
 refine⟨(f.block _ (heap_lt h.res) h.ne.2.2.1).trans h.res,(f.block _ (heap_lt h.inn) h.ne.1.1).trans h.inn,h.es.setE p e,h.fi.fr f (fun e=>h.ne.1.2.2 e.symm),?_,h.ge,h.ne⟩
 exact Fr.setCell (Fr.setCell (Fr.setCell h.fr _ _ (Or.inr h.ge.2.2.1)) _ _ (Or.inr h.ge.2.2.1)) _ _ (Or.inr h.ge.2.2.1)
theorem Bd.heads {w wr:World}{rb ib eb fb n N:Nat}{F:Nat→Nat}{A:Nat→Ed}(h:Bd w wr rb ib eb fb n N F A) :
 wr.cell? ⟨ib,0,none⟩=some (.slice (some ⟨eb,0,none⟩) N N)∧wr.cell? ⟨ib,1,none⟩=some (.slice (some ⟨fb,0,none⟩) (n+1) (n+1)):=by
 simp only[cell_of h.inn]
 exact⟨rfl,rfl⟩
theorem Bd.begin {w wx:World}{ib eb fb n N:Nat}(h0:wx.heap[w.heap.size]?=some (.cells #[.slice none 0 0,.slice none 0 0] 216))(h1:wx.heap[ib]?=some (.cells #[.slice (some ⟨eb,0,none⟩) N N,.slice (some ⟨fb,0,none⟩) (n+1) (n+1)] 216))
 (h2:wx.heap[eb]?=some (.cells (zE N) 140)) (h3:wx.heap[fb]?=some (.cells (Array.replicate (n+1) (vI 0)) 3)) (f:Fr (fun _=>False) w wx) (hge:w.heap.size<ib∧w.heap.size<eb∧w.heap.size<fb) (hne:ib≠eb∧ib≠fb∧eb≠fb) :
 Bd w wx w.heap.size ib eb fb n N (fun _=>0) (fun _=>(0,0,0)) :=
 ⟨h0,h1,zE_row wx N eb h2,⟨_,h3,by simp,fun i hi=>by simp[Array.getElem?_replicate,hi]⟩,f,⟨Nat.le_refl _,by omega,by omega,by omega⟩,hne,by omega,by omega,by omega⟩
section
variable (w:World) (o0 o1 o2 o3:Obj)
theorem four_fr : Fr (fun _=>False) w ((((w.alloc o0).alloc o1).alloc o2).alloc o3).drew:=(Fr.alloc (Fr.alloc (Fr.alloc (Fr.alloc (Fr.refl _ w) o0) o1) o2) o3).drew
theorem four_3 : ((((w.alloc o0).alloc o1).alloc o2).alloc o3).drew.heap[w.heap.size+1+1+1]?=some o3:=by
 have:=heap_alloc_last (((w.alloc o0).alloc o1).alloc o2) o3
 rw[show(((w.alloc o0).alloc o1).alloc o2).heap.size=w.heap.size+1+1+1 by simp] at this
 exact this
theorem four_2 : ((((w.alloc o0).alloc o1).alloc o2).alloc o3).drew.heap[w.heap.size+1+1]?=some o2:=by
 have:=heap_alloc_last ((w.alloc o0).alloc o1) o2
 have h:=Go.RowKit.Below.heap_alloc (((w.alloc o0).alloc o1).alloc o2) o3 (w.heap.size+1+1) (by simp)
 refine h.trans ?_
 simpa using this
theorem four_1 : ((((w.alloc o0).alloc o1).alloc o2).alloc o3).drew.heap[w.heap.size+1]?=some o1:=by
 have:=heap_alloc_last (w.alloc o0) o1
 have h:=Go.RowKit.Below.heap_alloc (((w.alloc o0).alloc o1).alloc o2) o3 (w.heap.size+1) (by simp<;>omega)
 have h':=Go.RowKit.Below.heap_alloc ((w.alloc o0).alloc o1) o2 (w.heap.size+1) (by simp)
 refine(h.trans h').trans ?_
 simpa using this
theorem four_0 : ((((w.alloc o0).alloc o1).alloc o2).alloc o3).drew.heap[w.heap.size]?=some o0:=by
 have:=heap_alloc_last w o0
 have h:=Go.RowKit.Below.heap_alloc (((w.alloc o0).alloc o1).alloc o2) o3 w.heap.size (by simp;omega)
 have h':=Go.RowKit.Below.heap_alloc ((w.alloc o0).alloc o1) o2 w.heap.size (by simp;omega)
 have h'':=Go.RowKit.Below.heap_alloc (w.alloc o0) o1 w.heap.size (by simp)
 exact((h.trans h').trans h'').trans this
end
def BdEnds (w:World)(n:Nat)(es:List Ed)(e:Ending)(w':World):Prop :=
 ∃ eb fb A F,e = .returned (.agg #[.slice (some ⟨eb,0,none⟩) es.length es.length,.slice (some ⟨fb,0,none⟩) (n+1) (n+1)])∧Row w' 140 eb (es.length*3) (eRow A)∧Row w' 3 fb (n+1) (fun l=>vI (F l:Nat))∧ByD n es A F∧w.heap.size≤eb∧w.heap.size≤fb∧Fr (fun _=>False) w w'
theorem results_cell {fn:Func}{p:Tmp}{ty:TypeId}(h:fn.results=#[.cell p ty])(tmps:Array Value)(P:Program)(w:World) :
 (results fn tmps).run P w=((asAddr (tmps.getD p undef)).run P w).andThen fun a w₁=>(loadVar ty a).run P w₁:=by
 simp only[results,h]
 simp[Sem.run_bind,Result.andThen]
theorem byDst_any (n:Nat)(ev:Value)(es:List Ed)(w:World)(hE:EdgesAt w.heap.size w ev es)(hR:∀ e∈es,RightE n e)(hn:n≤1048576)(hel:es.length≤11000000000000) :
 Calls Tryz.prog 160 #[.int .i64 n,ev] w (BdEnds w n es):=by
 obtain⟨ea,ec,rfl,-,hein⟩:=hE
 have HE:Hd _:=hein
 have HR:Hd _:=hR
 clear hein hR
 have hm1:=make_edges es.length (by omega)
 have hm2:∀ w:World,(Instr.makeSlice 30 (.int .i64 ((n:Int)+1)) (.int .i64 ((n:Int)+1))).run Tryz.prog w = .ok (.slice (some ⟨w.heap.size,0,none⟩) (n+1) (n+1)) (w.alloc (.cells (Array.replicate (n+1) (vI 0)) 3)):=make_ints (n+1) (by omega)
 go_enter Tryz.func160,Tryz.ntmps160
 go_upto_region 1 with fail
 go_cut [5] (fun x5 wx=>∃ (ib eb fb:Nat),x5 = .pointer (some ⟨ib,0,none⟩)∧Hd (Bd w wx w.heap.size ib eb fb n es.length (fun _=>0) (fun _=>(0,0,0))))
 case first =>
  go_region
  all_goals
   go_wp2_with fail
   go_meet
   first
    | exact⟨_,_,_,rfl,Bd.begin (four_0 ..) (four_3 ..) (four_1 ..) (four_2 ..) (four_fr ..) (by omega) (by omega)⟩
    | exact⟨_,_,_,rfl,Bd.begin (four_0 ..) (four_3 ..) (four_2 ..) (four_1 ..) (four_fr ..) (by omega) (by omega)⟩
    | exact⟨_,_,_,rfl,Bd.begin (four_0 ..) (four_2 ..) (four_1 ..) (four_3 ..) (four_fr ..) (by omega) (by omega)⟩
    | exact⟨_,_,_,rfl,Bd.begin (four_0 ..) (four_2 ..) (four_3 ..) (four_1 ..) (four_fr ..) (by omega) (by omega)⟩
    | exact⟨_,_,_,rfl,Bd.begin (four_0 ..) (four_1 ..) (four_2 ..) (four_3 ..) (four_fr ..) (by omega) (by omega)⟩
    | exact⟨_,_,_,rfl,Bd.begin (four_0 ..) (four_1 ..) (four_3 ..) (four_2 ..) (four_fr ..) (by omega) (by omega)⟩
 case rest =>
  obtain⟨ib,eb,fb,rfl,HB⟩:=hcut
  clear hm1 hm2
  go_wp2_with fail
  go_loopw [21] (fun v wr=>∃ (k:Nat),v = .int .i64 k∧k≤es.length∧Hd (Bd w wr w.heap.size ib eb fb n es.length (cnt es k) (fun _=>(0,0,0)))) (fun v _=>match v with | .int _ q=>es.length-q.toNat | _=>0)
  case atStart=>exact⟨0,rfl,Nat.zero_le _,HB.out⟩
  case round =>
   obtain⟨k,rfl,hk,HB⟩:=hrel
   by_cases hlt:k<es.length
   ·obtain⟨pk,po,rfl,hpk,hcs⟩:=HE.out (by intro e;simp[e] at hlt)
    obtain⟨c0,c1,c2⟩:=hcs k hlt
    have p0:=(HB.out.fr.cell (o:=po+k*3) hpk (fun h=>h)).trans c0
    have p1:=(HB.out.fr.cell (o:=po+k*3+1) hpk (fun h=>h)).trans c1
    have p2:=(HB.out.fr.cell (o:=po+k*3+2) hpk (fun h=>h)).trans c2
    clear hcs c0 c1 c2
    have e1:eg es k=es[k]:=by unfold eg;rw[List.getD_eq_getElem?_getD,List.getElem?_eq_getElem hlt];rfl
    obtain⟨hd,hd'⟩:=dn_lt HR.out hlt
    rw[← e1] at p0 p1 p2
    rw[← hd'] at p0
    have hcb:cnt es k (dn es k)≤k:=cnt_le es k _
    have hBa:=HB.out.keep (Fr.alloc (Fr.refl _ wr) (.cells #[vI (dn es k:Nat),vI (eg es k).2.1,vI (eg es k).2.2] 140))
    obtain⟨q0,q1⟩:=hBa.heads
    have q2:=hBa.fi.cell (i:=dn es k) (by omega)
    have q3:=hBa.fi.frozen (dn es k)
    have HB2:Hd _:=(hBa.setF (dn es k) (cnt es k (dn es k)+1)).congr (F':=cnt es (k+1)) (fun l _=>by
     unfold upd
     simp only[cnt]
     by_cases e:l=dn es k
     ·rw[if_pos e,if_pos e.symm,e]
     ·rw[if_neg e,if_neg (fun h=>e h.symm)];rfl)
    clear hBa e1 hd' HB
    generalize dn es k=d at *
    generalize cnt es k d=c at *
    generalize (eg es k).2.1=s at *
    generalize (eg es k).2.2=q at *
    have hk0:(0:Int)≤k:=by omega
    have hk1:(k:Int)<es.length:=by omega
    have hd0:(0:Int)≤d:=by omega
    have hd1:(d:Int)<(n:Int)+1:=by omega
    go_wp2_with fail
    refine⟨⟨k+1,by simp,by omega,HB2.out⟩,by simp;omega⟩
   ·have hke:k=es.length:=by omega
    subst hke
    have hbm:∀ q,q≤n+1→beg es q≤es.length:=fun q hq=>by have:=beg_mono es hq;rw[beg_more HR.out] at this;exact this
    have HBM:Hd _:=hbm
    clear hbm
    obtain⟨q0,q1⟩:=HB.out.heads
    go_wp2_with fail
    clear q0 q1
    go_loopw [8,37] (fun en v wr=>∃ (q:Nat),en = .int .i64 (beg es q:Nat)∧v = .int .i64 q∧q≤n+1∧Hd (Bd w wr w.heap.size ib eb fb n es.length (fun l=>if l<q then beg es (l+1) else cnt es es.length l) (fun _=>(0,0,0)))) (fun _ v _=>match v with | .int _ q=>n+1-q.toNat | _=>0)
    case atStart=>exact⟨0,rfl,rfl,Nat.zero_le _,HB.out⟩
    case round =>
     obtain⟨q,rfl,rfl,hq,HB⟩:=hrel
     by_cases hqlt:q<n+1
     ·have hb1:=HBM.out q (by omega)
      have hb2:=HBM.out (q+1) (by omega)
      have hb3:beg es (q+1)=beg es q+cnt es es.length q:=rfl
      obtain⟨q0,q1⟩:=HB.out.heads
      have q2:=HB.out.fi.cell (i:=q) (by omega)
      rw[if_neg (Nat.lt_irrefl q)] at q2
      have q3:=HB.out.fi.frozen q
      have HB2:Hd _:=(HB.out.setF q (beg es q+cnt es es.length q)).congr (F':=fun l=>if l<q+1 then beg es (l+1) else cnt es es.length l) (fun l _=>by
       unfold upd
       by_cases e:l=q
       ·rw[if_pos e,if_pos (by omega),e];rfl
       ·rw[if_neg e]
        show(if l<q then beg es (l+1) else cnt es es.length l)=_
        by_cases e2:l<q
        ·rw[if_pos e2,if_pos (by omega)]
        ·rw[if_neg e2,if_neg (by omega)])
      have HB3:Hd (beg es (q+1)=beg es q+cnt es es.length q):=rfl
      rw[hb3] at hb2
      clear hb3
      generalize cnt es es.length q=c at *
      generalize beg es q=bq at *
      have hq0:(0:Int)≤q:=by omega
      have hq1:(q:Int)<(n:Int)+1:=by omega
      clear HB
      go_wp2_with fail
      refine⟨⟨q+1,by rw[HB3.out];simp,by simp,by omega,HB2.out⟩,by simp;omega⟩
     ·have hqe:q=n+1:=by omega
      have HB2:Hd _:=HB.out.congr (F':=fun l=>beg es (l+1)-cnt es 0 l) (fun l hl=>by rw[if_pos (by omega)];rfl)
      have hqf:¬ ((q:Int)<(n:Int)+1):=by omega
      clear HB hqe hq hqlt
      go_wp2_with fail
      go_loopw [55] (fun v wr=>∃ (k:Nat) (A:Nat→Ed),v = .int .i64 k∧k≤es.length∧Hd (Bd w wr w.heap.size ib eb fb n es.length (fun l=>beg es (l+1)-cnt es k l) A)∧Hd (∀ j,j<k→A (pos es j)=eg es j)) (fun v _=>match v with | .int _ q=>es.length-q.toNat | _=>0)
      case atStart=>exact⟨0,_,rfl,Nat.zero_le _,HB2.out,fun j hj=>absurd hj (Nat.not_lt_zero j)⟩
      case round =>
       obtain⟨k,A,rfl,hk,HB,HA⟩:=hrel
       clear HB2
       by_cases hlt:k<es.length
       ·obtain⟨pk,po,rfl,hpk,hcs⟩:=HE.out (by intro e;simp[e] at hlt)
        obtain⟨c0,c1,c2⟩:=hcs k hlt
        have p0:=(HB.out.fr.cell (o:=po+k*3) hpk (fun h=>h)).trans c0
        have p1:=(HB.out.fr.cell (o:=po+k*3+1) hpk (fun h=>h)).trans c1
        have p2:=(HB.out.fr.cell (o:=po+k*3+2) hpk (fun h=>h)).trans c2
        clear hcs c0 c1 c2
        have e1:eg es k=es[k]:=by unfold eg;rw[List.getD_eq_getElem?_getD,List.getElem?_eq_getElem hlt];rfl
        obtain⟨hd,hd'⟩:=dn_lt HR.out hlt
        rw[← e1] at p0 p1 p2
        rw[← hd'] at p0
        have hpi:=pos_in hlt
        have hpl:=pos_lt HR.out hlt
        have hsub:beg es (dn es k+1)-cnt es k (dn es k)=pos es k+1:=by omega
        have hBa:=HB.out.keep (Fr.alloc (Fr.refl _ wr) (.cells #[vI (dn es k:Nat),vI (eg es k).2.1,vI (eg es k).2.2] 140))
        obtain⟨q0,q1⟩:=hBa.heads
        have q2:=hBa.fi.cell (i:=dn es k) (by omega)
        rw[hsub] at q2
        have q3:=hBa.fi.frozen (dn es k)
        have hBb:=(hBa.setF (dn es k) (pos es k)).congr (F':=fun l=>beg es (l+1)-cnt es (k+1) l) (fun l _=>by
         unfold upd
         simp only[cnt]
         by_cases e:l=dn es k
         ·rw[if_pos e,if_pos e.symm,e];omega
         ·rw[if_neg e,if_neg (fun h=>e h.symm)];rfl)
        obtain⟨r0,r1⟩:=hBb.heads
        have r2:=hBb.fi.cell (i:=dn es k) (by omega)
        have hsub2:beg es (dn es k+1)-cnt es (k+1) (dn es k)=pos es k:=by simp only[cnt,if_true];omega
        rw[hsub2] at r2
        have hwlt:wr.heap.size≠fb:=by have:=HB.out.fi.lt;omega
        have hwle:wr.heap.size≠eb:=by have:=HB.out.es.lt;omega
        have hwli:wr.heap.size≠ib:=by have:=heap_lt HB.out.inn;omega
        have hne1:=HB.out.ne.1
        have r3:∀ j,((wr.alloc (.cells #[vI (dn es k:Nat),vI (eg es k).2.1,vI (eg es k).2.2] 140)).setCell ⟨fb,dn es k,none⟩ (vI (pos es k:Nat))).frozen? ⟨eb,j,none⟩=false:=fun j=>hBb.es.frozen j
        have r4:=hBb.es.cell (i:=pos es k*3) (by omega)
        have r5:=hBb.es.cell (i:=pos es k*3+1) (by omega)
        have r6:=hBb.es.cell (i:=pos es k*3+2) (by omega)
        have s1:=r3 (pos es k*3)
        have s2:=r3 (pos es k*3+1)
        have s3:=r3 (pos es k*3+2)
        have HA2:Hd (∀ j,j<k+1→upd A (pos es k) (eg es k) (pos es j)=eg es j):=fun j hj=>by
         by_cases e:j=k
         ·rw[e,upd_same]
         ·rw[upd_ne _ _ (pos_ne (show j<k by omega) hlt)];exact HA.out j (by omega)
        have HB2:Hd _:=hBb.setA (pos es k) (eg es k)
        have heq:eg es k=(((dn es k:Nat):Int),(eg es k).2.1,(eg es k).2.2):=by rw[hd']
        rw[heq] at HB2
        have HEG:Hd (eg es k=(((dn es k:Nat):Int),(eg es k).2.1,(eg es k).2.2)):=heq
        rw[heq] at HA2
        clear hBa hBb e1 hd' HB HA hsub hsub2 hpi r3 heq
        generalize dn es k=d at *
        generalize pos es k=p at *
        generalize (eg es k).2.1=s at *
        generalize (eg es k).2.2=q at *
        generalize eRow A (p*3)=x0 at *
        generalize eRow A (p*3+1)=x1 at *
        generalize eRow A (p*3+2)=x2 at *
        have hk0:(0:Int)≤k:=by omega
        have hk1:(k:Int)<es.length:=by omega
        have hd0:(0:Int)≤d:=by omega
        have hd1:(d:Int)<(n:Int)+1:=by omega
        have hp0:(0:Int)≤p:=by omega
        have hp1:(p:Int)<es.length:=by omega
        go_wp2_with fail
        go_region
        all_goals
         go_wp2_with fail
         refine⟨⟨k+1,_,by simp,by omega,HB2.out.keep (Fr.drew (Fr.refl _ _)),HA2.out⟩,by simp;omega⟩
       ·have hke:k=es.length:=by omega
        subst hke
        have hBe:=HB.out.congr (F':=beg es) (fun l _=>by show beg es (l+1)-cnt es es.length l=_;simp only[beg];omega)
        have hbd:=ByD.mk' HR.out HA.out
        obtain⟨q0,q1⟩:=hBe.heads
        have z0:=frozen_of hBe.res 0
        have z1:=frozen_of hBe.res 1
        have y0:wr.cell? ⟨w.heap.size,0,none⟩=some (.slice none 0 0):=by rw[cell_of hBe.res];rfl
        have y1:wr.cell? ⟨w.heap.size,1,none⟩=some (.slice none 0 0):=by rw[cell_of hBe.res];rfl
        have HBe:Hd _:=hBe
        have HBD:Hd _:=hbd
        clear hBe hbd HB HA
        go_wp2_with fail
        have f0:Fr (fun k=>k=w.heap.size) wr ((wr.setCell ⟨w.heap.size,0,none⟩ (.slice (some ⟨eb,0,none⟩) es.length es.length)).setCell ⟨w.heap.size,1,none⟩ (.slice (some ⟨fb,0,none⟩) (n+1) (n+1))) :=
         Fr.setCell (S:=fun k=>k=w.heap.size) (Fr.setCell (S:=fun k=>k=w.heap.size) (Fr.refl _ wr) ⟨w.heap.size,0,none⟩ _ (Or.inl rfl)) ⟨w.heap.size,1,none⟩ _ (Or.inl rfl)
        have hres:((wr.setCell ⟨w.heap.size,0,none⟩ (.slice (some ⟨eb,0,none⟩) es.length es.length)).setCell ⟨w.heap.size,1,none⟩ (.slice (some ⟨fb,0,none⟩) (n+1) (n+1))).heap[w.heap.size]?=some (.cells #[.slice (some ⟨eb,0,none⟩) es.length es.length,.slice (some ⟨fb,0,none⟩) (n+1) (n+1)] 216):=by
         rw[set_of (set_of HBe.out.res _ _)];rfl
        have x0:=cell_of hres 0
        have x1:=cell_of hres 1
        have HEND:Hd (BdEnds w n es (.returned (.agg #[.slice (some ⟨eb,0,none⟩) es.length es.length,.slice (some ⟨fb,0,none⟩) (n+1) (n+1)])) ((wr.setCell ⟨w.heap.size,0,none⟩ (.slice (some ⟨eb,0,none⟩) es.length es.length)).setCell ⟨w.heap.size,1,none⟩ (.slice (some ⟨fb,0,none⟩) (n+1) (n+1)))) :=
         ⟨eb,fb,A,beg es,rfl,HBe.out.es.fr f0 (fun e=>HBe.out.ne.2.2.1 e.symm),HBe.out.fi.fr f0 (fun e=>HBe.out.ne.2.2.2 e.symm),HBD.out,HBe.out.ge.2.2.1,HBe.out.ge.2.2.2,
          HBe.out.fr.anew f0 (fun j hj e=>absurd e (by omega))⟩
        generalize (wr.setCell ⟨w.heap.size,0,none⟩ (.slice (some ⟨eb,0,none⟩) es.length es.length)).setCell ⟨w.heap.size,1,none⟩ (.slice (some ⟨fb,0,none⟩) (n+1) (n+1))=w9 at *
        simp only[List.getElem?_toArray,List.getElem?_cons_zero,List.getElem?_cons_succ] at x0 x1
        refine bodyPost_ret (v:=.agg #[.slice (some ⟨eb,0,none⟩) es.length es.length,.slice (some ⟨fb,0,none⟩) (n+1) (n+1)]) ?_ rfl HEND.out
        rw[results_cell (p:=4) (ty:=216) Tryz.results160]
        simp[go_sem,x0,x1]
end Go.Proofs.YtdkijecnnmncnaaGreatDoor.Wg
namespace Go.Proofs.YtdkijecnnmncnaaGreatDoor.Wg
open Go.RowKit (wrap32 wrap64)
set_option maxRecDepth 100000
set_option maxHeartbeats 1000000
structure Td (w:World)(tb wb N B:Nat)(lv:Value)(ws:Nat→Bool)(l:List Nat):Prop where
 blk:w.heap[tb]?=some (.cells #[lv,.slice (some ⟨wb,0,none⟩) N N] 244)
 wts:Row w 4 wb N (fun i=>.bool (ws i))
 row:w.ownsRow B 3 1 lv l.length (l.map fun n:Nat=>vI n)
 tlt:tb<B
 wlt:wb<B
 ne:tb≠wb
 ble:B≤w.heap.size
def TdT (tb wb B:Nat):Nat→Prop:=fun k=>k=tb∨k=wb∨B≤k
theorem Td.fr {S:Nat→Prop}{w w':World}{tb wb N B:Nat}{lv:Value}{ws:Nat→Bool}{l:List Nat}(h:Td w tb wb N B lv ws l)(f:Fr S w w')(hS:∀ k,TdT tb wb B k→k<w.heap.size→¬ S k):Td w' tb wb N B lv ws l where
 blk:=(f.block tb (heap_lt h.blk) (hS tb (Or.inl rfl) (heap_lt h.blk))).trans h.blk
 wts:=h.wts.fr f (hS wb (Or.inr (Or.inl rfl)) h.wts.lt)
 row:=by
  have hr:=h.row
  refine⟨hr.1,?_⟩
  rcases hr.2 with h2 | ⟨g,cap,cur,rfl,h3,h4,h5⟩
  ·exact Or.inl h2
  ·exact Or.inr ⟨g,cap,cur,rfl,h3,by rw[f.block g (heap_lt h4) (hS g (Or.inr (Or.inr h3)) (heap_lt h4))];exact h4,h5⟩
 tlt:=h.tlt
 wlt:=h.wlt
 ne:=h.ne
 ble:=Nat.le_trans h.ble f.size
theorem Td.shape {w:World}{tb wb N B:Nat}{lv:Value}{ws:Nat→Bool}{l:List Nat}(h:Td w tb wb N B lv ws l):∃ ad cap,lv = .slice ad l.length cap∧(l≠[]→∃ g,ad=some ⟨g,0,none⟩∧B≤g∧g<w.heap.size∧l.length≤cap∧cap≤maxLen∧∀ j (hj:j<l.length),w.cell? ⟨g,j,none⟩=some (vI (l[j]:Nat))):=by
 rcases h.row.2 with⟨h2,h3⟩|⟨g,cap,cur,e,h3,h4,h5,h6,h7,h8⟩
 ·exact⟨none,0,by rw[h2,h3],fun hne=>absurd (List.eq_nil_of_length_eq_zero h3) hne⟩
 ·refine⟨_,cap,e,fun _=>⟨g,rfl,h3,heap_lt h4,h5,h6,fun j hj=>?_⟩⟩
  rw[cell_of h4]
  have:(cur.toList.take (l.length*1))[j]?=((l.map fun n:Nat=>vI n))[j]?:=by rw[h8]
  rw[List.getElem?_take,if_pos (by omega),List.getElem?_map,List.getElem?_eq_getElem hj] at this
  simpa using this
theorem Td.facts {w:World}{tb wb N B:Nat}{lv:Value}{ws:Nat→Bool}{l:List Nat}(h:Td w tb wb N B lv ws l):w.cell? ⟨tb,0,none⟩=some lv∧w.cell? ⟨tb,1,none⟩=some (.slice (some ⟨wb,0,none⟩) N N):=by
 simp only[cell_of h.blk]
 exact⟨rfl,rfl⟩
def Tds (w w':World)(tb wb N B:Nat)(ws:Nat→Bool)(l:List Nat):Prop:=∃ lv',Td w' tb wb N B lv' ws l∧Fr (TdT tb wb B) w w'
theorem put_any (tb wb N B:Nat)(lv:Value)(ws:Nat→Bool)(l:List Nat)(i:Nat)(w:World)(h:Td w tb wb N B lv ws l)(hi:i<N)(hN:N≤1048576)(hl:l.length≤10000000000) :
 Calls Tryz.prog 162 #[.pointer (some ⟨tb,0,none⟩),.int .i64 i] w fun e w'=>e = .returned (.tuple #[])∧Tds w w' tb wb N B (upd ws i true) (if ws i then l else l++[i]):=by
 obtain⟨f0,f1⟩:=h.facts
 have c1:=h.wts.cell hi
 have z1:=h.wts.frozen i
 have hi0:(0:Int)≤i:=by omega
 have hi1:(i:Int)<N:=by omega
 cases hw:ws i
 ·rw[hw] at c1
  have hF1:Fr (fun k=>k=wb) w (w.setCell ⟨wb,i,none⟩ (.bool true)):=Fr.setCell (Fr.refl _ w) _ _ (Or.inl rfl)
  have hW1:=h.wts.setB i true
  have hb1:=(hF1.block tb (heap_lt h.blk) h.ne).trans h.blk
  have hr1:(w.setCell ⟨wb,i,none⟩ (.bool true)).ownsRow B 3 1 lv l.length (l.map fun n:Nat=>vI n):=ownsRow_fr h.row hF1 (fun g hg e=>by have:=(World.ownsRow.lt h.row g hg).1;have:=h.wlt;omega)
  have hr2:=World.ownsRow.alloc hr1 (.cells #[vI i] 3)
  have hs1:(w.setCell ⟨wb,i,none⟩ (.bool true)).heap.size=w.heap.size:=by simp
  have hnews:∀ j u,[vI i][j]?=some u→((w.setCell ⟨wb,i,none⟩ (.bool true)).alloc (.cells #[vI i] 3)).cell? ((⟨w.heap.size,0,none⟩:Addr).add j)=some u:=by
   rw[← hs1]
   exact World.news_of_block (cs:=#[vI i]) (heap_alloc_last (w.setCell ⟨wb,i,none⟩ (.bool true)) (.cells #[vI i] 3))
  obtain⟨i3,hi3,hz3,hs3,hb3⟩:=info_parts (P:=Tryz.prog) (e:=3) (z:=.int .i64 0) (size:=1) (bytes:=8) (by kernel_rfl)
  have hF2:Fr (fun k=>k=wb) w ((w.setCell ⟨wb,i,none⟩ (.bool true)).alloc (.cells #[vI i] 3)):=hF1.alloc _
  have hng:∀ k,lv.ownBlock=some k→B≤k:=fun k hk=>(World.ownsRow.lt h.row k hk).1
  have e1:(w.setCell ⟨wb,i,none⟩ (.bool true)).cell? ⟨tb,0,none⟩=some lv:=by rw[cell_of hb1];rfl
  have hB2:B≤((w.setCell ⟨wb,i,none⟩ (.bool true)).alloc (.cells #[vI i] 3)).heap.size:=by simp;have:=h.ble;omega
  have HKEY:Hd (∀ g6 cap w6,w6.ownsRow B 3 1 (.slice (some ⟨g6,0,none⟩) (l.length+1) cap) (l.length+1) ((l.map fun n:Nat=>vI n)++[vI i])→((w.setCell ⟨wb,i,none⟩ (.bool true)).alloc (.cells #[vI i] 3)).grownBy w6 lv.ownBlock →
   w6.heap[tb]?=some (.cells #[lv,.slice (some ⟨wb,0,none⟩) N N] 244)∧∃ lv',Td (w6.setCell ⟨tb,0,none⟩ (.slice (some ⟨g6,0,none⟩) (l.length+1) cap)) tb wb N B lv' (upd ws i true) (l++[i])∧Fr (TdT tb wb B) w (w6.setCell ⟨tb,0,none⟩ (.slice (some ⟨g6,0,none⟩) (l.length+1) cap))):=by
   intro g6 cap w6 hown hgrow
   have hF6:=grown_fr hgrow
   have hb6:w6.heap[tb]?=some (.cells #[lv,.slice (some ⟨wb,0,none⟩) N N] 244):=by
    rw[hF6.block tb (Nat.lt_of_lt_of_le (heap_lt h.blk) hF2.size) (fun e=>by have:=hng tb e;have:=h.tlt;omega)]
    exact(hF2.block tb (heap_lt h.blk) h.ne).trans h.blk
   have hW6:Row w6 4 wb N (fun j=>.bool (upd ws i true j)):=by
    refine(hW1.fr (Fr.alloc (Fr.refl (fun _=>False) _) (.cells #[vI i] 3)) (fun h=>h)).fr hF6 (fun e=>?_)
    have:=hng wb e
    have:=h.wlt
    omega
   have hBg:=(World.ownsRow.lt hown g6 rfl).1
   have hF7:∀ v,Fr (fun k=>k=tb) w6 (w6.setCell ⟨tb,0,none⟩ v):=fun v=>Fr.setCell (Fr.refl _ w6) _ _ (Or.inl rfl)
   refine⟨hb6,.slice (some ⟨g6,0,none⟩) (l.length+1) cap,?_,?_⟩
   ·refine⟨?_,hW6.fr (hF7 _) (fun e=>h.ne e.symm),?_,h.tlt,h.wlt,h.ne,?_⟩
    ·rw[set_of hb6];rfl
    ·have:=ownsRow_fr hown (hF7 (.slice (some ⟨g6,0,none⟩) (l.length+1) cap)) (fun g hg e=>by cases hg;have:=h.tlt;simp at e;omega)
     simpa using this
    ·have:=hF6.size;have:=hF2.size;have:=h.ble;simp at *;omega
   ·refine Fr.setCell ?_ _ _ (Or.inl (Or.inl rfl))
    refine(hF2.mono (T:=TdT tb wb B) (fun k _ e=>Or.inr (Or.inl e))).anew hF6 (fun k _ e=>Or.inr (Or.inr (hng k e)))
  have HR2:Hd _:=hr2
  clear hF1 hW1 hb1 hr1 hr2 hF2 hng h
  go_enter Tryz.func162,Tryz.ntmps162
  go_wp2_with ((at_builtin;refine Hd.out ?_))
  unfold Hd
  refine wpList_append_lies _ rfl (.tmp 21) (.tmp 23) 30 rfl B 3 i3 (.int .i64 0) 1 8 under22 hi3 hz3 hs3 hb3 rfl (by omega) lv l.length _ rfl HR2.out ⟨w.heap.size,0,none⟩ 1 1 [vI i] rfl rfl hnews (by intro u hu;simp at hu;subst hu;rfl) (by omega) (by unfold maxLen;omega) (by omega) hB2 _ rfl ?_
  intro g6 cap w6 hown hgrow hat hlt
  obtain⟨hb6,hkey⟩:=HKEY.out g6 cap w6 hown hgrow
  have HR:Hd (Tds w (w6.setCell ⟨tb,0,none⟩ (.slice (some ⟨g6,0,none⟩) (l.length+1) cap)) tb wb N B (upd ws i true) (l++[i])):=hkey
  have t0:w6.cell? ⟨tb,0,none⟩=some lv:=by rw[cell_of hb6];rfl
  have y0:w6.frozen? ⟨tb,0,none⟩=false:=frozen_of hb6 0
  clear hown hgrow hat hlt hb6 hkey HKEY HR2
  go_wp2_with fail
  go_end0
  exact⟨rfl,HR.out⟩
 ·rw[hw] at c1
  have HH:Hd _:=h
  clear h
  go_enter Tryz.func162,Tryz.ntmps162
  go_wp2_with fail
  refine bodyPost_ret (results_none rfl _ _ _) rfl ?_
  refine⟨rfl,lv,?_,Fr.refl _ _⟩
  have e:upd ws i true=ws:=by
   funext j
   unfold upd
   split
   ·rename_i e;rw[e,hw]
   ·rfl
  rw[e]
  exact HH.out
theorem take_nil (tb wb N B:Nat)(lv:Value)(ws:Nat→Bool)(w:World)(h:Td w tb wb N B lv ws []) :
 Calls Tryz.prog 163 #[.pointer (some ⟨tb,0,none⟩)] w fun e w'=>e = .returned (.tuple #[vI 0,.bool false])∧w'=w:=by
 obtain⟨f0,f1⟩:=h.facts
 obtain⟨ad,cap,rfl,-⟩:=h.shape
 clear h
 go_enter Tryz.func163,Tryz.ntmps163
 go_wp2_with fail
 go_ret2
 exact⟨rfl,rfl⟩
theorem take_any (tb wb N B:Nat)(lv:Value)(ws:Nat→Bool)(l:List Nat)(x:Nat)(w:World)(h:Td w tb wb N B lv ws (l++[x]))(hx:x<N)(hN:N≤1048576)(hl:l.length≤10000000000) :
 Calls Tryz.prog 163 #[.pointer (some ⟨tb,0,none⟩)] w fun e w'=>e = .returned (.tuple #[vI x,.bool true])∧Tds w w' tb wb N B (upd ws x false) l:=by
 obtain⟨f0,f1⟩:=h.facts
 obtain⟨ad,cap,rfl,hsh⟩:=h.shape
 obtain⟨g,rfl,hBg,hg,hlc,hcm,hcell⟩:=hsh (by simp)
 have hc:=hcell l.length (by simp)
 have hl1:(l++[x]).length=l.length+1:=by simp
 simp only[List.getElem_append_right (Nat.le_refl _),Nat.sub_self,List.getElem_singleton] at hc
 rw[hl1] at f0 hlc
 have hF1:Fr (fun k=>k=tb) w (w.setCell ⟨tb,0,none⟩ (.slice (some ⟨g,0,none⟩) l.length cap)):=Fr.setCell (Fr.refl _ w) _ _ (Or.inl rfl)
 have hW1:=h.wts.fr hF1 (fun e=>h.ne e.symm)
 have hb1:(w.setCell ⟨tb,0,none⟩ (.slice (some ⟨g,0,none⟩) l.length cap)).heap[tb]?=some (.cells #[.slice (some ⟨g,0,none⟩) l.length cap,.slice (some ⟨wb,0,none⟩) N N] 244):=by
  rw[set_of h.blk];rfl
 have z0:=frozen_of h.blk 0
 have t1:(w.setCell ⟨tb,0,none⟩ (.slice (some ⟨g,0,none⟩) l.length cap)).cell? ⟨tb,1,none⟩=some (.slice (some ⟨wb,0,none⟩) N N):=by rw[cell_of hb1];rfl
 have c1:=hW1.cell hx
 have z1:=hW1.frozen x
 have hx0:(0:Int)≤x:=by omega
 have hx1:(x:Int)<N:=by omega
 have HR:Hd (∃ lv',Td ((w.setCell ⟨tb,0,none⟩ (.slice (some ⟨g,0,none⟩) l.length cap)).setCell ⟨wb,x,none⟩ (.bool false)) tb wb N B lv' (upd ws x false) l∧Fr (TdT tb wb B) w ((w.setCell ⟨tb,0,none⟩ (.slice (some ⟨g,0,none⟩) l.length cap)).setCell ⟨wb,x,none⟩ (.bool false))):=by
  have hF2:Fr (TdT tb wb B) w ((w.setCell ⟨tb,0,none⟩ (.slice (some ⟨g,0,none⟩) l.length cap)).setCell ⟨wb,x,none⟩ (.bool false)) :=
   Fr.setCell (hF1.mono (T:=TdT tb wb B) (fun k _ e=>Or.inl e)) _ _ (Or.inl (Or.inr (Or.inl rfl)))
  have hF3:Fr (fun k=>k=wb) (w.setCell ⟨tb,0,none⟩ (.slice (some ⟨g,0,none⟩) l.length cap)) ((w.setCell ⟨tb,0,none⟩ (.slice (some ⟨g,0,none⟩) l.length cap)).setCell ⟨wb,x,none⟩ (.bool false)):=Fr.setCell (Fr.refl _ _) _ _ (Or.inl rfl)
  refine⟨.slice (some ⟨g,0,none⟩) l.length cap,⟨?_,hW1.setB x false,?_,h.tlt,h.wlt,h.ne,?_⟩,hF2⟩
  ·exact(hF3.block tb (heap_lt hb1) h.ne).trans hb1
  ·rcases h.row.2 with⟨h2,h3⟩|⟨g',cap',cur,e,h3,h4,h5,h6,h7,h8⟩
   ·cases h2
   ·cases e
    refine⟨by simp,Or.inr ⟨g,cap,cur,rfl,h3,?_,by omega,h6,h7,?_⟩⟩
    ·rw[hF3.block g (by simpa using heap_lt h4) (by have:=h.wlt;omega),hF1.block g (heap_lt h4) (by have:=h.tlt;omega)]
     exact h4
    ·have:=congrArg (List.take (l.length*1)) h8
     rw[List.take_take,List.map_append,List.take_append_of_le_length (by simp)] at this
     rw[Nat.min_eq_left (by simp)] at this
     rw[this]
     apply List.take_of_length_le
     simp
  ·have:=h.ble;simpa using this
 clear hF1 hW1 hb1 h hcell hsh
 obtain⟨m,hm⟩:∃ m,m=l.length:=⟨_,rfl⟩
 rw[← hm] at *
 clear hm hl1
 go_enter Tryz.func163,Tryz.ntmps163
 go_wp2_with fail
 go_ret2
 exact⟨rfl,HR.out⟩
end Go.Proofs.YtdkijecnnmncnaaGreatDoor.Wg
namespace Go.Proofs.YtdkijecnnmncnaaGreatDoor.Wg
open Go.RowKit (wrap32 wrap64)
set_option maxRecDepth 100000
set_option maxHeartbeats 1000000
theorem under55 : Tryz.prog.underlying 35=some (.slice 4):=by kernel_rfl
theorem make_bools (n:Nat)(hn:n≤10000000000000)(w:World):(Instr.makeSlice 35 (.int .i64 n) (.int .i64 n)).run Tryz.prog w = .ok (.slice (some ⟨w.heap.size,0,none⟩) n n) (w.alloc (.cells (Array.replicate n (.bool false)) 4)):=by
 rw[run_make_of 35 4 (.bool false) 1 1 under55 (by kernel_rfl) (by kernel_rfl) (by kernel_rfl) n (by omega) (by omega) w,Nat.mul_one]
 show Result.ok _ (w.alloc (.cells (madeCells #[.bool false] n) 4))=_
 rw[made_one,List.toArray_replicate]
theorem newTodo_any (N:Nat)(hN:N≤1048576)(w:World) :
 Calls Tryz.prog 161 #[.int .i64 N] w fun e w'=>e = .returned (.pointer (some ⟨w.heap.size+1,0,none⟩))∧Td w' (w.heap.size+1) w.heap.size N (w.heap.size+2) (.slice none 0 0) (fun _=>false) []∧Fr (fun _=>False) w w':=by
 have hmk:=make_bools N (by omega) w
 have HT:Hd (Td ((w.alloc (.cells (Array.replicate N (.bool false)) 4)).alloc (.cells #[.slice none 0 0,.slice (some ⟨w.heap.size,0,none⟩) N N] 244)) (w.heap.size+1) w.heap.size N (w.heap.size+2) (.slice none 0 0) (fun _=>false) []):=by
  have h1:=heap_alloc_last (w.alloc (.cells (Array.replicate N (.bool false)) 4)) (.cells #[.slice none 0 0,.slice (some ⟨w.heap.size,0,none⟩) N N] 244)
  rw[show(w.alloc (.cells (Array.replicate N (.bool false)) 4)).heap.size=w.heap.size+1 by simp] at h1
  refine⟨h1,?_,World.ownsRow_nil _ _ _ _,by omega,by omega,by omega,by simp⟩
  exact(Row.made w 4 N (.bool false)).fr (Fr.alloc (Fr.refl (fun _=>False) _) _) (fun h=>h)
 have HF:Hd (Fr (fun _=>False) w ((w.alloc (.cells (Array.replicate N (.bool false)) 4)).alloc (.cells #[.slice none 0 0,.slice (some ⟨w.heap.size,0,none⟩) N N] 244))):=(Fr.refl _ w).alloc _ |>.alloc _
 go_enter Tryz.func161,Tryz.ntmps161
 go_wp2_with fail
 go_ret
 exact⟨rfl,HT.out,HF.out⟩
theorem Fr.drewN {S:Nat→Prop}{a w:World}(h:Fr S a w)(n:Nat):Fr S a (w.drewN n):=⟨h.os,h.tape,h.output,h.size,h.block⟩
def OfEnds (w:World)(eb a b:Nat)(e:Ending)(w':World):Prop :=
 ∃ ad c,e = .returned (.slice ad (b-a) c)∧(a<b→ad=some ⟨eb,a*3,none⟩)∧b-a≤c∧Fr (fun _=>False) w w'
theorem of_any (eb fb n N l:Nat)(F:Nat→Nat)(w:World)(hf:Row w 3 fb (n+1) (fun l=>vI (F l:Nat)))(hl:l<n)(hn:n≤1048576)(hN:N≤11000000000000)(hle:F l≤F (l+1))(hto:F (l+1)≤N) :
 Calls Tryz.prog 164 #[.agg #[.slice (some ⟨eb,0,none⟩) N N,.slice (some ⟨fb,0,none⟩) (n+1) (n+1)],.int .i64 l] w (OfEnds w eb (F l) (F (l+1))):=by
 have hfa:=hf.fr (Fr.alloc (Fr.refl (fun _=>False) w) (.cells #[.slice (some ⟨eb,0,none⟩) N N,.slice (some ⟨fb,0,none⟩) (n+1) (n+1)] 216)) (fun h=>h)
 have c0:=hfa.cell (i:=l) (by omega)
 have c1:=hfa.cell (i:=l+1) (by omega)
 have HF:Hd (∀ o,Fr (fun _=>False) w (w.alloc o)):=fun o=>(Fr.refl _ w).alloc o
 clear hf hfa
 generalize F l=a at *
 generalize F (l+1)=b at *
 have hl0:(0:Int)≤l:=by omega
 have hl1:(l:Int)<(n:Int)+1:=by omega
 have hl2:(l:Int)+1<(n:Int)+1:=by omega
 have ha0:(0:Int)≤a:=by omega
 have hab:(a:Int)≤b:=by omega
 have hb0:(b:Int)≤N:=by omega
 go_enter Tryz.func164,Tryz.ntmps164
 go_wp2_with fail
 go_quiet (fail)
 go_wp2_with fail
 all_goals
  go_ret
  refine⟨_,_,rfl,fun h=>?_,by omega,(HF.out _).drewN _⟩
  first
   | rfl
   |(exfalso;omega)
end Go.Proofs.YtdkijecnnmncnaaGreatDoor.Wg
