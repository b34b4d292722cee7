import Derived.Test.YtdkijecnnmncnaaGreatDoorQQj
import Derived.Deep.RegionHeld3
import Derived.Test.YtdkijecnnmncnaaGreatDoorQN8J
import Derived.Test.YtdkijecnnmncnaaGreatDoorQRgJ
import Derived.Test.YtdkijecnnmncnaaGreatDoorQEfJ
import Derived.Test.YtdkijecnnmncnaaGreatDoorQQhJ
import Derived.Test.YtdkijecnnmncnaaGreatDoorQQ4J
import Derived.Deep.RegionWith
set_option linter.unusedVariables false
set_option linter.unusedSimpArgs false
namespace Go.Proofs.YtdkijecnnmncnaaGreatDoor
open Go.RowKit Go.Shelf
theorem called_gives (n n0 Bi Bb Bs:Nat)(P R V:Int)(ca:Option Addr)(cn cc:Nat)(sv:Value)(op r s t m:Int)(av rv hv lv:Value)(args rets hs:List Int)(res:List (List Int))(w:World)(hlen:args.length≤1000000)(hhs:args.length≤hs.length)(hres:args.length≤res.length)(hrl:∀ x∈res,x.length≤rets.length)(hrt:rets.length≤1000000)(hn0:n0≤w.heap.size)
 (hBi:w.heap[Bi]?=some (.cells #[vI op,vI r,vI s,vI t,vI m,av,rv] 79)) (hBb:w.heap[Bb]?=some (.cells #[vI P,vI R,vI V,.slice ca cn cc,sv] 138)) (hBs:w.heap[Bs]?=some (.cells #[hv,lv] 33))
 (ha:IB n0 w av args) (hr:IB n0 w rv rets) (hh:IB n0 w hv hs) (hl:LB n0 w lv res) :
 SeqGivesC Fence.wide n Tryz.prog 193 #[] #[.pointer (some ⟨Bi,0,none⟩),.pointer (some ⟨Bb,0,none⟩),.pointer (some ⟨Bs,0,none⟩)] encE (fun _=>KpA n0) (fun xs=>xs=callT R V args rets hs res args.length) (callT R V args rets hs res args.length).length w:=fun l J W hW _ hl' hJ hY h0=>by
 have kb:∀ (k:Nat) (o:Obj),w.heap[k]?=some o→W.heap[k]?=some o:=fun k o h=>(hW.block k (heap_lt0 h)).trans h
 have hB:Below n0 w W:=⟨hW.os,hW.tape,hW.output,hW.size,fun k hk=>hW.block k (by omega)⟩
 refine(called1_in n l n0 Bi Bb Bs P R V ca cn cc sv op r s t m av rv hv lv args rets hs res _ hlen hhs hres hrl hrt W (Nat.le_trans hn0 hW.size) J rfl hY (fun pre A A' hs f=>own_fr hJ hs f) (kb _ _ hBi) (kb _ _ hBb) (kb _ _ hBs) (ha.kept hB) (hr.kept hB) (hh.kept hB) (hl.kept hB) h0).mono ?_
 rintro e W' ⟨he,hj⟩
 exact⟨he,_,rfl,hj⟩
theorem called_any (bo:Array Value)(io:Array Value)(so:Array Value)(P R V:Int)(ca:Option Addr)(cn cc:Nat)(sa:Option Addr)(sn sc:Nat)(iv:IV)(ha:Option Addr)(hn hc:Nat)(la:Option Addr)(ln lc:Nat)(w:World)(hb:bo=#[vI P,vI R,vI V,.slice ca cn cc,.slice sa sn sc])(hi:io=iv.cells)(hs:so=#[.slice ha hn hc,.slice la ln lc]) :
 Calls Tryz.prog 157 #[.agg bo,.agg io,.agg so] w fun e w'=>e = .returned (.func (.func 193) #[] #[.pointer (some ⟨w.heap.size+1,0,none⟩),.pointer (some ⟨w.heap.size,0,none⟩),.pointer (some ⟨w.heap.size+2,0,none⟩)])∧w'=((w.alloc (.cells bo 138)).alloc (.cells io 79)).alloc (.cells so 33):=by
 subst hb hi hs
 go_enter Tryz.func157,Tryz.ntmps157
 go_wp2
 go_ret
 exact⟨rfl,rfl⟩
end Go.Proofs.YtdkijecnnmncnaaGreatDoor
namespace Go.Proofs.YtdkijecnnmncnaaGreatDoor
open Go.RowKit (wrap32 wrap64)
set_option maxRecDepth 100000
set_option maxHeartbeats 4000000
theorem given_call (n0:Nat)(P R V:Int)(ca:Option Addr)(cn cc:Nat)(ks os sn sc:Nat)(r s t:Int)(m:Nat)(aa:Option Addr)(ac:Nat)(ra:Option Addr)(rc:Nat)(ha:Option Addr)(hc:Nat)(la:Option Addr)(lc:Nat)(args rets hs:List Int)(res:List (List Int))(cell:Int)(w:World)
 (hlen:args.length≤1000000) (hhs:args.length≤hs.length) (hres:args.length≤res.length) (hrl:∀ x∈res,x.length≤rets.length) (hrt:rets.length≤1000000) (h0:0<n0) (hn0:n0≤w.heap.size) (hT:RowsA w) (hm:m<sn) (hks:ks<n0)
 (hS:w.cell? ⟨ks,os+m*2,none⟩=some (.slice ha hs.length hc)∧w.cell? ⟨ks,os+m*2+1,none⟩=some (.slice la res.length lc)) (hA:IB n0 w (.slice aa args.length ac) args) (hRt:IB n0 w (.slice ra rets.length rc) rets) (hH:IB n0 w (.slice ha hs.length hc) hs) (hL:LB n0 w (.slice la res.length lc) res) :
 Given n0 (.agg #[vI P,vI R,vI V,.slice ca cn cc,.slice (some ⟨ks,os,none⟩) sn sc]) (.agg #[vI 11,vI r,vI s,vI t,vI (m:Int),.slice aa args.length ac,.slice ra rets.length rc]) cell (callT R V args rets hs res args.length) w:=by
 intro W hK
 obtain⟨y0,y1,y2,y3⟩:=(hT.kept hK h0) 11 (by omega)
 have t0:W.cell? ⟨0,44,none⟩=some (vI 3):=y0
 have t1:W.cell? ⟨0,45,none⟩=some (vI 0):=y1
 have t2:W.cell? ⟨0,46,none⟩=some (vI 0):=y2
 have t3:W.cell? ⟨0,47,none⟩=some (vI 0):=y3
 have hN:n0≤W.heap.size:=Nat.le_trans hn0 hK.below.size
 have hWp:0<W.heap.size:=Nat.lt_of_lt_of_le h0 hN
 have HN:Hd (n0≤W.heap.size):=hN
 have HA:Hd (IB n0 W (.slice aa args.length ac) args):=hA.kept hK.below
 have HRt:Hd (IB n0 W (.slice ra rets.length rc) rets):=hRt.kept hK.below
 have HHs:Hd (IB n0 W (.slice ha hs.length hc) hs):=hH.kept hK.below
 have HL:Hd (LB n0 W (.slice la res.length lc) res):=hL.kept hK.below
 have HSm:Hd (W.cell? ⟨ks,os+m*2,none⟩=some (.slice ha hs.length hc)∧W.cell? ⟨ks,os+m*2+1,none⟩=some (.slice la res.length lc)):=⟨(hK.below.cell (p:=⟨ks,os+m*2,none⟩) hks).trans hS.1,(hK.below.cell (p:=⟨ks,os+m*2+1,none⟩) hks).trans hS.2⟩
 have hm0:(0:Int)≤m:=by omega
 have hm1:(m:Int)<sn:=by omega
 clear y0 y1 y2 y3 hT hK hn0 h0 hA hRt hH hL hS hN
 obtain⟨wa,hwa⟩:∃ wa,wa=((W.alloc (.cells #[vI P,vI R,vI V,.slice ca cn cc,.slice (some ⟨ks,os,none⟩) sn sc] 138)).alloc (.cells #[vI 11,vI r,vI s,vI t,vI (m:Int),.slice aa args.length ac,.slice ra rets.length rc] 79)).alloc (.cells #[vI 3,vI 0,vI 0,vI 0] 209):=⟨_,rfl⟩
 have hF:Fr (fun _=>False) W wa:=by rw[hwa];exact Fr.alloc (Fr.alloc (Fr.alloc (Fr.refl _ W) _) _) _
 obtain⟨b0,b1,b2⟩:=alloc3 W (.cells #[vI P,vI R,vI V,.slice ca cn cc,.slice (some ⟨ks,os,none⟩) sn sc] 138) (.cells #[vI 11,vI r,vI s,vI t,vI (m:Int),.slice aa args.length ac,.slice ra rets.length rc] 79) (.cells #[vI 3,vI 0,vI 0,vI 0] 209)
 rw[← hwa] at b0 b1 b2
 have HWA:Hd (wa=((W.alloc (.cells #[vI P,vI R,vI V,.slice ca cn cc,.slice (some ⟨ks,os,none⟩) sn sc] 138)).alloc (.cells #[vI 11,vI r,vI s,vI t,vI (m:Int),.slice aa args.length ac,.slice ra rets.length rc] 79)).alloc (.cells #[vI 3,vI 0,vI 0,vI 0] 209)):=hwa
 obtain⟨H,hH⟩:∃ H,H=W.heap.size:=⟨_,rfl⟩
 have HH:Hd (H=W.heap.size):=hH
 rw[← hH] at b0 b1 b2
 have HF:Hd (Fr (fun _=>False) W wa):=hF
 have HT:Hd (∀ wx,Fr (fun _=>False) wa wx→(wx.cell? ⟨H,0,none⟩=some (vI P)∧wx.cell? ⟨H,1,none⟩=some (vI R)∧wx.cell? ⟨H,2,none⟩=some (vI V)∧wx.cell? ⟨H,3,none⟩=some (.slice ca cn cc)∧wx.cell? ⟨H,4,none⟩=some (.slice (some ⟨ks,os,none⟩) sn sc)∧wx.cell? ⟨H+1,0,none⟩=some (vI 11)∧wx.cell? ⟨H+1,1,none⟩=some (vI r)∧wx.cell? ⟨H+1,2,none⟩=some (vI s)∧wx.cell? ⟨H+1,3,none⟩=some (vI t)∧wx.cell? ⟨H+1,4,none⟩=some (vI (m:Int))∧wx.cell? ⟨H+1,5,none⟩=some (.slice aa args.length ac)∧wx.cell? ⟨H+1,6,none⟩=some (.slice ra rets.length rc)∧wx.cell? ⟨H+2,0,none⟩=some (vI 3)∧wx.cell? ⟨H+2,1,none⟩=some (vI 0)∧wx.cell? ⟨H+2,2,none⟩=some (vI 0)∧wx.cell? ⟨H+2,3,none⟩=some (vI 0))∧wx.cell? ⟨ks,os+m*2,none⟩=some (.slice ha hs.length hc)∧wx.cell? ⟨ks,os+m*2+1,none⟩=some (.slice la res.length lc)):=fun wx hx=>by
  have q0:=(hx.block _ (heap_lt0 b0) (fun e=>e)).trans b0
  have q1:=(hx.block _ (heap_lt0 b1) (fun e=>e)).trans b1
  have q2:=(hx.block _ (heap_lt0 b2) (fun e=>e)).trans b2
  have f:=hF.trans hx
  refine⟨⟨?_,?_,?_,?_,?_,?_,?_,?_,?_,?_,?_,?_,?_,?_,?_,?_⟩,(f.cell (by have:=HN.out;omega) (fun e=>e)).trans HSm.out.1,(f.cell (by have:=HN.out;omega) (fun e=>e)).trans HSm.out.2⟩<;>first | (rw[cell_of0 q0];rfl) | (rw[cell_of0 q1];rfl) | (rw[cell_of0 q2];rfl)
 clear hwa hF b0 b1 b2 hH
 go_enter Tryz.func125,Tryz.ntmps125
 go_upto_region 2 with fail
 rw[← HWA.out,← HH.out]
 clear HWA HH t0 t1 t2 t3 hWp
 obtain⟨⟨p0,p1,p2,p3,p4,p5,p6,p7,p8,p9,p10,p11,p12,p13,p14,p15⟩,u0,u1⟩:=HT.out wa (Fr.refl _ wa)
 go_upto_region 8 with fail
 go_cut [6] (fun x2 wx=>∃ X,x2 = .func (.func 193) #[] #[.pointer (some ⟨X+1,0,none⟩),.pointer (some ⟨X,0,none⟩),.pointer (some ⟨X+2,0,none⟩)]∧Hd (Fr (fun _=>False) wa wx)∧Hd (wx.heap[X]?=some (.cells #[vI P,vI R,vI V,.slice ca cn cc,.slice (some ⟨ks,os,none⟩) sn sc] 138)∧wx.heap[X+1]?=some (.cells #[vI 11,vI r,vI s,vI t,vI (m:Int),.slice aa args.length ac,.slice ra rets.length rc] 79)∧wx.heap[X+2]?=some (.cells #[.slice ha hs.length hc,.slice la res.length lc] 33)))
 case first =>
  go_region_held3 (fun w'=>w'.cell? ⟨H,0,none⟩=some (vI P)∧w'.cell? ⟨H,1,none⟩=some (vI R)∧w'.cell? ⟨H,2,none⟩=some (vI V)∧w'.cell? ⟨H,3,none⟩=some (.slice ca cn cc)∧w'.cell? ⟨H,4,none⟩=some (.slice (some ⟨ks,os,none⟩) sn sc)∧w'.cell? ⟨H+1,0,none⟩=some (vI 11)∧w'.cell? ⟨H+1,1,none⟩=some (vI r)∧w'.cell? ⟨H+1,2,none⟩=some (vI s)∧w'.cell? ⟨H+1,3,none⟩=some (vI t)∧w'.cell? ⟨H+1,4,none⟩=some (vI (m:Int))∧w'.cell? ⟨H+1,5,none⟩=some (.slice aa args.length ac)∧w'.cell? ⟨H+1,6,none⟩=some (.slice ra rets.length rc)∧w'.cell? ⟨H+2,0,none⟩=some (vI 3)∧w'.cell? ⟨H+2,1,none⟩=some (vI 0)∧w'.cell? ⟨H+2,2,none⟩=some (vI 0)∧w'.cell? ⟨H+2,3,none⟩=some (vI 0)∧w'.cell? ⟨ks,os+m*2,none⟩=some (.slice ha hs.length hc)∧w'.cell? ⟨ks,os+m*2+1,none⟩=some (.slice la res.length lc)) (go_keep) ((
   first
    |(go_at_call 157
      refine(called_any _ _ _ P R V ca cn cc (some ⟨ks,os,none⟩) sn sc ⟨11,r,s,t,m,aa,args.length,ac,ra,rets.length,rc⟩ ha hs.length hc la res.length lc _ rfl rfl rfl).mono ?_
      rintro e wo ⟨rfl,hwo⟩
      have HFo:Hd (Fr (fun _=>False) wa wo):=by unfold Hd;rw[hwo];exact Fr.alloc (Fr.alloc (Fr.alloc (Fr.drew (Fr.refl _ wa)) _) _) _
      have HBo:Hd (wo.heap[wa.drew.heap.size]?=some (.cells #[vI P,vI R,vI V,.slice ca cn cc,.slice (some ⟨ks,os,none⟩) sn sc] 138)∧wo.heap[wa.drew.heap.size+1]?=some (.cells #[vI 11,vI r,vI s,vI t,vI (m:Int),.slice aa args.length ac,.slice ra rets.length rc] 79)∧wo.heap[wa.drew.heap.size+2]?=some (.cells #[.slice ha hs.length hc,.slice la res.length lc] 33)):=by unfold Hd;rw[hwo];exact alloc3 _ _ _ _
      obtain⟨⟨p0,p1,p2,p3,p4,p5,p6,p7,p8,p9,p10,p11,p12,p13,p14,p15⟩,u0,u1⟩:=HT.out wo HFo.out
      clear hwo)
    | fail))
  all_goals
   go_wp2_with fail
   go_meet
   exact⟨_,rfl,HFo.out,HBo.out⟩
 case rest =>
  obtain⟨Xb,rfl,HFx,HBx⟩:=hcut
  go_wp2_with fail
  go_ret
  refine⟨193,_,rfl,enters_of Tryz.func193 (by kernel_rfl) rfl,HF.out.trans HFx.out,fun n=>?_⟩
  have f:=HF.out.trans HFx.out
  have fb:Go.RowKit.Below n0 W _:=⟨f.os,f.tape,f.output,f.size,fun k hk=>f.block k (by have:=HN.out;omega) (fun e=>e)⟩
  exact called_gives n n0 (Xb+1) Xb (Xb+2) P R V ca cn cc _ 11 r s t m _ _ _ _ args rets hs res _ hlen hhs hres hrl hrt (Nat.le_trans HN.out f.size) HBx.out.2.1 HBx.out.1 HBx.out.2.2 (HA.out.kept fb) (HRt.out.kept fb) (HHs.out.kept fb) (HL.out.kept fb)
theorem wrap_add (a b:Int):wrap64 (wrap64 a+b)=wrap64 (a+b):=by
 unfold wrap64
 omega
def newsX : List PI→Nat
 | []=>0
 | c::r=>(if c.op=6 then 1 else 0)+newsX r
theorem newsX_le : ∀ cs:List PI,newsX cs≤cs.length
 | []=>Nat.le_refl _
 | c::r=>by have:=newsX_le r;simp only[newsX,List.length_cons];split<;>omega
theorem newsX_snoc : ∀ (cs:List PI) (c:PI),newsX (cs++[c])=newsX cs+(if c.op=6 then 1 else 0)
 | [],c=>by simp[newsX]
 | d::r,c=>by simp only[List.cons_append,newsX,newsX_snoc r c];omega
def fcelX (R V at':Int)(cs:List PI):Int:=if 0≤R∧0≤V∧0≤at'∧at'<cs.length∧(cs[at'.toNat]?.map (·.op))=some 6 then wrap64 (cellX R V+(newsX (cs.take at'.toNat):Nat)) else -1
end Go.Proofs.YtdkijecnnmncnaaGreatDoor
namespace Go.Proofs.YtdkijecnnmncnaaGreatDoor
open Go.RowKit Go.Shelf
def dPI : PI:=⟨0,0,0,0,0,[],[]⟩
def dPS : PS:=⟨[],[]⟩
def clX (R V:Int)(cs:List PI):Nat→Int
 | 0=>cellX R V
 | j+1=>if (cs.getD j dPI).op=6 then wrap64 (clX R V cs j+1) else clX R V cs j
def edgI (ss:List PS)(R V cell:Int)(c:PI):List Ed :=
 if c.op=15 then retE R V c.args
 else if c.op=11 then callT R V c.args c.rets (ss.getD c.n.toNat dPS).H (ss.getD c.n.toNat dPS).R c.args.length
 else if (rowX c.op.toNat).1=1 then [(endX R V (rowX c.op.toNat).2.1 c.r c.s cell,endX R V (rowX c.op.toNat).2.2.1 c.r c.s cell,(rowX c.op.toNat).2.2.2)]
 else []
def edgX (ss:List PS)(f:PF):List Ed:=(List.range f.code.length).flatMap fun j=>edgI ss f.R f.V (clX f.R f.V f.code j) (f.code.getD j dPI)
theorem row_kind : ∀ op,op<18→op≠15→op≠11→(rowX op).1=0∨(rowX op).1=1:=by
 have h:∀ op:Fin 18,op.val≠15→op.val≠11→(rowX op.val).1=0∨(rowX op.val).1=1:=by decide
 exact fun op ho=>h ⟨op,ho⟩
theorem IA.ib {w W:World}{n0:Nat}{v:Value}{l:List Int}(h:IA w v l)(f:Fr (fun _=>False) w W)(hn:w.heap.size≤n0):IB n0 W v l:=by
 obtain⟨a,c,rfl,h⟩:=h
 refine⟨a,c,rfl,fun hne=>?_⟩
 obtain⟨k,o,rfl,hk,hc⟩:=h hne
 exact⟨k,o,rfl,by omega,fun j hj=>(f.cell hk (fun h=>h)).trans (hc j hj)⟩
theorem LA.lb {w W:World}{n0:Nat}{v:Value}{ls:List (List Int)}(h:LA w v ls)(f:Fr (fun _=>False) w W)(hn:w.heap.size≤n0):LB n0 W v ls:=by
 obtain⟨a,c,rfl,h⟩:=h
 refine⟨a,c,rfl,fun hne=>?_⟩
 obtain⟨k,o,rfl,hk,hc⟩:=h hne
 refine⟨k,o,rfl,by omega,fun j hj=>?_⟩
 obtain⟨x,h1,h2⟩:=hc j hj
 exact⟨x,(f.cell hk (fun h=>h)).trans h1,h2.ib f hn⟩
def ivs (cs:List PI)(p:Nat→(Option Addr × Nat) × (Option Addr × Nat))(j:Nat):IV :=
 ⟨(cs.getD j dPI).op,(cs.getD j dPI).r,(cs.getD j dPI).s,(cs.getD j dPI).t,(cs.getD j dPI).n,(p j).1.1,(cs.getD j dPI).args.length,(p j).1.2,(p j).2.1,(cs.getD j dPI).rets.length,(p j).2.2⟩
theorem CA.ivs {w:World}{a:Option Addr}{n cp:Nat}{cs:List PI}(h:CA w (.slice a n cp) cs) :
 ∃ p,(0<cs.length→∃ ck co,a=some ⟨ck,co,none⟩∧ck<w.heap.size∧∀ i,i<cs.length→∀ o,o<7→w.cell? ⟨ck,co+i*7+o,none⟩=(ivs cs p i).cells[o]?)∧∀ i (h:i<cs.length),IA w (.slice (p i).1.1 cs[i].args.length (p i).1.2) cs[i].args∧IA w (.slice (p i).2.1 cs[i].rets.length (p i).2.2) cs[i].rets:=by
 by_cases hne:cs=[]
 ·subst hne
  exact⟨fun _=>((none,0),(none,0)),fun h=>absurd h (by simp),fun i h=>absurd h (by simp)⟩
 obtain⟨a',cp',e,h⟩:=h
 cases e
 obtain⟨k,o,rfl,hk,hc⟩:=h hne
 have hv:∀ j,∃ q:(Option Addr × Nat) × (Option Addr × Nat),∀ (h:j<cs.length),w.cell? ⟨k,o+j*7,none⟩=some (vI cs[j].op)∧w.cell? ⟨k,o+j*7+1,none⟩=some (vI cs[j].r)∧w.cell? ⟨k,o+j*7+2,none⟩=some (vI cs[j].s)∧w.cell? ⟨k,o+j*7+3,none⟩=some (vI cs[j].t)∧w.cell? ⟨k,o+j*7+4,none⟩=some (vI cs[j].n) ∧
  w.cell? ⟨k,o+j*7+5,none⟩=some (.slice q.1.1 cs[j].args.length q.1.2)∧w.cell? ⟨k,o+j*7+6,none⟩=some (.slice q.2.1 cs[j].rets.length q.2.2)∧IA w (.slice q.1.1 cs[j].args.length q.1.2) cs[j].args∧IA w (.slice q.2.1 cs[j].rets.length q.2.2) cs[j].rets:=fun j=>by
  by_cases hj:j<cs.length
  ·obtain⟨av,rv,q1,q2,q3,q4,q5,q6,q7,q8,q9⟩:=hc j hj
   obtain⟨a1,c1,e1,-⟩:=id q8
   obtain⟨a2,c2,e2,-⟩:=id q9
   subst e1 e2
   exact⟨((a1,c1),(a2,c2)),fun _=>⟨q1,q2,q3,q4,q5,q6,q7,q8,q9⟩⟩
  ·exact⟨((none,0),(none,0)),fun h=>absurd h hj⟩
 refine⟨fun j=>(hv j).choose,fun _=>⟨k,o,rfl,hk,fun i hi o' ho'=>?_⟩,fun i hi=>((hv i).choose_spec hi).2.2.2.2.2.2.2⟩
 have e:cs.getD i dPI=cs[i]:=by simp[hi]
 obtain⟨q1,q2,q3,q4,q5,q6,q7,-⟩:=(hv i).choose_spec hi
 have hr:o'=0∨o'=1∨o'=2∨o'=3∨o'=4∨o'=5∨o'=6:=by omega
 unfold Go.Proofs.YtdkijecnnmncnaaGreatDoor.ivs
 rw[e]
 rcases hr with rfl | rfl | rfl | rfl | rfl | rfl | rfl
 ·exact q1
 ·exact q2
 ·exact q3
 ·exact q4
 ·exact q5
 ·exact q6
 ·exact q7
theorem fits_len {s:PS}{P R:Int}(h:fitsX s P R=true):(s.R.length:Int)=P∧(s.H.length:Int)=P∧(∀ l∈s.R,(l.length:Int)=R)∧(∀ d∈s.H,derOk d=true)∧∀ l∈s.R,∀ d∈l,derOk d=true:=by
 unfold fitsX dersX at h
 simp only[Bool.and_eq_true,decide_eq_true_eq,List.all_eq_true] at h
 obtain⟨h1,⟨h2,h3⟩,h4⟩:=h
 exact⟨h1,h2,fun l hl=>(h4 l hl).1,h3,fun l hl=>(h4 l hl).2⟩
theorem given_any {n0:Nat}{fs:List PF}{ss:List PS}{f:PF}(hf:FunR fs f)(ht:toldX fs ss f.code=true)(hls:ss.length=fs.length){w W:World}(hF:Fr (fun _=>False) w W)(hn:w.heap.size≤n0)(hW:n0≤W.heap.size)(h0:0<n0)(hT:RowsA W)
 {ca:Option Addr} {cn cc:Nat} {sa:Option Addr} {sn sc:Nat} (hS:SsA w (.slice sa sn sc) ss) {p:Nat→(Option Addr × Nat) × (Option Addr × Nat)} (hI:∀ i (h:i<f.code.length),IA w (.slice (p i).1.1 f.code[i].args.length (p i).1.2) f.code[i].args∧IA w (.slice (p i).2.1 f.code[i].rets.length (p i).2.2) f.code[i].rets)
 (P:Int) (j:Nat) (hj:j<f.code.length) (cell:Int) :
 Given n0 (.agg #[vI P,vI f.R,vI f.V,.slice ca cn cc,.slice sa sn sc]) (ivs f.code p j).val cell (edgI ss f.R f.V cell (f.code.getD j dPI)) W:=by
 have e:f.code.getD j dPI=f.code[j]:=by simp[hj]
 have hc:f.code[j]∈f.code:=List.getElem_mem hj
 obtain⟨hia,hir⟩:=hI j hj
 have hop:=hf.op _ hc
 unfold ivs
 rw[e]
 by_cases h15:f.code[j].op=15
 ·unfold edgI
  rw[if_pos h15,h15]
  obtain⟨k1,k2⟩:=hf.ret _ hc h15
  have hR:=hf.R
  refine given_return n0 P f.R f.V ca cn cc sa sn sc _ _ _ _ cell f.code[j].args _ _ _ _ _ W (by omega) h0 hW hT.t ?_
  obtain⟨a',c',e',hh⟩:=hia.ib hF hn
  cases e'
  exact hh
 ·by_cases h11:f.code[j].op=11
  ·unfold edgI
   rw[if_neg h15,if_pos h11,h11]
   obtain⟨q,hq,hqf,p1,p2,a1,a2,-,-⟩:=hf.call _ hc h11
   have hqs:q<ss.length:=by omega
   have hfit:fitsX ss[q] fs[q].P fs[q].R=true:=by
    have:=List.all_eq_true.1 ht _ hc
    unfold fitI at this
    rw[if_pos h11,hq] at this
    simpa[hqf,hqs] using this
   obtain⟨l1,l2,l3,-,-⟩:=fits_len hfit
   obtain⟨a',c',e',hss⟩:=hS
   cases e'
   obtain⟨sk,so,rfl,hsk,hss⟩:=hss (by intro e;rw[e] at hqs;simp at hqs)
   obtain⟨hv,rv,s0,s1,hH,hR⟩:=hss q hqs
   obtain⟨ha,hcp,rfl,-⟩:=id hH
   obtain⟨la,lc,rfl,-⟩:=id hR
   have es:ss.getD f.code[j].n.toNat dPS=ss[q]:=by rw[hq];simp[hqs]
   rw[es,hq]
   exact given_call n0 P f.R f.V ca cn cc sk so ss.length sc _ _ _ q _ _ _ _ ha hcp la lc f.code[j].args f.code[j].rets ss[q].H ss[q].R cell W (by omega) (by omega) (by omega) (fun x hx=>by have:=l3 x hx;omega) (by omega) h0 hW hT hqs (by omega) ⟨(hF.cell hsk (fun h=>h)).trans s0,(hF.cell hsk (fun h=>h)).trans s1⟩ (hia.ib hF hn) (hir.ib hF hn) (hH.ib hF hn) (hR.lb hF hn)
  ·have hn15:f.code[j].op.toNat≠15:=by omega
   have hn11:f.code[j].op.toNat≠11:=by omega
   rcases row_kind f.code[j].op.toNat (by omega) hn15 hn11 with hr | hr
   ·unfold edgI
    rw[if_neg h15,if_neg h11,if_neg (by omega)]
    exact given_none n0 P f.R f.V ca cn cc sa sn sc ⟨f.code[j].op,f.code[j].r,f.code[j].s,f.code[j].t,f.code[j].n,(p j).1.1,f.code[j].args.length,(p j).1.2,(p j).2.1,f.code[j].rets.length,(p j).2.2⟩ f.code[j].op.toNat (by omega) (by show f.code[j].op=_;omega) hr cell W h0 hW hT
   ·unfold edgI
    rw[if_neg h15,if_neg h11,if_pos hr]
    exact given_one n0 P f.R f.V ca cn cc sa sn sc ⟨f.code[j].op,f.code[j].r,f.code[j].s,f.code[j].t,f.code[j].n,(p j).1.1,f.code[j].args.length,(p j).1.2,(p j).2.1,f.code[j].rets.length,(p j).2.2⟩ f.code[j].op.toNat (by omega) (by show f.code[j].op=_;omega) hr cell W h0 hW hT
attribute [local go_sem] Oper.semAt_some
abbrev edC (x:Ed):List Value:=[vI x.1,vI x.2.1,vI x.2.2]
theorem under36 : Tryz.prog.underlying 85=some (.slice 140):=by kernel_rfl
theorem info47 : (Tryz.prog.info? 140).map (fun i=>(i.zero,i.size,i.bytes))=some (some (.agg #[vI 0,vI 0,vI 0]),3,24):=by kernel_rfl
theorem appended_kpB {W w1:World}{L l:Nat}{v v':Value}{k:Nat}{xs:List Value}{tmp:Obj}(hv:Boxed W L 85 v)(hrow:W.ownsRow L 140 3 v k xs)(hgrow:(W.alloc tmp).grownBy w1 v.ownBlock)(hko:KeepsOthers W (w1.setCell ⟨L,0,none⟩ v'))(hbl:Below L W (w1.setCell ⟨L,0,none⟩ v')):KpB L l W (w1.setCell ⟨L,0,none⟩ v'):=by
 refine⟨⟨hbl,fun j cs t hj h1 h2=>?_⟩,fun j o hj ho _=>hko.same j o hj ho⟩
 have e1:(W.alloc tmp).heap[j]?=some (.cells cs t):=(Below.heap_alloc W tmp j (heap_lt0 hj)).trans hj
 have e2:w1.heap[j]?=some (.cells cs t):=by
  refine(hgrow.block j (heap_lt0 e1) (fun e=>?_)).trans e1
  rcases hrow.2 with⟨rfl,-⟩|⟨g,cap,cur,rfl,-,hg,-⟩
  ·cases e
  ·cases e
   rw[hj] at hg
   injection (Option.some.inj hg) with _ e _
   exact h1 e
 have hne:j≠L:=fun e=>by
  subst e
  rw[show W.heap[j]?=_ from hv] at hj
  injection (Option.some.inj hj) with _ e _
  exact h2 e.symm
 exact(Below.heap_setCell w1 ⟨L,0,none⟩ v' j hne).trans e2
set_option maxRecDepth 100000
set_option maxHeartbeats 8000000
attribute [local go_sem] Oper.semAt_some
theorem flat_max {α:Type}(F:Nat→List α)(B:Nat):∀ (k:Nat),(∀ i,i<k→(F i).length≤B)→((List.range k).flatMap F).length≤k*B
 | 0,_=>by simp
 | k+1,h=>by
   rw[flat_succ,List.length_append,Nat.add_mul]
   have h1:=flat_max F B k (fun i hi=>h i (by omega))
   have h2:=h k (by omega)
   omega
theorem edgI_len {fs:List PF}{ss:List PS}{f:PF}(hf:FunR fs f)(ht:toldX fs ss f.code=true)(hls:ss.length=fs.length)(cell:Int)(c:PI)(hc:c∈f.code):(edgI ss f.R f.V cell c).length≤40:=by
 unfold edgI
 split
 ·rename_i h15
  obtain⟨k1,-⟩:=hf.ret _ hc h15
  have:=hf.R
  unfold retE
  simp
  omega
 ·split
  ·rename_i h11
   obtain⟨q,hq,hqf,p1,p2,a1,a2,-,-⟩:=hf.call _ hc h11
   have hqs:q<ss.length:=by omega
   have hfit:fitsX ss[q] fs[q].P fs[q].R=true:=by
    have:=List.all_eq_true.1 ht _ hc
    unfold fitI at this
    rw[if_pos h11,hq] at this
    simpa[hqf,hqs] using this
   obtain⟨l1,l2,l3,-,-⟩:=fits_len hfit
   have es:ss.getD c.n.toNat dPS=ss[q]:=by rw[hq];simp[hqs]
   rw[es]
   have h1:(callT f.R f.V c.args c.rets ss[q].H ss[q].R c.args.length).length≤c.args.length*5:=by
    unfold callT
    refine flat_max _ 5 _ (fun i hi=>?_)
    unfold oneE
    rw[List.length_append]
    have e1:(hE f.R f.V (c.args[i]?.getD 0) (ss[q].H[i]?.getD 0)).length≤1:=by unfold hE;split<;>simp
    have e2:(gE f.R f.V (c.args[i]?.getD 0) c.rets (ss[q].R[i]?.getD []) (ss[q].R[i]?.getD []).length).length≤4:=by
     unfold gE
     refine Nat.le_trans (flat_max _ 1 _ (fun j hj=>?_)) ?_
     ·unfold rE;split<;>simp
     ·have hi':i<ss[q].R.length:=by omega
      have:=l3 _ (List.getElem_mem hi')
      simp[hi']
      omega
    omega
   omega
  ·split<;>simp
theorem edgX_len {fs:List PF}{ss:List PS}{f:PF}(hf:FunR fs f)(ht:toldX fs ss f.code=true)(hls:ss.length=fs.length):(edgX ss f).length≤163840:=by
 unfold edgX
 have h1:=hf.len
 refine Nat.le_trans (flat_max _ 40 _ (fun j hj=>?_)) (by omega)
 have e:f.code.getD j dPI=f.code[j]:=by simp[hj]
 rw[e]
 exact edgI_len hf ht hls _ _ (List.getElem_mem hj)
theorem RowsA.stay {w w':World}(h:RowsA w)(f:Fr (fun _=>False) w w')(h0:0<w.heap.size):RowsA w':=fun op ho=>by
 obtain⟨a,b,c,d⟩:=h op ho
 exact⟨(f.cell h0 (fun e=>e)).trans a,(f.cell h0 (fun e=>e)).trans b,(f.cell h0 (fun e=>e)).trans c,(f.cell h0 (fun e=>e)).trans d⟩
theorem edges_ok_in (n:Nat)(hn:6≤n)(G:Int)(fv sv:Value)(fs:List PF)(ss:List PS)(i:Nat)(hi:i<fs.length)(w:World)(h1:FA w fv fs)(h2:SsA w sv ss)(hls:ss.length=fs.length)(b1:FineP fs)(b2:FineS ss)(hT:Tab w)(hR:RowsA w)
 (hck:checkP G (aloneP fs fs[i])=0) (htl:toldX fs ss fs[i].code=true) :
 CallsIn Fence.wide n Tryz.prog 44 #[.agg #[vI G,fv],vI (i:Int),sv] w fun e w'=>∃ v,e = .returned (.tuple #[v,vI 0])∧w'.ownsRow w.heap.size 140 3 v (edgX ss fs[i]).length ((edgX ss fs[i]).flatMap edC)∧Fr (fun _=>False) w w':=by
 obtain⟨i0,hi0,hz0,hz1,hz2⟩:=info_parts info47
 have hfr:=right_ok hck
 have hlen:=edgX_len hfr htl hls
 have hra:=right_any G fv fs i hi (w.alloc (.cells #[vI G,fv] 24)) (h1.stay (Fr.alloc (Fr.refl _ w) _)) b1 (hT.stay (Fr.alloc (Fr.refl _ w) _))
 rw[hck] at hra
 have HTA:Hd (∀ w1,Fr (fun _=>False) w w1→Calls Tryz.prog 86 #[.agg #[vI G,fv],vI (i:Int),sv] w1 fun e w'=>e = .returned (.bool true)∧Fr (fun _=>False) w1 w'):=fun w1 hF=>by
  have:=told_any G fv sv fs ss i hi w1 (h1.stay hF) (h2.stay hF) hls b1 b2 (fun c hc e=>by
   obtain⟨q,hq,hqf,-⟩:=hfr.call c hc e
   omega)
  rw[htl] at this
  exact this
 have H1:Hd (FA w fv fs):=h1
 have H2:Hd (SsA w sv ss):=h2
 obtain⟨fa,fc,efv,hfs⟩:=h1
 obtain⟨fk,fo,efa,hfk,hfc⟩:=hfs (by intro e;rw[e] at hi;simp at hi)
 obtain⟨cv,f0,f1,f2,f3,hcv⟩:=hfc i hi
 obtain⟨sa,sc,esv,-⟩:=h2
 subst efa efv esv
 have HCV:Hd (CA w cv fs[i].code):=hcv
 obtain⟨ca,cc,ecv,-⟩:=hcv
 subst ecv
 have hi1:(0:Int)≤i:=by omega
 have hi2:(i:Int)<fs.length:=by omega
 have hd1:decide ((i:Int)<0)=false:=by simp
 have hd2:decide ((i:Int)≥fs.length)=false:=by simp;omega
 have hd3:decide ((fs.length:Int)≤i)=false:=by simp;omega
 have hd4:((ss.length:Int) != (fs.length:Int))=false:=by simp[hls]
 have hd5:((ss.length:Int)==(fs.length:Int))=true:=by simp[hls]
 have hd6:decide (fs.length≤i)=false:=by simp;omega
 have HLS:Hd (ss.length=fs.length):=hls
 have HFR:Hd (FunR fs fs[i]):=hfr
 have HTL:Hd (toldX fs ss fs[i].code=true):=htl
 clear hls hfs hfc hck htl hfr b1 b2
 generalize fs[i]=f at *
 have hFa:Fr (fun _=>False) w (w.alloc (.cells #[vI G,.slice (some ⟨fk,fo,none⟩) fs.length fc] 24)):=Fr.alloc (Fr.refl _ w) _
 have ba:(w.alloc (.cells #[vI G,.slice (some ⟨fk,fo,none⟩) fs.length fc] 24)).heap[w.heap.size]?=some (.cells #[vI G,.slice (some ⟨fk,fo,none⟩) fs.length fc] 24):=heap_new0 w _
 refine callsIn_of_wp_marks Tryz.func44 rfl trivial ?_ rfl
 simp only[Tryz.ntmps44,List.size_toArray,List.length_cons,List.length_nil,Nat.reduceAdd,Nat.reduceSub,Array.replicate_succ,Array.replicate_zero,List.push_toArray,List.append_toArray,List.nil_append,List.cons_append]
 gi_wp2_with fail
 refine⟨trivial,(fun h=>by cases h),?_⟩
 refine(callsIn_wide.2 hra).mono ?_
 rintro e w1 ⟨rfl,hF1⟩
 have b1:w1.heap[w.heap.size]?=some (.cells #[vI G,.slice (some ⟨fk,fo,none⟩) fs.length fc] 24):=(hF1.block _ (heap_lt0 ba) (fun e=>e)).trans ba
 have c0:w1.cell? ⟨w.heap.size,0,none⟩=some (vI G):=by rw[cell_of0 b1];rfl
 have c1:w1.cell? ⟨w.heap.size,1,none⟩=some (.slice (some ⟨fk,fo,none⟩) fs.length fc):=by rw[cell_of0 b1];rfl
 gi_wp2_with fail
 refine⟨trivial,(fun h=>by cases h),?_⟩
 refine(callsIn_wide.2 (HTA.out w1 (hFa.trans hF1))).mono ?_
 rintro e w2 ⟨rfl,hF2⟩
 have hFw:Fr (fun _=>False) w w2:=(hFa.trans hF1).trans hF2
 have b2:w2.heap[w.heap.size]?=some (.cells #[vI G,.slice (some ⟨fk,fo,none⟩) fs.length fc] 24):=(hF2.block _ (heap_lt0 b1) (fun e=>e)).trans b1
 clear c0 c1 b1 ba hF1 hF2 hFa hra
 obtain⟨w3,hw3⟩:∃ w3,w3=w2.alloc (.cells #[.slice none 0 0] 85):=⟨_,rfl⟩
 have hF3:Fr (fun _=>False) w2 w3:=by rw[hw3];exact Fr.alloc (Fr.refl _ w2) _
 have b3:w3.heap[w.heap.size]?=some (.cells #[vI G,.slice (some ⟨fk,fo,none⟩) fs.length fc] 24):=(hF3.block _ (heap_lt0 b2) (fun e=>e)).trans b2
 have c1:(w2.alloc (.cells #[.slice none 0 0] 85)).cell? ⟨w.heap.size,1,none⟩=some (.slice (some ⟨fk,fo,none⟩) fs.length fc):=by rw[← hw3,cell_of0 b3];rfl
 have hFw3:=hFw.trans hF3
 have g0:(w2.alloc (.cells #[.slice none 0 0] 85)).cell? ⟨fk,fo+i*4,none⟩=some (vI f.P):=by rw[← hw3];exact(hFw3.cell hfk (fun h=>h)).trans f0
 have g1:(w2.alloc (.cells #[.slice none 0 0] 85)).cell? ⟨fk,fo+i*4+1,none⟩=some (vI f.R):=by rw[← hw3];exact(hFw3.cell hfk (fun h=>h)).trans f1
 have g2:(w2.alloc (.cells #[.slice none 0 0] 85)).cell? ⟨fk,fo+i*4+2,none⟩=some (vI f.V):=by rw[← hw3];exact(hFw3.cell hfk (fun h=>h)).trans f2
 have g3:(w2.alloc (.cells #[.slice none 0 0] 85)).cell? ⟨fk,fo+i*4+3,none⟩=some (.slice ca f.code.length cc):=by rw[← hw3];exact(hFw3.cell hfk (fun h=>h)).trans f3
 have hmf:∀ (fn:Fn) (first cap:Array Value) (w:World),(Instr.makeFunc fn first cap).run Tryz.prog w = .ok (.func fn first cap) w:=fun _ _ _ _=>rfl
 gi_wp2_with fail
 clear c1 g0 g1 g2 g3 f0 f1 f2 f3 hd1 hd2 hd3 hd4 hd5 hd6
 have hT1:=hT.lt
 have hRT:RowsA w3:=hR.stay hFw3 (by omega)
 have hw2:w.heap.size≤w2.heap.size:=hFw.size
 have hs3:w3.heap.size=w2.heap.size+1:=by rw[hw3];simp
 have hbox:Boxed w3 w2.heap.size 85 (.slice none 0 0):=by rw[hw3];exact Boxed.new w2 85 _
 obtain⟨p,hp1,hp2⟩:=HCV.out.ivs
 have hlc:=HFR.out.len
 have hseq:=edges_seq (n-1) (by omega) w2.heap.size f.P f.R f.V ca f.code.length cc sa ss.length sc (ivs f.code p) (fun j=>edgI ss f.R f.V (clX f.R f.V f.code j) (f.code.getD j dPI)) (clX f.R f.V f.code) (by omega) w3 (by omega) rfl (fun j _=>rfl) (fun hm=>by
  obtain⟨ck,co,e1,e2,e3⟩:=hp1 hm
  exact⟨ck,co,e1,by omega,fun j hj o ho=>(hFw3.cell e2 (fun h=>h)).trans (e3 j hj o ho)⟩) (fun j hj=>given_any HFR.out HTL.out HLS.out hFw3 hw2 (by omega) (by omega) hRT H2.out hp2 f.P j hj _)
 rw[← hw3]
 have hE:((List.range f.code.length).flatMap fun j=>edgI ss f.R f.V (clX f.R f.V f.code j) (f.code.getD j dPI))=edgX ss f:=rfl
 rw[hE] at hseq
 refine wpIn_rangeC rfl (by omega) (gf:=87) (fst:=#[.agg #[vI f.P,vI f.R,vI f.V,.slice ca f.code.length cc,.slice sa ss.length sc]]) (lb:=#[]) rfl trivial (enters_of Tryz.func87 (by kernel_rfl) rfl) hseq (fun _ _ _ _ h1 h2=>h1.trans h2) (fun l' W' r o' hl' h=>KpB.putObj o' h (by omega)) (Below.refl _ _) (fun _=>rfl)
  (fun pre W'=>(∃ v,Boxed W' w2.heap.size 85 v∧W'.ownsRow w2.heap.size 140 3 v pre.length (pre.flatMap edC)∧True)∧Below w2.heap.size w3 W')
  (OwnFrom.and (Own.from (holdsRow_own w2.heap.size w2.heap.size 85 140 3 (fun pre:List Ed=>pre.length) (fun pre=>pre.flatMap edC) (fun _ _=>True)) _) (ownFrom_below (by omega) (by omega)))
  ⟨⟨_,hbox,World.ownsRow_nil _ _ _ _,trivial⟩,Below.refl _ _⟩
  (fun z a' W'=>∃ Y,a'={ tmps:=#[.agg #[vI G,.slice (some ⟨fk,fo,none⟩) fs.length fc],vI (i:Int),.slice sa ss.length sc,.pointer (some ⟨w.heap.size,0,none⟩),undef,undef,.slice none 0 0,.int .i64 0,.pointer (some ⟨w2.heap.size,0,none⟩),.pointer (some ⟨Y,0,none⟩),vI (i:Int),.bool false,.bool false,vI (i:Int),.pointer (some ⟨w.heap.size,1,none⟩),.slice (some ⟨fk,fo,none⟩) fs.length fc,.int .i64 (fs.length:Int),.bool false,.bool false,.bool false,.slice sa ss.length sc,.int .i64 (ss.length:Int),.pointer (some ⟨w.heap.size,1,none⟩),.slice (some ⟨fk,fo,none⟩) fs.length fc,.int .i64 (fs.length:Int),.bool false,.bool false,.bool false,.agg #[vI G,.slice (some ⟨fk,fo,none⟩) fs.length fc],vI (i:Int),.bool true,.bool false,.bool false,.bool false,.agg #[vI G,.slice (some ⟨fk,fo,none⟩) fs.length fc],vI (i:Int),.slice sa ss.length sc,.bool true,.bool false,.bool false,.pointer (some ⟨w.heap.size,1,none⟩),.slice (some ⟨fk,fo,none⟩) fs.length fc,vI (i:Int),.pointer (some ⟨fk,fo+i*4,none⟩),.agg #[vI f.P,vI f.R,vI f.V,.slice ca f.code.length cc],.slice sa ss.length sc,.agg #[vI f.P,vI f.R,vI f.V,.slice ca f.code.length cc,.slice sa ss.length sc],.func (.func 87) #[.agg #[vI f.P,vI f.R,vI f.V,.slice ca f.code.length cc,.slice sa ss.length sc]] #[],.agg #[vI z.1,vI z.2.1,vI z.2.2],undef,undef,undef,undef,undef],defers:=[] }∧W'.heap[Y]?=some (.cells #[vI z.1,vI z.2.1,vI z.2.2] 140)∧Y≠w2.heap.size)
  (fun z a' _ A A' row h hg hr=>?own) ?assign ?body ?done
 case own =>
  obtain⟨Y,e,hY',hne⟩:=h
  refine⟨Y,e,(hg.block Y (heap_lt0 hY') (fun e=>?_)).trans hY',hne⟩
  obtain⟨-,o,ho,hc⟩:=hr Y e.symm
  rw[hY'] at ho
  cases ho
  cases hc
 case assign =>
  rintro l' pre z W' K hl' ⟨⟨v,hv,hrow,-⟩,hB⟩ hK
  have hFz:Fr (fun _=>False) W' (W'.alloc (.cells #[vI z.1,vI z.2.1,vI z.2.2] 140)):=Fr.alloc (Fr.refl _ W') _
  have hsz:=hB.size
  gi_wp2
  exact hK _ _ ((KeepsOthers.alloc W' _).from _) ⟨KpA.ofFr hFz (by omega),fun k o hk _ _=>(hFz.block k (heap_lt0 hk) (fun e=>e)).trans hk⟩ ⟨⟨v,hv.alloc _,hrow.alloc _,trivial⟩,hB.trans (KpA.ofFr hFz (by omega)).below⟩ ⟨_,rfl,heap_new0 W' _,by have:=hv.lt;omega⟩
 case body =>
  rintro l' pre z a' W' hl' ⟨⟨v,hv,hrow,-⟩,hB⟩ ⟨Y,rfl,hYb,hne⟩ hlen'
  have hcv:=hv.cell
  have z0:W'.cell? ⟨Y,0,none⟩=some (vI z.1):=by rw[cell_of0 hYb];rfl
  have z1:W'.cell? ⟨Y,1,none⟩=some (vI z.2.1):=by rw[cell_of0 hYb];rfl
  have z2:W'.cell? ⟨Y,2,none⟩=some (vI z.2.2):=by rw[cell_of0 hYb];rfl
  have hsz:=hB.size
  have hpl:pre.length≤163840:=by omega
  have hmx:pre.length+1≤maxLen:=by unfold maxLen;omega
  have hnews:∀ j u,[vI z.1,vI z.2.1,vI z.2.2][j]?=some u→(W'.alloc (.cells #[vI z.1,vI z.2.1,vI z.2.2] 140)).cell? ((⟨W'.heap.size,0,none⟩:Addr).add j)=some u :=
   World.news_of_block (cs:=#[vI z.1,vI z.2.1,vI z.2.2]) (heap_new0 W' _)
  gi_wp2_with (gi_at_builtin;refine wpListIn_append_own _ rfl _ _ 85 rfl w2.heap.size 140 i0 (.agg #[vI 0,vI 0,vI 0]) 3 24 under36 hi0 hz0 hz1 hz2 rfl (by decide) _ _ _ rfl (hrow.alloc _) ⟨W'.heap.size,0,none⟩ 1 1 [vI z.1,vI z.2.1,vI z.2.2] rfl rfl hnews (by simp[Value.oneCell']) hmx (by omega) (by simp;omega) ?_;intro v' w1 hown' hgrow _;obtain⟨g',cap',rfl⟩:=ownsRow_succ hown';obtain⟨hv1,hv2,hr2,hk2,hb2⟩:=hv.appended (by decide) hrow (by omega) (Nat.le_refl _) hown' hgrow;have hc1:=hv1.cell;have hf1:=hv1.frozen)
  exact⟨hk2.from _,appended_kpB hv hrow hgrow hk2 hb2,⟨_,hv2,by simpa using hr2,trivial⟩,hB.trans hb2⟩
 case done =>
  rintro D xs W' hDl rfl ⟨⟨v,hv,hrow,-⟩,hB⟩ hD
  have hcv:=hv.cell
  gi_wp2
  refine⟨by simp,.inl ⟨_,_,rfl,run_takeDeferred hD,?_⟩⟩
  have hrow2:(W'.putObj D (.deferred none)).ownsRow w.heap.size 140 3 v (edgX ss f).length ((edgX ss f).flatMap edC):=World.ownsRow.mono (ownsRow_putObj hrow _ hD rfl) hw2
  have hFD:Fr (fun _=>False) w (W'.putObj D (.deferred none)):=by
   have hb:Below w.heap.size w W':=⟨hB.os.trans hFw3.os,hB.tape.trans hFw3.tape,hB.output.trans hFw3.output,Nat.le_trans hFw3.size hB.size,fun k hk=>(hB.block k (by omega)).trans (hFw3.block k hk (fun e=>e))⟩
   have hg:=grownBy_putObj' W' D (.deferred none)
   exact⟨hg.os.trans hb.os,hg.tape.trans hb.tape,hg.output.trans hb.output,Nat.le_trans hb.size hg.size,fun k hk _=>(hg.block k (Nat.lt_of_lt_of_le hk hb.size) (fun e=>by cases e;omega)).trans (hb.block k hk)⟩
  exact⟨_,results_tmp2 rfl _ _ _,v,rfl,hrow2,hFD⟩
end Go.Proofs.YtdkijecnnmncnaaGreatDoor
