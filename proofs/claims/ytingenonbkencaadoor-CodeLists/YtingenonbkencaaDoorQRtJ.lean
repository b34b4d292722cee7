import Derived.Test.YtingenonbkencaaDoorQMnJ
import Derived.JoinedCond
import Derived.Test.YtingenonbkencaaDoorCards
import Derived.Test.YtingenonbkencaaDoorTie
import Derived.Deep.DeepHandedRow
import Derived.Lib.LaidTab
import Derived.Test.YtingenonbkencaaDoorQRd
import Derived.Test.YtingenonbkencaaDoorQD4J
import Derived.Test.YtingenonbkencaaDoorQLiJ
import Derived.Test.YtingenonbkencaaDoorQN5J
import Derived.Test.YtingenonbkencaaDoorQW3J
set_option linter.unusedVariables false
set_option linter.unusedSimpArgs false
namespace Go.Proofs.YtingenonbkencaaDoor
open Go.ChangeShapes Go.WideShapes Go.ChangeAt Go.RowKit
theorem knob : ownKnob Tryd.prog.godebug=none:=by kernel_rfl
theorem laysOut : laidOutB Tryd.prog=true:=by kernel_rfl
theorem gTab : Tryd.prog.globalNamed "fugue/code.numberSizes" = some 0 := by kernel_rfl
theorem gTabType : (Tryd.prog.globals[0]?).map (·.type)=some 130:=by kernel_rfl
theorem under130 : Tryd.prog.underlying 130=some (.array 18 3):=by kernel_rfl
theorem under4 : Tryd.prog.underlying 4=some .bool:=by kernel_rfl
theorem cells130 : Tryd.prog.cellsOf 130=18:=by kernel_rfl
theorem tab_is {W : World} (ht : Lib.TabIs Tryd.prog W "fugue/code.numberSizes" .i64 [0, 8, 0, 0, 0, 0, 1, 1, 1, 1, 1, 2, 0, 2, 2, 0, 0, 0]) : Tab W := by
 intro op hop
 have hc:=ht.cell gTab op (by simpa using hop)
 rw[hc]
 simp only[Option.some.injEq,Value.int.injEq,true_and]
 match op,hop with
 | 0,_ | 1,_ | 2,_ | 3,_ | 4,_ | 5,_ | 6,_ | 7,_ | 8,_ | 9,_ | 10,_ | 11,_ | 12,_ | 13,_ | 14,_ | 15,_ | 16,_ | 17,_=>rfl
 | n+18,h=>exact absurd h (by omega)
end Go.Proofs.YtingenonbkencaaDoor
namespace Go.Proofs.YtingenonbkencaaDoor
open Go.RowKit (wrap32 wrap64)
theorem writing_other (b wb g0 K:Nat):NextKeep (writing b wb g0 K) (fun st=>st.1):=by
 intro pb po hpb x v size w hroom hx hs1 hs8 hu
 obtain⟨s,st⟩:=x
 obtain⟨hl,hn,hI⟩:=hx
 have hroom':1≤st.1:=hroom
 simp only at hl hn
 obtain⟨h1,h2,h3,h4,h5,h6,h7,h8,h9,bv,hrow⟩:=hI
 simp only at h1
 have h2':st.2.length+8*st.1≤1000000000000:=h2
 have hbS:¬ (b=wb∨K≤b):=by omega
 have h0:w.cell? ⟨b,0,none⟩=some (writerFn wb):=by rw[hl.facts.1,hn];rfl
 refine(next_writes b wb g0 K st.2 bv ⟨pb,po,none⟩ s.at' v size w h0 hl.facts.2.1 (hl.frozen 1) hu hs8 hrow (by omega) hbS hl.lt).mono ?_
 rintro e w' ⟨rfl,w1,bv',hr1,hf1,rfl⟩
 have hfb:Fr (fun k=>k=b) w1 (w1.setCell ⟨b,1,none⟩ (vI (adv s.at' size))):=Fr.setCell (Fr.refl (fun k=>k=b) w1) _ _ (Or.inl rfl)
 refine⟨(hf1.mono (fun k _ hk=>Or.inr hk)).trans (hfb.mono (fun k _ hk=>Or.inl hk)),rfl,((st.1-1,st.2++leBytes size (IntKind.u64.wrap v).toNat):Nat × List UInt8),?_,?_⟩
 ·simp only[writing]
  rw[if_neg (by omega)]
 have hadv:adv s.at' size=s.at'+size:=adv_small _ _ (by omega) (by omega) hs8
 have hl1:Lies w1 b s:=hl.fr hf1 hbS
 have hT1:Tab w1:=h9.fr hf1 (by omega)
 refine⟨hl1.setCell 1 _ (cells_at _ _),hn,?_,?_,h3,h4,h5,h6,h7,h8,hT1.fr hfb (by omega),bv',hr1.fr hfb (fun e=>h7 e.symm) h8 (fun k hk e=>by omega)⟩
 ·show adv s.at' size=((st.2++leBytes size (IntKind.u64.wrap v).toNat).length:Nat)
  rw[List.length_append,leBytes_length,hadv,h1];simp
 ·show(st.2++leBytes size (IntKind.u64.wrap v).toNat).length+8*(st.1-1)≤1000000000000
  rw[List.length_append,leBytes_length];omega
theorem writing_KM (b wb g0 K:Nat):KM (writing b wb g0 K) (fun st=>st.1):=⟨writing_at b wb g0 K,writing_other b wb g0 K,writing_goes b wb g0 K,writing_keeps b wb g0 K⟩
def checkP (G:Int)(fs:List PF):Int:=match answerP G fs with | .ok _=>0 | .error z=>z.1
set_option maxRecDepth 100000
set_option maxHeartbeats 2000000
theorem rwanted_V (rb:Nat)(w:World)(P R V:Int)(a:Option Addr)(l c:Nat)(op zr zs zt zn:Int)(aa ra:Option Addr)(la ca lr cr:Nat) :
 Calls Tryd.prog 97 #[.pointer (some ⟨rb,0,none⟩),.int .u8 86,.agg #[vI P,vI R,vI V,.slice a l c],.agg #[vI op,vI zr,vI zs,vI zt,vI zn,.slice aa la ca,.slice ra lr cr]] w fun r w'=>r = .returned (vI R)∧Fr (fun _=>False) w w':=by
 go_enter Tryd.func97,Tryd.ntmps97
 go_wp2_with fail
 go_ret
 refine⟨rfl,?_⟩
 repeat first
  | exact Fr.refl _ _
  | refine Fr.drew ?_
  | refine Fr.alloc ?_ _
theorem rwanted_A (rb fk fo nf fc N:Nat)(G:Int)(w:World)(L E:Int)(h:RW rb G (.slice (some ⟨fk,fo,none⟩) nf fc) w L E)(hN:N<nf)(X:Int)(hX:w.cell? ⟨fk,fo+N*4,none⟩=some (vI X))(P R V:Int)(a:Option Addr)(l c:Nat)(op zr zs zt:Int)(aa ra:Option Addr)(la ca lr cr:Nat) :
 Calls Tryd.prog 97 #[.pointer (some ⟨rb,0,none⟩),.int .u8 65,.agg #[vI P,vI R,vI V,.slice a l c],.agg #[vI op,vI zr,vI zs,vI zt,vI N,.slice aa la ca,.slice ra lr cr]] w fun r w'=>r = .returned (vI X)∧Fr (fun _=>False) w w':=by
 obtain⟨c0,c1,-,-,hz,hlt⟩:=h.cells
 have hfl:fk<w.heap.size:=cell_lt hX
 clear h
 go_enter Tryd.func97,Tryd.ntmps97
 go_wp2_with fail
 go_region
 go_wp2_with fail
 go_ret
 refine⟨rfl,?_⟩
 repeat first
  | exact Fr.refl _ _
  | refine Fr.drew ?_
  | refine Fr.alloc ?_ _
theorem rwanted_B (rb fk fo nf fc N:Nat)(G:Int)(w:World)(L E:Int)(h:RW rb G (.slice (some ⟨fk,fo,none⟩) nf fc) w L E)(hN:N<nf)(X:Int)(hX:w.cell? ⟨fk,fo+N*4+1,none⟩=some (vI X))(P R V:Int)(a:Option Addr)(l c:Nat)(op zr zs zt:Int)(aa ra:Option Addr)(la ca lr cr:Nat) :
 Calls Tryd.prog 97 #[.pointer (some ⟨rb,0,none⟩),.int .u8 66,.agg #[vI P,vI R,vI V,.slice a l c],.agg #[vI op,vI zr,vI zs,vI zt,vI N,.slice aa la ca,.slice ra lr cr]] w fun r w'=>r = .returned (vI X)∧Fr (fun _=>False) w w':=by
 obtain⟨c0,c1,-,-,hz,hlt⟩:=h.cells
 have hfl:fk<w.heap.size:=cell_lt hX
 clear h
 go_enter Tryd.func97,Tryd.ntmps97
 go_wp2_with fail
 go_region
 go_wp2_with fail
 go_ret
 refine⟨rfl,?_⟩
 repeat first
  | exact Fr.refl _ _
  | refine Fr.drew ?_
  | refine Fr.alloc ?_ _
theorem plainB_nbK (k:Nat)(h:1≤k∧k≤17)(s:WS)(la lr:Nat):plainB k s.r s.s s.t s.n la lr=nbK k s la lr:=by
 have hz:∀ (nmf:UInt8→Bool),((tested nmf).all fun p=>(zzOf (zeros6 s.r s.s s.t s.n la lr) p.1==0)||p.2)=(((s.r==0)||nmf 82)&&(((s.s==0)||nmf 83)&&(((s.t==0)||nmf 84)&&(((s.n==0)||(nmf 105||nmf 99||nmf 102||nmf 103||nmf 70||nmf 74))&&((((la:Int)==0)||(nmf 65||nmf 86))&&((((lr:Int)==0)||nmf 66)&&true)))))):=fun nmf=>rfl
 unfold plainB
 rw[hz]
 rcases(show k=1∨k=2∨k=3∨k=4∨k=5∨k=6∨k=7∨k=8∨k=9∨k=10∨k=11∨k=12∨k=13∨k=14∨k=15∨k=16∨k=17 by omega) with rfl | rfl | rfl | rfl | rfl | rfl | rfl | rfl | rfl | rfl | rfl | rfl | rfl | rfl | rfl | rfl | rfl
 all_goals
  simp only[namesB,Int.toNat_natCast,partsN,nbK]
  cases (s.r==0)<;>cases (s.s==0)<;>cases (s.t==0)<;>cases (s.n==0)<;>cases ((la:Int)==0)<;>cases ((lr:Int)==0)<;>rfl
end Go.Proofs.YtingenonbkencaaDoor
