import Derived.Test.YtingenonbkencaaDoorQW3J
import Derived.Test.YtingenonbkencaaDoorQS1J
import Derived.Test.YtingenonbkencaaDoorQE6J
set_option linter.unusedVariables false
set_option linter.unusedSimpArgs false
namespace Go.Proofs.YtingenonbkencaaDoor
open Go.RowKit (wrap32 wrap64)
set_option maxRecDepth 100000
set_option maxHeartbeats 2000000
structure Least (w:World)(fb cb:Nat):Prop where
 funcs:w.heap[fb]?=some (.cells #[vI 0,vI 0,vI 0,.slice (some ⟨cb,0,none⟩) 1 1] 67)
 code:w.heap[cb]?=some (.cells #[vI 15,vI 0,vI 0,vI 0,vI 0,.slice none 0 0,.slice none 0 0] 71)
theorem Least.fr {S:Nat→Prop}{w w':World}{fb cb:Nat}(h:Least w fb cb)(f:Fr S w w')(h1:¬ S fb)(h2:¬ S cb):Least w' fb cb :=
 ⟨by rw[f.block fb (Array.getElem?_eq_some_iff.1 h.funcs).1 h1];exact h.funcs,by rw[f.block cb (Array.getElem?_eq_some_iff.1 h.code).1 h2];exact h.code⟩
theorem least_cells {wx:World}{fb cb:Nat}(hx:Least wx fb cb):wx.cell? ⟨fb,0,none⟩=some (vI 0)∧wx.cell? ⟨fb,1,none⟩=some (vI 0)∧wx.cell? ⟨fb,2,none⟩=some (vI 0)∧wx.cell? ⟨fb,3,none⟩=some (.slice (some ⟨cb,0,none⟩) 1 1)∧fb<wx.heap.size:=by
 refine⟨?_,?_,?_,?_,(Array.getElem?_eq_some_iff.1 hx.funcs).1⟩<;>(unfold World.cell?;simp[hx.funcs])
theorem least_code {wx:World}{fb cb:Nat}(hx:Least wx fb cb):wx.cell? ⟨cb,0,none⟩=some (vI 15)∧wx.cell? ⟨cb,1,none⟩=some (vI 0)∧wx.cell? ⟨cb,2,none⟩=some (vI 0)∧wx.cell? ⟨cb,3,none⟩=some (vI 0)∧wx.cell? ⟨cb,4,none⟩=some (vI 0) ∧
 wx.cell? ⟨cb,5,none⟩=some (.slice none 0 0)∧wx.cell? ⟨cb,6,none⟩=some (.slice none 0 0)∧cb<wx.heap.size:=by
 refine⟨?_,?_,?_,?_,?_,?_,?_,(Array.getElem?_eq_some_iff.1 hx.code).1⟩<;>(unfold World.cell?;simp[hx.code])
def Keeps {b:Nat}(M:Mode b)(rm:M.σ→Nat):Prop:=∀ st p size v,1≤rm st→∃ st',M.eff st p size v = .ok (v,st')
theorem next_keep {b:Nat}{M:Mode b}{rm:M.σ→Nat}(hK:Keeps M rm)(hR:RoomGoes M rm)(o size n:Nat)(s:WS)(st:M.σ)(h:n+1≤rm st) :
 ∃ st',M.eff st s.at' size (s.get o) = .ok (s.get o,st')∧nextX M o size (s,st) = .ok ({ s with at':=adv s.at' size },st')∧n≤rm st':=by
 obtain⟨st',e⟩:=hK st s.at' size (s.get o) (by omega)
 have e2:nextX M o size (s,st) = .ok ({ s with at':=adv s.at' size },st'):=by
  unfold nextX;simp only[e,set_get]
 exact⟨st',e,e2,by have:=hR _ _ _ _ e2;simp only at this;omega⟩
theorem head_keep {b:Nat}{M:Mode b}{rm:M.σ→Nat}(hK:Keeps M rm)(hR:RoomGoes M rm)(n:Nat)(s:WS)(st:M.σ)(h:n+4≤rm st)(h9:s.at'=9)(hP:s.fP=0)(hRr:s.fR=0)(hV:s.fV=0)(hl:s.len=1)(hlo:s.locs=1) :
 ∃ st1 st2 st3 st4,M.eff st 9 1 0 = .ok (0,st1)∧M.eff st1 10 1 0 = .ok (0,st2)∧M.eff st2 11 1 0 = .ok (0,st3)∧M.eff st3 12 2 1 = .ok (1,st4)∧headX M (s,st) = .ok ({ s with at':=14,locs:=1 },st4)∧n≤rm st4:=by
 obtain⟨st1,a1,b1,c1⟩:=next_keep hK hR 149 1 (n+3) s st (by omega)
 obtain⟨st2,a2,b2,c2⟩:=next_keep hK hR 150 1 (n+2) { s with at':=adv s.at' 1 } st1 (by omega)
 obtain⟨st3,a3,b3,c3⟩:=next_keep hK hR 151 1 (n+1) { s with at':=adv (adv s.at' 1) 1 } st2 (by omega)
 obtain⟨st4,a4,b4,c4⟩:=next_keep hK hR 153 2 n { s with at':=adv (adv (adv s.at' 1) 1) 1 } st3 (by omega)
 have g1:s.get 149=0:=hP
 have g2:({ s with at':=adv s.at' 1 }:WS).get 150=0:=hRr
 have g3:({ s with at':=adv (adv s.at' 1) 1 }:WS).get 151=0:=hV
 have g4:({ s with at':=adv (adv (adv s.at' 1) 1) 1 }:WS).get 153=1:=hl
 rw[g1] at a1;rw[g2] at a2;rw[g3] at a3;rw[g4] at a4
 simp only[h9] at a1 a2 a3 a4
 refine⟨st1,st2,st3,st4,a1,a2,a3,a4,?_,c4⟩
 rw[headX_then,b1]
 simp only[thenX]
 rw[b2]
 simp only
 rw[b3]
 simp only
 rw[b4]
 simp only[headOk,hP,hRr,hV,hl,locX,hlo]
 rw[h9]
 have e1:adv (adv (adv (adv 9 1) 1) 1) 2=14:=by decide
 have e2:wrap64 1=1:=by unfold wrap64;omega
 simp[e1,e2]
theorem instr_keep {b:Nat}{M:Mode b}{rm:M.σ→Nat}(hK:Keeps M rm)(hR:RoomGoes M rm)(n:Nat)(s:WS)(st:M.σ)(h:n+2≤rm st)(h14:s.at'=14)(hop:s.op=15) :
 ∃ st1 st2,M.eff st 14 1 15 = .ok (15,st1)∧M.eff st1 15 1 0 = .ok (0,st2)∧nextX M 154 1 (s,st) = .ok ({ s with at':=15 },st1) ∧
  retX M 0 (frontOk M true false true 0 14 ({ s with at':=15 },st1)) = .ok (([],[]),({ s with at':=16,count:=0 },st2))∧n≤rm st2∧n+1≤rm st1:=by
 obtain⟨st1,a1,b1,c1⟩:=next_keep hK hR 154 1 (n+1) s st (by omega)
 obtain⟨st2,a2,b2,c2⟩:=next_keep hK hR 161 1 n { s with at':=adv s.at' 1,count:=0 } st1 (by omega)
 have g1:s.get 154=15:=hop
 have g2:({ s with at':=adv s.at' 1,count:=0 }:WS).get 161=0:=rfl
 rw[g1] at a1;rw[g2] at a2
 have e15:adv 14 1=15:=by decide
 have e16:adv 15 1=16:=by decide
 simp only[h14,e15] at a1 a2 b1 b2
 simp only[e16] at b2
 refine⟨st1,st2,a1,a2,b1,?_,c2,c1⟩
 simp only[retX,frontOk,thenX,listX,List.length_nil]
 simp only[Bool.true_or,Bool.true_eq_false,if_false,Bool.false_eq_true]
 have:((0:Nat):Int)=0:=rfl
 rw[this,b2]
 simp[varsX]
def Chain8 {b:Nat}(M:Mode b)(st0 st8:M.σ):Prop:=∃ st1 st2 st3 st4 st5 st6 st7,M.eff st0 6 1 0 = .ok (0,st1)∧M.eff st1 7 2 1 = .ok (1,st2)∧M.eff st2 9 1 0 = .ok (0,st3)∧M.eff st3 10 1 0 = .ok (0,st4)∧M.eff st4 11 1 0 = .ok (0,st5) ∧
 M.eff st5 12 2 1 = .ok (1,st6)∧M.eff st6 14 1 15 = .ok (15,st7)∧M.eff st7 15 1 0 = .ok (0,st8)
def OverLeast {b:Nat}(M:Mode b)(st0:M.σ)(w:World)(e:Ending)(w':World):Prop :=
 e = .returned (.tuple #[])∧Fr M.SB w w'∧∃ s' st8,On M w' (s',st8)∧s'.locs=1∧Chain8 M st0 st8
theorem instr_lies {w:World}{b:Nat}{s:WS}(h:Lies w b s) :
 Lies (((((((w.setCell ⟨b,154,none⟩ (vI 15)).setCell ⟨b,155,none⟩ (vI 0)).setCell ⟨b,156,none⟩ (vI 0)).setCell ⟨b,157,none⟩ (vI 0)).setCell ⟨b,158,none⟩ (vI 0)).setCell ⟨b,159,none⟩ nilS).setCell ⟨b,160,none⟩ nilS) b { s with op:=15,r:=0,s:=0,t:=0,n:=0,args:=nilS,rets:=nilS }:=by
 have h1:=h.setCell (s':={ s with op:=15 }) 154 (vI 15) (by kernel_rfl)
 have h2:=h1.setCell (s':={ s with op:=15,r:=0 }) 155 (vI 0) (by kernel_rfl)
 have h3:=h2.setCell (s':={ s with op:=15,r:=0,s:=0 }) 156 (vI 0) (by kernel_rfl)
 have h4:=h3.setCell (s':={ s with op:=15,r:=0,s:=0,t:=0 }) 157 (vI 0) (by kernel_rfl)
 have h5:=h4.setCell (s':={ s with op:=15,r:=0,s:=0,t:=0,n:=0 }) 158 (vI 0) (by kernel_rfl)
 have h6:=h5.setCell (s':={ s with op:=15,r:=0,s:=0,t:=0,n:=0,args:=nilS }) 159 nilS (by kernel_rfl)
 exact h6.setCell (s':={ s with op:=15,r:=0,s:=0,t:=0,n:=0,args:=nilS,rets:=nilS }) 160 nilS (by kernel_rfl)
theorem over_least {b:Nat}(M:Mode b)(rm:M.σ→Nat)(hN:NextAt M rm)(hR:RoomGoes M rm)(hK:Keeps M rm)(s:WS)(st0:M.σ)(w:World)(h:Lies w b s)(hrm:8≤rm st0)(h6:s.at'=6)(hlo:s.locs=1)(fb cb:Nat)(hl:Least w fb cb)(hfb:¬ M.SB fb)(hcb:¬ M.SB cb)(hnew:∀ k,k=w.heap.size→¬ M.SB k)
 (hOn:∀ w1 s',Fr (fun k=>k=b) w w1→w1.heap[w.heap.size]?=some (.cells #[vI 0,.slice (some ⟨fb,0,none⟩) 1 1] 26)→Lies w1 b s'→s'.num=s.num→s'.at'=s.at'→On M w1 (s',st0)) :
 Calls Tryd.prog 36 #[.pointer (some ⟨b,0,none⟩),.agg #[vI 0,.slice (some ⟨fb,0,none⟩) 1 1]] w (OverLeast M st0 w):=by
 obtain⟨-,-,c146,c147,-,c149,c150,c151,c152,c153,-,-,-,-,-,-,-,c161⟩:=h.facts
 have hz:=h.frozen
 have hb:=h.lt
 go_enter Tryd.func36,Tryd.ntmps36
 go_wp2_with fail
 go_region
 have hl1:Lies ((w.setCell ⟨b,146,none⟩ (vI 0)).setCell ⟨b,161,none⟩ (vI 1)) b { s with globals:=0,count:=1 } :=
  (h.setCell 146 _ (cells_set s 146 0 (by simp[places]))).setCell 161 _ (cells_set _ 161 1 (by simp[places]))
 have hf1:Fr (fun k=>k=b) w (((w.setCell ⟨b,146,none⟩ (vI 0)).setCell ⟨b,161,none⟩ (vI 1)).alloc (.cells #[vI 0,.slice (some ⟨fb,0,none⟩) 1 1] 26)).drew :=
  (Fr.alloc (Fr.setCell (Fr.setCell (Fr.refl (fun k=>k=b) w) _ _ (Or.inl rfl)) _ _ (Or.inl rfl)) _).drew
 have hpb:(((w.setCell ⟨b,146,none⟩ (vI 0)).setCell ⟨b,161,none⟩ (vI 1)).alloc (.cells #[vI 0,.slice (some ⟨fb,0,none⟩) 1 1] 26)).drew.heap[w.heap.size]?=some (.cells #[vI 0,.slice (some ⟨fb,0,none⟩) 1 1] 26):=by
  have hsz:((w.setCell ⟨b,146,none⟩ (vI 0)).setCell ⟨b,161,none⟩ (vI 1)).heap.size=w.heap.size:=by simp
  have:=heap_alloc_last ((w.setCell ⟨b,146,none⟩ (vI 0)).setCell ⟨b,161,none⟩ (vI 1)) (.cells #[vI 0,.slice (some ⟨fb,0,none⟩) 1 1] 26)
  rw[hsz] at this
  exact this
 have hon1:On M (((w.setCell ⟨b,146,none⟩ (vI 0)).setCell ⟨b,161,none⟩ (vI 1)).alloc (.cells #[vI 0,.slice (some ⟨fb,0,none⟩) 1 1] 26)).drew ({ s with globals:=0,count:=1 },st0):=hOn _ _ hf1 hpb (hl1.alloc _).drew rfl rfl
 generalize (((w.setCell ⟨b,146,none⟩ (vI 0)).setCell ⟨b,161,none⟩ (vI 1)).alloc (.cells #[vI 0,.slice (some ⟨fb,0,none⟩) 1 1] 26)).drew=w1 at hf1 hon1 hpb ⊢
 clear hl1 c146 c147 c149 c150 c151 c152 c153 c161 hz hOn
 obtain⟨st1,a1,b1,r1⟩:=next_keep hK hR 146 1 7 { s with globals:=0,count:=1 } st0 (by omega)
 obtain⟨st2,a2,b2,r2⟩:=next_keep hK hR 161 2 6 { s with globals:=0,count:=1,at':=adv s.at' 1 } st1 (by omega)
 have e7:adv 6 1=7:=by decide
 have e9:adv 7 2=9:=by decide
 simp only[h6,e7,e9] at a1 b1 a2 b2
 have x1:askX M 146 1 (fun s=>decide (0≤s.globals∧s.globals≤16)) 18 ({ s with globals:=0,count:=1 },st0) = .ok ({ s with globals:=0,count:=1,at':=7 },st1):=by
  rw[askX_then];simp only[h6];rw[b1];simp[thenX]
 have x2:askX M 161 2 (fun s=>decide (1≤s.count∧s.count≤65535)) 20 ({ s with globals:=0,count:=1,at':=7 },st1) = .ok ({ s with globals:=0,count:=1,at':=9 },st2):=by
  rw[askX_then,b2];simp[thenX]
 go_wp2_with fail
 refine(askGlobals_at M rm hN _ w1 hon1 (by show 1≤rm st0;omega)).mono ?_
 rw[x1]
 rintro e w2 ⟨hf2,rfl,hon2⟩
 clear x1 b1
 go_wp2_with fail
 refine(askFunctions_at M rm hN _ w2 hon2 (by show 1≤rm st1;omega)).mono ?_
 rw[x2]
 rintro e w3 ⟨hf3,rfl,hon3⟩
 clear x2 b2
 have hps:¬ M.SB w.heap.size:=hnew _ rfl
 have hf13:Fr M.SB w1 w3:=hf2.trans hf3
 have hp3:w3.heap[w.heap.size]?=some (.cells #[vI 0,.slice (some ⟨fb,0,none⟩) 1 1] 26):=by
  rw[hf13.block _ (Array.getElem?_eq_some_iff.1 hpb).1 hps];exact hpb
 have hfw3:Fr M.SB w w3:=(hf1.mono (fun k _ hk=>Or.inl hk)).trans hf13
 have hL3:Least w3 fb cb:=hl.fr hfw3 hfb hcb
 have p1:w3.cell? ⟨w.heap.size,1,none⟩=some (.slice (some ⟨fb,0,none⟩) 1 1):=by unfold World.cell?;simp[hp3]
 have hplt:w.heap.size<w3.heap.size:=(Array.getElem?_eq_some_iff.1 hp3).1
 clear hf2 hf3 hf1 hpb hon1 hon2 h
 have hfc:∀ {wx:World},Least wx fb cb→wx.cell? ⟨fb,0,none⟩=some (vI 0)∧wx.cell? ⟨fb,1,none⟩=some (vI 0)∧wx.cell? ⟨fb,2,none⟩=some (vI 0)∧wx.cell? ⟨fb,3,none⟩=some (.slice (some ⟨cb,0,none⟩) 1 1)∧fb<wx.heap.size:=by
  intro wx hx
  refine⟨?_,?_,?_,?_,(Array.getElem?_eq_some_iff.1 hx.funcs).1⟩<;>(unfold World.cell?;simp[hx.funcs])
 go_wp2_with fail
 obtain⟨sB,HSB⟩:∃ sB,Hd (sB=({ s with globals:=0,count:=1,at':=9,fP:=0,fR:=0,fV:=0,fC:=.slice (some ⟨cb,0,none⟩) 1 1,len:=1 }:WS)):=⟨_,rfl⟩
 obtain⟨st3,st4,st5,st6,a3,a4,a5,a6,x3,r6⟩:=head_keep hK hR 2 sB st2 (by omega) (by rw[HSB.out]) (by rw[HSB.out]) (by rw[HSB.out]) (by rw[HSB.out]) (by rw[HSB.out]) (by rw[HSB.out];exact hlo)
 obtain⟨sC,HSC⟩:∃ sC,Hd (sC=({ sB with at':=14,locs:=1 }:WS)):=⟨_,rfl⟩
 have X3:Hd (headX M (sB,st2) = .ok (sC,st6)):=by unfold Hd;rw[x3,HSC.out]
 have CH:Hd (M.eff st0 6 1 0 = .ok (0,st1)∧M.eff st1 7 2 1 = .ok (1,st2)∧M.eff st2 9 1 0 = .ok (0,st3)∧M.eff st3 10 1 0 = .ok (0,st4)∧M.eff st4 11 1 0 = .ok (0,st5)∧M.eff st5 12 2 1 = .ok (1,st6)):=⟨a1,a2,a3,a4,a5,a6⟩
 clear x3 a1 a2 a3 a4 a5 a6
 have R2:Hd (6≤rm st2):=r2
 have R6:Hd (2≤rm st6):=r6
 go_loopw [28] (fun i wr=>Fr M.SB w wr∧(∃ u,wr.cell? ⟨w.heap.size,1,none⟩=u∧u=some (.slice (some ⟨fb,0,none⟩) 1 1))∧((i = .int .i64 0∧On M wr ({ s with globals:=0,count:=1,at':=9 },st2)) ∨
  (i = .int .i64 1∧On M wr (sC,st6)))) (fun i _=>match i with | .int _ q=>1-q.toNat | _=>0)
 case atStart=>exact⟨hfw3,⟨_,rfl,p1⟩,Or.inl ⟨rfl,hon3⟩⟩
 case round =>
  obtain⟨hfr,⟨u,pu,hu⟩,⟨rfl,hon⟩|⟨rfl,hon⟩⟩:=hrel
  ·subst hu
   have hLr:Least wr fb cb:=hl.fr hfr hfb hcb
   obtain⟨f0,f1,f2,f3,hflt⟩:=hfc hLr
   obtain⟨-,-,-,-,-,c149,c150,c151,c152,c153,-⟩:=hon.1.facts
   have hz:=hon.1.frozen
   have hb:=hon.1.lt
   have hfbb:¬ fb=b:=fun e=>hfb (Or.inl e)
   have hpw:w.heap.size<wr.heap.size:=cell_lt pu
   clear hfc
   go_wp2_with fail
   go_region
   have hl1:=(func_lies 0 0 0 1 (.slice (some ⟨cb,0,none⟩) 1 1) hon.1)
   have hf1:Fr (fun k=>k=b) wr ((((((wr.setCell ⟨b,149,none⟩ (vI 0)).setCell ⟨b,150,none⟩ (vI 0)).setCell ⟨b,151,none⟩ (vI 0)).setCell ⟨b,152,none⟩ (.slice (some ⟨cb,0,none⟩) 1 1)).setCell ⟨b,153,none⟩ (vI 1)).alloc (.cells #[vI 0,vI 0,vI 0,.slice (some ⟨cb,0,none⟩) 1 1] 67)).drew :=
    (Fr.alloc (Fr.setCell (Fr.setCell (Fr.setCell (Fr.setCell (Fr.setCell (Fr.refl (fun k=>k=b) wr) _ _ (Or.inl rfl)) _ _ (Or.inl rfl)) _ _ (Or.inl rfl)) _ _ (Or.inl rfl)) _ _ (Or.inl rfl)) _).drew
   have hon1:On M ((((((wr.setCell ⟨b,149,none⟩ (vI 0)).setCell ⟨b,150,none⟩ (vI 0)).setCell ⟨b,151,none⟩ (vI 0)).setCell ⟨b,152,none⟩ (.slice (some ⟨cb,0,none⟩) 1 1)).setCell ⟨b,153,none⟩ (vI 1)).alloc (.cells #[vI 0,vI 0,vI 0,.slice (some ⟨cb,0,none⟩) 1 1] 67)).drew (sB,st2):=by
    rw[HSB.out];exact hon.fr hf1 (hl1.alloc _).drew rfl rfl
   generalize ((((((wr.setCell ⟨b,149,none⟩ (vI 0)).setCell ⟨b,150,none⟩ (vI 0)).setCell ⟨b,151,none⟩ (vI 0)).setCell ⟨b,152,none⟩ (.slice (some ⟨cb,0,none⟩) 1 1)).setCell ⟨b,153,none⟩ (vI 1)).alloc (.cells #[vI 0,vI 0,vI 0,.slice (some ⟨cb,0,none⟩) 1 1] 67)).drew=w4 at hf1 hon1 ⊢
   clear c149 c150 c151 c152 c153 hz f0 f1 f2 f3 hl1
   go_wp2_with fail
   refine(askHead_at M rm hN (sB,st2) w4 hon1 hR (by show 4≤rm st2;have:=R2.out;omega)).mono ?_
   rintro e w5 ⟨hf5,hres⟩
   rw[X3.out] at hres
   obtain⟨rfl,hon5⟩:=hres
   have hf45:Fr M.SB wr w5:=(hf1.mono (fun k _ hk=>Or.inl hk)).trans hf5
   have pu5:w5.cell? ⟨w.heap.size,1,none⟩=some (.slice (some ⟨fb,0,none⟩) 1 1):=(hf45.cell hpw hps).trans pu
   clear hf1 hf5 pu
   go_wp2_with fail
   exact⟨⟨hfr.trans hf45,⟨_,rfl,pu5⟩,Or.inr ⟨by simp,hon5⟩⟩,by simp⟩
  ·subst hu
   have hLr:Least wr fb cb:=hl.fr hfr hfb hcb
   have hpw:w.heap.size<wr.heap.size:=cell_lt pu
   have c147:wr.cell? ⟨b,147,none⟩=some sC.funcs:=hon.1.facts.2.2.2.1
   have hz:=hon.1.frozen
   have hb:=hon.1.lt
   have hpb':¬ w.heap.size=b:=fun e=>hps (Or.inl e)
   clear hfc
   go_wp2_with fail
   have hff:Fr (fun k=>k=b) wr (wr.setCell ⟨b,147,none⟩ (.slice (some ⟨fb,0,none⟩) 1 1)):=Fr.setCell (Fr.refl (fun k=>k=b) wr) _ _ (Or.inl rfl)
   have honf:On M (wr.setCell ⟨b,147,none⟩ (.slice (some ⟨fb,0,none⟩) 1 1)) ({ sC with funcs:=.slice (some ⟨fb,0,none⟩) 1 1 },st6):=hon.fr hff (hon.1.setCell 147 _ (cells_funcs _ _)) rfl rfl
   have hfw:Fr M.SB w (wr.setCell ⟨b,147,none⟩ (.slice (some ⟨fb,0,none⟩) 1 1)):=hfr.trans (hff.mono (fun k _ hk=>Or.inl hk))
   generalize (wr.setCell ⟨b,147,none⟩ (.slice (some ⟨fb,0,none⟩) 1 1))=wf at hff honf hfw ⊢
   obtain⟨sE,HSE⟩:∃ sE,Hd (sE=({ sC with funcs:=.slice (some ⟨fb,0,none⟩) 1 1,fP:=0,fR:=0,fV:=0,fC:=.slice (some ⟨cb,0,none⟩) 1 1,len:=1 }:WS)):=⟨_,rfl⟩
   obtain⟨sG,HSG⟩:∃ sG,Hd (sG=({ sE with op:=15,r:=0,s:=0,t:=0,n:=0,args:=nilS,rets:=nilS }:WS)):=⟨_,rfl⟩
   have g14:sG.at'=14:=by rw[HSG.out,HSE.out,HSC.out]
   have gop:sG.op=15:=by rw[HSG.out]
   obtain⟨st7,st8,a7,a8,x7,x8,-,r7⟩:=instr_keep hK hR 0 sG st6 (by have:=R6.out;omega) g14 gop
   have X7:Hd (nextX M 154 1 (sG,st6) = .ok ({ sG with at':=15 },st7)):=x7
   have X8:Hd (retX M 0 (frontOk M true false true 0 14 ({ sG with at':=15 },st7)) = .ok (([],[]),({ sG with at':=16,count:=0 },st8))):=x8
   have hlo8:Hd (sG.locs=1):=by unfold Hd;rw[HSG.out,HSE.out,HSC.out]
   have CH8:Hd (Chain8 M st0 st8):=⟨st1,st2,st3,st4,st5,st6,st7,CH.out.1,CH.out.2.1,CH.out.2.2.1,CH.out.2.2.2.1,CH.out.2.2.2.2.1,CH.out.2.2.2.2.2,a7,a8⟩
   have G14:Hd (sG.at'=14):=g14
   have GOP:Hd (sG.op=15):=gop
   have hRG:Hd (sG.fR=((0:Nat):Int)∧sG.len=1∧sG.args=nilS∧sG.rets=nilS∧sG.r=0∧sG.s=0∧sG.t=0∧sG.n=0):=by
    unfold Hd;rw[HSG.out,HSE.out];exact⟨rfl,rfl,rfl,rfl,rfl,rfl,rfl,rfl⟩
   clear a7 a8 x7 x8 g14 gop c147 hz hb pu hon hff
   go_loopw [53] (fun i wr=>Fr M.SB w wr∧((i = .int .i64 0∧On M wr ({ sC with funcs:=.slice (some ⟨fb,0,none⟩) 1 1 },st6))∨(i = .int .i64 1∧∃ s8,On M wr (s8,st8)∧s8.locs=1))) (fun i _=>match i with | .int _ q=>1-q.toNat | _=>0)
   case atStart=>exact⟨hfw,Or.inl ⟨rfl,honf⟩⟩
   case round =>
    obtain⟨hfr2,⟨rfl,hon⟩|⟨rfl,s8,hon,hs8⟩⟩:=hrel
    ·have hLr:Least wr fb cb:=hl.fr hfr2 hfb hcb
     obtain⟨f0,f1,f2,f3,hflt⟩:=least_cells hLr
     obtain⟨-,-,-,-,-,c149,c150,c151,c152,c153,-⟩:=hon.1.facts
     have hz:=hon.1.frozen
     have hb:=hon.1.lt
     have hfbb:¬ fb=b:=fun e=>hfb (Or.inl e)
     go_wp2_with fail
     go_region
     have hl1:=(func_lies 0 0 0 1 (.slice (some ⟨cb,0,none⟩) 1 1) hon.1)
     have hf1:Fr (fun k=>k=b) wr ((((((wr.setCell ⟨b,149,none⟩ (vI 0)).setCell ⟨b,150,none⟩ (vI 0)).setCell ⟨b,151,none⟩ (vI 0)).setCell ⟨b,152,none⟩ (.slice (some ⟨cb,0,none⟩) 1 1)).setCell ⟨b,153,none⟩ (vI 1)).alloc (.cells #[vI 0,vI 0,vI 0,.slice (some ⟨cb,0,none⟩) 1 1] 67)).drew :=
      (Fr.alloc (Fr.setCell (Fr.setCell (Fr.setCell (Fr.setCell (Fr.setCell (Fr.refl (fun k=>k=b) wr) _ _ (Or.inl rfl)) _ _ (Or.inl rfl)) _ _ (Or.inl rfl)) _ _ (Or.inl rfl)) _ _ (Or.inl rfl)) _).drew
     have hon1:On M ((((((wr.setCell ⟨b,149,none⟩ (vI 0)).setCell ⟨b,150,none⟩ (vI 0)).setCell ⟨b,151,none⟩ (vI 0)).setCell ⟨b,152,none⟩ (.slice (some ⟨cb,0,none⟩) 1 1)).setCell ⟨b,153,none⟩ (vI 1)).alloc (.cells #[vI 0,vI 0,vI 0,.slice (some ⟨cb,0,none⟩) 1 1] 67)).drew (sE,st6):=by
      rw[HSE.out];exact hon.fr hf1 (hl1.alloc _).drew rfl rfl
     have hcf:((((((wr.setCell ⟨b,149,none⟩ (vI 0)).setCell ⟨b,150,none⟩ (vI 0)).setCell ⟨b,151,none⟩ (vI 0)).setCell ⟨b,152,none⟩ (.slice (some ⟨cb,0,none⟩) 1 1)).setCell ⟨b,153,none⟩ (vI 1)).alloc (.cells #[vI 0,vI 0,vI 0,.slice (some ⟨cb,0,none⟩) 1 1] 67)).drew.cell? ⟨wr.heap.size,3,none⟩=some (.slice (some ⟨cb,0,none⟩) 1 1):=by
      rw[World.cell?_drew,World.cell?_alloc_at _ _ _ _ (by simp)];rfl
     generalize ((((((wr.setCell ⟨b,149,none⟩ (vI 0)).setCell ⟨b,150,none⟩ (vI 0)).setCell ⟨b,151,none⟩ (vI 0)).setCell ⟨b,152,none⟩ (.slice (some ⟨cb,0,none⟩) 1 1)).setCell ⟨b,153,none⟩ (vI 1)).alloc (.cells #[vI 0,vI 0,vI 0,.slice (some ⟨cb,0,none⟩) 1 1] 67)).drew=w4 at hf1 hon1 hcf ⊢
     have hf4w:Fr M.SB w w4:=hfr2.trans (hf1.mono (fun k _ hk=>Or.inl hk))
     clear c149 c150 c151 c152 c153 hz f0 f1 f2 f3 hl1 hon hb
     go_wp2_with fail
     go_loopw [70] (fun i wr=>Fr M.SB w wr∧((i = .int .i64 0∧On M wr (sE,st6))∨(i = .int .i64 1∧∃ s8,On M wr (s8,st8)∧s8.locs=1))) (fun i _=>match i with | .int _ q=>1-q.toNat | _=>0)
     case atStart=>exact⟨hf4w,Or.inl ⟨rfl,hon1⟩⟩
     case round =>
      obtain⟨hfr3,⟨rfl,hon⟩|⟨rfl,s8,hon,hs8⟩⟩:=hrel
      ·have hLr:Least wr fb cb:=hl.fr hfr3 hfb hcb
       obtain⟨k0,k1,k2,k3,k4,k5,k6,hclt⟩:=least_code hLr
       obtain⟨-,-,-,-,-,-,-,-,-,-,d0,d1,d2,d3,d4,d5,d6,-⟩:=hon.1.facts
       have hz:=hon.1.frozen
       have hb:=hon.1.lt
       have hcbb:¬ cb=b:=fun e=>hcb (Or.inl e)
       go_wp2_with fail
       have hil:=instr_lies hon.1
       have hf7:Fr (fun k=>k=b) wr ((((((((wr.setCell ⟨b,154,none⟩ (vI 15)).setCell ⟨b,155,none⟩ (vI 0)).setCell ⟨b,156,none⟩ (vI 0)).setCell ⟨b,157,none⟩ (vI 0)).setCell ⟨b,158,none⟩ (vI 0)).setCell ⟨b,159,none⟩ nilS).setCell ⟨b,160,none⟩ nilS).alloc (.cells #[vI 15,vI 0,vI 0,vI 0,vI 0,.slice none 0 0,.slice none 0 0] 71)) :=
        Fr.alloc (Fr.setCell (Fr.setCell (Fr.setCell (Fr.setCell (Fr.setCell (Fr.setCell (Fr.setCell (Fr.refl (fun k=>k=b) wr) _ _ (Or.inl rfl)) _ _ (Or.inl rfl)) _ _ (Or.inl rfl)) _ _ (Or.inl rfl)) _ _ (Or.inl rfl)) _ _ (Or.inl rfl)) _ _ (Or.inl rfl)) _
       have hong:On M ((((((((wr.setCell ⟨b,154,none⟩ (vI 15)).setCell ⟨b,155,none⟩ (vI 0)).setCell ⟨b,156,none⟩ (vI 0)).setCell ⟨b,157,none⟩ (vI 0)).setCell ⟨b,158,none⟩ (vI 0)).setCell ⟨b,159,none⟩ nilS).setCell ⟨b,160,none⟩ nilS).alloc (.cells #[vI 15,vI 0,vI 0,vI 0,vI 0,.slice none 0 0,.slice none 0 0] 71)) (sG,st6):=by
        rw[HSG.out];exact hon.fr hf7 (hil.alloc _) rfl rfl
       change Calls Tryd.prog 65 _ ((((((((wr.setCell ⟨b,154,none⟩ (vI 15)).setCell ⟨b,155,none⟩ (vI 0)).setCell ⟨b,156,none⟩ (vI 0)).setCell ⟨b,157,none⟩ (vI 0)).setCell ⟨b,158,none⟩ (vI 0)).setCell ⟨b,159,none⟩ nilS).setCell ⟨b,160,none⟩ nilS).alloc (.cells #[vI 15,vI 0,vI 0,vI 0,vI 0,.slice none 0 0,.slice none 0 0] 71)) _
       generalize ((((((((wr.setCell ⟨b,154,none⟩ (vI 15)).setCell ⟨b,155,none⟩ (vI 0)).setCell ⟨b,156,none⟩ (vI 0)).setCell ⟨b,157,none⟩ (vI 0)).setCell ⟨b,158,none⟩ (vI 0)).setCell ⟨b,159,none⟩ nilS).setCell ⟨b,160,none⟩ nilS).alloc (.cells #[vI 15,vI 0,vI 0,vI 0,vI 0,.slice none 0 0,.slice none 0 0] 71))=w6 at hf7 hong ⊢
       obtain⟨q1,q2,q3,q4,q5,q6,q7,q8⟩:=hRG.out
       clear k0 k1 k2 k3 k4 k5 k6 d0 d1 d2 d3 d4 d5 d6 hz hil
       have hcall:=instr_15at M rm hN hR (sG,st6) ({ sG with at':=15 },st7) w6 hong (by show 2≤rm st6;exact R6.out) 0 (by omega) X7.out GOP.out (by show 0≤sG.len;omega) (by show sG.len≤4096;omega) true
        (fun w1 hl'=>namesAll_15 ({ sG with at':=15 }:WS) w1 hl' none none 0 0 0 0 q3 q4 q5 q6 q7 q8 (by show lenOf sG.rets=0;rw[q4];rfl)) q3 q4 0 q1 rfl
       rw[show((sG,st6):WS × M.σ).1.at'=14 from G14.out,X8.out] at hcall
       refine hcall.mono ?_
       rintro e w7 ⟨hf77,rfl,av,rv,-,-,hon7⟩
       have hf67:Fr M.SB wr w7:=(hf7.mono (fun k _ hk=>Or.inl hk)).trans hf77
       have hon8:∃ s8,On M w7 (s8,st8)∧s8.locs=1:=⟨_,hon7,hlo8.out⟩
       clear hcall hf7 hf77 hon7 q1 q2 q3 q4 q5 q6 q7 q8
       go_wp2_with fail
       exact⟨⟨hfr3.trans hf67,Or.inr ⟨by simp,hon8⟩⟩,by simp⟩
      ·go_wp2_with fail
       exact⟨⟨hfr3,Or.inr ⟨by simp,s8,hon,hs8⟩⟩,by simp⟩
    ·go_wp2_with fail
     go_end0
     exact⟨rfl,hfr2,s8,st8,hon,hs8,CH8.out⟩
set_option maxRecDepth 100000
set_option maxHeartbeats 2000000
def NextKeep {b:Nat}(M:Mode b)(rm:M.σ→Nat):Prop:=∀ (pb po:Nat),¬ M.SB pb→∀ (x:WS × M.σ) (v:Int) (size:Nat) (w:World),1≤rm x.2→On M w x→1≤size→size≤8→w.cell? ⟨pb,po,none⟩=some (vI v) →
 Calls Tryd.prog 90 #[.pointer (some ⟨b,0,none⟩),.pointer (some ⟨pb,po,none⟩),.int .i64 size] w fun e w'=>Fr M.SB w w'∧e = .returned (vI x.1.at') ∧
  ∃ st,M.eff x.2 x.1.at' size v = .ok (v,st)∧On M w' ({ x.1 with at':=adv x.1.at' size },st)
structure KM {b:Nat}(M:Mode b)(rm:M.σ→Nat):Prop where
 next:NextAt M rm
 other:NextKeep M rm
 goes:RoomGoes M rm
 keeps:Keeps M rm
theorem eff_goes {b:Nat}{M:Mode b}{rm:M.σ→Nat}(hR:RoomGoes M rm)(s:WS){st st':M.σ}{p v v':Int}{size:Nat}(h:M.eff st p size v = .ok (v',st')):rm st≤rm st'+1:=by
 have e:nextX M 161 size ({ s with at':=p,count:=v },st) = .ok ({ ({ s with at':=p,count:=v }:WS).set 161 v' with at':=adv p size },st'):=by
  have g:({ s with at':=p,count:=v }:WS).get 161=v:=rfl
  unfold nextX
  simp only[g,h]
 exact hR _ _ _ _ e
theorem K_next {b:Nat}{M:Mode b}{rm:M.σ→Nat}(hM:KM M rm)(o size:Nat)(s:WS)(st:M.σ)(h:1≤rm st) :
 ∃ st',nextX M o size (s,st) = .ok ({ s with at':=adv s.at' size },st')∧rm st≤rm st'+1:=by
 obtain⟨st',e1,e2,-⟩:=next_keep hM.keeps hM.goes o size 0 s st h
 exact⟨st',e2,hM.goes _ _ _ _ e2⟩
def oneK {b:Nat}(M:Mode b)(v:Int)(x:WS × M.σ):X (WS × M.σ) :=
 match M.eff x.2 x.1.at' 1 v with
 | .ok (_,st)=>if varOk x.1.fV v then .ok ({ x.1 with at':=adv x.1.at' 1 },st) else .error (13,x.1.at')
 | .error z=>.error z
def varsK {b:Nat}(M:Mode b):List Int→WS × M.σ→X (WS × M.σ)
 | [],x=>.ok x
 | v::r,x=>thenX (oneK M v x) (varsK M r)
def listK {b:Nat}(M:Mode b)(n:Nat)(l:List Int)(x:WS × M.σ):X (WS × M.σ) :=
 thenX (nextX M 161 1 ({ x.1 with count:=l.length },x.2)) fun y=>if l.length=n then varsK M l y else .error (15,x.1.at')
theorem oneK_goes {b:Nat}{M:Mode b}{rm:M.σ→Nat}(hR:RoomGoes M rm){v:Int}{x y:WS × M.σ}(h:oneK M v x = .ok y):rm x.2≤rm y.2+1:=by
 unfold oneK at h
 split at h
 ·rename_i v' st hv
  split at h
  ·cases h;exact eff_goes hR x.1 hv
  ·cases h
 ·cases h
theorem varsK_goes {b:Nat}{M:Mode b}{rm:M.σ→Nat}(hR:RoomGoes M rm):∀ {l:List Int} {x y:WS × M.σ},varsK M l x = .ok y→rm x.2≤rm y.2+l.length
 | [],_,_,h=>by cases h;simp
 | v::r,x,y,h=>by
   unfold varsK at h
   cases h1:oneK M v x with
   | error z=>rw[h1] at h;cases h
   | ok x1 =>
     rw[h1] at h
     have h2:=varsK_goes hR (l:=r) (x:=x1) (y:=y) h
     have h3:=oneK_goes hR h1
     simp only[List.length_cons]
     omega
theorem listK_goes {b:Nat}{M:Mode b}{rm:M.σ→Nat}(hR:RoomGoes M rm){n:Nat}{l:List Int}{x y:WS × M.σ}(h:listK M n l x = .ok y):rm x.2≤rm y.2+(n+1):=by
 unfold listK at h
 cases h1:nextX M 161 1 ({ x.1 with count:=l.length },x.2) with
 | error z=>rw[h1] at h;cases h
 | ok x1 =>
   rw[h1] at h
   have h3:=hR _ _ _ _ h1
   have h3:rm x.2≤rm x1.2+1:=h3
   simp only[thenX] at h
   split at h
   ·have h2:=varsK_goes hR h
    omega
   ·cases h
theorem variable_K {b:Nat}{M:Mode b}{rm:M.σ→Nat}(hM:KM M rm)(pb po:Nat)(x:WS × M.σ)(v:Int)(w:World)(h:On M w x)(hp:1≤rm x.2)(hpb:¬ M.SB pb)(hu:w.cell? ⟨pb,po,none⟩=some (vI v)) :
 Calls Tryd.prog 80 #[.pointer (some ⟨b,0,none⟩),.pointer (some ⟨pb,po,none⟩)] w (Ends M w (oneK M v x)):=by
 have hlt:pb<w.heap.size:=cell_lt hu
 go_enter Tryd.func80,Tryd.ntmps80
 go_wp2_with fail
 refine(hM.other pb po hpb x v 1 w hp h (by omega) (by omega) hu).mono ?_
 rintro e w1 ⟨hf,rfl,st,hst,hon⟩
 have hc:w1.cell? ⟨pb,po,none⟩=some (vI v):=(hf.cell hlt hpb).trans hu
 have hcV:w1.cell? ⟨b,151,none⟩=some (vI x.1.fV):=hon.1.facts.2.2.2.2.2.2.2.1
 have HX:Hd (oneK M v x=if varOk x.1.fV v then .ok ({ x.1 with at':=adv x.1.at' 1 },st) else .error (13,x.1.at')):=by
  unfold Hd;simp only[oneK,hst]
 clear hst hu hp h
 by_cases hm:varOk x.1.fV v=true
 ·have hm':decide (0≤v∧v≤IntKind.i64.wrap (x.1.fV-1))=true:=by exact hm
  have HM:Hd (varOk x.1.fV v=true):=hm'
  clear hm
  go_wp2_with fail
  refine wp_region_still_tail 11 mixed (by kernel_rfl) ?_
  simp only[List.take_succ_cons,List.take_zero,List.drop_succ_cons,List.drop_zero]
  repeat still_step
  still_call (within_any _ _ _ _)
  repeat still_step
  refine wpStill_nil ?_
  go_wp2_with fail
  refine(must_true 13 x.1.at' _).mono ?_
  rintro e w' ⟨rfl,rfl⟩
  go_wp2_with fail
  go_end0
  refine⟨hf.drew,?_⟩
  rw[HX.out,if_pos HM.out]
  exact⟨rfl,hon.drew⟩
 ·have hm':decide (0≤v∧v≤IntKind.i64.wrap (x.1.fV-1))=false:=by simpa[varOk] using hm
  have HM:Hd (varOk x.1.fV v=false):=hm'
  clear hm
  go_wp2_with fail
  refine wp_region_still_tail 11 mixed (by kernel_rfl) ?_
  simp only[List.take_succ_cons,List.take_zero,List.drop_succ_cons,List.drop_zero]
  repeat still_step
  still_call (within_any _ _ _ _)
  repeat still_step
  refine wpStill_nil ?_
  go_wp2_with fail
  refine(must_false 13 x.1.at' _).mono ?_
  rintro e w' ⟨rfl,rfl⟩
  go_wp2_with fail
  refine⟨rfl,hf.drew,?_⟩
  rw[HX.out,if_neg (by rw[HM.out];simp)]
def IS (S:Nat→Prop)(w:World)(v:Value)(l:List Int):Prop :=
 ∃ a c,v = .slice a l.length c∧(l≠[]→∃ k o,a=some ⟨k,o,none⟩∧k<w.heap.size∧¬ S k∧∀ j (h:j<l.length),w.cell? ⟨k,o+j,none⟩=some (vI l[j]))
theorem IS.fr {S:Nat→Prop}{w w':World}{v:Value}{l:List Int}(h:IS S w v l)(f:Fr S w w'):IS S w' v l:=by
 obtain⟨a,c,e,h⟩:=h
 refine⟨a,c,e,fun hne=>?_⟩
 obtain⟨k,o,e,hk,hb,hc⟩:=h hne
 exact⟨k,o,e,Nat.lt_of_lt_of_le hk f.size,hb,fun j hj=>(f.cell hk hb).trans (hc j hj)⟩
theorem oneK_getL {b:Nat}{M:Mode b}{o:Nat}{v:Int}{x y:WS × M.σ}(h:oneK M v x = .ok y):y.1.getL o=x.1.getL o:=by
 unfold oneK at h
 split at h
 ·split at h
  ·cases h;rfl
  ·cases h
 ·cases h
theorem list_K {b:Nat}{M:Mode b}{rm:M.σ→Nat}(hM:KM M rm)(o n:Nat)(ho:o=159∨o=160)(x:WS × M.σ)(w:World)(h:On M w x)(hp:n+1≤rm x.2)(l:List Int)(hl:IS M.SB w (x.1.getL o) l)(hll:l.length≤1000000000000000)(hn:n≤255) :
 Calls Tryd.prog 100 #[.pointer (some ⟨b,0,none⟩),.pointer (some ⟨b,o,none⟩),.int .i64 n] w (Ends M w (listK M n l x)):=by
 obtain⟨a,c,hsl,hin⟩:=hl
 have HIN:Hd _:=hin
 clear hin
 have hcl:w.cell? ⟨b,o,none⟩=some (.slice a l.length c):=by rw[h.1.cell,cells_getL _ _ ho,hsl]
 have hc161:w.cell? ⟨b,161,none⟩=some (vI x.1.count):=h.1.facts.2.2.2.2.2.2.2.2.2.2.2.2.2.2.2.2.2
 have hz161:=h.1.frozen 161
 have hf0:Fr (·=b) w (w.setCell ⟨b,161,none⟩ (vI l.length)):=Fr.setCell (Fr.refl (fun k=>k=b) w) _ _ (Or.inl rfl)
 have hl0:Lies (w.setCell ⟨b,161,none⟩ (vI l.length)) b { x.1 with count:=l.length }:=h.1.setCell 161 _ (cells_set _ 161 _ (by simp[places]))
 have hon0:On M (w.setCell ⟨b,161,none⟩ (vI l.length)) ({ x.1 with count:=l.length },x.2):=h.fr hf0 hl0 rfl rfl
 have hb:=h.1.lt
 obtain⟨st1,hnx,hrm1⟩:=K_next hM 161 1 { x.1 with count:=l.length } x.2 (by omega)
 have hrm:Hd (n≤rm st1):=by unfold Hd;omega
 have hN:=hM.next 161 (by simp[places]) ({ x.1 with count:=l.length },x.2) 1 _ (by show 1≤rm x.2;omega) hon0 (by omega) (by omega)
 rw[hnx] at hN
 have HL0:Hd (listK M n l x=if l.length=n then varsK M l ({ x.1 with count:=l.length,at':=adv x.1.at' 1 },st1) else .error (15,x.1.at')):=by
  unfold Hd listK;rw[hnx];rfl
 clear hnx hrm1 hp
 go_enter Tryd.func100,Tryd.ntmps100
 go_wp2_with fail
 refine hN.mono ?_
 rintro e w1 ⟨hf1,rfl,hon1⟩
 have hfa:Fr M.SB w w1:=(hf0.mono (fun k _ hk=>Or.inl hk)).trans hf1
 obtain⟨y,hy⟩:∃ y:WS × M.σ,y=({ x.1 with count:=l.length,at':=adv x.1.at' 1 },st1):=⟨_,rfl⟩
 have hon1:On M w1 y:=by rw[hy];exact hon1
 have hcc:w1.cell? ⟨b,161,none⟩=some (vI l.length):=by rw[hon1.1.facts.2.2.2.2.2.2.2.2.2.2.2.2.2.2.2.2.2,hy]
 have hyL:y.1.getL o = .slice a l.length c:=by
  rw[hy]
  rcases ho with rfl | rfl<;>exact hsl
 have hry:Hd (n≤rm y.2):=by unfold Hd;rw[hy];exact hrm.out
 have hcl1:w1.cell? ⟨b,o,none⟩=some (.slice a l.length c):=by rw[hon1.1.cell,cells_getL _ _ ho,hyL]
 have HL:Hd (listK M n l x=if l.length=n then varsK M l y else .error (15,x.1.at')):=by unfold Hd;rw[HL0.out,hy]
 clear hy hf1 hf0 hl0 hon0 hc161 hz161 HL0 hrm hN
 by_cases hm:l.length=n
 rotate_left
 ·have hm':(((l.length:Nat):Int)==(n:Int))=false:=by simp;omega
  have HM:Hd (¬ l.length=n):=hm
  clear hm
  go_wp2_with fail
  refine(must_false 15 x.1.at' _).mono ?_
  rintro e w' ⟨rfl,rfl⟩
  go_wp2_with fail
  refine⟨rfl,hfa,?_⟩
  rw[HL.out,if_neg HM.out]
 subst hm
 have HLV:Hd (listK M l.length l x=varsK M l y):=by unfold Hd;rw[HL.out,if_pos rfl]
 clear HL
 go_wp2_with fail
 refine(must_true 15 x.1.at' _).mono ?_
 rintro e w' ⟨rfl,rfl⟩
 go_wp2_with fail
 go_loopw [42] (fun i wr=>∃ (k:Nat) (z:WS × M.σ),k≤l.length∧i = .int .i64 k∧On M wr z∧Hd (z.1.getL o = .slice a l.length c)∧Fr M.SB w wr∧Hd (l.length≤rm z.2+k)∧Hd (varsK M l y=varsK M (l.drop k) z)) (fun i _=>match i with | .int _ q=>l.length-q.toNat | _=>0)
 case atStart=>exact⟨0,y,Nat.zero_le _,rfl,hon1,hyL,hfa,hry,rfl⟩
 case round =>
  obtain⟨k,z,hk,rfl,honz,hzL,hfz,hrz,hvx⟩:=hrel
  have hclz:wr.cell? ⟨b,o,none⟩=some (.slice a l.length c):=by rw[honz.1.cell,cells_getL _ _ ho,hzL.out]
  by_cases hlt:k<l.length
  ·obtain⟨pk,po,rfl,hpk,hpb,hcs⟩:=HIN.out (by intro e;simp[e] at hlt)
   have hce:wr.cell? ⟨pk,po+k,none⟩=some (vI l[k]):=(hfz.cell hpk hpb).trans (hcs k hlt)
   have hdrop:Hd (l.drop k=l[k]::l.drop (k+1)):=List.drop_eq_getElem_cons hlt
   generalize l[k]=lk at hce hdrop
   have hcdz:=variable_K hM pk (po+k) z lk wr honz (by have:=hrz.out;omega) hpb hce
   clear hcs
   go_wp2_with fail
   refine hcdz.mono ?_
   rintro e w2 ⟨hf2,hres⟩
   cases hox:oneK M lk z with
   | error er =>
     rw[hox] at hres
     have hres:e = .panicked (viol er.1 er.2):=hres
     subst hres
     go_wp2_with fail
     refine⟨rfl,hfz.trans hf2,?_⟩
     rw[HLV.out,hvx.out,hdrop.out]
     simp only[varsK,hox,thenX]
   | ok z2 =>
     rw[hox] at hres
     obtain⟨rfl,hon2⟩:=hres
     have hz2:Hd (z2.1.getL o = .slice (some ⟨pk,po,none⟩) l.length c):=(oneK_getL hox).trans hzL.out
     have hrz2:Hd (l.length≤rm z2.2+(k+1)):=by have h1:=oneK_goes hM.goes hox;have h2:=hrz.out;unfold Hd;omega
     have hvx2:Hd (varsK M l y=varsK M (l.drop (k+1)) z2):=by
      unfold Hd;rw[hvx.out,hdrop.out];simp only[varsK,hox,thenX]
     clear hcdz hce hox hvx hzL hclz hrz
     go_wp2_with fail
     exact⟨⟨k+1,z2,by omega,by simp,hon2,hz2,hfz.trans hf2,hrz2,hvx2⟩,by simp;omega⟩
  ·have hkl:k=l.length:=by omega
   subst hkl
   have hvl:Hd (varsK M l y = .ok z):=by unfold Hd;rw[hvx.out,List.drop_length];rfl
   clear hvx
   go_wp2_with fail
   go_end0
   refine⟨hfz,?_⟩
   rw[HLV.out,hvl.out]
   exact⟨rfl,honz⟩
set_option maxHeartbeats 4000000
theorem oneK_kept {b:Nat}{M:Mode b}{v:Int}{x y:WS × M.σ}(h:oneK M v x = .ok y):Kept x.1 y.1∧y.1.n=x.1.n:=by
 unfold oneK at h
 split at h
 ·split at h
  ·cases h;exact⟨⟨rfl,rfl,rfl,rfl,rfl,rfl,rfl,rfl,rfl,rfl,rfl⟩,rfl⟩
  ·cases h
 ·cases h
theorem varsK_kept {b:Nat}{M:Mode b}:∀ {l:List Int} {x y:WS × M.σ},varsK M l x = .ok y→Kept x.1 y.1∧y.1.n=x.1.n
 | [],_,_,h=>by cases h;exact⟨Kept.refl _,rfl⟩
 | v::r,x,y,h=>by
   unfold varsK at h
   cases h1:oneK M v x with
   | error z=>rw[h1] at h;cases h
   | ok x1 =>
     rw[h1] at h
     obtain⟨a1,a2⟩:=oneK_kept h1
     obtain⟨b1,b2⟩:=varsK_kept (l:=r) (x:=x1) (y:=y) h
     exact⟨a1.trans b1,b2.trans a2⟩
theorem listK_kept {b:Nat}{M:Mode b}{n:Nat}{l:List Int}{x y:WS × M.σ}(h:listK M n l x = .ok y):Kept x.1 y.1∧y.1.n=x.1.n:=by
 unfold listK at h
 cases h1:nextX M 161 1 ({ x.1 with count:=l.length },x.2) with
 | error z=>rw[h1] at h;cases h
 | ok x1 =>
   rw[h1] at h
   simp only[thenX] at h
   split at h
   ·obtain⟨b1,b2⟩:=varsK_kept h
    have k1:Kept x.1 x1.1:=by
     have:=nextX_kept (by simp) h1
     exact⟨this.num,this.globals,this.funcs,this.fP,this.fR,this.fV,this.fC,this.len,this.op,this.args,this.rets⟩
    have n1:x1.1.n=x.1.n:=by
     obtain⟨v,st,rfl⟩:=nextX_num h1
     rfl
    exact⟨k1.trans b1,b2.trans n1⟩
   ·cases h
def retK {b:Nat}(M:Mode b)(n:Nat)(la:List Int)(c:X (WS × M.σ)):X (WS × M.σ):=thenX c (listK M n la)
theorem instr_15K {b:Nat}{M:Mode b}{rm:M.σ→Nat}(hM:KM M rm)(x y:WS × M.σ)(w:World)(h:On M w x)(hp:20≤rm x.2)(i:Nat)(hi:i≤4096)(hx:nextX M 154 1 x = .ok y)(hk:y.1.op=15)(hl0:0≤y.1.len)(hl1:y.1.len≤4096)(nb:Bool)
 (hnames:∀ w1,Lies w1 b y.1→Calls Tryd.prog 93 #[.pointer (some ⟨b,122,none⟩),.pointer (some ⟨b,154,none⟩)] w1 fun e w'=>e = .returned (.bool nb)∧w'=w1)
 (la:List Int) (ha:IS M.SB w y.1.args la) (hll:la.length≤1000000000000000) (n:Nat) (hR:y.1.fR=n) (hn:n≤4) :
 Calls Tryd.prog 65 #[.pointer (some ⟨b,0,none⟩),.int .i64 i] w (Ends M w (retK M n la (frontOk M true false nb i x.1.at' y))):=by
 have G0:=front_goes hM.goes hx true false nb i x.1.at'
 refine askInstr_15at M rm hM.next x y w h (by omega) i hi hx hk hl0 hl1 nb hnames _ (fun j w1=>match j with | 0=>Stage M w y.1 (frontOk M true false nb i x.1.at' y) w1 | 1=>Stage M w y.1 (retK M n la (frontOk M true false nb i x.1.at' y)) w1 | _=>False)
  (fun z w1 hz hf=>ends_error (by simp only[retK,hz,thenX]) hf) ?_ ?_ ?_ ?_ ?_
 ·exact fun y' w1 hy hf hon=>⟨y',hy,hf,hon,frontOk_kept hy⟩
 ·intro j w1 hj
  match j,hj with
  | 0,hj=>exact Stage.lies hj
  | 1,hj=>exact Stage.lies hj
 ·intro j w1 hj
  match j,hj with
  | 0,hj=>exact Stage.drew hj
  | 1,hj=>exact Stage.drew hj
 ·intro w1 hw1
  have hfw:Fr M.SB w w1:=hw1.choose_spec.2.1
  refine stage_stepR (M:=M) (p:=listK M n la) (fun a a' ha=>(listK_kept ha).1) (fun z w' hz hf=>ends_error hz hf) (fun yy hyc hon hkp=>?_) hw1
  refine ownResults_any 159 n yy.1 w1 hon.1 (by rw[hkp.fR,hR]) _ ?_
  exact(list_K hM 159 n (Or.inl rfl) yy w1 hon (by have:=G0 yy hyc;omega) la (by
   have e:yy.1.getL 159=y.1.args:=by unfold WS.getL;rw[if_pos rfl];exact hkp.args
   rw[e];exact ha.fr hfw) hll (by omega)).mono (fun e w' he=>ends_plain he)
 ·exact fun w1 hw1=>stage_end hw1
def callK {b:Nat}(M:Mode b)(heads:List (Nat × Nat))(la lr:List Int)(c:X (WS × M.σ)):X (WS × M.σ) :=
 thenX (thenX c (calleePart M heads.length)) fun y =>
  thenX (listK M ((heads.getD y.1.n.toNat (0,0)).1) la y) fun y2=>listK M ((heads.getD y.1.n.toNat (0,0)).2) lr y2
def MidK {b:Nat}(M:Mode b)(w:World)(heads:List (Nat × Nat))(la:List Int)(s0:WS)(c:X (WS × M.σ))(w1:World):Prop :=
 ∃ y y2,thenX c (calleePart M heads.length) = .ok y∧listK M ((heads.getD y.1.n.toNat (0,0)).1) la y = .ok y2∧Fr M.SB w w1∧On M w1 y2∧Kept s0 y2.1∧y2.1.n=y.1.n∧0≤y.1.n∧y.1.n<heads.length
theorem instr_11K {b:Nat}{M:Mode b}{rm:M.σ→Nat}(hM:KM M rm)(x y:WS × M.σ)(w:World)(h:On M w x)(hp:20≤rm x.2)(i:Nat)(hi:i≤4096)(hx:nextX M 154 1 x = .ok y)(hk:y.1.op=11)(hl0:0≤y.1.len)(hl1:y.1.len≤4096)(nb:Bool)
 (hnames:∀ w1,Lies w1 b y.1→Calls Tryd.prog 93 #[.pointer (some ⟨b,90,none⟩),.pointer (some ⟨b,154,none⟩)] w1 fun e w'=>e = .returned (.bool nb)∧w'=w1)
 (la lr:List Int) (ha:IS M.SB w y.1.args la) (hr:IS M.SB w y.1.rets lr) (hal:la.length≤1000000000000000) (hrl:lr.length≤1000000000000000) (heads:List (Nat × Nat)) (fb fo fc:Nat) (hfu:y.1.funcs = .slice (some ⟨fb,fo,none⟩) heads.length fc) (hH:HeadsAt w fb fo heads) (hSB:¬ M.SB fb) (hflt:fb<w.heap.size) (hnf:heads.length≤65535) :
 Calls Tryd.prog 65 #[.pointer (some ⟨b,0,none⟩),.int .i64 i] w (Ends M w (callK M heads la lr (frontOk M false false nb i x.1.at' y))):=by
 have hPR:∀ j (h:j<heads.length),heads[j].1≤8∧heads[j].2≤4:=fun j h=>(hH j h).2.2
 have G0:=front_goes hM.goes hx false false nb i x.1.at'
 have G1:=G0.then (calleePart M heads.length) (fun a a' ha=>ask_goes hM.goes ha)
 generalize hC:frontOk M false false nb i x.1.at' y=C at G0 G1
 refine askInstr_11at M rm hM.next x y w h (by omega) i hi hx hk hl0 hl1 nb hnames _ (fun j w1=>match j with | 0=>Stage M w y.1 C w1 | 1=>Stage M w y.1 (thenX C (calleePart M heads.length)) w1 | 2=>MidK M w heads la y.1 C w1 | 3=>Stage M w y.1 (callK M heads la lr C) w1 | _=>False)
  (fun z w1 hz hf=>ends_error (by rw[← hC,hz];rfl) hf) ?_ ?_ ?_ ?_ ?_ ?_ ?_
 ·exact fun y' w1 hy hf hon=>⟨y',hC ▸ hy,hf,hon,frontOk_kept hy⟩
 ·intro j w1 hj
  match j,hj with
  | 0,hj=>exact Stage.lies hj
  | 1,hj=>exact Stage.lies hj
  | 2,hj=>obtain⟨_,_,_,_,_,hon,_⟩:=hj;exact⟨_,hon.1⟩
  | 3,hj=>exact Stage.lies hj
 ·intro j w1 hj
  match j,hj with
  | 0,hj=>exact Stage.drew hj
  | 1,hj=>exact Stage.drew hj
  | 2,hj=>obtain⟨y1,y2,e1,e2,hf,hon,hkk⟩:=hj;exact⟨y1,y2,e1,e2,hf.drew,hon.drew,hkk⟩
  | 3,hj=>exact Stage.drew hj
 ·exact fun w1 hw1=>stage_stepR (p:=calleePart M heads.length) (fun a a' ha=>askX_kept (by simp) ha) (fun z w' hz hf=>ends_error (by unfold callK;rw[hz];rfl) hf)
   (fun yy hyc hon hkp=>callee_at M rm hM.next yy w1 hon (by have:=G0 yy hyc;omega) 11 2 (by rw[hkp.op,hk];rfl) (by omega) rfl (by omega) (by omega) _ heads.length fc (by rw[hkp.funcs,hfu])) hw1
 ·rintro w1 ⟨y',hy',hf1,hon,hkp⟩
  have hN0:=callee_in hnf hy'
  obtain⟨N,hNe⟩:=Int.eq_ofNat_of_zero_le hN0.1
  have hNlt:N<heads.length:=by omega
  have hH1:=hH.fr hf1 hflt hSB N hNlt
  have hgd:heads.getD y'.1.n.toNat (0,0)=heads[N]:=by
   rw[hNe];simp[List.getD,hNlt]
  refine calleeParams_any 159 (heads[N].1) N fb fo heads.length fc y'.1 w1 hon.1 hNe hNlt (by rw[hkp.funcs,hfu]) hH1.1 _ ?_
  refine(list_K hM 159 (heads[N].1) (Or.inl rfl) y' w1.drew hon.drew (by have:=G1 y' hy';have:=hPR N hNlt;omega) la (by
   have e:y'.1.getL 159=y.1.args:=by unfold WS.getL;rw[if_pos rfl];exact hkp.args
   rw[e];exact ha.fr hf1.drew) hal (by have:=hH1.2.2.1;omega)).mono ?_
  rintro e w2 ⟨hf2,hres⟩
  have hf12:Fr M.SB w w2:=hf1.drew.trans hf2
  cases hl:listK M (heads[N].1) la y' with
  | error z =>
    rw[hl] at hres
    have hres:e = .panicked (viol z.1 z.2):=hres
    subst hres
    exact⟨Or.inr ⟨_,rfl⟩,Or.inr ⟨_,rfl,ends_error (by unfold callK;rw[hy'];simp only[thenX,hgd,hl]) hf12⟩⟩
  | ok y2 =>
    rw[hl] at hres
    obtain⟨rfl,hon2⟩:=hres
    have hk2:=listK_kept hl
    exact⟨Or.inl rfl,Or.inl ⟨rfl,y',y2,hy',by rw[hgd];exact hl,hf12,hon2,hkp.trans hk2.1,hk2.2,hN0⟩⟩
 ·rintro w1 ⟨y',y2,hy',hl,hf1,hon,hkp,hn2,hN0⟩
  obtain⟨N,hNe⟩:=Int.eq_ofNat_of_zero_le hN0.1
  have hNlt:N<heads.length:=by omega
  have hH1:=hH.fr hf1 hflt hSB N hNlt
  have hgd:heads.getD y'.1.n.toNat (0,0)=heads[N]:=by
   rw[hNe];simp[List.getD,hNlt]
  refine calleeResults_any 160 (heads[N].2) N fb fo heads.length fc y2.1 w1 hon.1 (hn2.trans hNe) hNlt (hkp.funcs.trans hfu) hH1.2.1 _ ?_
  refine(list_K hM 160 (heads[N].2) (Or.inr rfl) y2 w1.drew hon.drew (by have h1:=G1 y' hy';have h2:=hPR N hNlt;have h3:=listK_goes hM.goes hl;rw[hgd] at h3;omega) lr (by
   have e:y2.1.getL 160=y.1.rets:=by unfold WS.getL;rw[if_neg (by omega)];exact hkp.rets
   rw[e];exact hr.fr hf1.drew) hrl (by have:=hH1.2.2.2;omega)).mono ?_
  rintro e w2 ⟨hf2,hres⟩
  have hf12:Fr M.SB w w2:=hf1.drew.trans hf2
  cases hl2:listK M (heads[N].2) lr y2 with
  | error z =>
    rw[hl2] at hres
    have hres:e = .panicked (viol z.1 z.2):=hres
    subst hres
    exact⟨Or.inr ⟨_,rfl⟩,Or.inr ⟨_,rfl,ends_error (by unfold callK;rw[hy'];simp only[thenX,hl];rw[hgd];exact hl2) hf12⟩⟩
  | ok y3 =>
    rw[hl2] at hres
    obtain⟨rfl,hon3⟩:=hres
    exact⟨Or.inl rfl,Or.inl ⟨rfl,y3,by unfold callK;rw[hy'];simp only[thenX,hl];rw[hgd];exact hl2,hf12,hon3,hkp.trans (listK_kept hl2).1⟩⟩
 ·exact fun w1 hw1=>stage_end hw1
def instrK {b:Nat}(M:Mode b)(heads:List (Nat × Nat))(fR i:Nat)(la lr:List Int)(x:WS × M.σ):X (WS × M.σ) :=
 thenX (nextX M 154 1 x) fun y =>
  if 1≤x.1.op∧x.1.op≤17 then
   (if x.1.op=15 then retK M fR la (frontOk M true false (nbK 15 x.1 la.length lr.length) i x.1.at' y)
    else if x.1.op=11 then callK M heads la lr (frontOk M false false (nbK 11 x.1 la.length lr.length) i x.1.at' y)
    else partsX M x.1.op.toNat (frontOk M (x.1.op==13) (x.1.op==6) (nbK x.1.op.toNat x.1 la.length lr.length) i x.1.at' y))
  else .error (12,x.1.at')
theorem instr_K {b:Nat}{M:Mode b}{rm:M.σ→Nat}(hM:KM M rm)(s:WS)(st:M.σ)(w:World)(h:On M w (s,st))(hp:20≤rm st)(i:Nat)(hi:i≤4096)(hl0:0≤s.len)(hl1:s.len≤4096)
 (fR:Nat) (hR:s.fR=fR) (hRn:fR≤4) (la lr:List Int) (ha:IS M.SB w s.args la) (hr:IS M.SB w s.rets lr) (hal:la.length≤1000000000000000) (hrl:lr.length≤1000000000000000)
 (heads:List (Nat × Nat)) (fb fo fc:Nat) (hfu:s.funcs = .slice (some ⟨fb,fo,none⟩) heads.length fc) (hH:HeadsAt w fb fo heads) (hSB:¬ M.SB fb) (hflt:fb<w.heap.size) (hnf:heads.length≤65535) :
 Calls Tryd.prog 65 #[.pointer (some ⟨b,0,none⟩),.int .i64 i] w (Ends M w (instrK M heads fR i la lr (s,st))):=by
 obtain⟨st',hx,-⟩:=K_next hM 154 1 s st (by omega)
 have hX0:instrK M heads fR i la lr (s,st)=if 1≤s.op∧s.op≤17 then
  (if s.op=15 then retK M fR la (frontOk M true false (nbK 15 s la.length lr.length) i s.at' ({ s with at':=adv s.at' 1 },st'))
   else if s.op=11 then callK M heads la lr (frontOk M false false (nbK 11 s la.length lr.length) i s.at' ({ s with at':=adv s.at' 1 },st'))
   else partsX M s.op.toNat (frontOk M (s.op==13) (s.op==6) (nbK s.op.toNat s la.length lr.length) i s.at' ({ s with at':=adv s.at' 1 },st')))
  else .error (12,s.at'):=by unfold instrK;rw[hx];rfl
 by_cases hop:1≤s.op∧s.op≤17
 rotate_left
 ·refine(askInstr_noOpAt M rm hM.next (s,st) _ w h (by show 1≤rm st;omega) i hx hop).mono ?_
  rintro e w' ⟨rfl,hf⟩
  exact ends_error (z:=(12,s.at')) (by rw[hX0,if_neg hop]) hf
 rw[hX0,if_pos hop]
 have ha2:=ha
 have hr2:=hr
 obtain⟨aa,ca,ha0,-⟩:=ha2
 obtain⟨ra,cr,hr0,-⟩:=hr2
 obtain⟨k,hk⟩:=Int.eq_ofNat_of_zero_le (show 0≤s.op by omega)
 have hk17:k=1∨k=2∨k=3∨k=4∨k=5∨k=6∨k=7∨k=8∨k=9∨k=10∨k=11∨k=12∨k=13∨k=14∨k=15∨k=16∨k=17:=by omega
 clear hX0 hop
 rcases hk17 with rfl | rfl | rfl | rfl | rfl | rfl | rfl | rfl | rfl | rfl | rfl | rfl | rfl | rfl | rfl | rfl | rfl
 ·have eK:∀ (Y:WS × M.σ),partsX M s.op.toNat (frontOk M (s.op==13) (s.op==6) (nbK s.op.toNat s la.length lr.length) i s.at' Y)=partsX M 1 (frontOk M false false (nbK 1 s la.length lr.length) i s.at' Y):=fun Y=>by rw[hk];rfl
  rw[if_neg (by rw[hk];decide),if_neg (by rw[hk];decide),eK]
  exact instr_1at M rm hM.next hM.goes (s,st) ({ s with at':=adv s.at' 1 },st') w h (by show 4≤rm st;omega) i hi hx hk hl0 hl1 (nbK 1 s la.length lr.length) (fun w1 hl=>namesAll_g1 { s with at':=adv s.at' 1 } w1 hl aa ra la.length ca lr.length cr ha0 hr0)
 ·have eK:∀ (Y:WS × M.σ),partsX M s.op.toNat (frontOk M (s.op==13) (s.op==6) (nbK s.op.toNat s la.length lr.length) i s.at' Y)=partsX M 2 (frontOk M false false (nbK 2 s la.length lr.length) i s.at' Y):=fun Y=>by rw[hk];rfl
  rw[if_neg (by rw[hk];decide),if_neg (by rw[hk];decide),eK]
  exact instr_2at M rm hM.next hM.goes (s,st) ({ s with at':=adv s.at' 1 },st') w h (by show 4≤rm st;omega) i hi hx hk hl0 hl1 (nbK 2 s la.length lr.length) (fun w1 hl=>namesAll_g2 { s with at':=adv s.at' 1 } w1 hl aa ra la.length ca lr.length cr ha0 hr0)
 ·have eK:∀ (Y:WS × M.σ),partsX M s.op.toNat (frontOk M (s.op==13) (s.op==6) (nbK s.op.toNat s la.length lr.length) i s.at' Y)=partsX M 3 (frontOk M false false (nbK 3 s la.length lr.length) i s.at' Y):=fun Y=>by rw[hk];rfl
  rw[if_neg (by rw[hk];decide),if_neg (by rw[hk];decide),eK]
  exact instr_3at M rm hM.next hM.goes (s,st) ({ s with at':=adv s.at' 1 },st') w h (by show 4≤rm st;omega) i hi hx hk hl0 hl1 (nbK 3 s la.length lr.length) (fun w1 hl=>namesAll_g3 { s with at':=adv s.at' 1 } w1 hl aa ra la.length ca lr.length cr ha0 hr0)
 ·have eK:∀ (Y:WS × M.σ),partsX M s.op.toNat (frontOk M (s.op==13) (s.op==6) (nbK s.op.toNat s la.length lr.length) i s.at' Y)=partsX M 4 (frontOk M false false (nbK 4 s la.length lr.length) i s.at' Y):=fun Y=>by rw[hk];rfl
  rw[if_neg (by rw[hk];decide),if_neg (by rw[hk];decide),eK]
  exact instr_4at M rm hM.next hM.goes (s,st) ({ s with at':=adv s.at' 1 },st') w h (by show 4≤rm st;omega) i hi hx hk hl0 hl1 (nbK 4 s la.length lr.length) (fun w1 hl=>namesAll_g4 { s with at':=adv s.at' 1 } w1 hl aa ra la.length ca lr.length cr ha0 hr0)
 ·have eK:∀ (Y:WS × M.σ),partsX M s.op.toNat (frontOk M (s.op==13) (s.op==6) (nbK s.op.toNat s la.length lr.length) i s.at' Y)=partsX M 5 (frontOk M false false (nbK 5 s la.length lr.length) i s.at' Y):=fun Y=>by rw[hk];rfl
  rw[if_neg (by rw[hk];decide),if_neg (by rw[hk];decide),eK]
  exact instr_5at M rm hM.next hM.goes (s,st) ({ s with at':=adv s.at' 1 },st') w h (by show 4≤rm st;omega) i hi hx hk hl0 hl1 (nbK 5 s la.length lr.length) (fun w1 hl=>namesAll_g5 { s with at':=adv s.at' 1 } w1 hl aa ra la.length ca lr.length cr ha0 hr0)
 ·have eK:∀ (Y:WS × M.σ),partsX M s.op.toNat (frontOk M (s.op==13) (s.op==6) (nbK s.op.toNat s la.length lr.length) i s.at' Y)=partsX M 6 (frontOk M false true (nbK 6 s la.length lr.length) i s.at' Y):=fun Y=>by rw[hk];rfl
  rw[if_neg (by rw[hk];decide),if_neg (by rw[hk];decide),eK]
  exact instr_6at M rm hM.next hM.goes (s,st) ({ s with at':=adv s.at' 1 },st') w h (by show 4≤rm st;omega) i hi hx hk hl0 hl1 (nbK 6 s la.length lr.length) (fun w1 hl=>namesAll_g6 { s with at':=adv s.at' 1 } w1 hl aa ra la.length ca lr.length cr ha0 hr0)
 ·have eK:∀ (Y:WS × M.σ),partsX M s.op.toNat (frontOk M (s.op==13) (s.op==6) (nbK s.op.toNat s la.length lr.length) i s.at' Y)=partsX M 7 (frontOk M false false (nbK 7 s la.length lr.length) i s.at' Y):=fun Y=>by rw[hk];rfl
  rw[if_neg (by rw[hk];decide),if_neg (by rw[hk];decide),eK]
  exact instr_7at M rm hM.next hM.goes (s,st) ({ s with at':=adv s.at' 1 },st') w h (by show 4≤rm st;omega) i hi hx hk hl0 hl1 (nbK 7 s la.length lr.length) (fun w1 hl=>namesAll_g7 { s with at':=adv s.at' 1 } w1 hl aa ra la.length ca lr.length cr ha0 hr0)
 ·have eK:∀ (Y:WS × M.σ),partsX M s.op.toNat (frontOk M (s.op==13) (s.op==6) (nbK s.op.toNat s la.length lr.length) i s.at' Y)=partsX M 8 (frontOk M false false (nbK 8 s la.length lr.length) i s.at' Y):=fun Y=>by rw[hk];rfl
  rw[if_neg (by rw[hk];decide),if_neg (by rw[hk];decide),eK]
  exact instr_8at M rm hM.next hM.goes (s,st) ({ s with at':=adv s.at' 1 },st') w h (by show 4≤rm st;omega) i hi hx hk hl0 hl1 (nbK 8 s la.length lr.length) (fun w1 hl=>namesAll_g8 { s with at':=adv s.at' 1 } w1 hl aa ra la.length ca lr.length cr ha0 hr0)
 ·have eK:∀ (Y:WS × M.σ),partsX M s.op.toNat (frontOk M (s.op==13) (s.op==6) (nbK s.op.toNat s la.length lr.length) i s.at' Y)=partsX M 9 (frontOk M false false (nbK 9 s la.length lr.length) i s.at' Y):=fun Y=>by rw[hk];rfl
  rw[if_neg (by rw[hk];decide),if_neg (by rw[hk];decide),eK]
  exact instr_9at M rm hM.next hM.goes (s,st) ({ s with at':=adv s.at' 1 },st') w h (by show 4≤rm st;omega) i hi hx hk hl0 hl1 (nbK 9 s la.length lr.length) (fun w1 hl=>namesAll_g9 { s with at':=adv s.at' 1 } w1 hl aa ra la.length ca lr.length cr ha0 hr0)
 ·have eK:∀ (Y:WS × M.σ),partsX M s.op.toNat (frontOk M (s.op==13) (s.op==6) (nbK s.op.toNat s la.length lr.length) i s.at' Y)=partsX M 10 (frontOk M false false (nbK 10 s la.length lr.length) i s.at' Y):=fun Y=>by rw[hk];rfl
  rw[if_neg (by rw[hk];decide),if_neg (by rw[hk];decide),eK]
  exact instr_10at M rm hM.next hM.goes (s,st) ({ s with at':=adv s.at' 1 },st') w h (by show 4≤rm st;omega) i hi hx hk hl0 hl1 (nbK 10 s la.length lr.length) (fun w1 hl=>namesAll_g10 { s with at':=adv s.at' 1 } w1 hl aa ra la.length ca lr.length cr ha0 hr0)
 ·rw[if_neg (by rw[hk];decide),if_pos (by rw[hk];rfl)]
  exact instr_11K hM (s,st) ({ s with at':=adv s.at' 1 },st') w h hp i hi hx hk hl0 hl1 (nbK 11 s la.length lr.length) (fun w1 hl=>namesAll_g11 { s with at':=adv s.at' 1 } w1 hl aa ra la.length ca lr.length cr ha0 hr0) la lr ha hr hal hrl heads fb fo fc hfu hH hSB hflt hnf
 ·have eK:∀ (Y:WS × M.σ),partsX M s.op.toNat (frontOk M (s.op==13) (s.op==6) (nbK s.op.toNat s la.length lr.length) i s.at' Y)=partsX M 12 (frontOk M false false (nbK 12 s la.length lr.length) i s.at' Y):=fun Y=>by rw[hk];rfl
  rw[if_neg (by rw[hk];decide),if_neg (by rw[hk];decide),eK]
  exact instr_12at M rm hM.next hM.goes (s,st) ({ s with at':=adv s.at' 1 },st') w h (by show 4≤rm st;omega) i hi hx hk hl0 hl1 (nbK 12 s la.length lr.length) (fun w1 hl=>namesAll_g12 { s with at':=adv s.at' 1 } w1 hl aa ra la.length ca lr.length cr ha0 hr0)
 ·have eK:∀ (Y:WS × M.σ),partsX M s.op.toNat (frontOk M (s.op==13) (s.op==6) (nbK s.op.toNat s la.length lr.length) i s.at' Y)=partsX M 13 (frontOk M true false (nbK 13 s la.length lr.length) i s.at' Y):=fun Y=>by rw[hk];rfl
  rw[if_neg (by rw[hk];decide),if_neg (by rw[hk];decide),eK]
  exact instr_13at M rm hM.next hM.goes (s,st) ({ s with at':=adv s.at' 1 },st') w h (by show 4≤rm st;omega) i hi hx hk hl0 hl1 (nbK 13 s la.length lr.length) (fun w1 hl=>namesAll_g13 { s with at':=adv s.at' 1 } w1 hl aa ra la.length ca lr.length cr ha0 hr0)
 ·have eK:∀ (Y:WS × M.σ),partsX M s.op.toNat (frontOk M (s.op==13) (s.op==6) (nbK s.op.toNat s la.length lr.length) i s.at' Y)=partsX M 14 (frontOk M false false (nbK 14 s la.length lr.length) i s.at' Y):=fun Y=>by rw[hk];rfl
  rw[if_neg (by rw[hk];decide),if_neg (by rw[hk];decide),eK]
  exact instr_14at M rm hM.next hM.goes (s,st) ({ s with at':=adv s.at' 1 },st') w h (by show 4≤rm st;omega) i hi hx hk hl0 hl1 (nbK 14 s la.length lr.length) (fun w1 hl=>namesAll_g14 { s with at':=adv s.at' 1 } w1 hl aa ra la.length ca lr.length cr ha0 hr0)
 ·rw[if_pos (by rw[hk];rfl)]
  exact instr_15K hM (s,st) ({ s with at':=adv s.at' 1 },st') w h hp i hi hx hk hl0 hl1 (nbK 15 s la.length lr.length) (fun w1 hl=>namesAll_g15 { s with at':=adv s.at' 1 } w1 hl aa ra la.length ca lr.length cr ha0 hr0) la ha hal fR hR hRn
 ·have eK:∀ (Y:WS × M.σ),partsX M s.op.toNat (frontOk M (s.op==13) (s.op==6) (nbK s.op.toNat s la.length lr.length) i s.at' Y)=partsX M 16 (frontOk M false false (nbK 16 s la.length lr.length) i s.at' Y):=fun Y=>by rw[hk];rfl
  rw[if_neg (by rw[hk];decide),if_neg (by rw[hk];decide),eK]
  exact instr_16at M rm hM.next hM.goes (s,st) ({ s with at':=adv s.at' 1 },st') w h (by show 4≤rm st;omega) i hi hx hk hl0 hl1 (nbK 16 s la.length lr.length) (fun w1 hl=>namesAll_g16 { s with at':=adv s.at' 1 } w1 hl aa ra la.length ca lr.length cr ha0 hr0)
 ·have eK:∀ (Y:WS × M.σ),partsX M s.op.toNat (frontOk M (s.op==13) (s.op==6) (nbK s.op.toNat s la.length lr.length) i s.at' Y)=partsX M 17 (frontOk M false false (nbK 17 s la.length lr.length) i s.at' Y):=fun Y=>by rw[hk];rfl
  rw[if_neg (by rw[hk];decide),if_neg (by rw[hk];decide),eK]
  exact instr_17at M rm hM.next hM.goes (s,st) ({ s with at':=adv s.at' 1 },st') w h (by show 4≤rm st;omega) i hi hx hk hl0 hl1 (nbK 17 s la.length lr.length) (fun w1 hl=>namesAll_g17 { s with at':=adv s.at' 1 } w1 hl aa ra la.length ca lr.length cr ha0 hr0)
theorem parts_goes {b:Nat}{M:Mode b}{rm:M.σ→Nat}(hR:RoomGoes M rm){n j:Nat}(op:Nat){c:X (WS × M.σ)}(h:Goes M rm n j c):Goes M rm n (j+3) (partsX M op c):=by
 have up:∀ {j':Nat} {c':X (WS × M.σ)},j'≤j+3→Goes M rm n j' c'→Goes M rm n (j+3) c':=fun hj hc y hy=>by have:=hc y hy;omega
 have hv:∀ o {j':Nat} {c':X (WS × M.σ)},Goes M rm n j' c'→Goes M rm n (j'+1) (thenX c' (varPart M o)):=fun o _ _ hc=>hc.then _ (fun a a' ha=>ask_goes hR ha)
 have hn:∀ {j':Nat} {c':X (WS × M.σ)},Goes M rm n j' c'→Goes M rm n (j'+1) (thenX c' (intPart M)):=fun hc=>hc.then _ (fun a a' ha=>hR _ _ _ _ ha)
 have hf:∀ {j':Nat} {c':X (WS × M.σ)},Goes M rm n j' c'→Goes M rm n (j'+1) (thenX c' (fieldsPart M)):=fun hc=>hc.then _ (fun a a' ha=>ask_goes hR ha)
 have hd:∀ {j':Nat} {c':X (WS × M.σ)},Goes M rm n j' c'→Goes M rm n (j'+1) (thenX c' (fieldPart M)):=fun hc=>hc.then _ (fun a a' ha=>ask_goes hR ha)
 have hg:∀ {j':Nat} {c':X (WS × M.σ)},Goes M rm n j' c'→Goes M rm n (j'+1) (thenX c' (globalPart M)):=fun hc=>hc.then _ (fun a a' ha=>ask_goes hR ha)
 have ht:∀ {j':Nat} {c':X (WS × M.σ)},Goes M rm n j' c'→Goes M rm n (j'+1) (thenX c' (targetPart M)):=fun hc=>hc.then _ (fun a a' ha=>ask_goes hR ha)
 match op with
 | 1=>exact up (by omega) (hn (hv 155 h))
 | 2=>exact up (by omega) (hv 156 (hv 155 h))
 | 3=>exact up (by omega) (hv 157 (hv 156 (hv 155 h)))
 | 4=>exact up (by omega) (hv 157 (hv 156 (hv 155 h)))
 | 5=>exact up (by omega) (hv 156 (hv 155 h))
 | 6=>exact up (by omega) (hf (hv 155 h))
 | 7=>exact up (by omega) (hd (hv 156 (hv 155 h)))
 | 8=>exact up (by omega) (hd (hv 156 (hv 155 h)))
 | 9=>exact up (by omega) (hg (hv 155 h))
 | 10=>exact up (by omega) (hg (hv 156 h))
 | 12=>exact up (by omega) (hv 156 h)
 | 13=>exact up (by omega) (ht h)
 | 14=>exact up (by omega) (ht (hv 156 h))
 | 16=>exact up (by omega) (hv 155 h)
 | 17=>exact up (by omega) (hv 157 (hv 156 (hv 155 h)))
 | 0=>exact up (by omega) h
 | 11=>exact up (by omega) h
 | 15=>exact up (by omega) h
 | m+18=>exact up (by omega) h
theorem instrK_goes {b:Nat}{M:Mode b}{rm:M.σ→Nat}(hR:RoomGoes M rm){heads:List (Nat × Nat)}(hPR:∀ j (h:j<heads.length),heads[j].1≤8∧heads[j].2≤4){fR i:Nat}(hf:fR≤4){la lr:List Int}{x y:WS × M.σ}(h:instrK M heads fR i la lr x = .ok y):rm x.2≤rm y.2+20:=by
 have hgd:∀ k:Nat,(heads.getD k (0,0)).1≤8∧(heads.getD k (0,0)).2≤4:=fun k=>by
  by_cases hk:k<heads.length
  ·have e:heads.getD k (0,0)=heads[k]:=by simp[List.getD,hk]
   rw[e];exact hPR k hk
  ·have e:heads.getD k (0,0)=(0,0):=by simp[List.getD,Nat.le_of_not_lt hk]
   rw[e];exact⟨Nat.zero_le _,Nat.zero_le _⟩
 unfold instrK at h
 cases hx:nextX M 154 1 x with
 | error z=>rw[hx] at h;cases h
 | ok x1 =>
   rw[hx] at h
   simp only[thenX] at h
   split at h
   ·split at h
    ·have G:=front_goes hR hx true false (nbK 15 x.1 la.length lr.length) i x.1.at'
     unfold retK at h
     cases hc:frontOk M true false (nbK 15 x.1 la.length lr.length) i x.1.at' x1 with
     | error z=>rw[hc] at h;cases h
     | ok x2 =>
       rw[hc] at h
       have h1:=G x2 hc
       have h2:=listK_goes hR (x:=x2) (y:=y) h
       omega
    ·split at h
     ·have G:=(front_goes hR hx false false (nbK 11 x.1 la.length lr.length) i x.1.at').then (calleePart M heads.length) (fun a a' ha=>ask_goes hR ha)
      unfold callK at h
      cases hc:thenX (frontOk M false false (nbK 11 x.1 la.length lr.length) i x.1.at' x1) (calleePart M heads.length) with
      | error z=>rw[hc] at h;cases h
      | ok x2 =>
        rw[hc] at h
        have h1:=G x2 hc
        simp only[thenX] at h
        cases hl:listK M ((heads.getD x2.1.n.toNat (0,0)).1) la x2 with
        | error z=>rw[hl] at h;cases h
        | ok x3 =>
          rw[hl] at h
          have h2:=listK_goes hR hl
          have h3:=listK_goes hR (x:=x3) (y:=y) h
          have h4:=hgd x2.1.n.toNat
          omega
     ·have G:=parts_goes hR x.1.op.toNat (front_goes hR hx (x.1.op==13) (x.1.op==6) (nbK x.1.op.toNat x.1 la.length lr.length) i x.1.at')
      have h1:=G y h
      omega
   ·cases h
end Go.Proofs.YtingenonbkencaaDoor
