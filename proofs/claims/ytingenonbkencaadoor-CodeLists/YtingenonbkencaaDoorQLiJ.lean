import Derived.Test.YtingenonbkencaaDoorQN5J
set_option linter.unusedVariables false
set_option linter.unusedSimpArgs false
namespace Go.Proofs.YtingenonbkencaaDoor
open Go.RowKit (wrap32 wrap64)
set_option maxRecDepth 100000
set_option maxHeartbeats 1000000
theorem flat_get {α:Type}(row:α→List Value)(sz:Nat)(hr:∀ x,(row x).length=sz):∀ (L:List α) (i o:Nat) (h:i<L.length),o<sz→(L.flatMap row)[i*sz+o]?=(row L[i])[o]?
 | [],i,o,h,_=>absurd h (by simp)
 | x::L,0,o,_,ho=>by
   rw[Nat.zero_mul,Nat.zero_add,List.flatMap_cons,List.getElem?_append_left (by rw[hr];exact ho)]
   rfl
 | x::L,i+1,o,h,ho=>by
   rw[List.flatMap_cons,List.getElem?_append_right (by rw[hr,Nat.add_mul];omega),hr,show(i+1)*sz+o-sz=i*sz+o by rw[Nat.add_mul];omega]
   exact flat_get row sz hr L i o (by simpa using h) ho
theorem own_cell {w:World}{B e sz n:Nat}{v:Value}{xs:List Value}(h:w.ownsRow B e sz v n xs){j:Nat}{u:Value}(hj:xs[j]?=some u):∃ g cap,v = .slice (some ⟨g,0,none⟩) n cap∧g<w.heap.size∧w.cell? ⟨g,j,none⟩=some u:=by
 obtain⟨h0,h1⟩:=h
 have hjl:=(List.getElem?_eq_some_iff.1 hj).1
 rcases h1 with⟨-,e2⟩|⟨g,cap,cur,rfl,k1,k2,k3,k4,k5,k6⟩
 ·subst e2;simp at h0;subst h0;simp at hjl
 ·refine⟨g,cap,rfl,heap_lt k2,?_⟩
  rw[cell_of k2,← Array.getElem?_toList]
  rw[← k6] at hj
  rw[List.getElem?_take_of_lt (by omega)] at hj
  exact hj
theorem own_apart {w:World}{B B' e e' sz sz' n m:Nat}{v u:Value}{xs ys:List Value}(h:w.ownsRow B e sz v n xs)(k:w.ownsRow B' e' sz' u m ys)(he:e≠e'):∀ j,u.ownBlock=some j→v.ownBlock≠some j:=by
 intro j hu hv
 rcases h.2 with⟨rfl,-⟩|⟨g,cap,cur,rfl,-,h2,-⟩
 ·cases hv
 ·rcases k.2 with⟨rfl,-⟩|⟨g',cap',cur',rfl,-,k2,-⟩
  ·cases hu
  ·cases hv
   cases hu
   rw[h2] at k2
   cases k2
   exact he rfl
abbrev CI := PI × Value × Value
abbrev rowI (x:CI):List Value:=iR x.1 x.2
structure CO (w:World)(B:Nat)(v:Value)(L:List CI):Prop where
 row:w.ownsRow B 71 7 v L.length (L.flatMap rowI)
 ints:∀ x∈L,IOwn w B x.2.1 x.1.args∧IOwn w B x.2.2 x.1.rets
theorem CO.ca {w:World}{B:Nat}{v:Value}{L:List CI}(h:CO w B v L):CA w v (L.map (·.1)):=by
 rcases h.row.2 with⟨h2,h3⟩|⟨g,cap,cur,e,-⟩
 ·refine⟨none,0,by rw[h2,List.length_map,h3],fun hne=>?_⟩
  exact absurd (by rw[List.eq_nil_of_length_eq_zero h3];rfl) hne
 ·refine⟨some ⟨g,0,none⟩,cap,by rw[e,List.length_map],fun _=>⟨g,0,rfl,(World.ownsRow.lt h.row g (by rw[e];rfl)).2,fun j hj=>?_⟩⟩
  have hj':j<L.length:=by simpa using hj
  have pc:∀ o u,o<7→(rowI L[j])[o]?=some u→w.cell? ⟨g,j*7+o,none⟩=some u:=fun o u ho hu=>by
   obtain⟨g',cap',e',-,hc⟩:=own_cell h.row (j:=j*7+o) (u:=u) (by rw[flat_get rowI 7 (fun _=>rfl) L j o hj' ho];exact hu)
   rw[e] at e'
   cases e'
   exact hc
  have hi:=h.ints L[j] (List.getElem_mem hj')
  rw[Nat.zero_add]
  simp only[List.getElem_map]
  exact⟨L[j].2.1,L[j].2.2,pc 0 _ (by omega) rfl,pc 1 _ (by omega) rfl,pc 2 _ (by omega) rfl,pc 3 _ (by omega) rfl,pc 4 _ (by omega) rfl,pc 5 _ (by omega) rfl,pc 6 _ (by omega) rfl,hi.1.ia,hi.2.ia⟩
theorem CO.fr {S:Nat→Prop}{w w':World}{B:Nat}{v:Value}{L:List CI}(h:CO w B v L)(f:Fr S w w')(h1:∀ k,v.ownBlock=some k→¬ S k)(h2:∀ x∈L,∀ k,(x.2.1.ownBlock=some k∨x.2.2.ownBlock=some k)→¬ S k):CO w' B v L :=
 ⟨ownsRow_frL h.row f h1,fun x hx=>⟨(h.ints x hx).1.fr f (fun k e=>h2 x hx k (Or.inl e)),(h.ints x hx).2.fr f (fun k e=>h2 x hx k (Or.inr e))⟩⟩
theorem CO.stay {w w':World}{B:Nat}{v:Value}{L:List CI}(h:CO w B v L)(f:Fr (fun _=>False) w w'):CO w' B v L:=h.fr f (fun _ _ e=>e) (fun _ _ _ _ e=>e)
theorem CO.mono {w:World}{B B':Nat}{v:Value}{L:List CI}(h:CO w B v L)(hB:B'≤B):CO w B' v L:=⟨World.ownsRow.mono h.row hB,fun x hx=>⟨(h.ints x hx).1.mono hB,(h.ints x hx).2.mono hB⟩⟩
theorem copyInstr_any (c:PI)(x y:Value)(w:World)(h1:IA w x c.args)(h2:IA w y c.rets)(hla:c.args.length≤17592186043904)(hlr:c.rets.length≤17592186043904) :
 Calls Tryd.prog 101 #[.agg #[vI c.op,vI c.r,vI c.s,vI c.t,vI c.n,x,y]] w fun e w'=>∃ x' y',e = .returned (.agg #[vI c.op,vI c.r,vI c.s,vI c.t,vI c.n,x',y'])∧IOwn w' w.heap.size x' c.args∧IOwn w' w.heap.size y' c.rets∧Fr (fun _=>False) w w':=by
 obtain⟨a1,b1,e1,-⟩:=id h1
 obtain⟨a2,b2,e2,-⟩:=id h2
 obtain⟨wa,hwa⟩:∃ wa,wa=(w.alloc (.cells #[vI c.op,vI c.r,vI c.s,vI c.t,vI c.n,x,y] 71)).alloc (.cells #[vI 0,vI 0,vI 0,vI 0,vI 0,.slice none 0 0,.slice none 0 0] 71):=⟨_,rfl⟩
 have hF:Fr (fun _=>False) w wa:=by rw[hwa];exact Fr.alloc (Fr.alloc (Fr.refl _ w) _) _
 have hsz:wa.heap.size=w.heap.size+2:=by rw[hwa];simp
 have b1':wa.heap[w.heap.size]?=some (.cells #[vI c.op,vI c.r,vI c.s,vI c.t,vI c.n,x,y] 71):=by
  rw[hwa,Go.RowKit.Below.heap_alloc _ _ _ (by simp)];exact heap_new w _
 have b2':wa.heap[w.heap.size+1]?=some (.cells #[vI 0,vI 0,vI 0,vI 0,vI 0,.slice none 0 0,.slice none 0 0] 71):=by
  rw[hwa,show w.heap.size+1=(w.alloc (.cells #[vI c.op,vI c.r,vI c.s,vI c.t,vI c.n,x,y] 71)).heap.size by simp];exact heap_new _ _
 have HWA:Hd (wa=(w.alloc (.cells #[vI c.op,vI c.r,vI c.s,vI c.t,vI c.n,x,y] 71)).alloc (.cells #[vI 0,vI 0,vI 0,vI 0,vI 0,.slice none 0 0,.slice none 0 0] 71)):=hwa
 have G1:Hd (IA wa x c.args):=h1.stay hF
 have G2:Hd (IA w y c.rets):=h2
 have HF:Hd (Fr (fun _=>False) w wa):=hF
 obtain⟨H,hH⟩:∃ H,H=w.heap.size:=⟨_,rfl⟩
 have HH:Hd (H=w.heap.size):=hH
 have HSZ:Hd (wa.heap.size=H+2):=by rw[hH];exact hsz
 rw[← hH] at b1' b2'
 have B1:Hd _:=b1'
 have B2:Hd _:=b2'
 have p5:wa.cell? ⟨H,5,none⟩=some x:=by rw[cell_of b1'];rfl
 subst e1;subst e2
 clear h1 h2 hF hsz hwa hH b1' b2'
 go_enter Tryd.func101,Tryd.ntmps101
 go_upto_region 1 with fail
 rw[← HWA.out,← HH.out]
 clear HWA
 go_wp2_with fail
 refine(show Calls Tryd.prog 104 #[.slice a1 c.args.length b1] wa _ from copyInts_any _ c.args wa G1.out hla).mono ?_
 rintro e w2 ⟨x',rfl,hx',hF2⟩
 have hxs:∀ k,x'.ownBlock=some k→H+2≤k:=fun k e=>by have:=(hx'.ge k e).1;have:=HSZ.out;omega
 have B1':w2.heap[H]?=some (.cells #[vI c.op,vI c.r,vI c.s,vI c.t,vI c.n,.slice a1 c.args.length b1,.slice a2 c.rets.length b2] 71):=(hF2.block H (heap_lt B1.out) (fun e=>e)).trans B1.out
 have B2':w2.heap[H+1]?=some (.cells #[vI 0,vI 0,vI 0,vI 0,vI 0,.slice none 0 0,.slice none 0 0] 71):=(hF2.block (H+1) (heap_lt B2.out) (fun e=>e)).trans B2.out
 obtain⟨xa,xc,exa⟩:∃ xa xc,x' = .slice xa c.args.length xc:=by obtain⟨xa,xc,e,-⟩:=hx'.ia;exact⟨xa,xc,e⟩
 have q5:w2.cell? ⟨H,5,none⟩=some (.slice a1 c.args.length b1):=by rw[cell_of B1'];rfl
 have z5:=frozen_of B1' 5
 have fs2:=setCell_fr w2 H 5 x'
 have C1:Hd ((w2.setCell ⟨H,5,none⟩ x').heap[H]?=some (.cells #[vI c.op,vI c.r,vI c.s,vI c.t,vI c.n,x',.slice a2 c.rets.length b2] 71)):=set_of B1' 5 x'
 have C2:Hd ((w2.setCell ⟨H,5,none⟩ x').heap[H+1]?=some (.cells #[vI 0,vI 0,vI 0,vI 0,vI 0,.slice none 0 0,.slice none 0 0] 71)):=(fs2.block (H+1) (heap_lt B2') (by omega)).trans B2'
 have HX:Hd (IOwn (w2.setCell ⟨H,5,none⟩ x') (H+2) x' c.args):=(hx'.mono (by rw[HSZ.out];exact Nat.le_refl _)).fr fs2 (fun k e e2=>by have:=hxs k e;omega)
 have HF2:Hd (Fr (fun _=>False) w (w2.setCell ⟨H,5,none⟩ x')):=(HF.out.trans hF2).then fs2 (fun j hj e=>by have:=HH.out;omega)
 have HZ2:Hd (H+2≤(w2.setCell ⟨H,5,none⟩ x').heap.size):=by have:=hF2.size;have:=HSZ.out;have:=fs2.size;unfold Hd;omega
 have G2':Hd (IA (w2.setCell ⟨H,5,none⟩ x') (.slice a2 c.rets.length b2) c.rets):=IA.stay G2.out HF2.out
 subst exa
 clear hx' hF2 hxs fs2 B1' B2' p5 B1 B2 G1 G2 HF HSZ
 go_upto_region 2 with fail
 clear q5 z5
 generalize w2.setCell ⟨H,5,none⟩ (.slice xa c.args.length xc)=w3 at *
 have q6:w3.cell? ⟨H,6,none⟩=some (.slice a2 c.rets.length b2):=by rw[cell_of C1.out];rfl
 go_wp2_with fail
 refine(show Calls Tryd.prog 104 #[.slice a2 c.rets.length b2] w3 _ from copyInts_any _ c.rets w3 G2'.out hlr).mono ?_
 rintro e w4 ⟨y',rfl,hy',hF4⟩
 have hys:∀ k,y'.ownBlock=some k→H+2≤k:=fun k e=>by have:=(hy'.ge k e).1;have:=HZ2.out;omega
 have B1':w4.heap[H]?=some (.cells #[vI c.op,vI c.r,vI c.s,vI c.t,vI c.n,.slice xa c.args.length xc,.slice a2 c.rets.length b2] 71):=(hF4.block H (heap_lt C1.out) (fun e=>e)).trans C1.out
 have B2':w4.heap[H+1]?=some (.cells #[vI 0,vI 0,vI 0,vI 0,vI 0,.slice none 0 0,.slice none 0 0] 71):=(hF4.block (H+1) (heap_lt C2.out) (fun e=>e)).trans C2.out
 obtain⟨ya,yc,eya⟩:∃ ya yc,y' = .slice ya c.rets.length yc:=by obtain⟨ya,yc,e,-⟩:=hy'.ia;exact⟨ya,yc,e⟩
 have fs4:=setCell_fr w4 H 6 y'
 have D1:(w4.setCell ⟨H,6,none⟩ y').heap[H]?=some (.cells #[vI c.op,vI c.r,vI c.s,vI c.t,vI c.n,.slice xa c.args.length xc,y'] 71):=set_of B1' 6 y'
 have D2:(w4.setCell ⟨H,6,none⟩ y').heap[H+1]?=some (.cells #[vI 0,vI 0,vI 0,vI 0,vI 0,.slice none 0 0,.slice none 0 0] 71):=(fs4.block (H+1) (heap_lt B2') (by omega)).trans B2'
 have HX4:IOwn (w4.setCell ⟨H,6,none⟩ y') (H+2) (.slice xa c.args.length xc) c.args:=(HX.out.fr hF4 (fun _ _ e=>e)).fr fs4 (fun k e e2=>by have:=(HX.out.ge k e).1;omega)
 have HY4:IOwn (w4.setCell ⟨H,6,none⟩ y') (H+2) y' c.rets:=(hy'.mono HZ2.out).fr fs4 (fun k e e2=>by have:=hys k e;omega)
 have HF4:Fr (fun _=>False) w (w4.setCell ⟨H,6,none⟩ y'):=(HF2.out.trans hF4).then fs4 (fun j hj e=>by have:=HH.out;omega)
 have r6:w4.cell? ⟨H,6,none⟩=some (.slice a2 c.rets.length b2):=by rw[cell_of B1'];rfl
 have z6:=frozen_of B1' 6
 subst eya
 have J1:Hd _:=D1
 have J2:Hd _:=D2
 have JX:Hd _:=HX4
 have JY:Hd _:=HY4
 have JF:Hd _:=HF4
 clear hy' hF4 hys fs4 B1' B2' D1 D2 HX4 HY4 HF4 C1 C2 HX HF2 HZ2 G2'
 go_upto_region 3 with fail
 clear q6 r6 z6
 generalize w4.setCell ⟨H,6,none⟩ (.slice ya c.rets.length yc)=w5 at *
 have c0:w5.cell? ⟨H,0,none⟩=some (vI c.op):=by rw[cell_of J1.out];rfl
 have c1:w5.cell? ⟨H,1,none⟩=some (vI c.r):=by rw[cell_of J1.out];rfl
 have c2:w5.cell? ⟨H,2,none⟩=some (vI c.s):=by rw[cell_of J1.out];rfl
 have c3:w5.cell? ⟨H,3,none⟩=some (vI c.t):=by rw[cell_of J1.out];rfl
 have c4:w5.cell? ⟨H,4,none⟩=some (vI c.n):=by rw[cell_of J1.out];rfl
 have c5:w5.cell? ⟨H,5,none⟩=some (.slice xa c.args.length xc):=by rw[cell_of J1.out];rfl
 have c6:w5.cell? ⟨H,6,none⟩=some (.slice ya c.rets.length yc):=by rw[cell_of J1.out];rfl
 have d0:w5.cell? ⟨H+1,0,none⟩=some (vI 0):=by rw[cell_of J2.out];rfl
 have d1:w5.cell? ⟨H+1,1,none⟩=some (vI 0):=by rw[cell_of J2.out];rfl
 have d2:w5.cell? ⟨H+1,2,none⟩=some (vI 0):=by rw[cell_of J2.out];rfl
 have d3:w5.cell? ⟨H+1,3,none⟩=some (vI 0):=by rw[cell_of J2.out];rfl
 have d4:w5.cell? ⟨H+1,4,none⟩=some (vI 0):=by rw[cell_of J2.out];rfl
 have d5:w5.cell? ⟨H+1,5,none⟩=some (.slice none 0 0):=by rw[cell_of J2.out];rfl
 have d6:w5.cell? ⟨H+1,6,none⟩=some (.slice none 0 0):=by rw[cell_of J2.out];rfl
 have y0:=frozen_of J2.out 0
 have y1:=frozen_of J2.out 1
 have y2:=frozen_of J2.out 2
 have y3:=frozen_of J2.out 3
 have y4:=frozen_of J2.out 4
 have y5:=frozen_of J2.out 5
 have y6:=frozen_of J2.out 6
 have HL:Hd ((sev7 w5 (H+1) 0 (iR c (.slice xa c.args.length xc,.slice ya c.rets.length yc))).heap[H+1]?=some (.cells #[vI c.op,vI c.r,vI c.s,vI c.t,vI c.n,.slice xa c.args.length xc,.slice ya c.rets.length yc] 71)) :=
  set_of (set_of (set_of (set_of (set_of (set_of (set_of J2.out 0 _) 1 _) 2 _) 3 _) 4 _) 5 _) 6 _
 have fs6:=sev7_fr w5 (H+1) 0 (iR c (.slice xa c.args.length xc,.slice ya c.rets.length yc))
 have KX:Hd (IOwn (sev7 w5 (H+1) 0 (iR c (.slice xa c.args.length xc,.slice ya c.rets.length yc))) w.heap.size (.slice xa c.args.length xc) c.args):=(IOwn.fr JX.out fs6 (fun k e e2=>by have:=(IOwn.ge JX.out k e).1;omega)).mono (by have:=HH.out;omega)
 have KY:Hd (IOwn (sev7 w5 (H+1) 0 (iR c (.slice xa c.args.length xc,.slice ya c.rets.length yc))) w.heap.size (.slice ya c.rets.length yc) c.rets):=(IOwn.fr JY.out fs6 (fun k e e2=>by have:=(IOwn.ge JY.out k e).1;omega)).mono (by have:=HH.out;omega)
 have KF:Hd (Fr (fun _=>False) w (sev7 w5 (H+1) 0 (iR c (.slice xa c.args.length xc,.slice ya c.rets.length yc)))):=Fr.then JF.out fs6 (fun j hj e=>by have:=HH.out;omega)
 clear fs6
 go_wp2_with fail
 change bodyPost _ _ _ _ _ (sev7 w5 (H+1) 0 (iR c (.slice xa c.args.length xc,.slice ya c.rets.length yc)))
 generalize sev7 w5 (H+1) 0 (iR c (.slice xa c.args.length xc,.slice ya c.rets.length yc))=wz at *
 have e0:wz.cell? ⟨H+1,0,none⟩=some (vI c.op):=by rw[cell_of HL.out];rfl
 have e1:wz.cell? ⟨H+1,1,none⟩=some (vI c.r):=by rw[cell_of HL.out];rfl
 have e2:wz.cell? ⟨H+1,2,none⟩=some (vI c.s):=by rw[cell_of HL.out];rfl
 have e3:wz.cell? ⟨H+1,3,none⟩=some (vI c.t):=by rw[cell_of HL.out];rfl
 have e4:wz.cell? ⟨H+1,4,none⟩=some (vI c.n):=by rw[cell_of HL.out];rfl
 have e5:wz.cell? ⟨H+1,5,none⟩=some (.slice xa c.args.length xc):=by rw[cell_of HL.out];rfl
 have e6:wz.cell? ⟨H+1,6,none⟩=some (.slice ya c.rets.length yc):=by rw[cell_of HL.out];rfl
 refine bodyPost_ret (v:=.agg #[vI c.op,vI c.r,vI c.s,vI c.t,vI c.n,.slice xa c.args.length xc,.slice ya c.rets.length yc]) ?_ rfl ⟨_,_,rfl,KX.out,KY.out,KF.out⟩
 rw[results_cell (p:=2) (ty:=71) Tryd.results101]
 simp[go_sem,e0,e1,e2,e3,e4,e5,e6]
set_option maxRecDepth 100000
set_option maxHeartbeats 2000000
theorem copyCode_any (v:Value)(cs:List PI)(w:World)(hl:CA w v cs)(hn:FineC cs) :
 Calls Tryd.prog 94 #[v] w fun e w'=>∃ v' L,e = .returned v'∧CO w' w.heap.size v' L∧L.map (·.1)=cs∧Fr (fun _=>False) w w':=by
 obtain⟨ea,ec,rfl,hein⟩:=hl
 have HE:Hd _:=hein
 have HFI:Hd (FineC cs):=hn
 have hz:=hn.1
 clear hein hn
 obtain⟨i7,hi7,hz7,hs7,hb7⟩:=info_parts (P:=Tryd.prog) (e:=71) (z:=.agg #[vI 0,vI 0,vI 0,vI 0,vI 0,.slice none 0 0,.slice none 0 0]) (size:=7) (bytes:=88) (by kernel_rfl)
 go_enter Tryd.func94,Tryd.ntmps94
 go_wp2_with fail
 go_loopw [3,4] (fun mv v wr=>∃ (k:Nat) (L:List CI),v = .int .i64 k∧k≤cs.length∧Hd (CO wr w.heap.size mv L)∧Hd (L.map (·.1)=cs.take k)∧Hd (Fr (fun _=>False) w wr)) (fun _ v _=>match v with | .int _ q=>cs.length-q.toNat | _=>0)
 case atStart=>exact⟨0,[],rfl,Nat.zero_le _,⟨World.ownsRow_nil _ _ _ _,fun x hx=>by simp at hx⟩,rfl,Fr.refl _ _⟩
 case round =>
  obtain⟨k,L,rfl,hk,HO,HM,HF⟩:=hrel
  by_cases hlt:k<cs.length
  ·have hne:cs≠[]:=by intro e;simp[e] at hlt
   obtain⟨k1,o1,rfl,hk1,g1⟩:=HE.out hne
   obtain⟨x1,y1,p0,p1,p2,p3,p4,p5,p6,ix1,iy1⟩:=g1 k hlt
   have m1:=fun o=>HF.out.cell (o:=o) hk1 (fun h=>h)
   have p0:=(m1 _).trans p0
   have p1:=(m1 _).trans p1
   have p2:=(m1 _).trans p2
   have p3:=(m1 _).trans p3
   have p4:=(m1 _).trans p4
   have p5:=(m1 _).trans p5
   have p6:=(m1 _).trans p6
   have X1:Hd (IA wr x1 cs[k].args):=ix1.stay HF.out
   have Y1:Hd (IA wr y1 cs[k].rets):=iy1.stay HF.out
   have HC:Hd (cs[k].args.length≤17592186043904∧cs[k].rets.length≤17592186043904):=HFI.out.2 _ (List.getElem_mem hlt)
   have HT:Hd (cs.take (k+1)=cs.take k++[cs[k]]):=by unfold Hd;rw[List.take_add_one,List.getElem?_eq_getElem hlt];rfl
   have HLL:Hd (L.length=k):=by have:=congrArg List.length HM.out;simp at this;unfold Hd;omega
   generalize cs[k]=c at *
   obtain⟨a,b,e1,-⟩:=ix1
   obtain⟨a',b',e2,-⟩:=iy1
   subst e1;subst e2
   have hk0:(0:Int)≤k:=by omega
   have hk3:(k:Int)<cs.length:=by omega
   clear g1 m1
   go_wp2_with fail
   refine(show Calls Tryd.prog 101 #[.agg #[vI c.op,vI c.r,vI c.s,vI c.t,vI c.n,.slice a c.args.length b,.slice a' c.rets.length b']] wr _ from copyInstr_any c _ _ wr X1.out Y1.out (by have:=HC.out;omega) (by have:=HC.out;omega)).mono ?_
   rintro e w1 ⟨x',y',rfl,hx,hy,hF1⟩
   obtain⟨xa,xc,rfl⟩:∃ xa xc,x' = .slice xa c.args.length xc:=by obtain⟨xa,xc,e,-⟩:=hx.ia;exact⟨xa,xc,e⟩
   obtain⟨ya,yc,rfl⟩:∃ ya yc,y' = .slice ya c.rets.length yc:=by obtain⟨ya,yc,e,-⟩:=hy.ia;exact⟨ya,yc,e⟩
   obtain⟨wb,hwb⟩:∃ wb,wb=w1.alloc (.cells #[vI c.op,vI c.r,vI c.s,vI c.t,vI c.n,.slice xa c.args.length xc,.slice ya c.rets.length yc] 71):=⟨_,rfl⟩
   have hFb:Fr (fun _=>False) w1 wb:=by rw[hwb];exact Fr.alloc (Fr.refl _ w1) _
   have hFc:Fr (fun _=>False) w1 (wb.alloc (.cells #[vI c.op,vI c.r,vI c.s,vI c.t,vI c.n,.slice xa c.args.length xc,.slice ya c.rets.length yc] 71)):=Fr.alloc hFb _
   have b1:wb.heap[w1.heap.size]?=some (.cells #[vI c.op,vI c.r,vI c.s,vI c.t,vI c.n,.slice xa c.args.length xc,.slice ya c.rets.length yc] 71):=by rw[hwb];exact heap_new w1 _
   have HO1:Hd (CO (wb.alloc (.cells #[vI c.op,vI c.r,vI c.s,vI c.t,vI c.n,.slice xa c.args.length xc,.slice ya c.rets.length yc] 71)) w.heap.size u3 L):=HO.out.stay (hF1.trans hFc)
   have HX1:Hd (IOwn (wb.alloc (.cells #[vI c.op,vI c.r,vI c.s,vI c.t,vI c.n,.slice xa c.args.length xc,.slice ya c.rets.length yc] 71)) w.heap.size (.slice xa c.args.length xc) c.args):=(hx.fr hFc (fun _ _ e=>e)).mono HF.out.size
   have HY1:Hd (IOwn (wb.alloc (.cells #[vI c.op,vI c.r,vI c.s,vI c.t,vI c.n,.slice xa c.args.length xc,.slice ya c.rets.length yc] 71)) w.heap.size (.slice ya c.rets.length yc) c.rets):=(hy.fr hFc (fun _ _ e=>e)).mono HF.out.size
   have HF1:Hd (Fr (fun _=>False) w (wb.alloc (.cells #[vI c.op,vI c.r,vI c.s,vI c.t,vI c.n,.slice xa c.args.length xc,.slice ya c.rets.length yc] 71))):=HF.out.trans (hF1.trans hFc)
   have HWB:Hd (wb=w1.alloc (.cells #[vI c.op,vI c.r,vI c.s,vI c.t,vI c.n,.slice xa c.args.length xc,.slice ya c.rets.length yc] 71)):=hwb
   have HRW:Hd ((wb.alloc (.cells #[vI c.op,vI c.r,vI c.s,vI c.t,vI c.n,.slice xa c.args.length xc,.slice ya c.rets.length yc] 71)).ownsRow w.heap.size 71 7 u3 L.length (L.flatMap rowI)):=HO1.out.row
   have hnews:∀ j u,[vI c.op,vI c.r,vI c.s,vI c.t,vI c.n,.slice xa c.args.length xc,.slice ya c.rets.length yc][j]?=some u→(wb.alloc (.cells #[vI c.op,vI c.r,vI c.s,vI c.t,vI c.n,.slice xa c.args.length xc,.slice ya c.rets.length yc] 71)).cell? ((⟨wb.heap.size,0,none⟩:Addr).add j)=some u :=
    World.news_of_block (cs:=#[vI c.op,vI c.r,vI c.s,vI c.t,vI c.n,.slice xa c.args.length xc,.slice ya c.rets.length yc]) (heap_new wb _)
   have hbase:w.heap.size≤(wb.alloc (.cells #[vI c.op,vI c.r,vI c.s,vI c.t,vI c.n,.slice xa c.args.length xc,.slice ya c.rets.length yc] 71)).heap.size:=HF1.out.size
   have hEl:L.length+1≤1599289640355:=by have:=HLL.out;omega
   have u0:wb.cell? ⟨w1.heap.size,0,none⟩=some (vI c.op):=by rw[cell_of b1];rfl
   have u1:wb.cell? ⟨w1.heap.size,1,none⟩=some (vI c.r):=by rw[cell_of b1];rfl
   have u2:wb.cell? ⟨w1.heap.size,2,none⟩=some (vI c.s):=by rw[cell_of b1];rfl
   have u3':wb.cell? ⟨w1.heap.size,3,none⟩=some (vI c.t):=by rw[cell_of b1];rfl
   have u4:wb.cell? ⟨w1.heap.size,4,none⟩=some (vI c.n):=by rw[cell_of b1];rfl
   have u5:wb.cell? ⟨w1.heap.size,5,none⟩=some (.slice xa c.args.length xc):=by rw[cell_of b1];rfl
   have u6:wb.cell? ⟨w1.heap.size,6,none⟩=some (.slice ya c.rets.length yc):=by rw[cell_of b1];rfl
   clear hx hy hF1 hFb hFc b1 HO HF hwb p0 p1 p2 p3 p4 p5 p6
   go_upto_region 6 with fail
   rw[← HWB.out]
   clear HWB
   go_wp2_with ((at_builtin;refine Hd.out ?_))
   unfold Hd
   refine wpList_append_lies _ rfl (.tmp 17) (.tmp 19) 65 rfl w.heap.size 71 i7 (.agg #[vI 0,vI 0,vI 0,vI 0,vI 0,.slice none 0 0,.slice none 0 0]) 7 88 under65 hi7 hz7 hs7 hb7 rfl (by omega) u3 L.length _ rfl HRW.out ⟨wb.heap.size,0,none⟩ 1 1 [vI c.op,vI c.r,vI c.s,vI c.t,vI c.n,.slice xa c.args.length xc,.slice ya c.rets.length yc] rfl rfl hnews (by intro u hu;simp at hu;rcases hu with rfl | rfl | rfl | rfl | rfl | rfl | rfl<;>rfl) (by omega) (by unfold maxLen;omega) (by omega) hbase (wb.heap.size+1) (by simp) ?_
   intro g6 cap6 w6 hown6 hgrow6 hat6 hlt6
   have hF6:=grown_frL hgrow6
   have HO6:Hd (CO w6 w.heap.size (.slice (some ⟨g6,0,none⟩) (L.length+1) cap6) (L++[(c,.slice xa c.args.length xc,.slice ya c.rets.length yc)])):=by
    refine⟨?_,fun x hx=>?_⟩
    ·rw[List.length_append,List.flatMap_append]
     simpa using hown6
    ·rcases List.mem_append.1 hx with hx | hx
     ·have hi:=HO1.out.ints x hx
      exact⟨hi.1.fr hF6 (fun j e e2=>own_apart HRW.out hi.1 (by decide) j e e2),hi.2.fr hF6 (fun j e e2=>own_apart HRW.out hi.2 (by decide) j e e2)⟩
     ·simp at hx
      subst hx
      exact⟨HX1.out.fr hF6 (fun j e e2=>own_apart HRW.out HX1.out (by decide) j e e2),HY1.out.fr hF6 (fun j e e2=>own_apart HRW.out HY1.out (by decide) j e e2)⟩
   have HF6:Hd (Fr (fun _=>False) w w6):=grow_fr0 HF1.out hgrow6 (fun k hk=>(World.ownsRow.lt HRW.out k hk).1)
   have HM6:Hd ((L++[(c,Value.slice xa c.args.length xc,Value.slice ya c.rets.length yc)]).map (·.1)=cs.take (k+1)):=by
    unfold Hd
    rw[HT.out,List.map_append,HM.out]
    rfl
   clear hown6 hgrow6 hat6 hlt6 HO1 HF1 HRW hnews hbase hF6 HX1 HY1 u0 u1 u2 u3' u4 u5 u6
   go_wp2_with fail
   exact⟨⟨k+1,_,by simp,by omega,HO6.out,HM6.out,HF6.out⟩,by simp;omega⟩
  ·have hke:k=cs.length:=by omega
   subst hke
   have HM2:Hd (L.map (·.1)=cs):=by have:=HM.out;rw[List.take_length] at this;exact this
   clear HM
   go_wp2_with fail
   go_ret
   exact⟨u3,L,rfl,HO.out,HM2.out,HF.out⟩
set_option maxRecDepth 100000
set_option maxHeartbeats 2000000
def opB (op:Int):Bool:=decide (1≤op)&&decide (op≤17)
def lastB (last:Bool)(op:Int):Bool:=!last||(op==13||op==15)
def opL (op L:Int):Int:=if op=6 then L+1 else L
def opE (op:Int)(pl last:Bool)(L E:Int):Int:=mustE (decide (opL op L+1≤1048576)) 21 (mustE (lastB last op) 19 (mustE pl 1 (mustE (opB op) 12 E)))
theorem partsB_in (op:Int):(!(partsB op).toList.isEmpty)=opB op:=by
 by_cases h:1≤op∧op≤17
 ·have e:opB op=true:=by unfold opB;simp[h.1,h.2]
  rw[e]
  rcases(show op=1∨op=2∨op=3∨op=4∨op=5∨op=6∨op=7∨op=8∨op=9∨op=10∨op=11∨op=12∨op=13∨op=14∨op=15∨op=16∨op=17 by omega) with rfl | rfl | rfl | rfl | rfl | rfl | rfl | rfl | rfl | rfl | rfl | rfl | rfl | rfl | rfl | rfl | rfl <;>
   (simp[partsB,partsN,ByteArray.toList,ByteArray.toList.loop,ByteArray.size])
 ·have e:opB op=false:=by unfold opB;simp;omega
  rw[partsB_out op h,e]
  simp[ByteArray.toList,ByteArray.toList.loop,ByteArray.size]
theorem rop (rb:Nat)(G:Int)(fv:Value)(w:World)(L E:Int)(h:RW rb G fv w L E)(hL0:0≤L)(hL1:L≤1000000000000)(op zr zs zt zn:Int)(aa ra:Option Addr)(la ca lr cr:Nat)(last:Bool) :
 Calls Tryd.prog 69 #[.pointer (some ⟨rb,0,none⟩),.agg #[vI op,vI zr,vI zs,vI zt,vI zn,.slice aa la ca,.slice ra lr cr],.bool last] w fun r w'=>r = .returned (.tuple #[])∧RW rb G fv w' (opL op L) (opE op (plainB op zr zs zt zn la lr) last L E)∧Fr (fun k=>k=rb) w w':=by
 have hne:(!(partsB op).toList.isEmpty)=opB op:=partsB_in op
 have hrb:rb<w.heap.size:=h.cells.2.2.2.2.2
 go_enter Tryd.func69,Tryd.ntmps69
 go_wp2_with fail
 refine(rparts op _).mono ?_
 rintro e w1 ⟨rfl,hf1⟩
 have hfa:Fr (fun k=>k=rb) w w1:=(Fr.alloc (Fr.refl (fun k=>k=rb) w) _).trans (hf1.mono (fun _ _ h=>h.elim))
 have h1:RW rb G fv w1 L E:=h.fr ((Fr.alloc (Fr.refl (fun _=>False) w) _).trans hf1) (fun h=>h)
 have hx1:w1.heap[w.heap.size]?=some (.cells #[vI op,vI zr,vI zs,vI zt,vI zn,.slice aa la ca,.slice ra lr cr] 71):=by
  rw[hf1.block _ (by simp) (fun h=>h)]
  exact heap_alloc_last w _
 clear hf1 h
 generalize partsB op=pb at hne ⊢
 go_wp2_with fail
 refine(rmust rb G fv w1 L E h1 (opB op) 12).mono ?_
 rintro e w2 ⟨rfl,h2,hf2⟩
 have hps:¬ w.heap.size=rb:=by omega
 have hx2:w2.heap[w.heap.size]?=some (.cells #[vI op,vI zr,vI zs,vI zt,vI zn,.slice aa la ca,.slice ra lr cr] 71):=by
  rw[hf2.block _ (Array.getElem?_eq_some_iff.1 hx1).1 hps];exact hx1
 have hfb:Fr (fun k=>k=rb) w w2:=hfa.trans hf2
 clear hne hf2 hfa hx1 h1
 have cc:∀ {v:World},v.heap[w.heap.size]?=some (.cells #[vI op,vI zr,vI zs,vI zt,vI zn,.slice aa la ca,.slice ra lr cr] 71)→v.cell? ⟨w.heap.size,0,none⟩=some (vI op)∧v.cell? ⟨w.heap.size,1,none⟩=some (vI zr)∧v.cell? ⟨w.heap.size,2,none⟩=some (vI zs)∧v.cell? ⟨w.heap.size,3,none⟩=some (vI zt)∧v.cell? ⟨w.heap.size,4,none⟩=some (vI zn)∧v.cell? ⟨w.heap.size,5,none⟩=some (.slice aa la ca)∧v.cell? ⟨w.heap.size,6,none⟩=some (.slice ra lr cr):=by
  intro v hv
  refine⟨?_,?_,?_,?_,?_,?_,?_⟩<;>(unfold World.cell?;simp[hv])
 have CC:Hd _:=@cc
 clear cc
 obtain⟨d0,d1,d2,d3,d4,d5,d6⟩:=CC.out hx2
 go_wp2_with fail
 refine(rplain w2 op zr zs zt zn aa ra la ca lr cr).mono ?_
 rintro e w3 ⟨rfl,hf3⟩
 have hx3:w3.heap[w.heap.size]?=some (.cells #[vI op,vI zr,vI zs,vI zt,vI zn,.slice aa la ca,.slice ra lr cr] 71):=by
  rw[hf3.block _ (Array.getElem?_eq_some_iff.1 hx2).1 (fun h=>h)];exact hx2
 have h3:=h2.fr hf3 (fun h=>h)
 have hfc:Fr (fun k=>k=rb) w w3:=hfb.trans (hf3.mono (fun _ _ h=>h.elim))
 clear d0 d1 d2 d3 d4 d5 d6 hf3 hfb hx2 h2
 go_wp2_with fail
 refine(rmust rb G fv w3 L _ h3 (plainB op zr zs zt zn la lr) 1).mono ?_
 rintro e w4 ⟨rfl,h4,hf4⟩
 have hx4:w4.heap[w.heap.size]?=some (.cells #[vI op,vI zr,vI zs,vI zt,vI zn,.slice aa la ca,.slice ra lr cr] 71):=by
  rw[hf4.block _ (Array.getElem?_eq_some_iff.1 hx3).1 hps];exact hx3
 have hfd:Fr (fun k=>k=rb) w w4:=hfc.trans hf4
 clear hf4 hfc hx3 h3
 obtain⟨d0,-⟩:=CC.out hx4
 obtain⟨E4,HE4⟩:∃ E4,Hd (mustE (plainB op zr zs zt zn la lr) 1 (mustE (opB op) 12 E)=E4):=⟨_,rfl⟩
 rw[HE4.out] at h4
 -- ways
 have hres:∀ (w':World) (L':Int) (B:Bool),opL op L=L'→lastB last op=B→RW rb G fv w' L' (mustE (decide (L'+1≤1048576)) 21 (mustE B 19 E4))→RW rb G fv w' (opL op L) (opE op (plainB op zr zs zt zn la lr) last L E):=by
  intro w' L' B e1 e2 hr
  unfold opE
  rw[HE4.out,e1,e2]
  exact hr
 have HRES:Hd _:=hres
 clear hres HE4
 cases last with
 | false =>
   by_cases h6:op=6
   ·have hB:Hd (lastB false op=true):=by unfold Hd lastB;rfl
    have hL:Hd (opL op L=L+1):=by unfold Hd opL;rw[if_pos h6]
    subst h6
    go_wp2_with fail
    refine(rmust rb G fv w4 L E4 h4 true 19).mono ?_
    rintro e w5 ⟨rfl,h5,hf5⟩
    have hx5:=hx4
    rw[← hf5.block _ (Array.getElem?_eq_some_iff.1 hx4).1 hps] at hx5
    have hfe:Fr (fun k=>k=rb) w w5:=hfd.trans hf5
    clear hf5 hfd hx4 h4 d0
    obtain⟨d0,-⟩:=CC.out hx5
    obtain⟨-,-,r2,r3,rz,rlt⟩:=h5.cells
    go_wp2_with fail
    have h6':=h5.setL (L+1)
    have hff:Fr (fun k=>k=rb) w (w5.setCell ⟨rb,2,none⟩ (vI (L+1))):=Fr.setCell hfe _ _ (Or.inl rfl)
    generalize w5.setCell ⟨rb,2,none⟩ (vI (L+1))=w6 at h6' hff ⊢
    clear r2 r3 rz rlt h5 hfe d0
    obtain⟨-,-,r2,r3,rz,rlt⟩:=h6'.cells
    refine(rmust rb G fv w6 (L+1) _ h6' (decide (L+1+1≤1048576)) 21).mono ?_
    rintro e w7 ⟨rfl,h7,hf7⟩
    go_wp2_with fail
    go_end0
    exact⟨rfl,HRES.out _ _ _ hL.out hB.out h7,hff.trans hf7⟩
   ·have hB:Hd (lastB false op=true):=by unfold Hd lastB;rfl
    have hL:Hd (opL op L=L):=by unfold Hd opL;rw[if_neg h6]
    have h6':(op==6)=false:=by simpa using h6
    go_wp2_with fail
    refine(rmust rb G fv w4 L E4 h4 true 19).mono ?_
    rintro e w5 ⟨rfl,h5,hf5⟩
    have hx5:=hx4
    rw[← hf5.block _ (Array.getElem?_eq_some_iff.1 hx4).1 hps] at hx5
    have hfe:Fr (fun k=>k=rb) w w5:=hfd.trans hf5
    clear hf5 hfd hx4 h4 d0
    obtain⟨d0,-⟩:=CC.out hx5
    obtain⟨-,-,r2,r3,rz,rlt⟩:=h5.cells
    go_wp2_with fail
    refine(rmust rb G fv w5 L _ h5 (decide (L+1≤1048576)) 21).mono ?_
    rintro e w7 ⟨rfl,h7,hf7⟩
    go_wp2_with fail
    go_end0
    exact⟨rfl,HRES.out _ _ _ hL.out hB.out h7,hfe.trans hf7⟩
 | true =>
   by_cases h13:op=13
   ·have h6:¬ op=6:=by omega
    subst h13
    have hB:Hd (lastB true 13=true):=by unfold Hd lastB;rfl
    have hL:Hd (opL 13 L=L):=by unfold Hd opL;rw[if_neg h6]
    go_wp2_with fail
    refine(rmust rb G fv w4 L E4 h4 true 19).mono ?_
    rintro e w5 ⟨rfl,h5,hf5⟩
    have hx5:=hx4
    rw[← hf5.block _ (Array.getElem?_eq_some_iff.1 hx4).1 hps] at hx5
    have hfe:Fr (fun k=>k=rb) w w5:=hfd.trans hf5
    clear hf5 hfd hx4 h4 d0
    obtain⟨d0,-⟩:=CC.out hx5
    obtain⟨-,-,r2,r3,rz,rlt⟩:=h5.cells
    go_wp2_with fail
    refine(rmust rb G fv w5 L _ h5 (decide (L+1≤1048576)) 21).mono ?_
    rintro e w7 ⟨rfl,h7,hf7⟩
    go_wp2_with fail
    go_end0
    exact⟨rfl,HRES.out _ _ _ hL.out hB.out h7,hfe.trans hf7⟩
   ·have h13':(op==13)=false:=by simpa using h13
    by_cases h15:op=15
    ·have h6:¬ op=6:=by omega
     subst h15
     have hB:Hd (lastB true 15=true):=by unfold Hd lastB;rfl
     have hL:Hd (opL 15 L=L):=by unfold Hd opL;rw[if_neg h6]
     go_wp2_with fail
     refine(rmust rb G fv w4 L E4 h4 true 19).mono ?_
     rintro e w5 ⟨rfl,h5,hf5⟩
     have hx5:=hx4
     rw[← hf5.block _ (Array.getElem?_eq_some_iff.1 hx4).1 hps] at hx5
     have hfe:Fr (fun k=>k=rb) w w5:=hfd.trans hf5
     clear hf5 hfd hx4 h4 d0
     obtain⟨d0,-⟩:=CC.out hx5
     obtain⟨-,-,r2,r3,rz,rlt⟩:=h5.cells
     go_wp2_with fail
     refine(rmust rb G fv w5 L _ h5 (decide (L+1≤1048576)) 21).mono ?_
     rintro e w7 ⟨rfl,h7,hf7⟩
     go_wp2_with fail
     go_end0
     exact⟨rfl,HRES.out _ _ _ hL.out hB.out h7,hfe.trans hf7⟩
    ·have h15':(op==15)=false:=by simpa using h15
     by_cases h6:op=6
     ·have hB:Hd (lastB true op=false):=by unfold Hd lastB;rw[h13',h15'];rfl
      have hL:Hd (opL op L=L+1):=by unfold Hd opL;rw[if_pos h6]
      subst h6
      go_wp2_with fail
      refine(rmust rb G fv w4 L E4 h4 false 19).mono ?_
      rintro e w5 ⟨rfl,h5,hf5⟩
      have hx5:=hx4
      rw[← hf5.block _ (Array.getElem?_eq_some_iff.1 hx4).1 hps] at hx5
      have hfe:Fr (fun k=>k=rb) w w5:=hfd.trans hf5
      clear hf5 hfd hx4 h4 d0
      obtain⟨d0,-⟩:=CC.out hx5
      obtain⟨-,-,r2,r3,rz,rlt⟩:=h5.cells
      go_wp2_with fail
      have h6':=h5.setL (L+1)
      have hff:Fr (fun k=>k=rb) w (w5.setCell ⟨rb,2,none⟩ (vI (L+1))):=Fr.setCell hfe _ _ (Or.inl rfl)
      generalize w5.setCell ⟨rb,2,none⟩ (vI (L+1))=w6 at h6' hff ⊢
      clear r2 r3 rz rlt h5 hfe d0
      obtain⟨-,-,r2,r3,rz,rlt⟩:=h6'.cells
      refine(rmust rb G fv w6 (L+1) _ h6' (decide (L+1+1≤1048576)) 21).mono ?_
      rintro e w7 ⟨rfl,h7,hf7⟩
      go_wp2_with fail
      go_end0
      exact⟨rfl,HRES.out _ _ _ hL.out hB.out h7,hff.trans hf7⟩
     ·have hB:Hd (lastB true op=false):=by unfold Hd lastB;rw[h13',h15'];rfl
      have hL:Hd (opL op L=L):=by unfold Hd opL;rw[if_neg h6]
      have h6':(op==6)=false:=by simpa using h6
      go_wp2_with fail
      refine(rmust rb G fv w4 L E4 h4 false 19).mono ?_
      rintro e w5 ⟨rfl,h5,hf5⟩
      have hx5:=hx4
      rw[← hf5.block _ (Array.getElem?_eq_some_iff.1 hx4).1 hps] at hx5
      have hfe:Fr (fun k=>k=rb) w w5:=hfd.trans hf5
      clear hf5 hfd hx4 h4 d0
      obtain⟨d0,-⟩:=CC.out hx5
      obtain⟨-,-,r2,r3,rz,rlt⟩:=h5.cells
      go_wp2_with fail
      refine(rmust rb G fv w5 L _ h5 (decide (L+1≤1048576)) 21).mono ?_
      rintro e w7 ⟨rfl,h7,hf7⟩
      go_wp2_with fail
      go_end0
      exact⟨rfl,HRES.out _ _ _ hL.out hB.out h7,hfe.trans hf7⟩
set_option maxRecDepth 100000
set_option maxHeartbeats 4000000
def smallB (P R V:Int):Bool:=decide (0≤P)&&(decide (P≤8)&&(decide (P≤V)&&(decide (0≤R)&&(decide (R≤4)&&decide (V≤255)))))
def headE2 (P R V n E:Int):Int:=mustE (decide (1≤n)) 19 (mustE (smallB P R V&&decide (n≤4096)) 20 E)
def headL (P R V n L E:Int):Int:=if headE2 P R V n E=0 then L+V else L
def headE (P R V n L E:Int):Int:=mustE (decide (headL P R V n L E+1≤1048576)) 21 (headE2 P R V n E)
theorem mustE_bad (e E:Int)(he:e≠0):mustE false e E≠0:=by
 unfold mustE
 by_cases h:E=0
 ·simp[h,he]
 ·simp[h]
theorem mustE_ne (ok:Bool)(e E:Int)(h:E≠0):mustE ok e E≠0:=by
 unfold mustE
 simp[h]
theorem rhead (rb:Nat)(G:Int)(fv:Value)(w:World)(L E:Int)(h:RW rb G fv w L E)(hL0:0≤L)(hL1:L≤1000000000000)(P R V n:Int)(a:Option Addr)(l c:Nat) :
 Calls Tryd.prog 55 #[.pointer (some ⟨rb,0,none⟩),.agg #[vI P,vI R,vI V,.slice a l c],vI n] w fun r w'=>r = .returned (.tuple #[])∧RW rb G fv w' (headL P R V n L E) (headE P R V n L E)∧Fr (fun k=>k=rb) w w':=by
 have hrb:rb<w.heap.size:=h.cells.2.2.2.2.2
 have hps:¬ w.heap.size=rb:=by omega
 have hfa:Fr (fun k=>k=rb) w (w.alloc (.cells #[vI P,vI R,vI V,.slice a l c] 67)):=Fr.alloc (Fr.refl _ _) _
 have h1:RW rb G fv (w.alloc (.cells #[vI P,vI R,vI V,.slice a l c] 67)) L E:=h.fr (Fr.alloc (Fr.refl (fun _=>False) w) _) (fun h=>h)
 have hx1:(w.alloc (.cells #[vI P,vI R,vI V,.slice a l c] 67)).heap[w.heap.size]?=some (.cells #[vI P,vI R,vI V,.slice a l c] 67):=heap_alloc_last w _
 have HX1:Hd _:=hx1
 have H1:Hd _:=h1
 clear h hx1 h1
 have hres:∀ (w':World) (L':Int) (S:Bool),headL P R V n L E=L'→(smallB P R V&&decide (n≤4096))=S→RW rb G fv w' L' (mustE (decide (L'+1≤1048576)) 21 (mustE (decide (1≤n)) 19 (mustE S 20 E)))→RW rb G fv w' (headL P R V n L E) (headE P R V n L E):=by
  intro w' L' S e1 e2 hr
  unfold headE headE2
  rw[e1,e2]
  exact hr
 have HRES:Hd _:=hres
 clear hres
 by_cases q0:0≤P
 rotate_left
 ·have HS:Hd ((smallB P R V&&decide (n≤4096))=false):=by unfold Hd smallB;simp;omega
  go_enter Tryd.func55,Tryd.ntmps55
  go_wp2_with fail
  refine(rmust rb G fv _ L E H1.out false 20).mono ?_
  rintro e w2 ⟨rfl,h2,hf2⟩
  have hx2:w2.heap[w.heap.size]?=some (.cells #[vI P,vI R,vI V,.slice a l c] 67):=by
   rw[hf2.block _ (Array.getElem?_eq_some_iff.1 HX1.out).1 hps];exact HX1.out
  have hfb:Fr (fun k=>k=rb) w w2:=hfa.trans hf2
  clear hf2 hfa
  go_wp2_with fail
  refine(rmust rb G fv w2 L _ h2 (decide (1≤n)) 19).mono ?_
  rintro e w3 ⟨rfl,h3,hf3⟩
  have hx3:w3.heap[w.heap.size]?=some (.cells #[vI P,vI R,vI V,.slice a l c] 67):=by
   rw[hf3.block _ (Array.getElem?_eq_some_iff.1 hx2).1 hps];exact hx2
  have hfc:Fr (fun k=>k=rb) w w3:=hfb.trans hf3
  clear hf3 hfb hx2 h2
  obtain⟨-,-,r2,r3,rz,rlt⟩:=h3.cells
  have hE:¬ mustE (decide (1≤n)) 19 (mustE false 20 E)=0:=mustE_ne _ _ _ (mustE_bad 20 E (by decide))
  have HLL:Hd (headL P R V n L E=L):=by unfold Hd headL headE2;rw[HS.out,if_neg hE]
  have hE':(mustE (decide (1≤n)) 19 (mustE false 20 E)==0)=false:=by simpa using hE
  have hq:=hE'
  go_wp2_with fail
  refine(rmust rb G fv w3 L _ h3 (decide (L+1≤1048576)) 21).mono ?_
  rintro e w4 ⟨rfl,h4,hf4⟩
  go_wp2_with fail
  go_end0
  exact⟨rfl,HRES.out _ _ _ HLL.out HS.out h4,hfc.trans hf4⟩
 by_cases q1:P≤8
 rotate_left
 ·have HS:Hd ((smallB P R V&&decide (n≤4096))=false):=by unfold Hd smallB;simp;omega
  go_enter Tryd.func55,Tryd.ntmps55
  go_wp2_with fail
  refine(rmust rb G fv _ L E H1.out false 20).mono ?_
  rintro e w2 ⟨rfl,h2,hf2⟩
  have hx2:w2.heap[w.heap.size]?=some (.cells #[vI P,vI R,vI V,.slice a l c] 67):=by
   rw[hf2.block _ (Array.getElem?_eq_some_iff.1 HX1.out).1 hps];exact HX1.out
  have hfb:Fr (fun k=>k=rb) w w2:=hfa.trans hf2
  clear hf2 hfa
  go_wp2_with fail
  refine(rmust rb G fv w2 L _ h2 (decide (1≤n)) 19).mono ?_
  rintro e w3 ⟨rfl,h3,hf3⟩
  have hx3:w3.heap[w.heap.size]?=some (.cells #[vI P,vI R,vI V,.slice a l c] 67):=by
   rw[hf3.block _ (Array.getElem?_eq_some_iff.1 hx2).1 hps];exact hx2
  have hfc:Fr (fun k=>k=rb) w w3:=hfb.trans hf3
  clear hf3 hfb hx2 h2
  obtain⟨-,-,r2,r3,rz,rlt⟩:=h3.cells
  have hE:¬ mustE (decide (1≤n)) 19 (mustE false 20 E)=0:=mustE_ne _ _ _ (mustE_bad 20 E (by decide))
  have HLL:Hd (headL P R V n L E=L):=by unfold Hd headL headE2;rw[HS.out,if_neg hE]
  have hE':(mustE (decide (1≤n)) 19 (mustE false 20 E)==0)=false:=by simpa using hE
  have hq:=hE'
  go_wp2_with fail
  refine(rmust rb G fv w3 L _ h3 (decide (L+1≤1048576)) 21).mono ?_
  rintro e w4 ⟨rfl,h4,hf4⟩
  go_wp2_with fail
  go_end0
  exact⟨rfl,HRES.out _ _ _ HLL.out HS.out h4,hfc.trans hf4⟩
 by_cases q2:P≤V
 rotate_left
 ·have HS:Hd ((smallB P R V&&decide (n≤4096))=false):=by unfold Hd smallB;simp;omega
  go_enter Tryd.func55,Tryd.ntmps55
  go_wp2_with fail
  refine(rmust rb G fv _ L E H1.out false 20).mono ?_
  rintro e w2 ⟨rfl,h2,hf2⟩
  have hx2:w2.heap[w.heap.size]?=some (.cells #[vI P,vI R,vI V,.slice a l c] 67):=by
   rw[hf2.block _ (Array.getElem?_eq_some_iff.1 HX1.out).1 hps];exact HX1.out
  have hfb:Fr (fun k=>k=rb) w w2:=hfa.trans hf2
  clear hf2 hfa
  go_wp2_with fail
  refine(rmust rb G fv w2 L _ h2 (decide (1≤n)) 19).mono ?_
  rintro e w3 ⟨rfl,h3,hf3⟩
  have hx3:w3.heap[w.heap.size]?=some (.cells #[vI P,vI R,vI V,.slice a l c] 67):=by
   rw[hf3.block _ (Array.getElem?_eq_some_iff.1 hx2).1 hps];exact hx2
  have hfc:Fr (fun k=>k=rb) w w3:=hfb.trans hf3
  clear hf3 hfb hx2 h2
  obtain⟨-,-,r2,r3,rz,rlt⟩:=h3.cells
  have hE:¬ mustE (decide (1≤n)) 19 (mustE false 20 E)=0:=mustE_ne _ _ _ (mustE_bad 20 E (by decide))
  have HLL:Hd (headL P R V n L E=L):=by unfold Hd headL headE2;rw[HS.out,if_neg hE]
  have hE':(mustE (decide (1≤n)) 19 (mustE false 20 E)==0)=false:=by simpa using hE
  have hq:=hE'
  go_wp2_with fail
  refine(rmust rb G fv w3 L _ h3 (decide (L+1≤1048576)) 21).mono ?_
  rintro e w4 ⟨rfl,h4,hf4⟩
  go_wp2_with fail
  go_end0
  exact⟨rfl,HRES.out _ _ _ HLL.out HS.out h4,hfc.trans hf4⟩
 by_cases q3:0≤R
 rotate_left
 ·have HS:Hd ((smallB P R V&&decide (n≤4096))=false):=by unfold Hd smallB;simp;omega
  go_enter Tryd.func55,Tryd.ntmps55
  go_wp2_with fail
  refine(rmust rb G fv _ L E H1.out false 20).mono ?_
  rintro e w2 ⟨rfl,h2,hf2⟩
  have hx2:w2.heap[w.heap.size]?=some (.cells #[vI P,vI R,vI V,.slice a l c] 67):=by
   rw[hf2.block _ (Array.getElem?_eq_some_iff.1 HX1.out).1 hps];exact HX1.out
  have hfb:Fr (fun k=>k=rb) w w2:=hfa.trans hf2
  clear hf2 hfa
  go_wp2_with fail
  refine(rmust rb G fv w2 L _ h2 (decide (1≤n)) 19).mono ?_
  rintro e w3 ⟨rfl,h3,hf3⟩
  have hx3:w3.heap[w.heap.size]?=some (.cells #[vI P,vI R,vI V,.slice a l c] 67):=by
   rw[hf3.block _ (Array.getElem?_eq_some_iff.1 hx2).1 hps];exact hx2
  have hfc:Fr (fun k=>k=rb) w w3:=hfb.trans hf3
  clear hf3 hfb hx2 h2
  obtain⟨-,-,r2,r3,rz,rlt⟩:=h3.cells
  have hE:¬ mustE (decide (1≤n)) 19 (mustE false 20 E)=0:=mustE_ne _ _ _ (mustE_bad 20 E (by decide))
  have HLL:Hd (headL P R V n L E=L):=by unfold Hd headL headE2;rw[HS.out,if_neg hE]
  have hE':(mustE (decide (1≤n)) 19 (mustE false 20 E)==0)=false:=by simpa using hE
  have hq:=hE'
  go_wp2_with fail
  refine(rmust rb G fv w3 L _ h3 (decide (L+1≤1048576)) 21).mono ?_
  rintro e w4 ⟨rfl,h4,hf4⟩
  go_wp2_with fail
  go_end0
  exact⟨rfl,HRES.out _ _ _ HLL.out HS.out h4,hfc.trans hf4⟩
 by_cases q4:R≤4
 rotate_left
 ·have HS:Hd ((smallB P R V&&decide (n≤4096))=false):=by unfold Hd smallB;simp;omega
  go_enter Tryd.func55,Tryd.ntmps55
  go_wp2_with fail
  refine(rmust rb G fv _ L E H1.out false 20).mono ?_
  rintro e w2 ⟨rfl,h2,hf2⟩
  have hx2:w2.heap[w.heap.size]?=some (.cells #[vI P,vI R,vI V,.slice a l c] 67):=by
   rw[hf2.block _ (Array.getElem?_eq_some_iff.1 HX1.out).1 hps];exact HX1.out
  have hfb:Fr (fun k=>k=rb) w w2:=hfa.trans hf2
  clear hf2 hfa
  go_wp2_with fail
  refine(rmust rb G fv w2 L _ h2 (decide (1≤n)) 19).mono ?_
  rintro e w3 ⟨rfl,h3,hf3⟩
  have hx3:w3.heap[w.heap.size]?=some (.cells #[vI P,vI R,vI V,.slice a l c] 67):=by
   rw[hf3.block _ (Array.getElem?_eq_some_iff.1 hx2).1 hps];exact hx2
  have hfc:Fr (fun k=>k=rb) w w3:=hfb.trans hf3
  clear hf3 hfb hx2 h2
  obtain⟨-,-,r2,r3,rz,rlt⟩:=h3.cells
  have hE:¬ mustE (decide (1≤n)) 19 (mustE false 20 E)=0:=mustE_ne _ _ _ (mustE_bad 20 E (by decide))
  have HLL:Hd (headL P R V n L E=L):=by unfold Hd headL headE2;rw[HS.out,if_neg hE]
  have hE':(mustE (decide (1≤n)) 19 (mustE false 20 E)==0)=false:=by simpa using hE
  have hq:=hE'
  go_wp2_with fail
  refine(rmust rb G fv w3 L _ h3 (decide (L+1≤1048576)) 21).mono ?_
  rintro e w4 ⟨rfl,h4,hf4⟩
  go_wp2_with fail
  go_end0
  exact⟨rfl,HRES.out _ _ _ HLL.out HS.out h4,hfc.trans hf4⟩
 by_cases q5:V≤255
 rotate_left
 ·have HS:Hd ((smallB P R V&&decide (n≤4096))=false):=by unfold Hd smallB;simp;omega
  go_enter Tryd.func55,Tryd.ntmps55
  go_wp2_with fail
  refine(rmust rb G fv _ L E H1.out false 20).mono ?_
  rintro e w2 ⟨rfl,h2,hf2⟩
  have hx2:w2.heap[w.heap.size]?=some (.cells #[vI P,vI R,vI V,.slice a l c] 67):=by
   rw[hf2.block _ (Array.getElem?_eq_some_iff.1 HX1.out).1 hps];exact HX1.out
  have hfb:Fr (fun k=>k=rb) w w2:=hfa.trans hf2
  clear hf2 hfa
  go_wp2_with fail
  refine(rmust rb G fv w2 L _ h2 (decide (1≤n)) 19).mono ?_
  rintro e w3 ⟨rfl,h3,hf3⟩
  have hx3:w3.heap[w.heap.size]?=some (.cells #[vI P,vI R,vI V,.slice a l c] 67):=by
   rw[hf3.block _ (Array.getElem?_eq_some_iff.1 hx2).1 hps];exact hx2
  have hfc:Fr (fun k=>k=rb) w w3:=hfb.trans hf3
  clear hf3 hfb hx2 h2
  obtain⟨-,-,r2,r3,rz,rlt⟩:=h3.cells
  have hE:¬ mustE (decide (1≤n)) 19 (mustE false 20 E)=0:=mustE_ne _ _ _ (mustE_bad 20 E (by decide))
  have HLL:Hd (headL P R V n L E=L):=by unfold Hd headL headE2;rw[HS.out,if_neg hE]
  have hE':(mustE (decide (1≤n)) 19 (mustE false 20 E)==0)=false:=by simpa using hE
  have hq:=hE'
  go_wp2_with fail
  refine(rmust rb G fv w3 L _ h3 (decide (L+1≤1048576)) 21).mono ?_
  rintro e w4 ⟨rfl,h4,hf4⟩
  go_wp2_with fail
  go_end0
  exact⟨rfl,HRES.out _ _ _ HLL.out HS.out h4,hfc.trans hf4⟩
 by_cases q6:n≤4096
 rotate_left
 ·have HS:Hd ((smallB P R V&&decide (n≤4096))=false):=by unfold Hd smallB;simp;omega
  go_enter Tryd.func55,Tryd.ntmps55
  go_wp2_with fail
  refine(rmust rb G fv _ L E H1.out false 20).mono ?_
  rintro e w2 ⟨rfl,h2,hf2⟩
  have hx2:w2.heap[w.heap.size]?=some (.cells #[vI P,vI R,vI V,.slice a l c] 67):=by
   rw[hf2.block _ (Array.getElem?_eq_some_iff.1 HX1.out).1 hps];exact HX1.out
  have hfb:Fr (fun k=>k=rb) w w2:=hfa.trans hf2
  clear hf2 hfa
  go_wp2_with fail
  refine(rmust rb G fv w2 L _ h2 (decide (1≤n)) 19).mono ?_
  rintro e w3 ⟨rfl,h3,hf3⟩
  have hx3:w3.heap[w.heap.size]?=some (.cells #[vI P,vI R,vI V,.slice a l c] 67):=by
   rw[hf3.block _ (Array.getElem?_eq_some_iff.1 hx2).1 hps];exact hx2
  have hfc:Fr (fun k=>k=rb) w w3:=hfb.trans hf3
  clear hf3 hfb hx2 h2
  obtain⟨-,-,r2,r3,rz,rlt⟩:=h3.cells
  have hE:¬ mustE (decide (1≤n)) 19 (mustE false 20 E)=0:=mustE_ne _ _ _ (mustE_bad 20 E (by decide))
  have HLL:Hd (headL P R V n L E=L):=by unfold Hd headL headE2;rw[HS.out,if_neg hE]
  have hE':(mustE (decide (1≤n)) 19 (mustE false 20 E)==0)=false:=by simpa using hE
  have hq:=hE'
  go_wp2_with fail
  refine(rmust rb G fv w3 L _ h3 (decide (L+1≤1048576)) 21).mono ?_
  rintro e w4 ⟨rfl,h4,hf4⟩
  go_wp2_with fail
  go_end0
  exact⟨rfl,HRES.out _ _ _ HLL.out HS.out h4,hfc.trans hf4⟩
 have HS:Hd ((smallB P R V&&decide (n≤4096))=true):=by unfold Hd smallB;simp;omega
 go_enter Tryd.func55,Tryd.ntmps55
 go_wp2_with fail
 refine(rmust rb G fv _ L E H1.out true 20).mono ?_
 rintro e w2 ⟨rfl,h2,hf2⟩
 have hx2:w2.heap[w.heap.size]?=some (.cells #[vI P,vI R,vI V,.slice a l c] 67):=by
  rw[hf2.block _ (Array.getElem?_eq_some_iff.1 HX1.out).1 hps];exact HX1.out
 have hfb:Fr (fun k=>k=rb) w w2:=hfa.trans hf2
 clear hf2 hfa
 go_wp2_with fail
 refine(rmust rb G fv w2 L _ h2 (decide (1≤n)) 19).mono ?_
 rintro e w3 ⟨rfl,h3,hf3⟩
 have hx3:w3.heap[w.heap.size]?=some (.cells #[vI P,vI R,vI V,.slice a l c] 67):=by
  rw[hf3.block _ (Array.getElem?_eq_some_iff.1 hx2).1 hps];exact hx2
 have hfc:Fr (fun k=>k=rb) w w3:=hfb.trans hf3
 clear hf3 hfb hx2 h2
 obtain⟨-,-,r2,r3,rz,rlt⟩:=h3.cells
 by_cases hE:mustE (decide (1≤n)) 19 (mustE true 20 E)=0
 ·have HLL:Hd (headL P R V n L E=L+V):=by unfold Hd headL headE2;rw[HS.out,if_pos hE]
  have f2:w3.cell? ⟨w.heap.size,2,none⟩=some (vI V):=by unfold World.cell?;simp[hx3]
  have hE':(mustE (decide (1≤n)) 19 (mustE true 20 E)==0)=true:=by simpa using hE
  have hxl:w.heap.size<w3.heap.size:=cell_lt f2
  go_wp2_with fail
  go_region
  have h5:=(h3.setL (L+V))
  have h6:=h5.fr (Fr.drew (Fr.refl (fun _=>False) _)) (fun h=>h)
  have hfd:Fr (fun k=>k=rb) w (w3.setCell ⟨rb,2,none⟩ (vI (L+V))).drew:=(Fr.setCell hfc _ _ (Or.inl rfl)).drew
  generalize (w3.setCell ⟨rb,2,none⟩ (vI (L+V))).drew=w5 at h6 hfd ⊢
  clear r2 r3 rz rlt h3 hfc f2 hx3 h5 hxl
  obtain⟨-,-,r2,r3,rz,rlt⟩:=h6.cells
  go_wp2_with fail
  refine(rmust rb G fv w5 (L+V) _ h6 (decide (L+V+1≤1048576)) 21).mono ?_
  rintro e w6 ⟨rfl,h7,hf7⟩
  go_wp2_with fail
  go_end0
  exact⟨rfl,HRES.out _ _ _ HLL.out HS.out h7,hfd.trans hf7⟩
 ·have HLL:Hd (headL P R V n L E=L):=by unfold Hd headL headE2;rw[HS.out,if_neg hE]
  have hE':(mustE (decide (1≤n)) 19 (mustE true 20 E)==0)=false:=by simpa using hE
  go_wp2_with fail
  refine(rmust rb G fv w3 L _ h3 (decide (L+1≤1048576)) 21).mono ?_
  rintro e w4 ⟨rfl,h4,hf4⟩
  go_wp2_with fail
  go_end0
  exact⟨rfl,HRES.out _ _ _ HLL.out HS.out h4,hfc.trans hf4⟩
end Go.Proofs.YtingenonbkencaaDoor
