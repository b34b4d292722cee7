import Derived.Test.YtdkijecnnmncnaaGreatDoorQXaJ
import Derived.Test.YtdkijecnnmncnaaGreatDoorQEcJ
set_option linter.unusedVariables false
set_option linter.unusedSimpArgs false
namespace Go.Proofs.YtdkijecnnmncnaaGreatDoor
open Go.RowKit (wrap32 wrap64)
set_option maxRecDepth 100000
set_option maxHeartbeats 2000000
theorem SpC.cell {w:World}{B:Nat}{L:List CI}{k g n cap:Nat}(h:SpC w B (.slice (some ⟨g,0,none⟩) n cap) L k){j o:Nat}{x:CI}{u:Value}(hj:L[j]?=some x)(ho:o<7)(hu:(rowI x)[o]?=some u):w.cell? ⟨g,j*7+o,none⟩=some u:=by
 have hjl:=(List.getElem?_eq_some_iff.1 hj).1
 have hje:=(List.getElem?_eq_some_iff.1 hj).2
 obtain⟨g',cap',e,-,hc⟩:=own_cell h.row (j:=j*7+o) (u:=u) (by rw[flat_get rowI 7 (fun _=>rfl) L j o hjl ho,hje];exact hu)
 simp at e
 obtain⟨e1,-,-⟩:=e
 rw[e1];exact hc
theorem SpK.ca {w:World}{B:Nat}{v:Value}{cs:List PI}(h:SpK w B v cs):CA w v cs:=by
 obtain⟨g,cap,L,rfl,hcap,rfl,h⟩:=h
 refine⟨_,cap,rfl,fun _=>⟨g,0,rfl,(World.ownsRow.lt h.row g rfl).2,fun j hj=>?_⟩⟩
 have hj':j<L.length:=by simpa using hj
 have hx:(L++mkC 64)[j]?=some L[j]:=by rw[List.getElem?_append_left hj'];exact List.getElem?_eq_getElem hj'
 have hi:=h.ints L[j] (by rw[List.length_map,List.take_left' rfl];exact List.getElem_mem hj')
 rw[Nat.zero_add]
 simp only[List.getElem_map]
 exact⟨L[j].2.1,L[j].2.2,h.cell (o:=0) hx (by omega) rfl,h.cell (o:=1) hx (by omega) rfl,h.cell (o:=2) hx (by omega) rfl,h.cell (o:=3) hx (by omega) rfl,h.cell (o:=4) hx (by omega) rfl,h.cell (o:=5) hx (by omega) rfl,h.cell (o:=6) hx (by omega) rfl,hi.1.ia,hi.2.ia⟩
theorem SpK.stay {w w':World}{B:Nat}{v:Value}{cs:List PI}(h:SpK w B v cs)(f:Fr (fun _=>False) w w'):SpK w' B v cs:=by
 obtain⟨g,cap,L,e,hcap,e2,h⟩:=h
 exact⟨g,cap,L,e,hcap,e2,h.stay f⟩
theorem staysFunc_any (f:PF)(x y:Value)(B:Nat)(w:World)(h1:SpK w B x f.code)(h2:CA w y f.code)(hn:f.code.length≤3000000000)(hl:∀ c∈f.code,c.args.length≤3000000000∧c.rets.length≤3000000000) :
 Calls Tryz.prog 64 #[.agg #[vI f.P,vI f.R,vI f.V,x],.agg #[vI f.P,vI f.R,vI f.V,y]] w fun e w'=>e = .returned (.bool true)∧Fr (fun _=>False) w w':=by
 have hfine:FineC f.code:=⟨by show f.code.length≤1599289640354;omega,fun c hc=>⟨by have:=(hl c hc).1;omega,by have:=(hl c hc).2;omega⟩⟩
 obtain⟨wa,hwa⟩:∃ wa,wa=(w.alloc (.cells #[vI f.P,vI f.R,vI f.V,x] 45)).alloc (.cells #[vI f.P,vI f.R,vI f.V,y] 45):=⟨_,rfl⟩
 have hF:Fr (fun _=>False) w wa:=by rw[hwa];exact Fr.alloc (Fr.alloc (Fr.refl _ w) _) _
 have b1':wa.heap[w.heap.size]?=some (.cells #[vI f.P,vI f.R,vI f.V,x] 45):=by
  rw[hwa,Go.RowKit.Below.heap_alloc _ _ _ (by simp)];exact heap_new w _
 have b2':wa.heap[w.heap.size+1]?=some (.cells #[vI f.P,vI f.R,vI f.V,y] 45):=by
  rw[hwa,show w.heap.size+1=(w.alloc (.cells #[vI f.P,vI f.R,vI f.V,x] 45)).heap.size by simp];exact heap_new _ _
 have HWA:Hd (wa=(w.alloc (.cells #[vI f.P,vI f.R,vI f.V,x] 45)).alloc (.cells #[vI f.P,vI f.R,vI f.V,y] 45)):=hwa
 have HF:Hd (Fr (fun _=>False) w wa):=hF
 have HX:Hd (SpK wa B x f.code):=h1.stay hF
 have HY:Hd (CA wa y f.code):=h2.stay hF
 obtain⟨a2,b2,e2,-⟩:=id h2
 obtain⟨g,cap,L,e1,hcap,hL,-⟩:=id h1
 obtain⟨H,hH⟩:∃ H,H=w.heap.size:=⟨_,rfl⟩
 have HH:Hd (H=w.heap.size):=hH
 rw[← hH] at b1' b2'
 have B1:Hd (wa.heap[H]?=some (.cells #[vI f.P,vI f.R,vI f.V,x] 45)):=b1'
 have B2:Hd (wa.heap[H+1]?=some (.cells #[vI f.P,vI f.R,vI f.V,y] 45)):=b2'
 have c0:wa.cell? ⟨H,0,none⟩=some (vI f.P):=by rw[cell_of b1'];rfl
 have c1:wa.cell? ⟨H,1,none⟩=some (vI f.R):=by rw[cell_of b1'];rfl
 have c2:wa.cell? ⟨H,2,none⟩=some (vI f.V):=by rw[cell_of b1'];rfl
 have c3:wa.cell? ⟨H,3,none⟩=some x:=by rw[cell_of b1'];rfl
 have d0:wa.cell? ⟨H+1,0,none⟩=some (vI f.P):=by rw[cell_of b2'];rfl
 have d1:wa.cell? ⟨H+1,1,none⟩=some (vI f.R):=by rw[cell_of b2'];rfl
 have d2:wa.cell? ⟨H+1,2,none⟩=some (vI f.V):=by rw[cell_of b2'];rfl
 have d3:wa.cell? ⟨H+1,3,none⟩=some y:=by rw[cell_of b2'];rfl
 subst e1;subst e2
 have HLI:Hd (∀ c∈f.code,c.args.length≤3000000000∧c.rets.length≤3000000000):=hl
 clear h1 h2 hF hwa hH b1' b2' hL hl hcap
 go_enter Tryz.func64,Tryz.ntmps64
 go_upto_region 1 with fail
 rw[← HWA.out,← HH.out]
 clear HWA
 go_wp2_with fail
 refine(show Calls Tryz.prog 100 #[.agg #[vI f.P,vI f.R,vI f.V,.slice (some ⟨g,0,none⟩) f.code.length cap],.agg #[vI f.P,vI f.R,vI f.V,.slice a2 f.code.length b2]] wa _ from eqFunc_same f _ _ wa HX.out.ca HY.out hfine).mono ?_
 rintro e w1 ⟨rfl,hF1⟩
 have HX1:Hd (SpK w1 B (.slice (some ⟨g,0,none⟩) f.code.length cap) f.code):=HX.out.stay hF1
 have B11:w1.heap[H]?=some (.cells #[vI f.P,vI f.R,vI f.V,.slice (some ⟨g,0,none⟩) f.code.length cap] 45):=(hF1.block H (heap_lt B1.out) (fun e=>e)).trans B1.out
 have B21:w1.heap[H+1]?=some (.cells #[vI f.P,vI f.R,vI f.V,.slice a2 f.code.length b2] 45):=(hF1.block (H+1) (heap_lt B2.out) (fun e=>e)).trans B2.out
 have HF1:Hd (Fr (fun _=>False) w w1):=HF.out.trans hF1
 have p3:w1.cell? ⟨H,3,none⟩=some (.slice (some ⟨g,0,none⟩) f.code.length cap):=by rw[cell_of B11];rfl
 have r3:w1.cell? ⟨H+1,3,none⟩=some (.slice a2 f.code.length b2):=by rw[cell_of B21];rfl
 clear hF1 c0 c1 c2 c3 d0 d1 d2 d3 HF HX HY B1 B2 B11 B21
 obtain⟨g',cap',L,e1,hcap,hL,hCS⟩:=HX1.out
 simp at e1
 obtain⟨eg,ec⟩:=e1
 subst eg;subst ec
 have HL:Hd (L.map (·.1)=f.code):=hL
 have HCS:Hd (SpC w1 B (.slice (some ⟨g,0,none⟩) (f.code.length+64) cap) (L++mkC 64) f.code.length):=hCS
 clear hL hCS HX1
 obtain⟨n,hnn⟩:∃ n,n=f.code.length:=⟨_,rfl⟩
 have HN:Hd (n=f.code.length):=hnn
 have HLL:Hd (L.length=n):=by have:=congrArg List.length HL.out;simp at this;unfold Hd;omega
 rw[← hnn] at p3 r3 hcap hn HCS ⊢
 clear hnn
 have hn0:(0:Int)≤(n:Int)+64:=by omega
 have hn1:(n:Int)+64≤cap:=by omega
 have ht:((n:Int)+64).toNat=n+64:=by omega
 go_wp2_with fail
 go_loopw [7] (fun v wr=>∃ (k:Nat),v = .int .i64 k∧k≤64∧wr=w1) (fun v _=>match v with | .int _ q=>64-q.toNat | _=>0)
 case atStart=>exact⟨0,rfl,by omega,rfl⟩
 case round =>
  obtain⟨k,rfl,hk,rfl⟩:=hrel
  by_cases hlt:k<64
  ·have hk0:(0:Int)≤(n:Int)+k:=by omega
   have hk1:(k:Int)<64:=by omega
   have hk3:(n:Int)+k<((n+64:Nat):Int):=by omega
   have ht2:((n:Int)+k).toNat=n+k:=by omega
   have p0:wr.cell? ⟨g,(n+k)*7,none⟩=some (vI (-75-(k:Int))):=HCS.out.cell (j:=n+k) (o:=0) (x:=mkI k) (by rw[List.getElem?_append_right (by have:=HLL.out;omega),HLL.out,Nat.add_sub_cancel_left];simp[mkC,hlt]) (by omega) rfl
   have hw:IntKind.i64.wrap (-75-(k:Int)) = -75-(k:Int):=by simp[IntKind.wrap,IntKind.bits,IntKind.signed];omega
   go_wp2_with fail
   exact⟨⟨k+1,by simp,by omega,by trivial⟩,by simp;omega⟩
  ·have hd64:decide ((k:Int)<64)=false:=by simp;omega
   clear hk hlt
   go_wp2_with fail
   obtain⟨wo,hwo⟩:∃ wo,wo=wr:=⟨_,rfl⟩
   rw[← hwo] at HF1 HCS ⊢
   clear hwo p3 r3
   go_loopw [8] (fun v wr=>∃ (k:Nat),v = .int .i64 k∧k≤n∧wr=wo) (fun v _=>match v with | .int _ q=>n-q.toNat | _=>0)
   case atStart=>exact⟨0,rfl,by omega,rfl⟩
   case round =>
    obtain⟨k,rfl,hk,rfl⟩:=hrel
    by_cases hlt:k<n
    ·have hk0:(0:Int)≤k:=by omega
     have hk1:(k:Int)<n:=by omega
     have hk3:(k:Int)<((n+64:Nat):Int):=by omega
     have hkL:k<L.length:=by have:=HLL.out;omega
     have hx:(L++mkC 64)[k]?=some L[k]:=by rw[List.getElem?_append_left hkL];exact List.getElem?_eq_getElem hkL
     have p5:wr.cell? ⟨g,k*7+5,none⟩=some L[k].2.1:=HCS.out.cell hx (by omega) rfl
     have p6:wr.cell? ⟨g,k*7+6,none⟩=some L[k].2.2:=HCS.out.cell hx (by omega) rfl
     have HI:Hd (SpI wr B L[k].2.1 L[k].1.args (-100)∧SpI wr B L[k].2.2 L[k].1.rets (-300)):=HCS.out.ints L[k] (by rw[← HLL.out,List.take_left' rfl];exact List.getElem_mem hkL)
     have HC:Hd (L[k].1.args.length≤3000000000∧L[k].1.rets.length≤3000000000):=HLI.out _ (by rw[← HL.out];exact List.mem_map.2 ⟨L[k],List.getElem_mem hkL,rfl⟩)
     generalize L[k]=xk at *
     obtain⟨c,v5,v6⟩:=xk
     simp only at p5 p6 HI HC
     obtain⟨g5,c5,e5,-⟩:=id HI.out.1
     obtain⟨g6,c6,e6,-⟩:=id HI.out.2
     subst e5;subst e6
     clear hx
     go_wp2_with fail
     refine(show Calls Tryz.prog 62 #[.slice (some ⟨g5,0,none⟩) c.args.length c5,vI (-100)] wr _ from kept_any _ c.args (-100) B wr HI.out.1 HC.out.1 (by omega) (by omega)).mono ?_
     rintro e w2 ⟨rfl,rfl⟩
     go_wp2_with fail
     refine(show Calls Tryz.prog 62 #[.slice (some ⟨g6,0,none⟩) c.rets.length c6,vI (-300)] _ _ from kept_any _ c.rets (-300) B _ HI.out.2 HC.out.2 (by omega) (by omega)).mono ?_
     rintro e w2 ⟨rfl,rfl⟩
     go_wp2_with fail
     exact⟨⟨k+1,by simp,by omega,by trivial⟩,by simp;omega⟩
    ·have hke:k=n:=by omega
     subst hke
     go_wp2_with fail
     go_ret
     exact⟨rfl,HF1.out⟩
set_option maxRecDepth 100000
set_option maxHeartbeats 1000000
structure SpLs (w:World)(B:Nat)(v:Value)(us:List Value)(ls:List (List Int))(m:Int)(k:Nat):Prop where
 row:w.ownsRow B 30 1 v us.length us
 len:us.length=ls.length+k
 ints:∀ i (h:i<us.length) (h':i<ls.length),SpI w B us[i] ls[i] m
 mrk:∀ i (h:i<us.length),ls.length≤i→IOwn w B us[i] [m-((i-ls.length:Nat):Int)]∧∃ g,us[i] = .slice (some ⟨g,0,none⟩) 1 1
theorem SpLs.stay {w w':World}{B:Nat}{v:Value}{us:List Value}{ls:List (List Int)}{m:Int}{k:Nat}(h:SpLs w B v us ls m k)(f:Fr (fun _=>False) w w'):SpLs w' B v us ls m k :=
 ⟨ownsRow_frL h.row f (fun _ _ e=>e),h.len,fun i hi hi'=>(h.ints i hi hi').stay f,fun i hi hl=>⟨(h.mrk i hi hl).1.fr f (fun _ _ e=>e),(h.mrk i hi hl).2⟩⟩
theorem SpLs.mono {w:World}{B B':Nat}{v:Value}{us:List Value}{ls:List (List Int)}{m:Int}{k:Nat}(h:SpLs w B v us ls m k)(hB:B'≤B):SpLs w B' v us ls m k :=
 ⟨World.ownsRow.mono h.row hB,h.len,fun i hi hi'=>(h.ints i hi hi').mono hB,fun i hi hl=>⟨(h.mrk i hi hl).1.mono hB,(h.mrk i hi hl).2⟩⟩
theorem SpLs.nil (w:World)(B:Nat)(m:Int):SpLs w B (.slice none 0 0) [] [] m 0:=⟨World.ownsRow_nil _ _ _ _,rfl,fun i h=>by simp at h,fun i h=>by simp at h⟩
theorem SpLs.app1 {w w6:World}{B g cap:Nat}{v x:Value}{us:List Value}{ls:List (List Int)}{l:List Int}{m:Int}(h:SpLs w B v us ls m 0)(hx:SpI w B x l m)(hg:w.grownBy w6 v.ownBlock)(ho:w6.ownsRow B 30 1 (.slice (some ⟨g,0,none⟩) (us.length+1) cap) (us.length+1) (us++[x])) :
 SpLs w6 B (.slice (some ⟨g,0,none⟩) (us.length+1) cap) (us++[x]) (ls++[l]) m 0:=by
 have f:=grown_frL hg
 refine⟨by simpa using ho,by simp[h.len],fun i hi hi'=>?_,fun i hi hl=>?_⟩
 ·by_cases e:i<us.length
  ·have e':i<ls.length:=by have:=h.len;omega
   have k:=h.ints i e e'
   rw[List.getElem_append_left e,List.getElem_append_left e']
   exact k.fr f (fun j e1 e2=>k.apart h.row (by decide) j e1 e2)
  ·have e1:i=us.length:=by simp at hi;omega
   have e2:us.length=ls.length:=h.len
   subst e1
   simp[e2]
   exact hx.fr f (fun j e1 e2=>hx.apart h.row (by decide) j e1 e2)
 ·have:=h.len
  simp at hi hl
  omega
theorem SpLs.app2 {w w6:World}{B g cap q:Nat}{v:Value}{us:List Value}{ls:List (List Int)}{m:Int}{k:Nat}(h:SpLs w B v us ls m k)(hx:IOwn w B (.slice (some ⟨q,0,none⟩) 1 1) [m-(k:Int)])(hg:w.grownBy w6 v.ownBlock)(ho:w6.ownsRow B 30 1 (.slice (some ⟨g,0,none⟩) (us.length+1) cap) (us.length+1) (us++[.slice (some ⟨q,0,none⟩) 1 1])) :
 SpLs w6 B (.slice (some ⟨g,0,none⟩) (us.length+1) cap) (us++[.slice (some ⟨q,0,none⟩) 1 1]) ls m (k+1):=by
 have f:=grown_frL hg
 refine⟨by simpa using ho,by simp[h.len];omega,fun i hi hi'=>?_,fun i hi hl=>?_⟩
 ·have e:i<us.length:=by have:=h.len;omega
  have k:=h.ints i e hi'
  rw[List.getElem_append_left e]
  exact k.fr f (fun j e1 e2=>k.apart h.row (by decide) j e1 e2)
 ·by_cases e:i<us.length
  ·have k:=h.mrk i e hl
   rw[List.getElem_append_left e]
   exact⟨k.1.fr f (fun j e1 e2=>own_apart h.row k.1 (by decide) j e1 e2),k.2⟩
  ·have e1:i=us.length:=by simp at hi;omega
   subst e1
   have e2:us.length-ls.length=k:=by have:=h.len;omega
   simp only[List.getElem_concat_length,e2]
   exact⟨hx.fr f (fun j e1 e2=>own_apart h.row hx (by decide) j e1 e2),q,rfl⟩
def SpL (w:World)(B:Nat)(v:Value)(ls:List (List Int))(m:Int):Prop :=
 ∃ g cap us,v = .slice (some ⟨g,0,none⟩) ls.length cap∧ls.length+64≤cap∧SpLs w B (.slice (some ⟨g,0,none⟩) (ls.length+64) cap) us ls m 64
theorem SpL.stay {w w':World}{B:Nat}{v:Value}{ls:List (List Int)}{m:Int}(h:SpL w B v ls m)(f:Fr (fun _=>False) w w'):SpL w' B v ls m:=by
 obtain⟨g,cap,us,e,hc,h⟩:=h
 exact⟨g,cap,us,e,hc,h.stay f⟩
theorem SpL.mono {w:World}{B B':Nat}{v:Value}{ls:List (List Int)}{m:Int}(h:SpL w B v ls m)(hB:B'≤B):SpL w B' v ls m:=by
 obtain⟨g,cap,us,e,hc,h⟩:=h
 exact⟨g,cap,us,e,hc,h.mono hB⟩
theorem iown_one (w:World)(d:Int){B:Nat}(hB:B≤w.heap.size):IOwn (w.alloc (.cells #[vI d] 3)) B (.slice (some ⟨w.heap.size,0,none⟩) 1 1) [d] :=
 ⟨rfl,Or.inr ⟨w.heap.size,1,_,rfl,hB,heap_new0 w _,Nat.le_refl _,by unfold maxLen;omega,rfl,rfl⟩⟩
theorem roomLists_any (v:Value)(ls:List (List Int))(m:Int)(w:World)(hE:LA w v ls)(hel:ls.length≤3000000000)(hll:∀ l∈ls,l.length≤3000000000)(hm : -1000≤m)(hm0:m≤0) :
 Calls Tryz.prog 54 #[v,vI m] w fun e w'=>∃ v',e = .returned v'∧SpL w' w.heap.size v' ls m∧Fr (fun _=>False) w w':=by
 obtain⟨ea,ec,rfl,hein⟩:=hE
 have HE:Hd (ls≠[]→_):=hein
 have HLL:Hd (∀ l∈ls,l.length≤3000000000):=hll
 clear hein hll
 obtain⟨i22,hi22,hz22,hs22,hb22⟩:=info_parts (P:=Tryz.prog) (e:=30) (z:=.slice none 0 0) (size:=1) (bytes:=24) (by kernel_rfl)
 go_enter Tryz.func54,Tryz.ntmps54
 go_wp2_with fail
 go_loopw [5,6] (fun mv v wr=>∃ (k:Nat) (us:List Value),v = .int .i64 k∧k≤ls.length∧Hd (SpLs wr w.heap.size mv us (ls.take k) m 0)∧Hd (Fr (fun _=>False) w wr)) (fun _ v _=>match v with | .int _ q=>ls.length-q.toNat | _=>0)
 case atStart=>exact⟨0,[],rfl,Nat.zero_le _,SpLs.nil _ _ _,Fr.refl _ _⟩
 case round =>
  obtain⟨k,us,rfl,hk,HO,HF⟩:=hrel
  by_cases hlt:k<ls.length
  ·obtain⟨pk,po,rfl,hpk,hcs⟩:=HE.out (by intro e;simp[e] at hlt)
   obtain⟨u,hu1,hu2⟩:=hcs k hlt
   have p0:=(HF.out.cell (o:=po+k) hpk (fun h=>h)).trans hu1
   have HI:Hd (IA wr u ls[k]):=hu2.stay HF.out
   have hzk:ls[k].length≤3000000000:=HLL.out _ (List.getElem_mem hlt)
   have HT:Hd (ls.take (k+1)=ls.take k++[ls[k]]):=by unfold Hd;rw[List.take_add_one,List.getElem?_eq_getElem hlt];rfl
   have HUL:Hd (us.length=k):=by have h9:=HO.out.len;unfold Hd;rw[h9,List.length_take];omega
   obtain⟨va,vc,eu,-⟩:=hu2
   generalize ls[k]=z at *
   subst eu
   have hk0:(0:Int)≤k:=by omega
   have hk1:(k:Int)<ls.length:=by omega
   clear hcs hu1
   go_wp2_with fail
   refine(show Calls Tryz.prog 53 #[.slice va z.length vc,vI m] wr _ from room_any _ z m wr HI.out hzk hm hm0).mono ?_
   rintro e w2 ⟨x,rfl,hx,hF2⟩
   have HX:Hd (SpI w2 w.heap.size x z m):=hx.mono HF.out.size
   obtain⟨xa,xc,ex⟩:∃ xa xc,x = .slice (some ⟨xa,0,none⟩) z.length xc:=by obtain⟨xa,xc,e,-⟩:=hx;exact⟨xa,xc,e⟩
   have HF2:Hd (Fr (fun _=>False) w w2):=HF.out.trans hF2
   have hsz:=HF2.out.size
   have HO1:Hd (SpLs (w2.alloc (.cells #[x] 30)) w.heap.size u5 us (ls.take k) m 0):=(HO.out.stay hF2).stay (Fr.alloc (Fr.refl _ _) _)
   have HX1:Hd (SpI (w2.alloc (.cells #[x] 30)) w.heap.size x z m):=HX.out.stay (Fr.alloc (Fr.refl (fun _=>False) _) _)
   have hnews:∀ j u,[x][j]?=some u→(w2.alloc (.cells #[x] 30)).cell? ((⟨w2.heap.size,0,none⟩:Addr).add j)=some u :=
    World.news_of_block (cs:=#[x]) (heap_new w2 (.cells #[x] 30))
   have hbase:w.heap.size≤(w2.alloc (.cells #[x] 30)).heap.size:=by simp;omega
   have hUl:us.length+1≤3000000001:=by have:=HUL.out;omega
   subst ex
   clear hx hF2 HF HO HI p0
   go_wp2_with ((at_builtin;refine Hd.out ?_))
   unfold Hd
   refine wpList_append_lies _ rfl (.tmp 21) (.tmp 23) 31 rfl w.heap.size 30 i22 (.slice none 0 0) 1 24 underL32 hi22 hz22 hs22 hb22 rfl (by omega) u5 us.length _ rfl HO1.out.row ⟨w2.heap.size,0,none⟩ 1 1 [.slice (some ⟨xa,0,none⟩) z.length xc] rfl rfl hnews (by intro u hu;simp at hu;subst hu;rfl) (by omega) (by unfold maxLen;omega) (by omega) hbase (w2.heap.size+1) (by simp) ?_
   intro g6 cap6 w6 hown6 hgrow6 hat6 hlt6
   have HO6:Hd (SpLs w6 w.heap.size (.slice (some ⟨g6,0,none⟩) (us.length+1) cap6) (us++[.slice (some ⟨xa,0,none⟩) z.length xc]) (ls.take (k+1)) m 0):=by unfold Hd;rw[HT.out];exact HO1.out.app1 HX1.out hgrow6 hown6
   have HF6:Hd (Fr (fun _=>False) w w6):=grow_fr0 (HF2.out.alloc _) hgrow6 (fun k hk=>(World.ownsRow.lt HO1.out.row k hk).1)
   clear hown6 hgrow6 hat6 hlt6 HO1 hnews hbase HF2 HX HX1
   go_wp2_with fail
   exact⟨⟨k+1,_,by simp,by omega,HO6.out,HF6.out⟩,by simp;omega⟩
  ·have hdk:decide ((k:Int)<ls.length)=false:=by simp;omega
   have HO2:Hd (SpLs wr w.heap.size u5 us ls m 0):=by have:=HO.out;rw[List.take_of_length_le (by omega)] at this;exact this
   clear HO
   go_wp2_with fail
   clear hdk
   obtain⟨wo,hwo⟩:∃ wo,wo=wr:=⟨_,rfl⟩
   rw[← hwo] at HO2 HF ⊢
   clear hwo
   go_loopw [5,8] (fun mv v wr=>∃ (k:Nat) (us:List Value),v = .int .i64 k∧k≤64∧Hd (SpLs wr w.heap.size mv us ls m k)∧Hd (Fr (fun _=>False) w wr)) (fun _ v _=>match v with | .int _ q=>64-q.toNat | _=>0)
   case atStart=>exact⟨0,us,rfl,Nat.zero_le _,HO2.out,HF.out⟩
   case round =>
    clear HO2 HF
    obtain⟨k,us,rfl,hk,HO,HF⟩:=hrel
    by_cases hlt:k<64
    ·have hk0:(0:Int)≤k:=by omega
     have hk1:(k:Int)<64:=by omega
     have hw:IntKind.i64.wrap (m-(k:Int))=m-(k:Int):=by simp[IntKind.wrap,IntKind.bits,IntKind.signed];omega
     have hsz:=HF.out.size
     obtain⟨wb,hwb⟩:∃ wb,wb=wr.alloc (.cells #[vI (m-(k:Int))] 3):=⟨_,rfl⟩
     have HWB:Hd (wb=wr.alloc (.cells #[vI (m-(k:Int))] 3)):=hwb
     have HXb:Hd (IOwn wb w.heap.size (.slice (some ⟨wr.heap.size,0,none⟩) 1 1) [m-(k:Int)]):=by unfold Hd;rw[hwb];exact iown_one wr _ hsz
     have hFb:Fr (fun _=>False) wr wb:=by rw[hwb];exact Fr.alloc (Fr.refl _ _) _
     have hwz:wb.heap.size=wr.heap.size+1:=by rw[hwb];simp
     obtain⟨q,hq⟩:∃ q,q=wr.heap.size:=⟨_,rfl⟩
     have HQ:Hd (q=wr.heap.size):=hq
     rw[← hq] at HXb hwz
     have HFc:Hd (Fr (fun _=>False) wb (wb.alloc (.cells #[.slice (some ⟨q,0,none⟩) 1 1] 30))):=Fr.alloc (Fr.refl _ _) _
     have HO1:Hd (SpLs (wb.alloc (.cells #[.slice (some ⟨q,0,none⟩) 1 1] 30)) w.heap.size u5 us ls m k):=HO.out.stay (hFb.trans HFc.out)
     have HX1:Hd (IOwn (wb.alloc (.cells #[.slice (some ⟨q,0,none⟩) 1 1] 30)) w.heap.size (.slice (some ⟨q,0,none⟩) 1 1) [m-(k:Int)]):=HXb.out.fr HFc.out (fun _ _ e=>e)
     have hnews:∀ j u,[Value.slice (some ⟨q,0,none⟩) 1 1][j]?=some u→(wb.alloc (.cells #[.slice (some ⟨q,0,none⟩) 1 1] 30)).cell? ((⟨q+1,0,none⟩:Addr).add j)=some u:=by
      rw[← hwz]
      exact World.news_of_block (cs:=#[.slice (some ⟨q,0,none⟩) 1 1]) (heap_new wb _)
     have hbase:w.heap.size≤(wb.alloc (.cells #[.slice (some ⟨q,0,none⟩) 1 1] 30)).heap.size:=by simp;omega
     have hUl:us.length+1≤3000000065:=by have:=HO.out.len;omega
     have HF1:Hd (Fr (fun _=>False) w (wb.alloc (.cells #[.slice (some ⟨q,0,none⟩) 1 1] 30))):=(HF.out.trans hFb).trans HFc.out
     clear hwb hFb hq HO HF HXb
     go_wp2_with ((at_builtin;refine Hd.out ?_))
     rw[← HWB.out,← HQ.out]
     clear HWB
     unfold Hd
     refine wpList_append_lies _ rfl (.tmp 29) (.tmp 34) 31 rfl w.heap.size 30 i22 (.slice none 0 0) 1 24 underL32 hi22 hz22 hs22 hb22 rfl (by omega) u5 us.length _ rfl HO1.out.row ⟨q+1,0,none⟩ 1 1 [.slice (some ⟨q,0,none⟩) 1 1] rfl rfl hnews (by intro u hu;simp at hu;subst hu;rfl) (by omega) (by unfold maxLen;omega) (by omega) hbase (q+2) (by simp[hwz]) ?_
     intro g6 cap6 w6 hown6 hgrow6 hat6 hlt6
     have HO6:Hd (SpLs w6 w.heap.size (.slice (some ⟨g6,0,none⟩) (us.length+1) cap6) (us++[.slice (some ⟨q,0,none⟩) 1 1]) ls m (k+1)):=HO1.out.app2 HX1.out hgrow6 hown6
     have HF6:Hd (Fr (fun _=>False) w w6):=grow_fr0 HF1.out hgrow6 (fun k hk=>(World.ownsRow.lt HO1.out.row k hk).1)
     clear hown6 hgrow6 hat6 hlt6 HO1 hnews hbase HF1 HX1 HFc
     go_wp2_with fail
     exact⟨⟨k+1,_,by simp,by omega,HO6.out,HF6.out⟩,by simp;omega⟩
    ·have hke:k=64:=by omega
     subst hke
     have hlen:us.length=ls.length+64:=HO.out.len
     obtain⟨g,cap,rfl,hcap⟩:∃ g cap,u5 = .slice (some ⟨g,0,none⟩) (ls.length+64) cap∧ls.length+64≤cap:=by
      rcases HO.out.row.2 with⟨-,h3⟩|⟨g,cap,cur,e,-,-,h5,-⟩
      ·omega
      ·rw[hlen] at e h5;exact⟨g,cap,e,h5⟩
     have HEn:Hd (SpL wr w.heap.size (.slice (some ⟨g,0,none⟩) ls.length cap) ls m):=⟨g,cap,us,rfl,hcap,HO.out⟩
     have hn0:(0:Int)≤ls.length:=by omega
     have hn1:(ls.length:Int)≤cap:=by omega
     clear hlen HO
     go_wp2_with fail
     go_ret
     exact⟨_,rfl,HEn.out,HF.out⟩
set_option maxRecDepth 100000
set_option maxHeartbeats 1000000
theorem SpLs.cell {w:World}{B g n cap:Nat}{us:List Value}{ls:List (List Int)}{m:Int}{k:Nat}(h:SpLs w B (.slice (some ⟨g,0,none⟩) n cap) us ls m k){j:Nat}(hj:j<us.length):g<w.heap.size∧w.cell? ⟨g,j,none⟩=some us[j]:=by
 obtain⟨g',cap',e,h1,h2⟩:=own_cell h.row (j:=j) (u:=us[j]) (by simp[hj])
 injection e with e1
 simp at e1
 subst e1
 exact⟨h1,h2⟩
theorem SpL.la {w:World}{B:Nat}{v:Value}{ls:List (List Int)}{m:Int}(h:SpL w B v ls m):LA w v ls:=by
 obtain⟨g,cap,us,rfl,hc,h⟩:=h
 have hl:=h.len
 refine⟨_,cap,rfl,fun hne=>?_⟩
 have hp:0<ls.length:=List.length_pos_iff.2 hne
 refine⟨g,0,rfl,(h.cell (j:=0) (by omega)).1,fun j hj=>?_⟩
 rw[Nat.zero_add]
 exact⟨us[j],(h.cell (j:=j) (by omega)).2,(h.ints j (by omega) hj).ia⟩
theorem keptLists_any (v:Value)(ls:List (List Int))(m:Int)(B:Nat)(w:World)(h:SpL w B v ls m)(hel:ls.length≤3000000000)(hll:∀ l∈ls,l.length≤3000000000)(hm : -1000≤m)(hm0:m≤0) :
 Calls Tryz.prog 63 #[v,vI m] w fun e w'=>e = .returned (.bool true)∧w'=w:=by
 obtain⟨g,cap,us,rfl,hcap,h⟩:=h
 have hl:=h.len
 have HC1:Hd (∀ k,k<ls.length→∃ x l,w.cell? ⟨g,k,none⟩=some x∧SpI w B x l m∧l.length≤3000000000):=fun k hk=>⟨us[k],ls[k],(h.cell (j:=k) (by omega)).2,h.ints k (by omega) hk,hll _ (List.getElem_mem hk)⟩
 have HC2:Hd (∀ k,k<64→∃ q,w.cell? ⟨g,ls.length+k,none⟩=some (.slice (some ⟨q,0,none⟩) 1 1)∧w.cell? ⟨q,0,none⟩=some (vI (m-(k:Int)))):=fun k hk=>by
  have h1:=(h.cell (j:=ls.length+k) (by omega)).2
  obtain⟨h2,q,h3⟩:=h.mrk (ls.length+k) (by omega) (by omega)
  rw[h3] at h1 h2
  refine⟨q,h1,?_⟩
  obtain⟨q',cap',e,-,h5⟩:=own_cell h2 (j:=0) (u:=vI (m-((ls.length+k-ls.length:Nat):Int))) rfl
  injection e with e1
  simp at e1
  subst e1
  rw[h5,Nat.add_sub_cancel_left]
 obtain⟨n,hnl⟩:∃ n,n=ls.length:=⟨_,rfl⟩
 rw[← hnl] at hel hcap HC1 HC2 ⊢
 clear hnl h hl hll
 have hn0:(0:Int)≤(n:Int)+64:=by omega
 have hn1:(n:Int)+64≤cap:=by omega
 have ht:((n:Int)+64).toNat=n+64:=by omega
 go_enter Tryz.func63,Tryz.ntmps63
 go_wp2_with fail
 go_loopw [5] (fun v wr=>∃ (k:Nat),v = .int .i64 k∧k≤n∧wr=w) (fun v _=>match v with | .int _ q=>n-q.toNat | _=>0)
 case atStart=>exact⟨0,rfl,by omega,rfl⟩
 case round =>
  obtain⟨k,rfl,hk,rfl⟩:=hrel
  by_cases hlt:k<n
  ·have hk0:(0:Int)≤k:=by omega
   have hk1:(k:Int)<n:=by omega
   obtain⟨x,l,p0,hx,hll⟩:=HC1.out k hlt
   obtain⟨xa,xc,ex⟩:∃ xa xc,x = .slice (some ⟨xa,0,none⟩) l.length xc:=by obtain⟨xa,xc,e,-⟩:=hx;exact⟨xa,xc,e⟩
   have HK:Hd (Calls Tryz.prog 62 #[x,vI m] wr fun e w'=>e = .returned (.bool true)∧w'=wr):=kept_any x l m B wr hx hll hm hm0
   subst ex
   clear hx
   go_wp2_with fail
   refine HK.out.mono ?_
   rintro e w2 ⟨rfl,rfl⟩
   go_wp2_with fail
   exact⟨⟨k+1,by simp,by omega,by trivial⟩,by simp;omega⟩
  ·have hke:k=n:=by omega
   have dk:decide ((k:Int)<n)=false:=by simp;omega
   clear hke
   go_wp2_with fail
   clear dk
   obtain⟨wo,hwo⟩:∃ wo,wo=wr:=⟨_,rfl⟩
   have HWO:Hd (wo=wr):=hwo
   rw[← hwo] at HC1 HC2 ⊢
   clear hwo
   go_loopw [8] (fun v wr=>∃ (k:Nat),v = .int .i64 k∧k≤64∧wr=wo) (fun v _=>match v with | .int _ q=>64-q.toNat | _=>0)
   case atStart=>exact⟨0,rfl,by omega,rfl⟩
   case round =>
    obtain⟨k,rfl,hk,rfl⟩:=hrel
    by_cases hlt:k<64
    ·have hk0:(0:Int)≤(n:Int)+k:=by omega
     have hk1:(k:Int)<64:=by omega
     have hk3:(n:Int)+k<((n+64:Nat):Int):=by omega
     have ht2:((n:Int)+k).toNat=n+k:=by omega
     obtain⟨q,p0,p1⟩:=HC2.out k hlt
     have hw:IntKind.i64.wrap (m-(k:Int))=m-(k:Int):=by simp[IntKind.wrap,IntKind.bits,IntKind.signed];omega
     go_wp2_with fail
     exact⟨⟨k+1,by simp,by omega,by trivial⟩,by simp;omega⟩
    ·have hke:k=64:=by omega
     subst hke
     go_wp2_with fail
     go_ret
     exact⟨rfl,HWO.out⟩
theorem SpL.fr33 {w w6:World}{B B' n:Nat}{v v':Value}{xs:List Value}{ls:List (List Int)}{m:Int}(h:SpL w B v ls m)(hr:w.ownsRow B' 33 2 v' n xs)(f:Fr (fun k=>v'.ownBlock=some k) w w6):SpL w6 B v ls m:=by
 obtain⟨g,cap,us,e,hc,h⟩:=h
 refine⟨g,cap,us,e,hc,ownsRow_frL h.row f (fun j e1 e2=>own_apart hr h.row (by decide) j e1 e2),h.len,fun i hi hi'=>?_,fun i hi hl=>⟨?_,(h.mrk i hi hl).2⟩⟩
 ·have k:=h.ints i hi hi'
  exact k.fr f (fun j e1 e2=>k.apart hr (by decide) j e1 e2)
 ·have k:=(h.mrk i hi hl).1
  exact k.fr f (fun j e1 e2=>own_apart hr k (by decide) j e1 e2)
abbrev rowV (x:Value × Value):List Value:=[x.1,x.2]
structure SpSs (w:World)(B:Nat)(v:Value)(L:List (Value × Value))(ss:List PS)(k:Nat):Prop where
 row:w.ownsRow B 33 2 v L.length (L.flatMap rowV)
 len:L.length=ss.length+k
 each:∀ i (h:i<L.length) (h':i<ss.length),SpI w B L[i].1 ss[i].H (-500)∧SpL w B L[i].2 ss[i].R (-700)
 mrk:∀ i (h:i<L.length),ss.length≤i→IOwn w B L[i].1 [-66-((i-ss.length:Nat):Int)]∧∃ g,L[i].1 = .slice (some ⟨g,0,none⟩) 1 1
theorem SpSs.stay {w w':World}{B:Nat}{v:Value}{L:List (Value × Value)}{ss:List PS}{k:Nat}(h:SpSs w B v L ss k)(f:Fr (fun _=>False) w w'):SpSs w' B v L ss k :=
 ⟨ownsRow_frL h.row f (fun _ _ e=>e),h.len,fun i hi hi'=>⟨(h.each i hi hi').1.stay f,(h.each i hi hi').2.stay f⟩,fun i hi hl=>⟨(h.mrk i hi hl).1.fr f (fun _ _ e=>e),(h.mrk i hi hl).2⟩⟩
theorem SpSs.nil (w:World)(B:Nat):SpSs w B (.slice none 0 0) [] [] 0:=⟨World.ownsRow_nil _ _ _ _,rfl,fun i h=>by simp at h,fun i h=>by simp at h⟩
theorem SpSs.app1 {w w6:World}{B g cap:Nat}{v x y:Value}{L:List (Value × Value)}{ss:List PS}{s:PS}(h:SpSs w B v L ss 0)(hx:SpI w B x s.H (-500))(hy:SpL w B y s.R (-700))(hg:w.grownBy w6 v.ownBlock)(ho:w6.ownsRow B 33 2 (.slice (some ⟨g,0,none⟩) (L.length+1) cap) (L.length+1) (L.flatMap rowV++[x,y])) :
 SpSs w6 B (.slice (some ⟨g,0,none⟩) (L.length+1) cap) (L++[(x,y)]) (ss++[s]) 0:=by
 have f:=grown_frL hg
 refine⟨?_,by simp[h.len],fun i hi hi'=>?_,fun i hi hl=>?_⟩
 ·rw[List.length_append,List.flatMap_append]
  simpa using ho
 ·by_cases e:i<L.length
  ·have e':i<ss.length:=by have:=h.len;omega
   have k:=h.each i e e'
   rw[List.getElem_append_left e,List.getElem_append_left e']
   exact⟨k.1.fr f (fun j e1 e2=>k.1.apart h.row (by decide) j e1 e2),k.2.fr33 h.row f⟩
  ·have e1:i=L.length:=by simp at hi;omega
   have e2:L.length=ss.length:=h.len
   subst e1
   simp[e2]
   exact⟨hx.fr f (fun j e1 e2=>hx.apart h.row (by decide) j e1 e2),hy.fr33 h.row f⟩
 ·have:=h.len
  simp at hi hl
  omega
theorem SpSs.app2 {w w6:World}{B g cap q:Nat}{v:Value}{L:List (Value × Value)}{ss:List PS}{k:Nat}(h:SpSs w B v L ss k)(hx:IOwn w B (.slice (some ⟨q,0,none⟩) 1 1) [-66-(k:Int)])(hg:w.grownBy w6 v.ownBlock)(ho:w6.ownsRow B 33 2 (.slice (some ⟨g,0,none⟩) (L.length+1) cap) (L.length+1) (L.flatMap rowV++[.slice (some ⟨q,0,none⟩) 1 1,.slice none 0 0])) :
 SpSs w6 B (.slice (some ⟨g,0,none⟩) (L.length+1) cap) (L++[(.slice (some ⟨q,0,none⟩) 1 1,.slice none 0 0)]) ss (k+1):=by
 have f:=grown_frL hg
 refine⟨?_,by simp[h.len];omega,fun i hi hi'=>?_,fun i hi hl=>?_⟩
 ·rw[List.length_append,List.flatMap_append]
  simpa using ho
 ·have e:i<L.length:=by have:=h.len;omega
  have k:=h.each i e hi'
  rw[List.getElem_append_left e]
  exact⟨k.1.fr f (fun j e1 e2=>k.1.apart h.row (by decide) j e1 e2),k.2.fr33 h.row f⟩
 ·by_cases e:i<L.length
  ·have k:=h.mrk i e hl
   rw[List.getElem_append_left e]
   exact⟨k.1.fr f (fun j e1 e2=>own_apart h.row k.1 (by decide) j e1 e2),k.2⟩
  ·have e1:i=L.length:=by simp at hi;omega
   subst e1
   have e2:L.length-ss.length=k:=by have:=h.len;omega
   simp only[List.getElem_concat_length,e2]
   exact⟨hx.fr f (fun j e1 e2=>own_apart h.row hx (by decide) j e1 e2),q,rfl⟩
def SpS (w:World)(B:Nat)(v:Value)(ss:List PS):Prop :=
 ∃ g cap L,v = .slice (some ⟨g,0,none⟩) ss.length cap∧ss.length+64≤cap∧SpSs w B (.slice (some ⟨g,0,none⟩) (ss.length+64) cap) L ss 64
theorem SpS.stay {w w':World}{B:Nat}{v:Value}{ss:List PS}(h:SpS w B v ss)(f:Fr (fun _=>False) w w'):SpS w' B v ss:=by
 obtain⟨g,cap,us,e,hc,h⟩:=h
 exact⟨g,cap,us,e,hc,h.stay f⟩
def FinS (ss:List PS):Prop:=ss.length≤3000000000∧∀ s∈ss,s.H.length≤3000000000∧s.R.length≤3000000000∧∀ l∈s.R,l.length≤3000000000
end Go.Proofs.YtdkijecnnmncnaaGreatDoor
