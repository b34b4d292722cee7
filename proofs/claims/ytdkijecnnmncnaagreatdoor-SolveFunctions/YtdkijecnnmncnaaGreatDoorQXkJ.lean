import Derived.Test.YtdkijecnnmncnaaGreatDoorQXgJ
set_option linter.unusedVariables false
set_option linter.unusedSimpArgs false
namespace Go.Proofs.YtdkijecnnmncnaaGreatDoor
open Go.RowKit (wrap32 wrap64)
set_option maxRecDepth 100000
set_option maxHeartbeats 2000000
theorem stays_any (G:Int)(sv pv:Value)(fs:List PF)(B:Nat)(w:World)(h:SpF w B sv fs)(h2:FA w pv fs)(hF:FinP fs) :
 Calls Tryz.prog 24 #[.agg #[vI G,sv],.agg #[vI G,pv]] w fun e w'=>e = .returned (.bool true)∧Fr (fun _=>False) w w':=by
 obtain⟨g,cap,L,rfl,hcap,h⟩:=h
 have hl:=h.len
 have hel:=hF.1
 obtain⟨pa,pc,rfl,hp⟩:=h2
 have HP:Hd (∀ wx,Fr (fun _=>False) w wx→∀ k (hk:k<fs.length),∃ pk po y,pa=some ⟨pk,po,none⟩∧wx.cell? ⟨pk,po+k*4,none⟩=some (vI fs[k].P)∧wx.cell? ⟨pk,po+k*4+1,none⟩=some (vI fs[k].R)∧wx.cell? ⟨pk,po+k*4+2,none⟩=some (vI fs[k].V)∧wx.cell? ⟨pk,po+k*4+3,none⟩=some y∧CA wx y fs[k].code):=fun wx hx k hk=>by
  obtain⟨pk,po,e,h1,h2⟩:=hp (by intro e;simp[e] at hk)
  obtain⟨y,c0,c1,c2,c3,hy⟩:=h2 k hk
  have m:=fun o=>hx.cell (o:=o) h1 (fun e=>e)
  exact⟨pk,po,y,e,(m _).trans c0,(m _).trans c1,(m _).trans c2,(m _).trans c3,hy.stay hx⟩
 have HS:Hd (∀ wx,Fr (fun _=>False) w wx→∀ k (hk:k<fs.length),∃ x,wx.cell? ⟨g,k*4,none⟩=some (vI fs[k].P)∧wx.cell? ⟨g,k*4+1,none⟩=some (vI fs[k].R)∧wx.cell? ⟨g,k*4+2,none⟩=some (vI fs[k].V)∧wx.cell? ⟨g,k*4+3,none⟩=some x∧SpK wx B x fs[k].code):=fun wx hx k hk=>by
  have hh:=h.stay hx
  obtain⟨h3,h4⟩:=hh.each k (by omega) hk
  have c0:=(hh.cell (j:=k) (o:=0) (by omega) (by omega) rfl).2
  have c1:=(hh.cell (j:=k) (o:=1) (by omega) (by omega) rfl).2
  have c2:=(hh.cell (j:=k) (o:=2) (by omega) (by omega) rfl).2
  have c3:=(hh.cell (j:=k) (o:=3) (by omega) (by omega) rfl).2
  rw[h3] at c0 c1 c2
  exact⟨_,c0,c1,c2,c3,h4⟩
 have HM:Hd (∀ wx,Fr (fun _=>False) w wx→∀ k,k<64→wx.cell? ⟨g,(fs.length+k)*4,none⟩=some (vI (-76-(k:Int)))):=fun wx hx k hk=>by
  have hh:=h.stay hx
  have c0:=(hh.cell (j:=fs.length+k) (o:=0) (by omega) (by omega) rfl).2
  have h3:=hh.mrk (fs.length+k) (by omega) (by omega)
  rw[Nat.add_sub_cancel_left] at h3
  rw[h3] at c0
  exact c0
 have HCT:Hd (∀ wx k (hk:k<fs.length) x y,SpK wx B x fs[k].code→CA wx y fs[k].code→Calls Tryz.prog 64 #[.agg #[vI fs[k].P,vI fs[k].R,vI fs[k].V,x],.agg #[vI fs[k].P,vI fs[k].R,vI fs[k].V,y]] wx fun e w'=>e = .returned (.bool true)∧Fr (fun _=>False) wx w'):=fun wx k hk x y hx hy=>by
  have hB:=hF.2 _ (List.getElem_mem hk)
  exact staysFunc_any fs[k] x y B wx hx hy (by omega) (fun c hc=>by have:=hB.2 c hc;omega)
 obtain⟨wa,hwa⟩:∃ wa,wa=(w.alloc (.cells #[vI G,.slice (some ⟨g,0,none⟩) fs.length cap] 24)).alloc (.cells #[vI G,.slice pa fs.length pc] 24):=⟨_,rfl⟩
 have HWA:Hd (wa=(w.alloc (.cells #[vI G,.slice (some ⟨g,0,none⟩) fs.length cap] 24)).alloc (.cells #[vI G,.slice pa fs.length pc] 24)):=hwa
 obtain⟨H,hH⟩:∃ H,H=w.heap.size:=⟨_,rfl⟩
 have HH:Hd (H=w.heap.size):=hH
 have hb0:wa.heap[H]?=some (.cells #[vI G,.slice (some ⟨g,0,none⟩) fs.length cap] 24):=by rw[hwa,hH];exact keepA (heap_new0 w _) _
 have hb1:wa.heap[H+1]?=some (.cells #[vI G,.slice pa fs.length pc] 24):=by
  rw[hwa,hH]
  have:=heap_new0 (w.alloc (.cells #[vI G,.slice (some ⟨g,0,none⟩) fs.length cap] 24)) (.cells #[vI G,.slice pa fs.length pc] 24)
  rw[World.size_alloc] at this
  exact this
 have HFA:Hd (Fr (fun _=>False) w wa):=by unfold Hd;rw[hwa];exact Fr.alloc (Fr.alloc (Fr.refl _ w) _) _
 have HB:Hd (∀ wx,Fr (fun _=>False) wa wx→wx.cell? ⟨H,0,none⟩=some (vI G)∧wx.cell? ⟨H,1,none⟩=some (.slice (some ⟨g,0,none⟩) fs.length cap)∧wx.cell? ⟨H+1,0,none⟩=some (vI G)∧wx.cell? ⟨H+1,1,none⟩=some (.slice pa fs.length pc)):=fun wx hx=>by
  have k0:=keepF hb0 hx
  have k1:=keepF hb1 hx
  exact⟨by rw[cell_of0 k0];rfl,by rw[cell_of0 k0];rfl,by rw[cell_of0 k1];rfl,by rw[cell_of0 k1];rfl⟩
 clear hwa hH hb0 hb1 h hl hF hp
 obtain⟨n,hnl⟩:∃ n,n=fs.length:=⟨_,rfl⟩
 have HNL:Hd (n=fs.length):=hnl
 rw[← hnl] at hel hcap HM HB HWA ⊢
 clear hnl
 have hn0:(0:Int)≤(n:Int)+64:=by omega
 have hn1:(n:Int)+64≤cap:=by omega
 have ht:((n:Int)+64).toNat=n+64:=by omega
 obtain⟨c0,c1,d0,d1⟩:=HB.out wa (Fr.refl _ _)
 go_enter Tryz.func24,Tryz.ntmps24
 go_upto_region 1 with fail
 rw[← HWA.out,← HH.out]
 clear HWA
 go_wp2_with fail
 clear c0 c1 d0 d1
 go_loopw [6] (fun v wr=>∃ (k:Nat),v = .int .i64 k∧k≤64∧wr=wa) (fun v _=>match v with | .int _ q=>64-q.toNat | _=>0)
 case atStart=>exact⟨0,rfl,by omega,rfl⟩
 case round =>
  obtain⟨k,rfl,hk,rfl⟩:=hrel
  obtain⟨c0,c1,d0,d1⟩:=HB.out wr (Fr.refl _ _)
  by_cases hlt:k<64
  ·have hk0:(0:Int)≤(n:Int)+k:=by omega
   have hk1:(k:Int)<64:=by omega
   have hk3:(n:Int)+k<((n+64:Nat):Int):=by omega
   have ht2:((n:Int)+k).toNat=n+k:=by omega
   have p0:=HM.out wr HFA.out k hlt
   have hw:IntKind.i64.wrap (-76-(k:Int)) = -76-(k:Int):=by simp[IntKind.wrap,IntKind.bits,IntKind.signed];omega
   go_wp2_with fail
   exact⟨⟨k+1,by simp,by omega,by trivial⟩,by simp;omega⟩
  ·have hd64:decide ((k:Int)<64)=false:=by simp;omega
   clear hk hlt
   go_wp2_with fail
   clear hd64 c0 c1 d0 d1
   obtain⟨wo,hwo⟩:∃ wo,wo=wr:=⟨_,rfl⟩
   rw[← hwo] at HFA HB ⊢
   clear hwo
   go_loopw [7] (fun v wr=>∃ (k:Nat),v = .int .i64 k∧k≤n∧Hd (Fr (fun _=>False) wo wr)) (fun v _=>match v with | .int _ q=>n-q.toNat | _=>0)
   case atStart=>exact⟨0,rfl,by omega,Fr.refl _ _⟩
   case round =>
    obtain⟨k,rfl,hk,HF⟩:=hrel
    obtain⟨c0,c1,d0,d1⟩:=HB.out wr HF.out
    by_cases hlt:k<n
    ·have hk0:(0:Int)≤k:=by omega
     have hk1:(k:Int)<n:=by omega
     have hkf:k<fs.length:=by have:=HNL.out;omega
     have hfd:=Fr.drew (HFA.out.trans HF.out)
     obtain⟨pk,po,y,rfl,q0,q1,q2,q3,-⟩:=HP.out wr (HFA.out.trans HF.out) k hkf
     obtain⟨x,p0,p1,p2,p3,-⟩:=HS.out wr (HFA.out.trans HF.out) k hkf
     have hct:Calls Tryz.prog 64 #[.agg #[vI fs[k].P,vI fs[k].R,vI fs[k].V,x],.agg #[vI fs[k].P,vI fs[k].R,vI fs[k].V,y]] wr.drew fun e w'=>e = .returned (.bool true)∧Fr (fun _=>False) wr.drew w':=by
      obtain⟨pk',po',y',e,-,-,-,q3',hy⟩:=HP.out wr.drew hfd k hkf
      obtain⟨x',-,-,-,p3',hx⟩:=HS.out wr.drew hfd k hkf
      cases e
      have e1:y'=y:=Option.some.inj (q3'.symm.trans q3)
      have e2:x'=x:=Option.some.inj (p3'.symm.trans p3)
      subst e1 e2
      exact HCT.out wr.drew k hkf _ _ hx hy
     obtain⟨xa,xl,xc,ex⟩:∃ xa xl xc,x = .slice xa xl xc:=by
      obtain⟨x',-,-,-,p3',hx⟩:=HS.out wr (HFA.out.trans HF.out) k hkf
      have e2:x'=x:=Option.some.inj (p3'.symm.trans p3)
      subst e2
      obtain⟨_,_,_,e,-⟩:=hx
      exact⟨_,_,_,e⟩
     obtain⟨ya,yl,yc,ey⟩:∃ xa xl xc,y = .slice xa xl xc:=by
      obtain⟨pk',po',y',e,-,-,-,q3',hy⟩:=HP.out wr (HFA.out.trans HF.out) k hkf
      cases e
      have e1:y'=y:=Option.some.inj (q3'.symm.trans q3)
      subst e1
      obtain⟨_,_,e,-⟩:=hy
      exact⟨_,_,_,e⟩
     subst ex ey
     have HC:Hd _:=hct
     generalize fs[k]=f at *
     clear hct hfd hkf
     go_upto_region 12 with fail
     refine wp_region_still_tail 10 mixed (by kernel_rfl) ?_
     simp only[List.take_succ_cons,List.take_zero,List.drop_succ_cons,List.drop_zero]
     repeat still_step
     refine wpStill_nil ?_
     go_wp2_with fail
     refine Calls.mono HC.out ?_
     rintro e w1 ⟨rfl,hF1⟩
     have HF1:Hd (Fr (fun _=>False) wo w1):=HF.out.drew.trans hF1
     clear hF1 p0 p1 p2 p3 q0 q1 q2 q3 HC c0 c1 d0 d1
     go_wp2_with fail
     exact⟨⟨k+1,by simp,by omega,HF1.out⟩,by simp;omega⟩
    ·have dk:decide ((k:Int)<n)=false:=by simp;omega
     go_wp2_with fail
     go_ret
     exact⟨rfl,HFA.out.trans HF.out⟩
set_option maxRecDepth 100000
set_option maxHeartbeats 1000000
def AllN (w:World)(k m:Nat):Prop:=∃ cs:Array Value,w.heap[k]?=some (.cells cs 3)∧m≤cs.size∧∀ j,j<m→∃ z,cs[j]?=some (vI z)
structure Tn (B:Nat)(w w':World):Prop where
 fr:Fr (fun k=>B≤k∧∃ m,AllN w k m) w w'
 ints:∀ k m,AllN w k m→AllN w' k m
theorem AllN.cell {w:World}{k m:Nat}(h:AllN w k m){j:Nat}(hj:j<m):k<w.heap.size∧(∃ z,w.cell? ⟨k,j,none⟩=some (vI z))∧w.frozen? ⟨k,j,none⟩=false:=by
 obtain⟨cs,h1,h2,h3⟩:=h
 obtain⟨z,hz⟩:=h3 j hj
 exact⟨heap_lt0 h1,⟨z,by rw[cell_of0 h1];exact hz⟩,frozen_of h1 j⟩
theorem Tn.refl (B:Nat)(w:World):Tn B w w:=⟨Fr.refl _ _,fun _ _ h=>h⟩
theorem AllN.congr {w w':World}{k m:Nat}(h:AllN w k m)(e:w'.heap[k]?=w.heap[k]?):AllN w' k m:=by
 obtain⟨cs,h1,h2⟩:=h
 exact⟨cs,e.trans h1,h2⟩
theorem Tn.trans {B:Nat}{a b c:World}(h:Tn B a b)(k:Tn B b c):Tn B a c:=by
 refine⟨h.fr.then k.fr (fun j hj e=>⟨e.1,?_⟩),fun q m hq=>k.ints q m (h.ints q m hq)⟩
 obtain⟨m,hm⟩:=e.2
 by_cases e2:B≤j∧∃ m,AllN a j m
 ·exact e2.2
 ·exact⟨m,hm.congr (h.fr.block j hj e2).symm⟩
theorem Tn.set {B:Nat}{w:World}{g m:Nat}(h:AllN w g m)(hB:B≤g)(j:Nat)(z:Int):Tn B w (w.setCell ⟨g,j,none⟩ (vI z)):=by
 have f:=setCell_fr w g j (vI z)
 refine⟨f.mono (fun k _ e=>by subst e;exact⟨hB,m,h⟩),fun k q hk=>?_⟩
 by_cases e:k=g
 ·subst e
  obtain⟨cs,h1,h2,h3⟩:=hk
  refine⟨cs.setIfInBounds j (vI z),set_of h1 j _,by simpa using h2,fun i hi=>?_⟩
  by_cases e2:j=i
  ·subst e2
   exact⟨z,by rw[Array.getElem?_setIfInBounds,if_pos rfl,if_pos (Nat.lt_of_lt_of_le hi h2)]⟩
  ·obtain⟨y,hy⟩:=h3 i hi
   exact⟨y,by rw[Array.getElem?_setIfInBounds,if_neg e2];exact hy⟩
 ·have hlt:k<w.heap.size:=by obtain⟨cs,h1,-⟩:=hk;exact heap_lt0 h1
  exact hk.congr (f.block k hlt e)
theorem Tn.stay {B:Nat}{a b c:World}(h:Tn B a b)(f:Fr (fun _=>False) b c):Tn B a c :=
 h.trans ⟨f.mono (fun _ _ e=>e.elim),fun k m hk=>by
  obtain⟨cs,h1,h2⟩:=hk
  exact⟨cs,keepF h1 f,h2⟩⟩
def NL (w:World)(B:Nat)(v:Value)(n:Nat):Prop:=∃ g cap m,v = .slice (some ⟨g,0,none⟩) n cap∧n≤m∧B≤g∧AllN w g m
theorem NL.tn {w w':World}{B:Nat}{v:Value}{n:Nat}(h:NL w B v n)(t:Tn B w w'):NL w' B v n:=by
 obtain⟨g,cap,m,e,h1,h2,h3⟩:=h
 exact⟨g,cap,m,e,h1,h2,t.ints _ _ h3⟩
theorem NL.ia {w:World}{B:Nat}{v:Value}{n:Nat}(h:NL w B v n):∃ l:List Int,l.length=n∧IA w v l:=by
 obtain⟨g,cap,m,rfl,h1,h2,cs,h3,h4,h5⟩:=h
 have hz:∀ j,j<n→∃ z,cs[j]?=some (vI z):=fun j hj=>h5 j (by omega)
 have hf:∃ f:Nat→Int,∀ j,j<n→cs[j]?=some (vI (f j)):=⟨fun j=>if h:j<n then (hz j h).choose else 0,fun j hj=>by
  simp only[dif_pos hj]
  exact(hz j hj).choose_spec⟩
 obtain⟨f,hf⟩:=hf
 refine⟨(List.range n).map f,by simp,_,cap,by simp,fun _=>⟨g,0,rfl,heap_lt0 h3,fun j hj=>?_⟩⟩
 have hj':j<n:=by simpa using hj
 rw[Nat.zero_add,cell_of0 h3,hf j hj']
 simp
theorem turnNumbers_any (v:Value)(n B:Nat)(w:World)(h:NL w B v n)(hn:n≤3000000000) :
 Calls Tryz.prog 65 #[v] w fun e w'=>e = .returned (.tuple #[])∧Tn B w w':=by
 obtain⟨g,cap,m,rfl,hnm,hB,hA⟩:=h
 have HA:Hd (AllN w g m):=hA
 clear hA
 go_enter Tryz.func65,Tryz.ntmps65
 go_wp2_with fail
 go_loopw [2] (fun v wr=>∃ (k:Nat),v = .int .i64 k∧k≤n∧Hd (Tn B w wr)) (fun v _=>match v with | .int _ q=>n-q.toNat | _=>0)
 case atStart=>exact⟨0,rfl,Nat.zero_le _,Tn.refl _ _⟩
 case round =>
  obtain⟨k,rfl,hk,HT⟩:=hrel
  by_cases hlt:k<n
  ·have hk0:(0:Int)≤k:=by omega
   have hk1:(k:Int)<n:=by omega
   have hAr:=HT.out.ints _ _ HA.out
   obtain⟨-,⟨z,p0⟩,z0⟩:=hAr.cell (j:=k) (by omega)
   have HT0:Hd (Tn B w (wr.setCell ⟨g,k,none⟩ (vI 0))):=HT.out.trans (Tn.set hAr hB k 0)
   have HT9:Hd (Tn B w (wr.setCell ⟨g,k,none⟩ (vI 9))):=HT.out.trans (Tn.set hAr hB k 9)
   clear hAr
   by_cases h9:z=9
   ·have e1:(z==9)=true:=by simp[h9]
    clear h9
    go_wp2_with fail
    exact⟨⟨k+1,by simp,by omega,HT0.out⟩,by simp;omega⟩
   ·have e1:(z==9)=false:=by simp[h9]
    clear h9
    go_wp2_with fail
    exact⟨⟨k+1,by simp,by omega,HT9.out⟩,by simp;omega⟩
  ·have dk:decide ((k:Int)<n)=false:=by simp;omega
   go_wp2_with fail
   go_end0
   exact⟨rfl,HT.out⟩
set_option maxRecDepth 100000
set_option maxHeartbeats 1000000
theorem Tn.other {B:Nat}{w w':World}(h:Tn B w w'){k t:Nat}{cs:Array Value}(hk:w.heap[k]?=some (.cells cs t))(ht:t≠3):w'.heap[k]?=some (.cells cs t):=by
 refine(h.fr.block k (heap_lt0 hk) (fun e=>?_)).trans hk
 obtain⟨-,m,cs',h1,-⟩:=e
 rw[hk] at h1
 injection h1 with h1
 injection h1 with _ h2
 exact ht h2
def NS (w:World)(B:Nat)(v:Value)(N:Nat)(hn rn:Nat→Nat)(ln:Nat→Nat→Nat):Prop :=
 ∃ g cap cs,v = .slice (some ⟨g,0,none⟩) N cap∧w.heap[g]?=some (.cells cs 33)∧∀ i,i<N→∃ hv gr rc rs,cs[i*2]?=some hv∧cs[i*2+1]?=some (.slice (some ⟨gr,0,none⟩) (rn i) rc)∧NL w B hv (hn i)∧w.heap[gr]?=some (.cells rs 30)∧∀ j,j<rn i→∃ u,rs[j]?=some u∧NL w B u (ln i j)
theorem NS.tn {w w':World}{B:Nat}{v:Value}{N:Nat}{hn rn:Nat→Nat}{ln:Nat→Nat→Nat}(h:NS w B v N hn rn ln)(t:Tn B w w'):NS w' B v N hn rn ln:=by
 obtain⟨g,cap,cs,e,h1,h2⟩:=h
 refine⟨g,cap,cs,e,t.other h1 (by decide),fun i hi=>?_⟩
 obtain⟨hv,gr,rc,rs,k1,k2,k3,k4,k5⟩:=h2 i hi
 refine⟨hv,gr,rc,rs,k1,k2,k3.tn t,t.other k4 (by decide),fun j hj=>?_⟩
 obtain⟨u,u1,u2⟩:=k5 j hj
 exact⟨u,u1,u2.tn t⟩
theorem iown_all {w:World}{B g cap n:Nat}{l:List Int}(h:IOwn w B (.slice (some ⟨g,0,none⟩) n cap) l):B≤g∧AllN w g l.length:=by
 rcases h.2 with⟨e,-⟩|⟨g',cap',cur,e,h1,h2,h3,h4,h5,h6⟩
 ·cases e
 ·injection e with e1
  simp at e1
  subst e1
  refine⟨h1,cur,h2,by omega,fun j hj=>⟨l[j],?_⟩⟩
  have hc:cur.toList[j]?=some (vI l[j]):=by
   have k:=congrArg (fun x=>x[j]?) h6
   simp only[Nat.mul_one,List.getElem?_take,if_pos hj,List.getElem?_map,List.getElem?_eq_getElem hj] at k
   simpa using k
  simpa using hc
theorem SpI.nl {w:World}{B:Nat}{v:Value}{l:List Int}{m:Int}(h:SpI w B v l m):NL w B v l.length:=by
 obtain⟨g,cap,rfl,hc,h⟩:=h
 obtain⟨h1,h2⟩:=iown_all h
 exact⟨g,cap,_,rfl,by simp,h1,h2⟩
def hnX (ss:List PS)(i:Nat):Nat:=(ss.getD i dPS).H.length
def rnX (ss:List PS)(i:Nat):Nat:=(ss.getD i dPS).R.length
def lnX (ss:List PS)(i j:Nat):Nat:=((ss.getD i dPS).R.getD j []).length
theorem row_cells {w:World}{B e sz g n cap:Nat}{xs:List Value}(h:w.ownsRow B e sz (.slice (some ⟨g,0,none⟩) n cap) n xs):∃ cs:Array Value,w.heap[g]?=some (.cells cs e)∧∀ (j:Nat) (u:Value),xs[j]?=some u→cs[j]?=some u:=by
 rcases h.2 with⟨e1,-⟩|⟨g',cap',cur,e1,h1,h2,h3,h4,h5,h6⟩
 ·cases e1
 ·injection e1 with e2
  simp at e2
  subst e2
  refine⟨cur,h2,fun j u hj=>?_⟩
  rw[← h6,List.getElem?_take] at hj
  split at hj
  ·simpa using hj
  ·cases hj
theorem SpS.ns {w:World}{B:Nat}{v:Value}{ss:List PS}(h:SpS w B v ss):NS w B v ss.length (hnX ss) (rnX ss) (lnX ss):=by
 obtain⟨g,cap,L,rfl,hc,h⟩:=h
 have hl:=h.len
 have hrow:=h.row
 rw[hl] at hrow
 obtain⟨cs,h1,h2⟩:=row_cells hrow
 refine⟨g,cap,cs,rfl,h1,fun i hi=>?_⟩
 have hiL:i<L.length:=by omega
 obtain⟨k1,k2⟩:=h.each i hiL hi
 have c0:=h2 (i*2+0) L[i].1 (by rw[flat_get rowV 2 (fun _=>rfl) L i 0 hiL (by omega)];rfl)
 have c1:=h2 (i*2+1) L[i].2 (by rw[flat_get rowV 2 (fun _=>rfl) L i 1 hiL (by omega)];rfl)
 have hg:ss.getD i dPS=ss[i]:=by simp[List.getD,hi]
 obtain⟨gr,rc,us,e,hrc,k2⟩:=k2
 have hul:=k2.len
 have hr2:=k2.row
 rw[hul] at hr2
 obtain⟨rs,r1,r2⟩:=row_cells hr2
 rw[e] at c1
 refine⟨L[i].1,gr,rc,rs,c0,by unfold rnX;rw[hg];exact c1,by unfold hnX;rw[hg];exact k1.nl,r1,fun j hj=>?_⟩
 unfold rnX at hj
 rw[hg] at hj
 have hju:j<us.length:=by omega
 refine⟨us[j],r2 j us[j] (by simp[hju]),?_⟩
 unfold lnX
 rw[hg]
 have:ss[i].R.getD j []=ss[i].R[j]:=by simp[List.getD,hj]
 rw[this]
 exact(k2.ints j hju hj).nl
theorem turnSums_any (v:Value)(N B:Nat)(hn rn:Nat→Nat)(ln:Nat→Nat→Nat)(w:World)(h:NS w B v N hn rn ln)(b1:N≤3000000000)(b2:∀ i,i<N→hn i≤3000000000∧rn i≤3000000000∧∀ j,j<rn i→ln i j≤3000000000) :
 Calls Tryz.prog 26 #[v] w fun e w'=>e = .returned (.tuple #[])∧Tn B w w':=by
 obtain⟨g,cap,cs,rfl,h1,h2⟩:=id h
 have HN:Hd (∀ i,i<N→∃ hv gr rc,∀ wx,Tn B w wx→wx.cell? ⟨g,i*2,none⟩=some hv∧wx.cell? ⟨g,i*2+1,none⟩=some (.slice (some ⟨gr,0,none⟩) (rn i) rc)∧NL wx B hv (hn i)∧∀ j,j<rn i→∃ u,wx.cell? ⟨gr,j,none⟩=some u∧NL wx B u (ln i j)):=fun i hi=>by
  obtain⟨hv,gr,rc,rs,k1,k2,k3,k4,k5⟩:=h2 i hi
  refine⟨hv,gr,rc,fun wx t=>?_⟩
  have g1:=t.other h1 (by decide)
  have g2:=t.other k4 (by decide)
  refine⟨by rw[cell_of0 g1];exact k1,by rw[cell_of0 g1];exact k2,k3.tn t,fun j hj=>?_⟩
  obtain⟨u,u1,u2⟩:=k5 j hj
  exact⟨u,by rw[cell_of0 g2];exact u1,u2.tn t⟩
 have HB2:Hd (∀ i,i<N→hn i≤3000000000∧rn i≤3000000000∧∀ j,j<rn i→ln i j≤3000000000):=b2
 clear h h1 h2 b2
 go_enter Tryz.func26,Tryz.ntmps26
 go_wp2_with fail
 go_loopw [2] (fun v wr=>∃ (k:Nat),v = .int .i64 k∧k≤N∧Hd (Tn B w wr)) (fun v _=>match v with | .int _ q=>N-q.toNat | _=>0)
 case atStart=>exact⟨0,rfl,Nat.zero_le _,Tn.refl _ _⟩
 case round =>
  obtain⟨k,rfl,hk,HT⟩:=hrel
  by_cases hlt:k<N
  ·have hk0:(0:Int)≤k:=by omega
   have hk1:(k:Int)<N:=by omega
   obtain⟨hv,gr,rc,hN⟩:=HN.out k hlt
   obtain⟨p0,p1,hNL,-⟩:=hN wr HT.out
   have HR:Hd (∀ wx,Tn B w wx→wx.cell? ⟨g,k*2+1,none⟩=some (.slice (some ⟨gr,0,none⟩) (rn k) rc)∧∀ j,j<rn k→∃ u,wx.cell? ⟨gr,j,none⟩=some u∧NL wx B u (ln k j)):=fun wx t=>⟨(hN wx t).2.1,(hN wx t).2.2.2⟩
   clear hN
   obtain⟨b3,b4,b5⟩:=HB2.out k hlt
   have HC:Hd (Calls Tryz.prog 65 #[hv] wr fun e w'=>e = .returned (.tuple #[])∧Tn B wr w'):=turnNumbers_any hv (hn k) B wr hNL b3
   obtain⟨ha,hc,-,ev,-⟩:=hNL
   subst ev
   have HB5:Hd (∀ j,j<rn k→ln k j≤3000000000):=b5
   clear b5 p1
   go_wp2_with fail
   refine HC.out.mono ?_
   rintro e w2 ⟨rfl,hT2⟩
   have HT2:Hd (Tn B w w2):=HT.out.trans hT2
   clear hT2 HT HC p0
   obtain⟨nr,hnr⟩:∃ nr,nr=rn k:=⟨_,rfl⟩
   have HNR:Hd (nr=rn k):=hnr
   rw[← hnr] at b4 HR
   clear hnr
   go_wp2_with fail
   go_loopw [3] (fun v wr=>∃ (j:Nat),v = .int .i64 j∧j≤nr∧Hd (Tn B w wr)) (fun v _=>match v with | .int _ q=>nr-q.toNat | _=>0)
   case atStart=>exact⟨0,rfl,Nat.zero_le _,HT2.out⟩
   case round =>
    clear HT2
    obtain⟨j,rfl,hj,HT⟩:=hrel
    obtain⟨p1,hR⟩:=HR.out wr HT.out
    by_cases hlt2:j<nr
    ·have hj0:(0:Int)≤j:=by omega
     have hj1:(j:Int)<nr:=by omega
     obtain⟨u,q0,hNL⟩:=hR j hlt2
     have HC:Hd (Calls Tryz.prog 65 #[u] wr fun e w'=>e = .returned (.tuple #[])∧Tn B wr w'):=turnNumbers_any u (ln k j) B wr hNL (HB5.out j (by have:=HNR.out;omega))
     obtain⟨ua,uc,-,eu,-⟩:=hNL
     subst eu
     clear hR
     go_wp2_with fail
     refine HC.out.mono ?_
     rintro e w3 ⟨rfl,hT3⟩
     have HT3:Hd (Tn B w w3):=HT.out.trans hT3
     clear hT3 HT HC p1 q0
     go_wp2_with fail
     exact⟨⟨j+1,by simp,by omega,HT3.out⟩,by simp;omega⟩
    ·have dj:decide ((j:Int)<nr)=false:=by simp;omega
     clear hR
     go_wp2_with fail
     exact⟨⟨k+1,by simp,by omega,HT.out⟩,by simp;omega⟩
  ·have dk:decide ((k:Int)<N)=false:=by simp;omega
   go_wp2_with fail
   go_end0
   exact⟨rfl,HT.out⟩
theorem list_of {α:Type}{P:Nat→α→Prop}:∀ (n:Nat),(∀ i,i<n→∃ x,P i x)→∃ l:List α,l.length=n∧∀ i (h:i<l.length),P i l[i]
 | 0,_=>⟨[],rfl,fun i h=>by simp at h⟩
 | n+1,h=>by
   obtain⟨l,h1,h2⟩:=list_of n (fun i hi=>h i (by omega))
   obtain⟨x,hx⟩:=h n (by omega)
   refine⟨l++[x],by simp[h1],fun i hi=>?_⟩
   by_cases e:i<l.length
   ·rw[List.getElem_append_left e]
    exact h2 i e
   ·have e1:i=l.length:=by simp at hi;omega
    subst e1
    simp
    rw[h1]
    exact hx
theorem NS.ssa {w:World}{B:Nat}{v:Value}{N:Nat}{hn rn:Nat→Nat}{ln:Nat→Nat→Nat}(h:NS w B v N hn rn ln)(b1:N≤3000000000)(b2:∀ i,i<N→hn i≤3000000000∧rn i≤3000000000∧∀ j,j<rn i→ln i j≤3000000000):∃ ss:List PS,ss.length=N∧SsA w v ss∧FinS ss:=by
 obtain⟨g,cap,cs,rfl,h1,h2⟩:=h
 obtain⟨ss,hl,hs⟩:=list_of (P:=fun i (s:PS)=>(s.H.length≤3000000000∧s.R.length≤3000000000∧∀ l∈s.R,l.length≤3000000000)∧∃ hv rv,w.cell? ⟨g,i*2,none⟩=some hv∧w.cell? ⟨g,i*2+1,none⟩=some rv∧IA w hv s.H∧LA w rv s.R) N (fun i hi=>by
  obtain⟨hv,gr,rc,rs,k1,k2,k3,k4,k5⟩:=h2 i hi
  obtain⟨b3,b4,b5⟩:=b2 i hi
  obtain⟨l,l1,l2⟩:=k3.ia
  obtain⟨R,r1,r2⟩:=list_of (P:=fun j (l:List Int)=>l.length≤3000000000∧∃ u,w.cell? ⟨gr,j,none⟩=some u∧IA w u l) (rn i) (fun j hj=>by
   obtain⟨u,u1,u2⟩:=k5 j hj
   obtain⟨l,l1,l2⟩:=u2.ia
   exact⟨l,by rw[l1];exact b5 j hj,u,by rw[cell_of0 k4];exact u1,l2⟩)
  refine⟨⟨l,R⟩,⟨by simp only;omega,by simp only;omega,fun x hx=>?_⟩,hv,_,by rw[cell_of0 h1];exact k1,by rw[cell_of0 h1];exact k2,l2,?_⟩
  ·obtain⟨j,hj,e⟩:=List.getElem_of_mem hx
   rw[← e]
   exact(r2 j hj).1
  ·refine⟨_,rc,by simp only[r1],fun _=>⟨gr,0,rfl,heap_lt0 k4,fun j hj=>?_⟩⟩
   rw[Nat.zero_add]
   exact(r2 j hj).2)
 refine⟨ss,hl,⟨_,cap,by rw[hl],fun _=>⟨g,0,rfl,heap_lt0 h1,fun j hj=>?_⟩⟩,by omega,fun s hs'=>?_⟩
 ·simp only[Nat.zero_add]
  exact(hs j hj).2
 ·obtain⟨j,hj,e⟩:=List.getElem_of_mem hs'
  rw[← e]
  exact(hs j hj).1
def NB (w:World)(B:Nat)(v:Value):Prop:=∃ n,n≤2147483647∧NL w B v n
def RowC (w:World)(B:Nat)(cs:Array Value)(i:Nat):Prop :=
 ∃ a b c d e u v,cs[i*7]?=some (vI a)∧cs[i*7+1]?=some (vI b)∧cs[i*7+2]?=some (vI c)∧cs[i*7+3]?=some (vI d)∧cs[i*7+4]?=some (vI e)∧cs[i*7+5]?=some u∧cs[i*7+6]?=some v∧NB w B u∧NB w B v
def AllC (w:World)(B k m:Nat):Prop:=∃ cs:Array Value,w.heap[k]?=some (.cells cs 79)∧∀ i,i<m→RowC w B cs i
structure Tc (B:Nat)(w w':World):Prop where
 fr:Fr (fun k=>B≤k∧∃ cs t,w.heap[k]?=some (.cells cs t)∧(t=3∨t=79)) w w'
 ints:∀ k m,AllN w k m→AllN w' k m
 code:∀ k m,AllC w B k m→AllC w' B k m
theorem NB.to {w w':World}{B:Nat}{v:Value}(h:NB w B v)(t:∀ k m,AllN w k m→AllN w' k m):NB w' B v:=by
 obtain⟨n,hn,g,cap,m,e,h1,h2,h3⟩:=h
 exact⟨n,hn,g,cap,m,e,h1,h2,t _ _ h3⟩
theorem RowC.to {w w':World}{B:Nat}{cs:Array Value}{i:Nat}(h:RowC w B cs i)(t:∀ k m,AllN w k m→AllN w' k m):RowC w' B cs i:=by
 obtain⟨a,b,c,d,e,u,v,h1,h2,h3,h4,h5,h6,h7,h8,h9⟩:=h
 exact⟨a,b,c,d,e,u,v,h1,h2,h3,h4,h5,h6,h7,h8.to t,h9.to t⟩
theorem RowC.lt {w:World}{B:Nat}{cs:Array Value}{i:Nat}(h:RowC w B cs i):i*7+6<cs.size:=by
 obtain⟨a,b,c,d,e,u,v,h1,h2,h3,h4,h5,h6,h7,h8,h9⟩:=h
 exact(Array.getElem?_eq_some_iff.1 h7).1
theorem AllC.to {w w':World}{B k m:Nat}(h:AllC w B k m)(e:w'.heap[k]?=w.heap[k]?)(t:∀ k m,AllN w k m→AllN w' k m):AllC w' B k m:=by
 obtain⟨cs,h1,h2⟩:=h
 exact⟨cs,e.trans h1,fun i hi=>(h2 i hi).to t⟩
theorem AllN.lt {w:World}{k m:Nat}(h:AllN w k m):k<w.heap.size:=by
 obtain⟨cs,h1,-⟩:=h
 exact heap_lt0 h1
theorem AllC.lt {w:World}{B k m:Nat}(h:AllC w B k m):k<w.heap.size:=by
 obtain⟨cs,h1,-⟩:=h
 exact heap_lt0 h1
theorem AllC.ne {w:World}{B k m g q:Nat}(h:AllC w B k m)(h2:AllN w g q):k≠g:=by
 intro e
 subst e
 obtain⟨cs,h1,-⟩:=h
 obtain⟨cs',h3,-⟩:=h2
 rw[h1] at h3
 injection h3 with h3
 injection h3 with _ h3
 cases h3
theorem Tc.refl (B:Nat)(w:World):Tc B w w:=⟨Fr.refl _ _,fun _ _ h=>h,fun _ _ h=>h⟩
theorem Tc.trans {B:Nat}{a b c:World}(h:Tc B a b)(k:Tc B b c):Tc B a c:=by
 refine⟨h.fr.then k.fr (fun j hj e=>⟨e.1,?_⟩),fun q m hq=>k.ints q m (h.ints q m hq),fun q m hq=>k.code q m (h.code q m hq)⟩
 by_cases e2:B≤j∧∃ cs t,a.heap[j]?=some (.cells cs t)∧(t=3∨t=79)
 ·exact e2.2
 ·obtain⟨cs,t,h1,h2⟩:=e.2
  exact⟨cs,t,(h.fr.block j hj e2).symm.trans h1,h2⟩
theorem Tc.tn {B:Nat}{w w':World}(h:Tn B w w'):Tc B w w':=by
 refine⟨h.fr.mono (fun k _ e=>?_),h.ints,fun k m hk=>hk.to (h.fr.block k hk.lt (fun e=>?_)) h.ints⟩
 ·obtain⟨e1,m,cs,e2,-⟩:=e
  exact⟨e1,cs,3,e2,Or.inl rfl⟩
 ·obtain⟨-,q,e2⟩:=e
  exact hk.ne e2 rfl
theorem Tc.stay {B:Nat}{a b c:World}(h:Tc B a b)(f:Fr (fun _=>False) b c):Tc B a c:=h.trans (Tc.tn ((Tn.refl B b).stay f))
theorem Tc.setC {B:Nat}{w:World}{g m:Nat}(h:AllC w B g m)(hB:B≤g){i o:Nat}(hi:i<m)(ho:o<7)(x:Value)(hx:(o<5→∃ z,x=vI z)∧(5≤o→NB w B x)):Tc B w (w.setCell ⟨g,i*7+o,none⟩ x):=by
 have f:=setCell_fr w g (i*7+o) x
 have hI:∀ k q,AllN w k q→AllN (w.setCell ⟨g,i*7+o,none⟩ x) k q:=fun k q hk=>hk.congr (f.block k hk.lt (fun e=>h.ne hk e.symm))
 have hT:∃ cs t,w.heap[g]?=some (.cells cs t)∧(t=3∨t=79):=by
  obtain⟨cs,h1,-⟩:=h
  exact⟨cs,79,h1,Or.inr rfl⟩
 refine⟨f.mono (fun k _ e=>by subst e;exact⟨hB,hT⟩),hI,fun k q hk=>?_⟩
 by_cases e:k=g
 ·subst e
  obtain⟨cs,h1,h2⟩:=hk
  refine⟨cs.setIfInBounds (i*7+o) x,set_of h1 _ _,fun i' hi'=>?_⟩
  have hl:=(h2 i' hi').lt
  obtain⟨a,b,c,d,e,u,v,k1,k2,k3,k4,k5,k6,k7,k8,k9⟩:=(h2 i' hi').to hI
  by_cases e2:i'=i
  ·subst e2
   have hne:∀ o',o'≠o→(cs.setIfInBounds (i'*7+o) x)[i'*7+o']?=cs[i'*7+o']?:=fun o' ne=>by rw[Array.getElem?_setIfInBounds,if_neg (by omega)]
   have heq:(cs.setIfInBounds (i'*7+o) x)[i'*7+o]?=some x:=by rw[Array.getElem?_setIfInBounds,if_pos rfl,if_pos (by omega)]
   have hx2:5≤o→NB (w.setCell ⟨k,i'*7+o,none⟩ x) B x:=fun e=>(hx.2 e).to hI
   rcases(by omega:o=0∨o=1∨o=2∨o=3∨o=4∨o=5∨o=6) with rfl | rfl | rfl | rfl | rfl | rfl | rfl
   ·obtain⟨z,rfl⟩:=hx.1 (by omega)
    exact⟨z,b,c,d,e,u,v,heq,(hne 1 (by omega)).trans k2,(hne 2 (by omega)).trans k3,(hne 3 (by omega)).trans k4,(hne 4 (by omega)).trans k5,(hne 5 (by omega)).trans k6,(hne 6 (by omega)).trans k7,k8,k9⟩
   ·obtain⟨z,rfl⟩:=hx.1 (by omega)
    exact⟨a,z,c,d,e,u,v,(hne 0 (by omega)).trans k1,heq,(hne 2 (by omega)).trans k3,(hne 3 (by omega)).trans k4,(hne 4 (by omega)).trans k5,(hne 5 (by omega)).trans k6,(hne 6 (by omega)).trans k7,k8,k9⟩
   ·obtain⟨z,rfl⟩:=hx.1 (by omega)
    exact⟨a,b,z,d,e,u,v,(hne 0 (by omega)).trans k1,(hne 1 (by omega)).trans k2,heq,(hne 3 (by omega)).trans k4,(hne 4 (by omega)).trans k5,(hne 5 (by omega)).trans k6,(hne 6 (by omega)).trans k7,k8,k9⟩
   ·obtain⟨z,rfl⟩:=hx.1 (by omega)
    exact⟨a,b,c,z,e,u,v,(hne 0 (by omega)).trans k1,(hne 1 (by omega)).trans k2,(hne 2 (by omega)).trans k3,heq,(hne 4 (by omega)).trans k5,(hne 5 (by omega)).trans k6,(hne 6 (by omega)).trans k7,k8,k9⟩
   ·obtain⟨z,rfl⟩:=hx.1 (by omega)
    exact⟨a,b,c,d,z,u,v,(hne 0 (by omega)).trans k1,(hne 1 (by omega)).trans k2,(hne 2 (by omega)).trans k3,(hne 3 (by omega)).trans k4,heq,(hne 5 (by omega)).trans k6,(hne 6 (by omega)).trans k7,k8,k9⟩
   ·exact⟨a,b,c,d,e,x,v,(hne 0 (by omega)).trans k1,(hne 1 (by omega)).trans k2,(hne 2 (by omega)).trans k3,(hne 3 (by omega)).trans k4,(hne 4 (by omega)).trans k5,heq,(hne 6 (by omega)).trans k7,hx2 (by omega),k9⟩
   ·exact⟨a,b,c,d,e,u,x,(hne 0 (by omega)).trans k1,(hne 1 (by omega)).trans k2,(hne 2 (by omega)).trans k3,(hne 3 (by omega)).trans k4,(hne 4 (by omega)).trans k5,(hne 5 (by omega)).trans k6,heq,k8,hx2 (by omega)⟩
  ·have hne:∀ o',o'<7→(cs.setIfInBounds (i*7+o) x)[i'*7+o']?=cs[i'*7+o']?:=fun o' ne=>by rw[Array.getElem?_setIfInBounds,if_neg (by omega)]
   exact⟨a,b,c,d,e,u,v,(hne 0 (by omega)).trans k1,(hne 1 (by omega)).trans k2,(hne 2 (by omega)).trans k3,(hne 3 (by omega)).trans k4,(hne 4 (by omega)).trans k5,(hne 5 (by omega)).trans k6,(hne 6 (by omega)).trans k7,k8,k9⟩
 ·exact hk.to (f.block k hk.lt e) hI
theorem Tc.other {B:Nat}{w w':World}(h:Tc B w w'){k t:Nat}{cs:Array Value}(hk:w.heap[k]?=some (.cells cs t))(ht:t≠3)(h2:t≠79):w'.heap[k]?=some (.cells cs t):=by
 refine(h.fr.block k (heap_lt0 hk) (fun e=>?_)).trans hk
 obtain⟨-,cs',t',h1,h3⟩:=e
 rw[hk] at h1
 injection h1 with h1
 injection h1 with _ e1
 subst e1
 rcases h3 with e | e
 ·exact ht e
 ·exact h2 e
def NC (w:World)(B:Nat)(v:Value)(n:Nat):Prop:=∃ g cap,v = .slice (some ⟨g,0,none⟩) n cap∧B≤g∧AllC w B g n
def NP (w:World)(B:Nat)(v:Value)(N:Nat)(cn:Nat→Nat):Prop :=
 ∃ g cap cs,v = .slice (some ⟨g,0,none⟩) N cap∧w.heap[g]?=some (.cells cs 45)∧∀ i,i<N→∃ a b c gc cc,cs[i*4]?=some (vI a)∧cs[i*4+1]?=some (vI b)∧cs[i*4+2]?=some (vI c)∧cs[i*4+3]?=some (.slice (some ⟨gc,0,none⟩) (cn i) cc)∧B≤gc∧AllC w B gc (cn i)
theorem NP.tc {w w':World}{B:Nat}{v:Value}{N:Nat}{cn:Nat→Nat}(h:NP w B v N cn)(t:Tc B w w'):NP w' B v N cn:=by
 obtain⟨g,cap,cs,e,h1,h2⟩:=h
 refine⟨g,cap,cs,e,t.other h1 (by decide) (by decide),fun i hi=>?_⟩
 obtain⟨a,b,c,gc,cc,k1,k2,k3,k4,k5,k6⟩:=h2 i hi
 exact⟨a,b,c,gc,cc,k1,k2,k3,k4,k5,t.code _ _ k6⟩
theorem NS.tc {w w':World}{B:Nat}{v:Value}{N:Nat}{hn rn:Nat→Nat}{ln:Nat→Nat→Nat}(h:NS w B v N hn rn ln)(t:Tc B w w'):NS w' B v N hn rn ln:=by
 have nl:∀ v n,NL w B v n→NL w' B v n:=fun v n k=>by
  obtain⟨g,cap,m,e,h1,h2,h3⟩:=k
  exact⟨g,cap,m,e,h1,h2,t.ints _ _ h3⟩
 obtain⟨g,cap,cs,e,h1,h2⟩:=h
 refine⟨g,cap,cs,e,t.other h1 (by decide) (by decide),fun i hi=>?_⟩
 obtain⟨hv,gr,rc,rs,k1,k2,k3,k4,k5⟩:=h2 i hi
 refine⟨hv,gr,rc,rs,k1,k2,nl _ _ k3,t.other k4 (by decide) (by decide),fun j hj=>?_⟩
 obtain⟨u,u1,u2⟩:=k5 j hj
 exact⟨u,u1,nl _ _ u2⟩
theorem SpI.nb {w:World}{B:Nat}{v:Value}{l:List Int}{m:Int}(h:SpI w B v l m)(hl:l.length≤2147483647):NB w B v:=⟨_,hl,h.nl⟩
def cnX (fs:List PF)(i:Nat):Nat:=(fs.getD i ⟨0,0,0,[]⟩).code.length
theorem SpK.nc {w:World}{B:Nat}{v:Value}{cs:List PI}(h:SpK w B v cs)(hb:∀ c∈cs,c.args.length≤2147483647∧c.rets.length≤2147483647):NC w B v cs.length:=by
 obtain⟨g,cap,L,rfl,hc,hL,h⟩:=h
 have hl:(L++mkC 64).length=cs.length+64:=by rw[List.length_append,mkC_len,← hL];simp
 have hLl:L.length=cs.length:=by rw[← hL];simp
 have hrow:=h.row
 rw[hl] at hrow
 obtain⟨ds,h1,h2⟩:=row_cells hrow
 have hg:B≤g:=(World.ownsRow.lt hrow g rfl).1
 refine⟨g,cap,rfl,hg,ds,h1,fun i hi=>?_⟩
 have hiL:i<(L++mkC 64).length:=by omega
 have hi2:i<L.length:=by omega
 have e1:(L++mkC 64)[i]=L[i]:=List.getElem_append_left hi2
 have hmem:L[i]∈(L++mkC 64).take cs.length:=by
  rw[← hLl,List.take_left]
  exact List.getElem_mem hi2
 obtain⟨s1,s2⟩:=h.ints _ hmem
 have hcm:L[i].1∈cs:=by rw[← hL];exact List.mem_map.2 ⟨_,List.getElem_mem hi2,rfl⟩
 obtain⟨b1,b2⟩:=hb _ hcm
 have hcell:∀ o (ho:o<7) (u:Value),(rowI L[i])[o]?=some u→ds[i*7+o]?=some u:=fun o ho u hu=>h2 (i*7+o) u (by rw[flat_get rowI 7 (fun _=>rfl) (L++mkC 64) i o hiL ho,e1];exact hu)
 exact⟨_,_,_,_,_,_,_,hcell 0 (by omega) _ rfl,hcell 1 (by omega) _ rfl,hcell 2 (by omega) _ rfl,hcell 3 (by omega) _ rfl,hcell 4 (by omega) _ rfl,hcell 5 (by omega) _ rfl,hcell 6 (by omega) _ rfl,s1.nb b1,s2.nb b2⟩
theorem SpF.np {w:World}{B:Nat}{v:Value}{fs:List PF}(h:SpF w B v fs)(hF:FinP fs):NP w B v fs.length (cnX fs):=by
 obtain⟨g,cap,L,rfl,hc,h⟩:=h
 have hl:=h.len
 have hrow:=h.row
 rw[hl] at hrow
 obtain⟨cs,h1,h2⟩:=row_cells hrow
 refine⟨g,cap,cs,rfl,h1,fun i hi=>?_⟩
 have hiL:i<L.length:=by omega
 obtain⟨k1,k2⟩:=h.each i hiL hi
 have hcell:∀ o (ho:o<4) (u:Value),(rowP L[i])[o]?=some u→cs[i*4+o]?=some u:=fun o ho u hu=>h2 (i*4+o) u (by rw[flat_get rowP 4 (fun _=>rfl) L i o hiL ho];exact hu)
 have hg:fs.getD i ⟨0,0,0,[]⟩=fs[i]:=by simp[List.getD,hi]
 obtain⟨gc,cc,e,k3,k4⟩:=k2.nc (fun c hc=>(hF.2 _ (List.getElem_mem hi)).2 c hc)
 refine⟨_,_,_,gc,cc,hcell 0 (by omega) _ rfl,hcell 1 (by omega) _ rfl,hcell 2 (by omega) _ rfl,?_,k3,?_⟩
 ·unfold cnX
  rw[hg,← e]
  exact hcell 3 (by omega) _ rfl
 ·unfold cnX
  rw[hg]
  exact k4
theorem NB.ia {w:World}{B:Nat}{v:Value}(h:NB w B v):∃ l:List Int,l.length≤2147483647∧IA w v l:=by
 obtain⟨n,hn,h⟩:=h
 obtain⟨l,h1,h2⟩:=h.ia
 exact⟨l,by omega,h2⟩
theorem AllC.ca {w:World}{B g n cap:Nat}(h:AllC w B g n):∃ cs:List PI,cs.length=n∧CA w (.slice (some ⟨g,0,none⟩) n cap) cs∧∀ c∈cs,c.args.length≤2147483647∧c.rets.length≤2147483647:=by
 obtain⟨ds,h1,h2⟩:=h
 obtain⟨cs,hl,hs⟩:=list_of (P:=fun i (c:PI)=>(c.args.length≤2147483647∧c.rets.length≤2147483647)∧∃ av rv,ds[i*7]?=some (vI c.op)∧ds[i*7+1]?=some (vI c.r)∧ds[i*7+2]?=some (vI c.s)∧ds[i*7+3]?=some (vI c.t)∧ds[i*7+4]?=some (vI c.n)∧ds[i*7+5]?=some av∧ds[i*7+6]?=some rv∧IA w av c.args∧IA w rv c.rets) n (fun i hi=>by
  obtain⟨a,b,c,d,e,u,v,k1,k2,k3,k4,k5,k6,k7,k8,k9⟩:=h2 i hi
  obtain⟨l,l1,l2⟩:=k8.ia
  obtain⟨r,r1,r2⟩:=k9.ia
  exact⟨⟨a,b,c,d,e,l,r⟩,⟨l1,r1⟩,u,v,k1,k2,k3,k4,k5,k6,k7,l2,r2⟩)
 refine⟨cs,hl,⟨_,cap,by rw[hl],fun _=>⟨g,0,rfl,heap_lt0 h1,fun j hj=>?_⟩⟩,fun c hc=>?_⟩
 ·obtain⟨-,av,rv,k1,k2,k3,k4,k5,k6,k7,k8,k9⟩:=hs j hj
  simp only[Nat.zero_add,cell_of0 h1]
  exact⟨av,rv,k1,k2,k3,k4,k5,k6,k7,k8,k9⟩
 ·obtain⟨j,hj,e⟩:=List.getElem_of_mem hc
  rw[← e]
  exact(hs j hj).1
theorem NP.fa {w:World}{B:Nat}{v:Value}{N:Nat}{cn:Nat→Nat}(h:NP w B v N cn)(b1:N≤2147483647)(b2:∀ i,i<N→cn i≤2147483647):∃ fs:List PF,fs.length=N∧FA w v fs∧FinP fs:=by
 obtain⟨g,cap,ds,rfl,h1,h2⟩:=h
 obtain⟨fs,hl,hs⟩:=list_of (P:=fun i (f:PF)=>(f.code.length≤2147483647∧∀ c∈f.code,c.args.length≤2147483647∧c.rets.length≤2147483647)∧∃ x,ds[i*4]?=some (vI f.P)∧ds[i*4+1]?=some (vI f.R)∧ds[i*4+2]?=some (vI f.V)∧ds[i*4+3]?=some x∧CA w x f.code) N (fun i hi=>by
  obtain⟨a,b,c,gc,cc,k1,k2,k3,k4,k5,k6⟩:=h2 i hi
  obtain⟨cs,c1,c2,c3⟩:=k6.ca (cap:=cc)
  exact⟨⟨a,b,c,cs⟩,⟨by simp only[c1];exact b2 i hi,c3⟩,_,k1,k2,k3,k4,c2⟩)
 refine⟨fs,hl,⟨_,cap,by rw[hl],fun _=>⟨g,0,rfl,heap_lt0 h1,fun j hj=>?_⟩⟩,by omega,fun f hf=>?_⟩
 ·obtain⟨-,x,k1,k2,k3,k4,k5⟩:=hs j hj
  simp only[Nat.zero_add,cell_of0 h1]
  exact⟨x,k1,k2,k3,k4,k5⟩
 ·obtain⟨j,hj,e⟩:=List.getElem_of_mem hf
  rw[← e]
  exact(hs j hj).1
end Go.Proofs.YtdkijecnnmncnaaGreatDoor
