import Derived.Test.YtdkijecnnmncnaaGreatDoorQVbJ
import Derived.Test.YtdkijecnnmncnaaGreatDoorQFmJ
import Derived.Test.YtdkijecnnmncnaaGreatDoorQQo
set_option linter.unusedVariables false
set_option linter.unusedSimpArgs false
namespace Go.Proofs.YtdkijecnnmncnaaGreatDoor
open Go.RowKit (wrap32 wrap64)
set_option maxRecDepth 100000
set_option maxHeartbeats 4000000
def RfG (ss:List PS)(f:PF)(w:World)(e:Ending)(w':World):Prop :=
 ∃ (a:Option Addr) (c:Nat) (hv rv:Value) (us:List Value),e = .returned (.tuple #[.slice a (locN f) c,.agg #[hv,rv],vI 0])∧BL w' (.slice a (locN f) c) ((List.range (locN f)).map (escF ss f))∧SO w' w.heap.size hv rv us (solF ss f)
def RFnE (G:Int)(fs:List PF)(F:Int)(ss:List PS)(w:World)(e:Ending)(w':World):Prop :=
 Fr (fun _=>False) w w'∧((¬ EdgOk G fs F ss∧e = .returned (.tuple #[.slice none 0 0,.agg #[.slice none 0 0,.slice none 0 0],vI 1])) ∨
  ∃ (i:Nat) (h:i<fs.length),F=i∧EdgOk G fs F ss∧RfG ss fs[i] w e w')
structure Rz (w:World)(B n r:Nat)(v:Value)(us:List Value)(z:Nat→Nat→Int):Prop where
 row:w.ownsRow B 30 1 v us.length us
 len:us.length=r
 each:∀ i (h:i<us.length),∃ k o c,us[i] = .slice (some ⟨k,o,none⟩) n c∧k<w.heap.size∧v.ownBlock≠some k∧∀ x,x<n→w.cell? ⟨k,o+x,none⟩=some (vI (z i x))
theorem Rz.nil (w:World)(B n:Nat)(z:Nat→Nat→Int):Rz w B n 0 (.slice none 0 0) [] z:=⟨World.ownsRow_nil _ _ _ _,rfl,fun i h=>by simp at h⟩
theorem Rz.keep {w w':World}{B n r:Nat}{v:Value}{us:List Value}{z:Nat→Nat→Int}(h:Rz w B n r v us z)(f:Fr (fun _=>False) w w'):Rz w' B n r v us z :=
 ⟨ownsRow_frL h.row f (fun _ _ e=>e),h.len,fun i hi=>by
  obtain⟨k,o,c,h1,h2,h3,h4⟩:=h.each i hi
  exact⟨k,o,c,h1,Nat.lt_of_lt_of_le h2 f.size,h3,fun x hx=>(f.cell h2 (fun e=>e)).trans (h4 x hx)⟩⟩
theorem Rz.grow {w w6:World}{B n r g cap k o c:Nat}{v:Value}{us:List Value}{z:Nat→Nat→Int}{zj:Nat→Int}(h:Rz w B n r v us z)(hk:k<w.heap.size)(hv:v.ownBlock≠some k)(hc:∀ x,x<n→w.cell? ⟨k,o+x,none⟩=some (vI (zj x)))
 (hg:w.grownBy w6 v.ownBlock) (ho:w6.ownsRow B 30 1 (.slice (some ⟨g,0,none⟩) (us.length+1) cap) (us.length+1) (us++[.slice (some ⟨k,o,none⟩) n c])) (hat:v.ownBlock=some g∨g=w.heap.size) :
 Rz w6 B n (r+1) (.slice (some ⟨g,0,none⟩) (us.length+1) cap) (us++[.slice (some ⟨k,o,none⟩) n c]) (Wg.upd z r zj):=by
 have f:=grown_frL hg
 have key:∀ q,q<w.heap.size→v.ownBlock≠some q→(Value.slice (some ⟨g,0,none⟩) (us.length+1) cap).ownBlock≠some q:=fun q h1 h2 e=>by
  have e:g=q:=Option.some.inj e
  rcases hat with h | h
  ·exact h2 (by rw[h,e])
  ·omega
 refine⟨by simpa using ho,by simp[h.len],fun i hi=>?_⟩
 by_cases e:i<us.length
 ·obtain⟨k',o',c',h1,h2,h3,h4⟩:=h.each i e
  refine⟨k',o',c',by rw[List.getElem_append_left e];exact h1,Nat.lt_of_lt_of_le h2 f.size,key k' h2 h3,fun x hx=>?_⟩
  rw[Wg.upd_ne _ _ (by have:=h.len;omega)]
  exact(f.cell h2 h3).trans (h4 x hx)
 ·have hi2:i=us.length:=by simp at hi;omega
  subst hi2
  refine⟨k,o,c,by simp,Nat.lt_of_lt_of_le hk f.size,key k hk hv,fun x hx=>?_⟩
  rw[h.len,Wg.upd_same]
  exact(f.cell hk hv).trans (hc x hx)
theorem SO.appH {w w6:World}{B g cap:Nat}{hv rv:Value}{us:List Value}{H:List Int}{R:List (List Int)}{d:Int}(h:SO w B hv rv us ⟨H,R⟩)(hg:w.grownBy w6 hv.ownBlock)(ho:IOwn w6 B (.slice (some ⟨g,0,none⟩) (H.length+1) cap) (H++[d]))(hat:hv.ownBlock=some g∨g=w.heap.size) :
 SO w6 B (.slice (some ⟨g,0,none⟩) (H.length+1) cap) rv us ⟨H++[d],R⟩:=by
 have f:=grown_frL hg
 refine⟨ho,⟨ownsRow_frL h.lo.row f (fun j ej e2=>?_),h.lo.ul,fun i hi hk=>(h.lo.each i hi hk).fr f (fun j ej e2=>h.ap i hi j ej e2),h.lo.apart⟩,fun i hi k e e2=>?_⟩
 ·exact own_apart h.lo.row h.oh (by decide) j e2 ej
 ·have e2:g=k:=Option.some.inj e2
  have h2:=((h.lo.each i hi (by have:=h.lo.ul;omega)).ge k e).2
  rcases hat with h3 | h3
  ·exact h.ap i hi k e (by rw[h3,e2])
  ·omega
theorem SO.appR {w w6:World}{B g cap:Nat}{hv rv x:Value}{us:List Value}{H:List Int}{R:List (List Int)}{l:List Int}(h:SO w B hv rv us ⟨H,R⟩)(hx:IOwn w B x l)(ha:∀ i (hi:i<us.length),∀ k,us[i].ownBlock=some k→x.ownBlock≠some k)(hb:∀ k,x.ownBlock=some k→hv.ownBlock≠some k)(hg:w.grownBy w6 rv.ownBlock)(ho:w6.ownsRow B 30 1 (.slice (some ⟨g,0,none⟩) (us.length+1) cap) (us.length+1) (us++[x])) :
 SO w6 B hv (.slice (some ⟨g,0,none⟩) (us.length+1) cap) (us++[x]) ⟨H,R++[l]⟩:=by
 have f:=grown_frL hg
 refine⟨h.oh.fr f (fun j e e2=>own_apart h.lo.row h.oh (by decide) j e e2),h.lo.grow hx ha hg ho,fun i hi k e=>?_⟩
 by_cases e1:i<us.length
 ·rw[List.getElem_append_left e1] at e
  exact h.ap i e1 k e
 ·have hi2:i=us.length:=by simp at hi;omega
  subst hi2
  simp at e
  exact hb k e
theorem SO.low {w:World}{B b o:Nat}{hv rv v:Value}{us:List Value}{s:PS}(h:SO w B hv rv us s)(hb:b<B):SO (w.setCell ⟨b,o,none⟩ v) B hv rv us s :=
 h.other (setCell_fr w b o v) (fun k e e2=>by have:=(h.oh.ge k e).1;omega) (fun k e e2=>by have:=(World.ownsRow.lt h.lo.row k e).1;omega) (fun i hi k e e2=>by have:=((h.lo.each i hi (by have:=h.lo.ul;omega)).ge k e).1;omega)
theorem rfunction_bad (G:Int)(fv sv:Value)(fs:List PF)(ss:List PS)(F:Int)(w:World)(h1:FA w fv fs)(h2:SsA w sv ss)(b1:FineP fs)(b2:FineS ss)(hbad:¬ EdgOk G fs F ss) :
 Calls Tryz.prog 20 #[.agg #[vI G,fv],vI F,sv] w (RFnE G fs F ss w):=by
 obtain⟨wa,hwa⟩:∃ wa,wa=(w.alloc (.cells #[vI G,fv] 24)).alloc nil2:=⟨_,rfl⟩
 have HWA:Hd (wa=(w.alloc (.cells #[vI G,fv] 24)).alloc nil2):=hwa
 obtain⟨H,hH⟩:∃ H,H=w.heap.size:=⟨_,rfl⟩
 have HH:Hd (H=w.heap.size):=hH
 have hb0:wa.heap[H]?=some (.cells #[vI G,fv] 24):=by rw[hwa,hH];exact keepA (heap_new0 w _) _
 have hb1:wa.heap[H+1]?=some nil2:=by
  rw[hwa,hH]
  have:=heap_new0 (w.alloc (.cells #[vI G,fv] 24)) nil2
  rw[World.size_alloc] at this
  exact this
 have hFA:Fr (fun _=>False) w wa:=by rw[hwa];exact Fr.alloc (Fr.alloc (Fr.refl _ w) _) _
 have HFA:Hd (Fr (fun _=>False) w wa):=hFA
 have HE:Hd (Calls Tryz.prog 55 #[.agg #[vI G,fv],vI F,sv] wa fun e w'=>e = .returned (.tuple #[.slice none 0 0,vI 1])∧Fr (fun _=>False) wa w'):=by
  refine(redges_any G fv sv fs ss F wa (h1.stay hFA) (h2.stay hFA) b1 b2).mono ?_
  rintro e w' ⟨hf,⟨-,he⟩|⟨i,hi,e1,e2,e3,e4,-⟩⟩
  ·exact⟨he,hf⟩
  ·exact absurd ⟨i,e1,hi,e2,e3,e4⟩ hbad
 have HBAD:Hd (¬ EdgOk G fs F ss):=hbad
 obtain⟨fa,fc,rfl,-⟩:=h1
 obtain⟨sa,sc,rfl,-⟩:=h2
 have c0:wa.cell? ⟨H,0,none⟩=some (vI G):=by rw[cell_of0 hb0];rfl
 have c1:wa.cell? ⟨H,1,none⟩=some (.slice fa fs.length fc):=by rw[cell_of0 hb0];rfl
 have HB1:Hd (wa.heap[H+1]?=some nil2):=hb1
 clear hwa hH hb0 hb1 hFA b1 b2 hbad
 go_enter Tryz.func20,Tryz.ntmps20
 go_upto_region 1 with fail
 rw[← HWA.out,← HH.out]
 clear HWA
 go_wp2_with fail
 refine(show Calls Tryz.prog 55 #[.agg #[vI G,.slice fa fs.length fc],vI F,.slice sa ss.length sc] wa _ from HE.out).mono ?_
 rintro e w1 ⟨rfl,hF1⟩
 have hN:=keepF HB1.out hF1
 have y0:w1.cell? ⟨H+1,0,none⟩=some (.slice none 0 0):=by rw[cell_of0 hN];rfl
 have y1:w1.cell? ⟨H+1,1,none⟩=some (.slice none 0 0):=by rw[cell_of0 hN];rfl
 have z0:=frozen_of hN 0
 have z1:=frozen_of hN 1
 have HZ0:Hd (((w1.setCell ⟨H+1,0,none⟩ (.slice none 0 0)).setCell ⟨H+1,1,none⟩ (.slice none 0 0)).heap[H+1]?=some nil2):=set_of (set_of hN 0 _) 1 _
 have f:Fr (fun j=>j=H+1) w1 ((w1.setCell ⟨H+1,0,none⟩ (.slice none 0 0)).setCell ⟨H+1,1,none⟩ (.slice none 0 0)):=(setCell_fr w1 (H+1) 0 _).trans (setCell_fr _ (H+1) 1 _)
 have HFz:Hd (Fr (fun _=>False) w ((w1.setCell ⟨H+1,0,none⟩ (.slice none 0 0)).setCell ⟨H+1,1,none⟩ (.slice none 0 0))):=(HFA.out.trans hF1).then f (fun j hj e=>by have:=HH.out;omega)
 clear f hN hF1 c0 c1 HE
 go_wp2_with fail
 generalize (w1.setCell ⟨H+1,0,none⟩ (.slice none 0 0)).setCell ⟨H+1,1,none⟩ (.slice none 0 0)=wy at *
 have e0:wy.cell? ⟨H+1,0,none⟩=some (.slice none 0 0):=by rw[cell_of0 HZ0.out];rfl
 have e1:wy.cell? ⟨H+1,1,none⟩=some (.slice none 0 0):=by rw[cell_of0 HZ0.out];rfl
 refine bodyPost_ret (v:=.tuple #[.slice none 0 0,.agg #[.slice none 0 0,.slice none 0 0],vI 1]) ?_ rfl ⟨HFz.out,Or.inl ⟨HBAD.out,rfl⟩⟩
 rw[results_tct (t:=6) (p:=7) (u:=8) (ty:=33) Tryz.results20]
 simp[go_sem,e0,e1]
theorem rfunction_ok (G:Int)(fv sv:Value)(fs:List PF)(ss:List PS)(i:Nat)(hi:i<fs.length)(w:World)(h1:FA w fv fs)(h2:SsA w sv ss)(b1:FineP fs)(b2:FineS ss)(hok:EdgOk G fs i ss) :
 Calls Tryz.prog 20 #[.agg #[vI G,fv],vI (i:Int),sv] w (RFnE G fs i ss w):=by
 obtain⟨wa,hwa⟩:∃ wa,wa=(w.alloc (.cells #[vI G,fv] 24)).alloc nil2:=⟨_,rfl⟩
 have HWA:Hd (wa=(w.alloc (.cells #[vI G,fv] 24)).alloc nil2):=hwa
 obtain⟨H,hH⟩:∃ H,H=w.heap.size:=⟨_,rfl⟩
 have HH:Hd (H=w.heap.size):=hH
 have hb0:wa.heap[H]?=some (.cells #[vI G,fv] 24):=by rw[hwa,hH];exact keepA (heap_new0 w _) _
 have hb1:wa.heap[H+1]?=some nil2:=by
  rw[hwa,hH]
  have:=heap_new0 (w.alloc (.cells #[vI G,fv] 24)) nil2
  rw[World.size_alloc] at this
  exact this
 have hFA:Fr (fun _=>False) w wa:=by rw[hwa];exact Fr.alloc (Fr.alloc (Fr.refl _ w) _) _
 have HFA:Hd (Fr (fun _=>False) w wa):=hFA
 obtain⟨j,ej,hj,hls,hck,htl⟩:=id hok
 obtain rfl:i=j:=by omega
 obtain⟨es,hes⟩:∃ es,es=edgX ss fs[i]:=⟨_,rfl⟩
 have HE:Hd (Calls Tryz.prog 55 #[.agg #[vI G,fv],vI (i:Int),sv] wa fun e w'=>∃ ea ec,e = .returned (.tuple #[.slice ea es.length ec,vI 0])∧Wg.EdgesAt w'.heap.size w' (.slice ea es.length ec) es∧Fr (fun _=>False) wa w'):=by
  refine(redges_any G fv sv fs ss i wa (h1.stay hFA) (h2.stay hFA) b1 b2).mono ?_
  rintro e w' ⟨hf,⟨hn,-⟩|⟨q,hq,e1,e2,e3,e4,v,he,ho⟩⟩
  ·exact absurd hok hn
  ·obtain rfl:i=q:=by omega
   rw[← hes] at ho
   obtain⟨ea,ec,ev⟩:=own_slice ho
   subst ev
   exact⟨ea,ec,he,own_edges ho,hf⟩
 have hfr:=right_ok hck
 have hPV:=alone_pv hck
 have HSO:Hd (∀ esc y z,SolX (locN fs[i]) fs[i].R.toNat es esc y z→(∀ l,l<locN fs[i]→esc l=escF ss fs[i] l)∧sumX fs[i].P fs[i].R fs[i].V y z=solF ss fs[i]):=fun esc y z h=>by
  rw[hes] at h
  exact SolX.is hfr hPV htl hls h
 have HED:Hd (EdR (locN fs[i]) fs[i].R.toNat es):=by rw[hes];exact edg_edr hfr htl hls
 have hel:es.length≤163840:=by rw[hes];exact edgX_len hfr htl hls
 have HOK:Hd (EdgOk G fs i ss):=hok
 have HFR:Hd (FunR fs fs[i]):=hfr
 have HPV:Hd (fs[i].P≤fs[i].V):=hPV
 obtain⟨fa,fc,rfl,g1⟩:=h1.each rfl
 obtain⟨fk,fo,cv,rfl,fl,f0,f1,f2,f3,hcv⟩:=g1 i hi
 obtain⟨ca,cc,rfl,-⟩:=id hcv
 have HCV:Hd (CA w (.slice ca fs[i].code.length cc) fs[i].code):=hcv
 obtain⟨sa,sc,rfl,-⟩:=h2
 have HC:Hd (∀ wx,Fr (fun _=>False) wa wx→wx.cell? ⟨H,0,none⟩=some (vI G)∧wx.cell? ⟨H,1,none⟩=some (.slice (some ⟨fk,fo,none⟩) fs.length fc)∧wx.cell? ⟨fk,fo+i*4,none⟩=some (vI fs[i].P)∧wx.cell? ⟨fk,fo+i*4+1,none⟩=some (vI fs[i].R)∧wx.cell? ⟨fk,fo+i*4+2,none⟩=some (vI fs[i].V)∧wx.cell? ⟨fk,fo+i*4+3,none⟩=some (.slice ca fs[i].code.length cc)):=fun wx hx=>by
  have hb:=(hx.block H (heap_lt0 hb0) (fun e=>e)).trans hb0
  have g:∀ o,wx.cell? ⟨fk,o,none⟩=w.cell? ⟨fk,o,none⟩:=fun o=>(hFA.trans hx).cell fl (fun e=>e)
  exact⟨by rw[cell_of0 hb];rfl,by rw[cell_of0 hb];rfl,(g _).trans f0,(g _).trans f1,(g _).trans f2,(g _).trans f3⟩
 obtain⟨c0,c1,-,-,-,-⟩:=HC.out wa (Fr.refl _ wa)
 have HB1:Hd (wa.heap[H+1]?=some nil2):=hb1
 have hi0:(0:Int)≤i:=by omega
 have hi1:(i:Int)<fs.length:=by omega
 have HI:Hd (i<fs.length):=hi
 have hfl:=b1.1
 clear hwa hH hb0 hb1 hFA b1 b2 hok hes f0 f1 f2 f3 hcv g1 fl hck htl hls hfr hPV
 have HEND:Hd (∀ e w',Fr (fun _=>False) w w'→RfG ss fs[i] w e w'→RFnE G fs i ss w e w'):=fun e w' h k=>⟨h,Or.inr ⟨i,HI.out,rfl,HOK.out,k⟩⟩
 generalize fs[i]=f at *
 obtain⟨r,hr⟩:∃ r:Nat,f.R=r:=⟨f.R.toNat,by have:=HFR.out.R;omega⟩
 obtain⟨p,hp⟩:∃ p:Nat,f.P=p:=⟨f.P.toNat,by have:=HFR.out.P;omega⟩
 have hr4:r≤4:=by have:=HFR.out.R;omega
 have hp8:p≤8:=by have:=HFR.out.P;omega
 have HED:Hd (EdR (locN f) r es):=by have:=HED.out;rw[hr] at this;exact this
 have HSO:Hd (∀ esc y z,SolX (locN f) r es esc y z→(∀ l,l<locN f→esc l=escF ss f l)∧solF ss f=⟨(List.range p).map fun i=>max (y (1+r+i)) 0,(List.range p).map fun i=>(List.range r).map fun j=>max (z j (1+r+i)) 0⟩):=fun esc y z h=>by
  have h9:=HSO.out esc y z (by rw[hr];exact h)
  exact⟨h9.1,by rw[← h9.2];exact sumX_as hp hr HFR.out.R HFR.out.V HPV.out⟩
 have HVX:Hd (∀ (i:Nat),i<p→varX f.R f.V (i:Nat)=((1+r+i:Nat):Int)∧1+r+i<locN f):=fun i hi=>by
  have h8:=HFR.out.R
  have h9:=HFR.out.V
  have:=HPV.out
  refine⟨?_,by unfold locN;omega⟩
  rw[varX_is HFR.out.R HFR.out.V ⟨by omega,by omega⟩]
  omega
 have HLO:Hd (∀ wx,Fr (fun _=>False) w wx→Calls Tryz.prog 56 #[.agg #[vI p,vI r,vI f.V,.slice ca f.code.length cc]] wx fun e w'=>e = .returned (vI (locN f))∧Fr (fun _=>False) wx w'):=fun wx hx=>by
  have:=rlocations_any f (.slice ca f.code.length cc) wx (HCV.out.stay hx) (by have:=HFR.out.len;omega)
  rw[hp,hr,← hr,floc_is HFR.out,hr] at this
  exact this
 have HVA:Hd (∀ wx (i:Nat),Fr (fun _=>False) w wx→i<p→Calls Tryz.prog 60 #[.agg #[vI p,vI r,vI f.V,.slice ca f.code.length cc],vI (i:Int)] wx fun e w'=>e = .returned (vI ((1+r+i:Nat):Int))∧Fr (fun _=>False) wx w'):=fun wx i hx hi=>by
  have:=rvariable_any f (.slice ca f.code.length cc) (i:Nat) wx (HCV.out.stay hx)
  rw[(HVX.out i hi).1,hp,hr] at this
  exact this
 have HC:Hd (∀ wx,Fr (fun _=>False) wa wx→wx.cell? ⟨H,0,none⟩=some (vI G)∧wx.cell? ⟨H,1,none⟩=some (.slice (some ⟨fk,fo,none⟩) fs.length fc)∧wx.cell? ⟨fk,fo+i*4,none⟩=some (vI p)∧wx.cell? ⟨fk,fo+i*4+1,none⟩=some (vI r)∧wx.cell? ⟨fk,fo+i*4+2,none⟩=some (vI f.V)∧wx.cell? ⟨fk,fo+i*4+3,none⟩=some (.slice ca f.code.length cc)):=by
  have:=HC.out
  rw[hp,hr] at this
  exact this
 have HESC:Hd (∀ (wx:World) (ea:Option Addr) (ec:Nat),Wg.EdgesAt wx.heap.size wx (.slice ea es.length ec) es→Calls Tryz.prog 57 #[vI (locN f),vI r,.slice ea es.length ec] wx fun e w'=>Fr (fun _=>False) wx w'∧∃ a c esc x,e = .returned (.slice a (locN f) c)∧OB w' wx.heap.size (.slice a (locN f) c) (locN f) esc∧Least (locN f) es (rootsX r) x∧∀ l,l<locN f→esc l=decide (x l = -1)):=fun wx ea ec he=>escapes_any (locN f) r ea es.length ec es wx he HED.out hel hr4
 have HFL:Hd (∀ (wx wy:World) (ea:Option Addr) (ec:Nat) ra rn rc rs,Wg.EdgesAt wx.heap.size wx (.slice ea es.length ec) es→Fr (fun _=>False) wx wy→Wg.IntsAt wy.heap.size wy (.slice ra rn rc) rs→RightG (locN f) es rs→rs.length≤2000000→Calls Tryz.prog 58 #[vI (locN f),.slice ea es.length ec,.slice ra rn rc] wy (RfE (locN f) es rs wy)):=fun wx wy ea ec ra rn rc rs he hx hi hg hl=>rflows_any (locN f) ea es.length ec es ra rn rc rs wy (edges_stay he hx) hi hg (by omega) (by omega)
 have hn1:locN f≤1048576:=HED.out.n2
 have hn0:0<locN f:=by have:=HED.out.n1;omega
 clear hp hr HCV hel HFR HPV hi
 obtain⟨i22,hi22,hz22,hs22,hb22⟩:=info_parts (P:=Tryz.prog) (e:=30) (z:=.slice none 0 0) (size:=1) (bytes:=24) (by kernel_rfl)
 go_enter Tryz.func20,Tryz.ntmps20
 go_upto_region 1 with fail
 rw[← HWA.out,← HH.out]
 clear HWA
 go_wp2_with fail
 refine(show Calls Tryz.prog 55 #[.agg #[vI G,.slice (some ⟨fk,fo,none⟩) fs.length fc],vI (i:Int),.slice sa ss.length sc] wa _ from HE.out).mono ?_
 rintro e w1 ⟨ea,ec,rfl,hE1,hF1⟩
 have HF1:Hd (Fr (fun _=>False) wa w1):=hF1
 have HE1:Hd (Wg.EdgesAt w1.heap.size w1 (.slice ea es.length ec) es):=hE1
 clear hF1 hE1 HE c0 c1
 obtain⟨c0,c1,q0,q1,q2,q3⟩:=HC.out w1 HF1.out
 go_upto_region 5 with fail
 have HFy:Hd (Fr (fun _=>False) w1 (w1.alloc (.cells #[vI p,vI r,vI f.V,.slice ca f.code.length cc] 45))):=Fr.alloc (Fr.refl _ w1) _
 have HBX:Hd ((w1.alloc (.cells #[vI p,vI r,vI f.V,.slice ca f.code.length cc] 45)).heap[w1.heap.size]?=some (.cells #[vI p,vI r,vI f.V,.slice ca f.code.length cc] 45)):=heap_new0 w1 _
 have HXg:Hd (H+1<w1.heap.size):=heap_lt0 (keepF HB1.out HF1.out)
 obtain⟨X,hX⟩:∃ X,X=w1.heap.size:=⟨_,rfl⟩
 rw[← hX] at HBX HXg ⊢
 clear hX c0 c1 q0 q1 q2 q3
 generalize w1.alloc (.cells #[vI p,vI r,vI f.V,.slice ca f.code.length cc] 45)=wy at *
 have HS:Hd (∀ (wx:World),Fr (fun _=>False) wy wx→wx.cell? ⟨X,0,none⟩=some (vI p)∧wx.cell? ⟨X,1,none⟩=some (vI r)∧wx.cell? ⟨X,2,none⟩=some (vI f.V)∧wx.cell? ⟨X,3,none⟩=some (.slice ca f.code.length cc)):=fun wx hx=>by
  have hb:=keepF HBX.out hx
  exact⟨by rw[cell_of0 hb];rfl,by rw[cell_of0 hb];rfl,by rw[cell_of0 hb];rfl,by rw[cell_of0 hb];rfl⟩
 have HFw:Hd (Fr (fun _=>False) w wy):=(HFA.out.trans HF1.out).trans HFy.out
 have HEy:Hd (Wg.EdgesAt wy.heap.size wy (.slice ea es.length ec) es):=edges_stay HE1.out HFy.out
 have HNy:Hd (wy.heap[H+1]?=some nil2):=keepF HB1.out (HF1.out.trans HFy.out)
 have HXY:Hd (X<wy.heap.size):=heap_lt0 HBX.out
 clear HC HF1 HE1 HB1 HFA HFy
 obtain⟨s0,s1,s2,s3⟩:=HS.out wy (Fr.refl _ _)
 go_wp2_with fail
 refine(HLO.out wy HFw.out).mono ?_
 rintro e w2 ⟨rfl,hF2⟩
 obtain⟨n,hn⟩:∃ n,n=locN f:=⟨_,rfl⟩
 have HNN:Hd (n=locN f):=hn
 rw[← hn] at HED HSO HVX HESC HFL hn1 hn0 ⊢
 have HF2:Hd (Fr (fun _=>False) wy w2):=hF2
 have HW2:Hd (wy.heap.size≤w2.heap.size):=hF2.size
 clear hn hF2 s0 s1 s2 s3 HLO
 obtain⟨s0,s1,s2,s3⟩:=HS.out w2 HF2.out
 go_wp2_with fail
 refine(HESC.out w2 ea ec (edges_stay HEy.out HF2.out)).mono ?_
 rintro e w3 ⟨hF3,oa,oc,esc,x,rfl,hob,hL3,hx3⟩
 have HOB:Hd (OB w3 w2.heap.size (.slice oa n oc) n esc):=hob
 have HL3:Hd (Least n es (rootsX r) x):=hL3
 have HX3:Hd (∀ l,l<n→esc l=decide (x l = -1)):=hx3
 have HF3:Hd (Fr (fun _=>False) wy w3):=HF2.out.trans hF3
 have HH3:Hd _:=rheaps_any n oa oc esc w3 hob.bl hn1
 clear hF3 hob hL3 hx3 HESC HF2 s0 s1 s2 s3
 go_wp2_with fail
 refine Calls.mono HH3.out ?_
 rintro e w4 ⟨hF4,ra,rl,rc,rfl,hrl,hio⟩
 have HF4:Hd (Fr (fun _=>False) wy w4):=HF3.out.trans hF4
 have HC4:Hd (Calls Tryz.prog 58 #[vI n,.slice ea es.length ec,.slice ra rl rc] w4 (RfE n es (heapsX n esc) w4)):=HFL.out wy w4 ea ec _ _ _ _ HEy.out HF4.out (iown_ints hio) (HED.out.heaps esc) (by have:=heapsX_len n esc;omega)
 have HO4:Hd (OB w4 w2.heap.size (.slice oa n oc) n esc):=HOB.out.stay hF4
 clear hF4 hrl hio HH3 HOB HF3
 go_wp2_with fail
 refine HC4.out.mono ?_
 rintro e w5 ⟨hF5,ya,yc,y,rfl,hyi,hyb,hyl⟩
 have HF5:Hd (Fr (fun _=>False) wy w5):=HF4.out.trans hF5
 have HY:Hd (∀ wx,Fr (fun _=>False) w5 wx→∀ i,i<n→∃ k o,ya=some ⟨k,o,none⟩∧k<w5.heap.size∧wx.cell? ⟨k,o+i,none⟩=some (vI (y i))):=fun wx hx i hi=>by
  obtain⟨a',c',e,h⟩:=hyi
  injection e with e1 e2 e3
  subst e1
  have hi':i<((List.range n).map y).length:=by simpa using hi
  obtain⟨k,o,e1,e2,e3⟩:=h (by intro e;rw[e] at hi';simp at hi')
  refine⟨k,o,e1,e2,(hx.cell e2 (fun e=>e)).trans ?_⟩
  rw[e3 i hi'];simp
 have HLY:Hd (Least n es (heapsX n esc) y):=hyl
 have HO5:Hd (∀ wx,Fr (fun j=>j=H+1) w5 wx→BL wx (.slice oa n oc) ((List.range n).map esc)):=fun wx hx=>by
  have h:OB wx w2.heap.size (.slice oa n oc) n esc:=ownsRow_frL (HO4.out.stay hF5) hx (fun g e e2=>by
   have h1:=(World.ownsRow.lt (HO4.out.stay hF5) g e).1
   have h2:=HW2.out
   have h3:=HXY.out
   have h4:=HXg.out
   omega)
  exact h.bl
 obtain⟨yk,yo,eya,hyk,-⟩:=HY.out w5 (Fr.refl _ _) 0 hn0
 subst eya
 have HYK:Hd (yk<w5.heap.size):=hyk
 have HYC:Hd (∀ wx,Fr (fun _=>False) w5 wx→∀ i,i<n→wx.cell? ⟨yk,yo+i,none⟩=some (vI (y i))):=fun wx hx i hi=>by
  obtain⟨k,o,e,-,h⟩:=HY.out wx hx i hi
  cases e
  exact h
 clear hF5 hyi hyb hyl HC4 HO4 HF4 HY hyk
 go_wp2_with fail
 go_loopw [15,16] (fun mv v wr=>∃ (j:Nat) (us:List Value) (z:Nat→Nat→Int),v = .int .i64 j∧j≤r∧Hd (Rz wr w5.heap.size n j mv us z)∧Hd (∀ q,q<j→Least n es [1+(q:Int)] (z q))∧Hd (Fr (fun _=>False) w5 wr)) (fun _ v _=>match v with | .int _ q=>r-q.toNat | _=>0)
 case atStart=>exact⟨0,[],fun _ _=>0,rfl,Nat.zero_le _,Rz.nil _ _ _ _,fun q hq=>absurd hq (Nat.not_lt_zero _),Fr.refl _ _⟩
 case round =>
  obtain⟨j,us,z,rfl,hj,HR,HZ,HF⟩:=hrel
  obtain⟨s0,s1,s2,s3⟩:=HS.out wr (HF5.out.trans HF.out)
  by_cases hjr:j<r
  ·have hj0:(0:Int)≤j:=by omega
   have hj1:(j:Int)<r:=by omega
   have hw1:wrap64 (1+(j:Int))=1+(j:Int):=by unfold wrap64;omega
   have HFb:Hd (Fr (fun _=>False) wr (wr.alloc (.cells #[vI (1+(j:Int))] 3))):=Fr.alloc (Fr.refl _ wr) _
   have HCF:Hd (Calls Tryz.prog 58 #[vI n,.slice ea es.length ec,.slice (some ⟨wr.heap.size,0,none⟩) 1 1] (wr.alloc (.cells #[vI (1+(j:Int))] 3)) (RfE n es [1+(j:Int)] (wr.alloc (.cells #[vI (1+(j:Int))] 3)))):=HFL.out wy _ ea ec _ _ _ _ HEy.out ((HF5.out.trans HF.out).trans HFb.out) (ints_one wr (1+(j:Int))) (HED.out.res hjr) (by simp)
   go_wp2_with fail
   refine HCF.out.mono ?_
   rintro e wf ⟨hFf,za,zc,zj,rfl,hzi,hzb,hzl⟩
   obtain⟨zk,zo,eza,hzk,hzc⟩:∃ k o,za=some ⟨k,o,none⟩∧k<wf.heap.size∧∀ x,x<n→wf.cell? ⟨k,o+x,none⟩=some (vI (zj x)):=by
    obtain⟨a',c',e,h⟩:=hzi
    injection e with e1 e2 e3
    subst e1
    obtain⟨k,o,e1,e2,e3⟩:=h (by intro e;have:=congrArg List.length e;simp at this;omega)
    exact⟨k,o,e1,e2,fun x hx=>by rw[e3 x (by simpa using hx)];simp⟩
   subst eza
   have hzv:u15.ownBlock≠some zk:=fun e=>by
    have h5:=hzb zk rfl
    have h6:=(World.ownsRow.lt HR.out.row zk e).2
    have h7:=HFb.out.size
    simp at h5
    omega
   have HFn:Hd (Fr (fun _=>False) wf (wf.alloc (.cells #[.slice (some ⟨zk,zo,none⟩) n zc] 30))):=Fr.alloc (Fr.refl _ _) _
   have HR1:Hd (Rz (wf.alloc (.cells #[.slice (some ⟨zk,zo,none⟩) n zc] 30)) w5.heap.size n j u15 us z):=HR.out.keep ((HFb.out.trans hFf).trans HFn.out)
   have hnews:∀ j u,[Value.slice (some ⟨zk,zo,none⟩) n zc][j]?=some u→(wf.alloc (.cells #[.slice (some ⟨zk,zo,none⟩) n zc] 30)).cell? ((⟨wf.heap.size,0,none⟩:Addr).add j)=some u :=
    World.news_of_block (cs:=#[.slice (some ⟨zk,zo,none⟩) n zc]) (heap_new0 wf _)
   have HF1:Hd (Fr (fun _=>False) w5 wf):=(HF.out.trans HFb.out).trans hFf
   have hbase:w5.heap.size≤(wf.alloc (.cells #[.slice (some ⟨zk,zo,none⟩) n zc] 30)).heap.size:=(HF1.out.trans HFn.out).size
   have hul:us.length≤4:=by have:=HR.out.len;omega
   have HC6:Hd (∀ x,x<n→(wf.alloc (.cells #[.slice (some ⟨zk,zo,none⟩) n zc] 30)).cell? ⟨zk,zo+x,none⟩=some (vI (zj x))):=fun x hx=>(HFn.out.cell hzk (fun e=>e)).trans (hzc x hx)
   have HZK:Hd (zk<(wf.alloc (.cells #[.slice (some ⟨zk,zo,none⟩) n zc] 30)).heap.size):=Nat.lt_of_lt_of_le hzk HFn.out.size
   have HZV:Hd (u15.ownBlock≠some zk):=hzv
   have HZ2:Hd (∀ q,q<j+1→Least n es [1+(q:Int)] (Wg.upd z j zj q)):=fun q hq=>by
    by_cases e:q=j
    ·rw[e,Wg.upd_same];exact hzl
    ·rw[Wg.upd_ne _ _ e];exact HZ.out q (by omega)
   clear hFf hzi hzb hzl hzk hzc hzv HR HZ HF HFb HCF s0 s1 s2 s3
   go_wp2_with ((at_builtin;refine Hd.out ?_))
   unfold Hd
   refine wpList_append_lies _ rfl (.tmp 56) (.tmp 63) 31 rfl w5.heap.size 30 i22 (.slice none 0 0) 1 24 underL32 hi22 hz22 hs22 hb22 rfl (by omega) u15 us.length _ rfl HR1.out.row ⟨wf.heap.size,0,none⟩ 1 1 [.slice (some ⟨zk,zo,none⟩) n zc] rfl rfl hnews (by intro u hu;simp at hu;subst hu;rfl) (by omega) (by unfold maxLen;omega) (by omega) hbase (wf.heap.size+1) (by simp) ?_
   intro g6 cap6 w6 hown6 hgrow6 hat6 hlt6
   have HR6:Hd (Rz w6 w5.heap.size n (j+1) (.slice (some ⟨g6,0,none⟩) (us.length+1) cap6) (us++[.slice (some ⟨zk,zo,none⟩) n zc]) (Wg.upd z j zj)):=HR1.out.grow HZK.out HZV.out HC6.out hgrow6 hown6 (by rw[World.size_alloc];exact hat6)
   have HF6:Hd (Fr (fun _=>False) w5 w6):=grow_fr0 (HF1.out.alloc _) hgrow6 (fun k hk=>(World.ownsRow.lt HR1.out.row k hk).1)
   clear hown6 hgrow6 hat6 hlt6 HR1 hnews hbase HF1 HFn HC6 HZK HZV
   go_wp2_with fail
   exact⟨⟨j+1,_,_,by simp,by omega,HR6.out,HZ2.out,HF6.out⟩,by simp;omega⟩
  ·have hje:j=r:=by omega
   have dj:decide ((j:Int)<r)=false:=by simp;omega
   have HZ2:Hd (∀ q,q<r→Least n es [1+(q:Int)] (z q)):=fun q hq=>HZ.out q (by omega)
   have HR2:Hd (Rz wr w5.heap.size n r u15 us z):=by have:=HR.out;rw[hje] at this;exact this
   clear hje HZ HR
   go_upto_region 14 with fail
   have HFS:Hd (Fr (fun _=>False) wr (wr.alloc nil2)):=Fr.alloc (Fr.refl _ wr) _
   have HBS:Hd ((wr.alloc nil2).heap[wr.heap.size]?=some nil2):=heap_new0 wr _
   have HSg:Hd (w5.heap.size≤wr.heap.size):=HF.out.size
   obtain⟨S,hS⟩:∃ S,S=wr.heap.size:=⟨_,rfl⟩
   have HSW:Hd (S=wr.heap.size):=hS
   rw[← hS] at HBS HSg ⊢
   clear hS
   generalize (wr.alloc nil2)=w6 at *
   have HYC:Hd (∀ wx,Fr (fun _=>False) wr wx→∀ i,i<n→wx.cell? ⟨yk,yo+i,none⟩=some (vI (y i))):=fun wx hx i hi=>HYC.out wx (HF.out.trans hx) i hi
   have HYK:Hd (yk<S):=by have:=HYK.out;have:=HSg.out;unfold Hd;omega
   have HS':Hd (∀ (wx:World),Fr (fun _=>False) wr wx→wx.cell? ⟨X,0,none⟩=some (vI p)∧wx.cell? ⟨X,1,none⟩=some (vI r)∧wx.cell? ⟨X,2,none⟩=some (vI f.V)∧wx.cell? ⟨X,3,none⟩=some (.slice ca f.code.length cc)):=fun wx hx=>HS.out wx ((HF5.out.trans HF.out).trans hx)
   have HVA':Hd (∀ wx (i:Nat),Fr (fun _=>False) wr wx→i<p→Calls Tryz.prog 60 #[.agg #[vI p,vI r,vI f.V,.slice ca f.code.length cc],vI (i:Int)] wx fun e w'=>e = .returned (vI ((1+r+i:Nat):Int))∧Fr (fun _=>False) wx w'):=fun wx i hx hi=>HVA.out wx i (((HFw.out.trans HF5.out).trans HF.out).trans hx) hi
   have HTO:Hd (∀ (q:Nat) wx,q<n→Calls Tryz.prog 61 #[vI (y q)] wx fun e w'=>e = .returned (vI (max (y q) 0))∧w'=wx):=fun q wx hq=>rtold_any (y q) wx (by have:=HLY.out.val (HED.out.heaps esc) hq;omega)
   have HTZ:Hd (∀ (j q:Nat) wx,j<r→q<n→Calls Tryz.prog 61 #[vI (z j q)] wx fun e w'=>e = .returned (vI (max (z j q) 0))∧w'=wx):=fun j q wx hj hq=>rtold_any (z j q) wx (by have:=(HZ2.out j hj).val (HED.out.res hj) hq;omega)
   have HHS:Hd (H+1<S):=by have h1:=HXg.out;have h2:=HXY.out;have h3:=HF5.out.size;have h4:=HSg.out;unfold Hd;omega
   have HFin:Hd (∀ wz wx,Fr (fun _=>False) wr wz→Fr (fun j=>j=H+1) wz wx→∀ hv rv vs,SO wz (S+1) hv rv vs ⟨(List.range p).map fun i=>max (y (1+r+i)) 0,(List.range p).map fun i=>(List.range r).map fun j=>max (z j (1+r+i)) 0⟩→RFnE G fs i ss w (.returned (.tuple #[.slice oa n oc,.agg #[hv,rv],vI 0])) wx):=fun wz wx hx hx2 hv rv vs hso=>by
    obtain⟨hes1,hes2⟩:=HSO.out esc y z ⟨⟨x,HL3.out,HX3.out⟩,HLY.out,HZ2.out⟩
    have hfr:=((HFw.out.trans HF5.out).trans HF.out).trans hx
    have h3:=HHS.out
    refine HEND.out _ _ (hfr.then hx2 (fun j hj e=>by have:=HH.out;omega)) ⟨oa,oc,hv,rv,vs,by rw[← HNN.out],?_,?_⟩
    ·have h9:=HO5.out wx (((HF.out.trans hx).mono (fun _ _ e=>e.elim)).trans hx2)
     rw[← HNN.out]
     have:(List.range n).map (escF ss f)=(List.range n).map esc:=List.map_congr_left fun l hl=>(hes1 l (List.mem_range.1 hl)).symm
     rw[this]
     exact h9
    ·rw[hes2]
     have h1:=((HFw.out.trans HF5.out).trans HF.out).size
     have h2:=HSW.out
     exact(hso.other hx2 (fun k e e2=>by have:=(hso.oh.ge k e).1;omega) (fun k e e2=>by have:=(World.ownsRow.lt hso.lo.row k e).1;omega) (fun i hi k e e2=>by have:=((hso.lo.each i hi (by have:=hso.lo.ul;omega)).ge k e).1;omega)).mono (by omega)
   have HNw:Hd (∀ wx,Fr (fun _=>False) wr wx→wx.heap[H+1]?=some nil2):=fun wx hx=>keepF HNy.out ((HF5.out.trans HF.out).trans hx)
   clear HSO HX3 HL3 HLY HZ2 HO5 HVA HS HFL HED HEy HNy HF5 HFw HF s0 s1 s2 s3 dj
   generalize wr=wb at *
   have HSb:Hd (wb.heap.size≤S):=by have:=HSW.out;unfold Hd;omega
   go_wp2_with fail
   go_loopw [18] (fun v wx=>∃ (k:Nat) (hv rv:Value) (vs:List Value),v = .int .i64 k∧k≤p∧Hd (wx.heap[S]?=some (.cells #[hv,rv] 33))∧Hd (SO wx (S+1) hv rv vs ⟨(List.range k).map fun i=>max (y (1+r+i)) 0,(List.range k).map fun i=>(List.range r).map fun j=>max (z j (1+r+i)) 0⟩)∧Hd (Fr (fun _=>False) wb wx)) (fun v _=>match v with | .int _ q=>p-q.toNat | _=>0)
   case atStart=>exact⟨0,_,_,[],rfl,Nat.zero_le _,HBS.out,⟨World.ownsRow_nil _ _ _ _,LO.nil _ _,fun i h=>by simp at h⟩,HFS.out⟩
   case round =>
    clear HBS HFS
    obtain⟨k,hv,rv,vs,rfl,hk,HBS,HSO,HF⟩:=hrel
    obtain⟨s0,s1,s2,s3⟩:=HS'.out wr HF.out
    by_cases hkp:k<p
    ·have hk0:(0:Int)≤k:=by omega
     have hk1:(k:Int)<p:=by omega
     have HCV:Hd _:=HVA'.out wr k HF.out hkp
     go_wp2_with fail
     refine Calls.mono HCV.out ?_
     rintro e w7 ⟨rfl,hF7⟩
     have HF7:Hd (Fr (fun _=>False) wb w7):=HF.out.trans hF7
     have HB7:Hd (w7.heap[S]?=some (.cells #[hv,rv] 33)):=keepF HBS.out hF7
     have HS7:Hd (SO w7 (S+1) hv rv vs ⟨(List.range k).map fun i=>max (y (1+r+i)) 0,(List.range k).map fun i=>(List.range r).map fun j=>max (z j (1+r+i)) 0⟩):=HSO.out.keep hF7
     obtain⟨at1,hat1⟩:∃ at1,at1=1+r+k:=⟨_,rfl⟩
     have hatn:at1<n:=by have:=(HVX.out k hkp).2;omega
     have ha0:(0:Int)≤at1:=by omega
     have ha1:(at1:Int)<n:=by omega
     have HHE:Hd ((List.range (k+1)).map (fun i=>max (y (1+r+i)) 0)=(List.range k).map (fun i=>max (y (1+r+i)) 0)++[max (y at1) 0]):=by unfold Hd;rw[List.range_succ,List.map_append,hat1];rfl
     have HRE:Hd ((List.range (k+1)).map (fun i=>(List.range r).map fun j=>max (z j (1+r+i)) 0)=(List.range k).map (fun i=>(List.range r).map fun j=>max (z j (1+r+i)) 0)++[(List.range r).map fun j=>max (z j at1) 0]):=by unfold Hd;rw[List.range_succ,List.map_append,hat1];rfl
     rw[← hat1]
     clear hF7 HBS HSO HF s0 s1 s2 s3 HCV hat1
     have HHL:Hd (((List.range k).map fun i=>max (y (1+r+i)) 0).length=k):=by unfold Hd;simp
     have HRL:Hd (((List.range k).map fun i=>(List.range r).map fun j=>max (z j (1+r+i)) 0).length=k):=by unfold Hd;simp
     generalize ((List.range k).map fun i=>max (y (1+r+i)) 0)=L1 at *
     generalize ((List.range k).map fun i=>(List.range r).map fun j=>max (z j (1+r+i)) 0)=L2 at *
     obtain⟨va,vc,ehv⟩:=own_slice HS7.out.oh
     have hl1:=HHL.out
     rw[hl1] at ehv
     subst ehv
     have x0:w7.cell? ⟨S,0,none⟩=some (.slice va k vc):=by rw[cell_of0 HB7.out];rfl
     have y0:=HYC.out w7 HF7.out at1 hatn
     have lS:=heap_lt0 HB7.out
     have lY:=Nat.lt_of_lt_of_le HYK.out (Nat.le_of_lt lS)
     have HCT:Hd (∀ wx,Calls Tryz.prog 61 #[vI (y at1)] wx fun e w'=>e = .returned (vI (max (y at1) 0))∧w'=wx):=fun wx=>HTO.out at1 wx hatn
     obtain⟨d,hd⟩:∃ d,d=max (y at1) 0:=⟨_,rfl⟩
     rw[← hd] at HCT HHE
     clear hd
     have HYY:Hd (∀ wx,Fr (fun _=>False) wb wx→wx.cell? ⟨yk,yo+at1,none⟩=some (vI (y at1))):=fun wx hx=>HYC.out wx hx at1 hatn
     generalize y at1=yy at *
     go_upto_region 18 with fail
     go_cut [] (fun wx=>Hd (∃ g6 cap6,wx.heap[S]?=some (.cells #[.slice (some ⟨g6,0,none⟩) (k+1) cap6,rv] 33)∧SO wx (S+1) (.slice (some ⟨g6,0,none⟩) (k+1) cap6) rv vs ⟨L1++[d],L2⟩∧Fr (fun _=>False) wb wx))
     case first =>
      go_region_law ((
       first
        |(go_simp
          go_at_call 61
          refine(HCT.out w7.drew).mono ?_
          rintro e w8 ⟨rfl,hw8⟩
          have hG8:Fr (fun _=>False) w7 w8:=by rw[hw8];exact Fr.drew (Fr.refl _ w7)
          have HFn:Hd (Fr (fun _=>False) w8 (w8.alloc (.cells #[vI d] 3))):=Fr.alloc (Fr.refl _ w8) _
          have HG9:Hd (Fr (fun _=>False) w7 (w8.alloc (.cells #[vI d] 3))):=hG8.trans HFn.out
          have HS9:Hd (SO (w8.alloc (.cells #[vI d] 3)) (S+1) (.slice va k vc) rv vs ⟨L1,L2⟩):=HS7.out.keep HG9.out
          have HRW:Hd ((w8.alloc (.cells #[vI d] 3)).ownsRow (S+1) 3 1 (.slice va k vc) k (L1.map vI)):=by have:=HS9.out.oh;unfold IOwn at this;rw[HHL.out] at this;exact this
          have HNW:Hd (∀ j' u,[vI d][j']?=some u→(w8.alloc (.cells #[vI d] 3)).cell? ((⟨w8.heap.size,0,none⟩:Addr).add j')=some u):=World.news_of_block (cs:=#[vI d]) (heap_new0 w8 _)
          have HBS2:Hd (S+1≤(w8.alloc (.cells #[vI d] 3)).heap.size):=by have:=HG9.out.size;unfold Hd;omega
          have x0b:=(HG9.out.cell lS (fun e=>e)).trans x0
          have x0:=(hG8.cell lS (fun e=>e)).trans x0
          have y0:=(hG8.cell lY (fun e=>e)).trans y0
          clear hw8 hG8)
        |(obtain⟨i3,hi3,hz3,hs3,hb3⟩:=info_parts (P:=Tryz.prog) (e:=3) (z:=.int .i64 0) (size:=1) (bytes:=8) (by kernel_rfl)
          refine step_append_lies _ rfl (.tmp 75) (.tmp 81) 30 rfl (S+1) 3 i3 (.int .i64 0) 1 8 under64 hi3 hz3 hs3 hb3 rfl (by omega) (.slice va k vc) k _ (by simp[Act.eval,Act.put]) HRW.out ⟨w8.heap.size,0,none⟩ 1 1 [vI d] (by simp[Act.eval,Act.put]) rfl HNW.out (by intro u hu;simp at hu;subst hu;rfl) (by omega) (by unfold maxLen;omega) (by omega) HBS2.out (w8.heap.size+1) (by simp) ?_
          intro g6 cap6 w9 hown6 hgrow6 hat6 hlt6
          have hio:IOwn w9 (S+1) (.slice (some ⟨g6,0,none⟩) (L1.length+1) cap6) (L1++[d]):=by unfold IOwn;rw[List.map_append,List.length_append,HHL.out];exact hown6
          have hso:SO w9 (S+1) (.slice (some ⟨g6,0,none⟩) (L1.length+1) cap6) rv vs ⟨L1++[d],L2⟩:=HS9.out.appH hgrow6 hio (by rw[World.size_alloc];exact hat6)
          rw[HHL.out] at hso
          have HSA:Hd (SO w9 (S+1) (.slice (some ⟨g6,0,none⟩) (k+1) cap6) rv vs ⟨L1++[d],L2⟩):=hso
          have hfg:=grown_frL hgrow6
          have hBS9:w9.heap[S]?=some (.cells #[.slice va k vc,rv] 33):=(hfg.block S (by have:=HBS2.out;omega) (fun e=>by have:=(World.ownsRow.lt HRW.out S e).1;omega)).trans (keepF HB7.out HG9.out)
          have HB9:Hd (w9.heap[S]?=some (.cells #[.slice va k vc,rv] 33)):=hBS9
          have HF9:Hd (Fr (fun _=>False) wb w9):=grow_fr0 (HF7.out.trans HG9.out) hgrow6 (fun j hj=>by have:=(World.ownsRow.lt HRW.out j hj).1;have:=HSW.out;omega)
          have x9:w9.cell? ⟨S,0,none⟩=some (.slice va k vc):=by rw[cell_of0 hBS9];rfl
          have z9:=frozen_of hBS9 0
          have y9:=HYY.out w9 HF9.out
          have HX9:Hd (∃ g6' cap6',(w9.setCell ⟨S,0,none⟩ (.slice (some ⟨g6,0,none⟩) (k+1) cap6)).heap[S]?=some (.cells #[.slice (some ⟨g6',0,none⟩) (k+1) cap6',rv] 33)∧SO (w9.setCell ⟨S,0,none⟩ (.slice (some ⟨g6,0,none⟩) (k+1) cap6)) (S+1) (.slice (some ⟨g6',0,none⟩) (k+1) cap6') rv vs ⟨L1++[d],L2⟩∧Fr (fun _=>False) wb (w9.setCell ⟨S,0,none⟩ (.slice (some ⟨g6,0,none⟩) (k+1) cap6))):=⟨g6,cap6,set_of hBS9 0 _,hso.low (by omega),HF9.out.setCell _ _ (Or.inr HSb.out)⟩
          clear hown6 hgrow6 hat6 hlt6 hio hso hfg hBS9 hi3 hz3 hs3 hb3)))
      all_goals
       go_wp2_with fail
       go_meet
       exact HX9.out
     case rest =>
      obtain⟨g6,cap6,hB10,hS10,hF10⟩:=hcut.out
      have HB10:Hd (wc.heap[S]?=some (.cells #[.slice (some ⟨g6,0,none⟩) (k+1) cap6,rv] 33)):=hB10
      have HS10:Hd (SO wc (S+1) (.slice (some ⟨g6,0,none⟩) (k+1) cap6) rv vs ⟨L1++[d],L2⟩):=hS10
      have HF10:Hd (Fr (fun _=>False) wb wc):=hF10
      clear hcut hB10 hS10 hF10 HB7 HS7 HF7 x0 y0 HCT HYY lS lY
      go_wp2_with fail
      go_loopw [20,21] (fun lv v wx=>∃ (j:Nat),v = .int .i64 j∧j≤r∧Hd (IOwn wx wc.heap.size lv ((List.range j).map fun j=>max (z j at1) 0))∧Hd (Fr (fun _=>False) wc wx)) (fun _ v _=>match v with | .int _ q=>r-q.toNat | _=>0)
      case atStart=>exact⟨0,rfl,Nat.zero_le _,World.ownsRow_nil _ _ _ _,Fr.refl _ _⟩
      case round =>
       obtain⟨j,rfl,hj,HI,HF⟩:=hrel
       obtain⟨s0,s1,s2,s3⟩:=HS'.out wr (HF10.out.trans HF.out)
       by_cases hjr:j<r
       ·have hj0:(0:Int)≤j:=by omega
        have hj1:(j:Int)<r:=by omega
        have hju:j<us.length:=by have:=HR2.out.len;omega
        have HRz:=HR2.out.keep (HF10.out.trans HF.out)
        obtain⟨zk,zo,zc,e1,e2,e3,e4⟩:=HRz.each j hju
        obtain⟨ga,gcap,ego,egb,egc⟩:=own_cell HRz.row (j:=j) (u:=us[j]) (by simp[hju])
        rw[e1] at egc
        have p1:=e4 at1 hatn
        have hul:us.length=r:=HR2.out.len
        have HCT:Hd (Calls Tryz.prog 61 #[vI (z j at1)] wr fun e w'=>e = .returned (vI (max (z j at1) 0))∧w'=wr):=HTZ.out j at1 wr hjr hatn
        have HT:Hd ((List.range (j+1)).map (fun j=>max (z j at1) 0)=(List.range j).map (fun j=>max (z j at1) 0)++[max (z j at1) 0]):=by unfold Hd;rw[List.range_succ,List.map_append];rfl
        have HTL:Hd (((List.range j).map fun j=>max (z j at1) 0).length=j):=by unfold Hd;simp
        obtain⟨d2,hd2⟩:∃ d2,d2=max (z j at1) 0:=⟨_,rfl⟩
        rw[← hd2] at HCT HT
        generalize ((List.range j).map fun j=>max (z j at1) 0)=E at *
        generalize z j at1=zz at *
        rw[hul] at ego
        clear hd2 HRz e1 e4 hul
        subst ego
        go_wp2_with fail
        refine HCT.out.mono ?_
        rintro e w8 ⟨rfl,hw8⟩
        subst hw8
        have HFn:Hd (Fr (fun _=>False) w8 (w8.alloc (.cells #[vI d2] 3))):=Fr.alloc (Fr.refl _ w8) _
        have HRW:Hd ((w8.alloc (.cells #[vI d2] 3)).ownsRow wc.heap.size 3 1 u20 j (E.map vI)):=by have:=HI.out.fr HFn.out (fun _ _ e=>e);unfold IOwn at this;rw[HTL.out] at this;exact this
        have hnews:∀ j' u,[vI d2][j']?=some u→(w8.alloc (.cells #[vI d2] 3)).cell? ((⟨w8.heap.size,0,none⟩:Addr).add j')=some u:=World.news_of_block (cs:=#[vI d2]) (heap_new0 w8 _)
        have hbase:wc.heap.size≤(w8.alloc (.cells #[vI d2] 3)).heap.size:=(HF.out.trans HFn.out).size
        have hj5:j≤4:=by omega
        clear p1 egc egb e2 e3 HCT s0 s1 s2 s3
        go_wp2_with ((at_builtin;refine Hd.out ?_))
        unfold Hd
        obtain⟨i3,hi3,hz3,hs3,hb3⟩:=info_parts (P:=Tryz.prog) (e:=3) (z:=.int .i64 0) (size:=1) (bytes:=8) (by kernel_rfl)
        refine wpList_append_lies _ rfl (.tmp 90) (.tmp 99) 30 rfl wc.heap.size 3 i3 (.int .i64 0) 1 8 under64 hi3 hz3 hs3 hb3 rfl (by omega) u20 j _ rfl HRW.out ⟨w8.heap.size,0,none⟩ 1 1 [vI d2] rfl rfl hnews (by intro u hu;simp at hu;subst hu;rfl) (by omega) (by unfold maxLen;omega) (by omega) hbase (w8.heap.size+1) (by simp) ?_
        intro g7 cap7 w9 hown7 hgrow7 hat7 hlt7
        have HI9:Hd (IOwn w9 wc.heap.size (.slice (some ⟨g7,0,none⟩) (j+1) cap7) ((List.range (j+1)).map fun j=>max (z j at1) 0)):=by unfold Hd IOwn;rw[HT.out,List.map_append,List.length_append,HTL.out];exact hown7
        have HF9:Hd (Fr (fun _=>False) wc w9):=grow_fr0 (HF.out.trans HFn.out) hgrow7 (fun j hj=>(World.ownsRow.lt HRW.out j hj).1)
        clear hown7 hgrow7 hat7 hlt7 hi3 hz3 hs3 hb3 HRW hnews hbase HF HI HT HTL
        go_wp2_with fail
        exact⟨⟨j+1,by simp,by omega,HI9.out,HF9.out⟩,by simp;omega⟩
       ·have hje:j=r:=by omega
        have djr:decide ((j:Int)<r)=false:=by simp;omega
        have HI2:Hd (IOwn wr wc.heap.size u20 ((List.range r).map fun j=>max (z j at1) 0)):=by have:=HI.out;rw[hje] at this;exact this
        have HLL:Hd (((List.range r).map fun j=>max (z j at1) 0).length=r):=by unfold Hd;simp
        generalize ((List.range r).map fun j=>max (z j at1) 0)=E at *
        obtain⟨la,lc,elv⟩:=own_slice HI2.out
        have hl2:=HLL.out
        rw[hl2] at elv
        subst elv
        obtain⟨wa1,wc1,erv⟩:=own_slice HS10.out.lo.row
        have hvl:vs.length=k:=by rw[HS10.out.lo.ul];exact HRL.out
        rw[hvl] at erv
        subst erv
        have HBr:Hd (wr.heap[S]?=some (.cells #[.slice (some ⟨g6,0,none⟩) (k+1) cap6,.slice wa1 k wc1] 33)):=keepF HB10.out HF.out
        have x1:wr.cell? ⟨S,1,none⟩=some (.slice wa1 k wc1):=by rw[cell_of0 HBr.out];rfl
        have HFn:Hd (Fr (fun _=>False) wr (wr.alloc (.cells #[.slice la r lc] 30))):=Fr.alloc (Fr.refl _ wr) _
        have HSn:Hd (SO (wr.alloc (.cells #[.slice la r lc] 30)) (S+1) (.slice (some ⟨g6,0,none⟩) (k+1) cap6) (.slice wa1 k wc1) vs ⟨L1++[d],L2⟩):=HS10.out.keep (HF.out.trans HFn.out)
        have hcs:S+1≤wc.heap.size:=heap_lt0 HB10.out
        have HLn:Hd (IOwn (wr.alloc (.cells #[.slice la r lc] 30)) (S+1) (.slice la r lc) E):=(HI2.out.mono hcs).fr HFn.out (fun _ _ e=>e)
        have HAP:Hd (∀ i (hi:i<vs.length),∀ k,vs[i].ownBlock=some k→(Value.slice la r lc).ownBlock≠some k):=fun i hi j e e2=>by
         have h1:=(HI2.out.ge j e2).1
         have h2:=((HS10.out.lo.each i hi (by have:=HS10.out.lo.ul;omega)).ge j e).2
         omega
        have HAQ:Hd (∀ k,(Value.slice la r lc).ownBlock=some k→g6≠k):=fun j e2 e=>by
         have h1:=(HI2.out.ge j e2).1
         have h2:=(HS10.out.oh.ge g6 rfl).2
         omega
        have HRW:Hd ((wr.alloc (.cells #[.slice la r lc] 30)).ownsRow (S+1) 30 1 (.slice wa1 k wc1) k vs):=by have:=HSn.out.lo.row;rw[hvl] at this;exact this
        have hnews:∀ j' u,[Value.slice la r lc][j']?=some u→(wr.alloc (.cells #[.slice la r lc] 30)).cell? ((⟨wr.heap.size,0,none⟩:Addr).add j')=some u:=World.news_of_block (cs:=#[.slice la r lc]) (heap_new0 wr _)
        have hbase:S+1≤(wr.alloc (.cells #[.slice la r lc] 30)).heap.size:=Nat.le_trans hcs (HF.out.trans HFn.out).size
        have HVL:Hd (vs.length=k):=hvl
        have HFw:Hd (Fr (fun _=>False) wb (wr.alloc (.cells #[.slice la r lc] 30))):=(HF10.out.trans HF.out).trans HFn.out
        clear hje HI hl2 hvl hcs
        go_wp2_with ((at_builtin;refine Hd.out ?_))
        unfold Hd
        refine wpList_append_lies _ rfl (.tmp 102) (.tmp 104) 31 rfl (S+1) 30 i22 (.slice none 0 0) 1 24 underL32 hi22 hz22 hs22 hb22 rfl (by omega) (.slice wa1 k wc1) k _ rfl HRW.out ⟨wr.heap.size,0,none⟩ 1 1 [.slice la r lc] rfl rfl hnews (by intro u hu;simp at hu;subst hu;rfl) (by omega) (by unfold maxLen;omega) (by omega) hbase (wr.heap.size+1) (by simp) ?_
        intro g7 cap7 w9 hown7 hgrow7 hat7 hlt7
        have hso:SO w9 (S+1) (.slice (some ⟨g6,0,none⟩) (k+1) cap6) (.slice (some ⟨g7,0,none⟩) (vs.length+1) cap7) (vs++[.slice la r lc]) ⟨L1++[d],L2++[E]⟩:=HSn.out.appR HLn.out HAP.out (fun k e e2=>HAQ.out k e (Option.some.inj e2)) hgrow7 (by rw[HVL.out];exact hown7)
        rw[HVL.out] at hso
        have hB9:w9.heap[S]?=some (.cells #[.slice (some ⟨g6,0,none⟩) (k+1) cap6,.slice wa1 k wc1] 33):=((grown_frL hgrow7).block S (by omega) (fun e=>by have:=(World.ownsRow.lt HRW.out S e).1;omega)).trans (keepF HBr.out HFn.out)
        have HF9:Hd (Fr (fun _=>False) wb w9):=grow_fr0 HFw.out hgrow7 (fun j hj=>by have:=(World.ownsRow.lt HRW.out j hj).1;have:=HSW.out;omega)
        have x9:w9.cell? ⟨S,1,none⟩=some (.slice wa1 k wc1):=by rw[cell_of0 hB9];rfl
        have z9:=frozen_of hB9 1
        have HBX:Hd ((w9.setCell ⟨S,1,none⟩ (.slice (some ⟨g7,0,none⟩) (k+1) cap7)).heap[S]?=some (.cells #[.slice (some ⟨g6,0,none⟩) (k+1) cap6,.slice (some ⟨g7,0,none⟩) (k+1) cap7] 33)):=set_of hB9 1 _
        have HSX:Hd (SO (w9.setCell ⟨S,1,none⟩ (.slice (some ⟨g7,0,none⟩) (k+1) cap7)) (S+1) (.slice (some ⟨g6,0,none⟩) (k+1) cap6) (.slice (some ⟨g7,0,none⟩) (k+1) cap7) (vs++[.slice la r lc]) ⟨(List.range (k+1)).map fun i=>max (y (1+r+i)) 0,(List.range (k+1)).map fun i=>(List.range r).map fun j=>max (z j (1+r+i)) 0⟩):=by unfold Hd;rw[HHE.out,HRE.out];exact hso.low (by omega)
        have HFX:Hd (Fr (fun _=>False) wb (w9.setCell ⟨S,1,none⟩ (.slice (some ⟨g7,0,none⟩) (k+1) cap7))):=HF9.out.setCell _ _ (Or.inr HSb.out)
        clear hown7 hgrow7 hat7 hlt7 hso hB9 HF9 HRW hnews hbase HSn HLn HAP HAQ HBr x1 HHE HRE HB10 HS10 HF10 HFw HFn
        go_wp2_with fail
        exact⟨⟨k+1,_,_,_,by simp,by omega,HBX.out,HSX.out,HFX.out⟩,by simp;omega⟩
    ·have hke:k=p:=by omega
     have dk:decide ((k:Int)<p)=false:=by simp;omega
     have HSP:Hd (SO wr (S+1) hv rv vs ⟨(List.range p).map fun i=>max (y (1+r+i)) 0,(List.range p).map fun i=>(List.range r).map fun j=>max (z j (1+r+i)) 0⟩):=by have:=HSO.out;rw[hke] at this;exact this
     obtain⟨va,vc,ehv⟩:=own_slice HSO.out.oh
     obtain⟨wa1,wc1,erv⟩:=own_slice HSO.out.lo.row
     have hl1:((List.range k).map fun i=>max (y (1+r+i)) 0).length=k:=by simp
     have hvl:vs.length=k:=by rw[HSO.out.lo.ul];simp
     simp only[hl1] at ehv
     rw[hvl] at erv
     have hN:=HNw.out wr HF.out
     have y0:wr.cell? ⟨H+1,0,none⟩=some (.slice none 0 0):=by rw[cell_of0 hN];rfl
     have y1:wr.cell? ⟨H+1,1,none⟩=some (.slice none 0 0):=by rw[cell_of0 hN];rfl
     have z0:=frozen_of hN 0
     have z1:=frozen_of hN 1
     subst ehv erv
     have x0:wr.cell? ⟨S,0,none⟩=some (.slice va k vc):=by rw[cell_of0 HBS.out];rfl
     have x1:wr.cell? ⟨S,1,none⟩=some (.slice wa1 k wc1):=by rw[cell_of0 HBS.out];rfl
     have n1:S≠H+1:=by have:=HHS.out;omega
     have n2:H+1≠S:=fun e=>n1 e.symm
     have hN2:((wr.setCell ⟨H+1,0,none⟩ (.slice va k vc)).setCell ⟨H+1,1,none⟩ (.slice wa1 k wc1)).drew.heap[H+1]?=some (.cells #[.slice va k vc,.slice wa1 k wc1] 33):=set_of (set_of hN 0 _) 1 _
     have HE0:Hd (((wr.setCell ⟨H+1,0,none⟩ (.slice va k vc)).setCell ⟨H+1,1,none⟩ (.slice wa1 k wc1)).drew.heap[H+1]?=some (.cells #[.slice va k vc,.slice wa1 k wc1] 33)):=hN2
     have hfz:Fr (fun j=>j=H+1) wr ((wr.setCell ⟨H+1,0,none⟩ (.slice va k vc)).setCell ⟨H+1,1,none⟩ (.slice wa1 k wc1)).drew:=((setCell_fr wr (H+1) 0 _).trans (setCell_fr _ (H+1) 1 _)).drew
     have HEN:Hd (RFnE G fs i ss w (.returned (.tuple #[.slice oa n oc,.agg #[.slice va k vc,.slice wa1 k wc1],vI 0])) ((wr.setCell ⟨H+1,0,none⟩ (.slice va k vc)).setCell ⟨H+1,1,none⟩ (.slice wa1 k wc1)).drew):=HFin.out wr _ HF.out hfz _ _ vs HSP.out
     clear hke hN hN2 hfz hl1 hvl HFin HSP HSO
     go_upto_region 25 with fail
     go_region
     go_wp2_with fail
     generalize ((wr.setCell ⟨H+1,0,none⟩ (.slice va k vc)).setCell ⟨H+1,1,none⟩ (.slice wa1 k wc1)).drew=wv at *
     have e0:wv.cell? ⟨H+1,0,none⟩=some (.slice va k vc):=by rw[cell_of0 HE0.out];rfl
     have e1:wv.cell? ⟨H+1,1,none⟩=some (.slice wa1 k wc1):=by rw[cell_of0 HE0.out];rfl
     refine bodyPost_ret (v:=.tuple #[.slice oa n oc,.agg #[.slice va k vc,.slice wa1 k wc1],vI 0]) ?_ rfl HEN.out
     rw[results_tct (t:=6) (p:=7) (u:=8) (ty:=33) Tryz.results20]
     simp[go_sem,e0,e1]
theorem rfunction_any (G:Int)(fv sv:Value)(fs:List PF)(ss:List PS)(F:Int)(w:World)(h1:FA w fv fs)(h2:SsA w sv ss)(b1:FineP fs)(b2:FineS ss) :
 Calls Tryz.prog 20 #[.agg #[vI G,fv],vI F,sv] w (RFnE G fs F ss w):=by
 by_cases hok:EdgOk G fs F ss
 ·obtain⟨i,rfl,hi,-⟩:=id hok
  exact rfunction_ok G fv sv fs ss i hi w h1 h2 b1 b2 hok
 ·exact rfunction_bad G fv sv fs ss F w h1 h2 b1 b2 hok
end Go.Proofs.YtdkijecnnmncnaaGreatDoor
