import Derived.Test.YtdkijecnnmncnaaGreatDoorQTg
import Derived.Test.YtdkijecnnmncnaaGreatDoorQSdJ
import Derived.Test.YtdkijecnnmncnaaGreatDoorQTeJ
set_option linter.unusedVariables false
set_option linter.unusedSimpArgs false
namespace Go.Proofs.YtdkijecnnmncnaaGreatDoor
open Go.RowKit (wrap32 wrap64)
set_option maxRecDepth 100000
set_option maxHeartbeats 2000000
def FunG (ss:List PS)(f:PF)(w:World)(e:Ending)(w':World):Prop :=
 ∃ (eb p r g1 g2:Nat) (gs:Nat→Nat) (Y:Nat→Int) (Z:Nat→Nat→Int),e = .returned (.tuple #[.slice (some ⟨eb,0,none⟩) (locN f) (locN f),.agg #[.slice (some ⟨g1,0,none⟩) p p,.slice (some ⟨g2,0,none⟩) p p],vI 0])∧w.heap.size≤eb∧Wg.Row w' 4 eb (locN f) (fun l=>.bool (escF ss f l))∧SmR w' w.heap.size p r g1 g2 gs Y Z∧p≤8∧r≤4∧solF ss f=⟨(List.range p).map Y,(List.range p).map fun i=>(List.range r).map (Z i)⟩
def FunE (G:Int)(fs:List PF)(F:Int)(ss:List PS)(w:World)(e:Ending)(w':World):Prop :=
 Fr (fun _=>False) w w'∧((¬ EdgOk G fs F ss∧e = .returned (.tuple #[.slice none 0 0,.agg #[.slice none 0 0,.slice none 0 0],vI 1])) ∨
  ∃ (i:Nat) (h:i<fs.length),F=i∧EdgOk G fs F ss∧FunG ss fs[i] w e w')
theorem tab_lt {w:World}(h:Tab w):0<w.heap.size:=by
 have:=h 0 (by omega)
 unfold World.cell? at this
 by_cases hk:2<w.heap.size
 ·omega
 ·simp[Array.getElem?_eq_none (Nat.le_of_not_lt hk)] at this
theorem edC_cells (es:List Ed):es.flatMap edC=Wg.eCells es:=by
 induction es with
 | nil=>rfl
 | cons e es ih=>rw[List.flatMap_cons,ih];rfl
theorem own_edges {w:World}{B:Nat}{v:Value}{es:List Ed}(h:w.ownsRow B 140 3 v es.length (es.flatMap edC)):Wg.EdgesAt w.heap.size w v es:=by
 rw[edC_cells] at h
 exact Wg.OwnE.at (B:=B) h
theorem results_tct {fn:Func}{t p u:Tmp}{ty:TypeId}(h:fn.results=#[.tmp t,.cell p ty,.tmp u])(tmps:Array Value)(P:Program)(w:World) :
 (results fn tmps).run P w=((asAddr (tmps.getD p undef)).run P w).andThen fun a w₁=>((loadVar ty a).run P w₁).andThen fun v w₂=>.ok (.tuple #[tmps.getD t undef,v,tmps.getD u undef]) w₂:=by
 simp only[results,h]
 simp[Sem.run_bind,Result.andThen]
theorem sumX_as {P R V:Int}{p r:Nat}{y:Nat→Int}{z:Nat→Nat→Int}(hp:P=p)(hr:R=r)(hR:0≤R∧R≤4)(hV:0≤V∧V≤255)(hPV:P≤V):sumX P R V y z=⟨(List.range p).map fun i=>max (y (1+r+i)) 0,(List.range p).map fun i=>(List.range r).map fun j=>max (z j (1+r+i)) 0⟩:=by
 unfold sumX
 have e1:P.toNat=p:=by omega
 have e2:R.toNat=r:=by omega
 rw[e1,e2]
 have key:∀ i,i<p→(varX R V (i:Nat)).toNat=1+r+i:=fun i hi=>by
  rw[varX_is hR hV ⟨by omega,by omega⟩]
  omega
 congr 1
 ·refine List.map_congr_left fun i hi=>?_
  rw[key i (List.mem_range.1 hi)]
 ·refine List.map_congr_left fun i hi=>?_
  rw[key i (List.mem_range.1 hi)]
theorem function_bad (G:Int)(fv sv:Value)(fs:List PF)(ss:List PS)(F:Int)(w:World)(h1:FA w fv fs)(h2:SsA w sv ss)(b1:FineP fs)(b2:FineS ss)(hT:Tab w)(hR:RowsA w)(hbad:¬ EdgOk G fs F ss) :
 Calls Tryz.prog 13 #[.agg #[vI G,fv],vI F,sv] w (FunE G fs F ss w):=by
 obtain⟨wa,hwa⟩:∃ wa,wa=(w.alloc (.cells #[vI G,fv] 24)).alloc nil2:=⟨_,rfl⟩
 have HWA:Hd (wa=(w.alloc (.cells #[vI G,fv] 24)).alloc nil2):=hwa
 obtain⟨H,hH⟩:∃ H,H=w.heap.size:=⟨_,rfl⟩
 have HH:Hd (H=w.heap.size):=hH
 have hb0:wa.heap[H]?=some (.cells #[vI G,fv] 24):=by rw[hwa,hH];exact keepA (heap_new0 w _) _
 have hb1:wa.heap[H+1]?=some nil2:=by
  rw[hwa,hH]
  have:=heap_new0 (w.alloc (.cells #[vI G,fv] 24)) nil2
  rw[World.size_alloc] at this
  exact this
 have hFA:Fr (fun _=>False) w wa:=by rw[hwa];exact Fr.alloc (Fr.alloc (Fr.refl _ w) _) _
 have HFA:Hd (Fr (fun _=>False) w wa):=hFA
 have HE:Hd (Calls Tryz.prog 44 #[.agg #[vI G,fv],vI F,sv] wa fun e w'=>e = .returned (.tuple #[.slice none 0 0,vI 1])∧Fr (fun _=>False) wa w'):=by
  refine(edges_any G fv sv fs ss F wa (h1.stay hFA) (h2.stay hFA) b1 b2 (hT.stay hFA) (hR.stay hFA (tab_lt hT))).mono ?_
  rintro e w' ⟨hf,⟨-,he⟩|⟨i,hi,e1,e2,e3,e4,-⟩⟩
  ·exact⟨he,hf⟩
  ·exact absurd ⟨i,e1,hi,e2,e3,e4⟩ hbad
 have HBAD:Hd (¬ EdgOk G fs F ss):=hbad
 obtain⟨fa,fc,rfl,-⟩:=h1
 obtain⟨sa,sc,rfl,-⟩:=h2
 have c0:wa.cell? ⟨H,0,none⟩=some (vI G):=by rw[cell_of0 hb0];rfl
 have c1:wa.cell? ⟨H,1,none⟩=some (.slice fa fs.length fc):=by rw[cell_of0 hb0];rfl
 have HB1:Hd (wa.heap[H+1]?=some nil2):=hb1
 clear hwa hH hb0 hb1 hFA b1 b2 hT hR hbad
 go_enter Tryz.func13,Tryz.ntmps13
 go_upto_region 1 with fail
 rw[← HWA.out,← HH.out]
 clear HWA
 go_wp2_with fail
 refine(show Calls Tryz.prog 44 #[.agg #[vI G,.slice fa fs.length fc],vI F,.slice sa ss.length sc] wa _ from HE.out).mono ?_
 rintro e w1 ⟨rfl,hF1⟩
 have hN:=keepF HB1.out hF1
 have y0:w1.cell? ⟨H+1,0,none⟩=some (.slice none 0 0):=by rw[cell_of0 hN];rfl
 have y1:w1.cell? ⟨H+1,1,none⟩=some (.slice none 0 0):=by rw[cell_of0 hN];rfl
 have z0:=frozen_of hN 0
 have z1:=frozen_of hN 1
 have HZ0:Hd (((w1.setCell ⟨H+1,0,none⟩ (.slice none 0 0)).setCell ⟨H+1,1,none⟩ (.slice none 0 0)).heap[H+1]?=some nil2):=set_of (set_of hN 0 _) 1 _
 have f:Fr (fun j=>j=H+1) w1 ((w1.setCell ⟨H+1,0,none⟩ (.slice none 0 0)).setCell ⟨H+1,1,none⟩ (.slice none 0 0)):=(setCell_fr w1 (H+1) 0 _).trans (setCell_fr _ (H+1) 1 _)
 have HFz:Hd (Fr (fun _=>False) w ((w1.setCell ⟨H+1,0,none⟩ (.slice none 0 0)).setCell ⟨H+1,1,none⟩ (.slice none 0 0))):=(HFA.out.trans hF1).then f (fun j hj e=>by have:=HH.out;omega)
 clear f hN hF1 c0 c1 HE
 go_wp2_with fail
 generalize (w1.setCell ⟨H+1,0,none⟩ (.slice none 0 0)).setCell ⟨H+1,1,none⟩ (.slice none 0 0)=wy at *
 have e0:wy.cell? ⟨H+1,0,none⟩=some (.slice none 0 0):=by rw[cell_of0 HZ0.out];rfl
 have e1:wy.cell? ⟨H+1,1,none⟩=some (.slice none 0 0):=by rw[cell_of0 HZ0.out];rfl
 refine bodyPost_ret (v:=.tuple #[.slice none 0 0,.agg #[.slice none 0 0,.slice none 0 0],vI 1]) ?_ rfl ⟨HFz.out,Or.inl ⟨HBAD.out,rfl⟩⟩
 rw[results_tct (t:=6) (p:=7) (u:=8) (ty:=33) Tryz.results13]
 simp[go_sem,e0,e1]
theorem function_flows {fs:List PF}{f:PF}(hf:FunR fs f){ca:Option Addr}{cc:Nat}{ea:Option Addr}{ec:Nat}{es:List Ed}{w:World}(hC:CA w (.slice ca f.code.length cc) f.code)(hE:Wg.EdgesAt w.heap.size w (.slice ea es.length ec) es)(hel:es.length≤163840)(wx:World)(ra:Option Addr)(rc:Nat)(rs:List Int)(l:Nat)(hx:Fr (fun _=>False) w wx)(hi:Wg.IntsAt wx.heap.size wx (.slice ra l rc) rs)(hl:l=rs.length)(hl2:l≤2000000)(hG:RightG (locN f) es rs) :
 Calls Tryz.prog 88 #[.agg #[vI f.P,vI f.R,vI f.V,.slice ca f.code.length cc,.slice ea es.length ec],.slice ra l rc] wx (FlwE (locN f) es rs wx):=by
 subst hl
 exact flows_any fs f hf ca cc ea ec es ra rc rs wx (hC.stay hx) (edges_stay hE hx) hi hG (by omega) (by omega)
theorem function_ok (G:Int)(fv sv:Value)(fs:List PF)(ss:List PS)(i:Nat)(hi:i<fs.length)(w:World)(h1:FA w fv fs)(h2:SsA w sv ss)(b1:FineP fs)(b2:FineS ss)(hT:Tab w)(hR:RowsA w)(hok:EdgOk G fs i ss) :
 Calls Tryz.prog 13 #[.agg #[vI G,fv],vI (i:Int),sv] w (FunE G fs i ss w):=by
 obtain⟨wa,hwa⟩:∃ wa,wa=(w.alloc (.cells #[vI G,fv] 24)).alloc nil2:=⟨_,rfl⟩
 have HWA:Hd (wa=(w.alloc (.cells #[vI G,fv] 24)).alloc nil2):=hwa
 obtain⟨H,hH⟩:∃ H,H=w.heap.size:=⟨_,rfl⟩
 have HH:Hd (H=w.heap.size):=hH
 have hb0:wa.heap[H]?=some (.cells #[vI G,fv] 24):=by rw[hwa,hH];exact keepA (heap_new0 w _) _
 have hb1:wa.heap[H+1]?=some nil2:=by
  rw[hwa,hH]
  have:=heap_new0 (w.alloc (.cells #[vI G,fv] 24)) nil2
  rw[World.size_alloc] at this
  exact this
 have hFA:Fr (fun _=>False) w wa:=by rw[hwa];exact Fr.alloc (Fr.alloc (Fr.refl _ w) _) _
 have HFA:Hd (Fr (fun _=>False) w wa):=hFA
 obtain⟨j,ej,hj,hls,hck,htl⟩:=id hok
 obtain rfl:i=j:=by omega
 obtain⟨es,hes⟩:∃ es,es=edgX ss fs[i]:=⟨_,rfl⟩
 have HE:Hd (Calls Tryz.prog 44 #[.agg #[vI G,fv],vI (i:Int),sv] wa fun e w'=>∃ ea ec,e = .returned (.tuple #[.slice ea es.length ec,vI 0])∧Wg.EdgesAt w'.heap.size w' (.slice ea es.length ec) es∧Fr (fun _=>False) wa w'):=by
  refine(edges_any G fv sv fs ss i wa (h1.stay hFA) (h2.stay hFA) b1 b2 (hT.stay hFA) (hR.stay hFA (tab_lt hT))).mono ?_
  rintro e w' ⟨hf,⟨hn,-⟩|⟨q,hq,e1,e2,e3,e4,v,he,ho⟩⟩
  ·exact absurd hok hn
  ·obtain rfl:i=q:=by omega
   rw[← hes] at ho
   obtain⟨ea,ec,ev⟩:=own_slice ho
   subst ev
   exact⟨ea,ec,he,own_edges ho,hf⟩
 have hfr:=right_ok hck
 have hPV:=alone_pv hck
 have HSO:Hd (∀ esc y z,SolX (locN fs[i]) fs[i].R.toNat es esc y z→(∀ l,l<locN fs[i]→esc l=escF ss fs[i] l)∧sumX fs[i].P fs[i].R fs[i].V y z=solF ss fs[i]):=fun esc y z h=>by
  rw[hes] at h
  exact SolX.is hfr hPV htl hls h
 have HED:Hd (EdR (locN fs[i]) fs[i].R.toNat es):=by rw[hes];exact edg_edr hfr htl hls
 have hel:es.length≤163840:=by rw[hes];exact edgX_len hfr htl hls
 have HOK:Hd (EdgOk G fs i ss):=hok
 have HFR:Hd (FunR fs fs[i]):=hfr
 have HPV:Hd (fs[i].P≤fs[i].V):=hPV
 obtain⟨fa,fc,rfl,g1⟩:=h1.each rfl
 obtain⟨fk,fo,cv,rfl,fl,f0,f1,f2,f3,hcv⟩:=g1 i hi
 obtain⟨ca,cc,rfl,-⟩:=id hcv
 have HCV:Hd (CA w (.slice ca fs[i].code.length cc) fs[i].code):=hcv
 obtain⟨sa,sc,rfl,-⟩:=h2
 have HC:Hd (∀ wx,Fr (fun _=>False) wa wx→wx.cell? ⟨H,0,none⟩=some (vI G)∧wx.cell? ⟨H,1,none⟩=some (.slice (some ⟨fk,fo,none⟩) fs.length fc)∧wx.cell? ⟨fk,fo+i*4,none⟩=some (vI fs[i].P)∧wx.cell? ⟨fk,fo+i*4+1,none⟩=some (vI fs[i].R)∧wx.cell? ⟨fk,fo+i*4+2,none⟩=some (vI fs[i].V)∧wx.cell? ⟨fk,fo+i*4+3,none⟩=some (.slice ca fs[i].code.length cc)):=fun wx hx=>by
  have hb:=(hx.block H (heap_lt0 hb0) (fun e=>e)).trans hb0
  have g:∀ o,wx.cell? ⟨fk,o,none⟩=w.cell? ⟨fk,o,none⟩:=fun o=>(hFA.trans hx).cell fl (fun e=>e)
  exact⟨by rw[cell_of0 hb];rfl,by rw[cell_of0 hb];rfl,(g _).trans f0,(g _).trans f1,(g _).trans f2,(g _).trans f3⟩
 obtain⟨c0,c1,-,-,-,-⟩:=HC.out wa (Fr.refl _ wa)
 have HB1:Hd (wa.heap[H+1]?=some nil2):=hb1
 have hi0:(0:Int)≤i:=by omega
 have hi1:(i:Int)<fs.length:=by omega
 have HI:Hd (i<fs.length):=hi
 have hfl:=b1.1
 clear hwa hH hb0 hb1 hFA b1 b2 hT hR hok hes f0 f1 f2 f3 hcv g1 fl hck htl hls hfr hPV
 have HEND:Hd (∀ e w',Fr (fun _=>False) w w'→FunG ss fs[i] w e w'→FunE G fs i ss w e w'):=fun e w' h k=>⟨h,Or.inr ⟨i,HI.out,rfl,HOK.out,k⟩⟩
 generalize fs[i]=f at *
 obtain⟨r,hr⟩:∃ r:Nat,f.R=r:=⟨f.R.toNat,by have:=HFR.out.R;omega⟩
 obtain⟨p,hp⟩:∃ p:Nat,f.P=p:=⟨f.P.toNat,by have:=HFR.out.P;omega⟩
 have hr4:r≤4:=by have:=HFR.out.R;omega
 have hp8:p≤8:=by have:=HFR.out.P;omega
 have HED:Hd (EdR (locN f) r es):=by have:=HED.out;rw[hr] at this;exact this
 have HSO:Hd (∀ esc y z,SolX (locN f) r es esc y z→(∀ l,l<locN f→esc l=escF ss f l)∧solF ss f=⟨(List.range p).map fun i=>max (y (1+r+i)) 0,(List.range p).map fun i=>(List.range r).map fun j=>max (z j (1+r+i)) 0⟩):=fun esc y z h=>by
  have h9:=HSO.out esc y z (by rw[hr];exact h)
  exact⟨h9.1,by rw[← h9.2];exact sumX_as hp hr HFR.out.R HFR.out.V HPV.out⟩
 have HES:Hd (∀ (wx:World) (ea:Option Addr) (ec:Nat),Fr (fun _=>False) w wx→Wg.EdgesAt wx.heap.size wx (.slice ea es.length ec) es→Calls Tryz.prog 45 #[.agg #[vI p,vI r,vI f.V,.slice ca f.code.length cc,.slice ea es.length ec]] wx (EscE (locN f) r es wx)):=fun wx ea ec hx he=>by
  have:=escaping_any fs f HFR.out ca cc ea ec es wx r hr (HCV.out.stay hx) he HED.out hel
  rw[hp,hr] at this
  exact this
 have HSU:Hd (∀ (wx:World) (ea:Option Addr) (ec eb:Nat) (esc:Nat→Bool),Fr (fun _=>False) w wx→Wg.EdgesAt wx.heap.size wx (.slice ea es.length ec) es→Wg.Row wx 4 eb (locN f) (fun l=>.bool (esc l))→Calls Tryz.prog 46 #[.agg #[vI p,vI r,vI f.V,.slice ca f.code.length cc,.slice ea es.length ec],.slice (some ⟨eb,0,none⟩) (locN f) (locN f)] wx (SumE (locN f) p r es esc wx)):=fun wx ea ec eb esc hx he hrow=>by
  refine summary_in (locN f) p r f.V ca ea f.code.length cc es.length ec es esc eb wx HED.out.n2 hp8 hr4 hrow (fun wy ra rc rs l hy hi hl hl2 hG=>?_) (fun wy b x i hy hrw hip=>?_) (HED.out.heaps esc) (fun j hj=>HED.out.res hj)
  ·have:=function_flows HFR.out (HCV.out.stay hx) he hel wy ra rc rs l hy hi hl hl2 hG
   rw[hp,hr] at this
   exact this
  ·have hv:varX f.R f.V (i:Nat)=((1+r+i:Nat):Int):=by
    rw[varX_is HFR.out.R HFR.out.V ⟨by omega,by have:=HPV.out;omega⟩]
    omega
   have hlt:1+r+i<locN f:=by
    have h8:=HFR.out.R
    have h9:=HFR.out.V
    have:=HPV.out
    unfold locN
    omega
   have:=stold_any f.P f.R f.V ca f.code.length cc ea es.length ec x b (locN f) (i:Nat) wy hrw (1+r+i) hv hlt
   rw[hp,hr] at this
   exact this
 have HC:Hd (∀ wx,Fr (fun _=>False) wa wx→wx.cell? ⟨H,0,none⟩=some (vI G)∧wx.cell? ⟨H,1,none⟩=some (.slice (some ⟨fk,fo,none⟩) fs.length fc)∧wx.cell? ⟨fk,fo+i*4,none⟩=some (vI p)∧wx.cell? ⟨fk,fo+i*4+1,none⟩=some (vI r)∧wx.cell? ⟨fk,fo+i*4+2,none⟩=some (vI f.V)∧wx.cell? ⟨fk,fo+i*4+3,none⟩=some (.slice ca f.code.length cc)):=by
  have:=HC.out
  rw[hp,hr] at this
  exact this
 clear hp hr HED HCV hel HFR HPV hi
 go_enter Tryz.func13,Tryz.ntmps13
 go_upto_region 1 with fail
 rw[← HWA.out,← HH.out]
 clear HWA
 go_wp2_with fail
 refine(show Calls Tryz.prog 44 #[.agg #[vI G,.slice (some ⟨fk,fo,none⟩) fs.length fc],vI (i:Int),.slice sa ss.length sc] wa _ from HE.out).mono ?_
 rintro e w1 ⟨ea,ec,rfl,hE1,hF1⟩
 have HF1:Hd (Fr (fun _=>False) wa w1):=hF1
 have HE1:Hd (Wg.EdgesAt w1.heap.size w1 (.slice ea es.length ec) es):=hE1
 clear hF1 hE1 HE c0 c1
 obtain⟨c0,c1,q0,q1,q2,q3⟩:=HC.out w1 HF1.out
 go_upto_region 5 with fail
 have HFy:Hd (Fr (fun _=>False) w1 (w1.alloc (.cells #[vI p,vI r,vI f.V,.slice ca f.code.length cc,.slice ea es.length ec] 89))):=Fr.alloc (Fr.refl _ w1) _
 have HBX:Hd ((w1.alloc (.cells #[vI p,vI r,vI f.V,.slice ca f.code.length cc,.slice ea es.length ec] 89)).heap[w1.heap.size]?=some (.cells #[vI p,vI r,vI f.V,.slice ca f.code.length cc,.slice ea es.length ec] 89)):=heap_new0 w1 _
 have HXg:Hd (H+1<w1.heap.size):=heap_lt0 (keepF HB1.out HF1.out)
 obtain⟨X,hX⟩:∃ X,X=w1.heap.size:=⟨_,rfl⟩
 rw[← hX] at HBX HXg ⊢
 clear hX c0 c1 q0 q1 q2 q3
 generalize w1.alloc (.cells #[vI p,vI r,vI f.V,.slice ca f.code.length cc,.slice ea es.length ec] 89)=wy at *
 have HS:Hd (∀ (wx:World),wx.heap[X]?=some (.cells #[vI p,vI r,vI f.V,.slice ca f.code.length cc,.slice ea es.length ec] 89)→wx.cell? ⟨X,0,none⟩=some (vI p)∧wx.cell? ⟨X,1,none⟩=some (vI r)∧wx.cell? ⟨X,2,none⟩=some (vI f.V)∧wx.cell? ⟨X,3,none⟩=some (.slice ca f.code.length cc)∧wx.cell? ⟨X,4,none⟩=some (.slice ea es.length ec)):=fun wx hb =>
  ⟨by rw[cell_of0 hb];rfl,by rw[cell_of0 hb];rfl,by rw[cell_of0 hb];rfl,by rw[cell_of0 hb];rfl,by rw[cell_of0 hb];rfl⟩
 have HFw:Hd (Fr (fun _=>False) w wy):=(HFA.out.trans HF1.out).trans HFy.out
 have HEy:Hd (Wg.EdgesAt wy.heap.size wy (.slice ea es.length ec) es):=edges_stay HE1.out HFy.out
 obtain⟨s0,s1,s2,s3,s4⟩:=HS.out wy HBX.out
 go_wp2_with fail
 refine(HES.out wy ea ec HFw.out HEy.out).mono ?_
 rintro e w2 ⟨hF2,eb,x,rfl,hb2,hR2,hL2⟩
 have HF2:Hd (Fr (fun _=>False) wy w2):=hF2
 have HL2:Hd (Least (locN f) es (rootsX r) x):=hL2
 have HR2:Hd (Wg.Row w2 4 eb (locN f) (fun l=>.bool (decide (x l = -1)))):=hR2
 have HEB:Hd (X<eb):=by have:=heap_lt0 HBX.out;unfold Hd;omega
 clear hF2 hb2 hR2 hL2 s0 s1 s2 s3 s4
 obtain⟨s0,s1,s2,s3,s4⟩:=HS.out w2 (keepF HBX.out HF2.out)
 have HC2:Hd (Calls Tryz.prog 46 #[.agg #[vI p,vI r,vI f.V,.slice ca f.code.length cc,.slice ea es.length ec],.slice (some ⟨eb,0,none⟩) (locN f) (locN f)] w2 (SumE (locN f) p r es (fun l=>decide (x l = -1)) w2)):=HSU.out w2 ea ec eb _ (HFw.out.trans HF2.out) (edges_stay HEy.out HF2.out) HR2.out
 have HN2:Hd (w2.heap[H+1]?=some nil2):=keepF HB1.out ((HF1.out.trans HFy.out).trans HF2.out)
 obtain⟨n,hn⟩:∃ n,n=locN f:=⟨_,rfl⟩
 have HNN:Hd (n=locN f):=hn
 rw[← hn] at HC2 HR2 HL2 HSO ⊢
 clear hn
 go_wp2_with fail
 refine HC2.out.mono ?_
 rintro e w3 ⟨hF3,g1,g2,gs,y,z,rfl,hS3,hy,hz⟩
 have hN:=keepF HN2.out hF3
 have y0:w3.cell? ⟨H+1,0,none⟩=some (.slice none 0 0):=by rw[cell_of0 hN];rfl
 have y1:w3.cell? ⟨H+1,1,none⟩=some (.slice none 0 0):=by rw[cell_of0 hN];rfl
 have z0:=frozen_of hN 0
 have z1:=frozen_of hN 1
 have HZ0:Hd (((w3.setCell ⟨H+1,0,none⟩ (.slice (some ⟨g1,0,none⟩) p p)).setCell ⟨H+1,1,none⟩ (.slice (some ⟨g2,0,none⟩) p p)).heap[H+1]?=some (.cells #[.slice (some ⟨g1,0,none⟩) p p,.slice (some ⟨g2,0,none⟩) p p] 33)):=set_of (set_of hN 0 _) 1 _
 have ff:Fr (fun j=>j=H+1) w3 ((w3.setCell ⟨H+1,0,none⟩ (.slice (some ⟨g1,0,none⟩) p p)).setCell ⟨H+1,1,none⟩ (.slice (some ⟨g2,0,none⟩) p p)):=(setCell_fr w3 (H+1) 0 _).trans (setCell_fr _ (H+1) 1 _)
 have HFz:Hd (Fr (fun _=>False) w ((w3.setCell ⟨H+1,0,none⟩ (.slice (some ⟨g1,0,none⟩) p p)).setCell ⟨H+1,1,none⟩ (.slice (some ⟨g2,0,none⟩) p p))):=((HFw.out.trans HF2.out).trans hF3).then ff (fun j hj e=>by have:=HH.out;omega)
 obtain⟨hes1,hes2⟩:=HSO.out (fun l=>decide (x l = -1)) y z ⟨⟨x,HL2.out,fun l _=>rfl⟩,hy,hz⟩
 have hlt2:H+1<w2.heap.size:=heap_lt0 HN2.out
 have hle2:=(HFw.out.trans HF2.out).size
 have HRZ:Hd (Wg.Row ((w3.setCell ⟨H+1,0,none⟩ (.slice (some ⟨g1,0,none⟩) p p)).setCell ⟨H+1,1,none⟩ (.slice (some ⟨g2,0,none⟩) p p)) 4 eb n (fun l=>.bool (escF ss f l))):=((Row.stay HR2.out hF3).fr (fr_to ff) (by have:=HEB.out;have:=HXg.out;omega)).congr fun l hl=>by
  rw[← hes1 l hl]
 have HSZ:Hd (SmR ((w3.setCell ⟨H+1,0,none⟩ (.slice (some ⟨g1,0,none⟩) p p)).setCell ⟨H+1,1,none⟩ (.slice (some ⟨g2,0,none⟩) p p)) w.heap.size p r g1 g2 gs (fun i=>max (y (1+r+i)) 0) (fun i j=>max (z j (1+r+i)) 0)):=by
  have k1:=hS3.b1
  have k2:=hS3.b2
  have hS4:=hS3.mono hle2
  exact⟨hS4.row1.fr (fr_to ff) (by omega),hS4.row2.fr (fr_to ff) (by omega),fun i hi=>(hS4.rows i hi).fr (fr_to ff) (by have:=hS3.bs i hi;omega),hS4.b1,hS4.b2,hS4.bs,hS4.n1,hS4.nn⟩
 have HS2:Hd (solF ss f=⟨(List.range p).map fun i=>max (y (1+r+i)) 0,(List.range p).map fun i=>(List.range r).map fun j=>max (z j (1+r+i)) 0⟩):=hes2
 have HEW:Hd (w.heap.size≤eb):=by have:=HEB.out;have:=HXg.out;have:=HH.out;unfold Hd;omega
 clear ff hes1 hes2 hS3 hy hz hN hF3 s0 s1 s2 s3 s4 hlt2 hle2 HC2 HES HSU HSO
 go_wp2_with fail
 generalize (w3.setCell ⟨H+1,0,none⟩ (.slice (some ⟨g1,0,none⟩) p p)).setCell ⟨H+1,1,none⟩ (.slice (some ⟨g2,0,none⟩) p p)=wv at *
 have e0:wv.cell? ⟨H+1,0,none⟩=some (.slice (some ⟨g1,0,none⟩) p p):=by rw[cell_of0 HZ0.out];rfl
 have e1:wv.cell? ⟨H+1,1,none⟩=some (.slice (some ⟨g2,0,none⟩) p p):=by rw[cell_of0 HZ0.out];rfl
 refine bodyPost_ret (v:=.tuple #[.slice (some ⟨eb,0,none⟩) n n,.agg #[.slice (some ⟨g1,0,none⟩) p p,.slice (some ⟨g2,0,none⟩) p p],vI 0]) ?_ rfl (HEND.out _ _ HFz.out ⟨eb,p,r,g1,g2,gs,_,_,by rw[← HNN.out],HEW.out,by rw[← HNN.out];exact HRZ.out,HSZ.out,hp8,hr4,HS2.out⟩)
 rw[results_tct (t:=6) (p:=7) (u:=8) (ty:=33) Tryz.results13]
 simp[go_sem,e0,e1]
theorem function_any (G:Int)(fv sv:Value)(fs:List PF)(ss:List PS)(F:Int)(w:World)(h1:FA w fv fs)(h2:SsA w sv ss)(b1:FineP fs)(b2:FineS ss)(hT:Tab w)(hR:RowsA w) :
 Calls Tryz.prog 13 #[.agg #[vI G,fv],vI F,sv] w (FunE G fs F ss w):=by
 by_cases hok:EdgOk G fs F ss
 ·obtain⟨i,rfl,hi,-⟩:=id hok
  exact function_ok G fv sv fs ss i hi w h1 h2 b1 b2 hT hR hok
 ·exact function_bad G fv sv fs ss F w h1 h2 b1 b2 hT hR hok
set_option maxRecDepth 100000
set_option maxHeartbeats 1000000
def BL (w:World)(v:Value)(l:List Bool):Prop :=
 ∃ a c,v = .slice a l.length c∧(l≠[]→∃ k o,a=some ⟨k,o,none⟩∧k<w.heap.size∧∀ j (h:j<l.length),w.cell? ⟨k,o+j,none⟩=some (.bool l[j]))
theorem BL.stay {w w':World}{v:Value}{l:List Bool}(h:BL w v l)(f:Fr (fun _=>False) w w'):BL w' v l:=by
 obtain⟨a,c,rfl,h⟩:=h
 refine⟨a,c,rfl,fun hne=>?_⟩
 obtain⟨k,o,rfl,hk,hc⟩:=h hne
 exact⟨k,o,rfl,Nat.lt_of_lt_of_le hk f.size,fun j hj=>(f.cell hk (fun h=>h)).trans (hc j hj)⟩
theorem eqBools_same (v1 v2:Value)(zs:List Bool)(w:World)(h1:BL w v1 zs)(h2:BL w v2 zs)(hz:zs.length≤17592186043904) :
 Calls Tryz.prog 21 #[v1,v2] w fun e w'=>e = .returned (.bool true)∧Fr (fun _=>False) w w':=by
 obtain⟨a1,c1,rfl,hc1⟩:=h1
 obtain⟨a2,c2,rfl,hc2⟩:=h2
 have H1:Hd (zs≠[]→∃ k o,a1=some ⟨k,o,none⟩∧k<w.heap.size∧∀ j (h:j<zs.length),w.cell? ⟨k,o+j,none⟩=some (.bool zs[j])):=hc1
 have H2:Hd (zs≠[]→∃ k o,a2=some ⟨k,o,none⟩∧k<w.heap.size∧∀ j (h:j<zs.length),w.cell? ⟨k,o+j,none⟩=some (.bool zs[j])):=hc2
 clear hc1 hc2
 go_enter Tryz.func21,Tryz.ntmps21
 go_wp2_with fail
 go_loopw [5] (fun v wr=>∃ (k:Nat),v = .int .i64 k∧k≤zs.length∧Hd (Fr (fun _=>False) w wr)) (fun v _=>match v with | .int _ q=>zs.length-q.toNat | _=>0)
 case atStart=>exact⟨0,rfl,Nat.zero_le _,Fr.refl _ _⟩
 case round =>
  obtain⟨k,rfl,hk,HF⟩:=hrel
  by_cases hlt:k<zs.length
  ·have hne:zs≠[]:=by intro e;simp[e] at hlt
   obtain⟨k1,o1,rfl,hk1,g1⟩:=H1.out hne
   obtain⟨k2,o2,rfl,hk2,g2⟩:=H2.out hne
   have q1:=(HF.out.cell (o:=o1+k) hk1 (fun h=>h)).trans (g1 k hlt)
   have q2:=(HF.out.cell (o:=o2+k) hk2 (fun h=>h)).trans (g2 k hlt)
   generalize zs[k]=z at *
   have hzz:(z != z)=false:=by simp
   have hk0:(0:Int)≤k:=by omega
   have hk3:(k:Int)<zs.length:=by omega
   clear g1 g2
   go_wp2_with fail
   refine wp_region_still_tail 8 mixed (by kernel_rfl) ?_
   simp only[List.take_succ_cons,List.take_zero,List.drop_succ_cons,List.drop_zero]
   repeat still_step
   refine wpStill_nil ?_
   go_wp2_with fail
   exact⟨⟨k+1,by simp,by omega,HF.out.drew⟩,by simp;omega⟩
  ·have hke:k=zs.length:=by omega
   subst hke
   go_wp2_with fail
   go_ret
   exact⟨rfl,HF.out⟩
theorem eqLists_same (v1 v2:Value)(zss:List (List Int))(w:World)(h1:LA w v1 zss)(h2:LA w v2 zss)(hz:zss.length≤10000000000000)(hzz:∀ zs∈zss,zs.length≤10000000000000) :
 Calls Tryz.prog 41 #[v1,v2] w fun e w'=>e = .returned (.bool true)∧Fr (fun _=>False) w w':=by
 obtain⟨a1,c1,rfl,hc1⟩:=h1
 obtain⟨a2,c2,rfl,hc2⟩:=h2
 have H1:Hd (zss≠[]→_):=hc1
 have H2:Hd (zss≠[]→_):=hc2
 have HZ:Hd (∀ zs∈zss,zs.length≤10000000000000):=hzz
 clear hc1 hc2 hzz
 go_enter Tryz.func41,Tryz.ntmps41
 go_wp2_with fail
 go_loopw [5] (fun v wr=>∃ (k:Nat),v = .int .i64 k∧k≤zss.length∧Hd (Fr (fun _=>False) w wr)) (fun v _=>match v with | .int _ q=>zss.length-q.toNat | _=>0)
 case atStart=>exact⟨0,rfl,Nat.zero_le _,Fr.refl _ _⟩
 case round =>
  obtain⟨k,rfl,hk,HF⟩:=hrel
  by_cases hlt:k<zss.length
  ·have hne:zss≠[]:=by intro e;simp[e] at hlt
   obtain⟨k1,o1,rfl,hk1',g1⟩:=H1.out hne
   obtain⟨k2,o2,rfl,hk2',g2⟩:=H2.out hne
   obtain⟨u1,p1,i1⟩:=g1 k hlt
   obtain⟨u2,p2,i2⟩:=g2 k hlt
   have q1:=(HF.out.cell hk1' (fun h=>h)).trans p1
   have q2:=(HF.out.cell hk2' (fun h=>h)).trans p2
   have hzl:zss[k].length≤10000000000000:=HZ.out _ (List.getElem_mem hlt)
   have I1:Hd (IA wr u1 zss[k]):=i1.stay HF.out
   have I2:Hd (IA wr u2 zss[k]):=i2.stay HF.out
   generalize zss[k]=zs at *
   obtain⟨x1,y1,rfl,-⟩:=I1.out
   obtain⟨x2,y2,rfl,-⟩:=I2.out
   have hk0:(0:Int)≤k:=by omega
   have hk1:(k:Int)<zss.length:=by omega
   clear g1 g2 i1 i2 p1 p2
   go_wp2_with fail
   refine wp_region_still_tail 8 mixed (by kernel_rfl) ?_
   simp only[List.take_succ_cons,List.take_zero,List.drop_succ_cons,List.drop_zero]
   repeat still_step
   refine wpStill_nil ?_
   go_wp2_with fail
   refine(show Calls Tryz.prog 40 #[.slice x1 zs.length y1,.slice x2 zs.length y2] wr.drew _ from eqInts_same _ _ zs wr.drew I1.out I2.out (by omega)).mono ?_
   rintro e w1 ⟨rfl,hF1⟩
   have HF1:Hd (Fr (fun _=>False) w w1):=HF.out.drew.trans hF1
   clear hF1
   go_wp2_with fail
   refine⟨⟨k+1,by simp,by omega,HF1.out⟩,by simp;omega⟩
  ·have hke:k=zss.length:=by omega
   subst hke
   go_wp2_with fail
   go_ret
   exact⟨rfl,HF.out⟩
theorem eqSummary_same (x1 y1 x2 y2:Value)(zs:List Int)(zss:List (List Int))(w:World)(h1:IA w x1 zs)(h2:LA w y1 zss)(h3:IA w x2 zs)(h4:LA w y2 zss)(hz:zs.length≤10000000000000)(hzs:zss.length≤10000000000000)(hzz:∀ zs∈zss,zs.length≤10000000000000) :
 Calls Tryz.prog 22 #[.agg #[x1,y1],.agg #[x2,y2]] w fun e w'=>e = .returned (.bool true)∧Fr (fun _=>False) w w':=by
 obtain⟨a1,b1,e1,-⟩:=id h1
 obtain⟨a2,b2,e2,-⟩:=id h2
 obtain⟨a3,b3,e3,-⟩:=id h3
 obtain⟨a4,b4,e4,-⟩:=id h4
 obtain⟨wa,hwa⟩:∃ wa,wa=(w.alloc (.cells #[x1,y1] 33)).alloc (.cells #[x2,y2] 33):=⟨_,rfl⟩
 have hF:Fr (fun _=>False) w wa:=by rw[hwa];exact Fr.alloc (Fr.alloc (Fr.refl _ w) _) _
 have b1':wa.heap[w.heap.size]?=some (.cells #[x1,y1] 33):=by
  rw[hwa,Go.RowKit.Below.heap_alloc _ _ _ (by simp)];exact heap_new w _
 have b2':wa.heap[w.heap.size+1]?=some (.cells #[x2,y2] 33):=by
  rw[hwa,show w.heap.size+1=(w.alloc (.cells #[x1,y1] 33)).heap.size by simp];exact heap_new _ _
 have HWA:Hd (wa=(w.alloc (.cells #[x1,y1] 33)).alloc (.cells #[x2,y2] 33)):=hwa
 have HF:Hd (Fr (fun _=>False) w wa):=hF
 have G1:Hd (IA wa x1 zs):=h1.stay hF
 have G2:Hd (LA wa y1 zss):=h2.stay hF
 have G3:Hd (IA wa x2 zs):=h3.stay hF
 have G4:Hd (LA wa y2 zss):=h4.stay hF
 obtain⟨H,hH⟩:∃ H,H=w.heap.size:=⟨_,rfl⟩
 have HH:Hd (H=w.heap.size):=hH
 rw[← hH] at b1' b2'
 have B1:Hd (wa.heap[H]?=some (.cells #[x1,y1] 33)):=b1'
 have B2:Hd (wa.heap[H+1]?=some (.cells #[x2,y2] 33)):=b2'
 have HZZ:Hd (∀ zs∈zss,zs.length≤10000000000000):=hzz
 have c0:wa.cell? ⟨H,0,none⟩=some x1:=by rw[cell_of b1'];rfl
 have d0:wa.cell? ⟨H+1,0,none⟩=some x2:=by rw[cell_of b2'];rfl
 subst e1;subst e2;subst e3;subst e4
 clear h1 h2 h3 h4 hF hwa hH b1' b2' hzz
 go_enter Tryz.func22,Tryz.ntmps22
 go_upto_region 1 with fail
 rw[← HWA.out,← HH.out]
 clear HWA
 go_wp2_with fail
 refine(show Calls Tryz.prog 40 #[.slice a1 zs.length b1,.slice a3 zs.length b3] wa _ from eqInts_same _ _ zs wa G1.out G3.out (by omega)).mono ?_
 rintro e w1 ⟨rfl,hF1⟩
 have G2':Hd (LA w1 (.slice a2 zss.length b2) zss):=LA.stay G2.out hF1
 have G4':Hd (LA w1 (.slice a4 zss.length b4) zss):=LA.stay G4.out hF1
 have p6:w1.cell? ⟨H,1,none⟩=some (.slice a2 zss.length b2):=by rw[hF1.cell (heap_lt B1.out) (fun e=>e),cell_of B1.out];rfl
 have r6:w1.cell? ⟨H+1,1,none⟩=some (.slice a4 zss.length b4):=by rw[hF1.cell (heap_lt B2.out) (fun e=>e),cell_of B2.out];rfl
 have HF1:Hd (Fr (fun _=>False) w w1):=HF.out.trans hF1
 clear hF1 c0 d0 B1 B2
 go_wp2_with fail
 refine(show Calls Tryz.prog 41 #[.slice a2 zss.length b2,.slice a4 zss.length b4] w1 _ from eqLists_same _ _ zss w1 G2'.out G4'.out hzs HZZ.out).mono ?_
 rintro e w2 ⟨rfl,hF2⟩
 have HF2:Hd (Fr (fun _=>False) w w2):=HF1.out.trans hF2
 clear hF2
 go_wp2_with fail
 go_ret
 exact⟨rfl,HF2.out⟩
end Go.Proofs.YtdkijecnnmncnaaGreatDoor
namespace Go.Proofs.YtdkijecnnmncnaaGreatDoor.Wg
open Go.RowKit (wrap32 wrap64)
set_option maxRecDepth 100000
set_option maxHeartbeats 1000000
theorem flowsX_iff {q:Int}:flowsX q=true↔-1≤q∧q≤3:=by unfold flowsX;simp
theorem rright_any (n:Int)(ev rv:Value)(es:List Ed)(rs:List Int)(w:World)(hE:EdgesAt w.heap.size w ev es)(hR:IntsAt w.heap.size w rv rs)(hel:es.length≤100000000000000)(hrl:rs.length≤100000000000000) :
 Calls Tryz.prog 135 #[.int .i64 n,ev,rv] w fun e w'=>e = .returned (.bool (decide (RightG n es rs)))∧Fr (fun _=>False) w w':=by
 obtain⟨ea,ec,rfl,-,hein⟩:=hE
 obtain⟨ra,rc,rfl,-,hrin⟩:=hR
 have HE:Hd _:=hein
 have HR:Hd _:=hrin
 clear hein hrin
 by_cases hn0:n<0
 ·have hn0':decide (n<0)=true:=by simpa using hn0
  go_enter Tryz.func135,Tryz.ntmps135
  go_wp2_with fail
  go_ret
  refine⟨?_,Fr.refl _ _⟩
  rw[decide_eq_false (fun h=>by have:=h.1;omega)]
  rfl
 have hn0':decide (n<0)=false:=by simpa using hn0
 by_cases hn1:1048576<n
 ·have hn1':decide (1048576<n)=true:=by simpa using hn1
  go_enter Tryz.func135,Tryz.ntmps135
  go_wp2_with fail
  go_ret
  refine⟨?_,Fr.refl _ _⟩
  rw[decide_eq_false (fun h=>by have:=h.1;omega)]
  rfl
 have hn1':decide (1048576<n)=false:=by simpa using hn1
 go_enter Tryz.func135,Tryz.ntmps135
 go_wp2_with fail
 go_loopw [7] (fun v wr=>∃ (k:Nat),v = .int .i64 k∧k≤es.length∧Hd (∀ e∈es.take k,RightE n e)∧Hd (Fr (fun _=>False) w wr)) (fun v _=>match v with | .int _ q=>es.length-q.toNat | _=>0)
 case atStart=>exact⟨0,rfl,Nat.zero_le _,fun e h=>by simp at h,Fr.refl _ _⟩
 case round =>
  obtain⟨k,rfl,hk,HA,HF⟩:=hrel
  by_cases hlt:k<es.length
  ·obtain⟨pk,po,rfl,hpk,hcs⟩:=HE.out (by intro e;simp[e] at hlt)
   obtain⟨c0,c1,c2⟩:=hcs k hlt
   have p0:=(HF.out.cell (o:=po+k*3) hpk (fun h=>h)).trans c0
   have p1:=(HF.out.cell (o:=po+k*3+1) hpk (fun h=>h)).trans c1
   have p2:=(HF.out.cell (o:=po+k*3+2) hpk (fun h=>h)).trans c2
   clear hcs c0 c1 c2
   have HT:Hd (es.take (k+1)=es.take k++[es[k]]):=by
    unfold Hd;rw[List.take_add_one,List.getElem?_eq_getElem hlt];rfl
   have HM:Hd (es[k]∈es):=List.getElem_mem hlt
   obtain⟨e,he⟩:∃ e,es[k]=e:=⟨_,rfl⟩
   rw[he] at p0 p1 p2 HT HM
   clear he
   obtain⟨d,s,q⟩:=e
   have hk0:(0:Int)≤k:=by omega
   have hk1:(k:Int)<es.length:=by omega
   have hF1:Hd (Fr (fun _=>False) w (wr.alloc (.cells #[vI d,vI s,vI q] 140))):=HF.out.alloc _
   by_cases C0:d<0
   ·have D0:decide (d<0)=true:=decide_eq_true C0
    clear C0
    go_wp2_with fail
    go_ret
    refine⟨?_,hF1.out⟩
    have C0:=of_decide_eq_true D0
    rw[decide_eq_false (fun h=>by have:=(h.2.1 _ HM.out).1;simp only at this;omega)]
    rfl
   have D0:decide (d<0)=false:=decide_eq_false C0
   by_cases C1:n≤d
   ·have D1:decide (n≤d)=true:=decide_eq_true C1
    clear C1
    go_wp2_with fail
    go_ret
    refine⟨?_,hF1.out⟩
    have C1:=of_decide_eq_true D1
    rw[decide_eq_false (fun h=>by have:=(h.2.1 _ HM.out).1;simp only at this;omega)]
    rfl
   have D1:decide (n≤d)=false:=decide_eq_false C1
   by_cases C2:s<0
   ·have D2:decide (s<0)=true:=decide_eq_true C2
    clear C2
    go_wp2_with fail
    go_ret
    refine⟨?_,hF1.out⟩
    have C2:=of_decide_eq_true D2
    rw[decide_eq_false (fun h=>by have:=(h.2.1 _ HM.out).2.1;simp only at this;omega)]
    rfl
   have D2:decide (s<0)=false:=decide_eq_false C2
   by_cases C3:n≤s
   ·have D3:decide (n≤s)=true:=decide_eq_true C3
    clear C3
    go_wp2_with fail
    go_ret
    refine⟨?_,hF1.out⟩
    have C3:=of_decide_eq_true D3
    rw[decide_eq_false (fun h=>by have:=(h.2.1 _ HM.out).2.1;simp only at this;omega)]
    rfl
   have D3:decide (n≤s)=false:=decide_eq_false C3
   by_cases C4:q < -1
   ·have D4:decide (q < -1)=true:=decide_eq_true C4
    clear C4
    go_wp2_with fail
    go_ret
    refine⟨?_,hF1.out⟩
    have C4:=of_decide_eq_true D4
    rw[decide_eq_false (fun h=>by have:=flowsX_iff.1 (h.2.1 _ HM.out).2.2;simp only at this;omega)]
    rfl
   have D4:decide (q < -1)=false:=decide_eq_false C4
   by_cases C5:3<q
   ·have D5:decide (3<q)=true:=decide_eq_true C5
    clear C5
    go_wp2_with fail
    go_ret
    refine⟨?_,hF1.out⟩
    have C5:=of_decide_eq_true D5
    rw[decide_eq_false (fun h=>by have:=flowsX_iff.1 (h.2.1 _ HM.out).2.2;simp only at this;omega)]
    rfl
   have D5:decide (3<q)=false:=decide_eq_false C5
   have HRE:Hd (RightE n (d,s,q)):=⟨⟨by simp only;omega,by simp only;omega⟩,⟨by simp only;omega,by simp only;omega⟩,flowsX_iff.2 ⟨by simp only;omega,by simp only;omega⟩⟩
   clear C0 C1 C2 C3 C4 C5
   go_wp2_with fail
   refine⟨⟨k+1,by simp,by omega,?_,hF1.out⟩,by simp;omega⟩
   unfold Hd
   rw[HT.out]
   intro e hme
   rcases List.mem_append.1 hme with h | h
   ·exact HA.out e h
   ·rw[List.mem_singleton.1 h];exact HRE.out
  ·have hke:k=es.length:=by omega
   have HA2:Hd (∀ e∈es,RightE n e):=by have:=HA.out;rw[hke,List.take_length] at this;exact this
   clear HA
   subst hke
   go_wp2_with fail
   go_loopw [9] (fun v wr=>∃ (k:Nat),v = .int .i64 k∧k≤rs.length∧Hd (∀ r∈rs.take k,0≤r∧r<n)∧Hd (Fr (fun _=>False) w wr)) (fun v _=>match v with | .int _ q=>rs.length-q.toNat | _=>0)
   case atStart=>exact⟨0,rfl,Nat.zero_le _,fun e h=>by simp at h,HF.out⟩
   case round =>
    obtain⟨k,rfl,hk,HA,HF⟩:=hrel
    by_cases hlt:k<rs.length
    ·obtain⟨pk,po,rfl,hpk,hcs⟩:=HR.out (by intro e;simp[e] at hlt)
     have p0:=(HF.out.cell (o:=po+k) hpk (fun h=>h)).trans (hcs k hlt)
     clear hcs
     have HT:Hd (rs.take (k+1)=rs.take k++[rs[k]]):=by
      unfold Hd;rw[List.take_add_one,List.getElem?_eq_getElem hlt];rfl
     have HM:Hd (rs[k]∈rs):=List.getElem_mem hlt
     obtain⟨r,he⟩:∃ e,rs[k]=e:=⟨_,rfl⟩
     rw[he] at p0 HT HM
     clear he
     have hk0:(0:Int)≤k:=by omega
     have hk1:(k:Int)<rs.length:=by omega
     by_cases C0:r<0
     ·have D0:decide (r<0)=true:=decide_eq_true C0
      clear C0
      go_wp2_with fail
      go_ret
      refine⟨?_,HF.out⟩
      have C0:=of_decide_eq_true D0
      rw[decide_eq_false (fun h=>by have:=h.2.2 _ HM.out;omega)]
      rfl
     have D0:decide (r<0)=false:=decide_eq_false C0
     by_cases C1:n≤r
     ·have D1:decide (n≤r)=true:=decide_eq_true C1
      clear C1
      go_wp2_with fail
      go_ret
      refine⟨?_,HF.out⟩
      have C1:=of_decide_eq_true D1
      rw[decide_eq_false (fun h=>by have:=h.2.2 _ HM.out;omega)]
      rfl
     have D1:decide (n≤r)=false:=decide_eq_false C1
     have HRE:Hd (0≤r∧r<n):=⟨by omega,by omega⟩
     clear C0 C1
     go_wp2_with fail
     refine⟨⟨k+1,by simp,by omega,?_,HF.out⟩,by simp;omega⟩
     unfold Hd
     rw[HT.out]
     intro e hme
     rcases List.mem_append.1 hme with h | h
     ·exact HA.out e h
     ·rw[List.mem_singleton.1 h];exact HRE.out
    ·have hke:k=rs.length:=by omega
     have HA3:Hd (∀ r∈rs,0≤r∧r<n):=by have:=HA.out;rw[hke,List.take_length] at this;exact this
     clear HA
     subst hke
     go_wp2_with fail
     go_ret
     refine⟨?_,HF.out⟩
     rw[decide_eq_true ⟨⟨by omega,by omega⟩,HA2.out,HA3.out⟩]
     rfl
end Go.Proofs.YtdkijecnnmncnaaGreatDoor.Wg
namespace Go.Proofs.YtdkijecnnmncnaaGreatDoor.Wg
open Go.RowKit (wrap32 wrap64)
structure Xs (w wr:World)(g m:Nat)(L:Nat→Int):Prop where
 blk:∃ cs,wr.heap[g]?=some (.cells cs 3)∧∀ i,i<m→cs[i]?=some (vI (L i))
 ge:w.heap.size≤g
 fr:Fr (fun _=>False) w wr
theorem Xs.cell {w wr:World}{g m:Nat}{L:Nat→Int}(h:Xs w wr g m L){i:Nat}(hi:i<m):wr.cell? ⟨g,i,none⟩=some (vI (L i)):=by
 obtain⟨cs,h1,h2⟩:=h.blk;rw[cell_of h1];exact h2 i hi
theorem Xs.frozen {w wr:World}{g m:Nat}{L:Nat→Int}(h:Xs w wr g m L)(i:Nat):wr.frozen? ⟨g,i,none⟩=false:=by
 obtain⟨cs,h1,h2⟩:=h.blk;exact frozen_of h1 i
theorem Xs.stay {w wr w':World}{g m:Nat}{L:Nat→Int}(h:Xs w wr g m L)(f:Fr (fun _=>False) wr w'):Xs w w' g m L:=by
 obtain⟨cs,h1,h2⟩:=h.blk
 exact⟨⟨cs,(f.block _ (heap_lt h1) (fun h=>h)).trans h1,h2⟩,h.ge,h.fr.trans f⟩
theorem Xs.set {w wr:World}{g m:Nat}{L:Nat→Int}(h:Xs w wr g m L)(s:Nat)(v:Int):Xs w (wr.setCell ⟨g,s,none⟩ (vI v)) g m (upd L s v):=by
 obtain⟨cs,h1,h2⟩:=h.blk
 refine⟨⟨cs.setIfInBounds s (vI v),set_of h1 s (vI v),fun i hi=>?_⟩,h.ge,h.fr.setCell _ _ (Or.inr h.ge)⟩
 rw[Array.getElem?_setIfInBounds]
 by_cases e:s=i
 ·subst e
  have:=(Array.getElem?_eq_some_iff.1 (h2 s hi)).1
  rw[if_pos rfl,if_pos this,upd_same]
 ·rw[if_neg e,upd_ne _ _ (fun h=>e h.symm)];exact h2 i hi
theorem Xs.at {w wr:World}{g m cap:Nat}{L:Nat→Int}(h:Xs w wr g m L)(hc:m≤cap):IntsAt wr.heap.size wr (.slice (some ⟨g,0,none⟩) m cap) ((List.range m).map L):=by
 obtain⟨cs,h1,h2⟩:=h.blk
 refine⟨_,cap,by simp,by simpa using hc,fun _=>⟨g,0,rfl,heap_lt h1,fun i hi=>?_⟩⟩
 have hi':i<m:=by simpa using hi
 rw[Nat.zero_add,cell_of h1]
 simpa using h2 i hi'
structure Wl (n:Nat)(es:List Ed)(rs:List Int)(L:Nat→Int):Prop where
 way:∀ i,i<n→L i=9∨Reach es rs i (L i)
 root:∀ r:Nat,(r:Int)∈rs→L r≤0
theorem Wl.fall {n:Nat}{es:List Ed}{rs:List Int}{L:Nat→Int}(h:Wl n es rs L){d s:Nat}{k:Int}(hd:d<n)(he:((d:Int),(s:Int),k)∈es)(hf:plusX (L d) k<L s):Wl n es rs (upd L s (plusX (L d) k)) where
 way:=fun i hi=>by
  by_cases e:i=s
  ·subst e
   rw[upd_same]
   rcases h.way d hd with h1 | h1
   ·rw[h1,plusX_nine];exact Or.inl rfl
   ·exact Or.inr (.step (e:=((d:Int),(i:Int),k)) he h1)
  ·rw[upd_ne _ _ e];exact h.way i hi
 root:=fun r hr=>by
  have:=h.root r hr
  by_cases e:r=s
  ·subst e;rw[upd_same];omega
  ·rw[upd_ne _ _ e];exact this
def fineE (L:Nat→Int)(e:Ed):Prop:=L e.2.1.toNat≤plusX (L e.1.toNat) e.2.2
theorem Wl.least {n:Nat}{es:List Ed}{rs:List Int}{L:Nat→Int}(h:Wl n es rs L)(hf:∀ e∈es,fineE L e):Least n es rs L :=
 ⟨h.root,fun d s k he=>by have:=hf _ he;simpa[fineE] using this,h.way⟩
theorem mu_fall0 {n:Nat}{L:Nat→Int}{s:Nat}{v:Int}(hs:s<n)(hv:v<L s)(h1 : -1≤v):mu n (upd L s v) []+1<mu n L []:=by
 have:=mu_fall (l:=[]) hs hv h1
 simp only[addTo,List.not_mem_nil,if_false,List.nil_append] at this
 unfold mu at *
 simp at *
 omega
theorem edge_nat {n:Nat}{e:Ed}(h:RightE n e):∃ d s:Nat,e=((d:Int),(s:Int),e.2.2)∧d<n∧s<n:=by
 obtain⟨⟨h1,h2⟩,⟨h3,h4⟩,-⟩:=h
 exact⟨e.1.toNat,e.2.1.toNat,by rw[Int.toNat_of_nonneg h1,Int.toNat_of_nonneg h3],by omega,by omega⟩
end Go.Proofs.YtdkijecnnmncnaaGreatDoor.Wg
