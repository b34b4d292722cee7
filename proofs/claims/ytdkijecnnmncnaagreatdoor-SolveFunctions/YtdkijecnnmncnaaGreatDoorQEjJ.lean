import Derived.Test.YtdkijecnnmncnaaGreatDoorQQlJ
set_option linter.unusedVariables false
set_option linter.unusedSimpArgs false
namespace Go.Proofs.YtdkijecnnmncnaaGreatDoor
open Go.RowKit Go.Shelf
set_option maxRecDepth 100000
set_option maxHeartbeats 4000000
attribute [local go_sem] Oper.semAt_some
def EdgOk (G:Int)(fs:List PF)(F:Int)(ss:List PS):Prop:=∃ i:Nat,F=i∧∃ h:i<fs.length,ss.length=fs.length∧checkP G (aloneP fs fs[i])=0∧toldX fs ss fs[i].code=true
theorem edges_bad_in (n:Nat)(hn:6≤n)(G:Int)(fv sv:Value)(fs:List PF)(ss:List PS)(F:Int)(w:World)(h1:FA w fv fs)(h2:SsA w sv ss)(b1:FineP fs)(b2:FineS ss)(hT:Tab w)(hbad:¬ EdgOk G fs F ss) :
 CallsIn Fence.wide n Tryz.prog 44 #[.agg #[vI G,fv],vI F,sv] w fun e w'=>e = .returned (.tuple #[.slice none 0 0,vI 1])∧Fr (fun _=>False) w w':=by
 have HRA:Hd (∀ i (hi:i<fs.length),Calls Tryz.prog 85 #[.agg #[vI G,fv],vI (i:Int)] (w.alloc (.cells #[vI G,fv] 24)) fun e w'=>e = .returned (.bool (decide (checkP G (aloneP fs fs[i])=0)))∧Fr (fun _=>False) (w.alloc (.cells #[vI G,fv] 24)) w'):=fun i hi =>
  right_any G fv fs i hi (w.alloc (.cells #[vI G,fv] 24)) (h1.stay (Fr.alloc (Fr.refl _ w) _)) b1 (hT.stay (Fr.alloc (Fr.refl _ w) _))
 have HTA:Hd (∀ i (hi:i<fs.length),ss.length=fs.length→checkP G (aloneP fs fs[i])=0→toldX fs ss fs[i].code=false→∀ w1,Fr (fun _=>False) w w1→Calls Tryz.prog 86 #[.agg #[vI G,fv],vI (i:Int),sv] w1 fun e w'=>e = .returned (.bool false)∧Fr (fun _=>False) w1 w'):=fun i hi hls hck htl w1 hF=>by
  have:=told_any G fv sv fs ss i hi w1 (h1.stay hF) (h2.stay hF) hls b1 b2 (fun c hc e=>by
   obtain⟨q,hq,hqf,-⟩:=(right_ok hck).call c hc e
   omega)
  rw[htl] at this
  exact this
 obtain⟨fa,fc,efv,-⟩:=h1
 obtain⟨sa,sc,esv,-⟩:=h2
 subst efv esv
 have hFa:Fr (fun _=>False) w (w.alloc (.cells #[vI G,.slice fa fs.length fc] 24)):=Fr.alloc (Fr.refl _ w) _
 have ba:(w.alloc (.cells #[vI G,.slice fa fs.length fc] 24)).heap[w.heap.size]?=some (.cells #[vI G,.slice fa fs.length fc] 24):=heap_new0 w _
 clear hT b1 b2
 refine callsIn_of_wp_marks Tryz.func44 rfl trivial ?_ rfl
 simp only[Tryz.ntmps44,List.size_toArray,List.length_cons,List.length_nil,Nat.reduceAdd,Nat.reduceSub,Array.replicate_succ,Array.replicate_zero,List.push_toArray,List.append_toArray,List.nil_append,List.cons_append]
 by_cases h0:F<0
 ·have d1:decide (F<0)=true:=by simpa using h0
  gi_wp2_with fail
  refine⟨trivial,?_⟩
  gi_wp2_with fail
  refine⟨trivial,?_⟩
  gi_wp2_with fail
  exact⟨_,results_tmp2 rfl _ _ _,rfl,hFa⟩
 ·have d1:decide (F<0)=false:=by simpa using h0
  by_cases hF:F≥fs.length
  ·have d2:decide (F≥(fs.length:Int))=true:=by simpa using hF
   have d3:decide ((fs.length:Int)≤F)=true:=by simpa using hF
   gi_wp2_with fail
   refine⟨trivial,?_⟩
   gi_wp2_with fail
   refine⟨trivial,?_⟩
   gi_wp2_with fail
   exact⟨_,results_tmp2 rfl _ _ _,rfl,hFa⟩
  ·obtain⟨i,rfl⟩:∃ i:Nat,F=i:=⟨F.toNat,by omega⟩
   have hi:i<fs.length:=by omega
   have d2:decide ((i:Int)≥(fs.length:Int))=false:=by simpa using hF
   have d3:decide ((fs.length:Int)≤i)=false:=by simpa using hF
   have d4:decide (fs.length≤i)=false:=by simp;omega
   by_cases hls:ss.length=fs.length
   ·have e1:((ss.length:Int) != (fs.length:Int))=false:=by simp[hls]
    have e2:((ss.length:Int)==(fs.length:Int))=true:=by simp[hls]
    have HLS:Hd (ss.length=fs.length):=hls
    have HBAD:Hd (¬ EdgOk G fs i ss):=hbad
    have hra:=HRA.out i hi
    clear hls hbad HRA
    by_cases hck:checkP G (aloneP fs fs[i])=0
    ·have htl:toldX fs ss fs[i].code=false:=by
      cases ht:toldX fs ss fs[i].code with
      | false=>rfl
      | true=>exact absurd ⟨i,rfl,hi,HLS.out,hck,ht⟩ HBAD.out
     have HT2:Hd (∀ w1,Fr (fun _=>False) w w1→Calls Tryz.prog 86 #[.agg #[vI G,.slice fa fs.length fc],vI (i:Int),.slice sa ss.length sc] w1 fun e w'=>e = .returned (.bool false)∧Fr (fun _=>False) w1 w'):=HTA.out i hi HLS.out hck htl
     rw[hck] at hra
     clear hck htl HTA
     gi_wp2_with fail
     refine⟨trivial,(fun h=>by cases h),?_⟩
     refine(callsIn_wide.2 hra).mono ?_
     rintro e w1 ⟨rfl,hF1⟩
     have b1:w1.heap[w.heap.size]?=some (.cells #[vI G,.slice fa fs.length fc] 24):=(hF1.block _ (heap_lt0 ba) (fun e=>e)).trans ba
     have c0:w1.cell? ⟨w.heap.size,0,none⟩=some (vI G):=by rw[cell_of0 b1];rfl
     have c1:w1.cell? ⟨w.heap.size,1,none⟩=some (.slice fa fs.length fc):=by rw[cell_of0 b1];rfl
     gi_wp2_with fail
     refine⟨trivial,(fun h=>by cases h),?_⟩
     refine(callsIn_wide.2 (HT2.out w1 (hFa.trans hF1))).mono ?_
     rintro e w2 ⟨rfl,hF2⟩
     gi_wp2_with fail
     exact⟨_,results_tmp2 rfl _ _ _,rfl,(hFa.trans hF1).trans hF2⟩
    ·rw[decide_eq_false hck] at hra
     clear hck HTA
     gi_wp2_with fail
     refine⟨trivial,(fun h=>by cases h),?_⟩
     refine(callsIn_wide.2 hra).mono ?_
     rintro e w1 ⟨rfl,hF1⟩
     gi_wp2_with fail
     refine⟨trivial,?_⟩
     gi_wp2_with fail
     exact⟨_,results_tmp2 rfl _ _ _,rfl,hFa.trans hF1⟩
   ·have e1:((ss.length:Int) != (fs.length:Int))=true:=by simp;omega
    have e2:((ss.length:Int)==(fs.length:Int))=false:=by simp;omega
    gi_wp2_with fail
    refine⟨trivial,?_⟩
    gi_wp2_with fail
    refine⟨trivial,?_⟩
    gi_wp2_with fail
    exact⟨_,results_tmp2 rfl _ _ _,rfl,hFa⟩
def EdgE (G:Int)(fs:List PF)(F:Int)(ss:List PS)(w:World)(e:Ending)(w':World):Prop :=
 Fr (fun _=>False) w w'∧((¬ EdgOk G fs F ss∧e = .returned (.tuple #[.slice none 0 0,vI 1])) ∨
  ∃ (i:Nat) (h:i<fs.length),F=i∧ss.length=fs.length∧checkP G (aloneP fs fs[i])=0∧toldX fs ss fs[i].code=true∧∃ v,e = .returned (.tuple #[v,vI 0])∧w'.ownsRow w.heap.size 140 3 v (edgX ss fs[i]).length ((edgX ss fs[i]).flatMap edC))
theorem edges_any (G:Int)(fv sv:Value)(fs:List PF)(ss:List PS)(F:Int)(w:World)(h1:FA w fv fs)(h2:SsA w sv ss)(b1:FineP fs)(b2:FineS ss)(hT:Tab w)(hR:RowsA w) :
 Calls Tryz.prog 44 #[.agg #[vI G,fv],vI F,sv] w (EdgE G fs F ss w):=by
 by_cases hok:EdgOk G fs F ss
 ·obtain⟨i,rfl,hi,hls,hck,htl⟩:=hok
  refine(callsIn_wide.1 (edges_ok_in 6 (by omega) G fv sv fs ss i hi w h1 h2 hls b1 b2 hT hR hck htl)).mono ?_
  rintro e w' ⟨v,he,ho,hf⟩
  exact⟨hf,Or.inr ⟨i,hi,rfl,hls,hck,htl,v,he,ho⟩⟩
 ·refine(callsIn_wide.1 (edges_bad_in 6 (by omega) G fv sv fs ss F w h1 h2 b1 b2 hT hok)).mono ?_
  rintro e w' ⟨he,hf⟩
  exact⟨hf,Or.inl ⟨hok,he⟩⟩
def mt (x y:Ed):Prop:=x.1=y.1∧x.2.1=y.2.1∧x.2.2≤y.2.2
theorem mt.refl (x:Ed):mt x x:=⟨rfl,rfl,Int.le_refl _⟩
theorem varX_is {R V v:Int}(hR:0≤R∧R≤4)(hV:0≤V∧V≤255)(hv:0≤v∧v<V):varX R V v=1+R+v:=by
 unfold varX
 rw[if_pos ⟨hR.1,hV.1,hv.1,hv.2⟩]
 unfold wrap64
 omega
theorem cellX_is {R V:Int}(hR:0≤R∧R≤4)(hV:0≤V∧V≤255):cellX R V=1+R+V:=by
 unfold cellX wrap64
 omega
theorem newsX_take (cs:List PI)(j:Nat)(hj:j<cs.length):newsX (cs.take (j+1))=newsX (cs.take j)+(if cs[j].op=6 then 1 else 0):=by
 rw[List.take_succ_eq_append_getElem hj,newsX_snoc]
theorem newsX_app : ∀ a b:List PI,newsX (a++b)=newsX a+newsX b
 | [],b=>by simp[newsX]
 | x::a,b=>by
   have:=newsX_app a b
   simp only[List.cons_append,newsX]
   omega
theorem newsX_take_le (cs:List PI)(j:Nat):newsX (cs.take j)≤newsX cs:=by
 have:=newsX_app (cs.take j) (cs.drop j)
 rw[List.take_append_drop] at this
 omega
theorem clX_is {R V:Int}(hR:0≤R∧R≤4)(hV:0≤V∧V≤255)(cs:List PI)(hl:cs.length≤4096):∀ j,j≤cs.length→clX R V cs j=1+R+V+(newsX (cs.take j):Nat)
 | 0,_=>by
   show cellX R V=_
   rw[cellX_is hR hV]
   simp[newsX]
 | j+1,h=>by
   have ih:=clX_is hR hV cs hl j (by omega)
   have e:cs.getD j dPI=cs[j]:=by simp[show j<cs.length by omega]
   have h1:=newsX_take cs j (by omega)
   have h2:=newsX_le (cs.take (j+1))
   have h3:(cs.take (j+1)).length≤cs.length:=by rw[List.length_take];omega
   show(if (cs.getD j dPI).op=6 then wrap64 (clX R V cs j+1) else clX R V cs j)=_
   rw[e,h1,ih]
   split
   ·unfold wrap64
    omega
   ·simp
structure Shp (R V:Int)(N:Nat)(x:Ed):Prop where
 s1:1+R≤x.2.1
 s2:x.2.1<1+R+V+N
 d1:0≤x.1
 d2:x.1<1+R+V
 k1 : -1≤x.2.2
 k2:x.2.2≤3
 c1:1+R+V≤x.2.1→x.2.2 = -1
 c2:x.2.2 = -1→1+R≤x.1
theorem der_is {d:Int}(h:derOk d=true)(h9:d≠9):0≤d∧d≤3:=by
 unfold derOk at h
 simp[h9] at h
 exact h
theorem edgI_shp {fs:List PF}{ss:List PS}{f:PF}(hf:FunR fs f)(ht:toldX fs ss f.code=true)(hls:ss.length=fs.length)(N:Nat)(cell:Int)(c:PI)(hc:c∈f.code)(hcell:c.op=6→1+f.R+f.V≤cell∧cell<1+f.R+f.V+N) :
 ∀ x∈edgI ss f.R f.V cell c,Shp f.R f.V N x∧(1+f.R+f.V≤x.2.1→c.op=6∧x.2.1=cell):=by
 have hR:=hf.R
 have hV:=hf.V
 have hN:(0:Int)≤N:=by omega
 intro x hx
 unfold edgI at hx
 split at hx
 ·rename_i h15
  obtain⟨k1,k2⟩:=hf.ret _ hc h15
  unfold retE at hx
  obtain⟨j,hj,rfl⟩:=List.mem_map.1 hx
  have hj:=List.mem_range.1 hj
  have hv:=k2 _ (List.getElem_mem hj)
  have e:c.args[j]?.getD 0=c.args[j]:=by simp[hj]
  simp only[e]
  rw[varX_is hR hV hv]
  exact⟨⟨by simp only;omega,by simp only;omega,by simp only;omega,by simp only;omega,by simp,by simp,(fun h=>by first | omega | (simp only at h;omega)),fun h=>by simp at h⟩,fun h=>by first | omega | (simp only at h;omega)⟩
 ·split at hx
  ·rename_i h15 h11
   obtain⟨q,hq,hqf,p1,p2,a1,a2,va,vr⟩:=hf.call _ hc h11
   have hqs:q<ss.length:=by omega
   have hfit:fitsX ss[q] fs[q].P fs[q].R=true:=by
    have:=List.all_eq_true.1 ht _ hc
    unfold fitI at this
    rw[if_pos h11,hq] at this
    simpa[hqf,hqs] using this
   obtain⟨l1,l2,l3,l4,l5⟩:=fits_len hfit
   have es:ss.getD c.n.toNat dPS=ss[q]:=by rw[hq];simp[hqs]
   rw[es] at hx
   unfold callT at hx
   obtain⟨i,hi,hx⟩:=List.mem_flatMap.1 hx
   have hi:=List.mem_range.1 hi
   have ha:=va _ (List.getElem_mem hi)
   have e1:c.args[i]?.getD 0=c.args[i]:=by simp[hi]
   have hiH:i<ss[q].H.length:=by omega
   have hiR:i<ss[q].R.length:=by omega
   have e2:ss[q].H[i]?.getD 0=ss[q].H[i]:=by simp[hiH]
   have e3:ss[q].R[i]?.getD []=ss[q].R[i]:=by simp[hiR]
   unfold oneE at hx
   rw[e1,e2,e3] at hx
   rcases List.mem_append.1 hx with hx | hx
   ·unfold hE at hx
    split at hx
    ·cases hx
    ·rename_i h9
     obtain rfl:=List.mem_singleton.1 hx
     have hd:=der_is (l4 _ (List.getElem_mem hiH)) h9
     rw[varX_is hR hV ha]
     exact⟨⟨by simp only;omega,by simp only;omega,by simp,by simp only;omega,by simp only;omega,by simp only;omega,fun h=>by simp only at h;omega,fun h=>by simp only at h;omega⟩,fun h=>by first | omega | (simp only at h;omega)⟩
   ·unfold gE at hx
    obtain⟨j,hj,hx⟩:=List.mem_flatMap.1 hx
    have hj:=List.mem_range.1 hj
    have hl:=l3 _ (List.getElem_mem hiR)
    have hjr:j<c.rets.length:=by omega
    have e4:ss[q].R[i][j]?.getD 0=ss[q].R[i][j]:=by simp[hj]
    have e5:c.rets[j]?.getD 0=c.rets[j]:=by simp[hjr]
    rw[e4,e5] at hx
    unfold rE at hx
    split at hx
    ·cases hx
    ·rename_i h9
     obtain rfl:=List.mem_singleton.1 hx
     have hd:=der_is (l5 _ (List.getElem_mem hiR) _ (List.getElem_mem hj)) h9
     have hb:=vr _ (List.getElem_mem hjr)
     rw[varX_is hR hV ha,varX_is hR hV hb]
     exact⟨⟨by simp only;omega,by simp only;omega,by simp only;omega,by simp only;omega,by simp only;omega,by simp only;omega,fun h=>by simp only at h;omega,fun h=>by simp only at h;omega⟩,fun h=>by first | omega | (simp only at h;omega)⟩
  ·split at hx
   ·rename_i h15 h11 hr
    obtain rfl:=List.mem_singleton.1 hx
    have hop:=hf.op _ hc
    have hcs:c.op=1∨c.op=2∨c.op=3∨c.op=4∨c.op=5∨c.op=6∨c.op=7∨c.op=8∨c.op=9∨c.op=10∨c.op=12∨c.op=13∨c.op=14∨c.op=16∨c.op=17:=by omega
    have hrr:=hf.r _ hc
    have hss:=hf.s _ hc
    clear hx
    rcases hcs with e | e | e | e | e | e | e | e | e | e | e | e | e | e | e
    all_goals rw[e] at hr
    all_goals first
     | exact absurd hr (by decide)
     | skip
    all_goals rw[e]
    all_goals simp only[show rowX (Int.toNat 2)=(1,1,2,0) from rfl,show rowX (Int.toNat 5)=(1,1,2,-1) from rfl,show rowX (Int.toNat 6)=(1,1,3,-1) from rfl,show rowX (Int.toNat 7)=(1,1,2,1) from rfl,show rowX (Int.toNat 8)=(1,0,2,0) from rfl,show rowX (Int.toNat 10)=(1,0,2,0) from rfl,endX]
    ·have h1:=hrr (by omega)
     have h2:=hss (by omega)
     simp[varX_is hR hV h1,varX_is hR hV h2]
     exact⟨⟨by simp only;omega,by simp only;omega,by simp only;omega,by simp only;omega,by simp,by simp,fun h=>by simp only at h;omega,fun h=>by simp at h⟩,h2.2⟩
    ·have h1:=hrr (by omega)
     have h2:=hss (by omega)
     simp[varX_is hR hV h1,varX_is hR hV h2]
     exact⟨⟨by simp only;omega,by simp only;omega,by simp only;omega,by simp only;omega,by simp,by simp,fun h=>by simp only at h;omega,fun h=>by simp only;omega⟩,h2.2⟩
    ·have h1:=hrr (by omega)
     have h2:=hcell e
     simp[varX_is hR hV h1]
     exact⟨by simp only;omega,by simp only;omega,by simp only;omega,by simp only;omega,by simp,by simp,fun h=>rfl,fun h=>by simp only;omega⟩
    ·have h1:=hrr (by omega)
     have h2:=hss (by omega)
     simp[varX_is hR hV h1,varX_is hR hV h2]
     exact⟨⟨by simp only;omega,by simp only;omega,by simp only;omega,by simp only;omega,by simp,by simp,fun h=>by simp only at h;omega,fun h=>by simp at h⟩,h2.2⟩
    ·have h2:=hss (by omega)
     simp[varX_is hR hV h2]
     exact⟨⟨by simp only;omega,by simp only;omega,by simp only;omega,by simp only;omega,by simp,by simp,fun h=>by simp only at h;omega,fun h=>by simp at h⟩,h2.2⟩
    ·have h2:=hss (by omega)
     simp[varX_is hR hV h2]
     exact⟨⟨by simp only;omega,by simp only;omega,by simp only;omega,by simp only;omega,by simp,by simp,fun h=>by simp only at h;omega,fun h=>by simp at h⟩,h2.2⟩
   ·cases hx
def cnt (l:List Ed)(c:Int):Nat:=(l.filter (fun x=>x.2.1==c)).length
theorem cnt_app (a b:List Ed)(c:Int):cnt (a++b) c=cnt a c+cnt b c:=by unfold cnt;rw[List.filter_append,List.length_append]
theorem cnt_snoc (a:List Ed)(x:Ed)(c:Int):cnt (a++[x]) c=cnt a c+(if x.2.1=c then 1 else 0):=by
 rw[cnt_app]
 congr 1
 unfold cnt
 rw[List.filter_cons]
 by_cases h:x.2.1=c<;>simp[h]
theorem cnt_none {l:List Ed}{c:Int}(h:∀ x∈l,x.2.1≠c):cnt l c=0:=by
 unfold cnt
 rw[List.filter_eq_nil_iff.2 (fun x hx=>by simpa using h x hx)]
 rfl
section
variable {fs:List PF} {ss:List PS} {f:PF}
theorem edgI_six (cell:Int)(c:PI)(h:c.op=6):edgI ss f.R f.V cell c=[(varX f.R f.V c.r,cell,-1)]:=by
 unfold edgI
 rw[if_neg (by omega),if_neg (by omega),h]
 simp only[show rowX (Int.toNat 6)=(1,1,3,-1) from rfl,endX]
 simp
theorem edgI_cnt (hf:FunR fs f)(ht:toldX fs ss f.code=true)(hls:ss.length=fs.length)(N:Nat)(cell:Int)(c:PI)(hc:c∈f.code)(hcell:c.op=6→1+f.R+f.V≤cell∧cell<1+f.R+f.V+N)(c0:Int)(h0:1+f.R+f.V≤c0) :
 cnt (edgI ss f.R f.V cell c) c0=if c.op=6∧cell=c0 then 1 else 0:=by
 by_cases h6:c.op=6
 ·rw[edgI_six cell c h6]
  have:=cnt_snoc [] (varX f.R f.V c.r,cell,-1) c0
  rw[List.nil_append] at this
  rw[this]
  simp[h6,cnt]
 ·rw[if_neg (fun h=>h6 h.1)]
  refine cnt_none (fun x hx e=>?_)
  have:=(edgI_shp hf ht hls N cell c hc hcell x hx).2 (by omega)
  exact h6 this.1
theorem edg_pre (hf:FunR fs f)(ht:toldX fs ss f.code=true)(hls:ss.length=fs.length):∀ k,k≤f.code.length →
 (∀ x∈(List.range k).flatMap (fun j=>edgI ss f.R f.V (clX f.R f.V f.code j) (f.code.getD j dPI)),Shp f.R f.V (newsX f.code) x) ∧
 ∀ c0,1+f.R+f.V≤c0→cnt ((List.range k).flatMap (fun j=>edgI ss f.R f.V (clX f.R f.V f.code j) (f.code.getD j dPI))) c0=if c0<1+f.R+f.V+(newsX (f.code.take k):Nat) then 1 else 0
 | 0,_=>by
   refine⟨fun x hx=>by simp at hx,fun c0 h0=>?_⟩
   rw[if_neg (by simp[newsX];omega)]
   rfl
 | k+1,hk=>by
   obtain⟨ih1,ih2⟩:=edg_pre hf ht hls k (by omega)
   have hR:=hf.R
   have hV:=hf.V
   have hl:=hf.len
   have e:f.code.getD k dPI=f.code[k]:=by simp[show k<f.code.length by omega]
   have hc:f.code[k]∈f.code:=List.getElem_mem _
   have hcl:=clX_is hR hV f.code (by omega) k (by omega)
   have hn:=newsX_take f.code k (by omega)
   have hn2:=newsX_take_le f.code (k+1)
   have hcell:f.code[k].op=6→1+f.R+f.V≤clX f.R f.V f.code k∧clX f.R f.V f.code k<1+f.R+f.V+newsX f.code:=fun h=>by
    rw[if_pos h] at hn
    omega
   rw[flat_succ,e]
   refine⟨fun x hx=>?_,fun c0 h0=>?_⟩
   ·rcases List.mem_append.1 hx with hx | hx
    ·exact ih1 x hx
    ·exact(edgI_shp hf ht hls (newsX f.code) _ _ hc hcell x hx).1
   ·rw[cnt_app,ih2 c0 h0,edgI_cnt hf ht hls (newsX f.code) _ _ hc hcell c0 h0,hn,hcl]
    by_cases h6:f.code[k].op=6
    ·simp only[h6,if_true,true_and]
     by_cases h1:c0<1+f.R+f.V+(newsX (f.code.take k):Nat)
     ·rw[if_pos h1,if_neg (by omega),if_pos (by omega)]
     ·rw[if_neg h1]
      by_cases h2:1+f.R+f.V+(newsX (f.code.take k):Nat)=c0
      ·rw[if_pos h2,if_pos (by omega)]
      ·rw[if_neg h2,if_neg (by omega)]
    ·simp only[h6,if_false,false_and,Nat.add_zero]
theorem edg_all (hf:FunR fs f)(ht:toldX fs ss f.code=true)(hls:ss.length=fs.length):(∀ x∈edgX ss f,Shp f.R f.V (newsX f.code) x)∧∀ c0:Int,1+f.R+f.V≤c0→c0<1+f.R+f.V+(newsX f.code:Nat)→cnt (edgX ss f) c0=1:=by
 obtain⟨h1,h2⟩:=edg_pre hf ht hls f.code.length (Nat.le_refl _)
 refine⟨h1,fun c0 k1 k2=>?_⟩
 have:=h2 c0 k1
 rw[List.take_length,if_pos k2] at this
 exact this
end
def flowsX (d:Int):Bool:=decide (-1≤d∧d≤3)
def plusX (d k:Int):Int:=if flowsX d&&flowsX k then min (max d 0+k) 3 else 9
theorem plusX_mono {a b:Int}(k:Int)(h:a≤b)(ha:flowsX a=true):plusX a k≤plusX b k:=by
 simp only[plusX,flowsX] at *
 simp only[decide_eq_true_eq] at ha
 by_cases hb : -1≤b∧b≤3
 ·by_cases hk : -1≤k∧k≤3
  ·simp[ha,hb,hk];omega
  ·simp[hk]
 ·by_cases hk : -1≤k∧k≤3
  ·simp[ha,hb,hk];omega
  ·simp[hk]
theorem plusX_flows {a k:Int}(ha:flowsX a=true)(hk:flowsX k=true):flowsX (plusX a k)=true:=by
 simp only[plusX,ha,hk,flowsX,decide_eq_true_eq] at *
 simp
 omega
theorem plus_rises {a b c e:Int}(h:a≤b)(ha:flowsX a=true)(hb:flowsX b=true)(hc:flowsX c=true)(he:flowsX e=true)(hce:c≤e):plusX a c≤plusX b e:=by
 unfold plusX
 simp only[ha,hb,hc,he,Bool.and_self,if_true]
 omega
inductive Reach (es:List Ed) (rs:List Int):Int→Int→Prop
 | root {r:Int}:r∈rs→Reach es rs r 0
 | step {e:Ed} {d:Int}:e∈es→Reach es rs e.1 d→Reach es rs e.2.1 (plusX d e.2.2)
structure Least (n:Nat)(es:List Ed)(rs:List Int)(x:Nat→Int):Prop where
 root:∀ r:Nat,(r:Int)∈rs→x r≤0
 edge:∀ (d s:Nat) k,((d:Int),(s:Int),k)∈es→x s≤plusX (x d) k
 way:∀ i,i<n→x i=9∨Reach es rs i (x i)
def RightE (n:Int)(e:Ed):Prop:=(0≤e.1∧e.1<n)∧(0≤e.2.1∧e.2.1<n)∧flowsX e.2.2=true
def RightG (n:Int)(es:List Ed)(rs:List Int):Prop:=(0≤n∧n≤1048576)∧(∀ e∈es,RightE n e)∧(∀ r∈rs,0≤r∧r<n)
theorem Reach.right {n:Int}{es:List Ed}{rs:List Int}(h:RightG n es rs){i d:Int}(r:Reach es rs i d):(0≤i∧i<n)∧flowsX d=true:=by
 induction r with
 | root hr=>exact⟨h.2.2 _ hr,by decide⟩
 | step he _ ih=>exact⟨(h.2.1 _ he).2.1,plusX_flows ih.2 (h.2.1 _ he).2.2⟩
theorem Least.le {n:Nat}{es:List Ed}{rs:List Int}{x:Nat→Int}(hr:RightG n es rs)(h:Least n es rs x){i d:Int}(r:Reach es rs i d):x i.toNat≤d:=by
 induction r with
 | @root r hm =>
   have:=h.root r.toNat (by have:=hr.2.2 r hm;rw[Int.toNat_of_nonneg this.1];exact hm)
   exact this
 | @step e d he hd ih =>
   have hR:=hr.2.1 e he
   have h1:=h.edge e.1.toNat e.2.1.toNat e.2.2 (by rw[Int.toNat_of_nonneg hR.1.1,Int.toNat_of_nonneg hR.2.1.1];exact he)
   refine Int.le_trans h1 ?_
   have hx:x e.1.toNat=9∨flowsX (x e.1.toNat)=true:=by
    rcases h.way e.1.toNat (by have:=hR.1;omega) with h | h
    ·exact Or.inl h
    ·exact Or.inr (h.right hr).2
   rcases hx with hx | hx
   ·have:=(hd.right hr).2
    simp[flowsX] at this
    omega
   ·exact plusX_mono _ ih hx
theorem Least.val {n:Nat}{es:List Ed}{rs:List Int}{x:Nat→Int}(hr:RightG n es rs)(h:Least n es rs x){i:Nat}(hi:i<n):x i=9∨(-1≤x i∧x i≤3):=by
 rcases h.way i hi with h | h
 ·exact Or.inl h
 ·have:=(h.right hr).2
  simp[flowsX] at this
  exact Or.inr this
theorem Least.mono {n n':Nat}{es es':List Ed}{rs rs':List Int}{x y:Nat→Int}(hr':RightG n' es' rs')(hx:Least n es rs x)(hy:Least n' es' rs' y)(hw:∀ i d,Reach es rs i d→∃ d',d'≤d∧Reach es' rs' i d'){i:Nat}(hi:i<n)(hn:n≤n'):y i≤x i:=by
 rcases hx.way i hi with h | h
 ·rw[h]
  rcases hy.val hr' (i:=i) (by omega) with h | h<;>omega
 ·obtain⟨d',hd,h'⟩:=hw _ _ h
  have:=hy.le hr' h'
  simp at this
  omega
theorem Reach.low {n n':Int}{es es':List Ed}{rs rs':List Int}(hG:RightG n es rs)(hG':RightG n' es' rs')(he:∀ e∈es,∃ e'∈es',mt e' e)(hrs:∀ r∈rs,∃ d,d≤0∧Reach es' rs' r d){i d:Int}(r:Reach es rs i d):∃ d',d'≤d∧Reach es' rs' i d':=by
 induction r with
 | root hr=>exact hrs _ hr
 | @step e d hm hd ih =>
   obtain⟨d',h1,h2⟩:=ih
   obtain⟨e',m1,m2,m3,m4⟩:=he e hm
   have h3:=Reach.step m1 (m2 ▸ h2)
   rw[m3] at h3
   exact⟨_,plus_rises h1 (h2.right hG').2 (hd.right hG).2 (hG'.2.1 _ m1).2.2 (hG.2.1 _ hm).2.2 m4,h3⟩
theorem Reach.mem {es es':List Ed}{rs rs':List Int}(he:∀ e∈es,e∈es')(hr:∀ r∈rs,r∈rs'){i d:Int}(r:Reach es rs i d):Reach es' rs' i d:=by
 induction r with
 | root h=>exact .root (hr _ h)
 | step h _ ih=>exact .step (he _ h) ih
theorem Reach.one {es:List Ed}{rs:List Int}{i d:Int}(r:Reach es rs i d):∃ q∈rs,Reach es [q] i d:=by
 induction r with
 | @root r h=>exact⟨r,h,.root (by simp)⟩
 | step h _ ih =>
   obtain⟨q,h1,h2⟩:=ih
   exact⟨q,h1,.step h h2⟩
theorem Least.minus {n:Nat}{es:List Ed}{rs:List Int}{x:Nat→Int}(hr:RightG n es rs)(h:Least n es rs x){i:Nat}(hi:i<n):x i = -1↔Reach es rs i (-1):=by
 constructor
 ·intro e
  rcases h.way i hi with h | h
  ·omega
  ·rw[e] at h;exact h
 ·intro r
  have h1:=h.le hr r
  simp at h1
  rcases h.val hr hi with h | h<;>omega
def rootsX (R:Nat):List Int:=(List.range (R+1)).map fun(j:Nat)=>(j:Int)
def heapsX (n:Nat)(esc:Nat→Bool):List Int:=0::((List.range n).filter esc).map fun(j:Nat)=>(j:Int)
theorem mem_rootsX {R:Nat}{r:Int}:r∈rootsX R↔0≤r∧r≤R:=by
 unfold rootsX
 rw[List.mem_map]
 constructor
 ·rintro⟨j,hj,rfl⟩
  have:=List.mem_range.1 hj
  omega
 ·rintro⟨h1,h2⟩
  exact⟨r.toNat,List.mem_range.2 (by omega),by omega⟩
theorem mem_heapsX {n:Nat}{esc:Nat→Bool}{r:Int}:r∈heapsX n esc↔r=0∨∃ j:Nat,j<n∧esc j=true∧r=j:=by
 unfold heapsX
 rw[List.mem_cons,List.mem_map]
 constructor
 ·rintro(h | ⟨j,hj,rfl⟩)
  ·exact Or.inl h
  ·obtain⟨h1,h2⟩:=List.mem_filter.1 hj
   exact Or.inr ⟨j,List.mem_range.1 h1,h2,rfl⟩
 ·rintro(h | ⟨j,h1,h2,rfl⟩)
  ·exact Or.inl h
  ·exact Or.inr ⟨j,List.mem_filter.2 ⟨List.mem_range.2 h1,h2⟩,rfl⟩
structure EdR (n R:Nat)(es:List Ed):Prop where
 n1:R<n
 n2:n≤1048576
 e:∀ x∈es,RightE n x∧(R:Int)<x.2.1
theorem EdR.g {n R:Nat}{es:List Ed}(h:EdR n R es){rs:List Int}(hr:∀ r∈rs,0≤r∧r<n):RightG n es rs:=⟨⟨by omega,by have:=h.n2;omega⟩,fun x hx=>(h.e x hx).1,hr⟩
theorem EdR.roots {n R:Nat}{es:List Ed}(h:EdR n R es):RightG n es (rootsX R):=h.g fun r hr=>by have:=mem_rootsX.1 hr;have:=h.n1;omega
theorem EdR.heaps {n R:Nat}{es:List Ed}(h:EdR n R es)(esc:Nat→Bool):RightG n es (heapsX n esc):=h.g fun r hr=>by
 have:=h.n1
 rcases mem_heapsX.1 hr with rfl | ⟨j,h1,-,rfl⟩<;>omega
theorem EdR.res {n R:Nat}{es:List Ed}(h:EdR n R es){j:Nat}(hj:j<R):RightG n es [1+(j:Int)]:=h.g fun r hr=>by
 obtain rfl:=List.mem_singleton.1 hr
 have:=h.n1
 omega
theorem EdR.far {n R:Nat}{es:List Ed}(h:EdR n R es){rs:List Int}{i d:Int}(r:Reach es rs i d)(hd:d = -1):(R:Int)<i:=by
 cases r with
 | root _=>omega
 | step he _=>exact(h.e _ he).2
structure SolX (n R:Nat)(es:List Ed)(esc:Nat→Bool)(y:Nat→Int)(z:Nat→Nat→Int):Prop where
 first:∃ x,Least n es (rootsX R) x∧∀ l,l<n→esc l=decide (x l = -1)
 heap:Least n es (heapsX n esc) y
 res:∀ j,j<R→Least n es [1+(j:Int)] (z j)
theorem SolX.out {n R:Nat}{es:List Ed}{esc:Nat→Bool}{y:Nat→Int}{z:Nat→Nat→Int}(hE:EdR n R es)(h:SolX n R es esc y z){l:Nat}(hl:l<n):esc l=true↔Reach es (rootsX R) l (-1):=by
 obtain⟨x,h1,h2⟩:=h.first
 rw[h2 l hl,decide_eq_true_eq]
 exact h1.minus hE.roots hl
theorem SolX.mono {n n' R:Nat}{es es':List Ed}{esc esc':Nat→Bool}{y y':Nat→Int}{z z':Nat→Nat→Int}(hE:EdR n R es)(hE':EdR n' R es')(h:SolX n R es esc y z)(h':SolX n' R es' esc' y' z')(hn:n≤n')(he:∀ e∈es,∃ e'∈es',mt e' e) :
 (∀ l,l<n→esc l=true→esc' l=true)∧(∀ l,l<n→y' l≤y l)∧∀ j,j<R→∀ l,l<n→z' j l≤z j l:=by
 have key:∀ {rs rs':List Int},RightG n es rs→RightG n' es' rs'→(∀ r∈rs,r∈rs')→∀ i d,Reach es rs i d→∃ d',d'≤d∧Reach es' rs' i d':=fun g g' hr i d r=>r.low g g' he (fun r hm=>⟨0,Int.le_refl _,.root (hr r hm)⟩)
 have h1:∀ l,l<n→esc l=true→esc' l=true:=fun l hl e=>by
  rw[h.out hE hl] at e
  rw[h'.out hE' (by omega)]
  obtain⟨d',hd,r⟩:=key hE.roots hE'.roots (fun r hr=>hr) _ _ e
  have:=(r.right hE'.roots).2
  simp[flowsX] at this
  have e1:d' = -1:=by omega
  rw[e1] at r
  exact r
 refine⟨h1,fun l hl=>?_,fun j hj l hl=>?_⟩
 ·refine Least.mono (hE'.heaps esc') h.heap h'.heap (key (hE.heaps esc) (hE'.heaps esc') fun r hr=>?_) hl hn
  rcases mem_heapsX.1 hr with rfl | ⟨j,h2,h3,rfl⟩
  ·exact mem_heapsX.2 (Or.inl rfl)
  ·exact mem_heapsX.2 (Or.inr ⟨j,by omega,h1 j h2 h3,rfl⟩)
 ·exact Least.mono (hE'.res hj) (h.res j hj) (h'.res j hj) (key (hE.res hj) (hE'.res hj) fun r hr=>hr) hl hn
theorem SolX.unique {n R:Nat}{es:List Ed}{esc esc':Nat→Bool}{y y':Nat→Int}{z z':Nat→Nat→Int}(hE:EdR n R es)(h:SolX n R es esc y z)(h':SolX n R es esc' y' z') :
 (∀ l,l<n→esc l=esc' l)∧(∀ l,l<n→y l=y' l)∧∀ j,j<R→∀ l,l<n→z j l=z' j l:=by
 have he:∀ e∈es,∃ e'∈es,mt e' e:=fun e he=>⟨e,he,mt.refl e⟩
 obtain⟨a1,a2,a3⟩:=h.mono hE hE h' (Nat.le_refl _) he
 obtain⟨b1,b2,b3⟩:=h'.mono hE hE h (Nat.le_refl _) he
 refine⟨fun l hl=>?_,fun l hl=>Int.le_antisymm (b2 l hl) (a2 l hl),fun j hj l hl=>Int.le_antisymm (b3 j hj l hl) (a3 j hj l hl)⟩
 cases e:esc l with
 | true=>rw[a1 l hl e]
 | false =>
   cases e':esc' l with
   | true=>rw[b1 l hl e'] at e;cases e
   | false=>rfl
def EscS (n R:Nat)(es:List Ed)(esc:Nat→Bool):Prop:=∀ l,l<n→esc l=true→(R:Int)<l∧Reach es (rootsX R) l (-1)
theorem EscS.low {n R:Nat}{es:List Ed}{esc:Nat→Bool}(hE:EdR n R es)(h:EscS n R es esc){i d:Int}(r:Reach es (heapsX n esc) i d):∃ d',d'≤d∧Reach es (rootsX R) i d' :=
 r.low (hE.heaps esc) hE.roots (fun e he=>⟨e,he,mt.refl e⟩) fun r hr=>by
  rcases mem_heapsX.1 hr with rfl | ⟨j,h2,h3,rfl⟩
  ·exact⟨0,Int.le_refl _,.root (mem_rootsX.2 ⟨Int.le_refl _,by omega⟩)⟩
  ·exact⟨-1,by omega,(h j h2 h3).2⟩
theorem EscS.next {n R:Nat}{es:List Ed}{esc:Nat→Bool}(hE:EdR n R es)(h:EscS n R es esc){y:Nat→Int}(hy:Least n es (heapsX n esc) y){l:Nat}(hl:l<n)(hm:y l = -1):(R:Int)<l∧Reach es (rootsX R) l (-1):=by
 have r:=(hy.minus (hE.heaps esc) hl).1 hm
 obtain⟨d',hd,r⟩:=h.low hE r
 have:=(r.right hE.roots).2
 simp[flowsX] at this
 have e1:d' = -1:=by omega
 rw[e1] at r
 exact⟨hE.far r rfl,r⟩
theorem esc_first {n R:Nat}{es:List Ed}(hE:EdR n R es){j:Nat}(hj:j<R){z:Nat→Int}(hz:Least n es [1+(j:Int)] z){l:Nat}(hl:l<n)(hm:z l = -1):(R:Int)<l∧Reach es (rootsX R) l (-1):=by
 have r:=(hz.minus (hE.res hj) hl).1 hm
 refine⟨hE.far r rfl,r.mem (fun _ h=>h) fun r hr=>?_⟩
 obtain rfl:=List.mem_singleton.1 hr
 exact mem_rootsX.2 ⟨by omega,by omega⟩
theorem EscS.sol {n R:Nat}{es:List Ed}{esc:Nat→Bool}(hE:EdR n R es)(h:EscS n R es esc){y:Nat→Int}{z:Nat→Nat→Int}(hy:Least n es (heapsX n esc) y)(hz:∀ j,j<R→Least n es [1+(j:Int)] (z j))
 (h1:∀ j,j<R→∀ l,R<l→l<n→z j l = -1→esc l=true) (h2:∀ l,R<l→l<n→y l = -1→esc l=true) {x:Nat→Int} (hx:Least n es (rootsX R) x):SolX n R es esc y z:=by
 refine⟨⟨x,hx,fun l hl=>?_⟩,hy,hz⟩
 have hiff:esc l=true↔x l = -1:=by
  rw[hx.minus hE.roots hl]
  refine⟨fun e=>(h l hl e).2,fun r=>?_⟩
  have hR:=hE.far r rfl
  obtain⟨q,hq,r'⟩:=r.one
  have hq:=mem_rootsX.1 hq
  by_cases h0:q=0
  ·refine h2 l (by omega) hl ?_
   refine(hy.minus (hE.heaps esc) hl).2 (r'.mem (fun _ h=>h) fun r hr=>?_)
   obtain rfl:=List.mem_singleton.1 hr
   exact mem_heapsX.2 (Or.inl h0)
  ·obtain⟨j,rfl⟩:∃ j:Nat,q=1+(j:Int):=⟨(q-1).toNat,by omega⟩
   exact h1 j (by omega) l (by omega) hl (((hz j (by omega)).minus (hE.res (by omega)) hl).2 r')
 cases e:esc l with
 | true=>simp[hiff.1 e]
 | false =>
   rw[e] at hiff
   have:¬ x l = -1:=fun h=>by have:=hiff.2 h;cases this
   simp[this]
end Go.Proofs.YtdkijecnnmncnaaGreatDoor
namespace Go.Proofs.YtdkijecnnmncnaaGreatDoor
open Go.RowKit (wrap32 wrap64)
set_option maxRecDepth 100000
set_option maxHeartbeats 2000000
theorem i64w (n:Int):Value.int IntKind.i64 (IntKind.i64.wrap n)=vI (wrap64 n):=by rw[IntKind.wrap_i64 n];first | done | rfl | (unfold wrap64;rfl)
def flocX (R V:Int)(cs:List PI):Int:=if 0≤R∧0≤V then wrap64 (cellX R V+(newsX cs:Nat)) else 0
theorem news_any (v:Value)(cs:List PI)(w:World)(h:CA w v cs)(hn:cs.length≤1599289640354) :
 Calls Tryz.prog 167 #[v] w fun e w'=>e = .returned (vI (newsX cs:Nat))∧Fr (fun _=>False) w w':=by
 obtain⟨a,c,rfl,h0⟩:=h
 have H0:Hd (cs≠[]→_):=h0
 clear h0
 go_enter Tryz.func167,Tryz.ntmps167
 go_wp2_with fail
 go_loopw [3,8] (fun nv v wr=>∃ (n k:Nat),nv = .int .i64 n∧v = .int .i64 k∧k≤cs.length∧n≤k∧Hd (n=newsX (cs.take k))∧Hd (Fr (fun _=>False) w wr)) (fun _ v _=>match v with | .int _ q=>cs.length-q.toNat | _=>0)
 case atStart=>exact⟨0,0,rfl,rfl,Nat.zero_le _,Nat.le_refl _,rfl,Fr.refl _ _⟩
 case round =>
  obtain⟨n,k,rfl,rfl,hk,hnk,HN,HF⟩:=hrel
  by_cases hlt:k<cs.length
  ·obtain⟨ck,co,rfl,hck,hcs⟩:=H0.out (by intro e;simp[e] at hlt)
   obtain⟨av,rv,c0,c1,c2,c3,c4,c5,c6,ia,ir⟩:=hcs k hlt
   have m1:=fun o=>HF.out.cell (o:=o) hck (fun h=>h)
   have c0:=(m1 _).trans c0
   have c1:=(m1 _).trans c1
   have c2:=(m1 _).trans c2
   have c3:=(m1 _).trans c3
   have c4:=(m1 _).trans c4
   have c5:=(m1 _).trans c5
   have c6:=(m1 _).trans c6
   have HT:Hd (cs.take (k+1)=cs.take k++[cs[k]]):=by unfold Hd;rw[List.take_add_one,List.getElem?_eq_getElem hlt];rfl
   generalize cs[k]=ci at *
   obtain⟨aa,ac,rfl,-⟩:=ia
   obtain⟨ra,rc,rfl,-⟩:=ir
   have hk0:(0:Int)≤k:=by omega
   have hk1:(k:Int)<cs.length:=by omega
   clear hcs m1
   by_cases h6:ci.op=6
   ·have d6:(ci.op==6)=true:=by simpa using h6
    have HN2:Hd (n+1=newsX (cs.take (k+1))):=by unfold Hd;rw[HT.out,newsX_snoc,if_pos h6,HN.out]
    clear h6
    go_wp2_with fail
    exact⟨⟨n+1,k+1,by simp,by simp,by omega,by omega,HN2.out,HF.out.alloc _⟩,by simp;omega⟩
   ·have d6:(ci.op==6)=false:=by simpa using h6
    have HN2:Hd (n=newsX (cs.take (k+1))):=by unfold Hd;rw[HT.out,newsX_snoc,if_neg h6,← HN.out];rfl
    clear h6
    go_wp2_with fail
    exact⟨⟨n,k+1,rfl,by simp,by omega,by omega,HN2.out,HF.out.alloc _⟩,by simp;omega⟩
  ·have hke:k=cs.length:=by omega
   have HE:Hd (n=newsX cs):=by have:=HN.out;rw[hke,List.take_length] at this;exact this
   have hdk:decide ((k:Int)<cs.length)=false:=by simp;omega
   clear hke
   go_wp2_with fail
   go_ret
   exact⟨by rw[← HE.out];rfl,HF.out⟩
theorem locations_any (f:PF)(cv:Value)(w:World)(h:CA w cv f.code)(hn:f.code.length≤1599289640354) :
 Calls Tryz.prog 127 #[.agg #[vI f.P,vI f.R,vI f.V,cv]] w fun e w'=>e = .returned (vI (flocX f.R f.V f.code))∧Fr (fun _=>False) w w':=by
 obtain⟨a,c,rfl,-⟩:=id h
 obtain⟨wa,hwa⟩:∃ wa,wa=w.alloc (.cells #[vI f.P,vI f.R,vI f.V,.slice a f.code.length c] 45):=⟨_,rfl⟩
 have hb:wa.heap[w.heap.size]?=some (.cells #[vI f.P,vI f.R,vI f.V,.slice a f.code.length c] 45):=by rw[hwa];exact heap_new0 w _
 have HWA:Hd (wa=w.alloc (.cells #[vI f.P,vI f.R,vI f.V,.slice a f.code.length c] 45)):=hwa
 obtain⟨H,hH⟩:∃ H,H=w.heap.size:=⟨_,rfl⟩
 have HH:Hd (H=w.heap.size):=hH
 rw[← hH] at hb
 have hFa:Fr (fun _=>False) w wa:=by rw[hwa];exact Fr.alloc (Fr.refl _ w) _
 have c0:wa.cell? ⟨H,0,none⟩=some (vI f.P):=by rw[cell_of0 hb];rfl
 have c1:wa.cell? ⟨H,1,none⟩=some (vI f.R):=by rw[cell_of0 hb];rfl
 have c2:wa.cell? ⟨H,2,none⟩=some (vI f.V):=by rw[cell_of0 hb];rfl
 have c3:wa.cell? ⟨H,3,none⟩=some (.slice a f.code.length c):=by rw[cell_of0 hb];rfl
 obtain⟨wb,hwb⟩:∃ wb,wb=wa.alloc (.cells #[vI f.P,vI f.R,vI f.V,.slice a f.code.length c] 45):=⟨_,rfl⟩
 have HWB:Hd (wb=wa.alloc (.cells #[vI f.P,vI f.R,vI f.V,.slice a f.code.length c] 45)):=hwb
 have hFb:Fr (fun _=>False) wa wb:=by rw[hwb];exact Fr.alloc (Fr.refl _ wa) _
 have HF:Hd (Fr (fun _=>False) w wb):=hFa.trans hFb
 have HB:Hd (wb.heap[H]?=some (.cells #[vI f.P,vI f.R,vI f.V,.slice a f.code.length c] 45)):=(hFb.block H (heap_lt0 hb) (fun e=>e)).trans hb
 have HC:Hd (CA wb (.slice a f.code.length c) f.code):=h.stay (hFa.trans hFb)
 clear hwa hH hb hwb hFb hFa h
 go_enter Tryz.func127,Tryz.ntmps127
 go_upto_region 1 with fail
 rw[← HWA.out,← HH.out]
 clear HWA
 go_wp2_with fail
 refine(show Calls Tryz.prog 166 #[.agg #[vI f.P,vI f.R,vI f.V,.slice a f.code.length c]] wa _ from numbered_any f.P f.R f.V a _ c wa).mono ?_
 rintro e w1 ⟨rfl,rfl⟩
 rw[← HWB.out]
 clear HWB c0 c1 c2 c3
 by_cases hnm:0≤f.R∧0≤f.V
 ·have d0:decide (0≤f.R∧0≤f.V)=true:=by simpa using hnm
  rw[d0]
  have HX:Hd (flocX f.R f.V f.code=wrap64 (cellX f.R f.V+(newsX f.code:Nat))):=if_pos hnm
  clear d0 hnm
  have HS:Hd (∀ wx,Fr (fun _=>False) wb wx→wx.cell? ⟨H,0,none⟩=some (vI f.P)∧wx.cell? ⟨H,1,none⟩=some (vI f.R)∧wx.cell? ⟨H,2,none⟩=some (vI f.V)∧wx.cell? ⟨H,3,none⟩=some (.slice a f.code.length c)):=fun wx hx=>by
   have hb:=(hx.block H (heap_lt0 HB.out) (fun e=>e)).trans HB.out
   exact⟨by rw[cell_of0 hb];rfl,by rw[cell_of0 hb];rfl,by rw[cell_of0 hb];rfl,by rw[cell_of0 hb];rfl⟩
  obtain⟨s0,s1,s2,s3⟩:=HS.out wb (Fr.refl _ wb)
  go_upto_region 3 with fail
  go_cut [2] (fun x2 wx=>x2=vI (wrap64 (cellX f.R f.V+(newsX f.code:Nat)))∧Hd (Fr (fun _=>False) wb wx))
  case first =>
   go_region_with ((
    first
     |(go_at_call 124
       first
        |(refine(show Calls Tryz.prog 124 #[.agg #[vI f.P,vI f.R,vI f.V,.slice a f.code.length c]] wb.drew _ from firstCell_any f.P f.R f.V a _ c wb.drew).mono ?_
          rintro e w3 ⟨rfl,hw3⟩
          have HF3:Hd (Fr (fun _=>False) wb w3):=by unfold Hd;rw[hw3];exact Fr.alloc (Fr.drew (Fr.refl _ wb)) _
          obtain⟨s0,s1,s2,s3⟩:=HS.out w3 HF3.out
          clear hw3)
        |(refine(show Calls Tryz.prog 124 #[.agg #[vI f.P,vI f.R,vI f.V,.slice a f.code.length c]] w4 _ from firstCell_any f.P f.R f.V a _ c w4).mono ?_
          rintro e w3 ⟨rfl,hw3⟩
          have HF3:Hd (Fr (fun _=>False) wb w3):=by unfold Hd;rw[hw3];exact HF4.out.alloc _
          obtain⟨s0,s1,s2,s3⟩:=HS.out w3 HF3.out
          clear hw3))
     |(go_at_call 167
       first
        |(refine(show Calls Tryz.prog 167 #[.slice a f.code.length c] wb.drew _ from news_any _ f.code wb.drew (HC.out.stay (Fr.drew (Fr.refl _ wb))) hn).mono ?_
          rintro e w4 ⟨rfl,hF4⟩
          have HF4:Hd (Fr (fun _=>False) wb w4):=(Fr.drew (Fr.refl _ wb)).trans hF4
          obtain⟨s0,s1,s2,s3⟩:=HS.out w4 HF4.out
          clear hF4)
        |(refine(show Calls Tryz.prog 167 #[.slice a f.code.length c] w3 _ from news_any _ f.code w3 (HC.out.stay HF3.out) hn).mono ?_
          rintro e w4 ⟨rfl,hF4⟩
          have HF4:Hd (Fr (fun _=>False) wb w4):=HF3.out.trans hF4
          obtain⟨s0,s1,s2,s3⟩:=HS.out w4 HF4.out
          clear hF4))))
   all_goals
    go_wp2_with fail
    go_meet
    first
     | exact⟨i64w _,HF4.out⟩
     | exact⟨i64w _,HF3.out⟩
     | exact⟨rfl,HF4.out⟩
     | exact⟨rfl,HF3.out⟩
  case rest =>
   obtain⟨rfl,HFx⟩:=hcut
   go_wp2_with fail
   go_ret
   exact⟨by rw[HX.out];rfl,HF.out.trans HFx.out⟩
 ·have d0:decide (0≤f.R∧0≤f.V)=false:=by simpa using hnm
  rw[d0]
  have HX:Hd (flocX f.R f.V f.code=0):=if_neg hnm
  clear d0 hnm
  go_wp2_with fail
  go_ret
  exact⟨by rw[HX.out];rfl,HF.out⟩
end Go.Proofs.YtdkijecnnmncnaaGreatDoor
namespace Go.Proofs.YtdkijecnnmncnaaGreatDoor
open Go.RowKit Go.Shelf
def locN (f:PF):Nat:=(1+f.R+f.V).toNat+newsX f.code
theorem edg_edr {fs:List PF}{ss:List PS}{f:PF}(hf:FunR fs f)(ht:toldX fs ss f.code=true)(hls:ss.length=fs.length):EdR (locN f) f.R.toNat (edgX ss f):=by
 have hR:=hf.R
 have hV:=hf.V
 have hl:=hf.len
 have hn:=newsX_le f.code
 refine⟨by unfold locN;omega,by unfold locN;omega,fun x hx=>?_⟩
 have h:=(edg_all hf ht hls).1 x hx
 have e1:=h.s1
 have e2:=h.s2
 have e3:=h.d1
 have e4:=h.d2
 have e5:=h.k1
 have e6:=h.k2
 refine⟨⟨⟨e3,?_⟩,⟨?_,?_⟩,?_⟩,?_⟩
 ·unfold locN;omega
 ·omega
 ·unfold locN;omega
 ·simp[flowsX,e5,e6]
 ·omega
theorem floc_is {fs:List PF}{f:PF}(hf:FunR fs f):flocX f.R f.V f.code=(locN f:Nat):=by
 have hR:=hf.R
 have hV:=hf.V
 have hl:=hf.len
 have hn:=newsX_le f.code
 unfold flocX locN
 rw[if_pos ⟨hR.1,hV.1⟩,cellX_is hR hV]
 unfold wrap64
 omega
def sumX (P R V:Int)(y:Nat→Int)(z:Nat→Nat→Int):PS :=
 ⟨(List.range P.toNat).map fun(i:Nat)=>max (y (varX R V i).toNat) 0,(List.range P.toNat).map fun(i:Nat)=>(List.range R.toNat).map fun(j:Nat)=>max (z j (varX R V i).toNat) 0⟩
theorem sumX_same {P R V:Int}{y y':Nat→Int}{z z':Nat→Nat→Int}{n:Nat}(hv:∀ i:Nat,(i:Int)<P→(varX R V i).toNat<n)(h1:∀ l,l<n→y l=y' l)(h2:∀ j,j<R.toNat→∀ l,l<n→z j l=z' j l):sumX P R V y z=sumX P R V y' z':=by
 unfold sumX
 congr 1
 ·refine List.map_congr_left fun i hi=>?_
  have:=List.mem_range.1 hi
  rw[h1 _ (hv i (by omega))]
 ·refine List.map_congr_left fun i hi=>?_
  have:=List.mem_range.1 hi
  refine List.map_congr_left fun j hj=>?_
  rw[h2 j (List.mem_range.1 hj) _ (hv i (by omega))]
theorem var_loc {fs:List PF}{f:PF}(hf:FunR fs f)(hPV:f.P≤f.V)(i:Nat)(hi:(i:Int)<f.P):(varX f.R f.V i).toNat<locN f:=by
 have hR:=hf.R
 have hV:=hf.V
 rw[varX_is hR hV ⟨by omega,by omega⟩]
 unfold locN
 omega
end Go.Proofs.YtdkijecnnmncnaaGreatDoor
