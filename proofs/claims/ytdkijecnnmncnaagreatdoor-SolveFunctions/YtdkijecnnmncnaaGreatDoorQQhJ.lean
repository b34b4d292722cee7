import Derived.Test.YtdkijecnnmncnaaGreatDoorQQ4J
import Derived.Deep.RegionHeld3
import Derived.Sort.QuietThIn
set_option linter.unusedVariables false
set_option linter.unusedSimpArgs false
namespace Go.Proofs.YtdkijecnnmncnaaGreatDoor
open Go.RowKit (wrap32 wrap64)
set_option maxRecDepth 100000
set_option maxHeartbeats 4000000
theorem alloc2 (w:World)(o p:Obj):((w.alloc o).alloc p).heap[w.heap.size]?=some o∧((w.alloc o).alloc p).heap[w.heap.size+1]?=some p:=by
 constructor
 ·rw[Go.RowKit.Below.heap_alloc _ _ _ (by simp)];exact heap_new0 w _
 ·have:=heap_new0 (w.alloc o) p
  rw[World.size_alloc] at this
  exact this
theorem alloc3 (w:World)(o p q:Obj):(((w.alloc o).alloc p).alloc q).heap[w.heap.size]?=some o∧(((w.alloc o).alloc p).alloc q).heap[w.heap.size+1]?=some p∧(((w.alloc o).alloc p).alloc q).heap[w.heap.size+2]?=some q:=by
 have f:Fr (fun _=>False) ((w.alloc o).alloc p) (((w.alloc o).alloc p).alloc q):=Fr.alloc (Fr.refl _ _) q
 obtain⟨h1,h2⟩:=alloc2 w o p
 refine⟨(f.block _ (heap_lt0 h1) (fun e=>e)).trans h1,(f.block _ (heap_lt0 h2) (fun e=>e)).trans h2,?_⟩
 have:=heap_new0 ((w.alloc o).alloc p) q
 rw[World.size_alloc,World.size_alloc] at this
 exact this
theorem given_one (n0:Nat)(P R V:Int)(ca:Option Addr)(cn cc:Nat)(sa:Option Addr)(sn sc:Nat)(iv:IV)(op:Nat)(ho:op<18)(hop:iv.op=op)(hr:(rowX op).1=1)(cell:Int)(w:World)(h0:0<n0)(hn0:n0≤w.heap.size)(hT:RowsA w) :
 Given n0 (.agg #[vI P,vI R,vI V,.slice ca cn cc,.slice sa sn sc]) iv.val cell [(endX R V (rowX op).2.1 iv.r iv.s cell,endX R V (rowX op).2.2.1 iv.r iv.s cell,(rowX op).2.2.2)] w:=by
 intro W hK
 obtain⟨t0,t1,t2,t3⟩:=(hT.kept hK h0) op ho
 rw[hr] at t0
 obtain⟨op',r,s,t,n,aa,an,ac,ra,rn,rc⟩:=iv
 have hop:op'=(op:Int):=hop
 subst hop
 have ho0:(0:Int)≤op:=by omega
 have ho1:(op:Int)<18:=by omega
 have hWp:0<W.heap.size:=Nat.lt_of_lt_of_le h0 (Nat.le_trans hn0 hK.below.size)
 generalize (rowX op).2.1=a1 at *
 generalize (rowX op).2.2.1=a2 at *
 generalize (rowX op).2.2.2=a3 at *
 clear hT hK hr hn0 h0
 obtain⟨wa,hwa⟩:∃ wa,wa=((W.alloc (.cells #[vI P,vI R,vI V,.slice ca cn cc,.slice sa sn sc] 138)).alloc (.cells #[vI op,vI r,vI s,vI t,vI n,.slice aa an ac,.slice ra rn rc] 79)).alloc (.cells #[vI 1,vI a1,vI a2,vI a3] 209):=⟨_,rfl⟩
 have hF:Fr (fun _=>False) W wa:=by rw[hwa];exact Fr.alloc (Fr.alloc (Fr.alloc (Fr.refl _ W) _) _) _
 obtain⟨b0,b1,b2⟩:=alloc3 W (.cells #[vI P,vI R,vI V,.slice ca cn cc,.slice sa sn sc] 138) (.cells #[vI op,vI r,vI s,vI t,vI n,.slice aa an ac,.slice ra rn rc] 79) (.cells #[vI 1,vI a1,vI a2,vI a3] 209)
 rw[← hwa] at b0 b1 b2
 have HWA:Hd (wa=((W.alloc (.cells #[vI P,vI R,vI V,.slice ca cn cc,.slice sa sn sc] 138)).alloc (.cells #[vI op,vI r,vI s,vI t,vI n,.slice aa an ac,.slice ra rn rc] 79)).alloc (.cells #[vI 1,vI a1,vI a2,vI a3] 209)):=hwa
 obtain⟨H,hH⟩:∃ H,H=W.heap.size:=⟨_,rfl⟩
 have HH:Hd (H=W.heap.size):=hH
 rw[← hH] at b0 b1 b2
 have HF:Hd (Fr (fun _=>False) W wa):=hF
 have HS:Hd (∀ wx,Fr (fun _=>False) wa wx→wx.heap[H]?=some (.cells #[vI P,vI R,vI V,.slice ca cn cc,.slice sa sn sc] 138)∧wx.heap[H+1]?=some (.cells #[vI op,vI r,vI s,vI t,vI n,.slice aa an ac,.slice ra rn rc] 79)∧wx.heap[H+2]?=some (.cells #[vI 1,vI a1,vI a2,vI a3] 209)):=fun wx hx =>
  ⟨(hx.block _ (heap_lt0 b0) (fun e=>e)).trans b0,(hx.block _ (heap_lt0 b1) (fun e=>e)).trans b1,(hx.block _ (heap_lt0 b2) (fun e=>e)).trans b2⟩
 have HT:Hd (∀ wx,Fr (fun _=>False) wa wx→(wx.cell? ⟨H,0,none⟩=some (vI P)∧wx.cell? ⟨H,1,none⟩=some (vI R)∧wx.cell? ⟨H,2,none⟩=some (vI V)∧wx.cell? ⟨H,3,none⟩=some (.slice ca cn cc)∧wx.cell? ⟨H,4,none⟩=some (.slice sa sn sc)) ∧
  (wx.cell? ⟨H+1,0,none⟩=some (vI op)∧wx.cell? ⟨H+1,1,none⟩=some (vI r)∧wx.cell? ⟨H+1,2,none⟩=some (vI s)∧wx.cell? ⟨H+1,3,none⟩=some (vI t)∧wx.cell? ⟨H+1,4,none⟩=some (vI n)∧wx.cell? ⟨H+1,5,none⟩=some (.slice aa an ac)∧wx.cell? ⟨H+1,6,none⟩=some (.slice ra rn rc)) ∧
  (wx.cell? ⟨H+2,0,none⟩=some (vI 1)∧wx.cell? ⟨H+2,1,none⟩=some (vI a1)∧wx.cell? ⟨H+2,2,none⟩=some (vI a2)∧wx.cell? ⟨H+2,3,none⟩=some (vI a3))):=fun wx hx=>by
  obtain⟨q0,q1,q2⟩:=HS.out wx hx
  refine⟨⟨?_,?_,?_,?_,?_⟩,⟨?_,?_,?_,?_,?_,?_,?_⟩,⟨?_,?_,?_,?_⟩⟩<;>first | (rw[cell_of0 q0];rfl) | (rw[cell_of0 q1];rfl) | (rw[cell_of0 q2];rfl)
 clear hwa hF b0 b1 b2 hH HS
 go_enter Tryz.func125,Tryz.ntmps125
 go_upto_region 2 with fail
 rw[← HWA.out,← HH.out]
 clear HWA HH t0 t1 t2 t3 hWp
 obtain⟨⟨p0,p1,p2,p3,p4⟩,⟨i0,i1,i2,i3,i4,i5,i6⟩,⟨r0,r1,r2,r3⟩⟩:=HT.out wa (Fr.refl _ wa)
 go_upto_region 4 with fail
 go_cut [6] (fun x2 wx=>∃ Ba,x2 = .func (.func 191) #[] #[.pointer (some ⟨Ba,0,none⟩)]∧Hd (Fr (fun _=>False) wa wx)∧Hd (wx.heap[Ba]?=some (.cells #[vI (endX R V a1 r s cell),vI (endX R V a2 r s cell),vI a3] 140)))
 case first =>
  go_region_held3 (fun w'=>w'.cell? ⟨H,0,none⟩=some (vI P)∧w'.cell? ⟨H,1,none⟩=some (vI R)∧w'.cell? ⟨H,2,none⟩=some (vI V)∧w'.cell? ⟨H,3,none⟩=some (.slice ca cn cc)∧w'.cell? ⟨H,4,none⟩=some (.slice sa sn sc)∧w'.cell? ⟨H+1,0,none⟩=some (vI op)∧w'.cell? ⟨H+1,1,none⟩=some (vI r)∧w'.cell? ⟨H+1,2,none⟩=some (vI s)∧w'.cell? ⟨H+1,3,none⟩=some (vI t)∧w'.cell? ⟨H+1,4,none⟩=some (vI n)∧w'.cell? ⟨H+1,5,none⟩=some (.slice aa an ac)∧w'.cell? ⟨H+1,6,none⟩=some (.slice ra rn rc)∧w'.cell? ⟨H+2,1,none⟩=some (vI a1)∧w'.cell? ⟨H+2,2,none⟩=some (vI a2)∧w'.cell? ⟨H+2,3,none⟩=some (vI a3)) (go_keep) ((
   first
    |(go_at_call 155
      refine(end_any P R V ca cn cc sa sn sc ⟨op,r,s,t,n,aa,an,ac,ra,rn,rc⟩ _ cell _).mono ?_
      rintro e w3 ⟨rfl,hFx⟩
      have HF3:Hd (Fr (fun _=>False) wa w3):=Fr.trans (by first | exact HF3.out | exact Fr.drew (Fr.refl _ wa)) hFx
      obtain⟨⟨p0,p1,p2,p3,p4⟩,⟨i0,i1,i2,i3,i4,i5,i6⟩,⟨r0,r1,r2,r3⟩⟩:=HT.out w3 HF3.out
      clear hFx)
    |(go_at_call 154
      refine(only_any (endX R V a1 r s cell,endX R V a2 r s cell,a3) _).mono ?_
      rintro e wo ⟨rfl,hwo⟩
      have HFo:Hd (Fr (fun _=>False) wa wo):=by unfold Hd;rw[hwo];exact HF3.out.alloc _
      have HBo:Hd (wo.heap[w3.heap.size]?=some (.cells #[vI (endX R V a1 r s cell),vI (endX R V a2 r s cell),vI a3] 140)):=by unfold Hd;rw[hwo];exact heap_new0 w3 _
      obtain⟨⟨p0,p1,p2,p3,p4⟩,⟨i0,i1,i2,i3,i4,i5,i6⟩,⟨r0,r1,r2,r3⟩⟩:=HT.out wo HFo.out
      clear hwo)))
  all_goals
   go_wp2_with fail
   go_meet
   exact⟨_,rfl,HFo.out,HBo.out⟩
 case rest =>
  obtain⟨Ba,rfl,HFx,HBx⟩:=hcut
  go_wp2_with fail
  go_ret
  refine⟨191,_,rfl,enters_of Tryz.func191 (by kernel_rfl) rfl,HF.out.trans HFx.out,fun n=>?_⟩
  exact only_gives n n0 Ba (endX R V a1 r s cell,endX R V a2 r s cell,a3) _ HBx.out
end Go.Proofs.YtdkijecnnmncnaaGreatDoor
namespace Go.Proofs.YtdkijecnnmncnaaGreatDoor
open Go.RowKit Go.Shelf
def IB (n0:Nat)(w:World)(v:Value)(l:List Int):Prop:=∃ a c,v = .slice a l.length c∧(l≠[]→∃ k o,a=some ⟨k,o,none⟩∧k<n0∧∀ j (h:j<l.length),w.cell? ⟨k,o+j,none⟩=some (vI l[j]))
theorem IB.kept {n0:Nat}{w W:World}{v:Value}{l:List Int}(h:IB n0 w v l)(k:Below n0 w W):IB n0 W v l:=by
 obtain⟨a,c,e,h⟩:=h
 refine⟨a,c,e,fun hne=>?_⟩
 obtain⟨b,o,ea,hb,hc⟩:=h hne
 exact⟨b,o,ea,hb,fun j hj=>(k.cell (p:=⟨b,o+j,none⟩) hb).trans (hc j hj)⟩
def LB (n0:Nat)(w:World)(v:Value)(ls:List (List Int)):Prop:=∃ a c,v = .slice a ls.length c∧(ls≠[]→∃ k o,a=some ⟨k,o,none⟩∧k<n0∧∀ j (h:j<ls.length),∃ x,w.cell? ⟨k,o+j,none⟩=some x∧IB n0 w x ls[j])
theorem LB.kept {n0:Nat}{w W:World}{v:Value}{ls:List (List Int)}(h:LB n0 w v ls)(k:Below n0 w W):LB n0 W v ls:=by
 obtain⟨a,c,e,h⟩:=h
 refine⟨a,c,e,fun hne=>?_⟩
 obtain⟨b,o,ea,hb,hc⟩:=h hne
 refine⟨b,o,ea,hb,fun j hj=>?_⟩
 obtain⟨x,hx,hi⟩:=hc j hj
 exact⟨x,(k.cell (p:=⟨b,o+j,none⟩) hb).trans hx,hi.kept k⟩
theorem IB.at {n0:Nat}{w:World}{v:Value}{l:List Int}(h:IB n0 w v l){j:Nat}(hj:j<l.length):∃ k o c,v = .slice (some ⟨k,o,none⟩) l.length c∧k<n0∧w.cell? ⟨k,o+j,none⟩=some (vI l[j]):=by
 obtain⟨a,c,e,h⟩:=h
 obtain⟨k,o,rfl,hk,hc⟩:=h (by intro e;simp[e] at hj)
 exact⟨k,o,c,e,hk,hc j hj⟩
theorem LB.at {n0:Nat}{w:World}{v:Value}{ls:List (List Int)}(h:LB n0 w v ls){j:Nat}(hj:j<ls.length):∃ k o c x,v = .slice (some ⟨k,o,none⟩) ls.length c∧k<n0∧w.cell? ⟨k,o+j,none⟩=some x∧IB n0 w x ls[j]:=by
 obtain⟨a,c,e,h⟩:=h
 obtain⟨k,o,rfl,hk,hc⟩:=h (by intro e;simp[e] at hj)
 obtain⟨x,hx,hi⟩:=hc j hj
 exact⟨k,o,c,x,e,hk,hx,hi⟩
def hE (R V a d:Int):List Ed:=if d=9 then [] else [(0,varX R V a,d)]
def rE (R V a b d:Int):List Ed:=if d=9 then [] else [(varX R V b,varX R V a,d)]
def gE (R V a:Int)(rets l:List Int)(j:Nat):List Ed:=(List.range j).flatMap fun i=>rE R V a (rets[i]?.getD 0) (l[i]?.getD 0)
def oneE (R V:Int)(args rets hs:List Int)(res:List (List Int))(i:Nat):List Ed:=hE R V (args[i]?.getD 0) (hs[i]?.getD 0)++gE R V (args[i]?.getD 0) rets (res[i]?.getD []) (res[i]?.getD []).length
def callT (R V:Int)(args rets hs:List Int)(res:List (List Int))(k:Nat):List Ed:=(List.range k).flatMap (oneE R V args rets hs res)
theorem flat_succ {α:Type}(f:Nat→List α)(k:Nat):(List.range (k+1)).flatMap f=(List.range k).flatMap f++f k:=by
 rw[List.range_succ,List.flatMap_append];simp
theorem flat_mono {α:Type}(f:Nat→List α){a b:Nat}(h:a≤b):((List.range a).flatMap f).length≤((List.range b).flatMap f).length:=by
 induction b with
 | zero => obtain rfl:a=0:=by omega
           exact Nat.le_refl _
 | succ b ih =>
   rcases Nat.lt_or_ge a (b+1) with h1 | h1
   ·rw[flat_succ,List.length_append];have:=ih (by omega);omega
   ·obtain rfl:a=b+1:=by omega
    exact Nat.le_refl _
theorem callT_len {R V:Int}{args rets hs:List Int}{res:List (List Int)}{k n:Nat}(h:k<n):(callT R V args rets hs res k).length+(oneE R V args rets hs res k).length≤(callT R V args rets hs res n).length:=by
 have:=flat_mono (oneE R V args rets hs res) (show k+1≤n from h)
 rw[flat_succ,List.length_append] at this
 exact this
theorem gE_succ (R V a:Int)(rets l:List Int)(j:Nat):gE R V a rets l (j+1)=gE R V a rets l j++rE R V a (rets[j]?.getD 0) (l[j]?.getD 0):=flat_succ _ _
theorem gE_len {R V a:Int}{rets l:List Int}{j:Nat}(h:j<l.length):(gE R V a rets l j).length+(rE R V a (rets[j]?.getD 0) (l[j]?.getD 0)).length≤(gE R V a rets l l.length).length:=by
 have:=flat_mono (fun i=>rE R V a (rets[i]?.getD 0) (l[i]?.getD 0)) (show j+1≤l.length from h)
 rw[flat_succ,List.length_append] at this
 exact this
end Go.Proofs.YtdkijecnnmncnaaGreatDoor
namespace Go.Proofs.YtdkijecnnmncnaaGreatDoor
open Go Go.RowKit
variable {F:Fence} {n:Nat} {P:Program} {ops:Array Oper} {md:Region.Mode} {C:World→Prop}
def ClosedL (md:Region.Mode)(ops:Array Oper)(listed:Array Bool):Prop:=∀ k ok,ops[k]?=some ok→listed.getD k false=true→∀ e∈ok.after,Region.binds md e=true→listed.getD e.on false=true
theorem ClosedL.step {listed:Array Bool}(h:ClosedL md ops listed){i:Nat}(hi:i∈Region.ready md ops listed):ClosedL md ops (listed.setIfInBounds i true):=fun k ok hk hl e he hb=>by
 apply getD_set_true
 by_cases hki:i=k
 ·subst hki
  obtain⟨-,o,ho,hall⟩:=mem_ready.1 hi
  rw[hk] at ho
  cases ho
  exact hall e he hb
 ·rw[getD_set_ne false hki] at hl
  exact h k ok hk hl e he hb
def chainB (md:Region.Mode)(ops:Array Oper)(y:Nat):Bool:=(List.range y).all fun i=>(List.range (y+1)).any fun s=>decide (i<s)&&((ops[s]?).map (·.after.any fun e=>Region.binds md e&&e.on==i)).getD false
theorem all_listed {y:Nat}(hc:chainB md ops y=true){listed:Array Bool}(h:ClosedL md ops listed)(hy:y∈Region.ready md ops listed):∀ (m i:Nat),y-i≤m→i<y→listed.getD i false=true:=by
 intro m
 induction m with
 | zero=>intro i h1 h2;omega
 | succ m ih =>
   intro i h1 h2
   have h3:=List.all_eq_true.1 hc i (List.mem_range.2 h2)
   obtain⟨s,hs,h4⟩:=List.any_eq_true.1 h3
   simp only[Bool.and_eq_true,decide_eq_true_eq] at h4
   obtain⟨h5,h6⟩:=h4
   have hsy:s≤y:=by have:=List.mem_range.1 hs;omega
   cases ho:ops[s]? with
   | none=>rw[ho] at h6;simp at h6
   | some os =>
     rw[ho] at h6
     simp only[Option.map_some,Option.getD_some,Array.any_eq_true] at h6
     obtain⟨q,hq,h7⟩:=h6
     simp only[Bool.and_eq_true,beq_iff_eq] at h7
     obtain⟨hb,he⟩:=h7
     by_cases e:s=y
     ·subst e
      obtain⟨-,o,ho',hall⟩:=mem_ready.1 hy
      rw[ho] at ho'
      cases ho'
      rw[← he]
      exact hall _ (Array.getElem_mem hq) hb
     ·have:=ih s (by omega) (by omega)
      rw[← he]
      exact h s os ho this _ (Array.getElem_mem hq) hb
def wpAnyT (F:Fence)(n:Nat)(P:Program)(md:Region.Mode)(ops:Array Oper)(C:World→Prop)(T:Nat→Array Bool→Act→Prop):Nat→Array Bool→Act→Prop
 | 0,listed,a=>T 0 listed a
 | fuel+1,listed,a=>T (fuel+1) listed a∨(Region.ready md ops listed≠[]∧∀ i∈Region.ready md ops listed,qOpIn F n P ops C i (wpAnyT F n P md ops C T fuel (listed.setIfInBounds i true)) a)
theorem wpAnyIn_of_T {T:Nat→Array Bool→Act→Prop}{Q':Exit→Act→World→Prop}(hro:F.round=none)(hT:∀ fuel listed a,T fuel listed a→∀ w,C w→wpAnyIn F n P md ops Q' fuel listed a w):∀ (fuel:Nat) (listed:Array Bool) (a:Act) (w:World),C w →
 wpAnyT F n P md ops C T fuel listed a→wpAnyIn F n P md ops Q' fuel listed a w
 | 0,_,_,w,hw,h=>hT _ _ _ h w hw
 | fuel+1,_,_,w,hw,h=>by
   rcases h with h | ⟨h0,h⟩
   ·exact hT _ _ _ h w hw
   ·exact⟨fun e=>absurd e h0,fun i hi=>wpOpIn_of_qOpIn hro hw (fun a' w' hw'=>wpAnyIn_of_T hro hT fuel _ a' w' hw') (h i hi)⟩
theorem wpAnyT_first {T:Nat→Array Bool→Act→Prop}{y i:Nat}{oi:Oper}{v:Value}(hi:ops[i]?=some oi)(hiy:i<y)(hsel:∀ (j:Nat) (o:Oper) cs b,ops[j]?=some o→o.op≠.select cs b)(hc:chainB md ops y=true)(hT:∀ fuel listed a,T fuel listed a→Region.ready md ops listed=[y]) :
 ∀ (fuel:Nat) (listed:Array Bool) (a:Act),ClosedL md ops listed →
  (∀ j oj,ops[j]?=some oj→j≠i→listed.getD j true=false→(∀ e∈oj.after,Region.binds md e=true→e.on≠i)→oi.apart ops oj=true) →
  i∈Region.ready md ops listed→YieldsQuiet F n P ops C oi v a →
  wpAnyT F n P md ops C T fuel (listed.setIfInBounds i true) (a.put oi.dst v)→wpAnyT F n P md ops C T (fuel+1) listed a:=by
 have key:∀ (listed:Array Bool) (j:Nat),ClosedL md ops listed→i∈Region.ready md ops listed→j∈Region.ready md ops listed→j≠i→Region.ready md ops (listed.setIfInBounds i true)=[y]→False:=fun listed j hcl hr hj hji hy=>by
  have h1:=ready_mono hj hji
  rw[hy] at h1
  obtain rfl:j=y:=by simpa using h1
  have h2:=all_listed hc hcl hj _ i (Nat.le_refl _) hiy
  have h3:=(mem_ready.1 hr).1
  rcases Nat.lt_or_ge i listed.size with h' | h'
  ·simp[h'] at h2 h3;rw[h3] at h2;cases h2
  ·simp[Array.getElem?_eq_none h'] at h2
 intro fuel
 induction fuel with
 | zero =>
   intro listed a hcl _ hr hy H
   refine Or.inr ⟨fun h=>(by rw[h] at hr;cases hr),fun j hj=>?_⟩
   by_cases hji:j=i
   ·subst hji;exact hy.qOpIn hi H
   ·exact(key listed j hcl hr hj hji (hT _ _ _ H)).elim
 | succ fuel ih =>
   intro listed a hcl hfree hr hy H
   refine Or.inr ⟨fun h=>(by rw[h] at hr;cases hr),fun j hj=>?_⟩
   by_cases hji:j=i
   ·subst hji;exact hy.qOpIn hi H
   ·rcases H with H | ⟨-,H⟩
    ·exact(key listed j hcl hr hj hji (hT _ _ _ H)).elim
    ·have h1:=H j (ready_mono hj hji)
     obtain⟨hjun,oj,hoj,hall⟩:=mem_ready.1 hj
     have hnot:∀ e∈oj.after,Region.binds md e=true→e.on≠i:=fun e he hb heq=>by
      have h1:=hall e he hb
      have h0:=(mem_ready.1 hr).1
      rw[heq] at h1
      rcases Nat.lt_or_ge i listed.size with h' | h'
      ·simp[h'] at h0 h1;rw[h0] at h1;cases h1
      ·simp[Array.getElem?_eq_none h'] at h1
     have h2:=qOpIn_put hoj (hfree j oj hoj hji hjun hnot) (fun cs b=>hsel i oi cs b hi) (fun cs b=>hsel j oj cs b hoj) hy h1
     have hfree':∀ k ok,ops[k]?=some ok→k≠i→(listed.setIfInBounds j true).getD k true=false →
      (∀ e∈ok.after,Region.binds md e=true→e.on≠i)→oi.apart ops ok=true:=fun k ok hk hki hun hno=>by
      refine hfree k ok hk hki ?_ hno
      by_cases hjk:j=k
      ·subst hjk;exact hjun
      ·rw[getD_set_ne true hjk] at hun;exact hun
     refine qOpIn_mono (fun a' h3=>ih (listed.setIfInBounds j true) a' (hcl.step hj) hfree' (ready_mono hr (Ne.symm hji)) h3.1 ?_) h2
     rw[Array.setIfInBounds_comm _ _ hji]
     exact h3.2
def listedAfter : Nat→Nat→Array Bool→Array Bool
 | 0,_,l=>l
 | m+1,k,l=>listedAfter m (k+1) (l.setIfInBounds k true)
def lexP (md:Region.Mode)(ops:Array Oper):Nat→Nat→Array Bool→Bool
 | 0,_,_=>true
 | m+1,k,listed=>(Region.ready md ops listed).contains k&&Region.free md ops listed k&&lexP md ops m (k+1) (listed.setIfInBounds k true)
theorem wpAnyT_lex {T:Nat→Array Bool→Act→Prop}{Q:Act→Prop}{y f0:Nat}(hs:Region.noSelect ops=true)(hc:chainB md ops y=true)(hT:∀ fuel listed a,T fuel listed a→Region.ready md ops listed=[y]):∀ (l:List Oper) (k:Nat) (listed:Array Bool) (a:Act),(∀ j,j<l.length→l[j]?=ops[k+j]?)→k+l.length=y→ClosedL md ops listed →
 lexP md ops l.length k listed=true→(∀ a,Q a→T f0 (listedAfter l.length k listed) a)→wpQuietIn F n P ops C Q l a→wpAnyT F n P md ops C T (l.length+f0) listed a
 | [],_,listed,a,_,_,_,_,hQ,h=>by
   have h1:T f0 listed a:=hQ a h
   simp only[List.length_nil,Nat.zero_add]
   cases f0 with
   | zero=>exact h1
   | succ f=>exact Or.inl h1
 | o::l,k,listed,a,hl,hk,hcl,hB,hQ,h=>by
   have h0:ops[k]?=some o:=by simpa using (hl 0 (by simp)).symm
   simp only[List.length_cons,lexP,Bool.and_eq_true] at hB
   obtain⟨⟨hr,hf⟩,hB'⟩:=hB
   have hst:qOpIn F n P ops C k (wpQuietIn F n P ops C Q l) a:=by unfold qOpIn;simp only[h0];exact h
   obtain⟨v,hy,hK⟩:=yieldsQuiet_of_qOpIn h0 hst
   have hr':k∈Region.ready md ops listed:=by simpa using hr
   have:=wpAnyT_lex hs hc hT l (k+1) (listed.setIfInBounds k true) (a.put o.dst v) (fun j hj=>by have:=hl (j+1) (by simp;omega);simpa[Nat.add_assoc,Nat.add_comm 1 j] using this) (by simp at hk;omega) (hcl.step hr') hB' hQ hK
   have e:(o::l).length+f0=l.length+f0+1:=by simp;omega
   rw[e]
   exact wpAnyT_first h0 (by simp at hk;omega) (Region.noSelect_spec hs) hc hT (l.length+f0) listed a hcl (Region.free_spec h0 hf) hr' hy this
theorem nothing_listed (m k:Nat):(Array.replicate m false).getD k false=false:=by
 simp only[Array.getD_eq_getD_getElem?,Array.getElem?_replicate]
 split<;>rfl
theorem wpIn_region_tail {id y:Nat}{Q:Exit→Act→World→Prop}{a:Act}{w:World}{l:List Oper}(hro:F.round=none)(hm:P.follows .mixedOrders=true)(hs:Region.noSelect l.toArray=true)(hc:chainB .any l.toArray y=true)(hy:y≤l.length)
 (hB:lexP .any l.toArray y 0 (Array.replicate l.length false)=true) (hr:Region.ready .any l.toArray (listedAfter y 0 (Array.replicate l.length false))=[y]) (hC:C { w with drawn:=w.drawn+1 })
 (h:wpQuietIn F n P l.toArray C (fun a'=>∀ w',C w'→wpAnyIn F n P .any l.toArray Q (l.length-y) (listedAfter y 0 (Array.replicate l.length false)) a' w') (l.take y) a):(Code.region id l.toArray true).wpIn F n P Q a w:=by
 have hlt:(l.take y).length=y:=by rw[List.length_take];omega
 refine wpIn_region_any hm (wpAnyIn_of_T (T:=fun fuel listed a'=>Region.ready .any l.toArray listed=[y]∧∀ w',C w'→wpAnyIn F n P .any l.toArray Q fuel listed a' w') hro (fun _ _ _ h w' hw'=>h.2 w' hw') _ _ _ _ hC ?_)
 have:=wpAnyT_lex (F:=F) (n:=n) (P:=P) (C:=C) (md:=.any) (ops:=l.toArray) (f0:=l.length-y) (T:=fun fuel listed a'=>Region.ready .any l.toArray listed=[y]∧∀ w',C w'→wpAnyIn F n P .any l.toArray Q fuel listed a' w') hs hc (fun _ _ _ h=>h.1) (l.take y) 0 (Array.replicate l.length false) a (fun j hj=>by rw[hlt] at hj;simp[List.getElem?_take,hj]) (by omega) (fun k ok _ hl=>by rw[nothing_listed] at hl;cases hl) (by rw[hlt];exact hB) (fun a' h'=>by rw[hlt];exact⟨hr,h'⟩) h
 rw[hlt] at this
 have e:y+(l.length-y)=l.length:=by omega
 rw[e] at this
 simpa using this
theorem wpAnyIn_only {Q:Exit→Act→World→Prop}{fuel k:Nat}{listed:Array Bool}{a:Act}{w:World}{o:Oper}(hr:Region.ready md ops listed=[k])(ho:ops[k]?=some o)(hw:Region.wanted o (yielded ops a.tmps)=true)(h:o.wpIn F n P a w (wpAnyIn F n P md ops Q fuel (listed.setIfInBounds k true)) Q):wpAnyIn F n P md ops Q (fuel+1) listed a w:=by
 refine⟨fun e=>(by rw[hr] at e;cases e),fun i hi=>?_⟩
 rw[hr] at hi
 obtain rfl:i=k:=by simpa using hi
 unfold wpOpIn
 simp only[ho,hw,if_true]
 exact h
theorem wpAnyIn_end {Q:Exit→Act→World→Prop}{listed:Array Bool}{a:Act}{w:World}(hr:Region.ready md ops listed=[])(h:Q .normal a w):wpAnyIn F n P md ops Q 0 listed a w:=⟨hr,h⟩
end Go.Proofs.YtdkijecnnmncnaaGreatDoor
