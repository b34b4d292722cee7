import Derived.Test.YtingenonbkencaaDoorQRtJ
set_option linter.unusedVariables false
set_option linter.unusedSimpArgs false
namespace Go.Proofs.YtingenonbkencaaDoor
open Go.RowKit (wrap32 wrap64)
set_option maxRecDepth 100000
set_option maxHeartbeats 4000000
def varsE (V:Int):List Int→Int→Int
 | [],E=>E
 | v::r,E=>varsE V r (mustE (varB V v) 13 E)
def listE (m V:Int)(l:List Int)(E:Int):Int:=if E=0 then varsE V l (mustE ((l.length:Int)==m) 15 E) else E
theorem rlist_A (rb:Nat)(G:Int)(fv:Value)(w:World)(L E:Int)(h:RW rb G fv w L E)(P R V:Int)(a:Option Addr)(fl c:Nat)(op zr zs zt zn:Int)(aa ra:Option Addr)(ca cr:Nat)(lr:Nat)(l:List Int)(hll:l.length≤1000000000000000)(m:Int)
 (hIL:l≠[]→∃ k o,aa=some ⟨k,o,none⟩∧k<w.heap.size∧k≠rb∧∀ j (h:j<l.length),w.cell? ⟨k,o+j,none⟩=some (vI l[j]))
 (hw:E=0→∀ w',Fr (fun _=>False) w w'→Calls Tryd.prog 97 #[.pointer (some ⟨rb,0,none⟩),.int .u8 65,.agg #[vI P,vI R,vI V,.slice a fl c],.agg #[vI op,vI zr,vI zs,vI zt,vI zn,.slice aa l.length ca,.slice ra lr cr]] w' fun r w''=>r = .returned (vI m)∧Fr (fun _=>False) w' w'') :
 Calls Tryd.prog 78 #[.pointer (some ⟨rb,0,none⟩),.int .u8 65,.agg #[vI P,vI R,vI V,.slice a fl c],.agg #[vI op,vI zr,vI zs,vI zt,vI zn,.slice aa l.length ca,.slice ra lr cr]] w fun r w'=>r = .returned (.tuple #[])∧RW rb G fv w' L (listE m V l E)∧Fr (fun k=>k=rb) w w':=by
 have hrb:rb<w.heap.size:=h.cells.2.2.2.2.2
 have hf1:Fr (fun _=>False) w ((w.alloc (.cells #[vI P,vI R,vI V,.slice a fl c] 67)).alloc (.cells #[vI op,vI zr,vI zs,vI zt,vI zn,.slice aa l.length ca,.slice ra lr cr] 71)):=Fr.alloc (Fr.alloc (Fr.refl _ _) _) _
 have h1:RW rb G fv ((w.alloc (.cells #[vI P,vI R,vI V,.slice a fl c] 67)).alloc (.cells #[vI op,vI zr,vI zs,vI zt,vI zn,.slice aa l.length ca,.slice ra lr cr] 71)) L E:=h.fr hf1 (fun h=>h)
 have hxa:((w.alloc (.cells #[vI P,vI R,vI V,.slice a fl c] 67)).alloc (.cells #[vI op,vI zr,vI zs,vI zt,vI zn,.slice aa l.length ca,.slice ra lr cr] 71)).heap[w.heap.size]?=some (.cells #[vI P,vI R,vI V,.slice a fl c] 67):=by
  rw[Go.RowKit.Below.heap_alloc _ _ _ (by simp)];exact heap_alloc_last w _
 have HIL:Hd _:=hIL
 have hsz:w.heap.size<((w.alloc (.cells #[vI P,vI R,vI V,.slice a fl c] 67)).alloc (.cells #[vI op,vI zr,vI zs,vI zt,vI zn,.slice aa l.length ca,.slice ra lr cr] 71)).heap.size:=by simp;omega
 obtain⟨-,-,-,c3,hz,hlt⟩:=h1.cells
 by_cases hE:E=0
 rotate_left
 ·have hE':(E==0)=false:=by simpa using hE
  have hr:Hd (listE m V l E=E):=by unfold Hd listE;rw[if_neg hE]
  have H1:Hd (RW rb G fv ((w.alloc (.cells #[vI P,vI R,vI V,.slice a fl c] 67)).alloc (.cells #[vI op,vI zr,vI zs,vI zt,vI zn,.slice aa l.length ca,.slice ra lr cr] 71)) L E):=h1
  clear h hIL hw h1 hxa
  go_enter Tryd.func78,Tryd.ntmps78
  go_wp2_with fail
  (try simp only[Exit.inBlock,Exit.then])
  refine bodyPost_ret (results_none rfl _ _ _) rfl ?_
  exact⟨rfl,by rw[hr.out];exact H1.out,hf1.mono (fun _ _ h=>h.elim)⟩
 subst hE
 have hcall:=hw rfl _ hf1
 have H1:Hd (RW rb G fv ((w.alloc (.cells #[vI P,vI R,vI V,.slice a fl c] 67)).alloc (.cells #[vI op,vI zr,vI zs,vI zt,vI zn,.slice aa l.length ca,.slice ra lr cr] 71)) L 0):=h1
 have HXA:Hd _:=hxa
 clear h hIL hw h1 hxa
 go_enter Tryd.func78,Tryd.ntmps78
 go_wp2_with fail
 refine hcall.mono ?_
 rintro e w2 ⟨rfl,hf2⟩
 clear hcall
 have h2:RW rb G fv w2 L 0:=RW.fr H1.out hf2 (fun h=>h)
 go_wp2_with fail
 refine(rmust rb G fv w2 L 0 h2 ((l.length:Int)==m) 15).mono ?_
 rintro e w3 ⟨rfl,h3,hf3⟩
 have hf03:Fr (fun k=>k=rb) ((w.alloc (.cells #[vI P,vI R,vI V,.slice a fl c] 67)).alloc (.cells #[vI op,vI zr,vI zs,vI zt,vI zn,.slice aa l.length ca,.slice ra lr cr] 71)) w3:=(hf2.mono (fun _ _ h=>h.elim)).trans hf3
 have hfw:Fr (fun k=>k=rb) w w3:=(hf1.mono (fun _ _ h=>h.elim)).trans hf03
 have hx3:w3.heap[w.heap.size]?=some (.cells #[vI P,vI R,vI V,.slice a fl c] 67):=by rw[hf03.block _ hsz (by omega)];exact HXA.out
 have HR:Hd (listE m V l 0=varsE V l (mustE ((l.length:Int)==m) 15 0)):=by unfold Hd listE;rw[if_pos rfl]
 generalize mustE ((l.length:Int)==m) 15 0=E0 at h3 HR
 clear c3 hz hlt h2 hf2 hf3 hf03 hf1 H1 HXA hsz
 have hxl:w.heap.size<w3.heap.size:=(Array.getElem?_eq_some_iff.1 hx3).1
 go_wp2_with fail
 go_loopw [9] (fun i wr=>∃ (k:Nat) (E':Int),k≤l.length∧i = .int .i64 k∧RW rb G fv wr L E'∧Fr (fun j=>j=rb) w3 wr∧Hd (varsE V l E0=varsE V (l.drop k) E')) (fun i _=>match i with | .int _ q=>l.length-q.toNat | _=>0)
 case atStart=>exact⟨0,E0,Nat.zero_le _,rfl,h3,Fr.refl _ _,rfl⟩
 case round =>
  obtain⟨k,E',hk,rfl,hr,hfr,hv⟩:=hrel
  by_cases hlt:k<l.length
  ·obtain⟨pk,po,rfl,hpk,hpb,hcs⟩:=HIL.out (by intro e;simp[e] at hlt)
   have hce:wr.cell? ⟨pk,po+k,none⟩=some (vI l[k]):=((hfw.trans hfr).cell hpk hpb).trans (hcs k hlt)
   have hxr:wr.heap[w.heap.size]?=some (.cells #[vI P,vI R,vI V,.slice a fl c] 67):=by rw[hfr.block _ hxl (by omega)];exact hx3
   have f0:wr.cell? ⟨w.heap.size,0,none⟩=some (vI P):=by unfold World.cell?;simp[hxr]
   have f1:wr.cell? ⟨w.heap.size,1,none⟩=some (vI R):=by unfold World.cell?;simp[hxr]
   have f2:wr.cell? ⟨w.heap.size,2,none⟩=some (vI V):=by unfold World.cell?;simp[hxr]
   have f3:wr.cell? ⟨w.heap.size,3,none⟩=some (.slice a fl c):=by unfold World.cell?;simp[hxr]
   have hd:Hd (l.drop k=l[k]::l.drop (k+1)):=List.drop_eq_getElem_cons hlt
   have hN:Hd (varsE V l E0=varsE V (l.drop (k+1)) (mustE (varB V l[k]) 13 E')):=by unfold Hd;rw[hv.out,hd.out];rfl
   generalize l[k]=u at hce hN
   have hpl:pk<wr.heap.size:=cell_lt hce
   have HRR:Hd _:=hr
   clear hcs hxr hd hv hr
   go_wp2_with fail
   go_region_with ((
    go_at_call 77
    refine(rvariable rb G fv _ L E' (RW.fr HRR.out (Fr.drew (Fr.refl (fun _=>False) _)) (fun h=>h)) P R V a fl c u).mono ?_
    rintro e w4 ⟨rfl,h4,hf4⟩
    have hf34:Fr (fun j=>j=rb) w3 w4:=(hfr.drew).trans hf4))
   all_goals
    go_wp2_with fail
    exact⟨⟨k+1,_,by omega,by simp,h4,hf34,hN⟩,by simp;omega⟩
  ·have hkl:k=l.length:=by omega
   subst hkl
   have hF:Hd (listE m V l 0=E'):=by unfold Hd;rw[HR.out,hv.out,List.drop_length];rfl
   clear hv
   go_wp2_with fail
   go_end0
   exact⟨rfl,by rw[hF.out];exact hr,hfw.trans hfr⟩
theorem rlist_V (rb:Nat)(G:Int)(fv:Value)(w:World)(L E:Int)(h:RW rb G fv w L E)(P R V:Int)(a:Option Addr)(fl c:Nat)(op zr zs zt zn:Int)(aa ra:Option Addr)(ca cr:Nat)(lr:Nat)(l:List Int)(hll:l.length≤1000000000000000)(m:Int)
 (hIL:l≠[]→∃ k o,aa=some ⟨k,o,none⟩∧k<w.heap.size∧k≠rb∧∀ j (h:j<l.length),w.cell? ⟨k,o+j,none⟩=some (vI l[j]))
 (hw:E=0→∀ w',Fr (fun _=>False) w w'→Calls Tryd.prog 97 #[.pointer (some ⟨rb,0,none⟩),.int .u8 86,.agg #[vI P,vI R,vI V,.slice a fl c],.agg #[vI op,vI zr,vI zs,vI zt,vI zn,.slice aa l.length ca,.slice ra lr cr]] w' fun r w''=>r = .returned (vI m)∧Fr (fun _=>False) w' w'') :
 Calls Tryd.prog 78 #[.pointer (some ⟨rb,0,none⟩),.int .u8 86,.agg #[vI P,vI R,vI V,.slice a fl c],.agg #[vI op,vI zr,vI zs,vI zt,vI zn,.slice aa l.length ca,.slice ra lr cr]] w fun r w'=>r = .returned (.tuple #[])∧RW rb G fv w' L (listE m V l E)∧Fr (fun k=>k=rb) w w':=by
 have hrb:rb<w.heap.size:=h.cells.2.2.2.2.2
 have hf1:Fr (fun _=>False) w ((w.alloc (.cells #[vI P,vI R,vI V,.slice a fl c] 67)).alloc (.cells #[vI op,vI zr,vI zs,vI zt,vI zn,.slice aa l.length ca,.slice ra lr cr] 71)):=Fr.alloc (Fr.alloc (Fr.refl _ _) _) _
 have h1:RW rb G fv ((w.alloc (.cells #[vI P,vI R,vI V,.slice a fl c] 67)).alloc (.cells #[vI op,vI zr,vI zs,vI zt,vI zn,.slice aa l.length ca,.slice ra lr cr] 71)) L E:=h.fr hf1 (fun h=>h)
 have hxa:((w.alloc (.cells #[vI P,vI R,vI V,.slice a fl c] 67)).alloc (.cells #[vI op,vI zr,vI zs,vI zt,vI zn,.slice aa l.length ca,.slice ra lr cr] 71)).heap[w.heap.size]?=some (.cells #[vI P,vI R,vI V,.slice a fl c] 67):=by
  rw[Go.RowKit.Below.heap_alloc _ _ _ (by simp)];exact heap_alloc_last w _
 have HIL:Hd _:=hIL
 have hsz:w.heap.size<((w.alloc (.cells #[vI P,vI R,vI V,.slice a fl c] 67)).alloc (.cells #[vI op,vI zr,vI zs,vI zt,vI zn,.slice aa l.length ca,.slice ra lr cr] 71)).heap.size:=by simp;omega
 obtain⟨-,-,-,c3,hz,hlt⟩:=h1.cells
 by_cases hE:E=0
 rotate_left
 ·have hE':(E==0)=false:=by simpa using hE
  have hr:Hd (listE m V l E=E):=by unfold Hd listE;rw[if_neg hE]
  have H1:Hd (RW rb G fv ((w.alloc (.cells #[vI P,vI R,vI V,.slice a fl c] 67)).alloc (.cells #[vI op,vI zr,vI zs,vI zt,vI zn,.slice aa l.length ca,.slice ra lr cr] 71)) L E):=h1
  clear h hIL hw h1 hxa
  go_enter Tryd.func78,Tryd.ntmps78
  go_wp2_with fail
  (try simp only[Exit.inBlock,Exit.then])
  refine bodyPost_ret (results_none rfl _ _ _) rfl ?_
  exact⟨rfl,by rw[hr.out];exact H1.out,hf1.mono (fun _ _ h=>h.elim)⟩
 subst hE
 have hcall:=hw rfl _ hf1
 have H1:Hd (RW rb G fv ((w.alloc (.cells #[vI P,vI R,vI V,.slice a fl c] 67)).alloc (.cells #[vI op,vI zr,vI zs,vI zt,vI zn,.slice aa l.length ca,.slice ra lr cr] 71)) L 0):=h1
 have HXA:Hd _:=hxa
 clear h hIL hw h1 hxa
 go_enter Tryd.func78,Tryd.ntmps78
 go_wp2_with fail
 refine hcall.mono ?_
 rintro e w2 ⟨rfl,hf2⟩
 clear hcall
 have h2:RW rb G fv w2 L 0:=RW.fr H1.out hf2 (fun h=>h)
 go_wp2_with fail
 refine(rmust rb G fv w2 L 0 h2 ((l.length:Int)==m) 15).mono ?_
 rintro e w3 ⟨rfl,h3,hf3⟩
 have hf03:Fr (fun k=>k=rb) ((w.alloc (.cells #[vI P,vI R,vI V,.slice a fl c] 67)).alloc (.cells #[vI op,vI zr,vI zs,vI zt,vI zn,.slice aa l.length ca,.slice ra lr cr] 71)) w3:=(hf2.mono (fun _ _ h=>h.elim)).trans hf3
 have hfw:Fr (fun k=>k=rb) w w3:=(hf1.mono (fun _ _ h=>h.elim)).trans hf03
 have hx3:w3.heap[w.heap.size]?=some (.cells #[vI P,vI R,vI V,.slice a fl c] 67):=by rw[hf03.block _ hsz (by omega)];exact HXA.out
 have HR:Hd (listE m V l 0=varsE V l (mustE ((l.length:Int)==m) 15 0)):=by unfold Hd listE;rw[if_pos rfl]
 generalize mustE ((l.length:Int)==m) 15 0=E0 at h3 HR
 clear c3 hz hlt h2 hf2 hf3 hf03 hf1 H1 HXA hsz
 have hxl:w.heap.size<w3.heap.size:=(Array.getElem?_eq_some_iff.1 hx3).1
 go_wp2_with fail
 go_loopw [9] (fun i wr=>∃ (k:Nat) (E':Int),k≤l.length∧i = .int .i64 k∧RW rb G fv wr L E'∧Fr (fun j=>j=rb) w3 wr∧Hd (varsE V l E0=varsE V (l.drop k) E')) (fun i _=>match i with | .int _ q=>l.length-q.toNat | _=>0)
 case atStart=>exact⟨0,E0,Nat.zero_le _,rfl,h3,Fr.refl _ _,rfl⟩
 case round =>
  obtain⟨k,E',hk,rfl,hr,hfr,hv⟩:=hrel
  by_cases hlt:k<l.length
  ·obtain⟨pk,po,rfl,hpk,hpb,hcs⟩:=HIL.out (by intro e;simp[e] at hlt)
   have hce:wr.cell? ⟨pk,po+k,none⟩=some (vI l[k]):=((hfw.trans hfr).cell hpk hpb).trans (hcs k hlt)
   have hxr:wr.heap[w.heap.size]?=some (.cells #[vI P,vI R,vI V,.slice a fl c] 67):=by rw[hfr.block _ hxl (by omega)];exact hx3
   have f0:wr.cell? ⟨w.heap.size,0,none⟩=some (vI P):=by unfold World.cell?;simp[hxr]
   have f1:wr.cell? ⟨w.heap.size,1,none⟩=some (vI R):=by unfold World.cell?;simp[hxr]
   have f2:wr.cell? ⟨w.heap.size,2,none⟩=some (vI V):=by unfold World.cell?;simp[hxr]
   have f3:wr.cell? ⟨w.heap.size,3,none⟩=some (.slice a fl c):=by unfold World.cell?;simp[hxr]
   have hd:Hd (l.drop k=l[k]::l.drop (k+1)):=List.drop_eq_getElem_cons hlt
   have hN:Hd (varsE V l E0=varsE V (l.drop (k+1)) (mustE (varB V l[k]) 13 E')):=by unfold Hd;rw[hv.out,hd.out];rfl
   generalize l[k]=u at hce hN
   have hpl:pk<wr.heap.size:=cell_lt hce
   have HRR:Hd _:=hr
   clear hcs hxr hd hv hr
   go_wp2_with fail
   go_region_with ((
    go_at_call 77
    refine(rvariable rb G fv _ L E' (RW.fr HRR.out (Fr.drew (Fr.refl (fun _=>False) _)) (fun h=>h)) P R V a fl c u).mono ?_
    rintro e w4 ⟨rfl,h4,hf4⟩
    have hf34:Fr (fun j=>j=rb) w3 w4:=(hfr.drew).trans hf4))
   all_goals
    go_wp2_with fail
    exact⟨⟨k+1,_,by omega,by simp,h4,hf34,hN⟩,by simp;omega⟩
  ·have hkl:k=l.length:=by omega
   subst hkl
   have hF:Hd (listE m V l 0=E'):=by unfold Hd;rw[HR.out,hv.out,List.drop_length];rfl
   clear hv
   go_wp2_with fail
   go_end0
   exact⟨rfl,by rw[hF.out];exact hr,hfw.trans hfr⟩
theorem rlist_B (rb:Nat)(G:Int)(fv:Value)(w:World)(L E:Int)(h:RW rb G fv w L E)(P R V:Int)(a:Option Addr)(fl c:Nat)(op zr zs zt zn:Int)(aa ra:Option Addr)(ca cr:Nat)(la:Nat)(l:List Int)(hll:l.length≤1000000000000000)(m:Int)
 (hIL:l≠[]→∃ k o,ra=some ⟨k,o,none⟩∧k<w.heap.size∧k≠rb∧∀ j (h:j<l.length),w.cell? ⟨k,o+j,none⟩=some (vI l[j]))
 (hw:E=0→∀ w',Fr (fun _=>False) w w'→Calls Tryd.prog 97 #[.pointer (some ⟨rb,0,none⟩),.int .u8 66,.agg #[vI P,vI R,vI V,.slice a fl c],.agg #[vI op,vI zr,vI zs,vI zt,vI zn,.slice aa la ca,.slice ra l.length cr]] w' fun r w''=>r = .returned (vI m)∧Fr (fun _=>False) w' w'') :
 Calls Tryd.prog 78 #[.pointer (some ⟨rb,0,none⟩),.int .u8 66,.agg #[vI P,vI R,vI V,.slice a fl c],.agg #[vI op,vI zr,vI zs,vI zt,vI zn,.slice aa la ca,.slice ra l.length cr]] w fun r w'=>r = .returned (.tuple #[])∧RW rb G fv w' L (listE m V l E)∧Fr (fun k=>k=rb) w w':=by
 have hrb:rb<w.heap.size:=h.cells.2.2.2.2.2
 have hf1:Fr (fun _=>False) w ((w.alloc (.cells #[vI P,vI R,vI V,.slice a fl c] 67)).alloc (.cells #[vI op,vI zr,vI zs,vI zt,vI zn,.slice aa la ca,.slice ra l.length cr] 71)):=Fr.alloc (Fr.alloc (Fr.refl _ _) _) _
 have h1:RW rb G fv ((w.alloc (.cells #[vI P,vI R,vI V,.slice a fl c] 67)).alloc (.cells #[vI op,vI zr,vI zs,vI zt,vI zn,.slice aa la ca,.slice ra l.length cr] 71)) L E:=h.fr hf1 (fun h=>h)
 have hxa:((w.alloc (.cells #[vI P,vI R,vI V,.slice a fl c] 67)).alloc (.cells #[vI op,vI zr,vI zs,vI zt,vI zn,.slice aa la ca,.slice ra l.length cr] 71)).heap[w.heap.size]?=some (.cells #[vI P,vI R,vI V,.slice a fl c] 67):=by
  rw[Go.RowKit.Below.heap_alloc _ _ _ (by simp)];exact heap_alloc_last w _
 have HIL:Hd _:=hIL
 have hsz:w.heap.size<((w.alloc (.cells #[vI P,vI R,vI V,.slice a fl c] 67)).alloc (.cells #[vI op,vI zr,vI zs,vI zt,vI zn,.slice aa la ca,.slice ra l.length cr] 71)).heap.size:=by simp;omega
 obtain⟨-,-,-,c3,hz,hlt⟩:=h1.cells
 by_cases hE:E=0
 rotate_left
 ·have hE':(E==0)=false:=by simpa using hE
  have hr:Hd (listE m V l E=E):=by unfold Hd listE;rw[if_neg hE]
  have H1:Hd (RW rb G fv ((w.alloc (.cells #[vI P,vI R,vI V,.slice a fl c] 67)).alloc (.cells #[vI op,vI zr,vI zs,vI zt,vI zn,.slice aa la ca,.slice ra l.length cr] 71)) L E):=h1
  clear h hIL hw h1 hxa
  go_enter Tryd.func78,Tryd.ntmps78
  go_wp2_with fail
  (try simp only[Exit.inBlock,Exit.then])
  refine bodyPost_ret (results_none rfl _ _ _) rfl ?_
  exact⟨rfl,by rw[hr.out];exact H1.out,hf1.mono (fun _ _ h=>h.elim)⟩
 subst hE
 have hcall:=hw rfl _ hf1
 have H1:Hd (RW rb G fv ((w.alloc (.cells #[vI P,vI R,vI V,.slice a fl c] 67)).alloc (.cells #[vI op,vI zr,vI zs,vI zt,vI zn,.slice aa la ca,.slice ra l.length cr] 71)) L 0):=h1
 have HXA:Hd _:=hxa
 clear h hIL hw h1 hxa
 go_enter Tryd.func78,Tryd.ntmps78
 go_wp2_with fail
 refine hcall.mono ?_
 rintro e w2 ⟨rfl,hf2⟩
 clear hcall
 have h2:RW rb G fv w2 L 0:=RW.fr H1.out hf2 (fun h=>h)
 go_wp2_with fail
 refine(rmust rb G fv w2 L 0 h2 ((l.length:Int)==m) 15).mono ?_
 rintro e w3 ⟨rfl,h3,hf3⟩
 have hf03:Fr (fun k=>k=rb) ((w.alloc (.cells #[vI P,vI R,vI V,.slice a fl c] 67)).alloc (.cells #[vI op,vI zr,vI zs,vI zt,vI zn,.slice aa la ca,.slice ra l.length cr] 71)) w3:=(hf2.mono (fun _ _ h=>h.elim)).trans hf3
 have hfw:Fr (fun k=>k=rb) w w3:=(hf1.mono (fun _ _ h=>h.elim)).trans hf03
 have hx3:w3.heap[w.heap.size]?=some (.cells #[vI P,vI R,vI V,.slice a fl c] 67):=by rw[hf03.block _ hsz (by omega)];exact HXA.out
 have HR:Hd (listE m V l 0=varsE V l (mustE ((l.length:Int)==m) 15 0)):=by unfold Hd listE;rw[if_pos rfl]
 generalize mustE ((l.length:Int)==m) 15 0=E0 at h3 HR
 clear c3 hz hlt h2 hf2 hf3 hf03 hf1 H1 HXA hsz
 have hxl:w.heap.size<w3.heap.size:=(Array.getElem?_eq_some_iff.1 hx3).1
 go_wp2_with fail
 go_loopw [9] (fun i wr=>∃ (k:Nat) (E':Int),k≤l.length∧i = .int .i64 k∧RW rb G fv wr L E'∧Fr (fun j=>j=rb) w3 wr∧Hd (varsE V l E0=varsE V (l.drop k) E')) (fun i _=>match i with | .int _ q=>l.length-q.toNat | _=>0)
 case atStart=>exact⟨0,E0,Nat.zero_le _,rfl,h3,Fr.refl _ _,rfl⟩
 case round =>
  obtain⟨k,E',hk,rfl,hr,hfr,hv⟩:=hrel
  by_cases hlt:k<l.length
  ·obtain⟨pk,po,rfl,hpk,hpb,hcs⟩:=HIL.out (by intro e;simp[e] at hlt)
   have hce:wr.cell? ⟨pk,po+k,none⟩=some (vI l[k]):=((hfw.trans hfr).cell hpk hpb).trans (hcs k hlt)
   have hxr:wr.heap[w.heap.size]?=some (.cells #[vI P,vI R,vI V,.slice a fl c] 67):=by rw[hfr.block _ hxl (by omega)];exact hx3
   have f0:wr.cell? ⟨w.heap.size,0,none⟩=some (vI P):=by unfold World.cell?;simp[hxr]
   have f1:wr.cell? ⟨w.heap.size,1,none⟩=some (vI R):=by unfold World.cell?;simp[hxr]
   have f2:wr.cell? ⟨w.heap.size,2,none⟩=some (vI V):=by unfold World.cell?;simp[hxr]
   have f3:wr.cell? ⟨w.heap.size,3,none⟩=some (.slice a fl c):=by unfold World.cell?;simp[hxr]
   have hd:Hd (l.drop k=l[k]::l.drop (k+1)):=List.drop_eq_getElem_cons hlt
   have hN:Hd (varsE V l E0=varsE V (l.drop (k+1)) (mustE (varB V l[k]) 13 E')):=by unfold Hd;rw[hv.out,hd.out];rfl
   generalize l[k]=u at hce hN
   have hpl:pk<wr.heap.size:=cell_lt hce
   have HRR:Hd _:=hr
   clear hcs hxr hd hv hr
   go_wp2_with fail
   go_region_with ((
    go_at_call 77
    refine(rvariable rb G fv _ L E' (RW.fr HRR.out (Fr.drew (Fr.refl (fun _=>False) _)) (fun h=>h)) P R V a fl c u).mono ?_
    rintro e w4 ⟨rfl,h4,hf4⟩
    have hf34:Fr (fun j=>j=rb) w3 w4:=(hfr.drew).trans hf4))
   all_goals
    go_wp2_with fail
    exact⟨⟨k+1,_,by omega,by simp,h4,hf34,hN⟩,by simp;omega⟩
  ·have hkl:k=l.length:=by omega
   subst hkl
   have hF:Hd (listE m V l 0=E'):=by unfold Hd;rw[HR.out,hv.out,List.drop_length];rfl
   clear hv
   go_wp2_with fail
   go_end0
   exact⟨rfl,by rw[hF.out];exact hr,hfw.trans hfr⟩
set_option maxRecDepth 100000
set_option maxHeartbeats 4000000
def partCall (rb:Nat)(F I:Value)(zr zs zt zn:Int)(fl:Nat)(u:UInt8):Nat × Array Value :=
 if u=82 then (77,#[.pointer (some ⟨rb,0,none⟩),F,vI zr]) else if u=83 then (77,#[.pointer (some ⟨rb,0,none⟩),F,vI zs]) else if u=84 then (77,#[.pointer (some ⟨rb,0,none⟩),F,vI zt])
 else if u=65∨u=66∨u=86 then (78,#[.pointer (some ⟨rb,0,none⟩),vU u,F,I]) else (79,#[.pointer (some ⟨rb,0,none⟩),vU u,vI zn,vI fl])
theorem rinstr (rb:Nat)(G:Int)(fv:Value)(w:World)(L E:Int)(h:RW rb G fv w L E)(hL0:0≤L)(hL1:L≤1000000000000)(P R V:Int)(a:Option Addr)(fl c:Nat)(op zr zs zt zn:Int)(aa ra:Option Addr)(la ca lr cr:Nat)(last:Bool)
 (EE:Nat→Int) (h0:EE 0=opE op (plainB op zr zs zt zn la lr) last L E)
 (hs:∀ j (hj:j<(partsN op.toNat).toList.length) w',RW rb G fv w' (opL op L) (EE j)→Fr (fun k=>k=rb) w w' →
   Calls Tryd.prog (partCall rb (.agg #[vI P,vI R,vI V,.slice a fl c]) (.agg #[vI op,vI zr,vI zs,vI zt,vI zn,.slice aa la ca,.slice ra lr cr]) zr zs zt zn fl (partsN op.toNat).toList[j]).1 (partCall rb (.agg #[vI P,vI R,vI V,.slice a fl c]) (.agg #[vI op,vI zr,vI zs,vI zt,vI zn,.slice aa la ca,.slice ra lr cr]) zr zs zt zn fl (partsN op.toNat).toList[j]).2 w'
    fun r w''=>r = .returned (.tuple #[])∧RW rb G fv w'' (opL op L) (EE (j+1))∧Fr (fun k=>k=rb) w' w'') :
 Calls Tryd.prog 56 #[.pointer (some ⟨rb,0,none⟩),.agg #[vI P,vI R,vI V,.slice a fl c],.agg #[vI op,vI zr,vI zs,vI zt,vI zn,.slice aa la ca,.slice ra lr cr],.bool last] w
  fun r w'=>r = .returned (.tuple #[])∧RW rb G fv w' (opL op L) (EE (partsN op.toNat).toList.length)∧Fr (fun k=>k=rb) w w':=by
 have hrb:rb<w.heap.size:=h.cells.2.2.2.2.2
 obtain⟨W,HW⟩:∃ W,W=(w.alloc (.cells #[vI P,vI R,vI V,.slice a fl c] 67)).alloc (.cells #[vI op,vI zr,vI zs,vI zt,vI zn,.slice aa la ca,.slice ra lr cr] 71):=⟨_,rfl⟩
 have hf1:Fr (fun _=>False) w W:=by rw[HW];exact Fr.alloc (Fr.alloc (Fr.refl _ _) _) _
 have h1:RW rb G fv W L E:=h.fr hf1 (fun h=>h)
 have hxa:W.heap[w.heap.size]?=some (.cells #[vI P,vI R,vI V,.slice a fl c] 67):=by
  rw[HW,Go.RowKit.Below.heap_alloc _ _ _ (by simp)];exact heap_alloc_last w _
 have hxb:W.heap[w.heap.size+1]?=some (.cells #[vI op,vI zr,vI zs,vI zt,vI zn,.slice aa la ca,.slice ra lr cr] 71):=by
  rw[HW]
  have:=heap_alloc_last (w.alloc (.cells #[vI P,vI R,vI V,.slice a fl c] 67)) (.cells #[vI op,vI zr,vI zs,vI zt,vI zn,.slice aa la ca,.slice ra lr cr] 71)
  simpa using this
 have HS:Hd _:=hs
 have H0:Hd _:=h0
 have hB:Hd (partsB op=⟨(partsN op.toNat).toList.toArray⟩):=rfl
 have h3:(partsN op.toNat).toList.length≤3:=by simpa using partsN_size op.toNat
 generalize (partsN op.toNat).toList=l at HS hB h3 ⊢
 clear hs h0 h
 have hcall:=rop rb G fv W L E h1 hL0 hL1 op zr zs zt zn aa ra la ca lr cr last
 rw[← H0.out] at hcall
 go_enter Tryd.func56,Tryd.ntmps56
 go_wp2_with fail
 rw[← HW]
 refine hcall.mono ?_
 rintro e w2 ⟨rfl,h2,hf2⟩
 clear hcall h1 HW
 -- the letters
 have hsz:w.heap.size+1<W.heap.size:=(Array.getElem?_eq_some_iff.1 hxb).1
 have hxa2:w2.heap[w.heap.size]?=some (.cells #[vI P,vI R,vI V,.slice a fl c] 67):=by rw[hf2.block _ (by omega) (by omega)];exact hxa
 have hxb2:w2.heap[w.heap.size+1]?=some (.cells #[vI op,vI zr,vI zs,vI zt,vI zn,.slice aa la ca,.slice ra lr cr] 71):=by rw[hf2.block _ hsz (by omega)];exact hxb
 have hfw2:Fr (fun k=>k=rb) w w2:=(hf1.mono (fun _ _ h=>h.elim)).trans hf2
 have b0:w2.cell? ⟨w.heap.size+1,0,none⟩=some (vI op):=by unfold World.cell?;simp[hxb2]
 clear hf1 hf2 hxa hxb hsz
 have hsz:w.heap.size+1<w2.heap.size:=(Array.getElem?_eq_some_iff.1 hxb2).1
 have hpc:=rparts op w2
 rw[hB.out] at hpc
 go_wp2_with fail
 refine hpc.mono ?_
 rintro e w3 ⟨rfl,hf3⟩
 clear hpc b0
 have hr3:RW rb G fv w3 (opL op L) (EE 0):=h2.fr hf3 (fun h=>h)
 have hxa3:w3.heap[w.heap.size]?=some (.cells #[vI P,vI R,vI V,.slice a fl c] 67):=by rw[hf3.block _ (by omega) (fun h=>h)];exact hxa2
 have hxb3:w3.heap[w.heap.size+1]?=some (.cells #[vI op,vI zr,vI zs,vI zt,vI zn,.slice aa la ca,.slice ra lr cr] 71):=by rw[hf3.block _ hsz (fun h=>h)];exact hxb2
 have hfw3:Fr (fun k=>k=rb) w w3:=hfw2.trans (hf3.mono (fun _ _ h=>h.elim))
 have hsz3:w.heap.size+1<w3.heap.size:=(Array.getElem?_eq_some_iff.1 hxb3).1
 clear hf3 h2 hfw2 hxa2 hxb2 hsz hB
 go_wp2_with fail
 go_loopw [9] (fun i wr=>∃ (k:Nat),k≤l.length∧i = .int .i64 k∧RW rb G fv wr (opL op L) (EE k)∧Fr (fun j=>j=rb) w3 wr) (fun i _=>match i with | .int _ q=>l.length-q.toNat | _=>0)
 case atStart=>exact⟨0,Nat.zero_le _,rfl,hr3,Fr.refl _ _⟩
 case round =>
  obtain⟨k,hk,rfl,hr,hfr⟩:=hrel
  by_cases hlt:k<l.length
  rotate_left
  ·have hkl:k=l.length:=by omega
   subst hkl
   have HRR:Hd (RW rb G fv wr (opL op L) (EE l.length)):=hr
   clear hr
   go_wp2_with fail
   go_end0
   exact⟨rfl,HRR.out,hfw3.trans hfr⟩
  have hp:k<(⟨l.toArray⟩:ByteArray).size:=by show k<l.toArray.size;simpa using hlt
  have hi:(⟨l.toArray⟩:ByteArray)[k]'hp=l[k]:=rfl
  have hxa:wr.heap[w.heap.size]?=some (.cells #[vI P,vI R,vI V,.slice a fl c] 67):=by rw[hfr.block _ (by omega) (by omega)];exact hxa3
  have hxb:wr.heap[w.heap.size+1]?=some (.cells #[vI op,vI zr,vI zs,vI zt,vI zn,.slice aa la ca,.slice ra lr cr] 71):=by rw[hfr.block _ hsz3 (by omega)];exact hxb3
  have f0:wr.cell? ⟨w.heap.size,0,none⟩=some (vI P):=by unfold World.cell?;simp[hxa]
  have f1:wr.cell? ⟨w.heap.size,1,none⟩=some (vI R):=by unfold World.cell?;simp[hxa]
  have f2:wr.cell? ⟨w.heap.size,2,none⟩=some (vI V):=by unfold World.cell?;simp[hxa]
  have f3:wr.cell? ⟨w.heap.size,3,none⟩=some (.slice a fl c):=by unfold World.cell?;simp[hxa]
  have b0:wr.cell? ⟨w.heap.size+1,0,none⟩=some (vI op):=by unfold World.cell?;simp[hxb]
  have b1:wr.cell? ⟨w.heap.size+1,1,none⟩=some (vI zr):=by unfold World.cell?;simp[hxb]
  have b2:wr.cell? ⟨w.heap.size+1,2,none⟩=some (vI zs):=by unfold World.cell?;simp[hxb]
  have b3:wr.cell? ⟨w.heap.size+1,3,none⟩=some (vI zt):=by unfold World.cell?;simp[hxb]
  have b4:wr.cell? ⟨w.heap.size+1,4,none⟩=some (vI zn):=by unfold World.cell?;simp[hxb]
  have b5:wr.cell? ⟨w.heap.size+1,5,none⟩=some (.slice aa la ca):=by unfold World.cell?;simp[hxb]
  have b6:wr.cell? ⟨w.heap.size+1,6,none⟩=some (.slice ra lr cr):=by unfold World.cell?;simp[hxb]
  have hszr:w.heap.size+1<wr.heap.size:=(Array.getElem?_eq_some_iff.1 hxb).1
  have HC:Hd _:=fun w' (hrw:RW rb G fv w' (opL op L) (EE k)) (hf:Fr (fun j=>j=rb) w w')=>HS.out k hlt w' hrw hf
  have HRR:Hd (RW rb G fv wr (opL op L) (EE k)):=hr
  clear hxa hxb hr HS
  by_cases q82:l[k]=82
  ·have e82:(((((⟨l.toArray⟩:ByteArray)[k]'hp).toNat:Nat):Int)==82)=true:=by rw[hi,q82];rfl
   have hcall:Hd (∀ w',RW rb G fv w' (opL op L) (EE k)→Fr (fun j=>j=rb) w w'→Calls Tryd.prog 77 #[.pointer (some ⟨rb,0,none⟩),.agg #[vI P,vI R,vI V,.slice a fl c],vI zr] w' fun r w''=>r = .returned (.tuple #[])∧RW rb G fv w'' (opL op L) (EE (k+1))∧Fr (fun j=>j=rb) w' w''):=fun w' h1 h2=>by
    have:=HC.out w' h1 h2
    rw[q82] at this
    exact this
   clear hi q82 HC
   go_wp2_with fail
   refine(hcall.out wr HRR.out (hfw3.trans hfr)).mono ?_
   rintro e w4 ⟨rfl,h4,hf4⟩
   clear f0 f1 f2 f3 b0 b1 b2 b3 b4 b5 b6
   go_wp2_with fail
   exact⟨⟨k+1,by omega,by simp,h4,hfr.trans hf4⟩,by simp;omega⟩
  by_cases q83:l[k]=83
  ·have n82:(((((⟨l.toArray⟩:ByteArray)[k]'hp).toNat:Nat):Int)==82)=false:=by
    rw[hi];simp only[beq_eq_false_iff_ne,ne_eq];intro e;exact q82 (UInt8.toNat_inj.1 (by show _=82;omega))
   have e83:(((((⟨l.toArray⟩:ByteArray)[k]'hp).toNat:Nat):Int)==83)=true:=by rw[hi,q83];rfl
   have hcall:Hd (∀ w',RW rb G fv w' (opL op L) (EE k)→Fr (fun j=>j=rb) w w'→Calls Tryd.prog 77 #[.pointer (some ⟨rb,0,none⟩),.agg #[vI P,vI R,vI V,.slice a fl c],vI zs] w' fun r w''=>r = .returned (.tuple #[])∧RW rb G fv w'' (opL op L) (EE (k+1))∧Fr (fun j=>j=rb) w' w''):=fun w' h1 h2=>by
    have:=HC.out w' h1 h2
    rw[q83] at this
    exact this
   clear hi q83 HC
   go_wp2_with fail
   refine(hcall.out wr HRR.out (hfw3.trans hfr)).mono ?_
   rintro e w4 ⟨rfl,h4,hf4⟩
   clear f0 f1 f2 f3 b0 b1 b2 b3 b4 b5 b6
   go_wp2_with fail
   exact⟨⟨k+1,by omega,by simp,h4,hfr.trans hf4⟩,by simp;omega⟩
  by_cases q84:l[k]=84
  ·have n82:(((((⟨l.toArray⟩:ByteArray)[k]'hp).toNat:Nat):Int)==82)=false:=by
    rw[hi];simp only[beq_eq_false_iff_ne,ne_eq];intro e;exact q82 (UInt8.toNat_inj.1 (by show _=82;omega))
   have n83:(((((⟨l.toArray⟩:ByteArray)[k]'hp).toNat:Nat):Int)==83)=false:=by
    rw[hi];simp only[beq_eq_false_iff_ne,ne_eq];intro e;exact q83 (UInt8.toNat_inj.1 (by show _=83;omega))
   have e84:(((((⟨l.toArray⟩:ByteArray)[k]'hp).toNat:Nat):Int)==84)=true:=by rw[hi,q84];rfl
   have hcall:Hd (∀ w',RW rb G fv w' (opL op L) (EE k)→Fr (fun j=>j=rb) w w'→Calls Tryd.prog 77 #[.pointer (some ⟨rb,0,none⟩),.agg #[vI P,vI R,vI V,.slice a fl c],vI zt] w' fun r w''=>r = .returned (.tuple #[])∧RW rb G fv w'' (opL op L) (EE (k+1))∧Fr (fun j=>j=rb) w' w''):=fun w' h1 h2=>by
    have:=HC.out w' h1 h2
    rw[q84] at this
    exact this
   clear hi q84 HC
   go_wp2_with fail
   refine(hcall.out wr HRR.out (hfw3.trans hfr)).mono ?_
   rintro e w4 ⟨rfl,h4,hf4⟩
   clear f0 f1 f2 f3 b0 b1 b2 b3 b4 b5 b6
   go_wp2_with fail
   exact⟨⟨k+1,by omega,by simp,h4,hfr.trans hf4⟩,by simp;omega⟩
  by_cases q65:l[k]=65
  ·have n82:(((((⟨l.toArray⟩:ByteArray)[k]'hp).toNat:Nat):Int)==82)=false:=by
    rw[hi];simp only[beq_eq_false_iff_ne,ne_eq];intro e;exact q82 (UInt8.toNat_inj.1 (by show _=82;omega))
   have n83:(((((⟨l.toArray⟩:ByteArray)[k]'hp).toNat:Nat):Int)==83)=false:=by
    rw[hi];simp only[beq_eq_false_iff_ne,ne_eq];intro e;exact q83 (UInt8.toNat_inj.1 (by show _=83;omega))
   have n84:(((((⟨l.toArray⟩:ByteArray)[k]'hp).toNat:Nat):Int)==84)=false:=by
    rw[hi];simp only[beq_eq_false_iff_ne,ne_eq];intro e;exact q84 (UInt8.toNat_inj.1 (by show _=84;omega))
   have e65:(((((⟨l.toArray⟩:ByteArray)[k]'hp).toNat:Nat):Int)==65)=true:=by rw[hi,q65];rfl
   have hcall:Hd (∀ w',RW rb G fv w' (opL op L) (EE k)→Fr (fun j=>j=rb) w w'→Calls Tryd.prog 78 #[.pointer (some ⟨rb,0,none⟩),.int .u8 (((⟨l.toArray⟩:ByteArray)[k]'hp).toNat:Nat),.agg #[vI P,vI R,vI V,.slice a fl c],.agg #[vI op,vI zr,vI zs,vI zt,vI zn,.slice aa la ca,.slice ra lr cr]] w' fun r w''=>r = .returned (.tuple #[])∧RW rb G fv w'' (opL op L) (EE (k+1))∧Fr (fun j=>j=rb) w' w''):=fun w' h1 h2=>by
    have:=HC.out w' h1 h2
    rw[q65] at this
    rw[hi,q65];exact this
   clear hi q65 HC
   go_wp2_with fail
   go_region_with ((
    go_at_call 78
    refine(hcall.out _ (RW.fr HRR.out (Fr.drew (Fr.refl (fun _=>False) _)) (fun h=>h)) (hfw3.trans hfr.drew)).mono ?_
    rintro e w4 ⟨rfl,h4,hf4⟩
    have hf34:=hfr.drew.trans hf4))
   all_goals
    clear f0 f1 f2 f3 b0 b1 b2 b3 b4 b5 b6
    go_wp2_with fail
    exact⟨⟨k+1,by omega,by simp,h4,hf34⟩,by simp;omega⟩
  by_cases q66:l[k]=66
  ·have n82:(((((⟨l.toArray⟩:ByteArray)[k]'hp).toNat:Nat):Int)==82)=false:=by
    rw[hi];simp only[beq_eq_false_iff_ne,ne_eq];intro e;exact q82 (UInt8.toNat_inj.1 (by show _=82;omega))
   have n83:(((((⟨l.toArray⟩:ByteArray)[k]'hp).toNat:Nat):Int)==83)=false:=by
    rw[hi];simp only[beq_eq_false_iff_ne,ne_eq];intro e;exact q83 (UInt8.toNat_inj.1 (by show _=83;omega))
   have n84:(((((⟨l.toArray⟩:ByteArray)[k]'hp).toNat:Nat):Int)==84)=false:=by
    rw[hi];simp only[beq_eq_false_iff_ne,ne_eq];intro e;exact q84 (UInt8.toNat_inj.1 (by show _=84;omega))
   have n65:(((((⟨l.toArray⟩:ByteArray)[k]'hp).toNat:Nat):Int)==65)=false:=by
    rw[hi];simp only[beq_eq_false_iff_ne,ne_eq];intro e;exact q65 (UInt8.toNat_inj.1 (by show _=65;omega))
   have e66:(((((⟨l.toArray⟩:ByteArray)[k]'hp).toNat:Nat):Int)==66)=true:=by rw[hi,q66];rfl
   have hcall:Hd (∀ w',RW rb G fv w' (opL op L) (EE k)→Fr (fun j=>j=rb) w w'→Calls Tryd.prog 78 #[.pointer (some ⟨rb,0,none⟩),.int .u8 (((⟨l.toArray⟩:ByteArray)[k]'hp).toNat:Nat),.agg #[vI P,vI R,vI V,.slice a fl c],.agg #[vI op,vI zr,vI zs,vI zt,vI zn,.slice aa la ca,.slice ra lr cr]] w' fun r w''=>r = .returned (.tuple #[])∧RW rb G fv w'' (opL op L) (EE (k+1))∧Fr (fun j=>j=rb) w' w''):=fun w' h1 h2=>by
    have:=HC.out w' h1 h2
    rw[q66] at this
    rw[hi,q66];exact this
   clear hi q66 HC
   go_wp2_with fail
   go_region_with ((
    go_at_call 78
    refine(hcall.out _ (RW.fr HRR.out (Fr.drew (Fr.refl (fun _=>False) _)) (fun h=>h)) (hfw3.trans hfr.drew)).mono ?_
    rintro e w4 ⟨rfl,h4,hf4⟩
    have hf34:=hfr.drew.trans hf4))
   all_goals
    clear f0 f1 f2 f3 b0 b1 b2 b3 b4 b5 b6
    go_wp2_with fail
    exact⟨⟨k+1,by omega,by simp,h4,hf34⟩,by simp;omega⟩
  by_cases q86:l[k]=86
  ·have n82:(((((⟨l.toArray⟩:ByteArray)[k]'hp).toNat:Nat):Int)==82)=false:=by
    rw[hi];simp only[beq_eq_false_iff_ne,ne_eq];intro e;exact q82 (UInt8.toNat_inj.1 (by show _=82;omega))
   have n83:(((((⟨l.toArray⟩:ByteArray)[k]'hp).toNat:Nat):Int)==83)=false:=by
    rw[hi];simp only[beq_eq_false_iff_ne,ne_eq];intro e;exact q83 (UInt8.toNat_inj.1 (by show _=83;omega))
   have n84:(((((⟨l.toArray⟩:ByteArray)[k]'hp).toNat:Nat):Int)==84)=false:=by
    rw[hi];simp only[beq_eq_false_iff_ne,ne_eq];intro e;exact q84 (UInt8.toNat_inj.1 (by show _=84;omega))
   have n65:(((((⟨l.toArray⟩:ByteArray)[k]'hp).toNat:Nat):Int)==65)=false:=by
    rw[hi];simp only[beq_eq_false_iff_ne,ne_eq];intro e;exact q65 (UInt8.toNat_inj.1 (by show _=65;omega))
   have n66:(((((⟨l.toArray⟩:ByteArray)[k]'hp).toNat:Nat):Int)==66)=false:=by
    rw[hi];simp only[beq_eq_false_iff_ne,ne_eq];intro e;exact q66 (UInt8.toNat_inj.1 (by show _=66;omega))
   have e86:(((((⟨l.toArray⟩:ByteArray)[k]'hp).toNat:Nat):Int)==86)=true:=by rw[hi,q86];rfl
   have hcall:Hd (∀ w',RW rb G fv w' (opL op L) (EE k)→Fr (fun j=>j=rb) w w'→Calls Tryd.prog 78 #[.pointer (some ⟨rb,0,none⟩),.int .u8 (((⟨l.toArray⟩:ByteArray)[k]'hp).toNat:Nat),.agg #[vI P,vI R,vI V,.slice a fl c],.agg #[vI op,vI zr,vI zs,vI zt,vI zn,.slice aa la ca,.slice ra lr cr]] w' fun r w''=>r = .returned (.tuple #[])∧RW rb G fv w'' (opL op L) (EE (k+1))∧Fr (fun j=>j=rb) w' w''):=fun w' h1 h2=>by
    have:=HC.out w' h1 h2
    rw[q86] at this
    rw[hi,q86];exact this
   clear hi q86 HC
   go_wp2_with fail
   go_region_with ((
    go_at_call 78
    refine(hcall.out _ (RW.fr HRR.out (Fr.drew (Fr.refl (fun _=>False) _)) (fun h=>h)) (hfw3.trans hfr.drew)).mono ?_
    rintro e w4 ⟨rfl,h4,hf4⟩
    have hf34:=hfr.drew.trans hf4))
   all_goals
    clear f0 f1 f2 f3 b0 b1 b2 b3 b4 b5 b6
    go_wp2_with fail
    exact⟨⟨k+1,by omega,by simp,h4,hf34⟩,by simp;omega⟩
  have n82:(((((⟨l.toArray⟩:ByteArray)[k]'hp).toNat:Nat):Int)==82)=false:=by
   rw[hi];simp only[beq_eq_false_iff_ne,ne_eq];intro e;exact q82 (UInt8.toNat_inj.1 (by show _=82;omega))
  have n83:(((((⟨l.toArray⟩:ByteArray)[k]'hp).toNat:Nat):Int)==83)=false:=by
   rw[hi];simp only[beq_eq_false_iff_ne,ne_eq];intro e;exact q83 (UInt8.toNat_inj.1 (by show _=83;omega))
  have n84:(((((⟨l.toArray⟩:ByteArray)[k]'hp).toNat:Nat):Int)==84)=false:=by
   rw[hi];simp only[beq_eq_false_iff_ne,ne_eq];intro e;exact q84 (UInt8.toNat_inj.1 (by show _=84;omega))
  have n65:(((((⟨l.toArray⟩:ByteArray)[k]'hp).toNat:Nat):Int)==65)=false:=by
   rw[hi];simp only[beq_eq_false_iff_ne,ne_eq];intro e;exact q65 (UInt8.toNat_inj.1 (by show _=65;omega))
  have n66:(((((⟨l.toArray⟩:ByteArray)[k]'hp).toNat:Nat):Int)==66)=false:=by
   rw[hi];simp only[beq_eq_false_iff_ne,ne_eq];intro e;exact q66 (UInt8.toNat_inj.1 (by show _=66;omega))
  have n86:(((((⟨l.toArray⟩:ByteArray)[k]'hp).toNat:Nat):Int)==86)=false:=by
   rw[hi];simp only[beq_eq_false_iff_ne,ne_eq];intro e;exact q86 (UInt8.toNat_inj.1 (by show _=86;omega))
  have hcall:Hd (∀ w',RW rb G fv w' (opL op L) (EE k)→Fr (fun j=>j=rb) w w'→Calls Tryd.prog 79 #[.pointer (some ⟨rb,0,none⟩),.int .u8 (((⟨l.toArray⟩:ByteArray)[k]'hp).toNat:Nat),vI zn,vI fl] w' fun r w''=>r = .returned (.tuple #[])∧RW rb G fv w'' (opL op L) (EE (k+1))∧Fr (fun j=>j=rb) w' w''):=fun w' h1 h2=>by
   have:=HC.out w' h1 h2
   unfold partCall at this
   rw[if_neg q82,if_neg q83,if_neg q84,if_neg (fun h=>h.elim q65 (fun h=>h.elim q66 q86))] at this
   exact this
  clear hi HC q82 q83 q84 q65 q66 q86
  go_wp2_with fail
  go_region_with ((
   go_at_call 79
   refine(hcall.out _ (RW.fr HRR.out (Fr.drew (Fr.refl (fun _=>False) _)) (fun h=>h)) (hfw3.trans hfr.drew)).mono ?_
   rintro e w4 ⟨rfl,h4,hf4⟩
   have hf34:=hfr.drew.trans hf4))
  all_goals
   clear f0 f1 f2 f3 b0 b1 b2 b3 b4 b5 b6
   go_wp2_with fail
   exact⟨⟨k+1,by omega,by simp,h4,hf34⟩,by simp;omega⟩
end Go.Proofs.YtingenonbkencaaDoor
