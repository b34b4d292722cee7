import Derived.Test.YtdkijecnnmncnaaGreatDoorQRgJ
set_option linter.unusedVariables false
set_option linter.unusedSimpArgs false
namespace Go.Proofs.YtdkijecnnmncnaaGreatDoor
open Go.RowKit Go.Shelf
set_option maxRecDepth 100000
set_option maxHeartbeats 4000000
attribute [local go_sem] Oper.semAt_some
structure IV where
 op:Int
 r:Int
 s:Int
 t:Int
 n:Int
 aa:Option Addr
 an:Nat
 ac:Nat
 ra:Option Addr
 rn:Nat
 rc:Nat
abbrev IV.cells (x:IV):Array Value:=#[vI x.op,vI x.r,vI x.s,vI x.t,vI x.n,.slice x.aa x.an x.ac,.slice x.ra x.rn x.rc]
abbrev IV.val (x:IV):Value:=.agg x.cells
abbrev markD (D:Nat):Deferred:={ target:=.collected D,args:=#[] }
theorem leaves_marks {P:Program}{fn:Func}{tmps:Array Value}{R:Ending→World→Prop}{β:Type}{B n:Nat}{J:β→World→Prop}{s:β}(hJ:OwnFrom B J)(hr:fn.results=#[])(hR:∀ W,J s W→R (.returned (.tuple #[])) W) :
 ∀ (ds:List Nat) (W:World),ds.Nodup→(∀ D∈ds,B≤D∧W.heap[D]?=some (.deferred (some [])))→J s W→LeavesInM Fence.wide n P fn tmps R (ds.map markD) .returning W
 | [],W,_,_,h=>⟨.tuple #[],results_none hr _ _ _,hR W h⟩
 | D::ds,W,hn,hd,h=>by
   obtain⟨hB,hD⟩:=hd D List.mem_cons_self
   refine⟨by simp,Or.inl ⟨D,_,rfl,run_takeDeferred hD,?_⟩⟩
   refine leaves_marks hJ hr hR ds _ (List.nodup_cons.1 hn).2 (fun D' hD'=>?_) (hJ.putObj _ h hB hD rfl)
   have h1:=hd D' (List.mem_cons_of_mem _ hD')
   have hne:D'≠D:=fun e=>(List.nodup_cons.1 hn).1 (e ▸ hD')
   exact⟨h1.1,(World.putObj_heap_other hne).trans h1.2⟩
structure EI (J:List Ed→World→Prop)(n0 B:Nat)(pre0:List Ed)(ds:List Nat)(w6:World)(X:Nat)(bo yo io:Array Value)(pre:List Ed)(W':World):Prop where
 j:J (pre0++pre) W'
 kp:KpA n0 w6 W'
 d:∀ D∈ds,B≤D∧D<w6.heap.size∧W'.heap[D]?=some (.deferred (some []))
 b:W'.heap[B]?=some (.cells bo 138)
 y:W'.heap[B+1]?=some (.cells yo 176)
 x:W'.heap[X]?=some (.cells io 79)
theorem EI.own {J:List Ed→World→Prop}{n0 B:Nat}{pre0:List Ed}{ds:List Nat}{w6:World}{X:Nat}{bo yo io:Array Value}(hJ:OwnFrom B J)(hn0:n0≤w6.heap.size)(hB:B≤w6.heap.size):OwnFrom w6.heap.size (EI J n0 B pre0 ds w6 X bo yo io):=fun pre A A' row h hg hr=>by
 have nc:∀ (k:Nat) cs t,A.heap[k]?=some (.cells cs t)→A'.heap[k]?=some (.cells cs t):=fun k cs t hk=>by
  refine(hg.block k (heap_lt0 hk) (fun e=>?_)).trans hk
  obtain⟨-,o,ho,hc⟩:=hr k e.symm
  rw[hk] at ho
  cases ho
  cases hc
 refine⟨hJ _ A A' row h.j hg (fun r e=>⟨by have:=(hr r e).1;omega,(hr r e).2⟩),⟨h.kp.below.trans ((Below.refl n0 A).grown hg (by have:=h.kp.below.size;omega) (fun k e=>by have:=(hr k e).1;omega)),fun k cs t hk h1 h2=>nc k cs t (h.kp.typed k cs t hk h1 h2)⟩,fun D hD=>?_,nc _ _ _ h.b,nc _ _ _ h.y,nc _ _ _ h.x⟩
 obtain⟨h1,h2,h3⟩:=h.d D hD
 exact⟨h1,h2,(hg.block D (heap_lt0 h3) (fun e=>by have:=(hr D e.symm).1;omega)).trans h3⟩
theorem EI.fr {J:List Ed→World→Prop}{n0 B:Nat}{pre0:List Ed}{ds:List Nat}{w6:World}{X:Nat}{bo yo io:Array Value}{pre:List Ed}{A A':World}(h:EI J n0 B pre0 ds w6 X bo yo io pre A)(hJ:OwnFrom B J)(hn0:n0≤w6.heap.size)(f:Fr (fun _=>False) A A'):EI J n0 B pre0 ds w6 X bo yo io pre A':=by
 have nc:∀ (k:Nat) (o:Obj),A.heap[k]?=some o→A'.heap[k]?=some o:=fun k o hk=>(f.block k (heap_lt0 hk) (fun e=>e)).trans hk
 exact⟨own_fr hJ h.j f,h.kp.trans (KpA.ofFr f (by have:=h.kp.below.size;omega)),fun D hD=>⟨(h.d D hD).1,(h.d D hD).2.1,nc _ _ (h.d D hD).2.2⟩,nc _ _ h.b,nc _ _ h.y,nc _ _ h.x⟩
theorem EI.yielded {J:List Ed→World→Prop}{n0 B l:Nat}{pre0:List Ed}{ds:List Nat}{w6:World}{X:Nat}{bo yo io:Array Value}{pre:List Ed}{z:Ed}{A A':World}(h:EI J n0 B pre0 ds w6 X bo yo io pre A)(hl:l<B)(hj:J (pre0++pre++[z]) A')(k:KpB n0 l A A'):EI J n0 B pre0 ds w6 X bo yo io (pre++[z]) A':=by
 refine⟨by rw[← List.append_assoc];exact hj,h.kp.trans k.a,fun D hD=>?_,k.a.typed _ _ _ h.b (by decide) (by decide),k.a.typed _ _ _ h.y (by decide) (by decide),k.a.typed _ _ _ h.x (by decide) (by decide)⟩
 obtain⟨h1,h2,h3⟩:=h.d D hD
 exact⟨h1,h2,k.other D _ h3 rfl (by omega)⟩
theorem roundIn_wide {m m' l':Nat}{P:Program}{l:Nat}{f:FuncId}{tmps:Array Value}{assign body:Code}{w:World}{R:Ending→World→Prop}(h:RoundIn Fence.wide m P l f tmps assign body w R):RoundIn (Fence.wide.inRound l') m' P l f tmps assign body w R :=
 ⟨h.1,fun c cs _=>h.2 c cs (room_wide _)⟩
theorem flat_step (EE:Nat→List Ed)(k:Nat):(List.range (k+1)).flatMap EE=(List.range k).flatMap EE++EE k:=by simp[List.range_succ]
theorem flat_le (EE:Nat→List Ed):∀ {k m:Nat},k≤m→((List.range k).flatMap EE).length≤((List.range m).flatMap EE).length
 | k,0,h=>by
   have e:k=0:=by omega
   subst e
   exact Nat.le_refl _
 | k,m+1,h=>by
   rw[flat_step EE m,List.length_append]
   by_cases e:k=m+1
   ·subst e;rw[flat_step EE m,List.length_append];exact Nat.le_refl _
   ·have:=flat_le EE (k:=k) (m:=m) (by omega);omega
theorem edges_in (n:Nat)(hn:3≤n)(l n0 N:Nat)(P R V:Int)(ca:Option Addr)(m cc:Nat)(sa:Option Addr)(sn sc:Nat)(I:Nat→IV)(EE:Nat→List Ed)(cl:Nat→Int)(hm:m≤1000000)(W:World)(hn0:n0≤W.heap.size)(hl:n0≤l)(hlW:l<W.heap.size)
 (hc0:cl 0=cellX R V) (hcl:∀ i,i<m→cl (i+1)=if (I i).op=6 then wrap64 (cl i+1) else cl i)
 (hco:0<m→∃ ck co,ca=some ⟨ck,co,none⟩∧ck<n0∧∀ i,i<m→∀ o,o<7→W.cell? ⟨ck,co+i*7+o,none⟩=(I i).cells[o]?)
 (hG:∀ i,i<m→Given n0 (.agg #[vI P,vI R,vI V,.slice ca m cc,.slice sa sn sc]) (I i).val (cl i) (EE i) W)
 (J:List Ed→World→Prop) (hJ:OwnFrom W.heap.size J) (hN:((List.range m).flatMap EE).length=N)
 (hY:∀ pre x W1,J pre W1→pre.length<N→YieldAt Fence.wide (n-1) Tryz.prog l (encE x) W1 fun e W'=>e = .returned (.bool true)∧J (pre++[x]) W'∧KpB n0 l W1 W')
 (h0:J [] W) :
 CallsIn Fence.wide n Tryz.prog 87 #[.agg #[vI P,vI R,vI V,.slice ca m cc,.slice sa sn sc],.func (.yield l) #[] #[]] W fun e W'=>(∃ v,e = .returned v)∧J ((List.range m).flatMap EE) W':=by
 refine callsIn_of_wp_marks Tryz.func87 rfl trivial ?_ rfl
 simp only[Tryz.ntmps87,List.size_toArray,List.length_cons,List.length_nil,Nat.reduceAdd,Nat.reduceSub,Array.replicate_succ,Array.replicate_zero,List.push_toArray,List.append_toArray,List.nil_append,List.cons_append]
 gi_wp2_with fail
 refine⟨trivial,(fun h=>by cases h),?_⟩
 refine(callsIn_wide.2 (firstCell_any P R V ca m cc _)).mono ?_
 rintro e w2 ⟨rfl,rfl⟩
 gi_wp2_with fail
 have hFs:Fr (fun _=>False) W (((W.alloc (.cells #[vI P,vI R,vI V,.slice ca m cc,.slice sa sn sc] 138)).alloc (.cells #[.func (.yield l) #[] #[]] 176)).alloc (.cells #[vI P,vI R,vI V,.slice ca m cc] 45)):=Fr.alloc (Fr.alloc (Fr.alloc (Fr.refl _ W) _) _) _
 have hBs:(((W.alloc (.cells #[vI P,vI R,vI V,.slice ca m cc,.slice sa sn sc] 138)).alloc (.cells #[.func (.yield l) #[] #[]] 176)).alloc (.cells #[vI P,vI R,vI V,.slice ca m cc] 45)).heap[W.heap.size]?=some (.cells #[vI P,vI R,vI V,.slice ca m cc,.slice sa sn sc] 138):=by
  rw[Below.heap_alloc _ _ _ (by simp;omega),Below.heap_alloc _ _ _ (by simp)];exact heap_new0 W _
 have hYs:(((W.alloc (.cells #[vI P,vI R,vI V,.slice ca m cc,.slice sa sn sc] 138)).alloc (.cells #[.func (.yield l) #[] #[]] 176)).alloc (.cells #[vI P,vI R,vI V,.slice ca m cc] 45)).heap[W.heap.size+1]?=some (.cells #[.func (.yield l) #[] #[]] 176):=by
  have:=heap_new0 (W.alloc (.cells #[vI P,vI R,vI V,.slice ca m cc,.slice sa sn sc] 138)) (.cells #[.func (.yield l) #[] #[]] 176)
  rw[World.size_alloc] at this
  rw[Below.heap_alloc _ _ _ (by simp)];exact this
 generalize ((W.alloc (.cells #[vI P,vI R,vI V,.slice ca m cc,.slice sa sn sc] 138)).alloc (.cells #[.func (.yield l) #[] #[]] 176)).alloc (.cells #[vI P,vI R,vI V,.slice ca m cc] 45)=wS at *
 refine wpIn_loop (fun a' w'=>∃ (k:Nat) (ds:List Nat) (u6 u7 u16 u17 u18 u19 u20 u21 u22 u23 u24 u25 u26 u27 u28 u29 u30 u31 u32 u33:Value),a'={ tmps:=#[.agg #[vI P,vI R,vI V,.slice ca m cc,.slice sa sn sc],.func (.yield l) #[] #[],.pointer (some ⟨W.heap.size,0,none⟩),.pointer (some ⟨W.heap.size+1,0,none⟩),vI (cl k),undef,u6,u7,.pointer (some ⟨W.heap.size,0,none⟩),.agg #[vI P,vI R,vI V,.slice ca m cc],vI (cellX R V),.pointer (some ⟨W.heap.size,0,none⟩),.pointer (some ⟨W.heap.size,3,none⟩),.slice ca m cc,.int .i64 (m:Int),.int .i64 (k:Int),u16,u17,u18,u19,u20,u21,u22,u23,u24,u25,u26,u27,u28,u29,u30,u31,u32,u33],defers:=ds.map markD }∧k≤m∧Hd (ds.Nodup)∧Hd (∀ D∈ds,W.heap.size≤D∧w'.heap[D]?=some (.deferred (some [])))∧Hd (J ((List.range k).flatMap EE) w')∧Hd (KpA n0 W w')∧Hd (w'.heap[W.heap.size]?=some (.cells #[vI P,vI R,vI V,.slice ca m cc,.slice sa sn sc] 138))∧Hd (w'.heap[W.heap.size+1]?=some (.cells #[.func (.yield l) #[] #[]] 176))) (fun a' _=>m-(RowKit.intOf (a'.tmps.getD 15 undef)).toNat) ?_ ?_
 ·rw[← hc0]
  refine⟨0,[],undef,undef,undef,undef,undef,undef,undef,undef,undef,undef,undef,undef,undef,undef,undef,undef,undef,undef,undef,undef,?_,Nat.zero_le _,List.nodup_nil,fun D hD=>by simp at hD,own_fr hJ h0 hFs,KpA.ofFr hFs hn0,hBs,hYs⟩
  rw[hc0]
  rfl
 ·rintro a' w' ⟨k,ds,u6,u7,u16,u17,u18,u19,u20,u21,u22,u23,u24,u25,u26,u27,u28,u29,u30,u31,u32,u33,rfl,hk,HND,HD,HJ,HK,HB,HYB⟩
  clear hFs hBs hYs
  have hb0:w'.cell? ⟨W.heap.size,0,none⟩=some (vI P):=by rw[cell_of0 HB.out];rfl
  have hb1:w'.cell? ⟨W.heap.size,1,none⟩=some (vI R):=by rw[cell_of0 HB.out];rfl
  have hb2:w'.cell? ⟨W.heap.size,2,none⟩=some (vI V):=by rw[cell_of0 HB.out];rfl
  have hb3:w'.cell? ⟨W.heap.size,3,none⟩=some (.slice ca m cc):=by rw[cell_of0 HB.out];rfl
  have hb4:w'.cell? ⟨W.heap.size,4,none⟩=some (.slice sa sn sc):=by rw[cell_of0 HB.out];rfl
  by_cases hlt:k<m
  ·obtain⟨ck,co,rfl,hck,hcs⟩:=hco (by omega)
   have cx:∀ o,o<7→w'.cell? ⟨ck,co+k*7+o,none⟩=(I k).cells[o]?:=fun o ho=>(HK.out.below.cell (p:=⟨ck,co+k*7+o,none⟩) hck).trans (hcs k hlt o ho)
   have x0:w'.cell? ⟨ck,co+k*7,none⟩=some (vI (I k).op):=cx 0 (by omega)
   have x1:w'.cell? ⟨ck,co+k*7+1,none⟩=some (vI (I k).r):=cx 1 (by omega)
   have x2:w'.cell? ⟨ck,co+k*7+2,none⟩=some (vI (I k).s):=cx 2 (by omega)
   have x3:w'.cell? ⟨ck,co+k*7+3,none⟩=some (vI (I k).t):=cx 3 (by omega)
   have x4:w'.cell? ⟨ck,co+k*7+4,none⟩=some (vI (I k).n):=cx 4 (by omega)
   have x5:w'.cell? ⟨ck,co+k*7+5,none⟩=some (.slice (I k).aa (I k).an (I k).ac):=cx 5 (by omega)
   have x6:w'.cell? ⟨ck,co+k*7+6,none⟩=some (.slice (I k).ra (I k).rn (I k).rc):=cx 6 (by omega)
   have hk0:(0:Int)≤k:=by omega
   have hk1:(k:Int)<m:=by omega
   have HGk:Hd (Given n0 (.agg #[vI P,vI R,vI V,.slice (some ⟨ck,co,none⟩) m cc,.slice sa sn sc]) (I k).val (cl k) (EE k) W):=hG k hlt
   have HCL:Hd (cl (k+1)=if (I k).op=6 then wrap64 (cl k+1) else cl k):=hcl k hlt
   clear cx hcs hco
   generalize I k=ik at *
   have hFx:Fr (fun _=>False) w' (w'.alloc (.cells ik.cells 79)):=Fr.alloc (Fr.refl _ w') _
   have hBl:=heap_lt0 HB.out
   have g0:(w'.alloc (.cells ik.cells 79)).cell? ⟨W.heap.size,0,none⟩=some (vI P):=(hFx.cell hBl (fun e=>e)).trans hb0
   have g1:(w'.alloc (.cells ik.cells 79)).cell? ⟨W.heap.size,1,none⟩=some (vI R):=(hFx.cell hBl (fun e=>e)).trans hb1
   have g2:(w'.alloc (.cells ik.cells 79)).cell? ⟨W.heap.size,2,none⟩=some (vI V):=(hFx.cell hBl (fun e=>e)).trans hb2
   have g3:(w'.alloc (.cells ik.cells 79)).cell? ⟨W.heap.size,3,none⟩=some (.slice (some ⟨ck,co,none⟩) m cc):=(hFx.cell hBl (fun e=>e)).trans hb3
   have g4:(w'.alloc (.cells ik.cells 79)).cell? ⟨W.heap.size,4,none⟩=some (.slice sa sn sc):=(hFx.cell hBl (fun e=>e)).trans hb4
   have HX:Hd ((w'.alloc (.cells ik.cells 79)).heap[w'.heap.size]?=some (.cells ik.cells 79)):=heap_new0 w' _
   have HKx:Hd (KpA n0 W (w'.alloc (.cells ik.cells 79))):=HK.out.trans (KpA.ofFr hFx (Nat.le_trans hn0 HK.out.below.size))
   gi_wp2_with fail
   refine⟨trivial,(fun h=>by cases h),?_⟩
   refine(callsIn_wide.2 (HGk.out (w'.alloc (.cells ik.cells 79)) HKx.out)).mono ?_
   rintro e w6 ⟨g,lb,rfl,heg,hF6,hseq⟩
   have HFw:Hd (Fr (fun _=>False) w' w6):=hFx.trans hF6
   have HX6:Hd (w6.heap[w'.heap.size]?=some (.cells ik.cells 79)):=(hF6.block _ (heap_lt0 HX.out) (fun e=>e)).trans HX.out
   clear g0 g1 g2 g3 g4 hb0 hb1 hb2 hb3 hb4 x0 x1 x2 x3 x4 x5 x6 hFx hF6 HX HKx
   gi_wp2_with fail
   have hwl:W.heap.size≤w6.heap.size:=Nat.le_trans HK.out.below.size HFw.out.size
   have hI0:EI J n0 W.heap.size ((List.range k).flatMap EE) ds w6 w'.heap.size #[vI P,vI R,vI V,.slice (some ⟨ck,co,none⟩) m cc,.slice sa sn sc] #[.func (.yield l) #[] #[]] ik.cells [] w6:=by
    have nc:∀ (k:Nat) (o:Obj),w'.heap[k]?=some o→w6.heap[k]?=some o:=fun k o hk=>(HFw.out.block k (heap_lt0 hk) (fun e=>e)).trans hk
    exact⟨by rw[List.append_nil];exact own_fr hJ HJ.out HFw.out,KpA.refl _ _,fun D hD=>⟨(HD.out D hD).1,heap_lt0 (nc _ _ (HD.out D hD).2),nc _ _ (HD.out D hD).2⟩,nc _ _ HB.out,nc _ _ HYB.out,HX6.out⟩
   refine wpIn_rangeC rfl (by omega) (gf:=g) (fst:=#[]) (lb:=lb) rfl trivial heg (hseq (n-1)) (fun _ _ _ _ h1 h2=>h1.trans h2) (fun l' W' r o' hl' h=>KpA.putObj o' h (by omega)) (Below.refl _ _) (fun _=>rfl)
    (EI J n0 W.heap.size ((List.range k).flatMap EE) ds w6 w'.heap.size #[vI P,vI R,vI V,.slice (some ⟨ck,co,none⟩) m cc,.slice sa sn sc] #[.func (.yield l) #[] #[]] ik.cells) (EI.own hJ (by omega) hwl) hI0
    (fun z a' W'=>∃ Y,a'={ tmps:=#[.agg #[vI P,vI R,vI V,.slice (some ⟨ck,co,none⟩) m cc,.slice sa sn sc],.func (.yield l) #[] #[],.pointer (some ⟨W.heap.size,0,none⟩),.pointer (some ⟨W.heap.size+1,0,none⟩),vI (cl k),undef,.pointer (some ⟨w'.heap.size,0,none⟩),.pointer (some ⟨Y,0,none⟩),.pointer (some ⟨W.heap.size,0,none⟩),.agg #[vI P,vI R,vI V,.slice (some ⟨ck,co,none⟩) m cc],vI (cellX R V),.pointer (some ⟨W.heap.size,0,none⟩),.pointer (some ⟨W.heap.size,3,none⟩),.slice (some ⟨ck,co,none⟩) m cc,.int .i64 (m:Int),.int .i64 (k:Int),.bool true,.pointer (some ⟨ck,co+k*7,none⟩),ik.val,.agg #[vI P,vI R,vI V,.slice (some ⟨ck,co,none⟩) m cc,.slice sa sn sc],ik.val,vI (cl k),.func (.func g) #[] lb,.agg #[vI z.1,vI z.2.1,vI z.2.2],u24,u25,u26,u27,u28,u29,u30,u31,u32,u33],defers:=[] }∧W'.heap[Y]?=some (.cells #[vI z.1,vI z.2.1,vI z.2.2] 140))
    (fun z a' _ A A' row h hg hr=>?own) ?assign ?body ?done
   case own =>
    obtain⟨Y,e,hY'⟩:=h
    refine⟨Y,e,(hg.block Y (heap_lt0 hY') (fun e=>?_)).trans hY'⟩
    obtain⟨-,o,ho,hc⟩:=hr Y e.symm
    rw[hY'] at ho
    cases ho
    cases hc
   case assign =>
    intro l' pre z W' K hl' hi hK
    have hFa:Fr (fun _=>False) W' (W'.alloc (.cells #[vI z.1,vI z.2.1,vI z.2.2] 140)):=Fr.alloc (Fr.refl _ W') _
    gi_wp2
    exact hK _ _ ((KeepsOthers.alloc W' _).from _) (KpA.ofFr hFa (by have:=hi.kp.below.size;omega)) (hi.fr hJ (by omega) hFa) ⟨_,rfl,heap_new0 W' _⟩
   case body =>
    rintro l' pre z a' W' hl' hi ⟨Y,rfl,hYb⟩ hlen
    have y0:W'.cell? ⟨W.heap.size+1,0,none⟩=some (.func (.yield l) #[] #[]):=by rw[cell_of0 hi.y];rfl
    have z0:W'.cell? ⟨Y,0,none⟩=some (vI z.1):=by rw[cell_of0 hYb];rfl
    have z1:W'.cell? ⟨Y,1,none⟩=some (vI z.2.1):=by rw[cell_of0 hYb];rfl
    have z2:W'.cell? ⟨Y,2,none⟩=some (vI z.2.2):=by rw[cell_of0 hYb];rfl
    obtain⟨fn,tmps,assign,body,hy,hR⟩:=hY ((List.range k).flatMap EE++pre) z W' hi.j (by
     have h1:=flat_le EE (k:=k+1) (m:=m) (by omega)
     rw[flat_step,List.length_append,hN] at h1
     rw[List.length_append];omega)
    gi_wp2
    refine⟨(fun h=>by cases h),(roundIn_wide hR).mono ?_⟩
    rintro e W3 ⟨rfl,hj3,hk3⟩
    gi_wp2
    exact⟨⟨hk3.a.below.size,fun j o hj hj2 ho=>hk3.other j o hj2 ho (by omega)⟩,hk3.a,hi.yielded hlW hj3 hk3⟩
   case done =>
    rintro D xs W' hDl rfl hi hD
    have x0:W'.cell? ⟨w'.heap.size,0,none⟩=some (vI ik.op):=by rw[cell_of0 hi.x];rfl
    have HI:Hd (EI J n0 W.heap.size ((List.range k).flatMap EE) ds w6 w'.heap.size #[vI P,vI R,vI V,.slice (some ⟨ck,co,none⟩) m cc,.slice sa sn sc] #[.func (.yield l) #[] #[]] ik.cells (EE k) W'):=hi
    have HKW:Hd (KpA n0 W W'):=(HK.out.trans (KpA.ofFr HFw.out (Nat.le_trans hn0 HK.out.below.size))).trans hi.kp
    have HDn:Hd ((D::ds).Nodup):=List.nodup_cons.2 ⟨fun h=>by have:=(hi.d D h).2.1;omega,HND.out⟩
    have HDs:Hd (∀ D'∈D::ds,W.heap.size≤D'∧W'.heap[D']?=some (.deferred (some []))):=fun D' h=>by
     rcases List.mem_cons.1 h with e | h
     ·subst e;exact⟨by omega,hD⟩
     ·exact⟨(hi.d D' h).1,(hi.d D' h).2.2⟩
    have HJk:Hd (J ((List.range (k+1)).flatMap EE) W'):=by unfold Hd;rw[flat_step];exact hi.j
    clear hi hD
    by_cases h6:ik.op=6
    ·have d6:(ik.op==6)=true:=by simpa using h6
     have HC6:Hd (cl (k+1)=wrap64 (cl k+1)):=by unfold Hd;rw[HCL.out,if_pos h6]
     clear h6
     gi_wp2
     refine⟨⟨k+1,D::ds,?_⟩,?_⟩
     ·(repeat apply Exists.intro)
      refine⟨?e,by omega,HDn.out,HDs.out,HJk.out,HKW.out,HI.out.b,HI.out.y⟩
      rw[HC6.out]
      rfl
     ·simp[RowKit.intOf];omega
    ·have d6:(ik.op==6)=false:=by simpa using h6
     have HC6:Hd (cl (k+1)=cl k):=by unfold Hd;rw[HCL.out,if_neg h6]
     clear h6
     gi_wp2
     refine⟨⟨k+1,D::ds,?_⟩,?_⟩
     ·rw[HC6.out]
      exact⟨.pointer (some ⟨w'.heap.size,0,none⟩),u7,.bool true,.pointer (some ⟨ck,co+k*7,none⟩),ik.val,.agg #[vI P,vI R,vI V,.slice (some ⟨ck,co,none⟩) m cc,.slice sa sn sc],ik.val,vI (cl k),.func (.func g) #[] lb,u23,u24,u25,u26,u27,.pointer (some ⟨w'.heap.size,0,none⟩),vI ik.op,.bool false,u31,u32,.int .i64 ((k:Int)+1),rfl,by omega,HDn.out,HDs.out,HJk.out,HKW.out,HI.out.b,HI.out.y⟩
     ·simp[RowKit.intOf];omega
  ·have hke:k=m:=by omega
   subst hke
   gi_wp2
   exact leaves_marks hJ rfl (fun W hj=>⟨⟨_,rfl⟩,hj⟩) ds w' HND.out HD.out HJ.out
theorem edges_gives (n:Nat)(hn:3≤n)(n0:Nat)(P R V:Int)(ca:Option Addr)(m cc:Nat)(sa:Option Addr)(sn sc:Nat)(I:Nat→IV)(EE:Nat→List Ed)(cl:Nat→Int)(hm:m≤1000000)(w:World)(hn0:n0≤w.heap.size)
 (hc0:cl 0=cellX R V) (hcl:∀ i,i<m→cl (i+1)=if (I i).op=6 then wrap64 (cl i+1) else cl i)
 (hco:0<m→∃ ck co,ca=some ⟨ck,co,none⟩∧ck<n0∧∀ i,i<m→∀ o,o<7→w.cell? ⟨ck,co+i*7+o,none⟩=(I i).cells[o]?)
 (hG:∀ i,i<m→Given n0 (.agg #[vI P,vI R,vI V,.slice ca m cc,.slice sa sn sc]) (I i).val (cl i) (EE i) w)
 (hB:∀ W,Below w.heap.size w W→KpA n0 w W)
 (l:Nat) (J:List Ed→World→Prop) (W:World) (hW:Below w.heap.size w W) (hl:n0≤l) (hlW:l<W.heap.size) (hJ:OwnFrom W.heap.size J)
 (hY:∀ pre x W1,J pre W1→pre.length<((List.range m).flatMap EE).length→YieldAt Fence.wide (n-1) Tryz.prog l (encE x) W1 fun e W'=>e = .returned (.bool true)∧J (pre++[x]) W'∧KpB n0 l W1 W') (h0:J [] W) :
 CallsIn Fence.wide n Tryz.prog 87 #[.agg #[vI P,vI R,vI V,.slice ca m cc,.slice sa sn sc],.func (.yield l) #[] #[]] W fun e W'=>(∃ v,e = .returned v)∧∃ xs,xs=(List.range m).flatMap EE∧J xs W':=by
 refine(edges_in n hn l n0 _ P R V ca m cc sa sn sc I EE cl hm W (Nat.le_trans hn0 hW.size) hl hlW hc0 hcl (fun h=>?_) (fun i hi W' hK=>hG i hi W' ((hB W hW).trans hK)) J hJ rfl hY h0).mono ?_
 ·obtain⟨ck,co,e,hk,hc⟩:=hco h
  exact⟨ck,co,e,hk,fun i hi o ho=>(hW.cell (p:=⟨ck,co+i*7+o,none⟩) (by show ck<_;omega)).trans (hc i hi o ho)⟩
 ·rintro e W' ⟨he,hj⟩
  exact⟨he,_,rfl,hj⟩
theorem edges_seq (n:Nat)(hn:3≤n)(n0:Nat)(P R V:Int)(ca:Option Addr)(m cc:Nat)(sa:Option Addr)(sn sc:Nat)(I:Nat→IV)(EE:Nat→List Ed)(cl:Nat→Int)(hm:m≤1000000)(w:World)(hn0:n0≤w.heap.size)
 (hc0:cl 0=cellX R V) (hcl:∀ i,i<m→cl (i+1)=if (I i).op=6 then wrap64 (cl i+1) else cl i)
 (hco:0<m→∃ ck co,ca=some ⟨ck,co,none⟩∧ck<n0∧∀ i,i<m→∀ o,o<7→w.cell? ⟨ck,co+i*7+o,none⟩=(I i).cells[o]?)
 (hG:∀ i,i<m→Given n0 (.agg #[vI P,vI R,vI V,.slice ca m cc,.slice sa sn sc]) (I i).val (cl i) (EE i) w) :
 SeqGivesC Fence.wide n Tryz.prog 87 #[.agg #[vI P,vI R,vI V,.slice ca m cc,.slice sa sn sc]] #[] encE (KpB n0) (fun xs=>xs=(List.range m).flatMap EE) ((List.range m).flatMap EE).length w:=fun l J W hW hl hlW hJ hY h0 =>
 edges_gives n hn n0 P R V ca m cc sa sn sc I EE cl hm w hn0 hc0 hcl hco hG (fun W' hB=>⟨hB.mono hn0,fun k cs t hk _ _=>(hB.block k (heap_lt0 hk)).trans hk⟩) l J W hW (by omega) hlW hJ hY h0
set_option maxRecDepth 100000
set_option maxHeartbeats 2000000
attribute [local go_sem] Oper.semAt_some
theorem only1_in (n l n0 Ba:Nat)(x:Ed)(W:World)(J:List Ed→World→Prop)
 (hY:∀ pre x W,J pre W→pre.length<1→YieldAt Fence.wide (n-1) Tryz.prog l (encE x) W fun e W'=>e = .returned (.bool true)∧J (pre++[x]) W'∧KpA n0 W W')
 (hBa:W.heap[Ba]?=some (.cells #[vI x.1,vI x.2.1,vI x.2.2] 140)) (h0:J [] W) :
 CallsIn Fence.wide n Tryz.prog 191 #[.func (.yield l) #[] #[],.pointer (some ⟨Ba,0,none⟩)] W fun e W'=>(∃ v,e = .returned v)∧J [x] W':=by
 have q0:W.cell? ⟨Ba,0,none⟩=some (vI x.1):=by rw[cell_of0 hBa];rfl
 have q1:W.cell? ⟨Ba,1,none⟩=some (vI x.2.1):=by rw[cell_of0 hBa];rfl
 have q2:W.cell? ⟨Ba,2,none⟩=some (vI x.2.2):=by rw[cell_of0 hBa];rfl
 obtain⟨fn,tmps,assign,body,hy,hR⟩:=hY [] x W h0 (by simp)
 refine callsIn_of_wp Tryz.func191 rfl trivial ?_ rfl
 simp only[Tryz.ntmps191,List.size_toArray,List.length_cons,List.length_nil,Nat.reduceAdd,Nat.reduceSub,Array.replicate_succ,Array.replicate_zero,List.push_toArray,List.append_toArray,List.nil_append,List.cons_append]
 gi_wp2
 refine⟨(fun h=>by cases h),hR.mono ?_⟩
 rintro e W3 ⟨rfl,hJ3,hk3⟩
 gi_wp2
 go_end0
 exact⟨⟨_,rfl⟩,hJ3⟩
theorem only_gives (n n0 Ba:Nat)(x:Ed)(w:World)(hBa:w.heap[Ba]?=some (.cells #[vI x.1,vI x.2.1,vI x.2.2] 140)) :
 SeqGivesC Fence.wide n Tryz.prog 191 #[] #[.pointer (some ⟨Ba,0,none⟩)] encE (fun _=>KpA n0) (fun xs=>xs=[x]) 1 w:=fun l J W hW _ hl hJ hY h0 =>
 (only1_in n l n0 Ba x W J hY ((hW.block Ba (heap_lt0 hBa)).trans hBa) h0).mono (fun e W' ⟨he,hj⟩=>⟨he,_,rfl,hj⟩)
theorem none_gives (n n0:Nat)(w:World):SeqGivesC Fence.wide n Tryz.prog 158 #[] #[] encE (fun _=>KpA n0) (fun xs=>xs=[]) 0 w:=fun l J W hW _ hl hJ hY h0=>by
 refine callsIn_of_wp Tryz.func158 rfl trivial ?_ rfl
 simp only[Tryz.ntmps158,List.size_toArray,List.length_cons,List.length_nil,Nat.reduceAdd,Nat.reduceSub,Array.replicate_succ,Array.replicate_zero,List.push_toArray,List.append_toArray,List.nil_append,List.cons_append]
 gi_wp2
 go_end0
 exact⟨⟨_,rfl⟩,h0⟩
theorem only_any (x:Ed)(w:World):Calls Tryz.prog 154 (encE x) w fun e w'=>e = .returned (.func (.func 191) #[] #[.pointer (some ⟨w.heap.size,0,none⟩)])∧w'=w.alloc (.cells #[vI x.1,vI x.2.1,vI x.2.2] 140):=by
 go_enter Tryz.func154,Tryz.ntmps154
 go_wp2
 go_ret
 exact⟨rfl,rfl⟩
def endX (R V wh r s cell:Int):Int:=if wh=1 then varX R V r else if wh=2 then varX R V s else if wh=3 then cell else 0
theorem end_any (P R V:Int)(ca:Option Addr)(cn cc:Nat)(sa:Option Addr)(sn sc:Nat)(iv:IV)(wh cell:Int)(w:World) :
 Calls Tryz.prog 155 #[.agg #[vI P,vI R,vI V,.slice ca cn cc,.slice sa sn sc],vI wh,iv.val,vI cell] w fun e w'=>e = .returned (vI (endX R V wh iv.r iv.s cell))∧Fr (fun _=>False) w w':=by
 obtain⟨op,r,s,t,n,aa,an,ac,ra,rn,rc⟩:=iv
 obtain⟨wa,hwa⟩:∃ wa,wa=(w.alloc (.cells #[vI P,vI R,vI V,.slice ca cn cc,.slice sa sn sc] 138)).alloc (.cells #[vI op,vI r,vI s,vI t,vI n,.slice aa an ac,.slice ra rn rc] 79):=⟨_,rfl⟩
 have hF:Fr (fun _=>False) w wa:=by rw[hwa];exact Fr.alloc (Fr.alloc (Fr.refl _ w) _) _
 have b0:wa.heap[w.heap.size]?=some (.cells #[vI P,vI R,vI V,.slice ca cn cc,.slice sa sn sc] 138):=by rw[hwa,Go.RowKit.Below.heap_alloc _ _ _ (by simp)];exact heap_new0 w _
 have b1:wa.heap[w.heap.size+1]?=some (.cells #[vI op,vI r,vI s,vI t,vI n,.slice aa an ac,.slice ra rn rc] 79):=by
  have:=heap_new0 (w.alloc (.cells #[vI P,vI R,vI V,.slice ca cn cc,.slice sa sn sc] 138)) (.cells #[vI op,vI r,vI s,vI t,vI n,.slice aa an ac,.slice ra rn rc] 79)
  rw[World.size_alloc] at this
  rw[hwa];exact this
 have HWA:Hd (wa=(w.alloc (.cells #[vI P,vI R,vI V,.slice ca cn cc,.slice sa sn sc] 138)).alloc (.cells #[vI op,vI r,vI s,vI t,vI n,.slice aa an ac,.slice ra rn rc] 79)):=hwa
 obtain⟨H,hH⟩:∃ H,H=w.heap.size:=⟨_,rfl⟩
 have HH:Hd (H=w.heap.size):=hH
 rw[← hH] at b0 b1
 have p0:wa.cell? ⟨H,0,none⟩=some (vI P):=by rw[cell_of0 b0];rfl
 have p1:wa.cell? ⟨H,1,none⟩=some (vI R):=by rw[cell_of0 b0];rfl
 have p2:wa.cell? ⟨H,2,none⟩=some (vI V):=by rw[cell_of0 b0];rfl
 have p3:wa.cell? ⟨H,3,none⟩=some (.slice ca cn cc):=by rw[cell_of0 b0];rfl
 have i1:wa.cell? ⟨H+1,1,none⟩=some (vI r):=by rw[cell_of0 b1];rfl
 have i2:wa.cell? ⟨H+1,2,none⟩=some (vI s):=by rw[cell_of0 b1];rfl
 have HF:Hd (Fr (fun _=>False) w wa):=hF
 clear hwa hF b0 b1 hH
 go_enter Tryz.func155,Tryz.ntmps155
 go_upto_region 1 with fail
 rw[← HWA.out,← HH.out]
 clear HWA HH
 by_cases h1:wh=1
 ·have d1:(wh==1)=true:=by simp[h1]
  have e1:decide (wh=1)=true:=by simp[h1]
  have HX:Hd (endX R V wh r s cell=varX R V r):=by unfold Hd endX;rw[if_pos h1]
  clear h1
  go_wp2_with fail
  refine(variable_any P R V r ca cn cc wa).mono ?_
  rintro e w2 ⟨rfl,hF2⟩
  have HF2:Hd (Fr (fun _=>False) w w2):=HF.out.trans hF2
  clear hF2 p0 p1 p2 p3 i1 i2
  go_wp2_with fail
  go_ret
  exact⟨by rw[HX.out];rfl,HF2.out⟩
 ·have d1:(wh==1)=false:=by simp[h1]
  have e1:decide (wh=1)=false:=by simp[h1]
  by_cases h2:wh=2
  ·have d2:(wh==2)=true:=by simp[h2]
   have e2:decide (wh=2)=true:=by simp[h2]
   have HX:Hd (endX R V wh r s cell=varX R V s):=by unfold Hd endX;rw[if_neg h1,if_pos h2]
   clear h1 h2
   go_wp2_with fail
   refine(variable_any P R V s ca cn cc wa).mono ?_
   rintro e w2 ⟨rfl,hF2⟩
   have HF2:Hd (Fr (fun _=>False) w w2):=HF.out.trans hF2
   clear hF2 p0 p1 p2 p3 i1 i2
   go_wp2_with fail
   go_ret
   exact⟨by rw[HX.out];rfl,HF2.out⟩
  ·have d2:(wh==2)=false:=by simp[h2]
   have e2:decide (wh=2)=false:=by simp[h2]
   by_cases h3:wh=3
   ·have d3:(wh==3)=true:=by simp[h3]
    have e3:decide (wh=3)=true:=by simp[h3]
    have HX:Hd (endX R V wh r s cell=cell):=by unfold Hd endX;rw[if_neg h1,if_neg h2,if_pos h3]
    clear h1 h2 h3
    go_wp2_with fail
    go_ret
    exact⟨by rw[HX.out];rfl,HF.out⟩
   ·have d3:(wh==3)=false:=by simp[h3]
    have e3:decide (wh=3)=false:=by simp[h3]
    have HX:Hd (endX R V wh r s cell=0):=by unfold Hd endX;rw[if_neg h1,if_neg h2,if_neg h3]
    clear h1 h2 h3
    go_wp2_with fail
    go_ret
    exact⟨by rw[HX.out];rfl,HF.out⟩
end Go.Proofs.YtdkijecnnmncnaaGreatDoor
namespace Go.Proofs.YtdkijecnnmncnaaGreatDoor
open Go.RowKit (wrap32 wrap64)
set_option maxRecDepth 100000
set_option maxHeartbeats 2000000
def rowsX : List (Int × Int × Int × Int):=[(0,0,0,0),(0,0,0,0),(1,1,2,0),(0,0,0,0),(0,0,0,0),(1,1,2,-1),(1,1,3,-1),(1,1,2,1),(1,0,2,0),(0,0,0,0),(1,0,2,0),(3,0,0,0),(0,0,0,0),(0,0,0,0),(0,0,0,0),(2,0,0,0),(0,0,0,0),(0,0,0,0)]
def rowX (op:Nat):Int × Int × Int × Int:=rowsX.getD op (0,0,0,0)
def RowsA (w:World):Prop:=∀ op,op<18→w.cell? ⟨0,op*4,none⟩=some (vI (rowX op).1)∧w.cell? ⟨0,op*4+1,none⟩=some (vI (rowX op).2.1)∧w.cell? ⟨0,op*4+2,none⟩=some (vI (rowX op).2.2.1)∧w.cell? ⟨0,op*4+3,none⟩=some (vI (rowX op).2.2.2)
theorem RowsA.t {w:World}(h:RowsA w):RowsT w:=h 15 (by omega)
theorem RowsA.kept {w W:World}{n0:Nat}(h:RowsA w)(k:KpA n0 w W)(h0:0<n0):RowsA W:=fun op ho=>by
 have tb:∀ o,W.cell? ⟨0,o,none⟩=w.cell? ⟨0,o,none⟩:=fun o=>k.below.cell (p:=⟨0,o,none⟩) h0
 rw[tb,tb,tb,tb]
 exact h op ho
theorem given_none (n0:Nat)(P R V:Int)(ca:Option Addr)(cn cc:Nat)(sa:Option Addr)(sn sc:Nat)(iv:IV)(op:Nat)(ho:op<18)(hop:iv.op=op)(hr:(rowX op).1=0)(cell:Int)(w:World)(h0:0<n0)(hn0:n0≤w.heap.size)(hT:RowsA w) :
 Given n0 (.agg #[vI P,vI R,vI V,.slice ca cn cc,.slice sa sn sc]) iv.val cell [] w:=by
 intro W hK
 obtain⟨t0,t1,t2,t3⟩:=(hT.kept hK h0) op ho
 rw[hr] at t0
 obtain⟨op',r,s,t,n,aa,an,ac,ra,rn,rc⟩:=iv
 have hop:op'=(op:Int):=hop
 subst hop
 have ho0:(0:Int)≤op:=by omega
 have ho1:(op:Int)<18:=by omega
 have hWp:0<W.heap.size:=Nat.lt_of_lt_of_le h0 (Nat.le_trans hn0 hK.below.size)
 generalize (rowX op).2.1=a1 at *
 generalize (rowX op).2.2.1=a2 at *
 generalize (rowX op).2.2.2=a3 at *
 clear hT hK hr hn0 h0
 go_enter Tryz.func125,Tryz.ntmps125
 go_wp2_with fail
 go_ret
 refine⟨158,_,rfl,enters_of Tryz.func158 (by kernel_rfl) rfl,?_,fun n=>?_⟩
 ·exact Fr.alloc (Fr.alloc (Fr.alloc (Fr.refl _ W) _) _) _
 ·exact none_gives n n0 _
end Go.Proofs.YtdkijecnnmncnaaGreatDoor
