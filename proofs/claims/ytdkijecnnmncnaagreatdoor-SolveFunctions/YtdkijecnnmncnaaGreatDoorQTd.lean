import Derived.Test.YtdkijecnnmncnaaGreatDoorQWL3J
import Derived.Deep.DeepCutAuto
set_option linter.unusedVariables false
set_option linter.unusedSimpArgs false
namespace Go.Proofs.YtdkijecnnmncnaaGreatDoor
open Go.RowKit (wrap32 wrap64)
set_option maxRecDepth 100000
set_option maxHeartbeats 2000000
structure SmR (w:World)(B p r g1 g2:Nat)(gs:Nat→Nat)(y:Nat→Int)(z:Nat→Nat→Int):Prop where
 row1:Wg.Row w 3 g1 p (fun i=>vI (y i))
 row2:Wg.Row w 30 g2 p (fun i=>.slice (some ⟨gs i,0,none⟩) r r)
 rows:∀ i,i<p→Wg.Row w 3 (gs i) r (fun j=>vI (z i j))
 b1:B≤g1
 b2:B≤g2
 bs:∀ i,i<p→B≤gs i
 n1:∀ i,i<p→gs i≠g1
 nn:∀ i j,i<p→j<p→i≠j→gs i≠gs j
theorem row_nines {w:World}{g n:Nat}(h:w.heap[g]?=some (.cells (List.replicate n (vI 9)).toArray 3)):Wg.Row w 3 g n (fun _=>vI 9) :=
 ⟨_,h,by simp,fun i hi=>by simp[hi]⟩
theorem under31s : Tryz.prog.underlying 31=some (.slice 30):=by kernel_rfl
theorem make31 (n:Nat)(hn:n≤8)(w:World):(Instr.makeSlice 31 (.int .i64 n) (.int .i64 n)).run Tryz.prog w = .ok (.slice (some ⟨w.heap.size,0,none⟩) n n) (w.alloc (.cells (Array.replicate n (.slice none 0 0)) 30)):=by
 rw[Wg.run_make_of 31 30 (.slice none 0 0) 1 24 under31s (by kernel_rfl) (by kernel_rfl) (by kernel_rfl) n (by omega) (by omega) w,Nat.mul_one]
 show Result.ok _ (w.alloc (.cells (madeCells #[.slice none 0 0] n) 30))=_
 rw[Wg.made_one,List.toArray_replicate]
abbrev nils (p:Nat):Obj:=.cells (Array.replicate p (.slice none 0 0)) 30
abbrev ninesO (p:Nat):Obj:=.cells (List.replicate p (vI 9)).toArray 3
def L3 (w1 wx:World)(p:Nat)(x:Value):Prop :=
 ∃ X g1 g2,x = .pointer (some ⟨X,0,none⟩)∧w1.heap.size≤X∧w1.heap.size≤g1∧w1.heap.size≤g2∧wx.heap[X]?=some (.cells #[.slice (some ⟨g1,0,none⟩) p p,.slice (some ⟨g2,0,none⟩) p p] 33)∧wx.heap[g1]?=some (ninesO p)∧wx.heap[g2]?=some (nils p)∧Fr (fun _=>False) w1 wx
theorem L3.last {w1 W:World}{p g1 g2:Nat}(hF:Fr (fun _=>False) w1 W)(h1:W.heap[g1]?=some (ninesO p))(h2:W.heap[g2]?=some (nils p))(hg1:w1.heap.size≤g1)(hg2:w1.heap.size≤g2) :
 L3 w1 (W.alloc (.cells #[.slice (some ⟨g1,0,none⟩) p p,.slice (some ⟨g2,0,none⟩) p p] 33)) p (.pointer (some ⟨W.heap.size,0,none⟩)) :=
 ⟨_,g1,g2,rfl,hF.size,hg1,hg2,heap_new W _,keepA h1 _,keepA h2 _,hF.alloc _⟩
theorem L3.set {w1 W:World}{p g1 g2 X:Nat}(hF:Fr (fun _=>False) w1 W)(hX:W.heap[X]?=some nil2)(h1:W.heap[g1]?=some (ninesO p))(h2:W.heap[g2]?=some (nils p))(hXg:w1.heap.size≤X)(hg1:w1.heap.size≤g1)(hg2:w1.heap.size≤g2) :
 L3 w1 ((W.setCell ⟨X,0,none⟩ (.slice (some ⟨g1,0,none⟩) p p)).setCell ⟨X,1,none⟩ (.slice (some ⟨g2,0,none⟩) p p)) p (.pointer (some ⟨X,0,none⟩)):=by
 have n1:X≠g1:=fun e=>by subst e;injection (Option.some.inj (hX.symm.trans h1)) with _ e;exact absurd e (by decide)
 have n2:X≠g2:=fun e=>by subst e;injection (Option.some.inj (hX.symm.trans h2)) with _ e;exact absurd e (by decide)
 have f:Fr (fun k=>k=X) W ((W.setCell ⟨X,0,none⟩ (.slice (some ⟨g1,0,none⟩) p p)).setCell ⟨X,1,none⟩ (.slice (some ⟨g2,0,none⟩) p p)):=(setCell_fr W X 0 _).trans (setCell_fr _ X 1 _)
 exact⟨X,g1,g2,rfl,hXg,hg1,hg2,set_of (set_of hX 0 _) 1 _,(f.block g1 (heap_lt h1) (fun e=>n1 e.symm)).trans h1,(f.block g2 (heap_lt h2) (fun e=>n2 e.symm)).trans h2,hF.then f (fun j hj e=>by omega)⟩
theorem L3.o1 {w1 w2:World}{p g:Nat}(hF:Fr (fun _=>False) w1 w2)(h1:w2.heap[g]?=some (ninesO p))(hg:w1.heap.size≤g) :
 L3 w1 ((w2.alloc (nils p)).alloc (.cells #[.slice (some ⟨g,0,none⟩) p p,.slice (some ⟨w2.heap.size,0,none⟩) p p] 33)) p (.pointer (some ⟨w2.heap.size+1,0,none⟩)):=by
 have:=L3.last (W:=w2.alloc (nils p)) (g1:=g) (g2:=w2.heap.size) (hF.alloc _) (keepA h1 _) (heap_new w2 _) hg hF.size
 rw[World.size_alloc] at this
 exact this
theorem L3.o2 {w1 w2:World}{p g:Nat}(hF:Fr (fun _=>False) w1 w2)(h1:w2.heap[g]?=some (ninesO p))(hg:w1.heap.size≤g) :
 L3 w1 ((w2.alloc (.cells #[.slice (some ⟨g,0,none⟩) p p,.slice (some ⟨w2.heap.size+1,0,none⟩) p p] 33)).alloc (nils p)) p (.pointer (some ⟨w2.heap.size,0,none⟩)) :=
 ⟨_,g,w2.heap.size+1,rfl,hF.size,hg,by have:=hF.size;omega,keepA (heap_new w2 _) _,keepA (keepA h1 _) _,by
  have:=heap_new (w2.alloc (.cells #[.slice (some ⟨g,0,none⟩) p p,.slice (some ⟨w2.heap.size+1,0,none⟩) p p] 33)) (nils p)
  rw[World.size_alloc] at this
  exact this,(hF.alloc _).alloc _⟩
theorem L3.o5 {w1 w2:World}{p g X:Nat}(hF:Fr (fun _=>False) w1 w2)(hX:w2.heap[X]?=some nil2)(h1:w2.heap[g]?=some (ninesO p))(hXg:w1.heap.size≤X)(hg:w1.heap.size≤g) :
 L3 w1 (((w2.setCell ⟨X,0,none⟩ (.slice (some ⟨g,0,none⟩) p p)).setCell ⟨X,1,none⟩ (.slice (some ⟨w2.heap.size,0,none⟩) p p)).alloc (nils p)) p (.pointer (some ⟨X,0,none⟩)):=by
 have n1:X≠g:=fun e=>by subst e;injection (Option.some.inj (hX.symm.trans h1)) with _ e;exact absurd e (by decide)
 have f:Fr (fun k=>k=X) w2 ((w2.setCell ⟨X,0,none⟩ (.slice (some ⟨g,0,none⟩) p p)).setCell ⟨X,1,none⟩ (.slice (some ⟨w2.heap.size,0,none⟩) p p)):=(setCell_fr w2 X 0 _).trans (setCell_fr _ X 1 _)
 have hn:=heap_new ((w2.setCell ⟨X,0,none⟩ (.slice (some ⟨g,0,none⟩) p p)).setCell ⟨X,1,none⟩ (.slice (some ⟨w2.heap.size,0,none⟩) p p)) (nils p)
 have hs:((w2.setCell ⟨X,0,none⟩ (.slice (some ⟨g,0,none⟩) p p)).setCell ⟨X,1,none⟩ (.slice (some ⟨w2.heap.size,0,none⟩) p p)).heap.size=w2.heap.size:=by simp
 rw[hs] at hn
 exact⟨X,g,w2.heap.size,rfl,hXg,hg,hF.size,keepA (set_of (set_of hX 0 _) 1 _) _,keepA ((f.block g (heap_lt h1) (fun e=>n1 e.symm)).trans h1) _,hn,(hF.then f (fun j hj e=>by omega)).alloc _⟩
theorem lowest_in (p r:Nat)(V:Int)(a:Option Addr)(n c:Nat)(w:World)(hp:p≤8)(hr:r≤4) :
 Calls Tryz.prog 32 #[.agg #[vI p,vI r,vI V,.slice a n c]] w fun e w'=>∃ g1 g2 gs,e = .returned (.agg #[.slice (some ⟨g1,0,none⟩) p p,.slice (some ⟨g2,0,none⟩) p p])∧SmR w' w.heap.size p r g1 g2 gs (fun _=>9) (fun _ _=>9)∧Fr (fun _=>False) w w':=by
 have hm:=make31 p hp
 obtain⟨wa,hwa⟩:∃ wa,wa=(w.alloc (.cells #[vI p,vI r,vI V,.slice a n c] 45)).alloc nil2:=⟨_,rfl⟩
 have hF:Fr (fun _=>False) w wa:=by rw[hwa];exact Fr.alloc (Fr.alloc (Fr.refl _ w) _) _
 have b1':wa.heap[w.heap.size]?=some (.cells #[vI p,vI r,vI V,.slice a n c] 45):=by
  rw[hwa,Go.RowKit.Below.heap_alloc _ _ _ (by simp)];exact heap_new w _
 have b2':wa.heap[w.heap.size+1]?=some nil2:=by
  rw[hwa,show w.heap.size+1=(w.alloc (.cells #[vI p,vI r,vI V,.slice a n c] 45)).heap.size by simp];exact heap_new _ _
 have HWA:Hd (wa=(w.alloc (.cells #[vI p,vI r,vI V,.slice a n c] 45)).alloc nil2):=hwa
 have HF:Hd (Fr (fun _=>False) w wa):=hF
 have HSZ:Hd (wa.heap.size=w.heap.size+2):=by unfold Hd;rw[hwa];simp
 obtain⟨H,hH⟩:∃ H,H=w.heap.size:=⟨_,rfl⟩
 have HH:Hd (H=w.heap.size):=hH
 rw[← hH] at b1' b2'
 have B1:Hd (wa.heap[H]?=some (.cells #[vI p,vI r,vI V,.slice a n c] 45)):=b1'
 have B2:Hd (wa.heap[H+1]?=some nil2):=b2'
 have c0:wa.cell? ⟨H,0,none⟩=some (vI p):=by rw[cell_of b1'];rfl
 have c1:wa.cell? ⟨H,1,none⟩=some (vI r):=by rw[cell_of b1'];rfl
 have hHl:H<wa.heap.size:=heap_lt b1'
 clear hF hwa hH b1' b2'
 have d1:decide ((p:Int)<0)=false:=by simp
 have d2:decide ((p:Int)>8)=false:=by simp;omega
 have d3:decide ((r:Int)<0)=false:=by simp
 have d4:decide ((r:Int)>4)=false:=by simp;omega
 go_enter Tryz.func32,Tryz.ntmps32
 go_upto_region 1 with fail
 rw[← HWA.out,← HH.out]
 clear HWA
 go_upto_region 3 with fail
 clear d1 d2 d3 d4
 have K1:Hd ((wa.alloc nil2).drew.heap[wa.heap.size]?=some nil2):=heap_new wa nil2
 have K2:Hd ((wa.alloc (nils p)).drew.heap[wa.heap.size]?=some (nils p)):=heap_new wa (nils p)
 have K3:Hd (((wa.alloc nil2).alloc (nils p)).drew.heap[wa.heap.size]?=some nil2):=keepA (heap_new wa nil2) (nils p)
 have K4:Hd (((wa.alloc nil2).alloc (nils p)).drew.heap[wa.heap.size+1]?=some (nils p)):=by have:=heap_new (wa.alloc nil2) (nils p);rw[World.size_alloc] at this;exact this
 have K5:Hd (((wa.alloc (nils p)).alloc nil2).drew.heap[wa.heap.size+1]?=some nil2):=by have:=heap_new (wa.alloc (nils p)) nil2;rw[World.size_alloc] at this;exact this
 have K6:Hd (((wa.alloc (nils p)).alloc nil2).drew.heap[wa.heap.size]?=some (nils p)):=keepA (heap_new wa (nils p)) nil2
 have ne1:wa.heap.size≠H:=by omega
 have ne2:wa.heap.size+1≠H:=by omega
 have ne3:H≠wa.heap.size:=by omega
 have ne4:H≠wa.heap.size+1:=by omega
 go_cut [3] (fun x3 wx=>Hd (L3 wa wx p x3))
 case first =>
  go_region_held3 (fun w'=>w'.cell? ⟨H,0,none⟩=some (vI (p:Int))) (go_keep) ((
   go_at_call 75
   first
    |(refine(show Calls Tryz.prog 75 #[vI (p:Int)] wa.drew _ from nones_any p hp wa.drew).mono ?_
      rintro e w2 ⟨g,rfl,hge,hgn,hF2⟩
      have hFX:Fr (fun _=>False) wa wa.drew:=Fr.drew (Fr.refl _ wa)
      have hG2:Fr (fun _=>False) wa w2:=hFX.trans hF2
      have s0:=(hG2.cell hHl (fun h=>h)).trans c0
      have HG2:Hd (Fr (fun _=>False) wa w2):=hG2
      have HGN:Hd (w2.heap[g]?=some (ninesO p)):=hgn
      have HGE:Hd (wa.heap.size≤g):=Nat.le_trans hFX.size hge
      clear hF2 hG2 hgn hge hFX)
    |(refine(show Calls Tryz.prog 75 #[vI (p:Int)] (wa.alloc nil2).drew _ from nones_any p hp (wa.alloc nil2).drew).mono ?_
      rintro e w2 ⟨g,rfl,hge,hgn,hF2⟩
      have hFX:Fr (fun _=>False) wa (wa.alloc nil2).drew:=Fr.drew (Fr.alloc (Fr.refl _ wa) nil2)
      have hG2:Fr (fun _=>False) wa w2:=hFX.trans hF2
      have s0:=(hG2.cell hHl (fun h=>h)).trans c0
      have HG2:Hd (Fr (fun _=>False) wa w2):=hG2
      have HGN:Hd (w2.heap[g]?=some (ninesO p)):=hgn
      have HGE:Hd (wa.heap.size≤g):=Nat.le_trans hFX.size hge
      have bX:=keepF K1.out hF2
      have y0:w2.cell? ⟨wa.heap.size,0,none⟩=some (.slice none 0 0):=by rw[cell_of bX];rfl
      have y1:w2.cell? ⟨wa.heap.size,1,none⟩=some (.slice none 0 0):=by rw[cell_of bX];rfl
      have z0:=frozen_of bX 0
      have z1:=frozen_of bX 1
      have HBX:Hd (w2.heap[wa.heap.size]?=some nil2):=bX
      have lX:wa.heap.size<w2.heap.size:=heap_lt bX
      have nX1:wa.heap.size≠w2.heap.size:=by omega
      have nX2:w2.heap.size≠wa.heap.size:=by omega
      clear bX
      clear hF2 hG2 hgn hge hFX)
    |(refine(show Calls Tryz.prog 75 #[vI (p:Int)] (wa.alloc (nils p)).drew _ from nones_any p hp (wa.alloc (nils p)).drew).mono ?_
      rintro e w2 ⟨g,rfl,hge,hgn,hF2⟩
      have hFX:Fr (fun _=>False) wa (wa.alloc (nils p)).drew:=Fr.drew (Fr.alloc (Fr.refl _ wa) (nils p))
      have hG2:Fr (fun _=>False) wa w2:=hFX.trans hF2
      have s0:=(hG2.cell hHl (fun h=>h)).trans c0
      have HG2:Hd (Fr (fun _=>False) wa w2):=hG2
      have HGN:Hd (w2.heap[g]?=some (ninesO p)):=hgn
      have HGE:Hd (wa.heap.size≤g):=Nat.le_trans hFX.size hge
      have HBM:Hd (w2.heap[wa.heap.size]?=some (nils p)):=keepF K2.out hF2
      clear hF2 hG2 hgn hge hFX)
    |(refine(show Calls Tryz.prog 75 #[vI (p:Int)] ((wa.alloc nil2).alloc (nils p)).drew _ from nones_any p hp ((wa.alloc nil2).alloc (nils p)).drew).mono ?_
      rintro e w2 ⟨g,rfl,hge,hgn,hF2⟩
      have hFX:Fr (fun _=>False) wa ((wa.alloc nil2).alloc (nils p)).drew:=Fr.drew (Fr.alloc (Fr.alloc (Fr.refl _ wa) nil2) (nils p))
      have hG2:Fr (fun _=>False) wa w2:=hFX.trans hF2
      have s0:=(hG2.cell hHl (fun h=>h)).trans c0
      have HG2:Hd (Fr (fun _=>False) wa w2):=hG2
      have HGN:Hd (w2.heap[g]?=some (ninesO p)):=hgn
      have HGE:Hd (wa.heap.size≤g):=Nat.le_trans hFX.size hge
      have bX:=keepF K3.out hF2
      have y0:w2.cell? ⟨wa.heap.size,0,none⟩=some (.slice none 0 0):=by rw[cell_of bX];rfl
      have y1:w2.cell? ⟨wa.heap.size,1,none⟩=some (.slice none 0 0):=by rw[cell_of bX];rfl
      have z0:=frozen_of bX 0
      have z1:=frozen_of bX 1
      have HBX:Hd (w2.heap[wa.heap.size]?=some nil2):=bX
      have lX:wa.heap.size<w2.heap.size:=heap_lt bX
      have nX1:wa.heap.size≠w2.heap.size:=by omega
      have nX2:w2.heap.size≠wa.heap.size:=by omega
      clear bX
      have HBM:Hd (w2.heap[wa.heap.size+1]?=some (nils p)):=keepF K4.out hF2
      clear hF2 hG2 hgn hge hFX)
    |(refine(show Calls Tryz.prog 75 #[vI (p:Int)] ((wa.alloc (nils p)).alloc nil2).drew _ from nones_any p hp ((wa.alloc (nils p)).alloc nil2).drew).mono ?_
      rintro e w2 ⟨g,rfl,hge,hgn,hF2⟩
      have hFX:Fr (fun _=>False) wa ((wa.alloc (nils p)).alloc nil2).drew:=Fr.drew (Fr.alloc (Fr.alloc (Fr.refl _ wa) (nils p)) nil2)
      have hG2:Fr (fun _=>False) wa w2:=hFX.trans hF2
      have s0:=(hG2.cell hHl (fun h=>h)).trans c0
      have HG2:Hd (Fr (fun _=>False) wa w2):=hG2
      have HGN:Hd (w2.heap[g]?=some (ninesO p)):=hgn
      have HGE:Hd (wa.heap.size≤g):=Nat.le_trans hFX.size hge
      have bX:=keepF K5.out hF2
      have y0:w2.cell? ⟨wa.heap.size+1,0,none⟩=some (.slice none 0 0):=by rw[cell_of bX];rfl
      have y1:w2.cell? ⟨wa.heap.size+1,1,none⟩=some (.slice none 0 0):=by rw[cell_of bX];rfl
      have z0:=frozen_of bX 0
      have z1:=frozen_of bX 1
      have HBX:Hd (w2.heap[wa.heap.size+1]?=some nil2):=bX
      have lX:wa.heap.size+1<w2.heap.size:=heap_lt bX
      have nX1:wa.heap.size+1≠w2.heap.size:=by omega
      have nX2:w2.heap.size≠wa.heap.size+1:=by omega
      clear bX
      have HBM:Hd (w2.heap[wa.heap.size]?=some (nils p)):=keepF K6.out hF2
      clear hF2 hG2 hgn hge hFX)))
  all_goals
   go_wp2_with fail
   go_meet
   first
    | exact L3.o1 HG2.out HGN.out HGE.out
    | exact L3.o2 HG2.out HGN.out HGE.out
    | exact L3.last HG2.out HGN.out HBM.out HGE.out (Nat.le_refl _)
    | exact L3.set HG2.out HBX.out HGN.out HBM.out (Nat.le_succ _) HGE.out (Nat.le_refl _)
    | exact L3.o5 HG2.out HBX.out HGN.out (Nat.le_refl _) HGE.out
    | exact L3.set HG2.out HBX.out HGN.out HBM.out (Nat.le_refl _) HGE.out (Nat.le_succ _)
 case rest =>
  obtain⟨X,g1,g2,rfl,hX,hg1,hg2,bX,bg1,bg2,hFx⟩:=hcut
  have B1x:=keepF B1.out hFx
  have B2x:=keepF B2.out hFx
  have HFw:Hd (Fr (fun _=>False) w wc):=HF.out.trans hFx
  have HX:Hd (wc.heap[X]?=some (.cells #[.slice (some ⟨g1,0,none⟩) p p,.slice (some ⟨g2,0,none⟩) p p] 33)):=bX
  have HG1:Hd (wc.heap[g1]?=some (ninesO p)):=bg1
  have HR:Hd (Rws wc 30 1 g2 p (fun _=>[.slice none 0 0])):=⟨_,bg2,by simp,fun i o hi ho=>by
   obtain rfl:o=0:=by omega
   rw[Nat.mul_one,Nat.add_zero]
   simp[Array.getElem?_replicate,hi]⟩
  have HB1:Hd (wc.heap[H]?=some (.cells #[vI p,vI r,vI V,.slice a n c] 45)):=B1x
  have HB2:Hd (wc.heap[H+1]?=some nil2):=B2x
  have hHs:wa.heap.size=H+2:=by have:=HSZ.out;have:=HH.out;omega
  have x1:wc.cell? ⟨X,1,none⟩=some (.slice (some ⟨g2,0,none⟩) p p):=by rw[cell_of bX];rfl
  have HGT:Hd (H+2≤X∧H+2≤g1∧H+2≤g2):=by unfold Hd;omega
  clear bX bg1 bg2 hFx B1x B2x ne1 ne2 ne3 ne4 hHl c0 c1 hm K1 K2 K3 K4 K5 K6 hX hg1 hg2 hHs B1 B2 HF
  go_wp2_with fail
  clear x1
  go_loopw [34] (fun v wr=>∃ (k:Nat) (gs:Nat→Nat),v = .int .i64 k∧k≤p∧Hd (Rws wr 30 1 g2 p (fun i=>[if i<k then .slice (some ⟨gs i,0,none⟩) r r else .slice none 0 0]))∧Hd (∀ i,i<k→wr.heap[gs i]?=some (ninesO r))∧Hd (∀ i,i<k→H≤gs i)∧Hd (∀ i,i<k→gs i≠g1∧∀ j,j<i→gs j≠gs i)∧Hd (wr.heap[X]?=some (.cells #[.slice (some ⟨g1,0,none⟩) p p,.slice (some ⟨g2,0,none⟩) p p] 33))∧Hd (wr.heap[g1]?=some (ninesO p))∧Hd (wr.heap[H]?=some (.cells #[vI p,vI r,vI V,.slice a n c] 45))∧Hd (wr.heap[H+1]?=some nil2)∧Hd (Fr (fun _=>False) w wr)) (fun v _=>match v with | .int _ q=>p-q.toNat | _=>0)
  case atStart=>exact⟨0,fun _=>0,rfl,Nat.zero_le _,HR.out.congr (fun i _=>by simp),fun i hi=>absurd hi (Nat.not_lt_zero _),fun i hi=>absurd hi (Nat.not_lt_zero _),fun i hi=>absurd hi (Nat.not_lt_zero _),HX.out,HG1.out,HB1.out,HB2.out,HFw.out⟩
  case round =>
   clear HR HX HG1 HB1 HB2 HFw
   obtain⟨k,gs,rfl,hk,HR,HGS,HGB,HAP,HX,HG1,HB1,HB2,HF⟩:=hrel
   by_cases hlt:k<p
   ·have hk0:(0:Int)≤k:=by omega
    have hk1:(k:Int)<p:=by omega
    have x1:wr.cell? ⟨X,1,none⟩=some (.slice (some ⟨g2,0,none⟩) p p):=by rw[cell_of HX.out];rfl
    have h1:wr.cell? ⟨H,1,none⟩=some (vI (r:Int)):=by rw[cell_of HB1.out];rfl
    have q0:=HR.out.cell (i:=k) (o:=0) hlt (by omega)
    rw[Nat.mul_one,Nat.add_zero,if_neg (Nat.lt_irrefl k)] at q0
    have q1:wr.cell? ⟨g2,k,none⟩=some (.slice none 0 0):=q0
    have hXl:=heap_lt HX.out
    have hHl:=heap_lt HB1.out
    have hgl:=HR.out.lt
    have n1:X≠g2:=fun e=>by subst e;obtain⟨cs,hc,-⟩:=HR.out;injection (Option.some.inj (HX.out.symm.trans hc)) with _ e;exact absurd e (by decide)
    have n2:H≠g2:=by have:=HGT.out;omega
    have n3:H+1≠g2:=by have:=HGT.out;omega
    have n4:g1≠g2:=fun e=>by subst e;obtain⟨cs,hc,-⟩:=HR.out;injection (Option.some.inj (HG1.out.symm.trans hc)) with _ e;exact absurd e (by decide)
    have m1:g2≠X:=fun e=>n1 e.symm
    have m2:g2≠H:=fun e=>n2 e.symm
    clear q0
    go_wp2_with fail
    go_region_held3 (fun w'=>w'.cell? ⟨X,1,none⟩=some (.slice (some ⟨g2,0,none⟩) p p)∧w'.cell? ⟨H,1,none⟩=some (vI (r:Int))) (go_keep) ((
     go_at_call 75
     refine(show Calls Tryz.prog 75 #[vI (r:Int)] wr.drew _ from nones_any r (by omega) wr.drew).mono ?_
     rintro e w2 ⟨g,rfl,hge,hgn,hF2⟩
     have hG2:Fr (fun _=>False) wr w2:=(Fr.drew (Fr.refl _ wr)).trans hF2
     have s1:=(hG2.cell hXl (fun h=>h)).trans x1
     have s2:=(hG2.cell hHl (fun h=>h)).trans h1
     have s3:=(hG2.cell hgl (fun h=>h)).trans q1
     have HR2:Hd (Rws w2 30 1 g2 p (fun i=>[if i<k then .slice (some ⟨gs i,0,none⟩) r r else .slice none 0 0])):=HR.out.fr hG2 (fun e=>e)
     have z2:=HR2.out.frozen k
     have HG2:Hd (Fr (fun _=>False) wr w2):=hG2
     have HGN:Hd (w2.heap[g]?=some (ninesO r)):=hgn
     have HGG:Hd (H≤g):=by have h9:wr.heap.size≤g:=hge;unfold Hd;omega
     have HGW:Hd (wr.heap.size≤g):=hge
     clear hF2 hG2 hgn hge))
    have f:=setCell_fr w2 g2 k (.slice (some ⟨g,0,none⟩) r r)
    have ng:∀ j,w2.heap[j]?=some (ninesO r)→j≠g2:=fun j hj e=>by subst e;obtain⟨cs,hc,-⟩:=HR2.out;injection (Option.some.inj (hj.symm.trans hc)) with _ e;exact absurd e (by decide)
    have HRz:Hd (Rws (w2.setCell ⟨g2,k,none⟩ (.slice (some ⟨g,0,none⟩) r r)) 30 1 g2 p (fun i=>[if i<k+1 then .slice (some ⟨at1 gs k g i,0,none⟩) r r else .slice none 0 0])):=by
     have:=HR2.out.set1 (i:=k) (o:=0) hlt (by omega) rfl (.slice (some ⟨g,0,none⟩) r r)
     rw[Nat.mul_one,Nat.add_zero] at this
     refine this.congr (fun i _=>?_)
     by_cases e:i=k
     ·subst e;rw[at1_self,at1_self,if_pos (Nat.lt_succ_self i)];rfl
     ·rw[at1_ne _ _ e,at1_ne _ _ e]
      by_cases hi:i<k
      ·rw[if_pos hi,if_pos (by omega)]
      ·rw[if_neg hi,if_neg (by omega)]
    have HGz:Hd (∀ i,i<k+1→(w2.setCell ⟨g2,k,none⟩ (.slice (some ⟨g,0,none⟩) r r)).heap[at1 gs k g i]?=some (ninesO r)):=fun i hi=>by
     by_cases e:i=k
     ·subst e;rw[at1_self];exact(f.block g (heap_lt HGN.out) (ng g HGN.out)).trans HGN.out
     ·rw[at1_ne _ _ e]
      have:=keepF (HGS.out i (by omega)) HG2.out
      exact(f.block _ (heap_lt this) (ng _ this)).trans this
    have HGBz:Hd (∀ i,i<k+1→H≤at1 gs k g i):=fun i hi=>by
     by_cases e:i=k
     ·subst e;rw[at1_self];exact HGG.out
     ·rw[at1_ne _ _ e];exact HGB.out i (by omega)
    have HAPz:Hd (∀ i,i<k+1→at1 gs k g i≠g1∧∀ j,j<i→at1 gs k g j≠at1 gs k g i):=fun i hi=>by
     have h1:=heap_lt HG1.out
     have h2:=HGW.out
     by_cases e:i=k
     ·subst e
      rw[at1_self]
      refine⟨by omega,fun j hj=>?_⟩
      rw[at1_ne _ _ (by omega)]
      have:=heap_lt (HGS.out j hj)
      omega
     ·rw[at1_ne _ _ e]
      refine⟨(HAP.out i (by omega)).1,fun j hj=>?_⟩
      rw[at1_ne _ _ (by omega)]
      exact(HAP.out i (by omega)).2 j hj
    have kp:∀ j (o:Obj),wr.heap[j]?=some o→j≠g2→(w2.setCell ⟨g2,k,none⟩ (.slice (some ⟨g,0,none⟩) r r)).heap[j]?=some o:=fun j o hj hne=>by
     have:=keepF hj HG2.out
     exact(f.block _ (heap_lt this) hne).trans this
    have HXz:=kp X _ HX.out n1
    have HG1z:=kp g1 _ HG1.out n4
    have HB1z:=kp H _ HB1.out n2
    have HB2z:=kp (H+1) _ HB2.out n3
    have HFz:Fr (fun _=>False) w (w2.setCell ⟨g2,k,none⟩ (.slice (some ⟨g,0,none⟩) r r)):=(HF.out.trans HG2.out).then f (fun j hj e=>by have:=HGT.out;have:=HH.out;omega)
    have HXz:Hd _:=HXz
    have HG1z:Hd _:=HG1z
    have HB1z:Hd _:=HB1z
    have HB2z:Hd _:=HB2z
    have HFz:Hd _:=HFz
    clear kp ng f s1 s2 s3 z2 x1 h1 q1 hXl hHl hgl
    go_wp2_with fail
    exact⟨⟨k+1,at1 gs k g,by simp,by omega,HRz.out,HGz.out,HGBz.out,HAPz.out,HXz.out,HG1z.out,HB1z.out,HB2z.out,HFz.out⟩,by simp;omega⟩
   ·have hke:k=p:=by omega
    subst hke
    have x0:wr.cell? ⟨X,0,none⟩=some (.slice (some ⟨g1,0,none⟩) k k):=by rw[cell_of HX.out];rfl
    have x1:wr.cell? ⟨X,1,none⟩=some (.slice (some ⟨g2,0,none⟩) k k):=by rw[cell_of HX.out];rfl
    have y0:wr.cell? ⟨H+1,0,none⟩=some (.slice none 0 0):=by rw[cell_of HB2.out];rfl
    have y1:wr.cell? ⟨H+1,1,none⟩=some (.slice none 0 0):=by rw[cell_of HB2.out];rfl
    have z0:=frozen_of HB2.out 0
    have z1:=frozen_of HB2.out 1
    have HZ:Hd (((wr.setCell ⟨H+1,0,none⟩ (.slice (some ⟨g1,0,none⟩) k k)).setCell ⟨H+1,1,none⟩ (.slice (some ⟨g2,0,none⟩) k k)).heap[H+1]?=some (.cells #[.slice (some ⟨g1,0,none⟩) k k,.slice (some ⟨g2,0,none⟩) k k] 33)):=set_of (set_of HB2.out 0 _) 1 _
    have f:Fr (fun j=>j=H+1) wr ((wr.setCell ⟨H+1,0,none⟩ (.slice (some ⟨g1,0,none⟩) k k)).setCell ⟨H+1,1,none⟩ (.slice (some ⟨g2,0,none⟩) k k)):=(setCell_fr wr (H+1) 0 _).trans (setCell_fr _ (H+1) 1 _)
    have HFz:Hd (Fr (fun _=>False) w ((wr.setCell ⟨H+1,0,none⟩ (.slice (some ⟨g1,0,none⟩) k k)).setCell ⟨H+1,1,none⟩ (.slice (some ⟨g2,0,none⟩) k k))):=HF.out.then f (fun j hj e=>by have:=HH.out;omega)
    have HSM:Hd (SmR ((wr.setCell ⟨H+1,0,none⟩ (.slice (some ⟨g1,0,none⟩) k k)).setCell ⟨H+1,1,none⟩ (.slice (some ⟨g2,0,none⟩) k k)) w.heap.size k r g1 g2 gs (fun _=>9) (fun _ _=>9)):=by
     have hgt:=HGT.out
     have hHH:=HH.out
     refine⟨row_nines ((f.block g1 (heap_lt HG1.out) (by omega)).trans HG1.out),?_,fun i hi=>?_,by omega,by omega,fun i hi=>by have:=HGB.out i hi;omega,fun i hi=>(HAP.out i hi).1,fun i j hi hj hne=>?_⟩
     ·have hRz:=HR.out.fr f (by omega)
      obtain⟨cs,h1,h2,h3⟩:=hRz
      refine⟨cs,h1,by omega,fun i hi=>?_⟩
      have:=h3 i 0 hi (by omega)
      simp only[Nat.mul_one,Nat.add_zero,if_pos hi] at this
      exact this
     ·have hg:=HGS.out i hi
      exact row_nines ((f.block (gs i) (heap_lt hg) (fun e=>by
       rw[e,HB2.out] at hg
       injection (Option.some.inj hg) with _ e;exact absurd e (by decide))).trans hg)
     ·rcases Nat.lt_or_gt_of_ne hne with h | h
      ·exact(HAP.out j hj).2 i h
      ·exact fun e=>(HAP.out i hi).2 j h e.symm
    clear f HR HGS HX HG1 HB1 HB2 HF
    go_wp2_with fail
    generalize (wr.setCell ⟨H+1,0,none⟩ (.slice (some ⟨g1,0,none⟩) k k)).setCell ⟨H+1,1,none⟩ (.slice (some ⟨g2,0,none⟩) k k)=wz at *
    have e0:wz.cell? ⟨H+1,0,none⟩=some (.slice (some ⟨g1,0,none⟩) k k):=by rw[cell_of HZ.out];rfl
    have e1:wz.cell? ⟨H+1,1,none⟩=some (.slice (some ⟨g2,0,none⟩) k k):=by rw[cell_of HZ.out];rfl
    refine bodyPost_ret (v:=.agg #[.slice (some ⟨g1,0,none⟩) k k,.slice (some ⟨g2,0,none⟩) k k]) ?_ rfl ⟨_,_,_,rfl,HSM.out,HFz.out⟩
    rw[results_cell (p:=2) (ty:=33) Tryz.results32]
    simp[go_sem,e0,e1]
end Go.Proofs.YtdkijecnnmncnaaGreatDoor
