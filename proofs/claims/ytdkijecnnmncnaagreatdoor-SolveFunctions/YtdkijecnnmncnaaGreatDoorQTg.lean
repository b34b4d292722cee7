import Derived.Test.YtdkijecnnmncnaaGreatDoorQTeJ
set_option linter.unusedVariables false
set_option linter.unusedSimpArgs false
namespace Go.Proofs.YtdkijecnnmncnaaGreatDoor
open Go.RowKit (wrap32 wrap64)
set_option maxRecDepth 100000
set_option maxHeartbeats 4000000
theorem heapsX_yes {k:Nat}{esc:Nat→Bool}(h:esc k=true):heapsX (k+1) esc=heapsX k esc++[(k:Int)]:=by
 unfold heapsX
 rw[List.range_succ,List.filter_append,List.map_append]
 simp[h]
theorem heapsX_no {k:Nat}{esc:Nat→Bool}(h:esc k=false):heapsX (k+1) esc=heapsX k esc:=by
 unfold heapsX
 rw[List.range_succ,List.filter_append,List.map_append]
 simp[h]
theorem heapsX_len (k:Nat)(esc:Nat→Bool):(heapsX k esc).length≤k+1:=by
 unfold heapsX
 have:=List.length_filter_le esc (List.range k)
 simp at this ⊢
 omega
structure Sy (w wr:World)(H X p r g1 g2:Nat)(gs:Nat→Nat)(Y:Nat→Int)(Z:Nat→Nat→Int)(o:Obj):Prop where
 sm:SmR wr (H+2) p r g1 g2 gs Y Z
 hX:wr.heap[X]?=some (.cells #[.slice (some ⟨g1,0,none⟩) p p,.slice (some ⟨g2,0,none⟩) p p] 33)
 gX:H+2≤X
 hH:wr.heap[H]?=some o
 hN:wr.heap[H+1]?=some nil2
 fr:Fr (fun _=>False) w wr
 sz:w.heap.size≤H
namespace Sy
variable {w wr:World} {H X p r g1 g2:Nat} {gs:Nat→Nat} {Y:Nat→Int} {Z:Nat→Nat→Int} {o:Obj}
theorem keep (h:Sy w wr H X p r g1 g2 gs Y Z o){w':World}(f:Fr (fun _=>False) wr w'):Sy w w' H X p r g1 g2 gs Y Z o :=
 ⟨h.sm.keep f,keepF h.hX f,h.gX,keepF h.hH f,keepF h.hN f,h.fr.trans f,h.sz⟩
theorem row_ne {w:World}{t t':TypeId}{g g' n:Nat}{cs:Array Value}{f:Nat→Value}(h:Wg.Row w t g n f)(h':w.heap[g']?=some (.cells cs t'))(ht:t≠t'):g'≠g:=fun e=>by
 subst e
 obtain⟨cs,h1,-⟩:=h
 injection (Option.some.inj (h1.symm.trans h')) with _ e
 exact ht e
theorem set1 (h:Sy w wr H X p r g1 g2 gs Y Z o)(i:Nat)(x:Int):Sy w (wr.setCell ⟨g1,i,none⟩ (vI x)) H X p r g1 g2 gs (Wg.upd Y i x) Z o:=by
 have f:=setCell_fr wr g1 i (vI x)
 have hb:=h.sm.b1
 have hs:=h.sz
 exact⟨h.sm.set1 i x,(f.block X (heap_lt0 h.hX) (row_ne h.sm.row1 h.hX (by decide))).trans h.hX,h.gX,(f.block H (heap_lt0 h.hH) (by omega)).trans h.hH,(f.block (H+1) (heap_lt0 h.hN) (by omega)).trans h.hN,h.fr.then f (fun j hj e=>by omega),h.sz⟩
theorem set2 (h:Sy w wr H X p r g1 g2 gs Y Z o){i:Nat}(hi:i<p)(j:Nat)(x:Int):Sy w (wr.setCell ⟨gs i,j,none⟩ (vI x)) H X p r g1 g2 gs Y (Wg.upd Z i (Wg.upd (Z i) j x)) o:=by
 have f:=setCell_fr wr (gs i) j (vI x)
 have hb:=h.sm.bs i hi
 have hs:=h.sz
 exact⟨h.sm.set2 hi j x,(f.block X (heap_lt0 h.hX) (row_ne (h.sm.rows i hi) h.hX (by decide))).trans h.hX,h.gX,(f.block H (heap_lt0 h.hH) (by omega)).trans h.hH,(f.block (H+1) (heap_lt0 h.hN) (by omega)).trans h.hN,h.fr.then f (fun j hj e=>by omega),h.sz⟩
end Sy
def SumE (n p r:Nat)(es:List Ed)(esc:Nat→Bool)(w:World)(e:Ending)(w':World):Prop :=
 Fr (fun _=>False) w w'∧∃ (g1 g2:Nat) (gs:Nat→Nat) (y:Nat→Int) (z:Nat→Nat→Int),e = .returned (.agg #[.slice (some ⟨g1,0,none⟩) p p,.slice (some ⟨g2,0,none⟩) p p])∧SmR w' w.heap.size p r g1 g2 gs (fun i=>max (y (1+r+i)) 0) (fun i j=>max (z j (1+r+i)) 0)∧Least n es (heapsX n esc) y∧∀ j,j<r→Least n es [1+(j:Int)] (z j)
theorem Row.stay {w w':World}{t:TypeId}{g n:Nat}{f:Nat→Value}(h:Wg.Row w t g n f)(k:Fr (fun _=>False) w w'):Wg.Row w' t g n f:=h.fr (fr_to k) (fun e=>e)
theorem ints_one (w:World)(z:Int):Wg.IntsAt (w.alloc (.cells #[vI z] 3)).heap.size (w.alloc (.cells #[vI z] 3)) (.slice (some ⟨w.heap.size,0,none⟩) 1 1) [z] :=
 ⟨_,_,rfl,Nat.le_refl _,fun _=>⟨w.heap.size,0,rfl,by simp,fun i hi=>by
  obtain rfl:i=0:=by simp at hi;omega
  rw[cell_of0 (heap_new0 w _)]
  rfl⟩⟩
theorem summary_in (n p r:Nat)(V:Int)(a ea:Option Addr)(cl c el ec:Nat)(es:List Ed)(esc:Nat→Bool)(eb:Nat)(w:World)(hn1:n≤1048576)(hp8:p≤8)(hr4:r≤4)(hB:Wg.Row w 4 eb n (fun l=>.bool (esc l)))
 (hFL:∀ wx ra rc rs l,Fr (fun _=>False) w wx→Wg.IntsAt wx.heap.size wx (.slice ra l rc) rs→l=rs.length→l≤2000000→RightG n es rs→Calls Tryz.prog 88 #[.agg #[vI p,vI r,vI V,.slice a cl c,.slice ea el ec],.slice ra l rc] wx (FlwE n es rs wx))
 (hTO:∀ (wx:World) (b:Nat) (x:Nat→Int) (i:Nat),Fr (fun _=>False) w wx→Wg.Row wx 3 b n (fun i=>vI (x i))→i<p→Calls Tryz.prog 89 #[.agg #[vI p,vI r,vI V,.slice a cl c,.slice ea el ec],.slice (some ⟨b,0,none⟩) n n,vI i] wx fun e w'=>e = .returned (vI (max (x (1+r+i)) 0))∧Fr (fun _=>False) wx w')
 (hG1:RightG n es (heapsX n esc)) (hG2:∀ j,j<r→RightG n es [1+(j:Int)]) :
 Calls Tryz.prog 46 #[.agg #[vI p,vI r,vI V,.slice a cl c,.slice ea el ec],.slice (some ⟨eb,0,none⟩) n n] w (SumE n p r es esc w):=by
 obtain⟨i3,hi3,hz3,hs3,hb3⟩:=info_parts (P:=Tryz.prog) (e:=3) (z:=.int .i64 0) (size:=1) (bytes:=8) (by kernel_rfl)
 obtain⟨wa,hwa⟩:∃ wa,wa=((w.alloc (.cells #[vI p,vI r,vI V,.slice a cl c,.slice ea el ec] 89)).alloc nil2).alloc (.cells #[vI 0] 3):=⟨_,rfl⟩
 have HWA:Hd (wa=((w.alloc (.cells #[vI p,vI r,vI V,.slice a cl c,.slice ea el ec] 89)).alloc nil2).alloc (.cells #[vI 0] 3)):=hwa
 obtain⟨H,hH⟩:∃ H,H=w.heap.size:=⟨_,rfl⟩
 have HH:Hd (H=w.heap.size):=hH
 have hb0:wa.heap[H]?=some (.cells #[vI p,vI r,vI V,.slice a cl c,.slice ea el ec] 89):=by rw[hwa,hH];exact keepA (keepA (heap_new0 w _) _) _
 have hb1:wa.heap[H+1]?=some nil2:=by
  rw[hwa,hH]
  have:=heap_new0 (w.alloc (.cells #[vI p,vI r,vI V,.slice a cl c,.slice ea el ec] 89)) nil2
  rw[World.size_alloc] at this
  exact keepA this _
 have hb2:wa.heap[H+2]?=some (.cells #[vI 0] 3):=by
  rw[hwa,hH]
  have:=heap_new0 ((w.alloc (.cells #[vI p,vI r,vI V,.slice a cl c,.slice ea el ec] 89)).alloc nil2) (.cells #[vI 0] 3)
  rw[World.size_alloc,World.size_alloc] at this
  exact this
 have HS:Hd (∀ (wx:World),wx.heap[H]?=some (.cells #[vI p,vI r,vI V,.slice a cl c,.slice ea el ec] 89)→wx.cell? ⟨H,0,none⟩=some (vI p)∧wx.cell? ⟨H,1,none⟩=some (vI r)∧wx.cell? ⟨H,2,none⟩=some (vI V)∧wx.cell? ⟨H,3,none⟩=some (.slice a cl c)∧wx.cell? ⟨H,4,none⟩=some (.slice ea el ec)):=fun wx hb =>
  ⟨by rw[cell_of0 hb];rfl,by rw[cell_of0 hb];rfl,by rw[cell_of0 hb];rfl,by rw[cell_of0 hb];rfl,by rw[cell_of0 hb];rfl⟩
 have HB0:Hd (wa.heap[H]?=some (.cells #[vI p,vI r,vI V,.slice a cl c,.slice ea el ec] 89)):=hb0
 have HB1:Hd (wa.heap[H+1]?=some nil2):=hb1
 have HFA:Hd (Fr (fun _=>False) w wa):=by unfold Hd;rw[hwa];exact Fr.alloc (Fr.alloc (Fr.alloc (Fr.refl _ w) _) _) _
 have HO0:Hd (IOwn wa (H+2) (.slice (some ⟨H+2,0,none⟩) 1 1) (heapsX 0 esc)):=by
  refine⟨rfl,Or.inr ⟨H+2,1,_,rfl,Nat.le_refl _,hb2,Nat.le_refl _,by unfold maxLen;omega,rfl,rfl⟩⟩
 have HEB:Hd (Wg.Row w 4 eb n (fun l=>.bool (esc l))):=hB
 have HFL:Hd (∀ wx ra rc rs l,Fr (fun _=>False) w wx→Wg.IntsAt wx.heap.size wx (.slice ra l rc) rs→l=rs.length→l≤2000000→RightG n es rs→Calls Tryz.prog 88 #[.agg #[vI p,vI r,vI V,.slice a cl c,.slice ea el ec],.slice ra l rc] wx (FlwE n es rs wx)):=hFL
 have HTO:Hd (∀ (wx:World) (b:Nat) (x:Nat→Int) (i:Nat),Fr (fun _=>False) w wx→Wg.Row wx 3 b n (fun i=>vI (x i))→i<p→Calls Tryz.prog 89 #[.agg #[vI p,vI r,vI V,.slice a cl c,.slice ea el ec],.slice (some ⟨b,0,none⟩) n n,vI i] wx fun e w'=>e = .returned (vI (max (x (1+r+i)) 0))∧Fr (fun _=>False) wx w'):=hTO
 have HG1:Hd (RightG n es (heapsX n esc)):=hG1
 have HG2:Hd (∀ j,j<r→RightG n es [1+(j:Int)]):=hG2
 clear hwa hH hb0 hb1 hb2 hB hFL hTO hG1 hG2
 go_enter Tryz.func46,Tryz.ntmps46
 go_upto_region 2 with fail
 rw[← HWA.out,← HH.out]
 clear HWA
 go_wp2_with fail
 go_loopw [5,16] (fun mv v wr=>∃ (k:Nat),v = .int .i64 k∧k≤n∧Hd (IOwn wr (H+2) mv (heapsX k esc))∧Hd (wr.heap[H]?=some (.cells #[vI p,vI r,vI V,.slice a cl c,.slice ea el ec] 89))∧Hd (wr.heap[H+1]?=some nil2)∧Hd (Fr (fun _=>False) w wr)) (fun _ v _=>match v with | .int _ q=>n-q.toNat | _=>0)
 case atStart=>exact⟨0,rfl,Nat.zero_le _,HO0.out,HB0.out,HB1.out,HFA.out⟩
 case round =>
  clear HO0 HB0 HB1 HFA
  obtain⟨k,rfl,hk,HO,HB0,HB1,HF⟩:=hrel
  by_cases hlt:k<n
  ·have hk0:(0:Int)≤k:=by omega
   have hk1:(k:Int)<n:=by omega
   have p0:=(Row.stay HEB.out HF.out).cell hlt
   cases he:esc k with
   | true =>
     have HT:Hd (heapsX (k+1) esc=heapsX k esc++[(k:Int)]):=heapsX_yes he
     have HTL:Hd ((heapsX k esc).length≤k+1):=heapsX_len k esc
     obtain⟨E,hE⟩:∃ E,E=heapsX k esc:=⟨_,rfl⟩
     rw[← hE] at HO HT HTL
     rw[he] at p0
     clear hE he
     have hsz:H+1<wr.heap.size:=heap_lt0 HB1.out
     have HO1:Hd ((wr.alloc (.cells #[vI (k:Int)] 3)).ownsRow (H+2) 3 1 u5 E.length (E.map vI)):=World.ownsRow.alloc HO.out _
     have hnews:∀ j u,[vI (k:Int)][j]?=some u→(wr.alloc (.cells #[vI (k:Int)] 3)).cell? ((⟨wr.heap.size,0,none⟩:Addr).add j)=some u :=
      World.news_of_block (cs:=#[vI (k:Int)]) (heap_new0 wr (.cells #[vI (k:Int)] 3))
     have hbase:H+2≤(wr.alloc (.cells #[vI (k:Int)] 3)).heap.size:=by simp;omega
     have hEl:E.length+1≤2000000:=by have:=HTL.out;omega
     go_wp2_with ((at_builtin;refine Hd.out ?_))
     unfold Hd
     refine wpList_append_lies _ rfl (.tmp 22) (.tmp 24) 30 rfl (H+2) 3 i3 (.int .i64 0) 1 8 under64 hi3 hz3 hs3 hb3 rfl (by omega) u5 E.length _ rfl HO1.out ⟨wr.heap.size,0,none⟩ 1 1 [vI (k:Int)] rfl rfl hnews (by intro u hu;simp at hu;subst hu;rfl) (by omega) (by unfold maxLen;omega) (by omega) hbase (wr.heap.size+1) (by simp) ?_
     intro g6 cap6 w6 hown6 hgrow6 hat6 hlt6
     have HO6:Hd (IOwn w6 (H+2) (.slice (some ⟨g6,0,none⟩) (E.length+1) cap6) (E++[(k:Int)])):=by unfold Hd IOwn;rw[List.map_append,List.length_append];exact hown6
     have HF6:Hd (Fr (fun _=>False) w w6):=grow_fr0 (HF.out.alloc _) hgrow6 (fun k hk=>by have:=(HO.out.ge k hk).1;have:=HH.out;omega)
     have kp:∀ j (o:Obj),j<H+2→wr.heap[j]?=some o→w6.heap[j]?=some o:=fun j o hj ho=>by
      have f:=grown_frL hgrow6
      refine(f.block j (by simp;omega) (fun e=>?_)).trans (keepA ho _)
      have:=(HO.out.ge j e).1
      omega
     have HC0:Hd (w6.heap[H]?=some (.cells #[vI p,vI r,vI V,.slice a cl c,.slice ea el ec] 89)):=kp H _ (by omega) HB0.out
     have HC1:Hd (w6.heap[H+1]?=some nil2):=kp (H+1) _ (by omega) HB1.out
     clear hown6 hgrow6 hat6 hlt6 HO HF HO1 HB0 HB1 hnews hbase kp p0
     go_wp2_with fail
     refine⟨⟨k+1,by simp,by omega,?_,HC0.out,HC1.out,HF6.out⟩,by simp;omega⟩
     unfold Hd;rw[HT.out];exact HO6.out
   | false =>
     have HO2:Hd (IOwn wr (H+2) u5 (heapsX (k+1) esc)):=by unfold Hd;rw[heapsX_no he];exact HO.out
     rw[he] at p0
     clear he HO
     go_wp2_with fail
     exact⟨⟨k+1,by simp,by omega,HO2.out,HB0.out,HB1.out,HF.out⟩,by simp;omega⟩
  ·have hke:k=n:=by omega
   subst hke
   have HKL:Hd ((heapsX k esc).length≤k+1):=heapsX_len k esc
   obtain⟨l,hl⟩:∃ l,l=(heapsX k esc).length:=⟨_,rfl⟩
   have HLL:Hd (l=(heapsX k esc).length∧l≤2000000):=⟨hl,by have:=HKL.out;omega⟩
   obtain⟨ra,rc,rfl⟩:∃ ra rc,u5 = .slice ra l rc:=by
    obtain⟨ra,rc,e⟩:=own_slice HO.out
    exact⟨ra,rc,by rw[e,hl]⟩
   have HI:Hd (Wg.IntsAt wr.heap.size wr (.slice ra l rc) (heapsX k esc)):=iown_ints HO.out
   obtain⟨s0,s1,s2,s3,s4⟩:=HS.out wr HB0.out
   have dk:decide ((k:Int)<(k:Int))=false:=by simp
   have hrs:H+2≤wr.heap.size:=heap_lt0 HB1.out
   clear HO hl HKL
   go_wp2_with fail
   refine(lowest_in p r V a cl c wr hp8 hr4).mono ?_
   rintro e w5 ⟨g1,g2,gs,rfl,hS5,hF5⟩
   have HSY:Hd (Sy w (w5.alloc (.cells #[.slice (some ⟨g1,0,none⟩) p p,.slice (some ⟨g2,0,none⟩) p p] 33)) H w5.heap.size p r g1 g2 gs (fun _=>9) (fun _ _=>9) (.cells #[vI p,vI r,vI V,.slice a cl c,.slice ea el ec] 89)) :=
    ⟨(hS5.mono hrs).keep (Fr.alloc (Fr.refl _ w5) _),heap_new0 w5 _,Nat.le_trans hrs hF5.size,keepA (keepF HB0.out hF5) _,keepA (keepF HB1.out hF5) _,(HF.out.trans hF5).alloc _,by have:=HH.out;omega⟩
   have HI5:Hd (Wg.IntsAt (w5.alloc (.cells #[.slice (some ⟨g1,0,none⟩) p p,.slice (some ⟨g2,0,none⟩) p p] 33)).heap.size (w5.alloc (.cells #[.slice (some ⟨g1,0,none⟩) p p,.slice (some ⟨g2,0,none⟩) p p] 33)) (.slice ra l rc) (heapsX k esc)):=ints_stay HI.out (hF5.alloc _)
   clear hS5 hF5 HI HB0 HB1 HF s0 s1 s2 s3 s4 hrs
   go_upto_region 9 with fail
   obtain⟨X,hX⟩:∃ X,X=w5.heap.size:=⟨_,rfl⟩
   rw[← hX] at HSY ⊢
   clear hX
   generalize w5.alloc (.cells #[.slice (some ⟨g1,0,none⟩) p p,.slice (some ⟨g2,0,none⟩) p p] 33)=wz at *
   obtain⟨s0,s1,s2,s3,s4⟩:=HS.out wz HSY.out.hH
   go_wp2_with fail
   refine(HFL.out wz ra rc (heapsX k esc) l HSY.out.fr HI5.out HLL.out.1 HLL.out.2 HG1.out).mono ?_
   rintro e w6 ⟨hF6,b6,y,rfl,hb6,hR6,hL6⟩
   have HSY6:Hd (Sy w w6 H X p r g1 g2 gs (fun _=>9) (fun _ _=>9) (.cells #[vI p,vI r,vI V,.slice a cl c,.slice ea el ec] 89)):=HSY.out.keep hF6
   have HLY:Hd (Least k es (heapsX k esc) y):=hL6
   have HR6:Hd (Wg.Row w6 3 b6 k (fun i=>vI (y i))):=hR6
   have HX6:Hd (∀ (wx:World),wx.heap[X]?=some (.cells #[.slice (some ⟨g1,0,none⟩) p p,.slice (some ⟨g2,0,none⟩) p p] 33)→wx.cell? ⟨X,0,none⟩=some (.slice (some ⟨g1,0,none⟩) p p)∧wx.cell? ⟨X,1,none⟩=some (.slice (some ⟨g2,0,none⟩) p p)):=fun wx hb=>⟨by rw[cell_of0 hb];rfl,by rw[cell_of0 hb];rfl⟩
   have HB6:Hd (b6≠g1∧∀ i,i<p→gs i≠b6):=by
    have h1:=HSY.out.sm.row1.lt
    have h3:wz.heap.size≤b6:=hb6
    refine⟨by omega,fun i hi=>?_⟩
    have:=(HSY.out.sm.rows i hi).lt
    omega
   obtain⟨x0,x1⟩:=HX6.out w6 HSY6.out.hX
   clear hF6 hb6 hR6 hL6 HSY HI5 s0 s1 s2 s3 s4 HLL
   go_wp2_with fail
   clear x0 x1
   go_loopw [36] (fun v wr=>∃ (i:Nat) (Y:Nat→Int),v = .int .i64 i∧i≤p∧Hd (Sy w wr H X p r g1 g2 gs Y (fun _ _=>9) (.cells #[vI p,vI r,vI V,.slice a cl c,.slice ea el ec] 89))∧Hd (∀ j,j<i→Y j=max (y (1+r+j)) 0)∧Hd (Wg.Row wr 3 b6 k (fun i=>vI (y i)))) (fun v _=>match v with | .int _ q=>p-q.toNat | _=>0)
   case atStart=>exact⟨0,_,rfl,Nat.zero_le _,HSY6.out,fun j hj=>absurd hj (Nat.not_lt_zero _),HR6.out⟩
   case round =>
    clear HSY6 HR6
    obtain⟨i,Y,rfl,hi,HSY,HY,HR⟩:=hrel
    by_cases hlt:i<p
    ·obtain⟨s0,s1,s2,s3,s4⟩:=HS.out wr HSY.out.hH
     obtain⟨x0,x1⟩:=HX6.out wr HSY.out.hX
     have hi0:(0:Int)≤i:=by omega
     have hi1:(i:Int)<p:=by omega
     have HCT:Hd (∀ wx,Fr (fun _=>False) wr wx→Calls Tryz.prog 89 #[.agg #[vI p,vI r,vI V,.slice a cl c,.slice ea el ec],.slice (some ⟨b6,0,none⟩) k k,vI (i:Int)] wx fun e w'=>e = .returned (vI (max (y (1+r+i)) 0))∧Fr (fun _=>False) wx w'):=fun wx hx =>
      HTO.out wx b6 y i (HSY.out.fr.trans hx) (Row.stay HR.out hx) hlt
     have lX:=heap_lt0 HSY.out.hX
     have lH:=heap_lt0 HSY.out.hH
     have n1:X≠g1:=Sy.row_ne HSY.out.sm.row1 HSY.out.hX (by decide)
     have n2:g1≠X:=fun e=>n1 e.symm
     have n3:H≠g1:=by have:=HSY.out.sm.b1;omega
     have n4:g1≠H:=by omega
     obtain⟨d,hd⟩:∃ d,d=max (y (1+r+i)) 0:=⟨_,rfl⟩
     have HD:Hd (d=max (y (1+r+i)) 0):=hd
     rw[← hd] at HCT
     clear hd
     go_upto_region 13 with fail
     go_region_held3 (fun w'=>w'.cell? ⟨X,0,none⟩=some (.slice (some ⟨g1,0,none⟩) p p)∧w'.cell? ⟨H,0,none⟩=some (vI p)∧w'.cell? ⟨H,1,none⟩=some (vI r)∧w'.cell? ⟨H,2,none⟩=some (vI V)∧w'.cell? ⟨H,3,none⟩=some (.slice a cl c)∧w'.cell? ⟨H,4,none⟩=some (.slice ea el ec)) (go_keep) ((
      go_at_call 89
      refine(HCT.out wr.drew (Fr.drew (Fr.refl _ wr))).mono ?_
      rintro e w2 ⟨rfl,hF2⟩
      have hG2:Fr (fun _=>False) wr w2:=(Fr.drew (Fr.refl _ wr)).trans hF2
      have HS2:Hd (Sy w w2 H X p r g1 g2 gs Y (fun _ _=>9) (.cells #[vI p,vI r,vI V,.slice a cl c,.slice ea el ec] 89)):=HSY.out.keep hG2
      have HR2:Hd (Wg.Row w2 3 b6 k (fun i=>vI (y i))):=Row.stay HR.out hG2
      have x0:=(hG2.cell lX (fun e=>e)).trans x0
      have s0:=(hG2.cell lH (fun e=>e)).trans s0
      have s1:=(hG2.cell lH (fun e=>e)).trans s1
      have s2:=(hG2.cell lH (fun e=>e)).trans s2
      have s3:=(hG2.cell lH (fun e=>e)).trans s3
      have s4:=(hG2.cell lH (fun e=>e)).trans s4
      have t0:=HS2.out.sm.row1.cell hlt
      have t1:=HS2.out.sm.row1.frozen i
      clear hF2 hG2))
     have HS3:Hd (Sy w (w2.setCell ⟨g1,i,none⟩ (vI d)) H X p r g1 g2 gs (Wg.upd Y i d) (fun _ _=>9) (.cells #[vI p,vI r,vI V,.slice a cl c,.slice ea el ec] 89)):=HS2.out.set1 i d
     have HR3:Hd (Wg.Row (w2.setCell ⟨g1,i,none⟩ (vI d)) 3 b6 k (fun i=>vI (y i))):=HR2.out.fr (fr_to (setCell_fr w2 g1 i _)) HB6.out.1
     have HY3:Hd (∀ j,j<i+1→Wg.upd Y i d j=max (y (1+r+j)) 0):=fun j hj=>by
      unfold Wg.upd
      by_cases e:j=i
      ·rw[if_pos e,e,HD.out]
      ·rw[if_neg e];exact HY.out j (by omega)
     clear HS2 HR2 HSY HR HY n1 n2 n3 n4 x0 x1 s0 s1 s2 s3 s4 t0 t1 HCT
     go_wp2_with fail
     exact⟨⟨i+1,_,by simp,by omega,HS3.out,HY3.out,HR3.out⟩,by simp;omega⟩
    ·have di:decide ((i:Int)<p)=false:=by simp;omega
     have HYY:Hd (∀ j,j<p→Y j=max (y (1+r+j)) 0):=fun j hj=>HY.out j (by omega)
     obtain⟨s0,s1,s2,s3,s4⟩:=HS.out wr HSY.out.hH
     clear HY HR
     go_wp2_with fail
     clear s0 s1 s2 s3 s4 di
     go_loopw [51] (fun v wr=>∃ (j:Nat) (Z z:Nat→Nat→Int),v = .int .i64 j∧j≤r∧Hd (Sy w wr H X p r g1 g2 gs Y Z (.cells #[vI p,vI r,vI V,.slice a cl c,.slice ea el ec] 89))∧Hd (∀ q,q<j→Least k es [1+(q:Int)] (z q))∧Hd (∀ i,i<p→∀ q,q<j→Z i q=max (z q (1+r+i)) 0)) (fun v _=>match v with | .int _ q=>r-q.toNat | _=>0)
     case atStart=>exact⟨0,_,fun _ _=>0,rfl,Nat.zero_le _,HSY.out,fun q hq=>absurd hq (Nat.not_lt_zero _),fun i _ q hq=>absurd hq (Nat.not_lt_zero _)⟩
     case round =>
      clear HSY hi
      obtain⟨j,Z,z,rfl,hj,HSY,HZL,HZ⟩:=hrel
      obtain⟨s0,s1,s2,s3,s4⟩:=HS.out wr HSY.out.hH
      by_cases hjr:j<r
      ·have hj0:(0:Int)≤j:=by omega
       have hj1:(j:Int)<r:=by omega
       have hw1:wrap64 (1+(j:Int))=1+(j:Int):=by unfold wrap64;omega
       have hw2:IntKind.i64.wrap (1+(j:Int))=1+(j:Int):=by simp[IntKind.wrap,IntKind.bits,IntKind.signed];omega
       have HFA:Hd (Fr (fun _=>False) wr (wr.alloc (.cells #[vI (1+(j:Int))] 3))):=Fr.alloc (Fr.refl _ wr) _
       have HCF:Hd (Calls Tryz.prog 88 #[.agg #[vI p,vI r,vI V,.slice a cl c,.slice ea el ec],.slice (some ⟨wr.heap.size,0,none⟩) 1 1] (wr.alloc (.cells #[vI (1+(j:Int))] 3)) (FlwE k es [1+(j:Int)] (wr.alloc (.cells #[vI (1+(j:Int))] 3)))) :=
        HFL.out _ _ _ _ 1 (HSY.out.fr.trans HFA.out) (ints_one wr (1+(j:Int))) rfl (by omega) (HG2.out j hjr)
       go_wp2_with fail
       refine HCF.out.mono ?_
       rintro e w7 ⟨hF7,b7,zj,rfl,hb7,hR7,hL7⟩
       have HSY7:Hd (Sy w w7 H X p r g1 g2 gs Y Z (.cells #[vI p,vI r,vI V,.slice a cl c,.slice ea el ec] 89)):=(HSY.out.keep HFA.out).keep hF7
       have HR7:Hd (Wg.Row w7 3 b7 k (fun i=>vI (zj i))):=hR7
       have HL7:Hd (Least k es [1+(j:Int)] zj):=hL7
       have HB7:Hd (∀ i,i<p→b7≠gs i):=fun i hi=>by
        have h1:=(HSY.out.sm.rows i hi).lt
        have h2:(wr.alloc (.cells #[vI (1+(j:Int))] 3)).heap.size≤b7:=hb7
        have h3:=HFA.out.size
        omega
       obtain⟨x0,x1⟩:=HX6.out w7 HSY7.out.hX
       clear hF7 hb7 hR7 hL7 HCF HFA HSY s0 s1 s2 s3 s4
       go_wp2_with fail
       clear x0 x1
       go_loopw [62] (fun v wr=>∃ (i:Nat) (Z':Nat→Nat→Int),v = .int .i64 i∧i≤p∧Hd (Sy w wr H X p r g1 g2 gs Y Z' (.cells #[vI p,vI r,vI V,.slice a cl c,.slice ea el ec] 89))∧Hd (∀ q,q<i→Z' q j=max (zj (1+r+q)) 0)∧Hd (∀ i,i<p→∀ q,q<j→Z' i q=max (z q (1+r+i)) 0)∧Hd (Wg.Row wr 3 b7 k (fun i=>vI (zj i)))) (fun v _=>match v with | .int _ q=>p-q.toNat | _=>0)
       case atStart=>exact⟨0,Z,rfl,Nat.zero_le _,HSY7.out,fun q hq=>absurd hq (Nat.not_lt_zero _),HZ.out,HR7.out⟩
       case round =>
        clear HSY7 HR7 HZ
        obtain⟨i,Z',rfl,hi,HSY,HZJ,HZ,HR⟩:=hrel
        obtain⟨x0,x1⟩:=HX6.out wr HSY.out.hX
        by_cases hlt:i<p
        ·obtain⟨s0,s1,s2,s3,s4⟩:=HS.out wr HSY.out.hH
         have hi0:(0:Int)≤i:=by omega
         have hi1:(i:Int)<p:=by omega
         have HCT:Hd (∀ wx,Fr (fun _=>False) wr wx→Calls Tryz.prog 89 #[.agg #[vI p,vI r,vI V,.slice a cl c,.slice ea el ec],.slice (some ⟨b7,0,none⟩) k k,vI (i:Int)] wx fun e w'=>e = .returned (vI (max (zj (1+r+i)) 0))∧Fr (fun _=>False) wx w'):=fun wx hx =>
          HTO.out wx b7 zj i (HSY.out.fr.trans hx) (Row.stay HR.out hx) hlt
         have lX:=heap_lt0 HSY.out.hX
         have lH:=heap_lt0 HSY.out.hH
         have l2:=HSY.out.sm.row2.lt
         have y1:=HSY.out.sm.row2.cell hlt
         have n1:X≠gs i:=Sy.row_ne (HSY.out.sm.rows i hlt) HSY.out.hX (by decide)
         have n2:gs i≠X:=fun e=>n1 e.symm
         have n3:H≠gs i:=by have:=HSY.out.sm.bs i hlt;omega
         have n4:gs i≠H:=by omega
         have n5:g2≠gs i:=SmR.row_ty HSY.out.sm.row2 (HSY.out.sm.rows i hlt) (by decide)
         have n6:gs i≠g2:=fun e=>n5 e.symm
         obtain⟨d,hd⟩:∃ d,d=max (zj (1+r+i)) 0:=⟨_,rfl⟩
         have HD:Hd (d=max (zj (1+r+i)) 0):=hd
         rw[← hd] at HCT
         clear hd
         obtain⟨gi,hgi⟩:∃ gi,gi=gs i:=⟨_,rfl⟩
         have HGI:Hd (gi=gs i):=hgi
         rw[← hgi] at y1 n1 n2 n3 n4 n5 n6
         clear hgi
         go_upto_region 22 with fail
         go_region_held3 (fun w'=>w'.cell? ⟨X,1,none⟩=some (.slice (some ⟨g2,0,none⟩) p p)∧w'.cell? ⟨g2,i,none⟩=some (.slice (some ⟨gi,0,none⟩) r r)∧w'.cell? ⟨H,0,none⟩=some (vI p)∧w'.cell? ⟨H,1,none⟩=some (vI r)∧w'.cell? ⟨H,2,none⟩=some (vI V)∧w'.cell? ⟨H,3,none⟩=some (.slice a cl c)∧w'.cell? ⟨H,4,none⟩=some (.slice ea el ec)) (go_keep) ((
          go_at_call 89
          refine(HCT.out wr.drew (Fr.drew (Fr.refl _ wr))).mono ?_
          rintro e w2 ⟨rfl,hF2⟩
          have hG2:Fr (fun _=>False) wr w2:=(Fr.drew (Fr.refl _ wr)).trans hF2
          have HS2:Hd (Sy w w2 H X p r g1 g2 gs Y Z' (.cells #[vI p,vI r,vI V,.slice a cl c,.slice ea el ec] 89)):=HSY.out.keep hG2
          have HR2:Hd (Wg.Row w2 3 b7 k (fun i=>vI (zj i))):=Row.stay HR.out hG2
          have x1:=(hG2.cell lX (fun e=>e)).trans x1
          have y1:=(hG2.cell l2 (fun e=>e)).trans y1
          have s0:=(hG2.cell lH (fun e=>e)).trans s0
          have s1:=(hG2.cell lH (fun e=>e)).trans s1
          have s2:=(hG2.cell lH (fun e=>e)).trans s2
          have s3:=(hG2.cell lH (fun e=>e)).trans s3
          have s4:=(hG2.cell lH (fun e=>e)).trans s4
          have t0:=(HS2.out.sm.rows i hlt).cell hjr
          have t1:=(HS2.out.sm.rows i hlt).frozen j
          rw[← HGI.out] at t0 t1
          clear hF2 hG2))
         have HS3:Hd (Sy w (w2.setCell ⟨gi,j,none⟩ (vI d)) H X p r g1 g2 gs Y (Wg.upd Z' i (Wg.upd (Z' i) j d)) (.cells #[vI p,vI r,vI V,.slice a cl c,.slice ea el ec] 89)):=by
          have:=HS2.out.set2 hlt j d
          rw[← HGI.out] at this
          exact this
         have HR3:Hd (Wg.Row (w2.setCell ⟨gi,j,none⟩ (vI d)) 3 b7 k (fun i=>vI (zj i))):=HR2.out.fr (fr_to (setCell_fr w2 gi j _)) (by rw[HGI.out];exact HB7.out i hlt)
         have HJ3:Hd (∀ q,q<i+1→Wg.upd Z' i (Wg.upd (Z' i) j d) q j=max (zj (1+r+q)) 0):=fun q hq=>by
          by_cases e:q=i
          ·rw[e,Wg.upd_same,Wg.upd_same,HD.out]
          ·rw[Wg.upd_ne _ _ e];exact HZJ.out q (by omega)
         have HZ3:Hd (∀ i_1,i_1<p→∀ q,q<j→Wg.upd Z' i (Wg.upd (Z' i) j d) i_1 q=max (z q (1+r+i_1)) 0):=fun q hq q2 hq2=>by
          by_cases e:q=i
          ·rw[e,Wg.upd_same,Wg.upd_ne _ _ (by omega)]
           rw[e] at hq
           exact HZ.out i hq q2 hq2
          ·rw[Wg.upd_ne _ _ e];exact HZ.out q hq q2 hq2
         clear HS2 HR2 HSY HR HZ HZJ n1 n2 n3 n4 n5 n6 x0 x1 y1 s0 s1 s2 s3 s4 t0 t1 HCT
         go_wp2_with fail
         exact⟨⟨i+1,_,by simp,by omega,HS3.out,HJ3.out,HZ3.out,HR3.out⟩,by simp;omega⟩
        ·have di:decide ((i:Int)<p)=false:=by simp;omega
         have HZ2:Hd (∀ i,i<p→∀ q,q<j+1→Z' i q=max (Wg.upd z j zj q (1+r+i)) 0):=fun q hq q2 hq2=>by
          by_cases e:q2=j
          ·rw[e,Wg.upd_same];exact HZJ.out q (by omega)
          ·rw[Wg.upd_ne _ _ e];exact HZ.out q hq q2 (by omega)
         have HL2:Hd (∀ q,q<j+1→Least k es [1+(q:Int)] (Wg.upd z j zj q)):=fun q hq=>by
          by_cases e:q=j
          ·rw[e,Wg.upd_same];exact HL7.out
          ·rw[Wg.upd_ne _ _ e];exact HZL.out q (by omega)
         clear HZ HZJ HR HZL
         go_wp2_with fail
         exact⟨⟨j+1,Z',Wg.upd z j zj,by simp,by omega,HSY.out,HL2.out,HZ2.out⟩,by simp;omega⟩
      ·have dj:decide ((j:Int)<r)=false:=by simp;omega
       have HSF:Hd (SmR wr w.heap.size p r g1 g2 gs (fun i=>max (y (1+r+i)) 0) (fun i j=>max (z j (1+r+i)) 0)):=by
        refine(HSY.out.sm.mono (by have:=HH.out;omega)).congr HYY.out (fun i hi q hq=>HZ.out i hi q (by omega))
       have HLF:Hd (∀ j,j<r→Least k es [1+(j:Int)] (z j)):=fun q hq=>HZL.out q (by omega)
       obtain⟨x0,x1⟩:=HX6.out wr HSY.out.hX
       have y0:wr.cell? ⟨H+1,0,none⟩=some (.slice none 0 0):=by rw[cell_of0 HSY.out.hN];rfl
       have y1:wr.cell? ⟨H+1,1,none⟩=some (.slice none 0 0):=by rw[cell_of0 HSY.out.hN];rfl
       have z0:=frozen_of HSY.out.hN 0
       have z1:=frozen_of HSY.out.hN 1
       have HZ0:Hd (((wr.setCell ⟨H+1,0,none⟩ (.slice (some ⟨g1,0,none⟩) p p)).setCell ⟨H+1,1,none⟩ (.slice (some ⟨g2,0,none⟩) p p)).heap[H+1]?=some (.cells #[.slice (some ⟨g1,0,none⟩) p p,.slice (some ⟨g2,0,none⟩) p p] 33)):=set_of (set_of HSY.out.hN 0 _) 1 _
       have f:Fr (fun j=>j=H+1) wr ((wr.setCell ⟨H+1,0,none⟩ (.slice (some ⟨g1,0,none⟩) p p)).setCell ⟨H+1,1,none⟩ (.slice (some ⟨g2,0,none⟩) p p)):=(setCell_fr wr (H+1) 0 _).trans (setCell_fr _ (H+1) 1 _)
       have HFz:Hd (Fr (fun _=>False) w ((wr.setCell ⟨H+1,0,none⟩ (.slice (some ⟨g1,0,none⟩) p p)).setCell ⟨H+1,1,none⟩ (.slice (some ⟨g2,0,none⟩) p p))):=HSY.out.fr.then f (fun j hj e=>by have:=HH.out;omega)
       have HSZ:Hd (SmR ((wr.setCell ⟨H+1,0,none⟩ (.slice (some ⟨g1,0,none⟩) p p)).setCell ⟨H+1,1,none⟩ (.slice (some ⟨g2,0,none⟩) p p)) w.heap.size p r g1 g2 gs (fun i=>max (y (1+r+i)) 0) (fun i j=>max (z j (1+r+i)) 0)):=by
        have b1:=HSY.out.sm.b1
        have b2:=HSY.out.sm.b2
        refine⟨HSF.out.row1.fr (fr_to f) (by omega),HSF.out.row2.fr (fr_to f) (by omega),fun i hi=>(HSF.out.rows i hi).fr (fr_to f) (by have:=HSY.out.sm.bs i hi;omega),HSF.out.b1,HSF.out.b2,HSF.out.bs,HSF.out.n1,HSF.out.nn⟩
       clear f HSF HSY HZ HZL HYY
       go_wp2_with fail
       generalize (wr.setCell ⟨H+1,0,none⟩ (.slice (some ⟨g1,0,none⟩) p p)).setCell ⟨H+1,1,none⟩ (.slice (some ⟨g2,0,none⟩) p p)=wy at *
       have e0:wy.cell? ⟨H+1,0,none⟩=some (.slice (some ⟨g1,0,none⟩) p p):=by rw[cell_of0 HZ0.out];rfl
       have e1:wy.cell? ⟨H+1,1,none⟩=some (.slice (some ⟨g2,0,none⟩) p p):=by rw[cell_of0 HZ0.out];rfl
       refine bodyPost_ret (v:=.agg #[.slice (some ⟨g1,0,none⟩) p p,.slice (some ⟨g2,0,none⟩) p p]) ?_ rfl ⟨HFz.out,g1,g2,gs,y,z,rfl,HSZ.out,HLY.out,HLF.out⟩
       rw[results_cell (p:=4) (ty:=33) Tryz.results46]
       simp[go_sem,e0,e1]
end Go.Proofs.YtdkijecnnmncnaaGreatDoor
