import Derived.Test.YtdkijecnnmncnaaGreatDoorQTd
import Derived.Test.YtdkijecnnmncnaaGreatDoorQEdJ
import Derived.Test.YtdkijecnnmncnaaGreatDoorQWL3J
set_option linter.unusedVariables false
set_option linter.unusedSimpArgs false
namespace Go.Proofs.YtdkijecnnmncnaaGreatDoor
open Go.RowKit (wrap32 wrap64)
theorem row_owns {w:World}{t:TypeId}{B g n:Nat}{f:Nat→Value}(h:Wg.Row w t g n f)(hB:B≤g)(hn:n≤1000000000):w.ownsRow B t 1 (.slice (some ⟨g,0,none⟩) n n) n ((List.range n).map f):=by
 obtain⟨cs,h1,h2,h3⟩:=h
 refine⟨by simp,Or.inr ⟨g,n,cs,rfl,hB,h1,Nat.le_refl _,by unfold maxLen;omega,by omega,?_⟩⟩
 rw[Nat.mul_one]
 refine List.ext_getElem? fun i=>?_
 rw[List.getElem?_take]
 by_cases hi:i<n
 ·rw[if_pos hi,Array.getElem?_toList,h3 i hi]
  simp[hi]
 ·rw[if_neg hi]
  simp[hi]
namespace SmR
variable {w:World} {B p r g1 g2:Nat} {gs:Nat→Nat} {y:Nat→Int} {z:Nat→Nat→Int}
theorem keep (h:SmR w B p r g1 g2 gs y z){w':World}(f:Fr (fun _=>False) w w'):SmR w' B p r g1 g2 gs y z :=
 ⟨h.row1.fr (fr_to f) (fun e=>e),h.row2.fr (fr_to f) (fun e=>e),fun i hi=>(h.rows i hi).fr (fr_to f) (fun e=>e),h.b1,h.b2,h.bs,h.n1,h.nn⟩
theorem mono (h:SmR w B p r g1 g2 gs y z){B':Nat}(hB:B'≤B):SmR w B' p r g1 g2 gs y z :=
 ⟨h.row1,h.row2,h.rows,Nat.le_trans hB h.b1,Nat.le_trans hB h.b2,fun i hi=>Nat.le_trans hB (h.bs i hi),h.n1,h.nn⟩
theorem row_ty {w:World}{t t':TypeId}{g g' n n':Nat}{f f':Nat→Value}(h:Wg.Row w t g n f)(h':Wg.Row w t' g' n' f')(ht:t≠t'):g≠g':=fun e=>by
 subst e
 obtain⟨cs,h1,-⟩:=h
 obtain⟨cs',h2,-⟩:=h'
 injection (Option.some.inj (h1.symm.trans h2)) with _ e
 exact ht e
theorem set1 (h:SmR w B p r g1 g2 gs y z)(i:Nat)(x:Int):SmR (w.setCell ⟨g1,i,none⟩ (vI x)) B p r g1 g2 gs (Wg.upd y i x) z:=by
 have f:Wg.Fr (fun j=>j=g1) w (w.setCell ⟨g1,i,none⟩ (vI x)):=fr_to (setCell_fr w g1 i _)
 exact⟨h.row1.setI i x,h.row2.fr f (row_ty h.row2 h.row1 (by decide)),fun k hk=>(h.rows k hk).fr f (h.n1 k hk),h.b1,h.b2,h.bs,h.n1,h.nn⟩
theorem set2 (h:SmR w B p r g1 g2 gs y z){i:Nat}(hi:i<p)(j:Nat)(x:Int):SmR (w.setCell ⟨gs i,j,none⟩ (vI x)) B p r g1 g2 gs y (Wg.upd z i (Wg.upd (z i) j x)):=by
 have f:Wg.Fr (fun k=>k=gs i) w (w.setCell ⟨gs i,j,none⟩ (vI x)):=fr_to (setCell_fr w (gs i) j _)
 refine⟨h.row1.fr f (fun e=>h.n1 i hi e.symm),h.row2.fr f (row_ty h.row2 (h.rows i hi) (by decide)),fun k hk=>?_,h.b1,h.b2,h.bs,h.n1,h.nn⟩
 by_cases e:k=i
 ·subst e
  rw[Wg.upd_same]
  exact(h.rows k hk).setI j x
 ·rw[Wg.upd_ne _ _ e]
  exact(h.rows k hk).fr f (h.nn k i hk hi e)
theorem congr (h:SmR w B p r g1 g2 gs y z){y':Nat→Int}{z':Nat→Nat→Int}(h1:∀ i,i<p→y i=y' i)(h2:∀ i,i<p→∀ j,j<r→z i j=z' i j):SmR w B p r g1 g2 gs y' z' :=
 ⟨h.row1.congr fun i hi=>by rw[h1 i hi],h.row2,fun i hi=>(h.rows i hi).congr fun j hj=>by rw[h2 i hi j hj],h.b1,h.b2,h.bs,h.n1,h.nn⟩
theorem so (h:SmR w B p r g1 g2 gs y z)(hp:p≤8)(hr:r≤4):SO w B (.slice (some ⟨g1,0,none⟩) p p) (.slice (some ⟨g2,0,none⟩) p p) ((List.range p).map fun i=>.slice (some ⟨gs i,0,none⟩) r r) ⟨(List.range p).map y,(List.range p).map fun i=>(List.range r).map (z i)⟩:=by
 refine⟨?_,⟨?_,by simp,fun i hi hk=>?_,fun i j hi hj hne k e1 e2=>?_⟩,fun i hi k e1 e2=>?_⟩
 ·have:=row_owns h.row1 h.b1 (by omega)
  unfold IOwn
  simp only[List.length_map,List.length_range,List.map_map]
  exact this
 ·have:=row_owns h.row2 h.b2 (by omega)
  simp only[List.length_map,List.length_range]
  exact this
 ·have hi':i<p:=by simpa using hi
  have:=row_owns (h.rows i hi') (h.bs i hi') (by omega)
  unfold IOwn
  simp only[List.getElem_map,List.getElem_range,List.length_map,List.length_range,List.map_map]
  exact this
 ·have hi':i<p:=by simpa using hi
  have hj':j<p:=by simpa using hj
  simp only[List.getElem_map,List.getElem_range] at e1 e2
  have e1':gs i=k:=Option.some.inj e1
  have e2':gs j=k:=Option.some.inj e2
  exact h.nn i j hi' hj' hne (e1'.trans e2'.symm)
 ·have hi':i<p:=by simpa using hi
  simp only[List.getElem_map,List.getElem_range] at e1
  have e1':gs i=k:=Option.some.inj e1
  have e2':g1=k:=Option.some.inj e2
  exact h.n1 i hi' (e1'.trans e2'.symm)
end SmR
end Go.Proofs.YtdkijecnnmncnaaGreatDoor
namespace Go.Proofs.YtdkijecnnmncnaaGreatDoor.Wg
open Go.RowKit (wrap32 wrap64)
theorem rweight_any (d:Int)(w:World):Calls Tryz.prog 169 #[.int .i64 d] w fun e w'=>e = .returned (vI (weightX d))∧w'=w:=by
 by_cases h1:d < -1
 ·have h1':decide (d < -1)=true:=by simpa using h1
  go_enter Tryz.func169,Tryz.ntmps169
  go_wp2_with fail
  go_ret
  exact⟨by unfold weightX flowsX;rw[decide_eq_false (by omega)];rfl,rfl⟩
 ·have h1':decide (d < -1)=false:=by simpa using h1
  by_cases h2:3<d
  ·have h2':decide (3<d)=true:=by simpa using h2
   go_enter Tryz.func169,Tryz.ntmps169
   go_wp2_with fail
   go_ret
   exact⟨by unfold weightX flowsX;rw[decide_eq_false (by omega)];rfl,rfl⟩
  ·have h2':decide (3<d)=false:=by simpa using h2
   go_enter Tryz.func169,Tryz.ntmps169
   go_wp2_with fail
   go_ret
   exact⟨by unfold weightX flowsX;rw[decide_eq_true (by omega)];rfl,rfl⟩
def isW (a:Int):Prop:=a = -1∨a=0∨a=1∨a=2∨a=3∨a=9
theorem weightX_is (d:Int):isW (weightX d):=by
 unfold weightX flowsX isW
 split
 ·rename_i h;simp at h;omega
 ·simp
theorem plusX_weight (a b:Int):plusX (weightX a) (weightX b)=plusX a b:=by
 have h9:flowsX 9=false:=by decide
 unfold weightX
 cases h1:flowsX a<;>cases h2:flowsX b<;>simp[plusX,h1,h2,h9]
theorem rplus_w (a b:Int)(ha:isW a)(hb:isW b):plusX a b=if a=9∨b=9 then 9 else if (if a<0 then 0 else a)+b>3 then 3 else (if a<0 then 0 else a)+b:=by
 rcases ha with rfl | rfl | rfl | rfl | rfl | rfl<;>rcases hb with rfl | rfl | rfl | rfl | rfl | rfl<;>decide
theorem rplus_any (a b:Int)(w:World):Calls Tryz.prog 136 #[.int .i64 a,.int .i64 b] w fun e w'=>e = .returned (vI (plusX a b))∧w'=w:=by
 have hA:=weightX_is a
 have hB:=weightX_is b
 have hP:=rplus_w _ _ hA hB
 rw[plusX_weight] at hP
 have HP:Hd _:=hP
 clear hP
 go_enter Tryz.func136,Tryz.ntmps136
 go_wp2_with fail
 refine(rweight_any a w).mono ?_
 rintro e w1 ⟨rfl,rfl⟩
 go_wp2_with fail
 refine(rweight_any b w1).mono ?_
 rintro e w2 ⟨rfl,rfl⟩
 generalize weightX a=x at *
 generalize weightX b=y at *
 by_cases hx:x=9
 ·subst hx
  go_wp2_with fail
  go_ret
  exact⟨by rw[show plusX a b=_ from HP.out];simp,rfl⟩
 ·have hx':(x==9)=false:=by simpa using hx
  by_cases hy:y=9
  ·subst hy
   go_wp2_with fail
   go_ret
   exact⟨by rw[show plusX a b=_ from HP.out];simp,rfl⟩
  ·have hy':(y==9)=false:=by simpa using hy
   have hxr : -1≤x∧x≤3:=by unfold isW at hA;omega
   have hyr : -1≤y∧y≤3:=by unfold isW at hB;omega
   clear hA hB
   by_cases hn:x<0
   ·have hn':decide (x<0)=true:=by simpa using hn
    by_cases h3:0+y>3
    ·omega
    ·have h3':decide (3<y)=false:=by simp;omega
     have hw:wrap64 y=y:=by unfold wrap64;omega
     go_wp2_with fail
     go_ret
     exact⟨by rw[show plusX a b=_ from HP.out,if_neg (by omega),if_pos hn,if_neg (by omega)];simp,rfl⟩
   ·have hn':decide (x<0)=false:=by simpa using hn
    have hw:wrap64 (x+y)=x+y:=by unfold wrap64;omega
    by_cases h3:x+y>3
    ·have h3':decide (3<x+y)=true:=by simpa using h3
     go_wp2_with fail
     go_ret
     exact⟨by rw[show plusX a b=_ from HP.out,if_neg (show ¬ (x=9∨y=9) by omega),if_neg (show ¬ x<0 by omega),if_pos (by omega)];rfl,rfl⟩
    ·have h3':decide (3<x+y)=false:=by simpa using h3
     go_wp2_with fail
     go_ret
     exact⟨by rw[show plusX a b=_ from HP.out,if_neg (show ¬ (x=9∨y=9) by omega),if_neg (show ¬ x<0 by omega),if_neg (by omega)];rfl,rfl⟩
end Go.Proofs.YtdkijecnnmncnaaGreatDoor.Wg
namespace Go.Proofs.YtdkijecnnmncnaaGreatDoor.Wg
open Go.RowKit (wrap32 wrap64)
def eCells : List Ed→List Value
 | []=>[]
 | e::r=>vI e.1::vI e.2.1::vI e.2.2::eCells r
theorem eCells_get : ∀ (es:List Ed) (i:Nat) (h:i<es.length),(eCells es)[i*3]?=some (vI es[i].1)∧(eCells es)[i*3+1]?=some (vI es[i].2.1)∧(eCells es)[i*3+2]?=some (vI es[i].2.2)
 | e::r,0,_=>⟨rfl,rfl,rfl⟩
 | e::r,i+1,h=>by
   have:=eCells_get r i (by simpa using h)
   rw[show(i+1)*3=i*3+1+1+1 by omega]
   simpa[eCells] using this
end Go.Proofs.YtdkijecnnmncnaaGreatDoor.Wg
namespace Go.Proofs.YtdkijecnnmncnaaGreatDoor.Wg
open Go.RowKit (wrap32 wrap64)
def OwnE (w:World)(B:Nat)(v:Value)(es:List Ed):Prop:=w.ownsRow B 140 3 v es.length (eCells es)
def OwnI (w:World)(B:Nat)(v:Value)(zs:List Int):Prop:=w.ownsRow B 3 1 v zs.length (zs.map vI)
theorem OwnI.nil (w:World)(B:Nat):OwnI w B (.slice none 0 0) []:=World.ownsRow_nil w B 3 1
theorem OwnI.ge {w:World}{B:Nat}{v:Value}{zs:List Int}(h:OwnI w B v zs):∀ k,v.ownBlock=some k→B≤k∧k<w.heap.size:=World.ownsRow.lt h
theorem OwnE.at {w:World}{B:Nat}{v:Value}{es:List Ed}(h:OwnE w B v es):EdgesAt w.heap.size w v es:=by
 rcases h.2 with⟨h2,h3⟩|⟨g,cap,cur,e,h3,h4,h5,h6,h7,h8⟩
 ·exact⟨none,0,by rw[h2,h3],by omega,fun hne=>absurd (List.eq_nil_of_length_eq_zero h3) hne⟩
 ·refine⟨_,cap,e,h5,fun _=>⟨g,0,rfl,heap_lt h4,fun i hi=>?_⟩⟩
  have key:∀ j,j<es.length*3→cur[j]?=(eCells es)[j]?:=fun j hj=>by
   rw[← h8,List.getElem?_take,if_pos hj,Array.getElem?_toList]
  obtain⟨k0,k1,k2⟩:=eCells_get es i hi
  simp only[Nat.zero_add,cell_of h4]
  rw[key _ (by omega),key _ (by omega),key _ (by omega)]
  exact⟨k0,k1,k2⟩
theorem OwnI.at {w:World}{B:Nat}{v:Value}{zs:List Int}(h:OwnI w B v zs):IntsAt w.heap.size w v zs:=by
 rcases h.2 with⟨h2,h3⟩|⟨g,cap,cur,e,h3,h4,h5,h6,h7,h8⟩
 ·exact⟨none,0,by rw[h2,h3],by omega,fun hne=>absurd (List.eq_nil_of_length_eq_zero h3) hne⟩
 ·refine⟨_,cap,e,h5,fun _=>⟨g,0,rfl,heap_lt h4,fun i hi=>?_⟩⟩
  rw[Nat.zero_add,cell_of h4]
  have:cur[i]?=(zs.map vI)[i]?:=by rw[← h8,List.getElem?_take,if_pos (by omega),Array.getElem?_toList]
  rw[this]
  simp[hi]
theorem grow_fr0 {w wr w6:World}{v:Value}(h:Fr (fun _=>False) w wr)(hg:wr.grownBy w6 v.ownBlock)(hb:∀ k,v.ownBlock=some k→w.heap.size≤k):Fr (fun _=>False) w w6 :=
 h.anew (grown_fr hg) (fun j hj e=>by have:=hb j e;omega)
theorem OwnI.of {w6:World}{B:Nat}{zs:List Int}{z:Int}{g cap:Nat}(h:w6.ownsRow B 3 1 (.slice (some ⟨g,0,none⟩) (zs.length+1) cap) (zs.length+1) (zs.map vI++[vI z])):OwnI w6 B (.slice (some ⟨g,0,none⟩) (zs.length+1) cap) (zs++[z]):=by
 unfold OwnI
 rw[List.map_append,List.length_append]
 exact h
end Go.Proofs.YtdkijecnnmncnaaGreatDoor.Wg
namespace Go.Proofs.YtdkijecnnmncnaaGreatDoor
open Go.RowKit (wrap32 wrap64)
set_option maxRecDepth 100000
set_option maxHeartbeats 2000000
theorem rootsX_succ (k:Nat):rootsX (k+1)=rootsX k++[((k:Int)+1)]:=by
 unfold rootsX
 rw[List.range_succ (n:=k+1),List.map_append]
 simp
theorem rootsX_len (k:Nat):(rootsX k).length=k+1:=by simp[rootsX]
theorem under35 : Tryz.prog.underlying 35=some (.slice 4):=by kernel_rfl
theorem make35 (n:Nat)(hn:n≤1048576)(w:World):(Instr.makeSlice 35 (.int .i64 n) (.int .i64 n)).run Tryz.prog w = .ok (.slice (some ⟨w.heap.size,0,none⟩) n n) (w.alloc (.cells (Array.replicate n (.bool false)) 4)):=by
 rw[Wg.run_make_of 35 4 (.bool false) 1 1 under35 (by kernel_rfl) (by kernel_rfl) (by kernel_rfl) n (by omega) (by omega) w,Nat.mul_one]
 show Result.ok _ (w.alloc (.cells (madeCells #[.bool false] n) 4))=_
 rw[Wg.made_one,List.toArray_replicate]
theorem iown_ints {w:World}{B:Nat}{v:Value}{l:List Int}(h:IOwn w B v l):Wg.IntsAt w.heap.size w v l:=Wg.OwnI.at (B:=B) h
def EscE (n r:Nat)(es:List Ed)(w:World)(e:Ending)(w':World):Prop :=
 Fr (fun _=>False) w w'∧∃ b x,e = .returned (.slice (some ⟨b,0,none⟩) n n)∧w.heap.size≤b∧Wg.Row w' 4 b n (fun l=>.bool (decide (x l = -1)))∧Least n es (rootsX r) x
theorem escaping_any (fs:List PF)(f:PF)(hf:FunR fs f)(a:Option Addr)(c:Nat)(ea:Option Addr)(ec:Nat)(es:List Ed)(w:World)(r:Nat)(hr:f.R=r)(hC:CA w (.slice a f.code.length c) f.code)(hE:Wg.EdgesAt w.heap.size w (.slice ea es.length ec) es)(hG:EdR (locN f) r es)(hel:es.length≤163840) :
 Calls Tryz.prog 45 #[.agg #[vI f.P,vI f.R,vI f.V,.slice a f.code.length c,.slice ea es.length ec]] w (EscE (locN f) r es w):=by
 obtain⟨i3,hi3,hz3,hs3,hb3⟩:=info_parts (P:=Tryz.prog) (e:=3) (z:=.int .i64 0) (size:=1) (bytes:=8) (by kernel_rfl)
 have hR4:r≤4:=by have:=hf.R;omega
 have hn1:locN f≤1048576:=hG.n2
 obtain⟨wa,hwa⟩:∃ wa,wa=(w.alloc (.cells #[vI f.P,vI f.R,vI f.V,.slice a f.code.length c,.slice ea es.length ec] 89)).alloc (.cells #[vI 0] 3):=⟨_,rfl⟩
 have HWA:Hd (wa=(w.alloc (.cells #[vI f.P,vI f.R,vI f.V,.slice a f.code.length c,.slice ea es.length ec] 89)).alloc (.cells #[vI 0] 3)):=hwa
 obtain⟨H,hH⟩:∃ H,H=w.heap.size:=⟨_,rfl⟩
 have HH:Hd (H=w.heap.size):=hH
 have hb:wa.heap[H]?=some (.cells #[vI f.P,vI f.R,vI f.V,.slice a f.code.length c,.slice ea es.length ec] 89):=by
  rw[hwa,hH];exact keepA (heap_new0 w _) _
 have hb1:wa.heap[H+1]?=some (.cells #[vI 0] 3):=by
  rw[hwa,hH]
  have:=heap_new0 (w.alloc (.cells #[vI f.P,vI f.R,vI f.V,.slice a f.code.length c,.slice ea es.length ec] 89)) (.cells #[vI 0] 3)
  rw[World.size_alloc] at this
  exact this
 have HS:Hd (∀ (wx:World),wx.heap[H]?=some (.cells #[vI f.P,vI r,vI f.V,.slice a f.code.length c,.slice ea es.length ec] 89)→wx.cell? ⟨H,0,none⟩=some (vI f.P)∧wx.cell? ⟨H,1,none⟩=some (vI r)∧wx.cell? ⟨H,2,none⟩=some (vI f.V)∧wx.cell? ⟨H,3,none⟩=some (.slice a f.code.length c)∧wx.cell? ⟨H,4,none⟩=some (.slice ea es.length ec)):=fun wx hb =>
  ⟨by rw[cell_of0 hb];rfl,by rw[cell_of0 hb];rfl,by rw[cell_of0 hb];rfl,by rw[cell_of0 hb];rfl,by rw[cell_of0 hb];rfl⟩
 rw[hr] at hb
 have HB:Hd (wa.heap[H]?=some (.cells #[vI f.P,vI r,vI f.V,.slice a f.code.length c,.slice ea es.length ec] 89)):=hb
 have hFa:Fr (fun _=>False) w wa:=by rw[hwa];exact Fr.alloc (Fr.alloc (Fr.refl _ w) _) _
 have HFA:Hd (Fr (fun _=>False) w wa):=hFa
 have HO0:Hd (IOwn wa (H+1) (.slice (some ⟨H+1,0,none⟩) 1 1) (rootsX 0)):=by
  refine⟨rfl,Or.inr ⟨H+1,1,_,rfl,Nat.le_refl _,hb1,Nat.le_refl _,by unfold maxLen;omega,rfl,rfl⟩⟩
 have HFL:Hd (∀ wx ra rc,Fr (fun _=>False) w wx→Wg.IntsAt wx.heap.size wx (.slice ra (r+1) rc) (rootsX r)→Calls Tryz.prog 88 #[.agg #[vI f.P,vI r,vI f.V,.slice a f.code.length c,.slice ea es.length ec],.slice ra (r+1) rc] wx (FlwE (locN f) es (rootsX r) wx)):=fun wx ra rc hx hi=>by
  have h9:=hx
  have:=flows_any fs f hf a c ea ec es ra rc (rootsX r) wx (hC.stay h9) (edges_stay hE h9) (by rw[rootsX_len];exact hi) hG.roots (by omega) (by rw[rootsX_len];omega)
  rw[rootsX_len,hr] at this
  exact this
 rw[hr]
 rw[hr] at HWA
 generalize locN f=n at *
 have hmk:=make35 n hn1
 clear hwa hH hb hb1 hFa hC hE hG hf hr
 obtain⟨s0,s1,s2,s3,s4⟩:=HS.out wa HB.out
 go_enter Tryz.func45,Tryz.ntmps45
 go_upto_region 2 with fail
 rw[← HWA.out,← HH.out]
 clear HWA
 go_wp2_with fail
 clear s0 s1 s2 s3 s4
 go_loopw [3,13] (fun mv v wr=>∃ (k:Nat),v = .int .i64 k∧k≤r∧Hd (IOwn wr (H+1) mv (rootsX k))∧Hd (wr.heap[H]?=some (.cells #[vI f.P,vI r,vI f.V,.slice a f.code.length c,.slice ea es.length ec] 89))∧Hd (Fr (fun _=>False) w wr)) (fun _ v _=>match v with | .int _ q=>r-q.toNat | _=>0)
 case atStart=>exact⟨0,rfl,Nat.zero_le _,HO0.out,HB.out,HFA.out⟩
 case round =>
  clear HO0 HB
  obtain⟨k,rfl,hk,HO,HB,HF⟩:=hrel
  by_cases hlt:k<r
  ·have HT:Hd (rootsX (k+1)=rootsX k++[((k:Int)+1)]):=rootsX_succ k
   have HTL:Hd ((rootsX k).length=k+1):=rootsX_len k
   obtain⟨E,hE⟩:∃ E,E=rootsX k:=⟨_,rfl⟩
   rw[← hE] at HO HT HTL
   clear hE
   have hk0:(0:Int)≤k:=by omega
   have hk1:(k:Int)<r:=by omega
   have hw1:wrap64 (1+(k:Int))=(k:Int)+1:=by unfold wrap64;omega
   have hw2:IntKind.i64.wrap (1+(k:Int))=(k:Int)+1:=by simp[IntKind.wrap,IntKind.bits,IntKind.signed];omega
   have hsz:H+1≤wr.heap.size:=heap_lt0 HB.out
   have HO1:Hd ((wr.alloc (.cells #[vI ((k:Int)+1)] 3)).ownsRow (H+1) 3 1 u3 E.length (E.map vI)):=World.ownsRow.alloc HO.out _
   have hnews:∀ j u,[vI ((k:Int)+1)][j]?=some u→(wr.alloc (.cells #[vI ((k:Int)+1)] 3)).cell? ((⟨wr.heap.size,0,none⟩:Addr).add j)=some u :=
    World.news_of_block (cs:=#[vI ((k:Int)+1)]) (heap_new0 wr (.cells #[vI ((k:Int)+1)] 3))
   have hbase:H+1≤(wr.alloc (.cells #[vI ((k:Int)+1)] 3)).heap.size:=by simp;omega
   have hEl:E.length+1≤17592186043905:=by have:=HTL.out;omega
   go_wp2_with ((at_builtin;refine Hd.out ?_))
   unfold Hd
   refine wpList_append_lies _ rfl (.tmp 16) (.tmp 19) 30 rfl (H+1) 3 i3 (.int .i64 0) 1 8 under64 hi3 hz3 hs3 hb3 rfl (by omega) u3 E.length _ rfl HO1.out ⟨wr.heap.size,0,none⟩ 1 1 [vI ((k:Int)+1)] rfl rfl hnews (by intro u hu;simp at hu;subst hu;rfl) (by omega) (by unfold maxLen;omega) (by omega) hbase (wr.heap.size+1) (by simp) ?_
   intro g6 cap6 w6 hown6 hgrow6 hat6 hlt6
   have HO6:Hd (IOwn w6 (H+1) (.slice (some ⟨g6,0,none⟩) (E.length+1) cap6) (E++[((k:Int)+1)])):=by unfold Hd IOwn;rw[List.map_append,List.length_append];exact hown6
   have HF6:Hd (Fr (fun _=>False) w w6):=grow_fr0 (HF.out.alloc _) hgrow6 (fun k hk=>by have:=(HO.out.ge k hk).1;have:=HH.out;omega)
   have HB6:Hd (w6.heap[H]?=some (.cells #[vI f.P,vI r,vI f.V,.slice a f.code.length c,.slice ea es.length ec] 89)):=by
    have f:=grown_frL hgrow6
    refine(f.block H (by simp;omega) (fun e=>?_)).trans (keepA HB.out _)
    have:=(HO.out.ge H e).1
    omega
   clear hown6 hgrow6 hat6 hlt6 HO HF HO1 HB hnews hbase
   go_wp2_with fail
   refine⟨⟨k+1,by simp,by omega,?_,HB6.out,HF6.out⟩,by simp;omega⟩
   unfold Hd;rw[HT.out];exact HO6.out
  ·have hke:k=r:=by omega
   subst hke
   have HKL:Hd ((rootsX k).length=k+1):=rootsX_len k
   obtain⟨ra,rc,rfl⟩:∃ ra rc,u3 = .slice ra (k+1) rc:=by
    obtain⟨ra,rc,e⟩:=own_slice HO.out
    exact⟨ra,rc,by rw[e,HKL.out]⟩
   have HI:Hd (Wg.IntsAt wr.heap.size wr (.slice ra (k+1) rc) (rootsX k)):=iown_ints HO.out
   obtain⟨s0,s1,s2,s3,s4⟩:=HS.out wr HB.out
   have dk:decide ((k:Int)<(k:Int))=false:=by simp
   clear HO HB
   go_wp2_with fail
   refine(HFL.out wr ra rc HF.out HI.out).mono ?_
   rintro e w5 ⟨hF5,b5,x,rfl,hb5,hR5,hL5⟩
   have HF5:Hd (Fr (fun _=>False) w w5):=HF.out.trans hF5
   have HB5:Hd (w.heap.size≤b5):=Nat.le_trans HF.out.size hb5
   have HL5:Hd (Least n es (rootsX k) x):=hL5
   have HR5:Hd (Wg.Row w5 3 b5 n (fun i=>vI (x i))):=hR5
   have hm5:=hmk w5
   clear hF5 hb5 hL5 hR5 HI HF s0 s1 s2 s3 s4 HFL
   have HQ:Hd (Wg.Row (w5.alloc (.cells (Array.replicate n (.bool false)) 4)) 4 w5.heap.size n (fun _=>.bool false)):=Wg.Row.made w5 4 n _
   have HR6:Hd (Wg.Row (w5.alloc (.cells (Array.replicate n (.bool false)) 4)) 3 b5 n (fun i=>vI (x i))):=HR5.out.fr (fr_to (Fr.alloc (Fr.refl (fun _=>False) w5) _)) (fun e=>e)
   have HF6:Hd (Fr (fun _=>False) w (w5.alloc (.cells (Array.replicate n (.bool false)) 4))):=HF5.out.alloc _
   obtain⟨Q,hQ⟩:∃ Q,Q=w5.heap.size:=⟨_,rfl⟩
   have HQS:Hd (w.heap.size≤Q):=by have:=HF5.out.size;unfold Hd;omega
   have HQB:Hd (b5≠Q):=by have:=HR5.out.lt;unfold Hd;omega
   go_upto_region 9 with fail
   rw[← hQ] at HQ ⊢
   clear hQ hm5 HR5 HF5
   generalize w5.alloc (.cells (Array.replicate n (.bool false)) 4)=wz at *
   go_wp2_with fail
   go_loopw [30] (fun v wr=>∃ (k:Nat),v = .int .i64 k∧k≤n∧Hd (Wg.Row wr 4 Q n (fun l=>.bool (if l<k then decide (x l = -1) else false)))∧Hd (Wg.Row wr 3 b5 n (fun i=>vI (x i)))∧Hd (Fr (fun _=>False) w wr)) (fun v _=>match v with | .int _ q=>n-q.toNat | _=>0)
   case atStart=>exact⟨0,rfl,Nat.zero_le _,HQ.out.congr (fun i _=>by simp),HR6.out,HF6.out⟩
   case round =>
    clear HQ HR6 HF6
    obtain⟨j,rfl,hj,HQ,HR,HF⟩:=hrel
    by_cases hlt:j<n
    ·have hj0:(0:Int)≤j:=by omega
     have hj1:(j:Int)<n:=by omega
     have p0:=HR.out.cell hlt
     have p1:=HQ.out.cell hlt
     have z1:=HQ.out.frozen j
     rw[if_neg (Nat.lt_irrefl j)] at p1
     have HQ2:Hd (Wg.Row (wr.setCell ⟨Q,j,none⟩ (.bool (x j==-1))) 4 Q n (fun l=>.bool (if l<j+1 then decide (x l = -1) else false))):=by
      refine(HQ.out.setB j _).congr fun i _=>?_
      unfold Wg.upd
      by_cases e:i=j
      ·subst e
       rw[if_pos rfl,if_pos (Nat.lt_succ_self i)]
       rfl
      ·rw[if_neg e]
       show Value.bool (if i<j then decide (x i = -1) else false)=_
       by_cases hi:i<j
       ·rw[if_pos hi,if_pos (by omega)]
       ·rw[if_neg hi,if_neg (by omega)]
     have HR2:Hd (Wg.Row (wr.setCell ⟨Q,j,none⟩ (.bool (x j==-1))) 3 b5 n (fun i=>vI (x i))):=HR.out.fr (fr_to (setCell_fr wr Q j _)) HQB.out
     have HF2:Hd (Fr (fun _=>False) w (wr.setCell ⟨Q,j,none⟩ (.bool (x j==-1)))):=HF.out.setCell _ _ (Or.inr HQS.out)
     generalize x j=xj at *
     clear HQ HR HF
     go_wp2_with fail
     exact⟨⟨j+1,by simp,by omega,HQ2.out,HR2.out,HF2.out⟩,by simp;omega⟩
    ·have dj:decide ((j:Int)<n)=false:=by simp;omega
     have HQ2:Hd (Wg.Row wr 4 Q n (fun l=>.bool (decide (x l = -1)))):=HQ.out.congr fun i hi=>by rw[if_pos (by omega)]
     clear HQ
     go_wp2_with fail
     go_ret
     exact⟨HF.out,Q,x,rfl,HQS.out,HQ2.out,HL5.out⟩
end Go.Proofs.YtdkijecnnmncnaaGreatDoor
