import Derived.Test.YtdkijecnnmncnaaGreatDoorQEjJ
import Derived.Test.YtdkijecnnmncnaaGreatDoorQQaJ
set_option linter.unusedVariables false
set_option linter.unusedSimpArgs false
namespace Go.Proofs.YtdkijecnnmncnaaGreatDoor
open Go.RowKit (wrap32 wrap64)
set_option maxRecDepth 100000
set_option maxHeartbeats 2000000
theorem rlocations_any (f:PF)(cv:Value)(w:World)(h:CA w cv f.code)(hn:f.code.length≤1599289640354) :
 Calls Tryz.prog 56 #[.agg #[vI f.P,vI f.R,vI f.V,cv]] w fun e w'=>e = .returned (vI (flocX f.R f.V f.code))∧Fr (fun _=>False) w w':=by
 obtain⟨a,c,rfl,H0'⟩:=id h
 obtain⟨wa,hwa⟩:∃ wa,wa=w.alloc (.cells #[vI f.P,vI f.R,vI f.V,.slice a f.code.length c] 45):=⟨_,rfl⟩
 have hb:wa.heap[w.heap.size]?=some (.cells #[vI f.P,vI f.R,vI f.V,.slice a f.code.length c] 45):=by rw[hwa];exact heap_new0 w _
 have HWA:Hd (wa=w.alloc (.cells #[vI f.P,vI f.R,vI f.V,.slice a f.code.length c] 45)):=hwa
 obtain⟨H,hH⟩:∃ H,H=w.heap.size:=⟨_,rfl⟩
 have HH:Hd (H=w.heap.size):=hH
 rw[← hH] at hb
 have hFa:Fr (fun _=>False) w wa:=by rw[hwa];exact Fr.alloc (Fr.refl _ w) _
 have HFa:Hd (Fr (fun _=>False) w wa):=hFa
 have HB:Hd (wa.heap[H]?=some (.cells #[vI f.P,vI f.R,vI f.V,.slice a f.code.length c] 45)):=hb
 have H0:Hd (f.code≠[]→_):=H0'
 have c0:wa.cell? ⟨H,0,none⟩=some (vI f.P):=by rw[cell_of0 hb];rfl
 have c1:wa.cell? ⟨H,1,none⟩=some (vI f.R):=by rw[cell_of0 hb];rfl
 have c2:wa.cell? ⟨H,2,none⟩=some (vI f.V):=by rw[cell_of0 hb];rfl
 have c3:wa.cell? ⟨H,3,none⟩=some (.slice a f.code.length c):=by rw[cell_of0 hb];rfl
 clear hwa hH hb hFa H0' h
 by_cases hq0:0≤f.R
 ·have d0:decide (f.R<0)=false:=by simp;omega
  by_cases hq1:0≤f.V
  ·have d1:decide (f.V<0)=false:=by simp;omega
   have HX:Hd (flocX f.R f.V f.code=wrap64 (cellX f.R f.V+(newsX f.code:Nat))):=if_pos ⟨hq0,hq1⟩
   clear hq0 hq1
   go_enter Tryz.func56,Tryz.ntmps56
   go_upto_region 1 with fail
   rw[← HWA.out,← HH.out]
   clear HWA
   go_wp2_with fail
   clear c0 c1 c2 c3
   go_loopw [3,4] (fun nv v wr=>∃ (q:Int) (k:Nat),nv = .int .i64 q∧v = .int .i64 k∧k≤f.code.length∧Hd (q=wrap64 (cellX f.R f.V+(newsX (f.code.take k):Nat)))∧Hd (Fr (fun _=>False) wa wr)) (fun _ v _=>match v with | .int _ q=>f.code.length-q.toNat | _=>0)
   case atStart=>exact⟨_,0,rfl,rfl,Nat.zero_le _,start_news _ _ _,Fr.refl _ _⟩
   case round =>
    obtain⟨q,k,rfl,rfl,hk,HQ,HF⟩:=hrel
    have c3:wr.cell? ⟨H,3,none⟩=some (.slice a f.code.length c):=by rw[HF.out.cell (heap_lt0 HB.out) (fun e=>e),cell_of0 HB.out];rfl
    by_cases hlt:k<f.code.length
    ·have hkl:k<f.code.length:=by omega
     obtain⟨ck,co,rfl,hck,hcs⟩:=H0.out (by intro e;simp[e] at hkl)
     obtain⟨av,rv,x0,-⟩:=hcs k hkl
     have x0:=((HFa.out.trans HF.out).cell (o:=co+k*7) hck (fun h=>h)).trans x0
     have HT:Hd (f.code.take (k+1)=f.code.take k++[f.code[k]]):=by unfold Hd;rw[List.take_add_one,List.getElem?_eq_getElem hkl];rfl
     generalize f.code[k]=ci at *
     have hk0:(0:Int)≤k:=by omega
     have hk1:(k:Int)<f.code.length:=by omega
     have hk2:(k:Int)<f.code.length:=by omega
     clear hcs
     by_cases h6:ci.op=6
     ·have d6:(ci.op==6)=true:=by simpa using h6
      have HQ2:Hd (wrap64 (q+1)=wrap64 (cellX f.R f.V+(newsX (f.code.take (k+1)):Nat))):=by
       unfold Hd;rw[HT.out,newsX_snoc,if_pos h6,HQ.out,wrap_add];congr 1;omega
      clear h6
      go_wp2_with fail
      exact⟨⟨_,k+1,rfl,by simp,by omega,HQ2.out,HF.out⟩,by simp;omega⟩
     ·have d6:(ci.op==6)=false:=by simpa using h6
      have HQ2:Hd (q=wrap64 (cellX f.R f.V+(newsX (f.code.take (k+1)):Nat))):=by unfold Hd;rw[HT.out,newsX_snoc,if_neg h6];exact HQ.out
      clear h6
      go_wp2_with fail
      exact⟨⟨_,k+1,rfl,by simp,by omega,HQ2.out,HF.out⟩,by simp;omega⟩
    ·have hke:k=f.code.length:=by omega
     have HE:Hd (q=flocX f.R f.V f.code):=by unfold Hd;rw[HX.out,HQ.out,hke,List.take_length]
     have hdk:decide ((k:Int)<f.code.length)=false:=by simp;omega
     have hdk2:decide (k<f.code.length)=false:=by simp;omega
     clear hke hlt
     go_wp2_with fail
     go_ret
     exact⟨by rw[← HE.out];rfl,HFa.out.trans HF.out⟩
  ·have d1:decide (f.V<0)=true:=by simp;omega
   have HX:Hd (flocX f.R f.V f.code=0):=if_neg (fun h=>hq1 h.2)
   clear hq0 hq1
   go_enter Tryz.func56,Tryz.ntmps56
   go_upto_region 1 with fail
   rw[← HWA.out,← HH.out]
   clear HWA
   go_wp2_with fail
   go_ret
   exact⟨by rw[HX.out];rfl,HFa.out⟩
 ·have d0:decide (f.R<0)=true:=by simp;omega
  have HX:Hd (flocX f.R f.V f.code=0):=if_neg (fun h=>hq0 h.1)
  clear hq0
  go_enter Tryz.func56,Tryz.ntmps56
  go_upto_region 1 with fail
  rw[← HWA.out,← HH.out]
  clear HWA
  go_wp2_with fail
  go_ret
  exact⟨by rw[HX.out];rfl,HFa.out⟩
end Go.Proofs.YtdkijecnnmncnaaGreatDoor
