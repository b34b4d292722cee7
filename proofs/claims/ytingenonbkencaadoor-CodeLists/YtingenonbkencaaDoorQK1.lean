import Derived.Test.YtingenonbkencaaDoorQE3J
set_option linter.unusedVariables false
set_option linter.unusedSimpArgs false
namespace Go.Proofs.YtingenonbkencaaDoor
open Go.RowKit (wrap32 wrap64)
set_option maxRecDepth 100000
set_option maxHeartbeats 4000000
def RW (rb:Nat)(G:Int)(fv:Value)(w:World)(L E:Int):Prop:=w.heap[rb]?=some (.cells #[vI G,fv,vI L,vI E] 58)
theorem RW.fr {S:Nat→Prop}{rb:Nat}{G:Int}{fv:Value}{w w':World}{L E:Int}(h:RW rb G fv w L E)(f:Fr S w w')(hS:¬ S rb):RW rb G fv w' L E:=by
 unfold RW;rw[f.block rb (Array.getElem?_eq_some_iff.1 h).1 hS];exact h
theorem RW.cells {rb:Nat}{G:Int}{fv:Value}{w:World}{L E:Int}(h:RW rb G fv w L E):w.cell? ⟨rb,0,none⟩=some (vI G)∧w.cell? ⟨rb,1,none⟩=some fv∧w.cell? ⟨rb,2,none⟩=some (vI L)∧w.cell? ⟨rb,3,none⟩=some (vI E)∧(∀ o,w.frozen? ⟨rb,o,none⟩=false)∧rb<w.heap.size:=by
 have h:w.heap[rb]?=some (.cells #[vI G,fv,vI L,vI E] 58):=h
 refine⟨?_,?_,?_,?_,?_,(Array.getElem?_eq_some_iff.1 h).1⟩
 ·unfold World.cell?;simp[h]
 ·unfold World.cell?;simp[h]
 ·unfold World.cell?;simp[h]
 ·unfold World.cell?;simp[h]
 ·intro o;unfold World.frozen?;simp[h]
theorem RW.setE {rb:Nat}{G:Int}{fv:Value}{w:World}{L E:Int}(h:RW rb G fv w L E)(e:Int):RW rb G fv (w.setCell ⟨rb,3,none⟩ (vI e)) L e:=by
 have h:w.heap[rb]?=some (.cells #[vI G,fv,vI L,vI E] 58):=h
 unfold RW World.setCell
 simp only[Array.getElem?_modify]
 rw[if_pos trivial,h]
 rfl
theorem RW.setL {rb:Nat}{G:Int}{fv:Value}{w:World}{L E:Int}(h:RW rb G fv w L E)(l:Int):RW rb G fv (w.setCell ⟨rb,2,none⟩ (vI l)) l E:=by
 have h:w.heap[rb]?=some (.cells #[vI G,fv,vI L,vI E] 58):=h
 unfold RW World.setCell
 simp only[Array.getElem?_modify]
 rw[if_pos trivial,h]
 rfl
def mustE (ok:Bool)(e E:Int):Int:=if !ok&&E==0 then e else E
theorem rmust (rb:Nat)(G:Int)(fv:Value)(w:World)(L E:Int)(h:RW rb G fv w L E)(ok:Bool)(e:Int) :
 Calls Tryd.prog 54 #[.pointer (some ⟨rb,0,none⟩),.bool ok,vI e] w fun r w'=>r = .returned (.tuple #[])∧RW rb G fv w' L (mustE ok e E)∧Fr (fun k=>k=rb) w w':=by
 obtain⟨-,-,-,c3,hz,hlt⟩:=h.cells
 have HH:Hd (RW rb G fv w L E):=h
 cases ok with
 | true =>
   clear h
   go_enter Tryd.func54,Tryd.ntmps54
   go_wp2_with fail
   go_end0
   exact⟨rfl,HH.out,Fr.refl _ _⟩
 | false =>
   by_cases hE:E=0
   ·subst hE
    have h2:Hd (RW rb G fv (w.setCell ⟨rb,3,none⟩ (vI e)) L e):=h.setE e
    clear h
    go_enter Tryd.func54,Tryd.ntmps54
    go_wp2_with fail
    go_end0
    exact⟨rfl,h2.out,Fr.setCell (Fr.refl _ _) _ _ (Or.inl rfl)⟩
   ·have hE':(E==0)=false:=by simpa using hE
    have hm:Hd (mustE false e E=E):=by unfold Hd mustE;simp[hE]
    clear h
    go_enter Tryd.func54,Tryd.ntmps54
    go_wp2_with fail
    go_end0
    exact⟨rfl,by rw[hm.out];exact HH.out,Fr.refl _ _⟩
def partsN : Nat→Array UInt8
 | 1=>#[82,105]
 | 2=>#[82,83]
 | 3=>#[82,83,84]
 | 4=>#[82,83,84]
 | 5=>#[82,83]
 | 6=>#[82,99]
 | 7=>#[82,83,102]
 | 8=>#[82,83,102]
 | 9=>#[82,103]
 | 10=>#[83,103]
 | 11=>#[70,65,66]
 | 12=>#[83]
 | 13=>#[74]
 | 14=>#[83,74]
 | 15=>#[86]
 | 16=>#[82]
 | 17=>#[82,83,84]
 | _=>#[]
def partsB (op:Int):ByteArray:=⟨partsN op.toNat⟩
theorem rparts_in (k:Nat)(h1:1≤k)(h17:k≤17)(w:World):Calls Tryd.prog 70 #[vI k] w fun r w'=>r = .returned (.string (partsB k))∧Fr (fun _=>False) w w':=by
 rcases(show k=1∨k=2∨k=3∨k=4∨k=5∨k=6∨k=7∨k=8∨k=9∨k=10∨k=11∨k=12∨k=13∨k=14∨k=15∨k=16∨k=17 by omega) with rfl | rfl | rfl | rfl | rfl | rfl | rfl | rfl | rfl | rfl | rfl | rfl | rfl | rfl | rfl | rfl | rfl
 all_goals
  go_enter Tryd.func70,Tryd.ntmps70
  go_wp2_with fail
  go_ret
  exact⟨by kernel_rfl,Fr.alloc (Fr.refl _ _) _⟩
theorem partsB_out (op:Int)(h:¬ (1≤op∧op≤17)):partsB op=⟨#[]⟩:=by
 unfold partsB
 by_cases h0:op<1
 ·have:op.toNat=0:=by omega
  rw[this];rfl
 ·obtain⟨n,hn⟩:∃ n:Nat,op.toNat=n+18:=⟨op.toNat-18,by omega⟩
  rw[hn];rfl
theorem rparts (op:Int)(w:World):Calls Tryd.prog 70 #[vI op] w fun r w'=>r = .returned (.string (partsB op))∧Fr (fun _=>False) w w':=by
 by_cases h:1≤op∧op≤17
 ·obtain⟨k,rfl⟩:=Int.eq_ofNat_of_zero_le (show 0≤op by omega)
  exact rparts_in k (by omega) (by omega) w
 ·have e:Hd (partsB op=⟨#[]⟩):=partsB_out op h
  by_cases h0:op<1
  ·clear h
   go_enter Tryd.func70,Tryd.ntmps70
   go_wp2_with fail
   go_ret
   exact⟨by rw[e.out];rfl,Fr.alloc (Fr.refl _ _) _⟩
  ·have h1:17<op:=by omega
   clear h
   go_enter Tryd.func70,Tryd.ntmps70
   go_wp2_with fail
   go_ret
   exact⟨by rw[e.out];rfl,Fr.alloc (Fr.refl _ _) _⟩
end Go.Proofs.YtingenonbkencaaDoor
