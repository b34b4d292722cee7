import Derived.Laws.Bits64b
import Derived.WalkKit
import Derived.Test.YtingenonbkencaaDoorProg
import Derived.WalkLawsBesides
import Derived.StillTailTactics
import Derived.Deep.RegionWith
set_option linter.unusedVariables false
set_option linter.unusedSimpArgs false
namespace Go.Proofs.YtingenonbkencaaDoor
open Go.RowKit (wrap32 wrap64)
def Hd (p:Prop):Prop:=p
theorem Hd.out {p:Prop}(h:Hd p):p:=h
def le : List UInt8→Nat
 | []=>0
 | b::r=>b.toNat+256*le r
theorem le_snoc (l:List UInt8)(b:UInt8):le (l++[b])=le l+256 ^ l.length*b.toNat:=by
 induction l with
 | nil=>simp[le]
 | cons x r ih=>simp[le,ih,Nat.pow_succ,Nat.mul_add,Nat.add_assoc];rw[Nat.mul_comm (256 ^ r.length) 256,Nat.mul_assoc]
theorem le_lt (l:List UInt8):le l<256 ^ l.length:=by
 induction l with
 | nil=>simp[le]
 | cons x r ih =>
   have:=x.toNat_lt
   simp only[le,List.length_cons,Nat.pow_succ]
   omega
theorem pow8 (k:Nat):(2:Nat) ^ (8*k)=256 ^ k:=by rw[Nat.pow_mul]
theorem pow_le_8 (k:Nat)(h:k≤7):256 ^ k≤72057594037927936:=by
 have:256 ^ k≤256 ^ 7:=Nat.pow_le_pow_right (by omega) h
 omega
theorem or_step (v:Nat)(b:UInt8)(k:Nat)(hk:k<8)(hv:v<256 ^ k) :
 bits .or .u64 (v:Int) (IntKind.u64.wrap ((b.toNat:Int)*2 ^ (8*k)))=((v+256 ^ k*b.toNat:Nat):Int):=by
 have hb:=b.toNat_lt
 have hp:=pow_le_8 k (by omega)
 have e:((b.toNat:Int)*2 ^ (8*k))=((b.toNat*256 ^ k:Nat):Int):=by rw[← pow8];simp
 have hlt:b.toNat*256 ^ k<18446744073709551616:=by
  have:b.toNat*256 ^ k≤255*72057594037927936:=Nat.mul_le_mul (by omega) hp
  omega
 have ew:IntKind.u64.wrap ((b.toNat*256 ^ k:Nat):Int)=((b.toNat*256 ^ k:Nat):Int):=by
  rw[IntKind.wrap_u64];omega
 rw[e,ew,bits_or_u64_nat _ _ (by omega) hlt]
 congr 1
 have:=Nat.two_pow_add_eq_or_of_lt (i:=8*k) (b:=v) (by rw[pow8];exact hv) b.toNat
 rw[pow8] at this
 rw[Nat.or_comm,Nat.mul_comm b.toNat,← this,Nat.add_comm]
def leAt (bs:List UInt8)(at' size:Nat):Nat:=le ((bs.drop at').take size)
theorem leAt_zero (bs:List UInt8)(at':Nat):leAt bs at' 0=0:=by simp[leAt,le]
theorem leAt_lt (bs:List UInt8)(at' size:Nat):leAt bs at' size<256 ^ size:=by
 refine Nat.lt_of_lt_of_le (le_lt _) (Nat.pow_le_pow_right (by omega) (by simp;omega))
theorem leAt_succ (bs:List UInt8)(at' k:Nat)(h:at'+k<bs.length):leAt bs at' (k+1)=leAt bs at' k+256 ^ k*(bs[at'+k]).toNat:=by
 unfold leAt
 have h':k<(bs.drop at').length:=by simp;omega
 rw[List.take_succ_eq_append_getElem h',le_snoc]
 simp
 rw[Nat.min_eq_left (by omega)]
theorem int_step (bs:List UInt8)(at' k:Nat)(h:at'+k<bs.length)(hk:k<8) :
 bits .or .u64 (leAt bs at' k:Nat) (IntKind.u64.wrap (((bs[at'+k]).toNat:Int)*2 ^ (8*k)))=(leAt bs at' (k+1):Nat):=by
 rw[or_step _ _ _ hk (leAt_lt _ _ _),leAt_succ _ _ _ h]
set_option maxRecDepth 100000
set_option maxHeartbeats 1000000
theorem within_any (n l m:Int)(w:World) :
 Calls Tryd.prog 91 #[.int .i64 n,.int .i64 l,.int .i64 m] w fun e w'=>e = .returned (.bool (decide (l≤n∧n≤m)))∧w'=w:=by
 by_cases h:l≤n
 ·have h':decide (l≤n)=true:=by simpa using h
  go_enter Tryd.func91,Tryd.ntmps91
  go_wp2
  go_ret
  exact⟨by simp[h],rfl⟩
 ·have h':decide (l≤n)=false:=by simpa using h
  go_enter Tryd.func91,Tryd.ntmps91
  go_wp2
  go_ret
  exact⟨by simp,rfl⟩
theorem must_true (e:Int)(at':Int)(w:World) :
 Calls Tryd.prog 58 #[.bool true,.int .i64 e,.int .i64 at'] w fun e w'=>e = .returned (.tuple #[])∧w'=w:=by
 have hnot:∀ (x:Bool) (w:World),(Op.unary .not (.bool x)).run Tryd.prog w = .ok (.bool (!x)) w:=fun _ _=>rfl
 go_enter Tryd.func58,Tryd.ntmps58
 go_wp2
 go_end0
 exact⟨rfl,rfl⟩
theorem must_false (e:Int)(at':Int)(w:World) :
 Calls Tryd.prog 58 #[.bool false,.int .i64 e,.int .i64 at'] w fun e' w'=>e' = .panicked [{ v:=.iface 50 (.agg #[.int .i64 e,.int .i64 at']),recovered:=false }]∧w'=w:=by
 have hnot:∀ (x:Bool) (w:World),(Op.unary .not (.bool x)).run Tryd.prog w = .ok (.bool (!x)) w:=fun _ _=>rfl
 go_enter Tryd.func58,Tryd.ntmps58
 go_wp2
 exact⟨rfl,rfl,rfl⟩
abbrev viol (er at':Int):List PanicEntry:=[{ v:=.iface 50 (.agg #[.int .i64 er,.int .i64 at']),recovered:=false }]
theorem number_short (a:Option Addr)(n c:Nat)(p:Addr)(at' size:Nat)(hs:¬ at'+size≤n)(hat':at'≤2000000000000000)(hs8:size≤8)(hn:n≤1000000000000000)(w:World) :
 Calls Tryd.prog 30 #[.agg #[.slice a n c],.pointer (some p),.int .i64 at',.int .i64 size] w fun e w' =>
  e = .panicked (viol 11 n)∧w'=w.alloc (.cells #[.slice a n c] 45):=by
 have hs':decide ((size:Int)≤n-at')=false:=by simp;omega
 go_enter Tryd.func30,Tryd.ntmps30
 go_wp2_with fail
 refine(must_false 11 n _).mono ?_
 rintro e w' ⟨rfl,rfl⟩
 go_wp2_with fail
 exact⟨rfl,rfl,rfl⟩
theorem number_reads (k' o n c pb po:Nat)(at' size:Nat)(hs:at'+size≤n)(hs1:1≤size)(hs8:size≤8)(hc:n≤c)(hn:n≤1000000000000000)(w:World)(u:Value)(hp:w.cell? ⟨pb,po,none⟩=some u)(hf:w.frozen? ⟨pb,po,none⟩=false)(bs:List UInt8)
 (hb:∀ i,(h:i<bs.length)→w.cell? ⟨k',o+i,none⟩=some (.int .u8 bs[i].toNat)) (hbn:bs.length=n) (hk':k'<w.heap.size) (hpb:pb<w.heap.size) :
  Calls Tryd.prog 30 #[.agg #[.slice (some ⟨k',o,none⟩) n c],.pointer (some ⟨pb,po,none⟩),.int .i64 at',.int .i64 size] w fun e w' =>
   e = .returned (.tuple #[])∧w'=(w.alloc (.cells #[.slice (some ⟨k',o,none⟩) n c] 45)).setCell ⟨pb,po,none⟩ (.int .i64 (wrap64 (leAt bs at' size))):=by
 have hs':decide ((size:Int)≤n-at')=true:=by simp;omega
 have hne:¬ c=at':=by omega
 go_enter Tryd.func30,Tryd.ntmps30
 go_wp2_with fail
 refine(must_true 11 n _).mono ?_
 rintro e w' ⟨rfl,rfl⟩
 go_wp2_with fail
 go_loop [8,30] (fun t i=>∃ k:Nat,k≤size∧i = .int .i64 k∧t = .int .u64 (leAt bs at' k:Nat)) (fun _ i=>match i with | .int _ n=>size-n.toNat | _=>0)
 case atStart=>exact⟨0,Nat.zero_le _,rfl,by rw[leAt_zero];rfl⟩
 case round =>
  obtain⟨k,hk,rfl,rfl⟩:=hrel
  by_cases hlt:k<size
  ·have hst:Hd (bits .or .u64 (leAt bs at' k:Nat) (IntKind.u64.wrap (((bs[at'+k]'(by omega)).toNat:Int)*2 ^ (8*k)))=(leAt bs at' (k+1):Nat)):=int_step bs at' k (by omega) (by omega)
   have hcell':w.cell? ⟨k',o+at'+k,none⟩=some (.int .u8 (bs[at'+k]'(by omega)).toNat):=by rw[Nat.add_assoc];exact hb (at'+k) (by omega)
   have hbb:(bs[at'+k]'(by omega)).toNat<256:=UInt8.toNat_lt _
   generalize (bs[at'+k]'(by omega))=bb at hcell' hst hbb
   have h8:(0:Int)≤8*(k:Int):=by omega
   have h8':(8*(k:Int))≤64:=by omega
   clear hb
   generalize leAt bs at' k=v at *
   have hk7:(k:Int)≤8:=by omega
   go_wp2_with fail
   refine⟨⟨k+1,by omega,by simp,?_⟩,by simp;omega⟩
   rw[hst.out]
  ·have:k=size:=by omega
   subst this
   go_wp2_with fail
   go_end0
   exact⟨rfl,rfl⟩
def BytesIn (w:World)(v:Value)(bs:List UInt8):Prop :=
 bs.length≤1000000000000000∧∃ a c,v = .slice a bs.length c∧bs.length≤c ∧
  (bs≠[]→∃ k o,a=some ⟨k,o,none⟩∧k<w.heap.size∧∀ i,(h:i<bs.length)→w.cell? ⟨k,o+i,none⟩=some (.int .u8 bs[i].toNat))
abbrev readerFn (rv:Value):Value:=.func (.func 30) #[.agg #[rv]] #[]
theorem next_short (b pb po:Nat)(rv:Value)(bs:List UInt8)(at' size:Nat)(w:World)(h0:w.cell? ⟨b,0,none⟩=some (readerFn rv))(h1:w.cell? ⟨b,1,none⟩=some (.int .i64 at'))
 (hR:BytesIn w rv bs) (hs:¬ at'+size≤bs.length) (hat:at'≤2000000000000000) (hs8:size≤8) :
 Calls Tryd.prog 90 #[.pointer (some ⟨b,0,none⟩),.pointer (some ⟨pb,po,none⟩),.int .i64 size] w fun e w' =>
  e = .panicked (viol 11 bs.length)∧w'=w.alloc (.cells #[rv] 45):=by
 obtain⟨hl,a,c,rfl,hc,-⟩:=hR
 go_enter Tryd.func90,Tryd.ntmps90
 go_wp2_with fail
 refine(number_short a bs.length c _ at' size hs hat hs8 hl _).mono ?_
 rintro e w' ⟨rfl,rfl⟩
 go_wp2_with fail
 exact⟨rfl,rfl,rfl⟩
theorem next_reads (b pb po:Nat)(rv u:Value)(bs:List UInt8)(at' size:Nat)(w:World)(h0:w.cell? ⟨b,0,none⟩=some (readerFn rv))(h1:w.cell? ⟨b,1,none⟩=some (.int .i64 at'))(f1:w.frozen? ⟨b,1,none⟩=false)
 (hp:w.cell? ⟨pb,po,none⟩=some u) (hf:w.frozen? ⟨pb,po,none⟩=false) (hne:¬ (pb=b∧po=1)) (hb:b<w.heap.size) (hpb:pb<w.heap.size)
 (hR:BytesIn w rv bs) (hs:at'+size≤bs.length) (hs1:1≤size) (hs8:size≤8) :
 Calls Tryd.prog 90 #[.pointer (some ⟨b,0,none⟩),.pointer (some ⟨pb,po,none⟩),.int .i64 size] w fun e w' =>
  e = .returned (.int .i64 at')∧w'=((w.setCell ⟨pb,po,none⟩ (.int .i64 (wrap64 (leAt bs at' size)))).setCell ⟨b,1,none⟩ (.int .i64 (at'+size))).alloc (.cells #[rv] 45):=by
 obtain⟨hl,a,c,rfl,hc,hcs⟩:=hR
 obtain⟨k,o,rfl,hk,hcs⟩:=hcs (by intro h;simp[h] at hs;omega)
 have hadd:((at':Int)+size)≤1000000000000000:=by omega
 have hnea:¬ ((⟨pb,po,none⟩:Addr)=⟨b,1,none⟩):=by simpa using hne
 have hx:(w.setCell ⟨pb,po,none⟩ (.int .i64 (wrap64 (leAt bs at' size)))).cell? ⟨b,1,none⟩=some (.int .i64 at'):=by
  rw[World.cell?_setCell_other _ _ _ _ hnea,h1]
 go_enter Tryd.func90,Tryd.ntmps90
 go_wp2_with fail
 refine(number_reads k o bs.length c pb po at' size hs hs1 hs8 hc hl _ u hp hf bs hcs rfl hk hpb).mono ?_
 rintro e w' ⟨rfl,rfl⟩
 go_wp2_with fail
 go_ret
 exact⟨rfl,rfl⟩
end Go.Proofs.YtingenonbkencaaDoor
