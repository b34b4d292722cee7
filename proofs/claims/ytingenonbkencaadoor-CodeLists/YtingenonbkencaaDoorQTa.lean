import Derived.Test.YtingenonbkencaaDoorQN6J
import Derived.Test.YtingenonbkencaaDoorQW3J
import Derived.Test.YtingenonbkencaaDoorQS1J
set_option linter.unusedVariables false
set_option linter.unusedSimpArgs false
namespace Go.Proofs.YtingenonbkencaaDoor
open Go.RowKit (wrap32 wrap64)
variable {b br wb g0 K:Nat} {rv:Value}
theorem w64_eq (x:Int):wrap64 x=(x+9223372036854775808) % 18446744073709551616-9223372036854775808:=by unfold wrap64;rfl
theorem i64_eq (x:Int):IntKind.i64.wrap x=(x+9223372036854775808) % 18446744073709551616-9223372036854775808:=by rw[← wrap64_wrap,w64_eq]
theorem u64_eq (x:Int):IntKind.u64.wrap x=x % 18446744073709551616:=by
 unfold IntKind.wrap IntKind.signed IntKind.bits
 simp
theorem le_leBytes : ∀ (k n:Nat),le (leBytes k n)=n % 256 ^ k
 | 0,n=>by simp[leBytes,le,Nat.mod_one]
 | k+1,n=>by
   simp only[leBytes,le,le_leBytes k]
   have h1:(UInt8.ofNat (n % 256)).toNat=n % 256:=by simp
   rw[h1,Nat.pow_succ,Nat.mul_comm (256 ^ k) 256,Nat.mod_mul]
def InR (size:Nat)(v:Int):Prop:=(0≤v∧v.toNat<256 ^ size∧size≤7)∨(size=8∧-9223372036854775808≤v∧v<9223372036854775808)
theorem rd_back {bs l:List UInt8}{v:Int}{size:Nat}(hp:(l++leBytes size (IntKind.u64.wrap v).toNat) <+: bs)(hv:InR size v):rd bs l.length size = .ok v:=by
 obtain⟨rest,rfl⟩:=hp
 have hlen:l.length+size≤(l++leBytes size (IntKind.u64.wrap v).toNat++rest).length:=by simp[leBytes_length]
 unfold rd
 rw[if_pos hlen]
 have e:leAt (l++leBytes size (IntKind.u64.wrap v).toNat++rest) l.length size=(IntKind.u64.wrap v).toNat % 256 ^ size:=by
  unfold leAt
  rw[List.append_assoc,List.drop_left,List.take_append_of_le_length (by rw[leBytes_length];exact Nat.le_refl _),List.take_of_length_le (by rw[leBytes_length];exact Nat.le_refl _),le_leBytes]
 rw[e]
 refine congrArg _ ?_
 rcases hv with⟨h0,h1,h7⟩|⟨rfl,h0,h1⟩
 ·have h2:v.toNat<72057594037927936:=by
   have h3:=Nat.pow_le_pow_right (n:=256) (by omega) h7
   have h4:(256:Nat) ^ 7=72057594037927936:=by decide
   rw[h4] at h3
   exact Nat.lt_of_lt_of_le h1 h3
  have e1:(IntKind.u64.wrap v).toNat=v.toNat:=by rw[u64_eq];omega
  have e2:v.toNat % 256 ^ size=v.toNat:=Nat.mod_eq_of_lt h1
  clear h1
  rw[e1,e2]
  simp only[w64_eq]
  omega
 ·have e8:(256:Nat) ^ 8=18446744073709551616:=by decide
  rw[e8]
  simp only[w64_eq,u64_eq]
  omega
structure Ag (F:List Nat)(s t:WS):Prop where
 num:∀ o,o∈places→o ∉ F→s.get o=t.get o
 pos:s.at'=t.at'
 loc:s.locs=t.locs
theorem Ag.mono {F F':List Nat}{s t:WS}(h:Ag F s t)(hF:∀ o,o∈F→o∈F'):Ag F' s t:=⟨fun o h1 h2=>h.num o h1 (fun h3=>h2 (hF o h3)),h.pos,h.loc⟩
theorem get_set (s:WS)(o o':Nat)(v:Int)(h:o∈places)(h':o'∈places):(s.set o v).get o'=if o'=o then v else s.get o':=by
 simp only[places,List.mem_cons,List.not_mem_nil,or_false] at h h'
 rcases h with rfl | rfl | rfl | rfl | rfl | rfl | rfl | rfl | rfl | rfl | rfl<;>rcases h' with rfl | rfl | rfl | rfl | rfl | rfl | rfl | rfl | rfl | rfl | rfl<;>rfl
theorem set_locs (s:WS)(o:Nat)(v:Int):(s.set o v).locs=s.locs:=by
 unfold WS.set;repeat' split
 all_goals rfl
theorem set_getT (s:WS)(o:Nat)(ho:o∈places):s.set o (s.get o)=s:=by
 simp only[places,List.mem_cons,List.not_mem_nil,or_false] at ho
 rcases ho with rfl | rfl | rfl | rfl | rfl | rfl | rfl | rfl | rfl | rfl | rfl<;>rfl
def Pos (x:WS × (Nat × List UInt8)):Prop:=x.1.at'=(x.2.2.length:Nat)∧x.2.2.length+8*x.2.1≤1000000000000
def Fn (s:WS):Prop:=(0≤s.globals∧s.globals≤16)∧(0≤s.fV∧s.fV≤255)∧(0≤s.len∧s.len≤4096)∧(-9223372036854775808≤s.n∧s.n<9223372036854775808)
structure Wr (x y:WS × (Nat × List UInt8)):Prop where
 pre:x.2.2 <+: y.2.2
 pos:Pos y
 num:∀ o,o∈places→o≠161→y.1.get o=x.1.get o
theorem Wr.refl {x:WS × (Nat × List UInt8)}(h:Pos x):Wr x x:=⟨List.prefix_refl _,h,fun _ _ _=>rfl⟩
theorem Wr.trans {x y z:WS × (Nat × List UInt8)}(h:Wr x y)(k:Wr y z):Wr x z:=⟨h.pre.trans k.pre,k.pos,fun o h1 h2=>(k.num o h1 h2).trans (h.num o h1 h2)⟩
theorem Wr.fn {x y:WS × (Nat × List UInt8)}(h:Wr x y)(k:Fn x.1):Fn y.1:=by
 have e1:y.1.globals=x.1.globals:=h.num 146 (by simp[places]) (by omega)
 have e2:y.1.fV=x.1.fV:=h.num 151 (by simp[places]) (by omega)
 have e3:y.1.len=x.1.len:=h.num 153 (by simp[places]) (by omega)
 have e4:y.1.n=x.1.n:=h.num 158 (by simp[places]) (by omega)
 unfold Fn
 rw[e1,e2,e3,e4]
 exact k
theorem wr_next {o size:Nat}{x y:WS × (Nat × List UInt8)}(ho:o∈places)(hs:size≤8)(hx:Pos x)(h:nextX (writing b wb g0 K) o size x = .ok y) :
 y=({ x.1 with at':=x.1.at'+size },(x.2.1-1,x.2.2++leBytes size (IntKind.u64.wrap (x.1.get o)).toNat))∧Wr x y:=by
 obtain⟨h1,h2⟩:=hx
 unfold nextX at h
 simp only[writing] at h
 split at h
 ·rename_i v st hv
  split at hv
  ·cases hv
  ·rename_i hr
   cases hv
   cases h
   rw[set_getT _ _ ho,adv_small _ _ (by omega) (by omega) hs]
   refine⟨rfl,List.prefix_append _ _,⟨?_,?_⟩,fun _ _ _=>rfl⟩
   ·show x.1.at'+size=((x.2.2++leBytes size (IntKind.u64.wrap (x.1.get o)).toNat).length:Nat)
    rw[List.length_append,leBytes_length,h1]
    simp
   ·show(x.2.2++leBytes size (IntKind.u64.wrap (x.1.get o)).toNat).length+8*(x.2.1-1)≤1000000000000
    rw[List.length_append,leBytes_length]
    omega
 ·cases h
theorem rd_next {o size:Nat}{bs:List UInt8}{F F':List Nat}{x y:WS × (Nat × List UInt8)}{t:WS}(ho:o∈places)(hs:size≤8)(hx:Pos x)(h:nextX (writing b wb g0 K) o size x = .ok y)(hp:y.2.2 <+: bs)(hv:InR size (x.1.get o))(hA:Ag F x.1 t)
 (hF:∀ o',o'∈F→o'=o∨o'∈F'):∃ t',nextX (reading br rv bs) o size (t,()) = .ok (t',())∧Ag F' y.1 t'∧∀ o',o'∈places→o'≠o→t'.get o'=t.get o':=by
 obtain⟨rfl,-⟩:=wr_next ho hs hx h
 have e:rd bs t.at'.toNat size = .ok (x.1.get o):=by
  have e1:t.at'.toNat=x.2.2.length:=by rw[← hA.pos,hx.1];simp
  rw[e1]
  exact rd_back hp hv
 refine⟨{ t.set o (x.1.get o) with at':=adv t.at' size },?_,⟨?_,?_,?_⟩,fun o' ho' hne=>?_⟩
 ·unfold nextX
  simp only[reading,e]
 ·intro o' ho' hn
  show x.1.get o'=(t.set o (x.1.get o)).get o'
  rw[get_set _ _ _ _ ho ho']
  split
  ·rename_i e;rw[e]
  ·rename_i hne
   refine hA.num o' ho' (fun hm=>?_)
   rcases hF o' hm with h | h
   ·exact hne h
   ·exact hn h
 ·show x.1.at'+size=adv t.at' size
  have h1:=hx.1
  have h2:=hx.2
  rw[← hA.pos,adv_small _ _ (by omega) (by omega) hs]
 ·show x.1.locs=(t.set o (x.1.get o)).locs
  rw[set_locs];exact hA.loc
 ·show(t.set o (x.1.get o)).get o'=t.get o'
  rw[get_set _ _ _ _ ho ho',if_neg hne]
structure Sm (bs:List UInt8)(F F':List Nat)(p:WS × (Nat × List UInt8)→X (WS × (Nat × List UInt8)))(q:WS × Unit→X (WS × Unit)):Prop where
 wr:∀ x y,Pos x→p x = .ok y→Wr x y
 sim:∀ x y t,Pos x→Fn x.1→p x = .ok y→y.2.2 <+: bs→Ag F x.1 t→∃ t',q (t,()) = .ok (t',())∧Ag F' y.1 t'
theorem Sm.then {bs:List UInt8}{F F1 F2:List Nat}{p p2:WS × (Nat × List UInt8)→X (WS × (Nat × List UInt8))}{q q2:WS × Unit→X (WS × Unit)}(h:Sm bs F F1 p q)(k:Sm bs F1 F2 p2 q2) :
 Sm bs F F2 (fun x=>thenX (p x) p2) (fun t=>thenX (q t) q2):=by
 refine⟨fun x y hx hy=>?_,fun x y t hx hf hy hp hA=>?_⟩
 ·obtain⟨z,h1,h2⟩:=then_ok hy
  exact(h.wr x z hx h1).trans (k.wr z y (h.wr x z hx h1).pos h2)
 ·obtain⟨z,h1,h2⟩:=then_ok hy
  have w1:=h.wr x z hx h1
  have w2:=k.wr z y w1.pos h2
  obtain⟨t1,e1,A1⟩:=h.sim x z t hx hf h1 (w2.pre.trans hp) hA
  obtain⟨t2,e2,A2⟩:=k.sim z y t1 w1.pos (w1.fn hf) h2 hp A1
  exact⟨t2,by simp only[e1,thenX];exact e2,A2⟩
theorem ask_of_next {M:Mode b}{o size:Nat}{c:WS→Bool}{er:Int}{x y:WS × M.σ}(e:nextX M o size x = .ok y)(h:c y.1=true):askX M o size c er x = .ok y:=by
 unfold askX
 rw[e]
 simp only
 rw[if_pos h]
theorem Sm.ask {bs:List UInt8}{F F':List Nat}{o size:Nat}{c:WS→Bool}{er:Int}(ho:o∈places)(hs:size≤8)(hc:∀ s t,Ag F' s t→c s=c t)(hr:∀ s,Fn s→c s=true→InR size (s.get o))(hF:∀ o',o'∈F→o'=o∨o'∈F')(hn:o≠161) :
 Sm bs F F' (askX (writing b wb g0 K) o size c er) (askX (reading br rv bs) o size c er):=by
 have ok:∀ x y,askX (writing b wb g0 K) o size c er x = .ok y→nextX (writing b wb g0 K) o size x = .ok y∧c y.1=true:=by
  intro x y h
  unfold askX at h
  split at h
  ·rename_i y' hy
   split at h
   ·rename_i hcy;cases h;exact⟨hy,hcy⟩
   ·cases h
  ·cases h
 refine⟨fun x y hx hy=>(wr_next ho hs hx (ok x y hy).1).2,fun x y t hx hf hy hp hA=>?_⟩
 obtain⟨h1,h2⟩:=ok x y hy
 have w:=(wr_next ho hs hx h1).2
 have hv:InR size (x.1.get o):=by rw[← w.num o ho hn];exact hr y.1 (w.fn hf) h2
 obtain⟨t',e,A,-⟩:=rd_next ho hs hx h1 hp hv hA hF
 exact⟨t',ask_of_next e (by rw[← h2];exact(hc y.1 t' A).symm),A⟩
theorem sm_var {bs:List UInt8}{F F':List Nat}(o:Nat)(ho:o=155∨o=156∨o=157)(hF:∀ o',o'∈F→o'=o∨o'∈F')(h1:o ∉ F')(h2:151 ∉ F'):Sm bs F F' (varPart (writing b wb g0 K) o) (varPart (reading br rv bs) o):=by
 have hop:o∈places:=by rcases ho with rfl | rfl | rfl<;>simp[places]
 refine Sm.ask (b:=b) (bs:=bs) (br:=br) (rv:=rv) (c:=fun s=>decide (0≤s.get o∧s.get o≤IntKind.i64.wrap (s.fV-1))) (er:=13) (size:=1) hop (by omega) (fun s t hA=>?_) (fun s hf hc=>?_) hF (by omega)
 ·have e1:=hA.num o hop h1
  have e2:s.fV=t.fV:=hA.num 151 (by simp[places]) h2
  rw[e1,e2]
 ·have hc:=of_decide_eq_true hc
  obtain⟨-,hV,-,-⟩:=hf
  simp only[i64_eq,w64_eq] at hc
  exact Or.inl ⟨hc.1,by omega,by omega⟩
theorem sm_fields {bs:List UInt8}{F F':List Nat}(hF:∀ o',o'∈F→o'=158∨o'∈F')(h1:158 ∉ F'):Sm bs F F' (fieldsPart (writing b wb g0 K)) (fieldsPart (reading br rv bs)):=by
 refine Sm.ask (b:=b) (bs:=bs) (br:=br) (rv:=rv) (c:=fun s=>decide (1≤s.n∧s.n≤8)) (er:=17) (o:=158) (size:=1) (by simp[places]) (by omega) (fun s t hA=>?_) (fun s hf hc=>?_) hF (by omega)
 ·have e1:s.n=t.n:=hA.num 158 (by simp[places]) h1
  rw[e1]
 ·have hc:=of_decide_eq_true hc
  have e:s.get 158=s.n:=rfl
  rw[e]
  exact Or.inl ⟨by omega,by omega,by omega⟩
theorem sm_field {bs:List UInt8}{F F':List Nat}(hF:∀ o',o'∈F→o'=158∨o'∈F')(h1:158 ∉ F'):Sm bs F F' (fieldPart (writing b wb g0 K)) (fieldPart (reading br rv bs)):=by
 refine Sm.ask (b:=b) (bs:=bs) (br:=br) (rv:=rv) (c:=fun s=>decide (0≤s.n∧s.n≤7)) (er:=17) (o:=158) (size:=1) (by simp[places]) (by omega) (fun s t hA=>?_) (fun s hf hc=>?_) hF (by omega)
 ·have e1:s.n=t.n:=hA.num 158 (by simp[places]) h1
  rw[e1]
 ·have hc:=of_decide_eq_true hc
  have e:s.get 158=s.n:=rfl
  rw[e]
  exact Or.inl ⟨by omega,by omega,by omega⟩
theorem sm_global {bs:List UInt8}{F F':List Nat}(hF:∀ o',o'∈F→o'=158∨o'∈F')(h1:158 ∉ F')(h2:146 ∉ F'):Sm bs F F' (globalPart (writing b wb g0 K)) (globalPart (reading br rv bs)):=by
 refine Sm.ask (b:=b) (bs:=bs) (br:=br) (rv:=rv) (c:=fun s=>decide (0≤s.n∧s.n≤IntKind.i64.wrap (s.globals-1))) (er:=18) (o:=158) (size:=1) (by simp[places]) (by omega) (fun s t hA=>?_) (fun s hf hc=>?_) hF (by omega)
 ·have e1:s.n=t.n:=hA.num 158 (by simp[places]) h1
  have e2:s.globals=t.globals:=hA.num 146 (by simp[places]) h2
  rw[e1,e2]
 ·have hc:=of_decide_eq_true hc
  obtain⟨hG,-,-,-⟩:=hf
  have e:s.get 158=s.n:=rfl
  rw[e]
  simp only[i64_eq,w64_eq] at hc
  exact Or.inl ⟨by omega,by omega,by omega⟩
theorem sm_target {bs:List UInt8}{F F':List Nat}(hF:∀ o',o'∈F→o'=158∨o'∈F')(h1:158 ∉ F')(h2:153 ∉ F'):Sm bs F F' (targetPart (writing b wb g0 K)) (targetPart (reading br rv bs)):=by
 refine Sm.ask (b:=b) (bs:=bs) (br:=br) (rv:=rv) (c:=fun s=>decide (0≤s.n∧s.n≤IntKind.i64.wrap (s.len-1))) (er:=16) (o:=158) (size:=2) (by simp[places]) (by omega) (fun s t hA=>?_) (fun s hf hc=>?_) hF (by omega)
 ·have e1:s.n=t.n:=hA.num 158 (by simp[places]) h1
  have e2:s.len=t.len:=hA.num 153 (by simp[places]) h2
  rw[e1,e2]
 ·have hc:=of_decide_eq_true hc
  obtain⟨-,-,hL,-⟩:=hf
  have e:s.get 158=s.n:=rfl
  rw[e]
  simp only[i64_eq,w64_eq] at hc
  exact Or.inl ⟨by omega,by omega,by omega⟩
theorem sm_callee {bs:List UInt8}{F F':List Nat}(nf:Nat)(hnf:nf≤65535)(hF:∀ o',o'∈F→o'=158∨o'∈F')(h1:158 ∉ F'):Sm bs F F' (calleePart (writing b wb g0 K) nf) (calleePart (reading br rv bs) nf):=by
 refine Sm.ask (b:=b) (bs:=bs) (br:=br) (rv:=rv) (c:=fun s=>decide (0≤s.n∧s.n≤IntKind.i64.wrap ((nf:Int)-1))) (er:=14) (o:=158) (size:=2) (by simp[places]) (by omega) (fun s t hA=>?_) (fun s hf hc=>?_) hF (by omega)
 ·have e1:s.n=t.n:=hA.num 158 (by simp[places]) h1
  rw[e1]
 ·have hc:=of_decide_eq_true hc
  have e:s.get 158=s.n:=rfl
  rw[e]
  simp only[i64_eq,w64_eq] at hc
  exact Or.inl ⟨by omega,by omega,by omega⟩
theorem sm_int {bs:List UInt8}{F F':List Nat}(hF:∀ o',o'∈F→o'=158∨o'∈F'):Sm bs F F' (intPart (writing b wb g0 K)) (intPart (reading br rv bs)):=by
 refine⟨fun x y hx hy=>(wr_next (b:=b) (o:=158) (size:=8) (by simp[places]) (by omega) hx hy).2,fun x y t hx hf hy hp hA=>?_⟩
 obtain⟨t',e,A,-⟩:=rd_next (b:=b) (o:=158) (size:=8) (by simp[places]) (by omega) hx hy hp (Or.inr ⟨rfl,hf.2.2.2⟩) hA hF
 exact⟨t',e,A⟩
def namesK : Nat→List Nat
 | 1=>[155,158]
 | 2=>[155,156]
 | 3=>[155,156,157]
 | 4=>[155,156,157]
 | 5=>[155,156]
 | 6=>[155,158]
 | 7=>[155,156,158]
 | 8=>[155,156,158]
 | 9=>[155,158]
 | 10=>[156,158]
 | 12=>[156]
 | 13=>[158]
 | 14=>[156,158]
 | 16=>[155]
 | 17=>[155,156,157]
 | _=>[]
theorem parts_sm {bs:List UInt8}(op:Nat):Sm bs (161::namesK op) [161] (fun x=>partsX (writing b wb g0 K) op (.ok x)) (fun t=>partsX (reading br rv bs) op (.ok t)):=by
 have v:∀ {F F':List Nat} (o:Nat),(o=155∨o=156∨o=157)→(∀ o',o'∈F→o'=o∨o'∈F')→o ∉ F'→151 ∉ F'→Sm bs F F' (varPart (writing b wb g0 K) o) (varPart (reading br rv bs) o):=fun o h1 h2 h3 h4=>sm_var o h1 h2 h3 h4
 match op with
 | 1=>exact(v (F':=[161,158]) 155 (by omega) (by simp[namesK];try omega) (by simp) (by simp)).then (sm_int (by simp;try omega))
 | 2=>exact(v (F':=[161,156]) 155 (by omega) (by simp[namesK];try omega) (by simp) (by simp)).then (v 156 (by omega) (by simp;try omega) (by simp) (by simp))
 | 3=>exact((v (F':=[161,156,157]) 155 (by omega) (by simp[namesK];try omega) (by simp) (by simp)).then (v (F':=[161,157]) 156 (by omega) (by simp;try omega) (by simp) (by simp))).then (v 157 (by omega) (by simp;try omega) (by simp) (by simp))
 | 4=>exact((v (F':=[161,156,157]) 155 (by omega) (by simp[namesK];try omega) (by simp) (by simp)).then (v (F':=[161,157]) 156 (by omega) (by simp;try omega) (by simp) (by simp))).then (v 157 (by omega) (by simp;try omega) (by simp) (by simp))
 | 5=>exact(v (F':=[161,156]) 155 (by omega) (by simp[namesK];try omega) (by simp) (by simp)).then (v 156 (by omega) (by simp;try omega) (by simp) (by simp))
 | 6=>exact(v (F':=[161,158]) 155 (by omega) (by simp[namesK];try omega) (by simp) (by simp)).then (sm_fields (by simp;try omega) (by simp))
 | 7=>exact((v (F':=[161,156,158]) 155 (by omega) (by simp[namesK];try omega) (by simp) (by simp)).then (v (F':=[161,158]) 156 (by omega) (by simp;try omega) (by simp) (by simp))).then (sm_field (by simp;try omega) (by simp))
 | 8=>exact((v (F':=[161,156,158]) 155 (by omega) (by simp[namesK];try omega) (by simp) (by simp)).then (v (F':=[161,158]) 156 (by omega) (by simp;try omega) (by simp) (by simp))).then (sm_field (by simp;try omega) (by simp))
 | 9=>exact(v (F':=[161,158]) 155 (by omega) (by simp[namesK];try omega) (by simp) (by simp)).then (sm_global (by simp;try omega) (by simp) (by simp))
 | 10=>exact(v (F':=[161,158]) 156 (by omega) (by simp[namesK];try omega) (by simp) (by simp)).then (sm_global (by simp;try omega) (by simp) (by simp))
 | 12=>exact v 156 (by omega) (by simp[namesK];try omega) (by simp) (by simp)
 | 13=>exact sm_target (by simp[namesK];try omega) (by simp) (by simp)
 | 14=>exact(v (F':=[161,158]) 156 (by omega) (by simp[namesK];try omega) (by simp) (by simp)).then (sm_target (by simp;try omega) (by simp) (by simp))
 | 16=>exact v 155 (by omega) (by simp[namesK];try omega) (by simp) (by simp)
 | 17=>exact((v (F':=[161,156,157]) 155 (by omega) (by simp[namesK];try omega) (by simp) (by simp)).then (v (F':=[161,157]) 156 (by omega) (by simp;try omega) (by simp) (by simp))).then (v 157 (by omega) (by simp;try omega) (by simp) (by simp))
 | 0=>exact⟨fun x y hx hy=>by cases hy;exact Wr.refl hx,fun x y t _ _ hy _ hA=>by cases hy;exact⟨t,rfl,hA⟩⟩
 | 11=>exact⟨fun x y hx hy=>by cases hy;exact Wr.refl hx,fun x y t _ _ hy _ hA=>by cases hy;exact⟨t,rfl,hA⟩⟩
 | 15=>exact⟨fun x y hx hy=>by cases hy;exact Wr.refl hx,fun x y t _ _ hy _ hA=>by cases hy;exact⟨t,rfl,hA⟩⟩
 | m+18=>exact⟨fun x y hx hy=>by cases hy;exact Wr.refl hx,fun x y t _ _ hy _ hA=>by cases hy;exact⟨t,rfl,hA⟩⟩
theorem Ag.out {F:List Nat}{s t:WS}(h:Ag F s t){o:Nat}(ho:o∈places)(hn:o ∉ F):s.get o=t.get o:=h.num o ho hn
theorem wr_locs {x:WS × (Nat × List UInt8)}{v:Int}(h:Pos x):Wr x ({ x.1 with locs:=v },x.2):=⟨List.prefix_refl _,h,fun _ _ _=>rfl⟩
theorem front_sm {bs:List UInt8}{F:List Nat}(ends makes:Bool){nb:Bool}{i:Nat}{p p':Int}{x y:WS × (Nat × List UInt8)}(hx:Pos x)(h:frontOk (writing b wb g0 K) ends makes nb i p x = .ok y) :
 nb=true∧Wr x y∧(y.1.count=x.1.count)∧∀ t,153 ∉ F→Ag F x.1 t→∃ t',frontOk (reading br rv bs) ends makes true i p' (t,()) = .ok (t',())∧Ag F y.1 t':=by
 unfold frontOk at h
 split at h
 ·cases h
 ·rename_i h1
  split at h
  ·cases h
  ·rename_i h2
   have hl:∀ t,153 ∉ F→Ag F x.1 t→x.1.len=t.len:=fun t hn hA=>hA.out (o:=153) (by simp[places]) hn
   split at h
   ·rename_i hm
    unfold locX at h
    split at h
    ·rename_i h3
     cases h
     refine⟨by simpa using h1,wr_locs hx,rfl,fun t hn hA=>⟨{ t with locs:=wrap64 (t.locs+1) },?_,⟨hA.num,hA.pos,?_⟩⟩⟩
     ·unfold frontOk
      rw[if_neg (by simp),if_neg (by rw[← hl t hn hA];exact h2),if_pos hm]
      unfold locX
      rw[if_pos (by rw[← hA.loc];exact h3)]
     ·show wrap64 (x.1.locs+1)=wrap64 (t.locs+1)
      rw[hA.loc]
    ·cases h
   ·rename_i hm
    cases h
    refine⟨by simpa using h1,Wr.refl hx,rfl,fun t hn hA=>⟨t,?_,hA⟩⟩
    unfold frontOk
    rw[if_neg (by simp),if_neg (by rw[← hl t hn hA];exact h2),if_neg hm]
theorem one_wr {v:Int}{x y:WS × (Nat × List UInt8)}(hx:Pos x)(h:oneK (writing b wb g0 K) v x = .ok y) :
 y=({ x.1 with at':=x.1.at'+1 },(x.2.1-1,x.2.2++leBytes 1 (IntKind.u64.wrap v).toNat))∧Wr x y∧varOk x.1.fV v=true:=by
 obtain⟨h1,h2⟩:=hx
 unfold oneK at h
 simp only[writing] at h
 split at h
 ·rename_i v' st hv
  split at hv
  ·cases hv
  ·rename_i hr
   cases hv
   split at h
   ·rename_i hc
    cases h
    rw[adv_small _ _ (by omega) (by omega) (by omega)]
    refine⟨rfl,⟨List.prefix_append _ _,⟨?_,?_⟩,fun _ _ _=>rfl⟩,hc⟩
    ·show x.1.at'+((1:Nat):Int)=((x.2.2++leBytes 1 (IntKind.u64.wrap v).toNat).length:Nat)
     rw[List.length_append,leBytes_length,h1]
     simp
    ·show(x.2.2++leBytes 1 (IntKind.u64.wrap v).toNat).length+8*(x.2.1-1)≤1000000000000
     rw[List.length_append,leBytes_length]
     omega
   ·cases h
 ·cases h
theorem vars_wr : ∀ {l:List Int} {x y:WS × (Nat × List UInt8)},Pos x→varsK (writing b wb g0 K) l x = .ok y→Wr x y
 | [],_,_,hx,h=>by cases h;exact Wr.refl hx
 | v::r,x,y,hx,h=>by
   obtain⟨z,h1,h2⟩:=then_ok h
   have w:=(one_wr hx h1).2.1
   exact w.trans (vars_wr w.pos h2)
theorem one_sm {bs:List UInt8}{F:List Nat}{v old:Int}{x y:WS × (Nat × List UInt8)}{t:WS}(hF:151 ∉ F)(hx:Pos x)(hf:Fn x.1)(h:oneK (writing b wb g0 K) v x = .ok y)(hp:y.2.2 <+: bs)(hA:Ag F x.1 t) :
 ∃ t',oneX (reading br rv bs) old (t,()) = .ok (v,(t',()))∧Ag F y.1 t':=by
 obtain⟨rfl,-,hc⟩:=one_wr hx h
 have eV:x.1.fV=t.fV:=hA.out (o:=151) (by simp[places]) hF
 have hv:InR 1 v:=by
  have hc2:=of_decide_eq_true hc
  obtain⟨-,hV,-,-⟩:=hf
  simp only[i64_eq,w64_eq] at hc2
  exact Or.inl ⟨hc2.1,by omega,by omega⟩
 have e:rd bs t.at'.toNat 1 = .ok v:=by
  have e1:t.at'.toNat=x.2.2.length:=by rw[← hA.pos,hx.1];simp
  rw[e1]
  exact rd_back hp hv
 refine⟨{ t with at':=adv t.at' 1 },?_,hA.num,?_,hA.loc⟩
 ·unfold oneX
  simp only[reading,e]
  rw[if_pos (by rw[← eV];exact hc)]
 ·show x.1.at'+((1:Nat):Int)=adv t.at' 1
  have h1:=hx.1
  have h2:=hx.2
  rw[← hA.pos,adv_small _ _ (by omega) (by omega) (by omega)]
theorem vars_sm {bs:List UInt8}{F:List Nat}(hF:151 ∉ F):∀ {l old:List Int} {x y:WS × (Nat × List UInt8)} {t:WS},old.length=l.length→Pos x→Fn x.1→varsK (writing b wb g0 K) l x = .ok y→y.2.2 <+: bs→Ag F x.1 t →
 ∃ t',varsX (reading br rv bs) old (t,()) = .ok (l,(t',()))∧Ag F y.1 t'
 | [],old,x,y,t,hl,hx,hf,h,hp,hA=>by
   cases h
   have:old=[]:=List.length_eq_zero_iff.1 hl
   subst this
   exact⟨t,rfl,hA⟩
 | v::r,[],_,_,_,hl,_,_,_,_,_=>by simp at hl
 | v::r,o::old,x,y,t,hl,hx,hf,h,hp,hA=>by
   obtain⟨z,h1,h2⟩:=then_ok h
   have w:=(one_wr hx h1).2.1
   have w2:=vars_wr w.pos h2
   obtain⟨t1,e1,A1⟩:=one_sm (old:=o) hF hx hf h1 (w2.pre.trans hp) hA
   obtain⟨t2,e2,A2⟩:=vars_sm hF (old:=old) (by simpa using hl) w.pos (w.fn hf) h2 hp A1
   refine⟨t2,?_,A2⟩
   unfold varsX
   rw[e1]
   simp only
   rw[e2]
theorem wr_count {x:WS × (Nat × List UInt8)}{v:Int}(h:Pos x):Wr x ({ x.1 with count:=v },x.2):=⟨List.prefix_refl _,h,fun o ho hne=>by
 simp only[places,List.mem_cons,List.not_mem_nil,or_false] at ho
 rcases ho with rfl | rfl | rfl | rfl | rfl | rfl | rfl | rfl | rfl | rfl | rfl<;>first | rfl | exact absurd rfl hne⟩
theorem list_wr {n:Nat}{l:List Int}{x y:WS × (Nat × List UInt8)}(hx:Pos x)(h:listK (writing b wb g0 K) n l x = .ok y):Wr x y∧l.length=n:=by
 obtain⟨z,h1,h2⟩:=then_ok h
 have w0:=wr_count (v:=l.length) hx
 have w1:=(wr_next (b:=b) (by simp[places]) (by omega) w0.pos h1).2
 split at h2
 ·rename_i hl
  exact⟨(w0.trans w1).trans (vars_wr w1.pos h2),hl⟩
 ·cases h2
theorem listX_of {M:Mode b}{n:Nat}{x y:WS × M.σ}(e:nextX M 161 1 ({ x.1 with count:=(([]:List Int).length:Nat) },x.2) = .ok y)(hc:y.1.count=n):listX M n [] x=varsX M (if ([]:List Int).length=n then [] else List.replicate n 0) y:=by
 unfold listX
 rw[e]
 simp only
 rw[if_pos hc]
theorem list_sm {n:Nat}{bs:List UInt8}{F:List Nat}{l:List Int}{x y:WS × (Nat × List UInt8)}{t:WS}(hn:n≤255)(hF:151 ∉ F)(hF2:161 ∉ F)(hx:Pos x)(hf:Fn x.1)(h:listK (writing b wb g0 K) n l x = .ok y)(hp:y.2.2 <+: bs)(hA:Ag (161::F) x.1 t) :
 ∃ t',listX (reading br rv bs) n [] (t,()) = .ok (l,(t',()))∧Ag F y.1 t':=by
 obtain⟨-,hl⟩:=list_wr hx h
 obtain⟨z,h1,h2⟩:=then_ok h
 have w0:=wr_count (v:=l.length) hx
 have w1:=(wr_next (b:=b) (by simp[places]) (by omega) w0.pos h1).2
 rw[if_pos hl] at h2
 have w2:=vars_wr w1.pos h2
 have hA0:Ag (161::F) ({ x.1 with count:=l.length }:WS) { t with count:=0 }:=by
  refine⟨fun o ho hne=>?_,hA.pos,hA.loc⟩
  have h3:=hA.num o ho hne
  simp only[places,List.mem_cons,List.not_mem_nil,or_false] at ho
  rcases ho with rfl | rfl | rfl | rfl | rfl | rfl | rfl | rfl | rfl | rfl | rfl<;>first | exact h3 | exact absurd (List.mem_cons_self ..) hne
 obtain⟨t1,e1,A1,-⟩:=rd_next (b:=b) (bs:=bs) (br:=br) (rv:=rv) (F':=F) (o:=161) (size:=1) (by simp[places]) (by omega) w0.pos h1 (w2.pre.trans hp) (Or.inl ⟨by show 0≤((l.length:Nat):Int);omega,by show((l.length:Nat):Int).toNat<256 ^ 1;omega,by omega⟩) hA0 (fun o' ho'=>by
  rcases List.mem_cons.1 ho' with h | h
  ·exact Or.inl h
  ·exact Or.inr h)
 have hz:z.1.count=(n:Nat):=by
  have:=(wr_next (b:=b) (by simp[places]) (by omega) w0.pos h1).1
  rw[this]
  show((l.length:Nat):Int)=(n:Nat)
  rw[hl]
 have ht:t1.count=(n:Nat):=by
  have:z.1.count=t1.count:=A1.out (o:=161) (by simp[places]) hF2
  rw[← this,hz]
 obtain⟨t2,e2,A2⟩:=vars_sm (bs:=bs) (br:=br) (rv:=rv) hF (old:=if ([]:List Int).length=n then [] else List.replicate n 0) (by
  split
  ·rename_i h0;rw[hl];exact h0
  ·rw[List.length_replicate,hl]) w1.pos (w1.fn (w0.fn hf)) h2 hp A1
 refine⟨t2,?_,A2⟩
 exact(listX_of (M:=reading br rv bs) (x:=(t,())) e1 ht).trans e2
def zerosK : Nat→List Nat
 | 11=>[155,156,157]
 | 15=>[155,156,157,158]
 | k=>[155,156,157,158].filter (fun o=>!(namesK k).contains o)
theorem nb_zero {k:Nat}{s:WS}{la lr:Nat}(h1:1≤k)(h17:k≤17)(h:nbK k s la lr=true):(∀ o,o∈zerosK k→s.get o=0)∧(k≠11→lr=0)∧(k≠11→k≠15→la=0):=by
 have hk:k=1∨k=2∨k=3∨k=4∨k=5∨k=6∨k=7∨k=8∨k=9∨k=10∨k=11∨k=12∨k=13∨k=14∨k=15∨k=16∨k=17:=by omega
 rcases hk with rfl | rfl | rfl | rfl | rfl | rfl | rfl | rfl | rfl | rfl | rfl | rfl | rfl | rfl | rfl | rfl | rfl <;>
  (simp only[nbK,Bool.and_eq_true,beq_iff_eq] at h
   simp[zerosK,namesK,WS.get]
   omega)
theorem thenX_okT {α β:Type}{c:X α}{p:α→X β}{y:α}(h:c = .ok y):thenX c p=p y:=by subst h;rfl
theorem instr_wr {heads:List (Nat × Nat)}{fR i:Nat}{la lr:List Int}{x y:WS × (Nat × List UInt8)}(hx:Pos x)(hnf:heads.length≤65535)(h:instrK (writing b wb g0 K) heads fR i la lr x = .ok y):Wr x y:=by
 obtain⟨x1,h1,h⟩:=then_ok h
 have w1:=(wr_next (b:=b) (o:=154) (by simp[places]) (by omega) hx h1).2
 split at h
 ·split at h
  ·obtain⟨x2,h2,h⟩:=then_ok h
   obtain⟨-,w2,-⟩:=front_sm (b:=b) (bs:=[]) (br:=0) (rv:=nilS) (F:=[]) (p':=0) _ _ w1.pos h2
   exact(w1.trans w2).trans (list_wr w2.pos h).1
  ·split at h
   ·obtain⟨x3,h3,h⟩:=then_ok h
    obtain⟨x2,h2,h3⟩:=then_ok h3
    obtain⟨-,w2,-⟩:=front_sm (b:=b) (bs:=[]) (br:=0) (rv:=nilS) (F:=[]) (p':=0) _ _ w1.pos h2
    have w3:=(sm_callee (b:=b) (bs:=[]) (br:=0) (rv:=nilS) (F:=[158]) (F':=[]) heads.length hnf (by simp) (by simp)).wr x2 x3 w2.pos h3
    obtain⟨x4,h4,h⟩:=then_ok h
    have w4:=(list_wr w3.pos h4).1
    exact(((w1.trans w2).trans w3).trans w4).trans (list_wr w4.pos h).1
   ·cases h2:frontOk (writing b wb g0 K) (x.1.op==13) (x.1.op==6) (nbK x.1.op.toNat x.1 la.length lr.length) i x.1.at' x1 with
    | error z =>
      rw[h2] at h
      have:∀ k,partsX (writing b wb g0 K) k (.error z) = .error z:=by
       intro k;unfold partsX;split<;>rfl
      rw[this] at h;cases h
    | ok x2 =>
      rw[h2] at h
      obtain⟨-,w2,-⟩:=front_sm (b:=b) (bs:=[]) (br:=0) (rv:=nilS) (F:=[]) (p':=0) _ _ w1.pos h2
      exact(w1.trans w2).trans ((parts_sm (b:=b) (bs:=[]) (br:=0) (rv:=nilS) x.1.op.toNat).wr x2 y w2.pos h)
 ·cases h
theorem instr_sm {bs:List UInt8}{heads:List (Nat × Nat)}{fR i:Nat}{la lr:List Int}{x y:WS × (Nat × List UInt8)}{t:WS}(hx:Pos x)(hf:Fn x.1)(hnf:heads.length≤65535)(hfR:fR≤255)(hhd:∀ k:Nat,(heads.getD k (0,0)).1≤255∧(heads.getD k (0,0)).2≤255)
 (h:instrK (writing b wb g0 K) heads fR i la lr x = .ok y) (hp:y.2.2 <+: bs) (hA:Ag [154,155,156,157,158,161] x.1 t) (hz:∀ o,o∈[155,156,157,158]→t.get o=0) :
 ∃ t',instrX (reading br rv bs) heads fR i (t,()) = .ok ((la,lr),(t',()))∧Ag [161] y.1 t':=by
 have hw:=instr_wr hx hnf h
 obtain⟨x1,h1,h⟩:=then_ok h
 have w1:=(wr_next (b:=b) (o:=154) (by simp[places]) (by omega) hx h1).2
 have hf1:=w1.fn hf
 have eop:x1.1.op=x.1.op:=w1.num 154 (by simp[places]) (by omega)
 split at h
 rotate_left
 ·cases h
 rename_i hop
 -- the bytes of the first step lie ahead of the last
 have ahead:∀ {z:WS × (Nat × List UInt8)},Wr x1 z→Wr z y→x1.2.2 <+: bs:=fun w w'=>(w.pre.trans w'.pre).trans hp
 have hx1p:x1.2.2 <+: bs→∃ t1,nextX (reading br rv bs) 154 1 (t,()) = .ok (t1,())∧Ag [155,156,157,158,161] x1.1 t1∧∀ o',o'∈places→o'≠154→t1.get o'=t.get o':=fun hb =>
  rd_next (b:=b) (bs:=bs) (br:=br) (rv:=rv) (F':=[155,156,157,158,161]) (o:=154) (size:=1) (by simp[places]) (by omega) hx h1 hb (Or.inl ⟨by show 0≤x.1.op;omega,by show x.1.op.toNat<256 ^ 1;omega,by omega⟩) hA (by simp)
 have start:∀ (k:Nat) (F:List Nat),x.1.op=(k:Nat)→nbK k x.1 la.length lr.length=true→(∀ o,o∈[155,156,157,158]→o∈zerosK k∨o∈F)→161∈F→∀ t1,Ag [155,156,157,158,161] x1.1 t1→(∀ o',o'∈places→o'≠154→t1.get o'=t.get o')→Ag F x1.1 t1:=by
  intro k F hk hnb hF h161 t1 A1 k1
  obtain⟨z1,-,-⟩:=nb_zero (by omega) (by omega) hnb
  refine⟨fun o ho hne=>?_,A1.pos,A1.loc⟩
  by_cases h4:o∈[155,156,157,158]
  ·rcases hF o h4 with h5 | h5
   ·have e1:x1.1.get o=x.1.get o:=w1.num o ho (by simp at h4;omega)
    rw[e1,z1 o h5,k1 o ho (by simp at h4;omega),hz o h4]
   ·exact absurd h5 hne
  ·refine A1.num o ho (fun h5=>?_)
   simp at h4 h5
   rcases h5 with h5 | h5 | h5 | h5 | h5
   ·exact h4.1 h5
   ·exact h4.2.1 h5
   ·exact h4.2.2.1 h5
   ·exact h4.2.2.2 h5
   ·exact hne (h5 ▸ h161)
 split at h
 ·rename_i h15
  obtain⟨x2,h2,h⟩:=then_ok h
  obtain⟨hnb,w2,-,hs⟩:=front_sm (b:=b) (bs:=bs) (br:=br) (rv:=rv) (F:=[161]) (p':=t.at') _ _ w1.pos h2
  have w3:=(list_wr w2.pos h).1
  obtain⟨t1,e1,A1,k1⟩:=hx1p (ahead w2 w3)
  have A1':=start 15 [161] (by omega) hnb (by simp[zerosK]) (by simp) t1 A1 k1
  obtain⟨t2,e2,A2⟩:=hs t1 (by simp) A1'
  obtain⟨t3,e3,A3⟩:=list_sm (b:=b) (bs:=bs) (br:=br) (rv:=rv) (F:=[]) hfR (by simp) (by simp) w2.pos (w2.fn hf1) h hp A2
  obtain⟨-,hlr,-⟩:=nb_zero (by omega) (by omega) hnb
  have hlr:lr=[]:=List.length_eq_zero_iff.1 (hlr (by omega))
  subst hlr
  have et:t1.op=15:=by have:x1.1.op=t1.op:=A1.out (o:=154) (by simp[places]) (by simp);omega
  refine⟨t3,?_,A3.mono (by simp)⟩
  unfold instrX
  rw[thenX_okT e1]
  show(if 1≤t1.op∧t1.op≤17 then (if t1.op=15 then _ else _) else _)=_
  rw[if_pos (by omega),if_pos et]
  unfold retX
  rw[thenX_okT e2]
  show thenX (listX (reading br rv bs) fR [] (t2,())) _=_
  rw[thenX_okT e3]
 ·rename_i h15
  split at h
  ·rename_i h11
   obtain⟨x3,h3,h⟩:=then_ok h
   obtain⟨x2,h2,h3⟩:=then_ok h3
   obtain⟨hnb,w2,-,hs⟩:=front_sm (b:=b) (bs:=bs) (br:=br) (rv:=rv) (F:=[158,161]) (p':=t.at') _ _ w1.pos h2
   have S3:=sm_callee (b:=b) (wb:=wb) (g0:=g0) (K:=K) (bs:=bs) (br:=br) (rv:=rv) (F:=[158,161]) (F':=[161]) heads.length hnf (by simp) (by simp)
   have w3:=S3.wr x2 x3 w2.pos h3
   obtain⟨x4,h4,h⟩:=then_ok h
   have w4:=(list_wr w3.pos h4).1
   have w5:=(list_wr w4.pos h).1
   obtain⟨t1,e1,A1,k1⟩:=hx1p (ahead (w2.trans w3) (w4.trans w5))
   have A1':=start 11 [158,161] (by omega) hnb (by simp[zerosK]) (by simp) t1 A1 k1
   obtain⟨t2,e2,A2⟩:=hs t1 (by simp) A1'
   obtain⟨t3,e3,A3⟩:=S3.sim x2 x3 t2 w2.pos (w2.fn hf1) h3 ((w4.trans w5).pre.trans hp) A2
   have hf3:=w3.fn (w2.fn hf1)
   have en:x3.1.n=t3.n:=A3.out (o:=158) (by simp[places]) (by simp)
   have hb:=hhd x3.1.n.toNat
   obtain⟨t4,e4,A4⟩:=list_sm (b:=b) (bs:=bs) (br:=br) (rv:=rv) (F:=[]) hb.1 (by simp) (by simp) w3.pos hf3 h4 (w5.pre.trans hp) A3
   obtain⟨t5,e5,A5⟩:=list_sm (b:=b) (bs:=bs) (br:=br) (rv:=rv) (F:=[]) hb.2 (by simp) (by simp) w4.pos (w4.fn hf3) h hp (A4.mono (by simp))
   have et:t1.op=11:=by have:x1.1.op=t1.op:=A1.out (o:=154) (by simp[places]) (by simp);omega
   refine⟨t5,?_,A5.mono (by simp)⟩
   unfold instrX
   rw[thenX_okT e1]
   show(if 1≤t1.op∧t1.op≤17 then (if t1.op=15 then _ else if t1.op=11 then _ else _) else _)=_
   rw[if_pos (by omega),if_neg (by omega),if_pos et]
   unfold callX
   have e23:thenX (frontOk (reading br rv bs) false false true i (t,()).1.at' (t1,())) (calleePart (reading br rv bs) heads.length) = .ok (t3,()):=by
    rw[thenX_okT e2];exact e3
   rw[thenX_okT e23]
   show thenX (listX (reading br rv bs) ((heads.getD t3.n.toNat (0,0)).1) [] (t3,())) _=_
   rw[← en,thenX_okT e4]
   show thenX (listX (reading br rv bs) ((heads.getD x3.1.n.toNat (0,0)).2) [] (t4,())) _=_
   rw[thenX_okT e5]
  ·rename_i h11
   obtain⟨k,hk⟩:=Int.eq_ofNat_of_zero_le (show 0≤x.1.op by omega)
   have hkn:x.1.op.toNat=k:=by omega
   cases h2:frontOk (writing b wb g0 K) (x.1.op==13) (x.1.op==6) (nbK x.1.op.toNat x.1 la.length lr.length) i x.1.at' x1 with
   | error z =>
     rw[h2] at h
     have:∀ k,partsX (writing b wb g0 K) k (.error z) = .error z:=by
      intro k;unfold partsX;split<;>rfl
     rw[this] at h;cases h
   | ok x2 =>
     rw[h2] at h
     obtain⟨hnb,w2,-,hs⟩:=front_sm (b:=b) (bs:=bs) (br:=br) (rv:=rv) (F:=161::namesK k) (p':=t.at') _ _ w1.pos h2
     rw[hkn] at hnb h
     have S3:=parts_sm (b:=b) (wb:=wb) (g0:=g0) (K:=K) (bs:=bs) (br:=br) (rv:=rv) k
     have w3:=S3.wr x2 y w2.pos h
     obtain⟨t1,e1,A1,k1⟩:=hx1p (ahead w2 w3)
     have hk17:k=1∨k=2∨k=3∨k=4∨k=5∨k=6∨k=7∨k=8∨k=9∨k=10∨k=12∨k=13∨k=14∨k=16∨k=17:=by omega
     have A1':=start k (161::namesK k) hk hnb (by
      rcases hk17 with rfl | rfl | rfl | rfl | rfl | rfl | rfl | rfl | rfl | rfl | rfl | rfl | rfl | rfl | rfl<;>simp[zerosK,namesK]) (by simp) t1 A1 k1
     obtain⟨t2,e2,A2⟩:=hs t1 (by
      rcases hk17 with rfl | rfl | rfl | rfl | rfl | rfl | rfl | rfl | rfl | rfl | rfl | rfl | rfl | rfl | rfl<;>simp[namesK]) A1'
     obtain⟨t3,e3,A3⟩:=S3.sim x2 y t2 w2.pos (w2.fn hf1) h hp A2
     obtain⟨-,hlr,hla⟩:=nb_zero (by omega) (by omega) hnb
     have hlr:lr=[]:=List.length_eq_zero_iff.1 (hlr (by omega))
     have hla:la=[]:=List.length_eq_zero_iff.1 (hla (by omega) (by omega))
     subst hlr
     subst hla
     have et:t1.op=x.1.op:=by have:x1.1.op=t1.op:=A1.out (o:=154) (by simp[places]) (by simp);omega
     refine⟨t3,?_,A3⟩
     unfold instrX
     rw[thenX_okT e1]
     show(if 1≤t1.op∧t1.op≤17 then (if t1.op=15 then _ else if t1.op=11 then _ else _) else _)=_
     rw[if_pos (by omega),if_neg (by omega),if_neg (by omega)]
     show thenX (partsX (reading br rv bs) t1.op.toNat (frontOk (reading br rv bs) (t1.op==13) (t1.op==6) true i t.at' (t1,()))) _=_
     have e3':partsX (reading br rv bs) k (.ok (t2,())) = .ok (t3,()):=e3
     rw[et,e2,hkn]
     exact thenX_okT e3'
def ai (c:PI):AI:=⟨c.op,c.r,c.s,c.t,c.n,c.args,c.rets⟩
def hd (f:PF):HD:=⟨f.P,f.R,f.V,(f.code.length:Nat)⟩
abbrev F6 : List Nat:=[154,155,156,157,158,161]
def Fn0 (s:WS):Prop:=(0≤s.globals∧s.globals≤16)∧(0≤s.fV∧s.fV≤255)∧(0≤s.len∧s.len≤4096)
def In64n (c:PI):Prop:=-9223372036854775808≤c.n∧c.n<9223372036854775808
structure WrC (x y:WS × (Nat × List UInt8)):Prop where
 pre:x.2.2 <+: y.2.2
 pos:Pos y
 num:∀ o,o∈places→o ∉ F6→y.1.get o=x.1.get o
theorem WrC.refl {x:WS × (Nat × List UInt8)}(h:Pos x):WrC x x:=⟨List.prefix_refl _,h,fun _ _ _=>rfl⟩
theorem WrC.trans {x y z:WS × (Nat × List UInt8)}(h:WrC x y)(k:WrC y z):WrC x z:=⟨h.pre.trans k.pre,k.pos,fun o h1 h2=>(k.num o h1 h2).trans (h.num o h1 h2)⟩
theorem WrC.fn {x y:WS × (Nat × List UInt8)}(h:WrC x y)(k:Fn0 x.1):Fn0 y.1:=by
 have e1:y.1.globals=x.1.globals:=h.num 146 (by simp[places]) (by simp)
 have e2:y.1.fV=x.1.fV:=h.num 151 (by simp[places]) (by simp)
 have e3:y.1.len=x.1.len:=h.num 153 (by simp[places]) (by simp)
 unfold Fn0
 rw[e1,e2,e3]
 exact k
theorem inI_get (c:PI)(s:WS)(o:Nat)(ho:o∈places)(hn:o ∉ F6):(inI c s).get o=s.get o:=by
 simp only[places,List.mem_cons,List.not_mem_nil,or_false] at ho
 rcases ho with rfl | rfl | rfl | rfl | rfl | rfl | rfl | rfl | rfl | rfl | rfl<;>first | rfl | exact absurd (by simp) hn
theorem blank_get (s:WS)(o:Nat)(ho:o∈places)(hn:o ∉ F6):(blank s).get o=s.get o:=by
 simp only[places,List.mem_cons,List.not_mem_nil,or_false] at ho
 rcases ho with rfl | rfl | rfl | rfl | rfl | rfl | rfl | rfl | rfl | rfl | rfl<;>first | rfl | exact absurd (by simp) hn
theorem wrC_instr {c:PI}{x y:WS × (Nat × List UInt8)}(h:Wr (inI c x.1,x.2) y):WrC x y :=
 ⟨h.pre,h.pos,fun o ho hn=>(h.num o ho (fun e=>hn (by simp[e]))).trans (inI_get c x.1 o ho hn)⟩
theorem code_wr {heads:List (Nat × Nat)}{fR:Nat}(hnf:heads.length≤65535):∀ {l:List PI} {i:Nat} {x y:WS × (Nat × List UInt8)},Pos x→codeK (writing b wb g0 K) heads fR i l x = .ok y→WrC x y
 | [],_,_,_,hx,h=>by cases h;exact WrC.refl hx
 | c::r,i,x,y,hx,h=>by
   obtain⟨z,h1,h2⟩:=then_ok h
   have w:=wrC_instr (instr_wr (x:=(inI c x.1,x.2)) hx hnf h1)
   exact w.trans (code_wr hnf w.pos h2)
theorem codeX_step {M:Mode b}{heads:List (Nat × Nat)}{fR len m:Nat}{x y y':WS × M.σ}{ll:List Int × List Int}{l:List AI}(h:instrX M heads fR (len-(m+1)) (blank x.1,x.2) = .ok (ll,y))(k:codeX M heads fR len m y = .ok (l,y')) :
 codeX M heads fR len (m+1) x = .ok (aiOf ll y.1::l,y'):=by
 unfold codeX
 rw[h]
 simp only
 rw[k]
theorem code_sm {bs:List UInt8}{heads:List (Nat × Nat)}{fR:Nat}(hnf:heads.length≤65535)(hfR:fR≤255)(hhd:∀ k:Nat,(heads.getD k (0,0)).1≤255∧(heads.getD k (0,0)).2≤255) :
 ∀ {l:List PI} {i:Nat} {x y:WS × (Nat × List UInt8)} {t:WS},Pos x→Fn0 x.1→(∀ c∈l,In64n c)→codeK (writing b wb g0 K) heads fR i l x = .ok y→y.2.2 <+: bs→Ag F6 x.1 t →
  ∃ t',codeX (reading br rv bs) heads fR (i+l.length) l.length (t,()) = .ok (l.map ai,(t',()))∧Ag F6 y.1 t'
 | [],_,_,_,t,hx,_,_,h,_,hA=>by cases h;exact⟨t,rfl,hA⟩
 | c::r,i,x,y,t,hx,hf,hc,h,hp,hA=>by
   obtain⟨z,h1,h2⟩:=then_ok h
   have w0:=instr_wr (x:=(inI c x.1,x.2)) hx hnf h1
   have w:=wrC_instr w0
   have w2:=code_wr hnf w.pos h2
   have hA0:Ag F6 (inI c x.1) (blank t):=⟨fun o ho hn=>by rw[inI_get c x.1 o ho hn,blank_get t o ho hn];exact hA.num o ho hn,hA.pos,hA.loc⟩
   obtain⟨t1,e1,A1⟩:=instr_sm (b:=b) (bs:=bs) (br:=br) (rv:=rv) (x:=(inI c x.1,x.2)) hx ⟨hf.1,hf.2.1,hf.2.2,hc c (by simp)⟩ hnf hfR hhd h1 (w2.pre.trans hp) hA0 (by intro o ho;simp at ho;rcases ho with rfl | rfl | rfl | rfl<;>rfl)
   obtain⟨t2,e2,A2⟩:=code_sm hnf hfR hhd (i:=i+1) w.pos (w.fn hf) (fun c' hc'=>hc c' (by simp[hc'])) h2 hp (A1.mono (by simp))
   refine⟨t2,?_,A2⟩
   have ei:i+(c::r).length-(r.length+1)=i:=by simp only[List.length_cons];omega
   have el:i+(c::r).length=i+1+r.length:=by simp only[List.length_cons];omega
   have e1':instrX (reading br rv bs) heads fR (i+(c::r).length-(r.length+1)) (blank (t,()).1,(t,()).2) = .ok ((c.args,c.rets),(t1,())):=by rw[ei];exact e1
   have e2':codeX (reading br rv bs) heads fR (i+(c::r).length) r.length (t1,()) = .ok (r.map ai,(t2,())):=by rw[el];exact e2
   have e3:=codeX_step (M:=reading br rv bs) (x:=(t,())) e1' e2'
   have ea:aiOf (c.args,c.rets) t1=ai c:=by
    have f:∀ o,o∈places→o≠161→t1.get o=(inI c x.1).get o:=fun o ho hn=>(A1.num o ho (by simpa using hn)).symm.trans (w0.num o ho hn)
    have g1:t1.op=c.op:=f 154 (by simp[places]) (by omega)
    have g2:t1.r=c.r:=f 155 (by simp[places]) (by omega)
    have g3:t1.s=c.s:=f 156 (by simp[places]) (by omega)
    have g4:t1.t=c.t:=f 157 (by simp[places]) (by omega)
    have g5:t1.n=c.n:=f 158 (by simp[places]) (by omega)
    unfold aiOf ai
    rw[g1,g2,g3,g4,g5]
   have ea':aiOf (c.args,c.rets) (t1,()).1=ai c:=ea
   rw[ea'] at e3
   exact e3
theorem headOk_told {s:WS}{p:Int}{u:Unit}(h:headOk s p = .ok u):(0≤s.fV∧s.fV≤255)∧(0≤s.fP∧s.fP≤8)∧(0≤s.fR∧s.fR≤4)∧0<s.len∧s.len≤4096:=by
 unfold headOk at h
 by_cases h1:0≤s.fV∧s.fV≤255
 rotate_left
 ·rw[if_pos h1] at h;cases h
 rw[if_neg (fun k=>k h1)] at h
 by_cases h2:0≤s.fP∧s.fP≤(if s.fV<8 then s.fV else 8)
 rotate_left
 ·rw[if_pos h2] at h;cases h
 rw[if_neg (fun k=>k h2)] at h
 by_cases h3:0≤s.fR∧s.fR≤4
 rotate_left
 ·rw[if_pos h3] at h;cases h
 rw[if_neg (fun k=>k h3)] at h
 by_cases h4:s.len≤4096
 rotate_left
 ·rw[if_pos h4] at h;cases h
 rw[if_neg (fun k=>k h4)] at h
 by_cases h5:0<s.len
 rotate_left
 ·rw[if_pos h5] at h;cases h
 refine⟨h1,⟨h2.1,?_⟩,h3,h5,h4⟩
 have h6:=h2.2
 split at h6<;>omega
theorem head_sm {bs:List UInt8}{x y:WS × (Nat × List UInt8)}(hx:Pos x)(h:headX (writing b wb g0 K) x = .ok y) :
 Wr x y∧((0≤x.1.fV∧x.1.fV≤255)∧(0≤x.1.fP∧x.1.fP≤8)∧(0≤x.1.fR∧x.1.fR≤4)∧0<x.1.len∧x.1.len≤4096) ∧
 ∀ t,y.2.2 <+: bs→Ag [149,150,151,153] x.1 t→∃ t',headX (reading br rv bs) (t,()) = .ok (t',())∧Ag [] y.1 t':=by
 have h:=(headX_then (writing b wb g0 K) x).symm.trans h
 obtain⟨y1,h1,h⟩:=then_ok h
 obtain⟨y2,h2,h⟩:=then_ok h
 obtain⟨y3,h3,h⟩:=then_ok h
 obtain⟨y4,h4,h⟩:=then_ok h
 obtain⟨u,h5,h⟩:=then_ok h
 have w1:=(wr_next (b:=b) (o:=149) (by simp[places]) (by omega) hx h1).2
 have w2:=(wr_next (b:=b) (o:=150) (by simp[places]) (by omega) w1.pos h2).2
 have w3:=(wr_next (b:=b) (o:=151) (by simp[places]) (by omega) w2.pos h3).2
 have w4:=(wr_next (b:=b) (o:=153) (by simp[places]) (by omega) w3.pos h4).2
 have w:=((w1.trans w2).trans w3).trans w4
 unfold locX at h
 split at h
 rotate_left
 ·cases h
 rename_i hloc
 cases h
 have w5:=w.trans (wr_locs (v:=wrap64 (y4.1.locs+y4.1.fV)) w.pos)
 have g1:y4.1.fP=x.1.fP:=w.num 149 (by simp[places]) (by omega)
 have g2:y4.1.fR=x.1.fR:=w.num 150 (by simp[places]) (by omega)
 have g3:y4.1.fV=x.1.fV:=w.num 151 (by simp[places]) (by omega)
 have g4:y4.1.len=x.1.len:=w.num 153 (by simp[places]) (by omega)
 have hk:=headOk_told h5
 rw[g1,g2,g3,g4] at hk
 refine⟨w5,hk,fun t hp hA=>?_⟩
 have hp4:y4.2.2 <+: bs:=hp
 have hp3:=w4.pre.trans hp4
 have hp2:=w3.pre.trans hp3
 have hp1:=w2.pre.trans hp2
 have v2:y1.1.get 150=x.1.fR:=w1.num 150 (by simp[places]) (by omega)
 have v3:y2.1.get 151=x.1.fV:=(w1.trans w2).num 151 (by simp[places]) (by omega)
 have v4:y3.1.get 153=x.1.len:=((w1.trans w2).trans w3).num 153 (by simp[places]) (by omega)
 obtain⟨t1,e1,A1,-⟩:=rd_next (b:=b) (bs:=bs) (br:=br) (rv:=rv) (F':=[150,151,153]) (by simp[places]) (by omega) hx h1 hp1 (Or.inl ⟨by show 0≤x.1.fP;omega,by show x.1.fP.toNat<256 ^ 1;omega,by omega⟩) hA (by simp)
 obtain⟨t2,e2,A2,-⟩:=rd_next (b:=b) (bs:=bs) (br:=br) (rv:=rv) (F':=[151,153]) (by simp[places]) (by omega) w1.pos h2 hp2 (Or.inl ⟨by rw[v2];omega,by rw[v2];omega,by omega⟩) A1 (by simp)
 obtain⟨t3,e3,A3,-⟩:=rd_next (b:=b) (bs:=bs) (br:=br) (rv:=rv) (F':=[153]) (by simp[places]) (by omega) w2.pos h3 hp3 (Or.inl ⟨by rw[v3];omega,by rw[v3];omega,by omega⟩) A2 (by simp)
 obtain⟨t4,e4,A4,-⟩:=rd_next (b:=b) (bs:=bs) (br:=br) (rv:=rv) (F':=[]) (by simp[places]) (by omega) w3.pos h4 hp4 (Or.inl ⟨by rw[v4];omega,by rw[v4];omega,by omega⟩) A3 (by simp)
 have a1:y4.1.fP=t4.fP:=A4.out (o:=149) (by simp[places]) (by simp)
 have a2:y4.1.fR=t4.fR:=A4.out (o:=150) (by simp[places]) (by simp)
 have a3:y4.1.fV=t4.fV:=A4.out (o:=151) (by simp[places]) (by simp)
 have a4:y4.1.len=t4.len:=A4.out (o:=153) (by simp[places]) (by simp)
 have e5:headOk t4 t.at' = .ok u:=by
  rw[← h5,← hA.pos]
  unfold headOk
  rw[a1,a2,a3,a4]
 refine⟨{ t4 with locs:=wrap64 (t4.locs+t4.fV) },?_,⟨A4.num,A4.pos,?_⟩⟩
 ·have l1:locX (reading br rv bs) t4.fV t.at' (t4,()) = .ok ({ t4 with locs:=wrap64 (t4.locs+t4.fV) },()):=by
   unfold locX
   rw[if_pos (by show wrap64 (t4.locs+t4.fV)≤1048576;rw[← A4.loc,← a3];exact hloc)]
  exact((headX_then (reading br rv bs) (t,())).trans ((thenX_okT e1).trans ((thenX_okT e2).trans ((thenX_okT e3).trans ((thenX_okT e4).trans ((thenX_okT e5).trans l1))))))
 ·show wrap64 (y4.1.locs+y4.1.fV)=wrap64 (t4.locs+t4.fV)
  rw[A4.loc,a3]
def HeadF (f:PF):Prop:=(0≤f.V∧f.V≤255)∧(0≤f.P∧f.P≤8)∧(0≤f.R∧f.R≤4)∧0<f.code.length∧f.code.length≤4096
structure WrH (x y:WS × (Nat × List UInt8)):Prop where
 pre:x.2.2 <+: y.2.2
 pos:Pos y
 glob:y.1.globals=x.1.globals
theorem headsX_step {M:Mode b}{m:Nat}{x y y':WS × M.σ}{l:List HD}(h:headX M x = .ok y)(k:headsX M m y = .ok (l,y')):headsX M (m+1) x = .ok (hdOf y.1::l,y'):=by
 unfold headsX
 rw[h]
 simp only
 rw[k]
theorem heads_sm {bs:List UInt8}:∀ {fs:List PF} {x y:WS × (Nat × List UInt8)},Pos x→headsK (writing b wb g0 K) fs x = .ok y →
 WrH x y∧(∀ f∈fs,HeadF f)∧∀ t,y.2.2 <+: bs→Ag [] x.1 t→∃ t',headsX (reading br rv bs) fs.length (t,()) = .ok (fs.map hd,(t',()))∧Ag [] y.1 t'
 | [],x,_,hx,h=>by cases h;exact⟨⟨List.prefix_refl _,hx,rfl⟩,by simp,fun t _ hA=>⟨t,rfl,hA⟩⟩
 | f::r,x,y,hx,h=>by
   obtain⟨z,h1,h2⟩:=then_ok h
   obtain⟨w,hk,hs⟩:=head_sm (b:=b) (bs:=bs) (br:=br) (rv:=rv) (x:=(inF f x.1,x.2)) hx h1
   obtain⟨w2,hk2,hs2⟩:=heads_sm (bs:=bs) w.pos h2
   have hF:HeadF f:=by
    obtain⟨k1,k2,k3,k4,k5⟩:=hk
    have k4:0<((f.code.length:Nat):Int):=k4
    have k5:((f.code.length:Nat):Int)≤4096:=k5
    exact⟨k1,k2,k3,by omega,by omega⟩
   have eg:z.1.globals=x.1.globals:=w.num 146 (by simp[places]) (by omega)
   refine⟨⟨w.pre.trans w2.pre,w2.pos,w2.glob.trans eg⟩,fun f' hf'=>?_,fun t hp hA=>?_⟩
   ·rcases List.mem_cons.1 hf' with rfl | h
    ·exact hF
    ·exact hk2 f' h
   ·have hA0:Ag [149,150,151,153] (inF f x.1) t:=by
     refine⟨fun o ho hn=>?_,hA.pos,hA.loc⟩
     have h3:=hA.num o ho (by simp)
     simp only[places,List.mem_cons,List.not_mem_nil,or_false] at ho
     rcases ho with rfl | rfl | rfl | rfl | rfl | rfl | rfl | rfl | rfl | rfl | rfl<;>first | exact h3 | exact absurd (by simp) hn
    obtain⟨t1,e1,A1⟩:=hs t (w2.pre.trans hp) hA0
    obtain⟨t2,e2,A2⟩:=hs2 t1 hp A1
    refine⟨t2,?_,A2⟩
    have e3:=headsX_step (M:=reading br rv bs) (x:=(t,())) e1 e2
    have eh:hdOf (t1,()).1=hd f:=by
     have f':∀ o,o∈places→o≠161→t1.get o=(inF f x.1).get o:=fun o ho hn=>(A1.num o ho (by simp)).symm.trans (w.num o ho hn)
     have g1:t1.fP=f.P:=f' 149 (by simp[places]) (by omega)
     have g2:t1.fR=f.R:=f' 150 (by simp[places]) (by omega)
     have g3:t1.fV=f.V:=f' 151 (by simp[places]) (by omega)
     have g4:t1.len=(f.code.length:Nat):=f' 153 (by simp[places]) (by omega)
     show hdOf t1=hd f
     unfold hdOf hd
     rw[g1,g2,g3,g4]
    rw[eh] at e3
    exact e3
theorem funcsX_step {M:Mode b}{heads:List (Nat × Nat)}{h:HD}{r:List HD}{x y y':WS × M.σ}{l:List AI}{ls:List (List AI)}
 (e:codeX M heads h.R.toNat h.len.toNat h.len.toNat ({ x.1 with fP:=h.P,fR:=(h.R.toNat:Nat),fV:=h.V,fC:=.slice none 0 0,len:=(h.len.toNat:Nat) },x.2) = .ok (l,y)) (k:funcsX M heads r y = .ok (ls,y')):funcsX M heads (h::r) x = .ok (l::ls,y'):=by
 unfold funcsX
 rw[e]
 simp only
 rw[k]
theorem funcs_sm {bs:List UInt8}{heads:List (Nat × Nat)}(hnf:heads.length≤65535)(hhd:∀ k:Nat,(heads.getD k (0,0)).1≤255∧(heads.getD k (0,0)).2≤255) :
 ∀ {fs:List PF} {x y:WS × (Nat × List UInt8)},Pos x→(0≤x.1.globals∧x.1.globals≤16)→(∀ f∈fs,HeadF f)→(∀ f∈fs,∀ c∈f.code,In64n c)→funcsK (writing b wb g0 K) heads fs x = .ok y →
  (x.2.2 <+: y.2.2∧Pos y)∧∀ t,y.2.2 <+: bs→Ag (149::150::151::153::F6) x.1 t→∃ t',funcsX (reading br rv bs) heads (fs.map hd) (t,()) = .ok (fs.map (fun f=>f.code.map ai),(t',()))∧Ag (149::150::151::153::F6) y.1 t'
 | [],x,_,hx,_,_,_,h=>by cases h;exact⟨⟨List.prefix_refl _,hx⟩,fun t _ hA=>⟨t,rfl,hA⟩⟩
 | f::r,x,y,hx,hg,hF,hc,h=>by
   obtain⟨z,h1,h2⟩:=then_ok h
   have w:=code_wr (b:=b) (x:=(inF f x.1,x.2)) hnf hx h1
   have hf:=hF f (by simp)
   have hf0:Fn0 (inF f x.1):=⟨hg,hf.1,by show 0≤((f.code.length:Nat):Int)∧((f.code.length:Nat):Int)≤4096;have:=hf.2.2.2;omega⟩
   have eg:z.1.globals=x.1.globals:=w.num 146 (by simp[places]) (by simp)
   obtain⟨⟨w2,p2⟩,hs2⟩:=funcs_sm (bs:=bs) hnf hhd (fs:=r) w.pos (by rw[eg];exact hg) (fun f' h'=>hF f' (by simp[h'])) (fun f' h'=>hc f' (by simp[h'])) h2
   refine⟨⟨w.pre.trans w2,p2⟩,fun t hp hA=>?_⟩
   have eR:((f.R.toNat:Nat):Int)=f.R:=Int.toNat_of_nonneg hf.2.2.1.1
   have eL:(((f.code.length:Nat):Int).toNat:Nat)=f.code.length:=by simp
   have hA0:Ag F6 (inF f x.1) { t with fP:=(hd f).P,fR:=((hd f).R.toNat:Nat),fV:=(hd f).V,fC:=.slice none 0 0,len:=((hd f).len.toNat:Nat) }:=by
    refine⟨fun o ho hn=>?_,hA.pos,hA.loc⟩
    by_cases h4:o∈[149,150,151,153]
    ·simp only[List.mem_cons,List.not_mem_nil,or_false] at h4
     rcases h4 with rfl | rfl | rfl | rfl
     ·rfl
     ·show f.R=((f.R.toNat:Nat):Int);rw[eR]
     ·rfl
     ·show((f.code.length:Nat):Int)=((((f.code.length:Nat):Int).toNat:Nat):Int);rw[eL]
    ·have h3:=hA.num o ho (fun h5=>by
      simp only[List.mem_cons,List.not_mem_nil,or_false] at h4 h5 hn
      omega)
     simp only[places,List.mem_cons,List.not_mem_nil,or_false] at ho
     rcases ho with rfl | rfl | rfl | rfl | rfl | rfl | rfl | rfl | rfl | rfl | rfl<;>first | exact h3 | exact absurd (by simp) h4
   obtain⟨t1,e1,A1⟩:=code_sm (b:=b) (bs:=bs) (br:=br) (rv:=rv) (fR:=f.R.toNat) hnf (by have:=hf.2.2.1;omega) hhd (x:=(inF f x.1,x.2)) hx hf0 (hc f (by simp)) h1 (w2.trans hp) hA0
   obtain⟨t2,e2,A2⟩:=hs2 t1 hp (A1.mono (fun o ho=>by simp at ho ⊢;omega))
   refine⟨t2,?_,A2⟩
   have e1':codeX (reading br rv bs) heads (hd f).R.toNat (hd f).len.toNat (hd f).len.toNat ({ (t,()).1 with fP:=(hd f).P,fR:=((hd f).R.toNat:Nat),fV:=(hd f).V,fC:=.slice none 0 0,len:=((hd f).len.toNat:Nat) },(t,()).2) = .ok (f.code.map ai,(t1,())):=by
    have el:(hd f).len.toNat=f.code.length:=eL
    rw[Nat.zero_add] at e1
    show codeX (reading br rv bs) heads f.R.toNat (hd f).len.toNat (hd f).len.toNat _=_
    rw[el] at e1 ⊢
    exact e1
   exact funcsX_step (M:=reading br rv bs) (x:=(t,())) e1' e2
theorem ask_next {M:Mode b}{o size:Nat}{c:WS→Bool}{er:Int}{x y:WS × M.σ}(h:askX M o size c er x = .ok y):nextX M o size x = .ok y∧c y.1=true:=by
 unfold askX at h
 split at h
 ·rename_i y' hy
  split at h
  ·rename_i hcy;cases h;exact⟨hy,hcy⟩
  ·cases h
 ·cases h
theorem over_back {room:Nat}{G:Int}{fs:List PF}{vw vr fv:Value}{y:WS × (Nat × List UInt8)}(hroom:6+8*room≤1000000000000)(hc:∀ f∈fs,∀ c∈f.code,In64n c)
 (h:overK (writing b wb g0 K) G fs (WS.start vw,((room,magicL):Nat × List UInt8)) = .ok y) :
 throughX br rv y.2.2 (WS.start vr) fv = .ok (G,fs.map hd,fs.map (fun f=>f.code.map ai))∧(∀ f∈fs,HeadF f)∧(1≤fs.length∧fs.length≤65535)∧(0≤G∧G≤16)∧magicL <+: y.2.2:=by
 obtain⟨x1,h1,h⟩:=then_ok h
 obtain⟨x2,h2,h⟩:=then_ok h
 obtain⟨x3,h3,h4⟩:=then_ok h
 have p0:Pos (({ WS.start vw with globals:=G,count:=(fs.length:Nat) }:WS),((room,magicL):Nat × List UInt8)):=⟨rfl,hroom⟩
 obtain⟨n1,c1⟩:=ask_next h1
 have w1:=(wr_next (b:=b) (o:=146) (by simp[places]) (by omega) p0 n1)
 obtain⟨n2,c2⟩:=ask_next h2
 have w2:=(wr_next (b:=b) (o:=161) (by simp[places]) (by omega) w1.2.pos n2)
 obtain⟨w3,hF,hs3⟩:=heads_sm (b:=b) (bs:=y.2.2) (br:=br) (rv:=rv) w2.2.pos h3
 have g1:x1.1.globals=G:=by rw[w1.1]
 have k1:x1.1.count=(fs.length:Nat):=by rw[w1.1]
 have g2:x2.1.globals=G:=by rw[w2.1];exact g1
 have k2:x2.1.count=(fs.length:Nat):=by rw[w2.1];exact k1
 have c1:=of_decide_eq_true c1
 have c2:=of_decide_eq_true c2
 rw[g1] at c1
 rw[k2] at c2
 have hlh:(headsOfP fs).length=fs.length:=by simp[headsOfP]
 have hhd:∀ k:Nat,((headsOfP fs).getD k (0,0)).1≤255∧((headsOfP fs).getD k (0,0)).2≤255:=fun k=>by
  by_cases hk:k<fs.length
  ·have e:(headsOfP fs).getD k (0,0)=(fs[k].P.toNat,fs[k].R.toNat):=by simp[headsOfP,List.getD,hk]
   rw[e]
   have:=hF fs[k] (List.getElem_mem hk)
   obtain⟨-,q2,q3,-⟩:=this
   exact⟨by show fs[k].P.toNat≤255;omega,by show fs[k].R.toNat≤255;omega⟩
  ·have e:(headsOfP fs).getD k (0,0)=(0,0):=by simp[headsOfP,List.getD,Nat.le_of_not_lt hk]
   rw[e]
   exact⟨Nat.zero_le _,Nat.zero_le _⟩
 obtain⟨⟨w4,p4⟩,hs4⟩:=funcs_sm (b:=b) (bs:=y.2.2) (br:=br) (rv:=rv) (by rw[hlh];omega) hhd w3.pos (by rw[w3.glob,g2];exact c1) hF hc h4
 have hp2:=w3.pre.trans w4
 have hp1:=w2.2.pre.trans hp2
 have hm:magicL <+: y.2.2:=w1.2.pre.trans hp1
 refine⟨?_,hF,by omega,c1,hm⟩
 -- the same,read
 have A0:Ag [146,161] ({ WS.start vw with globals:=G,count:=(fs.length:Nat) }:WS) (WS.start vr):=by
  refine⟨fun o ho hn=>?_,rfl,rfl⟩
  simp only[places,List.mem_cons,List.not_mem_nil,or_false] at ho
  rcases ho with rfl | rfl | rfl | rfl | rfl | rfl | rfl | rfl | rfl | rfl | rfl<;>first | rfl | exact absurd (by simp) hn
 obtain⟨t1,e1,A1,-⟩:=rd_next (b:=b) (bs:=y.2.2) (br:=br) (rv:=rv) (F':=[161]) (by simp[places]) (by omega) p0 n1 hp1 (Or.inl ⟨by show 0≤G;omega,by show G.toNat<256 ^ 1;omega,by omega⟩) A0 (by simp)
 obtain⟨t2,e2,A2,-⟩:=rd_next (b:=b) (bs:=y.2.2) (br:=br) (rv:=rv) (F':=[]) (by simp[places]) (by omega) w1.2.pos n2 hp2 (Or.inl ⟨by show 0≤x1.1.count;omega,by show x1.1.count.toNat<256 ^ 2;omega,by omega⟩) A1 (by simp)
 have a1:x1.1.globals=t1.globals:=A1.out (o:=146) (by simp[places]) (by simp)
 have a2:x2.1.count=t2.count:=A2.out (o:=161) (by simp[places]) (by simp)
 have a3:x2.1.globals=t2.globals:=A2.out (o:=146) (by simp[places]) (by simp)
 obtain⟨t3,e3,A3⟩:=hs3 t2 w4 A2
 have A3':Ag (149::150::151::153::F6) x3.1 { t3 with funcs:=fv }:=⟨fun o ho hn=>A3.num o ho (by simp),A3.pos,A3.loc⟩
 obtain⟨t4,e4,A4⟩:=hs4 { t3 with funcs:=fv } (List.prefix_refl _) A3'
 have q1:askX (reading br rv y.2.2) 146 1 (fun s=>decide (0≤s.globals∧s.globals≤16)) 18 (WS.start vr,()) = .ok (t1,()):=ask_of_next (M:=reading br rv y.2.2) (c:=fun s=>decide (0≤s.globals∧s.globals≤16)) e1 (by show decide (0≤t1.globals∧t1.globals≤16)=true;rw[← a1,g1];exact decide_eq_true c1)
 have q2:askX (reading br rv y.2.2) 161 2 (fun s=>decide (1≤s.count∧s.count≤65535)) 20 (t1,()) = .ok (t2,()):=ask_of_next (M:=reading br rv y.2.2) (c:=fun s=>decide (1≤s.count∧s.count≤65535)) e2 (by show decide (1≤t2.count∧t2.count≤65535)=true;rw[← a2,k2];exact decide_eq_true c2)
 have et:t2.count.toNat=fs.length:=by rw[← a2,k2];simp
 have q3:headsX (reading br rv y.2.2) ((t2,()):WS × Unit).1.count.toNat (t2,()) = .ok (fs.map hd,(t3,())):=by
  show headsX (reading br rv y.2.2) t2.count.toNat (t2,())=_
  rw[et];exact e3
 have eho:headsOf (fs.map hd)=headsOfP fs:=by
  unfold headsOf headsOfP
  rw[List.map_map]
  rfl
 have q4:funcsX (reading br rv y.2.2) (headsOf (fs.map hd)) (fs.map hd) ({ t3 with funcs:=fv },()) = .ok (fs.map (fun f=>f.code.map ai),(t4,())):=by rw[eho];exact e4
 have body:bodyX br rv y.2.2 (WS.start vr) fv = .ok ((G,fs.map hd,fs.map (fun f=>f.code.map ai)),(t4,())):=by
  unfold bodyX
  refine(thenX_okT q1).trans ((thenX_okT q2).trans ((thenX_okT q3).trans ((thenX_okT q4).trans ?_)))
  show Except.ok ((t2.globals,fs.map hd,fs.map (fun f=>f.code.map ai)),(t4,()))=_
  rw[← a3,g2]
 rw[throughX_body]
 have hmag:y.2.2.take 6=magicL.take y.2.2.length:=by
  obtain⟨r,hr⟩:=hm
  rw[← hr]
  have:magicL.length=6:=rfl
  rw[List.take_append_of_le_length (by rw[this];exact Nat.le_refl _),List.take_of_length_le (by rw[this];exact Nat.le_refl _),List.take_of_length_le (by rw[List.length_append];omega)]
 rw[if_pos hmag,thenX_okT body]
 show(if t4.at'=(y.2.2.length:Nat) then _ else _)=_
 rw[if_pos (by rw[← A4.pos];exact p4.1)]
end Go.Proofs.YtingenonbkencaaDoor
