import Derived.Test.YtingenonbkencaaDoorQMnJ
import Derived.Test.YtingenonbkencaaDoorQN5J
import Derived.Test.YtingenonbkencaaDoorQW3J
import Derived.Test.YtingenonbkencaaDoorQD4J
import Derived.Test.YtingenonbkencaaDoorQA3J
set_option linter.unusedVariables false
set_option linter.unusedSimpArgs false
namespace Go.Proofs.YtingenonbkencaaDoor
open Go.RowKit (wrap32 wrap64)
section
variable {b:Nat} {rv:Value} {bs:List UInt8}
def N64 (z:Int):Prop:=-9223372036854775808≤z∧z<9223372036854775808
theorem n64_wrap (z:Int):N64 (wrap64 z):=by
 unfold N64
 rw[w64_eq]
 omega
def Nk (c:X (WS × Unit)):Prop:=∀ y,c = .ok y→N64 y.1.n
theorem Nk.then {c:X (WS × Unit)}{p:WS × Unit→X (WS × Unit)}(h:Nk c)(hp:∀ y,N64 y.1.n→Nk (p y)):Nk (thenX c p):=fun z hz=>by
 obtain⟨y,h1,h2⟩:=then_ok hz
 exact hp y (h y h1) z h2
theorem next_nk (o size:Nat)(x:WS × Unit)(hx:N64 x.1.n):Nk (nextX (reading b rv bs) o size x):=fun y hy=>by
 unfold nextX at hy
 split at hy
 ·rename_i v st he
  have hv:N64 v:=by
   have he:(match rd bs x.1.at'.toNat size with | .ok v=>.ok (v,()) | .error z=>.error z:X (Int × Unit)) = .ok (v,st):=he
   unfold rd at he
   split at he
   ·rename_i q hq
    split at hq
    ·have e1:=Except.ok.inj hq
     have e2:=(Prod.mk.inj (Except.ok.inj he)).1
     rw[← e2,← e1]
     exact n64_wrap _
    ·cases hq
   ·cases he
  have e:=(Except.ok.inj hy).symm
  rw[e]
  show N64 (x.1.set o v).n
  unfold WS.set
  repeat' split
  all_goals first | exact hx | exact hv
 ·cases hy
theorem ask_nk (o size:Nat)(c:WS→Bool)(er:Int)(x:WS × Unit)(hx:N64 x.1.n):Nk (askX (reading b rv bs) o size c er x):=fun y hy=>next_nk o size x hx y (ask_next hy).1
theorem parts_nk (op:Nat){c:X (WS × Unit)}(hc:Nk c):Nk (partsX (reading b rv bs) op c):=by
 have hv:∀ {c:X (WS × Unit)} (o:Nat),Nk c→Nk (thenX c (varPart (reading b rv bs) o)):=fun o h=>h.then (fun y hy=>ask_nk o 1 _ 13 y hy)
 have ha:∀ {c:X (WS × Unit)} (o size:Nat) (q:WS→Bool) (er:Int),Nk c→Nk (thenX c (askX (reading b rv bs) o size q er)):=fun o size q er h=>h.then (fun y hy=>ask_nk o size q er y hy)
 match op with
 | 1=>exact(hv 155 hc).then (fun y hy=>next_nk 158 8 y hy)
 | 2=>exact hv 156 (hv 155 hc)
 | 3=>exact hv 157 (hv 156 (hv 155 hc))
 | 4=>exact hv 157 (hv 156 (hv 155 hc))
 | 5=>exact hv 156 (hv 155 hc)
 | 6=>exact ha _ _ _ _ (hv 155 hc)
 | 7=>exact ha _ _ _ _ (hv 156 (hv 155 hc))
 | 8=>exact ha _ _ _ _ (hv 156 (hv 155 hc))
 | 9=>exact ha _ _ _ _ (hv 155 hc)
 | 10=>exact ha _ _ _ _ (hv 156 hc)
 | 12=>exact hv 156 hc
 | 13=>exact ha _ _ _ _ hc
 | 14=>exact ha _ _ _ _ (hv 156 hc)
 | 16=>exact hv 155 hc
 | 17=>exact hv 157 (hv 156 (hv 155 hc))
 | 0=>exact hc
 | 11=>exact hc
 | 15=>exact hc
 | m+18=>exact hc
theorem front_nk {ends makes nb:Bool}{i:Nat}{p:Int}{x:WS × Unit}(hx:N64 x.1.n):Nk (frontOk (reading b rv bs) ends makes nb i p x):=fun y hy=>by
 unfold frontOk at hy
 split at hy
 ·cases hy
 ·split at hy
  ·cases hy
  ·split at hy
   ·unfold locX at hy
    split at hy
    ·rw[← Except.ok.inj hy];exact hx
    ·cases hy
   ·rw[← Except.ok.inj hy];exact hx
theorem list_len {n:Nat}{x y:WS × Unit}{vs:List Int}(h:listX (reading b rv bs) n [] x = .ok (vs,y)):vs.length=n:=by
 unfold listX at h
 split at h
 ·cases h
 ·split at h
  ·rw[varsX_length h]
   split
   ·rename_i e;exact e
   ·simp
  ·cases h
def Fit (a:AI):Prop:=a.args.length≤8∧a.rets.length≤8∧N64 a.n
theorem instr_fit {heads:List (Nat × Nat)}{fR i:Nat}(hfR:fR≤4)(hhd:∀ k:Nat,(heads.getD k (0,0)).1≤8∧(heads.getD k (0,0)).2≤4){x y:WS × Unit}{ll:List Int × List Int}(hx:N64 x.1.n)(h:instrX (reading b rv bs) heads fR i x = .ok (ll,y)):Fit (aiOf ll y.1):=by
 obtain⟨y1,h1,h⟩:=then_ok h
 have n1:=next_nk 154 1 x hx y1 h1
 split at h
 ·split at h
  ·obtain⟨y2,h2,h⟩:=then_ok h
   have n2:=front_nk n1 y2 h2
   obtain⟨q,h3,h⟩:=then_ok h
   obtain⟨vs,y3⟩:=q
   have e:=Prod.mk.inj (Except.ok.inj h)
   obtain⟨e1,e2⟩:=e
   have hl:=list_len h3
   have hn:=listX_n h3
   subst e1
   have e2:y3=y:=e2
   subst e2
   exact⟨by show vs.length≤8;omega,by show([]:List Int).length≤8;simp,by show N64 y3.1.n;rw[hn];exact n2⟩
  ·split at h
   ·obtain⟨y2,h2,h⟩:=then_ok h
    have n2:N64 y2.1.n:=(Nk.then (c:=frontOk (reading b rv bs) false false true i x.1.at' y1) (front_nk n1) (fun y hy=>ask_nk _ _ _ _ y hy)) y2 h2
    obtain⟨q,h3,h⟩:=then_ok h
    obtain⟨vs,y3⟩:=q
    obtain⟨q',h4,h⟩:=then_ok h
    obtain⟨vs',y4⟩:=q'
    obtain⟨e1,e2⟩:=Prod.mk.inj (Except.ok.inj h)
    have hl:=list_len h3
    have hl':=list_len h4
    have hn:=listX_n h3
    have hn':=listX_n h4
    have hb:=hhd y2.1.n.toNat
    subst e1
    have e2:y4=y:=e2
    subst e2
    exact⟨by show vs.length≤8;omega,by show vs'.length≤8;omega,by show N64 y4.1.n;rw[hn',hn];exact n2⟩
   ·obtain⟨y2,h2,h⟩:=then_ok h
    have n2:=parts_nk _ (front_nk n1) y2 h2
    obtain⟨e1,e2⟩:=Prod.mk.inj (Except.ok.inj h)
    subst e1
    have e2:y2=y:=e2
    subst e2
    exact⟨by show([]:List Int).length≤8;simp,by show([]:List Int).length≤8;simp,n2⟩
 ·cases h
theorem code_fit {heads:List (Nat × Nat)}{fR len:Nat}(hfR:fR≤4)(hhd:∀ k:Nat,(heads.getD k (0,0)).1≤8∧(heads.getD k (0,0)).2≤4):∀ {m:Nat} {x y:WS × Unit} {l:List AI},codeX (reading b rv bs) heads fR len m x = .ok (l,y)→∀ a∈l,Fit a
 | 0,x,y,l,h=>by
   simp only[codeX,Except.ok.injEq,Prod.mk.injEq] at h
   rw[← (Prod.mk.inj h).1]
   simp
 | m+1,x,y,l,h=>by
   simp only[codeX] at h
   split at h
   ·cases h
   ·rename_i ll y1 h1
    split at h
    ·cases h
    ·rename_i l' y' h2
     have e:=(Prod.mk.inj (Except.ok.inj h)).1
     subst e
     intro a ha
     rcases List.mem_cons.1 ha with rfl | ha
     ·exact instr_fit hfR hhd (by show N64 0;unfold N64;omega) h1
     ·exact code_fit hfR hhd h2 a ha
theorem funcs_fit {heads:List (Nat × Nat)}(hhd:∀ k:Nat,(heads.getD k (0,0)).1≤8∧(heads.getD k (0,0)).2≤4):∀ {l:List HD} {x y:WS × Unit} {ls:List (List AI)},(∀ h∈l,HeadFine h)→funcsX (reading b rv bs) heads l x = .ok (ls,y)→ls.map List.length=l.map (fun h=>h.len.toNat)∧∀ c∈ls,∀ a∈c,Fit a
 | [],x,y,ls,_,h=>by
   simp only[funcsX,Except.ok.injEq,Prod.mk.injEq] at h
   rw[← (Prod.mk.inj h).1]
   exact⟨rfl,by simp⟩
 | h0::r,x,y,ls,hf,h=>by
   simp only[funcsX] at h
   split at h
   ·cases h
   ·rename_i l' y1 h1
    split at h
    ·cases h
    ·rename_i ls' y' h2
     have e:=(Prod.mk.inj (Except.ok.inj h)).1
     subst e
     have hh:=hf h0 (by simp)
     obtain⟨i1,i2⟩:=funcs_fit hhd (fun h' hm=>hf h' (by simp[hm])) h2
     refine⟨?_,?_⟩
     ·simp only[List.map_cons,i1,codeX_length h1]
     ·intro c hc
      rcases List.mem_cons.1 hc with rfl | hc
      ·exact code_fit (by have:=hh.2.2.1;omega) hhd h1
      ·exact i2 c hc
end
theorem through_fit {b:Nat}{rv fv:Value}{bs:List UInt8}{s:WS}{G:Int}{done:List HD}{ls:List (List AI)}(hd:∀ h∈done,HeadFine h)(h:throughX b rv bs s fv = .ok (G,done,ls)):ls.map List.length=done.map (fun h=>h.len.toNat)∧∀ c∈ls,∀ a∈c,Fit a:=by
 unfold throughX at h
 split at h
 ·split at h
  ·cases h
  ·split at h
   ·cases h
   ·split at h
    ·cases h
    ·rename_i done' y h4
     split at h
     ·cases h
     ·rename_i fs z h5
      split at h
      ·have e:=Except.ok.inj h
       obtain⟨e1,e2⟩:=Prod.mk.inj e
       obtain⟨e2,e3⟩:=Prod.mk.inj e2
       subst e2 e3
       refine funcs_fit (fun k=>?_) hd h5
       unfold headsOf
       rw[List.getD_eq_getElem?_getD,List.getElem?_map]
       cases hk:done'[k]? with
       | none=>simp
       | some q =>
         have:=hd q (List.mem_of_getElem? hk)
         simp only[Option.map_some,Option.getD_some]
         have h2:=this.2.1
         have h3:=this.2.2.1
         omega
      ·cases h
 ·cases h
def pfs (done:List HD)(ls:List (List AI)):List PF:=List.zipWith (fun h l=>(⟨h.P,h.R,h.V,l.map pi⟩:PF)) done ls
set_option maxRecDepth 100000
set_option maxHeartbeats 1000000
theorem dec_least : decX leastB = .ok (0,[⟨0,0,0,1⟩],[[⟨15,0,0,0,0,[],[]⟩]]):=by kernel_rfl
theorem eqInts_nil (a a':Option Addr)(c c':Nat)(w:World):Calls Tryd.prog 105 #[.slice a 0 c,.slice a' 0 c'] w fun e w'=>e = .returned (.bool true)∧w'=w:=by
 go_enter Tryd.func105,Tryd.ntmps105
 go_wp2_with fail
 go_loopw [5] (fun i wr=>i = .int .i64 0∧wr=w) (fun _ _=>0)
 case atStart=>exact⟨rfl,rfl⟩
 case round =>
  obtain⟨rfl,rfl⟩:=hrel
  go_wp2_with fail
  go_ret
  exact⟨rfl,rfl⟩
theorem eqInstr_1 (a5 a6 b5 b6:Option Addr)(c5 c6 d5 d6:Nat)(w:World):Calls Tryd.prog 102 #[.agg #[vI 15,vI 0,vI 0,vI 0,vI 0,.slice a5 0 c5,.slice a6 0 c6],.agg #[vI 15,vI 0,vI 0,vI 0,vI 0,.slice b5 0 d5,.slice b6 0 d6]] w fun e w'=>e = .returned (.bool true)∧Fr (fun _=>False) w w':=by
 go_enter Tryd.func102,Tryd.ntmps102
 go_wp2_with fail
 refine(eqInts_nil _ _ _ _ _).mono ?_
 rintro e w1 ⟨rfl,rfl⟩
 go_wp2_with fail
 refine(eqInts_nil _ _ _ _ _).mono ?_
 rintro e w1 ⟨rfl,rfl⟩
 go_wp2_with fail
 go_ret
 exact⟨rfl,Fr.alloc (Fr.alloc (Fr.refl _ w) _) _⟩
structure Lay1 (w:World)(v:Value)(fb cb:Nat)(fc cc:Nat):Prop where
 val:v = .agg #[vI 0,.slice (some ⟨fb,0,none⟩) 1 fc]
 f:w.cell? ⟨fb,0,none⟩=some (vI 0)∧w.cell? ⟨fb,1,none⟩=some (vI 0)∧w.cell? ⟨fb,2,none⟩=some (vI 0)∧w.cell? ⟨fb,3,none⟩=some (.slice (some ⟨cb,0,none⟩) 1 cc)
 c:w.cell? ⟨cb,0,none⟩=some (vI 15)∧w.cell? ⟨cb,1,none⟩=some (vI 0)∧w.cell? ⟨cb,2,none⟩=some (vI 0)∧w.cell? ⟨cb,3,none⟩=some (vI 0)∧w.cell? ⟨cb,4,none⟩=some (vI 0) ∧
  (∃ a n,w.cell? ⟨cb,5,none⟩=some (.slice a 0 n))∧∃ a n,w.cell? ⟨cb,6,none⟩=some (.slice a 0 n)
theorem Lay1.fr {w w':World}{v:Value}{fb cb fc cc:Nat}(h:Lay1 w v fb cb fc cc)(f:Fr (fun _=>False) w w'):Lay1 w' v fb cb fc cc:=by
 have h1:=cell_lt h.f.1
 have h2:=cell_lt h.c.1
 have e1:∀ o,w'.cell? ⟨fb,o,none⟩=w.cell? ⟨fb,o,none⟩:=fun o=>f.cell h1 (fun h=>h)
 have e2:∀ o,w'.cell? ⟨cb,o,none⟩=w.cell? ⟨cb,o,none⟩:=fun o=>f.cell h2 (fun h=>h)
 exact⟨h.val,by simp only[e1];exact h.f,by simp only[e2];exact h.c⟩
theorem eqCode_1 (w:World)(v v':Value)(fb cb fc cc fb' cb' fc' cc':Nat)(h:Lay1 w v fb cb fc cc)(h':Lay1 w v' fb' cb' fc' cc') :
 Calls Tryd.prog 95 #[.slice (some ⟨cb,0,none⟩) 1 cc,.slice (some ⟨cb',0,none⟩) 1 cc'] w fun e w'=>e = .returned (.bool true)∧Fr (fun _=>False) w w':=by
 go_enter Tryd.func95,Tryd.ntmps95
 go_wp2_with fail
 go_loopw [5] (fun i wr=>Fr (fun _=>False) w wr∧(i = .int .i64 0∨i = .int .i64 1)) (fun i _=>match i with | .int _ q=>1-q.toNat | _=>0)
 case atStart=>exact⟨Fr.refl _ _,Or.inl rfl⟩
 case round =>
  obtain⟨hfr,rfl | rfl⟩:=hrel
  ·have hr:=h.fr hfr
   have hr':=h'.fr hfr
   obtain⟨a0,a1,a2,a3,a4,⟨p5,n5,a5⟩,p6,n6,a6⟩:=hr.c
   obtain⟨b0,b1,b2,b3,b4,⟨q5,m5,b5⟩,q6,m6,b6⟩:=hr'.c
   have hx:=eqInstr_1 p5 p6 q5 q6 n5 n6 m5 m6 wr.drew
   clear hr hr'
   go_wp2_with fail
   refine wp_region_still_tail 8 mixed (by kernel_rfl) ?_
   simp only[List.take_succ_cons,List.take_zero,List.drop_succ_cons,List.drop_zero]
   repeat still_step
   refine wpStill_nil ?_
   go_wp2_with fail
   refine hx.mono ?_
   rintro e w1 ⟨rfl,hf⟩
   clear hx
   go_wp2_with fail
   exact⟨⟨hfr.drew.trans hf,Or.inr (by simp)⟩,by simp⟩
  ·go_wp2_with fail
   go_ret
   exact⟨rfl,hfr⟩
theorem eqFunc_1 (w:World)(v v':Value)(fb cb fc cc fb' cb' fc' cc':Nat)(h:Lay1 w v fb cb fc cc)(h':Lay1 w v' fb' cb' fc' cc') :
 Calls Tryd.prog 67 #[.agg #[vI 0,vI 0,vI 0,.slice (some ⟨cb,0,none⟩) 1 cc],.agg #[vI 0,vI 0,vI 0,.slice (some ⟨cb',0,none⟩) 1 cc']] w fun e w'=>e = .returned (.bool true)∧Fr (fun _=>False) w w':=by
 have hx:=eqCode_1 ((w.alloc (.cells #[vI 0,vI 0,vI 0,.slice (some ⟨cb,0,none⟩) 1 cc] 67)).alloc (.cells #[vI 0,vI 0,vI 0,.slice (some ⟨cb',0,none⟩) 1 cc'] 67)) v v' fb cb fc cc fb' cb' fc' cc' (h.fr (Fr.alloc (Fr.alloc (Fr.refl _ w) _) _)) (h'.fr (Fr.alloc (Fr.alloc (Fr.refl _ w) _) _))
 go_enter Tryd.func67,Tryd.ntmps67
 go_wp2_with fail
 refine hx.mono ?_
 rintro e w1 ⟨rfl,hf⟩
 go_wp2_with fail
 go_ret
 exact⟨rfl,(Fr.alloc (Fr.alloc (Fr.refl _ w) _) _).trans hf⟩
theorem eqFuncs_1 (w:World)(v v':Value)(fb cb fc cc fb' cb' fc' cc':Nat)(h:Lay1 w v fb cb fc cc)(h':Lay1 w v' fb' cb' fc' cc') :
 Calls Tryd.prog 40 #[.slice (some ⟨fb,0,none⟩) 1 fc,.slice (some ⟨fb',0,none⟩) 1 fc'] w fun e w'=>e = .returned (.bool true)∧Fr (fun _=>False) w w':=by
 go_enter Tryd.func40,Tryd.ntmps40
 go_wp2_with fail
 go_loopw [5] (fun i wr=>Fr (fun _=>False) w wr∧(i = .int .i64 0∨i = .int .i64 1)) (fun i _=>match i with | .int _ q=>1-q.toNat | _=>0)
 case atStart=>exact⟨Fr.refl _ _,Or.inl rfl⟩
 case round =>
  obtain⟨hfr,rfl | rfl⟩:=hrel
  ·have hr:=h.fr hfr
   have hr':=h'.fr hfr
   obtain⟨a0,a1,a2,a3⟩:=hr.f
   obtain⟨b0,b1,b2,b3⟩:=hr'.f
   have hx:=eqFunc_1 wr.drew v v' fb cb fc cc fb' cb' fc' cc' (hr.fr (Fr.refl _ _).drew) (hr'.fr (Fr.refl _ _).drew)
   clear hr hr'
   go_wp2_with fail
   refine wp_region_still_tail 8 mixed (by kernel_rfl) ?_
   simp only[List.take_succ_cons,List.take_zero,List.drop_succ_cons,List.drop_zero]
   repeat still_step
   refine wpStill_nil ?_
   go_wp2_with fail
   refine hx.mono ?_
   rintro e w1 ⟨rfl,hf⟩
   clear hx
   go_wp2_with fail
   exact⟨⟨hfr.drew.trans hf,Or.inr (by simp)⟩,by simp⟩
  ·go_wp2_with fail
   go_ret
   exact⟨rfl,hfr⟩
theorem eqProgram_1 (w:World)(v v':Value)(fb cb fc cc fb' cb' fc' cc':Nat)(h:Lay1 w v fb cb fc cc)(h':Lay1 w v' fb' cb' fc' cc') :
 Calls Tryd.prog 15 #[v,v'] w fun e w'=>e = .returned (.bool true)∧Fr (fun _=>False) w w':=by
 have hx:=eqFuncs_1 ((w.alloc (.cells #[vI 0,.slice (some ⟨fb,0,none⟩) 1 fc] 26)).alloc (.cells #[vI 0,.slice (some ⟨fb',0,none⟩) 1 fc'] 26)) v v' fb cb fc cc fb' cb' fc' cc' (h.fr (Fr.alloc (Fr.alloc (Fr.refl _ w) _) _)) (h'.fr (Fr.alloc (Fr.alloc (Fr.refl _ w) _) _))
 obtain⟨rfl,-,-⟩:=h
 obtain⟨rfl,-,-⟩:=h'
 go_enter Tryd.func15,Tryd.ntmps15
 go_wp2_with fail
 refine hx.mono ?_
 rintro e w1 ⟨rfl,hf⟩
 go_wp2_with fail
 go_ret
 exact⟨rfl,(Fr.alloc (Fr.alloc (Fr.refl _ w) _) _).trans hf⟩
theorem Least.lay {w:World}{fb cb:Nat}(h:Least w fb cb):Lay1 w (.agg #[vI 0,.slice (some ⟨fb,0,none⟩) 1 1]) fb cb 1 1:=by
 obtain⟨k0,k1,k2,k3,-⟩:=least_cells h
 obtain⟨c0,c1,c2,c3,c4,c5,c6,-⟩:=least_code h
 exact⟨rfl,⟨k0,k1,k2,k3⟩,⟨c0,c1,c2,c3,c4,⟨_,_,c5⟩,_,_,c6⟩⟩
theorem LaidP.lay {w0 w:World}{v:Value}(h:LaidP w0 w v 0 [⟨0,0,0,1⟩] [[⟨15,0,0,0,0,[],[]⟩]]):∃ fb cb fc cc,Lay1 w v fb cb fc cc:=by
 obtain⟨g,cap,cs,tl,h1,h2,h3,h4,h5,h6,h7,h8,h9⟩:=h
 match cs,h3,h8 with
 | [c],_,h8 =>
   obtain⟨gc,cells,k1,k2,k3,⟨av,rv,rest,k4,k5,k6,k7,-⟩,-⟩:=h8
   rw[show rest=[] from k7] at k4
   have e5:∃ a n,av = .slice a 0 n:=by
    rcases k5 with⟨-,e⟩|⟨g',-,e,h'⟩
    ·exact⟨none,0,e⟩
    ·exact⟨_,_,e⟩
   have e6:∃ a n,rv = .slice a 0 n:=by
    rcases k6 with⟨-,e⟩|⟨g',-,e,h'⟩
    ·exact⟨none,0,e⟩
    ·exact⟨_,_,e⟩
   obtain⟨p5,n5,rfl⟩:=e5
   obtain⟨p6,n6,rfl⟩:=e6
   subst k4 k2
   refine⟨g,gc,cap,1,h2,?_,?_⟩
   ·refine⟨?_,?_,?_,?_⟩<;>(unfold World.cell?;simp[h7,funcCells])
   ·refine⟨?_,?_,?_,?_,?_,⟨p5,n5,?_⟩,p6,n6,?_⟩<;>(unfold World.cell?;simp[k3])
set_option maxRecDepth 100000
set_option maxHeartbeats 1000000
theorem least_any (w:World):Calls Tryd.prog 28 #[] w fun e w'=>Fr (fun _=>False) w w'∧∃ fb cb,e = .returned (.agg #[vI 0,.slice (some ⟨fb,0,none⟩) 1 1])∧Least w' fb cb:=by
 go_enter Tryd.func28,Tryd.ntmps28
 go_wp2_with fail
 have hlast:∀ (v:World) (o:Obj) (n:Nat),v.heap.size=n→(v.alloc o).heap[n]?=some o:=fun v o n h=>by rw[← h];exact heap_alloc_last v o
 have hpast:∀ (v:World) (o:Obj) (n:Nat),n<v.heap.size→(v.alloc o).heap[n]?=v.heap[n]?:=fun v o n h=>Go.RowKit.Below.heap_alloc v o n h
 refine⟨rfl,.agg #[vI 0,.slice (some ⟨w.heap.size+2,0,none⟩) 1 1],?_,Fr.alloc (Fr.alloc (Fr.alloc (Fr.refl _ w) _) _) _,w.heap.size+2,w.heap.size+1,rfl,?_,?_⟩
 ·rw[results_cell (p:=0) (ty:=26) Tryd.results28]
  simp[go_sem]
 ·rw[hlast _ _ _ (by simp)]
 ·rw[hpast _ _ _ (by simp),hlast _ _ _ (by simp)]
theorem works_any (w:World)(hT:Tab w)(h0:0<w.heap.size):Calls Tryd.prog 9 #[] w fun e w'=>e = .returned (.bool true)∧Fr (fun _=>False) w w':=by
 go_enter Tryd.func9,Tryd.ntmps9
 go_wp2_with fail
 refine(least_any w).mono ?_
 rintro e w1 ⟨hf1,fb,cb,rfl,hl1⟩
 have hT1:Tab w1:=hT.fr hf1 (fun h=>h)
 have hs1:=hf1.size
 go_wp2_with fail
 refine(encode_least w1 fb cb hl1 hT1 (by omega)).mono ?_
 rintro e w2 ⟨⟨bv,rfl,hbh,a,c,rfl⟩,hf2⟩
 have hT2:Tab w2:=hT1.fr hf2 (fun h=>h)
 have hs2:=hf2.size
 clear hl1 hT1
 go_wp2_with fail
 refine(decode_said _ leastB w2 hbh hT2 (by omega)).mono ?_
 rintro e w3 ⟨hf3,hr3⟩
 rw[dec_least] at hr3
 obtain⟨v,rfl,hlp⟩:=hr3
 obtain⟨fb3,cb3,fc3,cc3,hy3⟩:=hlp.lay
 have hv:=hy3.val
 have hT3:Tab w3:=hT2.fr hf3 (fun h=>h)
 have hs3:=hf3.size
 clear hlp hbh hT2
 subst hv
 go_wp2_with fail
 have hf4:Fr (fun _=>False) w3 (w3.alloc (.cells #[vI 0,.slice (some ⟨fb3,0,none⟩) 1 fc3] 26)):=Fr.alloc (Fr.refl _ w3) _
 have hp4:(w3.alloc (.cells #[vI 0,.slice (some ⟨fb3,0,none⟩) 1 fc3] 26)).heap[w3.heap.size]?=some (.cells #[vI 0,.slice (some ⟨fb3,0,none⟩) 1 fc3] 26):=heap_alloc_last _ _
 have hy4:=hy3.fr hf4
 have hT4:=hT3.fr hf4 (fun h=>h)
 have hfw4:Fr (fun _=>False) w (w3.alloc (.cells #[vI 0,.slice (some ⟨fb3,0,none⟩) 1 fc3] 26)):=((hf1.trans hf2).trans hf3).trans hf4
 generalize (w3.alloc (.cells #[vI 0,.slice (some ⟨fb3,0,none⟩) 1 fc3] 26))=w4 at hf4 hp4 hy4 hT4 hfw4 ⊢
 generalize w3.heap.size=pq at hp4 ⊢
 have hpl:pq<w4.heap.size:=(Array.getElem?_eq_some_iff.1 hp4).1
 have p0:w4.cell? ⟨pq,0,none⟩=some (vI 0):=by unfold World.cell?;simp[hp4]
 have p1:w4.cell? ⟨pq,1,none⟩=some (.slice (some ⟨fb3,0,none⟩) 1 fc3):=by unfold World.cell?;simp[hp4]
 have HP:Hd (w4.heap[pq]?=some (.cells #[vI 0,.slice (some ⟨fb3,0,none⟩) 1 fc3] 26)):=hp4
 have HY:Hd (Lay1 w4 (.agg #[vI 0,.slice (some ⟨fb3,0,none⟩) 1 fc3]) fb3 cb3 fc3 cc3):=hy4
 clear hp4 hy4 hy3 hf3 hf2 hf1 hs1 hs2 hs3 hT3 hT h0 hf4
 have hfin:Hd (∀ w7,Fr (fun _=>False) w4 w7→Fr (fun _=>False) w w7∧Tab w7):=fun w7 h7=>⟨hfw4.trans h7,hT4.fr h7 (fun h=>h)⟩
 have h04:0<w4.heap.size:=by omega
 clear hfw4 hT4
 go_region_with ((
  first
   |(go_at_call 28
     refine(least_any _).mono ?_
     rintro e w5 ⟨hf5,fb5,cb5,rfl,hl5⟩
     have hf45:Fr (fun _=>False) w4 w5:=(Fr.refl _ w4).drew.trans hf5
     have k0:w5.cell? ⟨pq,0,none⟩=some (vI 0):=(hf45.cell hpl (fun h=>h)).trans p0
     have k1:w5.cell? ⟨pq,1,none⟩=some (.slice (some ⟨fb3,0,none⟩) 1 fc3):=(hf45.cell hpl (fun h=>h)).trans p1)
   |(go_at_call 15
     refine(eqProgram_1 _ _ _ fb3 cb3 fc3 cc3 fb5 cb5 1 1 (HY.out.fr hf45) hl5.lay).mono ?_
     rintro e w6 ⟨rfl,hf6⟩
     have hf46:Fr (fun _=>False) w4 w6:=hf45.trans hf6)))
 all_goals
  clear hf45 k0 k1 hl5 hf5 hf6
  have hs6:=hf46.size
  go_wp2_with fail
  refine(least_any w6).mono ?_
  rintro e w7 ⟨hf7,fb7,cb7,rfl,hl7⟩
  have hf47:=hf46.trans hf7
  have hs7:=hf7.size
  clear hf46 hf7
  go_wp2_with fail
  refine(check_least w7 fb7 cb7 hl7 (hfin.out w7 hf47).2 (by omega)).mono ?_
  rintro e w8 ⟨rfl,hf8⟩
  have hf48:=hf47.trans hf8
  have hs8:=hf8.size
  clear hf47 hf8 hl7
  go_wp2_with fail
  refine(least_any w8).mono ?_
  rintro e w9 ⟨hf9,fb9,cb9,rfl,hl9⟩
  have hf49:=hf48.trans hf9
  have hs9:=hf9.size
  clear hf48 hf9
  go_wp2_with fail
  refine(locations_least w9 fb9 cb9 hl9 (hfin.out w9 hf49).2 (by omega)).mono ?_
  rintro e w10 ⟨rfl,hf10⟩
  have hf410:=hf49.trans hf10
  clear hf49 hf10 hl9
  go_wp2_with fail
  go_ret
  exact⟨rfl,(hfin.out w10 hf410).1⟩
theorem owns_handed {w:World}{base:Nat}{rv:Value}{bs:List UInt8}(h:w.ownsRow base 5 1 rv bs.length (bs.map u8v))(hl:bs.length≤1000000000000000)(hnil:bs=[]→rv = .slice none 0 0):Handed w rv bs:=by
 refine⟨hl,?_⟩
 rcases h.2 with⟨e,e0⟩|⟨g,cap,cur,e,h1,h2,h3,h4,h5,h6⟩
 ·exact Or.inl ⟨List.length_eq_zero_iff.1 e0,e⟩
 ·by_cases hne:bs=[]
  ·exact Or.inl ⟨hne,hnil hne⟩
  ·refine Or.inr ⟨hne,g,0,cap,e,h3,(Array.getElem?_eq_some_iff.1 h2).1,fun i hi=>?_⟩
   have:=World.ownsRow.cells h (g:=g) (by rw[e];rfl) i (u8v bs[i]) (by simp[hi])
   rw[addr_add] at this
   rw[Nat.zero_add]
   exact this
end Go.Proofs.YtingenonbkencaaDoor
