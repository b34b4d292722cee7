import Derived.Test.YtdkijecnnmncnaaGreatDoorQKeJ
import Derived.Test.YtdkijecnnmncnaaGreatDoorQEdJ
set_option linter.unusedVariables false
set_option linter.unusedSimpArgs false
namespace Go.Proofs.YtdkijecnnmncnaaGreatDoor
open Go.RowKit (wrap32 wrap64)
def AGF (G V:Int)(fl:Nat)(p:Int × Int)(r:X (WS × Unit)):Prop:=match r with
 | .ok y=>p.2=0∧CorF G V fl y.1 p.1
 | .error z=>p.2=z.1∧z.1≠0
theorem AGF.cast {G V:Int}{fl:Nat}{p:Int × Int}{r q:X (WS × Unit)}(e:r=q)(h:AGF G V fl p q):AGF G V fl p r:=by rw[e];exact h
theorem code_agi {G V R:Int}{fl:Nat}(b:Nat)(fs:List PF)(hP:∀ f∈fs,0≤f.P∧0≤f.R)(hnf:fs.length≤65535)(hG0:0≤G)(hG1:G≤16)(hV0:0≤V)(hV1:V≤255)(hR:0≤R)(hfl:fl≤4096) :
 ∀ (cs:List PI) (i:Nat) (s:WS) (L:Int),CorF G V fl s L→0≤L→L+1≤1048576→i+cs.length=fl→AGF G V fl (rCode G fs R V fl i cs L 0) (codeP b (headsOfP fs) R.toNat i cs s)
 | [],i,s,L,hs,h0,h1,hi=>⟨rfl,hs⟩
 | c::cs,i,s,L,hs,h0,h1,hi=>by
   have hi':i<fl:=by simp at hi;omega
   have h:=instr_agi b fs hP hnf hG0 hG1 hV0 hV1 hR hfl c i hi' s hs h0 h1
   have hlow:Low (opL c.op L) (instrE G fs R V fl c ((i:Int)==(fl:Int)-1) L 0):=Low.instr h0
   obtain⟨r1,hr1⟩:∃ r1:X (WS × Unit),r1=instrL (b:=b) (headsOfP fs) R.toNat i c.args c.rets (inI c s):=⟨_,rfl⟩
   have h:AGI G V fl c (opL c.op L) (instrE G fs R V fl c ((i:Int)==(fl:Int)-1) L 0) r1:=by rw[hr1];exact h
   refine AGF.cast (q:=thenX r1 fun y=>codeP b (headsOfP fs) R.toNat (i+1) cs y.1) (by rw[hr1];rfl) ?_
   show AGF G V fl (rCode G fs R V fl (i+1) cs (opL c.op L) (instrE G fs R V fl c ((i:Int)==(fl:Int)-1) L 0)) _
   clear hr1
   cases r1 with
   | error z =>
     have h:instrE G fs R V fl c ((i:Int)==(fl:Int)-1) L 0=z.1∧z.1≠0:=h
     rw[rCode_ne _ _ _ _ _ _ _ _ (by rw[h.1];exact h.2)]
     exact h
   | ok y =>
     have h:instrE G fs R V fl c ((i:Int)==(fl:Int)-1) L 0=0∧Cor G V fl c y.1 (opL c.op L):=h
     rw[h.1] at hlow ⊢
     exact code_agi b fs hP hnf hG0 hG1 hV0 hV1 hR hfl cs (i+1) y.1 _ ⟨h.2.g,h.2.v,h.2.l,h.2.lo⟩ hlow.1 (hlow.2 rfl) (by simp at hi;omega)
def AG0 (G:Int)(p:Int × Int)(r:X (WS × Unit)):Prop:=match r with
 | .ok y=>p.2=0∧y.1.globals=G∧y.1.locs=p.1+1
 | .error z=>p.2=z.1∧z.1≠0
theorem AG0.cast {G:Int}{p:Int × Int}{r q:X (WS × Unit)}(e:r=q)(h:AG0 G p q):AG0 G p r:=by rw[e];exact h
theorem funcs_agi {G:Int}(b:Nat)(fs:List PF)(hP:∀ f∈fs,0≤f.P∧0≤f.R)(hnf:fs.length≤65535)(hG0:0≤G)(hG1:G≤16) :
 ∀ (l:List PF) (s:WS) (L:Int),(∀ f∈l,FineF f)→s.globals=G→s.locs=L+1→0≤L→L+1≤1048576→AG0 G (rFuncs G fs l L 0) (funcsP b (headsOfP fs) l s)
 | [],s,L,hf,hg,hs,h0,h1=>⟨rfl,hg,hs⟩
 | f::l,s,L,hf,hg,hs,h0,h1=>by
   have hff:=hf f List.mem_cons_self
   have h:=code_agi (V:=f.V) (R:=f.R) (fl:=f.code.length) b fs hP hnf hG0 hG1 hff.1.1 hff.1.2 hff.2.2.1.1 hff.2.2.2.2 f.code 0 (inF f s) L ⟨hg,rfl,rfl,hs⟩ h0 h1 (by omega)
   have hlow:=Low.code G fs f.R f.V f.code.length f.code 0 L 0 ⟨h0,fun _=>h1⟩
   show AG0 G (rFuncs G fs l (rCode G fs f.R f.V f.code.length 0 f.code L 0).1 (rCode G fs f.R f.V f.code.length 0 f.code L 0).2) (thenX (codeP b (headsOfP fs) f.R.toNat 0 f.code (inF f s)) fun y=>funcsP b (headsOfP fs) l y.1)
   generalize codeP b (headsOfP fs) f.R.toNat 0 f.code (inF f s)=r1 at h ⊢
   generalize rCode G fs f.R f.V f.code.length 0 f.code L 0=p at h hlow ⊢
   cases r1 with
   | error z =>
     have h:p.2=z.1∧z.1≠0:=h
     rw[rFuncs_ne _ _ _ _ (by rw[h.1];exact h.2)]
     exact h
   | ok y =>
     have h:p.2=0∧CorF G f.V f.code.length y.1 p.1:=h
     rw[h.1] at hlow ⊢
     exact funcs_agi b fs hP hnf hG0 hG1 l y.1 p.1 (fun x hx=>hf x (List.mem_cons_of_mem _ hx)) h.2.g h.2.lo hlow.1 (hlow.2 rfl)
theorem headOk_small (s:WS)(p:Int):headOk s p=if smallB s.fP s.fR s.fV&&decide (s.len≤4096) then (if 0<s.len then .ok () else .error (19,p)) else .error (20,p):=by
 unfold headOk
 by_cases h1:0≤s.fV∧s.fV≤255
 ·rw[if_neg (by simpa using h1)]
  by_cases h2:0≤s.fP∧s.fP≤(if s.fV<8 then s.fV else 8)
  ·rw[if_neg (fun h=>h h2)]
   have h2':0≤s.fP∧s.fP≤8∧s.fP≤s.fV:=by
    obtain⟨a,c⟩:=h2
    split at c<;>omega
   by_cases h3:0≤s.fR∧s.fR≤4
   ·rw[if_neg (fun h=>h h3)]
    by_cases h4:s.len≤4096
    ·rw[if_neg (fun h=>h h4)]
     rw[if_pos (show(smallB s.fP s.fR s.fV&&decide (s.len≤4096))=true by unfold smallB;simp;omega)]
     by_cases h5:0<s.len
     ·rw[if_neg (fun h=>h h5),if_pos h5]
     ·rw[if_pos h5,if_neg h5]
    ·rw[if_pos h4,if_neg (show ¬ (smallB s.fP s.fR s.fV&&decide (s.len≤4096))=true by simp;omega)]
   ·rw[if_pos h3,if_neg (show ¬ (smallB s.fP s.fR s.fV&&decide (s.len≤4096))=true by unfold smallB;simp;omega)]
  ·rw [if_pos h2,if_neg (show ¬ (smallB s.fP s.fR s.fV&&decide (s.len≤4096))=true by
    unfold smallB;simp
    intro a c d
    exfalso
    refine h2 ⟨a,?_⟩
    split<;>omega)]
 ·rw[if_pos (by simpa using h1),if_neg (show ¬ (smallB s.fP s.fR s.fV&&decide (s.len≤4096))=true by unfold smallB;simp;omega)]
theorem head_agi {G:Int}(b:Nat)(f:PF)(s:WS)(L:Int)(hg:s.globals=G)(hs:s.locs=L+1)(h0:0≤L)(h1:L+1≤1048576) :
 AG0 G (headL f.P f.R f.V f.code.length L 0,headE f.P f.R f.V f.code.length L 0) (headX (leaving b) (inF f s,())):=by
 have e:headX (leaving b) (inF f s,())=(thenX (headOk ({ inF f s with at':=adv (adv (adv (adv s.at' 1) 1) 1) 2 }) s.at') fun _=>locX (leaving b) f.V s.at' ({ inF f s with at':=adv (adv (adv (adv s.at' 1) 1) 1) 2 },()):X (WS × Unit)):=by
  refine(headX_then (leaving b) (inF f s,())).trans ?_
  rw[L_next]
  simp only[thenX]
  rw[L_next]
  simp only
  rw[L_next]
  simp only
  rw[L_next]
  rfl
 refine AG0.cast e ?_
 rw[headOk_small]
 show AG0 G _ (thenX (if (smallB f.P f.R f.V&&decide ((f.code.length:Int)≤4096))=true then (if 0<(f.code.length:Int) then .ok () else .error (19,s.at')) else .error (20,s.at')) _)
 by_cases hS:(smallB f.P f.R f.V&&decide ((f.code.length:Int)≤4096))=true
 ·rw[if_pos hS]
  by_cases hn:0<(f.code.length:Int)
  ·rw[if_pos hn]
   have e2:headE2 f.P f.R f.V f.code.length 0=0:=by
    unfold headE2
    rw[hS,mustE_yes,show decide ((1:Int)≤f.code.length)=true from decide_eq_true (by omega),mustE_yes]
   have e3:headL f.P f.R f.V f.code.length L 0=L+f.V:=by unfold headL;rw[if_pos e2]
   have hV:0≤f.V∧f.V≤255:=by
    have:=hS
    unfold smallB at this
    simp at this
    omega
   unfold headE
   rw[e2,e3]
   show AG0 G _ (locX (leaving b) f.V s.at' ({ inF f s with at':=adv (adv (adv (adv s.at' 1) 1) 1) 2 },()))
   unfold locX
   have e4:wrap64 ((({ inF f s with at':=adv (adv (adv (adv s.at' 1) 1) 1) 2 },()):WS × Unit).1.locs+f.V)=L+f.V+1:=by
    rw[show(({ inF f s with at':=adv (adv (adv (adv s.at' 1) 1) 1) 2 },()):WS × Unit).1.locs=s.locs from rfl,hs,w64 (by omega) (by omega)]
    omega
   rw[e4]
   by_cases hle:L+f.V+1≤1048576
   ·rw[if_pos hle,show decide (L+f.V+1≤1048576)=true by simpa using hle,mustE_yes]
    exact⟨rfl,hg,rfl⟩
   ·rw[if_neg hle,show decide (L+f.V+1≤1048576)=false by simpa using hle,mustE_no]
    exact⟨rfl,show(21:Int)≠0 by decide⟩
  ·rw[if_neg hn]
   have e2:headE2 f.P f.R f.V f.code.length 0=19:=by
    unfold headE2
    rw[hS,mustE_yes,show decide ((1:Int)≤f.code.length)=false from decide_eq_false (by omega),mustE_no]
   refine⟨?_,show(19:Int)≠0 by decide⟩
   show headE f.P f.R f.V f.code.length L 0=19
   unfold headE
   rw[e2,mustE_keep (E:=19) (by decide)]
 ·rw[if_neg hS]
  have e2:headE2 f.P f.R f.V f.code.length 0=20:=by
   unfold headE2
   rw[Bool.eq_false_iff.2 hS,mustE_no,mustE_keep (E:=20) (by decide)]
  refine⟨?_,show(20:Int)≠0 by decide⟩
  show headE f.P f.R f.V f.code.length L 0=20
  unfold headE
  rw[e2,mustE_keep (E:=20) (by decide)]
theorem heads_agi {G:Int}(b:Nat):∀ (l:List PF) (s:WS) (L:Int),s.globals=G→s.locs=L+1→0≤L→L+1≤1048576→AG0 G (rHeads l L 0) (headsP b l s)∧((rHeads l L 0).2=0→∀ f∈l,FineF f)
 | [],s,L,hg,hs,h0,h1=>⟨⟨rfl,hg,hs⟩,fun _ f hf=>by cases hf⟩
 | f::l,s,L,hg,hs,h0,h1=>by
   have h:=head_agi b f s L hg hs h0 h1
   have hlow:Low (headL f.P f.R f.V f.code.length L 0) (headE f.P f.R f.V f.code.length L 0):=Low.head h0
   obtain⟨r1,hr1⟩:∃ r1:X (WS × Unit),r1=headX (leaving b) (inF f s,()):=⟨_,rfl⟩
   have hfine:∀ y,r1 = .ok y→FineF f:=fun y hy=>head_fine (b:=b) (s:=inF f s) rfl rfl rfl rfl (hr1.symm.trans hy)
   have h:AG0 G (headL f.P f.R f.V f.code.length L 0,headE f.P f.R f.V f.code.length L 0) r1:=by rw[hr1];exact h
   have key:AG0 G (rHeads l (headL f.P f.R f.V f.code.length L 0) (headE f.P f.R f.V f.code.length L 0)) (thenX r1 fun y=>headsP b l y.1)∧((rHeads l (headL f.P f.R f.V f.code.length L 0) (headE f.P f.R f.V f.code.length L 0)).2=0→∀ x∈f::l,FineF x):=by
    clear hr1
    cases r1 with
    | error z =>
      have h:headE f.P f.R f.V f.code.length L 0=z.1∧z.1≠0:=h
      have hne:¬ headE f.P f.R f.V f.code.length L 0=0:=by rw[h.1];exact h.2
      rw[rHeads_ne _ _ hne]
      exact⟨h,fun hz=>absurd hz hne⟩
    | ok y =>
      have h:headE f.P f.R f.V f.code.length L 0=0∧y.1.globals=G∧y.1.locs=headL f.P f.R f.V f.code.length L 0+1:=h
      rw[h.1] at hlow ⊢
      obtain⟨k1,k2⟩:=heads_agi b l y.1 _ h.2.1 h.2.2 hlow.1 (hlow.2 rfl)
      refine⟨k1,fun hz x hx=>?_⟩
      rcases List.mem_cons.1 hx with rfl | hx
      ·exact hfine y rfl
      ·exact k2 hz x hx
   exact⟨AG0.cast (q:=thenX r1 fun y=>headsP b l y.1) (by rw[hr1];rfl) key.1,key.2⟩
theorem answer_agi (G:Int)(fs:List PF):AG0 G (rAll G fs) (answerP G fs):=by
 have eA:∀ er:Int,¬ er=0→rE1 G fs.length=er→rAll G fs=(0,er):=fun er he h=>by
  unfold rAll rHd
  rw[h,rHeads_ne _ _ he,rFuncs_ne _ _ _ _ he]
 obtain⟨s0,hs0⟩:∃ s0:WS,s0={ WS.start nilS with globals:=G,count:=(fs.length:Nat) }:=⟨_,rfl⟩
 have e0:answerP G fs=(thenX (if decide (0≤G∧G≤16) then .ok ({ s0 with at':=adv s0.at' 1 },()) else .error (18,s0.at')) fun y =>
  thenX (askX (leaving 0) 161 2 (fun s=>decide (1≤s.count∧s.count≤65535)) 20 y) fun y=>thenX (headsP 0 fs y.1) fun y=>funcsP 0 (headsOfP fs) fs y.1:X (WS × Unit)):=by
  unfold answerP overP
  rw[hs0]
  refine then_eq ?_ (fun y=>?_)
  ·exact L_ask (b:=0) 146 1 _ 18 _ ()
  ·rfl
 refine AG0.cast e0 ?_
 by_cases hG:0≤G∧G≤16
 ·rw[if_pos (by simpa using hG)]
  have r0:rE0 G=0:=by unfold rE0;rw[show(decide (0≤G)&&decide (G≤16))=true by simpa using hG,mustE_yes]
  refine AG0.cast (q:=thenX (if decide (1≤(fs.length:Int)∧(fs.length:Int)≤65535) then .ok ({ s0 with at':=adv (adv s0.at' 1) 2 },()) else .error (20,adv s0.at' 1)) fun y=>thenX (headsP 0 fs y.1) fun y=>funcsP 0 (headsOfP fs) fs y.1) ?_ ?_
  ·refine(show thenX (askX (leaving 0) 161 2 (fun s=>decide (1≤s.count∧s.count≤65535)) 20 ({ s0 with at':=adv s0.at' 1 },())) (fun y=>thenX (headsP 0 fs y.1) fun y=>funcsP 0 (headsOfP fs) fs y.1)=_ from ?_)
   refine then_eq ?_ (fun _=>rfl)
   have:=L_ask (b:=0) 161 2 (fun s=>decide (1≤s.count∧s.count≤65535)) 20 { s0 with at':=adv s0.at' 1 } ()
   refine this.trans ?_
   rw[hs0]
   rfl
  ·by_cases hn:1≤(fs.length:Int)∧(fs.length:Int)≤65535
   ·rw[if_pos (by simpa using hn)]
    have r1:rE1 G fs.length=0:=by unfold rE1;rw[r0,show(decide ((1:Int)≤fs.length)&&decide ((fs.length:Int)≤65535))=true by simpa using hn,mustE_yes]
    obtain⟨k1,k2⟩:=heads_agi (G:=G) 0 fs { s0 with at':=adv (adv s0.at' 1) 2 } 0 (by rw[hs0]) (by rw[hs0];rfl) (by omega) (by omega)
    have hlow:=Low.heads fs 0 0 (Low.zero 0)
    show AG0 G (rAll G fs) (thenX (headsP 0 fs { s0 with at':=adv (adv s0.at' 1) 2 }) fun y=>funcsP 0 (headsOfP fs) fs y.1)
    unfold rAll rHd
    rw[r1]
    generalize headsP 0 fs { s0 with at':=adv (adv s0.at' 1) 2 }=q1 at k1 ⊢
    generalize rHeads fs 0 0=p at k1 k2 hlow ⊢
    cases q1 with
    | error z =>
      have h:p.2=z.1∧z.1≠0:=k1
      rw[rFuncs_ne _ _ _ _ (by rw[h.1];exact h.2)]
      exact h
    | ok y =>
      have h:p.2=0∧y.1.globals=G∧y.1.locs=p.1+1:=k1
      have hf:=k2 h.1
      rw[h.1] at hlow ⊢
      exact funcs_agi 0 fs (fun f hx=>⟨(hf f hx).2.1.1,(hf f hx).2.2.1.1⟩) (by omega) hG.1 hG.2 fs y.1 p.1 hf h.2.1 h.2.2 hlow.1 (hlow.2 rfl)
   ·rw[if_neg (by simpa using hn)]
    have r1:rE1 G fs.length=20:=by unfold rE1;rw[r0,show(decide ((1:Int)≤fs.length)&&decide ((fs.length:Int)≤65535))=false by rw[Bool.eq_false_iff];simpa using hn,mustE_no]
    rw[eA 20 (by decide) r1]
    exact⟨rfl,show(20:Int)≠0 by decide⟩
 ·rw[if_neg (by simpa using hG)]
  have r0:rE0 G=18:=by unfold rE0;rw[show(decide (0≤G)&&decide (G≤16))=false by rw[Bool.eq_false_iff];simpa using hG,mustE_no]
  have r1:rE1 G fs.length=18:=by unfold rE1;rw[r0,mustE_keep (E:=18) (by decide)]
  rw[eA 18 (by decide) r1]
  exact⟨rfl,show(18:Int)≠0 by decide⟩
theorem checkP_eq (G:Int)(fs:List PF):checkP G fs=(rAll G fs).2:=by
 have h:=answer_agi G fs
 unfold checkP
 generalize answerP G fs=r at h ⊢
 cases r with
 | ok y=>exact h.1.symm
 | error z=>exact h.1.symm
def jmp : PI:=⟨13,0,0,0,0,[],[]⟩
def isH (n:Nat)(c:PI):Bool:=decide (c.op=11∧0≤c.n∧c.n<n)
def renI (n k:Nat)(c:PI):PI:=if c.op=11 then (if 0≤c.n∧c.n<n then { c with n:=(k:Int) } else { c with n:=-1 }) else c
def renC (n:Nat):Nat→List PI→List PI
 | _,[]=>[]
 | k,c::r=>renI n k c::renC n (k+(if isH n c then 1 else 0)) r
def hcnt (n:Nat)(l:List PI):Nat:=(l.filter (isH n)).length
def headF (fs:List PF)(c:PI):PF:={ fs.getD c.n.toNat ⟨0,0,0,[]⟩ with code:=[jmp] }
def headsF (fs:List PF)(cs:List PI):List PF:=(cs.filter (isH fs.length)).map (headF fs)
def aloneP (fs:List PF)(f:PF):List PF:={ f with code:=renC fs.length 1 f.code }::headsF fs f.code
theorem renC_len (n:Nat):∀ (k:Nat) (cs:List PI),(renC n k cs).length=cs.length
 | _,[]=>rfl
 | k,c::r=>by simp[renC,renC_len n _ r]
theorem renC_get (n:Nat):∀ (cs:List PI) (k j:Nat) (h:j<cs.length),(renC n k cs)[j]?=some (renI n (k+hcnt n (cs.take j)) cs[j])
 | c::r,k,0,_=>by simp[renC,hcnt]
 | c::r,k,j+1,h=>by
   have:=renC_get n r (k+(if isH n c then 1 else 0)) j (by simpa using h)
   simp only[renC,List.getElem?_cons_succ,this,List.getElem_cons_succ,List.take_succ_cons]
   congr 2
   unfold hcnt
   rw[List.filter_cons]
   split<;>simp<;>omega
def midC (n:Nat)(cs:List PI)(ps:List (Value × Value))(k:Nat):List CI:=List.zip ((renC n 1 cs).take k++cs.drop k) ps
theorem midC_len {n:Nat}{cs:List PI}{ps:List (Value × Value)}{k:Nat}(hp:ps.length=cs.length)(hk:k≤cs.length):(midC n cs ps k).length=cs.length:=by
 unfold midC
 rw[List.length_zip,List.length_append,List.length_take,List.length_drop,renC_len]
 omega
theorem midC_zero {n:Nat}{cs:List PI}{ps:List (Value × Value)}:midC n cs ps 0=List.zip cs ps:=by unfold midC;simp
theorem midC_end {n:Nat}{cs:List PI}{ps:List (Value × Value)}:midC n cs ps cs.length=List.zip (renC n 1 cs) ps:=by
 unfold midC
 rw[List.drop_length,List.append_nil,← renC_len n 1 cs,List.take_length]
theorem midC_get {n:Nat}{cs:List PI}{ps:List (Value × Value)}{k:Nat}(hp:ps.length=cs.length)(hk:k<cs.length):(midC n cs ps k)[k]?=some (cs[k],ps[k]'(by omega)):=by
 unfold midC
 rw[List.getElem?_zip_eq_some]
 refine⟨?_,List.getElem?_eq_getElem _⟩
 rw[List.getElem?_append_right (by rw[List.length_take,renC_len];omega),List.length_take,renC_len,Nat.min_eq_left (by omega),Nat.sub_self,List.getElem?_drop,Nat.add_zero]
 exact List.getElem?_eq_getElem hk
theorem midC_succ {n:Nat}{cs:List PI}{ps:List (Value × Value)}{k:Nat}(hp:ps.length=cs.length)(hk:k<cs.length):midC n cs ps (k+1)=(midC n cs ps k).set k (renI n (1+hcnt n (cs.take k)) cs[k],ps[k]'(by omega)):=by
 apply List.ext_getElem?
 intro j
 by_cases hj:j<cs.length
 ·have e:∀ m,m≤cs.length→((renC n 1 cs).take m++cs.drop m)[j]?=if j<m then (renC n 1 cs)[j]? else cs[j]?:=fun m hm=>by
   split
   ·rename_i h
    rw[List.getElem?_append_left (by rw[List.length_take,renC_len];omega),List.getElem?_take_of_lt h]
   ·rename_i h
    rw[List.getElem?_append_right (by rw[List.length_take,renC_len];omega),List.length_take,renC_len,Nat.min_eq_left (by omega),List.getElem?_drop,show m+(j-m)=j by omega]
  have hz:∀ m,m≤cs.length→(midC n cs ps m)[j]?=if j<m then some (renI n (1+hcnt n (cs.take j)) cs[j],ps[j]'(by omega)) else some (cs[j],ps[j]'(by omega)):=fun m hm=>by
   unfold midC
   split
   ·rename_i h
    rw[List.getElem?_zip_eq_some]
    refine⟨?_,List.getElem?_eq_getElem _⟩
    rw[e m hm,if_pos h,renC_get n cs 1 j hj]
   ·rename_i h
    rw[List.getElem?_zip_eq_some]
    refine⟨?_,List.getElem?_eq_getElem _⟩
    rw[e m hm,if_neg h]
    exact List.getElem?_eq_getElem hj
  rw[hz (k+1) (by omega),List.getElem?_set]
  by_cases hjk:k=j
  ·subst hjk
   rw[if_pos (by omega),if_pos rfl,if_pos (by rw[midC_len hp (by omega)];omega)]
  ·rw[if_neg hjk,hz k (by omega)]
   by_cases h1:j<k
   ·rw[if_pos h1,if_pos (by omega)]
   ·rw[if_neg h1,if_neg (by omega)]
 ·rw[List.getElem?_eq_none (by rw[midC_len hp (by omega)];omega),List.getElem?_eq_none (by rw[List.length_set,midC_len hp (by omega)];omega)]
theorem flat_set {α:Type}(row:α→List Value)(sz:Nat)(hr:∀ x,(row x).length=sz)(o:Nat)(ho:o<sz)(u:Value):∀ (L:List α) (i:Nat) (h:i<L.length) (y:α),row y=(row L[i]).set o u→(L.set i y).flatMap row=(L.flatMap row).set (i*sz+o) u
 | x::L,0,_,y,e=>by
   simp only[List.set_cons_zero,List.flatMap_cons,Nat.zero_mul,Nat.zero_add]
   rw[e,List.set_append_left _ _ (by rw[hr];exact ho)]
   rfl
 | x::L,i+1,h,y,e=>by
   simp only[List.set_cons_succ,List.flatMap_cons]
   rw[List.set_append_right _ _ (by rw[hr,Nat.add_mul];omega),hr,show(i+1)*sz+o-sz=i*sz+o by rw[Nat.add_mul];omega]
   rw[flat_set row sz hr o ho u L i (by simpa using h) y e]
theorem mustE_iff {ok:Bool}{e E:Int}(he:e≠0):mustE ok e E=0↔ok=true∧E=0 :=
 ⟨mustE_zero he,fun⟨h1,h2⟩=>by rw[h1,h2];rfl⟩
def InsOk (G:Int)(fs:List PF)(R V:Int)(fl:Nat)(c:PI)(last:Bool):Prop :=
 opB c.op=true∧plainB c.op c.r c.s c.t c.n c.args.length c.rets.length=true∧lastB last c.op=true∧∀ u∈(partsN c.op.toNat).toList,letE G fs R V fl c u 0=0
theorem fold_iff {G:Int}{fs:List PF}{R V:Int}{fl:Nat}{c:PI}:∀ (l:List UInt8) (E:Int),l.foldl (fun E u=>letE G fs R V fl c u E) E=0↔E=0∧∀ u∈l,letE G fs R V fl c u 0=0
 | [],E=>by simp
 | u::l,E=>by
   rw[List.foldl_cons,fold_iff l]
   constructor
   ·rintro⟨h1,h2⟩
    have e:=letE_zero h1
    subst e
    refine⟨rfl,fun x hx=>?_⟩
    rcases List.mem_cons.1 hx with rfl | hx
    ·exact h1
    ·exact h2 x hx
   ·rintro⟨rfl,h⟩
    exact⟨h u (List.mem_cons_self ..),fun x hx=>h x (List.mem_cons_of_mem _ hx)⟩
theorem instrE_iff {G:Int}{fs:List PF}{R V:Int}{fl:Nat}{c:PI}{last:Bool}{L:Int}:instrE G fs R V fl c last L 0=0↔InsOk G fs R V fl c last∧opL c.op L+1≤1048576:=by
 unfold instrE InsOk
 rw[fold_iff]
 unfold opE
 rw[mustE_iff (by decide),mustE_iff (by decide),mustE_iff (by decide),mustE_iff (by decide)]
 simp only[decide_eq_true_eq]
 constructor
 ·rintro⟨⟨h1,h2,h3,h4,-⟩,h5⟩
  exact⟨⟨h4,h3,h2,h5⟩,h1⟩
 ·rintro⟨⟨h4,h3,h2,h5⟩,h1⟩
  exact⟨⟨h1,h2,h3,h4,trivial⟩,h5⟩
def newsC : List PI→Int
 | []=>0
 | c::cs=>(if c.op=6 then 1 else 0)+newsC cs
theorem newsC_ge : ∀ cs,0≤newsC cs
 | []=>by simp[newsC]
 | c::cs=>by have:=newsC_ge cs;unfold newsC;split<;>omega
theorem opL_is (op L:Int):opL op L=L+(if op=6 then 1 else 0):=by unfold opL;split<;>omega
theorem rCode_iff {G:Int}{fs:List PF}{R V:Int}{fl:Nat}:∀ (cs:List PI) (i:Nat) (L:Int),L+1≤1048576 →
 ((rCode G fs R V fl i cs L 0).2=0↔(∀ j (h:j<cs.length),InsOk G fs R V fl cs[j] (((i+j:Nat):Int)==(fl:Int)-1))∧L+newsC cs+1≤1048576)∧((rCode G fs R V fl i cs L 0).2=0→(rCode G fs R V fl i cs L 0).1=L+newsC cs)
 | [],i,L,hL=>by simp[rCode,newsC];exact hL
 | c::cs,i,L,hL=>by
   have hn:=newsC_ge cs
   have hx:=@instrE_iff G fs R V fl c ((i:Int)==(fl:Int)-1) L
   have e1:rCode G fs R V fl i (c::cs) L 0=rCode G fs R V fl (i+1) cs (opL c.op L) (instrE G fs R V fl c ((i:Int)==(fl:Int)-1) L 0):=by simp[rCode]
   rw[e1]
   have eL:=opL_is c.op L
   have eN:newsC (c::cs)=(if c.op=6 then 1 else 0)+newsC cs:=rfl
   by_cases hz:instrE G fs R V fl c ((i:Int)==(fl:Int)-1) L 0=0
   ·rw[hz]
    obtain⟨h1,h2⟩:=hx.1 hz
    obtain⟨ih,ih2⟩:=rCode_iff cs (i+1) (opL c.op L) h2
    refine⟨?_,fun h=>by rw[ih2 h];omega⟩
    rw[ih]
    constructor
    ·rintro⟨k1,k2⟩
     refine⟨fun j hj=>?_,by omega⟩
     cases j with
     | zero=>exact h1
     | succ j =>
       have:=k1 j (by simpa using hj)
       rw[show i+(j+1)=i+1+j by omega]
       exact this
    ·rintro⟨k1,k2⟩
     refine⟨fun j hj=>?_,by omega⟩
     have:=k1 (j+1) (by simpa using hj)
     rw[show i+(j+1)=i+1+j by omega] at this
     exact this
   ·rw[rCode_ne _ _ _ _ _ _ _ _ hz]
    refine⟨⟨fun h=>absurd h hz,fun⟨k1,k2⟩=>absurd (hx.2 ⟨k1 0 (by simp),?_⟩) hz⟩,fun h=>absurd h hz⟩
    split at eL<;>omega
def HeadOk (P R V n:Int):Prop:=smallB P R V=true∧n≤4096∧1≤n
theorem HeadOk.V {P R V n:Int}(h:HeadOk P R V n):0≤V∧V≤255:=by
 have:=h.1
 unfold smallB at this
 simp at this
 omega
theorem headE2_iff {P R V n:Int}:headE2 P R V n 0=0↔HeadOk P R V n:=by
 unfold headE2 HeadOk
 rw[mustE_iff (by decide),mustE_iff (by decide)]
 simp only[decide_eq_true_eq,Bool.and_eq_true]
 constructor
 ·rintro⟨h1,⟨h2,h3⟩,-⟩;exact⟨h2,h3,h1⟩
 ·rintro⟨h2,h3,h1⟩;exact⟨h1,⟨h2,h3⟩,trivial⟩
theorem headE_iff {P R V n L:Int}:headE P R V n L 0=0↔HeadOk P R V n∧L+V+1≤1048576:=by
 unfold headE
 rw[mustE_iff (by decide),headE2_iff]
 simp only[decide_eq_true_eq]
 constructor
 ·rintro⟨h1,h2⟩
  unfold headL at h1
  rw[if_pos (headE2_iff.2 h2)] at h1
  exact⟨h2,h1⟩
 ·rintro⟨h2,h1⟩
  refine⟨?_,h2⟩
  unfold headL
  rw[if_pos (headE2_iff.2 h2)]
  exact h1
def sumV : List PF→Int
 | []=>0
 | f::fs=>f.V+sumV fs
theorem rHeads_iff : ∀ (hs:List PF) (L:Int),L+1≤1048576 →
 ((rHeads hs L 0).2=0↔(∀ h∈hs,HeadOk h.P h.R h.V h.code.length)∧L+sumV hs+1≤1048576)∧((rHeads hs L 0).2=0→(rHeads hs L 0).1=L+sumV hs)
 | [],L,hL=>by simp[rHeads,sumV];exact hL
 | f::hs,L,hL=>by
   have e1:rHeads (f::hs) L 0=rHeads hs (headL f.P f.R f.V f.code.length L 0) (headE f.P f.R f.V f.code.length L 0):=by simp[rHeads]
   rw[e1]
   have eN:sumV (f::hs)=f.V+sumV hs:=rfl
   by_cases hz:headE f.P f.R f.V f.code.length L 0=0
   ·rw[hz]
    obtain⟨h1,h2⟩:=headE_iff.1 hz
    have eL:headL f.P f.R f.V f.code.length L 0=L+f.V:=by unfold headL;rw[if_pos (headE2_iff.2 h1)]
    rw[eL]
    obtain⟨ih,ih2⟩:=rHeads_iff hs (L+f.V) h2
    refine⟨?_,fun h=>by rw[ih2 h];omega⟩
    rw[ih]
    constructor
    ·rintro⟨k1,k2⟩
     refine⟨fun h hh=>?_,by omega⟩
     rcases List.mem_cons.1 hh with rfl | hh
     ·exact h1
     ·exact k1 h hh
    ·rintro⟨k1,k2⟩
     exact⟨fun h hh=>k1 h (List.mem_cons_of_mem _ hh),by omega⟩
   ·rw[rHeads_ne _ _ hz]
    refine⟨⟨fun h=>absurd h hz,fun⟨k1,k2⟩=>absurd (headE_iff.2 ⟨k1 f (List.mem_cons_self ..),?_⟩) hz⟩,fun h=>absurd h hz⟩
    have:0≤sumV hs:=by
     clear k2 e1 eN
     have:∀ l:List PF,(∀ h∈l,HeadOk h.P h.R h.V h.code.length)→0≤sumV l:=by
      intro l
      induction l with
      | nil=>intro _;simp[sumV]
      | cons a l ih =>
        intro h
        have h1:=(h a (List.mem_cons_self ..)).V
        have h2:=ih (fun x hx=>h x (List.mem_cons_of_mem _ hx))
        unfold sumV
        omega
     exact this hs (fun h hh=>k1 h (List.mem_cons_of_mem _ hh))
    omega
theorem jmp_ok (G:Int)(fs:List PF)(R V:Int):InsOk G fs R V 1 jmp (((0+0:Nat):Int)==((1:Nat):Int)-1):=by
 refine⟨by decide,by decide,by decide,fun u hu=>?_⟩
 have:u=74:=by
  have h:(partsN jmp.op.toNat).toList=[74]:=by decide
  rw[h] at hu
  simpa using hu
 subst this
 rfl
theorem rFuncs_jmp {G:Int}{Q:List PF}:∀ (hs:List PF) (L:Int),L+1≤1048576→(∀ h∈hs,h.code=[jmp])→(rFuncs G Q hs L 0).2=0
 | [],L,_,_=>rfl
 | f::hs,L,hL,h=>by
   have e1:rFuncs G Q (f::hs) L 0=rFuncs G Q hs (rCode G Q f.R f.V f.code.length 0 f.code L 0).1 (rCode G Q f.R f.V f.code.length 0 f.code L 0).2:=by simp[rFuncs]
   rw[e1,h f (List.mem_cons_self ..)]
   obtain⟨h1,h2⟩:=@rCode_iff G Q f.R f.V 1 [jmp] 0 L hL
   have hz:(rCode G Q f.R f.V 1 0 [jmp] L 0).2=0:=h1.2 ⟨fun j hj=>by
    have:j=0:=by simpa using hj
    subst this
    exact jmp_ok G Q f.R f.V,by
    have:newsC [jmp]=0:=by decide
    rw[this];omega⟩
   show(rFuncs G Q hs (rCode G Q f.R f.V 1 0 [jmp] L 0).1 (rCode G Q f.R f.V 1 0 [jmp] L 0).2).2=0
   rw[hz,h2 hz]
   have:newsC [jmp]=0:=by decide
   rw[this]
   exact rFuncs_jmp hs _ (by omega) (fun x hx=>h x (List.mem_cons_of_mem _ hx))
theorem lets_call : ∀ k,k<18→∀ u∈(partsN k).toList,(u=65∨u=66∨u=70)→k=11:=by decide
theorem ins_same {G:Int}{fs Q:List PF}{R V:Int}{fl:Nat}{c:PI}{last:Bool}(h:c.op≠11):InsOk G Q R V fl c last↔InsOk G fs R V fl c last:=by
 have key:∀ u∈(partsN c.op.toNat).toList,letE G Q R V fl c u 0=letE G fs R V fl c u 0:=fun u hu=>by
  have hk:c.op.toNat<18:=by
   refine Nat.lt_of_not_le fun h18=>?_
   rw[partsN_big _ h18] at hu
   simp at hu
  have hne:¬ (u=65∨u=66∨u=70):=fun hu'=>by
   have:=lets_call _ hk u hu hu'
   omega
  have h1:¬ u=65:=fun e=>hne (Or.inl e)
  have h2:¬ u=66:=fun e=>hne (Or.inr (Or.inl e))
  have h3:¬ u=70:=fun e=>hne (Or.inr (Or.inr e))
  unfold letE
  simp only[if_neg h1,if_neg h2,if_neg h3]
 unfold InsOk
 constructor
 ·rintro⟨a,b,d,e⟩
  exact⟨a,b,d,fun u hu=>by rw[← key u hu];exact e u hu⟩
 ·rintro⟨a,b,d,e⟩
  exact⟨a,b,d,fun u hu=>by rw[key u hu];exact e u hu⟩
theorem plain11 (zr zs zt zn zn':Int)(la lr:Nat):plainB 11 zr zs zt zn la lr=plainB 11 zr zs zt zn' la lr:=by
 have e:tested (namesB 11)=[(43,false),(52,false),(62,false),(72,true),(81,true),(90,true)]:=by decide
 unfold plainB
 rw[e]
 simp only[List.all_cons,List.all_nil,Bool.or_true,Bool.or_false]
 rfl
theorem ins_call {G:Int}{fs Q:List PF}{R V:Int}{fl:Nat}{c:PI}{last:Bool}{n:Int}(h:c.op=11)(hl:numB 0 Q.length n=numB 0 fs.length c.n)(hP:numB 0 fs.length c.n=true→calleeP Q n=calleeP fs c.n)(hR:numB 0 fs.length c.n=true→calleeR Q n=calleeR fs c.n) :
 InsOk G Q R V fl { c with n:=n } last↔InsOk G fs R V fl c last:=by
 have hp:(partsN c.op.toNat).toList=[70,65,66]:=by rw[h];decide
 unfold InsOk
 simp only[hp]
 have hpl:plainB c.op c.r c.s c.t n c.args.length c.rets.length=plainB c.op c.r c.s c.t c.n c.args.length c.rets.length:=by rw[h];exact plain11 ..
 rw[hpl]
 have e70:letE G Q R V fl { c with n:=n } 70 0=letE G fs R V fl c 70 0:=by
  show mustE (numB 0 Q.length n) 14 0=mustE (numB 0 fs.length c.n) 14 0
  rw[hl]
 have hn:letE G fs R V fl c 70 0=0→numB 0 fs.length c.n=true:=fun e=>((mustE_iff (by decide)).1 (show mustE (numB 0 fs.length c.n) 14 0=0 from e)).1
 have e65:numB 0 fs.length c.n=true→letE G Q R V fl { c with n:=n } 65 0=letE G fs R V fl c 65 0:=fun hb=>by
  show listE (calleeP Q n) V c.args 0=listE (calleeP fs c.n) V c.args 0
  rw[hP hb]
 have e66:numB 0 fs.length c.n=true→letE G Q R V fl { c with n:=n } 66 0=letE G fs R V fl c 66 0:=fun hb=>by
  show listE (calleeR Q n) V c.rets 0=listE (calleeR fs c.n) V c.rets 0
  rw[hR hb]
 constructor
 ·rintro⟨a,b,d,e⟩
  have h70:letE G fs R V fl c 70 0=0:=by rw[← e70];exact e 70 (by simp)
  have hb:=hn h70
  refine⟨a,b,d,fun u hu=>?_⟩
  simp only[List.mem_cons,List.not_mem_nil,or_false] at hu
  rcases hu with rfl | rfl | rfl
  ·exact h70
  ·rw[← e65 hb];exact e 65 (by simp)
  ·rw[← e66 hb];exact e 66 (by simp)
 ·rintro⟨a,b,d,e⟩
  have h70:=e 70 (by simp)
  have hb:=hn h70
  refine⟨a,b,d,fun u hu=>?_⟩
  simp only[List.mem_cons,List.not_mem_nil,or_false] at hu
  rcases hu with rfl | rfl | rfl
  ·rw[e70];exact h70
  ·rw[e65 hb];exact e 65 (by simp)
  ·rw[e66 hb];exact e 66 (by simp)
theorem ins_numB {G:Int}{fs:List PF}{R V:Int}{fl:Nat}{c:PI}{last:Bool}(h:c.op=11)(hi:InsOk G fs R V fl c last):0≤c.n∧c.n<fs.length:=by
 have hp:(partsN c.op.toNat).toList=[70,65,66]:=by rw[h];decide
 have e:=hi.2.2.2 70 (by rw[hp];simp)
 have:=((mustE_iff (by decide)).1 (show mustE (numB 0 fs.length c.n) 14 0=0 from e)).1
 unfold numB at this
 simpa using this
theorem alone_get {fs:List PF}{f:PF}{j:Nat}(hj:j<f.code.length)(hH:isH fs.length f.code[j]=true):(aloneP fs f)[1+hcnt fs.length (f.code.take j)]?=some (headF fs f.code[j]):=by
 unfold aloneP headsF
 rw[show 1+hcnt fs.length (f.code.take j)=hcnt fs.length (f.code.take j)+1 by omega,List.getElem?_cons_succ,List.getElem?_map]
 have e:f.code=f.code.take j++f.code[j]::f.code.drop (j+1):=by
  rw[← List.drop_eq_getElem_cons hj,List.take_append_drop]
 have e2:(f.code.filter (isH fs.length))[hcnt fs.length (f.code.take j)]?=some f.code[j]:=by
  have e3:f.code.filter (isH fs.length)=(f.code.take j).filter (isH fs.length)++f.code[j]::(f.code.drop (j+1)).filter (isH fs.length):=by
   conv=>lhs;rw[e]
   rw[List.filter_append,List.filter_cons,if_pos hH]
  rw[e3]
  unfold hcnt
  rw[List.getElem?_append_right (Nat.le_refl _),Nat.sub_self]
  rfl
 rw[e2]
 rfl
theorem ren_iff {G:Int}{fs:List PF}{f:PF}{R V:Int}{fl j:Nat}{last:Bool}(hj:j<f.code.length):InsOk G (aloneP fs f) R V fl (renI fs.length (1+hcnt fs.length (f.code.take j)) f.code[j]) last↔InsOk G fs R V fl f.code[j] last:=by
 unfold renI
 by_cases h11:f.code[j].op=11
 ·rw[if_pos h11]
  by_cases hr:0≤f.code[j].n∧f.code[j].n<fs.length
  ·rw[if_pos hr]
   have hH:isH fs.length f.code[j]=true:=by unfold isH;simp;exact⟨h11,hr⟩
   have hg:=alone_get hj hH
   have hlt:1+hcnt fs.length (f.code.take j)<(aloneP fs f).length:=by
    rcases Nat.lt_or_ge (1+hcnt fs.length (f.code.take j)) (aloneP fs f).length with h | h
    ·exact h
    ·rw[List.getElem?_eq_none h] at hg;cases hg
   have hq:f.code[j].n.toNat<fs.length:=by omega
   refine ins_call h11 ?_ (fun _=>?_) (fun _=>?_)
   ·unfold numB
    rw[decide_eq_true (by omega),decide_eq_true (by omega),decide_eq_true hr.1,decide_eq_true hr.2]
   ·unfold calleeP
    rw[Int.toNat_natCast,hg]
    unfold headF
    simp[hq]
   ·unfold calleeR
    rw[Int.toNat_natCast,hg]
    unfold headF
    simp[hq]
  ·rw[if_neg hr]
   have hf:numB 0 fs.length f.code[j].n=false:=by
    unfold numB
    rw[Bool.and_eq_false_iff]
    simp only[decide_eq_false_iff_not]
    omega
   refine ins_call h11 ?_ (fun h=>by rw[hf] at h;cases h) (fun h=>by rw[hf] at h;cases h)
   rw[hf]
   rfl
 ·rw[if_neg h11]
  exact ins_same h11
theorem sumV_le : ∀ l:List PF,(∀ h∈l,HeadOk h.P h.R h.V h.code.length)→0≤sumV l∧sumV l≤255*l.length
 | [],_=>by simp[sumV]
 | a::l,h=>by
   have h1:=(h a (List.mem_cons_self ..)).V
   have h2:=sumV_le l (fun x hx=>h x (List.mem_cons_of_mem _ hx))
   simp only[sumV,List.length_cons]
   omega
theorem news_hcnt (n:Nat):∀ cs:List PI,newsC cs+hcnt n cs≤cs.length
 | []=>by simp[newsC,hcnt]
 | c::cs=>by
   have ih:=news_hcnt n cs
   unfold hcnt at ih ⊢
   unfold newsC
   rw[List.filter_cons]
   by_cases h6:c.op=6
   ·have:isH n c=false:=by unfold isH;simp;omega
    rw[if_pos h6,this]
    simp
    omega
   ·rw[if_neg h6]
    split<;>simp<;>omega
theorem news_ren (n:Nat):∀ (cs:List PI) (k:Nat),newsC (renC n k cs)=newsC cs
 | [],_=>rfl
 | c::cs,k=>by
   have e:(renI n k c).op=c.op:=by
    unfold renI
    split
    ·split<;>rfl
    ·rfl
   simp only[renC,newsC,e,news_ren n cs]
def AloneOk (G:Int)(fs:List PF)(f:PF):Prop:=(0≤G∧G≤16)∧HeadOk f.P f.R f.V f.code.length∧∀ j (h:j<f.code.length),InsOk G fs f.R f.V f.code.length f.code[j] ((j:Int)==(f.code.length:Int)-1)∧(f.code[j].op=11→∀ g,fs[f.code[j].n.toNat]?=some g→HeadOk g.P g.R g.V 1)
theorem alone_iff (G:Int)(fs:List PF)(f:PF):checkP G (aloneP fs f)=0↔AloneOk G fs f:=by
 rw[checkP_eq]
 have hlen:(aloneP fs f).length=1+hcnt fs.length f.code:=by unfold aloneP headsF hcnt;simp;omega
 have hnh:=news_hcnt fs.length f.code
 have hng:=newsC_ge f.code
 have eF:∀ L,rFuncs G (aloneP fs f) (aloneP fs f) L 0=rFuncs G (aloneP fs f) (headsF fs f.code) (rCode G (aloneP fs f) f.R f.V f.code.length 0 (renC fs.length 1 f.code) L 0).1 (rCode G (aloneP fs f) f.R f.V f.code.length 0 (renC fs.length 1 f.code) L 0).2:=fun L=>by
  conv=>lhs;unfold aloneP
  simp only[rFuncs,if_pos,renC_len]
  rfl
 have hjm:∀ h∈headsF fs f.code,h.code=[jmp]:=fun h hh=>by
  unfold headsF at hh
  obtain⟨c,-,rfl⟩:=List.mem_map.1 hh
  rfl
 have eHd:∀ {h},h∈aloneP fs f↔h={ f with code:=renC fs.length 1 f.code }∨h∈headsF fs f.code:=fun {h}=>List.mem_cons
 have hIns:(∀ j (h:j<(renC fs.length 1 f.code).length),InsOk G (aloneP fs f) f.R f.V f.code.length (renC fs.length 1 f.code)[j] (((0+j:Nat):Int)==(f.code.length:Int)-1))↔∀ j (h:j<f.code.length),InsOk G fs f.R f.V f.code.length f.code[j] ((j:Int)==(f.code.length:Int)-1):=by
  have e:∀ j (h:j<f.code.length) (h':j<(renC fs.length 1 f.code).length),(renC fs.length 1 f.code)[j]=renI fs.length (1+hcnt fs.length (f.code.take j)) f.code[j]:=fun j h h'=>by
   have:=renC_get fs.length f.code 1 j h
   rw[List.getElem?_eq_getElem h'] at this
   exact Option.some.inj this
  constructor
  ·intro h j hj
   have hj':j<(renC fs.length 1 f.code).length:=by rw[renC_len];exact hj
   have:=h j hj'
   rw[e j hj hj',ren_iff hj,Nat.zero_add] at this
   exact this
  ·intro h j hj'
   have hj:j<f.code.length:=by rw[renC_len] at hj';exact hj'
   rw[e j hj hj',ren_iff hj,Nat.zero_add]
   exact h j hj
 have hHs:(∀ h∈aloneP fs f,HeadOk h.P h.R h.V h.code.length)↔HeadOk f.P f.R f.V f.code.length∧∀ h∈headsF fs f.code,HeadOk h.P h.R h.V 1:=by
  constructor
  ·intro h
   refine⟨?_,fun x hx=>?_⟩
   ·have:=h { f with code:=renC fs.length 1 f.code } (eHd.2 (Or.inl rfl))
    have e:((renC fs.length 1 f.code).length:Int)=f.code.length:=by rw[renC_len]
    rw[e] at this
    exact this
   ·have:=h x (eHd.2 (Or.inr hx))
    rw[hjm x hx] at this
    exact this
  ·rintro⟨h1,h2⟩ x hx
   rcases eHd.1 hx with rfl | hx
   ·show HeadOk f.P f.R f.V ((renC fs.length 1 f.code).length:Nat)
    rw[renC_len]
    exact h1
   ·rw[hjm x hx]
    exact h2 x hx
 have hE1:rE1 G (aloneP fs f).length=0↔(0≤G∧G≤16)∧(aloneP fs f).length≤65535:=by
  unfold rE1 rE0
  rw[mustE_iff (by decide),mustE_iff (by decide)]
  simp only[Bool.and_eq_true,decide_eq_true_eq,and_true]
  rw[hlen]
  constructor
  ·rintro⟨⟨-,h2⟩,h3⟩;exact⟨h3,by omega⟩
  ·rintro⟨h3,h2⟩;exact⟨⟨by omega,by omega⟩,h3⟩
 unfold rAll rHd
 by_cases he:rE1 G (aloneP fs f).length=0
 ·obtain⟨hG,hn⟩:=hE1.1 he
  rw[he]
  obtain⟨r1,r2⟩:=rHeads_iff (aloneP fs f) 0 (by omega)
  by_cases hz:(rHeads (aloneP fs f) 0 0).2=0
  ·obtain⟨q1,q2⟩:=r1.1 hz
   rw[hz,r2 hz,eF]
   obtain⟨c1,c2⟩:=@rCode_iff G (aloneP fs f) f.R f.V f.code.length (renC fs.length 1 f.code) 0 (0+sumV (aloneP fs f)) q2
   obtain⟨p1,p2⟩:=hHs.1 q1
   have hc4:=p1.2.1
   have hsv:=(sumV_le _ q1).2
   rw[hlen] at hsv
   rw[news_ren] at c1 c2
   have hb:0+sumV (aloneP fs f)+newsC f.code+1≤1048576:=by omega
   constructor
   ·intro h
    have hcz:(rCode G (aloneP fs f) f.R f.V f.code.length 0 (renC fs.length 1 f.code) (0+sumV (aloneP fs f)) 0).2=0:=by
     refine Classical.byContradiction fun hne=>?_
     rw[rFuncs_ne _ _ _ _ hne] at h
     exact hne h
    have hi:=hIns.1 (c1.1 hcz).1
    refine⟨hG,p1,fun j hj=>⟨hi j hj,fun h11 g hg=>?_⟩⟩
    obtain⟨n1,n2⟩:=ins_numB h11 (hi j hj)
    have hq:f.code[j].n.toNat<fs.length:=by omega
    have:=p2 (headF fs f.code[j]) (List.mem_map.2 ⟨f.code[j],List.mem_filter.2 ⟨List.getElem_mem hj,by unfold isH;simp;exact⟨h11,n1,n2⟩⟩,rfl⟩)
    rw[List.getElem?_eq_getElem hq] at hg
    have hg:=Option.some.inj hg
    unfold headF at this
    simp[hq,hg] at this
    exact this
   ·rintro⟨-,-,h⟩
    have hcz:=c1.2 ⟨hIns.2 (fun j hj=>(h j hj).1),hb⟩
    rw[hcz,c2 hcz]
    exact rFuncs_jmp _ _ hb hjm
  ·rw[rFuncs_ne _ _ _ _ hz]
   refine⟨fun h=>absurd h hz,fun⟨_,p1,h⟩=>absurd (r1.2 ?_) hz⟩
   have hq:∀ h∈aloneP fs f,HeadOk h.P h.R h.V h.code.length:=hHs.2 ⟨p1,fun x hx=>by
    unfold headsF at hx
    obtain⟨c,hc,rfl⟩:=List.mem_map.1 hx
    obtain⟨hc1,hc2⟩:=List.mem_filter.1 hc
    unfold isH at hc2
    simp at hc2
    obtain⟨j,hj,rfl⟩:=List.mem_iff_getElem.1 hc1
    have hqn:f.code[j].n.toNat<fs.length:=by omega
    have:=(h j hj).2 hc2.1 fs[f.code[j].n.toNat] (List.getElem?_eq_getElem hqn)
    unfold headF
    simp[hqn]
    exact this⟩
   have hsv:=(sumV_le _ hq).2
   rw[hlen] at hsv
   have hc4:=p1.2.1
   exact⟨hq,by omega⟩
 ·rw[rHeads_ne _ _ he,rFuncs_ne _ _ _ _ he]
  refine⟨fun h=>absurd h he,fun⟨hG,p1,h⟩=>absurd (hE1.2 ⟨hG,?_⟩) he⟩
  have hc4:=p1.2.1
  rw[hlen]
  omega
end Go.Proofs.YtdkijecnnmncnaaGreatDoor
