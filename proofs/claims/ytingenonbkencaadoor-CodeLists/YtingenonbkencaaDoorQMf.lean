import Derived.Test.YtingenonbkencaaDoorQLzJ
set_option linter.unusedVariables false
set_option linter.unusedSimpArgs false
namespace Go.Proofs.YtingenonbkencaaDoor
open Go.RowKit (wrap32 wrap64)
def AGF (G V:Int)(fl:Nat)(p:Int × Int)(r:X (WS × Unit)):Prop:=match r with
 | .ok y=>p.2=0∧CorF G V fl y.1 p.1
 | .error z=>p.2=z.1∧z.1≠0
theorem AGF.cast {G V:Int}{fl:Nat}{p:Int × Int}{r q:X (WS × Unit)}(e:r=q)(h:AGF G V fl p q):AGF G V fl p r:=by rw[e];exact h
theorem code_agi {G V R:Int}{fl:Nat}(b:Nat)(fs:List PF)(hP:∀ f∈fs,0≤f.P∧0≤f.R)(hnf:fs.length≤65535)(hG0:0≤G)(hG1:G≤16)(hV0:0≤V)(hV1:V≤255)(hR:0≤R)(hfl:fl≤4096) :
 ∀ (cs:List PI) (i:Nat) (s:WS) (L:Int),CorF G V fl s L→0≤L→L+1≤1048576→i+cs.length=fl→AGF G V fl (rCode G fs R V fl i cs L 0) (codeP b (headsOfP fs) R.toNat i cs s)
 | [],i,s,L,hs,h0,h1,hi=>⟨rfl,hs⟩
 | c::cs,i,s,L,hs,h0,h1,hi=>by
   have hi':i<fl:=by simp at hi;omega
   have h:=instr_agi b fs hP hnf hG0 hG1 hV0 hV1 hR hfl c i hi' s hs h0 h1
   have hlow:Low (opL c.op L) (instrE G fs R V fl c ((i:Int)==(fl:Int)-1) L 0):=Low.instr h0
   obtain⟨r1,hr1⟩:∃ r1:X (WS × Unit),r1=instrL (b:=b) (headsOfP fs) R.toNat i c.args c.rets (inI c s):=⟨_,rfl⟩
   have h:AGI G V fl c (opL c.op L) (instrE G fs R V fl c ((i:Int)==(fl:Int)-1) L 0) r1:=by rw[hr1];exact h
   refine AGF.cast (q:=thenX r1 fun y=>codeP b (headsOfP fs) R.toNat (i+1) cs y.1) (by rw[hr1];rfl) ?_
   show AGF G V fl (rCode G fs R V fl (i+1) cs (opL c.op L) (instrE G fs R V fl c ((i:Int)==(fl:Int)-1) L 0)) _
   clear hr1
   cases r1 with
   | error z =>
     have h:instrE G fs R V fl c ((i:Int)==(fl:Int)-1) L 0=z.1∧z.1≠0:=h
     rw[rCode_ne _ _ _ _ _ _ _ _ (by rw[h.1];exact h.2)]
     exact h
   | ok y =>
     have h:instrE G fs R V fl c ((i:Int)==(fl:Int)-1) L 0=0∧Cor G V fl c y.1 (opL c.op L):=h
     rw[h.1] at hlow ⊢
     exact code_agi b fs hP hnf hG0 hG1 hV0 hV1 hR hfl cs (i+1) y.1 _ ⟨h.2.g,h.2.v,h.2.l,h.2.lo⟩ hlow.1 (hlow.2 rfl) (by simp at hi;omega)
def AG0 (G:Int)(p:Int × Int)(r:X (WS × Unit)):Prop:=match r with
 | .ok y=>p.2=0∧y.1.globals=G∧y.1.locs=p.1+1
 | .error z=>p.2=z.1∧z.1≠0
theorem AG0.cast {G:Int}{p:Int × Int}{r q:X (WS × Unit)}(e:r=q)(h:AG0 G p q):AG0 G p r:=by rw[e];exact h
theorem funcs_agi {G:Int}(b:Nat)(fs:List PF)(hP:∀ f∈fs,0≤f.P∧0≤f.R)(hnf:fs.length≤65535)(hG0:0≤G)(hG1:G≤16) :
 ∀ (l:List PF) (s:WS) (L:Int),(∀ f∈l,FineF f)→s.globals=G→s.locs=L+1→0≤L→L+1≤1048576→AG0 G (rFuncs G fs l L 0) (funcsP b (headsOfP fs) l s)
 | [],s,L,hf,hg,hs,h0,h1=>⟨rfl,hg,hs⟩
 | f::l,s,L,hf,hg,hs,h0,h1=>by
   have hff:=hf f List.mem_cons_self
   have h:=code_agi (V:=f.V) (R:=f.R) (fl:=f.code.length) b fs hP hnf hG0 hG1 hff.1.1 hff.1.2 hff.2.2.1.1 hff.2.2.2.2 f.code 0 (inF f s) L ⟨hg,rfl,rfl,hs⟩ h0 h1 (by omega)
   have hlow:=Low.code G fs f.R f.V f.code.length f.code 0 L 0 ⟨h0,fun _=>h1⟩
   show AG0 G (rFuncs G fs l (rCode G fs f.R f.V f.code.length 0 f.code L 0).1 (rCode G fs f.R f.V f.code.length 0 f.code L 0).2) (thenX (codeP b (headsOfP fs) f.R.toNat 0 f.code (inF f s)) fun y=>funcsP b (headsOfP fs) l y.1)
   generalize codeP b (headsOfP fs) f.R.toNat 0 f.code (inF f s)=r1 at h ⊢
   generalize rCode G fs f.R f.V f.code.length 0 f.code L 0=p at h hlow ⊢
   cases r1 with
   | error z =>
     have h:p.2=z.1∧z.1≠0:=h
     rw[rFuncs_ne _ _ _ _ (by rw[h.1];exact h.2)]
     exact h
   | ok y =>
     have h:p.2=0∧CorF G f.V f.code.length y.1 p.1:=h
     rw[h.1] at hlow ⊢
     exact funcs_agi b fs hP hnf hG0 hG1 l y.1 p.1 (fun x hx=>hf x (List.mem_cons_of_mem _ hx)) h.2.g h.2.lo hlow.1 (hlow.2 rfl)
theorem headOk_small (s:WS)(p:Int):headOk s p=if smallB s.fP s.fR s.fV&&decide (s.len≤4096) then (if 0<s.len then .ok () else .error (19,p)) else .error (20,p):=by
 unfold headOk
 by_cases h1:0≤s.fV∧s.fV≤255
 ·rw[if_neg (by simpa using h1)]
  by_cases h2:0≤s.fP∧s.fP≤(if s.fV<8 then s.fV else 8)
  ·rw[if_neg (fun h=>h h2)]
   have h2':0≤s.fP∧s.fP≤8∧s.fP≤s.fV:=by
    obtain⟨a,c⟩:=h2
    split at c<;>omega
   by_cases h3:0≤s.fR∧s.fR≤4
   ·rw[if_neg (fun h=>h h3)]
    by_cases h4:s.len≤4096
    ·rw[if_neg (fun h=>h h4)]
     rw[if_pos (show(smallB s.fP s.fR s.fV&&decide (s.len≤4096))=true by unfold smallB;simp;omega)]
     by_cases h5:0<s.len
     ·rw[if_neg (fun h=>h h5),if_pos h5]
     ·rw[if_pos h5,if_neg h5]
    ·rw[if_pos h4,if_neg (show ¬ (smallB s.fP s.fR s.fV&&decide (s.len≤4096))=true by simp;omega)]
   ·rw[if_pos h3,if_neg (show ¬ (smallB s.fP s.fR s.fV&&decide (s.len≤4096))=true by unfold smallB;simp;omega)]
  ·rw [if_pos h2,if_neg (show ¬ (smallB s.fP s.fR s.fV&&decide (s.len≤4096))=true by
    unfold smallB;simp
    intro a c d
    exfalso
    refine h2 ⟨a,?_⟩
    split<;>omega)]
 ·rw[if_pos (by simpa using h1),if_neg (show ¬ (smallB s.fP s.fR s.fV&&decide (s.len≤4096))=true by unfold smallB;simp;omega)]
theorem head_agi {G:Int}(b:Nat)(f:PF)(s:WS)(L:Int)(hg:s.globals=G)(hs:s.locs=L+1)(h0:0≤L)(h1:L+1≤1048576) :
 AG0 G (headL f.P f.R f.V f.code.length L 0,headE f.P f.R f.V f.code.length L 0) (headX (leaving b) (inF f s,())):=by
 have e:headX (leaving b) (inF f s,())=(thenX (headOk ({ inF f s with at':=adv (adv (adv (adv s.at' 1) 1) 1) 2 }) s.at') fun _=>locX (leaving b) f.V s.at' ({ inF f s with at':=adv (adv (adv (adv s.at' 1) 1) 1) 2 },()):X (WS × Unit)):=by
  refine(headX_then (leaving b) (inF f s,())).trans ?_
  rw[L_next]
  simp only[thenX]
  rw[L_next]
  simp only
  rw[L_next]
  simp only
  rw[L_next]
  rfl
 refine AG0.cast e ?_
 rw[headOk_small]
 show AG0 G _ (thenX (if (smallB f.P f.R f.V&&decide ((f.code.length:Int)≤4096))=true then (if 0<(f.code.length:Int) then .ok () else .error (19,s.at')) else .error (20,s.at')) _)
 by_cases hS:(smallB f.P f.R f.V&&decide ((f.code.length:Int)≤4096))=true
 ·rw[if_pos hS]
  by_cases hn:0<(f.code.length:Int)
  ·rw[if_pos hn]
   have e2:headE2 f.P f.R f.V f.code.length 0=0:=by
    unfold headE2
    rw[hS,mustE_yes,show decide ((1:Int)≤f.code.length)=true from decide_eq_true (by omega),mustE_yes]
   have e3:headL f.P f.R f.V f.code.length L 0=L+f.V:=by unfold headL;rw[if_pos e2]
   have hV:0≤f.V∧f.V≤255:=by
    have:=hS
    unfold smallB at this
    simp at this
    omega
   unfold headE
   rw[e2,e3]
   show AG0 G _ (locX (leaving b) f.V s.at' ({ inF f s with at':=adv (adv (adv (adv s.at' 1) 1) 1) 2 },()))
   unfold locX
   have e4:wrap64 ((({ inF f s with at':=adv (adv (adv (adv s.at' 1) 1) 1) 2 },()):WS × Unit).1.locs+f.V)=L+f.V+1:=by
    rw[show(({ inF f s with at':=adv (adv (adv (adv s.at' 1) 1) 1) 2 },()):WS × Unit).1.locs=s.locs from rfl,hs,w64 (by omega) (by omega)]
    omega
   rw[e4]
   by_cases hle:L+f.V+1≤1048576
   ·rw[if_pos hle,show decide (L+f.V+1≤1048576)=true by simpa using hle,mustE_yes]
    exact⟨rfl,hg,rfl⟩
   ·rw[if_neg hle,show decide (L+f.V+1≤1048576)=false by simpa using hle,mustE_no]
    exact⟨rfl,show(21:Int)≠0 by decide⟩
  ·rw[if_neg hn]
   have e2:headE2 f.P f.R f.V f.code.length 0=19:=by
    unfold headE2
    rw[hS,mustE_yes,show decide ((1:Int)≤f.code.length)=false from decide_eq_false (by omega),mustE_no]
   refine⟨?_,show(19:Int)≠0 by decide⟩
   show headE f.P f.R f.V f.code.length L 0=19
   unfold headE
   rw[e2,mustE_keep (E:=19) (by decide)]
 ·rw[if_neg hS]
  have e2:headE2 f.P f.R f.V f.code.length 0=20:=by
   unfold headE2
   rw[Bool.eq_false_iff.2 hS,mustE_no,mustE_keep (E:=20) (by decide)]
  refine⟨?_,show(20:Int)≠0 by decide⟩
  show headE f.P f.R f.V f.code.length L 0=20
  unfold headE
  rw[e2,mustE_keep (E:=20) (by decide)]
theorem heads_agi {G:Int}(b:Nat):∀ (l:List PF) (s:WS) (L:Int),s.globals=G→s.locs=L+1→0≤L→L+1≤1048576→AG0 G (rHeads l L 0) (headsP b l s)∧((rHeads l L 0).2=0→∀ f∈l,FineF f)
 | [],s,L,hg,hs,h0,h1=>⟨⟨rfl,hg,hs⟩,fun _ f hf=>by cases hf⟩
 | f::l,s,L,hg,hs,h0,h1=>by
   have h:=head_agi b f s L hg hs h0 h1
   have hlow:Low (headL f.P f.R f.V f.code.length L 0) (headE f.P f.R f.V f.code.length L 0):=Low.head h0
   obtain⟨r1,hr1⟩:∃ r1:X (WS × Unit),r1=headX (leaving b) (inF f s,()):=⟨_,rfl⟩
   have hfine:∀ y,r1 = .ok y→FineF f:=fun y hy=>head_fine (b:=b) (s:=inF f s) rfl rfl rfl rfl (hr1.symm.trans hy)
   have h:AG0 G (headL f.P f.R f.V f.code.length L 0,headE f.P f.R f.V f.code.length L 0) r1:=by rw[hr1];exact h
   have key:AG0 G (rHeads l (headL f.P f.R f.V f.code.length L 0) (headE f.P f.R f.V f.code.length L 0)) (thenX r1 fun y=>headsP b l y.1)∧((rHeads l (headL f.P f.R f.V f.code.length L 0) (headE f.P f.R f.V f.code.length L 0)).2=0→∀ x∈f::l,FineF x):=by
    clear hr1
    cases r1 with
    | error z =>
      have h:headE f.P f.R f.V f.code.length L 0=z.1∧z.1≠0:=h
      have hne:¬ headE f.P f.R f.V f.code.length L 0=0:=by rw[h.1];exact h.2
      rw[rHeads_ne _ _ hne]
      exact⟨h,fun hz=>absurd hz hne⟩
    | ok y =>
      have h:headE f.P f.R f.V f.code.length L 0=0∧y.1.globals=G∧y.1.locs=headL f.P f.R f.V f.code.length L 0+1:=h
      rw[h.1] at hlow ⊢
      obtain⟨k1,k2⟩:=heads_agi b l y.1 _ h.2.1 h.2.2 hlow.1 (hlow.2 rfl)
      refine⟨k1,fun hz x hx=>?_⟩
      rcases List.mem_cons.1 hx with rfl | hx
      ·exact hfine y rfl
      ·exact k2 hz x hx
   exact⟨AG0.cast (q:=thenX r1 fun y=>headsP b l y.1) (by rw[hr1];rfl) key.1,key.2⟩
theorem answer_agi (G:Int)(fs:List PF):AG0 G (rAll G fs) (answerP G fs):=by
 have eA:∀ er:Int,¬ er=0→rE1 G fs.length=er→rAll G fs=(0,er):=fun er he h=>by
  unfold rAll rHd
  rw[h,rHeads_ne _ _ he,rFuncs_ne _ _ _ _ he]
 obtain⟨s0,hs0⟩:∃ s0:WS,s0={ WS.start nilS with globals:=G,count:=(fs.length:Nat) }:=⟨_,rfl⟩
 have e0:answerP G fs=(thenX (if decide (0≤G∧G≤16) then .ok ({ s0 with at':=adv s0.at' 1 },()) else .error (18,s0.at')) fun y =>
  thenX (askX (leaving 0) 161 2 (fun s=>decide (1≤s.count∧s.count≤65535)) 20 y) fun y=>thenX (headsP 0 fs y.1) fun y=>funcsP 0 (headsOfP fs) fs y.1:X (WS × Unit)):=by
  unfold answerP overP
  rw[hs0]
  refine then_eq ?_ (fun y=>?_)
  ·exact L_ask (b:=0) 146 1 _ 18 _ ()
  ·rfl
 refine AG0.cast e0 ?_
 by_cases hG:0≤G∧G≤16
 ·rw[if_pos (by simpa using hG)]
  have r0:rE0 G=0:=by unfold rE0;rw[show(decide (0≤G)&&decide (G≤16))=true by simpa using hG,mustE_yes]
  refine AG0.cast (q:=thenX (if decide (1≤(fs.length:Int)∧(fs.length:Int)≤65535) then .ok ({ s0 with at':=adv (adv s0.at' 1) 2 },()) else .error (20,adv s0.at' 1)) fun y=>thenX (headsP 0 fs y.1) fun y=>funcsP 0 (headsOfP fs) fs y.1) ?_ ?_
  ·refine(show thenX (askX (leaving 0) 161 2 (fun s=>decide (1≤s.count∧s.count≤65535)) 20 ({ s0 with at':=adv s0.at' 1 },())) (fun y=>thenX (headsP 0 fs y.1) fun y=>funcsP 0 (headsOfP fs) fs y.1)=_ from ?_)
   refine then_eq ?_ (fun _=>rfl)
   have:=L_ask (b:=0) 161 2 (fun s=>decide (1≤s.count∧s.count≤65535)) 20 { s0 with at':=adv s0.at' 1 } ()
   refine this.trans ?_
   rw[hs0]
   rfl
  ·by_cases hn:1≤(fs.length:Int)∧(fs.length:Int)≤65535
   ·rw[if_pos (by simpa using hn)]
    have r1:rE1 G fs.length=0:=by unfold rE1;rw[r0,show(decide ((1:Int)≤fs.length)&&decide ((fs.length:Int)≤65535))=true by simpa using hn,mustE_yes]
    obtain⟨k1,k2⟩:=heads_agi (G:=G) 0 fs { s0 with at':=adv (adv s0.at' 1) 2 } 0 (by rw[hs0]) (by rw[hs0];rfl) (by omega) (by omega)
    have hlow:=Low.heads fs 0 0 (Low.zero 0)
    show AG0 G (rAll G fs) (thenX (headsP 0 fs { s0 with at':=adv (adv s0.at' 1) 2 }) fun y=>funcsP 0 (headsOfP fs) fs y.1)
    unfold rAll rHd
    rw[r1]
    generalize headsP 0 fs { s0 with at':=adv (adv s0.at' 1) 2 }=q1 at k1 ⊢
    generalize rHeads fs 0 0=p at k1 k2 hlow ⊢
    cases q1 with
    | error z =>
      have h:p.2=z.1∧z.1≠0:=k1
      rw[rFuncs_ne _ _ _ _ (by rw[h.1];exact h.2)]
      exact h
    | ok y =>
      have h:p.2=0∧y.1.globals=G∧y.1.locs=p.1+1:=k1
      have hf:=k2 h.1
      rw[h.1] at hlow ⊢
      exact funcs_agi 0 fs (fun f hx=>⟨(hf f hx).2.1.1,(hf f hx).2.2.1.1⟩) (by omega) hG.1 hG.2 fs y.1 p.1 hf h.2.1 h.2.2 hlow.1 (hlow.2 rfl)
   ·rw[if_neg (by simpa using hn)]
    have r1:rE1 G fs.length=20:=by unfold rE1;rw[r0,show(decide ((1:Int)≤fs.length)&&decide ((fs.length:Int)≤65535))=false by rw[Bool.eq_false_iff];simpa using hn,mustE_no]
    rw[eA 20 (by decide) r1]
    exact⟨rfl,show(20:Int)≠0 by decide⟩
 ·rw[if_neg (by simpa using hG)]
  have r0:rE0 G=18:=by unfold rE0;rw[show(decide (0≤G)&&decide (G≤16))=false by rw[Bool.eq_false_iff];simpa using hG,mustE_no]
  have r1:rE1 G fs.length=18:=by unfold rE1;rw[r0,mustE_keep (E:=18) (by decide)]
  rw[eA 18 (by decide) r1]
  exact⟨rfl,show(18:Int)≠0 by decide⟩
theorem checkP_eq (G:Int)(fs:List PF):checkP G fs=(rAll G fs).2:=by
 have h:=answer_agi G fs
 unfold checkP
 generalize answerP G fs=r at h ⊢
 cases r with
 | ok y=>exact h.1.symm
 | error z=>exact h.1.symm
end Go.Proofs.YtingenonbkencaaDoor
