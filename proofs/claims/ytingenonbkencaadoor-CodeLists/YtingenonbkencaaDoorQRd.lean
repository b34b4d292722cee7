import Derived.Test.YtingenonbkencaaDoorQN6J
set_option linter.unusedVariables false
set_option linter.unusedSimpArgs false
namespace Go.Proofs.YtingenonbkencaaDoor
open Go.RowKit (wrap32 wrap64)
set_option maxRecDepth 100000
set_option maxHeartbeats 4000000
theorem frK {b:Nat}{M:Mode b}{w w':World}(h:Fr (fun k=>k=b) w w'):Fr M.SB w w':=h.mono (fun _ _ hk=>Or.inl hk)
def OverKE {b:Nat}(M:Mode b)(T:X (WS × M.σ))(w:World)(e:Ending)(w':World):Prop :=
 Fr M.SB w w'∧match T with
  | .ok y=>e = .returned (.tuple #[])∧∃ x,On M w' x∧Al x y
  | .error z=>e = .panicked (viol z.1 z.2)
theorem overKE_err {b:Nat}{M:Mode b}{T:X (WS × M.σ)}{w w':World}{z:Int × Int}(h:T = .error z)(hf:Fr M.SB w w'):OverKE M T w (.panicked (viol z.1 z.2)) w':=by
 subst h;exact⟨hf,rfl⟩
theorem overKE_ok {b:Nat}{M:Mode b}{T:X (WS × M.σ)}{w w':World}{x:WS × M.σ}(h:SimK (.ok x) T)(hf:Fr M.SB w w')(ho:On M w' x):OverKE M T w (.returned (.tuple #[])) w':=by
 obtain⟨y,rfl,hb⟩:=h.okk
 exact⟨hf,rfl,x,ho,hb⟩
theorem headsAt_K {S:Nat→Prop}{w:World}{k o:Nat}{fs:List PF}(h:∀ j (h:j<fs.length),∃ cv,
 w.cell? ⟨k,o+j*4,none⟩=some (vI fs[j].P)∧w.cell? ⟨k,o+j*4+1,none⟩=some (vI fs[j].R)∧w.cell? ⟨k,o+j*4+2,none⟩=some (vI fs[j].V)∧w.cell? ⟨k,o+j*4+3,none⟩=some cv∧CS S w cv fs[j].code)
 (hf:∀ f∈fs,FineF f):HeadsAt w k o (headsOfP fs):=by
 intro j hj
 have hj':j<fs.length:=by simpa[headsOfP] using hj
 obtain⟨cv,h1,h2,-⟩:=h j hj'
 obtain⟨-,f2,f3,-⟩:=hf fs[j] (List.getElem_mem hj')
 have e:(headsOfP fs)[j]=(fs[j].P.toNat,fs[j].R.toNat):=by simp[headsOfP]
 rw[e]
 refine⟨?_,?_,?_,?_⟩
 ·rw[h1];simp only;rw[Int.toNat_of_nonneg f2.1]
 ·rw[h2];simp only;rw[Int.toNat_of_nonneg f3.1]
 ·simp only;omega
 ·simp only;omega
theorem askK_ok {b:Nat}{M:Mode b}{rm:M.σ→Nat}(hM:KM M rm){o size:Nat}{c:WS→Bool}{er:Int}{s:WS}{st:M.σ}{y:WS × M.σ}(hp:1≤rm st)(h:askX M o size c er (s,st) = .ok y):y.1={ s with at':=adv s.at' size }∧c { s with at':=adv s.at' size }=true:=by
 obtain⟨st',e,-⟩:=K_next hM o size s st hp
 rw[askX_then,e] at h
 simp only[thenX] at h
 split at h
 ·rename_i hc
  cases h;exact⟨rfl,hc⟩
 ·cases h
theorem askK_count {b:Nat}{M:Mode b}{rm:M.σ→Nat}(hM:KM M rm){o size:Nat}{c:WS→Bool}{er G:Int}{n:Nat}{s:WS}{st:M.σ}{y:WS × M.σ}(hp:1≤rm st)(h:askX M o size c er ({ s with globals:=G,count:=(n:Nat) },st) = .ok y):y.1.count=(n:Nat):=by
 obtain⟨e,-⟩:=askK_ok hM hp h
 rw[e]
theorem askK_nf {b:Nat}{M:Mode b}{rm:M.σ→Nat}(hM:KM M rm){n:Nat}{x y:WS × M.σ}(hp:1≤rm x.2)(hc:x.1.count=(n:Nat))(h:askX M 161 2 (fun s=>decide (1≤s.count∧s.count≤65535)) 20 x = .ok y):1≤n∧n≤65535:=by
 obtain⟨s,st⟩:=x
 have hc:s.count=(n:Nat):=hc
 obtain⟨-,hd⟩:=askK_ok hM hp h
 have hd:=of_decide_eq_true hd
 have hd:1≤s.count∧s.count≤65535:=hd
 omega
theorem instrK_kept {b:Nat}{M:Mode b}{heads:List (Nat × Nat)}{fR i:Nat}{la lr:List Int}{x y:WS × M.σ}(h:instrK M heads fR i la lr x = .ok y)(hk:∀ x1,nextX M 154 1 x = .ok x1→Kept x.1 x1.1):Kept x.1 y.1:=by
 unfold instrK at h
 obtain⟨x1,hx,h⟩:=then_ok h
 have h0:=hk x1 hx
 split at h
 ·split at h
  ·obtain⟨x2,e1,e2⟩:=then_ok h
   exact(h0.trans (frontOk_kept e1)).trans (listK_kept e2).1
  ·split at h
   ·obtain⟨x2,e1,e2⟩:=then_ok h
    obtain⟨x3,e3,e4⟩:=then_ok e1
    obtain⟨x4,e5,e6⟩:=then_ok e2
    exact(((h0.trans (frontOk_kept e3)).trans (askX_kept (by simp) e4)).trans (listK_kept e5).1).trans (listK_kept e6).1
   ·have hk':KeepsX (M:=M) x.1 (frontOk M (x.1.op==13) (x.1.op==6) (nbK x.1.op.toNat x.1 la.length lr.length) i x.1.at' x1):=fun y hy=>h0.trans (frontOk_kept hy)
    exact partsX_kept x.1.op.toNat hk' y h
 ·cases h
theorem K_op_kept {b:Nat}{M:Mode b}{rm:M.σ→Nat}(hM:KM M rm){x x1:WS × M.σ}(hp:1≤rm x.2)(h:nextX M 154 1 x = .ok x1):Kept x.1 x1.1:=by
 obtain⟨s,st⟩:=x
 obtain⟨st',e,-⟩:=K_next hM 154 1 s st hp
 cases e.symm.trans h
 exact⟨rfl,rfl,rfl,rfl,rfl,rfl,rfl,rfl,rfl,rfl,rfl⟩
theorem over_K {b:Nat}{M:Mode b}{rm:M.σ→Nat}(hM:KM M rm)(s:WS)(st0:M.σ)(w:World)(h:Lies w b s)(hrm:5368971270≤rm st0)(G:Int)(fsv:Value)(fs:List PF)(hL:FS M.SB w fsv fs)(hnew:∀ k,k=w.heap.size→¬ M.SB k)
 (hOn:∀ w1 s',Fr (fun k=>k=b) w w1→w1.heap[w.heap.size]?=some (.cells #[vI G,fsv] 26)→Lies w1 b s'→s'.num=s.num→s'.at'=s.at'→On M w1 (s',st0)) :
 Calls Tryd.prog 36 #[.pointer (some ⟨b,0,none⟩),.agg #[vI G,fsv]] w (OverKE M (overK M G fs (s,st0)) w):=by
 obtain⟨c2,-,c146,c147,-,c149,c150,c151,c152,c153,-,-,-,-,-,-,-,c161⟩:=h.facts
 have hz:=h.frozen
 have hb:=h.lt
 obtain⟨hlen,fa,fcap,rfl,hin⟩:=hL
 have HIN:Hd _:=hin
 clear hin
 obtain⟨T,HT⟩:∃ T,Hd (T=overK M G fs (s,st0)):=⟨_,rfl⟩
 rw[← HT.out]
 go_enter Tryd.func36,Tryd.ntmps36
 go_wp2_with fail
 go_region
 have hl1:Lies ((w.setCell ⟨b,146,none⟩ (vI G)).setCell ⟨b,161,none⟩ (vI fs.length)) b { s with globals:=G,count:=(fs.length:Nat) } :=
  (h.setCell 146 _ (cells_set s 146 G (by simp[places]))).setCell 161 _ (cells_set _ 161 _ (by simp[places]))
 have hf1:Fr (fun k=>k=b) w (((w.setCell ⟨b,146,none⟩ (vI G)).setCell ⟨b,161,none⟩ (vI fs.length)).alloc (.cells #[vI G,.slice fa fs.length fcap] 26)).drew :=
  (Fr.alloc (Fr.setCell (Fr.setCell (Fr.refl (fun k=>k=b) w) _ _ (Or.inl rfl)) _ _ (Or.inl rfl)) _).drew
 have hpb:(((w.setCell ⟨b,146,none⟩ (vI G)).setCell ⟨b,161,none⟩ (vI fs.length)).alloc (.cells #[vI G,.slice fa fs.length fcap] 26)).drew.heap[w.heap.size]?=some (.cells #[vI G,.slice fa fs.length fcap] 26):=by
  have hsz:((w.setCell ⟨b,146,none⟩ (vI G)).setCell ⟨b,161,none⟩ (vI fs.length)).heap.size=w.heap.size:=by simp
  have:=heap_alloc_last ((w.setCell ⟨b,146,none⟩ (vI G)).setCell ⟨b,161,none⟩ (vI fs.length)) (.cells #[vI G,.slice fa fs.length fcap] 26)
  rw[hsz] at this
  exact this
 have hon1:On M (((w.setCell ⟨b,146,none⟩ (vI G)).setCell ⟨b,161,none⟩ (vI fs.length)).alloc (.cells #[vI G,.slice fa fs.length fcap] 26)).drew ({ s with globals:=G,count:=(fs.length:Nat) },st0):=hOn _ _ hf1 hpb (hl1.alloc _).drew rfl rfl
 generalize (((w.setCell ⟨b,146,none⟩ (vI G)).setCell ⟨b,161,none⟩ (vI fs.length)).alloc (.cells #[vI G,.slice fa fs.length fcap] 26)).drew=w1 at hf1 hon1 hpb ⊢
 clear hOn hl1 c2 c146 c147 c149 c150 c151 c152 c153 c161 hz
 go_wp2_with fail
 refine(askGlobals_at M rm hM.next _ w1 hon1 (by show 1≤rm st0;omega)).mono ?_
 rintro e w2 ⟨hf2,hres⟩
 have hfa:Fr M.SB w w2:=(frK hf1).trans hf2
 cases hx:askX M 146 1 (fun s=>decide (0≤s.globals∧s.globals≤16)) 18 ({ s with globals:=G,count:=(fs.length:Nat) },st0) with
 | error z =>
   rw[hx] at hres
   have hres:e = .panicked (viol z.1 z.2):=hres
   subst hres
   have hTz:Hd (T = .error z):=by
    unfold Hd;rw[HT.out];unfold overK
    rw[hx];rfl
   clear hx
   go_wp2_with fail
   exact⟨rfl,overKE_err hTz.out hfa⟩
 | ok y1 =>
 rw[hx] at hres
 obtain⟨rfl,hon2⟩:=hres
 have HT1:Hd (T=thenX (askX M 161 2 (fun s=>decide (1≤s.count∧s.count≤65535)) 20 y1) fun y=>thenX (headsK M fs y) (funcsK M (headsOfP fs) fs)):=by
  unfold Hd;rw[HT.out];unfold overK
  rw[hx];rfl
 have hc1:y1.1.count=(fs.length:Nat)∧5368971269≤rm y1.2:=by
  refine⟨?_,by have:=ask_goes hM.goes hx;have:rm st0≤rm y1.2+1:=this;omega⟩
  exact askK_count hM (by show 1≤rm st0;omega) hx
 clear hx HT
 go_wp2_with fail
 refine(askFunctions_at M rm hM.next y1 w2 hon2 (by omega)).mono ?_
 rintro e w3 ⟨hf3,hres⟩
 have hfb:Fr M.SB w w3:=hfa.trans hf3
 cases hx:askX M 161 2 (fun s=>decide (1≤s.count∧s.count≤65535)) 20 y1 with
 | error z =>
   rw[hx] at hres
   have hres:e = .panicked (viol z.1 z.2):=hres
   subst hres
   have hTz:Hd (T = .error z):=by
    unfold Hd;rw[HT1.out,hx];rfl
   clear hx
   go_wp2_with fail
   exact⟨rfl,overKE_err hTz.out hfb⟩
 | ok y2 =>
 rw[hx] at hres
 obtain⟨rfl,hon3⟩:=hres
 have HT2:Hd (SimK (thenX (headsK M (fs.drop 0) y2) (funcsK M (headsOfP fs) fs)) T):=by
  unfold Hd;rw[HT1.out,hx];exact SimK.refl _
 have hnf:1≤fs.length∧fs.length≤65535:=askK_nf hM (by omega) hc1.1 hx
 have HR2:Hd (5368971268≤rm y2.2):=by have:=ask_goes hM.goes hx;have:=hc1.2;unfold Hd;omega
 clear hx HT1 hc1
 have hp3:w3.cell? ⟨w.heap.size,1,none⟩=some (.slice fa fs.length fcap):=by
  have hpl:=(Array.getElem?_eq_some_iff.1 hpb).1
  have e13:Fr M.SB w1 w3:=hf2.trans hf3
  have:w3.heap[w.heap.size]?=some (.cells #[vI G,.slice fa fs.length fcap] 26):=by rw[e13.block _ hpl (hnew _ rfl)];exact hpb
  unfold World.cell?;simp[this]
 obtain⟨fk,fo,rfl,hfk,hfkb,hfc⟩:=HIN.out (by intro e;simp[e] at hnf)
 have HFC:Hd _:=hfc
 have HFN:Hd (1≤fs.length∧fs.length≤65535):=hnf
 have hps:¬ M.SB w.heap.size:=hnew _ rfl
 have hpsb:¬ w.heap.size=b:=fun e=>hps (Or.inl e)
 have hfkb1:¬ fk=b:=fun e=>hfkb (Or.inl e)
 have hplt:w.heap.size<w3.heap.size:=cell_lt hp3
 clear hf1 hf2 hf3 hfa hpb hon1 hon2 hfc HIN h hnf
 go_wp2_with fail
 go_loopw [28] (fun i wr=>∃ (k:Nat) (s1:WS) (st1:M.σ),k≤fs.length∧i = .int .i64 k∧On M wr (s1,st1)∧Fr M.SB w3 wr∧Hd (4*(fs.length-k)+5368709120≤rm st1)∧Hd (SimK (thenX (headsK M (fs.drop k) (s1,st1)) (funcsK M (headsOfP fs) fs)) T)∧Hd (∀ f∈fs.take k,FineF f)) (fun i _=>match i with | .int _ q=>fs.length-q.toNat | _=>0)
 case atStart=>exact⟨0,y2.1,y2.2,Nat.zero_le _,rfl,hon3,Fr.refl _ _,by have h1:=HR2.out;have h2:=HFN.out;unfold Hd;omega,HT2,by unfold Hd;simp⟩
 case round =>
  obtain⟨k,s1,st1,hk,rfl,hon,hfr,hrk,hvx,hfin⟩:=hrel
  have hfw:Fr M.SB w wr:=hfb.trans hfr
  have hpu:wr.cell? ⟨w.heap.size,1,none⟩=some (.slice (some ⟨fk,fo,none⟩) fs.length fcap):=(hfr.cell hplt hps).trans hp3
  by_cases hlt:k<fs.length
  ·obtain⟨cv,f0,f1,f2,f3,hcl⟩:=HFC.out k hlt
   have gg:∀ o,wr.cell? ⟨fk,o,none⟩=w.cell? ⟨fk,o,none⟩:=fun o=>hfw.cell hfk hfkb
   rw[← gg] at f0 f1 f2 f3
   clear gg
   obtain⟨hcl0,ca,ccap,rfl,-⟩:=hcl
   have hst:=heads_stepK hlt (x2:=(inFv fs[k] (.slice ca fs[k].code.length ccap) s1,st1)) hvx.out ⟨rfl,rfl⟩
   have HST:Hd _:=hst
   clear hst
   obtain⟨-,-,-,-,-,c149,c150,c151,c152,c153,-⟩:=hon.1.facts
   have hz:=hon.1.frozen
   have hb':=hon.1.lt
   go_wp2_with fail
   go_region
   have hl1:=(func_lies fs[k].P fs[k].R fs[k].V fs[k].code.length (.slice ca fs[k].code.length ccap) hon.1)
   have hf1:Fr (fun k=>k=b) wr ((((((wr.setCell ⟨b,149,none⟩ (vI fs[k].P)).setCell ⟨b,150,none⟩ (vI fs[k].R)).setCell ⟨b,151,none⟩ (vI fs[k].V)).setCell ⟨b,152,none⟩ (.slice ca fs[k].code.length ccap)).setCell ⟨b,153,none⟩ (vI fs[k].code.length)).alloc (.cells #[vI fs[k].P,vI fs[k].R,vI fs[k].V,.slice ca fs[k].code.length ccap] 67)).drew :=
    (Fr.alloc (Fr.setCell (Fr.setCell (Fr.setCell (Fr.setCell (Fr.setCell (Fr.refl (fun k=>k=b) wr) _ _ (Or.inl rfl)) _ _ (Or.inl rfl)) _ _ (Or.inl rfl)) _ _ (Or.inl rfl)) _ _ (Or.inl rfl)) _).drew
   have hon1:On M ((((((wr.setCell ⟨b,149,none⟩ (vI fs[k].P)).setCell ⟨b,150,none⟩ (vI fs[k].R)).setCell ⟨b,151,none⟩ (vI fs[k].V)).setCell ⟨b,152,none⟩ (.slice ca fs[k].code.length ccap)).setCell ⟨b,153,none⟩ (vI fs[k].code.length)).alloc (.cells #[vI fs[k].P,vI fs[k].R,vI fs[k].V,.slice ca fs[k].code.length ccap] 67)).drew (inFv fs[k] (.slice ca fs[k].code.length ccap) s1,st1):=hon.fr hf1 (hl1.alloc _).drew rfl rfl
   generalize ((((((wr.setCell ⟨b,149,none⟩ (vI fs[k].P)).setCell ⟨b,150,none⟩ (vI fs[k].R)).setCell ⟨b,151,none⟩ (vI fs[k].V)).setCell ⟨b,152,none⟩ (.slice ca fs[k].code.length ccap)).setCell ⟨b,153,none⟩ (vI fs[k].code.length)).alloc (.cells #[vI fs[k].P,vI fs[k].R,vI fs[k].V,.slice ca fs[k].code.length ccap] 67)).drew=w4 at hf1 hon1 ⊢
   clear c149 c150 c151 c152 c153 hz f0 f1 f2 f3 hl1 hon hvx
   have HFI:Hd (∀ y,headX M (inFv fs[k] (.slice ca fs[k].code.length ccap) s1,st1) = .ok y→FineF fs[k]):=fun y hy=>headK_fine hM (by have:=hrk.out;omega) rfl rfl rfl rfl hy
   go_wp2_with fail
   refine(askHead_at M rm hM.next _ w4 hon1 hM.goes (by have:=hrk.out;show 4≤rm st1;omega)).mono ?_
   rintro e w5 ⟨hf5,hres⟩
   have hf45:Fr M.SB wr w5:=(frK hf1).trans hf5
   cases hx:headX M (inFv fs[k] (.slice ca fs[k].code.length ccap) s1,st1) with
   | error z =>
     rw[hx] at hres
     have hres:e = .panicked (viol z.1 z.2):=hres
     subst hres
     have hTz:Hd (T = .error z):=HST.out.1 z hx
     clear hx
     go_wp2_with fail
     exact⟨rfl,overKE_err hTz.out (hfw.trans hf45)⟩
   | ok y =>
     rw[hx] at hres
     obtain⟨rfl,hon5⟩:=hres
     have hn:Hd (SimK (thenX (headsK M (fs.drop (k+1)) y) (funcsK M (headsOfP fs) fs)) T):=HST.out.2 y hx
     have hrk2:Hd (4*(fs.length-(k+1))+5368709120≤rm y.2):=by have h1:=headK_goes hM.goes hx;have h1:rm st1≤rm y.2+4:=h1;have h2:=hrk.out;unfold Hd;omega
     have hfin2:Hd (∀ f∈fs.take (k+1),FineF f):=by
      have hf0:=HFI.out y hx
      unfold Hd
      rw[List.take_succ_eq_append_getElem hlt]
      intro f hf
      rcases List.mem_append.1 hf with hf | hf
      ·exact hfin.out f hf
      ·rw[List.mem_singleton] at hf;rw[hf];exact hf0
     clear hx HST HFI hfin hf1 hf5 hon1 hrk
     go_wp2_with fail
     exact⟨⟨k+1,y.1,y.2,by omega,by simp,hon5,hfr.trans hf45,hrk2,hn,hfin2⟩,by simp;omega⟩
  ·have hkl:k=fs.length:=by omega
   have hvx2:Hd (SimK (funcsK M (headsOfP fs) (fs.drop 0) (s1,st1)) T):=heads_endK hkl hvx.out
   have HR3:Hd (5368709120≤rm st1):=by have h2:=hrk.out;unfold Hd;omega
   have HFIN:Hd (∀ f∈fs,FineF f):=by
    have:=hfin.out
    rw[hkl,List.take_length] at this
    exact this
   clear hvx hfin hrk
   subst hkl
   have c147:=hon.1.facts.2.2.2.1
   have hz:=hon.1.frozen
   have hb':=hon.1.lt
   go_wp2_with fail
   have hff:Fr (fun k=>k=b) wr (wr.setCell ⟨b,147,none⟩ (.slice (some ⟨fk,fo,none⟩) fs.length fcap)):=Fr.setCell (Fr.refl (fun k=>k=b) wr) _ _ (Or.inl rfl)
   have honf:On M (wr.setCell ⟨b,147,none⟩ (.slice (some ⟨fk,fo,none⟩) fs.length fcap)) ({ s1 with funcs:=.slice (some ⟨fk,fo,none⟩) fs.length fcap },st1):=hon.fr hff (hon.1.setCell 147 _ (cells_funcs _ _)) rfl rfl
   have hfw2:Fr M.SB w (wr.setCell ⟨b,147,none⟩ (.slice (some ⟨fk,fo,none⟩) fs.length fcap)):=hfw.trans (frK hff)
   have hvx3:Hd (SimK (funcsK M (headsOfP fs) (fs.drop 0) ({ s1 with funcs:=.slice (some ⟨fk,fo,none⟩) fs.length fcap },st1)) T):=(simK_funcs M (headsOfP fs) (fs.drop 0) ({ s1 with funcs:=.slice (some ⟨fk,fo,none⟩) fs.length fcap },st1) (s1,st1) ⟨rfl,rfl⟩).trans hvx2.out
   generalize (wr.setCell ⟨b,147,none⟩ (.slice (some ⟨fk,fo,none⟩) fs.length fcap))=wf at hff honf hfw2 ⊢
   clear c147 hz hb' hpu hff hon hvx2 hfw hfr hp3 hfb hon3 HT2 hplt
   go_loopw [53] (fun i wr=>∃ (j:Nat) (s2:WS) (st2:M.σ),j≤fs.length∧i = .int .i64 j∧On M wr (s2,st2)∧Fr M.SB w wr∧Hd (81920*(fs.length-j)≤rm st2)∧Hd (s2.funcs = .slice (some ⟨fk,fo,none⟩) fs.length fcap)∧Hd (SimK (funcsK M (headsOfP fs) (fs.drop j) (s2,st2)) T)) (fun i _=>match i with | .int _ q=>fs.length-q.toNat | _=>0)
   case atStart=>exact⟨0,_,st1,Nat.zero_le _,rfl,honf,hfw2,by have h1:=HR3.out;have h2:=HFN.out;unfold Hd;omega,rfl,hvx3⟩
   case round =>
    clear honf hfw2 hvx3
    obtain⟨j,s2,st2,hj,rfl,hon,hfr,hrj,hsf,hvx⟩:=hrel
    by_cases hlt:j<fs.length
    ·obtain⟨cv,f0,f1,f2,f3,hcl⟩:=HFC.out j hlt
     have HCL:Hd (CS M.SB w cv fs[j].code):=hcl
     have gg:∀ o,wr.cell? ⟨fk,o,none⟩=w.cell? ⟨fk,o,none⟩:=fun o=>hfr.cell hfk hfkb
     rw[← gg] at f0 f1 f2 f3
     clear gg
     obtain⟨hcl0,ca,ccap,rfl,-⟩:=hcl
     have hst:Hd _:=funcs_beginK hlt (x2:=(inFv fs[j] (.slice ca fs[j].code.length ccap) s2,st2)) hvx.out ⟨rfl,rfl⟩
     obtain⟨-,-,-,-,-,c149,c150,c151,c152,c153,-⟩:=hon.1.facts
     have hz:=hon.1.frozen
     have hb':=hon.1.lt
     go_wp2_with fail
     go_region
     have hl1:=(func_lies fs[j].P fs[j].R fs[j].V fs[j].code.length (.slice ca fs[j].code.length ccap) hon.1)
     have hf1:Fr (fun k=>k=b) wr ((((((wr.setCell ⟨b,149,none⟩ (vI fs[j].P)).setCell ⟨b,150,none⟩ (vI fs[j].R)).setCell ⟨b,151,none⟩ (vI fs[j].V)).setCell ⟨b,152,none⟩ (.slice ca fs[j].code.length ccap)).setCell ⟨b,153,none⟩ (vI fs[j].code.length)).alloc (.cells #[vI fs[j].P,vI fs[j].R,vI fs[j].V,.slice ca fs[j].code.length ccap] 67)).drew :=
      (Fr.alloc (Fr.setCell (Fr.setCell (Fr.setCell (Fr.setCell (Fr.setCell (Fr.refl (fun k=>k=b) wr) _ _ (Or.inl rfl)) _ _ (Or.inl rfl)) _ _ (Or.inl rfl)) _ _ (Or.inl rfl)) _ _ (Or.inl rfl)) _).drew
     have hon1:On M ((((((wr.setCell ⟨b,149,none⟩ (vI fs[j].P)).setCell ⟨b,150,none⟩ (vI fs[j].R)).setCell ⟨b,151,none⟩ (vI fs[j].V)).setCell ⟨b,152,none⟩ (.slice ca fs[j].code.length ccap)).setCell ⟨b,153,none⟩ (vI fs[j].code.length)).alloc (.cells #[vI fs[j].P,vI fs[j].R,vI fs[j].V,.slice ca fs[j].code.length ccap] 67)).drew (inFv fs[j] (.slice ca fs[j].code.length ccap) s2,st2):=hon.fr hf1 (hl1.alloc _).drew rfl rfl
     have hcf:((((((wr.setCell ⟨b,149,none⟩ (vI fs[j].P)).setCell ⟨b,150,none⟩ (vI fs[j].R)).setCell ⟨b,151,none⟩ (vI fs[j].V)).setCell ⟨b,152,none⟩ (.slice ca fs[j].code.length ccap)).setCell ⟨b,153,none⟩ (vI fs[j].code.length)).alloc (.cells #[vI fs[j].P,vI fs[j].R,vI fs[j].V,.slice ca fs[j].code.length ccap] 67)).drew.cell? ⟨wr.heap.size,3,none⟩=some (.slice ca fs[j].code.length ccap):=by
      rw[World.cell?_drew,World.cell?_alloc_at _ _ _ _ (by simp)];rfl
     generalize ((((((wr.setCell ⟨b,149,none⟩ (vI fs[j].P)).setCell ⟨b,150,none⟩ (vI fs[j].R)).setCell ⟨b,151,none⟩ (vI fs[j].V)).setCell ⟨b,152,none⟩ (.slice ca fs[j].code.length ccap)).setCell ⟨b,153,none⟩ (vI fs[j].code.length)).alloc (.cells #[vI fs[j].P,vI fs[j].R,vI fs[j].V,.slice ca fs[j].code.length ccap] 67)).drew=w4 at hf1 hon1 hcf ⊢
     have hf4w:Fr M.SB w w4:=hfr.trans (frK hf1)
     have hrj0:Hd (81920*(fs.length-(j+1))+20*fs[j].code.length≤rm st2):=by have h1:=hrj.out;have h2:=HFIN.out _ (List.getElem_mem hlt);have h3:=h2.2.2.2.2;unfold Hd;omega
     have hfu:Hd ((inFv fs[j] (.slice ca fs[j].code.length ccap) s2).funcs = .slice (some ⟨fk,fo,none⟩) fs.length fcap):=hsf.out
     have hK0:Hd ((inFv fs[j] (.slice ca fs[j].code.length ccap) s2).fR=fs[j].R∧(inFv fs[j] (.slice ca fs[j].code.length ccap) s2).len=(fs[j].code.length:Nat)):=⟨rfl,rfl⟩
     have HFJ:Hd (FineF fs[j]):=HFIN.out _ (List.getElem_mem hlt)
     generalize inFv fs[j] (.slice ca fs[j].code.length ccap) s2=s3 at hst hon1 hfu hK0
     clear c149 c150 c151 c152 c153 hz f0 f1 f2 f3 hl1 hon hb' hf1 hfr hvx hsf hrj
     go_wp2_with fail
     go_loopw [70] (fun i wr=>∃ (i':Nat) (s4:WS) (st4:M.σ),i'≤fs[j].code.length∧i = .int .i64 i'∧On M wr (s4,st4)∧Fr M.SB w wr∧Hd (81920*(fs.length-(j+1))+20*(fs[j].code.length-i')≤rm st4)∧Hd (s4.funcs = .slice (some ⟨fk,fo,none⟩) fs.length fcap)∧Hd (s4.fR=fs[j].R∧s4.len=(fs[j].code.length:Nat))∧Hd (SimK (thenX (codeK M (headsOfP fs) fs[j].R.toNat i' (fs[j].code.drop i') (s4,st4)) (funcsK M (headsOfP fs) (fs.drop (j+1)))) T)) (fun i _=>match i with | .int _ q=>fs[j].code.length-q.toNat | _=>0)
     case atStart=>exact⟨0,s3,st2,Nat.zero_le _,rfl,hon1,hf4w,hrj0,hfu,hK0,hst⟩
     case round =>
      clear hon1 hf4w hfu hK0 hst hcf hrj0
      obtain⟨i,s4,st4,hi,rfl,hon,hfr,hri,hfu,hK,hvx⟩:=hrel
      by_cases hil:i<fs[j].code.length
      ·obtain⟨-,ca',ccap',eca,hcode⟩:=HCL.out
       cases eca
       obtain⟨ck,co,rfl,hck,hckb,hcode⟩:=hcode (by intro e;simp[e] at hil)
       have hckb1:¬ ck=b:=fun e=>hckb (Or.inl e)
       obtain⟨av,rv,k0,k1,k2,k3,k4,k5,k6,ha,hr,hal,hrl⟩:=hcode i hil
       clear hcode
       have ha2:IS M.SB wr av fs[j].code[i].args:=ha.fr hfr
       have hr2:IS M.SB wr rv fs[j].code[i].rets:=hr.fr hfr
       clear ha hr
       have gg:∀ o,wr.cell? ⟨ck,o,none⟩=w.cell? ⟨ck,o,none⟩:=fun o=>hfr.cell hck hckb
       rw[← gg] at k0 k1 k2 k3 k4 k5 k6
       clear gg
       have HA:Hd (IS M.SB wr av fs[j].code[i].args):=ha2
       have HR:Hd (IS M.SB wr rv fs[j].code[i].rets):=hr2
       obtain⟨aa,ac,rfl,-⟩:=ha2
       obtain⟨ra,rc,rfl,-⟩:=hr2
       have hst:Hd _:=code_stepK hil (x2:=(inIv fs[j].code[i] (.slice aa fs[j].code[i].args.length ac) (.slice ra fs[j].code[i].rets.length rc) s4,st4)) hvx.out ⟨rfl,rfl⟩
       obtain⟨-,-,-,-,-,-,-,-,-,-,d0,d1,d2,d3,d4,d5,d6,-⟩:=hon.1.facts
       have hz:=hon.1.frozen
       have hb':=hon.1.lt
       go_wp2_with fail
       have hil7:=inIv_lies fs[j].code[i] (.slice aa fs[j].code[i].args.length ac) (.slice ra fs[j].code[i].rets.length rc) hon.1
       have hf7:Fr (fun k=>k=b) wr ((((((((wr.setCell ⟨b,154,none⟩ (vI fs[j].code[i].op)).setCell ⟨b,155,none⟩ (vI fs[j].code[i].r)).setCell ⟨b,156,none⟩ (vI fs[j].code[i].s)).setCell ⟨b,157,none⟩ (vI fs[j].code[i].t)).setCell ⟨b,158,none⟩ (vI fs[j].code[i].n)).setCell ⟨b,159,none⟩ (.slice aa fs[j].code[i].args.length ac)).setCell ⟨b,160,none⟩ (.slice ra fs[j].code[i].rets.length rc)).alloc (.cells #[vI fs[j].code[i].op,vI fs[j].code[i].r,vI fs[j].code[i].s,vI fs[j].code[i].t,vI fs[j].code[i].n,.slice aa fs[j].code[i].args.length ac,.slice ra fs[j].code[i].rets.length rc] 71)) :=
        Fr.alloc (Fr.setCell (Fr.setCell (Fr.setCell (Fr.setCell (Fr.setCell (Fr.setCell (Fr.setCell (Fr.refl (fun k=>k=b) wr) _ _ (Or.inl rfl)) _ _ (Or.inl rfl)) _ _ (Or.inl rfl)) _ _ (Or.inl rfl)) _ _ (Or.inl rfl)) _ _ (Or.inl rfl)) _ _ (Or.inl rfl)) _
       have hong:On M ((((((((wr.setCell ⟨b,154,none⟩ (vI fs[j].code[i].op)).setCell ⟨b,155,none⟩ (vI fs[j].code[i].r)).setCell ⟨b,156,none⟩ (vI fs[j].code[i].s)).setCell ⟨b,157,none⟩ (vI fs[j].code[i].t)).setCell ⟨b,158,none⟩ (vI fs[j].code[i].n)).setCell ⟨b,159,none⟩ (.slice aa fs[j].code[i].args.length ac)).setCell ⟨b,160,none⟩ (.slice ra fs[j].code[i].rets.length rc)).alloc (.cells #[vI fs[j].code[i].op,vI fs[j].code[i].r,vI fs[j].code[i].s,vI fs[j].code[i].t,vI fs[j].code[i].n,.slice aa fs[j].code[i].args.length ac,.slice ra fs[j].code[i].rets.length rc] 71)) (inIv fs[j].code[i] (.slice aa fs[j].code[i].args.length ac) (.slice ra fs[j].code[i].rets.length rc) s4,st4):=hon.fr hf7 (hil7.alloc _) rfl rfl
       change Calls Tryd.prog 65 _ ((((((((wr.setCell ⟨b,154,none⟩ (vI fs[j].code[i].op)).setCell ⟨b,155,none⟩ (vI fs[j].code[i].r)).setCell ⟨b,156,none⟩ (vI fs[j].code[i].s)).setCell ⟨b,157,none⟩ (vI fs[j].code[i].t)).setCell ⟨b,158,none⟩ (vI fs[j].code[i].n)).setCell ⟨b,159,none⟩ (.slice aa fs[j].code[i].args.length ac)).setCell ⟨b,160,none⟩ (.slice ra fs[j].code[i].rets.length rc)).alloc (.cells #[vI fs[j].code[i].op,vI fs[j].code[i].r,vI fs[j].code[i].s,vI fs[j].code[i].t,vI fs[j].code[i].n,.slice aa fs[j].code[i].args.length ac,.slice ra fs[j].code[i].rets.length rc] 71)) _
       generalize ((((((((wr.setCell ⟨b,154,none⟩ (vI fs[j].code[i].op)).setCell ⟨b,155,none⟩ (vI fs[j].code[i].r)).setCell ⟨b,156,none⟩ (vI fs[j].code[i].s)).setCell ⟨b,157,none⟩ (vI fs[j].code[i].t)).setCell ⟨b,158,none⟩ (vI fs[j].code[i].n)).setCell ⟨b,159,none⟩ (.slice aa fs[j].code[i].args.length ac)).setCell ⟨b,160,none⟩ (.slice ra fs[j].code[i].rets.length rc)).alloc (.cells #[vI fs[j].code[i].op,vI fs[j].code[i].r,vI fs[j].code[i].s,vI fs[j].code[i].t,vI fs[j].code[i].n,.slice aa fs[j].code[i].args.length ac,.slice ra fs[j].code[i].rets.length rc] 71))=w6 at hf7 hong ⊢
       have hf6w:Fr M.SB w w6:=hfr.trans (frK hf7)
       have hHb:HeadsAt w6 fk fo (headsOfP fs):=(headsAt_K HFC.out HFIN.out).fr hf6w hfk hfkb
       have hlh:(headsOfP fs).length=fs.length:=by simp[headsOfP]
       obtain⟨hfV,hfP,hfR,hfl0,hfl1⟩:=HFJ.out
       have hPRo:∀ q (h:q<(headsOfP fs).length),(headsOfP fs)[q].1≤8∧(headsOfP fs)[q].2≤4:=fun q h=>(hHb q h).2.2
       clear d0 d1 d2 d3 d4 d5 d6 hz k0 k1 k2 k3 k4 k5 k6 hil7
       refine(instr_K hM (inIv fs[j].code[i] (.slice aa fs[j].code[i].args.length ac) (.slice ra fs[j].code[i].rets.length rc) s4) st4 w6 hong (by have:=hri.out;omega) i (by omega) (by show 0≤s4.len;rw[hK.out.2];omega) (by show s4.len≤4096;rw[hK.out.2];omega)
        fs[j].R.toNat (by show s4.fR=_;rw[hK.out.1,Int.toNat_of_nonneg hfR.1]) (by omega) fs[j].code[i].args fs[j].code[i].rets (IS.fr HA.out (frK hf7)) (IS.fr HR.out (frK hf7)) hal hrl
        (headsOfP fs) fk fo fcap (by rw[hlh];exact hfu.out) hHb hfkb (Nat.lt_of_lt_of_le hfk hf6w.size) (by rw[hlh];exact HFN.out.2)).mono ?_
       rintro e w7 ⟨hf77,hres⟩
       have hf67:Fr M.SB w w7:=hf6w.trans hf77
       cases hx:instrK M (headsOfP fs) fs[j].R.toNat i fs[j].code[i].args fs[j].code[i].rets (inIv fs[j].code[i] (.slice aa fs[j].code[i].args.length ac) (.slice ra fs[j].code[i].rets.length rc) s4,st4) with
       | error z =>
         rw[hx] at hres
         have hres:e = .panicked (viol z.1 z.2):=hres
         subst hres
         have hTz:Hd (T = .error z):=hst.out.1 z hx
         clear hx
         go_wp2_with fail
         exact⟨rfl,overKE_err hTz.out hf67⟩
       | ok y =>
         rw[hx] at hres
         obtain⟨rfl,hon7⟩:=hres
         have hkp:=instrK_kept hx (fun x1 h1=>K_op_kept hM (by have:=hri.out;show 1≤rm st4;omega) h1)
         have hri2:Hd (81920*(fs.length-(j+1))+20*(fs[j].code.length-(i+1))≤rm y.2):=by have h1:=instrK_goes hM.goes hPRo (by omega) hx;have h1:rm st4≤rm y.2+20:=h1;have h2:=hri.out;unfold Hd;omega
         have hn:=hst.out.2 y hx
         have HN:Hd _:=hn
         have hfu2:Hd (y.1.funcs = .slice (some ⟨fk,fo,none⟩) fs.length fcap):=hkp.funcs.trans hfu.out
         have hK2:Hd (y.1.fR=fs[j].R∧y.1.len=(fs[j].code.length:Nat)):=⟨hkp.fR.trans hK.out.1,hkp.len.trans hK.out.2⟩
         clear hx hst hkp hn hf7 hf77 hong hHb hfV hfP hfR hfl0 hfl1 hvx hfu hK HA HR hPRo hri
         go_wp2_with fail
         exact⟨⟨i+1,y.1,y.2,by omega,by simp,hon7,hf67,hri2,hfu2,hK2,HN⟩,by simp;omega⟩
      ·have hie:i=fs[j].code.length:=by omega
       have hn:Hd _:=code_endK hie hvx.out
       clear hvx
       have hri2:Hd (81920*(fs.length-(j+1))≤rm st4):=by have h2:=hri.out;unfold Hd;omega
       clear hri
       subst hie
       go_wp2_with fail
       exact⟨⟨j+1,s4,st4,by omega,by simp,hon,hfr,hri2,hfu,hn⟩,by simp;omega⟩
    ·have hje:j=fs.length:=by omega
     have hn:Hd _:=funcs_endK hje hvx.out
     clear hvx
     subst hje
     go_wp2_with fail
     go_end0
     exact overKE_ok hn.out hfr hon
end Go.Proofs.YtingenonbkencaaDoor
