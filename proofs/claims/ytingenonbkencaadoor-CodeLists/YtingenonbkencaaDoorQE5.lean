import Derived.Test.YtingenonbkencaaDoorQE3J
import Derived.Test.YtingenonbkencaaDoorQC3c
import Derived.Test.YtingenonbkencaaDoorQC3d
set_option linter.unusedVariables false
set_option linter.unusedSimpArgs false
namespace Go.Proofs.YtingenonbkencaaDoor
open Go.RowKit (wrap32 wrap64)
theorem oneX_kept {b:Nat}{M:Mode b}{old v:Int}{x y:WS × M.σ}(h:oneX M old x = .ok (v,y)):Kept x.1 y.1:=by
 unfold oneX at h
 split at h
 ·split at h
  ·cases h;exact⟨rfl,rfl,rfl,rfl,rfl,rfl,rfl,rfl,rfl,rfl,rfl⟩
  ·cases h
 ·cases h
theorem varsX_kept {b:Nat}{M:Mode b}:∀ {l:List Int} {x:WS × M.σ} {vs:List Int} {y:WS × M.σ},varsX M l x = .ok (vs,y)→Kept x.1 y.1
 | [],_,_,_,h=>by simp only[varsX,Except.ok.injEq,Prod.mk.injEq] at h;rw[← h.2];exact Kept.refl _
 | old::r,x,vs,y,h=>by
   simp only[varsX] at h
   split at h
   ·cases h
   ·rename_i v y1 h1
    split at h
    ·cases h
    ·rename_i vs' y' hv
     simp only[Except.ok.injEq,Prod.mk.injEq] at h
     rw[← h.2]
     exact(oneX_kept h1).trans (varsX_kept hv)
theorem listX_kept {b:Nat}{M:Mode b}{n:Nat}{l vs:List Int}{x y:WS × M.σ}(h:listX M n l x = .ok (vs,y)):Kept x.1 y.1:=by
 unfold listX at h
 split at h
 ·cases h
 ·rename_i y' hy
  split at h
  ·have k1:=nextX_kept (Or.inr (Or.inr (Or.inr (Or.inr rfl)))) hy
   have k2:=varsX_kept h
   exact Kept.trans ⟨k1.num,k1.globals,k1.funcs,k1.fP,k1.fR,k1.fV,k1.fC,k1.len,k1.op,k1.args,k1.rets⟩ k2
  ·cases h
theorem listX_setL {b:Nat}(M:Mode b)(o:Nat)(v:Value)(n:Nat)(s:WS)(st:M.σ) :
 listX M n [] (s.setL o v,st)=match listX M n [] (s,st) with | .ok (vs,y)=>.ok (vs,(y.1.setL o v,y.2)) | .error z=>.error z:=by
 have e:({ s.setL o v with count:=(([]:List Int).length:Int) }:WS)=({ s with count:=(([]:List Int).length:Int) }:WS).setL o v:=by unfold WS.setL;split<;>rfl
 have ea:(s.setL o v).at'=s.at':=setL_at s o v
 simp only[listX]
 rw[e,nextX_setL M o v 1 161 rfl,ea]
 cases nextX M 161 1 ({ s with count:=(([]:List Int).length:Int) },st) with
 | error z=>rfl
 | ok y =>
   have ec:(y.1.setL o v).count=y.1.count:=by unfold WS.setL;split<;>rfl
   simp only[ec]
   split
   ·rw[varsX_setL M o v _ y.1 y.2]
    rfl
   ·rfl
def Lt (u v:Value):Prop:=∀ k j,u.ownBlock=some k→v.ownBlock=some j→k<j
theorem Lt.nil_l (v:Value):Lt nilS v:=fun _ _ h=>by cases h
theorem Lt.nil_r (v:Value):Lt v nilS:=fun _ _ _ h=>by cases h
theorem NewL.blk {w w':World}{av:Value}{vs:List Int}(h:NewL w w' av vs):∀ k,av.ownBlock=some k→w.heap.size≤k∧k<w'.heap.size:=by
 intro k e
 rcases h with⟨-,rfl⟩|⟨g,h1,rfl,h2⟩
 ·cases e
 ·cases e;exact⟨h1,(Array.getElem?_eq_some_iff.1 h2).1⟩
def EndsI {b:Nat}(M:Mode b)(w:World)(r:X ((List Int × List Int) × (WS × M.σ)))(e:Ending)(w':World):Prop :=
 Fr M.SB w w'∧match r with
  | .ok (ll,y)=>e = .returned (.tuple #[])∧∃ av rv,(NewL w w' av ll.1∧Lt av rv)∧NewL w w' rv ll.2∧On M w' ({ y.1 with args:=av,rets:=rv },y.2)
  | .error z=>e = .panicked (viol z.1 z.2)
def After {b:Nat}(M:Mode b)(w:World)(r:X ((List Int × List Int) × (WS × M.σ)))(w1:World):Prop :=
 Fr M.SB w w1∧∃ ll y av rv,r = .ok (ll,y)∧(NewL w w1 av ll.1∧Lt av rv)∧NewL w w1 rv ll.2∧On M w1 ({ y.1 with args:=av,rets:=rv },y.2)
theorem After.lies {b:Nat}{M:Mode b}{w:World}{r:X ((List Int × List Int) × (WS × M.σ))}{w1:World}(h:After M w r w1):∃ s,Lies w1 b s:=let ⟨_,_,y,av,rv,_,_,_,h⟩:=h;⟨_,h.1⟩
theorem After.drew {b:Nat}{M:Mode b}{w:World}{r:X ((List Int × List Int) × (WS × M.σ))}{w1:World}(h:After M w r w1):After M w r w1.drew :=
 let ⟨hf,ll,y,av,rv,h1,h2,h3,h4⟩:=h;⟨hf.drew,ll,y,av,rv,h1,h2,h3,h4.drew⟩
theorem After.ends {b:Nat}{M:Mode b}{w:World}{r:X ((List Int × List Int) × (WS × M.σ))}{w1:World}(h:After M w r w1):EndsI M w r (.returned (.tuple #[])) w1:=by
 obtain⟨hf,ll,y,av,rv,rfl,h2,h3,h4⟩:=h
 exact⟨hf,rfl,av,rv,h2,h3,h4⟩
theorem endsI_error {b:Nat}{M:Mode b}{w w':World}{c:X ((List Int × List Int) × (WS × M.σ))}{z:Int × Int}(h:c = .error z)(hf:Fr M.SB w w'):EndsI M w c (.panicked (viol z.1 z.2)) w':=by
 subst h;exact⟨hf,rfl⟩
def FreshOk {b:Nat}(M:Mode b):Prop:=∀ (x:WS × M.σ) (w:World),On M w x→∀ y,nextX M 161 1 ({ x.1 with count:=0 },x.2) = .ok y→∀ k,w.heap.size≤k→¬ M.S k∧¬ M.N k
def retX {b:Nat}(M:Mode b)(n:Nat)(c:X (WS × M.σ)):X ((List Int × List Int) × (WS × M.σ)) :=
 thenX c fun y=>thenX (listX M n [] y) fun q=>.ok ((q.1,[]),q.2)
theorem instr_15 {b:Nat}(M:Mode b)(hN:NextOwn M)(hO:NextOther M)(hF:FreshOk M)(x y:WS × M.σ)(w:World)(h:On M w x)(i:Nat)(hi:i≤4096)(hx:nextX M 154 1 x = .ok y)(hk:y.1.op=15)(hl0:0≤y.1.len)(hl1:y.1.len≤4096)(nb:Bool)
 (hnames:∀ w1,Lies w1 b y.1→Calls Tryd.prog 93 #[.pointer (some ⟨b,122,none⟩),.pointer (some ⟨b,154,none⟩)] w1 fun e w'=>e = .returned (.bool nb)∧w'=w1)
 (ha:y.1.args=nilS) (hr:y.1.rets=nilS) (n:Nat) (hR:y.1.fR=n) (hn:n≤255) :
 Calls Tryd.prog 65 #[.pointer (some ⟨b,0,none⟩),.int .i64 i] w (EndsI M w (retX M n (frontOk M true false nb i x.1.at' y))):=by
 refine askInstr_15 M hN x y w h i hi hx hk hl0 hl1 nb hnames _ (fun j w1=>match j with | 0=>Stage M w y.1 (frontOk M true false nb i x.1.at' y) w1 | 1=>After M w (retX M n (frontOk M true false nb i x.1.at' y)) w1 | _=>False)
  (fun z w1 hz hf=>endsI_error (by simp only[retX,hz,thenX]) hf) ?_ ?_ ?_ ?_ ?_
 ·exact fun y' w1 hy hf hon=>⟨y',hy,hf,hon,frontOk_kept hy⟩
 ·intro j w1 hj
  match j,hj with
  | 0,hj=>exact Stage.lies hj
  | 1,hj=>exact After.lies hj
 ·intro j w1 hj
  match j,hj with
  | 0,hj=>exact Stage.drew hj
  | 1,hj=>exact After.drew hj
 ·rintro w1 ⟨y',hy',hf1,hon,hkp⟩
  refine ownResults_any 159 n y'.1 w1 hon.1 (by rw[hkp.fR,hR]) _ ?_
  refine(list_new M hN hO 159 n (Or.inl rfl) y' w1 hon (by unfold WS.getL;rw[if_pos rfl,hkp.args,ha]) hn (hF y' w1 hon)).mono ?_
  rintro e w2 ⟨hf2,hres⟩
  cases hl:listX M n [] y' with
  | error z =>
    simp only[hl] at hres
    subst hres
    exact⟨Or.inr ⟨_,rfl⟩,Or.inr ⟨_,rfl,endsI_error (by simp only[retX,hy',thenX,hl]) (hf1.trans hf2)⟩⟩
  | ok q =>
    obtain⟨vs,y2⟩:=q
    simp only[hl] at hres
    obtain⟨rfl,av,hnew,hon2⟩:=hres
    have k2:=hkp.trans (listX_kept hl)
    have hy2:y2.1.setL 159 av={ y2.1 with args:=av,rets:=nilS }:=by
     have:y2.1.rets=nilS:=by rw[k2.rets,hr]
     unfold WS.setL;rw[if_pos rfl,← this]
    refine⟨Or.inl rfl,Or.inl ⟨rfl,hf1.trans hf2,(vs,[]),y2,av,nilS,?_,⟨hnew.mono hf1.size,Lt.nil_r _⟩,Or.inl ⟨rfl,rfl⟩,?_⟩⟩
    ·simp only[retX,hy',thenX,hl]
    ·rw[← hy2];exact hon2
 ·exact fun w1 hw1=>After.ends hw1
def calleePart {b:Nat}(M:Mode b)(nf:Nat)(x:WS × M.σ):X (WS × M.σ):=askX M 158 2 (fun s=>decide (0≤s.n∧s.n≤IntKind.i64.wrap ((nf:Int)-1))) 14 x
def callX {b:Nat}(M:Mode b)(heads:List (Nat × Nat))(c:X (WS × M.σ)):X ((List Int × List Int) × (WS × M.σ)) :=
 thenX (thenX c (calleePart M heads.length)) fun y =>
  thenX (listX M ((heads.getD y.1.n.toNat (0,0)).1) [] y) fun q =>
   thenX (listX M ((heads.getD y.1.n.toNat (0,0)).2) [] q.2) fun q'=>.ok ((q.1,q'.1),q'.2)
def Mid {b:Nat}(M:Mode b)(w:World)(heads:List (Nat × Nat))(s0:WS)(c:X (WS × M.σ))(w1:World):Prop :=
 Fr M.SB w w1∧∃ y vs y2 av,thenX c (calleePart M heads.length) = .ok y∧listX M ((heads.getD y.1.n.toNat (0,0)).1) [] y = .ok (vs,y2)∧NewL w w1 av vs∧On M w1 (y2.1.setL 159 av,y2.2)∧Kept s0 y2.1∧y2.1.n=y.1.n∧0≤y.1.n∧y.1.n<heads.length
theorem listX_n {b:Nat}{M:Mode b}{n:Nat}{l vs:List Int}{x y:WS × M.σ}(h:listX M n l x = .ok (vs,y)):y.1.n=x.1.n:=by
 have h1:∀ {old v:Int} {x y:WS × M.σ},oneX M old x = .ok (v,y)→y.1.n=x.1.n:=by
  intro old v x y h
  unfold oneX at h
  split at h
  ·split at h
   ·cases h;rfl
   ·cases h
  ·cases h
 have h2:∀ (l:List Int) {x:WS × M.σ} {vs:List Int} {y:WS × M.σ},varsX M l x = .ok (vs,y)→y.1.n=x.1.n:=by
  intro l
  induction l with
  | nil=>intro x vs y h;simp only[varsX,Except.ok.injEq,Prod.mk.injEq] at h;rw[← h.2]
  | cons old r ih =>
    intro x vs y h
    simp only[varsX] at h
    split at h
    ·cases h
    ·rename_i v y1 hh
     split at h
     ·cases h
     ·rename_i vs' y' hv
      simp only[Except.ok.injEq,Prod.mk.injEq] at h
      rw[← h.2,ih hv,h1 hh]
 unfold listX at h
 split at h
 ·cases h
 ·rename_i y' hy
  split at h
  ·rw[h2 _ h]
   obtain⟨v,st,rfl⟩:=nextX_num hy
   rfl
  ·cases h
theorem instr_11 {b:Nat}(M:Mode b)(hN:NextOwn M)(hO:NextOther M)(hF:FreshOk M)(x y:WS × M.σ)(w:World)(h:On M w x)(i:Nat)(hi:i≤4096)(hx:nextX M 154 1 x = .ok y)(hk:y.1.op=11)(hl0:0≤y.1.len)(hl1:y.1.len≤4096)(nb:Bool)
 (hnames:∀ w1,Lies w1 b y.1→Calls Tryd.prog 93 #[.pointer (some ⟨b,90,none⟩),.pointer (some ⟨b,154,none⟩)] w1 fun e w'=>e = .returned (.bool nb)∧w'=w1)
 (ha:y.1.args=nilS) (hr:y.1.rets=nilS) (heads:List (Nat × Nat)) (fb fo fc:Nat) (hfu:y.1.funcs = .slice (some ⟨fb,fo,none⟩) heads.length fc) (hH:HeadsAt w fb fo heads) (hfb:fb≠b) (hfS:¬ M.S fb) (hflt:fb<w.heap.size) (hnf:heads.length≤65535) (hSnew:∀ k,w.heap.size≤k→¬ M.S k) :
 Calls Tryd.prog 65 #[.pointer (some ⟨b,0,none⟩),.int .i64 i] w (EndsI M w (callX M heads (frontOk M false false nb i x.1.at' y))):=by
 have hSB:¬ M.SB fb:=fun h=>h.elim hfb hfS
 generalize hC:frontOk M false false nb i x.1.at' y=C
 refine askInstr_11 M hN x y w h i hi hx hk hl0 hl1 nb hnames _ (fun j w1=>match j with | 0=>Stage M w y.1 C w1 | 1=>Stage M w y.1 (thenX C (calleePart M heads.length)) w1 | 2=>Mid M w heads y.1 C w1 | 3=>After M w (callX M heads C) w1 | _=>False)
  (fun z w1 hz hf=>endsI_error (by rw[← hC,hz];rfl) hf) ?_ ?_ ?_ ?_ ?_ ?_ ?_
 ·exact fun y' w1 hy hf hon=>⟨y',hC ▸ hy,hf,hon,frontOk_kept hy⟩
 ·intro j w1 hj
  match j,hj with
  | 0,hj=>exact Stage.lies hj
  | 1,hj=>exact Stage.lies hj
  | 2,hj=>obtain⟨_,_,_,_,_,_,_,_,hon,_⟩:=hj;exact⟨_,hon.1⟩
  | 3,hj=>exact After.lies hj
 ·intro j w1 hj
  match j,hj with
  | 0,hj=>exact Stage.drew hj
  | 1,hj=>exact Stage.drew hj
  | 2,hj=>obtain⟨hf,y1,vs,y2,av,e1,e2,e3,hon,hkk⟩:=hj;exact⟨hf.drew,y1,vs,y2,av,e1,e2,e3,hon.drew,hkk⟩
  | 3,hj=>exact After.drew hj
 ·exact fun w1 hw1=>stage_step (p:=calleePart M heads.length) (fun a a' ha=>askX_kept (by simp) ha) (fun z w' hz hf=>endsI_error (by unfold callX;rw[hz];rfl) hf)
   (fun yy hon hkp=>callee_own M hN yy w1 hon 11 2 (by rw[hkp.op,hk];rfl) (by omega) rfl (by omega) (by omega) _ heads.length fc (by rw[hkp.funcs,hfu])) hw1
 ·rintro w1 ⟨y',hy',hf1,hon,hkp⟩
  -- the callee is there
  have hN0:0≤y'.1.n∧y'.1.n<heads.length:=by
   unfold thenX at hy'
   split at hy'
   ·rename_i yc _
    unfold calleePart askX at hy'
    split at hy'
    ·split at hy'
     ·rename_i hcond
      cases hy'
      simp only[decide_eq_true_eq] at hcond
      rw[wrap_small _ (by omega) (by omega)] at hcond
      omega
     ·cases hy'
    ·cases hy'
   ·cases hy'
  obtain⟨N,hNe⟩:=Int.eq_ofNat_of_zero_le hN0.1
  have hNlt:N<heads.length:=by omega
  have hH1:=hH.fr hf1 hflt hSB N hNlt
  have hgd:heads.getD y'.1.n.toNat (0,0)=heads[N]:=by
   rw[hNe];simp[List.getD,hNlt]
  refine calleeParams_any 159 (heads[N].1) N fb fo heads.length fc y'.1 w1 hon.1 hNe hNlt (by rw[hkp.funcs,hfu]) hH1.1 _ ?_
  refine(list_new M hN hO 159 (heads[N].1) (Or.inl rfl) y' w1.drew hon.drew (by unfold WS.getL;rw[if_pos rfl,hkp.args,ha]) (by have:=hH1.2.2.1;omega) (hF y' w1.drew hon.drew)).mono ?_
  rintro e w2 ⟨hf2,hres⟩
  have hf12:Fr M.SB w w2:=hf1.drew.trans hf2
  cases hl:listX M (heads[N].1) [] y' with
  | error z =>
    simp only[hl] at hres
    subst hres
    exact⟨Or.inr ⟨_,rfl⟩,Or.inr ⟨_,rfl,endsI_error (by unfold callX;rw[hy'];simp only[thenX,hgd,hl]) hf12⟩⟩
  | ok q =>
    obtain⟨vs,y2⟩:=q
    simp only[hl] at hres
    obtain⟨rfl,av,hnew,hon2⟩:=hres
    exact⟨Or.inl rfl,Or.inl ⟨rfl,hf12,y',vs,y2,av,hy',by rw[hgd];exact hl,hnew.mono hf1.size,hon2,hkp.trans (listX_kept hl),listX_n hl,hN0⟩⟩
 ·rintro w1 ⟨hf1,y',vs,y2,av,hy',hl,hnew,hon,hkp,hn2,hN0⟩
  obtain⟨N,hNe⟩:=Int.eq_ofNat_of_zero_le hN0.1
  have hNlt:N<heads.length:=by omega
  have hH1:=hH.fr hf1 hflt hSB N hNlt
  have hgd:heads.getD y'.1.n.toNat (0,0)=heads[N]:=by
   rw[hNe];simp[List.getD,hNlt]
  have hs:∀ s:WS,s.setL 159 av={ s with args:=av }:=fun s=>by unfold WS.setL;rw[if_pos rfl]
  refine calleeResults_any 160 (heads[N].2) N fb fo heads.length fc (y2.1.setL 159 av) w1 hon.1 (by rw[hs];exact hn2.trans hNe) hNlt (by rw[hs];exact hkp.funcs.trans hfu) hH1.2.1 _ ?_
  refine(list_new M hN hO 160 (heads[N].2) (Or.inr rfl) (y2.1.setL 159 av,y2.2) w1.drew hon.drew (by rw[hs];unfold WS.getL;rw[if_neg (by omega)];exact hkp.rets.trans hr) (by have:=hH1.2.2.2;omega) (hF _ w1.drew hon.drew)).mono ?_
  rintro e w2 ⟨hf2,hres⟩
  have hf12:Fr M.SB w w2:=hf1.drew.trans hf2
  rw[listX_setL M 159 av (heads[N].2) y2.1 y2.2] at hres
  cases hl2:listX M (heads[N].2) [] y2 with
  | error z =>
    simp only[hl2] at hres
    subst hres
    exact⟨Or.inr ⟨_,rfl⟩,Or.inr ⟨_,rfl,endsI_error (by unfold callX;rw[hy'];simp only[thenX,hl];rw[hgd];simp only[hl2]) hf12⟩⟩
  | ok q =>
    obtain⟨vs2,y3⟩:=q
    simp only[hl2] at hres
    obtain⟨rfl,rv,hnew2,hon3⟩:=hres
    have e3:(y3.1.setL 159 av).setL 160 rv={ y3.1 with args:=av,rets:=rv }:=by
     rw[hs];unfold WS.setL;rw[if_neg (by omega)]
    refine⟨Or.inl rfl,Or.inl ⟨rfl,hf12,(vs,vs2),y3,av,rv,?_,⟨hnew.fr (show Fr M.SB w1 w2 from⟨hf2.os,hf2.tape,hf2.output,hf2.size,hf2.block⟩) ?_,fun k j h1 h2=>Nat.lt_of_lt_of_le (hnew.blk k h1).2 (show w1.drew.heap.size≤j from(hnew2.blk j h2).1)⟩,hnew2.mono hf1.size,by rw[← e3];exact hon3⟩⟩
    ·unfold callX;rw[hy'];simp only[thenX,hl];rw[hgd];simp only[hl2]
    ·intro k hk1 hk2 hSk
     rcases hSk with e | e
     ·have:=h.1.lt;omega
     ·exact absurd e (hSnew k hk1)
 ·exact fun w1 hw1=>After.ends hw1
end Go.Proofs.YtingenonbkencaaDoor
