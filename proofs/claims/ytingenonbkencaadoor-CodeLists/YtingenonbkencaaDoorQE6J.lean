import Derived.Test.YtingenonbkencaaDoorQE2
import Derived.Test.YtingenonbkencaaDoorQE5
import Derived.Test.YtingenonbkencaaDoorQC1a
import Derived.Test.YtingenonbkencaaDoorQC1b
import Derived.Test.YtingenonbkencaaDoorQC1c
import Derived.Test.YtingenonbkencaaDoorQC2J
import Derived.Deep.RegionLaw
import Derived.Deep.CutRange
import Derived.Deep.RegionHeld3
import Derived.RegionDies
set_option linter.unusedVariables false
set_option linter.unusedSimpArgs false
namespace Go.Proofs.YtingenonbkencaaDoor
open Go.RowKit (wrap32 wrap64)
def KeepsX {b:Nat}{M:Mode b}(s0:WS)(c:X (WS × M.σ)):Prop:=∀ y,c = .ok y→Kept s0 y.1
def KeepsP {b:Nat}{M:Mode b}(p:WS × M.σ→X (WS × M.σ)):Prop:=∀ y y',p y = .ok y'→Kept y.1 y'.1
theorem keeps_then {b:Nat}{M:Mode b}{s0:WS}{c:X (WS × M.σ)}{p:WS × M.σ→X (WS × M.σ)}(h:KeepsX s0 c)(hp:KeepsP p):KeepsX s0 (thenX c p):=by
 intro y hy
 unfold thenX at hy
 split at hy
 ·exact(h _ rfl).trans (hp _ _ hy)
 ·cases hy
theorem keeps_var {b:Nat}(M:Mode b)(o:Nat)(ho:o=155∨o=156∨o=157∨o=158∨o=161):KeepsP (varPart M o):=fun _ _ h=>askX_kept ho h
theorem keeps_fields {b:Nat}(M:Mode b):KeepsP (fieldsPart M):=fun _ _ h=>askX_kept (by simp) h
theorem keeps_field {b:Nat}(M:Mode b):KeepsP (fieldPart M):=fun _ _ h=>askX_kept (by simp) h
theorem keeps_global {b:Nat}(M:Mode b):KeepsP (globalPart M):=fun _ _ h=>askX_kept (by simp) h
theorem keeps_target {b:Nat}(M:Mode b):KeepsP (targetPart M):=fun _ _ h=>askX_kept (by simp) h
theorem keeps_int {b:Nat}(M:Mode b):KeepsP (intPart M):=fun _ _ h=>nextX_kept (by simp) h
theorem partsX_kept {b:Nat}{M:Mode b}{s0:WS}(op:Nat){c:X (WS × M.σ)}(h:KeepsX s0 c):KeepsX s0 (partsX M op c):=by
 unfold partsX
 split
 all_goals repeat (first | exact h | (refine keeps_then ?_ (keeps_var M _ (by simp))) | (refine keeps_then ?_ (keeps_fields M)) | (refine keeps_then ?_ (keeps_field M)) | (refine keeps_then ?_ (keeps_global M)) | (refine keeps_then ?_ (keeps_target M)) | (refine keeps_then ?_ (keeps_int M)))
def instrX {b:Nat}(M:Mode b)(heads:List (Nat × Nat))(fR i:Nat)(x:WS × M.σ):X ((List Int × List Int) × (WS × M.σ)) :=
 thenX (nextX M 154 1 x) fun y =>
  if 1≤y.1.op∧y.1.op≤17 then
   (if y.1.op=15 then retX M fR (frontOk M true false true i x.1.at' y)
    else if y.1.op=11 then callX M heads (frontOk M false false true i x.1.at' y)
    else thenX (partsX M y.1.op.toNat (frontOk M (y.1.op==13) (y.1.op==6) true i x.1.at' y)) fun y'=>.ok (([],[]),y'))
  else .error (12,x.1.at')
theorem ends_instr {b:Nat}{M:Mode b}{w w':World}{s0:WS}{c:X (WS × M.σ)}{e:Ending}(hk:KeepsX s0 c)(ha:s0.args=nilS)(hr:s0.rets=nilS)(h:Ends M w c e w') :
 EndsI M w (thenX c fun y'=>.ok (([],[]),y')) e w':=by
 obtain⟨hf,h⟩:=h
 refine⟨hf,?_⟩
 cases c with
 | error z=>exact h
 | ok y =>
   obtain⟨he,hon⟩:=h
   have k:=hk y rfl
   refine⟨he,nilS,nilS,⟨Or.inl ⟨rfl,rfl⟩,Lt.nil_l _⟩,Or.inl ⟨rfl,rfl⟩,?_⟩
   have:({ y.1 with args:=nilS,rets:=nilS }:WS)=y.1:=by
    have h1:=k.args.trans ha
    have h2:=k.rets.trans hr
    generalize y.1=s at h1 h2
    cases s
    simp only at h1 h2
    subst h1 h2
    rfl
   rw[this]
   exact hon
structure Blank (s:WS):Prop where
 r:s.r=0
 s':s.s=0
 t:s.t=0
 n:s.n=0
 args:s.args=nilS
 rets:s.rets=nilS
theorem instr_any {b:Nat}(M:Mode b)(hN:NextOwn M)(hO:NextOther M)(hF:FreshOk M)(x:WS × M.σ)(w:World)(h:On M w x)(hbl:Blank x.1)(i:Nat)(hi:i≤4096)(hl0:0≤x.1.len)(hl1:x.1.len≤4096)
 (fR:Nat) (hR:x.1.fR=fR) (hRn:fR≤255) (heads:List (Nat × Nat)) (fb fo fc:Nat) (hfu:x.1.funcs = .slice (some ⟨fb,fo,none⟩) heads.length fc) (hH:HeadsAt w fb fo heads) (hfb:fb≠b) (hfS:¬ M.S fb) (hflt:fb<w.heap.size) (hnf:heads.length≤65535) (hSnew:∀ k,w.heap.size≤k→¬ M.S k) :
 Calls Tryd.prog 65 #[.pointer (some ⟨b,0,none⟩),.int .i64 i] w (EndsI M w (instrX M heads fR i x)):=by
 cases hx:nextX M 154 1 x with
 | error z =>
   refine(askInstr_short M hN x w h i z hx).mono ?_
   rintro e w' ⟨rfl,hf⟩
   exact endsI_error (by simp only[instrX,hx,thenX]) hf
 | ok y =>
   by_cases hop:1≤y.1.op∧y.1.op≤17
   rotate_left
   ·refine(askInstr_noOp M hN x y w h i hx hop).mono ?_
    rintro e w' ⟨rfl,hf⟩
    exact endsI_error (z:=(12,x.1.at')) (by simp only[instrX,hx,thenX];rw[if_neg hop]) hf
   obtain⟨v,st,hy⟩:=nextX_num hx
   have g:y.1.len=x.1.len∧y.1.funcs=x.1.funcs∧y.1.fR=x.1.fR∧y.1.args=x.1.args∧y.1.rets=x.1.rets∧y.1.r=x.1.r∧y.1.s=x.1.s∧y.1.t=x.1.t∧y.1.n=x.1.n:=by
    rw[hy];exact⟨rfl,rfl,rfl,rfl,rfl,rfl,rfl,rfl,rfl⟩
   obtain⟨g1,g2,g3,g4,g5,g6,g7,g8,g9⟩:=g
   have ha:y.1.args=nilS:=g4.trans hbl.args
   have hr:y.1.rets=nilS:=g5.trans hbl.rets
   have hla:lenOf y.1.args=0:=by rw[ha];rfl
   have hlr:lenOf y.1.rets=0:=by rw[hr];rfl
   have z0:=g6.trans hbl.r;have z1:=g7.trans hbl.s';have z2:=g8.trans hbl.t;have z3:=g9.trans hbl.n
   have hX:instrX M heads fR i x=(if y.1.op=15 then retX M fR (frontOk M true false true i x.1.at' y)
    else if y.1.op=11 then callX M heads (frontOk M false false true i x.1.at' y)
    else thenX (partsX M y.1.op.toNat (frontOk M (y.1.op==13) (y.1.op==6) true i x.1.at' y)) fun y'=>.ok (([],[]),y')):=by
    simp only[instrX,hx,thenX];rw[if_pos hop]
   rw[hX]
   obtain⟨k,hk⟩:=Int.eq_ofNat_of_zero_le (show 0≤y.1.op by omega)
   have hk17:k=1∨k=2∨k=3∨k=4∨k=5∨k=6∨k=7∨k=8∨k=9∨k=10∨k=11∨k=12∨k=13∨k=14∨k=15∨k=16∨k=17:=by omega
   clear hX hop
   have hl0':0≤y.1.len:=by omega
   have hl1':y.1.len≤4096:=by omega
   rcases hk17 with rfl | rfl | rfl | rfl | rfl | rfl | rfl | rfl | rfl | rfl | rfl | rfl | rfl | rfl | rfl | rfl | rfl
   ·rw[if_neg (by rw[hk];decide),if_neg (by rw[hk];decide),hk]
    exact(instr_1 M hN x y w h i hi hx hk hl0' hl1' true (fun w1 hl=>namesAll_1 y.1 w1 hl none none 0 0 0 0 ha hr z1 z2 hla hlr)).mono fun e w' he=>ends_instr (partsX_kept 1 (fun _ h=>frontOk_kept h)) ha hr he
   ·rw[if_neg (by rw[hk];decide),if_neg (by rw[hk];decide),hk]
    exact(instr_2 M hN x y w h i hi hx hk hl0' hl1' true (fun w1 hl=>namesAll_2 y.1 w1 hl none none 0 0 0 0 ha hr z2 z3 hla hlr)).mono fun e w' he=>ends_instr (partsX_kept 2 (fun _ h=>frontOk_kept h)) ha hr he
   ·rw[if_neg (by rw[hk];decide),if_neg (by rw[hk];decide),hk]
    exact(instr_3 M hN x y w h i hi hx hk hl0' hl1' true (fun w1 hl=>namesAll_3 y.1 w1 hl none none 0 0 0 0 ha hr z3 hla hlr)).mono fun e w' he=>ends_instr (partsX_kept 3 (fun _ h=>frontOk_kept h)) ha hr he
   ·rw[if_neg (by rw[hk];decide),if_neg (by rw[hk];decide),hk]
    exact(instr_4 M hN x y w h i hi hx hk hl0' hl1' true (fun w1 hl=>namesAll_4 y.1 w1 hl none none 0 0 0 0 ha hr z3 hla hlr)).mono fun e w' he=>ends_instr (partsX_kept 4 (fun _ h=>frontOk_kept h)) ha hr he
   ·rw[if_neg (by rw[hk];decide),if_neg (by rw[hk];decide),hk]
    exact(instr_5 M hN x y w h i hi hx hk hl0' hl1' true (fun w1 hl=>namesAll_5 y.1 w1 hl none none 0 0 0 0 ha hr z2 z3 hla hlr)).mono fun e w' he=>ends_instr (partsX_kept 5 (fun _ h=>frontOk_kept h)) ha hr he
   ·rw[if_neg (by rw[hk];decide),if_neg (by rw[hk];decide),hk]
    exact(instr_6 M hN x y w h i hi hx hk hl0' hl1' true (fun w1 hl=>namesAll_6 y.1 w1 hl none none 0 0 0 0 ha hr z1 z2 hla hlr)).mono fun e w' he=>ends_instr (partsX_kept 6 (fun _ h=>frontOk_kept h)) ha hr he
   ·rw[if_neg (by rw[hk];decide),if_neg (by rw[hk];decide),hk]
    exact(instr_7 M hN x y w h i hi hx hk hl0' hl1' true (fun w1 hl=>namesAll_7 y.1 w1 hl none none 0 0 0 0 ha hr z2 hla hlr)).mono fun e w' he=>ends_instr (partsX_kept 7 (fun _ h=>frontOk_kept h)) ha hr he
   ·rw[if_neg (by rw[hk];decide),if_neg (by rw[hk];decide),hk]
    exact(instr_8 M hN x y w h i hi hx hk hl0' hl1' true (fun w1 hl=>namesAll_8 y.1 w1 hl none none 0 0 0 0 ha hr z2 hla hlr)).mono fun e w' he=>ends_instr (partsX_kept 8 (fun _ h=>frontOk_kept h)) ha hr he
   ·rw[if_neg (by rw[hk];decide),if_neg (by rw[hk];decide),hk]
    exact(instr_9 M hN x y w h i hi hx hk hl0' hl1' true (fun w1 hl=>namesAll_9 y.1 w1 hl none none 0 0 0 0 ha hr z1 z2 hla hlr)).mono fun e w' he=>ends_instr (partsX_kept 9 (fun _ h=>frontOk_kept h)) ha hr he
   ·rw[if_neg (by rw[hk];decide),if_neg (by rw[hk];decide),hk]
    exact(instr_10 M hN x y w h i hi hx hk hl0' hl1' true (fun w1 hl=>namesAll_10 y.1 w1 hl none none 0 0 0 0 ha hr z0 z2 hla hlr)).mono fun e w' he=>ends_instr (partsX_kept 10 (fun _ h=>frontOk_kept h)) ha hr he
   ·rw[if_neg (by rw[hk];decide),if_pos (by rw[hk];rfl)]
    exact instr_11 M hN hO hF x y w h i hi hx hk hl0' hl1' true (fun w1 hl=>namesAll_11 y.1 w1 hl none none 0 0 0 0 ha hr z0 z1 z2) ha hr heads fb fo fc (g2.trans hfu) hH hfb hfS hflt hnf hSnew
   ·rw[if_neg (by rw[hk];decide),if_neg (by rw[hk];decide),hk]
    exact(instr_12 M hN x y w h i hi hx hk hl0' hl1' true (fun w1 hl=>namesAll_12 y.1 w1 hl none none 0 0 0 0 ha hr z0 z2 z3 hla hlr)).mono fun e w' he=>ends_instr (partsX_kept 12 (fun _ h=>frontOk_kept h)) ha hr he
   ·rw[if_neg (by rw[hk];decide),if_neg (by rw[hk];decide),hk]
    exact(instr_13 M hN x y w h i hi hx hk hl0' hl1' true (fun w1 hl=>namesAll_13 y.1 w1 hl none none 0 0 0 0 ha hr z0 z1 z2 hla hlr)).mono fun e w' he=>ends_instr (partsX_kept 13 (fun _ h=>frontOk_kept h)) ha hr he
   ·rw[if_neg (by rw[hk];decide),if_neg (by rw[hk];decide),hk]
    exact(instr_14 M hN x y w h i hi hx hk hl0' hl1' true (fun w1 hl=>namesAll_14 y.1 w1 hl none none 0 0 0 0 ha hr z0 z2 hla hlr)).mono fun e w' he=>ends_instr (partsX_kept 14 (fun _ h=>frontOk_kept h)) ha hr he
   ·rw[if_pos (by rw[hk];rfl)]
    exact instr_15 M hN hO hF x y w h i hi hx hk hl0' hl1' true (fun w1 hl=>namesAll_15 y.1 w1 hl none none 0 0 0 0 ha hr z0 z1 z2 z3 hlr) ha hr fR (g3.trans hR) hRn
   ·rw[if_neg (by rw[hk];decide),if_neg (by rw[hk];decide),hk]
    exact(instr_16 M hN x y w h i hi hx hk hl0' hl1' true (fun w1 hl=>namesAll_16 y.1 w1 hl none none 0 0 0 0 ha hr z1 z2 z3 hla hlr)).mono fun e w' he=>ends_instr (partsX_kept 16 (fun _ h=>frontOk_kept h)) ha hr he
   ·rw[if_neg (by rw[hk];decide),if_neg (by rw[hk];decide),hk]
    exact(instr_17 M hN x y w h i hi hx hk hl0' hl1' true (fun w1 hl=>namesAll_17 y.1 w1 hl none none 0 0 0 0 ha hr z3 hla hlr)).mono fun e w' he=>ends_instr (partsX_kept 17 (fun _ h=>frontOk_kept h)) ha hr he
structure AI where
 op:Int
 r:Int
 s:Int
 t:Int
 n:Int
 args:List Int
 rets:List Int
def z7 : List Value:=[vI 0,vI 0,vI 0,vI 0,vI 0,nilS,nilS]
def zeros7 (n:Nat):Array Value:=madeCells z7.toArray (n*7)
theorem run_make65 (n:Nat)(hn:n≤4096)(w:World):(Instr.makeSlice 65 (.int .i64 n) (.int .i64 n)).run Tryd.prog w = .ok (.slice (some ⟨w.heap.size,0,none⟩) n n) (w.alloc (.cells (zeros7 n) 71)):=by
 rw[run_make_of 65 71 (.agg z7.toArray) 7 88 Tryd.underlying65 (by kernel_rfl) (by kernel_rfl) (by kernel_rfl) n (by omega) (by omega) w]
 rfl
def blank (s:WS):WS:={ s with op:=0,r:=0,s:=0,t:=0,n:=0,args:=nilS,rets:=nilS }
theorem blank_lies {w:World}{b:Nat}{s:WS}(h:Lies w b s) :
 Lies (((((((w.setCell ⟨b,154,none⟩ (vI 0)).setCell ⟨b,155,none⟩ (vI 0)).setCell ⟨b,156,none⟩ (vI 0)).setCell ⟨b,157,none⟩ (vI 0)).setCell ⟨b,158,none⟩ (vI 0)).setCell ⟨b,159,none⟩ nilS).setCell ⟨b,160,none⟩ nilS) b (blank s):=by
 have h1:=h.setCell (s':={ s with op:=0 }) 154 (vI 0) (by kernel_rfl)
 have h2:=h1.setCell (s':={ s with op:=0,r:=0 }) 155 (vI 0) (by kernel_rfl)
 have h3:=h2.setCell (s':={ s with op:=0,r:=0,s:=0 }) 156 (vI 0) (by kernel_rfl)
 have h4:=h3.setCell (s':={ s with op:=0,r:=0,s:=0,t:=0 }) 157 (vI 0) (by kernel_rfl)
 have h5:=h4.setCell (s':={ s with op:=0,r:=0,s:=0,t:=0,n:=0 }) 158 (vI 0) (by kernel_rfl)
 have h6:=h5.setCell (s':={ s with op:=0,r:=0,s:=0,t:=0,n:=0,args:=nilS }) 159 nilS (by kernel_rfl)
 exact h6.setCell (s':=blank s) 160 nilS (by kernel_rfl)
theorem func_lies {w:World}{b:Nat}{s:WS}(fP fR fV len:Int)(fC:Value)(h:Lies w b s) :
 Lies (((((w.setCell ⟨b,149,none⟩ (vI fP)).setCell ⟨b,150,none⟩ (vI fR)).setCell ⟨b,151,none⟩ (vI fV)).setCell ⟨b,152,none⟩ fC).setCell ⟨b,153,none⟩ (vI len)) b { s with fP:=fP,fR:=fR,fV:=fV,fC:=fC,len:=len }:=by
 have h1:=h.setCell (s':={ s with fP:=fP }) 149 (vI fP) (by kernel_rfl)
 have h2:=h1.setCell (s':={ s with fP:=fP,fR:=fR }) 150 (vI fR) (by kernel_rfl)
 have h3:=h2.setCell (s':={ s with fP:=fP,fR:=fR,fV:=fV }) 151 (vI fV) (by kernel_rfl)
 have h4:=h3.setCell (s':={ s with fP:=fP,fR:=fR,fV:=fV,fC:=fC }) 152 fC (by kernel_rfl)
 exact h4.setCell (s':={ s with fP:=fP,fR:=fR,fV:=fV,fC:=fC,len:=len }) 153 (vI len) (by kernel_rfl)
structure Kept2 (s s':WS):Prop where
 num:s'.num=s.num
 globals:s'.globals=s.globals
 funcs:s'.funcs=s.funcs
 fP:s'.fP=s.fP
 fR:s'.fR=s.fR
 fV:s'.fV=s.fV
 fC:s'.fC=s.fC
 len:s'.len=s.len
theorem Kept2.refl (s:WS):Kept2 s s:=⟨rfl,rfl,rfl,rfl,rfl,rfl,rfl,rfl⟩
theorem Kept2.trans {a b c:WS}(h:Kept2 a b)(k:Kept2 b c):Kept2 a c :=
 ⟨k.num.trans h.num,k.globals.trans h.globals,k.funcs.trans h.funcs,k.fP.trans h.fP,k.fR.trans h.fR,k.fV.trans h.fV,k.fC.trans h.fC,k.len.trans h.len⟩
theorem Kept.two {a b:WS}(h:Kept a b):Kept2 a b:=⟨h.num,h.globals,h.funcs,h.fP,h.fR,h.fV,h.fC,h.len⟩
theorem thenX_ok {α β:Type}{c:X α}{p:α→X β}{r:β}(h:thenX c p = .ok r):∃ y,c = .ok y∧p y = .ok r:=by
 unfold thenX at h
 split at h
 ·exact⟨_,rfl,h⟩
 ·cases h
theorem instrX_kept {b:Nat}{M:Mode b}{heads:List (Nat × Nat)}{fR i:Nat}{x y:WS × M.σ}{ll:List Int × List Int}(h:instrX M heads fR i x = .ok (ll,y)):Kept2 x.1 y.1:=by
 obtain⟨y1,h1,h2⟩:=thenX_ok h
 have k1:Kept2 x.1 y1.1:=by
  obtain⟨v,st,rfl⟩:=nextX_num h1
  exact⟨rfl,rfl,rfl,rfl,rfl,rfl,rfl,rfl⟩
 refine k1.trans ?_
 split at h2
 ·split at h2
  ·obtain⟨y2,h3,h4⟩:=thenX_ok h2
   obtain⟨q,h5,h6⟩:=thenX_ok h4
   simp only[Except.ok.injEq,Prod.mk.injEq] at h6
   rw[← h6.2]
   exact((frontOk_kept h3).trans (listX_kept h5)).two
  ·split at h2
   ·obtain⟨y2,h3,h4⟩:=thenX_ok h2
    obtain⟨y2',h3',h3''⟩:=thenX_ok h3
    obtain⟨q,h5,h6⟩:=thenX_ok h4
    obtain⟨q',h7,h8⟩:=thenX_ok h6
    simp only[Except.ok.injEq,Prod.mk.injEq] at h8
    rw[← h8.2]
    exact((((frontOk_kept h3').trans (askX_kept (by simp) h3'')).trans (listX_kept h5)).trans (listX_kept h7)).two
   ·obtain⟨y2,h3,h4⟩:=thenX_ok h2
    simp only[Except.ok.injEq,Prod.mk.injEq] at h4
    rw[← h4.2]
    exact(partsX_kept _ (fun _ h=>frontOk_kept h) y2 h3).two
 ·cases h2
def aiOf (ll:List Int × List Int)(s:WS):AI:=⟨s.op,s.r,s.s,s.t,s.n,ll.1,ll.2⟩
def codeX {b:Nat}(M:Mode b)(heads:List (Nat × Nat))(fR len:Nat):Nat→WS × M.σ→X (List AI × (WS × M.σ))
 | 0,x=>.ok ([],x)
 | m+1,x=>match instrX M heads fR (len-(m+1)) (blank x.1,x.2) with
   | .error z=>.error z
   | .ok (ll,y)=>match codeX M heads fR len m y with
     | .error z=>.error z
     | .ok (l,y')=>.ok (aiOf ll y.1::l,y')
def contC {α:Type}(done:List AI):X (List AI × α)→X (List AI × α)
 | .ok (vs,y)=>.ok (done++vs,y)
 | .error z=>.error z
theorem contC_nil {α:Type}(r:X (List AI × α)):contC [] r=r:=by cases r<;>simp[contC]
theorem contC_cons {b:Nat}(M:Mode b)(heads:List (Nat × Nat))(fR len m:Nat)(done:List AI)(x y:WS × M.σ)(ll:List Int × List Int)(h:instrX M heads fR (len-(m+1)) (blank x.1,x.2) = .ok (ll,y)) :
 contC done (codeX M heads fR len (m+1) x)=contC (done++[aiOf ll y.1]) (codeX M heads fR len m y):=by
 simp only[codeX,h]
 cases codeX M heads fR len m y with
 | error z=>rfl
 | ok p=>simp[contC]
def CodeCells (w0 w:World):List AI→List Value→Prop
 | [],cs=>cs=[]
 | a::l,cs=>∃ av rv rest,cs=[vI a.op,vI a.r,vI a.s,vI a.t,vI a.n,av,rv]++rest∧NewL w0 w av a.args∧NewL w0 w rv a.rets∧CodeCells w0 w l rest∧Lt av rv∧∀ v∈rest,Lt av v∧Lt rv v
theorem CodeCells.length {w0 w:World}:∀ {l:List AI} {cs:List Value},CodeCells w0 w l cs→cs.length=l.length*7
 | [],cs,h=>by rw[show cs=[] from h];rfl
 | a::l,cs,h=>by
   obtain⟨av,rv,rest,rfl,-,-,h,-⟩:=h
   simp only[List.length_append,List.length_cons,List.length_nil,CodeCells.length h]
   omega
theorem cells7_blk {P:Nat→Prop}{a b c d e:Int}{av rv:Value}(h1:∀ k,av.ownBlock=some k→P k)(h2:∀ k,rv.ownBlock=some k→P k):∀ v∈[vI a,vI b,vI c,vI d,vI e,av,rv],∀ k,v.ownBlock=some k→P k:=by
 intro v hv k hk
 simp only[List.mem_cons,List.not_mem_nil,or_false] at hv
 rcases hv with rfl | rfl | rfl | rfl | rfl | rfl | rfl
 ·cases hk
 ·cases hk
 ·cases hk
 ·cases hk
 ·cases hk
 ·exact h1 k hk
 ·exact h2 k hk
theorem CodeCells.blk {w0 w:World}:∀ {l:List AI} {cs:List Value},CodeCells w0 w l cs→∀ v∈cs,∀ k,v.ownBlock=some k→w0.heap.size≤k∧k<w.heap.size
 | [],cs,h,v,hv=>by rw[show cs=[] from h] at hv;cases hv
 | a::l,cs,h,v,hv=>by
   obtain⟨av,rv,rest,rfl,h1,h2,h3,-⟩:=h
   rcases List.mem_append.1 hv with hv | hv
   ·exact cells7_blk (P:=fun k=>w0.heap.size≤k∧k<w.heap.size) h1.blk h2.blk v hv
   ·exact CodeCells.blk h3 v hv
theorem CodeCells.snoc {w0 w:World}(a:AI)(av rv:Value)(ha:NewL w0 w av a.args)(hr:NewL w0 w rv a.rets)(hlt:Lt av rv):∀ {l:List AI} {cs:List Value},(∀ v∈cs,Lt v av∧Lt v rv)→CodeCells w0 w l cs→CodeCells w0 w (l++[a]) (cs++[vI a.op,vI a.r,vI a.s,vI a.t,vI a.n,av,rv])
 | [],cs,_,h=>by rw[show cs=[] from h];exact⟨av,rv,[],rfl,ha,hr,rfl,hlt,fun _ h=>by cases h⟩
 | a'::l,cs,hb,h=>by
   obtain⟨av',rv',rest,rfl,h1,h2,h,h3,h4⟩:=h
   refine⟨av',rv',rest++[vI a.op,vI a.r,vI a.s,vI a.t,vI a.n,av,rv],by simp,h1,h2,CodeCells.snoc a av rv ha hr hlt (fun v hv=>hb v (List.mem_append.2 (Or.inr hv))) h,h3,fun v hv=>?_⟩
   rcases List.mem_append.1 hv with hv | hv
   ·exact h4 v hv
   ·have ba:=hb av' (by simp)
    have br:=hb rv' (by simp)
    exact⟨fun k j e1 e2=>cells7_blk (P:=fun j=>k<j) (fun j e=>ba.1 k j e1 e) (fun j e=>ba.2 k j e1 e) v hv j e2,fun k j e1 e2=>cells7_blk (P:=fun j=>k<j) (fun j e=>br.1 k j e1 e) (fun j e=>br.2 k j e1 e) v hv j e2⟩
theorem CodeCells.fr {S:Nat→Prop}{w0 w w':World}(f:Fr S w w')(hS:∀ k,w0.heap.size≤k→k<w.heap.size→¬ S k):∀ {l:List AI} {cs:List Value},CodeCells w0 w l cs→CodeCells w0 w' l cs
 | [],_,h=>h
 | _::_,_,h=>by
   obtain⟨av,rv,rest,e,h1,h2,h,h3⟩:=h
   exact⟨av,rv,rest,e,h1.fr f hS,h2.fr f hS,CodeCells.fr f hS h,h3⟩
theorem CodeCells.mono {w0 w1 w:World}(hs:w0.heap.size≤w1.heap.size):∀ {l:List AI} {cs:List Value},CodeCells w1 w l cs→CodeCells w0 w l cs
 | [],_,h=>h
 | _::_,_,h=>by
   obtain⟨av,rv,rest,e,h1,h2,h,h3⟩:=h
   exact⟨av,rv,rest,e,h1.mono hs,h2.mono hs,CodeCells.mono hs h,h3⟩
def z7s (n:Nat):List Value:=(List.replicate n z7).flatten
theorem z7s_length (n:Nat):(z7s n).length=n*7:=by
 induction n with
 | zero=>rfl
 | succ n ih =>
   unfold z7s at *
   rw[List.replicate_succ,List.flatten_cons,List.length_append,ih]
   simp[z7];omega
theorem zeros7_eq (n:Nat):zeros7 n=(z7s n).toArray:=by
 unfold zeros7 madeCells
 apply Array.ext
 ·simp[z7s_length]
 ·intro i h1 h2
  simp only[List.getElem_toArray]
  have hi:i<n*7:=by simpa[z7s_length] using h2
  have key:∀ (n i:Nat) (h:i<(z7s n).length),(z7s n)[i]=z7.toArray[i % 7]! := by
   intro n
   induction n with
   | zero=>intro i h;simp[z7s] at h
   | succ n ih =>
     intro i h
     have e:z7s (n+1)=z7++z7s n:=by unfold z7s;rw[List.replicate_succ,List.flatten_cons]
     simp only[e]
     by_cases h7:i<7
     ·rw[List.getElem_append_left (by simpa[z7] using h7),Nat.mod_eq_of_lt h7]
      simp[z7,getElem!_pos,h7]
     ·rw[List.getElem_append_right (by simp[z7];omega)]
      rw[ih]
      simp only[z7,List.length_cons,List.length_nil]
      rw[show i % 7=(i-7) % 7 by omega]
  rw[key]
  simp[z7]
set_option maxRecDepth 100000
set_option maxHeartbeats 4000000
def EndsC {b:Nat}(M:Mode b)(w:World)(len:Nat)(r:X (List AI × (WS × M.σ)))(e:Ending)(w':World):Prop :=
 Fr M.SB w w'∧match r with
  | .ok (l,y)=>∃ g cs av rv,w.heap.size≤g∧e = .returned (.slice (some ⟨g,0,none⟩) len len)∧w'.heap[g]?=some (.cells cs.toArray 71)∧CodeCells w w' l cs∧On M w' ({ y.1 with args:=av,rets:=rv },y.2)
  | .error z=>e = .panicked (viol z.1 z.2)
theorem sets7 {w:World}{g k:Nat}{done:List Value}{rest:List Value}(hd:done.length=k*7)(v0 v1 v2 v3 v4 v5 v6:Value)(h:w.heap[g]?=some (.cells (done++(z7++rest)).toArray 71)) :
 (((((((w.setCell ⟨g,k*7,none⟩ v0).setCell ⟨g,k*7+1,none⟩ v1).setCell ⟨g,k*7+2,none⟩ v2).setCell ⟨g,k*7+3,none⟩ v3).setCell ⟨g,k*7+4,none⟩ v4).setCell ⟨g,k*7+5,none⟩ v5).setCell ⟨g,k*7+6,none⟩ v6).heap[g]?
   = some (.cells (done++[v0,v1,v2,v3,v4,v5,v6]++rest).toArray 71):=by
 have key:∀ (w:World) (l:List Value) (o:Nat) (v:Value),w.heap[g]?=some (.cells (done++l).toArray 71)→(w.setCell ⟨g,k*7+o,none⟩ v).heap[g]?=some (.cells (done++l.set o v).toArray 71):=by
  intro w l o v h
  unfold World.setCell
  simp only[Array.getElem?_modify]
  rw[if_pos trivial,h]
  simp only[Option.map_some,Option.isSome_none,Bool.false_eq_true,if_false,List.setIfInBounds_toArray]
  rw[List.set_append,if_neg (by omega),show k*7+o-done.length=o by omega]
 have h0:=key _ _ 0 v0 h
 have h1:=key _ _ 1 v1 h0
 have h2:=key _ _ 2 v2 h1
 have h3:=key _ _ 3 v3 h2
 have h4:=key _ _ 4 v4 h3
 have h5:=key _ _ 5 v5 h4
 have h6:=key _ _ 6 v6 h5
 rw[List.append_assoc]
 exact h6
theorem NewL.slice {w0 w:World}{av:Value}{vs:List Int}(h:NewL w0 w av vs):∃ a n c,av = .slice a n c:=by
 rcases h with⟨-,rfl⟩|⟨g,-,rfl,-⟩
 ·exact⟨none,0,0,rfl⟩
 ·exact⟨_,_,_,rfl⟩
theorem z7s_pos (n:Nat)(h:0<n):z7s n=z7++z7s (n-1):=by
 cases n with
 | zero=>omega
 | succ n=>unfold z7s;rw[List.replicate_succ,List.flatten_cons];rfl
theorem readCode_any {b:Nat}(M:Mode b)(hN:NextOwn M)(hO:NextOther M)(hF:FreshOk M)(x:WS × M.σ)(w:World)(h:On M w x)(fP fV:Int)(fR len:Nat)(x1:WS × M.σ)(hx1:Hd (x1=({ x.1 with fP:=fP,fR:=fR,fV:=fV,fC:=.slice none 0 0,len:=len },x.2)))(hlen:len≤4096)(hRn:fR≤255)
 (heads:List (Nat × Nat)) (fb fo fc:Nat) (hfu:x.1.funcs = .slice (some ⟨fb,fo,none⟩) heads.length fc) (hH:HeadsAt w fb fo heads) (hfb:fb≠b) (hfS:¬ M.S fb) (hflt:fb<w.heap.size) (hnf:heads.length≤65535) (hSnew:∀ k,w.heap.size≤k→¬ M.S k)
 (hMg:∀ (g:Nat) st p w',M.I st p w'→∀ {w''},Fr (·=g) w' w''→w.heap.size≤g→M.I st p w'') :
 Calls Tryd.prog 64 #[.pointer (some ⟨b,0,none⟩),.agg #[vI fP,vI fR,vI fV,.slice none 0 0],.int .i64 len] w (EndsC M w len (codeX M heads fR len len x1)):=by
 have HFU:Hd (x.1.funcs = .slice (some ⟨fb,fo,none⟩) heads.length fc):=hfu
 clear hfu
 have hmk:=run_make65 len hlen
 have hb:=h.1.lt
 obtain⟨-,-,-,-,-,c149,c150,c151,c152,c153,-⟩:=h.1.facts
 have hz:=h.1.frozen
 go_enter Tryd.func64,Tryd.ntmps64
 go_wp2_with fail
 have hlf:=func_lies fP fR fV len (.slice none 0 0) h.1
 have hsz:((((((w.setCell ⟨b,149,none⟩ (vI fP)).setCell ⟨b,150,none⟩ (vI fR)).setCell ⟨b,151,none⟩ (vI fV)).setCell ⟨b,152,none⟩ (.slice none 0 0)).setCell ⟨b,153,none⟩ (vI len)).alloc (.cells #[vI fP,vI fR,vI fV,.slice none 0 0] 67)).heap.size=w.heap.size+1:=by simp
 have hfr:Fr (fun k=>k=b) w ((((((w.setCell ⟨b,149,none⟩ (vI fP)).setCell ⟨b,150,none⟩ (vI fR)).setCell ⟨b,151,none⟩ (vI fV)).setCell ⟨b,152,none⟩ (.slice none 0 0)).setCell ⟨b,153,none⟩ (vI len)).alloc (.cells #[vI fP,vI fR,vI fV,.slice none 0 0] 67)) :=
  Fr.alloc (Fr.setCell (Fr.setCell (Fr.setCell (Fr.setCell (Fr.setCell (Fr.refl (fun k=>k=b) w) _ _ (Or.inl rfl)) _ _ (Or.inl rfl)) _ _ (Or.inl rfl)) _ _ (Or.inl rfl)) _ _ (Or.inl rfl)) _
 have hll:=Lies.alloc hlf (.cells #[vI fP,vI fR,vI fV,.slice none 0 0] 67)
 generalize ((((((w.setCell ⟨b,149,none⟩ (vI fP)).setCell ⟨b,150,none⟩ (vI fR)).setCell ⟨b,151,none⟩ (vI fV)).setCell ⟨b,152,none⟩ (.slice none 0 0)).setCell ⟨b,153,none⟩ (vI len)).alloc (.cells #[vI fP,vI fR,vI fV,.slice none 0 0] 67))=wa at hsz hfr hll ⊢
 rw[← hsz]
 have hgb:(wa.alloc (.cells (zeros7 len) 71)).heap[wa.heap.size]?=some (.cells (z7s len).toArray 71):=by rw[heap_alloc_last,zeros7_eq]
 have hfr':Fr (fun k=>k=b) w (wa.alloc (.cells (zeros7 len) 71)):=Fr.alloc hfr _
 have hll':=Lies.alloc hll (.cells (zeros7 len) 71)
 have hsz':(wa.alloc (.cells (zeros7 len) 71)).heap.size=wa.heap.size+1:=by simp
 generalize (wa.alloc (.cells (zeros7 len) 71))=wl at hgb hfr' hll' hsz' ⊢
 have honl:On M wl x1:=by rw[hx1.out];exact h.fr hfr' hll' rfl rfl
 have hx1f:x1.1.fR=fR∧x1.1.len=len∧x1.1.funcs = .slice (some ⟨fb,fo,none⟩) heads.length fc:=by rw[hx1.out];exact⟨rfl,rfl,HFU.out⟩
 have hgw:w.heap.size≤wa.heap.size:=by omega
 generalize wa.heap.size=g at *
 have hgb':g≠b:=by omega
 have hgS:=hSnew g (by omega)
 have hfl:Fr M.SB w wl:=hfr'.mono (fun k _ hk=>Or.inl hk)
 have hHl:HeadsAt wl fb fo heads:=hH.fr hfr' hflt (fun e=>hfb e)
 have hflt':fb<wl.heap.size:=Nat.lt_of_lt_of_le hflt hfr'.size
 have hSn:∀ k,wl.heap.size≤k→¬ M.S k:=fun k hk=>hSnew k (by omega)
 have hfbg:fb≠g:=by omega
 clear hll hll' hfr hfr' hsz hmk c149 c150 c151 c152 c153 hlf hz hx1 h hH
 go_loopw [21] (fun i wr=>∃ (k:Nat) (done:List AI) (y:WS × M.σ) (av rv:Value) (cs:List Value),k≤len∧i = .int .i64 k∧done.length=k∧On M wr ({ y.1 with args:=av,rets:=rv },y.2)∧Hd (Kept2 x1.1 y.1) ∧
  Fr (fun j=>M.SB j∨j=g) wl wr∧Hd (wr.heap[g]?=some (.cells (cs++z7s (len-k)).toArray 71))∧Hd (CodeCells wl wr done cs)∧Hd (codeX M heads fR len len x1=contC done (codeX M heads fR len (len-k) y))) (fun i _=>match i with | .int _ q=>len-q.toNat | _=>0)
 case atStart=>exact⟨0,[],x1,x1.1.args,x1.1.rets,[],Nat.zero_le _,rfl,rfl,honl,Kept2.refl _,Fr.refl _ _,hgb,rfl,by unfold Hd;rw[contC_nil];rfl⟩
 case round =>
  obtain⟨k,done,y,av,rv,cs,hk,rfl,hdl,hony,hky,hfy,hgy,hcy,hvx⟩:=hrel
  by_cases hlt:k<len
  ·obtain⟨-,-,-,-,-,-,-,-,-,-,d0,d1,d2,d3,d4,d5,d6,-⟩:=hony.1.facts
   have hzy:=hony.1.frozen
   have hby:=hony.1.lt
   go_wp2_with fail
   have hli:=blank_lies hony.1
   have hf7:Fr (fun k=>k=b) wr (((((((wr.setCell ⟨b,154,none⟩ (vI 0)).setCell ⟨b,155,none⟩ (vI 0)).setCell ⟨b,156,none⟩ (vI 0)).setCell ⟨b,157,none⟩ (vI 0)).setCell ⟨b,158,none⟩ (vI 0)).setCell ⟨b,159,none⟩ nilS).setCell ⟨b,160,none⟩ nilS) :=
    Fr.setCell (Fr.setCell (Fr.setCell (Fr.setCell (Fr.setCell (Fr.setCell (Fr.setCell (Fr.refl (fun k=>k=b) wr) _ _ (Or.inl rfl)) _ _ (Or.inl rfl)) _ _ (Or.inl rfl)) _ _ (Or.inl rfl)) _ _ (Or.inl rfl)) _ _ (Or.inl rfl)) _ _ (Or.inl rfl)
   change Calls Tryd.prog 65 _ (((((((wr.setCell ⟨b,154,none⟩ (vI 0)).setCell ⟨b,155,none⟩ (vI 0)).setCell ⟨b,156,none⟩ (vI 0)).setCell ⟨b,157,none⟩ (vI 0)).setCell ⟨b,158,none⟩ (vI 0)).setCell ⟨b,159,none⟩ nilS).setCell ⟨b,160,none⟩ nilS) _
   generalize (((((((wr.setCell ⟨b,154,none⟩ (vI 0)).setCell ⟨b,155,none⟩ (vI 0)).setCell ⟨b,156,none⟩ (vI 0)).setCell ⟨b,157,none⟩ (vI 0)).setCell ⟨b,158,none⟩ (vI 0)).setCell ⟨b,159,none⟩ nilS).setCell ⟨b,160,none⟩ nilS)=wb at hli hf7 ⊢
   have honb:On M wb (blank y.1,y.2):=hony.fr hf7 hli rfl rfl
   have hHy:HeadsAt wr fb fo heads:=hHl.fr hfy hflt' (fun e=>e.elim (fun e=>e.elim hfb hfS) hfbg)
   have hltr:fb<wr.heap.size:=Nat.lt_of_lt_of_le hflt' hfy.size
   have hHb:HeadsAt wb fb fo heads:=hHy.fr hf7 hltr hfb
   have hgr:g<wr.heap.size:=(Array.getElem?_eq_some_iff.1 hgy.out).1
   have hky':=hky.out
   clear d0 d1 d2 d3 d4 d5 d6 hzy
   refine(instr_any M hN hO hF (blank y.1,y.2) wb honb ⟨rfl,rfl,rfl,rfl,rfl,rfl⟩ k (by omega) (by show 0≤y.1.len;rw[hky'.len,hx1f.2.1];omega) (by show y.1.len≤4096;rw[hky'.len,hx1f.2.1];omega) fR (hky'.fR.trans hx1f.1) hRn heads fb fo fc (hky'.funcs.trans hx1f.2.2) hHb hfb hfS (Nat.lt_of_lt_of_le hltr hf7.size) hnf (fun j hj=>hSn j (by have:=hfy.size;have:=hf7.size;omega))).mono ?_
   rintro e w2 ⟨hf2,hres⟩
   have hf72:Fr M.SB wr w2:=(hf7.mono (fun k _ hk=>Or.inl hk)).trans hf2
   have hfin:Fr M.SB w w2:=⟨hf72.os.trans (hfy.os.trans hfl.os),hf72.tape.trans (hfy.tape.trans hfl.tape),hf72.output.trans (hfy.output.trans hfl.output),Nat.le_trans hfl.size (Nat.le_trans hfy.size hf72.size),fun j hj hS=>by
    rw[hf72.block j (Nat.lt_of_lt_of_le hj (Nat.le_trans hfl.size hfy.size)) hS,hfy.block j (Nat.lt_of_lt_of_le hj hfl.size) (fun h=>h.elim hS (fun e=>by omega)),hfl.block j hj hS]⟩
   have hstep:Hd (len-k=(len-k-1)+1):=by unfold Hd;omega
   have hidx:Hd (len-((len-k-1)+1)=k):=by unfold Hd;omega
   cases hix:instrX M heads fR k (blank y.1,y.2) with
   | error z =>
     simp only[hix] at hres
     subst hres
     have HE:Hd (codeX M heads fR len len x1 = .error z):=by
      unfold Hd;rw[hvx.out,hstep.out];simp only[codeX];rw[hidx.out,hix];rfl
     clear hix
     go_wp2_with fail
     refine⟨rfl,hfin,?_⟩
     rw[HE.out]
   | ok q =>
     obtain⟨ll,y2⟩:=q
     simp only[hix] at hres
     obtain⟨rfl,av2,rv2,⟨hn1,hlt12⟩,hn2,hon2⟩:=hres
     have HB1:Hd (Lt av2 rv2∧(∀ k,av2.ownBlock=some k→wr.heap.size≤k)∧(∀ k,rv2.ownBlock=some k→wr.heap.size≤k)):=⟨hlt12,fun k e=>by have:=(hn1.blk k e).1;have:=hf7.size;omega,fun k e=>by have:=(hn2.blk k e).1;have:=hf7.size;omega⟩
     clear hlt12
     obtain⟨a1,l1,c1,rfl⟩:=hn1.slice
     obtain⟨a2,l2,c2,rfl⟩:=hn2.slice
     have hg2:w2.heap[g]?=some (.cells (cs++(z7++z7s (len-k-1))).toArray 71):=by
      rw[hf72.block g hgr (fun h=>h.elim hgb' hgS),hgy.out,z7s_pos (len-k) (by omega)]
     have hcl:cs.length=k*7:=by rw[← hdl];exact hcy.out.length
     have hcell:∀ j,j<7→w2.cell? ⟨g,k*7+j,none⟩=z7[j]?:=by
      intro j hj
      unfold World.cell?
      simp only[hg2]
      rw[← hcl]
      simp only[Option.isSome_none,Bool.false_eq_true,if_false,List.getElem?_toArray]
      rw[List.getElem?_append_right (by omega),show cs.length+j-cs.length=j by omega,List.getElem?_append_left (by simp[z7];omega)]
     have g0:=hcell 0 (by omega);have g1:=hcell 1 (by omega);have g2:=hcell 2 (by omega);have g3:=hcell 3 (by omega);have g4:=hcell 4 (by omega);have g5:=hcell 5 (by omega);have g6:=hcell 6 (by omega)
     simp only[z7,nilS] at g0 g1 g2 g3 g4 g5 g6
     simp at g0 g1 g2 g3 g4 g5 g6
     have hzg:∀ o,w2.frozen? ⟨g,o,none⟩=false:=by intro o;unfold World.frozen?;simp only[hg2];simp
     obtain⟨-,-,-,-,-,-,-,-,-,-,d0,d1,d2,d3,d4,d5,d6,-⟩:=hon2.1.facts
     simp only at d0 d1 d2 d3 d4 d5 d6
     have HG2:Hd (w2.heap[g]?=some (.cells (cs++(z7++z7s (len-k-1))).toArray 71)):=hg2
     have HIX:Hd (instrX M heads fR k (blank y.1,y.2) = .ok (ll,y2)):=hix
     clear hg2 hcell hix
     go_wp2_with fail
     have hsets:=sets7 hcl (vI y2.1.op) (vI y2.1.r) (vI y2.1.s) (vI y2.1.t) (vI y2.1.n) (.slice a1 l1 c1) (.slice a2 l2 c2) HG2.out
     have hfs:Fr (fun j=>j=g) w2 (((((((w2.setCell ⟨g,k*7,none⟩ (vI y2.1.op)).setCell ⟨g,k*7+1,none⟩ (vI y2.1.r)).setCell ⟨g,k*7+2,none⟩ (vI y2.1.s)).setCell ⟨g,k*7+3,none⟩ (vI y2.1.t)).setCell ⟨g,k*7+4,none⟩ (vI y2.1.n)).setCell ⟨g,k*7+5,none⟩ (.slice a1 l1 c1)).setCell ⟨g,k*7+6,none⟩ (.slice a2 l2 c2)) :=
      Fr.setCell (Fr.setCell (Fr.setCell (Fr.setCell (Fr.setCell (Fr.setCell (Fr.setCell (Fr.refl (fun k=>k=g) w2) _ _ (Or.inl rfl)) _ _ (Or.inl rfl)) _ _ (Or.inl rfl)) _ _ (Or.inl rfl)) _ _ (Or.inl rfl)) _ _ (Or.inl rfl)) _ _ (Or.inl rfl)
     have hlw2:wl.heap.size≤w2.heap.size:=Nat.le_trans hfy.size hf72.size
     have hgwl:g<wl.heap.size:=by omega
     have hon3:On M (((((((w2.setCell ⟨g,k*7,none⟩ (vI y2.1.op)).setCell ⟨g,k*7+1,none⟩ (vI y2.1.r)).setCell ⟨g,k*7+2,none⟩ (vI y2.1.s)).setCell ⟨g,k*7+3,none⟩ (vI y2.1.t)).setCell ⟨g,k*7+4,none⟩ (vI y2.1.n)).setCell ⟨g,k*7+5,none⟩ (.slice a1 l1 c1)).setCell ⟨g,k*7+6,none⟩ (.slice a2 l2 c2)) ({ y2.1 with args:=.slice a1 l1 c1,rets:=.slice a2 l2 c2 },y2.2) :=
      ⟨hon2.1.fr hfs (fun e=>hgb' e.symm),hon2.2.1,hMg g _ _ _ hon2.2.2 hfs (by omega)⟩
     have hn1':NewL wl w2 (.slice a1 l1 c1) ll.1:=hn1.mono (Nat.le_trans hfy.size hf7.size)
     have hn2':NewL wl w2 (.slice a2 l2 c2) ll.2:=hn2.mono (Nat.le_trans hfy.size hf7.size)
     have hnG:∀ k,wl.heap.size≤k→k<w2.heap.size→¬ k=g:=fun j hj _ e=>by omega
     have hcs2:CodeCells wl w2 done cs:=hcy.out.fr hf72 (fun j hj hj2 hS=>hS.elim (fun e=>by omega) (hSn j hj))
     have hcs3:=CodeCells.snoc (aiOf ll y2.1) _ _ (hn1'.fr hfs hnG) (hn2'.fr hfs hnG) HB1.out.1 (fun v hv=>⟨fun k j e1 e2=>by have:=(hcy.out.blk v hv k e1).2;have:=HB1.out.2.1 j e2;omega,fun k j e1 e2=>by have:=(hcy.out.blk v hv k e1).2;have:=HB1.out.2.2 j e2;omega⟩) (hcs2.fr hfs hnG)
     have hvx2:Hd (codeX M heads fR len len x1=contC (done++[aiOf ll y2.1]) (codeX M heads fR len (len-(k+1)) y2)):=by
      unfold Hd
      rw[hvx.out,hstep.out]
      have:=contC_cons M heads fR len (len-k-1) done y y2 ll (by rw[hidx.out];exact HIX.out)
      rw[this,show len-(k+1)=len-k-1 by omega]
     refine⟨⟨k+1,done++[aiOf ll y2.1],y2,.slice a1 l1 c1,.slice a2 l2 c2,cs++[vI y2.1.op,vI y2.1.r,vI y2.1.s,vI y2.1.t,vI y2.1.n,.slice a1 l1 c1,.slice a2 l2 c2],by omega,by simp,by simp[hdl],hon3,hky'.trans ((show Kept2 y.1 (blank y.1) from⟨rfl,rfl,rfl,rfl,rfl,rfl,rfl,rfl⟩).trans (instrX_kept HIX.out)),(hfy.trans (hf72.mono (fun _ _ h=>Or.inl h))).trans (hfs.mono (fun _ _ h=>Or.inr h)),?_,hcs3,hvx2⟩,by simp;omega⟩
     unfold Hd
     rw[show len-(k+1)=len-k-1 by omega]
     exact hsets
  ·have hkl:k=len:=by omega
   have hvl:Hd (codeX M heads fR len len x1 = .ok (done,y)):=by
    unfold Hd;rw[hvx.out,show len-k=0 by omega];simp[codeX,contC]
   clear hvx
   go_wp2_with fail
   go_ret
   refine⟨⟨hfy.os.trans hfl.os,hfy.tape.trans hfl.tape,hfy.output.trans hfl.output,Nat.le_trans hfl.size hfy.size,fun j hj hS=>by
    rw[hfy.block j (Nat.lt_of_lt_of_le hj hfl.size) (fun h=>h.elim hS (fun e=>by omega)),hfl.block j hj hS]⟩,?_⟩
   rw[hvl.out]
   refine⟨g,cs,av,rv,by omega,rfl,?_,hcy.out.mono hfl.size,hony⟩
   rw[hgy.out,show len-k=0 by omega]
   simp[z7s]
structure HD where
 P:Int
 R:Int
 V:Int
 len:Int
def hdOf (s:WS):HD:=⟨s.fP,s.fR,s.fV,s.len⟩
def headsX {b:Nat}(M:Mode b):Nat→WS × M.σ→X (List HD × (WS × M.σ))
 | 0,x=>.ok ([],x)
 | m+1,x=>match headX M x with
   | .error z=>.error z
   | .ok y=>match headsX M m y with
     | .error z=>.error z
     | .ok (l,y')=>.ok (hdOf y.1::l,y')
def contH {α:Type}(done:List HD):X (List HD × α)→X (List HD × α)
 | .ok (vs,y)=>.ok (done++vs,y)
 | .error z=>.error z
theorem contH_nil {α:Type}(r:X (List HD × α)):contH [] r=r:=by cases r<;>simp[contH]
theorem contH_cons {b:Nat}(M:Mode b)(m:Nat)(done:List HD)(x y:WS × M.σ)(h:headX M x = .ok y) :
 contH done (headsX M (m+1) x)=contH (done++[hdOf y.1]) (headsX M m y):=by
 simp only[headsX,h]
 cases headsX M m y with
 | error z=>rfl
 | ok p=>simp[contH]
structure KeptH (s s':WS):Prop where
 num:s'.num=s.num
 globals:s'.globals=s.globals
 funcs:s'.funcs=s.funcs
 fC:s'.fC=s.fC
 args:s'.args=s.args
 rets:s'.rets=s.rets
 count:s'.count=s.count
theorem KeptH.refl (s:WS):KeptH s s:=⟨rfl,rfl,rfl,rfl,rfl,rfl,rfl⟩
theorem KeptH.trans {a b c:WS}(h:KeptH a b)(k:KeptH b c):KeptH a c :=
 ⟨k.num.trans h.num,k.globals.trans h.globals,k.funcs.trans h.funcs,k.fC.trans h.fC,k.args.trans h.args,k.rets.trans h.rets,k.count.trans h.count⟩
theorem nextX_keptH {b:Nat}{M:Mode b}{o size:Nat}{x y:WS × M.σ}(ho:o=149∨o=150∨o=151∨o=153)(h:nextX M o size x = .ok y):KeptH x.1 y.1:=by
 obtain⟨v,st,rfl⟩:=nextX_num h
 rcases ho with rfl | rfl | rfl | rfl<;>exact⟨rfl,rfl,rfl,rfl,rfl,rfl,rfl⟩
theorem headOk_ok {s:WS}{p:Int}{u:Unit}(h:headOk s p = .ok u):(0≤s.fV∧s.fV≤255)∧(0≤s.fP∧s.fP≤(if s.fV<8 then s.fV else 8))∧(0≤s.fR∧s.fR≤4)∧s.len≤4096∧0<s.len:=by
 unfold headOk at h
 by_cases a1:0≤s.fV∧s.fV≤255
 ·rw[if_neg (Decidable.not_not.2 a1)] at h
  by_cases a2:0≤s.fP∧s.fP≤(if s.fV<8 then s.fV else 8)
  ·rw[if_neg (Decidable.not_not.2 a2)] at h
   by_cases a3:0≤s.fR∧s.fR≤4
   ·rw[if_neg (Decidable.not_not.2 a3)] at h
    by_cases a4:s.len≤4096
    ·rw[if_neg (Decidable.not_not.2 a4)] at h
     by_cases a5:0<s.len
     ·exact⟨a1,a2,a3,a4,a5⟩
     ·rw[if_pos a5] at h;cases h
    ·rw[if_pos a4] at h;cases h
   ·rw[if_pos a3] at h;cases h
  ·rw[if_pos a2] at h;cases h
 ·rw[if_pos a1] at h;cases h
theorem headX_ok {b:Nat}{M:Mode b}{x y:WS × M.σ}(h:headX M x = .ok y):KeptH x.1 y.1∧(0≤y.1.fV∧y.1.fV≤255)∧(0≤y.1.fP∧y.1.fP≤8)∧(0≤y.1.fR∧y.1.fR≤4)∧0<y.1.len∧y.1.len≤4096:=by
 simp only[headX,bind,Except.bind] at h
 split at h
 ·cases h
 ·rename_i y1 h1
  split at h
  ·cases h
  ·rename_i y2 h2
   split at h
   ·cases h
   ·rename_i y3 h3
    split at h
    ·cases h
    ·rename_i y4 h4
     split at h
     ·cases h
     ·rename_i u h5
      have k:=(((nextX_keptH (by simp) h1).trans (nextX_keptH (by simp) h2)).trans (nextX_keptH (by simp) h3)).trans (nextX_keptH (by simp) h4)
      unfold locX at h
      split at h
      ·cases h
       have a:=headOk_ok h5
       refine⟨⟨k.num,k.globals,k.funcs,k.fC,k.args,k.rets,k.count⟩,a.1,?_,a.2.2.1,a.2.2.2.2,a.2.2.2.1⟩
       have e:(if y4.1.fV<8 then y4.1.fV else 8)≤8:=by split<;>omega
       exact⟨a.2.1.1,Int.le_trans a.2.1.2 e⟩
      ·cases h
theorem rows_apart {w:World}{B e1 e2 s1 s2 n1 n2:Nat}{v1 v2:Value}{x1 x2:List Value}(h1:w.ownsRow B e1 s1 v1 n1 x1)(h2:w.ownsRow B e2 s2 v2 n2 x2)(he:e1≠e2):v1.ownBlock=none∨v1.ownBlock≠v2.ownBlock:=by
 rcases h1.2 with⟨rfl,-⟩|⟨g1,c1,cur1,rfl,-,hb1,-⟩
 ·exact Or.inl rfl
 ·rcases h2.2 with⟨rfl,-⟩|⟨g2,c2,cur2,rfl,-,hb2,-⟩
  ·exact Or.inr (by simp[Value.ownBlock])
  ·refine Or.inr (fun e=>he ?_)
   simp only[Value.ownBlock,Option.some.injEq] at e
   subst e
   rw[hb1] at hb2
   cases hb2
   rfl
theorem grown_fr {w w':World}{row:Option Nat}(h:w.grownBy w' row):Fr (fun k=>row=some k) w w' :=
 ⟨h.os,h.tape,h.output,h.size,fun k hk hS=>h.block k hk (fun e=>hS e.symm)⟩
def funcCells : List HD→List Value→List Value
 | h::r,c::cs=>[vI h.P,vI h.R,vI h.V,c]++funcCells r cs
 | _,_=>[]
theorem funcCells_length : ∀ (l:List HD) (cs:List Value),cs.length=l.length→(funcCells l cs).length=l.length*4
 | [],cs,h=>by cases cs with | nil=>rfl | cons a b=>simp at h
 | x::r,[],h=>by simp at h
 | x::r,c::cs,h=>by
   simp only[funcCells,List.length_append,List.length_cons,List.length_nil]
   rw[funcCells_length r cs (by simpa using h)]
   omega
theorem funcCells_nil : ∀ (l:List HD),funcCells l (List.replicate l.length nilS)=l.flatMap (fun h=>[vI h.P,vI h.R,vI h.V,.slice none 0 0])
 | []=>rfl
 | h::r=>by
   simp only[List.length_cons,List.replicate_succ,funcCells,List.flatMap_cons]
   rw[funcCells_nil r]
   rfl
theorem funcCells_at : ∀ (l:List HD) (cs:List Value) (j:Nat) (hj:j<l.length) (hc:cs.length=l.length),
 (funcCells l cs)[j*4]?=some (vI l[j].P)∧(funcCells l cs)[j*4+1]?=some (vI l[j].R)∧(funcCells l cs)[j*4+2]?=some (vI l[j].V)∧(funcCells l cs)[j*4+3]?=cs[j]?
 | x::r,[],j,hj,hc=>by simp at hc
 | x::r,c::cs,0,_,_=>by simp[funcCells]
 | x::r,c::cs,j+1,hj,hc=>by
   have ih:=funcCells_at r cs j (by simpa using hj) (by simpa using hc)
   simp only[funcCells,List.getElem_cons_succ,List.getElem?_cons_succ]
   have e:∀ m,([vI x.P,vI x.R,vI x.V,c]++funcCells r cs)[(j+1)*4+m]?=(funcCells r cs)[j*4+m]?:=by
    intro m
    rw[List.getElem?_append_right (by simp;omega)]
    congr 1
    simp only[List.length_cons,List.length_nil]
    omega
   have e0:=e 0
   simp only[Nat.add_zero] at e0
   rw[e0,e 1,e 2,e 3]
   exact ih
theorem funcCells_set : ∀ (l:List HD) (cs:List Value) (j:Nat) (v:Value) (tl:List Value),j<l.length→cs.length=l.length →
 (funcCells l cs++tl).set (j*4+3) v=funcCells l (cs.set j v)++tl
 | x::r,[],j,v,tl,hj,hc=>by simp at hc
 | x::r,c::cs,0,v,tl,_,_=>by simp[funcCells]
 | x::r,c::cs,j+1,v,tl,hj,hc=>by
   have ih:=funcCells_set r cs j v tl (by simpa using hj) (by simpa using hc)
   simp only[funcCells,List.set_cons_succ]
   rw[List.append_assoc,List.set_append,if_neg (by simp;omega)]
   simp only[List.length_cons,List.length_nil]
   rw[show(j+1)*4+3-(0+1+1+1+1)=j*4+3 by omega,ih,List.append_assoc]
def funcsX {b:Nat}(M:Mode b)(heads:List (Nat × Nat)):List HD→WS × M.σ→X (List (List AI) × (WS × M.σ))
 | [],x=>.ok ([],x)
 | h::r,x=>match codeX M heads h.R.toNat h.len.toNat h.len.toNat ({ x.1 with fP:=h.P,fR:=(h.R.toNat:Nat),fV:=h.V,fC:=.slice none 0 0,len:=(h.len.toNat:Nat) },x.2) with
   | .error z=>.error z
   | .ok (l,y)=>match funcsX M heads r y with
     | .error z=>.error z
     | .ok (ls,y')=>.ok (l::ls,y')
def contF {α:Type}(done:List (List AI)):X (List (List AI) × α)→X (List (List AI) × α)
 | .ok (vs,y)=>.ok (done++vs,y)
 | .error z=>.error z
theorem contF_nil {α:Type}(r:X (List (List AI) × α)):contF [] r=r:=by cases r<;>simp[contF]
theorem contF_cons {b:Nat}(M:Mode b)(heads:List (Nat × Nat))(done:List (List AI))(h:HD)(r:List HD)(x y:WS × M.σ)(l:List AI)
 (hc:codeX M heads h.R.toNat h.len.toNat h.len.toNat ({ x.1 with fP:=h.P,fR:=(h.R.toNat:Nat),fV:=h.V,fC:=.slice none 0 0,len:=(h.len.toNat:Nat) },x.2) = .ok (l,y)) :
 contF done (funcsX M heads (h::r) x)=contF (done++[l]) (funcsX M heads r y):=by
 simp only[funcsX,hc]
 cases funcsX M heads r y with
 | error z=>rfl
 | ok p=>simp[contF]
structure KeptF (s s':WS):Prop where
 num:s'.num=s.num
 globals:s'.globals=s.globals
 funcs:s'.funcs=s.funcs
theorem codeX_kept {b:Nat}{M:Mode b}{heads:List (Nat × Nat)}{fR len:Nat}:∀ {m:Nat} {x:WS × M.σ} {l:List AI} {y:WS × M.σ},codeX M heads fR len m x = .ok (l,y)→Kept2 x.1 y.1
 | 0,_,_,_,h=>by simp only[codeX,Except.ok.injEq,Prod.mk.injEq] at h;rw[← h.2];exact Kept2.refl _
 | m+1,x,l,y,h=>by
   simp only[codeX] at h
   split at h
   ·cases h
   ·rename_i ll y1 h1
    split at h
    ·cases h
    ·rename_i l' y' h2
     simp only[Except.ok.injEq,Prod.mk.injEq] at h
     rw[← h.2]
     exact((show Kept2 x.1 (blank x.1) from⟨rfl,rfl,rfl,rfl,rfl,rfl,rfl,rfl⟩).trans (instrX_kept h1)).trans (codeX_kept h2)
theorem codeX_length {b:Nat}{M:Mode b}{heads:List (Nat × Nat)}{fR len:Nat}:∀ {m:Nat} {x:WS × M.σ} {l:List AI} {y:WS × M.σ},codeX M heads fR len m x = .ok (l,y)→l.length=m
 | 0,_,_,_,h=>by simp only[codeX,Except.ok.injEq,Prod.mk.injEq] at h;rw[← h.1];rfl
 | m+1,x,l,y,h=>by
   simp only[codeX] at h
   split at h
   ·cases h
   ·split at h
    ·cases h
    ·rename_i l' y' h2
     simp only[Except.ok.injEq,Prod.mk.injEq] at h
     rw[← h.1,List.length_cons,codeX_length h2]
theorem codeX_blank {b:Nat}{M:Mode b}(heads:List (Nat × Nat))(fR len m:Nat)(x x':WS × M.σ)(hm:0<m)(h1:blank x.1=blank x'.1)(h2:x.2=x'.2):codeX M heads fR len m x=codeX M heads fR len m x':=by
 cases m with
 | zero=>exact absurd hm (Nat.lt_irrefl 0)
 | succ m =>
   simp only[codeX]
   rw[h1,h2]
def headsOf (l:List HD):List (Nat × Nat):=l.map (fun h=>(h.P.toNat,h.R.toNat))
theorem headsAt_of {w:World}{g:Nat}{l:List HD}{cs tl:List Value}{e:TypeId}(hb:w.heap[g]?=some (.cells (funcCells l cs++tl).toArray e))(hc:cs.length=l.length)
 (hf:∀ h∈l,(0≤h.P∧h.P≤8)∧(0≤h.R∧h.R≤4)):HeadsAt w g 0 (headsOf l):=by
 intro j hj
 have hj':j<l.length:=by simpa[headsOf] using hj
 have hfl:=funcCells_length l cs hc
 have hat:=funcCells_at l cs j hj' hc
 have hfj:=hf l[j] (List.getElem_mem hj')
 have e1:(headsOf l)[j]=(l[j].P.toNat,l[j].R.toNat):=by simp[headsOf]
 have cell:∀ o,o<(funcCells l cs).length→w.cell? ⟨g,0+o,none⟩=(funcCells l cs)[o]?:=by
  intro o ho
  unfold World.cell?
  simp only[hb,Nat.zero_add,Option.isSome_none,Bool.false_eq_true,if_false,List.getElem?_toArray]
  rw[List.getElem?_append_left ho]
 rw[e1]
 refine⟨?_,?_,?_,?_⟩
 ·rw[cell _ (by omega),hat.1]
  simp only[Option.some.injEq,Value.int.injEq,true_and]
  omega
 ·rw[Nat.add_assoc,cell _ (by omega),hat.2.1]
  simp only[Option.some.injEq,Value.int.injEq,true_and]
  omega
 ·simp only;omega
 ·simp only;omega
def CodesAt (w0 w:World):List (List AI)→List Value→Prop
 | [],_=>True
 | l::ls,c::cs=>(∃ gc cells,w0.heap.size≤gc∧c = .slice (some ⟨gc,0,none⟩) l.length l.length∧w.heap[gc]?=some (.cells cells.toArray 71)∧CodeCells w0 w l cells ∧
    ∃ w1:World,w0.heap.size≤w1.heap.size∧w1.heap.size≤w.heap.size∧gc<w1.heap.size∧(∀ v∈cells,∀ k,v.ownBlock=some k→k<w1.heap.size)∧CodesAt w1 w ls cs)
 | _::_,[]=>False
theorem CodesAt.mono {w0 w1 w:World}(h:w0.heap.size≤w1.heap.size):∀ {ls:List (List AI)} {cs:List Value},CodesAt w1 w ls cs→CodesAt w0 w ls cs
 | [],_,_=>trivial
 | _::_,[],h=>h
 | l::ls,c::cs,⟨gc,cells,h1,h2,h3,h4,w2,h5,h6⟩=>⟨gc,cells,Nat.le_trans h h1,h2,h3,CodeCells.mono h h4,w2,Nat.le_trans h h5,h6⟩
theorem CodesAt.fr {S:Nat→Prop}{w w':World}(f:Fr S w w'):∀ {w0:World} (_:∀ k,w0.heap.size≤k→k<w.heap.size→¬ S k) {ls:List (List AI)} {cs:List Value},CodesAt w0 w ls cs→CodesAt w0 w' ls cs
 | _,_,[],_,h=>h
 | _,_,_::_,[],h=>h
 | w0,hS,l::ls,c::cs,⟨gc,cells,h1,h2,h3,h4,w1,h5,h6,h7,h8,h⟩=>by
   have hlt:gc<w.heap.size:=(Array.getElem?_eq_some_iff.1 h3).1
   exact⟨gc,cells,h1,h2,by rw[f.block gc hlt (hS gc h1 hlt)];exact h3,h4.fr f hS,w1,h5,Nat.le_trans h6 f.size,h7,h8,CodesAt.fr f (fun k hk hk2=>hS k (Nat.le_trans h5 hk) hk2) h⟩
theorem CodesAt.snoc {S:Nat→Prop}{wr w:World}(f:Fr S wr w)(l:List AI)(v:Value)(hv:∃ gc cells,wr.heap.size≤gc∧v = .slice (some ⟨gc,0,none⟩) l.length l.length∧w.heap[gc]?=some (.cells cells.toArray 71)∧CodeCells wr w l cells) :
 ∀ {w0:World} (_:∀ k,w0.heap.size≤k→k<wr.heap.size→¬ S k) {ls:List (List AI)} {cs:List Value},w0.heap.size≤wr.heap.size→ls.length<cs.length→CodesAt w0 wr ls cs→CodesAt w0 w (ls++[l]) (cs.set ls.length v)
 | _,_,[],[],_,hl,_=>by simp at hl
 | w0,_,[],c::cs,h0,_,_=>by
   obtain⟨gc,cells,h1,h2,h3,h4⟩:=hv
   exact⟨gc,cells,Nat.le_trans h0 h1,h2,h3,h4.mono h0,w,Nat.le_trans h0 f.size,Nat.le_refl _,(Array.getElem?_eq_some_iff.1 h3).1,fun v hv k e=>(h4.blk v hv k e).2,trivial⟩
 | _,_,x::ls,[],_,hl,_=>by simp at hl
 | w0,hS,x::ls,c::cs,h0,hl,⟨gc,cells,h1,h2,h3,h4,w1,h5,h6,h7,h8,h9⟩=>by
   have hlt:gc<wr.heap.size:=(Array.getElem?_eq_some_iff.1 h3).1
   simp only[List.cons_append,List.length_cons,List.set_cons_succ]
   exact⟨gc,cells,h1,h2,by rw[f.block gc hlt (hS gc h1 hlt)];exact h3,h4.fr f hS,w1,h5,Nat.le_trans h6 f.size,h7,h8,CodesAt.snoc f l v hv (fun k hk hk2=>hS k (Nat.le_trans h5 hk) hk2) h6 (by simpa using hl) h9⟩
structure Under (b:Nat)(rv:Value)(B:Nat):Prop where
 walk:b<B
 tab:0<B
 bytes:∀ k o n c,rv = .slice (some ⟨k,o,none⟩) n c→n≠0→k<B
theorem On.under {b:Nat}{rv:Value}{bs:List UInt8}{B:Nat}(hu:Under b rv B){w w':World}{x:WS × Unit}(h:On (reading b rv bs) w x)(f:Fr (fun k=>B≤k) w w'):On (reading b rv bs) w' x:=by
 obtain⟨h1,h2,⟨g1,a,c,g2,g3,g4⟩,h4,h5,h6,h7⟩:=h
 have hb:=hu.walk
 have ht:=hu.tab
 refine⟨h1.fr f (by omega),h2,⟨g1,a,c,g2,g3,fun hne=>?_⟩,h4,h5,h6,h7.fr f (by omega)⟩
 obtain⟨k,o,e,hk,hkb,hc⟩:=g4 hne
 subst e
 have:=hu.bytes k o _ c g2 (by intro e;exact hne (List.length_eq_zero_iff.1 e))
 exact⟨k,o,rfl,Nat.lt_of_lt_of_le hk f.size,hkb,fun i hi=>(f.cell hk (by omega)).trans (hc i hi)⟩
def headCells (l:List HD):List Value:=l.flatMap (fun h=>[vI h.P,vI h.R,vI h.V,.slice none 0 0])
def HeadFine (h:HD):Prop:=(0≤h.V∧h.V≤255)∧(0≤h.P∧h.P≤8)∧(0≤h.R∧h.R≤4)∧0<h.len∧h.len≤4096
theorem step_append_own {P:Program}{ops:Array Oper}{o:Oper}{a:Act}{w:World}{K:Act→World→Prop}{Q:Exit→Act→World→Prop}{E:Prop}
 (hg:o.guard=none) (s x:Operand) (t:TypeId) (hop:o.op=Op.call { callee:=Callee.builtin Builtin.append,args:=#[s,x],argTypes:=#[t,t] })
 (base:Nat) (e:TypeId) (z:Value) (size bytes:Nat) (h1:P.underlying t=some (.slice e)) (hinfo:(P.info? e).map (fun i=>(i.zero,i.size,i.bytes))=some (some z,size,bytes)) (h6:z.cells.size=size) (h7:0<size)
 (v:Value) (n:Nat) (xs:List Value) (hs:a.eval s=v) (hown:w.ownsRow base e size v n xs)
 (ad:Addr) (m c:Nat) (news:List Value) (hx:a.eval x = .slice (some ad) m c) (hn:news.length=m*size) (hc:∀ j u,news[j]?=some u→w.cell? (ad.add j)=some u) (h1c:∀ u∈news,u.oneCell'=true)
 (b1:n+m≤maxLen) (b2:(n+m)*bytes≤140737488355328) (hbase:base≤w.heap.size)
 (hK:∀ a' c' w',w'.ownsRow base e size (.slice a' (n+m) c') (n+m) (xs++news)→w.grownBy w' v.ownBlock→K (a.put o.dst (.slice a' (n+m) c')) w') :
 if Region.wanted o (yielded ops a.tmps)=true then Oper.wp P o a w K Q else E:=by
 obtain⟨i,h2,h3,h4,h5⟩:=info_parts hinfo
 have hw:Region.wanted o (yielded ops a.tmps)=true:=by simp[Region.wanted,hg]
 rw[if_pos hw]
 obtain⟨v',w',hrun,r1,r2,_⟩:=run_append_own (P:=P) w base t o.type e i z size bytes h1 h2 h3 h4 h5 h6 h7 v n xs hown ad m c news hn hc h1c b1 b2 hbase
 obtain⟨a',c',rfl⟩:∃ a' c',v' = .slice a' (n+m) c':=by
  rcases r1.2 with⟨e1,e2⟩|⟨g,cap,cur,e1,-⟩
  ·exact⟨none,0,by rw[e1,e2]⟩
  ·exact⟨_,_,e1⟩
 unfold Oper.wp
 simp[execOp,hop,resolve,invoke,builtin,hs,hx,hrun,Result.andThen]
 exact hK a' c' w' r1 r2
theorem ownsRow_fr {S:Nat→Prop}{w w':World}{B e size n:Nat}{v:Value}{xs:List Value}(h:w.ownsRow B e size v n xs)(f:Fr S w w')(hS:∀ g,v.ownBlock=some g→¬ S g):w'.ownsRow B e size v n xs:=by
 refine⟨h.1,?_⟩
 rcases h.2 with h2 | ⟨g,cap,cur,rfl,h3,h4,h5⟩
 ·exact Or.inl h2
 ·exact Or.inr ⟨g,cap,cur,rfl,h3,by rw[f.block g ((Array.getElem?_eq_some_iff.1 h4).1) (hS g rfl)];exact h4,h5⟩
theorem Under.I {b:Nat}{rv:Value}{bs:List UInt8}{B:Nat}(hu:Under b rv B){st:Unit}{p:Int}{w w':World}(h:(reading b rv bs).I st p w)(f:Fr (fun k=>B≤k) w w'):(reading b rv bs).I st p w':=by
 obtain⟨⟨g1,a,c,g2,g3,g4⟩,h4,h5,h6,h7⟩:=h
 have ht:=hu.tab
 refine⟨⟨g1,a,c,g2,g3,fun hne=>?_⟩,h4,h5,h6,h7.fr f (by omega)⟩
 obtain⟨k,o,e,hk,hkb,hc⟩:=g4 hne
 subst e
 have:=hu.bytes k o _ c g2 (by intro e;exact hne (List.length_eq_zero_iff.1 e))
 exact⟨k,o,rfl,Nat.lt_of_lt_of_le hk f.size,hkb,fun i hi=>(f.cell hk (by omega)).trans (hc i hi)⟩
theorem reading_fresh (b:Nat)(rv:Value)(bs:List UInt8):FreshOk (reading b rv bs):=by
 intro x w hx y hy k hk
 refine⟨fun h=>h.elim,?_⟩
 obtain⟨hl,hn,⟨g1,a,c,g2,g3,g4⟩,h4,h5,h6,h7⟩:=hx
 have hne:bs≠[]:=by
  intro e
  subst e
  unfold nextX at hy
  simp only[reading,rd] at hy
  split at hy
  ·rename_i heq
   split at heq
   ·rename_i heq2
    split at heq2
    ·rename_i hle;simp at hle
    ·cases heq2
   ·cases heq
  ·cases hy
 obtain⟨k',o,e,hk',hkb,hc⟩:=g4 hne
 rintro(rfl | ⟨o',n',c',e'⟩)
 ·have:=hl.lt;omega
 ·rw[g2,e] at e'
  simp only[Value.slice.injEq,Option.some.injEq,Addr.mk.injEq] at e'
  omega
theorem cells_funcs (s:WS)(v:Value):s.cells.setIfInBounds 147 v={ s with funcs:=v }.cells:=by kernel_rfl
def throughX (b:Nat)(rv:Value)(bs:List UInt8)(s:WS)(fv:Value):X (Int × List HD × List (List AI)) :=
 if bs.take 6=magicL.take bs.length then
  match askX (reading b rv bs) 146 1 (fun s=>decide (0≤s.globals∧s.globals≤16)) 18 (s,()) with
  | .error z=>.error z
  | .ok y2=>match askX (reading b rv bs) 161 2 (fun s=>decide (1≤s.count∧s.count≤65535)) 20 y2 with
    | .error z=>.error z
    | .ok y3=>match headsX (reading b rv bs) y3.1.count.toNat y3 with
      | .error z=>.error z
      | .ok (done,y)=>match funcsX (reading b rv bs) (headsOf done) done ({ y.1 with funcs:=fv },y.2) with
        | .error z=>.error z
        | .ok (fs,z)=>if z.1.at'=bs.length then .ok (y3.1.globals,done,fs) else .error (22,z.1.at')
 else .error (10,0)
def LaidP (w w':World)(v:Value)(G:Int)(done:List HD)(fs:List (List AI)):Prop :=
 ∃ g cap cs tl,w.heap.size≤g∧v = .agg #[vI G,.slice (some ⟨g,0,none⟩) done.length cap]∧cs.length=done.length∧fs.length=done.length∧1≤done.length∧done.length≤65535 ∧
  w'.heap[g]?=some (.cells (funcCells done cs++tl).toArray 67)∧CodesAt w w' fs cs∧(∀ h∈done,HeadFine h)∧done.length≤cap∧cap≤maxLen∧done.length*4+tl.length=cap*4
def Thru (b:Nat)(rv:Value)(bs:List UInt8)(s:WS)(w:World)(e:Ending)(w':World):Prop :=
 Fr (fun k=>k=b) w w'∧∃ fv,match throughX b rv bs s fv with
  | .error z=>e = .panicked (viol z.1 z.2)
  | .ok (G,done,fs)=>∃ v,e = .returned v∧LaidP w w' v G done fs
theorem fr_sb {b:Nat}{rv:Value}{bs:List UInt8}{w w':World}(h:Fr (reading b rv bs).SB w w'):Fr (fun k=>k=b) w w':=h.mono (fun _ _ hk=>hk.elim id (fun h=>h.elim))
theorem reading_len {b:Nat}{ra:Option Addr}{rl rc:Nat}{bs:List UInt8}{st:Unit}{p:Int}{w:World}(h:(reading b (.slice ra rl rc) bs).I st p w):rl=bs.length:=by
 obtain⟨⟨-,a,c,e,-⟩,-⟩:=h
 cases e
 rfl
theorem fr_close {b pv:Nat}{w wl w':World}(hB:Fr (fun k=>k=b) w wl)(hp:w.heap.size≤pv)(hy:Fr (fun j=>j=b∨pv≤j) wl w'):Fr (fun k=>k=b) w w' :=
 ((hB.mono (T:=fun j=>j=b∨pv≤j) (fun j _ hj=>Or.inl hj)).trans hy).mono (fun j hj hS=>hS.elim id (fun e=>by omega))
theorem headsX_err {b:Nat}{M:Mode b}{n k:Nat}{y3 y:WS × M.σ}{done:List HD}{z:Int × Int}(hv:headsX M n y3=contH done (headsX M (n-k) y))(hk:k<n)(hx:headX M y = .error z):headsX M n y3 = .error z:=by
 rw[hv,show n-k=(n-(k+1))+1 by omega]
 simp only[headsX,hx,contH]
theorem thru_begin {b:Nat}{rv:Value}{bs:List UInt8}{s:WS}{w w':World}(hm:¬ bs.take 6=magicL.take bs.length)(hf:Fr (fun k=>k=b) w w'):Thru b rv bs s w (.panicked (viol 10 0)) w' :=
 ⟨hf,nilS,by unfold throughX;rw[if_neg hm]⟩
theorem thru_glob {b:Nat}{rv:Value}{bs:List UInt8}{s:WS}{w w':World}{z:Int × Int}(hm:bs.take 6=magicL.take bs.length)
 (h2:askX (reading b rv bs) 146 1 (fun s=>decide (0≤s.globals∧s.globals≤16)) 18 (s,()) = .error z) (hf:Fr (fun k=>k=b) w w'):Thru b rv bs s w (.panicked (viol z.1 z.2)) w' :=
 ⟨hf,nilS,by unfold throughX;rw[if_pos hm,h2]⟩
theorem thru_funs {b:Nat}{rv:Value}{bs:List UInt8}{s:WS}{w w':World}{z:Int × Int}{y2:WS × Unit}(hm:bs.take 6=magicL.take bs.length)
 (h2:askX (reading b rv bs) 146 1 (fun s=>decide (0≤s.globals∧s.globals≤16)) 18 (s,()) = .ok y2) (h3:askX (reading b rv bs) 161 2 (fun s=>decide (1≤s.count∧s.count≤65535)) 20 y2 = .error z)
 (hf:Fr (fun k=>k=b) w w'):Thru b rv bs s w (.panicked (viol z.1 z.2)) w' :=
 ⟨hf,nilS,by unfold throughX;rw[if_pos hm,h2];simp only;rw[h3]⟩
theorem thru_heads {b:Nat}{rv:Value}{bs:List UInt8}{s:WS}{w w':World}{z:Int × Int}{y2 y3:WS × Unit}{n:Nat}(hm:bs.take 6=magicL.take bs.length)
 (h2:askX (reading b rv bs) 146 1 (fun s=>decide (0≤s.globals∧s.globals≤16)) 18 (s,()) = .ok y2) (h3:askX (reading b rv bs) 161 2 (fun s=>decide (1≤s.count∧s.count≤65535)) 20 y2 = .ok y3)
 (hn:y3.1.count=n) (h4:headsX (reading b rv bs) n y3 = .error z) (hf:Fr (fun k=>k=b) w w'):Thru b rv bs s w (.panicked (viol z.1 z.2)) w' :=
 ⟨hf,nilS,by unfold throughX;rw[if_pos hm,h2];simp only;rw[h3];simp only;rw[hn,Int.toNat_natCast,h4]⟩
theorem thru_codes {b:Nat}{rv:Value}{bs:List UInt8}{s:WS}{w w':World}{z:Int × Int}{y2 y3 y:WS × Unit}{n:Nat}{done:List HD}{fv:Value}(hm:bs.take 6=magicL.take bs.length)
 (h2:askX (reading b rv bs) 146 1 (fun s=>decide (0≤s.globals∧s.globals≤16)) 18 (s,()) = .ok y2) (h3:askX (reading b rv bs) 161 2 (fun s=>decide (1≤s.count∧s.count≤65535)) 20 y2 = .ok y3)
 (hn:y3.1.count=n) (h4:headsX (reading b rv bs) n y3 = .ok (done,y)) (h5:funcsX (reading b rv bs) (headsOf done) done ({ y.1 with funcs:=fv },y.2) = .error z) (hf:Fr (fun k=>k=b) w w'):Thru b rv bs s w (.panicked (viol z.1 z.2)) w' :=
 ⟨hf,fv,by unfold throughX;rw[if_pos hm,h2];simp only;rw[h3];simp only;rw[hn,Int.toNat_natCast,h4];simp only;rw[h5]⟩
theorem thru_trail {b:Nat}{rv:Value}{bs:List UInt8}{s:WS}{w w':World}{y2 y3 y z:WS × Unit}{n:Nat}{done:List HD}{fs:List (List AI)}{fv:Value}(hm:bs.take 6=magicL.take bs.length)
 (h2:askX (reading b rv bs) 146 1 (fun s=>decide (0≤s.globals∧s.globals≤16)) 18 (s,()) = .ok y2) (h3:askX (reading b rv bs) 161 2 (fun s=>decide (1≤s.count∧s.count≤65535)) 20 y2 = .ok y3)
 (hn:y3.1.count=n) (h4:headsX (reading b rv bs) n y3 = .ok (done,y)) (h5:funcsX (reading b rv bs) (headsOf done) done ({ y.1 with funcs:=fv },y.2) = .ok (fs,z)) (he:¬ z.1.at'=bs.length) (hf:Fr (fun k=>k=b) w w'):Thru b rv bs s w (.panicked (viol 22 z.1.at')) w' :=
 ⟨hf,fv,by unfold throughX;rw[if_pos hm,h2];simp only;rw[h3];simp only;rw[hn,Int.toNat_natCast,h4];simp only;rw[h5];simp only;rw[if_neg he]⟩
theorem thru_ok {b:Nat}{rv:Value}{bs:List UInt8}{s:WS}{w w':World}{y2 y3 y z:WS × Unit}{n:Nat}{done:List HD}{fs:List (List AI)}{fv v:Value}(hm:bs.take 6=magicL.take bs.length)
 (h2:askX (reading b rv bs) 146 1 (fun s=>decide (0≤s.globals∧s.globals≤16)) 18 (s,()) = .ok y2) (h3:askX (reading b rv bs) 161 2 (fun s=>decide (1≤s.count∧s.count≤65535)) 20 y2 = .ok y3)
 (hn:y3.1.count=n) (h4:headsX (reading b rv bs) n y3 = .ok (done,y)) (h5:funcsX (reading b rv bs) (headsOf done) done ({ y.1 with funcs:=fv },y.2) = .ok (fs,z)) (he:z.1.at'=bs.length) (hf:Fr (fun k=>k=b) w w')
 (hl:LaidP w w' v y3.1.globals done fs):Thru b rv bs s w (.returned v) w' :=
 ⟨hf,fv,by unfold throughX;rw[if_pos hm,h2];simp only;rw[h3];simp only;rw[hn,Int.toNat_natCast,h4];simp only;rw[h5];simp only;rw[if_pos he];exact⟨v,rfl,hl⟩⟩
theorem funcsX_err {b:Nat}{M:Mode b}{heads:List (Nat × Nat)}{done:List HD}{fs:List (List AI)}{D:HD}{r:List HD}{yf z:WS × M.σ}{er:Int × Int}(hv:funcsX M heads done yf=contF fs (funcsX M heads (D::r) z))
 (hc:codeX M heads D.R.toNat D.len.toNat D.len.toNat ({ z.1 with fP:=D.P,fR:=(D.R.toNat:Nat),fV:=D.V,fC:=.slice none 0 0,len:=(D.len.toNat:Nat) },z.2) = .error er):funcsX M heads done yf = .error er:=by
 rw[hv];simp only[funcsX,hc,contF]
end Go.Proofs.YtingenonbkencaaDoor
