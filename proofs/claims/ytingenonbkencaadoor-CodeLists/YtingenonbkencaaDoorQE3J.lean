import Derived.Test.YtingenonbkencaaDoorQC2J
import Derived.Test.YtingenonbkencaaDoorQA3J
import Derived.BigFrame
import Derived.Deep.AppendLies
import Derived.Deep.Onto
import Derived.Deep.DeepCutAuto
import Derived.Deep.RegionHeld3
set_option linter.unusedVariables false
set_option linter.unusedSimpArgs false
namespace Go.Proofs.YtingenonbkencaaDoor
open Go.RowKit (wrap32 wrap64)
def NewL (w w':World)(av:Value)(vs:List Int):Prop :=
 (vs=[]∧av=nilS)∨∃ g,w.heap.size≤g∧av = .slice (some ⟨g,0,none⟩) vs.length vs.length∧w'.heap[g]?=some (.cells (vs.map vI).toArray 3)
theorem varsX_length {b:Nat}{M:Mode b}:∀ {l:List Int} {x:WS × M.σ} {vs:List Int} {y:WS × M.σ},varsX M l x = .ok (vs,y)→vs.length=l.length
 | [],_,_,_,h=>by simp only[varsX,Except.ok.injEq,Prod.mk.injEq] at h;rw[← h.1]
 | old::r,x,vs,y,h=>by
   simp only[varsX] at h
   split at h
   ·cases h
   ·split at h
    ·cases h
    ·rename_i vs' y' hv
     simp only[Except.ok.injEq,Prod.mk.injEq] at h
     rw[← h.1,List.length_cons,List.length_cons,varsX_length hv]
theorem setL_getL (s:WS)(o:Nat)(v:Value)(h:s.getL o=v):s.setL o v=s:=by
 subst h
 unfold WS.setL WS.getL
 split<;>rfl
def EndsNew {b:Nat}(M:Mode b)(w:World)(o:Nat)(r:X (List Int × (WS × M.σ)))(e:Ending)(w':World):Prop :=
 Fr M.SB w w'∧match r with
  | .ok (vs,y)=>e = .returned (.tuple #[])∧∃ av,NewL w w' av vs∧On M w' (y.1.setL o av,y.2)
  | .error z=>e = .panicked (viol z.1 z.2)
theorem getL_nextX {b:Nat}{M:Mode b}{size o:Nat}{x y:WS × M.σ}(h:nextX M 161 size x = .ok y):y.1.getL o=x.1.getL o:=by
 have:=nextX_kept (Or.inr (Or.inr (Or.inr (Or.inr rfl)))) h
 unfold WS.getL
 rw[this.args,this.rets]
theorem list_new {b:Nat}(M:Mode b)(hN:NextOwn M)(hO:NextOther M)(o n:Nat)(ho:o=159∨o=160)(x:WS × M.σ)(w:World)(h:On M w x)(hsl:x.1.getL o=nilS)(hn:n≤255)
 (hnew:∀ y,nextX M 161 1 ({ x.1 with count:=0 },x.2) = .ok y→∀ k,w.heap.size≤k→¬ M.S k∧¬ M.N k) :
 Calls Tryd.prog 100 #[.pointer (some ⟨b,0,none⟩),.pointer (some ⟨b,o,none⟩),.int .i64 n] w (EndsNew M w o (listX M n [] x)):=by
 by_cases hn0:n=0
 ·subst hn0
  refine(list_keep M hN hO o 0 ho x w h none 0 b 0 [] (by simpa[nilS] using hsl) rfl (by omega) (fun h=>absurd rfl h) (fun i hi=>by simp at hi)).mono ?_
  rintro e w' ⟨hf,hr⟩
  refine⟨hf.mono (fun k _ hk=>hk.elim id (fun e=>Or.inl e)),?_⟩
  cases hl:listX M 0 [] x with
  | error z=>simp only[hl] at hr;exact hr
  | ok q =>
    obtain⟨vs,y⟩:=q
    simp only[hl] at hr
    obtain⟨rfl,hon,-⟩:=hr
    have hvs:vs=[]∧y.1.getL o=nilS:=by
     unfold listX at hl
     split at hl
     ·cases hl
     ·rename_i y' hy
      split at hl
      ·simp only[List.length_nil,if_true,varsX,Except.ok.injEq,Prod.mk.injEq] at hl
       rw[← hl.1,← hl.2,getL_nextX hy]
       exact⟨rfl,hsl⟩
      ·cases hl
    refine⟨rfl,nilS,Or.inl ⟨hvs.1,rfl⟩,?_⟩
    rw[setL_getL _ _ _ hvs.2]
    exact hon
 ·refine(list_make M hN hO o n ho x w h none 0 [] (by simpa[nilS] using hsl) (by simp;omega) hn (fun y hy _=>hnew y (by simpa using hy)) (by simp) hn0).mono ?_
  rintro e w' ⟨hf,hr⟩
  refine⟨hf,?_⟩
  cases hl:listX M n [] x with
  | error z=>simp only[hl] at hr;exact hr
  | ok q =>
    obtain⟨vs,y⟩:=q
    simp only[hl] at hr
    obtain⟨rfl,g,hg,hon,hblk⟩:=hr
    have hvs:vs.length=n:=by
     unfold listX at hl
     split at hl
     ·cases hl
     ·split at hl
      ·have:=varsX_length hl
       rw[if_neg (by simp;omega)] at this
       simpa using this
      ·cases hl
    refine⟨rfl,.slice (some ⟨g,0,none⟩) n n,Or.inr ⟨g,hg,by rw[hvs],hblk⟩,hon⟩
set_option maxRecDepth 100000
set_option maxHeartbeats 1000000
theorem askInstr_shortAt {b:Nat}(M:Mode b)(rm:M.σ→Nat)(hN:NextAt M rm)(x:WS × M.σ)(w:World)(h:On M w x)(hp:1≤rm x.2)(i:Int)(z:Int × Int)(hx:nextX M 154 1 x = .error z) :
 Calls Tryd.prog 65 #[.pointer (some ⟨b,0,none⟩),.int .i64 i] w fun e w'=>e = .panicked (viol z.1 z.2)∧Fr M.SB w w':=by
 go_enter Tryd.func65,Tryd.ntmps65
 go_wp2_with fail
 refine(hN 154 (by simp[places]) x 1 _ hp h (by omega) (by omega)).mono ?_
 rintro e w1 ⟨hf1,hres⟩
 simp only[hx] at hres
 subst hres
 clear hx
 go_wp2_with fail
 exact⟨rfl,rfl,hf1⟩
theorem askInstr_short {b:Nat}(M:Mode b)(hN:NextOwn M)(x:WS × M.σ)(w:World)(h:On M w x)(i:Int)(z:Int × Int)(hx:nextX M 154 1 x = .error z) :
 Calls Tryd.prog 65 #[.pointer (some ⟨b,0,none⟩),.int .i64 i] w fun e w'=>e = .panicked (viol z.1 z.2)∧Fr M.SB w w' :=
 askInstr_shortAt M (fun _=>1000000) (hN.at _) x w h (show 1≤1000000 by omega) i z hx
theorem askInstr_noOpAt {b:Nat}(M:Mode b)(rm:M.σ→Nat)(hN:NextAt M rm)(x y:WS × M.σ)(w:World)(h:On M w x)(hp:1≤rm x.2)(i:Int)(hx:nextX M 154 1 x = .ok y)(hk:¬ (1≤y.1.op∧y.1.op≤17)) :
 Calls Tryd.prog 65 #[.pointer (some ⟨b,0,none⟩),.int .i64 i] w fun e w'=>e = .panicked (viol 12 x.1.at')∧Fr M.SB w w':=by
 have hk':decide (1≤y.1.op∧y.1.op≤17)=false:=by simpa using hk
 go_enter Tryd.func65,Tryd.ntmps65
 go_wp2_with fail
 refine(hN 154 (by simp[places]) x 1 _ hp h (by omega) (by omega)).mono ?_
 rintro e w1 ⟨hf1,hres⟩
 simp only[hx] at hres
 obtain⟨rfl,hon1⟩:=hres
 have c154:w1.cell? ⟨b,154,none⟩=some (vI y.1.op):=hon1.1.facts.2.2.2.2.2.2.2.2.2.2.1
 clear hx hk
 go_wp2_with fail
 refine(within_any _ _ _ _).mono ?_
 rintro e w' ⟨rfl,rfl⟩
 rw[hk']
 go_wp2_with fail
 refine(must_false 12 x.1.at' _).mono ?_
 rintro e w' ⟨rfl,rfl⟩
 go_wp2_with fail
 exact⟨rfl,rfl,hf1⟩
theorem askInstr_noOp {b:Nat}(M:Mode b)(hN:NextOwn M)(x y:WS × M.σ)(w:World)(h:On M w x)(i:Int)(hx:nextX M 154 1 x = .ok y)(hk:¬ (1≤y.1.op∧y.1.op≤17)) :
 Calls Tryd.prog 65 #[.pointer (some ⟨b,0,none⟩),.int .i64 i] w fun e w'=>e = .panicked (viol 12 x.1.at')∧Fr M.SB w w' :=
 askInstr_noOpAt M (fun _=>1000000) (hN.at _) x y w h (show 1≤1000000 by omega) i hx hk
def HeadsAt (w:World)(fb fo:Nat)(heads:List (Nat × Nat)):Prop :=
 ∀ j,(h:j<heads.length)→w.cell? ⟨fb,fo+j*4,none⟩=some (vI (heads[j].1:Nat))∧w.cell? ⟨fb,fo+j*4+1,none⟩=some (vI (heads[j].2:Nat))∧heads[j].1≤8∧heads[j].2≤4
theorem HeadsAt.fr {S:Nat→Prop}{w w':World}{fb fo:Nat}{heads:List (Nat × Nat)}(h:HeadsAt w fb fo heads)(f:Fr S w w')(hb:fb<w.heap.size)(hS:¬ S fb):HeadsAt w' fb fo heads:=fun j hj =>
 ⟨(f.cell hb hS).trans (h j hj).1,(f.cell hb hS).trans (h j hj).2.1,(h j hj).2.2⟩
theorem NewL.fr {S:Nat→Prop}{w w1 w':World}{av:Value}{vs:List Int}(h:NewL w w1 av vs)(f:Fr S w1 w')(hS:∀ k,w.heap.size≤k→k<w1.heap.size→¬ S k):NewL w w' av vs:=by
 rcases h with h | ⟨g,hg,ha,hb⟩
 ·exact Or.inl h
 ·have hlt:g<w1.heap.size:=(Array.getElem?_eq_some_iff.1 hb).1
  exact Or.inr ⟨g,hg,ha,by rw[f.block g hlt (hS g hg hlt)];exact hb⟩
theorem NewL.mono {w w1 w':World}{av:Value}{vs:List Int}(h:NewL w1 w' av vs)(hs:w.heap.size≤w1.heap.size):NewL w w' av vs:=by
 rcases h with h | ⟨g,hg,ha,hb⟩
 ·exact Or.inl h
 ·exact Or.inr ⟨g,Nat.le_trans hs hg,ha,hb⟩
theorem nextX_setL {b:Nat}(M:Mode b)(o v size)(q:Nat)(hq:q=161)(s:WS)(st:M.σ) :
 nextX M q size (s.setL o v,st)=match nextX M q size (s,st) with | .ok y=>.ok (y.1.setL o v,y.2) | .error z=>.error z:=by
 subst hq
 by_cases h:o=159
 ·have e:∀ s:WS,s.setL o v={ s with args:=v }:=fun s=>by unfold WS.setL;rw[if_pos h]
  have g:∀ s:WS,s.get 161=s.count:=fun _=>rfl
  simp only[e,nextX,g]
  cases M.eff st s.at' size s.count with
  | error z=>rfl
  | ok q=>rfl
 ·have e:∀ s:WS,s.setL o v={ s with rets:=v }:=fun s=>by unfold WS.setL;rw[if_neg h]
  have g:∀ s:WS,s.get 161=s.count:=fun _=>rfl
  simp only[e,nextX,g]
  cases M.eff st s.at' size s.count with
  | error z=>rfl
  | ok q=>rfl
set_option maxRecDepth 100000
abbrev pp (b o:Nat):Value:=.pointer (some ⟨b,o,none⟩)
theorem op_nil {ρ:Operand→Value}{o:Oper}{x:Operand}(h:o.op = .nilCheck x){b q:Nat}(hv:ρ x=pp b q)(w:World):(execOp ρ o).run Tryd.prog w = .ok (.value (pp b q)) w:=by
 unfold execOp
 rw[h]
 simp only[hv]
 rfl
theorem op_fld84 {ρ:Operand→Value}{o:Oper}{x:Operand}{i:Nat}(h:o.op = .fieldAddr 84 x i)(hi:i<6){b q:Nat}(hv:ρ x=pp b q)(w:World):(execOp ρ o).run Tryd.prog w = .ok (.value (pp b (q+i))) w:=by
 unfold execOp
 rw[h]
 simp only[hv]
 rcases(show i=0∨i=1∨i=2∨i=3∨i=4∨i=5 by omega) with rfl | rfl | rfl | rfl | rfl | rfl<;>kernel_rfl
theorem op_fld71 {ρ:Operand→Value}{o:Oper}{x:Operand}{i:Nat}(h:o.op = .fieldAddr 71 x i)(hi:i<7){b q:Nat}(hv:ρ x=pp b q)(w:World):(execOp ρ o).run Tryd.prog w = .ok (.value (pp b (q+i))) w:=by
 unfold execOp
 rw[h]
 simp only[hv]
 rcases(show i=0∨i=1∨i=2∨i=3∨i=4∨i=5∨i=6 by omega) with rfl | rfl | rfl | rfl | rfl | rfl | rfl<;>kernel_rfl
theorem op_load {ρ:Operand→Value}{o:Oper}{x:Operand}{ty:TypeId}(h:o.op = .load ty x)(ht:ty=3∨ty=64∨ty=81∨ty=82){b q:Nat}(hv:ρ x=pp b q){w:World}{v:Value}(hc:w.cell? ⟨b,q,none⟩=some v):(execOp ρ o).run Tryd.prog w = .ok (.value v) w:=by
 unfold execOp
 rw[h]
 simp only[hv]
 rcases ht with rfl | rfl | rfl | rfl<;>simp[go_sem,hc]
theorem op_neq {ρ:Operand→Value}{o:Oper}{x:Operand}{ty ty':TypeId}(h:o.op = .binOp .neq ty x (.const .nilFunc) ty')(hρ:ρ (.const .nilFunc) = .nilFunc)(ht:ty=81∨ty=82)(w:World):(ρ x=vN→(execOp ρ o).run Tryd.prog w = .ok (.value (.bool false)) w)∧(∀ f,ρ x=vF f→(execOp ρ o).run Tryd.prog w = .ok (.value (.bool true)) w):=by
 refine⟨fun hv=>?_,fun f hv=>?_⟩
 ·unfold execOp
  rw[h]
  simp only[hv,hρ]
  rcases ht with rfl | rfl<;>kernel_rfl
 ·unfold execOp
  rw[h]
  simp only[hv,hρ]
  rcases ht with rfl | rfl<;>kernel_rfl
theorem op_eql {ρ:Operand→Value}{o:Oper}{x:Operand}{ty':TypeId}(h:o.op = .binOp .eql 3 x (.const (vI 0)) ty')(hρ:ρ (.const (vI 0))=vI 0)(w:World){z:Int}(hv:ρ x=vI z):(execOp ρ o).run Tryd.prog w = .ok (.value (.bool (z==0))) w:=by
 unfold execOp
 rw[h]
 simp only[hv,hρ]
 simp[go_sem]
def ev2 (b:Nat)(mem:Nat→Option Value)(zz:Nat→Int)(tb:Nat→Bool)(ops:Array Oper)(o:Oper)(a:Act):Option (Act × List (Value × Value)) :=
 bif Region.wanted o (yielded ops a.tmps) then
  match o.op with
  | .move x=>some (a.put o.dst (a.eval x),[])
  | .assign x=>some (a.put o.dst (a.eval x),[])
  | .pick c x y =>
    match a.eval c with
    | .bool true=>some (a.put o.dst (a.eval x),[])
    | .bool false=>some (a.put o.dst (a.eval y),[])
    | _=>none
  | .nilCheck x =>
    match a.eval x with
    | .pointer (some ⟨k,q,none⟩)=>some (a.put o.dst (pp k q),[])
    | _=>none
  | .fieldAddr ty x i =>
    match a.eval x with
    | .pointer (some ⟨k,q,none⟩) =>
      bif (ty==84&&Nat.blt i 6)||(ty==71&&Nat.blt i 7) then some (a.put o.dst (pp k (q+i)),[]) else none
    | _=>none
  | .load ty x =>
    match a.eval x with
    | .pointer (some ⟨k,q,none⟩) =>
      bif ty==3||ty==64||ty==81||ty==82 then
       match mem q with
       | some v=>some (a.put o.dst v,[(pp k q,pp b q)])
       | none=>none
      else none
    | _=>none
  | .binOp .neq ty x (.const .nilFunc) _ =>
    bif ty==81||ty==82 then
     match a.eval x with
     | .nilFunc=>some (a.put o.dst (.bool false),[])
     | .func (.func _) first cap=>bif first.toList.isEmpty&&cap.toList.isEmpty then some (a.put o.dst (.bool true),[]) else none
     | _=>none
    else none
  | .binOp .eql ty x (.const (.int .i64 0)) _ =>
    bif ty==3 then
     match o.dst with
     | some d=>some (a.put o.dst (.bool (tb d)),[(a.eval x,vI (zz d))])
     | none=>none
    else none
  | .call c =>
    match c.callee,c.args.toList,c.argTypes.toList with
    | .builtin .len,[x],[ty] =>
      bif ty==64 then
       match a.eval x with
       | .slice _ n _=>some (a.put o.dst (vI n),[])
       | _=>none
      else none
    | _,_,_=>none
  | _=>none
 else some (a.put o.dst undef,[])
theorem op_len {ρ:Operand→Value}{o:Oper}{x:Operand}(h:o.op = .call { callee:=.builtin .len,args:=#[x],argTypes:=#[64] })(w:World){a:Option Addr}{n c:Nat}(hv:ρ x = .slice a n c):(execOp ρ o).run Tryd.prog w = .ok (.value (vI n)) w:=by
 obtain⟨dst,op,ty,pos,after,guard⟩:=o
 simp only at h
 subst h
 show(builtin .len #[64] ty ((#[x]:Array Operand).map fun | .const _=>true | _=>false) ((#[x]:Array Operand).map ρ)).run Tryd.prog w = .ok (.value (vI n)) w
 have e:(#[x]:Array Operand).map ρ=#[ρ x]:=by simp
 simp only[e,hv]
 simp[go_sem]
def ev2L (b:Nat)(mem:Nat→Option Value)(zz:Nat→Int)(tb:Nat→Bool)(ops:Array Oper):List Oper→Act→Option (Act × List (Value × Value))
 | [],a=>some (a,[])
 | o::rest,a=>match ev2 b mem zz tb ops o a with
   | some (a',l)=>match ev2L b mem zz tb ops rest a' with
     | some (a2,l2)=>some (a2,l++l2)
     | none=>none
   | none=>none
theorem wp_value {o:Oper}{a:Act}{w:World}{K:Act→World→Prop}{Q:Exit→Act→World→Prop}{v:Value}(h:(execOp a.eval o).run Tryd.prog w = .ok (.value v) w)(hk:K (a.put o.dst v) w):o.wp Tryd.prog a w K Q:=by
 unfold Oper.wp
 rw[h]
 exact hk
theorem ev2_sound {b:Nat}{mem:Nat→Option Value}{zz:Nat→Int}{tb:Nat→Bool}{ops:Array Oper}{o:Oper}{a a':Act}{l:List (Value × Value)}{w:World}{rest:List Oper}{Q:Exit→Act→World→Prop}
 (hm:∀ q v,mem q=some v→w.cell? ⟨b,q,none⟩=some v) (hz:∀ d,(zz d==0)=tb d) (h:ev2 b mem zz tb ops o a=some (a',l)) (hl:∀ p∈l,p.1=p.2) (ih:wpList Tryd.prog ops Q rest a' w):wpList Tryd.prog ops Q (o::rest) a w:=by
 unfold ev2 at h
 cases hw:Region.wanted o (yielded ops a.tmps) with
 | false =>
   rw[hw] at h
   cases h
   exact wpList_skip hw ih
 | true =>
   rw[hw] at h
   refine BigFrame.wpList_want hw (fun K hK=>?_)
   simp only[cond_true] at h
   split at h
   ·rename_i x hx
    cases h
    exact BigFrame.wp_move x hx (hK _ _ ih)
   ·rename_i x hx
    cases h
    exact BigFrame.wp_assign x hx (hK _ _ ih)
   ·rename_i c x y hx
    unfold Oper.wp execOp
    rw[hx]
    split at h
    ·rename_i hc
     cases h
     simp only[hc]
     exact hK _ _ ih
    ·rename_i hc
     cases h
     simp only[hc]
     exact hK _ _ ih
    ·cases h
   ·rename_i x hx
    split at h
    ·rename_i k q hv
     cases h
     exact wp_value (op_nil hx hv w) (hK _ _ ih)
    ·cases h
   ·rename_i ty x i hx
    split at h
    ·rename_i k q hv
     cases hc:((ty==84&&Nat.blt i 6)||(ty==71&&Nat.blt i 7)) with
     | false=>rw[hc] at h;cases h
     | true =>
       rw[hc] at h
       cases h
       simp only[Bool.or_eq_true,Bool.and_eq_true,beq_iff_eq,Nat.blt_eq] at hc
       rcases hc with⟨rfl,hi⟩|⟨rfl,hi⟩
       ·exact wp_value (op_fld84 hx hi hv w) (hK _ _ ih)
       ·exact wp_value (op_fld71 hx hi hv w) (hK _ _ ih)
    ·cases h
   ·rename_i ty x hx
    split at h
    ·rename_i k q hv
     cases hc:(ty==3||ty==64||ty==81||ty==82) with
     | false=>rw[hc] at h;cases h
     | true =>
       rw[hc] at h
       simp only[cond_true] at h
       simp only[Bool.or_eq_true,beq_iff_eq] at hc
       split at h
       ·rename_i u hu
        cases h
        have hp:pp k q=pp b q:=hl _ List.mem_cons_self
        have hk:k=b:=by cases hp;rfl
        subst hk
        exact wp_value (op_load hx (by rcases hc with((h | h) | h) | h<;>simp[h]) hv (hm q u hu)) (hK _ _ ih)
       ·cases h
    ·cases h
   ·rename_i ty x ty' hx
    cases hc:(ty==81||ty==82) with
    | false=>rw[hc] at h;cases h
    | true =>
      rw[hc] at h
      simp only[cond_true] at h
      simp only[Bool.or_eq_true,beq_iff_eq] at hc
      have hq:=op_neq (ρ:=a.eval) hx rfl hc w
      split at h
      ·rename_i hv
       cases h
       exact wp_value (hq.1 hv) (hK _ _ ih)
      ·rename_i f first cap hv
       cases hf:(first.toList.isEmpty&&cap.toList.isEmpty) with
       | false=>rw[hf] at h;cases h
       | true =>
         rw[hf] at h
         cases h
         simp only[Bool.and_eq_true,List.isEmpty_iff] at hf
         have e1:first=#[]:=by cases first;simp_all
         have e2:cap=#[]:=by cases cap;simp_all
         subst e1;subst e2
         exact wp_value (hq.2 f hv) (hK _ _ ih)
      ·cases h
   ·rename_i ty x ty' hx
    cases hc:(ty==3) with
    | false=>rw[hc] at h;cases h
    | true =>
      rw[hc] at h
      simp only[cond_true] at h
      simp only[beq_iff_eq] at hc
      subst hc
      split at h
      ·rename_i d hd
       cases h
       have hp:a.eval x=vI (zz d):=hl _ List.mem_cons_self
       have:=op_eql (ρ:=a.eval) hx rfl w hp
       rw[hz d] at this
       exact wp_value this (hK _ _ ih)
      ·cases h
   ·rename_i c hx
    split at h
    ·rename_i x ty h1 h2 h3
     cases hc:(ty==64) with
     | false=>rw[hc] at h;cases h
     | true =>
       rw[hc] at h
       simp only[cond_true] at h
       simp only[beq_iff_eq] at hc
       subst hc
       obtain⟨callee,args,argTypes⟩:=c
       simp only at h1 h2 h3
       subst h1
       have e2:args=#[x]:=by cases args;simp_all
       have e3:argTypes=#[64]:=by cases argTypes;simp_all
       subst e2;subst e3
       split at h
       ·rename_i aa n c hv
        cases h
        exact wp_value (op_len hx w hv) (hK _ _ ih)
       ·cases h
    ·cases h
   ·cases h
theorem ev2L_sound {b:Nat}{mem:Nat→Option Value}{zz:Nat→Int}{tb:Nat→Bool}{ops:Array Oper}{w:World}{Q:Exit→Act→World→Prop}(hm:∀ q v,mem q=some v→w.cell? ⟨b,q,none⟩=some v)(hz:∀ d,(zz d==0)=tb d) :
 ∀ {rest:List Oper} {a a':Act} {l:List (Value × Value)},ev2L b mem zz tb ops rest a=some (a',l)→(∀ p∈l,p.1=p.2)→Q .normal a' w→wpList Tryd.prog ops Q rest a w
 | [],a,a',l,h,_,hq=>by
   cases h
   exact hq
 | o::rest,a,a',l,h,hl,hq=>by
   unfold ev2L at h
   split at h
   ·rename_i a1 l1 h1
    split at h
    ·rename_i a2 l2 h2
     cases h
     exact ev2_sound hm hz h1 (fun p hp=>hl p (List.mem_append_left _ hp)) (ev2L_sound hm hz h2 (fun p hp=>hl p (List.mem_append_right _ hp)) hq)
    ·cases h
   ·cases h
theorem wpList_names {b:Nat}{mem:Nat→Option Value}{zz:Nat→Int}{tb:Nat→Bool}{ops:Array Oper}{w:World}{Q:Exit→Act→World→Prop}{rest:List Oper}{a:Act}(t:Tmp)(v:Value)(hm:∀ q v,mem q=some v→w.cell? ⟨b,q,none⟩=some v)(hz:∀ d,(zz d==0)=tb d)
 (h1:((ev2L b mem zz tb ops rest a).map fun r=>(r.1.tmps.getD t undef,r.1.defers,r.2.map (·.1)))=((ev2L b mem zz tb ops rest a).map fun r=>(v,[],r.2.map (·.2)))) (h2:(ev2L b mem zz tb ops rest a).isSome=true)
 (hq:∀ a',a'.tmps.getD t undef=v→a'.defers=[]→Q .normal a' w):wpList Tryd.prog ops Q rest a w:=by
 cases e:ev2L b mem zz tb ops rest a with
 | none=>rw[e] at h2;cases h2
 | some r =>
   obtain⟨a',l⟩:=r
   rw[e] at h1
   simp only[Option.map_some,Option.some.injEq,Prod.mk.injEq] at h1
   refine ev2L_sound hm hz e (fun p hp=>?_) (hq a' h1.1 h1.2.1)
   have key:∀ (l:List (Value × Value)),l.map (·.1)=l.map (·.2)→∀ p∈l,p.1=p.2:=fun l=>by
    induction l with
    | nil=>intro _ p hp;cases hp
    | cons x r ih =>
      intro h p hp
      simp only[List.map_cons,List.cons.injEq] at h
      rcases List.mem_cons.1 hp with rfl | hp
      ·exact h.1
      ·exact ih h.2 p hp
   exact key l h1.2.2 p hp
def memOf : List (Nat × Value)→Nat→Option Value
 | [],_=>none
 | p::r,q=>bif p.1==q then some p.2 else memOf r q
theorem memOf_sound {b:Nat}{w:World}:∀ {l:List (Nat × Value)},(∀ p∈l,w.cell? ⟨b,p.1,none⟩=some p.2)→∀ q v,memOf l q=some v→w.cell? ⟨b,q,none⟩=some v
 | [],_,_,_,h=>by cases h
 | p::r,hl,q,v,h=>by
   unfold memOf at h
   cases hc:(p.1==q) with
   | true =>
     rw[hc] at h
     cases h
     rw[← beq_iff_eq.1 hc]
     exact hl p List.mem_cons_self
   | false =>
     rw[hc] at h
     exact memOf_sound (fun p hp=>hl p (List.mem_cons_of_mem _ hp)) q v h
def zzOf : List (Nat × Int × Bool)→Nat→Int
 | [],_=>0
 | p::r,q=>bif p.1==q then p.2.1 else zzOf r q
def tbOf : List (Nat × Int × Bool)→Nat→Bool
 | [],_=>true
 | p::r,q=>bif p.1==q then p.2.2 else tbOf r q
theorem zzOf_sound : ∀ {l:List (Nat × Int × Bool)},(∀ p∈l,(p.2.1==0)=p.2.2)→∀ d,(zzOf l d==0)=tbOf l d
 | [],_,_=>rfl
 | p::r,hl,d=>by
   unfold zzOf tbOf
   cases hc:(p.1==d) with
   | true=>exact hl p List.mem_cons_self
   | false=>exact zzOf_sound (fun p hp=>hl p (List.mem_cons_of_mem _ hp)) d
theorem heap_new (w:World)(o:Obj):(w.alloc o).heap[w.heap.size]?=some o:=(MapKept.heap_alloc w o).1
theorem heap_lt {w:World}{k:Nat}{o:Obj}(h:w.heap[k]?=some o):k<w.heap.size:=(Array.getElem?_eq_some_iff.1 h).1
theorem cell_of {w:World}{k:Nat}{cs:Array Value}{t:TypeId}(h:w.heap[k]?=some (.cells cs t))(o:Nat):w.cell? ⟨k,o,none⟩=cs[o]?:=by
 unfold World.cell?;rw[h];simp
theorem frozen_of {w:World}{k:Nat}{cs:Array Value}{t:TypeId}(h:w.heap[k]?=some (.cells cs t))(o:Nat):w.frozen? ⟨k,o,none⟩=false:=by
 unfold World.frozen?;rw[h];simp
theorem set_of {w:World}{k:Nat}{cs:Array Value}{t:TypeId}(h:w.heap[k]?=some (.cells cs t))(o:Nat)(v:Value):(w.setCell ⟨k,o,none⟩ v).heap[k]?=some (.cells (cs.setIfInBounds o v) t):=by
 unfold World.setCell
 simp only[Array.getElem?_modify]
 rw[if_pos trivial,h]
 rfl
theorem Fr.then {S S':Nat→Prop}{a b c:World}(h:Fr S a b)(k:Fr S' b c)(hs:∀ j,j<a.heap.size→S' j→S j):Fr S a c :=
 ⟨k.os.trans h.os,k.tape.trans h.tape,k.output.trans h.output,Nat.le_trans h.size k.size,fun j hj hS=>(k.block j (Nat.lt_of_lt_of_le hj h.size) (fun e=>hS (hs j hj e))).trans (h.block j hj hS)⟩
theorem setCell_fr (w:World)(k o:Nat)(u:Value):Fr (fun j=>j=k) w (w.setCell ⟨k,o,none⟩ u):=Fr.setCell (S:=fun j=>j=k) (Fr.refl _ w) _ _ (Or.inl rfl)
def Rws (w:World)(t sz g m:Nat)(R:Nat→List Value):Prop:=∃ cs:Array Value,w.heap[g]?=some (.cells cs t)∧cs.size=m*sz∧∀ i o,i<m→o<sz→cs[i*sz+o]?=some ((R i).getD o undef)
def at1 {α:Type}(f:Nat→α)(i:Nat)(x:α):Nat→α:=fun j=>if j=i then x else f j
theorem at1_self {α:Type}(f:Nat→α)(i:Nat)(x:α):at1 f i x i=x:=if_pos rfl
theorem at1_ne {α:Type}(f:Nat→α){i j:Nat}(x:α)(h:j≠i):at1 f i x j=f j:=if_neg h
def IA (w:World)(v:Value)(l:List Int):Prop :=
 ∃ a c,v = .slice a l.length c∧(l≠[]→∃ k o,a=some ⟨k,o,none⟩∧k<w.heap.size∧∀ j (h:j<l.length),w.cell? ⟨k,o+j,none⟩=some (vI l[j]))
theorem IA.fr {S:Nat→Prop}{w w':World}{v:Value}{l:List Int}(h:IA w v l)(f:Fr S w w')(hS:∀ k,v.ownBlock=some k→¬ S k):IA w' v l:=by
 obtain⟨a,c,rfl,h⟩:=h
 refine⟨a,c,rfl,fun hne=>?_⟩
 obtain⟨k,o,rfl,hk,hc⟩:=h hne
 exact⟨k,o,rfl,Nat.lt_of_lt_of_le hk f.size,fun j hj=>(f.cell hk (hS k rfl)).trans (hc j hj)⟩
theorem IA.stay {w w':World}{v:Value}{l:List Int}(h:IA w v l)(f:Fr (fun _=>False) w w'):IA w' v l:=h.fr f (fun _ _ e=>e)
def wideI (l:List Int)(i:Nat):Int:=if i<l.length then l.getD i 0 else -123456
def WI (w:World)(B:Nat)(v:Value)(l:List Int):Prop:=∃ g,v = .slice (some ⟨g,0,none⟩) l.length (l.length+64)∧B≤g∧Rws w 3 1 g (l.length+64) (fun i=>[vI (wideI l i)])
theorem under64 : Tryd.prog.underlying 64=some (.slice 3):=by kernel_rfl
end Go.Proofs.YtingenonbkencaaDoor
