import Derived.Test.YtingenonbkencaaDoorQA3J
import Derived.Laws.BytesString
set_option linter.unusedVariables false
set_option linter.unusedSimpArgs false
namespace Go.Proofs.YtingenonbkencaaDoor
open Go.RowKit (wrap32 wrap64)
def frontOk {b:Nat}(M:Mode b)(ends makes nb:Bool)(i:Nat)(p:Int)(y:WS × M.σ):X (WS × M.σ) :=
 if nb=false then .error (1,p)
 else if (ends||decide ((i:Int)<y.1.len-1))=false then .error (19,p)
 else if makes then locX M 1 p y else .ok y
def StepR (J:World→Prop)(Post:Ending→World→Prop)(e:Ending)(w':World):Prop :=
 (e = .returned (.tuple #[])∧J w')∨∃ c,e = .panicked c∧Post (.panicked c) w'
def thenX {α β:Type}(c:X α)(p:α→X β):X β:=match c with | .ok y=>p y | .error z=>.error z
structure Kept (s s':WS):Prop where
 num:s'.num=s.num
 globals:s'.globals=s.globals
 funcs:s'.funcs=s.funcs
 fP:s'.fP=s.fP
 fR:s'.fR=s.fR
 fV:s'.fV=s.fV
 fC:s'.fC=s.fC
 len:s'.len=s.len
 op:s'.op=s.op
 args:s'.args=s.args
 rets:s'.rets=s.rets
theorem Kept.refl (s:WS):Kept s s:=⟨rfl,rfl,rfl,rfl,rfl,rfl,rfl,rfl,rfl,rfl,rfl⟩
theorem Kept.trans {a b c:WS}(h:Kept a b)(k:Kept b c):Kept a c :=
 ⟨k.num.trans h.num,k.globals.trans h.globals,k.funcs.trans h.funcs,k.fP.trans h.fP,k.fR.trans h.fR,k.fV.trans h.fV,k.fC.trans h.fC,k.len.trans h.len,k.op.trans h.op,k.args.trans h.args,k.rets.trans h.rets⟩
theorem nextX_kept {b:Nat}{M:Mode b}{o size:Nat}{x y:WS × M.σ}(ho:o=155∨o=156∨o=157∨o=158∨o=161)(h:nextX M o size x = .ok y):Kept x.1 y.1:=by
 obtain⟨v,st,rfl⟩:=nextX_num h
 rcases ho with rfl | rfl | rfl | rfl | rfl<;>exact⟨rfl,rfl,rfl,rfl,rfl,rfl,rfl,rfl,rfl,rfl,rfl⟩
theorem askX_kept {b:Nat}{M:Mode b}{o size:Nat}{c:WS→Bool}{er:Int}{x y:WS × M.σ}(ho:o=155∨o=156∨o=157∨o=158∨o=161)(h:askX M o size c er x = .ok y):Kept x.1 y.1:=by
 unfold askX at h
 split at h
 ·rename_i y' hy
  split at h
  ·cases h;exact nextX_kept ho hy
  ·cases h
 ·cases h
theorem locX_kept {b:Nat}{M:Mode b}{n p:Int}{x y:WS × M.σ}(h:locX M n p x = .ok y):Kept x.1 y.1:=by
 unfold locX at h
 split at h
 ·cases h;exact⟨rfl,rfl,rfl,rfl,rfl,rfl,rfl,rfl,rfl,rfl,rfl⟩
 ·cases h
theorem frontOk_kept {b:Nat}{M:Mode b}{ends makes nb:Bool}{i:Nat}{p:Int}{x y:WS × M.σ}(h:frontOk M ends makes nb i p x = .ok y):Kept x.1 y.1:=by
 unfold frontOk at h
 split at h
 ·cases h
 ·split at h
  ·cases h
  ·split at h
   ·exact locX_kept h
   ·cases h;exact Kept.refl _
def Stage {b:Nat}(M:Mode b)(w:World)(s0:WS)(c:X (WS × M.σ))(w1:World):Prop :=
 ∃ y,c = .ok y∧Fr M.SB w w1∧On M w1 y∧Kept s0 y.1
theorem Stage.lies {b:Nat}{M:Mode b}{w:World}{s0:WS}{c:X (WS × M.σ)}{w1:World}(h:Stage M w s0 c w1):∃ s,Lies w1 b s:=let ⟨y,_,_,h,_⟩:=h;⟨y.1,h.1⟩
theorem Stage.drew {b:Nat}{M:Mode b}{w:World}{s0:WS}{c:X (WS × M.σ)}{w1:World}(h:Stage M w s0 c w1):Stage M w s0 c w1.drew:=let ⟨y,h1,h2,h3,h4⟩:=h;⟨y,h1,h2.drew,h3.drew,h4⟩
theorem stage_step {b:Nat}{M:Mode b}{w:World}{s0:WS}{c:X (WS × M.σ)}{w1:World}{f:Nat}{args:Array Value}{p:WS × M.σ→X (WS × M.σ)}{Post:Ending→World→Prop}
 (hk:∀ y y',p y = .ok y'→Kept y.1 y'.1) (hE:∀ z w',thenX c p = .error z→Fr M.SB w w'→Post (.panicked (viol z.1 z.2)) w')
 (hcall:∀ y,On M w1 y→Kept s0 y.1→Calls Tryd.prog f args w1 (Ends M w1 (p y))) (h:Stage M w s0 c w1):Calls Tryd.prog f args w1 (StepR (Stage M w s0 (thenX c p)) Post):=by
 obtain⟨y,rfl,hf,hon,hkp⟩:=h
 refine(hcall y hon hkp).mono ?_
 rintro e w' ⟨hf',hr⟩
 cases hp:p y with
 | error z =>
   simp only[hp] at hr
   subst hr
   exact Or.inr ⟨_,rfl,hE z w' hp (hf.trans hf')⟩
 | ok y' =>
   simp only[hp] at hr
   obtain⟨rfl,hon'⟩:=hr
   exact Or.inl ⟨rfl,y',hp,hf.trans hf',hon',hkp.trans (hk y y' hp)⟩
theorem stage_end {b:Nat}{M:Mode b}{w:World}{s0:WS}{c:X (WS × M.σ)}{w1:World}(h:Stage M w s0 c w1):Ends M w c (.returned (.tuple #[])) w1:=by
 obtain⟨y,rfl,hf,hon,-⟩:=h
 exact⟨hf,rfl,hon⟩
theorem ends_error {b:Nat}{M:Mode b}{w w':World}{c:X (WS × M.σ)}{z:Int × Int}(h:c = .error z)(hf:Fr M.SB w w'):Ends M w c (.panicked (viol z.1 z.2)) w':=by
 subst h;exact⟨hf,rfl⟩
def varPart {b:Nat}(M:Mode b)(o:Nat)(x:WS × M.σ):X (WS × M.σ):=askX M o 1 (fun s=>decide (0≤s.get o∧s.get o≤IntKind.i64.wrap (s.fV-1))) 13 x
def fieldsPart {b:Nat}(M:Mode b)(x:WS × M.σ):X (WS × M.σ):=askX M 158 1 (fun s=>decide (1≤s.n∧s.n≤8)) 17 x
def fieldPart {b:Nat}(M:Mode b)(x:WS × M.σ):X (WS × M.σ):=askX M 158 1 (fun s=>decide (0≤s.n∧s.n≤7)) 17 x
def globalPart {b:Nat}(M:Mode b)(x:WS × M.σ):X (WS × M.σ):=askX M 158 1 (fun s=>decide (0≤s.n∧s.n≤IntKind.i64.wrap (s.globals-1))) 18 x
def targetPart {b:Nat}(M:Mode b)(x:WS × M.σ):X (WS × M.σ):=askX M 158 2 (fun s=>decide (0≤s.n∧s.n≤IntKind.i64.wrap (s.len-1))) 16 x
def intPart {b:Nat}(M:Mode b)(x:WS × M.σ):X (WS × M.σ):=nextX M 158 8 x
def partsX {b:Nat}(M:Mode b)(op:Nat)(c:X (WS × M.σ)):X (WS × M.σ) :=
 match op with
 | 1=>(thenX (thenX c (varPart M 155)) (intPart M))
 | 2=>(thenX (thenX c (varPart M 155)) (varPart M 156))
 | 3=>(thenX (thenX (thenX c (varPart M 155)) (varPart M 156)) (varPart M 157))
 | 4=>(thenX (thenX (thenX c (varPart M 155)) (varPart M 156)) (varPart M 157))
 | 5=>(thenX (thenX c (varPart M 155)) (varPart M 156))
 | 6=>(thenX (thenX c (varPart M 155)) (fieldsPart M))
 | 7=>(thenX (thenX (thenX c (varPart M 155)) (varPart M 156)) (fieldPart M))
 | 8=>(thenX (thenX (thenX c (varPart M 155)) (varPart M 156)) (fieldPart M))
 | 9=>(thenX (thenX c (varPart M 155)) (globalPart M))
 | 10=>(thenX (thenX c (varPart M 156)) (globalPart M))
 | 12=>(thenX c (varPart M 156))
 | 13=>(thenX c (targetPart M))
 | 14=>(thenX (thenX c (varPart M 156)) (targetPart M))
 | 16=>(thenX c (varPart M 155))
 | 17=>(thenX (thenX (thenX c (varPart M 155)) (varPart M 156)) (varPart M 157))
 | _=>c
def Goes {b:Nat}(M:Mode b)(rm:M.σ→Nat)(n j:Nat)(c:X (WS × M.σ)):Prop:=∀ y,c = .ok y→n≤rm y.2+j
theorem Goes.then {b:Nat}{M:Mode b}{rm:M.σ→Nat}{n j:Nat}{c:X (WS × M.σ)}(h:Goes M rm n j c)(p:WS × M.σ→X (WS × M.σ))(hp:∀ a a',p a = .ok a'→rm a.2≤rm a'.2+1):Goes M rm n (j+1) (thenX c p):=by
 intro y hy
 cases c with
 | error z=>cases hy
 | ok a =>
   have h1:=h a rfl
   have h2:=hp a y hy
   omega
theorem ask_goes {b:Nat}{M:Mode b}{rm:M.σ→Nat}(hR:RoomGoes M rm){o size:Nat}{c:WS→Bool}{er:Int}{x y:WS × M.σ}(h:askX M o size c er x = .ok y):rm x.2≤rm y.2+1:=by
 unfold askX at h
 split at h
 ·rename_i y' hy
  split at h
  ·cases h;exact hR _ _ _ _ hy
  ·cases h
 ·cases h
theorem loc_snd {b:Nat}{M:Mode b}{n p:Int}{x y:WS × M.σ}(h:locX M n p x = .ok y):y.2=x.2:=by
 unfold locX at h
 split at h
 ·cases h;rfl
 ·cases h
theorem front_snd {b:Nat}{M:Mode b}{ends makes nb:Bool}{i:Nat}{p:Int}{x y:WS × M.σ}(h:frontOk M ends makes nb i p x = .ok y):y.2=x.2:=by
 unfold frontOk at h
 split at h
 ·cases h
 ·split at h
  ·cases h
  ·split at h
   ·exact loc_snd h
   ·cases h;rfl
theorem front_goes {b:Nat}{M:Mode b}{rm:M.σ→Nat}(hR:RoomGoes M rm){o size:Nat}{x y:WS × M.σ}(hx:nextX M o size x = .ok y)(ends makes nb:Bool)(i:Nat)(p:Int):Goes M rm (rm x.2) 1 (frontOk M ends makes nb i p y):=fun y' hy=>by
 rw[front_snd hy];exact hR _ _ _ _ hx
theorem stage_stepR {b:Nat}{M:Mode b}{w:World}{s0:WS}{c:X (WS × M.σ)}{w1:World}{f:Nat}{args:Array Value}{p:WS × M.σ→X (WS × M.σ)}{Post:Ending→World→Prop}
 (hk:∀ y y',p y = .ok y'→Kept y.1 y'.1) (hE:∀ z w',thenX c p = .error z→Fr M.SB w w'→Post (.panicked (viol z.1 z.2)) w')
 (hcall:∀ y,c = .ok y→On M w1 y→Kept s0 y.1→Calls Tryd.prog f args w1 (Ends M w1 (p y))) (h:Stage M w s0 c w1):Calls Tryd.prog f args w1 (StepR (Stage M w s0 (thenX c p)) Post):=by
 obtain⟨y,hc,hf,hon,hkp⟩:=h
 have hcl:=hcall y hc hon hkp
 subst hc
 refine hcl.mono ?_
 rintro e w' ⟨hf',hr⟩
 cases hp:p y with
 | error z =>
   simp only[hp] at hr
   subst hr
   exact Or.inr ⟨_,rfl,hE z w' hp (hf.trans hf')⟩
 | ok y' =>
   simp only[hp] at hr
   obtain⟨rfl,hon'⟩:=hr
   exact Or.inl ⟨rfl,y',hp,hf.trans hf',hon',hkp.trans (hk y y' hp)⟩
set_option maxRecDepth 100000
set_option maxHeartbeats 1000000
theorem leave_any (a b c:Value)(w:World):Calls Tryd.prog 38 #[a,b,c] w fun e w'=>e = .returned (.tuple #[])∧w'=w:=by
 go_enter Tryd.func38,Tryd.ntmps38
 go_wp2
 go_end0
 exact⟨rfl,rfl⟩
def leaving (b:Nat):Mode b where
 σ:=Unit
 S:=fun _=>False
 N:=fun k=>k=0
 fn:=vF 38
 I:=fun _ _ w=>b≠0∧Tab w
 eff:=fun st _ _ old=>.ok (old,st)
 tab:=fun _ _ _ h=>h.2
 stable:=fun _ _ _ _ h f=>⟨h.1,h.2.fr f (fun e=>h.1 e.symm)⟩
theorem wrap64_wrap (x:Int):wrap64 x=IntKind.i64.wrap x:=by
 rw[IntKind.wrap_i64];unfold wrap64;omega
theorem next_leaves (b:Nat)(p:Addr)(at':Int)(size:Nat)(w:World)(h0:w.cell? ⟨b,0,none⟩=some (vF 38))(h1:w.cell? ⟨b,1,none⟩=some (vI at'))(f1:w.frozen? ⟨b,1,none⟩=false) :
 Calls Tryd.prog 90 #[.pointer (some ⟨b,0,none⟩),.pointer (some p),.int .i64 size] w fun e w' =>
  e = .returned (vI at')∧w'=w.setCell ⟨b,1,none⟩ (vI (adv at' size)):=by
 unfold adv
 rw[← wrap64_wrap]
 go_enter Tryd.func90,Tryd.ntmps90
 go_wp2_with fail
 refine(leave_any _ _ _ _).mono ?_
 rintro e w' ⟨rfl,rfl⟩
 go_wp2_with fail
 go_ret
 exact⟨rfl,rfl⟩
theorem set_get (s:WS)(o:Nat):s.set o (s.get o)=s:=by
 by_cases h146:o=146
 ·subst h146;rfl
 by_cases h149:o=149
 ·subst h149;rfl
 by_cases h150:o=150
 ·subst h150;rfl
 by_cases h151:o=151
 ·subst h151;rfl
 by_cases h153:o=153
 ·subst h153;rfl
 by_cases h154:o=154
 ·subst h154;rfl
 by_cases h155:o=155
 ·subst h155;rfl
 by_cases h156:o=156
 ·subst h156;rfl
 by_cases h157:o=157
 ·subst h157;rfl
 by_cases h158:o=158
 ·subst h158;rfl
 unfold WS.set WS.get
 rw[if_neg h146,if_neg h149,if_neg h150,if_neg h151,if_neg h153,if_neg h154,if_neg h155,if_neg h156,if_neg h157,if_neg h158,if_neg h146,if_neg h149,if_neg h150,if_neg h151,if_neg h153,if_neg h154,if_neg h155,if_neg h156,if_neg h157,if_neg h158]
theorem leaving_own (b:Nat):NextOwn (leaving b):=by
 intro o ho x size w hx hs1 hs8
 obtain⟨s,st⟩:=x
 obtain⟨hl,hn,hI⟩:=hx
 simp only at hl hn hI
 have h0:w.cell? ⟨b,0,none⟩=some (vF 38):=by rw[hl.facts.1,hn];rfl
 refine(next_leaves b ⟨b,o,none⟩ s.at' size w h0 hl.facts.2.1 (hl.frozen 1)).mono ?_
 rintro e w' ⟨rfl,rfl⟩
 have hfr:Fr (fun k=>k=b) w (w.setCell ⟨b,1,none⟩ (vI (adv s.at' size))):=Fr.setCell (Fr.refl (fun k=>k=b) w) _ _ (Or.inl rfl)
 refine⟨hfr.mono (fun k _ hk=>Or.inl hk),?_⟩
 simp only[nextX,leaving,set_get]
 exact⟨trivial,hl.setCell 1 _ (cells_at _ _),hn,(leaving b).stable () s.at' _ _ hI hfr⟩
set_option maxRecDepth 100000
set_option maxHeartbeats 1000000
def magicL : List UInt8:=[102,117,103,117,101,1]
theorem foldl_push (l:List UInt8)(s:ByteArray):(l.map (fun u=>(u.toNat:Int))).foldl (fun r n=>r.push (UInt8.ofNat n.toNat)) s=⟨s.data++l.toArray⟩:=by
 induction l generalizing s with
 | nil=>simp
 | cons u r ih =>
   simp only[List.map_cons,List.foldl_cons]
   rw[ih]
   have:(s.push (UInt8.ofNat (u.toNat:Int).toNat))=⟨s.data.push u⟩:=by
    simp[ByteArray.push]
   rw[this]
   simp
theorem run_bytes_string (w:World)(k o c:Nat)(l:List UInt8)(h:∀ i,(hi:i<l.length)→w.cell? ⟨k,o+i,none⟩=some (.int .u8 l[i].toNat)) :
 (convert 22 9 (.slice (some ⟨k,o,none⟩) l.length c)).run Tryd.prog w = .ok (.string ⟨l.toArray⟩) w:=by
 rw[run_convert_bytes_string w 22 9 5 _ _ _ Tryd.underlying22 (by kernel_rfl) (by kernel_rfl)]
 have hl:=run_loadCells_list (P:=Tryd.prog) w ⟨k,o,none⟩ ((l.map (fun u=>(u.toNat:Int))).map (Value.int .u8)) (fun j v hv=>by
  have hadd:(⟨k,o,none⟩:Addr).add j=⟨k,o+j,none⟩:=by unfold Addr.add;split<;>simp_all
  rw[hadd]
  simp only[List.getElem?_map,Option.map_eq_some_iff] at hv
  obtain⟨n,⟨u,hu,rfl⟩,rfl⟩:=hv
  obtain⟨hj,rfl⟩:=List.getElem?_eq_some_iff.1 hu
  exact h j hj)
 simp only[List.length_map] at hl
 rw[run_bytesToString w ⟨k,o,none⟩ l.length c (l.map (fun u=>(u.toNat:Int))) hl,foldl_push]
 simp
theorem begins_any (k o c:Nat)(bs:List UInt8)(hc:bs.length≤c)(hn':bs.length≤1000000000000000)(h0:1≤bs.length)(w:World)(hk:k<w.heap.size)(hcell:∀ i,(h:i<bs.length)→w.cell? ⟨k,o+i,none⟩=some (.int .u8 bs[i].toNat)) :
 Calls Tryd.prog 60 #[.agg #[.slice (some ⟨k,o,none⟩) bs.length c]] w fun e w' =>
  (if bs.take 6=magicL.take bs.length then e = .returned (.tuple #[]) else e = .panicked (viol 10 0))∧w'=(w.alloc (.cells #[.slice (some ⟨k,o,none⟩) bs.length c] 45)).drew:=by
 by_cases h6:6<bs.length
 ·have hm:(6:Int)<bs.length:=by omega
  have e6:magicL.take bs.length=((⟨#[102,117,103,117,101,1]⟩:ByteArray).extract 0 6).toList:=by
   rw[List.take_of_length_le (by simp[magicL];omega)];kernel_rfl
  have hcv:=run_bytes_string ((w.alloc (.cells #[.slice (some ⟨k,o,none⟩) bs.length c] 45)).drew) k o c (bs.take 6) (fun i hi=>by
   rw[World.cell?_drew,World.cell?_alloc_past _ _ _ hk];simp only[List.getElem_take];exact hcell i (by simp at hi;omega))
  rw[show(bs.take 6).length=6 by simp;omega] at hcv
  have hs1:¬ ((c:Int)<6):=by omega
  have hs2:¬ c=0:=by omega
  have hs3:(6:Int)≤c:=by omega
  have hcr:(w.alloc (.cells #[.slice (some ⟨k,o,none⟩) bs.length c] 45)).cell? ⟨w.heap.size,0,none⟩=some (.slice (some ⟨k,o,none⟩) bs.length c):=by simp
  by_cases hmg:bs.take 6=magicL.take bs.length
  ·have hbb:(List.take 6 bs==((⟨#[102,117,103,117,101,1]⟩:ByteArray).extract 0 6).toList)=true:=by rw[hmg,e6];simp
   simp only[if_pos hmg]
   clear hmg
   go_enter Tryd.func60,Tryd.ntmps60
   go_wp2_with fail
   generalize hwa:(w.alloc (.cells #[.slice (some ⟨k,o,none⟩) bs.length c] 45))=wa at hcv hcr ⊢
   have Hwa:Hd (w.alloc (.cells #[.slice (some ⟨k,o,none⟩) bs.length c] 45)=wa):=hwa
   clear hwa
   refine wp_region_still_tail 8 mixed (by kernel_rfl) ?_
   simp only[List.take_succ_cons,List.take_zero,List.drop_succ_cons,List.drop_zero]
   repeat still_step
   refine wpStill_nil ?_
   go_wp2_with fail
   refine(must_true 10 0 _).mono ?_
   rintro e w' ⟨rfl,rfl⟩
   go_wp2_with fail
   go_end0
   exact⟨rfl,by rw[Hwa.out]⟩
  ·have hbb:(List.take 6 bs==((⟨#[102,117,103,117,101,1]⟩:ByteArray).extract 0 6).toList)=false:=by
    rw[← e6];simpa using hmg
   simp only[if_neg hmg]
   clear hmg
   go_enter Tryd.func60,Tryd.ntmps60
   go_wp2_with fail
   generalize hwa:(w.alloc (.cells #[.slice (some ⟨k,o,none⟩) bs.length c] 45))=wa at hcv hcr ⊢
   have Hwa:Hd (w.alloc (.cells #[.slice (some ⟨k,o,none⟩) bs.length c] 45)=wa):=hwa
   clear hwa
   refine wp_region_still_tail 8 mixed (by kernel_rfl) ?_
   simp only[List.take_succ_cons,List.take_zero,List.drop_succ_cons,List.drop_zero]
   repeat still_step
   refine wpStill_nil ?_
   go_wp2_with fail
   refine(must_false 10 0 _).mono ?_
   rintro e w' ⟨rfl,rfl⟩
   go_wp2_with fail
   exact⟨rfl,rfl,by rw[Hwa.out]⟩
 ·have hm:((bs.length:Nat):Int)≤6:=by omega
  have h6':bs.length≤6:=by omega
  have e6:magicL.take bs.length=((⟨#[102,117,103,117,101,1]⟩:ByteArray).extract 0 bs.length).toList:=by
   have:∀ n,n≤6→magicL.take n=((⟨#[102,117,103,117,101,1]⟩:ByteArray).extract 0 n).toList:=by
    intro n hn
    have:n=0∨n=1∨n=2∨n=3∨n=4∨n=5∨n=6:=by omega
    have t0:magicL.take 0=((⟨#[102,117,103,117,101,1]⟩:ByteArray).extract 0 0).toList:=by kernel_rfl
    have t1:magicL.take 1=((⟨#[102,117,103,117,101,1]⟩:ByteArray).extract 0 1).toList:=by kernel_rfl
    have t2:magicL.take 2=((⟨#[102,117,103,117,101,1]⟩:ByteArray).extract 0 2).toList:=by kernel_rfl
    have t3:magicL.take 3=((⟨#[102,117,103,117,101,1]⟩:ByteArray).extract 0 3).toList:=by kernel_rfl
    have t4:magicL.take 4=((⟨#[102,117,103,117,101,1]⟩:ByteArray).extract 0 4).toList:=by kernel_rfl
    have t5:magicL.take 5=((⟨#[102,117,103,117,101,1]⟩:ByteArray).extract 0 5).toList:=by kernel_rfl
    have t6:magicL.take 6=((⟨#[102,117,103,117,101,1]⟩:ByteArray).extract 0 6).toList:=by kernel_rfl
    rcases this with rfl | rfl | rfl | rfl | rfl | rfl | rfl
    ·exact t0
    ·exact t1
    ·exact t2
    ·exact t3
    ·exact t4
    ·exact t5
    ·exact t6
   exact this _ h6'
  have hcv:=run_bytes_string ((w.alloc (.cells #[.slice (some ⟨k,o,none⟩) bs.length c] 45)).drew) k o c (bs.take 6) (fun i hi=>by
   rw[World.cell?_drew,World.cell?_alloc_past _ _ _ hk];simp only[List.getElem_take];exact hcell i (by simp at hi;omega))
  rw[show(bs.take 6).length=bs.length by simp;omega] at hcv
  have hs1:¬ ((c:Int)<bs.length):=by omega
  have hs2:¬ c=0:=by omega
  have hs3:(bs.length:Int)≤c:=by omega
  have hcr:(w.alloc (.cells #[.slice (some ⟨k,o,none⟩) bs.length c] 45)).cell? ⟨w.heap.size,0,none⟩=some (.slice (some ⟨k,o,none⟩) bs.length c):=by simp
  by_cases hmg:bs.take 6=magicL.take bs.length
  ·have hbb:(List.take 6 bs==((⟨#[102,117,103,117,101,1]⟩:ByteArray).extract 0 bs.length).toList)=true:=by rw[hmg,e6];simp
   simp only[if_pos hmg]
   clear hmg
   go_enter Tryd.func60,Tryd.ntmps60
   go_wp2_with fail
   generalize hwa:(w.alloc (.cells #[.slice (some ⟨k,o,none⟩) bs.length c] 45))=wa at hcv hcr ⊢
   have Hwa:Hd (w.alloc (.cells #[.slice (some ⟨k,o,none⟩) bs.length c] 45)=wa):=hwa
   clear hwa
   refine wp_region_still_tail 8 mixed (by kernel_rfl) ?_
   simp only[List.take_succ_cons,List.take_zero,List.drop_succ_cons,List.drop_zero]
   repeat still_step
   refine wpStill_nil ?_
   go_wp2_with fail
   refine(must_true 10 0 _).mono ?_
   rintro e w' ⟨rfl,rfl⟩
   go_wp2_with fail
   go_end0
   exact⟨rfl,by rw[Hwa.out]⟩
  ·have hbb:(List.take 6 bs==((⟨#[102,117,103,117,101,1]⟩:ByteArray).extract 0 bs.length).toList)=false:=by
    rw[← e6];simpa using hmg
   simp only[if_neg hmg]
   clear hmg
   go_enter Tryd.func60,Tryd.ntmps60
   go_wp2_with fail
   generalize hwa:(w.alloc (.cells #[.slice (some ⟨k,o,none⟩) bs.length c] 45))=wa at hcv hcr ⊢
   have Hwa:Hd (w.alloc (.cells #[.slice (some ⟨k,o,none⟩) bs.length c] 45)=wa):=hwa
   clear hwa
   refine wp_region_still_tail 8 mixed (by kernel_rfl) ?_
   simp only[List.take_succ_cons,List.take_zero,List.drop_succ_cons,List.drop_zero]
   repeat still_step
   refine wpStill_nil ?_
   go_wp2_with fail
   refine(must_false 10 0 _).mono ?_
   rintro e w' ⟨rfl,rfl⟩
   go_wp2_with fail
   exact⟨rfl,rfl,by rw[Hwa.out]⟩
set_option maxRecDepth 100000
set_option maxHeartbeats 1000000
theorem run_nil_string (w:World)(c:Nat):(convert 22 9 (.slice none 0 c)).run Tryd.prog w = .ok (.string ⟨#[]⟩) w:=by
 rw[run_convert_bytes_string w 22 9 5 _ _ _ Tryd.underlying22 (by kernel_rfl) (by kernel_rfl)]
 rfl
theorem begins_nil (w:World) :
 Calls Tryd.prog 60 #[.agg #[.slice none 0 0]] w fun e w'=>e = .returned (.tuple #[])∧w'=(w.alloc (.cells #[.slice none 0 0] 45)).drew:=by
 have hcv:=run_nil_string
 go_enter Tryd.func60,Tryd.ntmps60
 go_wp2_with fail
 have hcr:(w.alloc (.cells #[.slice none 0 0] 45)).cell? ⟨w.heap.size,0,none⟩=some (.slice none 0 0):=by simp
 generalize hwa:(w.alloc (.cells #[.slice none 0 0] 45))=wa at hcr ⊢
 have Hwa:Hd (w.alloc (.cells #[.slice none 0 0] 45)=wa):=hwa
 clear hwa
 refine wp_region_still_tail 8 mixed (by kernel_rfl) ?_
 simp only[List.take_succ_cons,List.take_zero,List.drop_succ_cons,List.drop_zero]
 repeat still_step
 refine wpStill_nil ?_
 go_wp2_with fail
 refine(must_true 10 0 _).mono ?_
 rintro e w' ⟨rfl,rfl⟩
 go_wp2_with fail
 go_end0
 exact⟨rfl,by rw[Hwa.out]⟩
end Go.Proofs.YtingenonbkencaaDoor
