import Derived.Test.YtingenonbkencaaDoorQN6J
import Derived.Test.YtingenonbkencaaDoorQC2J
import Derived.Test.YtingenonbkencaaDoorQG7
import Derived.Test.YtingenonbkencaaDoorQW3J
import Derived.Test.YtingenonbkencaaDoorQW4J
import Derived.Lib.SlBytesConst
set_option linter.unusedVariables false
set_option linter.unusedSimpArgs false
namespace Go.Proofs.YtingenonbkencaaDoor
open Go.RowKit (wrap32 wrap64)
def Handed (w:World)(rv:Value)(bs:List UInt8):Prop :=
 bs.length≤1000000000000000∧((bs=[]∧rv = .slice none 0 0)∨(bs≠[]∧∃ k o c,rv = .slice (some ⟨k,o,none⟩) bs.length c∧bs.length≤c∧k<w.heap.size∧∀ i,(h:i<bs.length)→w.cell? ⟨k,o+i,none⟩=some (.int .u8 bs[i].toNat)))
def DecEnds (w:World)(bs:List UInt8)(e:Ending)(w':World):Prop :=
 Fr (fun _=>False) w w'∧match decX bs with
  | .error z=>e = .returned (.tuple #[.agg #[vI 0,.slice none 0 0],vI z.1,vI z.2])
  | .ok (G,done,fs)=>∃ v,e = .returned (.tuple #[v,vI 0,vI 0])∧LaidP w w' v G done fs
theorem startW_size (w:World)(rv:Value):(startW w rv).heap.size=w.heap.size+7:=by unfold startW;simp
theorem startW_fr (w:World)(rv:Value):Fr (fun _=>False) w (startW w rv):=by
 unfold startW
 exact Fr.alloc (Fr.alloc (Fr.alloc (Fr.alloc (Fr.alloc (Fr.alloc (Fr.alloc (Fr.refl _ w) _) _) _) _) _) _) _
theorem startW_at (w:World)(rv:Value):(startW w rv).heap[w.heap.size]?=some (.cells #[vI 0,.slice none 0 0] 26)∧(startW w rv).heap[w.heap.size+3]?=some (.cells (WS.start (readerFn rv)).cells 87) ∧
 (startW w rv).heap[w.heap.size+5]?=some (.cells #[vI 0,.slice none 0 0] 26)∧(startW w rv).heap[w.heap.size+6]?=some (.cells #[vI 0,vI 0] 50):=by
 have last:∀ (v:World) (o:Obj) (n:Nat),v.heap.size=n→(v.alloc o).heap[n]?=some o:=fun v o n h=>by rw[← h];exact heap_alloc_last v o
 have past:∀ (v:World) (o:Obj) (n:Nat),n<v.heap.size→(v.alloc o).heap[n]?=v.heap[n]?:=fun v o n h=>Go.RowKit.Below.heap_alloc v o n h
 unfold startW
 refine⟨?_,?_,?_,?_⟩
 ·rw[past _ _ _ (by simp;try omega),past _ _ _ (by simp;try omega),past _ _ _ (by simp;try omega),past _ _ _ (by simp;try omega),past _ _ _ (by simp;try omega),past _ _ _ (by simp;try omega),last _ _ _ rfl]
 ·rw[past _ _ _ (by simp;try omega),past _ _ _ (by simp;try omega),past _ _ _ (by simp;try omega),last _ _ _ (by simp;try omega)]
 ·rw[past _ _ _ (by simp;try omega),last _ _ _ (by simp;try omega)]
 ·rw[last _ _ _ (by simp;try omega)]
theorem LaidP.back {w0 w1 w w':World}{v:Value}{G:Int}{done:List HD}{fs:List (List AI)}{S:Nat→Prop}(h:LaidP w1 w v G done fs)(hs:w0.heap.size≤w1.heap.size)(f:Fr S w w')(hS:∀ k,w1.heap.size≤k→k<w.heap.size→¬ S k):LaidP w0 w' v G done fs:=by
 obtain⟨g,cap,cs,tl,h1,h2,h3,h4,h5,h6,h7,h8,h9⟩:=h
 have hg:=(Array.getElem?_eq_some_iff.1 h7).1
 exact⟨g,cap,cs,tl,Nat.le_trans hs h1,h2,h3,h4,h5,h6,by rw[f.block g hg (hS g h1 hg)];exact h7,CodesAt.mono hs (h8.fr f hS),h9⟩
theorem decode_said (rv:Value)(bs:List UInt8)(w:World)(hb:Handed w rv bs)(hT:Tab w)(h0:0<w.heap.size) :
 Calls Tryd.prog 10 #[rv] w (DecEnds w bs):=by
 obtain⟨hL,hb⟩:=hb
 have hsz:=startW_size w rv
 have hsf:=startW_fr w rv
 obtain⟨s0,s3,s5,s6⟩:=startW_at w rv
 obtain⟨ra,rc,hrv⟩:∃ ra rc,rv = .slice ra bs.length rc:=by
  rcases hb with⟨rfl,rfl⟩|⟨-,k,o,c,rfl,-⟩
  ·exact⟨none,0,rfl⟩
  ·exact⟨_,_,rfl⟩
 have hBO:BytesOf (w.heap.size+3) (startW w rv) rv bs:=by
  refine⟨hL,?_⟩
  rcases hb with⟨rfl,rfl⟩|⟨hne,k,o,c,rfl,hc,hk,hcell⟩
  ·exact⟨none,0,rfl,Nat.le_refl _,fun h=>absurd rfl h⟩
  ·refine⟨_,c,rfl,hc,fun _=>⟨k,o,rfl,by omega,by omega,fun i hi=>?_⟩⟩
   rw[hsf.cell hk (fun h=>h)]
   exact hcell i hi
 have hon:On (reading (w.heap.size+3) rv bs) (startW w rv) (WS.start (readerFn rv),()) :=
  ⟨s3,rfl,hBO,by show(0:Int)≤6;omega,by show(6:Int)≤_;omega,by omega,hT.fr hsf (fun h=>h)⟩
 have hU:Under (w.heap.size+3) rv (startW w rv).heap.size:=⟨by omega,by omega,fun k o n c e hne=>by
  rcases hb with⟨h1,h2⟩|⟨-,k',o',c',h2,-,hk,-⟩
  ·rw[h2] at e;cases e
  ·rw[h2] at e;cases e;omega⟩
 have hbeg:∀ w1,Fr (fun k=>k=w.heap.size+3) (startW w rv) w1→Calls Tryd.prog 60 #[.agg #[rv]] w1 fun e w'=>(if bs.take 6=magicL.take bs.length then e = .returned (.tuple #[]) else e = .panicked (viol 10 0))∧w'=(w1.alloc (.cells #[rv] 45)).drew:=by
  intro w1 hf1
  rcases hb with⟨h1,h2⟩|⟨hne,k,o,c,h2,hc,hk,hcell⟩
  ·subst h1
   rw[h2]
   refine(begins_nil w1).mono ?_
   rintro e w' ⟨h3,h4⟩
   exact⟨by rw[if_pos (by simp)];exact h3,h4⟩
  ·rw[h2]
   refine begins_any k o c bs hc hL (by cases bs with | nil=>exact absurd rfl hne | cons a l=>simp) w1 (by have:=hf1.size;omega) (fun i hi=>?_)
   rw[hf1.cell (by omega) (by omega),hsf.cell hk (fun h=>h)]
   exact hcell i hi
 have ht:=through_said (w.heap.size+3) rv bs (WS.start (readerFn rv)) (startW w rv) hon hU rfl hbeg ra bs.length rc hrv
 subst hrv
 clear hbeg hon hU hBO hb
 have hsp:∀ w0,Fr (fun k=>k=w.heap.size+3) (startW w (.slice ra bs.length rc)) w0→Spared w.heap.size w0∧(∃ u0 u1,w0.cell? ⟨w.heap.size+5,0,none⟩=some u0∧w0.cell? ⟨w.heap.size+5,1,none⟩=some u1)∧∀ o,w0.frozen? ⟨w.heap.size+5,o,none⟩=false:=by
  intro w0 hf
  have e0:w0.heap[w.heap.size]?=some (.cells #[vI 0,.slice none 0 0] 26):=by rw[hf.block _ (by omega) (by omega)];exact s0
  have e5:w0.heap[w.heap.size+5]?=some (.cells #[vI 0,.slice none 0 0] 26):=by rw[hf.block _ (by omega) (by omega)];exact s5
  have e6:w0.heap[w.heap.size+6]?=some (.cells #[vI 0,vI 0] 50):=by rw[hf.block _ (by omega) (by omega)];exact s6
  refine⟨⟨e0,?_,?_,?_⟩,⟨vI 0,.slice none 0 0,?_,?_⟩,?_⟩
  ·unfold World.cell?;simp[e6]
  ·unfold World.cell?;simp[e6]
  ·intro o;unfold World.frozen?;simp[e6]
  ·unfold World.cell?;simp[e5]
  ·unfold World.cell?;simp[e5]
  ·intro o;unfold World.frozen?;simp[e5]
 refine(decode_any ra bs.length rc w
  (fun G a n c w0=>Fr (fun k=>k=w.heap.size+3) (startW w (.slice ra bs.length rc)) w0∧∃ done fs,decX bs = .ok (G,done,fs)∧LaidP (startW w (.slice ra bs.length rc)) w0 (.agg #[vI G,.slice a n c]) G done fs)
  (fun er at' w0=>Fr (fun k=>k=w.heap.size+3) (startW w (.slice ra bs.length rc)) w0∧decX bs = .error (er,at'))
  (fun G a n c w0 h=>⟨(hsp w0 h.1).1,(hsp w0 h.1).2.1⟩) (fun er at' w0 h=>⟨decX_told hL h.2,(hsp w0 h.1).1⟩) ?_).mono ?_
 ·refine ht.mono ?_
  rintro e w0 ⟨hf,fv,hr⟩
  rw[decX_eq hL] at hr
  cases hd:decX bs with
  | error z =>
    rw[hd] at hr
    exact Or.inr ⟨z.1,z.2,hr,hf,rfl⟩
  | ok q =>
    obtain⟨G,done,fs⟩:=q
    rw[hd] at hr
    obtain⟨v,rfl,hl⟩:=hr
    obtain⟨g,cap,cs,tl,h1,h2,hrest⟩:=hl
    refine Or.inl ⟨G,some ⟨g,0,none⟩,done.length,cap,by rw[h2],⟨hf,done,fs,rfl,g,cap,cs,tl,h1,rfl,hrest⟩,(hsp w0 hf).2.1,(hsp w0 hf).2.2⟩
 ·have hfin:∀ w0 w',Fr (fun k=>k=w.heap.size+3) (startW w (.slice ra bs.length rc)) w0→Fr (fun k=>w.heap.size≤k∧k<w.heap.size+7) w0 w'→Fr (fun _=>False) w w':=by
   intro w0 w' f1 f2
   have h1:Fr (fun k=>w.heap.size≤k) w w':=((hsf.mono (fun _ _ h=>h.elim)).trans (f1.mono (fun k _ hk=>by omega))).trans (f2.mono (fun k _ hk=>hk.1))
   exact h1.mono (fun k hk hS=>by omega)
  rintro e w' (⟨G,a,l,c,w0,⟨hf,done,fs,hd,hl⟩,rfl,hf'⟩|⟨er,at',w0,⟨hf,hd⟩,rfl,hf'⟩)
  ·refine⟨hfin w0 w' hf hf',?_⟩
   rw[hd]
   exact⟨_,rfl,hl.back (by omega) hf' (fun k hk _=>by omega)⟩
  ·refine⟨hfin w0 w' hf hf',?_⟩
   rw[hd]
set_option maxRecDepth 100000
set_option maxHeartbeats 1000000
theorem enc1_any (wv pv b fb:Nat)(w:World)(hw:w.cell? ⟨wv,0,none⟩=some (.pointer (some ⟨b,0,none⟩)))(h0:w.cell? ⟨pv,0,none⟩=some (vI 0))(h1:w.cell? ⟨pv,1,none⟩=some (.slice (some ⟨fb,0,none⟩) 1 1))(Q:World→Prop)
 (ho:Calls Tryd.prog 36 #[.pointer (some ⟨b,0,none⟩),.agg #[vI 0,.slice (some ⟨fb,0,none⟩) 1 1]] w fun e w'=>e = .returned (.tuple #[])∧Q w') :
 Calls Tryd.prog 35 #[.pointer (some ⟨wv,0,none⟩),.pointer (some ⟨pv,0,none⟩)] w fun e w'=>e = .returned (.tuple #[])∧Q w':=by
 go_enter Tryd.func35,Tryd.ntmps35
 go_wp2_with fail
 refine ho.mono ?_
 rintro e w1 ⟨rfl,hQ⟩
 clear ho
 go_wp2_with fail
 go_end0
 exact⟨rfl,hQ⟩
theorem check1_any (wv pv b fb:Nat)(w:World)(hw:w.cell? ⟨wv,0,none⟩=some (.pointer (some ⟨b,0,none⟩)))(h0:w.cell? ⟨pv,0,none⟩=some (vI 0))(h1:w.cell? ⟨pv,1,none⟩=some (.slice (some ⟨fb,0,none⟩) 1 1))(Q:World→Prop)
 (ho:Calls Tryd.prog 36 #[.pointer (some ⟨b,0,none⟩),.agg #[vI 0,.slice (some ⟨fb,0,none⟩) 1 1]] w fun e w'=>e = .returned (.tuple #[])∧Q w') :
 Calls Tryd.prog 39 #[.pointer (some ⟨wv,0,none⟩),.pointer (some ⟨pv,0,none⟩)] w fun e w'=>e = .returned (.tuple #[])∧Q w':=by
 go_enter Tryd.func39,Tryd.ntmps39
 go_wp2_with fail
 refine ho.mono ?_
 rintro e w1 ⟨rfl,hQ⟩
 clear ho
 go_wp2_with fail
 go_end0
 exact⟨rfl,hQ⟩
theorem loc1_any (wv pv b fb:Nat)(w:World)(hw:w.cell? ⟨wv,0,none⟩=some (.pointer (some ⟨b,0,none⟩)))(h0:w.cell? ⟨pv,0,none⟩=some (vI 0))(h1:w.cell? ⟨pv,1,none⟩=some (.slice (some ⟨fb,0,none⟩) 1 1))(Q:World→Prop)
 (ho:Calls Tryd.prog 36 #[.pointer (some ⟨b,0,none⟩),.agg #[vI 0,.slice (some ⟨fb,0,none⟩) 1 1]] w fun e w'=>e = .returned (.tuple #[])∧Q w') :
 Calls Tryd.prog 52 #[.pointer (some ⟨wv,0,none⟩),.pointer (some ⟨pv,0,none⟩)] w fun e w'=>e = .returned (.tuple #[])∧Q w':=by
 go_enter Tryd.func52,Tryd.ntmps52
 go_wp2_with fail
 refine ho.mono ?_
 rintro e w1 ⟨rfl,hQ⟩
 clear ho
 go_wp2_with fail
 go_end0
 exact⟨rfl,hQ⟩
theorem leaving_keeps (b:Nat):Keeps (leaving b) (fun _=>1000):=fun st p size v _=>⟨st,rfl⟩
theorem writing_keeps (b wb g0 K:Nat):Keeps (writing b wb g0 K) (fun st=>st.1):=by
 intro st p size v h
 have h':¬ (st:Nat × List UInt8).1=0:=by have:1≤(st:Nat × List UInt8).1:=h;omega
 exact⟨((st:Nat × List UInt8).1-1,(st:Nat × List UInt8).2++leBytes size (IntKind.u64.wrap v).toNat),if_neg h'⟩
theorem unsaid_of {w:World}{n:Nat}(h:w.heap[n]?=some (.cells #[vI 0,vI 0] 50)):Unsaid n w:=by
 refine⟨?_,?_,?_⟩
 ·unfold World.cell?;simp[h]
 ·unfold World.cell?;simp[h]
 ·intro o;unfold World.frozen?;simp[h]
def startC (w:World)(fb:Nat):World :=
 ((((w.alloc (.cells #[vI 0,.slice (some ⟨fb,0,none⟩) 1 1] 26)).alloc (.cells rowsC 85)).alloc (.cells (WS.start (vF 38)).cells 87)).alloc (.cells #[.pointer (some ⟨w.heap.size+2,0,none⟩)] 46)).alloc (.cells #[vI 0,vI 0] 50)
theorem startC_at (w:World)(fb:Nat):(startC w fb).heap[w.heap.size]?=some (.cells #[vI 0,.slice (some ⟨fb,0,none⟩) 1 1] 26)∧(startC w fb).heap[w.heap.size+2]?=some (.cells (WS.start (vF 38)).cells 87) ∧
 (startC w fb).heap[w.heap.size+3]?=some (.cells #[.pointer (some ⟨w.heap.size+2,0,none⟩)] 46)∧(startC w fb).heap[w.heap.size+4]?=some (.cells #[vI 0,vI 0] 50)∧(startC w fb).heap.size=w.heap.size+5∧Fr (fun _=>False) w (startC w fb):=by
 have last:∀ (v:World) (o:Obj) (n:Nat),v.heap.size=n→(v.alloc o).heap[n]?=some o:=fun v o n h=>by rw[← h];exact heap_alloc_last v o
 have past:∀ (v:World) (o:Obj) (n:Nat),n<v.heap.size→(v.alloc o).heap[n]?=v.heap[n]?:=fun v o n h=>Go.RowKit.Below.heap_alloc v o n h
 unfold startC
 refine⟨?_,?_,?_,?_,by simp,Fr.alloc (Fr.alloc (Fr.alloc (Fr.alloc (Fr.alloc (Fr.refl _ w) _) _) _) _) _⟩
 ·rw[past _ _ _ (by simp;try omega),past _ _ _ (by simp;try omega),past _ _ _ (by simp;try omega),past _ _ _ (by simp;try omega),last _ _ _ rfl]
 ·rw[past _ _ _ (by simp;try omega),past _ _ _ (by simp;try omega),last _ _ _ (by simp;try omega)]
 ·rw[past _ _ _ (by simp;try omega),last _ _ _ (by simp;try omega)]
 ·rw[last _ _ _ (by simp;try omega)]
theorem over_check (w:World)(fb cb:Nat)(hl:Least w fb cb)(hT:Tab w)(h0:0<w.heap.size) :
 Calls Tryd.prog 36 #[.pointer (some ⟨w.heap.size+2,0,none⟩),.agg #[vI 0,.slice (some ⟨fb,0,none⟩) 1 1]] (startC w fb) fun e w'=>e = .returned (.tuple #[])∧Fr (fun k=>k=w.heap.size+2) (startC w fb) w'∧w'.cell? ⟨w.heap.size+2,148,none⟩=some (vI 1):=by
 obtain⟨s0,s2,s3,s4,hsz,hsf⟩:=startC_at w fb
 have hfbl:=(Array.getElem?_eq_some_iff.1 hl.funcs).1
 have hcbl:=(Array.getElem?_eq_some_iff.1 hl.code).1
 have hSB:∀ k,(leaving (w.heap.size+2)).SB k→k=w.heap.size+2:=fun k h=>h.elim id (fun h=>h.elim)
 refine(over_least (leaving (w.heap.size+2)) (fun _=>1000) ((leaving_own _).at _) (leaving_goes _) (leaving_keeps _) (WS.start (vF 38)) () (startC w fb) s2 (by show 8≤1000;omega) rfl rfl fb cb (hl.fr hsf (fun h=>h) (fun h=>h))
  (fun h=>by have:=hSB _ h;omega) (fun h=>by have:=hSB _ h;omega) (fun k e h=>by have:=hSB _ h;omega) (fun w1 s' hf _ hls hn _=>⟨hls,hn,by show _≠0;omega,(hT.fr hsf (fun h=>h)).fr hf (by omega)⟩)).mono ?_
 rintro e w' ⟨rfl,hf,s',st8,hon,hlo,-⟩
 exact⟨rfl,hf.mono (fun k _ h=>hSB k h),by rw[hon.1.facts.2.2.2.2.1,hlo]⟩
theorem check_least (w:World)(fb cb:Nat)(hl:Least w fb cb)(hT:Tab w)(h0:0<w.heap.size) :
 Calls Tryd.prog 14 #[.agg #[vI 0,.slice (some ⟨fb,0,none⟩) 1 1]] w fun e w'=>e = .returned (vI 0)∧Fr (fun _=>False) w w':=by
 have hmf:∀ (fn:Fn) (first cap:Array Value) (w:World),(Instr.makeFunc fn first cap).run Tryd.prog w = .ok (.func fn first cap) w:=fun _ _ _ _=>rfl
 obtain⟨s0,s2,s3,s4,hsz,hsf⟩:=startC_at w fb
 have hfv:Calls Tryd.prog 31 #[.func (.func 39) #[] #[.pointer (some ⟨w.heap.size+3,0,none⟩),.pointer (some ⟨w.heap.size,0,none⟩)]]
  ((((w.alloc (.cells #[vI 0,.slice (some ⟨fb,0,none⟩) 1 1] 26)).alloc (.cells rowsC 85)).alloc (.cells (WS.start (vF 38)).cells 87)).alloc (.cells #[.pointer (some ⟨w.heap.size+2,0,none⟩)] 46))
  (Said1 (w.heap.size+4) (fun w'=>Fr (fun k=>k=w.heap.size+2) (startC w fb) w') (fun _ _ _=>False)):=by
  have:=firstViolation_any 39 #[.pointer (some ⟨w.heap.size+3,0,none⟩),.pointer (some ⟨w.heap.size,0,none⟩)]
   ((((w.alloc (.cells #[vI 0,.slice (some ⟨fb,0,none⟩) 1 1] 26)).alloc (.cells rowsC 85)).alloc (.cells (WS.start (vF 38)).cells 87)).alloc (.cells #[.pointer (some ⟨w.heap.size+2,0,none⟩)] 46))
   (fun w'=>Fr (fun k=>k=w.heap.size+2) (startC w fb) w') (fun _ _ _=>False) (fun _=>by kernel_rfl) ?_
  ·simpa using this
  ·refine(check1_any (w.heap.size+3) w.heap.size (w.heap.size+2) fb (startC w fb) ?_ ?_ ?_ (fun w'=>Fr (fun k=>k=w.heap.size+2) (startC w fb) w') ((over_check w fb cb hl hT h0).mono (fun e w' h=>⟨h.1,h.2.1⟩))).mono ?_
   ·unfold World.cell?;simp[s3]
   ·unfold World.cell?;simp[s0]
   ·unfold World.cell?;simp[s0]
   ·rintro e w' ⟨rfl,hf⟩
    refine⟨unsaid_of ?_,Or.inl ⟨rfl,hf⟩⟩
    have e4:((((w.alloc (.cells #[vI 0,.slice (some ⟨fb,0,none⟩) 1 1] 26)).alloc (.cells rowsC 85)).alloc (.cells (WS.start (vF 38)).cells 87)).alloc (.cells #[.pointer (some ⟨w.heap.size+2,0,none⟩)] 46)).heap.size=w.heap.size+4:=by simp
    rw[e4,hf.block _ (by omega) (by omega)]
    exact s4
 go_enter Tryd.func14,Tryd.ntmps14
 go_wp2_with fail
 refine(newWalk_any _ _ _ _).mono ?_
 rintro e w1 ⟨rfl,rfl⟩
 go_wp2_with fail
 refine hfv.mono ?_
 rintro e w2 ⟨er,at',w3,rfl,rfl,hcase⟩
 clear hfv
 rcases hcase with⟨rfl,rfl,hf⟩ | h
 rotate_left
 ·exact h.elim
 have hfd:∀ (v:World),(Instr.field 50 (.agg #[vI 0,vI 0]) 0).run Tryd.prog v = .ok (vI 0) v:=fun _=>by kernel_rfl
 have hend:Hd (∀ w4,Fr (fun k=>w.heap.size≤k) w3 w4→Fr (fun _=>False) w w4):=fun w4 h4=>by
  have h1:Fr (fun k=>w.heap.size≤k) w w4:=((hsf.mono (fun _ _ h=>h.elim)).trans (hf.mono (fun k _ hk=>by omega))).trans h4
  exact h1.mono (fun k hk hS=>by omega)
 go_wp2_with fail
 go_ret
 refine⟨rfl,hend.out _ ?_⟩
 repeat first
  | exact Fr.refl _ _
  | refine Fr.drew ?_
  | refine Fr.alloc ?_ _
  | refine Fr.setCell ?_ _ _ (Or.inl (by simp<;>omega))
theorem locations_least (w:World)(fb cb:Nat)(hl:Least w fb cb)(hT:Tab w)(h0:0<w.heap.size) :
 Calls Tryd.prog 23 #[.agg #[vI 0,.slice (some ⟨fb,0,none⟩) 1 1]] w fun e w'=>e = .returned (vI 1)∧Fr (fun _=>False) w w':=by
 have hmf:∀ (fn:Fn) (first cap:Array Value) (w:World),(Instr.makeFunc fn first cap).run Tryd.prog w = .ok (.func fn first cap) w:=fun _ _ _ _=>rfl
 obtain⟨s0,s2,s3,s4,hsz,hsf⟩:=startC_at w fb
 have hfv:Calls Tryd.prog 31 #[.func (.func 52) #[] #[.pointer (some ⟨w.heap.size+3,0,none⟩),.pointer (some ⟨w.heap.size,0,none⟩)]]
  ((((w.alloc (.cells #[vI 0,.slice (some ⟨fb,0,none⟩) 1 1] 26)).alloc (.cells rowsC 85)).alloc (.cells (WS.start (vF 38)).cells 87)).alloc (.cells #[.pointer (some ⟨w.heap.size+2,0,none⟩)] 46))
  (Said1 (w.heap.size+4) (fun w'=>Fr (fun k=>k=w.heap.size+2) (startC w fb) w'∧w'.cell? ⟨w.heap.size+2,148,none⟩=some (vI 1)) (fun _ _ _=>False)):=by
  have:=firstViolation_any 52 #[.pointer (some ⟨w.heap.size+3,0,none⟩),.pointer (some ⟨w.heap.size,0,none⟩)]
   ((((w.alloc (.cells #[vI 0,.slice (some ⟨fb,0,none⟩) 1 1] 26)).alloc (.cells rowsC 85)).alloc (.cells (WS.start (vF 38)).cells 87)).alloc (.cells #[.pointer (some ⟨w.heap.size+2,0,none⟩)] 46))
   (fun w'=>Fr (fun k=>k=w.heap.size+2) (startC w fb) w'∧w'.cell? ⟨w.heap.size+2,148,none⟩=some (vI 1)) (fun _ _ _=>False) (fun _=>by kernel_rfl) ?_
  ·simpa using this
  ·refine(loc1_any (w.heap.size+3) w.heap.size (w.heap.size+2) fb (startC w fb) ?_ ?_ ?_ (fun w'=>Fr (fun k=>k=w.heap.size+2) (startC w fb) w'∧w'.cell? ⟨w.heap.size+2,148,none⟩=some (vI 1)) ((over_check w fb cb hl hT h0).mono (fun e w' h=>h))).mono ?_
   ·unfold World.cell?;simp[s3]
   ·unfold World.cell?;simp[s0]
   ·unfold World.cell?;simp[s0]
   ·rintro e w' ⟨rfl,hf,h148⟩
    refine⟨unsaid_of ?_,Or.inl ⟨rfl,hf,h148⟩⟩
    have e4:((((w.alloc (.cells #[vI 0,.slice (some ⟨fb,0,none⟩) 1 1] 26)).alloc (.cells rowsC 85)).alloc (.cells (WS.start (vF 38)).cells 87)).alloc (.cells #[.pointer (some ⟨w.heap.size+2,0,none⟩)] 46)).heap.size=w.heap.size+4:=by simp
    rw[e4,hf.block _ (by omega) (by omega)]
    exact s4
 go_enter Tryd.func23,Tryd.ntmps23
 go_wp2_with fail
 refine(newWalk_any _ _ _ _).mono ?_
 rintro e w1 ⟨rfl,rfl⟩
 go_wp2_with fail
 refine hfv.mono ?_
 rintro e w2 ⟨er,at',w3,rfl,rfl,hcase⟩
 clear hfv
 rcases hcase with⟨rfl,rfl,hf,h148⟩ | h
 rotate_left
 ·exact h.elim
 have hfd:∀ (v:World),(Instr.field 50 (.agg #[vI 0,vI 0]) 0).run Tryd.prog v = .ok (vI 0) v:=fun _=>by kernel_rfl
 have hend:Hd (∀ w4,Fr (fun k=>w.heap.size≤k) w3 w4→Fr (fun _=>False) w w4):=fun w4 h4=>by
  have h1:Fr (fun k=>w.heap.size≤k) w w4:=((hsf.mono (fun _ _ h=>h.elim)).trans (hf.mono (fun k _ hk=>by omega))).trans h4
  exact h1.mono (fun k hk hS=>by omega)
 have e3:w3.heap[w.heap.size+3]?=some (.cells #[.pointer (some ⟨w.heap.size+2,0,none⟩)] 46):=by rw[hf.block _ (by omega) (by omega)];exact s3
 have hf4:Fr (fun k=>w.heap.size≤k) w3 ((w3.setCell ⟨w.heap.size+4,0,none⟩ (vI 0)).setCell ⟨w.heap.size+4,1,none⟩ (vI 0)):=Fr.setCell (Fr.setCell (Fr.refl _ w3) _ _ (Or.inl (by simp))) _ _ (Or.inl (by simp))
 have c3:((w3.setCell ⟨w.heap.size+4,0,none⟩ (vI 0)).setCell ⟨w.heap.size+4,1,none⟩ (vI 0)).cell? ⟨w.heap.size+3,0,none⟩=some (.pointer (some ⟨w.heap.size+2,0,none⟩)):=by
  rw[World.cell?_setCell_other _ _ _ _ (by simp),World.cell?_setCell_other _ _ _ _ (by simp)];unfold World.cell?;simp[e3]
 have c148:((w3.setCell ⟨w.heap.size+4,0,none⟩ (vI 0)).setCell ⟨w.heap.size+4,1,none⟩ (vI 0)).cell? ⟨w.heap.size+2,148,none⟩=some (vI 1):=by
  rw[World.cell?_setCell_other _ _ _ _ (by simp),World.cell?_setCell_other _ _ _ _ (by simp)];exact h148
 generalize ((w3.setCell ⟨w.heap.size+4,0,none⟩ (vI 0)).setCell ⟨w.heap.size+4,1,none⟩ (vI 0))=w4 at hf4 c3 c148 ⊢
 have hl3:w.heap.size+3<w4.heap.size:=cell_lt c3
 have hl3':w.heap.size+1+1+1<w4.heap.size:=hl3
 have hl2:w.heap.size+2<w4.heap.size:=cell_lt c148
 have hl2':w.heap.size+1+1<w4.heap.size:=hl2
 have hl4:w3.heap.size≤w4.heap.size:=hf4.size
 have c3':w4.cell? ⟨w.heap.size+1+1+1,0,none⟩=some (.pointer (some ⟨w.heap.size+1+1,0,none⟩)):=c3
 have c148':w4.cell? ⟨w.heap.size+1+1,148,none⟩=some (vI 1):=c148
 go_wp2_with fail
 go_ret
 refine⟨rfl,hend.out _ (hf4.trans ?_)⟩
 repeat first
  | exact Fr.refl _ _
  | refine Fr.drew ?_
  | refine Fr.alloc ?_ _
  | refine Fr.setCell ?_ _ _ (Or.inl (by simp<;>omega))
set_option maxRecDepth 100000
set_option maxHeartbeats 1000000
abbrev magicC : Array Value:=#[.int .u8 102,.int .u8 117,.int .u8 103,.int .u8 117,.int .u8 101,.int .u8 1]
def leastB : List UInt8:=[102,117,103,117,101,1,0,1,0,0,0,0,1,0,15,0]
def startE (w:World)(fb:Nat):World :=
 ((((((w.alloc (.cells #[vI 0,.slice (some ⟨fb,0,none⟩) 1 1] 26)).alloc (.cells magicC 5 (6,7))).alloc (.cells #[.slice (some ⟨w.heap.size+1,0,none⟩) 6 6] 53)).alloc (.cells rowsC 85)).alloc (.cells (WS.start (writerFn (w.heap.size+2))).cells 87)).alloc (.cells #[.pointer (some ⟨w.heap.size+4,0,none⟩)] 46)).alloc (.cells #[vI 0,vI 0] 50)
theorem startE_at (w:World)(fb:Nat):(startE w fb).heap[w.heap.size]?=some (.cells #[vI 0,.slice (some ⟨fb,0,none⟩) 1 1] 26)∧(startE w fb).heap[w.heap.size+1]?=some (.cells magicC 5 (6,7)) ∧
 (startE w fb).heap[w.heap.size+2]?=some (.cells #[.slice (some ⟨w.heap.size+1,0,none⟩) 6 6] 53)∧(startE w fb).heap[w.heap.size+4]?=some (.cells (WS.start (writerFn (w.heap.size+2))).cells 87) ∧
 (startE w fb).heap[w.heap.size+5]?=some (.cells #[.pointer (some ⟨w.heap.size+4,0,none⟩)] 46)∧(startE w fb).heap[w.heap.size+6]?=some (.cells #[vI 0,vI 0] 50)∧(startE w fb).heap.size=w.heap.size+7∧Fr (fun _=>False) w (startE w fb):=by
 have last:∀ (v:World) (o:Obj) (n:Nat),v.heap.size=n→(v.alloc o).heap[n]?=some o:=fun v o n h=>by rw[← h];exact heap_alloc_last v o
 have past:∀ (v:World) (o:Obj) (n:Nat),n<v.heap.size→(v.alloc o).heap[n]?=v.heap[n]?:=fun v o n h=>Go.RowKit.Below.heap_alloc v o n h
 unfold startE
 refine⟨?_,?_,?_,?_,?_,?_,by simp,Fr.alloc (Fr.alloc (Fr.alloc (Fr.alloc (Fr.alloc (Fr.alloc (Fr.alloc (Fr.refl _ w) _) _) _) _) _) _) _⟩
 ·rw[past _ _ _ (by simp;try omega),past _ _ _ (by simp;try omega),past _ _ _ (by simp;try omega),past _ _ _ (by simp;try omega),past _ _ _ (by simp;try omega),past _ _ _ (by simp;try omega),last _ _ _ rfl]
 ·rw[past _ _ _ (by simp;try omega),past _ _ _ (by simp;try omega),past _ _ _ (by simp;try omega),past _ _ _ (by simp;try omega),past _ _ _ (by simp;try omega),last _ _ _ (by simp;try omega)]
 ·rw[past _ _ _ (by simp;try omega),past _ _ _ (by simp;try omega),past _ _ _ (by simp;try omega),past _ _ _ (by simp;try omega),last _ _ _ (by simp;try omega)]
 ·rw[past _ _ _ (by simp;try omega),past _ _ _ (by simp;try omega),last _ _ _ (by simp;try omega)]
 ·rw[past _ _ _ (by simp;try omega),last _ _ _ (by simp;try omega)]
 ·rw[last _ _ _ (by simp;try omega)]
theorem chain_bytes {b wb g0 K:Nat}{n:Nat}{st8:Nat × List UInt8}(h:Chain8 (writing b wb g0 K) (n+8,magicL) st8):st8=(n,leastB):=by
 obtain⟨st1,st2,st3,st4,st5,st6,st7,h1,h2,h3,h4,h5,h6,h7,h8⟩:=h
 have step:∀ (k:Nat) (l:List UInt8) (p:Int) (size:Nat) (v:Int) (st':Nat × List UInt8),(writing b wb g0 K).eff (k+1,l) p size v = .ok (v,st')→st'=(k,l++leBytes size (IntKind.u64.wrap v).toNat):=by
  intro k l p size v st' h
  have e:(writing b wb g0 K).eff (k+1,l) p size v = .ok (v,((k,l++leBytes size (IntKind.u64.wrap v).toNat):Nat × List UInt8)):=rfl
  rw[e] at h
  exact((Prod.mk.inj (Except.ok.inj h)).2).symm
 have w0:(IntKind.u64.wrap 0).toNat=0:=by decide
 have w1:(IntKind.u64.wrap 1).toNat=1:=by decide
 have w15:(IntKind.u64.wrap 15).toNat=15:=by decide
 have e1:=step (n+7) _ _ _ _ _ h1;subst e1
 have e2:=step (n+6) _ _ _ _ _ h2;subst e2
 have e3:=step (n+5) _ _ _ _ _ h3;subst e3
 have e4:=step (n+4) _ _ _ _ _ h4;subst e4
 have e5:=step (n+3) _ _ _ _ _ h5;subst e5
 have e6:=step (n+2) _ _ _ _ _ h6;subst e6
 have e7:=step (n+1) _ _ _ _ _ h7;subst e7
 have e8:=step n _ _ _ _ _ h8
 rw[e8,w0,w1,w15]
 rfl
theorem row_handed {w:World}{wb g0 K:Nat}{l:List UInt8}{bv:Value}(h:Row w wb g0 K l bv)(hne:l≠[])(hl:l.length≤1000000000000000):Handed w bv l∧∃ a c,bv = .slice a l.length c:=by
 have hKw:=h.Kw
 have hgK:=h.g0K
 rcases h.own with k | ⟨k1,k2⟩
 ·rcases k.2 with⟨-,e⟩|⟨g,cap,cur,e,h1,h2,h3,h4,h5,h6⟩
  ·exact absurd (List.length_eq_zero_iff.1 e) hne
  ·refine⟨⟨hl,Or.inr ⟨hne,g,0,cap,e,h3,(Array.getElem?_eq_some_iff.1 h2).1,fun i hi=>?_⟩⟩,_,_,e⟩
   have:=World.ownsRow.cells k (g:=g) (by rw[e];rfl) i (u8v l[i]) (by simp[hi])
   rw[addr_add] at this
   rw[Nat.zero_add]
   exact this
 ·refine⟨⟨hl,Or.inr ⟨hne,g0,0,l.length,k1,Nat.le_refl _,by omega,fun i hi=>?_⟩⟩,_,_,k1⟩
  rw[Nat.zero_add]
  exact k2 i _ (by simp[hi])
theorem Handed.spared {w w':World}{rv:Value}{bs:List UInt8}{n:Nat}(h:Handed w rv bs)(f:Fr (fun k=>k=n) w w')(hn:w.heap[n]?=some (.cells #[vI 0,vI 0] 50)):Handed w' rv bs:=by
 obtain⟨h1,h2 | ⟨hne,k,o,c,h3,h4,h5,h6⟩⟩:=h
 ·exact⟨h1,Or.inl h2⟩
 ·refine⟨h1,Or.inr ⟨hne,k,o,c,h3,h4,Nat.lt_of_lt_of_le h5 f.size,fun i hi=>?_⟩⟩
  by_cases hk:k=n
  ·exfalso
   have:=h6 i hi
   unfold World.cell? at this
   simp only[hk,hn,Option.isSome_none,Bool.false_eq_true,if_false] at this
   have hm:=Array.mem_of_getElem? this
   simp at hm
  ·rw[f.cell h5 hk]
   exact h6 i hi
theorem over_encode (w:World)(fb cb:Nat)(hl:Least w fb cb)(hT:Tab w)(h0:0<w.heap.size) :
 Calls Tryd.prog 36 #[.pointer (some ⟨w.heap.size+4,0,none⟩),.agg #[vI 0,.slice (some ⟨fb,0,none⟩) 1 1]] (startE w fb) fun e w'=>e = .returned (.tuple #[]) ∧
  Fr (fun k=>k=w.heap.size+4∨k=w.heap.size+2) (startE w fb) w'∧∃ bv,w'.heap[w.heap.size+2]?=some (.cells #[bv] 53)∧Handed w' bv leastB∧∃ a c,bv = .slice a 16 c:=by
 obtain⟨s0,s1,s2,s4,s5,s6,hsz,hsf⟩:=startE_at w fb
 have hfbl:=(Array.getElem?_eq_some_iff.1 hl.funcs).1
 have hcbl:=(Array.getElem?_eq_some_iff.1 hl.code).1
 have hSB:∀ k,(writing (w.heap.size+4) (w.heap.size+2) (w.heap.size+1) (w.heap.size+8)).SB k→k=w.heap.size+4∨k=w.heap.size+2∨w.heap.size+8≤k:=fun k h=>h
 refine(over_least (writing (w.heap.size+4) (w.heap.size+2) (w.heap.size+1) (w.heap.size+8)) (fun st=>st.1) (writing_at _ _ _ _) (writing_goes _ _ _ _) (writing_keeps _ _ _ _) (WS.start (writerFn (w.heap.size+2))) ((8,magicL):Nat × List UInt8) (startE w fb) s4 (Nat.le_refl 8) rfl rfl fb cb (hl.fr hsf (fun h=>h) (fun h=>h))
  (fun h=>by have:=hSB _ h;omega) (fun h=>by have:=hSB _ h;omega) (fun k e h=>by have:=hSB _ h;omega) ?_).mono ?_
 ·intro w1 s' hf hp hls hn hat
  refine⟨hls,hn,?_,by simp[magicL],by omega,by omega,by omega,by omega,by omega,by omega,(hT.fr hsf (fun h=>h)).fr hf (by omega),.slice (some ⟨w.heap.size+1,0,none⟩) 6 6,?_,Or.inr ⟨rfl,?_⟩,by omega,by omega,by omega,?_⟩
  ·show s'.at'=_;rw[hat];rfl
  ·rw[hf.block _ (by omega) (by omega)];exact s2
  ·intro j u hu
   rw[hf.cell (by omega) (by omega)]
   unfold World.cell?
   simp only[s1,Option.isSome_none,Bool.false_eq_true,if_false]
   have:(magicL.map u8v)[j]?=some u:=hu
   rw[← this]
   show magicC[j]?=_
   rw[← Array.getElem?_toList]
   rfl
  ·have:=(Array.getElem?_eq_some_iff.1 hp).1;omega
 ·rintro e w' ⟨rfl,hf,s',st8,hon,hlo,hch⟩
  have e8:=chain_bytes (n:=0) hch
  subst e8
  obtain⟨-,-,-,-,-,-,-,-,-,bv,hrow⟩:=hon.2.2
  have hrow':Row w' (w.heap.size+2) (w.heap.size+1) (w.heap.size+8) leastB bv:=hrow
  obtain⟨k1,a,c,k2⟩:=row_handed hrow' (by simp[leastB]) (by simp[leastB])
  exact⟨rfl,hf.mono (fun k hk h=>by have:=hSB k h;omega),bv,hrow'.var,k1,a,c,k2⟩
theorem encode_least (w:World)(fb cb:Nat)(hl:Least w fb cb)(hT:Tab w)(h0:0<w.heap.size) :
 Calls Tryd.prog 12 #[.agg #[vI 0,.slice (some ⟨fb,0,none⟩) 1 1]] w fun e w'=>(∃ bv,e = .returned (.tuple #[bv,vI 0])∧Handed w' bv leastB∧∃ a c,bv = .slice a 16 c)∧Fr (fun _=>False) w w':=by
 have hmf:∀ (fn:_root_.Go.Fn) (first cap:Array Value) (w:World),(Instr.makeFunc fn first cap).run Tryd.prog w = .ok (.func fn first cap) w:=fun _ _ _ _=>rfl
 obtain⟨s0,s1,s2,s4,s5,s6,hsz,hsf⟩:=startE_at w fb
 have hcv:(convert 22 22 (.slice (some ⟨w.heap.size+1,0,none⟩) 6 6)).run Tryd.prog ((w.alloc (.cells #[vI 0,.slice (some ⟨fb,0,none⟩) 1 1] 26)).alloc (.cells magicC 5)) = .ok (.slice (some ⟨w.heap.size+1,0,none⟩) 6 6) ((w.alloc (.cells #[vI 0,.slice (some ⟨fb,0,none⟩) 1 1] 26)).alloc (.cells magicC 5 (6,7))):=by
  have:=Go.Lib.run_convert_bytes_const (P:=Tryd.prog) (w.alloc (.cells #[vI 0,.slice (some ⟨fb,0,none⟩) 1 1] 26)) 22 5 magicC 6 6 Tryd.underlying22 (by kernel_rfl)
  simpa using this
 have hfv:Calls Tryd.prog 31 #[.func (.func 35) #[] #[.pointer (some ⟨w.heap.size+5,0,none⟩),.pointer (some ⟨w.heap.size,0,none⟩)]]
  ((((((w.alloc (.cells #[vI 0,.slice (some ⟨fb,0,none⟩) 1 1] 26)).alloc (.cells magicC 5 (6,7))).alloc (.cells #[.slice (some ⟨w.heap.size+1,0,none⟩) 6 6] 53)).alloc (.cells rowsC 85)).alloc (.cells (WS.start (writerFn (w.heap.size+2))).cells 87)).alloc (.cells #[.pointer (some ⟨w.heap.size+4,0,none⟩)] 46))
  (Said1 (w.heap.size+6) (fun w'=>Fr (fun k=>k=w.heap.size+4∨k=w.heap.size+2) (startE w fb) w'∧∃ bv,w'.heap[w.heap.size+2]?=some (.cells #[bv] 53)∧Handed w' bv leastB∧∃ a c,bv = .slice a 16 c) (fun _ _ _=>False)):=by
  have e6:((((((w.alloc (.cells #[vI 0,.slice (some ⟨fb,0,none⟩) 1 1] 26)).alloc (.cells magicC 5 (6,7))).alloc (.cells #[.slice (some ⟨w.heap.size+1,0,none⟩) 6 6] 53)).alloc (.cells rowsC 85)).alloc (.cells (WS.start (writerFn (w.heap.size+2))).cells 87)).alloc (.cells #[.pointer (some ⟨w.heap.size+4,0,none⟩)] 46)).heap.size=w.heap.size+6:=by simp
  have:=firstViolation_any 35 #[.pointer (some ⟨w.heap.size+5,0,none⟩),.pointer (some ⟨w.heap.size,0,none⟩)]
   ((((((w.alloc (.cells #[vI 0,.slice (some ⟨fb,0,none⟩) 1 1] 26)).alloc (.cells magicC 5 (6,7))).alloc (.cells #[.slice (some ⟨w.heap.size+1,0,none⟩) 6 6] 53)).alloc (.cells rowsC 85)).alloc (.cells (WS.start (writerFn (w.heap.size+2))).cells 87)).alloc (.cells #[.pointer (some ⟨w.heap.size+4,0,none⟩)] 46))
   (fun w'=>Fr (fun k=>k=w.heap.size+4∨k=w.heap.size+2) (startE w fb) w'∧∃ bv,w'.heap[w.heap.size+2]?=some (.cells #[bv] 53)∧Handed w' bv leastB∧∃ a c,bv = .slice a 16 c) (fun _ _ _=>False) (fun _=>by kernel_rfl) ?_
  ·rw[e6] at this;exact this
  ·refine(enc1_any (w.heap.size+5) w.heap.size (w.heap.size+4) fb (startE w fb) ?_ ?_ ?_ _ (over_encode w fb cb hl hT h0)).mono ?_
   ·unfold World.cell?;simp[s5]
   ·unfold World.cell?;simp[s0]
   ·unfold World.cell?;simp[s0]
   ·rintro e w' ⟨rfl,hf,hr⟩
    refine⟨unsaid_of ?_,Or.inl ⟨rfl,hf,hr⟩⟩
    rw[e6,hf.block _ (by omega) (by omega)]
    exact s6
 unfold writerFn at hfv
 go_enter Tryd.func12,Tryd.ntmps12
 go_wp2_with fail
 refine(newWalk_any _ _ _ _).mono ?_
 rintro e w1 ⟨rfl,rfl⟩
 go_wp2_with fail
 refine hfv.mono ?_
 rintro e w2 ⟨er,at',w3,rfl,rfl,hcase⟩
 clear hfv hcv
 rcases hcase with⟨rfl,rfl,hf,bv,hb2,hbh,a,c,rfl⟩ | h
 rotate_left
 ·exact h.elim
 have hfd:∀ (v:World),(Instr.field 50 (.agg #[vI 0,vI 0]) 0).run Tryd.prog v = .ok (vI 0) v:=fun _=>by kernel_rfl
 have hf4:Fr (fun k=>k=w.heap.size+6) w3 ((w3.setCell ⟨w.heap.size+6,0,none⟩ (vI 0)).setCell ⟨w.heap.size+6,1,none⟩ (vI 0)):=Fr.setCell (Fr.setCell (Fr.refl (fun k=>k=w.heap.size+6) w3) _ _ (Or.inl rfl)) _ _ (Or.inl rfl)
 have hb4:((w3.setCell ⟨w.heap.size+6,0,none⟩ (vI 0)).setCell ⟨w.heap.size+6,1,none⟩ (vI 0)).heap[w.heap.size+2]?=some (.cells #[.slice a 16 c] 53):=by
  rw[hf4.block _ (Array.getElem?_eq_some_iff.1 hb2).1 (by omega)];exact hb2
 have h6':w3.heap[w.heap.size+6]?=some (.cells #[vI 0,vI 0] 50):=by rw[hf.block _ (by omega) (by omega)];exact s6
 have hend:Hd (∀ w4,Fr (fun k=>k=w.heap.size+6) w3 w4→((∃ bv,Ending.returned (.tuple #[.slice a 16 c,vI 0]) = .returned (.tuple #[bv,vI 0])∧Handed w4 bv leastB∧∃ a c,bv = .slice a 16 c)∧Fr (fun _=>False) w w4)):=fun w4 h4=>by
  have h1:Fr (fun k=>w.heap.size≤k) w w4:=((hsf.mono (fun _ _ h=>h.elim)).trans (hf.mono (fun k _ hk=>by omega))).trans (h4.mono (fun k _ hk=>by omega))
  refine⟨⟨_,rfl,hbh.spared h4 h6',a,c,rfl⟩,h1.mono (fun k hk hS=>by omega)⟩
 generalize ((w3.setCell ⟨w.heap.size+6,0,none⟩ (vI 0)).setCell ⟨w.heap.size+6,1,none⟩ (vI 0))=w4 at hf4 hb4 ⊢
 have c2:w4.cell? ⟨w.heap.size+1+1,0,none⟩=some (.slice a 16 c):=by unfold World.cell?;simp[hb4]
 have hl2:w.heap.size+1+1<w4.heap.size:=cell_lt c2
 go_wp2_with fail
 go_ret2
 exact hend.out _ (hf4.trans (Fr.alloc (Fr.refl _ w4) _))
end Go.Proofs.YtingenonbkencaaDoor
