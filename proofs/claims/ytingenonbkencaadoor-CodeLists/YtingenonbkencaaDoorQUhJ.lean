import Derived.Test.YtingenonbkencaaDoorQUdJ
import Derived.Test.YtingenonbkencaaDoorQVdJ
import Derived.Test.YtingenonbkencaaDoorQMb
import Derived.Test.YtingenonbkencaaDoorQMf
import Derived.Test.YtingenonbkencaaDoorQRfJ
import Derived.Test.YtingenonbkencaaDoorQRlJ
import Derived.Test.YtingenonbkencaaDoorQN5J
import Derived.Test.YtingenonbkencaaDoorQLzJ
import Derived.Test.YtingenonbkencaaDoorQUeJ
set_option linter.unusedVariables false
set_option linter.unusedSimpArgs false
namespace Go.Proofs.YtingenonbkencaaDoor
open Go.RowKit (wrap32 wrap64)
theorem right_bytes {G:Int}{fs:List PF}(hc:∀ f∈fs,∀ c∈f.code,In64n c)(h:checkP G fs=0) :
 Small fs∧decX (docAll G fs) = .ok (G,fs.map hd,fs.map (fun f=>f.code.map ai))∧(docAll G fs).length≤1000000000000∧16≤(docAll G fs).length:=by
 obtain⟨h1,y,hy⟩:=right_small hc h
 have h2:=enc_dec roomD hc hy
 rw[enc_doc roomD hy] at h2
 exact⟨h1,h2⟩
def EncO (G:Int)(fs:List PF)(w:World)(e:Ending)(w':World):Prop :=
 Fr (fun _=>False) w w'∧((checkP G fs=0∧∃ v,e = .returned (.tuple #[v,vI 0])∧w'.ownsRow w.heap.size 5 1 v (docAll G fs).length ((docAll G fs).map u8v))∨(checkP G fs≠0∧e = .returned (.tuple #[.slice none 0 0,vI (checkP G fs)])))
theorem encode_own (w:World)(G:Int)(fs:List PF)(fv:Value)(h:FA w fv fs)(hn:FineP fs)(hc:∀ f∈fs,∀ c∈f.code,In64n c)(hT:Tab w)(h0:0<w.heap.size):Calls Tryd.prog 12 #[.agg #[vI G,fv]] w (EncO G fs w):=by
 refine(encode_any roomD w G fs fv w.heap.size (h.fl hn (Nat.le_refl _)) hc hT h0).mono ?_
 rintro e w' ⟨f,hr⟩
 refine⟨f,?_⟩
 have hck:=enc_check (n:=w.heap.size) roomD G fs
 cases hx:encK w.heap.size 100000000000 G fs with
 | error z =>
   rw[hx] at hr hck
   exact Or.inr ⟨by rw[hck.1];exact hck.2,by rw[hck.1];exact hr⟩
 | ok y =>
   rw[hx] at hr hck
   obtain⟨a,c,e1,-,hob⟩:=hr
   have e2:=enc_doc roomD hx
   have hl:=(right_bytes hc hck).2.2.2
   refine Or.inl ⟨hck,_,e1,?_⟩
   rw[e2] at hob
   rcases hob with hob | hob
   ·omega
   ·rw[← e2] at hob ⊢
    exact World.ownsRow.mono hob (by omega)
theorem rencode_own (w:World)(G:Int)(fs:List PF)(fv:Value)(h:FA w fv fs)(hn:FineP fs)(hc:∀ f∈fs,∀ c∈f.code,In64n c):Calls Tryd.prog 20 #[.agg #[vI G,fv]] w (EncO G fs w):=by
 refine(rencode_any w G fs fv h (rAll G fs).2 (fun e=>(right_small hc (by rw[checkP_eq];exact e)).1) (fun wx f=>rcheck_any wx G fs fv ((h.stay f).fl hn (by omega)))).mono ?_
 rintro e w' ⟨f,h1,h2⟩
 refine⟨f,?_⟩
 by_cases hz:(rAll G fs).2=0
 ·obtain⟨v',e1,hb⟩:=h1 hz
  exact Or.inl ⟨by rw[checkP_eq];exact hz,v',e1,hb.1⟩
 ·exact Or.inr ⟨by rw[checkP_eq];exact hz,by rw[checkP_eq];exact h2 hz⟩
theorem pfs_same : ∀ (fs:List PF),pfs (fs.map hd) (fs.map (fun f=>f.code.map ai))=fs
 | []=>rfl
 | f::r=>by
   have ih:=pfs_same r
   unfold pfs at ih ⊢
   simp only[List.map_cons,List.zipWith_cons_cons,ih]
   congr 1
   have:(f.code.map ai).map pi=f.code:=by
    rw[List.map_map]
    exact List.map_id'' (fun c=>rfl) _
   rw[this]
   rfl
theorem decode_own (w:World)(rv:Value)(G:Int)(fs:List PF)(hb:Handed w rv (docAll G fs))(hc:∀ f∈fs,∀ c∈f.code,In64n c)(hck:checkP G fs=0)(hT:Tab w)(h0:0<w.heap.size) :
 Calls Tryd.prog 10 #[rv] w fun e w'=>Fr (fun _=>False) w w'∧∃ g c L,e = .returned (.tuple #[.agg #[vI G,.slice (some ⟨g,0,none⟩) fs.length c],vI 0,vI 0])∧FOa w' w.heap.size (.slice (some ⟨g,0,none⟩) fs.length c) L∧L.map (·.1)=fs∧L.length=fs.length∧1≤fs.length:=by
 obtain⟨hsm,hdx,-,-⟩:=right_bytes hc hck
 refine(decode_said rv _ w hb hT h0).mono ?_
 rintro e w' ⟨f,hr⟩
 rw[hdx] at hr
 obtain⟨v,rfl,hlp⟩:=hr
 have h1:1≤fs.length:=by
  obtain⟨g,cap,cs,tl,-,-,-,-,h5,-⟩:=hlp
  simpa using h5
 obtain⟨fv,L,rfl,hfo,hL,hLl⟩:=hlp.own (fun l hl=>by
  obtain⟨f,hf,rfl⟩:=List.mem_map.1 hl
  obtain⟨s1,s2⟩:=hsm.2 f hf
  refine⟨by simp only[List.length_map];unfold maxLen;omega,fun a ha=>?_⟩
  obtain⟨c,hc',rfl⟩:=List.mem_map.1 ha
  have:=s2 c hc'
  show c.args.length≤maxLen∧c.rets.length≤maxLen
  unfold maxLen
  omega)
 rw[pfs_same] at hL
 have hLf:L.length=fs.length:=by simpa using hLl
 refine⟨f,?_⟩
 rcases hfo.row.2 with⟨-,e⟩|⟨g,cap,cur,e,-⟩
 ·omega
 ·rw[hLf] at e
  subst e
  exact⟨g,cap,L,rfl,hfo,hL,hLf,h1⟩
structure Pg (w:World)(B B' g n c:Nat)(fs:List PF)(L:List FI):Prop where
 own:FOa w B (.slice (some ⟨g,0,none⟩) n c) L
 gb:B≤g∧g<B'
 up:∀ v∈csF L++lsF L,∀ q,v.ownBlock=some q→B≤q∧q<B'
 eq:L.map (·.1)=fs
 len:L.length=n
theorem lsF_mem {L:List FI}{v:Value}(h:v∈lsF L):∃ z∈lsP L,z.1=v:=by
 rw[← lsP_fst] at h
 exact List.mem_map.1 h
theorem FOa.pg {w:World}{B g n c:Nat}{fs:List PF}{L:List FI}(h:FOa w B (.slice (some ⟨g,0,none⟩) n c) L)(e:L.map (·.1)=fs)(hl:L.length=n):Pg w B w.heap.size g n c fs L:=by
 refine⟨h,World.ownsRow.lt h.row g rfl,fun v hv q e=>?_,e,hl⟩
 rcases List.mem_append.1 hv with hv | hv
 ·obtain⟨x,hx,rfl⟩:=List.mem_map.1 hv
  exact World.ownsRow.lt (h.code x hx).1.row q e
 ·obtain⟨z,hz,rfl⟩:=lsF_mem hv
  exact(lsP_own h.toFO z hz).ge q e
theorem Pg.fr {S:Nat→Prop}{w w':World}{B B' g n c:Nat}{fs:List PF}{L:List FI}(h:Pg w B B' g n c fs L)(f:Fr S w w')(hS:∀ q,S q→q<B∨B'≤q):Pg w' B B' g n c fs L:=by
 have no:∀ q,B≤q∧q<B'→¬ S q:=fun q hq e=>by have:=hS q e;omega
 refine⟨⟨⟨ownsRow_frL h.own.row f (fun q e=>no q (by injection e with e;subst e;exact h.gb)),fun x hx=>⟨(h.own.code x hx).1.fr f (fun q e=>no q (h.up _ (List.mem_append_left _ (List.mem_map.2 ⟨x,hx,rfl⟩)) q e)) (fun y hy q e=>?_),(h.own.code x hx).2⟩⟩,h.own.ls,h.own.cs⟩,h.gb,h.up,h.eq,h.len⟩
 have hm:∀ v,v=y.2.1∨v=y.2.2→v∈lsF L:=fun v hv=>by
  unfold lsF lsC
  refine List.mem_flatMap.2 ⟨x,hx,List.mem_flatMap.2 ⟨y,hy,?_⟩⟩
  rcases hv with rfl | rfl<;>simp
 rcases e with e | e
 ·exact no q (h.up _ (List.mem_append_right _ (hm _ (Or.inl rfl))) q e)
 ·exact no q (h.up _ (List.mem_append_right _ (hm _ (Or.inr rfl))) q e)
theorem Pg.fa {w:World}{B B' g n c:Nat}{fs:List PF}{L:List FI}(h:Pg w B B' g n c fs L):FA w (.slice (some ⟨g,0,none⟩) n c) fs:=by
 have:=h.own.toFO.fa
 rw[h.eq] at this
 exact this
structure By (w:World)(B B':Nat)(v:Value)(bs:List UInt8):Prop where
 own:w.ownsRow B 5 1 v bs.length (bs.map u8v)
 up:∀ q,v.ownBlock=some q→B≤q∧q<B'
theorem By.mk' {w:World}{B:Nat}{v:Value}{bs:List UInt8}(h:w.ownsRow B 5 1 v bs.length (bs.map u8v)):By w B w.heap.size v bs:=⟨h,fun q e=>World.ownsRow.lt h q e⟩
theorem By.fr {S:Nat→Prop}{w w':World}{B B':Nat}{v:Value}{bs:List UInt8}(h:By w B B' v bs)(f:Fr S w w')(hS:∀ q,S q→q<B∨B'≤q):By w' B B' v bs :=
 ⟨ownsRow_frL h.own f (fun q e e2=>by have:=h.up q e;have:=hS q e2;omega),h.up⟩
theorem By.handed {w:World}{B B':Nat}{v:Value}{bs:List UInt8}(h:By w B B' v bs)(hl:bs.length≤1000000000000000)(h0:1≤bs.length):Handed w v bs:=owns_handed h.own hl (fun e=>by rw[e] at h0;simp at h0)
theorem By.bytes {w:World}{B B':Nat}{v:Value}{bs:List UInt8}(h:By w B B' v bs)(hl:bs.length≤1000000000000000)(h0:1≤bs.length):BytesIn w v bs:=by
 obtain⟨hL,⟨rfl,rfl⟩|⟨-,k,o,c,rfl,hc,hk,hcell⟩⟩:=h.handed hl h0
 ·exact⟨hL,none,0,rfl,Nat.le_refl _,fun h=>absurd rfl h⟩
 ·exact⟨hL,_,c,rfl,hc,fun _=>⟨k,o,rfl,hk,hcell⟩⟩
theorem wpList_byte {w:World}{ops:Array Oper}{rest:List Oper}{o:Oper}{a:Act}{Q:Exit→Act→World→Prop}(hgd:o.guard=none)(s x:Operand)(ho:o.op = .call { callee:=.builtin .append,args:=#[s,x],argTypes:=#[22,22] })
 {B k H c:Nat} {v:Value} {us:List Value} {z:Int} (hs:a.eval s=v) (hx:a.eval x = .slice (some ⟨H,0,none⟩) 1 c)
 (h:w.ownsRow B 5 1 v k us) (hb:w.heap[H]?=some (.cells #[.int .u8 z] 5)) (hl:k≤100000000000000) (hB:B≤w.heap.size)
 (K:∀ g cap w',w'.ownsRow B 5 1 (.slice (some ⟨g,0,none⟩) (k+1) cap) (k+1) (us++[.int .u8 z])→Fr (fun q=>v.ownBlock=some q) w w'→(v.ownBlock=some g∨g=w.heap.size)→wpList Tryd.prog ops Q rest (a.put o.dst (.slice (some ⟨g,0,none⟩) (k+1) cap)) w') :
 wpList Tryd.prog ops Q (o::rest) a w:=by
 obtain⟨i3,hi3,hz3,hs3,hb3⟩:=info_parts (P:=Tryd.prog) (e:=5) (z:=.int .u8 0) (size:=1) (bytes:=1) (by kernel_rfl)
 refine wpList_append_lies _ hgd s x 22 ho B 5 i3 (.int .u8 0) 1 1 Tryd.underlying22 hi3 hz3 hs3 hb3 rfl (by omega) v k us hs h ⟨H,0,none⟩ 1 c [.int .u8 z] hx rfl (World.news_of_block (cs:=#[.int .u8 z]) hb) (by intro y hy;rw[List.mem_singleton] at hy;rw[hy];rfl) (by omega) (by unfold maxLen;omega) (by omega) hB w.heap.size rfl ?_
 intro g cap w' hown hgrow hat _
 exact K g cap w' hown (grown_frL hgrow) hat
set_option maxRecDepth 100000
set_option maxHeartbeats 8000000
theorem Pg.small {w:World}{B B' g n c:Nat}{fs:List PF}{L:List FI}(h:Pg w B B' g n c fs L)(hs:Small fs):∀ x∈L,x.2.2.length≤4096∧∀ y∈x.2.2,y.1.args.length≤65535∧y.1.rets.length≤65535:=by
 intro x hx
 have hf:x.1∈fs:=by rw[← h.eq];exact List.mem_map.2 ⟨x,hx,rfl⟩
 have hc:=(h.own.code x hx).2
 obtain⟨s1,s2⟩:=hs.2 x.1 hf
 refine⟨by rw[← hc] at s1;simpa using s1,fun y hy=>?_⟩
 have:=s2 y.1 (by rw[← hc];exact List.mem_map.2 ⟨y,hy,rfl⟩)
 omega
theorem apart_pg {w:World}{B B' g c:Nat}{G:Int}{fs:List PF}{L:List FI}(h:Pg w B B' g fs.length c fs L)(hs:Small fs)(h1:1≤fs.length)(hB:B'≤w.heap.size) :
 Calls Tryd.prog 21 #[.agg #[vI G,.slice (some ⟨g,0,none⟩) fs.length c]] w fun e w'=>e = .returned (.bool true)∧Fr (fun q=>B≤q∧q<B') w w' :=
 apartProgram_any w h.own h.len h1 hs.1 (h.small hs) ⟨h.gb.2,fun v hv q e=>(h.up v hv q e).2⟩ hB
theorem no_S {B B':Nat}:∀ q,(fun _:Nat=>False) q→q<B∨B'≤q:=fun _ h=>h.elim
theorem lists_any (w:World)(G:Int)(fs:List PF)(fv:Value)(h:FA w fv fs)(hn:FineP fs)(hc:∀ f∈fs,∀ c∈f.code,In64n c)(hT:Tab w)(h0:0<w.heap.size) :
 Calls Tryd.prog 7 #[.agg #[vI G,fv]] w fun e w'=>e = .returned (.bool true)∧Fr (fun _=>False) w w':=by
 obtain⟨fa,fc,efv,-⟩:=id h
 have hfa:Fr (fun _=>False) w (w.alloc (.cells #[vI G,fv] 26)):=Fr.alloc (Fr.refl _ w) _
 have HA:Hd (FA (w.alloc (.cells #[vI G,fv] 26)) fv fs):=h.stay hfa
 have HN:Hd (FineP fs):=hn
 have HC:Hd (∀ f∈fs,∀ c∈f.code,In64n c):=hc
 have HT:Hd (Tab (w.alloc (.cells #[vI G,fv] 26))):=hT.fr hfa (fun h=>h)
 have HP:Hd ((w.alloc (.cells #[vI G,fv] 26)).heap[w.heap.size]?=some (.cells #[vI G,fv] 26)):=heap_new w _
 have HF0:Hd (Fr (fun _=>False) w (w.alloc (.cells #[vI G,fv] 26))):=hfa
 have H0:Hd (0<(w.alloc (.cells #[vI G,fv] 26)).heap.size):=Nat.lt_of_lt_of_le h0 hfa.size
 clear h hn hT h0 hfa hc
 subst efv
 obtain⟨H,hH⟩:∃ H,H=w.heap.size:=⟨_,rfl⟩
 obtain⟨D,hD⟩:∃ D,D=docAll G fs:=⟨_,rfl⟩
 go_enter Tryd.func7,Tryd.ntmps7
 go_upto_region 1 with fail
 rw[← hH] at HP ⊢
 clear hH
 generalize w.alloc (.cells #[vI G,.slice fa fs.length fc] 26)=wa at *
 have PK:Hd (∀ wx,Fr (fun _=>False) wa wx→wx.cell? ⟨H,0,none⟩=some (vI G)∧wx.cell? ⟨H,1,none⟩=some (.slice fa fs.length fc)∧FA wx (.slice fa fs.length fc) fs∧Tab wx∧0<wx.heap.size∧Fr (fun _=>False) w wx∧wa.heap.size≤wx.heap.size):=fun wx f=>by
  have hb:=(f.block H (heap_lt HP.out) (fun h=>h)).trans HP.out
  exact⟨by rw[cell_of hb];rfl,by rw[cell_of hb];rfl,HA.out.stay f,HT.out.fr f (fun h=>h),Nat.lt_of_lt_of_le H0.out f.size,HF0.out.trans f,f.size⟩
 have HW:Hd (∀ wx,Fr (fun _=>False) wa wx→Calls Tryd.prog 9 #[] wx fun e w'=>e = .returned (.bool true)∧Fr (fun _=>False) wx w'):=fun wx f=>works_any wx (PK.out wx f).2.2.2.1 (PK.out wx f).2.2.2.2.1
 have HCP:Hd (∀ wx,Fr (fun _=>False) wa wx→Calls Tryd.prog 13 #[.agg #[vI G,.slice fa fs.length fc]] wx fun e w'=>∃ v',e = .returned (.agg #[vI G,v'])∧FA w' v' fs∧Fr (fun _=>False) wx w'):=fun wx f=>copyProgram_any G _ fs wx (PK.out wx f).2.2.1 HN.out
 have HEN:Hd (∀ wx v,Fr (fun _=>False) wa wx→FA wx v fs→checkP G fs=0→Calls Tryd.prog 12 #[.agg #[vI G,v]] wx fun e w'=>Fr (fun _=>False) wx w'∧∃ a c,e = .returned (.tuple #[.slice a D.length c,vI 0])∧By w' wx.heap.size w'.heap.size (.slice a D.length c) D):=fun wx v f hv hck=>(encode_own wx G fs v hv HN.out HC.out (PK.out wx f).2.2.2.1 (PK.out wx f).2.2.2.2.1).mono fun e w' ⟨h1,h2⟩=>by
  rcases h2 with⟨-,v,e1,e2⟩|⟨e1,-⟩
  ·rw[← hD] at e2
   obtain⟨a,c,ev⟩:=own_slice e2
   subst ev
   exact⟨h1,a,c,e1,By.mk' e2⟩
  ·exact absurd hck e1
 have HDE:Hd (∀ wx v B B',Fr (fun _=>False) wa wx→By wx B B' v D→checkP G fs=0→Calls Tryd.prog 10 #[v] wx fun e w'=>Fr (fun _=>False) wx w'∧∃ g c L,e = .returned (.tuple #[.agg #[vI G,.slice (some ⟨g,0,none⟩) fs.length c],vI 0,vI 0])∧Pg w' wx.heap.size w'.heap.size g fs.length c fs L∧1≤fs.length):=fun wx v B B' f hb hck=>by
  obtain⟨-,-,l1,l2⟩:=right_bytes HC.out hck
  rw[← hD] at l1 l2
  have hh:=hb.handed (by omega) (by omega)
  rw[hD] at hh
  refine(decode_own wx v G fs hh HC.out hck (PK.out wx f).2.2.2.1 (PK.out wx f).2.2.2.2.1).mono ?_
  rintro e w' ⟨f1,g,c,L,e1,h1,h2,h3,h4⟩
  exact⟨f1,g,c,L,e1,h1.pg h2 h3,h4⟩
 have HRE:Hd (∀ wx,Fr (fun _=>False) wa wx→Calls Tryd.prog 20 #[.agg #[vI G,.slice fa fs.length fc]] wx fun e w'=>Fr (fun _=>False) wx w'∧((checkP G fs=0∧16≤D.length∧D.length≤1000000000000∧∃ a c,e = .returned (.tuple #[.slice a D.length c,vI 0])∧By w' wx.heap.size w'.heap.size (.slice a D.length c) D)∨(checkP G fs≠0∧e = .returned (.tuple #[.slice none 0 0,vI (checkP G fs)])))):=fun wx f=>(rencode_own wx G fs _ (PK.out wx f).2.2.1 HN.out HC.out).mono fun e w' ⟨h1,h2⟩=>by
  refine⟨h1,h2.imp (fun⟨k,v,e1,e2⟩=>?_) id⟩
  obtain⟨-,-,l1,l2⟩:=right_bytes HC.out k
  rw[← hD] at l1 l2 e2
  obtain⟨a,c,ev⟩:=own_slice e2
  subst ev
  exact⟨k,l2,l1,a,c,e1,By.mk' e2⟩
 have HSM0:Hd (checkP G fs=0→Small fs):=fun k=>(right_bytes HC.out k).1
 have HFR:Hd (Fr (fun _=>False) wa wa):=Fr.refl _ _
 clear HP HF0 HA HT H0 HC hD
 go_wp2_with fail
 refine Calls.mono (HW.out wa HFR.out) ?_
 rintro e w1 ⟨rfl,f1⟩
 have F1:Hd (Fr (fun _=>False) wa w1):=f1
 clear f1 HFR
 obtain⟨p0,p1,-⟩:=PK.out w1 F1.out
 go_wp2_with fail
 refine Calls.mono (HRE.out w1 F1.out) ?_
 rintro e w2 ⟨f2,hr⟩
 have F2:Hd (Fr (fun _=>False) wa w2):=F1.out.trans f2
 clear p0 p1 HRE
 rcases hr with⟨hck,l2,l1,ba,bc,rfl,hb⟩|⟨hz,rfl⟩
 rotate_left
 ·have hz2:(checkP G fs != 0)=true:=by simpa using hz
  generalize checkP G fs=zE at *
  go_wp2_with fail
  go_ret
  exact⟨rfl,(PK.out w2 F2.out).2.2.2.2.2.1⟩
 have HK:Hd (checkP G fs=0):=hck
 have HSM:Hd (Small fs):=HSM0.out hck
 clear HSM0
 have HB2:Hd (By w2 w1.heap.size w2.heap.size (.slice ba D.length bc) D):=hb
 have HL:Hd (16≤D.length∧D.length≤1000000000000):=⟨l2,l1⟩
 have HO1:Hd (wa.heap.size≤w1.heap.size):=F1.out.size
 clear hck hb f2 F1
 go_wp2_with fail
 refine Calls.mono (HDE.out w2 _ _ _ F2.out HB2.out HK.out) ?_
 rintro e w3 ⟨f3,gx,cx,Lx,rfl,hx,hn1⟩
 have HN1:Hd (1≤fs.length):=hn1
 clear hn1
 have fz:Fr (fun _=>False) w3 (w3.alloc (.cells #[vI G,.slice (some ⟨gx,0,none⟩) fs.length cx] 26)):=Fr.alloc (Fr.refl _ w3) _
 have QX:Hd ((w3.alloc (.cells #[vI G,.slice (some ⟨gx,0,none⟩) fs.length cx] 26)).heap[w3.heap.size]?=some (.cells #[vI G,.slice (some ⟨gx,0,none⟩) fs.length cx] 26)):=heap_new w3 _
 have HX:Hd (Pg (w3.alloc (.cells #[vI G,.slice (some ⟨gx,0,none⟩) fs.length cx] 26)) w2.heap.size w3.heap.size gx fs.length cx fs Lx):=hx.fr fz (fun _ h=>h.elim)
 have HB3:Hd (By (w3.alloc (.cells #[vI G,.slice (some ⟨gx,0,none⟩) fs.length cx] 26)) w1.heap.size w2.heap.size (.slice ba D.length bc) D):=HB2.out.fr (f3.trans fz) (fun _ h=>h.elim)
 have F3:Hd (Fr (fun _=>False) wa (w3.alloc (.cells #[vI G,.slice (some ⟨gx,0,none⟩) fs.length cx] 26))):=(F2.out.trans f3).trans fz
 have HO3:Hd ((w3.alloc (.cells #[vI G,.slice (some ⟨gx,0,none⟩) fs.length cx] 26)).heap.size=w3.heap.size+1):=by unfold Hd;simp
 clear hx f3 fz F2 HB2
 go_upto_region 6 with fail
 rw[show w3.alloc (.cells #[.int .i64 G,.slice (some ⟨gx,0,none⟩) fs.length cx] 26)=w3.alloc (.cells #[vI G,.slice (some ⟨gx,0,none⟩) fs.length cx] 26) from rfl]
 generalize w3.alloc (.cells #[vI G,.slice (some ⟨gx,0,none⟩) fs.length cx] 26)=v3 at *
 generalize w3.heap.size=X at *
 obtain⟨p0,p1,-⟩:=PK.out v3 F3.out
 go_wp2_with fail
 refine Calls.mono (HCP.out v3 F3.out) ?_
 rintro e w4 ⟨cp,rfl,hq,f4⟩
 obtain⟨qa,qc,rfl,-⟩:=id hq
 have HQ:Hd (FA w4 (.slice qa fs.length qc) fs):=hq
 have F4:Hd (Fr (fun _=>False) wa w4∧Fr (fun _=>False) v3 w4):=⟨F3.out.trans f4,f4⟩
 clear hq f4 p0 p1
 go_wp2_with fail
 refine Calls.mono (HEN.out w4 _ F4.out.1 HQ.out HK.out) ?_
 rintro e w5 ⟨f5,ca,cc,rfl,hcv⟩
 have HCV:Hd (By w5 w4.heap.size w5.heap.size (.slice ca D.length cc) D):=hcv
 have F5:Hd (Fr (fun _=>False) wa w5∧Fr (fun _=>False) v3 w5):=⟨F4.out.1.trans f5,F4.out.2.trans f5⟩
 have HO4:Hd (v3.heap.size≤w4.heap.size):=F4.out.2.size
 clear hcv f5 F4 HQ
 go_wp2_with fail
 refine Calls.mono (HW.out w5 F5.out.1) ?_
 rintro e w6 ⟨rfl,f6⟩
 have F6:Hd (Fr (fun _=>False) wa w6∧Fr (fun _=>False) v3 w6):=⟨F5.out.1.trans f6,F5.out.2.trans f6⟩
 have HC6:Hd (By w6 w4.heap.size w5.heap.size (.slice ca D.length cc) D):=HCV.out.fr f6 (fun _ h=>h.elim)
 have HO5:Hd (w5.heap.size≤w6.heap.size):=f6.size
 clear f6 F5 HCV
 go_wp2_with fail
 refine Calls.mono (HDE.out w6 _ _ _ F6.out.1 (HB3.out.fr F6.out.2 (fun _ h=>h.elim)) HK.out) ?_
 rintro e w7 ⟨f7,gy,cy,Ly,rfl,hy,-⟩
 have fz:Fr (fun _=>False) w7 (w7.alloc (.cells #[vI G,.slice (some ⟨gy,0,none⟩) fs.length cy] 26)):=Fr.alloc (Fr.refl _ w7) _
 have QY:Hd ((w7.alloc (.cells #[vI G,.slice (some ⟨gy,0,none⟩) fs.length cy] 26)).heap[w7.heap.size]?=some (.cells #[vI G,.slice (some ⟨gy,0,none⟩) fs.length cy] 26)):=heap_new w7 _
 have HY:Hd (Pg (w7.alloc (.cells #[vI G,.slice (some ⟨gy,0,none⟩) fs.length cy] 26)) w6.heap.size w7.heap.size gy fs.length cy fs Ly):=hy.fr fz (fun _ h=>h.elim)
 have HC7:Hd (By (w7.alloc (.cells #[vI G,.slice (some ⟨gy,0,none⟩) fs.length cy] 26)) w4.heap.size w5.heap.size (.slice ca D.length cc) D):=HC6.out.fr (f7.trans fz) (fun _ h=>h.elim)
 have F7:Hd (Fr (fun _=>False) wa (w7.alloc (.cells #[vI G,.slice (some ⟨gy,0,none⟩) fs.length cy] 26))∧Fr (fun _=>False) v3 (w7.alloc (.cells #[vI G,.slice (some ⟨gy,0,none⟩) fs.length cy] 26))):=⟨(F6.out.1.trans f7).trans fz,(F6.out.2.trans f7).trans fz⟩
 have HO7:Hd ((w7.alloc (.cells #[vI G,.slice (some ⟨gy,0,none⟩) fs.length cy] 26)).heap.size=w7.heap.size+1):=by unfold Hd;simp
 have HO6:Hd (w6.heap.size≤w7.heap.size):=f7.size
 clear hy f7 fz F6 HC6
 go_upto_region 9 with fail
 rw[show w7.alloc (.cells #[.int .i64 G,.slice (some ⟨gy,0,none⟩) fs.length cy] 26)=w7.alloc (.cells #[vI G,.slice (some ⟨gy,0,none⟩) fs.length cy] 26) from rfl]
 generalize w7.alloc (.cells #[vI G,.slice (some ⟨gy,0,none⟩) fs.length cy] 26)=v7 at *
 generalize w7.heap.size=Y at *
 go_wp2_with fail
 refine Calls.mono (HDE.out v7 _ _ _ F7.out.1 (HB3.out.fr F7.out.2 (fun _ h=>h.elim)) HK.out) ?_
 rintro e w8 ⟨f8,gz,cz,Lz,rfl,hz,-⟩
 have fz:Fr (fun _=>False) w8 (w8.alloc (.cells #[vI G,.slice (some ⟨gz,0,none⟩) fs.length cz] 26)):=Fr.alloc (Fr.refl _ w8) _
 have QZ:Hd ((w8.alloc (.cells #[vI G,.slice (some ⟨gz,0,none⟩) fs.length cz] 26)).heap[w8.heap.size]?=some (.cells #[vI G,.slice (some ⟨gz,0,none⟩) fs.length cz] 26)):=heap_new w8 _
 have HZ:Hd (Pg (w8.alloc (.cells #[vI G,.slice (some ⟨gz,0,none⟩) fs.length cz] 26)) v7.heap.size w8.heap.size gz fs.length cz fs Lz):=hz.fr fz (fun _ h=>h.elim)
 have F8:Hd (Fr (fun _=>False) wa (w8.alloc (.cells #[vI G,.slice (some ⟨gz,0,none⟩) fs.length cz] 26))∧Fr (fun _=>False) v7 (w8.alloc (.cells #[vI G,.slice (some ⟨gz,0,none⟩) fs.length cz] 26))):=⟨(F7.out.1.trans f8).trans fz,f8.trans fz⟩
 have HO8:Hd ((w8.alloc (.cells #[vI G,.slice (some ⟨gz,0,none⟩) fs.length cz] 26)).heap.size=w8.heap.size+1):=by unfold Hd;simp
 have HO9:Hd (v7.heap.size≤w8.heap.size):=f8.size
 clear hz f8 fz
 go_upto_region 10 with fail
 rw[show w8.alloc (.cells #[.int .i64 G,.slice (some ⟨gz,0,none⟩) fs.length cz] 26)=w8.alloc (.cells #[vI G,.slice (some ⟨gz,0,none⟩) fs.length cz] 26) from rfl]
 generalize w8.alloc (.cells #[vI G,.slice (some ⟨gz,0,none⟩) fs.length cz] 26)=v8 at *
 generalize w8.heap.size=Z at *
 obtain⟨p0,p1,-⟩:=PK.out v8 F8.out.1
 go_wp2_with fail
 refine Calls.mono (HCP.out v8 F8.out.1) ?_
 rintro e w9 ⟨cp,rfl,hq,f9⟩
 obtain⟨qa2,qc2,rfl,-⟩:=id hq
 have HQ:Hd (FA w9 (.slice qa2 fs.length qc2) fs):=hq
 have F9:Hd (Fr (fun _=>False) wa w9∧Fr (fun _=>False) v8 w9):=⟨F8.out.1.trans f9,f9⟩
 clear hq f9 p0 p1
 go_wp2_with fail
 refine Calls.mono (HEN.out w9 _ F9.out.1 HQ.out HK.out) ?_
 rintro e w10 ⟨f10,da,dc,rfl,hdv⟩
 have HD10:Hd (By w10 w9.heap.size w10.heap.size (.slice da D.length dc) D):=hdv
 have F10:Hd (Fr (fun _=>False) wa w10∧Fr (fun _=>False) v8 w10):=⟨F9.out.1.trans f10,F9.out.2.trans f10⟩
 have HO10:Hd (v8.heap.size≤w9.heap.size∧w9.heap.size≤w10.heap.size):=⟨F9.out.2.size,f10.size⟩
 clear hdv f10 F9 HQ
 obtain⟨p0,p1,-⟩:=PK.out w10 F10.out.1
 go_wp2_with fail
 refine Calls.mono (HCP.out w10 F10.out.1) ?_
 rintro e w11 ⟨cp,rfl,hq,f11⟩
 obtain⟨qa3,qc3,rfl,-⟩:=id hq
 have HQ:Hd (FA w11 (.slice qa3 fs.length qc3) fs):=hq
 have F11:Hd (Fr (fun _=>False) wa w11∧Fr (fun _=>False) w10 w11):=⟨F10.out.1.trans f11,f11⟩
 clear hq f11 p0 p1
 go_wp2_with fail
 refine Calls.mono (HEN.out w11 _ F11.out.1 HQ.out HK.out) ?_
 rintro e w12 ⟨f12,ma,mc,rfl,hmv⟩
 have no:∀ {B B':Nat} q,(fun _:Nat=>False) q→q<B∨B'≤q:=fun q h=>h.elim
 have fA:Fr (fun _=>False) wa w12:=F11.out.1.trans f12
 have f10':Fr (fun _=>False) w10 w12:=F11.out.2.trans f12
 have f8':Fr (fun _=>False) v8 w12:=F10.out.2.trans f10'
 have f7':Fr (fun _=>False) v7 w12:=F8.out.2.trans f8'
 have f3':Fr (fun _=>False) v3 w12:=F7.out.2.trans f7'
 have EX:Hd (Pg w12 w2.heap.size X gx fs.length cx fs Lx):=HX.out.fr f3' no
 have EY:Hd (Pg w12 w6.heap.size Y gy fs.length cy fs Ly):=HY.out.fr f7' no
 have EZ:Hd (Pg w12 v7.heap.size Z gz fs.length cz fs Lz):=HZ.out.fr f8' no
 have EB:Hd (By w12 w1.heap.size w2.heap.size (.slice ba D.length bc) D):=HB3.out.fr f3' no
 have EC:Hd (By w12 w4.heap.size w5.heap.size (.slice ca D.length cc) D):=HC7.out.fr f7' no
 have ED:Hd (By w12 w9.heap.size w10.heap.size (.slice da D.length dc) D):=HD10.out.fr f10' no
 have EM:Hd (By w12 w11.heap.size w12.heap.size (.slice ma D.length mc) D):=hmv
 have EF:Hd (Fr (fun _=>False) wa w12):=fA
 have RX:Hd (w12.heap[X]?=some (.cells #[vI G,.slice (some ⟨gx,0,none⟩) fs.length cx] 26)):=(f3'.block X (heap_lt QX.out) (fun h=>h)).trans QX.out
 have RY:Hd (w12.heap[Y]?=some (.cells #[vI G,.slice (some ⟨gy,0,none⟩) fs.length cy] 26)):=(f7'.block Y (heap_lt QY.out) (fun h=>h)).trans QY.out
 have RZ:Hd (w12.heap[Z]?=some (.cells #[vI G,.slice (some ⟨gz,0,none⟩) fs.length cz] 26)):=(f8'.block Z (heap_lt QZ.out) (fun h=>h)).trans QZ.out
 have ORD:Hd (wa.heap.size≤w1.heap.size∧w1.heap.size≤w2.heap.size∧w2.heap.size≤X∧X<w4.heap.size∧w4.heap.size≤w5.heap.size∧w5.heap.size≤w6.heap.size∧w6.heap.size≤Y∧Y<v7.heap.size∧v7.heap.size≤Z∧Z<w9.heap.size∧w9.heap.size≤w10.heap.size∧w10.heap.size≤w11.heap.size∧w11.heap.size≤w12.heap.size):=by
  have a1:=HO1.out;have a3:=HO3.out;have a4:=HO4.out;have a5:=HO5.out;have a6:=HO6.out;have a7:=HO7.out;have a8:=HO8.out;have a9:=HO9.out;have a10:=HO10.out
  have b1:=F11.out.2.size;have b2:=f12.size
  have c1:=HB3.out.up;have g1:=HX.out.gb;have g2:=HC7.out.own
  have hbn:=HL.out
  refine⟨a1,?_,by omega,by omega,?_,a5,a6,by omega,a9,by omega,a10.2,b1,b2⟩
  ·rcases HB3.out.own.2 with⟨-,e⟩|⟨g,cap,cur,e,-⟩
   ·omega
   ·have:=c1 g (by rw[e];rfl);omega
  ·rcases HC7.out.own.2 with⟨-,e⟩|⟨g,cap,cur,e,-⟩
   ·omega
   ·have:=HC7.out.up g (by rw[e];rfl);omega
 clear no fA f10' f8' f7' f3' f12 hmv F11 F10 F8 F7 F3 HX HY HZ HB3 HC7 HD10 QX QY QZ HO1 HO3 HO4 HO5 HO6 HO7 HO8 HO9 HO10 HQ HDE HEN HCP HW
 obtain⟨p0,p1,-⟩:=PK.out w12 EF.out
 have x0:w12.cell? ⟨X,0,none⟩=some (vI G):=by rw[cell_of RX.out];rfl
 have x1:w12.cell? ⟨X,1,none⟩=some (.slice (some ⟨gx,0,none⟩) fs.length cx):=by rw[cell_of RX.out];rfl
 go_wp2_with fail
 refine(eqProgram_same G fs _ _ w12 EX.out.fa (PK.out w12 EF.out).2.2.1 HN.out).mono ?_
 rintro e w13 ⟨rfl,f13⟩
 have F13:Hd (Fr (fun _=>False) w12 w13):=f13
 clear f13 p0 p1 x0 x1
 go_wp2_with fail
 refine(eqBytes_same _ _ D w13 ((EC.out.fr F13.out no_S).bytes (by have:=HL.out;omega) (by have:=HL.out;omega)) ((EB.out.fr F13.out no_S).bytes (by have:=HL.out;omega) (by have:=HL.out;omega))).mono ?_
 rintro e w14 ⟨rfl,f14⟩
 have F14:Hd (Fr (fun _=>False) w12 w14):=F13.out.trans f14
 clear f14 F13
 obtain⟨p0,p1,-⟩:=PK.out w14 (EF.out.trans F14.out)
 have hby:=(F14.out.block Y (heap_lt RY.out) (fun h=>h)).trans RY.out
 have y0:w14.cell? ⟨Y,0,none⟩=some (vI G):=by rw[cell_of hby];rfl
 have y1:w14.cell? ⟨Y,1,none⟩=some (.slice (some ⟨gy,0,none⟩) fs.length cy):=by rw[cell_of hby];rfl
 clear hby
 go_wp2_with fail
 refine(eqProgram_same G fs _ _ w14 (EY.out.fr F14.out no_S).fa (PK.out w14 (EF.out.trans F14.out)).2.2.1 HN.out).mono ?_
 rintro e w15 ⟨rfl,f15⟩
 have F15:Hd (Fr (fun _=>False) w12 w15):=F14.out.trans f15
 clear f15 p0 p1 y0 y1 F14
 go_wp2_with fail
 refine(eqBytes_same _ _ D w15 ((ED.out.fr F15.out no_S).bytes (by have:=HL.out;omega) (by have:=HL.out;omega)) ((EB.out.fr F15.out no_S).bytes (by have:=HL.out;omega) (by have:=HL.out;omega))).mono ?_
 rintro e w16 ⟨rfl,f16⟩
 have F16:Hd (Fr (fun _=>False) w12 w16):=F15.out.trans f16
 clear f16 F15
 have hbx:=(F16.out.block X (heap_lt RX.out) (fun h=>h)).trans RX.out
 have x0:w16.cell? ⟨X,0,none⟩=some (vI G):=by rw[cell_of hbx];rfl
 have x1:w16.cell? ⟨X,1,none⟩=some (.slice (some ⟨gx,0,none⟩) fs.length cx):=by rw[cell_of hbx];rfl
 have HAP:Hd (Calls Tryd.prog 21 #[.agg #[vI G,.slice (some ⟨gx,0,none⟩) fs.length cx]] w16 fun e w'=>e = .returned (.bool true)∧Fr (fun q=>w2.heap.size≤q∧q<X) w16 w'):=apart_pg (EX.out.fr F16.out no_S) HSM.out HN1.out (Nat.le_of_lt (heap_lt hbx))
 clear hbx
 go_wp2_with fail
 refine Calls.mono HAP.out ?_
 rintro e w17 ⟨rfl,f17⟩
 have FX:Hd (Fr (fun q=>w2.heap.size≤q∧q<X) w12 w17):=(F16.out.mono (fun _ _ h=>h.elim)).trans f17
 have EY7:Hd (Pg w17 w6.heap.size Y gy fs.length cy fs Ly):=EY.out.fr FX.out (fun q h=>by have:=ORD.out;omega)
 have EZ7:Hd (Pg w17 v7.heap.size Z gz fs.length cz fs Lz):=EZ.out.fr FX.out (fun q h=>by have:=ORD.out;omega)
 have EB7:Hd (By w17 w1.heap.size w2.heap.size (.slice ba D.length bc) D):=EB.out.fr FX.out (fun q h=>by have:=ORD.out;omega)
 have EC7:Hd (By w17 w4.heap.size w5.heap.size (.slice ca D.length cc) D):=EC.out.fr FX.out (fun q h=>by have:=ORD.out;omega)
 have ED7:Hd (By w17 w9.heap.size w10.heap.size (.slice da D.length dc) D):=ED.out.fr FX.out (fun q h=>by have:=ORD.out;omega)
 have EM7:Hd (By w17 w11.heap.size w12.heap.size (.slice ma D.length mc) D):=EM.out.fr FX.out (fun q h=>by have:=ORD.out;omega)
 have EF7:Hd (Fr (fun _=>False) wa w17):=EF.out.then FX.out (fun j hj e=>by have:=ORD.out;omega)
 have RY7:Hd (w17.heap[Y]?=some (.cells #[vI G,.slice (some ⟨gy,0,none⟩) fs.length cy] 26)):=(FX.out.block Y (heap_lt RY.out) (fun h=>by have:=ORD.out;omega)).trans RY.out
 have RZ7:Hd (w17.heap[Z]?=some (.cells #[vI G,.slice (some ⟨gz,0,none⟩) fs.length cz] 26)):=(FX.out.block Z (heap_lt RZ.out) (fun h=>by have:=ORD.out;omega)).trans RZ.out
 clear f17 FX HAP F16 x0 x1 EX EY EZ EB EC ED EM EF RX RY RZ
 obtain⟨p0,p1,-⟩:=PK.out w17 EF7.out
 have y0:w17.cell? ⟨Y,0,none⟩=some (vI G):=by rw[cell_of RY7.out];rfl
 have y1:w17.cell? ⟨Y,1,none⟩=some (.slice (some ⟨gy,0,none⟩) fs.length cy):=by rw[cell_of RY7.out];rfl
 go_wp2_with fail
 refine(eqProgram_same G fs _ _ w17 EY7.out.fa (PK.out w17 EF7.out).2.2.1 HN.out).mono ?_
 rintro e w18 ⟨rfl,f18⟩
 have F18:Hd (Fr (fun _=>False) w17 w18):=f18
 have hby:=(f18.block Y (heap_lt RY7.out) (fun h=>h)).trans RY7.out
 have HAP:Hd (Calls Tryd.prog 21 #[.agg #[vI G,.slice (some ⟨gy,0,none⟩) fs.length cy]] w18 fun e w'=>e = .returned (.bool true)∧Fr (fun q=>w6.heap.size≤q∧q<Y) w18 w'):=apart_pg (EY7.out.fr f18 no_S) HSM.out HN1.out (Nat.le_of_lt (heap_lt hby))
 clear p0 p1 y0 y1 f18
 have y0:w18.cell? ⟨Y,0,none⟩=some (vI G):=by rw[cell_of hby];rfl
 have y1:w18.cell? ⟨Y,1,none⟩=some (.slice (some ⟨gy,0,none⟩) fs.length cy):=by rw[cell_of hby];rfl
 clear hby
 go_wp2_with fail
 refine Calls.mono HAP.out ?_
 rintro e w19 ⟨rfl,f19⟩
 have FX:Hd (Fr (fun q=>w6.heap.size≤q∧q<Y) w17 w19):=(F18.out.mono (fun _ _ h=>h.elim)).trans f19
 have EZ9:Hd (Pg w19 v7.heap.size Z gz fs.length cz fs Lz):=EZ7.out.fr FX.out (fun q h=>by have:=ORD.out;omega)
 have EB9:Hd (By w19 w1.heap.size w2.heap.size (.slice ba D.length bc) D):=EB7.out.fr FX.out (fun q h=>by have:=ORD.out;omega)
 have EC9:Hd (By w19 w4.heap.size w5.heap.size (.slice ca D.length cc) D):=EC7.out.fr FX.out (fun q h=>by have:=ORD.out;omega)
 have ED9:Hd (By w19 w9.heap.size w10.heap.size (.slice da D.length dc) D):=ED7.out.fr FX.out (fun q h=>by have:=ORD.out;omega)
 have EM9:Hd (By w19 w11.heap.size w12.heap.size (.slice ma D.length mc) D):=EM7.out.fr FX.out (fun q h=>by have:=ORD.out;omega)
 have EF9:Hd (Fr (fun _=>False) wa w19):=EF7.out.then FX.out (fun j hj e=>by have:=ORD.out;omega)
 have RZ9:Hd (w19.heap[Z]?=some (.cells #[vI G,.slice (some ⟨gz,0,none⟩) fs.length cz] 26)):=(FX.out.block Z (heap_lt RZ7.out) (fun h=>by have:=ORD.out;omega)).trans RZ7.out
 clear f19 FX HAP F18 y0 y1 EY7 EZ7 EB7 EC7 ED7 EM7 EF7 RY7 RZ7
 go_wp2_with fail
 obtain⟨gc,egc,hgc⟩:∃ g,ca=some ⟨g,0,none⟩∧w4.heap.size≤g:=by
  rcases EC9.out.own.2 with⟨-,e⟩|⟨g,cap,cur,e,h1,-⟩
  ·have:=HL.out;omega
  ·injection e with e1 e2 e3
   exact⟨g,e1,h1⟩
 subst egc
 have HUgc:Hd (w4.heap.size≤gc∧∀ q,q=gc→w4.heap.size≤q∧q<w5.heap.size):=⟨hgc,fun q e=>by subst e;exact EC9.out.up _ rfl⟩
 have HL0:Hd (∃ us,w19.ownsRow w4.heap.size 5 1 (.slice (some ⟨gc,0,none⟩) D.length cc) D.length us):=⟨_,EC9.out.own⟩
 have HW0:Hd (Fr (fun q=>q=gc) w19 w19):=Fr.refl _ _
 clear hgc EC9
 go_loopw [25] (fun v wx=>∃ k:Nat,v = .int .i64 k∧k≤D.length∧Hd (∃ us,wx.ownsRow w4.heap.size 5 1 (.slice (some ⟨gc,0,none⟩) D.length cc) D.length us)∧Hd (Fr (fun q=>q=gc) w19 wx)) (fun v _=>match v with | .int _ q=>D.length-q.toNat | _=>0)
 case atStart=>exact⟨0,by simp,Nat.zero_le _,HL0.out,HW0.out⟩
 case round =>
  clear HL0 HW0
  obtain⟨k,rfl,hk,HR,HWF⟩:=hrel
  by_cases hltk:k<D.length
  ·have d2:decide ((k:Int)<(D.length:Int))=true:=by simp;omega
   have k0:(0:Int)≤k:=by omega
   have k1:(k:Int)<D.length:=by omega
   obtain⟨us,hr⟩:=HR.out
   have hrl:us.length=D.length*1:=hr.1
   obtain⟨u0,r0⟩:∃ u,wr.cell? ⟨gc,k,none⟩=some u:=by
    obtain⟨g',c',e',-,hc⟩:=own_cell hr (j:=k) (u:=us[k]'(by omega)) (List.getElem?_eq_getElem (by omega))
    cases e'
    exact⟨_,hc⟩
   have hz:=(row_setI (j:=k) hr (vI 0)).2
   have HR2:Hd (∃ us,(wr.setCell ⟨gc,k,none⟩ (.int .u8 200)).ownsRow w4.heap.size 5 1 (.slice (some ⟨gc,0,none⟩) D.length cc) D.length us):=⟨_,(row_setI hr _).1⟩
   have HW2:Hd (Fr (fun q=>q=gc) w19 (wr.setCell ⟨gc,k,none⟩ (.int .u8 200))):=HWF.out.trans (setCell_fr wr gc _ _)
   have hltk2:k+1≤D.length:=hltk
   clear hrl hr HR HWF hltk
   go_wp2_with fail
   go_roundw
   case measure=>simp;omega
   case rel=>exact⟨k+1,by simp,by omega,HR2.out,HW2.out⟩
  ·have d2:decide ((k:Int)<(D.length:Int))=false:=by simp;omega
   have d2n:¬ k<D.length:=hltk
   have HM0:Hd (∃ us,wr.ownsRow w4.heap.size 5 1 (.slice (some ⟨gc,0,none⟩) D.length cc) (D.length+0) us):=HR.out
   have HW1:Hd (Fr (fun q=>q=gc) w19 wr):=HWF.out
   have HS1:Hd (w4.heap.size≤wr.heap.size):=by obtain⟨us,hr⟩:=HR.out;have:=(World.ownsRow.lt hr gc rfl);unfold Hd;omega
   clear hltk HR HWF
   obtain⟨wk,hwk⟩:∃ wk,wk=wr:=⟨_,rfl⟩
   rw[← hwk] at HM0 HW1 HS1
   subst hwk
   go_wp2_with fail
   have HAT:Hd (∀ q,(Value.slice (some ⟨gc,0,none⟩) D.length cc).ownBlock=some q→q=gc∨wk.heap.size≤q):=fun q e=>Or.inl (by injection e with e;exact e.symm)
   have HWF:Hd (Fr (fun q=>q=gc) wk wk):=Fr.refl _ _
   go_loopw [9,26] (fun mv v wx=>∃ t:Nat,v = .int .i64 t∧t≤64∧Hd (∃ us,wx.ownsRow w4.heap.size 5 1 mv (D.length+t) us)∧Hd (∀ q,mv.ownBlock=some q→q=gc∨wk.heap.size≤q)∧Hd (Fr (fun q=>q=gc) wk wx)) (fun _ v _=>match v with | .int _ q=>64-q.toNat | _=>0)
   case atStart=>exact⟨0,by simp,by omega,HM0.out,HAT.out,HWF.out⟩
   case round =>
    clear HM0 HAT HWF
    obtain⟨t,rfl,ht,HR,HAT,HWF⟩:=hrel
    obtain⟨us,hr⟩:=HR.out
    obtain⟨sa,sc,emv⟩:=own_slice hr
    subst emv
    by_cases hltt:t<64
    ·have d3:decide ((t:Int)<64)=true:=by simp;omega
     have hbd:=HL.out.2
     obtain⟨wz,hwz⟩:∃ wz,wz=wr.alloc (.cells #[.int .u8 201] 5):=⟨_,rfl⟩
     have hFz:Fr (fun _=>False) wr wz:=by rw[hwz];exact Fr.alloc (Fr.refl _ _) _
     have HWZ:Hd (wz=wr.alloc (.cells #[.int .u8 201] 5)):=hwz
     have HBZ:Hd (wz.heap[wr.heap.size]?=some (.cells #[.int .u8 201] 5)):=by unfold Hd;rw[hwz];exact heap_new wr _
     have HRZ:Hd (wz.ownsRow w4.heap.size 5 1 (.slice sa (D.length+t) sc) (D.length+t) us):=ownsRow_frL hr hFz (fun _ _ e=>e)
     have HFZ:Hd (Fr (fun q=>q=gc) wk wz):=HWF.out.trans (hFz.mono (fun _ _ h=>h.elim))
     have HBS:Hd (w4.heap.size≤wz.heap.size):=Nat.le_trans HS1.out HFZ.out.size
     clear hFz hwz hr HR HWF
     go_wp2_with ((at_builtin;refine Hd.out ?_))
     unfold Hd
     rw[← HWZ.out]
     refine wpList_byte rfl (.tmp 117) (.tmp 118) rfl rfl rfl HRZ.out HBZ.out (by omega) HBS.out ?_
     intro g6 cap6 w6' hown6 hfr6 hat6
     have HR6:Hd (∃ us,w6'.ownsRow w4.heap.size 5 1 (.slice (some ⟨g6,0,none⟩) (D.length+t+1) cap6) (D.length+(t+1)) us):=⟨_,hown6⟩
     have HF6:Hd (Fr (fun q=>q=gc) wk w6'):=HFZ.out.then hfr6 (fun q hq e=>by
      rcases HAT.out q e with h | h
      ·exact h
      ·omega)
     have HA6:Hd (∀ q,(Value.slice (some ⟨g6,0,none⟩) (D.length+t+1) cap6).ownBlock=some q→q=gc∨wk.heap.size≤q):=fun q e=>by
      have e2:g6=q:=by injection e
      subst e2
      rcases hat6 with h | h
      ·exact HAT.out _ h
      ·have:=HFZ.out.size
       right;omega
     have hlt2:t+1≤64:=hltt
     clear hown6 hfr6 hat6 HRZ HBZ HWZ HFZ HBS HAT hltt hbd
     go_wp2_with fail
     go_roundw
     case measure=>simp;omega
     case rel=>exact⟨t+1,by simp,by omega,HR6.out,HA6.out,HF6.out⟩
    ·have d3:decide ((t:Int)<64)=false:=by simp;omega
     have d3n:¬ t<64:=hltt
     have ht64:t=64:=by omega
     subst ht64
     have FE:Hd (Fr (fun q=>q=gc) w19 wr):=HW1.out.trans HWF.out
     clear hr HR HAT HWF hltt HW1 HS1
     have EZa:Hd (Pg wr v7.heap.size Z gz fs.length cz fs Lz):=EZ9.out.fr FE.out (fun q h=>by have:=HUgc.out.2 q h;have:=ORD.out;omega)
     have EBa:Hd (By wr w1.heap.size w2.heap.size (.slice ba D.length bc) D):=EB9.out.fr FE.out (fun q h=>by have:=HUgc.out.2 q h;have:=ORD.out;omega)
     have EDa:Hd (By wr w9.heap.size w10.heap.size (.slice da D.length dc) D):=ED9.out.fr FE.out (fun q h=>by have:=HUgc.out.2 q h;have:=ORD.out;omega)
     have EMa:Hd (By wr w11.heap.size w12.heap.size (.slice ma D.length mc) D):=EM9.out.fr FE.out (fun q h=>by have:=HUgc.out.2 q h;have:=ORD.out;omega)
     have EFa:Hd (Fr (fun _=>False) wa wr):=EF9.out.then FE.out (fun j hj e=>by have:=HUgc.out.2 j e;have:=ORD.out;omega)
     have RZa:Hd (wr.heap[Z]?=some (.cells #[vI G,.slice (some ⟨gz,0,none⟩) fs.length cz] 26)):=(FE.out.block Z (heap_lt RZ9.out) (fun h=>by have:=HUgc.out.2 Z h;have:=ORD.out;omega)).trans RZ9.out
     clear FE EZ9 EB9 ED9 EM9 EF9 RZ9
     obtain⟨w21,hw21⟩:∃ w21,w21=wr:=⟨_,rfl⟩
     rw[← hw21] at EZa EBa EDa EMa EFa RZa
     subst hw21
     go_wp2_with fail
     refine(eqBytes_same _ _ D w21 (EDa.out.bytes (by have:=HL.out;omega) (by have:=HL.out;omega)) (EBa.out.bytes (by have:=HL.out;omega) (by have:=HL.out;omega))).mono ?_
     rintro e w22 ⟨rfl,f22⟩
     have EZ9:Hd (Pg w22 v7.heap.size Z gz fs.length cz fs Lz):=EZa.out.fr f22 no_S
     have EB9:Hd (By w22 w1.heap.size w2.heap.size (.slice ba D.length bc) D):=EBa.out.fr f22 no_S
     have ED9:Hd (By w22 w9.heap.size w10.heap.size (.slice da D.length dc) D):=EDa.out.fr f22 no_S
     have EM9:Hd (By w22 w11.heap.size w12.heap.size (.slice ma D.length mc) D):=EMa.out.fr f22 no_S
     have EF9:Hd (Fr (fun _=>False) wa w22):=EFa.out.trans f22
     have RZ9:Hd (w22.heap[Z]?=some (.cells #[vI G,.slice (some ⟨gz,0,none⟩) fs.length cz] 26)):=(f22.block Z (heap_lt RZa.out) (fun h=>h)).trans RZa.out
     clear f22 EZa EBa EDa EMa EFa RZa
     go_wp2_with fail
     obtain⟨gd,egd,hgd⟩:∃ g,da=some ⟨g,0,none⟩∧w9.heap.size≤g:=by
      rcases ED9.out.own.2 with⟨-,e⟩|⟨g,cap,cur,e,h1,-⟩
      ·have:=HL.out;omega
      ·injection e with e1 e2 e3
       exact⟨g,e1,h1⟩
     subst egd
     have HUgd:Hd (w9.heap.size≤gd∧∀ q,q=gd→w9.heap.size≤q∧q<w10.heap.size):=⟨hgd,fun q e=>by subst e;exact ED9.out.up _ rfl⟩
     have HL0:Hd (∃ us,w22.ownsRow w9.heap.size 5 1 (.slice (some ⟨gd,0,none⟩) D.length dc) D.length us):=⟨_,ED9.out.own⟩
     have HW0:Hd (Fr (fun q=>q=gd) w22 w22):=Fr.refl _ _
     clear hgd ED9
     go_loopw [27] (fun v wx=>∃ k:Nat,v = .int .i64 k∧k≤D.length∧Hd (∃ us,wx.ownsRow w9.heap.size 5 1 (.slice (some ⟨gd,0,none⟩) D.length dc) D.length us)∧Hd (Fr (fun q=>q=gd) w22 wx)) (fun v _=>match v with | .int _ q=>D.length-q.toNat | _=>0)
     case atStart=>exact⟨0,by simp,Nat.zero_le _,HL0.out,HW0.out⟩
     case round =>
      clear HL0 HW0
      obtain⟨k,rfl,hk,HR,HWF⟩:=hrel
      by_cases hltk:k<D.length
      ·have d2:decide ((k:Int)<(D.length:Int))=true:=by simp;omega
       have k0:(0:Int)≤k:=by omega
       have k1:(k:Int)<D.length:=by omega
       obtain⟨us,hr⟩:=HR.out
       have hrl:us.length=D.length*1:=hr.1
       obtain⟨u0,r0⟩:∃ u,wr.cell? ⟨gd,k,none⟩=some u:=by
        obtain⟨g',c',e',-,hc⟩:=own_cell hr (j:=k) (u:=us[k]'(by omega)) (List.getElem?_eq_getElem (by omega))
        cases e'
        exact⟨_,hc⟩
       have hz:=(row_setI (j:=k) hr (vI 0)).2
       have HR2:Hd (∃ us,(wr.setCell ⟨gd,k,none⟩ (.int .u8 202)).ownsRow w9.heap.size 5 1 (.slice (some ⟨gd,0,none⟩) D.length dc) D.length us):=⟨_,(row_setI hr _).1⟩
       have HW2:Hd (Fr (fun q=>q=gd) w22 (wr.setCell ⟨gd,k,none⟩ (.int .u8 202))):=HWF.out.trans (setCell_fr wr gd _ _)
       have hltk2:k+1≤D.length:=hltk
       clear hrl hr HR HWF hltk
       go_wp2_with fail
       go_roundw
       case measure=>simp;omega
       case rel=>exact⟨k+1,by simp,by omega,HR2.out,HW2.out⟩
      ·have d2:decide ((k:Int)<(D.length:Int))=false:=by simp;omega
       have d2n:¬ k<D.length:=hltk
       have HM0:Hd (∃ us,wr.ownsRow w9.heap.size 5 1 (.slice (some ⟨gd,0,none⟩) D.length dc) (D.length+0) us):=HR.out
       have HW1:Hd (Fr (fun q=>q=gd) w22 wr):=HWF.out
       have HS1:Hd (w9.heap.size≤wr.heap.size):=by obtain⟨us,hr⟩:=HR.out;have:=(World.ownsRow.lt hr gd rfl);unfold Hd;omega
       clear hltk HR HWF
       obtain⟨wk,hwk⟩:∃ wk,wk=wr:=⟨_,rfl⟩
       rw[← hwk] at HM0 HW1 HS1
       subst hwk
       go_wp2_with fail
       have HAT:Hd (∀ q,(Value.slice (some ⟨gd,0,none⟩) D.length dc).ownBlock=some q→q=gd∨wk.heap.size≤q):=fun q e=>Or.inl (by injection e with e;exact e.symm)
       have HWF:Hd (Fr (fun q=>q=gd) wk wk):=Fr.refl _ _
       go_loopw [18,28] (fun mv v wx=>∃ t:Nat,v = .int .i64 t∧t≤64∧Hd (∃ us,wx.ownsRow w9.heap.size 5 1 mv (D.length+t) us)∧Hd (∀ q,mv.ownBlock=some q→q=gd∨wk.heap.size≤q)∧Hd (Fr (fun q=>q=gd) wk wx)) (fun _ v _=>match v with | .int _ q=>64-q.toNat | _=>0)
       case atStart=>exact⟨0,by simp,by omega,HM0.out,HAT.out,HWF.out⟩
       case round =>
        clear HM0 HAT HWF
        obtain⟨t,rfl,ht,HR,HAT,HWF⟩:=hrel
        obtain⟨us,hr⟩:=HR.out
        obtain⟨sa,sc,emv⟩:=own_slice hr
        subst emv
        by_cases hltt:t<64
        ·have d3:decide ((t:Int)<64)=true:=by simp;omega
         have hbd:=HL.out.2
         obtain⟨wz,hwz⟩:∃ wz,wz=wr.alloc (.cells #[.int .u8 203] 5):=⟨_,rfl⟩
         have hFz:Fr (fun _=>False) wr wz:=by rw[hwz];exact Fr.alloc (Fr.refl _ _) _
         have HWZ:Hd (wz=wr.alloc (.cells #[.int .u8 203] 5)):=hwz
         have HBZ:Hd (wz.heap[wr.heap.size]?=some (.cells #[.int .u8 203] 5)):=by unfold Hd;rw[hwz];exact heap_new wr _
         have HRZ:Hd (wz.ownsRow w9.heap.size 5 1 (.slice sa (D.length+t) sc) (D.length+t) us):=ownsRow_frL hr hFz (fun _ _ e=>e)
         have HFZ:Hd (Fr (fun q=>q=gd) wk wz):=HWF.out.trans (hFz.mono (fun _ _ h=>h.elim))
         have HBS:Hd (w9.heap.size≤wz.heap.size):=Nat.le_trans HS1.out HFZ.out.size
         clear hFz hwz hr HR HWF
         go_wp2_with ((at_builtin;refine Hd.out ?_))
         unfold Hd
         rw[← HWZ.out]
         refine wpList_byte rfl (.tmp 139) (.tmp 140) rfl rfl rfl HRZ.out HBZ.out (by omega) HBS.out ?_
         intro g6 cap6 w6' hown6 hfr6 hat6
         have HR6:Hd (∃ us,w6'.ownsRow w9.heap.size 5 1 (.slice (some ⟨g6,0,none⟩) (D.length+t+1) cap6) (D.length+(t+1)) us):=⟨_,hown6⟩
         have HF6:Hd (Fr (fun q=>q=gd) wk w6'):=HFZ.out.then hfr6 (fun q hq e=>by
          rcases HAT.out q e with h | h
          ·exact h
          ·omega)
         have HA6:Hd (∀ q,(Value.slice (some ⟨g6,0,none⟩) (D.length+t+1) cap6).ownBlock=some q→q=gd∨wk.heap.size≤q):=fun q e=>by
          have e2:g6=q:=by injection e
          subst e2
          rcases hat6 with h | h
          ·exact HAT.out _ h
          ·have:=HFZ.out.size
           right;omega
         have hlt2:t+1≤64:=hltt
         clear hown6 hfr6 hat6 HRZ HBZ HWZ HFZ HBS HAT hltt hbd
         go_wp2_with fail
         go_roundw
         case measure=>simp;omega
         case rel=>exact⟨t+1,by simp,by omega,HR6.out,HA6.out,HF6.out⟩
        ·have d3:decide ((t:Int)<64)=false:=by simp;omega
         have d3n:¬ t<64:=hltt
         have ht64:t=64:=by omega
         subst ht64
         have FE:Hd (Fr (fun q=>q=gd) w22 wr):=HW1.out.trans HWF.out
         clear hr HR HAT HWF hltt HW1 HS1
         have EZa:Hd (Pg wr v7.heap.size Z gz fs.length cz fs Lz):=EZ9.out.fr FE.out (fun q h=>by have:=HUgd.out.2 q h;have:=ORD.out;omega)
         have EBa:Hd (By wr w1.heap.size w2.heap.size (.slice ba D.length bc) D):=EB9.out.fr FE.out (fun q h=>by have:=HUgd.out.2 q h;have:=ORD.out;omega)
         have EMa:Hd (By wr w11.heap.size w12.heap.size (.slice ma D.length mc) D):=EM9.out.fr FE.out (fun q h=>by have:=HUgd.out.2 q h;have:=ORD.out;omega)
         have EFa:Hd (Fr (fun _=>False) wa wr):=EF9.out.then FE.out (fun j hj e=>by have:=HUgd.out.2 j e;have:=ORD.out;omega)
         have RZa:Hd (wr.heap[Z]?=some (.cells #[vI G,.slice (some ⟨gz,0,none⟩) fs.length cz] 26)):=(FE.out.block Z (heap_lt RZ9.out) (fun h=>by have:=HUgd.out.2 Z h;have:=ORD.out;omega)).trans RZ9.out
         clear FE EZ9 EB9 EM9 EF9 RZ9
         obtain⟨w31,hw31⟩:∃ w31,w31=wr:=⟨_,rfl⟩
         rw[← hw31] at EZa EBa EMa EFa RZa
         subst hw31
         obtain⟨p0,p1,-⟩:=PK.out w31 EFa.out
         have z0:w31.cell? ⟨Z,0,none⟩=some (vI G):=by rw[cell_of RZa.out];rfl
         have z1:w31.cell? ⟨Z,1,none⟩=some (.slice (some ⟨gz,0,none⟩) fs.length cz):=by rw[cell_of RZa.out];rfl
         go_wp2_with fail
         refine(eqProgram_same G fs _ _ w31 EZa.out.fa (PK.out w31 EFa.out).2.2.1 HN.out).mono ?_
         rintro e w32 ⟨rfl,f32⟩
         have F32:Hd (Fr (fun _=>False) w31 w32):=f32
         clear f32 p0 p1 z0 z1
         go_wp2_with fail
         refine(eqBytes_same _ _ D w32 ((EMa.out.fr F32.out no_S).bytes (by have:=HL.out;omega) (by have:=HL.out;omega)) ((EBa.out.fr F32.out no_S).bytes (by have:=HL.out;omega) (by have:=HL.out;omega))).mono ?_
         rintro e w33 ⟨rfl,f33⟩
         have HFE:Hd (Fr (fun _=>False) w w33):=(PK.out w33 ((EFa.out.trans F32.out).trans f33)).2.2.2.2.2.1
         clear f33 F32 EZa EBa EMa EFa RZa
         have heq:(((D.length+64:Nat):Int)==(D.length:Int)+64)=true:=by simp
         go_wp2_with fail
         go_ret
         exact⟨rfl,HFE.out⟩
end Go.Proofs.YtingenonbkencaaDoor
