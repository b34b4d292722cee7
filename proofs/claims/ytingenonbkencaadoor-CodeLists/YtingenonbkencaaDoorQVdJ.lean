import Derived.Test.YtingenonbkencaaDoorQVc
import Derived.Test.YtingenonbkencaaDoorQRlJ
import Derived.Test.YtingenonbkencaaDoorQLzJ
set_option linter.unusedVariables false
set_option linter.unusedSimpArgs false
namespace Go.Proofs.YtingenonbkencaaDoor
open Go.RowKit (wrap32 wrap64)
theorem roomD : RoomOk 100000000000:=⟨by omega,by omega⟩
theorem flatB_len {α:Type}(f:α→List UInt8)(m:Nat):∀ (l:List α),(∀ x∈l,(f x).length≤m)→(l.flatMap f).length≤l.length*m
 | [],_=>by simp
 | a::r,h=>by
   have ih:=flatB_len f m r (fun x hx=>h x (by simp[hx]))
   have ha:=h a (by simp)
   rw[List.flatMap_cons,List.length_append,List.length_cons,Nat.add_mul]
   omega
theorem docI_len (c:PI)(ha:c.args.length≤255)(hr:c.rets.length≤255):(docI c).length≤769:=by
 unfold docI
 rw[List.length_append,leN_len,docP_eq]
 have h1:=flatB_len (docL c) 256 (partsN c.op.toNat).toList (fun x _=>docL_len c x ha hr)
 have h2:=docP_len c.op.toNat
 have:(partsN c.op.toNat).toList.length*256≤3*256:=Nat.mul_le_mul_right _ h2
 omega
def Small (fs:List PF):Prop:=fs.length≤65535∧∀ f∈fs,f.code.length≤4096∧∀ c∈f.code,c.args.length≤255∧c.rets.length≤255
theorem right_small {G:Int}{fs:List PF}(hc:∀ f∈fs,∀ c∈f.code,In64n c)(h:checkP G fs=0):Small fs∧∃ y,encK 0 100000000000 G fs = .ok y:=by
 have hck:=enc_check (n:=0) roomD G fs
 cases hx:encK 0 100000000000 G fs with
 | error z=>rw[hx] at hck;exact absurd (hck.1.symm.trans h) hck.2
 | ok y =>
   refine⟨?_,y,rfl⟩
   obtain⟨hd0,-,-⟩:=enc_dec roomD hc hx
   obtain⟨-,hF,hn,-⟩:=over_back (b:=4) (wb:=2) (g0:=1) (K:=8) (br:=0) (rv:=nilS) (vr:=nilS) (fv:=nilS) roomD.2 hc (show overK (writing (0+4) (0+2) (0+1) (0+8)) G fs (WS.start (writerFn (0+2)),((100000000000,magicL):Nat × List UInt8)) = .ok y from hx)
   have hdf:∀ q∈fs.map hd,HeadFine q:=fun q hq=>by
    obtain⟨f,hf,rfl⟩:=List.mem_map.1 hq
    obtain⟨k1,k2,k3,k4,k5⟩:=hF f hf
    exact⟨k1,k2,k3,by show(0:Int)<(f.code.length:Nat);omega,by show((f.code.length:Nat):Int)≤4096;omega⟩
   have hx2:throughX 0 nilS y.2.2 (WS.start nilS) nilS = .ok (G,fs.map hd,fs.map (fun f=>f.code.map ai)):=hd0
   obtain⟨-,hft⟩:=through_fit hdf hx2
   refine⟨hn.2,fun f hf=>⟨(hF f hf).2.2.2.2,fun c hcm=>?_⟩⟩
   obtain⟨q1,q2,-⟩:=hft (f.code.map ai) (List.mem_map.2 ⟨f,hf,rfl⟩) (ai c) (List.mem_map.2 ⟨c,hcm,rfl⟩)
   have q1:c.args.length≤8:=q1
   have q2:c.rets.length≤8:=q2
   omega
theorem leN_nat (n m:Nat)(h:m<18446744073709551616):leN n (m:Int)=leBytes n m:=by
 unfold leN
 have:IntKind.u64.wrap (m:Int)=m:=by
  simp only[IntKind.wrap,IntKind.signed,IntKind.bits]
  simp
  omega
 rw[this]
 rfl
set_option maxRecDepth 100000
set_option maxHeartbeats 4000000
def DocE (w:World)(G:Int)(fs:List PF)(zE:Int)(e:Ending)(w':World):Prop :=
 Fr (fun _=>False) w w'∧(zE=0→∃ v',e = .returned (.tuple #[v',vI 0])∧Bo w' w.heap.size v' (docAll G fs))∧(zE≠0→e = .returned (.tuple #[.slice none 0 0,vI zE]))
theorem rencode_any (w:World)(G:Int)(fs:List PF)(fv:Value)(h:FA w fv fs)(zE:Int)(hsm:zE=0→Small fs)
 (hck:∀ wx,Fr (fun _=>False) w wx→Calls Tryd.prog 25 #[.agg #[vI G,fv]] wx fun e w'=>e = .returned (vI zE)∧Fr (fun _=>False) wx w') :
 Calls Tryd.prog 20 #[.agg #[vI G,fv]] w (DocE w G fs zE):=by
 obtain⟨i5,hi5,hz5,hs5,hb5⟩:=info_parts (P:=Tryd.prog) (e:=5) (z:=.int .u8 0) (size:=1) (bytes:=1) (by kernel_rfl)
 obtain⟨fa,fc,efv,-⟩:=id h
 obtain⟨W,HW⟩:∃ W,W=w.alloc (.cells #[vI G,fv] 26):=⟨_,rfl⟩
 have hfW:Fr (fun _=>False) w W:=by rw[HW];exact Fr.alloc (Fr.refl _ _) _
 have hx1:W.heap[w.heap.size]?=some (.cells #[vI G,fv] 26):=by rw[HW];exact heap_new w _
 obtain⟨B,hB⟩:∃ B,B=w.heap.size:=⟨_,rfl⟩
 have HBw:Hd (B=w.heap.size):=hB
 rw[← hB] at hx1
 have x0:W.cell? ⟨B,0,none⟩=some (vI G):=by rw[cell_of hx1];rfl
 have x1:W.cell? ⟨B,1,none⟩=some fv:=by rw[cell_of hx1];rfl
 have hcW:=hck W hfW
 have HFA:Hd (FA w fv fs):=h
 have HSM:Hd (zE=0→Small fs):=hsm
 have HFW:Hd (Fr (fun _=>False) w W):=hfW
 have HX1:Hd (W.heap[B]?=some (.cells #[vI G,fv] 26)):=hx1
 clear h hsm hck hfW hx1
 subst efv
 go_enter Tryd.func20,Tryd.ntmps20
 go_upto_region 1 with fail
 rw[← HW,← hB]
 clear HW hB
 go_wp2_with fail
 refine hcW.mono ?_
 rintro e w1 ⟨rfl,f1⟩
 have HF1:Hd (Fr (fun _=>False) W w1):=f1
 clear hcW x0 x1 f1
 by_cases hz:zE=0
 rotate_left
 ·have hz1:(zE==0)=false:=by simpa using hz
  have hz2:(zE != 0)=true:=by simpa using hz
  go_wp2_with fail
  go_ret2
  exact⟨HFW.out.trans HF1.out,fun e=>absurd e hz,fun _=>rfl⟩
 subst hz
 obtain⟨hnf,hcode⟩:=HSM.out rfl
 have HCODE:Hd _:=hcode
 have HX:Hd (∀ wx,Fb B w1 wx→wx.heap[B]?=some (.cells #[vI G,.slice fa fs.length fc] 26)):=fun wx f=>f.keep ((HF1.out.block B (heap_lt HX1.out) (fun h=>h)).trans HX1.out) (by decide)
 have HBW:Hd (∀ wx,Fb B w1 wx→Fr (fun _=>False) w wx):=fun wx f=>(HFW.out.trans HF1.out).then f (fun j hj e=>by have:=e.1;have:=HBw.out;omega)
 have hB1:B≤w1.heap.size:=by rw[HBw.out];exact(HFW.out.trans HF1.out).size
 obtain⟨cG,hcG,hlG⟩:=u8_le G
 have HLG:Hd (leN 1 G=[cG]):=hlG
 have hx:=HX.out w1 (Fb.refl _ _)
 have y0:w1.cell? ⟨B,0,none⟩=some (vI G):=by rw[cell_of hx];rfl
 have y1:w1.cell? ⟨B,1,none⟩=some (.slice fa fs.length fc):=by rw[cell_of hx];rfl
 clear hcode hx hlG HSM HFW HX1 HF1
 go_upto_region 5 with fail
 obtain⟨w2,hw2⟩:∃ w2,w2=w1.alloc (.cells #[.int .u8 102,.int .u8 117,.int .u8 103,.int .u8 117,.int .u8 101,.int .u8 1,.int .u8 (cG.toNat:Nat)] 5):=⟨_,rfl⟩
 rw[← hw2]
 have hb2:Bo w2 B (.slice (some ⟨w1.heap.size,0,none⟩) 7 7) (magicL++[cG]):=by
  refine⟨⟨rfl,Or.inr ⟨w1.heap.size,7,#[.int .u8 102,.int .u8 117,.int .u8 103,.int .u8 117,.int .u8 101,.int .u8 1,.int .u8 (cG.toNat:Nat)],rfl,hB1,by rw[hw2];exact heap_new w1 _,Nat.le_refl _,by unfold maxLen;omega,rfl,rfl⟩⟩,?_⟩
  rw[hw2];simp;omega
 have hf2:Fb B w1 w2:=by rw[hw2];exact Fr.alloc (Fr.refl _ _) _
 have hcall:=add_any _ (magicL++[cG]) B fs.length 2 w2 hb2 (by simp[magicL]) (by omega) (by omega)
 have z1:w2.cell? ⟨B,1,none⟩=some (.slice fa fs.length fc):=by rw[cell_of (HX.out w2 hf2)];rfl
 have hu:IntKind.u64.wrap (fs.length:Int)=fs.length:=by
  simp only[IntKind.wrap,IntKind.signed,IntKind.bits]
  simp
  omega
 have HF2:Hd (Fb B w1 w2):=hf2
 clear hb2 hf2 hw2 y0 y1 hcG
 go_wp2_with fail
 refine hcall.mono ?_
 rintro e w3 ⟨v3,rfl,hb3,hf3⟩
 have HP:Hd (∃ pre:List UInt8,pre=magicL++leN 1 G++leN 2 (fs.length:Nat)∧magicL++[cG]++leBytes 2 fs.length=pre):=⟨_,rfl,by rw[HLG.out,leN_nat _ _ (by omega)]⟩
 obtain⟨pre,hpre,hpe⟩:=HP.out
 have HPRE:Hd (pre=magicL++leN 1 G++leN 2 (fs.length:Nat)):=hpre
 have HPL:Hd (pre.length=9):=by
  unfold Hd
  rw[hpre,List.length_append,List.length_append,leN_len,leN_len];rfl
 rw[hpe] at hb3
 have HB3:Hd (Bo w3 B v3 pre):=hb3
 have HF3:Hd (Fb B w1 w3):=HF2.out.trans hf3
 clear hcall z1 hb3 hf3 HF2 hpre hpe HP hu
 go_wp2_with fail
 go_loopw [5,6] (fun u i wr=>∃ (k:Nat) (cs:List UInt8),k≤fs.length∧i = .int .i64 k∧Bo wr B u cs∧Hd (cs=pre++(fs.take k).flatMap docH)∧cs.length=9+5*k∧Hd (Fb B w1 wr)) (fun _ i _=>match i with | .int _ q=>fs.length-q.toNat | _=>0)
 case atStart=>exact⟨0,pre,Nat.zero_le _,rfl,HB3.out,by unfold Hd;simp,HPL.out,HF3.out⟩
 case round =>
  obtain⟨k,cs,hk,rfl,hb,HCS,hcl,HFR⟩:=hrel
  have q1:wr.cell? ⟨B,1,none⟩=some (.slice fa fs.length fc):=by rw[cell_of (HX.out wr HFR.out)];rfl
  by_cases hlt:k<fs.length
  ·obtain⟨aa,cc,e0,hcells⟩:=HFA.out
   cases e0
   obtain⟨g,o,rfl,hg,hcs⟩:=hcells (by intro e;simp[e] at hlt)
   obtain⟨cv,c0,c1,c2,c3,hca⟩:=hcs k hlt
   obtain⟨xa,xc,rfl,-⟩:=id hca
   have hgw:∀ o,wr.cell? ⟨g,o,none⟩=w.cell? ⟨g,o,none⟩:=fun o=>(HBW.out wr HFR.out).cell hg (fun h=>h)
   have g0:wr.cell? ⟨g,o+k*4,none⟩=some (vI fs[k].P):=(hgw _).trans c0
   have g1:wr.cell? ⟨g,o+k*4+1,none⟩=some (vI fs[k].R):=(hgw _).trans c1
   have g2:wr.cell? ⟨g,o+k*4+2,none⟩=some (vI fs[k].V):=(hgw _).trans c2
   have g3:wr.cell? ⟨g,o+k*4+3,none⟩=some (.slice xa fs[k].code.length xc):=(hgw _).trans c3
   have HTK:Hd (∀ ds,docH fs[k]=ds→cs++ds=pre++(fs.take (k+1)).flatMap docH):=fun ds e=>by
    rw[List.take_add_one,List.flatMap_append,← List.append_assoc,← HCS.out]
    simp[List.getElem?_eq_getElem hlt,e]
   have hcl4:=(HCODE.out fs[k] (List.getElem_mem hlt)).1
   have HDH:Hd (docH fs[k]=leN 1 fs[k].P++leN 1 fs[k].R++leN 1 fs[k].V++leN 2 (fs[k].code.length:Nat)):=rfl
   generalize fs[k]=f at *
   have hkn:(0:Int)≤k∧(k:Int)<fs.length:=by omega
   obtain⟨p1,hp1,hq1⟩:=u8_le f.P
   obtain⟨p2,hp2,hq2⟩:=u8_le f.R
   obtain⟨p3,hp3,hq3⟩:=u8_le f.V
   have HDS:Hd (docH f=[p1]++[p2]++[p3]++leBytes 2 f.code.length):=by unfold Hd;rw[HDH.out,hq1,hq2,hq3,leN_nat _ _ (by omega)]
   clear hcells hcs c0 c1 c2 c3 hca hgw HCS hq1 hq2 hq3 HDH
   go_upto_region 10 with fail
   obtain⟨wb,hwb⟩:∃ wb,wb=wr.alloc (.cells #[vI f.P,vI f.R,vI f.V,.slice xa f.code.length xc] 67):=⟨_,rfl⟩
   obtain⟨Z,hZ⟩:∃ Z,Z=wr.heap.size:=⟨_,rfl⟩
   have hfb:Fb B wr wb:=by rw[hwb];exact Fr.alloc (Fr.refl _ _) _
   have hzb:wb.heap[Z]?=some (.cells #[vI f.P,vI f.R,vI f.V,.slice xa f.code.length xc] 67):=by rw[hwb,hZ];exact heap_new wr _
   have hbb:Bo wb B u5 cs:=⟨by rw[hwb];exact hb.1.alloc _,Nat.le_trans hb.2 hfb.size⟩
   have HZ:Hd (∀ wx,Fb B wb wx→wx.heap[Z]?=some (.cells #[vI f.P,vI f.R,vI f.V,.slice xa f.code.length xc] 67)):=fun wx fx=>fx.keep hzb (by decide)
   have HFB:Hd (Fb B w1 wb):=HFR.out.trans hfb
   rw[show wr.alloc (.cells #[.int .i64 f.P,.int .i64 f.R,.int .i64 f.V,.slice xa f.code.length xc] 67)=wb from hwb.symm,← hZ]
   have HG0:Hd (Fb B wb wb):=Fb.refl _ _
   clear hb hfb hzb hwb hZ g0 g1 g2 g3 q1
   have a0:wb.cell? ⟨Z,0,none⟩=some (vI f.P):=by rw[cell_of (HZ.out wb HG0.out)];rfl
   have hcell1:∀ (j:Nat) (u:Value),[u8v p1][j]?=some u→(wb.alloc (.cells #[u8v p1] 5)).cell? ((⟨wb.heap.size,0,none⟩:Addr).add j)=some u:=by
    intro j u hu
    rw[addr_add,World.cell?_alloc_new]
    simpa using hu
   have hkb:(cs).length+1≤maxLen:=by unfold maxLen;first | omega | (simp;omega)
   have hln:(cs).length≤9000000000:=by first | omega | (simp;omega)
   have hBn:=hbb.2
   go_upto_region 11 with((at_builtin;refine wpList_append_own _ rfl (.tmp 37) (.tmp 41) 22 rfl B 5 i5 (.int .u8 0) 1 1 Tryd.underlying22 hi5 hz5 hs5 hb5 rfl (by omega) u5 (cs).length _ rfl (hbb.1.alloc _) ⟨wb.heap.size,0,none⟩ 1 1 [u8v p1] rfl rfl hcell1 (by intro u hu;simp at hu;subst hu;rfl) hkb (by omega) (by simp;omega) ?_;intro vb1 wb1 hown hgrow hnil))
   obtain⟨hb',hf'⟩:=hbb.more _ hown hgrow
   have HG1:Hd (Fb B wb wb1):=HG0.out.trans hf'
   clear hbb hown hgrow hnil hcell1 hkb hln a0 hp1 hBn hf'
   have hbb:=hb'
   clear hb'
   have a1:wb1.cell? ⟨Z,1,none⟩=some (vI f.R):=by rw[cell_of (HZ.out wb1 HG1.out)];rfl
   have hcell1:∀ (j:Nat) (u:Value),[u8v p2][j]?=some u→(wb1.alloc (.cells #[u8v p2] 5)).cell? ((⟨wb1.heap.size,0,none⟩:Addr).add j)=some u:=by
    intro j u hu
    rw[addr_add,World.cell?_alloc_new]
    simpa using hu
   have hkb:(cs++[p1]).length+1≤maxLen:=by unfold maxLen;first | omega | (simp;omega)
   have hln:(cs++[p1]).length≤9000000000:=by first | omega | (simp;omega)
   have hBn:=hbb.2
   go_upto_region 12 with((at_builtin;refine wpList_append_own _ rfl (.tmp 43) (.tmp 47) 22 rfl B 5 i5 (.int .u8 0) 1 1 Tryd.underlying22 hi5 hz5 hs5 hb5 rfl (by omega) vb1 (cs++[p1]).length _ rfl (hbb.1.alloc _) ⟨wb1.heap.size,0,none⟩ 1 1 [u8v p2] rfl rfl hcell1 (by intro u hu;simp at hu;subst hu;rfl) hkb (by omega) (by simp;omega) ?_;intro vb2 wb2 hown hgrow hnil))
   obtain⟨hb',hf'⟩:=hbb.more _ hown hgrow
   have HG2:Hd (Fb B wb wb2):=HG1.out.trans hf'
   clear hbb hown hgrow hnil hcell1 hkb hln a1 hp2 hBn hf'
   have hbb:=hb'
   clear hb'
   have a2:wb2.cell? ⟨Z,2,none⟩=some (vI f.V):=by rw[cell_of (HZ.out wb2 HG2.out)];rfl
   have hcell1:∀ (j:Nat) (u:Value),[u8v p3][j]?=some u→(wb2.alloc (.cells #[u8v p3] 5)).cell? ((⟨wb2.heap.size,0,none⟩:Addr).add j)=some u:=by
    intro j u hu
    rw[addr_add,World.cell?_alloc_new]
    simpa using hu
   have hkb:(cs++[p1]++[p2]).length+1≤maxLen:=by unfold maxLen;first | omega | (simp;omega)
   have hln:(cs++[p1]++[p2]).length≤9000000000:=by first | omega | (simp;omega)
   have hBn:=hbb.2
   go_upto_region 13 with((at_builtin;refine wpList_append_own _ rfl (.tmp 49) (.tmp 53) 22 rfl B 5 i5 (.int .u8 0) 1 1 Tryd.underlying22 hi5 hz5 hs5 hb5 rfl (by omega) vb2 (cs++[p1]++[p2]).length _ rfl (hbb.1.alloc _) ⟨wb2.heap.size,0,none⟩ 1 1 [u8v p3] rfl rfl hcell1 (by intro u hu;simp at hu;subst hu;rfl) hkb (by omega) (by simp;omega) ?_;intro vb3 wb3 hown hgrow hnil))
   obtain⟨hb',hf'⟩:=hbb.more _ hown hgrow
   have HG3:Hd (Fb B wb wb3):=HG2.out.trans hf'
   clear hbb hown hgrow hnil hcell1 hkb hln a2 hp3 hBn hf'
   have hbb:=hb'
   clear hb'
   have a3:wb3.cell? ⟨Z,3,none⟩=some (.slice xa f.code.length xc):=by rw[cell_of (HZ.out wb3 HG3.out)];rfl
   have hcall:=add_any vb3 (cs++[p1]++[p2]++[p3]) B f.code.length 2 wb3 hbb (by simp;omega) (by omega) (by omega)
   have hu:IntKind.u64.wrap (f.code.length:Int)=f.code.length:=by
    simp only[IntKind.wrap,IntKind.signed,IntKind.bits]
    simp
    omega
   have HT:Hd (cs++[p1]++[p2]++[p3]++leBytes 2 f.code.length=pre++(fs.take (k+1)).flatMap docH):=by
    unfold Hd
    rw[← HTK.out _ HDS.out]
    simp only[List.append_assoc]
   clear hbb HTK HDS
   go_wp2_with fail
   refine hcall.mono ?_
   rintro e w7 ⟨v7,rfl,hb7,hf7⟩
   clear hcall a3
   go_wp2_with fail
   exact⟨⟨k+1,_,by omega,by simp,hb7,HT.out,by simp[leBytes_length];omega,(HFB.out.trans HG3.out).trans hf7⟩,by simp;omega⟩
  ·have hkn:k=fs.length:=by omega
   subst hkn
   have e1:=HCS.out
   rw[List.take_of_length_le (Nat.le_refl _)] at e1
   have HP2:Hd (cs=pre++fs.flatMap docH):=e1
   have HB4:Hd (Bo wr B u5 cs):=hb
   clear hb e1 HCS HB3 HF3
   go_wp2_with fail
   clear q1
   obtain⟨n,hn⟩:∃ n,n=fs.length:=⟨_,rfl⟩
   have HN:Hd (n=fs.length):=hn
   rw[← hn] at hcl hnf
   have hpl:cs.length≤400000:=by omega
   rw[← hn] at HX ⊢
   clear hn hk hlt
   obtain⟨pr,hpr⟩:∃ pr,pr=cs:=⟨_,rfl⟩
   rw[← hpr] at HP2 HB4 hpl
   go_loopw [5,8] (fun u i wq=>∃ (k:Nat) (cs:List UInt8),k≤n∧i = .int .i64 k∧Bo wq B u cs∧Hd (cs=pr++(fs.take k).flatMap docC)∧cs.length≤400000+3149824*k∧Hd (Fb B w1 wq)) (fun _ i _=>match i with | .int _ q=>n-q.toNat | _=>0)
   case atStart=>exact⟨0,pr,Nat.zero_le _,rfl,HB4.out,by unfold Hd;simp,by omega,HFR.out⟩
   case round =>
    obtain⟨k,ds,hk,rfl,hb,HDS,hdl,HFQ⟩:=hrel
    have q1:wr.cell? ⟨B,1,none⟩=some (.slice fa n fc):=by rw[cell_of (HX.out wr HFQ.out)];rfl
    by_cases hlt:k<n
    rotate_left
    ·have hkn:k=n:=by omega
     subst hkn
     have HBB:Hd (Bo wr B u5 ds):=hb
     have HE:Hd (ds=docAll G fs):=by
      unfold Hd docAll
      rw[HDS.out,HN.out,List.take_of_length_le (Nat.le_refl _),HP2.out,HPRE.out]
     clear hb
     go_wp2_with fail
     go_ret2
     refine⟨HBW.out wr HFQ.out,fun _=>⟨_,rfl,?_⟩,fun e=>absurd rfl e⟩
     rw[← HE.out,← HBw.out]
     exact HBB.out
    obtain⟨aa,cc,e0,hcells⟩:=HFA.out
    cases e0
    have hlf:k<fs.length:=by rw[← HN.out];exact hlt
    obtain⟨g,o,rfl,hg,hcs⟩:=hcells (by intro e;simp[e] at hlf)
    obtain⟨cv,c0,c1,c2,c3,hca⟩:=hcs k hlf
    obtain⟨xa,xc,rfl,hcc⟩:=id hca
    have HG3:Hd (∀ wx,Fb B w1 wx→wx.cell? ⟨g,o+k*4+3,none⟩=some (.slice xa fs[k].code.length xc)):=fun wx f=>((HBW.out wx f).cell hg (fun h=>h)).trans c3
    have HTK:Hd (pr++(fs.take (k+1)).flatMap docC=pr++(fs.take k).flatMap docC++fs[k].code.flatMap docI):=by
     unfold Hd
     rw[List.take_add_one,List.flatMap_append,← List.append_assoc]
     simp[List.getElem?_eq_getElem hlf]
     rfl
    obtain⟨hcl4,hcin⟩:=HCODE.out fs[k] (List.getElem_mem hlf)
    have HCI:Hd _:=hcin
    have HCC:Hd _:=hcc
    generalize fs[k]=f at *
    have hkn:(0:Int)≤k∧(k:Int)<n:=by omega
    have HB5:Hd (Bo wr B u5 ds):=hb
    have g3:=HG3.out wr HFQ.out
    clear hcells hcs c0 c1 c2 c3 hca hcc hcin hb
    go_wp2_with fail
    clear q1 g3
    go_loopw [5,9] (fun u i wq=>∃ (j:Nat) (es:List UInt8),j≤f.code.length∧i = .int .i64 j∧Bo wq B u es∧Hd (es=pr++(fs.take k).flatMap docC++(f.code.take j).flatMap docI)∧es.length≤400000+3149824*k+769*j∧Hd (Fb B w1 wq)) (fun _ i _=>match i with | .int _ q=>f.code.length-q.toNat | _=>0)
    case atStart=>exact⟨0,ds,Nat.zero_le _,rfl,HB5.out,by unfold Hd;simpa using HDS.out,by omega,HFQ.out⟩
    case round =>
     obtain⟨j,es,hj,rfl,hb,HES,hel,HFP⟩:=hrel
     have q1:wr.cell? ⟨B,1,none⟩=some (.slice (some ⟨g,o,none⟩) n fc):=by rw[cell_of (HX.out wr HFP.out)];rfl
     have g3:=HG3.out wr HFP.out
     by_cases hjt:j<f.code.length
     ·obtain⟨g',o',rfl,hg',hci⟩:=HCC.out (by intro e;simp[e] at hjt)
      obtain⟨av,rv,d0,d1,d2,d3,d4,d5,d6,hav,hrv⟩:=hci j hjt
      have hcw:∀ o,wr.cell? ⟨g',o,none⟩=w.cell? ⟨g',o,none⟩:=fun o=>(HBW.out wr HFP.out).cell hg' (fun h=>h)
      have m0:=(hcw _).trans d0
      have m1:=(hcw _).trans d1
      have m2:=(hcw _).trans d2
      have m3:=(hcw _).trans d3
      have m4:=(hcw _).trans d4
      have m5:=(hcw _).trans d5
      have m6:=(hcw _).trans d6
      obtain⟨hl1,hl2⟩:=HCI.out f.code[j] (List.getElem_mem hjt)
      have hib:∀ {v:Value} {l:List Int},IA w v l→IB B wr v l:=fun {v l} h=>by
       obtain⟨a,c,e,h⟩:=h
       refine⟨a,c,e,fun hne=>?_⟩
       obtain⟨k,o,e,hk,hc⟩:=h hne
       exact⟨k,o,e,by rw[HBw.out];exact hk,Nat.lt_of_lt_of_le hk (HBW.out wr HFP.out).size,fun j hj=>((HBW.out wr HFP.out).cell hk (fun h=>h)).trans (hc j hj)⟩
      have hcall:=laid_any u5 es B f.code[j] av rv wr hb (hib hav) (hib hrv) hl1 hl2 (by omega)
      have HT:Hd (es++docI f.code[j]=pr++(fs.take k).flatMap docC++(f.code.take (j+1)).flatMap docI):=by
       unfold Hd
       rw[List.take_add_one,List.flatMap_append,← List.append_assoc,← HES.out]
       simp[List.getElem?_eq_getElem hjt]
      have hdi:=docI_len f.code[j] hl1 hl2
      generalize f.code[j]=c at *
      obtain⟨av1,av2,rfl,-⟩:=id hav
      obtain⟨rv1,rv2,rfl,-⟩:=id hrv
      have hjn:(0:Int)≤j∧(j:Int)<f.code.length:=by omega
      clear hci d0 d1 d2 d3 d4 d5 d6 hav hrv hcw hl1 hl2 hib hb HES
      go_wp2_with fail
      refine hcall.mono ?_
      rintro e w7 ⟨v7,rfl,hb7,hf7⟩
      clear hcall m0 m1 m2 m3 m4 m5 m6 q1 g3
      go_wp2_with fail
      exact⟨⟨j+1,_,by omega,by simp,hb7,HT.out,by rw[List.length_append];omega,HFP.out.trans hf7⟩,by simp;omega⟩
     ·have hjn:j=f.code.length:=by omega
      subst hjn
      have HBJ:Hd (Bo wr B u5 es):=hb
      have HT:Hd (es=pr++(fs.take (k+1)).flatMap docC):=by
       have:=HES.out
       rw[List.take_of_length_le (Nat.le_refl _)] at this
       unfold Hd
       rw[HTK.out]
       exact this
      clear hb HES
      go_wp2_with fail
      exact⟨⟨k+1,es,by omega,by simp,HBJ.out,HT.out,by omega,HFP.out⟩,by simp;omega⟩
end Go.Proofs.YtingenonbkencaaDoor
