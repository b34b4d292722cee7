import Derived.Test.YtingenonbkencaaDoorQE6J
set_option linter.unusedVariables false
set_option linter.unusedSimpArgs false
namespace Go.Proofs.YtingenonbkencaaDoor
open Go.RowKit (wrap32 wrap64)
set_option maxRecDepth 100000
set_option maxHeartbeats 8000000
theorem through_said (b:Nat)(rv:Value)(bs:List UInt8)(s:WS)(w:World)(h:On (reading b rv bs) w (s,()))(hU:Under b rv w.heap.size)(hfC:s.fC = .slice none 0 0)
 (hb0:∀ w1,Fr (fun k=>k=b) w w1→Calls Tryd.prog 60 #[.agg #[rv]] w1 fun e w'=>(if bs.take 6=magicL.take bs.length then e = .returned (.tuple #[]) else e = .panicked (viol 10 0))∧w'=(w1.alloc (.cells #[rv] 45)).drew) (ra:Option Addr) (rl rc:Nat) (hrv:rv = .slice ra rl rc) :
 Calls Tryd.prog 33 #[.pointer (some ⟨b,0,none⟩),.agg #[rv]] w (Thru b rv bs s w):=by
 have hN:=reading_own b rv bs
 have hb:=h.1.lt
 obtain⟨q0,hq0⟩:∃ q0,q0=w.heap.size:=⟨_,rfl⟩
 have hf0:Fr (fun k=>k=b) w ((w.alloc (.cells #[rv] 45)).alloc (.cells #[vI 0,.slice none 0 0] 26)):=Fr.alloc (Fr.alloc (Fr.refl _ w) _) _
 have hon0:On (reading b rv bs) ((w.alloc (.cells #[rv] 45)).alloc (.cells #[vI 0,.slice none 0 0] 26)) (s,()):=h.fr hf0 ((h.1.alloc _).alloc _) rfl rfl
 have hbg:=hb0 _ hf0
 clear hb0
 have HRV:Hd (rv = .slice ra rl rc):=hrv
 subst hrv
 go_enter Tryd.func33,Tryd.ntmps33
 go_wp2_with fail
 have hcr:((w.alloc (.cells #[.slice ra rl rc] 45)).alloc (.cells #[vI 0,.slice none 0 0] 26)).cell? ⟨w.heap.size,0,none⟩=some (.slice ra rl rc):=by simp
 have hsz0:((w.alloc (.cells #[.slice ra rl rc] 45)).alloc (.cells #[vI 0,.slice none 0 0] 26)).heap.size=w.heap.size+2:=by simp
 have hcz:((w.alloc (.cells #[.slice ra rl rc] 45)).alloc (.cells #[vI 0,.slice none 0 0] 26)).heap[w.heap.size+1]?=some (.cells #[vI 0,.slice none 0 0] 26):=by
  have:=heap_alloc_last (w.alloc (.cells #[.slice ra rl rc] 45)) (.cells #[vI 0,.slice none 0 0] 26)
  simpa using this
 generalize ((w.alloc (.cells #[.slice ra rl rc] 45)).alloc (.cells #[vI 0,.slice none 0 0] 26))=w0 at *
 refine hbg.mono ?_
 rintro e w1 ⟨he,rfl⟩
 clear hbg
 by_cases hmg:bs.take 6=magicL.take bs.length
 rotate_left
 ·rw[if_neg hmg] at he
  subst he
  have HMG:Hd (¬ bs.take 6=magicL.take bs.length):=hmg
  clear hmg
  go_wp2_with fail
  exact⟨rfl,thru_begin HMG.out (hf0.trans (Fr.drew (Fr.alloc (Fr.refl _ w0) _)))⟩
 rw[if_pos hmg] at he
 subst he
 have HMG:Hd (bs.take 6=magicL.take bs.length):=hmg
 clear hmg
 have hf1:Fr (fun k=>k=b) w0 (w0.alloc (.cells #[.slice ra rl rc] 45)).drew:=(Fr.alloc (Fr.refl _ w0) _).drew
 have hon1:On (reading b (.slice ra rl rc) bs) (w0.alloc (.cells #[.slice ra rl rc] 45)).drew (s,()):=hon0.fr hf1 (hon0.1.alloc _).drew rfl rfl
 generalize (w0.alloc (.cells #[.slice ra rl rc] 45)).drew=w1 at hf1 hon1 ⊢
 go_wp2_with fail
 refine(askGlobals_any (reading b (.slice ra rl rc) bs) hN (s,()) w1 hon1).mono ?_
 rintro e w2 ⟨hf2,hr2⟩
 cases hx2:askX (reading b (.slice ra rl rc) bs) 146 1 (fun s=>decide (0≤s.globals∧s.globals≤16)) 18 (s,()) with
 | error z =>
   simp only[hx2] at hr2
   subst hr2
   go_wp2_with fail
   exact⟨rfl,thru_glob HMG.out hx2 ((hf0.trans hf1).trans (fr_sb hf2))⟩
 | ok y2 =>
 simp only[hx2] at hr2
 obtain⟨rfl,hon2⟩:=hr2
 go_wp2_with fail
 refine(askFunctions_any (reading b (.slice ra rl rc) bs) hN y2 w2 hon2).mono ?_
 rintro e w3 ⟨hf3,hr3⟩
 cases hx3:askX (reading b (.slice ra rl rc) bs) 161 2 (fun s=>decide (1≤s.count∧s.count≤65535)) 20 y2 with
 | error z =>
   simp only[hx3] at hr3
   subst hr3
   go_wp2_with fail
   exact⟨rfl,thru_funs HMG.out hx2 hx3 (((hf0.trans hf1).trans (fr_sb hf2)).trans (fr_sb hf3))⟩
 | ok y3 =>
 simp only[hx3] at hr3
 obtain⟨rfl,hon3⟩:=hr3
 have c146:w3.cell? ⟨b,146,none⟩=some (vI y3.1.globals):=hon3.1.facts.2.2.1
 have c161:w3.cell? ⟨b,161,none⟩=some (vI y3.1.count):=hon3.1.facts.2.2.2.2.2.2.2.2.2.2.2.2.2.2.2.2.2
 have hb3:=hon3.1.lt
 go_wp2_with fail
 have hcnt:1≤y3.1.count∧y3.1.count≤65535:=by
  unfold askX at hx3
  split at hx3
  ·split at hx3
   ·rename_i hc;cases hx3;simpa using hc
   ·cases hx3
  ·cases hx3
 obtain⟨n,hn⟩:=Int.eq_ofNat_of_zero_le (show 0≤y3.1.count by omega)
 rw[hn]
 have hn1:1≤n:=by omega
 have hn2:n≤65535:=by omega
 generalize hpv:w3.heap.size=pv
 have hpb:(w3.alloc (.cells #[vI y3.1.globals,.slice none 0 0] 26)).heap[pv]?=some (.cells #[vI y3.1.globals,.slice none 0 0] 26):=by rw[← hpv];exact heap_alloc_last _ _
 have hsl:(w3.alloc (.cells #[vI y3.1.globals,.slice none 0 0] 26)).heap.size=pv+1:=by rw[← hpv];simp
 have hfl:Fr (fun k=>k=b) w3 (w3.alloc (.cells #[vI y3.1.globals,.slice none 0 0] 26)):=Fr.alloc (Fr.refl _ w3) _
 have honl:On (reading b (.slice ra rl rc) bs) (w3.alloc (.cells #[vI y3.1.globals,.slice none 0 0] 26)) y3:=hon3.fr hfl (hon3.1.alloc _) rfl rfl
 change Code.wp _ _ _ _ (w3.alloc (.cells #[vI y3.1.globals,.slice none 0 0] 26))
 generalize (w3.alloc (.cells #[vI y3.1.globals,.slice none 0 0] 26))=wl at hpb hsl hfl honl ⊢
 have HCR:Hd (w0.cell? ⟨w.heap.size,0,none⟩=some (.slice ra rl rc)):=hcr
 have HN:Hd (y3.1.count=n):=hn
 have HX2:Hd (askX (reading b (.slice ra rl rc) bs) 146 1 (fun s=>decide (0≤s.globals∧s.globals≤16)) 18 (s,()) = .ok y2):=hx2
 have HX3:Hd (askX (reading b (.slice ra rl rc) bs) 161 2 (fun s=>decide (1≤s.count∧s.count≤65535)) 20 y2 = .ok y3):=hx3
 have HFC:Hd (s.fC = .slice none 0 0):=hfC
 have hU3:Under b (.slice ra rl rc) pv:=⟨by omega,by omega,fun k o n' c e hne=>by
  have:=hU.bytes k o n' c e hne;have:=hf0.size;have:=hf1.size;have:=hf2.size;have:=hf3.size;omega⟩
 have hfC3:Hd (y3.1.fC = .slice none 0 0):=by
  unfold Hd
  have e2:y2.1.fC=s.fC:=by
   unfold askX at hx2
   split at hx2
   ·split at hx2
    ·rename_i hy _;cases hx2;obtain⟨v,st,rfl⟩:=nextX_num hy;rfl
    ·cases hx2
   ·cases hx2
  have e3:y3.1.fC=y2.1.fC:=by
   unfold askX at hx3
   split at hx3
   ·split at hx3
    ·rename_i hy _;cases hx3;obtain⟨v,st,rfl⟩:=nextX_num hy;rfl
    ·cases hx3
   ·cases hx3
  rw[e3,e2,hfC]
 have HCZ:Hd (w0.heap[w.heap.size+1]?=some (.cells #[vI 0,.slice none 0 0] 26)):=hcz
 have hBase:Hd (Fr (fun k=>k=b) w wl):=((((hf0.trans hf1).trans (fr_sb hf2)).trans (fr_sb hf3)).trans hfl)
 have hwpv:Hd (w.heap.size+2≤pv):=by unfold Hd;have:=hf1.size;have:=hf2.size;have:=hf3.size;omega
 have hrl':Hd (rl=bs.length):=by
  unfold Hd
  exact reading_len honl.2.2
 clear hcr hn hx2 hx3 hfC c146 c161 hcnt hcz
 go_loopw [6,23] (fun lv i wr=>∃ (k:Nat) (done:List HD) (y:WS × Unit) (fv:Value),k≤n∧i = .int .i64 k∧done.length=k∧On (reading b (.slice ra rl rc) bs) wr y∧Hd (KeptH y3.1 y.1)∧Fr (fun j=>j=b∨j=pv) wl wr ∧
  Hd (wr.heap[pv]?=some (.cells #[vI y3.1.globals,fv] 26))∧wr.ownsRow (pv+1) 67 4 fv k (headCells done)∧wr.ownsRow (pv+1) 3 1 lv k (done.map (fun h=>vI h.len)) ∧
  Hd (headsX (reading b (.slice ra rl rc) bs) n y3=contH done (headsX (reading b (.slice ra rl rc) bs) (n-k) y))∧Hd (∀ h∈done,HeadFine h)) (fun _ i _=>match i with | .int _ q=>n-q.toNat | _=>0)
 case atStart=>exact⟨0,[],y3,.slice none 0 0,Nat.zero_le _,rfl,rfl,honl,KeptH.refl _,Fr.refl _ _,hpb,World.ownsRow_nil _ _ _ _,World.ownsRow_nil _ _ _ _,by unfold Hd;rw[contH_nil];rfl,by intro h hh;simp at hh⟩
 case round =>
  obtain⟨k,done,y,fv,hk,rfl,hdl,hony,hky,hfy,hpy,hrf,hrl,hvx,hfine⟩:=hrel
  by_cases hlt:k<n
  ·go_wp2_with fail
   refine(askHead_any (reading b (.slice ra rl rc) bs) hN y wr hony).mono ?_
   rintro e w4 ⟨hf4,hr4⟩
   cases hx4:headX (reading b (.slice ra rl rc) bs) y with
   | error z =>
     simp only[hx4] at hr4
     subst hr4
     have HX4:Hd (headX (reading b (.slice ra rl rc) bs) y = .error z):=hx4
     clear hx4
     go_wp2_with fail
     exact⟨rfl,thru_heads HMG.out HX2.out HX3.out HN.out (headsX_err hvx.out hlt HX4.out) (fr_close (pv:=pv) hBase.out (by have:=hwpv.out;omega) ((hfy.mono (fun j _ hj=>hj.imp id (fun e=>by omega))).trans ((fr_sb hf4).mono (fun j _ hj=>Or.inl hj))))⟩
   | ok y4 =>
   simp only[hx4] at hr4
   obtain⟨rfl,hon4⟩:=hr4
   have hok:=headX_ok hx4
   have hSB:∀ k,(reading b (.slice ra rl rc) bs).SB k→k=b:=fun k hk=>hk.elim id (fun h=>h.elim)
   have hf4':Fr (fun k=>k=b) wr w4:=hf4.mono (fun k _ hk=>hSB k hk)
   have hg4:wr.grownBy w4 (some b):=⟨hf4'.os,hf4'.tape,hf4'.output,hf4'.size,fun k hk hne=>hf4'.block k hk (fun e=>hne (by rw[e]))⟩
   have hbp:b<pv:=hU3.walk
   have hnb:∀ {e s:Nat} {v:Value} {q:Nat} {xs:List Value},wr.ownsRow (pv+1) e s v q xs→v.ownBlock=none∨v.ownBlock≠some b:=fun hr =>
    Or.inr (fun e=>by have:=(World.ownsRow.lt hr b e).1;omega)
   have hrf4:=hrf.kept hg4 (hnb hrf)
   have hrl4:=hrl.kept hg4 (hnb hrl)
   have hpv4:w4.heap[pv]?=some (.cells #[vI y3.1.globals,fv] 26):=by rw[hf4'.block pv ((Array.getElem?_eq_some_iff.1 hpy.out).1) (by omega)];exact hpy.out
   have d149:w4.cell? ⟨b,149,none⟩=some (vI y4.1.fP):=hon4.1.facts.2.2.2.2.2.1
   have d150:w4.cell? ⟨b,150,none⟩=some (vI y4.1.fR):=hon4.1.facts.2.2.2.2.2.2.1
   have d151:w4.cell? ⟨b,151,none⟩=some (vI y4.1.fV):=hon4.1.facts.2.2.2.2.2.2.2.1
   have d152:w4.cell? ⟨b,152,none⟩=some (.slice none 0 0):=by rw[hon4.1.facts.2.2.2.2.2.2.2.2.1,hok.1.fC,hky.out.fC,hfC3.out]
   have d153:w4.cell? ⟨b,153,none⟩=some (vI y4.1.len):=hon4.1.facts.2.2.2.2.2.2.2.2.2.1
   have dp1:w4.cell? ⟨pv,1,none⟩=some fv:=by unfold World.cell?;simp[hpv4]
   have dpz:∀ o,w4.frozen? ⟨pv,o,none⟩=false:=by intro o;unfold World.frozen?;simp[hpv4]
   have HX4:Hd (headX (reading b (.slice ra rl rc) bs) y = .ok y4):=hx4
   clear hx4 hony
   obtain⟨fa,fcap,hfv⟩:∃ a c,fv = .slice a k c:=by
    rcases hrf4.2 with⟨e1,e2⟩|⟨g,cap,cur,e1,-⟩
    ·exact⟨none,0,by rw[e1,e2]⟩
    ·exact⟨_,_,e1⟩
   subst hfv
   go_wp2_with fail
   go_cut [6,23] from 23 to 43 (fun lv i wc=>lv=u6∧i = .int .i64 k∧∃ fv',Hd (wc.heap[pv]?=some (.cells #[vI y3.1.globals,fv'] 26))∧wc.ownsRow (pv+1) 67 4 fv' (k+1) (headCells done++[vI y4.1.fP,vI y4.1.fR,vI y4.1.fV,.slice none 0 0])∧Fr (fun j=>j=pv∨(Value.slice fa k fcap).ownBlock=some j) w4 wc)
   case first =>
    have hown4:∀ X:Obj,(w4.alloc X).drew.ownsRow (pv+1) 67 4 (.slice fa k fcap) k (headCells done):=fun X=>(hrf4.alloc X).drew
    have hpvlt:pv<w4.heap.size:=(Array.getElem?_eq_some_iff.1 hpv4).1
    have hownb:∀ j,(Value.slice fa k fcap).ownBlock=some j→pv+1≤j:=fun j hj=>(World.ownsRow.lt hrf4 j hj).1
    have hbase4:pv+1≤w4.heap.size:=by omega
    have hkb:k+1≤maxLen:=by unfold maxLen;omega
    have hcells:∀ (j:Nat) (u:Value),[vI y4.1.fP,vI y4.1.fR,vI y4.1.fV,.slice none 0 0][j]?=some u→(w4.alloc (.cells #[vI y4.1.fP,vI y4.1.fR,vI y4.1.fV,.slice none 0 0] 67)).drew.cell? ((⟨w4.heap.size,0,none⟩:Addr).add j)=some u:=by
     intro j u hu
     have hadd:(⟨w4.heap.size,0,none⟩:Addr).add j=⟨w4.heap.size,j,none⟩:=by unfold Addr.add;split<;>simp_all
     rw[World.cell?_drew,hadd,World.cell?_alloc_new]
     simpa using hu
    go_region_law ((
     refine step_append_own rfl (.tmp 28) (.tmp 33) 24 rfl (pv+1) 67 (.agg #[vI 0,vI 0,vI 0,.slice none 0 0]) 4 48 Tryd.underlying24 (by kernel_rfl) rfl (by omega) (.slice fa k fcap) k (headCells done) (by simp[Act.eval,Act.put]) ?_ ⟨w4.heap.size,0,none⟩ 1 1 [vI y4.1.fP,vI y4.1.fR,vI y4.1.fV,.slice none 0 0] (by simp[Act.eval,Act.put]) rfl ?_ ?_ hkb ?_ ?_ ?_
     ·exact hown4 _
     ·exact hcells
     ·intro u hu;simp at hu;rcases hu with rfl | rfl | rfl | rfl<;>rfl
     ·omega
     ·simp;omega
     intro a' c' w5 hown5 hgrow5
     have hp5:w5.heap[pv]?=w4.heap[pv]?:=by
      rw[hgrow5.block pv (by simp;omega) (fun e=>by have:=hownb pv e.symm;omega)]
      exact RowKit.Below.heap_alloc w4 _ pv hpvlt
     have hpc5:w5.cell? ⟨pv,1,none⟩=some (.slice fa k fcap):=by rw[World.cell?_of_block (a:=⟨pv,1,none⟩) hp5];exact dp1
     have hpz5:w5.frozen? ⟨pv,1,none⟩=false:=by rw[World.frozen?_of_block (a:=⟨pv,1,none⟩) hp5];exact dpz 1))
    all_goals
     go_wp2_with fail
     go_meet
     case rel =>
      refine⟨rfl,rfl,.slice a' (k+1) c',?_,?_,?_⟩
      ·unfold Hd
       have:=hp5.trans hpv4
       unfold World.setCell
       simp only[Array.getElem?_modify]
       rw[if_pos trivial,this]
       rfl
      ·exact RowKit.ownsRow_setCell_below hown5 (by show pv<pv+1;omega) _
      ·refine Fr.setCell (Fr.trans (Fr.drew (Fr.alloc (Fr.refl _ w4) _)) ((grown_fr hgrow5).mono (fun j _ hj=>Or.inr hj))) _ _ (Or.inl (Or.inl rfl))
   case rest =>
    obtain⟨rfl,rfl,fv',hpc,hrfc,hfc⟩:=hcut
    have hownb:∀ j,(Value.slice fa k fcap).ownBlock=some j→pv+1≤j:=fun j hj=>(World.ownsRow.lt hrf4 j hj).1
    have hfcB:Fr (fun j=>pv≤j) w4 wc:=hfc.mono (fun j _ hj=>hj.elim (fun e=>by omega) (fun e=>by have:=hownb j e;omega))
    have honc:On (reading b (.slice ra rl rc) bs) wc y4:=On.under hU3 hon4 hfcB
    have hrlc:wc.ownsRow (pv+1) 3 1 u6 k (done.map (fun h=>vI h.len)):=ownsRow_fr hrl4 hfc (fun g hg hS=>hS.elim (fun e=>by have:=(World.ownsRow.lt hrl4 g hg).1;omega) (fun e=>(rows_apart hrl4 hrf4 (by omega)).elim (fun e'=>by rw[e'] at hg;cases hg) (fun e'=>e' (by rw[hg,e]))))
    have hlen153:wc.cell? ⟨b,153,none⟩=some (vI y4.1.len):=honc.1.facts.2.2.2.2.2.2.2.2.2.1
    have hbase:pv+1≤wc.heap.size:=by have:=(Array.getElem?_eq_some_iff.1 hpc.out).1;omega
    have hcell1:∀ (j:Nat) (u:Value),[vI y4.1.len][j]?=some u→(wc.alloc (.cells #[vI y4.1.len] 3)).cell? ((⟨wc.heap.size,0,none⟩:Addr).add j)=some u:=by
     intro j u hu
     have hadd:(⟨wc.heap.size,0,none⟩:Addr).add j=⟨wc.heap.size,j,none⟩:=by unfold Addr.add;split<;>simp_all
     rw[hadd,World.cell?_alloc_new]
     simpa using hu
    obtain⟨i3,hi3,hz3,hs3,hb3'⟩:=info_parts (P:=Tryd.prog) (e:=3) (z:=vI 0) (size:=1) (bytes:=8) (by kernel_rfl)
    have hkb:k+1≤maxLen:=by unfold maxLen;omega
    go_wp2_with ((at_builtin;refine wpList_append_own _ rfl (.tmp 36) (.tmp 41) 64 rfl (pv+1) 3 i3 (vI 0) 1 8 Tryd.underlying64 hi3 hz3 hs3 hb3' rfl (by omega) u6 k (done.map (fun h=>vI h.len)) rfl (hrlc.alloc _) ⟨wc.heap.size,0,none⟩ 1 1 [vI y4.1.len] rfl rfl hcell1 (by intro u hu;simp at hu;subst hu;rfl) hkb (by omega) (by simp;omega) ?_;intro v1 w6 hown6 hgrow6 hnil6))
    have hrlB:∀ j,u6.ownBlock=some j→pv+1≤j:=fun j hj=>(World.ownsRow.lt hrlc j hj).1
    have hf6:Fr (fun j=>pv+1≤j) wc w6:=Fr.trans (Fr.alloc (Fr.refl _ wc) _) ((grown_fr hgrow6).mono (fun j _ hj=>hrlB j hj))
    have hpvc:pv<wc.heap.size:=(Array.getElem?_eq_some_iff.1 hpc.out).1
    have hp6:w6.heap[pv]?=some (.cells #[vI y3.1.globals,fv'] 26):=by rw[hf6.block pv hpvc (by omega)];exact hpc.out
    have hon6:On (reading b (.slice ra rl rc) bs) w6 y4:=On.under hU3 honc (hf6.mono (fun j _ hj=>by omega))
    have hrf6:w6.ownsRow (pv+1) 67 4 fv' (k+1) (headCells (done++[hdOf y4.1])):=by
     have:=(hrfc.alloc (.cells #[vI y4.1.len] 3)).kept hgrow6 (rows_apart hrfc hrlc (by omega))
     simpa[headCells,hdOf] using this
    have hrl6:w6.ownsRow (pv+1) 3 1 v1 (k+1) ((done++[hdOf y4.1]).map (fun h=>vI h.len)):=by
     rw[List.map_append];exact hown6
    have hall:Fr (fun j=>j=b∨j=pv) wl w6:=by
     have h1:Fr (fun j=>j=b∨pv≤j) wl w6 :=
      (((hfy.mono (fun j _ hj=>hj.imp id (fun e=>by omega))).trans (hf4'.mono (fun j _ hj=>Or.inl hj))).trans (hfcB.mono (fun j _ hj=>Or.inr hj))).trans (hf6.mono (fun j _ hj=>Or.inr (by omega)))
     exact h1.mono (fun j hj hS=>hS.imp id (fun e=>by omega))
    have hvx6:Hd (headsX (reading b (.slice ra rl rc) bs) n y3=contH (done++[hdOf y4.1]) (headsX (reading b (.slice ra rl rc) bs) (n-(k+1)) y4)):=by
     unfold Hd
     rw[hvx.out,show n-k=(n-(k+1))+1 by omega]
     exact contH_cons _ _ done y y4 HX4.out
    have hfine6:Hd (∀ h∈done++[hdOf y4.1],HeadFine h):=by
     intro h hh
     rcases List.mem_append.1 hh with hh | hh
     ·exact hfine.out h hh
     ·rw[List.mem_singleton.1 hh];exact hok.2
    exact⟨⟨k+1,done++[hdOf y4.1],y4,fv',by omega,by simp,by simp[hdl],hon6,hky.out.trans hok.1,hall,hp6,hrf6,hrl6,hvx6,hfine6⟩,by simp;omega⟩
  ·have hkn:k=n:=by omega
   subst hkn
   have hvl:Hd (headsX (reading b (.slice ra rl rc) bs) k y3 = .ok (done,y)):=by
    unfold Hd;rw[hvx.out,Nat.sub_self];simp[headsX,contH]
   clear hvx
   obtain⟨fa,fcap,hfv⟩:∃ a c,fv = .slice a k c:=by
    rcases hrf.2 with⟨e1,e2⟩|⟨g,cap,cur,e1,-⟩
    ·exact⟨none,0,by rw[e1,e2]⟩
    ·exact⟨_,_,e1⟩
   subst hfv
   have dp1:wr.cell? ⟨pv,1,none⟩=some (.slice fa k fcap):=by unfold World.cell?;simp[hpy.out]
   have c147:wr.cell? ⟨b,147,none⟩=some y.1.funcs:=hony.1.facts.2.2.2.1
   have z147:=hony.1.frozen 147
   have hbp:¬ b=pv:=by have:=hU3.walk;omega
   have hbpl:=hU3.walk
   -- the two rows
   obtain⟨g,hfa,hgB,cur,hgblk,hcsz,hctk,hkc,hcm⟩:∃ g,fa=some ⟨g,0,none⟩∧pv+1≤g∧∃ cur,wr.heap[g]?=some (.cells cur 67 (0,0))∧cur.size=fcap*4∧cur.toList.take (k*4)=headCells done∧k≤fcap∧fcap≤maxLen:=by
    rcases hrf.2 with⟨e1,e2⟩|⟨g,cap,cur,e1,h1,h2,h3,h4,h5,h6⟩
    ·omega
    ·cases e1;exact⟨g,rfl,h1,cur,h2,h5,h6,h3,h4⟩
   subst hfa
   obtain⟨g2,cap2,hu6,hg2B,hlcell⟩:∃ g2 cap2,u6 = .slice (some ⟨g2,0,none⟩) k cap2∧pv+1≤g2∧∀ j,j<k→wr.cell? ⟨g2,j,none⟩=(done.map (fun h=>vI h.len))[j]?:=by
    rcases hrl.2 with⟨e1,e2⟩|⟨g,cap,cur,e1,h1,-⟩
    ·omega
    ·subst e1
     exact⟨g,cap,rfl,h1,fun j hj=>World.ownsRow.cellAt hrl j (by omega)⟩
   have hgg:g2≠g:=by
    have:=rows_apart hrl hrf (by omega)
    rw[hu6] at this
    simpa[Value.ownBlock] using this
   subst hu6
   have hg2lt:g2<wr.heap.size:=cell_lt (u:=_) (by rw[hlcell 0 (by omega)];exact List.getElem?_eq_getElem (by simp;omega))
   have hglt:g<wr.heap.size:=(Array.getElem?_eq_some_iff.1 hgblk).1
   have hpvlt:pv<wr.heap.size:=(Array.getElem?_eq_some_iff.1 hpy.out).1
   have hcur:cur=(funcCells done (List.replicate k nilS)++cur.toList.drop (k*4)).toArray:=by
    have e:funcCells done (List.replicate k nilS)=headCells done:=by rw[← hdl];exact funcCells_nil done
    rw[e,← hctk,List.take_append_drop]
   go_wp2_with fail
   have hff:Fr (fun j=>j=b) wr (wr.setCell ⟨b,147,none⟩ (.slice (some ⟨g,0,none⟩) k fcap)):=Fr.setCell (Fr.refl (fun j=>j=b) wr) _ _ (Or.inl rfl)
   have honf:On (reading b (.slice ra rl rc) bs) (wr.setCell ⟨b,147,none⟩ (.slice (some ⟨g,0,none⟩) k fcap)) ({ y.1 with funcs:=.slice (some ⟨g,0,none⟩) k fcap },y.2):=hony.fr hff (hony.1.setCell 147 _ (cells_funcs _ _)) rfl rfl
   generalize (wr.setCell ⟨b,147,none⟩ (.slice (some ⟨g,0,none⟩) k fcap))=wf at hff honf ⊢
   have hgf:wf.heap[g]?=some (.cells (funcCells done (List.replicate k nilS)++cur.toList.drop (k*4)).toArray 67):=by rw[hff.block g hglt (by omega),hgblk];exact congrArg (fun c=>some (Obj.cells c 67 (0,0))) hcur
   have hpf:wf.heap[pv]?=some (.cells #[vI y3.1.globals,.slice (some ⟨g,0,none⟩) k fcap] 26):=by rw[hff.block pv hpvlt (by omega)];exact hpy.out
   have hlf:∀ j,j<k→wf.cell? ⟨g2,j,none⟩=(done.map (fun h=>vI h.len))[j]?:=fun j hj=>(hff.cell hg2lt (by omega)).trans (hlcell j hj)
   have hg2f:g2<wf.heap.size:=Nat.lt_of_lt_of_le hg2lt hff.size
   have hHC:∀ h∈done,(0≤h.P∧h.P≤8)∧(0≤h.R∧h.R≤4):=fun h hh=>⟨(hfine.out h hh).2.1,(hfine.out h hh).2.2.1⟩
   obtain⟨yf,hy0⟩:∃ yf:WS × Unit,yf=({ y.1 with funcs:=.slice (some ⟨g,0,none⟩) k fcap },y.2):=⟨_,rfl⟩
   have honf':On (reading b (.slice ra rl rc) bs) wf yf:=by rw[hy0];exact honf
   have hyff:yf.1.funcs = .slice (some ⟨g,0,none⟩) (headsOf done).length fcap:=by rw[hy0];simp[headsOf,hdl]
   have HY0:Hd (yf=({ y.1 with funcs:=.slice (some ⟨g,0,none⟩) k fcap },y.2)):=hy0
   have hBf:Hd (Fr (fun k=>k=b) w wf):=fr_close (pv:=pv) hBase.out (by have:=hwpv.out;omega) ((hfy.mono (fun j _ hj=>hj.imp id (fun e=>by omega))).trans (hff.mono (fun j _ hj=>Or.inl hj)))
   clear honf
   generalize htl:cur.toList.drop (k*4)=tl at hgf
   have HCAP:Hd (k≤fcap∧fcap≤maxLen∧k*4+tl.length=fcap*4):=⟨hkc,hcm,by rw[← htl];simp;omega⟩
   clear hkc hcm
   clear htl hcur hgblk hctk hcsz c147 z147 dp1 hlcell hy0
   go_loopw [52] (fun i w7=>∃ (q:Nat) (fs:List (List AI)) (z:WS × Unit) (av rv:Value) (cs:List Value),q≤k∧i = .int .i64 q∧fs.length=q∧cs.length=k∧On (reading b (.slice ra rl rc) bs) w7 ({ z.1 with args:=av,rets:=rv },z.2)∧Hd (KeptF yf.1 z.1) ∧
    Fr (fun j=>j=b∨j=g) wf w7∧Hd (w7.heap[g]?=some (.cells (funcCells done cs++tl).toArray 67))∧Hd (∀ j,q≤j→j<k→cs[j]?=some nilS)∧Hd (CodesAt wf w7 fs cs) ∧
    Hd (funcsX (reading b (.slice ra rl rc) bs) (headsOf done) done yf=contF fs (funcsX (reading b (.slice ra rl rc) bs) (headsOf done) (done.drop q) z))) (fun i _=>match i with | .int _ q=>k-q.toNat | _=>0)
   case atStart =>
    have a1:Hd (∀ j,0≤j→j<k→(List.replicate k nilS)[j]?=some nilS):=fun j _ hj=>by rw[List.getElem?_replicate,if_pos hj]
    have a2:Hd (funcsX (reading b (.slice ra rl rc) bs) (headsOf done) done yf=contF [] (funcsX (reading b (.slice ra rl rc) bs) (headsOf done) (done.drop 0) yf)):=by unfold Hd;rw[contF_nil,List.drop_zero]
    have a3:On (reading b (.slice ra rl rc) bs) wf ({ yf.1 with args:=yf.1.args,rets:=yf.1.rets },yf.2):=honf'
    refine⟨0,[],yf,yf.1.args,yf.1.rets,List.replicate k nilS,?_,?_,?_,?_,?_,?_,?_,?_,?_,?_,?_⟩
    ·exact Nat.zero_le _
    ·rfl
    ·rfl
    ·exact List.length_replicate
    ·exact a3
    ·exact⟨rfl,rfl,rfl⟩
    ·exact Fr.refl _ _
    ·exact hgf
    ·exact a1
    ·exact trivial
    ·exact a2
   case round =>
    obtain⟨q,fs,z,av,rv,cs,hq,rfl,hfl',hcl,honz,hkz,hfz,hgz,hnil,hcds,hvz⟩:=hrel
    have hglt':g<wf.heap.size:=(Array.getElem?_eq_some_iff.1 hgf).1
    have hpvf:pv<wf.heap.size:=(Array.getElem?_eq_some_iff.1 hpf).1
    have hpz:wr.heap[pv]?=some (.cells #[vI y3.1.globals,.slice (some ⟨g,0,none⟩) k fcap] 26):=by rw[hfz.block pv hpvf (by omega)];exact hpf
    have dp1:wr.cell? ⟨pv,1,none⟩=some (.slice (some ⟨g,0,none⟩) k fcap):=by unfold World.cell?;simp[hpz]
    by_cases hlt2:q<k
    ·have hqd:q<done.length:=by omega
     have hat:=funcCells_at done cs q hqd (by omega)
     have hcll:∀ o,o<(funcCells done cs).length→wr.cell? ⟨g,o,none⟩=(funcCells done cs)[o]?:=by
      intro o ho
      unfold World.cell?
      simp only[hgz.out,Option.isSome_none,Bool.false_eq_true,if_false,List.getElem?_toArray]
      rw[List.getElem?_append_left ho]
     have hfcl:=funcCells_length done cs (by omega)
     have e0:wr.cell? ⟨g,q*4,none⟩=some (vI done[q].P):=by rw[hcll _ (by omega)];exact hat.1
     have e1:wr.cell? ⟨g,q*4+1,none⟩=some (vI done[q].R):=by rw[hcll _ (by omega)];exact hat.2.1
     have e2:wr.cell? ⟨g,q*4+2,none⟩=some (vI done[q].V):=by rw[hcll _ (by omega)];exact hat.2.2.1
     have e3:wr.cell? ⟨g,q*4+3,none⟩=some (.slice none 0 0):=by rw[hcll _ (by omega),hat.2.2.2];exact hnil.out q (Nat.le_refl _) hlt2
     have e4:wr.cell? ⟨g2,q,none⟩=some (vI done[q].len):=by rw[hfz.cell hg2f (by omega),hlf q hlt2];simp[hqd]
     have hfq:=hfine.out done[q] (List.getElem_mem hqd)
     have hdr:Hd (done.drop q=done[q]::done.drop (q+1)):=List.drop_eq_getElem_cons hqd
     generalize hdq:done[q]=D at e0 e1 e2 e4 hfq hdr
     obtain⟨hV,hP,hR,hL0,hL1⟩:=hfq
     obtain⟨RN,hRN⟩:=Int.eq_ofNat_of_zero_le hR.1
     obtain⟨LN,hLN⟩:=Int.eq_ofNat_of_zero_le (show 0≤D.len by omega)
     rw[hRN] at e1
     rw[hLN] at e4
     have hqb:0≤(q:Int)∧(q:Int)<k:=by omega
     have hgzf:∀ o,wr.frozen? ⟨g,o,none⟩=false:=by intro o;unfold World.frozen?;simp[hgz.out]
     have hgb:g≠b:=by omega
     have hwlt:pv<wr.heap.size:=Nat.lt_of_lt_of_le hpvf hfz.size
     have hUw:Under b (.slice ra rl rc) wr.heap.size:=⟨by omega,by omega,fun k' o' n' c' e hne=>by have:=hU3.bytes k' o' n' c' e hne;omega⟩
     have hHH:HeadsAt wr.drew g 0 (headsOf done):=headsAt_of (w:=wr.drew) hgz.out (by omega) hHC
     have hkk:k≤65535:=hn2
     obtain⟨X1,hX1⟩:∃ X1:WS × Unit,Hd (X1=({ ({ z.1 with args:=av,rets:=rv }:WS) with fP:=D.P,fR:=RN,fV:=D.V,fC:=.slice none 0 0,len:=LN },z.2)):=⟨_,rfl⟩
     have hrc:=readCode_any (reading b (.slice ra rl rc) bs) hN (reading_other b _ bs) (reading_fresh b _ bs) ({ z.1 with args:=av,rets:=rv },z.2) wr.drew honz.drew D.P D.V RN LN X1 hX1 (by omega) (by omega) (headsOf done) g 0 fcap (hkz.out.funcs.trans hyff) hHH hgb (fun h=>h) (show g<wr.heap.size from Nat.lt_of_lt_of_le hglt' hfz.size) (by simp[headsOf];omega) (fun _ _ h=>h)
      (fun g' st p w' hI w'' hfr hg'=>Under.I hUw hI (hfr.mono (fun j _ hj=>by rw[hj];exact hg')))
     cases hcx:codeX (reading b (.slice ra rl rc) bs) (headsOf done) RN LN LN X1 with
     | error er =>
       have hrc':Calls Tryd.prog 64 #[.pointer (some ⟨b,0,none⟩),.agg #[vI D.P,vI RN,vI D.V,.slice none 0 0],.int .i64 LN] wr.drew fun e w'=>e = .panicked (viol er.1 er.2)∧Fr (reading b (.slice ra rl rc) bs).SB wr.drew w':=by
        refine hrc.mono ?_
        rintro e w' ⟨h1,h2⟩
        rw[hcx] at h2
        exact⟨h2,h1⟩
       have hdie:Hd (∀ w8,Fr (reading b (.slice ra rl rc) bs).SB wr.drew w8→Thru b (.slice ra rl rc) bs s w (.panicked (viol er.1 er.2)) w8):=by
        intro w8 hf8
        have hz':=hvz.out
        rw[hdr.out] at hz'
        have hfe:=funcsX_err hz' (er:=er) (by
         rw[show D.R.toNat=RN by omega,show D.len.toNat=LN by omega,← hcx,hX1.out]
         exact codeX_blank _ _ _ _ _ _ (by omega) rfl rfl)
        rw[HY0.out] at hfe
        have h8:Fr (fun j=>j=b) wr w8:=⟨hf8.os,hf8.tape,hf8.output,hf8.size,(fr_sb hf8).block⟩
        exact thru_codes HMG.out HX2.out HX3.out HN.out hvl.out hfe (fr_close (pv:=pv) hBf.out (by have:=hwpv.out;omega) ((hfz.mono (fun j _ hj=>hj.imp id (fun e=>by omega))).trans (h8.mono (fun j _ hj=>Or.inl hj))))
       clear hrc hcx
       go_wp2_with fail
       try clear hBf
       try clear HY0
       try clear hBase
       try clear hwpv
       try clear hrl'
       try clear HMG
       try clear hvz
       try clear hcds
       try clear hnil
       try clear hgz
       try clear hfz
       try clear hkz
       try clear honz
       try clear hcl
       try clear hfl'
       try clear hq
       try clear hat
       try clear hcll
       try clear hfcl
       try clear hdr
       try clear hV
       try clear hP
       try clear hR
       try clear hL0
       try clear hL1
       try clear hRN
       try clear hLN
       try clear hdq
       try clear hgb
       try clear hwlt
       try clear hUw
       try clear hHH
       try clear hkk
       try clear hX1
       try clear X1
       try clear honf'
       try clear hyff
       try clear hHC
       try clear hg2f
       try clear hlf
       try clear hpf
       try clear hgf
       try clear hff
       try clear hpvlt
       try clear hglt
       try clear hg2lt
       try clear hgg
       try clear hg2B
       try clear hgB
       try clear hbpl
       try clear hbp
       try clear hvl
       try clear hfine
       try clear hrl
       try clear hrf
       try clear hpy
       try clear hfy
       try clear hky
       try clear hony
       try clear hfC3
       try clear hU3
       try clear honl
       try clear hfl
       try clear hsl
       try clear hpb
       try clear hpv
       try clear HFC
       try clear HX3
       try clear HX2
       try clear HN
       try clear HCR
       try clear HRV
       try clear hn1
       try clear hn2
       try clear hb3
       try clear hon3
       try clear hf3
       try clear hon2
       try clear hf2
       try clear hon1
       try clear hf1
       try clear hsz0
       try clear hon0
       try clear hf0
       try clear hN
       try clear hU
       try clear hq0
       try clear hb
       try clear h
       try clear hpz
       try clear hpvf
       try clear hglt'
       try clear hy0
       try clear hdl
       try clear hk
       try clear hlt
       try clear hcz
       try clear HCX
       try clear hpvw
       try clear hgw
       try clear hg2w
       go_region_dies
       all_goals
        refine hrc'.mono ?_
        rintro e w8 ⟨rfl,hf8⟩
        exact⟨rfl,hdie.out w8 hf8⟩
     | ok q8 =>
       obtain⟨l8,y8⟩:=q8
       have hrc':Calls Tryd.prog 64 #[.pointer (some ⟨b,0,none⟩),.agg #[vI D.P,vI RN,vI D.V,.slice none 0 0],.int .i64 LN] wr.drew fun e w'=>∃ gc,e = .returned (.slice (some ⟨gc,0,none⟩) LN LN)∧Fr (fun j=>j=b) wr.drew w'∧wr.heap.size≤gc∧∃ cs8 av8 rv8,w'.heap[gc]?=some (.cells cs8.toArray 71)∧CodeCells wr.drew w' l8 cs8∧On (reading b (.slice ra rl rc) bs) w' ({ y8.1 with args:=av8,rets:=rv8 },y8.2):=by
        refine hrc.mono ?_
        rintro e w' ⟨h1,h2⟩
        rw[hcx] at h2
        obtain⟨gc,cs8,av8,rv8,h3,h4,h5,h6,h7⟩:=h2
        exact⟨gc,h4,h1.mono (fun j _ hj=>hj.elim id (fun h=>h.elim)),h3,cs8,av8,rv8,h5,h6,h7⟩
       have HCX:Hd (codeX (reading b (.slice ra rl rc) bs) (headsOf done) RN LN LN X1 = .ok (l8,y8)):=hcx
       clear hrc hcx
       have hpvw:pv<wr.drew.heap.size:=hwlt
       have hgw:g<wr.drew.heap.size:=Nat.lt_of_lt_of_le hglt' hfz.size
       have hg2w:g2<wr.drew.heap.size:=Nat.lt_of_lt_of_le hg2f hfz.size
       have hfacts:pv<wr.drew.heap.size∧¬ pv=b∧g<wr.drew.heap.size∧¬ g=b:=⟨hpvw,by omega,hgw,by omega⟩
       have hqs:(q:Int)≤65535:=by omega
       have hgS:∀ k,wf.heap.size≤k→¬ k=g:=fun k' hk' e=>by omega
       have hclose:Hd (∀ (w8:World) (gc:Nat),Fr (fun j=>j=b) wr.drew w8→wr.heap.size≤gc →
        (∃ cs8 av8 rv8,w8.heap[gc]?=some (.cells cs8.toArray 71)∧CodeCells wr.drew w8 l8 cs8∧On (reading b (.slice ra rl rc) bs) w8 ({ y8.1 with args:=av8,rets:=rv8 },y8.2)) →
        ∃ (q':Nat) (fs:List (List AI)) (z:WS × Unit) (av rv:Value) (cs:List Value),q'≤k∧Value.int .i64 ((q:Int)+1) = .int .i64 q'∧fs.length=q'∧cs.length=k∧On (reading b (.slice ra rl rc) bs) (w8.setCell ⟨g,q*4+3,none⟩ (.slice (some ⟨gc,0,none⟩) LN LN)) ({ z.1 with args:=av,rets:=rv },z.2)∧Hd (KeptF yf.1 z.1) ∧
         Fr (fun j=>j=b∨j=g) wf (w8.setCell ⟨g,q*4+3,none⟩ (.slice (some ⟨gc,0,none⟩) LN LN))∧Hd ((w8.setCell ⟨g,q*4+3,none⟩ (.slice (some ⟨gc,0,none⟩) LN LN)).heap[g]?=some (.cells (funcCells done cs++tl).toArray 67))∧Hd (∀ j,q'≤j→j<k→cs[j]?=some nilS)∧Hd (CodesAt wf (w8.setCell ⟨g,q*4+3,none⟩ (.slice (some ⟨gc,0,none⟩) LN LN)) fs cs) ∧
         Hd (funcsX (reading b (.slice ra rl rc) bs) (headsOf done) done yf=contF fs (funcsX (reading b (.slice ra rl rc) bs) (headsOf done) (done.drop q') z))):=by
        intro w8 gc hf8 hgc ⟨cs8,av8,rv8,hb8,hcc8,hon8⟩
        have hl8:l8.length=LN:=codeX_length HCX.out
        have hfs:Fr (fun j=>j=g) w8 (w8.setCell ⟨g,q*4+3,none⟩ (.slice (some ⟨gc,0,none⟩) LN LN)):=Fr.setCell (Fr.refl (fun j=>j=g) w8) _ _ (Or.inl rfl)
        have hwfr:wf.heap.size≤wr.heap.size:=hfz.size
        have hg8:w8.heap[g]?=some (.cells (funcCells done cs++tl).toArray 67):=by rw[hf8.block g hgw (by omega)];exact hgz.out
        have hset:(w8.setCell ⟨g,q*4+3,none⟩ (.slice (some ⟨gc,0,none⟩) LN LN)).heap[g]?=some (.cells (funcCells done (cs.set q (.slice (some ⟨gc,0,none⟩) LN LN))++tl).toArray 67):=by
         unfold World.setCell
         simp only[Array.getElem?_modify]
         rw[if_pos trivial,hg8]
         simp only[Option.map_some,Option.isSome_none,Bool.false_eq_true,if_false,List.setIfInBounds_toArray]
         rw[funcCells_set done cs q _ tl hqd (by omega)]
        have hf8':Fr (fun j=>j=b) wr w8:=⟨hf8.os,hf8.tape,hf8.output,hf8.size,hf8.block⟩
        have hgcg:¬ gc=g:=hgS gc (by omega)
        have hf9:Fr (fun j=>j=b∨j=g) wr (w8.setCell ⟨g,q*4+3,none⟩ (.slice (some ⟨gc,0,none⟩) LN LN)):=(hf8'.mono (fun j _ hj=>Or.inl hj)).trans (hfs.mono (fun j _ hj=>Or.inr hj))
        have hcc9:CodeCells wr (w8.setCell ⟨g,q*4+3,none⟩ (.slice (some ⟨gc,0,none⟩) LN LN)) l8 cs8:=(CodeCells.mono (w0:=wr) (w1:=wr.drew) (Nat.le_refl _) hcc8).fr hfs (fun j hj _=>hgS j (Nat.le_trans hwfr hj))
        have hsn:=CodesAt.snoc hf9 l8 (.slice (some ⟨gc,0,none⟩) LN LN) ⟨gc,cs8,hgc,by rw[hl8],by rw[RowKit.Below.heap_setCell _ _ _ _ (show gc≠g from hgcg)];exact hb8,hcc9⟩ (fun j hj hj2 e=>e.elim (fun e=>by omega) (hgS j hj)) hwfr (by omega:fs.length<cs.length) hcds.out
        rw[hfl'] at hsn
        have hk8:=codeX_kept HCX.out
        rw[hX1.out] at hk8
        refine⟨q+1,fs++[l8],y8,av8,rv8,cs.set q (.slice (some ⟨gc,0,none⟩) LN LN),by omega,by simp,by simp[hfl'],by simp[hcl],?_,?_,?_,hset,?_,hsn,?_⟩
        ·exact On.under (B:=pv+1) ⟨by omega,by omega,fun k' o' n' c' e hne=>by have:=hU3.bytes k' o' n' c' e hne;omega⟩ hon8 (hfs.mono (fun j _ hj=>by rw[hj];omega))
        ·exact⟨hk8.num.trans hkz.out.num,hk8.globals.trans hkz.out.globals,hk8.funcs.trans hkz.out.funcs⟩
        ·exact(hfz.trans (hf8'.mono (fun j _ hj=>Or.inl hj))).trans (hfs.mono (fun j _ hj=>Or.inr hj))
        ·intro j h1 h2
         rw[List.getElem?_set,if_neg (by omega)]
         exact hnil.out j (by omega) h2
        ·unfold Hd
         rw[hvz.out,hdr.out]
         refine contF_cons _ _ fs D _ z y8 l8 ?_
         rw[show D.R.toNat=RN by omega,show D.len.toNat=LN by omega]
         have:=HCX.out
         rw[hX1.out] at this
         rw[← this]
         exact codeX_blank _ _ _ _ _ _ (by omega) rfl rfl
       go_wp2_with fail
       try clear hvz
       try clear hcds
       try clear hnil
       try clear hgz
       try clear hfz
       try clear hkz
       try clear honz
       try clear hcl
       try clear hfl'
       try clear hq
       try clear hat
       try clear hcll
       try clear hfcl
       try clear hdr
       try clear hV
       try clear hP
       try clear hR
       try clear hL0
       try clear hL1
       try clear hRN
       try clear hLN
       try clear hdq
       try clear hgb
       try clear hwlt
       try clear hUw
       try clear hHH
       try clear hkk
       try clear hX1
       try clear X1
       try clear honf'
       try clear hyff
       try clear hHC
       try clear hg2f
       try clear hlf
       try clear hpf
       try clear hgf
       try clear hff
       try clear hpvlt
       try clear hglt
       try clear hg2lt
       try clear hgg
       try clear hg2B
       try clear hgB
       try clear hbpl
       try clear hbp
       try clear hvl
       try clear hfine
       try clear hrl
       try clear hrf
       try clear hpy
       try clear hfy
       try clear hky
       try clear hony
       try clear hfC3
       try clear hU3
       try clear honl
       try clear hfl
       try clear hsl
       try clear hpb
       try clear hpv
       try clear HFC
       try clear HX3
       try clear HX2
       try clear HN
       try clear HCR
       try clear HRV
       try clear hn1
       try clear hn2
       try clear hb3
       try clear hon3
       try clear hf3
       try clear hon2
       try clear hf2
       try clear hon1
       try clear hf1
       try clear hsz0
       try clear hon0
       try clear hf0
       try clear hN
       try clear hU
       try clear hq0
       try clear hb
       try clear h
       try clear hpz
       try clear hpvf
       try clear hglt'
       try clear hy0
       try clear hk
       try clear hlt
       try clear hcz
       try clear HCX
       try clear hpvw
       try clear hgw
       try clear hg2w
       try clear hBf
       try clear HY0
       try clear hBase
       try clear hwpv
       try clear hrl'
       try clear HMG
       go_region_with ((
        go_at_call 64
        refine hrc'.mono ?_
        rintro e w8 ⟨gc,rfl,hf8,hgc,hrest8⟩
        have kp:w8.cell? ⟨pv,1,none⟩=some (.slice (some ⟨g,0,none⟩) k fcap):=(hf8.cell hfacts.1 hfacts.2.1).trans dp1
        have k4:w8.cell? ⟨g,q*4+3,none⟩=some (.slice none 0 0):=(hf8.cell hfacts.2.2.1 hfacts.2.2.2).trans e3
        have kz:w8.frozen? ⟨g,q*4+3,none⟩=false:=(hf8.frozen hfacts.2.2.1 hfacts.2.2.2).trans (hgzf _)))
       all_goals
        go_wp2_with fail
        exact⟨hclose.out w8 gc hf8 hgc hrest8,by simp;omega⟩
    ·have hqk:q=k:=by omega
     subst hqk
     have hvl2:Hd (funcsX (reading b (.slice ra rl rc) bs) (headsOf done) done yf = .ok (fs,z)):=by
      unfold Hd;rw[hvz.out,List.drop_of_length_le (by omega)];simp[funcsX,contF]
     clear hvz
     have hc1:wr.cell? ⟨b,1,none⟩=some (vI z.1.at'):=honz.1.facts.2.1
     have hSBb:∀ k,(reading b (.slice ra rl rc) bs).SB k→k=b:=fun k hk=>hk.elim id (fun h=>h.elim)
     have hfall:Fr (fun j=>j=b∨pv≤j) w0 wr:=by
      have h01:Fr (fun j=>j=b) w0 w3:=(hf1.trans (hf2.mono (fun k _ hk=>hSBb k hk))).trans (hf3.mono (fun k _ hk=>hSBb k hk))
      have hx:=(((h01.trans hfl).mono (T:=fun j=>j=b∨pv≤j) (fun j _ hj=>Or.inl hj)).trans (hfy.mono (fun j _ hj=>hj.imp id (fun e=>by omega)))).trans (hff.mono (fun j _ hj=>Or.inl hj))
      exact hx.trans (hfz.mono (fun j _ hj=>hj.imp id (fun e=>by omega)))
     have hw0pv:w.heap.size+2≤pv:=by have:=hf1.size;have:=hf2.size;have:=hf3.size;omega
     have hcr:wr.cell? ⟨w.heap.size,0,none⟩=some (.slice ra rl rc):=by rw[hfall.cell (by omega) (by omega)];exact HCR.out
     have hcz:wr.heap[w.heap.size+1]?=some (.cells #[vI 0,.slice none 0 0] 26):=by rw[hfall.block _ (by omega) (by omega)];exact HCZ.out
     have z0:wr.cell? ⟨w.heap.size+1,0,none⟩=some (vI 0):=by unfold World.cell?;simp[hcz]
     have z1:wr.cell? ⟨w.heap.size+1,1,none⟩=some (.slice none 0 0):=by unfold World.cell?;simp[hcz]
     have zz:∀ o,wr.frozen? ⟨w.heap.size+1,o,none⟩=false:=by intro o;unfold World.frozen?;simp[hcz]
     have p0:wr.cell? ⟨pv,0,none⟩=some (vI y3.1.globals):=by unfold World.cell?;simp[hpz]
     have hgw0:w.heap.size≤g:=by have:=hwpv.out;omega
     have hlaid:∀ w9:World,Fr (fun j=>w.heap.size≤j∧j<w.heap.size+2) wr w9→LaidP w w9 (.agg #[vI y3.1.globals,.slice (some ⟨g,0,none⟩) q fcap]) y3.1.globals done fs:=by
      intro w9 h9
      have hg9:w9.heap[g]?=some (.cells (funcCells done cs++tl).toArray 67):=by rw[h9.block g (Nat.lt_of_lt_of_le hglt' hfz.size) (by have:=hwpv.out;omega)];exact hgz.out
      have hwwf:w.heap.size≤wf.heap.size:=hBf.out.size
      have hc9:CodesAt w w9 fs cs:=CodesAt.mono hwwf (hcds.out.fr h9 (fun j hj _=>by have:=hwpv.out;omega))
      exact⟨g,fcap,cs,tl,hgw0,by rw[hdl],by omega,by omega,by omega,by omega,hg9,hc9,hfine.out,by have:=HCAP.out.1;omega,HCAP.out.2.1,by have:=HCAP.out.2.2;omega⟩
     have hYX:funcsX (reading b (.slice ra rl rc) bs) (headsOf done) done ({ y.1 with funcs:=.slice (some ⟨g,0,none⟩) q fcap },y.2) = .ok (fs,z):=by
      have:=hvl2.out
      rw[HY0.out] at this
      exact this
     have hfw9:∀ w9:World,Fr (fun j=>w.heap.size≤j∧j<w.heap.size+2) wr w9→Fr (fun k=>k=b) w w9:=by
      intro w9 h9
      have h1:Fr (fun k=>k=b∨w.heap.size≤k) w w9:=((hBf.out.mono (fun j _ hj=>Or.inl hj)).trans (hfz.mono (fun j _ hj=>hj.imp id (fun e=>by omega)))).trans (h9.mono (fun j _ hj=>Or.inr hj.1))
      exact h1.mono (fun j hj hS=>hS.elim id (fun e=>by omega))
     have hfin:Hd (z.1.at'=(rl:Nat)→∀ w9:World,Fr (fun j=>w.heap.size≤j∧j<w.heap.size+2) wr w9→Thru b (.slice ra rl rc) bs s w (.returned (.agg #[vI y3.1.globals,.slice (some ⟨g,0,none⟩) q fcap])) w9) :=
      fun he w9 h9=>thru_ok HMG.out HX2.out HX3.out HN.out hvl.out hYX (by rw[he,hrl'.out]) (hfw9 w9 h9) (hlaid w9 h9)
     have hnot:Hd (¬ z.1.at'=(rl:Nat)→∀ w9:World,Fr (fun j=>w.heap.size≤j∧j<w.heap.size+2) wr w9→Thru b (.slice ra rl rc) bs s w (.panicked (viol 22 z.1.at')) w9) :=
      fun he w9 h9=>thru_trail HMG.out HX2.out HX3.out HN.out hvl.out hYX (by rw[← hrl'.out];exact he) (hfw9 w9 h9)
     clear hlaid hYX hfw9
     by_cases hend:z.1.at'=(rl:Nat)
     ·have hendB:(z.1.at'==((rl:Nat):Int))=true:=by simpa using hend
      have hgo:=hfin.out hend
      have HGO:Hd (∀ w9:World,Fr (fun j=>w.heap.size≤j∧j<w.heap.size+2) wr w9→Thru b (.slice ra rl rc) bs s w (.returned (.agg #[vI y3.1.globals,.slice (some ⟨g,0,none⟩) q fcap])) w9):=hgo
      clear hend hgo hfin hnot
      try clear hBf
      try clear HY0
      try clear hBase
      try clear hwpv
      try clear hrl'
      try clear HMG
      try clear hgw0
      try clear hcds
      try clear hnil
      try clear hgz
      try clear hfz
      try clear hkz
      try clear honz
      try clear hcl
      try clear hfl'
      try clear hq
      try clear honf'
      try clear hyff
      try clear hHC
      try clear hg2f
      try clear hlf
      try clear hpf
      try clear hgf
      try clear hff
      try clear hpvlt
      try clear hglt
      try clear hg2lt
      try clear hgg
      try clear hg2B
      try clear hgB
      try clear hbpl
      try clear hbp
      try clear hvl
      try clear hfine
      try clear hrl
      try clear hrf
      try clear hpy
      try clear hfy
      try clear hky
      try clear hony
      try clear hfC3
      try clear hU3
      try clear honl
      try clear hfl
      try clear hsl
      try clear hpb
      try clear hpv
      try clear HFC
      try clear HX3
      try clear HX2
      try clear HN
      try clear HCR
      try clear HRV
      try clear HCZ
      try clear hn1
      try clear hn2
      try clear hb3
      try clear hon3
      try clear hf3
      try clear hon2
      try clear hf2
      try clear hon1
      try clear hf1
      try clear hsz0
      try clear hon0
      try clear hf0
      try clear hN
      try clear hU
      try clear hq0
      try clear hb
      try clear h
      try clear hpvf
      try clear hglt'
      try clear hy0
      try clear hdl
      try clear hk
      try clear hlt
      try clear hlt2
      try clear hSBb
      try clear hfall
      try clear hcz
      try clear hvl2
      go_wp2_with fail
      refine wp_region_still_tail 12 mixed (by kernel_rfl) ?_
      simp only[List.take_succ_cons,List.take_zero,List.drop_succ_cons,List.drop_zero]
      repeat still_step
      refine wpStill_nil ?_
      go_wp2_with fail
      refine(must_true 22 z.1.at' _).mono ?_
      rintro e w9 ⟨rfl,rfl⟩
      go_wp2_with fail
      refine⟨rfl,.agg #[vI y3.1.globals,.slice (some ⟨g,0,none⟩) q fcap],?_,HGO.out _ (by
       repeat first
        | exact Fr.refl _ _
        | refine Fr.drew ?_
        | refine Fr.alloc ?_ _
        | refine Fr.setCell ?_ _ _ (Or.inl ⟨by simp,by simp⟩))⟩
      rw[results_cell (p:=4) (ty:=26) Tryd.results33]
      simp[go_sem,z0,z1]
     ·have hendB:(z.1.at'==((rl:Nat):Int))=false:=by simpa using hend
      have hgo:=hnot.out hend
      have HGO:Hd (∀ w9:World,Fr (fun j=>w.heap.size≤j∧j<w.heap.size+2) wr w9→Thru b (.slice ra rl rc) bs s w (.panicked (viol 22 z.1.at')) w9):=hgo
      clear hend hgo hfin hnot
      try clear hBf
      try clear HY0
      try clear hBase
      try clear hwpv
      try clear hrl'
      try clear HMG
      try clear hgw0
      try clear hcds
      try clear hnil
      try clear hgz
      try clear hfz
      try clear hkz
      try clear honz
      try clear hcl
      try clear hfl'
      try clear hq
      try clear honf'
      try clear hyff
      try clear hHC
      try clear hg2f
      try clear hlf
      try clear hpf
      try clear hgf
      try clear hff
      try clear hpvlt
      try clear hglt
      try clear hg2lt
      try clear hgg
      try clear hg2B
      try clear hgB
      try clear hbpl
      try clear hbp
      try clear hvl
      try clear hfine
      try clear hrl
      try clear hrf
      try clear hpy
      try clear hfy
      try clear hky
      try clear hony
      try clear hfC3
      try clear hU3
      try clear honl
      try clear hfl
      try clear hsl
      try clear hpb
      try clear hpv
      try clear HFC
      try clear HX3
      try clear HX2
      try clear HN
      try clear HCR
      try clear HRV
      try clear HCZ
      try clear hn1
      try clear hn2
      try clear hb3
      try clear hon3
      try clear hf3
      try clear hon2
      try clear hf2
      try clear hon1
      try clear hf1
      try clear hsz0
      try clear hon0
      try clear hf0
      try clear hN
      try clear hU
      try clear hq0
      try clear hb
      try clear h
      try clear hpvf
      try clear hglt'
      try clear hy0
      try clear hdl
      try clear hk
      try clear hlt
      try clear hlt2
      try clear hSBb
      try clear hfall
      try clear hcz
      try clear hvl2
      go_wp2_with fail
      refine wp_region_still_tail 12 mixed (by kernel_rfl) ?_
      simp only[List.take_succ_cons,List.take_zero,List.drop_succ_cons,List.drop_zero]
      repeat still_step
      refine wpStill_nil ?_
      go_wp2_with fail
      refine(must_false 22 z.1.at' _).mono ?_
      rintro e w9 ⟨rfl,rfl⟩
      go_wp2_with fail
      exact⟨rfl,HGO.out _ (by
       repeat first
        | exact Fr.refl _ _
        | refine Fr.drew ?_
        | refine Fr.alloc ?_ _
        | refine Fr.setCell ?_ _ _ (Or.inl ⟨by simp,by simp⟩))⟩
end Go.Proofs.YtingenonbkencaaDoor
