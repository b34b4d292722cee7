import Derived.Test.YtdkijecnnmncnaaGreatDoorQThJ
set_option linter.unusedVariables false
set_option linter.unusedSimpArgs false
namespace Go.Proofs.YtdkijecnnmncnaaGreatDoor.Wg
open Go.RowKit (wrap32 wrap64)
set_option maxRecDepth 100000
set_option maxHeartbeats 4000000
def RFrom (w:World)(m:Nat)(es:List Ed)(rs:List Int)(e:Ending)(w':World):Prop :=
 Fr (fun _=>False) w w'∧∃ g cap x,e = .returned (.tuple #[.slice (some ⟨g,0,none⟩) m cap,vI 0])∧m≤cap∧w.heap.size≤g∧IntsAt w'.heap.size w' (.slice (some ⟨g,0,none⟩) m cap) ((List.range m).map x)∧Least m es rs x
theorem rfrom_pos (m:Nat)(hm0:0<m)(ev rv:Value)(es:List Ed)(rs:List Int)(w:World)(hE:EdgesAt w.heap.size w ev es)(hR:IntsAt w.heap.size w rv rs)(hel:es.length≤11000000000000)(hrl:rs.length≤100000000000000)(hG:RightG m es rs) :
 Calls Tryz.prog 99 #[.int .i64 m,ev,rv] w (RFrom w m es rs):=by
 have HE:Hd (EdgesAt w.heap.size w ev es):=hE
 have HRI:Hd (IntsAt w.heap.size w rv rs):=hR
 obtain⟨ea,ec,rfl,-,hein⟩:=hE
 obtain⟨ra,rc,rfl,-,hrin⟩:=hR
 have HRS:Hd _:=hrin
 have HES:Hd _:=hein
 clear hrin hein
 have hm:m≤1048576:=by have:=hG.1.2;omega
 have HG:Hd (RightG m es rs):=hG
 clear hG
 obtain⟨i3,hi3,hz3,hs3,hb3⟩:=info_parts (P:=Tryz.prog) (e:=3) (z:=.int .i64 0) (size:=1) (bytes:=8) (by kernel_rfl)
 go_enter Tryz.func99,Tryz.ntmps99
 go_wp2_with fail
 refine(rright_any m _ _ es rs w HE.out HRI.out (by omega) hrl).mono ?_
 rintro e w1 ⟨rfl,hF1⟩
 rw[decide_eq_true HG.out]
 have HF1:Hd (Fr (fun _=>False) w w1):=hF1
 clear hF1
 go_wp2_with fail
 go_loopw [9,10] (fun xv iv wr=>∃ (k:Nat) (zs:List Int),iv = .int .i64 k∧k≤m∧Hd (zs.length=k∧∀ z∈zs,z=9)∧Hd (OwnI wr w.heap.size xv zs)∧Hd (Fr (fun _=>False) w wr)) (fun _ v _=>match v with | .int _ q=>m-q.toNat | _=>0)
 case atStart=>exact⟨0,[],rfl,Nat.zero_le _,⟨rfl,fun z h=>absurd h List.not_mem_nil⟩,OwnI.nil _ _,HF1.out⟩
 case round =>
  obtain⟨k,zs,rfl,hk,HZ,HO,HF⟩:=hrel
  clear HF1
  by_cases hlt:k<m
  ·have hzl:zs.length+1≤1048576:=by have:=HZ.out.1;omega
   have hk1:(k:Int)<m:=by omega
   have HO1:Hd ((wr.alloc (.cells #[vI 9] 3)).ownsRow w.heap.size 3 1 u9 zs.length (zs.map vI)):=World.ownsRow.alloc HO.out _
   have hnews:∀ j u,[vI 9][j]?=some u→(wr.alloc (.cells #[vI 9] 3)).cell? ((⟨wr.heap.size,0,none⟩:Addr).add j)=some u :=
    World.news_of_block (cs:=#[vI 9]) (heap_alloc_last wr (.cells #[vI 9] 3))
   have HFA:Hd (Fr (fun _=>False) w (wr.alloc (.cells #[vI 9] 3))):=HF.out.trans ((Fr.refl _ wr).alloc _)
   have hbase:w.heap.size≤(wr.alloc (.cells #[vI 9] 3)).heap.size:=HFA.out.size
   go_wp2_with ((at_builtin;refine Hd.out ?_))
   unfold Hd
   refine wpList_append_lies _ rfl (.tmp 26) (.tmp 27) 30 rfl w.heap.size 3 i3 (.int .i64 0) 1 8 under22 hi3 hz3 hs3 hb3 rfl (by omega) u9 zs.length _ rfl HO1.out ⟨wr.heap.size,0,none⟩ 1 1 [vI 9] rfl rfl hnews (by intro u hu;simp at hu;subst hu;rfl) (by omega) (by unfold maxLen;omega) (by omega) hbase (wr.heap.size+1) (by simp) ?_
   intro g6 cap6 w9 hown6 hgrow6 hat6 hlt6
   have HO6:Hd (OwnI w9 w.heap.size (.slice (some ⟨g6,0,none⟩) (zs.length+1) cap6) (zs++[9])):=OwnI.of hown6
   have HF6:Hd (Fr (fun _=>False) w w9):=grow_fr0 HFA.out hgrow6 (fun k e=>(HO.out.ge k e).1)
   have HZ6:Hd ((zs++[9]).length=k+1∧∀ z∈zs++[9],z=9):=by
    obtain⟨p1,p2⟩:=HZ.out
    refine⟨by simp[p1],fun z hz=>?_⟩
    rcases List.mem_append.1 hz with h | h
    ·exact p2 z h
    ·simpa using h
   clear hown6 hgrow6 hat6 hlt6 HO HFA HO1 hnews hbase HF HZ
   go_wp2_with fail
   refine⟨⟨k+1,_,by simp,by omega,HZ6.out,HO6.out,HF6.out⟩,by simp;omega⟩
  ·have hkm:k=m:=by omega
   obtain⟨g,cap,hxv,hcap,HX⟩:∃ g cap,u9 = .slice (some ⟨g,0,none⟩) m cap∧m≤cap∧Hd (Xs w wr g m (fun _=>9)):=by
    have hzl:zs.length=m:=by have:=HZ.out.1;omega
    rcases HO.out.2 with⟨h2,h3⟩|⟨g,cap,cur,e,h3,h4,h5,h6,h7,h8⟩
    ·omega
    ·refine⟨g,cap,by rw[e,hzl],by omega,⟨⟨cur,h4,fun i hi=>?_⟩,(HO.out.ge g (by rw[e];rfl)).1,HF.out⟩⟩
     have:cur[i]?=(zs.map vI)[i]?:=by rw[← h8,List.getElem?_take,if_pos (by omega),Array.getElem?_toList]
     rw[this,List.getElem?_map,List.getElem?_eq_getElem (by omega)]
     rw[HZ.out.2 _ (List.getElem_mem _)]
     rfl
   subst hxv
   clear HZ HO HF hk hkm
   go_wp2_with fail
   go_loopw [11] (fun v wr=>∃ (k:Nat) (L:Nat→Int) (l:List Nat),v = .int .i64 k∧k≤rs.length∧Hd (Xs w wr g m L)∧Hd (Ini m es rs k L l)) (fun v _=>match v with | .int _ q=>rs.length-q.toNat | _=>0)
   case atStart=>exact⟨0,_,_,rfl,Nat.zero_le _,HX.out,Ini.start m es rs⟩
   case round =>
    obtain⟨k,L,l,rfl,hk,HS,HI⟩:=hrel
    clear HX
    by_cases hlt:k<rs.length
    ·obtain⟨pk,po,rfl,hpk,hcs⟩:=HRS.out (by intro e;simp[e] at hlt)
     have p0:=(HS.out.fr.cell (o:=po+k) hpk (fun h=>h)).trans (hcs k hlt)
     have hr:=HG.out.2.2 _ (List.getElem_mem hlt)
     have HK:Hd (rs[k]?=some rs[k]):=List.getElem?_eq_getElem hlt
     obtain⟨r,hr'⟩:∃ r:Nat,rs[k]=r:=⟨rs[k].toNat,by omega⟩
     rw[hr'] at p0 hr HK
     clear hcs hr'
     have hr0:r<m:=by omega
     have z0:=HS.out.frozen r
     have c0:=HS.out.cell (i:=r) hr0
     have HSA:Hd _:=HS.out.set r 0
     have HI2:Hd _:=HI.out.step r hr0 HK.out
     have hk0:(0:Int)≤k:=by omega
     have hk1:(k:Int)<rs.length:=by omega
     have hrr0:(0:Int)≤r:=by omega
     have hrr1:(r:Int)<m:=by omega
     generalize L r=x at c0
     clear HS HI HK
     go_wp2_with fail
     refine⟨⟨k+1,_,_,by simp,by omega,HSA.out,HI2.out⟩,by simp;omega⟩
    ·have hke:k=rs.length:=by omega
     have HV:Hd (Wl m es rs L):=by have:=HI.out;rw[hke] at this;exact⟨this.done.way,this.done.root⟩
     clear HI
     subst hke
     go_wp2_with fail
     go_loopg [12] (mu m L []+1) (fun kk mv wr=>∃ (L:Nat→Int) (b:Bool),mv = .bool b∧Hd (Xs w wr g m L)∧Hd (Wl m es rs L)∧Hd (b=false→∀ e∈es,fineE L e)∧Hd (mu m L []+(if b then 1 else 0)≤kk))
     case atStart=>exact⟨L,true,rfl,HS.out,HV.out,(fun h=>by cases h),Nat.le_refl _⟩
     case round =>
      clear HS HV
      obtain⟨L,b,rfl,HS,HV,HC,HM⟩:=hrel
      cases b with
      | true =>
        have HM1:Hd (mu m L []+(if false then 1 else 0)<gk):=HM.out
        clear HC HM
        go_wp2_with fail
        go_loopw [12,13,14] (fun mv iv dv wr=>∃ (j:Nat) (L:Nat→Int) (b:Bool),mv = .bool b∧iv = .int .i64 j∧j≤es.length∧Hd (Xs w wr g m L)∧Hd (Wl m es rs L)∧Hd (b=false→∀ e∈es.take j,fineE L e)∧Hd (mu m L []+(if b then 1 else 0)<gk)) (fun _ v _ _=>match v with | .int _ q=>es.length-q.toNat | _=>0)
        case atStart=>exact⟨0,L,false,rfl,rfl,Nat.zero_le _,HS.out,HV.out,(fun _ e h=>absurd h (by simp)),HM1.out⟩
        case round =>
         clear HS HV HM1
         obtain⟨j,L,b,rfl,rfl,hj,HS,HV,HC,HM⟩:=hrel
         by_cases hlt:j<es.length
         ·obtain⟨pk,po,rfl,hpk,hcs⟩:=HES.out (by intro e;simp[e] at hlt)
          obtain⟨c0,c1,c2⟩:=hcs j hlt
          have HT:Hd (es.take (j+1)=es.take j++[es[j]]):=by
           unfold Hd;rw[List.take_add_one,List.getElem?_eq_getElem hlt];rfl
          have HMEM:Hd (es[j]∈es):=List.getElem_mem hlt
          obtain⟨aN,sN,heq,haN,hsN⟩:=edge_nat (HG.out.2.1 _ HMEM.out)
          obtain⟨kk,hkk⟩:∃ kk,es[j].2.2=kk:=⟨_,rfl⟩
          rw[hkk] at heq
          rw[heq] at c0 c1 c2 HT HMEM
          simp only at c0 c1 c2
          clear hcs heq hkk
          have p0:=(HS.out.fr.cell (o:=po+j*3) hpk (fun h=>h)).trans c0
          have p1:=(HS.out.fr.cell (o:=po+j*3+1) hpk (fun h=>h)).trans c1
          have p2:=(HS.out.fr.cell (o:=po+j*3+2) hpk (fun h=>h)).trans c2
          clear c0 c1 c2
          have HSD:Hd (Xs w wr.drew g m L):=HS.out.stay (Fr.drew (Fr.refl _ wr))
          have q1:wr.drew.cell? ⟨pk,po+j*3+1,none⟩=some (vI sN):=p1
          have x0:=HS.out.cell (i:=aN) haN
          have x1:=HSD.out.cell (i:=sN) hsN
          have z1:=HSD.out.frozen sN
          have hj0:(0:Int)≤j:=by omega
          have hj1:(j:Int)<es.length:=by omega
          have ha0:(0:Int)≤aN:=by omega
          have ha1:(aN:Int)<m:=by omega
          have hs0:(0:Int)≤sN:=by omega
          have hs1:(sN:Int)<m:=by omega
          have HFA:Hd (plusX (L aN) kk<L sN→Wl m es rs (upd L sN (plusX (L aN) kk))∧mu m (upd L sN (plusX (L aN) kk)) []+1<gk):=fun h =>
           ⟨HV.out.fall haN HMEM.out h,by have h1:=mu_fall0 hsN h (plusX_ge _ _);have h2:=HM.out;omega⟩
          have HNF:Hd (¬ plusX (L aN) kk<L sN→b=false→∀ e∈es.take (j+1),fineE L e):=fun h hb e he=>by
           rw[HT.out] at he
           rcases List.mem_append.1 he with h1 | h1
           ·exact HC.out hb e h1
           ·rw[List.mem_singleton.1 h1]
            simp only[fineE,Int.toNat_natCast]
            omega
          have HSE:Hd _:=HSD.out.set sN (plusX (L aN) kk)
          clear HS HC HT
          go_wp2_with fail
          refine wp_region_still_tail 14 mixed (by kernel_rfl) ?_
          simp only[List.take_succ_cons,List.take_zero,List.drop_succ_cons,List.drop_zero]
          repeat still_step
          still_call (rplus_any (L aN) kk _)
          repeat still_step
          refine wpStill_nil ?_
          by_cases hf:plusX (L aN) kk<L sN
          ·obtain⟨hw,hmu⟩:=HFA.out hf
           have HW2:Hd _:=hw
           have HM2:Hd (mu m (upd L sN (plusX (L aN) kk)) []+(if true then 1 else 0)<gk):=hmu
           have hdec:decide (plusX (L aN) kk<L sN)=true:=decide_eq_true hf
           clear hw hmu HFA HNF p0 p1 p2 x0
           go_wp2_with fail
           refine⟨⟨j+1,_,true,rfl,by simp,by omega,HSE.out,HW2.out,(fun h=>by cases h),HM2.out⟩,by simp;omega⟩
          ·have HN2:Hd _:=HNF.out (by omega)
           have hdec:decide (plusX (L aN) kk<L sN)=false:=decide_eq_false hf
           clear HFA HNF p0 p1 p2 x0
           go_wp2_with fail
           refine⟨⟨j+1,_,b,rfl,by simp,by omega,HSD.out,HV.out,HN2.out,HM.out⟩,by simp;omega⟩
         ·have HC2:Hd (b=false→∀ e∈es,fineE L e):=fun h=>by have:=HC.out h;rw[List.take_of_length_le (by omega)] at this;exact this
          clear HC
          go_wp2_with fail
          go_roundg (mu m L []+(if b then 1 else 0))
          case measure=>exact HM.out
          case rel=>exact⟨L,b,rfl,HS.out,HV.out,HC2.out,Nat.le_refl _⟩
      | false =>
        go_wp2_with fail
        go_ret2
        exact⟨HS.out.fr,g,cap,L,rfl,hcap,HS.out.ge,HS.out.at hcap,HV.out.least (HC.out trivial)⟩
end Go.Proofs.YtdkijecnnmncnaaGreatDoor.Wg
namespace Go.Proofs.YtdkijecnnmncnaaGreatDoor.Wg
open Go.RowKit (wrap32 wrap64)
set_option maxRecDepth 100000
set_option maxHeartbeats 4000000
theorem rfrom_zero (ev rv:Value)(es:List Ed)(rs:List Int)(w:World)(hE:EdgesAt w.heap.size w ev es)(hR:IntsAt w.heap.size w rv rs)(hel:es.length≤11000000000000)(hrl:rs.length≤100000000000000)(hG:RightG 0 es rs) :
 Calls Tryz.prog 99 #[.int .i64 0,ev,rv] w fun e w'=>e = .returned (.tuple #[.slice none 0 0,vI 0])∧Fr (fun _=>False) w w':=by
 have HE:Hd (EdgesAt w.heap.size w ev es):=hE
 have HRI:Hd (IntsAt w.heap.size w rv rs):=hR
 obtain rfl:es=[]:=by
  rcases es with - | ⟨e,r⟩
  ·rfl
  ·have:=(hG.2.1 e List.mem_cons_self).1;omega
 obtain rfl:rs=[]:=by
  rcases rs with - | ⟨e,r⟩
  ·rfl
  ·have:=hG.2.2 e List.mem_cons_self;omega
 obtain⟨ea,ec,rfl,-,-⟩:=hE
 obtain⟨ra,rc,rfl,-,-⟩:=hR
 have HG:Hd (RightG 0 [] []):=hG
 clear hG
 go_enter Tryz.func99,Tryz.ntmps99
 go_wp2_with fail
 refine(rright_any 0 _ _ [] [] w HE.out HRI.out (by simp) hrl).mono ?_
 rintro e w1 ⟨rfl,hF1⟩
 rw[decide_eq_true HG.out]
 have HF1:Hd (Fr (fun _=>False) w w1):=hF1
 clear hF1
 go_wp2_with fail
 go_loopw [9,10] (fun xv iv wr=>xv = .slice none 0 0∧iv = .int .i64 0∧Hd (Fr (fun _=>False) w wr)) (fun _ _ _=>0)
 case atStart=>exact⟨rfl,rfl,HF1.out⟩
 case round =>
  obtain⟨rfl,rfl,HF⟩:=hrel
  clear HF1
  go_wp2_with fail
  go_loopw [11] (fun iv wr=>iv = .int .i64 0∧Hd (Fr (fun _=>False) w wr)) (fun _ _=>0)
  case atStart=>exact⟨rfl,HF.out⟩
  case round =>
   obtain⟨rfl,HF1⟩:=hrel
   clear HF
   go_wp2_with fail
   go_loopg [12] 1 (fun kk mv wr=>∃ (b:Bool),mv = .bool b∧Hd ((if b then 1 else 0)≤kk)∧Hd (Fr (fun _=>False) w wr))
   case atStart=>exact⟨true,rfl,Nat.le_refl _,HF1.out⟩
   case round =>
    obtain⟨b,rfl,HM,HF⟩:=hrel
    clear HF1
    cases b with
    | true =>
      have HM1:Hd (1≤gk):=HM.out
      clear HM
      go_wp2_with fail
      go_loopw [12,13] (fun mv iv wr=>mv = .bool false∧iv = .int .i64 0∧Hd (Fr (fun _=>False) w wr)) (fun _ _ _=>0)
      case atStart=>exact⟨rfl,rfl,HF.out⟩
      case round =>
       obtain⟨rfl,rfl,HF1⟩:=hrel
       clear HF
       go_wp2_with fail
       go_roundg 0
       case measure=>exact HM1.out
       case rel=>exact⟨false,rfl,Nat.le_refl _,HF1.out⟩
    | false =>
      go_wp2_with fail
      go_ret2
      exact⟨rfl,HF.out⟩
theorem rfrom_bad (n:Int)(ev rv:Value)(es:List Ed)(rs:List Int)(w:World)(hE:EdgesAt w.heap.size w ev es)(hR:IntsAt w.heap.size w rv rs)(hel:es.length≤11000000000000)(hrl:rs.length≤100000000000000)(hG:¬ RightG n es rs) :
 Calls Tryz.prog 99 #[.int .i64 n,ev,rv] w fun e w'=>e = .returned (.tuple #[.slice none 0 0,vI 1])∧Fr (fun _=>False) w w':=by
 have HE:Hd (EdgesAt w.heap.size w ev es):=hE
 have HRI:Hd (IntsAt w.heap.size w rv rs):=hR
 have HG:Hd (¬ RightG n es rs):=hG
 clear hE hR hG
 go_enter Tryz.func99,Tryz.ntmps99
 go_wp2_with fail
 refine(rright_any n _ _ es rs w HE.out HRI.out (by omega) hrl).mono ?_
 rintro e w1 ⟨rfl,hF1⟩
 rw[decide_eq_false HG.out]
 go_wp2_with fail
 go_ret2
 exact⟨rfl,hF1⟩
theorem rfrom_any (n:Int)(ev rv:Value)(es:List Ed)(rs:List Int)(w:World)(hE:EdgesAt w.heap.size w ev es)(hR:IntsAt w.heap.size w rv rs)(hel:es.length≤11000000000000)(hrl:rs.length≤100000000000000) :
 Calls Tryz.prog 99 #[.int .i64 n,ev,rv] w fun e w'=>Fr (fun _=>False) w w'∧((¬ RightG n es rs∧e = .returned (.tuple #[.slice none 0 0,vI 1])) ∨
  (RightG n es rs∧∃ v x,e = .returned (.tuple #[v,vI 0])∧(∀ k,v.ownBlock=some k→w.heap.size≤k)∧IntsAt w'.heap.size w' v ((List.range n.toNat).map x)∧Least n.toNat es rs x)):=by
 by_cases hG:RightG n es rs
 ·obtain⟨m,rfl⟩:∃ m:Nat,n=m:=⟨n.toNat,by have:=hG.1.1;omega⟩
  rcases Nat.eq_zero_or_pos m with rfl | hm
  ·refine(rfrom_zero ev rv es rs w hE hR hel hrl hG).mono ?_
   rintro e w' ⟨rfl,hF⟩
   have he:es=[]:=by
    rcases es with - | ⟨e,r⟩
    ·rfl
    ·have:=(hG.2.1 e List.mem_cons_self).1;omega
   have hr:rs=[]:=by
    rcases rs with - | ⟨e,r⟩
    ·rfl
    ·have:=hG.2.2 e List.mem_cons_self;omega
   subst he
   subst hr
   exact⟨hF,Or.inr ⟨hG,.slice none 0 0,fun _=>9,rfl,(fun k h=>by cases h),⟨none,0,rfl,Nat.le_refl _,fun h=>absurd rfl h⟩,⟨fun r h=>absurd h List.not_mem_nil,fun d s k h=>absurd h List.not_mem_nil,fun i hi=>Or.inl rfl⟩⟩⟩
  ·refine(rfrom_pos m hm ev rv es rs w hE hR hel hrl hG).mono ?_
   rintro e w' ⟨hF,g,cap,x,rfl,hc,hg,hI,hL⟩
   exact⟨hF,Or.inr ⟨hG,_,x,rfl,(fun k h=>by cases h;exact hg),by rw[Int.toNat_natCast];exact hI,by rw[Int.toNat_natCast];exact hL⟩⟩
 ·refine(rfrom_bad n ev rv es rs w hE hR hel hrl hG).mono ?_
  rintro e w' ⟨rfl,hF⟩
  exact⟨hF,Or.inl ⟨hG,rfl⟩⟩
end Go.Proofs.YtdkijecnnmncnaaGreatDoor.Wg
namespace Go.Proofs.YtdkijecnnmncnaaGreatDoor
open Go.RowKit (wrap32 wrap64)
set_option maxRecDepth 100000
set_option maxHeartbeats 1000000
theorem ia_of_ints {w:World}{v:Value}{l:List Int}(h:Wg.IntsAt w.heap.size w v l):IA w v l:=by
 obtain⟨a,c,e,-,h⟩:=h
 exact⟨a,c,e,h⟩
def RfE (n:Nat)(es:List Ed)(rs:List Int)(w:World)(e:Ending)(w':World):Prop :=
 Fr (fun _=>False) w w'∧∃ a c x,e = .returned (.slice a n c)∧IA w' (.slice a n c) ((List.range n).map x)∧(∀ k,(Value.slice a n c).ownBlock=some k→w.heap.size≤k)∧Least n es rs x
theorem rflows_any (n:Nat)(ea:Option Addr)(en ec:Nat)(es:List Ed)(ra:Option Addr)(rn rc:Nat)(rs:List Int)(w:World)(hE:Wg.EdgesAt w.heap.size w (.slice ea en ec) es)(hR:Wg.IntsAt w.heap.size w (.slice ra rn rc) rs)(hG:RightG n es rs)(hel:es.length≤11000000000000)(hrl:rs.length≤100000000000000) :
 Calls Tryz.prog 58 #[vI n,.slice ea en ec,.slice ra rn rc] w (RfE n es rs w):=by
 have HC:Hd (Calls Tryz.prog 99 #[vI n,.slice ea en ec,.slice ra rn rc] w fun e w'=>Fr (fun _=>False) w w'∧∃ a c x,e = .returned (.tuple #[.slice a n c,vI 0])∧IA w' (.slice a n c) ((List.range n).map x)∧(∀ k,(Value.slice a n c).ownBlock=some k→w.heap.size≤k)∧Least n es rs x):=by
  refine(Wg.rfrom_any n _ _ es rs w hE hR hel hrl).mono ?_
  rintro e w' ⟨h1,⟨hn,-⟩|⟨-,v,x,he,hb,hi,hl⟩⟩
  ·exact absurd (right_to hG) hn
  ·have hi:=ia_of_ints hi
   obtain⟨a,c,ev,-⟩:=id hi
   simp only[List.length_map,List.length_range,Int.toNat_natCast] at ev hi hl
   subst ev
   exact⟨fr_of h1,a,c,x,he,hi,hb,least_of hl⟩
 clear hE hR hG
 go_enter Tryz.func58,Tryz.ntmps58
 go_wp2_with fail
 refine HC.out.mono ?_
 rintro e w1 ⟨hF,a,c,x,rfl,hi,hb,hl⟩
 go_wp2_with fail
 go_ret
 exact⟨hF,a,c,x,rfl,hi,hb,hl⟩
theorem rtold_any (d:Int)(w:World)(hd : -1≤d):Calls Tryz.prog 61 #[vI d] w fun e w'=>e = .returned (vI (max d 0))∧w'=w:=by
 go_enter Tryz.func61,Tryz.ntmps61
 by_cases h:d = -1
 ·have e1:(d==-1)=true:=by simp[h]
  have e2:max d 0=0:=by omega
  rw[e2]
  clear h e2
  go_wp2_with fail
  go_ret
  exact⟨rfl,rfl⟩
 ·have e1:(d==-1)=false:=by simp[h]
  have e2:max d 0=d:=by omega
  rw[e2]
  clear h e2
  go_wp2_with fail
  go_ret
  exact⟨rfl,rfl⟩
def OB (w:World)(B:Nat)(v:Value)(n:Nat)(f:Nat→Bool):Prop:=w.ownsRow B 4 1 v n ((List.range n).map fun i=>.bool (f i))
theorem OB.bl {w:World}{B n:Nat}{v:Value}{f:Nat→Bool}(h:OB w B v n f):BL w v ((List.range n).map f):=by
 obtain⟨a,c,e⟩:=own_slice h
 refine⟨a,c,by rw[e];simp,fun hne=>?_⟩
 have hn:0<n:=by
  rcases Nat.eq_zero_or_pos n with h0 | h0
  ·subst h0;exact absurd rfl hne
  ·exact h0
 obtain⟨g,cap,e2,-,hl⟩:=World.ownsRow.form h hn
 rw[e] at e2
 cases e2
 refine⟨g,0,rfl,hl,fun j hj=>?_⟩
 have hj':j<n:=by simpa using hj
 obtain⟨g',cap',e',-,hc⟩:=own_cell h (j:=j) (u:=.bool (f j)) (by simp[hj'])
 rw[e] at e'
 cases e'
 rw[Nat.zero_add,hc]
 simp
theorem OB.stay {w w':World}{B n:Nat}{v:Value}{f:Nat→Bool}(h:OB w B v n f)(k:Fr (fun _=>False) w w'):OB w' B v n f:=ownsRow_frL h k (fun _ _ e=>e)
theorem OB.congr {w:World}{B n:Nat}{v:Value}{f g:Nat→Bool}(h:OB w B v n f)(e:∀ i,i<n→f i=g i):OB w B v n g:=by
 unfold OB
 have:(List.range n).map (fun i=>Value.bool (g i))=(List.range n).map (fun i=>Value.bool (f i)):=List.map_congr_left fun i hi=>by rw[e i (List.mem_range.1 hi)]
 rw[this]
 exact h
theorem OB.set {w:World}{B n g cap:Nat}{f:Nat→Bool}(h:OB w B (.slice (some ⟨g,0,none⟩) n cap) n f)(i:Nat)(b:Bool):OB (w.setCell ⟨g,i,none⟩ (.bool b)) B (.slice (some ⟨g,0,none⟩) n cap) n (Wg.upd f i b)∧w.frozen? ⟨g,i,none⟩=false:=by
 obtain⟨h1,h2⟩:=row_set (j:=i) h (.bool b)
 refine⟨?_,h2⟩
 unfold OB
 have:((List.range n).map fun i=>Value.bool (f i)).set i (.bool b)=(List.range n).map fun j=>.bool (Wg.upd f i b j):=by
  refine List.ext_getElem (by simp) fun j k1 k2=>?_
  rw[List.getElem_set]
  simp only[List.getElem_map,List.getElem_range,Wg.upd]
  by_cases e:i=j
  ·subst e;simp
  ·rw[if_neg e,if_neg (fun h=>e h.symm)]
 rw[← this]
 exact h1
theorem OB.cell {w:World}{B n g cap:Nat}{f:Nat→Bool}(h:OB w B (.slice (some ⟨g,0,none⟩) n cap) n f){i:Nat}(hi:i<n):w.cell? ⟨g,i,none⟩=some (.bool (f i)):=by
 obtain⟨g',cap',e',-,hc⟩:=own_cell h (j:=i) (u:=.bool (f i)) (by simp[hi])
 cases e'
 exact hc
theorem rheaps_any (n:Nat)(a:Option Addr)(c:Nat)(esc:Nat→Bool)(w:World)(hB:BL w (.slice a n c) ((List.range n).map esc))(hn1:n≤1048576) :
 Calls Tryz.prog 59 #[.slice a n c] w fun e w'=>Fr (fun _=>False) w w'∧∃ ra l rc,e = .returned (.slice ra l rc)∧l=(heapsX n esc).length∧IOwn w' w.heap.size (.slice ra l rc) (heapsX n esc):=by
 obtain⟨i3,hi3,hz3,hs3,hb3⟩:=info_parts (P:=Tryz.prog) (e:=3) (z:=.int .i64 0) (size:=1) (bytes:=8) (by kernel_rfl)
 have HCL:Hd (∀ i,i<n→∃ k o,a=some ⟨k,o,none⟩∧k<w.heap.size∧w.cell? ⟨k,o+i,none⟩=some (.bool (esc i))):=fun i hi=>by
  obtain⟨a',c',e,h⟩:=hB
  injection e with e1 e2 e3
  subst e1
  have hi':i<((List.range n).map esc).length:=by simpa using hi
  obtain⟨k,o,e1,e2,e3⟩:=h (by intro e;rw[e] at hi';simp at hi')
  refine⟨k,o,e1,e2,?_⟩
  rw[e3 i hi']
  simp
 have HO0:Hd (IOwn (w.alloc (.cells #[vI 0] 3)) w.heap.size (.slice (some ⟨w.heap.size,0,none⟩) 1 1) (heapsX 0 esc)):=by
  refine⟨rfl,Or.inr ⟨w.heap.size,1,_,rfl,Nat.le_refl _,heap_new0 w _,Nat.le_refl _,by unfold maxLen;omega,rfl,rfl⟩⟩
 have HF0:Hd (Fr (fun _=>False) w (w.alloc (.cells #[vI 0] 3))):=Fr.alloc (Fr.refl _ w) _
 clear hB
 go_enter Tryz.func59,Tryz.ntmps59
 go_wp2_with fail
 go_loopw [3,4] (fun mv v wr=>∃ (k:Nat),v = .int .i64 k∧k≤n∧Hd (IOwn wr w.heap.size mv (heapsX k esc))∧Hd (Fr (fun _=>False) w wr)) (fun _ v _=>match v with | .int _ q=>n-q.toNat | _=>0)
 case atStart=>exact⟨0,rfl,Nat.zero_le _,HO0.out,HF0.out⟩
 case round =>
  clear HO0 HF0
  obtain⟨k,rfl,hk,HO,HF⟩:=hrel
  by_cases hlt:k<n
  ·obtain⟨kb,ob,rfl,kl,p0⟩:=HCL.out k hlt
   have hk0:(0:Int)≤k:=by omega
   have hk1:(k:Int)<n:=by omega
   have p0:=(HF.out.cell kl (fun e=>e)).trans p0
   cases he:esc k with
   | true =>
     have HT:Hd (heapsX (k+1) esc=heapsX k esc++[(k:Int)]):=heapsX_yes he
     have HTL:Hd ((heapsX k esc).length≤k+1):=heapsX_len k esc
     obtain⟨E,hE⟩:∃ E,E=heapsX k esc:=⟨_,rfl⟩
     rw[← hE] at HO HT HTL
     rw[he] at p0
     clear hE he
     have HO1:Hd ((wr.alloc (.cells #[vI (k:Int)] 3)).ownsRow w.heap.size 3 1 u3 E.length (E.map vI)):=World.ownsRow.alloc HO.out _
     have hnews:∀ j u,[vI (k:Int)][j]?=some u→(wr.alloc (.cells #[vI (k:Int)] 3)).cell? ((⟨wr.heap.size,0,none⟩:Addr).add j)=some u :=
      World.news_of_block (cs:=#[vI (k:Int)]) (heap_new0 wr (.cells #[vI (k:Int)] 3))
     have hsz:=HF.out.size
     have hbase:w.heap.size≤(wr.alloc (.cells #[vI (k:Int)] 3)).heap.size:=by simp;omega
     have hEl:E.length+1≤2000000:=by have:=HTL.out;omega
     go_wp2_with ((at_builtin;refine Hd.out ?_))
     unfold Hd
     refine wpList_append_lies _ rfl (.tmp 16) (.tmp 18) 30 rfl w.heap.size 3 i3 (.int .i64 0) 1 8 under64 hi3 hz3 hs3 hb3 rfl (by omega) u3 E.length _ rfl HO1.out ⟨wr.heap.size,0,none⟩ 1 1 [vI (k:Int)] rfl rfl hnews (by intro u hu;simp at hu;subst hu;rfl) (by omega) (by unfold maxLen;omega) (by omega) hbase (wr.heap.size+1) (by simp) ?_
     intro g6 cap6 w6 hown6 hgrow6 hat6 hlt6
     have HO6:Hd (IOwn w6 w.heap.size (.slice (some ⟨g6,0,none⟩) (E.length+1) cap6) (E++[(k:Int)])):=by unfold Hd IOwn;rw[List.map_append,List.length_append];exact hown6
     have HF6:Hd (Fr (fun _=>False) w w6):=grow_fr0 (HF.out.alloc _) hgrow6 (fun k hk=>(HO.out.ge k hk).1)
     clear hown6 hgrow6 hat6 hlt6 HO HF HO1 hnews hbase p0
     go_wp2_with fail
     refine⟨⟨k+1,by simp,by omega,?_,HF6.out⟩,by simp;omega⟩
     unfold Hd;rw[HT.out];exact HO6.out
   | false =>
     have HO2:Hd (IOwn wr w.heap.size u3 (heapsX (k+1) esc)):=by unfold Hd;rw[heapsX_no he];exact HO.out
     rw[he] at p0
     clear he HO
     go_wp2_with fail
     exact⟨⟨k+1,by simp,by omega,HO2.out,HF.out⟩,by simp;omega⟩
  ·have hke:k=n:=by omega
   have dk:decide ((k:Int)<n)=false:=by simp;omega
   have HO2:Hd (IOwn wr w.heap.size u3 (heapsX n esc)):=by have:=HO.out;rw[hke] at this;exact this
   clear hke HO
   obtain⟨ra,rc,eu⟩:=own_slice HO2.out
   subst eu
   obtain⟨l,hl⟩:∃ l,l=(heapsX n esc).length:=⟨_,rfl⟩
   have HL:Hd (l=(heapsX n esc).length):=hl
   rw[← hl] at HO2 ⊢
   clear hl
   go_wp2_with fail
   go_ret
   exact⟨HF.out,ra,l,rc,rfl,HL.out,HO2.out⟩
end Go.Proofs.YtdkijecnnmncnaaGreatDoor
