import Derived.Test.YtingenonbkencaaDoorQE6J
set_option linter.unusedVariables false
set_option linter.unusedSimpArgs false
namespace Go.Proofs.YtingenonbkencaaDoor
open Go.RowKit (wrap32 wrap64)
def WS.bare (s:WS):WS:={ s with num:=nilS,funcs:=nilS,fC:=nilS,args:=nilS,rets:=nilS }
def Eqv (s s':WS):Prop:=s.bare=s'.bare
structure Env where
 b:Nat
 b':Nat
 rv:Value
 rv':Value
 bs:List UInt8
 bs':List UInt8
 m:Nat
 hm:m≤bs'.length
 hL:bs.length≤1000000000000000
 hL':bs'.length≤1000000000000000
 agree:bs.take m=bs'.take m
abbrev Env.M (E:Env):Mode E.b:=reading E.b E.rv E.bs
abbrev Env.M' (E:Env):Mode E.b':=reading E.b' E.rv' E.bs'
def Stb (E:Env){ρ:Type}(st:ρ→WS)(eq:ρ→ρ→Prop)(a:Int)(r r':X ρ):Prop :=
 match r with
 | .ok y=>a≤(st y).at'∧(st y).at'≤E.bs.length∧((st y).at'≤E.m→∃ y',r' = .ok y'∧eq y y')∧(a≤E.m→¬ (st y).at'≤E.m→E.bs'.length=E.m→r' = .error (11,E.m))
 | .error z=>z.1≠0∧(z.1=11→z.2=E.bs.length)∧(z.1≠11→0≤z.2∧z.2≤E.bs.length∧a≤z.2+5∧a≤E.bs.length∧((z.2+5≤E.m∨(E.bs.length:Int)≤E.m)→r' = .error z))
theorem Stb.then {E:Env}{ρ τ:Type}{st:ρ→WS}{eq:ρ→ρ→Prop}{st2:τ→WS}{eq2:τ→τ→Prop}{a:Int}{r r':X ρ}{g g':ρ→X τ}
 (hr:∀ y,eq y y) (h:Stb E st eq a r r') (hg:∀ y y',r = .ok y→eq y y'→a≤(st y).at'→(st y).at'≤E.bs.length→Stb E st2 eq2 (st y).at' (g y) (g' y')):Stb E st2 eq2 a (thenX r g) (thenX r' g'):=by
 cases r with
 | error z =>
   refine⟨h.1,h.2.1,fun hz=>?_⟩
   obtain⟨h1,h2,h3,h5,h4⟩:=h.2.2 hz
   exact⟨h1,h2,h3,h5,fun hq=>by rw[h4 hq];rfl⟩
 | ok y =>
   obtain⟨h1,h2,h3,h4⟩:=h
   show Stb E st2 eq2 a (g y) (thenX r' g')
   by_cases hy:(st y).at'≤E.m
   ·obtain⟨y',e,hq⟩:=h3 hy
    have hk:=hg y y' rfl hq h1 h2
    rw[e]
    show Stb E st2 eq2 a (g y) (g' y')
    cases hgy:g y with
    | error z =>
      rw[hgy] at hk
      refine⟨hk.1,hk.2.1,fun hz=>?_⟩
      obtain⟨k1,k2,k3,k5,k4⟩:=hk.2.2 hz
      exact⟨k1,k2,by omega,by omega,k4⟩
    | ok u =>
      rw[hgy] at hk
      obtain⟨k1,k2,k3,k4⟩:=hk
      exact⟨by omega,k2,k3,fun _=>k4 hy⟩
   ·have hk:=hg y y rfl (hr y) h1 h2
    cases hgy:g y with
    | error z =>
      rw[hgy] at hk
      refine⟨hk.1,hk.2.1,fun hz=>?_⟩
      obtain⟨k1,k2,k3,k5,k4⟩:=hk.2.2 hz
      exact⟨k1,k2,by omega,by omega,fun hq=>by omega⟩
    | ok u =>
      rw[hgy] at hk
      obtain⟨k1,k2,k3,k4⟩:=hk
      exact⟨by omega,k2,fun hu=>by omega,fun ha hu he=>by rw[h4 ha hy he];rfl⟩
theorem Stb.cast {E:Env}{ρ:Type}{st:ρ→WS}{eq:ρ→ρ→Prop}{a:Int}{r r' s s':X ρ}(h:r=s)(h':r'=s')(k:Stb E st eq a s s'):Stb E st eq a r r':=by
 subst h h';exact k
theorem Stb.ok {E:Env}{ρ:Type}{st:ρ→WS}{eq:ρ→ρ→Prop}{y y':ρ}{a:Int}(h:eq y y')(hl:(st y).at'≤E.bs.length)(ha:a=(st y).at'):Stb E st eq a (.ok y) (.ok y') :=
 ⟨by omega,hl,fun _=>⟨y',rfl,h⟩,fun h1 h2=>absurd (by omega) h2⟩
theorem Stb.err {E:Env}{ρ:Type}{st:ρ→WS}{eq:ρ→ρ→Prop}{a:Int}{z:Int × Int}(hz:z.1≠11∧z.1≠0)(h0:0≤z.2)(hl:z.2≤E.bs.length)(ha:a≤z.2+5)(hal:a≤E.bs.length):Stb E st eq a (.error z:X ρ) (.error z) :=
 ⟨hz.2,fun h=>absurd h hz.1,fun _=>⟨h0,hl,ha,hal,fun _=>rfl⟩⟩
abbrev st0 : WS × Unit→WS:=fun y=>y.1
abbrev eq0 : WS × Unit→WS × Unit→Prop:=fun y y'=>Eqv y.1 y'.1
abbrev st1 {α:Type}:α × (WS × Unit)→WS:=fun y=>y.2.1
abbrev eq1 {α:Type}:α × (WS × Unit)→α × (WS × Unit)→Prop:=fun y y'=>y.1=y'.1∧Eqv y.2.1 y'.2.1
theorem eq0_refl (y:WS × Unit):eq0 y y:=rfl
theorem eq1_refl {α:Type}(y:α × (WS × Unit)):eq1 y y:=⟨rfl,rfl⟩
theorem set_bare (s:WS)(o:Nat)(v:Int):(s.set o v).bare=s.bare.set o v:=by
 unfold WS.set
 by_cases h1:o=146
 ·rw[if_pos h1,if_pos h1];rfl
 rw[if_neg h1,if_neg h1]
 by_cases h2:o=149
 ·rw[if_pos h2,if_pos h2];rfl
 rw[if_neg h2,if_neg h2]
 by_cases h3:o=150
 ·rw[if_pos h3,if_pos h3];rfl
 rw[if_neg h3,if_neg h3]
 by_cases h4:o=151
 ·rw[if_pos h4,if_pos h4];rfl
 rw[if_neg h4,if_neg h4]
 by_cases h5:o=153
 ·rw[if_pos h5,if_pos h5];rfl
 rw[if_neg h5,if_neg h5]
 by_cases h6:o=154
 ·rw[if_pos h6,if_pos h6];rfl
 rw[if_neg h6,if_neg h6]
 by_cases h7:o=155
 ·rw[if_pos h7,if_pos h7];rfl
 rw[if_neg h7,if_neg h7]
 by_cases h8:o=156
 ·rw[if_pos h8,if_pos h8];rfl
 rw[if_neg h8,if_neg h8]
 by_cases h9:o=157
 ·rw[if_pos h9,if_pos h9];rfl
 rw[if_neg h9,if_neg h9]
 by_cases h10:o=158
 ·rw[if_pos h10,if_pos h10];rfl
 rw[if_neg h10,if_neg h10]
 rfl
theorem Eqv.set {s s':WS}(h:Eqv s s')(o:Nat)(v v':Int)(hv:v=v')(p p':Int)(hp:p=p'):Eqv { s.set o v with at':=p } { s'.set o v' with at':=p' }:=by
 subst hv hp
 have hb:(s.set o v).bare=(s'.set o v).bare:=by rw[set_bare,set_bare,h]
 exact congrArg (fun t:WS=>{ t with at':=p }) hb
theorem Eqv.atp {s s':WS}(h:Eqv s s')(p:Int):Eqv { s with at':=p } { s' with at':=p }:=by
 have:=congrArg (fun t:WS=>{ t with at':=p }) h
 exact this
theorem Eqv.cnt {s s':WS}(h:Eqv s s')(p:Int):Eqv { s with count:=p } { s' with count:=p }:=by
 have:=congrArg (fun t:WS=>{ t with count:=p }) h
 exact this
theorem Eqv.at {s s':WS}(h:Eqv s s'):s'.at'=s.at':=by
 have:=congrArg WS.at' h
 exact this.symm
theorem rd_take {bs bs':List UInt8}{m p size:Nat}(h:bs.take m=bs'.take m)(hp:p+size≤m):leAt bs p size=leAt bs' p size:=by
 have key:∀ l:List UInt8,(l.drop p).take size=((l.take m).drop p).take size:=by
  intro l
  rw[List.drop_take,List.take_take,Nat.min_eq_left (by omega)]
 unfold leAt
 rw[key bs,key bs',h]
theorem adv_small (p:Int)(size:Nat)(h0:0≤p)(h1:p≤2000000000000000)(hs:size≤8):adv p size=p+size:=by
 unfold adv;rw[wrap_small]<;>omega
theorem next_stb (E:Env)(o size:Nat)(x x':WS × Unit)(h:eq0 x x')(h0:0≤x.1.at')(h1:x.1.at'≤2000000000000000)(hs:size≤8) :
 Stb E st0 eq0 x.1.at' (nextX E.M o size x) (nextX E.M' o size x'):=by
 have ha:=Eqv.at h
 have hL:=E.hL
 have hL':=E.hL'
 have hm:=E.hm
 obtain⟨p,hp⟩:=Int.eq_ofNat_of_zero_le h0
 have e1:nextX E.M o size x=match rd E.bs p size with | .ok v=>.ok ({ x.1.set o v with at':=adv x.1.at' size },()) | .error z=>.error z:=by
  unfold nextX
  have e:E.M.eff x.2 x.1.at' size (x.1.get o)=(match rd E.bs x.1.at'.toNat size with | .ok v=>Except.ok (v,()) | .error z=>.error z:X (Int × Unit)):=rfl
  rw[e,hp,Int.toNat_natCast]
  cases rd E.bs p size<;>rfl
 have e2:nextX E.M' o size x'=match rd E.bs' p size with | .ok v=>.ok ({ x'.1.set o v with at':=adv x'.1.at' size },()) | .error z=>.error z:=by
  unfold nextX
  have e:E.M'.eff x'.2 x'.1.at' size (x'.1.get o)=(match rd E.bs' x'.1.at'.toNat size with | .ok v=>Except.ok (v,()) | .error z=>.error z:X (Int × Unit)):=rfl
  rw[e,ha,hp,Int.toNat_natCast]
  cases rd E.bs' p size<;>rfl
 rw[e1,e2]
 have hadv:=adv_small x.1.at' size h0 h1 hs
 unfold rd
 by_cases hin:p+size≤E.bs.length
 ·rw[if_pos hin]
  refine⟨?_,?_,?_,?_⟩
  ·show x.1.at'≤adv x.1.at' size;omega
  ·show adv x.1.at' size≤_;omega
  ·intro hle
   have hle':p+size≤E.m:=by
    have:adv x.1.at' size≤E.m:=hle
    omega
   rw[if_pos (by omega),rd_take E.agree hle']
   exact⟨_,rfl,Eqv.set h o _ _ rfl _ _ (by rw[ha])⟩
  ·intro _ hle he
   have hle':¬ p+size≤E.m:=by
    have:¬ adv x.1.at' size≤E.m:=hle
    omega
   rw[if_neg (by omega),he]
   rfl
 ·rw[if_neg hin]
  exact⟨by simp,fun _=>rfl,fun hz=>absurd rfl hz⟩
theorem nextX_at {b:Nat}{rv:Value}{bs:List UInt8}{o size:Nat}{x y:WS × Unit}(h:nextX (reading b rv bs) o size x = .ok y)(h0:0≤x.1.at')(h1:x.1.at'≤2000000000000000)(hs:size≤8)(hL:bs.length≤1000000000000000) :
 y.1.at'=x.1.at'+size∧x.1.at'+size≤bs.length:=by
 have hadv:=adv_small x.1.at' size h0 h1 hs
 obtain⟨p,hp⟩:=Int.eq_ofNat_of_zero_le h0
 unfold nextX at h
 split at h
 ·rename_i v st hv
  have hv':(match rd bs x.1.at'.toNat size with | .ok v=>Except.ok (v,()) | .error z=>.error z:X (Int × Unit)) = .ok (v,st):=hv
  rw[hp,Int.toNat_natCast] at hv'
  unfold rd at hv'
  by_cases hin:p+size≤bs.length
  ·cases h
   exact⟨hadv,by omega⟩
  ·rw[if_neg hin] at hv';cases hv'
 ·cases h
theorem askX_then {b:Nat}(M:Mode b)(o size:Nat)(c:WS→Bool)(er:Int)(x:WS × M.σ):askX M o size c er x=thenX (nextX M o size x) fun y=>if c y.1 then .ok y else .error (er,x.1.at'):=by
 unfold askX thenX;cases nextX M o size x<;>rfl
theorem Stb.ite {E:Env}{ρ:Type}{st:ρ→WS}{eq:ρ→ρ→Prop}{a:Int}{c c':Prop} [Decidable c] [Decidable c']{r r' s s':X ρ}(hc:c↔c')(h1:c→Stb E st eq a r r')(h2:¬ c→Stb E st eq a s s') :
 Stb E st eq a (if c then r else s) (if c' then r' else s'):=by
 by_cases h:c
 ·rw[if_pos h,if_pos (hc.1 h)];exact h1 h
 ·rw[if_neg h,if_neg (fun k=>h (hc.2 k))];exact h2 h
theorem ask_stb (E:Env)(o size:Nat)(c:WS→Bool)(hc:∀ s,c s.bare=c s)(er:Int)(her:er≠11∧er≠0)(x x':WS × Unit)(h:eq0 x x')(h0:0≤x.1.at')(h1:x.1.at'≤2000000000000000)(hs:size≤5) :
 Stb E st0 eq0 x.1.at' (askX E.M o size c er x) (askX E.M' o size c er x'):=by
 refine Stb.cast (askX_then E.M o size c er x) (askX_then E.M' o size c er x') ?_
 refine Stb.then eq0_refl (next_stb E o size x x' h h0 h1 (by omega)) ?_
 intro y y' hy hq _ _
 obtain⟨e1,e2⟩:=nextX_at hy h0 h1 (by omega) E.hL
 have hcc:c y'.1=c y.1:=by rw[← hc y'.1,← hc y.1];exact congrArg c (Eq.symm hq)
 refine Stb.ite (by rw[hcc]) (fun _=>Stb.ok hq (by show y.1.at'≤_;omega) rfl) (fun _=>?_)
 rw[Eqv.at h]
 exact Stb.err her h0 (by show x.1.at'≤_;omega) (by show y.1.at'≤x.1.at'+5;omega) (by show y.1.at'≤_;omega)
theorem loc_stb (E:Env)(n p:Int)(x x':WS × Unit)(h:eq0 x x')(hl:x.1.at'≤E.bs.length)(hp0:0≤p)(hpl:p≤E.bs.length)(hp5:x.1.at'≤p+5) :
 Stb E st0 eq0 x.1.at' (locX E.M n p x) (locX E.M' n p x'):=by
 have hlo:x'.1.locs=x.1.locs:=(congrArg WS.locs h).symm
 unfold locX
 rw[hlo]
 refine Stb.ite Iff.rfl (fun _=>Stb.ok ?_ hl rfl) (fun _=>Stb.err (by simp) hp0 hpl hp5 hl)
 exact congrArg (fun t:WS=>{ t with locs:=wrap64 (x.1.locs+n) }) h
theorem bind_thenX {α β:Type}(c:X α)(p:α→X β):(c >>= p)=thenX c p:=by cases c<;>rfl
theorem headX_then {b:Nat}(M:Mode b)(x:WS × M.σ):headX M x=thenX (nextX M 149 1 x) fun y1=>thenX (nextX M 150 1 y1) fun y2=>thenX (nextX M 151 1 y2) fun y3=>thenX (nextX M 153 2 y3) fun y4 =>
 thenX (headOk y4.1 x.1.at') fun _=>locX M y4.1.fV x.1.at' y4:=by
 unfold headX;simp only[bind_thenX]
theorem headOk_err {s:WS}{p:Int}{z:Int × Int}(h:headOk s p = .error z):z.2=p∧z.1≠11∧z.1≠0:=by
 unfold headOk at h
 repeat' split at h
 all_goals first | (cases h;done) | (cases h;exact⟨rfl,by simp,by simp⟩)
theorem head_stb (E:Env)(x x':WS × Unit)(h:eq0 x x')(h0:0≤x.1.at')(h1:x.1.at'≤1000000000000000) :
 Stb E st0 eq0 x.1.at' (headX E.M x) (headX E.M' x'):=by
 have hL:=E.hL
 refine Stb.cast (headX_then E.M x) (headX_then E.M' x') ?_
 refine Stb.then eq0_refl (next_stb E 149 1 x x' h h0 (by omega) (by omega)) ?_
 intro y1 y1' hy1 hq1 _ _
 obtain⟨a1,b1⟩:=nextX_at hy1 h0 (by omega) (by omega) E.hL
 refine Stb.then eq0_refl (next_stb E 150 1 y1 y1' hq1 (by omega) (by omega) (by omega)) ?_
 intro y2 y2' hy2 hq2 _ _
 obtain⟨a2,b2⟩:=nextX_at hy2 (by omega) (by omega) (by omega) E.hL
 refine Stb.then eq0_refl (next_stb E 151 1 y2 y2' hq2 (by omega) (by omega) (by omega)) ?_
 intro y3 y3' hy3 hq3 _ _
 obtain⟨a3,b3⟩:=nextX_at hy3 (by omega) (by omega) (by omega) E.hL
 refine Stb.then eq0_refl (next_stb E 153 2 y3 y3' hq3 (by omega) (by omega) (by omega)) ?_
 intro y4 y4' hy4 hq4 _ _
 obtain⟨a4,b4⟩:=nextX_at hy4 (by omega) (by omega) (by omega) E.hL
 have hs:y4.1.at'=x.1.at'+5:=by omega
 have hs':y4.1.at'≤E.bs.length:=by omega
 have he:headOk y4'.1 x'.1.at'=headOk y4.1 x.1.at':=by
  rw[Eqv.at h]
  exact(congrArg (fun t:WS=>headOk t x.1.at') (Eq.symm hq4):headOk y4'.1.bare _=headOk y4.1.bare _)
 have hfV:y4'.1.fV=y4.1.fV:=(congrArg WS.fV hq4).symm
 rw[he,hfV,Eqv.at h]
 refine Stb.then (st:=fun _=>y4.1) (eq:=fun _ _=>True) (fun _=>trivial) ?_ (fun _ _ _ _ _ _=>loc_stb E _ _ y4 y4' hq4 hs' h0 (by omega) (by omega))
 cases hk:headOk y4.1 x.1.at' with
 | ok u=>exact Stb.ok trivial hs' rfl
 | error z =>
   have:=headOk_err hk
   exact Stb.err this.2 (by omega) (by omega) (by show y4.1.at'≤_;omega) hs'
def rdX (bs:List UInt8)(x:WS × Unit):X (Int × (WS × Unit)) :=
 match rd bs x.1.at'.toNat 1 with
 | .ok v=>.ok (v,({ x.1 with at':=adv x.1.at' 1 },()))
 | .error z=>.error z
theorem oneX_then (b:Nat)(rv:Value)(bs:List UInt8)(old:Int)(x:WS × Unit):oneX (reading b rv bs) old x=thenX (rdX bs x) fun q=>if varOk q.2.1.fV q.1 then .ok q else .error (13,x.1.at'):=by
 unfold oneX rdX thenX
 have e:(reading b rv bs).eff x.2 x.1.at' 1 old=(match rd bs x.1.at'.toNat 1 with | .ok v=>Except.ok (v,()) | .error z=>.error z:X (Int × Unit)):=rfl
 rw[e]
 cases rd bs x.1.at'.toNat 1<;>rfl
theorem rdX_stb (E:Env)(x x':WS × Unit)(h:eq0 x x')(h0:0≤x.1.at')(h1:x.1.at'≤2000000000000000):Stb E st1 eq1 x.1.at' (rdX E.bs x) (rdX E.bs' x'):=by
 have ha:=Eqv.at h
 have hL:=E.hL
 have hL':=E.hL'
 have hm:=E.hm
 obtain⟨p,hp⟩:=Int.eq_ofNat_of_zero_le h0
 have hadv:=adv_small x.1.at' 1 h0 h1 (by omega)
 unfold rdX
 rw[ha]
 rw[show x.1.at'.toNat=p by omega]
 unfold rd
 by_cases hin:p+1≤E.bs.length
 ·rw[if_pos hin]
  refine⟨?_,?_,?_,?_⟩
  ·show x.1.at'≤adv x.1.at' 1;omega
  ·show adv x.1.at' 1≤_;omega
  ·intro hle
   have hle':p+1≤E.m:=by
    have:adv x.1.at' 1≤E.m:=hle
    omega
   rw[if_pos (by omega),rd_take E.agree hle']
   exact⟨_,rfl,rfl,Eqv.atp h _⟩
  ·intro _ hle he
   have hle':¬ p+1≤E.m:=by
    have:¬ adv x.1.at' 1≤E.m:=hle
    omega
   rw[if_neg (by omega),he]
 ·rw[if_neg hin]
  exact⟨by simp,fun _=>rfl,fun hz=>absurd rfl hz⟩
theorem rdX_at {bs:List UInt8}{x:WS × Unit}{q:Int × (WS × Unit)}(h:rdX bs x = .ok q)(h0:0≤x.1.at')(h1:x.1.at'≤2000000000000000):q.2.1.at'=x.1.at'+1∧x.1.at'+1≤bs.length:=by
 have hadv:=adv_small x.1.at' 1 h0 h1 (by omega)
 obtain⟨p,hp⟩:=Int.eq_ofNat_of_zero_le h0
 unfold rdX at h
 rw[show x.1.at'.toNat=p by omega] at h
 unfold rd at h
 by_cases hin:p+1≤bs.length
 ·rw[if_pos hin] at h
  cases h
  exact⟨hadv,by omega⟩
 ·rw[if_neg hin] at h;cases h
theorem one_stb (E:Env)(old old':Int)(x x':WS × Unit)(h:eq0 x x')(h0:0≤x.1.at')(h1:x.1.at'≤1000000000000000):Stb E st1 eq1 x.1.at' (oneX E.M old x) (oneX E.M' old' x'):=by
 refine Stb.cast (oneX_then E.b E.rv E.bs old x) (oneX_then E.b' E.rv' E.bs' old' x') ?_
 refine Stb.then eq1_refl (rdX_stb E x x' h h0 (by omega)) ?_
 intro y y' hy hq _ hl
 obtain⟨e1,e2⟩:=rdX_at hy h0 (by omega)
 have hfV:y'.2.1.fV=y.2.1.fV:=(congrArg WS.fV hq.2).symm
 rw[hfV,← hq.1,Eqv.at h]
 exact Stb.ite Iff.rfl (fun _=>Stb.ok hq hl rfl) (fun _=>Stb.err (by simp) h0 (by show x.1.at'≤_;omega) (by show y.2.1.at'≤x.1.at'+5;omega) hl)
theorem varsX_then {b:Nat}(M:Mode b)(old:Int)(r:List Int)(x:WS × M.σ):varsX M (old::r) x=thenX (oneX M old x) fun q=>thenX (varsX M r q.2) fun q'=>.ok (q.1::q'.1,q'.2):=by
 simp only[varsX,thenX]
 cases oneX M old x with
 | error z=>rfl
 | ok q =>
   obtain⟨v,y⟩:=q
   simp only
   cases varsX M r y<;>rfl
theorem vars_stb (E:Env):∀ (l:List Int) (x x':WS × Unit),eq0 x x'→0≤x.1.at'→x.1.at'≤E.bs.length→Stb E st1 eq1 x.1.at' (varsX E.M l x) (varsX E.M' l x')
 | [],x,x',h,_,hl=>by
   have e:varsX E.M [] x = .ok ([],x):=rfl
   have e':varsX E.M' [] x' = .ok ([],x'):=rfl
   refine Stb.cast e e' (Stb.ok ⟨rfl,h⟩ hl rfl)
 | old::r,x,x',h,h0,hl=>by
   have hL:=E.hL
   refine Stb.cast (varsX_then E.M old r x) (varsX_then E.M' old r x') ?_
   refine Stb.then eq1_refl (one_stb E old old x x' h h0 (by omega)) ?_
   intro y y' _ hq ha hy
   refine Stb.then eq1_refl (vars_stb E r y.2 y'.2 hq.2 (by have:x.1.at'≤y.2.1.at':=ha;omega) hy) ?_
   intro z z' _ hz _ hzl
   exact Stb.ok ⟨by rw[hq.1,hz.1],hz.2⟩ hzl rfl
theorem listX_then {b:Nat}(M:Mode b)(n:Nat)(l:List Int)(x:WS × M.σ):listX M n l x=thenX (nextX M 161 1 ({ x.1 with count:=l.length },x.2)) fun y=>if y.1.count=n then varsX M (if l.length=n then l else List.replicate n 0) y else .error (15,x.1.at'):=by
 unfold listX thenX
 cases nextX M 161 1 ({ x.1 with count:=l.length },x.2)<;>rfl
theorem list_stb (E:Env)(n:Nat)(l:List Int)(x x':WS × Unit)(h:eq0 x x')(h0:0≤x.1.at')(hl:x.1.at'≤1000000000000000):Stb E st1 eq1 x.1.at' (listX E.M n l x) (listX E.M' n l x'):=by
 have hL:=E.hL
 refine Stb.cast (listX_then E.M n l x) (listX_then E.M' n l x') ?_
 have hn:=next_stb E 161 1 ({ x.1 with count:=l.length },x.2) ({ x'.1 with count:=l.length },x'.2) (Eqv.cnt h _) h0 (by show x.1.at'≤_;omega) (by omega)
 refine Stb.then eq0_refl hn ?_
 intro y y' hy hq ha hyl
 obtain⟨e1,e2⟩:=nextX_at hy h0 (by show x.1.at'≤_;omega) (by omega) E.hL
 have e1':y.1.at'=x.1.at'+1:=e1
 have e2':x.1.at'+1≤E.bs.length:=e2
 have hc:y'.1.count=y.1.count:=(congrArg WS.count hq).symm
 rw[hc,Eqv.at h]
 exact Stb.ite Iff.rfl (fun _=>vars_stb E _ y y' hq (by omega) hyl) (fun _=>Stb.err (by simp) h0 (by show x.1.at'≤_;omega) (by show y.1.at'≤x.1.at'+5;omega) hyl)
theorem front_stb (E:Env)(ends makes nb:Bool)(i:Nat)(p:Int)(y y':WS × Unit)(h:eq0 y y')(hl:y.1.at'≤E.bs.length)(hp0:0≤p)(hpl:p≤E.bs.length)(hp5:y.1.at'≤p+5) :
 Stb E st0 eq0 y.1.at' (frontOk E.M ends makes nb i p y) (frontOk E.M' ends makes nb i p y'):=by
 have hlen:y'.1.len=y.1.len:=(congrArg WS.len h).symm
 unfold frontOk
 rw[hlen]
 refine Stb.ite Iff.rfl (fun _=>Stb.err (by simp) hp0 hpl hp5 hl) (fun _=>?_)
 refine Stb.ite Iff.rfl (fun _=>Stb.err (by simp) hp0 hpl hp5 hl) (fun _=>?_)
 exact Stb.ite Iff.rfl (fun _=>loc_stb E 1 p y y' h hl hp0 hpl hp5) (fun _=>Stb.ok h hl rfl)
theorem Stb.part {E:Env}{a:Int}{c c':X (WS × Unit)}{p p':WS × Unit→X (WS × Unit)}(hc:Stb E st0 eq0 a c c')(h0:0≤a)
 (hp:∀ x x',eq0 x x'→0≤x.1.at'→x.1.at'≤1000000000000000→Stb E st0 eq0 x.1.at' (p x) (p' x')):Stb E st0 eq0 a (thenX c p) (thenX c' p') :=
 Stb.then eq0_refl hc (fun y y' _ hq h1 h2=>hp y y' hq (by have:a≤y.1.at':=h1;omega) (by have:=E.hL;have:y.1.at'≤E.bs.length:=h2;omega))
theorem var_stb (E:Env)(o:Nat)(x x':WS × Unit)(h:eq0 x x')(h0:0≤x.1.at')(h1:x.1.at'≤1000000000000000):Stb E st0 eq0 x.1.at' (varPart E.M o x) (varPart E.M' o x') :=
 ask_stb E o 1 _ (fun _=>rfl) 13 (by decide) x x' h h0 (by omega) (by omega)
theorem fields_stb (E:Env)(x x':WS × Unit)(h:eq0 x x')(h0:0≤x.1.at')(h1:x.1.at'≤1000000000000000):Stb E st0 eq0 x.1.at' (fieldsPart E.M x) (fieldsPart E.M' x') :=
 ask_stb E 158 1 _ (fun _=>rfl) 17 (by decide) x x' h h0 (by omega) (by omega)
theorem field_stb (E:Env)(x x':WS × Unit)(h:eq0 x x')(h0:0≤x.1.at')(h1:x.1.at'≤1000000000000000):Stb E st0 eq0 x.1.at' (fieldPart E.M x) (fieldPart E.M' x') :=
 ask_stb E 158 1 _ (fun _=>rfl) 17 (by decide) x x' h h0 (by omega) (by omega)
theorem global_stb (E:Env)(x x':WS × Unit)(h:eq0 x x')(h0:0≤x.1.at')(h1:x.1.at'≤1000000000000000):Stb E st0 eq0 x.1.at' (globalPart E.M x) (globalPart E.M' x') :=
 ask_stb E 158 1 _ (fun _=>rfl) 18 (by decide) x x' h h0 (by omega) (by omega)
theorem target_stb (E:Env)(x x':WS × Unit)(h:eq0 x x')(h0:0≤x.1.at')(h1:x.1.at'≤1000000000000000):Stb E st0 eq0 x.1.at' (targetPart E.M x) (targetPart E.M' x') :=
 ask_stb E 158 2 _ (fun _=>rfl) 16 (by decide) x x' h h0 (by omega) (by omega)
theorem int_stb (E:Env)(x x':WS × Unit)(h:eq0 x x')(h0:0≤x.1.at')(h1:x.1.at'≤1000000000000000):Stb E st0 eq0 x.1.at' (intPart E.M x) (intPart E.M' x') :=
 next_stb E 158 8 x x' h h0 (by omega) (by omega)
theorem callee_stb (E:Env)(nf:Nat)(x x':WS × Unit)(h:eq0 x x')(h0:0≤x.1.at')(h1:x.1.at'≤1000000000000000):Stb E st0 eq0 x.1.at' (calleePart E.M nf x) (calleePart E.M' nf x') :=
 ask_stb E 158 2 _ (fun _=>rfl) 14 (by decide) x x' h h0 (by omega) (by omega)
theorem parts_stb (E:Env)(op:Nat){a:Int}{c c':X (WS × Unit)}(hc:Stb E st0 eq0 a c c')(h0:0≤a):Stb E st0 eq0 a (partsX E.M op c) (partsX E.M' op c'):=by
 match op with
 | 1=>exact((hc.part h0 (var_stb E 155)).part h0 (int_stb E))
 | 2=>exact((hc.part h0 (var_stb E 155)).part h0 (var_stb E 156))
 | 3=>exact(((hc.part h0 (var_stb E 155)).part h0 (var_stb E 156)).part h0 (var_stb E 157))
 | 4=>exact(((hc.part h0 (var_stb E 155)).part h0 (var_stb E 156)).part h0 (var_stb E 157))
 | 5=>exact((hc.part h0 (var_stb E 155)).part h0 (var_stb E 156))
 | 6=>exact((hc.part h0 (var_stb E 155)).part h0 (fields_stb E))
 | 7=>exact(((hc.part h0 (var_stb E 155)).part h0 (var_stb E 156)).part h0 (field_stb E))
 | 8=>exact(((hc.part h0 (var_stb E 155)).part h0 (var_stb E 156)).part h0 (field_stb E))
 | 9=>exact((hc.part h0 (var_stb E 155)).part h0 (global_stb E))
 | 10=>exact((hc.part h0 (var_stb E 156)).part h0 (global_stb E))
 | 12=>exact(hc.part h0 (var_stb E 156))
 | 13=>exact(hc.part h0 (target_stb E))
 | 14=>exact((hc.part h0 (var_stb E 156)).part h0 (target_stb E))
 | 16=>exact(hc.part h0 (var_stb E 155))
 | 17=>exact(((hc.part h0 (var_stb E 155)).part h0 (var_stb E 156)).part h0 (var_stb E 157))
 | 0=>exact hc
 | 11=>exact hc
 | 15=>exact hc
 | n+18=>exact hc
theorem ret_stb (E:Env)(n:Nat){a:Int}{c c':X (WS × Unit)}(hc:Stb E st0 eq0 a c c')(h0:0≤a):Stb E st1 eq1 a (retX E.M n c) (retX E.M' n c'):=by
 refine Stb.then eq0_refl hc (fun y y' _ hq h1 h2=>?_)
 refine Stb.then eq1_refl (list_stb E n [] y y' hq (by have:a≤y.1.at':=h1;omega) (by have:=E.hL;have:y.1.at'≤E.bs.length:=h2;omega)) (fun z z' _ hz _ hl=>?_)
 exact Stb.ok ⟨by rw[hz.1],hz.2⟩ hl rfl
theorem call_stb (E:Env)(heads:List (Nat × Nat)){a:Int}{c c':X (WS × Unit)}(hc:Stb E st0 eq0 a c c')(h0:0≤a):Stb E st1 eq1 a (callX E.M heads c) (callX E.M' heads c'):=by
 have hL:=E.hL
 refine Stb.then eq0_refl (hc.part h0 (callee_stb E heads.length)) (fun y y' _ hq h1 h2=>?_)
 have hn:y'.1.n=y.1.n:=(congrArg WS.n hq).symm
 have h2':y.1.at'≤E.bs.length:=h2
 have h1':a≤y.1.at':=h1
 rw[hn]
 refine Stb.then eq1_refl (list_stb E _ [] y y' hq (by omega) (by omega)) (fun z z' _ hz h3 h4=>?_)
 have h3':y.1.at'≤z.2.1.at':=h3
 have h4':z.2.1.at'≤E.bs.length:=h4
 refine Stb.then eq1_refl (list_stb E _ [] z.2 z'.2 hz.2 (by omega) (by omega)) (fun u u' _ hu _ hl=>?_)
 exact Stb.ok ⟨by rw[hz.1,hu.1],hu.2⟩ hl rfl
theorem instr_stb (E:Env)(heads:List (Nat × Nat))(fR i:Nat)(x x':WS × Unit)(h:eq0 x x')(h0:0≤x.1.at')(h1:x.1.at'≤1000000000000000):Stb E st1 eq1 x.1.at' (instrX E.M heads fR i x) (instrX E.M' heads fR i x'):=by
 have hL:=E.hL
 refine Stb.then eq0_refl (next_stb E 154 1 x x' h h0 (by omega) (by omega)) (fun y y' hy hq k1 k2=>?_)
 obtain⟨e1,e2⟩:=nextX_at hy h0 (by omega) (by omega) E.hL
 have ho:y'.1.op=y.1.op:=(congrArg WS.op hq).symm
 have hyl:y.1.at'≤E.bs.length:=k2
 have hy0:0≤y.1.at':=by omega
 have hxl:x.1.at'≤E.bs.length:=by omega
 have hf:∀ ends makes:Bool,Stb E st0 eq0 y.1.at' (frontOk E.M ends makes true i x.1.at' y) (frontOk E.M' ends makes true i x.1.at' y'):=fun ends makes=>front_stb E ends makes true i x.1.at' y y' hq hyl h0 hxl (by omega)
 rw[ho,Eqv.at h]
 refine Stb.ite Iff.rfl (fun _=>?_) (fun _=>Stb.err (by simp) h0 hxl (by show y.1.at'≤x.1.at'+5;omega) hyl)
 refine Stb.ite Iff.rfl (fun _=>ret_stb E fR (hf _ _) hy0) (fun _=>?_)
 refine Stb.ite Iff.rfl (fun _=>call_stb E heads (hf _ _) hy0) (fun _=>?_)
 exact Stb.then eq0_refl (parts_stb E _ (hf _ _) hy0) (fun z z' _ hz _ hl=>Stb.ok ⟨rfl,hz⟩ hl rfl)
theorem Eqv.blank {s s':WS}(h:Eqv s s'):Eqv (blank s) (blank s'):=by
 have:=congrArg YtingenonbkencaaDoor.blank h
 exact this
theorem codeX_then {b:Nat}(M:Mode b)(heads:List (Nat × Nat))(fR len m:Nat)(x:WS × M.σ):codeX M heads fR len (m+1) x=thenX (instrX M heads fR (len-(m+1)) (blank x.1,x.2)) fun q=>thenX (codeX M heads fR len m q.2) fun q'=>.ok (aiOf q.1 q.2.1::q'.1,q'.2):=by
 simp only[codeX,thenX]
 cases instrX M heads fR (len-(m+1)) (blank x.1,x.2) with
 | error z=>rfl
 | ok q =>
   obtain⟨ll,y⟩:=q
   simp only
   cases codeX M heads fR len m y<;>rfl
theorem code_stb (E:Env)(heads:List (Nat × Nat))(fR len:Nat):∀ (m:Nat) (x x':WS × Unit),eq0 x x'→0≤x.1.at'→x.1.at'≤E.bs.length→Stb E st1 eq1 x.1.at' (codeX E.M heads fR len m x) (codeX E.M' heads fR len m x')
 | 0,x,x',h,_,hl=>Stb.ok (y:=([],x)) (y':=([],x')) ⟨rfl,h⟩ hl rfl
 | m+1,x,x',h,h0,hl=>by
   have hL:=E.hL
   refine Stb.cast (codeX_then E.M heads fR len m x) (codeX_then E.M' heads fR len m x') ?_
   refine Stb.then eq1_refl (instr_stb E heads fR _ (blank x.1,x.2) (blank x'.1,x'.2) (Eqv.blank h) h0 (by show x.1.at'≤_;omega)) (fun y y' _ hq h1 h2=>?_)
   have h1':x.1.at'≤y.2.1.at':=h1
   refine Stb.then eq1_refl (code_stb E heads fR len m y.2 y'.2 hq.2 (by omega) h2) (fun z z' _ hz _ hzl=>?_)
   refine Stb.ok ⟨?_,hz.2⟩ hzl rfl
   have e:aiOf y'.1 y'.2.1=aiOf y.1 y.2.1:=by
    rw[← hq.1]
    exact(congrArg (fun t:WS=>aiOf y.1 t) (Eq.symm hq.2):aiOf y.1 y'.2.1.bare=aiOf y.1 y.2.1.bare)
   rw[e,hz.1]
theorem headsX_then {b:Nat}(M:Mode b)(m:Nat)(x:WS × M.σ):headsX M (m+1) x=thenX (headX M x) fun y=>thenX (headsX M m y) fun q=>.ok (hdOf y.1::q.1,q.2):=by
 simp only[headsX,thenX]
 cases headX M x with
 | error z=>rfl
 | ok y =>
   simp only
   cases headsX M m y<;>rfl
theorem heads_stb (E:Env):∀ (m:Nat) (x x':WS × Unit),eq0 x x'→0≤x.1.at'→x.1.at'≤E.bs.length→Stb E st1 eq1 x.1.at' (headsX E.M m x) (headsX E.M' m x')
 | 0,x,x',h,_,hl=>Stb.ok (y:=([],x)) (y':=([],x')) ⟨rfl,h⟩ hl rfl
 | m+1,x,x',h,h0,hl=>by
   have hL:=E.hL
   refine Stb.cast (headsX_then E.M m x) (headsX_then E.M' m x') ?_
   refine Stb.then eq0_refl (head_stb E x x' h h0 (by omega)) (fun y y' _ hq h1 h2=>?_)
   have h1':x.1.at'≤y.1.at':=h1
   refine Stb.then eq1_refl (heads_stb E m y y' hq (by omega) h2) (fun z z' _ hz _ hzl=>?_)
   refine Stb.ok ⟨?_,hz.2⟩ hzl rfl
   have e:hdOf y'.1=hdOf y.1:=(congrArg hdOf (Eq.symm hq):hdOf y'.1.bare=hdOf y.1.bare)
   rw[e,hz.1]
def inFunc (h:HD)(s:WS):WS:={ s with fP:=h.P,fR:=(h.R.toNat:Nat),fV:=h.V,fC:=.slice none 0 0,len:=(h.len.toNat:Nat) }
theorem Eqv.inFunc {s s':WS}(h:Eqv s s')(d:HD):Eqv (inFunc d s) (inFunc d s'):=by
 have:=congrArg (fun t:WS=>(YtingenonbkencaaDoor.inFunc d t).bare) h
 exact this
theorem funcsX_then {b:Nat}(M:Mode b)(heads:List (Nat × Nat))(h:HD)(r:List HD)(x:WS × M.σ):funcsX M heads (h::r) x=thenX (codeX M heads h.R.toNat h.len.toNat h.len.toNat (inFunc h x.1,x.2)) fun q=>thenX (funcsX M heads r q.2) fun q'=>.ok (q.1::q'.1,q'.2):=by
 simp only[funcsX,thenX,inFunc]
 cases codeX M heads h.R.toNat h.len.toNat h.len.toNat ({ x.1 with fP:=h.P,fR:=(h.R.toNat:Nat),fV:=h.V,fC:=.slice none 0 0,len:=(h.len.toNat:Nat) },x.2) with
 | error z=>rfl
 | ok q =>
   obtain⟨l,y⟩:=q
   simp only
   cases funcsX M heads r y<;>rfl
theorem funcs_stb (E:Env)(heads:List (Nat × Nat)):∀ (l:List HD) (x x':WS × Unit),eq0 x x'→0≤x.1.at'→x.1.at'≤E.bs.length→Stb E st1 eq1 x.1.at' (funcsX E.M heads l x) (funcsX E.M' heads l x')
 | [],x,x',h,_,hl=>Stb.ok (y:=([],x)) (y':=([],x')) ⟨rfl,h⟩ hl rfl
 | d::r,x,x',h,h0,hl=>by
   refine Stb.cast (funcsX_then E.M heads d r x) (funcsX_then E.M' heads d r x') ?_
   refine Stb.then eq1_refl (code_stb E heads _ _ _ (inFunc d x.1,x.2) (inFunc d x'.1,x'.2) (Eqv.inFunc h d) h0 hl) (fun y y' _ hq h1 h2=>?_)
   have h1':x.1.at'≤y.2.1.at':=h1
   refine Stb.then eq1_refl (funcs_stb E heads r y.2 y'.2 hq.2 (by omega) h2) (fun z z' _ hz _ hzl=>?_)
   exact Stb.ok ⟨by rw[hq.1,hz.1],hz.2⟩ hzl rfl
def bodyX (b:Nat)(rv:Value)(bs:List UInt8)(s:WS)(fv:Value):X ((Int × List HD × List (List AI)) × (WS × Unit)) :=
 thenX (askX (reading b rv bs) 146 1 (fun s=>decide (0≤s.globals∧s.globals≤16)) 18 (s,())) fun y2 =>
  thenX (askX (reading b rv bs) 161 2 (fun s=>decide (1≤s.count∧s.count≤65535)) 20 y2) fun y3 =>
   thenX (headsX (reading b rv bs) y3.1.count.toNat y3) fun q =>
    thenX (funcsX (reading b rv bs) (headsOf q.1) q.1 ({ q.2.1 with funcs:=fv },q.2.2)) fun q'=>.ok ((y3.1.globals,q.1,q'.1),q'.2)
theorem throughX_body (b:Nat)(rv:Value)(bs:List UInt8)(s:WS)(fv:Value):throughX b rv bs s fv=if bs.take 6=magicL.take bs.length then thenX (bodyX b rv bs s fv) (fun q=>if q.2.1.at'=bs.length then .ok q.1 else .error (22,q.2.1.at')) else .error (10,0):=by
 unfold throughX bodyX
 split
 ·cases askX (reading b rv bs) 146 1 (fun s=>decide (0≤s.globals∧s.globals≤16)) 18 (s,()) with
  | error z=>rfl
  | ok y2 =>
    simp only[thenX]
    cases askX (reading b rv bs) 161 2 (fun s=>decide (1≤s.count∧s.count≤65535)) 20 y2 with
    | error z=>rfl
    | ok y3 =>
      simp only
      cases headsX (reading b rv bs) y3.1.count.toNat y3 with
      | error z=>rfl
      | ok q =>
        obtain⟨done,y⟩:=q
        simp only
        cases funcsX (reading b rv bs) (headsOf done) done ({ y.1 with funcs:=fv },y.2)<;>rfl
 ·rfl
theorem body_stb (E:Env)(s s':WS)(h:Eqv s s')(h6:s.at'=6)(fv fv':Value):Stb E st1 eq1 6 (bodyX E.b E.rv E.bs s fv) (bodyX E.b' E.rv' E.bs' s' fv'):=by
 have hL:=E.hL
 have k0:=ask_stb E 146 1 (fun s=>decide (0≤s.globals∧s.globals≤16)) (fun _=>rfl) 18 (by decide) (s,()) (s',()) h (by show 0≤s.at';omega) (by show s.at'≤_;omega) (by omega)
 rw[show((s,()):WS × Unit).1.at'=6 from h6] at k0
 refine Stb.then eq0_refl k0 (fun y2 y2' _ hq2 a2 l2=>?_)
 have a2':6≤y2.1.at':=a2
 have l2':y2.1.at'≤E.bs.length:=l2
 refine Stb.then eq0_refl (ask_stb E 161 2 _ (fun _=>rfl) 20 (by decide) y2 y2' hq2 (by omega) (by omega) (by omega)) (fun y3 y3' _ hq3 a3 l3=>?_)
 have a3':y2.1.at'≤y3.1.at':=a3
 have l3':y3.1.at'≤E.bs.length:=l3
 have hc:y3'.1.count=y3.1.count:=(congrArg WS.count hq3).symm
 have hg:y3'.1.globals=y3.1.globals:=(congrArg WS.globals hq3).symm
 rw[hc,hg]
 refine Stb.then eq1_refl (heads_stb E _ y3 y3' hq3 (by omega) l3') (fun q q' _ hq a4 l4=>?_)
 have a4':y3.1.at'≤q.2.1.at':=a4
 have hqf:Eqv { q.2.1 with funcs:=fv } { q'.2.1 with funcs:=fv' }:=hq.2
 rw[← hq.1]
 refine Stb.then eq1_refl (funcs_stb E (headsOf q.1) q.1 ({ q.2.1 with funcs:=fv },q.2.2) ({ q'.2.1 with funcs:=fv' },q'.2.2) hqf (by show 0≤q.2.1.at';omega) l4) (fun z z' _ hz _ hzl=>?_)
 exact Stb.ok ⟨by rw[hz.1],hz.2⟩ hzl rfl
end Go.Proofs.YtingenonbkencaaDoor
